import Derived.Test.YtjdcjfpfpaplladGreatP3
set_option maxHeartbeats 16000000
set_option maxRecDepth 100000
namespace Go.Proofs.YtjdcjfpfpaplladGreat
open Go.ChangeShapes Go.WideShapes Go.ChangeAt Go.RowKit
set_option linter.unusedSimpArgs false
set_option linter.unusedVariables false
theorem cend_any {w : World} {b p : Nat} {l : List UInt8} (h : BAt w b l p) :
    Calls Tryz.prog 119 #[ptrP b] w fun en w'=>Got b l (endD l.length (l.drop p)) w (VEnd w) en w':=by
  have hmf:∀ (fn:Fn) (first cap:Array Value) (w:World),(Instr.makeFunc fn first cap).run Tryz.prog w=.ok (.func fn first cap) w:=fun _ _ _ _=>rfl;have hbw:=h.lt;have F0:Hid (GB w ((w.alloc (.cells #[.int .i64 0,.int .i64 0,.int .i64 0,.slice none 0 0,.slice none 0 0,.int .i64 0,.slice none 0 0,.slice none 0 0,.slice none 0 0] 53)).alloc (.cells #[.int .i64 0,.int .i64 0,.int .i64 0,.slice none 0 0,.slice none 0 0,.int .i64 0,.slice none 0 0,.slice none 0 0,.slice none 0 0] 53)) b l p w.heap.size (w.heap.size+1) #[.int .i64 0,.int .i64 0,.int .i64 0,.slice none 0 0,.slice none 0 0,.int .i64 0,.slice none 0 0,.slice none 0 0,.slice none 0 0] #[.int .i64 0,.int .i64 0,.int .i64 0,.slice none 0 0,.slice none 0 0,.int .i64 0,.slice none 0 0,.slice none 0 0,.slice none 0 0] 53):=GB.start h;clear h;go_enter Tryz.func119,Tryz.ntmps119
  go_wp2_with fail
  refine (GB.callNums F0.out [0] (by simp) rfl (by decide) (by simp)).mono ?_;intro e' w1 hO;rcases hO with ⟨ns,p1,m1,rfl,hx1,r1,k1⟩ | ⟨y,c',a',m1,rfl,hc',k1⟩
  rotate_left
  · exact ⟨rfl,Got.bad (by rw [endD,rep1_eq,show repD (numD l.length) 1 (l.drop p)=_ from m1];rfl) hc' k1⟩
  have hl1:=rep_len m1
  obtain ⟨op,rfl⟩:∃ op,ns=[op]:=by
    match ns,hl1 with
    | [op],_=>exact ⟨op,rfl⟩
  have Bop:Hid (i64r op):=hx1 op (by simp);have E1:Hid (repD (numD l.length) 1 (l.drop p)=.ok ([op],l.drop p1)):=m1;have G1:Hid (GB _ _ _ _ _ _ _ _ #[.int .i64 op,.int .i64 0,.int .i64 0,.slice none 0 0,.slice none 0 0,.int .i64 0,.slice none 0 0,.slice none 0 0,.slice none 0 0] _):=r1;clear m1 r1 k1 hx1 hl1 F0;by_cases h1:op=1
  · subst h1;have HE:Hid (endD l.length (l.drop p)=(toD l.length (l.drop p1)).andThen fun t r=>.ok ((⟨1,0,t,zTo,[]⟩:MEnd),r)):=by rw [endD,rep1_eq,E1.out,DR.ok_andThen];exact if_pos rfl
    have yy:=cellOf G1.out.box 0 _ rfl;go_wp2_with fail
    refine (cto_any G1.out.rd).mono ?_;intro e' w2 hO;rcases hO with ⟨ty,p2,x2,m2,rfl,⟨qaty,qcty,qbty,qdty,rfl,hi2⟩,r2,k2⟩ | ⟨y,c',a',m2,rfl,hc',k2⟩
    rotate_left
    · exact ⟨rfl,Got.bad (by rw [HE.out,m2];rfl) hc' (G1.out.chg.trans k2)⟩
    have E2:Hid (toD l.length (l.drop p1)=.ok (ty,l.drop p2)):=m2;have G2:Hid (GB _ _ _ _ _ _ _ _ _ _):=G1.out.call r2 k2;have Kty:Hid (Kid toL (w.heap.size+1) w2 ty [.int .i64 ty.block,.slice qaty ty.regs.length qcty,.slice qbty ty.args.length qdty]):=Kid.mk hi2 G1.out.lt;clear hi2;clear m2 r2 k2 G1;obtain ⟨y0,y1,y2,y3,y4,y5,y6,y7,y8⟩:=cells9 G2.out.box;obtain ⟨u0,u1,u2,u3,u4,u5,u6,u7,u8⟩:=cells9 G2.out.res;obtain ⟨v0,v1,v2,v3,v4,v5,v6,v7,v8⟩:=frees9 G2.out.res;have z2:=freeOf G2.out.box 2;have z3:=freeOf G2.out.box 3;have z4:=freeOf G2.out.box 4;have hne:¬ (w.heap.size+1)=w.heap.size:=by omega
    go_wp2
    have DD:Hid (GinD _ _ _ _ _ _ #[.int .i64 1,.int .i64 0,.int .i64 ty.block,.slice qaty ty.regs.length qcty,.slice qbty ty.args.length qdty,.int .i64 0,.slice none 0 0,.slice none 0 0,.slice none 0 0] ((((((((((((w2.setCell ⟨(w.heap.size+1),2,none⟩ (.int .i64 ty.block)).setCell ⟨(w.heap.size+1),3,none⟩ (.slice qaty ty.regs.length qcty)).setCell ⟨(w.heap.size+1),4,none⟩ (.slice qbty ty.args.length qdty)).setCell ⟨w.heap.size,0,none⟩ (.int .i64 1)).setCell ⟨w.heap.size,1,none⟩ (.int .i64 0)).setCell ⟨w.heap.size,2,none⟩ (.int .i64 ty.block)).setCell ⟨w.heap.size,3,none⟩ (.slice qaty ty.regs.length qcty)).setCell ⟨w.heap.size,4,none⟩ (.slice qbty ty.args.length qdty)).setCell ⟨w.heap.size,5,none⟩ (.int .i64 0)).setCell ⟨w.heap.size,6,none⟩ (.slice none 0 0)).setCell ⟨w.heap.size,7,none⟩ (.slice none 0 0)).setCell ⟨w.heap.size,8,none⟩ (.slice none 0 0))):=GB.fin (GB.set (GB.set (GB.set G2.out 2 (.int .i64 ty.block)) 3 (.slice qaty ty.regs.length qcty)) 4 (.slice qbty ty.args.length qdty)) [.int .i64 1,.int .i64 0,.int .i64 ty.block,.slice qaty ty.regs.length qcty,.slice qbty ty.args.length qdty,.int .i64 0,.slice none 0 0,.slice none 0 0,.slice none 0 0] rfl;have DKty:Hid (Kid _ _ ((((((((((((w2.setCell ⟨(w.heap.size+1),2,none⟩ (.int .i64 ty.block)).setCell ⟨(w.heap.size+1),3,none⟩ (.slice qaty ty.regs.length qcty)).setCell ⟨(w.heap.size+1),4,none⟩ (.slice qbty ty.args.length qdty)).setCell ⟨w.heap.size,0,none⟩ (.int .i64 1)).setCell ⟨w.heap.size,1,none⟩ (.int .i64 0)).setCell ⟨w.heap.size,2,none⟩ (.int .i64 ty.block)).setCell ⟨w.heap.size,3,none⟩ (.slice qaty ty.regs.length qcty)).setCell ⟨w.heap.size,4,none⟩ (.slice qbty ty.args.length qdty)).setCell ⟨w.heap.size,5,none⟩ (.int .i64 0)).setCell ⟨w.heap.size,6,none⟩ (.slice none 0 0)).setCell ⟨w.heap.size,7,none⟩ (.slice none 0 0)).setCell ⟨w.heap.size,8,none⟩ (.slice none 0 0)) _ _):=Kid.sets (Kid.set (Kid.set (Kid.set Kty.out (q:=⟨(w.heap.size+1),2,none⟩) (Nat.le_refl _) _) (q:=⟨(w.heap.size+1),3,none⟩) (Nat.le_refl _) _) (q:=⟨(w.heap.size+1),4,none⟩) (Nat.le_refl _) _) (by omega) [.int .i64 1,.int .i64 0,.int .i64 ty.block,.slice qaty ty.regs.length qcty,.slice qbty ty.args.length qdty,.int .i64 0,.slice none 0 0,.slice none 0 0,.slice none 0 0] 0;clear Kty;clear y0 u0 v0 y1 u1 v1 y2 u2 v2 y3 u3 v3 y4 u4 v4 y5 u5 v5 y6 u6 v6 y7 u7 v7 y8 u8 v8;generalize ((((((((((((w2.setCell ⟨(w.heap.size+1),2,none⟩ (.int .i64 ty.block)).setCell ⟨(w.heap.size+1),3,none⟩ (.slice qaty ty.regs.length qcty)).setCell ⟨(w.heap.size+1),4,none⟩ (.slice qbty ty.args.length qdty)).setCell ⟨w.heap.size,0,none⟩ (.int .i64 1)).setCell ⟨w.heap.size,1,none⟩ (.int .i64 0)).setCell ⟨w.heap.size,2,none⟩ (.int .i64 ty.block)).setCell ⟨w.heap.size,3,none⟩ (.slice qaty ty.regs.length qcty)).setCell ⟨w.heap.size,4,none⟩ (.slice qbty ty.args.length qdty)).setCell ⟨w.heap.size,5,none⟩ (.int .i64 0)).setCell ⟨w.heap.size,6,none⟩ (.slice none 0 0)).setCell ⟨w.heap.size,7,none⟩ (.slice none 0 0)).setCell ⟨w.heap.size,8,none⟩ (.slice none 0 0))=w9 at DD DKty ⊢;obtain ⟨D1,D2,D3⟩:=DD.out;obtain ⟨x0,x1,x2,x3,x4,x5,x6,x7,x8⟩:=cells9 D1;exact bodyPost_ret (v:=.agg #[.int .i64 1,.int .i64 0,.int .i64 ty.block,.slice qaty ty.regs.length qcty,.slice qbty ty.args.length qdty,.int .i64 0,.slice none 0 0,.slice none 0 0,.slice none 0 0]) (by simp [results,Tryz.results119,go_sem,x0,x1,x2,x3,x4,x5,x6,x7,x8]) rfl (Got.good (by rw [HE.out,E2.out,DR.ok_andThen]) (⟨qaty,qcty,qbty,qdty,none,0,none,0,none,0,rfl,end_mk (x:=⟨1,0,ty,zTo,[]⟩) (Kid.out DKty.out (by omega)) (noTo_inC _ _) (Lay.list_nil _ _ _ _ _) ⟨lit64 1 rfl,lit64 0 rfl⟩⟩) D2 D3)
  by_cases h2:op=2
  · subst h2;clear h1;have HE:Hid (endD l.length (l.drop p)=(numD l.length (l.drop p1)).andThen fun a r=>(toD l.length r).andThen fun t r=>(toD l.length r).andThen fun u r=>.ok ((⟨2,a,t,u,[]⟩:MEnd),r)):=by rw [endD,rep1_eq,E1.out,DR.ok_andThen];exact (if_neg (by decide)).trans (if_pos rfl)
    have yy:=cellOf G1.out.box 0 _ rfl;go_wp2_with fail
    refine (GB.callNums G1.out [1] (by simp) rfl (by decide) (by simp)).mono ?_;intro e' w2 hO;rcases hO with ⟨ns,p2,m2,rfl,hx2,r2,k2⟩ | ⟨y,c',a',m2,rfl,hc',k2⟩
    rotate_left
    · exact ⟨rfl,Got.bad (by rw [HE.out,rep1_eq,show repD (numD l.length) 1 (l.drop p1)=_ from m2];rfl) hc' k2⟩
    have hl2:=rep_len m2
    obtain ⟨na,rfl⟩:∃ na,ns=[na]:=by
      match ns,hl2 with
      | [na],_=>exact ⟨na,rfl⟩
    have Bna:Hid (i64r na):=hx2 na (by simp);have E2:Hid (repD (numD l.length) 1 (l.drop p1)=.ok ([na],l.drop p2)):=m2;have G2:Hid (GB _ _ _ _ _ _ _ _ #[.int .i64 2,.int .i64 na,.int .i64 0,.slice none 0 0,.slice none 0 0,.int .i64 0,.slice none 0 0,.slice none 0 0,.slice none 0 0] _):=r2;clear m2 r2 k2 hx2 hl2 G1;go_wp2_with fail
    refine (cto_any G2.out.rd).mono ?_;intro e' w3 hO;rcases hO with ⟨ty,p3,x3,m3,rfl,⟨qaty,qcty,qbty,qdty,rfl,hi3⟩,r3,k3⟩ | ⟨y,c',a',m3,rfl,hc',k3⟩
    rotate_left
    · exact ⟨rfl,Got.bad (by rw [HE.out,rep1_eq,E2.out,DR.ok_andThen,m3];rfl) hc' (G2.out.chg.trans k3)⟩
    have E3:Hid (toD l.length (l.drop p2)=.ok (ty,l.drop p3)):=m3;have G3:Hid (GB _ _ _ _ _ _ _ _ _ _):=G2.out.call r3 k3;have Kty:Hid (Kid toL (w.heap.size+1) w3 ty [.int .i64 ty.block,.slice qaty ty.regs.length qcty,.slice qbty ty.args.length qdty]):=Kid.mk hi3 G2.out.lt;clear hi3;clear m3 r3 k3 G2;have y2:=cellOf G3.out.box 2 _ rfl;have z2:=freeOf G3.out.box 2;have y3:=cellOf G3.out.box 3 _ rfl;have z3:=freeOf G3.out.box 3;have y4:=cellOf G3.out.box 4 _ rfl;have z4:=freeOf G3.out.box 4;go_wp2_with fail
    have G4:Hid (GB _ (((w3.setCell ⟨(w.heap.size+1),2,none⟩ (.int .i64 ty.block)).setCell ⟨(w.heap.size+1),3,none⟩ (.slice qaty ty.regs.length qcty)).setCell ⟨(w.heap.size+1),4,none⟩ (.slice qbty ty.args.length qdty)) _ _ _ _ _ _ #[.int .i64 2,.int .i64 na,.int .i64 ty.block,.slice qaty ty.regs.length qcty,.slice qbty ty.args.length qdty,.int .i64 0,.slice none 0 0,.slice none 0 0,.slice none 0 0] _):=(GB.set (GB.set (GB.set G3.out 2 (.int .i64 ty.block)) 3 (.slice qaty ty.regs.length qcty)) 4 (.slice qbty ty.args.length qdty));have KtyG4:Hid (Kid _ _ (((w3.setCell ⟨(w.heap.size+1),2,none⟩ (.int .i64 ty.block)).setCell ⟨(w.heap.size+1),3,none⟩ (.slice qaty ty.regs.length qcty)).setCell ⟨(w.heap.size+1),4,none⟩ (.slice qbty ty.args.length qdty)) _ _):=(Kid.set (Kid.set (Kid.set Kty.out (q:=⟨(w.heap.size+1),2,none⟩) (Nat.le_refl _) _) (q:=⟨(w.heap.size+1),3,none⟩) (Nat.le_refl _) _) (q:=⟨(w.heap.size+1),4,none⟩) (Nat.le_refl _) _);clear Kty;generalize (((w3.setCell ⟨(w.heap.size+1),2,none⟩ (.int .i64 ty.block)).setCell ⟨(w.heap.size+1),3,none⟩ (.slice qaty ty.regs.length qcty)).setCell ⟨(w.heap.size+1),4,none⟩ (.slice qbty ty.args.length qdty))=w4 at G4 KtyG4 ⊢;clear y2 z2 y3 z3 y4 z4 G3;refine (cto_any G4.out.rd).mono ?_;intro e' w5 hO;rcases hO with ⟨tn,p5,x5,m5,rfl,⟨qatn,qctn,qbtn,qdtn,rfl,hi5⟩,r5,k5⟩ | ⟨y,c',a',m5,rfl,hc',k5⟩
    rotate_left
    · exact ⟨rfl,Got.bad (by rw [HE.out,rep1_eq,E2.out,DR.ok_andThen,E3.out,DR.ok_andThen,m5];rfl) hc' (G4.out.chg.trans k5)⟩
    have E5:Hid (toD l.length (l.drop p3)=.ok (tn,l.drop p5)):=m5;have G5:Hid (GB _ _ _ _ _ _ _ _ _ _):=G4.out.call r5 k5;have KtyG46_:Hid (Kid _ _ _ _ _):=KtyG4.out.chg k5 (by omega);clear KtyG4;have Ktn:Hid (Kid toL (w.heap.size+1) w5 tn [.int .i64 tn.block,.slice qatn tn.regs.length qctn,.slice qbtn tn.args.length qdtn]):=Kid.mk hi5 G4.out.lt;clear hi5;clear m5 r5 k5 G4;obtain ⟨y0,y1,y2,y3,y4,y5,y6,y7,y8⟩:=cells9 G5.out.box;obtain ⟨u0,u1,u2,u3,u4,u5,u6,u7,u8⟩:=cells9 G5.out.res;obtain ⟨v0,v1,v2,v3,v4,v5,v6,v7,v8⟩:=frees9 G5.out.res;have z5:=freeOf G5.out.box 5;have z6:=freeOf G5.out.box 6;have z7:=freeOf G5.out.box 7;have hne:¬ (w.heap.size+1)=w.heap.size:=by omega
    go_wp2
    have DD:Hid (GinD _ _ _ _ _ _ #[.int .i64 2,.int .i64 na,.int .i64 ty.block,.slice qaty ty.regs.length qcty,.slice qbty ty.args.length qdty,.int .i64 tn.block,.slice qatn tn.regs.length qctn,.slice qbtn tn.args.length qdtn,.slice none 0 0] ((((((((((((w5.setCell ⟨(w.heap.size+1),5,none⟩ (.int .i64 tn.block)).setCell ⟨(w.heap.size+1),6,none⟩ (.slice qatn tn.regs.length qctn)).setCell ⟨(w.heap.size+1),7,none⟩ (.slice qbtn tn.args.length qdtn)).setCell ⟨w.heap.size,0,none⟩ (.int .i64 2)).setCell ⟨w.heap.size,1,none⟩ (.int .i64 na)).setCell ⟨w.heap.size,2,none⟩ (.int .i64 ty.block)).setCell ⟨w.heap.size,3,none⟩ (.slice qaty ty.regs.length qcty)).setCell ⟨w.heap.size,4,none⟩ (.slice qbty ty.args.length qdty)).setCell ⟨w.heap.size,5,none⟩ (.int .i64 tn.block)).setCell ⟨w.heap.size,6,none⟩ (.slice qatn tn.regs.length qctn)).setCell ⟨w.heap.size,7,none⟩ (.slice qbtn tn.args.length qdtn)).setCell ⟨w.heap.size,8,none⟩ (.slice none 0 0))):=GB.fin (GB.set (GB.set (GB.set G5.out 5 (.int .i64 tn.block)) 6 (.slice qatn tn.regs.length qctn)) 7 (.slice qbtn tn.args.length qdtn)) [.int .i64 2,.int .i64 na,.int .i64 ty.block,.slice qaty ty.regs.length qcty,.slice qbty ty.args.length qdty,.int .i64 tn.block,.slice qatn tn.regs.length qctn,.slice qbtn tn.args.length qdtn,.slice none 0 0] rfl;have DKtyG46_:Hid (Kid _ _ ((((((((((((w5.setCell ⟨(w.heap.size+1),5,none⟩ (.int .i64 tn.block)).setCell ⟨(w.heap.size+1),6,none⟩ (.slice qatn tn.regs.length qctn)).setCell ⟨(w.heap.size+1),7,none⟩ (.slice qbtn tn.args.length qdtn)).setCell ⟨w.heap.size,0,none⟩ (.int .i64 2)).setCell ⟨w.heap.size,1,none⟩ (.int .i64 na)).setCell ⟨w.heap.size,2,none⟩ (.int .i64 ty.block)).setCell ⟨w.heap.size,3,none⟩ (.slice qaty ty.regs.length qcty)).setCell ⟨w.heap.size,4,none⟩ (.slice qbty ty.args.length qdty)).setCell ⟨w.heap.size,5,none⟩ (.int .i64 tn.block)).setCell ⟨w.heap.size,6,none⟩ (.slice qatn tn.regs.length qctn)).setCell ⟨w.heap.size,7,none⟩ (.slice qbtn tn.args.length qdtn)).setCell ⟨w.heap.size,8,none⟩ (.slice none 0 0)) _ _):=Kid.sets (Kid.set (Kid.set (Kid.set KtyG46_.out (q:=⟨(w.heap.size+1),5,none⟩) (Nat.le_refl _) _) (q:=⟨(w.heap.size+1),6,none⟩) (Nat.le_refl _) _) (q:=⟨(w.heap.size+1),7,none⟩) (Nat.le_refl _) _) (by omega) [.int .i64 2,.int .i64 na,.int .i64 ty.block,.slice qaty ty.regs.length qcty,.slice qbty ty.args.length qdty,.int .i64 tn.block,.slice qatn tn.regs.length qctn,.slice qbtn tn.args.length qdtn,.slice none 0 0] 0;clear KtyG46_;have DKtn:Hid (Kid _ _ ((((((((((((w5.setCell ⟨(w.heap.size+1),5,none⟩ (.int .i64 tn.block)).setCell ⟨(w.heap.size+1),6,none⟩ (.slice qatn tn.regs.length qctn)).setCell ⟨(w.heap.size+1),7,none⟩ (.slice qbtn tn.args.length qdtn)).setCell ⟨w.heap.size,0,none⟩ (.int .i64 2)).setCell ⟨w.heap.size,1,none⟩ (.int .i64 na)).setCell ⟨w.heap.size,2,none⟩ (.int .i64 ty.block)).setCell ⟨w.heap.size,3,none⟩ (.slice qaty ty.regs.length qcty)).setCell ⟨w.heap.size,4,none⟩ (.slice qbty ty.args.length qdty)).setCell ⟨w.heap.size,5,none⟩ (.int .i64 tn.block)).setCell ⟨w.heap.size,6,none⟩ (.slice qatn tn.regs.length qctn)).setCell ⟨w.heap.size,7,none⟩ (.slice qbtn tn.args.length qdtn)).setCell ⟨w.heap.size,8,none⟩ (.slice none 0 0)) _ _):=Kid.sets (Kid.set (Kid.set (Kid.set Ktn.out (q:=⟨(w.heap.size+1),5,none⟩) (Nat.le_refl _) _) (q:=⟨(w.heap.size+1),6,none⟩) (Nat.le_refl _) _) (q:=⟨(w.heap.size+1),7,none⟩) (Nat.le_refl _) _) (by omega) [.int .i64 2,.int .i64 na,.int .i64 ty.block,.slice qaty ty.regs.length qcty,.slice qbty ty.args.length qdty,.int .i64 tn.block,.slice qatn tn.regs.length qctn,.slice qbtn tn.args.length qdtn,.slice none 0 0] 0;clear Ktn;clear y0 u0 v0 y1 u1 v1 y2 u2 v2 y3 u3 v3 y4 u4 v4 y5 u5 v5 y6 u6 v6 y7 u7 v7 y8 u8 v8;generalize ((((((((((((w5.setCell ⟨(w.heap.size+1),5,none⟩ (.int .i64 tn.block)).setCell ⟨(w.heap.size+1),6,none⟩ (.slice qatn tn.regs.length qctn)).setCell ⟨(w.heap.size+1),7,none⟩ (.slice qbtn tn.args.length qdtn)).setCell ⟨w.heap.size,0,none⟩ (.int .i64 2)).setCell ⟨w.heap.size,1,none⟩ (.int .i64 na)).setCell ⟨w.heap.size,2,none⟩ (.int .i64 ty.block)).setCell ⟨w.heap.size,3,none⟩ (.slice qaty ty.regs.length qcty)).setCell ⟨w.heap.size,4,none⟩ (.slice qbty ty.args.length qdty)).setCell ⟨w.heap.size,5,none⟩ (.int .i64 tn.block)).setCell ⟨w.heap.size,6,none⟩ (.slice qatn tn.regs.length qctn)).setCell ⟨w.heap.size,7,none⟩ (.slice qbtn tn.args.length qdtn)).setCell ⟨w.heap.size,8,none⟩ (.slice none 0 0))=w9 at DD DKtyG46_ DKtn ⊢;obtain ⟨D1,D2,D3⟩:=DD.out;obtain ⟨x0,x1,x2,x3,x4,x5,x6,x7,x8⟩:=cells9 D1;exact bodyPost_ret (v:=.agg #[.int .i64 2,.int .i64 na,.int .i64 ty.block,.slice qaty ty.regs.length qcty,.slice qbty ty.args.length qdty,.int .i64 tn.block,.slice qatn tn.regs.length qctn,.slice qbtn tn.args.length qdtn,.slice none 0 0]) (by simp [results,Tryz.results119,go_sem,x0,x1,x2,x3,x4,x5,x6,x7,x8]) rfl (Got.good (by rw [HE.out,rep1_eq,E2.out,DR.ok_andThen,E3.out,DR.ok_andThen,E5.out,DR.ok_andThen];rfl) (⟨qaty,qcty,qbty,qdty,qatn,qctn,qbtn,qdtn,none,0,rfl,end_mk (x:=⟨2,na,ty,tn,[]⟩) (Kid.out DKtyG46_.out (by omega)) (Kid.out DKtn.out (by omega)) (Lay.list_nil _ _ _ _ _) ⟨lit64 2 rfl,Bna.out⟩⟩) D2 D3)
  by_cases h3:op=3
  · subst h3;clear h1 h2;have HE:Hid (endD l.length (l.drop p)=(lstD l.length (numD l.length) (l.drop p1)).andThen fun x r=>.ok ((⟨3,0,zTo,zTo,x⟩:MEnd),r)):=by rw [endD,rep1_eq,E1.out,DR.ok_andThen];exact (if_neg (by decide)).trans ((if_neg (by decide)).trans (if_pos rfl))
    have yy:=cellOf G1.out.box 0 _ rfl;go_wp2_with fail
    refine (cints_any G1.out.rd).mono ?_;intro e' w2 hO;rcases hO with ⟨ys,p2,x2,m2,rfl,⟨ay,cy,rfl,hi2⟩,r2,k2⟩ | ⟨y,c',a',m2,rfl,hc',k2⟩
    rotate_left
    · exact ⟨rfl,Got.bad (by rw [HE.out,m2];rfl) hc' (G1.out.chg.trans k2)⟩
    have E2:Hid (lstD l.length (numD l.length) (l.drop p1)=.ok (ys,l.drop p2)):=m2;have G2:Hid (GB _ _ _ _ _ _ _ _ _ _):=G1.out.call r2 k2;have Kys:Hid (Kid intsL (w.heap.size+1) w2 ys [.slice ay ys.length cy]):=Kid.mk hi2 G1.out.lt;clear hi2;clear m2 r2 k2 G1;obtain ⟨y0,y1,y2,y3,y4,y5,y6,y7,y8⟩:=cells9 G2.out.box;obtain ⟨u0,u1,u2,u3,u4,u5,u6,u7,u8⟩:=cells9 G2.out.res;obtain ⟨v0,v1,v2,v3,v4,v5,v6,v7,v8⟩:=frees9 G2.out.res;have z8:=freeOf G2.out.box 8;have hne:¬ (w.heap.size+1)=w.heap.size:=by omega
    go_wp2
    have DD:Hid (GinD _ _ _ _ _ _ #[.int .i64 3,.int .i64 0,.int .i64 0,.slice none 0 0,.slice none 0 0,.int .i64 0,.slice none 0 0,.slice none 0 0,.slice ay ys.length cy] ((((((((((w2.setCell ⟨(w.heap.size+1),8,none⟩ (.slice ay ys.length cy)).setCell ⟨w.heap.size,0,none⟩ (.int .i64 3)).setCell ⟨w.heap.size,1,none⟩ (.int .i64 0)).setCell ⟨w.heap.size,2,none⟩ (.int .i64 0)).setCell ⟨w.heap.size,3,none⟩ (.slice none 0 0)).setCell ⟨w.heap.size,4,none⟩ (.slice none 0 0)).setCell ⟨w.heap.size,5,none⟩ (.int .i64 0)).setCell ⟨w.heap.size,6,none⟩ (.slice none 0 0)).setCell ⟨w.heap.size,7,none⟩ (.slice none 0 0)).setCell ⟨w.heap.size,8,none⟩ (.slice ay ys.length cy))):=GB.fin (GB.set G2.out 8 (.slice ay ys.length cy)) [.int .i64 3,.int .i64 0,.int .i64 0,.slice none 0 0,.slice none 0 0,.int .i64 0,.slice none 0 0,.slice none 0 0,.slice ay ys.length cy] rfl;have DKys:Hid (Kid _ _ ((((((((((w2.setCell ⟨(w.heap.size+1),8,none⟩ (.slice ay ys.length cy)).setCell ⟨w.heap.size,0,none⟩ (.int .i64 3)).setCell ⟨w.heap.size,1,none⟩ (.int .i64 0)).setCell ⟨w.heap.size,2,none⟩ (.int .i64 0)).setCell ⟨w.heap.size,3,none⟩ (.slice none 0 0)).setCell ⟨w.heap.size,4,none⟩ (.slice none 0 0)).setCell ⟨w.heap.size,5,none⟩ (.int .i64 0)).setCell ⟨w.heap.size,6,none⟩ (.slice none 0 0)).setCell ⟨w.heap.size,7,none⟩ (.slice none 0 0)).setCell ⟨w.heap.size,8,none⟩ (.slice ay ys.length cy)) _ _):=Kid.sets (Kid.set Kys.out (q:=⟨(w.heap.size+1),8,none⟩) (Nat.le_refl _) _) (by omega) [.int .i64 3,.int .i64 0,.int .i64 0,.slice none 0 0,.slice none 0 0,.int .i64 0,.slice none 0 0,.slice none 0 0,.slice ay ys.length cy] 0;clear Kys;clear y0 u0 v0 y1 u1 v1 y2 u2 v2 y3 u3 v3 y4 u4 v4 y5 u5 v5 y6 u6 v6 y7 u7 v7 y8 u8 v8;generalize ((((((((((w2.setCell ⟨(w.heap.size+1),8,none⟩ (.slice ay ys.length cy)).setCell ⟨w.heap.size,0,none⟩ (.int .i64 3)).setCell ⟨w.heap.size,1,none⟩ (.int .i64 0)).setCell ⟨w.heap.size,2,none⟩ (.int .i64 0)).setCell ⟨w.heap.size,3,none⟩ (.slice none 0 0)).setCell ⟨w.heap.size,4,none⟩ (.slice none 0 0)).setCell ⟨w.heap.size,5,none⟩ (.int .i64 0)).setCell ⟨w.heap.size,6,none⟩ (.slice none 0 0)).setCell ⟨w.heap.size,7,none⟩ (.slice none 0 0)).setCell ⟨w.heap.size,8,none⟩ (.slice ay ys.length cy))=w9 at DD DKys ⊢;obtain ⟨D1,D2,D3⟩:=DD.out;obtain ⟨x0,x1,x2,x3,x4,x5,x6,x7,x8⟩:=cells9 D1;exact bodyPost_ret (v:=.agg #[.int .i64 3,.int .i64 0,.int .i64 0,.slice none 0 0,.slice none 0 0,.int .i64 0,.slice none 0 0,.slice none 0 0,.slice ay ys.length cy]) (by simp [results,Tryz.results119,go_sem,x0,x1,x2,x3,x4,x5,x6,x7,x8]) rfl (Got.good (by rw [HE.out,E2.out,DR.ok_andThen]) (⟨none,0,none,0,none,0,none,0,ay,cy,rfl,end_mk (x:=⟨3,0,zTo,zTo,ys⟩) (noTo_inC _ _) (noTo_inC _ _) (Kid.out DKys.out (by omega)) ⟨lit64 3 rfl,lit64 0 rfl⟩⟩) D2 D3)
  have HE:Hid (endD l.length (l.drop p)=.ok ((⟨op,0,zTo,zTo,[]⟩:MEnd),l.drop p1)):=by rw [endD,rep1_eq,E1.out,DR.ok_andThen];exact (if_neg h1).trans ((if_neg h2).trans (if_neg h3))
  have yy:=cellOf G1.out.box 0 _ rfl;obtain ⟨y0,y1,y2,y3,y4,y5,y6,y7,y8⟩:=cells9 G1.out.box;obtain ⟨u0,u1,u2,u3,u4,u5,u6,u7,u8⟩:=cells9 G1.out.res;obtain ⟨v0,v1,v2,v3,v4,v5,v6,v7,v8⟩:=frees9 G1.out.res;have hne:¬ (w.heap.size+1)=w.heap.size:=by omega
  go_wp2
  have DD:Hid (GinD _ _ _ _ _ _ #[.int .i64 op,.int .i64 0,.int .i64 0,.slice none 0 0,.slice none 0 0,.int .i64 0,.slice none 0 0,.slice none 0 0,.slice none 0 0] (((((((((w1.setCell ⟨w.heap.size,0,none⟩ (.int .i64 op)).setCell ⟨w.heap.size,1,none⟩ (.int .i64 0)).setCell ⟨w.heap.size,2,none⟩ (.int .i64 0)).setCell ⟨w.heap.size,3,none⟩ (.slice none 0 0)).setCell ⟨w.heap.size,4,none⟩ (.slice none 0 0)).setCell ⟨w.heap.size,5,none⟩ (.int .i64 0)).setCell ⟨w.heap.size,6,none⟩ (.slice none 0 0)).setCell ⟨w.heap.size,7,none⟩ (.slice none 0 0)).setCell ⟨w.heap.size,8,none⟩ (.slice none 0 0))):=GB.fin G1.out [.int .i64 op,.int .i64 0,.int .i64 0,.slice none 0 0,.slice none 0 0,.int .i64 0,.slice none 0 0,.slice none 0 0,.slice none 0 0] rfl;clear y0 u0 v0 y1 u1 v1 y2 u2 v2 y3 u3 v3 y4 u4 v4 y5 u5 v5 y6 u6 v6 y7 u7 v7 y8 u8 v8;generalize (((((((((w1.setCell ⟨w.heap.size,0,none⟩ (.int .i64 op)).setCell ⟨w.heap.size,1,none⟩ (.int .i64 0)).setCell ⟨w.heap.size,2,none⟩ (.int .i64 0)).setCell ⟨w.heap.size,3,none⟩ (.slice none 0 0)).setCell ⟨w.heap.size,4,none⟩ (.slice none 0 0)).setCell ⟨w.heap.size,5,none⟩ (.int .i64 0)).setCell ⟨w.heap.size,6,none⟩ (.slice none 0 0)).setCell ⟨w.heap.size,7,none⟩ (.slice none 0 0)).setCell ⟨w.heap.size,8,none⟩ (.slice none 0 0))=w9 at DD ⊢;obtain ⟨D1,D2,D3⟩:=DD.out;obtain ⟨x0,x1,x2,x3,x4,x5,x6,x7,x8⟩:=cells9 D1;exact bodyPost_ret (v:=.agg #[.int .i64 op,.int .i64 0,.int .i64 0,.slice none 0 0,.slice none 0 0,.int .i64 0,.slice none 0 0,.slice none 0 0,.slice none 0 0]) (by simp [results,Tryz.results119,go_sem,x0,x1,x2,x3,x4,x5,x6,x7,x8]) rfl (Got.good (by rw [HE.out]) (⟨none,0,none,0,none,0,none,0,none,0,rfl,end_mk (x:=⟨op,0,zTo,zTo,[]⟩) (noTo_inC _ _) (noTo_inC _ _) (Lay.list_nil _ _ _ _ _) ⟨Bop.out,lit64 0 rfl⟩⟩) D2 D3)
def VTypsD (d : Nat) (w0 : World) : World → List (TT d) → Value → Prop := fun w' xs x => ∃ a c, x = .slice a xs.length c ∧ (typesL d).In w' (fun g => w0.heap.size ≤ g) xs [.slice a xs.length c]
def CTypes (d : Nat) (k : Int) : Prop := ∀ (w : World) (b : Nat) (l : List UInt8) (p : Nat), BAt w b l p → Calls Tryz.prog 89 #[ptrP b, .int .i64 k] w fun en w' => Got b l (typsD l.length d (l.drop p)) w (VTypsD d w) en w'
theorem enters_ctypes1 : Enters 116 := fun _ _ => by kernel_rfl
theorem ctyp1_any {w : World} {b p : Nat} {l : List UInt8} {d : Nat} {dp : Int} (hd0 : 0 ≤ dp) (hd5 : dp ≤ 5) (IH0 : CTypes d (dp + 1)) {B1 B2 : Nat} {T1 T2 : TypeId} (hb1 : Blk w B1 #[ptrP b] T1) (hb2 : Blk w B2 #[.int .i64 dp] T2) (hn1 : B1 ≠ b) (hn2 : B2 ≠ b) (h : BAt w b l p) :
    Calls Tryz.prog 116 #[ptrP B1,ptrP B2] w fun en w'=>Got b l (typD l.length (typsD l.length d) (l.drop p)) w (VTyp d w) en w':=by
  have hbw:=h.lt;have hl1:=hb1.lt;have hl2:=hb2.lt;have F0:Hid (GB w ((w.alloc (.cells #[.int .i64 0,.int .i64 0,.slice none 0 0] 88)).alloc (.cells #[.int .i64 0,.int .i64 0,.slice none 0 0] 88)) b l p w.heap.size (w.heap.size+1) #[.int .i64 0,.int .i64 0,.slice none 0 0] #[.int .i64 0,.int .i64 0,.slice none 0 0] 88):=GB.start h;have IH:Hid (CTypes d (dp+1)):=IH0;have Y1:Hid (Blk w B1 #[ptrP b] T1):=hb1;have Y2:Hid (Blk w B2 #[.int .i64 dp] T2):=hb2;have N1:Hid (B1≠b):=hn1;have N2:Hid (B2≠b):=hn2;clear h hb1 hb2 IH0 hn1 hn2;go_enter Tryz.func116,Tryz.ntmps116
  go_upto_region 2 with fail
  generalize (w.alloc (.cells #[.int .i64 0,.int .i64 0,.slice none 0 0] 88)).alloc (.cells #[.int .i64 0,.int .i64 0,.slice none 0 0] 88)=w0 at F0 ⊢;have q1:=cellOf (Y1.out.chg F0.out.chg N1.out) 0 _ rfl;have q2:=cellOf (Y2.out.chg F0.out.chg N2.out) 0 _ rfl;have q0:=cellOf F0.out.box 0 _ rfl;go_wp2_with fail
  clear q0 q1 q2;refine (GB.callNums F0.out [0] (by simp) rfl (by decide) (by simp)).mono ?_;intro e' w1 hO;rcases hO with ⟨ns,p1,m1,rfl,hx1,r1,k1⟩ | ⟨y,c',a',m1,rfl,hc',k1⟩
  rotate_left
  · exact ⟨rfl,Got.bad (by rw [typD,rep1_eq,show repD (numD l.length) 1 (l.drop p)=_ from m1];rfl) hc' k1⟩
  have hl1:=rep_len m1
  obtain ⟨kd,rfl⟩:∃ kd,ns=[kd]:=by
    match ns,hl1 with
    | [kd],_=>exact ⟨kd,rfl⟩
  have Bkd:Hid (i64r kd):=hx1 kd (by simp);have E1:Hid (repD (numD l.length) 1 (l.drop p)=.ok ([kd],l.drop p1)):=m1;have G1:Hid (GB _ _ _ _ _ _ _ _ #[.int .i64 kd,.int .i64 0,.slice none 0 0] _):=r1;clear m1 r1 k1 hx1 hl1 F0;by_cases h1:kd=1
  · subst h1;have HE:Hid (typD l.length (typsD l.length d) (l.drop p)=.ok (((1,0,[]):TT (d+1)),l.drop p1)):=by rw [typD,rep1_eq,E1.out,DR.ok_andThen];rfl
    obtain ⟨y0,y1,y2⟩:=cells3 G1.out.box;obtain ⟨u0,u1,u2⟩:=cells3 G1.out.res;obtain ⟨v0,v1,v2⟩:=frees3 G1.out.res;have hne:¬ (w.heap.size+1)=w.heap.size:=by omega
    go_wp2
    have DD:Hid (GinD _ _ _ _ _ _ #[.int .i64 1,.int .i64 0,.slice none 0 0] (((w1.setCell ⟨w.heap.size,0,none⟩ (.int .i64 1)).setCell ⟨w.heap.size,1,none⟩ (.int .i64 0)).setCell ⟨w.heap.size,2,none⟩ (.slice none 0 0))):=GB.fin G1.out [.int .i64 1,.int .i64 0,.slice none 0 0] rfl;clear y0 u0 v0 y1 u1 v1 y2 u2 v2;generalize (((w1.setCell ⟨w.heap.size,0,none⟩ (.int .i64 1)).setCell ⟨w.heap.size,1,none⟩ (.int .i64 0)).setCell ⟨w.heap.size,2,none⟩ (.slice none 0 0))=w9 at DD ⊢;obtain ⟨D1,D2,D3⟩:=DD.out;obtain ⟨x0,x1,x2⟩:=cells3 D1;exact bodyPost_ret (v:=.agg #[.int .i64 1,.int .i64 0,.slice none 0 0]) (by simp [results,Tryz.results116,go_sem,x0,x1,x2]) rfl (Got.good (by rw [HE.out]) (⟨none,0,rfl,tt_leaf (n:=d) (lit64 1 rfl) (lit64 0 rfl)⟩) D2 D3)
  by_cases h3:kd=3
  · subst h3;clear h1;have HE:Hid (typD l.length (typsD l.length d) (l.drop p)=(numD l.length (l.drop p1)).andThen fun g r1=>(typsD l.length d r1).andThen fun ts r2=>.ok (((3,g,ts):TT (d+1)),r2)):=by rw [typD,rep1_eq,E1.out,DR.ok_andThen];rfl
    have q1:=cellOf (Y1.out.chg G1.out.chg N1.out) 0 _ rfl;have q2:=cellOf (Y2.out.chg G1.out.chg N2.out) 0 _ rfl;have q0:=cellOf G1.out.box 0 _ rfl;go_wp2_with fail
    clear q0 q1 q2;refine (GB.callNums G1.out [1] (by simp) rfl (by decide) (by simp)).mono ?_;intro e' w2 hO;rcases hO with ⟨ns,p2,m2,rfl,hx2,r2,k2⟩ | ⟨y,c',a',m2,rfl,hc',k2⟩
    rotate_left
    · exact ⟨rfl,Got.bad (by rw [HE.out,rep1_eq,show repD (numD l.length) 1 (l.drop p1)=_ from m2];rfl) hc' k2⟩
    have hl2:=rep_len m2
    obtain ⟨nr,rfl⟩:∃ nr,ns=[nr]:=by
      match ns,hl2 with
      | [nr],_=>exact ⟨nr,rfl⟩
    have Bnr:Hid (i64r nr):=hx2 nr (by simp);have E2:Hid (repD (numD l.length) 1 (l.drop p1)=.ok ([nr],l.drop p2)):=m2;have G2:Hid (GB _ _ _ _ _ _ _ _ #[.int .i64 3,.int .i64 nr,.slice none 0 0] _):=r2;clear m2 r2 k2 hx2 hl2 G1;have q1:=cellOf (Y1.out.chg G2.out.chg N1.out) 0 _ rfl;have q2:=cellOf (Y2.out.chg G2.out.chg N2.out) 0 _ rfl;have q0:=cellOf G2.out.box 0 _ rfl;go_wp2_with fail
    clear q0 q1 q2;refine (IH.out _ b l _ G2.out.rd).mono ?_;intro e' w3 hO;rcases hO with ⟨ts,p3,x3,m3,rfl,⟨at_,ct_,rfl,hi3⟩,r3,k3⟩ | ⟨y,c',a',m3,rfl,hc',k3⟩
    rotate_left
    · exact ⟨rfl,Got.bad (by rw [HE.out,rep1_eq,E2.out,DR.ok_andThen,m3];rfl) hc' (G2.out.chg.trans k3)⟩
    have E3:Hid (typsD l.length d (l.drop p2)=.ok (ts,l.drop p3)):=m3;have G3:Hid (GB _ _ _ _ _ _ _ _ _ _):=G2.out.call r3 k3;have Kts:Hid (Kid (typesL d) (w.heap.size+1) w3 ts [.slice at_ ts.length ct_]):=Kid.mk hi3 G2.out.lt;clear hi3;clear m3 r3 k3 G2;obtain ⟨y0,y1,y2⟩:=cells3 G3.out.box;obtain ⟨u0,u1,u2⟩:=cells3 G3.out.res;obtain ⟨v0,v1,v2⟩:=frees3 G3.out.res;have z2:=freeOf G3.out.box 2;have hne:¬ (w.heap.size+1)=w.heap.size:=by omega
    go_wp2
    have DD:Hid (GinD _ _ _ _ _ _ #[.int .i64 3,.int .i64 nr,.slice at_ ts.length ct_] ((((w3.setCell ⟨(w.heap.size+1),2,none⟩ (.slice at_ ts.length ct_)).setCell ⟨w.heap.size,0,none⟩ (.int .i64 3)).setCell ⟨w.heap.size,1,none⟩ (.int .i64 nr)).setCell ⟨w.heap.size,2,none⟩ (.slice at_ ts.length ct_))):=GB.fin (GB.set G3.out 2 (.slice at_ ts.length ct_)) [.int .i64 3,.int .i64 nr,.slice at_ ts.length ct_] rfl;have DKts:Hid (Kid _ _ ((((w3.setCell ⟨(w.heap.size+1),2,none⟩ (.slice at_ ts.length ct_)).setCell ⟨w.heap.size,0,none⟩ (.int .i64 3)).setCell ⟨w.heap.size,1,none⟩ (.int .i64 nr)).setCell ⟨w.heap.size,2,none⟩ (.slice at_ ts.length ct_)) _ _):=Kid.sets (Kid.set Kts.out (q:=⟨(w.heap.size+1),2,none⟩) (Nat.le_refl _) _) (by omega) [.int .i64 3,.int .i64 nr,.slice at_ ts.length ct_] 0;clear Kts;clear y0 u0 v0 y1 u1 v1 y2 u2 v2;generalize ((((w3.setCell ⟨(w.heap.size+1),2,none⟩ (.slice at_ ts.length ct_)).setCell ⟨w.heap.size,0,none⟩ (.int .i64 3)).setCell ⟨w.heap.size,1,none⟩ (.int .i64 nr)).setCell ⟨w.heap.size,2,none⟩ (.slice at_ ts.length ct_))=w9 at DD DKts ⊢;obtain ⟨D1,D2,D3⟩:=DD.out;obtain ⟨x0,x1,x2⟩:=cells3 D1;exact bodyPost_ret (v:=.agg #[.int .i64 3,.int .i64 nr,.slice at_ ts.length ct_]) (by simp [results,Tryz.results116,go_sem,x0,x1,x2]) rfl (Got.good (by rw [HE.out,rep1_eq,E2.out,DR.ok_andThen,E3.out,DR.ok_andThen];rfl) (⟨at_,ct_,rfl,tt_tree (lit64 3 rfl) Bnr.out (Kid.out DKts.out (by omega))⟩) D2 D3)
  have HE:Hid (typD l.length (typsD l.length d) (l.drop p)=(numD l.length (l.drop p1)).andThen fun g r1=>.ok (((kd,g,[]):TT (d+1)),r1)):=by rw [typD,rep1_eq,E1.out,DR.ok_andThen];exact (by
      simp only [List.getD_cons_zero,if_neg h1,if_neg h3]
      cases numD l.length (l.drop p1) with
      | error x=>rfl
      | ok y=>obtain ⟨a,q⟩:=y;rfl)
  have q1:=cellOf (Y1.out.chg G1.out.chg N1.out) 0 _ rfl;have q2:=cellOf (Y2.out.chg G1.out.chg N2.out) 0 _ rfl;have q0:=cellOf G1.out.box 0 _ rfl;go_wp2_with fail
  clear q0 q1 q2;refine (GB.callNums G1.out [1] (by simp) rfl (by decide) (by simp)).mono ?_;intro e' w2 hO;rcases hO with ⟨ns,p2,m2,rfl,hx2,r2,k2⟩ | ⟨y,c',a',m2,rfl,hc',k2⟩
  rotate_left
  · exact ⟨rfl,Got.bad (by rw [HE.out,rep1_eq,show repD (numD l.length) 1 (l.drop p1)=_ from m2];rfl) hc' k2⟩
  have hl2:=rep_len m2
  obtain ⟨nr,rfl⟩:∃ nr,ns=[nr]:=by
    match ns,hl2 with
    | [nr],_=>exact ⟨nr,rfl⟩
  have Bnr:Hid (i64r nr):=hx2 nr (by simp);have E2:Hid (repD (numD l.length) 1 (l.drop p1)=.ok ([nr],l.drop p2)):=m2;have G2:Hid (GB _ _ _ _ _ _ _ _ #[.int .i64 kd,.int .i64 nr,.slice none 0 0] _):=r2;clear m2 r2 k2 hx2 hl2 G1;obtain ⟨y0,y1,y2⟩:=cells3 G2.out.box;obtain ⟨u0,u1,u2⟩:=cells3 G2.out.res;obtain ⟨v0,v1,v2⟩:=frees3 G2.out.res;have hne:¬ (w.heap.size+1)=w.heap.size:=by omega
  go_wp2
  have DD:Hid (GinD _ _ _ _ _ _ #[.int .i64 kd,.int .i64 nr,.slice none 0 0] (((w2.setCell ⟨w.heap.size,0,none⟩ (.int .i64 kd)).setCell ⟨w.heap.size,1,none⟩ (.int .i64 nr)).setCell ⟨w.heap.size,2,none⟩ (.slice none 0 0))):=GB.fin G2.out [.int .i64 kd,.int .i64 nr,.slice none 0 0] rfl;clear y0 u0 v0 y1 u1 v1 y2 u2 v2;generalize (((w2.setCell ⟨w.heap.size,0,none⟩ (.int .i64 kd)).setCell ⟨w.heap.size,1,none⟩ (.int .i64 nr)).setCell ⟨w.heap.size,2,none⟩ (.slice none 0 0))=w9 at DD ⊢;obtain ⟨D1,D2,D3⟩:=DD.out;obtain ⟨x0,x1,x2⟩:=cells3 D1;exact bodyPost_ret (v:=.agg #[.int .i64 kd,.int .i64 nr,.slice none 0 0]) (by simp [results,Tryz.results116,go_sem,x0,x1,x2]) rfl (Got.good (by rw [HE.out,rep1_eq,E2.out,DR.ok_andThen];rfl) (⟨none,0,rfl,tt_leaf (n:=d) Bkd.out Bnr.out⟩) D2 D3)
theorem clistT {w : World} {b p : Nat} {l : List UInt8} {d : Nat} {B1 B2 : Nat} (hE0 : Enters 116) (ONE0 : ∀ w' p', Chg b w w' → BAt w' b l p' → Calls Tryz.prog 116 #[ptrP B1, ptrP B2] w' fun en w'' => Got b l (typD l.length (typsD l.length d) (l.drop p')) w' (VTyp d w') en w'') (h : BAt w b l p) :
    Calls Tryz.prog 115 #[ptrP b,.func (.func 116) #[] #[ptrP B1,ptrP B2]] w fun en w'=>Got b l (lstD l.length (typD l.length (typsD l.length d)) (l.drop p)) w (VTyps d w) en w':=by
  have hbw:=h.lt;have H:Hid (BAt w b l p):=h;have hl2:=h.len;have hE:=hE0;unfold Enters at hE;have ONE:Hid (∀ w' p',Chg b w w'→BAt w' b l p'→Calls Tryz.prog 116 #[ptrP B1,ptrP B2] w' fun en w''=>Got b l (typD l.length (typsD l.length d) (l.drop p')) w' (VTyp d w') en w''):=ONE0;obtain ⟨i0,hi,hz0,hz1,hz2⟩:=pInfoT;clear h hE0 ONE0;go_enter Tryz.func115,Tryz.ntmps115
  go_wp2_with fail
  refine (ccount_any H.out).mono ?_;intro e' w1 hO;rcases hO with ⟨k,p1,x,m1,rfl,⟨rfl,hkl⟩,r1,k1⟩ | ⟨y,c,a,m1,rfl,hc,k1⟩
  rotate_left
  · exact ⟨rfl,Got.bad (by rw [lstD,m1];rfl) hc k1⟩
  have M1:Hid (cntD l.length (l.drop p)=.ok (k,l.drop p1)):=m1;have R1:Hid (BAt w1 b l p1):=r1;have K1:Hid (Chg b w w1):=k1;have hk2:k≤20000:=by omega
  have HKL:Hid (k≤l.length):=hkl;clear m1 r1 k1 H hkl;go_wp2_with fail
  go_loopw [5,8] (fun v u wr=>∃ xs cs i p2,u=.int .i64 (i:Nat)∧ARow (Lay.tt (d+1)) 88 wr w.heap.size v xs cs∧BAt wr b l p2∧Chg b w wr∧RepQ (typD l.length (typsD l.length d)) l p1 k i p2 xs) (fun _ u _=>k - (intOf u).toNat)
  case atStart=>exact ⟨[],[],0,p1,rfl,ARow.nil _ _ _ _,R1.out,K1.out,RepQ.start⟩
  case round =>
    obtain ⟨xs,cs,i,p2,rfl,hrow,hr,hk,hq⟩:=hrel;obtain ⟨a,c,rfl⟩:=hrow.formP;have A2:Hid (ARow (Lay.tt (d+1)) 88 wr w.heap.size (.slice a xs.length c) xs cs):=hrow;have R2:Hid (BAt wr b l p2):=hr;have K2:Hid (Chg b w wr):=hk;have Q2:Hid (RepQ (typD l.length (typsD l.length d)) l p1 k i p2 xs):=hq;have hle:i≤k:=hq.le;have hlen:Hid (xs.length=i):=hq.len;have hxl:xs.length≤20000:=by rw [hq.len];omega
    clear hrow hr hk hq;by_cases hik:i<k
    · have hik':(i:Int)<k:=by omega
      go_wp2_with fail
      refine (ONE.out wr p2 K2.out R2.out).mono ?_;intro e' w4 hO;rcases hO with ⟨t,p3,x,m3,rfl,⟨a4,c4,rfl,ht4⟩,r4,k4⟩ | ⟨y,c',a',m3,rfl,hc,k4⟩
      rotate_left
      · exact ⟨rfl,Got.bad (by rw [lstD,M1.out,DR.ok_andThen,Q2.out.bad hik m3]) hc (K2.out.trans k4)⟩
      have Q4:Hid (RepQ (typD l.length (typsD l.length d)) l p1 k (i+1) p3 (xs++[t])):=Q2.out.go hik m3;have T4:Hid ((Lay.tt (d+1)).In w4 (fun g=>wr.heap.size≤g) t [.int .i64 t.kind,.int .i64 t.r,.slice a4 t.len c4]):=ht4;have S2:Hid (w.heap.size≤wr.heap.size):=K2.out.size;have A2':=A2;have A4:Hid (ARow (Lay.tt (d+1)) 88 w4 w.heap.size (.slice a xs.length c) xs cs):=A2.out.chgP k4 hbw;have R4:Hid (BAt w4 b l p3):=r4;have K4:Hid (Chg b w w4):=K2.out.trans k4;have hsz:=K4.out.size;have hown:Hid (w4.ownsRow w.heap.size 88 3 (.slice a xs.length c) xs.length cs):=A4.out.own
      have PU:Hid (∀ g cap w9,w9.ownsRow w.heap.size 88 3 (.slice (some ⟨g,0,none⟩) (xs.length+1) cap) (xs.length+1) (cs++[.int .i64 t.kind,.int .i64 t.r,.slice a4 t.len c4])→(w4.alloc (.cells #[.int .i64 t.kind,.int .i64 t.r,.slice a4 t.len c4] 88)).grownBy w9 (Value.slice a xs.length c).ownBlock→((Value.slice a xs.length c).ownBlock=some g∨g=w4.heap.size+1) →
          (∃ cs',ARow (Lay.tt (d+1)) 88 w9 w.heap.size (.slice (some ⟨g,0,none⟩) (xs.length+1) cap) (xs++[t]) cs')∧BAt w9 b l p3∧Chg b w w9):=by
        intro g cap w9 h1 h2 h3;have b5:Below w4.heap.size w4 (w4.alloc (.cells #[.int .i64 t.kind,.int .i64 t.r,.slice a4 t.len c4] 88)):=bel1 _ _;have A5:=A4.out.below b5
        have T5:(Lay.tt (d+1)).In (w4.alloc (.cells #[.int .i64 t.kind,.int .i64 t.r,.slice a4 t.len c4] 88)) (fun g=>w.heap.size≤g∧(Value.slice a xs.length c).ownBlock≠some g) t [.int .i64 t.kind,.int .i64 t.r,.slice a4 t.len c4] :=
          Lay.alloc (Lay.mono T4.out (fun k hk _=>⟨Nat.le_trans S2.out hk,fun e=>by have:=(A2'.out.lo_le e).2;omega⟩)) _
        refine ⟨⟨_,ARow.push A5 T5 h2 (by simpa using h3) h1⟩,(R4.out.below b5).grown h2 (fun k hk=>by have:=(A5.lo_le hk).1;omega),(K4.out.allocP _).grownP h2 (fun k hk=>(A5.lo_le hk).1)⟩
      clear r4 k4 m3 A2 R2 K2 Q2 A4 R4 K4 T4 S2 A2';generalize t.kind=kx at PU ⊢;generalize t.r=rx at PU ⊢;generalize t.len=lx at PU ⊢;go_wp2_with (at_builtin;refine wpList_append_lies _ rfl (.tmp 10) (.tmp 13) 43 rfl w.heap.size 88 i0 (.agg #[.int .i64 0,.int .i64 0,.slice none 0 0]) 3 40 pUnderT hi hz0 hz1 hz2 rfl (by decide) _ _ _ rfl (hown.out.alloc _) ⟨w4.heap.size,0,none⟩ 1 1 [.int .i64 kx,.int .i64 rx,.slice a4 lx c4] rfl rfl (newsP _ [_,_,_] _) (pOneT _ _ _ _ _) (by decide) (by unfold maxLen;omega) (by omega) (by simp;omega) (w4.heap.size+1) (by simp) ?_)
      intro g2 cap2 w9 h1 hgrow hat hlt1;have U2:=PU.out g2 cap2 w9 h1 hgrow hat;obtain ⟨⟨cs',q1⟩,q2,q3⟩:=U2;have A9:Hid (ARow (Lay.tt (d+1)) 88 w9 w.heap.size (.slice (some ⟨g2,0,none⟩) (xs.length+1) cap2) (xs++[t]) cs'):=q1;have R9:Hid (BAt w9 b l p3):=q2;have K9:Hid (Chg b w w9):=q3;clear h1 hgrow hat hlt1 hown PU q1 q2 q3;go_wp2
      go_roundw
      case rel=>exact ⟨xs++[t],cs',i+1,p3,by simp,A9.out,R9.out,K9.out,Q4.out⟩
      case measure=>simp [intOf];omega
    · have hik':¬ (i:Int)<k:=by omega
      have Z:Hid (Got b l (lstD l.length (typD l.length (typsD l.length d)) (l.drop p)) w (VTyps d w) (.returned (.slice a xs.length c)) wr) :=
        Got.good (v:=xs) (by rw [lstD,M1.out,DR.ok_andThen];exact Q2.out.stop hik) ⟨a,c,rfl,A2.out.lay⟩ R2.out K2.out
      clear A2 R2 K2 Q2 M1 ONE;go_wp2
      go_ret;exact Z.out
theorem ctypes_zero (k : Int) (hk : 5 < k) : CTypes 0 k := by
  intro w b l p h;have hbw:=h.lt;have H:Hid (BAt ((w.alloc (.cells #[ptrP b] 77)).alloc (.cells #[.int .i64 k] 3)) b l p):=h.below (bel2 _ _ _);have K:Hid (Chg b w ((w.alloc (.cells #[ptrP b] 77)).alloc (.cells #[.int .i64 k] 3))):=Chg.below (bel2 _ _ _);clear h;go_enter Tryz.func89,Tryz.ntmps89
  go_wp2_with fail
  refine (cdeep_any H.out).mono ?_;rintro e' w2 ⟨⟨c,a,rfl,hc⟩,k2⟩;exact ⟨rfl,Got.bad rfl hc (K.out.trans k2)⟩
theorem ctypes_succ (d : Nat) (k : Int) (hk0 : 0 ≤ k) (hk5 : k ≤ 5) (IH : CTypes d (k + 1)) : CTypes (d + 1) k := by
  intro w b l p h;have hbw:=h.lt;have hmf:∀ (fn:Fn) (first cap:Array Value) (w:World),(Instr.makeFunc fn first cap).run Tryz.prog w=.ok (.func fn first cap) w:=fun _ _ _ _=>rfl;have H:Hid (BAt ((w.alloc (.cells #[ptrP b] 77)).alloc (.cells #[.int .i64 k] 3)) b l p):=h.below (bel2 _ _ _);have K:Hid (Chg b w ((w.alloc (.cells #[ptrP b] 77)).alloc (.cells #[.int .i64 k] 3))):=Chg.below (bel2 _ _ _);have Y1:Hid (Blk ((w.alloc (.cells #[ptrP b] 77)).alloc (.cells #[.int .i64 k] 3)) w.heap.size #[ptrP b] 77):=Blk.new1 _ _ _ _ _;have Y2:Hid (Blk ((w.alloc (.cells #[ptrP b] 77)).alloc (.cells #[.int .i64 k] 3)) (w.heap.size+1) #[.int .i64 k] 3):=Blk.new2 _ _ _ _;have HI:Hid (CTypes d (k+1)):=IH;have hk5':¬ 5<k:=by omega
  clear h IH;go_enter Tryz.func89,Tryz.ntmps89
  go_wp2_with fail
  have hsz:Hid (w.heap.size≤((w.alloc (.cells #[ptrP b] 77)).alloc (.cells #[.int .i64 k] 3)).heap.size):=by show _≤_;simp;omega
  generalize (w.alloc (.cells #[ptrP b] 77)).alloc (.cells #[.int .i64 k] 3)=w1 at H K Y1 Y2 hsz ⊢;refine (clistT (d:=d) (B1:=w.heap.size) (B2:=w.heap.size+1) enters_ctypes1 (fun w' p' hc h'=>ctyp1_any hk0 hk5 HI.out (Y1.out.chg hc (by omega)) (Y2.out.chg hc (by omega)) (by omega) (by omega) h') H.out).mono ?_;intro e' w2 hO;rcases hO with ⟨v,p1,x,m1,rfl,⟨a,c,rfl,hv⟩,r1,k1⟩ | ⟨y,c,a,m1,rfl,hc,k1⟩
  · have Z:Hid (Got b l (typsD l.length (d+1) (l.drop p)) w (VTypsD (d+1) w) (.returned (.slice a v.length c)) w2):=Got.good m1 ⟨a,c,rfl,Lay.mono hv (fun k hk _=>by have:=hsz.out;omega)⟩ r1 (K.out.trans k1);clear m1 hv r1 k1 H K Y1 Y2 HI;go_wp2
    go_ret;exact Z.out
  · exact ⟨rfl,Got.bad m1 hc (K.out.trans k1)⟩
theorem ctypes_top : CTypes 6 0 :=
  ctypes_succ 5 0 (by omega) (by omega) (ctypes_succ 4 1 (by omega) (by omega) (ctypes_succ 3 2 (by omega) (by omega) (ctypes_succ 2 3 (by omega) (by omega) (ctypes_succ 1 4 (by omega) (by omega) (ctypes_succ 0 5 (by omega) (by omega) (ctypes_zero 6 (by omega)))))))
theorem enters_cins : Enters 118 := fun _ _ => by kernel_rfl
theorem enters_cblock : Enters 91 := fun _ _ => by kernel_rfl
theorem pOneN8 (a b c d e f : Int) (g : Option Addr) (h i : Nat) (j : Option Addr) (k l : Nat) : ∀ u ∈ [Value.int .i64 a, Value.int .i64 b, Value.int .i64 c, Value.int .i64 d, Value.int .i64 e, Value.int .i64 f, Value.slice g h i, Value.slice j k l], u.oneCell' = true := by
  intro u h;simp at h
  rcases h with rfl | rfl | rfl | rfl | rfl | rfl | rfl | rfl <;> rfl
def VCode (w0 : World) : World → List MIns → Value → Prop := fun w' xs x => ∃ a c, x = .slice a xs.length c ∧ insL.list.In w' (fun g => w0.heap.size ≤ g) xs [.slice a xs.length c]
theorem clistN {w : World} {b p : Nat} {l : List UInt8} (hE0 : Enters 118) (ONE0 : ∀ w' p', Chg b w w' → BAt w' b l p' → Calls Tryz.prog 118 #[ptrP b] w' fun en w'' => Got b l (insD l.length (l.drop p')) w' (VIns w') en w'') (h : BAt w b l p) :
    Calls Tryz.prog 117 #[ptrP b,.func (.func 118) #[ptrP b] #[]] w fun en w'=>Got b l (lstD l.length (insD l.length) (l.drop p)) w (VCode w) en w':=by
  have hbw:=h.lt;have H:Hid (BAt w b l p):=h;have hl2:=h.len;have hE:=hE0;unfold Enters at hE;have ONE:Hid (∀ w' p',Chg b w w'→BAt w' b l p'→Calls Tryz.prog 118 #[ptrP b] w' fun en w''=>Got b l (insD l.length (l.drop p')) w' (VIns w') en w''):=ONE0;obtain ⟨i0,hi,hz0,hz1,hz2⟩:=pInfoN;clear h hE0 ONE0;go_enter Tryz.func117,Tryz.ntmps117
  go_wp2_with fail
  refine (ccount_any H.out).mono ?_;intro e' w1 hO;rcases hO with ⟨k,p1,x,m1,rfl,⟨rfl,hkl⟩,r1,k1⟩ | ⟨y,c,a,m1,rfl,hc,k1⟩
  rotate_left
  · exact ⟨rfl,Got.bad (by rw [lstD,m1];rfl) hc k1⟩
  have M1:Hid (cntD l.length (l.drop p)=.ok (k,l.drop p1)):=m1;have R1:Hid (BAt w1 b l p1):=r1;have K1:Hid (Chg b w w1):=k1;have hk2:k≤20000:=by omega
  have HKL:Hid (k≤l.length):=hkl;clear m1 r1 k1 H hkl;go_wp2_with fail
  go_loopw [5,8] (fun v u wr=>∃ xs cs i p2,u=.int .i64 (i:Nat)∧ARow insL 57 wr w.heap.size v xs cs∧BAt wr b l p2∧Chg b w wr∧RepQ (insD l.length) l p1 k i p2 xs) (fun _ u _=>k - (intOf u).toNat)
  case atStart=>exact ⟨[],[],0,p1,rfl,ARow.nil _ _ _ _,R1.out,K1.out,RepQ.start⟩
  case round =>
    obtain ⟨xs,cs,i,p2,rfl,hrow,hr,hk,hq⟩:=hrel;obtain ⟨a,c,rfl⟩:=hrow.formP;have A2:Hid (ARow insL 57 wr w.heap.size (.slice a xs.length c) xs cs):=hrow;have R2:Hid (BAt wr b l p2):=hr;have K2:Hid (Chg b w wr):=hk;have Q2:Hid (RepQ (insD l.length) l p1 k i p2 xs):=hq;have hle:i≤k:=hq.le;have hlen:Hid (xs.length=i):=hq.len;have hxl:xs.length≤20000:=by rw [hq.len];omega
    clear hrow hr hk hq;by_cases hik:i<k
    · have hik':(i:Int)<k:=by omega
      go_wp2_with fail
      refine (ONE.out wr p2 K2.out R2.out).mono ?_;intro e' w4 hO;rcases hO with ⟨x,p3,x3,m3,rfl,⟨a4,c4,b4,d4,rfl,ht4⟩,r4,k4⟩ | ⟨y,c',a',m3,rfl,hc,k4⟩
      rotate_left
      · exact ⟨rfl,Got.bad (by rw [lstD,M1.out,DR.ok_andThen,Q2.out.bad hik m3]) hc (K2.out.trans k4)⟩
      have Q4:Hid (RepQ (insD l.length) l p1 k (i+1) p3 (xs++[x])):=Q2.out.go hik m3;have T4:Hid (insL.In w4 (fun g=>wr.heap.size≤g) x [.int .i64 x.op,.int .i64 x.a,.int .i64 x.b,.int .i64 x.c,.int .i64 x.k,.int .i64 x.n,.slice a4 x.regs.length c4,.slice b4 x.args.length d4]):=ht4;have S2:Hid (w.heap.size≤wr.heap.size):=K2.out.size;have A2':=A2;have A4:Hid (ARow insL 57 w4 w.heap.size (.slice a xs.length c) xs cs):=A2.out.chgP k4 hbw;have R4:Hid (BAt w4 b l p3):=r4;have K4:Hid (Chg b w w4):=K2.out.trans k4;have hsz:=K4.out.size;have hown:Hid (w4.ownsRow w.heap.size 57 8 (.slice a xs.length c) xs.length cs):=A4.out.own
      have PU:Hid (∀ g cap w9,w9.ownsRow w.heap.size 57 8 (.slice (some ⟨g,0,none⟩) (xs.length+1) cap) (xs.length+1) (cs++[.int .i64 x.op,.int .i64 x.a,.int .i64 x.b,.int .i64 x.c,.int .i64 x.k,.int .i64 x.n,.slice a4 x.regs.length c4,.slice b4 x.args.length d4])→(w4.alloc (.cells #[.int .i64 x.op,.int .i64 x.a,.int .i64 x.b,.int .i64 x.c,.int .i64 x.k,.int .i64 x.n,.slice a4 x.regs.length c4,.slice b4 x.args.length d4] 57)).grownBy w9 (Value.slice a xs.length c).ownBlock→((Value.slice a xs.length c).ownBlock=some g∨g=w4.heap.size+1) →
          (∃ cs',ARow insL 57 w9 w.heap.size (.slice (some ⟨g,0,none⟩) (xs.length+1) cap) (xs++[x]) cs')∧BAt w9 b l p3∧Chg b w w9):=by
        intro g cap w9 h1 h2 h3;have b5:Below w4.heap.size w4 (w4.alloc (.cells #[.int .i64 x.op,.int .i64 x.a,.int .i64 x.b,.int .i64 x.c,.int .i64 x.k,.int .i64 x.n,.slice a4 x.regs.length c4,.slice b4 x.args.length d4] 57)):=bel1 _ _;have A5:=A4.out.below b5
        have T5:insL.In (w4.alloc (.cells #[.int .i64 x.op,.int .i64 x.a,.int .i64 x.b,.int .i64 x.c,.int .i64 x.k,.int .i64 x.n,.slice a4 x.regs.length c4,.slice b4 x.args.length d4] 57)) (fun g=>w.heap.size≤g∧(Value.slice a xs.length c).ownBlock≠some g) x [.int .i64 x.op,.int .i64 x.a,.int .i64 x.b,.int .i64 x.c,.int .i64 x.k,.int .i64 x.n,.slice a4 x.regs.length c4,.slice b4 x.args.length d4] :=
          Lay.alloc (Lay.mono T4.out (fun k hk _=>⟨Nat.le_trans S2.out hk,fun e=>by have:=(A2'.out.lo_le e).2;omega⟩)) _
        refine ⟨⟨_,ARow.push A5 T5 h2 (by simpa using h3) h1⟩,(R4.out.below b5).grown h2 (fun k hk=>by have:=(A5.lo_le hk).1;omega),(K4.out.allocP _).grownP h2 (fun k hk=>(A5.lo_le hk).1)⟩
      clear r4 k4 m3 A2 R2 K2 Q2 A4 R4 K4 T4 S2 A2';generalize x.op=o1 at PU ⊢;generalize x.regs.length=l1 at PU ⊢;generalize x.args.length=l2 at PU ⊢;generalize x.a=o2 at PU ⊢;generalize x.b=o3 at PU ⊢;generalize x.c=o4 at PU ⊢;generalize x.k=o5 at PU ⊢;generalize x.n=o6 at PU ⊢;go_wp2_with (at_builtin;refine wpList_append_lies _ rfl (.tmp 10) (.tmp 13) 48 rfl w.heap.size 57 i0 (.agg #[.int .i64 0,.int .i64 0,.int .i64 0,.int .i64 0,.int .i64 0,.int .i64 0,.slice none 0 0,.slice none 0 0]) 8 96 pUnderN hi hz0 hz1 hz2 rfl (by decide) _ _ _ rfl (hown.out.alloc _) ⟨w4.heap.size,0,none⟩ 1 1 [.int .i64 o1,.int .i64 o2,.int .i64 o3,.int .i64 o4,.int .i64 o5,.int .i64 o6,.slice a4 l1 c4,.slice b4 l2 d4] rfl rfl (newsP _ [_,_,_,_,_,_,_,_] _) (pOneN8 _ _ _ _ _ _ _ _ _ _ _ _) (by decide) (by unfold maxLen;omega) (by omega) (by simp;omega) (w4.heap.size+1) (by simp) ?_)
      intro g2 cap2 w9 h1 hgrow hat hlt1;have U2:=PU.out g2 cap2 w9 h1 hgrow hat;obtain ⟨⟨cs',q1⟩,q2,q3⟩:=U2;have A9:Hid (ARow insL 57 w9 w.heap.size (.slice (some ⟨g2,0,none⟩) (xs.length+1) cap2) (xs++[x]) cs'):=q1;have R9:Hid (BAt w9 b l p3):=q2;have K9:Hid (Chg b w w9):=q3;clear h1 hgrow hat hlt1 hown PU q1 q2 q3;go_wp2
      go_roundw
      case rel=>exact ⟨xs++[x],cs',i+1,p3,by simp,A9.out,R9.out,K9.out,Q4.out⟩
      case measure=>simp [intOf];omega
    · have hik':¬ (i:Int)<k:=by omega
      have Z:Hid (Got b l (lstD l.length (insD l.length) (l.drop p)) w (VCode w) (.returned (.slice a xs.length c)) wr) :=
        Got.good (v:=xs) (by rw [lstD,M1.out,DR.ok_andThen];exact Q2.out.stop hik) ⟨a,c,rfl,A2.out.lay⟩ R2.out K2.out
      clear A2 R2 K2 Q2 M1 ONE;go_wp2
      go_ret;exact Z.out
theorem cblock_any {w : World} {b p : Nat} {l : List UInt8} (h : BAt w b l p) :
    Calls Tryz.prog 91 #[ptrP b] w fun en w'=>Got b l (blockD l.length (l.drop p)) w (VBlock w) en w':=by
  have hmf:∀ (fn:Fn) (first cap:Array Value) (w:World),(Instr.makeFunc fn first cap).run Tryz.prog w=.ok (.func fn first cap) w:=fun _ _ _ _=>rfl;have hbw:=h.lt;have F0:Hid (GB w ((w.alloc (.cells #[.int .i64 0,.slice none 0 0,.slice none 0 0,.int .i64 0,.int .i64 0,.int .i64 0,.slice none 0 0,.slice none 0 0,.int .i64 0,.slice none 0 0,.slice none 0 0,.slice none 0 0] 55)).alloc (.cells #[.int .i64 0,.slice none 0 0,.slice none 0 0,.int .i64 0,.int .i64 0,.int .i64 0,.slice none 0 0,.slice none 0 0,.int .i64 0,.slice none 0 0,.slice none 0 0,.slice none 0 0] 55)) b l p w.heap.size (w.heap.size+1) #[.int .i64 0,.slice none 0 0,.slice none 0 0,.int .i64 0,.int .i64 0,.int .i64 0,.slice none 0 0,.slice none 0 0,.int .i64 0,.slice none 0 0,.slice none 0 0,.slice none 0 0] #[.int .i64 0,.slice none 0 0,.slice none 0 0,.int .i64 0,.int .i64 0,.int .i64 0,.slice none 0 0,.slice none 0 0,.int .i64 0,.slice none 0 0,.slice none 0 0,.slice none 0 0] 55):=GB.start h;clear h;go_enter Tryz.func91,Tryz.ntmps91
  go_wp2_with fail
  refine (GB.callNums F0.out [0] (by simp) rfl (by decide) (by simp)).mono ?_;intro e' w1 hO;rcases hO with ⟨ns,p1,m1,rfl,hx1,r1,k1⟩ | ⟨y,c',a',m1,rfl,hc',k1⟩
  rotate_left
  · exact ⟨rfl,Got.bad (by rw [blockD,rep1_eq,show repD (numD l.length) 1 (l.drop p)=_ from m1];rfl) hc' k1⟩
  have hl1:=rep_len m1
  obtain ⟨nr,rfl⟩:∃ nr,ns=[nr]:=by
    match ns,hl1 with
    | [nr],_=>exact ⟨nr,rfl⟩
  have Bnr:Hid (i64r nr):=hx1 nr (by simp);have E1:Hid (repD (numD l.length) 1 (l.drop p)=.ok ([nr],l.drop p1)):=m1;have G1:Hid (GB _ _ _ _ _ _ _ _ #[.int .i64 nr,.slice none 0 0,.slice none 0 0,.int .i64 0,.int .i64 0,.int .i64 0,.slice none 0 0,.slice none 0 0,.int .i64 0,.slice none 0 0,.slice none 0 0,.slice none 0 0] _):=r1;clear m1 r1 k1 hx1 hl1 F0;go_wp2_with fail
  refine (ctypes_top _ b l _ G1.out.rd).mono ?_;intro e' w2 hO;rcases hO with ⟨ts,p2,x2,m2,rfl,⟨ax,cx,rfl,hi2⟩,r2,k2⟩ | ⟨y,c',a',m2,rfl,hc',k2⟩
  rotate_left
  · exact ⟨rfl,Got.bad (by rw [blockD,rep1_eq,E1.out,DR.ok_andThen,m2];rfl) hc' (G1.out.chg.trans k2)⟩
  have E2:Hid (typsD l.length 6 (l.drop p1)=.ok (ts,l.drop p2)):=m2;have G2:Hid (GB _ _ _ _ _ _ _ _ _ _):=G1.out.call r2 k2;have Kts:Hid (Kid (typesL 6) (w.heap.size+1) w2 ts [.slice ax ts.length cx]):=Kid.mk hi2 G1.out.lt;clear hi2;clear m2 r2 k2 G1;have y1:=cellOf G2.out.box 1 _ rfl;have z1:=freeOf G2.out.box 1;go_wp2_with fail
  have G3:Hid (GB _ (w2.setCell ⟨(w.heap.size+1),1,none⟩ (.slice ax ts.length cx)) _ _ _ _ _ _ #[.int .i64 nr,.slice ax ts.length cx,.slice none 0 0,.int .i64 0,.int .i64 0,.int .i64 0,.slice none 0 0,.slice none 0 0,.int .i64 0,.slice none 0 0,.slice none 0 0,.slice none 0 0] _):=(GB.set G2.out 1 (.slice ax ts.length cx));have KtsG3:Hid (Kid _ _ (w2.setCell ⟨(w.heap.size+1),1,none⟩ (.slice ax ts.length cx)) _ _):=(Kid.set Kts.out (q:=⟨(w.heap.size+1),1,none⟩) (Nat.le_refl _) _);clear Kts;generalize (w2.setCell ⟨(w.heap.size+1),1,none⟩ (.slice ax ts.length cx))=w3 at G3 KtsG3 ⊢;clear y1 z1 G2;refine (clistN enters_cins (fun w' p' _ h'=>cins_any h') G3.out.rd).mono ?_;intro e' w4 hO;rcases hO with ⟨xs,p4,x4,m4,rfl,⟨ay,cy,rfl,hi4⟩,r4,k4⟩ | ⟨y,c',a',m4,rfl,hc',k4⟩
  rotate_left
  · exact ⟨rfl,Got.bad (by rw [blockD,rep1_eq,E1.out,DR.ok_andThen,E2.out,DR.ok_andThen,m4];rfl) hc' (G3.out.chg.trans k4)⟩
  have E4:Hid (lstD l.length (insD l.length) (l.drop p2)=.ok (xs,l.drop p4)):=m4;have G4:Hid (GB _ _ _ _ _ _ _ _ _ _):=G3.out.call r4 k4;have KtsG35_:Hid (Kid _ _ _ _ _):=KtsG3.out.chg k4 (by omega);clear KtsG3;have Kxs:Hid (Kid insL.list (w.heap.size+1) w4 xs [.slice ay xs.length cy]):=Kid.mk hi4 G3.out.lt;clear hi4;clear m4 r4 k4 G3;have y2:=cellOf G4.out.box 2 _ rfl;have z2:=freeOf G4.out.box 2;go_wp2_with fail
  have G6:Hid (GB _ (w4.setCell ⟨(w.heap.size+1),2,none⟩ (.slice ay xs.length cy)) _ _ _ _ _ _ #[.int .i64 nr,.slice ax ts.length cx,.slice ay xs.length cy,.int .i64 0,.int .i64 0,.int .i64 0,.slice none 0 0,.slice none 0 0,.int .i64 0,.slice none 0 0,.slice none 0 0,.slice none 0 0] _):=(GB.set G4.out 2 (.slice ay xs.length cy));have KtsG35_G6:Hid (Kid _ _ (w4.setCell ⟨(w.heap.size+1),2,none⟩ (.slice ay xs.length cy)) _ _):=(Kid.set KtsG35_.out (q:=⟨(w.heap.size+1),2,none⟩) (Nat.le_refl _) _);clear KtsG35_;have KxsG6:Hid (Kid _ _ (w4.setCell ⟨(w.heap.size+1),2,none⟩ (.slice ay xs.length cy)) _ _):=(Kid.set Kxs.out (q:=⟨(w.heap.size+1),2,none⟩) (Nat.le_refl _) _);clear Kxs;generalize (w4.setCell ⟨(w.heap.size+1),2,none⟩ (.slice ay xs.length cy))=w6 at G6 KtsG35_G6 KxsG6 ⊢;clear y2 z2 G4;refine (cend_any G6.out.rd).mono ?_;intro e' w7 hO;rcases hO with ⟨en,p7,x7,m7,rfl,⟨a1,c1,a2,c2,a3,c3,a4,c4,a5,c5,rfl,hi7⟩,r7,k7⟩ | ⟨y,c',a',m7,rfl,hc',k7⟩
  rotate_left
  · exact ⟨rfl,Got.bad (by rw [blockD,rep1_eq,E1.out,DR.ok_andThen,E2.out,DR.ok_andThen,E4.out,DR.ok_andThen,m7];rfl) hc' (G6.out.chg.trans k7)⟩
  have E7:Hid (endD l.length (l.drop p4)=.ok (en,l.drop p7)):=m7;have G7:Hid (GB _ _ _ _ _ _ _ _ _ _):=G6.out.call r7 k7;have KtsG35_G68_:Hid (Kid _ _ _ _ _):=KtsG35_G6.out.chg k7 (by omega);clear KtsG35_G6;have KxsG69_:Hid (Kid _ _ _ _ _):=KxsG6.out.chg k7 (by omega);clear KxsG6;have Ken:Hid (Kid endL (w.heap.size+1) w7 en [.int .i64 en.op,.int .i64 en.a,.int .i64 en.yes.block,.slice a1 en.yes.regs.length c1,.slice a2 en.yes.args.length c2,.int .i64 en.no.block,.slice a3 en.no.regs.length c3,.slice a4 en.no.args.length c4,.slice a5 en.args.length c5]):=Kid.mk hi7 G6.out.lt;clear hi7;clear m7 r7 k7 G6;have TH:Hid (w7.there (w.heap.size+1) 3 9):=Blk.there G7.out.box (by simp);have ON:Hid ((#[.int .i64 en.op,.int .i64 en.a,.int .i64 en.yes.block,.slice a1 en.yes.regs.length c1,.slice a2 en.yes.args.length c2,.int .i64 en.no.block,.slice a3 en.no.regs.length c3,.slice a4 en.no.args.length c4,.slice a5 en.args.length c5]:Array Value).all (·.oneCell')=true):=by show _=_;simp [Value.oneCell']
  go_upto_region 6 with (refine wpList_store_mid rfl 53 (.tmp 18) (.tmp 17) rfl (w.heap.size+1) 3 #[.int .i64 en.op,.int .i64 en.a,.int .i64 en.yes.block,.slice a1 en.yes.regs.length c1,.slice a2 en.yes.args.length c2,.int .i64 en.no.block,.slice a3 en.no.regs.length c3,.slice a4 en.no.args.length c4,.slice a5 en.args.length c5] rfl rfl TH.out pSizeE ON.out ?_;have G10:Hid (GB w (w7.setCells (w.heap.size+1) 3 #[.int .i64 en.op,.int .i64 en.a,.int .i64 en.yes.block,.slice a1 en.yes.regs.length c1,.slice a2 en.yes.args.length c2,.int .i64 en.no.block,.slice a3 en.no.regs.length c3,.slice a4 en.no.args.length c4,.slice a5 en.args.length c5].toList) b l p7 w.heap.size (w.heap.size+1) #[.int .i64 0,.slice none 0 0,.slice none 0 0,.int .i64 0,.int .i64 0,.int .i64 0,.slice none 0 0,.slice none 0 0,.int .i64 0,.slice none 0 0,.slice none 0 0,.slice none 0 0] #[.int .i64 nr,.slice ax ts.length cx,.slice ay xs.length cy,.int .i64 en.op,.int .i64 en.a,.int .i64 en.yes.block,.slice a1 en.yes.regs.length c1,.slice a2 en.yes.args.length c2,.int .i64 en.no.block,.slice a3 en.no.regs.length c3,.slice a4 en.no.args.length c4,.slice a5 en.args.length c5] 55):=GB.tail (us:=[.int .i64 nr,.slice ax ts.length cx,.slice ay xs.length cy]) (zs:=[.int .i64 0,.int .i64 0,.int .i64 0,.slice none 0 0,.slice none 0 0,.int .i64 0,.slice none 0 0,.slice none 0 0,.slice none 0 0]) [.int .i64 en.op,.int .i64 en.a,.int .i64 en.yes.block,.slice a1 en.yes.regs.length c1,.slice a2 en.yes.args.length c2,.int .i64 en.no.block,.slice a3 en.no.regs.length c3,.slice a4 en.no.args.length c4,.slice a5 en.args.length c5] G7.out rfl;have KtsG35_G68_T:Hid (Kid (typesL 6) (w.heap.size+1) (w7.setCells (w.heap.size+1) 3 #[.int .i64 en.op,.int .i64 en.a,.int .i64 en.yes.block,.slice a1 en.yes.regs.length c1,.slice a2 en.yes.args.length c2,.int .i64 en.no.block,.slice a3 en.no.regs.length c3,.slice a4 en.no.args.length c4,.slice a5 en.args.length c5].toList) ts [.slice ax ts.length cx]):=Kid.sets KtsG35_G68_.out (Nat.le_refl _) _ _;have KxsG69_T:Hid (Kid insL.list (w.heap.size+1) (w7.setCells (w.heap.size+1) 3 #[.int .i64 en.op,.int .i64 en.a,.int .i64 en.yes.block,.slice a1 en.yes.regs.length c1,.slice a2 en.yes.args.length c2,.int .i64 en.no.block,.slice a3 en.no.regs.length c3,.slice a4 en.no.args.length c4,.slice a5 en.args.length c5].toList) xs [.slice ay xs.length cy]):=Kid.sets KxsG69_.out (Nat.le_refl _) _ _;have KenT:Hid (Kid endL (w.heap.size+1) (w7.setCells (w.heap.size+1) 3 #[.int .i64 en.op,.int .i64 en.a,.int .i64 en.yes.block,.slice a1 en.yes.regs.length c1,.slice a2 en.yes.args.length c2,.int .i64 en.no.block,.slice a3 en.no.regs.length c3,.slice a4 en.no.args.length c4,.slice a5 en.args.length c5].toList) en [.int .i64 en.op,.int .i64 en.a,.int .i64 en.yes.block,.slice a1 en.yes.regs.length c1,.slice a2 en.yes.args.length c2,.int .i64 en.no.block,.slice a3 en.no.regs.length c3,.slice a4 en.no.args.length c4,.slice a5 en.args.length c5]):=Kid.sets Ken.out (Nat.le_refl _) _ _;clear KtsG35_G68_ KxsG69_ Ken G7;generalize (w7.setCells (w.heap.size+1) 3 #[.int .i64 en.op,.int .i64 en.a,.int .i64 en.yes.block,.slice a1 en.yes.regs.length c1,.slice a2 en.yes.args.length c2,.int .i64 en.no.block,.slice a3 en.no.regs.length c3,.slice a4 en.no.args.length c4,.slice a5 en.args.length c5].toList)=w10 at G10 KtsG35_G68_T KxsG69_T KenT ⊢)
  clear TH ON;have TR:Hid (w10.there w.heap.size 0 12):=Blk.there G10.out.res (by simp);have RN:Hid (w10.rangeAt (w.heap.size+1) 0 [.int .i64 nr,.slice ax ts.length cx,.slice ay xs.length cy,.int .i64 en.op,.int .i64 en.a,.int .i64 en.yes.block,.slice a1 en.yes.regs.length c1,.slice a2 en.yes.args.length c2,.int .i64 en.no.block,.slice a3 en.no.regs.length c3,.slice a4 en.no.args.length c4,.slice a5 en.args.length c5]):=Blk.range G10.out.box;have ON:Hid ((#[.int .i64 nr,.slice ax ts.length cx,.slice ay xs.length cy,.int .i64 en.op,.int .i64 en.a,.int .i64 en.yes.block,.slice a1 en.yes.regs.length c1,.slice a2 en.yes.args.length c2,.int .i64 en.no.block,.slice a3 en.no.regs.length c3,.slice a4 en.no.args.length c4,.slice a5 en.args.length c5]:Array Value).all (·.oneCell')=true):=by show _=_;simp [Value.oneCell']
  go_wp2_with (first | (refine wpList_load_mid rfl 55 (.tmp 3) rfl (w.heap.size+1) 0 rfl [.int .i64 nr,.slice ax ts.length cx,.slice ay xs.length cy,.int .i64 en.op,.int .i64 en.a,.int .i64 en.yes.block,.slice a1 en.yes.regs.length c1,.slice a2 en.yes.args.length c2,.int .i64 en.no.block,.slice a3 en.no.regs.length c3,.slice a4 en.no.args.length c4,.slice a5 en.args.length c5] _ RN.out Tryz.underlying55 rfl pSizeB ?_) | (refine wpList_store_mid rfl 55 (.tmp 2) (.tmp 19) rfl w.heap.size 0 #[.int .i64 nr,.slice ax ts.length cx,.slice ay xs.length cy,.int .i64 en.op,.int .i64 en.a,.int .i64 en.yes.block,.slice a1 en.yes.regs.length c1,.slice a2 en.yes.args.length c2,.int .i64 en.no.block,.slice a3 en.no.regs.length c3,.slice a4 en.no.args.length c4,.slice a5 en.args.length c5] rfl rfl TR.out pSizeB ON.out ?_;have DD:Hid (GinD _ _ _ _ _ _ #[.int .i64 nr,.slice ax ts.length cx,.slice ay xs.length cy,.int .i64 en.op,.int .i64 en.a,.int .i64 en.yes.block,.slice a1 en.yes.regs.length c1,.slice a2 en.yes.args.length c2,.int .i64 en.no.block,.slice a3 en.no.regs.length c3,.slice a4 en.no.args.length c4,.slice a5 en.args.length c5] (w10.setCells w.heap.size 0 #[.int .i64 nr,.slice ax ts.length cx,.slice ay xs.length cy,.int .i64 en.op,.int .i64 en.a,.int .i64 en.yes.block,.slice a1 en.yes.regs.length c1,.slice a2 en.yes.args.length c2,.int .i64 en.no.block,.slice a3 en.no.regs.length c3,.slice a4 en.no.args.length c4,.slice a5 en.args.length c5].toList)):=GB.fin G10.out [.int .i64 nr,.slice ax ts.length cx,.slice ay xs.length cy,.int .i64 en.op,.int .i64 en.a,.int .i64 en.yes.block,.slice a1 en.yes.regs.length c1,.slice a2 en.yes.args.length c2,.int .i64 en.no.block,.slice a3 en.no.regs.length c3,.slice a4 en.no.args.length c4,.slice a5 en.args.length c5] rfl;have DKtsG35_G68_T:Hid (Kid _ _ (w10.setCells w.heap.size 0 #[.int .i64 nr,.slice ax ts.length cx,.slice ay xs.length cy,.int .i64 en.op,.int .i64 en.a,.int .i64 en.yes.block,.slice a1 en.yes.regs.length c1,.slice a2 en.yes.args.length c2,.int .i64 en.no.block,.slice a3 en.no.regs.length c3,.slice a4 en.no.args.length c4,.slice a5 en.args.length c5].toList) _ _):=Kid.sets KtsG35_G68_T.out (by omega) _ _;have DKxsG69_T:Hid (Kid _ _ (w10.setCells w.heap.size 0 #[.int .i64 nr,.slice ax ts.length cx,.slice ay xs.length cy,.int .i64 en.op,.int .i64 en.a,.int .i64 en.yes.block,.slice a1 en.yes.regs.length c1,.slice a2 en.yes.args.length c2,.int .i64 en.no.block,.slice a3 en.no.regs.length c3,.slice a4 en.no.args.length c4,.slice a5 en.args.length c5].toList) _ _):=Kid.sets KxsG69_T.out (by omega) _ _;have DKenT:Hid (Kid _ _ (w10.setCells w.heap.size 0 #[.int .i64 nr,.slice ax ts.length cx,.slice ay xs.length cy,.int .i64 en.op,.int .i64 en.a,.int .i64 en.yes.block,.slice a1 en.yes.regs.length c1,.slice a2 en.yes.args.length c2,.int .i64 en.no.block,.slice a3 en.no.regs.length c3,.slice a4 en.no.args.length c4,.slice a5 en.args.length c5].toList) _ _):=Kid.sets KenT.out (by omega) _ _;clear KtsG35_G68_T KxsG69_T KenT G10;generalize (w10.setCells w.heap.size 0 #[.int .i64 nr,.slice ax ts.length cx,.slice ay xs.length cy,.int .i64 en.op,.int .i64 en.a,.int .i64 en.yes.block,.slice a1 en.yes.regs.length c1,.slice a2 en.yes.args.length c2,.int .i64 en.no.block,.slice a3 en.no.regs.length c3,.slice a4 en.no.args.length c4,.slice a5 en.args.length c5].toList)=w9 at DD DKtsG35_G68_T DKxsG69_T DKenT ⊢))
  obtain ⟨D1,D2,D3⟩:=DD.out;obtain ⟨x0,x1,x2,x3,x4,x5,x6,x7,x8,x9,x10,x11⟩:=cells12 D1;exact bodyPost_ret (v:=.agg #[.int .i64 nr,.slice ax ts.length cx,.slice ay xs.length cy,.int .i64 en.op,.int .i64 en.a,.int .i64 en.yes.block,.slice a1 en.yes.regs.length c1,.slice a2 en.yes.args.length c2,.int .i64 en.no.block,.slice a3 en.no.regs.length c3,.slice a4 en.no.args.length c4,.slice a5 en.args.length c5]) (by simp [results,Tryz.results91,go_sem,x0,x1,x2,x3,x4,x5,x6,x7,x8,x9,x10,x11]) rfl (Got.good (by rw [blockD,rep1_eq,E1.out,DR.ok_andThen,E2.out,DR.ok_andThen,E4.out,DR.ok_andThen,E7.out,DR.ok_andThen];rfl) (⟨ax,cx,ay,cy,a1,c1,a2,c2,a3,c3,a4,c4,a5,c5,rfl,block_mk (x:=⟨nr,ts,xs,en⟩) (Kid.out DKtsG35_G68_T.out (by omega)) (Kid.out DKxsG69_T.out (by omega)) (Kid.out DKenT.out (by omega)) Bnr.out⟩) D2 D3)
theorem enters_cfunc : Enters 63 := fun _ _ => by kernel_rfl
theorem pOneB12 {b : List Value} (h : b.all (·.oneCell') = true) : ∀ u ∈ b, u.oneCell' = true := List.all_eq_true.1 h
def VBlocks (w0 : World) : World → List (MBlock 6) → Value → Prop := fun w' xs x => ∃ a c, x = .slice a xs.length c ∧ (blockL 6).list.In w' (fun g => w0.heap.size ≤ g) xs [.slice a xs.length c]
def VFuncs (w0 : World) : World → List (MFunc 6) → Value → Prop := fun w' xs x => ∃ a c, x = .slice a xs.length c ∧ (modL 6).In w' (fun g => w0.heap.size ≤ g) xs [.slice a xs.length c]
theorem clistB {w : World} {b p : Nat} {l : List UInt8} (hE0 : Enters 91) (ONE0 : ∀ w' p', Chg b w w' → BAt w' b l p' → Calls Tryz.prog 91 #[ptrP b] w' fun en w'' => Got b l (blockD l.length (l.drop p')) w' (VBlock w') en w'') (h : BAt w b l p) :
    Calls Tryz.prog 90 #[ptrP b,.func (.func 91) #[ptrP b] #[]] w fun en w'=>Got b l (lstD l.length (blockD l.length) (l.drop p)) w (VBlocks w) en w':=by
  have hbw:=h.lt;have H:Hid (BAt w b l p):=h;have hl2:=h.len;have hE:=hE0;unfold Enters at hE;have ONE:Hid (∀ w' p',Chg b w w'→BAt w' b l p'→Calls Tryz.prog 91 #[ptrP b] w' fun en w''=>Got b l (blockD l.length (l.drop p')) w' (VBlock w') en w''):=ONE0;obtain ⟨i0,hi,hz0,hz1,hz2⟩:=pInfoB;clear h hE0 ONE0;go_enter Tryz.func90,Tryz.ntmps90
  go_wp2_with fail
  refine (ccount_any H.out).mono ?_;intro e' w1 hO;rcases hO with ⟨k,p1,x,m1,rfl,⟨rfl,hkl⟩,r1,k1⟩ | ⟨y,c,a,m1,rfl,hc,k1⟩
  rotate_left
  · exact ⟨rfl,Got.bad (by rw [lstD,m1];rfl) hc k1⟩
  have M1:Hid (cntD l.length (l.drop p)=.ok (k,l.drop p1)):=m1;have R1:Hid (BAt w1 b l p1):=r1;have K1:Hid (Chg b w w1):=k1;have hk2:k≤20000:=by omega
  have HKL:Hid (k≤l.length):=hkl;clear m1 r1 k1 H hkl;go_wp2_with fail
  go_loopw [5,8] (fun v u wr=>∃ xs cs i p2,u=.int .i64 (i:Nat)∧ARow (blockL 6) 55 wr w.heap.size v xs cs∧BAt wr b l p2∧Chg b w wr∧RepQ (blockD l.length) l p1 k i p2 xs) (fun _ u _=>k - (intOf u).toNat)
  case atStart=>exact ⟨[],[],0,p1,rfl,ARow.nil _ _ _ _,R1.out,K1.out,RepQ.start⟩
  case round =>
    obtain ⟨xs,cs,i,p2,rfl,hrow,hr,hk,hq⟩:=hrel;obtain ⟨a,c,rfl⟩:=hrow.formP;have A2:Hid (ARow (blockL 6) 55 wr w.heap.size (.slice a xs.length c) xs cs):=hrow;have R2:Hid (BAt wr b l p2):=hr;have K2:Hid (Chg b w wr):=hk;have Q2:Hid (RepQ (blockD l.length) l p1 k i p2 xs):=hq;have hle:i≤k:=hq.le;have hlen:Hid (xs.length=i):=hq.len;have hxl:xs.length≤20000:=by rw [hq.len];omega
    clear hrow hr hk hq;by_cases hik:i<k
    · have hik':(i:Int)<k:=by omega
      go_wp2_with fail
      refine (ONE.out wr p2 K2.out R2.out).mono ?_;intro e' w4 hO;rcases hO with ⟨x,p3,x3,m3,rfl,⟨q0,n0,q1,n1,q2,n2,q3,n3,q4,n4,q5,n5,q6,n6,rfl,ht4⟩,r4,k4⟩ | ⟨y,c',a',m3,rfl,hc,k4⟩
      rotate_left
      · exact ⟨rfl,Got.bad (by rw [lstD,M1.out,DR.ok_andThen,Q2.out.bad hik m3]) hc (K2.out.trans k4)⟩
      have Q4:Hid (RepQ (blockD l.length) l p1 k (i+1) p3 (xs++[x])):=Q2.out.go hik m3;have T4:Hid ((blockL 6).In w4 (fun g=>wr.heap.size≤g) x [.int .i64 x.regs,.slice q0 x.params.length n0,.slice q1 x.code.length n1,.int .i64 x.fin.op,.int .i64 x.fin.a,.int .i64 x.fin.yes.block,.slice q2 x.fin.yes.regs.length n2,.slice q3 x.fin.yes.args.length n3,.int .i64 x.fin.no.block,.slice q4 x.fin.no.regs.length n4,.slice q5 x.fin.no.args.length n5,.slice q6 x.fin.args.length n6]):=ht4;have S2:Hid (w.heap.size≤wr.heap.size):=K2.out.size;have A2':=A2;have A4:Hid (ARow (blockL 6) 55 w4 w.heap.size (.slice a xs.length c) xs cs):=A2.out.chgP k4 hbw;have R4:Hid (BAt w4 b l p3):=r4;have K4:Hid (Chg b w w4):=K2.out.trans k4;have hsz:=K4.out.size;have hown:Hid (w4.ownsRow w.heap.size 55 12 (.slice a xs.length c) xs.length cs):=A4.out.own
      have PU:Hid (∀ g cap w9,w9.ownsRow w.heap.size 55 12 (.slice (some ⟨g,0,none⟩) (xs.length+1) cap) (xs.length+1) (cs++[.int .i64 x.regs,.slice q0 x.params.length n0,.slice q1 x.code.length n1,.int .i64 x.fin.op,.int .i64 x.fin.a,.int .i64 x.fin.yes.block,.slice q2 x.fin.yes.regs.length n2,.slice q3 x.fin.yes.args.length n3,.int .i64 x.fin.no.block,.slice q4 x.fin.no.regs.length n4,.slice q5 x.fin.no.args.length n5,.slice q6 x.fin.args.length n6])→(w4.alloc (.cells #[.int .i64 x.regs,.slice q0 x.params.length n0,.slice q1 x.code.length n1,.int .i64 x.fin.op,.int .i64 x.fin.a,.int .i64 x.fin.yes.block,.slice q2 x.fin.yes.regs.length n2,.slice q3 x.fin.yes.args.length n3,.int .i64 x.fin.no.block,.slice q4 x.fin.no.regs.length n4,.slice q5 x.fin.no.args.length n5,.slice q6 x.fin.args.length n6] 55)).grownBy w9 (Value.slice a xs.length c).ownBlock→((Value.slice a xs.length c).ownBlock=some g∨g=w4.heap.size+1) →
          (∃ cs',ARow (blockL 6) 55 w9 w.heap.size (.slice (some ⟨g,0,none⟩) (xs.length+1) cap) (xs++[x]) cs')∧BAt w9 b l p3∧Chg b w w9):=by
        intro g cap w9 h1 h2 h3;have b5:Below w4.heap.size w4 (w4.alloc (.cells #[.int .i64 x.regs,.slice q0 x.params.length n0,.slice q1 x.code.length n1,.int .i64 x.fin.op,.int .i64 x.fin.a,.int .i64 x.fin.yes.block,.slice q2 x.fin.yes.regs.length n2,.slice q3 x.fin.yes.args.length n3,.int .i64 x.fin.no.block,.slice q4 x.fin.no.regs.length n4,.slice q5 x.fin.no.args.length n5,.slice q6 x.fin.args.length n6] 55)):=bel1 _ _;have A5:=A4.out.below b5
        have T5:(blockL 6).In (w4.alloc (.cells #[.int .i64 x.regs,.slice q0 x.params.length n0,.slice q1 x.code.length n1,.int .i64 x.fin.op,.int .i64 x.fin.a,.int .i64 x.fin.yes.block,.slice q2 x.fin.yes.regs.length n2,.slice q3 x.fin.yes.args.length n3,.int .i64 x.fin.no.block,.slice q4 x.fin.no.regs.length n4,.slice q5 x.fin.no.args.length n5,.slice q6 x.fin.args.length n6] 55)) (fun g=>w.heap.size≤g∧(Value.slice a xs.length c).ownBlock≠some g) x [.int .i64 x.regs,.slice q0 x.params.length n0,.slice q1 x.code.length n1,.int .i64 x.fin.op,.int .i64 x.fin.a,.int .i64 x.fin.yes.block,.slice q2 x.fin.yes.regs.length n2,.slice q3 x.fin.yes.args.length n3,.int .i64 x.fin.no.block,.slice q4 x.fin.no.regs.length n4,.slice q5 x.fin.no.args.length n5,.slice q6 x.fin.args.length n6] :=
          Lay.alloc (Lay.mono T4.out (fun k hk _=>⟨Nat.le_trans S2.out hk,fun e=>by have:=(A2'.out.lo_le e).2;omega⟩)) _
        refine ⟨⟨_,ARow.push A5 T5 h2 (by simpa using h3) h1⟩,(R4.out.below b5).grown h2 (fun k hk=>by have:=(A5.lo_le hk).1;omega),(K4.out.allocP _).grownP h2 (fun k hk=>(A5.lo_le hk).1)⟩
      clear r4 k4 m3 A2 R2 K2 Q2 A4 R4 K4 T4 S2 A2';generalize x.fin.yes.regs.length=l2 at PU ⊢;generalize x.fin.yes.args.length=l3 at PU ⊢;generalize x.fin.no.regs.length=l4 at PU ⊢;generalize x.fin.no.args.length=l5 at PU ⊢;generalize x.fin.args.length=l6 at PU ⊢;generalize x.params.length=l0 at PU ⊢;generalize x.code.length=l1 at PU ⊢;generalize x.fin.yes.block=o4 at PU ⊢;generalize x.fin.no.block=o5 at PU ⊢;generalize x.fin.op=o2 at PU ⊢;generalize x.fin.a=o3 at PU ⊢;generalize x.regs=o1 at PU ⊢;go_wp2_with (at_builtin;refine wpList_append_lies _ rfl (.tmp 10) (.tmp 13) 44 rfl w.heap.size 55 i0 (.agg #[.int .i64 0,.slice none 0 0,.slice none 0 0,.int .i64 0,.int .i64 0,.int .i64 0,.slice none 0 0,.slice none 0 0,.int .i64 0,.slice none 0 0,.slice none 0 0,.slice none 0 0]) 12 208 pUnderB hi hz0 hz1 hz2 rfl (by decide) _ _ _ rfl (hown.out.alloc _) ⟨w4.heap.size,0,none⟩ 1 1 [.int .i64 o1,.slice q0 l0 n0,.slice q1 l1 n1,.int .i64 o2,.int .i64 o3,.int .i64 o4,.slice q2 l2 n2,.slice q3 l3 n3,.int .i64 o5,.slice q4 l4 n4,.slice q5 l5 n5,.slice q6 l6 n6] rfl rfl (newsP _ [_,_,_,_,_,_,_,_,_,_,_,_] _) (pOneB12 rfl) (by decide) (by unfold maxLen;omega) (by omega) (by simp;omega) (w4.heap.size+1) (by simp) ?_)
      intro g2 cap2 w9 h1 hgrow hat hlt1;have U2:=PU.out g2 cap2 w9 h1 hgrow hat;obtain ⟨⟨cs',q1⟩,q2,q3⟩:=U2;have A9:Hid (ARow (blockL 6) 55 w9 w.heap.size (.slice (some ⟨g2,0,none⟩) (xs.length+1) cap2) (xs++[x]) cs'):=q1;have R9:Hid (BAt w9 b l p3):=q2;have K9:Hid (Chg b w w9):=q3;clear h1 hgrow hat hlt1 hown PU q1 q2 q3;go_wp2
      go_roundw
      case rel=>exact ⟨xs++[x],cs',i+1,p3,by simp,A9.out,R9.out,K9.out,Q4.out⟩
      case measure=>simp [intOf];omega
    · have hik':¬ (i:Int)<k:=by omega
      have Z:Hid (Got b l (lstD l.length (blockD l.length) (l.drop p)) w (VBlocks w) (.returned (.slice a xs.length c)) wr) :=
        Got.good (v:=xs) (by rw [lstD,M1.out,DR.ok_andThen];exact Q2.out.stop hik) ⟨a,c,rfl,A2.out.lay⟩ R2.out K2.out
      clear A2 R2 K2 Q2 M1 ONE;go_wp2
      go_ret;exact Z.out
theorem cfunc_any {w : World} {b p : Nat} {l : List UInt8} (h : BAt w b l p) :
    Calls Tryz.prog 63 #[ptrP b] w fun en w'=>Got b l (funcD l.length (l.drop p)) w (VFunc w) en w':=by
  have hmf:∀ (fn:Fn) (first cap:Array Value) (w:World),(Instr.makeFunc fn first cap).run Tryz.prog w=.ok (.func fn first cap) w:=fun _ _ _ _=>rfl;have hbw:=h.lt;have F0:Hid (GB w ((w.alloc (.cells #[.int .i64 0,.slice none 0 0,.slice none 0 0,.slice none 0 0] 46)).alloc (.cells #[.int .i64 0,.slice none 0 0,.slice none 0 0,.slice none 0 0] 46)) b l p w.heap.size (w.heap.size+1) #[.int .i64 0,.slice none 0 0,.slice none 0 0,.slice none 0 0] #[.int .i64 0,.slice none 0 0,.slice none 0 0,.slice none 0 0] 46):=GB.start h;clear h;go_enter Tryz.func63,Tryz.ntmps63
  go_wp2_with fail
  refine (GB.callNums F0.out [0] (by simp) rfl (by decide) (by simp)).mono ?_;intro e' w1 hO;rcases hO with ⟨ns,p1,m1,rfl,hx1,r1,k1⟩ | ⟨y,c',a',m1,rfl,hc',k1⟩
  rotate_left
  · exact ⟨rfl,Got.bad (by rw [funcD,rep1_eq,show repD (numD l.length) 1 (l.drop p)=_ from m1];rfl) hc' k1⟩
  have hl1:=rep_len m1
  obtain ⟨nr,rfl⟩:∃ nr,ns=[nr]:=by
    match ns,hl1 with
    | [nr],_=>exact ⟨nr,rfl⟩
  have Bnr:Hid (i64r nr):=hx1 nr (by simp);have E1:Hid (repD (numD l.length) 1 (l.drop p)=.ok ([nr],l.drop p1)):=m1;have G1:Hid (GB _ _ _ _ _ _ _ _ #[.int .i64 nr,.slice none 0 0,.slice none 0 0,.slice none 0 0] _):=r1;clear m1 r1 k1 hx1 hl1 F0;go_wp2_with fail
  refine (ctypes_top _ b l _ G1.out.rd).mono ?_;intro e' w2 hO;rcases hO with ⟨ts,p2,x2,m2,rfl,⟨ax,cx,rfl,hi2⟩,r2,k2⟩ | ⟨y,c',a',m2,rfl,hc',k2⟩
  rotate_left
  · exact ⟨rfl,Got.bad (by rw [funcD,rep1_eq,E1.out,DR.ok_andThen,m2];rfl) hc' (G1.out.chg.trans k2)⟩
  have E2:Hid (typsD l.length 6 (l.drop p1)=.ok (ts,l.drop p2)):=m2;have G2:Hid (GB _ _ _ _ _ _ _ _ _ _):=G1.out.call r2 k2;have Kts:Hid (Kid (typesL 6) (w.heap.size+1) w2 ts [.slice ax ts.length cx]):=Kid.mk hi2 G1.out.lt;clear hi2;clear m2 r2 k2 G1;have y1:=cellOf G2.out.box 1 _ rfl;have z1:=freeOf G2.out.box 1;go_wp2_with fail
  have G3:Hid (GB _ (w2.setCell ⟨(w.heap.size+1),1,none⟩ (.slice ax ts.length cx)) _ _ _ _ _ _ #[.int .i64 nr,.slice ax ts.length cx,.slice none 0 0,.slice none 0 0] _):=(GB.set G2.out 1 (.slice ax ts.length cx));have KtsG3:Hid (Kid _ _ (w2.setCell ⟨(w.heap.size+1),1,none⟩ (.slice ax ts.length cx)) _ _):=(Kid.set Kts.out (q:=⟨(w.heap.size+1),1,none⟩) (Nat.le_refl _) _);clear Kts;generalize (w2.setCell ⟨(w.heap.size+1),1,none⟩ (.slice ax ts.length cx))=w3 at G3 KtsG3 ⊢;clear y1 z1 G2;refine (ctypes_top _ b l _ G3.out.rd).mono ?_;intro e' w4 hO;rcases hO with ⟨us,p4,x4,m4,rfl,⟨ay,cy,rfl,hi4⟩,r4,k4⟩ | ⟨y,c',a',m4,rfl,hc',k4⟩
  rotate_left
  · exact ⟨rfl,Got.bad (by rw [funcD,rep1_eq,E1.out,DR.ok_andThen,E2.out,DR.ok_andThen,m4];rfl) hc' (G3.out.chg.trans k4)⟩
  have E4:Hid (typsD l.length 6 (l.drop p2)=.ok (us,l.drop p4)):=m4;have G4:Hid (GB _ _ _ _ _ _ _ _ _ _):=G3.out.call r4 k4;have KtsG35_:Hid (Kid _ _ _ _ _):=KtsG3.out.chg k4 (by omega);clear KtsG3;have Kus:Hid (Kid (typesL 6) (w.heap.size+1) w4 us [.slice ay us.length cy]):=Kid.mk hi4 G3.out.lt;clear hi4;clear m4 r4 k4 G3;have y2:=cellOf G4.out.box 2 _ rfl;have z2:=freeOf G4.out.box 2;go_wp2_with fail
  have G6:Hid (GB _ (w4.setCell ⟨(w.heap.size+1),2,none⟩ (.slice ay us.length cy)) _ _ _ _ _ _ #[.int .i64 nr,.slice ax ts.length cx,.slice ay us.length cy,.slice none 0 0] _):=(GB.set G4.out 2 (.slice ay us.length cy));have KtsG35_G6:Hid (Kid _ _ (w4.setCell ⟨(w.heap.size+1),2,none⟩ (.slice ay us.length cy)) _ _):=(Kid.set KtsG35_.out (q:=⟨(w.heap.size+1),2,none⟩) (Nat.le_refl _) _);clear KtsG35_;have KusG6:Hid (Kid _ _ (w4.setCell ⟨(w.heap.size+1),2,none⟩ (.slice ay us.length cy)) _ _):=(Kid.set Kus.out (q:=⟨(w.heap.size+1),2,none⟩) (Nat.le_refl _) _);clear Kus;generalize (w4.setCell ⟨(w.heap.size+1),2,none⟩ (.slice ay us.length cy))=w6 at G6 KtsG35_G6 KusG6 ⊢;clear y2 z2 G4;refine (clistB enters_cblock (fun w' p' _ h'=>cblock_any h') G6.out.rd).mono ?_;intro e' w7 hO;rcases hO with ⟨bs,p7,x7,m7,rfl,⟨az,cz,rfl,hi7⟩,r7,k7⟩ | ⟨y,c',a',m7,rfl,hc',k7⟩
  rotate_left
  · exact ⟨rfl,Got.bad (by rw [funcD,rep1_eq,E1.out,DR.ok_andThen,E2.out,DR.ok_andThen,E4.out,DR.ok_andThen,m7];rfl) hc' (G6.out.chg.trans k7)⟩
  have E7:Hid (lstD l.length (blockD l.length) (l.drop p4)=.ok (bs,l.drop p7)):=m7;have G7:Hid (GB _ _ _ _ _ _ _ _ _ _):=G6.out.call r7 k7;have KtsG35_G68_:Hid (Kid _ _ _ _ _):=KtsG35_G6.out.chg k7 (by omega);clear KtsG35_G6;have KusG69_:Hid (Kid _ _ _ _ _):=KusG6.out.chg k7 (by omega);clear KusG6;have Kbs:Hid (Kid (blockL 6).list (w.heap.size+1) w7 bs [.slice az bs.length cz]):=Kid.mk hi7 G6.out.lt;clear hi7;clear m7 r7 k7 G6;obtain ⟨y0,y1,y2,y3⟩:=cells4 G7.out.box;obtain ⟨u0,u1,u2,u3⟩:=cells4 G7.out.res;obtain ⟨v0,v1,v2,v3⟩:=frees4 G7.out.res;have z3:=freeOf G7.out.box 3;have hne:¬ (w.heap.size+1)=w.heap.size:=by omega
  go_wp2
  have DD:Hid (GinD _ _ _ _ _ _ #[.int .i64 nr,.slice ax ts.length cx,.slice ay us.length cy,.slice az bs.length cz] (((((w7.setCell ⟨(w.heap.size+1),3,none⟩ (.slice az bs.length cz)).setCell ⟨w.heap.size,0,none⟩ (.int .i64 nr)).setCell ⟨w.heap.size,1,none⟩ (.slice ax ts.length cx)).setCell ⟨w.heap.size,2,none⟩ (.slice ay us.length cy)).setCell ⟨w.heap.size,3,none⟩ (.slice az bs.length cz))):=GB.fin (GB.set G7.out 3 (.slice az bs.length cz)) [.int .i64 nr,.slice ax ts.length cx,.slice ay us.length cy,.slice az bs.length cz] rfl;have DKtsG35_G68_:Hid (Kid _ _ (((((w7.setCell ⟨(w.heap.size+1),3,none⟩ (.slice az bs.length cz)).setCell ⟨w.heap.size,0,none⟩ (.int .i64 nr)).setCell ⟨w.heap.size,1,none⟩ (.slice ax ts.length cx)).setCell ⟨w.heap.size,2,none⟩ (.slice ay us.length cy)).setCell ⟨w.heap.size,3,none⟩ (.slice az bs.length cz)) _ _):=Kid.sets (Kid.set KtsG35_G68_.out (q:=⟨(w.heap.size+1),3,none⟩) (Nat.le_refl _) _) (by omega) [.int .i64 nr,.slice ax ts.length cx,.slice ay us.length cy,.slice az bs.length cz] 0;clear KtsG35_G68_;have DKusG69_:Hid (Kid _ _ (((((w7.setCell ⟨(w.heap.size+1),3,none⟩ (.slice az bs.length cz)).setCell ⟨w.heap.size,0,none⟩ (.int .i64 nr)).setCell ⟨w.heap.size,1,none⟩ (.slice ax ts.length cx)).setCell ⟨w.heap.size,2,none⟩ (.slice ay us.length cy)).setCell ⟨w.heap.size,3,none⟩ (.slice az bs.length cz)) _ _):=Kid.sets (Kid.set KusG69_.out (q:=⟨(w.heap.size+1),3,none⟩) (Nat.le_refl _) _) (by omega) [.int .i64 nr,.slice ax ts.length cx,.slice ay us.length cy,.slice az bs.length cz] 0;clear KusG69_;have DKbs:Hid (Kid _ _ (((((w7.setCell ⟨(w.heap.size+1),3,none⟩ (.slice az bs.length cz)).setCell ⟨w.heap.size,0,none⟩ (.int .i64 nr)).setCell ⟨w.heap.size,1,none⟩ (.slice ax ts.length cx)).setCell ⟨w.heap.size,2,none⟩ (.slice ay us.length cy)).setCell ⟨w.heap.size,3,none⟩ (.slice az bs.length cz)) _ _):=Kid.sets (Kid.set Kbs.out (q:=⟨(w.heap.size+1),3,none⟩) (Nat.le_refl _) _) (by omega) [.int .i64 nr,.slice ax ts.length cx,.slice ay us.length cy,.slice az bs.length cz] 0;clear Kbs;clear y0 u0 v0 y1 u1 v1 y2 u2 v2 y3 u3 v3;generalize (((((w7.setCell ⟨(w.heap.size+1),3,none⟩ (.slice az bs.length cz)).setCell ⟨w.heap.size,0,none⟩ (.int .i64 nr)).setCell ⟨w.heap.size,1,none⟩ (.slice ax ts.length cx)).setCell ⟨w.heap.size,2,none⟩ (.slice ay us.length cy)).setCell ⟨w.heap.size,3,none⟩ (.slice az bs.length cz))=w9 at DD DKtsG35_G68_ DKusG69_ DKbs ⊢;obtain ⟨D1,D2,D3⟩:=DD.out;obtain ⟨x0,x1,x2,x3⟩:=cells4 D1;exact bodyPost_ret (v:=.agg #[.int .i64 nr,.slice ax ts.length cx,.slice ay us.length cy,.slice az bs.length cz]) (by simp [results,Tryz.results63,go_sem,x0,x1,x2,x3]) rfl (Got.good (by rw [funcD,rep1_eq,E1.out,DR.ok_andThen,E2.out,DR.ok_andThen,E4.out,DR.ok_andThen,E7.out,DR.ok_andThen];rfl) (⟨ax,cx,ay,cy,az,cz,rfl,func_mk (x:=⟨nr,ts,us,bs⟩) (Kid.out DKtsG35_G68_.out (by omega)) (Kid.out DKusG69_.out (by omega)) (Kid.out DKbs.out (by omega)) Bnr.out⟩) D2 D3)
theorem clistF {w : World} {b p : Nat} {l : List UInt8} (hE0 : Enters 63) (ONE0 : ∀ w' p', Chg b w w' → BAt w' b l p' → Calls Tryz.prog 63 #[ptrP b] w' fun en w'' => Got b l (funcD l.length (l.drop p')) w' (VFunc w') en w'') (h : BAt w b l p) :
    Calls Tryz.prog 62 #[ptrP b,.func (.func 63) #[ptrP b] #[]] w fun en w'=>Got b l (lstD l.length (funcD l.length) (l.drop p)) w (VFuncs w) en w':=by
  have hbw:=h.lt;have H:Hid (BAt w b l p):=h;have hl2:=h.len;have hE:=hE0;unfold Enters at hE;have ONE:Hid (∀ w' p',Chg b w w'→BAt w' b l p'→Calls Tryz.prog 63 #[ptrP b] w' fun en w''=>Got b l (funcD l.length (l.drop p')) w' (VFunc w') en w''):=ONE0;obtain ⟨i0,hi,hz0,hz1,hz2⟩:=pInfoF;clear h hE0 ONE0;go_enter Tryz.func62,Tryz.ntmps62
  go_wp2_with fail
  refine (ccount_any H.out).mono ?_;intro e' w1 hO;rcases hO with ⟨k,p1,x,m1,rfl,⟨rfl,hkl⟩,r1,k1⟩ | ⟨y,c,a,m1,rfl,hc,k1⟩
  rotate_left
  · exact ⟨rfl,Got.bad (by rw [lstD,m1];rfl) hc k1⟩
  have M1:Hid (cntD l.length (l.drop p)=.ok (k,l.drop p1)):=m1;have R1:Hid (BAt w1 b l p1):=r1;have K1:Hid (Chg b w w1):=k1;have hk2:k≤20000:=by omega
  have HKL:Hid (k≤l.length):=hkl;clear m1 r1 k1 H hkl;go_wp2_with fail
  go_loopw [5,8] (fun v u wr=>∃ xs cs i p2,u=.int .i64 (i:Nat)∧ARow (funcL 6) 46 wr w.heap.size v xs cs∧BAt wr b l p2∧Chg b w wr∧RepQ (funcD l.length) l p1 k i p2 xs) (fun _ u _=>k - (intOf u).toNat)
  case atStart=>exact ⟨[],[],0,p1,rfl,ARow.nil _ _ _ _,R1.out,K1.out,RepQ.start⟩
  case round =>
    obtain ⟨xs,cs,i,p2,rfl,hrow,hr,hk,hq⟩:=hrel;obtain ⟨a,c,rfl⟩:=hrow.formP;have A2:Hid (ARow (funcL 6) 46 wr w.heap.size (.slice a xs.length c) xs cs):=hrow;have R2:Hid (BAt wr b l p2):=hr;have K2:Hid (Chg b w wr):=hk;have Q2:Hid (RepQ (funcD l.length) l p1 k i p2 xs):=hq;have hle:i≤k:=hq.le;have hlen:Hid (xs.length=i):=hq.len;have hxl:xs.length≤20000:=by rw [hq.len];omega
    clear hrow hr hk hq;by_cases hik:i<k
    · have hik':(i:Int)<k:=by omega
      go_wp2_with fail
      refine (ONE.out wr p2 K2.out R2.out).mono ?_;intro e' w4 hO;rcases hO with ⟨x,p3,x3,m3,rfl,⟨q1,n1,q2,n2,q3,n3,rfl,ht4⟩,r4,k4⟩ | ⟨y,c',a',m3,rfl,hc,k4⟩
      rotate_left
      · exact ⟨rfl,Got.bad (by rw [lstD,M1.out,DR.ok_andThen,Q2.out.bad hik m3]) hc (K2.out.trans k4)⟩
      have Q4:Hid (RepQ (funcD l.length) l p1 k (i+1) p3 (xs++[x])):=Q2.out.go hik m3;have T4:Hid ((funcL 6).In w4 (fun g=>wr.heap.size≤g) x [.int .i64 x.regs,.slice q1 x.params.length n1,.slice q2 x.results.length n2,.slice q3 x.blocks.length n3]):=ht4;have S2:Hid (w.heap.size≤wr.heap.size):=K2.out.size;have A2':=A2;have A4:Hid (ARow (funcL 6) 46 w4 w.heap.size (.slice a xs.length c) xs cs):=A2.out.chgP k4 hbw;have R4:Hid (BAt w4 b l p3):=r4;have K4:Hid (Chg b w w4):=K2.out.trans k4;have hsz:=K4.out.size;have hown:Hid (w4.ownsRow w.heap.size 46 4 (.slice a xs.length c) xs.length cs):=A4.out.own
      have PU:Hid (∀ g cap w9,w9.ownsRow w.heap.size 46 4 (.slice (some ⟨g,0,none⟩) (xs.length+1) cap) (xs.length+1) (cs++[.int .i64 x.regs,.slice q1 x.params.length n1,.slice q2 x.results.length n2,.slice q3 x.blocks.length n3])→(w4.alloc (.cells #[.int .i64 x.regs,.slice q1 x.params.length n1,.slice q2 x.results.length n2,.slice q3 x.blocks.length n3] 46)).grownBy w9 (Value.slice a xs.length c).ownBlock→((Value.slice a xs.length c).ownBlock=some g∨g=w4.heap.size+1) →
          (∃ cs',ARow (funcL 6) 46 w9 w.heap.size (.slice (some ⟨g,0,none⟩) (xs.length+1) cap) (xs++[x]) cs')∧BAt w9 b l p3∧Chg b w w9):=by
        intro g cap w9 h1 h2 h3;have b5:Below w4.heap.size w4 (w4.alloc (.cells #[.int .i64 x.regs,.slice q1 x.params.length n1,.slice q2 x.results.length n2,.slice q3 x.blocks.length n3] 46)):=bel1 _ _;have A5:=A4.out.below b5
        have T5:(funcL 6).In (w4.alloc (.cells #[.int .i64 x.regs,.slice q1 x.params.length n1,.slice q2 x.results.length n2,.slice q3 x.blocks.length n3] 46)) (fun g=>w.heap.size≤g∧(Value.slice a xs.length c).ownBlock≠some g) x [.int .i64 x.regs,.slice q1 x.params.length n1,.slice q2 x.results.length n2,.slice q3 x.blocks.length n3] :=
          Lay.alloc (Lay.mono T4.out (fun k hk _=>⟨Nat.le_trans S2.out hk,fun e=>by have:=(A2'.out.lo_le e).2;omega⟩)) _
        refine ⟨⟨_,ARow.push A5 T5 h2 (by simpa using h3) h1⟩,(R4.out.below b5).grown h2 (fun k hk=>by have:=(A5.lo_le hk).1;omega),(K4.out.allocP _).grownP h2 (fun k hk=>(A5.lo_le hk).1)⟩
      clear r4 k4 m3 A2 R2 K2 Q2 A4 R4 K4 T4 S2 A2';generalize x.params.length=l1 at PU ⊢;generalize x.results.length=l2 at PU ⊢;generalize x.blocks.length=l3 at PU ⊢;generalize x.regs=o1 at PU ⊢;go_wp2_with (at_builtin;refine wpList_append_lies _ rfl (.tmp 10) (.tmp 13) 22 rfl w.heap.size 46 i0 (.agg #[.int .i64 0,.slice none 0 0,.slice none 0 0,.slice none 0 0]) 4 80 pUnderF hi hz0 hz1 hz2 rfl (by decide) _ _ _ rfl (hown.out.alloc _) ⟨w4.heap.size,0,none⟩ 1 1 [.int .i64 o1,.slice q1 l1 n1,.slice q2 l2 n2,.slice q3 l3 n3] rfl rfl (newsP _ [_,_,_,_] _) (pOneB12 rfl) (by decide) (by unfold maxLen;omega) (by omega) (by simp;omega) (w4.heap.size+1) (by simp) ?_)
      intro g2 cap2 w9 h1 hgrow hat hlt1;have U2:=PU.out g2 cap2 w9 h1 hgrow hat;obtain ⟨⟨cs',q1⟩,q2,q3⟩:=U2;have A9:Hid (ARow (funcL 6) 46 w9 w.heap.size (.slice (some ⟨g2,0,none⟩) (xs.length+1) cap2) (xs++[x]) cs'):=q1;have R9:Hid (BAt w9 b l p3):=q2;have K9:Hid (Chg b w w9):=q3;clear h1 hgrow hat hlt1 hown PU q1 q2 q3;go_wp2
      go_roundw
      case rel=>exact ⟨xs++[x],cs',i+1,p3,by simp,A9.out,R9.out,K9.out,Q4.out⟩
      case measure=>simp [intOf];omega
    · have hik':¬ (i:Int)<k:=by omega
      have Z:Hid (Got b l (lstD l.length (funcD l.length) (l.drop p)) w (VFuncs w) (.returned (.slice a xs.length c)) wr) :=
        Got.good (v:=xs) (by rw [lstD,M1.out,DR.ok_andThen];exact Q2.out.stop hik) ⟨a,c,rfl,A2.out.lay⟩ R2.out K2.out
      clear A2 R2 K2 Q2 M1 ONE;go_wp2
      go_ret;exact Z.out
def modD (N : Nat) (l : List UInt8) : DR (List (MFunc 6)) := (lstD N (funcD N) l).andThen fun m r => if r ≠ [] then .error (4, 0) else if (modFault m).1 ≠ 0 then .error (3, 0) else .ok (m, r)
theorem cmodule_any {w : World} {b p : Nat} {l : List UInt8} (h : BAt w b l p) :
    Calls Tryz.prog 38 #[ptrP b] w fun en w'=>Got b l (modD l.length (l.drop p)) w (VMod w) en w':=by
  have hmf:∀ (fn:Fn) (first cap:Array Value) (w:World),(Instr.makeFunc fn first cap).run Tryz.prog w=.ok (.func fn first cap) w:=fun _ _ _ _=>rfl;have hbw:=h.lt;have H1:Hid (BAt (w.alloc (.cells #[.slice none 0 0] 24)) b l p):=h.below (bel1 _ _);have X1:Hid (Blk (w.alloc (.cells #[.slice none 0 0] 24)) w.heap.size #[.slice none 0 0] 24):=Blk.new _ _ _;have K1:Hid (Chg b w (w.alloc (.cells #[.slice none 0 0] 24))):=Chg.below (bel1 _ _);have S1:Hid (w.heap.size<(w.alloc (.cells #[.slice none 0 0] 24)).heap.size):=X1.out.lt;clear h;go_enter Tryz.func38,Tryz.ntmps38
  go_wp2_with fail
  generalize w.alloc (.cells #[.slice none 0 0] 24)=w1 at H1 X1 K1 S1 ⊢;refine (clistF enters_cfunc (fun w' p' _ h'=>cfunc_any h') H1.out).mono ?_;intro e' w2 hO;rcases hO with ⟨m,p2,x,m2,rfl,⟨a,c,rfl,hi⟩,r2,k2⟩ | ⟨y,c',a',m2,rfl,hc',k2⟩
  rotate_left
  · exact ⟨rfl,Got.bad (by rw [modD,m2];rfl) hc' (K1.out.trans k2)⟩
  have M2:Hid (lstD l.length (funcD l.length) (l.drop p)=.ok (m,l.drop p2)):=m2;have SM:Hid (msmall m):=read_small m2 (by have:=r2.len;rw [List.length_drop];omega);have H3:Hid (BAt (w2.alloc (.cells #[.slice a m.length c] 24)) b l p2):=r2.below (bel1 _ _);have X3:Hid (Blk (w2.alloc (.cells #[.slice a m.length c] 24)) w.heap.size #[.slice none 0 0] 24):=(X1.out.chg k2 (by omega)).alloc _;have Y3:Hid (Blk (w2.alloc (.cells #[.slice a m.length c] 24)) w2.heap.size #[.slice a m.length c] 24):=Blk.new _ _ _;have K3:Hid (Chg b w (w2.alloc (.cells #[.slice a m.length c] 24))):=Chg.allocP (K1.out.trans k2) _;have I3:Hid ((modL 6).In (w2.alloc (.cells #[.slice a m.length c] 24)) (fun g=>w.heap.size<g) m [.slice a m.length c]):=Lay.alloc (Lay.mono hi (fun k hk _=>by have:=S1.out;omega)) _;have hw2:w.heap.size<w2.heap.size:=Nat.lt_of_lt_of_le S1.out k2.size;generalize hB:w2.heap.size=B at Y3 hw2;have HB:Hid (w2.heap.size=B):=hB;clear m2 hi r2 k2 H1 X1 K1 S1 hB;go_upto_region 2 with fail
  rw [HB.out];generalize w2.alloc (.cells #[.slice a m.length c] 24)=w3 at H3 X3 Y3 K3 I3 ⊢;obtain ⟨g,o,cb,h1,_⟩:=H3.out.open_;have y0:=cellOf h1 0 _ rfl;have y1:=cellOf h1 1 _ rfl;have z0:=cellOf Y3.out 0 _ rfl;have hp2:=H3.out.le;generalize hN:l.length=N at hp2 y0;have HN:Hid (l.length=N):=hN;clear h1 hN;by_cases hlt:p2<N
  · have hlt':(p2:Int)<N:=by omega
    have Z:Hid (∃ y,modD l.length (l.drop p)=.error y):=⟨(4,0),by
      rw [modD,M2.out,DR.ok_andThen,if_pos];intro e
      have:=congrArg List.length e
      rw [List.length_drop,HN.out] at this;simp at this
      omega⟩
    go_quiet (fail)
    go_wp2_with fail
    refine (cgiveUp_any 4 p2).mono ?_;rintro e' w' ⟨rfl,rfl⟩;obtain ⟨y,hy⟩:=Z.out;exact ⟨rfl,Got.bad hy (by decide) (K3.out.drewN _)⟩
  · have hlt':¬ (p2:Int)<N:=by omega
    have hd:l.drop p2=[]:=List.drop_of_length_le (by rw [HN.out];omega);have HD:Hid (l.drop p2=[]):=hd;clear hd;go_quiet (fail)
    have I5:Hid ((modL 6).In (w3.drewN nq) (fun g=>w.heap.size<g) m [.slice a m.length c]):=Lay.drewN I3.out _;have X5:Hid (Blk (w3.drewN nq) w.heap.size #[.slice none 0 0] 24):=X3.out.drewN _;have Y5:Hid (Blk (w3.drewN nq) B #[.slice a m.length c] 24):=Y3.out.drewN _;have H5:Hid (BAt (w3.drewN nq) b l p2):=H3.out.keep fun k _=>rfl;have K5:Hid (Chg b w (w3.drewN nq)):=K3.out.drewN _;clear I3 X3 Y3 H3 K3 y0 y1 z0;generalize w3.drewN nq=w5 at I5 X5 Y5 H5 K5 ⊢;have z0:=cellOf Y5.out 0 _ rfl;have hfl:∀ (c a:Int) (w:World),(Instr.field 30 (.agg #[.int .i64 c,.int .i64 a]) 0).run Tryz.prog w=.ok (.int .i64 c) w:=fun _ _ _=>by kernel_rfl
    go_wp2_with fail
    refine Calls.mono (cCheck_any (Lay.mono I5.out (fun _ _ _=>trivial)) SM.out) ?_;rintro e' w6 ⟨rfl,b6⟩;have I6:Hid ((modL 6).In w6 (fun g=>w.heap.size<g) m [.slice a m.length c]):=Lay.below I5.out b6;have X6:Hid (Blk w6 w.heap.size #[.slice none 0 0] 24):=X5.out.below b6;have Y6:Hid (Blk w6 B #[.slice a m.length c] 24):=Y5.out.below b6;have H6:Hid (BAt w6 b l p2):=H5.out.below b6;have K6:Hid (Chg b w w6):=K5.out.trans (Chg.below b6);clear I5 X5 Y5 H5 K5 b6 z0;obtain ⟨g,o,cb,h1,_⟩:=H6.out.open_;rw [HN.out] at h1;have y0:=cellOf h1 0 _ rfl;have z0:=cellOf Y6.out 0 _ rfl;clear h1;by_cases hf:(modFault m).1=0
    · have Z:Hid (modD l.length (l.drop p)=.ok (m,l.drop p2)):=by
        show _=_;rw [modD,M2.out,DR.ok_andThen,if_neg (by rw [HD.out];simp),if_neg (by simp [hf])]
      have u0:=cellOf X6.out 0 _ rfl;have v0:=freeOf X6.out 0;have hfv:faultV (modFault m)=.agg #[.int .i64 0,.int .i64 (modFault m).2]:=by rw [faultV,hf]
      rw [hfv];generalize (modFault m).2=fa;clear hf hfv;go_wp2
      have D1:Blk (w6.setCell ⟨w.heap.size,0,none⟩ (.slice a m.length c)) w.heap.size #[.slice a m.length c] 24:=by simpa [Blk] using blockSet X6.out 0 (.slice a m.length c)
      have D2:(modL 6).In (w6.setCell ⟨w.heap.size,0,none⟩ (.slice a m.length c)) (fun g=>w.heap.size≤g) m [.slice a m.length c]:=Lay.mono (Lay.setCell I6.out (p:=⟨w.heap.size,0,none⟩) (by simp) _) (fun k hk _=>Nat.le_of_lt hk);have D3:BAt (w6.setCell ⟨w.heap.size,0,none⟩ (.slice a m.length c)) b l p2:=H6.out.set hbw _;have D4:Chg b w (w6.setCell ⟨w.heap.size,0,none⟩ (.slice a m.length c)):=Chg.setNewP K6.out (Nat.le_refl _) _;generalize w6.setCell ⟨w.heap.size,0,none⟩ (.slice a m.length c)=w9 at D1 D2 D3 D4 ⊢;have x0:=cellOf D1 0 _ rfl;exact bodyPost_ret (v:=.agg #[.slice a m.length c]) (by simp [results,Tryz.results38,go_sem,x0]) rfl (Got.good Z.out ⟨a,c,rfl,D2⟩ D3 D4)
    · have Z:Hid (modD l.length (l.drop p)=.error (3,0)):=by
        show _=_;rw [modD,M2.out,DR.ok_andThen,if_neg (by rw [HD.out];simp),if_pos (by simp [hf])]
      generalize hfc:modFault m=fm at hf ⊢;obtain ⟨fc,fa⟩:=fm;have hf':¬ fc=0:=hf;clear hf hfc;go_wp2_with fail
      refine (cgiveUp_any 3 N).mono ?_;rintro e' w' ⟨rfl,rfl⟩;exact ⟨rfl,Got.bad Z.out (by decide) K6.out⟩
theorem dec_frame {b : List UInt8} (h : (frameL b).1 ≠ 0) (m : List (MFunc 6)) : decL b ≠ .ok m := by
  unfold frameL at h;unfold decL;split at h
  · rename_i h1;rw [if_pos h1];simp
  rename_i h1;rw [if_neg h1]
  split at h
  · rename_i h2;rw [if_pos h2];simp
  rename_i h2;rw [if_neg h2]
  split at h
  · rename_i h3;rw [if_pos h3];simp
  rename_i h3;rw [if_neg h3]
  split at h
  · rename_i h4;rw [if_pos h4];simp
  · exact absurd rfl h
theorem frame_len {b : List UInt8} (h : (frameL b).1 = 0) : 7 ≤ b.length ∧ b.length ≤ 20000 := by
  unfold frameL at h;split at h
  · cases h
  split at h
  · cases h
  omega
theorem dec_between {b : List UInt8} (h : (frameL b).1 = 0) {m : List (MFunc 6)} : decL b = .ok m ↔ ∃ r, modD (b.length - 4) ((b.take (b.length - 4)).drop 3) = .ok (m, r) := by
  unfold frameL at h;unfold decL;split at h
  · cases h
  rename_i h1;rw [if_neg h1]
  split at h
  · cases h
  rename_i h2;rw [if_neg h2]
  split at h
  · cases h
  rename_i h3;rw [if_neg h3]
  split at h
  · cases h
  rename_i h4;rw [if_neg h4]
  unfold modD
  cases lstD (b.length - 4) (funcD (b.length - 4)) ((b.take (b.length - 4)).drop 3) with
  | error e=>simp [DR.andThen]
  | ok x =>
    obtain ⟨m',r⟩:=x;rw [DR.ok_andThen];simp only
    by_cases hr:r≠[]
    · rw [if_pos hr,if_pos hr];simp
    · rw [if_neg hr,if_neg hr];by_cases hf:(modFault m').1≠0
      · rw [if_pos hf,if_pos hf];simp
      · rw [if_neg hf,if_neg hf];constructor
        · intro e;injection e with e;subst e;exact ⟨r,rfl⟩
        · rintro ⟨r',e⟩;injection e with e;injection e with e _;subst e;rfl
def Dec1Out (b M : Nat) (r : DR (List (MFunc 6))) (w : World) (en : Ending) (w' : World) : Prop :=
  (∃ m q a c,r=.ok (m,q)∧en=.returned (.tuple #[])∧Blk w' M #[.slice a m.length c] 24∧(modL 6).In w' (fun g=>w.heap.size≤g) m [.slice a m.length c]∧Chg2 b M w w') ∨
  (∃ y c a,r=.error y∧en=.panicked (gaveC c a)∧c≠0∧Chg2 b M w w')
theorem cdec1_any {w : World} {b p M pb : Nat} {l : List UInt8} {TP : TypeId} (h : BAt w b l p) (hM : Blk w M #[.slice none 0 0] 24) (hp : Blk w pb #[ptrP b] TP) (hne : M ≠ b) :
    Calls Tryz.prog 37 #[ptrP pb,ptrP M] w fun en w'=>Dec1Out b M (modD l.length (l.drop p)) w en w':=by
  have H:Hid (BAt w b l p):=h;have HM:Hid (Blk w M #[.slice none 0 0] 24):=hM;have q0:=cellOf hp 0 _ rfl;have hMl:=hM.lt;clear h hM hp;go_enter Tryz.func37,Tryz.ntmps37
  go_wp2_with fail
  refine (cmodule_any H.out).mono ?_;intro e' w2 hO;rcases hO with ⟨m,q,x,m2,rfl,⟨a,c,rfl,hi⟩,r2,k2⟩ | ⟨y,c',a',m2,rfl,hc',k2⟩
  rotate_left
  · exact ⟨rfl,.inr ⟨y,c',a',m2,rfl,hc',Chg2.of k2⟩⟩
  have M2:=HM.out.chg k2 hne;have u0:=cellOf M2 0 _ rfl;have v0:=freeOf M2 0
  have D:Hid (Dec1Out b M (modD l.length (l.drop p)) w (.returned (.tuple #[])) (w2.setCell ⟨M,0,none⟩ (.slice a m.length c))) :=
    .inl ⟨m,_,a,c,m2,rfl,by simpa [Blk] using blockSet M2 0 (.slice a m.length c),Lay.setCell hi (p:=⟨M,0,none⟩) (by show ¬ w.heap.size≤M;omega) _,(Chg2.of k2).trans (Chg2.set w2 0 _)⟩
  clear H HM q0 m2 hi r2 k2 M2;go_wp2
  exact bodyPost_end (v:=.tuple #[]) (by simp [results,Tryz.results37,go_sem]) rfl D.out
theorem enters_dec1 : Enters 37 := fun _ _ => by kernel_rfl
def DecOut (l : List UInt8) (w : World) (en : Ending) (w' : World) : Prop :=
  ((∃ m a c,decL l=.ok m∧en=.returned (.tuple #[.agg #[.slice a m.length c],.agg #[.int .i64 0,.int .i64 0]])∧(modL 6).In w' (fun g=>w.heap.size≤g) m [.slice a m.length c]) ∨
   (∃ c a:Int,(∀ m,decL l≠.ok m)∧c≠0∧((frameL l).1≠0→c=(frameL l).1)∧en=.returned (.tuple #[.agg #[.slice none 0 0],.agg #[.int .i64 c,.int .i64 a]])))∧Below w.heap.size w w'
theorem dec_results {w w3 : World} {m0 : Value} {f0 f1 : Value} (B3 : Below w.heap.size w w3) (X3 : Blk w3 w.heap.size #[m0] 24) (Y3 : Blk w3 (w.heap.size + 1) #[f0, f1] 30) (m c a : Value) :
    Blk (((w3.setCell ⟨w.heap.size,0,none⟩ m).setCell ⟨w.heap.size+1,0,none⟩ c).setCell ⟨w.heap.size+1,1,none⟩ a).drew w.heap.size #[m] 24∧Blk (((w3.setCell ⟨w.heap.size,0,none⟩ m).setCell ⟨w.heap.size+1,0,none⟩ c).setCell ⟨w.heap.size+1,1,none⟩ a).drew (w.heap.size+1) #[c,a] 30∧Below w.heap.size w (((w3.setCell ⟨w.heap.size,0,none⟩ m).setCell ⟨w.heap.size+1,0,none⟩ c).setCell ⟨w.heap.size+1,1,none⟩ a).drew:=by
  refine ⟨?_,?_,?_⟩
  · have h:Blk (w3.setCell ⟨w.heap.size,0,none⟩ m) w.heap.size #[m] 24:=by simpa [Blk] using blockSet X3 0 m
    exact (h.setOther (p:=⟨w.heap.size+1,0,none⟩) (by show w.heap.size+1≠w.heap.size;omega) c).setOther (p:=⟨w.heap.size+1,1,none⟩) (by show w.heap.size+1≠w.heap.size;omega) a
  · have h:=Y3.setOther (p:=⟨w.heap.size,0,none⟩) (by show w.heap.size≠w.heap.size+1;omega) m
    have:=blockSet (blockSet h 0 c) 1 a
    show Blk (((w3.setCell ⟨w.heap.size,0,none⟩ m).setCell ⟨w.heap.size+1,0,none⟩ c).setCell ⟨w.heap.size+1,1,none⟩ a) (w.heap.size+1) #[c,a] 30;simpa [Blk] using this
  · exact (((B3.setCell (p:=⟨w.heap.size,0,none⟩) (Nat.le_refl _) m).setCell (p:=⟨w.heap.size+1,0,none⟩) (Nat.le_succ _) c).setCell (p:=⟨w.heap.size+1,1,none⟩) (Nat.le_succ _) a).drew
theorem cdecode_any {w : World} {l : List UInt8} {a : Option Addr} {c : Nat} (h : bytesL.In w (fun _ => True) l [.slice a l.length c]) (hc : l.length ≤ c) (hl : l.length ≤ 100000) :
    Calls Tryz.prog 13 #[.slice a l.length c] w fun en w'=>DecOut l w en w':=by
  have hmf:∀ (fn:Fn) (first cap:Array Value) (w:World),(Instr.makeFunc fn first cap).run Tryz.prog w=.ok (.func fn first cap) w:=fun _ _ _ _=>rfl;have B0:Hid (Below w.heap.size w ((w.alloc (.cells #[.slice none 0 0] 24)).alloc (.cells #[.int .i64 0,.int .i64 0] 30))):=bel2 _ _ _;have X0:Hid (Blk ((w.alloc (.cells #[.slice none 0 0] 24)).alloc (.cells #[.int .i64 0,.int .i64 0] 30)) w.heap.size #[.slice none 0 0] 24):=Blk.new1 _ _ _ _ _;have Y0:Hid (Blk ((w.alloc (.cells #[.slice none 0 0] 24)).alloc (.cells #[.int .i64 0,.int .i64 0] 30)) (w.heap.size+1) #[.int .i64 0,.int .i64 0] 30):=Blk.new2 _ _ _ _;have I0:Hid (bytesL.In ((w.alloc (.cells #[.slice none 0 0] 24)).alloc (.cells #[.int .i64 0,.int .i64 0] 30)) (fun g=>g<w.heap.size) l [.slice a l.length c]):=Lay.alloc (Lay.alloc (Lay.mono h (fun k _ hk=>hk)) _) _;clear h;go_enter Tryz.func13,Tryz.ntmps13
  go_wp2_with fail
  generalize (w.alloc (.cells #[.slice none 0 0] 24)).alloc (.cells #[.int .i64 0,.int .i64 0] 30)=w1 at B0 X0 Y0 I0 ⊢;refine (cframe_any (bytesAt_of I0.out) hc hl).mono ?_;rintro e' w2 ⟨rfl,b2⟩;generalize hFR:frameL l=fr;obtain ⟨fc,fa⟩:=fr;have FR:Hid (frameL l=(fc,fa)):=hFR;have hw1:=Y0.out.lt;have B2:Hid (Below w.heap.size w w2):=B0.out.trans (b2.mono (by omega));have X2:Hid (Blk w2 w.heap.size #[.slice none 0 0] 24):=X0.out.below b2;have Y2:Hid (Blk w2 (w.heap.size+1) #[.int .i64 0,.int .i64 0] 30):=Y0.out.below b2;have I2:Hid (bytesL.In w2 (fun g=>g<w.heap.size) l [.slice a l.length c]):=Lay.below I0.out b2;have hw2:w.heap.size+1<w2.heap.size:=Y2.out.lt;clear B0 X0 Y0 I0 b2 hFR hw1;simp only
  by_cases hf:fc=0
  · subst hf;have hfl:=frame_len (b:=l) (by rw [FR.out]);obtain ⟨k,hk⟩:∃ k,l.length=k+4:=⟨l.length - 4,by omega⟩;have HK:Hid (l.length=k+4):=hk;have hpos:0<l.length:=by omega
    have DEC:Hid (∀ m,decL l=.ok m ↔ ∃ r,modD k ((l.take k).drop 3)=.ok (m,r)):=fun m=>by
      have:=dec_between (b:=l) (m:=m) (by rw [FR.out])
      rwa [hk,Nat.add_sub_cancel] at this
    obtain ⟨g,o,rfl,hg⟩:∃ g o,a=some ⟨g,o,none⟩∧g<w.heap.size:=by
      obtain ⟨g,o,e,hg,_⟩:=byte_at I2.out (List.getElem?_eq_getElem hpos);exact ⟨g,o,e,hg⟩
    rw [hk] at hc hfl ⊢;have hlk:(l.take k).length=k:=by rw [List.length_take,hk];omega
    have HLK:Hid ((l.take k).length=k):=hlk;have hs2:∀ wx,(Instr.slice 25 (.slice (some ⟨g,o,none⟩) (k+4) c) none (some (.int .i64 (k:Int))) none).run Tryz.prog wx=.ok (.slice (some ⟨g,o,none⟩) k c) wx:=fun wx=>slice_front hc
    have I3:Hid (bytesL.In w2 (fun g=>g<w.heap.size) (l.take k) [.slice (some ⟨g,o,none⟩) k c]):=by
      have:=bytes_take (c':=c) I2.out k
      rw [hlk] at this;exact this
    clear hk hlk I2 hpos;generalize hB:w2.heap.size=B at hw2;have HB:Hid (w2.heap.size=B):=hB;clear hB;have W0:Hid (Below w.heap.size w (((((w2.alloc (.cells #[.int .i64 0,.int .i64 fa] 30)).alloc (.cells #[.slice none 0 0] 24)).alloc (.cells #[.slice (some ⟨g,o,none⟩) k c,.int .i64 3] 79)).alloc (.cells #[ptrP (B+1+1)] 77)))):=(((B2.out.alloc (by have:=HB.out;omega) _).alloc (by simp [HB.out];omega) _).alloc (by simp [HB.out];omega) _).alloc (by simp [HB.out];omega) _;have X5:Hid (Blk (((((w2.alloc (.cells #[.int .i64 0,.int .i64 fa] 30)).alloc (.cells #[.slice none 0 0] 24)).alloc (.cells #[.slice (some ⟨g,o,none⟩) k c,.int .i64 3] 79)).alloc (.cells #[ptrP (B+1+1)] 77))) w.heap.size #[.slice none 0 0] 24):=(((X2.out.alloc _).alloc _).alloc _).alloc _;have Y5:Hid (Blk (((((w2.alloc (.cells #[.int .i64 0,.int .i64 fa] 30)).alloc (.cells #[.slice none 0 0] 24)).alloc (.cells #[.slice (some ⟨g,o,none⟩) k c,.int .i64 3] 79)).alloc (.cells #[ptrP (B+1+1)] 77))) (w.heap.size+1) #[.int .i64 0,.int .i64 0] 30):=(((Y2.out.alloc _).alloc _).alloc _).alloc _
    have M5:Hid (Blk (((((w2.alloc (.cells #[.int .i64 0,.int .i64 fa] 30)).alloc (.cells #[.slice none 0 0] 24)).alloc (.cells #[.slice (some ⟨g,o,none⟩) k c,.int .i64 3] 79)).alloc (.cells #[ptrP (B+1+1)] 77))) (B+1) #[.slice none 0 0] 24):=by
      have h:=Blk.new (w2.alloc (.cells #[.int .i64 0,.int .i64 fa] 30)) #[.slice none 0 0] 24;have e:(w2.alloc (.cells #[.int .i64 0,.int .i64 fa] 30)).heap.size=B+1:=by simp [HB.out]
      rw [e] at h;exact (h.alloc _).alloc _
    have R5:Hid (BAt (((((w2.alloc (.cells #[.int .i64 0,.int .i64 fa] 30)).alloc (.cells #[.slice none 0 0] 24)).alloc (.cells #[.slice (some ⟨g,o,none⟩) k c,.int .i64 3] 79)).alloc (.cells #[ptrP (B+1+1)] 77))) (B+1+1) (l.take k) 3):=by
      refine ⟨⟨some ⟨g,o,none⟩,c,?_,?_,by rw [HLK.out];omega⟩,by rw [HLK.out];omega,by rw [HLK.out];omega,by rw [HLK.out];omega⟩
      · have h:=Blk.new ((w2.alloc (.cells #[.int .i64 0,.int .i64 fa] 30)).alloc (.cells #[.slice none 0 0] 24)) #[.slice (some ⟨g,o,none⟩) k c,.int .i64 3] 79;have e:((w2.alloc (.cells #[.int .i64 0,.int .i64 fa] 30)).alloc (.cells #[.slice none 0 0] 24)).heap.size=B+1+1:=by simp [HB.out]
        rw [e] at h;rw [HLK.out];exact h.alloc _
      · rw [HLK.out];exact Lay.alloc (Lay.alloc (Lay.alloc (Lay.alloc (Lay.mono I3.out (fun k hk _=>by omega)) _) _) _) _
    have P5:Hid (Blk (((((w2.alloc (.cells #[.int .i64 0,.int .i64 fa] 30)).alloc (.cells #[.slice none 0 0] 24)).alloc (.cells #[.slice (some ⟨g,o,none⟩) k c,.int .i64 3] 79)).alloc (.cells #[ptrP (B+1+1)] 77))) (B+1+1+1) #[ptrP (B+1+1)] 77):=by
      have h:=Blk.new (((w2.alloc (.cells #[.int .i64 0,.int .i64 fa] 30)).alloc (.cells #[.slice none 0 0] 24)).alloc (.cells #[.slice (some ⟨g,o,none⟩) k c,.int .i64 3] 79)) #[ptrP (B+1+1)] 77;have e:(((w2.alloc (.cells #[.int .i64 0,.int .i64 fa] 30)).alloc (.cells #[.slice none 0 0] 24)).alloc (.cells #[.slice (some ⟨g,o,none⟩) k c,.int .i64 3] 79)).heap.size=B+1+1+1:=by simp [HB.out]
      rw [e] at h;exact h
    have S5:Hid ((((((w2.alloc (.cells #[.int .i64 0,.int .i64 fa] 30)).alloc (.cells #[.slice none 0 0] 24)).alloc (.cells #[.slice (some ⟨g,o,none⟩) k c,.int .i64 3] 79)).alloc (.cells #[ptrP (B+1+1)] 77))).heap.size=B+1+1+1+1):=by show _=_;simp [HB.out]
    clear B2 X2 Y2 I3;go_upto_region 6 with fail
    rw [HB.out];generalize (((((w2.alloc (.cells #[.int .i64 0,.int .i64 fa] 30)).alloc (.cells #[.slice none 0 0] 24)).alloc (.cells #[.slice (some ⟨g,o,none⟩) k c,.int .i64 3] 79)).alloc (.cells #[ptrP (B+1+1)] 77)))=w5 at W0 X5 Y5 M5 R5 P5 S5 ⊢;have hn1:B+1≠B+1+1:=by omega
    go_wp2_with fail
    refine (caught_any 37 #[ptrP (B+1+1+1),ptrP (B+1)] enters_dec1
      (fun w6=>∃ m q a c,modD k ((l.take k).drop 3)=.ok (m,q)∧Blk w6 (B+1) #[.slice a m.length c] 24∧(modL 6).In w6 (fun g=>w5.heap.size<g) m [.slice a m.length c]∧Below (B+1) w5 w6)
      (fun w6=>(∃ y,modD k ((l.take k).drop 3)=.error y)∧Below (B+1) w5 w6) ?_).mono ?_
    · have hs5:=S5.out;refine (cdec1_any (R5.out.below (bel1 _ _)) (M5.out.alloc _) (P5.out.alloc _) hn1).mono ?_;intro e' w6 hO;rw [HLK.out] at hO
      have bel:Chg2 (B+1+1) (B+1) (w5.alloc (.cells #[.int .i64 0,.int .i64 0] 30)) w6→Below (B+1) w5 w6∧Blk w6 w5.heap.size #[.int .i64 0,.int .i64 0] 30:=fun k6 =>
        ⟨⟨k6.os,k6.tape,k6.output,by have:=k6.size;simp at this;omega,fun j hj=>(k6.block j (by simp;omega) (by omega)).trans (Below.heap_alloc _ _ _ (by omega))⟩,(Blk.new w5 _ _).chg2 k6 (by omega) (by omega)⟩
      rcases hO with ⟨m,q,a,c,e6,rfl,h6,i6,k6⟩ | ⟨y,c,a,e6,rfl,hc,k6⟩
      · exact ⟨(bel k6).2,.inl ⟨rfl,m,q,a,c,e6,h6,Lay.mono i6 (fun j hj _=>by simp at hj;omega),(bel k6).1⟩⟩
      · exact ⟨(bel k6).2,.inr ⟨c,a,rfl,hc,⟨y,e6⟩,(bel k6).1⟩⟩
    intro e' w7 hO;have hs5:=S5.out;rcases hO with ⟨w6,⟨m,q,a,c6,e6,h6,i6,b6⟩,rfl,k7⟩ | ⟨w6,c6,a6,⟨⟨y,e6⟩,b6⟩,rfl,hc6,k7⟩
    · have DD:Hid (decL l=.ok m):=(DEC.out m).2 ⟨q,e6⟩;have b7:Below (B+1) w5 w7:=⟨k7.os.trans b6.os,k7.tape.trans b6.tape,k7.output.trans b6.output,Nat.le_trans b6.size k7.size,fun j hj=>(k7.block j (by have:=b6.size;omega) (by omega)).trans (b6.block j hj)⟩;have W7:Hid (Below w.heap.size w w7):=W0.out.trans (b7.mono (by omega));have X7:Hid (Blk w7 w.heap.size #[.slice none 0 0] 24):=(b7.block _ (by omega)).trans X5.out;have Y7:Hid (Blk w7 (w.heap.size+1) #[.int .i64 0,.int .i64 0] 30):=(b7.block _ (by omega)).trans Y5.out;have M7:Hid (Blk w7 (B+1) #[.slice a m.length c6] 24):=h6.chg k7 (by omega);have I7:Hid ((modL 6).In w7 (fun g=>w5.heap.size<g) m [.slice a m.length c6]):=Chg.keep i6 k7 (fun j hj=>by omega);have hs7:w5.heap.size≤w7.heap.size:=b7.size;have W8:Hid (Below w.heap.size w (w7.alloc (.cells #[.int .i64 0,.int .i64 0] 30))):=W7.out.alloc (by omega) _;have X8:Hid (Blk (w7.alloc (.cells #[.int .i64 0,.int .i64 0] 30)) w.heap.size #[.slice none 0 0] 24):=X7.out.alloc _;have Y8:Hid (Blk (w7.alloc (.cells #[.int .i64 0,.int .i64 0] 30)) (w.heap.size+1) #[.int .i64 0,.int .i64 0] 30):=Y7.out.alloc _;have M8:Hid (Blk (w7.alloc (.cells #[.int .i64 0,.int .i64 0] 30)) (B+1) #[.slice a m.length c6] 24):=M7.out.alloc _;have I8:Hid ((modL 6).In (w7.alloc (.cells #[.int .i64 0,.int .i64 0] 30)) (fun g=>w5.heap.size<g) m [.slice a m.length c6]):=Lay.alloc I7.out _;have F8:Hid (Blk (w7.alloc (.cells #[.int .i64 0,.int .i64 0] 30)) w7.heap.size #[.int .i64 0,.int .i64 0] 30):=Blk.new _ _ _;have hw5:Hid (w.heap.size+1<w5.heap.size):=by show _<_;omega
      clear k7 b6 b7 i6 h6 e6 W0 X5 Y5 M5 R5 P5 S5 hs5 W7 X7 Y7 M7 I7 DEC;go_upto_region 7 with fail
      generalize hC:w7.heap.size=C at F8 hs7 ⊢;clear hC;generalize w7.alloc (.cells #[.int .i64 0,.int .i64 0] 30)=w8 at W8 X8 Y8 M8 I8 F8 ⊢;have x0:=cellOf X8.out 0 _ rfl;have x1:=freeOf X8.out 0;have y0:=cellOf Y8.out 0 _ rfl;have y1:=cellOf Y8.out 1 _ rfl;have y2:=freeOf Y8.out 0;have y3:=freeOf Y8.out 1;have z0:=cellOf F8.out 0 _ rfl;have m0:=cellOf M8.out 0 _ rfl;go_wp2
      have D1:=dec_results W8.out X8.out Y8.out (.slice a m.length c6) (.int .i64 0) (.int .i64 0)
      have D2:(modL 6).In (((w8.setCell ⟨w.heap.size,0,none⟩ (.slice a m.length c6)).setCell ⟨w.heap.size+1,0,none⟩ (.int .i64 0)).setCell ⟨w.heap.size+1,1,none⟩ (.int .i64 0)) (fun g=>w.heap.size≤g) m [.slice a m.length c6] :=
        Lay.mono (Lay.setCell (Lay.setCell (Lay.setCell I8.out (p:=⟨w.heap.size,0,none⟩) (by show ¬ w5.heap.size<w.heap.size;have:=hw5.out;omega) _) (p:=⟨w.heap.size+1,0,none⟩) (by show ¬ w5.heap.size<w.heap.size+1;have:=hw5.out;omega) _) (p:=⟨w.heap.size+1,1,none⟩) (by show ¬ w5.heap.size<w.heap.size+1;have:=hw5.out;omega) _) (fun j hj _=>by have:=hw5.out;omega)
      have D3:Below w.heap.size w (((w8.setCell ⟨w.heap.size,0,none⟩ (.slice a m.length c6)).setCell ⟨w.heap.size+1,0,none⟩ (.int .i64 0)).setCell ⟨w.heap.size+1,1,none⟩ (.int .i64 0)):=⟨D1.2.2.os,D1.2.2.tape,D1.2.2.output,D1.2.2.size,D1.2.2.block⟩;have x0:(((w8.setCell ⟨w.heap.size,0,none⟩ (.slice a m.length c6)).setCell ⟨w.heap.size+1,0,none⟩ (.int .i64 0)).setCell ⟨w.heap.size+1,1,none⟩ (.int .i64 0)).cell? ⟨w.heap.size,0,none⟩=_:=cellOf D1.1 0 _ rfl;have x1:(((w8.setCell ⟨w.heap.size,0,none⟩ (.slice a m.length c6)).setCell ⟨w.heap.size+1,0,none⟩ (.int .i64 0)).setCell ⟨w.heap.size+1,1,none⟩ (.int .i64 0)).cell? ⟨w.heap.size+1,0,none⟩=_:=cellOf D1.2.1 0 _ rfl;have x2:(((w8.setCell ⟨w.heap.size,0,none⟩ (.slice a m.length c6)).setCell ⟨w.heap.size+1,0,none⟩ (.int .i64 0)).setCell ⟨w.heap.size+1,1,none⟩ (.int .i64 0)).cell? ⟨w.heap.size+1,1,none⟩=_:=cellOf D1.2.1 1 _ rfl;generalize ((w8.setCell ⟨w.heap.size,0,none⟩ (.slice a m.length c6)).setCell ⟨w.heap.size+1,0,none⟩ (.int .i64 0)).setCell ⟨w.heap.size+1,1,none⟩ (.int .i64 0)=w9 at D2 D3 x0 x1 x2 ⊢;exact bodyPost_ret (v:=.tuple #[.agg #[.slice a m.length c6],.agg #[.int .i64 0,.int .i64 0]]) (by simp [results,Tryz.results13,go_sem,x0,x1,x2]) rfl ⟨.inl ⟨m,a,c6,DD.out,rfl,D2⟩,D3⟩
    · have ND:Hid (∀ m,decL l≠.ok m):=fun m e=>by
        obtain ⟨r,hr⟩:=(DEC.out m).1 e;rw [e6] at hr
        cases hr
      have b7:Below (B+1) w5 w7:=⟨k7.os.trans b6.os,k7.tape.trans b6.tape,k7.output.trans b6.output,Nat.le_trans b6.size k7.size,fun j hj=>(k7.block j (by have:=b6.size;omega) (by omega)).trans (b6.block j hj)⟩;have W7:Hid (Below w.heap.size w w7):=W0.out.trans (b7.mono (by omega));have X7:Hid (Blk w7 w.heap.size #[.slice none 0 0] 24):=(b7.block _ (by omega)).trans X5.out;have Y7:Hid (Blk w7 (w.heap.size+1) #[.int .i64 0,.int .i64 0] 30):=(b7.block _ (by omega)).trans Y5.out;have hs7:w5.heap.size≤w7.heap.size:=b7.size;have W8:Hid (Below w.heap.size w (w7.alloc (.cells #[.int .i64 c6,.int .i64 a6] 30))):=W7.out.alloc (by omega) _;have X8:Hid (Blk (w7.alloc (.cells #[.int .i64 c6,.int .i64 a6] 30)) w.heap.size #[.slice none 0 0] 24):=X7.out.alloc _;have Y8:Hid (Blk (w7.alloc (.cells #[.int .i64 c6,.int .i64 a6] 30)) (w.heap.size+1) #[.int .i64 0,.int .i64 0] 30):=Y7.out.alloc _;have F8:Hid (Blk (w7.alloc (.cells #[.int .i64 c6,.int .i64 a6] 30)) w7.heap.size #[.int .i64 c6,.int .i64 a6] 30):=Blk.new _ _ _;have HC6:Hid (c6≠0):=hc6;have hw5:w.heap.size+1<w5.heap.size:=by omega
      clear k7 b6 b7 e6 W0 X5 Y5 M5 R5 P5 S5 hs5 W7 X7 Y7 DEC;go_upto_region 7 with fail
      generalize hC:w7.heap.size=C at F8 hs7 ⊢;clear hC;generalize w7.alloc (.cells #[.int .i64 c6,.int .i64 a6] 30)=w8 at W8 X8 Y8 F8 ⊢;have x0:=cellOf X8.out 0 _ rfl;have x1:=freeOf X8.out 0;have y0:=cellOf Y8.out 0 _ rfl;have y1:=cellOf Y8.out 1 _ rfl;have y2:=freeOf Y8.out 0;have y3:=freeOf Y8.out 1;have z0:=cellOf F8.out 0 _ rfl;have z1:=cellOf F8.out 1 _ rfl;have n1:¬ w.heap.size=C:=by omega
      have n2:¬ w.heap.size+1=C:=by omega
      go_wp2_with fail
      go_region;have D1:Hid (Blk (((w8.setCell ⟨w.heap.size,0,none⟩ (.slice none 0 0)).setCell ⟨w.heap.size+1,0,none⟩ (.int .i64 c6)).setCell ⟨w.heap.size+1,1,none⟩ (.int .i64 a6)).drew w.heap.size #[.slice none 0 0] 24∧Blk (((w8.setCell ⟨w.heap.size,0,none⟩ (.slice none 0 0)).setCell ⟨w.heap.size+1,0,none⟩ (.int .i64 c6)).setCell ⟨w.heap.size+1,1,none⟩ (.int .i64 a6)).drew (w.heap.size+1) #[.int .i64 c6,.int .i64 a6] 30∧Below w.heap.size w (((w8.setCell ⟨w.heap.size,0,none⟩ (.slice none 0 0)).setCell ⟨w.heap.size+1,0,none⟩ (.int .i64 c6)).setCell ⟨w.heap.size+1,1,none⟩ (.int .i64 a6)).drew):=dec_results W8.out X8.out Y8.out _ _ _;generalize (((w8.setCell ⟨w.heap.size,0,none⟩ (.slice none 0 0)).setCell ⟨w.heap.size+1,0,none⟩ (.int .i64 c6)).setCell ⟨w.heap.size+1,1,none⟩ (.int .i64 a6)).drew=w9 at D1 ⊢;clear x0 x1 y0 y1 y2 y3 z0 z1 n1 n2;go_wp2
      have x0:=cellOf D1.out.1 0 _ rfl;have x1:=cellOf D1.out.2.1 0 _ rfl;have x2:=cellOf D1.out.2.1 1 _ rfl;exact bodyPost_ret (v:=.tuple #[.agg #[.slice none 0 0],.agg #[.int .i64 c6,.int .i64 a6]]) (by simp [results,Tryz.results13,go_sem,x0,x1,x2]) rfl ⟨.inr ⟨c6,a6,ND.out,HC6.out,fun h=>absurd (by rw [FR.out]) h,rfl⟩,D1.out.2.2⟩
  · have B3:Hid (Below w.heap.size w (w2.alloc (.cells #[.int .i64 fc,.int .i64 fa] 30))):=B2.out.alloc (by omega) _;have X3:Hid (Blk (w2.alloc (.cells #[.int .i64 fc,.int .i64 fa] 30)) w.heap.size #[.slice none 0 0] 24):=X2.out.alloc _;have Y3:Hid (Blk (w2.alloc (.cells #[.int .i64 fc,.int .i64 fa] 30)) (w.heap.size+1) #[.int .i64 0,.int .i64 0] 30):=Y2.out.alloc _;have Z3:Hid (Blk (w2.alloc (.cells #[.int .i64 fc,.int .i64 fa] 30)) w2.heap.size #[.int .i64 fc,.int .i64 fa] 30):=Blk.new _ _ _;clear B2 X2 Y2 I2;go_upto_region 2 with fail
    generalize hB:w2.heap.size=B at Z3 hw2 ⊢;clear hB;generalize w2.alloc (.cells #[.int .i64 fc,.int .i64 fa] 30)=w3 at B3 X3 Y3 Z3 ⊢;have x0:=cellOf X3.out 0 _ rfl;have x1:=freeOf X3.out 0;have y0:=cellOf Y3.out 0 _ rfl;have y1:=cellOf Y3.out 1 _ rfl;have y2:=freeOf Y3.out 0;have y3:=freeOf Y3.out 1;have z0:=cellOf Z3.out 0 _ rfl;have z1:=cellOf Z3.out 1 _ rfl;have n1:¬ w.heap.size=B:=by omega
    have n2:¬ w.heap.size+1=B:=by omega
    go_wp2_with fail
    go_region;have D1:Hid (Blk (((w3.setCell ⟨w.heap.size,0,none⟩ (.slice none 0 0)).setCell ⟨w.heap.size+1,0,none⟩ (.int .i64 fc)).setCell ⟨w.heap.size+1,1,none⟩ (.int .i64 fa)).drew w.heap.size #[.slice none 0 0] 24∧Blk (((w3.setCell ⟨w.heap.size,0,none⟩ (.slice none 0 0)).setCell ⟨w.heap.size+1,0,none⟩ (.int .i64 fc)).setCell ⟨w.heap.size+1,1,none⟩ (.int .i64 fa)).drew (w.heap.size+1) #[.int .i64 fc,.int .i64 fa] 30∧Below w.heap.size w (((w3.setCell ⟨w.heap.size,0,none⟩ (.slice none 0 0)).setCell ⟨w.heap.size+1,0,none⟩ (.int .i64 fc)).setCell ⟨w.heap.size+1,1,none⟩ (.int .i64 fa)).drew):=dec_results B3.out X3.out Y3.out _ _ _;generalize (((w3.setCell ⟨w.heap.size,0,none⟩ (.slice none 0 0)).setCell ⟨w.heap.size+1,0,none⟩ (.int .i64 fc)).setCell ⟨w.heap.size+1,1,none⟩ (.int .i64 fa)).drew=w9 at D1 ⊢;clear x0 x1 y0 y1 y2 y3 z0 z1 n1 n2;go_wp2
    have x0:=cellOf D1.out.1 0 _ rfl;have x1:=cellOf D1.out.2.1 0 _ rfl;have x2:=cellOf D1.out.2.1 1 _ rfl;exact bodyPost_ret (v:=.tuple #[.agg #[.slice none 0 0],.agg #[.int .i64 fc,.int .i64 fa]]) (by simp [results,Tryz.results13,go_sem,x0,x1,x2]) rfl ⟨.inr ⟨fc,fa,fun m=>dec_frame (by rw [FR.out];exact hf) m,hf,fun _=>by rw [FR.out],rfl⟩,D1.out.2.2⟩
def T00 : MTo := ⟨0, [], []⟩
def E00 : MEnd := ⟨3, 0, T00, T00, []⟩
def L0 : List (MFunc 1) := [⟨0, [], [], [⟨0, [], [], E00⟩]⟩]
theorem L0_fault : modFault L0 = (0, 0) := by decide +kernel
theorem L0_small : msmall L0 := msmall_of (by
  rintro (h | ⟨x,hx,h⟩)
  · exact absurd h (by decide)
  · simp only [L0,List.mem_singleton] at hx;subst hx;rcases h with h | h | h | ⟨y,hy,h⟩
    · exact absurd h (by decide)
    · rcases h with h | ⟨t,ht,_⟩
      · exact absurd h (by decide)
      · cases ht
    · rcases h with h | ⟨t,ht,_⟩
      · exact absurd h (by decide)
      · cases ht
    · simp only [List.mem_singleton] at hy;subst hy;rcases h with h | h | h | h | h | h | h | ⟨z,hz,h⟩
      · exact absurd h (by decide)
      · rcases h with h | ⟨t,ht,_⟩
        · exact absurd h (by decide)
        · cases ht
      · exact absurd h (by decide)
      · exact absurd h (by decide)
      · exact absurd h (by decide)
      · exact absurd h (by decide)
      · exact absurd h (by decide)
      · cases hz)
theorem one_list {α : Type} {A : Lay α} {w : World} {G : Nat} {c : Array Value} {t : TypeId} {x : α} {cs : List Value} (h : Blk w G c t) (hc : c.toList = cs) (hx : A.In w All x cs) : A.list.In w All [x] [.slice (some ⟨G, 0, none⟩) 1 1] := by
  refine ⟨some ⟨G,0,none⟩,1,rfl,fun i y hy=>?_⟩
  have hi:i=0:=by
    have:=(List.getElem?_eq_some_iff.1 hy).1
    simp at this;exact this
  subst hi;simp at hy
  subst hy;refine ⟨G,0,cs,rfl,trivial,h.lt,fun j hj=>?_,hx⟩;have hl:=A.len hx;have hj':j<c.size:=by rw [← hc] at hl;simp at hl;omega
  rw [Nat.zero_mul,Nat.zero_add,← hc,Array.getElem?_toList];exact (cellOf h j c[j] (Array.getElem?_eq_getElem hj')).trans (Array.getElem?_eq_getElem hj').symm
theorem end_in (w : World) : EIn w All E00 ⟨none, 0, none, 0, none, 0, none, 0, none, 0⟩ :=
  ⟨⟨Lay.list_nil _ _ _ _ _,Lay.list_nil _ _ _ _ _,by decide⟩,⟨Lay.list_nil _ _ _ _ _,Lay.list_nil _ _ _ _ _,by decide⟩,Lay.list_nil _ _ _ _ _,by decide,by decide⟩
theorem least_in {w : World} {G1 G2 : Nat} (h1 : Blk w G1 #[.int .i64 0, .slice none 0 0, .slice none 0 0, .int .i64 3, .int .i64 0, .int .i64 0, .slice none 0 0, .slice none 0 0, .int .i64 0, .slice none 0 0, .slice none 0 0, .slice none 0 0] 55) (h2 : Blk w G2 #[.int .i64 0, .slice none 0 0, .slice none 0 0, .slice (some ⟨G1, 0, none⟩) 1 1] 46) : (modL 1).In w All L0 [.slice (some ⟨G2, 0, none⟩) 1 1] :=
  one_list h2 rfl (func_shut (f:=⟨none,0,none,0,some ⟨G1,0,none⟩,1⟩) ⟨Lay.list_nil _ _ _ _ _,Lay.list_nil _ _ _ _ _,one_list h1 rfl (block_shut (x:=⟨0,[],[],E00⟩) (b:=⟨none,0,none,0,_⟩) ⟨Lay.list_nil _ _ _ _ _,Lay.list_nil _ _ _ _ _,end_in w,by decide⟩),by decide⟩)
def LeastOut (w w' : World) (e : Ending) : Prop := ∃ G1 G2, e = .returned (.agg #[.slice (some ⟨G2, 0, none⟩) 1 1]) ∧ Blk w' G1 #[.int .i64 0, .slice none 0 0, .slice none 0 0, .int .i64 3, .int .i64 0, .int .i64 0, .slice none 0 0, .slice none 0 0, .int .i64 0, .slice none 0 0, .slice none 0 0, .slice none 0 0] 55 ∧ Blk w' G2 #[.int .i64 0, .slice none 0 0, .slice none 0 0, .slice (some ⟨G1, 0, none⟩) 1 1] 46 ∧ w.heap.size ≤ G1 ∧ w.heap.size ≤ G2 ∧ G1 ≠ G2 ∧ Below w.heap.size w w'
theorem least_any (w : World) : Calls Tryz.prog 17 #[] w fun e w' => LeastOut w w' e := by
  refine fr_enter (n:=7) Tryz.func17 rfl rfl rfl ?_;intro a hF;have hW:=Wd.start w;replace hF:Fr 7 a []:=hF;refine wp_seq_k fun K1 hK1=>?_;refine rg hF fun ops=>?_;clear hF a;refine sAModule hW trivial rfl ?_;clear hW;intro w2 B2 hW2 hN;clear hN;refine St.nil fun a3 h3=>?_;refine hK1 _ _ ?_;refine wp_seq_k fun K4 hK4=>?_;refine rg h3 fun ops=>?_;clear h3 a3;intro a5 h5;refine fr_pure (t:=1) (v:=.agg #[.int .i64 3,.int .i64 0,.int .i64 0,.slice none 0 0,.slice none 0 0,.int .i64 0,.slice none 0 0,.slice none 0 0,.slice none 0 0]) (w':=w2) h5 rfl rfl rfl (fun K hK=>?_) ?_
  ·go_simp
   exact hK
  clear h5;intro a6 hF6;refine fr_pure (t:=2) (v:=.agg #[.int .i64 0,.slice none 0 0,.slice none 0 0,.int .i64 3,.int .i64 0,.int .i64 0,.slice none 0 0,.slice none 0 0,.int .i64 0,.slice none 0 0,.slice none 0 0,.slice none 0 0]) (w':=w2) hF6 rfl rfl rfl (fun K hK=>?_) ?_
  ·have k0:a6.tmps[1]?.getD undef=.agg #[.int .i64 3,.int .i64 0,.int .i64 0,.slice none 0 0,.slice none 0 0,.int .i64 0,.slice none 0 0,.slice none 0 0,.slice none 0 0]:=hF6.sl2 1 _ rfl
   go_simp;exact hK
  clear hF6;intro a7 hF7;refine fr_row (t:=3) #[.int .i64 0,.slice none 0 0,.slice none 0 0,.int .i64 3,.int .i64 0,.int .i64 0,.slice none 0 0,.slice none 0 0,.int .i64 0,.slice none 0 0,.slice none 0 0,.slice none 0 0] 55 1 hF7 hW2 rfl rfl rfl (fun K hK=>?_) ?_
  ·have k0:a7.tmps[2]?.getD undef=.agg #[.int .i64 0,.slice none 0 0,.slice none 0 0,.int .i64 3,.int .i64 0,.int .i64 0,.slice none 0 0,.slice none 0 0,.int .i64 0,.slice none 0 0,.slice none 0 0,.slice none 0 0]:=hF7.sl2 2 _ rfl
   go_simp;exact hK
  clear hF7 hW2;intro a8 w9 B9 hW9 hN hF8;clear hN;refine fr_pure (t:=4) (v:=.agg #[.int .i64 0,.slice none 0 0,.slice none 0 0,.slice (some ⟨B9,0,none⟩) 1 1]) (w':=w9) hF8 rfl rfl rfl (fun K hK=>?_) ?_
  ·have k0:a8.tmps[3]?.getD undef=.slice (some ⟨B9,0,none⟩) 1 1:=hF8.sl2 3 _ rfl
   go_simp;exact hK
  clear hF8;intro a10 hF10;refine fr_row (t:=5) #[.int .i64 0,.slice none 0 0,.slice none 0 0,.slice (some ⟨B9,0,none⟩) 1 1] 46 1 hF10 hW9 rfl rfl rfl (fun K hK=>?_) ?_
  ·have k0:a10.tmps[4]?.getD undef=.agg #[.int .i64 0,.slice none 0 0,.slice none 0 0,.slice (some ⟨B9,0,none⟩) 1 1]:=hF10.sl2 4 _ rfl
   go_simp;exact hK
  clear hF10 hW9;intro a11 w12 B12 hW12 hN hF11;clear hN;refine fr_pure (t:=6) (v:=.agg #[.slice (some ⟨B12,0,none⟩) 1 1]) (w':=w12) hF11 rfl rfl rfl (fun K hK=>?_) ?_
  ·have k0:a11.tmps[5]?.getD undef=.slice (some ⟨B12,0,none⟩) 1 1:=hF11.sl2 5 _ rfl
   go_simp;exact hK
  clear hF11;intro a13 hF13;refine St.go hF13 ?_;clear hF13 a13;refine sT 2 hW12 rfl rfl infModule rfl rfl rfl ?_;clear hW12;intro w14 hW14;refine St.nil fun a15 h15=>?_;refine hK4 _ _ ?_;refine wp_ret ?_;with_reducible repeat first | refine of_then_ret ?_ | refine of_block_ret ?_
  exact ret_box 2 h15 hW14 rfl rfl rfl Tryz.underlying24 rfl infModule ⟨B9,B12,rfl,hW14.get 1 rfl,hW14.get 0 rfl,hW14.new 1 _ rfl,hW14.new 0 _ rfl,fun e=>absurd (hW14.nd 1 0 _ _ rfl rfl e) (by decide),hW14.bel⟩
theorem L0_len : (modY L0).length = 13 := by decide +kernel
theorem L0_three : (modY L0 ++ sumY (crcL (modY L0)))[3]? = some 2 := by
  rw [List.getElem?_append_left (by rw [L0_len];decide)];decide +kernel
theorem L0_y : yMod L0 := by
  refine ⟨⟨by decide,by decide⟩,fun x hx=>?_⟩;have hx':x=⟨0,[],[],[⟨0,[],[],E00⟩]⟩:=by simpa [L0] using hx
  subst hx';refine ⟨⟨by decide,by decide⟩,⟨⟨by decide,by decide⟩,fun t h=>by simp at h⟩,⟨⟨by decide,by decide⟩,fun t h=>by simp at h⟩,⟨by decide,by decide⟩,fun y hy=>?_⟩;have hy':y=⟨0,[],[],E00⟩:=by simpa using hy
  subst hy';refine ⟨⟨by decide,by decide⟩,⟨⟨by decide,by decide⟩,fun t h=>by simp at h⟩,⟨⟨by decide,by decide⟩,fun t h=>by simp at h⟩,⟨by decide,by decide⟩,.inr (.inr (.inl ⟨rfl,⟨⟨by decide,by decide⟩,fun t h=>by simp [E00] at h⟩,rfl⟩))⟩
theorem sum_known : crcL [49, 50, 51, 52, 53, 54, 55, 56, 57] = 3421780262 := by decide +kernel
theorem row_at {w : World} {lo : Nat} {a : Option Addr} {n c : Nat} {ys : List UInt8} (h : BRow w lo (.slice a n c) ys) {i : Nat} {x : UInt8} (hx : ys[i]? = some x) : ∃ g, a = some ⟨g, 0, none⟩ ∧ lo ≤ g ∧ g < w.heap.size ∧ w.cell? ⟨g, i, none⟩ = some (.int .u8 (x.toNat : Int)) := by
  obtain ⟨g,o,e,hg,hl,hc⟩:=byte_at h.lay hx;rcases h.2 with ⟨e2,h4⟩ | ⟨g',cap,cur,e2,_⟩
  · injection e2 with e2;rw [e] at e2;cases e2
  · injection e2 with e2
    rw [e] at e2;injection e2 with e2
    injection e2 with e2 e3
    subst e2;subst e3;rw [Nat.zero_add] at hc;exact ⟨g,e,hg,hl,hc⟩
theorem cBegun_any (w : World) : Calls Tryz.prog 6 #[] w fun e w' => e = .returned (.bool true) ∧ Below w.heap.size w w' := by
  go_enter Tryz.func6,Tryz.ntmps6
  go_wp2_with fail
  refine (least_any w).mono ?_;rintro e w1 ⟨G1,G2,rfl,h1,h2,-,-,-,b1⟩;have C:Hid (Calls Tryz.prog 9 #[.agg #[.slice (some ⟨G2,0,none⟩) 1 1]] w1 fun en w'=>EncOut L0 w1 en w'):=cencode_any (least_in h1 h2) L0_small (fun _=>L0_y);have B1:Hid (Below w.heap.size w w1):=b1;clear h1 h2 b1;go_wp2_with fail
  refine C.out.mono ?_;rintro e w2 ⟨⟨v,_,_,rfl,hr⟩ | ⟨c,a,_,hb,_⟩,b2⟩
  rotate_left
  · rcases hb with hb | hb
    · exact absurd (by rw [L0_fault]) hb
    · rw [L0_len] at hb;omega
  have hln:(modY L0++sumY (crcL (modY L0))).length=17:=by rw [List.length_append,L0_len];rfl
  obtain ⟨a,c,rfl,_⟩:=OwnB.form (.inl hr);obtain ⟨g,rfl,hg,hgl,yc⟩:=row_at hr L0_three;rw [hln];have B2:Hid (Below w.heap.size w (w2.alloc (.cells #[.int .i64 0,.int .i64 0] 30))):=(B1.out.trans (b2.mono B1.out.size)).alloc (Nat.le_trans B1.out.size b2.size) _;have F2:Hid (Blk (w2.alloc (.cells #[.int .i64 0,.int .i64 0] 30)) w2.heap.size #[.int .i64 0,.int .i64 0] 30):=Blk.new _ _ _;have Y2:Hid ((w2.alloc (.cells #[.int .i64 0,.int .i64 0] 30)).cell? ⟨g,3,none⟩=some (.int .u8 2)):=(World.cell?_of_block (Below.heap_alloc _ _ _ hgl)).trans yc;have G2':Hid (g<w2.heap.size):=hgl;clear b2 C B1 hr hln yc hg hgl;go_upto_region 2 with fail
  generalize hB:w2.heap.size=B at F2 G2' ⊢;clear hB;generalize w2.alloc (.cells #[.int .i64 0,.int .i64 0] 30)=w3 at B2 F2 Y2 ⊢;go_wp2_with fail
  refine (cdecode_any (l:=[]) (a:=none) (c:=0) (Lay.list_nil _ _ _ _ _) (Nat.le_refl _) (by decide)).mono ?_;rintro e w4 ⟨⟨m,a,c',hd,_⟩ | ⟨c',a',_,_,hf,rfl⟩,b4⟩
  · exact absurd hd (dec_frame (by decide) m)
  have hc5:c'=5:=hf (by decide);subst hc5;have hs3:=B2.out.size;have hB3:=F2.out.lt;have B5:Hid (Below w.heap.size w ((w4.alloc (.cells #[.slice none 0 0] 24)).alloc (.cells #[.int .i64 5,.int .i64 a'] 30))):=((B2.out.trans (b4.mono hs3)).alloc (by have:=b4.size;omega) _).alloc (by have:=b4.size;simp;omega) _;have F5:Hid (Blk ((w4.alloc (.cells #[.slice none 0 0] 24)).alloc (.cells #[.int .i64 5,.int .i64 a'] 30)) B #[.int .i64 0,.int .i64 0] 30):=(F2.out.below b4).below (bel2 _ _ _);have G5:Hid (Blk ((w4.alloc (.cells #[.slice none 0 0] 24)).alloc (.cells #[.int .i64 5,.int .i64 a'] 30)) (w4.heap.size+1) #[.int .i64 5,.int .i64 a'] 30):=Blk.new2 _ _ _ _;have Y5:Hid (((w4.alloc (.cells #[.slice none 0 0] 24)).alloc (.cells #[.int .i64 5,.int .i64 a'] 30)).cell? ⟨g,3,none⟩=some (.int .u8 2)):=(World.cell?_of_block ((bel2 _ _ _).block g (by have:=b4.size;have:=G2'.out;omega))).trans ((World.cell?_of_block (b4.block g (by have:=G2'.out;omega))).trans Y2.out);have L5:Hid (g<((w4.alloc (.cells #[.slice none 0 0] 24)).alloc (.cells #[.int .i64 5,.int .i64 a'] 30)).heap.size):=by show _<_;have:=b4.size;have:=G2'.out;simp;omega
  clear B2 F2 Y2 G2' b4 hf;go_upto_region 3 with fail
  generalize hC:w4.heap.size+1=C at G5 ⊢;clear hC;generalize (w4.alloc (.cells #[.slice none 0 0] 24)).alloc (.cells #[.int .i64 5,.int .i64 a'] 30)=w5 at B5 F5 G5 Y5 L5 ⊢
  have kc:(convert 25 25 (.slice (some ⟨w5.heap.size,0,none⟩) 9 9)).run Tryz.prog (w5.alloc (.cells #[.int .u8 49,.int .u8 50,.int .u8 51,.int .u8 52,.int .u8 53,.int .u8 54,.int .u8 55,.int .u8 56,.int .u8 57] 5))=.ok (.slice (some ⟨w5.heap.size,0,none⟩) 9 9) (w5.alloc (.cells #[.int .u8 49,.int .u8 50,.int .u8 51,.int .u8 52,.int .u8 53,.int .u8 54,.int .u8 55,.int .u8 56,.int .u8 57] 5 (9,10))) :=
    Go.Joins.run_convert_bytes_const_at (P:=Tryz.prog) w5 25 5 #[.int .u8 49,.int .u8 50,.int .u8 51,.int .u8 52,.int .u8 53,.int .u8 54,.int .u8 55,.int .u8 56,.int .u8 57] 9 9 w5.heap.size rfl Tryz.underlying25 Tryz.underlying5
  have SU:Hid (Calls Tryz.prog 15 #[.slice (some ⟨w5.heap.size,0,none⟩) 9 9] (w5.alloc (.cells #[.int .u8 49,.int .u8 50,.int .u8 51,.int .u8 52,.int .u8 53,.int .u8 54,.int .u8 55,.int .u8 56,.int .u8 57] 5 (9,10))) fun en w'=>en=.returned (.int .u32 3421780262)∧w'=w5.alloc (.cells #[.int .u8 49,.int .u8 50,.int .u8 51,.int .u8 52,.int .u8 53,.int .u8 54,.int .u8 55,.int .u8 56,.int .u8 57] 5 (9,10))):=by
    have hb:BytesAt (w5.alloc (.cells #[.int .u8 49,.int .u8 50,.int .u8 51,.int .u8 52,.int .u8 53,.int .u8 54,.int .u8 55,.int .u8 56,.int .u8 57] 5 (9,10))) (some ⟨w5.heap.size,0,none⟩) [49,50,51,52,53,54,55,56,57]:=fun i x hx=>by
      refine ⟨w5.heap.size,0,rfl,by simp,?_⟩;rw [Nat.zero_add,World.cell?_alloc_mark];have hi:i<9:=(List.getElem?_eq_some_iff.1 hx).1;match i,hi,hx with
      | 0,_,hx=>cases hx;rfl
      | 1,_,hx=>cases hx;rfl
      | 2,_,hx=>cases hx;rfl
      | 3,_,hx=>cases hx;rfl
      | 4,_,hx=>cases hx;rfl
      | 5,_,hx=>cases hx;rfl
      | 6,_,hx=>cases hx;rfl
      | 7,_,hx=>cases hx;rfl
      | 8,_,hx=>cases hx;rfl
    have:=csum_any (c:=9) hb (by decide)
    rw [sum_known] at this;exact this
  have f0:=cellOf F5.out 0 _ rfl;have g0:=cellOf G5.out 0 _ rfl;have y3:=Y5.out;have B6:Hid (Below w.heap.size w (w5.alloc (.cells #[.int .u8 49,.int .u8 50,.int .u8 51,.int .u8 52,.int .u8 53,.int .u8 54,.int .u8 55,.int .u8 56,.int .u8 57] 5 (9,10)))):=B5.out.alloc B5.out.size _;clear F5 G5 Y5 B5;go_wp2_with fail
  refine SU.out.mono ?_;rintro e w' ⟨rfl,rfl⟩;clear SU kc;generalize w5.alloc (.cells #[.int .u8 49,.int .u8 50,.int .u8 51,.int .u8 52,.int .u8 53,.int .u8 54,.int .u8 55,.int .u8 56,.int .u8 57] 5 (9,10))=w6 at B6 ⊢;go_wp2
  go_ret;exact ⟨rfl,B6.out⟩
end Go.Proofs.YtjdcjfpfpaplladGreat
namespace Go.Proofs.YtjdcjfpfpaplladGreat
set_option linter.unusedSimpArgs false
set_option linter.unusedVariables false
theorem TT.yOk_of : {n : Nat} → {t : TT n} → {regs : Int} → regs ≤ 16 → (h : Nat) → t.height ≤ h → h + 2 ≤ n → t.fault regs = 0 → t.yOk
  | 0,t,_,_,_,_,_,_=>Empty.elim t
  | n+1,t,regs,hr,h,hh,hn,hf=>by
    obtain ⟨h1,h2⟩:=TT.fault_zero hf;obtain ⟨g1,g2,g3,g4,g5,g6⟩:=own_zero hr h1;refine ⟨by constructor <;> omega,by constructor <;> omega,g2,fun k=>List.length_eq_zero_iff.1 (g3 k),fun k=>⟨by omega,by constructor <;> omega,fun x hx=>?_⟩⟩;have hx1:=(height_le (t:=t)).1 hh x hx;exact TT.yOk_of hr (h - 1) (by omega) (by omega) (h2 x hx)
theorem yTyps_of {l : List (TT 6)} (h : tsOk l) : yTyps l := by
  obtain ⟨h1,h2⟩:=h;refine ⟨by constructor <;> omega,fun t ht=>?_⟩;obtain ⟨regs,hr,hc⟩:=h2 t ht;obtain ⟨h3,h4⟩:=check_fault hc;exact TT.yOk_of hr 4 h3 (by omega) h4
section
variable {w : World} {O : Nat → Prop} {cs : List Value}
theorem yInts_of {l : List Int} (h : intsL.In w O l cs) (hl : l.length ≤ 300) : yInts l := by
  refine ⟨by constructor <;> omega,fun x hx=>?_⟩;obtain ⟨a,c,e,h⟩:=h;obtain ⟨i,hi⟩:=List.getElem?_of_mem hx;obtain ⟨g,o,ds,_,_,_,_,h5⟩:=h i x hi;exact h5.2
theorem fields_lists {op : Int} {a b c k n rg ar : Bool} (h : fieldsOf op = some (a, b, c, k, n, rg, ar)) : (rg = true → op = 14) ∧ (ar = true → op = 5 ∨ op = 14) := by
  unfold fieldsOf at h;repeat' split at h
  all_goals first | cases h;done | (injection h with h;simp only [Prod.mk.injEq] at h;obtain ⟨-,-,-,-,-,rfl,rfl⟩:=h;constructor <;> intro hh <;> first | (cases hh;done) | omega)
theorem ins_y {funcs : Nat} {x : MIns} (h : insL.In w O x cs) (hf : x.form funcs = 0) : x.yOk := by
  obtain ⟨p1,c1,p2,c2,rfl,v1,v2,i0,i1,i2,i3,i4,i5⟩:=ins_form h;obtain ⟨f1,f2,-,f4,f5⟩:=form_zero hf;refine ⟨i0,?_⟩
  cases hfo:fieldsOf x.op with
  | none=>rw [hfo] at f1;cases f1
  | some v =>
    obtain ⟨a,b,c,k,n,rg,ar⟩:=v;obtain ⟨g1,g2⟩:=fields_lists hfo;unfold MIns.formless at f2;rw [hfo] at f2;simp only [Bool.or_eq_false_iff] at f2;obtain ⟨⟨⟨⟨⟨⟨q1,q2⟩,q3⟩,q4⟩,q5⟩,q6⟩,q7⟩:=f2;have z:∀ {b:Bool} {v:Int},(!b && v != 0)=false→b=false→v=0:=fun h hb=>by subst hb;simpa using h
    have zl:∀ {b:Bool} {l:List Int},(!b && decide (0<l.length))=false→b=false→l=[]:=fun {b l} h hb=>by
      subst hb
      have:¬ 0<l.length:=by simpa using h
      exact List.length_eq_zero_iff.1 (by omega)
    exact ⟨⟨fun _=>i1,z q1⟩,⟨fun _=>i2,z q2⟩,⟨fun _=>i3,z q3⟩,⟨fun _=>i4,z q4⟩,⟨fun _=>i5,z q5⟩,⟨fun e=>yInts_of v1 (by have:=f5 (g1 e);omega),zl q6⟩,⟨fun e=>yInts_of v2 (by have:=g2 e;omega),zl q7⟩⟩
theorem to_y {nb : Nat} {t : MTo} (h : toL.In w O t cs) (hf : t.form nb true = 0) : t.yOk := by
  obtain ⟨p1,c1,p2,c2,rfl,v1,v2,i0⟩:=to_form h;unfold MTo.form at hf;rw [if_neg (by decide)] at hf;split at hf
  · cases hf
  split at hf
  · cases hf
  exact ⟨i0,yInts_of v1 (by omega),yInts_of v2 (by omega)⟩
theorem to_none {nb : Nat} {t : MTo} (hf : t.form nb false = 0) : t = zTo := by
  obtain ⟨b,x,y⟩:=t;unfold MTo.form at hf;rw [if_pos rfl] at hf;split at hf
  · cases hf
  rename_i h
  simp only [not_or,Decidable.not_not] at h;have h2:=h.2;obtain rfl:=h.1;obtain rfl:x=[]:=List.length_eq_zero_iff.1 (by omega);obtain rfl:y=[]:=List.length_eq_zero_iff.1 (by omega);rfl
theorem end_y {nb : Nat} {e : MEnd} (hb : nb ≤ 12) (h : endL.In w O e cs) (hf : e.form nb = 0) : e.yOk := by
  obtain ⟨c1,c2,a,c,rfl,h1,h2,h3,i0,i1⟩:=end_form h;obtain ⟨f1,f2,f3,f4,f5,f6⟩:=end_zero hb hf;refine ⟨i0,?_⟩;obtain ⟨op,ea,yes,no,args⟩:=e;simp only at f1 f2 f3 f4 f5 f6 h1 h2 h3 i0 i1 ⊢
  rcases f1 with rfl | rfl | rfl
  · have n:=to_none f6;have t:=to_y h1 f5;rw [n,f2 (by decide),f3 (by decide)];exact .inl ⟨rfl,t,rfl⟩
  · rw [f3 (by decide)];exact .inr (.inl ⟨rfl,i1,to_y h1 f5,to_y h2 f6,rfl⟩)
  · rw [to_none f5,to_none f6,f2 (by decide)];exact .inr (.inr (.inl ⟨rfl,yInts_of h3 (by omega),rfl⟩))
theorem list_in {α : Type} {A : Lay α} {l : List α} {x : α} (h : A.list.In w O l cs) (hx : x ∈ l) : ∃ ds, A.In w O x ds := by
  obtain ⟨a,c,rfl,h1⟩:=list_form h;obtain ⟨i,hi⟩:=List.getElem?_of_mem hx;obtain ⟨g,o,ds,_,_,_,_,hds⟩:=Lay.list_at h1 hi;exact ⟨ds,hds⟩
end
theorem mod_y {m : List (MFunc 6)} {w : World} {O : Nat → Prop} {cs : List Value} (h : (modL 6).In w O m cs) (hf : (modFault m).1 = 0) (hs : ∀ x ∈ m, x.blocks.length ≤ 100000 ∧ ∀ y ∈ x.blocks, y.code.length ≤ 100000) : yMod m := by
  have hfine:=mod_of hf
  have hm:m.length≤8:=by
    unfold modFault at hf;split at hf
    · cases hf
    · omega
  refine ⟨by constructor <;> omega,fun x hx=>?_⟩;have fx:=hfine x hx;obtain ⟨s1,s2⟩:=hs x hx;obtain ⟨ds,hds⟩:=list_in (A:=funcL 6) h hx;obtain ⟨a1,k1,a2,k2,a3,k3,rfl,u1,u2,u3,i1⟩:=func_form hds;refine ⟨i1,yTyps_of fx.params,yTyps_of fx.results,by constructor <;> omega,fun y hy=>?_⟩;have fy:=fx.blocks y hy;have s3:=s2 y hy;obtain ⟨dt,hdt⟩:=list_in u3 hy;obtain ⟨p1,j1,p2,j2,es,rfl,v1,v2,he,i4⟩:=block_form hdt;obtain ⟨nb,hnb,hfin⟩:=fy.fin;refine ⟨i4,yTyps_of fy.params,⟨by constructor <;> omega,fun z hz=>?_⟩,end_y hnb he hfin⟩;obtain ⟨du,hdu⟩:=list_in v2 hz;exact ins_y hdu (fy.code z hz)
def Loc {α : Type} (k : Nat) (f g : Nat → PR α) : Prop := ∀ p v p', f p = .ok (v, p') → g (k + p) = .ok (v, k + p')
def Needs {α : Type} (l : List Tk) (f : Nat → PR α) : Prop := ∀ p v p', f p = .ok (v, p') → ∃ x, l[p]? = some x
section
variable {l l2 : List Tk} {e e2 k : Nat}
theorem Loc.andThen {α β : Type} {f g : Nat → PR α} {F G : α → Nat → PR β} (hf : Loc k f g) (hF : ∀ a, Loc k (F a) (G a)) : Loc k (fun p => (f p).andThen F) (fun p => (g p).andThen G) := fun p v p' h => by
  obtain ⟨a,p1,h1,h2⟩:=PR.andThen_ok h;show (g (k+p)).andThen G=_;rw [hf _ _ _ h1];exact hF a _ _ _ h2
theorem Loc.pure {α : Type} (v : α) : Loc k (fun p => (.ok (v, p) : PR α)) (fun p => .ok (v, p)) := fun p w p' h => by
  injection h with h
  injection h with h1 h2
  show (.ok (v,k+p):PR α)=_;rw [h1,h2]
theorem Needs.andThen {α β : Type} {f : Nat → PR α} {F : α → Nat → PR β} (hf : Needs l f) : Needs l (fun p => (f p).andThen F) := fun p v p' h => by
  obtain ⟨a,p1,h1,_⟩:=PR.andThen_ok h;exact hf p a p1 h1
end
def scanB (f pos : Nat) (A : List UInt8) : Sc := scanF f (pos + blk false A) (A.drop (blk false A))
theorem scanB_next {f pos k : Nat} {A : List UInt8} {b : Bool} {n : Int} (h : tok (A.drop (blk false A)) = .ok k b n) :
    scanB (f+1) pos A=(scanB f (pos+blk false A+k) ((A.drop (blk false A)).drop k)).app [⟨pos+blk false A,(A.drop (blk false A)).take k,b,n⟩]:=by
  have hp:=tok_pos h;unfold scanB;rw [scanF,if_neg (fun e=>by rw [e] at hp;simp at hp;omega),h]
section
variable {l : List Tk} {e : Nat}
def Mon {α : Type} (l : List Tk) (f : Nat → PR α) : Prop := ∀ p v p', p ≤ l.length → f p = .ok (v, p') → p ≤ p' ∧ p' ≤ l.length
theorem Mon.andThen {α β : Type} {f : Nat → PR α} {F : α → Nat → PR β} (hf : Mon l f) (hF : ∀ a, Mon l (F a)) : Mon l (fun p => (f p).andThen F) := fun p v p' hp h => by
  obtain ⟨a,p1,h1,h2⟩:=PR.andThen_ok h;obtain ⟨g1,g2⟩:=hf p a p1 hp h1;obtain ⟨g3,g4⟩:=hF a p1 v p' g2 h2;exact ⟨by omega,g4⟩
theorem Mon.pure {α : Type} (v : α) : Mon l (fun p => (.ok (v, p) : PR α)) := fun p w p' hp h => by
  injection h with h
  injection h with h1 h2
  omega
end
theorem parseM_app {M : Nat} : ∀ (l : List UInt8) (acc a : Nat) (r : List UInt8), Lib.parseUintM M acc l = .ok a → Lib.parseUintM M acc (l ++ r) = Lib.parseUintM M a r
  | [],acc,a,r,h=>by
    simp only [Lib.parseUintM] at h;injection h with h
    rw [h,List.nil_append]
  | c::l,acc,a,r,h=>by
    rw [List.cons_append,Lib.parseUintM];rw [Lib.parseUintM] at h;split at h
    · rename_i hc
      rw [if_pos hc];split at h
      · cases h
      · rename_i h1
        rw [if_neg h1];split at h
        · cases h
        · rename_i h2
          rw [if_neg h2];exact parseM_app l _ a r h
    · cases h
theorem dig_of {k : Nat} (h : k < 10) : (UInt8.ofNat (48 + k)).toNat = 48 + k := by
  simp [UInt8.toNat_ofNat'];omega
theorem parse_digits (u : Nat) (hu : u ≤ 18446744073709551615) : Lib.parseUintM (2 ^ 64 - 1) 0 (Lib.decDigits u) = .ok u := by
  induction u using Nat.strongRecOn with
  | _ u ih =>
    by_cases h:u<10
    · rw [Lib.decDigits_one h];have e:=dig_of h;simp only [Lib.parseUintM,e];rw [if_pos (by omega),if_neg (by omega),if_neg (by omega)];congr 1;omega
    · rw [Lib.decDigits,dif_neg h,parseM_app _ _ _ _ (ih (u / 10) (by omega) (by omega))];have e:=dig_of (k:=u % 10) (by omega);simp only [Lib.parseUintM,e];rw [if_pos (by omega),if_neg (by omega),if_neg (by omega)];congr 1;omega
theorem digits_dig (u : Nat) : ∀ c ∈ Lib.decDigits u, digB c = true := by
  induction u using Nat.strongRecOn with
  | _ u ih =>
    intro c hc;by_cases h:u<10
    · rw [Lib.decDigits_one h] at hc;simp at hc
      have e:=dig_of h;rw [hc];simp [digB,e];omega
    · rw [Lib.decDigits,dif_neg h] at hc;rcases List.mem_append.1 hc with hc | hc
      · exact ih (u / 10) (by omega) c hc
      · simp at hc
        have e:=dig_of (k:=u % 10) (by omega);rw [hc];simp [digB,e];omega
theorem digits_ne (u : Nat) : Lib.decDigits u ≠ [] := by
  by_cases h:u<10
  · rw [Lib.decDigits_one h];simp
  · rw [Lib.decDigits,dif_neg h];simp
theorem dig_not {c : UInt8} (h : digB c = true) : c.toNat ≠ 45 ∧ c.toNat ≠ 43 ∧ letB c = false ∧ sigB c = false := by
  simp [digB] at h;refine ⟨by omega,by omega,?_,?_⟩
  · simp [letB];omega
  · simp [sigB];omega
theorem itoa_form (v : Int) (hv : -9223372036854775808 ≤ v ∧ v ≤ 9223372036854775807) : numOf (Lib.itoa v) = some v ∧ ∃ c l, Lib.itoa v = c :: l ∧ (∀ d ∈ l, digB d = true) ∧ (digB c = true ∨ (c = 45 ∧ ∃ d r, l = d :: r ∧ digB d = true)) := by
  by_cases h:v<0
  · obtain ⟨u,rfl⟩:∃ u:Nat,v=-(u:Int):=⟨v.natAbs,by omega⟩;have h1:1≤u:=by omega
    have hp:=parse_digits u (by omega);have hn:=digits_ne u;have e:Lib.itoa (-(u:Int))=45::Lib.decDigits u:=Lib.itoa_neg u h1;have hd:=digits_dig u;refine ⟨?_,45,_,e,hd,.inr ⟨rfl,?_⟩⟩
    · rw [numOf,e]
      have:Lib.parseIntB 64 (45::Lib.decDigits u)=.ok (-(u:Int)):=by
        unfold Lib.parseIntB;simp only
        rw [if_pos (.inr rfl)];unfold Lib.parseUintB;rw [if_neg hn,hp];simp only
        rw [if_neg (by rintro ⟨a,_⟩;exact a rfl),if_neg (by rintro ⟨_,a⟩;omega)];rfl
      rw [this];simp only
      rw [if_pos e]
    · cases hx:Lib.decDigits u with
      | nil=>exact absurd hx hn
      | cons d r=>exact ⟨d,r,rfl,hd d (by rw [hx];simp)⟩
  · obtain ⟨u,rfl⟩:∃ u:Nat,v=(u:Int):=⟨v.toNat,by omega⟩;have hp:=parse_digits u (by omega);have hn:=digits_ne u;have e:Lib.itoa (u:Int)=Lib.decDigits u:=Lib.itoa_nonneg u;have hd:=digits_dig u
    cases hx:Lib.decDigits u with
    | nil=>exact absurd hx hn
    | cons d r =>
      have hd0:=hd d (by rw [hx];simp);obtain ⟨q1,q2,_,_⟩:=dig_not hd0;refine ⟨?_,d,r,by rw [e,hx],fun c hc=>hd c (by rw [hx];simp [hc]),.inl hd0⟩;rw [numOf,e,hx]
      have:Lib.parseIntB 64 (d::r)=.ok (u:Int):=by
        unfold Lib.parseIntB;simp only
        rw [if_neg (by rintro (a | a);exact q2 a;exact q1 a)];unfold Lib.parseUintB;rw [if_neg (by simp),← hx,hp];simp only
        rw [if_neg (by rintro ⟨_,a⟩;omega),if_neg (by rintro ⟨a,_⟩;exact q1 a),if_neg q1]
      rw [this];simp only
      rw [if_pos (by rw [e,hx])]
abbrev TV := List UInt8 × Bool × Int
def tv (x : Tk) : TV := (x.text, x.num, x.n)
def wK (s : List UInt8) : TV := (s, false, 0)
def nK (n : Int) : TV := (Lib.itoa n, true, n)
def SBk (s : List UInt8) (ts : List TV) : Prop := ∀ pos f, s.length < f → ∃ us, scanB f pos s = .ok us ∧ us.map tv = ts
def cutB : List UInt8 → Bool
  | []=>true
  | c::_=>!letB c && !digB c
theorem SBk.nil : SBk [] [] := fun pos f h => ⟨[], by
  obtain ⟨g,rfl⟩:∃ g,f=g+1:=⟨f - 1,by simp at h;omega⟩;simp [scanB,scanF,blk],rfl⟩
theorem SBk.blank {c : UInt8} {s : List UInt8} {ts : List TV} (hc : blB c = true) (h : SBk s ts) : SBk (c :: s) ts := fun pos f hf => by
  obtain ⟨us,h1,h2⟩:=h (pos+1) f (by simp at hf;omega);refine ⟨us,?_,h2⟩;unfold scanB at h1 ⊢;rw [blk_blank hc,List.drop_succ_cons,show pos+(blk false s+1)=pos+1+blk false s by omega];exact h1
theorem SBk.tok {a s : List UInt8} {ts : List TV} {b : Bool} {n : Int} (ht : tok (a ++ s) = .ok a.length b n) (h : SBk s ts) : SBk (a ++ s) ((a, b, n) :: ts) := fun pos f hf => by
  have hp:=tok_pos ht
  have hb:blk false (a++s)=0:=by
    cases a with
    | nil=>simp at hp
    | cons c a =>
      rw [List.cons_append] at ht ⊢;obtain ⟨q1,q2⟩:=tok_head ht;exact blk_none q1 q2
  obtain ⟨g,rfl⟩:∃ g,f=g+1:=⟨f - 1,by omega⟩;obtain ⟨us,h1,h2⟩:=h (pos+blk false (a++s)+a.length) g (by simp at hf;omega);refine ⟨⟨pos+blk false (a++s),a,b,n⟩::us,?_,by simp [h2,tv]⟩;have ht':Go.Proofs.YtjdcjfpfpaplladGreat.tok ((a++s).drop (blk false (a++s)))=.ok a.length b n:=by rw [hb];exact ht
  rw [scanB_next ht'];have e1:((a++s).drop (blk false (a++s))).drop a.length=s:=by rw [hb];simp
  have e2:((a++s).drop (blk false (a++s))).take a.length=a:=by rw [hb];simp
  rw [e1,e2,h1];rfl
theorem pre_all {p : UInt8 → Bool} : ∀ (l s : List UInt8), (∀ c ∈ l, p c = true) → (s.head?.any p = false) → pre p (l ++ s) = l.length
  | [],s,h,hs=>by
    cases s with
    | nil=>rfl
    | cons d s=>simp at hs;simp [pre,hs]
  | c::l,s,h,hs=>by
    rw [List.cons_append,pre_yes (h c (by simp)),pre_all l s (fun d hd=>h d (by simp [hd])) hs,List.length_cons]
theorem cut_let {s : List UInt8} (h : cutB s = true) : s.head?.any letB = false ∧ s.head?.any digB = false := by
  cases s with
  | nil=>exact ⟨rfl,rfl⟩
  | cons c s=>simpa [cutB] using h
theorem SBk.word {a s : List UInt8} {ts : List TV} (ha : ∀ c ∈ a, letB c = true) (hn : a ≠ []) (hc : cutB s = true) (h : SBk s ts) : SBk (a ++ s) (wK a :: ts) := by
  refine SBk.tok ?_ h
  cases a with
  | nil=>exact absurd rfl hn
  | cons c a =>
    have e:=pre_all (c::a) s ha (cut_let hc).1;have h1:letB c=true:=ha c (by simp)
    have ht:tokLen (c::a++s)=((c::a).length,false):=by
      rw [List.cons_append] at e ⊢;simp only [tokLen,h1,if_true,e]
    unfold Go.Proofs.YtjdcjfpfpaplladGreat.tok;rw [ht];simp
theorem SBk.sign {c : UInt8} {s : List UInt8} {ts : List TV} (hc : sigB c = true) (h : SBk s ts) : SBk (c :: s) (wK [c] :: ts) := by
  refine SBk.tok (a:=[c]) ?_ h
  have h1:letB c=false:=by
    cases hl:letB c with
    | false=>rfl
    | true=>simp [letB] at hl;simp [sigB] at hc;omega
  have ht:tokLen ([c]++s)=(1,false):=by
    simp [tokLen,h1,hc]
  unfold Go.Proofs.YtjdcjfpfpaplladGreat.tok;rw [ht];simp
theorem SBk.arrow {s : List UInt8} {ts : List TV} (h : SBk s ts) : SBk (45 :: 62 :: s) (wK sArrow :: ts) := by
  refine SBk.tok (a:=[45,62]) ?_ h;have h1:letB 45=false:=rfl;have h2:sigB 45=false:=rfl
  have ht:tokLen ([45,62]++s)=(2,false):=by
    simp [tokLen,h1,h2]
  unfold Go.Proofs.YtjdcjfpfpaplladGreat.tok;rw [ht];simp
theorem SBk.num {v : Int} {s : List UInt8} {ts : List TV} (hv : -9223372036854775808 ≤ v ∧ v ≤ 9223372036854775807) (hc : cutB s = true) (h : SBk s ts) : SBk (Lib.itoa v ++ s) (nK v :: ts) := by
  refine SBk.tok ?_ h;obtain ⟨h1,c,l,e,h2,h3⟩:=itoa_form v hv;have hp:=pre_all l s h2 (cut_let hc).2
  have hnl:letB c=false∧sigB c=false:=by
    rcases h3 with h3 | ⟨rfl,_⟩
    · exact ⟨(dig_not h3).2.2.1,(dig_not h3).2.2.2⟩
    · exact ⟨rfl,rfl⟩
  have hna:¬ (c.toNat=45∧(l++s).head?.any (fun d=>d.toNat==62)=true):=by
    rintro ⟨a,b⟩;rcases h3 with h3 | ⟨_,d,r,rfl,hd⟩
    · exact (dig_not h3).1 a
    · simp at b
      simp [digB,b] at hd
  have hy:digB c=true∨(c.toNat=45∧(l++s).head?.any digB=true):=by
    rcases h3 with h3 | ⟨rfl,d,r,rfl,hd⟩
    · exact .inl h3
    · exact .inr ⟨rfl,by simp [hd]⟩
  have ht:tokLen (Lib.itoa v++s)=((Lib.itoa v).length,true):=by
    rw [e,List.cons_append];simp only [tokLen,hnl.1,hnl.2,Bool.false_eq_true,if_false,if_neg hna,if_pos hy,hp,List.length_cons]
  unfold Go.Proofs.YtjdcjfpfpaplladGreat.tok;rw [ht];simp only [if_true,List.take_left',h1];rw [if_neg (by rw [e];simp)]
def Pc (a : List UInt8) (k : List TV) : Prop := ∀ s ts, cutB s = true → SBk s ts → SBk (a ++ s) (k ++ ts)
theorem cut_app {a s : List UInt8} (ha : cutB a = true) (hs : cutB s = true) : cutB (a ++ s) = true := by
  cases a with
  | nil=>exact hs
  | cons c a=>exact ha
section
variable {a b : List UInt8} {k j : List TV}
theorem Pc.nil : Pc [] [] := fun s ts hs h => h
theorem Pc.blank {c : UInt8} (hc : blB c = true) (h : Pc a k) : Pc (c :: a) k := fun s ts hs h1 => SBk.blank hc (h s ts hs h1)
theorem Pc.sign {c : UInt8} (hc : sigB c = true) (h : Pc a k) : Pc (c :: a) (wK [c] :: k) := fun s ts hs h1 => SBk.sign hc (h s ts hs h1)
theorem Pc.arrow (h : Pc a k) : Pc (45 :: 62 :: a) (wK sArrow :: k) := fun s ts hs h1 => SBk.arrow (h s ts hs h1)
theorem Pc.word {w : List UInt8} (hw : w.all letB = true) (hn : w ≠ []) (ha : cutB a = true) (h : Pc a k) : Pc (w ++ a) (wK w :: k) := fun s ts hs h1 => by
  rw [List.append_assoc,List.cons_append];exact SBk.word (List.all_eq_true.1 hw) hn (cut_app ha hs) (h s ts hs h1)
theorem Pc.num {v : Int} (hv : -9223372036854775808 ≤ v ∧ v ≤ 9223372036854775807) (ha : cutB a = true) (h : Pc a k) : Pc (Lib.itoa v ++ a) (nK v :: k) := fun s ts hs h1 => by
  rw [List.append_assoc,List.cons_append];exact SBk.num hv (cut_app ha hs) (h s ts hs h1)
theorem Pc.app (h1 : Pc a k) (hb : cutB b = true) (h2 : Pc b j) : Pc (a ++ b) (k ++ j) := fun s ts hs h => by
  rw [List.append_assoc,List.append_assoc];exact h1 _ _ (cut_app hb hs) (h2 s ts hs h)
theorem Pc.flat {α : Type} {t : α → List UInt8} {q : α → List TV} : ∀ {l : List α}, (∀ x ∈ l, Pc (t x) (q x) ∧ cutB (t x) = true) → Pc (l.flatMap t) (l.flatMap q)
  | [],h=>Pc.nil
  | x::l,h=>by
    rw [List.flatMap_cons,List.flatMap_cons];have ih:=Pc.flat (t:=t) (q:=q) (l:=l) fun y hy=>h y (by simp [hy]);refine (h x (by simp)).1.app ?_ ih
    cases l with
    | nil=>rfl
    | cons y l=>rw [List.flatMap_cons];exact cut_app (h y (by simp)).2 (by
        cases hz:l.flatMap t with
        | nil=>rfl
        | cons c z =>
          clear ih
          induction l with
          | nil=>simp at hz
          | cons u l ih =>
            rw [List.flatMap_cons] at hz
            cases hu:t u with
            | nil=>rw [hu,List.nil_append] at hz;exact ih (fun y hy=>h y (by simp at hy ⊢;rcases hy with h | h | h <;> simp [h])) hz
            | cons d r =>
              rw [hu,List.cons_append] at hz;injection hz with hz1 hz2
              have:=(h u (by simp)).2
              rw [hu,hz1] at this;exact this)
end
def comK : List (List TV) → List TV
  | []=>[]
  | x::xs=>x++xs.flatMap (fun y=>wK [44]::y)
theorem cat_pc {α : Type} {t : α → List UInt8} {q : α → List TV} {l : List α} (h : ∀ x ∈ l, Pc (t x) (q x)) : Pc (catL (l.map t)) (comK (l.map q)) := by
  cases l with
  | nil=>exact Pc.nil
  | cons x l =>
    rw [List.map_cons,List.map_cons,catL,comK,List.flatMap_map,List.flatMap_map];refine (h x (by simp)).app ?_ (Pc.flat fun y hy=>⟨.sign rfl (.blank rfl (h y (by simp [hy]))),rfl⟩)
    cases l with
    | nil=>rfl
    | cons y l=>rfl
def numsK (b f : UInt8) (l : List Int) : List TV := wK [b] :: (comK (l.map fun n => [nK n]) ++ [wK [f]])
def TT.tk : {n : Nat} → TT n → List TV
  | 0,t=>Empty.elim t
  | n+1,t =>
    if t.1=2 then [wK wHandle,nK t.2.1]
    else if t.1=4 then [wK wArray,nK t.2.1]
    else if t.1=3 then wK wTuple::nK t.2.1::wK [40]::(comK (t.2.2.map (TT.tk (n:=n)))++[wK [41]])
    else [wK wInt]
def typsK {n : Nat} (l : List (TT n)) : List TV := wK [40] :: (comK (l.map TT.tk) ++ [wK [41]])
def MTo.tk (t : MTo) : List TV := nK t.block :: (numsK 60 62 t.regs ++ numsK 40 41 t.args)
def MIns.rk (x : MIns) : List TV :=
  if x.op=1 then [nK x.n]
  else if x.op=2 then [wK (wordAt kindWords x.k),nK x.a,nK x.b]
  else if x.op=5 then nK x.a::numsK 40 41 x.args
  else if x.op=6 then [nK x.a,nK x.k]
  else if x.op=7 then [nK x.a,nK x.k,nK x.b]
  else if x.op=14 then nK x.k::(numsK 60 62 x.regs++numsK 40 41 x.args)
  else if x.op=4∨x.op=11∨x.op=13 then [nK x.a]
  else if x.op=8∨x.op=9 then [nK x.a,nK x.b]
  else if x.op=10 then [nK x.a,nK x.b,nK x.c]
  else []
def MIns.tk (x : MIns) : List TV := wK (wordAt opWords x.op) :: (x.rk ++ [wK [59]])
def MEnd.ek (e : MEnd) : List TV :=
  if e.op=1 then wK wJump::e.yes.tk
  else if e.op=2 then wK wIf::nK e.a::wK wTo::(e.yes.tk++wK wElse::e.no.tk)
  else wK wRet::numsK 40 41 e.args
def MEnd.tk (e : MEnd) : List TV := e.ek ++ [wK [59]]
def MBlock.tk {n : Nat} (x : MBlock n) : List TV := wK wBlock :: nK x.regs :: (typsK x.params ++ wK [123] :: (x.code.flatMap MIns.tk ++ (x.fin.tk ++ [wK [125]])))
def MFunc.tk {n : Nat} (x : MFunc n) : List TV := wK wFunc :: nK x.regs :: (typsK x.params ++ wK sArrow :: (typsK x.results ++ wK [123] :: (x.blocks.flatMap MBlock.tk ++ [wK [125]])))
theorem num_n64 {v : Int} (h : numB v = true) : N64 v := by simp [numB] at h; constructor <;> omega
theorem Pc.num1 {v : Int} (hv : N64 v) : Pc (Lib.itoa v) [nK v] := by
  have:=Pc.num (a:=[]) (k:=[]) hv rfl Pc.nil
  rwa [List.append_nil] at this
theorem Pc.nT {v : Int} (hv : N64 v) : Pc (nT v) [nK v] := Pc.blank rfl (Pc.num1 hv)
theorem Pc.word1 {w : List UInt8} (hw : w.all letB = true) (hn : w ≠ []) : Pc w [wK w] := by
  have:=Pc.word (a:=[]) (k:=[]) hw hn rfl Pc.nil
  rwa [List.append_nil] at this
theorem Pc.ints {b f : UInt8} {l : List Int} (hb : sigB b = true) (hf : sigB f = true) (hc : cutB [f] = true) (hl : l.all numB = true) : Pc (intsT b f l) (numsK b f l) :=
  Pc.sign hb (Pc.app (cat_pc fun v hv=>Pc.num1 (num_n64 (List.all_eq_true.1 hl v hv))) hc (Pc.sign hf Pc.nil))
theorem Pc.typ : {n : Nat} → {t : TT n} → {regs : Int} → regs ≤ 16 → t.fault regs = 0 → Pc t.txt t.tk
  | 0,t,_,_,_=>Empty.elim t
  | n+1,t,regs,hr,h=>by
    obtain ⟨h1,h2⟩:=TT.fault_zero h;obtain ⟨g1,g2,g3,g4,g5,g6⟩:=own_zero hr h1;have hi:N64 t.2.1:=⟨by omega,by omega⟩;have ih:Pc (catL (t.2.2.map (TT.txt (n:=n)))) (comK (t.2.2.map (TT.tk (n:=n)))):=cat_pc fun x hx=>Pc.typ hr (h2 x hx);rw [TT.txt,TT.tk];split
    · exact Pc.word (w:=wHandle) rfl (by decide) rfl (Pc.blank rfl (Pc.num1 hi))
    split
    · exact Pc.word (w:=wArray) rfl (by decide) rfl (Pc.blank rfl (Pc.num1 hi))
    split
    · have h3:Pc (40::(catL (t.2.2.map (TT.txt (n:=n)))++[41])) (wK [40]::(comK (t.2.2.map (TT.tk (n:=n)))++[wK [41]])):=Pc.sign rfl (ih.app rfl (Pc.sign rfl Pc.nil))
      have:=Pc.word (w:=wTuple) rfl (by decide) rfl (Pc.blank (c:=32) rfl (Pc.num hi (a:=32::40::(catL (t.2.2.map (TT.txt (n:=n)))++[41])) rfl (Pc.blank rfl h3)))
      have e:[116,117,112,108,101,32]++Lib.itoa t.2.1++[32,40]++catL (t.2.2.map (TT.txt (n:=n)))++[41]=wTuple++32::(Lib.itoa t.2.1++32::40::(catL (t.2.2.map (TT.txt (n:=n)))++[41])):=by simp [wTuple]
      rw [e];exact this
    · exact Pc.word1 (w:=wInt) rfl (by decide)
theorem Pc.typs {n : Nat} {l : List (TT n)} (h : tsOk l) : Pc (typsT l) (typsK l) :=
  Pc.sign rfl (Pc.app (cat_pc fun t ht=>by obtain ⟨r,hr,hc⟩:=h.2 t ht;exact Pc.typ hr (check_fault hc).2) rfl (Pc.sign rfl Pc.nil))
theorem Pc.to {t : MTo} (hb : N64 t.block) (h : t.nums = true) : Pc t.txt t.tk := by
  simp only [MTo.nums,Bool.and_eq_true] at h;exact Pc.num hb rfl (Pc.app (a:=32::intsT 60 62 t.regs) (Pc.blank rfl (Pc.ints rfl rfl rfl h.1)) rfl (Pc.blank rfl (Pc.ints rfl rfl rfl h.2)))
theorem kind_word {k : Int} (h : 1 ≤ k ∧ k ≤ 9) : (wordAt kindWords k).all letB = true ∧ wordAt kindWords k ≠ [] := by
  have:k=1∨k=2∨k=3∨k=4∨k=5∨k=6∨k=7∨k=8∨k=9:=by omega
  rcases this with rfl | rfl | rfl | rfl | rfl | rfl | rfl | rfl | rfl <;> exact ⟨by decide,by decide⟩
theorem op_word {k : Int} (h : (fieldsOf k).isNone = false) : (wordAt opWords k).all letB = true ∧ wordAt opWords k ≠ [] := by
  rcases ropcases h with rfl | rfl | rfl | rfl | rfl | rfl | rfl | rfl | rfl | rfl | rfl | rfl | rfl | rfl <;> exact ⟨by decide,by decide⟩
theorem Pc.rest {funcs : Nat} {x : MIns} (hn : N64 x.n) (hf : x.form funcs = 0) (h : x.nums = true) : Pc x.rest x.rk ∧ cutB x.rest = true := by
  simp only [MIns.nums,List.all_cons,List.all_nil,Bool.and_eq_true,Bool.and_true] at h;obtain ⟨⟨ha,hb,hc,hk⟩,hr,hg⟩:=h;have ha:=num_n64 ha;have hb:=num_n64 hb;have hc:=num_n64 hc;have hk:=num_n64 hk;have f:=form_zero hf;unfold MIns.rest MIns.rk;by_cases h1:x.op=1
  · rw [if_pos h1,if_pos h1];exact ⟨Pc.nT hn,rfl⟩
  rw [if_neg h1,if_neg h1];by_cases h2:x.op=2
  · rw [if_pos h2,if_pos h2];have kw:=kind_word (f.2.2.1 h2);exact ⟨Pc.blank rfl (Pc.word kw.1 kw.2 rfl (Pc.app (Pc.nT ha) rfl (Pc.nT hb))),rfl⟩
  rw [if_neg h2,if_neg h2];by_cases h3:x.op=5
  · rw [if_pos h3,if_pos h3];exact ⟨Pc.app (Pc.nT ha) rfl (Pc.blank rfl (Pc.ints rfl rfl rfl hg)),rfl⟩
  rw [if_neg h3,if_neg h3];by_cases h4:x.op=6
  · rw [if_pos h4,if_pos h4];exact ⟨Pc.app (Pc.nT ha) rfl (Pc.nT hk),rfl⟩
  rw [if_neg h4,if_neg h4];by_cases h5:x.op=7
  · rw [if_pos h5,if_pos h5];exact ⟨Pc.app (Pc.nT ha) rfl (Pc.app (Pc.nT hk) rfl (Pc.nT hb)),rfl⟩
  rw [if_neg h5,if_neg h5];by_cases h6:x.op=14
  · rw [if_pos h6,if_pos h6];exact ⟨Pc.app (Pc.nT hk) rfl (Pc.app (a:=32::intsT 60 62 x.regs) (Pc.blank rfl (Pc.ints rfl rfl rfl hr)) rfl (Pc.blank rfl (Pc.ints rfl rfl rfl hg))),rfl⟩
  rw [if_neg h6,if_neg h6];by_cases h7:x.op=4∨x.op=11∨x.op=13
  · rw [if_pos h7,if_pos h7];exact ⟨Pc.nT ha,rfl⟩
  rw [if_neg h7,if_neg h7];by_cases h8:x.op=8∨x.op=9
  · rw [if_pos h8,if_pos h8];exact ⟨Pc.app (Pc.nT ha) rfl (Pc.nT hb),rfl⟩
  rw [if_neg h8,if_neg h8];by_cases h9:x.op=10
  · rw [if_pos h9,if_pos h9];exact ⟨Pc.app (Pc.nT ha) rfl (Pc.app (Pc.nT hb) rfl (Pc.nT hc)),rfl⟩
  rw [if_neg h9,if_neg h9];exact ⟨Pc.nil,rfl⟩
def Cl (a : List UInt8) (k : List TV) : Prop := ∀ s ts, SBk s ts → SBk (a ++ s) (k ++ ts)
theorem Cl.nil : Cl [] [] := fun s ts h => h
theorem Cl.app {a b : List UInt8} {k j : List TV} (h1 : Cl a k) (h2 : Cl b j) : Cl (a ++ b) (k ++ j) := fun s ts h => by
  rw [List.append_assoc,List.append_assoc];exact h1 _ _ (h2 s ts h)
theorem Cl.flat {α : Type} {t : α → List UInt8} {q : α → List TV} : ∀ {l : List α}, (∀ x ∈ l, Cl (t x) (q x)) → Cl (l.flatMap t) (l.flatMap q)
  | [],h=>Cl.nil
  | x::l,h=>by
    rw [List.flatMap_cons,List.flatMap_cons];exact (h x (by simp)).app (Cl.flat fun y hy=>h y (by simp [hy]))
theorem Cl.sign {a : List UInt8} {k : List TV} {c : UInt8} (hc : sigB c = true) (hx : cutB [c] = true) (h : Pc a k) : Cl (a ++ [c, 10]) (k ++ [wK [c]]) := fun s ts h1 => by
  rw [List.append_assoc,List.append_assoc];exact h _ _ hx (SBk.sign hc (SBk.blank rfl h1))
theorem Pc.line {a : List UInt8} {k : List TV} (h : Pc a k) : Cl (lineT a) (k ++ [wK [59]]) := fun s ts h1 => SBk.blank rfl (Cl.sign rfl rfl h s ts h1)
theorem Pc.ins {funcs : Nat} {x : MIns} (hn : N64 x.n) (hf : x.form funcs = 0) (h : x.nums = true) : Cl (lineT x.txt) x.tk := by
  obtain ⟨h1,h2⟩:=Pc.rest hn hf h;obtain ⟨w1,w2⟩:=op_word (form_zero hf).1;exact Pc.line (k:=wK (wordAt opWords x.op)::x.rk) (Pc.word w1 w2 h2 h1)
theorem to_zero {nb : Nat} {has : Bool} {t : MTo} (hb : nb ≤ 12) (h : t.form nb has = 0) : 0 ≤ t.block ∧ t.block ≤ 12 ∧ t.regs.length ≤ 16 ∧ t.args.length ≤ 8 ∧ (has = false → t = noTo) := by
  unfold MTo.form at h;split at h
  · rename_i hh
    split at h
    · cases h
    · obtain ⟨b,r,a⟩:=t;rename_i h1
      simp only [not_or,Decidable.not_not,Nat.not_lt,Nat.le_zero_eq,Nat.add_eq_zero_iff,List.length_eq_zero_iff] at h1;obtain ⟨rfl,rfl,rfl⟩:=h1;exact ⟨by decide,by decide,by decide,by decide,fun _=>rfl⟩
  · rename_i hh
    split at h
    · cases h
    split at h
    · cases h
    refine ⟨by omega,by omega,by omega,by omega,fun e=>absurd e hh⟩
theorem Pc.fin {nb : Nat} {e : MEnd} (hb : nb ≤ 12) (hf : e.form nb = 0) (h : e.nums = true) : Cl (lineT e.txt) e.tk := by
  obtain ⟨h1,h2,h3,h4,h5,h6⟩:=end_zero hb hf;obtain ⟨y1,y2,_⟩:=to_zero hb h5;obtain ⟨n1,n2,_⟩:=to_zero hb h6;simp only [MEnd.nums,List.all_cons,List.all_nil,Bool.and_eq_true,Bool.and_true] at h;obtain ⟨ha,hg,hy,hn⟩:=h;have ha:=num_n64 ha;have py:=Pc.to (t:=e.yes) ⟨by omega,by omega⟩ hy;have pn:=Pc.to (t:=e.no) ⟨by omega,by omega⟩ hn;refine Pc.line ?_;unfold MEnd.txt MEnd.ek;split
  · exact Pc.word (w:=wJump) rfl (by decide) rfl (Pc.blank rfl py)
  split
  · exact Pc.word (w:=wIf) rfl (by decide) rfl (Pc.app (Pc.nT ha) rfl (Pc.blank rfl (Pc.word (w:=wTo) rfl (by decide) rfl (Pc.blank rfl (Pc.app py rfl (Pc.blank rfl (Pc.word (w:=wElse) rfl (by decide) rfl (Pc.blank rfl pn))))))))
  · exact Pc.word (w:=wRet) rfl (by decide) rfl (Pc.blank rfl (Pc.ints rfl rfl rfl hg))
def MBlock.nOk {n : Nat} (x : MBlock n) : Prop := ∀ y ∈ x.code, N64 y.n
def MFunc.nOk {n : Nat} (x : MFunc n) : Prop := ∀ y ∈ x.blocks, y.nOk
theorem Cl.block {n funcs : Nat} {x : MBlock n} (hf : x.fine funcs) (hn : x.nOk) (h : x.nums = true) : Cl x.txt x.tk := by
  simp only [MBlock.nums,Bool.and_eq_true] at h;obtain ⟨nb,hb,hfin⟩:=hf.fin;have hr:=hf.regs
  have p1:Pc (wBlock++(nT x.regs++32::(typsT x.params++[32]))) (wK wBlock::nK x.regs::typsK x.params):=by
    have:=Pc.word (w:=wBlock) rfl (by decide) rfl (Pc.app (Pc.nT (v:=x.regs) ⟨by omega,by omega⟩) rfl (Pc.blank (c:=32) rfl (Pc.app (Pc.typs hf.params) (b:=[32]) (j:=[]) rfl (Pc.blank rfl Pc.nil))))
    rwa [List.append_nil] at this
  have pc:Cl (codeT x.code) (x.code.flatMap MIns.tk):=Cl.flat fun y hy=>Pc.ins (hn y hy) (hf.code y hy) (List.all_eq_true.1 h.1 y hy);have pe:=Pc.fin hb hfin h.2
  have:=(Cl.sign (c:=123) rfl rfl p1).app (pc.app (pe.app (Cl.sign (c:=125) rfl rfl Pc.nil)))
  have e:x.txt=wBlock++(nT x.regs++32::(typsT x.params++[32]))++[123,10]++(codeT x.code++(lineT x.fin.txt++([]++[125,10]))):=by
    simp [MBlock.txt,MBlock.head,List.append_assoc]
  have e2:x.tk=wK wBlock::nK x.regs::typsK x.params++[wK [123]]++(x.code.flatMap MIns.tk++(x.fin.tk++([]++[wK [125]]))):=by
    simp [MBlock.tk,List.append_assoc]
  rw [e,e2];exact this
theorem Cl.func {n funcs : Nat} {x : MFunc n} (hf : x.fine funcs) (hn : x.nOk) (h : x.nums = true) : Cl x.txt x.tk := by
  have hr:=hf.regs
  have p1:Pc (wFunc++(nT x.regs++32::(typsT x.params++32::45::62::32::(typsT x.results++[32])))) (wK wFunc::nK x.regs::(typsK x.params++wK sArrow::typsK x.results)):=by
    have:=Pc.word (w:=wFunc) rfl (by decide) rfl (Pc.app (Pc.nT (v:=x.regs) ⟨by omega,by omega⟩) rfl (Pc.blank (c:=32) rfl (Pc.app (Pc.typs hf.params) rfl (Pc.blank (c:=32) rfl (Pc.arrow (Pc.blank (c:=32) rfl (Pc.app (Pc.typs hf.results) (b:=[32]) (j:=[]) rfl (Pc.blank rfl Pc.nil))))))))
    rwa [List.append_nil] at this
  have pb:Cl (blocksT x.blocks) (x.blocks.flatMap MBlock.tk):=Cl.flat fun y hy=>Cl.block (hf.blocks y hy) (hn y hy) (List.all_eq_true.1 h y hy)
  have:=(Cl.sign (c:=123) rfl rfl p1).app (pb.app (Cl.sign (c:=125) rfl rfl Pc.nil))
  have e:x.txt=wFunc++(nT x.regs++32::(typsT x.params++32::45::62::32::(typsT x.results++[32])))++[123,10]++(blocksT x.blocks++([]++[125,10])):=by
    simp [MFunc.txt,MFunc.head,List.append_assoc]
  have e2:x.tk=wK wFunc::nK x.regs::(typsK x.params++wK sArrow::typsK x.results)++[wK [123]]++(x.blocks.flatMap MBlock.tk++([]++[wK [125]])):=by
    simp [MFunc.tk,List.append_assoc]
  rw [e,e2];exact this
def HasK (l : List Tk) (p : Nat) (ts : List TV) : Prop := ∀ (i : Nat) x, ts[i]? = some x → ∃ y, l[p + i]? = some y ∧ tv y = x
section
variable {l : List Tk} {e p : Nat}
theorem HasK.head {x : TV} {ts : List TV} (h : HasK l p (x :: ts)) : ∃ y, l[p]? = some y ∧ tv y = x := h 0 x rfl
theorem HasK.tail {x : TV} {ts : List TV} (h : HasK l p (x :: ts)) : HasK l (p + 1) ts := fun i y hy => by
  have:=h (i+1) y (by simpa using hy)
  rwa [show p+(i+1)=p+1+i by omega] at this
theorem HasK.left {a b : List TV} (h : HasK l p (a ++ b)) : HasK l p a := fun i x hx => h i x (by
  rw [List.getElem?_append_left (List.getElem?_eq_some_iff.1 hx).1];exact hx)
theorem HasK.right {a b : List TV} (h : HasK l p (a ++ b)) : HasK l (p + a.length) b := fun i x hx => by
  have:=h (a.length+i) x (by rw [List.getElem?_append_right (by omega),Nat.add_sub_cancel_left];exact hx)
  rwa [show p+(a.length+i)=p+a.length+i by omega] at this
theorem HasK.wd {s t : List UInt8} {ts : List TV} (h : HasK l p (wK s :: ts)) : isW l t p = decide (s = t) := by
  obtain ⟨y,hy,e⟩:=h.head;simp only [tv,wK,Prod.mk.injEq] at e;simp [isW,hy,e.1,e.2.1]
theorem HasK.wdn {v : Int} {t : List UInt8} {ts : List TV} (h : HasK l p (nK v :: ts)) : isW l t p = false := by
  obtain ⟨y,hy,e⟩:=h.head;simp only [tv,nK,Prod.mk.injEq] at e;simp [isW,hy,e.2.1]
def Gets {α : Type} (l : List Tk) (f : Nat → PR α) (k : List TV) (v : α) : Prop := ∀ p, HasK l p k → f p = .ok (v, p + k.length)
theorem Gets.pure {α : Type} {v : α} : Gets l (fun p => .ok (v, p)) [] v := fun p h => rfl
theorem Gets.andThen {α β : Type} {f : Nat → PR α} {g : α → Nat → PR β} {k j : List TV} {v : α} {u : β} (h1 : Gets l f k v) (h2 : Gets l (g v) j u) : Gets l (fun p => (f p).andThen g) (k ++ j) u := fun p h => by
  show (f p).andThen g=_;rw [h1 p h.left,PR.ok_andThen,h2 _ h.right,List.length_append,Nat.add_assoc]
theorem Gets.last {α β : Type} {f : Nat → PR α} {g : α → β} {k : List TV} {v : α} (h1 : Gets l f k v) : Gets l (fun p => (f p).andThen fun a q => .ok (g a, q)) k (g v) := fun p h => by
  show (f p).andThen _=_;rw [h1 p h,PR.ok_andThen]
theorem Gets.must {s : List UInt8} : Gets l (mustP l e s) [wK s] () := fun p h => by
  unfold mustP;rw [h.wd];simp
theorem Gets.long {v : Int} : Gets l (longP l e) [nK v] v := fun p h => by
  obtain ⟨y,hy,e⟩:=h.head;simp only [tv,nK,Prod.mk.injEq] at e;simp [longP,hy,e.2.1,e.2.2]
theorem Gets.num {v : Int} (hv : numB v = true) : Gets l (numP l e) [nK v] v := fun p h => by
  have hl:=Gets.long (e:=e) p h;obtain ⟨y,hy,e⟩:=h.head;simp only [tv,nK,Prod.mk.injEq] at e;simp [numB] at hv;unfold numP;simp only [hy,e.2.1,e.2.2];rw [if_neg (by omega),hl]
def noFin (fin : List UInt8) (k : List TV) : Prop := (∃ v ts, k = nK v :: ts) ∨ ∃ s ts, k = wK s :: ts ∧ s ≠ fin
theorem noFin.wd {fin : List UInt8} {k : List TV} (h : noFin fin k) {j : List TV} (hh : HasK l p (k ++ j)) : isW l fin p = false := by
  rcases h with ⟨v,ts,rfl⟩ | ⟨s,ts,rfl,hs⟩
  · exact HasK.wdn hh
  · rw [HasK.wd hh];simp [hs]
section
variable {α : Type} {item : Nat → PR α} {fin : List UInt8} {k : α → List TV}
theorem lst_gets : ∀ (xs : List α) (fuel n p : Nat), (∀ x ∈ xs, Gets l item (k x) x ∧ noFin fin (k x)) → fin ≠ [44] → 0 < n → n + xs.length ≤ 100 → xs.length < fuel → HasK l p (xs.flatMap (fun x => wK [44] :: k x) ++ [wK fin]) → lstP l e item fin fuel n p = .ok (xs, p + (xs.flatMap (fun x => wK [44] :: k x)).length)
  | [],fuel,n,p,hx,hc,hn,hl,hf,h=>by
    obtain ⟨g,rfl⟩:∃ g,fuel=g+1:=⟨fuel - 1,by simp at hf;omega⟩
    have:isW l fin p=true:=by rw [HasK.wd h];simp
    simp only [List.length_nil] at hl;rw [lstP,if_neg (by omega),if_pos this];rfl
  | x::xs,fuel,n,p,hx,hc,hn,hl,hf,h=>by
    simp only [List.length_cons] at hl hf;obtain ⟨g,rfl⟩:∃ g,fuel=g+1:=⟨fuel - 1,by omega⟩;rw [List.flatMap_cons,List.cons_append,List.cons_append,List.append_assoc] at h;have h0:isW l fin p=false:=by rw [HasK.wd h];simp [Ne.symm hc]
    have h1:mustP l e [44] p=.ok ((),p+1):=Gets.must p (HasK.left (a:=[wK [44]]) h);have h2:=(hx x (by simp)).1 (p+1) h.tail.left;have h3:=lst_gets xs g (n+1) (p+1+(k x).length) (fun y hy=>hx y (by simp [hy])) hc (by omega) (by omega) (by omega) h.tail.right;rw [lstP,if_neg (by omega),h0,if_neg (by decide),if_pos hn,h1,PR.ok_andThen,h2,PR.ok_andThen,h3,PR.ok_andThen,List.flatMap_cons,List.length_append,List.length_cons];congr 2
    omega
theorem in_gets {xs : List α} {beg : List UInt8} (hx : ∀ x ∈ xs, Gets l item (k x) x ∧ noFin fin (k x)) (hc : fin ≠ [44]) (hl : xs.length ≤ 100) : Gets l (inP l e item beg fin) (wK beg :: (comK (xs.map k) ++ [wK fin])) xs := fun p h => by
  have h1:mustP l e beg p=.ok ((),p+1):=Gets.must p (HasK.left (a:=[wK beg]) h)
  have h2:lstP l e item fin 102 0 (p+1)=.ok (xs,p+1+(comK (xs.map k)).length):=by
    have h:=h.tail
    cases xs with
    | nil =>
      have:isW l fin (p+1)=true:=by rw [HasK.wd h];simp
      rw [lstP,if_neg (by omega),if_pos this];rfl
    | cons x xs =>
      simp only [List.length_cons] at hl;rw [List.map_cons,comK,List.flatMap_map,List.append_assoc] at h;have h0:=(hx x (by simp)).2.wd h;have h2:=(hx x (by simp)).1 (p+1) h.left;have h3:=lst_gets (e:=e) xs 101 1 (p+1+(k x).length) (fun y hy=>hx y (by simp [hy])) hc (by omega) (by omega) (by omega) h.right;rw [lstP,if_neg (by omega),h0,if_neg (by decide),if_neg (by omega),PR.ok_andThen,h2,PR.ok_andThen,h3,PR.ok_andThen,List.map_cons,comK,List.flatMap_map,List.length_append];congr 2
      omega
  have h3:mustP l e fin (p+1+(comK (xs.map k)).length)=.ok ((),p+1+(comK (xs.map k)).length+1):=Gets.must _ h.tail.right;unfold inP;rw [h1,PR.ok_andThen,h2,PR.ok_andThen,h3,PR.ok_andThen,List.length_cons,List.length_append,List.length_singleton];congr 2
  omega
end
theorem Gets.args {xs : List Int} (h : xs.all numB = true) (hl : xs.length ≤ 100) : Gets l (argsP l e) (numsK 40 41 xs) xs :=
  in_gets (fun x hx=>⟨Gets.num (List.all_eq_true.1 h x hx),.inl ⟨x,[],rfl⟩⟩) (by decide) hl
theorem Gets.regs {xs : List Int} (h : xs.all numB = true) (hl : xs.length ≤ 100) : Gets l (regsP l e) (numsK 60 62 xs) xs :=
  in_gets (fun x hx=>⟨Gets.num (List.all_eq_true.1 h x hx),.inl ⟨x,[],rfl⟩⟩) (by decide) hl
theorem tk_noFin : {n : Nat} → (t : TT n) → noFin [41] t.tk
  | 0,t=>Empty.elim t
  | n+1,t=>by
    rw [TT.tk];split
    · exact .inr ⟨_,_,rfl,by decide⟩
    split
    · exact .inr ⟨_,_,rfl,by decide⟩
    split
    · exact .inr ⟨_,_,rfl,by decide⟩
    · exact .inr ⟨_,_,rfl,by decide⟩
theorem Gets.typ : ∀ (d : Nat) {t : TT (d + 1)} {regs : Int}, regs ≤ 16 → t.height + 1 ≤ d → t.fault regs = 0 → Gets l (typP l e d) t.tk t
  | 0,t,regs,hr,hh,hf=>by omega
  | d+1,t,regs,hr,hh,hf=>by
    obtain ⟨h1,h2⟩:=TT.fault_zero hf;obtain ⟨g1,g2,g3,g4,g5,g6⟩:=own_zero hr h1;have hk:∀ x∈t.2.2,1+x.height≤d:=(height_le (t:=t)).1 (by omega);have hi:numB t.2.1=true:=by simp [numB];omega
    obtain ⟨kd,r,ts⟩:=t;simp only at h1 h2 g1 g2 g3 g4 g5 g6 hk hi
    intro p h;rw [show TT.tk (n:=d+2) (kd,r,ts)=(if kd=2 then [wK wHandle,nK r] else if kd=4 then [wK wArray,nK r] else if kd=3 then wK wTuple::nK r::wK [40]::(comK (ts.map (TT.tk (n:=d+1)))++[wK [41]]) else [wK wInt]) from rfl] at h ⊢;rw [typP];by_cases k2:kd=2
    · subst k2;rw [if_pos rfl] at h ⊢
      have:ts=[]:=List.length_eq_zero_iff.1 (g3 (by decide))
      subst this;have e1:isW l wInt p=false:=by rw [HasK.wd h];decide
      have e2:isW l wHandle p=true:=by rw [HasK.wd h];decide
      rw [e1,e2,if_neg (by decide),if_pos rfl,Gets.num hi (p+1) h.tail,PR.ok_andThen];rfl
    rw [if_neg k2] at h ⊢;by_cases k4:kd=4
    · subst k4;rw [if_pos rfl] at h ⊢
      have:ts=[]:=List.length_eq_zero_iff.1 (g3 (by decide))
      subst this;have e1:isW l wInt p=false:=by rw [HasK.wd h];decide
      have e2:isW l wHandle p=false:=by rw [HasK.wd h];decide
      have e3:isW l wArray p=true:=by rw [HasK.wd h];decide
      rw [e1,e2,e3,if_neg (by decide),if_neg (by decide),if_pos rfl,Gets.num hi (p+1) h.tail,PR.ok_andThen];rfl
    rw [if_neg k4] at h ⊢;by_cases k3:kd=3
    · subst k3;rw [if_pos rfl] at h ⊢;have e1:isW l wInt p=false:=by rw [HasK.wd h];decide
      have e2:isW l wHandle p=false:=by rw [HasK.wd h];decide
      have e3:isW l wArray p=false:=by rw [HasK.wd h];decide
      have ih:Gets l (inP l e (typP l e d) [40] [41]) (wK [40]::(comK (ts.map TT.tk)++[wK [41]])) ts :=
        in_gets (k:=TT.tk) (fun x hx=>⟨Gets.typ d hr (by have:=hk x hx;omega) (h2 x hx),tk_noFin x⟩) (by decide) (by omega)
      have m1:mustP l e wTuple p=.ok ((),p+1):=Gets.must p (HasK.left (a:=[wK wTuple]) h);have m2:numP l e (p+1)=.ok (r,p+1+1):=Gets.num hi (p+1) (HasK.left (a:=[nK r]) h.tail);have m3:=ih (p+1+1) h.tail.tail;rw [e1,e2,e3,if_neg (by decide),if_neg (by decide),if_neg (by decide),m1,PR.ok_andThen,m2,PR.ok_andThen,m3,PR.ok_andThen];simp only [List.length_cons];congr 2
      omega
    rw [if_neg k3] at h ⊢;have k1:kd=1:=by omega
    subst k1
    have:ts=[]:=List.length_eq_zero_iff.1 (g3 (by decide))
    subst this;have hr0:=g2 rfl;subst hr0;have e1:isW l wInt p=true:=by rw [HasK.wd h];decide
    rw [e1,if_pos rfl];rfl
theorem Gets.types {ts : List (TT 6)} (h : tsOk ts) : Gets l (typesP l e) (typsK ts) ts :=
  in_gets (k:=TT.tk) (fun x hx=>by
    obtain ⟨r,hr,hc⟩:=h.2 x hx;exact ⟨Gets.typ 5 hr (by have:=(check_fault hc).1;omega) (check_fault hc).2,tk_noFin x⟩) (by decide) (by have:=h.1;omega)
theorem which_of {s : List UInt8} {ts : List TV} {ws : List (List UInt8)} (h : HasK l p (wK s :: ts)) : whichP l ws p = if ws.any (fun t => decide (s = t)) then ws.findIdx (fun t => decide (s = t)) + 1 else 0 := by
  unfold whichP;simp only [h.wd]
theorem which_op {op : Int} {ts : List TV} (ho : (fieldsOf op).isNone = false) (h : HasK l p (wK (wordAt opWords op) :: ts)) : whichP l opWords p = op.toNat ∧ op.toNat ≠ 0 := by
  rw [which_of h];clear h;rcases ropcases ho with rfl | rfl | rfl | rfl | rfl | rfl | rfl | rfl | rfl | rfl | rfl | rfl | rfl | rfl <;> exact ⟨by decide,by decide⟩
theorem which_kind {k : Int} {ts : List TV} (ho : 1 ≤ k ∧ k ≤ 9) (h : HasK l p (wK (wordAt kindWords k) :: ts)) : whichP l kindWords p = k.toNat ∧ k.toNat ≠ 0 := by
  rw [which_of h];clear h
  have:k=1∨k=2∨k=3∨k=4∨k=5∨k=6∨k=7∨k=8∨k=9:=by omega
  rcases this with rfl | rfl | rfl | rfl | rfl | rfl | rfl | rfl | rfl <;> exact ⟨by decide,by decide⟩
theorem Gets.fields {funcs : Nat} {x : MIns} (hf : x.form funcs = 0) (h : x.nums = true) : Gets l (insFields l e x.op.toNat) x.rk x := by
  obtain ⟨f1,f2,f3,f4,f5⟩:=form_zero hf;clear hf;obtain ⟨op,a,b,c,k,n,regs,args⟩:=x;simp only [MIns.nums,List.all_cons,List.all_nil,Bool.and_eq_true,Bool.and_true] at h;obtain ⟨⟨ha,hb,hc,hk⟩,hr,hg⟩:=h;simp only [MIns.formless] at f2;simp only at f1 f3 f4 f5
  rcases ropcases f1 with rfl | rfl | rfl | rfl | rfl | rfl | rfl | rfl | rfl | rfl | rfl | rfl | rfl | rfl <;>
    simp [fieldsOf] at f2 <;> clear f1
  · obtain ⟨rfl,rfl,rfl,rfl,rfl,rfl⟩:a=0∧b=0∧c=0∧k=0∧regs=[]∧args=[]:=by simp [f2]
    exact Gets.last (g:=fun n=>(⟨1,0,0,0,0,n,[],[]⟩:MIns)) Gets.long
  · obtain ⟨rfl,rfl,rfl,rfl⟩:c=0∧n=0∧regs=[]∧args=[]:=by simp [f2]
    intro p hp;have hp':HasK l p [wK (wordAt kindWords k),nK a,nK b]:=hp;obtain ⟨w1,w2⟩:=which_kind (f3 rfl) hp';have m1:numP l e (p+1)=.ok (a,p+1+1):=Gets.num ha (p+1) (HasK.left (a:=[nK a]) hp'.tail);have m2:numP l e (p+1+1)=.ok (b,p+1+1+1):=Gets.num hb _ (HasK.left (a:=[nK b]) hp'.tail.tail);have hkk:(k.toNat:Int)=k:=by have:=f3 rfl;omega
    show (if whichP l kindWords p=0 then _ else _)=_;rw [w1,if_neg w2,m1,PR.ok_andThen,m2,PR.ok_andThen,hkk];rfl
  · obtain ⟨rfl,rfl,rfl,rfl,rfl,rfl,rfl⟩:a=0∧b=0∧c=0∧k=0∧n=0∧regs=[]∧args=[]:=by simp [f2]
    exact Gets.pure
  · obtain ⟨rfl,rfl,rfl,rfl,rfl,rfl⟩:b=0∧c=0∧k=0∧n=0∧regs=[]∧args=[]:=by simp [f2]
    exact Gets.last (g:=fun a=>(⟨4,a,0,0,0,0,[],[]⟩:MIns)) (Gets.num ha)
  · obtain ⟨rfl,rfl,rfl,rfl,rfl⟩:b=0∧c=0∧k=0∧n=0∧regs=[]:=by simp [f2]
    exact Gets.andThen (k:=[nK a]) (Gets.num ha) (Gets.last (g:=fun x=>(⟨5,a,0,0,0,0,[],x⟩:MIns)) (Gets.args hg (show args.length≤100 by omega)))
  · obtain ⟨rfl,rfl,rfl,rfl,rfl⟩:b=0∧c=0∧n=0∧regs=[]∧args=[]:=by simp [f2]
    exact Gets.andThen (k:=[nK a]) (Gets.num ha) (Gets.last (g:=fun k=>(⟨6,a,0,0,k,0,[],[]⟩:MIns)) (Gets.num hk))
  · obtain ⟨rfl,rfl,rfl,rfl⟩:c=0∧n=0∧regs=[]∧args=[]:=by simp [f2]
    exact Gets.andThen (k:=[nK a]) (Gets.num ha) (Gets.andThen (k:=[nK k]) (Gets.num hk) (Gets.last (g:=fun b=>(⟨7,a,b,0,k,0,[],[]⟩:MIns)) (Gets.num hb)))
  · obtain ⟨rfl,rfl,rfl,rfl,rfl⟩:c=0∧k=0∧n=0∧regs=[]∧args=[]:=by simp [f2]
    exact Gets.andThen (k:=[nK a]) (Gets.num ha) (Gets.last (g:=fun b=>(⟨8,a,b,0,0,0,[],[]⟩:MIns)) (Gets.num hb))
  · obtain ⟨rfl,rfl,rfl,rfl,rfl⟩:c=0∧k=0∧n=0∧regs=[]∧args=[]:=by simp [f2]
    exact Gets.andThen (k:=[nK a]) (Gets.num ha) (Gets.last (g:=fun b=>(⟨9,a,b,0,0,0,[],[]⟩:MIns)) (Gets.num hb))
  · obtain ⟨rfl,rfl,rfl,rfl⟩:k=0∧n=0∧regs=[]∧args=[]:=by simp [f2]
    exact Gets.andThen (k:=[nK a]) (Gets.num ha) (Gets.andThen (k:=[nK b]) (Gets.num hb) (Gets.last (g:=fun c=>(⟨10,a,b,c,0,0,[],[]⟩:MIns)) (Gets.num hc)))
  · obtain ⟨rfl,rfl,rfl,rfl,rfl,rfl⟩:b=0∧c=0∧k=0∧n=0∧regs=[]∧args=[]:=by simp [f2]
    exact Gets.last (g:=fun a=>(⟨11,a,0,0,0,0,[],[]⟩:MIns)) (Gets.num ha)
  · obtain ⟨rfl,rfl,rfl,rfl,rfl,rfl,rfl⟩:a=0∧b=0∧c=0∧k=0∧n=0∧regs=[]∧args=[]:=by simp [f2]
    exact Gets.pure
  · obtain ⟨rfl,rfl,rfl,rfl,rfl,rfl⟩:b=0∧c=0∧k=0∧n=0∧regs=[]∧args=[]:=by simp [f2]
    exact Gets.last (g:=fun a=>(⟨13,a,0,0,0,0,[],[]⟩:MIns)) (Gets.num ha)
  · obtain ⟨rfl,rfl,rfl,rfl⟩:a=0∧b=0∧c=0∧n=0:=by simp [f2]
    have:=f5 rfl
    exact Gets.andThen (k:=[nK k]) (Gets.num hk) (Gets.andThen (Gets.regs hr (by omega)) (Gets.last (g:=fun x=>(⟨14,0,0,0,k,0,regs,x⟩:MIns)) (Gets.args hg (show args.length≤100 by omega))))
theorem Gets.ins {funcs : Nat} {x : MIns} (hf : x.form funcs = 0) (h : x.nums = true) : Gets l (insP l e x.op.toNat) (x.rk ++ [wK [59]]) x :=
  Gets.andThen (Gets.fields hf h) (Gets.last (g:=fun _=>x) Gets.must)
theorem Gets.to {nb : Nat} {t : MTo} {has : Bool} (hb : nb ≤ 12) (hf : t.form nb has = 0) (h : t.nums = true) : Gets l (toP l e) t.tk t := by
  obtain ⟨h1,h2,h3,h4,_⟩:=to_zero hb hf;simp only [MTo.nums,Bool.and_eq_true] at h;obtain ⟨b,r,a⟩:=t;simp only at h h1 h2 h3 h4
  exact Gets.andThen (k:=[nK b]) (Gets.num (by simp [numB];omega)) (Gets.andThen (Gets.regs h.1 (by omega)) (Gets.last (g:=fun y=>(⟨b,r,y⟩:MTo)) (Gets.args h.2 (show a.length≤100 by omega))))
theorem Gets.ends {nb : Nat} {x : MEnd} (hb : nb ≤ 12) (hf : x.form nb = 0) (h : x.nums = true) : Gets l (endsP l e) x.tk x := by
  obtain ⟨h1,h2,h3,h4,h5,h6⟩:=end_zero hb hf;simp only [MEnd.nums,List.all_cons,List.all_nil,Bool.and_eq_true,Bool.and_true] at h;obtain ⟨ha,hg,hy,hn⟩:=h;have gy:=Gets.to (l:=l) (e:=e) hb h5 hy;have gn:=Gets.to (l:=l) (e:=e) hb h6 hn;have zy:=(to_zero hb h5).2.2.2.2;have zn:=(to_zero hb h6).2.2.2.2;clear hf h5 h6 hy hn;refine Gets.andThen (k:=x.ek) (v:=x) ?_ (Gets.last (g:=fun _=>x) Gets.must);obtain ⟨op,a,yes,no,args⟩:=x;simp only at h1 h2 h3 h4 ha hg gy gn zy zn
  intro p h;show (if isW l wJump p then _ else _)=_;rcases h1 with rfl | rfl | rfl
  · have h':HasK l p (wK wJump::yes.tk):=h;have a0:=h2 (by decide);have b0:=h3 (by decide);have n0:=zn rfl;subst a0 b0 n0;have e1:isW l wJump p=true:=by rw [HasK.wd h'];decide
    rw [e1,if_pos rfl,gy _ h'.tail,PR.ok_andThen];show Except.ok (_,_)=Except.ok (_,p+(wK wJump::yes.tk).length);rw [List.length_cons];congr 2
    omega
  · have h':HasK l p (wK wIf::nK a::wK wTo::(yes.tk++wK wElse::no.tk)):=h;have b0:=h3 (by decide);subst b0;have e1:isW l wJump p=false:=by rw [HasK.wd h'];decide
    have e2:isW l wIf p=true:=by rw [HasK.wd h'];decide
    have m1:numP l e (p+1)=.ok (a,p+1+1):=Gets.num ha (p+1) (HasK.left (a:=[nK a]) h'.tail);have m2:mustP l e wTo (p+1+1)=.ok ((),p+1+1+1):=Gets.must _ (HasK.left (a:=[wK wTo]) h'.tail.tail);have m3:=gy _ h'.tail.tail.tail.left;have m4:mustP l e wElse (p+1+1+1+yes.tk.length)=.ok ((),p+1+1+1+yes.tk.length+1):=Gets.must _ (HasK.left (a:=[wK wElse]) h'.tail.tail.tail.right);have m5:=gn _ h'.tail.tail.tail.right.tail;rw [e1,e2,if_neg (by decide),if_pos rfl,m1,PR.ok_andThen,m2,PR.ok_andThen,m3,PR.ok_andThen,m4,PR.ok_andThen,m5,PR.ok_andThen];show Except.ok (_,_)=Except.ok (_,p+(wK wIf::nK a::wK wTo::(yes.tk++wK wElse::no.tk)).length);simp only [List.length_cons,List.length_append];congr 2
    omega
  · have h':HasK l p (wK wRet::numsK 40 41 args):=h;have a0:=h2 (by decide);have n0:=zn rfl;have y0:=zy rfl;subst a0 n0 y0;have e1:isW l wJump p=false:=by rw [HasK.wd h'];decide
    have e2:isW l wIf p=false:=by rw [HasK.wd h'];decide
    have m1:mustP l e wRet p=.ok ((),p+1):=Gets.must p (HasK.left (a:=[wK wRet]) h');have m2:=Gets.args (e:=e) hg (by omega) _ h'.tail;rw [e1,e2,if_neg (by decide),if_neg (by decide),m1,PR.ok_andThen,m2,PR.ok_andThen];show Except.ok (_,_)=Except.ok (_,p+(wK wRet::numsK 40 41 args).length);rw [List.length_cons];congr 2
    omega
theorem end_word {nb : Nat} {x : MEnd} (hb : nb ≤ 12) (hf : x.form nb = 0) {ts : List TV} (h : HasK l p (x.tk ++ ts)) : whichP l opWords p = 0 := by
  obtain ⟨h1,_⟩:=end_zero hb hf
  have:∃ s ts',x.tk++ts=wK s::ts'∧(s=wJump∨s=wIf∨s=wRet):=by
    unfold MEnd.tk MEnd.ek;split
    · exact ⟨_,_,rfl,.inl rfl⟩
    split
    · exact ⟨_,_,rfl,.inr (.inl rfl)⟩
    · exact ⟨_,_,rfl,.inr (.inr rfl)⟩
  obtain ⟨s,ts',e1,hs⟩:=this;rw [e1] at h;rw [which_of h];rcases hs with rfl | rfl | rfl <;> decide
theorem code_gets {funcs nb : Nat} {fin : MEnd} (hb : nb ≤ 12) (hf : fin.form nb = 0) (hfn : fin.nums = true) : ∀ (xs : List MIns) (fuel p : Nat), (∀ x ∈ xs, x.form funcs = 0 ∧ x.nums = true) → xs.length < fuel → HasK l p (xs.flatMap MIns.tk ++ fin.tk) → codeP l e fuel p = .ok ((xs, fin), p + (xs.flatMap MIns.tk ++ fin.tk).length)
  | [],fuel,p,hx,hfu,h=>by
    obtain ⟨g,rfl⟩:∃ g,fuel=g+1:=⟨fuel - 1,by simp at hfu;omega⟩;have h':HasK l p (fin.tk++[]):=by rw [List.append_nil];exact h
    rw [codeP,if_pos (end_word hb hf h'),Gets.ends hb hf hfn p h'.left,PR.ok_andThen];rfl
  | x::xs,fuel,p,hx,hfu,h=>by
    simp only [List.length_cons] at hfu;obtain ⟨g,rfl⟩:∃ g,fuel=g+1:=⟨fuel - 1,by omega⟩;rw [List.flatMap_cons,List.append_assoc] at h;have hxx:=hx x (by simp);have h':HasK l p (wK (wordAt opWords x.op)::((x.rk++[wK [59]])++(xs.flatMap MIns.tk++fin.tk))):=h;obtain ⟨w1,w2⟩:=which_op (form_zero hxx.1).1 h';have m1:=Gets.ins (e:=e) hxx.1 hxx.2 (p+1) h'.tail.left;have m2:=code_gets hb hf hfn xs g (p+1+(x.rk++[wK [59]]).length) (fun y hy=>hx y (by simp [hy])) (by omega) h'.tail.right;rw [codeP,w1,if_neg w2,m1,PR.ok_andThen,m2,PR.ok_andThen,List.flatMap_cons];simp only [MIns.tk,List.length_cons,List.length_append,List.length_nil];congr 2
    omega
theorem HasK.le {ts : List TV} (h : HasK l p ts) (hn : ts ≠ []) : p + ts.length ≤ l.length := by
  have hx:ts[ts.length - 1]?=some (ts.getLast hn):=by
    rw [List.getLast_eq_getElem,List.getElem?_eq_getElem]
  obtain ⟨y,hy,_⟩:=h _ _ hx
  have:=(List.getElem?_eq_some_iff.1 hy).1
  have:=List.length_pos_iff.2 hn
  omega
theorem flat_ge {α : Type} {t : α → List TV} : ∀ (xs : List α), (∀ x ∈ xs, 1 ≤ (t x).length) → xs.length ≤ (xs.flatMap t).length
  | [],_=>Nat.le_refl _
  | x::xs,h=>by
    have:=flat_ge xs (fun y hy=>h y (by simp [hy]))
    have:=h x (by simp)
    simp only [List.flatMap_cons,List.length_append,List.length_cons];omega
theorem Gets.block {funcs : Nat} {x : MBlock 6} (hf : x.fine funcs) (h : x.nums = true) : Gets l (blockP l e) (nK x.regs :: (typsK x.params ++ wK [123] :: (x.code.flatMap MIns.tk ++ (x.fin.tk ++ [wK [125]])))) x := by
  simp only [MBlock.nums,Bool.and_eq_true] at h;obtain ⟨nb,hb,hfin⟩:=hf.fin;have hr:=hf.regs;intro p hp
  have hc:x.code.length<l.length+1:=by
    have h1:=hp.tail.right.tail.le (by simp);have h2:=flat_ge x.code (t:=MIns.tk) (fun y hy=>by simp [MIns.tk]);rw [List.length_append] at h1;omega
  have m1:numP l e p=.ok (x.regs,p+1):=Gets.num (by simp [numB];omega) p (HasK.left (a:=[nK x.regs]) hp);have m2:=Gets.types (e:=e) hf.params _ hp.tail.left;have m3:mustP l e [123] (p+1+(typsK x.params).length)=.ok ((),p+1+(typsK x.params).length+1):=Gets.must _ (HasK.left (a:=[wK [123]]) hp.tail.right);have h4:HasK l (p+1+(typsK x.params).length+1) ((x.code.flatMap MIns.tk++x.fin.tk)++[wK [125]]):=by rw [List.append_assoc];exact hp.tail.right.tail
  have m4:=code_gets (e:=e) hb hfin h.2 x.code (l.length+1) _ (fun y hy=>⟨hf.code y hy,List.all_eq_true.1 h.1 y hy⟩) hc h4.left;have m5:mustP l e [125] (p+1+(typsK x.params).length+1+(x.code.flatMap MIns.tk++x.fin.tk).length)=.ok ((),p+1+(typsK x.params).length+1+(x.code.flatMap MIns.tk++x.fin.tk).length+1):=Gets.must _ h4.right;unfold blockP;rw [m1,PR.ok_andThen,m2,PR.ok_andThen,m3,PR.ok_andThen,m4,PR.ok_andThen,m5,PR.ok_andThen];simp only [List.length_cons,List.length_append,List.length_nil];congr 2
  omega
theorem blocks_gets {funcs : Nat} : ∀ (xs : List (MBlock 6)) (fuel p : Nat), (∀ x ∈ xs, x.fine funcs ∧ x.nums = true) → xs.length < fuel → HasK l p (xs.flatMap MBlock.tk ++ [wK [125]]) → blocksP l e fuel p = .ok (xs, p + (xs.flatMap MBlock.tk ++ [wK [125]]).length)
  | [],fuel,p,hx,hfu,h=>by
    obtain ⟨g,rfl⟩:∃ g,fuel=g+1:=⟨fuel - 1,by simp at hfu;omega⟩;have h':HasK l p [wK [125]]:=h;have e1:isW l wBlock p=false:=by rw [HasK.wd h'];decide
    rw [blocksP,e1,if_neg (by decide),Gets.must p h',PR.ok_andThen];rfl
  | x::xs,fuel,p,hx,hfu,h=>by
    simp only [List.length_cons] at hfu;obtain ⟨g,rfl⟩:∃ g,fuel=g+1:=⟨fuel - 1,by omega⟩;rw [List.flatMap_cons,List.append_assoc] at h;have hxx:=hx x (by simp);have h':HasK l p (wK wBlock::((nK x.regs::(typsK x.params++wK [123]::(x.code.flatMap MIns.tk++(x.fin.tk++[wK [125]]))))++(xs.flatMap MBlock.tk++[wK [125]]))):=h;have e1:isW l wBlock p=true:=by rw [HasK.wd h'];decide
    have m1:=Gets.block (e:=e) hxx.1 hxx.2 (p+1) h'.tail.left;have m2:=blocks_gets xs g _ (fun y hy=>hx y (by simp [hy])) (by omega) h'.tail.right;rw [blocksP,e1,if_pos rfl,m1,PR.ok_andThen,m2,PR.ok_andThen,List.flatMap_cons];simp only [MBlock.tk,List.length_cons,List.length_append,List.length_nil];congr 2
    omega
theorem Gets.func {funcs : Nat} {x : MFunc 6} (hf : x.fine funcs) (h : x.nums = true) : Gets l (funcP l e) x.tk x := by
  have hr:=hf.regs;intro p hp;have h0:HasK l p (wK wFunc::nK x.regs::(typsK x.params++wK sArrow::(typsK x.results++wK [123]::(x.blocks.flatMap MBlock.tk++[wK [125]])))):=hp;have h1:=h0.tail.tail;have h2:=h1.right.tail;have h3:=h2.right.tail
  have hc:x.blocks.length<l.length+1:=by
    have g1:=h3.le (by simp);have g2:=flat_ge x.blocks (t:=MBlock.tk) (fun y hy=>by simp [MBlock.tk]);rw [List.length_append] at g1;omega
  have m0:mustP l e wFunc p=.ok ((),p+1):=Gets.must p (HasK.left (a:=[wK wFunc]) h0);have m1:numP l e (p+1)=.ok (x.regs,p+1+1):=Gets.num (by simp [numB];omega) _ (HasK.left (a:=[nK x.regs]) h0.tail);have m2:=Gets.types (e:=e) hf.params _ h1.left;have m3:mustP l e sArrow (p+1+1+(typsK x.params).length)=.ok ((),p+1+1+(typsK x.params).length+1):=Gets.must _ (HasK.left (a:=[wK sArrow]) h1.right);have m4:=Gets.types (e:=e) hf.results _ h2.left;have m5:mustP l e [123] (p+1+1+(typsK x.params).length+1+(typsK x.results).length)=.ok ((),p+1+1+(typsK x.params).length+1+(typsK x.results).length+1):=Gets.must _ (HasK.left (a:=[wK [123]]) h2.right);have m6:=blocks_gets (e:=e) x.blocks (l.length+1) _ (fun y hy=>⟨hf.blocks y hy,List.all_eq_true.1 h y hy⟩) hc h3;unfold funcP;rw [m0,PR.ok_andThen,m1,PR.ok_andThen,m2,PR.ok_andThen,m3,PR.ok_andThen,m4,PR.ok_andThen,m5,PR.ok_andThen,m6,PR.ok_andThen];simp only [MFunc.tk,List.length_cons,List.length_append,List.length_nil];congr 2
  omega
end
def TT.at : {n : Nat} → (k : Nat) → TT n → TT (k + 1)
  | 0,_,t=>Empty.elim t
  | n+1,0,t=>(t.1,t.2.1,[])
  | n+1,k+1,t=>(t.1,t.2.1,t.2.2.map (TT.at (n:=n) k))
theorem TT.at_kind : {n : Nat} → (k : Nat) → (t : TT n) → (t.at k).kind = t.kind
  | 0,_,t=>Empty.elim t
  | n+1,0,t=>rfl
  | n+1,k+1,t=>rfl
theorem TT.at_r : {n : Nat} → (k : Nat) → (t : TT n) → (t.at k).r = t.r
  | 0,_,t=>Empty.elim t
  | n+1,0,t=>rfl
  | n+1,k+1,t=>rfl
theorem TT.at_len : {n : Nat} → (k : Nat) → (t : TT n) → t.height ≤ k → (t.at k).len = t.len
  | 0,_,t,_=>Empty.elim t
  | n+1,0,t,h=>by
    have:=(height_le (t:=t)).1 h
    show 0=t.2.2.length
    cases hx:t.2.2 with
    | nil=>rfl
    | cons x l=>have:=this x (by rw [hx];simp);omega
  | n+1,k+1,t,h=>by
    show (t.2.2.map _).length=_;rw [List.length_map];rfl
theorem TIn.at {w : World} {O : Nat → Prop} : {n : Nat} → (k : Nat) → {t : TT n} → {a : Option Addr} → t.height ≤ k → TIn w O t a → TIn w O (t.at k) a
  | 0,_,t,_,_,_=>Empty.elim t
  | n+1,0,t,a,h,hi=>fun i x hx=>by simp [TT.at] at hx
  | n+1,k+1,t,a,h,hi=>fun i x hx=>by
    have hx':(t.2.2.map (TT.at k))[i]?=some x:=hx;rw [List.getElem?_map,Option.map_eq_some_iff] at hx';obtain ⟨y,hy,rfl⟩:=hx';have hh:y.height≤k:=by have:=(height_le (t:=t)).1 h y (List.mem_of_getElem? hy);omega
    obtain ⟨g,o,a',c',e,hg,h1,h2,h3,h4⟩:=hi i y hy;refine ⟨g,o,a',c',e,hg,?_,?_,?_,TIn.at k hh h4⟩
    · rw [TT.at_kind];exact h1
    · rw [TT.at_r];exact h2
    · rw [TT.at_len k y hh];exact h3
theorem TT.at_ok : {n : Nat} → (k : Nat) → {t : TT n} → t.ok → (t.at k).ok
  | 0,_,t,_=>Empty.elim t
  | n+1,0,t,h=>⟨h.1,fun x hx=>by cases hx⟩
  | n+1,k+1,t,h=>⟨h.1,fun x hx=>by
    obtain ⟨y,hy,rfl⟩:=List.mem_map.1 hx;exact TT.at_ok k (h.2 y hy)⟩
def MBlock.at {n : Nat} (k : Nat) (x : MBlock n) : MBlock (k + 1) := ⟨x.regs, x.params.map (TT.at k), x.code, x.fin⟩
def MFunc.at {n : Nat} (k : Nat) (x : MFunc n) : MFunc (k + 1) := ⟨x.regs, x.params.map (TT.at k), x.results.map (TT.at k), x.blocks.map (MBlock.at k)⟩
def flatTs {n : Nat} (k : Nat) (l : List (TT n)) : Prop := ∀ t ∈ l, t.height ≤ k
def MBlock.flat {n : Nat} (k : Nat) (x : MBlock n) : Prop := flatTs k x.params
def MFunc.flat {n : Nat} (k : Nat) (x : MFunc n) : Prop := flatTs k x.params ∧ flatTs k x.results ∧ ∀ y ∈ x.blocks, y.flat k
theorem Lay.list_map {α β : Type} {A : Lay α} {B : Lay β} {f : α → β} {w : World} {O : Nat → Prop} {l : List α} {cs : List Value} (hs : A.size = B.size) (hf : ∀ x ∈ l, ∀ ds, A.In w O x ds → B.In w O (f x) ds) (h : A.list.In w O l cs) : B.list.In w O (l.map f) cs := by
  obtain ⟨a,c,e,h⟩:=h;refine ⟨a,c,by rw [e,List.length_map],fun i x hx=>?_⟩;rw [List.getElem?_map,Option.map_eq_some_iff] at hx;obtain ⟨y,hy,rfl⟩:=hx;obtain ⟨g,o,ds,h1,h2,h3,h4,h5⟩:=h i y hy;exact ⟨g,o,ds,h1,h2,h3,by rw [← hs];exact h4,hf y (List.mem_of_getElem? hy) ds h5⟩
section
variable {w : World} {O : Nat → Prop} {n : Nat} {cs : List Value}
theorem types_at {k : Nat} {l : List (TT n)} (hk : flatTs k l) (h : (typesL n).In w O l cs) : (typesL (k + 1)).In w O (l.map (TT.at k)) cs :=
  Lay.list_map (A:=Lay.tt n) (B:=Lay.tt (k+1)) rfl (fun x hx ds ⟨a,c,e,h1,h2⟩=>⟨a,c,by rw [e,TT.at_kind,TT.at_r,TT.at_len k x (hk x hx)],h1.at k (hk x hx),TT.at_ok k h2⟩) h
theorem block_at6 {k : Nat} {x : MBlock n} (hk : x.flat k) (h : (blockL n).In w O x cs) : (blockL (k + 1)).In w O (x.at k) cs := by
  obtain ⟨c0,_,rfl,h0,⟨c1,_,rfl,h1,h2⟩⟩:=h;exact ⟨c0,_,rfl,h0,⟨c1,_,rfl,types_at hk h1,h2⟩⟩
theorem func_at6 {k : Nat} {x : MFunc n} (hk : x.flat k) (h : (funcL n).In w O x cs) : (funcL (k + 1)).In w O (x.at k) cs := by
  obtain ⟨c0,_,rfl,h0,⟨c1,_,rfl,h1,⟨c2,_,rfl,h2,h3⟩⟩⟩:=h;exact ⟨c0,_,rfl,h0,⟨c1,_,rfl,types_at hk.1 h1,⟨c2,_,rfl,types_at hk.2.1 h2,Lay.list_map (A:=blockL n) (B:=blockL (k+1)) rfl (fun y hy ds=>block_at6 (hk.2.2 y hy)) h3⟩⟩⟩
theorem mod_at {k : Nat} {m : List (MFunc n)} (hk : ∀ x ∈ m, x.flat k) (h : (modL n).In w O m cs) : (modL (k + 1)).In w O (m.map (MFunc.at k)) cs :=
  Lay.list_map (A:=funcL n) (B:=funcL (k+1)) rfl (fun y hy ds=>func_at6 (hk y hy)) h
theorem flat_of {m : List (MFunc n)} (h : (modFault m).1 = 0) : ∀ x ∈ m, x.flat 5 := by
  have hts:∀ {l:List (TT n)},tsOk l→flatTs 5 l:=fun h t ht=>by
    obtain ⟨r,_,hc⟩:=h.2 t ht
    have:=(check_fault hc).1
    omega
  intro x hx;have hf:=mod_of h x hx;exact ⟨hts hf.params,hts hf.results,fun y hy=>hts (hf.blocks y hy).params⟩
end
end Go.Proofs.YtjdcjfpfpaplladGreat
namespace Go.Proofs.YtjdcjfpfpaplladGreat
open Go.ChangeShapes Go.WideShapes Go.ChangeAt Go.RowKit
set_option linter.unusedSimpArgs false
set_option linter.unusedVariables false
theorem sameBlock_any {n : Nat} {x y : MBlock n} {b d : BP} {w : World} (hx0 : BIn w All x b) (hy0 : BIn w All y d) (hs0 : x.small) :
    Rd Tryz.prog 35 #[.agg #[.int .i64 x.regs,.slice b.pP x.params.length b.cP,.slice b.pC x.code.length b.cC,.int .i64 x.fin.op,.int .i64 x.fin.a,.int .i64 x.fin.yes.block,.slice b.e.pYR x.fin.yes.regs.length b.e.cYR,.slice b.e.pYA x.fin.yes.args.length b.e.cYA,.int .i64 x.fin.no.block,.slice b.e.pNR x.fin.no.regs.length b.e.cNR,.slice b.e.pNA x.fin.no.args.length b.e.cNA,.slice b.e.pA x.fin.args.length b.e.cA],.agg #[.int .i64 y.regs,.slice d.pP y.params.length d.cP,.slice d.pC y.code.length d.cC,.int .i64 y.fin.op,.int .i64 y.fin.a,.int .i64 y.fin.yes.block,.slice d.e.pYR y.fin.yes.regs.length d.e.cYR,.slice d.e.pYA y.fin.yes.args.length d.e.cYA,.int .i64 y.fin.no.block,.slice d.e.pNR y.fin.no.regs.length d.e.cNR,.slice d.e.pNA y.fin.no.args.length d.e.cNA,.slice d.e.pA y.fin.args.length d.e.cA]] w (.bool (bdec (x=y))):=by
  have hcl:=hs0.1;have hx:Hid _:=hx0;have hy:Hid _:=hy0;have hs:Hid _:=hs0;clear hx0 hy0 hs0;refine fr_enter (n:=90) Tryz.func35 rfl rfl rfl ?_;intro a hF;have hW:=Wd.start w;replace hF:Fr 90 a [(0,.agg #[.int .i64 x.regs,.slice b.pP x.params.length b.cP,.slice b.pC x.code.length b.cC,.int .i64 x.fin.op,.int .i64 x.fin.a,.int .i64 x.fin.yes.block,.slice b.e.pYR x.fin.yes.regs.length b.e.cYR,.slice b.e.pYA x.fin.yes.args.length b.e.cYA,.int .i64 x.fin.no.block,.slice b.e.pNR x.fin.no.regs.length b.e.cNR,.slice b.e.pNA x.fin.no.args.length b.e.cNA,.slice b.e.pA x.fin.args.length b.e.cA]),(1,.agg #[.int .i64 y.regs,.slice d.pP y.params.length d.cP,.slice d.pC y.code.length d.cC,.int .i64 y.fin.op,.int .i64 y.fin.a,.int .i64 y.fin.yes.block,.slice d.e.pYR y.fin.yes.regs.length d.e.cYR,.slice d.e.pYA y.fin.yes.args.length d.e.cYA,.int .i64 y.fin.no.block,.slice d.e.pNR y.fin.no.regs.length d.e.cNR,.slice d.e.pNA y.fin.no.args.length d.e.cNA,.slice d.e.pA y.fin.args.length d.e.cA])]:=hF;refine wp_seq_k fun K1 hK1=>?_;refine rg hF fun ops=>?_;clear hF a;refine sB hW trivial rfl rfl ?_;clear hW;intro w2 B2 hW2 hN;clear hN;refine sB hW2 trivial rfl rfl ?_;clear hW2;intro w3 B3 hW3 hN;clear hN;refine sa trivial rfl rfl ?_;refine St.nil fun a4 h4=>?_;refine hK1 _ _ ?_;refine wp_seq_k fun K5 hK5=>?_;refine wp_seq_k fun K6 hK6=>?_;refine fr_region ?_;intro ops hops;have hg5:(ops[5]?).bind (fun o:Oper=>o.dst)=some 11:=hops 5;have hg13:(ops[13]?).bind (fun o:Oper=>o.dst)=some 19:=hops 13;clear hops;refine St.go h4 ?_;clear h4 a4;refine sfBlock0 trivial rfl rfl ?_;refine sbInt 1 hW3 trivial rfl rfl rfl rfl ?_;refine sfBlock0 trivial rfl rfl ?_;refine sbInt 0 hW3 trivial rfl rfl rfl rfl ?_;refine sne trivial rfl rfl rfl ?_;refine sm trivial rfl rfl ?_;intro a7 h7;rcases Bool.eq_false_or_eq_true (x.regs != y.regs) with hb | hb
  ·rw [hb] at h7
   have h9:¬ x.regs=y.regs:=bne_iff_ne.1 hb;have hc8:¬ x.regs=y.regs:=h9;clear h9;clear hb;refine St.go h7 ?_;clear h7 a7;refine so hg5 rfl rfl rfl rfl ?_;refine so hg5 rfl rfl rfl rfl ?_;refine so hg5 rfl rfl rfl rfl ?_;refine so hg5 rfl rfl rfl rfl ?_;refine so hg5 rfl rfl rfl rfl ?_;refine so hg5 rfl rfl rfl rfl ?_;refine sp trivial rfl rfl rfl ?_;refine sm trivial rfl rfl ?_;refine so hg13 rfl rfl rfl rfl ?_;refine so hg13 rfl rfl rfl rfl ?_;refine so hg13 rfl rfl rfl rfl ?_;refine so hg13 rfl rfl rfl rfl ?_;refine so hg13 rfl rfl rfl rfl ?_;refine so hg13 rfl rfl rfl rfl ?_;refine so hg13 rfl rfl rfl rfl ?_;refine sp trivial rfl rfl rfl ?_;refine St.nil fun a9 h9=>?_;refine hK6 _ _ ?_;refine fr_true (t:=27) h9 rfl ?_;refine wp_seq_k fun K10 hK10=>?_;refine rg h9 fun ops=>?_;clear h9 a9;refine sa trivial rfl rfl ?_;refine St.nil fun a11 h11=>?_;refine hK10 _ _ ?_;refine wp_ret ?_;with_reducible repeat first | refine of_then_ret ?_ | refine of_block_ret ?_
   have R:¬ x=y:=fun e=>hc8 (by rw [e]);exact ret_tmp (t:=4) h11 rfl rfl ⟨by rw [bdec_false R],hW3.bel⟩
  rw [hb] at h7;have h9:x.regs=y.regs:=bne_eq_false_iff_eq.1 hb;have hc12:Hid (x.regs=y.regs):=h9;clear h9;clear hb;refine St.go h7 ?_;clear h7 a7;refine sfBlock1 ⟨_,hg5,rfl,rfl⟩ rfl rfl ?_;refine sbTypes 1 hW3 ⟨_,hg5,rfl,rfl⟩ rfl rfl rfl rfl ?_;refine sfBlock1 ⟨_,hg5,rfl,rfl⟩ rfl rfl ?_;refine sbTypes 0 hW3 ⟨_,hg5,rfl,rfl⟩ rfl rfl rfl rfl ?_;refine sc_2 cf34 hW3 (sameTypes_any (Lay.below hx.out.params hW3.bel) (Lay.below hy.out.params hW3.bel) hs.out.2.1) ⟨_,hg5,rfl,rfl⟩ rfl rfl rfl ?_;clear hW3;intro w13 hW13;refine sn ⟨_,hg5,rfl,rfl⟩ rfl rfl ?_;refine spf trivial rfl rfl rfl ?_;refine sm trivial rfl rfl ?_;intro a14 h14;rcases Bool.eq_false_or_eq_true (!(bdec (x.params=y.params))) with hb | hb
  ·rw [hb] at h14
   have hb:(bdec (x.params=y.params))=false:=by simpa using hb
   have hc15:¬ (x.params=y.params):=fun h=>by rw [bdec_true h] at hb;cases hb
   clear hb;refine St.go h14 ?_;clear h14 a14;refine so hg13 rfl rfl rfl rfl ?_;refine so hg13 rfl rfl rfl rfl ?_;refine so hg13 rfl rfl rfl rfl ?_;refine so hg13 rfl rfl rfl rfl ?_;refine so hg13 rfl rfl rfl rfl ?_;refine so hg13 rfl rfl rfl rfl ?_;refine so hg13 rfl rfl rfl rfl ?_;refine sp trivial rfl rfl rfl ?_;refine St.nil fun a16 h16=>?_;refine hK6 _ _ ?_;refine fr_true (t:=27) h16 rfl ?_;refine wp_seq_k fun K17 hK17=>?_;refine rg h16 fun ops=>?_;clear h16 a16;refine sa trivial rfl rfl ?_;refine St.nil fun a18 h18=>?_;refine hK17 _ _ ?_;refine wp_ret ?_;with_reducible repeat first | refine of_then_ret ?_ | refine of_block_ret ?_
   have R:¬ x=y:=fun e=>hc15 (by rw [e]);exact ret_tmp (t:=4) h18 rfl rfl ⟨by rw [bdec_false R],hW13.bel⟩
  rw [hb] at h14;have hb:(bdec (x.params=y.params))=true:=by simpa using hb
  have hc19:(x.params=y.params):=bdec_iff.1 hb;clear hb;refine St.go h14 ?_;clear h14 a14;refine sfBlock2 ⟨_,hg13,rfl,rfl⟩ rfl rfl ?_;refine sbInss 1 hW13 ⟨_,hg13,rfl,rfl⟩ rfl rfl rfl rfl ?_;refine slInss ⟨_,hg13,rfl,rfl⟩ rfl rfl ?_;refine sfBlock2 ⟨_,hg13,rfl,rfl⟩ rfl rfl ?_;refine sbInss 0 hW13 ⟨_,hg13,rfl,rfl⟩ rfl rfl rfl rfl ?_;refine slInss ⟨_,hg13,rfl,rfl⟩ rfl rfl ?_;refine sne ⟨_,hg13,rfl,rfl⟩ rfl rfl rfl ?_;refine spf trivial rfl rfl rfl ?_;refine St.nil fun a20 h20=>?_;refine hK6 _ _ ?_;refine fr_cond (t:=27) h20 rfl (fun hb=>?_) (fun hb=>?_)
  ·have h9:¬ x.code.length=y.code.length:=by have h8:=bne_iff_ne.1 hb;omega
   have hlen:¬ x.code.length=y.code.length:=h9;clear h9;clear hb;refine wp_seq_k fun K21 hK21=>?_;refine rg h20 fun ops=>?_;clear h20 a20;refine sa trivial rfl rfl ?_;refine St.nil fun a22 h22=>?_;refine hK21 _ _ ?_;refine wp_ret ?_;with_reducible repeat first | refine of_then_ret ?_ | refine of_block_ret ?_
   have R:¬ x=y:=fun e=>hlen (by rw [e]);exact ret_tmp (t:=4) h22 rfl rfl ⟨by rw [bdec_false R],hW13.bel⟩
  have h9:x.code.length=y.code.length:=by have h8:=bne_eq_false_iff_eq.1 hb;omega
  have hlen:Hid (x.code.length=y.code.length):=h9;clear h9;clear hb;refine wp_skip ?_;refine hK5 _ _ ?_;refine wp_seq_k fun K23 hK23=>?_;refine wp_seq_k fun K24 hK24=>?_;refine rg h20 fun ops=>?_;clear h20 a20;refine sa trivial rfl rfl ?_;refine St.nil fun a25 h25=>?_;refine hK24 _ _ ?_;refine wp_block ?_;refine fr_loop (fun r a w'=>∃ q:Nat,q≤x.code.length∧r=x.code.length - q∧(∀ j,j<q→x.code[j]?=y.code[j]?)∧Fr 90 a [(1,.agg #[.int .i64 y.regs,.slice d.pP y.params.length d.cP,.slice d.pC y.code.length d.cC,.int .i64 y.fin.op,.int .i64 y.fin.a,.int .i64 y.fin.yes.block,.slice d.e.pYR y.fin.yes.regs.length d.e.cYR,.slice d.e.pYA y.fin.yes.args.length d.e.cYA,.int .i64 y.fin.no.block,.slice d.e.pNR y.fin.no.regs.length d.e.cNR,.slice d.e.pNA y.fin.no.args.length d.e.cNA,.slice d.e.pA y.fin.args.length d.e.cA]),(0,.agg #[.int .i64 x.regs,.slice b.pP x.params.length b.cP,.slice b.pC x.code.length b.cC,.int .i64 x.fin.op,.int .i64 x.fin.a,.int .i64 x.fin.yes.block,.slice b.e.pYR x.fin.yes.regs.length b.e.cYR,.slice b.e.pYA x.fin.yes.args.length b.e.cYA,.int .i64 x.fin.no.block,.slice b.e.pNR x.fin.no.regs.length b.e.cNR,.slice b.e.pNA x.fin.no.args.length b.e.cNA,.slice b.e.pA x.fin.args.length b.e.cA]),(2,.pointer (some ⟨B2,0,none⟩)),(3,.pointer (some ⟨B3,0,none⟩)),(4,.bool false),(5,.int .i64 (q:Int))]∧Wd w w' [(B3,#[.int .i64 y.regs,.slice d.pP y.params.length d.cP,.slice d.pC y.code.length d.cC,.int .i64 y.fin.op,.int .i64 y.fin.a,.int .i64 y.fin.yes.block,.slice d.e.pYR y.fin.yes.regs.length d.e.cYR,.slice d.e.pYA y.fin.yes.args.length d.e.cYA,.int .i64 y.fin.no.block,.slice d.e.pNR y.fin.no.regs.length d.e.cNR,.slice d.e.pNA y.fin.no.args.length d.e.cNA,.slice d.e.pA y.fin.args.length d.e.cA],55),(B2,#[.int .i64 x.regs,.slice b.pP x.params.length b.cP,.slice b.pC x.code.length b.cC,.int .i64 x.fin.op,.int .i64 x.fin.a,.int .i64 x.fin.yes.block,.slice b.e.pYR x.fin.yes.regs.length b.e.cYR,.slice b.e.pYA x.fin.yes.args.length b.e.cYA,.int .i64 x.fin.no.block,.slice b.e.pNR x.fin.no.regs.length b.e.cNR,.slice b.e.pNA x.fin.no.args.length b.e.cNA,.slice b.e.pA x.fin.args.length b.e.cA],55)]) (x.code.length) ⟨0,Nat.zero_le _,rfl,(fun j hj=>by omega),(h25.keep (h25.keep (h25.keep (h25.keep (h25.keep (h25.keep h25.nil (t:=5) rfl) (t:=4) rfl) (t:=3) rfl) (t:=2) rfl) (t:=0) rfl) (t:=1) rfl),hW13⟩ ?_;clear h25 hW13;rintro r a26 w26 ⟨q,hq,hr,hall,hF26,hW26⟩ KL hKL;refine wp_seq_k fun K27 hK27=>?_;refine wp_seq_k fun K28 hK28=>?_;refine rg hF26 fun ops=>?_;clear hF26 a26;refine sm trivial rfl rfl ?_;refine sfBlock2 trivial rfl rfl ?_;refine sbInss 1 hW26 trivial rfl rfl rfl rfl ?_;refine slInss trivial rfl rfl ?_;refine slt trivial rfl rfl rfl ?_;refine St.nil fun a29 h29=>?_;refine hK28 _ _ ?_;refine fr_cond (t:=32) h29 rfl (fun hb=>?_) (fun hb=>?_)
  ·have hlt1:q<x.code.length:=by have:=of_decide_eq_true hb;omega
   have hlt2:q<y.code.length:=by have:=hlen.out;omega
   clear hb;obtain ⟨z,hx1⟩:∃ v9,(x.code)[q]?=some v9:=⟨_,List.getElem?_eq_getElem hlt1⟩;obtain ⟨g1,o1,i1,hp1,E1,In1⟩:=ins_at hx.out.code hx1;replace In1:Hid _:=In1;replace hp1:Hid _:=hp1;replace hx1:Hid _:=hx1;replace E1:Hid _:=E1;obtain ⟨u,hx2⟩:∃ v9,(y.code)[q]?=some v9:=⟨_,List.getElem?_eq_getElem hlt2⟩;obtain ⟨g2,o2,i2,hp2,E2,In2⟩:=ins_at hy.out.code hx2;replace In2:Hid _:=In2;replace hp2:Hid _:=hp2;replace hx2:Hid _:=hx2;replace E2:Hid _:=E2;refine wp_skip ?_;refine hK27 _ _ ?_;refine wp_seq_k fun K30 hK30=>?_;refine wp_block ?_;refine wp_seq_k fun K31 hK31=>?_;have hF32:Fr 90 a29 [(1,.agg #[.int .i64 y.regs,.slice d.pP y.params.length d.cP,.slice d.pC y.code.length d.cC,.int .i64 y.fin.op,.int .i64 y.fin.a,.int .i64 y.fin.yes.block,.slice d.e.pYR y.fin.yes.regs.length d.e.cYR,.slice d.e.pYA y.fin.yes.args.length d.e.cYA,.int .i64 y.fin.no.block,.slice d.e.pNR y.fin.no.regs.length d.e.cNR,.slice d.e.pNA y.fin.no.args.length d.e.cNA,.slice d.e.pA y.fin.args.length d.e.cA]),(0,.agg #[.int .i64 x.regs,.slice b.pP x.params.length b.cP,.slice b.pC x.code.length b.cC,.int .i64 x.fin.op,.int .i64 x.fin.a,.int .i64 x.fin.yes.block,.slice b.e.pYR x.fin.yes.regs.length b.e.cYR,.slice b.e.pYA x.fin.yes.args.length b.e.cYA,.int .i64 x.fin.no.block,.slice b.e.pNR x.fin.no.regs.length b.e.cNR,.slice b.e.pNA x.fin.no.args.length b.e.cNA,.slice b.e.pA x.fin.args.length b.e.cA]),(2,.pointer (some ⟨B2,0,none⟩)),(3,.pointer (some ⟨B3,0,none⟩)),(4,.bool false),(5,.int .i64 (q:Int))]:=(h29.keep (h29.keep (h29.keep (h29.keep (h29.keep (h29.keep h29.nil (t:=5) rfl) (t:=4) rfl) (t:=3) rfl) (t:=2) rfl) (t:=0) rfl) (t:=1) rfl);have ho2:a29.tmps.getD 2 undef=.pointer (some ⟨B2,0,none⟩):=h29.sl 2 _ rfl;have ho5:a29.tmps.getD 5 undef=.int .i64 (q:Int):=h29.sl 5 _ rfl;have ho3:a29.tmps.getD 3 undef=.pointer (some ⟨B3,0,none⟩):=h29.sl 3 _ rfl;refine fr_draw_k 12 ([(2,fun v _=>v=.pointer (some ⟨B2,0,none⟩)),(5,fun v _=>v=.int .i64 (q:Int)),(3,fun v _=>v=.pointer (some ⟨B3,0,none⟩)),(35,fun v _=>v=.pointer (some ⟨B2,2,none⟩)),(36,fun v _=>v=.slice b.pC x.code.length b.cC),(37,fun v _=>v=.int .i64 (q:Int)),(38,fun v _=>v=.pointer (some ⟨g1,o1+q*8,none⟩)),(39,fun v _=>v=.agg #[.int .i64 z.op,.int .i64 z.a,.int .i64 z.b,.int .i64 z.c,.int .i64 z.k,.int .i64 z.n,.slice i1.pR z.regs.length i1.cR,.slice i1.pA z.args.length i1.cA]),(40,fun v _=>v=.pointer (some ⟨B3,2,none⟩)),(41,fun v _=>v=.slice d.pC y.code.length d.cC),(42,fun v _=>v=.int .i64 (q:Int)),(43,fun v _=>v=.pointer (some ⟨g2,o2+q*8,none⟩)),(44,fun v _=>v=.agg #[.int .i64 u.op,.int .i64 u.a,.int .i64 u.b,.int .i64 u.c,.int .i64 u.k,.int .i64 u.n,.slice i2.pR u.regs.length i2.cR,.slice i2.pA u.args.length i2.cA]),(45,fun v _=>v=.bool (bdec (z=u))),(46,fun v _=>v=.bool (!(bdec (z=u))))]:PTab) (fun w'=>Wd w w' [(B3,#[.int .i64 y.regs,.slice d.pP y.params.length d.cP,.slice d.pC y.code.length d.cC,.int .i64 y.fin.op,.int .i64 y.fin.a,.int .i64 y.fin.yes.block,.slice d.e.pYR y.fin.yes.regs.length d.e.cYR,.slice d.e.pYA y.fin.yes.args.length d.e.cYA,.int .i64 y.fin.no.block,.slice d.e.pNR y.fin.no.regs.length d.e.cNR,.slice d.e.pNA y.fin.no.args.length d.e.cNA,.slice d.e.pA y.fin.args.length d.e.cA],55),(B2,#[.int .i64 x.regs,.slice b.pP x.params.length b.cP,.slice b.pC x.code.length b.cC,.int .i64 x.fin.op,.int .i64 x.fin.a,.int .i64 x.fin.yes.block,.slice b.e.pYR x.fin.yes.regs.length b.e.cYR,.slice b.e.pYA x.fin.yes.args.length b.e.cYA,.int .i64 x.fin.no.block,.slice b.e.pNR x.fin.no.regs.length b.e.cNR,.slice b.e.pNA x.fin.no.args.length b.e.cNA,.slice b.e.pA x.fin.args.length b.e.cA],55)]∧Below w26.heap.size w26 w') (fun w w'=>Below w.heap.size w w') (outs:=[2,5,3]) (gs:=[]) (bs:=[true,true,true,true,true,true,true,true,true,true,true,true]) (by kernel_rfl) hF32 rfl (by kernel_rfl) (by kernel_rfl) ?hR ?hG ⟨hW26.drewN 1,drewN_below (m:=1) (Below.refl _ _)⟩ ⟨ho2,ho5,ho3,trivial⟩ ?hA ?hend
   case hR=>exact ⟨fun _ _ _ _ h=>h,fun _ _ _ _ h=>h,fun _ _ _ _ h=>h,fun _ _ _ _ h=>h,fun _ _ _ _ h=>h,fun _ _ _ _ h=>h,fun _ _ _ _ h=>h,fun _ _ _ _ h=>h,fun _ _ _ _ h=>h,fun _ _ _ _ h=>h,fun _ _ _ _ h=>h,fun _ _ _ _ h=>h,fun _ _ _ _ h=>h,fun _ _ _ _ h=>h,fun _ _ _ _ h=>h,trivial⟩
   case hG=>exact trivial
   case hA =>
    refine ⟨fun a w hW hk K hK=>?_,?_⟩
    · obtain ⟨k0,-⟩:=hk;have k0:a.tmps.getD 2 undef=.pointer (some ⟨B2,0,none⟩):=k0;go_simp;exact hK _ _ (Below.refl _ _) hW rfl
    refine ⟨fun a w hW hk K hK=>?_,?_⟩
    · obtain ⟨k0,-⟩:=hk;have k0:a.tmps.getD 35 undef=.pointer (some ⟨B2,2,none⟩):=k0;have c2:w.cell? ⟨B2,2,none⟩=some (.slice b.pC x.code.length b.cC):=cellOf (hW.1.get 1 rfl) 2 _ rfl;go_simp;exact hK _ _ (Below.refl _ _) hW rfl
    refine ⟨fun a w hW hk K hK=>?_,?_⟩
    · obtain ⟨k0,-⟩:=hk;have k0:a.tmps.getD 5 undef=.int .i64 (q:Int):=k0;go_simp;exact hK _ _ (Below.refl _ _) hW rfl
    refine ⟨fun a w hW hk K hK=>?_,?_⟩
    · obtain ⟨k0,k1,-⟩:=hk;have k0:a.tmps.getD 36 undef=.slice b.pC x.code.length b.cC:=k0;have k1:a.tmps.getD 37 undef=.int .i64 (q:Int):=k1;have hpq:=hp1.out;have hk0:(0:Int)≤q:=by omega
      have hk1:(q:Int)<(x.code.length:Int):=by omega
      go_simp;exact hK _ _ (Below.refl _ _) hW rfl
    refine ⟨fun a w hW hk K hK=>?_,?_⟩
    · obtain ⟨k0,-⟩:=hk;have k0:a.tmps.getD 38 undef=.pointer (some ⟨g1,o1+q*8,none⟩):=k0;have d0:w.cell? ⟨g1,o1+q*8,none⟩=some (.int .i64 z.op):=bel_cell hW.1.bel (E1.out 0 _ rfl);have d1:w.cell? ⟨g1,o1+q*8+1,none⟩=some (.int .i64 z.a):=bel_cell hW.1.bel (E1.out 1 _ rfl);have d2:w.cell? ⟨g1,o1+q*8+2,none⟩=some (.int .i64 z.b):=bel_cell hW.1.bel (E1.out 2 _ rfl);have d3:w.cell? ⟨g1,o1+q*8+3,none⟩=some (.int .i64 z.c):=bel_cell hW.1.bel (E1.out 3 _ rfl);have d4:w.cell? ⟨g1,o1+q*8+4,none⟩=some (.int .i64 z.k):=bel_cell hW.1.bel (E1.out 4 _ rfl);have d5:w.cell? ⟨g1,o1+q*8+5,none⟩=some (.int .i64 z.n):=bel_cell hW.1.bel (E1.out 5 _ rfl);have d6:w.cell? ⟨g1,o1+q*8+6,none⟩=some (.slice i1.pR z.regs.length i1.cR):=bel_cell hW.1.bel (E1.out 6 _ rfl);have d7:w.cell? ⟨g1,o1+q*8+7,none⟩=some (.slice i1.pA z.args.length i1.cA):=bel_cell hW.1.bel (E1.out 7 _ rfl);go_simp;exact hK _ _ (Below.refl _ _) hW rfl
    refine ⟨fun a w hW hk K hK=>?_,?_⟩
    · obtain ⟨k0,-⟩:=hk;have k0:a.tmps.getD 3 undef=.pointer (some ⟨B3,0,none⟩):=k0;go_simp;exact hK _ _ (Below.refl _ _) hW rfl
    refine ⟨fun a w hW hk K hK=>?_,?_⟩
    · obtain ⟨k0,-⟩:=hk;have k0:a.tmps.getD 40 undef=.pointer (some ⟨B3,2,none⟩):=k0;have c2:w.cell? ⟨B3,2,none⟩=some (.slice d.pC y.code.length d.cC):=cellOf (hW.1.get 0 rfl) 2 _ rfl;go_simp;exact hK _ _ (Below.refl _ _) hW rfl
    refine ⟨fun a w hW hk K hK=>?_,?_⟩
    · obtain ⟨k0,-⟩:=hk;have k0:a.tmps.getD 5 undef=.int .i64 (q:Int):=k0;go_simp;exact hK _ _ (Below.refl _ _) hW rfl
    refine ⟨fun a w hW hk K hK=>?_,?_⟩
    · obtain ⟨k0,k1,-⟩:=hk;have k0:a.tmps.getD 41 undef=.slice d.pC y.code.length d.cC:=k0;have k1:a.tmps.getD 42 undef=.int .i64 (q:Int):=k1;have hpq:=hp2.out;have hk0:(0:Int)≤q:=by omega
      have hk1:(q:Int)<(y.code.length:Int):=by omega
      go_simp;exact hK _ _ (Below.refl _ _) hW rfl
    refine ⟨fun a w hW hk K hK=>?_,?_⟩
    · obtain ⟨k0,-⟩:=hk;have k0:a.tmps.getD 43 undef=.pointer (some ⟨g2,o2+q*8,none⟩):=k0;have d0:w.cell? ⟨g2,o2+q*8,none⟩=some (.int .i64 u.op):=bel_cell hW.1.bel (E2.out 0 _ rfl);have d1:w.cell? ⟨g2,o2+q*8+1,none⟩=some (.int .i64 u.a):=bel_cell hW.1.bel (E2.out 1 _ rfl);have d2:w.cell? ⟨g2,o2+q*8+2,none⟩=some (.int .i64 u.b):=bel_cell hW.1.bel (E2.out 2 _ rfl);have d3:w.cell? ⟨g2,o2+q*8+3,none⟩=some (.int .i64 u.c):=bel_cell hW.1.bel (E2.out 3 _ rfl);have d4:w.cell? ⟨g2,o2+q*8+4,none⟩=some (.int .i64 u.k):=bel_cell hW.1.bel (E2.out 4 _ rfl);have d5:w.cell? ⟨g2,o2+q*8+5,none⟩=some (.int .i64 u.n):=bel_cell hW.1.bel (E2.out 5 _ rfl);have d6:w.cell? ⟨g2,o2+q*8+6,none⟩=some (.slice i2.pR u.regs.length i2.cR):=bel_cell hW.1.bel (E2.out 6 _ rfl);have d7:w.cell? ⟨g2,o2+q*8+7,none⟩=some (.slice i2.pA u.args.length i2.cA):=bel_cell hW.1.bel (E2.out 7 _ rfl);go_simp;exact hK _ _ (Below.refl _ _) hW rfl
    refine ⟨fun a w hW hk K hK=>?_,?_⟩
    · obtain ⟨k0,k1,-⟩:=hk;have k0:a.tmps.getD 39 undef=.agg #[.int .i64 z.op,.int .i64 z.a,.int .i64 z.b,.int .i64 z.c,.int .i64 z.k,.int .i64 z.n,.slice i1.pR z.regs.length i1.cR,.slice i1.pA z.args.length i1.cA]:=k0;have k1:a.tmps.getD 44 undef=.agg #[.int .i64 u.op,.int .i64 u.a,.int .i64 u.b,.int .i64 u.c,.int .i64 u.k,.int .i64 u.n,.slice i2.pR u.regs.length i2.cR,.slice i2.pA u.args.length i2.cA]:=k1;have hC:Rd Tryz.prog 58 #[.agg #[.int .i64 z.op,.int .i64 z.a,.int .i64 z.b,.int .i64 z.c,.int .i64 z.k,.int .i64 z.n,.slice i1.pR z.regs.length i1.cR,.slice i1.pA z.args.length i1.cA],.agg #[.int .i64 u.op,.int .i64 u.a,.int .i64 u.b,.int .i64 u.c,.int .i64 u.k,.int .i64 u.n,.slice i2.pR u.regs.length i2.cR,.slice i2.pA u.args.length i2.cA]] w (.bool (bdec (z=u))):=sameIns_any (In1.out.below hW.1.bel) (In2.out.below hW.1.bel) (hs.out.2.2.2 _ (List.mem_of_getElem? hx1.out));go_simp;refine hC.mono ?_;rintro e w9 ⟨rfl,hb⟩;exact hK _ _ hb ⟨hW.1.below hb,Below.andThen hW.2 hb⟩ rfl
    refine ⟨fun a w hW hk K hK=>?_,?_⟩
    · obtain ⟨k0,-⟩:=hk;have k0:a.tmps.getD 45 undef=.bool (bdec (z=u)):=k0;go_simp;exact hK _ _ (Below.refl _ _) hW rfl
    trivial
   case hend =>
    intro ops a33 w33 hWD hE hFD;have hd46:a33.tmps.getD 46 undef=.bool (!(bdec (z=u))):=hE 46 rfl;have hF33:Fr 90 a33 [(46,.bool (!(bdec (z=u)))),(1,.agg #[.int .i64 y.regs,.slice d.pP y.params.length d.cP,.slice d.pC y.code.length d.cC,.int .i64 y.fin.op,.int .i64 y.fin.a,.int .i64 y.fin.yes.block,.slice d.e.pYR y.fin.yes.regs.length d.e.cYR,.slice d.e.pYA y.fin.yes.args.length d.e.cYA,.int .i64 y.fin.no.block,.slice d.e.pNR y.fin.no.regs.length d.e.cNR,.slice d.e.pNA y.fin.no.args.length d.e.cNA,.slice d.e.pA y.fin.args.length d.e.cA]),(0,.agg #[.int .i64 x.regs,.slice b.pP x.params.length b.cP,.slice b.pC x.code.length b.cC,.int .i64 x.fin.op,.int .i64 x.fin.a,.int .i64 x.fin.yes.block,.slice b.e.pYR x.fin.yes.regs.length b.e.cYR,.slice b.e.pYA x.fin.yes.args.length b.e.cYA,.int .i64 x.fin.no.block,.slice b.e.pNR x.fin.no.regs.length b.e.cNR,.slice b.e.pNA x.fin.no.args.length b.e.cNA,.slice b.e.pA x.fin.args.length b.e.cA]),(2,.pointer (some ⟨B2,0,none⟩)),(3,.pointer (some ⟨B3,0,none⟩)),(4,.bool false),(5,.int .i64 (q:Int))]:=(hFD.cons hd46);clear hd46;have hW33:Wd w w33 [(B3,#[.int .i64 y.regs,.slice d.pP y.params.length d.cP,.slice d.pC y.code.length d.cC,.int .i64 y.fin.op,.int .i64 y.fin.a,.int .i64 y.fin.yes.block,.slice d.e.pYR y.fin.yes.regs.length d.e.cYR,.slice d.e.pYA y.fin.yes.args.length d.e.cYA,.int .i64 y.fin.no.block,.slice d.e.pNR y.fin.no.regs.length d.e.cNR,.slice d.e.pNA y.fin.no.args.length d.e.cNA,.slice d.e.pA y.fin.args.length d.e.cA],55),(B2,#[.int .i64 x.regs,.slice b.pP x.params.length b.cP,.slice b.pC x.code.length b.cC,.int .i64 x.fin.op,.int .i64 x.fin.a,.int .i64 x.fin.yes.block,.slice b.e.pYR x.fin.yes.regs.length b.e.cYR,.slice b.e.pYA x.fin.yes.args.length b.e.cYA,.int .i64 x.fin.no.block,.slice b.e.pNR x.fin.no.regs.length b.e.cNR,.slice b.e.pNA x.fin.no.args.length b.e.cNA,.slice b.e.pA x.fin.args.length b.e.cA],55)]:=hWD.1;clear hFD hWD hE hF32 h29;clear hW26;refine wpList_nil ?_;refine hK31 _ _ ?_;refine fr_cond (t:=46) hF33 rfl (fun hb=>?_) (fun hb=>?_)
    ·have hb:(bdec (z=u))=false:=by simpa using hb
     have hel:¬ (z=u):=fun h=>by rw [bdec_true h] at hb;cases hb
     clear hb;refine wp_seq_k fun K34 hK34=>?_;refine rg hF33 fun ops=>?_;clear hF33 a33;refine sa trivial rfl rfl ?_;refine St.nil fun a35 h35=>?_;refine hK34 _ _ ?_;refine wp_ret ?_;with_reducible repeat first | refine of_then_ret ?_ | refine of_block_ret ?_
     have R:¬ x=y:=by
       intro e;have h1:=hx1.out;rw [e,hx2.out] at h1;exact hel (Option.some.inj h1).symm
     exact ret_tmp (t:=4) h35 rfl rfl ⟨by rw [bdec_false R],hW33.bel⟩
    have hb:(bdec (z=u))=true:=by simpa using hb
    have hel:(z=u):=bdec_iff.1 hb;clear hb;refine wp_skip ?_;refine hK30 _ _ ?_;refine rg hF33 fun ops=>?_;clear hF33 a33;refine sm trivial rfl rfl ?_;refine sad (by omega) trivial rfl rfl rfl ?_;refine sa trivial rfl rfl ?_;refine St.nil fun a36 h36=>?_;refine hKL _ _ (x.code.length - (q+1)) (by omega) ⟨q+1,by omega,rfl,?_,(h36.keep (h36.keep (h36.keep (h36.keep (h36.keep (h36.keep h36.nil (t:=5) rfl) (t:=4) rfl) (t:=3) rfl) (t:=2) rfl) (t:=0) rfl) (t:=1) rfl),hW33⟩
    ·intro j hj
     by_cases e:j=q
     · subst e;rw [hx1.out,hx2.out,hel]
     · exact hall j (by omega)
  have hge:q=x.code.length:=by have:=of_decide_eq_false hb;omega
  clear hb;refine wp_exit ?_;refine hK23 _ _ ?_;refine wp_seq_k fun K37 hK37=>?_;refine fr_region ?_;intro ops hops;have hg7:(ops[7]?).bind (fun o:Oper=>o.dst)=some 54:=hops 7;have hg16:(ops[16]?).bind (fun o:Oper=>o.dst)=some 63:=hops 16;have hg25:(ops[25]?).bind (fun o:Oper=>o.dst)=some 72:=hops 25;have hg34:(ops[34]?).bind (fun o:Oper=>o.dst)=some 81:=hops 34;clear hops;refine St.go h29 ?_;clear h29 a29;refine sfBlock3 trivial rfl rfl ?_;refine sfEnd0 trivial rfl rfl ?_;refine sbInt 1 hW26 trivial rfl rfl rfl rfl ?_;refine sfBlock3 trivial rfl rfl ?_;refine sfEnd0 trivial rfl rfl ?_;refine sbInt 0 hW26 trivial rfl rfl rfl rfl ?_;refine seq trivial rfl rfl rfl ?_;refine sm trivial rfl rfl ?_;intro a38 h38;rcases Bool.eq_false_or_eq_true (x.fin.op==y.fin.op) with hb | hb
  ·rw [hb] at h38
   have h9:x.fin.op=y.fin.op:=eq_of_beq hb;have hc39:Hid (x.fin.op=y.fin.op):=h9;clear h9;clear hb;refine St.go h38 ?_;clear h38 a38;refine sfBlock3 ⟨_,hg7,rfl,rfl⟩ rfl rfl ?_;refine sfEnd1 ⟨_,hg7,rfl,rfl⟩ rfl rfl ?_;refine sbInt 1 hW26 ⟨_,hg7,rfl,rfl⟩ rfl rfl rfl rfl ?_;refine sfBlock3 ⟨_,hg7,rfl,rfl⟩ rfl rfl ?_;refine sfEnd1 ⟨_,hg7,rfl,rfl⟩ rfl rfl ?_;refine sbInt 0 hW26 ⟨_,hg7,rfl,rfl⟩ rfl rfl rfl rfl ?_;refine seq ⟨_,hg7,rfl,rfl⟩ rfl rfl rfl ?_;refine sp trivial rfl rfl rfl ?_;refine sm trivial rfl rfl ?_;intro a40 h40;rcases Bool.eq_false_or_eq_true (x.fin.a==y.fin.a) with hb | hb
   ·rw [hb] at h40
    have h9:x.fin.a=y.fin.a:=eq_of_beq hb;have hc41:Hid (x.fin.a=y.fin.a):=h9;clear h9;clear hb;refine St.go h40 ?_;clear h40 a40;refine sfBlock3 ⟨_,hg16,rfl,rfl⟩ rfl rfl ?_;refine sfEnd2 ⟨_,hg16,rfl,rfl⟩ rfl rfl ?_;refine sS 1 3 Tryz.underlying51 rfl infTo hW26 ⟨_,hg16,rfl,rfl⟩ rfl rfl rfl rfl ?_;refine sfBlock3 ⟨_,hg16,rfl,rfl⟩ rfl rfl ?_;refine sfEnd2 ⟨_,hg16,rfl,rfl⟩ rfl rfl ?_;refine sS 0 3 Tryz.underlying51 rfl infTo hW26 ⟨_,hg16,rfl,rfl⟩ rfl rfl rfl rfl ?_;refine sc_2 cf59 hW26 (sameTo_any (hx.out.fin.yes.below hW26.bel) (hy.out.fin.yes.below hW26.bel) hs.out.2.2.1.1) ⟨_,hg16,rfl,rfl⟩ rfl rfl rfl ?_;clear hW26;intro w42 hW42;refine sp trivial rfl rfl rfl ?_;refine sm trivial rfl rfl ?_;intro a43 h43;rcases Bool.eq_false_or_eq_true (bdec (x.fin.yes=y.fin.yes)) with hb | hb
    ·rw [hb] at h43
     have hc44:(x.fin.yes=y.fin.yes):=bdec_iff.1 hb;clear hb;refine St.go h43 ?_;clear h43 a43;refine sfBlock3 ⟨_,hg25,rfl,rfl⟩ rfl rfl ?_;refine sfEnd3 ⟨_,hg25,rfl,rfl⟩ rfl rfl ?_;refine sS 1 3 Tryz.underlying51 rfl infTo hW42 ⟨_,hg25,rfl,rfl⟩ rfl rfl rfl rfl ?_;refine sfBlock3 ⟨_,hg25,rfl,rfl⟩ rfl rfl ?_;refine sfEnd3 ⟨_,hg25,rfl,rfl⟩ rfl rfl ?_;refine sS 0 3 Tryz.underlying51 rfl infTo hW42 ⟨_,hg25,rfl,rfl⟩ rfl rfl rfl rfl ?_;refine sc_2 cf59 hW42 (sameTo_any (hx.out.fin.no.below hW42.bel) (hy.out.fin.no.below hW42.bel) hs.out.2.2.1.2.1) ⟨_,hg25,rfl,rfl⟩ rfl rfl rfl ?_;clear hW42;intro w45 hW45;refine sp trivial rfl rfl rfl ?_;refine sm trivial rfl rfl ?_;intro a46 h46;rcases Bool.eq_false_or_eq_true (bdec (x.fin.no=y.fin.no)) with hb | hb
     ·rw [hb] at h46
      have hc47:(x.fin.no=y.fin.no):=bdec_iff.1 hb;clear hb;refine St.go h46 ?_;clear h46 a46;refine sfBlock3 ⟨_,hg34,rfl,rfl⟩ rfl rfl ?_;refine sfEnd4 ⟨_,hg34,rfl,rfl⟩ rfl rfl ?_;refine sbInts 1 hW45 ⟨_,hg34,rfl,rfl⟩ rfl rfl rfl rfl ?_;refine sfBlock3 ⟨_,hg34,rfl,rfl⟩ rfl rfl ?_;refine sfEnd4 ⟨_,hg34,rfl,rfl⟩ rfl rfl ?_;refine sbInts 0 hW45 ⟨_,hg34,rfl,rfl⟩ rfl rfl rfl rfl ?_;refine sc_2 cf60 hW45 (sameInts_any x.fin.args y.fin.args b.e.pA d.e.pA b.e.cA d.e.cA w45 (Lay.below hx.out.fin.args hW45.bel) (Lay.below hy.out.fin.args hW45.bel) (by have:=hs.out.2.2.1.2.2;omega)) ⟨_,hg34,rfl,rfl⟩ rfl rfl rfl ?_;clear hW45;intro w48 hW48;refine sp trivial rfl rfl rfl ?_;refine sa trivial rfl rfl ?_;refine St.nil fun a49 h49=>?_;refine hK37 _ _ ?_;refine wp_ret ?_;with_reducible repeat first | refine of_then_ret ?_ | refine of_block_ret ?_
      have RC:x.code=y.code:=by
        have:=hlen.out
        refine List.ext_getElem? fun i=>?_;by_cases hi:i<q
        · exact hall i hi
        · rw [List.getElem?_eq_none (by omega),List.getElem?_eq_none (by omega)]
      have R:x.fin.args=y.fin.args ↔ x=y:=⟨fun h=>MBlock.eq_of hc12.out hc19 RC (MEnd.eq_of hc39.out hc41.out hc44 hc47 h),fun e=>by rw [e]⟩;exact ret_tmp (t:=4) h49 rfl rfl ⟨by rw [bdec_congr R],hW48.bel⟩
     rw [hb] at h46;have hc50:¬ (x.fin.no=y.fin.no):=fun h=>by rw [bdec_true h] at hb;cases hb
     clear hb;refine St.go h46 ?_;clear h46 a46;refine so hg34 rfl rfl rfl rfl ?_;refine so hg34 rfl rfl rfl rfl ?_;refine so hg34 rfl rfl rfl rfl ?_;refine so hg34 rfl rfl rfl rfl ?_;refine so hg34 rfl rfl rfl rfl ?_;refine so hg34 rfl rfl rfl rfl ?_;refine so hg34 rfl rfl rfl rfl ?_;refine spf trivial rfl rfl rfl ?_;refine sa trivial rfl rfl ?_;refine St.nil fun a51 h51=>?_;refine hK37 _ _ ?_;refine wp_ret ?_;with_reducible repeat first | refine of_then_ret ?_ | refine of_block_ret ?_
     have R:¬ x=y:=fun e=>hc50 (by rw [e]);exact ret_tmp (t:=4) h51 rfl rfl ⟨by rw [bdec_false R],hW45.bel⟩
    rw [hb] at h43;have hc52:¬ (x.fin.yes=y.fin.yes):=fun h=>by rw [bdec_true h] at hb;cases hb
    clear hb;refine St.go h43 ?_;clear h43 a43;refine so hg25 rfl rfl rfl rfl ?_;refine so hg25 rfl rfl rfl rfl ?_;refine so hg25 rfl rfl rfl rfl ?_;refine so hg25 rfl rfl rfl rfl ?_;refine so hg25 rfl rfl rfl rfl ?_;refine so hg25 rfl rfl rfl rfl ?_;refine so hg25 rfl rfl rfl rfl ?_;refine spf trivial rfl rfl rfl ?_;refine sm trivial rfl rfl ?_;refine so hg34 rfl rfl rfl rfl ?_;refine so hg34 rfl rfl rfl rfl ?_;refine so hg34 rfl rfl rfl rfl ?_;refine so hg34 rfl rfl rfl rfl ?_;refine so hg34 rfl rfl rfl rfl ?_;refine so hg34 rfl rfl rfl rfl ?_;refine so hg34 rfl rfl rfl rfl ?_;refine spf trivial rfl rfl rfl ?_;refine sa trivial rfl rfl ?_;refine St.nil fun a53 h53=>?_;refine hK37 _ _ ?_;refine wp_ret ?_;with_reducible repeat first | refine of_then_ret ?_ | refine of_block_ret ?_
    have R:¬ x=y:=fun e=>hc52 (by rw [e]);exact ret_tmp (t:=4) h53 rfl rfl ⟨by rw [bdec_false R],hW42.bel⟩
   rw [hb] at h40;have h9:¬ x.fin.a=y.fin.a:=ne_of_beq_false hb;have hc54:¬ x.fin.a=y.fin.a:=h9;clear h9;clear hb;refine St.go h40 ?_;clear h40 a40;refine so hg16 rfl rfl rfl rfl ?_;refine so hg16 rfl rfl rfl rfl ?_;refine so hg16 rfl rfl rfl rfl ?_;refine so hg16 rfl rfl rfl rfl ?_;refine so hg16 rfl rfl rfl rfl ?_;refine so hg16 rfl rfl rfl rfl ?_;refine so hg16 rfl rfl rfl rfl ?_;refine spf trivial rfl rfl rfl ?_;refine sm trivial rfl rfl ?_;refine so hg25 rfl rfl rfl rfl ?_;refine so hg25 rfl rfl rfl rfl ?_;refine so hg25 rfl rfl rfl rfl ?_;refine so hg25 rfl rfl rfl rfl ?_;refine so hg25 rfl rfl rfl rfl ?_;refine so hg25 rfl rfl rfl rfl ?_;refine so hg25 rfl rfl rfl rfl ?_;refine spf trivial rfl rfl rfl ?_;refine sm trivial rfl rfl ?_;refine so hg34 rfl rfl rfl rfl ?_;refine so hg34 rfl rfl rfl rfl ?_;refine so hg34 rfl rfl rfl rfl ?_;refine so hg34 rfl rfl rfl rfl ?_;refine so hg34 rfl rfl rfl rfl ?_;refine so hg34 rfl rfl rfl rfl ?_;refine so hg34 rfl rfl rfl rfl ?_;refine spf trivial rfl rfl rfl ?_;refine sa trivial rfl rfl ?_;refine St.nil fun a55 h55=>?_;refine hK37 _ _ ?_;refine wp_ret ?_;with_reducible repeat first | refine of_then_ret ?_ | refine of_block_ret ?_
   have R:¬ x=y:=fun e=>hc54 (by rw [e]);exact ret_tmp (t:=4) h55 rfl rfl ⟨by rw [bdec_false R],hW26.bel⟩
  rw [hb] at h38;have h9:¬ x.fin.op=y.fin.op:=ne_of_beq_false hb;have hc56:¬ x.fin.op=y.fin.op:=h9;clear h9;clear hb;refine St.go h38 ?_;clear h38 a38;refine so hg7 rfl rfl rfl rfl ?_;refine so hg7 rfl rfl rfl rfl ?_;refine so hg7 rfl rfl rfl rfl ?_;refine so hg7 rfl rfl rfl rfl ?_;refine so hg7 rfl rfl rfl rfl ?_;refine so hg7 rfl rfl rfl rfl ?_;refine so hg7 rfl rfl rfl rfl ?_;refine spf trivial rfl rfl rfl ?_;refine sm trivial rfl rfl ?_;refine so hg16 rfl rfl rfl rfl ?_;refine so hg16 rfl rfl rfl rfl ?_;refine so hg16 rfl rfl rfl rfl ?_;refine so hg16 rfl rfl rfl rfl ?_;refine so hg16 rfl rfl rfl rfl ?_;refine so hg16 rfl rfl rfl rfl ?_;refine so hg16 rfl rfl rfl rfl ?_;refine spf trivial rfl rfl rfl ?_;refine sm trivial rfl rfl ?_;refine so hg25 rfl rfl rfl rfl ?_;refine so hg25 rfl rfl rfl rfl ?_;refine so hg25 rfl rfl rfl rfl ?_;refine so hg25 rfl rfl rfl rfl ?_;refine so hg25 rfl rfl rfl rfl ?_;refine so hg25 rfl rfl rfl rfl ?_;refine so hg25 rfl rfl rfl rfl ?_;refine spf trivial rfl rfl rfl ?_;refine sm trivial rfl rfl ?_;refine so hg34 rfl rfl rfl rfl ?_;refine so hg34 rfl rfl rfl rfl ?_;refine so hg34 rfl rfl rfl rfl ?_;refine so hg34 rfl rfl rfl rfl ?_;refine so hg34 rfl rfl rfl rfl ?_;refine so hg34 rfl rfl rfl rfl ?_;refine so hg34 rfl rfl rfl rfl ?_;refine spf trivial rfl rfl rfl ?_;refine sa trivial rfl rfl ?_;refine St.nil fun a57 h57=>?_;refine hK37 _ _ ?_;refine wp_ret ?_;with_reducible repeat first | refine of_then_ret ?_ | refine of_block_ret ?_
  have R:¬ x=y:=fun e=>hc56 (by rw [e]);exact ret_tmp (t:=4) h57 rfl rfl ⟨by rw [bdec_false R],hW26.bel⟩
end Go.Proofs.YtjdcjfpfpaplladGreat
namespace Go.Proofs.YtjdcjfpfpaplladGreat
open Go.RowKit
set_option linter.unusedVariables false
section
variable {P : Program} {Q : Exit → Act → World → Prop}
def waits1 (o : Oper) (j : Nat) : Bool := o.after.any fun e => Region.binds .any e && e.on == j
theorem waits1_at {o : Oper} {j : Nat} (h : waits1 o j = true) : ∃ e ∈ o.after, Region.binds .any e = true ∧ e.on = j := by
  obtain ⟨q,hq,he⟩:=Array.any_eq_true.1 h;simp only [Bool.and_eq_true,beq_iff_eq] at he;exact ⟨_,Array.getElem_mem hq,he.1,he.2⟩
end
end Go.Proofs.YtjdcjfpfpaplladGreat
namespace Go.Proofs.YtjdcjfpfpaplladGreat
open Go.ChangeShapes Go.WideShapes Go.ChangeAt Go.RowKit
set_option linter.unusedVariables false
def Keep1 (B : Nat) (w w' : World) : Prop := ∀ k, k ≠ B → w'.heap[k]? = w.heap[k]?
theorem keep1_setCells (w : World) (B j : Nat) (vs : List Value) : Keep1 B w (w.setCells B j vs) := fun k hk => setCells_other hk vs j w
end Go.Proofs.YtjdcjfpfpaplladGreat
namespace Go.Proofs.YtjdcjfpfpaplladGreat
open Go.RowKit
set_option linter.unusedVariables false
theorem blk_setCells {B : Nat} {t : TypeId} : ∀ (vs : List Value) (w : World) (c : Array Value) (j : Nat), Blk w B c t → j + vs.length ≤ c.size → Blk (w.setCells B j vs) B (spliced c j vs) t
  | [],w,c,j,h,hs=>by
    have:spliced c j []=c:=by unfold spliced;simp
    rw [this];exact h
  | v::vs,w,c,j,h,hs=>by
    have:=blk_setCells vs (w.setCell ⟨B,j,none⟩ v) (c.setIfInBounds j v) (j+1) (blockSet h j v) (by simp at hs ⊢;omega)
    rw [spliced_cons _ _ _ _ hs] at this;exact this
theorem below_setCells {B b : Nat} (hb : B ≤ b) : ∀ (vs : List Value) (w w0 : World) (j : Nat), Below B w0 w → Below B w0 (w.setCells b j vs)
  | [],w,w0,j,h=>h
  | v::vs,w,w0,j,h=>below_setCells hb vs _ _ _ (h.setCell hb v)
end Go.Proofs.YtjdcjfpfpaplladGreat
namespace Go.Proofs.YtjdcjfpfpaplladGreat
open Go.RowKit
set_option linter.unusedSimpArgs false
set_option linter.unusedVariables false
section
variable {P : Program} {Q : Exit → Act → World → Prop}
def Closed (l : List Oper) (S : Nat → Bool) : Prop := ∀ (j : Nat) (o : Oper), l[j]? = some o → S j = true → ∀ e ∈ o.after, Region.binds .any e = true → S e.on = true
def Deps (o : Oper) (S : Nat → Bool) : Prop := ∀ e ∈ o.after, Region.binds .any e = true → S e.on = true
theorem Deps.at {o : Oper} {S : Nat → Bool} (h : Deps o S) (j : Nat) (hw : waits1 o j = true) : S j = true := by
  obtain ⟨e,he,hb,rfl⟩:=waits1_at hw;exact h e he hb
def plus (i : Nat) (S : Nat → Bool) : Nat → Bool := fun j => j == i || S j
def StepsOk (P : Program) (l : List Oper) (I : (Nat → Bool) → Act → World → Prop) : Nat → List Oper → Prop
  | _,[]=>True
  | i,o::r=>(∀ (S:Nat→Bool) (a:Act) (w:World),S i=false→Deps o S→Closed l S→I S a w→∀ K:Act→World→Prop,(∀ a' w',I (plus i S) a' w'→K a' w')→o.wp P a w K (fun _ _ _=>False))∧StepsOk P l I (i+1) r
theorem steps_at {l : List Oper} {I : (Nat → Bool) → Act → World → Prop} : ∀ (r : List Oper) (k i : Nat) (o : Oper), StepsOk P l I k r → r[i]? = some o →
    ∀ (S:Nat→Bool) (a:Act) (w:World),S (k+i)=false→Deps o S→Closed l S→I S a w→∀ K:Act→World→Prop,(∀ a' w',I (plus (k+i) S) a' w'→K a' w')→o.wp P a w K (fun _ _ _=>False)
  | [],_,_,_,_,h=>by simp at h
  | x::r,k,0,o,h,ho=>by simp at ho;subst ho;exact h.1
  | x::r,k,i+1,o,h,ho=>by
    simp at ho
    have:=steps_at r (k+1) i o h.2 ho
    rwa [show k+1+i=k+(i+1) by omega] at this
theorem wpAny_inv {l : List Oper} (hb : backB 0 l = true) (hg : (l.all fun o => o.guard.isNone) = true) (I : (Nat → Bool) → Act → World → Prop) (hst : StepsOk P l I 0 l)
    (hend:∀ S a w,(∀ j,j<l.length→S j=true)→I S a w→Q .normal a w) :
    ∀ (fuel:Nat) (listed:Array Bool) (a:Act) (w:World),listed.size=l.length→(listed.toList.filter (·==false)).length≤fuel→Closed l (fun j=>listed.getD j false)→I (fun j=>listed.getD j false) a w →
      wpAny P .any l.toArray Q fuel listed a w:=by
  have fin:∀ (listed:Array Bool) (a:Act) (w:World),listed.size=l.length→Region.ready .any l.toArray listed=[]→I (fun j=>listed.getD j false) a w→Q .normal a w:=by
    intro listed a w hs hr hI;refine hend _ a w ?_ hI;intro j
    induction j using Nat.strongRecOn with
    | _ j ih =>
      intro hj
      cases hc:listed.getD j false with
      | true=>rfl
      | false =>
        exfalso
        have hj':j<listed.size:=by omega
        have hnt:listed.getD j true=false:=by simp [Array.getD,hj'] at hc ⊢;exact hc
        have:j∈Region.ready .any l.toArray listed:=ready_mem.2 ⟨by simpa using hj,hnt,l[j],by simp [hj],fun e he hbd=>by
          have:=back_at l 0 j l[j] hb (by simp [hj]) e he hbd
          exact ih e.on (by omega) (by omega)⟩
        rw [hr] at this;cases this
  intro fuel
  induction fuel with
  | zero =>
    intro listed a w hs hf hcl hI
    have hr:Region.ready .any l.toArray listed=[]:=by
      rw [List.eq_nil_iff_forall_not_mem];intro i hi;obtain ⟨h1,h2,_⟩:=ready_mem.1 hi;have hlt:i<l.length:=by simpa using h1
      have:listed[i]'(by omega)=false:=by
        simp [Array.getD,show i<listed.size by omega] at h2;exact h2
      have hm:false∈listed.toList.filter (·==false):=List.mem_filter.2 ⟨by rw [← this];simp,by simp⟩
      have:=List.length_pos_of_mem hm
      omega
    exact ⟨hr,fin listed a w hs hr hI⟩
  | succ fuel ih =>
    intro listed a w hs hf hcl hI;refine ⟨fun hr=>fin listed a w hs hr hI,fun i hi=>?_⟩;obtain ⟨h1,h2,o,ho,hdep⟩:=ready_mem.1 hi;have hlt:i<l.length:=by simpa using h1
    have hil:i<listed.size:=by omega
    have hun':listed[i]=false:=by simp [Array.getD,hil] at h2;exact h2
    have hun:listed.getD i false=false:=by simp [Array.getD,hil,hun']
    have hlen:((listed.setIfInBounds i true).toList.filter (·==false)).length≤fuel:=by
      have h3:=filter_set listed.toList i (by simpa using hil) (by simpa using hun');rw [Array.toList_setIfInBounds];omega
    have hfun:(fun j=>(listed.setIfInBounds i true).getD j false)=plus i (fun j=>listed.getD j false):=by
      funext j
      unfold plus;by_cases e:j=i
      · subst e;simp [Array.getD,hil]
      · have hne:i≠j:=fun x=>e x.symm;rw [Array.getD_eq_getD_getElem?,Array.getElem?_setIfInBounds_ne hne,← Array.getD_eq_getD_getElem?];simp [e]
    unfold wpOp;rw [ho];simp only
    have hgo:o.guard=none:=by
      have:=List.all_eq_true.1 hg o (List.mem_of_getElem? (by simpa using ho))
      simpa using this
    have hw:Region.wanted o (yielded l.toArray a.tmps)=true:=by unfold Region.wanted;rw [hgo]
    rw [hw,if_pos rfl];have hst':=steps_at l 0 i o hst (by simpa using ho) (fun j=>listed.getD j false) a w (by rw [Nat.zero_add];exact hun) hdep hcl hI;rw [Nat.zero_add] at hst';refine .inl (wpq (fun a' w' hh=>hh) (hst' _ fun a' w' hI'=>?_));refine ih _ _ _ (by simpa using hs) hlen ?_ (by rw [hfun];exact hI');rw [hfun];intro j oj hj hS e he hbd;unfold plus at hS ⊢;by_cases e':j=i
    · subst e';have hjo:some oj=some o:=by rw [← hj];simpa using ho
      cases hjo
      have:=hdep e he hbd
      simp [this]
    · have:(j==i)=false:=by simpa using e'
      rw [this,Bool.false_or] at hS
      have:=hcl j oj hj hS e he hbd
      simp only at this
      simp [this]
theorem draw_inv {id : Nat} {l : List Oper} {a : Act} {w : World} (I : (Nat → Bool) → Act → World → Prop) (hm : P.follows .mixedOrders = true) (hB : (backB 0 l && (l.all fun o => o.guard.isNone)) = true) (h0 : I (fun _ => false) a w.drew) (hst : StepsOk P l I 0 l)
    (hend:∀ S a w,(∀ j,j<l.length→S j=true)→I S a w→Q .normal a w):(Code.region id l.toArray true).wp P Q a w:=by
  rw [Bool.and_eq_true] at hB
  have e0:(fun j=>(Array.replicate l.length false).getD j false)=fun _=>false:=by
    funext j
    rw [Array.getD_eq_getD_getElem?,Array.getElem?_replicate];split <;> rfl
  have key:=wpAny_inv (Q:=Q) hB.1 hB.2 I hst hend l.length (Array.replicate l.length false) a w.drew (by simp) (Nat.le_trans (List.length_filter_le _ _) (by simp)) (by rw [e0];intro j o _ h;cases h) (by rw [e0];exact h0);refine wp_region_any hm ?_;simpa using key
end
structure DI (n : Nat) (a0 : Act) (w00 : World) (ds : List Tmp) (Ti : List (Nat × Tmp)) (Ai : List (Nat × Tmp × Nat × TypeId)) (Oi : List (Nat × Tmp × Nat × TypeId)) (M : List (Tmp × Value)) (C : List (Tmp × List Value)) (S : Nat → Bool) (a : Act) (w : World) : Prop where
  size:a.tmps.size=n
  defers:a.defers=[]
  outer:∀ t,ds.contains t=false→a.tmps.getD t undef=a0.tmps.getD t undef
  bel:Below w00.heap.size w00 w
  vals:∀ x∈Ti,S x.1=true→∀ v,M.lookup x.2=some v→a.tmps.getD x.2 undef=v
  new:∀ x∈Ai,S x.1=true→∃ B,a.tmps.getD x.2.1 undef=.pointer (some ⟨B,0,none⟩)∧w00.heap.size≤B∧∃ c,Blk w B c x.2.2.2∧c.size=x.2.2.1
  ne:∀ x∈Ai,∀ y∈Ai,x.2.1≠y.2.1→S x.1=true→S y.1=true→a.tmps.getD x.2.1 undef≠a.tmps.getD y.2.1 undef
  did:∀ x∈Oi,S x.1=true→∀ c,C.lookup x.2.1=some c→∃ B,a.tmps.getD x.2.1 undef=.pointer (some ⟨B,0,none⟩)∧Blk w B c.toArray x.2.2.2
def diB (l : List Oper) (n : Nat) (Ti : List (Nat × Tmp)) (Ai Oi : List (Nat × Tmp × Nat × TypeId)) : Bool :=
  (nodupB (Ti.map (·.1)) && nodupB (Ai.map (·.1)) && nodupB (Oi.map (·.1))) && (nodupB (Ti.map (·.2)++Ai.map (·.2.1)) && nodupB (Oi.map (·.2.1)) && ((Ti.map (·.2)++Ai.map (·.2.1)).all fun t=>decide (t<n) && (dstsOf l).contains t) &&
  (Oi.all fun x=>Ai.any fun y=>y.2.1==x.2.1 && y.2.2.1==x.2.2.1 && y.2.2.2==x.2.2.2 && (match l[x.1]? with | some o=>waits1 o y.1 | none=>false)))
theorem nodupB_mem {l1 l2 : List Tmp} : ∀ {t : Tmp}, nodupB (l1 ++ l2) = true → t ∈ l1 → t ∈ l2 → False := by
  induction l1 with
  | nil=>intro t _ h;cases h
  | cons x r ih =>
    intro t h h1 h2;simp only [List.cons_append,nodupB,Bool.and_eq_true,Bool.not_eq_true'] at h;rcases List.mem_cons.1 h1 with rfl | h1
    · have:=h.1
      simp at this
      exact this.2 h2
    · exact ih h.2 h1 h2
theorem nodupB_map {α : Type} {f : α → Tmp} : ∀ {l : List α}, nodupB (l.map f) = true → ∀ x ∈ l, ∀ y ∈ l, f x = f y → x = y
  | [],_,_,h,_,_,_=>by cases h
  | z::r,h,x,hx,y,hy,e=>by
    simp only [List.map_cons,nodupB,Bool.and_eq_true,Bool.not_eq_true'] at h
    have hz:∀ u∈r,f u≠f z:=fun u hu e=>by
      have:=h.1
      simp at this
      exact this u hu e
    rcases List.mem_cons.1 hx with h1 | h1
    · rcases List.mem_cons.1 hy with h2 | h2
      · rw [h1,h2]
      · exact absurd e.symm (h1 ▸ hz y h2)
    · rcases List.mem_cons.1 hy with h2 | h2
      · exact absurd e (h2 ▸ hz x h1)
      · exact nodupB_map h.2 x h1 y h2 e
theorem nodupB_right {l1 l2 : List Tmp} (h : nodupB (l1 ++ l2) = true) : nodupB l2 = true := by
  induction l1 with
  | nil=>exact h
  | cons x r ih =>
    simp only [List.cons_append,nodupB,Bool.and_eq_true,Bool.not_eq_true'] at h;exact ih h.2
section
variable {n i : Nat} {a0 a : Act} {w00 w w' : World} {l : List Oper} {Ti : List (Nat × Tmp)} {Ai Oi : List (Nat × Tmp × Nat × TypeId)} {M : List (Tmp × Value)} {C : List (Tmp × List Value)} {S : Nat → Bool} {t : Tmp} {v : Value} {s : Nat} {ty : TypeId}
theorem put_at {u : Tmp} (h : t < a.tmps.size) : (a.put (some t) v).tmps.getD u undef = if u = t then v else a.tmps.getD u undef := by
  by_cases e:u=t
  · subst e;simp [Act.put,Array.getD,h]
  · rw [if_neg e];have hne:t≠u:=fun x=>e x.symm;rw [Array.getD_eq_getD_getElem?,Array.getD_eq_getD_getElem?];simp only [Act.put];rw [Array.getElem?_setIfInBounds_ne hne]
theorem plus_of {j : Nat} (hne : j ≠ i) (h : plus i S j = true) : S j = true := by
  have:(j==i)=false:=by simpa using hne
  unfold plus at h;rwa [this,Bool.false_or] at h
theorem DI.pure (hB : diB l n Ti Ai Oi = true) (hI : DI n a0 w00 (dstsOf l) Ti Ai Oi M C S a w) (hi : (i, t) ∈ Ti) (hv : M.lookup t = some v) (hS : S i = false) (hb : Below w.heap.size w w')
    (hiA:(Ai.all fun x=>x.1 != i)=true) (hiO:(Oi.all fun x=>x.1 != i)=true):DI n a0 w00 (dstsOf l) Ti Ai Oi M C (plus i S) (a.put (some t) v) w':=by
  simp only [diB,Bool.and_eq_true] at hB;obtain ⟨hix,⟨⟨hnd,hndO⟩,hall⟩,hO⟩:=hB;have htT:t∈Ti.map (·.2):=List.mem_map.2 ⟨(i,t),hi,rfl⟩;have h9:=List.all_eq_true.1 hall t (List.mem_append_left _ htT);simp only [Bool.and_eq_true,decide_eq_true_eq] at h9;have htn:t<a.tmps.size:=by rw [hI.size];exact h9.1
  have hneA:∀ x∈Ai,x.2.1≠t:=fun x hx e=>nodupB_mem hnd htT (e ▸ List.mem_map.2 ⟨x,hx,rfl⟩)
  have hneO:∀ x∈Oi,x.2.1≠t:=fun x hx e=>by
    obtain ⟨y,hy,hh⟩:=List.any_eq_true.1 (List.all_eq_true.1 hO x hx);simp only [Bool.and_eq_true,beq_iff_eq] at hh;exact hneA y hy (hh.1.1.1.trans e)
  have hA:∀ x∈Ai,plus i S x.1=true→S x.1=true:=fun x hx h=>plus_of (by have:=List.all_eq_true.1 hiA x hx;simpa using this) h;have hO':∀ x∈Oi,plus i S x.1=true→S x.1=true:=fun x hx h=>plus_of (by have:=List.all_eq_true.1 hiO x hx;simpa using this) h;refine ⟨by rw [← hI.size];simp [Act.put],hI.defers,fun u hu=>?_,Below.andThen hI.bel hb,fun x hx hs u hu=>?_,fun x hx hs=>?_,fun x hx y hy hxy hs1 hs2=>?_,fun x hx hs c hc=>?_⟩
  · have:u≠t:=fun e=>by subst e;rw [h9.2] at hu;cases hu
    rw [put_at htn,if_neg this];exact hI.outer u hu
  · rw [put_at htn];by_cases e:x.2=t
    · rw [if_pos e];rw [e,hv] at hu;exact Option.some.inj hu
    · rw [if_neg e];refine hI.vals x hx (plus_of (fun e2=>e ?_) hs) u hu;exact congrArg (·.2) (nodupB_map (f:=fun x:Nat × Tmp=>x.1) hix.1.1 x hx (i,t) hi e2)
  · obtain ⟨B,h1,h2,c,h3,h4⟩:=hI.new x hx (hA x hx hs);exact ⟨B,by rw [put_at htn,if_neg (hneA x hx)];exact h1,h2,c,h3.below hb,h4⟩
  · rw [put_at htn,if_neg (hneA x hx),put_at htn,if_neg (hneA y hy)];exact hI.ne x hx y hy hxy (hA x hx hs1) (hA y hy hs2)
  · obtain ⟨B,h1,h2⟩:=hI.did x hx (hO' x hx hs) c hc;exact ⟨B,by rw [put_at htn,if_neg (hneO x hx)];exact h1,h2.below hb⟩
theorem DI.alloc (hB : diB l n Ti Ai Oi = true) (hI : DI n a0 w00 (dstsOf l) Ti Ai Oi M C S a w) (hi : (i, t, s, ty) ∈ Ai) {c : Array Value} (hc : c.size = s) (hS : S i = false) (hcl : Closed l S)
    (hiT:(Ti.all fun x=>x.1 != i)=true) (hiO:(Oi.all fun x=>x.1 != i)=true):DI n a0 w00 (dstsOf l) Ti Ai Oi M C (plus i S) (a.put (some t) (.pointer (some ⟨w.heap.size,0,none⟩))) (w.alloc (.cells c ty)):=by
  simp only [diB,Bool.and_eq_true] at hB;obtain ⟨hix,⟨⟨hnd,hndO⟩,hall⟩,hO⟩:=hB;have hb:Below w.heap.size w (w.alloc (.cells c ty)):=bel1 w _;have htA:t∈Ai.map (·.2.1):=List.mem_map.2 ⟨(i,t,s,ty),hi,rfl⟩;have h9:=List.all_eq_true.1 hall t (List.mem_append_right _ htA);simp only [Bool.and_eq_true,decide_eq_true_eq] at h9;have htn:t<a.tmps.size:=by rw [hI.size];exact h9.1
  have hneT:∀ x∈Ti,x.2≠t:=fun x hx e=>nodupB_mem hnd (e ▸ List.mem_map.2 ⟨x,hx,rfl⟩) htA;have one:∀ x∈Ai,x.2.1=t→x=(i,t,s,ty):=fun x hx e=>nodupB_map (f:=fun x:Nat × Tmp × Nat × TypeId=>x.2.1) (nodupB_right hnd) x hx _ hi e;have old:∀ x∈Ai,x.2.1≠t→plus i S x.1=true→S x.1=true:=fun x hx hne h=>plus_of (fun e=>hne (congrArg (·.2.1) (nodupB_map (f:=fun x:Nat × Tmp × Nat × TypeId=>x.1) hix.1.2 x hx _ hi e))) h;refine ⟨by rw [← hI.size];simp [Act.put],hI.defers,fun u hu=>?_,Below.andThen hI.bel hb,fun x hx hs u hu=>?_,fun x hx hs=>?_,fun x hx y hy hxy hs1 hs2=>?_,fun x hx hs c' hc'=>?_⟩
  · have:u≠t:=fun e=>by subst e;rw [h9.2] at hu;cases hu
    rw [put_at htn,if_neg this];exact hI.outer u hu
  · rw [put_at htn,if_neg (hneT x hx)];exact hI.vals x hx (plus_of (by have:=List.all_eq_true.1 hiT x hx;simpa using this) hs) u hu
  · by_cases e:x.2.1=t
    · rw [one x hx e];exact ⟨w.heap.size,by rw [put_at htn,if_pos rfl],hI.bel.size,c,Blk.new w c ty,hc⟩
    · obtain ⟨B,h1,h2,c',h3,h4⟩:=hI.new x hx (old x hx e hs);exact ⟨B,by rw [put_at htn,if_neg e];exact h1,h2,c',h3.below hb,h4⟩
  · have lt:∀ x∈Ai,x.2.1≠t→plus i S x.1=true→a.tmps.getD x.2.1 undef≠.pointer (some ⟨w.heap.size,0,none⟩):=fun x hx e hs h=>by
      obtain ⟨B,h1,h2,c',h3,h4⟩:=hI.new x hx (old x hx e hs);rw [h1] at h;simp at h
      have:=h3.lt
      omega
    by_cases e1:x.2.1=t
    · by_cases e2:y.2.1=t
      · exact absurd (e1.trans e2.symm) hxy
      · rw [put_at htn,if_pos e1,put_at htn,if_neg e2];exact fun h=>lt y hy e2 hs2 h.symm
    · by_cases e2:y.2.1=t
      · rw [put_at htn,if_neg e1,put_at htn,if_pos e2];exact lt x hx e1 hs1
      · rw [put_at htn,if_neg e1,put_at htn,if_neg e2];exact hI.ne x hx y hy hxy (old x hx e1 hs1) (old y hy e2 hs2)
  · have hs':S x.1=true:=plus_of (by have:=List.all_eq_true.1 hiO x hx;simpa using this) hs
    have hne:x.2.1≠t:=fun e=>by
      obtain ⟨y,hy,hh⟩:=List.any_eq_true.1 (List.all_eq_true.1 hO x hx);simp only [Bool.and_eq_true,beq_iff_eq] at hh;have hyt:=one y hy (hh.1.1.1.trans e)
      cases ho:l[x.1]? with
      | none=>rw [ho] at hh;simp at hh
      | some o =>
        rw [ho] at hh
        have:=Deps.at (hcl x.1 o ho hs') y.1 hh.2
        rw [hyt] at this;simp only at this
        rw [hS] at this
        cases this
    obtain ⟨B,h1,h2⟩:=hI.did x hx hs' c' hc';exact ⟨B,by rw [put_at htn,if_neg hne];exact h1,h2.below hb⟩
theorem DI.box (hI : DI n a0 w00 (dstsOf l) Ti Ai Oi M C S a w) (hi : (i, t, s, ty) ∈ Ai) (hs : S i = true) : ∃ B, a.tmps.getD t undef = .pointer (some ⟨B, 0, none⟩) ∧ w00.heap.size ≤ B ∧ ∃ c, Blk w B c ty ∧ c.size = s := hI.new _ hi hs
theorem blk_all {w : World} {B : Nat} {c : Array Value} {ty : TypeId} {cs : List Value} (h : Blk w B c ty) (hs : c.size = cs.length) : Blk (w.setCells B 0 cs) B cs.toArray ty := by
  have:=blk_setCells cs w c 0 h (by omega)
  have e:spliced c 0 cs=cs.toArray:=by
    unfold spliced;have h9:c.toList.drop (0+cs.length)=[]:=List.drop_of_length_le (by simp [hs]);rw [h9];simp
  rwa [e] at this
theorem DI.store (hB : diB l n Ti Ai Oi = true) (hI : DI n a0 w00 (dstsOf l) Ti Ai Oi M C S a w) (hi : (i, t, s, ty) ∈ Oi) {B j : Nat} {c : Array Value} {cs : List Value} (hj : (j, t, s, ty) ∈ Ai) (hsj : S j = true) (hv : a.tmps.getD t undef = .pointer (some ⟨B, 0, none⟩)) (hBk : Blk w B c ty) (hcs : c.size = s) (hlo : w00.heap.size ≤ B) (hC : C.lookup t = some cs) (hln : cs.length = s) (hS : S i = false) (hcl : Closed l S)
    (hiT:(Ti.all fun x=>x.1 != i)=true) (hiA:(Ai.all fun x=>x.1 != i)=true):DI n a0 w00 (dstsOf l) Ti Ai Oi M C (plus i S) a (w.setCells B 0 cs):=by
  simp only [diB,Bool.and_eq_true] at hB;obtain ⟨hix,⟨⟨hnd,hndO⟩,hall⟩,hO⟩:=hB;have hk:=keep1_setCells w B 0 cs;have hnew:=blk_all (cs:=cs) hBk (by omega);have hA:∀ x∈Ai,plus i S x.1=true→S x.1=true:=fun x hx h=>plus_of (by have:=List.all_eq_true.1 hiA x hx;simpa using this) h;refine ⟨hI.size,hI.defers,hI.outer,below_setCells hlo cs w w00 0 hI.bel,fun x hx hs u hu=>?_,fun x hx hs=>?_,fun x hx y hy hxy hs1 hs2=>hI.ne x hx y hy hxy (hA x hx hs1) (hA y hy hs2),fun x hx hs c' hc'=>?_⟩
  · exact hI.vals x hx (plus_of (by have:=List.all_eq_true.1 hiT x hx;simpa using this) hs) u hu
  · obtain ⟨B',h1,h2,c',h3,h4⟩:=hI.new x hx (hA x hx hs);by_cases e:B'=B
    · subst e
      have:some (Obj.cells c' x.2.2.2 (0,0))=some (Obj.cells c ty (0,0)):=by rw [← h3,← hBk]
      simp at this
      obtain ⟨rfl,hty⟩:=this;exact ⟨B',h1,h2,_,by rw [hty];exact hnew,by simp;omega⟩
    · exact ⟨B',h1,h2,c',(hk B' e).trans h3,h4⟩
  · by_cases e:x.2.1=t
    · have hx':=nodupB_map (f:=fun x:Nat × Tmp × Nat × TypeId=>x.2.1) hndO x hx _ hi e;subst hx';simp only at hc' ⊢
      rw [hC] at hc'
      cases hc'
      exact ⟨B,hv,hnew⟩
    · have hs':S x.1=true:=plus_of (fun e'=>e (congrArg (·.2.1) (nodupB_map (f:=fun x:Nat × Tmp × Nat × TypeId=>x.1) hix.2 x hx _ hi e'))) hs;obtain ⟨B',h1,h2⟩:=hI.did x hx hs' c' hc'
      have hne:B'≠B:=fun e'=>by
        obtain ⟨y,hy,hh⟩:=List.any_eq_true.1 (List.all_eq_true.1 hO x hx);simp only [Bool.and_eq_true,beq_iff_eq] at hh
        cases ho:l[x.1]? with
        | none=>rw [ho] at hh;simp at hh
        | some o =>
          rw [ho] at hh;exact hI.ne y hy _ hj (by rw [hh.1.1.1];exact e) (Deps.at (hcl x.1 o ho hs') y.1 hh.2) hsj (by rw [hh.1.1.1,h1,e'];exact hv.symm)
      exact ⟨B',h1,(hk B' hne).trans h2⟩
theorem DI.full (hI : DI n a0 w00 (dstsOf l) Ti Ai Oi M C S a w) {i j : Nat} {cs : List Value} (hj : (j, t, s, ty) ∈ Ai) (hsj : S j = true) (hi : (i, t, s, ty) ∈ Oi) (hsi : S i = true) (hC : C.lookup t = some cs) :
    ∃ B,a.tmps.getD t undef=.pointer (some ⟨B,0,none⟩)∧w00.heap.size≤B∧Blk w B cs.toArray ty:=by
  obtain ⟨B,h1,h2⟩:=hI.did _ hi hsi cs hC;obtain ⟨B',h3,h4,_⟩:=hI.new _ hj hsj;simp only at h1 h3
  rw [h1] at h3;simp at h3
  subst h3;exact ⟨B,h1,h4,h2⟩
theorem fr_outer {L : List (Tmp × Value)} (hF : Fr n a0 L) (hL : (L.all fun p => !(dstsOf l).contains p.1) = true) (hI : DI n a0 w00 (dstsOf l) Ti Ai Oi M C S a w) : Fr n a L := by
  refine ⟨hI.size,hI.defers,fun t v hl=>?_⟩
  have hmem:∃ p∈L,p.1=t:=by
    clear hL hF
    induction L with
    | nil=>simp at hl
    | cons x r ih =>
      by_cases e:t=x.1
      · exact ⟨x,by simp,e.symm⟩
      · have e':(t==x.1)=false:=beq_false_of_ne e;rw [List.lookup_cons,e'] at hl;obtain ⟨p,hp,he⟩:=ih hl;exact ⟨p,by simp [hp],he⟩
  obtain ⟨p,hp,rfl⟩:=hmem;have hn:=List.all_eq_true.1 hL p hp;rw [hI.outer p.1 (by simpa using hn)];exact hF.sl _ _ hl
theorem fr_draw3 {P : Program} {Q : Exit → Act → World → Prop} {id : Nat} {L : List (Tmp × Value)} (Ti : List (Nat × Tmp)) (Ai Oi : List (Nat × Tmp × Nat × TypeId)) (M : List (Tmp × Value)) (C : List (Tmp × List Value))
    (hm:P.follows .mixedOrders=true) (hF:Fr n a L) (hL:(L.all fun p=>!(dstsOf l).contains p.1)=true) (hB:((backB 0 l && (l.all fun o=>o.guard.isNone)) && diB l n Ti Ai Oi)=true)
    (hst:diB l n Ti Ai Oi=true→StepsOk P l (DI n a w (dstsOf l) Ti Ai Oi M C) 0 l)
    (hend:∀ S a' w',(∀ j,j<l.length→S j=true)→DI n a w (dstsOf l) Ti Ai Oi M C S a' w'→Fr n a' L→Q .normal a' w'):(Code.region id l.toArray true).wp P Q a w:=by
  rw [Bool.and_eq_true] at hB;refine draw_inv (DI n a w (dstsOf l) Ti Ai Oi M C) hm hB.1 ?_ (hst hB.2) (fun S a' w' hS hI=>hend S a' w' hS hI ?_)
  · exact ⟨hF.size,hF.defers,fun _ _=>rfl,drewN_below (m:=1) (Below.refl _ _),fun _ _ h=>(by cases h),fun _ _ h=>(by cases h),fun _ _ _ _ _ h=>(by cases h),fun _ _ h=>(by cases h)⟩
  · exact fr_outer hF hL hI
theorem wp_fill {Q : Exit → Act → World → Prop} {K : Act → World → Prop} {B : Nat} {c : Array Value} {bt ty2 ty3 : TypeId} {cells : List Value} {x y : Tmp} {pos : String} {aft : Array Edge} (hB : Blk w B c bt)
    (hx:a.tmps.getD x undef=.pointer (some ⟨B,0,none⟩)) (hy:a.tmps.getD y undef=.agg cells.toArray) (hi:(Tryz.prog.info? ty2).map (·.size)=some cells.length) (h1:cells.all (·.oneCell')=true) (hs:cells.length=c.size)
    (hK:K a (w.setCells B 0 cells)):Oper.wp Tryz.prog ⟨none,.store ty2 (.tmp x) (.tmp y),ty3,pos,aft,none⟩ a w K Q:=by
  have e:a.eval (.tmp x)=.pointer (some ⟨B,0,none⟩):=hx;have e2:a.eval (.tmp y)=.agg cells.toArray:=hy
  have:=run_storeAt_mid (P:=Tryz.prog) w B 0 ty2 cells.toArray (by simpa using thereOf hB 0 cells.length (by omega)) (by simpa using hi) (by simpa using h1)
  unfold Oper.wp execOp;simp only [e,e2,Sem.run_bind,this,Result.andThen_ok,Sem.run_pure];rw [Oper.upon_skip];simpa [Act.put] using hK
theorem Wd.add2 {w0 : World} {Bs : List (Nat × Array Value × TypeId)} (h : Wd w0 w Bs) (h0 : Wd w0 w00 Bs) {B B' : Nat} {c c' : Array Value} {t t' : TypeId} (hb : Blk w B c t) (hb' : Blk w B' c' t') (hne : B ≠ B') (hB : w00.heap.size ≤ B) (hB' : w00.heap.size ≤ B') :
    Wd w0 w ((B,c,t)::(B',c',t')::Bs):=by
  have h1:=h.add hb' h0 hB';have h2:=h.add hb h0 hB;refine ⟨h.bel,fun i x hx=>?_,fun i x hx=>?_,fun i j x y hx hy e=>?_⟩
  · cases i with
    | zero=>simp at hx;subst hx;exact hb
    | succ i=>exact h1.blk i x (by simpa using hx)
  · cases i with
    | zero=>exact h2.new 0 x (by simpa using hx)
    | succ i=>exact h1.new i x (by simpa using hx)
  · have key:∀ (k:Nat) (z:Nat × Array Value × TypeId),((B',c',t')::Bs)[k]?=some z→z.1≠B:=fun k z hz e=>by
      cases k with
      | zero=>simp at hz;subst hz;exact hne e.symm
      | succ k =>
        have:=h2.nd (k+1) 0 z (B,c,t) (by simpa using hz) (by simp) e
        omega
    cases i with
    | zero =>
      cases j with
      | zero=>rfl
      | succ j=>simp at hx;subst hx;exact absurd e.symm (key j y (by simpa using hy))
    | succ i =>
      cases j with
      | zero=>simp at hy;subst hy;exact absurd e (key i x (by simpa using hx))
      | succ j=>rw [h1.nd i j x y (by simpa using hx) (by simpa using hy) e]
end
end Go.Proofs.YtjdcjfpfpaplladGreat
