import Derived.Test.YtjdcjfpfpaplladGreatP1
import Derived.Laws.IdiomStrings
import Derived.Lib.Strings
import Derived.Defers
import Derived.Recover
import Derived.Orders
import Derived.RowKit
import Derived.Deep.DeepCutAuto
import Derived.Deep.CutBlock
import Derived.Deep.RegionWith
set_option maxHeartbeats 16000000
set_option maxRecDepth 100000
namespace Go.Proofs.YtjdcjfpfpaplladGreat
open Go.ChangeShapes Go.WideShapes Go.ChangeAt Go.RowKit
set_option linter.unusedSimpArgs false
set_option linter.unusedVariables false
theorem wto_any {w : World} {b lo : Nat} {v : Value} {ys : List UInt8} {x : MTo} {cs : List Value} (hx : toL.In w (fun g => g < lo) x cs) (hsm : x.small) (hl : ys.length + 4 ≤ 20000) (h : WAt w b lo v ys) :
    Calls Tryz.prog 132 #[ptrP b,.agg cs.toArray] w fun en w'=>Put b lo v ys (x.ybs) w en w':=by
  have hmf:∀ (fn:Fn) (first cap:Array Value) (w:World),(Instr.makeFunc fn first cap).run Tryz.prog w=.ok (.func fn first cap) w:=fun _ _ _ _=>rfl;have hbw:=(h.lt (.inl rfl)).2;have hlow:=h.low;have H:Hid (WAt w b lo v ys):=h;have HL:Hid (ys.length+4≤20000):=hl;obtain ⟨p1,c1,p2,c2,rfl,i1,i2,r0⟩:=to_form hx;have I1:Hid (intsL.In w (fun g=>g<lo) x.regs [.slice p1 x.regs.length c1]):=i1;have I2:Hid (intsL.In w (fun g=>g<lo) x.args [.slice p2 x.args.length c2]):=i2;have R0:Hid (i64r x.block):=r0;have SM:Hid x.small:=hsm;have HS:Hid (x.ybs=numY x.block++(listY numY x.regs++listY numY x.args)):=rfl;clear h hl i1 i2 r0 hsm hx;go_enter Tryz.func132,Tryz.ntmps132
  go_upto_region 1 with fail
  have H0:Hid (WAt (w.alloc (.cells #[.int .i64 x.block,.slice p1 x.regs.length c1,.slice p2 x.args.length c2] 51)) b lo v ys):=H.out.alloc _;have S0:Hid (Step (WO b v) (WO b v) w (w.alloc (.cells #[.int .i64 x.block,.slice p1 x.regs.length c1,.slice p2 x.args.length c2] 51))):=(Step.refl _ w).alloc _;have X0:Hid (Blk (w.alloc (.cells #[.int .i64 x.block,.slice p1 x.regs.length c1,.slice p2 x.args.length c2] 51)) w.heap.size #[.int .i64 x.block,.slice p1 x.regs.length c1,.slice p2 x.args.length c2] 51):=Blk.new _ _ _;have N0:Hid (¬ WO b v w.heap.size):=H.out.apart2 (Nat.le_refl _);have L0:Hid (ys.length+4≤20000):=HL.out;clear HL;generalize w.alloc (.cells #[.int .i64 x.block,.slice p1 x.regs.length c1,.slice p2 x.args.length c2] 51)=w0 at H0 S0 X0 ⊢;have y0:=cellOf X0.out 0 _ rfl;go_wp2_with fail
  refine (wnum1_any x.block R0.out L0.out H0.out rfl).mono ?_;intro e' w1 hO;rcases hO with ⟨v1,rfl,hl1,h1,s1⟩ | ⟨c',a',v',rfl,hc',hl',s'⟩
  rotate_left
  · exact ⟨rfl,Put.fail hc' hl' (by rw [HS.out];simp only [List.length_append];omega) (S0.out.trans s')⟩
  have H1:Hid (WAt w1 b lo v1 (ys++numY x.block)):=h1;have S1:Hid (Step (WO b v) (WO b v1) w w1):=S0.out.trans s1;have X1:Hid (Blk w1 w.heap.size #[.int .i64 x.block,.slice p1 x.regs.length c1,.slice p2 x.args.length c2] 51):=X0.out.step s1 N0.out;have N1:Hid (¬ WO b v1 w.heap.size):=s1.still X0.out.lt N0.out;have L1:Hid ((ys++numY x.block).length+4≤20000):=hl1;clear h1 s1 hl1 H0 S0 X0 N0 L0 y0;have y1:=cellOf X1.out 1 _ rfl;go_wp2_with fail
  refine (wlist_any (S1.out.lays I1.out (fun k hk _=>H.out.apart hk)) (fun k hk _=>H1.out.apart hk) SM.out.1 L1.out H1.out).mono ?_;intro e' w2 hO;rcases hO with ⟨v2,rfl,hl2,h2,s2⟩ | ⟨c',a',v',rfl,hc',hl',s'⟩
  rotate_left
  · exact ⟨rfl,Put.fail hc' hl' (by rw [HS.out];simp only [List.length_append];omega) (S1.out.trans s')⟩
  have H2:Hid (WAt w2 b lo v2 ((ys++numY x.block)++listY numY x.regs)):=h2;have S2:Hid (Step (WO b v) (WO b v2) w w2):=S1.out.trans s2;have X2:Hid (Blk w2 w.heap.size #[.int .i64 x.block,.slice p1 x.regs.length c1,.slice p2 x.args.length c2] 51):=X1.out.step s2 N1.out;have N2:Hid (¬ WO b v2 w.heap.size):=s2.still X1.out.lt N1.out;have L2:Hid (((ys++numY x.block)++listY numY x.regs).length+4≤20000):=hl2;clear h2 s2 hl2 H1 S1 X1 N1 L1 y1;have y2:=cellOf X2.out 2 _ rfl;go_wp2_with fail
  refine (wlist_any (S2.out.lays I2.out (fun k hk _=>H.out.apart hk)) (fun k hk _=>H2.out.apart hk) SM.out.2 L2.out H2.out).mono ?_;intro e' w3 hO;rcases hO with ⟨v3,rfl,hl3,h3,s3⟩ | ⟨c',a',v',rfl,hc',hl',s'⟩
  rotate_left
  · exact ⟨rfl,Put.fail hc' hl' (by rw [HS.out];simp only [List.length_append];omega) (S2.out.trans s')⟩
  have H3:Hid (WAt w3 b lo v3 (((ys++numY x.block)++listY numY x.regs)++listY numY x.args)):=h3;have S3:Hid (Step (WO b v) (WO b v3) w w3):=S2.out.trans s3;have X3:Hid (Blk w3 w.heap.size #[.int .i64 x.block,.slice p1 x.regs.length c1,.slice p2 x.args.length c2] 51):=X2.out.step s3 N2.out;have N3:Hid (¬ WO b v3 w.heap.size):=s3.still X2.out.lt N2.out;have L3:Hid ((((ys++numY x.block)++listY numY x.regs)++listY numY x.args).length+4≤20000):=hl3;clear h3 s3 hl3 H2 S2 X2 N2 L2 y2;have Z:Hid (Put b lo v ys (x.ybs) w (.returned (.tuple #[])) w3):=Put.done (by rw [HS.out];simp only [List.append_assoc,List.append_nil]) L3.out H3.out S3.out;clear H3 S3 N3 L3 X3;go_wp2
  exact bodyPost_end (v:=.tuple #[]) (by simp [results,Tryz.results132,go_sem]) rfl Z.out
theorem wend_any {w : World} {b lo : Nat} {v : Value} {ys : List UInt8} {x : MEnd} {cs : List Value} (hx : endL.In w (fun g => g < lo) x cs) (hsm : x.small) (hl : ys.length + 4 ≤ 20000) (h : WAt w b lo v ys) :
    Calls Tryz.prog 107 #[ptrP b,.agg cs.toArray] w fun en w'=>Put b lo v ys (x.ybs) w en w':=by
  have hmf:∀ (fn:Fn) (first cap:Array Value) (w:World),(Instr.makeFunc fn first cap).run Tryz.prog w=.ok (.func fn first cap) w:=fun _ _ _ _=>rfl;have hbw:=(h.lt (.inl rfl)).2;have hlow:=h.low;have H:Hid (WAt w b lo v ys):=h;have HL:Hid (ys.length+4≤20000):=hl;obtain ⟨d1,d2,p5,c5,rfl,i1,i2,i3,r0,r1⟩:=end_form hx;obtain ⟨p1,c1,p2,c2,rfl,_⟩:=to_form i1;obtain ⟨p3,c3,p4,c4,rfl,_⟩:=to_form i2;simp only [List.cons_append,List.nil_append];have I1:Hid (toL.In w (fun g=>g<lo) x.yes [.int .i64 x.yes.block,.slice p1 x.yes.regs.length c1,.slice p2 x.yes.args.length c2]):=i1;have I2:Hid (toL.In w (fun g=>g<lo) x.no [.int .i64 x.no.block,.slice p3 x.no.regs.length c3,.slice p4 x.no.args.length c4]):=i2;have I3:Hid (intsL.In w (fun g=>g<lo) x.args [.slice p5 x.args.length c5]):=i3;have R0:Hid (i64r x.op):=r0;have R1:Hid (i64r x.a):=r1;have SM:Hid x.small:=hsm;have HE:Hid (x.ybs=numY x.op++(if x.op=1 then x.yes.ybs else if x.op=2 then numY x.a++(x.yes.ybs++x.no.ybs) else if x.op=3 then listY numY x.args else [])):=rfl;clear h hl i1 i2 i3 r0 r1 hsm hx;go_enter Tryz.func107,Tryz.ntmps107
  go_upto_region 1 with fail
  have H0:Hid (WAt (w.alloc (.cells #[.int .i64 x.op,.int .i64 x.a,.int .i64 x.yes.block,.slice p1 x.yes.regs.length c1,.slice p2 x.yes.args.length c2,.int .i64 x.no.block,.slice p3 x.no.regs.length c3,.slice p4 x.no.args.length c4,.slice p5 x.args.length c5] 53)) b lo v ys):=H.out.alloc _;have S0:Hid (Step (WO b v) (WO b v) w (w.alloc (.cells #[.int .i64 x.op,.int .i64 x.a,.int .i64 x.yes.block,.slice p1 x.yes.regs.length c1,.slice p2 x.yes.args.length c2,.int .i64 x.no.block,.slice p3 x.no.regs.length c3,.slice p4 x.no.args.length c4,.slice p5 x.args.length c5] 53))):=(Step.refl _ w).alloc _;have X0:Hid (Blk (w.alloc (.cells #[.int .i64 x.op,.int .i64 x.a,.int .i64 x.yes.block,.slice p1 x.yes.regs.length c1,.slice p2 x.yes.args.length c2,.int .i64 x.no.block,.slice p3 x.no.regs.length c3,.slice p4 x.no.args.length c4,.slice p5 x.args.length c5] 53)) w.heap.size #[.int .i64 x.op,.int .i64 x.a,.int .i64 x.yes.block,.slice p1 x.yes.regs.length c1,.slice p2 x.yes.args.length c2,.int .i64 x.no.block,.slice p3 x.no.regs.length c3,.slice p4 x.no.args.length c4,.slice p5 x.args.length c5] 53):=Blk.new _ _ _;have N0:Hid (¬ WO b v w.heap.size):=H.out.apart2 (Nat.le_refl _);have L0:Hid (ys.length+4≤20000):=HL.out;clear HL;generalize w.alloc (.cells #[.int .i64 x.op,.int .i64 x.a,.int .i64 x.yes.block,.slice p1 x.yes.regs.length c1,.slice p2 x.yes.args.length c2,.int .i64 x.no.block,.slice p3 x.no.regs.length c3,.slice p4 x.no.args.length c4,.slice p5 x.args.length c5] 53)=w0 at H0 S0 X0 ⊢;have HS:Hid (∃ zz,x.ybs=numY x.op++zz):=⟨_,HE.out⟩;have y0:=cellOf X0.out 0 _ rfl;go_wp2_with fail
  refine (wnum1_any x.op R0.out L0.out H0.out rfl).mono ?_;intro e' w1 hO;rcases hO with ⟨v1,rfl,hl1,h1,s1⟩ | ⟨c',a',v',rfl,hc',hl',s'⟩
  rotate_left
  · exact ⟨rfl,Put.fail hc' hl' (by obtain ⟨zz,hz⟩:=HS.out;rw [hz];simp only [List.length_append];omega) (S0.out.trans s')⟩
  have H1:Hid (WAt w1 b lo v1 (ys++numY x.op)):=h1;have S1:Hid (Step (WO b v) (WO b v1) w w1):=S0.out.trans s1;have X1:Hid (Blk w1 w.heap.size #[.int .i64 x.op,.int .i64 x.a,.int .i64 x.yes.block,.slice p1 x.yes.regs.length c1,.slice p2 x.yes.args.length c2,.int .i64 x.no.block,.slice p3 x.no.regs.length c3,.slice p4 x.no.args.length c4,.slice p5 x.args.length c5] 53):=X0.out.step s1 N0.out;have N1:Hid (¬ WO b v1 w.heap.size):=s1.still X0.out.lt N0.out;have L1:Hid ((ys++numY x.op).length+4≤20000):=hl1;clear h1 s1 hl1 H0 S0 X0 N0 L0 y0;clear HS;by_cases e1:x.op=1
  · have HS:Hid (x.ybs=numY x.op++x.yes.ybs):=by show _=_;rw [HE.out,if_pos e1]
    have y0:=cellOf X1.out 0 _ rfl;have y2:=cellOf X1.out 2 _ rfl;have y3:=cellOf X1.out 3 _ rfl;have y4:=cellOf X1.out 4 _ rfl;go_wp2_with fail
    refine (wto_any (S1.out.lays I1.out (fun k hk _=>H.out.apart hk)) SM.out.1 L1.out H1.out).mono ?_;intro e' w2 hO;rcases hO with ⟨v2,rfl,hl2,h2,s2⟩ | ⟨c',a',v',rfl,hc',hl',s'⟩
    rotate_left
    · exact ⟨rfl,Put.fail hc' hl' (by rw [HS.out];simp only [List.length_append];omega) (S1.out.trans s')⟩
    have H2:Hid (WAt w2 b lo v2 ((ys++numY x.op)++x.yes.ybs)):=h2;have S2:Hid (Step (WO b v) (WO b v2) w w2):=S1.out.trans s2;have X2:Hid (Blk w2 w.heap.size #[.int .i64 x.op,.int .i64 x.a,.int .i64 x.yes.block,.slice p1 x.yes.regs.length c1,.slice p2 x.yes.args.length c2,.int .i64 x.no.block,.slice p3 x.no.regs.length c3,.slice p4 x.no.args.length c4,.slice p5 x.args.length c5] 53):=X1.out.step s2 N1.out;have N2:Hid (¬ WO b v2 w.heap.size):=s2.still X1.out.lt N1.out;have L2:Hid (((ys++numY x.op)++x.yes.ybs).length+4≤20000):=hl2;clear h2 s2 hl2 H1 S1 X1 N1 L1 y0 y2 y3 y4;have Z:Hid (Put b lo v ys (x.ybs) w (.returned (.tuple #[])) w2):=Put.done (by rw [HS.out];simp only [List.append_assoc,List.append_nil]) L2.out H2.out S2.out;clear H2 S2 N2 L2 X2;go_wp2
    exact bodyPost_end (v:=.tuple #[]) (by simp [results,Tryz.results107,go_sem]) rfl Z.out
  by_cases e2:x.op=2
  · have HS:Hid (x.ybs=numY x.op++(numY x.a++(x.yes.ybs++x.no.ybs))):=by show _=_;rw [HE.out,if_neg e1,if_pos e2]
    have y0:=cellOf X1.out 0 _ rfl;have y1:=cellOf X1.out 1 _ rfl;go_wp2_with fail
    refine (wnum1_any x.a R1.out L1.out H1.out rfl).mono ?_;intro e' w2 hO;rcases hO with ⟨v2,rfl,hl2,h2,s2⟩ | ⟨c',a',v',rfl,hc',hl',s'⟩
    rotate_left
    · exact ⟨rfl,Put.fail hc' hl' (by rw [HS.out];simp only [List.length_append];omega) (S1.out.trans s')⟩
    have H2:Hid (WAt w2 b lo v2 ((ys++numY x.op)++numY x.a)):=h2;have S2:Hid (Step (WO b v) (WO b v2) w w2):=S1.out.trans s2;have X2:Hid (Blk w2 w.heap.size #[.int .i64 x.op,.int .i64 x.a,.int .i64 x.yes.block,.slice p1 x.yes.regs.length c1,.slice p2 x.yes.args.length c2,.int .i64 x.no.block,.slice p3 x.no.regs.length c3,.slice p4 x.no.args.length c4,.slice p5 x.args.length c5] 53):=X1.out.step s2 N1.out;have N2:Hid (¬ WO b v2 w.heap.size):=s2.still X1.out.lt N1.out;have L2:Hid (((ys++numY x.op)++numY x.a).length+4≤20000):=hl2;clear h2 s2 hl2 H1 S1 X1 N1 L1 y0 y1;have y2:=cellOf X2.out 2 _ rfl;have y3:=cellOf X2.out 3 _ rfl;have y4:=cellOf X2.out 4 _ rfl;go_wp2_with fail
    refine (wto_any (S2.out.lays I1.out (fun k hk _=>H.out.apart hk)) SM.out.1 L2.out H2.out).mono ?_;intro e' w3 hO;rcases hO with ⟨v3,rfl,hl3,h3,s3⟩ | ⟨c',a',v',rfl,hc',hl',s'⟩
    rotate_left
    · exact ⟨rfl,Put.fail hc' hl' (by rw [HS.out];simp only [List.length_append];omega) (S2.out.trans s')⟩
    have H3:Hid (WAt w3 b lo v3 (((ys++numY x.op)++numY x.a)++x.yes.ybs)):=h3;have S3:Hid (Step (WO b v) (WO b v3) w w3):=S2.out.trans s3;have X3:Hid (Blk w3 w.heap.size #[.int .i64 x.op,.int .i64 x.a,.int .i64 x.yes.block,.slice p1 x.yes.regs.length c1,.slice p2 x.yes.args.length c2,.int .i64 x.no.block,.slice p3 x.no.regs.length c3,.slice p4 x.no.args.length c4,.slice p5 x.args.length c5] 53):=X2.out.step s3 N2.out;have N3:Hid (¬ WO b v3 w.heap.size):=s3.still X2.out.lt N2.out;have L3:Hid ((((ys++numY x.op)++numY x.a)++x.yes.ybs).length+4≤20000):=hl3;clear h3 s3 hl3 H2 S2 X2 N2 L2 y2 y3 y4;have y5:=cellOf X3.out 5 _ rfl;have y6:=cellOf X3.out 6 _ rfl;have y7:=cellOf X3.out 7 _ rfl;go_wp2_with fail
    refine (wto_any (S3.out.lays I2.out (fun k hk _=>H.out.apart hk)) SM.out.2.1 L3.out H3.out).mono ?_;intro e' w4 hO;rcases hO with ⟨v4,rfl,hl4,h4,s4⟩ | ⟨c',a',v',rfl,hc',hl',s'⟩
    rotate_left
    · exact ⟨rfl,Put.fail hc' hl' (by rw [HS.out];simp only [List.length_append];omega) (S3.out.trans s')⟩
    have H4:Hid (WAt w4 b lo v4 ((((ys++numY x.op)++numY x.a)++x.yes.ybs)++x.no.ybs)):=h4;have S4:Hid (Step (WO b v) (WO b v4) w w4):=S3.out.trans s4;have X4:Hid (Blk w4 w.heap.size #[.int .i64 x.op,.int .i64 x.a,.int .i64 x.yes.block,.slice p1 x.yes.regs.length c1,.slice p2 x.yes.args.length c2,.int .i64 x.no.block,.slice p3 x.no.regs.length c3,.slice p4 x.no.args.length c4,.slice p5 x.args.length c5] 53):=X3.out.step s4 N3.out;have N4:Hid (¬ WO b v4 w.heap.size):=s4.still X3.out.lt N3.out;have L4:Hid (((((ys++numY x.op)++numY x.a)++x.yes.ybs)++x.no.ybs).length+4≤20000):=hl4;clear h4 s4 hl4 H3 S3 X3 N3 L3 y5 y6 y7;have Z:Hid (Put b lo v ys (x.ybs) w (.returned (.tuple #[])) w4):=Put.done (by rw [HS.out];simp only [List.append_assoc,List.append_nil]) L4.out H4.out S4.out;clear H4 S4 N4 L4 X4;go_wp2
    exact bodyPost_end (v:=.tuple #[]) (by simp [results,Tryz.results107,go_sem]) rfl Z.out
  by_cases e3:x.op=3
  · have HS:Hid (x.ybs=numY x.op++listY numY x.args):=by show _=_;rw [HE.out,if_neg e1,if_neg e2,if_pos e3]
    have y0:=cellOf X1.out 0 _ rfl;have y8:=cellOf X1.out 8 _ rfl;go_wp2_with fail
    refine (wlist_any (S1.out.lays I3.out (fun k hk _=>H.out.apart hk)) (fun k hk _=>H1.out.apart hk) SM.out.2.2 L1.out H1.out).mono ?_;intro e' w2 hO;rcases hO with ⟨v2,rfl,hl2,h2,s2⟩ | ⟨c',a',v',rfl,hc',hl',s'⟩
    rotate_left
    · exact ⟨rfl,Put.fail hc' hl' (by rw [HS.out];simp only [List.length_append];omega) (S1.out.trans s')⟩
    have H2:Hid (WAt w2 b lo v2 ((ys++numY x.op)++listY numY x.args)):=h2;have S2:Hid (Step (WO b v) (WO b v2) w w2):=S1.out.trans s2;have X2:Hid (Blk w2 w.heap.size #[.int .i64 x.op,.int .i64 x.a,.int .i64 x.yes.block,.slice p1 x.yes.regs.length c1,.slice p2 x.yes.args.length c2,.int .i64 x.no.block,.slice p3 x.no.regs.length c3,.slice p4 x.no.args.length c4,.slice p5 x.args.length c5] 53):=X1.out.step s2 N1.out;have N2:Hid (¬ WO b v2 w.heap.size):=s2.still X1.out.lt N1.out;have L2:Hid (((ys++numY x.op)++listY numY x.args).length+4≤20000):=hl2;clear h2 s2 hl2 H1 S1 X1 N1 L1 y0 y8;have Z:Hid (Put b lo v ys (x.ybs) w (.returned (.tuple #[])) w2):=Put.done (by rw [HS.out];simp only [List.append_assoc,List.append_nil]) L2.out H2.out S2.out;clear H2 S2 N2 L2 X2;go_wp2
    exact bodyPost_end (v:=.tuple #[]) (by simp [results,Tryz.results107,go_sem]) rfl Z.out
  have HS:Hid (x.ybs=numY x.op++[]):=by show _=_;rw [HE.out,if_neg e1,if_neg e2,if_neg e3]
  have y0:=cellOf X1.out 0 _ rfl;have Z:Hid (Put b lo v ys (x.ybs) w (.returned (.tuple #[])) w1):=Put.done (by rw [HS.out];simp only [List.append_assoc,List.append_nil]) L1.out H1.out S1.out;clear H1 S1 N1 L1 X1;go_wp2
  exact bodyPost_end (v:=.tuple #[]) (by simp [results,Tryz.results107,go_sem]) rfl Z.out
theorem wputT {w : World} {b lo : Nat} {v : Value} {ys : List UInt8} {n B1 : Nat} {xs : List (TT n)} {a : Option Addr} {c : Nat} (hx : (Lay.tt n).list.In w (fun g => g < lo) xs [.slice a xs.length c]) (hsm : xs.length ≤ 100000) (hE0 : Enters 104)
    (ONE0:∀ (wr:World) (v':Value) (acc:List UInt8) (i:Nat) x cs,xs[i]?=some x→(Lay.tt n).In wr (fun g=>g<lo) x cs→Step (WO b v) (WO b v') w wr→acc.length+4≤20000→WAt wr b lo v' acc→Calls Tryz.prog 104 #[(.agg cs.toArray),ptrP B1] wr fun en w'=>Put b lo v' acc (TT.ybs x) wr en w')
    (hl:ys.length+4≤20000) (h:WAt w b lo v ys) :
    Calls Tryz.prog 103 #[ptrP b,.slice a xs.length c,.func (.func 104) #[] #[ptrP B1]] w fun en w'=>Put b lo v ys (listY (TT.ybs) xs) w en w':=by
  have hbw:=(h.lt (.inl rfl)).2;have hlow:=h.low;have H:Hid (WAt w b lo v ys):=h;have HL:Hid (ys.length+4≤20000):=hl;have HX:Hid ((Lay.tt n).list.In w (fun g=>g<lo) xs [.slice a xs.length c]):=hx;have hE:=hE0;unfold Enters at hE;have ONE:Hid (∀ (wr:World) (v':Value) (acc:List UInt8) (i:Nat) x cs,xs[i]?=some x→(Lay.tt n).In wr (fun g=>g<lo) x cs→Step (WO b v) (WO b v') w wr→acc.length+4≤20000→WAt wr b lo v' acc→Calls Tryz.prog 104 #[(.agg cs.toArray),ptrP B1] wr fun en w'=>Put b lo v' acc (TT.ybs x) wr en w'):=ONE0;have HR:Hid (i64r (xs.length:Int)):=by show i64r _;exact ⟨by omega,by omega⟩
  generalize hN:xs.length=N at hsm HR HX;have HN:Hid (xs.length=N):=hN;have HS:Hid (listY (TT.ybs) xs=numY (N:Int)++xs.flatMap (TT.ybs)):=by show _=_;rw [listY,hN]
  clear h hl hx hE0 ONE0 hN;go_enter Tryz.func103,Tryz.ntmps103
  go_wp2_with fail
  refine (wnum1_any (N:Int) HR.out HL.out H.out rfl).mono ?_;intro e' w1 hO;rcases hO with ⟨v1,rfl,hl1,h1,s1⟩ | ⟨c',a',v',rfl,hc',hl',s'⟩
  rotate_left
  · exact ⟨rfl,Put.fail hc' hl' (by rw [HS.out];simp only [List.length_append];omega) s'⟩
  have H1:Hid (WAt w1 b lo v1 (ys++numY (N:Int))):=h1;have S1:Hid (Step (WO b v) (WO b v1) w w1):=s1;have L1:Hid ((ys++numY (N:Int)).length+4≤20000):=hl1;clear h1 s1 hl1;go_wp2_with fail
  go_loopw [15] (fun r wr=>∃ i:Nat,r=.int .i64 i∧i≤N∧((ys++numY (N:Int))++(xs.take i).flatMap (TT.ybs)).length+4≤20000∧WGo w b lo v ((ys++numY (N:Int))++(xs.take i).flatMap (TT.ybs)) wr) (fun r _=>N - (intOf r).toNat)
  case atStart=>exact ⟨0,rfl,Nat.zero_le _,by simpa using L1.out,v1,by simpa using H1.out,S1.out⟩
  case round =>
    obtain ⟨i,rfl,hi,hl,v4,h4,s4⟩:=hrel;have H4:Hid (WAt wr b lo v4 ((ys++numY (N:Int))++(xs.take i).flatMap (TT.ybs))):=h4;have S4:Hid (Step (WO b v) (WO b v4) w wr):=s4;have L4:Hid (((ys++numY (N:Int))++(xs.take i).flatMap (TT.ybs)).length+4≤20000):=hl;clear h4 s4 hl H1 S1 L1;by_cases hlt:i<N
    · have hxi:xs[i]?=some (xs[i]'(by rw [HN.out];exact hlt)):=List.getElem?_eq_getElem _;generalize xs[i]'(by rw [HN.out];exact hlt)=x at hxi;obtain ⟨g,o,ds,rfl,hg,hgw,hc,hds⟩:=Lay.list_at (S4.out.lays HX.out (fun k hk _=>H.out.apart hk)) hxi;have hds0:=hds;have hds1:=hds;obtain ⟨q0,n0,rfl,-⟩:=hds1;have d0:=hc 0 (show 0<3 by omega);have d1:=hc 1 (show 1<3 by omega);have d2:=hc 2 (show 2<3 by omega);rw [show (Lay.tt n).size=3 from rfl] at d0 d1 d2;simp only [List.getElem?_cons_zero,List.getElem?_cons_succ,Nat.add_zero] at d0 d1 d2;have hlt':(i:Int)<N:=by omega
      have ET:Hid ((xs.take (i+1)).flatMap (TT.ybs)=(xs.take i).flatMap (TT.ybs)++TT.ybs x):=by
        show _=_;rw [List.take_add_one,hxi,Option.toList_some,List.flatMap_append];simp
      have EW:Hid (((xs.take i).flatMap (TT.ybs)++TT.ybs x).length≤(xs.flatMap (TT.ybs)).length):=by
        rw [← ET.out];have e:=List.take_append_drop (i+1) xs;have e2:=congrArg (fun l=>(List.flatMap (TT.ybs) l).length) e;simp only [List.flatMap_append,List.length_append] at e2;show (List.flatMap (TT.ybs) (xs.take (i+1))).length≤_;omega
      have HO:Hid (WAt (wr.alloc (.cells #[.int .i64 x.kind,.int .i64 x.r,.slice q0 x.len n0] 88)) b lo v4 ((ys++numY (N:Int))++(xs.take i).flatMap (TT.ybs))):=H4.out.alloc _
      have C:Hid (Calls Tryz.prog 104 #[(.agg #[.int .i64 x.kind,.int .i64 x.r,.slice q0 x.len n0]),ptrP B1] (wr.alloc (.cells #[.int .i64 x.kind,.int .i64 x.r,.slice q0 x.len n0] 88)) fun en w'=>Put b lo v4 ((ys++numY (N:Int))++(xs.take i).flatMap (TT.ybs)) (TT.ybs x) wr en w') :=
        (ONE.out (wr.alloc (.cells #[.int .i64 x.kind,.int .i64 x.r,.slice q0 x.len n0] 88)) v4 _ i x _ hxi (Lay.alloc hds0 _) (S4.out.alloc _) L4.out HO.out).mono fun en w' hO=>hO.from (bel1 _ _) (fun k hk=>(H4.out.lt hk).2)
      clear hc hds hds0 hxi HO;go_wp2_with fail
      refine C.out.mono ?_;intro e' w5 hO;rcases hO with ⟨v5,rfl,hl5,h5,s5⟩ | ⟨c',a',v',rfl,hc',hl',s'⟩
      rotate_left
      · exact ⟨rfl,Put.fail hc' hl' (by rw [HS.out];have:=EW.out;simp only [List.length_append] at this ⊢;omega) (S4.out.trans s')⟩
      have U:Hid (((ys++numY (N:Int))++(xs.take (i+1)).flatMap (TT.ybs)).length+4≤20000∧WGo w b lo v ((ys++numY (N:Int))++(xs.take (i+1)).flatMap (TT.ybs)) w5):=by
        show _∧_;rw [ET.out,← List.append_assoc];exact ⟨hl5,v5,h5,S4.out.trans s5⟩
      clear hl5 h5 s5 H4 S4 L4 ET EW C d0 d1 d2;go_wp2
      go_roundw
      case rel=>exact ⟨i+1,by simp,hlt,U.out⟩
      case measure=>simp [intOf];omega
    · have hlt':¬ (i:Int)<N:=by omega
      have e:xs.take i=xs:=List.take_of_length_le (by rw [HN.out];omega)
      have Z:Hid (Put b lo v ys (listY (TT.ybs) xs) w (.returned (.tuple #[])) wr):=by
        have h1:=H4.out;have h2:=L4.out;rw [e] at h1 h2;exact Put.done (by rw [HS.out,List.append_assoc]) h2 h1 S4.out
      clear H4 S4 L4;go_wp2
      exact bodyPost_end (v:=.tuple #[]) (by simp [results,Tryz.results103,go_sem]) rfl Z.out
theorem enters_wtypes1 : Enters 104 := fun _ _ => by kernel_rfl
def WTypes (n : Nat) : Prop := ∀ (w : World) (b lo : Nat) (v : Value) (ys : List UInt8) (xs : List (TT n)) (a : Option Addr) (c : Nat), (typesL n).In w (fun g => g < lo) xs [.slice a xs.length c] → tsmall xs → (∀ t ∈ xs, t.yOk) → ys.length + 4 ≤ 20000 → WAt w b lo v ys →
  Calls Tryz.prog 78 #[ptrP b,.slice a xs.length c] w fun en w'=>Put b lo v ys (listY TT.ybs xs) w en w'
theorem tt_open {n : Nat} {w : World} {O : Nat → Prop} {t : TT (n + 1)} {cs : List Value} (h : (Lay.tt (n + 1)).In w O t cs) : ∃ q0 n0, cs = [.int .i64 t.1, .int .i64 t.2.1, .slice q0 t.2.2.length n0] ∧ (typesL n).In w O t.2.2 [.slice q0 t.2.2.length n0] := by
  obtain ⟨q0,n0,rfl,h1,h2⟩:=h;exact ⟨q0,n0,rfl,types_of_lin h1.list h2.2⟩
theorem le_sum {α : Type} {f : α → Nat} {x : α} : ∀ {l : List α}, x ∈ l → f x ≤ (l.map f).sum
  | y::l,h=>by
    rw [List.map_cons,List.sum_cons];rcases List.mem_cons.1 h with rfl | h
    · omega
    · have:=le_sum (f:=f) h;omega
theorem len_sum {α : Type} {f : α → Nat} (hf : ∀ x, 0 < f x) : ∀ (l : List α), l.length ≤ (l.map f).sum
  | []=>by simp
  | y::l=>by
    rw [List.map_cons,List.sum_cons,List.length_cons]
    have:=len_sum hf l
    have:=hf y
    omega
theorem count_parts {n : Nat} {t : TT (n + 1)} (h : t.count ≤ 100000) : tsmall t.2.2 := by
  rw [TT.count] at h;refine ⟨?_,fun s hs=>?_⟩
  · have:=len_sum TT.count_pos t.2.2;omega
  · have:=le_sum (f:=TT.count (n:=n)) hs;omega
theorem wtyp1_any {w : World} {b lo : Nat} {v : Value} {ys : List UInt8} {n B1 : Nat} {t : TT (n + 1)} {cs : List Value} {T1 : TypeId} (IH0 : WTypes n) (hb1 : Blk w B1 #[ptrP b] T1) (hn1 : ¬ WO b v B1) (hx : (Lay.tt (n + 1)).In w (fun g => g < lo) t cs) (hsm : t.count ≤ 100000) (hy : t.yOk) (hl : ys.length + 4 ≤ 20000) (h : WAt w b lo v ys) :
    Calls Tryz.prog 104 #[.agg cs.toArray,ptrP B1] w fun en w'=>Put b lo v ys t.ybs w en w':=by
  have hbw:=(h.lt (.inl rfl)).2;have hlow:=h.low;have hl1:=hb1.lt;have H:Hid (WAt w b lo v ys):=h;have HL:Hid (ys.length+4≤20000):=hl;have IH:Hid (WTypes n):=IH0;have Y1:Hid (Blk w B1 #[ptrP b] T1):=hb1;have NN1:Hid (¬ WO b v B1):=hn1;obtain ⟨q0,n0,rfl,i1⟩:=tt_open hx;have I1:Hid ((typesL n).In w (fun g=>g<lo) t.2.2 [.slice q0 t.2.2.length n0]):=i1;have SM:Hid (tsmall t.2.2):=count_parts hsm;obtain ⟨y1,y2,_,_,y5⟩:=hy;have R0:Hid (i64r t.1):=y1;have R1:Hid (i64r t.2.1):=y2;have YO:Hid (t.1=3→∀ x∈t.2.2,TT.yOk (n:=n) x):=fun e=>(y5 e).2.2;have HE:Hid (t.ybs=numY t.1++((if t.1=1 then [] else numY t.2.1)++(if t.1=3 then listY TT.ybs t.2.2 else []))):=by show _=_;rw [TT.ybs];rfl
  clear h hl IH0 hb1 hn1 hx hsm y1 y2 y5 i1;generalize t.1=kd at R0 YO HE ⊢;generalize t.2.1=rg at R1 HE ⊢;generalize t.2.2=ts at I1 SM YO HE ⊢;go_enter Tryz.func104,Tryz.ntmps104
  go_upto_region 1 with fail
  have H0:Hid (WAt (w.alloc (.cells #[.int .i64 kd,.int .i64 rg,.slice q0 ts.length n0] 88)) b lo v ys):=H.out.alloc _;have S0:Hid (Step (WO b v) (WO b v) w (w.alloc (.cells #[.int .i64 kd,.int .i64 rg,.slice q0 ts.length n0] 88))):=(Step.refl _ w).alloc _;have X0:Hid (Blk (w.alloc (.cells #[.int .i64 kd,.int .i64 rg,.slice q0 ts.length n0] 88)) w.heap.size #[.int .i64 kd,.int .i64 rg,.slice q0 ts.length n0] 88):=Blk.new _ _ _;have N0:Hid (¬ WO b v w.heap.size):=H.out.apart2 (Nat.le_refl _);have L0:Hid (ys.length+4≤20000):=HL.out;clear HL;generalize w.alloc (.cells #[.int .i64 kd,.int .i64 rg,.slice q0 ts.length n0] 88)=w0 at H0 S0 X0 ⊢;have HS:Hid (∃ zz,t.ybs=numY kd++zz):=⟨_,HE.out⟩;have y0:=cellOf X0.out 0 _ rfl;have q1:=cellOf (Y1.out.step S0.out NN1.out) 0 _ rfl;go_wp2_with fail
  refine (wnum1_any kd R0.out L0.out H0.out rfl).mono ?_;intro e' w1 hO;rcases hO with ⟨v1,rfl,hl1,h1,s1⟩ | ⟨c',a',v',rfl,hc',hl',s'⟩
  rotate_left
  · exact ⟨rfl,Put.fail hc' hl' (by obtain ⟨zz,hz⟩:=HS.out;rw [hz];simp only [List.length_append];omega) (S0.out.trans s')⟩
  have H1:Hid (WAt w1 b lo v1 (ys++numY kd)):=h1;have S1:Hid (Step (WO b v) (WO b v1) w w1):=S0.out.trans s1;have X1:Hid (Blk w1 w.heap.size #[.int .i64 kd,.int .i64 rg,.slice q0 ts.length n0] 88):=X0.out.step s1 N0.out;have N1:Hid (¬ WO b v1 w.heap.size):=s1.still X0.out.lt N0.out;have L1:Hid ((ys++numY kd).length+4≤20000):=hl1;clear h1 s1 hl1 H0 S0 X0 N0 L0 y0;clear HS q1;by_cases e1:kd=1
  · have HS:Hid (t.ybs=numY kd):=by show _=_;rw [HE.out,if_pos e1,if_neg (by omega),List.append_nil,List.append_nil];try rfl
    have y0:=cellOf X1.out 0 _ rfl;have Z:Hid (Put b lo v ys (t.ybs) w (.returned (.tuple #[])) w1):=Put.done (by rw [HS.out];try simp only [List.append_assoc,List.append_nil]) L1.out H1.out S1.out;clear H1 S1 N1 L1 X1;go_wp2
    exact bodyPost_end (v:=.tuple #[]) (by simp [results,Tryz.results104,go_sem]) rfl Z.out
  by_cases e3:kd=3
  · have HS:Hid (t.ybs=numY kd++(numY rg++listY TT.ybs ts)):=by show _=_;rw [HE.out,if_neg e1,if_pos e3];try rfl
    have y0:=cellOf X1.out 0 _ rfl;have y1:=cellOf X1.out 1 _ rfl;have q1:=cellOf (Y1.out.step S1.out NN1.out) 0 _ rfl;go_wp2_with fail
    refine (wnum1_any rg R1.out L1.out H1.out rfl).mono ?_;intro e' w2 hO;rcases hO with ⟨v2,rfl,hl2,h2,s2⟩ | ⟨c',a',v',rfl,hc',hl',s'⟩
    rotate_left
    · exact ⟨rfl,Put.fail hc' hl' (by rw [HS.out];simp only [List.length_append];omega) (S1.out.trans s')⟩
    have H2:Hid (WAt w2 b lo v2 ((ys++numY kd)++numY rg)):=h2;have S2:Hid (Step (WO b v) (WO b v2) w w2):=S1.out.trans s2;have X2:Hid (Blk w2 w.heap.size #[.int .i64 kd,.int .i64 rg,.slice q0 ts.length n0] 88):=X1.out.step s2 N1.out;have N2:Hid (¬ WO b v2 w.heap.size):=s2.still X1.out.lt N1.out;have L2:Hid (((ys++numY kd)++numY rg).length+4≤20000):=hl2;clear h2 s2 hl2 H1 S1 X1 N1 L1 y0 y1;clear q1;have y0:=cellOf X2.out 0 _ rfl;have y2:=cellOf X2.out 2 _ rfl;have q1:=cellOf (Y1.out.step S2.out NN1.out) 0 _ rfl;go_wp2_with fail
    refine (IH.out _ b lo _ _ ts q0 n0 (S2.out.lays I1.out (fun k hk _=>H.out.apart hk)) SM.out (YO.out e3) L2.out H2.out).mono ?_;intro e' w3 hO;rcases hO with ⟨v3,rfl,hl3,h3,s3⟩ | ⟨c',a',v',rfl,hc',hl',s'⟩
    rotate_left
    · exact ⟨rfl,Put.fail hc' hl' (by rw [HS.out];simp only [List.length_append];omega) (S2.out.trans s')⟩
    have H3:Hid (WAt w3 b lo v3 (((ys++numY kd)++numY rg)++listY TT.ybs ts)):=h3;have S3:Hid (Step (WO b v) (WO b v3) w w3):=S2.out.trans s3;have X3:Hid (Blk w3 w.heap.size #[.int .i64 kd,.int .i64 rg,.slice q0 ts.length n0] 88):=X2.out.step s3 N2.out;have N3:Hid (¬ WO b v3 w.heap.size):=s3.still X2.out.lt N2.out;have L3:Hid ((((ys++numY kd)++numY rg)++listY TT.ybs ts).length+4≤20000):=hl3;clear h3 s3 hl3 H2 S2 X2 N2 L2 y0 y2;have Z:Hid (Put b lo v ys (t.ybs) w (.returned (.tuple #[])) w3):=Put.done (by rw [HS.out];try simp only [List.append_assoc,List.append_nil]) L3.out H3.out S3.out;clear H3 S3 N3 L3 X3;go_wp2
    exact bodyPost_end (v:=.tuple #[]) (by simp [results,Tryz.results104,go_sem]) rfl Z.out
  have HS:Hid (t.ybs=numY kd++numY rg):=by show _=_;rw [HE.out,if_neg e1,if_neg e3,List.append_nil];try rfl
  have y0:=cellOf X1.out 0 _ rfl;have y1:=cellOf X1.out 1 _ rfl;have q1:=cellOf (Y1.out.step S1.out NN1.out) 0 _ rfl;go_wp2_with fail
  refine (wnum1_any rg R1.out L1.out H1.out rfl).mono ?_;intro e' w2 hO;rcases hO with ⟨v2,rfl,hl2,h2,s2⟩ | ⟨c',a',v',rfl,hc',hl',s'⟩
  rotate_left
  · exact ⟨rfl,Put.fail hc' hl' (by rw [HS.out];simp only [List.length_append];omega) (S1.out.trans s')⟩
  have H2:Hid (WAt w2 b lo v2 ((ys++numY kd)++numY rg)):=h2;have S2:Hid (Step (WO b v) (WO b v2) w w2):=S1.out.trans s2;have X2:Hid (Blk w2 w.heap.size #[.int .i64 kd,.int .i64 rg,.slice q0 ts.length n0] 88):=X1.out.step s2 N1.out;have N2:Hid (¬ WO b v2 w.heap.size):=s2.still X1.out.lt N1.out;have L2:Hid (((ys++numY kd)++numY rg).length+4≤20000):=hl2;clear h2 s2 hl2 H1 S1 X1 N1 L1 y0 y1;have y0:=cellOf X2.out 0 _ rfl;have Z:Hid (Put b lo v ys (t.ybs) w (.returned (.tuple #[])) w2):=Put.done (by rw [HS.out];try simp only [List.append_assoc,List.append_nil]) L2.out H2.out S2.out;clear H2 S2 N2 L2 X2;go_wp2
  exact bodyPost_end (v:=.tuple #[]) (by simp [results,Tryz.results104,go_sem]) rfl Z.out
theorem wtypes_step (n : Nat) (IH : ∀ m, n = m + 1 → WTypes m) : WTypes n := by
  intro w b lo v ys xs a c hx hsm hy hl h;have hmf:∀ (fn:Fn) (first cap:Array Value) (w:World),(Instr.makeFunc fn first cap).run Tryz.prog w=.ok (.func fn first cap) w:=fun _ _ _ _=>rfl;have H:Hid (WAt w b lo v ys):=h
  have C:Hid (Calls Tryz.prog 103 #[ptrP b,.slice a xs.length c,.func (.func 104) #[] #[ptrP w.heap.size]] (w.alloc (.cells #[ptrP b] 62)) fun en w'=>Put b lo v ys (listY TT.ybs xs) (w.alloc (.cells #[ptrP b] 62)) en w'):=by
    refine wputT (B1:=w.heap.size) (Lay.alloc hx _) hsm.1 enters_wtypes1 (fun wr v' acc i x cs hi hx' hs hl' h'=>?_) hl (h.alloc _);have hm:=List.mem_of_getElem? hi;have hN:¬ WO b v w.heap.size:=h.apart2 (Nat.le_refl _);have hB:=Blk.new w #[ptrP b] 62
    cases n with
    | zero=>exact Empty.elim x
    | succ m=>exact wtyp1_any (IH m rfl) (hB.step hs hN) (hs.still hB.lt hN) hx' (hsm.2 x hm) (hy x hm) hl' h'
  clear hx hsm hy hl h;go_enter Tryz.func78,Tryz.ntmps78
  go_wp2_with fail
  refine C.out.mono ?_;intro e' w1 hO;have hO:=hO.from (bel1 _ _) (fun k hk=>(H.out.lt hk).2);have O:Hid (Put b lo v ys (listY TT.ybs xs) w e' w1):=hO;rcases hO with ⟨v1,rfl,hl1,h1,s1⟩ | ⟨c',a',v',rfl,hc',hl',s'⟩
  rotate_left
  · exact ⟨rfl,O.out⟩
  clear hl1 h1 s1 C;go_wp2
  exact bodyPost_end (v:=.tuple #[]) (by simp [results,Tryz.results78,go_sem]) rfl O.out
theorem wtypes_all : (n : Nat) → WTypes n
  | 0=>wtypes_step 0 (fun m e=>by cases e)
  | n+1=>wtypes_step (n+1) (fun m e=>by injection e with e;subst e;exact wtypes_all n)
theorem enters_wins : Enters 106 := fun _ _ => by kernel_rfl
theorem enters_wblock : Enters 80 := fun _ _ => by kernel_rfl
theorem enters_wfunc : Enters 51 := fun _ _ => by kernel_rfl
theorem wputN {w : World} {b lo : Nat} {v : Value} {ys : List UInt8} {xs : List MIns} {a : Option Addr} {c : Nat} (hx : insL.list.In w (fun g => g < lo) xs [.slice a xs.length c]) (hsm : xs.length ≤ 100000) (hE0 : Enters 106)
    (ONE0:∀ (wr:World) (v':Value) (acc:List UInt8) (i:Nat) x cs,xs[i]?=some x→insL.In wr (fun g=>g<lo) x cs→Step (WO b v) (WO b v') w wr→acc.length+4≤20000→WAt wr b lo v' acc→Calls Tryz.prog 106 #[ptrP b,(.agg cs.toArray)] wr fun en w'=>Put b lo v' acc (MIns.ybs x) wr en w')
    (hl:ys.length+4≤20000) (h:WAt w b lo v ys) :
    Calls Tryz.prog 105 #[ptrP b,.slice a xs.length c,.func (.func 106) #[ptrP b] #[]] w fun en w'=>Put b lo v ys (listY (MIns.ybs) xs) w en w':=by
  have hbw:=(h.lt (.inl rfl)).2;have hlow:=h.low;have H:Hid (WAt w b lo v ys):=h;have HL:Hid (ys.length+4≤20000):=hl;have HX:Hid (insL.list.In w (fun g=>g<lo) xs [.slice a xs.length c]):=hx;have hE:=hE0;unfold Enters at hE;have ONE:Hid (∀ (wr:World) (v':Value) (acc:List UInt8) (i:Nat) x cs,xs[i]?=some x→insL.In wr (fun g=>g<lo) x cs→Step (WO b v) (WO b v') w wr→acc.length+4≤20000→WAt wr b lo v' acc→Calls Tryz.prog 106 #[ptrP b,(.agg cs.toArray)] wr fun en w'=>Put b lo v' acc (MIns.ybs x) wr en w'):=ONE0;have HR:Hid (i64r (xs.length:Int)):=by show i64r _;exact ⟨by omega,by omega⟩
  generalize hN:xs.length=N at hsm HR HX;have HN:Hid (xs.length=N):=hN;have HS:Hid (listY (MIns.ybs) xs=numY (N:Int)++xs.flatMap (MIns.ybs)):=by show _=_;rw [listY,hN]
  clear h hl hx hE0 ONE0 hN;go_enter Tryz.func105,Tryz.ntmps105
  go_wp2_with fail
  refine (wnum1_any (N:Int) HR.out HL.out H.out rfl).mono ?_;intro e' w1 hO;rcases hO with ⟨v1,rfl,hl1,h1,s1⟩ | ⟨c',a',v',rfl,hc',hl',s'⟩
  rotate_left
  · exact ⟨rfl,Put.fail hc' hl' (by rw [HS.out];simp only [List.length_append];omega) s'⟩
  have H1:Hid (WAt w1 b lo v1 (ys++numY (N:Int))):=h1;have S1:Hid (Step (WO b v) (WO b v1) w w1):=s1;have L1:Hid ((ys++numY (N:Int)).length+4≤20000):=hl1;clear h1 s1 hl1;go_wp2_with fail
  go_loopw [15] (fun r wr=>∃ i:Nat,r=.int .i64 i∧i≤N∧((ys++numY (N:Int))++(xs.take i).flatMap (MIns.ybs)).length+4≤20000∧WGo w b lo v ((ys++numY (N:Int))++(xs.take i).flatMap (MIns.ybs)) wr) (fun r _=>N - (intOf r).toNat)
  case atStart=>exact ⟨0,rfl,Nat.zero_le _,by simpa using L1.out,v1,by simpa using H1.out,S1.out⟩
  case round =>
    obtain ⟨i,rfl,hi,hl,v4,h4,s4⟩:=hrel;have H4:Hid (WAt wr b lo v4 ((ys++numY (N:Int))++(xs.take i).flatMap (MIns.ybs))):=h4;have S4:Hid (Step (WO b v) (WO b v4) w wr):=s4;have L4:Hid (((ys++numY (N:Int))++(xs.take i).flatMap (MIns.ybs)).length+4≤20000):=hl;clear h4 s4 hl H1 S1 L1;by_cases hlt:i<N
    · have hxi:xs[i]?=some (xs[i]'(by rw [HN.out];exact hlt)):=List.getElem?_eq_getElem _;generalize xs[i]'(by rw [HN.out];exact hlt)=x at hxi;obtain ⟨g,o,ds,rfl,hg,hgw,hc,hds⟩:=Lay.list_at (S4.out.lays HX.out (fun k hk _=>H.out.apart hk)) hxi;have hds0:=hds;obtain ⟨p6,c6,p7,c7,rfl,-⟩:=ins_form hds;have d0:=hc 0 (show 0<8 by omega);have d1:=hc 1 (show 1<8 by omega);have d2:=hc 2 (show 2<8 by omega);have d3:=hc 3 (show 3<8 by omega);have d4:=hc 4 (show 4<8 by omega);have d5:=hc 5 (show 5<8 by omega);have d6:=hc 6 (show 6<8 by omega);have d7:=hc 7 (show 7<8 by omega);rw [show insL.size=8 from rfl] at d0 d1 d2 d3 d4 d5 d6 d7;simp only [List.getElem?_cons_zero,List.getElem?_cons_succ,Nat.add_zero] at d0 d1 d2 d3 d4 d5 d6 d7;have hlt':(i:Int)<N:=by omega
      have ET:Hid ((xs.take (i+1)).flatMap (MIns.ybs)=(xs.take i).flatMap (MIns.ybs)++MIns.ybs x):=by
        show _=_;rw [List.take_add_one,hxi,Option.toList_some,List.flatMap_append];simp
      have EW:Hid (((xs.take i).flatMap (MIns.ybs)++MIns.ybs x).length≤(xs.flatMap (MIns.ybs)).length):=by
        rw [← ET.out];have e:=List.take_append_drop (i+1) xs;have e2:=congrArg (fun l=>(List.flatMap (MIns.ybs) l).length) e;simp only [List.flatMap_append,List.length_append] at e2;show (List.flatMap (MIns.ybs) (xs.take (i+1))).length≤_;omega
      have HO:Hid (WAt (wr.alloc (.cells #[.int .i64 x.op,.int .i64 x.a,.int .i64 x.b,.int .i64 x.c,.int .i64 x.k,.int .i64 x.n,.slice p6 x.regs.length c6,.slice p7 x.args.length c7] 57)) b lo v4 ((ys++numY (N:Int))++(xs.take i).flatMap (MIns.ybs))):=H4.out.alloc _
      have C:Hid (Calls Tryz.prog 106 #[ptrP b,(.agg #[.int .i64 x.op,.int .i64 x.a,.int .i64 x.b,.int .i64 x.c,.int .i64 x.k,.int .i64 x.n,.slice p6 x.regs.length c6,.slice p7 x.args.length c7])] (wr.alloc (.cells #[.int .i64 x.op,.int .i64 x.a,.int .i64 x.b,.int .i64 x.c,.int .i64 x.k,.int .i64 x.n,.slice p6 x.regs.length c6,.slice p7 x.args.length c7] 57)) fun en w'=>Put b lo v4 ((ys++numY (N:Int))++(xs.take i).flatMap (MIns.ybs)) (MIns.ybs x) wr en w') :=
        (ONE.out (wr.alloc (.cells #[.int .i64 x.op,.int .i64 x.a,.int .i64 x.b,.int .i64 x.c,.int .i64 x.k,.int .i64 x.n,.slice p6 x.regs.length c6,.slice p7 x.args.length c7] 57)) v4 _ i x _ hxi (Lay.alloc hds0 _) (S4.out.alloc _) L4.out HO.out).mono fun en w' hO=>hO.from (bel1 _ _) (fun k hk=>(H4.out.lt hk).2)
      clear hc hds hds0 hxi HO;go_wp2_with fail
      refine C.out.mono ?_;intro e' w5 hO;rcases hO with ⟨v5,rfl,hl5,h5,s5⟩ | ⟨c',a',v',rfl,hc',hl',s'⟩
      rotate_left
      · exact ⟨rfl,Put.fail hc' hl' (by rw [HS.out];have:=EW.out;simp only [List.length_append] at this ⊢;omega) (S4.out.trans s')⟩
      have U:Hid (((ys++numY (N:Int))++(xs.take (i+1)).flatMap (MIns.ybs)).length+4≤20000∧WGo w b lo v ((ys++numY (N:Int))++(xs.take (i+1)).flatMap (MIns.ybs)) w5):=by
        show _∧_;rw [ET.out,← List.append_assoc];exact ⟨hl5,v5,h5,S4.out.trans s5⟩
      clear hl5 h5 s5 H4 S4 L4 ET EW C d0 d1 d2 d3 d4 d5 d6 d7;go_wp2
      go_roundw
      case rel=>exact ⟨i+1,by simp,hlt,U.out⟩
      case measure=>simp [intOf];omega
    · have hlt':¬ (i:Int)<N:=by omega
      have e:xs.take i=xs:=List.take_of_length_le (by rw [HN.out];omega)
      have Z:Hid (Put b lo v ys (listY (MIns.ybs) xs) w (.returned (.tuple #[])) wr):=by
        have h1:=H4.out;have h2:=L4.out;rw [e] at h1 h2;exact Put.done (by rw [HS.out,List.append_assoc]) h2 h1 S4.out
      clear H4 S4 L4;go_wp2
      exact bodyPost_end (v:=.tuple #[]) (by simp [results,Tryz.results105,go_sem]) rfl Z.out
theorem wblock_any {w : World} {b lo : Nat} {v : Value} {ys : List UInt8} {n : Nat} {x : MBlock n} {cs : List Value} (hx : (blockL n).In w (fun g => g < lo) x cs) (hsm : x.small) (hy : x.yOk) (hl : ys.length + 4 ≤ 20000) (h : WAt w b lo v ys) :
    Calls Tryz.prog 80 #[ptrP b,.agg cs.toArray] w fun en w'=>Put b lo v ys (x.ybs) w en w':=by
  have hmf:∀ (fn:Fn) (first cap:Array Value) (w:World),(Instr.makeFunc fn first cap).run Tryz.prog w=.ok (.func fn first cap) w:=fun _ _ _ _=>rfl;have hbw:=(h.lt (.inl rfl)).2;have hlow:=h.low;have H:Hid (WAt w b lo v ys):=h;have HL:Hid (ys.length+4≤20000):=hl;obtain ⟨p6,c6,p7,c7,es,rfl,i1,i2,i3,r0⟩:=block_form hx;have i30:=i3;obtain ⟨d1,d2,p5,c5,rfl,hyy,hno,-,-⟩:=end_form i3;obtain ⟨p1,c1,p2,c2,rfl,-,-,-⟩:=to_form hyy;obtain ⟨p3,c3,p4,c4,rfl,-,-,-⟩:=to_form hno;simp only [List.cons_append,List.nil_append] at i30 ⊢;have I1:Hid ((typesL n).In w (fun g=>g<lo) x.params [.slice p6 x.params.length c6]):=i1;have I2:Hid (insL.list.In w (fun g=>g<lo) x.code [.slice p7 x.code.length c7]):=i2;have I3:Hid (endL.In w (fun g=>g<lo) x.fin [.int .i64 x.fin.op,.int .i64 x.fin.a,.int .i64 x.fin.yes.block,.slice p1 x.fin.yes.regs.length c1,.slice p2 x.fin.yes.args.length c2,.int .i64 x.fin.no.block,.slice p3 x.fin.no.regs.length c3,.slice p4 x.fin.no.args.length c4,.slice p5 x.fin.args.length c5]):=i30;have R0:Hid (i64r x.regs):=r0;have SM:Hid x.small:=hsm;have YO:Hid (∀ t∈x.params,t.yOk):=hy.2.1.2;have HS:Hid (x.ybs=numY x.regs++(listY TT.ybs x.params++(listY MIns.ybs x.code++x.fin.ybs))):=rfl;clear h hl i1 i2 i3 i30 r0 hsm hx hy hyy hno;go_enter Tryz.func80,Tryz.ntmps80
  go_upto_region 1 with fail
  have H0:Hid (WAt (w.alloc (.cells #[.int .i64 x.regs,.slice p6 x.params.length c6,.slice p7 x.code.length c7,.int .i64 x.fin.op,.int .i64 x.fin.a,.int .i64 x.fin.yes.block,.slice p1 x.fin.yes.regs.length c1,.slice p2 x.fin.yes.args.length c2,.int .i64 x.fin.no.block,.slice p3 x.fin.no.regs.length c3,.slice p4 x.fin.no.args.length c4,.slice p5 x.fin.args.length c5] 55)) b lo v ys):=H.out.alloc _;have S0:Hid (Step (WO b v) (WO b v) w (w.alloc (.cells #[.int .i64 x.regs,.slice p6 x.params.length c6,.slice p7 x.code.length c7,.int .i64 x.fin.op,.int .i64 x.fin.a,.int .i64 x.fin.yes.block,.slice p1 x.fin.yes.regs.length c1,.slice p2 x.fin.yes.args.length c2,.int .i64 x.fin.no.block,.slice p3 x.fin.no.regs.length c3,.slice p4 x.fin.no.args.length c4,.slice p5 x.fin.args.length c5] 55))):=(Step.refl _ w).alloc _;have X0:Hid (Blk (w.alloc (.cells #[.int .i64 x.regs,.slice p6 x.params.length c6,.slice p7 x.code.length c7,.int .i64 x.fin.op,.int .i64 x.fin.a,.int .i64 x.fin.yes.block,.slice p1 x.fin.yes.regs.length c1,.slice p2 x.fin.yes.args.length c2,.int .i64 x.fin.no.block,.slice p3 x.fin.no.regs.length c3,.slice p4 x.fin.no.args.length c4,.slice p5 x.fin.args.length c5] 55)) w.heap.size #[.int .i64 x.regs,.slice p6 x.params.length c6,.slice p7 x.code.length c7,.int .i64 x.fin.op,.int .i64 x.fin.a,.int .i64 x.fin.yes.block,.slice p1 x.fin.yes.regs.length c1,.slice p2 x.fin.yes.args.length c2,.int .i64 x.fin.no.block,.slice p3 x.fin.no.regs.length c3,.slice p4 x.fin.no.args.length c4,.slice p5 x.fin.args.length c5] 55):=Blk.new _ _ _;have N0:Hid (¬ WO b v w.heap.size):=H.out.apart2 (Nat.le_refl _);have L0:Hid (ys.length+4≤20000):=HL.out;clear HL;generalize w.alloc (.cells #[.int .i64 x.regs,.slice p6 x.params.length c6,.slice p7 x.code.length c7,.int .i64 x.fin.op,.int .i64 x.fin.a,.int .i64 x.fin.yes.block,.slice p1 x.fin.yes.regs.length c1,.slice p2 x.fin.yes.args.length c2,.int .i64 x.fin.no.block,.slice p3 x.fin.no.regs.length c3,.slice p4 x.fin.no.args.length c4,.slice p5 x.fin.args.length c5] 55)=w0 at H0 S0 X0 ⊢;have y0:=cellOf X0.out 0 _ rfl;go_wp2_with fail
  refine (wnum1_any x.regs R0.out L0.out H0.out rfl).mono ?_;intro e' w1 hO;rcases hO with ⟨v1,rfl,hl1,h1,s1⟩ | ⟨c',a',v',rfl,hc',hl',s'⟩
  rotate_left
  · exact ⟨rfl,Put.fail hc' hl' (by rw [HS.out];simp only [List.length_append];omega) (S0.out.trans s')⟩
  have H1:Hid (WAt w1 b lo v1 (ys++numY x.regs)):=h1;have S1:Hid (Step (WO b v) (WO b v1) w w1):=S0.out.trans s1;have X1:Hid (Blk w1 w.heap.size #[.int .i64 x.regs,.slice p6 x.params.length c6,.slice p7 x.code.length c7,.int .i64 x.fin.op,.int .i64 x.fin.a,.int .i64 x.fin.yes.block,.slice p1 x.fin.yes.regs.length c1,.slice p2 x.fin.yes.args.length c2,.int .i64 x.fin.no.block,.slice p3 x.fin.no.regs.length c3,.slice p4 x.fin.no.args.length c4,.slice p5 x.fin.args.length c5] 55):=X0.out.step s1 N0.out;have N1:Hid (¬ WO b v1 w.heap.size):=s1.still X0.out.lt N0.out;have L1:Hid ((ys++numY x.regs).length+4≤20000):=hl1;clear h1 s1 hl1 H0 S0 X0 N0 L0 y0;have y1:=cellOf X1.out 1 _ rfl;go_wp2_with fail
  refine (wtypes_all n _ b lo _ _ x.params p6 c6 (S1.out.lays I1.out (fun k hk _=>H.out.apart hk)) SM.out.2.1 YO.out L1.out H1.out).mono ?_;intro e' w2 hO;rcases hO with ⟨v2,rfl,hl2,h2,s2⟩ | ⟨c',a',v',rfl,hc',hl',s'⟩
  rotate_left
  · exact ⟨rfl,Put.fail hc' hl' (by rw [HS.out];simp only [List.length_append];omega) (S1.out.trans s')⟩
  have H2:Hid (WAt w2 b lo v2 ((ys++numY x.regs)++listY TT.ybs x.params)):=h2;have S2:Hid (Step (WO b v) (WO b v2) w w2):=S1.out.trans s2;have X2:Hid (Blk w2 w.heap.size #[.int .i64 x.regs,.slice p6 x.params.length c6,.slice p7 x.code.length c7,.int .i64 x.fin.op,.int .i64 x.fin.a,.int .i64 x.fin.yes.block,.slice p1 x.fin.yes.regs.length c1,.slice p2 x.fin.yes.args.length c2,.int .i64 x.fin.no.block,.slice p3 x.fin.no.regs.length c3,.slice p4 x.fin.no.args.length c4,.slice p5 x.fin.args.length c5] 55):=X1.out.step s2 N1.out;have N2:Hid (¬ WO b v2 w.heap.size):=s2.still X1.out.lt N1.out;have L2:Hid (((ys++numY x.regs)++listY TT.ybs x.params).length+4≤20000):=hl2;clear h2 s2 hl2 H1 S1 X1 N1 L1 y1;have y2:=cellOf X2.out 2 _ rfl;go_wp2_with fail
  refine (wputN (S2.out.lays I2.out (fun k hk _=>H.out.apart hk)) SM.out.1 enters_wins (fun wr v' acc i x' cs hi hx' hs hl' h'=>wins_any hx' (SM.out.2.2.2 x' (List.mem_of_getElem? hi)) hl' h') L2.out H2.out).mono ?_;intro e' w3 hO;rcases hO with ⟨v3,rfl,hl3,h3,s3⟩ | ⟨c',a',v',rfl,hc',hl',s'⟩
  rotate_left
  · exact ⟨rfl,Put.fail hc' hl' (by rw [HS.out];simp only [List.length_append];omega) (S2.out.trans s')⟩
  have H3:Hid (WAt w3 b lo v3 (((ys++numY x.regs)++listY TT.ybs x.params)++listY MIns.ybs x.code)):=h3;have S3:Hid (Step (WO b v) (WO b v3) w w3):=S2.out.trans s3;have X3:Hid (Blk w3 w.heap.size #[.int .i64 x.regs,.slice p6 x.params.length c6,.slice p7 x.code.length c7,.int .i64 x.fin.op,.int .i64 x.fin.a,.int .i64 x.fin.yes.block,.slice p1 x.fin.yes.regs.length c1,.slice p2 x.fin.yes.args.length c2,.int .i64 x.fin.no.block,.slice p3 x.fin.no.regs.length c3,.slice p4 x.fin.no.args.length c4,.slice p5 x.fin.args.length c5] 55):=X2.out.step s3 N2.out;have N3:Hid (¬ WO b v3 w.heap.size):=s3.still X2.out.lt N2.out;have L3:Hid ((((ys++numY x.regs)++listY TT.ybs x.params)++listY MIns.ybs x.code).length+4≤20000):=hl3;clear h3 s3 hl3 H2 S2 X2 N2 L2 y2
  have RN:Hid (w3.rangeAt w.heap.size 3 [.int .i64 x.fin.op,.int .i64 x.fin.a,.int .i64 x.fin.yes.block,.slice p1 x.fin.yes.regs.length c1,.slice p2 x.fin.yes.args.length c2,.int .i64 x.fin.no.block,.slice p3 x.fin.no.regs.length c3,.slice p4 x.fin.no.args.length c4,.slice p5 x.fin.args.length c5]):=fun j u hj=>cellOf X3.out (3+j) u (by
    have hj9:j<9:=(List.getElem?_eq_some_iff.1 hj).1;match j,hj9,hj with
    | 0,_,hj=>exact hj
    | 1,_,hj=>exact hj
    | 2,_,hj=>exact hj
    | 3,_,hj=>exact hj
    | 4,_,hj=>exact hj
    | 5,_,hj=>exact hj
    | 6,_,hj=>exact hj
    | 7,_,hj=>exact hj
    | 8,_,hj=>exact hj)
  go_wp2_with (refine wpList_load_mid rfl 53 (.tmp 20) rfl w.heap.size 3 rfl [.int .i64 x.fin.op,.int .i64 x.fin.a,.int .i64 x.fin.yes.block,.slice p1 x.fin.yes.regs.length c1,.slice p2 x.fin.yes.args.length c2,.int .i64 x.fin.no.block,.slice p3 x.fin.no.regs.length c3,.slice p4 x.fin.no.args.length c4,.slice p5 x.fin.args.length c5] _ RN.out Tryz.underlying53 rfl pSizeE ?_)
  refine (wend_any (S3.out.lays I3.out (fun k hk _=>H.out.apart hk)) SM.out.2.2.1 L3.out H3.out).mono ?_;intro e' w4 hO;rcases hO with ⟨v4,rfl,hl4,h4,s4⟩ | ⟨c',a',v',rfl,hc',hl',s'⟩
  rotate_left
  · exact ⟨rfl,Put.fail hc' hl' (by rw [HS.out];simp only [List.length_append];omega) (S3.out.trans s')⟩
  have H4:Hid (WAt w4 b lo v4 ((((ys++numY x.regs)++listY TT.ybs x.params)++listY MIns.ybs x.code)++x.fin.ybs)):=h4;have S4:Hid (Step (WO b v) (WO b v4) w w4):=S3.out.trans s4;have X4:Hid (Blk w4 w.heap.size #[.int .i64 x.regs,.slice p6 x.params.length c6,.slice p7 x.code.length c7,.int .i64 x.fin.op,.int .i64 x.fin.a,.int .i64 x.fin.yes.block,.slice p1 x.fin.yes.regs.length c1,.slice p2 x.fin.yes.args.length c2,.int .i64 x.fin.no.block,.slice p3 x.fin.no.regs.length c3,.slice p4 x.fin.no.args.length c4,.slice p5 x.fin.args.length c5] 55):=X3.out.step s4 N3.out;have N4:Hid (¬ WO b v4 w.heap.size):=s4.still X3.out.lt N3.out;have L4:Hid (((((ys++numY x.regs)++listY TT.ybs x.params)++listY MIns.ybs x.code)++x.fin.ybs).length+4≤20000):=hl4;clear h4 s4 hl4 H3 S3 X3 N3 L3;clear RN;have Z:Hid (Put b lo v ys (x.ybs) w (.returned (.tuple #[])) w4):=Put.done (by rw [HS.out];try simp only [List.append_assoc,List.append_nil]) L4.out H4.out S4.out;clear H4 S4 N4 L4 X4;go_wp2
  exact bodyPost_end (v:=.tuple #[]) (by simp [results,Tryz.results80,go_sem]) rfl Z.out
theorem wputB {w : World} {b lo : Nat} {v : Value} {ys : List UInt8} {n : Nat} {xs : List (MBlock n)} {a : Option Addr} {c : Nat} (hx : (blockL n).list.In w (fun g => g < lo) xs [.slice a xs.length c]) (hsm : xs.length ≤ 100000) (hE0 : Enters 80)
    (ONE0:∀ (wr:World) (v':Value) (acc:List UInt8) (i:Nat) x cs,xs[i]?=some x→(blockL n).In wr (fun g=>g<lo) x cs→Step (WO b v) (WO b v') w wr→acc.length+4≤20000→WAt wr b lo v' acc→Calls Tryz.prog 80 #[ptrP b,(.agg cs.toArray)] wr fun en w'=>Put b lo v' acc (MBlock.ybs x) wr en w')
    (hl:ys.length+4≤20000) (h:WAt w b lo v ys) :
    Calls Tryz.prog 79 #[ptrP b,.slice a xs.length c,.func (.func 80) #[ptrP b] #[]] w fun en w'=>Put b lo v ys (listY (MBlock.ybs) xs) w en w':=by
  have hbw:=(h.lt (.inl rfl)).2;have hlow:=h.low;have H:Hid (WAt w b lo v ys):=h;have HL:Hid (ys.length+4≤20000):=hl;have HX:Hid ((blockL n).list.In w (fun g=>g<lo) xs [.slice a xs.length c]):=hx;have hE:=hE0;unfold Enters at hE;have ONE:Hid (∀ (wr:World) (v':Value) (acc:List UInt8) (i:Nat) x cs,xs[i]?=some x→(blockL n).In wr (fun g=>g<lo) x cs→Step (WO b v) (WO b v') w wr→acc.length+4≤20000→WAt wr b lo v' acc→Calls Tryz.prog 80 #[ptrP b,(.agg cs.toArray)] wr fun en w'=>Put b lo v' acc (MBlock.ybs x) wr en w'):=ONE0;have HR:Hid (i64r (xs.length:Int)):=by show i64r _;exact ⟨by omega,by omega⟩
  generalize hN:xs.length=N at hsm HR HX;have HN:Hid (xs.length=N):=hN;have HS:Hid (listY (MBlock.ybs) xs=numY (N:Int)++xs.flatMap (MBlock.ybs)):=by show _=_;rw [listY,hN]
  clear h hl hx hE0 ONE0 hN;go_enter Tryz.func79,Tryz.ntmps79
  go_wp2_with fail
  refine (wnum1_any (N:Int) HR.out HL.out H.out rfl).mono ?_;intro e' w1 hO;rcases hO with ⟨v1,rfl,hl1,h1,s1⟩ | ⟨c',a',v',rfl,hc',hl',s'⟩
  rotate_left
  · exact ⟨rfl,Put.fail hc' hl' (by rw [HS.out];simp only [List.length_append];omega) s'⟩
  have H1:Hid (WAt w1 b lo v1 (ys++numY (N:Int))):=h1;have S1:Hid (Step (WO b v) (WO b v1) w w1):=s1;have L1:Hid ((ys++numY (N:Int)).length+4≤20000):=hl1;clear h1 s1 hl1;go_wp2_with fail
  go_loopw [15] (fun r wr=>∃ i:Nat,r=.int .i64 i∧i≤N∧((ys++numY (N:Int))++(xs.take i).flatMap (MBlock.ybs)).length+4≤20000∧WGo w b lo v ((ys++numY (N:Int))++(xs.take i).flatMap (MBlock.ybs)) wr) (fun r _=>N - (intOf r).toNat)
  case atStart=>exact ⟨0,rfl,Nat.zero_le _,by simpa using L1.out,v1,by simpa using H1.out,S1.out⟩
  case round =>
    obtain ⟨i,rfl,hi,hl,v4,h4,s4⟩:=hrel;have H4:Hid (WAt wr b lo v4 ((ys++numY (N:Int))++(xs.take i).flatMap (MBlock.ybs))):=h4;have S4:Hid (Step (WO b v) (WO b v4) w wr):=s4;have L4:Hid (((ys++numY (N:Int))++(xs.take i).flatMap (MBlock.ybs)).length+4≤20000):=hl;clear h4 s4 hl H1 S1 L1;by_cases hlt:i<N
    · have hxi:xs[i]?=some (xs[i]'(by rw [HN.out];exact hlt)):=List.getElem?_eq_getElem _;generalize xs[i]'(by rw [HN.out];exact hlt)=x at hxi;obtain ⟨g,o,ds,rfl,hg,hgw,hc,hds⟩:=Lay.list_at (S4.out.lays HX.out (fun k hk _=>H.out.apart hk)) hxi;have hds0:=hds;obtain ⟨p6,c6,p7,c7,es,rfl,-,-,he,-⟩:=block_form hds;obtain ⟨e1,e2,p5,c5,rfl,hy,hno,-,-⟩:=end_form he;obtain ⟨p1,c1,p2,c2,rfl,-,-,-⟩:=to_form hy;obtain ⟨p3,c3,p4,c4,rfl,-,-,-⟩:=to_form hno;clear he hy hno;simp only [List.cons_append,List.nil_append] at hds0 hc;have d0:=hc 0 (show 0<12 by omega);have d1:=hc 1 (show 1<12 by omega);have d2:=hc 2 (show 2<12 by omega);have d3:=hc 3 (show 3<12 by omega);have d4:=hc 4 (show 4<12 by omega);have d5:=hc 5 (show 5<12 by omega);have d6:=hc 6 (show 6<12 by omega);have d7:=hc 7 (show 7<12 by omega);have d8:=hc 8 (show 8<12 by omega);have d9:=hc 9 (show 9<12 by omega);have d10:=hc 10 (show 10<12 by omega);have d11:=hc 11 (show 11<12 by omega);rw [show (blockL n).size=12 from rfl] at d0 d1 d2 d3 d4 d5 d6 d7 d8 d9 d10 d11;simp only [List.getElem?_cons_zero,List.getElem?_cons_succ,Nat.add_zero] at d0 d1 d2 d3 d4 d5 d6 d7 d8 d9 d10 d11;have hlt':(i:Int)<N:=by omega
      have ET:Hid ((xs.take (i+1)).flatMap (MBlock.ybs)=(xs.take i).flatMap (MBlock.ybs)++MBlock.ybs x):=by
        show _=_;rw [List.take_add_one,hxi,Option.toList_some,List.flatMap_append];simp
      have EW:Hid (((xs.take i).flatMap (MBlock.ybs)++MBlock.ybs x).length≤(xs.flatMap (MBlock.ybs)).length):=by
        rw [← ET.out];have e:=List.take_append_drop (i+1) xs;have e2:=congrArg (fun l=>(List.flatMap (MBlock.ybs) l).length) e;simp only [List.flatMap_append,List.length_append] at e2;show (List.flatMap (MBlock.ybs) (xs.take (i+1))).length≤_;omega
      have HO:Hid (WAt (wr.alloc (.cells #[.int .i64 x.regs,.slice p6 x.params.length c6,.slice p7 x.code.length c7,.int .i64 x.fin.op,.int .i64 x.fin.a,.int .i64 x.fin.yes.block,.slice p1 x.fin.yes.regs.length c1,.slice p2 x.fin.yes.args.length c2,.int .i64 x.fin.no.block,.slice p3 x.fin.no.regs.length c3,.slice p4 x.fin.no.args.length c4,.slice p5 x.fin.args.length c5] 55)) b lo v4 ((ys++numY (N:Int))++(xs.take i).flatMap (MBlock.ybs))):=H4.out.alloc _
      have C:Hid (Calls Tryz.prog 80 #[ptrP b,(.agg #[.int .i64 x.regs,.slice p6 x.params.length c6,.slice p7 x.code.length c7,.int .i64 x.fin.op,.int .i64 x.fin.a,.int .i64 x.fin.yes.block,.slice p1 x.fin.yes.regs.length c1,.slice p2 x.fin.yes.args.length c2,.int .i64 x.fin.no.block,.slice p3 x.fin.no.regs.length c3,.slice p4 x.fin.no.args.length c4,.slice p5 x.fin.args.length c5])] (wr.alloc (.cells #[.int .i64 x.regs,.slice p6 x.params.length c6,.slice p7 x.code.length c7,.int .i64 x.fin.op,.int .i64 x.fin.a,.int .i64 x.fin.yes.block,.slice p1 x.fin.yes.regs.length c1,.slice p2 x.fin.yes.args.length c2,.int .i64 x.fin.no.block,.slice p3 x.fin.no.regs.length c3,.slice p4 x.fin.no.args.length c4,.slice p5 x.fin.args.length c5] 55)) fun en w'=>Put b lo v4 ((ys++numY (N:Int))++(xs.take i).flatMap (MBlock.ybs)) (MBlock.ybs x) wr en w') :=
        (ONE.out (wr.alloc (.cells #[.int .i64 x.regs,.slice p6 x.params.length c6,.slice p7 x.code.length c7,.int .i64 x.fin.op,.int .i64 x.fin.a,.int .i64 x.fin.yes.block,.slice p1 x.fin.yes.regs.length c1,.slice p2 x.fin.yes.args.length c2,.int .i64 x.fin.no.block,.slice p3 x.fin.no.regs.length c3,.slice p4 x.fin.no.args.length c4,.slice p5 x.fin.args.length c5] 55)) v4 _ i x _ hxi (Lay.alloc hds0 _) (S4.out.alloc _) L4.out HO.out).mono fun en w' hO=>hO.from (bel1 _ _) (fun k hk=>(H4.out.lt hk).2)
      clear hc hds hds0 hxi HO;go_wp2_with fail
      refine C.out.mono ?_;intro e' w5 hO;rcases hO with ⟨v5,rfl,hl5,h5,s5⟩ | ⟨c',a',v',rfl,hc',hl',s'⟩
      rotate_left
      · exact ⟨rfl,Put.fail hc' hl' (by rw [HS.out];have:=EW.out;simp only [List.length_append] at this ⊢;omega) (S4.out.trans s')⟩
      have U:Hid (((ys++numY (N:Int))++(xs.take (i+1)).flatMap (MBlock.ybs)).length+4≤20000∧WGo w b lo v ((ys++numY (N:Int))++(xs.take (i+1)).flatMap (MBlock.ybs)) w5):=by
        show _∧_;rw [ET.out,← List.append_assoc];exact ⟨hl5,v5,h5,S4.out.trans s5⟩
      clear hl5 h5 s5 H4 S4 L4 ET EW C d0 d1 d2 d3 d4 d5 d6 d7 d8 d9 d10 d11;go_wp2
      go_roundw
      case rel=>exact ⟨i+1,by simp,hlt,U.out⟩
      case measure=>simp [intOf];omega
    · have hlt':¬ (i:Int)<N:=by omega
      have e:xs.take i=xs:=List.take_of_length_le (by rw [HN.out];omega)
      have Z:Hid (Put b lo v ys (listY (MBlock.ybs) xs) w (.returned (.tuple #[])) wr):=by
        have h1:=H4.out;have h2:=L4.out;rw [e] at h1 h2;exact Put.done (by rw [HS.out,List.append_assoc]) h2 h1 S4.out
      clear H4 S4 L4;go_wp2
      exact bodyPost_end (v:=.tuple #[]) (by simp [results,Tryz.results79,go_sem]) rfl Z.out
theorem wfunc_any {w : World} {b lo : Nat} {v : Value} {ys : List UInt8} {n : Nat} {x : MFunc n} {cs : List Value} (hx : (funcL n).In w (fun g => g < lo) x cs) (hsm : x.small) (hy : x.yOk) (hl : ys.length + 4 ≤ 20000) (h : WAt w b lo v ys) :
    Calls Tryz.prog 51 #[ptrP b,.agg cs.toArray] w fun en w'=>Put b lo v ys (x.ybs) w en w':=by
  have hmf:∀ (fn:Fn) (first cap:Array Value) (w:World),(Instr.makeFunc fn first cap).run Tryz.prog w=.ok (.func fn first cap) w:=fun _ _ _ _=>rfl;have hbw:=(h.lt (.inl rfl)).2;have hlow:=h.low;have H:Hid (WAt w b lo v ys):=h;have HL:Hid (ys.length+4≤20000):=hl;obtain ⟨p1,c1,p2,c2,p3,c3,rfl,i1,i2,i3,r0⟩:=func_form hx;have I1:Hid ((typesL n).In w (fun g=>g<lo) x.params [.slice p1 x.params.length c1]):=i1;have I2:Hid ((typesL n).In w (fun g=>g<lo) x.results [.slice p2 x.results.length c2]):=i2;have I3:Hid ((blockL n).list.In w (fun g=>g<lo) x.blocks [.slice p3 x.blocks.length c3]):=i3;have R0:Hid (i64r x.regs):=r0;have SM:Hid x.small:=hsm;have YO:Hid x.yOk:=hy;have HS:Hid (x.ybs=numY x.regs++(listY TT.ybs x.params++(listY TT.ybs x.results++listY MBlock.ybs x.blocks))):=rfl;clear h hl i1 i2 i3 r0 hsm hx hy;go_enter Tryz.func51,Tryz.ntmps51
  go_upto_region 1 with fail
  have H0:Hid (WAt (w.alloc (.cells #[.int .i64 x.regs,.slice p1 x.params.length c1,.slice p2 x.results.length c2,.slice p3 x.blocks.length c3] 46)) b lo v ys):=H.out.alloc _;have S0:Hid (Step (WO b v) (WO b v) w (w.alloc (.cells #[.int .i64 x.regs,.slice p1 x.params.length c1,.slice p2 x.results.length c2,.slice p3 x.blocks.length c3] 46))):=(Step.refl _ w).alloc _;have X0:Hid (Blk (w.alloc (.cells #[.int .i64 x.regs,.slice p1 x.params.length c1,.slice p2 x.results.length c2,.slice p3 x.blocks.length c3] 46)) w.heap.size #[.int .i64 x.regs,.slice p1 x.params.length c1,.slice p2 x.results.length c2,.slice p3 x.blocks.length c3] 46):=Blk.new _ _ _;have N0:Hid (¬ WO b v w.heap.size):=H.out.apart2 (Nat.le_refl _);have L0:Hid (ys.length+4≤20000):=HL.out;clear HL;generalize w.alloc (.cells #[.int .i64 x.regs,.slice p1 x.params.length c1,.slice p2 x.results.length c2,.slice p3 x.blocks.length c3] 46)=w0 at H0 S0 X0 ⊢;have y0:=cellOf X0.out 0 _ rfl;go_wp2_with fail
  refine (wnum1_any x.regs R0.out L0.out H0.out rfl).mono ?_;intro e' w1 hO;rcases hO with ⟨v1,rfl,hl1,h1,s1⟩ | ⟨c',a',v',rfl,hc',hl',s'⟩
  rotate_left
  · exact ⟨rfl,Put.fail hc' hl' (by rw [HS.out];simp only [List.length_append];omega) (S0.out.trans s')⟩
  have H1:Hid (WAt w1 b lo v1 (ys++numY x.regs)):=h1;have S1:Hid (Step (WO b v) (WO b v1) w w1):=S0.out.trans s1;have X1:Hid (Blk w1 w.heap.size #[.int .i64 x.regs,.slice p1 x.params.length c1,.slice p2 x.results.length c2,.slice p3 x.blocks.length c3] 46):=X0.out.step s1 N0.out;have N1:Hid (¬ WO b v1 w.heap.size):=s1.still X0.out.lt N0.out;have L1:Hid ((ys++numY x.regs).length+4≤20000):=hl1;clear h1 s1 hl1 H0 S0 X0 N0 L0 y0;have y1:=cellOf X1.out 1 _ rfl;go_wp2_with fail
  refine (wtypes_all n _ b lo _ _ x.params p1 c1 (S1.out.lays I1.out (fun k hk _=>H.out.apart hk)) SM.out.2.1 YO.out.2.1.2 L1.out H1.out).mono ?_;intro e' w2 hO;rcases hO with ⟨v2,rfl,hl2,h2,s2⟩ | ⟨c',a',v',rfl,hc',hl',s'⟩
  rotate_left
  · exact ⟨rfl,Put.fail hc' hl' (by rw [HS.out];simp only [List.length_append];omega) (S1.out.trans s')⟩
  have H2:Hid (WAt w2 b lo v2 ((ys++numY x.regs)++listY TT.ybs x.params)):=h2;have S2:Hid (Step (WO b v) (WO b v2) w w2):=S1.out.trans s2;have X2:Hid (Blk w2 w.heap.size #[.int .i64 x.regs,.slice p1 x.params.length c1,.slice p2 x.results.length c2,.slice p3 x.blocks.length c3] 46):=X1.out.step s2 N1.out;have N2:Hid (¬ WO b v2 w.heap.size):=s2.still X1.out.lt N1.out;have L2:Hid (((ys++numY x.regs)++listY TT.ybs x.params).length+4≤20000):=hl2;clear h2 s2 hl2 H1 S1 X1 N1 L1 y1;have y2:=cellOf X2.out 2 _ rfl;go_wp2_with fail
  refine (wtypes_all n _ b lo _ _ x.results p2 c2 (S2.out.lays I2.out (fun k hk _=>H.out.apart hk)) SM.out.2.2.1 YO.out.2.2.1.2 L2.out H2.out).mono ?_;intro e' w3 hO;rcases hO with ⟨v3,rfl,hl3,h3,s3⟩ | ⟨c',a',v',rfl,hc',hl',s'⟩
  rotate_left
  · exact ⟨rfl,Put.fail hc' hl' (by rw [HS.out];simp only [List.length_append];omega) (S2.out.trans s')⟩
  have H3:Hid (WAt w3 b lo v3 (((ys++numY x.regs)++listY TT.ybs x.params)++listY TT.ybs x.results)):=h3;have S3:Hid (Step (WO b v) (WO b v3) w w3):=S2.out.trans s3;have X3:Hid (Blk w3 w.heap.size #[.int .i64 x.regs,.slice p1 x.params.length c1,.slice p2 x.results.length c2,.slice p3 x.blocks.length c3] 46):=X2.out.step s3 N2.out;have N3:Hid (¬ WO b v3 w.heap.size):=s3.still X2.out.lt N2.out;have L3:Hid ((((ys++numY x.regs)++listY TT.ybs x.params)++listY TT.ybs x.results).length+4≤20000):=hl3;clear h3 s3 hl3 H2 S2 X2 N2 L2 y2;have y3:=cellOf X3.out 3 _ rfl;go_wp2_with fail
  refine (wputB (S3.out.lays I3.out (fun k hk _=>H.out.apart hk)) SM.out.1 enters_wblock (fun wr v' acc i x' cs hi hx' hs hl' h'=>wblock_any hx' (SM.out.2.2.2 x' (List.mem_of_getElem? hi)) (YO.out.2.2.2.2 x' (List.mem_of_getElem? hi)) hl' h') L3.out H3.out).mono ?_;intro e' w4 hO;rcases hO with ⟨v4,rfl,hl4,h4,s4⟩ | ⟨c',a',v',rfl,hc',hl',s'⟩
  rotate_left
  · exact ⟨rfl,Put.fail hc' hl' (by rw [HS.out];simp only [List.length_append];omega) (S3.out.trans s')⟩
  have H4:Hid (WAt w4 b lo v4 ((((ys++numY x.regs)++listY TT.ybs x.params)++listY TT.ybs x.results)++listY MBlock.ybs x.blocks)):=h4;have S4:Hid (Step (WO b v) (WO b v4) w w4):=S3.out.trans s4;have X4:Hid (Blk w4 w.heap.size #[.int .i64 x.regs,.slice p1 x.params.length c1,.slice p2 x.results.length c2,.slice p3 x.blocks.length c3] 46):=X3.out.step s4 N3.out;have N4:Hid (¬ WO b v4 w.heap.size):=s4.still X3.out.lt N3.out;have L4:Hid (((((ys++numY x.regs)++listY TT.ybs x.params)++listY TT.ybs x.results)++listY MBlock.ybs x.blocks).length+4≤20000):=hl4;clear h4 s4 hl4 H3 S3 X3 N3 L3 y3;have Z:Hid (Put b lo v ys (x.ybs) w (.returned (.tuple #[])) w4):=Put.done (by rw [HS.out];try simp only [List.append_assoc,List.append_nil]) L4.out H4.out S4.out;clear H4 S4 N4 L4 X4;go_wp2
  exact bodyPost_end (v:=.tuple #[]) (by simp [results,Tryz.results51,go_sem]) rfl Z.out
theorem wputF {w : World} {b lo : Nat} {v : Value} {ys : List UInt8} {n : Nat} {xs : List (MFunc n)} {a : Option Addr} {c : Nat} (hx : (funcL n).list.In w (fun g => g < lo) xs [.slice a xs.length c]) (hsm : xs.length ≤ 100000) (hE0 : Enters 51)
    (ONE0:∀ (wr:World) (v':Value) (acc:List UInt8) (i:Nat) x cs,xs[i]?=some x→(funcL n).In wr (fun g=>g<lo) x cs→Step (WO b v) (WO b v') w wr→acc.length+4≤20000→WAt wr b lo v' acc→Calls Tryz.prog 51 #[ptrP b,(.agg cs.toArray)] wr fun en w'=>Put b lo v' acc (MFunc.ybs x) wr en w')
    (hl:ys.length+4≤20000) (h:WAt w b lo v ys) :
    Calls Tryz.prog 50 #[ptrP b,.slice a xs.length c,.func (.func 51) #[ptrP b] #[]] w fun en w'=>Put b lo v ys (listY (MFunc.ybs) xs) w en w':=by
  have hbw:=(h.lt (.inl rfl)).2;have hlow:=h.low;have H:Hid (WAt w b lo v ys):=h;have HL:Hid (ys.length+4≤20000):=hl;have HX:Hid ((funcL n).list.In w (fun g=>g<lo) xs [.slice a xs.length c]):=hx;have hE:=hE0;unfold Enters at hE;have ONE:Hid (∀ (wr:World) (v':Value) (acc:List UInt8) (i:Nat) x cs,xs[i]?=some x→(funcL n).In wr (fun g=>g<lo) x cs→Step (WO b v) (WO b v') w wr→acc.length+4≤20000→WAt wr b lo v' acc→Calls Tryz.prog 51 #[ptrP b,(.agg cs.toArray)] wr fun en w'=>Put b lo v' acc (MFunc.ybs x) wr en w'):=ONE0;have HR:Hid (i64r (xs.length:Int)):=by show i64r _;exact ⟨by omega,by omega⟩
  generalize hN:xs.length=N at hsm HR HX;have HN:Hid (xs.length=N):=hN;have HS:Hid (listY (MFunc.ybs) xs=numY (N:Int)++xs.flatMap (MFunc.ybs)):=by show _=_;rw [listY,hN]
  clear h hl hx hE0 ONE0 hN;go_enter Tryz.func50,Tryz.ntmps50
  go_wp2_with fail
  refine (wnum1_any (N:Int) HR.out HL.out H.out rfl).mono ?_;intro e' w1 hO;rcases hO with ⟨v1,rfl,hl1,h1,s1⟩ | ⟨c',a',v',rfl,hc',hl',s'⟩
  rotate_left
  · exact ⟨rfl,Put.fail hc' hl' (by rw [HS.out];simp only [List.length_append];omega) s'⟩
  have H1:Hid (WAt w1 b lo v1 (ys++numY (N:Int))):=h1;have S1:Hid (Step (WO b v) (WO b v1) w w1):=s1;have L1:Hid ((ys++numY (N:Int)).length+4≤20000):=hl1;clear h1 s1 hl1;go_wp2_with fail
  go_loopw [15] (fun r wr=>∃ i:Nat,r=.int .i64 i∧i≤N∧((ys++numY (N:Int))++(xs.take i).flatMap (MFunc.ybs)).length+4≤20000∧WGo w b lo v ((ys++numY (N:Int))++(xs.take i).flatMap (MFunc.ybs)) wr) (fun r _=>N - (intOf r).toNat)
  case atStart=>exact ⟨0,rfl,Nat.zero_le _,by simpa using L1.out,v1,by simpa using H1.out,S1.out⟩
  case round =>
    obtain ⟨i,rfl,hi,hl,v4,h4,s4⟩:=hrel;have H4:Hid (WAt wr b lo v4 ((ys++numY (N:Int))++(xs.take i).flatMap (MFunc.ybs))):=h4;have S4:Hid (Step (WO b v) (WO b v4) w wr):=s4;have L4:Hid (((ys++numY (N:Int))++(xs.take i).flatMap (MFunc.ybs)).length+4≤20000):=hl;clear h4 s4 hl H1 S1 L1;by_cases hlt:i<N
    · have hxi:xs[i]?=some (xs[i]'(by rw [HN.out];exact hlt)):=List.getElem?_eq_getElem _;generalize xs[i]'(by rw [HN.out];exact hlt)=x at hxi;obtain ⟨g,o,ds,rfl,hg,hgw,hc,hds⟩:=Lay.list_at (S4.out.lays HX.out (fun k hk _=>H.out.apart hk)) hxi;have hds0:=hds;obtain ⟨p1,c1,p2,c2,p3,c3,rfl,-⟩:=func_form hds;have d0:=hc 0 (show 0<4 by omega);have d1:=hc 1 (show 1<4 by omega);have d2:=hc 2 (show 2<4 by omega);have d3:=hc 3 (show 3<4 by omega);rw [show (funcL n).size=4 from rfl] at d0 d1 d2 d3;simp only [List.getElem?_cons_zero,List.getElem?_cons_succ,Nat.add_zero] at d0 d1 d2 d3;have hlt':(i:Int)<N:=by omega
      have ET:Hid ((xs.take (i+1)).flatMap (MFunc.ybs)=(xs.take i).flatMap (MFunc.ybs)++MFunc.ybs x):=by
        show _=_;rw [List.take_add_one,hxi,Option.toList_some,List.flatMap_append];simp
      have EW:Hid (((xs.take i).flatMap (MFunc.ybs)++MFunc.ybs x).length≤(xs.flatMap (MFunc.ybs)).length):=by
        rw [← ET.out];have e:=List.take_append_drop (i+1) xs;have e2:=congrArg (fun l=>(List.flatMap (MFunc.ybs) l).length) e;simp only [List.flatMap_append,List.length_append] at e2;show (List.flatMap (MFunc.ybs) (xs.take (i+1))).length≤_;omega
      have HO:Hid (WAt (wr.alloc (.cells #[.int .i64 x.regs,.slice p1 x.params.length c1,.slice p2 x.results.length c2,.slice p3 x.blocks.length c3] 46)) b lo v4 ((ys++numY (N:Int))++(xs.take i).flatMap (MFunc.ybs))):=H4.out.alloc _
      have C:Hid (Calls Tryz.prog 51 #[ptrP b,(.agg #[.int .i64 x.regs,.slice p1 x.params.length c1,.slice p2 x.results.length c2,.slice p3 x.blocks.length c3])] (wr.alloc (.cells #[.int .i64 x.regs,.slice p1 x.params.length c1,.slice p2 x.results.length c2,.slice p3 x.blocks.length c3] 46)) fun en w'=>Put b lo v4 ((ys++numY (N:Int))++(xs.take i).flatMap (MFunc.ybs)) (MFunc.ybs x) wr en w') :=
        (ONE.out (wr.alloc (.cells #[.int .i64 x.regs,.slice p1 x.params.length c1,.slice p2 x.results.length c2,.slice p3 x.blocks.length c3] 46)) v4 _ i x _ hxi (Lay.alloc hds0 _) (S4.out.alloc _) L4.out HO.out).mono fun en w' hO=>hO.from (bel1 _ _) (fun k hk=>(H4.out.lt hk).2)
      clear hc hds hds0 hxi HO;go_wp2_with fail
      refine C.out.mono ?_;intro e' w5 hO;rcases hO with ⟨v5,rfl,hl5,h5,s5⟩ | ⟨c',a',v',rfl,hc',hl',s'⟩
      rotate_left
      · exact ⟨rfl,Put.fail hc' hl' (by rw [HS.out];have:=EW.out;simp only [List.length_append] at this ⊢;omega) (S4.out.trans s')⟩
      have U:Hid (((ys++numY (N:Int))++(xs.take (i+1)).flatMap (MFunc.ybs)).length+4≤20000∧WGo w b lo v ((ys++numY (N:Int))++(xs.take (i+1)).flatMap (MFunc.ybs)) w5):=by
        show _∧_;rw [ET.out,← List.append_assoc];exact ⟨hl5,v5,h5,S4.out.trans s5⟩
      clear hl5 h5 s5 H4 S4 L4 ET EW C d0 d1 d2 d3;go_wp2
      go_roundw
      case rel=>exact ⟨i+1,by simp,hlt,U.out⟩
      case measure=>simp [intOf];omega
    · have hlt':¬ (i:Int)<N:=by omega
      have e:xs.take i=xs:=List.take_of_length_le (by rw [HN.out];omega)
      have Z:Hid (Put b lo v ys (listY (MFunc.ybs) xs) w (.returned (.tuple #[])) wr):=by
        have h1:=H4.out;have h2:=L4.out;rw [e] at h1 h2;exact Put.done (by rw [HS.out,List.append_assoc]) h2 h1 S4.out
      clear H4 S4 L4;go_wp2
      exact bodyPost_end (v:=.tuple #[]) (by simp [results,Tryz.results50,go_sem]) rfl Z.out
theorem wmod_any {w : World} {b lo : Nat} {v : Value} {ys : List UInt8} {n : Nat} {m : List (MFunc n)} {p : Option Addr} {c : Nat} (hx : (modL n).In w (fun g => g < lo) m [.slice p m.length c]) (hsm : msmall m) (hy : yMod m) (hl : ys.length + 4 ≤ 20000) (h : WAt w b lo v ys) :
    Calls Tryz.prog 25 #[ptrP b,.agg #[.slice p m.length c]] w fun en w'=>Put b lo v ys (listY MFunc.ybs m) w en w':=by
  have hmf:∀ (fn:Fn) (first cap:Array Value) (w:World),(Instr.makeFunc fn first cap).run Tryz.prog w=.ok (.func fn first cap) w:=fun _ _ _ _=>rfl;have hbw:=(h.lt (.inl rfl)).2;have hlow:=h.low;have H:Hid (WAt w b lo v ys):=h;have HL:Hid (ys.length+4≤20000):=hl;have I1:Hid ((modL n).In w (fun g=>g<lo) m [.slice p m.length c]):=hx;have SM:Hid (msmall m):=hsm;have YO:Hid (yMod m):=hy;have HS:Hid (listY MFunc.ybs m=listY MFunc.ybs m):=rfl;clear h hl hsm hx hy;go_enter Tryz.func25,Tryz.ntmps25
  go_upto_region 1 with fail
  have H0:Hid (WAt (w.alloc (.cells #[.slice p m.length c] 24)) b lo v ys):=H.out.alloc _;have S0:Hid (Step (WO b v) (WO b v) w (w.alloc (.cells #[.slice p m.length c] 24))):=(Step.refl _ w).alloc _;have X0:Hid (Blk (w.alloc (.cells #[.slice p m.length c] 24)) w.heap.size #[.slice p m.length c] 24):=Blk.new _ _ _;have N0:Hid (¬ WO b v w.heap.size):=H.out.apart2 (Nat.le_refl _);have L0:Hid (ys.length+4≤20000):=HL.out;clear HL;generalize w.alloc (.cells #[.slice p m.length c] 24)=w0 at H0 S0 X0 ⊢;have y0:=cellOf X0.out 0 _ rfl;go_wp2_with fail
  refine (wputF (S0.out.lays I1.out (fun k hk _=>H.out.apart hk)) SM.out.1 enters_wfunc (fun wr v' acc i x' cs hi hx' hs hl' h'=>wfunc_any hx' (SM.out.2 x' (List.mem_of_getElem? hi)) (YO.out.2 x' (List.mem_of_getElem? hi)) hl' h') L0.out H0.out).mono ?_;intro e' w1 hO;rcases hO with ⟨v1,rfl,hl1,h1,s1⟩ | ⟨c',a',v',rfl,hc',hl',s'⟩
  rotate_left
  · exact ⟨rfl,Put.fail hc' hl' (by simp only [List.length_append];omega) (S0.out.trans s')⟩
  have H1:Hid (WAt w1 b lo v1 (ys++listY MFunc.ybs m)):=h1;have S1:Hid (Step (WO b v) (WO b v1) w w1):=S0.out.trans s1;have X1:Hid (Blk w1 w.heap.size #[.slice p m.length c] 24):=X0.out.step s1 N0.out;have N1:Hid (¬ WO b v1 w.heap.size):=s1.still X0.out.lt N0.out;have L1:Hid ((ys++listY MFunc.ybs m).length+4≤20000):=hl1;clear h1 s1 hl1 H0 S0 X0 N0 L0 y0;have Z:Hid (Put b lo v ys (listY MFunc.ybs m) w (.returned (.tuple #[])) w1):=Put.done rfl L1.out H1.out S1.out;clear H1 S1 N1 L1 X1;go_wp2
  exact bodyPost_end (v:=.tuple #[]) (by simp [results,Tryz.results25,go_sem]) rfl Z.out
def BytesAt (w : World) (a : Option Addr) (l : List UInt8) : Prop := ∀ i x, l[i]? = some x → ∃ g o, a = some ⟨g, o, none⟩ ∧ g < w.heap.size ∧ w.cell? ⟨g, o + i, none⟩ = some (.int .u8 (x.toNat : Int))
theorem bytesAt_of {w : World} {O : Nat → Prop} {l : List UInt8} {a : Option Addr} {n c : Nat} (h : bytesL.In w O l [.slice a n c]) : BytesAt w a l := fun i x hx => by
  obtain ⟨g,o,e,_,hg,hc⟩:=byte_at h hx;exact ⟨g,o,e,hg,hc⟩
theorem csum_any {w : World} {l : List UInt8} {a : Option Addr} {c : Nat} (h : BytesAt w a l) (hl : l.length ≤ 100000) :
    Calls Tryz.prog 15 #[.slice a l.length c] w fun en w'=>en=.returned (.int .u32 (crcL l))∧w'=w:=by
  have HB:Hid (BytesAt w a l):=h
  have hX:((crcL l:Nat):Int)=bits .xor .u32 (crcR 4294967295 l:Nat) 4294967295:=by
    rw [crcL_xor,show (4294967295:Int)=((4294967295:Nat):Int) from rfl,u32_xor_nat _ _ (crcR_ltB l (by decide)) (by decide)]
  have XX:Hid (((crcL l:Nat):Int)=bits .xor .u32 (crcR 4294967295 l:Nat) 4294967295):=hX;clear h hX;generalize hN:l.length=N at hl;have HN:Hid (l.length=N):=hN;clear hN;go_enter Tryz.func15,Tryz.ntmps15
  go_wp2_with fail
  go_loopw [9,3] (fun v s wr=>∃ i:Nat,v=.int .i64 i∧s=.int .u32 (crcR 4294967295 (l.take i):Nat)∧i≤N∧Hid (wr=w)) (fun v _ _=>N - (intOf v).toNat)
  case atStart=>exact ⟨0,rfl,rfl,Nat.zero_le _,(rfl:w=w)⟩
  case round =>
    obtain ⟨i,rfl,rfl,hi,hw⟩:=hrel;have e:=hw.out;subst e;clear hw;have hs:crcR 4294967295 (l.take i)<4294967296:=crcR_ltB _ (by decide);by_cases hlt:i<N
    · have hx:l[i]?=some (l[i]'(by rw [HN.out];exact hlt)):=List.getElem?_eq_getElem _;generalize l[i]'(by rw [HN.out];exact hlt)=x at hx;obtain ⟨g,o,rfl,hg,yc⟩:=HB.out i x hx;have hlt':(i:Int)<N:=by omega
      have E:Hid (crcR 4294967295 (l.take (i+1))=crcIt 8 (crcR 4294967295 (l.take i) ^^^ x.toNat)):=by
        show _=_;rw [List.take_add_one,hx,Option.toList_some,crcR_snoc,crcByte_it]
      have hz8:x.toNat<256:=byte_lt x;generalize x.toNat=z at E yc hz8;generalize crcR 4294967295 (l.take i)=r at E hs;generalize hr2:crcR 4294967295 (l.take (i+1))=r2 at E;have HR2:Hid (crcR 4294967295 (l.take (i+1))=r2):=hr2;clear hr2;have hor:bits .xor .u32 (r:Int) (z:Int)=((r ^^^ z:Nat):Int):=u32_xor_nat _ _ hs (by omega);have hq:r ^^^ z<4294967296:=Nat.xor_lt_two_pow (n:=32) hs (by omega);generalize r ^^^ z=q at E hor hq;clear hx;obtain ⟨wf,hwf⟩:∃ wf,wf=wr:=⟨_,rfl⟩;subst hwf;go_wp2_with fail
      go_loopw [17,3] (fun v s wx=>∃ k:Nat,v=.int .i64 k∧s=.int .u32 (crcIt k q:Nat)∧k≤8∧Hid (wx=wf)) (fun v _ _=>8 - (intOf v).toNat)
      case atStart=>exact ⟨0,rfl,rfl,by decide,(rfl:wf=wf)⟩
      case round =>
        obtain ⟨k,rfl,rfl,hk,hw⟩:=hrel;have e:=hw.out;subst e;clear hw;have hsk:crcIt k q<4294967296:=crcIt_lt k hq;by_cases hk8:k<8
        · have hk8':(k:Int)<8:=by omega
          have E1:Hid (crcIt (k+1) q=crcBit (crcIt k q) ((crcIt k q).testBit 0)):=rfl;generalize crcIt k q=t at E1 hsk;generalize ht2:crcIt (k+1) q=t2 at E1;have T2:Hid (crcIt (k+1) q=t2):=ht2;clear ht2 hor E yc;by_cases hb:t % 2=1
          · have ha:bits .and .u32 (t:Int) 1=1:=by
              rw [show (1:Int)=((1:Nat):Int) from rfl,u32_and_nat t 1 hsk (by decide),nat_mask1,hb]
            have hxo:bits .xor .u32 ((t:Int) / 2) 3988292384=(t2:Int):=by
              rw [E1.out,crc_bit_on hsk hb,show (3988292384:Int)=((3988292384:Nat):Int) from rfl,show (t:Int) / 2=((t / 2:Nat):Int) by omega,u32_xor_nat _ _ (by omega) (by decide)]
            go_wp2
            go_roundw
            case rel=>exact ⟨k+1,by simp,by rw [T2.out],hk8,show Hid True from trivial⟩
            case measure=>simp [intOf];omega
          · have ha:bits .and .u32 (t:Int) 1=0:=by
              rw [show (1:Int)=((1:Nat):Int) from rfl,u32_and_nat t 1 hsk (by decide),nat_mask1,show t % 2=0 by omega];rfl
            have hd2:(t:Int) / 2=(t2:Int):=by
              rw [E1.out,crc_bit_off hsk hb];omega
            go_wp2
            go_roundw
            case rel=>exact ⟨k+1,by simp,by rw [T2.out],hk8,show Hid True from trivial⟩
            case measure=>simp [intOf];omega
        · have hk8':¬ (k:Int)<8:=by omega
          have hke:k=8:=by omega
          subst hke;have E8:crcIt 8 q=r2:=E.out.symm;have R2:Hid (crcR 4294967295 (l.take (i+1))=r2):=HR2.out;clear hor E yc;go_wp2
          go_roundw
          case rel=>exact ⟨i+1,by simp,by rw [R2.out,E8],hlt,show Hid True from trivial⟩
          case measure=>simp [intOf];omega
    · have hlt':¬ (i:Int)<N:=by omega
      have e1:l.take i=l:=List.take_of_length_le (by rw [HN.out];omega);rw [e1];have E:bits .xor .u32 (crcR 4294967295 l:Nat) 4294967295=((crcL l:Nat):Int):=XX.out.symm;go_wp2
      go_ret;exact ⟨rfl,rfl⟩
theorem sum_bytes (s : Nat) (hs : s < 4294967296) (i : Nat) (hi : i < 4) : (sumY s)[i]? = some (UInt8.ofNat (s / 256 ^ i)) := by
  match i,hi with
  | 0,_=>simp [sumY]
  | 1,_=>simp [sumY]
  | 2,_=>simp [sumY]
  | 3,_=>simp [sumY]
theorem ofNat_byte (n : Nat) : (UInt8.ofNat n).toNat = n % 256 := rfl
theorem byte_eq {x y : UInt8} (h : x.toNat = y.toNat) : x = y := UInt8.toNat.inj h
theorem cisSum_any {w : World} {l : List UInt8} {a : Option Addr} {c : Nat} (s : Nat) (hs : s < 4294967296) (h : BytesAt w a l) (hl : l.length = 4) :
    Calls Tryz.prog 61 #[.slice a 4 c,.int .u32 s] w fun en w'=>en=.returned (.bool (decide (l=sumY s)))∧w'=w:=by
  have HB:Hid (BytesAt w a l):=h;have HL:Hid (l.length=4):=hl;clear h hl;go_enter Tryz.func61,Tryz.ntmps61
  go_wp2_with fail
  go_loopw [9,1] (fun v u wr=>∃ i:Nat,v=.int .i64 i∧u=.int .u32 (s / 256 ^ i:Nat)∧i≤4∧(∀ j,j<i→l[j]?=(sumY s)[j]?)∧Hid (wr=w)) (fun v _ _=>4 - (intOf v).toNat)
  case atStart=>exact ⟨0,rfl,by simp,by decide,fun j hj=>absurd hj (Nat.not_lt_zero _),(rfl:w=w)⟩
  case round =>
    obtain ⟨i,rfl,rfl,hi,hq,hw⟩:=hrel;have e:=hw.out;subst e;have Q:Hid (∀ j,j<i→l[j]?=(sumY s)[j]?):=hq;clear hw hq;by_cases hlt:i<4
    · have hx:l[i]?=some (l[i]'(by rw [HL.out];exact hlt)):=List.getElem?_eq_getElem _;generalize l[i]'(by rw [HL.out];exact hlt)=x at hx;obtain ⟨g,o,rfl,hg,yc⟩:=HB.out i x hx;have hlt':(i:Int)<4:=by omega
      have SB:=sum_bytes s hs i hlt;have hd:s / 256 ^ i<4294967296:=Nat.lt_of_le_of_lt (Nat.div_le_self _ _) hs;have hnx:Hid (s / 256 ^ (i+1)=s / 256 ^ i / 256):=by show _=_;rw [Nat.pow_succ,Nat.div_div_eq_div_mul]
      have NE:Hid (¬ x.toNat=s / 256 ^ i % 256→l≠sumY s):=fun hne e=>by
        rw [e,SB] at hx;injection hx with hx
        rw [← hx] at hne;exact hne (ofNat_byte _)
      have EQ:Hid (x.toNat=s / 256 ^ i % 256→∀ j,j<i+1→l[j]?=(sumY s)[j]?):=fun he j hj=>by
        rcases Nat.lt_or_ge j i with g | g
        · exact Q.out j g
        · have:j=i:=by omega
          subst this;rw [hx,SB];congr 1
          exact byte_eq (he.trans (ofNat_byte _).symm)
      generalize hsd:s / 256 ^ i=t at hd hnx NE EQ;generalize x.toNat=z at NE EQ yc;clear hx SB Q HB;have hz8:True:=trivial;by_cases hzt:z=t % 256
      · have hzt':(z:Int)=(t:Int) % 256:=by omega
        have Q2:Hid (∀ j,j<i+1→l[j]?=(sumY s)[j]?):=EQ.out hzt;subst hzt;have HT:Hid (s / 256 ^ (i+1)=t / 256):=hnx.out;clear EQ NE;go_wp2
        go_roundw
        case rel=>exact ⟨i+1,by simp,by rw [HT.out];simp,hlt,Q2.out,show Hid True from trivial⟩
        case measure=>simp [intOf];omega
      · have N2:Hid (l≠sumY s):=NE.out hzt;have hzt':¬ (z:Int)=(t:Int) % 256:=by omega
        clear EQ NE;go_wp2
        go_ret;exact ⟨by simp [N2.out],rfl⟩
    · have hlt':¬ (i:Int)<4:=by omega
      have E:Hid (l=sumY s):=List.ext_getElem? fun j=>by
        rcases Nat.lt_or_ge j 4 with g | g
        · exact Q.out j (by omega)
        · rw [List.getElem?_eq_none (by rw [HL.out];exact g),List.getElem?_eq_none (by show 4≤j;exact g)]
      clear Q HB;go_wp2
      go_ret;exact ⟨by simp [E.out],rfl⟩
def frameL (b : List UInt8) : Int × Int :=
  if b.length<7 then (5,(b.length:Int))
  else if 20000<b.length then (2,20000)
  else if b.take 3≠[67,72,1] then (4,0)
  else if b.drop (b.length - 4)≠sumY (crcL (b.take (b.length - 4))) then (16,((b.length - 4:Nat):Int))
  else (0,0)
theorem crcL_ltB (l : List UInt8) : crcL l < 4294967296 := by unfold crcL; omega
theorem BytesAt.take {w : World} {a : Option Addr} {l : List UInt8} (h : BytesAt w a l) (k : Nat) : BytesAt w a (l.take k) := fun i x hx => by
  rw [List.getElem?_take] at hx;split at hx
  · exact h i x hx
  · cases hx
theorem BytesAt.drop {w : World} {g o : Nat} {l : List UInt8} (h : BytesAt w (some ⟨g, o, none⟩) l) (k : Nat) : BytesAt w (some ⟨g, o + k, none⟩) (l.drop k) := fun i x hx => by
  rw [List.getElem?_drop] at hx;obtain ⟨g',o',e,hg,hc⟩:=h (k+i) x hx;injection e with e
  injection e with e1 e2
  subst e1;subst e2;exact ⟨g,o+k,rfl,hg,by rw [Nat.add_assoc];exact hc⟩
theorem BytesAt.below {w w' : World} {a : Option Addr} {l : List UInt8} (h : BytesAt w a l) (b : Below w.heap.size w w') : BytesAt w' a l := fun i x hx => by
  obtain ⟨g,o,e,hg,hc⟩:=h i x hx;exact ⟨g,o,e,Nat.lt_of_lt_of_le hg b.size,(World.cell?_of_block (b.block g hg)).trans hc⟩
theorem BytesAt.drewN {w : World} {a : Option Addr} {l : List UInt8} (h : BytesAt w a l) (n : Nat) : BytesAt (w.drewN n) a l := h
section
variable {g o k c : Nat} {wx : World}
theorem slice_head (hk : 3 ≤ k) (hc : k + 4 ≤ c) : (Instr.slice 25 (.slice (some ⟨g, o, none⟩) (k + 4) c) none (some (.int .i64 3)) none).run Tryz.prog wx = .ok (.slice (some ⟨g, o, none⟩) 3 c) wx := by
  have h1:(3:Int)≤c:=by omega
  simp [go_sem,Tryz.underlying25,h1]
theorem slice_front (hc : k + 4 ≤ c) : (Instr.slice 25 (.slice (some ⟨g, o, none⟩) (k + 4) c) none (some (.int .i64 (k : Int))) none).run Tryz.prog wx = .ok (.slice (some ⟨g, o, none⟩) k c) wx := by
  have h1:(k:Int)≤c:=by omega
  simp [go_sem,Tryz.underlying25,h1]
theorem slice_back (hc : k + 4 ≤ c) : (Instr.slice 25 (.slice (some ⟨g, o, none⟩) (k + 4) c) (some (.int .i64 (k : Int))) none none).run Tryz.prog wx = .ok (.slice (some ⟨g, o + k, none⟩) 4 (c - k)) wx := by
  have h1:(k:Int)≤(k:Int)+4:=by omega
  have h2:¬ c=k:=by omega
  simp [go_sem,Tryz.underlying25,h1,h2]
end
theorem cframe_any {w : World} {l : List UInt8} {a : Option Addr} {c : Nat} (h : BytesAt w a l) (hc : l.length ≤ c) (hl : l.length ≤ 100000) :
    Calls Tryz.prog 36 #[.slice a l.length c] w fun en w'=>en=.returned (.agg #[.int .i64 (frameL l).1,.int .i64 (frameL l).2])∧Below w.heap.size w w':=by
  have F0:Hid (Blk (w.alloc (.cells #[.int .i64 0,.int .i64 0] 30)) w.heap.size #[.int .i64 0,.int .i64 0] 30):=Blk.new _ _ _;have B0:Hid (Below w.heap.size w (w.alloc (.cells #[.int .i64 0,.int .i64 0] 30))):=bel1 _ _;have H0:Hid (BytesAt (w.alloc (.cells #[.int .i64 0,.int .i64 0] 30)) a l):=h.below (bel1 _ _);clear h;by_cases h7:l.length<7
  · have e:frameL l=(5,(l.length:Int)):=by rw [frameL,if_pos h7]
    rw [e];generalize l.length=n at hc hl h7;have h7':(n:Int)<7:=by omega
    clear H0 e;go_enter Tryz.func36,Tryz.ntmps36
    go_upto_region 1 with fail
    generalize w.alloc (.cells #[.int .i64 0,.int .i64 0] 30)=w1 at F0 B0 ⊢;have f0:=cellOf F0.out 0 _ rfl;have f1:=cellOf F0.out 1 _ rfl;have v0:=freeOf F0.out 0;have v1:=freeOf F0.out 1
    have FIN:Hid (∀ c a,Blk ((w1.setCell ⟨w.heap.size,0,none⟩ c).setCell ⟨w.heap.size,1,none⟩ a) w.heap.size #[c,a] 30∧Below w.heap.size w ((w1.setCell ⟨w.heap.size,0,none⟩ c).setCell ⟨w.heap.size,1,none⟩ a)):=fun c a =>
      ⟨by simpa [Blk] using blockSet (blockSet F0.out 0 c) 1 a,(B0.out.setCell (p:=⟨w.heap.size,0,none⟩) (Nat.le_refl _) _).setCell (p:=⟨w.heap.size,1,none⟩) (Nat.le_refl _) _⟩
    go_wp2
    have D:=FIN.out (.int .i64 5) (.int .i64 n);generalize (w1.setCell ⟨w.heap.size,0,none⟩ (.int .i64 5)).setCell ⟨w.heap.size,1,none⟩ (.int .i64 n)=w9 at D ⊢;have x0:=cellOf D.1 0 _ rfl;have x1:=cellOf D.1 1 _ rfl;exact bodyPost_ret (v:=.agg #[.int .i64 5,.int .i64 n]) (by simp [results,Tryz.results36,go_sem,x0,x1]) rfl ⟨rfl,D.2⟩
  · obtain ⟨k,hk⟩:∃ k,l.length=k+4:=⟨l.length - 4,by omega⟩;have HK:Hid (l.length=k+4):=hk;have hpos:0<l.length:=by omega
    obtain ⟨g,o,rfl,hg,_⟩:=H0.out 0 _ (List.getElem?_eq_getElem hpos)
    have hfr:frameL l=if 20000<k+4 then (2,20000) else if l.take 3≠[67,72,1] then (4,0) else if l.drop k≠sumY (crcL (l.take k)) then (16,(k:Int)) else (0,0):=by
      rw [frameL,if_neg h7,hk,Nat.add_sub_cancel]
    rw [hk] at hc hl h7 ⊢;rw [hfr];have h7':¬ (k:Int)+4<7:=by omega
    have hcv:∀ wx,BytesAt wx (some ⟨g,o,none⟩) l→∀ c',(convert 25 9 (.slice (some ⟨g,o,none⟩) 3 c')).run Tryz.prog wx=.ok (.string ⟨(l.take 3).toArray⟩) wx:=fun wx hb c'=>by
      have h3:(l.take 3).length=3:=by rw [List.length_take];omega
      have:=run_convert_bytes_back (P:=Tryz.prog) wx 25 9 5 ⟨g,o,none⟩ c' (l.take 3) Tryz.underlying25 Tryz.underlying5 Tryz.underlying9 (fun j hj=>by
        obtain ⟨g',o',e,_,hc⟩:=(hb.take 3) j _ (List.getElem?_eq_getElem hj);injection e with e
        injection e with e1 e2
        subst e1;subst e2;rw [Go.WideShapes.add_plain];exact hc)
      rw [h3] at this;exact this
    have CV:Hid (∀ wx,BytesAt wx (some ⟨g,o,none⟩) l→∀ c',(convert 25 9 (.slice (some ⟨g,o,none⟩) 3 c')).run Tryz.prog wx=.ok (.string ⟨(l.take 3).toArray⟩) wx):=hcv;clear hfr hcv;have hs1:∀ wx,(Instr.slice 25 (.slice (some ⟨g,o,none⟩) (k+4) c) none (some (.int .i64 3)) none).run Tryz.prog wx=.ok (.slice (some ⟨g,o,none⟩) 3 c) wx:=fun wx=>slice_head (by omega) hc;have hs2:∀ wx,(Instr.slice 25 (.slice (some ⟨g,o,none⟩) (k+4) c) none (some (.int .i64 (k:Int))) none).run Tryz.prog wx=.ok (.slice (some ⟨g,o,none⟩) k c) wx:=fun wx=>slice_front hc;have hs3:∀ wx,(Instr.slice 25 (.slice (some ⟨g,o,none⟩) (k+4) c) (some (.int .i64 (k:Int))) none none).run Tryz.prog wx=.ok (.slice (some ⟨g,o+k,none⟩) 4 (c - k)) wx:=fun wx=>slice_back hc;by_cases h2:20000<k+4
    · rw [if_pos h2];have h2':(20000:Int)<(k:Int)+4:=by omega
      go_enter Tryz.func36,Tryz.ntmps36
      go_upto_region 1 with fail
      generalize w.alloc (.cells #[.int .i64 0,.int .i64 0] 30)=w1 at F0 B0 ⊢;have f0:=cellOf F0.out 0 _ rfl;have f1:=cellOf F0.out 1 _ rfl;have v0:=freeOf F0.out 0;have v1:=freeOf F0.out 1
      have FIN:Hid (∀ c a,Blk ((w1.setCell ⟨w.heap.size,0,none⟩ c).setCell ⟨w.heap.size,1,none⟩ a) w.heap.size #[c,a] 30∧Below w.heap.size w ((w1.setCell ⟨w.heap.size,0,none⟩ c).setCell ⟨w.heap.size,1,none⟩ a)):=fun c a =>
        ⟨by simpa [Blk] using blockSet (blockSet F0.out 0 c) 1 a,(B0.out.setCell (p:=⟨w.heap.size,0,none⟩) (Nat.le_refl _) _).setCell (p:=⟨w.heap.size,1,none⟩) (Nat.le_refl _) _⟩
      go_wp2
      have D:=FIN.out (.int .i64 2) (.int .i64 20000);generalize (w1.setCell ⟨w.heap.size,0,none⟩ (.int .i64 2)).setCell ⟨w.heap.size,1,none⟩ (.int .i64 20000)=w9 at D ⊢;have x0:=cellOf D.1 0 _ rfl;have x1:=cellOf D.1 1 _ rfl;exact bodyPost_ret (v:=.agg #[.int .i64 2,.int .i64 20000]) (by simp [results,Tryz.results36,go_sem,x0,x1]) rfl ⟨rfl,D.2⟩
    rw [if_neg h2];have h2':¬ (20000:Int)<(k:Int)+4:=by omega
    have HT:Hid (BytesAt (w.alloc (.cells #[.int .i64 0,.int .i64 0] 30)) (some ⟨g,o,none⟩) (l.take k)∧BytesAt (w.alloc (.cells #[.int .i64 0,.int .i64 0] 30)) (some ⟨g,o+k,none⟩) (l.drop k)):=⟨H0.out.take k,H0.out.drop k⟩;have hlt:(l.take k).length=k:=by rw [List.length_take,HK.out];omega
    have hld:(l.drop k).length=4:=by rw [List.length_drop,HK.out];omega
    have S1:Hid (∀ n,Calls Tryz.prog 15 #[.slice (some ⟨g,o,none⟩) k c] ((w.alloc (.cells #[.int .i64 0,.int .i64 0] 30)).drewN n) fun en w'=>en=.returned (.int .u32 (crcL (l.take k):Nat))∧w'=(w.alloc (.cells #[.int .i64 0,.int .i64 0] 30)).drewN n):=fun n=>by
      have:=csum_any (c:=c) (HT.out.1.drewN n) (by omega)
      rw [hlt] at this;exact this
    have S2:Hid (∀ n,Calls Tryz.prog 61 #[.slice (some ⟨g,o+k,none⟩) 4 (c - k),.int .u32 (crcL (l.take k):Nat)] ((w.alloc (.cells #[.int .i64 0,.int .i64 0] 30)).drewN n) fun en w'=>en=.returned (.bool (decide (l.drop k=sumY (crcL (l.take k)))))∧w'=(w.alloc (.cells #[.int .i64 0,.int .i64 0] 30)).drewN n):=fun n =>
      cisSum_any _ (crcL_ltB _) (HT.out.2.drewN n) hld
    have hcv:=CV.out (w.alloc (.cells #[.int .i64 0,.int .i64 0] 30)) H0.out;clear HT hlt hld H0 CV;generalize crcL (l.take k)=sm at S1 S2 ⊢;generalize hFR:(if l.take 3≠[67,72,1] then ((4,0):Int × Int) else if l.drop k≠sumY sm then (16,(k:Int)) else (0,0))=fr;obtain ⟨fc,fa⟩:=fr;have HFR:Hid ((if l.take 3≠[67,72,1] then ((4,0):Int × Int) else if l.drop k≠sumY sm then (16,(k:Int)) else (0,0))=(fc,fa)):=hFR;clear hFR;simp only
    go_enter Tryz.func36,Tryz.ntmps36
    go_upto_region 1 with fail
    generalize w.alloc (.cells #[.int .i64 0,.int .i64 0] 30)=w1 at F0 B0 S1 S2 hcv ⊢;have f0:=cellOf F0.out 0 _ rfl;have f1:=cellOf F0.out 1 _ rfl;have v0:=freeOf F0.out 0;have v1:=freeOf F0.out 1
    have FIN:Hid (∀ c a,Blk ((w1.setCell ⟨w.heap.size,0,none⟩ c).setCell ⟨w.heap.size,1,none⟩ a) w.heap.size #[c,a] 30∧Below w.heap.size w ((w1.setCell ⟨w.heap.size,0,none⟩ c).setCell ⟨w.heap.size,1,none⟩ a)):=fun c a =>
      ⟨by simpa [Blk] using blockSet (blockSet F0.out 0 c) 1 a,(B0.out.setCell (p:=⟨w.heap.size,0,none⟩) (Nat.le_refl _) _).setCell (p:=⟨w.heap.size,1,none⟩) (Nat.le_refl _) _⟩
    by_cases h3:l.take 3=[67,72,1]
    · rw [h3] at hcv
      cases hd:decide (l.drop k=sumY sm) with
      | true =>
        have hd':l.drop k=sumY sm:=by simpa using hd
        have R:Hid ((fc,fa)=((0,0):Int × Int)):=by rw [← HFR.out,if_neg (by simpa using h3),if_neg (by simpa using hd')];rfl
        have HD:Hid (decide (l.drop k=sumY sm)=true):=hd;rw [hd] at S2;clear h3 hd hd' HFR FIN;go_wp2_with fail
        go_quiet (first | (go_at_call 15;exact Calls.quiet_of_same (S1.out _)) | (go_at_call 61;exact Calls.quiet_of_same (S2.out _)))
        have FIN:Hid (∀ c a,Blk (((w1.drewN nq).setCell ⟨w.heap.size,0,none⟩ c).setCell ⟨w.heap.size,1,none⟩ a) w.heap.size #[c,a] 30∧Below w.heap.size w (((w1.drewN nq).setCell ⟨w.heap.size,0,none⟩ c).setCell ⟨w.heap.size,1,none⟩ a)):=fun c a =>
          ⟨by simpa [Blk] using blockSet (blockSet (F0.out.drewN nq) 0 c) 1 a,((show Below w.heap.size w (w1.drewN nq) from ⟨B0.out.os,B0.out.tape,B0.out.output,B0.out.size,B0.out.block⟩).setCell (p:=⟨w.heap.size,0,none⟩) (Nat.le_refl _) _).setCell (p:=⟨w.heap.size,1,none⟩) (Nat.le_refl _) _⟩
        have f0':(w1.drewN nq).cell? ⟨w.heap.size,0,none⟩=_:=f0;have f1':(w1.drewN nq).cell? ⟨w.heap.size,1,none⟩=_:=f1;have v0':(w1.drewN nq).frozen? ⟨w.heap.size,0,none⟩=_:=v0;have v1':(w1.drewN nq).frozen? ⟨w.heap.size,1,none⟩=_:=v1;go_wp2
        have D:=FIN.out (.int .i64 0) (.int .i64 0);generalize ((w1.drewN nq).setCell ⟨w.heap.size,0,none⟩ (.int .i64 0)).setCell ⟨w.heap.size,1,none⟩ (.int .i64 0)=w9 at D ⊢;have x0:=cellOf D.1 0 _ rfl;have x1:=cellOf D.1 1 _ rfl;have hE:((fc,fa):Int × Int)=(0,0):=R.out;injection hE with e1 e2
        exact bodyPost_ret (v:=.agg #[.int .i64 0,.int .i64 0]) (by simp [results,Tryz.results36,go_sem,x0,x1]) rfl ⟨by rw [e1,e2],D.2⟩
      | false =>
        have hd':¬ l.drop k=sumY sm:=by simpa using hd
        have R:Hid ((fc,fa)=((16,(k:Int)):Int × Int)):=by rw [← HFR.out,if_neg (by simpa using h3),if_pos hd'];rfl
        rw [hd] at S2;clear h3 hd hd' HFR FIN;go_wp2_with fail
        go_quiet (first | (go_at_call 15;exact Calls.quiet_of_same (S1.out _)) | (go_at_call 61;exact Calls.quiet_of_same (S2.out _)))
        have FIN:Hid (∀ c a,Blk (((w1.drewN nq).setCell ⟨w.heap.size,0,none⟩ c).setCell ⟨w.heap.size,1,none⟩ a) w.heap.size #[c,a] 30∧Below w.heap.size w (((w1.drewN nq).setCell ⟨w.heap.size,0,none⟩ c).setCell ⟨w.heap.size,1,none⟩ a)):=fun c a =>
          ⟨by simpa [Blk] using blockSet (blockSet (F0.out.drewN nq) 0 c) 1 a,((show Below w.heap.size w (w1.drewN nq) from ⟨B0.out.os,B0.out.tape,B0.out.output,B0.out.size,B0.out.block⟩).setCell (p:=⟨w.heap.size,0,none⟩) (Nat.le_refl _) _).setCell (p:=⟨w.heap.size,1,none⟩) (Nat.le_refl _) _⟩
        have f0':(w1.drewN nq).cell? ⟨w.heap.size,0,none⟩=_:=f0;have f1':(w1.drewN nq).cell? ⟨w.heap.size,1,none⟩=_:=f1;have v0':(w1.drewN nq).frozen? ⟨w.heap.size,0,none⟩=_:=v0;have v1':(w1.drewN nq).frozen? ⟨w.heap.size,1,none⟩=_:=v1;go_wp2
        have D:=FIN.out (.int .i64 16) (.int .i64 (k:Int));generalize ((w1.drewN nq).setCell ⟨w.heap.size,0,none⟩ (.int .i64 16)).setCell ⟨w.heap.size,1,none⟩ (.int .i64 (k:Int))=w9 at D ⊢;have x0:=cellOf D.1 0 _ rfl;have x1:=cellOf D.1 1 _ rfl;have hE:((fc,fa):Int × Int)=(16,(k:Int)):=R.out;injection hE with e1 e2
        exact bodyPost_ret (v:=.agg #[.int .i64 16,.int .i64 (k:Int)]) (by simp [results,Tryz.results36,go_sem,x0,x1]) rfl ⟨by rw [e1,e2],D.2⟩
    · have R:Hid ((fc,fa)=((4,0):Int × Int)):=by rw [← HFR.out,if_pos h3];rfl
      have hne:((⟨(l.take 3).toArray⟩:ByteArray).toList==[67,72,1])=false:=by
        rw [Lib.toList_data];simpa using h3
      generalize (⟨(l.take 3).toArray⟩:ByteArray)=s3 at hcv hne;clear h3 S1 S2 HFR;go_wp2
      have D:=FIN.out (.int .i64 4) (.int .i64 0);generalize (w1.setCell ⟨w.heap.size,0,none⟩ (.int .i64 4)).setCell ⟨w.heap.size,1,none⟩ (.int .i64 0)=w9 at D ⊢;have x0:=cellOf D.1 0 _ rfl;have x1:=cellOf D.1 1 _ rfl;have hE:((fc,fa):Int × Int)=(4,0):=R.out;injection hE with e1 e2
      exact bodyPost_ret (v:=.agg #[.int .i64 4,.int .i64 0]) (by simp [results,Tryz.results36,go_sem,x0,x1]) rfl ⟨by rw [e1,e2],D.2⟩
theorem ccatch_panicking {w : World} {Fb : Nat} (c a : Int) (hF : Blk w Fb #[.int .i64 0, .int .i64 0] 30) :
    CallsD Tryz.prog 49 #[ptrP Fb] (.panicking (gaveC c a)) w fun e u' w' =>
      e=.returned (.tuple #[])∧u'=.panicking [{ v:=.iface 95 (.agg #[.int .i64 c,.int .i64 a]),recovered:=true }]∧(Blk w' Fb #[.int .i64 c,.int .i64 a] 30∧Chg Fb w w'):=by
  have hFl:=hF.lt;have yF0:=cellOf hF 0 _ rfl;have zF0:=freeOf hF 0;have yF1:=cellOf hF 1 _ rfl;have zF1:=freeOf hF 1;refine callsD_of_wpS Tryz.func49 rfl fun c₀ cs hu=>?_;apply wpS_seq
  apply wpS_region
  simp [wpOpsS,go_sem,recoverD,hu,Tryz.ntmps49,Exit.thenS];rw [show (#[ptrP Fb]++((Array.replicate 15 undef).setIfInBounds 3 (Value.iface 95 (.agg #[.int .i64 c,.int .i64 a]))).setIfInBounds 0 (Value.iface 95 (.agg #[.int .i64 c,.int .i64 a])):Array Value)=#[ptrP Fb,Value.iface 95 (.agg #[.int .i64 c,.int .i64 a]),undef,undef,Value.iface 95 (.agg #[.int .i64 c,.int .i64 a]),undef,undef,undef,undef,undef,undef,undef,undef,undef,undef,undef] from rfl];refine wpS_of_wp ?_;have hta:∀ w:World,(Instr.typeAssert (.iface 95 (.agg #[.int .i64 c,.int .i64 a])) 20 95 true).run Tryz.prog w=.ok (.tuple #[.agg #[.int .i64 c,.int .i64 a],.bool true]) w:=fun _=>by kernel_rfl
  have hF2:Hid (Blk (w.alloc (.cells #[.int .i64 c,.int .i64 a] 95)) Fb #[.int .i64 0,.int .i64 0] 30):=hF.alloc _;have hX2:Hid (Blk (w.alloc (.cells #[.int .i64 c,.int .i64 a] 95)) w.heap.size #[.int .i64 c,.int .i64 a] 95):=Blk.new _ _ _;have hS2:Hid (Chg Fb w (w.alloc (.cells #[.int .i64 c,.int .i64 a] 95))):=(Step.refl _ w).alloc _;clear hF;go_upto_region 5 with fail
  clear yF0 zF0 yF1 zF1;generalize w.alloc (.cells #[.int .i64 c,.int .i64 a] 95)=w2 at hF2 hX2 hS2 ⊢;have yF0:=cellOf hF2.out 0 _ rfl;have zF0:=freeOf hF2.out 0;have yF1:=cellOf hF2.out 1 _ rfl;have zF1:=freeOf hF2.out 1;have x0:=cellOf hX2.out 0 _ rfl;have x1:=cellOf hX2.out 1 _ rfl;have n2:¬ w.heap.size=Fb:=by omega
  clear hta;go_wp2
  have D2:Blk ((w2.setCell ⟨Fb,0,none⟩ (.int .i64 c)).setCell ⟨Fb,1,none⟩ (.int .i64 a)) Fb #[.int .i64 c,.int .i64 a] 30:=by
    have:=blockSet (blockSet hF2.out 0 (.int .i64 c)) 1 (.int .i64 a)
    simpa using this
  have D3:Chg Fb w ((w2.setCell ⟨Fb,0,none⟩ (.int .i64 c)).setCell ⟨Fb,1,none⟩ (.int .i64 a)):=(hS2.out.setCell rfl _).setCell rfl _;exact (show bodyPostS _ _ _ _ _ _ _ _ _ from ⟨rfl,_,rfl,.tuple #[],by simp [results,Tryz.results49,go_sem],rfl,rfl,D2,D3⟩)
theorem ccatch_idle {w : World} (Fb : Nat) :
    CallsD Tryz.prog 49 #[ptrP Fb] .returning w fun e u' w'=>e=.returned (.tuple #[])∧u'=.returning∧w'=w:=by
  refine callsD_of_wpS Tryz.func49 rfl fun c₀ cs hu=>?_;apply wpS_seq
  apply wpS_region
  simp [wpOpsS,go_sem,recoverD,hu,Tryz.ntmps49,Exit.thenS];rw [show (#[ptrP Fb]++((Array.replicate 15 undef).setIfInBounds 3 (Value.nilIface)).setIfInBounds 0 (Value.nilIface):Array Value)=#[ptrP Fb,Value.nilIface,undef,undef,Value.nilIface,undef,undef,undef,undef,undef,undef,undef,undef,undef,undef,undef] from rfl];refine wpS_of_wp ?_;go_wp2_with fail
  cases c₀
  simp_all [bodyPostS,results,Tryz.results49]
def WorkOut (Fb : Nat) (R1 R2 : World → Prop) (en : Ending) (w2 : World) : Prop :=
  Blk w2 Fb #[.int .i64 0,.int .i64 0] 30∧((en=.returned (.tuple #[])∧R1 w2)∨(∃ c a,en=.panicked (gaveC c a)∧c≠0∧R2 w2))
def CaughtOut (Fb : Nat) (R1 R2 : World → Prop) (en : Ending) (w' : World) : Prop :=
  (∃ w2,R1 w2∧en=.returned (.agg #[.int .i64 0,.int .i64 0])∧Chg Fb w2 w')∨(∃ w2,∃ c a:Int,R2 w2∧en=.returned (.agg #[.int .i64 c,.int .i64 a])∧c≠0∧Chg Fb w2 w')
theorem caught_any {w : World} (F : Nat) (caps : Array Value) (hE0 : Enters F) (R1 R2 : World → Prop) (WORK : Calls Tryz.prog F caps (w.alloc (.cells #[.int .i64 0, .int .i64 0] 30)) fun en w2 => WorkOut w.heap.size R1 R2 en w2) :
    Calls Tryz.prog 23 #[.func (.func F) #[] caps] w fun en w'=>CaughtOut w.heap.size R1 R2 en w':=by
  have hmf:∀ (fn:Fn) (first cap:Array Value) (w:World),(Instr.makeFunc fn first cap).run Tryz.prog w=.ok (.func fn first cap) w:=fun _ _ _ _=>rfl;have hE:=hE0;unfold Enters at hE;have WK:Hid (Calls Tryz.prog F caps (w.alloc (.cells #[.int .i64 0,.int .i64 0] 30)) fun en w2=>WorkOut w.heap.size R1 R2 en w2):=WORK;clear WORK hE0;go_enter_defers Tryz.func23,Tryz.ntmps23
  go_wp2_with fail
  refine WK.out.mono ?_;rintro e' w4 ⟨hF,⟨rfl,hR⟩ | ⟨c,a,rfl,hc,hR⟩⟩
  · have F4:Hid (Blk w4 w.heap.size #[.int .i64 0,.int .i64 0] 30):=hF;have yF0:=cellOf F4.out 0 _ rfl;have zF0:=freeOf F4.out 0;have yF1:=cellOf F4.out 1 _ rfl;have zF1:=freeOf F4.out 1;have RR:Hid (R1 w4):=hR;clear hF hR WK hE;go_wp2
    have D2:Blk ((w4.setCell ⟨w.heap.size,0,none⟩ (.int .i64 0)).setCell ⟨w.heap.size,1,none⟩ (.int .i64 0)) w.heap.size #[.int .i64 0,.int .i64 0] 30:=by
      have:=blockSet (blockSet F4.out 0 (.int .i64 0)) 1 (.int .i64 0)
      simpa using this
    have D3:Chg w.heap.size w4 ((w4.setCell ⟨w.heap.size,0,none⟩ (.int .i64 0)).setCell ⟨w.heap.size,1,none⟩ (.int .i64 0)):=((Step.refl (fun k=>k=w.heap.size) w4).setCell (p:=⟨w.heap.size,0,none⟩) rfl _).setCell (p:=⟨w.heap.size,1,none⟩) rfl _;clear yF0 zF0 yF1 zF1;generalize (w4.setCell ⟨w.heap.size,0,none⟩ (.int .i64 0)).setCell ⟨w.heap.size,1,none⟩ (.int .i64 0)=w5 at D2 D3 ⊢;refine leaves_cons (f:=49) (args:=#[ptrP w.heap.size]) (by simp) (by simp [go_sem]) ?_;refine (ccatch_idle w.heap.size).mono ?_;rintro e1 u1 w6 ⟨rfl,rfl,rfl⟩;have x1:=cellOf D2 0 _ rfl;have x2:=cellOf D2 1 _ rfl;exact ⟨.agg #[.int .i64 0,.int .i64 0],by simp [results,Tryz.results23,go_sem,x1,x2],.inl ⟨w4,RR.out,rfl,D3⟩⟩
  · show bodyPostD _ _ _ _ _ _;refine leaves_cons (f:=49) (args:=#[ptrP w.heap.size]) (by simp) (by simp [go_sem]) ?_;refine (ccatch_panicking c a hF).mono ?_;rintro e1 u1 w5 ⟨rfl,rfl,d2,d3⟩;have x1:=cellOf d2 0 _ rfl;have x2:=cellOf d2 1 _ rfl;exact ⟨.agg #[.int .i64 c,.int .i64 a],by simp [results,Tryz.results23,go_sem,x1,x2],.inr ⟨w4,c,a,hR,rfl,hc,d3⟩⟩
end Go.Proofs.YtjdcjfpfpaplladGreat
namespace Go.Proofs.YtjdcjfpfpaplladGreat
open Go.RowKit
def opTmps (o : Oper) : List Tmp := o.op.operands.toList.filterMap fun | .tmp t => some t | _ => none
def dstsOf (l : List Oper) : List Tmp := l.filterMap (·.dst)
def nodupB : List Tmp → Bool
  | []=>true
  | t::r=>!r.contains t && nodupB r
def onB (gs : List (Nat × Option Bool)) (o : Oper) (b : Bool) : Bool :=
  match o.guard with
  | none=>b
  | some (g,want)=>match gs.lookup g with
    | some c=>b==(c==some want)
    | none=>false
def onsB (gs : List (Nat × Option Bool)) : List Oper → List Bool → Bool
  | [],[]=>true
  | o::l,b::bs=>onB gs o b && onsB gs l bs
  | _,_=>false
def looksB (ops : Array Oper) (ds outs : List Tmp) (o : Oper) : Bool :=
  (o.looksAt ops).all fun t=>(outs.contains t && !ds.contains t) || o.after.any fun e=>Region.binds .any e && ((ops[e.on]?).bind (·.dst)==some t)
def backB (i : Nat) : List Oper → Bool
  | []=>true
  | o::l=>(o.after.all fun e=>!Region.binds .any e || decide (e.on<i)) && backB (i+1) l
def calmB (l : List Oper) (n : Nat) (outs : List Tmp) (gs : List (Nat × Option Bool)) (bs : List Bool) : Bool :=
  (gs.all fun g=>((l.toArray[g.1]?).bind (·.dst)).isSome) && nodupB (dstsOf l) && ((dstsOf l).all fun t=>decide (t<n)) && (l.all (looksB l.toArray (dstsOf l) outs)) && onsB gs l bs && backB 0 l
section
variable {P : Program} (E : Tmp → Value → World → Prop) (W : World → Prop) (R : World → World → Prop)
def EO : Option Tmp → Value → World → Prop
  | some t=>E t
  | none=>fun _ _=>True
def Known (a : Act) (w : World) : List Tmp → Prop
  | []=>True
  | t::r=>E t (a.tmps.getD t undef) w∧Known a w r
def StepOn (P : Program) (o : Oper) : Prop :=
  ∀ a w,W w→Known E a w (opTmps o)→∀ K:Act→World→Prop,(∀ v w',R w w'→W w'→EO E o.dst v w'→K (a.put o.dst v) w')→o.wp P a w K (fun _ _ _=>False)
def StepOff (o : Oper) : Prop := ∀ w, W w → EO E o.dst undef w
def AllOk (P : Program) : List Oper → List Bool → Prop
  | o::l,true::bs=>StepOn E W R P o∧AllOk P l bs
  | o::l,false::bs=>StepOff E W o∧AllOk P l bs
  | _,_=>True
def GuardOk (ops : Array Oper) : List (Nat × Option Bool) → Prop
  | []=>True
  | (g,c)::r=>(∀ t,(ops[g]?).bind (·.dst)=some t→∀ v w,W w→E t v w→match c with | some b=>v=.bool b | none=>v=undef)∧GuardOk ops r
def OutsOk (a : Act) (w : World) : List Tmp → Prop
  | []=>True
  | t::r=>E t (a.tmps.getD t undef) w∧OutsOk a w r
def puts (a : Act) (vs : Tmp → Value) : List Tmp → Act
  | []=>a
  | t::r=>puts (a.put (some t) (vs t)) vs r
end
theorem wpq {P : Program} {o : Oper} {a : Act} {w : World} {K K' : Act → World → Prop} {Q : Exit → Act → World → Prop} (h : ∀ a w, K a w → K' a w)
    (hh:o.wp P a w K (fun _ _ _=>False)):o.wp P a w K' Q:=by
  unfold Oper.wp at *;generalize (execOp a.eval o).run P w=r at *
  cases r with
  | ok n w' =>
    cases n <;> simp only [Oper.upon] at hh ⊢ <;>
      first
        | exact h _ _ hh
        | exact Calls.mono hh (fun e w'' he=>by cases e <;> first | exact h _ _ he | exact he.elim | (obtain ⟨_,_,he⟩:=he;exact he.elim))
        | exact Rows.mono hh (fun _ _ he=>h _ _ he)
  | halt x w'=>cases x <;> simp only [Oper.upon] at hh ⊢
theorem puts_defers (vs : Tmp → Value) : ∀ (ds : List Tmp) (a : Act), (puts a vs ds).defers = a.defers
  | [],_=>rfl
  | _::r,a=>by rw [puts,puts_defers vs r];rfl
theorem puts_size (vs : Tmp → Value) : ∀ (ds : List Tmp) (a : Act), (puts a vs ds).tmps.size = a.tmps.size
  | [],_=>rfl
  | _::r,a=>by rw [puts,puts_size vs r];simp [Act.put]
theorem puts_at (vs : Tmp → Value) : ∀ (ds : List Tmp) (a : Act) (t : Nat), t < a.tmps.size → (puts a vs ds).tmps[t]? = if t ∈ ds then some (vs t) else a.tmps[t]?
  | [],_,_,_=>by simp [puts]
  | d::r,a,t,ht=>by
    rw [puts,puts_at vs r _ t (by simpa [Act.put] using ht)];by_cases h1:t∈r
    · simp [h1]
    · by_cases h2:d=t
      · subst h2;simp [h1,Act.put,ht]
      · have:t≠d:=fun e=>h2 e.symm
        simp [h1,this,Act.put,h2]
theorem nodup_apart : ∀ (l : List Oper) (i j : Nat) (oi oj : Oper) (t : Tmp), nodupB (dstsOf l) = true → l[i]? = some oi → l[j]? = some oj → oi.dst = some t → oj.dst = some t → i = j
  | [],_,_,_,_,_,_,hi,_,_,_=>by simp at hi
  | o::l,i,j,oi,oj,t,h,hi,hj,di,dj=>by
    have hh:∀ {k:Nat} {ok:Oper},l[k]?=some ok→ok.dst=some t→t∈dstsOf l:=fun {k ok} hk hd=>List.mem_filterMap.2 ⟨ok,List.mem_of_getElem? hk,hd⟩
    have hn:nodupB (dstsOf l)=true:=by
      unfold dstsOf at h ⊢
      cases hd:o.dst with
      | none=>simpa [List.filterMap_cons,hd] using h
      | some d=>simp [hd,nodupB] at h;exact h.2
    have hx:o.dst=some t→t ∉ dstsOf l:=fun hd=>by
      unfold dstsOf at h ⊢;simp only [List.filterMap_cons,hd,nodupB,Bool.and_eq_true,Bool.not_eq_true'] at h;intro hm
      have:=h.1
      simp at this
      simp at hm
      obtain ⟨x,hx,he⟩:=hm;exact this x hx he
    cases i with
    | zero =>
      cases j with
      | zero=>rfl
      | succ j=>simp at hi hj;subst hi;exact absurd (hh hj dj) (hx di)
    | succ i =>
      cases j with
      | zero=>simp at hi hj;subst hj;exact absurd (hh hi di) (hx dj)
      | succ j=>simp at hi hj;rw [nodup_apart l i j oi oj t hn hi hj di dj]
section
variable {P : Program} {E : Tmp → Value → World → Prop} {W : World → Prop} {R : World → World → Prop}
theorem known_of {a : Act} {w : World} : ∀ (l : List Tmp), (∀ t ∈ l, E t (a.tmps.getD t undef) w) → Known E a w l
  | [],_=>trivial
  | t::r,h=>⟨h t (by simp),known_of r fun x hx=>h x (by simp [hx])⟩
theorem outs_mem {a : Act} {w : World} : ∀ (l : List Tmp), OutsOk E a w l → ∀ t ∈ l, E t (a.tmps.getD t undef) w
  | [],_,_,h=>by simp at h
  | x::r,h,t,ht=>by
    rcases List.mem_cons.1 ht with rfl | ht
    · exact h.1
    · exact outs_mem r h.2 t ht
theorem guard_mem {ops : Array Oper} : ∀ (gs : List (Nat × Option Bool)), GuardOk E W ops gs → ∀ g c, gs.lookup g = some c → ∀ t, (ops[g]?).bind (·.dst) = some t → ∀ v w, W w → E t v w → match c with | some b => v = .bool b | none => v = undef
  | [],_,_,_,h=>by simp at h
  | (g',c')::r,h,g,c,hl=>by
    by_cases e:g=g'
    · subst e;simp at hl;subst hl;exact h.1
    · have e':(g==g')=false:=by simpa using e
      simp [List.lookup_cons,e'] at hl;exact guard_mem r h.2 g c hl
theorem mem_of_lookup : ∀ (gs : List (Nat × Option Bool)) (g : Nat) (c : Option Bool), gs.lookup g = some c → (g, c) ∈ gs
  | [],_,_,h=>by simp at h
  | (g',c')::r,g,c,hl=>by
    by_cases e:g=g'
    · subst e;simp at hl;subst hl;simp
    · have e':(g==g')=false:=by simpa using e
      simp [List.lookup_cons,e'] at hl;exact List.mem_cons_of_mem _ (mem_of_lookup r g c hl)
theorem filter_set : ∀ (l : List Bool) (i : Nat) (h : i < l.length), l[i] = false → ((l.set i true).filter (· == false)).length + 1 = (l.filter (· == false)).length
  | [],_,h,_=>by simp at h
  | x::l,0,_,h=>by simp at h;subst h;simp
  | x::l,i+1,hi,h=>by
    simp at h hi
    have:=filter_set l i hi h
    cases x <;> simp at this ⊢ <;> omega
theorem all_at (gs : List (Nat × Option Bool)) : ∀ (l : List Oper) (bs : List Bool), onsB gs l bs = true → AllOk E W R P l bs → ∀ (i : Nat) (o : Oper), l[i]? = some o → (onB gs o true = true ∧ StepOn E W R P o) ∨ (onB gs o false = true ∧ StepOff E W o)
  | [],_,_,_,_,_,h=>by simp at h
  | _::_,[],h,_,_,_,_=>by simp [onsB] at h
  | x::l,b::bs,h,ha,i,o,ho=>by
    simp only [onsB,Bool.and_eq_true] at h
    cases i with
    | zero =>
      simp at ho;subst ho
      cases b with
      | true=>exact .inl ⟨h.1,ha.1⟩
      | false=>exact .inr ⟨h.1,ha.1⟩
    | succ i =>
      simp at ho
      cases b with
      | true=>exact all_at gs l bs h.2 ha.2 i o ho
      | false=>exact all_at gs l bs h.2 ha.2 i o ho
theorem back_at : ∀ (l : List Oper) (k i : Nat) (o : Oper), backB k l = true → l[i]? = some o → ∀ e ∈ o.after, Region.binds .any e = true → e.on < k + i
  | [],_,_,_,_,h=>by simp at h
  | x::l,k,i,o,h,ho=>by
    simp only [backB,Bool.and_eq_true] at h
    cases i with
    | zero =>
      simp at ho;subst ho
      intro e he hb
      have:=Array.all_eq_true_iff_forall_mem.1 h.1 e he
      simpa [hb] using this
    | succ i =>
      simp at ho
      intro e he hb
      have:=back_at l (k+1) i o h.2 ho e he hb
      omega
structure Calm (E : Tmp → Value → World → Prop) (W : World → Prop) (l : List Oper) (outs : List Tmp) (a0 : Act) (listed : Array Bool) (a : Act) (w : World) : Prop where
  world:W w
  defers:a.defers=a0.defers
  size:a.tmps.size=a0.tmps.size
  outer:∀ t,t ∉ dstsOf l→a.tmps[t]?=a0.tmps[t]?
  outs:∀ t∈outs,t ∉ dstsOf l→E t (a.tmps.getD t undef) w
  known:∀ j o t,l[j]?=some o→o.dst=some t→listed.getD j false=true→E t (a.tmps.getD t undef) w
theorem wpAny_calm {l : List Oper} {outs : List Tmp} {gs : List (Nat × Option Bool)} {bs : List Bool} {a0 : Act} {Q : Exit → Act → World → Prop}
    (hB:calmB l a0.tmps.size outs gs bs=true) (hR:∀ t v w w',R w w'→E t v w→E t v w') (hG:GuardOk E W l.toArray gs) (hA:AllOk E W R P l bs)
    (hend:∀ (vs:Tmp→Value) w',W w'→(∀ t,(dstsOf l).contains t=true→E t (vs t) w')→Q .normal (puts a0 vs (dstsOf l)) w') :
    ∀ (fuel:Nat) (listed:Array Bool) (a:Act) (w:World),listed.size=l.length→(listed.toList.filter (·==false)).length≤fuel→Calm E W l outs a0 listed a w →
      wpAny P .any l.toArray Q fuel listed a w:=by
  simp only [calmB,Bool.and_eq_true] at hB;obtain ⟨⟨⟨⟨⟨hgd,hnd⟩,hsz⟩,hlk⟩,hon⟩,hbk⟩:=hB
  have fin:∀ (listed:Array Bool) (a:Act) (w:World),listed.size=l.length→Region.ready .any l.toArray listed=[]→Calm E W l outs a0 listed a w→Q .normal a w:=by
    intro listed a w hs hr hc
    have hall:∀ j,j<l.length→listed.getD j false=true:=by
      intro j
      induction j using Nat.strongRecOn with
      | _ j ih =>
        intro hj
        cases hb:listed.getD j false with
        | true=>rfl
        | false =>
          exfalso
          have:j∈Region.ready .any l.toArray listed:=by
            unfold Region.ready;refine List.mem_filter.2 ⟨by simpa using hj,?_⟩
            have e1:listed.getD j true=false:=by
              have hj':j<listed.size:=by omega
              simp [Array.getD,hj'] at hb ⊢;exact hb
            have e2:l.toArray[j]?=some l[j]:=by simp [hj]
            rw [e1,e2];simp only [Bool.not_false,Bool.true_and,Option.map_some,Option.getD_some];rw [Array.all_eq_true_iff_forall_mem];intro e he
            cases hbd:Region.binds .any e with
            | false=>rfl
            | true =>
              have:=back_at l 0 j l[j] hbk (by simp [hj]) e he hbd
              simp only [Bool.not_true,Bool.false_or];exact ih e.on (by omega) (by omega)
          rw [hr] at this
          cases this
    have hmem:∀ t∈dstsOf l,E t (a.tmps.getD t undef) w∧t<a0.tmps.size:=by
      intro t ht;obtain ⟨o,ho,hd⟩:=List.mem_filterMap.1 ht;obtain ⟨j,hj⟩:=List.getElem?_of_mem ho
      have hlt:j<l.length:=by
        rcases Nat.lt_or_ge j l.length with h | h
        · exact h
        · rw [List.getElem?_eq_none h] at hj;cases hj
      exact ⟨hc.known j o t hj hd (hall j hlt),by simpa using List.all_eq_true.1 hsz t ht⟩
    have he:a=puts a0 (fun t=>a.tmps.getD t undef) (dstsOf l):=by
      have e1:a.tmps=(puts a0 (fun t=>a.tmps.getD t undef) (dstsOf l)).tmps:=by
        refine Array.ext (by rw [puts_size,hc.size]) fun t h1 h2=>?_;have h3:t<a0.tmps.size:=by rw [← hc.size];exact h1
        have:=puts_at (fun t=>a.tmps.getD t undef) (dstsOf l) a0 t h3
        rw [Array.getElem?_eq_getElem h2] at this;by_cases hm:t∈dstsOf l
        · rw [if_pos hm] at this;simp only [Option.some.injEq] at this;rw [this];simp [Array.getD,h1]
        · rw [if_neg hm,← hc.outer t hm,Array.getElem?_eq_getElem h1] at this;exact (Option.some.inj this).symm
      have e2:a.defers=(puts a0 (fun t=>a.tmps.getD t undef) (dstsOf l)).defers:=by rw [puts_defers,hc.defers]
      cases a with
      | mk t d =>
        simp only at e1 e2
        generalize hp:puts a0 (fun x=>t.getD x undef) (dstsOf l)=p at e1 e2 ⊢
        cases p;simp only at e1 e2;rw [e1,e2]
    rw [he];exact hend _ _ hc.world fun t ht=>(hmem t (by simpa using ht)).1
  intro fuel
  induction fuel with
  | zero =>
    intro listed a w hs hf hc
    have hr:Region.ready .any l.toArray listed=[]:=by
      rw [List.eq_nil_iff_forall_not_mem];intro i hi;obtain ⟨h1,h2⟩:=List.mem_filter.1 hi;have hlt:i<l.length:=by simpa using h1
      simp only [Bool.and_eq_true,Bool.not_eq_true'] at h2
      have:listed[i]'(by omega)=false:=by
        have:=h2.1;simp [Array.getD,show i<listed.size by omega] at this;exact this
      have hm:false∈listed.toList.filter (·==false):=List.mem_filter.2 ⟨by rw [← this];simp,by simp⟩
      have:=List.length_pos_of_mem hm
      omega
    exact ⟨hr,fin listed a w hs hr hc⟩
  | succ fuel ih =>
    intro listed a w hs hf hc;refine ⟨fun hr=>fin listed a w hs hr hc,fun i hi=>?_⟩;obtain ⟨h1,h2⟩:=List.mem_filter.1 hi;have hlt:i<l.length:=by simpa using h1
    simp only [Bool.and_eq_true,Bool.not_eq_true'] at h2;obtain ⟨hun,hdone⟩:=h2;have hil:i<listed.size:=by omega
    have hun':listed[i]=false:=by simp [Array.getD,hil] at hun;exact hun
    have ho:l.toArray[i]?=some l[i]:=by simp [hlt]
    have ho':l[i]?=some l[i]:=by simp [hlt]
    generalize hoo:l[i]=o at ho ho';rw [ho] at hdone;simp only [Option.map_some,Option.getD_some] at hdone;rw [Array.all_eq_true_iff_forall_mem] at hdone
    have hlooks:∀ t∈o.looksAt l.toArray,E t (a.tmps.getD t undef) w:=by
      intro t ht
      have:=List.all_eq_true.1 (List.all_eq_true.1 hlk o (List.mem_of_getElem? ho')) t ht
      rw [Bool.or_eq_true] at this;rcases this with h | h
      · simp only [Bool.and_eq_true,Bool.not_eq_true'] at h;exact hc.outs t (by simpa using h.1) (by simpa using h.2)
      · obtain ⟨k,hk,h⟩:=Array.any_eq_true.1 h;simp only [Bool.and_eq_true,beq_iff_eq] at h;obtain ⟨hb,hd⟩:=h;have hl:=hdone _ (Array.getElem_mem hk);rw [hb] at hl;simp only [Bool.not_true,Bool.false_or] at hl;generalize o.after[k]=e at *;obtain ⟨oj,hoj,hdj⟩:=Option.bind_eq_some_iff.1 hd;exact hc.known e.on oj t (by simpa using hoj) hdj hl
    have hkn:Known E a w (opTmps o):=known_of _ fun t ht=>hlooks t (by
      unfold Oper.looksAt;exact List.mem_append_left _ ht)
    have hw:∀ b,onB gs o b=true→Region.wanted o (yielded l.toArray a.tmps)=b:=by
      intro b hb;unfold onB at hb;unfold Region.wanted
      cases hg:o.guard with
      | none=>rw [hg] at hb;simp only at hb ⊢;exact hb.symm
      | some gw =>
        obtain ⟨g,want⟩:=gw;rw [hg] at hb;simp only at hb ⊢
        cases hl:gs.lookup g with
        | none=>rw [hl] at hb;cases hb
        | some c =>
          rw [hl] at hb;simp only [beq_iff_eq] at hb
          have hy:yielded l.toArray a.tmps g=c:=by
            unfold yielded;have hmg:(g,c)∈gs:=mem_of_lookup gs g c hl;have hsome:=List.all_eq_true.1 hgd _ hmg
            cases hd:(l.toArray[g]?).bind (·.dst) with
            | none=>rw [hd] at hsome;cases hsome
            | some t =>
              have hE:=hlooks t (by unfold Oper.looksAt;rw [hg];simp only [hd];simp);have hv:=guard_mem gs hG g c hl t hd _ _ hc.world hE;obtain ⟨og,hog,hdg⟩:=Option.bind_eq_some_iff.1 hd
              have htl:t<a.tmps.size:=by
                rw [hc.size]
                have:=List.all_eq_true.1 hsz t (List.mem_filterMap.2 ⟨og,List.mem_of_getElem? (by simpa using hog),hdg⟩)
                simpa using this
              have ht:a.tmps[t]?=some (a.tmps.getD t undef):=by simp [Array.getD,htl]
              simp only [Option.bind_some,ht]
              cases c with
              | none=>simp only at hv;rw [hv];rfl
              | some b=>simp only at hv;rw [hv]
          rw [hy,hb]
    have hlen:((listed.setIfInBounds i true).toList.filter (·==false)).length≤fuel:=by
      have h3:=filter_set listed.toList i (by simpa using hil) (by simpa using hun');rw [Array.toList_setIfInBounds];omega
    have next:∀ v w',W w'→(∀ t v,E t v w→E t v w')→EO E o.dst v w'→Calm E W l outs a0 (listed.setIfInBounds i true) (a.put o.dst v) w':=by
      intro v w' hw' hst hv
      have hput:∀ t,o.dst≠some t→(a.put o.dst v).tmps[t]?=a.tmps[t]?:=by
        intro t ht
        cases hd:o.dst with
        | none=>rfl
        | some d =>
          have:d≠t:=fun e=>ht (by rw [hd,e])
          simp [Act.put,this]
      have hgetD:∀ (b c:Array Value) (t:Nat),b[t]?=c[t]?→b.getD t undef=c.getD t undef:=by
        intro b c t h;rw [Array.getD_eq_getD_getElem?,Array.getD_eq_getD_getElem?,h]
      refine ⟨hw',?_,?_,?_,?_,?_⟩
      · rw [← hc.defers];cases o.dst <;> rfl
      · rw [← hc.size];cases o.dst <;> simp [Act.put]
      · intro t ht;rw [hput t (fun e=>ht (List.mem_filterMap.2 ⟨o,List.mem_of_getElem? ho',e⟩)),hc.outer t ht]
      · intro t ht hn;rw [hgetD _ _ t (hput t (fun e=>hn (List.mem_filterMap.2 ⟨o,List.mem_of_getElem? ho',e⟩)))];exact hst _ _ (hc.outs t ht hn)
      · intro j oj t hj hd hlj;by_cases hji:j=i
        · subst hji;rw [ho'] at hj;obtain rfl:=Option.some.inj hj
          have htl:t<a.tmps.size:=by
            rw [hc.size]
            have:=List.all_eq_true.1 hsz t (List.mem_filterMap.2 ⟨o,List.mem_of_getElem? ho',hd⟩)
            simpa using this
          rw [hd] at hv ⊢
          have:(a.put (some t) v).tmps.getD t undef=v:=by simp [Act.put,Array.getD,htl]
          rw [this];exact hv
        · have hne:o.dst≠some t:=fun e=>hji (nodup_apart l j i oj o t hnd hj ho' hd e);rw [hgetD _ _ t (hput t hne)];refine hst _ _ (hc.known j oj t hj hd ?_);have hne':i≠j:=fun e=>hji e.symm;rw [Array.getD_eq_getD_getElem?,Array.getElem?_setIfInBounds_ne hne'] at hlj;rw [Array.getD_eq_getD_getElem?];exact hlj
    unfold wpOp;rw [ho];simp only
    rcases all_at gs l bs hon hA i o ho' with ⟨h,hst⟩ | ⟨h,hst⟩
    · rw [hw true h,if_pos rfl];refine .inl (wpq (fun a' w' hh=>hh) (hst a w hc.world hkn _ fun v w' hr hw' hv=>?_));exact ih _ _ _ (by simpa using hs) hlen (next v w' hw' (fun t v he=>hR t v w w' hr he) hv)
    · rw [hw false h];simp only [Bool.false_eq_true,if_false];exact ih _ _ _ (by simpa using hs) hlen (next undef w hc.world (fun _ _ h=>h) (hst w hc.world))
end
end Go.Proofs.YtjdcjfpfpaplladGreat
namespace Go.Proofs.YtjdcjfpfpaplladGreat
open Go.RowKit
set_option linter.unusedVariables false
structure Fr (n : Nat) (a : Act) (L : List (Tmp × Value)) : Prop where
  size:a.tmps.size=n
  defers:a.defers=[]
  sl:∀ t v,L.lookup t=some v→a.tmps.getD t undef=v
section
variable {P : Program} {n : Nat} {a : Act} {L : List (Tmp × Value)} {w w' : World} {Q : Exit → Act → World → Prop} {ops : Array Oper} {o : Oper} {rest : List Oper} {t : Tmp} {v : Value}
theorem Fr.put (h : Fr n a L) (ht : Nat.blt t n = true) : Fr n (a.put (some t) v) ((t, v) :: L) := by
  have ht':t<n:=by simpa [Nat.blt,Nat.ble_eq,Nat.succ_le_iff] using ht
  refine ⟨by simpa [Act.put] using h.size,h.defers,fun s u hs=>?_⟩;by_cases e:s=t
  · subst e;simp at hs
    subst hs
    have:s<a.tmps.size:=by rw [h.size];exact ht'
    simp [Act.put,Array.getD,this]
  · have e':(s==t)=false:=by simpa using e
    simp only [List.lookup_cons,e'] at hs
    have:=h.sl s u hs
    have hne:t≠s:=fun x=>e x.symm;rw [Array.getD_eq_getD_getElem?] at this ⊢;simp only [Act.put];rw [Array.getElem?_setIfInBounds_ne hne];exact this
theorem Fr.cons (h : Fr n a L) (e : a.tmps.getD t undef = v) : Fr n a ((t, v) :: L) := by
  refine ⟨h.size,h.defers,fun s u hs=>?_⟩;by_cases e':s=t
  · subst e';simp at hs
    subst hs;exact e
  · have e'':(s==t)=false:=by simpa using e'
    simp only [List.lookup_cons,e''] at hs;exact h.sl s u hs
theorem Fr.nil (h : Fr n a L) : Fr n a [] := ⟨h.size, h.defers, fun s u hs => by simp at hs⟩
theorem Fr.keep {L' : List (Tmp × Value)} (h : Fr n a L) (k : Fr n a L') (e : L.lookup t = some v) : Fr n a ((t, v) :: L') := k.cons (h.sl t v e)
theorem fr_region {id : Nat} {l : List Oper} (h : ∀ ops : Array Oper, (∀ g : Nat, (ops[g]?).bind (fun o : Oper => o.dst) = (l[g]?).bind (fun o : Oper => o.dst)) → wpList P ops Q l a w) : (Code.region id l.toArray false).wp P Q a w :=
  wp_region_lit (h _ fun g=>by simp)
theorem fr_pure (hF : Fr n a L) (hd : o.dst = some t) (hg : o.guard = none) (ht : Nat.blt t n = true)
    (h:∀ K:Act→World→Prop,K (a.put (some t) v) w'→o.wp P a w K Q)
    (k:∀ a',Fr n a' ((t,v)::L)→wpList P ops Q rest a' w'):wpList P ops Q (o::rest) a w :=
  wpList_plain hg fun K hK=>h K (hK _ _ (k _ (hF.put ht)))
theorem fr_skip (hF : Fr n a L) (hd : o.dst = none) (hg : o.guard = none)
    (h:∀ K:Act→World→Prop,K a w'→o.wp P a w K Q)
    (k:wpList P ops Q rest a w'):wpList P ops Q (o::rest) a w :=
  wpList_plain hg fun K hK=>h K (hK _ _ k)
theorem wanted_g {g tg : Nat} {want : Bool} {u : Value} (hF : Fr n a L) (hg : o.guard = some (g, want)) (hs : (ops[g]?).bind (fun o : Oper => o.dst) = some tg) (htg : Nat.blt tg n = true) (hv : L.lookup tg = some u) :
    Region.wanted o (yielded ops a.tmps)=(match u with | .bool b=>b==want | _=>false):=by
  have htg':tg<a.tmps.size:=by rw [hF.size];simpa [Nat.blt,Nat.ble_eq,Nat.succ_le_iff] using htg
  have:=hF.sl tg u hv
  have hx:a.tmps[tg]?=some u:=by rw [← this];simp [Array.getD,htg']
  simp only [Region.wanted,hg,yielded,hs,Option.bind_some,hx]
  cases u <;> simp
theorem fr_off {g tg : Nat} {want : Bool} {u : Value} (hF : Fr n a L) (hd : o.dst = some t) (hg : o.guard = some (g, want)) (hs : (ops[g]?).bind (fun o : Oper => o.dst) = some tg) (htg : Nat.blt tg n = true) (hv : L.lookup tg = some u) (hu : (match u with | .bool b => b == want | _ => false) = false) (ht : Nat.blt t n = true)
    (k:∀ a',Fr n a' ((t,undef)::L)→wpList P ops Q rest a' w):wpList P ops Q (o::rest) a w :=
  wpList_step fun K hK=>by
    rw [wanted_g hF hg hs htg hv,hu];simp only [Bool.false_eq_true,if_false,hd];exact hK _ _ (k _ (hF.put ht))
theorem fr_cond {x y : Code} {b : Bool} (hF : Fr n a L) (hv : L.lookup t = some (.bool b)) (ht : b = true → x.wp P Q a w) (hf : b = false → y.wp P Q a w) : (Code.cond (.tmp t) x y).wp P Q a w :=
  wp_cond_split (hF.sl t _ hv) ht hf
theorem fr_true {x y : Code} (hF : Fr n a L) (hv : L.lookup t = some (.bool true)) (h : x.wp P Q a w) : (Code.cond (.tmp t) x y).wp P Q a w := wp_cond_true (hF.sl t _ hv) h
theorem fr_false {x y : Code} (hF : Fr n a L) (hv : L.lookup t = some (.bool false)) (h : y.wp P Q a w) : (Code.cond (.tmp t) x y).wp P Q a w := wp_cond_false (hF.sl t _ hv) h
theorem of_then_ret {K : Act → World → Prop} (h : Q .ret a w) : Exit.then K Q .ret a w := h
theorem of_block_ret {id : Nat} (h : Q .ret a w) : Exit.inBlock id Q .ret a w := h
open Classical in
theorem fr_loop {c : Code} (I : Nat → Act → World → Prop) (q : Nat) (h0 : I q a w)
    (round:∀ q a w,I q a w→∀ K:Act→World→Prop,(∀ a' w' q',q'<q→I q' a' w'→K a' w')→c.wp P (Exit.then K Q) a w):(Code.loop c).wp P Q a w:=by
  have hex:∀ {a w},(∃ q,I q a w)→∃ q,I q a w∧∀ r,I r a w→q≤r:=by
    rintro a w ⟨q,hq⟩
    induction q using Nat.strongRecOn with
    | _ q ih =>
      by_cases hl:∃ r,r<q∧I r a w
      · obtain ⟨r,hr,hi⟩:=hl;exact ih r hr hi
      · exact ⟨q,hq,fun r hr=>Nat.le_of_not_lt fun h=>hl ⟨r,h,hr⟩⟩
  refine wp_loop (fun a w=>∃ q,I q a w) (fun a w=>if h:∃ q,I q a w then Classical.choose (hex h) else 0) ⟨q,h0⟩ fun a w hI=>?_;have hs:=Classical.choose_spec (hex hI);refine round _ a w hs.1 _ fun a' w' q' hq' hI'=>⟨⟨q',hI'⟩,?_⟩;have h':∃ q,I q a' w':=⟨q',hI'⟩;have hs':=Classical.choose_spec (hex h');rw [dif_pos h',dif_pos hI];exact Nat.lt_of_le_of_lt (hs'.2 q' hI') hq'
theorem fr_enter {f : FuncId} {fn : Func} {c : Code} {args : Array Value} {R : Ending → World → Prop} (hf : P.funcs[f]? = some fn) (hb : fn.body = some c) (hn : fn.ntmps = n) (ha : Nat.ble args.size n = true)
    (h:∀ a,Fr n a (args.toList.zipIdx.map fun x=>(x.2,x.1))→c.wp P (bodyPost P fn R) a w):Calls P f args w R:=by
  have ha':args.size≤n:=by simpa [Nat.ble_eq] using ha
  refine calls_of_wp hf hb (h _ ⟨by simp [hn];omega,rfl,fun t v hl=>?_⟩)
  have:∀ (l:List Value) (k t:Nat),((l.zipIdx k).map fun x=>(x.2,x.1)).lookup t=some v→k≤t∧l[t - k]?=some v:=by
    intro l
    induction l with
    | nil=>intro k t h;simp at h
    | cons x l ih =>
      intro k t h;by_cases e:t=k
      · subst e;simp at h;subst h;simp
      · have e':(t==k)=false:=by simpa using e
        simp only [List.zipIdx_cons,List.map_cons,List.lookup_cons,e'] at h;obtain ⟨h1,h2⟩:=ih (k+1) t h;refine ⟨by omega,?_⟩
        have:t - k=(t - (k+1))+1:=by omega
        rw [this];simpa using h2
  obtain ⟨_,h2⟩:=this _ 0 t hl;simp at h2
  have hlt:t<args.size:=(Array.getElem?_eq_some_iff.1 h2).1;rw [Array.getD_eq_getD_getElem?,Array.getElem?_append_left hlt,h2];rfl
end
section
variable {P : Program} {Q : Exit → Act → World → Prop}
theorem wp_then {o : Oper} {a : Act} {w : World} {K N : Act → World → Prop} (h : o.wp P a w K (Exit.then N Q)) : o.wp P a w K Q := by
  unfold Oper.wp at *;generalize (execOp a.eval o).run P w=r at *
  cases r with
  | ok n w'=>cases n <;> exact h
  | halt x w'=>cases x <;> exact h
def waitsB (k : Nat) (o : Oper) : Bool := (List.range k).all fun j => o.after.any fun e => Region.binds .any e && e.on == j
def tailB (k : Nat) : List Oper → Bool
  | []=>true
  | o::l=>waitsB k o && tailB (k+1) l
def guardsB (n : Nat) (l : List Oper) : Bool := l.all fun o => match o.guard with | some (g, _) => decide (g < n) | none => true
theorem tail_at : ∀ (l : List Oper) (k i : Nat) (o : Oper), tailB k l = true → l[i]? = some o → ∀ j, j < k + i → ∃ e ∈ o.after, Region.binds .any e = true ∧ e.on = j
  | [],_,_,_,_,h=>by simp at h
  | x::l,k,0,o,h,ho=>by
    simp at ho;subst ho
    simp only [tailB,Bool.and_eq_true] at h;intro j hj
    have:=List.all_eq_true.1 h.1 j (by simpa using hj)
    obtain ⟨q,hq,he⟩:=Array.any_eq_true.1 this;simp only [Bool.and_eq_true,beq_iff_eq] at he;exact ⟨_,Array.getElem_mem hq,he.1,he.2⟩
  | x::l,k,i+1,o,h,ho=>by
    simp only [tailB,Bool.and_eq_true] at h;simp at ho
    intro j hj;exact tail_at l (k+1) i o h.2 ho j (by omega)
theorem ready_mem {ops : Array Oper} {listed : Array Bool} {i : Nat} : i ∈ Region.ready .any ops listed ↔ i < ops.size ∧ listed.getD i true = false ∧ ∃ o, ops[i]? = some o ∧ ∀ e ∈ o.after, Region.binds .any e = true → listed.getD e.on false = true := by
  unfold Region.ready;rw [List.mem_filter];simp only [List.mem_range,Bool.and_eq_true,Bool.not_eq_true'];refine and_congr_right fun h1=>and_congr_right fun h2=>?_;rw [Array.getElem?_eq_getElem h1];simp only [Option.map_some,Option.getD_some,Option.some.injEq,exists_eq_left'];rw [Array.all_eq_true_iff_forall_mem];refine forall_congr' fun e=>forall_congr' fun he=>?_
  cases Region.binds .any e <;> simp
theorem wpAny_seq {l : List Oper} (hb : backB 0 l = true) {k0 : Nat} (ht : tailB k0 (l.drop k0) = true) : ∀ (m k fuel : Nat) (listed : Array Bool) (a : Act) (w : World), k + m = l.length → k0 ≤ k → m ≤ fuel → listed.size = l.length →
    (∀ j,j<l.length→listed.getD j false=decide (j<k))→wpList P l.toArray Q (l.drop k) a w→wpAny P .any l.toArray Q fuel listed a w:=by
  intro m
  induction m with
  | zero =>
    intro k fuel listed a w hk _ _ hs hl h
    have hr:Region.ready .any l.toArray listed=[]:=by
      rw [List.eq_nil_iff_forall_not_mem];intro i hi;obtain ⟨h1,h2,_⟩:=ready_mem.1 hi;have h1':i<l.length:=by simpa using h1
      have:=hl i h1'
      have hd:decide (i<k)=true:=by simp;omega
      rw [hd] at this;have hi':i<listed.size:=by omega
      simp [Array.getD,hi'] at this h2;rw [this] at h2;cases h2
    have hq:Q .normal a w:=by
      rw [List.drop_of_length_le (by omega)] at h;exact h
    cases fuel with
    | zero=>exact ⟨hr,hq⟩
    | succ fuel=>exact ⟨fun _=>hq,fun i hi=>by rw [hr] at hi;cases hi⟩
  | succ m ih =>
    intro k fuel listed a w hk hk0 hf hs hl h;have hlt:k<l.length:=by omega
    obtain ⟨fuel,rfl⟩:∃ f,fuel=f+1:=⟨fuel - 1,by omega⟩;have hks:k<listed.size:=by omega
    have hkr:k∈Region.ready .any l.toArray listed:=by
      refine ready_mem.2 ⟨by simpa using hlt,?_,l[k],by simp [hlt],fun e he hbd=>?_⟩
      · have:=hl k hlt
        simp [Array.getD,hks] at this ⊢;exact this
      · have:=back_at l 0 k l[k] hb (by simp [hlt]) e he hbd
        rw [hl _ (by omega)];simp;omega
    refine ⟨fun hr=>absurd (hr ▸ hkr) (by simp),fun i hi=>?_⟩
    have hik:i=k:=by
      obtain ⟨h1,h2,o,ho,h3⟩:=ready_mem.1 hi;have h1':i<l.length:=by simpa using h1
      have hnl:listed.getD i false=false:=by
        have hi':i<listed.size:=by omega
        simp [Array.getD,hi'] at h2 ⊢;exact h2
      have hge:k≤i:=by
        have:=hl i h1'
        rw [hnl] at this
        have:¬ i<k:=by simpa using this.symm
        omega
      rcases Nat.eq_or_lt_of_le hge with e | hgt
      · exact e.symm
      · exfalso
        obtain ⟨e,he,hbd,hon⟩:=tail_at (l.drop k0) k0 (i - k0) o ht (by rw [List.getElem?_drop,show k0+(i - k0)=i by omega];simpa using ho) k (by omega)
        have:=h3 e he hbd
        rw [hon,hl k hlt] at this;simp at this
    subst hik;rw [List.drop_eq_getElem_cons hlt] at h;have ho:l.toArray[i]?=some l[i]:=by simp [hlt]
    have next:∀ a w,wpList P l.toArray Q (l.drop (i+1)) a w→wpAny P .any l.toArray Q fuel (listed.setIfInBounds i true) a w:=fun a w h' =>
      ih (i+1) fuel _ a w (by omega) (by omega) (by omega) (by simpa using hs) (fun j hj=>by
        by_cases e:j=i
        · subst e;simp [Array.getD,hks]
        · have hne:i≠j:=fun x=>e x.symm;rw [Array.getD_eq_getD_getElem?,Array.getElem?_setIfInBounds_ne hne,← Array.getD_eq_getD_getElem?,hl j hj];simp;omega) h'
    unfold wpOp;rw [ho];simp only
    unfold wpList at h;split
    · rename_i hw
      rw [if_pos hw] at h;exact h.imp (Oper.wp_mono next) id
    · rename_i hw
      rw [if_neg hw] at h;exact next _ _ h
theorem wpAny_tail {l l2 : List Oper} (hb : backB 0 (l ++ l2) = true) (hg : guardsB l.length l = true) (ht : tailB l.length l2 = true) : ∀ (fuel : Nat) (listed : Array Bool) (a : Act) (w : World), listed.size = l.length →
    wpAny P .any l.toArray (Exit.then (fun a w=>wpList P (l++l2).toArray Q l2 a w) Q) fuel listed a w →
    wpAny P .any (l++l2).toArray Q (fuel+l2.length) (listed++Array.replicate l2.length false) a w:=by
  have hbl:∀ (i:Nat) (o:Oper),l[i]?=some o→∀ e∈o.after,Region.binds .any e=true→e.on<i:=fun i o ho e he hbd=>by
    have hi:i<l.length:=(List.getElem?_eq_some_iff.1 ho).1
    have:=back_at (l++l2) 0 i o hb (by rw [List.getElem?_append_left hi];exact ho) e he hbd
    omega
  have get1:∀ (listed:Array Bool) (j:Nat) (d:Bool),listed.size=l.length→j<l.length→(listed++Array.replicate l2.length false).getD j d=listed.getD j d:=fun listed j d hs hj=>by
    rw [Array.getD_eq_getD_getElem?,Array.getD_eq_getD_getElem?,Array.getElem?_append_left (by omega)]
  have get2:∀ (listed:Array Bool) (j:Nat),listed.size=l.length→l.length≤j→(listed++Array.replicate l2.length false).getD j false=false:=fun listed j hs hj=>by
    rw [Array.getD_eq_getD_getElem?,Array.getElem?_append_right (by omega)]
    cases h:(Array.replicate l2.length false)[j - listed.size]? with
    | none=>rfl
    | some b =>
      have:=Array.mem_of_getElem? h
      simp at this
      simp [this.2]
  -- all of the first part are listed
  have done:∀ (fuel:Nat) (listed:Array Bool) (a:Act) (w:World),listed.size=l.length→(∀ j,j<l.length→listed.getD j false=true)→wpList P (l++l2).toArray Q l2 a w →
      wpAny P .any (l++l2).toArray Q (fuel+l2.length) (listed++Array.replicate l2.length false) a w:=fun fuel listed a w hs hall h=>by
    refine wpAny_seq hb (k0:=l.length) (by simpa using ht) l2.length l.length _ _ a w (by simp) (Nat.le_refl _) (by omega) (by simp [hs]) (fun j hj=>?_) (by simpa using h);by_cases hj':j<l.length
    · rw [get1 listed j false hs hj',hall j hj'];simp [hj']
    · rw [get2 listed j hs (by omega)];simp;omega
  have allOf:∀ (listed:Array Bool),listed.size=l.length→Region.ready .any l.toArray listed=[]→∀ j,j<l.length→listed.getD j false=true:=fun listed hs hr j=>by
    induction j using Nat.strongRecOn with
    | _ j ih =>
      intro hj
      cases hc:listed.getD j false with
      | true=>rfl
      | false =>
        exfalso
        have hj':j<listed.size:=by omega
        have hnt:listed.getD j true=false:=by simp [Array.getD,hj'] at hc ⊢;exact hc
        have:j∈Region.ready .any l.toArray listed:=ready_mem.2 ⟨by simpa using hj,hnt,l[j],by simp [hj],fun e he hbd=>by
          have:=hbl j l[j] (by simp [hj]) e he hbd
          exact ih e.on this (by omega)⟩
        rw [hr] at this;cases this
  intro fuel
  induction fuel with
  | zero =>
    intro listed a w hs h;exact done 0 listed a w hs (allOf listed hs h.1) h.2
  | succ fuel ih =>
    intro listed a w hs h;by_cases hall:∀ j,j<l.length→listed.getD j false=true
    · refine done (fuel+1) listed a w hs hall (h.1 ?_);rw [List.eq_nil_iff_forall_not_mem];intro i hi;obtain ⟨h1,h2,_⟩:=ready_mem.1 hi;have h1':i<l.length:=by simpa using h1
      have:=hall i h1'
      have hi':i<listed.size:=by omega
      simp [Array.getD,hi'] at this h2;rw [this] at h2;cases h2
    · have hnr:Region.ready .any l.toArray listed≠[]:=fun e=>hall (allOf listed hs e)
      have same:∀ i,i∈Region.ready .any (l++l2).toArray (listed++Array.replicate l2.length false) ↔ i∈Region.ready .any l.toArray listed:=fun i=>by
        rw [ready_mem,ready_mem];by_cases hi:i<l.length
        · have e1:(l++l2).toArray[i]?=l.toArray[i]?:=by simp [List.getElem?_append_left hi]
          rw [get1 listed i true hs hi,e1];constructor
          · rintro ⟨_,h2,o,ho,h3⟩;refine ⟨by simpa using hi,h2,o,ho,fun e he hbd=>?_⟩
            have:=hbl i o (by simpa using ho) e he hbd
            have h4:=h3 e he hbd;rwa [get1 listed e.on false hs (by omega)] at h4
          · rintro ⟨_,h2,o,ho,h3⟩;refine ⟨by simp;omega,h2,o,ho,fun e he hbd=>?_⟩
            have:=hbl i o (by simpa using ho) e he hbd
            rw [get1 listed e.on false hs (by omega)];exact h3 e he hbd
        · constructor
          · rintro ⟨h1,h2,o,ho,h3⟩;exfalso
            refine hall fun j hj=>?_;have ho':(l++l2)[i]?=some o:=by simpa using ho
            rw [List.getElem?_append_right (by omega)] at ho';obtain ⟨e,he,hbd,hon⟩:=tail_at l2 l.length (i - l.length) o ht ho' j (by omega)
            have:=h3 e he hbd
            rwa [hon,get1 listed j false hs hj] at this
          · rintro ⟨h1,_⟩;exact absurd (by simpa using h1) hi
      rw [show fuel+1+l2.length=(fuel+l2.length)+1 by omega];refine ⟨fun hr=>?_,fun i hi=>?_⟩
      · exfalso
        apply hnr
        rw [List.eq_nil_iff_forall_not_mem];intro i hi
        have:=(same i).2 hi
        rw [hr] at this;cases this
      · have hi':=(same i).1 hi;have h':=h.2 i hi';obtain ⟨h1,_⟩:=ready_mem.1 hi';have hlt:i<l.length:=by simpa using h1
        have ho:l.toArray[i]?=some l[i]:=by simp [hlt]
        have ho2:(l++l2).toArray[i]?=some l[i]:=by simp [List.getElem?_append_left hlt,hlt]
        unfold wpOp at h' ⊢;rw [ho] at h';rw [ho2];simp only at h' ⊢
        have hy:Region.wanted l[i] (yielded (l++l2).toArray a.tmps)=Region.wanted l[i] (yielded l.toArray a.tmps):=by
          unfold Region.wanted
          cases hgd:(l[i]).guard with
          | none=>rfl
          | some gw =>
            obtain ⟨g,want⟩:=gw
            have:=List.all_eq_true.1 hg l[i] (List.getElem_mem hlt)
            rw [hgd] at this;have hgl:g<l.length:=by simpa using this
            simp only
            have:yielded (l++l2).toArray a.tmps g=yielded l.toArray a.tmps g:=by
              unfold yielded
              have:(l++l2).toArray[g]?=l.toArray[g]?:=by simp [List.getElem?_append_left hgl]
              rw [this]
            rw [this]
        rw [hy]
        have nx:∀ a w,wpAny P .any l.toArray (Exit.then (fun a w=>wpList P (l++l2).toArray Q l2 a w) Q) fuel (listed.setIfInBounds i true) a w→wpAny P .any (l++l2).toArray Q (fuel+l2.length) ((listed++Array.replicate l2.length false).setIfInBounds i true) a w:=fun a w hh=>by
          have:=ih (listed.setIfInBounds i true) a w (by simpa using hs) hh
          have e:(listed++Array.replicate l2.length false).setIfInBounds i true=listed.setIfInBounds i true++Array.replicate l2.length false:=by
            rw [Array.setIfInBounds_append_left (by omega)]
          rw [e];exact this
        split
        · rename_i hw
          rw [if_pos hw] at h';rcases h' with h' | h'
          · exact .inl (Oper.wp_mono nx (wp_then h'))
          · exact .inr h'
        · rename_i hw
          rw [if_neg hw] at h';exact nx _ _ h'
end
end Go.Proofs.YtjdcjfpfpaplladGreat
namespace Go.Proofs.YtjdcjfpfpaplladGreat
open Go.ChangeShapes Go.WideShapes Go.ChangeAt Go.RowKit
set_option linter.unusedVariables false
structure Bx (w wr : World) (k r : Int) (a : Option Addr) (len c : Nat) : Prop where
  bel:Below w.heap.size w wr
  box:wr.heap[w.heap.size]?=some (.cells #[.int .i64 k,.int .i64 r,.slice a len c] 88 (0,0))
theorem Bx.start (w : World) (k r : Int) (a : Option Addr) (len c : Nat) : Bx w (w.alloc (.cells #[.int .i64 k, .int .i64 r, .slice a len c] 88)) k r a len c :=
  ⟨(Below.refl _ w).alloc (Nat.le_refl _) _,blockNew w _ _⟩
theorem Bx.lt {w wr : World} {k r : Int} {a : Option Addr} {len c : Nat} (h : Bx w wr k r a len c) : w.heap.size < wr.heap.size := lt_of_block h.box
theorem Bx.below {w wr w' : World} {k r : Int} {a : Option Addr} {len c : Nat} (h : Bx w wr k r a len c) (b : Below wr.heap.size wr w') : Bx w w' k r a len c :=
  ⟨h.bel.trans (b.mono h.bel.size),box_cells h.box b⟩
theorem Bx.alloc {w wr : World} {k r : Int} {a : Option Addr} {len c : Nat} (h : Bx w wr k r a len c) (o : Obj) : Bx w (wr.alloc o) k r a len c :=
  h.below ((Below.refl _ wr).alloc (Nat.le_refl _) _)
theorem Bx.drewN {w wr : World} {k r : Int} {a : Option Addr} {len c : Nat} (h : Bx w wr k r a len c) (m : Nat) : Bx w (wr.drewN m) k r a len c := ⟨⟨h.bel.os, h.bel.tape, h.bel.output, h.bel.size, h.bel.block⟩, h.box⟩
theorem Bx.drew {w wr : World} {k r : Int} {a : Option Addr} {len c : Nat} (h : Bx w wr k r a len c) : Bx w wr.drew k r a len c := h.drewN 1
theorem sum_take_succ {α : Type} (f : α → Nat) (l : List α) (i : Nat) (x : α) (h : l[i]? = some x) : ((l.map f).take (i + 1)).sum = ((l.map f).take i).sum + f x := by
  rw [List.take_add_one,List.getElem?_map,h];simp
def FaultAt (f : Nat) (n : Nat) : Prop := ∀ (t : TT n) (a : Option Addr) (c : Nat) (regs : Int) (w : World), TIn w All t a → t.count ≤ 100000 →
    Calls Tryz.prog f #[Tv t a c,.int .i64 regs] w fun e w'=>e=.returned (.int .i64 (t.fault regs))∧Below w.heap.size w w'
end Go.Proofs.YtjdcjfpfpaplladGreat
namespace Go.Proofs.YtjdcjfpfpaplladGreat
open Go.RowKit
set_option linter.unusedVariables false
def Rd (P : Program) (f : FuncId) (args : Array Value) (w : World) (V : Value) : Prop := Calls P f args w fun e w' => e = .returned V ∧ Below w.heap.size w w'
noncomputable def bdec (A : Prop) : Bool := @decide A (Classical.propDecidable A)
theorem bdec_iff {A : Prop} : bdec A = true ↔ A := by unfold bdec; simp
theorem bdec_true {A : Prop} (h : A) : bdec A = true := bdec_iff.2 h
theorem bdec_false {A : Prop} (h : ¬ A) : bdec A = false := by
  cases e:bdec A with
  | false=>rfl
  | true=>exact absurd (bdec_iff.1 e) h
theorem bdec_of {A : Prop} {q : Bool} (h : q = true ↔ A) : q = bdec A := by
  cases q with
  | false=>exact (bdec_false fun ha=>by have:=h.2 ha;cases this).symm
  | true=>exact (bdec_true (h.1 rfl)).symm
structure Wd (w0 w : World) (Bs : List (Nat × Array Value × TypeId)) : Prop where
  bel:Below w0.heap.size w0 w
  blk:∀ (i:Nat) x,Bs[i]?=some x→Blk w x.1 x.2.1 x.2.2
  new:∀ (i:Nat) x,Bs[i]?=some x→w0.heap.size≤x.1
  nd:∀ (i j:Nat) x y,Bs[i]?=some x→Bs[j]?=some y→x.1=y.1→i=j
section
variable {w0 w w' : World} {Bs : List (Nat × Array Value × TypeId)}
theorem Wd.start (w : World) : Wd w w [] := ⟨Below.refl _ _, fun i x h => by simp at h, fun i x h => by simp at h, fun i j x y h => by simp at h⟩
theorem Wd.below (h : Wd w0 w Bs) (b : Below w.heap.size w w') : Wd w0 w' Bs := ⟨Below.andThen h.bel b, fun i x hx => (h.blk i x hx).below b, h.new, h.nd⟩
theorem Wd.get (h : Wd w0 w Bs) (i : Nat) {B : Nat} {c : Array Value} {t : TypeId} (hi : Bs[i]? = some (B, c, t)) : Blk w B c t := h.blk i _ hi
theorem Wd.new' (h : Wd w0 w Bs) (c : Array Value) (t : TypeId) : Wd w0 (w.alloc (.cells c t)) ((w.heap.size, c, t) :: Bs) := by
  refine ⟨Below.andThen h.bel (bel1 w _),fun i x hx=>?_,fun i x hx=>?_,fun i j x y hx hy e=>?_⟩
  · cases i with
    | zero=>simp at hx;subst hx;exact Blk.new w c t
    | succ i=>exact (h.blk i x (by simpa using hx)).alloc _
  · cases i with
    | zero=>simp at hx;subst hx;exact h.bel.size
    | succ i=>exact h.new i x (by simpa using hx)
  · cases i with
    | zero =>
      cases j with
      | zero=>rfl
      | succ j =>
        simp at hx hy;subst hx
        have:=(h.blk j y hy).lt
        simp at e;omega
    | succ i =>
      cases j with
      | zero =>
        simp at hx hy;subst hy
        have:=(h.blk i x hx).lt
        simp at e;omega
      | succ j=>rw [h.nd i j x y (by simpa using hx) (by simpa using hy) e]
theorem Wd.tail {x : Nat × Array Value × TypeId} (h : Wd w0 w (x :: Bs)) : Wd w0 w Bs :=
  ⟨h.bel,fun i y hy=>h.blk (i+1) y (by simpa using hy),fun i y hy=>h.new (i+1) y (by simpa using hy),fun i j y z hy hz e=>by have:=h.nd (i+1) (j+1) y z (by simpa using hy) (by simpa using hz) e;omega⟩
theorem Wd.set (h : Wd w0 w Bs) (i : Nat) {B : Nat} {c c' : Array Value} {t : TypeId} {Bs' : List (Nat × Array Value × TypeId)} (hi : Bs[i]? = some (B, c, t)) (j : Nat) (v : Value)
    (hc:c.setIfInBounds j v=c') (hB:Bs.set i (B,c',t)=Bs'):Wd w0 (w.setCell ⟨B,j,none⟩ v) Bs':=by
  subst hB;subst hc
  have sp:∀ (k:Nat) x,(Bs.set i (B,c.setIfInBounds j v,t))[k]?=some x→(k=i∧x=(B,c.setIfInBounds j v,t))∨(k≠i∧Bs[k]?=some x):=by
    intro k x hx;rw [List.getElem?_set] at hx;split at hx
    · rename_i e
      subst e;have hil:i<Bs.length:=(List.getElem?_eq_some_iff.1 hi).1;rw [if_pos hil] at hx;exact .inl ⟨rfl,(Option.some.inj hx).symm⟩
    · rename_i e
      exact .inr ⟨fun e'=>e e'.symm,hx⟩
  have key:∀ (k:Nat) x,Bs[k]?=some x→k≠i→x.1≠B:=fun k x hx hk e=>hk (h.nd k i x _ hx hi e);refine ⟨h.bel.setCell (p:=⟨B,j,none⟩) (h.new i _ hi) v,fun k x hx=>?_,fun k x hx=>?_,fun k l x y hx hy e=>?_⟩
  · rcases sp k x hx with ⟨rfl,rfl⟩ | ⟨hk,hx⟩
    · exact blockSet (h.blk k _ hi) j v
    · exact (h.blk k x hx).setOther (fun e=>key k x hx hk e.symm) v
  · rcases sp k x hx with ⟨rfl,rfl⟩ | ⟨hk,hx⟩
    · exact h.new k (B,c,t) hi
    · exact h.new k x hx
  · rcases sp k x hx with ⟨hk,hx1⟩ | ⟨hk,hx1⟩
    · rcases sp l y hy with ⟨hl,hy1⟩ | ⟨hl,hy1⟩
      · rw [hk,hl]
      · rw [hx1] at e;exact absurd e.symm (key l y hy1 hl)
    · rcases sp l y hy with ⟨hl,hy1⟩ | ⟨hl,hy1⟩
      · rw [hy1] at e;exact absurd e (key k x hx1 hk)
      · exact h.nd k l x y hx1 hy1 e
def spliced (c : Array Value) (j : Nat) (vs : List Value) : Array Value := (c.toList.take j ++ (vs ++ c.toList.drop (j + vs.length))).toArray
theorem spliced_cons (c : Array Value) (j : Nat) (v : Value) (vs : List Value) (h : j + (v :: vs).length ≤ c.size) : spliced (c.setIfInBounds j v) (j + 1) vs = spliced c j (v :: vs) := by
  unfold spliced;congr 1
  have hj:j<c.toList.length:=by simp at h ⊢;omega
  simp only [Array.toList_setIfInBounds];rw [List.take_set,List.drop_set_of_lt (by omega),List.take_add_one,List.getElem?_eq_getElem hj];simp only [Option.toList,List.length_cons]
  have:(c.toList.take j++[c.toList[j]]).set j v=c.toList.take j++[v]:=by
    rw [List.set_append_right _ _ (by simp;omega)];have hj':j<c.size:=by simpa using hj
    simp [Nat.min_eq_left (Nat.le_of_lt hj')]
  rw [this,Nat.add_assoc,Nat.add_comm 1];simp
theorem Wd.setAt (h : Wd w0 w Bs) (i : Nat) {B : Nat} {c c' : Array Value} {t : TypeId} {Bs' : List (Nat × Array Value × TypeId)} (hi : Bs[i]? = some (B, c, t)) (j : Nat) (vs : List Value)
    (hs:Nat.ble (j+vs.length) c.size=true) (hc:spliced c j vs=c') (hB:Bs.set i (B,c',t)=Bs'):Wd w0 (w.setCells B j vs) Bs':=by
  have hs':j+vs.length≤c.size:=by simpa [Nat.ble_eq] using hs
  clear hs
  induction vs generalizing w Bs c j with
  | nil =>
    subst hB
    have:c=c':=by rw [← hc];unfold spliced;simp
    subst this
    have:Bs.set i (B,c,t)=Bs:=by
      apply List.ext_getElem?
      intro k;rw [List.getElem?_set];split
      · rename_i e;subst e;rw [hi];simp [(List.getElem?_eq_some_iff.1 hi).1]
      · rfl
    rw [this];exact h
  | cons v vs ih =>
    have hil:i<Bs.length:=(List.getElem?_eq_some_iff.1 hi).1;refine ih (c:=c.setIfInBounds j v) (h.set i hi j v rfl rfl) (by rw [List.getElem?_set];simp [hil]) (j+1) ?_ ?_ ?_
    · rw [← hc,spliced_cons _ _ _ _ hs']
    · rw [List.set_set];exact hB
    · simp at hs' ⊢;omega
theorem Wd.drewN (h : Wd w0 w Bs) (m : Nat) : Wd w0 (w.drewN m) Bs := ⟨drewN_below h.bel, fun i x hx => h.blk i x hx, h.new, h.nd⟩
end
theorem wrap_succ (q : Nat) (h : q < 4611686018427387904) : IntKind.i64.wrap ((q : Int) + 1) = (q : Int) + 1 := by
  have:(q:Int)<4611686018427387904:=by omega
  have e1:((q:Int)+1) % 2 ^ 64=(q:Int)+1:=by omega
  simp only [IntKind.wrap,IntKind.signed,IntKind.bits,e1,Bool.true_and];rw [if_neg (by simp only [decide_eq_true_eq];omega)]
theorem Fr.sl2 {n : Nat} {a : Act} {L : List (Tmp × Value)} (h : Fr n a L) (t : Tmp) (v : Value) (e : L.lookup t = some v) : a.tmps[t]?.getD undef = v := by
  rw [← Array.getD_eq_getD_getElem?];exact h.sl t v e
structure New (w w' : World) (B : Nat) : Prop where
  bel:Below w.heap.size w w'
  at_:B=w.heap.size
  size:w'.heap.size=B+1
theorem bel_cell {w w' : World} (b : Below w.heap.size w w') {p : Addr} {v : Value} (h : w.cell? p = some v) : w'.cell? p = some v :=
  (World.cell?_of_block (w:=w) (a:=p) (b.block p.block (World.block_lt_of_cell? w p h))).trans h
section
variable {P : Program} {n : Nat} {a : Act} {L : List (Tmp × Value)} {w0 w w' : World} {Bs Bs' : List (Nat × Array Value × TypeId)} {Q : Exit → Act → World → Prop} {ops : Array Oper} {o : Oper} {rest : List Oper} {t : Tmp} {v : Value}
theorem fr_row (c : Array Value) (ty : TypeId) (m : Nat) (hF : Fr n a L) (hW : Wd w0 w Bs) (hd : o.dst = some t) (hg : o.guard = none) (ht : Nat.blt t n = true)
    (h:∀ K:Act→World→Prop,K (a.put (some t) (.slice (some ⟨w.heap.size,0,none⟩) m m)) (w.alloc (.cells c ty))→o.wp P a w K Q)
    (k:∀ a' w' B,Wd w0 w' ((B,c,ty)::Bs)→New w w' B→Fr n a' ((t,.slice (some ⟨B,0,none⟩) m m)::L)→wpList P ops Q rest a' w'):wpList P ops Q (o::rest) a w :=
  fr_pure hF hd hg ht h fun a' hF'=>k a' _ _ (hW.new' c ty) ⟨bel1 w _,rfl,by simp⟩ hF'
theorem fr_set (hF : Fr n a L) (hW : Wd w0 w' Bs') (hd : o.dst = none) (hg : o.guard = none)
    (h:∀ K:Act→World→Prop,K a w'→o.wp P a w K Q)
    (k:∀ w',Wd w0 w' Bs'→wpList P ops Q rest a w'):wpList P ops Q (o::rest) a w :=
  fr_skip hF hd hg h (k _ hW)
theorem ret_tmp {fn : Func} {R : Ending → World → Prop} (hF : Fr n a L) (hr : fn.results = #[.tmp t]) (hv : L.lookup t = some v) (hR : R (.returned v) w) : bodyPost P fn R .ret a w :=
  bodyPost_ret ((results_tmp hr _ _ _).trans (by rw [hF.sl t v hv])) hF.defers hR
end
abbrev PTab := List (Tmp × (Value → World → Prop))
def PTab.E (M : PTab) (t : Tmp) (v : Value) (w : World) : Prop := match M.lookup t with | some p => p v w | none => True
def Stable (R : World → World → Prop) : PTab → Prop
  | []=>True
  | x::r=>(∀ v w w',R w w'→x.2 v w→x.2 v w')∧Stable R r
theorem PTab_stable {R : World → World → Prop} : ∀ (M : PTab), Stable R M → ∀ t v w w', R w w' → PTab.E M t v w → PTab.E M t v w'
  | [],_,_,_,_,_,_,h=>h
  | x::r,hs,t,v,w,w',hr,h=>by
    unfold PTab.E at *;obtain ⟨s,p⟩:=x;by_cases e:t=s
    · subst e;simp at h ⊢
      exact hs.1 _ _ _ hr h
    · have e':(t==s)=false:=by simpa using e
      simp only [List.lookup_cons,e'] at h ⊢;exact PTab_stable r hs.2 t v w w' hr h
theorem fr_draw {P : Program} {n id : Nat} {l l2 : List Oper} {outs : List Tmp} {gs : List (Nat × Option Bool)} {bs : List Bool} {a : Act} {w : World} {L : List (Tmp × Value)} {Q : Exit → Act → World → Prop}
    (M:PTab) (W:World→Prop) (R:World→World→Prop)
    (hm:P.follows .mixedOrders=true) (hF:Fr n a L) (hL:(L.all fun p=>!(dstsOf l).contains p.1)=true) (hB:calmB l n outs gs bs=true)
    (hT:(backB 0 (l++l2) && (guardsB l.length l && tailB l.length l2))=true)
    (hR:Stable R M) (hG:GuardOk (PTab.E M) W l.toArray gs) (hW:W w.drew) (hO:OutsOk (PTab.E M) a w.drew outs)
    (hA:AllOk (PTab.E M) W R P l bs)
    (hend:∀ a' w',W w'→(∀ t,(dstsOf l).contains t=true→PTab.E M t (a'.tmps.getD t undef) w')→Fr n a' L→wpList P (l++l2).toArray Q l2 a' w') :
    (Code.region id (l++l2).toArray true).wp P Q a w:=by
  simp only [Bool.and_eq_true] at hT;obtain ⟨hT1,hT2,hT3⟩:=hT;refine wp_region_any hm ?_
  have key:wpAny P .any l.toArray (Exit.then (fun a w=>wpList P (l++l2).toArray Q l2 a w) Q) l.length (Array.replicate l.length false) a w.drew:=by
    refine wpAny_calm (E:=PTab.E M) (W:=W) (R:=R) (a0:=a) (outs:=outs) (gs:=gs) (bs:=bs) (by rw [hF.size];exact hB) (PTab_stable M hR) hG hA ?_ _ _ _ _ (by simp) ?_ ⟨hW,rfl,rfl,fun _ _=>rfl,fun t ht _=>outs_mem outs hO t ht,?_⟩
    · intro vs w' hw' hE
      have hlt:∀ t,(dstsOf l).contains t=true→t<a.tmps.size:=fun t ht=>by
        simp only [calmB,Bool.and_eq_true] at hB
        have:=List.all_eq_true.1 hB.1.1.1.2 t (by simpa using ht)
        rw [hF.size];simpa using this
      have hat:∀ t,(dstsOf l).contains t=true→(puts a vs (dstsOf l)).tmps.getD t undef=vs t:=fun t ht=>by
        have:=puts_at vs (dstsOf l) a t (hlt t ht)
        rw [if_pos (by simpa using ht)] at this;rw [Array.getD_eq_getD_getElem?,this];rfl
      refine hend _ w' hw' (fun t ht=>by rw [hat t ht];exact hE t ht) ⟨by rw [puts_size,hF.size],by rw [puts_defers,hF.defers],fun t v hl=>?_⟩
      have hm:∃ p∈L,p.1=t:=by
        clear hL hO hend
        have:∀ (L:List (Tmp × Value)),L.lookup t=some v→∃ p∈L,p.1=t:=by
          intro L
          induction L with
          | nil=>intro h;simp at h
          | cons x r ih =>
            intro h;by_cases e:t=x.1
            · exact ⟨x,by simp,e.symm⟩
            · have e':(t==x.1)=false:=beq_false_of_ne e;rw [List.lookup_cons,e'] at h;obtain ⟨p,hp,he⟩:=ih h;exact ⟨p,by simp [hp],he⟩
        exact this L hl
      obtain ⟨p,hp,rfl⟩:=hm
      have hn:¬ p.1∈dstsOf l:=by
        have:=List.all_eq_true.1 hL p hp
        simpa using this
      rw [← hF.sl p.1 v hl];by_cases hlt':p.1<a.tmps.size
      · have:=puts_at vs (dstsOf l) a p.1 hlt'
        rw [if_neg hn] at this;rw [Array.getD_eq_getD_getElem?,Array.getD_eq_getD_getElem?,this]
      · have h9:a.tmps.size≤p.1:=Nat.le_of_not_lt hlt';rw [Array.getD_eq_getD_getElem?,Array.getD_eq_getD_getElem?,Array.getElem?_eq_none (by rw [puts_size];exact h9),Array.getElem?_eq_none h9]
    · simp only [Array.toList_replicate];exact Nat.le_trans (List.length_filter_le _ _) (by simp)
    · intro j o t hj hd hl;simp [Array.getD] at hl
  have:=wpAny_tail (Q:=Q) hT1 hT2 hT3 l.length (Array.replicate l.length false) a w.drew (by simp) key
  have e:(Array.replicate l.length false++Array.replicate l2.length false:Array Bool)=Array.replicate (l++l2).toArray.size false:=by
    simp
  have e2:l.length+l2.length=(l++l2).toArray.size:=by simp
  rw [e,e2] at this;exact this
theorem fr_draw_k {P : Program} {n id : Nat} {lo : List Oper} {outs : List Tmp} {gs : List (Nat × Option Bool)} {bs : List Bool} {a : Act} {w : World} {L : List (Tmp × Value)} {Q : Exit → Act → World → Prop}
    (k:Nat) (M:PTab) (W:World→Prop) (R:World→World→Prop)
    (hm:P.follows .mixedOrders=true) (hF:Fr n a L) (hL:(L.all fun p=>!(dstsOf (lo.take k)).contains p.1)=true) (hB:calmB (lo.take k) n outs gs bs=true)
    (hT:(backB 0 lo && (guardsB (lo.take k).length (lo.take k) && tailB (lo.take k).length (lo.drop k)))=true)
    (hR:Stable R M) (hG:GuardOk (PTab.E M) W (lo.take k).toArray gs) (hW:W w.drew) (hO:OutsOk (PTab.E M) a w.drew outs)
    (hA:AllOk (PTab.E M) W R P (lo.take k) bs)
    (hend:∀ ops a' w',W w'→(∀ t,(dstsOf (lo.take k)).contains t=true→PTab.E M t (a'.tmps.getD t undef) w')→Fr n a' L→wpList P ops Q (lo.drop k) a' w') :
    (Code.region id lo.toArray true).wp P Q a w:=by
  have h:=fr_draw (id:=id) (l:=lo.take k) (l2:=lo.drop k) (Q:=Q) M W R hm hF hL hB (by rw [List.take_append_drop];exact hT) hR hG hW hO hA (hend _);rwa [List.take_append_drop] at h
section
variable {w0 w w' w00 : World} {Bs : List (Nat × Array Value × TypeId)}
theorem Wd.add (h : Wd w0 w Bs) {B : Nat} {c : Array Value} {t : TypeId} (hb : Blk w B c t) (h0 : Wd w0 w00 Bs) (hB : w00.heap.size ≤ B) : Wd w0 w ((B, c, t) :: Bs) := by
  refine ⟨h.bel,fun i x hx=>?_,fun i x hx=>?_,fun i j x y hx hy e=>?_⟩
  · cases i with
    | zero=>simp at hx;subst hx;exact hb
    | succ i=>exact h.blk i x (by simpa using hx)
  · cases i with
    | zero=>simp at hx;subst hx;have:=h0.bel.size;simp only;omega
    | succ i=>exact h.new i x (by simpa using hx)
  · cases i with
    | zero =>
      cases j with
      | zero=>rfl
      | succ j =>
        simp at hx hy;subst hx
        have:=(h0.blk j y hy).lt
        simp at e;omega
    | succ i =>
      cases j with
      | zero =>
        simp at hx hy;subst hy
        have:=(h0.blk i x hx).lt
        simp at e;omega
      | succ j=>rw [h.nd i j x y (by simpa using hx) (by simpa using hy) e]
end
end Go.Proofs.YtjdcjfpfpaplladGreat
namespace Go.Proofs.YtjdcjfpfpaplladGreat
open Go.ChangeShapes Go.WideShapes Go.ChangeAt Go.RowKit
set_option linter.unusedSimpArgs false
set_option linter.unusedVariables false
def evalL (L : List (Tmp × Value)) : Operand → Option Value
  | .tmp t=>L.lookup t
  | .const v=>some v
  | .func f=>some (.func (.func f) #[] #[])
  | _=>none
abbrev St (n : Nat) (L : List (Tmp × Value)) (ops : Array Oper) (Q : Exit → Act → World → Prop) (l : List Oper) (w : World) : Prop := ∀ a, Fr n a L → wpList Tryz.prog ops Q l a w
def Gok (ops : Array Oper) (n : Nat) (L : List (Tmp × Value)) : Option (Nat × Bool) → Prop
  | none=>True
  | some (g,want)=>∃ tg,(ops[g]?).bind (fun o:Oper=>o.dst)=some tg∧Nat.blt tg n=true∧L.lookup tg=some (.bool want)
section
variable {n : Nat} {a : Act} {L : List (Tmp × Value)} {w0 w : World} {Bs : List (Nat × Array Value × TypeId)} {Q : Exit → Act → World → Prop} {ops : Array Oper} {rest : List Oper} {t : Tmp} {u v : Value} {ty ty2 ty3 : TypeId} {pos : String} {aft : Array Edge} {gd : Option (Nat × Bool)} {x y z : Operand} {g tg : Nat} {want b : Bool}
theorem Fr.ev (h : Fr n a L) (e : evalL L x = some v) : a.eval x = v := by
  cases x <;> simp only [evalL,Option.some.injEq,reduceCtorEq] at e
  · exact h.sl _ _ e
  · exact e
  · subst e;rfl
theorem Gok.on {o : Oper} (hF : Fr n a L) (h : Gok ops n L o.guard) : Region.wanted o (yielded ops a.tmps) = true := by
  cases hg:o.guard with
  | none=>simp [Region.wanted,hg]
  | some p =>
    obtain ⟨g,want⟩:=p;rw [hg] at h;obtain ⟨tg,h1,h2,h3⟩:=h;rw [wanted_g hF hg h1 h2 h3];simp
theorem St.go {l : List Oper} (hF : Fr n a L) (h : St n L ops Q l w) : wpList Tryz.prog ops Q l a w := h a hF
theorem rg {id : Nat} {l : List Oper} (hF : Fr n a L) (h : ∀ ops, St n L ops Q l w) : (Code.region id l.toArray false).wp Tryz.prog Q a w := fr_region fun ops _ => h ops a hF
theorem St.nil (h : ∀ a, Fr n a L → Q .normal a w) : St n L ops Q [] w := h
theorem s_step {o : Oper} (hg : Gok ops n L o.guard) (hd : o.dst = some t) (ht : Nat.blt t n = true)
    (h:∀ ev:Operand→Value,(∀ x v,evalL L x=some v→ev x=v)→(execOp ev o).run Tryz.prog w=.ok (.value v) w)
    (k:St n ((t,v)::L) ops Q rest w):St n L ops Q (o::rest) w:=fun a hF =>
  wpList_step fun K hK=>by
    rw [if_pos (hg.on hF)];unfold Oper.wp;rw [h a.eval (fun x v e=>hF.ev e),Oper.upon_value,hd];exact hK _ _ (k _ (hF.put ht))
theorem so {op : Op} (hs : (ops[g]?).bind (fun o : Oper => o.dst) = some tg) (htg : Nat.blt tg n = true) (hv : L.lookup tg = some u) (hu : (match u with | .bool b => b == want | _ => false) = false) (ht : Nat.blt t n = true)
    (k:St n ((t,undef)::L) ops Q rest w):St n L ops Q (⟨some t,op,ty,pos,aft,some (g,want)⟩::rest) w:=fun a hF =>
  fr_off hF rfl rfl hs htg hv hu ht k
theorem sm (hg : Gok ops n L gd) (hx : evalL L x = some (v)) (ht : Nat.blt t n = true)
    (k:St n ((t,v)::L) ops Q rest w):St n L ops Q (⟨some t,.move x,ty,pos,aft,gd⟩::rest) w :=
  s_step hg rfl ht (fun ev hev=>by have e:=hev _ _ hx;simp [go_sem,e]) k
theorem sa (hg : Gok ops n L gd) (hx : evalL L x = some (v)) (ht : Nat.blt t n = true)
    (k:St n ((t,v)::L) ops Q rest w):St n L ops Q (⟨some t,.assign x,ty,pos,aft,gd⟩::rest) w :=
  s_step hg rfl ht (fun ev hev=>by have e:=hev _ _ hx;simp [go_sem,e]) k
theorem sn (hg : Gok ops n L gd) (hx : evalL L x = some (.bool b)) (ht : Nat.blt t n = true)
    (k:St n ((t,.bool (!b))::L) ops Q rest w):St n L ops Q (⟨some t,.unOp .not ty2 x,ty,pos,aft,gd⟩::rest) w :=
  s_step hg rfl ht (fun ev hev=>by have e:=hev _ _ hx;simp [go_sem,e]) k
theorem sp (hg : Gok ops n L gd) (hx : evalL L x = some (.bool true)) (hy : evalL L y = some (v)) (ht : Nat.blt t n = true)
    (k:St n ((t,v)::L) ops Q rest w):St n L ops Q (⟨some t,.pick x y z,ty,pos,aft,gd⟩::rest) w :=
  s_step hg rfl ht (fun ev hev=>by have e:=hev _ _ hx;have e2:=hev _ _ hy;simp [go_sem,e,e2]) k
theorem spf (hg : Gok ops n L gd) (hx : evalL L x = some (.bool false)) (hz : evalL L z = some (v)) (ht : Nat.blt t n = true)
    (k:St n ((t,v)::L) ops Q rest w):St n L ops Q (⟨some t,.pick x y z,ty,pos,aft,gd⟩::rest) w :=
  s_step hg rfl ht (fun ev hev=>by have e:=hev _ _ hx;have e2:=hev _ _ hz;simp [go_sem,e,e2]) k
theorem seq {p q : Int} (hg : Gok ops n L gd) (hx : evalL L x = some (.int .i64 p)) (hy : evalL L y = some (.int .i64 q)) (ht : Nat.blt t n = true)
    (k:St n ((t,.bool (p==q))::L) ops Q rest w):St n L ops Q (⟨some t,.binOp .eql 3 x y 3,ty,pos,aft,gd⟩::rest) w :=
  s_step hg rfl ht (fun ev hev=>by have e:=hev _ _ hx;have e2:=hev _ _ hy;simp [go_sem,e,e2]) k
theorem sne {p q : Int} (hg : Gok ops n L gd) (hx : evalL L x = some (.int .i64 p)) (hy : evalL L y = some (.int .i64 q)) (ht : Nat.blt t n = true)
    (k:St n ((t,.bool (p != q))::L) ops Q rest w):St n L ops Q (⟨some t,.binOp .neq 3 x y 3,ty,pos,aft,gd⟩::rest) w :=
  s_step hg rfl ht (fun ev hev=>by have e:=hev _ _ hx;have e2:=hev _ _ hy;simp [go_sem,e,e2]) k
theorem slt {p q : Int} (hg : Gok ops n L gd) (hx : evalL L x = some (.int .i64 p)) (hy : evalL L y = some (.int .i64 q)) (ht : Nat.blt t n = true)
    (k:St n ((t,.bool (decide (p<q)))::L) ops Q rest w):St n L ops Q (⟨some t,.binOp .lss 3 x y 3,ty,pos,aft,gd⟩::rest) w :=
  s_step hg rfl ht (fun ev hev=>by have e:=hev _ _ hx;have e2:=hev _ _ hy;simp [go_sem,e,e2]) k
theorem sgt {p q : Int} (hg : Gok ops n L gd) (hx : evalL L x = some (.int .i64 p)) (hy : evalL L y = some (.int .i64 q)) (ht : Nat.blt t n = true)
    (k:St n ((t,.bool (decide (q<p)))::L) ops Q rest w):St n L ops Q (⟨some t,.binOp .gtr 3 x y 3,ty,pos,aft,gd⟩::rest) w :=
  s_step hg rfl ht (fun ev hev=>by have e:=hev _ _ hx;have e2:=hev _ _ hy;simp [go_sem,e,e2]) k
theorem sge {p q : Int} (hg : Gok ops n L gd) (hx : evalL L x = some (.int .i64 p)) (hy : evalL L y = some (.int .i64 q)) (ht : Nat.blt t n = true)
    (k:St n ((t,.bool (decide (q≤p)))::L) ops Q rest w):St n L ops Q (⟨some t,.binOp .geq 3 x y 3,ty,pos,aft,gd⟩::rest) w :=
  s_step hg rfl ht (fun ev hev=>by have e:=hev _ _ hx;have e2:=hev _ _ hy;simp [go_sem,e,e2]) k
theorem seq6 {p q : Int} (hg : Gok ops n L gd) (hx : evalL L x = some (.int .i64 p)) (hy : evalL L y = some (.int .i64 q)) (ht : Nat.blt t n = true)
    (k:St n ((t,.bool (p==q))::L) ops Q rest w):St n L ops Q (⟨some t,.binOp .eql 2 x y 2,ty,pos,aft,gd⟩::rest) w :=
  s_step hg rfl ht (fun ev hev=>by have e:=hev _ _ hx;have e2:=hev _ _ hy;simp [go_sem,e,e2]) k
theorem sad {q : Nat} (hq : q < 4611686018427387904) (hg : Gok ops n L gd) (hx : evalL L x = some (.int .i64 (q : Int))) (hy : evalL L y = some (.int .i64 1)) (ht : Nat.blt t n = true)
    (k:St n ((t,.int .i64 ((q:Int)+1))::L) ops Q rest w):St n L ops Q (⟨some t,.binOp .add 3 x y 3,ty,pos,aft,gd⟩::rest) w :=
  s_step hg rfl ht (fun ev hev=>by have e:=hev _ _ hx;have e2:=hev _ _ hy;have e3:=wrap_succ q hq;simp [go_sem,e,e2,e3]) k
theorem slInts {p : Option Addr} {m c : Nat} (hg : Gok ops n L gd) (hx : evalL L x = some (.slice p m c)) (ht : Nat.blt t n = true)
    (k:St n ((t,.int .i64 (m:Int))::L) ops Q rest w):St n L ops Q (⟨some t,.call { callee:=.builtin .len,args:=#[x],argTypes:=#[49] },3,pos,aft,gd⟩::rest) w :=
  s_step hg rfl ht (fun ev hev=>by have e:=hev _ _ hx;simp [go_sem,e]) k
theorem slTypes {p : Option Addr} {m c : Nat} (hg : Gok ops n L gd) (hx : evalL L x = some (.slice p m c)) (ht : Nat.blt t n = true)
    (k:St n ((t,.int .i64 (m:Int))::L) ops Q rest w):St n L ops Q (⟨some t,.call { callee:=.builtin .len,args:=#[x],argTypes:=#[43] },3,pos,aft,gd⟩::rest) w :=
  s_step hg rfl ht (fun ev hev=>by have e:=hev _ _ hx;simp [go_sem,e]) k
theorem siTypes {p : Option Addr} {m c q B j : Nat} (hp : p = some ⟨B, j, none⟩) (hq : q < m) (hg : Gok ops n L gd) (hx : evalL L x = some (.slice p m c)) (hy : evalL L y = some (.int .i64 (q : Int))) (ht : Nat.blt t n = true)
    (k:St n ((t,.pointer (some ⟨B,j+q*3,none⟩))::L) ops Q rest w):St n L ops Q (⟨some t,.indexAddr 43 x y,ty,pos,aft,gd⟩::rest) w :=
  s_step hg rfl ht (fun ev hev=>by have e:=hev _ _ hx;have e2:=hev _ _ hy;have h0:=Int.natCast_nonneg q;have h1:=Int.ofNat_lt.2 hq;subst hp;simp [go_sem,e,e2,h0,h1,hq]) k
theorem slInss {p : Option Addr} {m c : Nat} (hg : Gok ops n L gd) (hx : evalL L x = some (.slice p m c)) (ht : Nat.blt t n = true)
    (k:St n ((t,.int .i64 (m:Int))::L) ops Q rest w):St n L ops Q (⟨some t,.call { callee:=.builtin .len,args:=#[x],argTypes:=#[48] },3,pos,aft,gd⟩::rest) w :=
  s_step hg rfl ht (fun ev hev=>by have e:=hev _ _ hx;simp [go_sem,e]) k
theorem siInss {p : Option Addr} {m c q B j : Nat} (hp : p = some ⟨B, j, none⟩) (hq : q < m) (hg : Gok ops n L gd) (hx : evalL L x = some (.slice p m c)) (hy : evalL L y = some (.int .i64 (q : Int))) (ht : Nat.blt t n = true)
    (k:St n ((t,.pointer (some ⟨B,j+q*8,none⟩))::L) ops Q rest w):St n L ops Q (⟨some t,.indexAddr 48 x y,ty,pos,aft,gd⟩::rest) w :=
  s_step hg rfl ht (fun ev hev=>by have e:=hev _ _ hx;have e2:=hev _ _ hy;have h0:=Int.natCast_nonneg q;have h1:=Int.ofNat_lt.2 hq;subst hp;simp [go_sem,e,e2,h0,h1,hq]) k
theorem slBlocks {p : Option Addr} {m c : Nat} (hg : Gok ops n L gd) (hx : evalL L x = some (.slice p m c)) (ht : Nat.blt t n = true)
    (k:St n ((t,.int .i64 (m:Int))::L) ops Q rest w):St n L ops Q (⟨some t,.call { callee:=.builtin .len,args:=#[x],argTypes:=#[44] },3,pos,aft,gd⟩::rest) w :=
  s_step hg rfl ht (fun ev hev=>by have e:=hev _ _ hx;simp [go_sem,e]) k
theorem siBlocks {p : Option Addr} {m c q B j : Nat} (hp : p = some ⟨B, j, none⟩) (hq : q < m) (hg : Gok ops n L gd) (hx : evalL L x = some (.slice p m c)) (hy : evalL L y = some (.int .i64 (q : Int))) (ht : Nat.blt t n = true)
    (k:St n ((t,.pointer (some ⟨B,j+q*12,none⟩))::L) ops Q rest w):St n L ops Q (⟨some t,.indexAddr 44 x y,ty,pos,aft,gd⟩::rest) w :=
  s_step hg rfl ht (fun ev hev=>by have e:=hev _ _ hx;have e2:=hev _ _ hy;have h0:=Int.natCast_nonneg q;have h1:=Int.ofNat_lt.2 hq;subst hp;simp [go_sem,e,e2,h0,h1,hq]) k
theorem slFuncs {p : Option Addr} {m c : Nat} (hg : Gok ops n L gd) (hx : evalL L x = some (.slice p m c)) (ht : Nat.blt t n = true)
    (k:St n ((t,.int .i64 (m:Int))::L) ops Q rest w):St n L ops Q (⟨some t,.call { callee:=.builtin .len,args:=#[x],argTypes:=#[22] },3,pos,aft,gd⟩::rest) w :=
  s_step hg rfl ht (fun ev hev=>by have e:=hev _ _ hx;simp [go_sem,e]) k
theorem siFuncs {p : Option Addr} {m c q B j : Nat} (hp : p = some ⟨B, j, none⟩) (hq : q < m) (hg : Gok ops n L gd) (hx : evalL L x = some (.slice p m c)) (hy : evalL L y = some (.int .i64 (q : Int))) (ht : Nat.blt t n = true)
    (k:St n ((t,.pointer (some ⟨B,j+q*4,none⟩))::L) ops Q rest w):St n L ops Q (⟨some t,.indexAddr 22 x y,ty,pos,aft,gd⟩::rest) w :=
  s_step hg rfl ht (fun ev hev=>by have e:=hev _ _ hx;have e2:=hev _ _ hy;have h0:=Int.natCast_nonneg q;have h1:=Int.ofNat_lt.2 hq;subst hp;simp [go_sem,e,e2,h0,h1,hq]) k
theorem sfType0 {B j : Nat} (hg : Gok ops n L gd) (hx : evalL L x = some (.pointer (some ⟨B, j, none⟩))) (ht : Nat.blt t n = true)
    (k:St n ((t,.pointer (some ⟨B,j,none⟩))::L) ops Q rest w):St n L ops Q (⟨some t,.fieldAddr 88 x 0,ty,pos,aft,gd⟩::rest) w :=
  s_step hg rfl ht (fun ev hev=>by have e:=hev _ _ hx;simp [go_sem,e]) k
theorem sfIns0 {B j : Nat} (hg : Gok ops n L gd) (hx : evalL L x = some (.pointer (some ⟨B, j, none⟩))) (ht : Nat.blt t n = true)
    (k:St n ((t,.pointer (some ⟨B,j,none⟩))::L) ops Q rest w):St n L ops Q (⟨some t,.fieldAddr 57 x 0,ty,pos,aft,gd⟩::rest) w :=
  s_step hg rfl ht (fun ev hev=>by have e:=hev _ _ hx;simp [go_sem,e]) k
theorem sfIns1 {B j : Nat} (hg : Gok ops n L gd) (hx : evalL L x = some (.pointer (some ⟨B, j, none⟩))) (ht : Nat.blt t n = true)
    (k:St n ((t,.pointer (some ⟨B,j+1,none⟩))::L) ops Q rest w):St n L ops Q (⟨some t,.fieldAddr 57 x 1,ty,pos,aft,gd⟩::rest) w :=
  s_step hg rfl ht (fun ev hev=>by have e:=hev _ _ hx;simp [go_sem,e]) k
theorem sfIns2 {B j : Nat} (hg : Gok ops n L gd) (hx : evalL L x = some (.pointer (some ⟨B, j, none⟩))) (ht : Nat.blt t n = true)
    (k:St n ((t,.pointer (some ⟨B,j+2,none⟩))::L) ops Q rest w):St n L ops Q (⟨some t,.fieldAddr 57 x 2,ty,pos,aft,gd⟩::rest) w :=
  s_step hg rfl ht (fun ev hev=>by have e:=hev _ _ hx;simp [go_sem,e]) k
theorem sfIns3 {B j : Nat} (hg : Gok ops n L gd) (hx : evalL L x = some (.pointer (some ⟨B, j, none⟩))) (ht : Nat.blt t n = true)
    (k:St n ((t,.pointer (some ⟨B,j+3,none⟩))::L) ops Q rest w):St n L ops Q (⟨some t,.fieldAddr 57 x 3,ty,pos,aft,gd⟩::rest) w :=
  s_step hg rfl ht (fun ev hev=>by have e:=hev _ _ hx;simp [go_sem,e]) k
theorem sfIns4 {B j : Nat} (hg : Gok ops n L gd) (hx : evalL L x = some (.pointer (some ⟨B, j, none⟩))) (ht : Nat.blt t n = true)
    (k:St n ((t,.pointer (some ⟨B,j+4,none⟩))::L) ops Q rest w):St n L ops Q (⟨some t,.fieldAddr 57 x 4,ty,pos,aft,gd⟩::rest) w :=
  s_step hg rfl ht (fun ev hev=>by have e:=hev _ _ hx;simp [go_sem,e]) k
theorem sfIns5 {B j : Nat} (hg : Gok ops n L gd) (hx : evalL L x = some (.pointer (some ⟨B, j, none⟩))) (ht : Nat.blt t n = true)
    (k:St n ((t,.pointer (some ⟨B,j+5,none⟩))::L) ops Q rest w):St n L ops Q (⟨some t,.fieldAddr 57 x 5,ty,pos,aft,gd⟩::rest) w :=
  s_step hg rfl ht (fun ev hev=>by have e:=hev _ _ hx;simp [go_sem,e]) k
theorem sfIns6 {B j : Nat} (hg : Gok ops n L gd) (hx : evalL L x = some (.pointer (some ⟨B, j, none⟩))) (ht : Nat.blt t n = true)
    (k:St n ((t,.pointer (some ⟨B,j+6,none⟩))::L) ops Q rest w):St n L ops Q (⟨some t,.fieldAddr 57 x 6,ty,pos,aft,gd⟩::rest) w :=
  s_step hg rfl ht (fun ev hev=>by have e:=hev _ _ hx;simp [go_sem,e]) k
theorem sfIns7 {B j : Nat} (hg : Gok ops n L gd) (hx : evalL L x = some (.pointer (some ⟨B, j, none⟩))) (ht : Nat.blt t n = true)
    (k:St n ((t,.pointer (some ⟨B,j+7,none⟩))::L) ops Q rest w):St n L ops Q (⟨some t,.fieldAddr 57 x 7,ty,pos,aft,gd⟩::rest) w :=
  s_step hg rfl ht (fun ev hev=>by have e:=hev _ _ hx;simp [go_sem,e]) k
theorem sfTo0 {B j : Nat} (hg : Gok ops n L gd) (hx : evalL L x = some (.pointer (some ⟨B, j, none⟩))) (ht : Nat.blt t n = true)
    (k:St n ((t,.pointer (some ⟨B,j,none⟩))::L) ops Q rest w):St n L ops Q (⟨some t,.fieldAddr 51 x 0,ty,pos,aft,gd⟩::rest) w :=
  s_step hg rfl ht (fun ev hev=>by have e:=hev _ _ hx;simp [go_sem,e]) k
theorem sfTo1 {B j : Nat} (hg : Gok ops n L gd) (hx : evalL L x = some (.pointer (some ⟨B, j, none⟩))) (ht : Nat.blt t n = true)
    (k:St n ((t,.pointer (some ⟨B,j+1,none⟩))::L) ops Q rest w):St n L ops Q (⟨some t,.fieldAddr 51 x 1,ty,pos,aft,gd⟩::rest) w :=
  s_step hg rfl ht (fun ev hev=>by have e:=hev _ _ hx;simp [go_sem,e]) k
theorem sfTo2 {B j : Nat} (hg : Gok ops n L gd) (hx : evalL L x = some (.pointer (some ⟨B, j, none⟩))) (ht : Nat.blt t n = true)
    (k:St n ((t,.pointer (some ⟨B,j+2,none⟩))::L) ops Q rest w):St n L ops Q (⟨some t,.fieldAddr 51 x 2,ty,pos,aft,gd⟩::rest) w :=
  s_step hg rfl ht (fun ev hev=>by have e:=hev _ _ hx;simp [go_sem,e]) k
theorem sfEnd0 {B j : Nat} (hg : Gok ops n L gd) (hx : evalL L x = some (.pointer (some ⟨B, j, none⟩))) (ht : Nat.blt t n = true)
    (k:St n ((t,.pointer (some ⟨B,j,none⟩))::L) ops Q rest w):St n L ops Q (⟨some t,.fieldAddr 53 x 0,ty,pos,aft,gd⟩::rest) w :=
  s_step hg rfl ht (fun ev hev=>by have e:=hev _ _ hx;simp [go_sem,e]) k
theorem sfEnd1 {B j : Nat} (hg : Gok ops n L gd) (hx : evalL L x = some (.pointer (some ⟨B, j, none⟩))) (ht : Nat.blt t n = true)
    (k:St n ((t,.pointer (some ⟨B,j+1,none⟩))::L) ops Q rest w):St n L ops Q (⟨some t,.fieldAddr 53 x 1,ty,pos,aft,gd⟩::rest) w :=
  s_step hg rfl ht (fun ev hev=>by have e:=hev _ _ hx;simp [go_sem,e]) k
theorem sfEnd2 {B j : Nat} (hg : Gok ops n L gd) (hx : evalL L x = some (.pointer (some ⟨B, j, none⟩))) (ht : Nat.blt t n = true)
    (k:St n ((t,.pointer (some ⟨B,j+2,none⟩))::L) ops Q rest w):St n L ops Q (⟨some t,.fieldAddr 53 x 2,ty,pos,aft,gd⟩::rest) w :=
  s_step hg rfl ht (fun ev hev=>by have e:=hev _ _ hx;simp [go_sem,e]) k
theorem sfEnd3 {B j : Nat} (hg : Gok ops n L gd) (hx : evalL L x = some (.pointer (some ⟨B, j, none⟩))) (ht : Nat.blt t n = true)
    (k:St n ((t,.pointer (some ⟨B,j+5,none⟩))::L) ops Q rest w):St n L ops Q (⟨some t,.fieldAddr 53 x 3,ty,pos,aft,gd⟩::rest) w :=
  s_step hg rfl ht (fun ev hev=>by have e:=hev _ _ hx;simp [go_sem,e]) k
theorem sfEnd4 {B j : Nat} (hg : Gok ops n L gd) (hx : evalL L x = some (.pointer (some ⟨B, j, none⟩))) (ht : Nat.blt t n = true)
    (k:St n ((t,.pointer (some ⟨B,j+8,none⟩))::L) ops Q rest w):St n L ops Q (⟨some t,.fieldAddr 53 x 4,ty,pos,aft,gd⟩::rest) w :=
  s_step hg rfl ht (fun ev hev=>by have e:=hev _ _ hx;simp [go_sem,e]) k
theorem sfBlock0 {B j : Nat} (hg : Gok ops n L gd) (hx : evalL L x = some (.pointer (some ⟨B, j, none⟩))) (ht : Nat.blt t n = true)
    (k:St n ((t,.pointer (some ⟨B,j,none⟩))::L) ops Q rest w):St n L ops Q (⟨some t,.fieldAddr 55 x 0,ty,pos,aft,gd⟩::rest) w :=
  s_step hg rfl ht (fun ev hev=>by have e:=hev _ _ hx;simp [go_sem,e]) k
theorem sfBlock1 {B j : Nat} (hg : Gok ops n L gd) (hx : evalL L x = some (.pointer (some ⟨B, j, none⟩))) (ht : Nat.blt t n = true)
    (k:St n ((t,.pointer (some ⟨B,j+1,none⟩))::L) ops Q rest w):St n L ops Q (⟨some t,.fieldAddr 55 x 1,ty,pos,aft,gd⟩::rest) w :=
  s_step hg rfl ht (fun ev hev=>by have e:=hev _ _ hx;simp [go_sem,e]) k
theorem sfBlock2 {B j : Nat} (hg : Gok ops n L gd) (hx : evalL L x = some (.pointer (some ⟨B, j, none⟩))) (ht : Nat.blt t n = true)
    (k:St n ((t,.pointer (some ⟨B,j+2,none⟩))::L) ops Q rest w):St n L ops Q (⟨some t,.fieldAddr 55 x 2,ty,pos,aft,gd⟩::rest) w :=
  s_step hg rfl ht (fun ev hev=>by have e:=hev _ _ hx;simp [go_sem,e]) k
theorem sfBlock3 {B j : Nat} (hg : Gok ops n L gd) (hx : evalL L x = some (.pointer (some ⟨B, j, none⟩))) (ht : Nat.blt t n = true)
    (k:St n ((t,.pointer (some ⟨B,j+3,none⟩))::L) ops Q rest w):St n L ops Q (⟨some t,.fieldAddr 55 x 3,ty,pos,aft,gd⟩::rest) w :=
  s_step hg rfl ht (fun ev hev=>by have e:=hev _ _ hx;simp [go_sem,e]) k
theorem sfFunc0 {B j : Nat} (hg : Gok ops n L gd) (hx : evalL L x = some (.pointer (some ⟨B, j, none⟩))) (ht : Nat.blt t n = true)
    (k:St n ((t,.pointer (some ⟨B,j,none⟩))::L) ops Q rest w):St n L ops Q (⟨some t,.fieldAddr 46 x 0,ty,pos,aft,gd⟩::rest) w :=
  s_step hg rfl ht (fun ev hev=>by have e:=hev _ _ hx;simp [go_sem,e]) k
theorem sfFunc1 {B j : Nat} (hg : Gok ops n L gd) (hx : evalL L x = some (.pointer (some ⟨B, j, none⟩))) (ht : Nat.blt t n = true)
    (k:St n ((t,.pointer (some ⟨B,j+1,none⟩))::L) ops Q rest w):St n L ops Q (⟨some t,.fieldAddr 46 x 1,ty,pos,aft,gd⟩::rest) w :=
  s_step hg rfl ht (fun ev hev=>by have e:=hev _ _ hx;simp [go_sem,e]) k
theorem sfFunc2 {B j : Nat} (hg : Gok ops n L gd) (hx : evalL L x = some (.pointer (some ⟨B, j, none⟩))) (ht : Nat.blt t n = true)
    (k:St n ((t,.pointer (some ⟨B,j+2,none⟩))::L) ops Q rest w):St n L ops Q (⟨some t,.fieldAddr 46 x 2,ty,pos,aft,gd⟩::rest) w :=
  s_step hg rfl ht (fun ev hev=>by have e:=hev _ _ hx;simp [go_sem,e]) k
theorem sfFunc3 {B j : Nat} (hg : Gok ops n L gd) (hx : evalL L x = some (.pointer (some ⟨B, j, none⟩))) (ht : Nat.blt t n = true)
    (k:St n ((t,.pointer (some ⟨B,j+3,none⟩))::L) ops Q rest w):St n L ops Q (⟨some t,.fieldAddr 46 x 3,ty,pos,aft,gd⟩::rest) w :=
  s_step hg rfl ht (fun ev hev=>by have e:=hev _ _ hx;simp [go_sem,e]) k
theorem sfModule0 {B j : Nat} (hg : Gok ops n L gd) (hx : evalL L x = some (.pointer (some ⟨B, j, none⟩))) (ht : Nat.blt t n = true)
    (k:St n ((t,.pointer (some ⟨B,j,none⟩))::L) ops Q rest w):St n L ops Q (⟨some t,.fieldAddr 24 x 0,ty,pos,aft,gd⟩::rest) w :=
  s_step hg rfl ht (fun ev hev=>by have e:=hev _ _ hx;simp [go_sem,e]) k
theorem sfFault0 {B j : Nat} (hg : Gok ops n L gd) (hx : evalL L x = some (.pointer (some ⟨B, j, none⟩))) (ht : Nat.blt t n = true)
    (k:St n ((t,.pointer (some ⟨B,j,none⟩))::L) ops Q rest w):St n L ops Q (⟨some t,.fieldAddr 30 x 0,ty,pos,aft,gd⟩::rest) w :=
  s_step hg rfl ht (fun ev hev=>by have e:=hev _ _ hx;simp [go_sem,e]) k
theorem sffuncLook1 {B j : Nat} (hg : Gok ops n L gd) (hx : evalL L x = some (.pointer (some ⟨B, j, none⟩))) (ht : Nat.blt t n = true)
    (k:St n ((t,.pointer (some ⟨B,j+1,none⟩))::L) ops Q rest w):St n L ops Q (⟨some t,.fieldAddr 92 x 1,ty,pos,aft,gd⟩::rest) w :=
  s_step hg rfl ht (fun ev hev=>by have e:=hev _ _ hx;simp [go_sem,e]) k
theorem sffuncLook2 {B j : Nat} (hg : Gok ops n L gd) (hx : evalL L x = some (.pointer (some ⟨B, j, none⟩))) (ht : Nat.blt t n = true)
    (k:St n ((t,.pointer (some ⟨B,j+5,none⟩))::L) ops Q rest w):St n L ops Q (⟨some t,.fieldAddr 92 x 2,ty,pos,aft,gd⟩::rest) w :=
  s_step hg rfl ht (fun ev hev=>by have e:=hev _ _ hx;simp [go_sem,e]) k
theorem sfblockLook0 {B j : Nat} (hg : Gok ops n L gd) (hx : evalL L x = some (.pointer (some ⟨B, j, none⟩))) (ht : Nat.blt t n = true)
    (k:St n ((t,.pointer (some ⟨B,j,none⟩))::L) ops Q rest w):St n L ops Q (⟨some t,.fieldAddr 122 x 0,ty,pos,aft,gd⟩::rest) w :=
  s_step hg rfl ht (fun ev hev=>by have e:=hev _ _ hx;simp [go_sem,e]) k
theorem sfblockLook1 {B j : Nat} (hg : Gok ops n L gd) (hx : evalL L x = some (.pointer (some ⟨B, j, none⟩))) (ht : Nat.blt t n = true)
    (k:St n ((t,.pointer (some ⟨B,j+6,none⟩))::L) ops Q rest w):St n L ops Q (⟨some t,.fieldAddr 122 x 1,ty,pos,aft,gd⟩::rest) w :=
  s_step hg rfl ht (fun ev hev=>by have e:=hev _ _ hx;simp [go_sem,e]) k
theorem sfblockLook2 {B j : Nat} (hg : Gok ops n L gd) (hx : evalL L x = some (.pointer (some ⟨B, j, none⟩))) (ht : Nat.blt t n = true)
    (k:St n ((t,.pointer (some ⟨B,j+18,none⟩))::L) ops Q rest w):St n L ops Q (⟨some t,.fieldAddr 122 x 2,ty,pos,aft,gd⟩::rest) w :=
  s_step hg rfl ht (fun ev hev=>by have e:=hev _ _ hx;simp [go_sem,e]) k
theorem scInt {B j : Nat} (hc : w.cell? ⟨B, j, none⟩ = some v) (hg : Gok ops n L gd) (hx : evalL L x = some (.pointer (some ⟨B, j, none⟩))) (ht : Nat.blt t n = true)
    (k:St n ((t,v)::L) ops Q rest w):St n L ops Q (⟨some t,.load 3 x,ty,pos,aft,gd⟩::rest) w :=
  s_step hg rfl ht (fun ev hev=>by have e:=hev _ _ hx;simp [go_sem,e,hc]) k
theorem sbInt (i : Nat) {B j : Nat} {c : Array Value} {bt : TypeId} (hW : Wd w0 w Bs) (hg : Gok ops n L gd) (hx : evalL L x = some (.pointer (some ⟨B, j, none⟩))) (hb : Bs[i]? = some (B, c, bt)) (hc : c[j]? = some v) (ht : Nat.blt t n = true)
    (k:St n ((t,v)::L) ops Q rest w):St n L ops Q (⟨some t,.load 3 x,ty,pos,aft,gd⟩::rest) w:=scInt (cellOf (hW.get i hb) j v hc) hg hx ht k
theorem scInt6 {B j : Nat} (hc : w.cell? ⟨B, j, none⟩ = some v) (hg : Gok ops n L gd) (hx : evalL L x = some (.pointer (some ⟨B, j, none⟩))) (ht : Nat.blt t n = true)
    (k:St n ((t,v)::L) ops Q rest w):St n L ops Q (⟨some t,.load 2 x,ty,pos,aft,gd⟩::rest) w :=
  s_step hg rfl ht (fun ev hev=>by have e:=hev _ _ hx;simp [go_sem,e,hc]) k
theorem sbInt6 (i : Nat) {B j : Nat} {c : Array Value} {bt : TypeId} (hW : Wd w0 w Bs) (hg : Gok ops n L gd) (hx : evalL L x = some (.pointer (some ⟨B, j, none⟩))) (hb : Bs[i]? = some (B, c, bt)) (hc : c[j]? = some v) (ht : Nat.blt t n = true)
    (k:St n ((t,v)::L) ops Q rest w):St n L ops Q (⟨some t,.load 2 x,ty,pos,aft,gd⟩::rest) w:=scInt6 (cellOf (hW.get i hb) j v hc) hg hx ht k
theorem scInts {B j : Nat} (hc : w.cell? ⟨B, j, none⟩ = some v) (hg : Gok ops n L gd) (hx : evalL L x = some (.pointer (some ⟨B, j, none⟩))) (ht : Nat.blt t n = true)
    (k:St n ((t,v)::L) ops Q rest w):St n L ops Q (⟨some t,.load 49 x,ty,pos,aft,gd⟩::rest) w :=
  s_step hg rfl ht (fun ev hev=>by have e:=hev _ _ hx;simp [go_sem,e,hc]) k
theorem sbInts (i : Nat) {B j : Nat} {c : Array Value} {bt : TypeId} (hW : Wd w0 w Bs) (hg : Gok ops n L gd) (hx : evalL L x = some (.pointer (some ⟨B, j, none⟩))) (hb : Bs[i]? = some (B, c, bt)) (hc : c[j]? = some v) (ht : Nat.blt t n = true)
    (k:St n ((t,v)::L) ops Q rest w):St n L ops Q (⟨some t,.load 49 x,ty,pos,aft,gd⟩::rest) w:=scInts (cellOf (hW.get i hb) j v hc) hg hx ht k
theorem scTypes {B j : Nat} (hc : w.cell? ⟨B, j, none⟩ = some v) (hg : Gok ops n L gd) (hx : evalL L x = some (.pointer (some ⟨B, j, none⟩))) (ht : Nat.blt t n = true)
    (k:St n ((t,v)::L) ops Q rest w):St n L ops Q (⟨some t,.load 43 x,ty,pos,aft,gd⟩::rest) w :=
  s_step hg rfl ht (fun ev hev=>by have e:=hev _ _ hx;simp [go_sem,e,hc]) k
theorem sbTypes (i : Nat) {B j : Nat} {c : Array Value} {bt : TypeId} (hW : Wd w0 w Bs) (hg : Gok ops n L gd) (hx : evalL L x = some (.pointer (some ⟨B, j, none⟩))) (hb : Bs[i]? = some (B, c, bt)) (hc : c[j]? = some v) (ht : Nat.blt t n = true)
    (k:St n ((t,v)::L) ops Q rest w):St n L ops Q (⟨some t,.load 43 x,ty,pos,aft,gd⟩::rest) w:=scTypes (cellOf (hW.get i hb) j v hc) hg hx ht k
theorem scInss {B j : Nat} (hc : w.cell? ⟨B, j, none⟩ = some v) (hg : Gok ops n L gd) (hx : evalL L x = some (.pointer (some ⟨B, j, none⟩))) (ht : Nat.blt t n = true)
    (k:St n ((t,v)::L) ops Q rest w):St n L ops Q (⟨some t,.load 48 x,ty,pos,aft,gd⟩::rest) w :=
  s_step hg rfl ht (fun ev hev=>by have e:=hev _ _ hx;simp [go_sem,e,hc]) k
theorem sbInss (i : Nat) {B j : Nat} {c : Array Value} {bt : TypeId} (hW : Wd w0 w Bs) (hg : Gok ops n L gd) (hx : evalL L x = some (.pointer (some ⟨B, j, none⟩))) (hb : Bs[i]? = some (B, c, bt)) (hc : c[j]? = some v) (ht : Nat.blt t n = true)
    (k:St n ((t,v)::L) ops Q rest w):St n L ops Q (⟨some t,.load 48 x,ty,pos,aft,gd⟩::rest) w:=scInss (cellOf (hW.get i hb) j v hc) hg hx ht k
theorem scBlocks {B j : Nat} (hc : w.cell? ⟨B, j, none⟩ = some v) (hg : Gok ops n L gd) (hx : evalL L x = some (.pointer (some ⟨B, j, none⟩))) (ht : Nat.blt t n = true)
    (k:St n ((t,v)::L) ops Q rest w):St n L ops Q (⟨some t,.load 44 x,ty,pos,aft,gd⟩::rest) w :=
  s_step hg rfl ht (fun ev hev=>by have e:=hev _ _ hx;simp [go_sem,e,hc]) k
theorem sbBlocks (i : Nat) {B j : Nat} {c : Array Value} {bt : TypeId} (hW : Wd w0 w Bs) (hg : Gok ops n L gd) (hx : evalL L x = some (.pointer (some ⟨B, j, none⟩))) (hb : Bs[i]? = some (B, c, bt)) (hc : c[j]? = some v) (ht : Nat.blt t n = true)
    (k:St n ((t,v)::L) ops Q rest w):St n L ops Q (⟨some t,.load 44 x,ty,pos,aft,gd⟩::rest) w:=scBlocks (cellOf (hW.get i hb) j v hc) hg hx ht k
theorem scFuncs {B j : Nat} (hc : w.cell? ⟨B, j, none⟩ = some v) (hg : Gok ops n L gd) (hx : evalL L x = some (.pointer (some ⟨B, j, none⟩))) (ht : Nat.blt t n = true)
    (k:St n ((t,v)::L) ops Q rest w):St n L ops Q (⟨some t,.load 22 x,ty,pos,aft,gd⟩::rest) w :=
  s_step hg rfl ht (fun ev hev=>by have e:=hev _ _ hx;simp [go_sem,e,hc]) k
theorem sbFuncs (i : Nat) {B j : Nat} {c : Array Value} {bt : TypeId} (hW : Wd w0 w Bs) (hg : Gok ops n L gd) (hx : evalL L x = some (.pointer (some ⟨B, j, none⟩))) (hb : Bs[i]? = some (B, c, bt)) (hc : c[j]? = some v) (ht : Nat.blt t n = true)
    (k:St n ((t,v)::L) ops Q rest w):St n L ops Q (⟨some t,.load 22 x,ty,pos,aft,gd⟩::rest) w:=scFuncs (cellOf (hW.get i hb) j v hc) hg hx ht k
theorem rangeOf {w : World} {B : Nat} {c : Array Value} {t : TypeId} (h : Blk w B c t) (j m : Nat) (hn : Nat.ble (j + m) c.size = true) : w.rangeAt B j ((c.toList.drop j).take m) := fun k v hk => by
  have hlt:k<((c.toList.drop j).take m).length:=(List.getElem?_eq_some_iff.1 hk).1;have hm:k<m:=by simp at hlt;omega
  rw [List.getElem?_take,if_pos hm,List.getElem?_drop] at hk;exact cellOf h (j+k) v (by simpa using hk)
theorem thereOf {w : World} {B : Nat} {c : Array Value} {t : TypeId} (h : Blk w B c t) (j n : Nat) (hn : j + n ≤ c.size) : w.there B j n := fun k hk =>
  ⟨by rw [cellOf h (j+k) c[j+k] (by simp [show j+k<c.size by omega])];rfl,freeOf h (j+k)⟩
theorem rangeAt_bel {w w' : World} {B j : Nat} {cs : List Value} (h : w.rangeAt B j cs) (b : Below w.heap.size w w') : w'.rangeAt B j cs := fun k v hk => bel_cell b (h k v hk)
theorem sSE {d : TypeDesc} {B j : Nat} {cs : List Value} (hu : Tryz.prog.underlying ty2 = some d) (hd : d.isRow = true) (hr : w.rangeAt B j cs) (hi : (Tryz.prog.info? ty2).map (·.size) = some cs.length) (hg : Gok ops n L gd) (hx : evalL L x = some (.pointer (some ⟨B, j, none⟩))) (ht : Nat.blt t n = true)
    (k:St n ((t,.agg cs.toArray)::L) ops Q rest w):St n L ops Q (⟨some t,.load ty2 x,ty,pos,aft,gd⟩::rest) w :=
  s_step hg rfl ht (fun ev hev=>by
    have e:=hev _ _ hx;have e2:=run_loadAt_mid (P:=Tryz.prog) w B j ty2 cs d hr hu hd hi;unfold execOp;simp only [e,Sem.run_bind,e2,Result.andThen_ok,Sem.run_pure]) k
theorem sS {d : TypeDesc} (i m : Nat) {B j : Nat} {c : Array Value} {bt : TypeId} (hu : Tryz.prog.underlying ty2 = some d) (hd : d.isRow = true) (hi : (Tryz.prog.info? ty2).map (·.size) = some m) (hW : Wd w0 w Bs) (hg : Gok ops n L gd) (hx : evalL L x = some (.pointer (some ⟨B, j, none⟩))) (hb : Bs[i]? = some (B, c, bt)) (hn : Nat.ble (j + m) c.size = true) (ht : Nat.blt t n = true)
    (k:St n ((t,.agg ((c.toList.drop j).take m).toArray)::L) ops Q rest w):St n L ops Q (⟨some t,.load ty2 x,ty,pos,aft,gd⟩::rest) w :=
  sSE hu hd (rangeOf (hW.get i hb) j m hn) (by rw [hi];have:j+m≤c.size:=by simpa [Nat.ble_eq] using hn
                                               simp;omega) hg hx ht k
theorem s_new {o : Oper} (c : Array Value) (bt : TypeId) (hW : Wd w0 w Bs) (hd : o.dst = some t) (hg : Gok ops n L o.guard) (ht : Nat.blt t n = true)
    (h:∀ ev:Operand→Value,(∀ x v,evalL L x=some v→ev x=v)→(execOp ev o).run Tryz.prog w=.ok (.value (.pointer (some ⟨w.heap.size,0,none⟩))) (w.alloc (.cells c bt)))
    (k:∀ w' B,Wd w0 w' ((B,c,bt)::Bs)→New w w' B→St n ((t,.pointer (some ⟨B,0,none⟩))::L) ops Q rest w'):St n L ops Q (o::rest) w:=fun a hF =>
  wpList_step fun K hK=>by
    rw [if_pos (hg.on hF)];unfold Oper.wp;rw [h a.eval (fun x v e=>hF.ev e),Oper.upon_value,hd];exact hK _ _ (k _ _ (hW.new' c bt) ⟨bel1 w _,rfl,by simp⟩ _ (hF.put ht))
theorem sB {cs : Array Value} (hW : Wd w0 w Bs) (hg : Gok ops n L gd) (hx : evalL L x = some (.agg cs)) (ht : Nat.blt t n = true)
    (k:∀ w' B,Wd w0 w' ((B,cs,ty2)::Bs)→New w w' B→St n ((t,.pointer (some ⟨B,0,none⟩))::L) ops Q rest w'):St n L ops Q (⟨some t,.box ty2 x,ty,pos,aft,gd⟩::rest) w :=
  s_new cs ty2 hW rfl hg ht (fun ev hev=>by have e:=hev _ _ hx;simp [go_sem,e]) k
theorem sAType (hW : Wd w0 w Bs) (hg : Gok ops n L gd) (ht : Nat.blt t n = true)
    (k:∀ w' B,Wd w0 w' ((B,#[.int .i64 0,.int .i64 0,.slice none 0 0],88)::Bs)→New w w' B→St n ((t,.pointer (some ⟨B,0,none⟩))::L) ops Q rest w'):St n L ops Q (⟨some t,.alloc 88,ty,pos,aft,gd⟩::rest) w :=
  s_new #[.int .i64 0,.int .i64 0,.slice none 0 0] 88 hW rfl hg ht (fun ev hev=>by simp [go_sem]) k
theorem sAIns (hW : Wd w0 w Bs) (hg : Gok ops n L gd) (ht : Nat.blt t n = true)
    (k:∀ w' B,Wd w0 w' ((B,#[.int .i64 0,.int .i64 0,.int .i64 0,.int .i64 0,.int .i64 0,.int .i64 0,.slice none 0 0,.slice none 0 0],57)::Bs)→New w w' B→St n ((t,.pointer (some ⟨B,0,none⟩))::L) ops Q rest w'):St n L ops Q (⟨some t,.alloc 57,ty,pos,aft,gd⟩::rest) w :=
  s_new #[.int .i64 0,.int .i64 0,.int .i64 0,.int .i64 0,.int .i64 0,.int .i64 0,.slice none 0 0,.slice none 0 0] 57 hW rfl hg ht (fun ev hev=>by simp [go_sem]) k
theorem sABlock (hW : Wd w0 w Bs) (hg : Gok ops n L gd) (ht : Nat.blt t n = true)
    (k:∀ w' B,Wd w0 w' ((B,#[.int .i64 0,.slice none 0 0,.slice none 0 0,.int .i64 0,.int .i64 0,.int .i64 0,.slice none 0 0,.slice none 0 0,.int .i64 0,.slice none 0 0,.slice none 0 0,.slice none 0 0],55)::Bs)→New w w' B→St n ((t,.pointer (some ⟨B,0,none⟩))::L) ops Q rest w'):St n L ops Q (⟨some t,.alloc 55,ty,pos,aft,gd⟩::rest) w :=
  s_new #[.int .i64 0,.slice none 0 0,.slice none 0 0,.int .i64 0,.int .i64 0,.int .i64 0,.slice none 0 0,.slice none 0 0,.int .i64 0,.slice none 0 0,.slice none 0 0,.slice none 0 0] 55 hW rfl hg ht (fun ev hev=>by simp [go_sem]) k
theorem sAFunc (hW : Wd w0 w Bs) (hg : Gok ops n L gd) (ht : Nat.blt t n = true)
    (k:∀ w' B,Wd w0 w' ((B,#[.int .i64 0,.slice none 0 0,.slice none 0 0,.slice none 0 0],46)::Bs)→New w w' B→St n ((t,.pointer (some ⟨B,0,none⟩))::L) ops Q rest w'):St n L ops Q (⟨some t,.alloc 46,ty,pos,aft,gd⟩::rest) w :=
  s_new #[.int .i64 0,.slice none 0 0,.slice none 0 0,.slice none 0 0] 46 hW rfl hg ht (fun ev hev=>by simp [go_sem]) k
theorem sAModule (hW : Wd w0 w Bs) (hg : Gok ops n L gd) (ht : Nat.blt t n = true)
    (k:∀ w' B,Wd w0 w' ((B,#[.slice none 0 0],24)::Bs)→New w w' B→St n ((t,.pointer (some ⟨B,0,none⟩))::L) ops Q rest w'):St n L ops Q (⟨some t,.alloc 24,ty,pos,aft,gd⟩::rest) w :=
  s_new #[.slice none 0 0] 24 hW rfl hg ht (fun ev hev=>by simp [go_sem]) k
theorem sAFault (hW : Wd w0 w Bs) (hg : Gok ops n L gd) (ht : Nat.blt t n = true)
    (k:∀ w' B,Wd w0 w' ((B,#[.int .i64 0,.int .i64 0],30)::Bs)→New w w' B→St n ((t,.pointer (some ⟨B,0,none⟩))::L) ops Q rest w'):St n L ops Q (⟨some t,.alloc 30,ty,pos,aft,gd⟩::rest) w :=
  s_new #[.int .i64 0,.int .i64 0] 30 hW rfl hg ht (fun ev hev=>by simp [go_sem]) k
theorem sT (i : Nat) {B j : Nat} {c : Array Value} {bt : TypeId} {cells : List Value} (hW : Wd w0 w Bs)
    (hx:evalL L x=some (.pointer (some ⟨B,j,none⟩))) (hy:evalL L y=some (.agg cells.toArray)) (hi:(Tryz.prog.info? ty2).map (·.size)=some cells.length) (h1:cells.all (·.oneCell')=true)
    (hb:Bs[i]?=some (B,c,bt)) (hs:Nat.ble (j+cells.length) c.size=true)
    (k:∀ w',Wd w0 w' (Bs.set i (B,spliced c j cells,bt))→St n L ops Q rest w'):St n L ops Q (⟨none,.store ty2 x y,ty,pos,aft,none⟩::rest) w:=fun a hF=>by
  have hn:j+cells.length≤c.size:=by simpa [Nat.ble_eq] using hs
  refine fr_set hF (hW.setAt i hb j cells hs rfl rfl) rfl rfl (fun K hK=>?_) (fun w' hW'=>k w' hW' a hF);have e:=hF.ev hx;have e2:=hF.ev hy
  have:=run_storeAt_mid (P:=Tryz.prog) w B j ty2 cells.toArray (by simpa using thereOf (hW.get i hb) j cells.length hn) (by simpa using hi) (by simpa using h1)
  unfold Oper.wp execOp;simp only [e,e2,Sem.run_bind,this,Result.andThen_ok,Sem.run_pure];rw [Oper.upon_skip];simpa [Act.put] using hK
theorem s1 (i : Nat) {B j : Nat} {c : Array Value} {bt : TypeId} (hi : (Tryz.prog.info? ty2).map (·.size) = some 1) (hW : Wd w0 w Bs)
    (hx:evalL L x=some (.pointer (some ⟨B,j,none⟩))) (hy:evalL L y=some v) (hv:v.cells=#[v]) (h1:v.oneCell'=true)
    (hb:Bs[i]?=some (B,c,bt)) (hs:Nat.ble (j+1) c.size=true)
    (k:∀ w',Wd w0 w' (Bs.set i (B,spliced c j [v],bt))→St n L ops Q rest w'):St n L ops Q (⟨none,.store ty2 x y,ty,pos,aft,none⟩::rest) w:=fun a hF=>by
  have hn:j+1≤c.size:=by simpa [Nat.ble_eq] using hs
  refine fr_set hF (hW.setAt i hb j [v] hs rfl rfl) rfl rfl (fun K hK=>?_) (fun w' hW'=>k w' hW' a hF);have e:=hF.ev hx;have e2:=hF.ev hy;have ht:=thereOf (hW.get i hb) j 1 hn;have h2:=run_storeCells_cells (P:=Tryz.prog) B j [v] 0 w (fun k hk=>by simpa using (ht k (by simpa using hk)).1) (fun k hk=>by simpa using (ht k (by simpa using hk)).2) (fun u hu=>by simp at hu;subst hu;exact h1)
  have h3:(Instr.storeAt ty2 (.pointer (some ⟨B,j,none⟩)) v).run Tryz.prog w=.ok () (w.setCells B j [v]):=by
    cases hq:Tryz.prog.info? ty2 with
    | none=>simp [hq] at hi
    | some q =>
      have hs1:q.size=1:=by simpa [hq] using hi
      simp only [Nat.add_zero] at h2;simp [Instr.storeAt,Instr.sureAddr,storeVar,sizeOf,typeInfo,hq,hv,hs1,h2]
  unfold Oper.wp execOp;simp only [e,e2,Sem.run_bind,h3,Result.andThen_ok,Sem.run_pure];rw [Oper.upon_skip];simpa [Act.put] using hK
theorem s_call {o : Oper} {f : FuncId} {args : Array Value} {V : Value} (hW : Wd w0 w Bs) (hg : Gok ops n L o.guard) (hc : Rd Tryz.prog f args w V) (hd : o.dst = some t) (ht : Nat.blt t n = true)
    (h:∀ ev:Operand→Value,(∀ x v,evalL L x=some v→ev x=v)→(execOp ev o).run Tryz.prog w=.ok (.enter f args) w)
    (k:∀ w',Wd w0 w' Bs→St n ((t,V)::L) ops Q rest w'):St n L ops Q (o::rest) w:=fun a hF =>
  wpList_step fun K hK=>by
    rw [if_pos (hg.on hF)];unfold Oper.wp;rw [h a.eval (fun x v e=>hF.ev e),Oper.upon_enter];refine hc.mono ?_;rintro e w9 ⟨rfl,hb⟩;rw [hd];exact hK _ _ (k _ (hW.below hb) _ (hF.put ht))
def CF (f : FuncId) : Prop := ∀ (args : Array Value) (w : World), (callFunc f args).run Tryz.prog w = .ok (.enter f args) w
theorem cf_of {f : FuncId} {fn : Func} (hf : Tryz.prog.funcs[f]? = some fn) (h1 : (fn.name == "runtime.NumGoroutine") = false) (h2 : fn.body.isNone = false) : CF f := fun args w => by
  have h3 : ¬ fn.name = "runtime.NumGoroutine" := by simpa using h1
  have h4:¬ fn.body=none:=by intro h;rw [h] at h2;cases h2
  simp [callFunc,hf,h3,h4]
theorem sc_1 {f : FuncId} {ts : Array TypeId} {x0 : Operand} {v0 : Value} {V : Value} (hcf : CF f) (hW : Wd w0 w Bs) (hc : Rd Tryz.prog f #[v0] w V) (hg : Gok ops n L gd) (h0 : evalL L x0 = some v0) (ht : Nat.blt t n = true)
    (k:∀ w',Wd w0 w' Bs→St n ((t,V)::L) ops Q rest w'):St n L ops Q (⟨some t,.call { callee:=.value (.func f),args:=#[x0],argTypes:=ts },ty,pos,aft,gd⟩::rest) w :=
  s_call hW hg hc rfl ht (fun ev hev=>by have e0:=hev _ _ h0;have ef:=hev (.func f) _ rfl;have ec:=hcf;unfold CF at ec;simp [go_sem,ef,ec,e0]) k
theorem sc_2 {f : FuncId} {ts : Array TypeId} {x0 x1 : Operand} {v0 v1 : Value} {V : Value} (hcf : CF f) (hW : Wd w0 w Bs) (hc : Rd Tryz.prog f #[v0, v1] w V) (hg : Gok ops n L gd) (h0 : evalL L x0 = some v0) (h1 : evalL L x1 = some v1) (ht : Nat.blt t n = true)
    (k:∀ w',Wd w0 w' Bs→St n ((t,V)::L) ops Q rest w'):St n L ops Q (⟨some t,.call { callee:=.value (.func f),args:=#[x0,x1],argTypes:=ts },ty,pos,aft,gd⟩::rest) w :=
  s_call hW hg hc rfl ht (fun ev hev=>by have e0:=hev _ _ h0;have e1:=hev _ _ h1;have ef:=hev (.func f) _ rfl;have ec:=hcf;unfold CF at ec;simp [go_sem,ef,ec,e0,e1]) k
theorem sc_3 {f : FuncId} {ts : Array TypeId} {x0 x1 x2 : Operand} {v0 v1 v2 : Value} {V : Value} (hcf : CF f) (hW : Wd w0 w Bs) (hc : Rd Tryz.prog f #[v0, v1, v2] w V) (hg : Gok ops n L gd) (h0 : evalL L x0 = some v0) (h1 : evalL L x1 = some v1) (h2 : evalL L x2 = some v2) (ht : Nat.blt t n = true)
    (k:∀ w',Wd w0 w' Bs→St n ((t,V)::L) ops Q rest w'):St n L ops Q (⟨some t,.call { callee:=.value (.func f),args:=#[x0,x1,x2],argTypes:=ts },ty,pos,aft,gd⟩::rest) w :=
  s_call hW hg hc rfl ht (fun ev hev=>by have e0:=hev _ _ h0;have e1:=hev _ _ h1;have e2:=hev _ _ h2;have ef:=hev (.func f) _ rfl;have ec:=hcf;unfold CF at ec;simp [go_sem,ef,ec,e0,e1,e2]) k
theorem sv_10 {f : FuncId} {ts : Array TypeId} {xf : Operand} {x0 : Operand} {v0 : Value} {V : Value} (hcf : CF f) (hW : Wd w0 w Bs) (hc : Rd Tryz.prog f #[v0] w V) (hg : Gok ops n L gd) (hf : evalL L xf = some (.func (.func f) #[] #[])) (h0 : evalL L x0 = some v0) (ht : Nat.blt t n = true)
    (k:∀ w',Wd w0 w' Bs→St n ((t,V)::L) ops Q rest w'):St n L ops Q (⟨some t,.call { callee:=.value xf,args:=#[x0],argTypes:=ts },ty,pos,aft,gd⟩::rest) w :=
  s_call hW hg hc rfl ht (fun ev hev=>by have e0:=hev _ _ h0;have ef:=hev _ _ hf;have ec:=hcf;unfold CF at ec;simp [go_sem,ef,ec,e0]) k
theorem sv_21 {f : FuncId} {ts : Array TypeId} {xf : Operand} {x0 x1 : Operand} {v0 v1 cp : Value} {V : Value} (hcf : CF f) (hW : Wd w0 w Bs) (hc : Rd Tryz.prog f #[v0, v1, cp] w V) (hg : Gok ops n L gd) (hf : evalL L xf = some (.func (.func f) #[] #[cp])) (h0 : evalL L x0 = some v0) (h1 : evalL L x1 = some v1) (ht : Nat.blt t n = true)
    (k:∀ w',Wd w0 w' Bs→St n ((t,V)::L) ops Q rest w'):St n L ops Q (⟨some t,.call { callee:=.value xf,args:=#[x0,x1],argTypes:=ts },ty,pos,aft,gd⟩::rest) w :=
  s_call hW hg hc rfl ht (fun ev hev=>by have e0:=hev _ _ h0;have e1:=hev _ _ h1;have ef:=hev _ _ hf;have ec:=hcf;unfold CF at ec;simp [go_sem,ef,ec,e0,e1]) k
theorem cf73 : CF 73 := cf_of Tryz.func73 (by kernel_rfl) (by kernel_rfl)
theorem cf95 : CF 95 := cf_of Tryz.func95 (by kernel_rfl) (by kernel_rfl)
theorem cf60 : CF 60 := cf_of Tryz.func60 (by kernel_rfl) (by kernel_rfl)
theorem cf18 : CF 18 := cf_of Tryz.func18 (by kernel_rfl) (by kernel_rfl)
theorem cf46 : CF 46 := cf_of Tryz.func46 (by kernel_rfl) (by kernel_rfl)
theorem cf47 : CF 47 := cf_of Tryz.func47 (by kernel_rfl) (by kernel_rfl)
theorem cf48 : CF 48 := cf_of Tryz.func48 (by kernel_rfl) (by kernel_rfl)
theorem cf34 : CF 34 := cf_of Tryz.func34 (by kernel_rfl) (by kernel_rfl)
theorem cf44 : CF 44 := cf_of Tryz.func44 (by kernel_rfl) (by kernel_rfl)
theorem cf71 : CF 71 := cf_of Tryz.func71 (by kernel_rfl) (by kernel_rfl)
theorem cf72 : CF 72 := cf_of Tryz.func72 (by kernel_rfl) (by kernel_rfl)
theorem cf74 : CF 74 := cf_of Tryz.func74 (by kernel_rfl) (by kernel_rfl)
theorem cf75 : CF 75 := cf_of Tryz.func75 (by kernel_rfl) (by kernel_rfl)
theorem cf76 : CF 76 := cf_of Tryz.func76 (by kernel_rfl) (by kernel_rfl)
theorem cf59 : CF 59 := cf_of Tryz.func59 (by kernel_rfl) (by kernel_rfl)
theorem cf140 : CF 140 := cf_of Tryz.func140 (by kernel_rfl) (by kernel_rfl)
theorem cf92 : CF 92 := cf_of Tryz.func92 (by kernel_rfl) (by kernel_rfl)
theorem cf93 : CF 93 := cf_of Tryz.func93 (by kernel_rfl) (by kernel_rfl)
theorem cf94 : CF 94 := cf_of Tryz.func94 (by kernel_rfl) (by kernel_rfl)
theorem cf96 : CF 96 := cf_of Tryz.func96 (by kernel_rfl) (by kernel_rfl)
theorem cf97 : CF 97 := cf_of Tryz.func97 (by kernel_rfl) (by kernel_rfl)
theorem cf120 : CF 120 := cf_of Tryz.func120 (by kernel_rfl) (by kernel_rfl)
theorem cf121 : CF 121 := cf_of Tryz.func121 (by kernel_rfl) (by kernel_rfl)
theorem cf122 : CF 122 := cf_of Tryz.func122 (by kernel_rfl) (by kernel_rfl)
theorem cf123 : CF 123 := cf_of Tryz.func123 (by kernel_rfl) (by kernel_rfl)
theorem cf139 : CF 139 := cf_of Tryz.func139 (by kernel_rfl) (by kernel_rfl)
theorem infType : (Tryz.prog.info? 88).map (·.size) = some 3 := by kernel_rfl
theorem infIns : (Tryz.prog.info? 57).map (·.size) = some 8 := by kernel_rfl
theorem infTo : (Tryz.prog.info? 51).map (·.size) = some 3 := by kernel_rfl
theorem infBlock : (Tryz.prog.info? 55).map (·.size) = some 12 := by kernel_rfl
theorem infFunc : (Tryz.prog.info? 46).map (·.size) = some 4 := by kernel_rfl
theorem infModule : (Tryz.prog.info? 24).map (·.size) = some 1 := by kernel_rfl
theorem infFault : (Tryz.prog.info? 30).map (·.size) = some 2 := by kernel_rfl
theorem inffuncLook : (Tryz.prog.info? 92).map (·.size) = some 6 := by kernel_rfl
theorem infblockLook : (Tryz.prog.info? 122).map (·.size) = some 19 := by kernel_rfl
theorem ret_box {fn : Func} {R : Ending → World → Prop} {d : TypeDesc} (i : Nat) {B : Nat} {c : Array Value} {bt : TypeId} (hF : Fr n a L) (hW : Wd w0 w Bs) (hr : fn.results = #[.cell t ty]) (hv : L.lookup t = some (.pointer (some ⟨B, 0, none⟩))) (hb : Bs[i]? = some (B, c, bt))
    (hu:Tryz.prog.underlying ty=some d) (hd:d.isRow=true) (hi:(Tryz.prog.info? ty).map (·.size)=some c.size) (hR:R (.returned (.agg c)) w):bodyPost Tryz.prog fn R .ret a w:=by
  refine bodyPost_ret ?_ hF.defers hR;have e:=hF.sl2 t _ hv;have e2:=run_loadVar_mid (P:=Tryz.prog) w B 0 ty c.toList d (by have:=rangeOf (hW.get i hb) 0 c.size (by simp [Nat.ble_eq]);rw [List.drop_zero,List.take_of_length_le (by simp)] at this;exact this) hu hd (by simpa using hi);simp only [Array.toArray_toList] at e2;simp [results,hr,e,asAddr,e2]
end
abbrev I64 (x : Int) : Prop := -9223372036854775808 ≤ x ∧ x ≤ 9223372036854775807
structure IP where
  pR:Option Addr
  cR:Nat
  pA:Option Addr
  cA:Nat
structure EP where
  pYR:Option Addr
  cYR:Nat
  pYA:Option Addr
  cYA:Nat
  pNR:Option Addr
  cNR:Nat
  pNA:Option Addr
  cNA:Nat
  pA:Option Addr
  cA:Nat
structure BP where
  pP:Option Addr
  cP:Nat
  pC:Option Addr
  cC:Nat
  e:EP
structure FP where
  pP:Option Addr
  cP:Nat
  pR:Option Addr
  cR:Nat
  pB:Option Addr
  cB:Nat
structure TIn2 (w : World) (O : Nat → Prop) (x : MTo) (pR : Option Addr) (cR : Nat) (pA : Option Addr) (cA : Nat) : Prop where
  regs:intsL.In w O x.regs [.slice pR x.regs.length cR]
  args:intsL.In w O x.args [.slice pA x.args.length cA]
  bnd:I64 x.block
structure IIn (w : World) (O : Nat → Prop) (x : MIns) (i : IP) : Prop where
  regs:intsL.In w O x.regs [.slice i.pR x.regs.length i.cR]
  args:intsL.In w O x.args [.slice i.pA x.args.length i.cA]
  bnd:I64 x.op∧I64 x.a∧I64 x.b∧I64 x.c∧I64 x.k∧I64 x.n
structure EIn (w : World) (O : Nat → Prop) (x : MEnd) (e : EP) : Prop where
  yes:TIn2 w O x.yes e.pYR e.cYR e.pYA e.cYA
  no:TIn2 w O x.no e.pNR e.cNR e.pNA e.cNA
  args:intsL.In w O x.args [.slice e.pA x.args.length e.cA]
  bnd:I64 x.op∧I64 x.a
structure BIn (w : World) (O : Nat → Prop) {n : Nat} (x : MBlock n) (b : BP) : Prop where
  params:(typesL n).In w O x.params [.slice b.pP x.params.length b.cP]
  code:insL.list.In w O x.code [.slice b.pC x.code.length b.cC]
  fin:EIn w O x.fin b.e
  bnd:I64 x.regs
structure FIn (w : World) (O : Nat → Prop) {n : Nat} (x : MFunc n) (f : FP) : Prop where
  params:(typesL n).In w O x.params [.slice f.pP x.params.length f.cP]
  results:(typesL n).In w O x.results [.slice f.pR x.results.length f.cR]
  blocks:(blockL n).list.In w O x.blocks [.slice f.pB x.blocks.length f.cB]
  bnd:I64 x.regs
section
variable {w w' : World} {O O' : Nat → Prop} {n : Nat} {cs : List Value}
theorem TIn2.keep {x : MTo} {pR pA : Option Addr} {cR cA : Nat} (hb : ∀ k, O k → k < w.heap.size → w'.heap[k]? = w.heap[k]?) (hl : ∀ k, O k → k < w.heap.size → O' k) (h : TIn2 w O x pR cR pA cA) : TIn2 w' O' x pR cR pA cA := ⟨Lay.keep _ hb hl h.regs, Lay.keep _ hb hl h.args, h.bnd⟩
theorem TIn2.below {x : MTo} {pR pA : Option Addr} {cR cA : Nat} (h : TIn2 w O x pR cR pA cA) (hbl : Below w.heap.size w w') : TIn2 w' O x pR cR pA cA := h.keep (fun k _ hk => hbl.block k hk) (fun _ h _ => h)
theorem TIn2.mono {x : MTo} {pR pA : Option Addr} {cR cA : Nat} (h : TIn2 w O x pR cR pA cA) (hl : ∀ k, O k → k < w.heap.size → O' k) : TIn2 w O' x pR cR pA cA := h.keep (fun k _ _ => rfl) hl
theorem IIn.keep {x : MIns} {i : IP} (hb : ∀ k, O k → k < w.heap.size → w'.heap[k]? = w.heap[k]?) (hl : ∀ k, O k → k < w.heap.size → O' k) (h : IIn w O x i) : IIn w' O' x i := ⟨Lay.keep _ hb hl h.regs, Lay.keep _ hb hl h.args, h.bnd⟩
theorem IIn.below {x : MIns} {i : IP} (h : IIn w O x i) (hbl : Below w.heap.size w w') : IIn w' O x i := h.keep (fun k _ hk => hbl.block k hk) (fun _ h _ => h)
theorem IIn.mono {x : MIns} {i : IP} (h : IIn w O x i) (hl : ∀ k, O k → k < w.heap.size → O' k) : IIn w O' x i := h.keep (fun k _ _ => rfl) hl
theorem EIn.keep {x : MEnd} {e : EP} (hb : ∀ k, O k → k < w.heap.size → w'.heap[k]? = w.heap[k]?) (hl : ∀ k, O k → k < w.heap.size → O' k) (h : EIn w O x e) : EIn w' O' x e := ⟨h.yes.keep hb hl, h.no.keep hb hl, Lay.keep _ hb hl h.args, h.bnd⟩
theorem EIn.below {x : MEnd} {e : EP} (h : EIn w O x e) (hbl : Below w.heap.size w w') : EIn w' O x e := h.keep (fun k _ hk => hbl.block k hk) (fun _ h _ => h)
theorem EIn.mono {x : MEnd} {e : EP} (h : EIn w O x e) (hl : ∀ k, O k → k < w.heap.size → O' k) : EIn w O' x e := h.keep (fun k _ _ => rfl) hl
theorem BIn.keep {x : MBlock n} {b : BP} (hb : ∀ k, O k → k < w.heap.size → w'.heap[k]? = w.heap[k]?) (hl : ∀ k, O k → k < w.heap.size → O' k) (h : BIn w O x b) : BIn w' O' x b := ⟨Lay.keep _ hb hl h.params, Lay.keep _ hb hl h.code, h.fin.keep hb hl, h.bnd⟩
theorem BIn.below {x : MBlock n} {b : BP} (h : BIn w O x b) (hbl : Below w.heap.size w w') : BIn w' O x b := h.keep (fun k _ hk => hbl.block k hk) (fun _ h _ => h)
theorem BIn.mono {x : MBlock n} {b : BP} (h : BIn w O x b) (hl : ∀ k, O k → k < w.heap.size → O' k) : BIn w O' x b := h.keep (fun k _ _ => rfl) hl
theorem FIn.keep {x : MFunc n} {f : FP} (hb : ∀ k, O k → k < w.heap.size → w'.heap[k]? = w.heap[k]?) (hl : ∀ k, O k → k < w.heap.size → O' k) (h : FIn w O x f) : FIn w' O' x f := ⟨Lay.keep _ hb hl h.params, Lay.keep _ hb hl h.results, Lay.keep _ hb hl h.blocks, h.bnd⟩
theorem FIn.below {x : MFunc n} {f : FP} (h : FIn w O x f) (hbl : Below w.heap.size w w') : FIn w' O x f := h.keep (fun k _ hk => hbl.block k hk) (fun _ h _ => h)
theorem FIn.mono {x : MFunc n} {f : FP} (h : FIn w O x f) (hl : ∀ k, O k → k < w.heap.size → O' k) : FIn w O' x f := h.keep (fun k _ _ => rfl) hl
theorem to_open {x : MTo} (h : toL.In w O x cs) : ∃ pR cR pA cA, cs = [.int .i64 x.block, .slice pR x.regs.length cR, .slice pA x.args.length cA] ∧ TIn2 w O x pR cR pA cA := by
  obtain ⟨a,c,b,d,rfl,h1,h2,h0⟩:=to_form h;exact ⟨a,c,b,d,rfl,h1,h2,h0⟩
theorem to_shut {x : MTo} {pR pA : Option Addr} {cR cA : Nat} (h : TIn2 w O x pR cR pA cA) : toL.In w O x [.int .i64 x.block, .slice pR x.regs.length cR, .slice pA x.args.length cA] := to_mk h.regs h.args h.bnd
theorem ins_open {x : MIns} (h : insL.In w O x cs) : ∃ i : IP, cs = [.int .i64 x.op, .int .i64 x.a, .int .i64 x.b, .int .i64 x.c, .int .i64 x.k, .int .i64 x.n, .slice i.pR x.regs.length i.cR, .slice i.pA x.args.length i.cA] ∧ IIn w O x i := by
  obtain ⟨a,c,b,d,rfl,h1,h2,h0⟩:=ins_form h;exact ⟨⟨a,c,b,d⟩,rfl,h1,h2,h0⟩
theorem end_open {x : MEnd} (h : endL.In w O x cs) : ∃ e : EP, cs = [.int .i64 x.op, .int .i64 x.a, .int .i64 x.yes.block, .slice e.pYR x.yes.regs.length e.cYR, .slice e.pYA x.yes.args.length e.cYA, .int .i64 x.no.block, .slice e.pNR x.no.regs.length e.cNR, .slice e.pNA x.no.args.length e.cNA, .slice e.pA x.args.length e.cA] ∧ EIn w O x e := by
  obtain ⟨c1,c2,a,c,rfl,h1,h2,h3,h0⟩:=end_form h;obtain ⟨pR,cR,pA,cA,rfl,k1⟩:=to_open h1;obtain ⟨qR,dR,qA,dA,rfl,k2⟩:=to_open h2;exact ⟨⟨pR,cR,pA,cA,qR,dR,qA,dA,a,c⟩,rfl,k1,k2,h3,h0⟩
theorem end_shut {x : MEnd} {e : EP} (h : EIn w O x e) : endL.In w O x [.int .i64 x.op, .int .i64 x.a, .int .i64 x.yes.block, .slice e.pYR x.yes.regs.length e.cYR, .slice e.pYA x.yes.args.length e.cYA, .int .i64 x.no.block, .slice e.pNR x.no.regs.length e.cNR, .slice e.pNA x.no.args.length e.cNA, .slice e.pA x.args.length e.cA] := end_mk (to_shut h.yes) (to_shut h.no) h.args h.bnd
theorem block_open {x : MBlock n} (h : (blockL n).In w O x cs) : ∃ b : BP, cs = [.int .i64 x.regs, .slice b.pP x.params.length b.cP, .slice b.pC x.code.length b.cC, .int .i64 x.fin.op, .int .i64 x.fin.a, .int .i64 x.fin.yes.block, .slice b.e.pYR x.fin.yes.regs.length b.e.cYR, .slice b.e.pYA x.fin.yes.args.length b.e.cYA, .int .i64 x.fin.no.block, .slice b.e.pNR x.fin.no.regs.length b.e.cNR, .slice b.e.pNA x.fin.no.args.length b.e.cNA, .slice b.e.pA x.fin.args.length b.e.cA] ∧ BIn w O x b := by
  obtain ⟨a,c,b,d,es,rfl,h1,h2,h3,h0⟩:=block_form h;obtain ⟨e,rfl,k3⟩:=end_open h3;exact ⟨⟨a,c,b,d,e⟩,rfl,h1,h2,k3,h0⟩
theorem block_shut {x : MBlock n} {b : BP} (h : BIn w O x b) : (blockL n).In w O x [.int .i64 x.regs, .slice b.pP x.params.length b.cP, .slice b.pC x.code.length b.cC, .int .i64 x.fin.op, .int .i64 x.fin.a, .int .i64 x.fin.yes.block, .slice b.e.pYR x.fin.yes.regs.length b.e.cYR, .slice b.e.pYA x.fin.yes.args.length b.e.cYA, .int .i64 x.fin.no.block, .slice b.e.pNR x.fin.no.regs.length b.e.cNR, .slice b.e.pNA x.fin.no.args.length b.e.cNA, .slice b.e.pA x.fin.args.length b.e.cA] := block_mk h.params h.code (end_shut h.fin) h.bnd
theorem func_open {x : MFunc n} (h : (funcL n).In w O x cs) : ∃ f : FP, cs = [.int .i64 x.regs, .slice f.pP x.params.length f.cP, .slice f.pR x.results.length f.cR, .slice f.pB x.blocks.length f.cB] ∧ FIn w O x f := by
  obtain ⟨a,c,b,d,e,f,rfl,h1,h2,h3,h0⟩:=func_form h;exact ⟨⟨a,c,b,d,e,f⟩,rfl,h1,h2,h3,h0⟩
theorem func_shut {x : MFunc n} {f : FP} (h : FIn w O x f) : (funcL n).In w O x [.int .i64 x.regs, .slice f.pP x.params.length f.cP, .slice f.pR x.results.length f.cR, .slice f.pB x.blocks.length f.cB] := func_mk h.params h.results h.blocks h.bnd
theorem ins_at {l : List MIns} {p : Option Addr} {m c : Nat} (h : (insL).list.In w O l [.slice p m c]) {i : Nat} {x : MIns} (hx : l[i]? = some x) :
    ∃ (g o:Nat) (i':IP),p=some ⟨g,o,none⟩∧w.rangeAt g (o+i*8) [.int .i64 x.op,.int .i64 x.a,.int .i64 x.b,.int .i64 x.c,.int .i64 x.k,.int .i64 x.n,.slice i'.pR x.regs.length i'.cR,.slice i'.pA x.args.length i'.cA]∧IIn w O x i':=by
  obtain ⟨g,o,ds,e,h1,h2,h3,h4⟩:=Lay.list_at h hx;obtain ⟨i',rfl,h5⟩:=ins_open h4;have hs:(insL).size=8:=rfl;rw [hs] at h3;exact ⟨g,o,i',e,fun j v hj=>(h3 j (by have:=(List.getElem?_eq_some_iff.1 hj).1;simpa using this)).trans hj,h5⟩
theorem block_at {l : List (MBlock n)} {p : Option Addr} {m c : Nat} (h : (blockL n).list.In w O l [.slice p m c]) {i : Nat} {x : MBlock n} (hx : l[i]? = some x) :
    ∃ (g o:Nat) (b:BP),p=some ⟨g,o,none⟩∧w.rangeAt g (o+i*12) [.int .i64 x.regs,.slice b.pP x.params.length b.cP,.slice b.pC x.code.length b.cC,.int .i64 x.fin.op,.int .i64 x.fin.a,.int .i64 x.fin.yes.block,.slice b.e.pYR x.fin.yes.regs.length b.e.cYR,.slice b.e.pYA x.fin.yes.args.length b.e.cYA,.int .i64 x.fin.no.block,.slice b.e.pNR x.fin.no.regs.length b.e.cNR,.slice b.e.pNA x.fin.no.args.length b.e.cNA,.slice b.e.pA x.fin.args.length b.e.cA]∧BIn w O x b:=by
  obtain ⟨g,o,ds,e,h1,h2,h3,h4⟩:=Lay.list_at h hx;obtain ⟨b,rfl,h5⟩:=block_open h4;have hs:(blockL n).size=12:=rfl;rw [hs] at h3;exact ⟨g,o,b,e,fun j v hj=>(h3 j (by have:=(List.getElem?_eq_some_iff.1 hj).1;simpa using this)).trans hj,h5⟩
theorem func_at {l : List (MFunc n)} {p : Option Addr} {m c : Nat} (h : (funcL n).list.In w O l [.slice p m c]) {i : Nat} {x : MFunc n} (hx : l[i]? = some x) :
    ∃ (g o:Nat) (f:FP),p=some ⟨g,o,none⟩∧w.rangeAt g (o+i*4) [.int .i64 x.regs,.slice f.pP x.params.length f.cP,.slice f.pR x.results.length f.cR,.slice f.pB x.blocks.length f.cB]∧FIn w O x f:=by
  obtain ⟨g,o,ds,e,h1,h2,h3,h4⟩:=Lay.list_at h hx;obtain ⟨f,rfl,h5⟩:=func_open h4;have hs:(funcL n).size=4:=rfl;rw [hs] at h3;exact ⟨g,o,f,e,fun j v hj=>(h3 j (by have:=(List.getElem?_eq_some_iff.1 hj).1;simpa using this)).trans hj,h5⟩
theorem lin_at {l : List (TT n)} {p : Option Addr} (h : LIn w O l p) {i : Nat} {x : TT n} (hx : l[i]? = some x) : ∃ (g o : Nat) (q : Option Addr) (c : Nat), p = some ⟨g, o, none⟩ ∧ w.rangeAt g (o + i * 3) [.int .i64 x.kind, .int .i64 x.r, .slice q x.len c] ∧ TIn w O x q := by
  obtain ⟨g,o,q,c,e,_,h0,h1,h2,h3⟩:=LIn.at h hx;refine ⟨g,o,q,c,e,fun j v hj=>?_,h3⟩;match j,hj with
  | 0,hj=>cases hj;exact h0
  | 1,hj=>cases hj;exact h1
  | 2,hj=>cases hj;exact h2
theorem ints_rg {l : List Int} {a : Option Addr} {m c : Nat} (h : intsL.In w O l [.slice a m c]) {i : Nat} (hi : i < l.length) : ∃ g o, a = some ⟨g, o, none⟩ ∧ w.rangeAt g (o + i) [.int .i64 (l.getD i 0)] := by
  obtain ⟨g,o,e,_,_,h1⟩:=ints_at h hi;refine ⟨g,o,e,fun j v hj=>?_⟩;match j,hj with
  | 0,hj=>cases hj;exact h1
end
theorem sameInts_any (l m : List Int) (p p2 : Option Addr) (c d : Nat) (w : World) (hl0 : intsL.In w All l [.slice p l.length c]) (hm0 : intsL.In w All m [.slice p2 m.length d]) (hb1 : l.length ≤ 4294967296) :
    Rd Tryz.prog 60 #[.slice p l.length c,.slice p2 m.length d] w (.bool (bdec (l=m))):=by
  have hl:Hid _:=hl0;have hm:Hid _:=hm0;clear hl0 hm0;refine fr_enter (n:=26) Tryz.func60 rfl rfl rfl ?_;intro a hF;have hW:=Wd.start w;replace hF:Fr 26 a [(0,.slice p l.length c),(1,.slice p2 m.length d)]:=hF;refine wp_seq_k fun K1 hK1=>?_;refine rg hF fun ops=>?_;clear hF a;refine sa trivial rfl rfl ?_;refine St.nil fun a2 h2=>?_;refine hK1 _ _ ?_;refine wp_seq_k fun K3 hK3=>?_;refine wp_seq_k fun K4 hK4=>?_;refine rg h2 fun ops=>?_;clear h2 a2;refine sm trivial rfl rfl ?_;refine slInts trivial rfl rfl ?_;refine sm trivial rfl rfl ?_;refine slInts trivial rfl rfl ?_;refine sne trivial rfl rfl rfl ?_;refine St.nil fun a5 h5=>?_;refine hK4 _ _ ?_;refine fr_cond (t:=10) h5 rfl (fun hb=>?_) (fun hb=>?_)
  ·have h9:¬ l.length=m.length:=by have h8:=bne_iff_ne.1 hb;omega
   have hlen:¬ l.length=m.length:=h9;clear h9;clear hb;refine wp_seq_k fun K6 hK6=>?_;refine rg h5 fun ops=>?_;clear h5 a5;refine sa trivial rfl rfl ?_;refine St.nil fun a7 h7=>?_;refine hK6 _ _ ?_;refine wp_ret ?_;with_reducible repeat first | refine of_then_ret ?_ | refine of_block_ret ?_
   have R:¬ l=m:=by
     intro e
     first
       | exact hlen (by rw [e])
       | exact hel (by rw [← hx.out,← hy.out,e])
   exact ret_tmp (t:=4) h7 rfl rfl ⟨by rw [bdec_false R],hW.bel⟩
  have h9:l.length=m.length:=by have h8:=bne_eq_false_iff_eq.1 hb;omega
  have hlen:Hid (l.length=m.length):=h9;clear h9;clear hb;refine wp_skip ?_;refine hK3 _ _ ?_;refine wp_seq_k fun K8 hK8=>?_;refine wp_seq_k fun K9 hK9=>?_;refine rg h5 fun ops=>?_;clear h5 a5;refine sa trivial rfl rfl ?_;refine St.nil fun a10 h10=>?_;refine hK9 _ _ ?_;refine wp_block ?_;refine fr_loop (fun r a w'=>∃ q:Nat,q≤l.length∧r=l.length - q∧(∀ j,j<q→l.getD j 0=m.getD j 0)∧Fr 26 a [(1,.slice p2 m.length d),(0,.slice p l.length c),(4,.bool false),(5,.int .i64 (q:Int))]∧Wd w w' []) (l.length) ⟨0,Nat.zero_le _,rfl,(fun j hj=>by omega),(h10.keep (h10.keep (h10.keep (h10.keep h10.nil (t:=5) rfl) (t:=4) rfl) (t:=0) rfl) (t:=1) rfl),hW⟩ ?_;clear h10 hW;rintro r a11 w11 ⟨q,hq,hr,hall,hF11,hW11⟩ KL hKL;refine wp_seq_k fun K12 hK12=>?_;refine wp_seq_k fun K13 hK13=>?_;refine rg hF11 fun ops=>?_;clear hF11 a11;refine sm trivial rfl rfl ?_;refine sm trivial rfl rfl ?_;refine slInts trivial rfl rfl ?_;refine slt trivial rfl rfl rfl ?_;refine St.nil fun a14 h14=>?_;refine hK13 _ _ ?_;refine fr_cond (t:=14) h14 rfl (fun hb=>?_) (fun hb=>?_)
  ·have hlt:q<l.length:=by have:=of_decide_eq_true hb;omega
   clear hb;have hlm:q<m.length:=by have:=hlen.out;omega
   obtain ⟨g1,o1,hp1,E1⟩:=ints_rg hl.out hlt;obtain ⟨g2,o2,hp2,E2⟩:=ints_rg hm.out hlm;obtain ⟨x,hx⟩:∃ x,l.getD q 0=x:=⟨_,rfl⟩;obtain ⟨y,hy⟩:∃ y,m.getD q 0=y:=⟨_,rfl⟩;rw [hx] at E1;rw [hy] at E2;replace hx:Hid _:=hx;replace hy:Hid _:=hy;replace E1:Hid _:=E1;replace E2:Hid _:=E2;replace hp1:Hid _:=hp1;replace hp2:Hid _:=hp2;refine wp_skip ?_;refine hK12 _ _ ?_;refine wp_seq_k fun K15 hK15=>?_;refine wp_block ?_;refine wp_seq_k fun K16 hK16=>?_;have hF17:Fr 26 a14 [(1,.slice p2 m.length d),(0,.slice p l.length c),(4,.bool false),(5,.int .i64 (q:Int))]:=(h14.keep (h14.keep (h14.keep (h14.keep h14.nil (t:=5) rfl) (t:=4) rfl) (t:=0) rfl) (t:=1) rfl);have ho0:a14.tmps.getD 0 undef=.slice p l.length c:=h14.sl 0 _ rfl;have ho5:a14.tmps.getD 5 undef=.int .i64 (q:Int):=h14.sl 5 _ rfl;have ho1:a14.tmps.getD 1 undef=.slice p2 m.length d:=h14.sl 1 _ rfl;refine fr_draw_k 9 ([(0,fun v _=>v=.slice p l.length c),(5,fun v _=>v=.int .i64 (q:Int)),(1,fun v _=>v=.slice p2 m.length d),(17,fun v _=>v=.slice p l.length c),(18,fun v _=>v=.int .i64 (q:Int)),(19,fun v _=>v=.pointer (some ⟨g1,o1+q,none⟩)),(20,fun v _=>v=.int .i64 x),(21,fun v _=>v=.slice p2 m.length d),(22,fun v _=>v=.int .i64 (q:Int)),(23,fun v _=>v=.pointer (some ⟨g2,o2+q,none⟩)),(24,fun v _=>v=.int .i64 y),(25,fun v _=>v=.bool (x != y))]:PTab) (fun w'=>Wd w w' []∧Below w11.heap.size w11 w') (fun w w'=>Below w.heap.size w w') (outs:=[0,5,1]) (gs:=[]) (bs:=[true,true,true,true,true,true,true,true,true]) (by kernel_rfl) hF17 rfl (by kernel_rfl) (by kernel_rfl) ?hR ?hG ⟨hW11.drewN 1,drewN_below (m:=1) (Below.refl _ _)⟩ ⟨ho0,ho5,ho1,trivial⟩ ?hA ?hend
   case hR=>exact ⟨fun _ _ _ _ h=>h,fun _ _ _ _ h=>h,fun _ _ _ _ h=>h,fun _ _ _ _ h=>h,fun _ _ _ _ h=>h,fun _ _ _ _ h=>h,fun _ _ _ _ h=>h,fun _ _ _ _ h=>h,fun _ _ _ _ h=>h,fun _ _ _ _ h=>h,fun _ _ _ _ h=>h,fun _ _ _ _ h=>h,trivial⟩
   case hG=>exact trivial
   case hA =>
    refine ⟨fun a w hW hk K hK=>?_,?_⟩
    · obtain ⟨k0,-⟩:=hk;have k0:a.tmps.getD 0 undef=.slice p l.length c:=k0;go_simp;exact hK _ _ (Below.refl _ _) hW rfl
    refine ⟨fun a w hW hk K hK=>?_,?_⟩
    · obtain ⟨k0,-⟩:=hk;have k0:a.tmps.getD 5 undef=.int .i64 (q:Int):=k0;go_simp;exact hK _ _ (Below.refl _ _) hW rfl
    refine ⟨fun a w hW hk K hK=>?_,?_⟩
    · obtain ⟨k0,k1,-⟩:=hk;have k0:a.tmps.getD 17 undef=.slice p l.length c:=k0;have k1:a.tmps.getD 18 undef=.int .i64 (q:Int):=k1;have hpq:=hp1.out;have hk0:(0:Int)≤q:=by omega
      have hk1:(q:Int)<(l.length:Int):=by omega
      go_simp;exact hK _ _ (Below.refl _ _) hW rfl
    refine ⟨fun a w hW hk K hK=>?_,?_⟩
    · obtain ⟨k0,-⟩:=hk;have k0:a.tmps.getD 19 undef=.pointer (some ⟨g1,o1+q,none⟩):=k0;have d0:w.cell? ⟨g1,o1+q,none⟩=some (.int .i64 x):=bel_cell hW.1.bel (E1.out 0 _ rfl);go_simp;exact hK _ _ (Below.refl _ _) hW rfl
    refine ⟨fun a w hW hk K hK=>?_,?_⟩
    · obtain ⟨k0,-⟩:=hk;have k0:a.tmps.getD 1 undef=.slice p2 m.length d:=k0;go_simp;exact hK _ _ (Below.refl _ _) hW rfl
    refine ⟨fun a w hW hk K hK=>?_,?_⟩
    · obtain ⟨k0,-⟩:=hk;have k0:a.tmps.getD 5 undef=.int .i64 (q:Int):=k0;go_simp;exact hK _ _ (Below.refl _ _) hW rfl
    refine ⟨fun a w hW hk K hK=>?_,?_⟩
    · obtain ⟨k0,k1,-⟩:=hk;have k0:a.tmps.getD 21 undef=.slice p2 m.length d:=k0;have k1:a.tmps.getD 22 undef=.int .i64 (q:Int):=k1;have hpq:=hp2.out;have hk0:(0:Int)≤q:=by omega
      have hk1:(q:Int)<(m.length:Int):=by omega
      go_simp;exact hK _ _ (Below.refl _ _) hW rfl
    refine ⟨fun a w hW hk K hK=>?_,?_⟩
    · obtain ⟨k0,-⟩:=hk;have k0:a.tmps.getD 23 undef=.pointer (some ⟨g2,o2+q,none⟩):=k0;have d0:w.cell? ⟨g2,o2+q,none⟩=some (.int .i64 y):=bel_cell hW.1.bel (E2.out 0 _ rfl);go_simp;exact hK _ _ (Below.refl _ _) hW rfl
    refine ⟨fun a w hW hk K hK=>?_,?_⟩
    · obtain ⟨k0,k1,-⟩:=hk;have k0:a.tmps.getD 20 undef=.int .i64 x:=k0;have k1:a.tmps.getD 24 undef=.int .i64 y:=k1;go_simp;exact hK _ _ (Below.refl _ _) hW rfl
    trivial
   case hend =>
    intro ops a18 w18 hWD hE hFD;have hd25:a18.tmps.getD 25 undef=.bool (x != y):=hE 25 rfl;have hF18:Fr 26 a18 [(25,.bool (x != y)),(1,.slice p2 m.length d),(0,.slice p l.length c),(4,.bool false),(5,.int .i64 (q:Int))]:=(hFD.cons hd25);clear hd25;have hW18:Wd w w18 []:=hWD.1;clear hFD hWD hE hF17 h14;clear hW11;refine wpList_nil ?_;refine hK16 _ _ ?_;refine fr_cond (t:=25) hF18 rfl (fun hb=>?_) (fun hb=>?_)
    ·have h9:¬ x=y:=bne_iff_ne.1 hb
     have hel:¬ x=y:=h9;clear h9;clear hb;refine wp_seq_k fun K19 hK19=>?_;refine rg hF18 fun ops=>?_;clear hF18 a18;refine sa trivial rfl rfl ?_;refine St.nil fun a20 h20=>?_;refine hK19 _ _ ?_;refine wp_ret ?_;with_reducible repeat first | refine of_then_ret ?_ | refine of_block_ret ?_
     have R:¬ l=m:=by
       intro e
       first
         | exact hlen (by rw [e])
         | exact hel (by rw [← hx.out,← hy.out,e])
     exact ret_tmp (t:=4) h20 rfl rfl ⟨by rw [bdec_false R],hW18.bel⟩
    have h9:x=y:=bne_eq_false_iff_eq.1 hb;have hel:Hid (x=y):=h9;clear h9;clear hb;refine wp_skip ?_;refine hK15 _ _ ?_;refine rg hF18 fun ops=>?_;clear hF18 a18;refine sm trivial rfl rfl ?_;refine sad (by omega) trivial rfl rfl rfl ?_;refine sa trivial rfl rfl ?_;refine St.nil fun a21 h21=>?_;refine hKL _ _ (l.length - (q+1)) (by omega) ⟨q+1,by omega,rfl,?_,(h21.keep (h21.keep (h21.keep (h21.keep h21.nil (t:=5) rfl) (t:=4) rfl) (t:=0) rfl) (t:=1) rfl),hW18⟩
    ·intro j hj
     by_cases e:j=q
     · subst e;rw [hx.out,hy.out];exact hel.out
     · exact hall j (by omega)
  have hge:q=l.length:=by have:=of_decide_eq_false hb;omega
  clear hb;refine wp_exit ?_;refine hK8 _ _ ?_;refine wp_seq_k fun K22 hK22=>?_;refine rg h14 fun ops=>?_;clear h14 a14;refine sa trivial rfl rfl ?_;refine St.nil fun a23 h23=>?_;refine hK22 _ _ ?_;refine wp_ret ?_;with_reducible repeat first | refine of_then_ret ?_ | refine of_block_ret ?_
  have R:l=m:=by
    refine List.ext_getElem hlen.out fun i h1 h2=>?_
    have:=hall i (by omega)
    simpa [List.getD,h1,h2] using this
  exact ret_tmp (t:=4) h23 rfl rfl ⟨by rw [bdec_true R],hW11.bel⟩
end Go.Proofs.YtjdcjfpfpaplladGreat
namespace Go.Proofs.YtjdcjfpfpaplladGreat
open Go.ChangeShapes Go.WideShapes Go.ChangeAt Go.RowKit
set_option linter.unusedVariables false
def SaysEq (e : Ending) (A : Prop) : Prop := ∃ q : Bool, e = .returned (.bool q) ∧ (q = true ↔ A)
theorem SaysEq.yes {A : Prop} (h : A) : SaysEq (.returned (.bool true)) A := ⟨true, rfl, by simp [h]⟩
theorem SaysEq.no {A : Prop} (h : ¬ A) : SaysEq (.returned (.bool false)) A := ⟨false, rfl, by simp [h]⟩
def SameAt (f : Nat) (n : Nat) : Prop := ∀ (t u : TT n) (a b : Option Addr) (c d : Nat) (w : World), TIn w All t a → TIn w All u b → t.count ≤ 100000 →
    Calls Tryz.prog f #[Tv t a c,Tv u b d] w fun e w'=>SaysEq e (t=u)∧Below w.heap.size w w'
theorem sames_any (n : Nat) (IH0 : SameAt 57 n) (l m : List (TT n)) (a b : Option Addr) (c d : Nat) (w : World) (hl0 : LIn w All l a) (hm0 : LIn w All m b) (hlen : l.length ≤ 100000) (hco0 : ∀ x ∈ l, x.count ≤ 100000) :
    Calls Tryz.prog 34 #[.slice a l.length c,.slice b m.length d] w fun e w'=>SaysEq e (l=m)∧Below w.heap.size w w':=by
  have IH:Hid (SameAt 57 n):=IH0;have hl:Hid (LIn w All l a):=hl0;have hm:Hid (LIn w All m b):=hm0;have hco:Hid (∀ x∈l,x.count≤100000):=hco0;clear IH0 hl0 hm0 hco0;by_cases hne:l.length=m.length
  · have hne':((l.length:Int) != (m.length:Int))=false:=by simp;omega
    have E:Hid (l.length=m.length):=hne;clear hne;go_enter Tryz.func34,Tryz.ntmps34
    go_wp2_with fail
    go_loopw [5] (fun i wr=>∃ q:Nat,q≤l.length∧i=.int .i64 q∧(∀ j,j<q→l[j]?=m[j]?)∧Below w.heap.size w wr) (fun i _=>l.length - (intOf i).toNat)
    case atStart=>exact ⟨0,Nat.zero_le _,rfl,fun j hj=>by omega,Below.refl _ _⟩
    case round =>
      obtain ⟨q,hq,rfl,hall,hb⟩:=hrel;have A:Hid (∀ j,j<q→l[j]?=m[j]?):=hall;have B:Hid (Below w.heap.size w wr):=hb;clear hall hb;by_cases hlt:q<l.length
      · have hx:l[q]?=some l[q]:=List.getElem?_eq_getElem hlt;have hlm:q<m.length:=by have:=E.out;omega
        have hy:m[q]?=some m[q]:=List.getElem?_eq_getElem hlm;generalize l[q]=x at hx;generalize m[q]=y at hy;obtain ⟨g,o,a',c',rfl,_,d0,d1,d2,hk⟩:=LIn.at (hl.out.below B.out) hx;obtain ⟨g',o',b',d',rfl,_,d3,d4,d5,hk'⟩:=LIn.at (hm.out.below B.out) hy
        have C:Hid (∀ k,Calls Tryz.prog 57 #[Tv x a' c',Tv y b' d'] (wr.drewN k) fun e w'=>SaysEq e (x=y)∧Below wr.heap.size wr w') :=
          fun k=>(IH.out x y a' b' c' d' _ (hk.drewN k) (hk'.drewN k) (hco.out x (List.mem_of_getElem? hx))).mono (fun e w' h=>⟨h.1,undrewN_below h.2⟩)
        have hx':Hid (l[q]?=some x):=hx;have hy':Hid (m[q]?=some y):=hy;clear hk hk' hx hy;have hk0:(0:Int)≤q:=by omega
        have hk1:(q:Int)<l.length:=by omega
        have hk3:(q:Int)<m.length:=by omega
        go_upto_region 6 with fail
        go_cut [26] (fun t wx=>∃ p:Bool,t=.bool (!p)∧(p=true ↔ x=y)∧Below wr.heap.size wr wx)
        case first =>
          go_region_with (go_at_call 57;refine (C.out 1).mono ?_;rintro r w5 ⟨⟨p,rfl,hp⟩,b5⟩;have HP:Hid (p=true ↔ x=y):=hp;have B5:Hid (Below wr.heap.size wr w5):=b5;clear hp b5)
          all_goals
            go_wp2
            go_meet;exact ⟨p,rfl,HP.out,B5.out⟩
        case rest =>
          obtain ⟨p,rfl,hp,b5⟩:=hcut;have HB:Hid (Below w.heap.size w wc):=B.out.trans (b5.mono B.out.size);clear C b5 B d0 d1 d2 d3 d4 d5
          cases p with
          | true =>
            have hxy:x=y:=hp.1 rfl
            have A2:Hid (∀ j,j<q+1→l[j]?=m[j]?):=fun j hj=>by
              by_cases e:j=q
              · subst e;rw [hx'.out,hy'.out,hxy]
              · exact A.out j (by omega)
            clear hp hxy hx' hy' A;go_wp2
            go_roundw
            case rel=>exact ⟨q+1,by omega,by go_num,A2.out,HB.out⟩
            case measure=>simp [intOf];omega
          | false =>
            have hxy:Hid (¬ l=m):=fun h=>by
              have h1:=hx'.out;rw [h,hy'.out] at h1
              have:=hp.2 (Option.some.inj h1).symm
              cases this
            clear hp hx' hy' A;go_wp2
            go_ret;exact ⟨SaysEq.no hxy.out,HB.out⟩
      · have R:Hid (l=m):=by
          have:=E.out
          refine List.ext_getElem? (fun i=>?_);by_cases hi:i<q
          · exact A.out i hi
          · rw [List.getElem?_eq_none (by omega),List.getElem?_eq_none (by omega)]
        have hk1:¬ (q:Int)<l.length:=by omega
        clear A;go_wp2
        go_ret;exact ⟨SaysEq.yes R.out,B.out⟩
  · have hne':((l.length:Int) != (m.length:Int))=true:=by simp;omega
    have E:Hid (l.length≠m.length):=hne;clear hne;go_enter Tryz.func34,Tryz.ntmps34
    go_wp2
    go_ret;exact ⟨SaysEq.no (fun h=>E.out (by rw [h])),Below.refl _ _⟩
theorem TT.eq_iff {n : Nat} {t u : TT (n + 1)} : t = u ↔ t.kind = u.kind ∧ t.r = u.r ∧ t.2.2 = u.2.2 := by
  obtain ⟨a,b,c⟩:=t;obtain ⟨d,e,f⟩:=u;constructor
  · intro h;cases h;exact ⟨rfl,rfl,rfl⟩
  · rintro ⟨rfl,rfl,rfl⟩;rfl
theorem samet_any : ∀ n, SameAt 57 n := by
  intro n
  induction n with
  | zero=>intro t;exact Empty.elim t
  | succ n ih =>
    intro t u a b c d w ht hu hc;have hco:∀ x∈t.2.2,x.count≤100000:=fun x hx=>by have:=t.count_kid hx;omega
    have hlen:t.2.2.length≤100000:=by have:=t.len_lt_count;rw [t.len_eq] at this;omega
    have C:Hid (∀ wx,Below w.heap.size w wx→Calls Tryz.prog 34 #[.slice a t.2.2.length c,.slice b u.2.2.length d] wx fun e w'=>SaysEq e (t.2.2=u.2.2)∧Below wx.heap.size wx w') :=
      fun wx hb=>sames_any n ih t.2.2 u.2.2 a b c d wx (ht.below hb) (hu.below hb) hlen hco
    rw [TT.eq_iff];simp only [Tv,TT.len_eq] at C ⊢;generalize t.2.2.length=p at C ⊢;generalize u.2.2.length=q at C ⊢;generalize (t.2.2=u.2.2)=E at C ⊢;generalize t.kind=k;generalize t.r=r;generalize u.kind=k';generalize u.r=r';clear hco hlen hc ht hu ih t u;by_cases hk:k=k'
    · subst hk;by_cases hr:r=r'
      · subst hr;go_enter Tryz.func57,Tryz.ntmps57
        go_wp2_with fail
        have B1:Below w.heap.size w ((w.alloc (.cells #[.int .i64 k,.int .i64 r,.slice a p c] 88)).alloc (.cells #[.int .i64 k,.int .i64 r,.slice b q d] 88)):=((Below.refl _ w).alloc (Nat.le_refl _) _).alloc (by simp) _;refine (C.out _ B1).mono ?_;rintro e w2 ⟨⟨v,rfl,hv⟩,b2⟩;have B:Hid (Below w.heap.size w w2):=B1.trans (b2.mono B1.size);have V:Hid (v=true ↔ E):=hv;clear b2 C hv B1
        cases v
        all_goals
          go_wp2
          go_ret
        · exact ⟨SaysEq.no (fun h=>by have:=V.out.2 h.2.2;cases this),B.out⟩
        · exact ⟨SaysEq.yes (by have:=V.out;simpa using this),B.out⟩
      · have hr':(r==r')=false:=by simpa using hr
        have R:Hid (¬ r=r'):=hr;clear hr;go_enter Tryz.func57,Tryz.ntmps57
        go_wp2_with fail
        go_ret;exact ⟨SaysEq.no (fun h=>R.out h.2.1),((Below.refl _ w).alloc (Nat.le_refl _) _).alloc (by simp) _⟩
    · have hk':(k==k')=false:=by simpa using hk
      have R:Hid (¬ k=k'):=hk;clear hk;go_enter Tryz.func57,Tryz.ntmps57
      go_wp2_with fail
      go_ret;exact ⟨SaysEq.no (fun h=>R.out h.1),((Below.refl _ w).alloc (Nat.le_refl _) _).alloc (by simp) _⟩
abbrev FV : Value := .func (.func 141) #[] #[]
theorem eqf_any (n : Nat) (IH0 : SameAt 141 n) (l m : List (TT n)) (a b : Option Addr) (c d : Nat) (w : World) (hl0 : LIn w All l a) (hm0 : LIn w All m b) (hlen : l.length ≤ 100000) (hco0 : ∀ x ∈ l, x.count ≤ 100000) :
    Calls Tryz.prog 140 #[.slice a l.length c,.slice b m.length d,FV] w fun e w'=>SaysEq e (l=m)∧Below w.heap.size w w':=by
  have IH:Hid (SameAt 141 n):=IH0;have hl:Hid (LIn w All l a):=hl0;have hm:Hid (LIn w All m b):=hm0;have hco:Hid (∀ x∈l,x.count≤100000):=hco0;clear IH0 hl0 hm0 hco0;by_cases hne:l.length=m.length
  · have hne':((l.length:Int) != (m.length:Int))=false:=by simp;omega
    have E:Hid (l.length=m.length):=hne;clear hne;go_enter Tryz.func140,Tryz.ntmps140
    go_wp2_with fail
    go_loopw [17] (fun i wr=>∃ q:Nat,q≤l.length∧i=.int .i64 q∧(∀ j,j<q→l[j]?=m[j]?)∧Below w.heap.size w wr) (fun i _=>l.length - (intOf i).toNat)
    case atStart=>exact ⟨0,Nat.zero_le _,rfl,fun j hj=>by omega,Below.refl _ _⟩
    case round =>
      obtain ⟨q,hq,rfl,hall,hb⟩:=hrel;have A:Hid (∀ j,j<q→l[j]?=m[j]?):=hall;have B:Hid (Below w.heap.size w wr):=hb;clear hall hb;by_cases hlt:q<l.length
      · have hx:l[q]?=some l[q]:=List.getElem?_eq_getElem hlt;have hlm:q<m.length:=by have:=E.out;omega
        have hy:m[q]?=some m[q]:=List.getElem?_eq_getElem hlm;generalize l[q]=x at hx;generalize m[q]=y at hy;obtain ⟨g,o,a',c',rfl,_,d0,d1,d2,hk⟩:=LIn.at (hl.out.below B.out) hx;obtain ⟨g',o',b',d',rfl,_,d3,d4,d5,hk'⟩:=LIn.at (hm.out.below B.out) hy
        have C:Hid (∀ wx,Below wr.heap.size wr wx→Calls Tryz.prog 141 #[Tv x a' c',Tv y b' d'] wx fun e w'=>SaysEq e (x=y)∧Below wx.heap.size wx w') :=
          fun wx hb=>IH.out x y a' b' c' d' _ (hk.below hb) (hk'.below hb) (hco.out x (List.mem_of_getElem? hx))
        have hx':Hid (l[q]?=some x):=hx;have hy':Hid (m[q]?=some y):=hy;have hg:g<wr.heap.size:=World.block_lt_of_cell? wr ⟨g,o+q*3,none⟩ d0;have hg':g'<wr.heap.size:=World.block_lt_of_cell? wr ⟨g',o'+q*3,none⟩ d3;clear hk hk' hx hy;simp only [Tv] at C;generalize x.kind=kx at C d0;generalize x.r=rx at C d1;generalize x.len=lx at C d2;generalize y.kind=ky at C d3;generalize y.r=ry at C d4;generalize y.len=ly at C d5;have hk0:(0:Int)≤q:=by omega
        have hk1:(q:Int)<l.length:=by omega
        have hk3:(q:Int)<m.length:=by omega
        go_wp2_with fail
        have B1:Below wr.heap.size wr ((wr.alloc (.cells #[.int .i64 kx,.int .i64 rx,.slice a' lx c'] 88)).alloc (.cells #[.int .i64 ky,.int .i64 ry,.slice b' ly d'] 88)):=((Below.refl _ wr).alloc (Nat.le_refl _) _).alloc (by simp) _;refine (C.out _ B1).mono ?_;rintro r w5 ⟨⟨p,rfl,hp⟩,b5⟩;have HB:Hid (Below w.heap.size w w5):=(B.out.trans (B1.mono B.out.size)).trans (b5.mono (Nat.le_trans B.out.size B1.size));clear C b5 B d0 d1 d2 d3 d4 d5 B1
        cases p with
        | true =>
          have hxy:x=y:=hp.1 rfl
          have A2:Hid (∀ j,j<q+1→l[j]?=m[j]?):=fun j hj=>by
            by_cases e:j=q
            · subst e;rw [hx'.out,hy'.out,hxy]
            · exact A.out j (by omega)
          clear hp hxy hx' hy' A;go_wp2
          go_roundw
          case rel=>exact ⟨q+1,by omega,by go_num,A2.out,HB.out⟩
          case measure=>simp [intOf];omega
        | false =>
          have hxy:Hid (¬ l=m):=fun h=>by
            have h1:=hx'.out;rw [h,hy'.out] at h1
            have:=hp.2 (Option.some.inj h1).symm
            cases this
          clear hp hx' hy' A;go_wp2
          go_ret;exact ⟨SaysEq.no hxy.out,HB.out⟩
      · have R:Hid (l=m):=by
          have:=E.out
          refine List.ext_getElem? (fun i=>?_);by_cases hi:i<q
          · exact A.out i hi
          · rw [List.getElem?_eq_none (by omega),List.getElem?_eq_none (by omega)]
        have hk1:¬ (q:Int)<l.length:=by omega
        clear A;go_wp2
        go_ret;exact ⟨SaysEq.yes R.out,B.out⟩
  · have hne':((l.length:Int) != (m.length:Int))=true:=by simp;omega
    have E:Hid (l.length≠m.length):=hne;clear hne;go_enter Tryz.func140,Tryz.ntmps140
    go_wp2
    go_ret;exact ⟨SaysEq.no (fun h=>E.out (by rw [h])),Below.refl _ _⟩
theorem same_any : ∀ n, SameAt 141 n := by
  intro n
  induction n with
  | zero=>intro t;exact Empty.elim t
  | succ n ih =>
    intro t u a b c d w ht hu hc;have hco:∀ x∈t.2.2,x.count≤100000:=fun x hx=>by have:=t.count_kid hx;omega
    have hlen:t.2.2.length≤100000:=by have:=t.len_lt_count;rw [t.len_eq] at this;omega
    have C:Hid (∀ wx,Below w.heap.size w wx→Calls Tryz.prog 140 #[.slice a t.2.2.length c,.slice b u.2.2.length d,FV] wx fun e w'=>SaysEq e (t.2.2=u.2.2)∧Below wx.heap.size wx w') :=
      fun wx hb=>eqf_any n ih t.2.2 u.2.2 a b c d wx (ht.below hb) (hu.below hb) hlen hco
    rw [TT.eq_iff];simp only [Tv,TT.len_eq] at C ⊢;generalize t.2.2.length=p at C ⊢;generalize u.2.2.length=q at C ⊢;generalize (t.2.2=u.2.2)=E at C ⊢;generalize t.kind=k;generalize t.r=r;generalize u.kind=k';generalize u.r=r';clear hco hlen hc ht hu ih t u;by_cases hk:k=k'
    · subst hk;by_cases hr:r=r'
      · subst hr;go_enter Tryz.func141,Tryz.ntmps141
        go_wp2_with fail
        have B1:Below w.heap.size w ((w.alloc (.cells #[.int .i64 k,.int .i64 r,.slice a p c] 88)).alloc (.cells #[.int .i64 k,.int .i64 r,.slice b q d] 88)):=((Below.refl _ w).alloc (Nat.le_refl _) _).alloc (by simp) _;refine (C.out _ B1).mono ?_;rintro e w2 ⟨⟨v,rfl,hv⟩,b2⟩;have B:Hid (Below w.heap.size w w2):=B1.trans (b2.mono B1.size);have V:Hid (v=true ↔ E):=hv;clear b2 C hv B1
        cases v
        all_goals
          go_wp2
          go_ret
        · exact ⟨SaysEq.no (fun h=>by have:=V.out.2 h.2.2;cases this),B.out⟩
        · exact ⟨SaysEq.yes (by have:=V.out;simpa using this),B.out⟩
      · have hr':(r==r')=false:=by simpa using hr
        have R:Hid (¬ r=r'):=hr;clear hr;go_enter Tryz.func141,Tryz.ntmps141
        go_wp2_with fail
        go_ret;exact ⟨SaysEq.no (fun h=>R.out h.2.1),((Below.refl _ w).alloc (Nat.le_refl _) _).alloc (by simp) _⟩
    · have hk':(k==k')=false:=by simpa using hk
      have R:Hid (¬ k=k'):=hk;clear hk;go_enter Tryz.func141,Tryz.ntmps141
      go_wp2_with fail
      go_ret;exact ⟨SaysEq.no (fun h=>R.out h.1),((Below.refl _ w).alloc (Nat.le_refl _) _).alloc (by simp) _⟩
end Go.Proofs.YtjdcjfpfpaplladGreat
namespace Go.Proofs.YtjdcjfpfpaplladGreat
open Go.ChangeShapes Go.WideShapes Go.ChangeAt Go.RowKit
set_option linter.unusedSimpArgs false
set_option linter.unusedVariables false
theorem MTo.eq_of {x y : MTo} (h1 : x.block = y.block) (h2 : x.regs = y.regs) (h3 : x.args = y.args) : x = y := by cases x; cases y; simp_all
theorem MIns.eq_of {x y : MIns} (h1 : x.op = y.op) (h2 : x.a = y.a) (h3 : x.b = y.b) (h4 : x.c = y.c) (h5 : x.k = y.k) (h6 : x.n = y.n) (h7 : x.regs = y.regs) (h8 : x.args = y.args) : x = y := by cases x; cases y; simp_all
theorem MEnd.eq_of {x y : MEnd} (h1 : x.op = y.op) (h2 : x.a = y.a) (h3 : x.yes = y.yes) (h4 : x.no = y.no) (h5 : x.args = y.args) : x = y := by cases x; cases y; simp_all
theorem MBlock.eq_of {n : Nat} {x y : MBlock n} (h1 : x.regs = y.regs) (h2 : x.params = y.params) (h3 : x.code = y.code) (h4 : x.fin = y.fin) : x = y := by cases x; cases y; simp_all
theorem MFunc.eq_of {n : Nat} {x y : MFunc n} (h1 : x.regs = y.regs) (h2 : x.params = y.params) (h3 : x.results = y.results) (h4 : x.blocks = y.blocks) : x = y := by cases x; cases y; simp_all
theorem bdec_congr {A B : Prop} (h : A ↔ B) : bdec A = bdec B := by rw [propext h]
theorem rd_says {f : FuncId} {args : Array Value} {w : World} {A : Prop} (h : Calls Tryz.prog f args w fun e w' => SaysEq e A ∧ Below w.heap.size w w') : Rd Tryz.prog f args w (.bool (bdec A)) :=
  h.mono fun e w' h=>by
    obtain ⟨⟨q,rfl,hq⟩,b⟩:=h;exact ⟨by rw [bdec_of hq],b⟩
theorem sameTypes_any {n : Nat} {l m : List (TT n)} {p q : Option Addr} {c d : Nat} {w : World} (hl : (typesL n).In w All l [.slice p l.length c]) (hm : (typesL n).In w All m [.slice q m.length d]) (hs : tsmall l) : Rd Tryz.prog 34 #[.slice p l.length c, .slice q m.length d] w (.bool (bdec (l = m))) :=
  rd_says (sames_any n (samet_any n) l m p q c d w (types_lin hl).1 (types_lin hm).1 (by have:=hs.1;omega) hs.2)
theorem eqTypes_any {n : Nat} {l m : List (TT n)} {p q : Option Addr} {c d : Nat} {w : World} (hl : (typesL n).In w All l [.slice p l.length c]) (hm : (typesL n).In w All m [.slice q m.length d]) (hs : tsmall l) : Rd Tryz.prog 140 #[.slice p l.length c, .slice q m.length d, .func (.func 141) #[] #[]] w (.bool (bdec (l = m))) :=
  rd_says (eqf_any n (same_any n) l m p q c d w (types_lin hl).1 (types_lin hm).1 (by have:=hs.1;omega) hs.2)
theorem sameTo_any {x y : MTo} {pR pA qR qA : Option Addr} {cR cA dR dA : Nat} {w : World} (hx0 : TIn2 w All x pR cR pA cA) (hy0 : TIn2 w All y qR dR qA dA) (hs0 : x.small) :
    Rd Tryz.prog 59 #[.agg #[.int .i64 x.block,.slice pR x.regs.length cR,.slice pA x.args.length cA],.agg #[.int .i64 y.block,.slice qR y.regs.length dR,.slice qA y.args.length dA]] w (.bool (bdec (x=y))):=by
  have hx:Hid _:=hx0;have hy:Hid _:=hy0;have hs:Hid _:=hs0;clear hx0 hy0 hs0;refine fr_enter (n:=24) Tryz.func59 rfl rfl rfl ?_;intro a hF;have hW:=Wd.start w;replace hF:Fr 24 a [(0,.agg #[.int .i64 x.block,.slice pR x.regs.length cR,.slice pA x.args.length cA]),(1,.agg #[.int .i64 y.block,.slice qR y.regs.length dR,.slice qA y.args.length dA])]:=hF;refine wp_seq_k fun K1 hK1=>?_;refine rg hF fun ops=>?_;clear hF a;refine sB hW trivial rfl rfl ?_;clear hW;intro w2 B2 hW2 hN;clear hN;refine sB hW2 trivial rfl rfl ?_;clear hW2;intro w3 B3 hW3 hN;clear hN;refine sa trivial rfl rfl ?_;refine St.nil fun a4 h4=>?_;refine hK1 _ _ ?_;refine wp_seq_k fun K5 hK5=>?_;refine fr_region ?_;intro ops hops;have hg5:(ops[5]?).bind (fun o:Oper=>o.dst)=some 10:=hops 5;have hg12:(ops[12]?).bind (fun o:Oper=>o.dst)=some 17:=hops 12;clear hops;refine St.go h4 ?_;clear h4 a4;refine sfTo0 trivial rfl rfl ?_;refine sbInt 1 hW3 trivial rfl rfl rfl rfl ?_;refine sfTo0 trivial rfl rfl ?_;refine sbInt 0 hW3 trivial rfl rfl rfl rfl ?_;refine seq trivial rfl rfl rfl ?_;refine sm trivial rfl rfl ?_;intro a6 h6;rcases Bool.eq_false_or_eq_true (x.block==y.block) with hb | hb
  ·rw [hb] at h6
   have h9:x.block=y.block:=eq_of_beq hb;have hc7:Hid (x.block=y.block):=h9;clear h9;clear hb;refine St.go h6 ?_;clear h6 a6;refine sfTo1 ⟨_,hg5,rfl,rfl⟩ rfl rfl ?_;refine sbInts 1 hW3 ⟨_,hg5,rfl,rfl⟩ rfl rfl rfl rfl ?_;refine sfTo1 ⟨_,hg5,rfl,rfl⟩ rfl rfl ?_;refine sbInts 0 hW3 ⟨_,hg5,rfl,rfl⟩ rfl rfl rfl rfl ?_;refine sc_2 cf60 hW3 (sameInts_any x.regs y.regs pR qR cR dR w3 (Lay.below hx.out.regs hW3.bel) (Lay.below hy.out.regs hW3.bel) (by have:=hs.out.1;omega)) ⟨_,hg5,rfl,rfl⟩ rfl rfl rfl ?_;clear hW3;intro w8 hW8;refine sp trivial rfl rfl rfl ?_;refine sm trivial rfl rfl ?_;intro a9 h9;rcases Bool.eq_false_or_eq_true (bdec (x.regs=y.regs)) with hb | hb
   ·rw [hb] at h9
    have hc10:(x.regs=y.regs):=bdec_iff.1 hb;clear hb;refine St.go h9 ?_;clear h9 a9;refine sfTo2 ⟨_,hg12,rfl,rfl⟩ rfl rfl ?_;refine sbInts 1 hW8 ⟨_,hg12,rfl,rfl⟩ rfl rfl rfl rfl ?_;refine sfTo2 ⟨_,hg12,rfl,rfl⟩ rfl rfl ?_;refine sbInts 0 hW8 ⟨_,hg12,rfl,rfl⟩ rfl rfl rfl rfl ?_;refine sc_2 cf60 hW8 (sameInts_any x.args y.args pA qA cA dA w8 (Lay.below hx.out.args hW8.bel) (Lay.below hy.out.args hW8.bel) (by have:=hs.out.2;omega)) ⟨_,hg12,rfl,rfl⟩ rfl rfl rfl ?_;clear hW8;intro w11 hW11;refine sp trivial rfl rfl rfl ?_;refine sa trivial rfl rfl ?_;refine St.nil fun a12 h12=>?_;refine hK5 _ _ ?_;refine wp_ret ?_;with_reducible repeat first | refine of_then_ret ?_ | refine of_block_ret ?_
    have R:x.args=y.args ↔ x=y:=⟨fun h=>MTo.eq_of hc7.out hc10 h,fun e=>by rw [e]⟩;exact ret_tmp (t:=4) h12 rfl rfl ⟨by rw [bdec_congr R],hW11.bel⟩
   rw [hb] at h9;have hc13:¬ (x.regs=y.regs):=fun h=>by rw [bdec_true h] at hb;cases hb
   clear hb;refine St.go h9 ?_;clear h9 a9;refine so hg12 rfl rfl rfl rfl ?_;refine so hg12 rfl rfl rfl rfl ?_;refine so hg12 rfl rfl rfl rfl ?_;refine so hg12 rfl rfl rfl rfl ?_;refine so hg12 rfl rfl rfl rfl ?_;refine spf trivial rfl rfl rfl ?_;refine sa trivial rfl rfl ?_;refine St.nil fun a14 h14=>?_;refine hK5 _ _ ?_;refine wp_ret ?_;with_reducible repeat first | refine of_then_ret ?_ | refine of_block_ret ?_
   have R:¬ x=y:=fun e=>hc13 (by rw [e]);exact ret_tmp (t:=4) h14 rfl rfl ⟨by rw [bdec_false R],hW8.bel⟩
  rw [hb] at h6;have h9:¬ x.block=y.block:=ne_of_beq_false hb;have hc15:¬ x.block=y.block:=h9;clear h9;clear hb;refine St.go h6 ?_;clear h6 a6;refine so hg5 rfl rfl rfl rfl ?_;refine so hg5 rfl rfl rfl rfl ?_;refine so hg5 rfl rfl rfl rfl ?_;refine so hg5 rfl rfl rfl rfl ?_;refine so hg5 rfl rfl rfl rfl ?_;refine spf trivial rfl rfl rfl ?_;refine sm trivial rfl rfl ?_;refine so hg12 rfl rfl rfl rfl ?_;refine so hg12 rfl rfl rfl rfl ?_;refine so hg12 rfl rfl rfl rfl ?_;refine so hg12 rfl rfl rfl rfl ?_;refine so hg12 rfl rfl rfl rfl ?_;refine spf trivial rfl rfl rfl ?_;refine sa trivial rfl rfl ?_;refine St.nil fun a16 h16=>?_;refine hK5 _ _ ?_;refine wp_ret ?_;with_reducible repeat first | refine of_then_ret ?_ | refine of_block_ret ?_
  have R:¬ x=y:=fun e=>hc15 (by rw [e]);exact ret_tmp (t:=4) h16 rfl rfl ⟨by rw [bdec_false R],hW3.bel⟩
theorem sameIns_any {x y : MIns} {i j : IP} {w : World} (hx0 : IIn w All x i) (hy0 : IIn w All y j) (hs0 : x.small) :
    Rd Tryz.prog 58 #[.agg #[.int .i64 x.op,.int .i64 x.a,.int .i64 x.b,.int .i64 x.c,.int .i64 x.k,.int .i64 x.n,.slice i.pR x.regs.length i.cR,.slice i.pA x.args.length i.cA],.agg #[.int .i64 y.op,.int .i64 y.a,.int .i64 y.b,.int .i64 y.c,.int .i64 y.k,.int .i64 y.n,.slice j.pR y.regs.length j.cR,.slice j.pA y.args.length j.cA]] w (.bool (bdec (x=y))):=by
  have hx:Hid _:=hx0;have hy:Hid _:=hy0;have hs:Hid _:=hs0;clear hx0 hy0 hs0;refine fr_enter (n:=59) Tryz.func58 rfl rfl rfl ?_;intro a hF;have hW:=Wd.start w;replace hF:Fr 59 a [(0,.agg #[.int .i64 x.op,.int .i64 x.a,.int .i64 x.b,.int .i64 x.c,.int .i64 x.k,.int .i64 x.n,.slice i.pR x.regs.length i.cR,.slice i.pA x.args.length i.cA]),(1,.agg #[.int .i64 y.op,.int .i64 y.a,.int .i64 y.b,.int .i64 y.c,.int .i64 y.k,.int .i64 y.n,.slice j.pR y.regs.length j.cR,.slice j.pA y.args.length j.cA])]:=hF;refine wp_seq_k fun K1 hK1=>?_;refine rg hF fun ops=>?_;clear hF a;refine sB hW trivial rfl rfl ?_;clear hW;intro w2 B2 hW2 hN;clear hN;refine sB hW2 trivial rfl rfl ?_;clear hW2;intro w3 B3 hW3 hN;clear hN;refine sa trivial rfl rfl ?_;refine St.nil fun a4 h4=>?_;refine hK1 _ _ ?_;refine wp_seq_k fun K5 hK5=>?_;refine fr_region ?_;intro ops hops;have hg5:(ops[5]?).bind (fun o:Oper=>o.dst)=some 10:=hops 5;have hg12:(ops[12]?).bind (fun o:Oper=>o.dst)=some 17:=hops 12;have hg19:(ops[19]?).bind (fun o:Oper=>o.dst)=some 24:=hops 19;have hg26:(ops[26]?).bind (fun o:Oper=>o.dst)=some 31:=hops 26;have hg33:(ops[33]?).bind (fun o:Oper=>o.dst)=some 38:=hops 33;have hg40:(ops[40]?).bind (fun o:Oper=>o.dst)=some 45:=hops 40;have hg47:(ops[47]?).bind (fun o:Oper=>o.dst)=some 52:=hops 47;clear hops;refine St.go h4 ?_;clear h4 a4;refine sfIns0 trivial rfl rfl ?_;refine sbInt 1 hW3 trivial rfl rfl rfl rfl ?_;refine sfIns0 trivial rfl rfl ?_;refine sbInt 0 hW3 trivial rfl rfl rfl rfl ?_;refine seq trivial rfl rfl rfl ?_;refine sm trivial rfl rfl ?_;intro a6 h6;rcases Bool.eq_false_or_eq_true (x.op==y.op) with hb | hb
  ·rw [hb] at h6
   have h9:x.op=y.op:=eq_of_beq hb;have hc7:Hid (x.op=y.op):=h9;clear h9;clear hb;refine St.go h6 ?_;clear h6 a6;refine sfIns1 ⟨_,hg5,rfl,rfl⟩ rfl rfl ?_;refine sbInt 1 hW3 ⟨_,hg5,rfl,rfl⟩ rfl rfl rfl rfl ?_;refine sfIns1 ⟨_,hg5,rfl,rfl⟩ rfl rfl ?_;refine sbInt 0 hW3 ⟨_,hg5,rfl,rfl⟩ rfl rfl rfl rfl ?_;refine seq ⟨_,hg5,rfl,rfl⟩ rfl rfl rfl ?_;refine sp trivial rfl rfl rfl ?_;refine sm trivial rfl rfl ?_;intro a8 h8;rcases Bool.eq_false_or_eq_true (x.a==y.a) with hb | hb
   ·rw [hb] at h8
    have h9:x.a=y.a:=eq_of_beq hb;have hc9:Hid (x.a=y.a):=h9;clear h9;clear hb;refine St.go h8 ?_;clear h8 a8;refine sfIns2 ⟨_,hg12,rfl,rfl⟩ rfl rfl ?_;refine sbInt 1 hW3 ⟨_,hg12,rfl,rfl⟩ rfl rfl rfl rfl ?_;refine sfIns2 ⟨_,hg12,rfl,rfl⟩ rfl rfl ?_;refine sbInt 0 hW3 ⟨_,hg12,rfl,rfl⟩ rfl rfl rfl rfl ?_;refine seq ⟨_,hg12,rfl,rfl⟩ rfl rfl rfl ?_;refine sp trivial rfl rfl rfl ?_;refine sm trivial rfl rfl ?_;intro a10 h10;rcases Bool.eq_false_or_eq_true (x.b==y.b) with hb | hb
    ·rw [hb] at h10
     have h9:x.b=y.b:=eq_of_beq hb;have hc11:Hid (x.b=y.b):=h9;clear h9;clear hb;refine St.go h10 ?_;clear h10 a10;refine sfIns3 ⟨_,hg19,rfl,rfl⟩ rfl rfl ?_;refine sbInt 1 hW3 ⟨_,hg19,rfl,rfl⟩ rfl rfl rfl rfl ?_;refine sfIns3 ⟨_,hg19,rfl,rfl⟩ rfl rfl ?_;refine sbInt 0 hW3 ⟨_,hg19,rfl,rfl⟩ rfl rfl rfl rfl ?_;refine seq ⟨_,hg19,rfl,rfl⟩ rfl rfl rfl ?_;refine sp trivial rfl rfl rfl ?_;refine sm trivial rfl rfl ?_;intro a12 h12;rcases Bool.eq_false_or_eq_true (x.c==y.c) with hb | hb
     ·rw [hb] at h12
      have h9:x.c=y.c:=eq_of_beq hb;have hc13:Hid (x.c=y.c):=h9;clear h9;clear hb;refine St.go h12 ?_;clear h12 a12;refine sfIns4 ⟨_,hg26,rfl,rfl⟩ rfl rfl ?_;refine sbInt 1 hW3 ⟨_,hg26,rfl,rfl⟩ rfl rfl rfl rfl ?_;refine sfIns4 ⟨_,hg26,rfl,rfl⟩ rfl rfl ?_;refine sbInt 0 hW3 ⟨_,hg26,rfl,rfl⟩ rfl rfl rfl rfl ?_;refine seq ⟨_,hg26,rfl,rfl⟩ rfl rfl rfl ?_;refine sp trivial rfl rfl rfl ?_;refine sm trivial rfl rfl ?_;intro a14 h14;rcases Bool.eq_false_or_eq_true (x.k==y.k) with hb | hb
      ·rw [hb] at h14
       have h9:x.k=y.k:=eq_of_beq hb;have hc15:Hid (x.k=y.k):=h9;clear h9;clear hb;refine St.go h14 ?_;clear h14 a14;refine sfIns5 ⟨_,hg33,rfl,rfl⟩ rfl rfl ?_;refine sbInt6 1 hW3 ⟨_,hg33,rfl,rfl⟩ rfl rfl rfl rfl ?_;refine sfIns5 ⟨_,hg33,rfl,rfl⟩ rfl rfl ?_;refine sbInt6 0 hW3 ⟨_,hg33,rfl,rfl⟩ rfl rfl rfl rfl ?_;refine seq6 ⟨_,hg33,rfl,rfl⟩ rfl rfl rfl ?_;refine sp trivial rfl rfl rfl ?_;refine sm trivial rfl rfl ?_;intro a16 h16;rcases Bool.eq_false_or_eq_true (x.n==y.n) with hb | hb
       ·rw [hb] at h16
        have h9:x.n=y.n:=eq_of_beq hb;have hc17:Hid (x.n=y.n):=h9;clear h9;clear hb;refine St.go h16 ?_;clear h16 a16;refine sfIns6 ⟨_,hg40,rfl,rfl⟩ rfl rfl ?_;refine sbInts 1 hW3 ⟨_,hg40,rfl,rfl⟩ rfl rfl rfl rfl ?_;refine sfIns6 ⟨_,hg40,rfl,rfl⟩ rfl rfl ?_;refine sbInts 0 hW3 ⟨_,hg40,rfl,rfl⟩ rfl rfl rfl rfl ?_;refine sc_2 cf60 hW3 (sameInts_any x.regs y.regs i.pR j.pR i.cR j.cR w3 (Lay.below hx.out.regs hW3.bel) (Lay.below hy.out.regs hW3.bel) (by have:=hs.out.1;omega)) ⟨_,hg40,rfl,rfl⟩ rfl rfl rfl ?_;clear hW3;intro w18 hW18;refine sp trivial rfl rfl rfl ?_;refine sm trivial rfl rfl ?_;intro a19 h19;rcases Bool.eq_false_or_eq_true (bdec (x.regs=y.regs)) with hb | hb
        ·rw [hb] at h19
         have hc20:(x.regs=y.regs):=bdec_iff.1 hb;clear hb;refine St.go h19 ?_;clear h19 a19;refine sfIns7 ⟨_,hg47,rfl,rfl⟩ rfl rfl ?_;refine sbInts 1 hW18 ⟨_,hg47,rfl,rfl⟩ rfl rfl rfl rfl ?_;refine sfIns7 ⟨_,hg47,rfl,rfl⟩ rfl rfl ?_;refine sbInts 0 hW18 ⟨_,hg47,rfl,rfl⟩ rfl rfl rfl rfl ?_;refine sc_2 cf60 hW18 (sameInts_any x.args y.args i.pA j.pA i.cA j.cA w18 (Lay.below hx.out.args hW18.bel) (Lay.below hy.out.args hW18.bel) (by have:=hs.out.2;omega)) ⟨_,hg47,rfl,rfl⟩ rfl rfl rfl ?_;clear hW18;intro w21 hW21;refine sp trivial rfl rfl rfl ?_;refine sa trivial rfl rfl ?_;refine St.nil fun a22 h22=>?_;refine hK5 _ _ ?_;refine wp_ret ?_;with_reducible repeat first | refine of_then_ret ?_ | refine of_block_ret ?_
         have R:x.args=y.args ↔ x=y:=⟨fun h=>MIns.eq_of hc7.out hc9.out hc11.out hc13.out hc15.out hc17.out hc20 h,fun e=>by rw [e]⟩;exact ret_tmp (t:=4) h22 rfl rfl ⟨by rw [bdec_congr R],hW21.bel⟩
        rw [hb] at h19;have hc23:¬ (x.regs=y.regs):=fun h=>by rw [bdec_true h] at hb;cases hb
        clear hb;refine St.go h19 ?_;clear h19 a19;refine so hg47 rfl rfl rfl rfl ?_;refine so hg47 rfl rfl rfl rfl ?_;refine so hg47 rfl rfl rfl rfl ?_;refine so hg47 rfl rfl rfl rfl ?_;refine so hg47 rfl rfl rfl rfl ?_;refine spf trivial rfl rfl rfl ?_;refine sa trivial rfl rfl ?_;refine St.nil fun a24 h24=>?_;refine hK5 _ _ ?_;refine wp_ret ?_;with_reducible repeat first | refine of_then_ret ?_ | refine of_block_ret ?_
        have R:¬ x=y:=fun e=>hc23 (by rw [e]);exact ret_tmp (t:=4) h24 rfl rfl ⟨by rw [bdec_false R],hW18.bel⟩
       rw [hb] at h16;have h9:¬ x.n=y.n:=ne_of_beq_false hb;have hc25:¬ x.n=y.n:=h9;clear h9;clear hb;refine St.go h16 ?_;clear h16 a16;refine so hg40 rfl rfl rfl rfl ?_;refine so hg40 rfl rfl rfl rfl ?_;refine so hg40 rfl rfl rfl rfl ?_;refine so hg40 rfl rfl rfl rfl ?_;refine so hg40 rfl rfl rfl rfl ?_;refine spf trivial rfl rfl rfl ?_;refine sm trivial rfl rfl ?_;refine so hg47 rfl rfl rfl rfl ?_;refine so hg47 rfl rfl rfl rfl ?_;refine so hg47 rfl rfl rfl rfl ?_;refine so hg47 rfl rfl rfl rfl ?_;refine so hg47 rfl rfl rfl rfl ?_;refine spf trivial rfl rfl rfl ?_;refine sa trivial rfl rfl ?_;refine St.nil fun a26 h26=>?_;refine hK5 _ _ ?_;refine wp_ret ?_;with_reducible repeat first | refine of_then_ret ?_ | refine of_block_ret ?_
       have R:¬ x=y:=fun e=>hc25 (by rw [e]);exact ret_tmp (t:=4) h26 rfl rfl ⟨by rw [bdec_false R],hW3.bel⟩
      rw [hb] at h14;have h9:¬ x.k=y.k:=ne_of_beq_false hb;have hc27:¬ x.k=y.k:=h9;clear h9;clear hb;refine St.go h14 ?_;clear h14 a14;refine so hg33 rfl rfl rfl rfl ?_;refine so hg33 rfl rfl rfl rfl ?_;refine so hg33 rfl rfl rfl rfl ?_;refine so hg33 rfl rfl rfl rfl ?_;refine so hg33 rfl rfl rfl rfl ?_;refine spf trivial rfl rfl rfl ?_;refine sm trivial rfl rfl ?_;refine so hg40 rfl rfl rfl rfl ?_;refine so hg40 rfl rfl rfl rfl ?_;refine so hg40 rfl rfl rfl rfl ?_;refine so hg40 rfl rfl rfl rfl ?_;refine so hg40 rfl rfl rfl rfl ?_;refine spf trivial rfl rfl rfl ?_;refine sm trivial rfl rfl ?_;refine so hg47 rfl rfl rfl rfl ?_;refine so hg47 rfl rfl rfl rfl ?_;refine so hg47 rfl rfl rfl rfl ?_;refine so hg47 rfl rfl rfl rfl ?_;refine so hg47 rfl rfl rfl rfl ?_;refine spf trivial rfl rfl rfl ?_;refine sa trivial rfl rfl ?_;refine St.nil fun a28 h28=>?_;refine hK5 _ _ ?_;refine wp_ret ?_;with_reducible repeat first | refine of_then_ret ?_ | refine of_block_ret ?_
      have R:¬ x=y:=fun e=>hc27 (by rw [e]);exact ret_tmp (t:=4) h28 rfl rfl ⟨by rw [bdec_false R],hW3.bel⟩
     rw [hb] at h12;have h9:¬ x.c=y.c:=ne_of_beq_false hb;have hc29:¬ x.c=y.c:=h9;clear h9;clear hb;refine St.go h12 ?_;clear h12 a12;refine so hg26 rfl rfl rfl rfl ?_;refine so hg26 rfl rfl rfl rfl ?_;refine so hg26 rfl rfl rfl rfl ?_;refine so hg26 rfl rfl rfl rfl ?_;refine so hg26 rfl rfl rfl rfl ?_;refine spf trivial rfl rfl rfl ?_;refine sm trivial rfl rfl ?_;refine so hg33 rfl rfl rfl rfl ?_;refine so hg33 rfl rfl rfl rfl ?_;refine so hg33 rfl rfl rfl rfl ?_;refine so hg33 rfl rfl rfl rfl ?_;refine so hg33 rfl rfl rfl rfl ?_;refine spf trivial rfl rfl rfl ?_;refine sm trivial rfl rfl ?_;refine so hg40 rfl rfl rfl rfl ?_;refine so hg40 rfl rfl rfl rfl ?_;refine so hg40 rfl rfl rfl rfl ?_;refine so hg40 rfl rfl rfl rfl ?_;refine so hg40 rfl rfl rfl rfl ?_;refine spf trivial rfl rfl rfl ?_;refine sm trivial rfl rfl ?_;refine so hg47 rfl rfl rfl rfl ?_;refine so hg47 rfl rfl rfl rfl ?_;refine so hg47 rfl rfl rfl rfl ?_;refine so hg47 rfl rfl rfl rfl ?_;refine so hg47 rfl rfl rfl rfl ?_;refine spf trivial rfl rfl rfl ?_;refine sa trivial rfl rfl ?_;refine St.nil fun a30 h30=>?_;refine hK5 _ _ ?_;refine wp_ret ?_;with_reducible repeat first | refine of_then_ret ?_ | refine of_block_ret ?_
     have R:¬ x=y:=fun e=>hc29 (by rw [e]);exact ret_tmp (t:=4) h30 rfl rfl ⟨by rw [bdec_false R],hW3.bel⟩
    rw [hb] at h10;have h9:¬ x.b=y.b:=ne_of_beq_false hb;have hc31:¬ x.b=y.b:=h9;clear h9;clear hb;refine St.go h10 ?_;clear h10 a10;refine so hg19 rfl rfl rfl rfl ?_;refine so hg19 rfl rfl rfl rfl ?_;refine so hg19 rfl rfl rfl rfl ?_;refine so hg19 rfl rfl rfl rfl ?_;refine so hg19 rfl rfl rfl rfl ?_;refine spf trivial rfl rfl rfl ?_;refine sm trivial rfl rfl ?_;refine so hg26 rfl rfl rfl rfl ?_;refine so hg26 rfl rfl rfl rfl ?_;refine so hg26 rfl rfl rfl rfl ?_;refine so hg26 rfl rfl rfl rfl ?_;refine so hg26 rfl rfl rfl rfl ?_;refine spf trivial rfl rfl rfl ?_;refine sm trivial rfl rfl ?_;refine so hg33 rfl rfl rfl rfl ?_;refine so hg33 rfl rfl rfl rfl ?_;refine so hg33 rfl rfl rfl rfl ?_;refine so hg33 rfl rfl rfl rfl ?_;refine so hg33 rfl rfl rfl rfl ?_;refine spf trivial rfl rfl rfl ?_;refine sm trivial rfl rfl ?_;refine so hg40 rfl rfl rfl rfl ?_;refine so hg40 rfl rfl rfl rfl ?_;refine so hg40 rfl rfl rfl rfl ?_;refine so hg40 rfl rfl rfl rfl ?_;refine so hg40 rfl rfl rfl rfl ?_;refine spf trivial rfl rfl rfl ?_;refine sm trivial rfl rfl ?_;refine so hg47 rfl rfl rfl rfl ?_;refine so hg47 rfl rfl rfl rfl ?_;refine so hg47 rfl rfl rfl rfl ?_;refine so hg47 rfl rfl rfl rfl ?_;refine so hg47 rfl rfl rfl rfl ?_;refine spf trivial rfl rfl rfl ?_;refine sa trivial rfl rfl ?_;refine St.nil fun a32 h32=>?_;refine hK5 _ _ ?_;refine wp_ret ?_;with_reducible repeat first | refine of_then_ret ?_ | refine of_block_ret ?_
    have R:¬ x=y:=fun e=>hc31 (by rw [e]);exact ret_tmp (t:=4) h32 rfl rfl ⟨by rw [bdec_false R],hW3.bel⟩
   rw [hb] at h8;have h9:¬ x.a=y.a:=ne_of_beq_false hb;have hc33:¬ x.a=y.a:=h9;clear h9;clear hb;refine St.go h8 ?_;clear h8 a8;refine so hg12 rfl rfl rfl rfl ?_;refine so hg12 rfl rfl rfl rfl ?_;refine so hg12 rfl rfl rfl rfl ?_;refine so hg12 rfl rfl rfl rfl ?_;refine so hg12 rfl rfl rfl rfl ?_;refine spf trivial rfl rfl rfl ?_;refine sm trivial rfl rfl ?_;refine so hg19 rfl rfl rfl rfl ?_;refine so hg19 rfl rfl rfl rfl ?_;refine so hg19 rfl rfl rfl rfl ?_;refine so hg19 rfl rfl rfl rfl ?_;refine so hg19 rfl rfl rfl rfl ?_;refine spf trivial rfl rfl rfl ?_;refine sm trivial rfl rfl ?_;refine so hg26 rfl rfl rfl rfl ?_;refine so hg26 rfl rfl rfl rfl ?_;refine so hg26 rfl rfl rfl rfl ?_;refine so hg26 rfl rfl rfl rfl ?_;refine so hg26 rfl rfl rfl rfl ?_;refine spf trivial rfl rfl rfl ?_;refine sm trivial rfl rfl ?_;refine so hg33 rfl rfl rfl rfl ?_;refine so hg33 rfl rfl rfl rfl ?_;refine so hg33 rfl rfl rfl rfl ?_;refine so hg33 rfl rfl rfl rfl ?_;refine so hg33 rfl rfl rfl rfl ?_;refine spf trivial rfl rfl rfl ?_;refine sm trivial rfl rfl ?_;refine so hg40 rfl rfl rfl rfl ?_;refine so hg40 rfl rfl rfl rfl ?_;refine so hg40 rfl rfl rfl rfl ?_;refine so hg40 rfl rfl rfl rfl ?_;refine so hg40 rfl rfl rfl rfl ?_;refine spf trivial rfl rfl rfl ?_;refine sm trivial rfl rfl ?_;refine so hg47 rfl rfl rfl rfl ?_;refine so hg47 rfl rfl rfl rfl ?_;refine so hg47 rfl rfl rfl rfl ?_;refine so hg47 rfl rfl rfl rfl ?_;refine so hg47 rfl rfl rfl rfl ?_;refine spf trivial rfl rfl rfl ?_;refine sa trivial rfl rfl ?_;refine St.nil fun a34 h34=>?_;refine hK5 _ _ ?_;refine wp_ret ?_;with_reducible repeat first | refine of_then_ret ?_ | refine of_block_ret ?_
   have R:¬ x=y:=fun e=>hc33 (by rw [e]);exact ret_tmp (t:=4) h34 rfl rfl ⟨by rw [bdec_false R],hW3.bel⟩
  rw [hb] at h6;have h9:¬ x.op=y.op:=ne_of_beq_false hb;have hc35:¬ x.op=y.op:=h9;clear h9;clear hb;refine St.go h6 ?_;clear h6 a6;refine so hg5 rfl rfl rfl rfl ?_;refine so hg5 rfl rfl rfl rfl ?_;refine so hg5 rfl rfl rfl rfl ?_;refine so hg5 rfl rfl rfl rfl ?_;refine so hg5 rfl rfl rfl rfl ?_;refine spf trivial rfl rfl rfl ?_;refine sm trivial rfl rfl ?_;refine so hg12 rfl rfl rfl rfl ?_;refine so hg12 rfl rfl rfl rfl ?_;refine so hg12 rfl rfl rfl rfl ?_;refine so hg12 rfl rfl rfl rfl ?_;refine so hg12 rfl rfl rfl rfl ?_;refine spf trivial rfl rfl rfl ?_;refine sm trivial rfl rfl ?_;refine so hg19 rfl rfl rfl rfl ?_;refine so hg19 rfl rfl rfl rfl ?_;refine so hg19 rfl rfl rfl rfl ?_;refine so hg19 rfl rfl rfl rfl ?_;refine so hg19 rfl rfl rfl rfl ?_;refine spf trivial rfl rfl rfl ?_;refine sm trivial rfl rfl ?_;refine so hg26 rfl rfl rfl rfl ?_;refine so hg26 rfl rfl rfl rfl ?_;refine so hg26 rfl rfl rfl rfl ?_;refine so hg26 rfl rfl rfl rfl ?_;refine so hg26 rfl rfl rfl rfl ?_;refine spf trivial rfl rfl rfl ?_;refine sm trivial rfl rfl ?_;refine so hg33 rfl rfl rfl rfl ?_;refine so hg33 rfl rfl rfl rfl ?_;refine so hg33 rfl rfl rfl rfl ?_;refine so hg33 rfl rfl rfl rfl ?_;refine so hg33 rfl rfl rfl rfl ?_;refine spf trivial rfl rfl rfl ?_;refine sm trivial rfl rfl ?_;refine so hg40 rfl rfl rfl rfl ?_;refine so hg40 rfl rfl rfl rfl ?_;refine so hg40 rfl rfl rfl rfl ?_;refine so hg40 rfl rfl rfl rfl ?_;refine so hg40 rfl rfl rfl rfl ?_;refine spf trivial rfl rfl rfl ?_;refine sm trivial rfl rfl ?_;refine so hg47 rfl rfl rfl rfl ?_;refine so hg47 rfl rfl rfl rfl ?_;refine so hg47 rfl rfl rfl rfl ?_;refine so hg47 rfl rfl rfl rfl ?_;refine so hg47 rfl rfl rfl rfl ?_;refine spf trivial rfl rfl rfl ?_;refine sa trivial rfl rfl ?_;refine St.nil fun a36 h36=>?_;refine hK5 _ _ ?_;refine wp_ret ?_;with_reducible repeat first | refine of_then_ret ?_ | refine of_block_ret ?_
  have R:¬ x=y:=fun e=>hc35 (by rw [e]);exact ret_tmp (t:=4) h36 rfl rfl ⟨by rw [bdec_false R],hW3.bel⟩
end Go.Proofs.YtjdcjfpfpaplladGreat
namespace Go.Proofs.YtjdcjfpfpaplladGreat
open Go.ChangeShapes Go.WideShapes Go.ChangeAt Go.RowKit
set_option linter.unusedVariables false
theorem op_cases (op : Int) : op = 1 ∨ op = 2 ∨ op = 3 ∨ op = 4 ∨ op = 5 ∨ op = 6 ∨ op = 7 ∨ op = 8 ∨ op = 9 ∨ op = 10 ∨ op = 11 ∨ op = 12 ∨ op = 13 ∨ op = 14 ∨ (op ≠ 1 ∧ op ≠ 2 ∧ op ≠ 3 ∧ op ≠ 4 ∧ op ≠ 5 ∧ op ≠ 6 ∧ op ≠ 7 ∧ op ≠ 8 ∧ op ≠ 9 ∧ op ≠ 10 ∧ op ≠ 11 ∧ op ≠ 12 ∧ op ≠ 13 ∧ op ≠ 14) := by omega
def insForm (funcs : Nat) (op a b c k n : Int) (rl al : Nat) : Int :=
  match fieldsOf op with
  | none=>3
  | some (fa,fb,fc,fk,fn,fr,fs) =>
    if (!fa && a != 0) || (!fb && b != 0) || (!fc && c != 0) || (!fk && k != 0) || (!fn && n != 0) || (!fr && decide (0<rl)) || (!fs && decide (0<al)) then 4
    else if op=2∧(k<1∨9<k) then 1
    else if op=5∧8<al then 2
    else if (op=6∨op=7)∧(k<0∨7<k) then 1
    else if op=14∧(k<0∨(funcs:Int)≤k) then 1
    else if op=14∧(6<rl∨8<al) then 2
    else 0
theorem MIns.form_eq (funcs : Nat) (x : MIns) : x.form funcs = insForm funcs x.op x.a x.b x.c x.k x.n x.regs.length x.args.length := by
  unfold MIns.form MIns.formless insForm
  cases fieldsOf x.op with
  | none=>rfl
  | some p=>obtain ⟨a,b,c,k,n,r,s⟩:=p;rfl
end Go.Proofs.YtjdcjfpfpaplladGreat
