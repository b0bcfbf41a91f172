import Derived.Test.YtilanenoliopbaeGreatP1
import Derived.Deep.RegionWith
import Derived.SizedLaws
set_option maxHeartbeats 16000000
set_option maxRecDepth 100000
namespace Go.Proofs.YtilanenoliopbaeGreat
open Go.ChangeShapes Go.WideShapes Go.ChangeAt Go.RowKit
set_option linter.unusedSimpArgs false
set_option linter.unusedVariables false
def roomC (n m : Nat) : Int := if 80 < n + m then 2 else 0
theorem sroom_any {w : World} {b : Nat} {O A : Nat → Prop} {s : JSt} (n : Nat) (hn : n ≤ 1000) (hL : s.L.length ≤ 80) (h : SAt w b O A s) :
    Calls Tryz.prog 71 #[.pointer (some ⟨b,0,none⟩),.int .i64 n] w fun e w'=>Asks (roomC s.L.length n) VNone e∧w'=w:=by
  obtain ⟨pm,cm,hh,a1,c1,a2,c2,a3,c3,aL,cL,RR⟩:=h.read;obtain ⟨-,-,-,-,-,-,q6⟩:=RR.cells;clear h RR;generalize s.L.length=nl at q6 hL ⊢;by_cases hs:80<nl+n
  · have E:Hid (roomC nl n=2):=if_pos hs;have hs':decide ((nl:Int)+n≤80)=false:=decide_eq_false (by omega);clear hs;go_enter Tryz.func71,Tryz.ntmps71
    go_wp2_with fail
    refine (smust_no _ 2).mono ?_;rintro e' w' ⟨rfl,hw⟩;subst hw;exact ⟨rfl,Asks.bad E.out (by decide),rfl⟩
  · have E:Hid (roomC nl n=0):=if_neg hs;have hs':decide ((nl:Int)+n≤80)=true:=decide_eq_true (by omega);clear hs;go_enter Tryz.func71,Tryz.ntmps71
    go_wp2_with (go_at_call 72;refine (smust_ok _ _).mono ?_;rintro e' w' ⟨rfl,hw⟩;have hw:=hw.symm;subst hw)
    exact bodyPost_end (v:=.tuple #[]) (by simp [results,Tryz.results71,go_sem]) rfl ⟨Asks.good E.out rfl,rfl⟩
def Does (w : World) (b : Nat) (O A : Nat → Prop) (s s' : JSt) (c : Int) (e : Ending) (w' : World) : Prop :=
  (c=0∧e=.returned (.tuple #[])∧STo w w' b O A s')∨(c≠0∧e=.panicked (gaveJ c)∧STo w w' b O A s)
theorem STo.of_below {w w' : World} {b : Nat} {O A : Nat → Prop} {s : JSt} (h : SAt w b O A s) (hb : Below w.heap.size w w') : STo w w' b O A s := (STo.same (h.below hb)).after hb
theorem Does.after {w w1 w' : World} {b : Nat} {O A : Nat → Prop} {s s' : JSt} {c : Int} {e : Ending} (h : Does w1 b O A s s' c e w') (hb : Below w.heap.size w w1) : Does w b O A s s' c e w' := by
  rcases h with ⟨h1,h2,h3⟩ | ⟨h1,h2,h3⟩
  · exact .inl ⟨h1,h2,h3.after hb⟩
  · exact .inr ⟨h1,h2,h3.after hb⟩
theorem Does.bad {w w' : World} {b : Nat} {O A : Nat → Prop} {s s' : JSt} {c d : Int} (h : c = d) (hd : d ≠ 0) (hs : STo w w' b O A s) : Does w b O A s s' c (.panicked (gaveJ d)) w' := .inr ⟨by omega, by rw [h], hs⟩
theorem smakes_any {w : World} {b : Nat} {O A : Nat → Prop} {s : JSt} {l : List (TT 6)} {p : Option Addr} {n c : Nat} (hn : l.length = n) (hn2 : n ≤ 8) (hl : (typesL 6).In w (fun g => ¬ A g) l [.slice p n c]) (hL : s.L.length ≤ 80) (hA : ∀ k, A k → k < w.heap.size) (h : SAt w b O A s) :
    Calls Tryz.prog 46 #[.pointer (some ⟨b,0,none⟩),.slice p n c] w fun e w'=>Does w b O A s { s with L:=s.L++l } (roomC s.L.length n) e w':=by
  obtain ⟨i0,hi,hz0,hz1,hz2⟩:=pInfoT;have H:=hid_of h;have HLB:=hid_of hl;have HN:=hid_of hn;have C:=hid_of (sroom_any n (by omega) hL h);have HAA:=hid_of hA;clear h hl hn hA;by_cases hs:80<s.L.length+n
  · rw [show roomC s.L.length n=2 from if_pos hs] at C ⊢;clear hs;go_enter Tryz.func46,Tryz.ntmps46
    go_wp2_with fail
    refine C.out.mono ?_;rintro e' w' ⟨⟨hc,-⟩ | ⟨hc,rfl⟩,hw⟩
    · cases hc
    subst hw;exact ⟨rfl,.inr ⟨by decide,rfl,STo.same H.out⟩⟩
  rw [show roomC s.L.length n=0 from if_neg hs] at C ⊢;obtain ⟨aL,cL,xs,q6,f6,hle,how,hpush⟩:=H.out.pushL HAA.out;have HPU:=hid_of hpush;have HOW:=hid_of how
  have C2:Hid (Calls Tryz.prog 71 #[.pointer (some ⟨b,0,none⟩),.int .i64 n] w fun e w'=>e=.returned (.tuple #[])∧w'=w):=C.out.mono (fun e w' h=>by
    rcases h with ⟨⟨-,x,rfl,hx⟩ | ⟨hc,-⟩,hw⟩
    · exact ⟨by rw [hx],hw⟩
    · exact absurd rfl hc)
  clear hpush how C;by_cases hn0:n=0
  · subst hn0;have hl0:l=[]:=List.length_eq_zero_iff.1 HN.out;subst hl0
    have ha:Hid (∀ (t:TypeId) (wx:World),(Builtin.append_ #[33,33] t #[.slice aL s.L.length cL,.slice p 0 c]).run Tryz.prog wx=.ok (.slice aL s.L.length cL) wx):=fun (t:TypeId) (wx:World)=>run_append_nothing (P:=Tryz.prog) wx 33 33 t 65 i0 pUnderT hi aL s.L.length cL hle (.slice p 0 c) (by cases p with
      | none=>exact Src.ofNil wx pUnderT c
      | some ad=>exact Src.ofSlice wx pUnderT ad 0 c [] (by simp) (fun j u h=>by simp at h) (fun u h=>by cases h))
    have HZ:Hid (STo w (w.setCell ⟨b,6,none⟩ (.slice aL s.L.length cL)) b O A { s with L:=s.L++[] }):=by
      have e:∀ k,(w.setCell ⟨b,6,none⟩ (.slice aL s.L.length cL)).heap[k]?=w.heap[k]?:=fun k=>H.out.same6 q6 k;have hb:Below w.heap.size w (w.setCell ⟨b,6,none⟩ (.slice aL s.L.length cL)):=⟨rfl,rfl,rfl,by simp,fun k _=>e k⟩;rw [List.append_nil];exact STo.of_below H.out hb
    clear HPU HOW HLB;generalize s.L.length=nL at q6 ha HZ hL hle hs;go_enter Tryz.func46,Tryz.ntmps46
    go_wp2_with (first | (go_at_call 71;refine (C2.out).mono ?_;rintro e w' ⟨rfl,hw⟩;have hw:=hw.symm;subst hw) | (at_builtin;refine wpList_append_no rfl (.tmp 12) (.tmp 13) 33 rfl (.slice aL nL cL) (.slice p 0 c) rfl rfl (ha.out _ _) ?_))
    exact bodyPost_end (v:=.tuple #[]) (by simp [results,Tryz.results46,go_sem]) rfl (.inl ⟨rfl,rfl,HZ.out⟩)
  · obtain ⟨g0,o0,rfl⟩:∃ g0 o0,p=some ⟨g0,o0,none⟩:=by
      obtain ⟨g,o,dd,e,-⟩:=Lay.list_at HLB.out (List.getElem?_eq_getElem (show 0<l.length by have:=HN.out;omega));exact ⟨g,o,e⟩
    obtain ⟨ds,d1,d2,d3,d4⟩:=Lay.flat HLB.out (fun y cs hy=>by obtain ⟨ya,yc,e,-⟩:=hy;subst e;exact pOneT _ _ _ _ _);have d1':ds.length=n*3:=by rw [← HN.out];exact d1
    have HD1:=hid_of d1';have HD2:=hid_of d2;have HD3:=hid_of d3
    have HPU2:Hid (∀ w9 g cap2,w9.ownsRow 0 65 3 (.slice (some ⟨g,0,none⟩) (s.L.length+n) cap2) (s.L.length+n) (xs++ds)→w.grownBy w9 (Value.slice aL s.L.length cL).ownBlock→((Value.slice aL s.L.length cL).ownBlock=some g∨g=w.heap.size)→g<w9.heap.size→w9.cell? ⟨b,6,none⟩=some (.slice aL s.L.length cL)∧w9.frozen? ⟨b,6,none⟩=false∧STo w (w9.setCell ⟨b,6,none⟩ (.slice (some ⟨g,0,none⟩) (s.L.length+n) cap2)) b O A { s with L:=s.L++l }):=by
      intro w9 g cap2 r1 r2 r3 r4;rw [← HN.out] at r1 ⊢;exact HPU.out w9 g cap2 l ds d1 r1 r2 r3 r4 d4
    clear HPU HLB d1 d1' d2 d3 d4;have HSZ:Hid (0≤w.heap.size):=Nat.zero_le _;have hnl:s.L.length+n≤80:=by omega
    have hn1:0<n:=by omega
    generalize s.L.length=nL at q6 HOW HPU2 hL hle hs hnl;go_enter Tryz.func46,Tryz.ntmps46
    go_wp2_with (first | (go_at_call 71;refine (C2.out).mono ?_;rintro e w' ⟨rfl,hw⟩;have hw:=hw.symm;subst hw) | (at_builtin;refine wpList_append_lies _ rfl (.tmp 12) (.tmp 13) 33 rfl 0 65 i0 (.agg #[.int .i64 0,.int .i64 0,.slice none 0 0]) 3 40 pUnderT hi hz0 hz1 hz2 rfl (by decide) _ _ _ rfl HOW.out ⟨g0,o0,none⟩ n c ds rfl HD1.out HD2.out HD3.out hn1 (by unfold maxLen;omega) (by omega) HSZ.out w.heap.size rfl ?_))
    intro g2 cap2 w9 r1 r2 r3 r4;obtain ⟨q69,f69,z9⟩:=HPU2.out w9 g2 cap2 r1 r2 r3 r4;have Z9:=hid_of z9;clear r1 r2 r3 r4 HPU2 HOW z9 q6 f6;go_wp2
    exact bodyPost_end (v:=.tuple #[]) (by simp [results,Tryz.results46,go_sem]) rfl (.inl ⟨rfl,rfl,Z9.out⟩)
theorem one_row {w : World} {A : Nat → Prop} (hA : ∀ k, A k → k < w.heap.size) {t : TT 6} {p : Option Addr} {c d : Nat} (ht : TIn w (fun g => ¬ A g) t p) (hok : t.ok) :
    (typesL 6).In (w.alloc (.cells #[.int .i64 t.kind,.int .i64 t.r,.slice p t.len c] 65)) (fun g=>¬ A g) [t] [.slice (some ⟨w.heap.size,0,none⟩) 1 d]:=by
  refine ⟨some ⟨w.heap.size,0,none⟩,d,rfl,fun i x hx=>?_⟩;have hi:i<1:=by simpa using (List.getElem?_eq_some_iff.1 hx).1
  have hi0:i=0:=by omega
  subst hi0;simp at hx
  subst hx;have hb:=blockNew w #[.int .i64 t.kind,.int .i64 t.r,.slice p t.len c] 65;refine ⟨w.heap.size,0,[.int .i64 t.kind,.int .i64 t.r,.slice p t.len c],rfl,fun e=>by have:=hA _ e;omega,lt_of_block hb,fun j hj=>?_,p,c,rfl,ht.alloc _,hok⟩;have hj:j<3:=hj;match j,hj with
  | 0,_=>exact cellOf hb 0 _ rfl
  | 1,_=>exact cellOf hb 1 _ rfl
  | 2,_=>exact cellOf hb 2 _ rfl
  | j+3,h=>exact absurd h (by omega)
theorem sint_any {w : World} {b : Nat} {O A : Nat → Prop} {s : JSt} (hL : s.L.length ≤ 80) (hA : ∀ k, A k → k < w.heap.size) (h : SAt w b O A s) :
    Calls Tryz.prog 41 #[.pointer (some ⟨b,0,none⟩)] w fun e w'=>Does w b O A s { s with L:=s.L++[tInt] } (roomC s.L.length 1) e w':=by
  have C:Hid (∀ d,Calls Tryz.prog 46 #[.pointer (some ⟨b,0,none⟩),.slice (some ⟨w.heap.size,0,none⟩) 1 d] (w.alloc (.cells #[.int .i64 1,.int .i64 0,.slice none 0 0] 65)) fun e w'=>Does w b O A s { s with L:=s.L++[tInt] } (roomC s.L.length 1) e w'):=fun d=>by
    have b1:=bel1 w (.cells #[.int .i64 1,.int .i64 0,.slice none 0 0] 65);refine (smakes_any (l:=[tInt]) rfl (by decide) (one_row (t:=tInt) (p:=none) (c:=0) (d:=d) hA (fun i x hx=>by simp [tInt] at hx) (by unfold TT.ok;simp [tInt])) hL (fun k hk=>Nat.lt_of_lt_of_le (hA k hk) b1.size) (h.below b1)).mono (fun e w' hd=>hd.after b1)
  clear h hL hA;go_enter Tryz.func41,Tryz.ntmps41
  go_wp2_with fail
  refine (C.out _).mono ?_;rintro e' w' hd;have HD:=hid_of hd;rcases hd with ⟨h1,rfl,h3⟩ | ⟨h1,rfl,h3⟩
  rotate_left
  · exact ⟨rfl,HD.out⟩
  clear h1 h3;go_wp2
  exact bodyPost_end (v:=.tuple #[]) (by simp [results,Tryz.results41,go_sem]) rfl HD.out
theorem sleaf_in (w : World) (Q : Nat → Prop) (k r : Int) : TIn (n := 6) w Q (mkT k r []) none := fun i x hx => by simp at hx
theorem sleaf_ok {k r : Int} (h : -9223372036854775808 ≤ r ∧ r ≤ 9223372036854775807) (h2 : -9223372036854775808 ≤ k ∧ k ≤ 9223372036854775807) : TT.ok (n := 6) (mkT k r []) := by
  unfold TT.ok;simp
  omega
theorem smakes_leaf {w : World} {b : Nat} {O A : Nat → Prop} {s : JSt} (k r : Int) (hr : 0 ≤ r ∧ r ≤ 1000) (hk : 0 ≤ k ∧ k ≤ 4) (d : Nat) (hL : s.L.length ≤ 80) (hA : ∀ k, A k → k < w.heap.size) (h : SAt w b O A s) :
    Calls Tryz.prog 46 #[.pointer (some ⟨b,0,none⟩),.slice (some ⟨w.heap.size,0,none⟩) 1 d] (w.alloc (.cells #[.int .i64 k,.int .i64 r,.slice none 0 0] 65)) fun e w'=>Does w b O A s { s with L:=s.L++[mkT k r []] } (roomC s.L.length 1) e w':=by
  have b1:=bel1 w (.cells #[.int .i64 k,.int .i64 r,.slice none 0 0] 65);exact (smakes_any (l:=[mkT k r []]) rfl (by simp) (one_row (t:=mkT k r []) (p:=none) (c:=0) (d:=d) hA (sleaf_in _ _ _ _) (sleaf_ok (by omega) (by omega))) hL (fun k hk=>Nat.lt_of_lt_of_le (hA k hk) b1.size) (h.below b1)).mono (fun e w' hd=>hd.after b1)
def JSt.openC (s : JSt) : Int := if 80 < s.L.length + 1 ∨ s.H.length = 16 then 2 else 0
def JSt.openS (s : JSt) : JSt := { s with H := s.H ++ [true], L := s.L ++ [mkT 2 s.H.length []] }
theorem sopen_any {w : World} {b : Nat} {O A : Nat → Prop} {s : JSt} (hH : s.H.length ≤ 16) (hL : s.L.length ≤ 80) (hA : ∀ k, A k → k < w.heap.size) (h : SAt w b O A s) :
    Calls Tryz.prog 43 #[.pointer (some ⟨b,0,none⟩)] w fun e w'=>Does w b O A s s.openS s.openC e w':=by
  have H:=hid_of h;have HA:=hid_of hA;have C:=hid_of (sroom_any 1 (by decide) hL h);clear h hA;by_cases hs:80<s.L.length+1
  · rw [show roomC s.L.length 1=2 from if_pos hs] at C;have E:Hid (s.openC=2):=if_pos (.inl hs);clear hs;go_enter Tryz.func43,Tryz.ntmps43
    go_wp2_with fail
    refine C.out.mono ?_;rintro e' w' ⟨⟨hc,-⟩ | ⟨hc,rfl⟩,hw⟩
    · cases hc
    subst hw;exact ⟨rfl,Does.bad E.out (by decide) (STo.same H.out)⟩
  rw [show roomC s.L.length 1=0 from if_neg hs] at C
  have C2:Hid (Calls Tryz.prog 71 #[.pointer (some ⟨b,0,none⟩),.int .i64 1] w fun e w'=>e=.returned (.tuple #[])∧w'=w):=C.out.mono (fun e w' h=>by
    rcases h with ⟨⟨-,x,rfl,hx⟩ | ⟨hc,-⟩,hw⟩
    · exact ⟨by rw [hx],hw⟩
    · exact absurd rfl hc)
  clear C;obtain ⟨hh,q1,hheld,hset⟩:=H.out.setH HA.out;have CO:=hid_of (held_open hheld);have HS:=hid_of hset;clear hheld hset;by_cases h16:s.H.length=16
  · have E:Hid (s.openC=2):=if_pos (.inr h16);rw [show hOpenK s.H=-1 by unfold hOpenK;rw [if_neg (by omega)],show hOpen s.H=s.H by unfold hOpen;rw [if_neg (by omega)]] at CO;clear h16 hs;go_enter Tryz.func43,Tryz.ntmps43
    go_wp2_with (first | (go_at_call 71;refine (C2.out).mono ?_;rintro e w' ⟨rfl,hw⟩;have hw:=hw.symm;subst hw) | (go_at_call 36;refine (CO.out).mono ?_;rintro e w1 ⟨rfl,hh1,st1⟩;have Z:=hid_of (HS.out w1 _ hh1 st1);clear hh1 st1))
    refine (smust_no _ 2).mono ?_;rintro e' w' ⟨rfl,hw⟩;subst hw;exact ⟨rfl,Does.bad E.out (by decide) Z.out⟩
  · have E:Hid (s.openC=0):=if_neg (by omega);have hlt:s.H.length<16:=by omega
    rw [show hOpenK s.H=(s.H.length:Int) by unfold hOpenK;rw [if_pos hlt],show hOpen s.H=s.H++[true] by unfold hOpen;rw [if_pos hlt]] at CO;have hHL:s.H.length≤1000:=by omega
    generalize hnH:s.H.length=nH at CO hlt hHL;have HnH:=hid_of hnH;have hg0:decide ((nH:Int) ≥ 0)=true:=decide_eq_true (by omega);clear hnH h16;go_enter Tryz.func43,Tryz.ntmps43
    go_wp2_with (first | (go_at_call 71;refine (C2.out).mono ?_;rintro e w' ⟨rfl,hw⟩;have hw:=hw.symm;subst hw) | (go_at_call 36;refine (CO.out).mono ?_;rintro e w1 ⟨rfl,hh1,st1⟩;have Z:=hid_of (HS.out w1 _ hh1 st1);clear hh1 st1))
    refine (smust_ok _ _).mono ?_;rintro e' w' ⟨rfl,hw⟩;have hw:=hw.symm;subst hw;obtain ⟨N,z1,z2,z3⟩:=Z.out;have HZ:=hid_of (And.intro z1 z3);have CM:=hid_of (fun d=>smakes_leaf 2 (nH:Int) (by omega) (by decide) d (by exact hL) (fun k hk=>by rcases hk with hk | hk;exact Nat.lt_of_lt_of_le (HA.out k hk) z3.size;exact (z1 k hk).2) z2);clear z1 z2 z3 Z HS CO C2;go_wp2_with fail
    refine (CM.out _).mono ?_;rintro e' w2 hd;rcases hd with ⟨h1,rfl,h3⟩ | ⟨h1,rfl,h3⟩
    rotate_left
    · exact absurd (if_neg hs) h1
    have F:=hid_of (STo.join HZ.out.1 HZ.out.2 h3);clear h1 h3 CM HZ;go_wp2
    refine bodyPost_end (v:=.tuple #[]) (by simp [results,Tryz.results43,go_sem]) rfl (.inl ⟨E.out,rfl,?_⟩);have e:s.openS={ ({ s with H:=s.H++[true] }) with L:=({ s with H:=s.H++[true] }).L++[mkT 2 (nH:Int) []] }:=by unfold JSt.openS;rw [HnH.out]
    rw [e];exact F.out
def JSt.freeC (s : JSt) (a : Int) : Int := match s.at a with
  | none=>1
  | some t=>code2 (s.want a 2 true) (if t.r<s.f.regs then 11 else 0)
def JSt.freeS (s : JSt) (a : Int) : JSt := { s with H := s.H.set (match s.at a with | none => 0 | some t => t.r.toNat) false }
theorem freeC_want {s : JSt} {a : Int} (h : s.want a 2 true ≠ 0) : s.freeC a = s.want a 2 true := by
  unfold JSt.freeC
  cases e:s.at a with
  | none=>unfold JSt.want;rw [e]
  | some t=>show code2 _ _=_;unfold code2;rw [if_neg h]
theorem sfree_any {w : World} {b : Nat} {O A : Nat → Prop} {s : JSt} (a : Int) (hL : s.L.length ≤ 80) (hA : ∀ k, A k → k < w.heap.size) (h : SAt w b O A s) :
    Calls Tryz.prog 44 #[.pointer (some ⟨b,0,none⟩),.int .i64 a] w fun e w'=>Does w b O A s (s.freeS a) (s.freeC a) e w':=by
  have H:=hid_of h;have HA:=hid_of hA;clear h hA;have hfl:∀ (k r:Int) (p:Option Addr) (l c:Nat) (w:World),(Instr.field 65 (.agg #[.int .i64 k,.int .i64 r,.slice p l c]) 1).run Tryz.prog w=.ok (.int .i64 r) w:=fun _ _ _ _ _ _=>by kernel_rfl
  go_enter Tryz.func44,Tryz.ntmps44
  go_wp2_with fail
  refine (sheld_any a 2 hL (fun k hk=>HA.out k (H.out.sub k hk)) H.out).mono ?_;rintro e' w2 ⟨hO,b2⟩;have HB:=hid_of b2;have H2:=hid_of (H.out.below b2);clear b2;rcases hO with ⟨hc,x,rfl,t,p,c,ha,rfl,ht,hok⟩ | ⟨hc,rfl⟩
  rotate_left
  · exact ⟨rfl,Does.bad (freeC_want hc) hc (STo.of_below H.out HB.out)⟩
  have E:Hid (s.freeC a=if t.r<s.f.regs then 11 else 0):=by show _=_;unfold JSt.freeC code2;rw [ha];simp only [hc,if_true]
  have hhas:hHas s.H t.r=true:=by
    obtain ⟨t',e1,e2,e3⟩:=want_zero hc;rw [ha] at e1
    cases e1
    exact e3 rfl
  have ES:Hid (s.freeS a={ s with H:=hShut s.H t.r }):=by show _=_;unfold JSt.freeS hShut;rw [ha,hhas];rfl
  obtain ⟨pm,cm,hh,a1,c1,a2,c2,a3,c3,aL,cL,RR⟩:=H2.out.read;obtain ⟨-,q1,q2,-⟩:=RR.cells;clear RR ht hok ha hc hhas;obtain ⟨hh',q1',hheld,hset⟩:=H2.out.setH (fun k hk=>Nat.lt_of_lt_of_le (HA.out k hk) HB.out.size);have e1:=q1.symm.trans q1';simp only [Option.some.injEq,Value.pointer.injEq,Addr.mk.injEq,and_true] at e1;subst e1;have CO:=hid_of (held_shut t.r hheld);have HS:=hid_of hset;clear hheld hset q1';simp only [Tv];generalize s.f.regs=fr at q2 E;generalize t.r=tr at E CO ES ⊢;by_cases hlt:tr<fr
  · rw [if_pos hlt] at E;have hg:decide (tr ≥ fr)=false:=decide_eq_false (by omega);clear hlt;go_wp2_with fail
    refine (smust_no _ 11).mono ?_;rintro e' w' ⟨rfl,hw⟩;subst hw;exact ⟨rfl,Does.bad E.out (by decide) (STo.of_below H.out HB.out)⟩
  · rw [if_neg hlt] at E;have hg:decide (tr ≥ fr)=true:=decide_eq_true (by omega);clear hlt;go_wp2_with fail
    refine (smust_ok _ _).mono ?_;rintro e' w' ⟨rfl,hw⟩;have hw:=hw.symm;subst hw;go_wp2_with (go_at_call 73;refine (CO.out).mono ?_;rintro e w1 ⟨rfl,hh1,st1⟩;have Z:=hid_of (HS.out w1 _ hh1 st1);clear hh1 st1)
    exact bodyPost_end (v:=.tuple #[]) (by simp [results,Tryz.results44,go_sem]) rfl (.inl ⟨E.out,rfl,by rw [ES.out];exact Z.out.after HB.out⟩)
def JSt.arrayC (s : JSt) (a b : Int) : Int := code2 (code2 (s.want a 2 true) (s.want b 1 false)) (roomC s.L.length 1)
theorem code2_ne {a b : Int} (h : a ≠ 0) : code2 a b = a := by unfold code2; rw [if_neg h]
theorem code2_eq {a b : Int} (h : a = 0) : code2 a b = b := by unfold code2; rw [if_pos h]
theorem one_int {w : World} (a : Int) (ha : -9223372036854775808 ≤ a ∧ a ≤ 9223372036854775807) (d : Nat) : intsL.In (w.alloc (.cells #[.int .i64 a] 3)) All [a] [.slice (some ⟨w.heap.size, 0, none⟩) 1 d] := by
  refine ⟨_,d,rfl,fun i x hx=>?_⟩;have hi:i<1:=by simpa using (List.getElem?_eq_some_iff.1 hx).1
  have hi0:i=0:=by omega
  subst hi0;simp at hx
  subst hx;have hb:=blockNew w #[.int .i64 a] 3;refine ⟨w.heap.size,0,[.int .i64 a],rfl,trivial,lt_of_block hb,fun j hj=>?_,rfl,ha⟩;have hj:j<1:=hj;match j,hj with
  | 0,_=>exact cellOf hb 0 _ rfl
  | j+1,h=>exact absurd h (by omega)
theorem two_ints {w : World} (a b : Int) (ha : -9223372036854775808 ≤ a ∧ a ≤ 9223372036854775807) (hb : -9223372036854775808 ≤ b ∧ b ≤ 9223372036854775807) (d : Nat) : intsL.In (w.alloc (.cells #[.int .i64 a, .int .i64 b] 3)) All [a, b] [.slice (some ⟨w.heap.size, 0, none⟩) 2 d] := by
  refine ⟨_,d,rfl,fun i x hx=>?_⟩;have hi:i<2:=by simpa using (List.getElem?_eq_some_iff.1 hx).1
  have hB:=blockNew w #[.int .i64 a,.int .i64 b] 3;match i,hi with
  | 0,_ =>
    simp at hx
    subst hx;refine ⟨w.heap.size,0,[.int .i64 a],rfl,trivial,lt_of_block hB,fun j hj=>?_,rfl,ha⟩;have hj:j<1:=hj;match j,hj with
    | 0,_=>exact cellOf hB 0 _ rfl
    | j+1,h=>exact absurd h (by omega)
  | 1,_ =>
    simp at hx
    subst hx;refine ⟨w.heap.size,0,[.int .i64 b],rfl,trivial,lt_of_block hB,fun j hj=>?_,rfl,hb⟩;have hj:j<1:=hj;match j,hj with
    | 0,_=>exact cellOf hB 1 _ rfl
    | j+1,h=>exact absurd h (by omega)
  | i+2,h=>exact absurd h (by omega)
theorem first_one {s : JSt} {a : Int} : firstL (fun a => s.want a 1 false) [a] = s.want a 1 false := by
  show (if s.want a 1 false≠0 then s.want a 1 false else 0)=_;split
  · rfl
  · rename_i h;exact (Decidable.not_not.1 h).symm
theorem first_two {s : JSt} {a b : Int} : firstL (fun a => s.want a 1 false) [a, b] = code2 (s.want a 1 false) (s.want b 1 false) := by
  show (if s.want a 1 false≠0 then s.want a 1 false else firstL (fun a=>s.want a 1 false) [b])=_;rw [first_one];by_cases h:s.want a 1 false=0
  · rw [if_neg (by simpa using h),code2_eq h]
  · rw [if_pos h,code2_ne h]
theorem sints_one {w : World} {b : Nat} {O A : Nat → Prop} {s : JSt} (a : Int) (ha : -9223372036854775808 ≤ a ∧ a ≤ 9223372036854775807) (d : Nat) (hL : s.L.length ≤ 80) (hO : ∀ k, O k → k < w.heap.size) (h : SAt w b O A s) :
    Calls Tryz.prog 42 #[.pointer (some ⟨b,0,none⟩),.slice (some ⟨w.heap.size,0,none⟩) 1 d] (w.alloc (.cells #[.int .i64 a] 3)) fun e w'=>Asks (s.want a 1 false) VNone e∧Below w.heap.size w w':=by
  have b1:=bel1 w (.cells #[.int .i64 a] 3)
  have:=smustInts_any (l:=[a]) rfl (by simp) (one_int a ha d) hL (fun k hk=>Nat.lt_of_lt_of_le (hO k hk) b1.size) (h.below b1)
  rw [first_one] at this;exact this.mono (fun e w' h=>⟨h.1,b1.trans (h.2.mono b1.size)⟩)
theorem sints_two {w : World} {b : Nat} {O A : Nat → Prop} {s : JSt} (a a' : Int) (ha : -9223372036854775808 ≤ a ∧ a ≤ 9223372036854775807) (ha' : -9223372036854775808 ≤ a' ∧ a' ≤ 9223372036854775807) (d : Nat) (hL : s.L.length ≤ 80) (hO : ∀ k, O k → k < w.heap.size) (h : SAt w b O A s) :
    Calls Tryz.prog 42 #[.pointer (some ⟨b,0,none⟩),.slice (some ⟨w.heap.size,0,none⟩) 2 d] (w.alloc (.cells #[.int .i64 a,.int .i64 a'] 3)) fun e w'=>Asks (code2 (s.want a 1 false) (s.want a' 1 false)) VNone e∧Below w.heap.size w w':=by
  have b1:=bel1 w (.cells #[.int .i64 a,.int .i64 a'] 3)
  have:=smustInts_any (l:=[a,a']) rfl (by simp) (two_ints a a' ha ha' d) hL (fun k hk=>Nat.lt_of_lt_of_le (hO k hk) b1.size) (h.below b1)
  rw [first_two] at this;exact this.mono (fun e w' h=>⟨h.1,b1.trans (h.2.mono b1.size)⟩)
theorem sarray_any {w : World} {b : Nat} {O A : Nat → Prop} {s : JSt} (a a' : Int) (ha' : -9223372036854775808 ≤ a' ∧ a' ≤ 9223372036854775807) (hH : s.H.length ≤ 16) (hL : s.L.length ≤ 80) (hA : ∀ k, A k → k < w.heap.size) (h : SAt w b O A s) :
    Calls Tryz.prog 49 #[.pointer (some ⟨b,0,none⟩),.int .i64 a,.int .i64 a'] w fun e w'=>∀ t,(s.at a=some t∨(s.at a=none∧t=tInt))→Does w b O A s { s with L:=s.L++[mkT 4 t.r []] } (s.arrayC a a') e w':=by
  have H:=hid_of h;have HA:=hid_of hA;have HI:=hid_of ha';clear h hA ha';have hfl:∀ (k r:Int) (p:Option Addr) (l c:Nat) (w:World),(Instr.field 65 (.agg #[.int .i64 k,.int .i64 r,.slice p l c]) 1).run Tryz.prog w=.ok (.int .i64 r) w:=fun _ _ _ _ _ _=>by kernel_rfl
  go_enter Tryz.func49,Tryz.ntmps49
  go_wp2_with fail
  refine (sheld_any a 2 hL (fun k hk=>HA.out k (H.out.sub k hk)) H.out).mono ?_;rintro e' w2 ⟨hO,b2⟩;have HB:=hid_of b2;have H2:=hid_of (H.out.below b2);have HA2:=hid_of (fun k hk=>Nat.lt_of_lt_of_le (HA.out k hk) b2.size);clear b2;rcases hO with ⟨hc,x,rfl,t,p,c,ha,rfl,ht,hok⟩ | ⟨hc,rfl⟩
  rotate_left
  · exact ⟨rfl,fun t _=>Does.bad (by unfold JSt.arrayC;rw [code2_ne hc,code2_ne hc]) hc (STo.of_below H.out HB.out)⟩
  have E:Hid (s.arrayC a a'=code2 (s.want a' 1 false) (roomC s.L.length 1)):=by show _=_;unfold JSt.arrayC;rw [code2_eq hc]
  have hr:0≤t.r∧t.r≤1000:=by
    obtain ⟨t',e1,e2,e3⟩:=want_zero hc;rw [ha] at e1
    cases e1
    have:=hHas_range (e3 rfl)
    omega
  have HAT:=hid_of ha;have HR:=hid_of hr;clear ht hok ha hc hr;simp only [Tv];have C:=hid_of (fun d=>sints_one a' HI.out d hL (fun k hk=>HA2.out k (H2.out.sub k hk)) H2.out);go_wp2_with fail
  refine (C.out _).mono ?_;rintro e' w3 ⟨hO,b3⟩;have HB3:=hid_of (HB.out.trans (b3.mono HB.out.size));have H3:=hid_of (H2.out.below b3);have HA3:=hid_of (fun k hk=>Nat.lt_of_lt_of_le (HA2.out k hk) b3.size);rcases hO with ⟨hc,x,rfl,hx⟩ | ⟨hc,rfl⟩
  rotate_left
  · exact ⟨rfl,fun t _=>Does.bad (by rw [E.out,code2_ne hc]) hc (STo.of_below H.out HB3.out)⟩
  subst hx;have E2:Hid (s.arrayC a a'=roomC s.L.length 1):=by show _=_;rw [E.out,code2_eq hc]
  clear b3 hc E C;have CM:=hid_of (fun d=>smakes_leaf 4 t.r HR.out (by decide) d hL HA3.out H3.out);go_wp2_with fail
  refine (CM.out _).mono ?_;rintro e' w4 hd
  have F:Hid (∀ t,(s.at a=some t∨(s.at a=none∧t=tInt))→Does w b O A s { s with L:=s.L++[mkT 4 t.r []] } (s.arrayC a a') e' w4):=fun t' h'=>by
    rcases h' with h' | ⟨h',-⟩
    · have e:=h'.symm.trans HAT.out;injection e with e
      subst e;rw [E2.out];exact hd.after HB3.out
    · rw [HAT.out] at h';cases h'
  rcases hd with ⟨h1,rfl,h3⟩ | ⟨h1,rfl,h3⟩
  rotate_left
  · exact ⟨rfl,F.out⟩
  clear h1 h3 CM;go_wp2
  exact bodyPost_end (v:=.tuple #[]) (by simp [results,Tryz.results49,go_sem]) rfl F.out
end Go.Proofs.YtilanenoliopbaeGreat
namespace Go.Proofs.YtilanenoliopbaeGreat
open Go.ChangeShapes Go.WideShapes Go.ChangeAt Go.RowKit
set_option linter.unusedVariables false
def CheckAt (f : Nat) : Prop := ∀ (n : Nat) (t : TT n) (a : Option Addr) (c : Nat) (regs : Int) (w : World), TIn w All t a → t.count ≤ 100000 →
    Calls Tryz.prog f #[Tv t a c,.int .i64 regs] w fun e w'=>e=.returned (.int .i64 (t.check regs))∧Below w.heap.size w w'
theorem ownCode_any (k r : Int) (a : Option Addr) (len c : Nat) (regs : Int) (w : World) :
    Calls Tryz.prog 106 #[.agg #[.int .i64 k,.int .i64 r,.slice a len c],.int .i64 regs] w fun e w'=>e=.returned (.int .i64 (ownC k r len regs))∧Below w.heap.size w w':=by
  rcases (show k<1∨(¬ k<1∧4<k)∨k=1∨k=2∨k=4∨k=3 by omega) with h1 | ⟨h1,h2⟩ | rfl | rfl | rfl | rfl
  · rw [show ownC _ _ len regs=3 by unfold ownC;repeat' split;all_goals omega];go_enter Tryz.func106,Tryz.ntmps106
    go_wp2_with fail
    go_ret;exact ⟨rfl,(Below.refl _ w).alloc (Nat.le_refl _) _⟩
  · rw [show ownC _ _ len regs=3 by unfold ownC;repeat' split;all_goals omega];go_enter Tryz.func106,Tryz.ntmps106
    go_wp2_with fail
    go_ret;exact ⟨rfl,(Below.refl _ w).alloc (Nat.le_refl _) _⟩
  · rcases (show r≠0∨(r=0∧0<len)∨(r=0∧len=0) by omega) with h1 | ⟨rfl,h1⟩ | ⟨rfl,h1⟩
    · have g1:(r != 0)=true:=by simpa using h1
      rw [show ownC _ _ len regs=4 by unfold ownC;repeat' split;all_goals omega];go_enter Tryz.func106,Tryz.ntmps106
      go_wp2_with fail
      go_ret;exact ⟨rfl,(Below.refl _ w).alloc (Nat.le_refl _) _⟩
    · have g1:(0:Int)<(len:Int):=by omega
      rw [show ownC _ _ len regs=4 by unfold ownC;repeat' split;all_goals omega];go_enter Tryz.func106,Tryz.ntmps106
      go_wp2_with fail
      go_ret;exact ⟨rfl,(Below.refl _ w).alloc (Nat.le_refl _) _⟩
    · have g1:¬ (0:Int)<(len:Int):=by omega
      have g2:¬ (8:Int)<(len:Int):=by omega
      rw [show ownC _ _ len regs=0 by unfold ownC;repeat' split;all_goals omega];go_enter Tryz.func106,Tryz.ntmps106
      go_wp2_with fail
      go_ret;exact ⟨rfl,(Below.refl _ w).alloc (Nat.le_refl _) _⟩
  · rcases (show 0<len∨(len=0∧r<0)∨(len=0∧0≤r∧regs≤r)∨(len=0∧0≤r∧r<regs) by omega) with h1 | ⟨h1,h2⟩ | ⟨h1,h2,h3⟩ | ⟨h1,h2,h3⟩
    · have g1:(0:Int)<(len:Int):=by omega
      rw [show ownC _ _ len regs=4 by unfold ownC;repeat' split;all_goals omega];go_enter Tryz.func106,Tryz.ntmps106
      go_wp2_with fail
      go_ret;exact ⟨rfl,(Below.refl _ w).alloc (Nat.le_refl _) _⟩
    · have g1:¬ (0:Int)<(len:Int):=by omega
      have g2:¬ (8:Int)<(len:Int):=by omega
      rw [show ownC _ _ len regs=1 by unfold ownC;repeat' split;all_goals omega];go_enter Tryz.func106,Tryz.ntmps106
      go_wp2_with fail
      go_ret;exact ⟨rfl,(Below.refl _ w).alloc (Nat.le_refl _) _⟩
    · have g1:¬ (0:Int)<(len:Int):=by omega
      have g2:¬ (8:Int)<(len:Int):=by omega
      rw [show ownC _ _ len regs=1 by unfold ownC;repeat' split;all_goals omega];go_enter Tryz.func106,Tryz.ntmps106
      go_wp2_with fail
      go_ret;exact ⟨rfl,(Below.refl _ w).alloc (Nat.le_refl _) _⟩
    · have g1:¬ (0:Int)<(len:Int):=by omega
      have g2:¬ (8:Int)<(len:Int):=by omega
      rw [show ownC _ _ len regs=0 by unfold ownC;repeat' split;all_goals omega];go_enter Tryz.func106,Tryz.ntmps106
      go_wp2_with fail
      go_ret;exact ⟨rfl,(Below.refl _ w).alloc (Nat.le_refl _) _⟩
  · rcases (show 0<len∨(len=0∧r<0)∨(len=0∧0≤r∧regs≤r)∨(len=0∧0≤r∧r<regs) by omega) with h1 | ⟨h1,h2⟩ | ⟨h1,h2,h3⟩ | ⟨h1,h2,h3⟩
    · have g1:(0:Int)<(len:Int):=by omega
      rw [show ownC _ _ len regs=4 by unfold ownC;repeat' split;all_goals omega];go_enter Tryz.func106,Tryz.ntmps106
      go_wp2_with fail
      go_ret;exact ⟨rfl,(Below.refl _ w).alloc (Nat.le_refl _) _⟩
    · have g1:¬ (0:Int)<(len:Int):=by omega
      have g2:¬ (8:Int)<(len:Int):=by omega
      rw [show ownC _ _ len regs=1 by unfold ownC;repeat' split;all_goals omega];go_enter Tryz.func106,Tryz.ntmps106
      go_wp2_with fail
      go_ret;exact ⟨rfl,(Below.refl _ w).alloc (Nat.le_refl _) _⟩
    · have g1:¬ (0:Int)<(len:Int):=by omega
      have g2:¬ (8:Int)<(len:Int):=by omega
      rw [show ownC _ _ len regs=1 by unfold ownC;repeat' split;all_goals omega];go_enter Tryz.func106,Tryz.ntmps106
      go_wp2_with fail
      go_ret;exact ⟨rfl,(Below.refl _ w).alloc (Nat.le_refl _) _⟩
    · have g1:¬ (0:Int)<(len:Int):=by omega
      have g2:¬ (8:Int)<(len:Int):=by omega
      rw [show ownC _ _ len regs=0 by unfold ownC;repeat' split;all_goals omega];go_enter Tryz.func106,Tryz.ntmps106
      go_wp2_with fail
      go_ret;exact ⟨rfl,(Below.refl _ w).alloc (Nat.le_refl _) _⟩
  · rcases (show 8<len∨(len≤8∧r<0)∨(len≤8∧0≤r∧regs≤r)∨(len≤8∧0≤r∧r<regs) by omega) with h1 | ⟨h1,h2⟩ | ⟨h1,h2,h3⟩ | ⟨h1,h2,h3⟩
    · have g1:(8:Int)<(len:Int):=by omega
      rw [show ownC _ _ len regs=2 by unfold ownC;repeat' split;all_goals omega];go_enter Tryz.func106,Tryz.ntmps106
      go_wp2_with fail
      go_ret;exact ⟨rfl,(Below.refl _ w).alloc (Nat.le_refl _) _⟩
    · have g1:¬ (8:Int)<(len:Int):=by omega
      rw [show ownC _ _ len regs=1 by unfold ownC;repeat' split;all_goals omega];go_enter Tryz.func106,Tryz.ntmps106
      go_wp2_with fail
      go_ret;exact ⟨rfl,(Below.refl _ w).alloc (Nat.le_refl _) _⟩
    · have g1:¬ (8:Int)<(len:Int):=by omega
      rw [show ownC _ _ len regs=1 by unfold ownC;repeat' split;all_goals omega];go_enter Tryz.func106,Tryz.ntmps106
      go_wp2_with fail
      go_ret;exact ⟨rfl,(Below.refl _ w).alloc (Nat.le_refl _) _⟩
    · have g1:¬ (8:Int)<(len:Int):=by omega
      rw [show ownC _ _ len regs=0 by unfold ownC;repeat' split;all_goals omega];go_enter Tryz.func106,Tryz.ntmps106
      go_wp2_with fail
      go_ret;exact ⟨rfl,(Below.refl _ w).alloc (Nat.le_refl _) _⟩
theorem firstCode_any : ∀ n, FaultAt 95 n := by
  intro n
  induction n with
  | zero=>intro t;exact Empty.elim t
  | succ n ih =>
    intro t a c regs w ht hct;have IH:Hid (FaultAt 95 n):=ih;clear ih;have hT:Hid (LIn w All t.2.2 a):=ht.list;have hco:Hid (∀ x∈t.2.2,x.count≤100000):=fun x hx=>by have:=t.count_kid hx;omega
    have hlen:t.2.2.length≤100000:=by have:=t.len_lt_count;rw [t.len_eq] at this;omega
    have hF:Hid (t.fault regs=if ownC t.kind t.r t.2.2.length regs≠0 then ownC t.kind t.r t.2.2.length regs else firstL (TT.fault regs) t.2.2):=rfl;generalize t.fault regs=res at hF ⊢;simp only [Tv,TT.len_eq];generalize t.2.2=l at hT hco hF hlen ⊢;generalize t.kind=k at hF ⊢;generalize t.r=r at hF ⊢;clear ht hct t;go_enter Tryz.func95,Tryz.ntmps95
    go_wp2_with fail
    have X0:Hid (Bx w (w.alloc (.cells #[.int .i64 k,.int .i64 r,.slice a l.length c] 65)) k r a l.length c):=Bx.start w k r a l.length c;refine (ownCode_any k r a l.length c regs _).mono ?_;rintro e w1 ⟨rfl,b1⟩;have X1:Hid (Bx w w1 k r a l.length c):=X0.out.below b1;clear X0 b1;by_cases hz:ownC k r l.length regs=0
    · have R:Hid (res=firstL (TT.fault regs) l):=by
        have:=hF.out
        rw [hz] at this;show res=firstL (TT.fault regs) l;simpa using this
      rw [hz];clear hz hF;have e2:w1.cell? ⟨w.heap.size,2,none⟩=some (.slice a l.length c):=cellOf X1.out.box 2 _ rfl;go_wp2_with fail
      clear e2;go_loopw [18] (fun i wr=>∃ q:Nat,q≤l.length∧i=.int .i64 q∧(∀ (j:Nat) x,j<q→l[j]?=some x→x.fault regs=0)∧Bx w wr k r a l.length c) (fun i _=>l.length - (intOf i).toNat)
      case atStart=>exact ⟨0,Nat.zero_le _,rfl,fun j x hj=>by omega,X1.out⟩
      case round =>
        clear X1;obtain ⟨q,hq,rfl,hall,hX⟩:=hrel;have A:Hid (∀ (j:Nat) x,j<q→l[j]?=some x→x.fault regs=0):=hall;have X1:Hid (Bx w wr k r a l.length c):=hX;clear hall;by_cases hlt:q<l.length
        · have hx:l[q]?=some l[q]:=List.getElem?_eq_getElem hlt;generalize l[q]=x at hx;obtain ⟨g,o,a',c',rfl,_,d0,d1,d2,hk⟩:=LIn.at (hT.out.below hX.bel) hx;have hx':Hid (l[q]?=some x):=hx;have hk0:(0:Int)≤q:=by omega
          have hk1:(q:Int)<l.length:=by omega
          have C:Hid (∀ wx,Below wr.heap.size wr wx→Calls Tryz.prog 95 #[Tv x a' c',.int .i64 regs] wx fun e w'=>e=.returned (.int .i64 (x.fault regs))∧Below wx.heap.size wx w') :=
            fun wx hb=>IH.out x a' c' regs wx (hk.below hb) (hco.out x (List.mem_of_getElem? hx))
          clear hX hk hx;simp only [Tv] at C;generalize x.kind=kx at C d0;generalize x.r=rx at C d1;generalize x.len=lx at C d2;go_wp2_with fail
          have B1:Below wr.heap.size wr (wr.alloc (.cells #[.int .i64 kx,.int .i64 rx,.slice a' lx c'] 65)):=(Below.refl _ wr).alloc (Nat.le_refl _) _;refine (C.out _ B1).mono ?_;rintro e w2 ⟨rfl,b2⟩;have X2:Hid (Bx w w2 k r (some ⟨g,o,none⟩) l.length c):=(X1.out.below B1).below b2;clear X1 b2 B1 C d0 d1 d2;by_cases hd:x.fault regs=0
          · have A2:Hid (∀ (j:Nat) x,j<q+1→l[j]?=some x→x.fault regs=0):=fun j y hj hy=>by
              by_cases e:j=q
              · subst e;rw [hx'.out] at hy
                cases hy
                exact hd
              · exact A.out j y (by omega) hy
            rw [hd];clear hd A;go_wp2
            go_roundw
            case rel=>exact ⟨q+1,by omega,by go_num,A2.out,X2.out⟩
            case measure=>simp [intOf];omega
          · have Rv:Hid (res=x.fault regs):=R.out.trans (firstL_eq hx'.out A.out hd);have hd':(x.fault regs != 0)=true:=by simpa using hd
            generalize x.fault regs=v at hd' Rv ⊢;clear hd A;go_wp2
            go_ret;exact ⟨by rw [Rv.out];rfl,X2.out.bel⟩
        · have Rv:Hid (res=0):=R.out.trans (firstL_zero (fun j y hy=>A.out j y (by have:=(List.getElem?_eq_some_iff.1 hy).1;omega) hy));have hk1:¬ (q:Int)<l.length:=by omega
          clear hX A;go_wp2
          go_ret;exact ⟨by rw [Rv.out];rfl,X1.out.bel⟩
    · have R:Hid (res=ownC k r l.length regs):=by
        have:=hF.out
        rwa [if_pos hz] at this
      have hz':(ownC k r l.length regs != 0)=true:=by simpa using hz
      generalize ownC k r l.length regs=v at hz' R ⊢;clear hz hF;go_wp2_with fail
      go_ret;exact ⟨by rw [R.out];rfl,X1.out.bel⟩
theorem lt_height {n : Nat} {l : List (TT n)} {k r : Int} {m : Nat} : m < TT.height (n := n + 1) (mkT k r l) ↔ ∃ (i : Nat) (x : TT n), l[i]? = some x ∧ m < 1 + x.height := by
  rw [← Nat.not_le,height_le];constructor
  · intro h;simp only [Classical.not_forall] at h;obtain ⟨x,hx,h2⟩:=h;obtain ⟨i,hi,rfl⟩:=List.mem_iff_getElem.1 hx;exact ⟨i,_,List.getElem?_eq_getElem hi,by omega⟩
  · rintro ⟨i,x,hx,h2⟩ h
    have:=h x (List.mem_of_getElem? (l:=l) hx)
    omega
theorem deeper_any : ∀ (n : Nat) (t : TT n) (a : Option Addr) (c : Nat) (w : World) (m : Nat), TIn w All t a → t.count ≤ 100000 → m ≤ 4 →
    Calls Tryz.prog 94 #[Tv t a c,.int .i64 m] w fun e w'=>e=.returned (.bool (decide (m<t.height)))∧Below w.heap.size w w':=by
  intro n
  induction n with
  | zero=>intro t;exact Empty.elim t
  | succ n ih =>
    intro t a c w m ht hct hm4
    have IH:Hid (∀ (t:TT n) (a:Option Addr) (c:Nat) (w:World) (m:Nat),TIn w All t a→t.count≤100000→m≤4 →
      Calls Tryz.prog 94 #[Tv t a c,.int .i64 m] w fun e w'=>e=.returned (.bool (decide (m<t.height)))∧Below w.heap.size w w'):=ih
    clear ih;have hT:Hid (LIn w All t.2.2 a):=ht.list;have hco:Hid (∀ x∈t.2.2,x.count≤100000):=fun x hx=>by have:=t.count_kid hx;omega
    have hlen:t.2.2.length≤100000:=by have:=t.len_lt_count;rw [t.len_eq] at this;omega
    have hh:Hid (m<t.height ↔ ∃ (i:Nat) (x:TT n),t.2.2[i]?=some x∧m<1+x.height):=lt_height;generalize t.height=h at hh ⊢;simp only [Tv,TT.len_eq];generalize t.2.2=l at hT hco hh hlen ⊢;generalize t.kind=k;generalize t.r=r;clear ht hct t;go_enter Tryz.func94,Tryz.ntmps94
    go_wp2_with fail
    have X0:Hid (Bx w (w.alloc (.cells #[.int .i64 k,.int .i64 r,.slice a l.length c] 65)) k r a l.length c):=Bx.start w k r a l.length c;generalize w.alloc (.cells #[.int .i64 k,.int .i64 r,.slice a l.length c] 65)=w1 at X0 ⊢;go_loopw [10] (fun i wr=>∃ q:Nat,q≤l.length∧i=.int .i64 q∧(∀ (j:Nat) x,j<q→l[j]?=some x→1+x.height≤m)∧Bx w wr k r a l.length c) (fun i _=>l.length - (intOf i).toNat)
    case atStart=>exact ⟨0,Nat.zero_le _,rfl,fun j x hj=>by omega,X0.out⟩
    case round =>
      clear X0;obtain ⟨q,hq,rfl,hall,hX⟩:=hrel;have A:Hid (∀ (j:Nat) x,j<q→l[j]?=some x→1+x.height≤m):=hall;have X1:Hid (Bx w wr k r a l.length c):=hX;clear hall;by_cases hlt:q<l.length
      · have hx:l[q]?=some l[q]:=List.getElem?_eq_getElem hlt;generalize l[q]=x at hx;obtain ⟨g,o,a',c',rfl,_,d0,d1,d2,hk⟩:=LIn.at (hT.out.below hX.bel) hx;have hg:g<wr.heap.size:=World.block_lt_of_cell? wr ⟨g,o+q*3,none⟩ d0;have hx':Hid (l[q]?=some x):=hx;have hk0:(0:Int)≤q:=by omega
        have hk1:(q:Int)<l.length:=by omega
        by_cases hz:m=0
        · have hD:Hid (m<h):=hh.out.2 ⟨q,x,hx,by omega⟩;have hz':((m:Int)==0)=true:=by simp;omega
          clear hX hk hx hz;go_wp2_with fail
          go_ret;exact ⟨by rw [decide_eq_true hD.out];rfl,(X1.out.alloc _).bel⟩
        · have hz':((m:Int)==0)=false:=by simp;omega
          have C:Hid (∀ wx,Below wr.heap.size wr wx→Calls Tryz.prog 94 #[Tv x a' c',.int .i64 ((m:Int) - 1)] wx fun e w'=>e=.returned (.bool (decide (m - 1<x.height)))∧Below wx.heap.size wx w'):=fun wx hb=>by
            have:=IH.out x a' c' wx (m - 1) (hk.below hb) (hco.out x (List.mem_of_getElem? hx)) (by omega)
            rw [show ((m - 1:Nat):Int)=(m:Int) - 1 by omega] at this;exact this
          have hm0:(1:Int)≤m:=by omega
          have hm1:(m:Int)≤4:=by omega
          have hm5:Hid (1≤m):=by show 1≤m;omega
          clear hX hk hx hz;simp only [Tv] at C;generalize x.kind=kx at C d0;generalize x.r=rx at C d1;generalize x.len=lx at C d2;go_wp2_with fail
          have B1:Below wr.heap.size wr (wr.alloc (.cells #[.int .i64 kx,.int .i64 rx,.slice a' lx c'] 65)):=(Below.refl _ wr).alloc (Nat.le_refl _) _;refine (C.out _ B1).mono ?_;rintro e w2 ⟨rfl,b2⟩;have X2:Hid (Bx w w2 k r (some ⟨g,o,none⟩) l.length c):=(X1.out.below B1).below b2;clear X1 b2 B1 C d0 d1 d2;by_cases hd:m - 1<x.height
          · have hD:Hid (m<h):=hh.out.2 ⟨q,x,hx'.out,by have:=hm5.out;omega⟩;rw [decide_eq_true hd];clear hd;go_wp2
            go_ret;exact ⟨by rw [decide_eq_true hD.out];rfl,X2.out.bel⟩
          · have A2:Hid (∀ (j:Nat) x,j<q+1→l[j]?=some x→1+x.height≤m):=fun j y hj hy=>by
              by_cases e:j=q
              · subst e;rw [hx'.out] at hy
                cases hy
                have:=hm5.out
                omega
              · exact A.out j y (by omega) hy
            rw [decide_eq_false hd];clear hd A;go_wp2
            go_roundw
            case rel=>exact ⟨q+1,by omega,by go_num,A2.out,X2.out⟩
            case measure=>simp [intOf];omega
      · have hD:Hid (¬ m<h):=fun hc=>by
          obtain ⟨i,x,hx,h3⟩:=hh.out.1 hc
          have:=A.out i x (by have:=(List.getElem?_eq_some_iff.1 hx).1;omega) hx
          omega
        have hk1:¬ (q:Int)<l.length:=by omega
        clear hX A;go_wp2
        go_ret;exact ⟨by rw [decide_eq_false hD.out];rfl,X1.out.bel⟩
theorem check_any : CheckAt 75 := by
  intro n t a c regs w ht hc
  have C1:Hid (∀ wx,Below w.heap.size w wx→Calls Tryz.prog 94 #[Tv t a c,.int .i64 4] wx fun e w'=>e=.returned (.bool (decide (4<t.height)))∧Below wx.heap.size wx w') :=
    fun wx hb=>deeper_any n t a c wx 4 (ht.below hb) hc (by omega)
  have C2:Hid (∀ wx,Below w.heap.size w wx→Calls Tryz.prog 95 #[Tv t a c,.int .i64 regs] wx fun e w'=>e=.returned (.int .i64 (t.fault regs))∧Below wx.heap.size wx w') :=
    fun wx hb=>firstCode_any n t a c regs wx (ht.below hb) hc
  have E:Hid (t.check regs=if 4<t.height then 19 else t.fault regs):=rfl;generalize t.check regs=res at E ⊢;clear ht hc;simp only [Tv] at C1 C2 ⊢;generalize t.kind=k at C1 C2 ⊢;generalize t.r=r at C1 C2 ⊢;generalize t.len=len at C1 C2 ⊢;generalize t.fault regs=v at C2 E;go_enter Tryz.func75,Tryz.ntmps75
  go_wp2_with fail
  have X0:=Bx.start w k r a len c;generalize w.alloc (.cells #[.int .i64 k,.int .i64 r,.slice a len c] 65)=w1 at X0 ⊢;refine (C1.out _ X0.bel).mono ?_;rintro e w2 ⟨rfl,b2⟩;have X2:Hid (Bx w w2 k r a len c):=X0.below b2;have e0:=cellOf X2.out.box 0 _ rfl;have e1:=cellOf X2.out.box 1 _ rfl;have e2:=cellOf X2.out.box 2 _ rfl;clear X0 b2 C1;by_cases hd:4<t.height
  · rw [decide_eq_true hd];have R:Hid (res=19):=by have:=E.out;rwa [if_pos hd] at this
    clear hd;go_wp2_with fail
    go_ret;exact ⟨by rw [R.out];rfl,X2.out.bel⟩
  · rw [decide_eq_false hd];have R:Hid (res=v):=by have:=E.out;rwa [if_neg hd] at this
    clear hd;go_wp2_with fail
    refine (C2.out _ X2.out.bel).mono ?_;rintro e w3 ⟨rfl,b3⟩;have X3:Hid (Bx w w3 k r a len c):=X2.out.below b3;clear X2 b3 C2 e0 e1 e2;go_wp2_with fail
    go_ret;exact ⟨by rw [R.out];rfl,X3.out.bel⟩
def SaysEq (e : Ending) (A : Prop) : Prop := ∃ q : Bool, e = .returned (.bool q) ∧ (q = true ↔ A)
theorem SaysEq.yes {A : Prop} (h : A) : SaysEq (.returned (.bool true)) A := ⟨true, rfl, by simp [h]⟩
theorem SaysEq.no {A : Prop} (h : ¬ A) : SaysEq (.returned (.bool false)) A := ⟨false, rfl, by simp [h]⟩
def SameAt (f : Nat) (n : Nat) : Prop := ∀ (t u : TT n) (a b : Option Addr) (c d : Nat) (w : World), TIn w All t a → TIn w All u b → t.count ≤ 100000 →
    Calls Tryz.prog f #[Tv t a c,Tv u b d] w fun e w'=>SaysEq e (t=u)∧Below w.heap.size w w'
theorem sames_any (n : Nat) (IH0 : SameAt 26 n) (l m : List (TT n)) (a b : Option Addr) (c d : Nat) (w : World) (hl0 : LIn w All l a) (hm0 : LIn w All m b) (hlen : l.length ≤ 100000) (hco0 : ∀ x ∈ l, x.count ≤ 100000) :
    Calls Tryz.prog 11 #[.slice a l.length c,.slice b m.length d] w fun e w'=>SaysEq e (l=m)∧Below w.heap.size w w':=by
  have IH:Hid (SameAt 26 n):=IH0;have hl:Hid (LIn w All l a):=hl0;have hm:Hid (LIn w All m b):=hm0;have hco:Hid (∀ x∈l,x.count≤100000):=hco0;clear IH0 hl0 hm0 hco0;by_cases hne:l.length=m.length
  · have hne':((l.length:Int) != (m.length:Int))=false:=by simp;omega
    have E:Hid (l.length=m.length):=hne;clear hne;go_enter Tryz.func11,Tryz.ntmps11
    go_wp2_with fail
    go_loopw [5] (fun i wr=>∃ q:Nat,q≤l.length∧i=.int .i64 q∧(∀ j,j<q→l[j]?=m[j]?)∧Below w.heap.size w wr) (fun i _=>l.length - (intOf i).toNat)
    case atStart=>exact ⟨0,Nat.zero_le _,rfl,fun j hj=>by omega,Below.refl _ _⟩
    case round =>
      obtain ⟨q,hq,rfl,hall,hb⟩:=hrel;have A:Hid (∀ j,j<q→l[j]?=m[j]?):=hall;have B:Hid (Below w.heap.size w wr):=hb;clear hall hb;by_cases hlt:q<l.length
      · have hx:l[q]?=some l[q]:=List.getElem?_eq_getElem hlt;have hlm:q<m.length:=by have:=E.out;omega
        have hy:m[q]?=some m[q]:=List.getElem?_eq_getElem hlm;generalize l[q]=x at hx;generalize m[q]=y at hy;obtain ⟨g,o,a',c',rfl,_,d0,d1,d2,hk⟩:=LIn.at (hl.out.below B.out) hx;obtain ⟨g',o',b',d',rfl,_,d3,d4,d5,hk'⟩:=LIn.at (hm.out.below B.out) hy
        have C:Hid (∀ k,Calls Tryz.prog 26 #[Tv x a' c',Tv y b' d'] (wr.drewN k) fun e w'=>SaysEq e (x=y)∧Below wr.heap.size wr w') :=
          fun k=>(IH.out x y a' b' c' d' _ (hk.drewN k) (hk'.drewN k) (hco.out x (List.mem_of_getElem? hx))).mono (fun e w' h=>⟨h.1,undrewN_below h.2⟩)
        have hx':Hid (l[q]?=some x):=hx;have hy':Hid (m[q]?=some y):=hy;clear hk hk' hx hy;have hk0:(0:Int)≤q:=by omega
        have hk1:(q:Int)<l.length:=by omega
        have hk3:(q:Int)<m.length:=by omega
        go_upto_region 6 with fail
        go_cut [26] (fun t wx=>∃ p:Bool,t=.bool (!p)∧(p=true ↔ x=y)∧Below wr.heap.size wr wx)
        case first =>
          go_region_with (go_at_call 26;refine (C.out 1).mono ?_;rintro r w5 ⟨⟨p,rfl,hp⟩,b5⟩;have HP:Hid (p=true ↔ x=y):=hp;have B5:Hid (Below wr.heap.size wr w5):=b5;clear hp b5)
          all_goals
            go_wp2
            go_meet;exact ⟨p,rfl,HP.out,B5.out⟩
        case rest =>
          obtain ⟨p,rfl,hp,b5⟩:=hcut;have HB:Hid (Below w.heap.size w wc):=B.out.trans (b5.mono B.out.size);clear C b5 B d0 d1 d2 d3 d4 d5
          cases p with
          | true =>
            have hxy:x=y:=hp.1 rfl
            have A2:Hid (∀ j,j<q+1→l[j]?=m[j]?):=fun j hj=>by
              by_cases e:j=q
              · subst e;rw [hx'.out,hy'.out,hxy]
              · exact A.out j (by omega)
            clear hp hxy hx' hy' A;go_wp2
            go_roundw
            case rel=>exact ⟨q+1,by omega,by go_num,A2.out,HB.out⟩
            case measure=>simp [intOf];omega
          | false =>
            have hxy:Hid (¬ l=m):=fun h=>by
              have h1:=hx'.out;rw [h,hy'.out] at h1
              have:=hp.2 (Option.some.inj h1).symm
              cases this
            clear hp hx' hy' A;go_wp2
            go_ret;exact ⟨SaysEq.no hxy.out,HB.out⟩
      · have R:Hid (l=m):=by
          have:=E.out
          refine List.ext_getElem? (fun i=>?_);by_cases hi:i<q
          · exact A.out i hi
          · rw [List.getElem?_eq_none (by omega),List.getElem?_eq_none (by omega)]
        have hk1:¬ (q:Int)<l.length:=by omega
        clear A;go_wp2
        go_ret;exact ⟨SaysEq.yes R.out,B.out⟩
  · have hne':((l.length:Int) != (m.length:Int))=true:=by simp;omega
    have E:Hid (l.length≠m.length):=hne;clear hne;go_enter Tryz.func11,Tryz.ntmps11
    go_wp2
    go_ret;exact ⟨SaysEq.no (fun h=>E.out (by rw [h])),Below.refl _ _⟩
theorem TT.eq_iff {n : Nat} {t u : TT (n + 1)} : t = u ↔ t.kind = u.kind ∧ t.r = u.r ∧ t.2.2 = u.2.2 := by
  obtain ⟨a,b,c⟩:=t;obtain ⟨d,e,f⟩:=u;constructor
  · intro h;cases h;exact ⟨rfl,rfl,rfl⟩
  · rintro ⟨rfl,rfl,rfl⟩;rfl
theorem samet_any : ∀ n, SameAt 26 n := by
  intro n
  induction n with
  | zero=>intro t;exact Empty.elim t
  | succ n ih =>
    intro t u a b c d w ht hu hc;have hco:∀ x∈t.2.2,x.count≤100000:=fun x hx=>by have:=t.count_kid hx;omega
    have hlen:t.2.2.length≤100000:=by have:=t.len_lt_count;rw [t.len_eq] at this;omega
    have C:Hid (∀ wx,Below w.heap.size w wx→Calls Tryz.prog 11 #[.slice a t.2.2.length c,.slice b u.2.2.length d] wx fun e w'=>SaysEq e (t.2.2=u.2.2)∧Below wx.heap.size wx w') :=
      fun wx hb=>sames_any n ih t.2.2 u.2.2 a b c d wx (ht.below hb) (hu.below hb) hlen hco
    rw [TT.eq_iff];simp only [Tv,TT.len_eq] at C ⊢;generalize t.2.2.length=p at C ⊢;generalize u.2.2.length=q at C ⊢;generalize (t.2.2=u.2.2)=E at C ⊢;generalize t.kind=k;generalize t.r=r;generalize u.kind=k';generalize u.r=r';clear hco hlen hc ht hu ih t u;by_cases hk:k=k'
    · subst hk;by_cases hr:r=r'
      · subst hr;go_enter Tryz.func26,Tryz.ntmps26
        go_wp2_with fail
        have B1:Below w.heap.size w ((w.alloc (.cells #[.int .i64 k,.int .i64 r,.slice a p c] 65)).alloc (.cells #[.int .i64 k,.int .i64 r,.slice b q d] 65)):=((Below.refl _ w).alloc (Nat.le_refl _) _).alloc (by simp) _;refine (C.out _ B1).mono ?_;rintro e w2 ⟨⟨v,rfl,hv⟩,b2⟩;have B:Hid (Below w.heap.size w w2):=B1.trans (b2.mono B1.size);have V:Hid (v=true ↔ E):=hv;clear b2 C hv B1
        cases v
        all_goals
          go_wp2
          go_ret
        · exact ⟨SaysEq.no (fun h=>by have:=V.out.2 h.2.2;cases this),B.out⟩
        · exact ⟨SaysEq.yes (by have:=V.out;simpa using this),B.out⟩
      · have hr':(r==r')=false:=by simpa using hr
        have R:Hid (¬ r=r'):=hr;clear hr;go_enter Tryz.func26,Tryz.ntmps26
        go_wp2_with fail
        go_ret;exact ⟨SaysEq.no (fun h=>R.out h.2.1),((Below.refl _ w).alloc (Nat.le_refl _) _).alloc (by simp) _⟩
    · have hk':(k==k')=false:=by simpa using hk
      have R:Hid (¬ k=k'):=hk;clear hk;go_enter Tryz.func26,Tryz.ntmps26
      go_wp2_with fail
      go_ret;exact ⟨SaysEq.no (fun h=>R.out h.1),((Below.refl _ w).alloc (Nat.le_refl _) _).alloc (by simp) _⟩
abbrev FV : Value := .func (.func 76) #[] #[]
theorem eqf_any (n : Nat) (IH0 : SameAt 76 n) (l m : List (TT n)) (a b : Option Addr) (c d : Nat) (w : World) (hl0 : LIn w All l a) (hm0 : LIn w All m b) (hlen : l.length ≤ 100000) (hco0 : ∀ x ∈ l, x.count ≤ 100000) :
    Calls Tryz.prog 96 #[.slice a l.length c,.slice b m.length d,FV] w fun e w'=>SaysEq e (l=m)∧Below w.heap.size w w':=by
  have IH:Hid (SameAt 76 n):=IH0;have hl:Hid (LIn w All l a):=hl0;have hm:Hid (LIn w All m b):=hm0;have hco:Hid (∀ x∈l,x.count≤100000):=hco0;clear IH0 hl0 hm0 hco0;by_cases hne:l.length=m.length
  · have hne':((l.length:Int) != (m.length:Int))=false:=by simp;omega
    have E:Hid (l.length=m.length):=hne;clear hne;go_enter Tryz.func96,Tryz.ntmps96
    go_wp2_with fail
    go_loopw [17] (fun i wr=>∃ q:Nat,q≤l.length∧i=.int .i64 q∧(∀ j,j<q→l[j]?=m[j]?)∧Below w.heap.size w wr) (fun i _=>l.length - (intOf i).toNat)
    case atStart=>exact ⟨0,Nat.zero_le _,rfl,fun j hj=>by omega,Below.refl _ _⟩
    case round =>
      obtain ⟨q,hq,rfl,hall,hb⟩:=hrel;have A:Hid (∀ j,j<q→l[j]?=m[j]?):=hall;have B:Hid (Below w.heap.size w wr):=hb;clear hall hb;by_cases hlt:q<l.length
      · have hx:l[q]?=some l[q]:=List.getElem?_eq_getElem hlt;have hlm:q<m.length:=by have:=E.out;omega
        have hy:m[q]?=some m[q]:=List.getElem?_eq_getElem hlm;generalize l[q]=x at hx;generalize m[q]=y at hy;obtain ⟨g,o,a',c',rfl,_,d0,d1,d2,hk⟩:=LIn.at (hl.out.below B.out) hx;obtain ⟨g',o',b',d',rfl,_,d3,d4,d5,hk'⟩:=LIn.at (hm.out.below B.out) hy
        have C:Hid (∀ wx,Below wr.heap.size wr wx→Calls Tryz.prog 76 #[Tv x a' c',Tv y b' d'] wx fun e w'=>SaysEq e (x=y)∧Below wx.heap.size wx w') :=
          fun wx hb=>IH.out x y a' b' c' d' _ (hk.below hb) (hk'.below hb) (hco.out x (List.mem_of_getElem? hx))
        have hx':Hid (l[q]?=some x):=hx;have hy':Hid (m[q]?=some y):=hy;have hg:g<wr.heap.size:=World.block_lt_of_cell? wr ⟨g,o+q*3,none⟩ d0;have hg':g'<wr.heap.size:=World.block_lt_of_cell? wr ⟨g',o'+q*3,none⟩ d3;clear hk hk' hx hy;simp only [Tv] at C;generalize x.kind=kx at C d0;generalize x.r=rx at C d1;generalize x.len=lx at C d2;generalize y.kind=ky at C d3;generalize y.r=ry at C d4;generalize y.len=ly at C d5;have hk0:(0:Int)≤q:=by omega
        have hk1:(q:Int)<l.length:=by omega
        have hk3:(q:Int)<m.length:=by omega
        go_wp2_with fail
        have B1:Below wr.heap.size wr ((wr.alloc (.cells #[.int .i64 kx,.int .i64 rx,.slice a' lx c'] 65)).alloc (.cells #[.int .i64 ky,.int .i64 ry,.slice b' ly d'] 65)):=((Below.refl _ wr).alloc (Nat.le_refl _) _).alloc (by simp) _;refine (C.out _ B1).mono ?_;rintro r w5 ⟨⟨p,rfl,hp⟩,b5⟩;have HB:Hid (Below w.heap.size w w5):=(B.out.trans (B1.mono B.out.size)).trans (b5.mono (Nat.le_trans B.out.size B1.size));clear C b5 B d0 d1 d2 d3 d4 d5 B1
        cases p with
        | true =>
          have hxy:x=y:=hp.1 rfl
          have A2:Hid (∀ j,j<q+1→l[j]?=m[j]?):=fun j hj=>by
            by_cases e:j=q
            · subst e;rw [hx'.out,hy'.out,hxy]
            · exact A.out j (by omega)
          clear hp hxy hx' hy' A;go_wp2
          go_roundw
          case rel=>exact ⟨q+1,by omega,by go_num,A2.out,HB.out⟩
          case measure=>simp [intOf];omega
        | false =>
          have hxy:Hid (¬ l=m):=fun h=>by
            have h1:=hx'.out;rw [h,hy'.out] at h1
            have:=hp.2 (Option.some.inj h1).symm
            cases this
          clear hp hx' hy' A;go_wp2
          go_ret;exact ⟨SaysEq.no hxy.out,HB.out⟩
      · have R:Hid (l=m):=by
          have:=E.out
          refine List.ext_getElem? (fun i=>?_);by_cases hi:i<q
          · exact A.out i hi
          · rw [List.getElem?_eq_none (by omega),List.getElem?_eq_none (by omega)]
        have hk1:¬ (q:Int)<l.length:=by omega
        clear A;go_wp2
        go_ret;exact ⟨SaysEq.yes R.out,B.out⟩
  · have hne':((l.length:Int) != (m.length:Int))=true:=by simp;omega
    have E:Hid (l.length≠m.length):=hne;clear hne;go_enter Tryz.func96,Tryz.ntmps96
    go_wp2
    go_ret;exact ⟨SaysEq.no (fun h=>E.out (by rw [h])),Below.refl _ _⟩
theorem same_any : ∀ n, SameAt 76 n := by
  intro n
  induction n with
  | zero=>intro t;exact Empty.elim t
  | succ n ih =>
    intro t u a b c d w ht hu hc;have hco:∀ x∈t.2.2,x.count≤100000:=fun x hx=>by have:=t.count_kid hx;omega
    have hlen:t.2.2.length≤100000:=by have:=t.len_lt_count;rw [t.len_eq] at this;omega
    have C:Hid (∀ wx,Below w.heap.size w wx→Calls Tryz.prog 96 #[.slice a t.2.2.length c,.slice b u.2.2.length d,FV] wx fun e w'=>SaysEq e (t.2.2=u.2.2)∧Below wx.heap.size wx w') :=
      fun wx hb=>eqf_any n ih t.2.2 u.2.2 a b c d wx (ht.below hb) (hu.below hb) hlen hco
    rw [TT.eq_iff];simp only [Tv,TT.len_eq] at C ⊢;generalize t.2.2.length=p at C ⊢;generalize u.2.2.length=q at C ⊢;generalize (t.2.2=u.2.2)=E at C ⊢;generalize t.kind=k;generalize t.r=r;generalize u.kind=k';generalize u.r=r';clear hco hlen hc ht hu ih t u;by_cases hk:k=k'
    · subst hk;by_cases hr:r=r'
      · subst hr;go_enter Tryz.func76,Tryz.ntmps76
        go_wp2_with fail
        have B1:Below w.heap.size w ((w.alloc (.cells #[.int .i64 k,.int .i64 r,.slice a p c] 65)).alloc (.cells #[.int .i64 k,.int .i64 r,.slice b q d] 65)):=((Below.refl _ w).alloc (Nat.le_refl _) _).alloc (by simp) _;refine (C.out _ B1).mono ?_;rintro e w2 ⟨⟨v,rfl,hv⟩,b2⟩;have B:Hid (Below w.heap.size w w2):=B1.trans (b2.mono B1.size);have V:Hid (v=true ↔ E):=hv;clear b2 C hv B1
        cases v
        all_goals
          go_wp2
          go_ret
        · exact ⟨SaysEq.no (fun h=>by have:=V.out.2 h.2.2;cases this),B.out⟩
        · exact ⟨SaysEq.yes (by have:=V.out;simpa using this),B.out⟩
      · have hr':(r==r')=false:=by simpa using hr
        have R:Hid (¬ r=r'):=hr;clear hr;go_enter Tryz.func76,Tryz.ntmps76
        go_wp2_with fail
        go_ret;exact ⟨SaysEq.no (fun h=>R.out h.2.1),((Below.refl _ w).alloc (Nat.le_refl _) _).alloc (by simp) _⟩
    · have hk':(k==k')=false:=by simpa using hk
      have R:Hid (¬ k=k'):=hk;clear hk;go_enter Tryz.func76,Tryz.ntmps76
      go_wp2_with fail
      go_ret;exact ⟨SaysEq.no (fun h=>R.out h.1),((Below.refl _ w).alloc (Nat.le_refl _) _).alloc (by simp) _⟩
end Go.Proofs.YtilanenoliopbaeGreat
namespace Go.Proofs.YtilanenoliopbaeGreat
open Go.ChangeShapes Go.WideShapes Go.ChangeAt Go.RowKit
set_option linter.unusedSimpArgs false
set_option linter.unusedVariables false
theorem js_drew {B : Nat} {a w : World} (h : Below B a w) : Below B a w.drew := ⟨h.os, h.tape, h.output, h.size, h.block⟩
theorem js_undrew {w w' : World} (h : Below w.drew.heap.size w.drew w') : Below w.heap.size w w' := ⟨h.os, h.tape, h.output, h.size, h.block⟩
noncomputable def JSt.beC (s : JSt) (a : Int) (t : TT 6) : Int := match s.at a with | none => 1 | some v => if bdec (v = t) then 0 else 9
theorem beC_has {s : JSt} {a : Int} {t : TT 6} (h : s.has a ≠ 0) : s.beC a t = s.has a := by
  unfold JSt.has JSt.beC at *
  cases e:s.at a with
  | none=>rfl
  | some t=>rw [e] at h;exact absurd rfl h
theorem beC_at {s : JSt} {a : Int} {t v : TT 6} (h : s.at a = some v) : s.beC a t = if bdec (v = t) then 0 else 9 := by unfold JSt.beC; rw [h]
theorem smustBe_any {w : World} {b : Nat} {O A Q : Nat → Prop} {s : JSt} (a : Int) {t : TT 6} {p : Option Addr} {c : Nat} (ht : TIn w Q t p) (hL : s.L.length ≤ 80) (hcnt : ∀ x ∈ s.L, x.count ≤ 100000) (hO : ∀ k, O k → k < w.heap.size) (h : SAt w b O A s) :
    Calls Tryz.prog 48 #[.pointer (some ⟨b,0,none⟩),.int .i64 a,Tv t p c] w fun e w'=>Asks (s.beC a t) VNone e∧Below w.heap.size w w':=by
  have b1:=bel1 w (.cells #[.int .i64 t.kind,.int .i64 t.r,.slice p t.len c] 65);have H1:=hid_of (h.below b1);have B1:=hid_of b1;have T1:=hid_of (ht.below b1);have X1:Hid (Blk (w.alloc (.cells #[.int .i64 t.kind,.int .i64 t.r,.slice p t.len c] 65)) w.heap.size #[.int .i64 t.kind,.int .i64 t.r,.slice p t.len c] 65):=Blk.new _ _ _;have HC:=hid_of hcnt;clear h b1 hO ht hcnt;go_enter Tryz.func48,Tryz.ntmps48
  go_upto_region 1 with fail
  generalize w.alloc (.cells #[.int .i64 t.kind,.int .i64 t.r,.slice p t.len c] 65)=w1 at H1 B1 T1 X1 ⊢;obtain ⟨X,hX⟩:∃ X,w.heap.size=X:=⟨_,rfl⟩;rw [hX] at X1 ⊢;rw [← hX];have C:Hid (∀ wx,Below w1.heap.size w1 wx→Calls Tryz.prog 74 #[.pointer (some ⟨b,0,none⟩),.int .i64 a] wx fun e w'=>Asks (s.has a) (TVal w' A s a) e∧Below wx.heap.size wx w'):=fun wx hb=>svalue_any a hL (H1.out.below hb)
  have D:Hid (∀ (v:TT 6) (q:Option Addr) (d:Nat) (wx:World),s.at a=some v→TIn wx (fun g=>¬ A g) v q→Below w1.heap.size w1 wx→Calls Tryz.prog 76 #[Tv v q d,Tv t p c] wx fun e w'=>SaysEq e (v=t)∧Below wx.heap.size wx w') :=
    fun v q d wx hv hq hb=>same_any 6 v t q p d c wx hq.all (T1.out.below hb).all (HC.out v (at_mem hv).1)
  clear H1 T1 HC;have y0:=cellOf X1.out 0 _ rfl;have y1:=cellOf X1.out 1 _ rfl;have y2:=cellOf X1.out 2 _ rfl;clear X1
  go_region_with (first
    | (go_at_call 74;refine (C.out _ (js_drew (Below.refl _ _))).mono ?_;rintro e' w2 ⟨⟨hc,x,rfl,v,q,d,hv,rfl,hvt,-⟩ | ⟨hc,rfl⟩,b2⟩;rotate_left;exact ⟨rfl,.inr ⟨by rw [beC_has hc];exact hc,by rw [beC_has hc]⟩,B1.out.trans ((js_undrew b2).mono B1.out.size)⟩;have b2':Below w1.heap.size w1 w2:=js_undrew b2;have y3:=stay y0 b2';have y4:=stay y1 b2';have y5:=stay y2 b2';have BB:=hid_of b2';have HV:=hid_of (And.intro hv hvt);clear hv hvt hc b2 b2')
    | (go_at_call 76;refine (D.out _ _ _ _ HV.out.1 HV.out.2 BB.out).mono ?_;rintro e' w3 ⟨⟨qb,rfl,hqb⟩,b3⟩;have BC:=hid_of (BB.out.trans (b3.mono BB.out.size));have HQB:=hid_of hqb;clear b3 hqb)
    | (go_at_call 72;refine (smust_any _ _ _).mono ?_;rintro e' w' ⟨hw,⟨hq,rfl⟩ | ⟨hq,rfl⟩⟩;rotate_left;exact ⟨rfl,Asks.bad (by rw [beC_at HV.out.1,show bdec _=qb from Bool.eq_iff_iff.2 (bdec_iff.trans HQB.out.symm),hq];rfl) (by decide),by rw [hw];exact B1.out.trans (BC.out.mono B1.out.size)⟩;have hw:=hw.symm;subst hw))
  all_goals
    have E9:Hid (s.beC a t=0):=by show _=_;rw [beC_at HV.out.1,show bdec _=qb from Bool.eq_iff_iff.2 (bdec_iff.trans HQB.out.symm),hq];rfl
    have B9:Hid (Below w.heap.size w w3):=B1.out.trans (BC.out.mono B1.out.size);clear hq;go_wp2
    exact bodyPost_end (v:=.tuple #[]) (by simp [results,Tryz.results48,go_sem]) rfl ⟨Asks.good E9.out rfl,B9.out⟩
theorem step_call_fn2 {P : Program} {ops : Array Oper} {o : Oper} {a : Act} {w : World} {K : Act → World → Prop} {Q : Exit → Act → World → Prop} {E : Prop} (hgd : o.guard = none) (F : Nat) (x y : Operand) (t u : TypeId)
    (ho:o.op=.call { callee:=.value (.func F),args:=#[x,y],argTypes:=#[t,u] }) (hE:∀ (args:Array Value) (w:World),(callFunc F args).run P w=.ok (.enter F args) w) (v z:Value) (hx:a.eval x=v) (hy:a.eval y=z) {R:Ending→World→Prop} (C:Calls P F #[v,z] w R)
    (h:∀ en w',R en w'→Upon K Q o a en w'):if Region.wanted o (yielded ops a.tmps)=true then Oper.wp P o a w K Q else E:=by
  have hw:Region.wanted o (yielded ops a.tmps)=true:=by simp [Region.wanted,hgd]
  rw [if_pos hw];unfold Oper.wp
  have e1:(execOp a.eval o).run P w=.ok (.enter F #[v,z]) w:=by
    have hf:a.eval (.func F)=.func (.func F) #[] #[]:=rfl;unfold execOp;simp [ho,resolve,invoke,Deferred.ofValue,hx,hy,hE,hf,Result.andThen]
  rw [e1,Oper.upon_enter];refine C.mono fun en w' hO=>?_
  have:=h en w' hO
  cases en <;> exact this
theorem fields_append {s : JSt} : ∀ {l m : List Int} {x y : List (TT 6)}, s.fields l = some x → s.fields m = some y → s.fields (l ++ m) = some (x ++ y)
  | [],m,x,y,h1,h2=>by simp [JSt.fields] at h1;subst h1;exact h2
  | k::r,m,x,y,h1,h2=>by
    simp only [JSt.fields] at h1;show s.fields (k::(r++m))=_;simp only [JSt.fields]
    cases hk:s.at k with
    | none=>simp [hk] at h1
    | some t =>
      simp only [hk] at h1
      cases hr:s.fields r with
      | none=>simp [hr] at h1
      | some l =>
        simp only [hr,Option.some.injEq] at h1;subst h1;rw [fields_append hr h2];rfl
theorem fields_snoc {s : JSt} {l : List Int} {k : Nat} {y : Int} {t : TT 6} {L : List (TT 6)} (hy : l[k]? = some y) (ht : s.at y = some t) (h : s.fields (l.take k) = some L) : s.fields (l.take (k + 1)) = some (L ++ [t]) := by
  rw [List.take_add_one,hy];exact fields_append h (by simp [JSt.fields,ht])
theorem fields_not {s : JSt} : ∀ {l : List Int} {y : Int}, y ∈ l → s.at y = none → s.fields l = none
  | k::r,y,hm,h=>by
    simp only [JSt.fields];rcases List.mem_cons.1 hm with rfl | hm
    · rw [h]
    · rw [fields_not hm h]
      cases s.at k <;> rfl
def JSt.tupleC (s : JSt) (a : Int) (args : List Int) : Int := code2 (s.want a 2 true) (match s.at a with
  | none=>0
  | some t=>match s.fields args with
    | none=>1
    | some l=>if 4<TT.height (n:=7) (mkT 3 t.r l) then 19 else roomC s.L.length 1)
def JSt.tupleS (s : JSt) (a : Int) (args : List Int) : JSt := { s with L := s.L ++ (match s.at a with
  | none=>[]
  | some t=>match s.fields args with
    | none=>[]
    | some l=>[TT.at (n:=7) 5 (mkT 3 t.r l)]) }
theorem tuple_check {R : Int} {r : Int} {l : List (TT 6)} (hr : 0 ≤ r ∧ r < R) (hl : l.length ≤ 8) (h : ∀ t ∈ l, t.check R = 0) : TT.check (n := 7) R (mkT 3 r l) = if 4 < TT.height (n := 7) (mkT 3 r l) then 19 else 0 := by
  show (if 4<TT.height (n:=7) (mkT 3 r l) then 19 else TT.fault (n:=7) R (mkT 3 r l))=_
  have:TT.fault (n:=7) R (mkT 3 r l)=0:=by
    show (if ownC 3 r l.length R≠0 then ownC 3 r l.length R else firstL (TT.fault R) l)=0
    have:ownC 3 r l.length R=0:=by
      unfold ownC;rw [if_neg (by omega),if_neg (by omega),if_neg (by omega),if_neg (by omega),if_neg (by omega)]
    rw [this];simp only [ne_eq,not_true_eq_false,if_false];exact firstL_zero_iff.2 fun y hy=>(check_iff.1 (h y hy)).2
  rw [this]
structure TuS (w wc : World) (B lo : Nat) (A : Nat → Prop) (r : Int) (v : Value) (L : List (TT 6)) : Prop where
  bel:Below w.heap.size w wc
  box:Blk wc B #[.int .i64 3,.int .i64 r,v] 65
  row:TRq wc (fun g=>lo≤g) (fun g=>¬ (A g∨w.heap.size≤g)) v L
  lo1:B<lo
  lo2:lo≤wc.heap.size
  far:w.heap.size≤B
section
variable {w wc w9 : World} {B lo : Nat} {A : Nat → Prop} {r : Int} {v : Value} {L : List (TT 6)}
theorem TRq.below {w w' : World} {O Q : Nat → Prop} {v : Value} {L : List (TT 6)} (h : TRq w O Q v L) (k : Below w.heap.size w w') : TRq w' O Q v L := h.keep (fun g hg _ => k.block g hg) (fun _ hk => h.own hk) (fun _ h _ => h)
theorem TuS.below (h : TuS w wc B lo A r v L) (k : Below wc.heap.size wc w9) : TuS w w9 B lo A r v L :=
  ⟨h.bel.trans (k.mono h.bel.size),h.box.below k,h.row.below k,h.lo1,Nat.le_trans h.lo2 k.size,h.far⟩
theorem TuS.push {a : Option Addr} {c g cap : Nat} {xs : List Value} {t : TT 6} {p : Option Addr} {d : Nat} (h : TuS w wc B lo A r (.slice a L.length c) L) (hx : wc.ownsRow 0 65 3 (.slice a L.length c) L.length xs) (ht : (Lay.tt 6).In wc (fun g => ¬ (A g ∨ w.heap.size ≤ g)) t [.int .i64 t.kind, .int .i64 t.r, .slice p t.len d])
    (h1:w9.ownsRow 0 65 3 (.slice (some ⟨g,0,none⟩) (L.length+1) cap) (L.length+1) (xs++[.int .i64 t.kind,.int .i64 t.r,.slice p t.len d])) (h2:wc.grownBy w9 (Value.slice a L.length c).ownBlock) (h3:(Value.slice a L.length c).ownBlock=some g∨g=wc.heap.size) :
    w9.cell? ⟨B,2,none⟩=some (.slice a L.length c)∧w9.frozen? ⟨B,2,none⟩=false∧TuS w (w9.setCell ⟨B,2,none⟩ (.slice (some ⟨g,0,none⟩) (L.length+1) cap)) B lo A r (.slice (some ⟨g,0,none⟩) (L.length+1) cap) (L++[t]):=by
  have hsz:=h2.size;have hlo1:=h.lo1;have hlo2:=h.lo2;have hbl:=h.box.lt;have hsc:=h.bel.size;have hown:∀ k,(Value.slice a L.length c).ownBlock=some k→lo≤k:=fun k hk=>h.row.own hk;have kb:Blk w9 B #[.int .i64 3,.int .i64 r,.slice a L.length c] 65:=(h2.block B hbl (fun e=>by have:=hown B e.symm;omega)).trans h.box
  have hlog:lo≤g:=by
    rcases h3 with h3 | h3
    · exact hown g h3
    · omega
  have hgB:g≠B:=by omega
  have far:=h.far
  have low:∀ k,k<w.heap.size→(w9.setCell ⟨B,2,none⟩ (.slice (some ⟨g,0,none⟩) (L.length+1) cap)).heap[k]?=wc.heap[k]?:=fun k hk=>by
    rw [Below.heap_setCell _ _ _ _ (show k≠B by omega),h2.block k (by omega) (fun e=>by have:=hown k e.symm;omega)]
  refine ⟨cellOf kb 2 _ rfl,freeOf kb 2,⟨⟨h2.os.trans h.bel.os,h2.tape.trans h.bel.tape,h2.output.trans h.bel.output,by simp;omega,fun k hk=>(low k hk).trans (h.bel.block k hk)⟩,?_,?_,hlo1,by simp;omega,far⟩⟩
  · have:=blockSet kb 2 (.slice (some ⟨g,0,none⟩) (L.length+1) cap)
    simpa using this
  · obtain ⟨xs',q1,q2,q3⟩:=h.row
    have e:xs'=xs:=by
      obtain ⟨e1,e2⟩:=q1;obtain ⟨f1,f2⟩:=hx;rcases e2 with ⟨e3,e4⟩ | ⟨g1,cap1,cur1,e3,e4,e5,e6,e7,e8,e9⟩
      · have:L.length=0:=e4
        rw [List.length_eq_zero_iff.1 (show xs'.length=0 by rw [e1,this]),List.length_eq_zero_iff.1 (show xs.length=0 by rw [f1,this])]
      · rcases f2 with ⟨f3,f4⟩ | ⟨g2,cap2,cur2,f3,f4,f5,f6,f7,f8,f9⟩
        · rw [f3] at e3;cases e3
        · rw [e3] at f3
          cases f3
          rw [e5] at f5
          cases f5
          rw [← e9,← f9]
    subst e;refine ⟨xs'++[.int .i64 t.kind,.int .i64 t.r,.slice p t.len d],?_,fun k hk=>?_,?_⟩
    · rw [List.length_append];exact owns_keep h1 (Below.heap_setCell _ _ _ _ hgB)
    · simp [Value.ownBlock] at hk;subst hk;exact hlog
    · have keep:∀ {x:TT 6} {cs:List Value},(Lay.tt 6).In wc (fun g=>¬ (A g∨w.heap.size≤g)) x cs→(Lay.tt 6).In (w9.setCell ⟨B,2,none⟩ (.slice (some ⟨g,0,none⟩) (L.length+1) cap)) (fun g=>¬ (A g∨w.heap.size≤g)) x cs:=fun hx=>(Lay.tt 6).keep (fun k hk _=>low k (Nat.lt_of_not_le (fun e=>hk (.inr e)))) (fun _ h _=>h) hx;refine kids_append (s:=3) (P:=fun x cs=>(Lay.tt 6).In _ _ x cs) q1.1 (fun i x hx=>keep (q3 i x hx)) (fun i x hx=>?_);have hi:i<1:=by simpa using (List.getElem?_eq_some_iff.1 hx).1
      have hi0:i=0:=by omega
      subst hi0;simp at hx
      subst hx;exact keep ht
end
theorem owns_below {w w' : World} {e : TypeId} {s n : Nat} {v : Value} {xs : List Value} (h : w.ownsRow 0 e s v n xs) (hb : Below w.heap.size w w') : w'.ownsRow 0 e s v n xs := by
  obtain ⟨h1,h2⟩:=h;refine ⟨h1,?_⟩;rcases h2 with h4 | ⟨g,cap,cur,e',hg,hh,r⟩
  · exact .inl h4
  · exact .inr ⟨g,cap,cur,e',hg,(hb.block g (lt_of_block hh)).trans hh,r⟩
theorem TuS.lin {w wc : World} {B lo : Nat} {A : Nat → Prop} {r : Int} {a : Option Addr} {N c : Nat} {L : List (TT 6)} (h : TuS w wc B lo A r (.slice a N c) L) (hA : ∀ k, A k → k < w.heap.size) : LIn wc (fun g => ¬ A g) L a ∧ N = L.length ∧ ∀ x ∈ L, x.ok := by
  obtain ⟨a',c',e,hle,hrd,-⟩:=h.row.form;simp only [Value.slice.injEq] at e;obtain ⟨rfl,rfl,rfl⟩:=e;have hlo:=h.lo1;have hf:=h.far;refine ⟨fun i x hx=>?_,rfl,fun x hx=>?_⟩
  · obtain ⟨g,a',c',e,h0,h1,h2,h3,h4⟩:=hrd i x hx;subst e;have hg:lo≤g:=h.row.own rfl;refine ⟨g,0,a',c',rfl,fun e=>by have:=hA g e;omega,?_,?_,?_,h3.mono (fun k hk _ e=>hk (.inl e))⟩
    · rw [Nat.zero_add];exact h0
    · rw [Nat.zero_add];exact h1
    · rw [Nat.zero_add];exact h2
  · obtain ⟨i,hi,e⟩:=List.mem_iff_getElem.1 hx;obtain ⟨g,a',c',e,h0,h1,h2,h3,h4⟩:=hrd i x (by rw [List.getElem?_eq_getElem hi,e]);exact h4
theorem sum_count {r : Int} {l : List (TT 6)} (h : ∀ x ∈ l, x.count ≤ 4681) (hl : l.length ≤ 8) : TT.count (n := 7) (mkT 3 r l) ≤ 100000 := by
  show 1+(l.map TT.count).sum≤100000;have h1:=sum_le_mul (l.map TT.count) 4681 (fun x hx=>by obtain ⟨y,hy,rfl⟩:=List.mem_map.1 hx;exact h y hy);rw [List.length_map] at h1;have h2:l.length*4681≤8*4681:=Nat.mul_le_mul_right _ hl;omega
theorem tuple_row {w : World} {A : Nat → Prop} (hA : ∀ k, A k → k < w.heap.size) {r : Int} {L : List (TT 6)} {p : Option Addr} {c d : Nat} (hr : 0 ≤ r ∧ r ≤ 1000) (hh : ¬ 4 < TT.height (n := 7) (mkT 3 r L)) (hl : LIn w (fun g => ¬ A g) L p) (hok : ∀ x ∈ L, x.ok) :
    (typesL 6).In (w.alloc (.cells #[.int .i64 3,.int .i64 r,.slice p L.length c] 65)) (fun g=>¬ A g) [TT.at (n:=7) 5 (mkT 3 r L)] [.slice (some ⟨w.heap.size,0,none⟩) 1 d]:=by
  have h5:TT.height (n:=7) (mkT 3 r L)≤5:=by omega
  have:=one_row (t:=TT.at (n:=7) 5 (mkT 3 r L)) (p:=p) (c:=c) (d:=d) hA (TIn.at 5 h5 (LIn.tree hl)) (TT.at_ok 5 ⟨⟨by show -9223372036854775808≤r;omega,by show r≤9223372036854775807;omega⟩,hok⟩)
  rw [TT.at_kind,TT.at_r,TT.at_len 5 _ h5] at this;exact this
theorem enters_value : Enters 74 := fun _ _ => by kernel_rfl
theorem stuple_any {w : World} {b : Nat} {O A Q : Nat → Prop} {s : JSt} (a : Int) {args : List Int} {pa : Option Addr} {N ca : Nat} (hN : args.length = N) (hN2 : N ≤ 8) (hl : intsL.In w Q args [.slice pa N ca]) (hJ : JOk s) (hA : ∀ k, A k → k < w.heap.size) (h : SAt w b O A s) :
    Calls Tryz.prog 45 #[.pointer (some ⟨b,0,none⟩),.int .i64 a,.slice pa N ca] w fun e w'=>Does w b O A s (s.tupleS a args) (s.tupleC a args) e w':=by
  have hfl:∀ (k r:Int) (p:Option Addr) (l c:Nat) (w:World),(Instr.field 65 (.agg #[.int .i64 k,.int .i64 r,.slice p l c]) 1).run Tryz.prog w=.ok (.int .i64 r) w:=fun _ _ _ _ _ _=>by kernel_rfl
  obtain ⟨i0,hi,hz0,hz1,hz2⟩:=pInfoT;have H:=hid_of h;have HA:=hid_of hA;have HO:Hid (∀ k,O k→k<w.heap.size):=fun k hk=>hA k (h.sub k hk);have HL:=hid_of hl;have HN:=hid_of hN;have HJ:=hid_of hJ;have hL:=hJ.vals;clear h hA hl hN hJ;go_enter Tryz.func45,Tryz.ntmps45
  go_wp2_with fail
  refine (sheld_any a 2 hL HO.out H.out).mono ?_;rintro e' w2 ⟨hO,b2⟩;have HB:=hid_of b2;clear b2;rcases hO with ⟨hc,x,rfl,t,p,c,ha,rfl,ht,hok⟩ | ⟨hc,rfl⟩
  rotate_left
  · exact ⟨rfl,Does.bad (by unfold JSt.tupleC;rw [code2_ne hc]) hc (STo.of_below H.out HB.out)⟩
  have hr:0≤t.r∧t.r<s.H.length:=by
    obtain ⟨t',e1,e2,e3⟩:=want_zero hc;rw [ha] at e1
    cases e1
    exact hHas_range (e3 rfl)
  have HR:=hid_of hr;have E:Hid (s.tupleC a args=match s.fields args with | none=>1 | some l=>if 4<TT.height (n:=7) (mkT 3 t.r l) then 19 else roomC s.L.length 1):=by show _=_;unfold JSt.tupleC;rw [code2_eq hc,ha]
  have ES:Hid (∀ l,s.fields args=some l→s.tupleS a args={ s with L:=s.L++[TT.at (n:=7) 5 (mkT 3 t.r l)] }):=fun l hl=>by unfold JSt.tupleS;rw [ha,hl]
  clear hr hc ha ht hok;simp only [Tv];go_upto_region 1 with fail
  have T0:Hid (TuS w (w2.alloc (.cells #[.int .i64 3,.int .i64 t.r,.slice none 0 0] 65)) w2.heap.size (w2.heap.size+1) A t.r (.slice none 0 0) []) :=
    ⟨HB.out.trans ((bel1 _ _).mono HB.out.size),Blk.new _ _ _,⟨[],⟨rfl,.inl ⟨rfl,rfl⟩⟩,fun g hg=>by simp [Value.ownBlock] at hg,fun i x hx=>by simp at hx⟩,Nat.lt_succ_self _,by simp,HB.out.size⟩
  generalize w2.alloc (.cells #[.int .i64 3,.int .i64 t.r,.slice none 0 0] 65)=w3 at T0 ⊢;generalize w2.heap.size=B at T0 ⊢;generalize t.r=r at T0 HR E ES ⊢;clear HB;go_wp2
  go_loopw [16] (fun i wr=>∃ (k:Nat) (v:Value) (L:List (TT 6)),k≤N∧i=.int .i64 k∧TuS w wr B (B+1) A r v L∧s.fields (args.take k)=some L) (fun i _=>N - (intOf i).toNat)
  case atStart=>exact ⟨0,_,_,Nat.zero_le _,rfl,T0.out,rfl⟩
  case round =>
    clear T0;obtain ⟨k,v,L,hk,rfl,hT,hf⟩:=hrel;have HF:=hid_of hf
    have HLK:Hid (L.length=k):=by
      show _=_
      have:=(fields_some hf).1
      rw [List.length_take,HN.out] at this;omega
    have hL8:L.length≤8:=by have:=HLK.out;omega
    obtain ⟨aL,cL,rfl,hle,-,xs,how⟩:=hT.row.form;have T1:=hid_of hT;have HOW:=hid_of how;clear hf hT how;by_cases hlt:k<N
    · have hlt':(k:Int)<N:=by omega
      have hk2:k<args.length:=by rw [HN.out];exact hlt
      obtain ⟨g,o,rfl,-,hg,hc0⟩:=ints_at HL.out hk2;obtain ⟨y,hy⟩:∃ y,args[k]?=some y:=⟨_,List.getElem?_eq_getElem hk2⟩;rw [show args.getD k 0=y by rw [List.getD_eq_getElem?_getD,hy];rfl] at hc0;have HX:=hid_of hy;have y0:=stay hc0 T1.out.bel;have z2:=cellOf T1.out.box 2 _ rfl;clear hc0 hk2 hy;go_upto_region 4 with fail
      have BD:Hid (Below w.heap.size w wr.drew):=js_drew T1.out.bel
      go_region_law (first
        | (refine step_call_fn2 rfl 74 (.tmp 22) (.tmp 23) 28 3 rfl enters_value (.pointer (some ⟨b,0,none⟩)) (.int .i64 y) (by simp [Act.eval,Act.put]) (by simp [Act.eval,Act.put]) (svalue_any y hL (H.out.more HO.out BD.out)) ?_
           rintro e' w4 ⟨hO,b4⟩;rcases hO with ⟨hc,x,rfl,u,q,d,hu,rfl,hut,hok⟩ | ⟨hc,rfl⟩
           rotate_left
           · have hno:s.at y=none:=by
               unfold JSt.has at hc
               cases e:s.at y with
               | none=>rfl
               | some t=>rw [e] at hc;exact absurd rfl hc
             exact ⟨rfl,Does.bad (d:=s.has y) (by rw [E.out,fields_not (List.mem_of_getElem? HX.out) hno];unfold JSt.has;rw [hno]) hc (STo.of_below H.out (BD.out.trans (b4.mono BD.out.size)))⟩
           have T4:=hid_of (T1.out.below (js_undrew b4));have HU:=hid_of hu;have I4:Hid ((Lay.tt 6).In w4 (fun g=>¬ (A g∨w.heap.size≤g)) u [.int .i64 u.kind,.int .i64 u.r,.slice q u.len d]):=⟨q,d,rfl,hut,hok⟩;have z4:=cellOf T4.out.box 2 _ rfl;have hB4:=T4.out.box.lt;have HOW4:=hid_of (owns_below HOW.out (js_undrew b4));clear hu hut hok b4 hc;dsimp only [Upon])
        | (refine step_append_lies _ rfl (.tmp 21) (.tmp 25) 33 rfl 0 65 i0 (.agg #[.int .i64 0,.int .i64 0,.slice none 0 0]) 3 40 pUnderT hi hz0 hz1 hz2 rfl (by decide) (.slice aL L.length cL) L.length xs (by simp [Act.eval,Act.put]) (HOW4.out.alloc _) ⟨w4.heap.size,0,none⟩ 1 1 [.int .i64 u.kind,.int .i64 u.r,.slice q u.len d] (by simp [Act.eval,Act.put]) rfl (newsP _ _ _) (pOneT _ _ _ _ _) (by decide) (by unfold maxLen;omega) (by omega) (Nat.zero_le _) (w4.heap.size+1) (by simp) ?_
           intro g2 cap2 w9 h1 h2 h3 h4;have b5:=bel1 w4 (.cells #[.int .i64 u.kind,.int .i64 u.r,.slice q u.len d] 65);obtain ⟨z9,f9,t9⟩:=(T4.out.below b5).push (owns_below HOW4.out b5) (Lay.below I4.out b5) h1 h2 (by simpa using h3);have T9:=hid_of t9;clear h1 h2 h3 h4 b5 t9))
      all_goals
        have FF:=hid_of (fields_snoc HX.out HU.out HF.out);clear T4 HU I4 z4 HOW4 z9 f9 hB4;generalize w9.setCell ⟨B,2,none⟩ (.slice (some ⟨g2,0,none⟩) (L.length+1) cap2)=w10 at T9 ⊢;go_wp2
        go_roundw
        case rel=>exact ⟨k+1,_,L++[u],hlt,by go_num,T9.out,FF.out⟩
        case measure=>simp [intOf];omega
    · have hkN:k=N:=by omega
      have hlt':¬ (k:Int)<N:=by omega
      have hfa:s.fields args=some L:=by
        have:=HF.out
        rwa [List.take_of_length_le (by rw [HN.out];omega)] at this
      obtain ⟨hlin,-,hoks⟩:=T1.out.lin HA.out;have hck:∀ x∈L,x.check s.H.length=0:=fun x hx=>HJ.out.types x ((fields_some hfa).2 x hx);have EC:Hid (TT.check (n:=7) (s.H.length:Int) (mkT 3 r L)=if 4<TT.height (n:=7) (mkT 3 r L) then 19 else 0):=tuple_check HR.out hL8 hck;have E2:Hid (s.tupleC a args=if 4<TT.height (n:=7) (mkT 3 r L) then 19 else roomC s.L.length 1):=by show _=_;rw [E.out,hfa]
      have ES2:=hid_of (ES.out L hfa);have HLI:=hid_of (And.intro hlin hoks);have HCN:Hid (TT.count (n:=7) (mkT 3 r L)≤100000):=sum_count (fun x hx=>check_count (hck x hx)) hL8;have H9:=hid_of (H.out.below T1.out.bel);obtain ⟨pm,cm,hh,a1,c1,a2,c2,a3,c3,aL',cL',RR⟩:=H9.out.read;obtain ⟨-,q1,-⟩:=RR.cells;have CL:Hid (∀ m,Calls Tryz.prog 9 #[.pointer (some ⟨hh,0,none⟩)] (wr.drewN m) fun e w'=>e=.returned (.int .i64 (s.H.length:Int))∧w'=wr.drewN m):=fun m=>held_len (show HeldAt (wr.drewN m) hh s.H from RR.held);have CC:Hid (Calls Tryz.prog 75 #[.agg #[.int .i64 3,.int .i64 r,.slice aL L.length cL],.int .i64 (s.H.length:Int)] wr.drew fun e w'=>e=.returned (.int .i64 (TT.check (n:=7) (s.H.length:Int) (mkT 3 r L)))∧Below wr.drew.heap.size wr.drew w'):=check_any 7 (mkT 3 r L) aL cL _ wr.drew (TIn.all (LIn.tree hlin).drew) HCN.out;obtain ⟨z0,z1,z2⟩:=cells3 T1.out.box;clear hfa hlin hoks hck RR HF HLK;generalize TT.check (n:=7) (s.H.length:Int) (mkT 3 r L)=ck at EC CC;generalize (s.H.length:Int)=nH at CL CC;go_upto_region 6 with fail
      go_region_with (first
        | (go_at_call 9;refine (CL.out _).mono ?_;rintro e w' ⟨rfl,hw⟩;have hw:=hw.symm;subst hw)
        | (go_at_call 75;refine (CC.out).mono ?_;rintro e w4 ⟨rfl,b4⟩;have B4:=hid_of (js_undrew b4);clear b4)
        | (go_at_call 72;refine (smust_any _ _ _).mono ?_;rintro e' w' ⟨hw,⟨hq,rfl⟩ | ⟨hq,rfl⟩⟩;rotate_left;exact ⟨rfl,Does.bad (d:=19) (by rw [E2.out];have hq':ck≠0:=(by simpa using hq);rw [EC.out] at hq';by_cases h4:4<TT.height (n:=7) (mkT 3 r L);rw [if_pos h4];rw [if_neg h4] at hq';exact absurd rfl hq') (by decide) (by rw [hw];exact STo.of_below H.out (T1.out.bel.trans (B4.out.mono T1.out.bel.size)))⟩;have hw:=hw.symm;subst hw))
      all_goals
        have hq':ck=0:=by simpa using hq
        have h4:¬ 4<TT.height (n:=7) (mkT 3 r L):=fun h4=>by
          have:=EC.out
          rw [if_pos h4,hq'] at this
          cases this
        have E3:Hid (s.tupleC a args=roomC s.L.length 1):=by show _=_;rw [E2.out,if_neg h4]
        have T5:=hid_of (T1.out.below B4.out);have HA5:Hid (∀ k,A k→k<w4.heap.size):=fun k hk=>Nat.lt_of_lt_of_le (HA.out k hk) T5.out.bel.size
        have CM:Hid (∀ d,Calls Tryz.prog 46 #[.pointer (some ⟨b,0,none⟩),.slice (some ⟨w4.heap.size,0,none⟩) 1 d] (w4.alloc (.cells #[.int .i64 3,.int .i64 r,.slice aL L.length cL] 65)) fun e w'=>Does w b O A s (s.tupleS a args) (s.tupleC a args) e w'):=fun d=>by
          have b1:=bel1 w4 (.cells #[.int .i64 3,.int .i64 r,.slice aL L.length cL] 65);have hb9:=T5.out.bel.trans (b1.mono T5.out.bel.size);rw [ES2.out,E3.out];exact (smakes_any (l:=[TT.at (n:=7) 5 (mkT 3 r L)]) rfl (by simp) (tuple_row (c:=cL) (d:=d) HA5.out (by have:=HR.out;have:=HJ.out.regs;omega) h4 (HLI.out.1.below B4.out) HLI.out.2) hL (fun k hk=>Nat.lt_of_lt_of_le (HA5.out k hk) b1.size) (H.out.below hb9)).mono (fun e w' hd=>hd.after hb9)
        obtain ⟨y0,y1,y2⟩:=cells3 T5.out.box;clear hq hq' h4 CC CL E3;go_wp2_with fail
        refine (CM.out _).mono ?_;rintro e' w5 hd;have F:=hid_of hd;rcases hd with ⟨h1,rfl,h3⟩ | ⟨h1,rfl,h3⟩
        rotate_left
        · exact ⟨rfl,F.out⟩
        clear h1 h3 CM;go_wp2
        exact bodyPost_end (v:=.tuple #[]) (by simp [results,Tryz.results45,go_sem]) rfl F.out
end Go.Proofs.YtilanenoliopbaeGreat
namespace Go.Proofs.YtilanenoliopbaeGreat
open Go.ChangeShapes Go.WideShapes Go.ChangeAt Go.RowKit Go.Deep
set_option linter.unusedVariables false
def Wt {H : Type} (P : Program) (t : TypeId) (d : DataW H) : Prop := ∀ n ∈ d.weights P t, n ≤ reachBytes
def ReadsB (P : Program) (t : TypeId) {α : Type} (A : Lay α) (n : Nat) (Bd : α → Prop) : Prop :=
  P.cellsOf t=A.size∧∀ {H:Type} {enc:TypeId × Value→H} {w:World} {base:Nat} {spare:Nat→Bool} {held:Bool} {fuel:Nat} {cs:List Value} {x:DataW H × List MemPlace},
    fuel≤n→DataW.trod enc P w base spare held fuel t cs=some x→Wt P t x.1→∃ d,A.In w (fun _=>True) d cs∧Bd d
theorem ReadsB.int {P : Program} {t : TypeId} (n : Nat) (h : P.underlying t = some (.int .i64)) (hc : P.cellsOf t = 1) : ReadsB P t Lay.int n (fun _ => True) :=
  ⟨hc,fun _ h' _=>by
    obtain ⟨k,e,_,wf⟩:=DataW.trod_int h h';exact ⟨k,⟨e,Go.bounds_i64 wf⟩,trivial⟩⟩
theorem weightsAll_mem {H : Type} {P : Program} {e : TypeId} : ∀ {l : List (DataW H)} {d : DataW H}, d ∈ l → ∀ n ∈ d.weights P e, n ∈ DataW.weightsAll P e l
  | d0::l,d,h,n,hn=>by
    simp only [DataW.weightsAll,List.mem_append];rcases List.mem_cons.1 h with rfl | h
    · exact .inl hn
    · exact .inr (weightsAll_mem h n hn)
theorem ReadsB.list {P : Program} {t e : TypeId} {α : Type} {A : Lay α} {n : Nat} {Bd : α → Prop} (h : P.underlying t = some (.slice e)) (hc : P.cellsOf t = 1) (hA : ReadsB P e A n Bd) (h0 : 0 < A.size) (hbe : 0 < P.bytesOf e) : ReadsB P t A.list n (fun l => l.length < 1152921504606846976) :=
  ⟨hc,fun {H enc w base spare held fuel cs x} hf h' hw=>by
    rcases DataW.trod_slice h h' with ⟨e2,_⟩ | ⟨a,len,cap,elems,rest,q,rfl,e2,ex,hb,hl,hm,hlen,hel,_,_⟩
    · exact ⟨[],by rw [e2];exact Lay.list_nil A _ _ _ _,by simp⟩
    · have hlw:(elems.length+rest.length)*P.bytesOf e≤reachBytes:=hw _ (by rw [ex];simp [DataW.weights,h])
      have hlb:len<1152921504606846976:=by
        have h1:elems.length*1≤(elems.length+rest.length)*P.bytesOf e:=Nat.mul_le_mul (by omega) hbe;have h2:reachBytes<1152921504606846976:=by decide
        omega
      have hel':∀ i,i<len→∃ y,elems[i]?=some y∧Wt P e y.1:=fun i hi=>by
        refine ⟨elems[i]'(by omega),List.getElem?_eq_getElem (by omega),fun k hk=>hw k ?_⟩;rw [ex];simp only [DataW.weights,h,List.mem_cons,List.mem_append];exact .inr (.inl (weightsAll_mem (List.mem_map_of_mem (List.getElem_mem (by omega))) k hk))
      obtain ⟨l,hll,hp⟩:=list_of' (P:=fun i (d:α)=>∃ ds,w.cells? base (a.add (i*A.size)) A.size=some ds∧A.In w (fun _=>True) d ds) len (fun i hi=>by
        have he:=hel i hi;obtain ⟨y,hy,hwy⟩:=hel' i hi;rw [hy,hA.1] at he;rw [Option.bind_eq_some_iff] at he;obtain ⟨ds,hds,htr⟩:=he;obtain ⟨d,hd,_⟩:=hA.2 (by omega) htr hwy;exact ⟨d,ds,hds,hd⟩)
      refine ⟨l,⟨some a,cap,by rw [e2,hll],fun i x hx=>?_⟩,by omega⟩;obtain ⟨ds,hds,hd⟩:=hp i x hx;obtain ⟨_,hcl,hcell⟩:=World.cells?_some hds;obtain ⟨b,off,spot⟩:=a
      have hspot:spot=none:=by
        have hi:0<l.length:=Nat.lt_of_le_of_lt (Nat.zero_le i) (List.getElem?_eq_some_iff.1 hx).1;obtain ⟨ds0,hds0,hd0⟩:=hp 0 l[0] (List.getElem?_eq_getElem hi);have hl0:0<ds0.length:=by rw [A.len hd0];exact h0
        have:=(World.cells?_some hds0).2.2 0 h0
        rw [List.getElem?_eq_getElem hl0] at this;simpa [Addr.add] using World.cell?_spot this
      subst hspot
      have key:∀ j,j<A.size→w.cell? ⟨b,off+i*A.size+j,none⟩=ds[j]?:=fun j hj=>by
        have:=hcell j hj
        rw [Go.WideShapes.add_plain,Go.WideShapes.add_plain] at this;exact this
      refine ⟨b,off,ds,rfl,trivial,?_,key,hd⟩;have hl0:0<ds.length:=by rw [A.len hd];exact h0
      have:=key 0 h0
      rw [List.getElem?_eq_getElem hl0] at this;exact World.block_lt_of_cell? w _ this⟩
def FieldsB (P : Program) (fs : Array Field) : Nat → Nat → {α : Type} → Lay α → Nat → (α → Prop) → Prop := fun i o α A n Bd =>
  ∀ (H:Type) (enc:TypeId × Value→H) (w:World) (base:Nat) (spare:Nat→Bool) (held:Bool) (fuel:Nat) (cs:List Value) (xs:List (DataW H × List MemPlace)),
    fuel≤n→cs.length=o+A.size→xs.length=fs.size→(∀ (j:Nat) (f:Field),fs[j]?=some f→DataW.trod enc P w base spare held fuel f.type ((cs.drop f.offset).take (P.cellsOf f.type))=xs[j]?) →
    (∀ (j:Nat) (f:Field) x,fs[j]?=some f→xs[j]?=some x→Wt P f.type x.1)→∃ d,A.In w (fun _=>True) d (cs.drop o)∧Bd d
theorem FieldsB.last {P : Program} {fs : Array Field} {i o n : Nat} {f : Field} {α : Type} {A : Lay α} {Bd : α → Prop} (hf : fs[i]? = some f) (ho : f.offset = o) (hA : ReadsB P f.type A n Bd) : FieldsB P fs i o A n Bd := by
  intro H enc w base spare held fuel cs xs hn hl hx h hw;have g:=h i f hf;have hi:i<fs.size:=(Array.getElem?_eq_some_iff.1 hf).1;rw [List.getElem?_eq_getElem (by omega),ho,hA.1] at g;obtain ⟨d,hd,hb⟩:=hA.2 hn g (hw i f _ hf (List.getElem?_eq_getElem (by omega)));refine ⟨d,?_,hb⟩;rwa [List.take_of_length_le (by simp;omega)] at hd
theorem FieldsB.cons {P : Program} {fs : Array Field} {i o n : Nat} {f : Field} {α β : Type} {A : Lay α} {B : Lay β} {Bd : α → Prop} {Be : β → Prop} (hf : fs[i]? = some f) (ho : f.offset = o) (hA : ReadsB P f.type A n Bd) (hB : FieldsB P fs (i + 1) (o + A.size) B n Be) : FieldsB P fs i o (A.pair B) n (fun x => Bd x.1 ∧ Be x.2) := by
  intro H enc w base spare held fuel cs xs hn hl hx h hw;have g:=h i f hf;have hi:i<fs.size:=(Array.getElem?_eq_some_iff.1 hf).1;rw [List.getElem?_eq_getElem (by omega),ho,hA.1] at g;obtain ⟨d,hd,hb⟩:=hA.2 hn g (hw i f _ hf (List.getElem?_eq_getElem (by omega)));have hs:(A.pair B).size=A.size+B.size:=rfl;obtain ⟨e,he,hb2⟩:=hB _ _ _ _ _ _ _ _ _ hn (by omega) hx h hw;refine ⟨(d,e),⟨_,_,?_,hd,he⟩,hb,hb2⟩;rw [← List.drop_drop,List.take_append_drop]
theorem ReadsB.struct {P : Program} {t : TypeId} {fs : Array Field} {α : Type} {A : Lay α} {n : Nat} {Bd : α → Prop} (h : P.underlying t = some (.struct fs)) (hc : P.cellsOf t = A.size) (hF : FieldsB P fs 0 0 A n Bd) : ReadsB P t A n Bd :=
  ⟨hc,fun {H enc w base spare held fuel cs x} hf h' hw=>by
    obtain ⟨xs,m,rfl,ex,hcl,hxl,hfl⟩:=DataW.trod_struct h h'
    obtain ⟨d,hd,hb⟩:=hF _ _ _ _ _ _ _ _ _ (by omega) (by rw [hcl,hc];omega) hxl hfl (fun j f y hj hy k hk=>hw k (by
      rw [ex];simp only [DataW.weights,h];exact DataW.weights_mem_each (j:=j) (t:=f.type) (d:=y.1) (by simp [hj]) (by simp [hy]) k hk))
    exact ⟨d,by simpa using hd,hb⟩⟩
theorem ReadsB.via {P : Program} {t : TypeId} {α β : Type} {A : Lay α} {n : Nat} {f : β → α} {Bd : α → Prop} (h : ReadsB P t A n Bd) (g : α → β) (hg : ∀ d, f (g d) = d) : ReadsB P t (A.via f) n (fun x => Bd (f x)) :=
  ⟨h.1,fun hf h' hw=>by
    obtain ⟨d,hd,hb⟩:=h.2 hf h' hw;exact ⟨g d,by show A.In _ _ (f (g d)) _;rw [hg];exact hd,by show Bd (f (g d));rw [hg];exact hb⟩⟩
theorem own : ownKnob Tryz.prog.godebug = none := by kernel_rfl
theorem laidOut : laidOutB Tryz.prog = true := by kernel_rfl
theorem fieldsT : ∃ f0 f1 f2 : Field, Tryz.prog.underlying 65 = some (.struct #[f0, f1, f2]) ∧
    (f0.offset=0∧Tryz.prog.cellsOf f0.type=1∧Tryz.prog.underlying f0.type=some (.int .i64))∧(f1.offset=1∧Tryz.prog.cellsOf f1.type=1∧Tryz.prog.underlying f1.type=some (.int .i64)) ∧
    (f2.offset=2∧Tryz.prog.cellsOf f2.type=1∧f2.type=33) :=
  ⟨_,_,_,Tryz.underlying65,⟨rfl,by kernel_rfl,by kernel_rfl⟩,⟨rfl,by kernel_rfl,by kernel_rfl⟩,⟨rfl,by kernel_rfl,rfl⟩⟩
theorem readsT (n : Nat) : ReadsB Tryz.prog 65 (Lay.tt n) n (fun _ => True) :=
  ⟨by kernel_rfl,fun {H enc w base spare held fuel cs x} hf h' hw=>by
    obtain ⟨f0,f1,f2,e,h0,h1,h2⟩:=fieldsT;obtain ⟨t,a,c,hc,h3,h4⟩:=tin_of (ti:=0) Tryz.underlying33 e (by kernel_rfl) h0 h1 h2 n fuel hf h';exact ⟨t,⟨a,c,hc,h3,h4⟩,trivial⟩⟩
theorem readsI (n : Nat) : ReadsB Tryz.prog 3 Lay.int n (fun _ => True) := ReadsB.int n Tryz.underlying3 (by kernel_rfl)
theorem readsI6 (n : Nat) : ReadsB Tryz.prog 2 Lay.int n (fun _ => True) := ReadsB.int n Tryz.underlying2 (by kernel_rfl)
theorem readsTs (n : Nat) : ReadsB Tryz.prog 33 (typesL n) n (fun l => l.length < 1152921504606846976) := ReadsB.list Tryz.underlying33 (by kernel_rfl) (readsT n) (by show 0 < 3; decide) (by rw [show Tryz.prog.bytesOf 65 = 40 from by kernel_rfl]; decide)
end Go.Proofs.YtilanenoliopbaeGreat
namespace Go.Proofs.YtilanenoliopbaeGreat
open Go.ChangeShapes Go.WideShapes Go.ChangeAt Go.RowKit
set_option linter.unusedVariables false
def Lay.listC {α : Type} (A : Lay α) : Lay (List α) where
  size:=1
  In:=fun w O l cs=>(∃ a c,cs=[.slice a l.length c]∧l.length≤c)∧A.list.In w O l cs
  len:=fun h=>A.list.len h.2
  keep:=fun hb hl h=>⟨h.1,A.list.keep hb hl h.2⟩
theorem Reads.listC {P : Program} {t e : TypeId} {α : Type} {A : Lay α} {n : Nat} (h : P.underlying t = some (.slice e)) (hc : P.cellsOf t = 1) (hA : Reads P e A n) (h0 : 0 < A.size) : Reads P t A.listC (n + 1) :=
  ⟨hc,fun {H enc w base spare held fuel cs x} hf h'=>by
    obtain ⟨l,hl⟩:=(Reads.list h hc hA h0).2 hf h';refine ⟨l,?_,hl⟩;obtain ⟨a,c,e,_⟩:=hl;refine ⟨a,c,e,?_⟩;rcases DataW.trod_slice h h' with ⟨e2,_⟩ | ⟨a2,len,cap,elems,rest,q,_,e2,_,_,hle,_⟩
    · rw [e] at e2;simp at e2
      simp [e2.2.1]
    · rw [e] at e2;simp at e2
      omega⟩
def Lay.Sub {α : Type} (A B : Lay α) : Prop := A.size = B.size ∧ ∀ {w : World} {O : Nat → Prop} {x : α} {cs : List Value}, A.In w O x cs → B.In w O x cs
theorem Lay.Sub.refl {α : Type} (A : Lay α) : Lay.Sub A A := ⟨rfl, id⟩
theorem Lay.Sub.listC {α : Type} (A : Lay α) : Lay.Sub A.listC A.list := ⟨rfl, fun h => h.2⟩
theorem Lay.Sub.pair {α β : Type} {A A' : Lay α} {B B' : Lay β} (h : Lay.Sub A A') (k : Lay.Sub B B') : Lay.Sub (A.pair B) (A'.pair B') :=
  ⟨by show A.size+B.size=A'.size+B'.size;rw [h.1,k.1],fun ⟨c1,c2,e,h1,h2⟩=>⟨c1,c2,e,h.2 h1,k.2 h2⟩⟩
theorem Lay.Sub.list {α : Type} {A A' : Lay α} (h : Lay.Sub A A') : Lay.Sub A.list A'.list :=
  ⟨rfl,fun ⟨a,c,e,k⟩=>⟨a,c,e,fun i x hx=>by
    obtain ⟨g,o,ds,e1,e2,e3,e4,e5⟩:=k i x hx;exact ⟨g,o,ds,e1,e2,e3,by rw [← h.1];exact e4,h.2 e5⟩⟩⟩
structure TRow (w : World) (lo : Nat) (v : Value) {n : Nat} (l : List (TT n)) (xs : List Value) : Prop where
  own:w.ownsRow lo 65 3 v l.length xs
  kids:∀ (i:Nat) (x:TT n),l[i]?=some x→∃ a c,xs[i*3]?=some (.int .i64 x.kind)∧xs[i*3+1]?=some (.int .i64 x.r)∧xs[i*3+2]?=some (.slice a x.len c)∧TIn w (But lo v) x a
theorem TRow.nil (w : World) (lo : Nat) {n : Nat} : TRow w lo (.slice none 0 0) ([] : List (TT n)) [] :=
  ⟨⟨rfl,Or.inl ⟨rfl,rfl⟩⟩,fun i x h=>by simp at h⟩
theorem TRow.lin {w : World} {lo : Nat} {v : Value} {n : Nat} {l : List (TT n)} {xs : List Value} (h : TRow w lo v l xs) : ∃ a c, v = .slice a l.length c ∧ LIn w (From lo) l a := by
  obtain ⟨⟨h1,h2⟩,h3⟩:=h;rcases h2 with ⟨rfl,h4⟩ | ⟨g,cap,cur,rfl,hg,hh,hn,hm,hs,ht⟩
  · have:l=[]:=List.length_eq_zero_iff.1 h4
    subst this;exact ⟨none,0,rfl,LIn.nil⟩
  · refine ⟨_,_,rfl,fun i x hx=>?_⟩;obtain ⟨a,c,q0,q1,q2,q3⟩:=h3 i x hx;have hi:i<l.length:=(List.getElem?_eq_some_iff.1 hx).1
    have key:∀ j u,xs[j]?=some u→w.cell? ⟨g,j,none⟩=some u:=fun j u hj=>by
      rw [← ht,List.getElem?_take] at hj;split at hj
      · exact cellOf hh j u (by rw [← Array.getElem?_toList];exact hj)
      · cases hj
    refine ⟨g,0,a,c,rfl,hg,?_,?_,?_,q3.mono (fun k hk _=>hk.1)⟩
    · rw [Nat.zero_add];exact key _ _ q0
    · rw [Nat.zero_add];exact key _ _ q1
    · rw [Nat.zero_add];exact key _ _ q2
theorem TRow.below {w w' : World} {lo : Nat} {v : Value} {n : Nat} {l : List (TT n)} {xs : List Value} (h : TRow w lo v l xs) (b : Below w.heap.size w w') : TRow w' lo v l xs := by
  obtain ⟨⟨h1,h2⟩,h3⟩:=h;refine ⟨⟨h1,?_⟩,fun i x hx=>?_⟩
  · rcases h2 with h4 | ⟨g,cap,cur,e,hg,hh,r⟩
    · exact Or.inl h4
    · exact Or.inr ⟨g,cap,cur,e,hg,(b.block g (lt_of_block hh)).trans hh,r⟩
  · obtain ⟨a,c,q0,q1,q2,q3⟩:=h3 i x hx;exact ⟨a,c,q0,q1,q2,q3.below b⟩
theorem TRow.lo_le {w : World} {lo : Nat} {v : Value} {n : Nat} {l : List (TT n)} {xs : List Value} (h : TRow w lo v l xs) {g : Nat} (hg : v.ownBlock = some g) : lo ≤ g ∧ g < w.heap.size := by
  obtain ⟨⟨h1,h2⟩,h3⟩:=h;rcases h2 with ⟨rfl,h4⟩ | ⟨g',cap,cur,rfl,hg',hh,r⟩
  · simp [Value.ownBlock] at hg
  · simp [Value.ownBlock] at hg;subst hg;exact ⟨hg',lt_of_block hh⟩
theorem TRow.push {w w' : World} {lo : Nat} {v : Value} {n : Nat} {l : List (TT n)} {xs : List Value} (h : TRow w lo v l xs) {x : TT n} {a : Option Addr} {c : Nat} (hx : TIn w (But lo v) x a)
    {g cap:Nat} (hg:w.grownBy w' v.ownBlock) (hat:v.ownBlock=some g∨g=w.heap.size)
    (ho:w'.ownsRow lo 65 3 (.slice (some ⟨g,0,none⟩) (l.length+1) cap) (l.length+1) (xs++[.int .i64 x.kind,.int .i64 x.r,.slice a x.len c])) :
    TRow w' lo (.slice (some ⟨g,0,none⟩) (l.length+1) cap) (l++[x]) (xs++[.int .i64 x.kind,.int .i64 x.r,.slice a x.len c]):=by
  obtain ⟨h1,h3⟩:=h;have hxl:=h1.1
  have keep:∀ {y:TT n} {b:Option Addr},TIn w (But lo v) y b→TIn w' (But lo (.slice (some ⟨g,0,none⟩) (l.length+1) cap)) y b:=fun hy=>by
    refine hy.keep (fun k hk hl=>?_) (fun k hk hl=>⟨hk.1,?_⟩)
    · exact hg.block k hl (fun e=>hk.2 e.symm)
    · simp only [Value.ownBlock,ne_eq,Option.some.injEq];intro e;subst e;rcases hat with h' | h'
      · exact hk.2 h'
      · omega
  refine ⟨by rw [List.length_append];exact ho,fun i y hy=>?_⟩;rw [List.getElem?_append] at hy;split at hy
  · rename_i hi
    obtain ⟨b,d,q0,q1,q2,q3⟩:=h3 i y hy;refine ⟨b,d,?_,?_,?_,keep q3⟩
    · rw [List.getElem?_append_left (by omega)];exact q0
    · rw [List.getElem?_append_left (by omega)];exact q1
    · rw [List.getElem?_append_left (by omega)];exact q2
  · rename_i hi
    have hi2:i=l.length:=by
      have:=(List.getElem?_eq_some_iff.1 hy).1
      simp at this
      omega
    subst hi2;simp at hy
    subst hy;refine ⟨a,c,?_,?_,?_,keep hx⟩
    · rw [List.getElem?_append_right (by omega),hxl,Nat.sub_self];rfl
    · rw [List.getElem?_append_right (by omega),hxl,Nat.add_sub_cancel_left];rfl
    · rw [List.getElem?_append_right (by omega),hxl,Nat.add_sub_cancel_left];rfl
theorem underTs : Tryz.prog.underlying 33 = some (.slice 65) := by kernel_rfl
theorem infoT : (Tryz.prog.info? 65).map (fun i => (i.zero, i.size, i.bytes)) = some (some (.agg #[.int .i64 0, .int .i64 0, .slice none 0 0]), 3, 40) := by kernel_rfl
theorem infoT_parts : ∃ i, Tryz.prog.info? 65 = some i ∧ i.zero = some (.agg #[.int .i64 0, .int .i64 0, .slice none 0 0]) ∧ i.size = 3 ∧ i.bytes = 40 := by
  have h:=infoT
  cases hi:Tryz.prog.info? 65 with
  | none=>rw [hi] at h;cases h
  | some i=>rw [hi] at h;simp at h;exact ⟨i,rfl,h.1,h.2.1,h.2.2⟩
structure Bx2 (w wr : World) (k r : Int) (a : Option Addr) (len c : Nat) : Prop where
  bel:Below w.heap.size w wr
  box:wr.heap[w.heap.size]?=some (.cells #[.int .i64 k,.int .i64 r,.slice a len c] 65 (0,0))
  res:wr.heap[w.heap.size+1]?=some (.cells #[.int .i64 0,.int .i64 0,.slice none 0 0] 65 (0,0))
theorem Bx2.start (w : World) (k r : Int) (a : Option Addr) (len c : Nat) : Bx2 w ((w.alloc (.cells #[.int .i64 k, .int .i64 r, .slice a len c] 65)).alloc (.cells #[.int .i64 0, .int .i64 0, .slice none 0 0] 65)) k r a len c :=
  ⟨((Below.refl _ w).alloc (Nat.le_refl _) _).alloc (by simp) _,(Below.heap_alloc _ _ _ (by simp)).trans (blockNew w _ _),by have:=blockNew (w.alloc (.cells #[.int .i64 k,.int .i64 r,.slice a len c] 65)) #[.int .i64 0,.int .i64 0,.slice none 0 0] 65;simpa using this⟩
theorem Bx2.below {w wr w' : World} {k r : Int} {a : Option Addr} {len c : Nat} (h : Bx2 w wr k r a len c) (b : Below wr.heap.size wr w') : Bx2 w w' k r a len c :=
  ⟨h.bel.trans (b.mono h.bel.size),box_cells h.box b,box_cells h.res b⟩
theorem Bx2.stored {w wr : World} {k r : Int} {a : Option Addr} {len c : Nat} (h : Bx2 w wr k r a len c) (k' r' : Int) (a' : Option Addr) (len' c' : Nat) :
    (((wr.setCell ⟨w.heap.size+1,0,none⟩ (.int .i64 k')).setCell ⟨w.heap.size+1,1,none⟩ (.int .i64 r')).setCell ⟨w.heap.size+1,2,none⟩ (.slice a' len' c')).heap[w.heap.size+1]?=some (.cells #[.int .i64 k',.int .i64 r',.slice a' len' c'] 65 (0,0)) ∧
    Below w.heap.size w (((wr.setCell ⟨w.heap.size+1,0,none⟩ (.int .i64 k')).setCell ⟨w.heap.size+1,1,none⟩ (.int .i64 r')).setCell ⟨w.heap.size+1,2,none⟩ (.slice a' len' c')):=by
  refine ⟨?_,((h.bel.setCell (by simp) _).setCell (by simp) _).setCell (by simp) _⟩;have h1:=blockSet h.res 0 (.int .i64 k');have h2:=blockSet h1 1 (.int .i64 r');have h3:=blockSet h2 2 (.slice a' len' c');simpa using h3
def ToIn (w : World) (b : Option Addr) (m : Nat) (nm : Nat → Int) : Prop := ∀ i, i < m → ∃ g o, b = some ⟨g, o, none⟩ ∧ w.cell? ⟨g, o + i, none⟩ = some (.int .i64 (nm i))
theorem ToIn.below {w w' : World} {b : Option Addr} {m : Nat} {nm : Nat → Int} (h : ToIn w b m nm) (k : Below w.heap.size w w') : ToIn w' b m nm := fun i hi => by
  obtain ⟨g,o,e,hc⟩:=h i hi;exact ⟨g,o,e,(k.cell (p:=⟨g,o+i,none⟩) (World.block_lt_of_cell? w ⟨g,o+i,none⟩ hc)).trans hc⟩
def RenR (o : Option Int) (e : Ending) : Prop := match o with
  | some v=>e=.returned (.tuple #[.int .i64 v,.bool true])
  | none=>e=.returned (.tuple #[.int .i64 0,.bool false])
theorem renamed_any (k r : Int) (a : Option Addr) (len c : Nat) (b : Option Addr) (m d : Nat) (nm : Nat → Int) (w : World) (hto0 : ToIn w b m nm) :
    Calls Tryz.prog 108 #[.agg #[.int .i64 k,.int .i64 r,.slice a len c],.slice b m d] w fun e w'=>RenR (renR m nm k r) e∧Below w.heap.size w w':=by
  have hto:Hid (ToIn w b m nm):=hto0;clear hto0;by_cases hk:k=1
  · subst hk;rw [show renR m nm 1 r=some r by simp [renR]];go_enter Tryz.func108,Tryz.ntmps108
    go_wp2_with fail
    go_ret2;exact ⟨rfl,(Below.refl _ w).alloc (Nat.le_refl _) _⟩
  · have hk':(k==1)=false:=by simpa using hk
    rcases (show r<0∨(0≤r∧(m:Int)≤r)∨(0≤r∧r<m) by omega) with h1 | ⟨h1,h2⟩ | ⟨h1,h2⟩
    · rw [show renR m nm k r=none by unfold renR;rw [if_neg hk,if_pos (Or.inl h1)]];clear hk;go_enter Tryz.func108,Tryz.ntmps108
      go_wp2_with fail
      go_ret2;exact ⟨rfl,(Below.refl _ w).alloc (Nat.le_refl _) _⟩
    · rw [show renR m nm k r=none by unfold renR;rw [if_neg hk,if_pos (Or.inr h2)]];clear hk;have h3:¬ r<0:=by omega
      go_enter Tryz.func108,Tryz.ntmps108
      go_wp2_with fail
      go_ret2;exact ⟨rfl,(Below.refl _ w).alloc (Nat.le_refl _) _⟩
    · obtain ⟨j,rfl⟩:=Int.eq_ofNat_of_zero_le h1;obtain ⟨g,o,rfl,hc⟩:=hto.out j (by omega);have hg:g<w.heap.size:=World.block_lt_of_cell? w ⟨g,o+j,none⟩ hc;have h3:¬ (j:Int)<0:=by omega
      have h4:¬ (m:Int)≤j:=by omega
      by_cases hn:nm j<0
      · rw [show renR m nm k j=none by unfold renR;rw [if_neg hk,if_neg (by omega),if_pos (by simpa using hn)]];clear hk;generalize nm j=v at hc hn;go_enter Tryz.func108,Tryz.ntmps108
        go_wp2_with fail
        go_ret2;exact ⟨rfl,(Below.refl _ w).alloc (Nat.le_refl _) _⟩
      · rw [show renR m nm k j=some (nm j) by unfold renR;rw [if_neg hk,if_neg (by omega),if_neg (by simpa using hn)];rfl];clear hk;generalize nm j=v at hc hn ⊢;go_enter Tryz.func108,Tryz.ntmps108
        go_wp2_with fail
        go_ret2;exact ⟨rfl,(Below.refl _ w).alloc (Nat.le_refl _) _⟩
structure MRow (w : World) (G len : Nat) {n : Nat} (l : List (TT n)) : Prop where
  row:∃ cur,w.heap[G]?=some (.cells cur 65 (0,0))∧cur.size=len*3∧∀ (i:Nat) (x:TT n),l[i]?=some x→∃ a c,cur[i*3]?=some (.int .i64 x.kind)∧cur[i*3+1]?=some (.int .i64 x.r)∧cur[i*3+2]?=some (.slice a x.len c)∧TIn w (From (G+1)) x a
theorem MRow.below {w w' : World} {G len n : Nat} {l : List (TT n)} (h : MRow w G len l) (b : Below w.heap.size w w') : MRow w' G len l := by
  obtain ⟨cur,h1,h2,h3⟩:=h.row;refine ⟨cur,(b.block G (lt_of_block h1)).trans h1,h2,fun i x hx=>?_⟩;obtain ⟨a,c,q0,q1,q2,q3⟩:=h3 i x hx;exact ⟨a,c,q0,q1,q2,q3.below b⟩
theorem MRow.lt {w : World} {G len n : Nat} {l : List (TT n)} (h : MRow w G len l) : G < w.heap.size := by
  obtain ⟨cur,h1,h2,h3⟩:=h.row;exact lt_of_block h1
theorem MRow.frozen {w : World} {G len n : Nat} {l : List (TT n)} (h : MRow w G len l) (i : Nat) : w.frozen? ⟨G, i, none⟩ = false := by
  obtain ⟨cur,h1,h2,h3⟩:=h.row;exact freeOf h1 i
theorem MRow.has {w : World} {G len n : Nat} {l : List (TT n)} (h : MRow w G len l) (i : Nat) (hi : i < len * 3) : ∃ v, w.cell? ⟨G, i, none⟩ = some v := by
  obtain ⟨cur,h1,h2,h3⟩:=h.row;exact ⟨cur[i]'(by omega),cellOf h1 i _ (Array.getElem?_eq_getElem (by omega))⟩
theorem MRow.lin {w : World} {G len n : Nat} {l : List (TT n)} (h : MRow w G len l) : LIn w (From G) l (some ⟨G, 0, none⟩) := by
  obtain ⟨cur,h1,h2,h3⟩:=h.row;intro i x hx;obtain ⟨a,c,q0,q1,q2,q3⟩:=h3 i x hx;refine ⟨G,0,a,c,rfl,Nat.le_refl _,?_,?_,?_,q3.mono (fun k hk _=>by omega)⟩
  · rw [Nat.zero_add];exact cellOf h1 _ _ q0
  · rw [Nat.zero_add];exact cellOf h1 _ _ q1
  · rw [Nat.zero_add];exact cellOf h1 _ _ q2
theorem MRow.set {w : World} {G len n q : Nat} {l : List (TT n)} (h : MRow w G len l) (hl : l.length = q) (hq : q < len) {x : TT n} {a : Option Addr} {c : Nat} (hx : TIn w (From (G + 1)) x a) :
    MRow (((w.setCell ⟨G,q*3,none⟩ (.int .i64 x.kind)).setCell ⟨G,q*3+1,none⟩ (.int .i64 x.r)).setCell ⟨G,q*3+2,none⟩ (.slice a x.len c)) G len (l++[x]):=by
  obtain ⟨cur,h1,h2,h3⟩:=h.row;have k1:=blockSet h1 (q*3) (.int .i64 x.kind);have k2:=blockSet k1 (q*3+1) (.int .i64 x.r);have k3:=blockSet k2 (q*3+2) (.slice a x.len c)
  have keep:∀ {y:TT n} {b:Option Addr},TIn w (From (G+1)) y b→TIn (((w.setCell ⟨G,q*3,none⟩ (.int .i64 x.kind)).setCell ⟨G,q*3+1,none⟩ (.int .i64 x.r)).setCell ⟨G,q*3+2,none⟩ (.slice a x.len c)) (From (G+1)) y b :=
    fun hy=>((hy.setCell (by simp) _).setCell (by simp) _).setCell (by simp) _
  refine ⟨_,k3,by simp [h2],fun i y hy=>?_⟩;rw [List.getElem?_append] at hy;split at hy
  · rename_i hi
    obtain ⟨b,d,q0,q1,q2,q3⟩:=h3 i y hy;refine ⟨b,d,?_,?_,?_,keep q3⟩
    · simp only [Array.getElem?_setIfInBounds];rw [if_neg (by omega),if_neg (by omega),if_neg (by omega)];exact q0
    · simp only [Array.getElem?_setIfInBounds];rw [if_neg (by omega),if_neg (by omega),if_neg (by omega)];exact q1
    · simp only [Array.getElem?_setIfInBounds];rw [if_neg (by omega),if_neg (by omega),if_neg (by omega)];exact q2
  · rename_i hi
    have hi2:i=q:=by
      have:=(List.getElem?_eq_some_iff.1 hy).1
      simp at this
      omega
    subst hi2;simp [hl] at hy;subst hy;refine ⟨a,c,?_,?_,?_,keep hx⟩
    · simp only [Array.getElem?_setIfInBounds,Array.size_setIfInBounds];rw [if_neg (by omega),if_neg (by omega),if_pos trivial,if_pos (by omega)]
    · simp only [Array.getElem?_setIfInBounds,Array.size_setIfInBounds];rw [if_neg (by omega),if_pos trivial,if_pos (by omega)]
    · simp only [Array.getElem?_setIfInBounds,Array.size_setIfInBounds];rw [if_pos trivial,if_pos (by omega)]
abbrev zeroT : Value := .agg #[.int .i64 0, .int .i64 0, .slice none 0 0]
def RenOut {n : Nat} (w w' : World) (o : Option (TT n)) (e : Ending) : Prop := match o with
  | some u=>∃ a' c',e=.returned (.tuple #[Tv u a' c',.bool true])∧TIn w' (From w.heap.size) u a'∧Below w.heap.size w w'
  | none=>e=.returned (.tuple #[zeroT,.bool false])∧Below w.heap.size w w'
def RenAt (f n : Nat) : Prop := ∀ (t : TT n) (a : Option Addr) (c : Nat) (b : Option Addr) (m d : Nat) (nm : Nat → Int) (w : World), TIn w All t a → t.count ≤ 2000 → ToIn w b m nm →
    Calls Tryz.prog f #[Tv t a c,.slice b m d] w fun e w'=>RenOut w w' (t.ren m nm) e
theorem make_ts (w : World) (len : Nat) (h : len ≤ 2000) : (Instr.makeSlice 33 (.int .i64 len) (.int .i64 len)).run Tryz.prog w = .ok (.slice (some ⟨w.heap.size, 0, none⟩) len len) (w.alloc (.cells (madeCells #[.int .i64 0, .int .i64 0, .slice none 0 0] (len * 3)) 65)) := by
  obtain ⟨i0,hi,hz0,hz1,hz2⟩:=infoT_parts
  have:=run_make (P:=Tryz.prog) w 33 65 i0 _ underTs hi hz0 .i64 .i64 len len (by omega) (by omega) (by rw [hz2];omega) (by omega)
  rw [hz1] at this;exact this
structure RnX (w wr : World) (k r : Int) (a : Option Addr) (len c G : Nat) {n : Nat} (l : List (TT n)) : Prop where
  bx:Bx2 w wr k r a len c
  row:MRow wr G len l
  hG:w.heap.size+1<G
section
variable {w wr w' : World} {k r : Int} {a : Option Addr} {len c G n : Nat} {l : List (TT n)}
theorem RnX.start (h : Bx2 w wr k r a len c) : RnX w (wr.alloc (.cells (madeCells #[.int .i64 0, .int .i64 0, .slice none 0 0] (len * 3)) 65)) k r a len c wr.heap.size ([] : List (TT n)) :=
  ⟨h.below ((Below.refl _ wr).alloc (Nat.le_refl _) _),⟨_,blockNew wr _ _,size_madeCells _ _,fun i x hx=>by simp at hx⟩,lt_of_block h.res⟩
theorem RnX.below (h : RnX w wr k r a len c G l) (b : Below wr.heap.size wr w') : RnX w w' k r a len c G l := ⟨h.bx.below b, h.row.below b, h.hG⟩
theorem Bx2.setG (h : Bx2 w wr k r a len c) (hG : w.heap.size + 1 < G) (i : Nat) (v : Value) : Bx2 w (wr.setCell ⟨G, i, none⟩ v) k r a len c :=
  ⟨h.bel.setCell (by simp;omega) _,(Below.heap_setCell _ _ _ _ (by simp;omega)).trans h.box,(Below.heap_setCell _ _ _ _ (by simp;omega)).trans h.res⟩
theorem RnX.set (h : RnX w wr k r a len c G l) {q : Nat} (hl : l.length = q) (hq : q < len) {x : TT n} {a' : Option Addr} {c' : Nat} (hx : TIn wr (From (G + 1)) x a') :
    RnX w (((wr.setCell ⟨G,q*3,none⟩ (.int .i64 x.kind)).setCell ⟨G,q*3+1,none⟩ (.int .i64 x.r)).setCell ⟨G,q*3+2,none⟩ (.slice a' x.len c')) k r a len c G (l++[x]) :=
  ⟨((h.bx.setG h.hG _ _).setG h.hG _ _).setG h.hG _ _,h.row.set hl hq hx,h.hG⟩
end
theorem ren_some_parts {m : Nat} {nm : Nat → Int} {n : Nat} {t : TT (n + 1)} {r' : Int} (h1 : renR m nm t.kind t.r = some r') {l' : List (TT n)} (h2 : renL (TT.ren m nm) t.2.2 = some l') : t.ren m nm = some (mkT t.kind r' l') := by
  show (match renR m nm t.1 t.2.1 with | none=>none | some r=>match renL (TT.ren (n:=n) m nm) t.2.2 with | none=>none | some l=>some ((t.1,r,l):Int × Int × List (TT n)))=_;have h1':renR m nm t.1 t.2.1=some r':=h1;rw [h1',h2];rfl
theorem ren_none_own {m : Nat} {nm : Nat → Int} {n : Nat} {t : TT (n + 1)} (h1 : renR m nm t.kind t.r = none) : t.ren m nm = none := by
  show (match renR m nm t.1 t.2.1 with | none=>none | some r=>match renL (TT.ren (n:=n) m nm) t.2.2 with | none=>none | some l=>some ((t.1,r,l):Int × Int × List (TT n)))=_;have h1':renR m nm t.1 t.2.1=none:=h1;rw [h1'];rfl
theorem ren_none_kid {m : Nat} {nm : Nat → Int} {n : Nat} {t : TT (n + 1)} (h2 : renL (TT.ren m nm) t.2.2 = none) : t.ren m nm = none := by
  show (match renR m nm t.1 t.2.1 with | none=>none | some r=>match renL (TT.ren (n:=n) m nm) t.2.2 with | none=>none | some l=>some ((t.1,r,l):Int × Int × List (TT n)))=_;rw [h2]
  cases renR m nm t.1 t.2.1 <;> rfl
theorem rename_any : ∀ n, RenAt 98 n := by
  intro n
  induction n with
  | zero=>intro t;exact Empty.elim t
  | succ n ih =>
    intro t a c b m d nm w ht hct hto0;have IH:Hid (RenAt 98 n):=ih;have hto:Hid (ToIn w b m nm):=hto0;have hT:Hid (LIn w All t.2.2 a):=ht.list;have hco:Hid (∀ x∈t.2.2,x.count≤2000):=fun x hx=>by have:=t.count_kid hx;omega
    have hlen:t.2.2.length≤2000:=by have:=t.len_lt_count;rw [t.len_eq] at this;omega
    have P0:Hid (renR m nm t.kind t.r=none→t.ren m nm=none):=ren_none_own;have P1:Hid (renL (TT.ren m nm) t.2.2=none→t.ren m nm=none):=ren_none_kid;have P2:Hid (∀ r' l',renR m nm t.kind t.r=some r'→renL (TT.ren m nm) t.2.2=some l'→t.ren m nm=some (mkT t.kind r' l')):=fun r' l' h1 h2=>ren_some_parts h1 h2;generalize t.ren m nm=res at P0 P1 P2 ⊢;simp only [Tv,TT.len_eq];generalize t.2.2=l at hT hco hlen P1 P2 ⊢;generalize t.kind=k at P0 P2 ⊢;generalize t.r=r at P0 P2 ⊢;clear ht hct hto0 ih t;go_enter Tryz.func98,Tryz.ntmps98
    go_wp2_with fail
    have X1:Hid (Bx2 w ((w.alloc (.cells #[.int .i64 k,.int .i64 r,.slice a l.length c] 65)).alloc (.cells #[.int .i64 0,.int .i64 0,.slice none 0 0] 65)) k r a l.length c):=Bx2.start w k r a l.length c;generalize (w.alloc (.cells #[.int .i64 k,.int .i64 r,.slice a l.length c] 65)).alloc (.cells #[.int .i64 0,.int .i64 0,.slice none 0 0] 65)=w1 at X1 ⊢;refine (renamed_any k r a l.length c b m d nm w1 (hto.out.below X1.out.bel)).mono ?_;rintro e w2 ⟨hr,b2⟩;have X2:Hid (Bx2 w w2 k r a l.length c):=X1.out.below b2;clear X1 b2;have e2:w2.cell? ⟨w.heap.size,2,none⟩=some (.slice a l.length c):=cellOf X2.out.box 2 _ rfl
    cases hrr:renR m nm k r with
    | none =>
      rw [hrr] at hr;obtain rfl:e=_:=hr;have hres:res=none:=P0.out hrr;subst hres;have D:=X2.out.stored 0 0 none 0 0;have DD:Hid (Below w.heap.size w _):=D.2;have g0:=cellOf X2.out.res 0 _ rfl;have g1:=cellOf X2.out.res 1 _ rfl;have g2:=cellOf X2.out.res 2 _ rfl;have z0:=freeOf X2.out.res 0;have z1:=freeOf X2.out.res 1;have z2:=freeOf X2.out.res 2;have x0:=cellOf D.1 0 _ rfl;have x1:=cellOf D.1 1 _ rfl;have x2:=cellOf D.1 2 _ rfl;clear D hrr P0 P1 P2;go_wp2_with fail
      exact bodyPost_ret (v:=.tuple #[zeroT,.bool false]) (by simp [results,Tryz.results98,go_sem,x0,x1,x2]) rfl ⟨rfl,DD.out⟩
    | some r' =>
      rw [hrr] at hr;obtain rfl:e=_:=hr;have HR:Hid (renR m nm k r=some r'):=hrr;clear hrr;have hmk:=make_ts w2 l.length hlen;have hsz:w.heap.size<w2.heap.size:=lt_of_block X2.out.box;go_wp2_with fail
      have Y0:Hid (RnX w (w2.alloc (.cells (madeCells #[.int .i64 0,.int .i64 0,.slice none 0 0] (l.length*3)) 65)) k r a l.length c w2.heap.size ([]:List (TT n))):=RnX.start X2.out;generalize w2.alloc (.cells (madeCells #[.int .i64 0,.int .i64 0,.slice none 0 0] (l.length*3)) 65)=w3 at Y0 ⊢;generalize w2.heap.size=G at Y0 ⊢;clear hmk e2 X2 hsz;go_loopw [27] (fun i wr=>∃ q:Nat,q≤l.length∧i=.int .i64 q∧∃ l':List (TT n),l'.length=q∧(∀ (j:Nat) x,j<q→l[j]?=some x→x.ren m nm=l'[j]?)∧RnX w wr k r a l.length c G l') (fun i _=>l.length - (intOf i).toNat)
      case atStart=>exact ⟨0,Nat.zero_le _,rfl,[],rfl,fun j x hj=>by omega,Y0.out⟩
      case round =>
        clear Y0;obtain ⟨q,hq,rfl,l',hl',hall,hY⟩:=hrel;have A:Hid (l'.length=q∧∀ (j:Nat) x,j<q→l[j]?=some x→x.ren m nm=l'[j]?):=⟨hl',hall⟩;have Y:Hid (RnX w wr k r a l.length c G l'):=hY;clear hl' hall hY;by_cases hlt:q<l.length
        · have hx:l[q]?=some l[q]:=List.getElem?_eq_getElem hlt;generalize l[q]=x at hx;obtain ⟨g,o,a',c',rfl,_,d0,d1,d2,hk⟩:=LIn.at (hT.out.below Y.out.bx.bel) hx;have hg:g<wr.heap.size:=World.block_lt_of_cell? wr ⟨g,o+q*3,none⟩ d0;have hx':Hid (l[q]?=some x):=hx
          have C:Hid (∀ wx,Below wr.heap.size wr wx→Calls Tryz.prog 98 #[Tv x a' c',.slice b m d] wx fun e w'=>RenOut wx w' (x.ren m nm) e) :=
            fun wx hb=>IH.out x a' c' b m d nm wx (hk.below hb) (hco.out x (List.mem_of_getElem? hx)) ((hto.out.below Y.out.bx.bel).below hb)
          clear hk hx;simp only [Tv] at C;generalize x.kind=kx at C d0;generalize x.r=rx at C d1;generalize x.len=lx at C d2;have hk0:(0:Int)≤q:=by omega
          have hk1:(q:Int)<l.length:=by omega
          have hk2:(q:Int)<2000:=by omega
          go_wp2_with fail
          have B1:Below wr.heap.size wr (wr.alloc (.cells #[.int .i64 kx,.int .i64 rx,.slice a' lx c'] 65)):=(Below.refl _ wr).alloc (Nat.le_refl _) _;refine (C.out _ B1).mono ?_;rintro e w4 h4;clear C d0 d1 d2
          cases hxr:x.ren m nm with
          | none =>
            rw [hxr] at h4;obtain ⟨rfl,b4⟩:=h4;have hres:res=none:=P1.out (renL_none hx'.out hxr);subst hres;have Y4:=(Y.out.below B1).below b4;have hq3:q*3+2<l.length*3:=by omega
            obtain ⟨v0,r0⟩:=Y4.row.has (q*3) (by omega);obtain ⟨v1,r1⟩:=Y4.row.has (q*3+1) (by omega);obtain ⟨v2,r2⟩:=Y4.row.has (q*3+2) (by omega);have z0:=Y4.row.frozen (q*3);have z1:=Y4.row.frozen (q*3+1);have z2:=Y4.row.frozen (q*3+2);have X5:=((Y4.bx.setG Y4.hG (q*3) (.int .i64 0)).setG Y4.hG (q*3+1) (.int .i64 0)).setG Y4.hG (q*3+2) (.slice none 0 0);have D:=X5.stored 0 0 none 0 0;have DD:Hid (Below w.heap.size w _):=D.2;have g0:=cellOf Y4.bx.res 0 _ rfl;have g1:=cellOf Y4.bx.res 1 _ rfl;have g2:=cellOf Y4.bx.res 2 _ rfl;have y0:=freeOf Y4.bx.res 0;have y1:=freeOf Y4.bx.res 1;have y2:=freeOf Y4.bx.res 2;have x0:=cellOf D.1 0 _ rfl;have x1:=cellOf D.1 1 _ rfl;have x2:=cellOf D.1 2 _ rfl;have hne:¬ w.heap.size+1=G:=by have:=Y4.hG;omega
            have hne':¬ G=w.heap.size+1:=by have:=Y4.hG;omega
            clear D X5 Y4 b4 B1 hxr A Y P0 P1 P2 hq3;go_wp2_with fail
            exact bodyPost_ret (v:=.tuple #[zeroT,.bool false]) (by simp [results,Tryz.results98,go_sem,x0,x1,x2]) rfl ⟨rfl,DD.out⟩
          | some u =>
            rw [hxr] at h4;obtain ⟨a4,c4,rfl,t4,b4⟩:=h4;simp only [Tv];have Y4:=(Y.out.below B1).below b4;have hq3:q*3+2<l.length*3:=by omega
            obtain ⟨v0,r0⟩:=Y4.row.has (q*3) (by omega);obtain ⟨v1,r1⟩:=Y4.row.has (q*3+1) (by omega);obtain ⟨v2,r2⟩:=Y4.row.has (q*3+2) (by omega);have z0:=Y4.row.frozen (q*3);have z1:=Y4.row.frozen (q*3+1);have z2:=Y4.row.frozen (q*3+2);have hGl:=Y.out.row.lt;have Y5:=Y4.set A.out.1 hlt (x:=u) (a':=a4) (c':=c4) (t4.mono (fun k hk _=>by have:=B1.size;simp at hk;omega))
            have Z:Hid (∃ l':List (TT n),l'.length=q+1∧(∀ (j:Nat) x,j<q+1→l[j]?=some x→x.ren m nm=l'[j]?)∧RnX w (((w4.setCell ⟨G,q*3,none⟩ (.int .i64 u.kind)).setCell ⟨G,q*3+1,none⟩ (.int .i64 u.r)).setCell ⟨G,q*3+2,none⟩ (.slice a4 u.len c4)) k r (some ⟨g,o,none⟩) l.length c G l'):=by
              refine ⟨l'++[u],by simp [A.out.1],fun j y hj hy=>?_,Y5⟩;by_cases e:j=q
              · subst e;rw [hx'.out] at hy
                cases hy
                rw [hxr,List.getElem?_append_right (by have:=A.out.1;omega),A.out.1,Nat.sub_self];rfl
              · rw [List.getElem?_append_left (by have:=A.out.1;omega)];exact A.out.2 j y (by omega) hy
            clear Y5 Y4 b4 B1 hxr A Y P0 P1 hq3 t4 hx' hGl;generalize u.kind=ku at Z ⊢;generalize u.r=ru at Z ⊢;generalize u.len=lu at Z ⊢;go_wp2
            go_roundw
            case rel=>exact ⟨q+1,by omega,by go_num,Z.out⟩
            case measure=>simp [intOf];omega
        · have hk1:¬ (q:Int)<l.length:=by omega
          have hl'l:l'.length=l.length:=by have:=A.out.1;omega
          have hres:res=some (mkT k r' l'):=P2.out r' l' HR.out (renL_iff.2 ⟨hl'l,fun i x hx=>A.out.2 i x (by have:=(List.getElem?_eq_some_iff.1 hx).1;omega) hx⟩);subst hres;have e0:wr.cell? ⟨w.heap.size,0,none⟩=some (.int .i64 k):=cellOf Y.out.bx.box 0 _ rfl;have g0:=cellOf Y.out.bx.res 0 _ rfl;have g1:=cellOf Y.out.bx.res 1 _ rfl;have g2:=cellOf Y.out.bx.res 2 _ rfl;have y0:=freeOf Y.out.bx.res 0;have y1:=freeOf Y.out.bx.res 1;have y2:=freeOf Y.out.bx.res 2;have D:=Y.out.bx.stored k r' (some ⟨G,0,none⟩) l.length l.length;have x0:=cellOf D.1 0 _ rfl;have x1:=cellOf D.1 1 _ rfl;have x2:=cellOf D.1 2 _ rfl;have hGb:=Y.out.hG
          have O:Hid (RenOut w (((wr.setCell ⟨w.heap.size+1,0,none⟩ (.int .i64 k)).setCell ⟨w.heap.size+1,1,none⟩ (.int .i64 r')).setCell ⟨w.heap.size+1,2,none⟩ (.slice (some ⟨G,0,none⟩) l.length l.length)) (some (mkT k r' l')) (.returned (.tuple #[.agg #[.int .i64 k,.int .i64 r',.slice (some ⟨G,0,none⟩) l.length l.length],.bool true]))):=by
            refine ⟨some ⟨G,0,none⟩,l.length,?_,?_,D.2⟩
            · show _=Ending.returned (.tuple #[.agg #[.int .i64 k,.int .i64 r',.slice (some ⟨G,0,none⟩) l'.length l.length],.bool true]);rw [hl'l]
            · have:=((Y.out.row.lin.setCell (p:=⟨w.heap.size+1,0,none⟩) (by simp;omega) (.int .i64 k)).setCell (p:=⟨w.heap.size+1,1,none⟩) (by simp;omega) (.int .i64 r')).setCell (p:=⟨w.heap.size+1,2,none⟩) (by simp;omega) (.slice (some ⟨G,0,none⟩) l.length l.length)
              exact (LIn.tree this).mono (fun k hk _=>by omega)
          clear D A Y P0 P1 P2 hl'l;go_wp2_with fail
          exact bodyPost_ret (v:=.tuple #[.agg #[.int .i64 k,.int .i64 r',.slice (some ⟨G,0,none⟩) l.length l.length],.bool true]) (by simp [results,Tryz.results98,go_sem,x0,x1,x2]) rfl O.out
structure RdX (w wr : World) (k r : Int) (a : Option Addr) (len c : Nat) (r' : Int) (v : Value) {n : Nat} (l : List (TT n)) (xs : List Value) : Prop where
  bx:Bx2 w wr k r a len c
  u:wr.heap[w.heap.size+2]?=some (.cells #[.int .i64 k,.int .i64 r',v] 65 (0,0))
  row:TRow wr (w.heap.size+3) v l xs
section
variable {w wr w' : World} {k r r' : Int} {a : Option Addr} {len c n : Nat} {v : Value} {l : List (TT n)} {xs : List Value}
theorem RdX.start (w : World) (k r : Int) (a : Option Addr) (len c : Nat) (r' : Int) : RdX w (((w.alloc (.cells #[.int .i64 k, .int .i64 r, .slice a len c] 65)).alloc (.cells #[.int .i64 0, .int .i64 0, .slice none 0 0] 65)).alloc (.cells #[.int .i64 k, .int .i64 r', .slice none 0 0] 65)) k r a len c r' (.slice none 0 0) ([] : List (TT n)) [] :=
  ⟨(Bx2.start w k r a len c).below ((Below.refl _ _).alloc (Nat.le_refl _) _),by have:=blockNew ((w.alloc (.cells #[.int .i64 k,.int .i64 r,.slice a len c] 65)).alloc (.cells #[.int .i64 0,.int .i64 0,.slice none 0 0] 65)) #[.int .i64 k,.int .i64 r',.slice none 0 0] 65;simpa using this,TRow.nil _ _⟩
theorem RdX.below (h : RdX w wr k r a len c r' v l xs) (b : Below wr.heap.size wr w') : RdX w w' k r a len c r' v l xs := ⟨h.bx.below b, box_cells h.u b, h.row.below b⟩
theorem TRow.setOther (h : TRow w' (w.heap.size + 3) v l xs) (i : Nat) (y : Value) : TRow (w'.setCell ⟨w.heap.size + 2, i, none⟩ y) (w.heap.size + 3) v l xs := by
  obtain ⟨⟨h1,h2⟩,h3⟩:=h;refine ⟨⟨h1,?_⟩,fun i x hx=>?_⟩
  · rcases h2 with h4 | ⟨g,cap,cur,e,hg,hh,r⟩
    · exact Or.inl h4
    · exact Or.inr ⟨g,cap,cur,e,hg,(Below.heap_setCell _ _ _ _ (by simp;omega)).trans hh,r⟩
  · obtain ⟨a,c,q0,q1,q2,q3⟩:=h3 i x hx;exact ⟨a,c,q0,q1,q2,q3.setCell (fun hk=>by have:=hk.1;simp at this) _⟩
theorem RdX.push (h : RdX w wr k r a len c r' v l xs) {x : TT n} {a' : Option Addr} {c' : Nat} (hx : TIn wr (But (w.heap.size + 3) v) x a')
    {g cap:Nat} (hg:wr.grownBy w' v.ownBlock) (hat:v.ownBlock=some g∨g=wr.heap.size)
    (ho:w'.ownsRow (w.heap.size+3) 65 3 (.slice (some ⟨g,0,none⟩) (l.length+1) cap) (l.length+1) (xs++[.int .i64 x.kind,.int .i64 x.r,.slice a' x.len c'])) :
    w'.heap[w.heap.size+2]?=some (.cells #[.int .i64 k,.int .i64 r',v] 65 (0,0)) ∧
    RdX w (w'.setCell ⟨w.heap.size+2,2,none⟩ (.slice (some ⟨g,0,none⟩) (l.length+1) cap)) k r a len c r' (.slice (some ⟨g,0,none⟩) (l.length+1) cap) (l++[x]) (xs++[.int .i64 x.kind,.int .i64 x.r,.slice a' x.len c']):=by
  have kp:∀ i,i<w.heap.size+3→i<wr.heap.size→w'.heap[i]?=wr.heap[i]?:=fun i hi hl=>hg.block i hl (fun e=>by have:=(h.row.lo_le e.symm).1;omega);have u':=(kp (w.heap.size+2) (by omega) (lt_of_block h.u)).trans h.u;have hb':Below w.heap.size w w':=h.bx.bel.grown hg h.bx.bel.size (fun i e=>by have:=(h.row.lo_le e).1;omega);refine ⟨u',⟨⟨hb'.setCell (by simp) _,?_,?_⟩,?_,TRow.setOther (h.row.push hx hg hat ho) 2 _⟩⟩
  · exact (Below.heap_setCell _ _ _ _ (by simp)).trans ((kp _ (by omega) (lt_of_block h.bx.box)).trans h.bx.box)
  · exact (Below.heap_setCell _ _ _ _ (by simp)).trans ((kp _ (by omega) (lt_of_block h.bx.res)).trans h.bx.res)
  · have:=blockSet u' 2 (.slice (some ⟨g,0,none⟩) (l.length+1) cap)
    simpa using this
end
def IV (w : World) (l : List Int) (v : Value) : Prop := ∃ a c, v = .slice a l.length c ∧ intsL.In w (fun _ => True) l [.slice a l.length c]
theorem IV.below {w w' : World} {l : List Int} {v : Value} (h : IV w l v) (k : Below w.heap.size w w') : IV w' l v := by
  obtain ⟨a,c,e,h⟩:=h;exact ⟨a,c,e,Lay.below h k⟩
end Go.Proofs.YtilanenoliopbaeGreat
namespace Go.Proofs.YtilanenoliopbaeGreat
open Go.ChangeShapes Go.WideShapes Go.ChangeAt Go.RowKit
set_option linter.unusedSimpArgs false
set_option linter.unusedVariables false
abbrev toV (x : MTo) (rg ag : Option Addr) (rc ac : Nat) : Value := .agg #[.int .i64 x.block, .slice rg x.regs.length rc, .slice ag x.args.length ac]
theorem underBk : ∃ fs, Tryz.prog.underlying 58 = some (.struct fs) := ⟨_, Tryz.underlying58⟩
theorem sizeBk : (Tryz.prog.info? 58).map (·.size) = some 12 := by kernel_rfl
theorem block_cells {w : World} {Q : Nat → Prop} {m : List (MBlock 6)} {p : Option Addr} {n c : Nat} (h : (blockL 6).list.In w Q m [.slice p n c]) {k : Nat} {g : MBlock 6} (hg : m[k]? = some g) :
    ∃ mg mo a1 c1 es,p=some ⟨mg,mo,none⟩∧w.rangeAt mg (mo+k*12) (.int .i64 g.regs::.slice a1 g.params.length c1::es)∧es.length=10∧(typesL 6).In w Q g.params [.slice a1 g.params.length c1]∧∀ v∈es,v.oneCell'=true:=by
  obtain ⟨mg,mo,ds,e1,e2,e3,hc,hd⟩:=Lay.list_at h hg;obtain ⟨a1,c1,a2,c2,es,rfl,h1,h2,h3,h4⟩:=block_form hd;obtain ⟨d1,d2,ae,ce,rfl,t1,t2,h5,h6⟩:=end_form h3;obtain ⟨u1,u2,u3,u4,rfl,-,-,-⟩:=to_form t1;obtain ⟨u5,u6,u7,u8,rfl,-,-,-⟩:=to_form t2
  have key:∀ cs,cs.length=12→(∀ v∈cs,v.oneCell'=true)→(∀ j,j<12→w.cell? ⟨mg,mo+k*12+j,none⟩=cs[j]?)→∀ x y es,cs=x::y::es→w.rangeAt mg (mo+k*12) (x::y::es)∧es.length=10∧∀ v∈es,v.oneCell'=true:=by
    intro cs hl ho hc x y es e;subst e;refine ⟨fun j v hj=>?_,by simpa using hl,fun v hv=>ho v (by simp [hv])⟩;have hjl:=(List.getElem?_eq_some_iff.1 hj).1;rw [hc j (by omega),hj]
  obtain ⟨q1,q2,q3⟩:=key _ rfl (fun v hv=>by
    simp only [List.mem_cons,List.cons_append,List.nil_append,List.not_mem_nil,or_false] at hv;rcases hv with rfl | rfl | rfl | rfl | rfl | rfl | rfl | rfl | rfl | rfl | rfl | rfl <;> rfl) hc _ _ _ rfl
  exact ⟨mg,mo,a1,c1,_,e1,q1,q2,h1,q3⟩
theorem range_below {w w' : World} {b o : Nat} {cs : List Value} (h : w.rangeAt b o cs) (k : Below w.heap.size w w') : w'.rangeAt b o cs := fun j v hj => stay (h j v hj) k
end Go.Proofs.YtilanenoliopbaeGreat
namespace Go.Proofs.YtilanenoliopbaeGreat
open Go.ChangeShapes Go.WideShapes Go.ChangeAt Go.RowKit
set_option linter.unusedVariables false
theorem op_cases (op : Int) : op = 1 ∨ op = 2 ∨ op = 3 ∨ op = 4 ∨ op = 5 ∨ op = 6 ∨ op = 7 ∨ op = 8 ∨ op = 9 ∨ op = 10 ∨ op = 11 ∨ op = 12 ∨ op = 13 ∨ op = 14 ∨ (op ≠ 1 ∧ op ≠ 2 ∧ op ≠ 3 ∧ op ≠ 4 ∧ op ≠ 5 ∧ op ≠ 6 ∧ op ≠ 7 ∧ op ≠ 8 ∧ op ≠ 9 ∧ op ≠ 10 ∧ op ≠ 11 ∧ op ≠ 12 ∧ op ≠ 13 ∧ op ≠ 14) := by omega
def insForm (funcs : Nat) (op a b c k n : Int) (rl al : Nat) : Int :=
  match fieldsOf op with
  | none=>3
  | some (fa,fb,fc,fk,fn,fr,fs) =>
    if (!fa && a != 0) || (!fb && b != 0) || (!fc && c != 0) || (!fk && k != 0) || (!fn && n != 0) || (!fr && decide (0<rl)) || (!fs && decide (0<al)) then 4
    else if op=2∧(k<1∨9<k) then 1
    else if op=5∧8<al then 2
    else if (op=6∨op=7)∧(k<0∨7<k) then 1
    else if op=14∧(k<0∨(funcs:Int)≤k) then 1
    else if op=14∧(6<rl∨8<al) then 2
    else 0
theorem MIns.form_eq (funcs : Nat) (x : MIns) : x.form funcs = insForm funcs x.op x.a x.b x.c x.k x.n x.regs.length x.args.length := by
  unfold MIns.form MIns.formless insForm
  cases fieldsOf x.op with
  | none=>rfl
  | some p=>obtain ⟨a,b,c,k,n,r,s⟩:=p;rfl
end Go.Proofs.YtilanenoliopbaeGreat
namespace Go.Proofs.YtilanenoliopbaeGreat
open Go.RowKit
set_option linter.unusedVariables false
structure Wd (w0 w : World) (Bs : List (Nat × Array Value × TypeId)) : Prop where
  bel:Below w0.heap.size w0 w
  blk:∀ (i:Nat) x,Bs[i]?=some x→Blk w x.1 x.2.1 x.2.2
  new:∀ (i:Nat) x,Bs[i]?=some x→w0.heap.size≤x.1
  nd:∀ (i j:Nat) x y,Bs[i]?=some x→Bs[j]?=some y→x.1=y.1→i=j
section
variable {w0 w w' : World} {Bs : List (Nat × Array Value × TypeId)}
theorem Wd.start (w : World) : Wd w w [] := ⟨Below.refl _ _, fun i x h => by simp at h, fun i x h => by simp at h, fun i j x y h => by simp at h⟩
theorem Wd.below (h : Wd w0 w Bs) (b : Below w.heap.size w w') : Wd w0 w' Bs := ⟨Below.andThen h.bel b, fun i x hx => (h.blk i x hx).below b, h.new, h.nd⟩
theorem Wd.get (h : Wd w0 w Bs) (i : Nat) {B : Nat} {c : Array Value} {t : TypeId} (hi : Bs[i]? = some (B, c, t)) : Blk w B c t := h.blk i _ hi
theorem Wd.new' (h : Wd w0 w Bs) (c : Array Value) (t : TypeId) : Wd w0 (w.alloc (.cells c t)) ((w.heap.size, c, t) :: Bs) := by
  refine ⟨Below.andThen h.bel (bel1 w _),fun i x hx=>?_,fun i x hx=>?_,fun i j x y hx hy e=>?_⟩
  · cases i with
    | zero=>simp at hx;subst hx;exact Blk.new w c t
    | succ i=>exact (h.blk i x (by simpa using hx)).alloc _
  · cases i with
    | zero=>simp at hx;subst hx;exact h.bel.size
    | succ i=>exact h.new i x (by simpa using hx)
  · cases i with
    | zero =>
      cases j with
      | zero=>rfl
      | succ j =>
        simp at hx hy;subst hx
        have:=(h.blk j y hy).lt
        simp at e;omega
    | succ i =>
      cases j with
      | zero =>
        simp at hx hy;subst hy
        have:=(h.blk i x hx).lt
        simp at e;omega
      | succ j=>rw [h.nd i j x y (by simpa using hx) (by simpa using hy) e]
theorem Wd.tail {x : Nat × Array Value × TypeId} (h : Wd w0 w (x :: Bs)) : Wd w0 w Bs :=
  ⟨h.bel,fun i y hy=>h.blk (i+1) y (by simpa using hy),fun i y hy=>h.new (i+1) y (by simpa using hy),fun i j y z hy hz e=>by have:=h.nd (i+1) (j+1) y z (by simpa using hy) (by simpa using hz) e;omega⟩
theorem Wd.set (h : Wd w0 w Bs) (i : Nat) {B : Nat} {c c' : Array Value} {t : TypeId} {Bs' : List (Nat × Array Value × TypeId)} (hi : Bs[i]? = some (B, c, t)) (j : Nat) (v : Value)
    (hc:c.setIfInBounds j v=c') (hB:Bs.set i (B,c',t)=Bs'):Wd w0 (w.setCell ⟨B,j,none⟩ v) Bs':=by
  subst hB;subst hc
  have sp:∀ (k:Nat) x,(Bs.set i (B,c.setIfInBounds j v,t))[k]?=some x→(k=i∧x=(B,c.setIfInBounds j v,t))∨(k≠i∧Bs[k]?=some x):=by
    intro k x hx;rw [List.getElem?_set] at hx;split at hx
    · rename_i e
      subst e;have hil:i<Bs.length:=(List.getElem?_eq_some_iff.1 hi).1;rw [if_pos hil] at hx;exact .inl ⟨rfl,(Option.some.inj hx).symm⟩
    · rename_i e
      exact .inr ⟨fun e'=>e e'.symm,hx⟩
  have key:∀ (k:Nat) x,Bs[k]?=some x→k≠i→x.1≠B:=fun k x hx hk e=>hk (h.nd k i x _ hx hi e);refine ⟨h.bel.setCell (p:=⟨B,j,none⟩) (h.new i _ hi) v,fun k x hx=>?_,fun k x hx=>?_,fun k l x y hx hy e=>?_⟩
  · rcases sp k x hx with ⟨rfl,rfl⟩ | ⟨hk,hx⟩
    · exact blockSet (h.blk k _ hi) j v
    · exact (h.blk k x hx).setOther (fun e=>key k x hx hk e.symm) v
  · rcases sp k x hx with ⟨rfl,rfl⟩ | ⟨hk,hx⟩
    · exact h.new k (B,c,t) hi
    · exact h.new k x hx
  · rcases sp k x hx with ⟨hk,hx1⟩ | ⟨hk,hx1⟩
    · rcases sp l y hy with ⟨hl,hy1⟩ | ⟨hl,hy1⟩
      · rw [hk,hl]
      · rw [hx1] at e;exact absurd e.symm (key l y hy1 hl)
    · rcases sp l y hy with ⟨hl,hy1⟩ | ⟨hl,hy1⟩
      · rw [hy1] at e;exact absurd e (key k x hx1 hk)
      · exact h.nd k l x y hx1 hy1 e
def spliced (c : Array Value) (j : Nat) (vs : List Value) : Array Value := (c.toList.take j ++ (vs ++ c.toList.drop (j + vs.length))).toArray
theorem spliced_cons (c : Array Value) (j : Nat) (v : Value) (vs : List Value) (h : j + (v :: vs).length ≤ c.size) : spliced (c.setIfInBounds j v) (j + 1) vs = spliced c j (v :: vs) := by
  unfold spliced;congr 1
  have hj:j<c.toList.length:=by simp at h ⊢;omega
  simp only [Array.toList_setIfInBounds];rw [List.take_set,List.drop_set_of_lt (by omega),List.take_add_one,List.getElem?_eq_getElem hj];simp only [Option.toList,List.length_cons]
  have:(c.toList.take j++[c.toList[j]]).set j v=c.toList.take j++[v]:=by
    rw [List.set_append_right _ _ (by simp;omega)];have hj':j<c.size:=by simpa using hj
    simp [Nat.min_eq_left (Nat.le_of_lt hj')]
  rw [this,Nat.add_assoc,Nat.add_comm 1];simp
theorem Wd.setAt (h : Wd w0 w Bs) (i : Nat) {B : Nat} {c c' : Array Value} {t : TypeId} {Bs' : List (Nat × Array Value × TypeId)} (hi : Bs[i]? = some (B, c, t)) (j : Nat) (vs : List Value)
    (hs:Nat.ble (j+vs.length) c.size=true) (hc:spliced c j vs=c') (hB:Bs.set i (B,c',t)=Bs'):Wd w0 (w.setCells B j vs) Bs':=by
  have hs':j+vs.length≤c.size:=by simpa [Nat.ble_eq] using hs
  clear hs
  induction vs generalizing w Bs c j with
  | nil =>
    subst hB
    have:c=c':=by rw [← hc];unfold spliced;simp
    subst this
    have:Bs.set i (B,c,t)=Bs:=by
      apply List.ext_getElem?
      intro k;rw [List.getElem?_set];split
      · rename_i e;subst e;rw [hi];simp [(List.getElem?_eq_some_iff.1 hi).1]
      · rfl
    rw [this];exact h
  | cons v vs ih =>
    have hil:i<Bs.length:=(List.getElem?_eq_some_iff.1 hi).1;refine ih (c:=c.setIfInBounds j v) (h.set i hi j v rfl rfl) (by rw [List.getElem?_set];simp [hil]) (j+1) ?_ ?_ ?_
    · rw [← hc,spliced_cons _ _ _ _ hs']
    · rw [List.set_set];exact hB
    · simp at hs' ⊢;omega
theorem Wd.drewN (h : Wd w0 w Bs) (m : Nat) : Wd w0 (w.drewN m) Bs := ⟨drewN_below h.bel, fun i x hx => h.blk i x hx, h.new, h.nd⟩
end
theorem wrap_succ (q : Nat) (h : q < 4611686018427387904) : IntKind.i64.wrap ((q : Int) + 1) = (q : Int) + 1 := by
  have:(q:Int)<4611686018427387904:=by omega
  have e1:((q:Int)+1) % 2 ^ 64=(q:Int)+1:=by omega
  simp only [IntKind.wrap,IntKind.signed,IntKind.bits,e1,Bool.true_and];rw [if_neg (by simp only [decide_eq_true_eq];omega)]
theorem Fr.sl2 {n : Nat} {a : Act} {L : List (Tmp × Value)} (h : Fr n a L) (t : Tmp) (v : Value) (e : L.lookup t = some v) : a.tmps[t]?.getD undef = v := by
  rw [← Array.getD_eq_getD_getElem?];exact h.sl t v e
structure New (w w' : World) (B : Nat) : Prop where
  bel:Below w.heap.size w w'
  at_:B=w.heap.size
  size:w'.heap.size=B+1
theorem bel_cell {w w' : World} (b : Below w.heap.size w w') {p : Addr} {v : Value} (h : w.cell? p = some v) : w'.cell? p = some v :=
  (World.cell?_of_block (w:=w) (a:=p) (b.block p.block (World.block_lt_of_cell? w p h))).trans h
section
variable {P : Program} {n : Nat} {a : Act} {L : List (Tmp × Value)} {w0 w w' : World} {Bs Bs' : List (Nat × Array Value × TypeId)} {Q : Exit → Act → World → Prop} {ops : Array Oper} {o : Oper} {rest : List Oper} {t : Tmp} {v : Value}
theorem fr_row (c : Array Value) (ty : TypeId) (m : Nat) (hF : Fr n a L) (hW : Wd w0 w Bs) (hd : o.dst = some t) (hg : o.guard = none) (ht : Nat.blt t n = true)
    (h:∀ K:Act→World→Prop,K (a.put (some t) (.slice (some ⟨w.heap.size,0,none⟩) m m)) (w.alloc (.cells c ty))→o.wp P a w K Q)
    (k:∀ a' w' B,Wd w0 w' ((B,c,ty)::Bs)→New w w' B→Fr n a' ((t,.slice (some ⟨B,0,none⟩) m m)::L)→wpList P ops Q rest a' w'):wpList P ops Q (o::rest) a w :=
  fr_pure hF hd hg ht h fun a' hF'=>k a' _ _ (hW.new' c ty) ⟨bel1 w _,rfl,by simp⟩ hF'
theorem fr_set (hF : Fr n a L) (hW : Wd w0 w' Bs') (hd : o.dst = none) (hg : o.guard = none)
    (h:∀ K:Act→World→Prop,K a w'→o.wp P a w K Q)
    (k:∀ w',Wd w0 w' Bs'→wpList P ops Q rest a w'):wpList P ops Q (o::rest) a w :=
  fr_skip hF hd hg h (k _ hW)
theorem ret_tmp {fn : Func} {R : Ending → World → Prop} (hF : Fr n a L) (hr : fn.results = #[.tmp t]) (hv : L.lookup t = some v) (hR : R (.returned v) w) : bodyPost P fn R .ret a w :=
  bodyPost_ret ((results_tmp hr _ _ _).trans (by rw [hF.sl t v hv])) hF.defers hR
end
abbrev PTab := List (Tmp × (Value → World → Prop))
def PTab.E (M : PTab) (t : Tmp) (v : Value) (w : World) : Prop := match M.lookup t with | some p => p v w | none => True
def Stable (R : World → World → Prop) : PTab → Prop
  | []=>True
  | x::r=>(∀ v w w',R w w'→x.2 v w→x.2 v w')∧Stable R r
theorem PTab_stable {R : World → World → Prop} : ∀ (M : PTab), Stable R M → ∀ t v w w', R w w' → PTab.E M t v w → PTab.E M t v w'
  | [],_,_,_,_,_,_,h=>h
  | x::r,hs,t,v,w,w',hr,h=>by
    unfold PTab.E at *;obtain ⟨s,p⟩:=x;by_cases e:t=s
    · subst e;simp at h ⊢
      exact hs.1 _ _ _ hr h
    · have e':(t==s)=false:=by simpa using e
      simp only [List.lookup_cons,e'] at h ⊢;exact PTab_stable r hs.2 t v w w' hr h
theorem fr_draw {P : Program} {n id : Nat} {l l2 : List Oper} {outs : List Tmp} {gs : List (Nat × Option Bool)} {bs : List Bool} {a : Act} {w : World} {L : List (Tmp × Value)} {Q : Exit → Act → World → Prop}
    (M:PTab) (W:World→Prop) (R:World→World→Prop)
    (hm:P.follows .mixedOrders=true) (hF:Fr n a L) (hL:(L.all fun p=>!(dstsOf l).contains p.1)=true) (hB:calmB l n outs gs bs=true)
    (hT:(backB 0 (l++l2) && (guardsB l.length l && tailB l.length l2))=true)
    (hR:Stable R M) (hG:GuardOk (PTab.E M) W l.toArray gs) (hW:W w.drew) (hO:OutsOk (PTab.E M) a w.drew outs)
    (hA:AllOk (PTab.E M) W R P l bs)
    (hend:∀ a' w',W w'→(∀ t,(dstsOf l).contains t=true→PTab.E M t (a'.tmps.getD t undef) w')→Fr n a' L→wpList P (l++l2).toArray Q l2 a' w') :
    (Code.region id (l++l2).toArray true).wp P Q a w:=by
  simp only [Bool.and_eq_true] at hT;obtain ⟨hT1,hT2,hT3⟩:=hT;refine wp_region_any hm ?_
  have key:wpAny P .any l.toArray (Exit.then (fun a w=>wpList P (l++l2).toArray Q l2 a w) Q) l.length (Array.replicate l.length false) a w.drew:=by
    refine wpAny_calm (E:=PTab.E M) (W:=W) (R:=R) (a0:=a) (outs:=outs) (gs:=gs) (bs:=bs) (by rw [hF.size];exact hB) (PTab_stable M hR) hG hA ?_ _ _ _ _ (by simp) ?_ ⟨hW,rfl,rfl,fun _ _=>rfl,fun t ht _=>outs_mem outs hO t ht,?_⟩
    · intro vs w' hw' hE
      have hlt:∀ t,(dstsOf l).contains t=true→t<a.tmps.size:=fun t ht=>by
        simp only [calmB,Bool.and_eq_true] at hB
        have:=List.all_eq_true.1 hB.1.1.1.2 t (by simpa using ht)
        rw [hF.size];simpa using this
      have hat:∀ t,(dstsOf l).contains t=true→(puts a vs (dstsOf l)).tmps.getD t undef=vs t:=fun t ht=>by
        have:=puts_at vs (dstsOf l) a t (hlt t ht)
        rw [if_pos (by simpa using ht)] at this;rw [Array.getD_eq_getD_getElem?,this];rfl
      refine hend _ w' hw' (fun t ht=>by rw [hat t ht];exact hE t ht) ⟨by rw [puts_size,hF.size],by rw [puts_defers,hF.defers],fun t v hl=>?_⟩
      have hm:∃ p∈L,p.1=t:=by
        clear hL hO hend
        have:∀ (L:List (Tmp × Value)),L.lookup t=some v→∃ p∈L,p.1=t:=by
          intro L
          induction L with
          | nil=>intro h;simp at h
          | cons x r ih =>
            intro h;by_cases e:t=x.1
            · exact ⟨x,by simp,e.symm⟩
            · have e':(t==x.1)=false:=beq_false_of_ne e;rw [List.lookup_cons,e'] at h;obtain ⟨p,hp,he⟩:=ih h;exact ⟨p,by simp [hp],he⟩
        exact this L hl
      obtain ⟨p,hp,rfl⟩:=hm
      have hn:¬ p.1∈dstsOf l:=by
        have:=List.all_eq_true.1 hL p hp
        simpa using this
      rw [← hF.sl p.1 v hl];by_cases hlt':p.1<a.tmps.size
      · have:=puts_at vs (dstsOf l) a p.1 hlt'
        rw [if_neg hn] at this;rw [Array.getD_eq_getD_getElem?,Array.getD_eq_getD_getElem?,this]
      · have h9:a.tmps.size≤p.1:=Nat.le_of_not_lt hlt';rw [Array.getD_eq_getD_getElem?,Array.getD_eq_getD_getElem?,Array.getElem?_eq_none (by rw [puts_size];exact h9),Array.getElem?_eq_none h9]
    · simp only [Array.toList_replicate];exact Nat.le_trans (List.length_filter_le _ _) (by simp)
    · intro j o t hj hd hl;simp [Array.getD] at hl
  have:=wpAny_tail (Q:=Q) hT1 hT2 hT3 l.length (Array.replicate l.length false) a w.drew (by simp) key
  have e:(Array.replicate l.length false++Array.replicate l2.length false:Array Bool)=Array.replicate (l++l2).toArray.size false:=by
    simp
  have e2:l.length+l2.length=(l++l2).toArray.size:=by simp
  rw [e,e2] at this;exact this
theorem fr_draw_k {P : Program} {n id : Nat} {lo : List Oper} {outs : List Tmp} {gs : List (Nat × Option Bool)} {bs : List Bool} {a : Act} {w : World} {L : List (Tmp × Value)} {Q : Exit → Act → World → Prop}
    (k:Nat) (M:PTab) (W:World→Prop) (R:World→World→Prop)
    (hm:P.follows .mixedOrders=true) (hF:Fr n a L) (hL:(L.all fun p=>!(dstsOf (lo.take k)).contains p.1)=true) (hB:calmB (lo.take k) n outs gs bs=true)
    (hT:(backB 0 lo && (guardsB (lo.take k).length (lo.take k) && tailB (lo.take k).length (lo.drop k)))=true)
    (hR:Stable R M) (hG:GuardOk (PTab.E M) W (lo.take k).toArray gs) (hW:W w.drew) (hO:OutsOk (PTab.E M) a w.drew outs)
    (hA:AllOk (PTab.E M) W R P (lo.take k) bs)
    (hend:∀ ops a' w',W w'→(∀ t,(dstsOf (lo.take k)).contains t=true→PTab.E M t (a'.tmps.getD t undef) w')→Fr n a' L→wpList P ops Q (lo.drop k) a' w') :
    (Code.region id lo.toArray true).wp P Q a w:=by
  have h:=fr_draw (id:=id) (l:=lo.take k) (l2:=lo.drop k) (Q:=Q) M W R hm hF hL hB (by rw [List.take_append_drop];exact hT) hR hG hW hO hA (hend _);rwa [List.take_append_drop] at h
section
variable {w0 w w' w00 : World} {Bs : List (Nat × Array Value × TypeId)}
theorem Wd.add (h : Wd w0 w Bs) {B : Nat} {c : Array Value} {t : TypeId} (hb : Blk w B c t) (h0 : Wd w0 w00 Bs) (hB : w00.heap.size ≤ B) : Wd w0 w ((B, c, t) :: Bs) := by
  refine ⟨h.bel,fun i x hx=>?_,fun i x hx=>?_,fun i j x y hx hy e=>?_⟩
  · cases i with
    | zero=>simp at hx;subst hx;exact hb
    | succ i=>exact h.blk i x (by simpa using hx)
  · cases i with
    | zero=>simp at hx;subst hx;have:=h0.bel.size;simp only;omega
    | succ i=>exact h.new i x (by simpa using hx)
  · cases i with
    | zero =>
      cases j with
      | zero=>rfl
      | succ j =>
        simp at hx hy;subst hx
        have:=(h0.blk j y hy).lt
        simp at e;omega
    | succ i =>
      cases j with
      | zero =>
        simp at hx hy;subst hy
        have:=(h0.blk i x hx).lt
        simp at e;omega
      | succ j=>rw [h.nd i j x y (by simpa using hx) (by simpa using hy) e]
end
end Go.Proofs.YtilanenoliopbaeGreat
namespace Go.Proofs.YtilanenoliopbaeGreat
open Go.ChangeShapes Go.WideShapes Go.ChangeAt Go.RowKit
set_option linter.unusedSimpArgs false
set_option linter.unusedVariables false
def evalL (L : List (Tmp × Value)) : Operand → Option Value
  | .tmp t=>L.lookup t
  | .const v=>some v
  | .func f=>some (.func (.func f) #[] #[])
  | _=>none
abbrev St (n : Nat) (L : List (Tmp × Value)) (ops : Array Oper) (Q : Exit → Act → World → Prop) (l : List Oper) (w : World) : Prop := ∀ a, Fr n a L → wpList Tryz.prog ops Q l a w
def Gok (ops : Array Oper) (n : Nat) (L : List (Tmp × Value)) : Option (Nat × Bool) → Prop
  | none=>True
  | some (g,want)=>∃ tg,(ops[g]?).bind (fun o:Oper=>o.dst)=some tg∧Nat.blt tg n=true∧L.lookup tg=some (.bool want)
section
variable {n : Nat} {a : Act} {L : List (Tmp × Value)} {w0 w : World} {Bs : List (Nat × Array Value × TypeId)} {Q : Exit → Act → World → Prop} {ops : Array Oper} {rest : List Oper} {t : Tmp} {u v : Value} {ty ty2 ty3 : TypeId} {pos : String} {aft : Array Edge} {gd : Option (Nat × Bool)} {x y z : Operand} {g tg : Nat} {want b : Bool}
theorem Fr.ev (h : Fr n a L) (e : evalL L x = some v) : a.eval x = v := by
  cases x <;> simp only [evalL,Option.some.injEq,reduceCtorEq] at e
  · exact h.sl _ _ e
  · exact e
  · subst e;rfl
theorem Gok.on {o : Oper} (hF : Fr n a L) (h : Gok ops n L o.guard) : Region.wanted o (yielded ops a.tmps) = true := by
  cases hg:o.guard with
  | none=>simp [Region.wanted,hg]
  | some p =>
    obtain ⟨g,want⟩:=p;rw [hg] at h;obtain ⟨tg,h1,h2,h3⟩:=h;rw [wanted_g hF hg h1 h2 h3];simp
theorem St.go {l : List Oper} (hF : Fr n a L) (h : St n L ops Q l w) : wpList Tryz.prog ops Q l a w := h a hF
theorem rg {id : Nat} {l : List Oper} (hF : Fr n a L) (h : ∀ ops, St n L ops Q l w) : (Code.region id l.toArray false).wp Tryz.prog Q a w := fr_region fun ops _ => h ops a hF
theorem St.nil (h : ∀ a, Fr n a L → Q .normal a w) : St n L ops Q [] w := h
theorem s_step {o : Oper} (hg : Gok ops n L o.guard) (hd : o.dst = some t) (ht : Nat.blt t n = true)
    (h:∀ ev:Operand→Value,(∀ x v,evalL L x=some v→ev x=v)→(execOp ev o).run Tryz.prog w=.ok (.value v) w)
    (k:St n ((t,v)::L) ops Q rest w):St n L ops Q (o::rest) w:=fun a hF =>
  wpList_step fun K hK=>by
    rw [if_pos (hg.on hF)];unfold Oper.wp;rw [h a.eval (fun x v e=>hF.ev e),Oper.upon_value,hd];exact hK _ _ (k _ (hF.put ht))
theorem so {op : Op} (hs : (ops[g]?).bind (fun o : Oper => o.dst) = some tg) (htg : Nat.blt tg n = true) (hv : L.lookup tg = some u) (hu : (match u with | .bool b => b == want | _ => false) = false) (ht : Nat.blt t n = true)
    (k:St n ((t,undef)::L) ops Q rest w):St n L ops Q (⟨some t,op,ty,pos,aft,some (g,want)⟩::rest) w:=fun a hF =>
  fr_off hF rfl rfl hs htg hv hu ht k
theorem sm (hg : Gok ops n L gd) (hx : evalL L x = some (v)) (ht : Nat.blt t n = true)
    (k:St n ((t,v)::L) ops Q rest w):St n L ops Q (⟨some t,.move x,ty,pos,aft,gd⟩::rest) w :=
  s_step hg rfl ht (fun ev hev=>by have e:=hev _ _ hx;simp [go_sem,e]) k
theorem sa (hg : Gok ops n L gd) (hx : evalL L x = some (v)) (ht : Nat.blt t n = true)
    (k:St n ((t,v)::L) ops Q rest w):St n L ops Q (⟨some t,.assign x,ty,pos,aft,gd⟩::rest) w :=
  s_step hg rfl ht (fun ev hev=>by have e:=hev _ _ hx;simp [go_sem,e]) k
theorem sn (hg : Gok ops n L gd) (hx : evalL L x = some (.bool b)) (ht : Nat.blt t n = true)
    (k:St n ((t,.bool (!b))::L) ops Q rest w):St n L ops Q (⟨some t,.unOp .not ty2 x,ty,pos,aft,gd⟩::rest) w :=
  s_step hg rfl ht (fun ev hev=>by have e:=hev _ _ hx;simp [go_sem,e]) k
theorem sp (hg : Gok ops n L gd) (hx : evalL L x = some (.bool true)) (hy : evalL L y = some (v)) (ht : Nat.blt t n = true)
    (k:St n ((t,v)::L) ops Q rest w):St n L ops Q (⟨some t,.pick x y z,ty,pos,aft,gd⟩::rest) w :=
  s_step hg rfl ht (fun ev hev=>by have e:=hev _ _ hx;have e2:=hev _ _ hy;simp [go_sem,e,e2]) k
theorem spf (hg : Gok ops n L gd) (hx : evalL L x = some (.bool false)) (hz : evalL L z = some (v)) (ht : Nat.blt t n = true)
    (k:St n ((t,v)::L) ops Q rest w):St n L ops Q (⟨some t,.pick x y z,ty,pos,aft,gd⟩::rest) w :=
  s_step hg rfl ht (fun ev hev=>by have e:=hev _ _ hx;have e2:=hev _ _ hz;simp [go_sem,e,e2]) k
theorem seq {p q : Int} (hg : Gok ops n L gd) (hx : evalL L x = some (.int .i64 p)) (hy : evalL L y = some (.int .i64 q)) (ht : Nat.blt t n = true)
    (k:St n ((t,.bool (p==q))::L) ops Q rest w):St n L ops Q (⟨some t,.binOp .eql 3 x y 3,ty,pos,aft,gd⟩::rest) w :=
  s_step hg rfl ht (fun ev hev=>by have e:=hev _ _ hx;have e2:=hev _ _ hy;simp [go_sem,e,e2]) k
theorem sne {p q : Int} (hg : Gok ops n L gd) (hx : evalL L x = some (.int .i64 p)) (hy : evalL L y = some (.int .i64 q)) (ht : Nat.blt t n = true)
    (k:St n ((t,.bool (p != q))::L) ops Q rest w):St n L ops Q (⟨some t,.binOp .neq 3 x y 3,ty,pos,aft,gd⟩::rest) w :=
  s_step hg rfl ht (fun ev hev=>by have e:=hev _ _ hx;have e2:=hev _ _ hy;simp [go_sem,e,e2]) k
theorem slt {p q : Int} (hg : Gok ops n L gd) (hx : evalL L x = some (.int .i64 p)) (hy : evalL L y = some (.int .i64 q)) (ht : Nat.blt t n = true)
    (k:St n ((t,.bool (decide (p<q)))::L) ops Q rest w):St n L ops Q (⟨some t,.binOp .lss 3 x y 3,ty,pos,aft,gd⟩::rest) w :=
  s_step hg rfl ht (fun ev hev=>by have e:=hev _ _ hx;have e2:=hev _ _ hy;simp [go_sem,e,e2]) k
theorem sgt {p q : Int} (hg : Gok ops n L gd) (hx : evalL L x = some (.int .i64 p)) (hy : evalL L y = some (.int .i64 q)) (ht : Nat.blt t n = true)
    (k:St n ((t,.bool (decide (q<p)))::L) ops Q rest w):St n L ops Q (⟨some t,.binOp .gtr 3 x y 3,ty,pos,aft,gd⟩::rest) w :=
  s_step hg rfl ht (fun ev hev=>by have e:=hev _ _ hx;have e2:=hev _ _ hy;simp [go_sem,e,e2]) k
theorem sge {p q : Int} (hg : Gok ops n L gd) (hx : evalL L x = some (.int .i64 p)) (hy : evalL L y = some (.int .i64 q)) (ht : Nat.blt t n = true)
    (k:St n ((t,.bool (decide (q≤p)))::L) ops Q rest w):St n L ops Q (⟨some t,.binOp .geq 3 x y 3,ty,pos,aft,gd⟩::rest) w :=
  s_step hg rfl ht (fun ev hev=>by have e:=hev _ _ hx;have e2:=hev _ _ hy;simp [go_sem,e,e2]) k
theorem sad {q : Nat} (hq : q < 4611686018427387904) (hg : Gok ops n L gd) (hx : evalL L x = some (.int .i64 (q : Int))) (hy : evalL L y = some (.int .i64 1)) (ht : Nat.blt t n = true)
    (k:St n ((t,.int .i64 ((q:Int)+1))::L) ops Q rest w):St n L ops Q (⟨some t,.binOp .add 3 x y 3,ty,pos,aft,gd⟩::rest) w :=
  s_step hg rfl ht (fun ev hev=>by have e:=hev _ _ hx;have e2:=hev _ _ hy;have e3:=wrap_succ q hq;simp [go_sem,e,e2,e3]) k
theorem slInts {p : Option Addr} {m c : Nat} (hg : Gok ops n L gd) (hx : evalL L x = some (.slice p m c)) (ht : Nat.blt t n = true)
    (k:St n ((t,.int .i64 (m:Int))::L) ops Q rest w):St n L ops Q (⟨some t,.call { callee:=.builtin .len,args:=#[x],argTypes:=#[35] },3,pos,aft,gd⟩::rest) w :=
  s_step hg rfl ht (fun ev hev=>by have e:=hev _ _ hx;simp [go_sem,e]) k
theorem slTypes {p : Option Addr} {m c : Nat} (hg : Gok ops n L gd) (hx : evalL L x = some (.slice p m c)) (ht : Nat.blt t n = true)
    (k:St n ((t,.int .i64 (m:Int))::L) ops Q rest w):St n L ops Q (⟨some t,.call { callee:=.builtin .len,args:=#[x],argTypes:=#[33] },3,pos,aft,gd⟩::rest) w :=
  s_step hg rfl ht (fun ev hev=>by have e:=hev _ _ hx;simp [go_sem,e]) k
theorem siTypes {p : Option Addr} {m c q B j : Nat} (hp : p = some ⟨B, j, none⟩) (hq : q < m) (hg : Gok ops n L gd) (hx : evalL L x = some (.slice p m c)) (hy : evalL L y = some (.int .i64 (q : Int))) (ht : Nat.blt t n = true)
    (k:St n ((t,.pointer (some ⟨B,j+q*3,none⟩))::L) ops Q rest w):St n L ops Q (⟨some t,.indexAddr 33 x y,ty,pos,aft,gd⟩::rest) w :=
  s_step hg rfl ht (fun ev hev=>by have e:=hev _ _ hx;have e2:=hev _ _ hy;have h0:=Int.natCast_nonneg q;have h1:=Int.ofNat_lt.2 hq;subst hp;simp [go_sem,e,e2,h0,h1,hq]) k
theorem slInss {p : Option Addr} {m c : Nat} (hg : Gok ops n L gd) (hx : evalL L x = some (.slice p m c)) (ht : Nat.blt t n = true)
    (k:St n ((t,.int .i64 (m:Int))::L) ops Q rest w):St n L ops Q (⟨some t,.call { callee:=.builtin .len,args:=#[x],argTypes:=#[25] },3,pos,aft,gd⟩::rest) w :=
  s_step hg rfl ht (fun ev hev=>by have e:=hev _ _ hx;simp [go_sem,e]) k
theorem siInss {p : Option Addr} {m c q B j : Nat} (hp : p = some ⟨B, j, none⟩) (hq : q < m) (hg : Gok ops n L gd) (hx : evalL L x = some (.slice p m c)) (hy : evalL L y = some (.int .i64 (q : Int))) (ht : Nat.blt t n = true)
    (k:St n ((t,.pointer (some ⟨B,j+q*8,none⟩))::L) ops Q rest w):St n L ops Q (⟨some t,.indexAddr 25 x y,ty,pos,aft,gd⟩::rest) w :=
  s_step hg rfl ht (fun ev hev=>by have e:=hev _ _ hx;have e2:=hev _ _ hy;have h0:=Int.natCast_nonneg q;have h1:=Int.ofNat_lt.2 hq;subst hp;simp [go_sem,e,e2,h0,h1,hq]) k
theorem slBlocks {p : Option Addr} {m c : Nat} (hg : Gok ops n L gd) (hx : evalL L x = some (.slice p m c)) (ht : Nat.blt t n = true)
    (k:St n ((t,.int .i64 (m:Int))::L) ops Q rest w):St n L ops Q (⟨some t,.call { callee:=.builtin .len,args:=#[x],argTypes:=#[38] },3,pos,aft,gd⟩::rest) w :=
  s_step hg rfl ht (fun ev hev=>by have e:=hev _ _ hx;simp [go_sem,e]) k
theorem siBlocks {p : Option Addr} {m c q B j : Nat} (hp : p = some ⟨B, j, none⟩) (hq : q < m) (hg : Gok ops n L gd) (hx : evalL L x = some (.slice p m c)) (hy : evalL L y = some (.int .i64 (q : Int))) (ht : Nat.blt t n = true)
    (k:St n ((t,.pointer (some ⟨B,j+q*12,none⟩))::L) ops Q rest w):St n L ops Q (⟨some t,.indexAddr 38 x y,ty,pos,aft,gd⟩::rest) w :=
  s_step hg rfl ht (fun ev hev=>by have e:=hev _ _ hx;have e2:=hev _ _ hy;have h0:=Int.natCast_nonneg q;have h1:=Int.ofNat_lt.2 hq;subst hp;simp [go_sem,e,e2,h0,h1,hq]) k
theorem slFuncs {p : Option Addr} {m c : Nat} (hg : Gok ops n L gd) (hx : evalL L x = some (.slice p m c)) (ht : Nat.blt t n = true)
    (k:St n ((t,.int .i64 (m:Int))::L) ops Q rest w):St n L ops Q (⟨some t,.call { callee:=.builtin .len,args:=#[x],argTypes:=#[22] },3,pos,aft,gd⟩::rest) w :=
  s_step hg rfl ht (fun ev hev=>by have e:=hev _ _ hx;simp [go_sem,e]) k
theorem siFuncs {p : Option Addr} {m c q B j : Nat} (hp : p = some ⟨B, j, none⟩) (hq : q < m) (hg : Gok ops n L gd) (hx : evalL L x = some (.slice p m c)) (hy : evalL L y = some (.int .i64 (q : Int))) (ht : Nat.blt t n = true)
    (k:St n ((t,.pointer (some ⟨B,j+q*4,none⟩))::L) ops Q rest w):St n L ops Q (⟨some t,.indexAddr 22 x y,ty,pos,aft,gd⟩::rest) w :=
  s_step hg rfl ht (fun ev hev=>by have e:=hev _ _ hx;have e2:=hev _ _ hy;have h0:=Int.natCast_nonneg q;have h1:=Int.ofNat_lt.2 hq;subst hp;simp [go_sem,e,e2,h0,h1,hq]) k
theorem sfType0 {B j : Nat} (hg : Gok ops n L gd) (hx : evalL L x = some (.pointer (some ⟨B, j, none⟩))) (ht : Nat.blt t n = true)
    (k:St n ((t,.pointer (some ⟨B,j,none⟩))::L) ops Q rest w):St n L ops Q (⟨some t,.fieldAddr 65 x 0,ty,pos,aft,gd⟩::rest) w :=
  s_step hg rfl ht (fun ev hev=>by have e:=hev _ _ hx;simp [go_sem,e]) k
theorem sfType2 {B j : Nat} (hg : Gok ops n L gd) (hx : evalL L x = some (.pointer (some ⟨B, j, none⟩))) (ht : Nat.blt t n = true)
    (k:St n ((t,.pointer (some ⟨B,j+2,none⟩))::L) ops Q rest w):St n L ops Q (⟨some t,.fieldAddr 65 x 2,ty,pos,aft,gd⟩::rest) w :=
  s_step hg rfl ht (fun ev hev=>by have e:=hev _ _ hx;simp [go_sem,e]) k
theorem sfIns6 {B j : Nat} (hg : Gok ops n L gd) (hx : evalL L x = some (.pointer (some ⟨B, j, none⟩))) (ht : Nat.blt t n = true)
    (k:St n ((t,.pointer (some ⟨B,j+6,none⟩))::L) ops Q rest w):St n L ops Q (⟨some t,.fieldAddr 46 x 6,ty,pos,aft,gd⟩::rest) w :=
  s_step hg rfl ht (fun ev hev=>by have e:=hev _ _ hx;simp [go_sem,e]) k
theorem sfIns7 {B j : Nat} (hg : Gok ops n L gd) (hx : evalL L x = some (.pointer (some ⟨B, j, none⟩))) (ht : Nat.blt t n = true)
    (k:St n ((t,.pointer (some ⟨B,j+7,none⟩))::L) ops Q rest w):St n L ops Q (⟨some t,.fieldAddr 46 x 7,ty,pos,aft,gd⟩::rest) w :=
  s_step hg rfl ht (fun ev hev=>by have e:=hev _ _ hx;simp [go_sem,e]) k
theorem sfTo1 {B j : Nat} (hg : Gok ops n L gd) (hx : evalL L x = some (.pointer (some ⟨B, j, none⟩))) (ht : Nat.blt t n = true)
    (k:St n ((t,.pointer (some ⟨B,j+1,none⟩))::L) ops Q rest w):St n L ops Q (⟨some t,.fieldAddr 53 x 1,ty,pos,aft,gd⟩::rest) w :=
  s_step hg rfl ht (fun ev hev=>by have e:=hev _ _ hx;simp [go_sem,e]) k
theorem sfTo2 {B j : Nat} (hg : Gok ops n L gd) (hx : evalL L x = some (.pointer (some ⟨B, j, none⟩))) (ht : Nat.blt t n = true)
    (k:St n ((t,.pointer (some ⟨B,j+2,none⟩))::L) ops Q rest w):St n L ops Q (⟨some t,.fieldAddr 53 x 2,ty,pos,aft,gd⟩::rest) w :=
  s_step hg rfl ht (fun ev hev=>by have e:=hev _ _ hx;simp [go_sem,e]) k
theorem sfEnd2 {B j : Nat} (hg : Gok ops n L gd) (hx : evalL L x = some (.pointer (some ⟨B, j, none⟩))) (ht : Nat.blt t n = true)
    (k:St n ((t,.pointer (some ⟨B,j+2,none⟩))::L) ops Q rest w):St n L ops Q (⟨some t,.fieldAddr 55 x 2,ty,pos,aft,gd⟩::rest) w :=
  s_step hg rfl ht (fun ev hev=>by have e:=hev _ _ hx;simp [go_sem,e]) k
theorem sfEnd3 {B j : Nat} (hg : Gok ops n L gd) (hx : evalL L x = some (.pointer (some ⟨B, j, none⟩))) (ht : Nat.blt t n = true)
    (k:St n ((t,.pointer (some ⟨B,j+5,none⟩))::L) ops Q rest w):St n L ops Q (⟨some t,.fieldAddr 55 x 3,ty,pos,aft,gd⟩::rest) w :=
  s_step hg rfl ht (fun ev hev=>by have e:=hev _ _ hx;simp [go_sem,e]) k
theorem sfEnd4 {B j : Nat} (hg : Gok ops n L gd) (hx : evalL L x = some (.pointer (some ⟨B, j, none⟩))) (ht : Nat.blt t n = true)
    (k:St n ((t,.pointer (some ⟨B,j+8,none⟩))::L) ops Q rest w):St n L ops Q (⟨some t,.fieldAddr 55 x 4,ty,pos,aft,gd⟩::rest) w :=
  s_step hg rfl ht (fun ev hev=>by have e:=hev _ _ hx;simp [go_sem,e]) k
theorem sfBlock0 {B j : Nat} (hg : Gok ops n L gd) (hx : evalL L x = some (.pointer (some ⟨B, j, none⟩))) (ht : Nat.blt t n = true)
    (k:St n ((t,.pointer (some ⟨B,j,none⟩))::L) ops Q rest w):St n L ops Q (⟨some t,.fieldAddr 58 x 0,ty,pos,aft,gd⟩::rest) w :=
  s_step hg rfl ht (fun ev hev=>by have e:=hev _ _ hx;simp [go_sem,e]) k
theorem sfBlock1 {B j : Nat} (hg : Gok ops n L gd) (hx : evalL L x = some (.pointer (some ⟨B, j, none⟩))) (ht : Nat.blt t n = true)
    (k:St n ((t,.pointer (some ⟨B,j+1,none⟩))::L) ops Q rest w):St n L ops Q (⟨some t,.fieldAddr 58 x 1,ty,pos,aft,gd⟩::rest) w :=
  s_step hg rfl ht (fun ev hev=>by have e:=hev _ _ hx;simp [go_sem,e]) k
theorem sfBlock2 {B j : Nat} (hg : Gok ops n L gd) (hx : evalL L x = some (.pointer (some ⟨B, j, none⟩))) (ht : Nat.blt t n = true)
    (k:St n ((t,.pointer (some ⟨B,j+2,none⟩))::L) ops Q rest w):St n L ops Q (⟨some t,.fieldAddr 58 x 2,ty,pos,aft,gd⟩::rest) w :=
  s_step hg rfl ht (fun ev hev=>by have e:=hev _ _ hx;simp [go_sem,e]) k
theorem sfBlock3 {B j : Nat} (hg : Gok ops n L gd) (hx : evalL L x = some (.pointer (some ⟨B, j, none⟩))) (ht : Nat.blt t n = true)
    (k:St n ((t,.pointer (some ⟨B,j+3,none⟩))::L) ops Q rest w):St n L ops Q (⟨some t,.fieldAddr 58 x 3,ty,pos,aft,gd⟩::rest) w :=
  s_step hg rfl ht (fun ev hev=>by have e:=hev _ _ hx;simp [go_sem,e]) k
theorem sfFunc0 {B j : Nat} (hg : Gok ops n L gd) (hx : evalL L x = some (.pointer (some ⟨B, j, none⟩))) (ht : Nat.blt t n = true)
    (k:St n ((t,.pointer (some ⟨B,j,none⟩))::L) ops Q rest w):St n L ops Q (⟨some t,.fieldAddr 40 x 0,ty,pos,aft,gd⟩::rest) w :=
  s_step hg rfl ht (fun ev hev=>by have e:=hev _ _ hx;simp [go_sem,e]) k
theorem sfFunc1 {B j : Nat} (hg : Gok ops n L gd) (hx : evalL L x = some (.pointer (some ⟨B, j, none⟩))) (ht : Nat.blt t n = true)
    (k:St n ((t,.pointer (some ⟨B,j+1,none⟩))::L) ops Q rest w):St n L ops Q (⟨some t,.fieldAddr 40 x 1,ty,pos,aft,gd⟩::rest) w :=
  s_step hg rfl ht (fun ev hev=>by have e:=hev _ _ hx;simp [go_sem,e]) k
theorem sfFunc2 {B j : Nat} (hg : Gok ops n L gd) (hx : evalL L x = some (.pointer (some ⟨B, j, none⟩))) (ht : Nat.blt t n = true)
    (k:St n ((t,.pointer (some ⟨B,j+2,none⟩))::L) ops Q rest w):St n L ops Q (⟨some t,.fieldAddr 40 x 2,ty,pos,aft,gd⟩::rest) w :=
  s_step hg rfl ht (fun ev hev=>by have e:=hev _ _ hx;simp [go_sem,e]) k
theorem sfFunc3 {B j : Nat} (hg : Gok ops n L gd) (hx : evalL L x = some (.pointer (some ⟨B, j, none⟩))) (ht : Nat.blt t n = true)
    (k:St n ((t,.pointer (some ⟨B,j+3,none⟩))::L) ops Q rest w):St n L ops Q (⟨some t,.fieldAddr 40 x 3,ty,pos,aft,gd⟩::rest) w :=
  s_step hg rfl ht (fun ev hev=>by have e:=hev _ _ hx;simp [go_sem,e]) k
theorem sfModule0 {B j : Nat} (hg : Gok ops n L gd) (hx : evalL L x = some (.pointer (some ⟨B, j, none⟩))) (ht : Nat.blt t n = true)
    (k:St n ((t,.pointer (some ⟨B,j,none⟩))::L) ops Q rest w):St n L ops Q (⟨some t,.fieldAddr 24 x 0,ty,pos,aft,gd⟩::rest) w :=
  s_step hg rfl ht (fun ev hev=>by have e:=hev _ _ hx;simp [go_sem,e]) k
theorem sfFault0 {B j : Nat} (hg : Gok ops n L gd) (hx : evalL L x = some (.pointer (some ⟨B, j, none⟩))) (ht : Nat.blt t n = true)
    (k:St n ((t,.pointer (some ⟨B,j,none⟩))::L) ops Q rest w):St n L ops Q (⟨some t,.fieldAddr 30 x 0,ty,pos,aft,gd⟩::rest) w :=
  s_step hg rfl ht (fun ev hev=>by have e:=hev _ _ hx;simp [go_sem,e]) k
theorem sffuncLook1 {B j : Nat} (hg : Gok ops n L gd) (hx : evalL L x = some (.pointer (some ⟨B, j, none⟩))) (ht : Nat.blt t n = true)
    (k:St n ((t,.pointer (some ⟨B,j+1,none⟩))::L) ops Q rest w):St n L ops Q (⟨some t,.fieldAddr 78 x 1,ty,pos,aft,gd⟩::rest) w :=
  s_step hg rfl ht (fun ev hev=>by have e:=hev _ _ hx;simp [go_sem,e]) k
theorem sffuncLook2 {B j : Nat} (hg : Gok ops n L gd) (hx : evalL L x = some (.pointer (some ⟨B, j, none⟩))) (ht : Nat.blt t n = true)
    (k:St n ((t,.pointer (some ⟨B,j+5,none⟩))::L) ops Q rest w):St n L ops Q (⟨some t,.fieldAddr 78 x 2,ty,pos,aft,gd⟩::rest) w :=
  s_step hg rfl ht (fun ev hev=>by have e:=hev _ _ hx;simp [go_sem,e]) k
theorem sfblockLook0 {B j : Nat} (hg : Gok ops n L gd) (hx : evalL L x = some (.pointer (some ⟨B, j, none⟩))) (ht : Nat.blt t n = true)
    (k:St n ((t,.pointer (some ⟨B,j,none⟩))::L) ops Q rest w):St n L ops Q (⟨some t,.fieldAddr 103 x 0,ty,pos,aft,gd⟩::rest) w :=
  s_step hg rfl ht (fun ev hev=>by have e:=hev _ _ hx;simp [go_sem,e]) k
theorem sfblockLook1 {B j : Nat} (hg : Gok ops n L gd) (hx : evalL L x = some (.pointer (some ⟨B, j, none⟩))) (ht : Nat.blt t n = true)
    (k:St n ((t,.pointer (some ⟨B,j+6,none⟩))::L) ops Q rest w):St n L ops Q (⟨some t,.fieldAddr 103 x 1,ty,pos,aft,gd⟩::rest) w :=
  s_step hg rfl ht (fun ev hev=>by have e:=hev _ _ hx;simp [go_sem,e]) k
theorem sfblockLook2 {B j : Nat} (hg : Gok ops n L gd) (hx : evalL L x = some (.pointer (some ⟨B, j, none⟩))) (ht : Nat.blt t n = true)
    (k:St n ((t,.pointer (some ⟨B,j+18,none⟩))::L) ops Q rest w):St n L ops Q (⟨some t,.fieldAddr 103 x 2,ty,pos,aft,gd⟩::rest) w :=
  s_step hg rfl ht (fun ev hev=>by have e:=hev _ _ hx;simp [go_sem,e]) k
theorem scInt {B j : Nat} (hc : w.cell? ⟨B, j, none⟩ = some v) (hg : Gok ops n L gd) (hx : evalL L x = some (.pointer (some ⟨B, j, none⟩))) (ht : Nat.blt t n = true)
    (k:St n ((t,v)::L) ops Q rest w):St n L ops Q (⟨some t,.load 3 x,ty,pos,aft,gd⟩::rest) w :=
  s_step hg rfl ht (fun ev hev=>by have e:=hev _ _ hx;simp [go_sem,e,hc]) k
theorem sbInt (i : Nat) {B j : Nat} {c : Array Value} {bt : TypeId} (hW : Wd w0 w Bs) (hg : Gok ops n L gd) (hx : evalL L x = some (.pointer (some ⟨B, j, none⟩))) (hb : Bs[i]? = some (B, c, bt)) (hc : c[j]? = some v) (ht : Nat.blt t n = true)
    (k:St n ((t,v)::L) ops Q rest w):St n L ops Q (⟨some t,.load 3 x,ty,pos,aft,gd⟩::rest) w:=scInt (cellOf (hW.get i hb) j v hc) hg hx ht k
theorem scInts {B j : Nat} (hc : w.cell? ⟨B, j, none⟩ = some v) (hg : Gok ops n L gd) (hx : evalL L x = some (.pointer (some ⟨B, j, none⟩))) (ht : Nat.blt t n = true)
    (k:St n ((t,v)::L) ops Q rest w):St n L ops Q (⟨some t,.load 35 x,ty,pos,aft,gd⟩::rest) w :=
  s_step hg rfl ht (fun ev hev=>by have e:=hev _ _ hx;simp [go_sem,e,hc]) k
theorem sbInts (i : Nat) {B j : Nat} {c : Array Value} {bt : TypeId} (hW : Wd w0 w Bs) (hg : Gok ops n L gd) (hx : evalL L x = some (.pointer (some ⟨B, j, none⟩))) (hb : Bs[i]? = some (B, c, bt)) (hc : c[j]? = some v) (ht : Nat.blt t n = true)
    (k:St n ((t,v)::L) ops Q rest w):St n L ops Q (⟨some t,.load 35 x,ty,pos,aft,gd⟩::rest) w:=scInts (cellOf (hW.get i hb) j v hc) hg hx ht k
theorem scTypes {B j : Nat} (hc : w.cell? ⟨B, j, none⟩ = some v) (hg : Gok ops n L gd) (hx : evalL L x = some (.pointer (some ⟨B, j, none⟩))) (ht : Nat.blt t n = true)
    (k:St n ((t,v)::L) ops Q rest w):St n L ops Q (⟨some t,.load 33 x,ty,pos,aft,gd⟩::rest) w :=
  s_step hg rfl ht (fun ev hev=>by have e:=hev _ _ hx;simp [go_sem,e,hc]) k
theorem sbTypes (i : Nat) {B j : Nat} {c : Array Value} {bt : TypeId} (hW : Wd w0 w Bs) (hg : Gok ops n L gd) (hx : evalL L x = some (.pointer (some ⟨B, j, none⟩))) (hb : Bs[i]? = some (B, c, bt)) (hc : c[j]? = some v) (ht : Nat.blt t n = true)
    (k:St n ((t,v)::L) ops Q rest w):St n L ops Q (⟨some t,.load 33 x,ty,pos,aft,gd⟩::rest) w:=scTypes (cellOf (hW.get i hb) j v hc) hg hx ht k
theorem scInss {B j : Nat} (hc : w.cell? ⟨B, j, none⟩ = some v) (hg : Gok ops n L gd) (hx : evalL L x = some (.pointer (some ⟨B, j, none⟩))) (ht : Nat.blt t n = true)
    (k:St n ((t,v)::L) ops Q rest w):St n L ops Q (⟨some t,.load 25 x,ty,pos,aft,gd⟩::rest) w :=
  s_step hg rfl ht (fun ev hev=>by have e:=hev _ _ hx;simp [go_sem,e,hc]) k
theorem sbInss (i : Nat) {B j : Nat} {c : Array Value} {bt : TypeId} (hW : Wd w0 w Bs) (hg : Gok ops n L gd) (hx : evalL L x = some (.pointer (some ⟨B, j, none⟩))) (hb : Bs[i]? = some (B, c, bt)) (hc : c[j]? = some v) (ht : Nat.blt t n = true)
    (k:St n ((t,v)::L) ops Q rest w):St n L ops Q (⟨some t,.load 25 x,ty,pos,aft,gd⟩::rest) w:=scInss (cellOf (hW.get i hb) j v hc) hg hx ht k
theorem scBlocks {B j : Nat} (hc : w.cell? ⟨B, j, none⟩ = some v) (hg : Gok ops n L gd) (hx : evalL L x = some (.pointer (some ⟨B, j, none⟩))) (ht : Nat.blt t n = true)
    (k:St n ((t,v)::L) ops Q rest w):St n L ops Q (⟨some t,.load 38 x,ty,pos,aft,gd⟩::rest) w :=
  s_step hg rfl ht (fun ev hev=>by have e:=hev _ _ hx;simp [go_sem,e,hc]) k
theorem sbBlocks (i : Nat) {B j : Nat} {c : Array Value} {bt : TypeId} (hW : Wd w0 w Bs) (hg : Gok ops n L gd) (hx : evalL L x = some (.pointer (some ⟨B, j, none⟩))) (hb : Bs[i]? = some (B, c, bt)) (hc : c[j]? = some v) (ht : Nat.blt t n = true)
    (k:St n ((t,v)::L) ops Q rest w):St n L ops Q (⟨some t,.load 38 x,ty,pos,aft,gd⟩::rest) w:=scBlocks (cellOf (hW.get i hb) j v hc) hg hx ht k
theorem scFuncs {B j : Nat} (hc : w.cell? ⟨B, j, none⟩ = some v) (hg : Gok ops n L gd) (hx : evalL L x = some (.pointer (some ⟨B, j, none⟩))) (ht : Nat.blt t n = true)
    (k:St n ((t,v)::L) ops Q rest w):St n L ops Q (⟨some t,.load 22 x,ty,pos,aft,gd⟩::rest) w :=
  s_step hg rfl ht (fun ev hev=>by have e:=hev _ _ hx;simp [go_sem,e,hc]) k
theorem sbFuncs (i : Nat) {B j : Nat} {c : Array Value} {bt : TypeId} (hW : Wd w0 w Bs) (hg : Gok ops n L gd) (hx : evalL L x = some (.pointer (some ⟨B, j, none⟩))) (hb : Bs[i]? = some (B, c, bt)) (hc : c[j]? = some v) (ht : Nat.blt t n = true)
    (k:St n ((t,v)::L) ops Q rest w):St n L ops Q (⟨some t,.load 22 x,ty,pos,aft,gd⟩::rest) w:=scFuncs (cellOf (hW.get i hb) j v hc) hg hx ht k
theorem rangeOf {w : World} {B : Nat} {c : Array Value} {t : TypeId} (h : Blk w B c t) (j m : Nat) (hn : Nat.ble (j + m) c.size = true) : w.rangeAt B j ((c.toList.drop j).take m) := fun k v hk => by
  have hlt:k<((c.toList.drop j).take m).length:=(List.getElem?_eq_some_iff.1 hk).1;have hm:k<m:=by simp at hlt;omega
  rw [List.getElem?_take,if_pos hm,List.getElem?_drop] at hk;exact cellOf h (j+k) v (by simpa using hk)
theorem thereOf {w : World} {B : Nat} {c : Array Value} {t : TypeId} (h : Blk w B c t) (j n : Nat) (hn : j + n ≤ c.size) : w.there B j n := fun k hk =>
  ⟨by rw [cellOf h (j+k) c[j+k] (by simp [show j+k<c.size by omega])];rfl,freeOf h (j+k)⟩
theorem rangeAt_bel {w w' : World} {B j : Nat} {cs : List Value} (h : w.rangeAt B j cs) (b : Below w.heap.size w w') : w'.rangeAt B j cs := fun k v hk => bel_cell b (h k v hk)
theorem sSE {d : TypeDesc} {B j : Nat} {cs : List Value} (hu : Tryz.prog.underlying ty2 = some d) (hd : d.isRow = true) (hr : w.rangeAt B j cs) (hi : (Tryz.prog.info? ty2).map (·.size) = some cs.length) (hg : Gok ops n L gd) (hx : evalL L x = some (.pointer (some ⟨B, j, none⟩))) (ht : Nat.blt t n = true)
    (k:St n ((t,.agg cs.toArray)::L) ops Q rest w):St n L ops Q (⟨some t,.load ty2 x,ty,pos,aft,gd⟩::rest) w :=
  s_step hg rfl ht (fun ev hev=>by
    have e:=hev _ _ hx;have e2:=run_loadAt_mid (P:=Tryz.prog) w B j ty2 cs d hr hu hd hi;unfold execOp;simp only [e,Sem.run_bind,e2,Result.andThen_ok,Sem.run_pure]) k
theorem sS {d : TypeDesc} (i m : Nat) {B j : Nat} {c : Array Value} {bt : TypeId} (hu : Tryz.prog.underlying ty2 = some d) (hd : d.isRow = true) (hi : (Tryz.prog.info? ty2).map (·.size) = some m) (hW : Wd w0 w Bs) (hg : Gok ops n L gd) (hx : evalL L x = some (.pointer (some ⟨B, j, none⟩))) (hb : Bs[i]? = some (B, c, bt)) (hn : Nat.ble (j + m) c.size = true) (ht : Nat.blt t n = true)
    (k:St n ((t,.agg ((c.toList.drop j).take m).toArray)::L) ops Q rest w):St n L ops Q (⟨some t,.load ty2 x,ty,pos,aft,gd⟩::rest) w :=
  sSE hu hd (rangeOf (hW.get i hb) j m hn) (by rw [hi];have:j+m≤c.size:=by simpa [Nat.ble_eq] using hn
                                               simp;omega) hg hx ht k
theorem s_new {o : Oper} (c : Array Value) (bt : TypeId) (hW : Wd w0 w Bs) (hd : o.dst = some t) (hg : Gok ops n L o.guard) (ht : Nat.blt t n = true)
    (h:∀ ev:Operand→Value,(∀ x v,evalL L x=some v→ev x=v)→(execOp ev o).run Tryz.prog w=.ok (.value (.pointer (some ⟨w.heap.size,0,none⟩))) (w.alloc (.cells c bt)))
    (k:∀ w' B,Wd w0 w' ((B,c,bt)::Bs)→New w w' B→St n ((t,.pointer (some ⟨B,0,none⟩))::L) ops Q rest w'):St n L ops Q (o::rest) w:=fun a hF =>
  wpList_step fun K hK=>by
    rw [if_pos (hg.on hF)];unfold Oper.wp;rw [h a.eval (fun x v e=>hF.ev e),Oper.upon_value,hd];exact hK _ _ (k _ _ (hW.new' c bt) ⟨bel1 w _,rfl,by simp⟩ _ (hF.put ht))
theorem sB {cs : Array Value} (hW : Wd w0 w Bs) (hg : Gok ops n L gd) (hx : evalL L x = some (.agg cs)) (ht : Nat.blt t n = true)
    (k:∀ w' B,Wd w0 w' ((B,cs,ty2)::Bs)→New w w' B→St n ((t,.pointer (some ⟨B,0,none⟩))::L) ops Q rest w'):St n L ops Q (⟨some t,.box ty2 x,ty,pos,aft,gd⟩::rest) w :=
  s_new cs ty2 hW rfl hg ht (fun ev hev=>by have e:=hev _ _ hx;simp [go_sem,e]) k
theorem sAType (hW : Wd w0 w Bs) (hg : Gok ops n L gd) (ht : Nat.blt t n = true)
    (k:∀ w' B,Wd w0 w' ((B,#[.int .i64 0,.int .i64 0,.slice none 0 0],65)::Bs)→New w w' B→St n ((t,.pointer (some ⟨B,0,none⟩))::L) ops Q rest w'):St n L ops Q (⟨some t,.alloc 65,ty,pos,aft,gd⟩::rest) w :=
  s_new #[.int .i64 0,.int .i64 0,.slice none 0 0] 65 hW rfl hg ht (fun ev hev=>by simp [go_sem]) k
theorem sAIns (hW : Wd w0 w Bs) (hg : Gok ops n L gd) (ht : Nat.blt t n = true)
    (k:∀ w' B,Wd w0 w' ((B,#[.int .i64 0,.int .i64 0,.int .i64 0,.int .i64 0,.int .i64 0,.int .i64 0,.slice none 0 0,.slice none 0 0],46)::Bs)→New w w' B→St n ((t,.pointer (some ⟨B,0,none⟩))::L) ops Q rest w'):St n L ops Q (⟨some t,.alloc 46,ty,pos,aft,gd⟩::rest) w :=
  s_new #[.int .i64 0,.int .i64 0,.int .i64 0,.int .i64 0,.int .i64 0,.int .i64 0,.slice none 0 0,.slice none 0 0] 46 hW rfl hg ht (fun ev hev=>by simp [go_sem]) k
theorem sATo (hW : Wd w0 w Bs) (hg : Gok ops n L gd) (ht : Nat.blt t n = true)
    (k:∀ w' B,Wd w0 w' ((B,#[.int .i64 0,.slice none 0 0,.slice none 0 0],53)::Bs)→New w w' B→St n ((t,.pointer (some ⟨B,0,none⟩))::L) ops Q rest w'):St n L ops Q (⟨some t,.alloc 53,ty,pos,aft,gd⟩::rest) w :=
  s_new #[.int .i64 0,.slice none 0 0,.slice none 0 0] 53 hW rfl hg ht (fun ev hev=>by simp [go_sem]) k
theorem sAEnd (hW : Wd w0 w Bs) (hg : Gok ops n L gd) (ht : Nat.blt t n = true)
    (k:∀ w' B,Wd w0 w' ((B,#[.int .i64 0,.int .i64 0,.int .i64 0,.slice none 0 0,.slice none 0 0,.int .i64 0,.slice none 0 0,.slice none 0 0,.slice none 0 0],55)::Bs)→New w w' B→St n ((t,.pointer (some ⟨B,0,none⟩))::L) ops Q rest w'):St n L ops Q (⟨some t,.alloc 55,ty,pos,aft,gd⟩::rest) w :=
  s_new #[.int .i64 0,.int .i64 0,.int .i64 0,.slice none 0 0,.slice none 0 0,.int .i64 0,.slice none 0 0,.slice none 0 0,.slice none 0 0] 55 hW rfl hg ht (fun ev hev=>by simp [go_sem]) k
theorem sABlock (hW : Wd w0 w Bs) (hg : Gok ops n L gd) (ht : Nat.blt t n = true)
    (k:∀ w' B,Wd w0 w' ((B,#[.int .i64 0,.slice none 0 0,.slice none 0 0,.int .i64 0,.int .i64 0,.int .i64 0,.slice none 0 0,.slice none 0 0,.int .i64 0,.slice none 0 0,.slice none 0 0,.slice none 0 0],58)::Bs)→New w w' B→St n ((t,.pointer (some ⟨B,0,none⟩))::L) ops Q rest w'):St n L ops Q (⟨some t,.alloc 58,ty,pos,aft,gd⟩::rest) w :=
  s_new #[.int .i64 0,.slice none 0 0,.slice none 0 0,.int .i64 0,.int .i64 0,.int .i64 0,.slice none 0 0,.slice none 0 0,.int .i64 0,.slice none 0 0,.slice none 0 0,.slice none 0 0] 58 hW rfl hg ht (fun ev hev=>by simp [go_sem]) k
theorem sAFunc (hW : Wd w0 w Bs) (hg : Gok ops n L gd) (ht : Nat.blt t n = true)
    (k:∀ w' B,Wd w0 w' ((B,#[.int .i64 0,.slice none 0 0,.slice none 0 0,.slice none 0 0],40)::Bs)→New w w' B→St n ((t,.pointer (some ⟨B,0,none⟩))::L) ops Q rest w'):St n L ops Q (⟨some t,.alloc 40,ty,pos,aft,gd⟩::rest) w :=
  s_new #[.int .i64 0,.slice none 0 0,.slice none 0 0,.slice none 0 0] 40 hW rfl hg ht (fun ev hev=>by simp [go_sem]) k
theorem sAModule (hW : Wd w0 w Bs) (hg : Gok ops n L gd) (ht : Nat.blt t n = true)
    (k:∀ w' B,Wd w0 w' ((B,#[.slice none 0 0],24)::Bs)→New w w' B→St n ((t,.pointer (some ⟨B,0,none⟩))::L) ops Q rest w'):St n L ops Q (⟨some t,.alloc 24,ty,pos,aft,gd⟩::rest) w :=
  s_new #[.slice none 0 0] 24 hW rfl hg ht (fun ev hev=>by simp [go_sem]) k
theorem sAFault (hW : Wd w0 w Bs) (hg : Gok ops n L gd) (ht : Nat.blt t n = true)
    (k:∀ w' B,Wd w0 w' ((B,#[.int .i64 0,.int .i64 0],30)::Bs)→New w w' B→St n ((t,.pointer (some ⟨B,0,none⟩))::L) ops Q rest w'):St n L ops Q (⟨some t,.alloc 30,ty,pos,aft,gd⟩::rest) w :=
  s_new #[.int .i64 0,.int .i64 0] 30 hW rfl hg ht (fun ev hev=>by simp [go_sem]) k
theorem sT (i : Nat) {B j : Nat} {c : Array Value} {bt : TypeId} {cells : List Value} (hW : Wd w0 w Bs)
    (hx:evalL L x=some (.pointer (some ⟨B,j,none⟩))) (hy:evalL L y=some (.agg cells.toArray)) (hi:(Tryz.prog.info? ty2).map (·.size)=some cells.length) (h1:cells.all (·.oneCell')=true)
    (hb:Bs[i]?=some (B,c,bt)) (hs:Nat.ble (j+cells.length) c.size=true)
    (k:∀ w',Wd w0 w' (Bs.set i (B,spliced c j cells,bt))→St n L ops Q rest w'):St n L ops Q (⟨none,.store ty2 x y,ty,pos,aft,none⟩::rest) w:=fun a hF=>by
  have hn:j+cells.length≤c.size:=by simpa [Nat.ble_eq] using hs
  refine fr_set hF (hW.setAt i hb j cells hs rfl rfl) rfl rfl (fun K hK=>?_) (fun w' hW'=>k w' hW' a hF);have e:=hF.ev hx;have e2:=hF.ev hy
  have:=run_storeAt_mid (P:=Tryz.prog) w B j ty2 cells.toArray (by simpa using thereOf (hW.get i hb) j cells.length hn) (by simpa using hi) (by simpa using h1)
  unfold Oper.wp execOp;simp only [e,e2,Sem.run_bind,this,Result.andThen_ok,Sem.run_pure];rw [Oper.upon_skip];simpa [Act.put] using hK
theorem s1 (i : Nat) {B j : Nat} {c : Array Value} {bt : TypeId} (hi : (Tryz.prog.info? ty2).map (·.size) = some 1) (hW : Wd w0 w Bs)
    (hx:evalL L x=some (.pointer (some ⟨B,j,none⟩))) (hy:evalL L y=some v) (hv:v.cells=#[v]) (h1:v.oneCell'=true)
    (hb:Bs[i]?=some (B,c,bt)) (hs:Nat.ble (j+1) c.size=true)
    (k:∀ w',Wd w0 w' (Bs.set i (B,spliced c j [v],bt))→St n L ops Q rest w'):St n L ops Q (⟨none,.store ty2 x y,ty,pos,aft,none⟩::rest) w:=fun a hF=>by
  have hn:j+1≤c.size:=by simpa [Nat.ble_eq] using hs
  refine fr_set hF (hW.setAt i hb j [v] hs rfl rfl) rfl rfl (fun K hK=>?_) (fun w' hW'=>k w' hW' a hF);have e:=hF.ev hx;have e2:=hF.ev hy;have ht:=thereOf (hW.get i hb) j 1 hn;have h2:=run_storeCells_cells (P:=Tryz.prog) B j [v] 0 w (fun k hk=>by simpa using (ht k (by simpa using hk)).1) (fun k hk=>by simpa using (ht k (by simpa using hk)).2) (fun u hu=>by simp at hu;subst hu;exact h1)
  have h3:(Instr.storeAt ty2 (.pointer (some ⟨B,j,none⟩)) v).run Tryz.prog w=.ok () (w.setCells B j [v]):=by
    cases hq:Tryz.prog.info? ty2 with
    | none=>simp [hq] at hi
    | some q =>
      have hs1:q.size=1:=by simpa [hq] using hi
      simp only [Nat.add_zero] at h2;simp [Instr.storeAt,Instr.sureAddr,storeVar,sizeOf,typeInfo,hq,hv,hs1,h2]
  unfold Oper.wp execOp;simp only [e,e2,Sem.run_bind,h3,Result.andThen_ok,Sem.run_pure];rw [Oper.upon_skip];simpa [Act.put] using hK
theorem s_call {o : Oper} {f : FuncId} {args : Array Value} {V : Value} (hW : Wd w0 w Bs) (hg : Gok ops n L o.guard) (hc : Rd Tryz.prog f args w V) (hd : o.dst = some t) (ht : Nat.blt t n = true)
    (h:∀ ev:Operand→Value,(∀ x v,evalL L x=some v→ev x=v)→(execOp ev o).run Tryz.prog w=.ok (.enter f args) w)
    (k:∀ w',Wd w0 w' Bs→St n ((t,V)::L) ops Q rest w'):St n L ops Q (o::rest) w:=fun a hF =>
  wpList_step fun K hK=>by
    rw [if_pos (hg.on hF)];unfold Oper.wp;rw [h a.eval (fun x v e=>hF.ev e),Oper.upon_enter];refine hc.mono ?_;rintro e w9 ⟨rfl,hb⟩;rw [hd];exact hK _ _ (k _ (hW.below hb) _ (hF.put ht))
def CF (f : FuncId) : Prop := ∀ (args : Array Value) (w : World), (callFunc f args).run Tryz.prog w = .ok (.enter f args) w
theorem cf_of {f : FuncId} {fn : Func} (hf : Tryz.prog.funcs[f]? = some fn) (h1 : (fn.name == "runtime.NumGoroutine") = false) (h2 : fn.body.isNone = false) : CF f := fun args w => by
  have h3 : ¬ fn.name = "runtime.NumGoroutine" := by simpa using h1
  have h4:¬ fn.body=none:=by intro h;rw [h] at h2;cases h2
  simp [callFunc,hf,h3,h4]
theorem sc_1 {f : FuncId} {ts : Array TypeId} {x0 : Operand} {v0 : Value} {V : Value} (hcf : CF f) (hW : Wd w0 w Bs) (hc : Rd Tryz.prog f #[v0] w V) (hg : Gok ops n L gd) (h0 : evalL L x0 = some v0) (ht : Nat.blt t n = true)
    (k:∀ w',Wd w0 w' Bs→St n ((t,V)::L) ops Q rest w'):St n L ops Q (⟨some t,.call { callee:=.value (.func f),args:=#[x0],argTypes:=ts },ty,pos,aft,gd⟩::rest) w :=
  s_call hW hg hc rfl ht (fun ev hev=>by have e0:=hev _ _ h0;have ef:=hev (.func f) _ rfl;have ec:=hcf;unfold CF at ec;simp [go_sem,ef,ec,e0]) k
theorem sc_2 {f : FuncId} {ts : Array TypeId} {x0 x1 : Operand} {v0 v1 : Value} {V : Value} (hcf : CF f) (hW : Wd w0 w Bs) (hc : Rd Tryz.prog f #[v0, v1] w V) (hg : Gok ops n L gd) (h0 : evalL L x0 = some v0) (h1 : evalL L x1 = some v1) (ht : Nat.blt t n = true)
    (k:∀ w',Wd w0 w' Bs→St n ((t,V)::L) ops Q rest w'):St n L ops Q (⟨some t,.call { callee:=.value (.func f),args:=#[x0,x1],argTypes:=ts },ty,pos,aft,gd⟩::rest) w :=
  s_call hW hg hc rfl ht (fun ev hev=>by have e0:=hev _ _ h0;have e1:=hev _ _ h1;have ef:=hev (.func f) _ rfl;have ec:=hcf;unfold CF at ec;simp [go_sem,ef,ec,e0,e1]) k
theorem sc_3 {f : FuncId} {ts : Array TypeId} {x0 x1 x2 : Operand} {v0 v1 v2 : Value} {V : Value} (hcf : CF f) (hW : Wd w0 w Bs) (hc : Rd Tryz.prog f #[v0, v1, v2] w V) (hg : Gok ops n L gd) (h0 : evalL L x0 = some v0) (h1 : evalL L x1 = some v1) (h2 : evalL L x2 = some v2) (ht : Nat.blt t n = true)
    (k:∀ w',Wd w0 w' Bs→St n ((t,V)::L) ops Q rest w'):St n L ops Q (⟨some t,.call { callee:=.value (.func f),args:=#[x0,x1,x2],argTypes:=ts },ty,pos,aft,gd⟩::rest) w :=
  s_call hW hg hc rfl ht (fun ev hev=>by have e0:=hev _ _ h0;have e1:=hev _ _ h1;have e2:=hev _ _ h2;have ef:=hev (.func f) _ rfl;have ec:=hcf;unfold CF at ec;simp [go_sem,ef,ec,e0,e1,e2]) k
theorem sv_10 {f : FuncId} {ts : Array TypeId} {xf : Operand} {x0 : Operand} {v0 : Value} {V : Value} (hcf : CF f) (hW : Wd w0 w Bs) (hc : Rd Tryz.prog f #[v0] w V) (hg : Gok ops n L gd) (hf : evalL L xf = some (.func (.func f) #[] #[])) (h0 : evalL L x0 = some v0) (ht : Nat.blt t n = true)
    (k:∀ w',Wd w0 w' Bs→St n ((t,V)::L) ops Q rest w'):St n L ops Q (⟨some t,.call { callee:=.value xf,args:=#[x0],argTypes:=ts },ty,pos,aft,gd⟩::rest) w :=
  s_call hW hg hc rfl ht (fun ev hev=>by have e0:=hev _ _ h0;have ef:=hev _ _ hf;have ec:=hcf;unfold CF at ec;simp [go_sem,ef,ec,e0]) k
theorem sv_21 {f : FuncId} {ts : Array TypeId} {xf : Operand} {x0 x1 : Operand} {v0 v1 cp : Value} {V : Value} (hcf : CF f) (hW : Wd w0 w Bs) (hc : Rd Tryz.prog f #[v0, v1, cp] w V) (hg : Gok ops n L gd) (hf : evalL L xf = some (.func (.func f) #[] #[cp])) (h0 : evalL L x0 = some v0) (h1 : evalL L x1 = some v1) (ht : Nat.blt t n = true)
    (k:∀ w',Wd w0 w' Bs→St n ((t,V)::L) ops Q rest w'):St n L ops Q (⟨some t,.call { callee:=.value xf,args:=#[x0,x1],argTypes:=ts },ty,pos,aft,gd⟩::rest) w :=
  s_call hW hg hc rfl ht (fun ev hev=>by have e0:=hev _ _ h0;have e1:=hev _ _ h1;have ef:=hev _ _ hf;have ec:=hcf;unfold CF at ec;simp [go_sem,ef,ec,e0,e1]) k
theorem cf59 : CF 59 := cf_of Tryz.func59 (by kernel_rfl) (by kernel_rfl)
theorem cf86 : CF 86 := cf_of Tryz.func86 (by kernel_rfl) (by kernel_rfl)
theorem cf15 : CF 15 := cf_of Tryz.func15 (by kernel_rfl) (by kernel_rfl)
theorem cf31 : CF 31 := cf_of Tryz.func31 (by kernel_rfl) (by kernel_rfl)
theorem cf32 : CF 32 := cf_of Tryz.func32 (by kernel_rfl) (by kernel_rfl)
theorem cf33 : CF 33 := cf_of Tryz.func33 (by kernel_rfl) (by kernel_rfl)
theorem cf34 : CF 34 := cf_of Tryz.func34 (by kernel_rfl) (by kernel_rfl)
theorem cf35 : CF 35 := cf_of Tryz.func35 (by kernel_rfl) (by kernel_rfl)
theorem cf30 : CF 30 := cf_of Tryz.func30 (by kernel_rfl) (by kernel_rfl)
theorem cf57 : CF 57 := cf_of Tryz.func57 (by kernel_rfl) (by kernel_rfl)
theorem cf58 : CF 58 := cf_of Tryz.func58 (by kernel_rfl) (by kernel_rfl)
theorem cf60 : CF 60 := cf_of Tryz.func60 (by kernel_rfl) (by kernel_rfl)
theorem cf61 : CF 61 := cf_of Tryz.func61 (by kernel_rfl) (by kernel_rfl)
theorem cf62 : CF 62 := cf_of Tryz.func62 (by kernel_rfl) (by kernel_rfl)
theorem cf63 : CF 63 := cf_of Tryz.func63 (by kernel_rfl) (by kernel_rfl)
theorem cf64 : CF 64 := cf_of Tryz.func64 (by kernel_rfl) (by kernel_rfl)
theorem cf65 : CF 65 := cf_of Tryz.func65 (by kernel_rfl) (by kernel_rfl)
theorem cf66 : CF 66 := cf_of Tryz.func66 (by kernel_rfl) (by kernel_rfl)
theorem cf96 : CF 96 := cf_of Tryz.func96 (by kernel_rfl) (by kernel_rfl)
theorem cf83 : CF 83 := cf_of Tryz.func83 (by kernel_rfl) (by kernel_rfl)
theorem cf84 : CF 84 := cf_of Tryz.func84 (by kernel_rfl) (by kernel_rfl)
theorem cf85 : CF 85 := cf_of Tryz.func85 (by kernel_rfl) (by kernel_rfl)
theorem cf87 : CF 87 := cf_of Tryz.func87 (by kernel_rfl) (by kernel_rfl)
theorem cf88 : CF 88 := cf_of Tryz.func88 (by kernel_rfl) (by kernel_rfl)
theorem cf91 : CF 91 := cf_of Tryz.func91 (by kernel_rfl) (by kernel_rfl)
theorem cf92 : CF 92 := cf_of Tryz.func92 (by kernel_rfl) (by kernel_rfl)
theorem cf93 : CF 93 := cf_of Tryz.func93 (by kernel_rfl) (by kernel_rfl)
theorem cf75 : CF 75 := cf_of Tryz.func75 (by kernel_rfl) (by kernel_rfl)
theorem cf101 : CF 101 := cf_of Tryz.func101 (by kernel_rfl) (by kernel_rfl)
theorem cf102 : CF 102 := cf_of Tryz.func102 (by kernel_rfl) (by kernel_rfl)
theorem cf103 : CF 103 := cf_of Tryz.func103 (by kernel_rfl) (by kernel_rfl)
theorem cf109 : CF 109 := cf_of Tryz.func109 (by kernel_rfl) (by kernel_rfl)
theorem infType : (Tryz.prog.info? 65).map (·.size) = some 3 := by kernel_rfl
theorem infIns : (Tryz.prog.info? 46).map (·.size) = some 8 := by kernel_rfl
theorem infTo : (Tryz.prog.info? 53).map (·.size) = some 3 := by kernel_rfl
theorem infEnd : (Tryz.prog.info? 55).map (·.size) = some 9 := by kernel_rfl
theorem infBlock : (Tryz.prog.info? 58).map (·.size) = some 12 := by kernel_rfl
theorem infFunc : (Tryz.prog.info? 40).map (·.size) = some 4 := by kernel_rfl
theorem infModule : (Tryz.prog.info? 24).map (·.size) = some 1 := by kernel_rfl
theorem infFault : (Tryz.prog.info? 30).map (·.size) = some 2 := by kernel_rfl
theorem inffuncLook : (Tryz.prog.info? 78).map (·.size) = some 6 := by kernel_rfl
theorem infblockLook : (Tryz.prog.info? 103).map (·.size) = some 19 := by kernel_rfl
theorem inf1Ints : (Tryz.prog.info? 35).map (·.size) = some 1 := by kernel_rfl
theorem inf1Types : (Tryz.prog.info? 33).map (·.size) = some 1 := by kernel_rfl
theorem inf1Inss : (Tryz.prog.info? 25).map (·.size) = some 1 := by kernel_rfl
theorem inf1Blocks : (Tryz.prog.info? 38).map (·.size) = some 1 := by kernel_rfl
theorem ret_box {fn : Func} {R : Ending → World → Prop} {d : TypeDesc} (i : Nat) {B : Nat} {c : Array Value} {bt : TypeId} (hF : Fr n a L) (hW : Wd w0 w Bs) (hr : fn.results = #[.cell t ty]) (hv : L.lookup t = some (.pointer (some ⟨B, 0, none⟩))) (hb : Bs[i]? = some (B, c, bt))
    (hu:Tryz.prog.underlying ty=some d) (hd:d.isRow=true) (hi:(Tryz.prog.info? ty).map (·.size)=some c.size) (hR:R (.returned (.agg c)) w):bodyPost Tryz.prog fn R .ret a w:=by
  refine bodyPost_ret ?_ hF.defers hR;have e:=hF.sl2 t _ hv;have e2:=run_loadVar_mid (P:=Tryz.prog) w B 0 ty c.toList d (by have:=rangeOf (hW.get i hb) 0 c.size (by simp [Nat.ble_eq]);rw [List.drop_zero,List.take_of_length_le (by simp)] at this;exact this) hu hd (by simpa using hi);simp only [Array.toArray_toList] at e2;simp [results,hr,e,asAddr,e2]
end
def rangeC (x l m : Int) : Int := if x < l ∨ m < x then 1 else 0
def manyC (len : Nat) (m : Int) : Int := if m < len then 2 else 0
def handedC (r : Nat) (m : Int) (s : Nat) : Int := if manyC r m ≠ 0 then manyC r m else manyC s 8
def bareB (a b c k n : Int) (rl al : Nat) : Bool := a == 0 && b == 0 && c == 0 && k == 0 && n == 0 && (rl : Int) == 0 && (al : Int) == 0
def boundsC (funcs : Nat) (op k : Int) (rl al : Nat) : Int :=
  if op=2 then rangeC k 1 9 else if op=6∨op=7 then rangeC k 0 7 else if op=5 then manyC al 8
  else if op=14 then (if rangeC k 0 ((funcs:Int) - 1)=0 then handedC rl 6 al else rangeC k 0 ((funcs:Int) - 1)) else 0
theorem fb (f : Bool) (a : Int) : (!f && a != 0) = !((bif f then 0 else a) == 0) := by cases f <;> simp [bne]
theorem fbn (f : Bool) (l : Nat) : (!f && decide (0 < l)) = !(((bif f then 0 else l : Nat) : Int) == 0) := by
  cases f
  · by_cases h:l=0
    · simp [h]
    · have:0<l:=by omega
      simp [this,h]
  · simp
theorem bounds_eq (lm : Nat) (op k : Int) (rl al : Nat) : (if op = 2 ∧ (k < 1 ∨ 9 < k) then 1
    else if op=5∧8<al then 2
    else if (op=6∨op=7)∧(k<0∨7<k) then 1
    else if op=14∧(k<0∨(lm:Int)≤k) then 1
    else if op=14∧(6<rl∨8<al) then 2
    else 0)=boundsC lm op k rl al:=by
  unfold boundsC;by_cases h2:op=2
  · subst h2;simp [rangeC]
  · by_cases h6:op=6∨op=7
    · have h5:¬ op=5:=by omega
      have h14:¬ op=14:=by omega
      simp [h2,h5,h6,h14,rangeC]
    · by_cases h5:op=5
      · subst h5;simp [manyC];split <;> split <;> omega
      · by_cases h14:op=14
        · subst h14;simp [rangeC,handedC,manyC];repeat' split
          all_goals omega
        · simp [h2,h5,h6,h14]
theorem insForm_bare {lm : Nat} {op a b c k n : Int} {rl al : Nat} {fa fb' fc fk fn fr fs : Bool} (e : fieldsOf op = some (fa, fb', fc, fk, fn, fr, fs)) :
    insForm lm op a b c k n rl al=if bareB (bif fa then 0 else a) (bif fb' then 0 else b) (bif fc then 0 else c) (bif fk then 0 else k) (bif fn then 0 else n) (bif fr then 0 else rl) (bif fs then 0 else al)=true then boundsC lm op k rl al else 4:=by
  simp only [insForm,e,bounds_eq];rw [fb,fb,fb,fb,fb,fbn,fbn];unfold bareB;generalize ((bif fa then 0 else a)==0)=q1;generalize ((bif fb' then 0 else b)==0)=q2;generalize ((bif fc then 0 else c)==0)=q3;generalize ((bif fk then 0 else k)==0)=q4;generalize ((bif fn then 0 else n)==0)=q5;generalize (((bif fr then 0 else rl:Nat):Int)==0)=q6;generalize (((bif fs then 0 else al:Nat):Int)==0)=q7
  cases q1 <;> cases q2 <;> cases q3 <;> cases q4 <;> cases q5 <;> cases q6 <;> cases q7 <;> rfl
theorem cFuncAt_any {f : Nat} {w : World} (h : f < 1000000) : Rd Tryz.prog 59 #[.int .i64 (f : Int)] w (.int .i64 (10000 * (f : Int) + 9999)) := by
  unfold Rd;skip
  skip
  go_enter Tryz.func59,Tryz.ntmps59
  go_wp2
  go_ret;refine ⟨?_,Below.refl _ _⟩;show Ending.returned (.int .i64 ((f:Int)*10000+9999))=_;congr 2
  omega
theorem cBlockAt_any {f b : Nat} {w : World} (h : f < 1000000 ∧ b < 1000000) : Rd Tryz.prog 86 #[.int .i64 (f : Int), .int .i64 (b : Int)] w (.int .i64 (10000 * (f : Int) + 100 * (b : Int) + 90)) := by
  unfold Rd;have h1:=h.1;have h2:=h.2;skip
  go_enter Tryz.func86,Tryz.ntmps86
  go_wp2
  go_ret;refine ⟨?_,Below.refl _ _⟩;show Ending.returned (.int .i64 ((f:Int)*10000+(b:Int)*100+90))=_;congr 2
  omega
theorem cEndAt_any {f b : Nat} {w : World} (h : f < 1000000 ∧ b < 1000000) : Rd Tryz.prog 90 #[.int .i64 (f : Int), .int .i64 (b : Int)] w (.int .i64 (10000 * (f : Int) + 100 * (b : Int) + 91)) := by
  unfold Rd;have h1:=h.1;have h2:=h.2;skip
  go_enter Tryz.func90,Tryz.ntmps90
  go_wp2
  go_ret;refine ⟨?_,Below.refl _ _⟩;show Ending.returned (.int .i64 ((f:Int)*10000+(b:Int)*100+91))=_;congr 2
  omega
theorem cInsAt_any {f b i : Nat} {w : World} (h : f < 1000000 ∧ b < 1000000 ∧ i < 1000000) : Rd Tryz.prog 89 #[.int .i64 (f : Int), .int .i64 (b : Int), .int .i64 (i : Int)] w (.int .i64 (10000 * (f : Int) + 100 * (b : Int) + (i : Int))) := by
  unfold Rd;have h1:=h.1;have h2:=h.2;have h3:=h.2.1;have h4:=h.2.2;go_enter Tryz.func89,Tryz.ntmps89
  go_wp2
  go_ret;refine ⟨?_,Below.refl _ _⟩;show Ending.returned (.int .i64 ((f:Int)*10000+(b:Int)*100+(i:Int)))=_;congr 2
  omega
theorem rangeCode_any {x l m : Int} {w : World} : Rd Tryz.prog 67 #[.int .i64 x, .int .i64 l, .int .i64 m] w (.int .i64 (rangeC x l m)) := by
  unfold Rd rangeC;by_cases h1:x<l
  · rw [if_pos (.inl h1)];go_enter Tryz.func67,Tryz.ntmps67
    go_wp2
    go_ret;exact ⟨rfl,Below.refl _ _⟩
  · by_cases h2:m<x
    · rw [if_pos (.inr h2)];go_enter Tryz.func67,Tryz.ntmps67
      go_wp2
      go_ret;exact ⟨rfl,Below.refl _ _⟩
    · rw [if_neg (by omega)];go_enter Tryz.func67,Tryz.ntmps67
      go_wp2
      go_ret;exact ⟨rfl,Below.refl _ _⟩
theorem manyCode_any {p : Option Addr} {len c : Nat} {m : Int} {w : World} : Rd Tryz.prog 68 #[.slice p len c, .int .i64 m] w (.int .i64 (manyC len m)) := by
  unfold Rd manyC;by_cases h1:m<len
  · rw [if_pos h1];go_enter Tryz.func68,Tryz.ntmps68
    go_wp2
    go_ret;exact ⟨rfl,Below.refl _ _⟩
  · rw [if_neg h1];go_enter Tryz.func68,Tryz.ntmps68
    go_wp2
    go_ret;exact ⟨rfl,Below.refl _ _⟩
theorem handedCode_any {p q : Option Addr} {r c s d : Nat} {m : Int} {w : World} : Rd Tryz.prog 69 #[.slice p r c, .int .i64 m, .slice q s d] w (.int .i64 (handedC r m s)) := by
  have C1:Hid (∀ wx:World,Calls Tryz.prog 68 #[.slice p r c,.int .i64 m] wx fun e w'=>e=.returned (.int .i64 (manyC r m))∧Below wx.heap.size wx w'):=fun wx=>manyCode_any;have C2:Hid (∀ wx:World,Calls Tryz.prog 68 #[.slice q s d,.int .i64 8] wx fun e w'=>e=.returned (.int .i64 (manyC s 8))∧Below wx.heap.size wx w'):=fun wx=>manyCode_any;unfold Rd handedC;by_cases h:manyC r m=0
  · rw [if_neg (by simpa using h)];rw [h] at C1;go_enter Tryz.func69,Tryz.ntmps69
    go_wp2_with fail
    refine (C1.out w).mono ?_;rintro e w1 ⟨rfl,b1⟩;have B1:Hid (Below w.heap.size w w1):=b1;clear b1 C1;go_wp2_with fail
    refine (C2.out w1).mono ?_;rintro e w2 ⟨rfl,b2⟩;have B2:Hid (Below w.heap.size w w2):=B1.out.trans (b2.mono B1.out.size);clear b2 C2 B1;go_wp2
    go_ret;exact ⟨rfl,B2.out⟩
  · rw [if_pos h];have h':(manyC r m==0)=false:=by simpa using h
    generalize manyC r m=v at C1 h' h ⊢;go_enter Tryz.func69,Tryz.ntmps69
    go_wp2_with fail
    refine (C1.out w).mono ?_;rintro e w1 ⟨rfl,b1⟩;have B1:Hid (Below w.heap.size w w1):=b1;clear b1 C1 C2;go_wp2
    go_ret;exact ⟨rfl,B1.out⟩
theorem isBare_any {xop : Int} {xa xb xc xk xn : Int} {ra aa : Option Addr} {rl rc al ac : Nat} {w : World} : Rd Tryz.prog 38 #[.agg #[.int .i64 xop, .int .i64 xa, .int .i64 xb, .int .i64 xc, .int .i64 xk, .int .i64 xn, .slice ra rl rc, .slice aa al ac]] w (.bool (bareB xa xb xc xk xn rl al)) := by
  unfold Rd
  · by_cases h0:xa=0
    · subst h0
      · by_cases h1:xb=0
        · subst h1
          · by_cases h2:xc=0
            · subst h2
              · by_cases h3:xk=0
                · subst h3
                  · by_cases h4:xn=0
                    · subst h4
                      · by_cases h5:rl=0
                        · subst h5
                          · by_cases h6:al=0
                            · subst h6
                              · rw [show bareB 0 0 0 0 0 0 0=true from rfl];go_enter Tryz.func38,Tryz.ntmps38
                                go_wp2
                                go_ret;exact ⟨rfl,bel1 _ _⟩
                            · have g6:((al:Int)==0)=false:=by simpa using h6
                              rw [show bareB 0 0 0 0 0 0 al=false by simp [bareB,g6]];go_enter Tryz.func38,Tryz.ntmps38
                              go_wp2
                              go_ret;exact ⟨rfl,bel1 _ _⟩
                        · have g5:((rl:Int)==0)=false:=by simpa using h5
                          rw [show bareB 0 0 0 0 0 rl al=false by simp [bareB,g5]];go_enter Tryz.func38,Tryz.ntmps38
                          go_wp2
                          go_ret;exact ⟨rfl,bel1 _ _⟩
                    · have g4:(xn==0)=false:=by simpa using h4
                      rw [show bareB 0 0 0 0 xn rl al=false by simp [bareB,g4]];go_enter Tryz.func38,Tryz.ntmps38
                      go_wp2
                      go_ret;exact ⟨rfl,bel1 _ _⟩
                · have g3:(xk==0)=false:=by simpa using h3
                  rw [show bareB 0 0 0 xk xn rl al=false by simp [bareB,g3]];go_enter Tryz.func38,Tryz.ntmps38
                  go_wp2
                  go_ret;exact ⟨rfl,bel1 _ _⟩
            · have g2:(xc==0)=false:=by simpa using h2
              rw [show bareB 0 0 xc xk xn rl al=false by simp [bareB,g2]];go_enter Tryz.func38,Tryz.ntmps38
              go_wp2
              go_ret;exact ⟨rfl,bel1 _ _⟩
        · have g1:(xb==0)=false:=by simpa using h1
          rw [show bareB 0 xb xc xk xn rl al=false by simp [bareB,g1]];go_enter Tryz.func38,Tryz.ntmps38
          go_wp2
          go_ret;exact ⟨rfl,bel1 _ _⟩
    · have g0:(xa==0)=false:=by simpa using h0
      rw [show bareB xa xb xc xk xn rl al=false by simp [bareB,g0]];go_enter Tryz.func38,Tryz.ntmps38
      go_wp2
      go_ret;exact ⟨rfl,bel1 _ _⟩
theorem wf1 {xa xb xc xk xn : Int} {ra aa : Option Addr} {rl rc al ac : Nat} {w : World} : Rd Tryz.prog 37 #[.agg #[.int .i64 1, .int .i64 xa, .int .i64 xb, .int .i64 xc, .int .i64 xk, .int .i64 xn, .slice ra rl rc, .slice aa al ac]] w (.tuple #[.agg #[.int .i64 1, .int .i64 xa, .int .i64 xb, .int .i64 xc, .int .i64 xk, .int .i64 0, .slice ra rl rc, .slice aa al ac], .bool true]) := by
  unfold Rd;go_enter Tryz.func37,Tryz.ntmps37
  go_wp2
  exact bodyPost_ret (v:=.tuple #[.agg #[.int .i64 1,.int .i64 xa,.int .i64 xb,.int .i64 xc,.int .i64 xk,.int .i64 0,.slice ra rl rc,.slice aa al ac],.bool true]) (by simp [results,Tryz.results37,go_sem]) rfl ⟨rfl,bel2 _ _ _⟩
theorem wf2 {xa xb xc xk xn : Int} {ra aa : Option Addr} {rl rc al ac : Nat} {w : World} : Rd Tryz.prog 37 #[.agg #[.int .i64 2, .int .i64 xa, .int .i64 xb, .int .i64 xc, .int .i64 xk, .int .i64 xn, .slice ra rl rc, .slice aa al ac]] w (.tuple #[.agg #[.int .i64 2, .int .i64 0, .int .i64 0, .int .i64 xc, .int .i64 0, .int .i64 xn, .slice ra rl rc, .slice aa al ac], .bool true]) := by
  unfold Rd;go_enter Tryz.func37,Tryz.ntmps37
  go_wp2
  exact bodyPost_ret (v:=.tuple #[.agg #[.int .i64 2,.int .i64 0,.int .i64 0,.int .i64 xc,.int .i64 0,.int .i64 xn,.slice ra rl rc,.slice aa al ac],.bool true]) (by simp [results,Tryz.results37,go_sem]) rfl ⟨rfl,bel2 _ _ _⟩
theorem wf3 {xa xb xc xk xn : Int} {ra aa : Option Addr} {rl rc al ac : Nat} {w : World} : Rd Tryz.prog 37 #[.agg #[.int .i64 3, .int .i64 xa, .int .i64 xb, .int .i64 xc, .int .i64 xk, .int .i64 xn, .slice ra rl rc, .slice aa al ac]] w (.tuple #[.agg #[.int .i64 3, .int .i64 xa, .int .i64 xb, .int .i64 xc, .int .i64 xk, .int .i64 xn, .slice ra rl rc, .slice aa al ac], .bool true]) := by
  unfold Rd;go_enter Tryz.func37,Tryz.ntmps37
  go_wp2
  exact bodyPost_ret (v:=.tuple #[.agg #[.int .i64 3,.int .i64 xa,.int .i64 xb,.int .i64 xc,.int .i64 xk,.int .i64 xn,.slice ra rl rc,.slice aa al ac],.bool true]) (by simp [results,Tryz.results37,go_sem]) rfl ⟨rfl,bel2 _ _ _⟩
theorem wf4 {xa xb xc xk xn : Int} {ra aa : Option Addr} {rl rc al ac : Nat} {w : World} : Rd Tryz.prog 37 #[.agg #[.int .i64 4, .int .i64 xa, .int .i64 xb, .int .i64 xc, .int .i64 xk, .int .i64 xn, .slice ra rl rc, .slice aa al ac]] w (.tuple #[.agg #[.int .i64 4, .int .i64 0, .int .i64 xb, .int .i64 xc, .int .i64 xk, .int .i64 xn, .slice ra rl rc, .slice aa al ac], .bool true]) := by
  unfold Rd;go_enter Tryz.func37,Tryz.ntmps37
  go_wp2
  exact bodyPost_ret (v:=.tuple #[.agg #[.int .i64 4,.int .i64 0,.int .i64 xb,.int .i64 xc,.int .i64 xk,.int .i64 xn,.slice ra rl rc,.slice aa al ac],.bool true]) (by simp [results,Tryz.results37,go_sem]) rfl ⟨rfl,bel2 _ _ _⟩
theorem wf5 {xa xb xc xk xn : Int} {ra aa : Option Addr} {rl rc al ac : Nat} {w : World} : Rd Tryz.prog 37 #[.agg #[.int .i64 5, .int .i64 xa, .int .i64 xb, .int .i64 xc, .int .i64 xk, .int .i64 xn, .slice ra rl rc, .slice aa al ac]] w (.tuple #[.agg #[.int .i64 5, .int .i64 0, .int .i64 xb, .int .i64 xc, .int .i64 xk, .int .i64 xn, .slice ra rl rc, .slice none 0 0], .bool true]) := by
  unfold Rd;go_enter Tryz.func37,Tryz.ntmps37
  go_wp2
  exact bodyPost_ret (v:=.tuple #[.agg #[.int .i64 5,.int .i64 0,.int .i64 xb,.int .i64 xc,.int .i64 xk,.int .i64 xn,.slice ra rl rc,.slice none 0 0],.bool true]) (by simp [results,Tryz.results37,go_sem]) rfl ⟨rfl,bel2 _ _ _⟩
theorem wf6 {xa xb xc xk xn : Int} {ra aa : Option Addr} {rl rc al ac : Nat} {w : World} : Rd Tryz.prog 37 #[.agg #[.int .i64 6, .int .i64 xa, .int .i64 xb, .int .i64 xc, .int .i64 xk, .int .i64 xn, .slice ra rl rc, .slice aa al ac]] w (.tuple #[.agg #[.int .i64 6, .int .i64 0, .int .i64 xb, .int .i64 xc, .int .i64 0, .int .i64 xn, .slice ra rl rc, .slice aa al ac], .bool true]) := by
  unfold Rd;go_enter Tryz.func37,Tryz.ntmps37
  go_wp2
  exact bodyPost_ret (v:=.tuple #[.agg #[.int .i64 6,.int .i64 0,.int .i64 xb,.int .i64 xc,.int .i64 0,.int .i64 xn,.slice ra rl rc,.slice aa al ac],.bool true]) (by simp [results,Tryz.results37,go_sem]) rfl ⟨rfl,bel2 _ _ _⟩
theorem wf7 {xa xb xc xk xn : Int} {ra aa : Option Addr} {rl rc al ac : Nat} {w : World} : Rd Tryz.prog 37 #[.agg #[.int .i64 7, .int .i64 xa, .int .i64 xb, .int .i64 xc, .int .i64 xk, .int .i64 xn, .slice ra rl rc, .slice aa al ac]] w (.tuple #[.agg #[.int .i64 7, .int .i64 0, .int .i64 0, .int .i64 xc, .int .i64 0, .int .i64 xn, .slice ra rl rc, .slice aa al ac], .bool true]) := by
  unfold Rd;go_enter Tryz.func37,Tryz.ntmps37
  go_wp2
  exact bodyPost_ret (v:=.tuple #[.agg #[.int .i64 7,.int .i64 0,.int .i64 0,.int .i64 xc,.int .i64 0,.int .i64 xn,.slice ra rl rc,.slice aa al ac],.bool true]) (by simp [results,Tryz.results37,go_sem]) rfl ⟨rfl,bel2 _ _ _⟩
theorem wf8 {xa xb xc xk xn : Int} {ra aa : Option Addr} {rl rc al ac : Nat} {w : World} : Rd Tryz.prog 37 #[.agg #[.int .i64 8, .int .i64 xa, .int .i64 xb, .int .i64 xc, .int .i64 xk, .int .i64 xn, .slice ra rl rc, .slice aa al ac]] w (.tuple #[.agg #[.int .i64 8, .int .i64 0, .int .i64 0, .int .i64 xc, .int .i64 xk, .int .i64 xn, .slice ra rl rc, .slice aa al ac], .bool true]) := by
  unfold Rd;go_enter Tryz.func37,Tryz.ntmps37
  go_wp2
  exact bodyPost_ret (v:=.tuple #[.agg #[.int .i64 8,.int .i64 0,.int .i64 0,.int .i64 xc,.int .i64 xk,.int .i64 xn,.slice ra rl rc,.slice aa al ac],.bool true]) (by simp [results,Tryz.results37,go_sem]) rfl ⟨rfl,bel2 _ _ _⟩
theorem wf9 {xa xb xc xk xn : Int} {ra aa : Option Addr} {rl rc al ac : Nat} {w : World} : Rd Tryz.prog 37 #[.agg #[.int .i64 9, .int .i64 xa, .int .i64 xb, .int .i64 xc, .int .i64 xk, .int .i64 xn, .slice ra rl rc, .slice aa al ac]] w (.tuple #[.agg #[.int .i64 9, .int .i64 0, .int .i64 0, .int .i64 xc, .int .i64 xk, .int .i64 xn, .slice ra rl rc, .slice aa al ac], .bool true]) := by
  unfold Rd;go_enter Tryz.func37,Tryz.ntmps37
  go_wp2
  exact bodyPost_ret (v:=.tuple #[.agg #[.int .i64 9,.int .i64 0,.int .i64 0,.int .i64 xc,.int .i64 xk,.int .i64 xn,.slice ra rl rc,.slice aa al ac],.bool true]) (by simp [results,Tryz.results37,go_sem]) rfl ⟨rfl,bel2 _ _ _⟩
theorem wf10 {xa xb xc xk xn : Int} {ra aa : Option Addr} {rl rc al ac : Nat} {w : World} : Rd Tryz.prog 37 #[.agg #[.int .i64 10, .int .i64 xa, .int .i64 xb, .int .i64 xc, .int .i64 xk, .int .i64 xn, .slice ra rl rc, .slice aa al ac]] w (.tuple #[.agg #[.int .i64 10, .int .i64 0, .int .i64 0, .int .i64 0, .int .i64 xk, .int .i64 xn, .slice ra rl rc, .slice aa al ac], .bool true]) := by
  unfold Rd;go_enter Tryz.func37,Tryz.ntmps37
  go_wp2
  exact bodyPost_ret (v:=.tuple #[.agg #[.int .i64 10,.int .i64 0,.int .i64 0,.int .i64 0,.int .i64 xk,.int .i64 xn,.slice ra rl rc,.slice aa al ac],.bool true]) (by simp [results,Tryz.results37,go_sem]) rfl ⟨rfl,bel2 _ _ _⟩
theorem wf11 {xa xb xc xk xn : Int} {ra aa : Option Addr} {rl rc al ac : Nat} {w : World} : Rd Tryz.prog 37 #[.agg #[.int .i64 11, .int .i64 xa, .int .i64 xb, .int .i64 xc, .int .i64 xk, .int .i64 xn, .slice ra rl rc, .slice aa al ac]] w (.tuple #[.agg #[.int .i64 11, .int .i64 0, .int .i64 xb, .int .i64 xc, .int .i64 xk, .int .i64 xn, .slice ra rl rc, .slice aa al ac], .bool true]) := by
  unfold Rd;go_enter Tryz.func37,Tryz.ntmps37
  go_wp2
  exact bodyPost_ret (v:=.tuple #[.agg #[.int .i64 11,.int .i64 0,.int .i64 xb,.int .i64 xc,.int .i64 xk,.int .i64 xn,.slice ra rl rc,.slice aa al ac],.bool true]) (by simp [results,Tryz.results37,go_sem]) rfl ⟨rfl,bel2 _ _ _⟩
theorem wf12 {xa xb xc xk xn : Int} {ra aa : Option Addr} {rl rc al ac : Nat} {w : World} : Rd Tryz.prog 37 #[.agg #[.int .i64 12, .int .i64 xa, .int .i64 xb, .int .i64 xc, .int .i64 xk, .int .i64 xn, .slice ra rl rc, .slice aa al ac]] w (.tuple #[.agg #[.int .i64 12, .int .i64 xa, .int .i64 xb, .int .i64 xc, .int .i64 xk, .int .i64 xn, .slice ra rl rc, .slice aa al ac], .bool true]) := by
  unfold Rd;go_enter Tryz.func37,Tryz.ntmps37
  go_wp2
  exact bodyPost_ret (v:=.tuple #[.agg #[.int .i64 12,.int .i64 xa,.int .i64 xb,.int .i64 xc,.int .i64 xk,.int .i64 xn,.slice ra rl rc,.slice aa al ac],.bool true]) (by simp [results,Tryz.results37,go_sem]) rfl ⟨rfl,bel2 _ _ _⟩
theorem wf13 {xa xb xc xk xn : Int} {ra aa : Option Addr} {rl rc al ac : Nat} {w : World} : Rd Tryz.prog 37 #[.agg #[.int .i64 13, .int .i64 xa, .int .i64 xb, .int .i64 xc, .int .i64 xk, .int .i64 xn, .slice ra rl rc, .slice aa al ac]] w (.tuple #[.agg #[.int .i64 13, .int .i64 0, .int .i64 xb, .int .i64 xc, .int .i64 xk, .int .i64 xn, .slice ra rl rc, .slice aa al ac], .bool true]) := by
  unfold Rd;go_enter Tryz.func37,Tryz.ntmps37
  go_wp2
  exact bodyPost_ret (v:=.tuple #[.agg #[.int .i64 13,.int .i64 0,.int .i64 xb,.int .i64 xc,.int .i64 xk,.int .i64 xn,.slice ra rl rc,.slice aa al ac],.bool true]) (by simp [results,Tryz.results37,go_sem]) rfl ⟨rfl,bel2 _ _ _⟩
theorem wf14 {xa xb xc xk xn : Int} {ra aa : Option Addr} {rl rc al ac : Nat} {w : World} : Rd Tryz.prog 37 #[.agg #[.int .i64 14, .int .i64 xa, .int .i64 xb, .int .i64 xc, .int .i64 xk, .int .i64 xn, .slice ra rl rc, .slice aa al ac]] w (.tuple #[.agg #[.int .i64 14, .int .i64 xa, .int .i64 xb, .int .i64 xc, .int .i64 0, .int .i64 xn, .slice none 0 0, .slice none 0 0], .bool true]) := by
  unfold Rd;go_enter Tryz.func37,Tryz.ntmps37
  go_wp2
  exact bodyPost_ret (v:=.tuple #[.agg #[.int .i64 14,.int .i64 xa,.int .i64 xb,.int .i64 xc,.int .i64 0,.int .i64 xn,.slice none 0 0,.slice none 0 0],.bool true]) (by simp [results,Tryz.results37,go_sem]) rfl ⟨rfl,bel2 _ _ _⟩
theorem wfNo {xop : Int} {xa xb xc xk xn : Int} {ra aa : Option Addr} {rl rc al ac : Nat} {w : World} (h : xop ≠ 1 ∧ xop ≠ 2 ∧ xop ≠ 3 ∧ xop ≠ 4 ∧ xop ≠ 5 ∧ xop ≠ 6 ∧ xop ≠ 7 ∧ xop ≠ 8 ∧ xop ≠ 9 ∧ xop ≠ 10 ∧ xop ≠ 11 ∧ xop ≠ 12 ∧ xop ≠ 13 ∧ xop ≠ 14) : Rd Tryz.prog 37 #[.agg #[.int .i64 xop, .int .i64 xa, .int .i64 xb, .int .i64 xc, .int .i64 xk, .int .i64 xn, .slice ra rl rc, .slice aa al ac]] w (.tuple #[.agg #[.int .i64 xop, .int .i64 xa, .int .i64 xb, .int .i64 xc, .int .i64 xk, .int .i64 xn, .slice ra rl rc, .slice aa al ac], .bool false]) := by
  obtain ⟨h1,h2,h3,h4,h5,h6,h7,h8,h9,h10,h11,h12,h13,h14⟩:=h;have g1:(xop==1)=false:=by simpa using h1
  have g2:(xop==2)=false:=by simpa using h2
  have g3:(xop==3)=false:=by simpa using h3
  have g4:(xop==4)=false:=by simpa using h4
  have g5:(xop==5)=false:=by simpa using h5
  have g6:(xop==6)=false:=by simpa using h6
  have g7:(xop==7)=false:=by simpa using h7
  have g8:(xop==8)=false:=by simpa using h8
  have g9:(xop==9)=false:=by simpa using h9
  have g10:(xop==10)=false:=by simpa using h10
  have g11:(xop==11)=false:=by simpa using h11
  have g12:(xop==12)=false:=by simpa using h12
  have g13:(xop==13)=false:=by simpa using h13
  have g14:(xop==14)=false:=by simpa using h14
  unfold Rd;go_enter Tryz.func37,Tryz.ntmps37
  go_wp2
  exact bodyPost_ret (v:=.tuple #[.agg #[.int .i64 xop,.int .i64 xa,.int .i64 xb,.int .i64 xc,.int .i64 xk,.int .i64 xn,.slice ra rl rc,.slice aa al ac],.bool false]) (by simp [results,Tryz.results37,go_sem]) rfl ⟨rfl,bel2 _ _ _⟩
theorem bounds2 {xa xb xc xk xn : Int} {ra aa : Option Addr} {rl rc al ac : Nat} {am : Option Addr} {lm cm : Nat} {w : World} : Rd Tryz.prog 39 #[.agg #[.slice am lm cm], .agg #[.int .i64 2, .int .i64 xa, .int .i64 xb, .int .i64 xc, .int .i64 xk, .int .i64 xn, .slice ra rl rc, .slice aa al ac]] w (.int .i64 (boundsC lm 2 xk rl al)) := by
  have C:Hid (∀ wx:World,Calls Tryz.prog 67 #[.int .i64 xk,.int .i64 1,.int .i64 9] wx fun e w'=>e=.returned (.int .i64 (rangeC xk 1 9))∧Below wx.heap.size wx w'):=fun wx=>rangeCode_any;rw [show boundsC lm 2 xk rl al=rangeC xk 1 9 from rfl];generalize rangeC xk 1 9=v at C ⊢;unfold Rd;go_enter Tryz.func39,Tryz.ntmps39
  go_wp2_with fail
  refine (C.out _).mono ?_;rintro e w2 ⟨rfl,b2⟩;have B2:Hid (Below w.heap.size w w2):=(bel2 _ _ _).trans (b2.mono (bel2 w _ _).size);clear b2 C;go_wp2
  go_ret;exact ⟨rfl,B2.out⟩
theorem bounds6 {xa xb xc xk xn : Int} {ra aa : Option Addr} {rl rc al ac : Nat} {am : Option Addr} {lm cm : Nat} {w : World} : Rd Tryz.prog 39 #[.agg #[.slice am lm cm], .agg #[.int .i64 6, .int .i64 xa, .int .i64 xb, .int .i64 xc, .int .i64 xk, .int .i64 xn, .slice ra rl rc, .slice aa al ac]] w (.int .i64 (boundsC lm 6 xk rl al)) := by
  have C:Hid (∀ wx:World,Calls Tryz.prog 67 #[.int .i64 xk,.int .i64 0,.int .i64 7] wx fun e w'=>e=.returned (.int .i64 (rangeC xk 0 7))∧Below wx.heap.size wx w'):=fun wx=>rangeCode_any;rw [show boundsC lm 6 xk rl al=rangeC xk 0 7 from rfl];generalize rangeC xk 0 7=v at C ⊢;unfold Rd;go_enter Tryz.func39,Tryz.ntmps39
  go_wp2_with fail
  refine (C.out _).mono ?_;rintro e w2 ⟨rfl,b2⟩;have B2:Hid (Below w.heap.size w w2):=(bel2 _ _ _).trans (b2.mono (bel2 w _ _).size);clear b2 C;go_wp2
  go_ret;exact ⟨rfl,B2.out⟩
theorem bounds7 {xa xb xc xk xn : Int} {ra aa : Option Addr} {rl rc al ac : Nat} {am : Option Addr} {lm cm : Nat} {w : World} : Rd Tryz.prog 39 #[.agg #[.slice am lm cm], .agg #[.int .i64 7, .int .i64 xa, .int .i64 xb, .int .i64 xc, .int .i64 xk, .int .i64 xn, .slice ra rl rc, .slice aa al ac]] w (.int .i64 (boundsC lm 7 xk rl al)) := by
  have C:Hid (∀ wx:World,Calls Tryz.prog 67 #[.int .i64 xk,.int .i64 0,.int .i64 7] wx fun e w'=>e=.returned (.int .i64 (rangeC xk 0 7))∧Below wx.heap.size wx w'):=fun wx=>rangeCode_any;rw [show boundsC lm 7 xk rl al=rangeC xk 0 7 from rfl];generalize rangeC xk 0 7=v at C ⊢;unfold Rd;go_enter Tryz.func39,Tryz.ntmps39
  go_wp2_with fail
  refine (C.out _).mono ?_;rintro e w2 ⟨rfl,b2⟩;have B2:Hid (Below w.heap.size w w2):=(bel2 _ _ _).trans (b2.mono (bel2 w _ _).size);clear b2 C;go_wp2
  go_ret;exact ⟨rfl,B2.out⟩
theorem bounds5 {xa xb xc xk xn : Int} {ra aa : Option Addr} {rl rc al ac : Nat} {am : Option Addr} {lm cm : Nat} {w : World} : Rd Tryz.prog 39 #[.agg #[.slice am lm cm], .agg #[.int .i64 5, .int .i64 xa, .int .i64 xb, .int .i64 xc, .int .i64 xk, .int .i64 xn, .slice ra rl rc, .slice aa al ac]] w (.int .i64 (boundsC lm 5 xk rl al)) := by
  have C:Hid (∀ wx:World,Calls Tryz.prog 68 #[.slice aa al ac,.int .i64 8] wx fun e w'=>e=.returned (.int .i64 (manyC al 8))∧Below wx.heap.size wx w'):=fun wx=>manyCode_any;rw [show boundsC lm 5 xk rl al=manyC al 8 from rfl];generalize manyC al 8=v at C ⊢;unfold Rd;go_enter Tryz.func39,Tryz.ntmps39
  go_wp2_with fail
  refine (C.out _).mono ?_;rintro e w2 ⟨rfl,b2⟩;have B2:Hid (Below w.heap.size w w2):=(bel2 _ _ _).trans (b2.mono (bel2 w _ _).size);clear b2 C;go_wp2
  go_ret;exact ⟨rfl,B2.out⟩
theorem bounds14 {xa xb xc xk xn : Int} {ra aa : Option Addr} {rl rc al ac : Nat} {am : Option Addr} {lm cm : Nat} {w : World} (hlm : lm < 2305843009213693952) : Rd Tryz.prog 39 #[.agg #[.slice am lm cm], .agg #[.int .i64 14, .int .i64 xa, .int .i64 xb, .int .i64 xc, .int .i64 xk, .int .i64 xn, .slice ra rl rc, .slice aa al ac]] w (.int .i64 (boundsC lm 14 xk rl al)) := by
  have C:Hid (∀ wx:World,Calls Tryz.prog 67 #[.int .i64 xk,.int .i64 0,.int .i64 ((lm:Int) - 1)] wx fun e w'=>e=.returned (.int .i64 (rangeC xk 0 ((lm:Int) - 1)))∧Below wx.heap.size wx w'):=fun wx=>rangeCode_any;have C2:Hid (∀ wx:World,Calls Tryz.prog 69 #[.slice ra rl rc,.int .i64 6,.slice aa al ac] wx fun e w'=>e=.returned (.int .i64 (handedC rl 6 al))∧Below wx.heap.size wx w'):=fun wx=>handedCode_any;rw [show boundsC lm 14 xk rl al=if rangeC xk 0 ((lm:Int) - 1)=0 then handedC rl 6 al else rangeC xk 0 ((lm:Int) - 1) from rfl];generalize rangeC xk 0 ((lm:Int) - 1)=v at C ⊢;generalize handedC rl 6 al=u at C2 ⊢;have X2:Blk ((w.alloc (.cells #[.slice am lm cm] 24)).alloc (.cells #[.int .i64 14,.int .i64 xa,.int .i64 xb,.int .i64 xc,.int .i64 xk,.int .i64 xn,.slice ra rl rc,.slice aa al ac] 46)) (w.heap.size+1) #[.int .i64 14,.int .i64 xa,.int .i64 xb,.int .i64 xc,.int .i64 xk,.int .i64 xn,.slice ra rl rc,.slice aa al ac] 46:=Blk.new2 _ _ _ _;have B1:Hid (Below w.heap.size w ((w.alloc (.cells #[.slice am lm cm] 24)).alloc (.cells #[.int .i64 14,.int .i64 xa,.int .i64 xb,.int .i64 xc,.int .i64 xk,.int .i64 xn,.slice ra rl rc,.slice aa al ac] 46))):=bel2 _ _ _;unfold Rd;by_cases hv:v=0
  · subst hv;rw [if_pos rfl];go_enter Tryz.func39,Tryz.ntmps39
    go_wp2_with fail
    generalize ((w.alloc (.cells #[.slice am lm cm] 24)).alloc (.cells #[.int .i64 14,.int .i64 xa,.int .i64 xb,.int .i64 xc,.int .i64 xk,.int .i64 xn,.slice ra rl rc,.slice aa al ac] 46))=w1 at X2 B1 ⊢;refine (C.out _).mono ?_;rintro e w2 ⟨rfl,b2⟩;have X3:=(b2.block _ (lt_of_block X2)).trans X2;have B2:Hid (Below w.heap.size w w2):=B1.out.trans (b2.mono B1.out.size);have c6:=cellOf X3 6 _ rfl;have c7:=cellOf X3 7 _ rfl;clear b2 C X2 B1 X3;go_wp2_with fail
    refine (C2.out _).mono ?_;rintro e w3 ⟨rfl,b3⟩;have B3:Hid (Below w.heap.size w w3):=B2.out.trans (b3.mono B2.out.size);clear b3 C2 B2;go_wp2
    go_ret;exact ⟨rfl,B3.out⟩
  · rw [if_neg hv];have hv':(v==0)=false:=by simpa using hv
    go_enter Tryz.func39,Tryz.ntmps39
    go_wp2_with fail
    generalize ((w.alloc (.cells #[.slice am lm cm] 24)).alloc (.cells #[.int .i64 14,.int .i64 xa,.int .i64 xb,.int .i64 xc,.int .i64 xk,.int .i64 xn,.slice ra rl rc,.slice aa al ac] 46))=w1 at X2 B1 ⊢;refine (C.out _).mono ?_;rintro e w2 ⟨rfl,b2⟩;have B2:Hid (Below w.heap.size w w2):=B1.out.trans (b2.mono B1.out.size);clear b2 C C2 X2 B1;go_wp2
    go_ret;exact ⟨rfl,B2.out⟩
theorem boundsNo {xop : Int} {xa xb xc xk xn : Int} {ra aa : Option Addr} {rl rc al ac : Nat} {am : Option Addr} {lm cm : Nat} {w : World} (h : xop ≠ 2 ∧ xop ≠ 6 ∧ xop ≠ 7 ∧ xop ≠ 5 ∧ xop ≠ 14) : Rd Tryz.prog 39 #[.agg #[.slice am lm cm], .agg #[.int .i64 xop, .int .i64 xa, .int .i64 xb, .int .i64 xc, .int .i64 xk, .int .i64 xn, .slice ra rl rc, .slice aa al ac]] w (.int .i64 (boundsC lm xop xk rl al)) := by
  obtain ⟨h2,h6,h7,h5,h14⟩:=h;rw [show boundsC lm xop xk rl al=0 by simp [boundsC,h2,h6,h7,h5,h14]];have g2:(xop==2)=false:=by simpa using h2
  have g6:(xop==6)=false:=by simpa using h6
  have g7:(xop==7)=false:=by simpa using h7
  have g5:(xop==5)=false:=by simpa using h5
  have g14:(xop==14)=false:=by simpa using h14
  unfold Rd;go_enter Tryz.func39,Tryz.ntmps39
  go_wp2
  go_ret;exact ⟨rfl,bel2 _ _ _⟩
theorem ins_walk {xop : Int} {xa xb xc xk xn : Int} {ra aa : Option Addr} {rl rc al ac : Nat} {ya yb yc yk yn : Int} {yra yaa : Option Addr} {yrl yrc yal yac : Nat} {am : Option Addr} {lm cm : Nat} {w : World} {ok bare : Bool} {v : Int}
    (CW:Hid (∀ wx:World,Calls Tryz.prog 37 #[.agg #[.int .i64 xop,.int .i64 xa,.int .i64 xb,.int .i64 xc,.int .i64 xk,.int .i64 xn,.slice ra rl rc,.slice aa al ac]] wx fun e w'=>e=.returned (.tuple #[.agg #[.int .i64 xop,.int .i64 ya,.int .i64 yb,.int .i64 yc,.int .i64 yk,.int .i64 yn,.slice yra yrl yrc,.slice yaa yal yac],.bool ok])∧Below wx.heap.size wx w'))
    (CB:Hid (∀ wx:World,Calls Tryz.prog 38 #[.agg #[.int .i64 xop,.int .i64 ya,.int .i64 yb,.int .i64 yc,.int .i64 yk,.int .i64 yn,.slice yra yrl yrc,.slice yaa yal yac]] wx fun e w'=>e=.returned (.bool bare)∧Below wx.heap.size wx w'))
    (CD:Hid (∀ wx:World,Calls Tryz.prog 39 #[.agg #[.slice am lm cm],.agg #[.int .i64 xop,.int .i64 xa,.int .i64 xb,.int .i64 xc,.int .i64 xk,.int .i64 xn,.slice ra rl rc,.slice aa al ac]] wx fun e w'=>e=.returned (.int .i64 v)∧Below wx.heap.size wx w')) :
    Rd Tryz.prog 22 #[.agg #[.slice am lm cm],.agg #[.int .i64 xop,.int .i64 xa,.int .i64 xb,.int .i64 xc,.int .i64 xk,.int .i64 xn,.slice ra rl rc,.slice aa al ac]] w (.int .i64 (if ok=false then 3 else if bare=true then v else 4)):=by
  have X1:Blk ((w.alloc (.cells #[.slice am lm cm] 24)).alloc (.cells #[.int .i64 xop,.int .i64 xa,.int .i64 xb,.int .i64 xc,.int .i64 xk,.int .i64 xn,.slice ra rl rc,.slice aa al ac] 46)) w.heap.size #[.slice am lm cm] 24:=Blk.new1 _ _ _ _ _;have X2:Blk ((w.alloc (.cells #[.slice am lm cm] 24)).alloc (.cells #[.int .i64 xop,.int .i64 xa,.int .i64 xb,.int .i64 xc,.int .i64 xk,.int .i64 xn,.slice ra rl rc,.slice aa al ac] 46)) (w.heap.size+1) #[.int .i64 xop,.int .i64 xa,.int .i64 xb,.int .i64 xc,.int .i64 xk,.int .i64 xn,.slice ra rl rc,.slice aa al ac] 46:=Blk.new2 _ _ _ _;have B1:Hid (Below w.heap.size w ((w.alloc (.cells #[.slice am lm cm] 24)).alloc (.cells #[.int .i64 xop,.int .i64 xa,.int .i64 xb,.int .i64 xc,.int .i64 xk,.int .i64 xn,.slice ra rl rc,.slice aa al ac] 46))):=bel2 _ _ _;unfold Rd;go_enter Tryz.func22,Tryz.ntmps22
  go_wp2_with fail
  generalize ((w.alloc (.cells #[.slice am lm cm] 24)).alloc (.cells #[.int .i64 xop,.int .i64 xa,.int .i64 xb,.int .i64 xc,.int .i64 xk,.int .i64 xn,.slice ra rl rc,.slice aa al ac] 46))=w1 at X1 X2 B1 ⊢;refine (CW.out _).mono ?_;rintro e w2 ⟨rfl,b2⟩;replace X1:=(b2.block _ (lt_of_block X1)).trans X1;replace X2:=(b2.block _ (lt_of_block X2)).trans X2;have B2:Hid (Below w.heap.size w w2):=B1.out.trans (b2.mono B1.out.size);clear b2 B1 CW
  cases ok with
  | false =>
    have B3:Hid (Below w.heap.size w (w2.alloc (.cells #[.int .i64 xop,.int .i64 ya,.int .i64 yb,.int .i64 yc,.int .i64 yk,.int .i64 yn,.slice yra yrl yrc,.slice yaa yal yac] 46))):=B2.out.trans ((bel1 _ _).mono B2.out.size);clear CB CD X1 X2 B2;go_wp2
    go_ret;exact ⟨rfl,B3.out⟩
  | true =>
    replace X1:=((bel1 w2 (.cells #[.int .i64 xop,.int .i64 ya,.int .i64 yb,.int .i64 yc,.int .i64 yk,.int .i64 yn,.slice yra yrl yrc,.slice yaa yal yac] 46)).block _ (lt_of_block X1)).trans X1;replace X2:=((bel1 w2 (.cells #[.int .i64 xop,.int .i64 ya,.int .i64 yb,.int .i64 yc,.int .i64 yk,.int .i64 yn,.slice yra yrl yrc,.slice yaa yal yac] 46)).block _ (lt_of_block X2)).trans X2;have B3:Hid (Below w.heap.size w (w2.alloc (.cells #[.int .i64 xop,.int .i64 ya,.int .i64 yb,.int .i64 yc,.int .i64 yk,.int .i64 yn,.slice yra yrl yrc,.slice yaa yal yac] 46))):=B2.out.trans ((bel1 _ _).mono B2.out.size);go_wp2_with fail
    clear B2;generalize w2.alloc (.cells #[.int .i64 xop,.int .i64 ya,.int .i64 yb,.int .i64 yc,.int .i64 yk,.int .i64 yn,.slice yra yrl yrc,.slice yaa yal yac] 46)=w3 at X1 X2 B3 ⊢;refine (CB.out _).mono ?_;rintro e w4 ⟨rfl,b4⟩;replace X1:=(b4.block _ (lt_of_block X1)).trans X1;replace X2:=(b4.block _ (lt_of_block X2)).trans X2;have B4:Hid (Below w.heap.size w w4):=B3.out.trans (b4.mono B3.out.size);clear b4 B3 CB
    cases bare with
    | false =>
      clear CD X1 X2;go_wp2
      go_ret;exact ⟨rfl,B4.out⟩
    | true =>
      have d:=cellOf X1 0 _ rfl;have d0:=cellOf X2 0 _ rfl;have d1:=cellOf X2 1 _ rfl;have d2:=cellOf X2 2 _ rfl;have d3:=cellOf X2 3 _ rfl;have d4:=cellOf X2 4 _ rfl;have d5:=cellOf X2 5 _ rfl;have d6:=cellOf X2 6 _ rfl;have d7:=cellOf X2 7 _ rfl;clear X1 X2;go_wp2_with fail
      refine (CD.out _).mono ?_;rintro e w5 ⟨rfl,b5⟩;have B5:Hid (Below w.heap.size w w5):=B4.out.trans (b5.mono B4.out.size);clear b5 B4 CD;go_wp2
      go_ret;exact ⟨rfl,B5.out⟩
theorem cIns_any (funcs : Nat) (x : MIns) (i : IP) (am : Option Addr) (cm : Nat) (w : World) (hf : funcs < 2305843009213693952) :
    Rd Tryz.prog 22 #[.agg #[.slice am funcs cm],.agg #[.int .i64 x.op,.int .i64 x.a,.int .i64 x.b,.int .i64 x.c,.int .i64 x.k,.int .i64 x.n,.slice i.pR x.regs.length i.cR,.slice i.pA x.args.length i.cA]] w (.int .i64 (x.form funcs)):=by
  rw [MIns.form_eq];have hno:=op_cases x.op;generalize x.op=op at hno ⊢;rcases hno with rfl | rfl | rfl | rfl | rfl | rfl | rfl | rfl | rfl | rfl | rfl | rfl | rfl | rfl | h
  · rw [insForm_bare (show fieldsOf 1=some (false,false,false,false,true,false,false) from rfl)];exact ins_walk (ok:=true) (fun _=>wf1) (fun _=>isBare_any) (fun _=>boundsNo (by decide))
  · rw [insForm_bare (show fieldsOf 2=some (true,true,false,true,false,false,false) from rfl)];exact ins_walk (ok:=true) (fun _=>wf2) (fun _=>isBare_any) (fun _=>bounds2)
  · rw [insForm_bare (show fieldsOf 3=some (false,false,false,false,false,false,false) from rfl)];exact ins_walk (ok:=true) (fun _=>wf3) (fun _=>isBare_any) (fun _=>boundsNo (by decide))
  · rw [insForm_bare (show fieldsOf 4=some (true,false,false,false,false,false,false) from rfl)];exact ins_walk (ok:=true) (fun _=>wf4) (fun _=>isBare_any) (fun _=>boundsNo (by decide))
  · rw [insForm_bare (show fieldsOf 5=some (true,false,false,false,false,false,true) from rfl)];exact ins_walk (ok:=true) (fun _=>wf5) (fun _=>isBare_any) (fun _=>bounds5)
  · rw [insForm_bare (show fieldsOf 6=some (true,false,false,true,false,false,false) from rfl)];exact ins_walk (ok:=true) (fun _=>wf6) (fun _=>isBare_any) (fun _=>bounds6)
  · rw [insForm_bare (show fieldsOf 7=some (true,true,false,true,false,false,false) from rfl)];exact ins_walk (ok:=true) (fun _=>wf7) (fun _=>isBare_any) (fun _=>bounds7)
  · rw [insForm_bare (show fieldsOf 8=some (true,true,false,false,false,false,false) from rfl)];exact ins_walk (ok:=true) (fun _=>wf8) (fun _=>isBare_any) (fun _=>boundsNo (by decide))
  · rw [insForm_bare (show fieldsOf 9=some (true,true,false,false,false,false,false) from rfl)];exact ins_walk (ok:=true) (fun _=>wf9) (fun _=>isBare_any) (fun _=>boundsNo (by decide))
  · rw [insForm_bare (show fieldsOf 10=some (true,true,true,false,false,false,false) from rfl)];exact ins_walk (ok:=true) (fun _=>wf10) (fun _=>isBare_any) (fun _=>boundsNo (by decide))
  · rw [insForm_bare (show fieldsOf 11=some (true,false,false,false,false,false,false) from rfl)];exact ins_walk (ok:=true) (fun _=>wf11) (fun _=>isBare_any) (fun _=>boundsNo (by decide))
  · rw [insForm_bare (show fieldsOf 12=some (false,false,false,false,false,false,false) from rfl)];exact ins_walk (ok:=true) (fun _=>wf12) (fun _=>isBare_any) (fun _=>boundsNo (by decide))
  · rw [insForm_bare (show fieldsOf 13=some (true,false,false,false,false,false,false) from rfl)];exact ins_walk (ok:=true) (fun _=>wf13) (fun _=>isBare_any) (fun _=>boundsNo (by decide))
  · rw [insForm_bare (show fieldsOf 14=some (false,false,false,true,false,true,true) from rfl)];exact ins_walk (ok:=true) (fun _=>wf14) (fun _=>isBare_any) (fun _=>bounds14 hf)
  · have e:fieldsOf op=none:=by
      unfold fieldsOf;obtain ⟨h1,h2,h3,h4,h5,h6,h7,h8,h9,h10,h11,h12,h13,h14⟩:=h;simp [h1,h2,h3,h4,h5,h6,h7,h8,h9,h10,h11,h12,h13,h14]
    rw [show insForm funcs op x.a x.b x.c x.k x.n x.regs.length x.args.length=3 by unfold insForm;rw [e]];exact ins_walk (ok:=false) (bare:=bareB x.a x.b x.c x.k x.n x.regs.length x.args.length) (fun _=>wfNo h) (fun _=>isBare_any) (fun _=>boundsNo ⟨h.2.1,h.2.2.2.2.2.1,h.2.2.2.2.2.2.1,h.2.2.2.2.1,h.2.2.2.2.2.2.2.2.2.2.2.2.2⟩)
theorem toForm_eq (x : MTo) (bl : Nat) : x.form bl true = if rangeC x.block 0 ((bl : Int) - 1) = 0 then handedC x.regs.length 16 x.args.length else rangeC x.block 0 ((bl : Int) - 1) := by
  unfold MTo.form rangeC handedC manyC;simp only [Bool.true_eq_false,if_false];repeat' split
  all_goals omega
theorem toForm_no (x : MTo) (bl : Nat) : x.form bl false = if x.block = 0 ∧ x.regs.length = 0 ∧ x.args.length = 0 then 0 else 4 := by
  unfold MTo.form;simp only [if_true];repeat' split
  all_goals omega
theorem endForm_eq (e : MEnd) (bl : Nat) : e.form bl = if e.op < 1 ∨ 3 < e.op then 3 else if (e.op ≠ 2 ∧ e.a ≠ 0) ∨ (e.op ≠ 3 ∧ 0 < e.args.length) then 4 else if 8 < e.args.length then 2
    else if e.yes.form bl (e.op != 3)=0 then e.no.form bl (e.op==2) else e.yes.form bl (e.op != 3):=by
  unfold MEnd.form;have h1:decide (e.op≠3)=(e.op != 3):=by by_cases h:e.op=3 <;> simp [h]
  have h2:decide (e.op=2)=(e.op==2):=by by_cases h:e.op=2 <;> simp [h]
  rw [h1,h2];by_cases c1:e.op<1∨3<e.op
  · simp [c1]
  · rw [if_neg c1,if_neg c1];by_cases c2:(e.op≠2∧e.a≠0)∨(e.op≠3∧0<e.args.length)
    · rw [if_pos c2,if_pos (c2.imp (fun h=>⟨h.2,h.1⟩) (fun h=>⟨h.2,h.1⟩))]
    · rw [if_neg c2,if_neg (fun h=>c2 (h.imp (fun h=>⟨h.2,h.1⟩) (fun h=>⟨h.2,h.1⟩)))];by_cases c3:8<e.args.length
      · simp [c3]
      · rw [if_neg c3,if_neg c3];by_cases c4:e.yes.form bl (e.op != 3)=0
        · simp [c4]
        · simp [c4]
theorem toCodeF {tb : Int} {pR pA : Option Addr} {n1 cR n2 cA : Nat} {fr : Int} {fp fq fb : Option Addr} {fl fc fm fd bl fe : Nat} {w : World} : Rd Tryz.prog 52 #[.agg #[.int .i64 fr, .slice fp fl fc, .slice fq fm fd, .slice fb bl fe], .agg #[.int .i64 tb, .slice pR n1 cR, .slice pA n2 cA], .bool false] w (.int .i64 (if tb = 0 ∧ n1 = 0 ∧ n2 = 0 then 0 else 4)) := by
  unfold Rd;by_cases h1:tb=0
  · subst h1;by_cases h2:n1=0
    · subst h2;by_cases h3:n2=0
      · subst h3;rw [if_pos ⟨rfl,rfl,rfl⟩];go_enter Tryz.func52,Tryz.ntmps52
        go_wp2
        go_ret;exact ⟨rfl,bel2 _ _ _⟩
      · have g:(0:Int)<n2:=by omega
        rw [if_neg (by omega)];go_enter Tryz.func52,Tryz.ntmps52
        go_wp2
        go_ret;exact ⟨rfl,bel2 _ _ _⟩
    · have g:(0:Int)<n1:=by omega
      rw [if_neg (by omega)];go_enter Tryz.func52,Tryz.ntmps52
      go_wp2
      go_ret;exact ⟨rfl,bel2 _ _ _⟩
  · have g:(tb==0)=false:=by simpa using h1
    rw [if_neg (by omega)];go_enter Tryz.func52,Tryz.ntmps52
    go_wp2
    go_ret;exact ⟨rfl,bel2 _ _ _⟩
theorem toCodeT {tb : Int} {pR pA : Option Addr} {n1 cR n2 cA : Nat} {fr : Int} {fp fq fb : Option Addr} {fl fc fm fd bl fe : Nat} {w : World} (hbl : bl < 2305843009213693952) : Rd Tryz.prog 52 #[.agg #[.int .i64 fr, .slice fp fl fc, .slice fq fm fd, .slice fb bl fe], .agg #[.int .i64 tb, .slice pR n1 cR, .slice pA n2 cA], .bool true] w (.int .i64 (if rangeC tb 0 ((bl : Int) - 1) = 0 then handedC n1 16 n2 else rangeC tb 0 ((bl : Int) - 1))) := by
  have C:Hid (∀ wx:World,Calls Tryz.prog 67 #[.int .i64 tb,.int .i64 0,.int .i64 ((bl:Int) - 1)] wx fun e w'=>e=.returned (.int .i64 (rangeC tb 0 ((bl:Int) - 1)))∧Below wx.heap.size wx w'):=fun wx=>rangeCode_any;have C2:Hid (∀ wx:World,Calls Tryz.prog 69 #[.slice pR n1 cR,.int .i64 16,.slice pA n2 cA] wx fun e w'=>e=.returned (.int .i64 (handedC n1 16 n2))∧Below wx.heap.size wx w'):=fun wx=>handedCode_any;generalize rangeC tb 0 ((bl:Int) - 1)=v at C ⊢;generalize handedC n1 16 n2=u at C2 ⊢;have X2:Blk ((w.alloc (.cells #[.int .i64 fr,.slice fp fl fc,.slice fq fm fd,.slice fb bl fe] 40)).alloc (.cells #[.int .i64 tb,.slice pR n1 cR,.slice pA n2 cA] 53)) (w.heap.size+1) #[.int .i64 tb,.slice pR n1 cR,.slice pA n2 cA] 53:=Blk.new2 _ _ _ _;have B1:Hid (Below w.heap.size w ((w.alloc (.cells #[.int .i64 fr,.slice fp fl fc,.slice fq fm fd,.slice fb bl fe] 40)).alloc (.cells #[.int .i64 tb,.slice pR n1 cR,.slice pA n2 cA] 53))):=bel2 _ _ _;unfold Rd;by_cases hv:v=0
  · subst hv;rw [if_pos rfl];go_enter Tryz.func52,Tryz.ntmps52
    go_wp2_with fail
    generalize ((w.alloc (.cells #[.int .i64 fr,.slice fp fl fc,.slice fq fm fd,.slice fb bl fe] 40)).alloc (.cells #[.int .i64 tb,.slice pR n1 cR,.slice pA n2 cA] 53))=w1 at X2 B1 ⊢;refine (C.out _).mono ?_;rintro e w2 ⟨rfl,b2⟩;have X3:=(b2.block _ (lt_of_block X2)).trans X2;have B2:Hid (Below w.heap.size w w2):=B1.out.trans (b2.mono B1.out.size);have c6:=cellOf X3 1 _ rfl;have c7:=cellOf X3 2 _ rfl;clear b2 C X2 B1 X3;go_wp2_with fail
    refine (C2.out _).mono ?_;rintro e w3 ⟨rfl,b3⟩;have B3:Hid (Below w.heap.size w w3):=B2.out.trans (b3.mono B2.out.size);clear b3 C2 B2;go_wp2
    go_ret;exact ⟨rfl,B3.out⟩
  · rw [if_neg hv];have hv':(v==0)=false:=by simpa using hv
    go_enter Tryz.func52,Tryz.ntmps52
    go_wp2_with fail
    generalize ((w.alloc (.cells #[.int .i64 fr,.slice fp fl fc,.slice fq fm fd,.slice fb bl fe] 40)).alloc (.cells #[.int .i64 tb,.slice pR n1 cR,.slice pA n2 cA] 53))=w1 at X2 B1 ⊢;refine (C.out _).mono ?_;rintro e w2 ⟨rfl,b2⟩;have B2:Hid (Below w.heap.size w w2):=B1.out.trans (b2.mono B1.out.size);clear b2 C C2 X2 B1;go_wp2
    go_ret;exact ⟨rfl,B2.out⟩
theorem toCode_any {x : MTo} {pR pA : Option Addr} {cR cA : Nat} {fr : Int} {fp fq fb : Option Addr} {fl fc fm fd bl fe : Nat} (has : Bool) {w : World} (hbl : bl < 2305843009213693952) :
    Rd Tryz.prog 52 #[.agg #[.int .i64 fr,.slice fp fl fc,.slice fq fm fd,.slice fb bl fe],.agg #[.int .i64 x.block,.slice pR x.regs.length cR,.slice pA x.args.length cA],.bool has] w (.int .i64 (x.form bl has)):=by
  cases has
  · rw [toForm_no];exact toCodeF
  · rw [toForm_eq];exact toCodeT hbl
theorem end_walk {eo ea yb nb : Int} {pyr pya pnr pna pe : Option Addr} {nyr cyr nya cya nnr cnr nna cna ne ce : Nat} {fr : Int} {fp fq fb : Option Addr} {fl fc fm fd bl fe : Nat} {w : World} {vy vn : Int} (h1 : ¬ (eo < 1 ∨ 3 < eo)) (h2 : ¬ ((eo ≠ 2 ∧ ea ≠ 0) ∨ (eo ≠ 3 ∧ 0 < ne))) (h3 : ¬ 8 < ne)
    (CY:Hid (∀ wx:World,Calls Tryz.prog 52 #[.agg #[.int .i64 fr,.slice fp fl fc,.slice fq fm fd,.slice fb bl fe],.agg #[.int .i64 yb,.slice pyr nyr cyr,.slice pya nya cya],.bool (eo != 3)] wx fun e w'=>e=.returned (.int .i64 vy)∧Below wx.heap.size wx w'))
    (CN:Hid (∀ wx:World,Calls Tryz.prog 52 #[.agg #[.int .i64 fr,.slice fp fl fc,.slice fq fm fd,.slice fb bl fe],.agg #[.int .i64 nb,.slice pnr nnr cnr,.slice pna nna cna],.bool (eo==2)] wx fun e w'=>e=.returned (.int .i64 vn)∧Below wx.heap.size wx w')) :
    Rd Tryz.prog 27 #[.agg #[.int .i64 fr,.slice fp fl fc,.slice fq fm fd,.slice fb bl fe],.agg #[.int .i64 eo,.int .i64 ea,.int .i64 yb,.slice pyr nyr cyr,.slice pya nya cya,.int .i64 nb,.slice pnr nnr cnr,.slice pna nna cna,.slice pe ne ce]] w (.int .i64 (if vy=0 then vn else vy)):=by
  have X1:Blk ((w.alloc (.cells #[.int .i64 fr,.slice fp fl fc,.slice fq fm fd,.slice fb bl fe] 40)).alloc (.cells #[.int .i64 eo,.int .i64 ea,.int .i64 yb,.slice pyr nyr cyr,.slice pya nya cya,.int .i64 nb,.slice pnr nnr cnr,.slice pna nna cna,.slice pe ne ce] 55)) w.heap.size #[.int .i64 fr,.slice fp fl fc,.slice fq fm fd,.slice fb bl fe] 40:=Blk.new1 _ _ _ _ _;have X2:Blk ((w.alloc (.cells #[.int .i64 fr,.slice fp fl fc,.slice fq fm fd,.slice fb bl fe] 40)).alloc (.cells #[.int .i64 eo,.int .i64 ea,.int .i64 yb,.slice pyr nyr cyr,.slice pya nya cya,.int .i64 nb,.slice pnr nnr cnr,.slice pna nna cna,.slice pe ne ce] 55)) (w.heap.size+1) #[.int .i64 eo,.int .i64 ea,.int .i64 yb,.slice pyr nyr cyr,.slice pya nya cya,.int .i64 nb,.slice pnr nnr cnr,.slice pna nna cna,.slice pe ne ce] 55:=Blk.new2 _ _ _ _;have B1:Hid (Below w.heap.size w ((w.alloc (.cells #[.int .i64 fr,.slice fp fl fc,.slice fq fm fd,.slice fb bl fe] 40)).alloc (.cells #[.int .i64 eo,.int .i64 ea,.int .i64 yb,.slice pyr nyr cyr,.slice pya nya cya,.int .i64 nb,.slice pnr nnr cnr,.slice pna nna cna,.slice pe ne ce] 55))):=bel2 _ _ _;unfold Rd;have key:∀ {o:Int},eo=o→¬ (o≠2∧ea≠0)→¬ (o≠3∧0<ne)→(o=1∨o=2∨o=3):=fun h _ _=>by omega
  rcases (show eo=1∨eo=2∨eo=3 by omega) with rfl | rfl | rfl
  · obtain rfl:ea=0:=by omega
    obtain rfl:ne=0:=by omega
    clear h1 h2 h3 key;go_enter Tryz.func27,Tryz.ntmps27
    go_wp2_with fail
    generalize ((w.alloc (.cells #[.int .i64 fr,.slice fp fl fc,.slice fq fm fd,.slice fb bl fe] 40)).alloc (.cells #[.int .i64 1,.int .i64 0,.int .i64 yb,.slice pyr nyr cyr,.slice pya nya cya,.int .i64 nb,.slice pnr nnr cnr,.slice pna nna cna,.slice pe 0 ce] 55))=w1 at X1 X2 B1 ⊢;refine (CY.out _).mono ?_;rintro e w2 ⟨rfl,b2⟩;replace X1:=(b2.block _ (lt_of_block X1)).trans X1;replace X2:=(b2.block _ (lt_of_block X2)).trans X2;have B2:Hid (Below w.heap.size w w2):=B1.out.trans (b2.mono B1.out.size);clear b2 CY B1;by_cases hv:vy=0
    · subst hv;have c0:=cellOf X1 0 _ rfl;have c1:=cellOf X1 1 _ rfl;have c2:=cellOf X1 2 _ rfl;have c3:=cellOf X1 3 _ rfl;have d0:=cellOf X2 0 _ rfl;have d5:=cellOf X2 5 _ rfl;have d6:=cellOf X2 6 _ rfl;have d7:=cellOf X2 7 _ rfl;clear X1 X2;go_wp2_with fail
      refine (CN.out _).mono ?_;rintro e w3 ⟨rfl,b3⟩;have B3:Hid (Below w.heap.size w w3):=B2.out.trans (b3.mono B2.out.size);clear b3 CN B2;go_wp2
      go_ret;exact ⟨rfl,B3.out⟩
    · have hv':(vy==0)=false:=by simpa using hv
      clear CN X1 X2;go_wp2
      go_ret;exact ⟨rfl,B2.out⟩
  · obtain rfl:ne=0:=by omega
    clear h1 h2 h3 key;go_enter Tryz.func27,Tryz.ntmps27
    go_wp2_with fail
    generalize ((w.alloc (.cells #[.int .i64 fr,.slice fp fl fc,.slice fq fm fd,.slice fb bl fe] 40)).alloc (.cells #[.int .i64 2,.int .i64 ea,.int .i64 yb,.slice pyr nyr cyr,.slice pya nya cya,.int .i64 nb,.slice pnr nnr cnr,.slice pna nna cna,.slice pe 0 ce] 55))=w1 at X1 X2 B1 ⊢;refine (CY.out _).mono ?_;rintro e w2 ⟨rfl,b2⟩;replace X1:=(b2.block _ (lt_of_block X1)).trans X1;replace X2:=(b2.block _ (lt_of_block X2)).trans X2;have B2:Hid (Below w.heap.size w w2):=B1.out.trans (b2.mono B1.out.size);clear b2 CY B1;by_cases hv:vy=0
    · subst hv;have c0:=cellOf X1 0 _ rfl;have c1:=cellOf X1 1 _ rfl;have c2:=cellOf X1 2 _ rfl;have c3:=cellOf X1 3 _ rfl;have d0:=cellOf X2 0 _ rfl;have d5:=cellOf X2 5 _ rfl;have d6:=cellOf X2 6 _ rfl;have d7:=cellOf X2 7 _ rfl;clear X1 X2;go_wp2_with fail
      refine (CN.out _).mono ?_;rintro e w3 ⟨rfl,b3⟩;have B3:Hid (Below w.heap.size w w3):=B2.out.trans (b3.mono B2.out.size);clear b3 CN B2;go_wp2
      go_ret;exact ⟨rfl,B3.out⟩
    · have hv':(vy==0)=false:=by simpa using hv
      clear CN X1 X2;go_wp2
      go_ret;exact ⟨rfl,B2.out⟩
  · obtain rfl:ea=0:=by omega
    have g8:¬ (8:Int)<ne:=by omega
    clear h1 h2 h3 key;go_enter Tryz.func27,Tryz.ntmps27
    go_wp2_with fail
    generalize ((w.alloc (.cells #[.int .i64 fr,.slice fp fl fc,.slice fq fm fd,.slice fb bl fe] 40)).alloc (.cells #[.int .i64 3,.int .i64 0,.int .i64 yb,.slice pyr nyr cyr,.slice pya nya cya,.int .i64 nb,.slice pnr nnr cnr,.slice pna nna cna,.slice pe ne ce] 55))=w1 at X1 X2 B1 ⊢;refine (CY.out _).mono ?_;rintro e w2 ⟨rfl,b2⟩;replace X1:=(b2.block _ (lt_of_block X1)).trans X1;replace X2:=(b2.block _ (lt_of_block X2)).trans X2;have B2:Hid (Below w.heap.size w w2):=B1.out.trans (b2.mono B1.out.size);clear b2 CY B1;by_cases hv:vy=0
    · subst hv;have c0:=cellOf X1 0 _ rfl;have c1:=cellOf X1 1 _ rfl;have c2:=cellOf X1 2 _ rfl;have c3:=cellOf X1 3 _ rfl;have d0:=cellOf X2 0 _ rfl;have d5:=cellOf X2 5 _ rfl;have d6:=cellOf X2 6 _ rfl;have d7:=cellOf X2 7 _ rfl;clear X1 X2;go_wp2_with fail
      refine (CN.out _).mono ?_;rintro e w3 ⟨rfl,b3⟩;have B3:Hid (Below w.heap.size w w3):=B2.out.trans (b3.mono B2.out.size);clear b3 CN B2;go_wp2
      go_ret;exact ⟨rfl,B3.out⟩
    · have hv':(vy==0)=false:=by simpa using hv
      clear CN X1 X2;go_wp2
      go_ret;exact ⟨rfl,B2.out⟩
theorem end_bad {eo ea yb nb : Int} {pyr pya pnr pna pe : Option Addr} {nyr cyr nya cya nnr cnr nna cna ne ce : Nat} {fr : Int} {fp fq fb : Option Addr} {fl fc fm fd bl fe : Nat} {w : World} {v : Int} (h : (v = 3 ∧ (eo < 1 ∨ 3 < eo)) ∨ (v = 4 ∧ ¬ (eo < 1 ∨ 3 < eo) ∧ ((eo ≠ 2 ∧ ea ≠ 0) ∨ (eo ≠ 3 ∧ 0 < ne))) ∨ (v = 2 ∧ ¬ (eo < 1 ∨ 3 < eo) ∧ ¬ ((eo ≠ 2 ∧ ea ≠ 0) ∨ (eo ≠ 3 ∧ 0 < ne)) ∧ 8 < ne)) :
    Rd Tryz.prog 27 #[.agg #[.int .i64 fr,.slice fp fl fc,.slice fq fm fd,.slice fb bl fe],.agg #[.int .i64 eo,.int .i64 ea,.int .i64 yb,.slice pyr nyr cyr,.slice pya nya cya,.int .i64 nb,.slice pnr nnr cnr,.slice pna nna cna,.slice pe ne ce]] w (.int .i64 v):=by
  unfold Rd;rcases h with ⟨rfl,h | h⟩ | ⟨rfl,h1,h⟩ | ⟨rfl,h1,h2,h3⟩
  · go_enter Tryz.func27,Tryz.ntmps27
    go_wp2
    go_ret;exact ⟨rfl,bel2 _ _ _⟩
  · have g:¬ eo<1:=by omega
    go_enter Tryz.func27,Tryz.ntmps27
    go_wp2
    go_ret;exact ⟨rfl,bel2 _ _ _⟩
  · rcases (show eo=1∨eo=2∨eo=3 by omega) with rfl | rfl | rfl
    · by_cases ha:ea=0
      · subst ha;have g:(0:Int)<ne:=by omega
        clear h h1;go_enter Tryz.func27,Tryz.ntmps27
        go_wp2
        go_ret;exact ⟨rfl,bel2 _ _ _⟩
      · have g:(ea==0)=false:=by simpa using ha
        clear h h1;go_enter Tryz.func27,Tryz.ntmps27
        go_wp2
        go_ret;exact ⟨rfl,bel2 _ _ _⟩
    · have g:(0:Int)<ne:=by omega
      clear h h1;go_enter Tryz.func27,Tryz.ntmps27
      go_wp2
      go_ret;exact ⟨rfl,bel2 _ _ _⟩
    · have g:(ea==0)=false:=by simp;omega
      clear h h1;go_enter Tryz.func27,Tryz.ntmps27
      go_wp2
      go_ret;exact ⟨rfl,bel2 _ _ _⟩
  · obtain rfl:eo=3:=by omega
    obtain rfl:ea=0:=by omega
    have g:(8:Int)<ne:=by omega
    clear h1 h2 h3;go_enter Tryz.func27,Tryz.ntmps27
    go_wp2
    go_ret;exact ⟨rfl,bel2 _ _ _⟩
theorem cEnd_any {x : MEnd} {e : EP} {fr : Int} {fp fq fb : Option Addr} {fl fc fm fd bl fe : Nat} {w : World} (hs : x.yes.regs.length < 2305843009213693952 ∧ x.yes.args.length < 2305843009213693952 ∧ x.no.regs.length < 2305843009213693952 ∧ x.no.args.length < 2305843009213693952) (hbl : bl < 2305843009213693952) : Rd Tryz.prog 27 #[.agg #[.int .i64 fr, .slice fp fl fc, .slice fq fm fd, .slice fb bl fe], .agg #[.int .i64 x.op, .int .i64 x.a, .int .i64 x.yes.block, .slice e.pYR x.yes.regs.length e.cYR, .slice e.pYA x.yes.args.length e.cYA, .int .i64 x.no.block, .slice e.pNR x.no.regs.length e.cNR, .slice e.pNA x.no.args.length e.cNA, .slice e.pA x.args.length e.cA]] w (.int .i64 (x.form bl)) := by
  rw [endForm_eq];by_cases c1:x.op<1∨3<x.op
  · rw [if_pos c1];exact end_bad (.inl ⟨rfl,c1⟩)
  rw [if_neg c1];by_cases c2:(x.op≠2∧x.a≠0)∨(x.op≠3∧0<x.args.length)
  · rw [if_pos c2];exact end_bad (.inr (.inl ⟨rfl,c1,c2⟩))
  rw [if_neg c2];by_cases c3:8<x.args.length
  · rw [if_pos c3];exact end_bad (.inr (.inr ⟨rfl,c1,c2,c3⟩))
  rw [if_neg c3];exact end_walk c1 c2 c3 (fun _=>toCode_any _ hbl) (fun _=>toCode_any _ hbl)
theorem underEnd : ∃ fs, Tryz.prog.underlying 55 = some (.struct fs) := ⟨_, Tryz.underlying55⟩
theorem sizeEnd : (Tryz.prog.info? 55).map (·.size) = some 9 := by kernel_rfl
abbrev endA (x : MEnd) (e : EP) : Array Value := #[.int .i64 x.op, .int .i64 x.a, .int .i64 x.yes.block, .slice e.pYR x.yes.regs.length e.cYR, .slice e.pYA x.yes.args.length e.cYA, .int .i64 x.no.block, .slice e.pNR x.no.regs.length e.cNR, .slice e.pNA x.no.args.length e.cNA, .slice e.pA x.args.length e.cA]
structure EndIn (w : World) (Q : Nat → Prop) (x : MEnd) (e : EP) : Prop where
  yr:intsL.In w Q x.yes.regs [.slice e.pYR x.yes.regs.length e.cYR]
  ya:intsL.In w Q x.yes.args [.slice e.pYA x.yes.args.length e.cYA]
  nr:intsL.In w Q x.no.regs [.slice e.pNR x.no.regs.length e.cNR]
  na:intsL.In w Q x.no.args [.slice e.pNA x.no.args.length e.cNA]
  ar:intsL.In w Q x.args [.slice e.pA x.args.length e.cA]
theorem EndIn.below {w w' : World} {Q : Nat → Prop} {x : MEnd} {e : EP} (h : EndIn w Q x e) (k : Below w.heap.size w w') : EndIn w' Q x e :=
  ⟨Lay.below h.yr k,Lay.below h.ya k,Lay.below h.nr k,Lay.below h.na k,Lay.below h.ar k⟩
theorem to_zero {nb : Nat} {t : MTo} (h : t.form nb true = 0) : (0 ≤ t.block ∧ t.block < nb) ∧ t.regs.length ≤ 16 ∧ t.args.length ≤ 8 := by
  unfold MTo.form at h;rw [if_neg (by simp)] at h;split at h
  · cases h
  split at h
  · cases h
  omega
end Go.Proofs.YtilanenoliopbaeGreat
namespace Go.Proofs.YtilanenoliopbaeGreat
open Go.ChangeShapes Go.WideShapes Go.ChangeAt Go.RowKit Go.Deep
set_option linter.unusedVariables false
theorem Lay.Sub.via {α β : Type} {A A' : Lay α} (h : Lay.Sub A A') (f : β → α) : Lay.Sub (A.via f) (A'.via f) := ⟨h.1, fun k => h.2 k⟩
theorem ReadsB.listC {P : Program} {t e : TypeId} {α : Type} {A : Lay α} {n : Nat} {Bd : α → Prop} (h : P.underlying t = some (.slice e)) (hc : P.cellsOf t = 1) (hA : ReadsB P e A n Bd) (h0 : 0 < A.size) (hbe : 0 < P.bytesOf e) : ReadsB P t A.listC n (fun l => l.length < 1152921504606846976) :=
  ⟨hc,fun {H enc w base spare held fuel cs x} hf h' hw=>by
    obtain ⟨l,hl,hb⟩:=(ReadsB.list h hc hA h0 hbe).2 hf h' hw;refine ⟨l,⟨?_,hl⟩,hb⟩;obtain ⟨a,c,e,_⟩:=hl;refine ⟨a,c,e,?_⟩;rcases DataW.trod_slice h h' with ⟨e2,_⟩ | ⟨a2,len,cap,elems,rest,q,_,e2,_,_,hle,_⟩
    · rw [e] at e2;simp at e2
      simp [e2.2.1]
    · rw [e] at e2;simp at e2
      omega⟩
abbrev intsC : Lay (List Int) := Lay.int.listC
def insC : Lay MIns := (Lay.int.pair (Lay.int.pair (Lay.int.pair (Lay.int.pair (Lay.int.pair (Lay.int.pair (intsC.pair intsC))))))).via (fun x => (x.op, x.a, x.b, x.c, x.k, x.n, x.regs, x.args))
def toC : Lay MTo := (Lay.int.pair (intsC.pair intsC)).via (fun x => (x.block, x.regs, x.args))
def endC : Lay MEnd := (Lay.int.pair (Lay.int.pair (toC.pair (toC.pair intsC)))).via (fun x => (x.op, x.a, x.yes, x.no, x.args))
def blockC (n : Nat) : Lay (MBlock n) := (Lay.int.pair ((typesL n).pair (insC.list.pair endC))).via (fun x => (x.regs, x.params, x.code, x.fin))
def funcC (n : Nat) : Lay (MFunc n) := (Lay.int.pair ((typesL n).pair ((typesL n).pair (blockC n).list))).via (fun x => (x.regs, x.params, x.results, x.blocks))
abbrev modC (n : Nat) : Lay (List (MFunc n)) := (funcC n).list
theorem ints_sub : Lay.Sub intsC intsL := Lay.Sub.listC _
theorem ins_sub : Lay.Sub insC insL := .via (.pair (.refl _) (.pair (.refl _) (.pair (.refl _) (.pair (.refl _) (.pair (.refl _) (.pair (.refl _) (.pair ints_sub ints_sub))))))) _
theorem to_sub : Lay.Sub toC toL := .via (.pair (.refl _) (.pair ints_sub ints_sub)) _
theorem end_sub : Lay.Sub endC endL := .via (.pair (.refl _) (.pair (.refl _) (.pair to_sub (.pair to_sub ints_sub)))) _
theorem block_sub (n : Nat) : Lay.Sub (blockC n) (blockL n) := .via (.pair (.refl _) (.pair (.refl _) (.pair (.list ins_sub) end_sub))) _
theorem func_sub (n : Nat) : Lay.Sub (funcC n) (funcL n) := .via (.pair (.refl _) (.pair (.refl _) (.pair (.refl _) (.list (block_sub n))))) _
theorem mod_sub (n : Nat) : Lay.Sub (modC n) (modL n) := .list (func_sub n)
section
variable {w : World} {O : Nat → Prop} {cs : List Value}
theorem ins_formC {x : MIns} (h : insC.In w O x cs) : ∃ a c b d, cs = [.int .i64 x.op, .int .i64 x.a, .int .i64 x.b, .int .i64 x.c, .int .i64 x.k, .int .i64 x.n, .slice a x.regs.length c, .slice b x.args.length d] ∧ intsL.In w O x.regs [.slice a x.regs.length c] ∧ intsL.In w O x.args [.slice b x.args.length d] ∧ x.regs.length ≤ c ∧ x.args.length ≤ d := by
  obtain ⟨_,_,rfl,⟨rfl,_⟩,_,_,rfl,⟨rfl,_⟩,_,_,rfl,⟨rfl,_⟩,_,_,rfl,⟨rfl,_⟩,_,_,rfl,⟨rfl,_⟩,_,_,rfl,⟨rfl,_⟩,_,_,rfl,⟨⟨a,c,rfl,h1⟩,h2⟩,⟨b,d,rfl,h3⟩,h4⟩:=h;exact ⟨a,c,b,d,rfl,h2,h4,h1,h3⟩
end
theorem readsIsC (n : Nat) : ReadsB Tryz.prog 35 intsC n (fun l => l.length < 1152921504606846976) := ReadsB.listC Tryz.underlying35 (by kernel_rfl) (readsI n) (by decide) (by rw [show Tryz.prog.bytesOf 3 = 8 from by kernel_rfl]; decide)
theorem readsInsC (n : Nat) : ReadsB Tryz.prog 46 insC n (fun x => x.regs.length < 1152921504606846976 ∧ x.args.length < 1152921504606846976) := by
  have h:=ReadsB.struct (n:=n) (A:=Lay.int.pair (Lay.int.pair (Lay.int.pair (Lay.int.pair (Lay.int.pair (Lay.int.pair (intsC.pair intsC))))))) Tryz.underlying46 (by kernel_rfl) (FieldsB.cons rfl rfl (readsI n) (FieldsB.cons rfl rfl (readsI n) (FieldsB.cons rfl rfl (readsI n) (FieldsB.cons rfl rfl (readsI n) (FieldsB.cons rfl rfl (readsI n) (FieldsB.cons rfl rfl (readsI6 n) (FieldsB.cons rfl rfl (readsIsC n) (FieldsB.last rfl rfl (readsIsC n)))))))));have h2:=h.via (f:=fun x:MIns=>(x.op,x.a,x.b,x.c,x.k,x.n,x.regs,x.args)) (fun d=>⟨d.1,d.2.1,d.2.2.1,d.2.2.2.1,d.2.2.2.2.1,d.2.2.2.2.2.1,d.2.2.2.2.2.2.1,d.2.2.2.2.2.2.2⟩) (fun d=>rfl);exact ⟨h2.1,fun hf h' hw=>by obtain ⟨d,hd,hb⟩:=h2.2 hf h' hw;exact ⟨d,hd,hb.2.2.2.2.2.2⟩⟩
theorem readsToC (n : Nat) : ReadsB Tryz.prog 53 toC n (fun x => x.regs.length < 1152921504606846976 ∧ x.args.length < 1152921504606846976) := by
  have h:=ReadsB.struct (n:=n) (A:=Lay.int.pair (intsC.pair intsC)) Tryz.underlying53 (by kernel_rfl) (FieldsB.cons rfl rfl (readsI n) (FieldsB.cons rfl rfl (readsIsC n) (FieldsB.last rfl rfl (readsIsC n))));have h2:=h.via (f:=fun x:MTo=>(x.block,x.regs,x.args)) (fun d=>⟨d.1,d.2.1,d.2.2⟩) (fun d=>rfl);exact ⟨h2.1,fun hf h' hw=>by obtain ⟨d,hd,hb⟩:=h2.2 hf h' hw;exact ⟨d,hd,hb.2⟩⟩
theorem readsEndC (n : Nat) : ReadsB Tryz.prog 55 endC n (fun x => (x.yes.regs.length < 1152921504606846976 ∧ x.yes.args.length < 1152921504606846976) ∧ (x.no.regs.length < 1152921504606846976 ∧ x.no.args.length < 1152921504606846976) ∧ x.args.length < 1152921504606846976) := by
  have h:=ReadsB.struct (n:=n) (A:=Lay.int.pair (Lay.int.pair (toC.pair (toC.pair intsC)))) Tryz.underlying55 (by kernel_rfl) (FieldsB.cons rfl rfl (readsI n) (FieldsB.cons rfl rfl (readsI n) (FieldsB.cons rfl rfl (readsToC n) (FieldsB.cons rfl rfl (readsToC n) (FieldsB.last rfl rfl (readsIsC n))))));have h2:=h.via (f:=fun x:MEnd=>(x.op,x.a,x.yes,x.no,x.args)) (fun d=>⟨d.1,d.2.1,d.2.2.1,d.2.2.2.1,d.2.2.2.2⟩) (fun d=>rfl);exact ⟨h2.1,fun hf h' hw=>by obtain ⟨d,hd,hb⟩:=h2.2 hf h' hw;exact ⟨d,hd,hb.2.2⟩⟩
theorem readsInssC (n : Nat) : ReadsB Tryz.prog 25 insC.list n (fun l => l.length < 1152921504606846976) := ReadsB.list Tryz.underlying25 (by kernel_rfl) (readsInsC n) (by decide) (by rw [show Tryz.prog.bytesOf 46 = 96 from by kernel_rfl]; decide)
theorem readsBlockC (n : Nat) : ReadsB Tryz.prog 58 (blockC n) n (fun _ => True) := by
  have h:=ReadsB.struct (n:=n) (A:=Lay.int.pair ((typesL n).pair (insC.list.pair endC))) Tryz.underlying58 (by kernel_rfl) (FieldsB.cons rfl rfl (readsI n) (FieldsB.cons rfl rfl (readsTs n) (FieldsB.cons rfl rfl (readsInssC n) (FieldsB.last rfl rfl (readsEndC n)))));have h2:=h.via (f:=fun x:MBlock n=>(x.regs,x.params,x.code,x.fin)) (fun d=>⟨d.1,d.2.1,d.2.2.1,d.2.2.2⟩) (fun d=>rfl);exact ⟨h2.1,fun hf h' hw=>by obtain ⟨d,hd,hb⟩:=h2.2 hf h' hw;exact ⟨d,hd,trivial⟩⟩
theorem readsBlocksC (n : Nat) : ReadsB Tryz.prog 38 (blockC n).list n (fun l => l.length < 1152921504606846976) := ReadsB.list Tryz.underlying38 (by kernel_rfl) (readsBlockC n) (by show 0 < 12; decide) (by rw [show Tryz.prog.bytesOf 58 = 208 from by kernel_rfl]; decide)
theorem readsFuncC (n : Nat) : ReadsB Tryz.prog 40 (funcC n) n (fun _ => True) := by
  have h:=ReadsB.struct (n:=n) (A:=Lay.int.pair ((typesL n).pair ((typesL n).pair (blockC n).list))) Tryz.underlying40 (by kernel_rfl) (FieldsB.cons rfl rfl (readsI n) (FieldsB.cons rfl rfl (readsTs n) (FieldsB.cons rfl rfl (readsTs n) (FieldsB.last rfl rfl (readsBlocksC n)))));have h2:=h.via (f:=fun x:MFunc n=>(x.regs,x.params,x.results,x.blocks)) (fun d=>⟨d.1,d.2.1,d.2.2.1,d.2.2.2⟩) (fun d=>rfl);exact ⟨h2.1,fun hf h' hw=>by obtain ⟨d,hd,hb⟩:=h2.2 hf h' hw;exact ⟨d,hd,trivial⟩⟩
theorem readsFuncsC (n : Nat) : ReadsB Tryz.prog 22 (modC n) n (fun l => l.length < 1152921504606846976) := ReadsB.list Tryz.underlying22 (by kernel_rfl) (readsFuncC n) (by show 0 < 4; decide) (by rw [show Tryz.prog.bytesOf 40 = 80 from by kernel_rfl]; decide)
theorem readsModC (n : Nat) : ReadsB Tryz.prog 24 (modC n) n (fun _ => True) := by
  have h:=ReadsB.struct (n:=n) (A:=modC n) Tryz.underlying24 (by kernel_rfl) (FieldsB.last rfl rfl (readsFuncsC n));exact ⟨h.1,fun hf h' hw=>by obtain ⟨d,hd,hb⟩:=h.2 hf h' hw;exact ⟨d,hd,trivial⟩⟩
end Go.Proofs.YtilanenoliopbaeGreat
namespace Go.Proofs.YtilanenoliopbaeGreat
open Go.ChangeShapes Go.WideShapes Go.ChangeAt Go.RowKit
set_option linter.unusedSimpArgs false
set_option linter.unusedVariables false
def MkOut (w : World) (O : Nat → Prop) (c : Int) (l : List (TT 6)) (e : Ending) (w' : World) : Prop :=
  ∃ a n d,e=.returned (.tuple #[.slice a n d,.int .i64 c])∧(c=0→n=l.length∧n≤d∧(typesL 6).In w' (fun g=>¬ O g) l [.slice a n d])∧Below w.heap.size w w'
abbrev insV (x : MIns) (rg ag : Option Addr) (rc ac : Nat) : Value := .agg #[.int .i64 x.op, .int .i64 x.a, .int .i64 x.b, .int .i64 x.c, .int .i64 x.k, .int .i64 x.n, .slice rg x.regs.length rc, .slice ag x.args.length ac]
section
variable {w w2 w3 : World} {b X : Nat} {O : Nat → Prop} {s : JSt} {x : MIns} {rg ag : Option Addr} {rc ac : Nat} {na : Option Addr}
theorem MkOut.nil {c : Int} (h : Below w.heap.size w w3) : MkOut w O c [] (.returned (.tuple #[.slice none 0 0, .int .i64 c])) w3 :=
  ⟨none,0,0,rfl,fun _=>⟨rfl,Nat.le_refl _,Lay.list_nil _ _ _ _ _⟩,h⟩
theorem MkOut.bad {c : Int} {l : List (TT 6)} (hc : c ≠ 0) (h : Below w.heap.size w w3) (a : Option Addr) (n d : Nat) : MkOut w O c l (.returned (.tuple #[.slice a n d, .int .i64 c])) w3 :=
  ⟨a,n,d,rfl,fun e=>absurd e hc,h⟩
end
end Go.Proofs.YtilanenoliopbaeGreat
