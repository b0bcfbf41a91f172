import Derived.Test.YtjodmledadbgeacGreatDoorP3
set_option maxHeartbeats 16000000
set_option maxRecDepth 100000
namespace Go.Proofs.YtjodmledadbgeacGreatDoor
open Go.ChangeShapes Go.WideShapes Go.ChangeAt Go.RowKit
set_option linter.unusedSimpArgs false
set_option linter.unusedVariables false
theorem insFSome {xop : Int} {fa fb fc fk fn fr fs : Bool} (hop : fieldsOf xop = some (fa, fb, fc, fk, fn, fr, fs)) (xa xb xc xk xn : Int) (am ra aa : Option Addr) (lm cm rl rc al ac : Nat) (w : World) :
    Rd Tryz.prog 56 #[.agg #[.slice am lm cm],.agg #[.int .i64 xop,.int .i64 xa,.int .i64 xb,.int .i64 xc,.int .i64 xk,.int .i64 xn,.slice ra rl rc,.slice aa al ac]] w (.int .i64 (insForm lm xop xa xb xc xk xn rl al)):=by
  refine fr_enter (n:=137) Tryz.func56 rfl rfl rfl ?_
  intro a hF
  have hW:=Wd.start w
  replace hF:Fr 137 a [(0,.agg #[.slice am lm cm]),(1,.agg #[.int .i64 xop,.int .i64 xa,.int .i64 xb,.int .i64 xc,.int .i64 xk,.int .i64 xn,.slice ra rl rc,.slice aa al ac])]:=hF
  refine wp_seq_k fun K1 hK1=>?_
  refine rg hF fun ops=>?_;clear hF a
  refine sB hW trivial rfl rfl ?_
  clear hW;intro w2 B2 hW2 hN;clear hN
  refine sB hW2 trivial rfl rfl ?_
  clear hW2;intro w3 B3 hW3 hN;clear hN
  refine sa trivial rfl rfl ?_
  refine St.nil fun a4 h4=>?_
  refine hK1 _ _ ?_
  refine wp_seq_k fun K5 hK5=>?_
  refine rg h4 fun ops=>?_;clear h4 a4
  refine sfIns0 trivial rfl rfl ?_
  refine sbInt 0 hW3 trivial rfl rfl rfl rfl ?_
  refine sc_1 cf81 hW3 (rdFieldsSome hop w3) trivial rfl rfl ?_
  clear hW3;intro w6 hW6
  refine sm trivial rfl rfl ?_
  intro a7 h7
  refine fr_pure (t:=11) (v:=.agg #[.bool fa,.bool fb,.bool fc,.bool fk,.bool fn,.bool fr,.bool fs]) (w':=w6) h7 rfl rfl rfl (fun K hK=>?_) ?_
  ·have k0:a7.tmps.getD 7 undef=.tuple #[.agg #[.bool fa,.bool fb,.bool fc,.bool fk,.bool fn,.bool fr,.bool fs],.bool true]:=h7.sl 7 _ rfl
   go_simp
   exact hK
  clear h7;intro a8 hF8
  refine fr_pure (t:=12) (v:=.bool true) (w':=w6) hF8 rfl rfl rfl (fun K hK=>?_) ?_
  ·have k0:a8.tmps.getD 7 undef=.tuple #[.agg #[.bool fa,.bool fb,.bool fc,.bool fk,.bool fn,.bool fr,.bool fs],.bool true]:=hF8.sl 7 _ rfl
   go_simp
   exact hK
  clear hF8;intro a9 hF9
  refine St.go hF9 ?_;clear hF9 a9
  refine sAFields hW6 trivial rfl ?_
  clear hW6;intro w10 B10 hW10 hN;clear hN
  refine sT 0 hW10 rfl rfl infFields rfl rfl rfl ?_
  clear hW10;intro w11 hW11
  refine sa trivial rfl rfl ?_
  refine St.nil fun a12 h12=>?_
  refine hK5 _ _ ?_
  refine wp_seq_k fun K13 hK13=>?_
  refine wp_seq_k fun K14 hK14=>?_
  refine rg h12 fun ops=>?_;clear h12 a12
  refine sm trivial rfl rfl ?_
  refine sn trivial rfl rfl ?_
  refine St.nil fun a15 h15=>?_
  refine hK14 _ _ ?_
  refine fr_false (t:=14) h15 rfl ?_
  refine wp_skip ?_
  refine hK13 _ _ ?_
  refine wp_seq_k fun K16 hK16=>?_
  refine wp_seq_k fun K17 hK17=>?_
  refine fr_region ?_
  intro ops hops
  have hg3:(ops[3]?).bind (fun o:Oper=>o.dst)=some 18:=hops 3
  have hg8:(ops[8]?).bind (fun o:Oper=>o.dst)=some 23:=hops 8
  have hg12:(ops[12]?).bind (fun o:Oper=>o.dst)=some 27:=hops 12
  have hg18:(ops[18]?).bind (fun o:Oper=>o.dst)=some 33:=hops 18
  have hg22:(ops[22]?).bind (fun o:Oper=>o.dst)=some 37:=hops 22
  have hg28:(ops[28]?).bind (fun o:Oper=>o.dst)=some 43:=hops 28
  have hg32:(ops[32]?).bind (fun o:Oper=>o.dst)=some 47:=hops 32
  have hg38:(ops[38]?).bind (fun o:Oper=>o.dst)=some 53:=hops 38
  have hg42:(ops[42]?).bind (fun o:Oper=>o.dst)=some 57:=hops 42
  have hg48:(ops[48]?).bind (fun o:Oper=>o.dst)=some 63:=hops 48
  have hg52:(ops[52]?).bind (fun o:Oper=>o.dst)=some 67:=hops 52
  have hg59:(ops[59]?).bind (fun o:Oper=>o.dst)=some 74:=hops 59
  have hg63:(ops[63]?).bind (fun o:Oper=>o.dst)=some 78:=hops 63
  clear hops
  refine cut_k 9 (fun a' w'=>(∃ d1:Bool,d1=(!fa && xa != 0)∧Fr 137 a' [(23,.bool d1),(1,.agg #[.int .i64 xop,.int .i64 xa,.int .i64 xb,.int .i64 xc,.int .i64 xk,.int .i64 xn,.slice ra rl rc,.slice aa al ac]),(0,.agg #[.slice am lm cm]),(2,.pointer (some ⟨B2,0,none⟩)),(3,.pointer (some ⟨B3,0,none⟩)),(4,.int .i64 0),(5,.pointer (some ⟨B10,0,none⟩)),(6,.bool true)])∧w11=w') (fun KC hKC=>?_) ?_
  ·refine St.go h15 ?_;clear h15 a15
   refine sfFields0 trivial rfl rfl ?_
   refine sbBool 0 hW11 trivial rfl rfl rfl rfl ?_
   refine sn trivial rfl rfl ?_
   refine sm trivial rfl rfl ?_
   intro a18 h18
   rcases Bool.eq_false_or_eq_true (!fa) with hb | hb
   ·rw [hb] at h18
    have hc19:fa=false:=by simpa using hb
    clear hb
    refine St.go h18 ?_;clear h18 a18
    refine sfIns1 ⟨_,hg3,rfl,rfl⟩ rfl rfl ?_
    refine sbInt 1 hW11 ⟨_,hg3,rfl,rfl⟩ rfl rfl rfl rfl ?_
    refine sne ⟨_,hg3,rfl,rfl⟩ rfl rfl rfl ?_
    refine sp trivial rfl rfl rfl ?_
    refine sm trivial rfl rfl ?_
    refine St.nil fun a20 h20=>?_
    exact hKC _ _ ⟨⟨xa != 0,by simp [hc19],(h20.keep (h20.keep (h20.keep (h20.keep (h20.keep (h20.keep (h20.keep (h20.keep h20.nil (t:=6) rfl) (t:=5) rfl) (t:=4) rfl) (t:=3) rfl) (t:=2) rfl) (t:=0) rfl) (t:=1) rfl) (t:=23) rfl)⟩,rfl⟩
   rw [hb] at h18
   have hc21:fa=true:=by simpa using hb
   clear hb
   refine St.go h18 ?_;clear h18 a18
   refine so hg3 rfl rfl rfl rfl ?_
   refine so hg3 rfl rfl rfl rfl ?_
   refine so hg3 rfl rfl rfl rfl ?_
   refine spf trivial rfl rfl rfl ?_
   refine sm trivial rfl rfl ?_
   refine St.nil fun a22 h22=>?_
   exact hKC _ _ ⟨⟨false,by simp [hc21],(h22.keep (h22.keep (h22.keep (h22.keep (h22.keep (h22.keep (h22.keep (h22.keep h22.nil (t:=6) rfl) (t:=5) rfl) (t:=4) rfl) (t:=3) rfl) (t:=2) rfl) (t:=0) rfl) (t:=1) rfl) (t:=23) rfl)⟩,rfl⟩
  ·clear h15;rintro a23 _ ⟨⟨d1,hdd1,h23⟩,rfl⟩;replace hdd1:Hid _:=hdd1
   refine cut_k 10 (fun a' w'=>(∃ d2:Bool,d2=(d1 || (!fb && xb != 0))∧Fr 137 a' [(33,.bool d2),(1,.agg #[.int .i64 xop,.int .i64 xa,.int .i64 xb,.int .i64 xc,.int .i64 xk,.int .i64 xn,.slice ra rl rc,.slice aa al ac]),(0,.agg #[.slice am lm cm]),(2,.pointer (some ⟨B2,0,none⟩)),(3,.pointer (some ⟨B3,0,none⟩)),(4,.int .i64 0),(5,.pointer (some ⟨B10,0,none⟩)),(6,.bool true)])∧w11=w') (fun KC hKC=>?_) ?_
   ·rcases Bool.eq_false_or_eq_true d1 with hb | hb
    ·rw [hb] at h23
     have hc24:=hb
     clear hb
     refine St.go h23 ?_;clear h23 a23
     refine so hg8 rfl rfl rfl rfl ?_
     refine so hg8 rfl rfl rfl rfl ?_
     refine so hg8 rfl rfl rfl rfl ?_
     refine so hg8 rfl rfl rfl rfl ?_
     refine so hg12 rfl rfl rfl rfl ?_
     refine so hg12 rfl rfl rfl rfl ?_
     refine so hg12 rfl rfl rfl rfl ?_
     refine so hg8 rfl rfl rfl rfl ?_
     refine sp trivial rfl rfl rfl ?_
     refine sm trivial rfl rfl ?_
     refine St.nil fun a25 h25=>?_
     exact hKC _ _ ⟨⟨true,by simp [hc24],(h25.keep (h25.keep (h25.keep (h25.keep (h25.keep (h25.keep (h25.keep (h25.keep h25.nil (t:=6) rfl) (t:=5) rfl) (t:=4) rfl) (t:=3) rfl) (t:=2) rfl) (t:=0) rfl) (t:=1) rfl) (t:=33) rfl)⟩,rfl⟩
    rw [hb] at h23
    have hc26:=hb
    clear hb
    refine St.go h23 ?_;clear h23 a23
    refine sfFields1 ⟨_,hg8,rfl,rfl⟩ rfl rfl ?_
    refine sbBool 0 hW11 ⟨_,hg8,rfl,rfl⟩ rfl rfl rfl rfl ?_
    refine sn ⟨_,hg8,rfl,rfl⟩ rfl rfl ?_
    refine sm ⟨_,hg8,rfl,rfl⟩ rfl rfl ?_
    intro a27 h27
    rcases Bool.eq_false_or_eq_true (!fb) with hb | hb
    ·rw [hb] at h27
     have hc28:fb=false:=by simpa using hb
     clear hb
     refine St.go h27 ?_;clear h27 a27
     refine sfIns2 ⟨_,hg12,rfl,rfl⟩ rfl rfl ?_
     refine sbInt 1 hW11 ⟨_,hg12,rfl,rfl⟩ rfl rfl rfl rfl ?_
     refine sne ⟨_,hg12,rfl,rfl⟩ rfl rfl rfl ?_
     refine sp ⟨_,hg8,rfl,rfl⟩ rfl rfl rfl ?_
     refine spf trivial rfl rfl rfl ?_
     refine sm trivial rfl rfl ?_
     refine St.nil fun a29 h29=>?_
     exact hKC _ _ ⟨⟨xb != 0,by simp [hc26,hc28],(h29.keep (h29.keep (h29.keep (h29.keep (h29.keep (h29.keep (h29.keep (h29.keep h29.nil (t:=6) rfl) (t:=5) rfl) (t:=4) rfl) (t:=3) rfl) (t:=2) rfl) (t:=0) rfl) (t:=1) rfl) (t:=33) rfl)⟩,rfl⟩
    rw [hb] at h27
    have hc30:fb=true:=by simpa using hb
    clear hb
    refine St.go h27 ?_;clear h27 a27
    refine so hg12 rfl rfl rfl rfl ?_
    refine so hg12 rfl rfl rfl rfl ?_
    refine so hg12 rfl rfl rfl rfl ?_
    refine spf ⟨_,hg8,rfl,rfl⟩ rfl rfl rfl ?_
    refine spf trivial rfl rfl rfl ?_
    refine sm trivial rfl rfl ?_
    refine St.nil fun a31 h31=>?_
    exact hKC _ _ ⟨⟨false,by simp [hc26,hc30],(h31.keep (h31.keep (h31.keep (h31.keep (h31.keep (h31.keep (h31.keep (h31.keep h31.nil (t:=6) rfl) (t:=5) rfl) (t:=4) rfl) (t:=3) rfl) (t:=2) rfl) (t:=0) rfl) (t:=1) rfl) (t:=33) rfl)⟩,rfl⟩
   ·clear h23;rintro a32 _ ⟨⟨d2,hdd2,h32⟩,rfl⟩;replace hdd2:Hid _:=hdd2
    refine cut_k 10 (fun a' w'=>(∃ d3:Bool,d3=(d2 || (!fc && xc != 0))∧Fr 137 a' [(43,.bool d3),(1,.agg #[.int .i64 xop,.int .i64 xa,.int .i64 xb,.int .i64 xc,.int .i64 xk,.int .i64 xn,.slice ra rl rc,.slice aa al ac]),(0,.agg #[.slice am lm cm]),(2,.pointer (some ⟨B2,0,none⟩)),(3,.pointer (some ⟨B3,0,none⟩)),(4,.int .i64 0),(5,.pointer (some ⟨B10,0,none⟩)),(6,.bool true)])∧w11=w') (fun KC hKC=>?_) ?_
    ·rcases Bool.eq_false_or_eq_true d2 with hb | hb
     ·rw [hb] at h32
      have hc33:=hb
      clear hb
      refine St.go h32 ?_;clear h32 a32
      refine so hg18 rfl rfl rfl rfl ?_
      refine so hg18 rfl rfl rfl rfl ?_
      refine so hg18 rfl rfl rfl rfl ?_
      refine so hg18 rfl rfl rfl rfl ?_
      refine so hg22 rfl rfl rfl rfl ?_
      refine so hg22 rfl rfl rfl rfl ?_
      refine so hg22 rfl rfl rfl rfl ?_
      refine so hg18 rfl rfl rfl rfl ?_
      refine sp trivial rfl rfl rfl ?_
      refine sm trivial rfl rfl ?_
      refine St.nil fun a34 h34=>?_
      exact hKC _ _ ⟨⟨true,by simp [hc33],(h34.keep (h34.keep (h34.keep (h34.keep (h34.keep (h34.keep (h34.keep (h34.keep h34.nil (t:=6) rfl) (t:=5) rfl) (t:=4) rfl) (t:=3) rfl) (t:=2) rfl) (t:=0) rfl) (t:=1) rfl) (t:=43) rfl)⟩,rfl⟩
     rw [hb] at h32
     have hc35:=hb
     clear hb
     refine St.go h32 ?_;clear h32 a32
     refine sfFields2 ⟨_,hg18,rfl,rfl⟩ rfl rfl ?_
     refine sbBool 0 hW11 ⟨_,hg18,rfl,rfl⟩ rfl rfl rfl rfl ?_
     refine sn ⟨_,hg18,rfl,rfl⟩ rfl rfl ?_
     refine sm ⟨_,hg18,rfl,rfl⟩ rfl rfl ?_
     intro a36 h36
     rcases Bool.eq_false_or_eq_true (!fc) with hb | hb
     ·rw [hb] at h36
      have hc37:fc=false:=by simpa using hb
      clear hb
      refine St.go h36 ?_;clear h36 a36
      refine sfIns3 ⟨_,hg22,rfl,rfl⟩ rfl rfl ?_
      refine sbInt 1 hW11 ⟨_,hg22,rfl,rfl⟩ rfl rfl rfl rfl ?_
      refine sne ⟨_,hg22,rfl,rfl⟩ rfl rfl rfl ?_
      refine sp ⟨_,hg18,rfl,rfl⟩ rfl rfl rfl ?_
      refine spf trivial rfl rfl rfl ?_
      refine sm trivial rfl rfl ?_
      refine St.nil fun a38 h38=>?_
      exact hKC _ _ ⟨⟨xc != 0,by simp [hc35,hc37],(h38.keep (h38.keep (h38.keep (h38.keep (h38.keep (h38.keep (h38.keep (h38.keep h38.nil (t:=6) rfl) (t:=5) rfl) (t:=4) rfl) (t:=3) rfl) (t:=2) rfl) (t:=0) rfl) (t:=1) rfl) (t:=43) rfl)⟩,rfl⟩
     rw [hb] at h36
     have hc39:fc=true:=by simpa using hb
     clear hb
     refine St.go h36 ?_;clear h36 a36
     refine so hg22 rfl rfl rfl rfl ?_
     refine so hg22 rfl rfl rfl rfl ?_
     refine so hg22 rfl rfl rfl rfl ?_
     refine spf ⟨_,hg18,rfl,rfl⟩ rfl rfl rfl ?_
     refine spf trivial rfl rfl rfl ?_
     refine sm trivial rfl rfl ?_
     refine St.nil fun a40 h40=>?_
     exact hKC _ _ ⟨⟨false,by simp [hc35,hc39],(h40.keep (h40.keep (h40.keep (h40.keep (h40.keep (h40.keep (h40.keep (h40.keep h40.nil (t:=6) rfl) (t:=5) rfl) (t:=4) rfl) (t:=3) rfl) (t:=2) rfl) (t:=0) rfl) (t:=1) rfl) (t:=43) rfl)⟩,rfl⟩
    ·clear h32;rintro a41 _ ⟨⟨d3,hdd3,h41⟩,rfl⟩;replace hdd3:Hid _:=hdd3
     refine cut_k 10 (fun a' w'=>(∃ d4:Bool,d4=(d3 || (!fk && xk != 0))∧Fr 137 a' [(53,.bool d4),(1,.agg #[.int .i64 xop,.int .i64 xa,.int .i64 xb,.int .i64 xc,.int .i64 xk,.int .i64 xn,.slice ra rl rc,.slice aa al ac]),(0,.agg #[.slice am lm cm]),(2,.pointer (some ⟨B2,0,none⟩)),(3,.pointer (some ⟨B3,0,none⟩)),(4,.int .i64 0),(5,.pointer (some ⟨B10,0,none⟩)),(6,.bool true)])∧w11=w') (fun KC hKC=>?_) ?_
     ·rcases Bool.eq_false_or_eq_true d3 with hb | hb
      ·rw [hb] at h41
       have hc42:=hb
       clear hb
       refine St.go h41 ?_;clear h41 a41
       refine so hg28 rfl rfl rfl rfl ?_
       refine so hg28 rfl rfl rfl rfl ?_
       refine so hg28 rfl rfl rfl rfl ?_
       refine so hg28 rfl rfl rfl rfl ?_
       refine so hg32 rfl rfl rfl rfl ?_
       refine so hg32 rfl rfl rfl rfl ?_
       refine so hg32 rfl rfl rfl rfl ?_
       refine so hg28 rfl rfl rfl rfl ?_
       refine sp trivial rfl rfl rfl ?_
       refine sm trivial rfl rfl ?_
       refine St.nil fun a43 h43=>?_
       exact hKC _ _ ⟨⟨true,by simp [hc42],(h43.keep (h43.keep (h43.keep (h43.keep (h43.keep (h43.keep (h43.keep (h43.keep h43.nil (t:=6) rfl) (t:=5) rfl) (t:=4) rfl) (t:=3) rfl) (t:=2) rfl) (t:=0) rfl) (t:=1) rfl) (t:=53) rfl)⟩,rfl⟩
      rw [hb] at h41
      have hc44:=hb
      clear hb
      refine St.go h41 ?_;clear h41 a41
      refine sfFields3 ⟨_,hg28,rfl,rfl⟩ rfl rfl ?_
      refine sbBool 0 hW11 ⟨_,hg28,rfl,rfl⟩ rfl rfl rfl rfl ?_
      refine sn ⟨_,hg28,rfl,rfl⟩ rfl rfl ?_
      refine sm ⟨_,hg28,rfl,rfl⟩ rfl rfl ?_
      intro a45 h45
      rcases Bool.eq_false_or_eq_true (!fk) with hb | hb
      ·rw [hb] at h45
       have hc46:fk=false:=by simpa using hb
       clear hb
       refine St.go h45 ?_;clear h45 a45
       refine sfIns4 ⟨_,hg32,rfl,rfl⟩ rfl rfl ?_
       refine sbInt 1 hW11 ⟨_,hg32,rfl,rfl⟩ rfl rfl rfl rfl ?_
       refine sne ⟨_,hg32,rfl,rfl⟩ rfl rfl rfl ?_
       refine sp ⟨_,hg28,rfl,rfl⟩ rfl rfl rfl ?_
       refine spf trivial rfl rfl rfl ?_
       refine sm trivial rfl rfl ?_
       refine St.nil fun a47 h47=>?_
       exact hKC _ _ ⟨⟨xk != 0,by simp [hc44,hc46],(h47.keep (h47.keep (h47.keep (h47.keep (h47.keep (h47.keep (h47.keep (h47.keep h47.nil (t:=6) rfl) (t:=5) rfl) (t:=4) rfl) (t:=3) rfl) (t:=2) rfl) (t:=0) rfl) (t:=1) rfl) (t:=53) rfl)⟩,rfl⟩
      rw [hb] at h45
      have hc48:fk=true:=by simpa using hb
      clear hb
      refine St.go h45 ?_;clear h45 a45
      refine so hg32 rfl rfl rfl rfl ?_
      refine so hg32 rfl rfl rfl rfl ?_
      refine so hg32 rfl rfl rfl rfl ?_
      refine spf ⟨_,hg28,rfl,rfl⟩ rfl rfl rfl ?_
      refine spf trivial rfl rfl rfl ?_
      refine sm trivial rfl rfl ?_
      refine St.nil fun a49 h49=>?_
      exact hKC _ _ ⟨⟨false,by simp [hc44,hc48],(h49.keep (h49.keep (h49.keep (h49.keep (h49.keep (h49.keep (h49.keep (h49.keep h49.nil (t:=6) rfl) (t:=5) rfl) (t:=4) rfl) (t:=3) rfl) (t:=2) rfl) (t:=0) rfl) (t:=1) rfl) (t:=53) rfl)⟩,rfl⟩
     ·clear h41;rintro a50 _ ⟨⟨d4,hdd4,h50⟩,rfl⟩;replace hdd4:Hid _:=hdd4
      refine cut_k 10 (fun a' w'=>(∃ d5:Bool,d5=(d4 || (!fn && xn != 0))∧Fr 137 a' [(63,.bool d5),(1,.agg #[.int .i64 xop,.int .i64 xa,.int .i64 xb,.int .i64 xc,.int .i64 xk,.int .i64 xn,.slice ra rl rc,.slice aa al ac]),(0,.agg #[.slice am lm cm]),(2,.pointer (some ⟨B2,0,none⟩)),(3,.pointer (some ⟨B3,0,none⟩)),(4,.int .i64 0),(5,.pointer (some ⟨B10,0,none⟩)),(6,.bool true)])∧w11=w') (fun KC hKC=>?_) ?_
      ·rcases Bool.eq_false_or_eq_true d4 with hb | hb
       ·rw [hb] at h50
        have hc51:=hb
        clear hb
        refine St.go h50 ?_;clear h50 a50
        refine so hg38 rfl rfl rfl rfl ?_
        refine so hg38 rfl rfl rfl rfl ?_
        refine so hg38 rfl rfl rfl rfl ?_
        refine so hg38 rfl rfl rfl rfl ?_
        refine so hg42 rfl rfl rfl rfl ?_
        refine so hg42 rfl rfl rfl rfl ?_
        refine so hg42 rfl rfl rfl rfl ?_
        refine so hg38 rfl rfl rfl rfl ?_
        refine sp trivial rfl rfl rfl ?_
        refine sm trivial rfl rfl ?_
        refine St.nil fun a52 h52=>?_
        exact hKC _ _ ⟨⟨true,by simp [hc51],(h52.keep (h52.keep (h52.keep (h52.keep (h52.keep (h52.keep (h52.keep (h52.keep h52.nil (t:=6) rfl) (t:=5) rfl) (t:=4) rfl) (t:=3) rfl) (t:=2) rfl) (t:=0) rfl) (t:=1) rfl) (t:=63) rfl)⟩,rfl⟩
       rw [hb] at h50
       have hc53:=hb
       clear hb
       refine St.go h50 ?_;clear h50 a50
       refine sfFields4 ⟨_,hg38,rfl,rfl⟩ rfl rfl ?_
       refine sbBool 0 hW11 ⟨_,hg38,rfl,rfl⟩ rfl rfl rfl rfl ?_
       refine sn ⟨_,hg38,rfl,rfl⟩ rfl rfl ?_
       refine sm ⟨_,hg38,rfl,rfl⟩ rfl rfl ?_
       intro a54 h54
       rcases Bool.eq_false_or_eq_true (!fn) with hb | hb
       ·rw [hb] at h54
        have hc55:fn=false:=by simpa using hb
        clear hb
        refine St.go h54 ?_;clear h54 a54
        refine sfIns5 ⟨_,hg42,rfl,rfl⟩ rfl rfl ?_
        refine sbInt6 1 hW11 ⟨_,hg42,rfl,rfl⟩ rfl rfl rfl rfl ?_
        refine sne6 ⟨_,hg42,rfl,rfl⟩ rfl rfl rfl ?_
        refine sp ⟨_,hg38,rfl,rfl⟩ rfl rfl rfl ?_
        refine spf trivial rfl rfl rfl ?_
        refine sm trivial rfl rfl ?_
        refine St.nil fun a56 h56=>?_
        exact hKC _ _ ⟨⟨xn != 0,by simp [hc53,hc55],(h56.keep (h56.keep (h56.keep (h56.keep (h56.keep (h56.keep (h56.keep (h56.keep h56.nil (t:=6) rfl) (t:=5) rfl) (t:=4) rfl) (t:=3) rfl) (t:=2) rfl) (t:=0) rfl) (t:=1) rfl) (t:=63) rfl)⟩,rfl⟩
       rw [hb] at h54
       have hc57:fn=true:=by simpa using hb
       clear hb
       refine St.go h54 ?_;clear h54 a54
       refine so hg42 rfl rfl rfl rfl ?_
       refine so hg42 rfl rfl rfl rfl ?_
       refine so hg42 rfl rfl rfl rfl ?_
       refine spf ⟨_,hg38,rfl,rfl⟩ rfl rfl rfl ?_
       refine spf trivial rfl rfl rfl ?_
       refine sm trivial rfl rfl ?_
       refine St.nil fun a58 h58=>?_
       exact hKC _ _ ⟨⟨false,by simp [hc53,hc57],(h58.keep (h58.keep (h58.keep (h58.keep (h58.keep (h58.keep (h58.keep (h58.keep h58.nil (t:=6) rfl) (t:=5) rfl) (t:=4) rfl) (t:=3) rfl) (t:=2) rfl) (t:=0) rfl) (t:=1) rfl) (t:=63) rfl)⟩,rfl⟩
      ·clear h50;rintro a59 _ ⟨⟨d5,hdd5,h59⟩,rfl⟩;replace hdd5:Hid _:=hdd5
       refine cut_k 11 (fun a' w'=>(∃ d6:Bool,d6=(d5 || (!fr && decide ((0:Int) < (rl:Int))))∧Fr 137 a' [(74,.bool d6),(1,.agg #[.int .i64 xop,.int .i64 xa,.int .i64 xb,.int .i64 xc,.int .i64 xk,.int .i64 xn,.slice ra rl rc,.slice aa al ac]),(0,.agg #[.slice am lm cm]),(2,.pointer (some ⟨B2,0,none⟩)),(3,.pointer (some ⟨B3,0,none⟩)),(4,.int .i64 0),(5,.pointer (some ⟨B10,0,none⟩)),(6,.bool true)])∧w11=w') (fun KC hKC=>?_) ?_
       ·rcases Bool.eq_false_or_eq_true d5 with hb | hb
        ·rw [hb] at h59
         have hc60:=hb
         clear hb
         refine St.go h59 ?_;clear h59 a59
         refine so hg48 rfl rfl rfl rfl ?_
         refine so hg48 rfl rfl rfl rfl ?_
         refine so hg48 rfl rfl rfl rfl ?_
         refine so hg48 rfl rfl rfl rfl ?_
         refine so hg52 rfl rfl rfl rfl ?_
         refine so hg52 rfl rfl rfl rfl ?_
         refine so hg52 rfl rfl rfl rfl ?_
         refine so hg52 rfl rfl rfl rfl ?_
         refine so hg48 rfl rfl rfl rfl ?_
         refine sp trivial rfl rfl rfl ?_
         refine sm trivial rfl rfl ?_
         refine St.nil fun a61 h61=>?_
         exact hKC _ _ ⟨⟨true,by simp [hc60],(h61.keep (h61.keep (h61.keep (h61.keep (h61.keep (h61.keep (h61.keep (h61.keep h61.nil (t:=6) rfl) (t:=5) rfl) (t:=4) rfl) (t:=3) rfl) (t:=2) rfl) (t:=0) rfl) (t:=1) rfl) (t:=74) rfl)⟩,rfl⟩
        rw [hb] at h59
        have hc62:=hb
        clear hb
        refine St.go h59 ?_;clear h59 a59
        refine sfFields5 ⟨_,hg48,rfl,rfl⟩ rfl rfl ?_
        refine sbBool 0 hW11 ⟨_,hg48,rfl,rfl⟩ rfl rfl rfl rfl ?_
        refine sn ⟨_,hg48,rfl,rfl⟩ rfl rfl ?_
        refine sm ⟨_,hg48,rfl,rfl⟩ rfl rfl ?_
        intro a63 h63
        rcases Bool.eq_false_or_eq_true (!fr) with hb | hb
        ·rw [hb] at h63
         have hc64:fr=false:=by simpa using hb
         clear hb
         refine St.go h63 ?_;clear h63 a63
         refine sfIns6 ⟨_,hg52,rfl,rfl⟩ rfl rfl ?_
         refine sbInts 1 hW11 ⟨_,hg52,rfl,rfl⟩ rfl rfl rfl rfl ?_
         refine slInts ⟨_,hg52,rfl,rfl⟩ rfl rfl ?_
         refine sgt ⟨_,hg52,rfl,rfl⟩ rfl rfl rfl ?_
         refine sp ⟨_,hg48,rfl,rfl⟩ rfl rfl rfl ?_
         refine spf trivial rfl rfl rfl ?_
         refine sm trivial rfl rfl ?_
         refine St.nil fun a65 h65=>?_
         exact hKC _ _ ⟨⟨decide (0 < (rl:Int)),by simp [hc62,hc64],(h65.keep (h65.keep (h65.keep (h65.keep (h65.keep (h65.keep (h65.keep (h65.keep h65.nil (t:=6) rfl) (t:=5) rfl) (t:=4) rfl) (t:=3) rfl) (t:=2) rfl) (t:=0) rfl) (t:=1) rfl) (t:=74) rfl)⟩,rfl⟩
        rw [hb] at h63
        have hc66:fr=true:=by simpa using hb
        clear hb
        refine St.go h63 ?_;clear h63 a63
        refine so hg52 rfl rfl rfl rfl ?_
        refine so hg52 rfl rfl rfl rfl ?_
        refine so hg52 rfl rfl rfl rfl ?_
        refine so hg52 rfl rfl rfl rfl ?_
        refine spf ⟨_,hg48,rfl,rfl⟩ rfl rfl rfl ?_
        refine spf trivial rfl rfl rfl ?_
        refine sm trivial rfl rfl ?_
        refine St.nil fun a67 h67=>?_
        exact hKC _ _ ⟨⟨false,by simp [hc62,hc66],(h67.keep (h67.keep (h67.keep (h67.keep (h67.keep (h67.keep (h67.keep (h67.keep h67.nil (t:=6) rfl) (t:=5) rfl) (t:=4) rfl) (t:=3) rfl) (t:=2) rfl) (t:=0) rfl) (t:=1) rfl) (t:=74) rfl)⟩,rfl⟩
       ·clear h59;rintro a68 _ ⟨⟨d6,hdd6,h68⟩,rfl⟩;replace hdd6:Hid _:=hdd6
        refine cut_k 10 (fun a' w'=>(∃ d7:Bool,d7=(d6 || (!fs && decide ((0:Int) < (al:Int))))∧Fr 137 a' [(84,.bool d7),(1,.agg #[.int .i64 xop,.int .i64 xa,.int .i64 xb,.int .i64 xc,.int .i64 xk,.int .i64 xn,.slice ra rl rc,.slice aa al ac]),(0,.agg #[.slice am lm cm]),(2,.pointer (some ⟨B2,0,none⟩)),(3,.pointer (some ⟨B3,0,none⟩)),(4,.int .i64 0),(5,.pointer (some ⟨B10,0,none⟩)),(6,.bool true)])∧w11=w') (fun KC hKC=>?_) ?_
        ·rcases Bool.eq_false_or_eq_true d6 with hb | hb
         ·rw [hb] at h68
          have hc69:=hb
          clear hb
          refine St.go h68 ?_;clear h68 a68
          refine so hg59 rfl rfl rfl rfl ?_
          refine so hg59 rfl rfl rfl rfl ?_
          refine so hg59 rfl rfl rfl rfl ?_
          refine so hg59 rfl rfl rfl rfl ?_
          refine so hg63 rfl rfl rfl rfl ?_
          refine so hg63 rfl rfl rfl rfl ?_
          refine so hg63 rfl rfl rfl rfl ?_
          refine so hg63 rfl rfl rfl rfl ?_
          refine so hg59 rfl rfl rfl rfl ?_
          refine sp trivial rfl rfl rfl ?_
          refine St.nil fun a70 h70=>?_
          exact hKC _ _ ⟨⟨true,by simp [hc69],(h70.keep (h70.keep (h70.keep (h70.keep (h70.keep (h70.keep (h70.keep (h70.keep h70.nil (t:=6) rfl) (t:=5) rfl) (t:=4) rfl) (t:=3) rfl) (t:=2) rfl) (t:=0) rfl) (t:=1) rfl) (t:=84) rfl)⟩,rfl⟩
         rw [hb] at h68
         have hc71:=hb
         clear hb
         refine St.go h68 ?_;clear h68 a68
         refine sfFields6 ⟨_,hg59,rfl,rfl⟩ rfl rfl ?_
         refine sbBool 0 hW11 ⟨_,hg59,rfl,rfl⟩ rfl rfl rfl rfl ?_
         refine sn ⟨_,hg59,rfl,rfl⟩ rfl rfl ?_
         refine sm ⟨_,hg59,rfl,rfl⟩ rfl rfl ?_
         intro a72 h72
         rcases Bool.eq_false_or_eq_true (!fs) with hb | hb
         ·rw [hb] at h72
          have hc73:fs=false:=by simpa using hb
          clear hb
          refine St.go h72 ?_;clear h72 a72
          refine sfIns7 ⟨_,hg63,rfl,rfl⟩ rfl rfl ?_
          refine sbInts 1 hW11 ⟨_,hg63,rfl,rfl⟩ rfl rfl rfl rfl ?_
          refine slInts ⟨_,hg63,rfl,rfl⟩ rfl rfl ?_
          refine sgt ⟨_,hg63,rfl,rfl⟩ rfl rfl rfl ?_
          refine sp ⟨_,hg59,rfl,rfl⟩ rfl rfl rfl ?_
          refine spf trivial rfl rfl rfl ?_
          refine St.nil fun a74 h74=>?_
          exact hKC _ _ ⟨⟨decide (0 < (al:Int)),by simp [hc71,hc73],(h74.keep (h74.keep (h74.keep (h74.keep (h74.keep (h74.keep (h74.keep (h74.keep h74.nil (t:=6) rfl) (t:=5) rfl) (t:=4) rfl) (t:=3) rfl) (t:=2) rfl) (t:=0) rfl) (t:=1) rfl) (t:=84) rfl)⟩,rfl⟩
         rw [hb] at h72
         have hc75:fs=true:=by simpa using hb
         clear hb
         refine St.go h72 ?_;clear h72 a72
         refine so hg63 rfl rfl rfl rfl ?_
         refine so hg63 rfl rfl rfl rfl ?_
         refine so hg63 rfl rfl rfl rfl ?_
         refine so hg63 rfl rfl rfl rfl ?_
         refine spf ⟨_,hg59,rfl,rfl⟩ rfl rfl rfl ?_
         refine spf trivial rfl rfl rfl ?_
         refine St.nil fun a76 h76=>?_
         exact hKC _ _ ⟨⟨false,by simp [hc71,hc75],(h76.keep (h76.keep (h76.keep (h76.keep (h76.keep (h76.keep (h76.keep (h76.keep h76.nil (t:=6) rfl) (t:=5) rfl) (t:=4) rfl) (t:=3) rfl) (t:=2) rfl) (t:=0) rfl) (t:=1) rfl) (t:=84) rfl)⟩,rfl⟩
        ·clear h68;rintro a77 _ ⟨⟨d7,hdd7,h77⟩,rfl⟩;replace hdd7:Hid _:=hdd7
         refine wpList_nil ?_
         refine hK17 _ _ ?_
         refine fr_cond (t:=84) h77 rfl (fun hb=>?_) (fun hb=>?_)
         ·have hc78:=hb
          clear hb
          refine wp_seq_k fun K79 hK79=>?_
          refine rg h77 fun ops=>?_;clear h77 a77
          refine sa trivial rfl rfl ?_
          refine St.nil fun a80 h80=>?_
          refine hK79 _ _ ?_
          refine wp_ret ?_;with_reducible repeat first | refine of_then_ret ?_ | refine of_block_ret ?_
          have e7:=insForm_d hop hdd1.out hdd2.out hdd3.out hdd4.out hdd5.out hdd6.out hdd7.out (lm:=lm)
          have R:insForm lm xop xa xb xc xk xn rl al=4:=by rw [e7];simp [hc78]
          exact ret_tmp (t:=4) h80 rfl rfl ⟨by rw [R],hW11.bel⟩
         have hc81:=hb
         clear hb
         refine wp_skip ?_
         refine hK16 _ _ ?_
         refine wp_seq_k fun K82 hK82=>?_
         refine wp_seq_k fun K83 hK83=>?_
         refine rg h77 fun ops=>?_;clear h77 a77
         refine sfIns0 trivial rfl rfl ?_
         refine sbInt 1 hW11 trivial rfl rfl rfl rfl ?_
         refine St.nil fun a84 h84=>?_
         refine hK83 _ _ ?_
         refine wp_block ?_
         refine wp_seq_k fun K85 hK85=>?_
         refine rg h84 fun ops=>?_;clear h84 a84
         refine seq trivial rfl rfl rfl ?_
         refine sa trivial rfl rfl ?_
         refine St.nil fun a86 h86=>?_
         refine hK85 _ _ ?_
         refine fr_cond (t:=87) h86 rfl (fun hb=>?_) (fun hb=>?_)
         ·have h9:xop=2:=eq_of_beq hb
          have hc87:Hid (xop=2):=h9
          clear h9
          clear hb
          refine wp_seq_k fun K88 hK88=>?_
          refine fr_region ?_
          intro ops hops
          have hg3:(ops[3]?).bind (fun o:Oper=>o.dst)=some 92:=hops 3
          clear hops
          refine St.go h86 ?_;clear h86 a86
          refine sfIns4 trivial rfl rfl ?_
          refine sbInt 1 hW11 trivial rfl rfl rfl rfl ?_
          refine slt trivial rfl rfl rfl ?_
          refine sm trivial rfl rfl ?_
          intro a89 h89
          rcases Bool.eq_false_or_eq_true (decide (xk < 1)) with hb | hb
          ·rw [hb] at h89
           have hc90:xk < 1:=of_decide_eq_true hb
           clear hb
           refine St.go h89 ?_;clear h89 a89
           refine so hg3 rfl rfl rfl rfl ?_
           refine so hg3 rfl rfl rfl rfl ?_
           refine so hg3 rfl rfl rfl rfl ?_
           refine sp trivial rfl rfl rfl ?_
           refine St.nil fun a91 h91=>?_
           refine hK88 _ _ ?_
           refine fr_true (t:=96) h91 rfl ?_
           refine wp_seq_k fun K92 hK92=>?_
           refine rg h91 fun ops=>?_;clear h91 a91
           refine sa trivial rfl rfl ?_
           refine St.nil fun a93 h93=>?_
           refine hK92 _ _ ?_
           refine wp_ret ?_;with_reducible repeat first | refine of_then_ret ?_ | refine of_block_ret ?_
           have e7:=insForm_d hop hdd1.out hdd2.out hdd3.out hdd4.out hdd5.out hdd6.out hdd7.out (lm:=lm)
           have R:insForm lm xop xa xb xc xk xn rl al=1:=by rw [e7];simp [hc81,hc87.out,hc90]
           exact ret_tmp (t:=4) h93 rfl rfl ⟨by rw [R],hW11.bel⟩
          rw [hb] at h89
          have hc94:¬ (xk < 1):=of_decide_eq_false hb
          clear hb
          refine St.go h89 ?_;clear h89 a89
          refine sfIns4 ⟨_,hg3,rfl,rfl⟩ rfl rfl ?_
          refine sbInt 1 hW11 ⟨_,hg3,rfl,rfl⟩ rfl rfl rfl rfl ?_
          refine sgt ⟨_,hg3,rfl,rfl⟩ rfl rfl rfl ?_
          refine spf trivial rfl rfl rfl ?_
          refine St.nil fun a95 h95=>?_
          refine hK88 _ _ ?_
          refine fr_cond (t:=96) h95 rfl (fun hb=>?_) (fun hb=>?_)
          ·have hc96:9 < xk:=of_decide_eq_true hb
           clear hb
           refine wp_seq_k fun K97 hK97=>?_
           refine rg h95 fun ops=>?_;clear h95 a95
           refine sa trivial rfl rfl ?_
           refine St.nil fun a98 h98=>?_
           refine hK97 _ _ ?_
           refine wp_ret ?_;with_reducible repeat first | refine of_then_ret ?_ | refine of_block_ret ?_
           have e7:=insForm_d hop hdd1.out hdd2.out hdd3.out hdd4.out hdd5.out hdd6.out hdd7.out (lm:=lm)
           have R:insForm lm xop xa xb xc xk xn rl al=1:=by rw [e7];simp [hc81,hc87.out,hc94,hc96]
           exact ret_tmp (t:=4) h98 rfl rfl ⟨by rw [R],hW11.bel⟩
          have hc99:¬ (9 < xk):=of_decide_eq_false hb
          clear hb
          refine wp_skip ?_
          refine hK82 _ _ ?_
          refine wp_seq_k fun K100 hK100=>?_
          refine rg h95 fun ops=>?_;clear h95 a95
          refine sa trivial rfl rfl ?_
          refine St.nil fun a101 h101=>?_
          refine hK100 _ _ ?_
          refine wp_ret ?_;with_reducible repeat first | refine of_then_ret ?_ | refine of_block_ret ?_
          have e7:=insForm_d hop hdd1.out hdd2.out hdd3.out hdd4.out hdd5.out hdd6.out hdd7.out (lm:=lm)
          have R:insForm lm xop xa xb xc xk xn rl al=0:=by rw [e7];simp [hc81,hc87.out,hc94,hc99]
          exact ret_tmp (t:=4) h101 rfl rfl ⟨by rw [R],hW11.bel⟩
         have h9:¬ xop=2:=ne_of_beq_false hb
         have hc102:¬ xop=2:=h9
         clear h9
         clear hb
         refine wp_seq_k fun K103 hK103=>?_
         refine rg h86 fun ops=>?_;clear h86 a86
         refine seq trivial rfl rfl rfl ?_
         refine sa trivial rfl rfl ?_
         refine St.nil fun a104 h104=>?_
         refine hK103 _ _ ?_
         refine fr_cond (t:=97) h104 rfl (fun hb=>?_) (fun hb=>?_)
         ·have h9:xop=5:=eq_of_beq hb
          have hc105:Hid (xop=5):=h9
          clear h9
          clear hb
          refine wp_seq_k fun K106 hK106=>?_
          refine rg h104 fun ops=>?_;clear h104 a104
          refine sfIns7 trivial rfl rfl ?_
          refine sbInts 1 hW11 trivial rfl rfl rfl rfl ?_
          refine slInts trivial rfl rfl ?_
          refine sgt trivial rfl rfl rfl ?_
          refine St.nil fun a107 h107=>?_
          refine hK106 _ _ ?_
          refine fr_cond (t:=102) h107 rfl (fun hb=>?_) (fun hb=>?_)
          ·have hc108:8 < al:=by have:=of_decide_eq_true hb;omega
           clear hb
           refine wp_seq_k fun K109 hK109=>?_
           refine rg h107 fun ops=>?_;clear h107 a107
           refine sa trivial rfl rfl ?_
           refine St.nil fun a110 h110=>?_
           refine hK109 _ _ ?_
           refine wp_ret ?_;with_reducible repeat first | refine of_then_ret ?_ | refine of_block_ret ?_
           have e7:=insForm_d hop hdd1.out hdd2.out hdd3.out hdd4.out hdd5.out hdd6.out hdd7.out (lm:=lm)
           have R:insForm lm xop xa xb xc xk xn rl al=2:=by rw [e7];simp [hc81,hc102,hc105.out,hc108]
           exact ret_tmp (t:=4) h110 rfl rfl ⟨by rw [R],hW11.bel⟩
          have hc111:¬ (8 < al):=by have:=of_decide_eq_false hb;omega
          clear hb
          refine wp_skip ?_
          refine hK82 _ _ ?_
          refine wp_seq_k fun K112 hK112=>?_
          refine rg h107 fun ops=>?_;clear h107 a107
          refine sa trivial rfl rfl ?_
          refine St.nil fun a113 h113=>?_
          refine hK112 _ _ ?_
          refine wp_ret ?_;with_reducible repeat first | refine of_then_ret ?_ | refine of_block_ret ?_
          have e7:=insForm_d hop hdd1.out hdd2.out hdd3.out hdd4.out hdd5.out hdd6.out hdd7.out (lm:=lm)
          have R:insForm lm xop xa xb xc xk xn rl al=0:=by rw [e7];simp [hc81,hc102,hc105.out,hc111]
          exact ret_tmp (t:=4) h113 rfl rfl ⟨by rw [R],hW11.bel⟩
         have h9:¬ xop=5:=ne_of_beq_false hb
         have hc114:¬ xop=5:=h9
         clear h9
         clear hb
         refine wp_seq_k fun K115 hK115=>?_
         refine wp_seq_k fun K116 hK116=>?_
         refine rg h104 fun ops=>?_;clear h104 a104
         refine seq trivial rfl rfl rfl ?_
         refine sa trivial rfl rfl ?_
         refine St.nil fun a117 h117=>?_
         refine hK116 _ _ ?_
         refine fr_cond (t:=103) h117 rfl (fun hb=>?_) (fun hb=>?_)
         ·rw [hb] at h117
          have h9:xop=6:=eq_of_beq hb
          have hc118:Hid (xop=6):=h9
          clear h9
          clear hb
          refine wp_skip ?_
          refine hK115 _ _ ?_
          refine fr_true (t:=103) h117 rfl ?_
          refine wp_seq_k fun K119 hK119=>?_
          refine fr_region ?_
          intro ops hops
          have hg3:(ops[3]?).bind (fun o:Oper=>o.dst)=some 109:=hops 3
          clear hops
          refine St.go h117 ?_;clear h117 a117
          refine sfIns4 trivial rfl rfl ?_
          refine sbInt 1 hW11 trivial rfl rfl rfl rfl ?_
          refine slt trivial rfl rfl rfl ?_
          refine sm trivial rfl rfl ?_
          intro a120 h120
          rcases Bool.eq_false_or_eq_true (decide (xk < 0)) with hb | hb
          ·rw [hb] at h120
           have hc121:xk < 0:=of_decide_eq_true hb
           clear hb
           refine St.go h120 ?_;clear h120 a120
           refine so hg3 rfl rfl rfl rfl ?_
           refine so hg3 rfl rfl rfl rfl ?_
           refine so hg3 rfl rfl rfl rfl ?_
           refine sp trivial rfl rfl rfl ?_
           refine St.nil fun a122 h122=>?_
           refine hK119 _ _ ?_
           refine fr_true (t:=113) h122 rfl ?_
           refine wp_seq_k fun K123 hK123=>?_
           refine rg h122 fun ops=>?_;clear h122 a122
           refine sa trivial rfl rfl ?_
           refine St.nil fun a124 h124=>?_
           refine hK123 _ _ ?_
           refine wp_ret ?_;with_reducible repeat first | refine of_then_ret ?_ | refine of_block_ret ?_
           have e7:=insForm_d hop hdd1.out hdd2.out hdd3.out hdd4.out hdd5.out hdd6.out hdd7.out (lm:=lm)
           have R:insForm lm xop xa xb xc xk xn rl al=1:=by rw [e7];simp [hc81,hc102,hc114,hc118.out,hc121]
           exact ret_tmp (t:=4) h124 rfl rfl ⟨by rw [R],hW11.bel⟩
          rw [hb] at h120
          have hc125:¬ (xk < 0):=of_decide_eq_false hb
          clear hb
          refine St.go h120 ?_;clear h120 a120
          refine sfIns4 ⟨_,hg3,rfl,rfl⟩ rfl rfl ?_
          refine sbInt 1 hW11 ⟨_,hg3,rfl,rfl⟩ rfl rfl rfl rfl ?_
          refine sgt ⟨_,hg3,rfl,rfl⟩ rfl rfl rfl ?_
          refine spf trivial rfl rfl rfl ?_
          refine St.nil fun a126 h126=>?_
          refine hK119 _ _ ?_
          refine fr_cond (t:=113) h126 rfl (fun hb=>?_) (fun hb=>?_)
          ·have hc127:7 < xk:=of_decide_eq_true hb
           clear hb
           refine wp_seq_k fun K128 hK128=>?_
           refine rg h126 fun ops=>?_;clear h126 a126
           refine sa trivial rfl rfl ?_
           refine St.nil fun a129 h129=>?_
           refine hK128 _ _ ?_
           refine wp_ret ?_;with_reducible repeat first | refine of_then_ret ?_ | refine of_block_ret ?_
           have e7:=insForm_d hop hdd1.out hdd2.out hdd3.out hdd4.out hdd5.out hdd6.out hdd7.out (lm:=lm)
           have R:insForm lm xop xa xb xc xk xn rl al=1:=by rw [e7];simp [hc81,hc102,hc114,hc118.out,hc125,hc127]
           exact ret_tmp (t:=4) h129 rfl rfl ⟨by rw [R],hW11.bel⟩
          have hc130:¬ (7 < xk):=of_decide_eq_false hb
          clear hb
          refine wp_skip ?_
          refine hK82 _ _ ?_
          refine wp_seq_k fun K131 hK131=>?_
          refine rg h126 fun ops=>?_;clear h126 a126
          refine sa trivial rfl rfl ?_
          refine St.nil fun a132 h132=>?_
          refine hK131 _ _ ?_
          refine wp_ret ?_;with_reducible repeat first | refine of_then_ret ?_ | refine of_block_ret ?_
          have e7:=insForm_d hop hdd1.out hdd2.out hdd3.out hdd4.out hdd5.out hdd6.out hdd7.out (lm:=lm)
          have R:insForm lm xop xa xb xc xk xn rl al=0:=by rw [e7];simp [hc81,hc102,hc114,hc118.out,hc125,hc130]
          exact ret_tmp (t:=4) h132 rfl rfl ⟨by rw [R],hW11.bel⟩
         rw [hb] at h117
         have h9:¬ xop=6:=ne_of_beq_false hb
         have hc133:¬ xop=6:=h9
         clear h9
         clear hb
         refine rg h117 fun ops=>?_;clear h117 a117
         refine seq trivial rfl rfl rfl ?_
         refine sa trivial rfl rfl ?_
         refine St.nil fun a134 h134=>?_
         refine hK115 _ _ ?_
         refine fr_cond (t:=103) h134 rfl (fun hb=>?_) (fun hb=>?_)
         ·rw [hb] at h134
          have h9:xop=7:=eq_of_beq hb
          have hc135:Hid (xop=7):=h9
          clear h9
          clear hb
          refine wp_seq_k fun K136 hK136=>?_
          refine fr_region ?_
          intro ops hops
          have hg3:(ops[3]?).bind (fun o:Oper=>o.dst)=some 109:=hops 3
          clear hops
          refine St.go h134 ?_;clear h134 a134
          refine sfIns4 trivial rfl rfl ?_
          refine sbInt 1 hW11 trivial rfl rfl rfl rfl ?_
          refine slt trivial rfl rfl rfl ?_
          refine sm trivial rfl rfl ?_
          intro a137 h137
          rcases Bool.eq_false_or_eq_true (decide (xk < 0)) with hb | hb
          ·rw [hb] at h137
           have hc138:xk < 0:=of_decide_eq_true hb
           clear hb
           refine St.go h137 ?_;clear h137 a137
           refine so hg3 rfl rfl rfl rfl ?_
           refine so hg3 rfl rfl rfl rfl ?_
           refine so hg3 rfl rfl rfl rfl ?_
           refine sp trivial rfl rfl rfl ?_
           refine St.nil fun a139 h139=>?_
           refine hK136 _ _ ?_
           refine fr_true (t:=113) h139 rfl ?_
           refine wp_seq_k fun K140 hK140=>?_
           refine rg h139 fun ops=>?_;clear h139 a139
           refine sa trivial rfl rfl ?_
           refine St.nil fun a141 h141=>?_
           refine hK140 _ _ ?_
           refine wp_ret ?_;with_reducible repeat first | refine of_then_ret ?_ | refine of_block_ret ?_
           have e7:=insForm_d hop hdd1.out hdd2.out hdd3.out hdd4.out hdd5.out hdd6.out hdd7.out (lm:=lm)
           have R:insForm lm xop xa xb xc xk xn rl al=1:=by rw [e7];simp [hc81,hc102,hc114,hc133,hc135.out,hc138]
           exact ret_tmp (t:=4) h141 rfl rfl ⟨by rw [R],hW11.bel⟩
          rw [hb] at h137
          have hc142:¬ (xk < 0):=of_decide_eq_false hb
          clear hb
          refine St.go h137 ?_;clear h137 a137
          refine sfIns4 ⟨_,hg3,rfl,rfl⟩ rfl rfl ?_
          refine sbInt 1 hW11 ⟨_,hg3,rfl,rfl⟩ rfl rfl rfl rfl ?_
          refine sgt ⟨_,hg3,rfl,rfl⟩ rfl rfl rfl ?_
          refine spf trivial rfl rfl rfl ?_
          refine St.nil fun a143 h143=>?_
          refine hK136 _ _ ?_
          refine fr_cond (t:=113) h143 rfl (fun hb=>?_) (fun hb=>?_)
          ·have hc144:7 < xk:=of_decide_eq_true hb
           clear hb
           refine wp_seq_k fun K145 hK145=>?_
           refine rg h143 fun ops=>?_;clear h143 a143
           refine sa trivial rfl rfl ?_
           refine St.nil fun a146 h146=>?_
           refine hK145 _ _ ?_
           refine wp_ret ?_;with_reducible repeat first | refine of_then_ret ?_ | refine of_block_ret ?_
           have e7:=insForm_d hop hdd1.out hdd2.out hdd3.out hdd4.out hdd5.out hdd6.out hdd7.out (lm:=lm)
           have R:insForm lm xop xa xb xc xk xn rl al=1:=by rw [e7];simp [hc81,hc102,hc114,hc133,hc135.out,hc142,hc144]
           exact ret_tmp (t:=4) h146 rfl rfl ⟨by rw [R],hW11.bel⟩
          have hc147:¬ (7 < xk):=of_decide_eq_false hb
          clear hb
          refine wp_skip ?_
          refine hK82 _ _ ?_
          refine wp_seq_k fun K148 hK148=>?_
          refine rg h143 fun ops=>?_;clear h143 a143
          refine sa trivial rfl rfl ?_
          refine St.nil fun a149 h149=>?_
          refine hK148 _ _ ?_
          refine wp_ret ?_;with_reducible repeat first | refine of_then_ret ?_ | refine of_block_ret ?_
          have e7:=insForm_d hop hdd1.out hdd2.out hdd3.out hdd4.out hdd5.out hdd6.out hdd7.out (lm:=lm)
          have R:insForm lm xop xa xb xc xk xn rl al=0:=by rw [e7];simp [hc81,hc102,hc114,hc133,hc135.out,hc142,hc147]
          exact ret_tmp (t:=4) h149 rfl rfl ⟨by rw [R],hW11.bel⟩
         rw [hb] at h134
         have h9:¬ xop=7:=ne_of_beq_false hb
         have hc150:¬ xop=7:=h9
         clear h9
         clear hb
         refine wp_seq_k fun K151 hK151=>?_
         refine rg h134 fun ops=>?_;clear h134 a134
         refine seq trivial rfl rfl rfl ?_
         refine sa trivial rfl rfl ?_
         refine St.nil fun a152 h152=>?_
         refine hK151 _ _ ?_
         refine fr_cond (t:=114) h152 rfl (fun hb=>?_) (fun hb=>?_)
         ·have h9:xop=14:=eq_of_beq hb
          have hc153:Hid (xop=14):=h9
          clear h9
          clear hb
          refine wp_seq_k fun K154 hK154=>?_
          refine wp_seq_k fun K155 hK155=>?_
          refine fr_region ?_
          intro ops hops
          have hg3:(ops[3]?).bind (fun o:Oper=>o.dst)=some 119:=hops 3
          clear hops
          refine St.go h152 ?_;clear h152 a152
          refine sfIns4 trivial rfl rfl ?_
          refine sbInt 1 hW11 trivial rfl rfl rfl rfl ?_
          refine slt trivial rfl rfl rfl ?_
          refine sm trivial rfl rfl ?_
          intro a156 h156
          rcases Bool.eq_false_or_eq_true (decide (xk < 0)) with hb | hb
          ·rw [hb] at h156
           have hc157:xk < 0:=of_decide_eq_true hb
           clear hb
           refine St.go h156 ?_;clear h156 a156
           refine so hg3 rfl rfl rfl rfl ?_
           refine so hg3 rfl rfl rfl rfl ?_
           refine so hg3 rfl rfl rfl rfl ?_
           refine so hg3 rfl rfl rfl rfl ?_
           refine so hg3 rfl rfl rfl rfl ?_
           refine so hg3 rfl rfl rfl rfl ?_
           refine sp trivial rfl rfl rfl ?_
           refine St.nil fun a158 h158=>?_
           refine hK155 _ _ ?_
           refine fr_true (t:=126) h158 rfl ?_
           refine wp_seq_k fun K159 hK159=>?_
           refine rg h158 fun ops=>?_;clear h158 a158
           refine sa trivial rfl rfl ?_
           refine St.nil fun a160 h160=>?_
           refine hK159 _ _ ?_
           refine wp_ret ?_;with_reducible repeat first | refine of_then_ret ?_ | refine of_block_ret ?_
           have e7:=insForm_d hop hdd1.out hdd2.out hdd3.out hdd4.out hdd5.out hdd6.out hdd7.out (lm:=lm)
           have R:insForm lm xop xa xb xc xk xn rl al=1:=by rw [e7];simp [hc81,hc102,hc114,hc133,hc150,hc153.out,hc157]
           exact ret_tmp (t:=4) h160 rfl rfl ⟨by rw [R],hW11.bel⟩
          rw [hb] at h156
          have hc161:¬ (xk < 0):=of_decide_eq_false hb
          clear hb
          refine St.go h156 ?_;clear h156 a156
          refine sfIns4 ⟨_,hg3,rfl,rfl⟩ rfl rfl ?_
          refine sbInt 1 hW11 ⟨_,hg3,rfl,rfl⟩ rfl rfl rfl rfl ?_
          refine sfModule0 ⟨_,hg3,rfl,rfl⟩ rfl rfl ?_
          refine sbFuncs 2 hW11 ⟨_,hg3,rfl,rfl⟩ rfl rfl rfl rfl ?_
          refine slFuncs ⟨_,hg3,rfl,rfl⟩ rfl rfl ?_
          refine sge ⟨_,hg3,rfl,rfl⟩ rfl rfl rfl ?_
          refine spf trivial rfl rfl rfl ?_
          refine St.nil fun a162 h162=>?_
          refine hK155 _ _ ?_
          refine fr_cond (t:=126) h162 rfl (fun hb=>?_) (fun hb=>?_)
          ·have hc163:(lm:Int)≤xk:=of_decide_eq_true hb
           clear hb
           refine wp_seq_k fun K164 hK164=>?_
           refine rg h162 fun ops=>?_;clear h162 a162
           refine sa trivial rfl rfl ?_
           refine St.nil fun a165 h165=>?_
           refine hK164 _ _ ?_
           refine wp_ret ?_;with_reducible repeat first | refine of_then_ret ?_ | refine of_block_ret ?_
           have e7:=insForm_d hop hdd1.out hdd2.out hdd3.out hdd4.out hdd5.out hdd6.out hdd7.out (lm:=lm)
           have R:insForm lm xop xa xb xc xk xn rl al=1:=by rw [e7];simp [hc81,hc102,hc114,hc133,hc150,hc153.out,hc161,hc163]
           exact ret_tmp (t:=4) h165 rfl rfl ⟨by rw [R],hW11.bel⟩
          have hc166:¬ ((lm:Int)≤xk):=of_decide_eq_false hb
          clear hb
          refine wp_skip ?_
          refine hK154 _ _ ?_
          refine wp_seq_k fun K167 hK167=>?_
          refine fr_region ?_
          intro ops hops
          have hg4:(ops[4]?).bind (fun o:Oper=>o.dst)=some 131:=hops 4
          clear hops
          refine St.go h162 ?_;clear h162 a162
          refine sfIns6 trivial rfl rfl ?_
          refine sbInts 1 hW11 trivial rfl rfl rfl rfl ?_
          refine slInts trivial rfl rfl ?_
          refine sgt trivial rfl rfl rfl ?_
          refine sm trivial rfl rfl ?_
          intro a168 h168
          rcases Bool.eq_false_or_eq_true (decide (6 < (rl:Int))) with hb | hb
          ·rw [hb] at h168
           have hc169:6 < rl:=by have:=of_decide_eq_true hb;omega
           clear hb
           refine St.go h168 ?_;clear h168 a168
           refine so hg4 rfl rfl rfl rfl ?_
           refine so hg4 rfl rfl rfl rfl ?_
           refine so hg4 rfl rfl rfl rfl ?_
           refine so hg4 rfl rfl rfl rfl ?_
           refine sp trivial rfl rfl rfl ?_
           refine St.nil fun a170 h170=>?_
           refine hK167 _ _ ?_
           refine fr_true (t:=136) h170 rfl ?_
           refine wp_seq_k fun K171 hK171=>?_
           refine rg h170 fun ops=>?_;clear h170 a170
           refine sa trivial rfl rfl ?_
           refine St.nil fun a172 h172=>?_
           refine hK171 _ _ ?_
           refine wp_ret ?_;with_reducible repeat first | refine of_then_ret ?_ | refine of_block_ret ?_
           have e7:=insForm_d hop hdd1.out hdd2.out hdd3.out hdd4.out hdd5.out hdd6.out hdd7.out (lm:=lm)
           have R:insForm lm xop xa xb xc xk xn rl al=2:=by rw [e7];simp [hc81,hc102,hc114,hc133,hc150,hc153.out,hc161,hc166,hc169]
           exact ret_tmp (t:=4) h172 rfl rfl ⟨by rw [R],hW11.bel⟩
          rw [hb] at h168
          have hc173:¬ (6 < rl):=by have:=of_decide_eq_false hb;omega
          clear hb
          refine St.go h168 ?_;clear h168 a168
          refine sfIns7 ⟨_,hg4,rfl,rfl⟩ rfl rfl ?_
          refine sbInts 1 hW11 ⟨_,hg4,rfl,rfl⟩ rfl rfl rfl rfl ?_
          refine slInts ⟨_,hg4,rfl,rfl⟩ rfl rfl ?_
          refine sgt ⟨_,hg4,rfl,rfl⟩ rfl rfl rfl ?_
          refine spf trivial rfl rfl rfl ?_
          refine St.nil fun a174 h174=>?_
          refine hK167 _ _ ?_
          refine fr_cond (t:=136) h174 rfl (fun hb=>?_) (fun hb=>?_)
          ·have hc175:8 < al:=by have:=of_decide_eq_true hb;omega
           clear hb
           refine wp_seq_k fun K176 hK176=>?_
           refine rg h174 fun ops=>?_;clear h174 a174
           refine sa trivial rfl rfl ?_
           refine St.nil fun a177 h177=>?_
           refine hK176 _ _ ?_
           refine wp_ret ?_;with_reducible repeat first | refine of_then_ret ?_ | refine of_block_ret ?_
           have e7:=insForm_d hop hdd1.out hdd2.out hdd3.out hdd4.out hdd5.out hdd6.out hdd7.out (lm:=lm)
           have R:insForm lm xop xa xb xc xk xn rl al=2:=by rw [e7];simp [hc81,hc102,hc114,hc133,hc150,hc153.out,hc161,hc166,hc173,hc175]
           exact ret_tmp (t:=4) h177 rfl rfl ⟨by rw [R],hW11.bel⟩
          have hc178:¬ (8 < al):=by have:=of_decide_eq_false hb;omega
          clear hb
          refine wp_skip ?_
          refine hK82 _ _ ?_
          refine wp_seq_k fun K179 hK179=>?_
          refine rg h174 fun ops=>?_;clear h174 a174
          refine sa trivial rfl rfl ?_
          refine St.nil fun a180 h180=>?_
          refine hK179 _ _ ?_
          refine wp_ret ?_;with_reducible repeat first | refine of_then_ret ?_ | refine of_block_ret ?_
          have e7:=insForm_d hop hdd1.out hdd2.out hdd3.out hdd4.out hdd5.out hdd6.out hdd7.out (lm:=lm)
          have R:insForm lm xop xa xb xc xk xn rl al=0:=by rw [e7];simp [hc81,hc102,hc114,hc133,hc150,hc153.out,hc161,hc166,hc173,hc178]
          exact ret_tmp (t:=4) h180 rfl rfl ⟨by rw [R],hW11.bel⟩
         have h9:¬ xop=14:=ne_of_beq_false hb
         have hc181:¬ xop=14:=h9
         clear h9
         clear hb
         refine wp_skip ?_
         refine hK82 _ _ ?_
         refine wp_seq_k fun K182 hK182=>?_
         refine rg h152 fun ops=>?_;clear h152 a152
         refine sa trivial rfl rfl ?_
         refine St.nil fun a183 h183=>?_
         refine hK182 _ _ ?_
         refine wp_ret ?_;with_reducible repeat first | refine of_then_ret ?_ | refine of_block_ret ?_
         have e7:=insForm_d hop hdd1.out hdd2.out hdd3.out hdd4.out hdd5.out hdd6.out hdd7.out (lm:=lm)
         have R:insForm lm xop xa xb xc xk xn rl al=0:=by rw [e7];simp [hc81,hc102,hc114,hc133,hc150,hc181]
         exact ret_tmp (t:=4) h183 rfl rfl ⟨by rw [R],hW11.bel⟩
theorem insFNo {xop : Int} (hop : fieldsOf xop = none) (xa xb xc xk xn : Int) (am ra aa : Option Addr) (lm cm rl rc al ac : Nat) (w : World) :
    Rd Tryz.prog 56 #[.agg #[.slice am lm cm],.agg #[.int .i64 xop,.int .i64 xa,.int .i64 xb,.int .i64 xc,.int .i64 xk,.int .i64 xn,.slice ra rl rc,.slice aa al ac]] w (.int .i64 (insForm lm xop xa xb xc xk xn rl al)):=by
  refine fr_enter (n:=137) Tryz.func56 rfl rfl rfl ?_
  intro a hF
  have hW:=Wd.start w
  replace hF:Fr 137 a [(0,.agg #[.slice am lm cm]),(1,.agg #[.int .i64 xop,.int .i64 xa,.int .i64 xb,.int .i64 xc,.int .i64 xk,.int .i64 xn,.slice ra rl rc,.slice aa al ac])]:=hF
  refine wp_seq_k fun K1 hK1=>?_
  refine rg hF fun ops=>?_;clear hF a
  refine sB hW trivial rfl rfl ?_
  clear hW;intro w2 B2 hW2 hN;clear hN
  refine sB hW2 trivial rfl rfl ?_
  clear hW2;intro w3 B3 hW3 hN;clear hN
  refine sa trivial rfl rfl ?_
  refine St.nil fun a4 h4=>?_
  refine hK1 _ _ ?_
  refine wp_seq_k fun K5 hK5=>?_
  refine rg h4 fun ops=>?_;clear h4 a4
  refine sfIns0 trivial rfl rfl ?_
  refine sbInt 0 hW3 trivial rfl rfl rfl rfl ?_
  refine sc_1 cf81 hW3 (rdFieldsNo hop w3) trivial rfl rfl ?_
  clear hW3;intro w6 hW6
  refine sm trivial rfl rfl ?_
  intro a7 h7
  refine fr_pure (t:=11) (v:=.agg #[.bool false,.bool false,.bool false,.bool false,.bool false,.bool false,.bool false]) (w':=w6) h7 rfl rfl rfl (fun K hK=>?_) ?_
  ·have k0:a7.tmps.getD 7 undef=.tuple #[.agg #[.bool false,.bool false,.bool false,.bool false,.bool false,.bool false,.bool false],.bool false]:=h7.sl 7 _ rfl
   go_simp
   exact hK
  clear h7;intro a8 hF8
  refine fr_pure (t:=12) (v:=.bool false) (w':=w6) hF8 rfl rfl rfl (fun K hK=>?_) ?_
  ·have k0:a8.tmps.getD 7 undef=.tuple #[.agg #[.bool false,.bool false,.bool false,.bool false,.bool false,.bool false,.bool false],.bool false]:=hF8.sl 7 _ rfl
   go_simp
   exact hK
  clear hF8;intro a9 hF9
  refine St.go hF9 ?_;clear hF9 a9
  refine sAFields hW6 trivial rfl ?_
  clear hW6;intro w10 B10 hW10 hN;clear hN
  refine sT 0 hW10 rfl rfl infFields rfl rfl rfl ?_
  clear hW10;intro w11 hW11
  refine sa trivial rfl rfl ?_
  refine St.nil fun a12 h12=>?_
  refine hK5 _ _ ?_
  refine wp_seq_k fun K13 hK13=>?_
  refine wp_seq_k fun K14 hK14=>?_
  refine rg h12 fun ops=>?_;clear h12 a12
  refine sm trivial rfl rfl ?_
  refine sn trivial rfl rfl ?_
  refine St.nil fun a15 h15=>?_
  refine hK14 _ _ ?_
  refine fr_true (t:=14) h15 rfl ?_
  refine wp_seq_k fun K16 hK16=>?_
  refine rg h15 fun ops=>?_;clear h15 a15
  refine sa trivial rfl rfl ?_
  refine St.nil fun a17 h17=>?_
  refine hK16 _ _ ?_
  refine wp_ret ?_;with_reducible repeat first | refine of_then_ret ?_ | refine of_block_ret ?_
  have R:insForm lm xop xa xb xc xk xn rl al=3:=by simp [insForm,hop]
  exact ret_tmp (t:=4) h17 rfl rfl ⟨by rw [R],hW11.bel⟩
theorem insForm_any (funcs : Nat) (x : MIns) (i : IP) (am : Option Addr) (cm : Nat) (w : World) :
    Rd Tryz.prog 56 #[.agg #[.slice am funcs cm],.agg #[.int .i64 x.op,.int .i64 x.a,.int .i64 x.b,.int .i64 x.c,.int .i64 x.k,.int .i64 x.n,.slice i.pR x.regs.length i.cR,.slice i.pA x.args.length i.cA]] w (.int .i64 (x.form funcs)):=by
  rw [MIns.form_eq]
  cases h:fieldsOf x.op with
  | none=>exact insFNo h _ _ _ _ _ _ _ _ _ _ _ _ _ _ _
  | some p=>obtain ⟨a,b,c,k,n,r,s⟩:=p;exact insFSome h _ _ _ _ _ _ _ _ _ _ _ _ _ _ _
theorem wf1 {xa xb xc xk xn : Int} {ra aa : Option Addr} {rl rc al ac : Nat} {w : World} :
    Rd Tryz.prog 120 #[.agg #[.int .i64 1,.int .i64 xa,.int .i64 xb,.int .i64 xc,.int .i64 xk,.int .i64 xn,.slice ra rl rc,.slice aa al ac]] w (.tuple #[.agg #[.int .i64 1,.int .i64 xa,.int .i64 xb,.int .i64 xc,.int .i64 xk,.int .i64 0,.slice ra rl rc,.slice aa al ac],.bool true]):=by
  refine fr_enter (n:=48) Tryz.func120 rfl rfl rfl ?_
  intro a hF
  have hW:=Wd.start w
  replace hF:Fr 48 a [(0,.agg #[.int .i64 1,.int .i64 xa,.int .i64 xb,.int .i64 xc,.int .i64 xk,.int .i64 xn,.slice ra rl rc,.slice aa al ac])]:=hF
  refine wp_seq_k fun K1 hK1=>?_
  refine rg hF fun ops=>?_;clear hF a
  refine sB hW trivial rfl rfl ?_
  clear hW;intro w2 B2 hW2 hN;clear hN
  refine sAIns hW2 trivial rfl ?_
  clear hW2;intro w3 B3 hW3 hN;clear hN
  refine sa trivial rfl rfl ?_
  refine St.nil fun a4 h4=>?_
  refine hK1 _ _ ?_
  refine wp_seq_k fun K5 hK5=>?_
  refine wp_seq_k fun K6 hK6=>?_
  refine rg h4 fun ops=>?_;clear h4 a4
  refine sfIns0 trivial rfl rfl ?_
  refine sbInt 1 hW3 trivial rfl rfl rfl rfl ?_
  refine St.nil fun a7 h7=>?_
  refine hK6 _ _ ?_
  refine wp_block ?_
  refine wp_seq_k fun K8 hK8=>?_
  refine rg h7 fun ops=>?_;clear h7 a7
  intro a9 h9
  refine fr_pure (t:=8) (v:=.bool true) (w':=w3) h9 rfl rfl rfl (fun K hK=>?_) ?_
  ·have k0:a9.tmps.getD 5 undef=.int .i64 1:=h9.sl 5 _ rfl
   go_simp
   exact hK
  clear h9;intro a10 hF10
  refine St.go hF10 ?_;clear hF10 a10
  refine sa trivial rfl rfl ?_
  refine St.nil fun a11 h11=>?_
  refine hK8 _ _ ?_
  refine fr_true (t:=7) h11 rfl ?_
  refine rg h11 fun ops=>?_;clear h11 a11
  refine sfIns5 trivial rfl rfl ?_
  refine s1 1 inf1Int6 hW3 rfl rfl rfl rfl rfl rfl ?_
  clear hW3;intro w12 hW12
  refine St.nil fun a13 h13=>?_
  refine hK5 _ _ ?_
  refine wp_seq_k fun K14 hK14=>?_
  refine rg h13 fun ops=>?_;clear h13 a13
  refine sS 1 8 Tryz.underlying41 rfl infIns hW12 trivial rfl rfl rfl rfl ?_
  refine sT 0 hW12 rfl rfl infIns rfl rfl rfl ?_
  clear hW12;intro w15 hW15
  refine sa trivial rfl rfl ?_
  refine St.nil fun a16 h16=>?_
  refine hK14 _ _ ?_
  refine wp_ret ?_;with_reducible repeat first | refine of_then_ret ?_ | refine of_block_ret ?_
  have k0:a16.tmps[2]?.getD undef=.pointer (some ⟨B3,0,none⟩):=h16.sl2 2 _ rfl
  have k1:a16.tmps[3]?.getD undef=.bool true:=h16.sl2 3 _ rfl
  have c0:w15.cell? ⟨B3,0,none⟩=some (.int .i64 1):=cellOf (hW15.get 0 rfl) 0 _ rfl
  have c1:w15.cell? ⟨B3,1,none⟩=some (.int .i64 xa):=cellOf (hW15.get 0 rfl) 1 _ rfl
  have c2:w15.cell? ⟨B3,2,none⟩=some (.int .i64 xb):=cellOf (hW15.get 0 rfl) 2 _ rfl
  have c3:w15.cell? ⟨B3,3,none⟩=some (.int .i64 xc):=cellOf (hW15.get 0 rfl) 3 _ rfl
  have c4:w15.cell? ⟨B3,4,none⟩=some (.int .i64 xk):=cellOf (hW15.get 0 rfl) 4 _ rfl
  have c5:w15.cell? ⟨B3,5,none⟩=some (.int .i64 0):=cellOf (hW15.get 0 rfl) 5 _ rfl
  have c6:w15.cell? ⟨B3,6,none⟩=some (.slice ra rl rc):=cellOf (hW15.get 0 rfl) 6 _ rfl
  have c7:w15.cell? ⟨B3,7,none⟩=some (.slice aa al ac):=cellOf (hW15.get 0 rfl) 7 _ rfl
  exact bodyPost_ret (v:=.tuple #[.agg #[.int .i64 1,.int .i64 xa,.int .i64 xb,.int .i64 xc,.int .i64 xk,.int .i64 0,.slice ra rl rc,.slice aa al ac],.bool true]) (by simp [results,Tryz.results120,go_sem,k0,k1,c0,c1,c2,c3,c4,c5,c6,c7]) h16.defers ⟨rfl,hW15.bel⟩
theorem wf2 {xa xb xc xk xn : Int} {ra aa : Option Addr} {rl rc al ac : Nat} {w : World} :
    Rd Tryz.prog 120 #[.agg #[.int .i64 2,.int .i64 xa,.int .i64 xb,.int .i64 xc,.int .i64 xk,.int .i64 xn,.slice ra rl rc,.slice aa al ac]] w (.tuple #[.agg #[.int .i64 2,.int .i64 0,.int .i64 0,.int .i64 xc,.int .i64 0,.int .i64 xn,.slice ra rl rc,.slice aa al ac],.bool true]):=by
  refine fr_enter (n:=48) Tryz.func120 rfl rfl rfl ?_
  intro a hF
  have hW:=Wd.start w
  replace hF:Fr 48 a [(0,.agg #[.int .i64 2,.int .i64 xa,.int .i64 xb,.int .i64 xc,.int .i64 xk,.int .i64 xn,.slice ra rl rc,.slice aa al ac])]:=hF
  refine wp_seq_k fun K1 hK1=>?_
  refine rg hF fun ops=>?_;clear hF a
  refine sB hW trivial rfl rfl ?_
  clear hW;intro w2 B2 hW2 hN;clear hN
  refine sAIns hW2 trivial rfl ?_
  clear hW2;intro w3 B3 hW3 hN;clear hN
  refine sa trivial rfl rfl ?_
  refine St.nil fun a4 h4=>?_
  refine hK1 _ _ ?_
  refine wp_seq_k fun K5 hK5=>?_
  refine wp_seq_k fun K6 hK6=>?_
  refine rg h4 fun ops=>?_;clear h4 a4
  refine sfIns0 trivial rfl rfl ?_
  refine sbInt 1 hW3 trivial rfl rfl rfl rfl ?_
  refine St.nil fun a7 h7=>?_
  refine hK6 _ _ ?_
  refine wp_block ?_
  refine wp_seq_k fun K8 hK8=>?_
  refine rg h7 fun ops=>?_;clear h7 a7
  refine seq trivial rfl rfl rfl ?_
  refine sa trivial rfl rfl ?_
  refine St.nil fun a9 h9=>?_
  refine hK8 _ _ ?_
  refine fr_false (t:=7) h9 rfl ?_
  refine wp_seq_k fun K10 hK10=>?_
  refine wp_seq_k fun K11 hK11=>?_
  refine rg h9 fun ops=>?_;clear h9 a9
  refine seq trivial rfl rfl rfl ?_
  refine sa trivial rfl rfl ?_
  refine St.nil fun a12 h12=>?_
  refine hK11 _ _ ?_
  refine fr_false (t:=10) h12 rfl ?_
  refine rg h12 fun ops=>?_;clear h12 a12
  refine seq trivial rfl rfl rfl ?_
  refine sa trivial rfl rfl ?_
  refine St.nil fun a13 h13=>?_
  refine hK10 _ _ ?_
  refine fr_false (t:=10) h13 rfl ?_
  refine wp_seq_k fun K14 hK14=>?_
  refine wp_seq_k fun K15 hK15=>?_
  refine rg h13 fun ops=>?_;clear h13 a13
  refine seq trivial rfl rfl rfl ?_
  refine sa trivial rfl rfl ?_
  refine St.nil fun a16 h16=>?_
  refine hK15 _ _ ?_
  refine fr_false (t:=13) h16 rfl ?_
  refine wp_seq_k fun K17 hK17=>?_
  refine rg h16 fun ops=>?_;clear h16 a16
  refine seq trivial rfl rfl rfl ?_
  refine sa trivial rfl rfl ?_
  refine St.nil fun a18 h18=>?_
  refine hK17 _ _ ?_
  refine fr_false (t:=13) h18 rfl ?_
  refine rg h18 fun ops=>?_;clear h18 a18
  refine seq trivial rfl rfl rfl ?_
  refine sa trivial rfl rfl ?_
  refine St.nil fun a19 h19=>?_
  refine hK14 _ _ ?_
  refine fr_false (t:=13) h19 rfl ?_
  refine wp_seq_k fun K20 hK20=>?_
  refine wp_seq_k fun K21 hK21=>?_
  refine rg h19 fun ops=>?_;clear h19 a19
  refine seq trivial rfl rfl rfl ?_
  refine sa trivial rfl rfl ?_
  refine St.nil fun a22 h22=>?_
  refine hK21 _ _ ?_
  refine fr_false (t:=18) h22 rfl ?_
  refine rg h22 fun ops=>?_;clear h22 a22
  refine seq trivial rfl rfl rfl ?_
  refine sa trivial rfl rfl ?_
  refine St.nil fun a23 h23=>?_
  refine hK20 _ _ ?_
  refine fr_false (t:=18) h23 rfl ?_
  refine wp_seq_k fun K24 hK24=>?_
  refine rg h23 fun ops=>?_;clear h23 a23
  refine seq trivial rfl rfl rfl ?_
  refine sa trivial rfl rfl ?_
  refine St.nil fun a25 h25=>?_
  refine hK24 _ _ ?_
  refine fr_false (t:=23) h25 rfl ?_
  refine wp_seq_k fun K26 hK26=>?_
  refine wp_seq_k fun K27 hK27=>?_
  refine rg h25 fun ops=>?_;clear h25 a25
  intro a28 h28
  refine fr_pure (t:=29) (v:=.bool true) (w':=w3) h28 rfl rfl rfl (fun K hK=>?_) ?_
  ·have k0:a28.tmps.getD 5 undef=.int .i64 2:=h28.sl 5 _ rfl
   go_simp
   exact hK
  clear h28;intro a29 hF29
  refine St.go hF29 ?_;clear hF29 a29
  refine sa trivial rfl rfl ?_
  refine St.nil fun a30 h30=>?_
  refine hK27 _ _ ?_
  refine fr_true (t:=28) h30 rfl ?_
  refine wp_skip ?_
  refine hK26 _ _ ?_
  refine fr_true (t:=28) h30 rfl ?_
  refine rg h30 fun ops=>?_;clear h30 a30
  refine sfIns1 trivial rfl rfl ?_
  refine s1 1 inf1Int hW3 rfl rfl rfl rfl rfl rfl ?_
  clear hW3;intro w31 hW31
  refine sfIns2 trivial rfl rfl ?_
  refine s1 1 inf1Int hW31 rfl rfl rfl rfl rfl rfl ?_
  clear hW31;intro w32 hW32
  refine sfIns4 trivial rfl rfl ?_
  refine s1 1 inf1Int hW32 rfl rfl rfl rfl rfl rfl ?_
  clear hW32;intro w33 hW33
  refine St.nil fun a34 h34=>?_
  refine hK5 _ _ ?_
  refine wp_seq_k fun K35 hK35=>?_
  refine rg h34 fun ops=>?_;clear h34 a34
  refine sS 1 8 Tryz.underlying41 rfl infIns hW33 trivial rfl rfl rfl rfl ?_
  refine sT 0 hW33 rfl rfl infIns rfl rfl rfl ?_
  clear hW33;intro w36 hW36
  refine sa trivial rfl rfl ?_
  refine St.nil fun a37 h37=>?_
  refine hK35 _ _ ?_
  refine wp_ret ?_;with_reducible repeat first | refine of_then_ret ?_ | refine of_block_ret ?_
  have k0:a37.tmps[2]?.getD undef=.pointer (some ⟨B3,0,none⟩):=h37.sl2 2 _ rfl
  have k1:a37.tmps[3]?.getD undef=.bool true:=h37.sl2 3 _ rfl
  have c0:w36.cell? ⟨B3,0,none⟩=some (.int .i64 2):=cellOf (hW36.get 0 rfl) 0 _ rfl
  have c1:w36.cell? ⟨B3,1,none⟩=some (.int .i64 0):=cellOf (hW36.get 0 rfl) 1 _ rfl
  have c2:w36.cell? ⟨B3,2,none⟩=some (.int .i64 0):=cellOf (hW36.get 0 rfl) 2 _ rfl
  have c3:w36.cell? ⟨B3,3,none⟩=some (.int .i64 xc):=cellOf (hW36.get 0 rfl) 3 _ rfl
  have c4:w36.cell? ⟨B3,4,none⟩=some (.int .i64 0):=cellOf (hW36.get 0 rfl) 4 _ rfl
  have c5:w36.cell? ⟨B3,5,none⟩=some (.int .i64 xn):=cellOf (hW36.get 0 rfl) 5 _ rfl
  have c6:w36.cell? ⟨B3,6,none⟩=some (.slice ra rl rc):=cellOf (hW36.get 0 rfl) 6 _ rfl
  have c7:w36.cell? ⟨B3,7,none⟩=some (.slice aa al ac):=cellOf (hW36.get 0 rfl) 7 _ rfl
  exact bodyPost_ret (v:=.tuple #[.agg #[.int .i64 2,.int .i64 0,.int .i64 0,.int .i64 xc,.int .i64 0,.int .i64 xn,.slice ra rl rc,.slice aa al ac],.bool true]) (by simp [results,Tryz.results120,go_sem,k0,k1,c0,c1,c2,c3,c4,c5,c6,c7]) h37.defers ⟨rfl,hW36.bel⟩
theorem wf3 {xa xb xc xk xn : Int} {ra aa : Option Addr} {rl rc al ac : Nat} {w : World} :
    Rd Tryz.prog 120 #[.agg #[.int .i64 3,.int .i64 xa,.int .i64 xb,.int .i64 xc,.int .i64 xk,.int .i64 xn,.slice ra rl rc,.slice aa al ac]] w (.tuple #[.agg #[.int .i64 3,.int .i64 xa,.int .i64 xb,.int .i64 xc,.int .i64 xk,.int .i64 xn,.slice ra rl rc,.slice aa al ac],.bool true]):=by
  refine fr_enter (n:=48) Tryz.func120 rfl rfl rfl ?_
  intro a hF
  have hW:=Wd.start w
  replace hF:Fr 48 a [(0,.agg #[.int .i64 3,.int .i64 xa,.int .i64 xb,.int .i64 xc,.int .i64 xk,.int .i64 xn,.slice ra rl rc,.slice aa al ac])]:=hF
  refine wp_seq_k fun K1 hK1=>?_
  refine rg hF fun ops=>?_;clear hF a
  refine sB hW trivial rfl rfl ?_
  clear hW;intro w2 B2 hW2 hN;clear hN
  refine sAIns hW2 trivial rfl ?_
  clear hW2;intro w3 B3 hW3 hN;clear hN
  refine sa trivial rfl rfl ?_
  refine St.nil fun a4 h4=>?_
  refine hK1 _ _ ?_
  refine wp_seq_k fun K5 hK5=>?_
  refine wp_seq_k fun K6 hK6=>?_
  refine rg h4 fun ops=>?_;clear h4 a4
  refine sfIns0 trivial rfl rfl ?_
  refine sbInt 1 hW3 trivial rfl rfl rfl rfl ?_
  refine St.nil fun a7 h7=>?_
  refine hK6 _ _ ?_
  refine wp_block ?_
  refine wp_seq_k fun K8 hK8=>?_
  refine rg h7 fun ops=>?_;clear h7 a7
  refine seq trivial rfl rfl rfl ?_
  refine sa trivial rfl rfl ?_
  refine St.nil fun a9 h9=>?_
  refine hK8 _ _ ?_
  refine fr_false (t:=7) h9 rfl ?_
  refine wp_seq_k fun K10 hK10=>?_
  refine wp_seq_k fun K11 hK11=>?_
  refine rg h9 fun ops=>?_;clear h9 a9
  intro a12 h12
  refine fr_pure (t:=11) (v:=.bool true) (w':=w3) h12 rfl rfl rfl (fun K hK=>?_) ?_
  ·have k0:a12.tmps.getD 5 undef=.int .i64 3:=h12.sl 5 _ rfl
   go_simp
   exact hK
  clear h12;intro a13 hF13
  refine St.go hF13 ?_;clear hF13 a13
  refine sa trivial rfl rfl ?_
  refine St.nil fun a14 h14=>?_
  refine hK11 _ _ ?_
  refine fr_true (t:=10) h14 rfl ?_
  refine wp_skip ?_
  refine hK10 _ _ ?_
  refine fr_true (t:=10) h14 rfl ?_
  refine wp_skip ?_
  refine hK5 _ _ ?_
  refine wp_seq_k fun K15 hK15=>?_
  refine rg h14 fun ops=>?_;clear h14 a14
  refine sS 1 8 Tryz.underlying41 rfl infIns hW3 trivial rfl rfl rfl rfl ?_
  refine sT 0 hW3 rfl rfl infIns rfl rfl rfl ?_
  clear hW3;intro w16 hW16
  refine sa trivial rfl rfl ?_
  refine St.nil fun a17 h17=>?_
  refine hK15 _ _ ?_
  refine wp_ret ?_;with_reducible repeat first | refine of_then_ret ?_ | refine of_block_ret ?_
  have k0:a17.tmps[2]?.getD undef=.pointer (some ⟨B3,0,none⟩):=h17.sl2 2 _ rfl
  have k1:a17.tmps[3]?.getD undef=.bool true:=h17.sl2 3 _ rfl
  have c0:w16.cell? ⟨B3,0,none⟩=some (.int .i64 3):=cellOf (hW16.get 0 rfl) 0 _ rfl
  have c1:w16.cell? ⟨B3,1,none⟩=some (.int .i64 xa):=cellOf (hW16.get 0 rfl) 1 _ rfl
  have c2:w16.cell? ⟨B3,2,none⟩=some (.int .i64 xb):=cellOf (hW16.get 0 rfl) 2 _ rfl
  have c3:w16.cell? ⟨B3,3,none⟩=some (.int .i64 xc):=cellOf (hW16.get 0 rfl) 3 _ rfl
  have c4:w16.cell? ⟨B3,4,none⟩=some (.int .i64 xk):=cellOf (hW16.get 0 rfl) 4 _ rfl
  have c5:w16.cell? ⟨B3,5,none⟩=some (.int .i64 xn):=cellOf (hW16.get 0 rfl) 5 _ rfl
  have c6:w16.cell? ⟨B3,6,none⟩=some (.slice ra rl rc):=cellOf (hW16.get 0 rfl) 6 _ rfl
  have c7:w16.cell? ⟨B3,7,none⟩=some (.slice aa al ac):=cellOf (hW16.get 0 rfl) 7 _ rfl
  exact bodyPost_ret (v:=.tuple #[.agg #[.int .i64 3,.int .i64 xa,.int .i64 xb,.int .i64 xc,.int .i64 xk,.int .i64 xn,.slice ra rl rc,.slice aa al ac],.bool true]) (by simp [results,Tryz.results120,go_sem,k0,k1,c0,c1,c2,c3,c4,c5,c6,c7]) h17.defers ⟨rfl,hW16.bel⟩
theorem wf4 {xa xb xc xk xn : Int} {ra aa : Option Addr} {rl rc al ac : Nat} {w : World} :
    Rd Tryz.prog 120 #[.agg #[.int .i64 4,.int .i64 xa,.int .i64 xb,.int .i64 xc,.int .i64 xk,.int .i64 xn,.slice ra rl rc,.slice aa al ac]] w (.tuple #[.agg #[.int .i64 4,.int .i64 0,.int .i64 xb,.int .i64 xc,.int .i64 xk,.int .i64 xn,.slice ra rl rc,.slice aa al ac],.bool true]):=by
  refine fr_enter (n:=48) Tryz.func120 rfl rfl rfl ?_
  intro a hF
  have hW:=Wd.start w
  replace hF:Fr 48 a [(0,.agg #[.int .i64 4,.int .i64 xa,.int .i64 xb,.int .i64 xc,.int .i64 xk,.int .i64 xn,.slice ra rl rc,.slice aa al ac])]:=hF
  refine wp_seq_k fun K1 hK1=>?_
  refine rg hF fun ops=>?_;clear hF a
  refine sB hW trivial rfl rfl ?_
  clear hW;intro w2 B2 hW2 hN;clear hN
  refine sAIns hW2 trivial rfl ?_
  clear hW2;intro w3 B3 hW3 hN;clear hN
  refine sa trivial rfl rfl ?_
  refine St.nil fun a4 h4=>?_
  refine hK1 _ _ ?_
  refine wp_seq_k fun K5 hK5=>?_
  refine wp_seq_k fun K6 hK6=>?_
  refine rg h4 fun ops=>?_;clear h4 a4
  refine sfIns0 trivial rfl rfl ?_
  refine sbInt 1 hW3 trivial rfl rfl rfl rfl ?_
  refine St.nil fun a7 h7=>?_
  refine hK6 _ _ ?_
  refine wp_block ?_
  refine wp_seq_k fun K8 hK8=>?_
  refine rg h7 fun ops=>?_;clear h7 a7
  refine seq trivial rfl rfl rfl ?_
  refine sa trivial rfl rfl ?_
  refine St.nil fun a9 h9=>?_
  refine hK8 _ _ ?_
  refine fr_false (t:=7) h9 rfl ?_
  refine wp_seq_k fun K10 hK10=>?_
  refine wp_seq_k fun K11 hK11=>?_
  refine rg h9 fun ops=>?_;clear h9 a9
  refine seq trivial rfl rfl rfl ?_
  refine sa trivial rfl rfl ?_
  refine St.nil fun a12 h12=>?_
  refine hK11 _ _ ?_
  refine fr_false (t:=10) h12 rfl ?_
  refine rg h12 fun ops=>?_;clear h12 a12
  refine seq trivial rfl rfl rfl ?_
  refine sa trivial rfl rfl ?_
  refine St.nil fun a13 h13=>?_
  refine hK10 _ _ ?_
  refine fr_false (t:=10) h13 rfl ?_
  refine wp_seq_k fun K14 hK14=>?_
  refine wp_seq_k fun K15 hK15=>?_
  refine rg h13 fun ops=>?_;clear h13 a13
  intro a16 h16
  refine fr_pure (t:=14) (v:=.bool true) (w':=w3) h16 rfl rfl rfl (fun K hK=>?_) ?_
  ·have k0:a16.tmps.getD 5 undef=.int .i64 4:=h16.sl 5 _ rfl
   go_simp
   exact hK
  clear h16;intro a17 hF17
  refine St.go hF17 ?_;clear hF17 a17
  refine sa trivial rfl rfl ?_
  refine St.nil fun a18 h18=>?_
  refine hK15 _ _ ?_
  refine fr_true (t:=13) h18 rfl ?_
  refine wp_skip ?_
  refine hK14 _ _ ?_
  refine fr_true (t:=13) h18 rfl ?_
  refine rg h18 fun ops=>?_;clear h18 a18
  refine sfIns1 trivial rfl rfl ?_
  refine s1 1 inf1Int hW3 rfl rfl rfl rfl rfl rfl ?_
  clear hW3;intro w19 hW19
  refine St.nil fun a20 h20=>?_
  refine hK5 _ _ ?_
  refine wp_seq_k fun K21 hK21=>?_
  refine rg h20 fun ops=>?_;clear h20 a20
  refine sS 1 8 Tryz.underlying41 rfl infIns hW19 trivial rfl rfl rfl rfl ?_
  refine sT 0 hW19 rfl rfl infIns rfl rfl rfl ?_
  clear hW19;intro w22 hW22
  refine sa trivial rfl rfl ?_
  refine St.nil fun a23 h23=>?_
  refine hK21 _ _ ?_
  refine wp_ret ?_;with_reducible repeat first | refine of_then_ret ?_ | refine of_block_ret ?_
  have k0:a23.tmps[2]?.getD undef=.pointer (some ⟨B3,0,none⟩):=h23.sl2 2 _ rfl
  have k1:a23.tmps[3]?.getD undef=.bool true:=h23.sl2 3 _ rfl
  have c0:w22.cell? ⟨B3,0,none⟩=some (.int .i64 4):=cellOf (hW22.get 0 rfl) 0 _ rfl
  have c1:w22.cell? ⟨B3,1,none⟩=some (.int .i64 0):=cellOf (hW22.get 0 rfl) 1 _ rfl
  have c2:w22.cell? ⟨B3,2,none⟩=some (.int .i64 xb):=cellOf (hW22.get 0 rfl) 2 _ rfl
  have c3:w22.cell? ⟨B3,3,none⟩=some (.int .i64 xc):=cellOf (hW22.get 0 rfl) 3 _ rfl
  have c4:w22.cell? ⟨B3,4,none⟩=some (.int .i64 xk):=cellOf (hW22.get 0 rfl) 4 _ rfl
  have c5:w22.cell? ⟨B3,5,none⟩=some (.int .i64 xn):=cellOf (hW22.get 0 rfl) 5 _ rfl
  have c6:w22.cell? ⟨B3,6,none⟩=some (.slice ra rl rc):=cellOf (hW22.get 0 rfl) 6 _ rfl
  have c7:w22.cell? ⟨B3,7,none⟩=some (.slice aa al ac):=cellOf (hW22.get 0 rfl) 7 _ rfl
  exact bodyPost_ret (v:=.tuple #[.agg #[.int .i64 4,.int .i64 0,.int .i64 xb,.int .i64 xc,.int .i64 xk,.int .i64 xn,.slice ra rl rc,.slice aa al ac],.bool true]) (by simp [results,Tryz.results120,go_sem,k0,k1,c0,c1,c2,c3,c4,c5,c6,c7]) h23.defers ⟨rfl,hW22.bel⟩
theorem wf5 {xa xb xc xk xn : Int} {ra aa : Option Addr} {rl rc al ac : Nat} {w : World} :
    Rd Tryz.prog 120 #[.agg #[.int .i64 5,.int .i64 xa,.int .i64 xb,.int .i64 xc,.int .i64 xk,.int .i64 xn,.slice ra rl rc,.slice aa al ac]] w (.tuple #[.agg #[.int .i64 5,.int .i64 0,.int .i64 xb,.int .i64 xc,.int .i64 xk,.int .i64 xn,.slice ra rl rc,.slice none 0 0],.bool true]):=by
  refine fr_enter (n:=48) Tryz.func120 rfl rfl rfl ?_
  intro a hF
  have hW:=Wd.start w
  replace hF:Fr 48 a [(0,.agg #[.int .i64 5,.int .i64 xa,.int .i64 xb,.int .i64 xc,.int .i64 xk,.int .i64 xn,.slice ra rl rc,.slice aa al ac])]:=hF
  refine wp_seq_k fun K1 hK1=>?_
  refine rg hF fun ops=>?_;clear hF a
  refine sB hW trivial rfl rfl ?_
  clear hW;intro w2 B2 hW2 hN;clear hN
  refine sAIns hW2 trivial rfl ?_
  clear hW2;intro w3 B3 hW3 hN;clear hN
  refine sa trivial rfl rfl ?_
  refine St.nil fun a4 h4=>?_
  refine hK1 _ _ ?_
  refine wp_seq_k fun K5 hK5=>?_
  refine wp_seq_k fun K6 hK6=>?_
  refine rg h4 fun ops=>?_;clear h4 a4
  refine sfIns0 trivial rfl rfl ?_
  refine sbInt 1 hW3 trivial rfl rfl rfl rfl ?_
  refine St.nil fun a7 h7=>?_
  refine hK6 _ _ ?_
  refine wp_block ?_
  refine wp_seq_k fun K8 hK8=>?_
  refine rg h7 fun ops=>?_;clear h7 a7
  refine seq trivial rfl rfl rfl ?_
  refine sa trivial rfl rfl ?_
  refine St.nil fun a9 h9=>?_
  refine hK8 _ _ ?_
  refine fr_false (t:=7) h9 rfl ?_
  refine wp_seq_k fun K10 hK10=>?_
  refine wp_seq_k fun K11 hK11=>?_
  refine rg h9 fun ops=>?_;clear h9 a9
  refine seq trivial rfl rfl rfl ?_
  refine sa trivial rfl rfl ?_
  refine St.nil fun a12 h12=>?_
  refine hK11 _ _ ?_
  refine fr_false (t:=10) h12 rfl ?_
  refine rg h12 fun ops=>?_;clear h12 a12
  refine seq trivial rfl rfl rfl ?_
  refine sa trivial rfl rfl ?_
  refine St.nil fun a13 h13=>?_
  refine hK10 _ _ ?_
  refine fr_false (t:=10) h13 rfl ?_
  refine wp_seq_k fun K14 hK14=>?_
  refine wp_seq_k fun K15 hK15=>?_
  refine rg h13 fun ops=>?_;clear h13 a13
  refine seq trivial rfl rfl rfl ?_
  refine sa trivial rfl rfl ?_
  refine St.nil fun a16 h16=>?_
  refine hK15 _ _ ?_
  refine fr_false (t:=13) h16 rfl ?_
  refine wp_seq_k fun K17 hK17=>?_
  refine rg h16 fun ops=>?_;clear h16 a16
  refine seq trivial rfl rfl rfl ?_
  refine sa trivial rfl rfl ?_
  refine St.nil fun a18 h18=>?_
  refine hK17 _ _ ?_
  refine fr_false (t:=13) h18 rfl ?_
  refine rg h18 fun ops=>?_;clear h18 a18
  refine seq trivial rfl rfl rfl ?_
  refine sa trivial rfl rfl ?_
  refine St.nil fun a19 h19=>?_
  refine hK14 _ _ ?_
  refine fr_false (t:=13) h19 rfl ?_
  refine wp_seq_k fun K20 hK20=>?_
  refine wp_seq_k fun K21 hK21=>?_
  refine rg h19 fun ops=>?_;clear h19 a19
  refine seq trivial rfl rfl rfl ?_
  refine sa trivial rfl rfl ?_
  refine St.nil fun a22 h22=>?_
  refine hK21 _ _ ?_
  refine fr_false (t:=18) h22 rfl ?_
  refine rg h22 fun ops=>?_;clear h22 a22
  refine seq trivial rfl rfl rfl ?_
  refine sa trivial rfl rfl ?_
  refine St.nil fun a23 h23=>?_
  refine hK20 _ _ ?_
  refine fr_false (t:=18) h23 rfl ?_
  refine wp_seq_k fun K24 hK24=>?_
  refine rg h23 fun ops=>?_;clear h23 a23
  refine seq trivial rfl rfl rfl ?_
  refine sa trivial rfl rfl ?_
  refine St.nil fun a25 h25=>?_
  refine hK24 _ _ ?_
  refine fr_false (t:=23) h25 rfl ?_
  refine wp_seq_k fun K26 hK26=>?_
  refine wp_seq_k fun K27 hK27=>?_
  refine rg h25 fun ops=>?_;clear h25 a25
  refine seq trivial rfl rfl rfl ?_
  refine sa trivial rfl rfl ?_
  refine St.nil fun a28 h28=>?_
  refine hK27 _ _ ?_
  refine fr_false (t:=28) h28 rfl ?_
  refine rg h28 fun ops=>?_;clear h28 a28
  refine seq trivial rfl rfl rfl ?_
  refine sa trivial rfl rfl ?_
  refine St.nil fun a29 h29=>?_
  refine hK26 _ _ ?_
  refine fr_false (t:=28) h29 rfl ?_
  refine wp_seq_k fun K30 hK30=>?_
  refine rg h29 fun ops=>?_;clear h29 a29
  refine seq trivial rfl rfl rfl ?_
  refine sa trivial rfl rfl ?_
  refine St.nil fun a31 h31=>?_
  refine hK30 _ _ ?_
  refine fr_false (t:=34) h31 rfl ?_
  refine wp_seq_k fun K32 hK32=>?_
  refine rg h31 fun ops=>?_;clear h31 a31
  intro a33 h33
  refine fr_pure (t:=39) (v:=.bool true) (w':=w3) h33 rfl rfl rfl (fun K hK=>?_) ?_
  ·have k0:a33.tmps.getD 5 undef=.int .i64 5:=h33.sl 5 _ rfl
   go_simp
   exact hK
  clear h33;intro a34 hF34
  refine St.go hF34 ?_;clear hF34 a34
  refine sa trivial rfl rfl ?_
  refine St.nil fun a35 h35=>?_
  refine hK32 _ _ ?_
  refine fr_true (t:=38) h35 rfl ?_
  refine rg h35 fun ops=>?_;clear h35 a35
  refine sfIns1 trivial rfl rfl ?_
  refine s1 1 inf1Int hW3 rfl rfl rfl rfl rfl rfl ?_
  clear hW3;intro w36 hW36
  refine sfIns7 trivial rfl rfl ?_
  refine s1 1 inf1Ints hW36 rfl rfl rfl rfl rfl rfl ?_
  clear hW36;intro w37 hW37
  refine St.nil fun a38 h38=>?_
  refine hK5 _ _ ?_
  refine wp_seq_k fun K39 hK39=>?_
  refine rg h38 fun ops=>?_;clear h38 a38
  refine sS 1 8 Tryz.underlying41 rfl infIns hW37 trivial rfl rfl rfl rfl ?_
  refine sT 0 hW37 rfl rfl infIns rfl rfl rfl ?_
  clear hW37;intro w40 hW40
  refine sa trivial rfl rfl ?_
  refine St.nil fun a41 h41=>?_
  refine hK39 _ _ ?_
  refine wp_ret ?_;with_reducible repeat first | refine of_then_ret ?_ | refine of_block_ret ?_
  have k0:a41.tmps[2]?.getD undef=.pointer (some ⟨B3,0,none⟩):=h41.sl2 2 _ rfl
  have k1:a41.tmps[3]?.getD undef=.bool true:=h41.sl2 3 _ rfl
  have c0:w40.cell? ⟨B3,0,none⟩=some (.int .i64 5):=cellOf (hW40.get 0 rfl) 0 _ rfl
  have c1:w40.cell? ⟨B3,1,none⟩=some (.int .i64 0):=cellOf (hW40.get 0 rfl) 1 _ rfl
  have c2:w40.cell? ⟨B3,2,none⟩=some (.int .i64 xb):=cellOf (hW40.get 0 rfl) 2 _ rfl
  have c3:w40.cell? ⟨B3,3,none⟩=some (.int .i64 xc):=cellOf (hW40.get 0 rfl) 3 _ rfl
  have c4:w40.cell? ⟨B3,4,none⟩=some (.int .i64 xk):=cellOf (hW40.get 0 rfl) 4 _ rfl
  have c5:w40.cell? ⟨B3,5,none⟩=some (.int .i64 xn):=cellOf (hW40.get 0 rfl) 5 _ rfl
  have c6:w40.cell? ⟨B3,6,none⟩=some (.slice ra rl rc):=cellOf (hW40.get 0 rfl) 6 _ rfl
  have c7:w40.cell? ⟨B3,7,none⟩=some (.slice none 0 0):=cellOf (hW40.get 0 rfl) 7 _ rfl
  exact bodyPost_ret (v:=.tuple #[.agg #[.int .i64 5,.int .i64 0,.int .i64 xb,.int .i64 xc,.int .i64 xk,.int .i64 xn,.slice ra rl rc,.slice none 0 0],.bool true]) (by simp [results,Tryz.results120,go_sem,k0,k1,c0,c1,c2,c3,c4,c5,c6,c7]) h41.defers ⟨rfl,hW40.bel⟩
theorem wf6 {xa xb xc xk xn : Int} {ra aa : Option Addr} {rl rc al ac : Nat} {w : World} :
    Rd Tryz.prog 120 #[.agg #[.int .i64 6,.int .i64 xa,.int .i64 xb,.int .i64 xc,.int .i64 xk,.int .i64 xn,.slice ra rl rc,.slice aa al ac]] w (.tuple #[.agg #[.int .i64 6,.int .i64 0,.int .i64 xb,.int .i64 xc,.int .i64 0,.int .i64 xn,.slice ra rl rc,.slice aa al ac],.bool true]):=by
  refine fr_enter (n:=48) Tryz.func120 rfl rfl rfl ?_
  intro a hF
  have hW:=Wd.start w
  replace hF:Fr 48 a [(0,.agg #[.int .i64 6,.int .i64 xa,.int .i64 xb,.int .i64 xc,.int .i64 xk,.int .i64 xn,.slice ra rl rc,.slice aa al ac])]:=hF
  refine wp_seq_k fun K1 hK1=>?_
  refine rg hF fun ops=>?_;clear hF a
  refine sB hW trivial rfl rfl ?_
  clear hW;intro w2 B2 hW2 hN;clear hN
  refine sAIns hW2 trivial rfl ?_
  clear hW2;intro w3 B3 hW3 hN;clear hN
  refine sa trivial rfl rfl ?_
  refine St.nil fun a4 h4=>?_
  refine hK1 _ _ ?_
  refine wp_seq_k fun K5 hK5=>?_
  refine wp_seq_k fun K6 hK6=>?_
  refine rg h4 fun ops=>?_;clear h4 a4
  refine sfIns0 trivial rfl rfl ?_
  refine sbInt 1 hW3 trivial rfl rfl rfl rfl ?_
  refine St.nil fun a7 h7=>?_
  refine hK6 _ _ ?_
  refine wp_block ?_
  refine wp_seq_k fun K8 hK8=>?_
  refine rg h7 fun ops=>?_;clear h7 a7
  refine seq trivial rfl rfl rfl ?_
  refine sa trivial rfl rfl ?_
  refine St.nil fun a9 h9=>?_
  refine hK8 _ _ ?_
  refine fr_false (t:=7) h9 rfl ?_
  refine wp_seq_k fun K10 hK10=>?_
  refine wp_seq_k fun K11 hK11=>?_
  refine rg h9 fun ops=>?_;clear h9 a9
  refine seq trivial rfl rfl rfl ?_
  refine sa trivial rfl rfl ?_
  refine St.nil fun a12 h12=>?_
  refine hK11 _ _ ?_
  refine fr_false (t:=10) h12 rfl ?_
  refine rg h12 fun ops=>?_;clear h12 a12
  refine seq trivial rfl rfl rfl ?_
  refine sa trivial rfl rfl ?_
  refine St.nil fun a13 h13=>?_
  refine hK10 _ _ ?_
  refine fr_false (t:=10) h13 rfl ?_
  refine wp_seq_k fun K14 hK14=>?_
  refine wp_seq_k fun K15 hK15=>?_
  refine rg h13 fun ops=>?_;clear h13 a13
  refine seq trivial rfl rfl rfl ?_
  refine sa trivial rfl rfl ?_
  refine St.nil fun a16 h16=>?_
  refine hK15 _ _ ?_
  refine fr_false (t:=13) h16 rfl ?_
  refine wp_seq_k fun K17 hK17=>?_
  refine rg h16 fun ops=>?_;clear h16 a16
  refine seq trivial rfl rfl rfl ?_
  refine sa trivial rfl rfl ?_
  refine St.nil fun a18 h18=>?_
  refine hK17 _ _ ?_
  refine fr_false (t:=13) h18 rfl ?_
  refine rg h18 fun ops=>?_;clear h18 a18
  refine seq trivial rfl rfl rfl ?_
  refine sa trivial rfl rfl ?_
  refine St.nil fun a19 h19=>?_
  refine hK14 _ _ ?_
  refine fr_false (t:=13) h19 rfl ?_
  refine wp_seq_k fun K20 hK20=>?_
  refine wp_seq_k fun K21 hK21=>?_
  refine rg h19 fun ops=>?_;clear h19 a19
  refine seq trivial rfl rfl rfl ?_
  refine sa trivial rfl rfl ?_
  refine St.nil fun a22 h22=>?_
  refine hK21 _ _ ?_
  refine fr_false (t:=18) h22 rfl ?_
  refine rg h22 fun ops=>?_;clear h22 a22
  refine seq trivial rfl rfl rfl ?_
  refine sa trivial rfl rfl ?_
  refine St.nil fun a23 h23=>?_
  refine hK20 _ _ ?_
  refine fr_false (t:=18) h23 rfl ?_
  refine wp_seq_k fun K24 hK24=>?_
  refine rg h23 fun ops=>?_;clear h23 a23
  refine seq trivial rfl rfl rfl ?_
  refine sa trivial rfl rfl ?_
  refine St.nil fun a25 h25=>?_
  refine hK24 _ _ ?_
  refine fr_false (t:=23) h25 rfl ?_
  refine wp_seq_k fun K26 hK26=>?_
  refine wp_seq_k fun K27 hK27=>?_
  refine rg h25 fun ops=>?_;clear h25 a25
  refine seq trivial rfl rfl rfl ?_
  refine sa trivial rfl rfl ?_
  refine St.nil fun a28 h28=>?_
  refine hK27 _ _ ?_
  refine fr_false (t:=28) h28 rfl ?_
  refine rg h28 fun ops=>?_;clear h28 a28
  refine seq trivial rfl rfl rfl ?_
  refine sa trivial rfl rfl ?_
  refine St.nil fun a29 h29=>?_
  refine hK26 _ _ ?_
  refine fr_false (t:=28) h29 rfl ?_
  refine wp_seq_k fun K30 hK30=>?_
  refine rg h29 fun ops=>?_;clear h29 a29
  intro a31 h31
  refine fr_pure (t:=35) (v:=.bool true) (w':=w3) h31 rfl rfl rfl (fun K hK=>?_) ?_
  ·have k0:a31.tmps.getD 5 undef=.int .i64 6:=h31.sl 5 _ rfl
   go_simp
   exact hK
  clear h31;intro a32 hF32
  refine St.go hF32 ?_;clear hF32 a32
  refine sa trivial rfl rfl ?_
  refine St.nil fun a33 h33=>?_
  refine hK30 _ _ ?_
  refine fr_true (t:=34) h33 rfl ?_
  refine rg h33 fun ops=>?_;clear h33 a33
  refine sfIns1 trivial rfl rfl ?_
  refine s1 1 inf1Int hW3 rfl rfl rfl rfl rfl rfl ?_
  clear hW3;intro w34 hW34
  refine sfIns4 trivial rfl rfl ?_
  refine s1 1 inf1Int hW34 rfl rfl rfl rfl rfl rfl ?_
  clear hW34;intro w35 hW35
  refine St.nil fun a36 h36=>?_
  refine hK5 _ _ ?_
  refine wp_seq_k fun K37 hK37=>?_
  refine rg h36 fun ops=>?_;clear h36 a36
  refine sS 1 8 Tryz.underlying41 rfl infIns hW35 trivial rfl rfl rfl rfl ?_
  refine sT 0 hW35 rfl rfl infIns rfl rfl rfl ?_
  clear hW35;intro w38 hW38
  refine sa trivial rfl rfl ?_
  refine St.nil fun a39 h39=>?_
  refine hK37 _ _ ?_
  refine wp_ret ?_;with_reducible repeat first | refine of_then_ret ?_ | refine of_block_ret ?_
  have k0:a39.tmps[2]?.getD undef=.pointer (some ⟨B3,0,none⟩):=h39.sl2 2 _ rfl
  have k1:a39.tmps[3]?.getD undef=.bool true:=h39.sl2 3 _ rfl
  have c0:w38.cell? ⟨B3,0,none⟩=some (.int .i64 6):=cellOf (hW38.get 0 rfl) 0 _ rfl
  have c1:w38.cell? ⟨B3,1,none⟩=some (.int .i64 0):=cellOf (hW38.get 0 rfl) 1 _ rfl
  have c2:w38.cell? ⟨B3,2,none⟩=some (.int .i64 xb):=cellOf (hW38.get 0 rfl) 2 _ rfl
  have c3:w38.cell? ⟨B3,3,none⟩=some (.int .i64 xc):=cellOf (hW38.get 0 rfl) 3 _ rfl
  have c4:w38.cell? ⟨B3,4,none⟩=some (.int .i64 0):=cellOf (hW38.get 0 rfl) 4 _ rfl
  have c5:w38.cell? ⟨B3,5,none⟩=some (.int .i64 xn):=cellOf (hW38.get 0 rfl) 5 _ rfl
  have c6:w38.cell? ⟨B3,6,none⟩=some (.slice ra rl rc):=cellOf (hW38.get 0 rfl) 6 _ rfl
  have c7:w38.cell? ⟨B3,7,none⟩=some (.slice aa al ac):=cellOf (hW38.get 0 rfl) 7 _ rfl
  exact bodyPost_ret (v:=.tuple #[.agg #[.int .i64 6,.int .i64 0,.int .i64 xb,.int .i64 xc,.int .i64 0,.int .i64 xn,.slice ra rl rc,.slice aa al ac],.bool true]) (by simp [results,Tryz.results120,go_sem,k0,k1,c0,c1,c2,c3,c4,c5,c6,c7]) h39.defers ⟨rfl,hW38.bel⟩
theorem wf7 {xa xb xc xk xn : Int} {ra aa : Option Addr} {rl rc al ac : Nat} {w : World} :
    Rd Tryz.prog 120 #[.agg #[.int .i64 7,.int .i64 xa,.int .i64 xb,.int .i64 xc,.int .i64 xk,.int .i64 xn,.slice ra rl rc,.slice aa al ac]] w (.tuple #[.agg #[.int .i64 7,.int .i64 0,.int .i64 0,.int .i64 xc,.int .i64 0,.int .i64 xn,.slice ra rl rc,.slice aa al ac],.bool true]):=by
  refine fr_enter (n:=48) Tryz.func120 rfl rfl rfl ?_
  intro a hF
  have hW:=Wd.start w
  replace hF:Fr 48 a [(0,.agg #[.int .i64 7,.int .i64 xa,.int .i64 xb,.int .i64 xc,.int .i64 xk,.int .i64 xn,.slice ra rl rc,.slice aa al ac])]:=hF
  refine wp_seq_k fun K1 hK1=>?_
  refine rg hF fun ops=>?_;clear hF a
  refine sB hW trivial rfl rfl ?_
  clear hW;intro w2 B2 hW2 hN;clear hN
  refine sAIns hW2 trivial rfl ?_
  clear hW2;intro w3 B3 hW3 hN;clear hN
  refine sa trivial rfl rfl ?_
  refine St.nil fun a4 h4=>?_
  refine hK1 _ _ ?_
  refine wp_seq_k fun K5 hK5=>?_
  refine wp_seq_k fun K6 hK6=>?_
  refine rg h4 fun ops=>?_;clear h4 a4
  refine sfIns0 trivial rfl rfl ?_
  refine sbInt 1 hW3 trivial rfl rfl rfl rfl ?_
  refine St.nil fun a7 h7=>?_
  refine hK6 _ _ ?_
  refine wp_block ?_
  refine wp_seq_k fun K8 hK8=>?_
  refine rg h7 fun ops=>?_;clear h7 a7
  refine seq trivial rfl rfl rfl ?_
  refine sa trivial rfl rfl ?_
  refine St.nil fun a9 h9=>?_
  refine hK8 _ _ ?_
  refine fr_false (t:=7) h9 rfl ?_
  refine wp_seq_k fun K10 hK10=>?_
  refine wp_seq_k fun K11 hK11=>?_
  refine rg h9 fun ops=>?_;clear h9 a9
  refine seq trivial rfl rfl rfl ?_
  refine sa trivial rfl rfl ?_
  refine St.nil fun a12 h12=>?_
  refine hK11 _ _ ?_
  refine fr_false (t:=10) h12 rfl ?_
  refine rg h12 fun ops=>?_;clear h12 a12
  refine seq trivial rfl rfl rfl ?_
  refine sa trivial rfl rfl ?_
  refine St.nil fun a13 h13=>?_
  refine hK10 _ _ ?_
  refine fr_false (t:=10) h13 rfl ?_
  refine wp_seq_k fun K14 hK14=>?_
  refine wp_seq_k fun K15 hK15=>?_
  refine rg h13 fun ops=>?_;clear h13 a13
  refine seq trivial rfl rfl rfl ?_
  refine sa trivial rfl rfl ?_
  refine St.nil fun a16 h16=>?_
  refine hK15 _ _ ?_
  refine fr_false (t:=13) h16 rfl ?_
  refine wp_seq_k fun K17 hK17=>?_
  refine rg h16 fun ops=>?_;clear h16 a16
  refine seq trivial rfl rfl rfl ?_
  refine sa trivial rfl rfl ?_
  refine St.nil fun a18 h18=>?_
  refine hK17 _ _ ?_
  refine fr_false (t:=13) h18 rfl ?_
  refine rg h18 fun ops=>?_;clear h18 a18
  refine seq trivial rfl rfl rfl ?_
  refine sa trivial rfl rfl ?_
  refine St.nil fun a19 h19=>?_
  refine hK14 _ _ ?_
  refine fr_false (t:=13) h19 rfl ?_
  refine wp_seq_k fun K20 hK20=>?_
  refine wp_seq_k fun K21 hK21=>?_
  refine rg h19 fun ops=>?_;clear h19 a19
  refine seq trivial rfl rfl rfl ?_
  refine sa trivial rfl rfl ?_
  refine St.nil fun a22 h22=>?_
  refine hK21 _ _ ?_
  refine fr_false (t:=18) h22 rfl ?_
  refine rg h22 fun ops=>?_;clear h22 a22
  refine seq trivial rfl rfl rfl ?_
  refine sa trivial rfl rfl ?_
  refine St.nil fun a23 h23=>?_
  refine hK20 _ _ ?_
  refine fr_false (t:=18) h23 rfl ?_
  refine wp_seq_k fun K24 hK24=>?_
  refine rg h23 fun ops=>?_;clear h23 a23
  refine seq trivial rfl rfl rfl ?_
  refine sa trivial rfl rfl ?_
  refine St.nil fun a25 h25=>?_
  refine hK24 _ _ ?_
  refine fr_false (t:=23) h25 rfl ?_
  refine wp_seq_k fun K26 hK26=>?_
  refine wp_seq_k fun K27 hK27=>?_
  refine rg h25 fun ops=>?_;clear h25 a25
  refine seq trivial rfl rfl rfl ?_
  refine sa trivial rfl rfl ?_
  refine St.nil fun a28 h28=>?_
  refine hK27 _ _ ?_
  refine fr_false (t:=28) h28 rfl ?_
  refine rg h28 fun ops=>?_;clear h28 a28
  intro a29 h29
  refine fr_pure (t:=30) (v:=.bool true) (w':=w3) h29 rfl rfl rfl (fun K hK=>?_) ?_
  ·have k0:a29.tmps.getD 5 undef=.int .i64 7:=h29.sl 5 _ rfl
   go_simp
   exact hK
  clear h29;intro a30 hF30
  refine St.go hF30 ?_;clear hF30 a30
  refine sa trivial rfl rfl ?_
  refine St.nil fun a31 h31=>?_
  refine hK26 _ _ ?_
  refine fr_true (t:=28) h31 rfl ?_
  refine rg h31 fun ops=>?_;clear h31 a31
  refine sfIns1 trivial rfl rfl ?_
  refine s1 1 inf1Int hW3 rfl rfl rfl rfl rfl rfl ?_
  clear hW3;intro w32 hW32
  refine sfIns2 trivial rfl rfl ?_
  refine s1 1 inf1Int hW32 rfl rfl rfl rfl rfl rfl ?_
  clear hW32;intro w33 hW33
  refine sfIns4 trivial rfl rfl ?_
  refine s1 1 inf1Int hW33 rfl rfl rfl rfl rfl rfl ?_
  clear hW33;intro w34 hW34
  refine St.nil fun a35 h35=>?_
  refine hK5 _ _ ?_
  refine wp_seq_k fun K36 hK36=>?_
  refine rg h35 fun ops=>?_;clear h35 a35
  refine sS 1 8 Tryz.underlying41 rfl infIns hW34 trivial rfl rfl rfl rfl ?_
  refine sT 0 hW34 rfl rfl infIns rfl rfl rfl ?_
  clear hW34;intro w37 hW37
  refine sa trivial rfl rfl ?_
  refine St.nil fun a38 h38=>?_
  refine hK36 _ _ ?_
  refine wp_ret ?_;with_reducible repeat first | refine of_then_ret ?_ | refine of_block_ret ?_
  have k0:a38.tmps[2]?.getD undef=.pointer (some ⟨B3,0,none⟩):=h38.sl2 2 _ rfl
  have k1:a38.tmps[3]?.getD undef=.bool true:=h38.sl2 3 _ rfl
  have c0:w37.cell? ⟨B3,0,none⟩=some (.int .i64 7):=cellOf (hW37.get 0 rfl) 0 _ rfl
  have c1:w37.cell? ⟨B3,1,none⟩=some (.int .i64 0):=cellOf (hW37.get 0 rfl) 1 _ rfl
  have c2:w37.cell? ⟨B3,2,none⟩=some (.int .i64 0):=cellOf (hW37.get 0 rfl) 2 _ rfl
  have c3:w37.cell? ⟨B3,3,none⟩=some (.int .i64 xc):=cellOf (hW37.get 0 rfl) 3 _ rfl
  have c4:w37.cell? ⟨B3,4,none⟩=some (.int .i64 0):=cellOf (hW37.get 0 rfl) 4 _ rfl
  have c5:w37.cell? ⟨B3,5,none⟩=some (.int .i64 xn):=cellOf (hW37.get 0 rfl) 5 _ rfl
  have c6:w37.cell? ⟨B3,6,none⟩=some (.slice ra rl rc):=cellOf (hW37.get 0 rfl) 6 _ rfl
  have c7:w37.cell? ⟨B3,7,none⟩=some (.slice aa al ac):=cellOf (hW37.get 0 rfl) 7 _ rfl
  exact bodyPost_ret (v:=.tuple #[.agg #[.int .i64 7,.int .i64 0,.int .i64 0,.int .i64 xc,.int .i64 0,.int .i64 xn,.slice ra rl rc,.slice aa al ac],.bool true]) (by simp [results,Tryz.results120,go_sem,k0,k1,c0,c1,c2,c3,c4,c5,c6,c7]) h38.defers ⟨rfl,hW37.bel⟩
theorem wf8 {xa xb xc xk xn : Int} {ra aa : Option Addr} {rl rc al ac : Nat} {w : World} :
    Rd Tryz.prog 120 #[.agg #[.int .i64 8,.int .i64 xa,.int .i64 xb,.int .i64 xc,.int .i64 xk,.int .i64 xn,.slice ra rl rc,.slice aa al ac]] w (.tuple #[.agg #[.int .i64 8,.int .i64 0,.int .i64 0,.int .i64 xc,.int .i64 xk,.int .i64 xn,.slice ra rl rc,.slice aa al ac],.bool true]):=by
  refine fr_enter (n:=48) Tryz.func120 rfl rfl rfl ?_
  intro a hF
  have hW:=Wd.start w
  replace hF:Fr 48 a [(0,.agg #[.int .i64 8,.int .i64 xa,.int .i64 xb,.int .i64 xc,.int .i64 xk,.int .i64 xn,.slice ra rl rc,.slice aa al ac])]:=hF
  refine wp_seq_k fun K1 hK1=>?_
  refine rg hF fun ops=>?_;clear hF a
  refine sB hW trivial rfl rfl ?_
  clear hW;intro w2 B2 hW2 hN;clear hN
  refine sAIns hW2 trivial rfl ?_
  clear hW2;intro w3 B3 hW3 hN;clear hN
  refine sa trivial rfl rfl ?_
  refine St.nil fun a4 h4=>?_
  refine hK1 _ _ ?_
  refine wp_seq_k fun K5 hK5=>?_
  refine wp_seq_k fun K6 hK6=>?_
  refine rg h4 fun ops=>?_;clear h4 a4
  refine sfIns0 trivial rfl rfl ?_
  refine sbInt 1 hW3 trivial rfl rfl rfl rfl ?_
  refine St.nil fun a7 h7=>?_
  refine hK6 _ _ ?_
  refine wp_block ?_
  refine wp_seq_k fun K8 hK8=>?_
  refine rg h7 fun ops=>?_;clear h7 a7
  refine seq trivial rfl rfl rfl ?_
  refine sa trivial rfl rfl ?_
  refine St.nil fun a9 h9=>?_
  refine hK8 _ _ ?_
  refine fr_false (t:=7) h9 rfl ?_
  refine wp_seq_k fun K10 hK10=>?_
  refine wp_seq_k fun K11 hK11=>?_
  refine rg h9 fun ops=>?_;clear h9 a9
  refine seq trivial rfl rfl rfl ?_
  refine sa trivial rfl rfl ?_
  refine St.nil fun a12 h12=>?_
  refine hK11 _ _ ?_
  refine fr_false (t:=10) h12 rfl ?_
  refine rg h12 fun ops=>?_;clear h12 a12
  refine seq trivial rfl rfl rfl ?_
  refine sa trivial rfl rfl ?_
  refine St.nil fun a13 h13=>?_
  refine hK10 _ _ ?_
  refine fr_false (t:=10) h13 rfl ?_
  refine wp_seq_k fun K14 hK14=>?_
  refine wp_seq_k fun K15 hK15=>?_
  refine rg h13 fun ops=>?_;clear h13 a13
  refine seq trivial rfl rfl rfl ?_
  refine sa trivial rfl rfl ?_
  refine St.nil fun a16 h16=>?_
  refine hK15 _ _ ?_
  refine fr_false (t:=13) h16 rfl ?_
  refine wp_seq_k fun K17 hK17=>?_
  refine rg h16 fun ops=>?_;clear h16 a16
  refine seq trivial rfl rfl rfl ?_
  refine sa trivial rfl rfl ?_
  refine St.nil fun a18 h18=>?_
  refine hK17 _ _ ?_
  refine fr_false (t:=13) h18 rfl ?_
  refine rg h18 fun ops=>?_;clear h18 a18
  refine seq trivial rfl rfl rfl ?_
  refine sa trivial rfl rfl ?_
  refine St.nil fun a19 h19=>?_
  refine hK14 _ _ ?_
  refine fr_false (t:=13) h19 rfl ?_
  refine wp_seq_k fun K20 hK20=>?_
  refine wp_seq_k fun K21 hK21=>?_
  refine rg h19 fun ops=>?_;clear h19 a19
  intro a22 h22
  refine fr_pure (t:=19) (v:=.bool true) (w':=w3) h22 rfl rfl rfl (fun K hK=>?_) ?_
  ·have k0:a22.tmps.getD 5 undef=.int .i64 8:=h22.sl 5 _ rfl
   go_simp
   exact hK
  clear h22;intro a23 hF23
  refine St.go hF23 ?_;clear hF23 a23
  refine sa trivial rfl rfl ?_
  refine St.nil fun a24 h24=>?_
  refine hK21 _ _ ?_
  refine fr_true (t:=18) h24 rfl ?_
  refine wp_skip ?_
  refine hK20 _ _ ?_
  refine fr_true (t:=18) h24 rfl ?_
  refine rg h24 fun ops=>?_;clear h24 a24
  refine sfIns1 trivial rfl rfl ?_
  refine s1 1 inf1Int hW3 rfl rfl rfl rfl rfl rfl ?_
  clear hW3;intro w25 hW25
  refine sfIns2 trivial rfl rfl ?_
  refine s1 1 inf1Int hW25 rfl rfl rfl rfl rfl rfl ?_
  clear hW25;intro w26 hW26
  refine St.nil fun a27 h27=>?_
  refine hK5 _ _ ?_
  refine wp_seq_k fun K28 hK28=>?_
  refine rg h27 fun ops=>?_;clear h27 a27
  refine sS 1 8 Tryz.underlying41 rfl infIns hW26 trivial rfl rfl rfl rfl ?_
  refine sT 0 hW26 rfl rfl infIns rfl rfl rfl ?_
  clear hW26;intro w29 hW29
  refine sa trivial rfl rfl ?_
  refine St.nil fun a30 h30=>?_
  refine hK28 _ _ ?_
  refine wp_ret ?_;with_reducible repeat first | refine of_then_ret ?_ | refine of_block_ret ?_
  have k0:a30.tmps[2]?.getD undef=.pointer (some ⟨B3,0,none⟩):=h30.sl2 2 _ rfl
  have k1:a30.tmps[3]?.getD undef=.bool true:=h30.sl2 3 _ rfl
  have c0:w29.cell? ⟨B3,0,none⟩=some (.int .i64 8):=cellOf (hW29.get 0 rfl) 0 _ rfl
  have c1:w29.cell? ⟨B3,1,none⟩=some (.int .i64 0):=cellOf (hW29.get 0 rfl) 1 _ rfl
  have c2:w29.cell? ⟨B3,2,none⟩=some (.int .i64 0):=cellOf (hW29.get 0 rfl) 2 _ rfl
  have c3:w29.cell? ⟨B3,3,none⟩=some (.int .i64 xc):=cellOf (hW29.get 0 rfl) 3 _ rfl
  have c4:w29.cell? ⟨B3,4,none⟩=some (.int .i64 xk):=cellOf (hW29.get 0 rfl) 4 _ rfl
  have c5:w29.cell? ⟨B3,5,none⟩=some (.int .i64 xn):=cellOf (hW29.get 0 rfl) 5 _ rfl
  have c6:w29.cell? ⟨B3,6,none⟩=some (.slice ra rl rc):=cellOf (hW29.get 0 rfl) 6 _ rfl
  have c7:w29.cell? ⟨B3,7,none⟩=some (.slice aa al ac):=cellOf (hW29.get 0 rfl) 7 _ rfl
  exact bodyPost_ret (v:=.tuple #[.agg #[.int .i64 8,.int .i64 0,.int .i64 0,.int .i64 xc,.int .i64 xk,.int .i64 xn,.slice ra rl rc,.slice aa al ac],.bool true]) (by simp [results,Tryz.results120,go_sem,k0,k1,c0,c1,c2,c3,c4,c5,c6,c7]) h30.defers ⟨rfl,hW29.bel⟩
theorem wf9 {xa xb xc xk xn : Int} {ra aa : Option Addr} {rl rc al ac : Nat} {w : World} :
    Rd Tryz.prog 120 #[.agg #[.int .i64 9,.int .i64 xa,.int .i64 xb,.int .i64 xc,.int .i64 xk,.int .i64 xn,.slice ra rl rc,.slice aa al ac]] w (.tuple #[.agg #[.int .i64 9,.int .i64 0,.int .i64 0,.int .i64 xc,.int .i64 xk,.int .i64 xn,.slice ra rl rc,.slice aa al ac],.bool true]):=by
  refine fr_enter (n:=48) Tryz.func120 rfl rfl rfl ?_
  intro a hF
  have hW:=Wd.start w
  replace hF:Fr 48 a [(0,.agg #[.int .i64 9,.int .i64 xa,.int .i64 xb,.int .i64 xc,.int .i64 xk,.int .i64 xn,.slice ra rl rc,.slice aa al ac])]:=hF
  refine wp_seq_k fun K1 hK1=>?_
  refine rg hF fun ops=>?_;clear hF a
  refine sB hW trivial rfl rfl ?_
  clear hW;intro w2 B2 hW2 hN;clear hN
  refine sAIns hW2 trivial rfl ?_
  clear hW2;intro w3 B3 hW3 hN;clear hN
  refine sa trivial rfl rfl ?_
  refine St.nil fun a4 h4=>?_
  refine hK1 _ _ ?_
  refine wp_seq_k fun K5 hK5=>?_
  refine wp_seq_k fun K6 hK6=>?_
  refine rg h4 fun ops=>?_;clear h4 a4
  refine sfIns0 trivial rfl rfl ?_
  refine sbInt 1 hW3 trivial rfl rfl rfl rfl ?_
  refine St.nil fun a7 h7=>?_
  refine hK6 _ _ ?_
  refine wp_block ?_
  refine wp_seq_k fun K8 hK8=>?_
  refine rg h7 fun ops=>?_;clear h7 a7
  refine seq trivial rfl rfl rfl ?_
  refine sa trivial rfl rfl ?_
  refine St.nil fun a9 h9=>?_
  refine hK8 _ _ ?_
  refine fr_false (t:=7) h9 rfl ?_
  refine wp_seq_k fun K10 hK10=>?_
  refine wp_seq_k fun K11 hK11=>?_
  refine rg h9 fun ops=>?_;clear h9 a9
  refine seq trivial rfl rfl rfl ?_
  refine sa trivial rfl rfl ?_
  refine St.nil fun a12 h12=>?_
  refine hK11 _ _ ?_
  refine fr_false (t:=10) h12 rfl ?_
  refine rg h12 fun ops=>?_;clear h12 a12
  refine seq trivial rfl rfl rfl ?_
  refine sa trivial rfl rfl ?_
  refine St.nil fun a13 h13=>?_
  refine hK10 _ _ ?_
  refine fr_false (t:=10) h13 rfl ?_
  refine wp_seq_k fun K14 hK14=>?_
  refine wp_seq_k fun K15 hK15=>?_
  refine rg h13 fun ops=>?_;clear h13 a13
  refine seq trivial rfl rfl rfl ?_
  refine sa trivial rfl rfl ?_
  refine St.nil fun a16 h16=>?_
  refine hK15 _ _ ?_
  refine fr_false (t:=13) h16 rfl ?_
  refine wp_seq_k fun K17 hK17=>?_
  refine rg h16 fun ops=>?_;clear h16 a16
  refine seq trivial rfl rfl rfl ?_
  refine sa trivial rfl rfl ?_
  refine St.nil fun a18 h18=>?_
  refine hK17 _ _ ?_
  refine fr_false (t:=13) h18 rfl ?_
  refine rg h18 fun ops=>?_;clear h18 a18
  refine seq trivial rfl rfl rfl ?_
  refine sa trivial rfl rfl ?_
  refine St.nil fun a19 h19=>?_
  refine hK14 _ _ ?_
  refine fr_false (t:=13) h19 rfl ?_
  refine wp_seq_k fun K20 hK20=>?_
  refine wp_seq_k fun K21 hK21=>?_
  refine rg h19 fun ops=>?_;clear h19 a19
  refine seq trivial rfl rfl rfl ?_
  refine sa trivial rfl rfl ?_
  refine St.nil fun a22 h22=>?_
  refine hK21 _ _ ?_
  refine fr_false (t:=18) h22 rfl ?_
  refine rg h22 fun ops=>?_;clear h22 a22
  intro a23 h23
  refine fr_pure (t:=20) (v:=.bool true) (w':=w3) h23 rfl rfl rfl (fun K hK=>?_) ?_
  ·have k0:a23.tmps.getD 5 undef=.int .i64 9:=h23.sl 5 _ rfl
   go_simp
   exact hK
  clear h23;intro a24 hF24
  refine St.go hF24 ?_;clear hF24 a24
  refine sa trivial rfl rfl ?_
  refine St.nil fun a25 h25=>?_
  refine hK20 _ _ ?_
  refine fr_true (t:=18) h25 rfl ?_
  refine rg h25 fun ops=>?_;clear h25 a25
  refine sfIns1 trivial rfl rfl ?_
  refine s1 1 inf1Int hW3 rfl rfl rfl rfl rfl rfl ?_
  clear hW3;intro w26 hW26
  refine sfIns2 trivial rfl rfl ?_
  refine s1 1 inf1Int hW26 rfl rfl rfl rfl rfl rfl ?_
  clear hW26;intro w27 hW27
  refine St.nil fun a28 h28=>?_
  refine hK5 _ _ ?_
  refine wp_seq_k fun K29 hK29=>?_
  refine rg h28 fun ops=>?_;clear h28 a28
  refine sS 1 8 Tryz.underlying41 rfl infIns hW27 trivial rfl rfl rfl rfl ?_
  refine sT 0 hW27 rfl rfl infIns rfl rfl rfl ?_
  clear hW27;intro w30 hW30
  refine sa trivial rfl rfl ?_
  refine St.nil fun a31 h31=>?_
  refine hK29 _ _ ?_
  refine wp_ret ?_;with_reducible repeat first | refine of_then_ret ?_ | refine of_block_ret ?_
  have k0:a31.tmps[2]?.getD undef=.pointer (some ⟨B3,0,none⟩):=h31.sl2 2 _ rfl
  have k1:a31.tmps[3]?.getD undef=.bool true:=h31.sl2 3 _ rfl
  have c0:w30.cell? ⟨B3,0,none⟩=some (.int .i64 9):=cellOf (hW30.get 0 rfl) 0 _ rfl
  have c1:w30.cell? ⟨B3,1,none⟩=some (.int .i64 0):=cellOf (hW30.get 0 rfl) 1 _ rfl
  have c2:w30.cell? ⟨B3,2,none⟩=some (.int .i64 0):=cellOf (hW30.get 0 rfl) 2 _ rfl
  have c3:w30.cell? ⟨B3,3,none⟩=some (.int .i64 xc):=cellOf (hW30.get 0 rfl) 3 _ rfl
  have c4:w30.cell? ⟨B3,4,none⟩=some (.int .i64 xk):=cellOf (hW30.get 0 rfl) 4 _ rfl
  have c5:w30.cell? ⟨B3,5,none⟩=some (.int .i64 xn):=cellOf (hW30.get 0 rfl) 5 _ rfl
  have c6:w30.cell? ⟨B3,6,none⟩=some (.slice ra rl rc):=cellOf (hW30.get 0 rfl) 6 _ rfl
  have c7:w30.cell? ⟨B3,7,none⟩=some (.slice aa al ac):=cellOf (hW30.get 0 rfl) 7 _ rfl
  exact bodyPost_ret (v:=.tuple #[.agg #[.int .i64 9,.int .i64 0,.int .i64 0,.int .i64 xc,.int .i64 xk,.int .i64 xn,.slice ra rl rc,.slice aa al ac],.bool true]) (by simp [results,Tryz.results120,go_sem,k0,k1,c0,c1,c2,c3,c4,c5,c6,c7]) h31.defers ⟨rfl,hW30.bel⟩
theorem wf10 {xa xb xc xk xn : Int} {ra aa : Option Addr} {rl rc al ac : Nat} {w : World} :
    Rd Tryz.prog 120 #[.agg #[.int .i64 10,.int .i64 xa,.int .i64 xb,.int .i64 xc,.int .i64 xk,.int .i64 xn,.slice ra rl rc,.slice aa al ac]] w (.tuple #[.agg #[.int .i64 10,.int .i64 0,.int .i64 0,.int .i64 0,.int .i64 xk,.int .i64 xn,.slice ra rl rc,.slice aa al ac],.bool true]):=by
  refine fr_enter (n:=48) Tryz.func120 rfl rfl rfl ?_
  intro a hF
  have hW:=Wd.start w
  replace hF:Fr 48 a [(0,.agg #[.int .i64 10,.int .i64 xa,.int .i64 xb,.int .i64 xc,.int .i64 xk,.int .i64 xn,.slice ra rl rc,.slice aa al ac])]:=hF
  refine wp_seq_k fun K1 hK1=>?_
  refine rg hF fun ops=>?_;clear hF a
  refine sB hW trivial rfl rfl ?_
  clear hW;intro w2 B2 hW2 hN;clear hN
  refine sAIns hW2 trivial rfl ?_
  clear hW2;intro w3 B3 hW3 hN;clear hN
  refine sa trivial rfl rfl ?_
  refine St.nil fun a4 h4=>?_
  refine hK1 _ _ ?_
  refine wp_seq_k fun K5 hK5=>?_
  refine wp_seq_k fun K6 hK6=>?_
  refine rg h4 fun ops=>?_;clear h4 a4
  refine sfIns0 trivial rfl rfl ?_
  refine sbInt 1 hW3 trivial rfl rfl rfl rfl ?_
  refine St.nil fun a7 h7=>?_
  refine hK6 _ _ ?_
  refine wp_block ?_
  refine wp_seq_k fun K8 hK8=>?_
  refine rg h7 fun ops=>?_;clear h7 a7
  refine seq trivial rfl rfl rfl ?_
  refine sa trivial rfl rfl ?_
  refine St.nil fun a9 h9=>?_
  refine hK8 _ _ ?_
  refine fr_false (t:=7) h9 rfl ?_
  refine wp_seq_k fun K10 hK10=>?_
  refine wp_seq_k fun K11 hK11=>?_
  refine rg h9 fun ops=>?_;clear h9 a9
  refine seq trivial rfl rfl rfl ?_
  refine sa trivial rfl rfl ?_
  refine St.nil fun a12 h12=>?_
  refine hK11 _ _ ?_
  refine fr_false (t:=10) h12 rfl ?_
  refine rg h12 fun ops=>?_;clear h12 a12
  refine seq trivial rfl rfl rfl ?_
  refine sa trivial rfl rfl ?_
  refine St.nil fun a13 h13=>?_
  refine hK10 _ _ ?_
  refine fr_false (t:=10) h13 rfl ?_
  refine wp_seq_k fun K14 hK14=>?_
  refine wp_seq_k fun K15 hK15=>?_
  refine rg h13 fun ops=>?_;clear h13 a13
  refine seq trivial rfl rfl rfl ?_
  refine sa trivial rfl rfl ?_
  refine St.nil fun a16 h16=>?_
  refine hK15 _ _ ?_
  refine fr_false (t:=13) h16 rfl ?_
  refine wp_seq_k fun K17 hK17=>?_
  refine rg h16 fun ops=>?_;clear h16 a16
  refine seq trivial rfl rfl rfl ?_
  refine sa trivial rfl rfl ?_
  refine St.nil fun a18 h18=>?_
  refine hK17 _ _ ?_
  refine fr_false (t:=13) h18 rfl ?_
  refine rg h18 fun ops=>?_;clear h18 a18
  refine seq trivial rfl rfl rfl ?_
  refine sa trivial rfl rfl ?_
  refine St.nil fun a19 h19=>?_
  refine hK14 _ _ ?_
  refine fr_false (t:=13) h19 rfl ?_
  refine wp_seq_k fun K20 hK20=>?_
  refine wp_seq_k fun K21 hK21=>?_
  refine rg h19 fun ops=>?_;clear h19 a19
  refine seq trivial rfl rfl rfl ?_
  refine sa trivial rfl rfl ?_
  refine St.nil fun a22 h22=>?_
  refine hK21 _ _ ?_
  refine fr_false (t:=18) h22 rfl ?_
  refine rg h22 fun ops=>?_;clear h22 a22
  refine seq trivial rfl rfl rfl ?_
  refine sa trivial rfl rfl ?_
  refine St.nil fun a23 h23=>?_
  refine hK20 _ _ ?_
  refine fr_false (t:=18) h23 rfl ?_
  refine wp_seq_k fun K24 hK24=>?_
  refine rg h23 fun ops=>?_;clear h23 a23
  intro a25 h25
  refine fr_pure (t:=24) (v:=.bool true) (w':=w3) h25 rfl rfl rfl (fun K hK=>?_) ?_
  ·have k0:a25.tmps.getD 5 undef=.int .i64 10:=h25.sl 5 _ rfl
   go_simp
   exact hK
  clear h25;intro a26 hF26
  refine St.go hF26 ?_;clear hF26 a26
  refine sa trivial rfl rfl ?_
  refine St.nil fun a27 h27=>?_
  refine hK24 _ _ ?_
  refine fr_true (t:=23) h27 rfl ?_
  refine rg h27 fun ops=>?_;clear h27 a27
  refine sfIns1 trivial rfl rfl ?_
  refine s1 1 inf1Int hW3 rfl rfl rfl rfl rfl rfl ?_
  clear hW3;intro w28 hW28
  refine sfIns2 trivial rfl rfl ?_
  refine s1 1 inf1Int hW28 rfl rfl rfl rfl rfl rfl ?_
  clear hW28;intro w29 hW29
  refine sfIns3 trivial rfl rfl ?_
  refine s1 1 inf1Int hW29 rfl rfl rfl rfl rfl rfl ?_
  clear hW29;intro w30 hW30
  refine St.nil fun a31 h31=>?_
  refine hK5 _ _ ?_
  refine wp_seq_k fun K32 hK32=>?_
  refine rg h31 fun ops=>?_;clear h31 a31
  refine sS 1 8 Tryz.underlying41 rfl infIns hW30 trivial rfl rfl rfl rfl ?_
  refine sT 0 hW30 rfl rfl infIns rfl rfl rfl ?_
  clear hW30;intro w33 hW33
  refine sa trivial rfl rfl ?_
  refine St.nil fun a34 h34=>?_
  refine hK32 _ _ ?_
  refine wp_ret ?_;with_reducible repeat first | refine of_then_ret ?_ | refine of_block_ret ?_
  have k0:a34.tmps[2]?.getD undef=.pointer (some ⟨B3,0,none⟩):=h34.sl2 2 _ rfl
  have k1:a34.tmps[3]?.getD undef=.bool true:=h34.sl2 3 _ rfl
  have c0:w33.cell? ⟨B3,0,none⟩=some (.int .i64 10):=cellOf (hW33.get 0 rfl) 0 _ rfl
  have c1:w33.cell? ⟨B3,1,none⟩=some (.int .i64 0):=cellOf (hW33.get 0 rfl) 1 _ rfl
  have c2:w33.cell? ⟨B3,2,none⟩=some (.int .i64 0):=cellOf (hW33.get 0 rfl) 2 _ rfl
  have c3:w33.cell? ⟨B3,3,none⟩=some (.int .i64 0):=cellOf (hW33.get 0 rfl) 3 _ rfl
  have c4:w33.cell? ⟨B3,4,none⟩=some (.int .i64 xk):=cellOf (hW33.get 0 rfl) 4 _ rfl
  have c5:w33.cell? ⟨B3,5,none⟩=some (.int .i64 xn):=cellOf (hW33.get 0 rfl) 5 _ rfl
  have c6:w33.cell? ⟨B3,6,none⟩=some (.slice ra rl rc):=cellOf (hW33.get 0 rfl) 6 _ rfl
  have c7:w33.cell? ⟨B3,7,none⟩=some (.slice aa al ac):=cellOf (hW33.get 0 rfl) 7 _ rfl
  exact bodyPost_ret (v:=.tuple #[.agg #[.int .i64 10,.int .i64 0,.int .i64 0,.int .i64 0,.int .i64 xk,.int .i64 xn,.slice ra rl rc,.slice aa al ac],.bool true]) (by simp [results,Tryz.results120,go_sem,k0,k1,c0,c1,c2,c3,c4,c5,c6,c7]) h34.defers ⟨rfl,hW33.bel⟩
theorem wf11 {xa xb xc xk xn : Int} {ra aa : Option Addr} {rl rc al ac : Nat} {w : World} :
    Rd Tryz.prog 120 #[.agg #[.int .i64 11,.int .i64 xa,.int .i64 xb,.int .i64 xc,.int .i64 xk,.int .i64 xn,.slice ra rl rc,.slice aa al ac]] w (.tuple #[.agg #[.int .i64 11,.int .i64 0,.int .i64 xb,.int .i64 xc,.int .i64 xk,.int .i64 xn,.slice ra rl rc,.slice aa al ac],.bool true]):=by
  refine fr_enter (n:=48) Tryz.func120 rfl rfl rfl ?_
  intro a hF
  have hW:=Wd.start w
  replace hF:Fr 48 a [(0,.agg #[.int .i64 11,.int .i64 xa,.int .i64 xb,.int .i64 xc,.int .i64 xk,.int .i64 xn,.slice ra rl rc,.slice aa al ac])]:=hF
  refine wp_seq_k fun K1 hK1=>?_
  refine rg hF fun ops=>?_;clear hF a
  refine sB hW trivial rfl rfl ?_
  clear hW;intro w2 B2 hW2 hN;clear hN
  refine sAIns hW2 trivial rfl ?_
  clear hW2;intro w3 B3 hW3 hN;clear hN
  refine sa trivial rfl rfl ?_
  refine St.nil fun a4 h4=>?_
  refine hK1 _ _ ?_
  refine wp_seq_k fun K5 hK5=>?_
  refine wp_seq_k fun K6 hK6=>?_
  refine rg h4 fun ops=>?_;clear h4 a4
  refine sfIns0 trivial rfl rfl ?_
  refine sbInt 1 hW3 trivial rfl rfl rfl rfl ?_
  refine St.nil fun a7 h7=>?_
  refine hK6 _ _ ?_
  refine wp_block ?_
  refine wp_seq_k fun K8 hK8=>?_
  refine rg h7 fun ops=>?_;clear h7 a7
  refine seq trivial rfl rfl rfl ?_
  refine sa trivial rfl rfl ?_
  refine St.nil fun a9 h9=>?_
  refine hK8 _ _ ?_
  refine fr_false (t:=7) h9 rfl ?_
  refine wp_seq_k fun K10 hK10=>?_
  refine wp_seq_k fun K11 hK11=>?_
  refine rg h9 fun ops=>?_;clear h9 a9
  refine seq trivial rfl rfl rfl ?_
  refine sa trivial rfl rfl ?_
  refine St.nil fun a12 h12=>?_
  refine hK11 _ _ ?_
  refine fr_false (t:=10) h12 rfl ?_
  refine rg h12 fun ops=>?_;clear h12 a12
  refine seq trivial rfl rfl rfl ?_
  refine sa trivial rfl rfl ?_
  refine St.nil fun a13 h13=>?_
  refine hK10 _ _ ?_
  refine fr_false (t:=10) h13 rfl ?_
  refine wp_seq_k fun K14 hK14=>?_
  refine wp_seq_k fun K15 hK15=>?_
  refine rg h13 fun ops=>?_;clear h13 a13
  refine seq trivial rfl rfl rfl ?_
  refine sa trivial rfl rfl ?_
  refine St.nil fun a16 h16=>?_
  refine hK15 _ _ ?_
  refine fr_false (t:=13) h16 rfl ?_
  refine wp_seq_k fun K17 hK17=>?_
  refine rg h16 fun ops=>?_;clear h16 a16
  intro a18 h18
  refine fr_pure (t:=15) (v:=.bool true) (w':=w3) h18 rfl rfl rfl (fun K hK=>?_) ?_
  ·have k0:a18.tmps.getD 5 undef=.int .i64 11:=h18.sl 5 _ rfl
   go_simp
   exact hK
  clear h18;intro a19 hF19
  refine St.go hF19 ?_;clear hF19 a19
  refine sa trivial rfl rfl ?_
  refine St.nil fun a20 h20=>?_
  refine hK17 _ _ ?_
  refine fr_true (t:=13) h20 rfl ?_
  refine wp_skip ?_
  refine hK14 _ _ ?_
  refine fr_true (t:=13) h20 rfl ?_
  refine rg h20 fun ops=>?_;clear h20 a20
  refine sfIns1 trivial rfl rfl ?_
  refine s1 1 inf1Int hW3 rfl rfl rfl rfl rfl rfl ?_
  clear hW3;intro w21 hW21
  refine St.nil fun a22 h22=>?_
  refine hK5 _ _ ?_
  refine wp_seq_k fun K23 hK23=>?_
  refine rg h22 fun ops=>?_;clear h22 a22
  refine sS 1 8 Tryz.underlying41 rfl infIns hW21 trivial rfl rfl rfl rfl ?_
  refine sT 0 hW21 rfl rfl infIns rfl rfl rfl ?_
  clear hW21;intro w24 hW24
  refine sa trivial rfl rfl ?_
  refine St.nil fun a25 h25=>?_
  refine hK23 _ _ ?_
  refine wp_ret ?_;with_reducible repeat first | refine of_then_ret ?_ | refine of_block_ret ?_
  have k0:a25.tmps[2]?.getD undef=.pointer (some ⟨B3,0,none⟩):=h25.sl2 2 _ rfl
  have k1:a25.tmps[3]?.getD undef=.bool true:=h25.sl2 3 _ rfl
  have c0:w24.cell? ⟨B3,0,none⟩=some (.int .i64 11):=cellOf (hW24.get 0 rfl) 0 _ rfl
  have c1:w24.cell? ⟨B3,1,none⟩=some (.int .i64 0):=cellOf (hW24.get 0 rfl) 1 _ rfl
  have c2:w24.cell? ⟨B3,2,none⟩=some (.int .i64 xb):=cellOf (hW24.get 0 rfl) 2 _ rfl
  have c3:w24.cell? ⟨B3,3,none⟩=some (.int .i64 xc):=cellOf (hW24.get 0 rfl) 3 _ rfl
  have c4:w24.cell? ⟨B3,4,none⟩=some (.int .i64 xk):=cellOf (hW24.get 0 rfl) 4 _ rfl
  have c5:w24.cell? ⟨B3,5,none⟩=some (.int .i64 xn):=cellOf (hW24.get 0 rfl) 5 _ rfl
  have c6:w24.cell? ⟨B3,6,none⟩=some (.slice ra rl rc):=cellOf (hW24.get 0 rfl) 6 _ rfl
  have c7:w24.cell? ⟨B3,7,none⟩=some (.slice aa al ac):=cellOf (hW24.get 0 rfl) 7 _ rfl
  exact bodyPost_ret (v:=.tuple #[.agg #[.int .i64 11,.int .i64 0,.int .i64 xb,.int .i64 xc,.int .i64 xk,.int .i64 xn,.slice ra rl rc,.slice aa al ac],.bool true]) (by simp [results,Tryz.results120,go_sem,k0,k1,c0,c1,c2,c3,c4,c5,c6,c7]) h25.defers ⟨rfl,hW24.bel⟩
theorem wf12 {xa xb xc xk xn : Int} {ra aa : Option Addr} {rl rc al ac : Nat} {w : World} :
    Rd Tryz.prog 120 #[.agg #[.int .i64 12,.int .i64 xa,.int .i64 xb,.int .i64 xc,.int .i64 xk,.int .i64 xn,.slice ra rl rc,.slice aa al ac]] w (.tuple #[.agg #[.int .i64 12,.int .i64 xa,.int .i64 xb,.int .i64 xc,.int .i64 xk,.int .i64 xn,.slice ra rl rc,.slice aa al ac],.bool true]):=by
  refine fr_enter (n:=48) Tryz.func120 rfl rfl rfl ?_
  intro a hF
  have hW:=Wd.start w
  replace hF:Fr 48 a [(0,.agg #[.int .i64 12,.int .i64 xa,.int .i64 xb,.int .i64 xc,.int .i64 xk,.int .i64 xn,.slice ra rl rc,.slice aa al ac])]:=hF
  refine wp_seq_k fun K1 hK1=>?_
  refine rg hF fun ops=>?_;clear hF a
  refine sB hW trivial rfl rfl ?_
  clear hW;intro w2 B2 hW2 hN;clear hN
  refine sAIns hW2 trivial rfl ?_
  clear hW2;intro w3 B3 hW3 hN;clear hN
  refine sa trivial rfl rfl ?_
  refine St.nil fun a4 h4=>?_
  refine hK1 _ _ ?_
  refine wp_seq_k fun K5 hK5=>?_
  refine wp_seq_k fun K6 hK6=>?_
  refine rg h4 fun ops=>?_;clear h4 a4
  refine sfIns0 trivial rfl rfl ?_
  refine sbInt 1 hW3 trivial rfl rfl rfl rfl ?_
  refine St.nil fun a7 h7=>?_
  refine hK6 _ _ ?_
  refine wp_block ?_
  refine wp_seq_k fun K8 hK8=>?_
  refine rg h7 fun ops=>?_;clear h7 a7
  refine seq trivial rfl rfl rfl ?_
  refine sa trivial rfl rfl ?_
  refine St.nil fun a9 h9=>?_
  refine hK8 _ _ ?_
  refine fr_false (t:=7) h9 rfl ?_
  refine wp_seq_k fun K10 hK10=>?_
  refine wp_seq_k fun K11 hK11=>?_
  refine rg h9 fun ops=>?_;clear h9 a9
  refine seq trivial rfl rfl rfl ?_
  refine sa trivial rfl rfl ?_
  refine St.nil fun a12 h12=>?_
  refine hK11 _ _ ?_
  refine fr_false (t:=10) h12 rfl ?_
  refine rg h12 fun ops=>?_;clear h12 a12
  intro a13 h13
  refine fr_pure (t:=12) (v:=.bool true) (w':=w3) h13 rfl rfl rfl (fun K hK=>?_) ?_
  ·have k0:a13.tmps.getD 5 undef=.int .i64 12:=h13.sl 5 _ rfl
   go_simp
   exact hK
  clear h13;intro a14 hF14
  refine St.go hF14 ?_;clear hF14 a14
  refine sa trivial rfl rfl ?_
  refine St.nil fun a15 h15=>?_
  refine hK10 _ _ ?_
  refine fr_true (t:=10) h15 rfl ?_
  refine wp_skip ?_
  refine hK5 _ _ ?_
  refine wp_seq_k fun K16 hK16=>?_
  refine rg h15 fun ops=>?_;clear h15 a15
  refine sS 1 8 Tryz.underlying41 rfl infIns hW3 trivial rfl rfl rfl rfl ?_
  refine sT 0 hW3 rfl rfl infIns rfl rfl rfl ?_
  clear hW3;intro w17 hW17
  refine sa trivial rfl rfl ?_
  refine St.nil fun a18 h18=>?_
  refine hK16 _ _ ?_
  refine wp_ret ?_;with_reducible repeat first | refine of_then_ret ?_ | refine of_block_ret ?_
  have k0:a18.tmps[2]?.getD undef=.pointer (some ⟨B3,0,none⟩):=h18.sl2 2 _ rfl
  have k1:a18.tmps[3]?.getD undef=.bool true:=h18.sl2 3 _ rfl
  have c0:w17.cell? ⟨B3,0,none⟩=some (.int .i64 12):=cellOf (hW17.get 0 rfl) 0 _ rfl
  have c1:w17.cell? ⟨B3,1,none⟩=some (.int .i64 xa):=cellOf (hW17.get 0 rfl) 1 _ rfl
  have c2:w17.cell? ⟨B3,2,none⟩=some (.int .i64 xb):=cellOf (hW17.get 0 rfl) 2 _ rfl
  have c3:w17.cell? ⟨B3,3,none⟩=some (.int .i64 xc):=cellOf (hW17.get 0 rfl) 3 _ rfl
  have c4:w17.cell? ⟨B3,4,none⟩=some (.int .i64 xk):=cellOf (hW17.get 0 rfl) 4 _ rfl
  have c5:w17.cell? ⟨B3,5,none⟩=some (.int .i64 xn):=cellOf (hW17.get 0 rfl) 5 _ rfl
  have c6:w17.cell? ⟨B3,6,none⟩=some (.slice ra rl rc):=cellOf (hW17.get 0 rfl) 6 _ rfl
  have c7:w17.cell? ⟨B3,7,none⟩=some (.slice aa al ac):=cellOf (hW17.get 0 rfl) 7 _ rfl
  exact bodyPost_ret (v:=.tuple #[.agg #[.int .i64 12,.int .i64 xa,.int .i64 xb,.int .i64 xc,.int .i64 xk,.int .i64 xn,.slice ra rl rc,.slice aa al ac],.bool true]) (by simp [results,Tryz.results120,go_sem,k0,k1,c0,c1,c2,c3,c4,c5,c6,c7]) h18.defers ⟨rfl,hW17.bel⟩
theorem wf13 {xa xb xc xk xn : Int} {ra aa : Option Addr} {rl rc al ac : Nat} {w : World} :
    Rd Tryz.prog 120 #[.agg #[.int .i64 13,.int .i64 xa,.int .i64 xb,.int .i64 xc,.int .i64 xk,.int .i64 xn,.slice ra rl rc,.slice aa al ac]] w (.tuple #[.agg #[.int .i64 13,.int .i64 0,.int .i64 xb,.int .i64 xc,.int .i64 xk,.int .i64 xn,.slice ra rl rc,.slice aa al ac],.bool true]):=by
  refine fr_enter (n:=48) Tryz.func120 rfl rfl rfl ?_
  intro a hF
  have hW:=Wd.start w
  replace hF:Fr 48 a [(0,.agg #[.int .i64 13,.int .i64 xa,.int .i64 xb,.int .i64 xc,.int .i64 xk,.int .i64 xn,.slice ra rl rc,.slice aa al ac])]:=hF
  refine wp_seq_k fun K1 hK1=>?_
  refine rg hF fun ops=>?_;clear hF a
  refine sB hW trivial rfl rfl ?_
  clear hW;intro w2 B2 hW2 hN;clear hN
  refine sAIns hW2 trivial rfl ?_
  clear hW2;intro w3 B3 hW3 hN;clear hN
  refine sa trivial rfl rfl ?_
  refine St.nil fun a4 h4=>?_
  refine hK1 _ _ ?_
  refine wp_seq_k fun K5 hK5=>?_
  refine wp_seq_k fun K6 hK6=>?_
  refine rg h4 fun ops=>?_;clear h4 a4
  refine sfIns0 trivial rfl rfl ?_
  refine sbInt 1 hW3 trivial rfl rfl rfl rfl ?_
  refine St.nil fun a7 h7=>?_
  refine hK6 _ _ ?_
  refine wp_block ?_
  refine wp_seq_k fun K8 hK8=>?_
  refine rg h7 fun ops=>?_;clear h7 a7
  refine seq trivial rfl rfl rfl ?_
  refine sa trivial rfl rfl ?_
  refine St.nil fun a9 h9=>?_
  refine hK8 _ _ ?_
  refine fr_false (t:=7) h9 rfl ?_
  refine wp_seq_k fun K10 hK10=>?_
  refine wp_seq_k fun K11 hK11=>?_
  refine rg h9 fun ops=>?_;clear h9 a9
  refine seq trivial rfl rfl rfl ?_
  refine sa trivial rfl rfl ?_
  refine St.nil fun a12 h12=>?_
  refine hK11 _ _ ?_
  refine fr_false (t:=10) h12 rfl ?_
  refine rg h12 fun ops=>?_;clear h12 a12
  refine seq trivial rfl rfl rfl ?_
  refine sa trivial rfl rfl ?_
  refine St.nil fun a13 h13=>?_
  refine hK10 _ _ ?_
  refine fr_false (t:=10) h13 rfl ?_
  refine wp_seq_k fun K14 hK14=>?_
  refine wp_seq_k fun K15 hK15=>?_
  refine rg h13 fun ops=>?_;clear h13 a13
  refine seq trivial rfl rfl rfl ?_
  refine sa trivial rfl rfl ?_
  refine St.nil fun a16 h16=>?_
  refine hK15 _ _ ?_
  refine fr_false (t:=13) h16 rfl ?_
  refine wp_seq_k fun K17 hK17=>?_
  refine rg h16 fun ops=>?_;clear h16 a16
  refine seq trivial rfl rfl rfl ?_
  refine sa trivial rfl rfl ?_
  refine St.nil fun a18 h18=>?_
  refine hK17 _ _ ?_
  refine fr_false (t:=13) h18 rfl ?_
  refine rg h18 fun ops=>?_;clear h18 a18
  intro a19 h19
  refine fr_pure (t:=16) (v:=.bool true) (w':=w3) h19 rfl rfl rfl (fun K hK=>?_) ?_
  ·have k0:a19.tmps.getD 5 undef=.int .i64 13:=h19.sl 5 _ rfl
   go_simp
   exact hK
  clear h19;intro a20 hF20
  refine St.go hF20 ?_;clear hF20 a20
  refine sa trivial rfl rfl ?_
  refine St.nil fun a21 h21=>?_
  refine hK14 _ _ ?_
  refine fr_true (t:=13) h21 rfl ?_
  refine rg h21 fun ops=>?_;clear h21 a21
  refine sfIns1 trivial rfl rfl ?_
  refine s1 1 inf1Int hW3 rfl rfl rfl rfl rfl rfl ?_
  clear hW3;intro w22 hW22
  refine St.nil fun a23 h23=>?_
  refine hK5 _ _ ?_
  refine wp_seq_k fun K24 hK24=>?_
  refine rg h23 fun ops=>?_;clear h23 a23
  refine sS 1 8 Tryz.underlying41 rfl infIns hW22 trivial rfl rfl rfl rfl ?_
  refine sT 0 hW22 rfl rfl infIns rfl rfl rfl ?_
  clear hW22;intro w25 hW25
  refine sa trivial rfl rfl ?_
  refine St.nil fun a26 h26=>?_
  refine hK24 _ _ ?_
  refine wp_ret ?_;with_reducible repeat first | refine of_then_ret ?_ | refine of_block_ret ?_
  have k0:a26.tmps[2]?.getD undef=.pointer (some ⟨B3,0,none⟩):=h26.sl2 2 _ rfl
  have k1:a26.tmps[3]?.getD undef=.bool true:=h26.sl2 3 _ rfl
  have c0:w25.cell? ⟨B3,0,none⟩=some (.int .i64 13):=cellOf (hW25.get 0 rfl) 0 _ rfl
  have c1:w25.cell? ⟨B3,1,none⟩=some (.int .i64 0):=cellOf (hW25.get 0 rfl) 1 _ rfl
  have c2:w25.cell? ⟨B3,2,none⟩=some (.int .i64 xb):=cellOf (hW25.get 0 rfl) 2 _ rfl
  have c3:w25.cell? ⟨B3,3,none⟩=some (.int .i64 xc):=cellOf (hW25.get 0 rfl) 3 _ rfl
  have c4:w25.cell? ⟨B3,4,none⟩=some (.int .i64 xk):=cellOf (hW25.get 0 rfl) 4 _ rfl
  have c5:w25.cell? ⟨B3,5,none⟩=some (.int .i64 xn):=cellOf (hW25.get 0 rfl) 5 _ rfl
  have c6:w25.cell? ⟨B3,6,none⟩=some (.slice ra rl rc):=cellOf (hW25.get 0 rfl) 6 _ rfl
  have c7:w25.cell? ⟨B3,7,none⟩=some (.slice aa al ac):=cellOf (hW25.get 0 rfl) 7 _ rfl
  exact bodyPost_ret (v:=.tuple #[.agg #[.int .i64 13,.int .i64 0,.int .i64 xb,.int .i64 xc,.int .i64 xk,.int .i64 xn,.slice ra rl rc,.slice aa al ac],.bool true]) (by simp [results,Tryz.results120,go_sem,k0,k1,c0,c1,c2,c3,c4,c5,c6,c7]) h26.defers ⟨rfl,hW25.bel⟩
theorem wf14 {xa xb xc xk xn : Int} {ra aa : Option Addr} {rl rc al ac : Nat} {w : World} :
    Rd Tryz.prog 120 #[.agg #[.int .i64 14,.int .i64 xa,.int .i64 xb,.int .i64 xc,.int .i64 xk,.int .i64 xn,.slice ra rl rc,.slice aa al ac]] w (.tuple #[.agg #[.int .i64 14,.int .i64 xa,.int .i64 xb,.int .i64 xc,.int .i64 0,.int .i64 xn,.slice none 0 0,.slice none 0 0],.bool true]):=by
  refine fr_enter (n:=48) Tryz.func120 rfl rfl rfl ?_
  intro a hF
  have hW:=Wd.start w
  replace hF:Fr 48 a [(0,.agg #[.int .i64 14,.int .i64 xa,.int .i64 xb,.int .i64 xc,.int .i64 xk,.int .i64 xn,.slice ra rl rc,.slice aa al ac])]:=hF
  refine wp_seq_k fun K1 hK1=>?_
  refine rg hF fun ops=>?_;clear hF a
  refine sB hW trivial rfl rfl ?_
  clear hW;intro w2 B2 hW2 hN;clear hN
  refine sAIns hW2 trivial rfl ?_
  clear hW2;intro w3 B3 hW3 hN;clear hN
  refine sa trivial rfl rfl ?_
  refine St.nil fun a4 h4=>?_
  refine hK1 _ _ ?_
  refine wp_seq_k fun K5 hK5=>?_
  refine wp_seq_k fun K6 hK6=>?_
  refine rg h4 fun ops=>?_;clear h4 a4
  refine sfIns0 trivial rfl rfl ?_
  refine sbInt 1 hW3 trivial rfl rfl rfl rfl ?_
  refine St.nil fun a7 h7=>?_
  refine hK6 _ _ ?_
  refine wp_block ?_
  refine wp_seq_k fun K8 hK8=>?_
  refine rg h7 fun ops=>?_;clear h7 a7
  refine seq trivial rfl rfl rfl ?_
  refine sa trivial rfl rfl ?_
  refine St.nil fun a9 h9=>?_
  refine hK8 _ _ ?_
  refine fr_false (t:=7) h9 rfl ?_
  refine wp_seq_k fun K10 hK10=>?_
  refine wp_seq_k fun K11 hK11=>?_
  refine rg h9 fun ops=>?_;clear h9 a9
  refine seq trivial rfl rfl rfl ?_
  refine sa trivial rfl rfl ?_
  refine St.nil fun a12 h12=>?_
  refine hK11 _ _ ?_
  refine fr_false (t:=10) h12 rfl ?_
  refine rg h12 fun ops=>?_;clear h12 a12
  refine seq trivial rfl rfl rfl ?_
  refine sa trivial rfl rfl ?_
  refine St.nil fun a13 h13=>?_
  refine hK10 _ _ ?_
  refine fr_false (t:=10) h13 rfl ?_
  refine wp_seq_k fun K14 hK14=>?_
  refine wp_seq_k fun K15 hK15=>?_
  refine rg h13 fun ops=>?_;clear h13 a13
  refine seq trivial rfl rfl rfl ?_
  refine sa trivial rfl rfl ?_
  refine St.nil fun a16 h16=>?_
  refine hK15 _ _ ?_
  refine fr_false (t:=13) h16 rfl ?_
  refine wp_seq_k fun K17 hK17=>?_
  refine rg h16 fun ops=>?_;clear h16 a16
  refine seq trivial rfl rfl rfl ?_
  refine sa trivial rfl rfl ?_
  refine St.nil fun a18 h18=>?_
  refine hK17 _ _ ?_
  refine fr_false (t:=13) h18 rfl ?_
  refine rg h18 fun ops=>?_;clear h18 a18
  refine seq trivial rfl rfl rfl ?_
  refine sa trivial rfl rfl ?_
  refine St.nil fun a19 h19=>?_
  refine hK14 _ _ ?_
  refine fr_false (t:=13) h19 rfl ?_
  refine wp_seq_k fun K20 hK20=>?_
  refine wp_seq_k fun K21 hK21=>?_
  refine rg h19 fun ops=>?_;clear h19 a19
  refine seq trivial rfl rfl rfl ?_
  refine sa trivial rfl rfl ?_
  refine St.nil fun a22 h22=>?_
  refine hK21 _ _ ?_
  refine fr_false (t:=18) h22 rfl ?_
  refine rg h22 fun ops=>?_;clear h22 a22
  refine seq trivial rfl rfl rfl ?_
  refine sa trivial rfl rfl ?_
  refine St.nil fun a23 h23=>?_
  refine hK20 _ _ ?_
  refine fr_false (t:=18) h23 rfl ?_
  refine wp_seq_k fun K24 hK24=>?_
  refine rg h23 fun ops=>?_;clear h23 a23
  refine seq trivial rfl rfl rfl ?_
  refine sa trivial rfl rfl ?_
  refine St.nil fun a25 h25=>?_
  refine hK24 _ _ ?_
  refine fr_false (t:=23) h25 rfl ?_
  refine wp_seq_k fun K26 hK26=>?_
  refine wp_seq_k fun K27 hK27=>?_
  refine rg h25 fun ops=>?_;clear h25 a25
  refine seq trivial rfl rfl rfl ?_
  refine sa trivial rfl rfl ?_
  refine St.nil fun a28 h28=>?_
  refine hK27 _ _ ?_
  refine fr_false (t:=28) h28 rfl ?_
  refine rg h28 fun ops=>?_;clear h28 a28
  refine seq trivial rfl rfl rfl ?_
  refine sa trivial rfl rfl ?_
  refine St.nil fun a29 h29=>?_
  refine hK26 _ _ ?_
  refine fr_false (t:=28) h29 rfl ?_
  refine wp_seq_k fun K30 hK30=>?_
  refine rg h29 fun ops=>?_;clear h29 a29
  refine seq trivial rfl rfl rfl ?_
  refine sa trivial rfl rfl ?_
  refine St.nil fun a31 h31=>?_
  refine hK30 _ _ ?_
  refine fr_false (t:=34) h31 rfl ?_
  refine wp_seq_k fun K32 hK32=>?_
  refine rg h31 fun ops=>?_;clear h31 a31
  refine seq trivial rfl rfl rfl ?_
  refine sa trivial rfl rfl ?_
  refine St.nil fun a33 h33=>?_
  refine hK32 _ _ ?_
  refine fr_false (t:=38) h33 rfl ?_
  refine wp_seq_k fun K34 hK34=>?_
  refine rg h33 fun ops=>?_;clear h33 a33
  intro a35 h35
  refine fr_pure (t:=43) (v:=.bool true) (w':=w3) h35 rfl rfl rfl (fun K hK=>?_) ?_
  ·have k0:a35.tmps.getD 5 undef=.int .i64 14:=h35.sl 5 _ rfl
   go_simp
   exact hK
  clear h35;intro a36 hF36
  refine St.go hF36 ?_;clear hF36 a36
  refine sa trivial rfl rfl ?_
  refine St.nil fun a37 h37=>?_
  refine hK34 _ _ ?_
  refine fr_true (t:=42) h37 rfl ?_
  refine rg h37 fun ops=>?_;clear h37 a37
  refine sfIns4 trivial rfl rfl ?_
  refine s1 1 inf1Int hW3 rfl rfl rfl rfl rfl rfl ?_
  clear hW3;intro w38 hW38
  refine sfIns6 trivial rfl rfl ?_
  refine s1 1 inf1Ints hW38 rfl rfl rfl rfl rfl rfl ?_
  clear hW38;intro w39 hW39
  refine sfIns7 trivial rfl rfl ?_
  refine s1 1 inf1Ints hW39 rfl rfl rfl rfl rfl rfl ?_
  clear hW39;intro w40 hW40
  refine St.nil fun a41 h41=>?_
  refine hK5 _ _ ?_
  refine wp_seq_k fun K42 hK42=>?_
  refine rg h41 fun ops=>?_;clear h41 a41
  refine sS 1 8 Tryz.underlying41 rfl infIns hW40 trivial rfl rfl rfl rfl ?_
  refine sT 0 hW40 rfl rfl infIns rfl rfl rfl ?_
  clear hW40;intro w43 hW43
  refine sa trivial rfl rfl ?_
  refine St.nil fun a44 h44=>?_
  refine hK42 _ _ ?_
  refine wp_ret ?_;with_reducible repeat first | refine of_then_ret ?_ | refine of_block_ret ?_
  have k0:a44.tmps[2]?.getD undef=.pointer (some ⟨B3,0,none⟩):=h44.sl2 2 _ rfl
  have k1:a44.tmps[3]?.getD undef=.bool true:=h44.sl2 3 _ rfl
  have c0:w43.cell? ⟨B3,0,none⟩=some (.int .i64 14):=cellOf (hW43.get 0 rfl) 0 _ rfl
  have c1:w43.cell? ⟨B3,1,none⟩=some (.int .i64 xa):=cellOf (hW43.get 0 rfl) 1 _ rfl
  have c2:w43.cell? ⟨B3,2,none⟩=some (.int .i64 xb):=cellOf (hW43.get 0 rfl) 2 _ rfl
  have c3:w43.cell? ⟨B3,3,none⟩=some (.int .i64 xc):=cellOf (hW43.get 0 rfl) 3 _ rfl
  have c4:w43.cell? ⟨B3,4,none⟩=some (.int .i64 0):=cellOf (hW43.get 0 rfl) 4 _ rfl
  have c5:w43.cell? ⟨B3,5,none⟩=some (.int .i64 xn):=cellOf (hW43.get 0 rfl) 5 _ rfl
  have c6:w43.cell? ⟨B3,6,none⟩=some (.slice none 0 0):=cellOf (hW43.get 0 rfl) 6 _ rfl
  have c7:w43.cell? ⟨B3,7,none⟩=some (.slice none 0 0):=cellOf (hW43.get 0 rfl) 7 _ rfl
  exact bodyPost_ret (v:=.tuple #[.agg #[.int .i64 14,.int .i64 xa,.int .i64 xb,.int .i64 xc,.int .i64 0,.int .i64 xn,.slice none 0 0,.slice none 0 0],.bool true]) (by simp [results,Tryz.results120,go_sem,k0,k1,c0,c1,c2,c3,c4,c5,c6,c7]) h44.defers ⟨rfl,hW43.bel⟩
theorem wfNo {xop xa xb xc xk xn : Int} {ra aa : Option Addr} {rl rc al ac : Nat} {w : World} (h : xop ≠ 1 ∧ xop ≠ 2 ∧ xop ≠ 3 ∧ xop ≠ 4 ∧ xop ≠ 5 ∧ xop ≠ 6 ∧ xop ≠ 7 ∧ xop ≠ 8 ∧ xop ≠ 9 ∧ xop ≠ 10 ∧ xop ≠ 11 ∧ xop ≠ 12 ∧ xop ≠ 13 ∧ xop ≠ 14) :
    Rd Tryz.prog 120 #[.agg #[.int .i64 xop,.int .i64 xa,.int .i64 xb,.int .i64 xc,.int .i64 xk,.int .i64 xn,.slice ra rl rc,.slice aa al ac]] w (.tuple #[.agg #[.int .i64 xop,.int .i64 xa,.int .i64 xb,.int .i64 xc,.int .i64 xk,.int .i64 xn,.slice ra rl rc,.slice aa al ac],.bool false]):=by
  refine fr_enter (n:=48) Tryz.func120 rfl rfl rfl ?_
  intro a hF
  have hW:=Wd.start w
  replace hF:Fr 48 a [(0,.agg #[.int .i64 xop,.int .i64 xa,.int .i64 xb,.int .i64 xc,.int .i64 xk,.int .i64 xn,.slice ra rl rc,.slice aa al ac])]:=hF
  refine wp_seq_k fun K1 hK1=>?_
  refine rg hF fun ops=>?_;clear hF a
  refine sB hW trivial rfl rfl ?_
  clear hW;intro w2 B2 hW2 hN;clear hN
  refine sAIns hW2 trivial rfl ?_
  clear hW2;intro w3 B3 hW3 hN;clear hN
  refine sa trivial rfl rfl ?_
  refine St.nil fun a4 h4=>?_
  refine hK1 _ _ ?_
  refine wp_seq_k fun K5 hK5=>?_
  refine wp_seq_k fun K6 hK6=>?_
  refine rg h4 fun ops=>?_;clear h4 a4
  refine sfIns0 trivial rfl rfl ?_
  refine sbInt 1 hW3 trivial rfl rfl rfl rfl ?_
  refine St.nil fun a7 h7=>?_
  refine hK6 _ _ ?_
  refine wp_block ?_
  refine wp_seq_k fun K8 hK8=>?_
  refine rg h7 fun ops=>?_;clear h7 a7
  refine seq trivial rfl rfl rfl ?_
  refine sa trivial rfl rfl ?_
  refine St.nil fun a9 h9=>?_
  refine hK8 _ _ ?_
  refine fr_cond (t:=7) h9 rfl (fun hb=>?_) (fun hb=>?_)
  ·exact absurd (by simpa using hb) (h.1)
  clear hb
  refine wp_seq_k fun K10 hK10=>?_
  refine wp_seq_k fun K11 hK11=>?_
  refine rg h9 fun ops=>?_;clear h9 a9
  refine seq trivial rfl rfl rfl ?_
  refine sa trivial rfl rfl ?_
  refine St.nil fun a12 h12=>?_
  refine hK11 _ _ ?_
  refine fr_cond (t:=10) h12 rfl (fun hb=>?_) (fun hb=>?_)
  ·rw [hb] at h12
   exact absurd (by simpa using hb) (h.2.2.1)
  rw [hb] at h12
  clear hb
  refine rg h12 fun ops=>?_;clear h12 a12
  refine seq trivial rfl rfl rfl ?_
  refine sa trivial rfl rfl ?_
  refine St.nil fun a13 h13=>?_
  refine hK10 _ _ ?_
  refine fr_cond (t:=10) h13 rfl (fun hb=>?_) (fun hb=>?_)
  ·rw [hb] at h13
   exact absurd (by simpa using hb) (h.2.2.2.2.2.2.2.2.2.2.2.1)
  rw [hb] at h13
  clear hb
  refine wp_seq_k fun K14 hK14=>?_
  refine wp_seq_k fun K15 hK15=>?_
  refine rg h13 fun ops=>?_;clear h13 a13
  refine seq trivial rfl rfl rfl ?_
  refine sa trivial rfl rfl ?_
  refine St.nil fun a16 h16=>?_
  refine hK15 _ _ ?_
  refine fr_cond (t:=13) h16 rfl (fun hb=>?_) (fun hb=>?_)
  ·rw [hb] at h16
   exact absurd (by simpa using hb) (h.2.2.2.1)
  rw [hb] at h16
  clear hb
  refine wp_seq_k fun K17 hK17=>?_
  refine rg h16 fun ops=>?_;clear h16 a16
  refine seq trivial rfl rfl rfl ?_
  refine sa trivial rfl rfl ?_
  refine St.nil fun a18 h18=>?_
  refine hK17 _ _ ?_
  refine fr_cond (t:=13) h18 rfl (fun hb=>?_) (fun hb=>?_)
  ·rw [hb] at h18
   exact absurd (by simpa using hb) (h.2.2.2.2.2.2.2.2.2.2.1)
  rw [hb] at h18
  clear hb
  refine rg h18 fun ops=>?_;clear h18 a18
  refine seq trivial rfl rfl rfl ?_
  refine sa trivial rfl rfl ?_
  refine St.nil fun a19 h19=>?_
  refine hK14 _ _ ?_
  refine fr_cond (t:=13) h19 rfl (fun hb=>?_) (fun hb=>?_)
  ·rw [hb] at h19
   exact absurd (by simpa using hb) (h.2.2.2.2.2.2.2.2.2.2.2.2.1)
  rw [hb] at h19
  clear hb
  refine wp_seq_k fun K20 hK20=>?_
  refine wp_seq_k fun K21 hK21=>?_
  refine rg h19 fun ops=>?_;clear h19 a19
  refine seq trivial rfl rfl rfl ?_
  refine sa trivial rfl rfl ?_
  refine St.nil fun a22 h22=>?_
  refine hK21 _ _ ?_
  refine fr_cond (t:=18) h22 rfl (fun hb=>?_) (fun hb=>?_)
  ·rw [hb] at h22
   exact absurd (by simpa using hb) (h.2.2.2.2.2.2.2.1)
  rw [hb] at h22
  clear hb
  refine rg h22 fun ops=>?_;clear h22 a22
  refine seq trivial rfl rfl rfl ?_
  refine sa trivial rfl rfl ?_
  refine St.nil fun a23 h23=>?_
  refine hK20 _ _ ?_
  refine fr_cond (t:=18) h23 rfl (fun hb=>?_) (fun hb=>?_)
  ·rw [hb] at h23
   exact absurd (by simpa using hb) (h.2.2.2.2.2.2.2.2.1)
  rw [hb] at h23
  clear hb
  refine wp_seq_k fun K24 hK24=>?_
  refine rg h23 fun ops=>?_;clear h23 a23
  refine seq trivial rfl rfl rfl ?_
  refine sa trivial rfl rfl ?_
  refine St.nil fun a25 h25=>?_
  refine hK24 _ _ ?_
  refine fr_cond (t:=23) h25 rfl (fun hb=>?_) (fun hb=>?_)
  ·exact absurd (by simpa using hb) (h.2.2.2.2.2.2.2.2.2.1)
  clear hb
  refine wp_seq_k fun K26 hK26=>?_
  refine wp_seq_k fun K27 hK27=>?_
  refine rg h25 fun ops=>?_;clear h25 a25
  refine seq trivial rfl rfl rfl ?_
  refine sa trivial rfl rfl ?_
  refine St.nil fun a28 h28=>?_
  refine hK27 _ _ ?_
  refine fr_cond (t:=28) h28 rfl (fun hb=>?_) (fun hb=>?_)
  ·rw [hb] at h28
   exact absurd (by simpa using hb) (h.2.1)
  rw [hb] at h28
  clear hb
  refine rg h28 fun ops=>?_;clear h28 a28
  refine seq trivial rfl rfl rfl ?_
  refine sa trivial rfl rfl ?_
  refine St.nil fun a29 h29=>?_
  refine hK26 _ _ ?_
  refine fr_cond (t:=28) h29 rfl (fun hb=>?_) (fun hb=>?_)
  ·rw [hb] at h29
   exact absurd (by simpa using hb) (h.2.2.2.2.2.2.1)
  rw [hb] at h29
  clear hb
  refine wp_seq_k fun K30 hK30=>?_
  refine rg h29 fun ops=>?_;clear h29 a29
  refine seq trivial rfl rfl rfl ?_
  refine sa trivial rfl rfl ?_
  refine St.nil fun a31 h31=>?_
  refine hK30 _ _ ?_
  refine fr_cond (t:=34) h31 rfl (fun hb=>?_) (fun hb=>?_)
  ·exact absurd (by simpa using hb) (h.2.2.2.2.2.1)
  clear hb
  refine wp_seq_k fun K32 hK32=>?_
  refine rg h31 fun ops=>?_;clear h31 a31
  refine seq trivial rfl rfl rfl ?_
  refine sa trivial rfl rfl ?_
  refine St.nil fun a33 h33=>?_
  refine hK32 _ _ ?_
  refine fr_cond (t:=38) h33 rfl (fun hb=>?_) (fun hb=>?_)
  ·exact absurd (by simpa using hb) (h.2.2.2.2.1)
  clear hb
  refine wp_seq_k fun K34 hK34=>?_
  refine rg h33 fun ops=>?_;clear h33 a33
  refine seq trivial rfl rfl rfl ?_
  refine sa trivial rfl rfl ?_
  refine St.nil fun a35 h35=>?_
  refine hK34 _ _ ?_
  refine fr_cond (t:=42) h35 rfl (fun hb=>?_) (fun hb=>?_)
  ·exact absurd (by simpa using hb) (h.2.2.2.2.2.2.2.2.2.2.2.2.2)
  clear hb
  refine wp_seq_k fun K36 hK36=>?_
  refine rg h35 fun ops=>?_;clear h35 a35
  refine sS 1 8 Tryz.underlying41 rfl infIns hW3 trivial rfl rfl rfl rfl ?_
  refine sT 0 hW3 rfl rfl infIns rfl rfl rfl ?_
  clear hW3;intro w37 hW37
  refine sa trivial rfl rfl ?_
  refine St.nil fun a38 h38=>?_
  refine hK36 _ _ ?_
  refine wp_ret ?_;with_reducible repeat first | refine of_then_ret ?_ | refine of_block_ret ?_
  have k0:a38.tmps[2]?.getD undef=.pointer (some ⟨B3,0,none⟩):=h38.sl2 2 _ rfl
  have k1:a38.tmps[3]?.getD undef=.bool false:=h38.sl2 3 _ rfl
  have c0:w37.cell? ⟨B3,0,none⟩=some (.int .i64 xop):=cellOf (hW37.get 0 rfl) 0 _ rfl
  have c1:w37.cell? ⟨B3,1,none⟩=some (.int .i64 xa):=cellOf (hW37.get 0 rfl) 1 _ rfl
  have c2:w37.cell? ⟨B3,2,none⟩=some (.int .i64 xb):=cellOf (hW37.get 0 rfl) 2 _ rfl
  have c3:w37.cell? ⟨B3,3,none⟩=some (.int .i64 xc):=cellOf (hW37.get 0 rfl) 3 _ rfl
  have c4:w37.cell? ⟨B3,4,none⟩=some (.int .i64 xk):=cellOf (hW37.get 0 rfl) 4 _ rfl
  have c5:w37.cell? ⟨B3,5,none⟩=some (.int .i64 xn):=cellOf (hW37.get 0 rfl) 5 _ rfl
  have c6:w37.cell? ⟨B3,6,none⟩=some (.slice ra rl rc):=cellOf (hW37.get 0 rfl) 6 _ rfl
  have c7:w37.cell? ⟨B3,7,none⟩=some (.slice aa al ac):=cellOf (hW37.get 0 rfl) 7 _ rfl
  exact bodyPost_ret (v:=.tuple #[.agg #[.int .i64 xop,.int .i64 xa,.int .i64 xb,.int .i64 xc,.int .i64 xk,.int .i64 xn,.slice ra rl rc,.slice aa al ac],.bool false]) (by simp [results,Tryz.results120,go_sem,k0,k1,c0,c1,c2,c3,c4,c5,c6,c7]) h38.defers ⟨rfl,hW37.bel⟩
theorem fb (f : Bool) (a : Int) : (!f && a != 0) = !((bif f then 0 else a) == 0) := by cases f <;> simp [bne]
theorem fbn (f : Bool) (l : Nat) : (!f && decide (0 < l)) = !(((bif f then 0 else l : Nat) : Int) == 0) := by
  cases f
  · by_cases h:l=0
    · simp [h]
    · have:0 < l:=by omega
      simp [this,h]
  · simp
theorem bounds_eq (lm : Nat) (op k : Int) (rl al : Nat) : (if op = 2 ∧ (k < 1 ∨ 9 < k) then 1
    else if op=5∧8 < al then 2
    else if (op=6 ∨ op=7)∧(k < 0 ∨ 7 < k) then 1
    else if op=14∧(k < 0 ∨ (lm:Int)≤k) then 1
    else if op=14∧(6 < rl ∨ 8 < al) then 2
    else 0)=boundsC lm op k rl al:=by
  unfold boundsC
  by_cases h2:op=2
  · subst h2;simp [rangeC]
  · by_cases h6:op=6 ∨ op=7
    · have h5:¬ op=5:=by omega
      have h14:¬ op=14:=by omega
      simp [h2,h5,h6,h14,rangeC]
    · by_cases h5:op=5
      · subst h5;simp [manyC];split <;> split <;> omega
      · by_cases h14:op=14
        · subst h14
          simp [rangeC,handedC,manyC]
          repeat' split
          all_goals omega
        · simp [h2,h5,h6,h14]
theorem insForm_bare {lm : Nat} {op a b c k n : Int} {rl al : Nat} {fa fb' fc fk fn fr fs : Bool} (e : fieldsOf op = some (fa, fb', fc, fk, fn, fr, fs)) :
    insForm lm op a b c k n rl al=if bareB (bif fa then 0 else a) (bif fb' then 0 else b) (bif fc then 0 else c) (bif fk then 0 else k) (bif fn then 0 else n) (bif fr then 0 else rl) (bif fs then 0 else al)=true then boundsC lm op k rl al else 4:=by
  simp only [insForm,e,bounds_eq]
  rw [fb,fb,fb,fb,fb,fbn,fbn]
  unfold bareB
  generalize ((bif fa then 0 else a) == 0)=q1
  generalize ((bif fb' then 0 else b) == 0)=q2
  generalize ((bif fc then 0 else c) == 0)=q3
  generalize ((bif fk then 0 else k) == 0)=q4
  generalize ((bif fn then 0 else n) == 0)=q5
  generalize (((bif fr then 0 else rl:Nat):Int) == 0)=q6
  generalize (((bif fs then 0 else al:Nat):Int) == 0)=q7
  cases q1 <;> cases q2 <;> cases q3 <;> cases q4 <;> cases q5 <;> cases q6 <;> cases q7 <;> rfl
theorem cIns1 {xa xb xc xk xn : Int} {ra aa : Option Addr} {rl rc al ac : Nat} {am : Option Addr} {lm cm : Nat} {w : World} (hlm : lm < 2305843009213693952) :
    Rd Tryz.prog 97 #[.agg #[.slice am lm cm],.agg #[.int .i64 1,.int .i64 xa,.int .i64 xb,.int .i64 xc,.int .i64 xk,.int .i64 xn,.slice ra rl rc,.slice aa al ac]] w (.int .i64 (insForm lm 1 xa xb xc xk xn rl al)):=by
  refine fr_enter (n:=20) Tryz.func97 rfl rfl rfl ?_
  intro a hF
  have hW:=Wd.start w
  replace hF:Fr 20 a [(0,.agg #[.slice am lm cm]),(1,.agg #[.int .i64 1,.int .i64 xa,.int .i64 xb,.int .i64 xc,.int .i64 xk,.int .i64 xn,.slice ra rl rc,.slice aa al ac])]:=hF
  refine wp_seq_k fun K1 hK1=>?_
  refine rg hF fun ops=>?_;clear hF a
  refine sB hW trivial rfl rfl ?_
  clear hW;intro w2 B2 hW2 hN;clear hN
  refine sB hW2 trivial rfl rfl ?_
  clear hW2;intro w3 B3 hW3 hN;clear hN
  refine sa trivial rfl rfl ?_
  refine St.nil fun a4 h4=>?_
  refine hK1 _ _ ?_
  refine wp_seq_k fun K5 hK5=>?_
  refine rg h4 fun ops=>?_;clear h4 a4
  refine sS 0 8 Tryz.underlying41 rfl infIns hW3 trivial rfl rfl rfl rfl ?_
  refine sc_1 cf120 hW3 (wf1) trivial rfl rfl ?_
  clear hW3;intro w6 hW6
  refine sm trivial rfl rfl ?_
  intro a7 h7
  refine fr_pure (t:=10) (v:=.agg #[.int .i64 1,.int .i64 xa,.int .i64 xb,.int .i64 xc,.int .i64 xk,.int .i64 0,.slice ra rl rc,.slice aa al ac]) (w':=w6) h7 rfl rfl rfl (fun K hK=>?_) ?_
  ·have k0:a7.tmps.getD 7 undef=.tuple #[.agg #[.int .i64 1,.int .i64 xa,.int .i64 xb,.int .i64 xc,.int .i64 xk,.int .i64 0,.slice ra rl rc,.slice aa al ac],.bool true]:=h7.sl 7 _ rfl
   go_simp
   exact hK
  clear h7;intro a8 hF8
  refine fr_pure (t:=11) (v:=.bool true) (w':=w6) hF8 rfl rfl rfl (fun K hK=>?_) ?_
  ·have k0:a8.tmps.getD 7 undef=.tuple #[.agg #[.int .i64 1,.int .i64 xa,.int .i64 xb,.int .i64 xc,.int .i64 xk,.int .i64 0,.slice ra rl rc,.slice aa al ac],.bool true]:=hF8.sl 7 _ rfl
   go_simp
   exact hK
  clear hF8;intro a9 hF9
  refine St.go hF9 ?_;clear hF9 a9
  refine sAIns hW6 trivial rfl ?_
  clear hW6;intro w10 B10 hW10 hN;clear hN
  refine sT 0 hW10 rfl rfl infIns rfl rfl rfl ?_
  clear hW10;intro w11 hW11
  refine sa trivial rfl rfl ?_
  refine St.nil fun a12 h12=>?_
  refine hK5 _ _ ?_
  refine wp_seq_k fun K13 hK13=>?_
  refine wp_seq_k fun K14 hK14=>?_
  refine rg h12 fun ops=>?_;clear h12 a12
  refine sm trivial rfl rfl ?_
  refine sn trivial rfl rfl ?_
  refine St.nil fun a15 h15=>?_
  refine hK14 _ _ ?_
  refine fr_false (t:=13) h15 rfl ?_
  refine wp_skip ?_
  refine hK13 _ _ ?_
  refine wp_seq_k fun K16 hK16=>?_
  refine wp_seq_k fun K17 hK17=>?_
  refine rg h15 fun ops=>?_;clear h15 a15
  refine sS 0 8 Tryz.underlying41 rfl infIns hW11 trivial rfl rfl rfl rfl ?_
  refine sc_1 cf121 hW11 (isBare_any) trivial rfl rfl ?_
  clear hW11;intro w18 hW18
  refine sn trivial rfl rfl ?_
  refine St.nil fun a19 h19=>?_
  refine hK17 _ _ ?_
  refine fr_cond (t:=16) h19 rfl (fun hb=>?_) (fun hb=>?_)
  ·have hc20:(bareB xa xb xc xk 0 rl al)=false:=by simpa using hb
   clear hb
   refine wp_seq_k fun K21 hK21=>?_
   refine rg h19 fun ops=>?_;clear h19 a19
   refine sa trivial rfl rfl ?_
   refine St.nil fun a22 h22=>?_
   refine hK21 _ _ ?_
   refine wp_ret ?_;with_reducible repeat first | refine of_then_ret ?_ | refine of_block_ret ?_
   have hB:=hc20
   skip
   have R:insForm lm 1 xa xb xc xk xn rl al=4:=(insForm_bare (show fieldsOf 1=some (false,false,false,false,true,false,false) from rfl)).trans (if_neg (fun hh=>Bool.noConfusion (hh.symm.trans hc20)))
   exact ret_tmp (t:=4) h22 rfl rfl ⟨by rw [R],hW18.bel⟩
  have hc23:(bareB xa xb xc xk 0 rl al)=true:=by simpa using hb
  clear hb
  refine wp_skip ?_
  refine hK16 _ _ ?_
  refine wp_seq_k fun K24 hK24=>?_
  refine rg h19 fun ops=>?_;clear h19 a19
  refine sS 2 1 Tryz.underlying25 rfl infModule hW18 trivial rfl rfl rfl rfl ?_
  refine sS 1 8 Tryz.underlying41 rfl infIns hW18 trivial rfl rfl rfl rfl ?_
  refine sc_2 cf122 hW18 (boundsNo hlm (by decide)) trivial rfl rfl rfl ?_
  clear hW18;intro w25 hW25
  refine sa trivial rfl rfl ?_
  refine St.nil fun a26 h26=>?_
  refine hK24 _ _ ?_
  refine wp_ret ?_;with_reducible repeat first | refine of_then_ret ?_ | refine of_block_ret ?_
  have hB:=hc23
  skip
  have R:insForm lm 1 xa xb xc xk xn rl al=boundsC lm 1 xk rl al:=(insForm_bare (show fieldsOf 1=some (false,false,false,false,true,false,false) from rfl)).trans (if_pos hc23)
  exact ret_tmp (t:=4) h26 rfl rfl ⟨by rw [R],hW25.bel⟩
theorem cIns2 {xa xb xc xk xn : Int} {ra aa : Option Addr} {rl rc al ac : Nat} {am : Option Addr} {lm cm : Nat} {w : World} (hlm : lm < 2305843009213693952) :
    Rd Tryz.prog 97 #[.agg #[.slice am lm cm],.agg #[.int .i64 2,.int .i64 xa,.int .i64 xb,.int .i64 xc,.int .i64 xk,.int .i64 xn,.slice ra rl rc,.slice aa al ac]] w (.int .i64 (insForm lm 2 xa xb xc xk xn rl al)):=by
  refine fr_enter (n:=20) Tryz.func97 rfl rfl rfl ?_
  intro a hF
  have hW:=Wd.start w
  replace hF:Fr 20 a [(0,.agg #[.slice am lm cm]),(1,.agg #[.int .i64 2,.int .i64 xa,.int .i64 xb,.int .i64 xc,.int .i64 xk,.int .i64 xn,.slice ra rl rc,.slice aa al ac])]:=hF
  refine wp_seq_k fun K1 hK1=>?_
  refine rg hF fun ops=>?_;clear hF a
  refine sB hW trivial rfl rfl ?_
  clear hW;intro w2 B2 hW2 hN;clear hN
  refine sB hW2 trivial rfl rfl ?_
  clear hW2;intro w3 B3 hW3 hN;clear hN
  refine sa trivial rfl rfl ?_
  refine St.nil fun a4 h4=>?_
  refine hK1 _ _ ?_
  refine wp_seq_k fun K5 hK5=>?_
  refine rg h4 fun ops=>?_;clear h4 a4
  refine sS 0 8 Tryz.underlying41 rfl infIns hW3 trivial rfl rfl rfl rfl ?_
  refine sc_1 cf120 hW3 (wf2) trivial rfl rfl ?_
  clear hW3;intro w6 hW6
  refine sm trivial rfl rfl ?_
  intro a7 h7
  refine fr_pure (t:=10) (v:=.agg #[.int .i64 2,.int .i64 0,.int .i64 0,.int .i64 xc,.int .i64 0,.int .i64 xn,.slice ra rl rc,.slice aa al ac]) (w':=w6) h7 rfl rfl rfl (fun K hK=>?_) ?_
  ·have k0:a7.tmps.getD 7 undef=.tuple #[.agg #[.int .i64 2,.int .i64 0,.int .i64 0,.int .i64 xc,.int .i64 0,.int .i64 xn,.slice ra rl rc,.slice aa al ac],.bool true]:=h7.sl 7 _ rfl
   go_simp
   exact hK
  clear h7;intro a8 hF8
  refine fr_pure (t:=11) (v:=.bool true) (w':=w6) hF8 rfl rfl rfl (fun K hK=>?_) ?_
  ·have k0:a8.tmps.getD 7 undef=.tuple #[.agg #[.int .i64 2,.int .i64 0,.int .i64 0,.int .i64 xc,.int .i64 0,.int .i64 xn,.slice ra rl rc,.slice aa al ac],.bool true]:=hF8.sl 7 _ rfl
   go_simp
   exact hK
  clear hF8;intro a9 hF9
  refine St.go hF9 ?_;clear hF9 a9
  refine sAIns hW6 trivial rfl ?_
  clear hW6;intro w10 B10 hW10 hN;clear hN
  refine sT 0 hW10 rfl rfl infIns rfl rfl rfl ?_
  clear hW10;intro w11 hW11
  refine sa trivial rfl rfl ?_
  refine St.nil fun a12 h12=>?_
  refine hK5 _ _ ?_
  refine wp_seq_k fun K13 hK13=>?_
  refine wp_seq_k fun K14 hK14=>?_
  refine rg h12 fun ops=>?_;clear h12 a12
  refine sm trivial rfl rfl ?_
  refine sn trivial rfl rfl ?_
  refine St.nil fun a15 h15=>?_
  refine hK14 _ _ ?_
  refine fr_false (t:=13) h15 rfl ?_
  refine wp_skip ?_
  refine hK13 _ _ ?_
  refine wp_seq_k fun K16 hK16=>?_
  refine wp_seq_k fun K17 hK17=>?_
  refine rg h15 fun ops=>?_;clear h15 a15
  refine sS 0 8 Tryz.underlying41 rfl infIns hW11 trivial rfl rfl rfl rfl ?_
  refine sc_1 cf121 hW11 (isBare_any) trivial rfl rfl ?_
  clear hW11;intro w18 hW18
  refine sn trivial rfl rfl ?_
  refine St.nil fun a19 h19=>?_
  refine hK17 _ _ ?_
  refine fr_cond (t:=16) h19 rfl (fun hb=>?_) (fun hb=>?_)
  ·have hc20:(bareB 0 0 xc 0 xn rl al)=false:=by simpa using hb
   clear hb
   refine wp_seq_k fun K21 hK21=>?_
   refine rg h19 fun ops=>?_;clear h19 a19
   refine sa trivial rfl rfl ?_
   refine St.nil fun a22 h22=>?_
   refine hK21 _ _ ?_
   refine wp_ret ?_;with_reducible repeat first | refine of_then_ret ?_ | refine of_block_ret ?_
   have hB:=hc20
   skip
   have R:insForm lm 2 xa xb xc xk xn rl al=4:=(insForm_bare (show fieldsOf 2=some (true,true,false,true,false,false,false) from rfl)).trans (if_neg (fun hh=>Bool.noConfusion (hh.symm.trans hc20)))
   exact ret_tmp (t:=4) h22 rfl rfl ⟨by rw [R],hW18.bel⟩
  have hc23:(bareB 0 0 xc 0 xn rl al)=true:=by simpa using hb
  clear hb
  refine wp_skip ?_
  refine hK16 _ _ ?_
  refine wp_seq_k fun K24 hK24=>?_
  refine rg h19 fun ops=>?_;clear h19 a19
  refine sS 2 1 Tryz.underlying25 rfl infModule hW18 trivial rfl rfl rfl rfl ?_
  refine sS 1 8 Tryz.underlying41 rfl infIns hW18 trivial rfl rfl rfl rfl ?_
  refine sc_2 cf122 hW18 (bounds2 hlm) trivial rfl rfl rfl ?_
  clear hW18;intro w25 hW25
  refine sa trivial rfl rfl ?_
  refine St.nil fun a26 h26=>?_
  refine hK24 _ _ ?_
  refine wp_ret ?_;with_reducible repeat first | refine of_then_ret ?_ | refine of_block_ret ?_
  have hB:=hc23
  skip
  have R:insForm lm 2 xa xb xc xk xn rl al=boundsC lm 2 xk rl al:=(insForm_bare (show fieldsOf 2=some (true,true,false,true,false,false,false) from rfl)).trans (if_pos hc23)
  exact ret_tmp (t:=4) h26 rfl rfl ⟨by rw [R],hW25.bel⟩
theorem cIns3 {xa xb xc xk xn : Int} {ra aa : Option Addr} {rl rc al ac : Nat} {am : Option Addr} {lm cm : Nat} {w : World} (hlm : lm < 2305843009213693952) :
    Rd Tryz.prog 97 #[.agg #[.slice am lm cm],.agg #[.int .i64 3,.int .i64 xa,.int .i64 xb,.int .i64 xc,.int .i64 xk,.int .i64 xn,.slice ra rl rc,.slice aa al ac]] w (.int .i64 (insForm lm 3 xa xb xc xk xn rl al)):=by
  refine fr_enter (n:=20) Tryz.func97 rfl rfl rfl ?_
  intro a hF
  have hW:=Wd.start w
  replace hF:Fr 20 a [(0,.agg #[.slice am lm cm]),(1,.agg #[.int .i64 3,.int .i64 xa,.int .i64 xb,.int .i64 xc,.int .i64 xk,.int .i64 xn,.slice ra rl rc,.slice aa al ac])]:=hF
  refine wp_seq_k fun K1 hK1=>?_
  refine rg hF fun ops=>?_;clear hF a
  refine sB hW trivial rfl rfl ?_
  clear hW;intro w2 B2 hW2 hN;clear hN
  refine sB hW2 trivial rfl rfl ?_
  clear hW2;intro w3 B3 hW3 hN;clear hN
  refine sa trivial rfl rfl ?_
  refine St.nil fun a4 h4=>?_
  refine hK1 _ _ ?_
  refine wp_seq_k fun K5 hK5=>?_
  refine rg h4 fun ops=>?_;clear h4 a4
  refine sS 0 8 Tryz.underlying41 rfl infIns hW3 trivial rfl rfl rfl rfl ?_
  refine sc_1 cf120 hW3 (wf3) trivial rfl rfl ?_
  clear hW3;intro w6 hW6
  refine sm trivial rfl rfl ?_
  intro a7 h7
  refine fr_pure (t:=10) (v:=.agg #[.int .i64 3,.int .i64 xa,.int .i64 xb,.int .i64 xc,.int .i64 xk,.int .i64 xn,.slice ra rl rc,.slice aa al ac]) (w':=w6) h7 rfl rfl rfl (fun K hK=>?_) ?_
  ·have k0:a7.tmps.getD 7 undef=.tuple #[.agg #[.int .i64 3,.int .i64 xa,.int .i64 xb,.int .i64 xc,.int .i64 xk,.int .i64 xn,.slice ra rl rc,.slice aa al ac],.bool true]:=h7.sl 7 _ rfl
   go_simp
   exact hK
  clear h7;intro a8 hF8
  refine fr_pure (t:=11) (v:=.bool true) (w':=w6) hF8 rfl rfl rfl (fun K hK=>?_) ?_
  ·have k0:a8.tmps.getD 7 undef=.tuple #[.agg #[.int .i64 3,.int .i64 xa,.int .i64 xb,.int .i64 xc,.int .i64 xk,.int .i64 xn,.slice ra rl rc,.slice aa al ac],.bool true]:=hF8.sl 7 _ rfl
   go_simp
   exact hK
  clear hF8;intro a9 hF9
  refine St.go hF9 ?_;clear hF9 a9
  refine sAIns hW6 trivial rfl ?_
  clear hW6;intro w10 B10 hW10 hN;clear hN
  refine sT 0 hW10 rfl rfl infIns rfl rfl rfl ?_
  clear hW10;intro w11 hW11
  refine sa trivial rfl rfl ?_
  refine St.nil fun a12 h12=>?_
  refine hK5 _ _ ?_
  refine wp_seq_k fun K13 hK13=>?_
  refine wp_seq_k fun K14 hK14=>?_
  refine rg h12 fun ops=>?_;clear h12 a12
  refine sm trivial rfl rfl ?_
  refine sn trivial rfl rfl ?_
  refine St.nil fun a15 h15=>?_
  refine hK14 _ _ ?_
  refine fr_false (t:=13) h15 rfl ?_
  refine wp_skip ?_
  refine hK13 _ _ ?_
  refine wp_seq_k fun K16 hK16=>?_
  refine wp_seq_k fun K17 hK17=>?_
  refine rg h15 fun ops=>?_;clear h15 a15
  refine sS 0 8 Tryz.underlying41 rfl infIns hW11 trivial rfl rfl rfl rfl ?_
  refine sc_1 cf121 hW11 (isBare_any) trivial rfl rfl ?_
  clear hW11;intro w18 hW18
  refine sn trivial rfl rfl ?_
  refine St.nil fun a19 h19=>?_
  refine hK17 _ _ ?_
  refine fr_cond (t:=16) h19 rfl (fun hb=>?_) (fun hb=>?_)
  ·have hc20:(bareB xa xb xc xk xn rl al)=false:=by simpa using hb
   clear hb
   refine wp_seq_k fun K21 hK21=>?_
   refine rg h19 fun ops=>?_;clear h19 a19
   refine sa trivial rfl rfl ?_
   refine St.nil fun a22 h22=>?_
   refine hK21 _ _ ?_
   refine wp_ret ?_;with_reducible repeat first | refine of_then_ret ?_ | refine of_block_ret ?_
   have hB:=hc20
   skip
   have R:insForm lm 3 xa xb xc xk xn rl al=4:=(insForm_bare (show fieldsOf 3=some (false,false,false,false,false,false,false) from rfl)).trans (if_neg (fun hh=>Bool.noConfusion (hh.symm.trans hc20)))
   exact ret_tmp (t:=4) h22 rfl rfl ⟨by rw [R],hW18.bel⟩
  have hc23:(bareB xa xb xc xk xn rl al)=true:=by simpa using hb
  clear hb
  refine wp_skip ?_
  refine hK16 _ _ ?_
  refine wp_seq_k fun K24 hK24=>?_
  refine rg h19 fun ops=>?_;clear h19 a19
  refine sS 2 1 Tryz.underlying25 rfl infModule hW18 trivial rfl rfl rfl rfl ?_
  refine sS 1 8 Tryz.underlying41 rfl infIns hW18 trivial rfl rfl rfl rfl ?_
  refine sc_2 cf122 hW18 (boundsNo hlm (by decide)) trivial rfl rfl rfl ?_
  clear hW18;intro w25 hW25
  refine sa trivial rfl rfl ?_
  refine St.nil fun a26 h26=>?_
  refine hK24 _ _ ?_
  refine wp_ret ?_;with_reducible repeat first | refine of_then_ret ?_ | refine of_block_ret ?_
  have hB:=hc23
  skip
  have R:insForm lm 3 xa xb xc xk xn rl al=boundsC lm 3 xk rl al:=(insForm_bare (show fieldsOf 3=some (false,false,false,false,false,false,false) from rfl)).trans (if_pos hc23)
  exact ret_tmp (t:=4) h26 rfl rfl ⟨by rw [R],hW25.bel⟩
theorem cIns4 {xa xb xc xk xn : Int} {ra aa : Option Addr} {rl rc al ac : Nat} {am : Option Addr} {lm cm : Nat} {w : World} (hlm : lm < 2305843009213693952) :
    Rd Tryz.prog 97 #[.agg #[.slice am lm cm],.agg #[.int .i64 4,.int .i64 xa,.int .i64 xb,.int .i64 xc,.int .i64 xk,.int .i64 xn,.slice ra rl rc,.slice aa al ac]] w (.int .i64 (insForm lm 4 xa xb xc xk xn rl al)):=by
  refine fr_enter (n:=20) Tryz.func97 rfl rfl rfl ?_
  intro a hF
  have hW:=Wd.start w
  replace hF:Fr 20 a [(0,.agg #[.slice am lm cm]),(1,.agg #[.int .i64 4,.int .i64 xa,.int .i64 xb,.int .i64 xc,.int .i64 xk,.int .i64 xn,.slice ra rl rc,.slice aa al ac])]:=hF
  refine wp_seq_k fun K1 hK1=>?_
  refine rg hF fun ops=>?_;clear hF a
  refine sB hW trivial rfl rfl ?_
  clear hW;intro w2 B2 hW2 hN;clear hN
  refine sB hW2 trivial rfl rfl ?_
  clear hW2;intro w3 B3 hW3 hN;clear hN
  refine sa trivial rfl rfl ?_
  refine St.nil fun a4 h4=>?_
  refine hK1 _ _ ?_
  refine wp_seq_k fun K5 hK5=>?_
  refine rg h4 fun ops=>?_;clear h4 a4
  refine sS 0 8 Tryz.underlying41 rfl infIns hW3 trivial rfl rfl rfl rfl ?_
  refine sc_1 cf120 hW3 (wf4) trivial rfl rfl ?_
  clear hW3;intro w6 hW6
  refine sm trivial rfl rfl ?_
  intro a7 h7
  refine fr_pure (t:=10) (v:=.agg #[.int .i64 4,.int .i64 0,.int .i64 xb,.int .i64 xc,.int .i64 xk,.int .i64 xn,.slice ra rl rc,.slice aa al ac]) (w':=w6) h7 rfl rfl rfl (fun K hK=>?_) ?_
  ·have k0:a7.tmps.getD 7 undef=.tuple #[.agg #[.int .i64 4,.int .i64 0,.int .i64 xb,.int .i64 xc,.int .i64 xk,.int .i64 xn,.slice ra rl rc,.slice aa al ac],.bool true]:=h7.sl 7 _ rfl
   go_simp
   exact hK
  clear h7;intro a8 hF8
  refine fr_pure (t:=11) (v:=.bool true) (w':=w6) hF8 rfl rfl rfl (fun K hK=>?_) ?_
  ·have k0:a8.tmps.getD 7 undef=.tuple #[.agg #[.int .i64 4,.int .i64 0,.int .i64 xb,.int .i64 xc,.int .i64 xk,.int .i64 xn,.slice ra rl rc,.slice aa al ac],.bool true]:=hF8.sl 7 _ rfl
   go_simp
   exact hK
  clear hF8;intro a9 hF9
  refine St.go hF9 ?_;clear hF9 a9
  refine sAIns hW6 trivial rfl ?_
  clear hW6;intro w10 B10 hW10 hN;clear hN
  refine sT 0 hW10 rfl rfl infIns rfl rfl rfl ?_
  clear hW10;intro w11 hW11
  refine sa trivial rfl rfl ?_
  refine St.nil fun a12 h12=>?_
  refine hK5 _ _ ?_
  refine wp_seq_k fun K13 hK13=>?_
  refine wp_seq_k fun K14 hK14=>?_
  refine rg h12 fun ops=>?_;clear h12 a12
  refine sm trivial rfl rfl ?_
  refine sn trivial rfl rfl ?_
  refine St.nil fun a15 h15=>?_
  refine hK14 _ _ ?_
  refine fr_false (t:=13) h15 rfl ?_
  refine wp_skip ?_
  refine hK13 _ _ ?_
  refine wp_seq_k fun K16 hK16=>?_
  refine wp_seq_k fun K17 hK17=>?_
  refine rg h15 fun ops=>?_;clear h15 a15
  refine sS 0 8 Tryz.underlying41 rfl infIns hW11 trivial rfl rfl rfl rfl ?_
  refine sc_1 cf121 hW11 (isBare_any) trivial rfl rfl ?_
  clear hW11;intro w18 hW18
  refine sn trivial rfl rfl ?_
  refine St.nil fun a19 h19=>?_
  refine hK17 _ _ ?_
  refine fr_cond (t:=16) h19 rfl (fun hb=>?_) (fun hb=>?_)
  ·have hc20:(bareB 0 xb xc xk xn rl al)=false:=by simpa using hb
   clear hb
   refine wp_seq_k fun K21 hK21=>?_
   refine rg h19 fun ops=>?_;clear h19 a19
   refine sa trivial rfl rfl ?_
   refine St.nil fun a22 h22=>?_
   refine hK21 _ _ ?_
   refine wp_ret ?_;with_reducible repeat first | refine of_then_ret ?_ | refine of_block_ret ?_
   have hB:=hc20
   skip
   have R:insForm lm 4 xa xb xc xk xn rl al=4:=(insForm_bare (show fieldsOf 4=some (true,false,false,false,false,false,false) from rfl)).trans (if_neg (fun hh=>Bool.noConfusion (hh.symm.trans hc20)))
   exact ret_tmp (t:=4) h22 rfl rfl ⟨by rw [R],hW18.bel⟩
  have hc23:(bareB 0 xb xc xk xn rl al)=true:=by simpa using hb
  clear hb
  refine wp_skip ?_
  refine hK16 _ _ ?_
  refine wp_seq_k fun K24 hK24=>?_
  refine rg h19 fun ops=>?_;clear h19 a19
  refine sS 2 1 Tryz.underlying25 rfl infModule hW18 trivial rfl rfl rfl rfl ?_
  refine sS 1 8 Tryz.underlying41 rfl infIns hW18 trivial rfl rfl rfl rfl ?_
  refine sc_2 cf122 hW18 (boundsNo hlm (by decide)) trivial rfl rfl rfl ?_
  clear hW18;intro w25 hW25
  refine sa trivial rfl rfl ?_
  refine St.nil fun a26 h26=>?_
  refine hK24 _ _ ?_
  refine wp_ret ?_;with_reducible repeat first | refine of_then_ret ?_ | refine of_block_ret ?_
  have hB:=hc23
  skip
  have R:insForm lm 4 xa xb xc xk xn rl al=boundsC lm 4 xk rl al:=(insForm_bare (show fieldsOf 4=some (true,false,false,false,false,false,false) from rfl)).trans (if_pos hc23)
  exact ret_tmp (t:=4) h26 rfl rfl ⟨by rw [R],hW25.bel⟩
theorem cIns5 {xa xb xc xk xn : Int} {ra aa : Option Addr} {rl rc al ac : Nat} {am : Option Addr} {lm cm : Nat} {w : World} (hlm : lm < 2305843009213693952) :
    Rd Tryz.prog 97 #[.agg #[.slice am lm cm],.agg #[.int .i64 5,.int .i64 xa,.int .i64 xb,.int .i64 xc,.int .i64 xk,.int .i64 xn,.slice ra rl rc,.slice aa al ac]] w (.int .i64 (insForm lm 5 xa xb xc xk xn rl al)):=by
  refine fr_enter (n:=20) Tryz.func97 rfl rfl rfl ?_
  intro a hF
  have hW:=Wd.start w
  replace hF:Fr 20 a [(0,.agg #[.slice am lm cm]),(1,.agg #[.int .i64 5,.int .i64 xa,.int .i64 xb,.int .i64 xc,.int .i64 xk,.int .i64 xn,.slice ra rl rc,.slice aa al ac])]:=hF
  refine wp_seq_k fun K1 hK1=>?_
  refine rg hF fun ops=>?_;clear hF a
  refine sB hW trivial rfl rfl ?_
  clear hW;intro w2 B2 hW2 hN;clear hN
  refine sB hW2 trivial rfl rfl ?_
  clear hW2;intro w3 B3 hW3 hN;clear hN
  refine sa trivial rfl rfl ?_
  refine St.nil fun a4 h4=>?_
  refine hK1 _ _ ?_
  refine wp_seq_k fun K5 hK5=>?_
  refine rg h4 fun ops=>?_;clear h4 a4
  refine sS 0 8 Tryz.underlying41 rfl infIns hW3 trivial rfl rfl rfl rfl ?_
  refine sc_1 cf120 hW3 (wf5) trivial rfl rfl ?_
  clear hW3;intro w6 hW6
  refine sm trivial rfl rfl ?_
  intro a7 h7
  refine fr_pure (t:=10) (v:=.agg #[.int .i64 5,.int .i64 0,.int .i64 xb,.int .i64 xc,.int .i64 xk,.int .i64 xn,.slice ra rl rc,.slice none 0 0]) (w':=w6) h7 rfl rfl rfl (fun K hK=>?_) ?_
  ·have k0:a7.tmps.getD 7 undef=.tuple #[.agg #[.int .i64 5,.int .i64 0,.int .i64 xb,.int .i64 xc,.int .i64 xk,.int .i64 xn,.slice ra rl rc,.slice none 0 0],.bool true]:=h7.sl 7 _ rfl
   go_simp
   exact hK
  clear h7;intro a8 hF8
  refine fr_pure (t:=11) (v:=.bool true) (w':=w6) hF8 rfl rfl rfl (fun K hK=>?_) ?_
  ·have k0:a8.tmps.getD 7 undef=.tuple #[.agg #[.int .i64 5,.int .i64 0,.int .i64 xb,.int .i64 xc,.int .i64 xk,.int .i64 xn,.slice ra rl rc,.slice none 0 0],.bool true]:=hF8.sl 7 _ rfl
   go_simp
   exact hK
  clear hF8;intro a9 hF9
  refine St.go hF9 ?_;clear hF9 a9
  refine sAIns hW6 trivial rfl ?_
  clear hW6;intro w10 B10 hW10 hN;clear hN
  refine sT 0 hW10 rfl rfl infIns rfl rfl rfl ?_
  clear hW10;intro w11 hW11
  refine sa trivial rfl rfl ?_
  refine St.nil fun a12 h12=>?_
  refine hK5 _ _ ?_
  refine wp_seq_k fun K13 hK13=>?_
  refine wp_seq_k fun K14 hK14=>?_
  refine rg h12 fun ops=>?_;clear h12 a12
  refine sm trivial rfl rfl ?_
  refine sn trivial rfl rfl ?_
  refine St.nil fun a15 h15=>?_
  refine hK14 _ _ ?_
  refine fr_false (t:=13) h15 rfl ?_
  refine wp_skip ?_
  refine hK13 _ _ ?_
  refine wp_seq_k fun K16 hK16=>?_
  refine wp_seq_k fun K17 hK17=>?_
  refine rg h15 fun ops=>?_;clear h15 a15
  refine sS 0 8 Tryz.underlying41 rfl infIns hW11 trivial rfl rfl rfl rfl ?_
  refine sc_1 cf121 hW11 (isBare_any) trivial rfl rfl ?_
  clear hW11;intro w18 hW18
  refine sn trivial rfl rfl ?_
  refine St.nil fun a19 h19=>?_
  refine hK17 _ _ ?_
  refine fr_cond (t:=16) h19 rfl (fun hb=>?_) (fun hb=>?_)
  ·have hc20:(bareB 0 xb xc xk xn rl 0)=false:=by simpa using hb
   clear hb
   refine wp_seq_k fun K21 hK21=>?_
   refine rg h19 fun ops=>?_;clear h19 a19
   refine sa trivial rfl rfl ?_
   refine St.nil fun a22 h22=>?_
   refine hK21 _ _ ?_
   refine wp_ret ?_;with_reducible repeat first | refine of_then_ret ?_ | refine of_block_ret ?_
   have hB:=hc20
   skip
   have R:insForm lm 5 xa xb xc xk xn rl al=4:=(insForm_bare (show fieldsOf 5=some (true,false,false,false,false,false,true) from rfl)).trans (if_neg (fun hh=>Bool.noConfusion (hh.symm.trans hc20)))
   exact ret_tmp (t:=4) h22 rfl rfl ⟨by rw [R],hW18.bel⟩
  have hc23:(bareB 0 xb xc xk xn rl 0)=true:=by simpa using hb
  clear hb
  refine wp_skip ?_
  refine hK16 _ _ ?_
  refine wp_seq_k fun K24 hK24=>?_
  refine rg h19 fun ops=>?_;clear h19 a19
  refine sS 2 1 Tryz.underlying25 rfl infModule hW18 trivial rfl rfl rfl rfl ?_
  refine sS 1 8 Tryz.underlying41 rfl infIns hW18 trivial rfl rfl rfl rfl ?_
  refine sc_2 cf122 hW18 (bounds5 hlm) trivial rfl rfl rfl ?_
  clear hW18;intro w25 hW25
  refine sa trivial rfl rfl ?_
  refine St.nil fun a26 h26=>?_
  refine hK24 _ _ ?_
  refine wp_ret ?_;with_reducible repeat first | refine of_then_ret ?_ | refine of_block_ret ?_
  have hB:=hc23
  skip
  have R:insForm lm 5 xa xb xc xk xn rl al=boundsC lm 5 xk rl al:=(insForm_bare (show fieldsOf 5=some (true,false,false,false,false,false,true) from rfl)).trans (if_pos hc23)
  exact ret_tmp (t:=4) h26 rfl rfl ⟨by rw [R],hW25.bel⟩
theorem cIns6 {xa xb xc xk xn : Int} {ra aa : Option Addr} {rl rc al ac : Nat} {am : Option Addr} {lm cm : Nat} {w : World} (hlm : lm < 2305843009213693952) :
    Rd Tryz.prog 97 #[.agg #[.slice am lm cm],.agg #[.int .i64 6,.int .i64 xa,.int .i64 xb,.int .i64 xc,.int .i64 xk,.int .i64 xn,.slice ra rl rc,.slice aa al ac]] w (.int .i64 (insForm lm 6 xa xb xc xk xn rl al)):=by
  refine fr_enter (n:=20) Tryz.func97 rfl rfl rfl ?_
  intro a hF
  have hW:=Wd.start w
  replace hF:Fr 20 a [(0,.agg #[.slice am lm cm]),(1,.agg #[.int .i64 6,.int .i64 xa,.int .i64 xb,.int .i64 xc,.int .i64 xk,.int .i64 xn,.slice ra rl rc,.slice aa al ac])]:=hF
  refine wp_seq_k fun K1 hK1=>?_
  refine rg hF fun ops=>?_;clear hF a
  refine sB hW trivial rfl rfl ?_
  clear hW;intro w2 B2 hW2 hN;clear hN
  refine sB hW2 trivial rfl rfl ?_
  clear hW2;intro w3 B3 hW3 hN;clear hN
  refine sa trivial rfl rfl ?_
  refine St.nil fun a4 h4=>?_
  refine hK1 _ _ ?_
  refine wp_seq_k fun K5 hK5=>?_
  refine rg h4 fun ops=>?_;clear h4 a4
  refine sS 0 8 Tryz.underlying41 rfl infIns hW3 trivial rfl rfl rfl rfl ?_
  refine sc_1 cf120 hW3 (wf6) trivial rfl rfl ?_
  clear hW3;intro w6 hW6
  refine sm trivial rfl rfl ?_
  intro a7 h7
  refine fr_pure (t:=10) (v:=.agg #[.int .i64 6,.int .i64 0,.int .i64 xb,.int .i64 xc,.int .i64 0,.int .i64 xn,.slice ra rl rc,.slice aa al ac]) (w':=w6) h7 rfl rfl rfl (fun K hK=>?_) ?_
  ·have k0:a7.tmps.getD 7 undef=.tuple #[.agg #[.int .i64 6,.int .i64 0,.int .i64 xb,.int .i64 xc,.int .i64 0,.int .i64 xn,.slice ra rl rc,.slice aa al ac],.bool true]:=h7.sl 7 _ rfl
   go_simp
   exact hK
  clear h7;intro a8 hF8
  refine fr_pure (t:=11) (v:=.bool true) (w':=w6) hF8 rfl rfl rfl (fun K hK=>?_) ?_
  ·have k0:a8.tmps.getD 7 undef=.tuple #[.agg #[.int .i64 6,.int .i64 0,.int .i64 xb,.int .i64 xc,.int .i64 0,.int .i64 xn,.slice ra rl rc,.slice aa al ac],.bool true]:=hF8.sl 7 _ rfl
   go_simp
   exact hK
  clear hF8;intro a9 hF9
  refine St.go hF9 ?_;clear hF9 a9
  refine sAIns hW6 trivial rfl ?_
  clear hW6;intro w10 B10 hW10 hN;clear hN
  refine sT 0 hW10 rfl rfl infIns rfl rfl rfl ?_
  clear hW10;intro w11 hW11
  refine sa trivial rfl rfl ?_
  refine St.nil fun a12 h12=>?_
  refine hK5 _ _ ?_
  refine wp_seq_k fun K13 hK13=>?_
  refine wp_seq_k fun K14 hK14=>?_
  refine rg h12 fun ops=>?_;clear h12 a12
  refine sm trivial rfl rfl ?_
  refine sn trivial rfl rfl ?_
  refine St.nil fun a15 h15=>?_
  refine hK14 _ _ ?_
  refine fr_false (t:=13) h15 rfl ?_
  refine wp_skip ?_
  refine hK13 _ _ ?_
  refine wp_seq_k fun K16 hK16=>?_
  refine wp_seq_k fun K17 hK17=>?_
  refine rg h15 fun ops=>?_;clear h15 a15
  refine sS 0 8 Tryz.underlying41 rfl infIns hW11 trivial rfl rfl rfl rfl ?_
  refine sc_1 cf121 hW11 (isBare_any) trivial rfl rfl ?_
  clear hW11;intro w18 hW18
  refine sn trivial rfl rfl ?_
  refine St.nil fun a19 h19=>?_
  refine hK17 _ _ ?_
  refine fr_cond (t:=16) h19 rfl (fun hb=>?_) (fun hb=>?_)
  ·have hc20:(bareB 0 xb xc 0 xn rl al)=false:=by simpa using hb
   clear hb
   refine wp_seq_k fun K21 hK21=>?_
   refine rg h19 fun ops=>?_;clear h19 a19
   refine sa trivial rfl rfl ?_
   refine St.nil fun a22 h22=>?_
   refine hK21 _ _ ?_
   refine wp_ret ?_;with_reducible repeat first | refine of_then_ret ?_ | refine of_block_ret ?_
   have hB:=hc20
   skip
   have R:insForm lm 6 xa xb xc xk xn rl al=4:=(insForm_bare (show fieldsOf 6=some (true,false,false,true,false,false,false) from rfl)).trans (if_neg (fun hh=>Bool.noConfusion (hh.symm.trans hc20)))
   exact ret_tmp (t:=4) h22 rfl rfl ⟨by rw [R],hW18.bel⟩
  have hc23:(bareB 0 xb xc 0 xn rl al)=true:=by simpa using hb
  clear hb
  refine wp_skip ?_
  refine hK16 _ _ ?_
  refine wp_seq_k fun K24 hK24=>?_
  refine rg h19 fun ops=>?_;clear h19 a19
  refine sS 2 1 Tryz.underlying25 rfl infModule hW18 trivial rfl rfl rfl rfl ?_
  refine sS 1 8 Tryz.underlying41 rfl infIns hW18 trivial rfl rfl rfl rfl ?_
  refine sc_2 cf122 hW18 (bounds6 hlm) trivial rfl rfl rfl ?_
  clear hW18;intro w25 hW25
  refine sa trivial rfl rfl ?_
  refine St.nil fun a26 h26=>?_
  refine hK24 _ _ ?_
  refine wp_ret ?_;with_reducible repeat first | refine of_then_ret ?_ | refine of_block_ret ?_
  have hB:=hc23
  skip
  have R:insForm lm 6 xa xb xc xk xn rl al=boundsC lm 6 xk rl al:=(insForm_bare (show fieldsOf 6=some (true,false,false,true,false,false,false) from rfl)).trans (if_pos hc23)
  exact ret_tmp (t:=4) h26 rfl rfl ⟨by rw [R],hW25.bel⟩
theorem cIns7 {xa xb xc xk xn : Int} {ra aa : Option Addr} {rl rc al ac : Nat} {am : Option Addr} {lm cm : Nat} {w : World} (hlm : lm < 2305843009213693952) :
    Rd Tryz.prog 97 #[.agg #[.slice am lm cm],.agg #[.int .i64 7,.int .i64 xa,.int .i64 xb,.int .i64 xc,.int .i64 xk,.int .i64 xn,.slice ra rl rc,.slice aa al ac]] w (.int .i64 (insForm lm 7 xa xb xc xk xn rl al)):=by
  refine fr_enter (n:=20) Tryz.func97 rfl rfl rfl ?_
  intro a hF
  have hW:=Wd.start w
  replace hF:Fr 20 a [(0,.agg #[.slice am lm cm]),(1,.agg #[.int .i64 7,.int .i64 xa,.int .i64 xb,.int .i64 xc,.int .i64 xk,.int .i64 xn,.slice ra rl rc,.slice aa al ac])]:=hF
  refine wp_seq_k fun K1 hK1=>?_
  refine rg hF fun ops=>?_;clear hF a
  refine sB hW trivial rfl rfl ?_
  clear hW;intro w2 B2 hW2 hN;clear hN
  refine sB hW2 trivial rfl rfl ?_
  clear hW2;intro w3 B3 hW3 hN;clear hN
  refine sa trivial rfl rfl ?_
  refine St.nil fun a4 h4=>?_
  refine hK1 _ _ ?_
  refine wp_seq_k fun K5 hK5=>?_
  refine rg h4 fun ops=>?_;clear h4 a4
  refine sS 0 8 Tryz.underlying41 rfl infIns hW3 trivial rfl rfl rfl rfl ?_
  refine sc_1 cf120 hW3 (wf7) trivial rfl rfl ?_
  clear hW3;intro w6 hW6
  refine sm trivial rfl rfl ?_
  intro a7 h7
  refine fr_pure (t:=10) (v:=.agg #[.int .i64 7,.int .i64 0,.int .i64 0,.int .i64 xc,.int .i64 0,.int .i64 xn,.slice ra rl rc,.slice aa al ac]) (w':=w6) h7 rfl rfl rfl (fun K hK=>?_) ?_
  ·have k0:a7.tmps.getD 7 undef=.tuple #[.agg #[.int .i64 7,.int .i64 0,.int .i64 0,.int .i64 xc,.int .i64 0,.int .i64 xn,.slice ra rl rc,.slice aa al ac],.bool true]:=h7.sl 7 _ rfl
   go_simp
   exact hK
  clear h7;intro a8 hF8
  refine fr_pure (t:=11) (v:=.bool true) (w':=w6) hF8 rfl rfl rfl (fun K hK=>?_) ?_
  ·have k0:a8.tmps.getD 7 undef=.tuple #[.agg #[.int .i64 7,.int .i64 0,.int .i64 0,.int .i64 xc,.int .i64 0,.int .i64 xn,.slice ra rl rc,.slice aa al ac],.bool true]:=hF8.sl 7 _ rfl
   go_simp
   exact hK
  clear hF8;intro a9 hF9
  refine St.go hF9 ?_;clear hF9 a9
  refine sAIns hW6 trivial rfl ?_
  clear hW6;intro w10 B10 hW10 hN;clear hN
  refine sT 0 hW10 rfl rfl infIns rfl rfl rfl ?_
  clear hW10;intro w11 hW11
  refine sa trivial rfl rfl ?_
  refine St.nil fun a12 h12=>?_
  refine hK5 _ _ ?_
  refine wp_seq_k fun K13 hK13=>?_
  refine wp_seq_k fun K14 hK14=>?_
  refine rg h12 fun ops=>?_;clear h12 a12
  refine sm trivial rfl rfl ?_
  refine sn trivial rfl rfl ?_
  refine St.nil fun a15 h15=>?_
  refine hK14 _ _ ?_
  refine fr_false (t:=13) h15 rfl ?_
  refine wp_skip ?_
  refine hK13 _ _ ?_
  refine wp_seq_k fun K16 hK16=>?_
  refine wp_seq_k fun K17 hK17=>?_
  refine rg h15 fun ops=>?_;clear h15 a15
  refine sS 0 8 Tryz.underlying41 rfl infIns hW11 trivial rfl rfl rfl rfl ?_
  refine sc_1 cf121 hW11 (isBare_any) trivial rfl rfl ?_
  clear hW11;intro w18 hW18
  refine sn trivial rfl rfl ?_
  refine St.nil fun a19 h19=>?_
  refine hK17 _ _ ?_
  refine fr_cond (t:=16) h19 rfl (fun hb=>?_) (fun hb=>?_)
  ·have hc20:(bareB 0 0 xc 0 xn rl al)=false:=by simpa using hb
   clear hb
   refine wp_seq_k fun K21 hK21=>?_
   refine rg h19 fun ops=>?_;clear h19 a19
   refine sa trivial rfl rfl ?_
   refine St.nil fun a22 h22=>?_
   refine hK21 _ _ ?_
   refine wp_ret ?_;with_reducible repeat first | refine of_then_ret ?_ | refine of_block_ret ?_
   have hB:=hc20
   skip
   have R:insForm lm 7 xa xb xc xk xn rl al=4:=(insForm_bare (show fieldsOf 7=some (true,true,false,true,false,false,false) from rfl)).trans (if_neg (fun hh=>Bool.noConfusion (hh.symm.trans hc20)))
   exact ret_tmp (t:=4) h22 rfl rfl ⟨by rw [R],hW18.bel⟩
  have hc23:(bareB 0 0 xc 0 xn rl al)=true:=by simpa using hb
  clear hb
  refine wp_skip ?_
  refine hK16 _ _ ?_
  refine wp_seq_k fun K24 hK24=>?_
  refine rg h19 fun ops=>?_;clear h19 a19
  refine sS 2 1 Tryz.underlying25 rfl infModule hW18 trivial rfl rfl rfl rfl ?_
  refine sS 1 8 Tryz.underlying41 rfl infIns hW18 trivial rfl rfl rfl rfl ?_
  refine sc_2 cf122 hW18 (bounds7 hlm) trivial rfl rfl rfl ?_
  clear hW18;intro w25 hW25
  refine sa trivial rfl rfl ?_
  refine St.nil fun a26 h26=>?_
  refine hK24 _ _ ?_
  refine wp_ret ?_;with_reducible repeat first | refine of_then_ret ?_ | refine of_block_ret ?_
  have hB:=hc23
  skip
  have R:insForm lm 7 xa xb xc xk xn rl al=boundsC lm 7 xk rl al:=(insForm_bare (show fieldsOf 7=some (true,true,false,true,false,false,false) from rfl)).trans (if_pos hc23)
  exact ret_tmp (t:=4) h26 rfl rfl ⟨by rw [R],hW25.bel⟩
theorem cIns8 {xa xb xc xk xn : Int} {ra aa : Option Addr} {rl rc al ac : Nat} {am : Option Addr} {lm cm : Nat} {w : World} (hlm : lm < 2305843009213693952) :
    Rd Tryz.prog 97 #[.agg #[.slice am lm cm],.agg #[.int .i64 8,.int .i64 xa,.int .i64 xb,.int .i64 xc,.int .i64 xk,.int .i64 xn,.slice ra rl rc,.slice aa al ac]] w (.int .i64 (insForm lm 8 xa xb xc xk xn rl al)):=by
  refine fr_enter (n:=20) Tryz.func97 rfl rfl rfl ?_
  intro a hF
  have hW:=Wd.start w
  replace hF:Fr 20 a [(0,.agg #[.slice am lm cm]),(1,.agg #[.int .i64 8,.int .i64 xa,.int .i64 xb,.int .i64 xc,.int .i64 xk,.int .i64 xn,.slice ra rl rc,.slice aa al ac])]:=hF
  refine wp_seq_k fun K1 hK1=>?_
  refine rg hF fun ops=>?_;clear hF a
  refine sB hW trivial rfl rfl ?_
  clear hW;intro w2 B2 hW2 hN;clear hN
  refine sB hW2 trivial rfl rfl ?_
  clear hW2;intro w3 B3 hW3 hN;clear hN
  refine sa trivial rfl rfl ?_
  refine St.nil fun a4 h4=>?_
  refine hK1 _ _ ?_
  refine wp_seq_k fun K5 hK5=>?_
  refine rg h4 fun ops=>?_;clear h4 a4
  refine sS 0 8 Tryz.underlying41 rfl infIns hW3 trivial rfl rfl rfl rfl ?_
  refine sc_1 cf120 hW3 (wf8) trivial rfl rfl ?_
  clear hW3;intro w6 hW6
  refine sm trivial rfl rfl ?_
  intro a7 h7
  refine fr_pure (t:=10) (v:=.agg #[.int .i64 8,.int .i64 0,.int .i64 0,.int .i64 xc,.int .i64 xk,.int .i64 xn,.slice ra rl rc,.slice aa al ac]) (w':=w6) h7 rfl rfl rfl (fun K hK=>?_) ?_
  ·have k0:a7.tmps.getD 7 undef=.tuple #[.agg #[.int .i64 8,.int .i64 0,.int .i64 0,.int .i64 xc,.int .i64 xk,.int .i64 xn,.slice ra rl rc,.slice aa al ac],.bool true]:=h7.sl 7 _ rfl
   go_simp
   exact hK
  clear h7;intro a8 hF8
  refine fr_pure (t:=11) (v:=.bool true) (w':=w6) hF8 rfl rfl rfl (fun K hK=>?_) ?_
  ·have k0:a8.tmps.getD 7 undef=.tuple #[.agg #[.int .i64 8,.int .i64 0,.int .i64 0,.int .i64 xc,.int .i64 xk,.int .i64 xn,.slice ra rl rc,.slice aa al ac],.bool true]:=hF8.sl 7 _ rfl
   go_simp
   exact hK
  clear hF8;intro a9 hF9
  refine St.go hF9 ?_;clear hF9 a9
  refine sAIns hW6 trivial rfl ?_
  clear hW6;intro w10 B10 hW10 hN;clear hN
  refine sT 0 hW10 rfl rfl infIns rfl rfl rfl ?_
  clear hW10;intro w11 hW11
  refine sa trivial rfl rfl ?_
  refine St.nil fun a12 h12=>?_
  refine hK5 _ _ ?_
  refine wp_seq_k fun K13 hK13=>?_
  refine wp_seq_k fun K14 hK14=>?_
  refine rg h12 fun ops=>?_;clear h12 a12
  refine sm trivial rfl rfl ?_
  refine sn trivial rfl rfl ?_
  refine St.nil fun a15 h15=>?_
  refine hK14 _ _ ?_
  refine fr_false (t:=13) h15 rfl ?_
  refine wp_skip ?_
  refine hK13 _ _ ?_
  refine wp_seq_k fun K16 hK16=>?_
  refine wp_seq_k fun K17 hK17=>?_
  refine rg h15 fun ops=>?_;clear h15 a15
  refine sS 0 8 Tryz.underlying41 rfl infIns hW11 trivial rfl rfl rfl rfl ?_
  refine sc_1 cf121 hW11 (isBare_any) trivial rfl rfl ?_
  clear hW11;intro w18 hW18
  refine sn trivial rfl rfl ?_
  refine St.nil fun a19 h19=>?_
  refine hK17 _ _ ?_
  refine fr_cond (t:=16) h19 rfl (fun hb=>?_) (fun hb=>?_)
  ·have hc20:(bareB 0 0 xc xk xn rl al)=false:=by simpa using hb
   clear hb
   refine wp_seq_k fun K21 hK21=>?_
   refine rg h19 fun ops=>?_;clear h19 a19
   refine sa trivial rfl rfl ?_
   refine St.nil fun a22 h22=>?_
   refine hK21 _ _ ?_
   refine wp_ret ?_;with_reducible repeat first | refine of_then_ret ?_ | refine of_block_ret ?_
   have hB:=hc20
   skip
   have R:insForm lm 8 xa xb xc xk xn rl al=4:=(insForm_bare (show fieldsOf 8=some (true,true,false,false,false,false,false) from rfl)).trans (if_neg (fun hh=>Bool.noConfusion (hh.symm.trans hc20)))
   exact ret_tmp (t:=4) h22 rfl rfl ⟨by rw [R],hW18.bel⟩
  have hc23:(bareB 0 0 xc xk xn rl al)=true:=by simpa using hb
  clear hb
  refine wp_skip ?_
  refine hK16 _ _ ?_
  refine wp_seq_k fun K24 hK24=>?_
  refine rg h19 fun ops=>?_;clear h19 a19
  refine sS 2 1 Tryz.underlying25 rfl infModule hW18 trivial rfl rfl rfl rfl ?_
  refine sS 1 8 Tryz.underlying41 rfl infIns hW18 trivial rfl rfl rfl rfl ?_
  refine sc_2 cf122 hW18 (boundsNo hlm (by decide)) trivial rfl rfl rfl ?_
  clear hW18;intro w25 hW25
  refine sa trivial rfl rfl ?_
  refine St.nil fun a26 h26=>?_
  refine hK24 _ _ ?_
  refine wp_ret ?_;with_reducible repeat first | refine of_then_ret ?_ | refine of_block_ret ?_
  have hB:=hc23
  skip
  have R:insForm lm 8 xa xb xc xk xn rl al=boundsC lm 8 xk rl al:=(insForm_bare (show fieldsOf 8=some (true,true,false,false,false,false,false) from rfl)).trans (if_pos hc23)
  exact ret_tmp (t:=4) h26 rfl rfl ⟨by rw [R],hW25.bel⟩
theorem cIns9 {xa xb xc xk xn : Int} {ra aa : Option Addr} {rl rc al ac : Nat} {am : Option Addr} {lm cm : Nat} {w : World} (hlm : lm < 2305843009213693952) :
    Rd Tryz.prog 97 #[.agg #[.slice am lm cm],.agg #[.int .i64 9,.int .i64 xa,.int .i64 xb,.int .i64 xc,.int .i64 xk,.int .i64 xn,.slice ra rl rc,.slice aa al ac]] w (.int .i64 (insForm lm 9 xa xb xc xk xn rl al)):=by
  refine fr_enter (n:=20) Tryz.func97 rfl rfl rfl ?_
  intro a hF
  have hW:=Wd.start w
  replace hF:Fr 20 a [(0,.agg #[.slice am lm cm]),(1,.agg #[.int .i64 9,.int .i64 xa,.int .i64 xb,.int .i64 xc,.int .i64 xk,.int .i64 xn,.slice ra rl rc,.slice aa al ac])]:=hF
  refine wp_seq_k fun K1 hK1=>?_
  refine rg hF fun ops=>?_;clear hF a
  refine sB hW trivial rfl rfl ?_
  clear hW;intro w2 B2 hW2 hN;clear hN
  refine sB hW2 trivial rfl rfl ?_
  clear hW2;intro w3 B3 hW3 hN;clear hN
  refine sa trivial rfl rfl ?_
  refine St.nil fun a4 h4=>?_
  refine hK1 _ _ ?_
  refine wp_seq_k fun K5 hK5=>?_
  refine rg h4 fun ops=>?_;clear h4 a4
  refine sS 0 8 Tryz.underlying41 rfl infIns hW3 trivial rfl rfl rfl rfl ?_
  refine sc_1 cf120 hW3 (wf9) trivial rfl rfl ?_
  clear hW3;intro w6 hW6
  refine sm trivial rfl rfl ?_
  intro a7 h7
  refine fr_pure (t:=10) (v:=.agg #[.int .i64 9,.int .i64 0,.int .i64 0,.int .i64 xc,.int .i64 xk,.int .i64 xn,.slice ra rl rc,.slice aa al ac]) (w':=w6) h7 rfl rfl rfl (fun K hK=>?_) ?_
  ·have k0:a7.tmps.getD 7 undef=.tuple #[.agg #[.int .i64 9,.int .i64 0,.int .i64 0,.int .i64 xc,.int .i64 xk,.int .i64 xn,.slice ra rl rc,.slice aa al ac],.bool true]:=h7.sl 7 _ rfl
   go_simp
   exact hK
  clear h7;intro a8 hF8
  refine fr_pure (t:=11) (v:=.bool true) (w':=w6) hF8 rfl rfl rfl (fun K hK=>?_) ?_
  ·have k0:a8.tmps.getD 7 undef=.tuple #[.agg #[.int .i64 9,.int .i64 0,.int .i64 0,.int .i64 xc,.int .i64 xk,.int .i64 xn,.slice ra rl rc,.slice aa al ac],.bool true]:=hF8.sl 7 _ rfl
   go_simp
   exact hK
  clear hF8;intro a9 hF9
  refine St.go hF9 ?_;clear hF9 a9
  refine sAIns hW6 trivial rfl ?_
  clear hW6;intro w10 B10 hW10 hN;clear hN
  refine sT 0 hW10 rfl rfl infIns rfl rfl rfl ?_
  clear hW10;intro w11 hW11
  refine sa trivial rfl rfl ?_
  refine St.nil fun a12 h12=>?_
  refine hK5 _ _ ?_
  refine wp_seq_k fun K13 hK13=>?_
  refine wp_seq_k fun K14 hK14=>?_
  refine rg h12 fun ops=>?_;clear h12 a12
  refine sm trivial rfl rfl ?_
  refine sn trivial rfl rfl ?_
  refine St.nil fun a15 h15=>?_
  refine hK14 _ _ ?_
  refine fr_false (t:=13) h15 rfl ?_
  refine wp_skip ?_
  refine hK13 _ _ ?_
  refine wp_seq_k fun K16 hK16=>?_
  refine wp_seq_k fun K17 hK17=>?_
  refine rg h15 fun ops=>?_;clear h15 a15
  refine sS 0 8 Tryz.underlying41 rfl infIns hW11 trivial rfl rfl rfl rfl ?_
  refine sc_1 cf121 hW11 (isBare_any) trivial rfl rfl ?_
  clear hW11;intro w18 hW18
  refine sn trivial rfl rfl ?_
  refine St.nil fun a19 h19=>?_
  refine hK17 _ _ ?_
  refine fr_cond (t:=16) h19 rfl (fun hb=>?_) (fun hb=>?_)
  ·have hc20:(bareB 0 0 xc xk xn rl al)=false:=by simpa using hb
   clear hb
   refine wp_seq_k fun K21 hK21=>?_
   refine rg h19 fun ops=>?_;clear h19 a19
   refine sa trivial rfl rfl ?_
   refine St.nil fun a22 h22=>?_
   refine hK21 _ _ ?_
   refine wp_ret ?_;with_reducible repeat first | refine of_then_ret ?_ | refine of_block_ret ?_
   have hB:=hc20
   skip
   have R:insForm lm 9 xa xb xc xk xn rl al=4:=(insForm_bare (show fieldsOf 9=some (true,true,false,false,false,false,false) from rfl)).trans (if_neg (fun hh=>Bool.noConfusion (hh.symm.trans hc20)))
   exact ret_tmp (t:=4) h22 rfl rfl ⟨by rw [R],hW18.bel⟩
  have hc23:(bareB 0 0 xc xk xn rl al)=true:=by simpa using hb
  clear hb
  refine wp_skip ?_
  refine hK16 _ _ ?_
  refine wp_seq_k fun K24 hK24=>?_
  refine rg h19 fun ops=>?_;clear h19 a19
  refine sS 2 1 Tryz.underlying25 rfl infModule hW18 trivial rfl rfl rfl rfl ?_
  refine sS 1 8 Tryz.underlying41 rfl infIns hW18 trivial rfl rfl rfl rfl ?_
  refine sc_2 cf122 hW18 (boundsNo hlm (by decide)) trivial rfl rfl rfl ?_
  clear hW18;intro w25 hW25
  refine sa trivial rfl rfl ?_
  refine St.nil fun a26 h26=>?_
  refine hK24 _ _ ?_
  refine wp_ret ?_;with_reducible repeat first | refine of_then_ret ?_ | refine of_block_ret ?_
  have hB:=hc23
  skip
  have R:insForm lm 9 xa xb xc xk xn rl al=boundsC lm 9 xk rl al:=(insForm_bare (show fieldsOf 9=some (true,true,false,false,false,false,false) from rfl)).trans (if_pos hc23)
  exact ret_tmp (t:=4) h26 rfl rfl ⟨by rw [R],hW25.bel⟩
theorem cIns10 {xa xb xc xk xn : Int} {ra aa : Option Addr} {rl rc al ac : Nat} {am : Option Addr} {lm cm : Nat} {w : World} (hlm : lm < 2305843009213693952) :
    Rd Tryz.prog 97 #[.agg #[.slice am lm cm],.agg #[.int .i64 10,.int .i64 xa,.int .i64 xb,.int .i64 xc,.int .i64 xk,.int .i64 xn,.slice ra rl rc,.slice aa al ac]] w (.int .i64 (insForm lm 10 xa xb xc xk xn rl al)):=by
  refine fr_enter (n:=20) Tryz.func97 rfl rfl rfl ?_
  intro a hF
  have hW:=Wd.start w
  replace hF:Fr 20 a [(0,.agg #[.slice am lm cm]),(1,.agg #[.int .i64 10,.int .i64 xa,.int .i64 xb,.int .i64 xc,.int .i64 xk,.int .i64 xn,.slice ra rl rc,.slice aa al ac])]:=hF
  refine wp_seq_k fun K1 hK1=>?_
  refine rg hF fun ops=>?_;clear hF a
  refine sB hW trivial rfl rfl ?_
  clear hW;intro w2 B2 hW2 hN;clear hN
  refine sB hW2 trivial rfl rfl ?_
  clear hW2;intro w3 B3 hW3 hN;clear hN
  refine sa trivial rfl rfl ?_
  refine St.nil fun a4 h4=>?_
  refine hK1 _ _ ?_
  refine wp_seq_k fun K5 hK5=>?_
  refine rg h4 fun ops=>?_;clear h4 a4
  refine sS 0 8 Tryz.underlying41 rfl infIns hW3 trivial rfl rfl rfl rfl ?_
  refine sc_1 cf120 hW3 (wf10) trivial rfl rfl ?_
  clear hW3;intro w6 hW6
  refine sm trivial rfl rfl ?_
  intro a7 h7
  refine fr_pure (t:=10) (v:=.agg #[.int .i64 10,.int .i64 0,.int .i64 0,.int .i64 0,.int .i64 xk,.int .i64 xn,.slice ra rl rc,.slice aa al ac]) (w':=w6) h7 rfl rfl rfl (fun K hK=>?_) ?_
  ·have k0:a7.tmps.getD 7 undef=.tuple #[.agg #[.int .i64 10,.int .i64 0,.int .i64 0,.int .i64 0,.int .i64 xk,.int .i64 xn,.slice ra rl rc,.slice aa al ac],.bool true]:=h7.sl 7 _ rfl
   go_simp
   exact hK
  clear h7;intro a8 hF8
  refine fr_pure (t:=11) (v:=.bool true) (w':=w6) hF8 rfl rfl rfl (fun K hK=>?_) ?_
  ·have k0:a8.tmps.getD 7 undef=.tuple #[.agg #[.int .i64 10,.int .i64 0,.int .i64 0,.int .i64 0,.int .i64 xk,.int .i64 xn,.slice ra rl rc,.slice aa al ac],.bool true]:=hF8.sl 7 _ rfl
   go_simp
   exact hK
  clear hF8;intro a9 hF9
  refine St.go hF9 ?_;clear hF9 a9
  refine sAIns hW6 trivial rfl ?_
  clear hW6;intro w10 B10 hW10 hN;clear hN
  refine sT 0 hW10 rfl rfl infIns rfl rfl rfl ?_
  clear hW10;intro w11 hW11
  refine sa trivial rfl rfl ?_
  refine St.nil fun a12 h12=>?_
  refine hK5 _ _ ?_
  refine wp_seq_k fun K13 hK13=>?_
  refine wp_seq_k fun K14 hK14=>?_
  refine rg h12 fun ops=>?_;clear h12 a12
  refine sm trivial rfl rfl ?_
  refine sn trivial rfl rfl ?_
  refine St.nil fun a15 h15=>?_
  refine hK14 _ _ ?_
  refine fr_false (t:=13) h15 rfl ?_
  refine wp_skip ?_
  refine hK13 _ _ ?_
  refine wp_seq_k fun K16 hK16=>?_
  refine wp_seq_k fun K17 hK17=>?_
  refine rg h15 fun ops=>?_;clear h15 a15
  refine sS 0 8 Tryz.underlying41 rfl infIns hW11 trivial rfl rfl rfl rfl ?_
  refine sc_1 cf121 hW11 (isBare_any) trivial rfl rfl ?_
  clear hW11;intro w18 hW18
  refine sn trivial rfl rfl ?_
  refine St.nil fun a19 h19=>?_
  refine hK17 _ _ ?_
  refine fr_cond (t:=16) h19 rfl (fun hb=>?_) (fun hb=>?_)
  ·have hc20:(bareB 0 0 0 xk xn rl al)=false:=by simpa using hb
   clear hb
   refine wp_seq_k fun K21 hK21=>?_
   refine rg h19 fun ops=>?_;clear h19 a19
   refine sa trivial rfl rfl ?_
   refine St.nil fun a22 h22=>?_
   refine hK21 _ _ ?_
   refine wp_ret ?_;with_reducible repeat first | refine of_then_ret ?_ | refine of_block_ret ?_
   have hB:=hc20
   skip
   have R:insForm lm 10 xa xb xc xk xn rl al=4:=(insForm_bare (show fieldsOf 10=some (true,true,true,false,false,false,false) from rfl)).trans (if_neg (fun hh=>Bool.noConfusion (hh.symm.trans hc20)))
   exact ret_tmp (t:=4) h22 rfl rfl ⟨by rw [R],hW18.bel⟩
  have hc23:(bareB 0 0 0 xk xn rl al)=true:=by simpa using hb
  clear hb
  refine wp_skip ?_
  refine hK16 _ _ ?_
  refine wp_seq_k fun K24 hK24=>?_
  refine rg h19 fun ops=>?_;clear h19 a19
  refine sS 2 1 Tryz.underlying25 rfl infModule hW18 trivial rfl rfl rfl rfl ?_
  refine sS 1 8 Tryz.underlying41 rfl infIns hW18 trivial rfl rfl rfl rfl ?_
  refine sc_2 cf122 hW18 (boundsNo hlm (by decide)) trivial rfl rfl rfl ?_
  clear hW18;intro w25 hW25
  refine sa trivial rfl rfl ?_
  refine St.nil fun a26 h26=>?_
  refine hK24 _ _ ?_
  refine wp_ret ?_;with_reducible repeat first | refine of_then_ret ?_ | refine of_block_ret ?_
  have hB:=hc23
  skip
  have R:insForm lm 10 xa xb xc xk xn rl al=boundsC lm 10 xk rl al:=(insForm_bare (show fieldsOf 10=some (true,true,true,false,false,false,false) from rfl)).trans (if_pos hc23)
  exact ret_tmp (t:=4) h26 rfl rfl ⟨by rw [R],hW25.bel⟩
theorem cIns11 {xa xb xc xk xn : Int} {ra aa : Option Addr} {rl rc al ac : Nat} {am : Option Addr} {lm cm : Nat} {w : World} (hlm : lm < 2305843009213693952) :
    Rd Tryz.prog 97 #[.agg #[.slice am lm cm],.agg #[.int .i64 11,.int .i64 xa,.int .i64 xb,.int .i64 xc,.int .i64 xk,.int .i64 xn,.slice ra rl rc,.slice aa al ac]] w (.int .i64 (insForm lm 11 xa xb xc xk xn rl al)):=by
  refine fr_enter (n:=20) Tryz.func97 rfl rfl rfl ?_
  intro a hF
  have hW:=Wd.start w
  replace hF:Fr 20 a [(0,.agg #[.slice am lm cm]),(1,.agg #[.int .i64 11,.int .i64 xa,.int .i64 xb,.int .i64 xc,.int .i64 xk,.int .i64 xn,.slice ra rl rc,.slice aa al ac])]:=hF
  refine wp_seq_k fun K1 hK1=>?_
  refine rg hF fun ops=>?_;clear hF a
  refine sB hW trivial rfl rfl ?_
  clear hW;intro w2 B2 hW2 hN;clear hN
  refine sB hW2 trivial rfl rfl ?_
  clear hW2;intro w3 B3 hW3 hN;clear hN
  refine sa trivial rfl rfl ?_
  refine St.nil fun a4 h4=>?_
  refine hK1 _ _ ?_
  refine wp_seq_k fun K5 hK5=>?_
  refine rg h4 fun ops=>?_;clear h4 a4
  refine sS 0 8 Tryz.underlying41 rfl infIns hW3 trivial rfl rfl rfl rfl ?_
  refine sc_1 cf120 hW3 (wf11) trivial rfl rfl ?_
  clear hW3;intro w6 hW6
  refine sm trivial rfl rfl ?_
  intro a7 h7
  refine fr_pure (t:=10) (v:=.agg #[.int .i64 11,.int .i64 0,.int .i64 xb,.int .i64 xc,.int .i64 xk,.int .i64 xn,.slice ra rl rc,.slice aa al ac]) (w':=w6) h7 rfl rfl rfl (fun K hK=>?_) ?_
  ·have k0:a7.tmps.getD 7 undef=.tuple #[.agg #[.int .i64 11,.int .i64 0,.int .i64 xb,.int .i64 xc,.int .i64 xk,.int .i64 xn,.slice ra rl rc,.slice aa al ac],.bool true]:=h7.sl 7 _ rfl
   go_simp
   exact hK
  clear h7;intro a8 hF8
  refine fr_pure (t:=11) (v:=.bool true) (w':=w6) hF8 rfl rfl rfl (fun K hK=>?_) ?_
  ·have k0:a8.tmps.getD 7 undef=.tuple #[.agg #[.int .i64 11,.int .i64 0,.int .i64 xb,.int .i64 xc,.int .i64 xk,.int .i64 xn,.slice ra rl rc,.slice aa al ac],.bool true]:=hF8.sl 7 _ rfl
   go_simp
   exact hK
  clear hF8;intro a9 hF9
  refine St.go hF9 ?_;clear hF9 a9
  refine sAIns hW6 trivial rfl ?_
  clear hW6;intro w10 B10 hW10 hN;clear hN
  refine sT 0 hW10 rfl rfl infIns rfl rfl rfl ?_
  clear hW10;intro w11 hW11
  refine sa trivial rfl rfl ?_
  refine St.nil fun a12 h12=>?_
  refine hK5 _ _ ?_
  refine wp_seq_k fun K13 hK13=>?_
  refine wp_seq_k fun K14 hK14=>?_
  refine rg h12 fun ops=>?_;clear h12 a12
  refine sm trivial rfl rfl ?_
  refine sn trivial rfl rfl ?_
  refine St.nil fun a15 h15=>?_
  refine hK14 _ _ ?_
  refine fr_false (t:=13) h15 rfl ?_
  refine wp_skip ?_
  refine hK13 _ _ ?_
  refine wp_seq_k fun K16 hK16=>?_
  refine wp_seq_k fun K17 hK17=>?_
  refine rg h15 fun ops=>?_;clear h15 a15
  refine sS 0 8 Tryz.underlying41 rfl infIns hW11 trivial rfl rfl rfl rfl ?_
  refine sc_1 cf121 hW11 (isBare_any) trivial rfl rfl ?_
  clear hW11;intro w18 hW18
  refine sn trivial rfl rfl ?_
  refine St.nil fun a19 h19=>?_
  refine hK17 _ _ ?_
  refine fr_cond (t:=16) h19 rfl (fun hb=>?_) (fun hb=>?_)
  ·have hc20:(bareB 0 xb xc xk xn rl al)=false:=by simpa using hb
   clear hb
   refine wp_seq_k fun K21 hK21=>?_
   refine rg h19 fun ops=>?_;clear h19 a19
   refine sa trivial rfl rfl ?_
   refine St.nil fun a22 h22=>?_
   refine hK21 _ _ ?_
   refine wp_ret ?_;with_reducible repeat first | refine of_then_ret ?_ | refine of_block_ret ?_
   have hB:=hc20
   skip
   have R:insForm lm 11 xa xb xc xk xn rl al=4:=(insForm_bare (show fieldsOf 11=some (true,false,false,false,false,false,false) from rfl)).trans (if_neg (fun hh=>Bool.noConfusion (hh.symm.trans hc20)))
   exact ret_tmp (t:=4) h22 rfl rfl ⟨by rw [R],hW18.bel⟩
  have hc23:(bareB 0 xb xc xk xn rl al)=true:=by simpa using hb
  clear hb
  refine wp_skip ?_
  refine hK16 _ _ ?_
  refine wp_seq_k fun K24 hK24=>?_
  refine rg h19 fun ops=>?_;clear h19 a19
  refine sS 2 1 Tryz.underlying25 rfl infModule hW18 trivial rfl rfl rfl rfl ?_
  refine sS 1 8 Tryz.underlying41 rfl infIns hW18 trivial rfl rfl rfl rfl ?_
  refine sc_2 cf122 hW18 (boundsNo hlm (by decide)) trivial rfl rfl rfl ?_
  clear hW18;intro w25 hW25
  refine sa trivial rfl rfl ?_
  refine St.nil fun a26 h26=>?_
  refine hK24 _ _ ?_
  refine wp_ret ?_;with_reducible repeat first | refine of_then_ret ?_ | refine of_block_ret ?_
  have hB:=hc23
  skip
  have R:insForm lm 11 xa xb xc xk xn rl al=boundsC lm 11 xk rl al:=(insForm_bare (show fieldsOf 11=some (true,false,false,false,false,false,false) from rfl)).trans (if_pos hc23)
  exact ret_tmp (t:=4) h26 rfl rfl ⟨by rw [R],hW25.bel⟩
theorem cIns12 {xa xb xc xk xn : Int} {ra aa : Option Addr} {rl rc al ac : Nat} {am : Option Addr} {lm cm : Nat} {w : World} (hlm : lm < 2305843009213693952) :
    Rd Tryz.prog 97 #[.agg #[.slice am lm cm],.agg #[.int .i64 12,.int .i64 xa,.int .i64 xb,.int .i64 xc,.int .i64 xk,.int .i64 xn,.slice ra rl rc,.slice aa al ac]] w (.int .i64 (insForm lm 12 xa xb xc xk xn rl al)):=by
  refine fr_enter (n:=20) Tryz.func97 rfl rfl rfl ?_
  intro a hF
  have hW:=Wd.start w
  replace hF:Fr 20 a [(0,.agg #[.slice am lm cm]),(1,.agg #[.int .i64 12,.int .i64 xa,.int .i64 xb,.int .i64 xc,.int .i64 xk,.int .i64 xn,.slice ra rl rc,.slice aa al ac])]:=hF
  refine wp_seq_k fun K1 hK1=>?_
  refine rg hF fun ops=>?_;clear hF a
  refine sB hW trivial rfl rfl ?_
  clear hW;intro w2 B2 hW2 hN;clear hN
  refine sB hW2 trivial rfl rfl ?_
  clear hW2;intro w3 B3 hW3 hN;clear hN
  refine sa trivial rfl rfl ?_
  refine St.nil fun a4 h4=>?_
  refine hK1 _ _ ?_
  refine wp_seq_k fun K5 hK5=>?_
  refine rg h4 fun ops=>?_;clear h4 a4
  refine sS 0 8 Tryz.underlying41 rfl infIns hW3 trivial rfl rfl rfl rfl ?_
  refine sc_1 cf120 hW3 (wf12) trivial rfl rfl ?_
  clear hW3;intro w6 hW6
  refine sm trivial rfl rfl ?_
  intro a7 h7
  refine fr_pure (t:=10) (v:=.agg #[.int .i64 12,.int .i64 xa,.int .i64 xb,.int .i64 xc,.int .i64 xk,.int .i64 xn,.slice ra rl rc,.slice aa al ac]) (w':=w6) h7 rfl rfl rfl (fun K hK=>?_) ?_
  ·have k0:a7.tmps.getD 7 undef=.tuple #[.agg #[.int .i64 12,.int .i64 xa,.int .i64 xb,.int .i64 xc,.int .i64 xk,.int .i64 xn,.slice ra rl rc,.slice aa al ac],.bool true]:=h7.sl 7 _ rfl
   go_simp
   exact hK
  clear h7;intro a8 hF8
  refine fr_pure (t:=11) (v:=.bool true) (w':=w6) hF8 rfl rfl rfl (fun K hK=>?_) ?_
  ·have k0:a8.tmps.getD 7 undef=.tuple #[.agg #[.int .i64 12,.int .i64 xa,.int .i64 xb,.int .i64 xc,.int .i64 xk,.int .i64 xn,.slice ra rl rc,.slice aa al ac],.bool true]:=hF8.sl 7 _ rfl
   go_simp
   exact hK
  clear hF8;intro a9 hF9
  refine St.go hF9 ?_;clear hF9 a9
  refine sAIns hW6 trivial rfl ?_
  clear hW6;intro w10 B10 hW10 hN;clear hN
  refine sT 0 hW10 rfl rfl infIns rfl rfl rfl ?_
  clear hW10;intro w11 hW11
  refine sa trivial rfl rfl ?_
  refine St.nil fun a12 h12=>?_
  refine hK5 _ _ ?_
  refine wp_seq_k fun K13 hK13=>?_
  refine wp_seq_k fun K14 hK14=>?_
  refine rg h12 fun ops=>?_;clear h12 a12
  refine sm trivial rfl rfl ?_
  refine sn trivial rfl rfl ?_
  refine St.nil fun a15 h15=>?_
  refine hK14 _ _ ?_
  refine fr_false (t:=13) h15 rfl ?_
  refine wp_skip ?_
  refine hK13 _ _ ?_
  refine wp_seq_k fun K16 hK16=>?_
  refine wp_seq_k fun K17 hK17=>?_
  refine rg h15 fun ops=>?_;clear h15 a15
  refine sS 0 8 Tryz.underlying41 rfl infIns hW11 trivial rfl rfl rfl rfl ?_
  refine sc_1 cf121 hW11 (isBare_any) trivial rfl rfl ?_
  clear hW11;intro w18 hW18
  refine sn trivial rfl rfl ?_
  refine St.nil fun a19 h19=>?_
  refine hK17 _ _ ?_
  refine fr_cond (t:=16) h19 rfl (fun hb=>?_) (fun hb=>?_)
  ·have hc20:(bareB xa xb xc xk xn rl al)=false:=by simpa using hb
   clear hb
   refine wp_seq_k fun K21 hK21=>?_
   refine rg h19 fun ops=>?_;clear h19 a19
   refine sa trivial rfl rfl ?_
   refine St.nil fun a22 h22=>?_
   refine hK21 _ _ ?_
   refine wp_ret ?_;with_reducible repeat first | refine of_then_ret ?_ | refine of_block_ret ?_
   have hB:=hc20
   skip
   have R:insForm lm 12 xa xb xc xk xn rl al=4:=(insForm_bare (show fieldsOf 12=some (false,false,false,false,false,false,false) from rfl)).trans (if_neg (fun hh=>Bool.noConfusion (hh.symm.trans hc20)))
   exact ret_tmp (t:=4) h22 rfl rfl ⟨by rw [R],hW18.bel⟩
  have hc23:(bareB xa xb xc xk xn rl al)=true:=by simpa using hb
  clear hb
  refine wp_skip ?_
  refine hK16 _ _ ?_
  refine wp_seq_k fun K24 hK24=>?_
  refine rg h19 fun ops=>?_;clear h19 a19
  refine sS 2 1 Tryz.underlying25 rfl infModule hW18 trivial rfl rfl rfl rfl ?_
  refine sS 1 8 Tryz.underlying41 rfl infIns hW18 trivial rfl rfl rfl rfl ?_
  refine sc_2 cf122 hW18 (boundsNo hlm (by decide)) trivial rfl rfl rfl ?_
  clear hW18;intro w25 hW25
  refine sa trivial rfl rfl ?_
  refine St.nil fun a26 h26=>?_
  refine hK24 _ _ ?_
  refine wp_ret ?_;with_reducible repeat first | refine of_then_ret ?_ | refine of_block_ret ?_
  have hB:=hc23
  skip
  have R:insForm lm 12 xa xb xc xk xn rl al=boundsC lm 12 xk rl al:=(insForm_bare (show fieldsOf 12=some (false,false,false,false,false,false,false) from rfl)).trans (if_pos hc23)
  exact ret_tmp (t:=4) h26 rfl rfl ⟨by rw [R],hW25.bel⟩
theorem cIns13 {xa xb xc xk xn : Int} {ra aa : Option Addr} {rl rc al ac : Nat} {am : Option Addr} {lm cm : Nat} {w : World} (hlm : lm < 2305843009213693952) :
    Rd Tryz.prog 97 #[.agg #[.slice am lm cm],.agg #[.int .i64 13,.int .i64 xa,.int .i64 xb,.int .i64 xc,.int .i64 xk,.int .i64 xn,.slice ra rl rc,.slice aa al ac]] w (.int .i64 (insForm lm 13 xa xb xc xk xn rl al)):=by
  refine fr_enter (n:=20) Tryz.func97 rfl rfl rfl ?_
  intro a hF
  have hW:=Wd.start w
  replace hF:Fr 20 a [(0,.agg #[.slice am lm cm]),(1,.agg #[.int .i64 13,.int .i64 xa,.int .i64 xb,.int .i64 xc,.int .i64 xk,.int .i64 xn,.slice ra rl rc,.slice aa al ac])]:=hF
  refine wp_seq_k fun K1 hK1=>?_
  refine rg hF fun ops=>?_;clear hF a
  refine sB hW trivial rfl rfl ?_
  clear hW;intro w2 B2 hW2 hN;clear hN
  refine sB hW2 trivial rfl rfl ?_
  clear hW2;intro w3 B3 hW3 hN;clear hN
  refine sa trivial rfl rfl ?_
  refine St.nil fun a4 h4=>?_
  refine hK1 _ _ ?_
  refine wp_seq_k fun K5 hK5=>?_
  refine rg h4 fun ops=>?_;clear h4 a4
  refine sS 0 8 Tryz.underlying41 rfl infIns hW3 trivial rfl rfl rfl rfl ?_
  refine sc_1 cf120 hW3 (wf13) trivial rfl rfl ?_
  clear hW3;intro w6 hW6
  refine sm trivial rfl rfl ?_
  intro a7 h7
  refine fr_pure (t:=10) (v:=.agg #[.int .i64 13,.int .i64 0,.int .i64 xb,.int .i64 xc,.int .i64 xk,.int .i64 xn,.slice ra rl rc,.slice aa al ac]) (w':=w6) h7 rfl rfl rfl (fun K hK=>?_) ?_
  ·have k0:a7.tmps.getD 7 undef=.tuple #[.agg #[.int .i64 13,.int .i64 0,.int .i64 xb,.int .i64 xc,.int .i64 xk,.int .i64 xn,.slice ra rl rc,.slice aa al ac],.bool true]:=h7.sl 7 _ rfl
   go_simp
   exact hK
  clear h7;intro a8 hF8
  refine fr_pure (t:=11) (v:=.bool true) (w':=w6) hF8 rfl rfl rfl (fun K hK=>?_) ?_
  ·have k0:a8.tmps.getD 7 undef=.tuple #[.agg #[.int .i64 13,.int .i64 0,.int .i64 xb,.int .i64 xc,.int .i64 xk,.int .i64 xn,.slice ra rl rc,.slice aa al ac],.bool true]:=hF8.sl 7 _ rfl
   go_simp
   exact hK
  clear hF8;intro a9 hF9
  refine St.go hF9 ?_;clear hF9 a9
  refine sAIns hW6 trivial rfl ?_
  clear hW6;intro w10 B10 hW10 hN;clear hN
  refine sT 0 hW10 rfl rfl infIns rfl rfl rfl ?_
  clear hW10;intro w11 hW11
  refine sa trivial rfl rfl ?_
  refine St.nil fun a12 h12=>?_
  refine hK5 _ _ ?_
  refine wp_seq_k fun K13 hK13=>?_
  refine wp_seq_k fun K14 hK14=>?_
  refine rg h12 fun ops=>?_;clear h12 a12
  refine sm trivial rfl rfl ?_
  refine sn trivial rfl rfl ?_
  refine St.nil fun a15 h15=>?_
  refine hK14 _ _ ?_
  refine fr_false (t:=13) h15 rfl ?_
  refine wp_skip ?_
  refine hK13 _ _ ?_
  refine wp_seq_k fun K16 hK16=>?_
  refine wp_seq_k fun K17 hK17=>?_
  refine rg h15 fun ops=>?_;clear h15 a15
  refine sS 0 8 Tryz.underlying41 rfl infIns hW11 trivial rfl rfl rfl rfl ?_
  refine sc_1 cf121 hW11 (isBare_any) trivial rfl rfl ?_
  clear hW11;intro w18 hW18
  refine sn trivial rfl rfl ?_
  refine St.nil fun a19 h19=>?_
  refine hK17 _ _ ?_
  refine fr_cond (t:=16) h19 rfl (fun hb=>?_) (fun hb=>?_)
  ·have hc20:(bareB 0 xb xc xk xn rl al)=false:=by simpa using hb
   clear hb
   refine wp_seq_k fun K21 hK21=>?_
   refine rg h19 fun ops=>?_;clear h19 a19
   refine sa trivial rfl rfl ?_
   refine St.nil fun a22 h22=>?_
   refine hK21 _ _ ?_
   refine wp_ret ?_;with_reducible repeat first | refine of_then_ret ?_ | refine of_block_ret ?_
   have hB:=hc20
   skip
   have R:insForm lm 13 xa xb xc xk xn rl al=4:=(insForm_bare (show fieldsOf 13=some (true,false,false,false,false,false,false) from rfl)).trans (if_neg (fun hh=>Bool.noConfusion (hh.symm.trans hc20)))
   exact ret_tmp (t:=4) h22 rfl rfl ⟨by rw [R],hW18.bel⟩
  have hc23:(bareB 0 xb xc xk xn rl al)=true:=by simpa using hb
  clear hb
  refine wp_skip ?_
  refine hK16 _ _ ?_
  refine wp_seq_k fun K24 hK24=>?_
  refine rg h19 fun ops=>?_;clear h19 a19
  refine sS 2 1 Tryz.underlying25 rfl infModule hW18 trivial rfl rfl rfl rfl ?_
  refine sS 1 8 Tryz.underlying41 rfl infIns hW18 trivial rfl rfl rfl rfl ?_
  refine sc_2 cf122 hW18 (boundsNo hlm (by decide)) trivial rfl rfl rfl ?_
  clear hW18;intro w25 hW25
  refine sa trivial rfl rfl ?_
  refine St.nil fun a26 h26=>?_
  refine hK24 _ _ ?_
  refine wp_ret ?_;with_reducible repeat first | refine of_then_ret ?_ | refine of_block_ret ?_
  have hB:=hc23
  skip
  have R:insForm lm 13 xa xb xc xk xn rl al=boundsC lm 13 xk rl al:=(insForm_bare (show fieldsOf 13=some (true,false,false,false,false,false,false) from rfl)).trans (if_pos hc23)
  exact ret_tmp (t:=4) h26 rfl rfl ⟨by rw [R],hW25.bel⟩
theorem cIns14 {xa xb xc xk xn : Int} {ra aa : Option Addr} {rl rc al ac : Nat} {am : Option Addr} {lm cm : Nat} {w : World} (hlm : lm < 2305843009213693952) :
    Rd Tryz.prog 97 #[.agg #[.slice am lm cm],.agg #[.int .i64 14,.int .i64 xa,.int .i64 xb,.int .i64 xc,.int .i64 xk,.int .i64 xn,.slice ra rl rc,.slice aa al ac]] w (.int .i64 (insForm lm 14 xa xb xc xk xn rl al)):=by
  refine fr_enter (n:=20) Tryz.func97 rfl rfl rfl ?_
  intro a hF
  have hW:=Wd.start w
  replace hF:Fr 20 a [(0,.agg #[.slice am lm cm]),(1,.agg #[.int .i64 14,.int .i64 xa,.int .i64 xb,.int .i64 xc,.int .i64 xk,.int .i64 xn,.slice ra rl rc,.slice aa al ac])]:=hF
  refine wp_seq_k fun K1 hK1=>?_
  refine rg hF fun ops=>?_;clear hF a
  refine sB hW trivial rfl rfl ?_
  clear hW;intro w2 B2 hW2 hN;clear hN
  refine sB hW2 trivial rfl rfl ?_
  clear hW2;intro w3 B3 hW3 hN;clear hN
  refine sa trivial rfl rfl ?_
  refine St.nil fun a4 h4=>?_
  refine hK1 _ _ ?_
  refine wp_seq_k fun K5 hK5=>?_
  refine rg h4 fun ops=>?_;clear h4 a4
  refine sS 0 8 Tryz.underlying41 rfl infIns hW3 trivial rfl rfl rfl rfl ?_
  refine sc_1 cf120 hW3 (wf14) trivial rfl rfl ?_
  clear hW3;intro w6 hW6
  refine sm trivial rfl rfl ?_
  intro a7 h7
  refine fr_pure (t:=10) (v:=.agg #[.int .i64 14,.int .i64 xa,.int .i64 xb,.int .i64 xc,.int .i64 0,.int .i64 xn,.slice none 0 0,.slice none 0 0]) (w':=w6) h7 rfl rfl rfl (fun K hK=>?_) ?_
  ·have k0:a7.tmps.getD 7 undef=.tuple #[.agg #[.int .i64 14,.int .i64 xa,.int .i64 xb,.int .i64 xc,.int .i64 0,.int .i64 xn,.slice none 0 0,.slice none 0 0],.bool true]:=h7.sl 7 _ rfl
   go_simp
   exact hK
  clear h7;intro a8 hF8
  refine fr_pure (t:=11) (v:=.bool true) (w':=w6) hF8 rfl rfl rfl (fun K hK=>?_) ?_
  ·have k0:a8.tmps.getD 7 undef=.tuple #[.agg #[.int .i64 14,.int .i64 xa,.int .i64 xb,.int .i64 xc,.int .i64 0,.int .i64 xn,.slice none 0 0,.slice none 0 0],.bool true]:=hF8.sl 7 _ rfl
   go_simp
   exact hK
  clear hF8;intro a9 hF9
  refine St.go hF9 ?_;clear hF9 a9
  refine sAIns hW6 trivial rfl ?_
  clear hW6;intro w10 B10 hW10 hN;clear hN
  refine sT 0 hW10 rfl rfl infIns rfl rfl rfl ?_
  clear hW10;intro w11 hW11
  refine sa trivial rfl rfl ?_
  refine St.nil fun a12 h12=>?_
  refine hK5 _ _ ?_
  refine wp_seq_k fun K13 hK13=>?_
  refine wp_seq_k fun K14 hK14=>?_
  refine rg h12 fun ops=>?_;clear h12 a12
  refine sm trivial rfl rfl ?_
  refine sn trivial rfl rfl ?_
  refine St.nil fun a15 h15=>?_
  refine hK14 _ _ ?_
  refine fr_false (t:=13) h15 rfl ?_
  refine wp_skip ?_
  refine hK13 _ _ ?_
  refine wp_seq_k fun K16 hK16=>?_
  refine wp_seq_k fun K17 hK17=>?_
  refine rg h15 fun ops=>?_;clear h15 a15
  refine sS 0 8 Tryz.underlying41 rfl infIns hW11 trivial rfl rfl rfl rfl ?_
  refine sc_1 cf121 hW11 (isBare_any) trivial rfl rfl ?_
  clear hW11;intro w18 hW18
  refine sn trivial rfl rfl ?_
  refine St.nil fun a19 h19=>?_
  refine hK17 _ _ ?_
  refine fr_cond (t:=16) h19 rfl (fun hb=>?_) (fun hb=>?_)
  ·have hc20:(bareB xa xb xc 0 xn 0 0)=false:=by simpa using hb
   clear hb
   refine wp_seq_k fun K21 hK21=>?_
   refine rg h19 fun ops=>?_;clear h19 a19
   refine sa trivial rfl rfl ?_
   refine St.nil fun a22 h22=>?_
   refine hK21 _ _ ?_
   refine wp_ret ?_;with_reducible repeat first | refine of_then_ret ?_ | refine of_block_ret ?_
   have hB:=hc20
   skip
   have R:insForm lm 14 xa xb xc xk xn rl al=4:=(insForm_bare (show fieldsOf 14=some (false,false,false,true,false,true,true) from rfl)).trans (if_neg (fun hh=>Bool.noConfusion (hh.symm.trans hc20)))
   exact ret_tmp (t:=4) h22 rfl rfl ⟨by rw [R],hW18.bel⟩
  have hc23:(bareB xa xb xc 0 xn 0 0)=true:=by simpa using hb
  clear hb
  refine wp_skip ?_
  refine hK16 _ _ ?_
  refine wp_seq_k fun K24 hK24=>?_
  refine rg h19 fun ops=>?_;clear h19 a19
  refine sS 2 1 Tryz.underlying25 rfl infModule hW18 trivial rfl rfl rfl rfl ?_
  refine sS 1 8 Tryz.underlying41 rfl infIns hW18 trivial rfl rfl rfl rfl ?_
  refine sc_2 cf122 hW18 (bounds14 hlm) trivial rfl rfl rfl ?_
  clear hW18;intro w25 hW25
  refine sa trivial rfl rfl ?_
  refine St.nil fun a26 h26=>?_
  refine hK24 _ _ ?_
  refine wp_ret ?_;with_reducible repeat first | refine of_then_ret ?_ | refine of_block_ret ?_
  have hB:=hc23
  skip
  have R:insForm lm 14 xa xb xc xk xn rl al=boundsC lm 14 xk rl al:=(insForm_bare (show fieldsOf 14=some (false,false,false,true,false,true,true) from rfl)).trans (if_pos hc23)
  exact ret_tmp (t:=4) h26 rfl rfl ⟨by rw [R],hW25.bel⟩
theorem cInsNo {xop xa xb xc xk xn : Int} {ra aa : Option Addr} {rl rc al ac : Nat} {am : Option Addr} {lm cm : Nat} {w : World} (hlm : lm < 2305843009213693952) (h : xop ≠ 1 ∧ xop ≠ 2 ∧ xop ≠ 3 ∧ xop ≠ 4 ∧ xop ≠ 5 ∧ xop ≠ 6 ∧ xop ≠ 7 ∧ xop ≠ 8 ∧ xop ≠ 9 ∧ xop ≠ 10 ∧ xop ≠ 11 ∧ xop ≠ 12 ∧ xop ≠ 13 ∧ xop ≠ 14) :
    Rd Tryz.prog 97 #[.agg #[.slice am lm cm],.agg #[.int .i64 xop,.int .i64 xa,.int .i64 xb,.int .i64 xc,.int .i64 xk,.int .i64 xn,.slice ra rl rc,.slice aa al ac]] w (.int .i64 (insForm lm xop xa xb xc xk xn rl al)):=by
  refine fr_enter (n:=20) Tryz.func97 rfl rfl rfl ?_
  intro a hF
  have hW:=Wd.start w
  replace hF:Fr 20 a [(0,.agg #[.slice am lm cm]),(1,.agg #[.int .i64 xop,.int .i64 xa,.int .i64 xb,.int .i64 xc,.int .i64 xk,.int .i64 xn,.slice ra rl rc,.slice aa al ac])]:=hF
  refine wp_seq_k fun K1 hK1=>?_
  refine rg hF fun ops=>?_;clear hF a
  refine sB hW trivial rfl rfl ?_
  clear hW;intro w2 B2 hW2 hN;clear hN
  refine sB hW2 trivial rfl rfl ?_
  clear hW2;intro w3 B3 hW3 hN;clear hN
  refine sa trivial rfl rfl ?_
  refine St.nil fun a4 h4=>?_
  refine hK1 _ _ ?_
  refine wp_seq_k fun K5 hK5=>?_
  refine rg h4 fun ops=>?_;clear h4 a4
  refine sS 0 8 Tryz.underlying41 rfl infIns hW3 trivial rfl rfl rfl rfl ?_
  refine sc_1 cf120 hW3 (wfNo h) trivial rfl rfl ?_
  clear hW3;intro w6 hW6
  refine sm trivial rfl rfl ?_
  intro a7 h7
  refine fr_pure (t:=10) (v:=.agg #[.int .i64 xop,.int .i64 xa,.int .i64 xb,.int .i64 xc,.int .i64 xk,.int .i64 xn,.slice ra rl rc,.slice aa al ac]) (w':=w6) h7 rfl rfl rfl (fun K hK=>?_) ?_
  ·have k0:a7.tmps.getD 7 undef=.tuple #[.agg #[.int .i64 xop,.int .i64 xa,.int .i64 xb,.int .i64 xc,.int .i64 xk,.int .i64 xn,.slice ra rl rc,.slice aa al ac],.bool false]:=h7.sl 7 _ rfl
   go_simp
   exact hK
  clear h7;intro a8 hF8
  refine fr_pure (t:=11) (v:=.bool false) (w':=w6) hF8 rfl rfl rfl (fun K hK=>?_) ?_
  ·have k0:a8.tmps.getD 7 undef=.tuple #[.agg #[.int .i64 xop,.int .i64 xa,.int .i64 xb,.int .i64 xc,.int .i64 xk,.int .i64 xn,.slice ra rl rc,.slice aa al ac],.bool false]:=hF8.sl 7 _ rfl
   go_simp
   exact hK
  clear hF8;intro a9 hF9
  refine St.go hF9 ?_;clear hF9 a9
  refine sAIns hW6 trivial rfl ?_
  clear hW6;intro w10 B10 hW10 hN;clear hN
  refine sT 0 hW10 rfl rfl infIns rfl rfl rfl ?_
  clear hW10;intro w11 hW11
  refine sa trivial rfl rfl ?_
  refine St.nil fun a12 h12=>?_
  refine hK5 _ _ ?_
  refine wp_seq_k fun K13 hK13=>?_
  refine wp_seq_k fun K14 hK14=>?_
  refine rg h12 fun ops=>?_;clear h12 a12
  refine sm trivial rfl rfl ?_
  refine sn trivial rfl rfl ?_
  refine St.nil fun a15 h15=>?_
  refine hK14 _ _ ?_
  refine fr_true (t:=13) h15 rfl ?_
  refine wp_seq_k fun K16 hK16=>?_
  refine rg h15 fun ops=>?_;clear h15 a15
  refine sa trivial rfl rfl ?_
  refine St.nil fun a17 h17=>?_
  refine hK16 _ _ ?_
  refine wp_ret ?_;with_reducible repeat first | refine of_then_ret ?_ | refine of_block_ret ?_
  have R:insForm lm xop xa xb xc xk xn rl al=3:=by simp [insForm,(show fieldsOf xop=none by unfold fieldsOf;simp [h])]
  exact ret_tmp (t:=4) h17 rfl rfl ⟨by rw [R],hW11.bel⟩
theorem cIns_any (funcs : Nat) (x : MIns) (i : IP) (am : Option Addr) (cm : Nat) (w : World) (hf : funcs < 2305843009213693952) :
    Rd Tryz.prog 97 #[.agg #[.slice am funcs cm],.agg #[.int .i64 x.op,.int .i64 x.a,.int .i64 x.b,.int .i64 x.c,.int .i64 x.k,.int .i64 x.n,.slice i.pR x.regs.length i.cR,.slice i.pA x.args.length i.cA]] w (.int .i64 (x.form funcs)):=by
  rw [MIns.form_eq]
  have hno:=op_cases x.op
  generalize x.op=op at hno ⊢
  rcases hno with rfl | rfl | rfl | rfl | rfl | rfl | rfl | rfl | rfl | rfl | rfl | rfl | rfl | rfl | h
  · exact cIns1 hf
  · exact cIns2 hf
  · exact cIns3 hf
  · exact cIns4 hf
  · exact cIns5 hf
  · exact cIns6 hf
  · exact cIns7 hf
  · exact cIns8 hf
  · exact cIns9 hf
  · exact cIns10 hf
  · exact cIns11 hf
  · exact cIns12 hf
  · exact cIns13 hf
  · exact cIns14 hf
  · exact cInsNo hf h
theorem endForm_any {x : MEnd} {e : EP} {fr : Int} {fp fq fb : Option Addr} {fl fc fm fd bl fe : Nat} {w : World} (hs : x.yes.regs.length < 2305843009213693952 ∧ x.yes.args.length < 2305843009213693952 ∧ x.no.regs.length < 2305843009213693952 ∧ x.no.args.length < 2305843009213693952) (hbl : bl < 2305843009213693952) :
    Rd Tryz.prog 58 #[.agg #[.int .i64 fr,.slice fp fl fc,.slice fq fm fd,.slice fb bl fe],.agg #[.int .i64 x.op,.int .i64 x.a,.int .i64 x.yes.block,.slice e.pYR x.yes.regs.length e.cYR,.slice e.pYA x.yes.args.length e.cYA,.int .i64 x.no.block,.slice e.pNR x.no.regs.length e.cNR,.slice e.pNA x.no.args.length e.cNA,.slice e.pA x.args.length e.cA]] w (.int .i64 (x.form bl)):=by
  refine fr_enter (n:=54) Tryz.func58 rfl rfl rfl ?_
  intro a hF
  have hW:=Wd.start w
  replace hF:Fr 54 a [(0,.agg #[.int .i64 fr,.slice fp fl fc,.slice fq fm fd,.slice fb bl fe]),(1,.agg #[.int .i64 x.op,.int .i64 x.a,.int .i64 x.yes.block,.slice e.pYR x.yes.regs.length e.cYR,.slice e.pYA x.yes.args.length e.cYA,.int .i64 x.no.block,.slice e.pNR x.no.regs.length e.cNR,.slice e.pNA x.no.args.length e.cNA,.slice e.pA x.args.length e.cA])]:=hF
  refine wp_seq_k fun K1 hK1=>?_
  refine rg hF fun ops=>?_;clear hF a
  refine sB hW trivial rfl rfl ?_
  clear hW;intro w2 B2 hW2 hN;clear hN
  refine sB hW2 trivial rfl rfl ?_
  clear hW2;intro w3 B3 hW3 hN;clear hN
  refine sa trivial rfl rfl ?_
  refine St.nil fun a4 h4=>?_
  refine hK1 _ _ ?_
  refine wp_seq_k fun K5 hK5=>?_
  refine wp_seq_k fun K6 hK6=>?_
  refine fr_region ?_
  intro ops hops
  have hg3:(ops[3]?).bind (fun o:Oper=>o.dst)=some 9:=hops 3
  clear hops
  refine St.go h4 ?_;clear h4 a4
  refine sfEnd0 trivial rfl rfl ?_
  refine sbInt 0 hW3 trivial rfl rfl rfl rfl ?_
  refine slt trivial rfl rfl rfl ?_
  refine sm trivial rfl rfl ?_
  intro a7 h7
  rcases Bool.eq_false_or_eq_true (decide (x.op < 1)) with hb | hb
  ·rw [hb] at h7
   have hc8:x.op < 1:=of_decide_eq_true hb
   clear hb
   refine St.go h7 ?_;clear h7 a7
   refine so hg3 rfl rfl rfl rfl ?_
   refine so hg3 rfl rfl rfl rfl ?_
   refine so hg3 rfl rfl rfl rfl ?_
   refine sp trivial rfl rfl rfl ?_
   refine St.nil fun a9 h9=>?_
   refine hK6 _ _ ?_
   refine fr_true (t:=13) h9 rfl ?_
   refine wp_seq_k fun K10 hK10=>?_
   refine rg h9 fun ops=>?_;clear h9 a9
   refine sa trivial rfl rfl ?_
   refine St.nil fun a11 h11=>?_
   refine hK10 _ _ ?_
   refine wp_ret ?_;with_reducible repeat first | refine of_then_ret ?_ | refine of_block_ret ?_
   have R:x.form bl=3:=by
    rw [endForm_eq]
    generalize x.yes.form bl (x.op != 3)=yv
    generalize x.no.form bl (x.op == 2)=zv
    first | (simp [hc8];done) | (exfalso;have:=hc8;omega)
   exact ret_tmp (t:=4) h11 rfl rfl ⟨by rw [R],hW3.bel⟩
  rw [hb] at h7
  have hc12:¬ (x.op < 1):=of_decide_eq_false hb
  clear hb
  refine St.go h7 ?_;clear h7 a7
  refine sfEnd0 ⟨_,hg3,rfl,rfl⟩ rfl rfl ?_
  refine sbInt 0 hW3 ⟨_,hg3,rfl,rfl⟩ rfl rfl rfl rfl ?_
  refine sgt ⟨_,hg3,rfl,rfl⟩ rfl rfl rfl ?_
  refine spf trivial rfl rfl rfl ?_
  refine St.nil fun a13 h13=>?_
  refine hK6 _ _ ?_
  refine fr_cond (t:=13) h13 rfl (fun hb=>?_) (fun hb=>?_)
  ·have hc14:3 < x.op:=of_decide_eq_true hb
   clear hb
   refine wp_seq_k fun K15 hK15=>?_
   refine rg h13 fun ops=>?_;clear h13 a13
   refine sa trivial rfl rfl ?_
   refine St.nil fun a16 h16=>?_
   refine hK15 _ _ ?_
   refine wp_ret ?_;with_reducible repeat first | refine of_then_ret ?_ | refine of_block_ret ?_
   have R:x.form bl=3:=by
    rw [endForm_eq]
    generalize x.yes.form bl (x.op != 3)=yv
    generalize x.no.form bl (x.op == 2)=zv
    first | (simp [hc12,hc14];done) | (exfalso;have:=hc12;have:=hc14;omega)
   exact ret_tmp (t:=4) h16 rfl rfl ⟨by rw [R],hW3.bel⟩
  have hc17:¬ (3 < x.op):=of_decide_eq_false hb
  clear hb
  refine wp_skip ?_
  refine hK5 _ _ ?_
  refine wp_seq_k fun K18 hK18=>?_
  refine wp_seq_k fun K19 hK19=>?_
  refine fr_region ?_
  intro ops hops
  have hg3:(ops[3]?).bind (fun o:Oper=>o.dst)=some 17:=hops 3
  have hg8:(ops[8]?).bind (fun o:Oper=>o.dst)=some 22:=hops 8
  have hg13:(ops[13]?).bind (fun o:Oper=>o.dst)=some 27:=hops 13
  clear hops
  refine St.go h13 ?_;clear h13 a13
  refine sfEnd1 trivial rfl rfl ?_
  refine sbInt 0 hW3 trivial rfl rfl rfl rfl ?_
  refine sne trivial rfl rfl rfl ?_
  refine sm trivial rfl rfl ?_
  intro a20 h20
  rcases Bool.eq_false_or_eq_true (x.a != 0) with hb | hb
  ·rw [hb] at h20
   have h9:¬ x.a=0:=bne_iff_ne.1 hb
   have hc21:¬ x.a=0:=h9
   clear h9
   clear hb
   refine St.go h20 ?_;clear h20 a20
   refine sfEnd0 ⟨_,hg3,rfl,rfl⟩ rfl rfl ?_
   refine sbInt 0 hW3 ⟨_,hg3,rfl,rfl⟩ rfl rfl rfl rfl ?_
   refine sne ⟨_,hg3,rfl,rfl⟩ rfl rfl rfl ?_
   refine sp trivial rfl rfl rfl ?_
   refine sm trivial rfl rfl ?_
   intro a22 h22
   rcases Bool.eq_false_or_eq_true (x.op != 2) with hb | hb
   ·rw [hb] at h22
    have h9:¬ x.op=2:=bne_iff_ne.1 hb
    have hc23:¬ x.op=2:=h9
    clear h9
    clear hb
    refine St.go h22 ?_;clear h22 a22
    refine so hg8 rfl rfl rfl rfl ?_
    refine so hg8 rfl rfl rfl rfl ?_
    refine so hg8 rfl rfl rfl rfl ?_
    refine so hg8 rfl rfl rfl rfl ?_
    refine so hg8 rfl rfl rfl rfl ?_
    refine so hg13 rfl rfl rfl rfl ?_
    refine so hg13 rfl rfl rfl rfl ?_
    refine so hg13 rfl rfl rfl rfl ?_
    refine so hg8 rfl rfl rfl rfl ?_
    refine sp trivial rfl rfl rfl ?_
    refine St.nil fun a24 h24=>?_
    refine hK19 _ _ ?_
    refine fr_true (t:=32) h24 rfl ?_
    refine wp_seq_k fun K25 hK25=>?_
    refine rg h24 fun ops=>?_;clear h24 a24
    refine sa trivial rfl rfl ?_
    refine St.nil fun a26 h26=>?_
    refine hK25 _ _ ?_
    refine wp_ret ?_;with_reducible repeat first | refine of_then_ret ?_ | refine of_block_ret ?_
    have R:x.form bl=4:=by
     rw [endForm_eq]
     generalize x.yes.form bl (x.op != 3)=yv
     generalize x.no.form bl (x.op == 2)=zv
     first | (simp [hc12,hc17,hc21,hc23];done) | (exfalso;have:=hc12;have:=hc17;have:=hc21;have:=hc23;omega)
    exact ret_tmp (t:=4) h26 rfl rfl ⟨by rw [R],hW3.bel⟩
   rw [hb] at h22
   have h9:x.op=2:=bne_eq_false_iff_eq.1 hb
   have hc27:Hid (x.op=2):=h9
   clear h9
   clear hb
   refine St.go h22 ?_;clear h22 a22
   refine sfEnd4 ⟨_,hg8,rfl,rfl⟩ rfl rfl ?_
   refine sbInts 0 hW3 ⟨_,hg8,rfl,rfl⟩ rfl rfl rfl rfl ?_
   refine slInts ⟨_,hg8,rfl,rfl⟩ rfl rfl ?_
   refine sgt ⟨_,hg8,rfl,rfl⟩ rfl rfl rfl ?_
   refine sm ⟨_,hg8,rfl,rfl⟩ rfl rfl ?_
   intro a28 h28
   rcases Bool.eq_false_or_eq_true (decide (0 < (x.args.length:Int))) with hb | hb
   ·rw [hb] at h28
    have hc29:0 < x.args.length:=by have:=of_decide_eq_true hb;omega
    clear hb
    refine St.go h28 ?_;clear h28 a28
    refine sfEnd0 ⟨_,hg13,rfl,rfl⟩ rfl rfl ?_
    refine sbInt 0 hW3 ⟨_,hg13,rfl,rfl⟩ rfl rfl rfl rfl ?_
    refine sne ⟨_,hg13,rfl,rfl⟩ rfl rfl rfl ?_
    refine sp ⟨_,hg8,rfl,rfl⟩ rfl rfl rfl ?_
    refine spf trivial rfl rfl rfl ?_
    refine St.nil fun a30 h30=>?_
    refine hK19 _ _ ?_
    refine fr_cond (t:=32) h30 rfl (fun hb=>?_) (fun hb=>?_)
    ·have h9:¬ x.op=3:=bne_iff_ne.1 hb
     have hc31:¬ x.op=3:=h9
     clear h9
     clear hb
     refine wp_seq_k fun K32 hK32=>?_
     refine rg h30 fun ops=>?_;clear h30 a30
     refine sa trivial rfl rfl ?_
     refine St.nil fun a33 h33=>?_
     refine hK32 _ _ ?_
     refine wp_ret ?_;with_reducible repeat first | refine of_then_ret ?_ | refine of_block_ret ?_
     have R:x.form bl=4:=by
      rw [endForm_eq]
      generalize x.yes.form bl (x.op != 3)=yv
      generalize x.no.form bl (x.op == 2)=zv
      first | (simp [hc12,hc17,hc21,hc27.out,hc29,hc31];done) | (exfalso;have:=hc12;have:=hc17;have:=hc21;have:=hc27.out;have:=hc29;have:=hc31;omega)
     exact ret_tmp (t:=4) h33 rfl rfl ⟨by rw [R],hW3.bel⟩
    have h9:x.op=3:=bne_eq_false_iff_eq.1 hb
    have hc34:Hid (x.op=3):=h9
    clear h9
    clear hb
    refine wp_skip ?_
    refine hK18 _ _ ?_
    refine wp_seq_k fun K35 hK35=>?_
    refine wp_seq_k fun K36 hK36=>?_
    refine rg h30 fun ops=>?_;clear h30 a30
    refine sfEnd4 trivial rfl rfl ?_
    refine sbInts 0 hW3 trivial rfl rfl rfl rfl ?_
    refine slInts trivial rfl rfl ?_
    refine sgt trivial rfl rfl rfl ?_
    refine St.nil fun a37 h37=>?_
    refine hK36 _ _ ?_
    refine fr_cond (t:=36) h37 rfl (fun hb=>?_) (fun hb=>?_)
    ·have hc38:8 < x.args.length:=by have:=of_decide_eq_true hb;omega
     clear hb
     refine wp_seq_k fun K39 hK39=>?_
     refine rg h37 fun ops=>?_;clear h37 a37
     refine sa trivial rfl rfl ?_
     refine St.nil fun a40 h40=>?_
     refine hK39 _ _ ?_
     refine wp_ret ?_;with_reducible repeat first | refine of_then_ret ?_ | refine of_block_ret ?_
     have R:x.form bl=2:=by
      rw [endForm_eq]
      generalize x.yes.form bl (x.op != 3)=yv
      generalize x.no.form bl (x.op == 2)=zv
      first | (simp [hc12,hc17,hc21,hc27.out,hc29,hc34.out,hc38];done) | (exfalso;have:=hc12;have:=hc17;have:=hc21;have:=hc27.out;have:=hc29;have:=hc34.out;have:=hc38;omega)
     exact ret_tmp (t:=4) h40 rfl rfl ⟨by rw [R],hW3.bel⟩
    have hc41:¬ (8 < x.args.length):=by have:=of_decide_eq_false hb;omega
    clear hb
    refine wp_skip ?_
    refine hK35 _ _ ?_
    refine wp_seq_k fun K42 hK42=>?_
    refine wp_seq_k fun K43 hK43=>?_
    refine rg h37 fun ops=>?_;clear h37 a37
    refine sS 1 4 Tryz.underlying38 rfl infFunc hW3 trivial rfl rfl rfl rfl ?_
    refine sfEnd2 trivial rfl rfl ?_
    refine sS 0 3 Tryz.underlying44 rfl infTo hW3 trivial rfl rfl rfl rfl ?_
    refine sfEnd0 trivial rfl rfl ?_
    refine sbInt 0 hW3 trivial rfl rfl rfl rfl ?_
    refine sne trivial rfl rfl rfl ?_
    refine sc_3 cf82 hW3 (toForm_any (x.op != 3) hs.1 hs.2.1 hbl) trivial rfl rfl rfl rfl ?_
    clear hW3;intro w44 hW44
    refine sa trivial rfl rfl ?_
    refine St.nil fun a45 h45=>?_
    refine hK43 _ _ ?_
    refine wp_seq_k fun K46 hK46=>?_
    refine rg h45 fun ops=>?_;clear h45 a45
    refine sm trivial rfl rfl ?_
    refine sne trivial rfl rfl rfl ?_
    refine St.nil fun a47 h47=>?_
    refine hK46 _ _ ?_
    refine fr_cond (t:=45) h47 rfl (fun hb=>?_) (fun hb=>?_)
    ·have h9:¬ (x.yes.form bl (x.op != 3))=0:=bne_iff_ne.1 hb
     have hc48:¬ (x.yes.form bl (x.op != 3))=0:=h9
     clear h9
     clear hb
     refine wp_seq_k fun K49 hK49=>?_
     refine rg h47 fun ops=>?_;clear h47 a47
     refine sm trivial rfl rfl ?_
     refine sa trivial rfl rfl ?_
     refine St.nil fun a50 h50=>?_
     refine hK49 _ _ ?_
     refine wp_ret ?_;with_reducible repeat first | refine of_then_ret ?_ | refine of_block_ret ?_
     have R:x.form bl=x.yes.form bl (x.op != 3):=by
      rw [endForm_eq]
      have hY:=hc48
      generalize x.yes.form bl (x.op != 3)=yv at hY ⊢
      generalize x.no.form bl (x.op == 2)=zv
      first | (simp [hc12,hc17,hc21,hc27.out,hc29,hc34.out,hc41,hY];done) | (exfalso;have:=hc12;have:=hc17;have:=hc21;have:=hc27.out;have:=hc29;have:=hc34.out;have:=hc41;omega)
     exact ret_tmp (t:=4) h50 rfl rfl ⟨by rw [R],hW44.bel⟩
    have h9:(x.yes.form bl (x.op != 3))=0:=bne_eq_false_iff_eq.1 hb
    have hc51:Hid ((x.yes.form bl (x.op != 3))=0):=h9
    clear h9
    clear hb
    refine wp_skip ?_
    refine hK42 _ _ ?_
    refine wp_seq_k fun K52 hK52=>?_
    refine rg h47 fun ops=>?_;clear h47 a47
    refine sS 1 4 Tryz.underlying38 rfl infFunc hW44 trivial rfl rfl rfl rfl ?_
    refine sfEnd3 trivial rfl rfl ?_
    refine sS 0 3 Tryz.underlying44 rfl infTo hW44 trivial rfl rfl rfl rfl ?_
    refine sfEnd0 trivial rfl rfl ?_
    refine sbInt 0 hW44 trivial rfl rfl rfl rfl ?_
    refine seq trivial rfl rfl rfl ?_
    refine sc_3 cf82 hW44 (toForm_any (x.op == 2) hs.2.2.1 hs.2.2.2 hbl) trivial rfl rfl rfl rfl ?_
    clear hW44;intro w53 hW53
    refine sa trivial rfl rfl ?_
    refine St.nil fun a54 h54=>?_
    refine hK52 _ _ ?_
    refine wp_ret ?_;with_reducible repeat first | refine of_then_ret ?_ | refine of_block_ret ?_
    have R:x.form bl=x.no.form bl (x.op == 2):=by
     rw [endForm_eq]
     have hY:=hc51.out
     generalize x.yes.form bl (x.op != 3)=yv at hY ⊢
     generalize x.no.form bl (x.op == 2)=zv
     first | (simp [hc12,hc17,hc21,hc27.out,hc29,hc34.out,hc41,hY];done) | (exfalso;have:=hc12;have:=hc17;have:=hc21;have:=hc27.out;have:=hc29;have:=hc34.out;have:=hc41;omega)
    exact ret_tmp (t:=4) h54 rfl rfl ⟨by rw [R],hW53.bel⟩
   rw [hb] at h28
   have hc55:¬ (0 < x.args.length):=by have:=of_decide_eq_false hb;omega
   clear hb
   refine St.go h28 ?_;clear h28 a28
   refine so hg13 rfl rfl rfl rfl ?_
   refine so hg13 rfl rfl rfl rfl ?_
   refine so hg13 rfl rfl rfl rfl ?_
   refine spf ⟨_,hg8,rfl,rfl⟩ rfl rfl rfl ?_
   refine spf trivial rfl rfl rfl ?_
   refine St.nil fun a56 h56=>?_
   refine hK19 _ _ ?_
   refine fr_false (t:=32) h56 rfl ?_
   refine wp_skip ?_
   refine hK18 _ _ ?_
   refine wp_seq_k fun K57 hK57=>?_
   refine wp_seq_k fun K58 hK58=>?_
   refine rg h56 fun ops=>?_;clear h56 a56
   refine sfEnd4 trivial rfl rfl ?_
   refine sbInts 0 hW3 trivial rfl rfl rfl rfl ?_
   refine slInts trivial rfl rfl ?_
   refine sgt trivial rfl rfl rfl ?_
   refine St.nil fun a59 h59=>?_
   refine hK58 _ _ ?_
   refine fr_cond (t:=36) h59 rfl (fun hb=>?_) (fun hb=>?_)
   ·have hc60:8 < x.args.length:=by have:=of_decide_eq_true hb;omega
    clear hb
    refine wp_seq_k fun K61 hK61=>?_
    refine rg h59 fun ops=>?_;clear h59 a59
    refine sa trivial rfl rfl ?_
    refine St.nil fun a62 h62=>?_
    refine hK61 _ _ ?_
    refine wp_ret ?_;with_reducible repeat first | refine of_then_ret ?_ | refine of_block_ret ?_
    have R:x.form bl=2:=by
     rw [endForm_eq]
     generalize x.yes.form bl (x.op != 3)=yv
     generalize x.no.form bl (x.op == 2)=zv
     first | (simp [hc12,hc17,hc21,hc27.out,hc55,hc60];done) | (exfalso;have:=hc12;have:=hc17;have:=hc21;have:=hc27.out;have:=hc55;have:=hc60;omega)
    exact ret_tmp (t:=4) h62 rfl rfl ⟨by rw [R],hW3.bel⟩
   have hc63:¬ (8 < x.args.length):=by have:=of_decide_eq_false hb;omega
   clear hb
   refine wp_skip ?_
   refine hK57 _ _ ?_
   refine wp_seq_k fun K64 hK64=>?_
   refine wp_seq_k fun K65 hK65=>?_
   refine rg h59 fun ops=>?_;clear h59 a59
   refine sS 1 4 Tryz.underlying38 rfl infFunc hW3 trivial rfl rfl rfl rfl ?_
   refine sfEnd2 trivial rfl rfl ?_
   refine sS 0 3 Tryz.underlying44 rfl infTo hW3 trivial rfl rfl rfl rfl ?_
   refine sfEnd0 trivial rfl rfl ?_
   refine sbInt 0 hW3 trivial rfl rfl rfl rfl ?_
   refine sne trivial rfl rfl rfl ?_
   refine sc_3 cf82 hW3 (toForm_any (x.op != 3) hs.1 hs.2.1 hbl) trivial rfl rfl rfl rfl ?_
   clear hW3;intro w66 hW66
   refine sa trivial rfl rfl ?_
   refine St.nil fun a67 h67=>?_
   refine hK65 _ _ ?_
   refine wp_seq_k fun K68 hK68=>?_
   refine rg h67 fun ops=>?_;clear h67 a67
   refine sm trivial rfl rfl ?_
   refine sne trivial rfl rfl rfl ?_
   refine St.nil fun a69 h69=>?_
   refine hK68 _ _ ?_
   refine fr_cond (t:=45) h69 rfl (fun hb=>?_) (fun hb=>?_)
   ·have h9:¬ (x.yes.form bl (x.op != 3))=0:=bne_iff_ne.1 hb
    have hc70:¬ (x.yes.form bl (x.op != 3))=0:=h9
    clear h9
    clear hb
    refine wp_seq_k fun K71 hK71=>?_
    refine rg h69 fun ops=>?_;clear h69 a69
    refine sm trivial rfl rfl ?_
    refine sa trivial rfl rfl ?_
    refine St.nil fun a72 h72=>?_
    refine hK71 _ _ ?_
    refine wp_ret ?_;with_reducible repeat first | refine of_then_ret ?_ | refine of_block_ret ?_
    have R:x.form bl=x.yes.form bl (x.op != 3):=by
     rw [endForm_eq]
     have hY:=hc70
     generalize x.yes.form bl (x.op != 3)=yv at hY ⊢
     generalize x.no.form bl (x.op == 2)=zv
     first | (simp [hc12,hc17,hc21,hc27.out,hc55,hc63,hY];done) | (exfalso;have:=hc12;have:=hc17;have:=hc21;have:=hc27.out;have:=hc55;have:=hc63;omega)
    exact ret_tmp (t:=4) h72 rfl rfl ⟨by rw [R],hW66.bel⟩
   have h9:(x.yes.form bl (x.op != 3))=0:=bne_eq_false_iff_eq.1 hb
   have hc73:Hid ((x.yes.form bl (x.op != 3))=0):=h9
   clear h9
   clear hb
   refine wp_skip ?_
   refine hK64 _ _ ?_
   refine wp_seq_k fun K74 hK74=>?_
   refine rg h69 fun ops=>?_;clear h69 a69
   refine sS 1 4 Tryz.underlying38 rfl infFunc hW66 trivial rfl rfl rfl rfl ?_
   refine sfEnd3 trivial rfl rfl ?_
   refine sS 0 3 Tryz.underlying44 rfl infTo hW66 trivial rfl rfl rfl rfl ?_
   refine sfEnd0 trivial rfl rfl ?_
   refine sbInt 0 hW66 trivial rfl rfl rfl rfl ?_
   refine seq trivial rfl rfl rfl ?_
   refine sc_3 cf82 hW66 (toForm_any (x.op == 2) hs.2.2.1 hs.2.2.2 hbl) trivial rfl rfl rfl rfl ?_
   clear hW66;intro w75 hW75
   refine sa trivial rfl rfl ?_
   refine St.nil fun a76 h76=>?_
   refine hK74 _ _ ?_
   refine wp_ret ?_;with_reducible repeat first | refine of_then_ret ?_ | refine of_block_ret ?_
   have R:x.form bl=x.no.form bl (x.op == 2):=by
    rw [endForm_eq]
    have hY:=hc73.out
    generalize x.yes.form bl (x.op != 3)=yv at hY ⊢
    generalize x.no.form bl (x.op == 2)=zv
    first | (simp [hc12,hc17,hc21,hc27.out,hc55,hc63,hY];done) | (exfalso;have:=hc12;have:=hc17;have:=hc21;have:=hc27.out;have:=hc55;have:=hc63;omega)
   exact ret_tmp (t:=4) h76 rfl rfl ⟨by rw [R],hW75.bel⟩
  rw [hb] at h20
  have h9:x.a=0:=bne_eq_false_iff_eq.1 hb
  have hc77:Hid (x.a=0):=h9
  clear h9
  clear hb
  refine St.go h20 ?_;clear h20 a20
  refine so hg3 rfl rfl rfl rfl ?_
  refine so hg3 rfl rfl rfl rfl ?_
  refine so hg3 rfl rfl rfl rfl ?_
  refine spf trivial rfl rfl rfl ?_
  refine sm trivial rfl rfl ?_
  refine sfEnd4 ⟨_,hg8,rfl,rfl⟩ rfl rfl ?_
  refine sbInts 0 hW3 ⟨_,hg8,rfl,rfl⟩ rfl rfl rfl rfl ?_
  refine slInts ⟨_,hg8,rfl,rfl⟩ rfl rfl ?_
  refine sgt ⟨_,hg8,rfl,rfl⟩ rfl rfl rfl ?_
  refine sm ⟨_,hg8,rfl,rfl⟩ rfl rfl ?_
  intro a78 h78
  rcases Bool.eq_false_or_eq_true (decide (0 < (x.args.length:Int))) with hb | hb
  ·rw [hb] at h78
   have hc79:0 < x.args.length:=by have:=of_decide_eq_true hb;omega
   clear hb
   refine St.go h78 ?_;clear h78 a78
   refine sfEnd0 ⟨_,hg13,rfl,rfl⟩ rfl rfl ?_
   refine sbInt 0 hW3 ⟨_,hg13,rfl,rfl⟩ rfl rfl rfl rfl ?_
   refine sne ⟨_,hg13,rfl,rfl⟩ rfl rfl rfl ?_
   refine sp ⟨_,hg8,rfl,rfl⟩ rfl rfl rfl ?_
   refine spf trivial rfl rfl rfl ?_
   refine St.nil fun a80 h80=>?_
   refine hK19 _ _ ?_
   refine fr_cond (t:=32) h80 rfl (fun hb=>?_) (fun hb=>?_)
   ·have h9:¬ x.op=3:=bne_iff_ne.1 hb
    have hc81:¬ x.op=3:=h9
    clear h9
    clear hb
    refine wp_seq_k fun K82 hK82=>?_
    refine rg h80 fun ops=>?_;clear h80 a80
    refine sa trivial rfl rfl ?_
    refine St.nil fun a83 h83=>?_
    refine hK82 _ _ ?_
    refine wp_ret ?_;with_reducible repeat first | refine of_then_ret ?_ | refine of_block_ret ?_
    have R:x.form bl=4:=by
     rw [endForm_eq]
     generalize x.yes.form bl (x.op != 3)=yv
     generalize x.no.form bl (x.op == 2)=zv
     first | (simp [hc12,hc17,hc77.out,hc79,hc81];done) | (exfalso;have:=hc12;have:=hc17;have:=hc77.out;have:=hc79;have:=hc81;omega)
    exact ret_tmp (t:=4) h83 rfl rfl ⟨by rw [R],hW3.bel⟩
   have h9:x.op=3:=bne_eq_false_iff_eq.1 hb
   have hc84:Hid (x.op=3):=h9
   clear h9
   clear hb
   refine wp_skip ?_
   refine hK18 _ _ ?_
   refine wp_seq_k fun K85 hK85=>?_
   refine wp_seq_k fun K86 hK86=>?_
   refine rg h80 fun ops=>?_;clear h80 a80
   refine sfEnd4 trivial rfl rfl ?_
   refine sbInts 0 hW3 trivial rfl rfl rfl rfl ?_
   refine slInts trivial rfl rfl ?_
   refine sgt trivial rfl rfl rfl ?_
   refine St.nil fun a87 h87=>?_
   refine hK86 _ _ ?_
   refine fr_cond (t:=36) h87 rfl (fun hb=>?_) (fun hb=>?_)
   ·have hc88:8 < x.args.length:=by have:=of_decide_eq_true hb;omega
    clear hb
    refine wp_seq_k fun K89 hK89=>?_
    refine rg h87 fun ops=>?_;clear h87 a87
    refine sa trivial rfl rfl ?_
    refine St.nil fun a90 h90=>?_
    refine hK89 _ _ ?_
    refine wp_ret ?_;with_reducible repeat first | refine of_then_ret ?_ | refine of_block_ret ?_
    have R:x.form bl=2:=by
     rw [endForm_eq]
     generalize x.yes.form bl (x.op != 3)=yv
     generalize x.no.form bl (x.op == 2)=zv
     first | (simp [hc12,hc17,hc77.out,hc79,hc84.out,hc88];done) | (exfalso;have:=hc12;have:=hc17;have:=hc77.out;have:=hc79;have:=hc84.out;have:=hc88;omega)
    exact ret_tmp (t:=4) h90 rfl rfl ⟨by rw [R],hW3.bel⟩
   have hc91:¬ (8 < x.args.length):=by have:=of_decide_eq_false hb;omega
   clear hb
   refine wp_skip ?_
   refine hK85 _ _ ?_
   refine wp_seq_k fun K92 hK92=>?_
   refine wp_seq_k fun K93 hK93=>?_
   refine rg h87 fun ops=>?_;clear h87 a87
   refine sS 1 4 Tryz.underlying38 rfl infFunc hW3 trivial rfl rfl rfl rfl ?_
   refine sfEnd2 trivial rfl rfl ?_
   refine sS 0 3 Tryz.underlying44 rfl infTo hW3 trivial rfl rfl rfl rfl ?_
   refine sfEnd0 trivial rfl rfl ?_
   refine sbInt 0 hW3 trivial rfl rfl rfl rfl ?_
   refine sne trivial rfl rfl rfl ?_
   refine sc_3 cf82 hW3 (toForm_any (x.op != 3) hs.1 hs.2.1 hbl) trivial rfl rfl rfl rfl ?_
   clear hW3;intro w94 hW94
   refine sa trivial rfl rfl ?_
   refine St.nil fun a95 h95=>?_
   refine hK93 _ _ ?_
   refine wp_seq_k fun K96 hK96=>?_
   refine rg h95 fun ops=>?_;clear h95 a95
   refine sm trivial rfl rfl ?_
   refine sne trivial rfl rfl rfl ?_
   refine St.nil fun a97 h97=>?_
   refine hK96 _ _ ?_
   refine fr_cond (t:=45) h97 rfl (fun hb=>?_) (fun hb=>?_)
   ·have h9:¬ (x.yes.form bl (x.op != 3))=0:=bne_iff_ne.1 hb
    have hc98:¬ (x.yes.form bl (x.op != 3))=0:=h9
    clear h9
    clear hb
    refine wp_seq_k fun K99 hK99=>?_
    refine rg h97 fun ops=>?_;clear h97 a97
    refine sm trivial rfl rfl ?_
    refine sa trivial rfl rfl ?_
    refine St.nil fun a100 h100=>?_
    refine hK99 _ _ ?_
    refine wp_ret ?_;with_reducible repeat first | refine of_then_ret ?_ | refine of_block_ret ?_
    have R:x.form bl=x.yes.form bl (x.op != 3):=by
     rw [endForm_eq]
     have hY:=hc98
     generalize x.yes.form bl (x.op != 3)=yv at hY ⊢
     generalize x.no.form bl (x.op == 2)=zv
     first | (simp [hc12,hc17,hc77.out,hc79,hc84.out,hc91,hY];done) | (exfalso;have:=hc12;have:=hc17;have:=hc77.out;have:=hc79;have:=hc84.out;have:=hc91;omega)
    exact ret_tmp (t:=4) h100 rfl rfl ⟨by rw [R],hW94.bel⟩
   have h9:(x.yes.form bl (x.op != 3))=0:=bne_eq_false_iff_eq.1 hb
   have hc101:Hid ((x.yes.form bl (x.op != 3))=0):=h9
   clear h9
   clear hb
   refine wp_skip ?_
   refine hK92 _ _ ?_
   refine wp_seq_k fun K102 hK102=>?_
   refine rg h97 fun ops=>?_;clear h97 a97
   refine sS 1 4 Tryz.underlying38 rfl infFunc hW94 trivial rfl rfl rfl rfl ?_
   refine sfEnd3 trivial rfl rfl ?_
   refine sS 0 3 Tryz.underlying44 rfl infTo hW94 trivial rfl rfl rfl rfl ?_
   refine sfEnd0 trivial rfl rfl ?_
   refine sbInt 0 hW94 trivial rfl rfl rfl rfl ?_
   refine seq trivial rfl rfl rfl ?_
   refine sc_3 cf82 hW94 (toForm_any (x.op == 2) hs.2.2.1 hs.2.2.2 hbl) trivial rfl rfl rfl rfl ?_
   clear hW94;intro w103 hW103
   refine sa trivial rfl rfl ?_
   refine St.nil fun a104 h104=>?_
   refine hK102 _ _ ?_
   refine wp_ret ?_;with_reducible repeat first | refine of_then_ret ?_ | refine of_block_ret ?_
   have R:x.form bl=x.no.form bl (x.op == 2):=by
    rw [endForm_eq]
    have hY:=hc101.out
    generalize x.yes.form bl (x.op != 3)=yv at hY ⊢
    generalize x.no.form bl (x.op == 2)=zv
    first | (simp [hc12,hc17,hc77.out,hc79,hc84.out,hc91,hY];done) | (exfalso;have:=hc12;have:=hc17;have:=hc77.out;have:=hc79;have:=hc84.out;have:=hc91;omega)
   exact ret_tmp (t:=4) h104 rfl rfl ⟨by rw [R],hW103.bel⟩
  rw [hb] at h78
  have hc105:¬ (0 < x.args.length):=by have:=of_decide_eq_false hb;omega
  clear hb
  refine St.go h78 ?_;clear h78 a78
  refine so hg13 rfl rfl rfl rfl ?_
  refine so hg13 rfl rfl rfl rfl ?_
  refine so hg13 rfl rfl rfl rfl ?_
  refine spf ⟨_,hg8,rfl,rfl⟩ rfl rfl rfl ?_
  refine spf trivial rfl rfl rfl ?_
  refine St.nil fun a106 h106=>?_
  refine hK19 _ _ ?_
  refine fr_false (t:=32) h106 rfl ?_
  refine wp_skip ?_
  refine hK18 _ _ ?_
  refine wp_seq_k fun K107 hK107=>?_
  refine wp_seq_k fun K108 hK108=>?_
  refine rg h106 fun ops=>?_;clear h106 a106
  refine sfEnd4 trivial rfl rfl ?_
  refine sbInts 0 hW3 trivial rfl rfl rfl rfl ?_
  refine slInts trivial rfl rfl ?_
  refine sgt trivial rfl rfl rfl ?_
  refine St.nil fun a109 h109=>?_
  refine hK108 _ _ ?_
  refine fr_cond (t:=36) h109 rfl (fun hb=>?_) (fun hb=>?_)
  ·have hc110:8 < x.args.length:=by have:=of_decide_eq_true hb;omega
   clear hb
   refine wp_seq_k fun K111 hK111=>?_
   refine rg h109 fun ops=>?_;clear h109 a109
   refine sa trivial rfl rfl ?_
   refine St.nil fun a112 h112=>?_
   refine hK111 _ _ ?_
   refine wp_ret ?_;with_reducible repeat first | refine of_then_ret ?_ | refine of_block_ret ?_
   have R:x.form bl=2:=by
    rw [endForm_eq]
    generalize x.yes.form bl (x.op != 3)=yv
    generalize x.no.form bl (x.op == 2)=zv
    first | (simp [hc12,hc17,hc77.out,hc105,hc110];done) | (exfalso;have:=hc12;have:=hc17;have:=hc77.out;have:=hc105;have:=hc110;omega)
   exact ret_tmp (t:=4) h112 rfl rfl ⟨by rw [R],hW3.bel⟩
  have hc113:¬ (8 < x.args.length):=by have:=of_decide_eq_false hb;omega
  clear hb
  refine wp_skip ?_
  refine hK107 _ _ ?_
  refine wp_seq_k fun K114 hK114=>?_
  refine wp_seq_k fun K115 hK115=>?_
  refine rg h109 fun ops=>?_;clear h109 a109
  refine sS 1 4 Tryz.underlying38 rfl infFunc hW3 trivial rfl rfl rfl rfl ?_
  refine sfEnd2 trivial rfl rfl ?_
  refine sS 0 3 Tryz.underlying44 rfl infTo hW3 trivial rfl rfl rfl rfl ?_
  refine sfEnd0 trivial rfl rfl ?_
  refine sbInt 0 hW3 trivial rfl rfl rfl rfl ?_
  refine sne trivial rfl rfl rfl ?_
  refine sc_3 cf82 hW3 (toForm_any (x.op != 3) hs.1 hs.2.1 hbl) trivial rfl rfl rfl rfl ?_
  clear hW3;intro w116 hW116
  refine sa trivial rfl rfl ?_
  refine St.nil fun a117 h117=>?_
  refine hK115 _ _ ?_
  refine wp_seq_k fun K118 hK118=>?_
  refine rg h117 fun ops=>?_;clear h117 a117
  refine sm trivial rfl rfl ?_
  refine sne trivial rfl rfl rfl ?_
  refine St.nil fun a119 h119=>?_
  refine hK118 _ _ ?_
  refine fr_cond (t:=45) h119 rfl (fun hb=>?_) (fun hb=>?_)
  ·have h9:¬ (x.yes.form bl (x.op != 3))=0:=bne_iff_ne.1 hb
   have hc120:¬ (x.yes.form bl (x.op != 3))=0:=h9
   clear h9
   clear hb
   refine wp_seq_k fun K121 hK121=>?_
   refine rg h119 fun ops=>?_;clear h119 a119
   refine sm trivial rfl rfl ?_
   refine sa trivial rfl rfl ?_
   refine St.nil fun a122 h122=>?_
   refine hK121 _ _ ?_
   refine wp_ret ?_;with_reducible repeat first | refine of_then_ret ?_ | refine of_block_ret ?_
   have R:x.form bl=x.yes.form bl (x.op != 3):=by
    rw [endForm_eq]
    have hY:=hc120
    generalize x.yes.form bl (x.op != 3)=yv at hY ⊢
    generalize x.no.form bl (x.op == 2)=zv
    first | (simp [hc12,hc17,hc77.out,hc105,hc113,hY];done) | (exfalso;have:=hc12;have:=hc17;have:=hc77.out;have:=hc105;have:=hc113;omega)
   exact ret_tmp (t:=4) h122 rfl rfl ⟨by rw [R],hW116.bel⟩
  have h9:(x.yes.form bl (x.op != 3))=0:=bne_eq_false_iff_eq.1 hb
  have hc123:Hid ((x.yes.form bl (x.op != 3))=0):=h9
  clear h9
  clear hb
  refine wp_skip ?_
  refine hK114 _ _ ?_
  refine wp_seq_k fun K124 hK124=>?_
  refine rg h119 fun ops=>?_;clear h119 a119
  refine sS 1 4 Tryz.underlying38 rfl infFunc hW116 trivial rfl rfl rfl rfl ?_
  refine sfEnd3 trivial rfl rfl ?_
  refine sS 0 3 Tryz.underlying44 rfl infTo hW116 trivial rfl rfl rfl rfl ?_
  refine sfEnd0 trivial rfl rfl ?_
  refine sbInt 0 hW116 trivial rfl rfl rfl rfl ?_
  refine seq trivial rfl rfl rfl ?_
  refine sc_3 cf82 hW116 (toForm_any (x.op == 2) hs.2.2.1 hs.2.2.2 hbl) trivial rfl rfl rfl rfl ?_
  clear hW116;intro w125 hW125
  refine sa trivial rfl rfl ?_
  refine St.nil fun a126 h126=>?_
  refine hK124 _ _ ?_
  refine wp_ret ?_;with_reducible repeat first | refine of_then_ret ?_ | refine of_block_ret ?_
  have R:x.form bl=x.no.form bl (x.op == 2):=by
   rw [endForm_eq]
   have hY:=hc123.out
   generalize x.yes.form bl (x.op != 3)=yv at hY ⊢
   generalize x.no.form bl (x.op == 2)=zv
   first | (simp [hc12,hc17,hc77.out,hc105,hc113,hY];done) | (exfalso;have:=hc12;have:=hc17;have:=hc77.out;have:=hc105;have:=hc113;omega)
  exact ret_tmp (t:=4) h126 rfl rfl ⟨by rw [R],hW125.bel⟩
theorem cEnd_any {x : MEnd} {e : EP} {fr : Int} {fp fq fb : Option Addr} {fl fc fm fd bl fe : Nat} {w : World} (hs : x.yes.regs.length < 2305843009213693952 ∧ x.yes.args.length < 2305843009213693952 ∧ x.no.regs.length < 2305843009213693952 ∧ x.no.args.length < 2305843009213693952) (hbl : bl < 2305843009213693952) :
    Rd Tryz.prog 99 #[.agg #[.int .i64 fr,.slice fp fl fc,.slice fq fm fd,.slice fb bl fe],.agg #[.int .i64 x.op,.int .i64 x.a,.int .i64 x.yes.block,.slice e.pYR x.yes.regs.length e.cYR,.slice e.pYA x.yes.args.length e.cYA,.int .i64 x.no.block,.slice e.pNR x.no.regs.length e.cNR,.slice e.pNA x.no.args.length e.cNA,.slice e.pA x.args.length e.cA]] w (.int .i64 (x.form bl)):=by
  refine fr_enter (n:=56) Tryz.func99 rfl rfl rfl ?_
  intro a hF
  have hW:=Wd.start w
  replace hF:Fr 56 a [(0,.agg #[.int .i64 fr,.slice fp fl fc,.slice fq fm fd,.slice fb bl fe]),(1,.agg #[.int .i64 x.op,.int .i64 x.a,.int .i64 x.yes.block,.slice e.pYR x.yes.regs.length e.cYR,.slice e.pYA x.yes.args.length e.cYA,.int .i64 x.no.block,.slice e.pNR x.no.regs.length e.cNR,.slice e.pNA x.no.args.length e.cNA,.slice e.pA x.args.length e.cA])]:=hF
  refine wp_seq_k fun K1 hK1=>?_
  refine rg hF fun ops=>?_;clear hF a
  refine sB hW trivial rfl rfl ?_
  clear hW;intro w2 B2 hW2 hN;clear hN
  refine sB hW2 trivial rfl rfl ?_
  clear hW2;intro w3 B3 hW3 hN;clear hN
  refine sa trivial rfl rfl ?_
  refine St.nil fun a4 h4=>?_
  refine hK1 _ _ ?_
  refine wp_seq_k fun K5 hK5=>?_
  refine wp_block ?_
  refine wp_seq_k fun K6 hK6=>?_
  refine fr_region ?_
  intro ops hops
  have hg3:(ops[3]?).bind (fun o:Oper=>o.dst)=some 10:=hops 3
  clear hops
  refine St.go h4 ?_;clear h4 a4
  refine sfEnd0 trivial rfl rfl ?_
  refine sbInt 0 hW3 trivial rfl rfl rfl rfl ?_
  refine slt trivial rfl rfl rfl ?_
  refine sm trivial rfl rfl ?_
  intro a7 h7
  rcases Bool.eq_false_or_eq_true (decide (x.op < 1)) with hb | hb
  ·rw [hb] at h7
   have hc8:x.op < 1:=of_decide_eq_true hb
   clear hb
   refine St.go h7 ?_;clear h7 a7
   refine so hg3 rfl rfl rfl rfl ?_
   refine so hg3 rfl rfl rfl rfl ?_
   refine so hg3 rfl rfl rfl rfl ?_
   refine sp trivial rfl rfl rfl ?_
   refine sa trivial rfl rfl ?_
   refine St.nil fun a9 h9=>?_
   refine hK6 _ _ ?_
   refine fr_true (t:=6) h9 rfl ?_
   refine wp_seq_k fun K10 hK10=>?_
   refine rg h9 fun ops=>?_;clear h9 a9
   refine sa trivial rfl rfl ?_
   refine St.nil fun a11 h11=>?_
   refine hK10 _ _ ?_
   refine wp_ret ?_;with_reducible repeat first | refine of_then_ret ?_ | refine of_block_ret ?_
   have R:x.form bl=3:=by
    rw [endForm_eq]
    generalize x.yes.form bl (x.op != 3)=yv
    generalize x.no.form bl (x.op == 2)=zv
    first | (simp [hc8];done) | (exfalso;have:=hc8;omega)
   exact ret_tmp (t:=4) h11 rfl rfl ⟨by rw [R],hW3.bel⟩
  rw [hb] at h7
  have hc12:¬ (x.op < 1):=of_decide_eq_false hb
  clear hb
  refine St.go h7 ?_;clear h7 a7
  refine sfEnd0 ⟨_,hg3,rfl,rfl⟩ rfl rfl ?_
  refine sbInt 0 hW3 ⟨_,hg3,rfl,rfl⟩ rfl rfl rfl rfl ?_
  refine sgt ⟨_,hg3,rfl,rfl⟩ rfl rfl rfl ?_
  refine spf trivial rfl rfl rfl ?_
  refine sa trivial rfl rfl ?_
  refine St.nil fun a13 h13=>?_
  refine hK6 _ _ ?_
  refine fr_cond (t:=6) h13 rfl (fun hb=>?_) (fun hb=>?_)
  ·have hc14:3 < x.op:=of_decide_eq_true hb
   clear hb
   refine wp_seq_k fun K15 hK15=>?_
   refine rg h13 fun ops=>?_;clear h13 a13
   refine sa trivial rfl rfl ?_
   refine St.nil fun a16 h16=>?_
   refine hK15 _ _ ?_
   refine wp_ret ?_;with_reducible repeat first | refine of_then_ret ?_ | refine of_block_ret ?_
   have R:x.form bl=3:=by
    rw [endForm_eq]
    generalize x.yes.form bl (x.op != 3)=yv
    generalize x.no.form bl (x.op == 2)=zv
    first | (simp [hc12,hc14];done) | (exfalso;have:=hc12;have:=hc14;omega)
   exact ret_tmp (t:=4) h16 rfl rfl ⟨by rw [R],hW3.bel⟩
  have hc17:¬ (3 < x.op):=of_decide_eq_false hb
  clear hb
  refine wp_seq_k fun K18 hK18=>?_
  refine fr_region ?_
  intro ops hops
  have hg3:(ops[3]?).bind (fun o:Oper=>o.dst)=some 19:=hops 3
  clear hops
  refine St.go h13 ?_;clear h13 a13
  refine sfEnd0 trivial rfl rfl ?_
  refine sbInt 0 hW3 trivial rfl rfl rfl rfl ?_
  refine sne trivial rfl rfl rfl ?_
  refine sm trivial rfl rfl ?_
  intro a19 h19
  rcases Bool.eq_false_or_eq_true (x.op != 2) with hb | hb
  ·rw [hb] at h19
   have h9:¬ x.op=2:=bne_iff_ne.1 hb
   have hc20:¬ x.op=2:=h9
   clear h9
   clear hb
   refine St.go h19 ?_;clear h19 a19
   refine sfEnd1 ⟨_,hg3,rfl,rfl⟩ rfl rfl ?_
   refine sbInt 0 hW3 ⟨_,hg3,rfl,rfl⟩ rfl rfl rfl rfl ?_
   refine sne ⟨_,hg3,rfl,rfl⟩ rfl rfl rfl ?_
   refine sp trivial rfl rfl rfl ?_
   refine sa trivial rfl rfl ?_
   refine St.nil fun a21 h21=>?_
   refine hK18 _ _ ?_
   refine fr_cond (t:=15) h21 rfl (fun hb=>?_) (fun hb=>?_)
   ·have h9:¬ x.a=0:=bne_iff_ne.1 hb
    have hc22:¬ x.a=0:=h9
    clear h9
    clear hb
    refine wp_seq_k fun K23 hK23=>?_
    refine rg h21 fun ops=>?_;clear h21 a21
    refine sa trivial rfl rfl ?_
    refine St.nil fun a24 h24=>?_
    refine hK23 _ _ ?_
    refine wp_ret ?_;with_reducible repeat first | refine of_then_ret ?_ | refine of_block_ret ?_
    have R:x.form bl=4:=by
     rw [endForm_eq]
     generalize x.yes.form bl (x.op != 3)=yv
     generalize x.no.form bl (x.op == 2)=zv
     first | (simp [hc12,hc17,hc20,hc22];done) | (exfalso;have:=hc12;have:=hc17;have:=hc20;have:=hc22;omega)
    exact ret_tmp (t:=4) h24 rfl rfl ⟨by rw [R],hW3.bel⟩
   have h9:x.a=0:=bne_eq_false_iff_eq.1 hb
   have hc25:Hid (x.a=0):=h9
   clear h9
   clear hb
   refine wp_seq_k fun K26 hK26=>?_
   refine fr_region ?_
   intro ops hops
   have hg3:(ops[3]?).bind (fun o:Oper=>o.dst)=some 28:=hops 3
   clear hops
   refine St.go h21 ?_;clear h21 a21
   refine sfEnd0 trivial rfl rfl ?_
   refine sbInt 0 hW3 trivial rfl rfl rfl rfl ?_
   refine sne trivial rfl rfl rfl ?_
   refine sm trivial rfl rfl ?_
   intro a27 h27
   rcases Bool.eq_false_or_eq_true (x.op != 3) with hb | hb
   ·rw [hb] at h27
    have h9:¬ x.op=3:=bne_iff_ne.1 hb
    have hc28:¬ x.op=3:=h9
    clear h9
    clear hb
    refine St.go h27 ?_;clear h27 a27
    refine sfEnd4 ⟨_,hg3,rfl,rfl⟩ rfl rfl ?_
    refine sbInts 0 hW3 ⟨_,hg3,rfl,rfl⟩ rfl rfl rfl rfl ?_
    refine slInts ⟨_,hg3,rfl,rfl⟩ rfl rfl ?_
    refine sgt ⟨_,hg3,rfl,rfl⟩ rfl rfl rfl ?_
    refine sp trivial rfl rfl rfl ?_
    refine sa trivial rfl rfl ?_
    refine St.nil fun a29 h29=>?_
    refine hK26 _ _ ?_
    refine fr_cond (t:=24) h29 rfl (fun hb=>?_) (fun hb=>?_)
    ·have hc30:0 < x.args.length:=by have:=of_decide_eq_true hb;omega
     clear hb
     refine wp_seq_k fun K31 hK31=>?_
     refine rg h29 fun ops=>?_;clear h29 a29
     refine sa trivial rfl rfl ?_
     refine St.nil fun a32 h32=>?_
     refine hK31 _ _ ?_
     refine wp_ret ?_;with_reducible repeat first | refine of_then_ret ?_ | refine of_block_ret ?_
     have R:x.form bl=4:=by
      rw [endForm_eq]
      generalize x.yes.form bl (x.op != 3)=yv
      generalize x.no.form bl (x.op == 2)=zv
      first | (simp [hc12,hc17,hc20,hc25.out,hc28,hc30];done) | (exfalso;have:=hc12;have:=hc17;have:=hc20;have:=hc25.out;have:=hc28;have:=hc30;omega)
     exact ret_tmp (t:=4) h32 rfl rfl ⟨by rw [R],hW3.bel⟩
    have hc33:¬ (0 < x.args.length):=by have:=of_decide_eq_false hb;omega
    clear hb
    refine wp_seq_k fun K34 hK34=>?_
    refine rg h29 fun ops=>?_;clear h29 a29
    refine sfEnd4 trivial rfl rfl ?_
    refine sbInts 0 hW3 trivial rfl rfl rfl rfl ?_
    refine slInts trivial rfl rfl ?_
    refine sgt trivial rfl rfl rfl ?_
    refine sa trivial rfl rfl ?_
    refine St.nil fun a35 h35=>?_
    refine hK34 _ _ ?_
    refine fr_cond (t:=34) h35 rfl (fun hb=>?_) (fun hb=>?_)
    ·have hc36:8 < x.args.length:=by have:=of_decide_eq_true hb;omega
     clear hb
     refine wp_seq_k fun K37 hK37=>?_
     refine rg h35 fun ops=>?_;clear h35 a35
     refine sa trivial rfl rfl ?_
     refine St.nil fun a38 h38=>?_
     refine hK37 _ _ ?_
     refine wp_ret ?_;with_reducible repeat first | refine of_then_ret ?_ | refine of_block_ret ?_
     have R:x.form bl=2:=by
      rw [endForm_eq]
      generalize x.yes.form bl (x.op != 3)=yv
      generalize x.no.form bl (x.op == 2)=zv
      first | (simp [hc12,hc17,hc20,hc25.out,hc28,hc33,hc36];done) | (exfalso;have:=hc12;have:=hc17;have:=hc20;have:=hc25.out;have:=hc28;have:=hc33;have:=hc36;omega)
     exact ret_tmp (t:=4) h38 rfl rfl ⟨by rw [R],hW3.bel⟩
    have hc39:¬ (8 < x.args.length):=by have:=of_decide_eq_false hb;omega
    clear hb
    refine wp_skip ?_
    refine hK5 _ _ ?_
    refine wp_seq_k fun K40 hK40=>?_
    refine wp_seq_k fun K41 hK41=>?_
    refine rg h35 fun ops=>?_;clear h35 a35
    refine sS 1 4 Tryz.underlying38 rfl infFunc hW3 trivial rfl rfl rfl rfl ?_
    refine sfEnd2 trivial rfl rfl ?_
    refine sS 0 3 Tryz.underlying44 rfl infTo hW3 trivial rfl rfl rfl rfl ?_
    refine sfEnd0 trivial rfl rfl ?_
    refine sbInt 0 hW3 trivial rfl rfl rfl rfl ?_
    refine sne trivial rfl rfl rfl ?_
    refine sc_3 cf123 hW3 (toCode_any (x.op != 3) hs.1 hs.2.1 hbl) trivial rfl rfl rfl rfl ?_
    clear hW3;intro w42 hW42
    refine sa trivial rfl rfl ?_
    refine St.nil fun a43 h43=>?_
    refine hK41 _ _ ?_
    refine wp_seq_k fun K44 hK44=>?_
    refine rg h43 fun ops=>?_;clear h43 a43
    refine sm trivial rfl rfl ?_
    refine sne trivial rfl rfl rfl ?_
    refine St.nil fun a45 h45=>?_
    refine hK44 _ _ ?_
    refine fr_cond (t:=47) h45 rfl (fun hb=>?_) (fun hb=>?_)
    ·have h9:¬ (x.yes.form bl (x.op != 3))=0:=bne_iff_ne.1 hb
     have hc46:¬ (x.yes.form bl (x.op != 3))=0:=h9
     clear h9
     clear hb
     refine wp_seq_k fun K47 hK47=>?_
     refine rg h45 fun ops=>?_;clear h45 a45
     refine sm trivial rfl rfl ?_
     refine sa trivial rfl rfl ?_
     refine St.nil fun a48 h48=>?_
     refine hK47 _ _ ?_
     refine wp_ret ?_;with_reducible repeat first | refine of_then_ret ?_ | refine of_block_ret ?_
     have R:x.form bl=x.yes.form bl (x.op != 3):=by
      rw [endForm_eq]
      have hY:=hc46
      generalize x.yes.form bl (x.op != 3)=yv at hY ⊢
      generalize x.no.form bl (x.op == 2)=zv
      first | (simp [hc12,hc17,hc20,hc25.out,hc28,hc33,hc39,hY];done) | (exfalso;have:=hc12;have:=hc17;have:=hc20;have:=hc25.out;have:=hc28;have:=hc33;have:=hc39;omega)
     exact ret_tmp (t:=4) h48 rfl rfl ⟨by rw [R],hW42.bel⟩
    have h9:(x.yes.form bl (x.op != 3))=0:=bne_eq_false_iff_eq.1 hb
    have hc49:Hid ((x.yes.form bl (x.op != 3))=0):=h9
    clear h9
    clear hb
    refine wp_skip ?_
    refine hK40 _ _ ?_
    refine wp_seq_k fun K50 hK50=>?_
    refine rg h45 fun ops=>?_;clear h45 a45
    refine sS 1 4 Tryz.underlying38 rfl infFunc hW42 trivial rfl rfl rfl rfl ?_
    refine sfEnd3 trivial rfl rfl ?_
    refine sS 0 3 Tryz.underlying44 rfl infTo hW42 trivial rfl rfl rfl rfl ?_
    refine sfEnd0 trivial rfl rfl ?_
    refine sbInt 0 hW42 trivial rfl rfl rfl rfl ?_
    refine seq trivial rfl rfl rfl ?_
    refine sc_3 cf123 hW42 (toCode_any (x.op == 2) hs.2.2.1 hs.2.2.2 hbl) trivial rfl rfl rfl rfl ?_
    clear hW42;intro w51 hW51
    refine sa trivial rfl rfl ?_
    refine St.nil fun a52 h52=>?_
    refine hK50 _ _ ?_
    refine wp_ret ?_;with_reducible repeat first | refine of_then_ret ?_ | refine of_block_ret ?_
    have R:x.form bl=x.no.form bl (x.op == 2):=by
     rw [endForm_eq]
     have hY:=hc49.out
     generalize x.yes.form bl (x.op != 3)=yv at hY ⊢
     generalize x.no.form bl (x.op == 2)=zv
     first | (simp [hc12,hc17,hc20,hc25.out,hc28,hc33,hc39,hY];done) | (exfalso;have:=hc12;have:=hc17;have:=hc20;have:=hc25.out;have:=hc28;have:=hc33;have:=hc39;omega)
    exact ret_tmp (t:=4) h52 rfl rfl ⟨by rw [R],hW51.bel⟩
   rw [hb] at h27
   have h9:x.op=3:=bne_eq_false_iff_eq.1 hb
   have hc53:Hid (x.op=3):=h9
   clear h9
   clear hb
   refine St.go h27 ?_;clear h27 a27
   refine so hg3 rfl rfl rfl rfl ?_
   refine so hg3 rfl rfl rfl rfl ?_
   refine so hg3 rfl rfl rfl rfl ?_
   refine so hg3 rfl rfl rfl rfl ?_
   refine spf trivial rfl rfl rfl ?_
   refine sa trivial rfl rfl ?_
   refine St.nil fun a54 h54=>?_
   refine hK26 _ _ ?_
   refine fr_false (t:=24) h54 rfl ?_
   refine wp_seq_k fun K55 hK55=>?_
   refine rg h54 fun ops=>?_;clear h54 a54
   refine sfEnd4 trivial rfl rfl ?_
   refine sbInts 0 hW3 trivial rfl rfl rfl rfl ?_
   refine slInts trivial rfl rfl ?_
   refine sgt trivial rfl rfl rfl ?_
   refine sa trivial rfl rfl ?_
   refine St.nil fun a56 h56=>?_
   refine hK55 _ _ ?_
   refine fr_cond (t:=34) h56 rfl (fun hb=>?_) (fun hb=>?_)
   ·have hc57:8 < x.args.length:=by have:=of_decide_eq_true hb;omega
    clear hb
    refine wp_seq_k fun K58 hK58=>?_
    refine rg h56 fun ops=>?_;clear h56 a56
    refine sa trivial rfl rfl ?_
    refine St.nil fun a59 h59=>?_
    refine hK58 _ _ ?_
    refine wp_ret ?_;with_reducible repeat first | refine of_then_ret ?_ | refine of_block_ret ?_
    have R:x.form bl=2:=by
     rw [endForm_eq]
     generalize x.yes.form bl (x.op != 3)=yv
     generalize x.no.form bl (x.op == 2)=zv
     first | (simp [hc12,hc17,hc20,hc25.out,hc53.out,hc57];done) | (exfalso;have:=hc12;have:=hc17;have:=hc20;have:=hc25.out;have:=hc53.out;have:=hc57;omega)
    exact ret_tmp (t:=4) h59 rfl rfl ⟨by rw [R],hW3.bel⟩
   have hc60:¬ (8 < x.args.length):=by have:=of_decide_eq_false hb;omega
   clear hb
   refine wp_skip ?_
   refine hK5 _ _ ?_
   refine wp_seq_k fun K61 hK61=>?_
   refine wp_seq_k fun K62 hK62=>?_
   refine rg h56 fun ops=>?_;clear h56 a56
   refine sS 1 4 Tryz.underlying38 rfl infFunc hW3 trivial rfl rfl rfl rfl ?_
   refine sfEnd2 trivial rfl rfl ?_
   refine sS 0 3 Tryz.underlying44 rfl infTo hW3 trivial rfl rfl rfl rfl ?_
   refine sfEnd0 trivial rfl rfl ?_
   refine sbInt 0 hW3 trivial rfl rfl rfl rfl ?_
   refine sne trivial rfl rfl rfl ?_
   refine sc_3 cf123 hW3 (toCode_any (x.op != 3) hs.1 hs.2.1 hbl) trivial rfl rfl rfl rfl ?_
   clear hW3;intro w63 hW63
   refine sa trivial rfl rfl ?_
   refine St.nil fun a64 h64=>?_
   refine hK62 _ _ ?_
   refine wp_seq_k fun K65 hK65=>?_
   refine rg h64 fun ops=>?_;clear h64 a64
   refine sm trivial rfl rfl ?_
   refine sne trivial rfl rfl rfl ?_
   refine St.nil fun a66 h66=>?_
   refine hK65 _ _ ?_
   refine fr_cond (t:=47) h66 rfl (fun hb=>?_) (fun hb=>?_)
   ·have h9:¬ (x.yes.form bl (x.op != 3))=0:=bne_iff_ne.1 hb
    have hc67:¬ (x.yes.form bl (x.op != 3))=0:=h9
    clear h9
    clear hb
    refine wp_seq_k fun K68 hK68=>?_
    refine rg h66 fun ops=>?_;clear h66 a66
    refine sm trivial rfl rfl ?_
    refine sa trivial rfl rfl ?_
    refine St.nil fun a69 h69=>?_
    refine hK68 _ _ ?_
    refine wp_ret ?_;with_reducible repeat first | refine of_then_ret ?_ | refine of_block_ret ?_
    have R:x.form bl=x.yes.form bl (x.op != 3):=by
     rw [endForm_eq]
     have hY:=hc67
     generalize x.yes.form bl (x.op != 3)=yv at hY ⊢
     generalize x.no.form bl (x.op == 2)=zv
     first | (simp [hc12,hc17,hc20,hc25.out,hc53.out,hc60,hY];done) | (exfalso;have:=hc12;have:=hc17;have:=hc20;have:=hc25.out;have:=hc53.out;have:=hc60;omega)
    exact ret_tmp (t:=4) h69 rfl rfl ⟨by rw [R],hW63.bel⟩
   have h9:(x.yes.form bl (x.op != 3))=0:=bne_eq_false_iff_eq.1 hb
   have hc70:Hid ((x.yes.form bl (x.op != 3))=0):=h9
   clear h9
   clear hb
   refine wp_skip ?_
   refine hK61 _ _ ?_
   refine wp_seq_k fun K71 hK71=>?_
   refine rg h66 fun ops=>?_;clear h66 a66
   refine sS 1 4 Tryz.underlying38 rfl infFunc hW63 trivial rfl rfl rfl rfl ?_
   refine sfEnd3 trivial rfl rfl ?_
   refine sS 0 3 Tryz.underlying44 rfl infTo hW63 trivial rfl rfl rfl rfl ?_
   refine sfEnd0 trivial rfl rfl ?_
   refine sbInt 0 hW63 trivial rfl rfl rfl rfl ?_
   refine seq trivial rfl rfl rfl ?_
   refine sc_3 cf123 hW63 (toCode_any (x.op == 2) hs.2.2.1 hs.2.2.2 hbl) trivial rfl rfl rfl rfl ?_
   clear hW63;intro w72 hW72
   refine sa trivial rfl rfl ?_
   refine St.nil fun a73 h73=>?_
   refine hK71 _ _ ?_
   refine wp_ret ?_;with_reducible repeat first | refine of_then_ret ?_ | refine of_block_ret ?_
   have R:x.form bl=x.no.form bl (x.op == 2):=by
    rw [endForm_eq]
    have hY:=hc70.out
    generalize x.yes.form bl (x.op != 3)=yv at hY ⊢
    generalize x.no.form bl (x.op == 2)=zv
    first | (simp [hc12,hc17,hc20,hc25.out,hc53.out,hc60,hY];done) | (exfalso;have:=hc12;have:=hc17;have:=hc20;have:=hc25.out;have:=hc53.out;have:=hc60;omega)
   exact ret_tmp (t:=4) h73 rfl rfl ⟨by rw [R],hW72.bel⟩
  rw [hb] at h19
  have h9:x.op=2:=bne_eq_false_iff_eq.1 hb
  have hc74:Hid (x.op=2):=h9
  clear h9
  clear hb
  refine St.go h19 ?_;clear h19 a19
  refine so hg3 rfl rfl rfl rfl ?_
  refine so hg3 rfl rfl rfl rfl ?_
  refine so hg3 rfl rfl rfl rfl ?_
  refine spf trivial rfl rfl rfl ?_
  refine sa trivial rfl rfl ?_
  refine St.nil fun a75 h75=>?_
  refine hK18 _ _ ?_
  refine fr_false (t:=15) h75 rfl ?_
  refine wp_seq_k fun K76 hK76=>?_
  refine fr_region ?_
  intro ops hops
  have hg3:(ops[3]?).bind (fun o:Oper=>o.dst)=some 28:=hops 3
  clear hops
  refine St.go h75 ?_;clear h75 a75
  refine sfEnd0 trivial rfl rfl ?_
  refine sbInt 0 hW3 trivial rfl rfl rfl rfl ?_
  refine sne trivial rfl rfl rfl ?_
  refine sm trivial rfl rfl ?_
  intro a77 h77
  rcases Bool.eq_false_or_eq_true (x.op != 3) with hb | hb
  ·rw [hb] at h77
   have h9:¬ x.op=3:=bne_iff_ne.1 hb
   have hc78:¬ x.op=3:=h9
   clear h9
   clear hb
   refine St.go h77 ?_;clear h77 a77
   refine sfEnd4 ⟨_,hg3,rfl,rfl⟩ rfl rfl ?_
   refine sbInts 0 hW3 ⟨_,hg3,rfl,rfl⟩ rfl rfl rfl rfl ?_
   refine slInts ⟨_,hg3,rfl,rfl⟩ rfl rfl ?_
   refine sgt ⟨_,hg3,rfl,rfl⟩ rfl rfl rfl ?_
   refine sp trivial rfl rfl rfl ?_
   refine sa trivial rfl rfl ?_
   refine St.nil fun a79 h79=>?_
   refine hK76 _ _ ?_
   refine fr_cond (t:=24) h79 rfl (fun hb=>?_) (fun hb=>?_)
   ·have hc80:0 < x.args.length:=by have:=of_decide_eq_true hb;omega
    clear hb
    refine wp_seq_k fun K81 hK81=>?_
    refine rg h79 fun ops=>?_;clear h79 a79
    refine sa trivial rfl rfl ?_
    refine St.nil fun a82 h82=>?_
    refine hK81 _ _ ?_
    refine wp_ret ?_;with_reducible repeat first | refine of_then_ret ?_ | refine of_block_ret ?_
    have R:x.form bl=4:=by
     rw [endForm_eq]
     generalize x.yes.form bl (x.op != 3)=yv
     generalize x.no.form bl (x.op == 2)=zv
     first | (simp [hc12,hc17,hc74.out,hc78,hc80];done) | (exfalso;have:=hc12;have:=hc17;have:=hc74.out;have:=hc78;have:=hc80;omega)
    exact ret_tmp (t:=4) h82 rfl rfl ⟨by rw [R],hW3.bel⟩
   have hc83:¬ (0 < x.args.length):=by have:=of_decide_eq_false hb;omega
   clear hb
   refine wp_seq_k fun K84 hK84=>?_
   refine rg h79 fun ops=>?_;clear h79 a79
   refine sfEnd4 trivial rfl rfl ?_
   refine sbInts 0 hW3 trivial rfl rfl rfl rfl ?_
   refine slInts trivial rfl rfl ?_
   refine sgt trivial rfl rfl rfl ?_
   refine sa trivial rfl rfl ?_
   refine St.nil fun a85 h85=>?_
   refine hK84 _ _ ?_
   refine fr_cond (t:=34) h85 rfl (fun hb=>?_) (fun hb=>?_)
   ·have hc86:8 < x.args.length:=by have:=of_decide_eq_true hb;omega
    clear hb
    refine wp_seq_k fun K87 hK87=>?_
    refine rg h85 fun ops=>?_;clear h85 a85
    refine sa trivial rfl rfl ?_
    refine St.nil fun a88 h88=>?_
    refine hK87 _ _ ?_
    refine wp_ret ?_;with_reducible repeat first | refine of_then_ret ?_ | refine of_block_ret ?_
    have R:x.form bl=2:=by
     rw [endForm_eq]
     generalize x.yes.form bl (x.op != 3)=yv
     generalize x.no.form bl (x.op == 2)=zv
     first | (simp [hc12,hc17,hc74.out,hc78,hc83,hc86];done) | (exfalso;have:=hc12;have:=hc17;have:=hc74.out;have:=hc78;have:=hc83;have:=hc86;omega)
    exact ret_tmp (t:=4) h88 rfl rfl ⟨by rw [R],hW3.bel⟩
   have hc89:¬ (8 < x.args.length):=by have:=of_decide_eq_false hb;omega
   clear hb
   refine wp_skip ?_
   refine hK5 _ _ ?_
   refine wp_seq_k fun K90 hK90=>?_
   refine wp_seq_k fun K91 hK91=>?_
   refine rg h85 fun ops=>?_;clear h85 a85
   refine sS 1 4 Tryz.underlying38 rfl infFunc hW3 trivial rfl rfl rfl rfl ?_
   refine sfEnd2 trivial rfl rfl ?_
   refine sS 0 3 Tryz.underlying44 rfl infTo hW3 trivial rfl rfl rfl rfl ?_
   refine sfEnd0 trivial rfl rfl ?_
   refine sbInt 0 hW3 trivial rfl rfl rfl rfl ?_
   refine sne trivial rfl rfl rfl ?_
   refine sc_3 cf123 hW3 (toCode_any (x.op != 3) hs.1 hs.2.1 hbl) trivial rfl rfl rfl rfl ?_
   clear hW3;intro w92 hW92
   refine sa trivial rfl rfl ?_
   refine St.nil fun a93 h93=>?_
   refine hK91 _ _ ?_
   refine wp_seq_k fun K94 hK94=>?_
   refine rg h93 fun ops=>?_;clear h93 a93
   refine sm trivial rfl rfl ?_
   refine sne trivial rfl rfl rfl ?_
   refine St.nil fun a95 h95=>?_
   refine hK94 _ _ ?_
   refine fr_cond (t:=47) h95 rfl (fun hb=>?_) (fun hb=>?_)
   ·have h9:¬ (x.yes.form bl (x.op != 3))=0:=bne_iff_ne.1 hb
    have hc96:¬ (x.yes.form bl (x.op != 3))=0:=h9
    clear h9
    clear hb
    refine wp_seq_k fun K97 hK97=>?_
    refine rg h95 fun ops=>?_;clear h95 a95
    refine sm trivial rfl rfl ?_
    refine sa trivial rfl rfl ?_
    refine St.nil fun a98 h98=>?_
    refine hK97 _ _ ?_
    refine wp_ret ?_;with_reducible repeat first | refine of_then_ret ?_ | refine of_block_ret ?_
    have R:x.form bl=x.yes.form bl (x.op != 3):=by
     rw [endForm_eq]
     have hY:=hc96
     generalize x.yes.form bl (x.op != 3)=yv at hY ⊢
     generalize x.no.form bl (x.op == 2)=zv
     first | (simp [hc12,hc17,hc74.out,hc78,hc83,hc89,hY];done) | (exfalso;have:=hc12;have:=hc17;have:=hc74.out;have:=hc78;have:=hc83;have:=hc89;omega)
    exact ret_tmp (t:=4) h98 rfl rfl ⟨by rw [R],hW92.bel⟩
   have h9:(x.yes.form bl (x.op != 3))=0:=bne_eq_false_iff_eq.1 hb
   have hc99:Hid ((x.yes.form bl (x.op != 3))=0):=h9
   clear h9
   clear hb
   refine wp_skip ?_
   refine hK90 _ _ ?_
   refine wp_seq_k fun K100 hK100=>?_
   refine rg h95 fun ops=>?_;clear h95 a95
   refine sS 1 4 Tryz.underlying38 rfl infFunc hW92 trivial rfl rfl rfl rfl ?_
   refine sfEnd3 trivial rfl rfl ?_
   refine sS 0 3 Tryz.underlying44 rfl infTo hW92 trivial rfl rfl rfl rfl ?_
   refine sfEnd0 trivial rfl rfl ?_
   refine sbInt 0 hW92 trivial rfl rfl rfl rfl ?_
   refine seq trivial rfl rfl rfl ?_
   refine sc_3 cf123 hW92 (toCode_any (x.op == 2) hs.2.2.1 hs.2.2.2 hbl) trivial rfl rfl rfl rfl ?_
   clear hW92;intro w101 hW101
   refine sa trivial rfl rfl ?_
   refine St.nil fun a102 h102=>?_
   refine hK100 _ _ ?_
   refine wp_ret ?_;with_reducible repeat first | refine of_then_ret ?_ | refine of_block_ret ?_
   have R:x.form bl=x.no.form bl (x.op == 2):=by
    rw [endForm_eq]
    have hY:=hc99.out
    generalize x.yes.form bl (x.op != 3)=yv at hY ⊢
    generalize x.no.form bl (x.op == 2)=zv
    first | (simp [hc12,hc17,hc74.out,hc78,hc83,hc89,hY];done) | (exfalso;have:=hc12;have:=hc17;have:=hc74.out;have:=hc78;have:=hc83;have:=hc89;omega)
   exact ret_tmp (t:=4) h102 rfl rfl ⟨by rw [R],hW101.bel⟩
  rw [hb] at h77
  have h9:x.op=3:=bne_eq_false_iff_eq.1 hb
  have hc103:Hid (x.op=3):=h9
  clear h9
  clear hb
  refine St.go h77 ?_;clear h77 a77
  refine so hg3 rfl rfl rfl rfl ?_
  refine so hg3 rfl rfl rfl rfl ?_
  refine so hg3 rfl rfl rfl rfl ?_
  refine so hg3 rfl rfl rfl rfl ?_
  refine spf trivial rfl rfl rfl ?_
  refine sa trivial rfl rfl ?_
  refine St.nil fun a104 h104=>?_
  refine hK76 _ _ ?_
  refine fr_false (t:=24) h104 rfl ?_
  refine wp_seq_k fun K105 hK105=>?_
  refine rg h104 fun ops=>?_;clear h104 a104
  refine sfEnd4 trivial rfl rfl ?_
  refine sbInts 0 hW3 trivial rfl rfl rfl rfl ?_
  refine slInts trivial rfl rfl ?_
  refine sgt trivial rfl rfl rfl ?_
  refine sa trivial rfl rfl ?_
  refine St.nil fun a106 h106=>?_
  refine hK105 _ _ ?_
  refine fr_cond (t:=34) h106 rfl (fun hb=>?_) (fun hb=>?_)
  ·have hc107:8 < x.args.length:=by have:=of_decide_eq_true hb;omega
   clear hb
   refine wp_seq_k fun K108 hK108=>?_
   refine rg h106 fun ops=>?_;clear h106 a106
   refine sa trivial rfl rfl ?_
   refine St.nil fun a109 h109=>?_
   refine hK108 _ _ ?_
   refine wp_ret ?_;with_reducible repeat first | refine of_then_ret ?_ | refine of_block_ret ?_
   have R:x.form bl=2:=by
    rw [endForm_eq]
    generalize x.yes.form bl (x.op != 3)=yv
    generalize x.no.form bl (x.op == 2)=zv
    first | (simp [hc12,hc17,hc74.out,hc103.out,hc107];done) | (exfalso;have:=hc12;have:=hc17;have:=hc74.out;have:=hc103.out;have:=hc107;omega)
   exact ret_tmp (t:=4) h109 rfl rfl ⟨by rw [R],hW3.bel⟩
  have hc110:¬ (8 < x.args.length):=by have:=of_decide_eq_false hb;omega
  clear hb
  refine wp_skip ?_
  refine hK5 _ _ ?_
  refine wp_seq_k fun K111 hK111=>?_
  refine wp_seq_k fun K112 hK112=>?_
  refine rg h106 fun ops=>?_;clear h106 a106
  refine sS 1 4 Tryz.underlying38 rfl infFunc hW3 trivial rfl rfl rfl rfl ?_
  refine sfEnd2 trivial rfl rfl ?_
  refine sS 0 3 Tryz.underlying44 rfl infTo hW3 trivial rfl rfl rfl rfl ?_
  refine sfEnd0 trivial rfl rfl ?_
  refine sbInt 0 hW3 trivial rfl rfl rfl rfl ?_
  refine sne trivial rfl rfl rfl ?_
  refine sc_3 cf123 hW3 (toCode_any (x.op != 3) hs.1 hs.2.1 hbl) trivial rfl rfl rfl rfl ?_
  clear hW3;intro w113 hW113
  refine sa trivial rfl rfl ?_
  refine St.nil fun a114 h114=>?_
  refine hK112 _ _ ?_
  refine wp_seq_k fun K115 hK115=>?_
  refine rg h114 fun ops=>?_;clear h114 a114
  refine sm trivial rfl rfl ?_
  refine sne trivial rfl rfl rfl ?_
  refine St.nil fun a116 h116=>?_
  refine hK115 _ _ ?_
  refine fr_cond (t:=47) h116 rfl (fun hb=>?_) (fun hb=>?_)
  ·have h9:¬ (x.yes.form bl (x.op != 3))=0:=bne_iff_ne.1 hb
   have hc117:¬ (x.yes.form bl (x.op != 3))=0:=h9
   clear h9
   clear hb
   refine wp_seq_k fun K118 hK118=>?_
   refine rg h116 fun ops=>?_;clear h116 a116
   refine sm trivial rfl rfl ?_
   refine sa trivial rfl rfl ?_
   refine St.nil fun a119 h119=>?_
   refine hK118 _ _ ?_
   refine wp_ret ?_;with_reducible repeat first | refine of_then_ret ?_ | refine of_block_ret ?_
   have R:x.form bl=x.yes.form bl (x.op != 3):=by
    rw [endForm_eq]
    have hY:=hc117
    generalize x.yes.form bl (x.op != 3)=yv at hY ⊢
    generalize x.no.form bl (x.op == 2)=zv
    first | (simp [hc12,hc17,hc74.out,hc103.out,hc110,hY];done) | (exfalso;have:=hc12;have:=hc17;have:=hc74.out;have:=hc103.out;have:=hc110;omega)
   exact ret_tmp (t:=4) h119 rfl rfl ⟨by rw [R],hW113.bel⟩
  have h9:(x.yes.form bl (x.op != 3))=0:=bne_eq_false_iff_eq.1 hb
  have hc120:Hid ((x.yes.form bl (x.op != 3))=0):=h9
  clear h9
  clear hb
  refine wp_skip ?_
  refine hK111 _ _ ?_
  refine wp_seq_k fun K121 hK121=>?_
  refine rg h116 fun ops=>?_;clear h116 a116
  refine sS 1 4 Tryz.underlying38 rfl infFunc hW113 trivial rfl rfl rfl rfl ?_
  refine sfEnd3 trivial rfl rfl ?_
  refine sS 0 3 Tryz.underlying44 rfl infTo hW113 trivial rfl rfl rfl rfl ?_
  refine sfEnd0 trivial rfl rfl ?_
  refine sbInt 0 hW113 trivial rfl rfl rfl rfl ?_
  refine seq trivial rfl rfl rfl ?_
  refine sc_3 cf123 hW113 (toCode_any (x.op == 2) hs.2.2.1 hs.2.2.2 hbl) trivial rfl rfl rfl rfl ?_
  clear hW113;intro w122 hW122
  refine sa trivial rfl rfl ?_
  refine St.nil fun a123 h123=>?_
  refine hK121 _ _ ?_
  refine wp_ret ?_;with_reducible repeat first | refine of_then_ret ?_ | refine of_block_ret ?_
  have R:x.form bl=x.no.form bl (x.op == 2):=by
   rw [endForm_eq]
   have hY:=hc120.out
   generalize x.yes.form bl (x.op != 3)=yv at hY ⊢
   generalize x.no.form bl (x.op == 2)=zv
   first | (simp [hc12,hc17,hc74.out,hc103.out,hc110,hY];done) | (exfalso;have:=hc12;have:=hc17;have:=hc74.out;have:=hc103.out;have:=hc110;omega)
  exact ret_tmp (t:=4) h123 rfl rfl ⟨by rw [R],hW122.bel⟩
end Go.Proofs.YtjodmledadbgeacGreatDoor
namespace Go.Proofs.YtjodmledadbgeacGreatDoor
open Go.ChangeShapes Go.WideShapes Go.ChangeAt Go.RowKit
set_option linter.unusedVariables false
theorem typeFault_any : ∀ n, FaultAt 80 n := by
  intro n
  induction n with
  | zero=>intro t;exact Empty.elim t
  | succ n ih =>
    intro t a c regs w ht hct
    have IH:Hid (FaultAt 80 n):=ih
    clear ih
    have hT:Hid (LIn w All t.2.2 a):=ht.list
    have hco:Hid (∀ x ∈ t.2.2,x.count≤100000):=fun x hx=>by have:=t.count_kid hx;omega
    have hlen:t.2.2.length≤100000:=by have:=t.len_lt_count;rw [t.len_eq] at this;omega
    have hF:Hid (t.fault regs=if ownC t.kind t.r t.2.2.length regs≠0 then ownC t.kind t.r t.2.2.length regs else firstL (TT.fault regs) t.2.2):=rfl
    generalize t.fault regs=res at hF ⊢
    simp only [Tv,TT.len_eq]
    generalize t.2.2=l at hT hco hF hlen ⊢
    generalize t.kind=k at hF ⊢
    generalize t.r=r at hF ⊢
    clear ht hct t
    generalize hln:l.length=len at hF hlen ⊢
    have HL:Hid (l.length=len):=hln
    clear hln
    rcases (show k < 1 ∨ (¬ k < 1∧4 < k) ∨ k=1 ∨ k=2 ∨ k=4 ∨ k=3 by omega) with h1 | ⟨h1,h2⟩ | rfl | rfl | rfl | rfl
    · have hR:=hF.out
      rw [show ownC _ _ len regs=3 by unfold ownC;repeat' split;all_goals omega] at hR
      clear hF
      replace hR:Hid (res=3):=by show res=3;simpa using hR
      go_enter Tryz.func80,Tryz.ntmps80
      go_wp2_with fail
      go_ret
      exact ⟨by rw [hR.out];rfl,(Below.refl _ w).alloc (Nat.le_refl _) _⟩
    · have hR:=hF.out
      rw [show ownC _ _ len regs=3 by unfold ownC;repeat' split;all_goals omega] at hR
      clear hF
      replace hR:Hid (res=3):=by show res=3;simpa using hR
      go_enter Tryz.func80,Tryz.ntmps80
      go_wp2_with fail
      go_ret
      exact ⟨by rw [hR.out];rfl,(Below.refl _ w).alloc (Nat.le_refl _) _⟩
    · rcases (show r≠0 ∨ (r=0∧0 < len) ∨ (r=0∧len=0) by omega) with h1 | ⟨rfl,h1⟩ | ⟨rfl,h1⟩
      · have g1:(r != 0)=true:=by simpa using h1
        have hR:=hF.out
        rw [show ownC _ _ len regs=4 by unfold ownC;repeat' split;all_goals omega] at hR
        clear hF
        replace hR:Hid (res=4):=by show res=4;simpa using hR
        go_enter Tryz.func80,Tryz.ntmps80
        go_wp2_with fail
        go_ret
        exact ⟨by rw [hR.out];rfl,(Below.refl _ w).alloc (Nat.le_refl _) _⟩
      · have g1:(0:Int) < (len:Int):=by omega
        have hR:=hF.out
        rw [show ownC _ _ len regs=4 by unfold ownC;repeat' split;all_goals omega] at hR
        clear hF
        replace hR:Hid (res=4):=by show res=4;simpa using hR
        go_enter Tryz.func80,Tryz.ntmps80
        go_wp2_with fail
        go_ret
        exact ⟨by rw [hR.out];rfl,(Below.refl _ w).alloc (Nat.le_refl _) _⟩
      · have g1:¬ (0:Int) < (len:Int):=by omega
        have g2:¬ (8:Int) < (len:Int):=by omega
        have hR:=hF.out
        rw [show ownC _ _ len regs=0 by unfold ownC;repeat' split;all_goals omega] at hR
        clear hF
        have R:Hid (res=firstL (TT.fault regs) l):=by show res=firstL (TT.fault regs) l;simpa using hR
        clear hR
        have R0:Hid (res=0):=by
          have hl0:l=[]:=List.length_eq_zero_iff.1 (HL.out.trans h1)
          have:=R.out
          rw [hl0] at this
          exact this
        subst h1
        clear R g1 g2
        go_enter Tryz.func80,Tryz.ntmps80
        go_wp2_with fail
        have X0:=Bx.start w 1 0 a 0 c
        generalize w.alloc (.cells #[.int .i64 1,.int .i64 0,.slice a 0 c] 74)=w1 at X0 ⊢
        have X1:Hid (Bx w w1 1 0 a 0 c):=X0
        clear X0
        go_loopw [5] (fun i wr=>i=.int .i64 0∧Bx w wr 1 0 a 0 c) (fun _ _=>0)
        case atStart=>exact ⟨rfl,X1.out⟩
        case round =>
          clear X1
          obtain ⟨rfl,hX⟩:=hrel
          have X1:Hid (Bx w wr 1 0 a 0 c):=hX
          have e2:wr.cell? ⟨w.heap.size,2,none⟩=some (.slice a 0 c):=cellOf hX.box 2 _ rfl
          clear hX
          go_wp2
          go_ret
          exact ⟨by rw [R0.out];rfl,X1.out.bel⟩
    · rcases (show 0 < len ∨ (len=0∧r < 0) ∨ (len=0∧0≤r∧regs≤r) ∨ (len=0∧0≤r∧r < regs) by omega) with h1 | ⟨h1,h2⟩ | ⟨h1,h2,h3⟩ | ⟨h1,h2,h3⟩
      · have g1:(0:Int) < (len:Int):=by omega
        have hR:=hF.out
        rw [show ownC _ _ len regs=4 by unfold ownC;repeat' split;all_goals omega] at hR
        clear hF
        replace hR:Hid (res=4):=by show res=4;simpa using hR
        go_enter Tryz.func80,Tryz.ntmps80
        go_wp2_with fail
        go_ret
        exact ⟨by rw [hR.out];rfl,(Below.refl _ w).alloc (Nat.le_refl _) _⟩
      · have g1:¬ (0:Int) < (len:Int):=by omega
        have g2:¬ (8:Int) < (len:Int):=by omega
        have hR:=hF.out
        rw [show ownC _ _ len regs=1 by unfold ownC;repeat' split;all_goals omega] at hR
        clear hF
        replace hR:Hid (res=1):=by show res=1;simpa using hR
        go_enter Tryz.func80,Tryz.ntmps80
        go_wp2_with fail
        go_ret
        exact ⟨by rw [hR.out];rfl,(Below.refl _ w).alloc (Nat.le_refl _) _⟩
      · have g1:¬ (0:Int) < (len:Int):=by omega
        have g2:¬ (8:Int) < (len:Int):=by omega
        have hR:=hF.out
        rw [show ownC _ _ len regs=1 by unfold ownC;repeat' split;all_goals omega] at hR
        clear hF
        replace hR:Hid (res=1):=by show res=1;simpa using hR
        go_enter Tryz.func80,Tryz.ntmps80
        go_wp2_with fail
        go_ret
        exact ⟨by rw [hR.out];rfl,(Below.refl _ w).alloc (Nat.le_refl _) _⟩
      · have g1:¬ (0:Int) < (len:Int):=by omega
        have g2:¬ (8:Int) < (len:Int):=by omega
        have hR:=hF.out
        rw [show ownC _ _ len regs=0 by unfold ownC;repeat' split;all_goals omega] at hR
        clear hF
        have R:Hid (res=firstL (TT.fault regs) l):=by show res=firstL (TT.fault regs) l;simpa using hR
        clear hR
        have R0:Hid (res=0):=by
          have hl0:l=[]:=List.length_eq_zero_iff.1 (HL.out.trans h1)
          have:=R.out
          rw [hl0] at this
          exact this
        subst h1
        clear R g1 g2
        go_enter Tryz.func80,Tryz.ntmps80
        go_wp2_with fail
        have X0:=Bx.start w 2 r a 0 c
        generalize w.alloc (.cells #[.int .i64 2,.int .i64 r,.slice a 0 c] 74)=w1 at X0 ⊢
        have X1:Hid (Bx w w1 2 r a 0 c):=X0
        clear X0
        go_loopw [5] (fun i wr=>i=.int .i64 0∧Bx w wr 2 r a 0 c) (fun _ _=>0)
        case atStart=>exact ⟨rfl,X1.out⟩
        case round =>
          clear X1
          obtain ⟨rfl,hX⟩:=hrel
          have X1:Hid (Bx w wr 2 r a 0 c):=hX
          have e2:wr.cell? ⟨w.heap.size,2,none⟩=some (.slice a 0 c):=cellOf hX.box 2 _ rfl
          clear hX
          go_wp2
          go_ret
          exact ⟨by rw [R0.out];rfl,X1.out.bel⟩
    · rcases (show 0 < len ∨ (len=0∧r < 0) ∨ (len=0∧0≤r∧regs≤r) ∨ (len=0∧0≤r∧r < regs) by omega) with h1 | ⟨h1,h2⟩ | ⟨h1,h2,h3⟩ | ⟨h1,h2,h3⟩
      · have g1:(0:Int) < (len:Int):=by omega
        have hR:=hF.out
        rw [show ownC _ _ len regs=4 by unfold ownC;repeat' split;all_goals omega] at hR
        clear hF
        replace hR:Hid (res=4):=by show res=4;simpa using hR
        go_enter Tryz.func80,Tryz.ntmps80
        go_wp2_with fail
        go_ret
        exact ⟨by rw [hR.out];rfl,(Below.refl _ w).alloc (Nat.le_refl _) _⟩
      · have g1:¬ (0:Int) < (len:Int):=by omega
        have g2:¬ (8:Int) < (len:Int):=by omega
        have hR:=hF.out
        rw [show ownC _ _ len regs=1 by unfold ownC;repeat' split;all_goals omega] at hR
        clear hF
        replace hR:Hid (res=1):=by show res=1;simpa using hR
        go_enter Tryz.func80,Tryz.ntmps80
        go_wp2_with fail
        go_ret
        exact ⟨by rw [hR.out];rfl,(Below.refl _ w).alloc (Nat.le_refl _) _⟩
      · have g1:¬ (0:Int) < (len:Int):=by omega
        have g2:¬ (8:Int) < (len:Int):=by omega
        have hR:=hF.out
        rw [show ownC _ _ len regs=1 by unfold ownC;repeat' split;all_goals omega] at hR
        clear hF
        replace hR:Hid (res=1):=by show res=1;simpa using hR
        go_enter Tryz.func80,Tryz.ntmps80
        go_wp2_with fail
        go_ret
        exact ⟨by rw [hR.out];rfl,(Below.refl _ w).alloc (Nat.le_refl _) _⟩
      · have g1:¬ (0:Int) < (len:Int):=by omega
        have g2:¬ (8:Int) < (len:Int):=by omega
        have hR:=hF.out
        rw [show ownC _ _ len regs=0 by unfold ownC;repeat' split;all_goals omega] at hR
        clear hF
        have R:Hid (res=firstL (TT.fault regs) l):=by show res=firstL (TT.fault regs) l;simpa using hR
        clear hR
        have R0:Hid (res=0):=by
          have hl0:l=[]:=List.length_eq_zero_iff.1 (HL.out.trans h1)
          have:=R.out
          rw [hl0] at this
          exact this
        subst h1
        clear R g1 g2
        go_enter Tryz.func80,Tryz.ntmps80
        go_wp2_with fail
        have X0:=Bx.start w 4 r a 0 c
        generalize w.alloc (.cells #[.int .i64 4,.int .i64 r,.slice a 0 c] 74)=w1 at X0 ⊢
        have X1:Hid (Bx w w1 4 r a 0 c):=X0
        clear X0
        go_loopw [5] (fun i wr=>i=.int .i64 0∧Bx w wr 4 r a 0 c) (fun _ _=>0)
        case atStart=>exact ⟨rfl,X1.out⟩
        case round =>
          clear X1
          obtain ⟨rfl,hX⟩:=hrel
          have X1:Hid (Bx w wr 4 r a 0 c):=hX
          have e2:wr.cell? ⟨w.heap.size,2,none⟩=some (.slice a 0 c):=cellOf hX.box 2 _ rfl
          clear hX
          go_wp2
          go_ret
          exact ⟨by rw [R0.out];rfl,X1.out.bel⟩
    · rcases (show 8 < len ∨ (len≤8∧r < 0) ∨ (len≤8∧0≤r∧regs≤r) ∨ (len≤8∧0≤r∧r < regs) by omega) with h1 | ⟨h1,h2⟩ | ⟨h1,h2,h3⟩ | ⟨h1,h2,h3⟩
      · have g1:(8:Int) < (len:Int):=by omega
        have hR:=hF.out
        rw [show ownC _ _ len regs=2 by unfold ownC;repeat' split;all_goals omega] at hR
        clear hF
        replace hR:Hid (res=2):=by show res=2;simpa using hR
        go_enter Tryz.func80,Tryz.ntmps80
        go_wp2_with fail
        go_ret
        exact ⟨by rw [hR.out];rfl,(Below.refl _ w).alloc (Nat.le_refl _) _⟩
      · have g1:¬ (8:Int) < (len:Int):=by omega
        have hR:=hF.out
        rw [show ownC _ _ len regs=1 by unfold ownC;repeat' split;all_goals omega] at hR
        clear hF
        replace hR:Hid (res=1):=by show res=1;simpa using hR
        go_enter Tryz.func80,Tryz.ntmps80
        go_wp2_with fail
        go_ret
        exact ⟨by rw [hR.out];rfl,(Below.refl _ w).alloc (Nat.le_refl _) _⟩
      · have g1:¬ (8:Int) < (len:Int):=by omega
        have hR:=hF.out
        rw [show ownC _ _ len regs=1 by unfold ownC;repeat' split;all_goals omega] at hR
        clear hF
        replace hR:Hid (res=1):=by show res=1;simpa using hR
        go_enter Tryz.func80,Tryz.ntmps80
        go_wp2_with fail
        go_ret
        exact ⟨by rw [hR.out];rfl,(Below.refl _ w).alloc (Nat.le_refl _) _⟩
      · have g1:¬ (8:Int) < (len:Int):=by omega
        have hR:=hF.out
        rw [show ownC _ _ len regs=0 by unfold ownC;repeat' split;all_goals omega] at hR
        clear hF
        have R:Hid (res=firstL (TT.fault regs) l):=by show res=firstL (TT.fault regs) l;simpa using hR
        clear hR
        go_enter Tryz.func80,Tryz.ntmps80
        go_wp2_with fail
        have X0:=Bx.start w 3 r a len c
        generalize w.alloc (.cells #[.int .i64 3,.int .i64 r,.slice a len c] 74)=w1 at X0 ⊢
        have X1:Hid (Bx w w1 3 r a len c):=X0
        clear X0
        go_loopw [5] (fun i wr=>∃ q:Nat,q≤len∧i=.int .i64 q∧(∀ (j:Nat) x,j < q→l[j]?=some x→x.fault regs=0)∧Bx w wr 3 r a len c) (fun i _=>len - (intOf i).toNat)
        case atStart=>exact ⟨0,Nat.zero_le _,rfl,fun j x hj=>by omega,X1.out⟩
        case round =>
          clear X1
          obtain ⟨q,hq,rfl,hall,hX⟩:=hrel
          have A:Hid (∀ (j:Nat) x,j < q→l[j]?=some x→x.fault regs=0):=hall
          have X1:Hid (Bx w wr 3 r a len c):=hX
          have e2:wr.cell? ⟨w.heap.size,2,none⟩=some (.slice a len c):=cellOf hX.box 2 _ rfl
          clear hall
          by_cases hlt:q < len
          · have hql:q < l.length:=by have:=HL.out;omega
            have hx:l[q]?=some l[q]:=List.getElem?_eq_getElem hql
            generalize l[q]=x at hx
            clear hql
            obtain ⟨g,o,a',c',rfl,_,d0,d1,d2,hk⟩:=LIn.at (hT.out.below hX.bel) hx
            have hx':Hid (l[q]?=some x):=hx
            have hk0:(0:Int)≤q:=by omega
            have hk1:(q:Int) < len:=by omega
            have C:Hid (∀ wx,Below wr.heap.size wr wx→Calls Tryz.prog 80 #[Tv x a' c',.int .i64 regs] wx fun e w'=>e=.returned (.int .i64 (x.fault regs))∧Below wx.heap.size wx w') :=
              fun wx hb=>IH.out x a' c' regs wx (hk.below hb) (hco.out x (List.mem_of_getElem? hx))
            clear hX hk hx
            simp only [Tv] at C
            generalize x.kind=kx at C d0
            generalize x.r=rx at C d1
            generalize x.len=lx at C d2
            go_wp2_with fail
            refine (C.out _ (Below.refl _ _)).mono ?_
            rintro e w2 ⟨rfl,b2⟩
            have X2:Hid (Bx w w2 3 r (some ⟨g,o,none⟩) len c):=X1.out.below b2
            clear X1 b2 C d0 d1 d2 e2
            by_cases hd:x.fault regs=0
            · have A2:Hid (∀ (j:Nat) x,j < q+1→l[j]?=some x→x.fault regs=0):=fun j y hj hy=>by
                by_cases e:j=q
                · subst e
                  rw [hx'.out] at hy
                  cases hy
                  exact hd
                · exact A.out j y (by omega) hy
              rw [hd]
              clear hd A
              go_wp2
              go_roundw
              case rel=>exact ⟨q+1,by omega,by go_num,A2.out,X2.out⟩
              case measure=>simp [intOf];omega
            · have Rv:Hid (res=x.fault regs):=R.out.trans (firstL_eq hx'.out A.out hd)
              have hd':(x.fault regs != 0)=true:=by simpa using hd
              generalize x.fault regs=v at hd' Rv ⊢
              clear hd A
              go_wp2
              go_ret
              exact ⟨by rw [Rv.out];rfl,X2.out.bel⟩
          · have Rv:Hid (res=0):=R.out.trans (firstL_zero (fun j y hy=>A.out j y (by have:=(List.getElem?_eq_some_iff.1 hy).1;have:=HL.out;omega) hy))
            have hk1:¬ (q:Int) < len:=by omega
            clear hX A
            go_wp2
            go_ret
            exact ⟨by rw [Rv.out];rfl,X1.out.bel⟩
end Go.Proofs.YtjodmledadbgeacGreatDoor
