import Derived.Test.YtacjnejckfhpoadGreatP5
set_option maxHeartbeats 16000000
set_option maxRecDepth 100000
namespace Go.Proofs.YtacjnejckfhpoadGreat
open Go.ChangeShapes Go.WideShapes Go.ChangeAt Go.RowKit
set_option linter.unusedSimpArgs false
set_option linter.unusedVariables false
theorem Qi5 {xop:Int}{fa fb fc fk fn fr fs:Bool}(hop:QE xop=some (fa,fb,fc,fk,fn,fr,fs)) (xa xb xc xk xn:Int) (am ra aa:Option Addr) (lm cm rl rc al ac:Nat) (w:World) :
 Rd Tryz.prog 72 #[.agg #[.slice am lm cm],.agg #[.int .i64 xop,.int .i64 xa,.int .i64 xb,.int .i64 xc,.int .i64 xk,.int .i64 xn,.slice ra rl rc,.slice aa al ac]] w (.int .i64 (QX lm xop xa xb xc xk xn rl al)):=by
 refine Qq (n:=137) Tryz.func72 rfl rfl rfl ?_;intro a hF;have hW:=Wd.start w;replace hF:Fr 137 a [(0,.agg #[.slice am lm cm]),(1,.agg #[.int .i64 xop,.int .i64 xa,.int .i64 xb,.int .i64 xc,.int .i64 xk,.int .i64 xn,.slice ra rl rc,.slice aa al ac])]:=hF;refine wp_seq_k fun K1 hK1=>?_;refine rg hF fun ops=>?_;clear hF a;refine sB hW trivial rfl rfl ?_;clear hW;intro w2 B2 hW2 hN;clear hN;refine sB hW2 trivial rfl rfl ?_;clear hW2;intro w3 B3 hW3 hN;clear hN;refine sa trivial rfl rfl ?_;refine St.nil fun a4 h4=>?_;refine hK1 _ _ ?_;refine wp_seq_k fun K5 hK5=>?_;refine rg h4 fun ops=>?_;clear h4 a4;refine Qid trivial rfl rfl ?_;refine QN 0 hW3 trivial rfl rfl rfl rfl ?_;refine Qdu cf92 hW3 (QeI hop w3) trivial rfl rfl ?_;clear hW3;intro w6 hW6;refine sm trivial rfl rfl ?_;intro a7 h7;refine QG (t:=11) (v:=.agg #[.bool fa,.bool fb,.bool fc,.bool fk,.bool fn,.bool fr,.bool fs]) (w':=w6) h7 rfl rfl rfl (fun K hK=>?_) ?_
 ·have k0:a7.tmps.getD 7 undef=.tuple #[.agg #[.bool fa,.bool fb,.bool fc,.bool fk,.bool fn,.bool fr,.bool fs],.bool true]:=h7.sl 7 _ rfl
  go_simp;exact hK
 clear h7;intro a8 hF8;refine QG (t:=12) (v:=.bool true) (w':=w6) hF8 rfl rfl rfl (fun K hK=>?_) ?_
 ·have k0:a8.tmps.getD 7 undef=.tuple #[.agg #[.bool fa,.bool fb,.bool fc,.bool fk,.bool fn,.bool fr,.bool fs],.bool true]:=hF8.sl 7 _ rfl
  go_simp;exact hK
 clear hF8;intro a9 hF9;refine St.go hF9 ?_;clear hF9 a9;refine Qgr hW6 trivial rfl ?_;clear hW6;intro w10 B10 hW10 hN;clear hN;refine sT 0 hW10 rfl rfl infFields rfl rfl rfl ?_;clear hW10;intro w11 hW11;refine sa trivial rfl rfl ?_;refine St.nil fun a12 h12=>?_;refine hK5 _ _ ?_;refine wp_seq_k fun K13 hK13=>?_;refine wp_seq_k fun K14 hK14=>?_;refine rg h12 fun ops=>?_;clear h12 a12;refine sm trivial rfl rfl ?_;refine sn trivial rfl rfl ?_;refine St.nil fun a15 h15=>?_;refine hK14 _ _ ?_;refine Qbl (t:=14) h15 rfl ?_;refine wp_skip ?_;refine hK13 _ _ ?_;refine wp_seq_k fun K16 hK16=>?_;refine wp_seq_k fun K17 hK17=>?_;refine Qz ?_;intro ops hops;have hg3:(ops[3]?).bind (fun o:Oper=>o.dst)=some 18:=hops 3;have hg8:(ops[8]?).bind (fun o:Oper=>o.dst)=some 23:=hops 8;have hg12:(ops[12]?).bind (fun o:Oper=>o.dst)=some 27:=hops 12;have hg18:(ops[18]?).bind (fun o:Oper=>o.dst)=some 33:=hops 18;have hg22:(ops[22]?).bind (fun o:Oper=>o.dst)=some 37:=hops 22;have hg28:(ops[28]?).bind (fun o:Oper=>o.dst)=some 43:=hops 28;have hg32:(ops[32]?).bind (fun o:Oper=>o.dst)=some 47:=hops 32;have hg38:(ops[38]?).bind (fun o:Oper=>o.dst)=some 53:=hops 38;have hg42:(ops[42]?).bind (fun o:Oper=>o.dst)=some 57:=hops 42;have hg48:(ops[48]?).bind (fun o:Oper=>o.dst)=some 63:=hops 48;have hg52:(ops[52]?).bind (fun o:Oper=>o.dst)=some 67:=hops 52;have hg59:(ops[59]?).bind (fun o:Oper=>o.dst)=some 74:=hops 59;have hg63:(ops[63]?).bind (fun o:Oper=>o.dst)=some 78:=hops 63;clear hops;refine QfR 9 (fun a' w'=>(∃ d1:Bool,d1=(!fa&&xa!=0)∧Fr 137 a' [(23,.bool d1),(1,.agg #[.int .i64 xop,.int .i64 xa,.int .i64 xb,.int .i64 xc,.int .i64 xk,.int .i64 xn,.slice ra rl rc,.slice aa al ac]),(0,.agg #[.slice am lm cm]),(2,.pointer (some ⟨B2,0,none⟩)),(3,.pointer (some ⟨B3,0,none⟩)),(4,.int .i64 0),(5,.pointer (some ⟨B10,0,none⟩)),(6,.bool true)])∧w11=w') (fun KC hKC=>?_) ?_
 ·refine St.go h15 ?_;clear h15 a15
  refine Qix trivial rfl rfl ?_;refine Qdd 0 hW11 trivial rfl rfl rfl rfl ?_;refine sn trivial rfl rfl ?_;refine sm trivial rfl rfl ?_;intro a18 h18;rcases Bool.eq_false_or_eq_true (!fa) with hb | hb
  ·rw[hb] at h18
   have hc19:fa=false:=by simpa using hb
   clear hb;refine St.go h18 ?_;clear h18 a18;refine QkK ⟨_,hg3,rfl,rfl⟩ rfl rfl ?_;refine QN 1 hW11 ⟨_,hg3,rfl,rfl⟩ rfl rfl rfl rfl ?_;refine sne ⟨_,hg3,rfl,rfl⟩ rfl rfl rfl ?_;refine sp trivial rfl rfl rfl ?_;refine sm trivial rfl rfl ?_;refine St.nil fun a20 h20=>?_;exact hKC _ _ ⟨⟨xa!=0,by simp[hc19],(h20.keep (h20.keep (h20.keep (h20.keep (h20.keep (h20.keep (h20.keep (h20.keep h20.nil (t:=6) rfl) (t:=5) rfl) (t:=4) rfl) (t:=3) rfl) (t:=2) rfl) (t:=0) rfl) (t:=1) rfl) (t:=23) rfl)⟩,rfl⟩
  rw[hb] at h18
  have hc21:fa=true:=by simpa using hb
  clear hb;refine St.go h18 ?_;clear h18 a18;refine so hg3 rfl rfl rfl rfl ?_;refine so hg3 rfl rfl rfl rfl ?_;refine so hg3 rfl rfl rfl rfl ?_;refine spf trivial rfl rfl rfl ?_;refine sm trivial rfl rfl ?_;refine St.nil fun a22 h22=>?_;exact hKC _ _ ⟨⟨false,by simp[hc21],(h22.keep (h22.keep (h22.keep (h22.keep (h22.keep (h22.keep (h22.keep (h22.keep h22.nil (t:=6) rfl) (t:=5) rfl) (t:=4) rfl) (t:=3) rfl) (t:=2) rfl) (t:=0) rfl) (t:=1) rfl) (t:=23) rfl)⟩,rfl⟩
 ·clear h15;rintro a23 _ ⟨⟨d1,hdd1,h23⟩,rfl⟩;replace hdd1:Hid _:=hdd1
  refine QfR 10 (fun a' w'=>(∃ d2:Bool,d2=(d1||(!fb&&xb!=0))∧Fr 137 a' [(33,.bool d2),(1,.agg #[.int .i64 xop,.int .i64 xa,.int .i64 xb,.int .i64 xc,.int .i64 xk,.int .i64 xn,.slice ra rl rc,.slice aa al ac]),(0,.agg #[.slice am lm cm]),(2,.pointer (some ⟨B2,0,none⟩)),(3,.pointer (some ⟨B3,0,none⟩)),(4,.int .i64 0),(5,.pointer (some ⟨B10,0,none⟩)),(6,.bool true)])∧w11=w') (fun KC hKC=>?_) ?_
  ·rcases Bool.eq_false_or_eq_true d1 with hb | hb
   ·rw[hb] at h23
    have hc24:=hb;clear hb;refine St.go h23 ?_;clear h23 a23;refine so hg8 rfl rfl rfl rfl ?_;refine so hg8 rfl rfl rfl rfl ?_;refine so hg8 rfl rfl rfl rfl ?_;refine so hg8 rfl rfl rfl rfl ?_;refine so hg12 rfl rfl rfl rfl ?_;refine so hg12 rfl rfl rfl rfl ?_;refine so hg12 rfl rfl rfl rfl ?_;refine so hg8 rfl rfl rfl rfl ?_;refine sp trivial rfl rfl rfl ?_;refine sm trivial rfl rfl ?_;refine St.nil fun a25 h25=>?_;exact hKC _ _ ⟨⟨true,by simp[hc24],(h25.keep (h25.keep (h25.keep (h25.keep (h25.keep (h25.keep (h25.keep (h25.keep h25.nil (t:=6) rfl) (t:=5) rfl) (t:=4) rfl) (t:=3) rfl) (t:=2) rfl) (t:=0) rfl) (t:=1) rfl) (t:=33) rfl)⟩,rfl⟩
   rw[hb] at h23
   have hc26:=hb;clear hb;refine St.go h23 ?_;clear h23 a23;refine Qiu ⟨_,hg8,rfl,rfl⟩ rfl rfl ?_;refine Qdd 0 hW11 ⟨_,hg8,rfl,rfl⟩ rfl rfl rfl rfl ?_;refine sn ⟨_,hg8,rfl,rfl⟩ rfl rfl ?_;refine sm ⟨_,hg8,rfl,rfl⟩ rfl rfl ?_;intro a27 h27;rcases Bool.eq_false_or_eq_true (!fb) with hb | hb
   ·rw[hb] at h27
    have hc28:fb=false:=by simpa using hb
    clear hb;refine St.go h27 ?_;clear h27 a27;refine Qlb ⟨_,hg12,rfl,rfl⟩ rfl rfl ?_;refine QN 1 hW11 ⟨_,hg12,rfl,rfl⟩ rfl rfl rfl rfl ?_;refine sne ⟨_,hg12,rfl,rfl⟩ rfl rfl rfl ?_;refine sp ⟨_,hg8,rfl,rfl⟩ rfl rfl rfl ?_;refine spf trivial rfl rfl rfl ?_;refine sm trivial rfl rfl ?_;refine St.nil fun a29 h29=>?_;exact hKC _ _ ⟨⟨xb!=0,by simp[hc26,hc28],(h29.keep (h29.keep (h29.keep (h29.keep (h29.keep (h29.keep (h29.keep (h29.keep h29.nil (t:=6) rfl) (t:=5) rfl) (t:=4) rfl) (t:=3) rfl) (t:=2) rfl) (t:=0) rfl) (t:=1) rfl) (t:=33) rfl)⟩,rfl⟩
   rw[hb] at h27
   have hc30:fb=true:=by simpa using hb
   clear hb;refine St.go h27 ?_;clear h27 a27;refine so hg12 rfl rfl rfl rfl ?_;refine so hg12 rfl rfl rfl rfl ?_;refine so hg12 rfl rfl rfl rfl ?_;refine spf ⟨_,hg8,rfl,rfl⟩ rfl rfl rfl ?_;refine spf trivial rfl rfl rfl ?_;refine sm trivial rfl rfl ?_;refine St.nil fun a31 h31=>?_;exact hKC _ _ ⟨⟨false,by simp[hc26,hc30],(h31.keep (h31.keep (h31.keep (h31.keep (h31.keep (h31.keep (h31.keep (h31.keep h31.nil (t:=6) rfl) (t:=5) rfl) (t:=4) rfl) (t:=3) rfl) (t:=2) rfl) (t:=0) rfl) (t:=1) rfl) (t:=33) rfl)⟩,rfl⟩
  ·clear h23;rintro a32 _ ⟨⟨d2,hdd2,h32⟩,rfl⟩;replace hdd2:Hid _:=hdd2
   refine QfR 10 (fun a' w'=>(∃ d3:Bool,d3=(d2||(!fc&&xc!=0))∧Fr 137 a' [(43,.bool d3),(1,.agg #[.int .i64 xop,.int .i64 xa,.int .i64 xb,.int .i64 xc,.int .i64 xk,.int .i64 xn,.slice ra rl rc,.slice aa al ac]),(0,.agg #[.slice am lm cm]),(2,.pointer (some ⟨B2,0,none⟩)),(3,.pointer (some ⟨B3,0,none⟩)),(4,.int .i64 0),(5,.pointer (some ⟨B10,0,none⟩)),(6,.bool true)])∧w11=w') (fun KC hKC=>?_) ?_
   ·rcases Bool.eq_false_or_eq_true d2 with hb | hb
    ·rw[hb] at h32
     have hc33:=hb;clear hb;refine St.go h32 ?_;clear h32 a32;refine so hg18 rfl rfl rfl rfl ?_;refine so hg18 rfl rfl rfl rfl ?_;refine so hg18 rfl rfl rfl rfl ?_;refine so hg18 rfl rfl rfl rfl ?_;refine so hg22 rfl rfl rfl rfl ?_;refine so hg22 rfl rfl rfl rfl ?_;refine so hg22 rfl rfl rfl rfl ?_;refine so hg18 rfl rfl rfl rfl ?_;refine sp trivial rfl rfl rfl ?_;refine sm trivial rfl rfl ?_;refine St.nil fun a34 h34=>?_;exact hKC _ _ ⟨⟨true,by simp[hc33],(h34.keep (h34.keep (h34.keep (h34.keep (h34.keep (h34.keep (h34.keep (h34.keep h34.nil (t:=6) rfl) (t:=5) rfl) (t:=4) rfl) (t:=3) rfl) (t:=2) rfl) (t:=0) rfl) (t:=1) rfl) (t:=43) rfl)⟩,rfl⟩
    rw[hb] at h32
    have hc35:=hb;clear hb;refine St.go h32 ?_;clear h32 a32;refine Qit ⟨_,hg18,rfl,rfl⟩ rfl rfl ?_;refine Qdd 0 hW11 ⟨_,hg18,rfl,rfl⟩ rfl rfl rfl rfl ?_;refine sn ⟨_,hg18,rfl,rfl⟩ rfl rfl ?_;refine sm ⟨_,hg18,rfl,rfl⟩ rfl rfl ?_;intro a36 h36;rcases Bool.eq_false_or_eq_true (!fc) with hb | hb
    ·rw[hb] at h36
     have hc37:fc=false:=by simpa using hb
     clear hb;refine St.go h36 ?_;clear h36 a36;refine QkY ⟨_,hg22,rfl,rfl⟩ rfl rfl ?_;refine QN 1 hW11 ⟨_,hg22,rfl,rfl⟩ rfl rfl rfl rfl ?_;refine sne ⟨_,hg22,rfl,rfl⟩ rfl rfl rfl ?_;refine sp ⟨_,hg18,rfl,rfl⟩ rfl rfl rfl ?_;refine spf trivial rfl rfl rfl ?_;refine sm trivial rfl rfl ?_;refine St.nil fun a38 h38=>?_;exact hKC _ _ ⟨⟨xc!=0,by simp[hc35,hc37],(h38.keep (h38.keep (h38.keep (h38.keep (h38.keep (h38.keep (h38.keep (h38.keep h38.nil (t:=6) rfl) (t:=5) rfl) (t:=4) rfl) (t:=3) rfl) (t:=2) rfl) (t:=0) rfl) (t:=1) rfl) (t:=43) rfl)⟩,rfl⟩
    rw[hb] at h36
    have hc39:fc=true:=by simpa using hb
    clear hb;refine St.go h36 ?_;clear h36 a36;refine so hg22 rfl rfl rfl rfl ?_;refine so hg22 rfl rfl rfl rfl ?_;refine so hg22 rfl rfl rfl rfl ?_;refine spf ⟨_,hg18,rfl,rfl⟩ rfl rfl rfl ?_;refine spf trivial rfl rfl rfl ?_;refine sm trivial rfl rfl ?_;refine St.nil fun a40 h40=>?_;exact hKC _ _ ⟨⟨false,by simp[hc35,hc39],(h40.keep (h40.keep (h40.keep (h40.keep (h40.keep (h40.keep (h40.keep (h40.keep h40.nil (t:=6) rfl) (t:=5) rfl) (t:=4) rfl) (t:=3) rfl) (t:=2) rfl) (t:=0) rfl) (t:=1) rfl) (t:=43) rfl)⟩,rfl⟩
   ·clear h32;rintro a41 _ ⟨⟨d3,hdd3,h41⟩,rfl⟩;replace hdd3:Hid _:=hdd3
    refine QfR 10 (fun a' w'=>(∃ d4:Bool,d4=(d3||(!fk&&xk!=0))∧Fr 137 a' [(53,.bool d4),(1,.agg #[.int .i64 xop,.int .i64 xa,.int .i64 xb,.int .i64 xc,.int .i64 xk,.int .i64 xn,.slice ra rl rc,.slice aa al ac]),(0,.agg #[.slice am lm cm]),(2,.pointer (some ⟨B2,0,none⟩)),(3,.pointer (some ⟨B3,0,none⟩)),(4,.int .i64 0),(5,.pointer (some ⟨B10,0,none⟩)),(6,.bool true)])∧w11=w') (fun KC hKC=>?_) ?_
    ·rcases Bool.eq_false_or_eq_true d3 with hb | hb
     ·rw[hb] at h41
      have hc42:=hb;clear hb;refine St.go h41 ?_;clear h41 a41;refine so hg28 rfl rfl rfl rfl ?_;refine so hg28 rfl rfl rfl rfl ?_;refine so hg28 rfl rfl rfl rfl ?_;refine so hg28 rfl rfl rfl rfl ?_;refine so hg32 rfl rfl rfl rfl ?_;refine so hg32 rfl rfl rfl rfl ?_;refine so hg32 rfl rfl rfl rfl ?_;refine so hg28 rfl rfl rfl rfl ?_;refine sp trivial rfl rfl rfl ?_;refine sm trivial rfl rfl ?_;refine St.nil fun a43 h43=>?_;exact hKC _ _ ⟨⟨true,by simp[hc42],(h43.keep (h43.keep (h43.keep (h43.keep (h43.keep (h43.keep (h43.keep (h43.keep h43.nil (t:=6) rfl) (t:=5) rfl) (t:=4) rfl) (t:=3) rfl) (t:=2) rfl) (t:=0) rfl) (t:=1) rfl) (t:=53) rfl)⟩,rfl⟩
     rw[hb] at h41
     have hc44:=hb;clear hb;refine St.go h41 ?_;clear h41 a41;refine Qho ⟨_,hg28,rfl,rfl⟩ rfl rfl ?_;refine Qdd 0 hW11 ⟨_,hg28,rfl,rfl⟩ rfl rfl rfl rfl ?_;refine sn ⟨_,hg28,rfl,rfl⟩ rfl rfl ?_;refine sm ⟨_,hg28,rfl,rfl⟩ rfl rfl ?_;intro a45 h45;rcases Bool.eq_false_or_eq_true (!fk) with hb | hb
     ·rw[hb] at h45
      have hc46:fk=false:=by simpa using hb
      clear hb;refine St.go h45 ?_;clear h45 a45;refine Qck ⟨_,hg32,rfl,rfl⟩ rfl rfl ?_;refine QN 1 hW11 ⟨_,hg32,rfl,rfl⟩ rfl rfl rfl rfl ?_;refine sne ⟨_,hg32,rfl,rfl⟩ rfl rfl rfl ?_;refine sp ⟨_,hg28,rfl,rfl⟩ rfl rfl rfl ?_;refine spf trivial rfl rfl rfl ?_;refine sm trivial rfl rfl ?_;refine St.nil fun a47 h47=>?_;exact hKC _ _ ⟨⟨xk!=0,by simp[hc44,hc46],(h47.keep (h47.keep (h47.keep (h47.keep (h47.keep (h47.keep (h47.keep (h47.keep h47.nil (t:=6) rfl) (t:=5) rfl) (t:=4) rfl) (t:=3) rfl) (t:=2) rfl) (t:=0) rfl) (t:=1) rfl) (t:=53) rfl)⟩,rfl⟩
     rw[hb] at h45
     have hc48:fk=true:=by simpa using hb
     clear hb;refine St.go h45 ?_;clear h45 a45;refine so hg32 rfl rfl rfl rfl ?_;refine so hg32 rfl rfl rfl rfl ?_;refine so hg32 rfl rfl rfl rfl ?_;refine spf ⟨_,hg28,rfl,rfl⟩ rfl rfl rfl ?_;refine spf trivial rfl rfl rfl ?_;refine sm trivial rfl rfl ?_;refine St.nil fun a49 h49=>?_;exact hKC _ _ ⟨⟨false,by simp[hc44,hc48],(h49.keep (h49.keep (h49.keep (h49.keep (h49.keep (h49.keep (h49.keep (h49.keep h49.nil (t:=6) rfl) (t:=5) rfl) (t:=4) rfl) (t:=3) rfl) (t:=2) rfl) (t:=0) rfl) (t:=1) rfl) (t:=53) rfl)⟩,rfl⟩
    ·clear h41;rintro a50 _ ⟨⟨d4,hdd4,h50⟩,rfl⟩;replace hdd4:Hid _:=hdd4
     refine QfR 10 (fun a' w'=>(∃ d5:Bool,d5=(d4||(!fn&&xn!=0))∧Fr 137 a' [(63,.bool d5),(1,.agg #[.int .i64 xop,.int .i64 xa,.int .i64 xb,.int .i64 xc,.int .i64 xk,.int .i64 xn,.slice ra rl rc,.slice aa al ac]),(0,.agg #[.slice am lm cm]),(2,.pointer (some ⟨B2,0,none⟩)),(3,.pointer (some ⟨B3,0,none⟩)),(4,.int .i64 0),(5,.pointer (some ⟨B10,0,none⟩)),(6,.bool true)])∧w11=w') (fun KC hKC=>?_) ?_
     ·rcases Bool.eq_false_or_eq_true d4 with hb | hb
      ·rw[hb] at h50
       have hc51:=hb;clear hb;refine St.go h50 ?_;clear h50 a50;refine so hg38 rfl rfl rfl rfl ?_;refine so hg38 rfl rfl rfl rfl ?_;refine so hg38 rfl rfl rfl rfl ?_;refine so hg38 rfl rfl rfl rfl ?_;refine so hg42 rfl rfl rfl rfl ?_;refine so hg42 rfl rfl rfl rfl ?_;refine so hg42 rfl rfl rfl rfl ?_;refine so hg38 rfl rfl rfl rfl ?_;refine sp trivial rfl rfl rfl ?_;refine sm trivial rfl rfl ?_;refine St.nil fun a52 h52=>?_;exact hKC _ _ ⟨⟨true,by simp[hc51],(h52.keep (h52.keep (h52.keep (h52.keep (h52.keep (h52.keep (h52.keep (h52.keep h52.nil (t:=6) rfl) (t:=5) rfl) (t:=4) rfl) (t:=3) rfl) (t:=2) rfl) (t:=0) rfl) (t:=1) rfl) (t:=63) rfl)⟩,rfl⟩
      rw[hb] at h50
      have hc53:=hb;clear hb;refine St.go h50 ?_;clear h50 a50;refine QhP ⟨_,hg38,rfl,rfl⟩ rfl rfl ?_;refine Qdd 0 hW11 ⟨_,hg38,rfl,rfl⟩ rfl rfl rfl rfl ?_;refine sn ⟨_,hg38,rfl,rfl⟩ rfl rfl ?_;refine sm ⟨_,hg38,rfl,rfl⟩ rfl rfl ?_;intro a54 h54;rcases Bool.eq_false_or_eq_true (!fn) with hb | hb
      ·rw[hb] at h54
       have hc55:fn=false:=by simpa using hb
       clear hb;refine St.go h54 ?_;clear h54 a54;refine Qkv ⟨_,hg42,rfl,rfl⟩ rfl rfl ?_;refine Qk0 1 hW11 ⟨_,hg42,rfl,rfl⟩ rfl rfl rfl rfl ?_;refine QlL ⟨_,hg42,rfl,rfl⟩ rfl rfl rfl ?_;refine sp ⟨_,hg38,rfl,rfl⟩ rfl rfl rfl ?_;refine spf trivial rfl rfl rfl ?_;refine sm trivial rfl rfl ?_;refine St.nil fun a56 h56=>?_;exact hKC _ _ ⟨⟨xn!=0,by simp[hc53,hc55],(h56.keep (h56.keep (h56.keep (h56.keep (h56.keep (h56.keep (h56.keep (h56.keep h56.nil (t:=6) rfl) (t:=5) rfl) (t:=4) rfl) (t:=3) rfl) (t:=2) rfl) (t:=0) rfl) (t:=1) rfl) (t:=63) rfl)⟩,rfl⟩
      rw[hb] at h54
      have hc57:fn=true:=by simpa using hb
      clear hb;refine St.go h54 ?_;clear h54 a54;refine so hg42 rfl rfl rfl rfl ?_;refine so hg42 rfl rfl rfl rfl ?_;refine so hg42 rfl rfl rfl rfl ?_;refine spf ⟨_,hg38,rfl,rfl⟩ rfl rfl rfl ?_;refine spf trivial rfl rfl rfl ?_;refine sm trivial rfl rfl ?_;refine St.nil fun a58 h58=>?_;exact hKC _ _ ⟨⟨false,by simp[hc53,hc57],(h58.keep (h58.keep (h58.keep (h58.keep (h58.keep (h58.keep (h58.keep (h58.keep h58.nil (t:=6) rfl) (t:=5) rfl) (t:=4) rfl) (t:=3) rfl) (t:=2) rfl) (t:=0) rfl) (t:=1) rfl) (t:=63) rfl)⟩,rfl⟩
     ·clear h50;rintro a59 _ ⟨⟨d5,hdd5,h59⟩,rfl⟩;replace hdd5:Hid _:=hdd5
      refine QfR 11 (fun a' w'=>(∃ d6:Bool,d6=(d5||(!fr&&decide ((0:Int)<(rl:Int))))∧Fr 137 a' [(74,.bool d6),(1,.agg #[.int .i64 xop,.int .i64 xa,.int .i64 xb,.int .i64 xc,.int .i64 xk,.int .i64 xn,.slice ra rl rc,.slice aa al ac]),(0,.agg #[.slice am lm cm]),(2,.pointer (some ⟨B2,0,none⟩)),(3,.pointer (some ⟨B3,0,none⟩)),(4,.int .i64 0),(5,.pointer (some ⟨B10,0,none⟩)),(6,.bool true)])∧w11=w') (fun KC hKC=>?_) ?_
      ·rcases Bool.eq_false_or_eq_true d5 with hb | hb
       ·rw[hb] at h59
        have hc60:=hb;clear hb;refine St.go h59 ?_;clear h59 a59;refine so hg48 rfl rfl rfl rfl ?_;refine so hg48 rfl rfl rfl rfl ?_;refine so hg48 rfl rfl rfl rfl ?_;refine so hg48 rfl rfl rfl rfl ?_;refine so hg52 rfl rfl rfl rfl ?_;refine so hg52 rfl rfl rfl rfl ?_;refine so hg52 rfl rfl rfl rfl ?_;refine so hg52 rfl rfl rfl rfl ?_;refine so hg48 rfl rfl rfl rfl ?_;refine sp trivial rfl rfl rfl ?_;refine sm trivial rfl rfl ?_;refine St.nil fun a61 h61=>?_;exact hKC _ _ ⟨⟨true,by simp[hc60],(h61.keep (h61.keep (h61.keep (h61.keep (h61.keep (h61.keep (h61.keep (h61.keep h61.nil (t:=6) rfl) (t:=5) rfl) (t:=4) rfl) (t:=3) rfl) (t:=2) rfl) (t:=0) rfl) (t:=1) rfl) (t:=74) rfl)⟩,rfl⟩
       rw[hb] at h59
       have hc62:=hb;clear hb;refine St.go h59 ?_;clear h59 a59;refine Qh9 ⟨_,hg48,rfl,rfl⟩ rfl rfl ?_;refine Qdd 0 hW11 ⟨_,hg48,rfl,rfl⟩ rfl rfl rfl rfl ?_;refine sn ⟨_,hg48,rfl,rfl⟩ rfl rfl ?_;refine sm ⟨_,hg48,rfl,rfl⟩ rfl rfl ?_;intro a63 h63;rcases Bool.eq_false_or_eq_true (!fr) with hb | hb
       ·rw[hb] at h63
        have hc64:fr=false:=by simpa using hb
        clear hb;refine St.go h63 ?_;clear h63 a63;refine QhD ⟨_,hg52,rfl,rfl⟩ rfl rfl ?_;refine Z0 1 hW11 ⟨_,hg52,rfl,rfl⟩ rfl rfl rfl rfl ?_;refine ZJ ⟨_,hg52,rfl,rfl⟩ rfl rfl ?_;refine sgt ⟨_,hg52,rfl,rfl⟩ rfl rfl rfl ?_;refine sp ⟨_,hg48,rfl,rfl⟩ rfl rfl rfl ?_;refine spf trivial rfl rfl rfl ?_;refine sm trivial rfl rfl ?_;refine St.nil fun a65 h65=>?_;exact hKC _ _ ⟨⟨decide (0<(rl:Int)),by simp[hc62,hc64],(h65.keep (h65.keep (h65.keep (h65.keep (h65.keep (h65.keep (h65.keep (h65.keep h65.nil (t:=6) rfl) (t:=5) rfl) (t:=4) rfl) (t:=3) rfl) (t:=2) rfl) (t:=0) rfl) (t:=1) rfl) (t:=74) rfl)⟩,rfl⟩
       rw[hb] at h63
       have hc66:fr=true:=by simpa using hb
       clear hb;refine St.go h63 ?_;clear h63 a63;refine so hg52 rfl rfl rfl rfl ?_;refine so hg52 rfl rfl rfl rfl ?_;refine so hg52 rfl rfl rfl rfl ?_;refine so hg52 rfl rfl rfl rfl ?_;refine spf ⟨_,hg48,rfl,rfl⟩ rfl rfl rfl ?_;refine spf trivial rfl rfl rfl ?_;refine sm trivial rfl rfl ?_;refine St.nil fun a67 h67=>?_;exact hKC _ _ ⟨⟨false,by simp[hc62,hc66],(h67.keep (h67.keep (h67.keep (h67.keep (h67.keep (h67.keep (h67.keep (h67.keep h67.nil (t:=6) rfl) (t:=5) rfl) (t:=4) rfl) (t:=3) rfl) (t:=2) rfl) (t:=0) rfl) (t:=1) rfl) (t:=74) rfl)⟩,rfl⟩
      ·clear h59;rintro a68 _ ⟨⟨d6,hdd6,h68⟩,rfl⟩;replace hdd6:Hid _:=hdd6
       refine QfR 10 (fun a' w'=>(∃ d7:Bool,d7=(d6||(!fs&&decide ((0:Int)<(al:Int))))∧Fr 137 a' [(84,.bool d7),(1,.agg #[.int .i64 xop,.int .i64 xa,.int .i64 xb,.int .i64 xc,.int .i64 xk,.int .i64 xn,.slice ra rl rc,.slice aa al ac]),(0,.agg #[.slice am lm cm]),(2,.pointer (some ⟨B2,0,none⟩)),(3,.pointer (some ⟨B3,0,none⟩)),(4,.int .i64 0),(5,.pointer (some ⟨B10,0,none⟩)),(6,.bool true)])∧w11=w') (fun KC hKC=>?_) ?_
       ·rcases Bool.eq_false_or_eq_true d6 with hb | hb
        ·rw[hb] at h68
         have hc69:=hb;clear hb;refine St.go h68 ?_;clear h68 a68;refine so hg59 rfl rfl rfl rfl ?_;refine so hg59 rfl rfl rfl rfl ?_;refine so hg59 rfl rfl rfl rfl ?_;refine so hg59 rfl rfl rfl rfl ?_;refine so hg63 rfl rfl rfl rfl ?_;refine so hg63 rfl rfl rfl rfl ?_;refine so hg63 rfl rfl rfl rfl ?_;refine so hg63 rfl rfl rfl rfl ?_;refine so hg59 rfl rfl rfl rfl ?_;refine sp trivial rfl rfl rfl ?_;refine St.nil fun a70 h70=>?_;exact hKC _ _ ⟨⟨true,by simp[hc69],(h70.keep (h70.keep (h70.keep (h70.keep (h70.keep (h70.keep (h70.keep (h70.keep h70.nil (t:=6) rfl) (t:=5) rfl) (t:=4) rfl) (t:=3) rfl) (t:=2) rfl) (t:=0) rfl) (t:=1) rfl) (t:=84) rfl)⟩,rfl⟩
        rw[hb] at h68
        have hc71:=hb;clear hb;refine St.go h68 ?_;clear h68 a68;refine Qh6 ⟨_,hg59,rfl,rfl⟩ rfl rfl ?_;refine Qdd 0 hW11 ⟨_,hg59,rfl,rfl⟩ rfl rfl rfl rfl ?_;refine sn ⟨_,hg59,rfl,rfl⟩ rfl rfl ?_;refine sm ⟨_,hg59,rfl,rfl⟩ rfl rfl ?_;intro a72 h72;rcases Bool.eq_false_or_eq_true (!fs) with hb | hb
        ·rw[hb] at h72
         have hc73:fs=false:=by simpa using hb
         clear hb;refine St.go h72 ?_;clear h72 a72;refine QeR ⟨_,hg63,rfl,rfl⟩ rfl rfl ?_;refine Z0 1 hW11 ⟨_,hg63,rfl,rfl⟩ rfl rfl rfl rfl ?_;refine ZJ ⟨_,hg63,rfl,rfl⟩ rfl rfl ?_;refine sgt ⟨_,hg63,rfl,rfl⟩ rfl rfl rfl ?_;refine sp ⟨_,hg59,rfl,rfl⟩ rfl rfl rfl ?_;refine spf trivial rfl rfl rfl ?_;refine St.nil fun a74 h74=>?_;exact hKC _ _ ⟨⟨decide (0<(al:Int)),by simp[hc71,hc73],(h74.keep (h74.keep (h74.keep (h74.keep (h74.keep (h74.keep (h74.keep (h74.keep h74.nil (t:=6) rfl) (t:=5) rfl) (t:=4) rfl) (t:=3) rfl) (t:=2) rfl) (t:=0) rfl) (t:=1) rfl) (t:=84) rfl)⟩,rfl⟩
        rw[hb] at h72
        have hc75:fs=true:=by simpa using hb
        clear hb;refine St.go h72 ?_;clear h72 a72;refine so hg63 rfl rfl rfl rfl ?_;refine so hg63 rfl rfl rfl rfl ?_;refine so hg63 rfl rfl rfl rfl ?_;refine so hg63 rfl rfl rfl rfl ?_;refine spf ⟨_,hg59,rfl,rfl⟩ rfl rfl rfl ?_;refine spf trivial rfl rfl rfl ?_;refine St.nil fun a76 h76=>?_;exact hKC _ _ ⟨⟨false,by simp[hc71,hc75],(h76.keep (h76.keep (h76.keep (h76.keep (h76.keep (h76.keep (h76.keep (h76.keep h76.nil (t:=6) rfl) (t:=5) rfl) (t:=4) rfl) (t:=3) rfl) (t:=2) rfl) (t:=0) rfl) (t:=1) rfl) (t:=84) rfl)⟩,rfl⟩
       ·clear h68;rintro a77 _ ⟨⟨d7,hdd7,h77⟩,rfl⟩;replace hdd7:Hid _:=hdd7
        refine wpList_nil ?_;refine hK17 _ _ ?_;refine Qg (t:=84) h77 rfl (fun hb=>?_) (fun hb=>?_)
        ·have hc78:=hb
         clear hb;refine wp_seq_k fun K79 hK79=>?_;refine rg h77 fun ops=>?_;clear h77 a77;refine sa trivial rfl rfl ?_;refine St.nil fun a80 h80=>?_;refine hK79 _ _ ?_;refine wp_ret ?_;with_reducible repeat first | refine Qd ?_ | refine Qc ?_
         have e7:=Q0 hop hdd1.out hdd2.out hdd3.out hdd4.out hdd5.out hdd6.out hdd7.out (lm:=lm);have R:QX lm xop xa xb xc xk xn rl al=4:=by rw[e7];simp[hc78]
         exact Qf (t:=4) h80 rfl rfl ⟨by rw[R],hW11.bel⟩
        have hc81:=hb;clear hb;refine wp_skip ?_;refine hK16 _ _ ?_;refine wp_seq_k fun K82 hK82=>?_;refine wp_seq_k fun K83 hK83=>?_;refine rg h77 fun ops=>?_;clear h77 a77;refine Qid trivial rfl rfl ?_;refine QN 1 hW11 trivial rfl rfl rfl rfl ?_;refine St.nil fun a84 h84=>?_;refine hK83 _ _ ?_;refine wp_block ?_;refine wp_seq_k fun K85 hK85=>?_;refine rg h84 fun ops=>?_;clear h84 a84;refine seq trivial rfl rfl rfl ?_;refine sa trivial rfl rfl ?_;refine St.nil fun a86 h86=>?_;refine hK85 _ _ ?_;refine Qg (t:=87) h86 rfl (fun hb=>?_) (fun hb=>?_)
        ·have h9:xop=2:=eq_of_beq hb
         have hc87:Hid (xop=2):=h9;clear h9;clear hb;refine wp_seq_k fun K88 hK88=>?_;refine Qz ?_;intro ops hops;have hg3:(ops[3]?).bind (fun o:Oper=>o.dst)=some 92:=hops 3;clear hops;refine St.go h86 ?_;clear h86 a86;refine Qck trivial rfl rfl ?_;refine QN 1 hW11 trivial rfl rfl rfl rfl ?_;refine slt trivial rfl rfl rfl ?_;refine sm trivial rfl rfl ?_;intro a89 h89;rcases Bool.eq_false_or_eq_true (decide (xk<1)) with hb | hb
         ·rw[hb] at h89
          have hc90:xk<1:=of_decide_eq_true hb;clear hb;refine St.go h89 ?_;clear h89 a89;refine so hg3 rfl rfl rfl rfl ?_;refine so hg3 rfl rfl rfl rfl ?_;refine so hg3 rfl rfl rfl rfl ?_;refine sp trivial rfl rfl rfl ?_;refine St.nil fun a91 h91=>?_;refine hK88 _ _ ?_;refine QU (t:=96) h91 rfl ?_;refine wp_seq_k fun K92 hK92=>?_;refine rg h91 fun ops=>?_;clear h91 a91;refine sa trivial rfl rfl ?_;refine St.nil fun a93 h93=>?_;refine hK92 _ _ ?_;refine wp_ret ?_;with_reducible repeat first | refine Qd ?_ | refine Qc ?_
          have e7:=Q0 hop hdd1.out hdd2.out hdd3.out hdd4.out hdd5.out hdd6.out hdd7.out (lm:=lm);have R:QX lm xop xa xb xc xk xn rl al=1:=by rw[e7];simp[hc81,hc87.out,hc90]
          exact Qf (t:=4) h93 rfl rfl ⟨by rw[R],hW11.bel⟩
         rw[hb] at h89
         have hc94:¬ (xk<1):=of_decide_eq_false hb;clear hb;refine St.go h89 ?_;clear h89 a89;refine Qck ⟨_,hg3,rfl,rfl⟩ rfl rfl ?_;refine QN 1 hW11 ⟨_,hg3,rfl,rfl⟩ rfl rfl rfl rfl ?_;refine sgt ⟨_,hg3,rfl,rfl⟩ rfl rfl rfl ?_;refine spf trivial rfl rfl rfl ?_;refine St.nil fun a95 h95=>?_;refine hK88 _ _ ?_;refine Qg (t:=96) h95 rfl (fun hb=>?_) (fun hb=>?_)
         ·have hc96:9<xk:=of_decide_eq_true hb
          clear hb;refine wp_seq_k fun K97 hK97=>?_;refine rg h95 fun ops=>?_;clear h95 a95;refine sa trivial rfl rfl ?_;refine St.nil fun a98 h98=>?_;refine hK97 _ _ ?_;refine wp_ret ?_;with_reducible repeat first | refine Qd ?_ | refine Qc ?_
          have e7:=Q0 hop hdd1.out hdd2.out hdd3.out hdd4.out hdd5.out hdd6.out hdd7.out (lm:=lm);have R:QX lm xop xa xb xc xk xn rl al=1:=by rw[e7];simp[hc81,hc87.out,hc94,hc96]
          exact Qf (t:=4) h98 rfl rfl ⟨by rw[R],hW11.bel⟩
         have hc99:¬ (9<xk):=of_decide_eq_false hb;clear hb;refine wp_skip ?_;refine hK82 _ _ ?_;refine wp_seq_k fun K100 hK100=>?_;refine rg h95 fun ops=>?_;clear h95 a95;refine sa trivial rfl rfl ?_;refine St.nil fun a101 h101=>?_;refine hK100 _ _ ?_;refine wp_ret ?_;with_reducible repeat first | refine Qd ?_ | refine Qc ?_
         have e7:=Q0 hop hdd1.out hdd2.out hdd3.out hdd4.out hdd5.out hdd6.out hdd7.out (lm:=lm);have R:QX lm xop xa xb xc xk xn rl al=0:=by rw[e7];simp[hc81,hc87.out,hc94,hc99]
         exact Qf (t:=4) h101 rfl rfl ⟨by rw[R],hW11.bel⟩
        have h9:¬ xop=2:=ne_of_beq_false hb;have hc102:¬ xop=2:=h9;clear h9;clear hb;refine wp_seq_k fun K103 hK103=>?_;refine rg h86 fun ops=>?_;clear h86 a86;refine seq trivial rfl rfl rfl ?_;refine sa trivial rfl rfl ?_;refine St.nil fun a104 h104=>?_;refine hK103 _ _ ?_;refine Qg (t:=97) h104 rfl (fun hb=>?_) (fun hb=>?_)
        ·have h9:xop=5:=eq_of_beq hb
         have hc105:Hid (xop=5):=h9;clear h9;clear hb;refine wp_seq_k fun K106 hK106=>?_;refine rg h104 fun ops=>?_;clear h104 a104;refine QeR trivial rfl rfl ?_;refine Z0 1 hW11 trivial rfl rfl rfl rfl ?_;refine ZJ trivial rfl rfl ?_;refine sgt trivial rfl rfl rfl ?_;refine St.nil fun a107 h107=>?_;refine hK106 _ _ ?_;refine Qg (t:=102) h107 rfl (fun hb=>?_) (fun hb=>?_)
         ·have hc108:8<al:=by have:=of_decide_eq_true hb;omega
          clear hb;refine wp_seq_k fun K109 hK109=>?_;refine rg h107 fun ops=>?_;clear h107 a107;refine sa trivial rfl rfl ?_;refine St.nil fun a110 h110=>?_;refine hK109 _ _ ?_;refine wp_ret ?_;with_reducible repeat first | refine Qd ?_ | refine Qc ?_
          have e7:=Q0 hop hdd1.out hdd2.out hdd3.out hdd4.out hdd5.out hdd6.out hdd7.out (lm:=lm);have R:QX lm xop xa xb xc xk xn rl al=2:=by rw[e7];simp[hc81,hc102,hc105.out,hc108]
          exact Qf (t:=4) h110 rfl rfl ⟨by rw[R],hW11.bel⟩
         have hc111:¬ (8<al):=by have:=of_decide_eq_false hb;omega
         clear hb;refine wp_skip ?_;refine hK82 _ _ ?_;refine wp_seq_k fun K112 hK112=>?_;refine rg h107 fun ops=>?_;clear h107 a107;refine sa trivial rfl rfl ?_;refine St.nil fun a113 h113=>?_;refine hK112 _ _ ?_;refine wp_ret ?_;with_reducible repeat first | refine Qd ?_ | refine Qc ?_
         have e7:=Q0 hop hdd1.out hdd2.out hdd3.out hdd4.out hdd5.out hdd6.out hdd7.out (lm:=lm);have R:QX lm xop xa xb xc xk xn rl al=0:=by rw[e7];simp[hc81,hc102,hc105.out,hc111]
         exact Qf (t:=4) h113 rfl rfl ⟨by rw[R],hW11.bel⟩
        have h9:¬ xop=5:=ne_of_beq_false hb;have hc114:¬ xop=5:=h9;clear h9;clear hb;refine wp_seq_k fun K115 hK115=>?_;refine wp_seq_k fun K116 hK116=>?_;refine rg h104 fun ops=>?_;clear h104 a104;refine seq trivial rfl rfl rfl ?_;refine sa trivial rfl rfl ?_;refine St.nil fun a117 h117=>?_;refine hK116 _ _ ?_;refine Qg (t:=103) h117 rfl (fun hb=>?_) (fun hb=>?_)
        ·rw[hb] at h117
         have h9:xop=6:=eq_of_beq hb;have hc118:Hid (xop=6):=h9;clear h9;clear hb;refine wp_skip ?_;refine hK115 _ _ ?_;refine QU (t:=103) h117 rfl ?_;refine wp_seq_k fun K119 hK119=>?_;refine Qz ?_;intro ops hops;have hg3:(ops[3]?).bind (fun o:Oper=>o.dst)=some 109:=hops 3;clear hops;refine St.go h117 ?_;clear h117 a117;refine Qck trivial rfl rfl ?_;refine QN 1 hW11 trivial rfl rfl rfl rfl ?_;refine slt trivial rfl rfl rfl ?_;refine sm trivial rfl rfl ?_;intro a120 h120;rcases Bool.eq_false_or_eq_true (decide (xk<0)) with hb | hb
         ·rw[hb] at h120
          have hc121:xk<0:=of_decide_eq_true hb;clear hb;refine St.go h120 ?_;clear h120 a120;refine so hg3 rfl rfl rfl rfl ?_;refine so hg3 rfl rfl rfl rfl ?_;refine so hg3 rfl rfl rfl rfl ?_;refine sp trivial rfl rfl rfl ?_;refine St.nil fun a122 h122=>?_;refine hK119 _ _ ?_;refine QU (t:=113) h122 rfl ?_;refine wp_seq_k fun K123 hK123=>?_;refine rg h122 fun ops=>?_;clear h122 a122;refine sa trivial rfl rfl ?_;refine St.nil fun a124 h124=>?_;refine hK123 _ _ ?_;refine wp_ret ?_;with_reducible repeat first | refine Qd ?_ | refine Qc ?_
          have e7:=Q0 hop hdd1.out hdd2.out hdd3.out hdd4.out hdd5.out hdd6.out hdd7.out (lm:=lm);have R:QX lm xop xa xb xc xk xn rl al=1:=by rw[e7];simp[hc81,hc102,hc114,hc118.out,hc121]
          exact Qf (t:=4) h124 rfl rfl ⟨by rw[R],hW11.bel⟩
         rw[hb] at h120
         have hc125:¬ (xk<0):=of_decide_eq_false hb;clear hb;refine St.go h120 ?_;clear h120 a120;refine Qck ⟨_,hg3,rfl,rfl⟩ rfl rfl ?_;refine QN 1 hW11 ⟨_,hg3,rfl,rfl⟩ rfl rfl rfl rfl ?_;refine sgt ⟨_,hg3,rfl,rfl⟩ rfl rfl rfl ?_;refine spf trivial rfl rfl rfl ?_;refine St.nil fun a126 h126=>?_;refine hK119 _ _ ?_;refine Qg (t:=113) h126 rfl (fun hb=>?_) (fun hb=>?_)
         ·have hc127:7<xk:=of_decide_eq_true hb
          clear hb;refine wp_seq_k fun K128 hK128=>?_;refine rg h126 fun ops=>?_;clear h126 a126;refine sa trivial rfl rfl ?_;refine St.nil fun a129 h129=>?_;refine hK128 _ _ ?_;refine wp_ret ?_;with_reducible repeat first | refine Qd ?_ | refine Qc ?_
          have e7:=Q0 hop hdd1.out hdd2.out hdd3.out hdd4.out hdd5.out hdd6.out hdd7.out (lm:=lm);have R:QX lm xop xa xb xc xk xn rl al=1:=by rw[e7];simp[hc81,hc102,hc114,hc118.out,hc125,hc127]
          exact Qf (t:=4) h129 rfl rfl ⟨by rw[R],hW11.bel⟩
         have hc130:¬ (7<xk):=of_decide_eq_false hb;clear hb;refine wp_skip ?_;refine hK82 _ _ ?_;refine wp_seq_k fun K131 hK131=>?_;refine rg h126 fun ops=>?_;clear h126 a126;refine sa trivial rfl rfl ?_;refine St.nil fun a132 h132=>?_;refine hK131 _ _ ?_;refine wp_ret ?_;with_reducible repeat first | refine Qd ?_ | refine Qc ?_
         have e7:=Q0 hop hdd1.out hdd2.out hdd3.out hdd4.out hdd5.out hdd6.out hdd7.out (lm:=lm);have R:QX lm xop xa xb xc xk xn rl al=0:=by rw[e7];simp[hc81,hc102,hc114,hc118.out,hc125,hc130]
         exact Qf (t:=4) h132 rfl rfl ⟨by rw[R],hW11.bel⟩
        rw[hb] at h117
        have h9:¬ xop=6:=ne_of_beq_false hb;have hc133:¬ xop=6:=h9;clear h9;clear hb;refine rg h117 fun ops=>?_;clear h117 a117;refine seq trivial rfl rfl rfl ?_;refine sa trivial rfl rfl ?_;refine St.nil fun a134 h134=>?_;refine hK115 _ _ ?_;refine Qg (t:=103) h134 rfl (fun hb=>?_) (fun hb=>?_)
        ·rw[hb] at h134
         have h9:xop=7:=eq_of_beq hb;have hc135:Hid (xop=7):=h9;clear h9;clear hb;refine wp_seq_k fun K136 hK136=>?_;refine Qz ?_;intro ops hops;have hg3:(ops[3]?).bind (fun o:Oper=>o.dst)=some 109:=hops 3;clear hops;refine St.go h134 ?_;clear h134 a134;refine Qck trivial rfl rfl ?_;refine QN 1 hW11 trivial rfl rfl rfl rfl ?_;refine slt trivial rfl rfl rfl ?_;refine sm trivial rfl rfl ?_;intro a137 h137;rcases Bool.eq_false_or_eq_true (decide (xk<0)) with hb | hb
         ·rw[hb] at h137
          have hc138:xk<0:=of_decide_eq_true hb;clear hb;refine St.go h137 ?_;clear h137 a137;refine so hg3 rfl rfl rfl rfl ?_;refine so hg3 rfl rfl rfl rfl ?_;refine so hg3 rfl rfl rfl rfl ?_;refine sp trivial rfl rfl rfl ?_;refine St.nil fun a139 h139=>?_;refine hK136 _ _ ?_;refine QU (t:=113) h139 rfl ?_;refine wp_seq_k fun K140 hK140=>?_;refine rg h139 fun ops=>?_;clear h139 a139;refine sa trivial rfl rfl ?_;refine St.nil fun a141 h141=>?_;refine hK140 _ _ ?_;refine wp_ret ?_;with_reducible repeat first | refine Qd ?_ | refine Qc ?_
          have e7:=Q0 hop hdd1.out hdd2.out hdd3.out hdd4.out hdd5.out hdd6.out hdd7.out (lm:=lm);have R:QX lm xop xa xb xc xk xn rl al=1:=by rw[e7];simp[hc81,hc102,hc114,hc133,hc135.out,hc138]
          exact Qf (t:=4) h141 rfl rfl ⟨by rw[R],hW11.bel⟩
         rw[hb] at h137
         have hc142:¬ (xk<0):=of_decide_eq_false hb;clear hb;refine St.go h137 ?_;clear h137 a137;refine Qck ⟨_,hg3,rfl,rfl⟩ rfl rfl ?_;refine QN 1 hW11 ⟨_,hg3,rfl,rfl⟩ rfl rfl rfl rfl ?_;refine sgt ⟨_,hg3,rfl,rfl⟩ rfl rfl rfl ?_;refine spf trivial rfl rfl rfl ?_;refine St.nil fun a143 h143=>?_;refine hK136 _ _ ?_;refine Qg (t:=113) h143 rfl (fun hb=>?_) (fun hb=>?_)
         ·have hc144:7<xk:=of_decide_eq_true hb
          clear hb;refine wp_seq_k fun K145 hK145=>?_;refine rg h143 fun ops=>?_;clear h143 a143;refine sa trivial rfl rfl ?_;refine St.nil fun a146 h146=>?_;refine hK145 _ _ ?_;refine wp_ret ?_;with_reducible repeat first | refine Qd ?_ | refine Qc ?_
          have e7:=Q0 hop hdd1.out hdd2.out hdd3.out hdd4.out hdd5.out hdd6.out hdd7.out (lm:=lm);have R:QX lm xop xa xb xc xk xn rl al=1:=by rw[e7];simp[hc81,hc102,hc114,hc133,hc135.out,hc142,hc144]
          exact Qf (t:=4) h146 rfl rfl ⟨by rw[R],hW11.bel⟩
         have hc147:¬ (7<xk):=of_decide_eq_false hb;clear hb;refine wp_skip ?_;refine hK82 _ _ ?_;refine wp_seq_k fun K148 hK148=>?_;refine rg h143 fun ops=>?_;clear h143 a143;refine sa trivial rfl rfl ?_;refine St.nil fun a149 h149=>?_;refine hK148 _ _ ?_;refine wp_ret ?_;with_reducible repeat first | refine Qd ?_ | refine Qc ?_
         have e7:=Q0 hop hdd1.out hdd2.out hdd3.out hdd4.out hdd5.out hdd6.out hdd7.out (lm:=lm);have R:QX lm xop xa xb xc xk xn rl al=0:=by rw[e7];simp[hc81,hc102,hc114,hc133,hc135.out,hc142,hc147]
         exact Qf (t:=4) h149 rfl rfl ⟨by rw[R],hW11.bel⟩
        rw[hb] at h134
        have h9:¬ xop=7:=ne_of_beq_false hb;have hc150:¬ xop=7:=h9;clear h9;clear hb;refine wp_seq_k fun K151 hK151=>?_;refine rg h134 fun ops=>?_;clear h134 a134;refine seq trivial rfl rfl rfl ?_;refine sa trivial rfl rfl ?_;refine St.nil fun a152 h152=>?_;refine hK151 _ _ ?_;refine Qg (t:=114) h152 rfl (fun hb=>?_) (fun hb=>?_)
        ·have h9:xop=14:=eq_of_beq hb
         have hc153:Hid (xop=14):=h9;clear h9;clear hb;refine wp_seq_k fun K154 hK154=>?_;refine wp_seq_k fun K155 hK155=>?_;refine Qz ?_;intro ops hops;have hg3:(ops[3]?).bind (fun o:Oper=>o.dst)=some 119:=hops 3;clear hops;refine St.go h152 ?_;clear h152 a152;refine Qck trivial rfl rfl ?_;refine QN 1 hW11 trivial rfl rfl rfl rfl ?_;refine slt trivial rfl rfl rfl ?_;refine sm trivial rfl rfl ?_;intro a156 h156;rcases Bool.eq_false_or_eq_true (decide (xk<0)) with hb | hb
         ·rw[hb] at h156
          have hc157:xk<0:=of_decide_eq_true hb;clear hb;refine St.go h156 ?_;clear h156 a156;refine so hg3 rfl rfl rfl rfl ?_;refine so hg3 rfl rfl rfl rfl ?_;refine so hg3 rfl rfl rfl rfl ?_;refine so hg3 rfl rfl rfl rfl ?_;refine so hg3 rfl rfl rfl rfl ?_;refine so hg3 rfl rfl rfl rfl ?_;refine sp trivial rfl rfl rfl ?_;refine St.nil fun a158 h158=>?_;refine hK155 _ _ ?_;refine QU (t:=126) h158 rfl ?_;refine wp_seq_k fun K159 hK159=>?_;refine rg h158 fun ops=>?_;clear h158 a158;refine sa trivial rfl rfl ?_;refine St.nil fun a160 h160=>?_;refine hK159 _ _ ?_;refine wp_ret ?_;with_reducible repeat first | refine Qd ?_ | refine Qc ?_
          have e7:=Q0 hop hdd1.out hdd2.out hdd3.out hdd4.out hdd5.out hdd6.out hdd7.out (lm:=lm);have R:QX lm xop xa xb xc xk xn rl al=1:=by rw[e7];simp[hc81,hc102,hc114,hc133,hc150,hc153.out,hc157]
          exact Qf (t:=4) h160 rfl rfl ⟨by rw[R],hW11.bel⟩
         rw[hb] at h156
         have hc161:¬ (xk<0):=of_decide_eq_false hb;clear hb;refine St.go h156 ?_;clear h156 a156;refine Qck ⟨_,hg3,rfl,rfl⟩ rfl rfl ?_;refine QN 1 hW11 ⟨_,hg3,rfl,rfl⟩ rfl rfl rfl rfl ?_;refine Zq ⟨_,hg3,rfl,rfl⟩ rfl rfl ?_;refine Qai 2 hW11 ⟨_,hg3,rfl,rfl⟩ rfl rfl rfl rfl ?_;refine QaA ⟨_,hg3,rfl,rfl⟩ rfl rfl ?_;refine sge ⟨_,hg3,rfl,rfl⟩ rfl rfl rfl ?_;refine spf trivial rfl rfl rfl ?_;refine St.nil fun a162 h162=>?_;refine hK155 _ _ ?_;refine Qg (t:=126) h162 rfl (fun hb=>?_) (fun hb=>?_)
         ·have hc163:(lm:Int)≤xk:=of_decide_eq_true hb
          clear hb;refine wp_seq_k fun K164 hK164=>?_;refine rg h162 fun ops=>?_;clear h162 a162;refine sa trivial rfl rfl ?_;refine St.nil fun a165 h165=>?_;refine hK164 _ _ ?_;refine wp_ret ?_;with_reducible repeat first | refine Qd ?_ | refine Qc ?_
          have e7:=Q0 hop hdd1.out hdd2.out hdd3.out hdd4.out hdd5.out hdd6.out hdd7.out (lm:=lm);have R:QX lm xop xa xb xc xk xn rl al=1:=by rw[e7];simp[hc81,hc102,hc114,hc133,hc150,hc153.out,hc161,hc163]
          exact Qf (t:=4) h165 rfl rfl ⟨by rw[R],hW11.bel⟩
         have hc166:¬ ((lm:Int)≤xk):=of_decide_eq_false hb;clear hb;refine wp_skip ?_;refine hK154 _ _ ?_;refine wp_seq_k fun K167 hK167=>?_;refine Qz ?_;intro ops hops;have hg4:(ops[4]?).bind (fun o:Oper=>o.dst)=some 131:=hops 4;clear hops;refine St.go h162 ?_;clear h162 a162;refine QhD trivial rfl rfl ?_;refine Z0 1 hW11 trivial rfl rfl rfl rfl ?_;refine ZJ trivial rfl rfl ?_;refine sgt trivial rfl rfl rfl ?_;refine sm trivial rfl rfl ?_;intro a168 h168;rcases Bool.eq_false_or_eq_true (decide (6<(rl:Int))) with hb | hb
         ·rw[hb] at h168
          have hc169:6<rl:=by have:=of_decide_eq_true hb;omega
          clear hb;refine St.go h168 ?_;clear h168 a168;refine so hg4 rfl rfl rfl rfl ?_;refine so hg4 rfl rfl rfl rfl ?_;refine so hg4 rfl rfl rfl rfl ?_;refine so hg4 rfl rfl rfl rfl ?_;refine sp trivial rfl rfl rfl ?_;refine St.nil fun a170 h170=>?_;refine hK167 _ _ ?_;refine QU (t:=136) h170 rfl ?_;refine wp_seq_k fun K171 hK171=>?_;refine rg h170 fun ops=>?_;clear h170 a170;refine sa trivial rfl rfl ?_;refine St.nil fun a172 h172=>?_;refine hK171 _ _ ?_;refine wp_ret ?_;with_reducible repeat first | refine Qd ?_ | refine Qc ?_
          have e7:=Q0 hop hdd1.out hdd2.out hdd3.out hdd4.out hdd5.out hdd6.out hdd7.out (lm:=lm);have R:QX lm xop xa xb xc xk xn rl al=2:=by rw[e7];simp[hc81,hc102,hc114,hc133,hc150,hc153.out,hc161,hc166,hc169]
          exact Qf (t:=4) h172 rfl rfl ⟨by rw[R],hW11.bel⟩
         rw[hb] at h168
         have hc173:¬ (6<rl):=by have:=of_decide_eq_false hb;omega
         clear hb;refine St.go h168 ?_;clear h168 a168;refine QeR ⟨_,hg4,rfl,rfl⟩ rfl rfl ?_;refine Z0 1 hW11 ⟨_,hg4,rfl,rfl⟩ rfl rfl rfl rfl ?_;refine ZJ ⟨_,hg4,rfl,rfl⟩ rfl rfl ?_;refine sgt ⟨_,hg4,rfl,rfl⟩ rfl rfl rfl ?_;refine spf trivial rfl rfl rfl ?_;refine St.nil fun a174 h174=>?_;refine hK167 _ _ ?_;refine Qg (t:=136) h174 rfl (fun hb=>?_) (fun hb=>?_)
         ·have hc175:8<al:=by have:=of_decide_eq_true hb;omega
          clear hb;refine wp_seq_k fun K176 hK176=>?_;refine rg h174 fun ops=>?_;clear h174 a174;refine sa trivial rfl rfl ?_;refine St.nil fun a177 h177=>?_;refine hK176 _ _ ?_;refine wp_ret ?_;with_reducible repeat first | refine Qd ?_ | refine Qc ?_
          have e7:=Q0 hop hdd1.out hdd2.out hdd3.out hdd4.out hdd5.out hdd6.out hdd7.out (lm:=lm);have R:QX lm xop xa xb xc xk xn rl al=2:=by rw[e7];simp[hc81,hc102,hc114,hc133,hc150,hc153.out,hc161,hc166,hc173,hc175]
          exact Qf (t:=4) h177 rfl rfl ⟨by rw[R],hW11.bel⟩
         have hc178:¬ (8<al):=by have:=of_decide_eq_false hb;omega
         clear hb;refine wp_skip ?_;refine hK82 _ _ ?_;refine wp_seq_k fun K179 hK179=>?_;refine rg h174 fun ops=>?_;clear h174 a174;refine sa trivial rfl rfl ?_;refine St.nil fun a180 h180=>?_;refine hK179 _ _ ?_;refine wp_ret ?_;with_reducible repeat first | refine Qd ?_ | refine Qc ?_
         have e7:=Q0 hop hdd1.out hdd2.out hdd3.out hdd4.out hdd5.out hdd6.out hdd7.out (lm:=lm);have R:QX lm xop xa xb xc xk xn rl al=0:=by rw[e7];simp[hc81,hc102,hc114,hc133,hc150,hc153.out,hc161,hc166,hc173,hc178]
         exact Qf (t:=4) h180 rfl rfl ⟨by rw[R],hW11.bel⟩
        have h9:¬ xop=14:=ne_of_beq_false hb;have hc181:¬ xop=14:=h9;clear h9;clear hb;refine wp_skip ?_;refine hK82 _ _ ?_;refine wp_seq_k fun K182 hK182=>?_;refine rg h152 fun ops=>?_;clear h152 a152;refine sa trivial rfl rfl ?_;refine St.nil fun a183 h183=>?_;refine hK182 _ _ ?_;refine wp_ret ?_;with_reducible repeat first | refine Qd ?_ | refine Qc ?_
        have e7:=Q0 hop hdd1.out hdd2.out hdd3.out hdd4.out hdd5.out hdd6.out hdd7.out (lm:=lm);have R:QX lm xop xa xb xc xk xn rl al=0:=by rw[e7];simp[hc81,hc102,hc114,hc133,hc150,hc181]
        exact Qf (t:=4) h183 rfl rfl ⟨by rw[R],hW11.bel⟩
theorem QkV {xop:Int}(hop:QE xop=none) (xa xb xc xk xn:Int) (am ra aa:Option Addr) (lm cm rl rc al ac:Nat) (w:World) :
 Rd Tryz.prog 72 #[.agg #[.slice am lm cm],.agg #[.int .i64 xop,.int .i64 xa,.int .i64 xb,.int .i64 xc,.int .i64 xk,.int .i64 xn,.slice ra rl rc,.slice aa al ac]] w (.int .i64 (QX lm xop xa xb xc xk xn rl al)):=by
 refine Qq (n:=137) Tryz.func72 rfl rfl rfl ?_;intro a hF;have hW:=Wd.start w;replace hF:Fr 137 a [(0,.agg #[.slice am lm cm]),(1,.agg #[.int .i64 xop,.int .i64 xa,.int .i64 xb,.int .i64 xc,.int .i64 xk,.int .i64 xn,.slice ra rl rc,.slice aa al ac])]:=hF;refine wp_seq_k fun K1 hK1=>?_;refine rg hF fun ops=>?_;clear hF a;refine sB hW trivial rfl rfl ?_;clear hW;intro w2 B2 hW2 hN;clear hN;refine sB hW2 trivial rfl rfl ?_;clear hW2;intro w3 B3 hW3 hN;clear hN;refine sa trivial rfl rfl ?_;refine St.nil fun a4 h4=>?_;refine hK1 _ _ ?_;refine wp_seq_k fun K5 hK5=>?_;refine rg h4 fun ops=>?_;clear h4 a4;refine Qid trivial rfl rfl ?_;refine QN 0 hW3 trivial rfl rfl rfl rfl ?_;refine Qdu cf92 hW3 (Qg1 hop w3) trivial rfl rfl ?_;clear hW3;intro w6 hW6;refine sm trivial rfl rfl ?_;intro a7 h7;refine QG (t:=11) (v:=.agg #[.bool false,.bool false,.bool false,.bool false,.bool false,.bool false,.bool false]) (w':=w6) h7 rfl rfl rfl (fun K hK=>?_) ?_
 ·have k0:a7.tmps.getD 7 undef=.tuple #[.agg #[.bool false,.bool false,.bool false,.bool false,.bool false,.bool false,.bool false],.bool false]:=h7.sl 7 _ rfl
  go_simp;exact hK
 clear h7;intro a8 hF8;refine QG (t:=12) (v:=.bool false) (w':=w6) hF8 rfl rfl rfl (fun K hK=>?_) ?_
 ·have k0:a8.tmps.getD 7 undef=.tuple #[.agg #[.bool false,.bool false,.bool false,.bool false,.bool false,.bool false,.bool false],.bool false]:=hF8.sl 7 _ rfl
  go_simp;exact hK
 clear hF8;intro a9 hF9;refine St.go hF9 ?_;clear hF9 a9;refine Qgr hW6 trivial rfl ?_;clear hW6;intro w10 B10 hW10 hN;clear hN;refine sT 0 hW10 rfl rfl infFields rfl rfl rfl ?_;clear hW10;intro w11 hW11;refine sa trivial rfl rfl ?_;refine St.nil fun a12 h12=>?_;refine hK5 _ _ ?_;refine wp_seq_k fun K13 hK13=>?_;refine wp_seq_k fun K14 hK14=>?_;refine rg h12 fun ops=>?_;clear h12 a12;refine sm trivial rfl rfl ?_;refine sn trivial rfl rfl ?_;refine St.nil fun a15 h15=>?_;refine hK14 _ _ ?_;refine QU (t:=14) h15 rfl ?_;refine wp_seq_k fun K16 hK16=>?_;refine rg h15 fun ops=>?_;clear h15 a15;refine sa trivial rfl rfl ?_;refine St.nil fun a17 h17=>?_;refine hK16 _ _ ?_;refine wp_ret ?_;with_reducible repeat first | refine Qd ?_ | refine Qc ?_
 have R:QX lm xop xa xb xc xk xn rl al=3:=by simp[QX,hop]
 exact Qf (t:=4) h17 rfl rfl ⟨by rw[R],hW11.bel⟩
theorem QbR (funcs:Nat) (x:Qv) (i:IP) (am:Option Addr) (cm:Nat) (w:World) :
 Rd Tryz.prog 72 #[.agg #[.slice am funcs cm],.agg #[.int .i64 x.op,.int .i64 x.a,.int .i64 x.b,.int .i64 x.c,.int .i64 x.k,.int .i64 x.n,.slice i.pR x.regs.length i.cR,.slice i.pA x.args.length i.cA]] w (.int .i64 (x.form funcs)):=by
 rw[Qv.form_eq]
 cases h:QE x.op with
 | none=>exact QkV h _ _ _ _ _ _ _ _ _ _ _ _ _ _ _
 | some p=>obtain⟨a,b,c,k,n,r,s⟩:=p;exact Qi5 h _ _ _ _ _ _ _ _ _ _ _ _ _ _ _
theorem QaQ {n:Nat}{m:List (Qe n)}{p:Option Addr}{c fi bi:Nat}{x:Qe n}{y:Qh n}{w:World}(hm0:(QaF n).In w All m [.slice p m.length c]) (hs0:Qc3 m) (hx1:m[fi]?=some x) (hx2:x.blocks[bi]?=some y) :
 Rd Tryz.prog 66 #[.agg #[.slice p m.length c],.int .i64 (fi:Int),.int .i64 (bi:Int)] w (Qad (Qh.fault m.length fi x bi y)):=by
 have hlt1:fi<m.length:=(List.getElem?_eq_some_iff.1 hx1).1;have hlt2:bi<x.blocks.length:=(List.getElem?_eq_some_iff.1 hx2).1;have hs1:Hid x.small:=hs0.2 _ (List.mem_of_getElem? hx1);have hs2:Hid y.small:=hs1.out.2.2.2 _ (List.mem_of_getElem? hx2);have hmb:=hs0.1;have hxb:=hs1.out.1;have hyb:=hs2.out.1;obtain⟨g1,o1,f1,hp1,E1,In1⟩:=Qdt hm0 hx1
 obtain⟨g2,o2,b2,hp2,E2,In2⟩:=Qbf In1.blocks hx2
 replace E1:Hid _:=E1;replace E2:Hid _:=E2;clear hm0 hs0;replace In1:Hid _:=In1;replace In2:Hid _:=In2;replace hp1:Hid _:=hp1;replace hp2:Hid _:=hp2;replace hx1:Hid _:=hx1;replace hx2:Hid _:=hx2;refine Qq (n:=112) Tryz.func66 rfl rfl rfl ?_;intro a hF;have hW:=Wd.start w;replace hF:Fr 112 a [(0,.agg #[.slice p m.length c]),(1,.int .i64 (fi:Int)),(2,.int .i64 (bi:Int))]:=hF;refine wp_seq_k fun K1 hK1=>?_;refine rg hF fun ops=>?_;clear hF a;refine sB hW trivial rfl rfl ?_;clear hW;intro w2 B2 hW2 hN;clear hN;refine Zs hW2 trivial rfl ?_;clear hW2;intro w3 B3 hW3 hN;clear hN;refine St.nil fun a4 h4=>?_;refine hK1 _ _ ?_;refine wp_seq_k fun K5 hK5=>?_;refine rg h4 fun ops=>?_;clear h4 a4;refine Zq trivial rfl rfl ?_;refine Qai 1 hW3 trivial rfl rfl rfl rfl ?_;refine sm trivial rfl rfl ?_;refine QcB hp1.out hlt1 trivial rfl rfl rfl ?_;refine sSE Tryz.underlying55 rfl (QJ E1.out hW3.bel) infFunc trivial rfl rfl ?_;refine QdP hW3 trivial rfl ?_;clear hW3;intro w6 B6 hW6 hN;clear hN;refine sT 0 hW6 rfl rfl infFunc rfl rfl rfl ?_;clear hW6;intro w7 hW7;refine St.nil fun a8 h8=>?_;refine hK5 _ _ ?_;refine wp_seq_k fun K9 hK9=>?_;refine rg h8 fun ops=>?_;clear h8 a8;refine ZV trivial rfl rfl ?_;refine ZD 0 hW7 trivial rfl rfl rfl rfl ?_;refine sm trivial rfl rfl ?_;refine Qb1 hp2.out hlt2 trivial rfl rfl rfl ?_;refine sSE Tryz.underlying84 rfl (QJ E2.out hW7.bel) infBlock trivial rfl rfl ?_;refine Qdj hW7 trivial rfl ?_;clear hW7;intro w10 B10 hW10 hN;clear hN;refine sT 0 hW10 rfl rfl infBlock rfl rfl rfl ?_;clear hW10;intro w11 hW11;refine St.nil fun a12 h12=>?_;refine hK9 _ _ ?_;refine wp_seq_k fun K13 hK13=>?_;refine wp_seq_k fun K14 hK14=>?_;refine Qz ?_;intro ops hops;have hg5:(ops[5]?).bind (fun o:Oper=>o.dst)=some 28:=hops 5;clear hops;refine St.go h12 ?_;clear h12 a12;refine QaJ trivial rfl rfl ?_;refine QN 0 hW11 trivial rfl rfl rfl rfl ?_;refine Z4 trivial rfl rfl ?_;refine QN 1 hW11 trivial rfl rfl rfl rfl ?_;refine slt trivial rfl rfl rfl ?_;refine sm trivial rfl rfl ?_;intro a15 h15;rcases Bool.eq_false_or_eq_true (decide (y.regs<x.regs)) with hb | hb
 ·rw[hb] at h15
  have hc16:y.regs<x.regs:=of_decide_eq_true hb;clear hb;refine St.go h15 ?_;clear h15 a15;refine so hg5 rfl rfl rfl rfl ?_;refine so hg5 rfl rfl rfl rfl ?_;refine so hg5 rfl rfl rfl rfl ?_;refine sp trivial rfl rfl rfl ?_;refine St.nil fun a17 h17=>?_;refine hK14 _ _ ?_;refine QU (t:=32) h17 rfl ?_;refine wp_seq_k fun K18 hK18=>?_;refine rg h17 fun ops=>?_;clear h17 a17;refine sm trivial rfl rfl ?_;refine sm trivial rfl rfl ?_;refine Qau cf108 hW11 (ZW (f:=fi) (b:=bi) ⟨by omega,by omega⟩) trivial rfl rfl rfl ?_;clear hW11;intro w19 hW19;refine Qau cf50 hW19 (ZT (xc:=1) (xp:=10000*(fi:Int)+100*(bi:Int)+90)) trivial rfl rfl rfl ?_;clear hW19;intro w20 hW20;refine sT 2 hW20 rfl rfl infFault rfl rfl rfl ?_;clear hW20;intro w21 hW21;refine St.nil fun a22 h22=>?_;refine hK18 _ _ ?_;refine wp_ret ?_;with_reducible repeat first | refine Qd ?_ | refine Qc ?_
  have RC:y.code' x bi=1:=if_pos (by omega);have EF:=Qh.fault_eq m.length fi x bi y;rw[RC,if_neg (by omega)] at EF
  exact Qs 2 h22 hW21 rfl rfl rfl Tryz.underlying30 rfl infFault ⟨by show Ending.returned (.agg #[.int .i64 1,.int .i64 (10000*(fi:Int)+100*(bi:Int)+90)])=_;rw[EF],hW21.bel⟩
 rw[hb] at h15
 have hc23:¬ (y.regs<x.regs):=of_decide_eq_false hb;clear hb;refine St.go h15 ?_;clear h15 a15;refine QaJ ⟨_,hg5,rfl,rfl⟩ rfl rfl ?_;refine QN 0 hW11 ⟨_,hg5,rfl,rfl⟩ rfl rfl rfl rfl ?_;refine sgt ⟨_,hg5,rfl,rfl⟩ rfl rfl rfl ?_;refine spf trivial rfl rfl rfl ?_;refine St.nil fun a24 h24=>?_;refine hK14 _ _ ?_;refine Qg (t:=32) h24 rfl (fun hb=>?_) (fun hb=>?_)
 ·have hc25:16<y.regs:=of_decide_eq_true hb
  clear hb;refine wp_seq_k fun K26 hK26=>?_;refine rg h24 fun ops=>?_;clear h24 a24;refine sm trivial rfl rfl ?_;refine sm trivial rfl rfl ?_;refine Qau cf108 hW11 (ZW (f:=fi) (b:=bi) ⟨by omega,by omega⟩) trivial rfl rfl rfl ?_;clear hW11;intro w27 hW27;refine Qau cf50 hW27 (ZT (xc:=1) (xp:=10000*(fi:Int)+100*(bi:Int)+90)) trivial rfl rfl rfl ?_;clear hW27;intro w28 hW28;refine sT 2 hW28 rfl rfl infFault rfl rfl rfl ?_;clear hW28;intro w29 hW29;refine St.nil fun a30 h30=>?_;refine hK26 _ _ ?_;refine wp_ret ?_;with_reducible repeat first | refine Qd ?_ | refine Qc ?_
  have RC:y.code' x bi=1:=if_pos (by omega);have EF:=Qh.fault_eq m.length fi x bi y;rw[RC,if_neg (by omega)] at EF
  exact Qs 2 h30 hW29 rfl rfl rfl Tryz.underlying30 rfl infFault ⟨by show Ending.returned (.agg #[.int .i64 1,.int .i64 (10000*(fi:Int)+100*(bi:Int)+90)])=_;rw[EF],hW29.bel⟩
 have hc31:¬ (16<y.regs):=of_decide_eq_false hb;clear hb;refine wp_skip ?_;refine hK13 _ _ ?_;refine wp_seq_k fun K32 hK32=>?_;refine wp_seq_k fun K33 hK33=>?_;refine rg h24 fun ops=>?_;clear h24 a24;refine Qbb trivial rfl rfl ?_;refine Zc 0 hW11 trivial rfl rfl rfl rfl ?_;refine QaJ trivial rfl rfl ?_;refine QN 0 hW11 trivial rfl rfl rfl rfl ?_;refine Qau cf65 hW11 (Qbr (regs:=y.regs) (Lay.below In2.out.params hW11.bel) hs2.out.2.1) trivial rfl rfl rfl ?_;clear hW11;intro w34 hW34;refine sa trivial rfl rfl ?_;refine St.nil fun a35 h35=>?_;refine hK33 _ _ ?_;refine wp_seq_k fun K36 hK36=>?_;refine rg h35 fun ops=>?_;clear h35 a35;refine sm trivial rfl rfl ?_;refine sne trivial rfl rfl rfl ?_;refine St.nil fun a37 h37=>?_;refine hK36 _ _ ?_;refine Qg (t:=43) h37 rfl (fun hb=>?_) (fun hb=>?_)
 ·have h9:¬ (listC y.regs y.params)=0:=bne_iff_ne.1 hb
  have hc38:¬ (listC y.regs y.params)=0:=h9;clear h9;clear hb;refine wp_seq_k fun K39 hK39=>?_;refine rg h37 fun ops=>?_;clear h37 a37;refine sm trivial rfl rfl ?_;refine sm trivial rfl rfl ?_;refine sm trivial rfl rfl ?_;refine Qau cf108 hW34 (ZW (f:=fi) (b:=bi) ⟨by omega,by omega⟩) trivial rfl rfl rfl ?_;clear hW34;intro w40 hW40;refine Qau cf50 hW40 (ZT (xc:=listC y.regs y.params) (xp:=10000*(fi:Int)+100*(bi:Int)+90)) trivial rfl rfl rfl ?_;clear hW40;intro w41 hW41;refine sT 2 hW41 rfl rfl infFault rfl rfl rfl ?_;clear hW41;intro w42 hW42;refine St.nil fun a43 h43=>?_;refine hK39 _ _ ?_;refine wp_ret ?_;with_reducible repeat first | refine Qd ?_ | refine Qc ?_
  have RC:y.code' x bi=listC y.regs y.params:=(if_neg (by omega)).trans (if_pos (by omega));have EF:=Qh.fault_eq m.length fi x bi y;rw[RC,if_neg (by omega)] at EF
  exact Qs 2 h43 hW42 rfl rfl rfl Tryz.underlying30 rfl infFault ⟨by show Ending.returned (.agg #[.int .i64 (listC y.regs y.params),.int .i64 (10000*(fi:Int)+100*(bi:Int)+90)])=_;rw[EF],hW42.bel⟩
 have h9:(listC y.regs y.params)=0:=bne_eq_false_iff_eq.1 hb;have hc44:Hid ((listC y.regs y.params)=0):=h9;clear h9;clear hb;refine wp_skip ?_;refine hK32 _ _ ?_;refine wp_seq_k fun K45 hK45=>?_;refine wp_seq_k fun K46 hK46=>?_;refine Qz ?_;intro ops hops;have hg2:(ops[2]?).bind (fun o:Oper=>o.dst)=some 51:=hops 2;have hg8:(ops[8]?).bind (fun o:Oper=>o.dst)=some 57:=hops 8;clear hops;refine St.go h37 ?_;clear h37 a37;refine sm trivial rfl rfl ?_;refine seq trivial rfl rfl rfl ?_;refine sm trivial rfl rfl ?_;intro a47 h47;rcases Bool.eq_false_or_eq_true ((bi:Int)==0) with hb | hb
 ·rw[hb] at h47
  have h9:bi=0:=by have h8:=eq_of_beq hb;omega
  have hc48:Hid (bi=0):=h9;clear h9;clear hb;refine St.go h47 ?_;clear h47 a47;refine QaJ ⟨_,hg2,rfl,rfl⟩ rfl rfl ?_;refine QN 0 hW34 ⟨_,hg2,rfl,rfl⟩ rfl rfl rfl rfl ?_;refine Z4 ⟨_,hg2,rfl,rfl⟩ rfl rfl ?_;refine QN 1 hW34 ⟨_,hg2,rfl,rfl⟩ rfl rfl rfl rfl ?_;refine sne ⟨_,hg2,rfl,rfl⟩ rfl rfl rfl ?_;refine sm ⟨_,hg2,rfl,rfl⟩ rfl rfl ?_;intro a49 h49;rcases Bool.eq_false_or_eq_true (y.regs!=x.regs) with hb | hb
  ·rw[hb] at h49
   have h9:¬ y.regs=x.regs:=bne_iff_ne.1 hb;have hc50:¬ y.regs=x.regs:=h9;clear h9;clear hb;refine St.go h49 ?_;clear h49 a49;refine so hg8 rfl rfl rfl rfl ?_;refine so hg8 rfl rfl rfl rfl ?_;refine so hg8 rfl rfl rfl rfl ?_;refine so hg8 rfl rfl rfl rfl ?_;refine so hg8 rfl rfl rfl rfl ?_;refine so hg8 rfl rfl rfl rfl ?_;refine sp ⟨_,hg2,rfl,rfl⟩ rfl rfl rfl ?_;refine sp trivial rfl rfl rfl ?_;refine St.nil fun a51 h51=>?_;refine hK46 _ _ ?_;refine QU (t:=65) h51 rfl ?_;refine wp_seq_k fun K52 hK52=>?_;refine rg h51 fun ops=>?_;clear h51 a51;refine sm trivial rfl rfl ?_;refine sm trivial rfl rfl ?_;refine Qau cf108 hW34 (ZW (f:=fi) (b:=bi) ⟨by omega,by omega⟩) trivial rfl rfl rfl ?_;clear hW34;intro w53 hW53;refine Qau cf50 hW53 (ZT (xc:=9) (xp:=10000*(fi:Int)+100*(bi:Int)+90)) trivial rfl rfl rfl ?_;clear hW53;intro w54 hW54;refine sT 2 hW54 rfl rfl infFault rfl rfl rfl ?_;clear hW54;intro w55 hW55;refine St.nil fun a56 h56=>?_;refine hK52 _ _ ?_;refine wp_ret ?_;with_reducible repeat first | refine Qd ?_ | refine Qc ?_
   have:=hc44.out
   have:=hc48.out
   have RC:y.code' x bi=9:=(if_neg (by omega)).trans ((if_neg (by omega)).trans (if_pos (⟨by omega,.inl (by omega)⟩)));have EF:=Qh.fault_eq m.length fi x bi y;rw[RC,if_neg (by omega)] at EF
   exact Qs 2 h56 hW55 rfl rfl rfl Tryz.underlying30 rfl infFault ⟨by show Ending.returned (.agg #[.int .i64 9,.int .i64 (10000*(fi:Int)+100*(bi:Int)+90)])=_;rw[EF],hW55.bel⟩
  rw[hb] at h49
  have h9:y.regs=x.regs:=bne_eq_false_iff_eq.1 hb;have hc57:Hid (y.regs=x.regs):=h9;clear h9;clear hb;refine St.go h49 ?_;clear h49 a49;refine Qbb ⟨_,hg8,rfl,rfl⟩ rfl rfl ?_;refine Zc 0 hW34 ⟨_,hg8,rfl,rfl⟩ rfl rfl rfl rfl ?_;refine Qba ⟨_,hg8,rfl,rfl⟩ rfl rfl ?_;refine Zc 1 hW34 ⟨_,hg8,rfl,rfl⟩ rfl rfl rfl rfl ?_;refine Qau cf25 hW34 (Qd6 (Lay.below In2.out.params hW34.bel) (Lay.below In1.out.params hW34.bel) hs2.out.2.1) ⟨_,hg8,rfl,rfl⟩ rfl rfl rfl ?_;clear hW34;intro w58 hW58;refine sn ⟨_,hg8,rfl,rfl⟩ rfl rfl ?_;refine spf ⟨_,hg2,rfl,rfl⟩ rfl rfl rfl ?_;refine sp trivial rfl rfl rfl ?_;refine St.nil fun a59 h59=>?_;refine hK46 _ _ ?_;refine Qg (t:=65) h59 rfl (fun hb=>?_) (fun hb=>?_)
  ·have hb:(bdec (y.params=x.params))=false:=by simpa using hb
   have hc60:¬ (y.params=x.params):=fun h=>by rw[QH h] at hb;cases hb
   clear hb;refine wp_seq_k fun K61 hK61=>?_;refine rg h59 fun ops=>?_;clear h59 a59;refine sm trivial rfl rfl ?_;refine sm trivial rfl rfl ?_;refine Qau cf108 hW58 (ZW (f:=fi) (b:=bi) ⟨by omega,by omega⟩) trivial rfl rfl rfl ?_;clear hW58;intro w62 hW62;refine Qau cf50 hW62 (ZT (xc:=9) (xp:=10000*(fi:Int)+100*(bi:Int)+90)) trivial rfl rfl rfl ?_;clear hW62;intro w63 hW63;refine sT 2 hW63 rfl rfl infFault rfl rfl rfl ?_;clear hW63;intro w64 hW64;refine St.nil fun a65 h65=>?_;refine hK61 _ _ ?_;refine wp_ret ?_;with_reducible repeat first | refine Qd ?_ | refine Qc ?_
   have:=hc44.out
   have:=hc48.out
   have:=hc57.out
   have RC:y.code' x bi=9:=(if_neg (by omega)).trans ((if_neg (by omega)).trans (if_pos (⟨by omega,Qgm (fun h9=>hc60 h9.2)⟩)));have EF:=Qh.fault_eq m.length fi x bi y;rw[RC,if_neg (by omega)] at EF
   exact Qs 2 h65 hW64 rfl rfl rfl Tryz.underlying30 rfl infFault ⟨by show Ending.returned (.agg #[.int .i64 9,.int .i64 (10000*(fi:Int)+100*(bi:Int)+90)])=_;rw[EF],hW64.bel⟩
  have hb:(bdec (y.params=x.params))=true:=by simpa using hb
  have hc66:(y.params=x.params):=ZC.1 hb;clear hb;refine wp_skip ?_;refine hK45 _ _ ?_;refine wp_seq_k fun K67 hK67=>?_;refine wp_seq_k fun K68 hK68=>?_;refine rg h59 fun ops=>?_;clear h59 a59;refine ZI trivial rfl rfl ?_;refine Qbm 0 hW58 trivial rfl rfl rfl rfl ?_;refine Qbs trivial rfl rfl ?_;refine sgt trivial rfl rfl rfl ?_;refine St.nil fun a69 h69=>?_;refine hK68 _ _ ?_;refine Qg (t:=73) h69 rfl (fun hb=>?_) (fun hb=>?_)
  ·have hc70:40<y.code.length:=by have:=of_decide_eq_true hb;omega
   clear hb;refine wp_seq_k fun K71 hK71=>?_;refine rg h69 fun ops=>?_;clear h69 a69;refine sm trivial rfl rfl ?_;refine sm trivial rfl rfl ?_;refine Qau cf108 hW58 (ZW (f:=fi) (b:=bi) ⟨by omega,by omega⟩) trivial rfl rfl rfl ?_;clear hW58;intro w72 hW72;refine Qau cf50 hW72 (ZT (xc:=2) (xp:=10000*(fi:Int)+100*(bi:Int)+90)) trivial rfl rfl rfl ?_;clear hW72;intro w73 hW73;refine sT 2 hW73 rfl rfl infFault rfl rfl rfl ?_;clear hW73;intro w74 hW74;refine St.nil fun a75 h75=>?_;refine hK71 _ _ ?_;refine wp_ret ?_;with_reducible repeat first | refine Qd ?_ | refine Qc ?_
   have:=hc44.out
   have:=hc48.out
   have:=hc57.out
   have RC:y.code' x bi=2:=(if_neg (by omega)).trans ((if_neg (by omega)).trans ((if_neg (fun h9=>QaT ⟨by omega,hc66⟩ h9.2)).trans (if_pos (by omega))));have EF:=Qh.fault_eq m.length fi x bi y;rw[RC,if_neg (by omega)] at EF
   exact Qs 2 h75 hW74 rfl rfl rfl Tryz.underlying30 rfl infFault ⟨by show Ending.returned (.agg #[.int .i64 2,.int .i64 (10000*(fi:Int)+100*(bi:Int)+90)])=_;rw[EF],hW74.bel⟩
  have hc76:¬ (40<y.code.length):=by have:=of_decide_eq_false hb;omega
  clear hb;refine wp_skip ?_;refine hK67 _ _ ?_;refine wp_seq_k fun K77 hK77=>?_;refine wp_seq_k fun K78 hK78=>?_;refine rg h69 fun ops=>?_;clear h69 a69;refine sa trivial rfl rfl ?_;refine St.nil fun a79 h79=>?_;refine hK78 _ _ ?_;refine wp_block ?_;refine Zi (fun r a w'=>∃ q:Nat,q≤y.code.length∧r=y.code.length - q∧(∀ (j:Nat) z,j<q→y.code[j]?=some z→Qv.form m.length z=0)∧Fr 112 a [(2,.int .i64 (bi:Int)),(1,.int .i64 (fi:Int)),(0,.agg #[.slice p m.length c]),(3,.pointer (some ⟨B2,0,none⟩)),(6,.pointer (some ⟨B3,0,none⟩)),(7,.pointer (some ⟨B6,0,none⟩)),(8,.pointer (some ⟨B10,0,none⟩)),(9,.int .i64 (listC y.regs y.params)),(10,.int .i64 (q:Int))]∧Wd w w' [(B10,#[.int .i64 y.regs,.slice b2.pP y.params.length b2.cP,.slice b2.pC y.code.length b2.cC,.int .i64 y.fin.op,.int .i64 y.fin.a,.int .i64 y.fin.yes.block,.slice b2.e.pYR y.fin.yes.regs.length b2.e.cYR,.slice b2.e.pYA y.fin.yes.args.length b2.e.cYA,.int .i64 y.fin.no.block,.slice b2.e.pNR y.fin.no.regs.length b2.e.cNR,.slice b2.e.pNA y.fin.no.args.length b2.e.cNA,.slice b2.e.pA y.fin.args.length b2.e.cA],84),(B6,#[.int .i64 x.regs,.slice f1.pP x.params.length f1.cP,.slice f1.pR x.results.length f1.cR,.slice f1.pB x.blocks.length f1.cB],55),(B3,#[.int .i64 0,.int .i64 0],30),(B2,#[.slice p m.length c],24)]) (y.code.length) ⟨0,Nat.zero_le _,rfl,(fun j z hj=>by omega),(h79.keep (h79.keep (h79.keep (h79.keep (h79.keep (h79.keep (h79.keep (h79.keep (h79.keep h79.nil (t:=10) rfl) (t:=9) rfl) (t:=8) rfl) (t:=7) rfl) (t:=6) rfl) (t:=3) rfl) (t:=0) rfl) (t:=1) rfl) (t:=2) rfl),hW58⟩ ?_;clear h79 hW58;rintro r3 a80 w80 ⟨q,hq3,hr3,hall3,hF80,hW80⟩ KL3 hKL3;refine wp_seq_k fun K81 hK81=>?_;refine wp_seq_k fun K82 hK82=>?_;refine rg hF80 fun ops=>?_;clear hF80 a80;refine sm trivial rfl rfl ?_;refine ZI trivial rfl rfl ?_;refine Qbm 0 hW80 trivial rfl rfl rfl rfl ?_;refine Qbs trivial rfl rfl ?_;refine slt trivial rfl rfl rfl ?_;refine St.nil fun a83 h83=>?_;refine hK82 _ _ ?_;refine Qg (t:=82) h83 rfl (fun hb=>?_) (fun hb=>?_)
  ·have hlt3:q<y.code.length:=by have:=of_decide_eq_true hb;omega
   clear hb;obtain⟨z,hx3⟩:∃ v9,(y.code)[q]?=some v9:=⟨_,List.getElem?_eq_getElem hlt3⟩
   obtain⟨g3,o3,i3,hp3,E3,In3⟩:=QeZ In2.out.code hx3
   replace In3:Hid _:=In3;replace hp3:Hid _:=hp3;replace hx3:Hid _:=hx3;replace E3:Hid _:=E3;refine wp_skip ?_;refine hK81 _ _ ?_;refine wp_seq_k fun K84 hK84=>?_;refine wp_block ?_;refine wp_seq_k fun K85 hK85=>?_;have hF86:Fr 112 a83 [(2,.int .i64 (bi:Int)),(1,.int .i64 (fi:Int)),(0,.agg #[.slice p m.length c]),(3,.pointer (some ⟨B2,0,none⟩)),(6,.pointer (some ⟨B3,0,none⟩)),(7,.pointer (some ⟨B6,0,none⟩)),(8,.pointer (some ⟨B10,0,none⟩)),(9,.int .i64 (listC y.regs y.params)),(10,.int .i64 (q:Int))]:=(h83.keep (h83.keep (h83.keep (h83.keep (h83.keep (h83.keep (h83.keep (h83.keep (h83.keep h83.nil (t:=10) rfl) (t:=9) rfl) (t:=8) rfl) (t:=7) rfl) (t:=6) rfl) (t:=3) rfl) (t:=0) rfl) (t:=1) rfl) (t:=2) rfl);have ho3:a83.tmps.getD 3 undef=.pointer (some ⟨B2,0,none⟩):=h83.sl 3 _ rfl;have ho8:a83.tmps.getD 8 undef=.pointer (some ⟨B10,0,none⟩):=h83.sl 8 _ rfl;have ho10:a83.tmps.getD 10 undef=.int .i64 (q:Int):=h83.sl 10 _ rfl;refine QaS 8 ([(3,fun v _=>v=.pointer (some ⟨B2,0,none⟩)),(8,fun v _=>v=.pointer (some ⟨B10,0,none⟩)),(10,fun v _=>v=.int .i64 (q:Int)),(85,fun v _=>v=.agg #[.slice p m.length c]),(86,fun v _=>v=.pointer (some ⟨B10,2,none⟩)),(87,fun v _=>v=.slice b2.pC y.code.length b2.cC),(88,fun v _=>v=.int .i64 (q:Int)),(89,fun v _=>v=.pointer (some ⟨g3,o3+q*8,none⟩)),(90,fun v _=>v=.agg #[.int .i64 z.op,.int .i64 z.a,.int .i64 z.b,.int .i64 z.c,.int .i64 z.k,.int .i64 z.n,.slice i3.pR z.regs.length i3.cR,.slice i3.pA z.args.length i3.cA]),(91,fun v _=>v=.int .i64 (Qv.form m.length z)),(11,fun v _=>v=.int .i64 (Qv.form m.length z))]:Qbp) (fun w'=>Wd w w' [(B10,#[.int .i64 y.regs,.slice b2.pP y.params.length b2.cP,.slice b2.pC y.code.length b2.cC,.int .i64 y.fin.op,.int .i64 y.fin.a,.int .i64 y.fin.yes.block,.slice b2.e.pYR y.fin.yes.regs.length b2.e.cYR,.slice b2.e.pYA y.fin.yes.args.length b2.e.cYA,.int .i64 y.fin.no.block,.slice b2.e.pNR y.fin.no.regs.length b2.e.cNR,.slice b2.e.pNA y.fin.no.args.length b2.e.cNA,.slice b2.e.pA y.fin.args.length b2.e.cA],84),(B6,#[.int .i64 x.regs,.slice f1.pP x.params.length f1.cP,.slice f1.pR x.results.length f1.cR,.slice f1.pB x.blocks.length f1.cB],55),(B3,#[.int .i64 0,.int .i64 0],30),(B2,#[.slice p m.length c],24)]∧Below w80.heap.size w80 w') (fun w w'=>Below w.heap.size w w') (outs:=[3,8,10]) (gs:=[]) (bs:=[true,true,true,true,true,true,true,true]) (by kernel_rfl) hF86 rfl (by kernel_rfl) (by kernel_rfl) ?hR ?hG ⟨hW80.drewN 1,Zv (m:=1) (Below.refl _ _)⟩ ⟨ho3,ho8,ho10,trivial⟩ ?hA ?hend
   case hR=>exact⟨fun _ _ _ _ h=>h,fun _ _ _ _ h=>h,fun _ _ _ _ h=>h,fun _ _ _ _ h=>h,fun _ _ _ _ h=>h,fun _ _ _ _ h=>h,fun _ _ _ _ h=>h,fun _ _ _ _ h=>h,fun _ _ _ _ h=>h,fun _ _ _ _ h=>h,fun _ _ _ _ h=>h,trivial⟩
   case hG=>exact trivial
   case hA =>
    refine⟨fun a w hW hk K hK=>?_,?_⟩
    ·obtain⟨k0,-⟩:=hk
     have k0:a.tmps.getD 3 undef=.pointer (some ⟨B2,0,none⟩):=k0;have c0:w.cell? ⟨B2,0,none⟩=some (.slice p m.length c):=Qb (hW.1.get 3 rfl) 0 _ rfl;go_simp;exact hK _ _ (Below.refl _ _) hW rfl
    refine⟨fun a w hW hk K hK=>?_,?_⟩
    ·obtain⟨k0,-⟩:=hk
     have k0:a.tmps.getD 8 undef=.pointer (some ⟨B10,0,none⟩):=k0;go_simp;exact hK _ _ (Below.refl _ _) hW rfl
    refine⟨fun a w hW hk K hK=>?_,?_⟩
    ·obtain⟨k0,-⟩:=hk
     have k0:a.tmps.getD 86 undef=.pointer (some ⟨B10,2,none⟩):=k0;have c2:w.cell? ⟨B10,2,none⟩=some (.slice b2.pC y.code.length b2.cC):=Qb (hW.1.get 0 rfl) 2 _ rfl;go_simp;exact hK _ _ (Below.refl _ _) hW rfl
    refine⟨fun a w hW hk K hK=>?_,?_⟩
    ·obtain⟨k0,-⟩:=hk
     have k0:a.tmps.getD 10 undef=.int .i64 (q:Int):=k0;go_simp;exact hK _ _ (Below.refl _ _) hW rfl
    refine⟨fun a w hW hk K hK=>?_,?_⟩
    ·obtain⟨k0,k1,-⟩:=hk
     have k0:a.tmps.getD 87 undef=.slice b2.pC y.code.length b2.cC:=k0;have k1:a.tmps.getD 88 undef=.int .i64 (q:Int):=k1;have hpq:=hp3.out;have hk0:(0:Int)≤q:=by omega
     have hk1:(q:Int)<(y.code.length:Int):=by omega
     go_simp;exact hK _ _ (Below.refl _ _) hW rfl
    refine⟨fun a w hW hk K hK=>?_,?_⟩
    ·obtain⟨k0,-⟩:=hk
     have k0:a.tmps.getD 89 undef=.pointer (some ⟨g3,o3+q*8,none⟩):=k0;have d0:w.cell? ⟨g3,o3+q*8,none⟩=some (.int .i64 z.op):=QW hW.1.bel (E3.out 0 _ rfl);have d1:w.cell? ⟨g3,o3+q*8+1,none⟩=some (.int .i64 z.a):=QW hW.1.bel (E3.out 1 _ rfl);have d2:w.cell? ⟨g3,o3+q*8+2,none⟩=some (.int .i64 z.b):=QW hW.1.bel (E3.out 2 _ rfl);have d3:w.cell? ⟨g3,o3+q*8+3,none⟩=some (.int .i64 z.c):=QW hW.1.bel (E3.out 3 _ rfl);have d4:w.cell? ⟨g3,o3+q*8+4,none⟩=some (.int .i64 z.k):=QW hW.1.bel (E3.out 4 _ rfl);have d5:w.cell? ⟨g3,o3+q*8+5,none⟩=some (.int .i64 z.n):=QW hW.1.bel (E3.out 5 _ rfl);have d6:w.cell? ⟨g3,o3+q*8+6,none⟩=some (.slice i3.pR z.regs.length i3.cR):=QW hW.1.bel (E3.out 6 _ rfl);have d7:w.cell? ⟨g3,o3+q*8+7,none⟩=some (.slice i3.pA z.args.length i3.cA):=QW hW.1.bel (E3.out 7 _ rfl);go_simp;exact hK _ _ (Below.refl _ _) hW rfl
    refine⟨fun a w hW hk K hK=>?_,?_⟩
    ·obtain⟨k0,k1,-⟩:=hk
     have k0:a.tmps.getD 85 undef=.agg #[.slice p m.length c]:=k0;have k1:a.tmps.getD 90 undef=.agg #[.int .i64 z.op,.int .i64 z.a,.int .i64 z.b,.int .i64 z.c,.int .i64 z.k,.int .i64 z.n,.slice i3.pR z.regs.length i3.cR,.slice i3.pA z.args.length i3.cA]:=k1;have hC:Rd Tryz.prog 72 #[.agg #[.slice p m.length c],.agg #[.int .i64 z.op,.int .i64 z.a,.int .i64 z.b,.int .i64 z.c,.int .i64 z.k,.int .i64 z.n,.slice i3.pR z.regs.length i3.cR,.slice i3.pA z.args.length i3.cA]] w (.int .i64 (Qv.form m.length z)):=QbR m.length z i3 p c w;go_simp;refine hC.mono ?_;rintro e w9 ⟨rfl,hb⟩;exact hK _ _ hb ⟨hW.1.below hb,Below.andThen hW.2 hb⟩ rfl
    refine⟨fun a w hW hk K hK=>?_,?_⟩
    ·obtain⟨k0,-⟩:=hk
     have k0:a.tmps.getD 91 undef=.int .i64 (Qv.form m.length z):=k0;go_simp;exact hK _ _ (Below.refl _ _) hW rfl
    trivial
   case hend =>
    intro ops a87 w87 hWD hE hFD;have hd11:a87.tmps.getD 11 undef=.int .i64 (Qv.form m.length z):=hE 11 rfl;have hF87:Fr 112 a87 [(11,.int .i64 (Qv.form m.length z)),(2,.int .i64 (bi:Int)),(1,.int .i64 (fi:Int)),(0,.agg #[.slice p m.length c]),(3,.pointer (some ⟨B2,0,none⟩)),(6,.pointer (some ⟨B3,0,none⟩)),(7,.pointer (some ⟨B6,0,none⟩)),(8,.pointer (some ⟨B10,0,none⟩)),(9,.int .i64 (listC y.regs y.params)),(10,.int .i64 (q:Int))]:=(hFD.cons hd11);clear hd11;have hW87:Wd w w87 [(B10,#[.int .i64 y.regs,.slice b2.pP y.params.length b2.cP,.slice b2.pC y.code.length b2.cC,.int .i64 y.fin.op,.int .i64 y.fin.a,.int .i64 y.fin.yes.block,.slice b2.e.pYR y.fin.yes.regs.length b2.e.cYR,.slice b2.e.pYA y.fin.yes.args.length b2.e.cYA,.int .i64 y.fin.no.block,.slice b2.e.pNR y.fin.no.regs.length b2.e.cNR,.slice b2.e.pNA y.fin.no.args.length b2.e.cNA,.slice b2.e.pA y.fin.args.length b2.e.cA],84),(B6,#[.int .i64 x.regs,.slice f1.pP x.params.length f1.cP,.slice f1.pR x.results.length f1.cR,.slice f1.pB x.blocks.length f1.cB],55),(B3,#[.int .i64 0,.int .i64 0],30),(B2,#[.slice p m.length c],24)]:=hWD.1;clear hFD hWD hE hF86 h83;clear hW80;refine wpList_nil ?_;refine hK85 _ _ ?_;refine wp_seq_k fun K88 hK88=>?_;refine rg hF87 fun ops=>?_;clear hF87 a87;refine sm trivial rfl rfl ?_;refine sne trivial rfl rfl rfl ?_;refine St.nil fun a89 h89=>?_;refine hK88 _ _ ?_;refine Qg (t:=93) h89 rfl (fun hb=>?_) (fun hb=>?_)
    ·have h9:¬ (Qv.form m.length z)=0:=bne_iff_ne.1 hb
     have hc90:¬ (Qv.form m.length z)=0:=h9;clear h9;clear hb;refine wp_seq_k fun K91 hK91=>?_;refine rg h89 fun ops=>?_;clear h89 a89;refine sm trivial rfl rfl ?_;refine sm trivial rfl rfl ?_;refine sm trivial rfl rfl ?_;refine sm trivial rfl rfl ?_;refine Qgn cf109 hW87 (Qe0 (f:=fi) (b:=bi) (i:=q) ⟨by omega,by omega,by omega⟩) trivial rfl rfl rfl rfl ?_;clear hW87;intro w92 hW92;refine Qau cf50 hW92 (ZT (xc:=Qv.form m.length z) (xp:=10000*(fi:Int)+100*(bi:Int)+(q:Int))) trivial rfl rfl rfl ?_;clear hW92;intro w93 hW93;refine sT 2 hW93 rfl rfl infFault rfl rfl rfl ?_;clear hW93;intro w94 hW94;refine St.nil fun a95 h95=>?_;refine hK91 _ _ ?_;refine wp_ret ?_;with_reducible repeat first | refine Qd ?_ | refine Qc ?_
     have:=hc44.out
     have:=hc48.out
     have:=hc57.out
     have RC:y.code' x bi=0:=(if_neg (by omega)).trans ((if_neg (by omega)).trans ((if_neg (fun h9=>QaT ⟨by omega,hc66⟩ h9.2)).trans ((if_neg (by omega)).trans (rfl))));have EF:=Qh.fault_eq m.length fi x bi y;rw[if_pos RC] at EF
     have RI:firstF (fun i z=>(Qv.form m.length z,(10000*fi+100*bi+i:Int))) 0 y.code=(Qv.form m.length z,(10000*fi+100*bi+q:Int)):=by
      have h9:=QV (f:=fun i z=>(Qv.form m.length z,(10000*fi+100*bi+i:Int))) (j:=0) hx3.out (fun k z hk hz=>hall3 k z hk hz) hc90;rwa [Nat.zero_add] at h9
     rw[RI,if_neg hc90] at EF
     exact Qs 2 h95 hW94 rfl rfl rfl Tryz.underlying30 rfl infFault ⟨by show Ending.returned (.agg #[.int .i64 (Qv.form m.length z),.int .i64 (10000*(fi:Int)+100*(bi:Int)+(q:Int))])=_;rw[EF],hW94.bel⟩
    have h9:(Qv.form m.length z)=0:=bne_eq_false_iff_eq.1 hb;have hc96:Hid ((Qv.form m.length z)=0):=h9;clear h9;clear hb;refine wp_skip ?_;refine hK84 _ _ ?_;refine rg h89 fun ops=>?_;clear h89 a89;refine sm trivial rfl rfl ?_;refine sad (by omega) trivial rfl rfl rfl ?_;refine sa trivial rfl rfl ?_;refine St.nil fun a97 h97=>?_;refine hKL3 _ _ (y.code.length - (q+1)) (by omega) ⟨q+1,by omega,rfl,?_,(h97.keep (h97.keep (h97.keep (h97.keep (h97.keep (h97.keep (h97.keep (h97.keep (h97.keep h97.nil (t:=10) rfl) (t:=9) rfl) (t:=8) rfl) (t:=7) rfl) (t:=6) rfl) (t:=3) rfl) (t:=0) rfl) (t:=1) rfl) (t:=2) rfl),hW87⟩
    ·intro j z hj hz
     by_cases e:j=q
     ·subst e;rw[hx3.out] at hz;cases hz;exact hc96.out
     ·exact hall3 j z (by omega) hz
  have hge3:q=y.code.length:=by have:=of_decide_eq_false hb;omega
  clear hb;refine wp_exit ?_;refine hK77 _ _ ?_;refine wp_seq_k fun K98 hK98=>?_;refine wp_seq_k fun K99 hK99=>?_;refine rg h83 fun ops=>?_;clear h83 a83;refine sS 1 4 Tryz.underlying55 rfl infFunc hW80 trivial rfl rfl rfl rfl ?_;refine Qat trivial rfl rfl ?_;refine sS 0 9 Tryz.underlying47 rfl infEnd hW80 trivial rfl rfl rfl rfl ?_;refine Qau cf79 hW80 (QbW (x:=y.fin) (e:=b2.e) (fr:=x.regs) (fp:=f1.pP) (fl:=x.params.length) (fc:=f1.cP) (fq:=f1.pR) (fm:=x.results.length) (fd:=f1.cR) (fb:=f1.pB) (bl:=x.blocks.length) (fe:=f1.cB) (by have:=hs2.out.2.2.1;exact⟨by have:=this.1.1;omega,by have:=this.1.2;omega,by have:=this.2.1.1;omega,by have:=this.2.1.2;omega⟩) (by have:=hs1.out.1;omega)) trivial rfl rfl rfl ?_;clear hW80;intro w100 hW100;refine sa trivial rfl rfl ?_;refine St.nil fun a101 h101=>?_;refine hK99 _ _ ?_;refine wp_seq_k fun K102 hK102=>?_;refine rg h101 fun ops=>?_;clear h101 a101;refine sm trivial rfl rfl ?_;refine sne trivial rfl rfl rfl ?_;refine St.nil fun a103 h103=>?_;refine hK102 _ _ ?_;refine Qg (t:=105) h103 rfl (fun hb=>?_) (fun hb=>?_)
  ·have h9:¬ (y.fin.form x.blocks.length)=0:=bne_iff_ne.1 hb
   have hc104:¬ (y.fin.form x.blocks.length)=0:=h9;clear h9;clear hb;refine wp_seq_k fun K105 hK105=>?_;refine rg h103 fun ops=>?_;clear h103 a103;refine sm trivial rfl rfl ?_;refine sm trivial rfl rfl ?_;refine sm trivial rfl rfl ?_;refine Qau cf110 hW100 (QeT (f:=fi) (b:=bi) ⟨by omega,by omega⟩) trivial rfl rfl rfl ?_;clear hW100;intro w106 hW106;refine Qau cf50 hW106 (ZT (xc:=y.fin.form x.blocks.length) (xp:=10000*(fi:Int)+100*(bi:Int)+91)) trivial rfl rfl rfl ?_;clear hW106;intro w107 hW107;refine sT 2 hW107 rfl rfl infFault rfl rfl rfl ?_;clear hW107;intro w108 hW108;refine St.nil fun a109 h109=>?_;refine hK105 _ _ ?_;refine wp_ret ?_;with_reducible repeat first | refine Qd ?_ | refine Qc ?_
   have:=hc44.out
   have:=hc48.out
   have:=hc57.out
   have RC:y.code' x bi=0:=(if_neg (by omega)).trans ((if_neg (by omega)).trans ((if_neg (fun h9=>QaT ⟨by omega,hc66⟩ h9.2)).trans ((if_neg (by omega)).trans (rfl))));have EF:=Qh.fault_eq m.length fi x bi y;rw[if_pos RC] at EF
   have RI:firstF (fun i z=>(Qv.form m.length z,(10000*fi+100*bi+i:Int))) 0 y.code=(0,0):=Za (fun k z hz=>hall3 k z (by have:=(List.getElem?_eq_some_iff.1 hz).1;omega) hz);rw[RI,if_pos rfl] at EF
   exact Qs 2 h109 hW108 rfl rfl rfl Tryz.underlying30 rfl infFault ⟨by show Ending.returned (.agg #[.int .i64 (y.fin.form x.blocks.length),.int .i64 (10000*(fi:Int)+100*(bi:Int)+91)])=_;rw[EF];simp[atF,hc104],hW108.bel⟩
  have h9:(y.fin.form x.blocks.length)=0:=bne_eq_false_iff_eq.1 hb;have hc110:Hid ((y.fin.form x.blocks.length)=0):=h9;clear h9;clear hb;refine wp_skip ?_;refine hK98 _ _ ?_;refine wp_seq_k fun K111 hK111=>?_;refine rg h103 fun ops=>?_;clear h103 a103;intro a112 h112;refine QG (t:=111) (v:=.agg #[.int .i64 0,.int .i64 0]) (w':=w100) h112 rfl rfl rfl (fun K hK=>?_) ?_
  ·go_simp
   exact hK
  clear h112;intro a113 hF113;refine St.go hF113 ?_;clear hF113 a113;refine sT 2 hW100 rfl rfl infFault rfl rfl rfl ?_;clear hW100;intro w114 hW114;refine St.nil fun a115 h115=>?_;refine hK111 _ _ ?_;refine wp_ret ?_;with_reducible repeat first | refine Qd ?_ | refine Qc ?_
  have:=hc44.out
  have:=hc48.out
  have:=hc57.out
  have:=hc110.out
  have RC:y.code' x bi=0:=(if_neg (by omega)).trans ((if_neg (by omega)).trans ((if_neg (fun h9=>QaT ⟨by omega,hc66⟩ h9.2)).trans ((if_neg (by omega)).trans (rfl))));have EF:=Qh.fault_eq m.length fi x bi y;rw[if_pos RC] at EF
  have RI:firstF (fun i z=>(Qv.form m.length z,(10000*fi+100*bi+i:Int))) 0 y.code=(0,0):=Za (fun k z hz=>hall3 k z (by have:=(List.getElem?_eq_some_iff.1 hz).1;omega) hz);rw[RI,if_pos rfl] at EF
  exact Qs 2 h115 hW114 rfl rfl rfl Tryz.underlying30 rfl infFault ⟨by show Ending.returned (.agg #[.int .i64 0,.int .i64 0])=_;rw[EF];simp[atF,hc110.out],hW114.bel⟩
 rw[hb] at h47
 have h9:¬ bi=0:=by have h8:=ne_of_beq_false hb;omega
 have hc116:¬ bi=0:=h9;clear h9;clear hb;refine St.go h47 ?_;clear h47 a47;refine so hg2 rfl rfl rfl rfl ?_;refine so hg2 rfl rfl rfl rfl ?_;refine so hg2 rfl rfl rfl rfl ?_;refine so hg2 rfl rfl rfl rfl ?_;refine so hg2 rfl rfl rfl rfl ?_;refine so hg2 rfl rfl rfl rfl ?_;refine so hg8 rfl rfl rfl rfl ?_;refine so hg8 rfl rfl rfl rfl ?_;refine so hg8 rfl rfl rfl rfl ?_;refine so hg8 rfl rfl rfl rfl ?_;refine so hg8 rfl rfl rfl rfl ?_;refine so hg8 rfl rfl rfl rfl ?_;refine so hg2 rfl rfl rfl rfl ?_;refine spf trivial rfl rfl rfl ?_;refine St.nil fun a117 h117=>?_;refine hK46 _ _ ?_;refine Qbl (t:=65) h117 rfl ?_;refine wp_skip ?_;refine hK45 _ _ ?_;refine wp_seq_k fun K118 hK118=>?_;refine wp_seq_k fun K119 hK119=>?_;refine rg h117 fun ops=>?_;clear h117 a117;refine ZI trivial rfl rfl ?_;refine Qbm 0 hW34 trivial rfl rfl rfl rfl ?_;refine Qbs trivial rfl rfl ?_;refine sgt trivial rfl rfl rfl ?_;refine St.nil fun a120 h120=>?_;refine hK119 _ _ ?_;refine Qg (t:=73) h120 rfl (fun hb=>?_) (fun hb=>?_)
 ·have hc121:40<y.code.length:=by have:=of_decide_eq_true hb;omega
  clear hb;refine wp_seq_k fun K122 hK122=>?_;refine rg h120 fun ops=>?_;clear h120 a120;refine sm trivial rfl rfl ?_;refine sm trivial rfl rfl ?_;refine Qau cf108 hW34 (ZW (f:=fi) (b:=bi) ⟨by omega,by omega⟩) trivial rfl rfl rfl ?_;clear hW34;intro w123 hW123;refine Qau cf50 hW123 (ZT (xc:=2) (xp:=10000*(fi:Int)+100*(bi:Int)+90)) trivial rfl rfl rfl ?_;clear hW123;intro w124 hW124;refine sT 2 hW124 rfl rfl infFault rfl rfl rfl ?_;clear hW124;intro w125 hW125;refine St.nil fun a126 h126=>?_;refine hK122 _ _ ?_;refine wp_ret ?_;with_reducible repeat first | refine Qd ?_ | refine Qc ?_
  have:=hc44.out
  have RC:y.code' x bi=2:=(if_neg (by omega)).trans ((if_neg (by omega)).trans ((if_neg (by omega)).trans (if_pos (by omega))));have EF:=Qh.fault_eq m.length fi x bi y;rw[RC,if_neg (by omega)] at EF
  exact Qs 2 h126 hW125 rfl rfl rfl Tryz.underlying30 rfl infFault ⟨by show Ending.returned (.agg #[.int .i64 2,.int .i64 (10000*(fi:Int)+100*(bi:Int)+90)])=_;rw[EF],hW125.bel⟩
 have hc127:¬ (40<y.code.length):=by have:=of_decide_eq_false hb;omega
 clear hb;refine wp_skip ?_;refine hK118 _ _ ?_;refine wp_seq_k fun K128 hK128=>?_;refine wp_seq_k fun K129 hK129=>?_;refine rg h120 fun ops=>?_;clear h120 a120;refine sa trivial rfl rfl ?_;refine St.nil fun a130 h130=>?_;refine hK129 _ _ ?_;refine wp_block ?_;refine Zi (fun r a w'=>∃ q:Nat,q≤y.code.length∧r=y.code.length - q∧(∀ (j:Nat) z,j<q→y.code[j]?=some z→Qv.form m.length z=0)∧Fr 112 a [(2,.int .i64 (bi:Int)),(1,.int .i64 (fi:Int)),(0,.agg #[.slice p m.length c]),(3,.pointer (some ⟨B2,0,none⟩)),(6,.pointer (some ⟨B3,0,none⟩)),(7,.pointer (some ⟨B6,0,none⟩)),(8,.pointer (some ⟨B10,0,none⟩)),(9,.int .i64 (listC y.regs y.params)),(10,.int .i64 (q:Int))]∧Wd w w' [(B10,#[.int .i64 y.regs,.slice b2.pP y.params.length b2.cP,.slice b2.pC y.code.length b2.cC,.int .i64 y.fin.op,.int .i64 y.fin.a,.int .i64 y.fin.yes.block,.slice b2.e.pYR y.fin.yes.regs.length b2.e.cYR,.slice b2.e.pYA y.fin.yes.args.length b2.e.cYA,.int .i64 y.fin.no.block,.slice b2.e.pNR y.fin.no.regs.length b2.e.cNR,.slice b2.e.pNA y.fin.no.args.length b2.e.cNA,.slice b2.e.pA y.fin.args.length b2.e.cA],84),(B6,#[.int .i64 x.regs,.slice f1.pP x.params.length f1.cP,.slice f1.pR x.results.length f1.cR,.slice f1.pB x.blocks.length f1.cB],55),(B3,#[.int .i64 0,.int .i64 0],30),(B2,#[.slice p m.length c],24)]) (y.code.length) ⟨0,Nat.zero_le _,rfl,(fun j z hj=>by omega),(h130.keep (h130.keep (h130.keep (h130.keep (h130.keep (h130.keep (h130.keep (h130.keep (h130.keep h130.nil (t:=10) rfl) (t:=9) rfl) (t:=8) rfl) (t:=7) rfl) (t:=6) rfl) (t:=3) rfl) (t:=0) rfl) (t:=1) rfl) (t:=2) rfl),hW34⟩ ?_;clear h130 hW34;rintro r3 a131 w131 ⟨q,hq3,hr3,hall3,hF131,hW131⟩ KL3 hKL3;refine wp_seq_k fun K132 hK132=>?_;refine wp_seq_k fun K133 hK133=>?_;refine rg hF131 fun ops=>?_;clear hF131 a131;refine sm trivial rfl rfl ?_;refine ZI trivial rfl rfl ?_;refine Qbm 0 hW131 trivial rfl rfl rfl rfl ?_;refine Qbs trivial rfl rfl ?_;refine slt trivial rfl rfl rfl ?_;refine St.nil fun a134 h134=>?_;refine hK133 _ _ ?_;refine Qg (t:=82) h134 rfl (fun hb=>?_) (fun hb=>?_)
 ·have hlt3:q<y.code.length:=by have:=of_decide_eq_true hb;omega
  clear hb;obtain⟨z,hx3⟩:∃ v9,(y.code)[q]?=some v9:=⟨_,List.getElem?_eq_getElem hlt3⟩
  obtain⟨g3,o3,i3,hp3,E3,In3⟩:=QeZ In2.out.code hx3
  replace In3:Hid _:=In3;replace hp3:Hid _:=hp3;replace hx3:Hid _:=hx3;replace E3:Hid _:=E3;refine wp_skip ?_;refine hK132 _ _ ?_;refine wp_seq_k fun K135 hK135=>?_;refine wp_block ?_;refine wp_seq_k fun K136 hK136=>?_;have hF137:Fr 112 a134 [(2,.int .i64 (bi:Int)),(1,.int .i64 (fi:Int)),(0,.agg #[.slice p m.length c]),(3,.pointer (some ⟨B2,0,none⟩)),(6,.pointer (some ⟨B3,0,none⟩)),(7,.pointer (some ⟨B6,0,none⟩)),(8,.pointer (some ⟨B10,0,none⟩)),(9,.int .i64 (listC y.regs y.params)),(10,.int .i64 (q:Int))]:=(h134.keep (h134.keep (h134.keep (h134.keep (h134.keep (h134.keep (h134.keep (h134.keep (h134.keep h134.nil (t:=10) rfl) (t:=9) rfl) (t:=8) rfl) (t:=7) rfl) (t:=6) rfl) (t:=3) rfl) (t:=0) rfl) (t:=1) rfl) (t:=2) rfl);have ho3:a134.tmps.getD 3 undef=.pointer (some ⟨B2,0,none⟩):=h134.sl 3 _ rfl;have ho8:a134.tmps.getD 8 undef=.pointer (some ⟨B10,0,none⟩):=h134.sl 8 _ rfl;have ho10:a134.tmps.getD 10 undef=.int .i64 (q:Int):=h134.sl 10 _ rfl;refine QaS 8 ([(3,fun v _=>v=.pointer (some ⟨B2,0,none⟩)),(8,fun v _=>v=.pointer (some ⟨B10,0,none⟩)),(10,fun v _=>v=.int .i64 (q:Int)),(85,fun v _=>v=.agg #[.slice p m.length c]),(86,fun v _=>v=.pointer (some ⟨B10,2,none⟩)),(87,fun v _=>v=.slice b2.pC y.code.length b2.cC),(88,fun v _=>v=.int .i64 (q:Int)),(89,fun v _=>v=.pointer (some ⟨g3,o3+q*8,none⟩)),(90,fun v _=>v=.agg #[.int .i64 z.op,.int .i64 z.a,.int .i64 z.b,.int .i64 z.c,.int .i64 z.k,.int .i64 z.n,.slice i3.pR z.regs.length i3.cR,.slice i3.pA z.args.length i3.cA]),(91,fun v _=>v=.int .i64 (Qv.form m.length z)),(11,fun v _=>v=.int .i64 (Qv.form m.length z))]:Qbp) (fun w'=>Wd w w' [(B10,#[.int .i64 y.regs,.slice b2.pP y.params.length b2.cP,.slice b2.pC y.code.length b2.cC,.int .i64 y.fin.op,.int .i64 y.fin.a,.int .i64 y.fin.yes.block,.slice b2.e.pYR y.fin.yes.regs.length b2.e.cYR,.slice b2.e.pYA y.fin.yes.args.length b2.e.cYA,.int .i64 y.fin.no.block,.slice b2.e.pNR y.fin.no.regs.length b2.e.cNR,.slice b2.e.pNA y.fin.no.args.length b2.e.cNA,.slice b2.e.pA y.fin.args.length b2.e.cA],84),(B6,#[.int .i64 x.regs,.slice f1.pP x.params.length f1.cP,.slice f1.pR x.results.length f1.cR,.slice f1.pB x.blocks.length f1.cB],55),(B3,#[.int .i64 0,.int .i64 0],30),(B2,#[.slice p m.length c],24)]∧Below w131.heap.size w131 w') (fun w w'=>Below w.heap.size w w') (outs:=[3,8,10]) (gs:=[]) (bs:=[true,true,true,true,true,true,true,true]) (by kernel_rfl) hF137 rfl (by kernel_rfl) (by kernel_rfl) ?hR ?hG ⟨hW131.drewN 1,Zv (m:=1) (Below.refl _ _)⟩ ⟨ho3,ho8,ho10,trivial⟩ ?hA ?hend
  case hR=>exact⟨fun _ _ _ _ h=>h,fun _ _ _ _ h=>h,fun _ _ _ _ h=>h,fun _ _ _ _ h=>h,fun _ _ _ _ h=>h,fun _ _ _ _ h=>h,fun _ _ _ _ h=>h,fun _ _ _ _ h=>h,fun _ _ _ _ h=>h,fun _ _ _ _ h=>h,fun _ _ _ _ h=>h,trivial⟩
  case hG=>exact trivial
  case hA =>
   refine⟨fun a w hW hk K hK=>?_,?_⟩
   ·obtain⟨k0,-⟩:=hk
    have k0:a.tmps.getD 3 undef=.pointer (some ⟨B2,0,none⟩):=k0;have c0:w.cell? ⟨B2,0,none⟩=some (.slice p m.length c):=Qb (hW.1.get 3 rfl) 0 _ rfl;go_simp;exact hK _ _ (Below.refl _ _) hW rfl
   refine⟨fun a w hW hk K hK=>?_,?_⟩
   ·obtain⟨k0,-⟩:=hk
    have k0:a.tmps.getD 8 undef=.pointer (some ⟨B10,0,none⟩):=k0;go_simp;exact hK _ _ (Below.refl _ _) hW rfl
   refine⟨fun a w hW hk K hK=>?_,?_⟩
   ·obtain⟨k0,-⟩:=hk
    have k0:a.tmps.getD 86 undef=.pointer (some ⟨B10,2,none⟩):=k0;have c2:w.cell? ⟨B10,2,none⟩=some (.slice b2.pC y.code.length b2.cC):=Qb (hW.1.get 0 rfl) 2 _ rfl;go_simp;exact hK _ _ (Below.refl _ _) hW rfl
   refine⟨fun a w hW hk K hK=>?_,?_⟩
   ·obtain⟨k0,-⟩:=hk
    have k0:a.tmps.getD 10 undef=.int .i64 (q:Int):=k0;go_simp;exact hK _ _ (Below.refl _ _) hW rfl
   refine⟨fun a w hW hk K hK=>?_,?_⟩
   ·obtain⟨k0,k1,-⟩:=hk
    have k0:a.tmps.getD 87 undef=.slice b2.pC y.code.length b2.cC:=k0;have k1:a.tmps.getD 88 undef=.int .i64 (q:Int):=k1;have hpq:=hp3.out;have hk0:(0:Int)≤q:=by omega
    have hk1:(q:Int)<(y.code.length:Int):=by omega
    go_simp;exact hK _ _ (Below.refl _ _) hW rfl
   refine⟨fun a w hW hk K hK=>?_,?_⟩
   ·obtain⟨k0,-⟩:=hk
    have k0:a.tmps.getD 89 undef=.pointer (some ⟨g3,o3+q*8,none⟩):=k0;have d0:w.cell? ⟨g3,o3+q*8,none⟩=some (.int .i64 z.op):=QW hW.1.bel (E3.out 0 _ rfl);have d1:w.cell? ⟨g3,o3+q*8+1,none⟩=some (.int .i64 z.a):=QW hW.1.bel (E3.out 1 _ rfl);have d2:w.cell? ⟨g3,o3+q*8+2,none⟩=some (.int .i64 z.b):=QW hW.1.bel (E3.out 2 _ rfl);have d3:w.cell? ⟨g3,o3+q*8+3,none⟩=some (.int .i64 z.c):=QW hW.1.bel (E3.out 3 _ rfl);have d4:w.cell? ⟨g3,o3+q*8+4,none⟩=some (.int .i64 z.k):=QW hW.1.bel (E3.out 4 _ rfl);have d5:w.cell? ⟨g3,o3+q*8+5,none⟩=some (.int .i64 z.n):=QW hW.1.bel (E3.out 5 _ rfl);have d6:w.cell? ⟨g3,o3+q*8+6,none⟩=some (.slice i3.pR z.regs.length i3.cR):=QW hW.1.bel (E3.out 6 _ rfl);have d7:w.cell? ⟨g3,o3+q*8+7,none⟩=some (.slice i3.pA z.args.length i3.cA):=QW hW.1.bel (E3.out 7 _ rfl);go_simp;exact hK _ _ (Below.refl _ _) hW rfl
   refine⟨fun a w hW hk K hK=>?_,?_⟩
   ·obtain⟨k0,k1,-⟩:=hk
    have k0:a.tmps.getD 85 undef=.agg #[.slice p m.length c]:=k0;have k1:a.tmps.getD 90 undef=.agg #[.int .i64 z.op,.int .i64 z.a,.int .i64 z.b,.int .i64 z.c,.int .i64 z.k,.int .i64 z.n,.slice i3.pR z.regs.length i3.cR,.slice i3.pA z.args.length i3.cA]:=k1;have hC:Rd Tryz.prog 72 #[.agg #[.slice p m.length c],.agg #[.int .i64 z.op,.int .i64 z.a,.int .i64 z.b,.int .i64 z.c,.int .i64 z.k,.int .i64 z.n,.slice i3.pR z.regs.length i3.cR,.slice i3.pA z.args.length i3.cA]] w (.int .i64 (Qv.form m.length z)):=QbR m.length z i3 p c w;go_simp;refine hC.mono ?_;rintro e w9 ⟨rfl,hb⟩;exact hK _ _ hb ⟨hW.1.below hb,Below.andThen hW.2 hb⟩ rfl
   refine⟨fun a w hW hk K hK=>?_,?_⟩
   ·obtain⟨k0,-⟩:=hk
    have k0:a.tmps.getD 91 undef=.int .i64 (Qv.form m.length z):=k0;go_simp;exact hK _ _ (Below.refl _ _) hW rfl
   trivial
  case hend =>
   intro ops a138 w138 hWD hE hFD;have hd11:a138.tmps.getD 11 undef=.int .i64 (Qv.form m.length z):=hE 11 rfl;have hF138:Fr 112 a138 [(11,.int .i64 (Qv.form m.length z)),(2,.int .i64 (bi:Int)),(1,.int .i64 (fi:Int)),(0,.agg #[.slice p m.length c]),(3,.pointer (some ⟨B2,0,none⟩)),(6,.pointer (some ⟨B3,0,none⟩)),(7,.pointer (some ⟨B6,0,none⟩)),(8,.pointer (some ⟨B10,0,none⟩)),(9,.int .i64 (listC y.regs y.params)),(10,.int .i64 (q:Int))]:=(hFD.cons hd11);clear hd11;have hW138:Wd w w138 [(B10,#[.int .i64 y.regs,.slice b2.pP y.params.length b2.cP,.slice b2.pC y.code.length b2.cC,.int .i64 y.fin.op,.int .i64 y.fin.a,.int .i64 y.fin.yes.block,.slice b2.e.pYR y.fin.yes.regs.length b2.e.cYR,.slice b2.e.pYA y.fin.yes.args.length b2.e.cYA,.int .i64 y.fin.no.block,.slice b2.e.pNR y.fin.no.regs.length b2.e.cNR,.slice b2.e.pNA y.fin.no.args.length b2.e.cNA,.slice b2.e.pA y.fin.args.length b2.e.cA],84),(B6,#[.int .i64 x.regs,.slice f1.pP x.params.length f1.cP,.slice f1.pR x.results.length f1.cR,.slice f1.pB x.blocks.length f1.cB],55),(B3,#[.int .i64 0,.int .i64 0],30),(B2,#[.slice p m.length c],24)]:=hWD.1;clear hFD hWD hE hF137 h134;clear hW131;refine wpList_nil ?_;refine hK136 _ _ ?_;refine wp_seq_k fun K139 hK139=>?_;refine rg hF138 fun ops=>?_;clear hF138 a138;refine sm trivial rfl rfl ?_;refine sne trivial rfl rfl rfl ?_;refine St.nil fun a140 h140=>?_;refine hK139 _ _ ?_;refine Qg (t:=93) h140 rfl (fun hb=>?_) (fun hb=>?_)
   ·have h9:¬ (Qv.form m.length z)=0:=bne_iff_ne.1 hb
    have hc141:¬ (Qv.form m.length z)=0:=h9;clear h9;clear hb;refine wp_seq_k fun K142 hK142=>?_;refine rg h140 fun ops=>?_;clear h140 a140;refine sm trivial rfl rfl ?_;refine sm trivial rfl rfl ?_;refine sm trivial rfl rfl ?_;refine sm trivial rfl rfl ?_;refine Qgn cf109 hW138 (Qe0 (f:=fi) (b:=bi) (i:=q) ⟨by omega,by omega,by omega⟩) trivial rfl rfl rfl rfl ?_;clear hW138;intro w143 hW143;refine Qau cf50 hW143 (ZT (xc:=Qv.form m.length z) (xp:=10000*(fi:Int)+100*(bi:Int)+(q:Int))) trivial rfl rfl rfl ?_;clear hW143;intro w144 hW144;refine sT 2 hW144 rfl rfl infFault rfl rfl rfl ?_;clear hW144;intro w145 hW145;refine St.nil fun a146 h146=>?_;refine hK142 _ _ ?_;refine wp_ret ?_;with_reducible repeat first | refine Qd ?_ | refine Qc ?_
    have:=hc44.out
    have RC:y.code' x bi=0:=(if_neg (by omega)).trans ((if_neg (by omega)).trans ((if_neg (by omega)).trans ((if_neg (by omega)).trans (rfl))));have EF:=Qh.fault_eq m.length fi x bi y;rw[if_pos RC] at EF
    have RI:firstF (fun i z=>(Qv.form m.length z,(10000*fi+100*bi+i:Int))) 0 y.code=(Qv.form m.length z,(10000*fi+100*bi+q:Int)):=by
     have h9:=QV (f:=fun i z=>(Qv.form m.length z,(10000*fi+100*bi+i:Int))) (j:=0) hx3.out (fun k z hk hz=>hall3 k z hk hz) hc141;rwa [Nat.zero_add] at h9
    rw[RI,if_neg hc141] at EF
    exact Qs 2 h146 hW145 rfl rfl rfl Tryz.underlying30 rfl infFault ⟨by show Ending.returned (.agg #[.int .i64 (Qv.form m.length z),.int .i64 (10000*(fi:Int)+100*(bi:Int)+(q:Int))])=_;rw[EF],hW145.bel⟩
   have h9:(Qv.form m.length z)=0:=bne_eq_false_iff_eq.1 hb;have hc147:Hid ((Qv.form m.length z)=0):=h9;clear h9;clear hb;refine wp_skip ?_;refine hK135 _ _ ?_;refine rg h140 fun ops=>?_;clear h140 a140;refine sm trivial rfl rfl ?_;refine sad (by omega) trivial rfl rfl rfl ?_;refine sa trivial rfl rfl ?_;refine St.nil fun a148 h148=>?_;refine hKL3 _ _ (y.code.length - (q+1)) (by omega) ⟨q+1,by omega,rfl,?_,(h148.keep (h148.keep (h148.keep (h148.keep (h148.keep (h148.keep (h148.keep (h148.keep (h148.keep h148.nil (t:=10) rfl) (t:=9) rfl) (t:=8) rfl) (t:=7) rfl) (t:=6) rfl) (t:=3) rfl) (t:=0) rfl) (t:=1) rfl) (t:=2) rfl),hW138⟩
   ·intro j z hj hz
    by_cases e:j=q
    ·subst e;rw[hx3.out] at hz;cases hz;exact hc147.out
    ·exact hall3 j z (by omega) hz
 have hge3:q=y.code.length:=by have:=of_decide_eq_false hb;omega
 clear hb;refine wp_exit ?_;refine hK128 _ _ ?_;refine wp_seq_k fun K149 hK149=>?_;refine wp_seq_k fun K150 hK150=>?_;refine rg h134 fun ops=>?_;clear h134 a134;refine sS 1 4 Tryz.underlying55 rfl infFunc hW131 trivial rfl rfl rfl rfl ?_;refine Qat trivial rfl rfl ?_;refine sS 0 9 Tryz.underlying47 rfl infEnd hW131 trivial rfl rfl rfl rfl ?_;refine Qau cf79 hW131 (QbW (x:=y.fin) (e:=b2.e) (fr:=x.regs) (fp:=f1.pP) (fl:=x.params.length) (fc:=f1.cP) (fq:=f1.pR) (fm:=x.results.length) (fd:=f1.cR) (fb:=f1.pB) (bl:=x.blocks.length) (fe:=f1.cB) (by have:=hs2.out.2.2.1;exact⟨by have:=this.1.1;omega,by have:=this.1.2;omega,by have:=this.2.1.1;omega,by have:=this.2.1.2;omega⟩) (by have:=hs1.out.1;omega)) trivial rfl rfl rfl ?_;clear hW131;intro w151 hW151;refine sa trivial rfl rfl ?_;refine St.nil fun a152 h152=>?_;refine hK150 _ _ ?_;refine wp_seq_k fun K153 hK153=>?_;refine rg h152 fun ops=>?_;clear h152 a152;refine sm trivial rfl rfl ?_;refine sne trivial rfl rfl rfl ?_;refine St.nil fun a154 h154=>?_;refine hK153 _ _ ?_;refine Qg (t:=105) h154 rfl (fun hb=>?_) (fun hb=>?_)
 ·have h9:¬ (y.fin.form x.blocks.length)=0:=bne_iff_ne.1 hb
  have hc155:¬ (y.fin.form x.blocks.length)=0:=h9;clear h9;clear hb;refine wp_seq_k fun K156 hK156=>?_;refine rg h154 fun ops=>?_;clear h154 a154;refine sm trivial rfl rfl ?_;refine sm trivial rfl rfl ?_;refine sm trivial rfl rfl ?_;refine Qau cf110 hW151 (QeT (f:=fi) (b:=bi) ⟨by omega,by omega⟩) trivial rfl rfl rfl ?_;clear hW151;intro w157 hW157;refine Qau cf50 hW157 (ZT (xc:=y.fin.form x.blocks.length) (xp:=10000*(fi:Int)+100*(bi:Int)+91)) trivial rfl rfl rfl ?_;clear hW157;intro w158 hW158;refine sT 2 hW158 rfl rfl infFault rfl rfl rfl ?_;clear hW158;intro w159 hW159;refine St.nil fun a160 h160=>?_;refine hK156 _ _ ?_;refine wp_ret ?_;with_reducible repeat first | refine Qd ?_ | refine Qc ?_
  have:=hc44.out
  have RC:y.code' x bi=0:=(if_neg (by omega)).trans ((if_neg (by omega)).trans ((if_neg (by omega)).trans ((if_neg (by omega)).trans (rfl))));have EF:=Qh.fault_eq m.length fi x bi y;rw[if_pos RC] at EF
  have RI:firstF (fun i z=>(Qv.form m.length z,(10000*fi+100*bi+i:Int))) 0 y.code=(0,0):=Za (fun k z hz=>hall3 k z (by have:=(List.getElem?_eq_some_iff.1 hz).1;omega) hz);rw[RI,if_pos rfl] at EF
  exact Qs 2 h160 hW159 rfl rfl rfl Tryz.underlying30 rfl infFault ⟨by show Ending.returned (.agg #[.int .i64 (y.fin.form x.blocks.length),.int .i64 (10000*(fi:Int)+100*(bi:Int)+91)])=_;rw[EF];simp[atF,hc155],hW159.bel⟩
 have h9:(y.fin.form x.blocks.length)=0:=bne_eq_false_iff_eq.1 hb;have hc161:Hid ((y.fin.form x.blocks.length)=0):=h9;clear h9;clear hb;refine wp_skip ?_;refine hK149 _ _ ?_;refine wp_seq_k fun K162 hK162=>?_;refine rg h154 fun ops=>?_;clear h154 a154;intro a163 h163;refine QG (t:=111) (v:=.agg #[.int .i64 0,.int .i64 0]) (w':=w151) h163 rfl rfl rfl (fun K hK=>?_) ?_
 ·go_simp
  exact hK
 clear h163;intro a164 hF164;refine St.go hF164 ?_;clear hF164 a164;refine sT 2 hW151 rfl rfl infFault rfl rfl rfl ?_;clear hW151;intro w165 hW165;refine St.nil fun a166 h166=>?_;refine hK162 _ _ ?_;refine wp_ret ?_;with_reducible repeat first | refine Qd ?_ | refine Qc ?_
 have:=hc44.out
 have:=hc161.out
 have RC:y.code' x bi=0:=(if_neg (by omega)).trans ((if_neg (by omega)).trans ((if_neg (by omega)).trans ((if_neg (by omega)).trans (rfl))));have EF:=Qh.fault_eq m.length fi x bi y;rw[if_pos RC] at EF
 have RI:firstF (fun i z=>(Qv.form m.length z,(10000*fi+100*bi+i:Int))) 0 y.code=(0,0):=Za (fun k z hz=>hall3 k z (by have:=(List.getElem?_eq_some_iff.1 hz).1;omega) hz);rw[RI,if_pos rfl] at EF
 exact Qs 2 h166 hW165 rfl rfl rfl Tryz.underlying30 rfl infFault ⟨by show Ending.returned (.agg #[.int .i64 0,.int .i64 0])=_;rw[EF];simp[atF,hc161.out],hW165.bel⟩
def plB {n:Nat}(x:Qe n) (q:Nat):Bool:=(x.regs==0&&((x.params.length:Int)==0))&&(x.results.take q).all (fun t=>t.kind==1)
theorem Qgu {n:Nat}(x:Qe n):plB x 0=(x.regs==0&&((x.params.length:Int)==0)):=by simp[plB]
theorem QcZ {n:Nat}{x:Qe n}{q:Nat}{t:TT n}(h:x.results[q]?=some t):plB x (q+1)=(plB x q&&t.kind==1):=by
 unfold plB;rw[List.take_add_one,h,List.all_append]
 simp[Bool.and_assoc]
theorem Qeq {n:Nat}(x:Qe n):plB x x.results.length=true↔x.begins:=by
 unfold plB Qe.begins;rw[List.take_length]
 simp only[Bool.and_eq_true,beq_iff_eq]
 constructor
 ·rintro ⟨⟨h1,h2⟩,h3⟩;exact⟨h1,by omega,h3⟩
 ·rintro ⟨h1,h2,h3⟩;exact⟨⟨h1,by omega⟩,h3⟩
theorem Qbj {n:Nat}{m:List (Qe n)}{p:Option Addr}{c:Nat}{w:World}(hm0:(QaF n).In w All m [.slice p m.length c]) (hs0:Qc3 m) :
 Rd Tryz.prog 21 #[.agg #[.slice p m.length c]] w (Qad (modFault m)):=by
 have hm:Hid _:=hm0;have hms:Hid _:=hs0;have hmb:=hs0.1;clear hm0 hs0;refine Qq (n:=129) Tryz.func21 rfl rfl rfl ?_;intro a hF;have hW:=Wd.start w;replace hF:Fr 129 a [(0,.agg #[.slice p m.length c])]:=hF;refine wp_seq_k fun K1 hK1=>?_;refine rg hF fun ops=>?_;clear hF a;refine sB hW trivial rfl rfl ?_;clear hW;intro w2 B2 hW2 hN;clear hN;refine Zs hW2 trivial rfl ?_;clear hW2;intro w3 B3 hW3 hN;clear hN;refine St.nil fun a4 h4=>?_;refine hK1 _ _ ?_;refine wp_seq_k fun K5 hK5=>?_;refine wp_seq_k fun K6 hK6=>?_;refine Qz ?_;intro ops hops;have hg4:(ops[4]?).bind (fun o:Oper=>o.dst)=some 15:=hops 4;clear hops;refine St.go h4 ?_;clear h4 a4;refine Zq trivial rfl rfl ?_;refine Qai 1 hW3 trivial rfl rfl rfl rfl ?_;refine QaA trivial rfl rfl ?_;refine slt trivial rfl rfl rfl ?_;refine sm trivial rfl rfl ?_;intro a7 h7;rcases Bool.eq_false_or_eq_true (decide ((m.length:Int)<1)) with hb | hb
 ·rw[hb] at h7
  have hc8:m.length<1:=by have:=of_decide_eq_true hb;omega
  clear hb;refine St.go h7 ?_;clear h7 a7;refine so hg4 rfl rfl rfl rfl ?_;refine so hg4 rfl rfl rfl rfl ?_;refine so hg4 rfl rfl rfl rfl ?_;refine so hg4 rfl rfl rfl rfl ?_;refine sp trivial rfl rfl rfl ?_;refine St.nil fun a9 h9=>?_;refine hK6 _ _ ?_;refine QU (t:=20) h9 rfl ?_;refine wp_seq_k fun K10 hK10=>?_;refine rg h9 fun ops=>?_;clear h9 a9;refine Qau cf50 hW3 (ZT (xc:=2) (xp:=-1)) trivial rfl rfl rfl ?_;clear hW3;intro w11 hW11;refine sT 0 hW11 rfl rfl infFault rfl rfl rfl ?_;clear hW11;intro w12 hW12;refine St.nil fun a13 h13=>?_;refine hK10 _ _ ?_;refine wp_ret ?_;with_reducible repeat first | refine Qd ?_ | refine Qc ?_
  have R:modFault m=(2,-1):=if_pos (by omega);exact Qs 0 h13 hW12 rfl rfl rfl Tryz.underlying30 rfl infFault ⟨by show Ending.returned (.agg #[.int .i64 2,.int .i64 (-1)])=_;rw[R],hW12.bel⟩
 rw[hb] at h7
 have hc14:¬ (m.length<1):=by have:=of_decide_eq_false hb;omega
 clear hb;refine St.go h7 ?_;clear h7 a7;refine Zq ⟨_,hg4,rfl,rfl⟩ rfl rfl ?_;refine Qai 1 hW3 ⟨_,hg4,rfl,rfl⟩ rfl rfl rfl rfl ?_;refine QaA ⟨_,hg4,rfl,rfl⟩ rfl rfl ?_;refine sgt ⟨_,hg4,rfl,rfl⟩ rfl rfl rfl ?_;refine spf trivial rfl rfl rfl ?_;refine St.nil fun a15 h15=>?_;refine hK6 _ _ ?_;refine Qg (t:=20) h15 rfl (fun hb=>?_) (fun hb=>?_)
 ·have hc16:8<m.length:=by have:=of_decide_eq_true hb;omega
  clear hb;refine wp_seq_k fun K17 hK17=>?_;refine rg h15 fun ops=>?_;clear h15 a15;refine Qau cf50 hW3 (ZT (xc:=2) (xp:=-1)) trivial rfl rfl rfl ?_;clear hW3;intro w18 hW18;refine sT 0 hW18 rfl rfl infFault rfl rfl rfl ?_;clear hW18;intro w19 hW19;refine St.nil fun a20 h20=>?_;refine hK17 _ _ ?_;refine wp_ret ?_;with_reducible repeat first | refine Qd ?_ | refine Qc ?_
  have R:modFault m=(2,-1):=if_pos (by omega);exact Qs 0 h20 hW19 rfl rfl rfl Tryz.underlying30 rfl infFault ⟨by show Ending.returned (.agg #[.int .i64 2,.int .i64 (-1)])=_;rw[R],hW19.bel⟩
 have hc21:¬ (8<m.length):=by have:=of_decide_eq_false hb;omega
 clear hb;refine wp_skip ?_;refine hK5 _ _ ?_;refine wp_seq_k fun K22 hK22=>?_;refine wp_seq_k fun K23 hK23=>?_;refine rg h15 fun ops=>?_;clear h15 a15;refine sa trivial rfl rfl ?_;refine St.nil fun a24 h24=>?_;refine hK23 _ _ ?_;refine wp_block ?_;refine Zi (fun r a w'=>∃ q1:Nat,q1≤m.length∧r=m.length - q1∧(∀ (j:Nat) z,j<q1→m[j]?=some z→(Qe.fault m.length j z).1=0)∧Fr 129 a [(0,.agg #[.slice p m.length c]),(1,.pointer (some ⟨B2,0,none⟩)),(2,.pointer (some ⟨B3,0,none⟩)),(3,.int .i64 (q1:Int))]∧Wd w w' [(B3,#[.int .i64 0,.int .i64 0],30),(B2,#[.slice p m.length c],24)]) (m.length) ⟨0,Nat.zero_le _,rfl,(fun j z hj=>by omega),(h24.keep (h24.keep (h24.keep (h24.keep h24.nil (t:=3) rfl) (t:=2) rfl) (t:=1) rfl) (t:=0) rfl),hW3⟩ ?_;clear h24 hW3;rintro r1 a25 w25 ⟨q1,hq1,hr1,hall1,hF25,hW25⟩ KL1 hKL1;refine wp_seq_k fun K26 hK26=>?_;refine wp_seq_k fun K27 hK27=>?_;refine rg hF25 fun ops=>?_;clear hF25 a25;refine sm trivial rfl rfl ?_;refine Zq trivial rfl rfl ?_;refine Qai 1 hW25 trivial rfl rfl rfl rfl ?_;refine QaA trivial rfl rfl ?_;refine slt trivial rfl rfl rfl ?_;refine St.nil fun a28 h28=>?_;refine hK27 _ _ ?_;refine Qg (t:=26) h28 rfl (fun hb=>?_) (fun hb=>?_)
 ·have hlt1:q1<m.length:=by have:=of_decide_eq_true hb;omega
  clear hb;obtain⟨x,hx1⟩:∃ v9,(m)[q1]?=some v9:=⟨_,List.getElem?_eq_getElem hlt1⟩
  obtain⟨g1,o1,f1,hp1,E1,In1⟩:=Qdt hm.out hx1
  replace In1:Hid _:=In1;replace hp1:Hid _:=hp1;replace hx1:Hid _:=hx1;replace E1:Hid _:=E1;have hs1:Hid x.small:=hms.out.2 _ (List.mem_of_getElem? hx1.out);have hxb:=hs1.out.1;have hrb:=hs1.out.2.2.1.1;refine wp_skip ?_;refine hK26 _ _ ?_;refine wp_seq_k fun K29 hK29=>?_;refine wp_block ?_;refine wp_seq_k fun K30 hK30=>?_;refine rg h28 fun ops=>?_;clear h28 a28;refine Zq trivial rfl rfl ?_;refine Qai 1 hW25 trivial rfl rfl rfl rfl ?_;refine sm trivial rfl rfl ?_;refine QcB hp1.out hlt1 trivial rfl rfl rfl ?_;refine sSE Tryz.underlying55 rfl (QJ E1.out hW25.bel) infFunc trivial rfl rfl ?_;refine QdP hW25 trivial rfl ?_;clear hW25;intro w31 B31 hW31 hN;clear hN;refine sT 0 hW31 rfl rfl infFunc rfl rfl rfl ?_;clear hW31;intro w32 hW32;refine St.nil fun a33 h33=>?_;refine hK30 _ _ ?_;refine wp_seq_k fun K34 hK34=>?_;refine wp_seq_k fun K35 hK35=>?_;refine Qz ?_;intro ops hops;have hg3:(ops[3]?).bind (fun o:Oper=>o.dst)=some 37:=hops 3;clear hops;refine St.go h33 ?_;clear h33 a33;refine Z4 trivial rfl rfl ?_;refine QN 0 hW32 trivial rfl rfl rfl rfl ?_;refine slt trivial rfl rfl rfl ?_;refine sm trivial rfl rfl ?_;intro a36 h36;rcases Bool.eq_false_or_eq_true (decide (x.regs<0)) with hb | hb
  ·rw[hb] at h36
   have hc37:x.regs<0:=of_decide_eq_true hb;clear hb;refine St.go h36 ?_;clear h36 a36;refine so hg3 rfl rfl rfl rfl ?_;refine so hg3 rfl rfl rfl rfl ?_;refine so hg3 rfl rfl rfl rfl ?_;refine sp trivial rfl rfl rfl ?_;refine St.nil fun a38 h38=>?_;refine hK35 _ _ ?_;refine QU (t:=41) h38 rfl ?_;refine wp_seq_k fun K39 hK39=>?_;refine rg h38 fun ops=>?_;clear h38 a38;refine sm trivial rfl rfl ?_;refine Qdu cf64 hW32 (ZX (f:=q1) (by omega)) trivial rfl rfl ?_;clear hW32;intro w40 hW40;refine Qau cf50 hW40 (ZT (xc:=1) (xp:=10000*(q1:Int)+9999)) trivial rfl rfl rfl ?_;clear hW40;intro w41 hW41;refine sT 1 hW41 rfl rfl infFault rfl rfl rfl ?_;clear hW41;intro w42 hW42;refine St.nil fun a43 h43=>?_;refine hK39 _ _ ?_;refine wp_ret ?_;with_reducible repeat first | refine Qd ?_ | refine Qc ?_
   have RM:(Qe.fault m.length q1 x).1≠0→modFault m=Qe.fault m.length q1 x:=fun hz=>(if_neg (by omega)).trans (by have h9:=QV (f:=fun f x=>Qe.fault m.length f x) (j:=0) hx1.out (fun k y hk hy=>by rw[Nat.zero_add];exact hall1 k y hk hy) (by rw[Nat.zero_add];exact hz);rwa [Nat.zero_add] at h9);have RC:x.code q1=1:=by exact if_pos (by omega)
   have EF:Qe.fault m.length q1 x=(1,10000*(q1:Int)+9999):=by rw[Qe.fault_eq,RC,if_neg (by omega)]
   exact Qs 1 h43 hW42 rfl rfl rfl Tryz.underlying30 rfl infFault ⟨by show Ending.returned (.agg #[.int .i64 1,.int .i64 (10000*(q1:Int)+9999)])=_;rw[RM (by rw[EF];show _≠_;omega),EF],hW42.bel⟩
  rw[hb] at h36
  have hc44:¬ (x.regs<0):=of_decide_eq_false hb;clear hb;refine St.go h36 ?_;clear h36 a36;refine Z4 ⟨_,hg3,rfl,rfl⟩ rfl rfl ?_;refine QN 0 hW32 ⟨_,hg3,rfl,rfl⟩ rfl rfl rfl rfl ?_;refine sgt ⟨_,hg3,rfl,rfl⟩ rfl rfl rfl ?_;refine spf trivial rfl rfl rfl ?_;refine St.nil fun a45 h45=>?_;refine hK35 _ _ ?_;refine Qg (t:=41) h45 rfl (fun hb=>?_) (fun hb=>?_)
  ·have hc46:6<x.regs:=of_decide_eq_true hb
   clear hb;refine wp_seq_k fun K47 hK47=>?_;refine rg h45 fun ops=>?_;clear h45 a45;refine sm trivial rfl rfl ?_;refine Qdu cf64 hW32 (ZX (f:=q1) (by omega)) trivial rfl rfl ?_;clear hW32;intro w48 hW48;refine Qau cf50 hW48 (ZT (xc:=1) (xp:=10000*(q1:Int)+9999)) trivial rfl rfl rfl ?_;clear hW48;intro w49 hW49;refine sT 1 hW49 rfl rfl infFault rfl rfl rfl ?_;clear hW49;intro w50 hW50;refine St.nil fun a51 h51=>?_;refine hK47 _ _ ?_;refine wp_ret ?_;with_reducible repeat first | refine Qd ?_ | refine Qc ?_
   have RM:(Qe.fault m.length q1 x).1≠0→modFault m=Qe.fault m.length q1 x:=fun hz=>(if_neg (by omega)).trans (by have h9:=QV (f:=fun f x=>Qe.fault m.length f x) (j:=0) hx1.out (fun k y hk hy=>by rw[Nat.zero_add];exact hall1 k y hk hy) (by rw[Nat.zero_add];exact hz);rwa [Nat.zero_add] at h9);have RC:x.code q1=1:=by exact if_pos (by omega)
   have EF:Qe.fault m.length q1 x=(1,10000*(q1:Int)+9999):=by rw[Qe.fault_eq,RC,if_neg (by omega)]
   exact Qs 1 h51 hW50 rfl rfl rfl Tryz.underlying30 rfl infFault ⟨by show Ending.returned (.agg #[.int .i64 1,.int .i64 (10000*(q1:Int)+9999)])=_;rw[RM (by rw[EF];show _≠_;omega),EF],hW50.bel⟩
  have hc52:¬ (6<x.regs):=of_decide_eq_false hb;clear hb;refine wp_skip ?_;refine hK34 _ _ ?_;refine wp_seq_k fun K53 hK53=>?_;refine wp_seq_k fun K54 hK54=>?_;refine rg h45 fun ops=>?_;clear h45 a45;refine Qba trivial rfl rfl ?_;refine Zc 0 hW32 trivial rfl rfl rfl rfl ?_;refine Z4 trivial rfl rfl ?_;refine QN 0 hW32 trivial rfl rfl rfl rfl ?_;refine Qau cf65 hW32 (Qbr (regs:=x.regs) (Lay.below In1.out.params hW32.bel) hs1.out.2.1) trivial rfl rfl rfl ?_;clear hW32;intro w55 hW55;refine sa trivial rfl rfl ?_;refine St.nil fun a56 h56=>?_;refine hK54 _ _ ?_;refine wp_seq_k fun K57 hK57=>?_;refine rg h56 fun ops=>?_;clear h56 a56;refine sm trivial rfl rfl ?_;refine sne trivial rfl rfl rfl ?_;refine St.nil fun a58 h58=>?_;refine hK57 _ _ ?_;refine Qg (t:=51) h58 rfl (fun hb=>?_) (fun hb=>?_)
  ·have h9:¬ (listC x.regs x.params)=0:=bne_iff_ne.1 hb
   have hc59:¬ (listC x.regs x.params)=0:=h9;clear h9;clear hb;refine wp_seq_k fun K60 hK60=>?_;refine rg h58 fun ops=>?_;clear h58 a58;refine sm trivial rfl rfl ?_;refine sm trivial rfl rfl ?_;refine Qdu cf64 hW55 (ZX (f:=q1) (by omega)) trivial rfl rfl ?_;clear hW55;intro w61 hW61;refine Qau cf50 hW61 (ZT (xc:=listC x.regs x.params) (xp:=10000*(q1:Int)+9999)) trivial rfl rfl rfl ?_;clear hW61;intro w62 hW62;refine sT 1 hW62 rfl rfl infFault rfl rfl rfl ?_;clear hW62;intro w63 hW63;refine St.nil fun a64 h64=>?_;refine hK60 _ _ ?_;refine wp_ret ?_;with_reducible repeat first | refine Qd ?_ | refine Qc ?_
   have RM:(Qe.fault m.length q1 x).1≠0→modFault m=Qe.fault m.length q1 x:=fun hz=>(if_neg (by omega)).trans (by have h9:=QV (f:=fun f x=>Qe.fault m.length f x) (j:=0) hx1.out (fun k y hk hy=>by rw[Nat.zero_add];exact hall1 k y hk hy) (by rw[Nat.zero_add];exact hz);rwa [Nat.zero_add] at h9);have RC:x.code q1=listC x.regs x.params:=by exact(if_neg (by omega)).trans (if_pos (by omega))
   have EF:Qe.fault m.length q1 x=(listC x.regs x.params,10000*(q1:Int)+9999):=by rw[Qe.fault_eq,RC,if_neg (by omega)]
   exact Qs 1 h64 hW63 rfl rfl rfl Tryz.underlying30 rfl infFault ⟨by show Ending.returned (.agg #[.int .i64 (listC x.regs x.params),.int .i64 (10000*(q1:Int)+9999)])=_;rw[RM (by rw[EF];show _≠_;omega),EF],hW63.bel⟩
  have h9:(listC x.regs x.params)=0:=bne_eq_false_iff_eq.1 hb;have hc65:Hid ((listC x.regs x.params)=0):=h9;clear h9;clear hb;refine wp_skip ?_;refine hK53 _ _ ?_;refine wp_seq_k fun K66 hK66=>?_;refine wp_seq_k fun K67 hK67=>?_;refine rg h58 fun ops=>?_;clear h58 a58;refine QaO trivial rfl rfl ?_;refine Zc 0 hW55 trivial rfl rfl rfl rfl ?_;refine Z4 trivial rfl rfl ?_;refine QN 0 hW55 trivial rfl rfl rfl rfl ?_;refine Qau cf65 hW55 (Qbr (regs:=x.regs) (Lay.below In1.out.results hW55.bel) hs1.out.2.2.1) trivial rfl rfl rfl ?_;clear hW55;intro w68 hW68;refine sa trivial rfl rfl ?_;refine St.nil fun a69 h69=>?_;refine hK67 _ _ ?_;refine wp_seq_k fun K70 hK70=>?_;refine rg h69 fun ops=>?_;clear h69 a69;refine sm trivial rfl rfl ?_;refine sne trivial rfl rfl rfl ?_;refine St.nil fun a71 h71=>?_;refine hK70 _ _ ?_;refine Qg (t:=62) h71 rfl (fun hb=>?_) (fun hb=>?_)
  ·have h9:¬ (listC x.regs x.results)=0:=bne_iff_ne.1 hb
   have hc72:¬ (listC x.regs x.results)=0:=h9;clear h9;clear hb;refine wp_seq_k fun K73 hK73=>?_;refine rg h71 fun ops=>?_;clear h71 a71;refine sm trivial rfl rfl ?_;refine sm trivial rfl rfl ?_;refine Qdu cf64 hW68 (ZX (f:=q1) (by omega)) trivial rfl rfl ?_;clear hW68;intro w74 hW74;refine Qau cf50 hW74 (ZT (xc:=listC x.regs x.results) (xp:=10000*(q1:Int)+9999)) trivial rfl rfl rfl ?_;clear hW74;intro w75 hW75;refine sT 1 hW75 rfl rfl infFault rfl rfl rfl ?_;clear hW75;intro w76 hW76;refine St.nil fun a77 h77=>?_;refine hK73 _ _ ?_;refine wp_ret ?_;with_reducible repeat first | refine Qd ?_ | refine Qc ?_
   have RM:(Qe.fault m.length q1 x).1≠0→modFault m=Qe.fault m.length q1 x:=fun hz=>(if_neg (by omega)).trans (by have h9:=QV (f:=fun f x=>Qe.fault m.length f x) (j:=0) hx1.out (fun k y hk hy=>by rw[Nat.zero_add];exact hall1 k y hk hy) (by rw[Nat.zero_add];exact hz);rwa [Nat.zero_add] at h9);have RC:x.code q1=listC x.regs x.results:=by have:=hc65.out;exact(if_neg (by omega)).trans ((if_neg (by omega)).trans (if_pos (by omega)))
   have EF:Qe.fault m.length q1 x=(listC x.regs x.results,10000*(q1:Int)+9999):=by rw[Qe.fault_eq,RC,if_neg (by omega)]
   exact Qs 1 h77 hW76 rfl rfl rfl Tryz.underlying30 rfl infFault ⟨by show Ending.returned (.agg #[.int .i64 (listC x.regs x.results),.int .i64 (10000*(q1:Int)+9999)])=_;rw[RM (by rw[EF];show _≠_;omega),EF],hW76.bel⟩
  have h9:(listC x.regs x.results)=0:=bne_eq_false_iff_eq.1 hb;have hc78:Hid ((listC x.regs x.results)=0):=h9;clear h9;clear hb;refine wp_skip ?_;refine hK66 _ _ ?_;refine wp_seq_k fun K79 hK79=>?_;refine wp_seq_k fun K80 hK80=>?_;refine Qz ?_;intro ops hops;have hg4:(ops[4]?).bind (fun o:Oper=>o.dst)=some 71:=hops 4;clear hops;refine St.go h71 ?_;clear h71 a71;refine ZV trivial rfl rfl ?_;refine ZD 0 hW68 trivial rfl rfl rfl rfl ?_;refine ZH trivial rfl rfl ?_;refine slt trivial rfl rfl rfl ?_;refine sm trivial rfl rfl ?_;intro a81 h81;rcases Bool.eq_false_or_eq_true (decide ((x.blocks.length:Int)<1)) with hb | hb
  ·rw[hb] at h81
   have hc82:x.blocks.length<1:=by have:=of_decide_eq_true hb;omega
   clear hb;refine St.go h81 ?_;clear h81 a81;refine so hg4 rfl rfl rfl rfl ?_;refine so hg4 rfl rfl rfl rfl ?_;refine so hg4 rfl rfl rfl rfl ?_;refine so hg4 rfl rfl rfl rfl ?_;refine sp trivial rfl rfl rfl ?_;refine St.nil fun a83 h83=>?_;refine hK80 _ _ ?_;refine QU (t:=76) h83 rfl ?_;refine wp_seq_k fun K84 hK84=>?_;refine rg h83 fun ops=>?_;clear h83 a83;refine sm trivial rfl rfl ?_;refine Qdu cf64 hW68 (ZX (f:=q1) (by omega)) trivial rfl rfl ?_;clear hW68;intro w85 hW85;refine Qau cf50 hW85 (ZT (xc:=2) (xp:=10000*(q1:Int)+9999)) trivial rfl rfl rfl ?_;clear hW85;intro w86 hW86;refine sT 1 hW86 rfl rfl infFault rfl rfl rfl ?_;clear hW86;intro w87 hW87;refine St.nil fun a88 h88=>?_;refine hK84 _ _ ?_;refine wp_ret ?_;with_reducible repeat first | refine Qd ?_ | refine Qc ?_
   have RM:(Qe.fault m.length q1 x).1≠0→modFault m=Qe.fault m.length q1 x:=fun hz=>(if_neg (by omega)).trans (by have h9:=QV (f:=fun f x=>Qe.fault m.length f x) (j:=0) hx1.out (fun k y hk hy=>by rw[Nat.zero_add];exact hall1 k y hk hy) (by rw[Nat.zero_add];exact hz);rwa [Nat.zero_add] at h9);have RC:x.code q1=2:=by have:=hc65.out;have:=hc78.out;exact(if_neg (by omega)).trans ((if_neg (by omega)).trans ((if_neg (by omega)).trans (if_pos (by omega))))
   have EF:Qe.fault m.length q1 x=(2,10000*(q1:Int)+9999):=by rw[Qe.fault_eq,RC,if_neg (by omega)]
   exact Qs 1 h88 hW87 rfl rfl rfl Tryz.underlying30 rfl infFault ⟨by show Ending.returned (.agg #[.int .i64 2,.int .i64 (10000*(q1:Int)+9999)])=_;rw[RM (by rw[EF];show _≠_;omega),EF],hW87.bel⟩
  rw[hb] at h81
  have hc89:¬ (x.blocks.length<1):=by have:=of_decide_eq_false hb;omega
  clear hb;refine St.go h81 ?_;clear h81 a81;refine ZV ⟨_,hg4,rfl,rfl⟩ rfl rfl ?_;refine ZD 0 hW68 ⟨_,hg4,rfl,rfl⟩ rfl rfl rfl rfl ?_;refine ZH ⟨_,hg4,rfl,rfl⟩ rfl rfl ?_;refine sgt ⟨_,hg4,rfl,rfl⟩ rfl rfl rfl ?_;refine spf trivial rfl rfl rfl ?_;refine St.nil fun a90 h90=>?_;refine hK80 _ _ ?_;refine Qg (t:=76) h90 rfl (fun hb=>?_) (fun hb=>?_)
  ·have hc91:12<x.blocks.length:=by have:=of_decide_eq_true hb;omega
   clear hb;refine wp_seq_k fun K92 hK92=>?_;refine rg h90 fun ops=>?_;clear h90 a90;refine sm trivial rfl rfl ?_;refine Qdu cf64 hW68 (ZX (f:=q1) (by omega)) trivial rfl rfl ?_;clear hW68;intro w93 hW93;refine Qau cf50 hW93 (ZT (xc:=2) (xp:=10000*(q1:Int)+9999)) trivial rfl rfl rfl ?_;clear hW93;intro w94 hW94;refine sT 1 hW94 rfl rfl infFault rfl rfl rfl ?_;clear hW94;intro w95 hW95;refine St.nil fun a96 h96=>?_;refine hK92 _ _ ?_;refine wp_ret ?_;with_reducible repeat first | refine Qd ?_ | refine Qc ?_
   have RM:(Qe.fault m.length q1 x).1≠0→modFault m=Qe.fault m.length q1 x:=fun hz=>(if_neg (by omega)).trans (by have h9:=QV (f:=fun f x=>Qe.fault m.length f x) (j:=0) hx1.out (fun k y hk hy=>by rw[Nat.zero_add];exact hall1 k y hk hy) (by rw[Nat.zero_add];exact hz);rwa [Nat.zero_add] at h9);have RC:x.code q1=2:=by have:=hc65.out;have:=hc78.out;exact(if_neg (by omega)).trans ((if_neg (by omega)).trans ((if_neg (by omega)).trans (if_pos (by omega))))
   have EF:Qe.fault m.length q1 x=(2,10000*(q1:Int)+9999):=by rw[Qe.fault_eq,RC,if_neg (by omega)]
   exact Qs 1 h96 hW95 rfl rfl rfl Tryz.underlying30 rfl infFault ⟨by show Ending.returned (.agg #[.int .i64 2,.int .i64 (10000*(q1:Int)+9999)])=_;rw[RM (by rw[EF];show _≠_;omega),EF],hW95.bel⟩
  have hc97:¬ (12<x.blocks.length):=by have:=of_decide_eq_false hb;omega
  clear hb;refine wp_skip ?_;refine hK79 _ _ ?_;refine wp_seq_k fun K98 hK98=>?_;refine wp_seq_k fun K99 hK99=>?_;refine rg h90 fun ops=>?_;clear h90 a90;refine sm trivial rfl rfl ?_;refine seq trivial rfl rfl rfl ?_;refine St.nil fun a100 h100=>?_;refine hK99 _ _ ?_;refine Qg (t:=81) h100 rfl (fun hb=>?_) (fun hb=>?_)
  ·have h9:q1=0:=by have h8:=eq_of_beq hb;omega
   have hc101:Hid (q1=0):=h9;clear h9;clear hb;refine wp_seq_k fun K102 hK102=>?_;refine Qz ?_;intro ops hops;have hg3:(ops[3]?).bind (fun o:Oper=>o.dst)=some 85:=hops 3;clear hops;refine St.go h100 ?_;clear h100 a100;refine Z4 trivial rfl rfl ?_;refine QN 0 hW68 trivial rfl rfl rfl rfl ?_;refine seq trivial rfl rfl rfl ?_;refine sm trivial rfl rfl ?_;intro a103 h103;rcases Bool.eq_false_or_eq_true (x.regs==0) with hb | hb
   ·rw[hb] at h103
    have h9:x.regs=0:=eq_of_beq hb;have hc104:Hid (x.regs=0):=h9;clear h9;clear hb;refine St.go h103 ?_;clear h103 a103;refine Qba ⟨_,hg3,rfl,rfl⟩ rfl rfl ?_;refine Zc 0 hW68 ⟨_,hg3,rfl,rfl⟩ rfl rfl rfl rfl ?_;refine Qah ⟨_,hg3,rfl,rfl⟩ rfl rfl ?_;refine seq ⟨_,hg3,rfl,rfl⟩ rfl rfl rfl ?_;refine sp trivial rfl rfl rfl ?_;refine sa trivial rfl rfl ?_;refine St.nil fun a105 h105=>?_;refine hK102 _ _ ?_;refine wp_seq_k fun K106 hK106=>?_;refine wp_seq_k fun K107 hK107=>?_;refine rg h105 fun ops=>?_;clear h105 a105;refine sa trivial rfl rfl ?_;refine St.nil fun a108 h108=>?_;refine hK107 _ _ ?_;refine wp_block ?_;have eqv:plB x 0=((x.params.length:Int)==0):=by rw[Qgu];simp[hc104.out]
    have hF109:=h108.cons (t:=7) (v:=.bool (plB x 0)) (by rw[h108.sl 7 _ rfl,eqv]);clear eqv h108;refine Zi (fun r a w'=>∃ q5:Nat,q5≤x.results.length∧r=x.results.length - q5∧Fr 129 a [(0,.agg #[.slice p m.length c]),(1,.pointer (some ⟨B2,0,none⟩)),(2,.pointer (some ⟨B3,0,none⟩)),(3,.int .i64 (q1:Int)),(4,.pointer (some ⟨B31,0,none⟩)),(5,.int .i64 (listC x.regs x.params)),(6,.int .i64 (listC x.regs x.results)),(7,.bool (plB x q5)),(8,.int .i64 (q5:Int))]∧Wd w w' [(B31,#[.int .i64 x.regs,.slice f1.pP x.params.length f1.cP,.slice f1.pR x.results.length f1.cR,.slice f1.pB x.blocks.length f1.cB],55),(B3,#[.int .i64 0,.int .i64 0],30),(B2,#[.slice p m.length c],24)]) (x.results.length) ⟨0,Nat.zero_le _,rfl,(hF109.keep (hF109.keep (hF109.keep (hF109.keep (hF109.keep (hF109.keep (hF109.keep (hF109.keep (hF109.keep hF109.nil (t:=8) rfl) (t:=7) rfl) (t:=6) rfl) (t:=5) rfl) (t:=4) rfl) (t:=3) rfl) (t:=2) rfl) (t:=1) rfl) (t:=0) rfl),hW68⟩ ?_;clear hF109 hW68;rintro r5 a110 w110 ⟨q5,hq5,hr5,hF110,hW110⟩ KL5 hKL5;refine wp_seq_k fun K111 hK111=>?_;refine wp_seq_k fun K112 hK112=>?_;refine rg hF110 fun ops=>?_;clear hF110 a110;refine sm trivial rfl rfl ?_;refine QaO trivial rfl rfl ?_;refine Zc 0 hW110 trivial rfl rfl rfl rfl ?_;refine Qah trivial rfl rfl ?_;refine slt trivial rfl rfl rfl ?_;refine St.nil fun a113 h113=>?_;refine hK112 _ _ ?_;refine Qg (t:=95) h113 rfl (fun hb=>?_) (fun hb=>?_)
    ·have hlt5:q5<x.results.length:=by have:=of_decide_eq_true hb;omega
     clear hb;obtain⟨t,hx5⟩:∃ v9,(x.results)[q5]?=some v9:=⟨_,List.getElem?_eq_getElem hlt5⟩
     obtain⟨g5,o5,pt5,ct5,hp5,E5,In5⟩:=QdW (QM In1.out.results).1 hx5
     replace In5:Hid _:=In5;replace hp5:Hid _:=hp5;replace hx5:Hid _:=hx5;replace E5:Hid _:=E5;refine wp_skip ?_;refine hK111 _ _ ?_;refine wp_seq_k fun K114 hK114=>?_;refine wp_block ?_;refine Qz ?_;intro ops hops;have hg1:(ops[1]?).bind (fun o:Oper=>o.dst)=some 99:=hops 1;clear hops;refine St.go h113 ?_;clear h113 a113;refine sm trivial rfl rfl ?_;refine sm trivial rfl rfl ?_;intro a115 h115;rcases Bool.eq_false_or_eq_true (plB x q5) with hb | hb
     ·rw[hb] at h115
      have hc116:plB x q5=true:=hb;replace hc116:Hid _:=hc116;clear hb;refine St.go h115 ?_;clear h115 a115;refine QaO ⟨_,hg1,rfl,rfl⟩ rfl rfl ?_;refine Zc 0 hW110 ⟨_,hg1,rfl,rfl⟩ rfl rfl rfl rfl ?_;refine sm ⟨_,hg1,rfl,rfl⟩ rfl rfl ?_;refine Qbx hp5.out hlt5 ⟨_,hg1,rfl,rfl⟩ rfl rfl rfl ?_;refine Qft ⟨_,hg1,rfl,rfl⟩ rfl rfl ?_;refine Qj1 (QW hW110.bel (E5.out 0 _ rfl)) ⟨_,hg1,rfl,rfl⟩ rfl rfl ?_;refine seq ⟨_,hg1,rfl,rfl⟩ rfl rfl rfl ?_;refine sp trivial rfl rfl rfl ?_;refine sa trivial rfl rfl ?_;intro a117 h117;have eqv:plB x (q5+1)=(t.kind==1):=by rw[QcZ hx5.out,hc116.out];rfl
      have hF118:=h117.cons (t:=7) (v:=.bool (plB x (q5+1))) (by rw[h117.sl 7 _ rfl,eqv]);clear eqv h117;refine wpList_nil ?_;refine hK114 _ _ ?_;refine rg hF118 fun ops=>?_;clear hF118 a117;refine sm trivial rfl rfl ?_;refine sad (by omega) trivial rfl rfl rfl ?_;refine sa trivial rfl rfl ?_;refine St.nil fun a119 h119=>?_;refine hKL5 _ _ (x.results.length - (q5+1)) (by omega) ⟨q5+1,by omega,rfl,(h119.keep (h119.keep (h119.keep (h119.keep (h119.keep (h119.keep (h119.keep (h119.keep (h119.keep h119.nil (t:=8) rfl) (t:=7) rfl) (t:=6) rfl) (t:=5) rfl) (t:=4) rfl) (t:=3) rfl) (t:=2) rfl) (t:=1) rfl) (t:=0) rfl),hW110⟩
     rw[hb] at h115
     have hc120:plB x q5=false:=hb;replace hc120:Hid _:=hc120;clear hb;refine St.go h115 ?_;clear h115 a115;refine so hg1 rfl rfl rfl rfl ?_;refine so hg1 rfl rfl rfl rfl ?_;refine so hg1 rfl rfl rfl rfl ?_;refine so hg1 rfl rfl rfl rfl ?_;refine so hg1 rfl rfl rfl rfl ?_;refine so hg1 rfl rfl rfl rfl ?_;refine so hg1 rfl rfl rfl rfl ?_;refine spf trivial rfl rfl rfl ?_;refine sa trivial rfl rfl ?_;intro a121 h121;have eqv:plB x (q5+1)=false:=by rw[QcZ hx5.out,hc120.out];rfl
     have hF122:=h121.cons (t:=7) (v:=.bool (plB x (q5+1))) (by rw[h121.sl 7 _ rfl,eqv]);clear eqv h121;refine wpList_nil ?_;refine hK114 _ _ ?_;refine rg hF122 fun ops=>?_;clear hF122 a121;refine sm trivial rfl rfl ?_;refine sad (by omega) trivial rfl rfl rfl ?_;refine sa trivial rfl rfl ?_;refine St.nil fun a123 h123=>?_;refine hKL5 _ _ (x.results.length - (q5+1)) (by omega) ⟨q5+1,by omega,rfl,(h123.keep (h123.keep (h123.keep (h123.keep (h123.keep (h123.keep (h123.keep (h123.keep (h123.keep h123.nil (t:=8) rfl) (t:=7) rfl) (t:=6) rfl) (t:=5) rfl) (t:=4) rfl) (t:=3) rfl) (t:=2) rfl) (t:=1) rfl) (t:=0) rfl),hW110⟩
    have hge5:q5=x.results.length:=by have:=of_decide_eq_false hb;omega
    clear hb;refine wp_exit ?_;refine hK106 _ _ ?_;refine wp_seq_k fun K124 hK124=>?_;refine rg h113 fun ops=>?_;clear h113 a113;refine sm trivial rfl rfl ?_;refine sn trivial rfl rfl ?_;refine St.nil fun a125 h125=>?_;refine hK124 _ _ ?_;refine Qg (t:=109) h125 rfl (fun hb=>?_) (fun hb=>?_)
    ·have hb:(plB x q5)=false:=by simpa using hb
     have hc126:plB x q5=false:=hb;replace hc126:Hid _:=hc126;clear hb;have hBG:¬ x.begins:=by rw[← Qeq,← hge5];rw[hc126.out];decide
     refine wp_seq_k fun K127 hK127=>?_;refine rg h125 fun ops=>?_;clear h125 a125;refine sm trivial rfl rfl ?_;refine Qdu cf64 hW110 (ZX (f:=q1) (by omega)) trivial rfl rfl ?_;clear hW110;intro w128 hW128;refine Qau cf50 hW128 (ZT (xc:=18) (xp:=10000*(q1:Int)+9999)) trivial rfl rfl rfl ?_;clear hW128;intro w129 hW129;refine sT 1 hW129 rfl rfl infFault rfl rfl rfl ?_;clear hW129;intro w130 hW130;refine St.nil fun a131 h131=>?_;refine hK127 _ _ ?_;refine wp_ret ?_;with_reducible repeat first | refine Qd ?_ | refine Qc ?_
     have RM:(Qe.fault m.length q1 x).1≠0→modFault m=Qe.fault m.length q1 x:=fun hz=>(if_neg (by omega)).trans (by have h9:=QV (f:=fun f x=>Qe.fault m.length f x) (j:=0) hx1.out (fun k y hk hy=>by rw[Nat.zero_add];exact hall1 k y hk hy) (by rw[Nat.zero_add];exact hz);rwa [Nat.zero_add] at h9);have RC:x.code q1=18:=by have:=hc65.out;have:=hc78.out;have:=hc101.out;have:=hc104.out;exact(if_neg (by omega)).trans ((if_neg (by omega)).trans ((if_neg (by omega)).trans ((if_neg (by omega)).trans (if_pos (⟨by omega,hBG⟩)))))
     have EF:Qe.fault m.length q1 x=(18,10000*(q1:Int)+9999):=by rw[Qe.fault_eq,RC,if_neg (by omega)]
     exact Qs 1 h131 hW130 rfl rfl rfl Tryz.underlying30 rfl infFault ⟨by show Ending.returned (.agg #[.int .i64 18,.int .i64 (10000*(q1:Int)+9999)])=_;rw[RM (by rw[EF];show _≠_;omega),EF],hW130.bel⟩
    have hb:(plB x q5)=true:=by simpa using hb
    have hc132:plB x q5=true:=hb;replace hc132:Hid _:=hc132;clear hb;have hBG:x.begins:=by rw[← Qeq,← hge5];exact hc132.out
    refine wp_skip ?_;refine hK98 _ _ ?_;refine wp_seq_k fun K133 hK133=>?_;refine rg h125 fun ops=>?_;clear h125 a125;refine sa trivial rfl rfl ?_;refine St.nil fun a134 h134=>?_;refine hK133 _ _ ?_;refine wp_block ?_;refine Zi (fun r a w'=>∃ q2:Nat,q2≤x.blocks.length∧r=x.blocks.length - q2∧(∀ (j:Nat) z,j<q2→x.blocks[j]?=some z→(Qh.fault m.length q1 x j z).1=0)∧Fr 129 a [(0,.agg #[.slice p m.length c]),(1,.pointer (some ⟨B2,0,none⟩)),(2,.pointer (some ⟨B3,0,none⟩)),(3,.int .i64 (q1:Int)),(4,.pointer (some ⟨B31,0,none⟩)),(5,.int .i64 (listC x.regs x.params)),(6,.int .i64 (listC x.regs x.results)),(7,.bool (plB x q5)),(8,.int .i64 (q5:Int)),(9,.int .i64 (q2:Int))]∧Wd w w' [(B31,#[.int .i64 x.regs,.slice f1.pP x.params.length f1.cP,.slice f1.pR x.results.length f1.cR,.slice f1.pB x.blocks.length f1.cB],55),(B3,#[.int .i64 0,.int .i64 0],30),(B2,#[.slice p m.length c],24)]) (x.blocks.length) ⟨0,Nat.zero_le _,rfl,(fun j z hj=>by omega),(h134.keep (h134.keep (h134.keep (h134.keep (h134.keep (h134.keep (h134.keep (h134.keep (h134.keep (h134.keep h134.nil (t:=9) rfl) (t:=8) rfl) (t:=7) rfl) (t:=6) rfl) (t:=5) rfl) (t:=4) rfl) (t:=3) rfl) (t:=2) rfl) (t:=1) rfl) (t:=0) rfl),hW110⟩ ?_;clear h134 hW110;rintro r2 a135 w135 ⟨q2,hq2,hr2,hall2,hF135,hW135⟩ KL2 hKL2;refine wp_seq_k fun K136 hK136=>?_;refine wp_seq_k fun K137 hK137=>?_;refine rg hF135 fun ops=>?_;clear hF135 a135;refine sm trivial rfl rfl ?_;refine ZV trivial rfl rfl ?_;refine ZD 0 hW135 trivial rfl rfl rfl rfl ?_;refine ZH trivial rfl rfl ?_;refine slt trivial rfl rfl rfl ?_;refine St.nil fun a138 h138=>?_;refine hK137 _ _ ?_;refine Qg (t:=117) h138 rfl (fun hb=>?_) (fun hb=>?_)
    ·have hlt2:q2<x.blocks.length:=by have:=of_decide_eq_true hb;omega
     clear hb;obtain⟨y,hx2⟩:∃ v9,(x.blocks)[q2]?=some v9:=⟨_,List.getElem?_eq_getElem hlt2⟩
     obtain⟨g2,o2,b2,hp2,E2,In2⟩:=Qbf In1.out.blocks hx2
     replace In2:Hid _:=In2;replace hp2:Hid _:=hp2;replace hx2:Hid _:=hx2;replace E2:Hid _:=E2;refine wp_skip ?_;refine hK136 _ _ ?_;refine wp_seq_k fun K139 hK139=>?_;refine wp_block ?_;refine wp_seq_k fun K140 hK140=>?_;refine rg h138 fun ops=>?_;clear h138 a138;refine sS 2 1 Tryz.underlying24 rfl infModule hW135 trivial rfl rfl rfl rfl ?_;refine sm trivial rfl rfl ?_;refine sm trivial rfl rfl ?_;refine Qgn cf66 hW135 (QaQ (c:=c) (Lay.below hm.out hW135.bel) hms.out hx1.out hx2.out) trivial rfl rfl rfl rfl ?_;clear hW135;intro w141 hW141;refine Zs hW141 trivial rfl ?_;clear hW141;intro w142 B142 hW142 hN;clear hN;refine sT 0 hW142 rfl rfl infFault rfl rfl rfl ?_;clear hW142;intro w143 hW143;refine St.nil fun a144 h144=>?_;refine hK140 _ _ ?_;refine wp_seq_k fun K145 hK145=>?_;refine rg h144 fun ops=>?_;clear h144 a144;refine Qbh trivial rfl rfl ?_;refine QN 0 hW143 trivial rfl rfl rfl rfl ?_;refine sne trivial rfl rfl rfl ?_;refine St.nil fun a146 h146=>?_;refine hK145 _ _ ?_;refine Qg (t:=126) h146 rfl (fun hb=>?_) (fun hb=>?_)
     ·have h9:¬ ((Qh.fault m.length q1 x q2 y).1)=0:=bne_iff_ne.1 hb
      have hc147:¬ ((Qh.fault m.length q1 x q2 y).1)=0:=h9;clear h9;clear hb;refine wp_seq_k fun K148 hK148=>?_;refine rg h146 fun ops=>?_;clear h146 a146;refine sS 0 2 Tryz.underlying30 rfl infFault hW143 trivial rfl rfl rfl rfl ?_;refine sT 2 hW143 rfl rfl infFault rfl rfl rfl ?_;clear hW143;intro w149 hW149;refine St.nil fun a150 h150=>?_;refine hK148 _ _ ?_;refine wp_ret ?_;with_reducible repeat first | refine Qd ?_ | refine Qc ?_
      have RM:(Qe.fault m.length q1 x).1≠0→modFault m=Qe.fault m.length q1 x:=fun hz=>(if_neg (by omega)).trans (by have h9:=QV (f:=fun f x=>Qe.fault m.length f x) (j:=0) hx1.out (fun k y hk hy=>by rw[Nat.zero_add];exact hall1 k y hk hy) (by rw[Nat.zero_add];exact hz);rwa [Nat.zero_add] at h9);have RC:x.code q1=0:=by have:=hc65.out;have:=hc78.out;have:=hc101.out;have:=hc104.out;exact(if_neg (by omega)).trans ((if_neg (by omega)).trans ((if_neg (by omega)).trans ((if_neg (by omega)).trans ((if_neg (fun h9=>h9.2 hBG)).trans (rfl)))))
      have EF:Qe.fault m.length q1 x=Qh.fault m.length q1 x q2 y:=by
       rw[Qe.fault_eq,if_pos RC]
       have h9:=QV (f:=fun b y=>Qh.fault m.length q1 x b y) (j:=0) hx2.out (fun k y hk hy=>by rw[Nat.zero_add];exact hall2 k y hk hy) (by rw[Nat.zero_add];exact hc147);rwa [Nat.zero_add] at h9
      exact Qs 2 h150 hW149 rfl rfl rfl Tryz.underlying30 rfl infFault ⟨by show Ending.returned (.agg #[.int .i64 ((Qh.fault m.length q1 x q2 y).1),.int .i64 ((Qh.fault m.length q1 x q2 y).2)])=_;rw[RM (by rw[EF];exact hc147),EF],hW149.bel⟩
     have h9:((Qh.fault m.length q1 x q2 y).1)=0:=bne_eq_false_iff_eq.1 hb;have hc151:Hid (((Qh.fault m.length q1 x q2 y).1)=0):=h9;clear h9;clear hb;refine wp_skip ?_;refine hK139 _ _ ?_;refine rg h146 fun ops=>?_;clear h146 a146;refine sm trivial rfl rfl ?_;refine sad (by omega) trivial rfl rfl rfl ?_;refine sa trivial rfl rfl ?_;refine St.nil fun a152 h152=>?_;refine hKL2 _ _ (x.blocks.length - (q2+1)) (by omega) ⟨q2+1,by omega,rfl,?_,(h152.keep (h152.keep (h152.keep (h152.keep (h152.keep (h152.keep (h152.keep (h152.keep (h152.keep (h152.keep h152.nil (t:=9) rfl) (t:=8) rfl) (t:=7) rfl) (t:=6) rfl) (t:=5) rfl) (t:=4) rfl) (t:=3) rfl) (t:=2) rfl) (t:=1) rfl) (t:=0) rfl),hW143.tail⟩
     ·intro j z hj hz
      by_cases e:j=q2
      ·subst e;rw[hx2.out] at hz;cases hz;exact hc151.out
      ·exact hall2 j z (by omega) hz
    have hge2:q2=x.blocks.length:=by have:=of_decide_eq_false hb;omega
    clear hb;have RC:x.code q1=0:=by have:=hc65.out;have:=hc78.out;have:=hc101.out;have:=hc104.out;exact(if_neg (by omega)).trans ((if_neg (by omega)).trans ((if_neg (by omega)).trans ((if_neg (by omega)).trans ((if_neg (fun h9=>h9.2 hBG)).trans (rfl)))))
    have NZ1:(Qe.fault m.length q1 x).1=0:=by
     rw[Qe.fault_eq,if_pos RC,Za (fun k y hy=>by rw[Nat.zero_add];exact hall2 k y (by have:=(List.getElem?_eq_some_iff.1 hy).1;omega) hy)]
    refine wp_exit ?_;refine hK29 _ _ ?_;refine rg h138 fun ops=>?_;clear h138 a138;refine sm trivial rfl rfl ?_;refine sad (by omega) trivial rfl rfl rfl ?_;refine sa trivial rfl rfl ?_;refine St.nil fun a153 h153=>?_;refine hKL1 _ _ (m.length - (q1+1)) (by omega) ⟨q1+1,by omega,rfl,?_,(h153.keep (h153.keep (h153.keep (h153.keep h153.nil (t:=3) rfl) (t:=2) rfl) (t:=1) rfl) (t:=0) rfl),hW135.tail⟩
    ·intro j z hj hz
     by_cases e:j=q1
     ·subst e;rw[hx1.out] at hz;cases hz;exact NZ1
     ·exact hall1 j z (by omega) hz
   rw[hb] at h103
   have h9:¬ x.regs=0:=ne_of_beq_false hb;have hc154:¬ x.regs=0:=h9;clear h9;clear hb;refine St.go h103 ?_;clear h103 a103;refine so hg3 rfl rfl rfl rfl ?_;refine so hg3 rfl rfl rfl rfl ?_;refine so hg3 rfl rfl rfl rfl ?_;refine so hg3 rfl rfl rfl rfl ?_;refine spf trivial rfl rfl rfl ?_;refine sa trivial rfl rfl ?_;refine St.nil fun a155 h155=>?_;refine hK102 _ _ ?_;refine wp_seq_k fun K156 hK156=>?_;refine wp_seq_k fun K157 hK157=>?_;refine rg h155 fun ops=>?_;clear h155 a155;refine sa trivial rfl rfl ?_;refine St.nil fun a158 h158=>?_;refine hK157 _ _ ?_;refine wp_block ?_;have eqv:plB x 0=false:=by rw[Qgu];simp[hc154]
   have hF159:=h158.cons (t:=7) (v:=.bool (plB x 0)) (by rw[h158.sl 7 _ rfl,eqv]);clear eqv h158;refine Zi (fun r a w'=>∃ q5:Nat,q5≤x.results.length∧r=x.results.length - q5∧Fr 129 a [(0,.agg #[.slice p m.length c]),(1,.pointer (some ⟨B2,0,none⟩)),(2,.pointer (some ⟨B3,0,none⟩)),(3,.int .i64 (q1:Int)),(4,.pointer (some ⟨B31,0,none⟩)),(5,.int .i64 (listC x.regs x.params)),(6,.int .i64 (listC x.regs x.results)),(7,.bool (plB x q5)),(8,.int .i64 (q5:Int))]∧Wd w w' [(B31,#[.int .i64 x.regs,.slice f1.pP x.params.length f1.cP,.slice f1.pR x.results.length f1.cR,.slice f1.pB x.blocks.length f1.cB],55),(B3,#[.int .i64 0,.int .i64 0],30),(B2,#[.slice p m.length c],24)]) (x.results.length) ⟨0,Nat.zero_le _,rfl,(hF159.keep (hF159.keep (hF159.keep (hF159.keep (hF159.keep (hF159.keep (hF159.keep (hF159.keep (hF159.keep hF159.nil (t:=8) rfl) (t:=7) rfl) (t:=6) rfl) (t:=5) rfl) (t:=4) rfl) (t:=3) rfl) (t:=2) rfl) (t:=1) rfl) (t:=0) rfl),hW68⟩ ?_;clear hF159 hW68;rintro r5 a160 w160 ⟨q5,hq5,hr5,hF160,hW160⟩ KL5 hKL5;refine wp_seq_k fun K161 hK161=>?_;refine wp_seq_k fun K162 hK162=>?_;refine rg hF160 fun ops=>?_;clear hF160 a160;refine sm trivial rfl rfl ?_;refine QaO trivial rfl rfl ?_;refine Zc 0 hW160 trivial rfl rfl rfl rfl ?_;refine Qah trivial rfl rfl ?_;refine slt trivial rfl rfl rfl ?_;refine St.nil fun a163 h163=>?_;refine hK162 _ _ ?_;refine Qg (t:=95) h163 rfl (fun hb=>?_) (fun hb=>?_)
   ·have hlt5:q5<x.results.length:=by have:=of_decide_eq_true hb;omega
    clear hb;obtain⟨t,hx5⟩:∃ v9,(x.results)[q5]?=some v9:=⟨_,List.getElem?_eq_getElem hlt5⟩
    obtain⟨g5,o5,pt5,ct5,hp5,E5,In5⟩:=QdW (QM In1.out.results).1 hx5
    replace In5:Hid _:=In5;replace hp5:Hid _:=hp5;replace hx5:Hid _:=hx5;replace E5:Hid _:=E5;refine wp_skip ?_;refine hK161 _ _ ?_;refine wp_seq_k fun K164 hK164=>?_;refine wp_block ?_;refine Qz ?_;intro ops hops;have hg1:(ops[1]?).bind (fun o:Oper=>o.dst)=some 99:=hops 1;clear hops;refine St.go h163 ?_;clear h163 a163;refine sm trivial rfl rfl ?_;refine sm trivial rfl rfl ?_;intro a165 h165;rcases Bool.eq_false_or_eq_true (plB x q5) with hb | hb
    ·rw[hb] at h165
     have hc166:plB x q5=true:=hb;replace hc166:Hid _:=hc166;clear hb;refine St.go h165 ?_;clear h165 a165;refine QaO ⟨_,hg1,rfl,rfl⟩ rfl rfl ?_;refine Zc 0 hW160 ⟨_,hg1,rfl,rfl⟩ rfl rfl rfl rfl ?_;refine sm ⟨_,hg1,rfl,rfl⟩ rfl rfl ?_;refine Qbx hp5.out hlt5 ⟨_,hg1,rfl,rfl⟩ rfl rfl rfl ?_;refine Qft ⟨_,hg1,rfl,rfl⟩ rfl rfl ?_;refine Qj1 (QW hW160.bel (E5.out 0 _ rfl)) ⟨_,hg1,rfl,rfl⟩ rfl rfl ?_;refine seq ⟨_,hg1,rfl,rfl⟩ rfl rfl rfl ?_;refine sp trivial rfl rfl rfl ?_;refine sa trivial rfl rfl ?_;intro a167 h167;have eqv:plB x (q5+1)=(t.kind==1):=by rw[QcZ hx5.out,hc166.out];rfl
     have hF168:=h167.cons (t:=7) (v:=.bool (plB x (q5+1))) (by rw[h167.sl 7 _ rfl,eqv]);clear eqv h167;refine wpList_nil ?_;refine hK164 _ _ ?_;refine rg hF168 fun ops=>?_;clear hF168 a167;refine sm trivial rfl rfl ?_;refine sad (by omega) trivial rfl rfl rfl ?_;refine sa trivial rfl rfl ?_;refine St.nil fun a169 h169=>?_;refine hKL5 _ _ (x.results.length - (q5+1)) (by omega) ⟨q5+1,by omega,rfl,(h169.keep (h169.keep (h169.keep (h169.keep (h169.keep (h169.keep (h169.keep (h169.keep (h169.keep h169.nil (t:=8) rfl) (t:=7) rfl) (t:=6) rfl) (t:=5) rfl) (t:=4) rfl) (t:=3) rfl) (t:=2) rfl) (t:=1) rfl) (t:=0) rfl),hW160⟩
    rw[hb] at h165
    have hc170:plB x q5=false:=hb;replace hc170:Hid _:=hc170;clear hb;refine St.go h165 ?_;clear h165 a165;refine so hg1 rfl rfl rfl rfl ?_;refine so hg1 rfl rfl rfl rfl ?_;refine so hg1 rfl rfl rfl rfl ?_;refine so hg1 rfl rfl rfl rfl ?_;refine so hg1 rfl rfl rfl rfl ?_;refine so hg1 rfl rfl rfl rfl ?_;refine so hg1 rfl rfl rfl rfl ?_;refine spf trivial rfl rfl rfl ?_;refine sa trivial rfl rfl ?_;intro a171 h171;have eqv:plB x (q5+1)=false:=by rw[QcZ hx5.out,hc170.out];rfl
    have hF172:=h171.cons (t:=7) (v:=.bool (plB x (q5+1))) (by rw[h171.sl 7 _ rfl,eqv]);clear eqv h171;refine wpList_nil ?_;refine hK164 _ _ ?_;refine rg hF172 fun ops=>?_;clear hF172 a171;refine sm trivial rfl rfl ?_;refine sad (by omega) trivial rfl rfl rfl ?_;refine sa trivial rfl rfl ?_;refine St.nil fun a173 h173=>?_;refine hKL5 _ _ (x.results.length - (q5+1)) (by omega) ⟨q5+1,by omega,rfl,(h173.keep (h173.keep (h173.keep (h173.keep (h173.keep (h173.keep (h173.keep (h173.keep (h173.keep h173.nil (t:=8) rfl) (t:=7) rfl) (t:=6) rfl) (t:=5) rfl) (t:=4) rfl) (t:=3) rfl) (t:=2) rfl) (t:=1) rfl) (t:=0) rfl),hW160⟩
   have hge5:q5=x.results.length:=by have:=of_decide_eq_false hb;omega
   clear hb;refine wp_exit ?_;refine hK156 _ _ ?_;refine wp_seq_k fun K174 hK174=>?_;refine rg h163 fun ops=>?_;clear h163 a163;refine sm trivial rfl rfl ?_;refine sn trivial rfl rfl ?_;refine St.nil fun a175 h175=>?_;refine hK174 _ _ ?_;refine Qg (t:=109) h175 rfl (fun hb=>?_) (fun hb=>?_)
   ·have hb:(plB x q5)=false:=by simpa using hb
    have hc176:plB x q5=false:=hb;replace hc176:Hid _:=hc176;clear hb;have hBG:¬ x.begins:=by rw[← Qeq,← hge5];rw[hc176.out];decide
    refine wp_seq_k fun K177 hK177=>?_;refine rg h175 fun ops=>?_;clear h175 a175;refine sm trivial rfl rfl ?_;refine Qdu cf64 hW160 (ZX (f:=q1) (by omega)) trivial rfl rfl ?_;clear hW160;intro w178 hW178;refine Qau cf50 hW178 (ZT (xc:=18) (xp:=10000*(q1:Int)+9999)) trivial rfl rfl rfl ?_;clear hW178;intro w179 hW179;refine sT 1 hW179 rfl rfl infFault rfl rfl rfl ?_;clear hW179;intro w180 hW180;refine St.nil fun a181 h181=>?_;refine hK177 _ _ ?_;refine wp_ret ?_;with_reducible repeat first | refine Qd ?_ | refine Qc ?_
    have RM:(Qe.fault m.length q1 x).1≠0→modFault m=Qe.fault m.length q1 x:=fun hz=>(if_neg (by omega)).trans (by have h9:=QV (f:=fun f x=>Qe.fault m.length f x) (j:=0) hx1.out (fun k y hk hy=>by rw[Nat.zero_add];exact hall1 k y hk hy) (by rw[Nat.zero_add];exact hz);rwa [Nat.zero_add] at h9);have RC:x.code q1=18:=by have:=hc65.out;have:=hc78.out;have:=hc101.out;exact(if_neg (by omega)).trans ((if_neg (by omega)).trans ((if_neg (by omega)).trans ((if_neg (by omega)).trans (if_pos (⟨by omega,hBG⟩)))))
    have EF:Qe.fault m.length q1 x=(18,10000*(q1:Int)+9999):=by rw[Qe.fault_eq,RC,if_neg (by omega)]
    exact Qs 1 h181 hW180 rfl rfl rfl Tryz.underlying30 rfl infFault ⟨by show Ending.returned (.agg #[.int .i64 18,.int .i64 (10000*(q1:Int)+9999)])=_;rw[RM (by rw[EF];show _≠_;omega),EF],hW180.bel⟩
   have hb:(plB x q5)=true:=by simpa using hb
   have hc182:plB x q5=true:=hb;replace hc182:Hid _:=hc182;clear hb;have hBG:x.begins:=by rw[← Qeq,← hge5];exact hc182.out
   refine wp_skip ?_;refine hK98 _ _ ?_;refine wp_seq_k fun K183 hK183=>?_;refine rg h175 fun ops=>?_;clear h175 a175;refine sa trivial rfl rfl ?_;refine St.nil fun a184 h184=>?_;refine hK183 _ _ ?_;refine wp_block ?_;refine Zi (fun r a w'=>∃ q2:Nat,q2≤x.blocks.length∧r=x.blocks.length - q2∧(∀ (j:Nat) z,j<q2→x.blocks[j]?=some z→(Qh.fault m.length q1 x j z).1=0)∧Fr 129 a [(0,.agg #[.slice p m.length c]),(1,.pointer (some ⟨B2,0,none⟩)),(2,.pointer (some ⟨B3,0,none⟩)),(3,.int .i64 (q1:Int)),(4,.pointer (some ⟨B31,0,none⟩)),(5,.int .i64 (listC x.regs x.params)),(6,.int .i64 (listC x.regs x.results)),(7,.bool (plB x q5)),(8,.int .i64 (q5:Int)),(9,.int .i64 (q2:Int))]∧Wd w w' [(B31,#[.int .i64 x.regs,.slice f1.pP x.params.length f1.cP,.slice f1.pR x.results.length f1.cR,.slice f1.pB x.blocks.length f1.cB],55),(B3,#[.int .i64 0,.int .i64 0],30),(B2,#[.slice p m.length c],24)]) (x.blocks.length) ⟨0,Nat.zero_le _,rfl,(fun j z hj=>by omega),(h184.keep (h184.keep (h184.keep (h184.keep (h184.keep (h184.keep (h184.keep (h184.keep (h184.keep (h184.keep h184.nil (t:=9) rfl) (t:=8) rfl) (t:=7) rfl) (t:=6) rfl) (t:=5) rfl) (t:=4) rfl) (t:=3) rfl) (t:=2) rfl) (t:=1) rfl) (t:=0) rfl),hW160⟩ ?_;clear h184 hW160;rintro r2 a185 w185 ⟨q2,hq2,hr2,hall2,hF185,hW185⟩ KL2 hKL2;refine wp_seq_k fun K186 hK186=>?_;refine wp_seq_k fun K187 hK187=>?_;refine rg hF185 fun ops=>?_;clear hF185 a185;refine sm trivial rfl rfl ?_;refine ZV trivial rfl rfl ?_;refine ZD 0 hW185 trivial rfl rfl rfl rfl ?_;refine ZH trivial rfl rfl ?_;refine slt trivial rfl rfl rfl ?_;refine St.nil fun a188 h188=>?_;refine hK187 _ _ ?_;refine Qg (t:=117) h188 rfl (fun hb=>?_) (fun hb=>?_)
   ·have hlt2:q2<x.blocks.length:=by have:=of_decide_eq_true hb;omega
    clear hb;obtain⟨y,hx2⟩:∃ v9,(x.blocks)[q2]?=some v9:=⟨_,List.getElem?_eq_getElem hlt2⟩
    obtain⟨g2,o2,b2,hp2,E2,In2⟩:=Qbf In1.out.blocks hx2
    replace In2:Hid _:=In2;replace hp2:Hid _:=hp2;replace hx2:Hid _:=hx2;replace E2:Hid _:=E2;refine wp_skip ?_;refine hK186 _ _ ?_;refine wp_seq_k fun K189 hK189=>?_;refine wp_block ?_;refine wp_seq_k fun K190 hK190=>?_;refine rg h188 fun ops=>?_;clear h188 a188;refine sS 2 1 Tryz.underlying24 rfl infModule hW185 trivial rfl rfl rfl rfl ?_;refine sm trivial rfl rfl ?_;refine sm trivial rfl rfl ?_;refine Qgn cf66 hW185 (QaQ (c:=c) (Lay.below hm.out hW185.bel) hms.out hx1.out hx2.out) trivial rfl rfl rfl rfl ?_;clear hW185;intro w191 hW191;refine Zs hW191 trivial rfl ?_;clear hW191;intro w192 B192 hW192 hN;clear hN;refine sT 0 hW192 rfl rfl infFault rfl rfl rfl ?_;clear hW192;intro w193 hW193;refine St.nil fun a194 h194=>?_;refine hK190 _ _ ?_;refine wp_seq_k fun K195 hK195=>?_;refine rg h194 fun ops=>?_;clear h194 a194;refine Qbh trivial rfl rfl ?_;refine QN 0 hW193 trivial rfl rfl rfl rfl ?_;refine sne trivial rfl rfl rfl ?_;refine St.nil fun a196 h196=>?_;refine hK195 _ _ ?_;refine Qg (t:=126) h196 rfl (fun hb=>?_) (fun hb=>?_)
    ·have h9:¬ ((Qh.fault m.length q1 x q2 y).1)=0:=bne_iff_ne.1 hb
     have hc197:¬ ((Qh.fault m.length q1 x q2 y).1)=0:=h9;clear h9;clear hb;refine wp_seq_k fun K198 hK198=>?_;refine rg h196 fun ops=>?_;clear h196 a196;refine sS 0 2 Tryz.underlying30 rfl infFault hW193 trivial rfl rfl rfl rfl ?_;refine sT 2 hW193 rfl rfl infFault rfl rfl rfl ?_;clear hW193;intro w199 hW199;refine St.nil fun a200 h200=>?_;refine hK198 _ _ ?_;refine wp_ret ?_;with_reducible repeat first | refine Qd ?_ | refine Qc ?_
     have RM:(Qe.fault m.length q1 x).1≠0→modFault m=Qe.fault m.length q1 x:=fun hz=>(if_neg (by omega)).trans (by have h9:=QV (f:=fun f x=>Qe.fault m.length f x) (j:=0) hx1.out (fun k y hk hy=>by rw[Nat.zero_add];exact hall1 k y hk hy) (by rw[Nat.zero_add];exact hz);rwa [Nat.zero_add] at h9);have RC:x.code q1=0:=by have:=hc65.out;have:=hc78.out;have:=hc101.out;exact(if_neg (by omega)).trans ((if_neg (by omega)).trans ((if_neg (by omega)).trans ((if_neg (by omega)).trans ((if_neg (fun h9=>h9.2 hBG)).trans (rfl)))))
     have EF:Qe.fault m.length q1 x=Qh.fault m.length q1 x q2 y:=by
      rw[Qe.fault_eq,if_pos RC]
      have h9:=QV (f:=fun b y=>Qh.fault m.length q1 x b y) (j:=0) hx2.out (fun k y hk hy=>by rw[Nat.zero_add];exact hall2 k y hk hy) (by rw[Nat.zero_add];exact hc197);rwa [Nat.zero_add] at h9
     exact Qs 2 h200 hW199 rfl rfl rfl Tryz.underlying30 rfl infFault ⟨by show Ending.returned (.agg #[.int .i64 ((Qh.fault m.length q1 x q2 y).1),.int .i64 ((Qh.fault m.length q1 x q2 y).2)])=_;rw[RM (by rw[EF];exact hc197),EF],hW199.bel⟩
    have h9:((Qh.fault m.length q1 x q2 y).1)=0:=bne_eq_false_iff_eq.1 hb;have hc201:Hid (((Qh.fault m.length q1 x q2 y).1)=0):=h9;clear h9;clear hb;refine wp_skip ?_;refine hK189 _ _ ?_;refine rg h196 fun ops=>?_;clear h196 a196;refine sm trivial rfl rfl ?_;refine sad (by omega) trivial rfl rfl rfl ?_;refine sa trivial rfl rfl ?_;refine St.nil fun a202 h202=>?_;refine hKL2 _ _ (x.blocks.length - (q2+1)) (by omega) ⟨q2+1,by omega,rfl,?_,(h202.keep (h202.keep (h202.keep (h202.keep (h202.keep (h202.keep (h202.keep (h202.keep (h202.keep (h202.keep h202.nil (t:=9) rfl) (t:=8) rfl) (t:=7) rfl) (t:=6) rfl) (t:=5) rfl) (t:=4) rfl) (t:=3) rfl) (t:=2) rfl) (t:=1) rfl) (t:=0) rfl),hW193.tail⟩
    ·intro j z hj hz
     by_cases e:j=q2
     ·subst e;rw[hx2.out] at hz;cases hz;exact hc201.out
     ·exact hall2 j z (by omega) hz
   have hge2:q2=x.blocks.length:=by have:=of_decide_eq_false hb;omega
   clear hb;have RC:x.code q1=0:=by have:=hc65.out;have:=hc78.out;have:=hc101.out;exact(if_neg (by omega)).trans ((if_neg (by omega)).trans ((if_neg (by omega)).trans ((if_neg (by omega)).trans ((if_neg (fun h9=>h9.2 hBG)).trans (rfl)))))
   have NZ1:(Qe.fault m.length q1 x).1=0:=by
    rw[Qe.fault_eq,if_pos RC,Za (fun k y hy=>by rw[Nat.zero_add];exact hall2 k y (by have:=(List.getElem?_eq_some_iff.1 hy).1;omega) hy)]
   refine wp_exit ?_;refine hK29 _ _ ?_;refine rg h188 fun ops=>?_;clear h188 a188;refine sm trivial rfl rfl ?_;refine sad (by omega) trivial rfl rfl rfl ?_;refine sa trivial rfl rfl ?_;refine St.nil fun a203 h203=>?_;refine hKL1 _ _ (m.length - (q1+1)) (by omega) ⟨q1+1,by omega,rfl,?_,(h203.keep (h203.keep (h203.keep (h203.keep h203.nil (t:=3) rfl) (t:=2) rfl) (t:=1) rfl) (t:=0) rfl),hW185.tail⟩
   ·intro j z hj hz
    by_cases e:j=q1
    ·subst e;rw[hx1.out] at hz;cases hz;exact NZ1
    ·exact hall1 j z (by omega) hz
  have h9:¬ q1=0:=by have h8:=ne_of_beq_false hb;omega
  have hc204:¬ q1=0:=h9;clear h9;clear hb;refine wp_skip ?_;refine hK98 _ _ ?_;refine wp_seq_k fun K205 hK205=>?_;refine rg h100 fun ops=>?_;clear h100 a100;refine sa trivial rfl rfl ?_;refine St.nil fun a206 h206=>?_;refine hK205 _ _ ?_;refine wp_block ?_;refine Zi (fun r a w'=>∃ q2:Nat,q2≤x.blocks.length∧r=x.blocks.length - q2∧(∀ (j:Nat) z,j<q2→x.blocks[j]?=some z→(Qh.fault m.length q1 x j z).1=0)∧Fr 129 a [(0,.agg #[.slice p m.length c]),(1,.pointer (some ⟨B2,0,none⟩)),(2,.pointer (some ⟨B3,0,none⟩)),(3,.int .i64 (q1:Int)),(4,.pointer (some ⟨B31,0,none⟩)),(5,.int .i64 (listC x.regs x.params)),(6,.int .i64 (listC x.regs x.results)),(9,.int .i64 (q2:Int))]∧Wd w w' [(B31,#[.int .i64 x.regs,.slice f1.pP x.params.length f1.cP,.slice f1.pR x.results.length f1.cR,.slice f1.pB x.blocks.length f1.cB],55),(B3,#[.int .i64 0,.int .i64 0],30),(B2,#[.slice p m.length c],24)]) (x.blocks.length) ⟨0,Nat.zero_le _,rfl,(fun j z hj=>by omega),(h206.keep (h206.keep (h206.keep (h206.keep (h206.keep (h206.keep (h206.keep (h206.keep h206.nil (t:=9) rfl) (t:=6) rfl) (t:=5) rfl) (t:=4) rfl) (t:=3) rfl) (t:=2) rfl) (t:=1) rfl) (t:=0) rfl),hW68⟩ ?_;clear h206 hW68;rintro r2 a207 w207 ⟨q2,hq2,hr2,hall2,hF207,hW207⟩ KL2 hKL2;refine wp_seq_k fun K208 hK208=>?_;refine wp_seq_k fun K209 hK209=>?_;refine rg hF207 fun ops=>?_;clear hF207 a207;refine sm trivial rfl rfl ?_;refine ZV trivial rfl rfl ?_;refine ZD 0 hW207 trivial rfl rfl rfl rfl ?_;refine ZH trivial rfl rfl ?_;refine slt trivial rfl rfl rfl ?_;refine St.nil fun a210 h210=>?_;refine hK209 _ _ ?_;refine Qg (t:=117) h210 rfl (fun hb=>?_) (fun hb=>?_)
  ·have hlt2:q2<x.blocks.length:=by have:=of_decide_eq_true hb;omega
   clear hb;obtain⟨y,hx2⟩:∃ v9,(x.blocks)[q2]?=some v9:=⟨_,List.getElem?_eq_getElem hlt2⟩
   obtain⟨g2,o2,b2,hp2,E2,In2⟩:=Qbf In1.out.blocks hx2
   replace In2:Hid _:=In2;replace hp2:Hid _:=hp2;replace hx2:Hid _:=hx2;replace E2:Hid _:=E2;refine wp_skip ?_;refine hK208 _ _ ?_;refine wp_seq_k fun K211 hK211=>?_;refine wp_block ?_;refine wp_seq_k fun K212 hK212=>?_;refine rg h210 fun ops=>?_;clear h210 a210;refine sS 2 1 Tryz.underlying24 rfl infModule hW207 trivial rfl rfl rfl rfl ?_;refine sm trivial rfl rfl ?_;refine sm trivial rfl rfl ?_;refine Qgn cf66 hW207 (QaQ (c:=c) (Lay.below hm.out hW207.bel) hms.out hx1.out hx2.out) trivial rfl rfl rfl rfl ?_;clear hW207;intro w213 hW213;refine Zs hW213 trivial rfl ?_;clear hW213;intro w214 B214 hW214 hN;clear hN;refine sT 0 hW214 rfl rfl infFault rfl rfl rfl ?_;clear hW214;intro w215 hW215;refine St.nil fun a216 h216=>?_;refine hK212 _ _ ?_;refine wp_seq_k fun K217 hK217=>?_;refine rg h216 fun ops=>?_;clear h216 a216;refine Qbh trivial rfl rfl ?_;refine QN 0 hW215 trivial rfl rfl rfl rfl ?_;refine sne trivial rfl rfl rfl ?_;refine St.nil fun a218 h218=>?_;refine hK217 _ _ ?_;refine Qg (t:=126) h218 rfl (fun hb=>?_) (fun hb=>?_)
   ·have h9:¬ ((Qh.fault m.length q1 x q2 y).1)=0:=bne_iff_ne.1 hb
    have hc219:¬ ((Qh.fault m.length q1 x q2 y).1)=0:=h9;clear h9;clear hb;refine wp_seq_k fun K220 hK220=>?_;refine rg h218 fun ops=>?_;clear h218 a218;refine sS 0 2 Tryz.underlying30 rfl infFault hW215 trivial rfl rfl rfl rfl ?_;refine sT 2 hW215 rfl rfl infFault rfl rfl rfl ?_;clear hW215;intro w221 hW221;refine St.nil fun a222 h222=>?_;refine hK220 _ _ ?_;refine wp_ret ?_;with_reducible repeat first | refine Qd ?_ | refine Qc ?_
    have RM:(Qe.fault m.length q1 x).1≠0→modFault m=Qe.fault m.length q1 x:=fun hz=>(if_neg (by omega)).trans (by have h9:=QV (f:=fun f x=>Qe.fault m.length f x) (j:=0) hx1.out (fun k y hk hy=>by rw[Nat.zero_add];exact hall1 k y hk hy) (by rw[Nat.zero_add];exact hz);rwa [Nat.zero_add] at h9);have RC:x.code q1=0:=by have:=hc65.out;have:=hc78.out;exact(if_neg (by omega)).trans ((if_neg (by omega)).trans ((if_neg (by omega)).trans ((if_neg (by omega)).trans ((if_neg (by omega)).trans (rfl)))))
    have EF:Qe.fault m.length q1 x=Qh.fault m.length q1 x q2 y:=by
     rw[Qe.fault_eq,if_pos RC]
     have h9:=QV (f:=fun b y=>Qh.fault m.length q1 x b y) (j:=0) hx2.out (fun k y hk hy=>by rw[Nat.zero_add];exact hall2 k y hk hy) (by rw[Nat.zero_add];exact hc219);rwa [Nat.zero_add] at h9
    exact Qs 2 h222 hW221 rfl rfl rfl Tryz.underlying30 rfl infFault ⟨by show Ending.returned (.agg #[.int .i64 ((Qh.fault m.length q1 x q2 y).1),.int .i64 ((Qh.fault m.length q1 x q2 y).2)])=_;rw[RM (by rw[EF];exact hc219),EF],hW221.bel⟩
   have h9:((Qh.fault m.length q1 x q2 y).1)=0:=bne_eq_false_iff_eq.1 hb;have hc223:Hid (((Qh.fault m.length q1 x q2 y).1)=0):=h9;clear h9;clear hb;refine wp_skip ?_;refine hK211 _ _ ?_;refine rg h218 fun ops=>?_;clear h218 a218;refine sm trivial rfl rfl ?_;refine sad (by omega) trivial rfl rfl rfl ?_;refine sa trivial rfl rfl ?_;refine St.nil fun a224 h224=>?_;refine hKL2 _ _ (x.blocks.length - (q2+1)) (by omega) ⟨q2+1,by omega,rfl,?_,(h224.keep (h224.keep (h224.keep (h224.keep (h224.keep (h224.keep (h224.keep (h224.keep h224.nil (t:=9) rfl) (t:=6) rfl) (t:=5) rfl) (t:=4) rfl) (t:=3) rfl) (t:=2) rfl) (t:=1) rfl) (t:=0) rfl),hW215.tail⟩
   ·intro j z hj hz
    by_cases e:j=q2
    ·subst e;rw[hx2.out] at hz;cases hz;exact hc223.out
    ·exact hall2 j z (by omega) hz
  have hge2:q2=x.blocks.length:=by have:=of_decide_eq_false hb;omega
  clear hb;have RC:x.code q1=0:=by have:=hc65.out;have:=hc78.out;exact(if_neg (by omega)).trans ((if_neg (by omega)).trans ((if_neg (by omega)).trans ((if_neg (by omega)).trans ((if_neg (by omega)).trans (rfl)))))
  have NZ1:(Qe.fault m.length q1 x).1=0:=by
   rw[Qe.fault_eq,if_pos RC,Za (fun k y hy=>by rw[Nat.zero_add];exact hall2 k y (by have:=(List.getElem?_eq_some_iff.1 hy).1;omega) hy)]
  refine wp_exit ?_;refine hK29 _ _ ?_;refine rg h210 fun ops=>?_;clear h210 a210;refine sm trivial rfl rfl ?_;refine sad (by omega) trivial rfl rfl rfl ?_;refine sa trivial rfl rfl ?_;refine St.nil fun a225 h225=>?_;refine hKL1 _ _ (m.length - (q1+1)) (by omega) ⟨q1+1,by omega,rfl,?_,(h225.keep (h225.keep (h225.keep (h225.keep h225.nil (t:=3) rfl) (t:=2) rfl) (t:=1) rfl) (t:=0) rfl),hW207.tail⟩
  ·intro j z hj hz
   by_cases e:j=q1
   ·subst e;rw[hx1.out] at hz;cases hz;exact NZ1
   ·exact hall1 j z (by omega) hz
 have hge1:q1=m.length:=by have:=of_decide_eq_false hb;omega
 clear hb;refine wp_exit ?_;refine hK22 _ _ ?_;refine wp_seq_k fun K226 hK226=>?_;refine rg h28 fun ops=>?_;clear h28 a28;intro a227 h227;refine QG (t:=128) (v:=.agg #[.int .i64 0,.int .i64 0]) (w':=w25) h227 rfl rfl rfl (fun K hK=>?_) ?_
 ·go_simp
  exact hK
 clear h227;intro a228 hF228;refine St.go hF228 ?_;clear hF228 a228;refine sT 0 hW25 rfl rfl infFault rfl rfl rfl ?_;clear hW25;intro w229 hW229;refine St.nil fun a230 h230=>?_;refine hK226 _ _ ?_;refine wp_ret ?_;with_reducible repeat first | refine Qd ?_ | refine Qc ?_
 have R:modFault m=(0,0):=(if_neg (by omega)).trans (Za (fun k x hx=>by rw[Nat.zero_add];exact hall1 k x (by have:=(List.getElem?_eq_some_iff.1 hx).1;omega) hx));exact Qs 0 h230 hW229 rfl rfl rfl Tryz.underlying30 rfl infFault ⟨by show Ending.returned (.agg #[.int .i64 0,.int .i64 0])=_;rw[R],hW229.bel⟩
def Z3.many (x:Z3):Nat:=x.args.length+x.yes.regs.length+x.yes.args.length+x.no.regs.length+x.no.args.length
theorem Qgg {n:Nat}{w:World}{m:List (Qe n)}{p a1:Option Addr}{c N c1:Nat}{x:Z3}{e:EP}(f b:Int) (hm:(QaF n).In w All m [.slice p m.length c]) (hsz:x.many<9223372036854775807) (hno:QI m∨150<(N:Int)∨1000<(x.many:Int)∨(modFault m).1≠0) :
 Calls Tryz.prog 6 #[.agg #[.slice p m.length c],.int .i64 f,.int .i64 b,.slice a1 N c1,.agg (ZO x e)] w fun r w'=>r=.returned (.bool true)∧Below w.heap.size w w':=by
 have b0:=Q5 w (.cells #[.slice p m.length c] 24);have b1:=b0.trans ((Q5 (w.alloc (.cells #[.slice p m.length c] 24)) (.cells (ZO x e) 47)).mono b0.size);have HM:Hid ((QaF n).In w All m [.slice p m.length c]):=hm;have HB:=Qa b1;have x0:=Qk (Qb (Qj w #[.slice p m.length c] 24) 0 _ rfl) (Q5 (w.alloc (.cells #[.slice p m.length c] 24)) (.cells (ZO x e) 47));have y3:=Qb (Qj (w.alloc (.cells #[.slice p m.length c] 24)) (ZO x e) 47) 3 _ rfl;have y4:=Qb (Qj (w.alloc (.cells #[.slice p m.length c] 24)) (ZO x e) 47) 4 _ rfl;have y6:=Qb (Qj (w.alloc (.cells #[.slice p m.length c] 24)) (ZO x e) 47) 6 _ rfl;have y7:=Qb (Qj (w.alloc (.cells #[.slice p m.length c] 24)) (ZO x e) 47) 7 _ rfl;have y8:=Qb (Qj (w.alloc (.cells #[.slice p m.length c] 24)) (ZO x e) 47) 8 _ rfl;have HNO:=Qa hno;clear hm b1 hno b0;go_enter Tryz.func6,Tryz.ntmps6
 go_upto_region 1 with fail
 generalize hw1:(w.alloc (.cells #[.slice p m.length c] 24)).alloc (.cells (ZO x e) 47)=w1 at HB x0 y3 y4 y6 y7 y8 ⊢;clear hw1;have hY:(w.alloc (.cells #[.slice p m.length c] 24)).heap.size=w.heap.size+1:=by show (w.heap.push _).size=_;exact Array.size_push _
 rw[hY] at y3 y4 y6 y7 y8
 clear hY;obtain⟨X,hX⟩:∃ X,w.heap.size=X:=⟨_,rfl⟩
 rw[hX] at x0 y3 y4 y6 y7 y8 ⊢
 rw[← hX]
 have HXE:=Qa hX;go_wp2_with fail
 refine(QaM w1).mono ?_
 rintro e2 w2 ⟨rfl,b2⟩;have HB2:=Qa (HB.out.trans (b2.mono HB.out.size));have x2:=Qk x0 b2;have y3:=Qk y3 b2;have y4:=Qk y4 b2;have y6:=Qk y6 b2;have y7:=Qk y7 b2;have y8:=Qk y8 b2;clear x0 b2 HB;have CG:=Qa (QaD n m p c w2 (Lay.below HM.out HB2.out));unfold Rd at CG;rw[HXE.out]
 by_cases hg:QI m
 ·rw[QH hg] at CG
  go_wp2_with fail
  refine CG.out.mono ?_;rintro e3 w3 ⟨rfl,b3⟩;have HB3:=Qa (HB2.out.trans (b3.mono HB2.out.size));clear b3 CG;go_wp2_with fail
  go_ret;exact⟨rfl,by first | exact HB3.out | (rw[← HXE.out];exact HB3.out)⟩
 rw[Zj hg] at CG
 by_cases hn:150<(N:Int)
 ·have hn':decide ((N:Int)>150)=true:=decide_eq_true hn;go_wp2_with fail
  refine CG.out.mono ?_;rintro e3 w3 ⟨rfl,b3⟩;have HB3:=Qa (HB2.out.trans (b3.mono HB2.out.size));clear b3 CG;go_wp2_with fail
  go_ret;exact⟨rfl,by first | exact HB3.out | (rw[← HXE.out];exact HB3.out)⟩
 have hn':decide ((N:Int)>150)=false:=decide_eq_false hn;unfold Z3.many at hsz HNO;by_cases hq:1000<((x.args.length+x.yes.regs.length+x.yes.args.length+x.no.regs.length+x.no.args.length:Nat):Int)
 ·go_wp2_with fail
  refine CG.out.mono ?_;rintro e3 w3 ⟨rfl,b3⟩;have HB3:=Qa (HB2.out.trans (b3.mono HB2.out.size));have y3:=Qk y3 b3;have y4:=Qk y4 b3;have y6:=Qk y6 b3;have y7:=Qk y7 b3;have y8:=Qk y8 b3;clear b3 CG;go_wp2_with fail
  go_ret;exact⟨rfl,by first | exact HB3.out | (rw[← HXE.out];exact HB3.out)⟩
 have hf:(modFault m).1≠0:=by
  rcases HNO.out with h | h | h | h
  ·exact absurd h hg
  ·exact absurd h hn
  ·exact absurd h hq
  ·exact h
 have HMS:=Qa (Qbz hg);go_wp2_with fail
 refine CG.out.mono ?_;rintro e3 w3 ⟨rfl,b3⟩;have HB3:=Qa (HB2.out.trans (b3.mono HB2.out.size));have x3:=Qk x2 b3;have y3:=Qk y3 b3;have y4:=Qk y4 b3;have y6:=Qk y6 b3;have y7:=Qk y7 b3;have y8:=Qk y8 b3;clear b3 CG x2 HB2;have CN:=Qa (Qg6 f b hg hf (Lay.below HM.out HB3.out));go_wp2_with fail
 refine CN.out.mono ?_;rintro e4 w4 ⟨rfl,b4⟩;have HB4:=Qa (HB3.out.trans (b4.mono HB3.out.size));have x4:=Qk x3 b4;clear b4 CN x3 HB3 y3 y4 y6 y7 y8;have hf':((modFault m).1==0)=false:=by simpa using hf
 have hf2:((modFault m).1!=0)=true:=by simpa using hf
 have b5:=Q5 w4 (.cells #[.int .i64 (modFault m).1,.int .i64 (modFault m).2] 30);have HB5:=Qa (HB4.out.trans (b5.mono HB4.out.size));have x5:=Qk x4 b5;have z50:=Qb (Qj w4 #[.int .i64 (modFault m).1,.int .i64 (modFault m).2] 30) 0 _ rfl;have z51:=Qb (Qj w4 #[.int .i64 (modFault m).1,.int .i64 (modFault m).2] 30) 1 _ rfl;clear b5 x4 HB4;go_upto_region 6 with fail
 generalize hw5:w4.alloc (.cells #[.int .i64 (modFault m).1,.int .i64 (modFault m).2] 30)=w5 at HB5 x5 z50 z51 ⊢;clear hw5;generalize w4.heap.size=F1 at z50 z51 ⊢;have CF:=Qa (Qbj (Lay.below HM.out HB5.out) HMS.out);unfold Rd at CF;go_wp2_with fail
 refine CF.out.mono ?_;rintro e6 w6 ⟨rfl,b6⟩;have HB6:=Qa (HB5.out.trans (b6.mono HB5.out.size));have z50:=Qk z50 b6;have z51:=Qk z51 b6;clear b6 CF x5 HB5;have b7:=Q5 w6 (.cells #[.int .i64 (modFault m).1,.int .i64 (modFault m).2] 30);have HB7:=Qa (HB6.out.trans (b7.mono HB6.out.size));have z50:=Qk z50 b7;have z51:=Qk z51 b7;have z70:=Qb (Qj w6 #[.int .i64 (modFault m).1,.int .i64 (modFault m).2] 30) 0 _ rfl;have z71:=Qb (Qj w6 #[.int .i64 (modFault m).1,.int .i64 (modFault m).2] 30) 1 _ rfl;clear b7 HB6;go_upto_region 7 with fail
 generalize hw7:w6.alloc (.cells #[.int .i64 (modFault m).1,.int .i64 (modFault m).2] 30)=w7 at HB7 z50 z51 z70 z71 ⊢;clear hw7;generalize w6.heap.size=F2 at z70 z71 ⊢;generalize modFault m=mf at hf' hf2 z50 z51 z70 z71 ⊢;obtain⟨mc,ma⟩:=mf
 simp only at hf' hf2 z50 z51 z70 z71 ⊢
 go_wp2_with fail
 go_ret;exact⟨rfl,by first | exact HB7.out | (rw[← HXE.out];exact HB7.out)⟩
def KTo (wA w:World) (b:Nat) (O:Nat→Prop) (s:JSt):Prop:=∃ O',KAt w b O' s∧Zx O O' wA w∧∀ k,O' k→k<w.heap.size
section
variable {w w9 wA:World}{b:Nat}{O:Nat→Prop}{L:List Bool}{s:JSt}
theorem Qm.push2 (h:Qm w b O L){a:Option Addr}{cap cap2 g:Nat}(c0:w.cell? ⟨b,0,none⟩=some (.slice a L.length cap))
 (h1:w9.ownsRow 0 4 1 (.slice (some ⟨g,0,none⟩) (L.length+1) cap2) (L.length+1) (L.map Value.bool++[.bool true])) (h2:w.grownBy w9 (Value.slice a L.length cap).ownBlock) (h3:(Value.slice a L.length cap).ownBlock=some g∨w.heap.size≤g) (h4:g<w9.heap.size) :
 w9.cell? ⟨b,0,none⟩=some (.slice a L.length cap)∧w9.frozen? ⟨b,0,none⟩=false ∧
 Qm (w9.setCell ⟨b,0,none⟩ (.slice (some ⟨g,0,none⟩) (L.length+1) cap2)) b (fun x=>O x∨(w.heap.size≤x∧x<w9.heap.size)) (L++[true])∧Zx O (fun x=>O x∨(w.heap.size≤x∧x<w9.heap.size)) w (w9.setCell ⟨b,0,none⟩ (.slice (some ⟨g,0,none⟩) (L.length+1) cap2)):=by
 obtain⟨v,k1,k2,k3⟩:=h
 have e:=Qb k1 0 _ rfl;rw[c0] at e
 simp only[Option.some.injEq] at e
 subst e;have hbl:b<w.heap.size:=lt_of_block k1
 have hne:∀ g',(Value.slice a L.length cap).ownBlock=some g'→b≠g':=fun g' hg'=>by
  obtain⟨c,hc⟩:=k2.block hg'
  exact QZ k1 hc (by decide)
 have kb:w9.heap[b]?=some (.cells #[.slice a L.length cap] 74 (0,0)):=by
  rw[h2.block b hbl (fun e=>hne b e.symm rfl)];exact k1
 have hgb:b≠g:=by
  rcases h3 with h | h
  ·exact hne g h
  ·omega
 have hsz:=h2.size;refine⟨Qb kb 0 _ rfl,Qt kb 0,⟨.slice (some ⟨g,0,none⟩) (L.length+1) cap2,?_,⟨?_,fun g' hg'=>?_⟩,.inl k3⟩,?_⟩
 ·rw[Qr kb];rfl
 ·have:Qet w9 (fun _=>True) 4 (.slice (some ⟨g,0,none⟩) (L.length+1) cap2) ((L++[true]).map Value.bool):=⟨by simpa using h1,fun _ _=>trivial⟩
  exact(this.keep (w':=w9.setCell ⟨b,0,none⟩ (.slice (some ⟨g,0,none⟩) (L.length+1) cap2)) (O':=fun _=>True) (fun g' hg'=>Below.heap_setCell _ _ _ _ (by simp[Value.ownBlock] at hg';subst hg';exact fun e=>hgb e.symm)) (fun _ _=>trivial)).1
 ·simp[Value.ownBlock] at hg'
  subst hg';rcases h3 with h | h
  ·exact .inl (k2.2 _ h)
  ·exact .inr ⟨h,h4⟩
 ·refine⟨h2.os,h2.tape,h2.output,by simp;omega,fun k hk hn=>?_,fun k hk=>hk.imp id fun h=>h.1⟩
  rw[Below.heap_setCell _ _ _ _ (fun e=>hn (by subst e;exact k3)),h2.block k hk (fun e=>hn (k2.2 k e.symm))]
theorem Qm.keep2 {O':Nat→Prop}(h:Qm w b O L) (hb:∀ (g:Nat) (c:Array Value) (t:TypeId),w.heap[g]?=some (Obj.cells c t (0,0))→t=74∨t=4→w9.heap[g]?=w.heap[g]?) (hO:∀ g,O g→O' g):Qm w9 b O' L:=by
 obtain⟨v,h1,h2,h3⟩:=h
 exact⟨v,(hb b _ _ h1 (.inl rfl)).trans h1,h2.keep (fun g hg=>by obtain⟨c,hc⟩:=h2.block hg;exact hb g _ _ hc (.inr rfl)) (fun g hg=>hO g (h2.2 g hg)),hO b h3⟩
theorem KAt.pushH (hO:∀ k,O k→k<wA.heap.size) (h:KAt wA b O s):∃ hh a cap,wA.cell? ⟨b,5,none⟩=some (.pointer (some ⟨hh,0,none⟩))∧wA.cell? ⟨hh,0,none⟩=some (.slice a s.H.length cap)∧wA.ownsRow 0 4 1 (.slice a s.H.length cap) s.H.length (s.H.map Value.bool) ∧
 (∀ w9,wA.grownBy w9 (Value.slice a s.H.length cap).ownBlock→w9.cell? ⟨b,5,none⟩=some (.pointer (some ⟨hh,0,none⟩))∧w9.cell? ⟨hh,0,none⟩=some (.slice a s.H.length cap)∧w9.frozen? ⟨hh,0,none⟩=false) ∧
 ∀ w9 g cap2,w9.ownsRow 0 4 1 (.slice (some ⟨g,0,none⟩) (s.H.length+1) cap2) (s.H.length+1) (s.H.map Value.bool++[.bool true])→wA.grownBy w9 (Value.slice a s.H.length cap).ownBlock→((Value.slice a s.H.length cap).ownBlock=some g∨wA.heap.size≤g)→g<w9.heap.size →
  KTo wA (w9.setCell ⟨hh,0,none⟩ (.slice (some ⟨g,0,none⟩) (s.H.length+1) cap2)) b O { s with H:=s.H++[true] }:=by
 obtain⟨pm,cm,a1,c1,a2,c2,a3,c3,hh,vL,k1,k2,k3,k4,k5,k6⟩:=h
 obtain⟨a,cap,e1,e2,e3,-⟩:=k4.cells
 have hv:∀ g',(Value.slice a s.H.length cap).ownBlock=some g'→O g'∧∃ c,wA.heap[g']?=some (.cells c 4 (0,0)):=by
  obtain⟨v,q1,q2,q3⟩:=id k4
  have e:=Qb q1 0 _ rfl;rw[e1] at e
  simp only[Option.some.injEq] at e
  subst e;exact fun g' hg'=>⟨q2.2 g' hg',q2.block hg'⟩
 obtain⟨ch,hch⟩:∃ c,wA.heap[hh]?=some (.cells c 74 (0,0)):=by obtain⟨v,q1,-⟩:=id k4;exact⟨_,q1⟩
 have hbl:=lt_of_block k1
 have hnb:∀ g',(Value.slice a s.H.length cap).ownBlock=some g'→b≠g':=fun g' hg'=>by
  obtain⟨c,hc⟩:=(hv g' hg').2
  exact QZ k1 hc (by decide)
 have hnh:∀ g',(Value.slice a s.H.length cap).ownBlock=some g'→hh≠g':=fun g' hg'=>by
  obtain⟨c,hc⟩:=(hv g' hg').2
  exact QZ hch hc (by decide)
 have hbh:b≠hh:=QZ k1 hch (by decide);refine⟨hh,a,cap,Qb k1 5 _ rfl,e1,e3,fun w9 hg=>?_,fun w9 g cap2 h1 h2 h3 h4=>?_⟩
 ·have r1:w9.heap[hh]?=some (.cells ch 74 (0,0)):=(hg.block hh k4.lt (fun e=>hnh hh e.symm rfl)).trans hch;exact⟨(hg.cell_far ⟨b,5,none⟩ hbl (fun e=>hnb b e.symm rfl)).trans (Qb k1 5 _ rfl),(hg.cell_far ⟨hh,0,none⟩ k4.lt (fun e=>hnh hh e.symm rfl)).trans e1,Qt r1 0⟩
 obtain⟨-,-,r3,r4⟩:=k4.push2 e1 h1 h2 h3 h4
 have hsz:=h2.size;have low:∀ k,¬ O k→k<wA.heap.size→¬ (O k∨(wA.heap.size≤k∧k<w9.heap.size)):=fun k hk hl e=>by rcases e with e | e;exact hk e;omega
 refine⟨_,⟨pm,cm,a1,c1,a2,c2,a3,c3,hh,vL,?_,(QaF 6).keep (fun k hk hl=>r4.block k hl hk) low k2,(ZF 6).keep (fun k hk hl=>r4.block k hl hk) low k3,r3,k5.keep (fun k hl hk=>?_) (fun k hk=>?_) low,.inl k6⟩,r4,fun k hk=>?_⟩
 ·rw[Below.heap_setCell _ _ _ _ (show b≠hh from hbh),h2.block b hbl (fun e=>hnb b e.symm rfl)];exact k1
 ·rcases hk with hk | hk
  ·obtain⟨c,hc⟩:=k5.block hk
   rw[Below.heap_setCell _ _ _ _ (show k≠hh from QZ hc hch (by decide)),h2.block k hl (fun e=>by obtain⟨c',hc'⟩:=(hv k e.symm).2;exact QZ hc hc' (by decide) rfl)]
  ·exact r4.block k hl hk
 ·obtain⟨xs,q1,q2,q3⟩:=k5
  exact .inl (q2 k hk)
 ·rw[World.size_setCell]
  rcases hk with hk | hk
  ·have:=hO k hk;omega
  ·exact hk.2
theorem KAt.setH (hO:∀ k,O k→k<wA.heap.size) (h:KAt wA b O s):∃ hh a cap,wA.cell? ⟨b,5,none⟩=some (.pointer (some ⟨hh,0,none⟩))∧wA.cell? ⟨hh,0,none⟩=some (.slice a s.H.length cap) ∧
 ∀ i,i<s.H.length→∃ g,a=some ⟨g,0,none⟩∧(∃ u,wA.cell? ⟨g,i,none⟩=some (.bool u))∧wA.frozen? ⟨g,i,none⟩=false∧KTo wA (wA.setCell ⟨g,i,none⟩ (.bool false)) b O { s with H:=s.H.set i false }:=by
 obtain⟨pm,cm,a1,c1,a2,c2,a3,c3,hh,vL,k1,k2,k3,k4,k5,k6⟩:=h
 obtain⟨a,cap,e1,e2,e3,e4⟩:=k4.cells
 have hv:∀ g',(Value.slice a s.H.length cap).ownBlock=some g'→O g'∧∃ c,wA.heap[g']?=some (.cells c 4 (0,0)):=by
  obtain⟨v,q1,q2,q3⟩:=id k4
  have e:=Qb q1 0 _ rfl;rw[e1] at e
  simp only[Option.some.injEq] at e
  subst e;exact fun g' hg'=>⟨q2.2 g' hg',q2.block hg'⟩
 refine⟨hh,a,cap,Qb k1 5 _ rfl,e1,fun i hi=>?_⟩
 obtain⟨g,rfl,hg,f1,f2,f3⟩:=e4 i hi
 obtain⟨c,hc⟩:=(hv g rfl).2
 have st:Zx O O wA (wA.setCell ⟨g,i,none⟩ (.bool false)):=⟨rfl,rfl,rfl,by simp,fun k hk hn=>Below.heap_setCell _ _ _ _ (fun e=>hn (by subst e;exact hg)),fun k hk=>.inl hk⟩;refine⟨g,rfl,⟨_,f1⟩,f2,O,⟨pm,cm,a1,c1,a2,c2,a3,c3,hh,vL,?_,(QaF 6).keep (fun k hk hl=>st.block k hl hk) (fun k hk _=>hk) k2,(ZF 6).keep (fun k hk hl=>st.block k hl hk) (fun k hk _=>hk) k3,f3 false,k5.keep (fun k hl hk=>?_) (fun k hk=>?_) (fun k hk _=>hk),k6⟩,st,fun k hk=>by rw[World.size_setCell];exact hO k hk⟩
 ·rw[Below.heap_setCell _ _ _ _ (show b≠g from QZ k1 hc (by decide))];exact k1
 ·rcases hk with hk | hk
  ·obtain⟨c',hc'⟩:=k5.block hk
   exact Below.heap_setCell _ _ _ _ (show k≠g from QZ hc' hc (by decide))
  ·exact st.block k hl hk
 ·obtain⟨xs,q1,q2,q3⟩:=k5
  exact q2 k hk
theorem KAt.pushL (hO:∀ k,O k→k<wA.heap.size) (h:KAt wA b O s):∃ aL cL xs,wA.cell? ⟨b,6,none⟩=some (.slice aL s.L.length cL)∧wA.frozen? ⟨b,6,none⟩=false∧s.L.length≤cL∧wA.ownsRow 0 79 3 (.slice aL s.L.length cL) s.L.length xs ∧
 ∀ w9 g cap2 (l:List (TT 6)) ds,ds.length=l.length*3→w9.ownsRow 0 79 3 (.slice (some ⟨g,0,none⟩) (s.L.length+l.length) cap2) (s.L.length+l.length) (xs++ds)→wA.grownBy w9 (Value.slice aL s.L.length cL).ownBlock→((Value.slice aL s.L.length cL).ownBlock=some g∨g=wA.heap.size)→g<w9.heap.size →
  (∀ i x,l[i]?=some x→(Lay.tt 6).In wA (fun g=>¬ O g) x ((ds.drop (i*3)).take 3)) →
  w9.cell? ⟨b,6,none⟩=some (.slice aL s.L.length cL)∧w9.frozen? ⟨b,6,none⟩=false∧KTo wA (w9.setCell ⟨b,6,none⟩ (.slice (some ⟨g,0,none⟩) (s.L.length+l.length) cap2)) b O { s with L:=s.L++l }:=by
 obtain⟨pm,cm,a1,c1,a2,c2,a3,c3,hh,vL,k1,k2,k3,k4,k5,k6⟩:=h
 obtain⟨aL,cL,rfl,-,-⟩:=k5.form
 have hv:∀ {g'},(Value.slice aL s.L.length cL).ownBlock=some g'→O g'∧∃ c,wA.heap[g']?=some (.cells c 79 (0,0)):=fun {g'} hg'=>⟨by obtain⟨xs,q1,q2,q3⟩:=id k5;exact q2 g' hg',k5.block hg'⟩;obtain⟨xs,q1,q2,q3⟩:=k5
 obtain⟨ch,hch⟩:∃ c,wA.heap[hh]?=some (.cells c 74 (0,0)):=by obtain⟨v,q1,-⟩:=id k4;exact⟨_,q1⟩
 have hbl:=lt_of_block k1
 have hnb:∀ g',(Value.slice aL s.L.length cL).ownBlock=some g'→b≠g':=fun g' hg'=>by
  obtain⟨c,hc⟩:=(hv hg').2
  exact QZ k1 hc (by decide)
 have hle:s.L.length≤cL:=by
  obtain⟨-,q⟩:=id q1
  rcases q with ⟨e,e2⟩|⟨g,cap,cur,e,_,_,hn,_⟩
  ·omega
  ·simp only[Value.slice.injEq] at e;omega
 refine⟨aL,cL,xs,Qb k1 6 _ rfl,Qt k1 6,hle,q1,fun w9 g cap2 l ds hdl h1 h2 h3 h4 h5=>?_⟩
 have hsz:=h2.size;have kb:=(h2.block b hbl (fun e=>hnb b e.symm rfl)).trans k1
 have hgb:b≠g:=by
  rcases h3 with h | h
  ·exact hnb g h
  ·omega
 have low:∀ k,¬ O k→k<wA.heap.size→¬ (O k∨(wA.heap.size≤k∧k<w9.heap.size)):=fun k hk hl e=>by rcases e with e | e;exact hk e;omega
 have r4:Zx O (fun x=>O x∨(wA.heap.size≤x∧x<w9.heap.size)) wA (w9.setCell ⟨b,6,none⟩ (.slice (some ⟨g,0,none⟩) (s.L.length+l.length) cap2)):=by
  refine⟨h2.os,h2.tape,h2.output,by simp;omega,fun k hk hn=>?_,fun k hk=>hk.imp id fun h=>h.1⟩
  rw[Below.heap_setCell _ _ _ _ (fun e=>hn (by subst e;exact k6)),h2.block k hk (fun e=>hn (hv e.symm).1)]
 refine⟨Qb kb 6 _ rfl,Qt kb 6,_,⟨pm,cm,a1,c1,a2,c2,a3,c3,hh,.slice (some ⟨g,0,none⟩) (s.L.length+l.length) cap2,?_,(QaF 6).keep (fun k hk hl=>r4.block k hl hk) low k2,(ZF 6).keep (fun k hk hl=>r4.block k hl hk) low k3,k4.keep2 (fun k c t hk ht=>?_) (fun k hk=>.inl hk),?_,.inl k6⟩,r4,fun k hk=>?_⟩
 ·rw[Qr kb];rfl
 ·rw[Below.heap_setCell _ _ _ _ (show k≠b from QZ hk k1 (by rcases ht with rfl | rfl<;>decide)),h2.block k (lt_of_block hk) (fun e=>by obtain⟨c',hc'⟩:=(hv e.symm).2;exact QZ hk hc' (by rcases ht with rfl | rfl<;>decide) rfl)]
 ·refine⟨xs++ds,?_,fun k hk=>?_,?_⟩
  ·rw[List.length_append]
   exact QbY h1 (Below.heap_setCell _ _ _ _ (show g≠b from fun e=>hgb e.symm))
  ·simp[Value.ownBlock] at hk
   subst hk;rcases h3 with h | h
   ·exact .inl (hv h).1
   ·exact .inr ⟨by omega,h4⟩
  ·refine Qa7 (s:=3) (P:=fun x cs=>(Lay.tt 6).In _ _ x cs) q1.1 (fun i x hx=>?_) (fun i x hx=>?_)
   ·exact(Lay.tt 6).keep (fun k hk hl=>r4.block k hl hk) low (q3 i x hx)
   ·exact(Lay.tt 6).keep (fun k hk hl=>r4.block k hl hk) low (h5 i x hx)
 ·rw[World.size_setCell]
  rcases hk with hk | hk
  ·have:=hO k hk;omega
  ·exact hk.2
end
theorem ZR.via {l:List Oper}{S:Nat→Bool}(hcl:ZR l S){q i:Nat}{o:Oper}(ho:l[q]?=some o) (hw:QbL l 24 o i=true) (hq:S q=true):S i=true :=
 Qbt (all:=l) (S:=fun j=>S j=true) hcl 24 o hw (hcl q o ho hq)
theorem ZR.no {l:List Oper}{S:Nat→Bool}(hcl:ZR l S){q i:Nat}{o:Oper}(ho:l[q]?=some o) (hw:QbL l 24 o i=true) (hS:S i=false):S q=false:=by
 cases h:S q with
 | false=>rfl
 | true=>have:=hcl.via ho hw h;rw[hS] at this;cases this
theorem ZU {i j:Nat}{S:Nat→Bool}(h:j≠i):QaG i S j=S j:=by
 have:(j==i)=false:=by simpa using h
 unfold QaG;rw[this,Bool.false_or]
def hTi:List (Nat × Tmp):=[(0,38),(1,39),(2,40),(3,41),(4,42),(5,43),(6,44),(7,45),(8,46),(9,47),(10,48),(11,49),(12,50),(13,51),(14,52)]
def hMv (b hh rn rc G g2 cap2:Nat) (ra:Option Addr):List (Tmp × Value):=[(38,.pointer (some ⟨b,0,none⟩)),(39,.pointer (some ⟨b,0,none⟩)),(40,.pointer (some ⟨b,5,none⟩)),(41,.pointer (some ⟨hh,0,none⟩)),(42,.pointer (some ⟨b,0,none⟩)),(43,.pointer (some ⟨b,0,none⟩)),(44,.pointer (some ⟨b,5,none⟩)),(45,.pointer (some ⟨hh,0,none⟩)),(46,.pointer (some ⟨hh,0,none⟩)),(47,.pointer (some ⟨hh,0,none⟩)),(48,.slice ra rn rc),(49,.slice (some ⟨G,0,none⟩) 1 1),(50,.slice (some ⟨g2,0,none⟩) (rn+1) cap2),(51,.pointer (some ⟨hh,0,none⟩)),(52,.pointer (some ⟨hh,0,none⟩))]
def HIv (n:Nat) (a0:Act) (wA:World) (b:Nat) (O:Nat→Prop) (s:JSt) (hh rn rc:Nat) (ra:Option Addr) (S:Nat→Bool) (a:Act) (w:World):Prop :=
 a.tmps.size=n∧a.defers=[]∧(∀ t,([38,39,40,41,42,43,44,45,46,47,48,49,50,51,52]:List Tmp).contains t=false→a.tmps.getD t undef=a0.tmps.getD t undef)∧∃ G g2 cap2,
  (∀ x∈hTi,S x.1=true→∀ v,(hMv b hh rn rc G g2 cap2 ra).lookup x.2=some v→a.tmps.getD x.2 undef=v) ∧
  (S 15=false→wA.grownBy w (Value.slice ra rn rc).ownBlock∧(S 12=false→Below wA.heap.size wA w∧(S 11=true→wA.heap.size≤G∧w.heap[G]?=some (.cells #[.bool true] 4 (0,0)))) ∧
   (S 12=true→w.ownsRow 0 4 1 (.slice (some ⟨g2,0,none⟩) (rn+1) cap2) (rn+1) (s.H.map Value.bool++[.bool true])∧((Value.slice ra rn rc).ownBlock=some g2∨wA.heap.size≤g2)∧g2<w.heap.size)) ∧
  (S 15=true→KTo wA w b O { s with H:=s.H++[true] })
section
variable {n:Nat}{a0 a:Act}{wA w w':World}{b hh rn rc:Nat}{O:Nat→Prop}{s:JSt}{ra:Option Addr}{S:Nat→Bool}
theorem hTi_lt:∀ x∈hTi,x.2<53∧([38,39,40,41,42,43,44,45,46,47,48,49,50,51,52]:List Tmp).contains x.2=true:=by decide
theorem HIv.pure {i:Nat}{t:Tmp}{v:Value}(hI:HIv n a0 wA b O s hh rn rc ra S a w) (hn:53≤n) (hi:(i,t)∈hTi) (hv:∀ G g2 cap2,(hMv b hh rn rc G g2 cap2 ra).lookup t=some v) (h11:i≠11) (h12:i≠12) (h15:i≠15):HIv n a0 wA b O s hh rn rc ra (QaG i S) (a.put (some t) v) w:=by
 obtain⟨h1,h2,h3,G,g2,cap2,h4,h5,h6⟩:=hI
 obtain⟨ht,htc⟩:=hTi_lt _ hi
 have hta:t<a.tmps.size:=by rw[h1];exact Nat.lt_of_lt_of_le ht hn
 refine⟨by rw[← h1];simp[Act.put],h2,fun u hu=>?_,G,g2,cap2,fun x hx hs v' hv'=>?_,?_,?_⟩
 ·have:u≠t:=fun e=>by subst e;rw[htc] at hu;cases hu
  rw[Zg hta,if_neg this];exact h3 u hu
 ·rw[Zg hta]
  by_cases e:x.2=t
  ·rw[if_pos e];rw[e,hv] at hv';exact Option.some.inj hv'
  ·rw[if_neg e]
   refine h4 x hx (Q9 (fun e2=>e ?_) hs) v' hv'
   have:∀ x∈hTi,∀ y∈hTi,x.1=y.1→x.2=y.2:=by decide
   exact this x hx (i,t) hi e2
 ·rw[ZU (Ne.symm h15),ZU (Ne.symm h12),ZU (Ne.symm h11)];exact h5
 ·rw[ZU (Ne.symm h15)];exact h6
end
def TRi (w:World) (lo hi:Nat) (v:Value) (ts:List (TT 6)):Prop :=
 ∃ xs,w.ownsRow 0 79 3 v ts.length xs∧(∀ g,v.ownBlock=some g→lo≤g∧g<hi)∧∀ i x,ts[i]?=some x→(Lay.tt 6).In w (fun k=>lo≤k∧k<hi∧v.ownBlock≠some k) x ((xs.drop (i*3)).take 3)
theorem TRi.below {w w':World}{lo hi:Nat}{v:Value}{ts:List (TT 6)}(h:TRi w lo hi v ts) (k:Below w.heap.size w w'):TRi w' lo hi v ts:=by
 obtain⟨xs,⟨h1,h2⟩,h3,h4⟩:=h
 refine⟨xs,⟨h1,?_⟩,h3,fun i x hx=>Lay.below (h4 i x hx) k⟩
 rcases h2 with h5 | ⟨g,cap,cur,rfl,hg,hh,r⟩
 ·exact .inl h5
 ·exact .inr ⟨g,cap,cur,rfl,hg,(k.block g (lt_of_block hh)).trans hh,r⟩
theorem TRi.of_row {w:World}{lo:Nat}{v:Value}{ts:List (TT 6)}{xs:List Value}(h:QcS w lo v ts xs) (hok:∀ x∈ts,x.ok):TRi w lo w.heap.size v ts:=by
 have hl:=fun {g} hg=>h.lo_le (g:=g) hg;obtain⟨⟨h1,h2⟩,h3⟩:=h
 refine⟨xs,⟨h1,?_⟩,fun g hg=>hl hg,fun i x hx=>?_⟩
 ·rcases h2 with h5 | ⟨g,cap,cur,rfl,hg,r⟩
  ·exact .inl h5
  ·exact .inr ⟨g,cap,cur,rfl,Nat.zero_le _,r⟩
 ·obtain⟨a,c,e0,e1,e2,k⟩:=h3 i x hx
  refine⟨a,c,?_,k.mono (fun g hg hgl=>⟨hg.1,hgl,hg.2⟩),hok x (List.mem_of_getElem? hx)⟩
  have hi:i<ts.length:=(List.getElem?_eq_some_iff.1 hx).1;refine List.ext_getElem? fun j=>?_;rw[List.getElem?_take,List.getElem?_drop]
  match j with
  | 0=>simpa using e0
  | 1=>simpa using e1
  | 2=>simpa using e2
  | j+3=>rw[if_neg (by omega)];rfl
structure KZ where
 h:Nat
 lo:Nat
 hi:Nat
 lo2:Nat
 hi2:Nat
 B:Nat
 c:Nat
 a:Option Addr
def kTi:List (Nat × Tmp):=[(0,17),(1,18),(2,19),(3,20),(4,21),(5,22),(6,23),(7,24),(8,25),(9,26),(10,27),(11,28),(12,29),(13,30),(14,6)]
def kMv (X mg mo nm cm fi Bk n1 d1 fl fc fm fd fn ff:Nat) (fr gr:Int) (fa fb fe p1:Option Addr) (z:KZ):List (Tmp × Value):=[(17,.agg #[.slice (some ⟨mg,mo,none⟩) nm cm]),(18,.pointer (some ⟨X,0,none⟩)),(19,.slice (some ⟨mg,mo,none⟩) nm cm),(20,.int .i64 (fi:Int)),(21,.pointer (some ⟨mg,mo+fi*4,none⟩)),(22,.agg #[.int .i64 fr,.slice fa fl fc,.slice fb fm fd,.slice fe fn ff]),(23,.pointer (some ⟨Bk,0,none⟩)),(24,.int .i64 gr),(25,.pointer (some ⟨z.h,0,none⟩)),(26,.pointer (some ⟨Bk,1,none⟩)),(27,.slice p1 n1 d1),(28,.slice z.a n1 z.c),(29,.agg #[.slice (some ⟨mg,mo,none⟩) nm cm,.int .i64 fr,.slice fa fl fc,.slice fb fm fd,.slice fe fn ff,.pointer (some ⟨z.h,0,none⟩),.slice z.a n1 z.c]),(30,.pointer (some ⟨z.B,0,none⟩)),(6,.pointer (some ⟨z.B,0,none⟩))]
structure KIv (X mg mo nm cm fi Bk n1 d1 fl fc fm fd fn ff:Nat) (fr gr:Int) (fa fb fe p1:Option Addr) (n:Nat) (a0:Act) (w6:World) (ts:List (TT 6)) (z:KZ) (S:Nat→Bool) (a:Act) (w:World):Prop where
 size:a.tmps.size=n
 defers:a.defers=[]
 outer:∀ t,([17,18,19,20,21,22,23,24,25,26,27,28,29,30,6]:List Tmp).contains t=false→a.tmps.getD t undef=a0.tmps.getD t undef
 vals:∀ x∈kTi,S x.1=true→∀ v,(kMv X mg mo nm cm fi Bk n1 d1 fl fc fm fd fn ff fr gr fa fb fe p1 z).lookup x.2=some v→a.tmps.getD x.2 undef=v
 bel:Below w6.heap.size w6 w
 held:S 8=true→w6.heap.size≤z.lo∧z.hi≤w.heap.size∧Qm w z.h (fun k=>z.lo≤k∧k<z.hi) (QcW gr)
 row:S 11=true→w6.heap.size≤z.lo2∧z.hi2≤w.heap.size∧TRi w z.lo2 z.hi2 (.slice z.a n1 z.c) ts
 apart:S 8=true→S 11=true→z.hi≤z.lo2∨z.hi2≤z.lo
 box:S 13=true→w6.heap.size≤z.B∧z.hi≤z.B∧z.hi2≤z.B∧Blk w z.B #[.slice (some ⟨mg,mo,none⟩) nm cm,.int .i64 fr,.slice fa fl fc,.slice fb fm fd,.slice fe fn ff,.pointer (some ⟨z.h,0,none⟩),.slice z.a n1 z.c] 65
section
variable {X mg mo nm cm fi Bk n1 d1 fl fc fm fd fn ff:Nat}{fr gr:Int}{fa fb fe p1:Option Addr}{n:Nat}{a0 a:Act}{w6 w w':World}{ts:List (TT 6)}{z:KZ}{S:Nat→Bool}
theorem kTi_lt:∀ x∈kTi,x.2<31∧([17,18,19,20,21,22,23,24,25,26,27,28,29,30,6]:List Tmp).contains x.2=true:=by decide
theorem kTi_ne:∀ x∈kTi,∀ y∈kTi,x.1=y.1→x.2=y.2:=by decide
theorem KIv.put {z':KZ}{i:Nat}{t:Tmp}{v:Value}(hI:KIv X mg mo nm cm fi Bk n1 d1 fl fc fm fd fn ff fr gr fa fb fe p1 n a0 w6 ts z S a w) (hn:31≤n) (hi:(i,t)∈kTi) (hv:(kMv X mg mo nm cm fi Bk n1 d1 fl fc fm fd fn ff fr gr fa fb fe p1 z').lookup t=some v) (hz:∀ x∈kTi,x.1≠i→S x.1=true→(kMv X mg mo nm cm fi Bk n1 d1 fl fc fm fd fn ff fr gr fa fb fe p1 z').lookup x.2=(kMv X mg mo nm cm fi Bk n1 d1 fl fc fm fd fn ff fr gr fa fb fe p1 z).lookup x.2)
 (h1:Below w6.heap.size w6 w') (h2:QaG i S 8=true→w6.heap.size≤z'.lo∧z'.hi≤w'.heap.size∧Qm w' z'.h (fun k=>z'.lo≤k∧k<z'.hi) (QcW gr)) (h3:QaG i S 11=true→w6.heap.size≤z'.lo2∧z'.hi2≤w'.heap.size∧TRi w' z'.lo2 z'.hi2 (.slice z'.a n1 z'.c) ts)
 (h4:QaG i S 8=true→QaG i S 11=true→z'.hi≤z'.lo2∨z'.hi2≤z'.lo) (h5:QaG i S 13=true→w6.heap.size≤z'.B∧z'.hi≤z'.B∧z'.hi2≤z'.B∧Blk w' z'.B #[.slice (some ⟨mg,mo,none⟩) nm cm,.int .i64 fr,.slice fa fl fc,.slice fb fm fd,.slice fe fn ff,.pointer (some ⟨z'.h,0,none⟩),.slice z'.a n1 z'.c] 65) :
 KIv X mg mo nm cm fi Bk n1 d1 fl fc fm fd fn ff fr gr fa fb fe p1 n a0 w6 ts z' (QaG i S) (a.put (some t) v) w':=by
 obtain⟨ht,htc⟩:=kTi_lt _ hi
 have hta:t<a.tmps.size:=by rw[hI.size];exact Nat.lt_of_lt_of_le ht hn
 refine⟨by rw[← hI.size];simp[Act.put],hI.defers,fun u hu=>?_,fun x hx hs v' hv'=>?_,h1,h2,h3,h4,h5⟩
 ·have:u≠t:=fun e=>by subst e;rw[htc] at hu;cases hu
  rw[Zg hta,if_neg this];exact hI.outer u hu
 ·rw[Zg hta]
  by_cases e:x.2=t
  ·rw[if_pos e];rw[e,hv] at hv';exact Option.some.inj hv'
  ·rw[if_neg e]
   have hne:x.1≠i:=fun e2=>e (kTi_ne x hx (i,t) hi e2);have hs':=Q9 hne hs;rw[hz x hx hne hs'] at hv'
   exact hI.vals x hx hs' v' hv'
theorem KIv.pure {i:Nat}{t:Tmp}{v:Value}(hI:KIv X mg mo nm cm fi Bk n1 d1 fl fc fm fd fn ff fr gr fa fb fe p1 n a0 w6 ts z S a w) (hn:31≤n) (hi:(i,t)∈kTi) (hv:(kMv X mg mo nm cm fi Bk n1 d1 fl fc fm fd fn ff fr gr fa fb fe p1 z).lookup t=some v) (h8:i≠8) (h11:i≠11) (h13:i≠13):KIv X mg mo nm cm fi Bk n1 d1 fl fc fm fd fn ff fr gr fa fb fe p1 n a0 w6 ts z (QaG i S) (a.put (some t) v) w:=by
 refine hI.put hn hi hv (fun _ _ _ _=>rfl) hI.bel ?_ ?_ ?_ ?_
 ·rw[ZU (Ne.symm h8)];exact hI.held
 ·rw[ZU (Ne.symm h11)];exact hI.row
 ·rw[ZU (Ne.symm h8),ZU (Ne.symm h11)];exact hI.apart
 ·rw[ZU (Ne.symm h13)];exact hI.box
end
def QlF (X mg mo nm cm fi Bk n1 d1 fl fc fm fd fn ff:Nat) (fr gr:Int) (fa fb fe p1:Option Addr) (w6 w':World) (ts:List (TT 6)) (B:Nat):Prop :=
 ∃ h vL O',Blk w' B #[.slice (some ⟨mg,mo,none⟩) nm cm,.int .i64 fr,.slice fa fl fc,.slice fb fm fd,.slice fe fn ff,.pointer (some ⟨h,0,none⟩),vL] 65∧Qm w' h O' (QcW gr)∧(∃ xs,w'.ownsRow 0 79 3 vL ts.length xs∧(∀ g,vL.ownBlock=some g→O' g)∧∀ i x,ts[i]?=some x→(Lay.tt 6).In w' (fun g=>¬ O' g∧w6.heap.size≤g) x ((xs.drop (i*3)).take 3))∧O' B∧(∀ k,O' k→w6.heap.size≤k∧k<w'.heap.size)∧Below w6.heap.size w6 w'
theorem KIv.fin {X mg mo nm cm fi Bk n1 d1 fl fc fm fd fn ff:Nat}{fr gr:Int}{fa fb fe p1:Option Addr}{n:Nat}{a0 a:Act}{w6 w:World}{ts:List (TT 6)}{z:KZ}{S:Nat→Bool}(hI:KIv X mg mo nm cm fi Bk n1 d1 fl fc fm fd fn ff fr gr fa fb fe p1 n a0 w6 ts z S a w) (h8:S 8=true) (h11:S 11=true) (h13:S 13=true):QlF X mg mo nm cm fi Bk n1 d1 fl fc fm fd fn ff fr gr fa fb fe p1 w6 w ts z.B:=by
 obtain⟨p1,p2,p3⟩:=hI.held h8
 obtain⟨q1,q2,xs,q3,q4,q5⟩:=hI.row h11
 have ha:=hI.apart h8 h11;obtain⟨r1,r2,r3,r4⟩:=hI.box h13
 have hBl:=lt_of_block r4;refine⟨z.h,_,fun k=>k=z.B∨(z.lo≤k∧k<z.hi)∨(Value.slice z.a n1 z.c).ownBlock=some k,r4,p3.mono (fun k hk=>.inr (.inl hk)),⟨xs,q3,fun g hg=>.inr (.inr hg),fun i x hx=>?_⟩,.inl rfl,fun k hk=>?_,hI.bel⟩
 ·refine(Lay.tt 6).keep (fun _ _ _=>rfl) (fun k hk hl=>⟨fun e=>?_,by omega⟩) (q5 i x hx)
  rcases e with e | e | e
  ·omega
  ·omega
  ·exact hk.2.2 e
 ·rcases hk with rfl | hk | hk
  ·exact⟨r1,hBl⟩
  ·omega
  ·have:=q4 k hk;omega
theorem ka2 {X mg mo nm cm fi Bk n1 d1 fl fc fm fd fn ff:Nat}{fr gr:Int}{fa fb fe p1:Option Addr}{w6:World}{Q:Nat→Prop}{ts:List (TT 6)}(x0:w6.cell? ⟨X,0,none⟩=some (.slice (some ⟨mg,mo,none⟩) nm cm)) (hfi:(fi:Int)<nm) (f0:w6.cell? ⟨mg,mo+fi*4,none⟩=some (.int .i64 fr)) (f1:w6.cell? ⟨mg,mo+fi*4+1,none⟩=some (.slice fa fl fc)) (f2:w6.cell? ⟨mg,mo+fi*4+2,none⟩=some (.slice fb fm fd)) (f3:w6.cell? ⟨mg,mo+fi*4+3,none⟩=some (.slice fe fn ff))
 (y0:w6.cell? ⟨Bk,0,none⟩=some (.int .i64 gr)) (y1:w6.cell? ⟨Bk,1,none⟩=some (.slice p1 n1 d1)) (HN:Hid (ts.length=n1)) (HT:Hid ((Qp 6).In w6 Q ts [.slice p1 n1 d1])) (HC:Hid (∀ t∈ts,t.count≤100000)) (hn1:n1≤100000)
 (a:Act) (hn:a.tmps.size=31) (hdf:a.defers=[]) (h3:a.tmps.getD 3 undef=.pointer (some ⟨X,0,none⟩)) (h1:a.tmps.getD 1 undef=.int .i64 (fi:Int)) (h7:a.tmps.getD 7 undef=.pointer (some ⟨Bk,0,none⟩)) :
 Code.wp Tryz.prog ((Tryz.f22.body.bind (Ql 2)).getD .skip) (fun e a' w'=>e=.normal∧∃ vs,a'=Ze a vs [17,18,19,20,21,22,23,24,25,26,27,28,29,30,6]∧∃ B,vs 6=.pointer (some ⟨B,0,none⟩)∧QlF X mg mo nm cm fi Bk n1 d1 fl fc fm fd fn ff fr gr fa fb fe p1 w6 w' ts B) a w6:=by
 conv=>arg 2;whnf
 refine Qeg (fun S a1 w1=>∃ z,KIv X mg mo nm cm fi Bk n1 d1 fl fc fm fd fn ff fr gr fa fb fe p1 31 a w6 ts z S a1 w1) (by kernel_rfl) (by kernel_rfl) ?h0 ?hst ?hend
 case h0=>exact⟨⟨0,0,0,0,0,0,0,none⟩,⟨hn,hdf,fun _ _=>rfl,fun _ _ h=>(by cases h),Qi (Below.refl _ _) 1,fun h=>(by cases h),fun h=>(by cases h),fun h=>(by cases h),fun h=>(by cases h)⟩⟩
 case hend =>
  rintro S a' w' hS ⟨z,hI⟩;have hS':∀ j,j<15→S j=true:=hS;exact⟨rfl,_,Qf4 (by rw[hI.size,hn]) (by rw[hI.defers,hdf]) hI.outer,z.B,hI.vals (14,6) (by decide) (hS' 14 (by decide)) _ rfl,hI.fin (hS' 8 (by decide)) (hS' 11 (by decide)) (hS' 13 (by decide))⟩
 case hst =>
  refine⟨fun S a1 w1 hS hd hcl hI0 K hK=>?_,?_⟩
  ·obtain⟨z,hI⟩:=hI0
   have hb:=hI.bel;have k0:a1.tmps.getD 3 undef=.pointer (some ⟨X,0,none⟩):=(hI.outer 3 (by kernel_rfl)).trans h3;have c0:=Qk x0 hb;go_simp;exact hK _ _ ⟨z,hI.pure (by decide) (i:=0) (t:=17) (by decide) rfl (by decide) (by decide) (by decide)⟩
  refine⟨fun S a1 w1 hS hd hcl hI0 K hK=>?_,?_⟩
  ·obtain⟨z,hI⟩:=hI0
   have hb:=hI.bel;have k0:a1.tmps.getD 3 undef=.pointer (some ⟨X,0,none⟩):=(hI.outer 3 (by kernel_rfl)).trans h3;go_simp;exact hK _ _ ⟨z,hI.pure (by decide) (i:=1) (t:=18) (by decide) rfl (by decide) (by decide) (by decide)⟩
  refine⟨fun S a1 w1 hS hd hcl hI0 K hK=>?_,?_⟩
  ·obtain⟨z,hI⟩:=hI0
   have hb:=hI.bel;have k0:a1.tmps.getD 18 undef=.pointer (some ⟨X,0,none⟩):=hI.vals (1,18) (by decide) (hd.at 1 (by kernel_rfl)) _ rfl;have c0:=Qk x0 hb;go_simp;exact hK _ _ ⟨z,hI.pure (by decide) (i:=2) (t:=19) (by decide) rfl (by decide) (by decide) (by decide)⟩
  refine⟨fun S a1 w1 hS hd hcl hI0 K hK=>?_,?_⟩
  ·obtain⟨z,hI⟩:=hI0
   have hb:=hI.bel;have k0:a1.tmps.getD 1 undef=.int .i64 (fi:Int):=(hI.outer 1 (by kernel_rfl)).trans h1;go_simp;exact hK _ _ ⟨z,hI.pure (by decide) (i:=3) (t:=20) (by decide) rfl (by decide) (by decide) (by decide)⟩
  refine⟨fun S a1 w1 hS hd hcl hI0 K hK=>?_,?_⟩
  ·obtain⟨z,hI⟩:=hI0
   have hb:=hI.bel;have k0:a1.tmps.getD 19 undef=.slice (some ⟨mg,mo,none⟩) nm cm:=hI.vals (2,19) (by decide) (hd.at 2 (by kernel_rfl)) _ rfl;have k1:a1.tmps.getD 20 undef=.int .i64 (fi:Int):=hI.vals (3,20) (by decide) (hd.at 3 (by kernel_rfl)) _ rfl;go_simp;exact hK _ _ ⟨z,hI.pure (by decide) (i:=4) (t:=21) (by decide) rfl (by decide) (by decide) (by decide)⟩
  refine⟨fun S a1 w1 hS hd hcl hI0 K hK=>?_,?_⟩
  ·obtain⟨z,hI⟩:=hI0
   have hb:=hI.bel;have k0:a1.tmps.getD 21 undef=.pointer (some ⟨mg,mo+fi*4,none⟩):=hI.vals (4,21) (by decide) (hd.at 4 (by kernel_rfl)) _ rfl;have c0:=Qk f0 hb;have c1:=Qk f1 hb;have c2:=Qk f2 hb;have c3:=Qk f3 hb;go_simp;exact hK _ _ ⟨z,hI.pure (by decide) (i:=5) (t:=22) (by decide) rfl (by decide) (by decide) (by decide)⟩
  refine⟨fun S a1 w1 hS hd hcl hI0 K hK=>?_,?_⟩
  ·obtain⟨z,hI⟩:=hI0
   have hb:=hI.bel;have k0:a1.tmps.getD 7 undef=.pointer (some ⟨Bk,0,none⟩):=(hI.outer 7 (by kernel_rfl)).trans h7;go_simp;exact hK _ _ ⟨z,hI.pure (by decide) (i:=6) (t:=23) (by decide) rfl (by decide) (by decide) (by decide)⟩
  refine⟨fun S a1 w1 hS hd hcl hI0 K hK=>?_,?_⟩
  ·obtain⟨z,hI⟩:=hI0
   have hb:=hI.bel;have k0:a1.tmps.getD 23 undef=.pointer (some ⟨Bk,0,none⟩):=hI.vals (6,23) (by decide) (hd.at 6 (by kernel_rfl)) _ rfl;have c0:=Qk y0 hb;go_simp;exact hK _ _ ⟨z,hI.pure (by decide) (i:=7) (t:=24) (by decide) rfl (by decide) (by decide) (by decide)⟩
  refine⟨fun S a1 w1 hS hd hcl hI0 K hK=>?_,?_⟩
  ·obtain⟨z,hI⟩:=hI0
   have hb:=hI.bel;have k0:a1.tmps.getD 24 undef=.int .i64 gr:=hI.vals (7,24) (by decide) (hd.at 7 (by kernel_rfl)) _ rfl;have n12:S 12=false:=hcl.no (q:=12) rfl (by kernel_rfl) hS;have n13:S 13=false:=hcl.no (q:=13) rfl (by kernel_rfl) hS;have n14:S 14=false:=hcl.no (q:=14) rfl (by kernel_rfl) hS;go_simp;refine(QeN w1 gr).mono ?_
   rintro e w9 ⟨rfl,r1,r2⟩;have hs1:=hb.size;have hs2:=r2.size;refine hK _ _ ⟨{ z with h:=w1.heap.size,lo:=w1.heap.size,hi:=w9.heap.size },hI.put (by decide) (i:=8) (t:=25) (by decide) rfl (fun x hx hne hs=>?_) (hb.trans (r2.mono hs1)) (fun _=>⟨hs1,Nat.le_refl _,r1⟩) (fun hs=>?_) (fun _ hs=>?_) (fun hs=>?_)⟩
   ·simp only[kTi,List.mem_cons,List.not_mem_nil,or_false] at hx
    rcases hx with rfl | rfl | rfl | rfl | rfl | rfl | rfl | rfl | rfl | rfl | rfl | rfl | rfl | rfl | rfl
    all_goals first | rfl | (exact absurd hs (by rw[n12];decide)) | (exact absurd rfl hne)
   ·rw[ZU (by decide)] at hs
    obtain⟨q1,q2,q3⟩:=hI.row hs
    exact⟨q1,Nat.le_trans q2 hs2,q3.below r2⟩
   ·rw[ZU (by decide)] at hs
    exact .inr (hI.row hs).2.1
   ·rw[ZU (by decide),n13] at hs;cases hs
  refine⟨fun S a1 w1 hS hd hcl hI0 K hK=>?_,?_⟩
  ·obtain⟨z,hI⟩:=hI0
   have hb:=hI.bel;have k0:a1.tmps.getD 7 undef=.pointer (some ⟨Bk,0,none⟩):=(hI.outer 7 (by kernel_rfl)).trans h7;go_simp;exact hK _ _ ⟨z,hI.pure (by decide) (i:=9) (t:=26) (by decide) rfl (by decide) (by decide) (by decide)⟩
  refine⟨fun S a1 w1 hS hd hcl hI0 K hK=>?_,?_⟩
  ·obtain⟨z,hI⟩:=hI0
   have hb:=hI.bel;have k0:a1.tmps.getD 26 undef=.pointer (some ⟨Bk,1,none⟩):=hI.vals (9,26) (by decide) (hd.at 9 (by kernel_rfl)) _ rfl;have c0:=Qk y1 hb;go_simp;exact hK _ _ ⟨z,hI.pure (by decide) (i:=10) (t:=27) (by decide) rfl (by decide) (by decide) (by decide)⟩
  refine⟨fun S a1 w1 hS hd hcl hI0 K hK=>?_,?_⟩
  ·obtain⟨z,hI⟩:=hI0
   have hb:=hI.bel;have k0:a1.tmps.getD 27 undef=.slice p1 n1 d1:=hI.vals (10,27) (by decide) (hd.at 10 (by kernel_rfl)) _ rfl;have n12:S 12=false:=hcl.no (q:=12) rfl (by kernel_rfl) hS;have n13:S 13=false:=hcl.no (q:=13) rfl (by kernel_rfl) hS;have n14:S 14=false:=hcl.no (q:=14) rfl (by kernel_rfl) hS
   have CL:Calls Tryz.prog 37 #[.slice p1 n1 d1] w1 fun e w'=>∃ a' c',e=.returned (.slice a' n1 c')∧TRi w' w1.heap.size w'.heap.size (.slice a' n1 c') ts∧Below w1.heap.size w1 w':=by
    obtain⟨tl,tok⟩:=QM (Lay.below HT.out hb)
    have:=Qgs 6 (own_any 6) ts p1 d1 w1 tl.all (by rw[HN.out];exact hn1) HC.out
    rw[HN.out] at this
    refine this.mono ?_;rintro e w9 ⟨a',c',rfl,⟨xs,hr⟩,hb9⟩;exact⟨a',c',rfl,TRi.of_row hr tok,hb9⟩
   go_simp;refine CL.mono ?_;rintro e w9 ⟨a',c',rfl,r1,r2⟩;have hs1:=hb.size;have hs2:=r2.size;refine hK _ _ ⟨{ z with a:=a',c:=c',lo2:=w1.heap.size,hi2:=w9.heap.size },hI.put (by decide) (i:=11) (t:=28) (by decide) rfl (fun x hx hne hs=>?_) (hb.trans (r2.mono hs1)) (fun hs=>?_) (fun _=>⟨hs1,Nat.le_refl _,r1⟩) (fun hs _=>?_) (fun hs=>?_)⟩
   ·simp only[kTi,List.mem_cons,List.not_mem_nil,or_false] at hx
    rcases hx with rfl | rfl | rfl | rfl | rfl | rfl | rfl | rfl | rfl | rfl | rfl | rfl | rfl | rfl | rfl
    all_goals first | rfl | (exact absurd hs (by rw[n12];decide)) | (exact absurd rfl hne)
   ·rw[ZU (by decide)] at hs
    obtain⟨q1,q2,q3⟩:=hI.held hs
    exact⟨q1,Nat.le_trans q2 hs2,q3.below r2⟩
   ·rw[ZU (by decide)] at hs
    exact .inl (hI.held hs).2.1
   ·rw[ZU (by decide),n13] at hs;cases hs
  refine⟨fun S a1 w1 hS hd hcl hI0 K hK=>?_,?_⟩
  ·obtain⟨z,hI⟩:=hI0
   have hb:=hI.bel;have k0:a1.tmps.getD 17 undef=.agg #[.slice (some ⟨mg,mo,none⟩) nm cm]:=hI.vals (0,17) (by decide) (hd.at 0 (by kernel_rfl)) _ rfl;have k1:a1.tmps.getD 22 undef=.agg #[.int .i64 fr,.slice fa fl fc,.slice fb fm fd,.slice fe fn ff]:=hI.vals (5,22) (by decide) (hd.at 5 (by kernel_rfl)) _ rfl;have k2:a1.tmps.getD 25 undef=.pointer (some ⟨z.h,0,none⟩):=hI.vals (8,25) (by decide) (hd.at 8 (by kernel_rfl)) _ rfl;have k3:a1.tmps.getD 28 undef=.slice z.a n1 z.c:=hI.vals (11,28) (by decide) (hd.at 11 (by kernel_rfl)) _ rfl;have m0:a1.tmps[17]?.getD undef=.agg #[.slice (some ⟨mg,mo,none⟩) nm cm]:=by rw[← Array.getD_eq_getD_getElem?];exact k0
   have m1:a1.tmps[22]?.getD undef=.agg #[.int .i64 fr,.slice fa fl fc,.slice fb fm fd,.slice fe fn ff]:=by rw[← Array.getD_eq_getD_getElem?];exact k1
   have m2:a1.tmps[25]?.getD undef=.pointer (some ⟨z.h,0,none⟩):=by rw[← Array.getD_eq_getD_getElem?];exact k2
   have m3:a1.tmps[28]?.getD undef=.slice z.a n1 z.c:=by rw[← Array.getD_eq_getD_getElem?];exact k3
   clear k0 k1 k2 k3;go_simp;exact hK _ _ ⟨z,hI.pure (by decide) (i:=12) (t:=29) (by decide) rfl (by decide) (by decide) (by decide)⟩
  refine⟨fun S a1 w1 hS hd hcl hI0 K hK=>?_,?_⟩
  ·obtain⟨z,hI⟩:=hI0
   have hb:=hI.bel;have k0:a1.tmps.getD 29 undef=.agg #[.slice (some ⟨mg,mo,none⟩) nm cm,.int .i64 fr,.slice fa fl fc,.slice fb fm fd,.slice fe fn ff,.pointer (some ⟨z.h,0,none⟩),.slice z.a n1 z.c]:=hI.vals (12,29) (by decide) (hd.at 12 (by kernel_rfl)) _ rfl;have n14:S 14=false:=hcl.no (q:=14) rfl (by kernel_rfl) hS;have s8:S 8=true:=(hcl.via (q:=12) rfl (by kernel_rfl) (hd.at 12 (by kernel_rfl)));have s11:S 11=true:=(hcl.via (q:=12) rfl (by kernel_rfl) (hd.at 12 (by kernel_rfl)));go_simp;have b9:=Q5 w1 (.cells #[.slice (some ⟨mg,mo,none⟩) nm cm,.int .i64 fr,.slice fa fl fc,.slice fb fm fd,.slice fe fn ff,.pointer (some ⟨z.h,0,none⟩),.slice z.a n1 z.c] 65);have hs1:=hb.size;have hs2:=b9.size;refine hK _ _ ⟨{ z with B:=w1.heap.size },hI.put (by decide) (i:=13) (t:=30) (by decide) rfl (fun x hx hne hs=>?_) (hb.trans (b9.mono hs1)) (fun hs=>?_) (fun hs=>?_) (fun _ _=>hI.apart s8 s11) (fun hs=>⟨hs1,(hI.held s8).2.1,(hI.row s11).2.1,Qj _ _ _⟩)⟩
   ·simp only[kTi,List.mem_cons,List.not_mem_nil,or_false] at hx
    rcases hx with rfl | rfl | rfl | rfl | rfl | rfl | rfl | rfl | rfl | rfl | rfl | rfl | rfl | rfl | rfl
    all_goals first | rfl | (exact absurd hs (by rw[n14];decide)) | (exact absurd rfl hne)
   ·obtain⟨q1,q2,q3⟩:=hI.held s8
    exact⟨q1,Nat.le_trans q2 hs2,q3.below b9⟩
   ·obtain⟨q1,q2,q3⟩:=hI.row s11
    exact⟨q1,Nat.le_trans q2 hs2,q3.below b9⟩
  refine⟨fun S a1 w1 hS hd hcl hI0 K hK=>?_,?_⟩
  ·obtain⟨z,hI⟩:=hI0
   have hb:=hI.bel;have k0:a1.tmps.getD 30 undef=.pointer (some ⟨z.B,0,none⟩):=hI.vals (13,30) (by decide) (hd.at 13 (by kernel_rfl)) _ rfl;go_simp;exact hK _ _ ⟨z,hI.pure (by decide) (i:=14) (t:=6) (by decide) rfl (by decide) (by decide) (by decide)⟩
  trivial
theorem Qg2 {w:World}{b:Nat}{O:Nat→Prop}{s:JSt}{x:Qv}{rg ag:Option Addr}{rc ac:Nat}(hO:∀ k,O k→k<w.heap.size) (hJ:JOk s) (h:KAt w b O s) (hop:x.op=3) :
 Calls Tryz.prog 73 #[.pointer (some ⟨b,0,none⟩),QaR x rg ag rc ac] w fun e w'=>QY w O (s.makes x).1 (s.makes x).2 e w':=by
 have E:Hid (s.makes x=(if s.H.length=16 then (2,[]) else (0,[mkT 2 s.H.length []]))):=QaV hop;have S0:=Qa (MkS.start x rg ag rc ac hO hJ h);obtain⟨xop,xa,xb,xc,xk,xn,xr,xs⟩:=x
 simp only at hop
 subst hop;clear h;go_enter Tryz.func73,Tryz.ntmps73
 go_upto_region 9 with fail
 obtain⟨w2,hw2⟩:∃ w2,(w.alloc (.cells #[.int .i64 3,.int .i64 xa,.int .i64 xb,.int .i64 xc,.int .i64 xk,.int .i64 xn,.slice rg xr.length rc,.slice ag xs.length ac] 59)).alloc (.cells #[.int .i64 1,.int .i64 0,.slice none 0 0] 79)=w2:=⟨_,rfl⟩
 obtain⟨X,hX⟩:∃ X,w.heap.size=X:=⟨_,rfl⟩
 have S2:Hid (MkS w w2 b X O s ⟨3,xa,xb,xc,xk,xn,xr,xs⟩ rg ag rc ac (some ⟨X+1,0,none⟩)):=by rw[← hw2,← hX];exact S0.out
 rw[hw2,hX]
 clear hw2 hX S0;obtain⟨x0,x1,x2,x3,x4,x6,x7⟩:=S2.out.cells
 obtain⟨pm,cm,a1,c1,a2,c2,a3,c3,hh,aL,cL,R⟩:=S2.out.known.read
 obtain⟨q0,q1,q2,q3,q4,q5,q6⟩:=R.cells
 have hH16:=S2.out.ok.regs;have hL80:=S2.out.ok.vals;obtain⟨ha,hcap,g0,-,-,-⟩:=R.holds.cells
 clear R q0 q1 q2 q3 q4 q6;by_cases h16:s.H.length=16
 ·have h16':((s.H.length:Int)==16)=true:=beq_iff_eq.2 (by omega);rw[if_pos h16] at E
  clear h16;generalize s.H.length=nh at g0 h16' hH16;go_wp2
  go_ret2;rw[E.out]
  exact QY.nil S2.out.bel
 ·have h16':((s.H.length:Int)==16)=false:=beq_eq_false_iff_ne.2 (by omega);rw[if_neg h16] at E
  have Z:Hid (QY w O 0 [(mkT 2 s.H.length []:TT 6)] (.returned (.tuple #[.slice (some ⟨w2.heap.size,0,none⟩) 1 1,.int .i64 0])) (w2.alloc (.cells #[.int .i64 2,.int .i64 (s.H.length:Int),.slice none 0 0] 79))) :=
   ⟨_,1,1,rfl,fun _=>⟨rfl,Nat.le_refl _,Qdb w2 O S2.out.lt (t:=(mkT 2 s.H.length []:TT 6)) (a:=none) (c:=0) (d:=1) (QfM _ _ _ _ _) (Qh5 (by omega))⟩,S2.out.bel.alloc S2.out.bel.size _⟩
  clear h16;generalize s.H.length=nh at g0 h16' hH16 Z E;go_wp2
  go_ret2;rw[E.out]
  exact Z.out
theorem Qf5 {w:World}{b:Nat}{O:Nat→Prop}{s:JSt}{x:Qv}{rg ag:Option Addr}{rc ac:Nat}(hO:∀ k,O k→k<w.heap.size) (hJ:JOk s) (h:KAt w b O s) (hop:x.op=4) :
 Calls Tryz.prog 73 #[.pointer (some ⟨b,0,none⟩),QaR x rg ag rc ac] w fun e w'=>QY w O (s.makes x).1 (s.makes x).2 e w':=by
 have E:Hid (s.makes x=(match s.at x.a with | none=>(1,[]) | some t=>(code2 (s.want x.a 2 true) (if t.r<s.f.regs then 11 else 0),[]))):=Qaj hop;have S0:=Qa (MkS.start x rg ag rc ac hO hJ h);obtain⟨xop,xa,xb,xc,xk,xn,xr,xs⟩:=x
 simp only at hop
 subst hop;clear h;go_enter Tryz.func73,Tryz.ntmps73
 go_upto_region 13 with fail
 obtain⟨w2,hw2⟩:∃ w2,(w.alloc (.cells #[.int .i64 4,.int .i64 xa,.int .i64 xb,.int .i64 xc,.int .i64 xk,.int .i64 xn,.slice rg xr.length rc,.slice ag xs.length ac] 59)).alloc (.cells #[.int .i64 1,.int .i64 0,.slice none 0 0] 79)=w2:=⟨_,rfl⟩
 obtain⟨X,hX⟩:∃ X,w.heap.size=X:=⟨_,rfl⟩
 have S2:Hid (MkS w w2 b X O s ⟨4,xa,xb,xc,xk,xn,xr,xs⟩ rg ag rc ac (some ⟨X+1,0,none⟩)):=by rw[← hw2,← hX];exact S0.out
 rw[hw2,hX]
 clear hw2 hX S0;obtain⟨x0,x1,x2,x3,x4,x6,x7⟩:=S2.out.cells
 have hH16:=S2.out.ok.regs;have hL80:=S2.out.ok.vals;go_wp2_with fail
 refine(Zb xa 2 true S2.out.ok.regs S2.out.ok.vals S2.out.known).mono ?_
 rintro e w3 ⟨rfl,n3,hw3⟩;have S3:Hid (MkS w w3 b X O s ⟨4,xa,xb,xc,xk,xn,xr,xs⟩ rg ag rc ac (some ⟨X+1,0,none⟩)):=S2.out.below (by rw[hw3];exact Qi (Below.refl _ _) n3);clear hw3 S2 x0 x1 x2 x3 x4 x6 x7;have S2:=S3;obtain⟨x0,x1,x2,x3,x4,x6,x7⟩:=S2.out.cells
 obtain⟨pm,cm,a1,c1,a2,c2,a3,c3,hh,aL,cL,R⟩:=S2.out.known.read
 obtain⟨q0,q1,q2,q3,q4,q5,q6⟩:=R.cells
 have HR:Hid (TRd w3 (fun g=>¬ O g) aL s.L):=R.row;clear R q0 q2 q3 q4 q5
 cases hat:s.at xa with
 | none =>
  have hw:s.want xa 2 true=1:=by unfold JSt.want;rw[hat]
  have E2:Hid (s.makes ⟨4,xa,xb,xc,xk,xn,xr,xs⟩=(1,[])):=by
   show _=_;rw[E.out];simp only[hat]
  rw[hw]
  clear E hw hat;generalize s.L.length=nl at q6 hL80;go_wp2_with fail
  go_quiet (fail)
  go_wp2
  go_ret2;rw[E2.out]
  exact QY.nil (Qi S2.out.bel _)
 | some t =>
  obtain⟨-,ha0,hal,hti⟩:=QaW hat
  obtain⟨i,rfl⟩:=Int.eq_ofNat_of_zero_le ha0
  obtain⟨gL,va,vc,rfl,v0,v1,v2,-,-⟩:=HR.out i t (by simpa using hti)
  have E2:Hid (s.makes ⟨4,(i:Int),xb,xc,xk,xn,xr,xs⟩=(code2 (s.want (i:Int) 2 true) (if t.r<s.f.regs then 11 else 0),[])):=by
   show _=_;rw[E.out];simp only[hat]
  clear E hat hti;generalize s.want (i:Int) 2 true=c at E2;generalize s.L.length=nl at q6 hL80 hal;generalize hfr:s.f.regs=fr at q1 E2;generalize t.r=tr at v1 E2;by_cases hc:c=0
  ·subst hc;by_cases hlt:tr<fr
   ·have hlt':decide (tr<fr)=true:=decide_eq_true hlt;have E3:Hid (s.makes ⟨4,(i:Int),xb,xc,xk,xn,xr,xs⟩=(11,[])):=by show _=_;rw[E2.out,if_pos hlt];rfl
    clear E2 hlt;go_wp2_with fail
    go_quiet (fail)
    go_wp2
    go_ret2;rw[E3.out]
    exact QY.nil (Qi S2.out.bel _)
   ·have hlt':decide (tr<fr)=false:=decide_eq_false hlt;have E3:Hid (s.makes ⟨4,(i:Int),xb,xc,xk,xn,xr,xs⟩=(0,[])):=by show _=_;rw[E2.out,if_neg hlt];rfl
    clear E2 hlt;go_wp2_with fail
    go_quiet (fail)
    go_wp2
    go_ret2;rw[E3.out]
    exact QY.nil (Qi S2.out.bel _)
  ·have hc':(c==0)=false:=beq_eq_false_iff_ne.2 hc;have E3:Hid (s.makes ⟨4,(i:Int),xb,xc,xk,xn,xr,xs⟩=(c,[])):=by show _=_;rw[E2.out,code2,if_neg hc]
   clear E2 hc;go_wp2_with fail
   go_quiet (fail)
   go_wp2
   go_ret2;rw[E3.out]
   exact QY.nil (Qi S2.out.bel _)
theorem QgV {w:World}{b:Nat}{O:Nat→Prop}{s:JSt}{x:Qv}{rg ag:Option Addr}{rc ac:Nat}(hO:∀ k,O k→k<w.heap.size) (hJ:JOk s) (h:KAt w b O s) (hop:x.op=11) :
 Calls Tryz.prog 73 #[.pointer (some ⟨b,0,none⟩),QaR x rg ag rc ac] w fun e w'=>QY w O (s.makes x).1 (s.makes x).2 e w':=by
 have E:Hid (s.makes x=(s.want x.a 4 true,[tInt])):=Qby hop;have S0:=Qa (MkS.start x rg ag rc ac hO hJ h);obtain⟨xop,xa,xb,xc,xk,xn,xr,xs⟩:=x
 simp only at hop
 subst hop;clear h;go_enter Tryz.func73,Tryz.ntmps73
 go_upto_region 56 with fail
 obtain⟨w2,hw2⟩:∃ w2,(w.alloc (.cells #[.int .i64 11,.int .i64 xa,.int .i64 xb,.int .i64 xc,.int .i64 xk,.int .i64 xn,.slice rg xr.length rc,.slice ag xs.length ac] 59)).alloc (.cells #[.int .i64 1,.int .i64 0,.slice none 0 0] 79)=w2:=⟨_,rfl⟩
 obtain⟨X,hX⟩:∃ X,w.heap.size=X:=⟨_,rfl⟩
 have S2:Hid (MkS w w2 b X O s ⟨11,xa,xb,xc,xk,xn,xr,xs⟩ rg ag rc ac (some ⟨X+1,0,none⟩)):=by rw[← hw2,← hX];exact S0.out
 rw[hw2,hX]
 clear hw2 hX S0;obtain⟨x0,x1,x2,x3,x4,x6,x7⟩:=S2.out.cells
 go_wp2_with fail
 refine(Zb xa 4 true S2.out.ok.regs S2.out.ok.vals S2.out.known).mono ?_
 rintro e w3 ⟨rfl,n3,hw3⟩;have b3:Below w2.heap.size w2 w3:=by rw[hw3];exact Qi (Below.refl _ _) n3
 clear hw3;generalize s.want xa 4 true=c at E;go_wp2
 go_ret2;rw[E.out]
 exact QY.num S2.out b3
theorem QgZ {w:World}{b:Nat}{O:Nat→Prop}{s:JSt}{x:Qv}{rg ag:Option Addr}{rc ac:Nat}(hO:∀ k,O k→k<w.heap.size) (hJ:JOk s) (h:KAt w b O s) (hop:x.op=13) :
 Calls Tryz.prog 73 #[.pointer (some ⟨b,0,none⟩),QaR x rg ag rc ac] w fun e w'=>QY w O (s.makes x).1 (s.makes x).2 e w':=by
 have E:Hid (s.makes x=(s.want x.a 1 false,[])):=Qcj hop;have S0:=Qa (MkS.start x rg ag rc ac hO hJ h);obtain⟨xop,xa,xb,xc,xk,xn,xr,xs⟩:=x
 simp only at hop
 subst hop;clear h;go_enter Tryz.func73,Tryz.ntmps73
 go_upto_region 58 with fail
 obtain⟨w2,hw2⟩:∃ w2,(w.alloc (.cells #[.int .i64 13,.int .i64 xa,.int .i64 xb,.int .i64 xc,.int .i64 xk,.int .i64 xn,.slice rg xr.length rc,.slice ag xs.length ac] 59)).alloc (.cells #[.int .i64 1,.int .i64 0,.slice none 0 0] 79)=w2:=⟨_,rfl⟩
 obtain⟨X,hX⟩:∃ X,w.heap.size=X:=⟨_,rfl⟩
 have S2:Hid (MkS w w2 b X O s ⟨13,xa,xb,xc,xk,xn,xr,xs⟩ rg ag rc ac (some ⟨X+1,0,none⟩)):=by rw[← hw2,← hX];exact S0.out
 rw[hw2,hX]
 clear hw2 hX S0;obtain⟨x0,x1,x2,x3,x4,x6,x7⟩:=S2.out.cells
 go_wp2_with fail
 refine(Zb xa 1 false S2.out.ok.regs S2.out.ok.vals S2.out.known).mono ?_
 rintro e w3 ⟨rfl,n3,hw3⟩;have b3:Below w2.heap.size w2 w3:=by rw[hw3];exact Qi (Below.refl _ _) n3
 clear hw3;generalize s.want xa 1 false=c at E;go_wp2
 go_ret2;rw[E.out]
 exact QY.nil (S2.out.below b3).bel
def Qlw (b X:Nat) (x:Qv) (na:Option Addr) (c1:Int) (c2:Int) (t:Tmp) (v:Value) (w:World):Prop :=
 match ([(40,fun v w=>IV w [c1,c2] v)]:List (Tmp × (Value→World→Prop))).lookup t with
 | some p=>p v w
 | none=>v=(([(0,.pointer (some ⟨b,0,none⟩)),(3,.pointer (some ⟨X,0,none⟩)),(6,.slice na 1 1),(31,.slice na 1 1),(32,.pointer (some ⟨b,0,none⟩)),(33,.pointer (some ⟨X,1,none⟩)),(34,.int .i64 x.a),(35,.int .i64 c1),(36,.pointer (some ⟨b,0,none⟩)),(37,.pointer (some ⟨X,2,none⟩)),(38,.int .i64 x.b),(39,.int .i64 c2),(41,.int .i64 (firstI [c1,c2])),(4,.slice na 1 1),(5,.int .i64 (firstI [c1,c2]))]:List (Tmp × Value)).lookup t).getD undef
theorem kr7 {w w2:World}{b X:Nat}{O:Nat→Prop}{s:JSt}{x:Qv}{rg ag:Option Addr}{rc ac:Nat}{na:Option Addr}(HS:Hid (MkS w w2 b X O s x rg ag rc ac na)){c1:Int}{c2:Int}(Hc1:Hid (s.want x.a 1 false=c1)) (Hc2:Hid (s.want x.b 1 false=c2)) (HI:Hid (∀ x∈[c1,c2],-9223372036854775808≤x∧x≤9223372036854775807))
 (a:Act) (m:Nat) (hn:a.tmps.size=m) (hn':365≤m) (h0:a.tmps.getD 0 undef=.pointer (some ⟨b,0,none⟩)) (h3:a.tmps.getD 3 undef=.pointer (some ⟨X,0,none⟩)) (h6:a.tmps.getD 6 undef=.slice na 1 1) :
 Code.wp Tryz.prog ((Tryz.f73.body.bind (Ql 7)).getD .skip) (fun e a' w'=>e=.normal∧∃ vs,a'=Ze a vs [31,32,33,34,35,36,37,38,39,40,41,4,5]∧vs 4=.slice na 1 1∧vs 5=.int .i64 (firstI [c1,c2])∧Below w2.heap.size w2 w') a w2:=by
 conv=>arg 2;whnf
 refine QF (Qlw b X x na c1 c2) (fun w=>Below w2.heap.size w2 w) (fun w w'=>Below w.heap.size w w') (outs:=[0,3,6]) (gs:=[]) (bs:=[true,true,true,true,true,true,true,true,true,true,true,true,true]) (by kernel_rfl) (n:=365) hn hn' (by kernel_rfl) ?hR ?hG (Qi (Below.refl _ _) 1) ⟨h0,h3,h6,trivial⟩ ?hA ?hend
 case hR =>
  intro t v w w' hr h;unfold Qlw at h ⊢;split at h
  ·rename_i p hp
   simp only[List.lookup_cons,List.lookup_nil] at hp
   split at hp
   ·cases hp;exact IV.below h hr
   ·cases hp
  ·exact h
 case hG=>exact trivial
 case hend=>exact fun vs w' hW hk=>⟨rfl,vs,rfl,hk 4 (by kernel_rfl),hk 5 (by kernel_rfl),hW⟩
 case hA =>
  refine⟨fun a w hW hk K hK=>?_,?_⟩
  ·obtain⟨k0,-⟩:=hk
   have k0:a.tmps.getD 6 undef=.slice na 1 1:=k0;go_simp;exact hK _ _ (Below.refl _ _) hW rfl
  refine⟨fun a w hW hk K hK=>?_,?_⟩
  ·obtain⟨k0,-⟩:=hk
   have k0:a.tmps.getD 0 undef=.pointer (some ⟨b,0,none⟩):=k0;go_simp;exact hK _ _ (Below.refl _ _) hW rfl
  refine⟨fun a w hW hk K hK=>?_,?_⟩
  ·obtain⟨k0,-⟩:=hk
   have k0:a.tmps.getD 3 undef=.pointer (some ⟨X,0,none⟩):=k0;go_simp;exact hK _ _ (Below.refl _ _) hW rfl
  refine⟨fun a w hW hk K hK=>?_,?_⟩
  ·obtain⟨k0,-⟩:=hk
   have k0:a.tmps.getD 33 undef=.pointer (some ⟨X,1,none⟩):=k0;have c0:=(HS.out.below hW).cells.2.1;go_simp;exact hK _ _ (Below.refl _ _) hW rfl
  refine⟨fun a w hW hk K hK=>?_,?_⟩
  ·obtain⟨k0,k1,-⟩:=hk
   have k0:a.tmps.getD 32 undef=.pointer (some ⟨b,0,none⟩):=k0;have k1:a.tmps.getD 34 undef=.int .i64 x.a:=k1;go_simp;refine(Zb x.a 1 false HS.out.ok.regs HS.out.ok.vals (HS.out.below hW).known).mono ?_;rw[Hc1.out];rintro r7 w7 ⟨rfl,n7,hw7⟩;subst hw7
   go_simp;exact hK _ _ (Qi (Below.refl _ _) n7) (Qi hW n7) rfl
  refine⟨fun a w hW hk K hK=>?_,?_⟩
  ·obtain⟨k0,-⟩:=hk
   have k0:a.tmps.getD 0 undef=.pointer (some ⟨b,0,none⟩):=k0;go_simp;exact hK _ _ (Below.refl _ _) hW rfl
  refine⟨fun a w hW hk K hK=>?_,?_⟩
  ·obtain⟨k0,-⟩:=hk
   have k0:a.tmps.getD 3 undef=.pointer (some ⟨X,0,none⟩):=k0;go_simp;exact hK _ _ (Below.refl _ _) hW rfl
  refine⟨fun a w hW hk K hK=>?_,?_⟩
  ·obtain⟨k0,-⟩:=hk
   have k0:a.tmps.getD 37 undef=.pointer (some ⟨X,2,none⟩):=k0;have c0:=(HS.out.below hW).cells.2.2.1;go_simp;exact hK _ _ (Below.refl _ _) hW rfl
  refine⟨fun a w hW hk K hK=>?_,?_⟩
  ·obtain⟨k0,k1,-⟩:=hk
   have k0:a.tmps.getD 36 undef=.pointer (some ⟨b,0,none⟩):=k0;have k1:a.tmps.getD 38 undef=.int .i64 x.b:=k1;go_simp;refine(Zb x.b 1 false HS.out.ok.regs HS.out.ok.vals (HS.out.below hW).known).mono ?_;rw[Hc2.out];rintro r7 w7 ⟨rfl,n7,hw7⟩;subst hw7
   go_simp;exact hK _ _ (Qi (Below.refl _ _) n7) (Qi hW n7) rfl
  refine⟨fun a w hW hk K hK=>?_,?_⟩
  ·obtain⟨k0,k1,-⟩:=hk
   have k0:a.tmps.getD 35 undef=.int .i64 c1:=k0;have k1:a.tmps.getD 39 undef=.int .i64 c2:=k1;simp only[Array.getD_eq_getD_getElem?] at k0 k1
   go_simp;exact hK _ _ (Q5 _ _) (hW.alloc hW.size _) (Qgd w 3 [c1,c2] HI.out 2)
  refine⟨fun a w hW hk K hK=>?_,?_⟩
  ·obtain⟨k0,-⟩:=hk
   have k0:(fun v w=>IV w [c1,c2] v) (a.tmps.getD 40 undef) w:=k0;generalize k0e:a.tmps.getD 40 undef=uk0 at k0;go_simp;refine(QcV (by simp) k0).mono ?_;rintro r7 w7 ⟨rfl,hw7⟩;have hw7:=hw7.symm;subst hw7
   go_simp;exact hK _ _ (Below.refl _ _) hW rfl
  refine⟨fun a w hW hk K hK=>?_,?_⟩
  ·obtain⟨k0,-⟩:=hk
   have k0:a.tmps.getD 31 undef=.slice na 1 1:=k0;go_simp;exact hK _ _ (Below.refl _ _) hW rfl
  refine⟨fun a w hW hk K hK=>?_,?_⟩
  ·obtain⟨k0,-⟩:=hk
   have k0:a.tmps.getD 41 undef=.int .i64 (firstI [c1,c2]):=k0;go_simp;exact hK _ _ (Below.refl _ _) hW rfl
  trivial
def QkS (b X:Nat) (x:Qv) (na:Option Addr) (c1:Int) (c2:Int) (t:Tmp) (v:Value) (w:World):Prop :=
 match ([(230,fun v w=>IV w [c1,c2] v)]:List (Tmp × (Value→World→Prop))).lookup t with
 | some p=>p v w
 | none=>v=(([(0,.pointer (some ⟨b,0,none⟩)),(3,.pointer (some ⟨X,0,none⟩)),(222,.pointer (some ⟨b,0,none⟩)),(223,.pointer (some ⟨X,1,none⟩)),(224,.int .i64 x.a),(225,.int .i64 c1),(226,.pointer (some ⟨b,0,none⟩)),(227,.pointer (some ⟨X,2,none⟩)),(228,.int .i64 x.b),(229,.int .i64 c2),(231,.int .i64 (firstI [c1,c2])),(13,.int .i64 (firstI [c1,c2]))]:List (Tmp × Value)).lookup t).getD undef
theorem Qmb {w w2:World}{b X:Nat}{O:Nat→Prop}{s:JSt}{x:Qv}{rg ag:Option Addr}{rc ac:Nat}{na:Option Addr}(HS:Hid (MkS w w2 b X O s x rg ag rc ac na)){c1:Int}{c2:Int}(Hc1:Hid (s.want x.a 2 true=c1)) (Hc2:Hid (s.want x.b 1 false=c2)) (HI:Hid (∀ x∈[c1,c2],-9223372036854775808≤x∧x≤9223372036854775807))
 (a:Act) (m:Nat) (hn:a.tmps.size=m) (hn':365≤m) (h0:a.tmps.getD 0 undef=.pointer (some ⟨b,0,none⟩)) (h3:a.tmps.getD 3 undef=.pointer (some ⟨X,0,none⟩)) :
 Code.wp Tryz.prog ((Tryz.f73.body.bind (Ql 47)).getD .skip) (fun e a' w'=>e=.normal∧∃ vs,a'=Ze a vs [222,223,224,225,226,227,228,229,230,231,13]∧vs 13=.int .i64 (firstI [c1,c2])∧Below w2.heap.size w2 w') a w2:=by
 conv=>arg 2;whnf
 refine QF (QkS b X x na c1 c2) (fun w=>Below w2.heap.size w2 w) (fun w w'=>Below w.heap.size w w') (outs:=[0,3]) (gs:=[]) (bs:=[true,true,true,true,true,true,true,true,true,true,true]) (by kernel_rfl) (n:=365) hn hn' (by kernel_rfl) ?hR ?hG (Qi (Below.refl _ _) 1) ⟨h0,h3,trivial⟩ ?hA ?hend
 case hR =>
  intro t v w w' hr h;unfold QkS at h ⊢;split at h
  ·rename_i p hp
   simp only[List.lookup_cons,List.lookup_nil] at hp
   split at hp
   ·cases hp;exact IV.below h hr
   ·cases hp
  ·exact h
 case hG=>exact trivial
 case hend=>exact fun vs w' hW hk=>⟨rfl,vs,rfl,hk 13 (by kernel_rfl),hW⟩
 case hA =>
  refine⟨fun a w hW hk K hK=>?_,?_⟩
  ·obtain⟨k0,-⟩:=hk
   have k0:a.tmps.getD 0 undef=.pointer (some ⟨b,0,none⟩):=k0;go_simp;exact hK _ _ (Below.refl _ _) hW rfl
  refine⟨fun a w hW hk K hK=>?_,?_⟩
  ·obtain⟨k0,-⟩:=hk
   have k0:a.tmps.getD 3 undef=.pointer (some ⟨X,0,none⟩):=k0;go_simp;exact hK _ _ (Below.refl _ _) hW rfl
  refine⟨fun a w hW hk K hK=>?_,?_⟩
  ·obtain⟨k0,-⟩:=hk
   have k0:a.tmps.getD 223 undef=.pointer (some ⟨X,1,none⟩):=k0;have c0:=(HS.out.below hW).cells.2.1;go_simp;exact hK _ _ (Below.refl _ _) hW rfl
  refine⟨fun a w hW hk K hK=>?_,?_⟩
  ·obtain⟨k0,k1,-⟩:=hk
   have k0:a.tmps.getD 222 undef=.pointer (some ⟨b,0,none⟩):=k0;have k1:a.tmps.getD 224 undef=.int .i64 x.a:=k1;go_simp;refine(Zb x.a 2 true HS.out.ok.regs HS.out.ok.vals (HS.out.below hW).known).mono ?_;rw[Hc1.out];rintro r7 w7 ⟨rfl,n7,hw7⟩;subst hw7
   go_simp;exact hK _ _ (Qi (Below.refl _ _) n7) (Qi hW n7) rfl
  refine⟨fun a w hW hk K hK=>?_,?_⟩
  ·obtain⟨k0,-⟩:=hk
   have k0:a.tmps.getD 0 undef=.pointer (some ⟨b,0,none⟩):=k0;go_simp;exact hK _ _ (Below.refl _ _) hW rfl
  refine⟨fun a w hW hk K hK=>?_,?_⟩
  ·obtain⟨k0,-⟩:=hk
   have k0:a.tmps.getD 3 undef=.pointer (some ⟨X,0,none⟩):=k0;go_simp;exact hK _ _ (Below.refl _ _) hW rfl
  refine⟨fun a w hW hk K hK=>?_,?_⟩
  ·obtain⟨k0,-⟩:=hk
   have k0:a.tmps.getD 227 undef=.pointer (some ⟨X,2,none⟩):=k0;have c0:=(HS.out.below hW).cells.2.2.1;go_simp;exact hK _ _ (Below.refl _ _) hW rfl
  refine⟨fun a w hW hk K hK=>?_,?_⟩
  ·obtain⟨k0,k1,-⟩:=hk
   have k0:a.tmps.getD 226 undef=.pointer (some ⟨b,0,none⟩):=k0;have k1:a.tmps.getD 228 undef=.int .i64 x.b:=k1;go_simp;refine(Zb x.b 1 false HS.out.ok.regs HS.out.ok.vals (HS.out.below hW).known).mono ?_;rw[Hc2.out];rintro r7 w7 ⟨rfl,n7,hw7⟩;subst hw7
   go_simp;exact hK _ _ (Qi (Below.refl _ _) n7) (Qi hW n7) rfl
  refine⟨fun a w hW hk K hK=>?_,?_⟩
  ·obtain⟨k0,k1,-⟩:=hk
   have k0:a.tmps.getD 225 undef=.int .i64 c1:=k0;have k1:a.tmps.getD 229 undef=.int .i64 c2:=k1;simp only[Array.getD_eq_getD_getElem?] at k0 k1
   go_simp;exact hK _ _ (Q5 _ _) (hW.alloc hW.size _) (Qgd w 3 [c1,c2] HI.out 2)
  refine⟨fun a w hW hk K hK=>?_,?_⟩
  ·obtain⟨k0,-⟩:=hk
   have k0:(fun v w=>IV w [c1,c2] v) (a.tmps.getD 230 undef) w:=k0;generalize k0e:a.tmps.getD 230 undef=uk0 at k0;go_simp;refine(QcV (by simp) k0).mono ?_;rintro r7 w7 ⟨rfl,hw7⟩;have hw7:=hw7.symm;subst hw7
   go_simp;exact hK _ _ (Below.refl _ _) hW rfl
  refine⟨fun a w hW hk K hK=>?_,?_⟩
  ·obtain⟨k0,-⟩:=hk
   have k0:a.tmps.getD 231 undef=.int .i64 (firstI [c1,c2]):=k0;go_simp;exact hK _ _ (Below.refl _ _) hW rfl
  trivial
def Qkz (b X:Nat) (x:Qv) (na:Option Addr) (c1:Int) (c2:Int) (t:Tmp) (v:Value) (w:World):Prop :=
 match ([(257,fun v w=>IV w [c1,c2] v)]:List (Tmp × (Value→World→Prop))).lookup t with
 | some p=>p v w
 | none=>v=(([(0,.pointer (some ⟨b,0,none⟩)),(3,.pointer (some ⟨X,0,none⟩)),(6,.slice na 1 1),(248,.slice na 1 1),(249,.pointer (some ⟨b,0,none⟩)),(250,.pointer (some ⟨X,1,none⟩)),(251,.int .i64 x.a),(252,.int .i64 c1),(253,.pointer (some ⟨b,0,none⟩)),(254,.pointer (some ⟨X,2,none⟩)),(255,.int .i64 x.b),(256,.int .i64 c2),(258,.int .i64 (firstI [c1,c2])),(4,.slice na 1 1),(5,.int .i64 (firstI [c1,c2]))]:List (Tmp × Value)).lookup t).getD undef
theorem QlK {w w2:World}{b X:Nat}{O:Nat→Prop}{s:JSt}{x:Qv}{rg ag:Option Addr}{rc ac:Nat}{na:Option Addr}(HS:Hid (MkS w w2 b X O s x rg ag rc ac na)){c1:Int}{c2:Int}(Hc1:Hid (s.want x.a 4 true=c1)) (Hc2:Hid (s.want x.b 1 false=c2)) (HI:Hid (∀ x∈[c1,c2],-9223372036854775808≤x∧x≤9223372036854775807))
 (a:Act) (m:Nat) (hn:a.tmps.size=m) (hn':365≤m) (h0:a.tmps.getD 0 undef=.pointer (some ⟨b,0,none⟩)) (h3:a.tmps.getD 3 undef=.pointer (some ⟨X,0,none⟩)) (h6:a.tmps.getD 6 undef=.slice na 1 1) :
 Code.wp Tryz.prog ((Tryz.f73.body.bind (Ql 52)).getD .skip) (fun e a' w'=>e=.normal∧∃ vs,a'=Ze a vs [248,249,250,251,252,253,254,255,256,257,258,4,5]∧vs 4=.slice na 1 1∧vs 5=.int .i64 (firstI [c1,c2])∧Below w2.heap.size w2 w') a w2:=by
 conv=>arg 2;whnf
 refine QF (Qkz b X x na c1 c2) (fun w=>Below w2.heap.size w2 w) (fun w w'=>Below w.heap.size w w') (outs:=[0,3,6]) (gs:=[]) (bs:=[true,true,true,true,true,true,true,true,true,true,true,true,true]) (by kernel_rfl) (n:=365) hn hn' (by kernel_rfl) ?hR ?hG (Qi (Below.refl _ _) 1) ⟨h0,h3,h6,trivial⟩ ?hA ?hend
 case hR =>
  intro t v w w' hr h;unfold Qkz at h ⊢;split at h
  ·rename_i p hp
   simp only[List.lookup_cons,List.lookup_nil] at hp
   split at hp
   ·cases hp;exact IV.below h hr
   ·cases hp
  ·exact h
 case hG=>exact trivial
 case hend=>exact fun vs w' hW hk=>⟨rfl,vs,rfl,hk 4 (by kernel_rfl),hk 5 (by kernel_rfl),hW⟩
 case hA =>
  refine⟨fun a w hW hk K hK=>?_,?_⟩
  ·obtain⟨k0,-⟩:=hk
   have k0:a.tmps.getD 6 undef=.slice na 1 1:=k0;go_simp;exact hK _ _ (Below.refl _ _) hW rfl
  refine⟨fun a w hW hk K hK=>?_,?_⟩
  ·obtain⟨k0,-⟩:=hk
   have k0:a.tmps.getD 0 undef=.pointer (some ⟨b,0,none⟩):=k0;go_simp;exact hK _ _ (Below.refl _ _) hW rfl
  refine⟨fun a w hW hk K hK=>?_,?_⟩
  ·obtain⟨k0,-⟩:=hk
   have k0:a.tmps.getD 3 undef=.pointer (some ⟨X,0,none⟩):=k0;go_simp;exact hK _ _ (Below.refl _ _) hW rfl
  refine⟨fun a w hW hk K hK=>?_,?_⟩
  ·obtain⟨k0,-⟩:=hk
   have k0:a.tmps.getD 250 undef=.pointer (some ⟨X,1,none⟩):=k0;have c0:=(HS.out.below hW).cells.2.1;go_simp;exact hK _ _ (Below.refl _ _) hW rfl
  refine⟨fun a w hW hk K hK=>?_,?_⟩
  ·obtain⟨k0,k1,-⟩:=hk
   have k0:a.tmps.getD 249 undef=.pointer (some ⟨b,0,none⟩):=k0;have k1:a.tmps.getD 251 undef=.int .i64 x.a:=k1;go_simp;refine(Zb x.a 4 true HS.out.ok.regs HS.out.ok.vals (HS.out.below hW).known).mono ?_;rw[Hc1.out];rintro r7 w7 ⟨rfl,n7,hw7⟩;subst hw7
   go_simp;exact hK _ _ (Qi (Below.refl _ _) n7) (Qi hW n7) rfl
  refine⟨fun a w hW hk K hK=>?_,?_⟩
  ·obtain⟨k0,-⟩:=hk
   have k0:a.tmps.getD 0 undef=.pointer (some ⟨b,0,none⟩):=k0;go_simp;exact hK _ _ (Below.refl _ _) hW rfl
  refine⟨fun a w hW hk K hK=>?_,?_⟩
  ·obtain⟨k0,-⟩:=hk
   have k0:a.tmps.getD 3 undef=.pointer (some ⟨X,0,none⟩):=k0;go_simp;exact hK _ _ (Below.refl _ _) hW rfl
  refine⟨fun a w hW hk K hK=>?_,?_⟩
  ·obtain⟨k0,-⟩:=hk
   have k0:a.tmps.getD 254 undef=.pointer (some ⟨X,2,none⟩):=k0;have c0:=(HS.out.below hW).cells.2.2.1;go_simp;exact hK _ _ (Below.refl _ _) hW rfl
  refine⟨fun a w hW hk K hK=>?_,?_⟩
  ·obtain⟨k0,k1,-⟩:=hk
   have k0:a.tmps.getD 253 undef=.pointer (some ⟨b,0,none⟩):=k0;have k1:a.tmps.getD 255 undef=.int .i64 x.b:=k1;go_simp;refine(Zb x.b 1 false HS.out.ok.regs HS.out.ok.vals (HS.out.below hW).known).mono ?_;rw[Hc2.out];rintro r7 w7 ⟨rfl,n7,hw7⟩;subst hw7
   go_simp;exact hK _ _ (Qi (Below.refl _ _) n7) (Qi hW n7) rfl
  refine⟨fun a w hW hk K hK=>?_,?_⟩
  ·obtain⟨k0,k1,-⟩:=hk
   have k0:a.tmps.getD 252 undef=.int .i64 c1:=k0;have k1:a.tmps.getD 256 undef=.int .i64 c2:=k1;simp only[Array.getD_eq_getD_getElem?] at k0 k1
   go_simp;exact hK _ _ (Q5 _ _) (hW.alloc hW.size _) (Qgd w 3 [c1,c2] HI.out 2)
  refine⟨fun a w hW hk K hK=>?_,?_⟩
  ·obtain⟨k0,-⟩:=hk
   have k0:(fun v w=>IV w [c1,c2] v) (a.tmps.getD 257 undef) w:=k0;generalize k0e:a.tmps.getD 257 undef=uk0 at k0;go_simp;refine(QcV (by simp) k0).mono ?_;rintro r7 w7 ⟨rfl,hw7⟩;have hw7:=hw7.symm;subst hw7
   go_simp;exact hK _ _ (Below.refl _ _) hW rfl
  refine⟨fun a w hW hk K hK=>?_,?_⟩
  ·obtain⟨k0,-⟩:=hk
   have k0:a.tmps.getD 248 undef=.slice na 1 1:=k0;go_simp;exact hK _ _ (Below.refl _ _) hW rfl
  refine⟨fun a w hW hk K hK=>?_,?_⟩
  ·obtain⟨k0,-⟩:=hk
   have k0:a.tmps.getD 258 undef=.int .i64 (firstI [c1,c2]):=k0;go_simp;exact hK _ _ (Below.refl _ _) hW rfl
  trivial
def Qk9 (b X:Nat) (x:Qv) (na:Option Addr) (c1:Int) (c2:Int) (c3:Int) (t:Tmp) (v:Value) (w:World):Prop :=
 match ([(273,fun v w=>IV w [c1,c2,c3] v)]:List (Tmp × (Value→World→Prop))).lookup t with
 | some p=>p v w
 | none=>v=(([(0,.pointer (some ⟨b,0,none⟩)),(3,.pointer (some ⟨X,0,none⟩)),(261,.pointer (some ⟨b,0,none⟩)),(262,.pointer (some ⟨X,1,none⟩)),(263,.int .i64 x.a),(264,.int .i64 c1),(265,.pointer (some ⟨b,0,none⟩)),(266,.pointer (some ⟨X,2,none⟩)),(267,.int .i64 x.b),(268,.int .i64 c2),(269,.pointer (some ⟨b,0,none⟩)),(270,.pointer (some ⟨X,3,none⟩)),(271,.int .i64 x.c),(272,.int .i64 c3),(274,.int .i64 (firstI [c1,c2,c3])),(4,.slice none 0 0),(5,.int .i64 (firstI [c1,c2,c3]))]:List (Tmp × Value)).lookup t).getD undef
theorem QlI {w w2:World}{b X:Nat}{O:Nat→Prop}{s:JSt}{x:Qv}{rg ag:Option Addr}{rc ac:Nat}{na:Option Addr}(HS:Hid (MkS w w2 b X O s x rg ag rc ac na)){c1:Int}{c2:Int}{c3:Int}(Hc1:Hid (s.want x.a 4 true=c1)) (Hc2:Hid (s.want x.b 1 false=c2)) (Hc3:Hid (s.want x.c 1 false=c3)) (HI:Hid (∀ x∈[c1,c2,c3],-9223372036854775808≤x∧x≤9223372036854775807))
 (a:Act) (m:Nat) (hn:a.tmps.size=m) (hn':365≤m) (h0:a.tmps.getD 0 undef=.pointer (some ⟨b,0,none⟩)) (h3:a.tmps.getD 3 undef=.pointer (some ⟨X,0,none⟩)) :
 Code.wp Tryz.prog ((Tryz.f73.body.bind (Ql 54)).getD .skip) (fun e a' w'=>e=.normal∧∃ vs,a'=Ze a vs [261,262,263,264,265,266,267,268,269,270,271,272,273,274,4,5]∧vs 4=.slice none 0 0∧vs 5=.int .i64 (firstI [c1,c2,c3])∧Below w2.heap.size w2 w') a w2:=by
 conv=>arg 2;whnf
 refine QF (Qk9 b X x na c1 c2 c3) (fun w=>Below w2.heap.size w2 w) (fun w w'=>Below w.heap.size w w') (outs:=[0,3]) (gs:=[]) (bs:=[true,true,true,true,true,true,true,true,true,true,true,true,true,true,true,true]) (by kernel_rfl) (n:=365) hn hn' (by kernel_rfl) ?hR ?hG (Qi (Below.refl _ _) 1) ⟨h0,h3,trivial⟩ ?hA ?hend
 case hR =>
  intro t v w w' hr h;unfold Qk9 at h ⊢;split at h
  ·rename_i p hp
   simp only[List.lookup_cons,List.lookup_nil] at hp
   split at hp
   ·cases hp;exact IV.below h hr
   ·cases hp
  ·exact h
 case hG=>exact trivial
 case hend=>exact fun vs w' hW hk=>⟨rfl,vs,rfl,hk 4 (by kernel_rfl),hk 5 (by kernel_rfl),hW⟩
 case hA =>
  refine⟨fun a w hW hk K hK=>?_,?_⟩
  ·obtain⟨k0,-⟩:=hk
   have k0:a.tmps.getD 0 undef=.pointer (some ⟨b,0,none⟩):=k0;go_simp;exact hK _ _ (Below.refl _ _) hW rfl
  refine⟨fun a w hW hk K hK=>?_,?_⟩
  ·obtain⟨k0,-⟩:=hk
   have k0:a.tmps.getD 3 undef=.pointer (some ⟨X,0,none⟩):=k0;go_simp;exact hK _ _ (Below.refl _ _) hW rfl
  refine⟨fun a w hW hk K hK=>?_,?_⟩
  ·obtain⟨k0,-⟩:=hk
   have k0:a.tmps.getD 262 undef=.pointer (some ⟨X,1,none⟩):=k0;have c0:=(HS.out.below hW).cells.2.1;go_simp;exact hK _ _ (Below.refl _ _) hW rfl
  refine⟨fun a w hW hk K hK=>?_,?_⟩
  ·obtain⟨k0,k1,-⟩:=hk
   have k0:a.tmps.getD 261 undef=.pointer (some ⟨b,0,none⟩):=k0;have k1:a.tmps.getD 263 undef=.int .i64 x.a:=k1;go_simp;refine(Zb x.a 4 true HS.out.ok.regs HS.out.ok.vals (HS.out.below hW).known).mono ?_;rw[Hc1.out];rintro r7 w7 ⟨rfl,n7,hw7⟩;subst hw7
   go_simp;exact hK _ _ (Qi (Below.refl _ _) n7) (Qi hW n7) rfl
  refine⟨fun a w hW hk K hK=>?_,?_⟩
  ·obtain⟨k0,-⟩:=hk
   have k0:a.tmps.getD 0 undef=.pointer (some ⟨b,0,none⟩):=k0;go_simp;exact hK _ _ (Below.refl _ _) hW rfl
  refine⟨fun a w hW hk K hK=>?_,?_⟩
  ·obtain⟨k0,-⟩:=hk
   have k0:a.tmps.getD 3 undef=.pointer (some ⟨X,0,none⟩):=k0;go_simp;exact hK _ _ (Below.refl _ _) hW rfl
  refine⟨fun a w hW hk K hK=>?_,?_⟩
  ·obtain⟨k0,-⟩:=hk
   have k0:a.tmps.getD 266 undef=.pointer (some ⟨X,2,none⟩):=k0;have c0:=(HS.out.below hW).cells.2.2.1;go_simp;exact hK _ _ (Below.refl _ _) hW rfl
  refine⟨fun a w hW hk K hK=>?_,?_⟩
  ·obtain⟨k0,k1,-⟩:=hk
   have k0:a.tmps.getD 265 undef=.pointer (some ⟨b,0,none⟩):=k0;have k1:a.tmps.getD 267 undef=.int .i64 x.b:=k1;go_simp;refine(Zb x.b 1 false HS.out.ok.regs HS.out.ok.vals (HS.out.below hW).known).mono ?_;rw[Hc2.out];rintro r7 w7 ⟨rfl,n7,hw7⟩;subst hw7
   go_simp;exact hK _ _ (Qi (Below.refl _ _) n7) (Qi hW n7) rfl
  refine⟨fun a w hW hk K hK=>?_,?_⟩
  ·obtain⟨k0,-⟩:=hk
   have k0:a.tmps.getD 0 undef=.pointer (some ⟨b,0,none⟩):=k0;go_simp;exact hK _ _ (Below.refl _ _) hW rfl
  refine⟨fun a w hW hk K hK=>?_,?_⟩
  ·obtain⟨k0,-⟩:=hk
   have k0:a.tmps.getD 3 undef=.pointer (some ⟨X,0,none⟩):=k0;go_simp;exact hK _ _ (Below.refl _ _) hW rfl
  refine⟨fun a w hW hk K hK=>?_,?_⟩
  ·obtain⟨k0,-⟩:=hk
   have k0:a.tmps.getD 270 undef=.pointer (some ⟨X,3,none⟩):=k0;have c0:=(HS.out.below hW).cells.2.2.2.1;go_simp;exact hK _ _ (Below.refl _ _) hW rfl
  refine⟨fun a w hW hk K hK=>?_,?_⟩
  ·obtain⟨k0,k1,-⟩:=hk
   have k0:a.tmps.getD 269 undef=.pointer (some ⟨b,0,none⟩):=k0;have k1:a.tmps.getD 271 undef=.int .i64 x.c:=k1;go_simp;refine(Zb x.c 1 false HS.out.ok.regs HS.out.ok.vals (HS.out.below hW).known).mono ?_;rw[Hc3.out];rintro r7 w7 ⟨rfl,n7,hw7⟩;subst hw7
   go_simp;exact hK _ _ (Qi (Below.refl _ _) n7) (Qi hW n7) rfl
  refine⟨fun a w hW hk K hK=>?_,?_⟩
  ·obtain⟨k0,k1,k2,-⟩:=hk
   have k0:a.tmps.getD 264 undef=.int .i64 c1:=k0;have k1:a.tmps.getD 268 undef=.int .i64 c2:=k1;have k2:a.tmps.getD 272 undef=.int .i64 c3:=k2;simp only[Array.getD_eq_getD_getElem?] at k0 k1 k2
   go_simp;exact hK _ _ (Q5 _ _) (hW.alloc hW.size _) (Qgd w 3 [c1,c2,c3] HI.out 3)
  refine⟨fun a w hW hk K hK=>?_,?_⟩
  ·obtain⟨k0,-⟩:=hk
   have k0:(fun v w=>IV w [c1,c2,c3] v) (a.tmps.getD 273 undef) w:=k0;generalize k0e:a.tmps.getD 273 undef=uk0 at k0;go_simp;refine(QcV (by simp) k0).mono ?_;rintro r7 w7 ⟨rfl,hw7⟩;have hw7:=hw7.symm;subst hw7
   go_simp;exact hK _ _ (Below.refl _ _) hW rfl
  refine⟨fun a w hW hk K hK=>?_,?_⟩
  ·clear hk;go_simp;exact hK _ _ (Below.refl _ _) hW rfl
  refine⟨fun a w hW hk K hK=>?_,?_⟩
  ·obtain⟨k0,-⟩:=hk
   have k0:a.tmps.getD 274 undef=.int .i64 (firstI [c1,c2,c3]):=k0;go_simp;exact hK _ _ (Below.refl _ _) hW rfl
  trivial
theorem QgY {w:World}{b:Nat}{O:Nat→Prop}{s:JSt}{x:Qv}{rg ag:Option Addr}{rc ac:Nat}(hO:∀ k,O k→k<w.heap.size) (hJ:JOk s) (h:KAt w b O s) (hop:x.op=2) :
 Calls Tryz.prog 73 #[.pointer (some ⟨b,0,none⟩),QaR x rg ag rc ac] w fun e w'=>QY w O (s.makes x).1 (s.makes x).2 e w':=by
 have E:Hid (s.makes x=(code2 (s.want x.a 1 false) (s.want x.b 1 false),[tInt])):=Qcl hop;have S0:=Qa (MkS.start x rg ag rc ac hO hJ h);obtain⟨xop,xa,xb,xc,xk,xn,xr,xs⟩:=x
 simp only at hop
 subst hop;clear h;go_enter Tryz.func73,Tryz.ntmps73
 go_upto_region 7 with fail
 obtain⟨w2,hw2⟩:∃ w2,(w.alloc (.cells #[.int .i64 2,.int .i64 xa,.int .i64 xb,.int .i64 xc,.int .i64 xk,.int .i64 xn,.slice rg xr.length rc,.slice ag xs.length ac] 59)).alloc (.cells #[.int .i64 1,.int .i64 0,.slice none 0 0] 79)=w2:=⟨_,rfl⟩
 obtain⟨X,hX⟩:∃ X,w.heap.size=X:=⟨_,rfl⟩
 have S2:Hid (MkS w w2 b X O s ⟨2,xa,xb,xc,xk,xn,xr,xs⟩ rg ag rc ac (some ⟨X+1,0,none⟩)):=by rw[← hw2,← hX];exact S0.out
 rw[hw2,hX]
 clear hw2 hX S0;obtain⟨x0,x1,x2,x3,x4,x6,x7⟩:=S2.out.cells
 have HI:Hid (∀ y∈[s.want xa 1 false,s.want xb 1 false],-9223372036854775808≤y∧y≤9223372036854775807):=fun y hy=>by simp only[List.mem_cons,List.not_mem_nil,or_false] at hy;rcases hy with rfl | rfl<;>exact QcY _ _ _ _
 refine Code.wp_mono ?_ (kr7 S2 (show Hid (s.want xa 1 false=s.want xa 1 false) from rfl) (show Hid (s.want xb 1 false=s.want xb 1 false) from rfl) HI _ _ rfl (Nat.le_of_ble_eq_true (by kernel_rfl)) rfl rfl rfl);rintro ee aa w3 ⟨rfl,vs,rfl,hv4,hv5,hb⟩;simp only[Ze,Act.put,List.setIfInBounds_toArray,List.set_cons_zero,List.set_cons_succ,hv4,hv5]
 have E2:=E.out;rw[← Qd5] at E2
 generalize firstI [s.want xa 1 false,s.want xb 1 false]=c at E2 ⊢;have E3:=Qa E2;clear E2 E;go_wp2
 go_ret2;rw[E3.out]
 exact QY.num S2.out hb
theorem QfV {w:World}{b:Nat}{O:Nat→Prop}{s:JSt}{x:Qv}{rg ag:Option Addr}{rc ac:Nat}(hO:∀ k,O k→k<w.heap.size) (hJ:JOk s) (h:KAt w b O s) (hop:x.op=9) :
 Calls Tryz.prog 73 #[.pointer (some ⟨b,0,none⟩),QaR x rg ag rc ac] w fun e w'=>QY w O (s.makes x).1 (s.makes x).2 e w':=by
 have E:Hid (s.makes x=(code2 (s.want x.a 4 true) (s.want x.b 1 false),[tInt])):=QbJ hop;have S0:=Qa (MkS.start x rg ag rc ac hO hJ h);obtain⟨xop,xa,xb,xc,xk,xn,xr,xs⟩:=x
 simp only at hop
 subst hop;clear h;go_enter Tryz.func73,Tryz.ntmps73
 go_upto_region 52 with fail
 obtain⟨w2,hw2⟩:∃ w2,(w.alloc (.cells #[.int .i64 9,.int .i64 xa,.int .i64 xb,.int .i64 xc,.int .i64 xk,.int .i64 xn,.slice rg xr.length rc,.slice ag xs.length ac] 59)).alloc (.cells #[.int .i64 1,.int .i64 0,.slice none 0 0] 79)=w2:=⟨_,rfl⟩
 obtain⟨X,hX⟩:∃ X,w.heap.size=X:=⟨_,rfl⟩
 have S2:Hid (MkS w w2 b X O s ⟨9,xa,xb,xc,xk,xn,xr,xs⟩ rg ag rc ac (some ⟨X+1,0,none⟩)):=by rw[← hw2,← hX];exact S0.out
 rw[hw2,hX]
 clear hw2 hX S0;obtain⟨x0,x1,x2,x3,x4,x6,x7⟩:=S2.out.cells
 have HI:Hid (∀ y∈[s.want xa 4 true,s.want xb 1 false],-9223372036854775808≤y∧y≤9223372036854775807):=fun y hy=>by simp only[List.mem_cons,List.not_mem_nil,or_false] at hy;rcases hy with rfl | rfl<;>exact QcY _ _ _ _
 refine Code.wp_mono ?_ (QlK S2 (show Hid (s.want xa 4 true=s.want xa 4 true) from rfl) (show Hid (s.want xb 1 false=s.want xb 1 false) from rfl) HI _ _ rfl (Nat.le_of_ble_eq_true (by kernel_rfl)) rfl rfl rfl);rintro ee aa w3 ⟨rfl,vs,rfl,hv4,hv5,hb⟩;simp only[Ze,Act.put,List.setIfInBounds_toArray,List.set_cons_zero,List.set_cons_succ,hv4,hv5]
 have E2:=E.out;rw[← Qd5] at E2
 generalize firstI [s.want xa 4 true,s.want xb 1 false]=c at E2 ⊢;have E3:=Qa E2;clear E2 E;go_wp2
 go_ret2;rw[E3.out]
 exact QY.num S2.out hb
theorem Qfg {w:World}{b:Nat}{O:Nat→Prop}{s:JSt}{x:Qv}{rg ag:Option Addr}{rc ac:Nat}(hO:∀ k,O k→k<w.heap.size) (hJ:JOk s) (h:KAt w b O s) (hop:x.op=10) :
 Calls Tryz.prog 73 #[.pointer (some ⟨b,0,none⟩),QaR x rg ag rc ac] w fun e w'=>QY w O (s.makes x).1 (s.makes x).2 e w':=by
 have E:Hid (s.makes x=(code2 (s.want x.a 4 true) (code2 (s.want x.b 1 false) (s.want x.c 1 false)),[])):=Qa2 hop;have S0:=Qa (MkS.start x rg ag rc ac hO hJ h);obtain⟨xop,xa,xb,xc,xk,xn,xr,xs⟩:=x
 simp only at hop
 subst hop;clear h;go_enter Tryz.func73,Tryz.ntmps73
 go_upto_region 54 with fail
 obtain⟨w2,hw2⟩:∃ w2,(w.alloc (.cells #[.int .i64 10,.int .i64 xa,.int .i64 xb,.int .i64 xc,.int .i64 xk,.int .i64 xn,.slice rg xr.length rc,.slice ag xs.length ac] 59)).alloc (.cells #[.int .i64 1,.int .i64 0,.slice none 0 0] 79)=w2:=⟨_,rfl⟩
 obtain⟨X,hX⟩:∃ X,w.heap.size=X:=⟨_,rfl⟩
 have S2:Hid (MkS w w2 b X O s ⟨10,xa,xb,xc,xk,xn,xr,xs⟩ rg ag rc ac (some ⟨X+1,0,none⟩)):=by rw[← hw2,← hX];exact S0.out
 rw[hw2,hX]
 clear hw2 hX S0;obtain⟨x0,x1,x2,x3,x4,x6,x7⟩:=S2.out.cells
 have HI:Hid (∀ y∈[s.want xa 4 true,s.want xb 1 false,s.want xc 1 false],-9223372036854775808≤y∧y≤9223372036854775807):=fun y hy=>by simp only[List.mem_cons,List.not_mem_nil,or_false] at hy;rcases hy with rfl | rfl | rfl<;>exact QcY _ _ _ _
 refine Code.wp_mono ?_ (QlI S2 (show Hid (s.want xa 4 true=s.want xa 4 true) from rfl) (show Hid (s.want xb 1 false=s.want xb 1 false) from rfl) (show Hid (s.want xc 1 false=s.want xc 1 false) from rfl) HI _ _ rfl (Nat.le_of_ble_eq_true (by kernel_rfl)) rfl rfl);rintro ee aa w3 ⟨rfl,vs,rfl,hv4,hv5,hb⟩;simp only[Ze,Act.put,List.setIfInBounds_toArray,List.set_cons_zero,List.set_cons_succ,hv4,hv5]
 have E2:=E.out;rw[← QjU] at E2
 generalize firstI [s.want xa 4 true,s.want xb 1 false,s.want xc 1 false]=c at E2 ⊢;have E3:=Qa E2;clear E2 E;go_wp2
 go_ret2;rw[E3.out]
 exact QY.nil (S2.out.below hb).bel
def Qk2 (b X gL nl cL i:Nat) (O:Nat→Prop) (r:Int) (t:Tmp) (v:Value) (w:World):Prop :=
 match ([(245,fun v w=>∃ a,v=.slice a 1 1∧(Qp 6).In w (fun g=>¬ O g) [(mkT 4 r []:TT 6)] [.slice a 1 1]),(4,fun v w=>∃ a,v=.slice a 1 1∧(Qp 6).In w (fun g=>¬ O g) [(mkT 4 r []:TT 6)] [.slice a 1 1])]:List (Tmp × (Value→World→Prop))).lookup t with
 | some p=>p v w
 | none=>v=(([(0,.pointer (some ⟨b,0,none⟩)),(3,.pointer (some ⟨X,0,none⟩)),(235,.pointer (some ⟨b,0,none⟩)),(236,.pointer (some ⟨b,0,none⟩)),(237,.pointer (some ⟨b,6,none⟩)),(238,.slice (some ⟨gL,0,none⟩) nl cL),(239,.pointer (some ⟨X,1,none⟩)),(240,.int .i64 (i:Int)),(241,.pointer (some ⟨gL,i*3,none⟩)),(242,.pointer (some ⟨gL,i*3+1,none⟩)),(243,.int .i64 r),(244,.agg #[.int .i64 4,.int .i64 r,.slice none 0 0]),(5,.int .i64 0)]:List (Tmp × Value)).lookup t).getD undef
theorem QlM {w w2:World}{b X:Nat}{O:Nat→Prop}{s:JSt}{x:Qv}{rg ag:Option Addr}{rc ac:Nat}{na:Option Addr}(HS:Hid (MkS w w2 b X O s x rg ag rc ac na)){gL nl cL i:Nat}{r:Int}(y0:w2.cell? ⟨b,6,none⟩=some (.slice (some ⟨gL,0,none⟩) nl cL)) (v1:w2.cell? ⟨gL,i*3+1,none⟩=some (.int .i64 r)) (hin:(i:Int)<nl) (hxa:x.a=(i:Int)) (HR:Hid (-9223372036854775808≤r∧r≤9223372036854775807))
 (a:Act) (m:Nat) (hn:a.tmps.size=m) (hn':365≤m) (h0:a.tmps.getD 0 undef=.pointer (some ⟨b,0,none⟩)) (h3:a.tmps.getD 3 undef=.pointer (some ⟨X,0,none⟩)) :
 Code.wp Tryz.prog ((Tryz.f73.body.bind (Ql 50)).getD .skip) (fun e a' w'=>e=.normal∧∃ vs,a'=Ze a vs [235,236,237,238,239,240,241,242,243,244,245,4,5]∧(fun v w=>∃ a,v=.slice a 1 1∧(Qp 6).In w (fun g=>¬ O g) [(mkT 4 r []:TT 6)] [.slice a 1 1]) (vs 4) w'∧vs 5=.int .i64 0∧Below w2.heap.size w2 w') a w2:=by
 conv=>arg 2;whnf
 refine QF (Qk2 b X gL nl cL i O r) (fun w=>Below w2.heap.size w2 w) (fun w w'=>Below w.heap.size w w') (outs:=[0,3]) (gs:=[]) (bs:=[true,true,true,true,true,true,true,true,true,true,true,true,true]) (by kernel_rfl) (n:=365) hn hn' (by kernel_rfl) ?hR ?hG (Qi (Below.refl _ _) 1) ⟨h0,h3,trivial⟩ ?hA ?hend
 case hR =>
  intro t v w w' hr h;unfold Qk2 at h ⊢;split at h
  ·rename_i p hp
   simp only[List.lookup_cons,List.lookup_nil] at hp
   split at hp
   ·cases hp;exact(by obtain⟨a,e,h⟩:=h;exact⟨a,e,Lay.below h hr⟩)
   ·split at hp
    ·cases hp;exact(by obtain⟨a,e,h⟩:=h;exact⟨a,e,Lay.below h hr⟩)
    ·cases hp
  ·exact h
 case hG=>exact trivial
 case hend=>exact fun vs w' hW hk=>⟨rfl,vs,rfl,hk 4 (by kernel_rfl),hk 5 (by kernel_rfl),hW⟩
 case hA =>
  refine⟨fun a w hW hk K hK=>?_,?_⟩
  ·obtain⟨k0,-⟩:=hk
   have k0:a.tmps.getD 0 undef=.pointer (some ⟨b,0,none⟩):=k0;go_simp;exact hK _ _ (Below.refl _ _) hW rfl
  refine⟨fun a w hW hk K hK=>?_,?_⟩
  ·obtain⟨k0,-⟩:=hk
   have k0:a.tmps.getD 235 undef=.pointer (some ⟨b,0,none⟩):=k0;go_simp;exact hK _ _ (Below.refl _ _) hW rfl
  refine⟨fun a w hW hk K hK=>?_,?_⟩
  ·obtain⟨k0,-⟩:=hk
   have k0:a.tmps.getD 236 undef=.pointer (some ⟨b,0,none⟩):=k0;go_simp;exact hK _ _ (Below.refl _ _) hW rfl
  refine⟨fun a w hW hk K hK=>?_,?_⟩
  ·obtain⟨k0,-⟩:=hk
   have k0:a.tmps.getD 237 undef=.pointer (some ⟨b,6,none⟩):=k0;have c0:=Qk y0 hW;go_simp;exact hK _ _ (Below.refl _ _) hW rfl
  refine⟨fun a w hW hk K hK=>?_,?_⟩
  ·obtain⟨k0,-⟩:=hk
   have k0:a.tmps.getD 3 undef=.pointer (some ⟨X,0,none⟩):=k0;go_simp;exact hK _ _ (Below.refl _ _) hW rfl
  refine⟨fun a w hW hk K hK=>?_,?_⟩
  ·obtain⟨k0,-⟩:=hk
   have k0:a.tmps.getD 239 undef=.pointer (some ⟨X,1,none⟩):=k0;have c0:=(HS.out.below hW).cells.2.1;rw[hxa] at c0
   go_simp;exact hK _ _ (Below.refl _ _) hW rfl
  refine⟨fun a w hW hk K hK=>?_,?_⟩
  ·obtain⟨k0,k1,-⟩:=hk
   have k0:a.tmps.getD 238 undef=.slice (some ⟨gL,0,none⟩) nl cL:=k0;have k1:a.tmps.getD 240 undef=.int .i64 (i:Int):=k1;go_simp;exact hK _ _ (Below.refl _ _) hW rfl
  refine⟨fun a w hW hk K hK=>?_,?_⟩
  ·obtain⟨k0,-⟩:=hk
   have k0:a.tmps.getD 241 undef=.pointer (some ⟨gL,i*3,none⟩):=k0;go_simp;exact hK _ _ (Below.refl _ _) hW rfl
  refine⟨fun a w hW hk K hK=>?_,?_⟩
  ·obtain⟨k0,-⟩:=hk
   have k0:a.tmps.getD 242 undef=.pointer (some ⟨gL,i*3+1,none⟩):=k0;have c0:=Qk v1 hW;go_simp;exact hK _ _ (Below.refl _ _) hW rfl
  refine⟨fun a w hW hk K hK=>?_,?_⟩
  ·obtain⟨k0,-⟩:=hk
   have k0:a.tmps.getD 243 undef=.int .i64 r:=k0;simp only[Array.getD_eq_getD_getElem?] at k0
   go_simp;exact hK _ _ (Below.refl _ _) hW rfl
  refine⟨fun a w hW hk K hK=>?_,?_⟩
  ·obtain⟨k0,-⟩:=hk
   have k0:a.tmps.getD 244 undef=.agg #[.int .i64 4,.int .i64 r,.slice none 0 0]:=k0;simp only[Array.getD_eq_getD_getElem?] at k0
   go_simp;exact hK _ _ (Q5 _ _) (hW.alloc hW.size _) ⟨_,rfl,Qdb w O (HS.out.below hW).lt (t:=(mkT 4 r []:TT 6)) (a:=none) (c:=0) (d:=1) (QfM _ _ _ _ _) (Qh5 HR.out)⟩
  refine⟨fun a w hW hk K hK=>?_,?_⟩
  ·obtain⟨k0,-⟩:=hk
   have k0:(fun v w=>∃ a,v=.slice a 1 1∧(Qp 6).In w (fun g=>¬ O g) [(mkT 4 r []:TT 6)] [.slice a 1 1]) (a.tmps.getD 245 undef) w:=k0;generalize k0e:a.tmps.getD 245 undef=uk0 at k0;go_simp;exact hK _ _ (Below.refl _ _) hW k0
  refine⟨fun a w hW hk K hK=>?_,?_⟩
  ·clear hk;go_simp;exact hK _ _ (Below.refl _ _) hW rfl
  trivial
theorem Qe5 {w:World}{b:Nat}{O:Nat→Prop}{s:JSt}{x:Qv}{rg ag:Option Addr}{rc ac:Nat}(hO:∀ k,O k→k<w.heap.size) (hJ:JOk s) (h:KAt w b O s) (hop:x.op=8) :
 Calls Tryz.prog 73 #[.pointer (some ⟨b,0,none⟩),QaR x rg ag rc ac] w fun e w'=>QY w O (s.makes x).1 (s.makes x).2 e w':=by
 have E:Hid (s.makes x=(match s.at x.a with | none=>(1,[]) | some t=>(code2 (s.want x.a 2 true) (s.want x.b 1 false),[mkT 4 t.r []]))):=Qbg hop;have S0:=Qa (MkS.start x rg ag rc ac hO hJ h);obtain⟨xop,xa,xb,xc,xk,xn,xr,xs⟩:=x
 simp only at hop
 subst hop;clear h;go_enter Tryz.func73,Tryz.ntmps73
 go_upto_region 47 with fail
 obtain⟨w2,hw2⟩:∃ w2,(w.alloc (.cells #[.int .i64 8,.int .i64 xa,.int .i64 xb,.int .i64 xc,.int .i64 xk,.int .i64 xn,.slice rg xr.length rc,.slice ag xs.length ac] 59)).alloc (.cells #[.int .i64 1,.int .i64 0,.slice none 0 0] 79)=w2:=⟨_,rfl⟩
 obtain⟨X,hX⟩:∃ X,w.heap.size=X:=⟨_,rfl⟩
 have S2:Hid (MkS w w2 b X O s ⟨8,xa,xb,xc,xk,xn,xr,xs⟩ rg ag rc ac (some ⟨X+1,0,none⟩)):=by rw[← hw2,← hX];exact S0.out
 rw[hw2,hX]
 clear hw2 hX S0;obtain⟨x0,x1,x2,x3,x4,x6,x7⟩:=S2.out.cells
 have HI:Hid (∀ y∈[s.want xa 2 true,s.want xb 1 false],-9223372036854775808≤y∧y≤9223372036854775807):=fun y hy=>by simp only[List.mem_cons,List.not_mem_nil,or_false] at hy;rcases hy with rfl | rfl<;>exact QcY _ _ _ _
 refine Code.wp_mono ?_ (Qmb S2 (show Hid (s.want xa 2 true=s.want xa 2 true) from rfl) (show Hid (s.want xb 1 false=s.want xb 1 false) from rfl) HI _ _ rfl (Nat.le_of_ble_eq_true (by kernel_rfl)) rfl rfl);rintro ee aa w3 ⟨rfl,vs,rfl,hv5,hb⟩;simp only[Ze,Act.put,List.setIfInBounds_toArray,List.set_cons_zero,List.set_cons_succ,hv5]
 have S3:Hid (MkS w w3 b X O s ⟨8,xa,xb,xc,xk,xn,xr,xs⟩ rg ag rc ac (some ⟨X+1,0,none⟩)):=S2.out.below hb;rw[Qd5]
 clear hb hv5 S2 HI x0 x1 x2 x3 x4 x6 x7;have S2:=S3;clear S3;by_cases hc:code2 (s.want xa 2 true) (s.want xb 1 false)=0
 ·obtain⟨hw1,hw2⟩:=Qaw hc
  obtain⟨t,hat,-,-⟩:=Qay hw1
  have E2:Hid (s.makes ⟨8,xa,xb,xc,xk,xn,xr,xs⟩=(0,[mkT 4 t.r []])):=by
   show _=_;rw[E.out];simp only[hat,hc]
  rw[hc]
  clear E hc hw1 hw2;obtain⟨-,ha0,hal,hti⟩:=QaW hat
  obtain⟨i,rfl⟩:=Int.eq_ofNat_of_zero_le ha0
  clear hat ha0;obtain⟨pm,cm,a1,c1,a2,c2,a3,c3,hh,aL,cL,R⟩:=S2.out.known.read
  obtain⟨q0,q1,q2,q3,q4,q5,q6⟩:=R.cells
  obtain⟨gL,va,vc,rfl,v0,v1,v2,-,hok⟩:=R.row i t (by simpa using hti)
  have HR:Hid (-9223372036854775808≤t.r∧t.r≤9223372036854775807):=hok.1;clear R q0 q1 q2 q3 q4 q5 hti v0 v2 hok;generalize s.L.length=nl at q6 hal;go_upto_region 50 with fail
  refine Code.wp_mono ?_ (QlM S2 q6 v1 hal rfl HR _ _ rfl (Nat.le_of_ble_eq_true (by kernel_rfl)) rfl rfl);rintro ee aa w4 ⟨rfl,vs,rfl,⟨a4,hv4,h4⟩,hv5,hb⟩;simp only[Ze,Act.put,List.setIfInBounds_toArray,List.set_cons_zero,List.set_cons_succ,hv4,hv5]
  have Z:Hid (QY w O 0 [(mkT 4 t.r []:TT 6)] (.returned (.tuple #[.slice a4 1 1,.int .i64 0])) w4):=⟨_,1,1,rfl,fun _=>⟨rfl,Nat.le_refl _,h4⟩,(S2.out.below hb).bel⟩;clear h4 hb hv4 hv5 v1 q6;go_wp2
  go_ret2;rw[E2.out]
  exact Z.out
 ·have E2:Hid ((s.makes ⟨8,xa,xb,xc,xk,xn,xr,xs⟩).1=code2 (s.want xa 2 true) (s.want xb 1 false)):=by
   show _=_;rw[E.out]
   cases hat:s.at xa with
   | none =>
    have:s.want xa 2 true=1:=by unfold JSt.want;rw[hat]
    simp only[this];rfl
   | some t=>rfl
  clear E;generalize code2 (s.want xa 2 true) (s.want xb 1 false)=c at E2 hc ⊢;have hc':(c==0)=false:=beq_eq_false_iff_ne.2 hc;have HC:=Qa hc;clear hc;go_wp2
  go_ret2;rw[E2.out]
  exact QY.bad HC.out S2.out.bel _ _ _
def QkO (w2:World) (b X gL nl cL i gk ok nk ck k uc:Nat) (u:TT 5) (ua:Option Addr) (t:Tmp) (v:Value) (w:World):Prop :=
 match ([(12,fun v w=>∃ B,v=.pointer (some ⟨B,0,none⟩)∧w2.heap.size≤B∧Blk w B #[.int .i64 0,.int .i64 0,.slice none 0 0] 79)]:List (Tmp × (Value→World→Prop))).lookup t with
 | some p=>p v w
 | none=>v=(([(0,.pointer (some ⟨b,0,none⟩)),(3,.pointer (some ⟨X,0,none⟩)),(178,.pointer (some ⟨b,0,none⟩)),(179,.pointer (some ⟨b,0,none⟩)),(180,.pointer (some ⟨b,6,none⟩)),(181,.slice (some ⟨gL,0,none⟩) nl cL),(182,.pointer (some ⟨X,1,none⟩)),(183,.int .i64 (i:Int)),(184,.pointer (some ⟨gL,i*3,none⟩)),(185,.pointer (some ⟨gL,i*3+2,none⟩)),(186,.slice (some ⟨gk,ok,none⟩) nk ck),(187,.pointer (some ⟨X,4,none⟩)),(188,.int .i64 (k:Int)),(189,.pointer (some ⟨gk,ok+k*3,none⟩)),(190,.agg #[.int .i64 u.kind,.int .i64 u.r,.slice ua u.len uc])]:List (Tmp × Value)).lookup t).getD undef
theorem Qlv {w w2:World}{b X:Nat}{O:Nat→Prop}{s:JSt}{x:Qv}{rg ag:Option Addr}{rc ac:Nat}{na:Option Addr}(HS:Hid (MkS w w2 b X O s x rg ag rc ac na)){gL nl cL i gk ok nk ck k uc:Nat}{u:TT 5}{ua:Option Addr}(y0:w2.cell? ⟨b,6,none⟩=some (.slice (some ⟨gL,0,none⟩) nl cL)) (v2:w2.cell? ⟨gL,i*3+2,none⟩=some (.slice (some ⟨gk,ok,none⟩) nk ck)) (u0:w2.cell? ⟨gk,ok+k*3,none⟩=some (.int .i64 u.kind)) (u1:w2.cell? ⟨gk,ok+k*3+1,none⟩=some (.int .i64 u.r)) (u2:w2.cell? ⟨gk,ok+k*3+2,none⟩=some (.slice ua u.len uc)) (hin:(i:Int)<nl) (hkn:(k:Int)<nk) (hxa:x.a=(i:Int)) (hxk:x.k=(k:Int)){Q:Exit→Act→World→Prop}
 (a:Act) (m:Nat) (hn:a.tmps.size=m) (hn':365≤m) (h0:a.tmps.getD 0 undef=.pointer (some ⟨b,0,none⟩)) (h3:a.tmps.getD 3 undef=.pointer (some ⟨X,0,none⟩))
 (hend:∀ ops vs w',vs 190=.agg #[.int .i64 u.kind,.int .i64 u.r,.slice ua u.len uc]→(fun v w=>∃ B,v=.pointer (some ⟨B,0,none⟩)∧w2.heap.size≤B∧Blk w B #[.int .i64 0,.int .i64 0,.slice none 0 0] 79) (vs 12) w'→Below w2.heap.size w2 w'→wpList Tryz.prog ops Q (Qc8 14 ((Tryz.f73.body.bind (Ql 38)).getD .skip)) (Ze a vs [178,179,180,181,182,183,184,185,186,187,188,189,190,12]) w') :
 Code.wp Tryz.prog ((Tryz.f73.body.bind (Ql 38)).getD .skip) Q a w2:=by
 conv=>arg 2;whnf
 refine Qw 14 (QkO w2 b X gL nl cL i gk ok nk ck k uc u ua) (fun w=>Below w2.heap.size w2 w) (fun w w'=>Below w.heap.size w w') (outs:=[0,3]) (gs:=[]) (bs:=[true,true,true,true,true,true,true,true,true,true,true,true,true,true]) (by kernel_rfl) (n:=365) hn hn' (by kernel_rfl) (by kernel_rfl) ?hR ?hG (Qi (Below.refl _ _) 1) ⟨h0,h3,trivial⟩ ?hA ?hend
 case hR =>
  intro t v w w' hr h;unfold QkO at h ⊢;split at h
  ·rename_i p hp
   simp only[List.lookup_cons,List.lookup_nil] at hp
   split at hp
   ·cases hp;exact(by obtain⟨B,e,h1,h2⟩:=h;exact⟨B,e,h1,(hr.block B (lt_of_block h2)).trans h2⟩)
   ·cases hp
  ·exact h
 case hG=>exact trivial
 case hend=>exact fun ops vs w' hW hk=>hend ops vs w' (hk 190 (by kernel_rfl)) (hk 12 (by kernel_rfl)) hW
 case hA =>
  refine⟨fun a w hW hk K hK=>?_,?_⟩
  ·obtain⟨k0,-⟩:=hk
   have k0:a.tmps.getD 0 undef=.pointer (some ⟨b,0,none⟩):=k0;go_simp;exact hK _ _ (Below.refl _ _) hW rfl
  refine⟨fun a w hW hk K hK=>?_,?_⟩
  ·obtain⟨k0,-⟩:=hk
   have k0:a.tmps.getD 178 undef=.pointer (some ⟨b,0,none⟩):=k0;go_simp;exact hK _ _ (Below.refl _ _) hW rfl
  refine⟨fun a w hW hk K hK=>?_,?_⟩
  ·obtain⟨k0,-⟩:=hk
   have k0:a.tmps.getD 179 undef=.pointer (some ⟨b,0,none⟩):=k0;go_simp;exact hK _ _ (Below.refl _ _) hW rfl
  refine⟨fun a w hW hk K hK=>?_,?_⟩
  ·obtain⟨k0,-⟩:=hk
   have k0:a.tmps.getD 180 undef=.pointer (some ⟨b,6,none⟩):=k0;have c0:=Qk y0 hW;go_simp;exact hK _ _ (Below.refl _ _) hW rfl
  refine⟨fun a w hW hk K hK=>?_,?_⟩
  ·obtain⟨k0,-⟩:=hk
   have k0:a.tmps.getD 3 undef=.pointer (some ⟨X,0,none⟩):=k0;go_simp;exact hK _ _ (Below.refl _ _) hW rfl
  refine⟨fun a w hW hk K hK=>?_,?_⟩
  ·obtain⟨k0,-⟩:=hk
   have k0:a.tmps.getD 182 undef=.pointer (some ⟨X,1,none⟩):=k0;have c0:=(HS.out.below hW).cells.2.1;rw[hxa] at c0
   go_simp;exact hK _ _ (Below.refl _ _) hW rfl
  refine⟨fun a w hW hk K hK=>?_,?_⟩
  ·obtain⟨k0,k1,-⟩:=hk
   have k0:a.tmps.getD 181 undef=.slice (some ⟨gL,0,none⟩) nl cL:=k0;have k1:a.tmps.getD 183 undef=.int .i64 (i:Int):=k1;go_simp;exact hK _ _ (Below.refl _ _) hW rfl
  refine⟨fun a w hW hk K hK=>?_,?_⟩
  ·obtain⟨k0,-⟩:=hk
   have k0:a.tmps.getD 184 undef=.pointer (some ⟨gL,i*3,none⟩):=k0;go_simp;exact hK _ _ (Below.refl _ _) hW rfl
  refine⟨fun a w hW hk K hK=>?_,?_⟩
  ·obtain⟨k0,-⟩:=hk
   have k0:a.tmps.getD 185 undef=.pointer (some ⟨gL,i*3+2,none⟩):=k0;have c0:=Qk v2 hW;go_simp;exact hK _ _ (Below.refl _ _) hW rfl
  refine⟨fun a w hW hk K hK=>?_,?_⟩
  ·obtain⟨k0,-⟩:=hk
   have k0:a.tmps.getD 3 undef=.pointer (some ⟨X,0,none⟩):=k0;go_simp;exact hK _ _ (Below.refl _ _) hW rfl
  refine⟨fun a w hW hk K hK=>?_,?_⟩
  ·obtain⟨k0,-⟩:=hk
   have k0:a.tmps.getD 187 undef=.pointer (some ⟨X,4,none⟩):=k0;have c0:=(HS.out.below hW).cells.2.2.2.2.1;rw[hxk] at c0
   go_simp;exact hK _ _ (Below.refl _ _) hW rfl
  refine⟨fun a w hW hk K hK=>?_,?_⟩
  ·obtain⟨k0,k1,-⟩:=hk
   have k0:a.tmps.getD 186 undef=.slice (some ⟨gk,ok,none⟩) nk ck:=k0;have k1:a.tmps.getD 188 undef=.int .i64 (k:Int):=k1;go_simp;exact hK _ _ (Below.refl _ _) hW rfl
  refine⟨fun a w hW hk K hK=>?_,?_⟩
  ·obtain⟨k0,-⟩:=hk
   have k0:a.tmps.getD 189 undef=.pointer (some ⟨gk,ok+k*3,none⟩):=k0;have c0:=Qk u0 hW;have c1:=Qk u1 hW;have c2:=Qk u2 hW;go_simp;exact hK _ _ (Below.refl _ _) hW rfl
  refine⟨fun a w hW hk K hK=>?_,?_⟩
  ·clear hk;go_simp;exact hK _ _ (Q5 _ _) (hW.alloc hW.size _) ⟨_,rfl,hW.size,Qj _ _ _⟩
  trivial
theorem QgQ {w:World}{b:Nat}{O:Nat→Prop}{s:JSt}{x:Qv}{rg ag:Option Addr}{rc ac:Nat}(hO:∀ k,O k→k<w.heap.size) (hJ:JOk s) (h:KAt w b O s) (hk0:0≤x.k∧x.k≤7) (hop:x.op=6) :
 Calls Tryz.prog 73 #[.pointer (some ⟨b,0,none⟩),QaR x rg ag rc ac] w fun e w'=>QY w O (s.makes x).1 (s.makes x).2 e w':=by
 have E:Hid (s.makes x=(match s.at x.a with
  | none=>(1,[])
  | some t=>if s.want x.a 3 true=0 then (match t.2.2[x.k.toNat]? with
   | none=>(9,[])
   | some u=>(0,[u.at 5]))
   else (s.want x.a 3 true,[]))):=QbZ hop
 have S0:=Qa (MkS.start x rg ag rc ac hO hJ h);obtain⟨xop,xa,xb,xc,xk,xn,xr,xs⟩:=x
 simp only at hop
 subst hop;clear h;go_enter Tryz.func73,Tryz.ntmps73
 go_upto_region 33 with fail
 obtain⟨w2,hw2⟩:∃ w2,(w.alloc (.cells #[.int .i64 6,.int .i64 xa,.int .i64 xb,.int .i64 xc,.int .i64 xk,.int .i64 xn,.slice rg xr.length rc,.slice ag xs.length ac] 59)).alloc (.cells #[.int .i64 1,.int .i64 0,.slice none 0 0] 79)=w2:=⟨_,rfl⟩
 obtain⟨X,hX⟩:∃ X,w.heap.size=X:=⟨_,rfl⟩
 have S2:Hid (MkS w w2 b X O s ⟨6,xa,xb,xc,xk,xn,xr,xs⟩ rg ag rc ac (some ⟨X+1,0,none⟩)):=by rw[← hw2,← hX];exact S0.out
 rw[hw2,hX]
 clear hw2 hX S0;obtain⟨x0,x1,x2,x3,x4,x6,x7⟩:=S2.out.cells
 have hH16:=S2.out.ok.regs;have hL80:=S2.out.ok.vals;go_wp2_with fail
 refine(Zb xa 3 true S2.out.ok.regs S2.out.ok.vals S2.out.known).mono ?_
 rintro e w3 ⟨rfl,n3,hw3⟩;have S3:Hid (MkS w w3 b X O s ⟨6,xa,xb,xc,xk,xn,xr,xs⟩ rg ag rc ac (some ⟨X+1,0,none⟩)):=S2.out.below (by rw[hw3];exact Qi (Below.refl _ _) n3);clear hw3 S2 x0 x1 x2 x3 x4 x6 x7;have S2:=S3;clear S3;obtain⟨x0,x1,x2,x3,x4,x6,x7⟩:=S2.out.cells
 simp only at x0 x1 x2 x3 x4 x6 x7 hk0
 cases hat:s.at xa with
 | none =>
  have hw:s.want xa 3 true=1:=by unfold JSt.want;rw[hat]
  have E2:Hid (s.makes ⟨6,xa,xb,xc,xk,xn,xr,xs⟩=(1,[])):=by
   show _=_;rw[E.out];simp only[hat]
  rw[hw]
  clear E hw hat;go_wp2
  go_ret2;rw[E2.out]
  exact QY.nil S2.out.bel
 | some t =>
  by_cases hw:s.want xa 3 true=0
  ·obtain⟨k,rfl⟩:=Int.eq_ofNat_of_zero_le hk0.1
   obtain⟨-,ha0,hal,hti⟩:=QaW hat
   obtain⟨i,rfl⟩:=Int.eq_ofNat_of_zero_le ha0
   obtain⟨pm,cm,a1,c1,a2,c2,a3,c3,hh,aL,cL,R⟩:=S2.out.known.read
   obtain⟨q0,q1,q2,q3,q4,q5,q6⟩:=R.cells
   obtain⟨gL,va,vc,rfl,v0,v1,v2,v3,hok⟩:=R.row i t (by simpa using hti)
   have HRW:Hid (TRd w3 (fun g=>¬ O g) (some ⟨gL,0,none⟩) s.L):=R.row;clear R q0 q1 q2 q3 q4 q5 v0 v1;have hlen:t.len=t.2.2.length:=rfl
   cases hu:t.2.2[k]? with
   | none =>
    have E2:Hid (s.makes ⟨6,(i:Int),xb,xc,(k:Int),xn,xr,xs⟩=(9,[])):=by
     show _=_;rw[E.out];simp only[hat,if_pos hw,Int.toNat_natCast,hu]
    have hge:(t.len:Int)≤k:=by rw[hlen];have:=List.getElem?_eq_none_iff.1 hu;omega
    rw[hw]
    clear E hw hat hu hlen hti;generalize t.len=tl at v2 hge;generalize hnl:s.L.length=nl at q6 hal hL80;go_wp2_with fail
    go_quiet (fail)
    go_wp2
    go_ret2;rw[E2.out]
    exact QY.nil (Qi S2.out.bel _)
   | some u =>
    have hlt:(k:Int)<t.len:=by rw[hlen];have:=(List.getElem?_eq_some_iff.1 hu).1;omega
    obtain⟨gk,okk,ua,uc,rfl,-,u0,u1,u2,u3⟩:=v3 k u hu
    have hua:u.ok:=hok.2 u (List.mem_of_getElem? hu);have HU:Hid (TIn w3 (fun g=>¬ O g) u ua∧u.ok):=⟨u3,hua⟩
    have HCU:Hid ((u.at 5).count≤100000):=by
     have h1:=Q8 (S2.out.ok.types t (QaW hat).1);have h2:=t.count_kid (List.mem_of_getElem? hu);have h3:=TT.at_count 5 u;show _≤_;omega
    have E2:Hid (s.makes ⟨6,(i:Int),xb,xc,(k:Int),xn,xr,xs⟩=(0,[u.at 5])):=by
     show _=_;rw[E.out];simp only[hat,if_pos hw,Int.toNat_natCast,hu]
    have hge:¬ (t.len:Int)≤k:=by omega
    rw[hw]
    clear E hw hat hu hlen hti v3 hok u3 hua;generalize t.len=tl at v2 hge hlt;generalize hnl:s.L.length=nl at q6 hal hL80;have HNL:Hid (s.L.length=nl):=hnl;clear hnl;go_wp2_with fail
    go_quiet (fail)
    have S4:=Qa (S2.out.below (Qi (Below.refl _ _) nq));have b4:Below w3.heap.size w3 (w3.drewN nq):=Qi (Below.refl _ _) nq;have HU4:Hid (TIn (w3.drewN nq) (fun g=>¬ O g) u ua∧u.ok):=⟨HU.out.1.below b4,HU.out.2⟩;have HRW4:Hid (TRd (w3.drewN nq) (fun g=>¬ O g) (some ⟨gL,0,none⟩) s.L):=HRW.out.below b4;have q6':=Qk q6 b4;have v2':=Qk v2 b4;have u0':=Qk u0 b4;have u1':=Qk u1 b4;have u2':=Qk u2 b4;clear b4;generalize w3.drewN nq=w4 at S4 HU4 HRW4 q6' v2' u0' u1' u2' ⊢;clear q6 v2 u0 u1 u2 HU HRW S2 x0 x1 x2 x3 x4 x6 x7;have S2:=S4;clear S4;obtain⟨x0,x1,x2,x3,x4,x6,x7⟩:=S2.out.cells
    simp only at x0 x1 x2 x3 x4 x6 x7
    go_upto_region 38 with fail
    refine Qlv S2 q6' v2' u0' u1' u2' hal hlt rfl rfl _ _ rfl (Nat.le_of_ble_eq_true (by kernel_rfl)) rfl rfl ?_;rintro ops vs w5 hv190 ⟨B,hv12,hB,hBb⟩ b5;show wpList _ ops _ [_] (Ze _ vs [178,179,180,181,182,183,184,185,186,187,188,189,190,12]) w5;simp only[Ze,Act.put,List.setIfInBounds_toArray,List.set_cons_zero,List.set_cons_succ,hv190,hv12]
    have B6:Hid (Blk (((w5.setCell ⟨B,0,none⟩ (.int .i64 u.kind)).setCell ⟨B,1,none⟩ (.int .i64 u.r)).setCell ⟨B,2,none⟩ (.slice ua u.len uc)) B #[.int .i64 u.kind,.int .i64 u.r,.slice ua u.len uc] 79):=Blk.set3 hBb _ _ _
    have b6:Hid (Below w4.heap.size w4 (((w5.setCell ⟨B,0,none⟩ (.int .i64 u.kind)).setCell ⟨B,1,none⟩ (.int .i64 u.r)).setCell ⟨B,2,none⟩ (.slice ua u.len uc))) :=
     ((b5.setCell (p:=⟨B,0,none⟩) hB _).setCell (p:=⟨B,1,none⟩) hB _).setCell (p:=⟨B,2,none⟩) hB _
    have e0:=Qb hBb 0 _ rfl;have e1:=Qb hBb 1 _ rfl;have e2:=Qb hBb 2 _ rfl;have ef:∀ i,w5.frozen? ⟨B,i,none⟩=false:=fun i=>Qt hBb i;clear hBb hB b5 hv190 hv12 q6' v2' u0' u1' u2';go_upto_region 39 with fail
    generalize (((w5.setCell ⟨B,0,none⟩ (.int .i64 u.kind)).setCell ⟨B,1,none⟩ (.int .i64 u.r)).setCell ⟨B,2,none⟩ (.slice ua u.len uc))=w6 at B6 b6 ⊢;have S6:=Qa (S2.out.below b6.out);have HU6:Hid (TIn w6 (fun g=>¬ O g) u ua∧u.ok):=⟨HU4.out.1.below b6.out,HU4.out.2⟩;have HRW6:Hid (TRd w6 (fun g=>¬ O g) (some ⟨gL,0,none⟩) s.L):=HRW4.out.below b6.out;clear S2 HU4 HRW4 e0 e1 e2 ef x0 x1 x2 x3 x4 x6 x7;have S2:=S6;clear S6;obtain⟨x0,x1,x2,x3,x4,x6,x7⟩:=S2.out.cells
    simp only at x0 x1 x2 x3 x4 x6 x7
    have e0:=Qb B6.out 0 _ rfl;have e1:=Qb B6.out 1 _ rfl;have e2:=Qb B6.out 2 _ rfl
    have Z:Hid (QY w O 0 [u.at 5] (.returned (.tuple #[.slice (some ⟨w6.heap.size,0,none⟩) 1 1,.int .i64 0])) (w6.alloc (.cells #[.int .i64 u.kind,.int .i64 u.r,.slice ua u.len uc] 79))) :=
     ⟨_,1,1,rfl,fun _=>⟨rfl,Nat.le_refl _,QgC w6 O S2.out.lt HU6.out.1 HU6.out.2⟩,S2.out.bel.alloc S2.out.bel.size _⟩
    clear B6 b6;go_wp2
    go_ret2;rw[E2.out]
    exact Z.out
  ·have hw':(s.want xa 3 true==0)=false:=beq_eq_false_iff_ne.2 hw
   have E2:Hid (s.makes ⟨6,xa,xb,xc,xk,xn,xr,xs⟩=(s.want xa 3 true,[])):=by
    show _=_;rw[E.out];simp only[hat,if_neg hw]
   have HW:=Qa hw;clear E hat hw;generalize s.want xa 3 true=c at E2 hw' HW ⊢;go_wp2
   go_ret2;rw[E2.out]
   exact QY.nil S2.out.bel
def Qli (b X B gL nl cL j uc yc:Nat) (u y:TT 6) (ua ya:Option Addr) (q:Bool) (t:Tmp) (v:Value) (w:World):Prop :=
 v=(([(0,.pointer (some ⟨b,0,none⟩)),(3,.pointer (some ⟨X,0,none⟩)),(12,.pointer (some ⟨B,0,none⟩)),(209,.agg #[.int .i64 u.kind,.int .i64 u.r,.slice ua u.len uc]),(210,.pointer (some ⟨b,0,none⟩)),(211,.pointer (some ⟨b,0,none⟩)),(212,.pointer (some ⟨b,6,none⟩)),(213,.slice (some ⟨gL,0,none⟩) nl cL),(214,.pointer (some ⟨X,2,none⟩)),(215,.int .i64 (j:Int)),(216,.pointer (some ⟨gL,j*3,none⟩)),(217,.agg #[.int .i64 y.kind,.int .i64 y.r,.slice ya y.len yc]),(218,.bool q),(219,.bool (!q))]:List (Tmp × Value)).lookup t).getD undef
theorem QlZ {w w2:World}{b X:Nat}{O:Nat→Prop}{s:JSt}{x:Qv}{rg ag:Option Addr}{rc ac:Nat}{na:Option Addr}(HS:Hid (MkS w w2 b X O s x rg ag rc ac na)){B gL nl cL j uc yc:Nat}{u y:TT 6}{ua ya:Option Addr}{q:Bool}{Q R:Nat→Prop}(e0:w2.cell? ⟨B,0,none⟩=some (.int .i64 u.kind)) (e1:w2.cell? ⟨B,1,none⟩=some (.int .i64 u.r)) (e2:w2.cell? ⟨B,2,none⟩=some (.slice ua u.len uc)) (y0:w2.cell? ⟨b,6,none⟩=some (.slice (some ⟨gL,0,none⟩) nl cL)) (v0:w2.cell? ⟨gL,j*3,none⟩=some (.int .i64 y.kind)) (v1:w2.cell? ⟨gL,j*3+1,none⟩=some (.int .i64 y.r)) (v2:w2.cell? ⟨gL,j*3+2,none⟩=some (.slice ya y.len yc)) (hjn:(j:Int)<nl) (hxb:x.b=(j:Int)) (HU:Hid (TIn w2 Q u ua)) (HV:Hid (TIn w2 R y ya)) (HC:Hid (u.count≤100000)) (HQ:Hid (q=true↔u=y))
 (a:Act) (m:Nat) (hn:a.tmps.size=m) (hn':365≤m) (h0:a.tmps.getD 0 undef=.pointer (some ⟨b,0,none⟩)) (h3:a.tmps.getD 3 undef=.pointer (some ⟨X,0,none⟩)) (h12:a.tmps.getD 12 undef=.pointer (some ⟨B,0,none⟩)) :
 Code.wp Tryz.prog ((Tryz.f73.body.bind (Ql 43)).getD .skip) (fun e a' w'=>e=.normal∧∃ vs,a'=Ze a vs [209,210,211,212,213,214,215,216,217,218,219]∧vs 219=.bool (!q)∧Below w2.heap.size w2 w') a w2:=by
 conv=>arg 2;whnf
 refine QF (Qli b X B gL nl cL j uc yc u y ua ya q) (fun w=>Below w2.heap.size w2 w) (fun w w'=>Below w.heap.size w w') (outs:=[0,3,12]) (gs:=[]) (bs:=[true,true,true,true,true,true,true,true,true,true,true]) (by kernel_rfl) (n:=365) hn hn' (by kernel_rfl) ?hR ?hG (Qi (Below.refl _ _) 1) ⟨h0,h3,h12,trivial⟩ ?hA ?hend
 case hR=>exact fun t v w w' _ h=>h
 case hG=>exact trivial
 case hend=>exact fun vs w' hW hk=>⟨rfl,vs,rfl,hk 219 (by kernel_rfl),hW⟩
 case hA =>
  refine⟨fun a w hW hk K hK=>?_,?_⟩
  ·obtain⟨k0,-⟩:=hk
   have k0:a.tmps.getD 12 undef=.pointer (some ⟨B,0,none⟩):=k0;have c0:=Qk e0 hW;have c1:=Qk e1 hW;have c2:=Qk e2 hW;go_simp;exact hK _ _ (Below.refl _ _) hW rfl
  refine⟨fun a w hW hk K hK=>?_,?_⟩
  ·obtain⟨k0,-⟩:=hk
   have k0:a.tmps.getD 0 undef=.pointer (some ⟨b,0,none⟩):=k0;go_simp;exact hK _ _ (Below.refl _ _) hW rfl
  refine⟨fun a w hW hk K hK=>?_,?_⟩
  ·obtain⟨k0,-⟩:=hk
   have k0:a.tmps.getD 210 undef=.pointer (some ⟨b,0,none⟩):=k0;go_simp;exact hK _ _ (Below.refl _ _) hW rfl
  refine⟨fun a w hW hk K hK=>?_,?_⟩
  ·obtain⟨k0,-⟩:=hk
   have k0:a.tmps.getD 211 undef=.pointer (some ⟨b,0,none⟩):=k0;go_simp;exact hK _ _ (Below.refl _ _) hW rfl
  refine⟨fun a w hW hk K hK=>?_,?_⟩
  ·obtain⟨k0,-⟩:=hk
   have k0:a.tmps.getD 212 undef=.pointer (some ⟨b,6,none⟩):=k0;have c0:=Qk y0 hW;go_simp;exact hK _ _ (Below.refl _ _) hW rfl
  refine⟨fun a w hW hk K hK=>?_,?_⟩
  ·obtain⟨k0,-⟩:=hk
   have k0:a.tmps.getD 3 undef=.pointer (some ⟨X,0,none⟩):=k0;go_simp;exact hK _ _ (Below.refl _ _) hW rfl
  refine⟨fun a w hW hk K hK=>?_,?_⟩
  ·obtain⟨k0,-⟩:=hk
   have k0:a.tmps.getD 214 undef=.pointer (some ⟨X,2,none⟩):=k0;have c0:=(HS.out.below hW).cells.2.2.1;rw[hxb] at c0
   go_simp;exact hK _ _ (Below.refl _ _) hW rfl
  refine⟨fun a w hW hk K hK=>?_,?_⟩
  ·obtain⟨k0,k1,-⟩:=hk
   have k0:a.tmps.getD 213 undef=.slice (some ⟨gL,0,none⟩) nl cL:=k0;have k1:a.tmps.getD 215 undef=.int .i64 (j:Int):=k1;go_simp;exact hK _ _ (Below.refl _ _) hW rfl
  refine⟨fun a w hW hk K hK=>?_,?_⟩
  ·obtain⟨k0,-⟩:=hk
   have k0:a.tmps.getD 216 undef=.pointer (some ⟨gL,j*3,none⟩):=k0;have c0:=Qk v0 hW;have c1:=Qk v1 hW;have c2:=Qk v2 hW;go_simp;exact hK _ _ (Below.refl _ _) hW rfl
  refine⟨fun a w hW hk K hK=>?_,?_⟩
  ·obtain⟨k0,k1,-⟩:=hk
   have k0:a.tmps.getD 209 undef=.agg #[.int .i64 u.kind,.int .i64 u.r,.slice ua u.len uc]:=k0;have k1:a.tmps.getD 217 undef=.agg #[.int .i64 y.kind,.int .i64 y.r,.slice ya y.len yc]:=k1;go_simp;refine(samet_any 6 u y ua ya uc yc w (HU.out.below hW).all (HV.out.below hW).all HC.out).mono ?_;rintro r7 w7 ⟨⟨q7,rfl,hq7⟩,b7⟩
   have eq7:q7=q:=Bool.eq_iff_iff.2 (hq7.trans HQ.out.symm);subst eq7;go_simp;exact hK _ _ b7 (hW.trans (b7.mono hW.size)) rfl
  refine⟨fun a w hW hk K hK=>?_,?_⟩
  ·obtain⟨k0,-⟩:=hk
   have k0:a.tmps.getD 218 undef=.bool q:=k0;go_simp;exact hK _ _ (Below.refl _ _) hW rfl
  trivial
theorem QgU {w:World}{b:Nat}{O:Nat→Prop}{s:JSt}{x:Qv}{rg ag:Option Addr}{rc ac:Nat}(hO:∀ k,O k→k<w.heap.size) (hJ:JOk s) (h:KAt w b O s) (hk0:0≤x.k∧x.k≤7) (hop:x.op=7) :
 Calls Tryz.prog 73 #[.pointer (some ⟨b,0,none⟩),QaR x rg ag rc ac] w fun e w'=>QY w O (s.makes x).1 (s.makes x).2 e w':=by
 have E:Hid (s.makes x=(match s.at x.a with
  | none=>(1,[])
  | some t=>if s.want x.a 3 true=0 then (match t.2.2[x.k.toNat]? with
   | none=>(9,[])
   | some u=>(match s.at x.b with
    | none=>(1,[])
    | some v=>if bdec (u.at 5=v) then (0,[]) else (9,[])))
   else (s.want x.a 3 true,[]))):=Qcc hop
 have S0:=Qa (MkS.start x rg ag rc ac hO hJ h);obtain⟨xop,xa,xb,xc,xk,xn,xr,xs⟩:=x
 simp only at hop
 subst hop;clear h;go_enter Tryz.func73,Tryz.ntmps73
 go_upto_region 33 with fail
 obtain⟨w2,hw2⟩:∃ w2,(w.alloc (.cells #[.int .i64 7,.int .i64 xa,.int .i64 xb,.int .i64 xc,.int .i64 xk,.int .i64 xn,.slice rg xr.length rc,.slice ag xs.length ac] 59)).alloc (.cells #[.int .i64 1,.int .i64 0,.slice none 0 0] 79)=w2:=⟨_,rfl⟩
 obtain⟨X,hX⟩:∃ X,w.heap.size=X:=⟨_,rfl⟩
 have S2:Hid (MkS w w2 b X O s ⟨7,xa,xb,xc,xk,xn,xr,xs⟩ rg ag rc ac (some ⟨X+1,0,none⟩)):=by rw[← hw2,← hX];exact S0.out
 rw[hw2,hX]
 clear hw2 hX S0;obtain⟨x0,x1,x2,x3,x4,x6,x7⟩:=S2.out.cells
 have hH16:=S2.out.ok.regs;have hL80:=S2.out.ok.vals;go_wp2_with fail
 refine(Zb xa 3 true S2.out.ok.regs S2.out.ok.vals S2.out.known).mono ?_
 rintro e w3 ⟨rfl,n3,hw3⟩;have S3:Hid (MkS w w3 b X O s ⟨7,xa,xb,xc,xk,xn,xr,xs⟩ rg ag rc ac (some ⟨X+1,0,none⟩)):=S2.out.below (by rw[hw3];exact Qi (Below.refl _ _) n3);clear hw3 S2 x0 x1 x2 x3 x4 x6 x7;have S2:=S3;clear S3;obtain⟨x0,x1,x2,x3,x4,x6,x7⟩:=S2.out.cells
 simp only at x0 x1 x2 x3 x4 x6 x7 hk0
 cases hat:s.at xa with
 | none =>
  have hw:s.want xa 3 true=1:=by unfold JSt.want;rw[hat]
  have E2:Hid (s.makes ⟨7,xa,xb,xc,xk,xn,xr,xs⟩=(1,[])):=by
   show _=_;rw[E.out];simp only[hat]
  rw[hw]
  clear E hw hat;go_wp2
  go_ret2;rw[E2.out]
  exact QY.nil S2.out.bel
 | some t =>
  by_cases hw:s.want xa 3 true=0
  ·obtain⟨k,rfl⟩:=Int.eq_ofNat_of_zero_le hk0.1
   obtain⟨-,ha0,hal,hti⟩:=QaW hat
   obtain⟨i,rfl⟩:=Int.eq_ofNat_of_zero_le ha0
   obtain⟨pm,cm,a1,c1,a2,c2,a3,c3,hh,aL,cL,R⟩:=S2.out.known.read
   obtain⟨q0,q1,q2,q3,q4,q5,q6⟩:=R.cells
   obtain⟨gL,va,vc,rfl,v0,v1,v2,v3,hok⟩:=R.row i t (by simpa using hti)
   have HRW:Hid (TRd w3 (fun g=>¬ O g) (some ⟨gL,0,none⟩) s.L):=R.row;clear R q0 q1 q2 q3 q4 q5 v0 v1;have hlen:t.len=t.2.2.length:=rfl
   cases hu:t.2.2[k]? with
   | none =>
    have E2:Hid (s.makes ⟨7,(i:Int),xb,xc,(k:Int),xn,xr,xs⟩=(9,[])):=by
     show _=_;rw[E.out];simp only[hat,if_pos hw,Int.toNat_natCast,hu]
    have hge:(t.len:Int)≤k:=by rw[hlen];have:=List.getElem?_eq_none_iff.1 hu;omega
    rw[hw]
    clear E hw hat hu hlen hti;generalize t.len=tl at v2 hge;generalize hnl:s.L.length=nl at q6 hal hL80;go_wp2_with fail
    go_quiet (fail)
    go_wp2
    go_ret2;rw[E2.out]
    exact QY.nil (Qi S2.out.bel _)
   | some u =>
    have hlt:(k:Int)<t.len:=by rw[hlen];have:=(List.getElem?_eq_some_iff.1 hu).1;omega
    obtain⟨gk,okk,ua,uc,rfl,-,u0,u1,u2,u3⟩:=v3 k u hu
    have hua:u.ok:=hok.2 u (List.mem_of_getElem? hu);have HU:Hid (TIn w3 (fun g=>¬ O g) u ua∧u.ok):=⟨u3,hua⟩
    have HCU:Hid ((u.at 5).count≤100000):=by
     have h1:=Q8 (S2.out.ok.types t (QaW hat).1);have h2:=t.count_kid (List.mem_of_getElem? hu);have h3:=TT.at_count 5 u;show _≤_;omega
    have E2:Hid (s.makes ⟨7,(i:Int),xb,xc,(k:Int),xn,xr,xs⟩=(match s.at xb with | none=>(1,[]) | some v=>if bdec (u.at 5=v) then (0,[]) else (9,[]))):=by
     show _=_;rw[E.out];simp only[hat,if_pos hw,Int.toNat_natCast,hu]
    have hge:¬ (t.len:Int)≤k:=by omega
    rw[hw]
    clear E hw hat hu hlen hti v3 hok u3 hua;generalize t.len=tl at v2 hge hlt;generalize hnl:s.L.length=nl at q6 hal hL80;have HNL:Hid (s.L.length=nl):=hnl;clear hnl;go_wp2_with fail
    go_quiet (fail)
    have S4:=Qa (S2.out.below (Qi (Below.refl _ _) nq));have b4:Below w3.heap.size w3 (w3.drewN nq):=Qi (Below.refl _ _) nq;have HU4:Hid (TIn (w3.drewN nq) (fun g=>¬ O g) u ua∧u.ok):=⟨HU.out.1.below b4,HU.out.2⟩;have HRW4:Hid (TRd (w3.drewN nq) (fun g=>¬ O g) (some ⟨gL,0,none⟩) s.L):=HRW.out.below b4;have q6':=Qk q6 b4;have v2':=Qk v2 b4;have u0':=Qk u0 b4;have u1':=Qk u1 b4;have u2':=Qk u2 b4;clear b4;generalize w3.drewN nq=w4 at S4 HU4 HRW4 q6' v2' u0' u1' u2' ⊢;clear q6 v2 u0 u1 u2 HU HRW S2 x0 x1 x2 x3 x4 x6 x7;have S2:=S4;clear S4;obtain⟨x0,x1,x2,x3,x4,x6,x7⟩:=S2.out.cells
    simp only at x0 x1 x2 x3 x4 x6 x7
    go_upto_region 38 with fail
    refine Qlv S2 q6' v2' u0' u1' u2' hal hlt rfl rfl _ _ rfl (Nat.le_of_ble_eq_true (by kernel_rfl)) rfl rfl ?_;rintro ops vs w5 hv190 ⟨B,hv12,hB,hBb⟩ b5;show wpList _ ops _ [_] (Ze _ vs [178,179,180,181,182,183,184,185,186,187,188,189,190,12]) w5;simp only[Ze,Act.put,List.setIfInBounds_toArray,List.set_cons_zero,List.set_cons_succ,hv190,hv12]
    have B6:Hid (Blk (((w5.setCell ⟨B,0,none⟩ (.int .i64 u.kind)).setCell ⟨B,1,none⟩ (.int .i64 u.r)).setCell ⟨B,2,none⟩ (.slice ua u.len uc)) B #[.int .i64 u.kind,.int .i64 u.r,.slice ua u.len uc] 79):=Blk.set3 hBb _ _ _
    have b6:Hid (Below w4.heap.size w4 (((w5.setCell ⟨B,0,none⟩ (.int .i64 u.kind)).setCell ⟨B,1,none⟩ (.int .i64 u.r)).setCell ⟨B,2,none⟩ (.slice ua u.len uc))) :=
     ((b5.setCell (p:=⟨B,0,none⟩) hB _).setCell (p:=⟨B,1,none⟩) hB _).setCell (p:=⟨B,2,none⟩) hB _
    have e0:=Qb hBb 0 _ rfl;have e1:=Qb hBb 1 _ rfl;have e2:=Qb hBb 2 _ rfl;have ef:∀ i,w5.frozen? ⟨B,i,none⟩=false:=fun i=>Qt hBb i;clear hBb hB b5 hv190 hv12 q6' v2' u0' u1' u2';go_upto_region 39 with fail
    generalize (((w5.setCell ⟨B,0,none⟩ (.int .i64 u.kind)).setCell ⟨B,1,none⟩ (.int .i64 u.r)).setCell ⟨B,2,none⟩ (.slice ua u.len uc))=w6 at B6 b6 ⊢;have S6:=Qa (S2.out.below b6.out);have HU6:Hid (TIn w6 (fun g=>¬ O g) u ua∧u.ok):=⟨HU4.out.1.below b6.out,HU4.out.2⟩;have HRW6:Hid (TRd w6 (fun g=>¬ O g) (some ⟨gL,0,none⟩) s.L):=HRW4.out.below b6.out;clear S2 HU4 HRW4 e0 e1 e2 ef x0 x1 x2 x3 x4 x6 x7;have S2:=S6;clear S6;obtain⟨x0,x1,x2,x3,x4,x6,x7⟩:=S2.out.cells
    simp only at x0 x1 x2 x3 x4 x6 x7
    have e0:=Qb B6.out 0 _ rfl;have e1:=Qb B6.out 1 _ rfl;have e2:=Qb B6.out 2 _ rfl;have hhu:u.height≤5:=by have h9:u.height<5:=TT.height_lt u;omega
    rw[← TT.at_kind 5 u] at e0
    rw[← TT.at_r 5 u] at e1
    rw[← TT.at_len 5 u hhu] at e2
    have HU5:Hid (TIn w6 (fun g=>¬ O g) (u.at 5) ua):=HU6.out.1.at 5 hhu;have HC5:Hid ((u.at 5).count≤100000):=HCU.out;obtain⟨pm',cm',a1',c1',a2',c2',a3',c3',hh',aL',cL',R'⟩:=S2.out.known.read
    obtain⟨-,-,-,-,-,-,q6⟩:=R'.cells
    have HRW7:Hid (TRd w6 (fun g=>¬ O g) aL' s.L):=R'.row;rw[HNL.out] at q6
    clear R' HU6 HRW6 B6 hhu;generalize u.at 5=u6 at e0 e1 e2 HU5 HC5 E2;by_cases hb0:xb<0
    ·have hb0':decide (xb<0)=true:=decide_eq_true hb0
     have E3:Hid (s.makes ⟨7,(i:Int),xb,xc,(k:Int),xn,xr,xs⟩=(1,[])):=by
      show _=_
      have:s.at xb=none:=by unfold JSt.at;rw[if_pos hb0]
      rw[E2.out,this]
     clear E2 hb0;go_wp2_with fail
     go_quiet (fail)
     go_wp2
     go_ret2;rw[E3.out]
     exact QY.nil (Qi S2.out.bel _)
    obtain⟨j,rfl⟩:=Int.eq_ofNat_of_zero_le (show 0≤xb by omega)
    have hb0':decide ((j:Int)<0)=false:=decide_eq_false (by omega);by_cases hjn:j<nl
    ·have hvj:s.L[j]?=some (s.L[j]'(by rw[HNL.out];exact hjn)):=List.getElem?_eq_getElem _;generalize s.L[j]'(by rw[HNL.out];exact hjn)=y at hvj;have hatb:s.at (j:Int)=some y:=by unfold JSt.at;rw[if_neg hb0];exact hvj
     have E3:Hid (s.makes ⟨7,(i:Int),(j:Int),xc,(k:Int),xn,xr,xs⟩=if bdec (u6=y) then (0,[]) else (9,[])):=by
      show _=_;rw[E2.out,hatb]
     obtain⟨gY,ya,yc,rfl,v0,v1,v2,v3,-⟩:=HRW7.out j y hvj
     have hjn':decide ((nl:Int)≤j)=false:=decide_eq_false (by omega);have hjn2:(j:Int)<nl:=by omega
     have HY:Hid (TIn w6 (fun g=>¬ O g) y ya):=v3;clear E2 hb0 hvj hatb v3 HRW7;go_wp2_with fail
     go_quiet (fail)
     have b7:Below w6.heap.size w6 (w6.drewN nq):=Qi (Below.refl _ _) nq;have S7:=Qa (S2.out.below b7);have HU7:Hid (TIn (w6.drewN nq) (fun g=>¬ O g) u6 ua):=HU5.out.below b7;have HY7:Hid (TIn (w6.drewN nq) (fun g=>¬ O g) y ya):=HY.out.below b7;have q6':=Qk q6 b7;have e0':=Qk e0 b7;have e1':=Qk e1 b7;have e2':=Qk e2 b7;have v0':=Qk v0 b7;have v1':=Qk v1 b7;have v2':=Qk v2 b7;clear b7 b6;generalize w6.drewN nq=w7 at S7 HU7 HY7 q6' e0' e1' e2' v0' v1' v2' ⊢;clear q6 e0 e1 e2 v0 v1 v2 S2 HU5 HY x0 x1 x2 x3 x4 x6 x7;have HQ:Hid (bdec (u6=y)=true↔u6=y):=ZC;go_upto_region 43 with fail
     refine Code.wp_mono ?_ (QlZ S7 e0' e1' e2' q6' v0' v1' v2' hjn2 rfl HU7 HY7 HC5 HQ _ _ rfl (Nat.le_of_ble_eq_true (by kernel_rfl)) rfl rfl rfl);rintro ee aa w8 ⟨rfl,vs,rfl,hv,hb8⟩;simp only[Ze,Act.put,List.setIfInBounds_toArray,List.set_cons_zero,List.set_cons_succ,hv]
     have B8:=Qa (S7.out.below hb8).bel;clear hb8 hv HQ;generalize bdec (u6=y)=q at E3 ⊢
     cases q with
     | true =>
      go_wp2
      go_ret2;rw[E3.out]
      exact QY.nil B8.out
     | false =>
      go_wp2
      go_ret2;rw[E3.out]
      exact QY.nil B8.out
    ·have E3:Hid (s.makes ⟨7,(i:Int),(j:Int),xc,(k:Int),xn,xr,xs⟩=(1,[])):=by
      show _=_
      have:s.at (j:Int)=none:=by unfold JSt.at;rw[if_neg hb0,Int.toNat_natCast,List.getElem?_eq_none (by rw[HNL.out];omega)]
      rw[E2.out,this]
     have hjn':decide ((nl:Int)≤j)=true:=decide_eq_true (by omega);clear E2 hb0;go_wp2_with fail
     go_quiet (fail)
     go_wp2
     go_ret2;rw[E3.out]
     exact QY.nil (Qi S2.out.bel _)
  ·have hw':(s.want xa 3 true==0)=false:=beq_eq_false_iff_ne.2 hw
   have E2:Hid (s.makes ⟨7,xa,xb,xc,xk,xn,xr,xs⟩=(s.want xa 3 true,[])):=by
    show _=_;rw[E.out];simp only[hat,if_neg hw]
   have HW:=Qa hw;clear E hat hw;generalize s.want xa 3 true=c at E2 hw' HW ⊢;go_wp2
   go_ret2;rw[E2.out]
   exact QY.nil S2.out.bel
end Go.Proofs.YtacjnejckfhpoadGreat
