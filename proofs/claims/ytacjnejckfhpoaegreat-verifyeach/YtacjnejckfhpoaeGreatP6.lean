import Derived.Test.YtacjnejckfhpoaeGreatP5
set_option maxHeartbeats 16000000
set_option maxRecDepth 100000
namespace Go.Proofs.YtacjnejckfhpoaeGreat
open Go.ChangeShapes Go.WideShapes Go.ChangeAt Go.RowKit
set_option linter.unusedSimpArgs false
set_option linter.unusedVariables false
theorem QjA {xop:Int}{fa fb fc fk fn fr fs:Bool}(hop:Qv xop=some (fa,fb,fc,fk,fn,fr,fs)) (xa xb xc xk xn:Int) (am ra aa:Option Addr) (lm cm rl rc al ac:Nat) (w:World) :
 Rd Tryz.prog 80 #[.agg #[.slice am lm cm],.agg #[.int .i64 xop,.int .i64 xa,.int .i64 xb,.int .i64 xc,.int .i64 xk,.int .i64 xn,.slice ra rl rc,.slice aa al ac]] w (.int .i64 (QM lm xop xa xb xc xk xn rl al)):=by
 refine Qs (n:=137) Tryz.func80 rfl rfl rfl ?_;intro a hF;have hW:=Wd.start w;replace hF:Fr 137 a [(0,.agg #[.slice am lm cm]),(1,.agg #[.int .i64 xop,.int .i64 xa,.int .i64 xb,.int .i64 xc,.int .i64 xk,.int .i64 xn,.slice ra rl rc,.slice aa al ac])]:=hF;refine wp_seq_k fun K1 hK1=>?_;refine rg hF fun ops=>?_;clear hF a;refine sB hW trivial rfl rfl ?_;clear hW;intro w2 B2 hW2 hN;clear hN;refine sB hW2 trivial rfl rfl ?_;clear hW2;intro w3 B3 hW3 hN;clear hN;refine sa trivial rfl rfl ?_;refine St.nil fun a4 h4=>?_;refine hK1 _ _ ?_;refine wp_seq_k fun K5 hK5=>?_;refine rg h4 fun ops=>?_;clear h4 a4;refine Qig trivial rfl rfl ?_;refine Zw 0 hW3 trivial rfl rfl rfl rfl ?_;refine QjI cf118 hW3 (QeU hop w3) trivial rfl rfl ?_;clear hW3;intro w6 hW6;refine sm trivial rfl rfl ?_;intro a7 h7;refine Q2 (t:=11) (v:=.agg #[.bool fa,.bool fb,.bool fc,.bool fk,.bool fn,.bool fr,.bool fs]) (w':=w6) h7 rfl rfl rfl (fun K hK=>?_) ?_
 ·have k0:a7.tmps.getD 7 undef=.tuple #[.agg #[.bool fa,.bool fb,.bool fc,.bool fk,.bool fn,.bool fr,.bool fs],.bool true]:=h7.sl 7 _ rfl
  go_simp;exact hK
 clear h7;intro a8 hF8;refine Q2 (t:=12) (v:=.bool true) (w':=w6) hF8 rfl rfl rfl (fun K hK=>?_) ?_
 ·have k0:a8.tmps.getD 7 undef=.tuple #[.agg #[.bool fa,.bool fb,.bool fc,.bool fk,.bool fn,.bool fr,.bool fs],.bool true]:=hF8.sl 7 _ rfl
  go_simp;exact hK
 clear hF8;intro a9 hF9;refine St.go hF9 ?_;clear hF9 a9;refine Qgm hW6 trivial rfl ?_;clear hW6;intro w10 B10 hW10 hN;clear hN;refine sT 0 hW10 rfl rfl infFields rfl rfl rfl ?_;clear hW10;intro w11 hW11;refine sa trivial rfl rfl ?_;refine St.nil fun a12 h12=>?_;refine hK5 _ _ ?_;refine wp_seq_k fun K13 hK13=>?_;refine wp_seq_k fun K14 hK14=>?_;refine rg h12 fun ops=>?_;clear h12 a12;refine sm trivial rfl rfl ?_;refine sn trivial rfl rfl ?_;refine St.nil fun a15 h15=>?_;refine hK14 _ _ ?_;refine Qgp (t:=14) h15 rfl ?_;refine wp_skip ?_;refine hK13 _ _ ?_;refine wp_seq_k fun K16 hK16=>?_;refine wp_seq_k fun K17 hK17=>?_;refine Zh ?_;intro ops hops;have hg3:(ops[3]?).bind (fun o:Oper=>o.dst)=some 18:=hops 3;have hg8:(ops[8]?).bind (fun o:Oper=>o.dst)=some 23:=hops 8;have hg12:(ops[12]?).bind (fun o:Oper=>o.dst)=some 27:=hops 12;have hg18:(ops[18]?).bind (fun o:Oper=>o.dst)=some 33:=hops 18;have hg22:(ops[22]?).bind (fun o:Oper=>o.dst)=some 37:=hops 22;have hg28:(ops[28]?).bind (fun o:Oper=>o.dst)=some 43:=hops 28;have hg32:(ops[32]?).bind (fun o:Oper=>o.dst)=some 47:=hops 32;have hg38:(ops[38]?).bind (fun o:Oper=>o.dst)=some 53:=hops 38;have hg42:(ops[42]?).bind (fun o:Oper=>o.dst)=some 57:=hops 42;have hg48:(ops[48]?).bind (fun o:Oper=>o.dst)=some 63:=hops 48;have hg52:(ops[52]?).bind (fun o:Oper=>o.dst)=some 67:=hops 52;have hg59:(ops[59]?).bind (fun o:Oper=>o.dst)=some 74:=hops 59;have hg63:(ops[63]?).bind (fun o:Oper=>o.dst)=some 78:=hops 63;clear hops;refine Qfb 9 (fun a' w'=>(∃ d1:Bool,d1=(!fa&&xa != 0)∧Fr 137 a' [(23,.bool d1),(1,.agg #[.int .i64 xop,.int .i64 xa,.int .i64 xb,.int .i64 xc,.int .i64 xk,.int .i64 xn,.slice ra rl rc,.slice aa al ac]),(0,.agg #[.slice am lm cm]),(2,.pointer (some ⟨B2,0,none⟩)),(3,.pointer (some ⟨B3,0,none⟩)),(4,.int .i64 0),(5,.pointer (some ⟨B10,0,none⟩)),(6,.bool true)])∧w11=w') (fun KC hKC=>?_) ?_
 ·refine St.go h15 ?_;clear h15 a15
  refine Qhk trivial rfl rfl ?_;refine Qcz 0 hW11 trivial rfl rfl rfl rfl ?_;refine sn trivial rfl rfl ?_;refine sm trivial rfl rfl ?_;intro a18 h18;rcases Bool.eq_false_or_eq_true (!fa) with hb | hb
  ·rw[hb] at h18
   have hc19:fa=false:=by simpa using hb
   clear hb;refine St.go h18 ?_;clear h18 a18;refine QkN ⟨_,hg3,rfl,rfl⟩ rfl rfl ?_;refine Zw 1 hW11 ⟨_,hg3,rfl,rfl⟩ rfl rfl rfl rfl ?_;refine sne ⟨_,hg3,rfl,rfl⟩ rfl rfl rfl ?_;refine sp trivial rfl rfl rfl ?_;refine sm trivial rfl rfl ?_;refine St.nil fun a20 h20=>?_;exact hKC _ _ ⟨⟨xa != 0,by simp[hc19],(h20.keep (h20.keep (h20.keep (h20.keep (h20.keep (h20.keep (h20.keep (h20.keep h20.nil (t:=6) rfl) (t:=5) rfl) (t:=4) rfl) (t:=3) rfl) (t:=2) rfl) (t:=0) rfl) (t:=1) rfl) (t:=23) rfl)⟩,rfl⟩
  rw[hb] at h18
  have hc21:fa=true:=by simpa using hb
  clear hb;refine St.go h18 ?_;clear h18 a18;refine so hg3 rfl rfl rfl rfl ?_;refine so hg3 rfl rfl rfl rfl ?_;refine so hg3 rfl rfl rfl rfl ?_;refine spf trivial rfl rfl rfl ?_;refine sm trivial rfl rfl ?_;refine St.nil fun a22 h22=>?_;exact hKC _ _ ⟨⟨false,by simp[hc21],(h22.keep (h22.keep (h22.keep (h22.keep (h22.keep (h22.keep (h22.keep (h22.keep h22.nil (t:=6) rfl) (t:=5) rfl) (t:=4) rfl) (t:=3) rfl) (t:=2) rfl) (t:=0) rfl) (t:=1) rfl) (t:=23) rfl)⟩,rfl⟩
 ·clear h15;rintro a23 _ ⟨⟨d1,hdd1,h23⟩,rfl⟩;replace hdd1:Hid _:=hdd1
  refine Qfb 10 (fun a' w'=>(∃ d2:Bool,d2=(d1||(!fb&&xb != 0))∧Fr 137 a' [(33,.bool d2),(1,.agg #[.int .i64 xop,.int .i64 xa,.int .i64 xb,.int .i64 xc,.int .i64 xk,.int .i64 xn,.slice ra rl rc,.slice aa al ac]),(0,.agg #[.slice am lm cm]),(2,.pointer (some ⟨B2,0,none⟩)),(3,.pointer (some ⟨B3,0,none⟩)),(4,.int .i64 0),(5,.pointer (some ⟨B10,0,none⟩)),(6,.bool true)])∧w11=w') (fun KC hKC=>?_) ?_
  ·rcases Bool.eq_false_or_eq_true d1 with hb | hb
   ·rw[hb] at h23
    have hc24:=hb;clear hb;refine St.go h23 ?_;clear h23 a23;refine so hg8 rfl rfl rfl rfl ?_;refine so hg8 rfl rfl rfl rfl ?_;refine so hg8 rfl rfl rfl rfl ?_;refine so hg8 rfl rfl rfl rfl ?_;refine so hg12 rfl rfl rfl rfl ?_;refine so hg12 rfl rfl rfl rfl ?_;refine so hg12 rfl rfl rfl rfl ?_;refine so hg8 rfl rfl rfl rfl ?_;refine sp trivial rfl rfl rfl ?_;refine sm trivial rfl rfl ?_;refine St.nil fun a25 h25=>?_;exact hKC _ _ ⟨⟨true,by simp[hc24],(h25.keep (h25.keep (h25.keep (h25.keep (h25.keep (h25.keep (h25.keep (h25.keep h25.nil (t:=6) rfl) (t:=5) rfl) (t:=4) rfl) (t:=3) rfl) (t:=2) rfl) (t:=0) rfl) (t:=1) rfl) (t:=33) rfl)⟩,rfl⟩
   rw[hb] at h23
   have hc26:=hb;clear hb;refine St.go h23 ?_;clear h23 a23;refine Qhu ⟨_,hg8,rfl,rfl⟩ rfl rfl ?_;refine Qcz 0 hW11 ⟨_,hg8,rfl,rfl⟩ rfl rfl rfl rfl ?_;refine sn ⟨_,hg8,rfl,rfl⟩ rfl rfl ?_;refine sm ⟨_,hg8,rfl,rfl⟩ rfl rfl ?_;intro a27 h27;rcases Bool.eq_false_or_eq_true (!fb) with hb | hb
   ·rw[hb] at h27
    have hc28:fb=false:=by simpa using hb
    clear hb;refine St.go h27 ?_;clear h27 a27;refine QkJ ⟨_,hg12,rfl,rfl⟩ rfl rfl ?_;refine Zw 1 hW11 ⟨_,hg12,rfl,rfl⟩ rfl rfl rfl rfl ?_;refine sne ⟨_,hg12,rfl,rfl⟩ rfl rfl rfl ?_;refine sp ⟨_,hg8,rfl,rfl⟩ rfl rfl rfl ?_;refine spf trivial rfl rfl rfl ?_;refine sm trivial rfl rfl ?_;refine St.nil fun a29 h29=>?_;exact hKC _ _ ⟨⟨xb != 0,by simp[hc26,hc28],(h29.keep (h29.keep (h29.keep (h29.keep (h29.keep (h29.keep (h29.keep (h29.keep h29.nil (t:=6) rfl) (t:=5) rfl) (t:=4) rfl) (t:=3) rfl) (t:=2) rfl) (t:=0) rfl) (t:=1) rfl) (t:=33) rfl)⟩,rfl⟩
   rw[hb] at h27
   have hc30:fb=true:=by simpa using hb
   clear hb;refine St.go h27 ?_;clear h27 a27;refine so hg12 rfl rfl rfl rfl ?_;refine so hg12 rfl rfl rfl rfl ?_;refine so hg12 rfl rfl rfl rfl ?_;refine spf ⟨_,hg8,rfl,rfl⟩ rfl rfl rfl ?_;refine spf trivial rfl rfl rfl ?_;refine sm trivial rfl rfl ?_;refine St.nil fun a31 h31=>?_;exact hKC _ _ ⟨⟨false,by simp[hc26,hc30],(h31.keep (h31.keep (h31.keep (h31.keep (h31.keep (h31.keep (h31.keep (h31.keep h31.nil (t:=6) rfl) (t:=5) rfl) (t:=4) rfl) (t:=3) rfl) (t:=2) rfl) (t:=0) rfl) (t:=1) rfl) (t:=33) rfl)⟩,rfl⟩
  ·clear h23;rintro a32 _ ⟨⟨d2,hdd2,h32⟩,rfl⟩;replace hdd2:Hid _:=hdd2
   refine Qfb 10 (fun a' w'=>(∃ d3:Bool,d3=(d2||(!fc&&xc != 0))∧Fr 137 a' [(43,.bool d3),(1,.agg #[.int .i64 xop,.int .i64 xa,.int .i64 xb,.int .i64 xc,.int .i64 xk,.int .i64 xn,.slice ra rl rc,.slice aa al ac]),(0,.agg #[.slice am lm cm]),(2,.pointer (some ⟨B2,0,none⟩)),(3,.pointer (some ⟨B3,0,none⟩)),(4,.int .i64 0),(5,.pointer (some ⟨B10,0,none⟩)),(6,.bool true)])∧w11=w') (fun KC hKC=>?_) ?_
   ·rcases Bool.eq_false_or_eq_true d2 with hb | hb
    ·rw[hb] at h32
     have hc33:=hb;clear hb;refine St.go h32 ?_;clear h32 a32;refine so hg18 rfl rfl rfl rfl ?_;refine so hg18 rfl rfl rfl rfl ?_;refine so hg18 rfl rfl rfl rfl ?_;refine so hg18 rfl rfl rfl rfl ?_;refine so hg22 rfl rfl rfl rfl ?_;refine so hg22 rfl rfl rfl rfl ?_;refine so hg22 rfl rfl rfl rfl ?_;refine so hg18 rfl rfl rfl rfl ?_;refine sp trivial rfl rfl rfl ?_;refine sm trivial rfl rfl ?_;refine St.nil fun a34 h34=>?_;exact hKC _ _ ⟨⟨true,by simp[hc33],(h34.keep (h34.keep (h34.keep (h34.keep (h34.keep (h34.keep (h34.keep (h34.keep h34.nil (t:=6) rfl) (t:=5) rfl) (t:=4) rfl) (t:=3) rfl) (t:=2) rfl) (t:=0) rfl) (t:=1) rfl) (t:=43) rfl)⟩,rfl⟩
    rw[hb] at h32
    have hc35:=hb;clear hb;refine St.go h32 ?_;clear h32 a32;refine Qiw ⟨_,hg18,rfl,rfl⟩ rfl rfl ?_;refine Qcz 0 hW11 ⟨_,hg18,rfl,rfl⟩ rfl rfl rfl rfl ?_;refine sn ⟨_,hg18,rfl,rfl⟩ rfl rfl ?_;refine sm ⟨_,hg18,rfl,rfl⟩ rfl rfl ?_;intro a36 h36;rcases Bool.eq_false_or_eq_true (!fc) with hb | hb
    ·rw[hb] at h36
     have hc37:fc=false:=by simpa using hb
     clear hb;refine St.go h36 ?_;clear h36 a36;refine QkI ⟨_,hg22,rfl,rfl⟩ rfl rfl ?_;refine Zw 1 hW11 ⟨_,hg22,rfl,rfl⟩ rfl rfl rfl rfl ?_;refine sne ⟨_,hg22,rfl,rfl⟩ rfl rfl rfl ?_;refine sp ⟨_,hg18,rfl,rfl⟩ rfl rfl rfl ?_;refine spf trivial rfl rfl rfl ?_;refine sm trivial rfl rfl ?_;refine St.nil fun a38 h38=>?_;exact hKC _ _ ⟨⟨xc != 0,by simp[hc35,hc37],(h38.keep (h38.keep (h38.keep (h38.keep (h38.keep (h38.keep (h38.keep (h38.keep h38.nil (t:=6) rfl) (t:=5) rfl) (t:=4) rfl) (t:=3) rfl) (t:=2) rfl) (t:=0) rfl) (t:=1) rfl) (t:=43) rfl)⟩,rfl⟩
    rw[hb] at h36
    have hc39:fc=true:=by simpa using hb
    clear hb;refine St.go h36 ?_;clear h36 a36;refine so hg22 rfl rfl rfl rfl ?_;refine so hg22 rfl rfl rfl rfl ?_;refine so hg22 rfl rfl rfl rfl ?_;refine spf ⟨_,hg18,rfl,rfl⟩ rfl rfl rfl ?_;refine spf trivial rfl rfl rfl ?_;refine sm trivial rfl rfl ?_;refine St.nil fun a40 h40=>?_;exact hKC _ _ ⟨⟨false,by simp[hc35,hc39],(h40.keep (h40.keep (h40.keep (h40.keep (h40.keep (h40.keep (h40.keep (h40.keep h40.nil (t:=6) rfl) (t:=5) rfl) (t:=4) rfl) (t:=3) rfl) (t:=2) rfl) (t:=0) rfl) (t:=1) rfl) (t:=43) rfl)⟩,rfl⟩
   ·clear h32;rintro a41 _ ⟨⟨d3,hdd3,h41⟩,rfl⟩;replace hdd3:Hid _:=hdd3
    refine Qfb 10 (fun a' w'=>(∃ d4:Bool,d4=(d3||(!fk&&xk != 0))∧Fr 137 a' [(53,.bool d4),(1,.agg #[.int .i64 xop,.int .i64 xa,.int .i64 xb,.int .i64 xc,.int .i64 xk,.int .i64 xn,.slice ra rl rc,.slice aa al ac]),(0,.agg #[.slice am lm cm]),(2,.pointer (some ⟨B2,0,none⟩)),(3,.pointer (some ⟨B3,0,none⟩)),(4,.int .i64 0),(5,.pointer (some ⟨B10,0,none⟩)),(6,.bool true)])∧w11=w') (fun KC hKC=>?_) ?_
    ·rcases Bool.eq_false_or_eq_true d3 with hb | hb
     ·rw[hb] at h41
      have hc42:=hb;clear hb;refine St.go h41 ?_;clear h41 a41;refine so hg28 rfl rfl rfl rfl ?_;refine so hg28 rfl rfl rfl rfl ?_;refine so hg28 rfl rfl rfl rfl ?_;refine so hg28 rfl rfl rfl rfl ?_;refine so hg32 rfl rfl rfl rfl ?_;refine so hg32 rfl rfl rfl rfl ?_;refine so hg32 rfl rfl rfl rfl ?_;refine so hg28 rfl rfl rfl rfl ?_;refine sp trivial rfl rfl rfl ?_;refine sm trivial rfl rfl ?_;refine St.nil fun a43 h43=>?_;exact hKC _ _ ⟨⟨true,by simp[hc42],(h43.keep (h43.keep (h43.keep (h43.keep (h43.keep (h43.keep (h43.keep (h43.keep h43.nil (t:=6) rfl) (t:=5) rfl) (t:=4) rfl) (t:=3) rfl) (t:=2) rfl) (t:=0) rfl) (t:=1) rfl) (t:=53) rfl)⟩,rfl⟩
     rw[hb] at h41
     have hc44:=hb;clear hb;refine St.go h41 ?_;clear h41 a41;refine Qh0 ⟨_,hg28,rfl,rfl⟩ rfl rfl ?_;refine Qcz 0 hW11 ⟨_,hg28,rfl,rfl⟩ rfl rfl rfl rfl ?_;refine sn ⟨_,hg28,rfl,rfl⟩ rfl rfl ?_;refine sm ⟨_,hg28,rfl,rfl⟩ rfl rfl ?_;intro a45 h45;rcases Bool.eq_false_or_eq_true (!fk) with hb | hb
     ·rw[hb] at h45
      have hc46:fk=false:=by simpa using hb
      clear hb;refine St.go h45 ?_;clear h45 a45;refine QbN ⟨_,hg32,rfl,rfl⟩ rfl rfl ?_;refine Zw 1 hW11 ⟨_,hg32,rfl,rfl⟩ rfl rfl rfl rfl ?_;refine sne ⟨_,hg32,rfl,rfl⟩ rfl rfl rfl ?_;refine sp ⟨_,hg28,rfl,rfl⟩ rfl rfl rfl ?_;refine spf trivial rfl rfl rfl ?_;refine sm trivial rfl rfl ?_;refine St.nil fun a47 h47=>?_;exact hKC _ _ ⟨⟨xk != 0,by simp[hc44,hc46],(h47.keep (h47.keep (h47.keep (h47.keep (h47.keep (h47.keep (h47.keep (h47.keep h47.nil (t:=6) rfl) (t:=5) rfl) (t:=4) rfl) (t:=3) rfl) (t:=2) rfl) (t:=0) rfl) (t:=1) rfl) (t:=53) rfl)⟩,rfl⟩
     rw[hb] at h45
     have hc48:fk=true:=by simpa using hb
     clear hb;refine St.go h45 ?_;clear h45 a45;refine so hg32 rfl rfl rfl rfl ?_;refine so hg32 rfl rfl rfl rfl ?_;refine so hg32 rfl rfl rfl rfl ?_;refine spf ⟨_,hg28,rfl,rfl⟩ rfl rfl rfl ?_;refine spf trivial rfl rfl rfl ?_;refine sm trivial rfl rfl ?_;refine St.nil fun a49 h49=>?_;exact hKC _ _ ⟨⟨false,by simp[hc44,hc48],(h49.keep (h49.keep (h49.keep (h49.keep (h49.keep (h49.keep (h49.keep (h49.keep h49.nil (t:=6) rfl) (t:=5) rfl) (t:=4) rfl) (t:=3) rfl) (t:=2) rfl) (t:=0) rfl) (t:=1) rfl) (t:=53) rfl)⟩,rfl⟩
    ·clear h41;rintro a50 _ ⟨⟨d4,hdd4,h50⟩,rfl⟩;replace hdd4:Hid _:=hdd4
     refine Qfb 10 (fun a' w'=>(∃ d5:Bool,d5=(d4||(!fn&&xn != 0))∧Fr 137 a' [(63,.bool d5),(1,.agg #[.int .i64 xop,.int .i64 xa,.int .i64 xb,.int .i64 xc,.int .i64 xk,.int .i64 xn,.slice ra rl rc,.slice aa al ac]),(0,.agg #[.slice am lm cm]),(2,.pointer (some ⟨B2,0,none⟩)),(3,.pointer (some ⟨B3,0,none⟩)),(4,.int .i64 0),(5,.pointer (some ⟨B10,0,none⟩)),(6,.bool true)])∧w11=w') (fun KC hKC=>?_) ?_
     ·rcases Bool.eq_false_or_eq_true d4 with hb | hb
      ·rw[hb] at h50
       have hc51:=hb;clear hb;refine St.go h50 ?_;clear h50 a50;refine so hg38 rfl rfl rfl rfl ?_;refine so hg38 rfl rfl rfl rfl ?_;refine so hg38 rfl rfl rfl rfl ?_;refine so hg38 rfl rfl rfl rfl ?_;refine so hg42 rfl rfl rfl rfl ?_;refine so hg42 rfl rfl rfl rfl ?_;refine so hg42 rfl rfl rfl rfl ?_;refine so hg38 rfl rfl rfl rfl ?_;refine sp trivial rfl rfl rfl ?_;refine sm trivial rfl rfl ?_;refine St.nil fun a52 h52=>?_;exact hKC _ _ ⟨⟨true,by simp[hc51],(h52.keep (h52.keep (h52.keep (h52.keep (h52.keep (h52.keep (h52.keep (h52.keep h52.nil (t:=6) rfl) (t:=5) rfl) (t:=4) rfl) (t:=3) rfl) (t:=2) rfl) (t:=0) rfl) (t:=1) rfl) (t:=63) rfl)⟩,rfl⟩
      rw[hb] at h50
      have hc53:=hb;clear hb;refine St.go h50 ?_;clear h50 a50;refine QhU ⟨_,hg38,rfl,rfl⟩ rfl rfl ?_;refine Qcz 0 hW11 ⟨_,hg38,rfl,rfl⟩ rfl rfl rfl rfl ?_;refine sn ⟨_,hg38,rfl,rfl⟩ rfl rfl ?_;refine sm ⟨_,hg38,rfl,rfl⟩ rfl rfl ?_;intro a54 h54;rcases Bool.eq_false_or_eq_true (!fn) with hb | hb
      ·rw[hb] at h54
       have hc55:fn=false:=by simpa using hb
       clear hb;refine St.go h54 ?_;clear h54 a54;refine QkR ⟨_,hg42,rfl,rfl⟩ rfl rfl ?_;refine QkT 1 hW11 ⟨_,hg42,rfl,rfl⟩ rfl rfl rfl rfl ?_;refine QlN ⟨_,hg42,rfl,rfl⟩ rfl rfl rfl ?_;refine sp ⟨_,hg38,rfl,rfl⟩ rfl rfl rfl ?_;refine spf trivial rfl rfl rfl ?_;refine sm trivial rfl rfl ?_;refine St.nil fun a56 h56=>?_;exact hKC _ _ ⟨⟨xn != 0,by simp[hc53,hc55],(h56.keep (h56.keep (h56.keep (h56.keep (h56.keep (h56.keep (h56.keep (h56.keep h56.nil (t:=6) rfl) (t:=5) rfl) (t:=4) rfl) (t:=3) rfl) (t:=2) rfl) (t:=0) rfl) (t:=1) rfl) (t:=63) rfl)⟩,rfl⟩
      rw[hb] at h54
      have hc57:fn=true:=by simpa using hb
      clear hb;refine St.go h54 ?_;clear h54 a54;refine so hg42 rfl rfl rfl rfl ?_;refine so hg42 rfl rfl rfl rfl ?_;refine so hg42 rfl rfl rfl rfl ?_;refine spf ⟨_,hg38,rfl,rfl⟩ rfl rfl rfl ?_;refine spf trivial rfl rfl rfl ?_;refine sm trivial rfl rfl ?_;refine St.nil fun a58 h58=>?_;exact hKC _ _ ⟨⟨false,by simp[hc53,hc57],(h58.keep (h58.keep (h58.keep (h58.keep (h58.keep (h58.keep (h58.keep (h58.keep h58.nil (t:=6) rfl) (t:=5) rfl) (t:=4) rfl) (t:=3) rfl) (t:=2) rfl) (t:=0) rfl) (t:=1) rfl) (t:=63) rfl)⟩,rfl⟩
     ·clear h50;rintro a59 _ ⟨⟨d5,hdd5,h59⟩,rfl⟩;replace hdd5:Hid _:=hdd5
      refine Qfb 11 (fun a' w'=>(∃ d6:Bool,d6=(d5||(!fr&&decide ((0:Int)<(rl:Int))))∧Fr 137 a' [(74,.bool d6),(1,.agg #[.int .i64 xop,.int .i64 xa,.int .i64 xb,.int .i64 xc,.int .i64 xk,.int .i64 xn,.slice ra rl rc,.slice aa al ac]),(0,.agg #[.slice am lm cm]),(2,.pointer (some ⟨B2,0,none⟩)),(3,.pointer (some ⟨B3,0,none⟩)),(4,.int .i64 0),(5,.pointer (some ⟨B10,0,none⟩)),(6,.bool true)])∧w11=w') (fun KC hKC=>?_) ?_
      ·rcases Bool.eq_false_or_eq_true d5 with hb | hb
       ·rw[hb] at h59
        have hc60:=hb;clear hb;refine St.go h59 ?_;clear h59 a59;refine so hg48 rfl rfl rfl rfl ?_;refine so hg48 rfl rfl rfl rfl ?_;refine so hg48 rfl rfl rfl rfl ?_;refine so hg48 rfl rfl rfl rfl ?_;refine so hg52 rfl rfl rfl rfl ?_;refine so hg52 rfl rfl rfl rfl ?_;refine so hg52 rfl rfl rfl rfl ?_;refine so hg52 rfl rfl rfl rfl ?_;refine so hg48 rfl rfl rfl rfl ?_;refine sp trivial rfl rfl rfl ?_;refine sm trivial rfl rfl ?_;refine St.nil fun a61 h61=>?_;exact hKC _ _ ⟨⟨true,by simp[hc60],(h61.keep (h61.keep (h61.keep (h61.keep (h61.keep (h61.keep (h61.keep (h61.keep h61.nil (t:=6) rfl) (t:=5) rfl) (t:=4) rfl) (t:=3) rfl) (t:=2) rfl) (t:=0) rfl) (t:=1) rfl) (t:=74) rfl)⟩,rfl⟩
       rw[hb] at h59
       have hc62:=hb;clear hb;refine St.go h59 ?_;clear h59 a59;refine Qhg ⟨_,hg48,rfl,rfl⟩ rfl rfl ?_;refine Qcz 0 hW11 ⟨_,hg48,rfl,rfl⟩ rfl rfl rfl rfl ?_;refine sn ⟨_,hg48,rfl,rfl⟩ rfl rfl ?_;refine sm ⟨_,hg48,rfl,rfl⟩ rfl rfl ?_;intro a63 h63;rcases Bool.eq_false_or_eq_true (!fr) with hb | hb
       ·rw[hb] at h63
        have hc64:fr=false:=by simpa using hb
        clear hb;refine St.go h63 ?_;clear h63 a63;refine QjN ⟨_,hg52,rfl,rfl⟩ rfl rfl ?_;refine Qep 1 hW11 ⟨_,hg52,rfl,rfl⟩ rfl rfl rfl rfl ?_;refine Qe2 ⟨_,hg52,rfl,rfl⟩ rfl rfl ?_;refine sgt ⟨_,hg52,rfl,rfl⟩ rfl rfl rfl ?_;refine sp ⟨_,hg48,rfl,rfl⟩ rfl rfl rfl ?_;refine spf trivial rfl rfl rfl ?_;refine sm trivial rfl rfl ?_;refine St.nil fun a65 h65=>?_;exact hKC _ _ ⟨⟨decide (0<(rl:Int)),by simp[hc62,hc64],(h65.keep (h65.keep (h65.keep (h65.keep (h65.keep (h65.keep (h65.keep (h65.keep h65.nil (t:=6) rfl) (t:=5) rfl) (t:=4) rfl) (t:=3) rfl) (t:=2) rfl) (t:=0) rfl) (t:=1) rfl) (t:=74) rfl)⟩,rfl⟩
       rw[hb] at h63
       have hc66:fr=true:=by simpa using hb
       clear hb;refine St.go h63 ?_;clear h63 a63;refine so hg52 rfl rfl rfl rfl ?_;refine so hg52 rfl rfl rfl rfl ?_;refine so hg52 rfl rfl rfl rfl ?_;refine so hg52 rfl rfl rfl rfl ?_;refine spf ⟨_,hg48,rfl,rfl⟩ rfl rfl rfl ?_;refine spf trivial rfl rfl rfl ?_;refine sm trivial rfl rfl ?_;refine St.nil fun a67 h67=>?_;exact hKC _ _ ⟨⟨false,by simp[hc62,hc66],(h67.keep (h67.keep (h67.keep (h67.keep (h67.keep (h67.keep (h67.keep (h67.keep h67.nil (t:=6) rfl) (t:=5) rfl) (t:=4) rfl) (t:=3) rfl) (t:=2) rfl) (t:=0) rfl) (t:=1) rfl) (t:=74) rfl)⟩,rfl⟩
      ·clear h59;rintro a68 _ ⟨⟨d6,hdd6,h68⟩,rfl⟩;replace hdd6:Hid _:=hdd6
       refine Qfb 10 (fun a' w'=>(∃ d7:Bool,d7=(d6||(!fs&&decide ((0:Int)<(al:Int))))∧Fr 137 a' [(84,.bool d7),(1,.agg #[.int .i64 xop,.int .i64 xa,.int .i64 xb,.int .i64 xc,.int .i64 xk,.int .i64 xn,.slice ra rl rc,.slice aa al ac]),(0,.agg #[.slice am lm cm]),(2,.pointer (some ⟨B2,0,none⟩)),(3,.pointer (some ⟨B3,0,none⟩)),(4,.int .i64 0),(5,.pointer (some ⟨B10,0,none⟩)),(6,.bool true)])∧w11=w') (fun KC hKC=>?_) ?_
       ·rcases Bool.eq_false_or_eq_true d6 with hb | hb
        ·rw[hb] at h68
         have hc69:=hb;clear hb;refine St.go h68 ?_;clear h68 a68;refine so hg59 rfl rfl rfl rfl ?_;refine so hg59 rfl rfl rfl rfl ?_;refine so hg59 rfl rfl rfl rfl ?_;refine so hg59 rfl rfl rfl rfl ?_;refine so hg63 rfl rfl rfl rfl ?_;refine so hg63 rfl rfl rfl rfl ?_;refine so hg63 rfl rfl rfl rfl ?_;refine so hg63 rfl rfl rfl rfl ?_;refine so hg59 rfl rfl rfl rfl ?_;refine sp trivial rfl rfl rfl ?_;refine St.nil fun a70 h70=>?_;exact hKC _ _ ⟨⟨true,by simp[hc69],(h70.keep (h70.keep (h70.keep (h70.keep (h70.keep (h70.keep (h70.keep (h70.keep h70.nil (t:=6) rfl) (t:=5) rfl) (t:=4) rfl) (t:=3) rfl) (t:=2) rfl) (t:=0) rfl) (t:=1) rfl) (t:=84) rfl)⟩,rfl⟩
        rw[hb] at h68
        have hc71:=hb;clear hb;refine St.go h68 ?_;clear h68 a68;refine Qhs ⟨_,hg59,rfl,rfl⟩ rfl rfl ?_;refine Qcz 0 hW11 ⟨_,hg59,rfl,rfl⟩ rfl rfl rfl rfl ?_;refine sn ⟨_,hg59,rfl,rfl⟩ rfl rfl ?_;refine sm ⟨_,hg59,rfl,rfl⟩ rfl rfl ?_;intro a72 h72;rcases Bool.eq_false_or_eq_true (!fs) with hb | hb
        ·rw[hb] at h72
         have hc73:fs=false:=by simpa using hb
         clear hb;refine St.go h72 ?_;clear h72 a72;refine QeK ⟨_,hg63,rfl,rfl⟩ rfl rfl ?_;refine Qep 1 hW11 ⟨_,hg63,rfl,rfl⟩ rfl rfl rfl rfl ?_;refine Qe2 ⟨_,hg63,rfl,rfl⟩ rfl rfl ?_;refine sgt ⟨_,hg63,rfl,rfl⟩ rfl rfl rfl ?_;refine sp ⟨_,hg59,rfl,rfl⟩ rfl rfl rfl ?_;refine spf trivial rfl rfl rfl ?_;refine St.nil fun a74 h74=>?_;exact hKC _ _ ⟨⟨decide (0<(al:Int)),by simp[hc71,hc73],(h74.keep (h74.keep (h74.keep (h74.keep (h74.keep (h74.keep (h74.keep (h74.keep h74.nil (t:=6) rfl) (t:=5) rfl) (t:=4) rfl) (t:=3) rfl) (t:=2) rfl) (t:=0) rfl) (t:=1) rfl) (t:=84) rfl)⟩,rfl⟩
        rw[hb] at h72
        have hc75:fs=true:=by simpa using hb
        clear hb;refine St.go h72 ?_;clear h72 a72;refine so hg63 rfl rfl rfl rfl ?_;refine so hg63 rfl rfl rfl rfl ?_;refine so hg63 rfl rfl rfl rfl ?_;refine so hg63 rfl rfl rfl rfl ?_;refine spf ⟨_,hg59,rfl,rfl⟩ rfl rfl rfl ?_;refine spf trivial rfl rfl rfl ?_;refine St.nil fun a76 h76=>?_;exact hKC _ _ ⟨⟨false,by simp[hc71,hc75],(h76.keep (h76.keep (h76.keep (h76.keep (h76.keep (h76.keep (h76.keep (h76.keep h76.nil (t:=6) rfl) (t:=5) rfl) (t:=4) rfl) (t:=3) rfl) (t:=2) rfl) (t:=0) rfl) (t:=1) rfl) (t:=84) rfl)⟩,rfl⟩
       ·clear h68;rintro a77 _ ⟨⟨d7,hdd7,h77⟩,rfl⟩;replace hdd7:Hid _:=hdd7
        refine wpList_nil ?_;refine hK17 _ _ ?_;refine Qt (t:=84) h77 rfl (fun hb=>?_) (fun hb=>?_)
        ·have hc78:=hb
         clear hb;refine wp_seq_k fun K79 hK79=>?_;refine rg h77 fun ops=>?_;clear h77 a77;refine sa trivial rfl rfl ?_;refine St.nil fun a80 h80=>?_;refine hK79 _ _ ?_;refine wp_ret ?_;with_reducible repeat first | refine Qd ?_ | refine Qc ?_
         have e7:=QS hop hdd1.out hdd2.out hdd3.out hdd4.out hdd5.out hdd6.out hdd7.out (lm:=lm);have R:QM lm xop xa xb xc xk xn rl al=4:=by rw[e7];simp[hc78]
         exact Qp (t:=4) h80 rfl rfl ⟨by rw[R],hW11.bel⟩
        have hc81:=hb;clear hb;refine wp_skip ?_;refine hK16 _ _ ?_;refine wp_seq_k fun K82 hK82=>?_;refine wp_seq_k fun K83 hK83=>?_;refine rg h77 fun ops=>?_;clear h77 a77;refine Qig trivial rfl rfl ?_;refine Zw 1 hW11 trivial rfl rfl rfl rfl ?_;refine St.nil fun a84 h84=>?_;refine hK83 _ _ ?_;refine wp_block ?_;refine wp_seq_k fun K85 hK85=>?_;refine rg h84 fun ops=>?_;clear h84 a84;refine seq trivial rfl rfl rfl ?_;refine sa trivial rfl rfl ?_;refine St.nil fun a86 h86=>?_;refine hK85 _ _ ?_;refine Qt (t:=87) h86 rfl (fun hb=>?_) (fun hb=>?_)
        ·have h9:xop=2:=eq_of_beq hb
         have hc87:Hid (xop=2):=h9;clear h9;clear hb;refine wp_seq_k fun K88 hK88=>?_;refine Zh ?_;intro ops hops;have hg3:(ops[3]?).bind (fun o:Oper=>o.dst)=some 92:=hops 3;clear hops;refine St.go h86 ?_;clear h86 a86;refine QbN trivial rfl rfl ?_;refine Zw 1 hW11 trivial rfl rfl rfl rfl ?_;refine slt trivial rfl rfl rfl ?_;refine sm trivial rfl rfl ?_;intro a89 h89;rcases Bool.eq_false_or_eq_true (decide (xk<1)) with hb | hb
         ·rw[hb] at h89
          have hc90:xk<1:=of_decide_eq_true hb;clear hb;refine St.go h89 ?_;clear h89 a89;refine so hg3 rfl rfl rfl rfl ?_;refine so hg3 rfl rfl rfl rfl ?_;refine so hg3 rfl rfl rfl rfl ?_;refine sp trivial rfl rfl rfl ?_;refine St.nil fun a91 h91=>?_;refine hK88 _ _ ?_;refine Qaz (t:=96) h91 rfl ?_;refine wp_seq_k fun K92 hK92=>?_;refine rg h91 fun ops=>?_;clear h91 a91;refine sa trivial rfl rfl ?_;refine St.nil fun a93 h93=>?_;refine hK92 _ _ ?_;refine wp_ret ?_;with_reducible repeat first | refine Qd ?_ | refine Qc ?_
          have e7:=QS hop hdd1.out hdd2.out hdd3.out hdd4.out hdd5.out hdd6.out hdd7.out (lm:=lm);have R:QM lm xop xa xb xc xk xn rl al=1:=by rw[e7];simp[hc81,hc87.out,hc90]
          exact Qp (t:=4) h93 rfl rfl ⟨by rw[R],hW11.bel⟩
         rw[hb] at h89
         have hc94:¬ (xk<1):=of_decide_eq_false hb;clear hb;refine St.go h89 ?_;clear h89 a89;refine QbN ⟨_,hg3,rfl,rfl⟩ rfl rfl ?_;refine Zw 1 hW11 ⟨_,hg3,rfl,rfl⟩ rfl rfl rfl rfl ?_;refine sgt ⟨_,hg3,rfl,rfl⟩ rfl rfl rfl ?_;refine spf trivial rfl rfl rfl ?_;refine St.nil fun a95 h95=>?_;refine hK88 _ _ ?_;refine Qt (t:=96) h95 rfl (fun hb=>?_) (fun hb=>?_)
         ·have hc96:9<xk:=of_decide_eq_true hb
          clear hb;refine wp_seq_k fun K97 hK97=>?_;refine rg h95 fun ops=>?_;clear h95 a95;refine sa trivial rfl rfl ?_;refine St.nil fun a98 h98=>?_;refine hK97 _ _ ?_;refine wp_ret ?_;with_reducible repeat first | refine Qd ?_ | refine Qc ?_
          have e7:=QS hop hdd1.out hdd2.out hdd3.out hdd4.out hdd5.out hdd6.out hdd7.out (lm:=lm);have R:QM lm xop xa xb xc xk xn rl al=1:=by rw[e7];simp[hc81,hc87.out,hc94,hc96]
          exact Qp (t:=4) h98 rfl rfl ⟨by rw[R],hW11.bel⟩
         have hc99:¬ (9<xk):=of_decide_eq_false hb;clear hb;refine wp_skip ?_;refine hK82 _ _ ?_;refine wp_seq_k fun K100 hK100=>?_;refine rg h95 fun ops=>?_;clear h95 a95;refine sa trivial rfl rfl ?_;refine St.nil fun a101 h101=>?_;refine hK100 _ _ ?_;refine wp_ret ?_;with_reducible repeat first | refine Qd ?_ | refine Qc ?_
         have e7:=QS hop hdd1.out hdd2.out hdd3.out hdd4.out hdd5.out hdd6.out hdd7.out (lm:=lm);have R:QM lm xop xa xb xc xk xn rl al=0:=by rw[e7];simp[hc81,hc87.out,hc94,hc99]
         exact Qp (t:=4) h101 rfl rfl ⟨by rw[R],hW11.bel⟩
        have h9:¬ xop=2:=ne_of_beq_false hb;have hc102:¬ xop=2:=h9;clear h9;clear hb;refine wp_seq_k fun K103 hK103=>?_;refine rg h86 fun ops=>?_;clear h86 a86;refine seq trivial rfl rfl rfl ?_;refine sa trivial rfl rfl ?_;refine St.nil fun a104 h104=>?_;refine hK103 _ _ ?_;refine Qt (t:=97) h104 rfl (fun hb=>?_) (fun hb=>?_)
        ·have h9:xop=5:=eq_of_beq hb
         have hc105:Hid (xop=5):=h9;clear h9;clear hb;refine wp_seq_k fun K106 hK106=>?_;refine rg h104 fun ops=>?_;clear h104 a104;refine QeK trivial rfl rfl ?_;refine Qep 1 hW11 trivial rfl rfl rfl rfl ?_;refine Qe2 trivial rfl rfl ?_;refine sgt trivial rfl rfl rfl ?_;refine St.nil fun a107 h107=>?_;refine hK106 _ _ ?_;refine Qt (t:=102) h107 rfl (fun hb=>?_) (fun hb=>?_)
         ·have hc108:8<al:=by have:=of_decide_eq_true hb;omega
          clear hb;refine wp_seq_k fun K109 hK109=>?_;refine rg h107 fun ops=>?_;clear h107 a107;refine sa trivial rfl rfl ?_;refine St.nil fun a110 h110=>?_;refine hK109 _ _ ?_;refine wp_ret ?_;with_reducible repeat first | refine Qd ?_ | refine Qc ?_
          have e7:=QS hop hdd1.out hdd2.out hdd3.out hdd4.out hdd5.out hdd6.out hdd7.out (lm:=lm);have R:QM lm xop xa xb xc xk xn rl al=2:=by rw[e7];simp[hc81,hc102,hc105.out,hc108]
          exact Qp (t:=4) h110 rfl rfl ⟨by rw[R],hW11.bel⟩
         have hc111:¬ (8<al):=by have:=of_decide_eq_false hb;omega
         clear hb;refine wp_skip ?_;refine hK82 _ _ ?_;refine wp_seq_k fun K112 hK112=>?_;refine rg h107 fun ops=>?_;clear h107 a107;refine sa trivial rfl rfl ?_;refine St.nil fun a113 h113=>?_;refine hK112 _ _ ?_;refine wp_ret ?_;with_reducible repeat first | refine Qd ?_ | refine Qc ?_
         have e7:=QS hop hdd1.out hdd2.out hdd3.out hdd4.out hdd5.out hdd6.out hdd7.out (lm:=lm);have R:QM lm xop xa xb xc xk xn rl al=0:=by rw[e7];simp[hc81,hc102,hc105.out,hc111]
         exact Qp (t:=4) h113 rfl rfl ⟨by rw[R],hW11.bel⟩
        have h9:¬ xop=5:=ne_of_beq_false hb;have hc114:¬ xop=5:=h9;clear h9;clear hb;refine wp_seq_k fun K115 hK115=>?_;refine wp_seq_k fun K116 hK116=>?_;refine rg h104 fun ops=>?_;clear h104 a104;refine seq trivial rfl rfl rfl ?_;refine sa trivial rfl rfl ?_;refine St.nil fun a117 h117=>?_;refine hK116 _ _ ?_;refine Qt (t:=103) h117 rfl (fun hb=>?_) (fun hb=>?_)
        ·rw[hb] at h117
         have h9:xop=6:=eq_of_beq hb;have hc118:Hid (xop=6):=h9;clear h9;clear hb;refine wp_skip ?_;refine hK115 _ _ ?_;refine Qaz (t:=103) h117 rfl ?_;refine wp_seq_k fun K119 hK119=>?_;refine Zh ?_;intro ops hops;have hg3:(ops[3]?).bind (fun o:Oper=>o.dst)=some 109:=hops 3;clear hops;refine St.go h117 ?_;clear h117 a117;refine QbN trivial rfl rfl ?_;refine Zw 1 hW11 trivial rfl rfl rfl rfl ?_;refine slt trivial rfl rfl rfl ?_;refine sm trivial rfl rfl ?_;intro a120 h120;rcases Bool.eq_false_or_eq_true (decide (xk<0)) with hb | hb
         ·rw[hb] at h120
          have hc121:xk<0:=of_decide_eq_true hb;clear hb;refine St.go h120 ?_;clear h120 a120;refine so hg3 rfl rfl rfl rfl ?_;refine so hg3 rfl rfl rfl rfl ?_;refine so hg3 rfl rfl rfl rfl ?_;refine sp trivial rfl rfl rfl ?_;refine St.nil fun a122 h122=>?_;refine hK119 _ _ ?_;refine Qaz (t:=113) h122 rfl ?_;refine wp_seq_k fun K123 hK123=>?_;refine rg h122 fun ops=>?_;clear h122 a122;refine sa trivial rfl rfl ?_;refine St.nil fun a124 h124=>?_;refine hK123 _ _ ?_;refine wp_ret ?_;with_reducible repeat first | refine Qd ?_ | refine Qc ?_
          have e7:=QS hop hdd1.out hdd2.out hdd3.out hdd4.out hdd5.out hdd6.out hdd7.out (lm:=lm);have R:QM lm xop xa xb xc xk xn rl al=1:=by rw[e7];simp[hc81,hc102,hc114,hc118.out,hc121]
          exact Qp (t:=4) h124 rfl rfl ⟨by rw[R],hW11.bel⟩
         rw[hb] at h120
         have hc125:¬ (xk<0):=of_decide_eq_false hb;clear hb;refine St.go h120 ?_;clear h120 a120;refine QbN ⟨_,hg3,rfl,rfl⟩ rfl rfl ?_;refine Zw 1 hW11 ⟨_,hg3,rfl,rfl⟩ rfl rfl rfl rfl ?_;refine sgt ⟨_,hg3,rfl,rfl⟩ rfl rfl rfl ?_;refine spf trivial rfl rfl rfl ?_;refine St.nil fun a126 h126=>?_;refine hK119 _ _ ?_;refine Qt (t:=113) h126 rfl (fun hb=>?_) (fun hb=>?_)
         ·have hc127:7<xk:=of_decide_eq_true hb
          clear hb;refine wp_seq_k fun K128 hK128=>?_;refine rg h126 fun ops=>?_;clear h126 a126;refine sa trivial rfl rfl ?_;refine St.nil fun a129 h129=>?_;refine hK128 _ _ ?_;refine wp_ret ?_;with_reducible repeat first | refine Qd ?_ | refine Qc ?_
          have e7:=QS hop hdd1.out hdd2.out hdd3.out hdd4.out hdd5.out hdd6.out hdd7.out (lm:=lm);have R:QM lm xop xa xb xc xk xn rl al=1:=by rw[e7];simp[hc81,hc102,hc114,hc118.out,hc125,hc127]
          exact Qp (t:=4) h129 rfl rfl ⟨by rw[R],hW11.bel⟩
         have hc130:¬ (7<xk):=of_decide_eq_false hb;clear hb;refine wp_skip ?_;refine hK82 _ _ ?_;refine wp_seq_k fun K131 hK131=>?_;refine rg h126 fun ops=>?_;clear h126 a126;refine sa trivial rfl rfl ?_;refine St.nil fun a132 h132=>?_;refine hK131 _ _ ?_;refine wp_ret ?_;with_reducible repeat first | refine Qd ?_ | refine Qc ?_
         have e7:=QS hop hdd1.out hdd2.out hdd3.out hdd4.out hdd5.out hdd6.out hdd7.out (lm:=lm);have R:QM lm xop xa xb xc xk xn rl al=0:=by rw[e7];simp[hc81,hc102,hc114,hc118.out,hc125,hc130]
         exact Qp (t:=4) h132 rfl rfl ⟨by rw[R],hW11.bel⟩
        rw[hb] at h117
        have h9:¬ xop=6:=ne_of_beq_false hb;have hc133:¬ xop=6:=h9;clear h9;clear hb;refine rg h117 fun ops=>?_;clear h117 a117;refine seq trivial rfl rfl rfl ?_;refine sa trivial rfl rfl ?_;refine St.nil fun a134 h134=>?_;refine hK115 _ _ ?_;refine Qt (t:=103) h134 rfl (fun hb=>?_) (fun hb=>?_)
        ·rw[hb] at h134
         have h9:xop=7:=eq_of_beq hb;have hc135:Hid (xop=7):=h9;clear h9;clear hb;refine wp_seq_k fun K136 hK136=>?_;refine Zh ?_;intro ops hops;have hg3:(ops[3]?).bind (fun o:Oper=>o.dst)=some 109:=hops 3;clear hops;refine St.go h134 ?_;clear h134 a134;refine QbN trivial rfl rfl ?_;refine Zw 1 hW11 trivial rfl rfl rfl rfl ?_;refine slt trivial rfl rfl rfl ?_;refine sm trivial rfl rfl ?_;intro a137 h137;rcases Bool.eq_false_or_eq_true (decide (xk<0)) with hb | hb
         ·rw[hb] at h137
          have hc138:xk<0:=of_decide_eq_true hb;clear hb;refine St.go h137 ?_;clear h137 a137;refine so hg3 rfl rfl rfl rfl ?_;refine so hg3 rfl rfl rfl rfl ?_;refine so hg3 rfl rfl rfl rfl ?_;refine sp trivial rfl rfl rfl ?_;refine St.nil fun a139 h139=>?_;refine hK136 _ _ ?_;refine Qaz (t:=113) h139 rfl ?_;refine wp_seq_k fun K140 hK140=>?_;refine rg h139 fun ops=>?_;clear h139 a139;refine sa trivial rfl rfl ?_;refine St.nil fun a141 h141=>?_;refine hK140 _ _ ?_;refine wp_ret ?_;with_reducible repeat first | refine Qd ?_ | refine Qc ?_
          have e7:=QS hop hdd1.out hdd2.out hdd3.out hdd4.out hdd5.out hdd6.out hdd7.out (lm:=lm);have R:QM lm xop xa xb xc xk xn rl al=1:=by rw[e7];simp[hc81,hc102,hc114,hc133,hc135.out,hc138]
          exact Qp (t:=4) h141 rfl rfl ⟨by rw[R],hW11.bel⟩
         rw[hb] at h137
         have hc142:¬ (xk<0):=of_decide_eq_false hb;clear hb;refine St.go h137 ?_;clear h137 a137;refine QbN ⟨_,hg3,rfl,rfl⟩ rfl rfl ?_;refine Zw 1 hW11 ⟨_,hg3,rfl,rfl⟩ rfl rfl rfl rfl ?_;refine sgt ⟨_,hg3,rfl,rfl⟩ rfl rfl rfl ?_;refine spf trivial rfl rfl rfl ?_;refine St.nil fun a143 h143=>?_;refine hK136 _ _ ?_;refine Qt (t:=113) h143 rfl (fun hb=>?_) (fun hb=>?_)
         ·have hc144:7<xk:=of_decide_eq_true hb
          clear hb;refine wp_seq_k fun K145 hK145=>?_;refine rg h143 fun ops=>?_;clear h143 a143;refine sa trivial rfl rfl ?_;refine St.nil fun a146 h146=>?_;refine hK145 _ _ ?_;refine wp_ret ?_;with_reducible repeat first | refine Qd ?_ | refine Qc ?_
          have e7:=QS hop hdd1.out hdd2.out hdd3.out hdd4.out hdd5.out hdd6.out hdd7.out (lm:=lm);have R:QM lm xop xa xb xc xk xn rl al=1:=by rw[e7];simp[hc81,hc102,hc114,hc133,hc135.out,hc142,hc144]
          exact Qp (t:=4) h146 rfl rfl ⟨by rw[R],hW11.bel⟩
         have hc147:¬ (7<xk):=of_decide_eq_false hb;clear hb;refine wp_skip ?_;refine hK82 _ _ ?_;refine wp_seq_k fun K148 hK148=>?_;refine rg h143 fun ops=>?_;clear h143 a143;refine sa trivial rfl rfl ?_;refine St.nil fun a149 h149=>?_;refine hK148 _ _ ?_;refine wp_ret ?_;with_reducible repeat first | refine Qd ?_ | refine Qc ?_
         have e7:=QS hop hdd1.out hdd2.out hdd3.out hdd4.out hdd5.out hdd6.out hdd7.out (lm:=lm);have R:QM lm xop xa xb xc xk xn rl al=0:=by rw[e7];simp[hc81,hc102,hc114,hc133,hc135.out,hc142,hc147]
         exact Qp (t:=4) h149 rfl rfl ⟨by rw[R],hW11.bel⟩
        rw[hb] at h134
        have h9:¬ xop=7:=ne_of_beq_false hb;have hc150:¬ xop=7:=h9;clear h9;clear hb;refine wp_seq_k fun K151 hK151=>?_;refine rg h134 fun ops=>?_;clear h134 a134;refine seq trivial rfl rfl rfl ?_;refine sa trivial rfl rfl ?_;refine St.nil fun a152 h152=>?_;refine hK151 _ _ ?_;refine Qt (t:=114) h152 rfl (fun hb=>?_) (fun hb=>?_)
        ·have h9:xop=14:=eq_of_beq hb
         have hc153:Hid (xop=14):=h9;clear h9;clear hb;refine wp_seq_k fun K154 hK154=>?_;refine wp_seq_k fun K155 hK155=>?_;refine Zh ?_;intro ops hops;have hg3:(ops[3]?).bind (fun o:Oper=>o.dst)=some 119:=hops 3;clear hops;refine St.go h152 ?_;clear h152 a152;refine QbN trivial rfl rfl ?_;refine Zw 1 hW11 trivial rfl rfl rfl rfl ?_;refine slt trivial rfl rfl rfl ?_;refine sm trivial rfl rfl ?_;intro a156 h156;rcases Bool.eq_false_or_eq_true (decide (xk<0)) with hb | hb
         ·rw[hb] at h156
          have hc157:xk<0:=of_decide_eq_true hb;clear hb;refine St.go h156 ?_;clear h156 a156;refine so hg3 rfl rfl rfl rfl ?_;refine so hg3 rfl rfl rfl rfl ?_;refine so hg3 rfl rfl rfl rfl ?_;refine so hg3 rfl rfl rfl rfl ?_;refine so hg3 rfl rfl rfl rfl ?_;refine so hg3 rfl rfl rfl rfl ?_;refine sp trivial rfl rfl rfl ?_;refine St.nil fun a158 h158=>?_;refine hK155 _ _ ?_;refine Qaz (t:=126) h158 rfl ?_;refine wp_seq_k fun K159 hK159=>?_;refine rg h158 fun ops=>?_;clear h158 a158;refine sa trivial rfl rfl ?_;refine St.nil fun a160 h160=>?_;refine hK159 _ _ ?_;refine wp_ret ?_;with_reducible repeat first | refine Qd ?_ | refine Qc ?_
          have e7:=QS hop hdd1.out hdd2.out hdd3.out hdd4.out hdd5.out hdd6.out hdd7.out (lm:=lm);have R:QM lm xop xa xb xc xk xn rl al=1:=by rw[e7];simp[hc81,hc102,hc114,hc133,hc150,hc153.out,hc157]
          exact Qp (t:=4) h160 rfl rfl ⟨by rw[R],hW11.bel⟩
         rw[hb] at h156
         have hc161:¬ (xk<0):=of_decide_eq_false hb;clear hb;refine St.go h156 ?_;clear h156 a156;refine QbN ⟨_,hg3,rfl,rfl⟩ rfl rfl ?_;refine Zw 1 hW11 ⟨_,hg3,rfl,rfl⟩ rfl rfl rfl rfl ?_;refine ZF ⟨_,hg3,rfl,rfl⟩ rfl rfl ?_;refine QcI 2 hW11 ⟨_,hg3,rfl,rfl⟩ rfl rfl rfl rfl ?_;refine Qbj ⟨_,hg3,rfl,rfl⟩ rfl rfl ?_;refine sge ⟨_,hg3,rfl,rfl⟩ rfl rfl rfl ?_;refine spf trivial rfl rfl rfl ?_;refine St.nil fun a162 h162=>?_;refine hK155 _ _ ?_;refine Qt (t:=126) h162 rfl (fun hb=>?_) (fun hb=>?_)
         ·have hc163:(lm:Int)≤xk:=of_decide_eq_true hb
          clear hb;refine wp_seq_k fun K164 hK164=>?_;refine rg h162 fun ops=>?_;clear h162 a162;refine sa trivial rfl rfl ?_;refine St.nil fun a165 h165=>?_;refine hK164 _ _ ?_;refine wp_ret ?_;with_reducible repeat first | refine Qd ?_ | refine Qc ?_
          have e7:=QS hop hdd1.out hdd2.out hdd3.out hdd4.out hdd5.out hdd6.out hdd7.out (lm:=lm);have R:QM lm xop xa xb xc xk xn rl al=1:=by rw[e7];simp[hc81,hc102,hc114,hc133,hc150,hc153.out,hc161,hc163]
          exact Qp (t:=4) h165 rfl rfl ⟨by rw[R],hW11.bel⟩
         have hc166:¬ ((lm:Int)≤xk):=of_decide_eq_false hb;clear hb;refine wp_skip ?_;refine hK154 _ _ ?_;refine wp_seq_k fun K167 hK167=>?_;refine Zh ?_;intro ops hops;have hg4:(ops[4]?).bind (fun o:Oper=>o.dst)=some 131:=hops 4;clear hops;refine St.go h162 ?_;clear h162 a162;refine QjN trivial rfl rfl ?_;refine Qep 1 hW11 trivial rfl rfl rfl rfl ?_;refine Qe2 trivial rfl rfl ?_;refine sgt trivial rfl rfl rfl ?_;refine sm trivial rfl rfl ?_;intro a168 h168;rcases Bool.eq_false_or_eq_true (decide (6<(rl:Int))) with hb | hb
         ·rw[hb] at h168
          have hc169:6<rl:=by have:=of_decide_eq_true hb;omega
          clear hb;refine St.go h168 ?_;clear h168 a168;refine so hg4 rfl rfl rfl rfl ?_;refine so hg4 rfl rfl rfl rfl ?_;refine so hg4 rfl rfl rfl rfl ?_;refine so hg4 rfl rfl rfl rfl ?_;refine sp trivial rfl rfl rfl ?_;refine St.nil fun a170 h170=>?_;refine hK167 _ _ ?_;refine Qaz (t:=136) h170 rfl ?_;refine wp_seq_k fun K171 hK171=>?_;refine rg h170 fun ops=>?_;clear h170 a170;refine sa trivial rfl rfl ?_;refine St.nil fun a172 h172=>?_;refine hK171 _ _ ?_;refine wp_ret ?_;with_reducible repeat first | refine Qd ?_ | refine Qc ?_
          have e7:=QS hop hdd1.out hdd2.out hdd3.out hdd4.out hdd5.out hdd6.out hdd7.out (lm:=lm);have R:QM lm xop xa xb xc xk xn rl al=2:=by rw[e7];simp[hc81,hc102,hc114,hc133,hc150,hc153.out,hc161,hc166,hc169]
          exact Qp (t:=4) h172 rfl rfl ⟨by rw[R],hW11.bel⟩
         rw[hb] at h168
         have hc173:¬ (6<rl):=by have:=of_decide_eq_false hb;omega
         clear hb;refine St.go h168 ?_;clear h168 a168;refine QeK ⟨_,hg4,rfl,rfl⟩ rfl rfl ?_;refine Qep 1 hW11 ⟨_,hg4,rfl,rfl⟩ rfl rfl rfl rfl ?_;refine Qe2 ⟨_,hg4,rfl,rfl⟩ rfl rfl ?_;refine sgt ⟨_,hg4,rfl,rfl⟩ rfl rfl rfl ?_;refine spf trivial rfl rfl rfl ?_;refine St.nil fun a174 h174=>?_;refine hK167 _ _ ?_;refine Qt (t:=136) h174 rfl (fun hb=>?_) (fun hb=>?_)
         ·have hc175:8<al:=by have:=of_decide_eq_true hb;omega
          clear hb;refine wp_seq_k fun K176 hK176=>?_;refine rg h174 fun ops=>?_;clear h174 a174;refine sa trivial rfl rfl ?_;refine St.nil fun a177 h177=>?_;refine hK176 _ _ ?_;refine wp_ret ?_;with_reducible repeat first | refine Qd ?_ | refine Qc ?_
          have e7:=QS hop hdd1.out hdd2.out hdd3.out hdd4.out hdd5.out hdd6.out hdd7.out (lm:=lm);have R:QM lm xop xa xb xc xk xn rl al=2:=by rw[e7];simp[hc81,hc102,hc114,hc133,hc150,hc153.out,hc161,hc166,hc173,hc175]
          exact Qp (t:=4) h177 rfl rfl ⟨by rw[R],hW11.bel⟩
         have hc178:¬ (8<al):=by have:=of_decide_eq_false hb;omega
         clear hb;refine wp_skip ?_;refine hK82 _ _ ?_;refine wp_seq_k fun K179 hK179=>?_;refine rg h174 fun ops=>?_;clear h174 a174;refine sa trivial rfl rfl ?_;refine St.nil fun a180 h180=>?_;refine hK179 _ _ ?_;refine wp_ret ?_;with_reducible repeat first | refine Qd ?_ | refine Qc ?_
         have e7:=QS hop hdd1.out hdd2.out hdd3.out hdd4.out hdd5.out hdd6.out hdd7.out (lm:=lm);have R:QM lm xop xa xb xc xk xn rl al=0:=by rw[e7];simp[hc81,hc102,hc114,hc133,hc150,hc153.out,hc161,hc166,hc173,hc178]
         exact Qp (t:=4) h180 rfl rfl ⟨by rw[R],hW11.bel⟩
        have h9:¬ xop=14:=ne_of_beq_false hb;have hc181:¬ xop=14:=h9;clear h9;clear hb;refine wp_skip ?_;refine hK82 _ _ ?_;refine wp_seq_k fun K182 hK182=>?_;refine rg h152 fun ops=>?_;clear h152 a152;refine sa trivial rfl rfl ?_;refine St.nil fun a183 h183=>?_;refine hK182 _ _ ?_;refine wp_ret ?_;with_reducible repeat first | refine Qd ?_ | refine Qc ?_
        have e7:=QS hop hdd1.out hdd2.out hdd3.out hdd4.out hdd5.out hdd6.out hdd7.out (lm:=lm);have R:QM lm xop xa xb xc xk xn rl al=0:=by rw[e7];simp[hc81,hc102,hc114,hc133,hc150,hc181]
        exact Qp (t:=4) h183 rfl rfl ⟨by rw[R],hW11.bel⟩
theorem Qk7 {xop:Int}(hop:Qv xop=none) (xa xb xc xk xn:Int) (am ra aa:Option Addr) (lm cm rl rc al ac:Nat) (w:World) :
 Rd Tryz.prog 80 #[.agg #[.slice am lm cm],.agg #[.int .i64 xop,.int .i64 xa,.int .i64 xb,.int .i64 xc,.int .i64 xk,.int .i64 xn,.slice ra rl rc,.slice aa al ac]] w (.int .i64 (QM lm xop xa xb xc xk xn rl al)):=by
 refine Qs (n:=137) Tryz.func80 rfl rfl rfl ?_;intro a hF;have hW:=Wd.start w;replace hF:Fr 137 a [(0,.agg #[.slice am lm cm]),(1,.agg #[.int .i64 xop,.int .i64 xa,.int .i64 xb,.int .i64 xc,.int .i64 xk,.int .i64 xn,.slice ra rl rc,.slice aa al ac])]:=hF;refine wp_seq_k fun K1 hK1=>?_;refine rg hF fun ops=>?_;clear hF a;refine sB hW trivial rfl rfl ?_;clear hW;intro w2 B2 hW2 hN;clear hN;refine sB hW2 trivial rfl rfl ?_;clear hW2;intro w3 B3 hW3 hN;clear hN;refine sa trivial rfl rfl ?_;refine St.nil fun a4 h4=>?_;refine hK1 _ _ ?_;refine wp_seq_k fun K5 hK5=>?_;refine rg h4 fun ops=>?_;clear h4 a4;refine Qig trivial rfl rfl ?_;refine Zw 0 hW3 trivial rfl rfl rfl rfl ?_;refine QjI cf118 hW3 (Qgx hop w3) trivial rfl rfl ?_;clear hW3;intro w6 hW6;refine sm trivial rfl rfl ?_;intro a7 h7;refine Q2 (t:=11) (v:=.agg #[.bool false,.bool false,.bool false,.bool false,.bool false,.bool false,.bool false]) (w':=w6) h7 rfl rfl rfl (fun K hK=>?_) ?_
 ·have k0:a7.tmps.getD 7 undef=.tuple #[.agg #[.bool false,.bool false,.bool false,.bool false,.bool false,.bool false,.bool false],.bool false]:=h7.sl 7 _ rfl
  go_simp;exact hK
 clear h7;intro a8 hF8;refine Q2 (t:=12) (v:=.bool false) (w':=w6) hF8 rfl rfl rfl (fun K hK=>?_) ?_
 ·have k0:a8.tmps.getD 7 undef=.tuple #[.agg #[.bool false,.bool false,.bool false,.bool false,.bool false,.bool false,.bool false],.bool false]:=hF8.sl 7 _ rfl
  go_simp;exact hK
 clear hF8;intro a9 hF9;refine St.go hF9 ?_;clear hF9 a9;refine Qgm hW6 trivial rfl ?_;clear hW6;intro w10 B10 hW10 hN;clear hN;refine sT 0 hW10 rfl rfl infFields rfl rfl rfl ?_;clear hW10;intro w11 hW11;refine sa trivial rfl rfl ?_;refine St.nil fun a12 h12=>?_;refine hK5 _ _ ?_;refine wp_seq_k fun K13 hK13=>?_;refine wp_seq_k fun K14 hK14=>?_;refine rg h12 fun ops=>?_;clear h12 a12;refine sm trivial rfl rfl ?_;refine sn trivial rfl rfl ?_;refine St.nil fun a15 h15=>?_;refine hK14 _ _ ?_;refine Qaz (t:=14) h15 rfl ?_;refine wp_seq_k fun K16 hK16=>?_;refine rg h15 fun ops=>?_;clear h15 a15;refine sa trivial rfl rfl ?_;refine St.nil fun a17 h17=>?_;refine hK16 _ _ ?_;refine wp_ret ?_;with_reducible repeat first | refine Qd ?_ | refine Qc ?_
 have R:QM lm xop xa xb xc xk xn rl al=3:=by simp[QM,hop]
 exact Qp (t:=4) h17 rfl rfl ⟨by rw[R],hW11.bel⟩
theorem Qfh (funcs:Nat) (x:Qx) (i:IP) (am:Option Addr) (cm:Nat) (w:World) :
 Rd Tryz.prog 80 #[.agg #[.slice am funcs cm],.agg #[.int .i64 x.op,.int .i64 x.a,.int .i64 x.b,.int .i64 x.c,.int .i64 x.k,.int .i64 x.n,.slice i.pR x.regs.length i.cR,.slice i.pA x.args.length i.cA]] w (.int .i64 (x.form funcs)):=by
 rw[Qx.form_eq]
 cases h:Qv x.op with
 | none=>exact Qk7 h _ _ _ _ _ _ _ _ _ _ _ _ _ _ _
 | some p=>obtain⟨a,b,c,k,n,r,s⟩:=p;exact QjA h _ _ _ _ _ _ _ _ _ _ _ _ _ _ _
theorem KTo.same {w wc:World}{b:Nat}{O:Nat→Prop}{s:JSt}(h:KAt wc b O s) (hb:Below w.heap.size w wc) (hO:∀ k,O k→k<w.heap.size):KTo w wc b O s :=
 ⟨O,h,⟨hb.os,hb.tape,hb.output,hb.size,fun k hk _=>hb.block k hk,fun k hk=>.inl hk⟩,fun k hk=>Nat.lt_of_lt_of_le (hO k hk) hb.size⟩
theorem KTo.after {w wA wc:World}{b:Nat}{O:Nat→Prop}{s:JSt}(h:KTo wA wc b O s) (hb:Below w.heap.size w wA):KTo w wc b O s:=by
 obtain⟨O',h1,h2,h3⟩:=h
 exact⟨O',h1,⟨h2.os.trans hb.os,h2.tape.trans hb.tape,h2.output.trans hb.output,Nat.le_trans hb.size h2.size,fun k hk hn=>(h2.block k (Nat.lt_of_lt_of_le hk hb.size) hn).trans (hb.block k hk),fun k hk=>(h2.own k hk).imp id fun e=>Nat.le_trans hb.size e⟩,h3⟩
theorem KTo.then {w wA wc:World}{b:Nat}{O O1:Nat→Prop}{s:JSt}(h:KTo wA wc b O1 s) (h1:Zj O O1 w wA) (hO:∀ k,O k→k<w.heap.size):KTo w wc b O s:=by
 obtain⟨O',k1,k2,k3⟩:=h
 refine⟨O',k1,⟨k2.os.trans h1.os,k2.tape.trans h1.tape,k2.output.trans h1.output,Nat.le_trans h1.size k2.size,fun k hk hn=>(k2.block k (Nat.lt_of_lt_of_le hk h1.size) (fun e=>?_)).trans (h1.block k hk hn),fun k hk=>?_⟩,k3⟩
 ·rcases h1.own k e with e | e
  ·exact hn e
  ·omega
 ·rcases k2.own k hk with e | e
  ·exact h1.own k e
  ·exact .inr (Nat.le_trans h1.size e)
structure InS (w wc:World) (b X:Nat) (O Q:Nat→Prop) (s:JSt) (x:Qx) (rg ag:Option Addr) (rc ac:Nat):Prop where
 known:KAt wc b O s
 box:wc.heap[X]?=some (.cells #[.int .i64 x.op,.int .i64 x.a,.int .i64 x.b,.int .i64 x.c,.int .i64 x.k,.int .i64 x.n,.slice rg x.regs.length rc,.slice ag x.args.length ac] 46 (0,0))
 regs:intsL.In wc Q x.regs [.slice rg x.regs.length rc]
 args:intsL.In wc Q x.args [.slice ag x.args.length ac]
 bel:Below w.heap.size w wc
 own:∀ k,O k→k<w.heap.size
 far:w.heap.size≤X
theorem InS.below {w wc:World}{b X:Nat}{O Q:Nat→Prop}{s:JSt}{x:Qx}{rg ag:Option Addr}{rc ac:Nat}{w9:World}(h:InS w wc b X O Q s x rg ag rc ac) (k:Below wc.heap.size wc w9):InS w w9 b X O Q s x rg ag rc ac :=
 ⟨h.known.below k,(k.block X (lt_of_block h.box)).trans h.box,Lay.below h.regs k,Lay.below h.args k,h.bel.trans (k.mono h.bel.size),h.own,h.far⟩
theorem InS.lt {w wc:World}{b X:Nat}{O Q:Nat→Prop}{s:JSt}{x:Qx}{rg ag:Option Addr}{rc ac:Nat}(h:InS w wc b X O Q s x rg ag rc ac):∀ k,O k→k<wc.heap.size:=fun k hk=>Nat.lt_of_lt_of_le (h.own k hk) h.bel.size
theorem InS.cells {w wc:World}{b X:Nat}{O Q:Nat→Prop}{s:JSt}{x:Qx}{rg ag:Option Addr}{rc ac:Nat}(h:InS w wc b X O Q s x rg ag rc ac):wc.cell? ⟨X,0,none⟩=some (.int .i64 x.op)∧wc.cell? ⟨X,1,none⟩=some (.int .i64 x.a)∧wc.cell? ⟨X,2,none⟩=some (.int .i64 x.b)∧wc.cell? ⟨X,3,none⟩=some (.int .i64 x.c)∧wc.cell? ⟨X,4,none⟩=some (.int .i64 x.k)∧wc.cell? ⟨X,5,none⟩=some (.int .i64 x.n)∧wc.cell? ⟨X,6,none⟩=some (.slice rg x.regs.length rc)∧wc.cell? ⟨X,7,none⟩=some (.slice ag x.args.length ac) :=
 ⟨Qb h.box 0 _ rfl,Qb h.box 1 _ rfl,Qb h.box 2 _ rfl,Qb h.box 3 _ rfl,Qb h.box 4 _ rfl,Qb h.box 5 _ rfl,Qb h.box 6 _ rfl,Qb h.box 7 _ rfl⟩
theorem KAt.same6 {w:World}{b:Nat}{O:Nat→Prop}{s:JSt}{v:Value}(h:KAt w b O s) (hv:w.cell? ⟨b,6,none⟩=some v) (k:Nat):(w.setCell ⟨b,6,none⟩ v).heap[k]?=w.heap[k]?:=by
 obtain⟨pm,cm,a1,c1,a2,c2,a3,c3,h,vL,k1,-⟩:=h
 have e:=(Qb k1 6 _ rfl).symm.trans hv;simp only[Option.some.injEq] at e
 by_cases hk:k=b
 ·subst hk;rw[Qk k1,k1,← e];rfl
 ·exact Below.heap_setCell _ _ _ _ hk
theorem kUnderI:∃ fs,Tryz.prog.underlying 46=some (.struct fs):=⟨_,Tryz.underlying46⟩
def Qle (X Z N c g o nc cc q:Nat) (p:Option Addr) (z:Qx) (i3:IP) (t:Tmp) (v:Value) (w:World):Prop :=
 v=(([(3,.pointer (some ⟨X,0,none⟩)),(8,.pointer (some ⟨Z,0,none⟩)),(10,.int .i64 (q:Int)),(85,.agg #[.slice p N c]),(86,.pointer (some ⟨Z,2,none⟩)),(87,.slice (some ⟨g,o,none⟩) nc cc),(88,.int .i64 (q:Int)),(89,.pointer (some ⟨g,o+q*8,none⟩)),(90,.agg #[.int .i64 z.op,.int .i64 z.a,.int .i64 z.b,.int .i64 z.c,.int .i64 z.k,.int .i64 z.n,.slice i3.pR z.regs.length i3.cR,.slice i3.pA z.args.length i3.cA]),(91,.int .i64 (z.form N)),(11,.int .i64 (z.form N))]:List (Tmp × Value)).lookup t).getD undef
theorem QlM {w6:World}{X Z N c g o nc cc q:Nat}{p:Option Addr}{z:Qx}{i3:IP}(HR:Hid (w6.rangeAt g (o+q*8) [.int .i64 z.op,.int .i64 z.a,.int .i64 z.b,.int .i64 z.c,.int .i64 z.k,.int .i64 z.n,.slice i3.pR z.regs.length i3.cR,.slice i3.pA z.args.length i3.cA])) (q0:w6.cell? ⟨X,0,none⟩=some (.slice p N c)) (q2:w6.cell? ⟨Z,2,none⟩=some (.slice (some ⟨g,o,none⟩) nc cc)) (hq:(q:Int)<nc)
 (a:Act) (m:Nat) (hn:a.tmps.size=m) (hn':112≤m) (h3:a.tmps.getD 3 undef=.pointer (some ⟨X,0,none⟩)) (h8:a.tmps.getD 8 undef=.pointer (some ⟨Z,0,none⟩)) (h10:a.tmps.getD 10 undef=.int .i64 (q:Int)) :
 Code.wp Tryz.prog ((Tryz.f50.body.bind (QF 15)).getD .skip) (fun e a' w'=>e=.normal∧∃ vs,a'=Z3 a vs [85,86,87,88,89,90,91,11]∧vs 11=.int .i64 (z.form N)∧Below w6.heap.size w6 w') a w6:=by
 conv=>arg 2;whnf
 refine Zs (Qle X Z N c g o nc cc q p z i3) (fun w=>Below w6.heap.size w6 w) (fun w w'=>Below w.heap.size w w') (outs:=[3,8,10]) (gs:=[]) (bs:=[true,true,true,true,true,true,true,true]) (by kernel_rfl) (n:=112) hn hn' (by kernel_rfl) ?hR ?hG (QkD (Below.refl _ _) 1) ⟨h3,h8,h10,trivial⟩ ?hA ?hend
 case hR=>exact fun t v w w' _ h=>h
 case hG=>exact trivial
 case hend=>exact fun vs w' hW hk=>⟨rfl,vs,rfl,hk 11 (by kernel_rfl),hW⟩
 case hA =>
  refine⟨fun a w hW hk K hK=>?_,?_⟩
  ·obtain⟨k0,-⟩:=hk
   have k0:a.tmps.getD 3 undef=.pointer (some ⟨X,0,none⟩):=k0;have c0:=QY q0 hW;go_simp;exact hK _ _ (Below.refl _ _) hW rfl
  refine⟨fun a w hW hk K hK=>?_,?_⟩
  ·obtain⟨k0,-⟩:=hk
   have k0:a.tmps.getD 8 undef=.pointer (some ⟨Z,0,none⟩):=k0;go_simp;exact hK _ _ (Below.refl _ _) hW rfl
  refine⟨fun a w hW hk K hK=>?_,?_⟩
  ·obtain⟨k0,-⟩:=hk
   have k0:a.tmps.getD 86 undef=.pointer (some ⟨Z,2,none⟩):=k0;have c0:=QY q2 hW;go_simp;exact hK _ _ (Below.refl _ _) hW rfl
  refine⟨fun a w hW hk K hK=>?_,?_⟩
  ·obtain⟨k0,-⟩:=hk
   have k0:a.tmps.getD 10 undef=.int .i64 (q:Int):=k0;go_simp;exact hK _ _ (Below.refl _ _) hW rfl
  refine⟨fun a w hW hk K hK=>?_,?_⟩
  ·obtain⟨k0,k1,-⟩:=hk
   have k0:a.tmps.getD 87 undef=.slice (some ⟨g,o,none⟩) nc cc:=k0;have k1:a.tmps.getD 88 undef=.int .i64 (q:Int):=k1;go_simp;exact hK _ _ (Below.refl _ _) hW rfl
  refine⟨fun a w hW hk K hK=>?_,?_⟩
  ·obtain⟨k0,-⟩:=hk
   have k0:a.tmps.getD 89 undef=.pointer (some ⟨g,o+q*8,none⟩):=k0;obtain⟨fs,hfs⟩:=kUnderI
   refine wp_load_mid 46 (.tmp 89) rfl g (o+q*8) k0 [.int .i64 z.op,.int .i64 z.a,.int .i64 z.b,.int .i64 z.c,.int .i64 z.k,.int .i64 z.n,.slice i3.pR z.regs.length i3.cR,.slice i3.pA z.args.length i3.cA] _ (fun j v hj=>QY (HR.out j v hj) hW) hfs rfl pSizeN ?_;exact hK _ _ (Below.refl _ _) hW rfl
  refine⟨fun a w hW hk K hK=>?_,?_⟩
  ·obtain⟨k0,k1,-⟩:=hk
   have k0:a.tmps.getD 85 undef=.agg #[.slice p N c]:=k0;have k1:a.tmps.getD 90 undef=.agg #[.int .i64 z.op,.int .i64 z.a,.int .i64 z.b,.int .i64 z.c,.int .i64 z.k,.int .i64 z.n,.slice i3.pR z.regs.length i3.cR,.slice i3.pA z.args.length i3.cA]:=k1;go_simp;refine Calls.mono (Qfh N z i3 p c w) ?_;rintro r7 w7 ⟨rfl,b7⟩;go_simp;exact hK _ _ b7 (hW.trans (b7.mono hW.size)) rfl
  refine⟨fun a w hW hk K hK=>?_,?_⟩
  ·obtain⟨k0,-⟩:=hk
   have k0:a.tmps.getD 91 undef=.int .i64 (z.form N):=k0;go_simp;exact hK _ _ (Below.refl _ _) hW rfl
  trivial
theorem Qc8 {n:Nat}{m:List (Qf n)}{p:Option Addr}{c fi bi:Nat}{x:Qf n}{y:Qe n}{w:World}(hm0:(Qa5 n).In w All m [.slice p m.length c]) (hs0:Qa9 m) (hx1:m[fi]?=some x) (hx2:x.blocks[bi]?=some y) :
 Rd Tryz.prog 50 #[.agg #[.slice p m.length c],.int .i64 (fi:Int),.int .i64 (bi:Int)] w (QD (Qe.fault m.length fi x bi y)):=by
 have h1:fi<m.length:=(List.getElem?_eq_some_iff.1 hx1).1;have h2:bi<x.blocks.length:=(List.getElem?_eq_some_iff.1 hx2).1;have hml:=hs0.1;have hsx:=hs0.2 x (List.mem_of_getElem? hx1);have hxl:=hsx.1;have hsy:=hsx.2.2.2 y (List.mem_of_getElem? hx2);have hyl:=hsy.1;have HSY:=QC hsy;obtain⟨g1,o1,⟨fp,fc,fr,fd,fb,fe⟩,rfl,E1,In1⟩:=Qbk hm0 hx1
 obtain⟨g2,o2,b2,e2,E2,In2⟩:=Qbr In1.blocks hx2
 dsimp only at E1 e2
 subst e2;have HE1:=QC E1;have HI1:=QC In1;have HE2:=QC E2;have HI2:=QC In2;have S:=QC (FbS.start w #[.slice (some ⟨g1,o1,none⟩) m.length c] 24);have hfi:(fi:Int)<m.length:=by omega
 have hbi:(bi:Int)<x.blocks.length:=by omega
 have hp:fi<1000000∧bi<1000000:=by omega
 have HP:=QC hp;clear hm0 hs0 hx1 hx2 E1 In1 E2 In2 hsx hsy h1 h2 hp;unfold Rd;go_enter Tryz.func50,Tryz.ntmps50
 go_upto_region 1 with fail
 generalize (w.alloc (.cells #[.slice (some ⟨g1,o1,none⟩) m.length c] 24)).alloc (.cells #[.int .i64 0,.int .i64 0] 30)=w1 at S ⊢;generalize w.heap.size+1=R at S ⊢;generalize hX:w.heap.size=X at S ⊢;have x0:=Qb (S.out.box 0 _ rfl) 0 _ rfl;have R1:=QC (fun j v hj=>QY (HE1.out j v hj) (hX ▸ S.out.bel):w1.rangeAt g1 (o1+fi*4) [.int .i64 x.regs,.slice fp x.params.length fc,.slice fr x.results.length fd,.slice (some ⟨g2,o2,none⟩) x.blocks.length fe]);have v0:w1.cell? ⟨g1,o1+fi*4,none⟩=some (.int .i64 x.regs):=R1.out 0 _ rfl;have v1:=R1.out 1 _ rfl;have v2:=R1.out 2 _ rfl;have v3:=R1.out 3 _ rfl;have S:=QC (S.out.new #[.int .i64 x.regs,.slice fp x.params.length fc,.slice fr x.results.length fd,.slice (some ⟨g2,o2,none⟩) x.blocks.length fe] 40);go_upto_region 2 with fail
 generalize hw2:w1.alloc (.cells #[.int .i64 x.regs,.slice fp x.params.length fc,.slice fr x.results.length fd,.slice (some ⟨g2,o2,none⟩) x.blocks.length fe] 40)=w2 at S ⊢;generalize w1.heap.size=Y at S ⊢;clear hw2 x0 v0 v1 v2 v3 R1;have y3:=Qb (S.out.box 0 _ rfl) 3 _ rfl;generalize hcs:([.int .i64 y.regs,.slice b2.pP y.params.length b2.cP,.slice b2.pC y.code.length b2.cC,.int .i64 y.fin.op,.int .i64 y.fin.a,.int .i64 y.fin.yes.block,.slice b2.e.pYR y.fin.yes.regs.length b2.e.cYR,.slice b2.e.pYA y.fin.yes.args.length b2.e.cYA,.int .i64 y.fin.no.block,.slice b2.e.pNR y.fin.no.regs.length b2.e.cNR,.slice b2.e.pNA y.fin.no.args.length b2.e.cNA,.slice b2.e.pA y.fin.args.length b2.e.cA]:List Value)=cs at HE2;have hl:cs.length=12:=by rw[← hcs];rfl
 have MB:=QC (Qlc.of w2 hl);have TO:Hid (cs.toArray.all (·.oneCell')=true):=by show _=_;rw[← hcs];exact all_oneCell_toArray (List.all_eq_true.1 rfl)
 have RG:Hid (w2.rangeAt g2 (o2+bi*12) cs):=fun j v hj=>QY (HE2.out j v hj) (hX ▸ S.out.bel);go_upto_region 3 with (first | (refine wpList_load_mid rfl 60 (.tmp 21) rfl g2 (o2+bi*12) rfl cs _ RG.out Tryz.underlying60 rfl MB.out.size ?_) | (refine wpList_store_mid rfl 60 (.tmp 8) (.tmp 22) rfl w2.heap.size 0 cs.toArray rfl rfl MB.out.there MB.out.size2 TO.out ?_))
 have S3:=QC ((S.out.below MB.out.bel).add MB.out.blk);clear S y3 RG TO hl;generalize (w2.alloc (.cells #[.int .i64 0,.slice none 0 0,.slice none 0 0,.int .i64 0,.int .i64 0,.int .i64 0,.slice none 0 0,.slice none 0 0,.int .i64 0,.slice none 0 0,.slice none 0 0,.slice none 0 0] 60)).setCells w2.heap.size 0 cs=w3 at S3 ⊢;generalize w2.heap.size=Z at S3 ⊢;subst hcs;simp only[Act.put]
 have HX:Hid (w.heap.size=X):=hX;clear hX HE1 HE2 MB;generalize hL:([(Z,#[.int .i64 y.regs,.slice b2.pP y.params.length b2.cP,.slice b2.pC y.code.length b2.cC,.int .i64 y.fin.op,.int .i64 y.fin.a,.int .i64 y.fin.yes.block,.slice b2.e.pYR y.fin.yes.regs.length b2.e.cYR,.slice b2.e.pYA y.fin.yes.args.length b2.e.cYA,.int .i64 y.fin.no.block,.slice b2.e.pNR y.fin.no.regs.length b2.e.cNR,.slice b2.e.pNA y.fin.no.args.length b2.e.cNA,.slice b2.e.pA y.fin.args.length b2.e.cA],60),(Y,#[.int .i64 x.regs,.slice fp x.params.length fc,.slice fr x.results.length fd,.slice (some ⟨g2,o2,none⟩) x.blocks.length fe],40),(X,#[.slice (some ⟨g1,o1,none⟩) m.length c],24)]:List (Nat × Array Value × TypeId))=L at S3;have BX:Hid (∀ wx,FbS w wx R L→Blk wx Z #[.int .i64 y.regs,.slice b2.pP y.params.length b2.cP,.slice b2.pC y.code.length b2.cC,.int .i64 y.fin.op,.int .i64 y.fin.a,.int .i64 y.fin.yes.block,.slice b2.e.pYR y.fin.yes.regs.length b2.e.cYR,.slice b2.e.pYA y.fin.yes.args.length b2.e.cYA,.int .i64 y.fin.no.block,.slice b2.e.pNR y.fin.no.regs.length b2.e.cNR,.slice b2.e.pNA y.fin.no.args.length b2.e.cNA,.slice b2.e.pA y.fin.args.length b2.e.cA] 60∧Blk wx Y #[.int .i64 x.regs,.slice fp x.params.length fc,.slice fr x.results.length fd,.slice (some ⟨g2,o2,none⟩) x.blocks.length fe] 40∧Blk wx X #[.slice (some ⟨g1,o1,none⟩) m.length c] 24):=by subst hL;exact fun wx h=>⟨h.box 0 _ rfl,h.box 1 _ rfl,h.box 2 _ rfl⟩
 clear hL;have q0:=Qb (BX.out _ S3.out).1 0 _ rfl;have q1:=Qb (BX.out _ S3.out).2.1 0 _ rfl;go_cut [32] (fun v wx=>v=.bool (decide (y.regs<x.regs∨16<y.regs))∧FbS w wx R L)
 case first =>
  by_cases h:y.regs<x.regs
  ·have d1:decide (y.regs<x.regs)=true:=decide_eq_true h;have E:decide (y.regs<x.regs∨16<y.regs)=true:=decide_eq_true (.inl h);go_wp2
   go_meet;exact⟨by rw[E],S3.out⟩
  ·have d1:decide (y.regs<x.regs)=false:=decide_eq_false h;have E:decide (y.regs<x.regs∨16<y.regs)=decide (y.regs>16):=by rw[decide_eq_decide];omega
   go_wp2
   all_goals
    go_meet;exact⟨by rw[E],S3.out⟩
 case rest =>
  obtain⟨rfl,hc4⟩:=hcut
  have S4:=QC hc4;clear hc4 S3 q0 q1;by_cases c1:y.regs<x.regs∨16<y.regs
  ·rw[decide_eq_true c1]
   have E:Qe.fault m.length fi x bi y=(1,10000*(fi:Int)+100*(bi:Int)+90):=if_pos c1;go_wp2_with fail
   refine Calls.mono (ZT HP.out) ?_;rintro _ ua0 ⟨rfl,bb⟩;have S4:=QC (S4.out.below bb);clear bb;go_wp2_with fail
   refine Calls.mono (QaG) ?_;rintro _ ua1 ⟨rfl,bb⟩;have S4:=QC (S4.out.below bb);clear bb;try simp only[QD]
   obtain⟨r0,r1,z0,z1⟩:=S4.out.cells
   have D:=QC (S4.out.fin (1) (10000*(fi:Int)+100*(bi:Int)+90));go_wp2_with fail
   generalize World.setCell _ _ _=w99 at D ⊢;exact bodyPost_ret (v:=.agg #[.int .i64 (1),.int .i64 (10000*(fi:Int)+100*(bi:Int)+90)]) (by simp[results,Tryz.results50,go_sem,Qb D.out.1 0 _ rfl,Qb D.out.1 1 _ rfl]) rfl ⟨by first | rfl | rw[E],D.out.2⟩
  rw[decide_eq_false c1]
  have q0:=Qb (BX.out _ S4.out).1 0 _ rfl;have q1:=Qb (BX.out _ S4.out).1 1 _ rfl;have CL:=QC (QaI (regs:=y.regs) (Lay.below HI2.out.params S4.out.bel) HSY.out.2.1);unfold Rd at CL;go_wp2_with fail
  refine CL.out.mono ?_;rintro _ w5 ⟨rfl,b5⟩;have S5:=QC (S4.out.below b5);clear b5 CL q0 q1 S4;generalize hlc:listC y.regs y.params=lc;by_cases c2:lc=0
  rotate_left
  ·have d:(lc != 0)=true:=by simpa using c2
   have E:Qe.fault m.length fi x bi y=(lc,10000*(fi:Int)+100*(bi:Int)+90):=by unfold Qe.fault;rw[if_neg c1,hlc,if_pos c2]
   go_wp2_with fail
   refine Calls.mono (ZT HP.out) ?_;rintro _ ua0 ⟨rfl,bb⟩;have S5:=QC (S5.out.below bb);clear bb;go_wp2_with fail
   refine Calls.mono (QaG) ?_;rintro _ ua1 ⟨rfl,bb⟩;have S5:=QC (S5.out.below bb);clear bb;try simp only[QD]
   obtain⟨r0,r1,z0,z1⟩:=S5.out.cells
   have D:=QC (S5.out.fin (lc) (10000*(fi:Int)+100*(bi:Int)+90));go_wp2_with fail
   generalize World.setCell _ _ _=w99 at D ⊢;exact bodyPost_ret (v:=.agg #[.int .i64 (lc),.int .i64 (10000*(fi:Int)+100*(bi:Int)+90)]) (by simp[results,Tryz.results50,go_sem,Qb D.out.1 0 _ rfl,Qb D.out.1 1 _ rfl]) rfl ⟨by first | rfl | rw[E],D.out.2⟩
  subst c2;go_upto_region 8 with fail
  have q0:=Qb (BX.out _ S5.out).1 0 _ rfl;have q1:=Qb (BX.out _ S5.out).2.1 0 _ rfl;have q2:=Qb (BX.out _ S5.out).1 1 _ rfl;have q3:=Qb (BX.out _ S5.out).2.1 1 _ rfl;go_cut [65] (fun v wx=>v=.bool (decide (bi=0∧(y.regs≠x.regs∨Qa6 y.params x.params=false)))∧FbS w wx R L)
  case first =>
   by_cases h0:bi=0
   ·have d0:((bi:Int)==0)=true:=by simpa using h0
    by_cases hr:y.regs=x.regs
    ·have d1:(y.regs != x.regs)=false:=by simpa using hr
     have CS:=QC (QdX (Lay.below HI2.out.params S5.out.bel) (Lay.below HI1.out.params S5.out.bel) HSY.out.2.1);unfold Rd at CS
     have E:decide (bi=0∧(y.regs≠x.regs∨Qa6 y.params x.params=false))=!bdec (y.params=x.params):=by
      by_cases hp:y.params=x.params
      ·rw[QE hp];simp[hr,QbF.2 hp]
      ·rw[QB hp]
       have:Qa6 y.params x.params=false:=by cases h9:Qa6 y.params x.params;rfl;exact absurd (QbF.1 h9) hp
       simp[h0,this]
     generalize bdec (y.params=x.params)=bp at CS E;clear h0 hr;go_wp2_with fail
     refine CS.out.mono ?_;rintro _ w6 ⟨rfl,b6⟩;have S6:=QC (S5.out.below b6);clear b6 CS q0 q1 q2 q3;go_wp2
     all_goals
      go_meet;exact⟨by rw[E],S6.out⟩
    ·have d1:(y.regs != x.regs)=true:=by simpa using hr
     have E:decide (bi=0∧(y.regs≠x.regs∨Qa6 y.params x.params=false))=true:=decide_eq_true ⟨h0,.inl hr⟩;clear h0 hr;go_wp2
     go_meet;exact⟨by rw[E],S5.out⟩
   ·have d0:((bi:Int)==0)=false:=by simpa using h0
    have E:decide (bi=0∧(y.regs≠x.regs∨Qa6 y.params x.params=false))=false:=decide_eq_false (fun h=>h0 h.1);clear h0;go_wp2
    go_meet;exact⟨by rw[E],S5.out⟩
  case rest =>
   obtain⟨rfl,hc6⟩:=hcut
   have S6:=QC hc6;clear hc6 S5 q0 q1 q2 q3;by_cases c3:bi=0∧(y.regs≠x.regs∨Qa6 y.params x.params=false)
   ·rw[decide_eq_true c3]
    have E:Qe.fault m.length fi x bi y=(9,10000*(fi:Int)+100*(bi:Int)+90):=by unfold Qe.fault;rw[if_neg c1,hlc,if_neg (by simp),if_pos c3]
    clear c3;go_wp2_with fail
    refine Calls.mono (ZT HP.out) ?_;rintro _ ua0 ⟨rfl,bb⟩;have S6:=QC (S6.out.below bb);clear bb;go_wp2_with fail
    refine Calls.mono (QaG) ?_;rintro _ ua1 ⟨rfl,bb⟩;have S6:=QC (S6.out.below bb);clear bb;try simp only[QD]
    obtain⟨r0,r1,z0,z1⟩:=S6.out.cells
    have D:=QC (S6.out.fin (9) (10000*(fi:Int)+100*(bi:Int)+90));go_wp2_with fail
    generalize World.setCell _ _ _=w99 at D ⊢;exact bodyPost_ret (v:=.agg #[.int .i64 (9),.int .i64 (10000*(fi:Int)+100*(bi:Int)+90)]) (by simp[results,Tryz.results50,go_sem,Qb D.out.1 0 _ rfl,Qb D.out.1 1 _ rfl]) rfl ⟨by first | rfl | rw[E],D.out.2⟩
   rw[decide_eq_false c3]
   have q2:=Qb (BX.out _ S6.out).1 2 _ rfl;by_cases c4:40<y.code.length
   ·have d:(40:Int)<y.code.length:=by omega
    have E:Qe.fault m.length fi x bi y=(2,10000*(fi:Int)+100*(bi:Int)+90):=by unfold Qe.fault;rw[if_neg c1,hlc,if_neg (by simp),if_neg c3,if_pos c4]
    go_wp2_with fail
    refine Calls.mono (ZT HP.out) ?_;rintro _ ua0 ⟨rfl,bb⟩;have S6:=QC (S6.out.below bb);clear bb;go_wp2_with fail
    refine Calls.mono (QaG) ?_;rintro _ ua1 ⟨rfl,bb⟩;have S6:=QC (S6.out.below bb);clear bb;try simp only[QD]
    obtain⟨r0,r1,z0,z1⟩:=S6.out.cells
    have D:=QC (S6.out.fin (2) (10000*(fi:Int)+100*(bi:Int)+90));go_wp2_with fail
    generalize World.setCell _ _ _=w99 at D ⊢;exact bodyPost_ret (v:=.agg #[.int .i64 (2),.int .i64 (10000*(fi:Int)+100*(bi:Int)+90)]) (by simp[results,Tryz.results50,go_sem,Qb D.out.1 0 _ rfl,Qb D.out.1 1 _ rfl]) rfl ⟨by first | rfl | rw[E],D.out.2⟩
   have d:¬ (40:Int)<y.code.length:=by omega
   go_wp2_with fail
   clear q2;go_loopw [10] (fun i wr=>∃ q:Nat,q≤y.code.length∧i=.int .i64 q∧FbS w wr R L∧∀ (j:Nat) z,j<q→y.code[j]?=some z→Qx.form m.length z=0) (fun i _=>y.code.length - (intOf i).toNat)
   case atStart=>exact⟨0,Nat.zero_le _,rfl,S6.out,fun j z hj=>absurd hj (Nat.not_lt_zero _)⟩
   case round =>
    obtain⟨q,hq,rfl,hs,hall⟩:=hrel
    have SR:=QC hs;have HAQ:=QC hall;clear hs hall S6;have q2:=Qb (BX.out _ SR.out).1 2 _ rfl;by_cases hqt:q<y.code.length
    rotate_left
    ·have hqt':¬ (q:Int)<y.code.length:=by omega
     have E0:Hid (Qe.fault m.length fi x bi y=if MEnd.form x.blocks.length y.fin≠0 then (MEnd.form x.blocks.length y.fin,10000*(fi:Int)+100*(bi:Int)+91) else (0,0)):=by
      show _=_;unfold Qe.fault;rw[if_neg c1,hlc,if_neg (by simp),if_neg c3,if_neg c4,Qy (fun k z hk=>HAQ.out k z (by have:=(List.getElem?_eq_some_iff.1 hk).1;omega) hk),if_neg (by simp)]
     have RE:Hid (wr.rangeAt Z 3 [.int .i64 y.fin.op,.int .i64 y.fin.a,.int .i64 y.fin.yes.block,.slice b2.e.pYR y.fin.yes.regs.length b2.e.cYR,.slice b2.e.pYA y.fin.yes.args.length b2.e.cYA,.int .i64 y.fin.no.block,.slice b2.e.pNR y.fin.no.regs.length b2.e.cNR,.slice b2.e.pNA y.fin.no.args.length b2.e.cNA,.slice b2.e.pA y.fin.args.length b2.e.cA]):=fun j v hj=>Qb (BX.out _ SR.out).1 (3+j) v (by rw[← Array.getElem?_toList,Nat.add_comm];exact hj);have y0:=Qb (BX.out _ SR.out).2.1 0 _ rfl;have y1:=Qb (BX.out _ SR.out).2.1 1 _ rfl;have y2:=Qb (BX.out _ SR.out).2.1 2 _ rfl;have y3:=Qb (BX.out _ SR.out).2.1 3 _ rfl;have CE:=QC (Qfi (x:=y.fin) (e:=b2.e) (fr:=x.regs) (fp:=fp) (fq:=fr) (fb:=some ⟨g2,o2,none⟩) (fl:=x.params.length) (fc:=fc) (fm:=x.results.length) (fd:=fd) (bl:=x.blocks.length) (fe:=fe) (w:=wr) (by have h9:=HSY.out.2.2.1;have:=h9.1;have:=h9.2.1;unfold MTo.small at *;omega) (by omega));unfold Rd at CE;generalize MEnd.form x.blocks.length y.fin=ef at CE E0;go_wp2_with (refine wpList_load_mid rfl 58 (.tmp 101) rfl Z 3 rfl [.int .i64 y.fin.op,.int .i64 y.fin.a,.int .i64 y.fin.yes.block,.slice b2.e.pYR y.fin.yes.regs.length b2.e.cYR,.slice b2.e.pYA y.fin.yes.args.length b2.e.cYA,.int .i64 y.fin.no.block,.slice b2.e.pNR y.fin.no.regs.length b2.e.cNR,.slice b2.e.pNA y.fin.no.args.length b2.e.cNA,.slice b2.e.pA y.fin.args.length b2.e.cA] _ RE.out Tryz.underlying58 rfl pSizeE ?_)
     refine CE.out.mono ?_;rintro _ w7 ⟨rfl,b7⟩;have S7:=QC (SR.out.below b7);clear b7 SR CE RE y0 y1 y2 y3 q2;by_cases ce:ef=0
     ·subst ce;have E:Qe.fault m.length fi x bi y=(0,0):=by rw[E0.out];rfl
      try simp only[QD]
      obtain⟨r0,r1,z0,z1⟩:=S7.out.cells
      have D:=QC (S7.out.fin (0) (0));go_wp2_with fail
      generalize World.setCell _ _ _=w99 at D ⊢;exact bodyPost_ret (v:=.agg #[.int .i64 (0),.int .i64 (0)]) (by simp[results,Tryz.results50,go_sem,Qb D.out.1 0 _ rfl,Qb D.out.1 1 _ rfl]) rfl ⟨by first | rfl | rw[E],D.out.2⟩
     ·have d9:(ef != 0)=true:=by simpa using ce
      have E:Qe.fault m.length fi x bi y=(ef,10000*(fi:Int)+100*(bi:Int)+91):=by rw[E0.out,if_pos ce]
      clear E0;go_wp2_with fail
      refine Calls.mono (Qio HP.out) ?_;rintro _ ua0 ⟨rfl,bb⟩;have S7:=QC (S7.out.below bb);clear bb;go_wp2_with fail
      refine Calls.mono (QaG) ?_;rintro _ ua1 ⟨rfl,bb⟩;have S7:=QC (S7.out.below bb);clear bb;try simp only[QD]
      obtain⟨r0,r1,z0,z1⟩:=S7.out.cells
      have D:=QC (S7.out.fin (ef) (10000*(fi:Int)+100*(bi:Int)+91));go_wp2_with fail
      generalize World.setCell _ _ _=w99 at D ⊢;exact bodyPost_ret (v:=.agg #[.int .i64 (ef),.int .i64 (10000*(fi:Int)+100*(bi:Int)+91)]) (by simp[results,Tryz.results50,go_sem,Qb D.out.1 0 _ rfl,Qb D.out.1 1 _ rfl]) rfl ⟨by first | rfl | rw[E],D.out.2⟩
    have hqt':(q:Int)<y.code.length:=by omega
    have hz:y.code[q]?=some y.code[q]:=List.getElem?_eq_getElem hqt;generalize y.code[q]=z at hz;have HZ:=QC hz;obtain⟨g3,o3,i3,e3,E3,-⟩:=Qeq HI2.out.code hz
    have RI:Hid (wr.rangeAt g3 (o3+q*8) [.int .i64 z.op,.int .i64 z.a,.int .i64 z.b,.int .i64 z.c,.int .i64 z.k,.int .i64 z.n,.slice i3.pR z.regs.length i3.cR,.slice i3.pA z.args.length i3.cA]):=fun j v hj=>QY (E3 j v hj) SR.out.bel;have q0:=Qb (BX.out _ SR.out).2.2 0 _ rfl;have q9:=q2;rw[e3] at q9
    clear E3 hz e3;go_upto_region 15 with fail
    refine Code.wp_mono ?_ (QlM RI q0 q9 hqt' _ _ rfl (Nat.le_of_ble_eq_true (by kernel_rfl)) rfl rfl rfl);rintro ee aa w9 ⟨rfl,vs,rfl,hv,b9⟩;simp only[Z3,Act.put,List.setIfInBounds_toArray,List.set_cons_zero,List.set_cons_succ,hv]
    have S9:=QC (SR.out.below b9);clear b9 SR q0 q2 q9 RI hv;generalize hzf:Qx.form m.length z=zf;by_cases c5:zf=0
    ·subst c5;go_wp2
     go_roundw
     case rel =>
      refine⟨q+1,by omega,by go_num,S9.out,fun j u hj hu=>?_⟩
      by_cases hjq:j<q
      ·exact HAQ.out j u hjq hu
      ·have:j=q:=by omega
       subst this;rw[HZ.out] at hu
       cases hu
       exact hzf
     case measure=>simp[intOf];omega
    ·have d9:(zf != 0)=true:=by simpa using c5
     have E:Qe.fault m.length fi x bi y=(zf,10000*(fi:Int)+100*(bi:Int)+(q:Int)):=by
      have hF:=Zk (f:=fun i u=>(Qx.form m.length u,(10000*fi+100*bi+i:Int))) (j:=0) HZ.out (fun k u hk hu=>HAQ.out _ u hk hu) (by rw[hzf];exact c5);rw[Nat.zero_add,hzf] at hF
      unfold Qe.fault;rw[if_neg c1,hlc,if_neg (by simp),if_neg c3,if_neg c4,hF,if_pos c5]
     have hp3:fi<1000000∧bi<1000000∧q<1000000:=⟨HP.out.1,HP.out.2,by omega⟩;have HP3:=QC hp3;clear hp3 hzf c5;go_wp2_with fail
     refine Calls.mono (QeW HP3.out) ?_;rintro _ ua0 ⟨rfl,bb⟩;have S9:=QC (S9.out.below bb);clear bb;go_wp2_with fail
     refine Calls.mono (QaG) ?_;rintro _ ua1 ⟨rfl,bb⟩;have S9:=QC (S9.out.below bb);clear bb;try simp only[QD]
     obtain⟨r0,r1,z0,z1⟩:=S9.out.cells
     have D:=QC (S9.out.fin (zf) (10000*(fi:Int)+100*(bi:Int)+(q:Int)));go_wp2_with fail
     generalize World.setCell _ _ _=w99 at D ⊢;exact bodyPost_ret (v:=.agg #[.int .i64 (zf),.int .i64 (10000*(fi:Int)+100*(bi:Int)+(q:Int))]) (by simp[results,Tryz.results50,go_sem,Qb D.out.1 0 _ rfl,Qb D.out.1 1 _ rfl]) rfl ⟨by first | rfl | rw[E],D.out.2⟩
def plB {n:Nat}(x:Qf n) (q:Nat):Bool:=(x.regs==0&&((x.params.length:Int)==0))&&(x.results.take q).all (fun t=>t.kind==1)
theorem QfS {n:Nat}(x:Qf n):plB x 0=(x.regs==0&&((x.params.length:Int)==0)):=by simp[plB]
theorem QiX {n:Nat}{x:Qf n}{q:Nat}{t:TT n}(h:x.results[q]?=some t):plB x (q+1)=(plB x q&&t.kind==1):=by
 unfold plB;rw[List.take_add_one,h,List.all_append]
 simp[Bool.and_assoc]
theorem Qha {n:Nat}(x:Qf n):plB x x.results.length=true↔(x.regs=0∧x.params.length=0∧x.results.all (fun t=>t.kind==1)=true):=by
 unfold plB;rw[List.take_length]
 simp only[Bool.and_eq_true,beq_iff_eq]
 constructor
 ·rintro ⟨⟨h1,h2⟩,h3⟩;exact⟨h1,by omega,h3⟩
 ·rintro ⟨h1,h2,h3⟩;exact⟨⟨h1,by omega⟩,h3⟩
theorem QbA {n:Nat}{m:List (Qf n)}{p:Option Addr}{c:Nat}{w:World}(hm0:(Qa5 n).In w All m [.slice p m.length c]) (hs0:Qa9 m) :
 Rd Tryz.prog 20 #[.agg #[.slice p m.length c]] w (QD (Qg m)):=by
 have hml:=hs0.1;have HM:=QC hm0;have HS:=QC hs0;have S:=QC (FbS.start w #[.slice p m.length c] 24);clear hm0 hs0;unfold Rd;go_enter Tryz.func20,Tryz.ntmps20
 go_upto_region 1 with fail
 generalize (w.alloc (.cells #[.slice p m.length c] 24)).alloc (.cells #[.int .i64 0,.int .i64 0] 30)=w1 at S ⊢;generalize w.heap.size+1=R at S ⊢;generalize w.heap.size=X at S ⊢;have x0:=Qb (S.out.box 0 _ rfl) 0 _ rfl;go_cut [20] (fun v wx=>v=.bool (decide (m.length<1∨8<m.length))∧FbS w wx R [(X,#[.slice p m.length c],24)])
 case first =>
  by_cases h:(m.length:Int)<1
  ·have d1:decide ((m.length:Int)<1)=true:=decide_eq_true h;have E:decide (m.length<1∨8<m.length)=true:=decide_eq_true (.inl (by omega));go_wp2
   go_meet;exact⟨by rw[E],S.out⟩
  ·have d1:decide ((m.length:Int)<1)=false:=decide_eq_false h;have E:decide (m.length<1∨8<m.length)=decide ((m.length:Int)>8):=by rw[decide_eq_decide];omega
   go_wp2
   all_goals
    go_meet;exact⟨by rw[E],S.out⟩
 case rest =>
  obtain⟨rfl,hc⟩:=hcut
  have S2:=QC hc;clear hc S x0;by_cases c1:m.length<1∨8<m.length
  ·rw[decide_eq_true c1]
   have E:Qg m=(2,-1):=if_pos c1;go_wp2_with fail
   refine Calls.mono (QaG) ?_;rintro _ ua0 ⟨rfl,bb⟩;have S2:=QC (S2.out.below bb);clear bb;try simp only[QD]
   obtain⟨r0,r1,z0,z1⟩:=S2.out.cells
   have D:=QC (S2.out.fin (2) (-1));go_wp2_with fail
   generalize World.setCell _ _ _=w99 at D ⊢;exact bodyPost_ret (v:=.agg #[.int .i64 (2),.int .i64 (-1)]) (by simp[results,Tryz.results20,go_sem,Qb D.out.1 0 _ rfl,Qb D.out.1 1 _ rfl]) rfl ⟨by first | rfl | rw[E],D.out.2⟩
  rw[decide_eq_false c1]
  go_wp2_with fail
  go_loopw [3] (fun i wr=>∃ k:Nat,k≤m.length∧i=.int .i64 k∧FbS w wr R [(X,#[.slice p m.length c],24)]∧∀ (j:Nat) f,j<k→m[j]?=some f→(Qf.fault m.length j f).1=0) (fun i _=>m.length - (intOf i).toNat)
  case atStart=>exact⟨0,Nat.zero_le _,rfl,S2.out,fun j z hj=>absurd hj (Nat.not_lt_zero _)⟩
  case round =>
   obtain⟨k,hk,rfl,hs,hall⟩:=hrel
   have SR:=QC hs;have HAQ:=QC hall;clear hs hall S2;obtain⟨wf,hwf⟩:∃ wf,wf=wr:=⟨_,rfl⟩
   subst hwf;have x0:=Qb (SR.out.box 0 _ rfl) 0 _ rfl;by_cases hkt:k<m.length
   rotate_left
   ·have hkt':¬ (k:Int)<m.length:=by omega
    have E:Qg m=(0,0):=by
     unfold Qg;rw[if_neg c1]
     exact Qy fun j f hj=>by rw[Nat.zero_add];exact HAQ.out j f (by have:=(List.getElem?_eq_some_iff.1 hj).1;omega) hj
    try simp only[QD]
    obtain⟨r0,r1,z0,z1⟩:=SR.out.cells
    have D:=QC (SR.out.fin (0) (0));go_wp2_with fail
    generalize World.setCell _ _ _=w99 at D ⊢;exact bodyPost_ret (v:=.agg #[.int .i64 (0),.int .i64 (0)]) (by simp[results,Tryz.results20,go_sem,Qb D.out.1 0 _ rfl,Qb D.out.1 1 _ rfl]) rfl ⟨by first | rfl | rw[E],D.out.2⟩
   have hkt':(k:Int)<m.length:=by omega
   have hxk:m[k]?=some m[k]:=List.getElem?_eq_getElem hkt;generalize m[k]=x at hxk;have HXK:=QC hxk
   have EM:Hid ((Qf.fault m.length k x).1≠0→Qg m=Qf.fault m.length k x):=fun h=>by
    have hF:=Zk (f:=fun f x=>Qf.fault m.length f x) (j:=0) HXK.out (fun j f hj hf=>by rw[Nat.zero_add];exact HAQ.out j f hj hf) (by rw[Nat.zero_add];exact h);rw[Nat.zero_add] at hF
    unfold Qg;rw[if_neg c1,hF]
   obtain⟨g1,o1,f1,rfl,E1,In1⟩:=Qbk HM.out hxk
   have HI1:=QC In1;have hsx:=HS.out.2 x (List.mem_of_getElem? hxk);have HSX:=QC hsx;have hbl:=hsx.1;have hrl:x.results.length≤100000:=hsx.2.2.1.1;have hpl:x.params.length≤100000:=hsx.2.1.1;have hp:k<1000000:=by omega
   have HP:=QC hp;have R1:Hid (wf.rangeAt g1 (o1+k*4) [.int .i64 x.regs,.slice f1.pP x.params.length f1.cP,.slice f1.pR x.results.length f1.cR,.slice f1.pB x.blocks.length f1.cB]):=fun j v hj=>QY (E1 j v hj) SR.out.bel;have v0:wf.cell? ⟨g1,o1+k*4,none⟩=some (.int .i64 x.regs):=R1.out 0 _ rfl;have v1:=R1.out 1 _ rfl;have v2:=R1.out 2 _ rfl;have v3:=R1.out 3 _ rfl;have S6:=QC (SR.out.new #[.int .i64 x.regs,.slice f1.pP x.params.length f1.cP,.slice f1.pR x.results.length f1.cR,.slice f1.pB x.blocks.length f1.cB] 40);clear hxk E1 In1 hsx hp R1 SR;go_upto_region 7 with fail
   generalize wf.alloc (.cells #[.int .i64 x.regs,.slice f1.pP x.params.length f1.cP,.slice f1.pR x.results.length f1.cR,.slice f1.pB x.blocks.length f1.cB] 40)=w6 at S6 ⊢;generalize wf.heap.size=Y at S6 ⊢;clear v0 v1 v2 v3 x0;generalize hL:([(Y,#[.int .i64 x.regs,.slice f1.pP x.params.length f1.cP,.slice f1.pR x.results.length f1.cR,.slice f1.pB x.blocks.length f1.cB],40),(X,#[.slice (some ⟨g1,o1,none⟩) m.length c],24)]:List (Nat × Array Value × TypeId))=L at S6;have BX:Hid (∀ wx,FbS w wx R L→Blk wx Y #[.int .i64 x.regs,.slice f1.pP x.params.length f1.cP,.slice f1.pR x.results.length f1.cR,.slice f1.pB x.blocks.length f1.cB] 40∧Blk wx X #[.slice (some ⟨g1,o1,none⟩) m.length c] 24):=by subst hL;exact fun wx h=>⟨h.box 0 _ rfl,h.box 1 _ rfl⟩
   have DR:Hid (∀ wx,FbS w wx R L→FbS w wx R [(X,#[.slice (some ⟨g1,o1,none⟩) m.length c],24)]):=fun wx h=>⟨h.bel,h.ge,h.r,fun i b hb=>by
    cases i with
    | zero=>cases hb;exact(BX.out wx h).2
    | succ i=>simp at hb⟩
   clear hL;have q0:=Qb (BX.out _ S6.out).1 0 _ rfl;go_cut [41] (fun v wx=>v=.bool (decide (x.regs<0∨6<x.regs))∧FbS w wx R L)
   case first =>
    by_cases h:x.regs<0
    ·have d1:decide (x.regs<0)=true:=decide_eq_true h;have E:decide (x.regs<0∨6<x.regs)=true:=decide_eq_true (.inl (by omega));go_wp2
     go_meet;exact⟨by rw[E],S6.out⟩
    ·have d1:decide (x.regs<0)=false:=decide_eq_false h;have E:decide (x.regs<0∨6<x.regs)=decide (x.regs>6):=by rw[decide_eq_decide];omega
     go_wp2
     all_goals
      go_meet;exact⟨by rw[E],S6.out⟩
   case rest =>
    obtain⟨rfl,hc⟩:=hcut
    have S7:=QC hc;clear hc S6 q0;by_cases c2:x.regs<0∨6<x.regs
    ·rw[decide_eq_true c2]
     have E:Qg m=(1,10000*(k:Int)+9999):=by
      have e9:Qf.fault m.length k x=(1,10000*(k:Int)+9999):=if_pos c2;rw[EM.out (by rw[e9];show (1:Int)≠0;decide),e9]
     clear c2;go_wp2_with fail
     refine Calls.mono (Qaa HP.out) ?_;rintro _ ua0 ⟨rfl,bb⟩;have S7:=QC (S7.out.below bb);clear bb;go_wp2_with fail
     refine Calls.mono (QaG) ?_;rintro _ ua1 ⟨rfl,bb⟩;have S7:=QC (S7.out.below bb);clear bb;try simp only[QD]
     obtain⟨r0,r1,z0,z1⟩:=S7.out.cells
     have D:=QC (S7.out.fin (1) (10000*(k:Int)+9999));go_wp2_with fail
     generalize World.setCell _ _ _=w99 at D ⊢;exact bodyPost_ret (v:=.agg #[.int .i64 (1),.int .i64 (10000*(k:Int)+9999)]) (by simp[results,Tryz.results20,go_sem,Qb D.out.1 0 _ rfl,Qb D.out.1 1 _ rfl]) rfl ⟨by first | rfl | rw[E],D.out.2⟩
    rw[decide_eq_false c2]
    have q0:=Qb (BX.out _ S7.out).1 0 _ rfl;have q1:=Qb (BX.out _ S7.out).1 1 _ rfl;have CL:=QC (QaI (regs:=x.regs) (Lay.below HI1.out.params S7.out.bel) HSX.out.2.1);unfold Rd at CL;go_wp2_with fail
    refine CL.out.mono ?_;rintro _ wl ⟨rfl,bl⟩;have S8:=QC (S7.out.below bl);clear bl CL q0 q1 S7;generalize hl1:listC x.regs x.params=lc;by_cases c3:lc=0
    rotate_left
    ·have d9:(lc != 0)=true:=by simpa using c3
     have E:Qg m=(lc,10000*(k:Int)+9999):=by
      have e9:Qf.fault m.length k x=(lc,10000*(k:Int)+9999):=by unfold Qf.fault;rw[if_neg c2,hl1,if_pos c3]
      rw[EM.out (by rw[e9];exact c3),e9]
     go_wp2_with fail
     refine Calls.mono (Qaa HP.out) ?_;rintro _ ua0 ⟨rfl,bb⟩;have S8:=QC (S8.out.below bb);clear bb;go_wp2_with fail
     refine Calls.mono (QaG) ?_;rintro _ ua1 ⟨rfl,bb⟩;have S8:=QC (S8.out.below bb);clear bb;try simp only[QD]
     obtain⟨r0,r1,z0,z1⟩:=S8.out.cells
     have D:=QC (S8.out.fin (lc) (10000*(k:Int)+9999));go_wp2_with fail
     generalize World.setCell _ _ _=w99 at D ⊢;exact bodyPost_ret (v:=.agg #[.int .i64 (lc),.int .i64 (10000*(k:Int)+9999)]) (by simp[results,Tryz.results20,go_sem,Qb D.out.1 0 _ rfl,Qb D.out.1 1 _ rfl]) rfl ⟨by first | rfl | rw[E],D.out.2⟩
    subst c3;have q0:=Qb (BX.out _ S8.out).1 0 _ rfl;have q1:=Qb (BX.out _ S8.out).1 2 _ rfl;have CL:=QC (QaI (regs:=x.regs) (Lay.below HI1.out.results S8.out.bel) HSX.out.2.2.1);unfold Rd at CL;go_wp2_with fail
    refine CL.out.mono ?_;rintro _ wl ⟨rfl,bl⟩;have S9:=QC (S8.out.below bl);clear bl CL q0 q1 S8;generalize hl2:listC x.regs x.results=lc;by_cases c4:lc=0
    rotate_left
    ·have d9:(lc != 0)=true:=by simpa using c4
     have E:Qg m=(lc,10000*(k:Int)+9999):=by
      have e9:Qf.fault m.length k x=(lc,10000*(k:Int)+9999):=by unfold Qf.fault;rw[if_neg c2,hl1,if_neg (by simp),hl2,if_pos c4]
      rw[EM.out (by rw[e9];exact c4),e9]
     go_wp2_with fail
     refine Calls.mono (Qaa HP.out) ?_;rintro _ ua0 ⟨rfl,bb⟩;have S9:=QC (S9.out.below bb);clear bb;go_wp2_with fail
     refine Calls.mono (QaG) ?_;rintro _ ua1 ⟨rfl,bb⟩;have S9:=QC (S9.out.below bb);clear bb;try simp only[QD]
     obtain⟨r0,r1,z0,z1⟩:=S9.out.cells
     have D:=QC (S9.out.fin (lc) (10000*(k:Int)+9999));go_wp2_with fail
     generalize World.setCell _ _ _=w99 at D ⊢;exact bodyPost_ret (v:=.agg #[.int .i64 (lc),.int .i64 (10000*(k:Int)+9999)]) (by simp[results,Tryz.results20,go_sem,Qb D.out.1 0 _ rfl,Qb D.out.1 1 _ rfl]) rfl ⟨by first | rfl | rw[E],D.out.2⟩
    subst c4;go_upto_region 15 with fail
    have q3:=Qb (BX.out _ S9.out).1 3 _ rfl;go_cut [76] (fun v wx=>v=.bool (decide (x.blocks.length<1∨12<x.blocks.length))∧FbS w wx R L)
    case first =>
     by_cases h:(x.blocks.length:Int)<1
     ·have d1:decide ((x.blocks.length:Int)<1)=true:=decide_eq_true h;have E:decide (x.blocks.length<1∨12<x.blocks.length)=true:=decide_eq_true (.inl (by omega));go_wp2
      go_meet;exact⟨by rw[E],S9.out⟩
     ·have d1:decide ((x.blocks.length:Int)<1)=false:=decide_eq_false h;have E:decide (x.blocks.length<1∨12<x.blocks.length)=decide ((x.blocks.length:Int)>12):=by rw[decide_eq_decide];omega
      go_wp2
      all_goals
       go_meet;exact⟨by rw[E],S9.out⟩
    case rest =>
     obtain⟨rfl,hc⟩:=hcut
     have SA:=QC hc;clear hc S9 q3;by_cases c5:x.blocks.length<1∨12<x.blocks.length
     ·rw[decide_eq_true c5]
      have E:Qg m=(2,10000*(k:Int)+9999):=by
       have e9:Qf.fault m.length k x=(2,10000*(k:Int)+9999):=by unfold Qf.fault;rw[if_neg c2,hl1,if_neg (by simp),hl2,if_neg (by simp),if_pos c5]
       rw[EM.out (by rw[e9];show (2:Int)≠0;decide),e9]
      clear c5;go_wp2_with fail
      refine Calls.mono (Qaa HP.out) ?_;rintro _ ua0 ⟨rfl,bb⟩;have SA:=QC (SA.out.below bb);clear bb;go_wp2_with fail
      refine Calls.mono (QaG) ?_;rintro _ ua1 ⟨rfl,bb⟩;have SA:=QC (SA.out.below bb);clear bb;try simp only[QD]
      obtain⟨r0,r1,z0,z1⟩:=SA.out.cells
      have D:=QC (SA.out.fin (2) (10000*(k:Int)+9999));go_wp2_with fail
      generalize World.setCell _ _ _=w99 at D ⊢;exact bodyPost_ret (v:=.agg #[.int .i64 (2),.int .i64 (10000*(k:Int)+9999)]) (by simp[results,Tryz.results20,go_sem,Qb D.out.1 0 _ rfl,Qb D.out.1 1 _ rfl]) rfl ⟨by first | rfl | rw[E],D.out.2⟩
     rw[decide_eq_false c5]
     go_upto_if 81 with fail
     go_cut [] (fun wx=>FbS w wx R L∧(k=0→plB x x.results.length=true))
     case first =>
      by_cases h0:k=0
      rotate_left
      ·have d0:((k:Int)==0)=false:=by simpa using h0
       have H0:=QC h0;clear h0;go_wp2
       go_meet;exact⟨SA.out,fun h=>absurd h H0.out⟩
      have d0:((k:Int)==0)=true:=by simpa using h0
      have H0:=QC h0;clear h0;have q0:=Qb (BX.out _ SA.out).1 0 _ rfl;have q1:=Qb (BX.out _ SA.out).1 1 _ rfl;go_upto_region 18 with fail
      go_cut [7] (fun v wx=>v=.bool (plB x 0)∧FbS w wx R L)
      case first =>
       by_cases hr:x.regs=0
       ·have d1:(x.regs==0)=true:=by simpa using hr
        have E:plB x 0=((x.params.length:Int)==0):=by rw[QfS,d1];rfl
        clear hr;go_wp2
        all_goals
         go_meet;exact⟨by rw[E],SA.out⟩
       ·have d1:(x.regs==0)=false:=by simpa using hr
        have E:plB x 0=false:=by rw[QfS,d1];rfl
        go_wp2
        go_meet;exact⟨by rw[E],SA.out⟩
      case rest =>
       obtain⟨rfl,hc⟩:=hcut
       have SB:=QC hc;clear hc SA q0 q1;go_wp2_with fail
       go_loopw [7,8] (fun v i wr=>∃ q:Nat,q≤x.results.length∧i=.int .i64 q∧v=.bool (plB x q)∧FbS w wr R L) (fun _ i _=>x.results.length - (intOf i).toNat)
       case atStart=>exact⟨0,Nat.zero_le _,rfl,rfl,SB.out⟩
       case round =>
        obtain⟨q,hq,rfl,rfl,hs⟩:=hrel
        have SQ:=QC hs;clear hs SB;have q2:=Qb (BX.out _ SQ.out).1 2 _ rfl;by_cases hqt:q<x.results.length
        ·have hqt':(q:Int)<x.results.length:=by omega
         have ht:x.results[q]?=some x.results[q]:=List.getElem?_eq_getElem hqt;generalize x.results[q]=t at ht;have HN:=QC (QiX ht);obtain⟨gt,ot,ta,tc,e3,-,u0k,-,-,-⟩:=(QL (Lay.below HI1.out.results SQ.out.bel)).1.at ht
         have q9:=q2;rw[e3] at q9
         clear ht e3 q2;generalize plB x q=pq at HN
         cases pq with
         | true =>
           go_wp2
           all_goals
            go_roundw
            case rel=>exact⟨q+1,by omega,by go_num,by rw[HN.out];rfl,SQ.out⟩
            case measure=>simp[intOf];omega
         | false =>
           go_wp2
           go_roundw
           case rel=>exact⟨q+1,by omega,by go_num,by rw[HN.out];rfl,SQ.out⟩
           case measure=>simp[intOf];omega
        have hqt':¬ (q:Int)<x.results.length:=by omega
        have hqe:q=x.results.length:=by omega
        subst hqe;generalize hpq:plB x x.results.length=pq
        cases pq with
        | true =>
          go_wp2
          go_meet;exact⟨SQ.out,fun _=>hpq⟩
        | false =>
          have E:Qg m=(18,10000*(k:Int)+9999):=by
           have e9:Qf.fault m.length k x=(18,10000*(k:Int)+9999):=by unfold Qf.fault;rw[if_neg c2,hl1,if_neg (by simp),hl2,if_neg (by simp),if_neg c5,if_pos ⟨H0.out,fun h=>by rw[(Qha x).2 h] at hpq;cases hpq⟩]
           rw[EM.out (by rw[e9];show (18:Int)≠0;decide),e9]
          go_wp2_with fail
          refine Calls.mono (Qaa HP.out) ?_;rintro _ ua0 ⟨rfl,bb⟩;have SQ:=QC (SQ.out.below bb);clear bb;go_wp2_with fail
          refine Calls.mono (QaG) ?_;rintro _ ua1 ⟨rfl,bb⟩;have SQ:=QC (SQ.out.below bb);clear bb;try simp only[QD]
          obtain⟨r0,r1,z0,z1⟩:=SQ.out.cells
          have D:=QC (SQ.out.fin (18) (10000*(k:Int)+9999));go_wp2_with fail
          generalize World.setCell _ _ _=w99 at D ⊢;exact bodyPost_ret (v:=.agg #[.int .i64 (18),.int .i64 (10000*(k:Int)+9999)]) (by simp[results,Tryz.results20,go_sem,Qb D.out.1 0 _ rfl,Qb D.out.1 1 _ rfl]) rfl ⟨by first | rfl | rw[E],D.out.2⟩
     case rest =>
      obtain⟨hc,hpl⟩:=hcut
      have SB:=QC hc;have c6:¬ (k=0∧¬ (x.regs=0∧x.params.length=0∧x.results.all (fun t=>t.kind==1)=true)):=fun h=>h.2 ((Qha x).1 (hpl h.1))
      have EF:Hid (Qf.fault m.length k x=firstF (fun b y=>Qe.fault m.length k x b y) 0 x.blocks):=by
       show _=_;unfold Qf.fault;rw[if_neg c2,hl1,if_neg (by simp),hl2,if_neg (by simp),if_neg c5,if_neg c6]
      clear hc hpl SA c2 hl1 hl2 c5 c6;go_wp2_with fail
      go_loopw [9] (fun i wr=>∃ q:Nat,q≤x.blocks.length∧i=.int .i64 q∧FbS w wr R L∧∀ (j:Nat) y,j<q→x.blocks[j]?=some y→(Qe.fault m.length k x j y).1=0) (fun i _=>x.blocks.length - (intOf i).toNat)
      case atStart=>exact⟨0,Nat.zero_le _,rfl,SB.out,fun j z hj=>absurd hj (Nat.not_lt_zero _)⟩
      case round =>
       obtain⟨q,hq,rfl,hs,hall⟩:=hrel
       have SQ:=QC hs;have HBQ:=QC hall;clear hs hall SB;have q3:=Qb (BX.out _ SQ.out).1 3 _ rfl;by_cases hqt:q<x.blocks.length
       rotate_left
       ·have hqt':¬ (q:Int)<x.blocks.length:=by omega
        go_wp2
        go_roundw
        case rel =>
         refine⟨k+1,by omega,by go_num,DR.out _ SQ.out,fun j f hj hf=>?_⟩
         by_cases hjk:j<k
         ·exact HAQ.out j f hjk hf
         ·have:j=k:=by omega
          subst this;rw[HXK.out] at hf
          cases hf
          rw[EF.out,Qy fun b y hb=>by rw[Nat.zero_add];exact HBQ.out b y (by have:=(List.getElem?_eq_some_iff.1 hb).1;omega) hb]
        case measure=>simp[intOf];omega
       have hqt':(q:Int)<x.blocks.length:=by omega
       have hyq:x.blocks[q]?=some x.blocks[q]:=List.getElem?_eq_getElem hqt;generalize x.blocks[q]=y at hyq;have HYQ:=QC hyq;have CB:=QC (Qc8 (Lay.below HM.out SQ.out.bel) HS.out HXK.out hyq);unfold Rd at CB;obtain⟨bc,bp,hbf⟩:∃ bc bp,Qe.fault m.length k x q y=(bc,bp):=⟨_,_,rfl⟩
       rw[hbf] at CB
       have HBF:=QC hbf;have x0:=Qb (BX.out _ SQ.out).2 0 _ rfl;clear hyq hbf;go_wp2_with fail
       refine CB.out.mono ?_;rintro _ w8 ⟨rfl,b8⟩;have S9:=QC ((SQ.out.below b8).new #[.int .i64 bc,.int .i64 bp] 30);clear b8 CB SQ q3 x0;simp only[QD]
       go_upto_region 29 with fail
       generalize w8.alloc (.cells #[.int .i64 bc,.int .i64 bp] 30)=w9 at S9 ⊢;generalize w8.heap.size=F8 at S9 ⊢;have f0:=Qb (S9.out.box 0 _ rfl) 0 _ rfl;have f1:=Qb (S9.out.box 0 _ rfl) 1 _ rfl;have S8:Hid (FbS w w9 R L):=⟨S9.out.bel,S9.out.ge,S9.out.r,fun i b hb=>S9.out.box (i+1) b hb⟩;clear S9;by_cases hbc:bc=0
       ·subst hbc;go_wp2
        go_roundw
        case rel =>
         refine⟨q+1,by omega,by go_num,S8.out,fun j u hj hu=>?_⟩
         by_cases hjq:j<q
         ·exact HBQ.out j u hjq hu
         ·have:j=q:=by omega
          subst this;rw[HYQ.out] at hu
          cases hu
          rw[HBF.out]
        case measure=>simp[intOf];omega
       ·have d9:(bc != 0)=true:=by simpa using hbc
        have E:Qg m=(bc,bp):=by
         have hF:=Zk (f:=fun b y=>Qe.fault m.length k x b y) (j:=0) HYQ.out (fun j u hj hu=>by rw[Nat.zero_add];exact HBQ.out j u hj hu) (by rw[Nat.zero_add,HBF.out];exact hbc);rw[Nat.zero_add,HBF.out] at hF
         rw[EM.out (by rw[EF.out,hF];exact hbc),EF.out,hF]
        clear hbc;try simp only[QD]
        obtain⟨r0,r1,z0,z1⟩:=S8.out.cells
        have D:=QC (S8.out.fin (bc) (bp));go_wp2_with fail
        generalize World.setCell _ _ _=w99 at D ⊢;exact bodyPost_ret (v:=.agg #[.int .i64 (bc),.int .i64 (bp)]) (by simp[results,Tryz.results20,go_sem,Qb D.out.1 0 _ rfl,Qb D.out.1 1 _ rfl]) rfl ⟨by first | rfl | rw[E],D.out.2⟩
structure RfS (w wr:World) (X R:Nat) (pm:Option Addr) (N cm:Nat):Prop where
 bel:Below w.heap.size w wr
 x:Blk wr X #[.slice pm N cm] 24
 r:Blk wr R #[.int .i64 0,.int .i64 0] 30
theorem RfS.below {w wr w':World}{X R:Nat}{pm:Option Addr}{N cm:Nat}(h:RfS w wr X R pm N cm) (k:Below wr.heap.size wr w'):RfS w w' X R pm N cm :=
 ⟨h.bel.trans (k.mono h.bel.size),(k.block X (lt_of_block h.x)).trans h.x,(k.block R (lt_of_block h.r)).trans h.r⟩
theorem RfS.step {w wr w':World}{X R:Nat}{pm:Option Addr}{N cm:Nat}{O O':Nat→Prop}(h:RfS w wr X R pm N cm) (k:Zj O O' wr w') (hx:¬ O X) (hr:¬ O R) (hO:∀ k,O k→w.heap.size≤k):RfS w w' X R pm N cm :=
 ⟨h.bel.trans (k.below h.bel.size hO),(k.block X (lt_of_block h.x) hx).trans h.x,(k.block R (lt_of_block h.r) hr).trans h.r⟩
structure RfI (w wr:World) (X R Bx B:Nat) (pm:Option Addr) (N cm:Nat) (cs:Array Value) (s:JSt) (O:Nat→Prop):Prop where
 top:RfS w wr X R pm N cm
 box:Blk wr Bx cs 60
 known:KAt wr B O s
 own:∀ k,O k→w.heap.size≤k∧k<wr.heap.size
 nx:¬ O X
 nr:¬ O R
 nb:¬ O Bx
theorem RfI.to {w wr w':World}{X R Bx B:Nat}{pm:Option Addr}{N cm:Nat}{cs:Array Value}{s s':JSt}{O:Nat→Prop}(h:RfI w wr X R Bx B pm N cm cs s O) (k:KTo wr w' B O s'):∃ O',RfI w w' X R Bx B pm N cm cs s' O':=by
 obtain⟨O',h1,h2,h3⟩:=k
 have far:∀ {b:Nat},¬ O b→b<wr.heap.size→¬ O' b:=fun {b} hb hl e=>by rcases h2.own b e with e | e;exact hb e;omega
 have hs:=h.top.bel.size;exact⟨O',h.top.step h2 h.nx h.nr (fun k hk=>(h.own k hk).1),(h2.block Bx (lt_of_block h.box) h.nb).trans h.box,h1,fun k hk=>⟨by rcases h2.own k hk with e | e;exact(h.own k e).1;omega,h3 k hk⟩,far h.nx (lt_of_block h.top.x),far h.nr (lt_of_block h.top.r),far h.nb (lt_of_block h.box)⟩
section
variable {w:World}{O:Nat→Prop}{n:Nat}{cs:List Value}
theorem QhS {k:Nat}{x:Qe n}(hk:x.flat k) (h:(Qa7 n).In w O x cs):(Qa7 (k+1)).In w O (x.at k) cs:=by
 obtain⟨c0,_,rfl,h0,⟨c1,_,rfl,h1,h2⟩⟩:=h
 exact⟨c0,_,rfl,h0,⟨c1,_,rfl,QdS hk h1,h2⟩⟩
theorem QjF {k:Nat}{x:Qf n}(hk:x.flat k) (h:(QeV n).In w O x cs):(QeV (k+1)).In w O (x.at k) cs:=by
 obtain⟨c0,_,rfl,h0,⟨c1,_,rfl,h1,⟨c2,_,rfl,h2,h3⟩⟩⟩:=h
 exact⟨c0,_,rfl,h0,⟨c1,_,rfl,QdS hk.1 h1,⟨c2,_,rfl,QdS hk.2.1 h2,Lay.list_map (A:=Qa7 n) (B:=Qa7 (k+1)) rfl (fun y hy ds=>QhS (hk.2.2 y hy)) h3⟩⟩⟩
theorem QkA {k:Nat}{m:List (Qf n)}(hk:∀ x∈m,x.flat k) (h:(QiO n).In w O m cs):(QiO (k+1)).In w O (m.map (Qf.at k)) cs :=
 Lay.list_map (A:=QeV n) (B:=QeV (k+1)) rfl (fun y hy ds=>QjF (hk y hy)) h
end
end Go.Proofs.YtacjnejckfhpoaeGreat
namespace Go.Proofs.YtacjnejckfhpoaeGreat
set_option linter.unusedSimpArgs false
set_option linter.unusedVariables false
def zOut:Qx:=⟨13,-1,0,0,0,0,[],[]⟩
def Qe.put {n:Nat}(y:Qe n):Qe n:=⟨y.regs,y.params,y.code++[zOut],y.fin⟩
def Qf.put {n:Nat}(fn:Qf n) (bk:Nat) (y:Qe n):Qf n:=⟨fn.regs,fn.params,fn.results,fn.blocks.set bk y.put⟩
def Qgf {n:Nat}(m:List (Qf n)) (fk bk:Nat) (fn:Qf n) (y:Qe n):List (Qf n):=m.set fk (fn.put bk y)
theorem QfQ {α:Type}{l:List α}{i:Nat}{x:α}(h:l[i]?=some x):l.set i x=l:=by
 apply List.ext_getElem?
 intro j;rw[List.getElem?_set]
 split
 ·rename_i e;subst e
  split
  ·exact h.symm
  ·rename_i hl;exact absurd (List.getElem?_eq_some_iff.1 h).1 hl
 ·rfl
theorem Qbu {α:Type}{l:List α}{i j:Nat}{x z y:α}(h:(l.set i x)[j]?=some y) (hi:l[i]?=some z):(j=i∧y=x)∨(j≠i∧l[j]?=some y):=by
 rw[List.getElem?_set] at h
 split at h
 ·rename_i e
  split at h
  ·cases h;exact .inl ⟨e.symm,rfl⟩
  ·cases h
 ·rename_i e;exact .inr ⟨fun e'=>e e'.symm,h⟩
theorem QdV {α:Type}{l:List α}{i:Nat}{x z:α}(hi:l[i]?=some z):(l.set i x)[i]?=some x:=by
 rw[List.getElem?_set,if_pos rfl,if_pos (List.getElem?_eq_some_iff.1 hi).1]
section
variable {n:Nat}{m:List (Qf n)}{fk bk:Nat}{fn:Qf n}{y:Qe n}
theorem QfB (m:List (Qf n)) (fk bk:Nat) (fn:Qf n) (y:Qe n):(Qgf m fk bk fn y).length=m.length:=List.length_set ..
theorem QdW (fn:Qf n) (bk:Nat) (y:Qe n):(fn.put bk y).blocks.length=fn.blocks.length:=List.length_set ..
theorem Qhy (hb:fn.blocks[bk]?=some y):(fn.put bk y).outl=fn.outl:=by
 unfold Qf.outl Qf.put;simp only
 rw[List.map_set,show y.put.outl=y.outl from rfl,QfQ (by rw[List.getElem?_map,hb];rfl)]
theorem Qjn (hf:m[fk]?=some fn) (hb:fn.blocks[bk]?=some y):outl (Qgf m fk bk fn y)=outl m:=by
 unfold outl Qgf;rw[List.map_set,Qhy hb,QfQ (by rw[List.getElem?_map,hf];rfl)]
end
theorem Qaw {a:Int}{e:MEnd}:∀ (l:List Qx) (s:JSt) (i:Nat),Qj a e s.outl i l=Qj a e s i l
 | [],s,i=>by simp only[Qj,Qgk]
 | x::r,s,i=>by simp only[Qj,QcW,QeT,Qaw r]
theorem Qd7 {a:Int}{e:MEnd}{s s':JSt}(h:s.outl=s'.outl) (i:Nat) (l:List Qx):Qj a e s i l=Qj a e s' i l:=by
 rw[← Qaw l s,h,Qaw]
theorem Qbb {a:Int}{e:MEnd}:∀ {l:List Qx}{s:JSt}{i:Nat},(Qj a e s i l).1=0→∀ (j:Nat) x,l[j]?=some x→(s.upto (l.take j)).code x=0
 | [],_,_,_,j,x,h=>by simp at h
 | x::r,s,i,h,j,y,hj=>by
   simp only[Qj] at h
   split at h
   ·rename_i h1;exact absurd h h1
   ·rename_i h1
    have h0:s.code x=0:=Decidable.not_not.1 h1
    cases j with
    | zero=>simp at hj;subst hj;simpa[JSt.upto] using h0
    | succ j =>
      have:=Qbb h j y (by simpa using hj)
      simpa[JSt.upto] using this
theorem Qej (k:Nat):Qx.form k zOut=0:=by
 simp[Qx.form,Qv,zOut,Qx.formless]
theorem Qes (s:JSt):s.code zOut=1:=by
 have hm:s.makes zOut=(1,[]):=by
  rw[QcJ rfl]
  rfl
 unfold JSt.code;rw[Qej,hm]
 rfl
theorem QeJ {a:Int}{e:MEnd}{s:JSt}{l:List Qx}(h:(Qj a e s 0 l).1=0):Qj a e s 0 (l++[zOut])=(1,a+l.length):=by
 have hx:(l++[zOut])[l.length]?=some zOut:=by simp
 rw[Qcf hx (fun j x hj hjx=>?_) (by rw[Qes];decide),Qes]
 rw[List.getElem?_append_left hj] at hjx
 rw[List.take_append_of_le_length (by omega)]
 exact Qbb h j x hjx
section
variable {n:Nat}{m:List (Qf n)}{fk bk:Nat}{fn:Qf n}{y:Qe n}
theorem Qhp {funcs f b:Nat}{x:Qe n}:Qe.fault funcs f (fn.put bk y) b x=Qe.fault funcs f fn b x:=by
 unfold Qe.fault;rw[QdW]
 rfl
theorem QgM {funcs f:Nat}(h:(Qf.fault funcs f fn).1=0):Qf.fault funcs f (fn.put bk y)=firstF (fun b x=>Qe.fault funcs f fn b x) 0 (fn.blocks.set bk y.put)∧∀ (b:Nat) x,fn.blocks[b]?=some x→(Qe.fault funcs f fn b x).1=0:=by
 unfold Qf.fault at h ⊢;split at h
 ·cases h
 rename_i h1
 split at h
 ·rename_i h2;exact absurd h h2
 rename_i h2
 split at h
 ·rename_i h2;exact absurd h h2
 rename_i h3
 split at h
 ·cases h
 rename_i h4
 split at h
 ·cases h
 rename_i h5
 have h1':¬ ((fn.put bk y).regs<0∨6<(fn.put bk y).regs):=h1;have h2':¬ listC (fn.put bk y).regs (fn.put bk y).params≠0:=h2;have h3':¬ listC (fn.put bk y).regs (fn.put bk y).results≠0:=h3;have h4':¬ ((fn.put bk y).blocks.length<1∨12<(fn.put bk y).blocks.length):=by rw[QdW];exact h4
 have h5':¬ (f=0∧¬ ((fn.put bk y).regs=0∧(fn.put bk y).params.length=0∧(fn.put bk y).results.all (fun t=>t.kind==1)=true)):=h5;rw[if_neg h1',if_neg h2',if_neg h3',if_neg h4',if_neg h5']
 refine⟨?_,fun b x hx=>by have:=QT h b x hx;rwa [Nat.zero_add] at this⟩
 have:(fun b x=>Qe.fault funcs f (fn.put bk y) b x)=(fun b x=>Qe.fault funcs f fn b x):=by
  funext b x
  exact Qhp
 rw[this]
 rfl
theorem Qg3 {funcs f b:Nat}(h:(Qe.fault funcs f fn b y).1=0):y.code.length≤40∧Qe.fault funcs f fn b y.put=if y.code.length=40 then ((2:Int),10000*(f:Int)+100*(b:Int)+90) else ((0:Int),(0:Int)):=by
 unfold Qe.fault at h ⊢;split at h
 ·cases h
 rename_i h1
 split at h
 ·rename_i h2;exact absurd h h2
 rename_i h2
 split at h
 ·cases h
 rename_i h3
 split at h
 ·cases h
 rename_i h4
 split at h
 ·rename_i h5;exact absurd h h5
 rename_i h5
 split at h
 ·rename_i h6;exact absurd h h6
 rename_i h6
 have h1':¬ (y.put.regs<fn.regs∨16<y.put.regs):=h1;have h2':¬ listC y.put.regs y.put.params≠0:=h2;have h3':¬ (b=0∧(y.put.regs≠fn.regs∨Qa6 y.put.params fn.params=false)):=h3;have hl:y.put.code.length=y.code.length+1:=by show (y.code++[zOut]).length=_;simp
 refine⟨by omega,?_⟩
 rw[if_neg h1',if_neg h2',if_neg h3']
 by_cases h40:y.code.length=40
 ·rw[if_pos (by omega),if_pos h40]
 ·rw[if_neg (by omega),if_neg h40]
  have hz:firstF (fun i x=>(Qx.form funcs x,(10000*f+100*b+i:Int))) 0 y.put.code=(0,0):=by
   refine Qy fun k x hk=>?_;have hk:(y.code++[zOut])[k]?=some x:=hk;rw[List.getElem?_append] at hk
   split at hk
   ·have:=QT (Decidable.not_not.1 h5) k x hk
    exact this
   ·rename_i hlt
    have:k=y.code.length:=by
     have:=(List.getElem?_eq_some_iff.1 hk).1
     simp at this
     omega
    subst this;simp at hk
    subst hk;exact Qej funcs
  have h6':¬ y.put.fin.form fn.blocks.length≠0:=h6;rw[hz,if_neg (by simp),if_neg h6']
theorem QgG (h:(Qg m).1=0) (hf:m[fk]?=some fn) (hb:fn.blocks[bk]?=some y):y.code.length≤40∧Qg (Qgf m fk bk fn y)=if y.code.length=40 then (2,10000*(fk:Int)+100*(bk:Int)+90) else (0,0):=by
 unfold Qg at h ⊢;split at h
 ·cases h
 rename_i h1
 rw[QfB,if_neg h1]
 have hall:=QT h;have hfn:=hall fk fn hf;rw[Nat.zero_add] at hfn
 obtain⟨e1,hbs⟩:=QgM (bk:=bk) (y:=y) hfn
 obtain⟨hy,e2⟩:=Qg3 (hbs bk y hb)
 refine⟨hy,?_⟩
 have e3:Qf.fault m.length fk (fn.put bk y)=if y.code.length=40 then (2,10000*(fk:Int)+100*(bk:Int)+90) else (0,0):=by
  rw[e1]
  by_cases h40:y.code.length=40
  ·rw[if_pos h40] at e2
   have:=Zk (f:=fun b x=>Qe.fault m.length fk fn b x) (j:=0) (QdV (x:=y.put) hb) (fun k x hk hkx=>by
    rcases Qbu hkx hb with ⟨e,_⟩|⟨_,h9⟩
    ·omega
    ·rw[Nat.zero_add];exact hbs k x h9) (by rw[Nat.zero_add,e2];show (2:Int)≠0;decide)
   rw[Nat.zero_add,e2] at this
   rw[this,if_pos h40]
  ·rw[if_neg h40] at e2 ⊢
   refine Qy fun k x hk=>?_;rw[Nat.zero_add]
   rcases Qbu hk hb with ⟨e,rfl⟩|⟨_,h9⟩
   ·subst e;rw[e2]
   ·exact hbs k x h9
 by_cases h40:y.code.length=40
 ·rw[if_pos h40] at e3
  have:=Zk (f:=fun f x=>Qf.fault m.length f x) (j:=0) (QdV (x:=fn.put bk y) hf) (fun k x hk hkx=>by
   rcases Qbu hkx hf with ⟨e,_⟩|⟨_,h9⟩
   ·omega
   ·exact hall k x h9) (by rw[Nat.zero_add,e3];show (2:Int)≠0;decide)
  rw[Nat.zero_add,e3] at this
  rw[if_pos h40]
  exact this
 ·rw[if_neg h40] at e3 ⊢
  refine Qy fun k x hk=>?_;rw[Nat.zero_add]
  rcases Qbu hk hf with ⟨e,rfl⟩|⟨_,h9⟩
  ·subst e;rw[e3]
  ·have:=hall k x h9;rwa [Nat.zero_add] at this
end
section
variable {m:List (Qf 6)}{fk bk:Nat}{fn:Qf 6}{y:Qe 6}
theorem QgZ (h:(Qg m).1=0) (hr:(QW m).1=0):∀ (k:Nat) f,m[k]?=some f→∀ (b:Nat) g,f.blocks[b]?=some g→(Qj (10000*(k:Int)+100*(b:Int)) g.fin (JSt.start m f g) 0 g.code).1=0:=by
 intro k f hf b g hg;unfold QW at hr;rw[if_neg (fun e=>e h)] at hr
 have h1:=QT hr k f hf;rw[Nat.zero_add] at h1
 unfold ZK at h1;have h2:=QT h1 b g hg;rw[Nat.zero_add] at h2
 exact h2
theorem Qcb (h:(Qg m).1=0) (hr:(QW m).1=0) (hf:m[fk]?=some fn) (hb:fn.blocks[bk]?=some y) :
 y.code.length≤40∧QW (Qgf m fk bk fn y)=if y.code.length=40 then (2,10000*(fk:Int)+100*(bk:Int)+90) else (1,10000*(fk:Int)+100*(bk:Int)+y.code.length):=by
 obtain⟨hy,hm⟩:=QgG h hf hb
 refine⟨hy,?_⟩
 by_cases h40:y.code.length=40
 ·rw[if_pos h40] at hm ⊢
  unfold QW;rw[hm,if_pos (by show (2:Int)≠0;decide)]
 rw[if_neg h40] at hm ⊢
 have hall:=QgZ h hr;have ho:=Qjn hf hb
 have hlike:∀ {f f':Qf 6} {g g':Qe 6} (a:Int) (e:MEnd) (l:List Qx),f'.outl=f.outl→g'.outl=g.outl→Qj a e (JSt.start (Qgf m fk bk fn y) f' g') 0 l=Qj a e (JSt.start m f g) 0 l:=by
  intro f f' g g' a e l h1 h2;refine Qd7 ?_ 0 l;rw[← QbX,← QbX,ho,h1,h2]
 have hrun:(Qj (10000*(fk:Int)+100*(bk:Int)) y.put.fin (JSt.start (Qgf m fk bk fn y) (fn.put bk y) y.put) 0 y.put.code)=(1,10000*(fk:Int)+100*(bk:Int)+y.code.length):=by
  rw[hlike (f:=fn) (g:=y) (g':=y.put) _ _ _ (Qhy hb) rfl]
  exact QeJ (hall fk fn hf bk y hb)
 have:=Qbc (m:=Qgf m fk bk fn y) (k:=fk) (q:=bk) (f:=fn.put bk y) (g:=y.put) (by rw[hm]) (QdV hf) (fun j x hj hx=>by
  rcases Qbu hx hf with ⟨e,_⟩|⟨_,h9⟩
  ·omega
  ·unfold ZK;rw[Qy]
   intro b g hg;rw[Nat.zero_add,hlike (f:=x) (g:=g) _ _ _ rfl rfl]
   exact hall j x h9 b g hg) (QdV hb) (fun j x hj hx=>by
  rcases Qbu hx hb with ⟨e,_⟩|⟨_,h9⟩
  ·omega
  ·rw[hlike (f:=fn) (g:=x) _ _ _ (Qhy hb) rfl]
   exact hall fk fn hf j x h9) (by rw[hrun];show (1:Int)≠0;decide)
 rw[this,hrun]
theorem Qce {a:Int}{e:MEnd}(ha:0≤a):∀ (l:List Qx) (s:JSt) (i:Nat),0≤(Qj a e s i l).2
 | [],s,i=>by
   simp only[Qj]
   split
   ·show 0≤a+91;omega
   ·show (0:Int)≤0;omega
 | x::r,s,i=>by
   simp only[Qj]
   split
   ·show 0≤a+(i:Int);omega
   ·exact Qce ha r _ _
theorem Qb0 {α:Type}{f:Nat→α→Int × Int}(h:∀ k x,0≤(f k x).2):∀ (l:List α) (j:Nat),0≤(firstF f j l).2
 | [],j=>by show (0:Int)≤0;omega
 | x::r,j=>by
   simp only[firstF]
   split
   ·exact h j x
   ·exact Qb0 h r _
theorem QeL (h:(Qg m).1=0):0≤(QW m).2:=by
 unfold QW;rw[if_neg (fun e=>e h)]
 refine Qb0 (fun k x=>?_) _ _;unfold ZK;exact Qb0 (fun b g=>Qce (by omega) _ _ _) _ _
end
end Go.Proofs.YtacjnejckfhpoaeGreat
namespace Go.Proofs.YtacjnejckfhpoaeGreat
open Go.ChangeShapes Go.WideShapes Go.ChangeAt Go.RowKit
set_option linter.unusedSimpArgs false
set_option linter.unusedVariables false
theorem Qby {s i j:Nat}{xs:List Value}(hj:j<s):((xs.drop (i*s)).take s)[j]?=xs[i*s+j]?:=by rw[List.getElem?_take,if_pos hj,List.getElem?_drop]
theorem Qjg {s i j t:Nat}{xs:List Value}{y:Value}(ht:t<s) (hij:j≠i):((xs.set (i*s+t) y).drop (j*s)).take s=(xs.drop (j*s)).take s:=by
 apply List.ext_getElem?
 intro q;by_cases hq:q<s
 ·rw[Qby hq,Qby hq,List.getElem?_set,if_neg]
  intro e;rcases Nat.lt_or_gt_of_ne hij with h | h
  ·have:=Nat.mul_le_mul_right s (show j+1≤i from h)
   rw[Nat.add_mul] at this
   omega
  ·have:=Nat.mul_le_mul_right s (show i+1≤j from h)
   rw[Nat.add_mul] at this
   omega
 ·rw[List.getElem?_take,if_neg hq,List.getElem?_take,if_neg hq]
theorem Qgq {s i t:Nat}{xs:List Value}{y:Value}(ht:t<s) (hx:i*s+s≤xs.length):((xs.set (i*s+t) y).drop (i*s)).take s=((xs.drop (i*s)).take s).set t y:=by
 apply List.ext_getElem?
 intro q;have hl:((xs.drop (i*s)).take s).length=s:=by simp;omega
 by_cases hq:q<s
 ·rw[Qby hq,List.getElem?_set,List.getElem?_set]
  by_cases e:t=q
  ·subst e;rw[if_pos rfl,if_pos rfl,if_pos (by omega),if_pos (by omega)]
  ·rw[if_neg (by omega),if_neg e,Qby hq]
 ·rw[List.getElem?_take,if_neg hq,List.getElem?_eq_none (by rw[List.length_set,hl];omega)]
theorem Qe9 {w:World}{e:TypeId}{s n g cap p:Nat}{xs:List Value}(h:w.ownsRow 0 e s (.slice (some ⟨g,0,none⟩) n cap) n xs) (y:Value):(w.setCell ⟨g,p,none⟩ y).ownsRow 0 e s (.slice (some ⟨g,0,none⟩) n cap) n (xs.set p y):=by
 obtain⟨h1,h2⟩:=h
 refine⟨by rw[List.length_set];exact h1,?_⟩
 rcases h2 with ⟨e1,_⟩|⟨g',cap',cur,e1,hg,hh,hn,hm,hs,ht⟩
 ·cases e1
 ·cases e1
  refine .inr ⟨g,cap,cur.setIfInBounds p y,rfl,hg,Qk hh p y,hn,hm,by simpa using hs,?_⟩;rw[Array.toList_setIfInBounds,List.take_set,ht]
theorem Qev {w:World}{e:TypeId}{s n g cap:Nat}{xs:List Value}(h:w.ownsRow 0 e s (.slice (some ⟨g,0,none⟩) n cap) n xs) (p:Nat):w.frozen? ⟨g,p,none⟩=false:=by
 rcases h.2 with ⟨e1,_⟩|⟨g',cap',cur,e1,hg,hh,r⟩
 ·cases e1
 ·cases e1;exact Qo hh p
theorem Qbm {w:World}{e:TypeId}{s n:Nat}{v:Value}{xs:List Value}(h:w.ownsRow 0 e s v n xs){g:Nat}(hg:v.ownBlock=some g):g<w.heap.size:=by
 rcases h.2 with ⟨rfl,_⟩|⟨g',cap,cur,rfl,_,hh,r⟩
 ·simp[Value.ownBlock] at hg
 ·simp[Value.ownBlock] at hg;subst hg;exact lt_of_block hh
theorem Qen {α:Type}{A A':Lay α}(hsub:Lay.Sub A A'){e:TypeId}{w w':World}{O:Nat→Prop}{l:List α}{v:Value}{xs xs':List Value}{S:Nat→Nat→Prop}{i:Nat}{x0 x':α}{cs':List Value}
 (hdis:∀ i j g,S i g→S j g→i=j) (kids:∀ (i:Nat) (x:α),l[i]?=some x→A.In w (fun g=>O g∧v.ownBlock≠some g∧S i g) x ((xs.drop (i*A.size)).take A.size))
 (hi:l[i]?=some x0) (hrow:w'.ownsRow 0 e A.size v l.length xs') (hne:∀ j,j≠i→(xs'.drop (j*A.size)).take A.size=(xs.drop (j*A.size)).take A.size) (heq:(xs'.drop (i*A.size)).take A.size=cs')
 (hkeep:∀ k,k<w.heap.size→v.ownBlock≠some k→¬ S i k→w'.heap[k]?=w.heap[k]?) (hx':A'.In w' All x' cs'):A'.list.In w' All (l.set i x') [v]:=by
 have h0:0<l.length:=Nat.lt_of_le_of_lt (Nat.zero_le _) (List.getElem?_eq_some_iff.1 hi).1;obtain⟨g,cap,rfl,hg,hn⟩:=Qcm hrow h0
 refine⟨some ⟨g,0,none⟩,cap,by rw[List.length_set],fun j x hx=>?_⟩
 have hjl:j<l.length:=by have:=(List.getElem?_eq_some_iff.1 hx).1;rwa [List.length_set] at this
 refine⟨g,0,(xs'.drop (j*A.size)).take A.size,rfl,trivial,hg,fun q hq=>?_,?_⟩
 ·rw[Nat.zero_add,← hsub.1]
  exact Qao hrow hjl (by rw[hsub.1];exact hq)
 ·rcases Qbu hx hi with ⟨e1,e2⟩|⟨e1,e2⟩
  ·subst e1 e2;rw[heq]
   exact hx'
  ·rw[hne j e1]
   exact Lay.mono (hsub.2 (A.keep (fun k hk hl=>hkeep k hl hk.2.1 (fun hs=>e1 (hdis j i k hk.2.2 hs))) (fun _ h _=>h) (kids j x e2))) (fun _ _ _=>trivial)
theorem QgR {α:Type}{A:Lay α}{e:TypeId}{w w':World}{O:Nat→Prop}{l:List α}{v:Value}{xs ds:List Value}{S:Nat→Nat→Prop}{x:α}{g cap:Nat}
 (own:w.ownsRow 0 e A.size v l.length xs) (kids:∀ (i:Nat) (x:α),l[i]?=some x→A.In w (fun g=>O g∧v.ownBlock≠some g∧S i g) x ((xs.drop (i*A.size)).take A.size)) (hO:∀ k,v.ownBlock=some k→O k)
 (hx:A.In w (fun k=>O k∧v.ownBlock≠some k) x ds) (hg:w.grownBy w' v.ownBlock) (hat:v.ownBlock=some g∨g=w.heap.size) (ho:w'.ownsRow 0 e A.size (.slice (some ⟨g,0,none⟩) (l.length+1) cap) (l.length+1) (xs++ds)) :
 A.list.In w' (fun k=>O k∨w.heap.size≤k) (l++[x]) [.slice (some ⟨g,0,none⟩) (l.length+1) cap]:=by
 have hxl:=own.1;have hdl:=A.len hx;have keep:∀ {y:α} {es:List Value},A.In w (fun k=>O k∧v.ownBlock≠some k) y es→A.In w' (fun k=>O k∨w.heap.size≤k) y es:=fun hy=>A.keep (fun k hk hl=>hg.block k hl (fun e=>hk.2 e.symm)) (fun k hk hl=>.inl hk.1) hy;have hgl:g<w'.heap.size:=Qbm ho rfl;refine⟨some ⟨g,0,none⟩,cap,by simp,fun i y hy=>?_⟩
 have hil:i<l.length+1:=by have:=(List.getElem?_eq_some_iff.1 hy).1;simpa using this
 refine⟨g,0,((xs++ds).drop (i*A.size)).take A.size,rfl,by rcases hat with h | h;exact .inl (hO g h);exact .inr (by omega),hgl,fun j hj=>by rw[Nat.zero_add];exact Qao ho hil hj,?_⟩
 rw[List.getElem?_append] at hy
 split at hy
 ·rename_i hi
  have hm:(i+1)*A.size≤l.length*A.size:=Nat.mul_le_mul_right _ hi;rw[Nat.add_mul] at hm
  rw[List.drop_append_of_le_length (by omega),List.take_append_of_le_length (by simp;omega)]
  exact keep (Lay.mono (kids i y hy) (fun k hk _=>⟨hk.1,hk.2.1⟩))
 ·rename_i hi
  have hi2:i=l.length:=by omega
  subst hi2;simp at hy
  subst hy;rw[List.drop_append,List.drop_of_length_le (by omega),← hxl,Nat.sub_self,List.drop_zero,List.nil_append,List.take_of_length_le (by omega)]
  exact keep hx
structure QlI (w:World) (B0:Nat) (m:List (Qf 6)) (fk bk:Nat) (fn:Qf 6) (y:Qe 6) (v:Value) (G cG gf cF:Nat) (cv:Option Addr) (cb:Nat) (xs:List Value):Prop where
 top:v=.slice (some ⟨G,0,none⟩) m.length cG
 row:w.cell? ⟨G,fk*4+3,none⟩=some (.slice (some ⟨gf,0,none⟩) fn.blocks.length cF)
 code:w.cell? ⟨gf,bk*12+2,none⟩=some (.slice cv y.code.length cb)
 own:w.ownsRow 0 46 8 (.slice cv y.code.length cb) y.code.length xs
 after:∀ (wa w9:World) (ds:List Value) (g cap:Nat),Below w.heap.size w wa→insC.In wa (fun k=>w.heap.size≤k) zOut ds→wa.grownBy w9 (Value.slice cv y.code.length cb).ownBlock→((Value.slice cv y.code.length cb).ownBlock=some g∨g=wa.heap.size)→w9.ownsRow 0 46 8 (.slice (some ⟨g,0,none⟩) (y.code.length+1) cap) (y.code.length+1) (xs++ds) →
  (w9.cell? ⟨gf,bk*12+2,none⟩=some (.slice cv y.code.length cb)∧w9.frozen? ⟨gf,bk*12+2,none⟩=false)∧(QjX 6).In (w9.setCell ⟨gf,bk*12+2,none⟩ (.slice (some ⟨g,0,none⟩) (y.code.length+1) cap)) All (Qgf m fk bk fn y) [v]∧Below B0 w (w9.setCell ⟨gf,bk*12+2,none⟩ (.slice (some ⟨g,0,none⟩) (y.code.length+1) cap))∧(w9.setCell ⟨gf,bk*12+2,none⟩ (.slice (some ⟨g,0,none⟩) (y.code.length+1) cap)).cell? ⟨gf,bk*12+2,none⟩=some (.slice (some ⟨g,0,none⟩) (y.code.length+1) cap)
theorem Qkj {w:World}{B0:Nat}{m:List (Qf 6)}{fk bk:Nat}{fn:Qf 6}{y:Qe 6}{v:Value}(h:(Qlt 6).In w (Zm B0) m [v]) (hB:B0≤w.heap.size) (hf:m[fk]?=some fn) (hb:fn.blocks[bk]?=some y):∃ G cG gf cF cv cb xs,QlI w B0 m fk bk fn y v G cG gf cF cv cb xs:=by
 obtain⟨v',ys,S,e1,hown,hO,hdis,kids⟩:=h
 cases e1
 have hfl:fk<m.length:=(List.getElem?_eq_some_iff.1 hf).1;obtain⟨G,cG,rfl,hG,-⟩:=Qcm hown (Nat.lt_of_le_of_lt (Nat.zero_le _) hfl)
 have hkf:=kids fk fn hf;obtain⟨r0,rest,e2,hr0,S1,c1,c2,e3,hpr,hbl⟩:=hkf
 obtain⟨d1,d2,e4,hpa,hre⟩:=hpr
 obtain⟨vb,zs,S2,e5,hownB,hOB,hdisB,kidsB⟩:=hbl
 have hbl2:bk<fn.blocks.length:=(List.getElem?_eq_some_iff.1 hb).1;obtain⟨gf,cF,rfl,hgf,-⟩:=Qcm hownB (Nat.lt_of_le_of_lt (Nat.zero_le _) hbl2)
 have hOgf:=hOB gf rfl;have hky:=kidsB bk y hb;obtain⟨q0,rest2,e6,hq0,S3,f1,f2,e7,hyp,S4,f3,f4,e8,hyc,hye⟩:=hky
 obtain⟨vc,xs,S5,e9,hownC,hOC,hdisC,kidsC⟩:=hyc
 obtain⟨t1,u1,rfl,-⟩:=QO hpa
 obtain⟨t2,u2,rfl,-⟩:=QO hre
 obtain⟨t3,u3,rfl,-⟩:=QO hyp
 obtain⟨rfl,hr0'⟩:=hr0
 obtain⟨rfl,hq0'⟩:=hq0
 subst e4 e5 e3 e9 e8 e7
 have hvc:∃ cv cb,vc=.slice cv y.code.length cb:=by
  rcases hownC.2 with ⟨rfl,h4⟩|⟨g,cap,cur,rfl,_⟩
  ·exact⟨none,0,by rw[h4]⟩
  ·exact⟨_,_,rfl⟩
 obtain⟨cv,cb,rfl⟩:=hvc
 have hsF:(Qfr 6).size=4:=rfl;have hsB:(Qcc 6).size=12:=rfl;have hs8:insC.size=8:=rfl;rw[hsF] at hown e2 kids
 rw[hsB] at hownB e6 kidsB
 rw[hs8] at hownC kidsC
 refine⟨G,cG,gf,cF,cv,cb,xs,rfl,?_,?_,hownC,?_⟩
 ·have:=Qao hown hfl (show 3<4 by decide)
  rw[this,e2]
  rfl
 ·have:=Qao hownB hbl2 (show 2<12 by decide)
  rw[this,e6]
  rfl
 intro wa w9 ds g cap hba hz hgr hat ho;have hzl:zs.length=fn.blocks.length*12:=hownB.1
 have hC0:∀ k,(Value.slice cv y.code.length cb).ownBlock=some k→k≠gf∧S2 bk k∧¬ S1 k∧S fk k∧B0≤k∧¬ S3 k∧S4 k:=fun k hk=>by
  have h:=hOC k hk;exact⟨fun e=>h.1.1.2.1 (by rw[e];rfl),h.1.1.2.2,h.1.1.1.2,h.1.1.1.1.2.2,h.1.1.1.1.1,h.1.2,h.2⟩
 have hsa:=hba.size;have hCl:∀ k,(Value.slice cv y.code.length cb).ownBlock=some k→k<w.heap.size:=fun k hk=>Qbm hownC hk
 -- the blocks' row is as it was
 have keep9:∀ k,k<w.heap.size→(Value.slice cv y.code.length cb).ownBlock≠some k→w9.heap[k]?=w.heap[k]?:=fun k hk hne=>(hgr.block k (by omega) (fun e=>hne e.symm)).trans (hba.block k hk);have hgf9:(Value.slice cv y.code.length cb).ownBlock≠some gf:=fun e=>(hC0 gf e).1 rfl;have hownB9:w9.ownsRow 0 60 12 (.slice (some ⟨gf,0,none⟩) fn.blocks.length cF) fn.blocks.length zs:=Zb hownB (fun k hk _ hkl=>⟨keep9 k hkl (fun e=>(hC0 k e).1 (by cases hk;rfl)),Nat.zero_le _⟩)
 have h9c:w9.cell? ⟨gf,bk*12+2,none⟩=some (.slice cv y.code.length cb):=by
  have:=Qao hownB9 hbl2 (show 2<12 by decide)
  rw[this,e6]
  rfl
 obtain⟨w10,hw10⟩:∃ w10,w10=w9.setCell ⟨gf,bk*12+2,none⟩ (.slice (some ⟨g,0,none⟩) (y.code.length+1) cap):=⟨_,rfl⟩
 rw[← hw10]
 have hgf9l:gf<w9.heap.size:=Nat.lt_of_lt_of_le hgf (Nat.le_trans hsa hgr.size);have keep10:∀ k,k≠gf→w10.heap[k]?=w9.heap[k]?:=fun k hk=>by rw[hw10];exact Below.heap_setCell _ _ _ _ hk
 have keepA:∀ k,k<w.heap.size→k≠gf→(Value.slice cv y.code.length cb).ownBlock≠some k→w10.heap[k]?=w.heap[k]?:=fun k hk h1 h2=>(keep10 k h1).trans (keep9 k hk h2);have hownB10:w10.ownsRow 0 60 12 (.slice (some ⟨gf,0,none⟩) fn.blocks.length cF) fn.blocks.length (zs.set (bk*12+2) (.slice (some ⟨g,0,none⟩) (y.code.length+1) cap)):=by rw[hw10];exact Qe9 hownB9 _
 -- the code
 have hcode10:insC.list.In w10 All (y.code++[zOut]) [.slice (some ⟨g,0,none⟩) (y.code.length+1) cap]:=by
  have hownA:wa.ownsRow 0 46 insC.size (.slice cv y.code.length cb) y.code.length xs:=Zb hownC (fun k _ _ hkl=>⟨hba.block k hkl,Nat.zero_le _⟩);have hp:=QgR (A:=insC) (w:=wa) (w':=w9) (O:=fun k=>k≠gf) (S:=S5) (x:=zOut) hownA (fun i x hx=>Lay.mono (Lay.below (kidsC i x hx) hba) (fun k hk _=>⟨fun e=>hk.1.1.1.2.1 (by rw[e];rfl),hk.2⟩)) (fun k hk=>(hC0 k hk).1) (Lay.mono hz (fun k hk _=>⟨fun e=>by omega,fun e=>by have:=hCl k e;omega⟩)) hgr hat ho;exact insC.list.keep (O:=fun k=>k≠gf∨wa.heap.size≤k) (fun k hk _=>keep10 k (by rcases hk with h | h;exact h;omega)) (fun _ _ _=>trivial) hp
 -- the block
 have hlenk:bk*12+12≤zs.length:=by
  have:=Nat.mul_le_mul_right 12 (show bk+1≤fn.blocks.length from hbl2)
  rw[Nat.add_mul] at this
  omega
 have hblk10:(QaT 6).In w10 All y.put ([Value.int .i64 y.regs]++([Value.slice t3 y.params.length u3]++([Value.slice (some ⟨g,0,none⟩) (y.code.length+1) cap]++f4))):=by
  refine⟨[_],_,rfl,⟨rfl,hq0'⟩,[_],_,rfl,?_,[_],_,rfl,?_,?_⟩
  ·exact(Qh 6).keep (fun k hk hl=>keepA k hl (fun e=>hk.1.2.1 (by rw[e];rfl)) (fun e=>(hC0 k e).2.2.2.2.2.1 hk.2)) (fun _ _ _=>trivial) hyp
  ·exact hcode10
  ·exact endL.keep (fun k hk hl=>keepA k hl (fun e=>hk.1.1.2.1 (by rw[e];rfl)) (fun e=>hk.2 (hC0 k e).2.2.2.2.2.2)) (fun _ _ _=>trivial) hye
 -- the function
 have hblocks10:(QaT 6).list.In w10 All (fn.blocks.set bk y.put) [.slice (some ⟨gf,0,none⟩) fn.blocks.length cF]:=by
  refine Qen (A:=Qcc 6) (Qdq 6) (e:=60) (w:=w) (xs:=zs) (S:=S2) hdisB kidsB hb hownB10 (fun j hj=>Qjg (by decide) hj) ?_ (fun k hk h1 h2=>keepA k hk (fun e=>h1 (by rw[e];rfl)) (fun e=>h2 (hC0 k e).2.1)) hblk10
  have:=Qgq (s:=12) (i:=bk) (t:=2) (xs:=zs) (y:=.slice (some ⟨g,0,none⟩) (y.code.length+1) cap) (by decide) hlenk
  rw[hsB,this,e6]
  rfl
 have hfun10:(Qiq 6).In w10 All (fn.put bk y) ([Value.int .i64 fn.regs]++(([Value.slice t1 fn.params.length u1]++[Value.slice t2 fn.results.length u2])++[Value.slice (some ⟨gf,0,none⟩) fn.blocks.length cF])):=by
  refine⟨[_],_,rfl,⟨rfl,hr0'⟩,[_],_,rfl,?_,[_],_,rfl,?_,hblocks10⟩
  ·exact(Qh 6).keep (fun k hk hl=>keepA k hl (fun e=>hOgf.2 (by rw[← e];exact hk.2)) (fun e=>(hC0 k e).2.2.1 hk.2)) (fun _ _ _=>trivial) hpa
  ·exact(Qh 6).keep (fun k hk hl=>keepA k hl (fun e=>hOgf.2 (by rw[← e];exact hk.2)) (fun e=>(hC0 k e).2.2.1 hk.2)) (fun _ _ _=>trivial) hre
 have hgG:gf≠G:=fun e=>hOgf.1.2.1 (by rw[e];rfl);have hown10:w10.ownsRow 0 40 4 (.slice (some ⟨G,0,none⟩) m.length cG) m.length ys:=Zb hown (fun k hk _ hkl=>⟨keepA k hkl (fun e=>hOgf.1.2.1 (by rw[← e];exact hk)) (fun e=>by have:=(hOC k e).1.1.1.1.2.1;exact this hk),Nat.zero_le _⟩);refine⟨⟨h9c,Qev hownB9 _⟩,?_,?_,?_⟩
 ·refine Qen (A:=Qfr 6) (QhC 6) (e:=40) (w:=w) (xs:=ys) (S:=S) hdis kids hf hown10 (fun j _=>rfl) ?_ (fun k hk h1 h2=>keepA k hk (fun e=>h2 (by rw[e];exact hOgf.1.2.2)) (fun e=>h2 (hC0 k e).2.2.2.1)) hfun10;rw[hsF,e2]
 ·have hg0:B0≤gf:=hOgf.1.1;have b9:Below B0 w w9:=(hba.mono hB).grown hgr (Nat.le_trans hB hsa) (fun k hk=>(hC0 k hk).2.2.2.2.1);rw[hw10]
  exact b9.setCell (p:=⟨gf,bk*12+2,none⟩) hg0 _
 ·have:=Qao hownB10 hbl2 (show 2<12 by decide)
  rw[this,Qgq (s:=12) (i:=bk) (t:=2) (by decide) hlenk,e6]
  rfl
theorem Qkz (p:Nat) (h:p≤40):IntKind.i64.wrap (p:Int)=(p:Int):=by
 have e1:(p:Int)%2 ^ 64=(p:Int):=by omega
 simp only[IntKind.wrap,IntKind.signed,IntKind.bits,e1,Bool.true_and]
 rw[if_neg (by simp only[decide_eq_true_eq];omega)]
def Qlj (H fk bk:Nat) (t:Tmp) (v:Value) (w:World):Prop :=
 v=(([(10,.pointer (some ⟨H,0,none⟩)),(1,.int .i64 (fk:Int)),(2,.int .i64 (bk:Int)),(77,.agg #[.int .i64 2,.int .i64 (10000*(fk:Int)+100*(bk:Int)+90)]),(78,.int .i64 (fk:Int)),(79,.int .i64 (bk:Int)),(80,.int .i64 (10000*(fk:Int)+100*(bk:Int)+90)),(81,.agg #[.int .i64 2,.int .i64 (10000*(fk:Int)+100*(bk:Int)+90)]),(82,.bool true),(6,.bool true)]:List (Tmp × Value)).lookup t).getD undef
theorem QlQ {w6:World}{H fk bk:Nat}(j1:fk<1000000) (j2:bk<1000000) (q0:w6.cell? ⟨H,0,none⟩=some (.int .i64 2)) (q1:w6.cell? ⟨H,1,none⟩=some (.int .i64 (10000*(fk:Int)+100*(bk:Int)+90)))
 (a:Act) (m:Nat) (hn:a.tmps.size=m) (hn':95≤m) (h10:a.tmps.getD 10 undef=.pointer (some ⟨H,0,none⟩)) (h1:a.tmps.getD 1 undef=.int .i64 (fk:Int)) (h2:a.tmps.getD 2 undef=.int .i64 (bk:Int)) :
 Code.wp Tryz.prog ((Tryz.f5.body.bind (QF 15)).getD .skip) (fun e a' w'=>e=.normal∧∃ vs,a'=Z3 a vs [77,78,79,80,81,82,6]∧vs 6=.bool true∧Below w6.heap.size w6 w') a w6:=by
 conv=>arg 2;whnf
 refine Zs (Qlj H fk bk) (fun w=>Below w6.heap.size w6 w) (fun w w'=>Below w.heap.size w w') (outs:=[10,1,2]) (gs:=[]) (bs:=[true,true,true,true,true,true,true]) (by kernel_rfl) (n:=95) hn hn' (by kernel_rfl) ?hR ?hG (ZW (Below.refl _ _) 1) ⟨h10,h1,h2,trivial⟩ ?hA ?hend
 case hR=>exact fun t v w w' _ h=>h
 case hG=>exact trivial
 case hend=>exact fun vs w' hW hk=>⟨rfl,vs,rfl,hk 6 (by kernel_rfl),hW⟩
 case hA =>
  refine⟨fun a w hW hk K hK=>?_,?_⟩
  ·obtain⟨k0,-⟩:=hk
   have k0:a.tmps.getD 10 undef=.pointer (some ⟨H,0,none⟩):=k0;have c0:=QY q0 hW;have c1:=QY q1 hW;go_simp;exact hK _ _ (Below.refl _ _) hW rfl
  refine⟨fun a w hW hk K hK=>?_,?_⟩
  ·obtain⟨k0,-⟩:=hk
   have k0:a.tmps.getD 1 undef=.int .i64 (fk:Int):=k0;go_simp;exact hK _ _ (Below.refl _ _) hW rfl
  refine⟨fun a w hW hk K hK=>?_,?_⟩
  ·obtain⟨k0,-⟩:=hk
   have k0:a.tmps.getD 2 undef=.int .i64 (bk:Int):=k0;go_simp;exact hK _ _ (Below.refl _ _) hW rfl
  refine⟨fun a w hW hk K hK=>?_,?_⟩
  ·obtain⟨k0,k1,-⟩:=hk
   have k0:a.tmps.getD 78 undef=.int .i64 (fk:Int):=k0;have k1:a.tmps.getD 79 undef=.int .i64 (bk:Int):=k1;go_simp;refine Calls.mono (ZT ⟨j1,j2⟩) ?_;rintro r7 w7 ⟨rfl,b7⟩;go_simp;exact hK _ _ b7 (hW.trans (b7.mono hW.size)) rfl
  refine⟨fun a w hW hk K hK=>?_,?_⟩
  ·obtain⟨k0,-⟩:=hk
   have k0:a.tmps.getD 80 undef=.int .i64 (10000*(fk:Int)+100*(bk:Int)+90):=k0;have kk:a.tmps[80]?.getD undef=.int .i64 (10000*(fk:Int)+100*(bk:Int)+90):=by rw[← Array.getD_eq_getD_getElem?];exact k0
   go_simp;exact hK _ _ (Below.refl _ _) hW rfl
  refine⟨fun a w hW hk K hK=>?_,?_⟩
  ·obtain⟨k0,k1,-⟩:=hk
   have k0:a.tmps.getD 77 undef=.agg #[.int .i64 2,.int .i64 (10000*(fk:Int)+100*(bk:Int)+90)]:=k0;have k1:a.tmps.getD 81 undef=.agg #[.int .i64 2,.int .i64 (10000*(fk:Int)+100*(bk:Int)+90)]:=k1;go_simp;exact hK _ _ (Below.refl _ _) hW (by simp;rfl)
  refine⟨fun a w hW hk K hK=>?_,?_⟩
  ·obtain⟨k0,-⟩:=hk
   have k0:a.tmps.getD 82 undef=.bool true:=k0;go_simp;exact hK _ _ (Below.refl _ _) hW rfl
  trivial
def Qls (H fk bk gf nc cb:Nat) (cv:Option Addr) (t:Tmp) (v:Value) (w:World):Prop :=
 v=(([(10,.pointer (some ⟨H,0,none⟩)),(1,.int .i64 (fk:Int)),(2,.int .i64 (bk:Int)),(9,.pointer (some ⟨gf,bk*12,none⟩)),(83,.agg #[.int .i64 1,.int .i64 (10000*(fk:Int)+100*(bk:Int)+(nc:Int))]),(84,.int .i64 (fk:Int)),(85,.int .i64 (bk:Int)),(86,.pointer (some ⟨gf,bk*12,none⟩)),(87,.pointer (some ⟨gf,bk*12,none⟩)),(88,.pointer (some ⟨gf,bk*12+2,none⟩)),(89,.slice cv (nc+1) cb),(90,.int .i64 ((nc:Int)+1)),(91,.int .i64 (nc:Int)),(92,.int .i64 (10000*(fk:Int)+100*(bk:Int)+(nc:Int))),(93,.agg #[.int .i64 1,.int .i64 (10000*(fk:Int)+100*(bk:Int)+(nc:Int))]),(94,.bool true),(6,.bool true)]:List (Tmp × Value)).lookup t).getD undef
theorem QlJ {w6:World}{H fk bk gf nc cb:Nat}{cv:Option Addr}(j1:fk<1000000) (j2:bk<1000000) (j3:nc≤40) (q0:w6.cell? ⟨H,0,none⟩=some (.int .i64 1)) (q1:w6.cell? ⟨H,1,none⟩=some (.int .i64 (10000*(fk:Int)+100*(bk:Int)+(nc:Int)))) (q2:w6.cell? ⟨gf,bk*12+2,none⟩=some (.slice cv (nc+1) cb))
 (a:Act) (m:Nat) (hn:a.tmps.size=m) (hn':95≤m) (h10:a.tmps.getD 10 undef=.pointer (some ⟨H,0,none⟩)) (h1:a.tmps.getD 1 undef=.int .i64 (fk:Int)) (h2:a.tmps.getD 2 undef=.int .i64 (bk:Int)) (h9:a.tmps.getD 9 undef=.pointer (some ⟨gf,bk*12,none⟩)) :
 Code.wp Tryz.prog ((Tryz.f5.body.bind (QF 16)).getD .skip) (fun e a' w'=>e=.normal∧∃ vs,a'=Z3 a vs [83,84,85,86,87,88,89,90,91,92,93,94,6]∧vs 6=.bool true∧Below w6.heap.size w6 w') a w6:=by
 conv=>arg 2;whnf
 refine Zs (Qls H fk bk gf nc cb cv) (fun w=>Below w6.heap.size w6 w) (fun w w'=>Below w.heap.size w w') (outs:=[10,1,2,9]) (gs:=[]) (bs:=[true,true,true,true,true,true,true,true,true,true,true,true,true]) (by kernel_rfl) (n:=95) hn hn' (by kernel_rfl) ?hR ?hG (ZW (Below.refl _ _) 1) ⟨h10,h1,h2,h9,trivial⟩ ?hA ?hend
 case hR=>exact fun t v w w' _ h=>h
 case hG=>exact trivial
 case hend=>exact fun vs w' hW hk=>⟨rfl,vs,rfl,hk 6 (by kernel_rfl),hW⟩
 case hA =>
  refine⟨fun a w hW hk K hK=>?_,?_⟩
  ·obtain⟨k0,-⟩:=hk
   have k0:a.tmps.getD 10 undef=.pointer (some ⟨H,0,none⟩):=k0;have c0:=QY q0 hW;have c1:=QY q1 hW;go_simp;exact hK _ _ (Below.refl _ _) hW rfl
  refine⟨fun a w hW hk K hK=>?_,?_⟩
  ·obtain⟨k0,-⟩:=hk
   have k0:a.tmps.getD 1 undef=.int .i64 (fk:Int):=k0;go_simp;exact hK _ _ (Below.refl _ _) hW rfl
  refine⟨fun a w hW hk K hK=>?_,?_⟩
  ·obtain⟨k0,-⟩:=hk
   have k0:a.tmps.getD 2 undef=.int .i64 (bk:Int):=k0;go_simp;exact hK _ _ (Below.refl _ _) hW rfl
  refine⟨fun a w hW hk K hK=>?_,?_⟩
  ·obtain⟨k0,-⟩:=hk
   have k0:a.tmps.getD 9 undef=.pointer (some ⟨gf,bk*12,none⟩):=k0;go_simp;exact hK _ _ (Below.refl _ _) hW rfl
  refine⟨fun a w hW hk K hK=>?_,?_⟩
  ·obtain⟨k0,-⟩:=hk
   have k0:a.tmps.getD 86 undef=.pointer (some ⟨gf,bk*12,none⟩):=k0;go_simp;exact hK _ _ (Below.refl _ _) hW rfl
  refine⟨fun a w hW hk K hK=>?_,?_⟩
  ·obtain⟨k0,-⟩:=hk
   have k0:a.tmps.getD 87 undef=.pointer (some ⟨gf,bk*12,none⟩):=k0;go_simp;exact hK _ _ (Below.refl _ _) hW rfl
  refine⟨fun a w hW hk K hK=>?_,?_⟩
  ·obtain⟨k0,-⟩:=hk
   have k0:a.tmps.getD 88 undef=.pointer (some ⟨gf,bk*12+2,none⟩):=k0;have c0:=QY q2 hW;go_simp;exact hK _ _ (Below.refl _ _) hW rfl
  refine⟨fun a w hW hk K hK=>?_,?_⟩
  ·obtain⟨k0,-⟩:=hk
   have k0:a.tmps.getD 89 undef=.slice cv (nc+1) cb:=k0;go_simp;exact hK _ _ (Below.refl _ _) hW (by simp;rfl)
  refine⟨fun a w hW hk K hK=>?_,?_⟩
  ·obtain⟨k0,-⟩:=hk
   have k0:a.tmps.getD 90 undef=.int .i64 ((nc:Int)+1):=k0;go_simp;exact hK _ _ (Below.refl _ _) hW (by first | (rw[Qkz _ j3];rfl) | (simp;rfl))
  refine⟨fun a w hW hk K hK=>?_,?_⟩
  ·obtain⟨k0,k1,k2,-⟩:=hk
   have k0:a.tmps.getD 84 undef=.int .i64 (fk:Int):=k0;have k1:a.tmps.getD 85 undef=.int .i64 (bk:Int):=k1;have k2:a.tmps.getD 91 undef=.int .i64 (nc:Int):=k2;go_simp;refine Calls.mono (QeW ⟨j1,j2,by omega⟩) ?_;rintro r7 w7 ⟨rfl,b7⟩;go_simp;exact hK _ _ b7 (hW.trans (b7.mono hW.size)) rfl
  refine⟨fun a w hW hk K hK=>?_,?_⟩
  ·obtain⟨k0,-⟩:=hk
   have k0:a.tmps.getD 92 undef=.int .i64 (10000*(fk:Int)+100*(bk:Int)+(nc:Int)):=k0;have kk:a.tmps[92]?.getD undef=.int .i64 (10000*(fk:Int)+100*(bk:Int)+(nc:Int)):=by rw[← Array.getD_eq_getD_getElem?];exact k0
   go_simp;exact hK _ _ (Below.refl _ _) hW rfl
  refine⟨fun a w hW hk K hK=>?_,?_⟩
  ·obtain⟨k0,k1,-⟩:=hk
   have k0:a.tmps.getD 83 undef=.agg #[.int .i64 1,.int .i64 (10000*(fk:Int)+100*(bk:Int)+(nc:Int))]:=k0;have k1:a.tmps.getD 93 undef=.agg #[.int .i64 1,.int .i64 (10000*(fk:Int)+100*(bk:Int)+(nc:Int))]:=k1;go_simp;exact hK _ _ (Below.refl _ _) hW (by simp;rfl)
  refine⟨fun a w hW hk K hK=>?_,?_⟩
  ·obtain⟨k0,-⟩:=hk
   have k0:a.tmps.getD 94 undef=.bool true:=k0;go_simp;exact hK _ _ (Below.refl _ _) hW rfl
  trivial
theorem QhP {n:Nat}{m:List (Qf n)}{fk bk:Nat}{fn:Qf n}{y:Qe n}(h:¬ QG m) (hf:m[fk]?=some fn) (hb:fn.blocks[bk]?=some y) (hy:y.code.length≤40):¬ QG (Qgf m fk bk fn y):=by
 rintro (e | ⟨x,hx,e⟩)
 ·rw[QfB] at e;exact h (.inl e)
 obtain⟨j,hj⟩:=List.mem_iff_getElem?.1 hx
 rcases Qbu hj hf with ⟨_,rfl⟩|⟨_,h9⟩
 rotate_left
 ·exact h (.inr ⟨x,List.mem_of_getElem? h9,e⟩)
 refine h (.inr ⟨fn,List.mem_of_getElem? hf,?_⟩);rcases e with e | e | e | ⟨z,hz,e⟩
 ·rw[QdW] at e;exact .inl e
 ·exact .inr (.inl e)
 ·exact .inr (.inr (.inl e))
 obtain⟨q,hq⟩:=List.mem_iff_getElem?.1 hz
 refine .inr (.inr (.inr ?_));rcases Qbu hq hb with ⟨_,rfl⟩|⟨_,h9⟩
 rotate_left
 ·exact⟨z,List.mem_of_getElem? h9,e⟩
 refine⟨y,List.mem_of_getElem? hb,?_⟩
 rcases e with e | e | e | e | e | e | e | ⟨u,hu,e⟩
 ·have e:200<(y.code++[zOut]).length:=e;rw[List.length_append] at e
  simp at e
  omega
 ·exact .inr (.inl e)
 ·exact .inr (.inr (.inl e))
 ·exact .inr (.inr (.inr (.inl e)))
 ·exact .inr (.inr (.inr (.inr (.inl e))))
 ·exact .inr (.inr (.inr (.inr (.inr (.inl e)))))
 ·exact .inr (.inr (.inr (.inr (.inr (.inr (.inl e))))))
 ·have hu:u∈y.code++[zOut]:=hu;rcases List.mem_append.1 hu with hu | hu
  ·exact .inr (.inr (.inr (.inr (.inr (.inr (.inr ⟨u,hu,e⟩))))))
  ·simp at hu;subst hu
   exact absurd e (by decide)
theorem Qfu {m:List (Qf 6)}(h:(Qg m).1=0):Qg m=(0,0):=by
 unfold Qg at h ⊢;split at h
 ·cases h
 ·rename_i h1
  rw[if_neg h1]
  exact Qy (fun k x hk=>QT h k x hk)
theorem QkO (f:Int){L:Nat}(h0:0<L) (hL:L≤100000):∃ i:Nat,i<L∧wrap64 ((IntKind.u64.wrap f).tmod (L:Int))=(i:Int):=by
 have h1:0≤IntKind.u64.wrap f:=by rw[IntKind.wrap_u64];omega
 have hp:(0:Int)<L:=by omega
 have h2:=Int.emod_nonneg (IntKind.u64.wrap f) (show (L:Int)≠0 by omega);have h3:=Int.emod_lt_of_pos (IntKind.u64.wrap f) hp;refine⟨(IntKind.u64.wrap f%(L:Int)).toNat,by omega,?_⟩
 rw[Int.tmod_eq_emod_of_nonneg h1,wrap64]
 omega
theorem Qj5 (w:World) (O:Nat→Prop):insC.In w O zOut [.int .i64 13,.int .i64 (-1),.int .i64 0,.int .i64 0,.int .i64 0,.int .i64 0,.slice none 0 0,.slice none 0 0]:=by
 have n0:intsC.In w O ([]:List Int) [.slice none 0 0]:=⟨⟨_,_,rfl,Nat.le_refl _⟩,Lay.list_nil _ _ _ _ _⟩;exact ZV (x:=zOut) n0 n0 (by decide)
theorem Qgb {n:Nat}{w:World}{m:List (Qf n)}{p:Option Addr}{c:Nat}(f b:Int) (hm:(Qa5 n).In w All m [.slice p m.length c]) (hno:QG m∨(Qg m).1≠0) :
 Calls Tryz.prog 5 #[.agg #[.slice p m.length c],.int .i64 f,.int .i64 b] w fun r w'=>r=.returned (.bool true)∧Below w.heap.size w w':=by
 have HM:=Qa hm;have HNO:=Qa hno;clear hno;have b1:=QQ w (.cells #[.slice p m.length c] 24);have B1:=Qa b1;have X1:Hid (Blk (w.alloc (.cells #[.slice p m.length c] 24)) w.heap.size #[.slice p m.length c] 24):=Blk.new _ _ _;have hfld:=Qlf;clear hm b1;go_enter Tryz.func5,Tryz.ntmps5
 go_upto_region 1 with fail
 generalize w.alloc (.cells #[.slice p m.length c] 24)=w1 at B1 X1 ⊢;obtain⟨X,hX⟩:∃ X,X=w.heap.size:=⟨_,rfl⟩
 rw[← hX] at X1 ⊢
 clear hX;go_wp2_with fail
 refine(QaU w1).mono ?_
 rintro e2 w2 ⟨rfl,b2⟩;have B2:=Qa (B1.out.trans (b2.mono B1.out.size));have X2:=Qa (X1.out.below b2);clear X1 b2 B1;have x2:=Qb X2.out 0 _ rfl;have CG:=Qa (QaS n m p c w2 (Lay.below HM.out B2.out));unfold Rd at CG;by_cases hg:QG m
 ·rw[QE hg] at CG
  go_wp2_with fail
  refine CG.out.mono ?_;rintro e3 w3 ⟨rfl,b3⟩;have B3:=Qa (B2.out.trans (b3.mono B2.out.size));clear b3 CG;go_wp2_with fail
  go_ret;exact⟨rfl,B3.out⟩
 rw[QB hg] at CG
 have hf:(Qg m).1≠0:=by rcases HNO.out with h | h;exact absurd h hg;exact h
 have HMS:=Qa (Qae hg);go_wp2_with fail
 refine CG.out.mono ?_;rintro e3 w3 ⟨rfl,b3⟩;have B3:=Qa (B2.out.trans (b3.mono B2.out.size));have X3:=Qa (X2.out.below b3);clear b3 CG X2 B2 x2;have x3:=Qb X3.out 0 _ rfl;have CF:=Qa (QbA (Lay.below HM.out B3.out) HMS.out);unfold Rd at CF;obtain⟨cc,ca,hcf⟩:∃ cc ca,Qg m=(cc,ca):=⟨_,_,rfl⟩
 rw[hcf] at hf CF
 have hf2:(cc != 0)=true:=by simpa using hf
 clear hf;go_wp2_with fail
 refine CF.out.mono ?_;rintro e4 w4 ⟨rfl,b4⟩;have B4:=Qa (B3.out.trans (b4.mono B3.out.size));clear b4 CF;simp only[QD]
 go_wp2_with fail
 go_ret;exact⟨rfl,B4.out⟩
theorem QhN {w:World}{m:List (Qf 6)}{p:Option Addr}{c:Nat}(f b:Int) (hm:(QiO 6).In w All m [.slice p m.length c]) (hng:¬ QG m) (hf0:(Qg m).1=0) :
 Calls Tryz.prog 5 #[.agg #[.slice p m.length c],.int .i64 f,.int .i64 b] w fun r w'=>r=.returned (.bool true)∧Below w.heap.size w w':=by
 have HM:=Qa hm;have HNG:=Qa hng;have HF0:=Qa hf0;have HMS:=Qa (Qae hng);have hmr:=Qbv hf0;have hl1:=hmr.1;clear hng hf0 hmr;have b1:=QQ w (.cells #[.slice p m.length c] 24);have B1:=Qa b1;have X1:Hid (Blk (w.alloc (.cells #[.slice p m.length c] 24)) w.heap.size #[.slice p m.length c] 24):=Blk.new _ _ _;have hfld:=Qlf;clear hm b1;go_enter Tryz.func5,Tryz.ntmps5
 go_upto_region 1 with fail
 generalize w.alloc (.cells #[.slice p m.length c] 24)=w1 at B1 X1 ⊢;obtain⟨X,hX⟩:∃ X,X=w.heap.size:=⟨_,rfl⟩
 rw[← hX] at X1 ⊢
 clear hX;go_wp2_with fail
 refine(QaU w1).mono ?_
 rintro e2 w2 ⟨rfl,b2⟩;have B2:=Qa (B1.out.trans (b2.mono B1.out.size));have X2:=Qa (X1.out.below b2);clear X1 b2 B1;have x2:=Qb X2.out 0 _ rfl;have CG:=Qa (QaS 6 m p c w2 (Lay.below ((Qb1 6).2 HM.out) B2.out));unfold Rd at CG;rw[QB HNG.out] at CG
 go_wp2_with fail
 refine CG.out.mono ?_;rintro e3 w3 ⟨rfl,b3⟩;have B3:=Qa (B2.out.trans (b3.mono B2.out.size));have X3:=Qa (X2.out.below b3);clear b3 CG X2 B2 x2;have x3:=Qb X3.out 0 _ rfl;have CF:=Qa (QbA (Lay.below ((Qb1 6).2 HM.out) B3.out) HMS.out);unfold Rd at CF;rw[Qfu HF0.out] at CF
 go_wp2_with fail
 refine CF.out.mono ?_;rintro e4 w4 ⟨rfl,b4⟩;have B4:=Qa (B3.out.trans (b4.mono B3.out.size));have X4:=Qa (X3.out.below b4);clear b4 CF X3 B3 x3;have x4:=Qb X4.out 0 _ rfl;simp only[QD]
 have CV:=Qa (QaX (w:=w4) (m:=m) (p:=p) (c:=c) ((QiT 6).2 (Lay.below HM.out B4.out)) HMS.out (fun _=>HNG.out));obtain⟨rc,rp,hrf⟩:∃ rc rp,QW m=(rc,rp):=⟨_,_,rfl⟩
 rw[hrf] at CV
 have hrp:0≤rp:=by have:=QeL HF0.out;rw[hrf] at this;exact this
 have HRF:=Qa hrf;clear hrf;go_wp2_with fail
 refine CV.out.mono ?_;rintro e5 w5 ⟨rfl,b5⟩;have b6:=b5.trans ((QQ w5 (.cells #[.int .i64 rc,.int .i64 rp] 30)).mono b5.size);have B6:=Qa (B4.out.trans (b6.mono B4.out.size));have X6:=Qa (X4.out.below b6);have F6:Hid (Blk (w5.alloc (.cells #[.int .i64 rc,.int .i64 rp] 30)) w5.heap.size #[.int .i64 rc,.int .i64 rp] 30):=Blk.new _ _ _;clear b5 b6 CV X4 B4 x4;simp only[QD]
 go_upto_region 6 with fail
 generalize w5.alloc (.cells #[.int .i64 rc,.int .i64 rp] 30)=w6 at B6 X6 F6 ⊢;generalize w5.heap.size=F7 at F6 ⊢;have f0:=Qb F6.out 0 _ rfl;have f1:=Qb F6.out 1 _ rfl;by_cases hrc:rc=0
 rotate_left
 ·have d:(rc != 0)=true:=by simpa using hrc
  have d2:decide (rp≥0)=true:=decide_eq_true hrp;go_wp2_with fail
  go_ret;exact⟨by first | rfl | (rw[d2];rfl) | simp[hrp],B6.out⟩
 subst hrc;have HR0:Hid ((QW m).1=0):=by show _=_;rw[HRF.out]
 clear HRF;have x6:=Qb X6.out 0 _ rfl;obtain⟨fk,hfk,hidx⟩:=QkO f (L:=m.length) hl1.1 (by omega)
 have hfm:m[fk]?=some m[fk]:=List.getElem?_eq_getElem hfk;generalize m[fk]=fn at hfm;have HFM:=Qa hfm;have hfr:=(Qbv HF0.out).2 fn (List.mem_of_getElem? hfm);have hbl:=hfr.many;obtain⟨bk,hbk,hidb⟩:=QkO b (L:=fn.blocks.length) hbl.1 (by omega)
 have hbm:fn.blocks[bk]?=some fn.blocks[bk]:=List.getElem?_eq_getElem hbk;generalize fn.blocks[bk]=y at hbm;have HBM:=Qa hbm;obtain⟨g1,o1,f1',rfl,E1,In1⟩:=Qbk ((Qb1 6).2 HM.out) hfm
 have v3:=QY (show w.cell? ⟨g1,o1+fk*4+3,none⟩=_ from E1 3 _ rfl) B6.out;have hfk':(fk:Int)<m.length:=by omega
 have hbk':(bk:Int)<fn.blocks.length:=by omega
 have hl2:m.length≤100000:=by omega
 have hl3:fn.blocks.length≤100000:=by omega
 have hp1:fk<1000000:=by omega
 have hp2:bk<1000000:=by omega
 have HP:=Qa (And.intro hp1 hp2);clear hfm hbm E1 In1 hfr hbl hp1 hp2;have CO:=Qa (Qdb m (some ⟨g1,o1,none⟩) c w6 (Lay.below ((Qb1 6).2 HM.out) B6.out) HMS.out);go_wp2_with fail
 refine CO.out.mono ?_;rintro e7 w7 ⟨v7,rfl,⟨a7,c7,rfl,hown⟩,b7⟩;obtain⟨G,cG,gf,cF,cv,cb,xs,IN⟩:=Qkj hown b7.size HFM.out HBM.out
 have htop:=IN.top;injection htop with t1 t2 t3
 subst t1 t3;have HIN:=Qa IN;have hgf:gf<w7.heap.size:=World.block_lt_of_cell? w7 _ IN.code;have HOW:=Qa (fun k hk=>Qbm IN.own hk:∀ k,(Value.slice cv y.code.length cb).ownBlock=some k→k<w7.heap.size);have b8:=QQ w7 (.cells #[.slice (some ⟨G,0,none⟩) m.length c7] 24);have N8:Hid (Blk (w7.alloc (.cells #[.slice (some ⟨G,0,none⟩) m.length c7] 24)) w7.heap.size #[.slice (some ⟨G,0,none⟩) m.length c7] 24):=Blk.new _ _ _;have HB8:=Qa b8;have B7:=Qa (B6.out.trans (b7.mono B6.out.size));have HSZ:=Qa (And.intro b7.size B6.out.size);have r8:=QY IN.row b8;have k8:=QY IN.code b8;simp only[hidx,hidb]
 clear CO hown IN b7 b8 X6 F6 f0 f1 x6 v3 hidx hidb t2;go_upto_region 11 with fail
 have n8:=Qb N8.out 0 _ rfl;generalize hN:w7.heap.size=N at N8 n8 ⊢;have HN:=Qa hN;clear hN;generalize w7.alloc (.cells #[.slice (some ⟨G,0,none⟩) m.length c7] 24)=w8 at N8 HB8 r8 k8 n8 ⊢;obtain⟨iI,hiI,hz0,hz1,hz2⟩:=pInfoN
 have hyc:y.code.length≤40:=(Qcb HF0.out HR0.out HFM.out HBM.out).1;have hown8:Hid (w8.ownsRow 0 46 8 (.slice cv y.code.length cb) y.code.length xs):=Zb HIN.out.own (fun k _ _ hkl=>⟨HB8.out.block k hkl,Nat.zero_le _⟩)
 have PU:Hid (∀ g cap w9,w9.ownsRow 0 46 8 (.slice (some ⟨g,0,none⟩) (y.code.length+1) cap) (y.code.length+1) (xs++[.int .i64 13,.int .i64 (-1),.int .i64 0,.int .i64 0,.int .i64 0,.int .i64 0,.slice none 0 0,.slice none 0 0])→(w8.alloc (.cells #[.int .i64 13,.int .i64 (-1),.int .i64 0,.int .i64 0,.int .i64 0,.int .i64 0,.slice none 0 0,.slice none 0 0] 46)).grownBy w9 (Value.slice cv y.code.length cb).ownBlock→((Value.slice cv y.code.length cb).ownBlock=some g∨g=w8.heap.size+1) →
  (w9.cell? ⟨gf,bk*12+2,none⟩=some (.slice cv y.code.length cb)∧w9.frozen? ⟨gf,bk*12+2,none⟩=false)∧(QjX 6).In (w9.setCell ⟨gf,bk*12+2,none⟩ (.slice (some ⟨g,0,none⟩) (y.code.length+1) cap)) All (Qgf m fk bk fn y) [.slice (some ⟨G,0,none⟩) m.length c7]∧Below w.heap.size w (w9.setCell ⟨gf,bk*12+2,none⟩ (.slice (some ⟨g,0,none⟩) (y.code.length+1) cap))∧(w9.setCell ⟨gf,bk*12+2,none⟩ (.slice (some ⟨g,0,none⟩) (y.code.length+1) cap)).cell? ⟨gf,bk*12+2,none⟩=some (.slice (some ⟨g,0,none⟩) (y.code.length+1) cap)∧Blk (w9.setCell ⟨gf,bk*12+2,none⟩ (.slice (some ⟨g,0,none⟩) (y.code.length+1) cap)) N #[.slice (some ⟨G,0,none⟩) m.length c7] 24):=by
  intro g cap w9 h1 h2 h3;have b9:=QQ w8 (.cells #[.int .i64 13,.int .i64 (-1),.int .i64 0,.int .i64 0,.int .i64 0,.int .i64 0,.slice none 0 0,.slice none 0 0] 46);have s9:(w8.alloc (.cells #[.int .i64 13,.int .i64 (-1),.int .i64 0,.int .i64 0,.int .i64 0,.int .i64 0,.slice none 0 0,.slice none 0 0] 46)).heap.size=w8.heap.size+1:=World.size_alloc ..;have bb:=HB8.out.trans (b9.mono HB8.out.size);obtain⟨q1,q2,q3,q4⟩:=HIN.out.after (w8.alloc (.cells #[.int .i64 13,.int .i64 (-1),.int .i64 0,.int .i64 0,.int .i64 0,.int .i64 0,.slice none 0 0,.slice none 0 0] 46)) w9 [.int .i64 13,.int .i64 (-1),.int .i64 0,.int .i64 0,.int .i64 0,.int .i64 0,.slice none 0 0,.slice none 0 0] g cap bb (Qj5 _ _) h2 (by rw[s9];exact h3) h1
  have hn:=HN.out;have hnl:=N8.out.lt;have hk:Blk w9 N #[.slice (some ⟨G,0,none⟩) m.length c7] 24:=(h2.block N (by omega) (fun e=>by have:=HOW.out N e.symm;omega)).trans (N8.out.below b9);exact⟨q1,q2,B7.out.trans (q3.mono (HSZ.out.2)),q4,Blk.setOther (p:=⟨gf,bk*12+2,none⟩) hk (by show gf≠N;omega) _⟩
 clear HIN HOW N8 HB8 B7 HSZ hgf HN;generalize hnc:y.code.length=nc at PU hown8 k8 hyc;have HNC:=Qa hnc;clear hnc;go_wp2_with (at_builtin;refine wpList_append_lies _ rfl (.tmp 63) (.tmp 65) 25 rfl 0 46 iI (.agg #[.int .i64 0,.int .i64 0,.int .i64 0,.int .i64 0,.int .i64 0,.int .i64 0,.slice none 0 0,.slice none 0 0]) 8 96 pUnderN hiI hz0 hz1 hz2 rfl (by decide) _ _ _ rfl (hown8.out.alloc _) ⟨w8.heap.size,0,none⟩ 1 1 [.int .i64 13,.int .i64 (-1),.int .i64 0,.int .i64 0,.int .i64 0,.int .i64 0,.slice none 0 0,.slice none 0 0] rfl rfl (Qib _ [_,_,_,_,_,_,_,_] _) (Qlo rfl) (by decide) (by unfold maxLen;omega) (by omega) (Nat.zero_le _) (w8.heap.size+1) (by simp) ?_)
 intro g2 cap2 w9 h1 hgrow hat hlt1;obtain⟨⟨c9,z9⟩,hmod,hbel,hcell,hnb⟩:=PU.out g2 cap2 w9 h1 hgrow hat
 have HMOD:=Qa hmod;have B10:=Qa hbel;have HNB:=Qa hnb;have HCE:=Qa hcell;clear h1 hgrow hat hlt1 PU hown8 r8 k8 n8 hmod hbel hnb hcell;go_upto_region 13 with fail
 generalize w9.setCell ⟨gf,bk*12+2,none⟩ (.slice (some ⟨g2,0,none⟩) (nc+1) cap2)=w10 at HMOD B10 HNB HCE ⊢;clear c9 z9;have hpl:(Qgf m fk bk fn y).length=m.length:=QfB ..;have hgp:¬ QG (Qgf m fk bk fn y):=QhP HNG.out HFM.out HBM.out (by rw[HNC.out];exact hyc);have CV:=Qa (QaX (w:=w10) (m:=Qgf m fk bk fn y) (p:=some ⟨G,0,none⟩) (c:=c7) (by rw[hpl];exact HMOD.out) (Qae hgp) (fun _=>hgp));rw[hpl,(Qcb HF0.out HR0.out HFM.out HBM.out).2,HNC.out] at CV
 obtain⟨hc,hp,hh⟩:∃ hc hp,(if nc=40 then ((2:Int),10000*(fk:Int)+100*(bk:Int)+90) else (1,10000*(fk:Int)+100*(bk:Int)+nc))=(hc,hp):=⟨_,_,rfl⟩
 rw[hh] at CV
 have HH:=Qa hh;have n10:=Qb HNB.out 0 _ rfl;clear hpl hgp hh HMOD;go_wp2_with fail
 refine CV.out.mono ?_;rintro e11 w11 ⟨rfl,b11⟩;have b12:=b11.trans ((QQ w11 (.cells #[.int .i64 hc,.int .i64 hp] 30)).mono b11.size);have B12:=Qa (B10.out.trans (b12.mono B10.out.size));have H12:Hid (Blk (w11.alloc (.cells #[.int .i64 hc,.int .i64 hp] 30)) w11.heap.size #[.int .i64 hc,.int .i64 hp] 30):=Blk.new _ _ _;have k12:=QY HCE.out b12;clear b11 b12 CV n10 HNB HCE B10;simp only[QD]
 go_upto_region 14 with fail
 generalize w11.alloc (.cells #[.int .i64 hc,.int .i64 hp] 30)=w12 at B12 H12 k12 ⊢;generalize w11.heap.size=H at H12 ⊢;have h0:=Qb H12.out 0 _ rfl;have h1:=Qb H12.out 1 _ rfl;by_cases h40:nc=40
 ·have e9:=HH.out;rw[if_pos h40] at e9
  cases e9
  have d:(40:Int)<(nc:Int)+1:=by omega
  clear HH h40;go_upto_region 15 with fail
  refine Code.wp_mono ?_ (QlQ HP.out.1 HP.out.2 h0 h1 _ _ rfl (Nat.le_of_ble_eq_true (by kernel_rfl)) rfl rfl rfl);rintro ee aa w13 ⟨rfl,vs,rfl,hv,b13⟩;simp only[Z3,Act.put,List.setIfInBounds_toArray,List.set_cons_zero,List.set_cons_succ,hv]
  have HZ:=Qa (B12.out.trans (b13.mono B12.out.size));go_wp2
  go_ret;exact⟨rfl,HZ.out⟩
 ·have e9:=HH.out;rw[if_neg h40] at e9
  cases e9
  have d:¬ (40:Int)<(nc:Int)+1:=by omega
  clear HH;go_upto_region 16 with fail
  refine Code.wp_mono ?_ (QlJ HP.out.1 HP.out.2 hyc h0 h1 k12 _ _ rfl (Nat.le_of_ble_eq_true (by kernel_rfl)) rfl rfl rfl rfl);rintro ee aa w13 ⟨rfl,vs,rfl,hv,b13⟩;simp only[Z3,Act.put,List.setIfInBounds_toArray,List.set_cons_zero,List.set_cons_succ,hv]
  have HZ:=Qa (B12.out.trans (b13.mono B12.out.size));go_wp2
  go_ret;exact⟨rfl,HZ.out⟩
theorem Qhl {n:Nat}{w:World}{m:List (Qf n)}{p:Option Addr}{c:Nat}(f b:Int) (hm:(QiO n).In w All m [.slice p m.length c]) :
 Calls Tryz.prog 5 #[.agg #[.slice p m.length c],.int .i64 f,.int .i64 b] w fun r w'=>r=.returned (.bool true)∧Below w.heap.size w w':=by
 by_cases hno:QG m∨(Qg m).1≠0
 ·exact Qgb f b ((Qb1 n).2 hm) hno
 have fm:(Qg m).1=0:=Classical.byContradiction fun h=>hno (.inr h);have e6:m.length=(m.map (Qf.at 5)).length:=(List.length_map _).symm;have hm6:(QiO 6).In w All (m.map (Qf.at 5)) [.slice p (m.map (Qf.at 5)).length c]:=by rw[← e6];exact QkA (Qj0 fm) hm
 have hng6:¬ QG (m.map (Qf.at 5)):=Qjz (fun h=>hno (.inl h));rw[e6]
 by_cases fm6:(Qg (m.map (Qf.at 5))).1=0
 ·exact QhN f b hm6 hng6 fm6
 ·exact Qgb f b ((Qb1 6).2 hm6) (.inr fm6)
end Go.Proofs.YtacjnejckfhpoaeGreat
