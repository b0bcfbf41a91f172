import Derived.Test.YtlnkdhnibcenbaeGreatP6
set_option maxHeartbeats 16000000
set_option maxRecDepth 100000
namespace Go.Proofs.YtlnkdhnibcenbaeGreat
open Go.ChangeShapes Go.WideShapes Go.ChangeAt Go.RowKit _root_.Go.Proofs.Tryz
set_option linter.unusedSimpArgs false
set_option linter.unusedVariables false
variable {w w' w2 wc wr w6:World}{b n c rc ac B X m j k g i N rl al lo d cm f q cap s fm fi id fl R cR G fc fd bl o cL cA n1 lm funcs fe d1:Nat}{O Q A O':Nat→Prop}{p ag a ra aa pm pR pA na fp fq p1:Option Addr}{t e bt:TypeId}{l regs:List Int}{v v0:Value}{P:Program}{xc xa xb xk xn fr x:Int}{L:List Bool}{xs cs ds:List Value}{x0:Operand}
theorem Qe0 {a:Int}{e fb fc d fn fr b:Bool}(c:QG a=some (e,fb,fc,d,fn,fr,b)) (w:World):Rd prog 118 #[.int .i64 a] w (.tuple #[.agg #[.bool e,.bool fb,.bool fc,.bool d,.bool fn,.bool fr,.bool b],.bool true]):=by
 have:=QcC a w
 rwa [show Zv a=.tuple #[.agg #[.bool e,.bool fb,.bool fc,.bool d,.bool fn,.bool fr,.bool b],.bool true] from by unfold Zv;rw[c]] at this
theorem QgV {a:Int}(b:QG a=none) (w:World):Rd prog 118 #[.int .i64 a] w (.tuple #[.agg #[.bool false,.bool false,.bool false,.bool false,.bool false,.bool false,.bool false],.bool false]):=by
 have:=QcC a w
 rwa [show Zv a=.tuple #[.agg #[.bool false,.bool false,.bool false,.bool false,.bool false,.bool false,.bool false],.bool false] from by unfold Zv;rw[b]] at this
theorem QZ {d a b c k n:Int}{h fb fc g fn fr l d1 o f i j p m:Bool}(e:QG d=some (h,fb,fc,g,fn,fr,l))
 (x:d1=(!h&&a != 0)) (q:o=(d1||(!fb&&b != 0))) (w:f=(o||(!fc&&c != 0))) (v:i=(f||(!g&&k != 0))) (s:j=(i||(!fn&&n != 0))) (y:p=(j||(!fr&&decide ((0:Int)<(rl:Int))))) (r:m=(p||(!l&&decide ((0:Int)<(al:Int))))) :
 QV lm d a b c k n rl al=if m then 4
 else if d=2/\(k<1\/9<k) then 1
 else if d=5/\8<al then 2
 else if (d=6\/d=7)/\(k<0\/7<k) then 1
 else if d=14/\(k<0\/(lm:Int)<=k) then 1
 else if d=14/\(6<rl\/8<al) then 2
 else 0:=by
 subst x q w v s y r;simp only[QV,e]
 have u:decide ((0:Int)<(rl:Int))=decide (0<rl):=by simp
 have t:decide ((0:Int)<(al:Int))=decide (0<al):=by simp
 rw[u,t]
theorem Qjz {e:Int}{fa fb fc fk fn fr fs:Bool}(y:QG e=some (fa,fb,fc,fk,fn,fr,fs)) (M N xc x L:Int) (am ra aa:Option Addr) (lm cm J rc I ac:Nat) (w:World) :
 Rd prog 80 #[.agg #[.slice am lm cm],.agg #[.int .i64 e,.int .i64 M,.int .i64 N,.int .i64 xc,.int .i64 x,.int .i64 L,.slice ra J rc,.slice aa I ac]] w (.int .i64 (QV lm e M N xc x L J I)):=by
 refine Qv (n:=137) func80 Z Z Z <| fun a hF=>?_
 have hW:=Ye w;replace hF:Fr 137 a [(0,.agg #[.slice am lm cm]),(1,.agg #[.int .i64 e,.int .i64 M,.int .i64 N,.int .i64 xc,.int .i64 x,.int .i64 L,.slice ra J rc,.slice aa I ac])]:=hF;refine XW fun K1 ft=>rg hF fun d=>sB hW Y Z Z <| fun w2 B2 fy hN=>sB fy Y Z Z <| fun w3 B3 ex hN=>sa Y Z Z <| Yb fun a4 h4=>ft _ _ <| XW fun K5 fq=>rg h4 fun d=>sfIns0 Y Z Z <| Q7 0 ex Y Z Z Z Z <| QjO cf118 ex (Qe0 y w3) Y Z Z <| fun w6 fx=>sm Y Z Z <| fun a7 h7=>Zh (t:=11) (v:=.agg #[.bool fa,.bool fb,.bool fc,.bool fk,.bool fn,.bool fr,.bool fs]) (w':=w6) h7 Z Z Z (fun K hK=>?_) ?_
 ·have k0:a7.tmps.getD 7 undef=.tuple #[.agg #[.bool fa,.bool fb,.bool fc,.bool fk,.bool fn,.bool fr,.bool fs],.bool true]:=h7.sl 7 _ Z
  go_simp;exact hK
 clear h7;intro a8 c4;refine Zh (t:=12) (v:=.bool true) (w':=w6) c4 Z Z Z (fun K hK=>?_) ?_
 ·have k0:a8.tmps.getD 7 undef=.tuple #[.agg #[.bool fa,.bool fb,.bool fc,.bool fk,.bool fn,.bool fr,.bool fs],.bool true]:=c4.sl 7 _ Z
  go_simp;exact hK
 clear c4;intro a9 fu;refine St.go fu <| Qgl fx Y Z <| fun ho bb e5 hN=>sT 0 e5 Z Z infFields Z Z Z <| fun a5 c=>sa Y Z Z <| Yb fun i0 fv=>fq _ _ <| XW fun ht fl=>XW fun im e8=>rg fv fun d=>sm Y Z Z <| sn Y Z Z <| Yb fun h3 da=>e8 _ _ <| Qgg (t:=14) da Z <| XB <| fl _ _ <| XW fun hy e0=>XW fun iz dz=>Q5 <| fun d f=>?_
 have g:(d[3]?).bind (fun o:Oper=>o.dst)=some 18:=f 3;have W:(d[8]?).bind (fun o:Oper=>o.dst)=some 23:=f 8;have Q:(d[12]?).bind (fun o:Oper=>o.dst)=some 27:=f 12;have G:(d[18]?).bind (fun o:Oper=>o.dst)=some 33:=f 18;have T:(d[22]?).bind (fun o:Oper=>o.dst)=some 37:=f 22;have C:(d[28]?).bind (fun o:Oper=>o.dst)=some 43:=f 28;have P:(d[32]?).bind (fun o:Oper=>o.dst)=some 47:=f 32;have D:(d[38]?).bind (fun o:Oper=>o.dst)=some 53:=f 38;have S:(d[42]?).bind (fun o:Oper=>o.dst)=some 57:=f 42;have H:(d[48]?).bind (fun o:Oper=>o.dst)=some 63:=f 48;have B:(d[52]?).bind (fun o:Oper=>o.dst)=some 67:=f 52;have E:(d[59]?).bind (fun o:Oper=>o.dst)=some 74:=f 59;have A:(d[63]?).bind (fun o:Oper=>o.dst)=some 78:=f 63;clear f;refine QfX 9 (fun a' w'=>(∃ d1:Bool,d1=(!fa&&M != 0)/\Fr 137 a' [(23,.bool d1),(1,.agg #[.int .i64 e,.int .i64 M,.int .i64 N,.int .i64 xc,.int .i64 x,.int .i64 L,.slice ra J rc,.slice aa I ac]),(0,.agg #[.slice am lm cm]),(2,.pointer (some ⟨B2,0,none⟩)),(3,.pointer (some ⟨B3,0,none⟩)),(4,.int .i64 0),(5,.pointer (some ⟨bb,0,none⟩)),(6,.bool true)])/\a5=w') (fun KC s=>?_) ?_
 ·refine St.go da <| sfFields0 Y Z Z <| Qc6 0 c Y Z Z Z Z <| sn Y Z Z <| sm Y Z Z <| fun iw ca=>?_
  rcases Xa (!fa) with b | b
  ·rw[b] at ca
   have dv:fa=false:=by simpa using b
   clear b;exact St.go ca <| sfIns1 ⟨_,g,Z,Z⟩ Z Z <| Q7 1 c ⟨_,g,Z,Z⟩ Z Z Z Z <| sne ⟨_,g,Z,Z⟩ Z Z Z <| sp Y Z Z Z <| sm Y Z Z <| Yb fun ib an=>s _ _ ⟨⟨M != 0,by simp[dv],(an.keep (an.keep (an.keep (an.keep (an.keep (an.keep (an.keep (an.keep an.nil (t:=6) Z) (t:=5) Z) (t:=4) Z) (t:=3) Z) (t:=2) Z) (t:=0) Z) (t:=1) Z) (t:=23) Z)⟩,Z⟩
  rw[b] at ca
  have e3:fa=true:=by simpa using b
  clear b;exact St.go ca <| so g Z Z Z Z <| so g Z Z Z Z <| so g Z Z Z Z <| spf Y Z Z Z <| sm Y Z Z <| Yb fun ic aj=>s _ _ ⟨⟨false,by simp[e3],(aj.keep (aj.keep (aj.keep (aj.keep (aj.keep (aj.keep (aj.keep (aj.keep aj.nil (t:=6) Z) (t:=5) Z) (t:=4) Z) (t:=3) Z) (t:=2) Z) (t:=0) Z) (t:=1) Z) (t:=23) Z)⟩,Z⟩
 ·clear da;rintro ig _ ⟨⟨d1,k,bv⟩,rfl⟩;replace k:Hid _:=k
  refine QfX 10 (fun a' w'=>(∃ d2:Bool,d2=(d1||(!fb&&N != 0))/\Fr 137 a' [(33,.bool d2),(1,.agg #[.int .i64 e,.int .i64 M,.int .i64 N,.int .i64 xc,.int .i64 x,.int .i64 L,.slice ra J rc,.slice aa I ac]),(0,.agg #[.slice am lm cm]),(2,.pointer (some ⟨B2,0,none⟩)),(3,.pointer (some ⟨B3,0,none⟩)),(4,.int .i64 0),(5,.pointer (some ⟨bb,0,none⟩)),(6,.bool true)])/\a5=w') (fun KC s=>?_) ?_
  ·rcases Xa d1 with b | b
   ·rw[b] at bv
    have e6:=b;clear b;exact St.go bv <| so W Z Z Z Z <| so W Z Z Z Z <| so W Z Z Z Z <| so W Z Z Z Z <| so Q Z Z Z Z <| so Q Z Z Z Z <| so Q Z Z Z Z <| so W Z Z Z Z <| sp Y Z Z Z <| sm Y Z Z <| Yb fun i4 aw=>s _ _ ⟨⟨true,by simp[e6],(aw.keep (aw.keep (aw.keep (aw.keep (aw.keep (aw.keep (aw.keep (aw.keep aw.nil (t:=6) Z) (t:=5) Z) (t:=4) Z) (t:=3) Z) (t:=2) Z) (t:=0) Z) (t:=1) Z) (t:=33) Z)⟩,Z⟩
   rw[b] at bv
   have cn:=b;clear b;refine St.go bv <| sfFields1 ⟨_,W,Z,Z⟩ Z Z <| Qc6 0 c ⟨_,W,Z,Z⟩ Z Z Z Z <| sn ⟨_,W,Z,Z⟩ Z Z <| sm ⟨_,W,Z,Z⟩ Z Z <| fun i8 b8=>?_
   rcases Xa (!fb) with b | b
   ·rw[b] at b8
    have ec:fb=false:=by simpa using b
    clear b;exact St.go b8 <| sfIns2 ⟨_,Q,Z,Z⟩ Z Z <| Q7 1 c ⟨_,Q,Z,Z⟩ Z Z Z Z <| sne ⟨_,Q,Z,Z⟩ Z Z Z <| sp ⟨_,W,Z,Z⟩ Z Z Z <| spf Y Z Z Z <| sm Y Z Z <| Yb fun hz ay=>s _ _ ⟨⟨N != 0,by simp[cn,ec],(ay.keep (ay.keep (ay.keep (ay.keep (ay.keep (ay.keep (ay.keep (ay.keep ay.nil (t:=6) Z) (t:=5) Z) (t:=4) Z) (t:=3) Z) (t:=2) Z) (t:=0) Z) (t:=1) Z) (t:=33) Z)⟩,Z⟩
   rw[b] at b8
   have et:fb=true:=by simpa using b
   clear b;exact St.go b8 <| so Q Z Z Z Z <| so Q Z Z Z Z <| so Q Z Z Z Z <| spf ⟨_,W,Z,Z⟩ Z Z Z <| spf Y Z Z Z <| sm Y Z Z <| Yb fun ia af=>s _ _ ⟨⟨false,by simp[cn,et],(af.keep (af.keep (af.keep (af.keep (af.keep (af.keep (af.keep (af.keep af.nil (t:=6) Z) (t:=5) Z) (t:=4) Z) (t:=3) Z) (t:=2) Z) (t:=0) Z) (t:=1) Z) (t:=33) Z)⟩,Z⟩
  ·clear bv;rintro ij _ ⟨⟨d2,i,b4⟩,rfl⟩;replace i:Hid _:=i
   refine QfX 10 (fun a' w'=>(∃ d3:Bool,d3=(d2||(!fc&&xc != 0))/\Fr 137 a' [(43,.bool d3),(1,.agg #[.int .i64 e,.int .i64 M,.int .i64 N,.int .i64 xc,.int .i64 x,.int .i64 L,.slice ra J rc,.slice aa I ac]),(0,.agg #[.slice am lm cm]),(2,.pointer (some ⟨B2,0,none⟩)),(3,.pointer (some ⟨B3,0,none⟩)),(4,.int .i64 0),(5,.pointer (some ⟨bb,0,none⟩)),(6,.bool true)])/\a5=w') (fun KC s=>?_) ?_
   ·rcases Xa d2 with b | b
    ·rw[b] at b4
     have eo:=b;clear b;exact St.go b4 <| so G Z Z Z Z <| so G Z Z Z Z <| so G Z Z Z Z <| so G Z Z Z Z <| so T Z Z Z Z <| so T Z Z Z Z <| so T Z Z Z Z <| so G Z Z Z Z <| sp Y Z Z Z <| sm Y Z Z <| Yb fun i7 ag=>s _ _ ⟨⟨true,by simp[eo],(ag.keep (ag.keep (ag.keep (ag.keep (ag.keep (ag.keep (ag.keep (ag.keep ag.nil (t:=6) Z) (t:=5) Z) (t:=4) Z) (t:=3) Z) (t:=2) Z) (t:=0) Z) (t:=1) Z) (t:=43) Z)⟩,Z⟩
    rw[b] at b4
    have cp:=b;clear b;refine St.go b4 <| sfFields2 ⟨_,G,Z,Z⟩ Z Z <| Qc6 0 c ⟨_,G,Z,Z⟩ Z Z Z Z <| sn ⟨_,G,Z,Z⟩ Z Z <| sm ⟨_,G,Z,Z⟩ Z Z <| fun hr cb=>?_
    rcases Xa (!fc) with b | b
    ·rw[b] at cb
     have er:fc=false:=by simpa using b
     clear b;exact St.go cb <| sfIns3 ⟨_,T,Z,Z⟩ Z Z <| Q7 1 c ⟨_,T,Z,Z⟩ Z Z Z Z <| sne ⟨_,T,Z,Z⟩ Z Z Z <| sp ⟨_,G,Z,Z⟩ Z Z Z <| spf Y Z Z Z <| sm Y Z Z <| Yb fun hw az=>s _ _ ⟨⟨xc != 0,by simp[cp,er],(az.keep (az.keep (az.keep (az.keep (az.keep (az.keep (az.keep (az.keep az.nil (t:=6) Z) (t:=5) Z) (t:=4) Z) (t:=3) Z) (t:=2) Z) (t:=0) Z) (t:=1) Z) (t:=43) Z)⟩,Z⟩
    rw[b] at cb
    have eh:fc=true:=by simpa using b
    clear b;exact St.go cb <| so T Z Z Z Z <| so T Z Z Z Z <| so T Z Z Z Z <| spf ⟨_,G,Z,Z⟩ Z Z Z <| spf Y Z Z Z <| sm Y Z Z <| Yb fun ih ar=>s _ _ ⟨⟨false,by simp[cp,eh],(ar.keep (ar.keep (ar.keep (ar.keep (ar.keep (ar.keep (ar.keep (ar.keep ar.nil (t:=6) Z) (t:=5) Z) (t:=4) Z) (t:=3) Z) (t:=2) Z) (t:=0) Z) (t:=1) Z) (t:=43) Z)⟩,Z⟩
   ·clear b4;rintro io _ ⟨⟨d3,p,b1⟩,rfl⟩;replace p:Hid _:=p
    refine QfX 10 (fun a' w'=>(∃ d4:Bool,d4=(d3||(!fk&&x != 0))/\Fr 137 a' [(53,.bool d4),(1,.agg #[.int .i64 e,.int .i64 M,.int .i64 N,.int .i64 xc,.int .i64 x,.int .i64 L,.slice ra J rc,.slice aa I ac]),(0,.agg #[.slice am lm cm]),(2,.pointer (some ⟨B2,0,none⟩)),(3,.pointer (some ⟨B3,0,none⟩)),(4,.int .i64 0),(5,.pointer (some ⟨bb,0,none⟩)),(6,.bool true)])/\a5=w') (fun KC s=>?_) ?_
    ·rcases Xa d3 with b | b
     ·rw[b] at b1
      have e4:=b;clear b;exact St.go b1 <| so C Z Z Z Z <| so C Z Z Z Z <| so C Z Z Z Z <| so C Z Z Z Z <| so P Z Z Z Z <| so P Z Z Z Z <| so P Z Z Z Z <| so C Z Z Z Z <| sp Y Z Z Z <| sm Y Z Z <| Yb fun h0 ae=>s _ _ ⟨⟨true,by simp[e4],(ae.keep (ae.keep (ae.keep (ae.keep (ae.keep (ae.keep (ae.keep (ae.keep ae.nil (t:=6) Z) (t:=5) Z) (t:=4) Z) (t:=3) Z) (t:=2) Z) (t:=0) Z) (t:=1) Z) (t:=53) Z)⟩,Z⟩
     rw[b] at b1
     have cd:=b;clear b;refine St.go b1 <| sfFields3 ⟨_,C,Z,Z⟩ Z Z <| Qc6 0 c ⟨_,C,Z,Z⟩ Z Z Z Z <| sn ⟨_,C,Z,Z⟩ Z Z <| sm ⟨_,C,Z,Z⟩ Z Z <| fun i2 cc=>?_
     rcases Xa (!fk) with b | b
     ·rw[b] at cc
      have eu:fk=false:=by simpa using b
      clear b;exact St.go cc <| sfIns4 ⟨_,P,Z,Z⟩ Z Z <| Q7 1 c ⟨_,P,Z,Z⟩ Z Z Z Z <| sne ⟨_,P,Z,Z⟩ Z Z Z <| sp ⟨_,C,Z,Z⟩ Z Z Z <| spf Y Z Z Z <| sm Y Z Z <| Yb fun ir a1=>s _ _ ⟨⟨x != 0,by simp[cd,eu],(a1.keep (a1.keep (a1.keep (a1.keep (a1.keep (a1.keep (a1.keep (a1.keep a1.nil (t:=6) Z) (t:=5) Z) (t:=4) Z) (t:=3) Z) (t:=2) Z) (t:=0) Z) (t:=1) Z) (t:=53) Z)⟩,Z⟩
     rw[b] at cc
     have e2:fk=true:=by simpa using b
     clear b;exact St.go cc <| so P Z Z Z Z <| so P Z Z Z Z <| so P Z Z Z Z <| spf ⟨_,C,Z,Z⟩ Z Z Z <| spf Y Z Z Z <| sm Y Z Z <| Yb fun hn aq=>s _ _ ⟨⟨false,by simp[cd,e2],(aq.keep (aq.keep (aq.keep (aq.keep (aq.keep (aq.keep (aq.keep (aq.keep aq.nil (t:=6) Z) (t:=5) Z) (t:=4) Z) (t:=3) Z) (t:=2) Z) (t:=0) Z) (t:=1) Z) (t:=53) Z)⟩,Z⟩
    ·clear b1;rintro it _ ⟨⟨d4,h,bm⟩,rfl⟩;replace h:Hid _:=h
     refine QfX 10 (fun a' w'=>(∃ d5:Bool,d5=(d4||(!fn&&L != 0))/\Fr 137 a' [(63,.bool d5),(1,.agg #[.int .i64 e,.int .i64 M,.int .i64 N,.int .i64 xc,.int .i64 x,.int .i64 L,.slice ra J rc,.slice aa I ac]),(0,.agg #[.slice am lm cm]),(2,.pointer (some ⟨B2,0,none⟩)),(3,.pointer (some ⟨B3,0,none⟩)),(4,.int .i64 0),(5,.pointer (some ⟨bb,0,none⟩)),(6,.bool true)])/\a5=w') (fun KC s=>?_) ?_
     ·rcases Xa d4 with b | b
      ·rw[b] at bm
       have ee:=b;clear b;exact St.go bm <| so D Z Z Z Z <| so D Z Z Z Z <| so D Z Z Z Z <| so D Z Z Z Z <| so S Z Z Z Z <| so S Z Z Z Z <| so S Z Z Z Z <| so D Z Z Z Z <| sp Y Z Z Z <| sm Y Z Z <| Yb fun h5 ad=>s _ _ ⟨⟨true,by simp[ee],(ad.keep (ad.keep (ad.keep (ad.keep (ad.keep (ad.keep (ad.keep (ad.keep ad.nil (t:=6) Z) (t:=5) Z) (t:=4) Z) (t:=3) Z) (t:=2) Z) (t:=0) Z) (t:=1) Z) (t:=63) Z)⟩,Z⟩
      rw[b] at bm
      have cj:=b;clear b;refine St.go bm <| sfFields4 ⟨_,D,Z,Z⟩ Z Z <| Qc6 0 c ⟨_,D,Z,Z⟩ Z Z Z Z <| sn ⟨_,D,Z,Z⟩ Z Z <| sm ⟨_,D,Z,Z⟩ Z Z <| fun i9 b7=>?_
      rcases Xa (!fn) with b | b
      ·rw[b] at b7
       have ff:fn=false:=by simpa using b
       clear b;exact St.go b7 <| sfIns5 ⟨_,S,Z,Z⟩ Z Z <| Qix 1 c ⟨_,S,Z,Z⟩ Z Z Z Z <| Ql3 ⟨_,S,Z,Z⟩ Z Z Z <| sp ⟨_,D,Z,Z⟩ Z Z Z <| spf Y Z Z Z <| sm Y Z Z <| Yb fun ik ax=>s _ _ ⟨⟨L != 0,by simp[cj,ff],(ax.keep (ax.keep (ax.keep (ax.keep (ax.keep (ax.keep (ax.keep (ax.keep ax.nil (t:=6) Z) (t:=5) Z) (t:=4) Z) (t:=3) Z) (t:=2) Z) (t:=0) Z) (t:=1) Z) (t:=63) Z)⟩,Z⟩
      rw[b] at b7
      have fd:fn=true:=by simpa using b
      clear b;exact St.go b7 <| so S Z Z Z Z <| so S Z Z Z Z <| so S Z Z Z Z <| spf ⟨_,D,Z,Z⟩ Z Z Z <| spf Y Z Z Z <| sm Y Z Z <| Yb fun ie ao=>s _ _ ⟨⟨false,by simp[cj,fd],(ao.keep (ao.keep (ao.keep (ao.keep (ao.keep (ao.keep (ao.keep (ao.keep ao.nil (t:=6) Z) (t:=5) Z) (t:=4) Z) (t:=3) Z) (t:=2) Z) (t:=0) Z) (t:=1) Z) (t:=63) Z)⟩,Z⟩
     ·clear bm;rintro iv _ ⟨⟨d5,j,bn⟩,rfl⟩;replace j:Hid _:=j
      refine QfX 11 (fun a' w'=>(∃ d6:Bool,d6=(d5||(!fr&&decide ((0:Int)<(J:Int))))/\Fr 137 a' [(74,.bool d6),(1,.agg #[.int .i64 e,.int .i64 M,.int .i64 N,.int .i64 xc,.int .i64 x,.int .i64 L,.slice ra J rc,.slice aa I ac]),(0,.agg #[.slice am lm cm]),(2,.pointer (some ⟨B2,0,none⟩)),(3,.pointer (some ⟨B3,0,none⟩)),(4,.int .i64 0),(5,.pointer (some ⟨bb,0,none⟩)),(6,.bool true)])/\a5=w') (fun KC s=>?_) ?_
      ·rcases Xa d5 with b | b
       ·rw[b] at bn
        have el:=b;clear b;exact St.go bn <| so H Z Z Z Z <| so H Z Z Z Z <| so H Z Z Z Z <| so H Z Z Z Z <| so B Z Z Z Z <| so B Z Z Z Z <| so B Z Z Z Z <| so B Z Z Z Z <| so H Z Z Z Z <| sp Y Z Z Z <| sm Y Z Z <| Yb fun i3 a0=>s _ _ ⟨⟨true,by simp[el],(a0.keep (a0.keep (a0.keep (a0.keep (a0.keep (a0.keep (a0.keep (a0.keep a0.nil (t:=6) Z) (t:=5) Z) (t:=4) Z) (t:=3) Z) (t:=2) Z) (t:=0) Z) (t:=1) Z) (t:=74) Z)⟩,Z⟩
       rw[b] at bn
       have co:=b;clear b;refine St.go bn <| sfFields5 ⟨_,H,Z,Z⟩ Z Z <| Qc6 0 c ⟨_,H,Z,Z⟩ Z Z Z Z <| sn ⟨_,H,Z,Z⟩ Z Z <| sm ⟨_,H,Z,Z⟩ Z Z <| fun iu b6=>?_
       rcases Xa (!fr) with b | b
       ·rw[b] at b6
        have ey:fr=false:=by simpa using b
        clear b;exact St.go b6 <| sfIns6 ⟨_,B,Z,Z⟩ Z Z <| Qat 1 c ⟨_,B,Z,Z⟩ Z Z Z Z <| Qcy ⟨_,B,Z,Z⟩ Z Z <| sgt ⟨_,B,Z,Z⟩ Z Z Z <| sp ⟨_,H,Z,Z⟩ Z Z Z <| spf Y Z Z Z <| sm Y Z Z <| Yb fun ja au=>s _ _ ⟨⟨decide (0<(J:Int)),by simp[co,ey],(au.keep (au.keep (au.keep (au.keep (au.keep (au.keep (au.keep (au.keep au.nil (t:=6) Z) (t:=5) Z) (t:=4) Z) (t:=3) Z) (t:=2) Z) (t:=0) Z) (t:=1) Z) (t:=74) Z)⟩,Z⟩
       rw[b] at b6
       have eb:fr=true:=by simpa using b
       clear b;exact St.go b6 <| so B Z Z Z Z <| so B Z Z Z Z <| so B Z Z Z Z <| so B Z Z Z Z <| spf ⟨_,H,Z,Z⟩ Z Z Z <| spf Y Z Z Z <| sm Y Z Z <| Yb fun ip av=>s _ _ ⟨⟨false,by simp[co,eb],(av.keep (av.keep (av.keep (av.keep (av.keep (av.keep (av.keep (av.keep av.nil (t:=6) Z) (t:=5) Z) (t:=4) Z) (t:=3) Z) (t:=2) Z) (t:=0) Z) (t:=1) Z) (t:=74) Z)⟩,Z⟩
      ·clear bn;rintro i6 _ ⟨⟨d6,m,bx⟩,rfl⟩;replace m:Hid _:=m
       refine QfX 10 (fun a' w'=>(∃ d7:Bool,d7=(d6||(!fs&&decide ((0:Int)<(I:Int))))/\Fr 137 a' [(84,.bool d7),(1,.agg #[.int .i64 e,.int .i64 M,.int .i64 N,.int .i64 xc,.int .i64 x,.int .i64 L,.slice ra J rc,.slice aa I ac]),(0,.agg #[.slice am lm cm]),(2,.pointer (some ⟨B2,0,none⟩)),(3,.pointer (some ⟨B3,0,none⟩)),(4,.int .i64 0),(5,.pointer (some ⟨bb,0,none⟩)),(6,.bool true)])/\a5=w') (fun KC s=>?_) ?_
       ·rcases Xa d6 with b | b
        ·rw[b] at bx
         have ek:=b;clear b;exact St.go bx <| so E Z Z Z Z <| so E Z Z Z Z <| so E Z Z Z Z <| so E Z Z Z Z <| so A Z Z Z Z <| so A Z Z Z Z <| so A Z Z Z Z <| so A Z Z Z Z <| so E Z Z Z Z <| sp Y Z Z Z <| Yb fun hs ah=>s _ _ ⟨⟨true,by simp[ek],(ah.keep (ah.keep (ah.keep (ah.keep (ah.keep (ah.keep (ah.keep (ah.keep ah.nil (t:=6) Z) (t:=5) Z) (t:=4) Z) (t:=3) Z) (t:=2) Z) (t:=0) Z) (t:=1) Z) (t:=84) Z)⟩,Z⟩
        rw[b] at bx
        have cf:=b;clear b;refine St.go bx <| sfFields6 ⟨_,E,Z,Z⟩ Z Z <| Qc6 0 c ⟨_,E,Z,Z⟩ Z Z Z Z <| sn ⟨_,E,Z,Z⟩ Z Z <| sm ⟨_,E,Z,Z⟩ Z Z <| fun hu b5=>?_
        rcases Xa (!fs) with b | b
        ·rw[b] at b5
         have e9:fs=false:=by simpa using b
         clear b;exact St.go b5 <| sfIns7 ⟨_,A,Z,Z⟩ Z Z <| Qat 1 c ⟨_,A,Z,Z⟩ Z Z Z Z <| Qcy ⟨_,A,Z,Z⟩ Z Z <| sgt ⟨_,A,Z,Z⟩ Z Z Z <| sp ⟨_,E,Z,Z⟩ Z Z Z <| spf Y Z Z Z <| Yb fun hx ai=>s _ _ ⟨⟨decide (0<(I:Int)),by simp[cf,e9],(ai.keep (ai.keep (ai.keep (ai.keep (ai.keep (ai.keep (ai.keep (ai.keep ai.nil (t:=6) Z) (t:=5) Z) (t:=4) Z) (t:=3) Z) (t:=2) Z) (t:=0) Z) (t:=1) Z) (t:=84) Z)⟩,Z⟩
        rw[b] at b5
        have ef:fs=true:=by simpa using b
        clear b;exact St.go b5 <| so A Z Z Z Z <| so A Z Z Z Z <| so A Z Z Z Z <| so A Z Z Z Z <| spf ⟨_,E,Z,Z⟩ Z Z Z <| spf Y Z Z Z <| Yb fun h1 ap=>s _ _ ⟨⟨false,by simp[cf,ef],(ap.keep (ap.keep (ap.keep (ap.keep (ap.keep (ap.keep (ap.keep (ap.keep ap.nil (t:=6) Z) (t:=5) Z) (t:=4) Z) (t:=3) Z) (t:=2) Z) (t:=0) Z) (t:=1) Z) (t:=84) Z)⟩,Z⟩
       ·clear bx;rintro iy _ ⟨⟨d7,l,cs⟩,rfl⟩;replace l:Hid _:=l
        refine wpList_nil <| dz _ _ <| Qt (t:=84) cs Z (fun b=>?_) (fun b=>?_)
        ·have fg:=b
         clear b;refine XW fun hv fj=>rg cs fun d=>sa Y Z Z <| Yb fun jb fp=>fj _ _ ?_
         refine XA ?_;with_reducible repeat first | refine Qd ?_ | refine Qc ?_
         have F:=QZ y k.out i.out p.out h.out j.out m.out l.out (lm:=lm);have R:QV lm e M N xc x L J I=4:=by rw[F];simp[fg]
         exact Ql (t:=4) fp Z Z ⟨by rw[R],c.bel⟩
        have r:=b;clear b;refine XB <| e0 _ _ <| XW fun jc X=>XW fun ii em=>rg cs fun d=>sfIns0 Y Z Z <| Q7 1 c Y Z Z Z Z <| Yb fun ix fo=>em _ _ <| XJ <| XW fun i5 eg=>rg fo fun d=>seq Y Z Z Z <| sa Y Z Z <| Yb fun il c7=>eg _ _ <| Qt (t:=87) c7 Z (fun b=>?_) (fun b=>?_)
        ·have O:e=2:=XD b
         have bz:Hid (e=2):=O;clear O;clear b;refine XW fun iq ci=>Q5 <| fun d f=>?_
         have g:(d[3]?).bind (fun o:Oper=>o.dst)=some 92:=f 3;clear f;refine St.go c7 <| sfIns4 Y Z Z <| Q7 1 c Y Z Z Z Z <| slt Y Z Z Z <| sm Y Z Z <| fun hq b9=>?_
         rcases Xa (decide (x<1)) with b | b
         ·rw[b] at b9
          have fe:x<1:=Xv b;clear b;refine St.go b9 <| so g Z Z Z Z <| so g Z Z Z Z <| so g Z Z Z Z <| sp Y Z Z Z <| Yb fun h6 es=>ci _ _ <| Qab (t:=96) es Z <| XW fun hp ej=>rg es fun d=>sa Y Z Z <| Yb fun h8 fw=>ej _ _ ?_
          refine XA ?_;with_reducible repeat first | refine Qd ?_ | refine Qc ?_
          have F:=QZ y k.out i.out p.out h.out j.out m.out l.out (lm:=lm);have R:QV lm e M N xc x L J I=1:=by rw[F];simp[r,bz.out,fe]
          exact Ql (t:=4) fw Z Z ⟨by rw[R],c.bel⟩
         rw[b] at b9
         have ce:¬ (x<1):=Xw b;clear b;refine St.go b9 <| sfIns4 ⟨_,g,Z,Z⟩ Z Z <| Q7 1 c ⟨_,g,Z,Z⟩ Z Z Z Z <| sgt ⟨_,g,Z,Z⟩ Z Z Z <| spf Y Z Z Z <| Yb fun i1 dr=>ci _ _ <| Qt (t:=96) dr Z (fun b=>?_) (fun b=>?_)
         ·have ev:9<x:=Xv b
          clear b;refine XW fun h2 dw=>rg dr fun d=>sa Y Z Z <| Yb fun hm fm=>dw _ _ ?_
          refine XA ?_;with_reducible repeat first | refine Qd ?_ | refine Qc ?_
          have F:=QZ y k.out i.out p.out h.out j.out m.out l.out (lm:=lm);have R:QV lm e M N xc x L J I=1:=by rw[F];simp[r,bz.out,ce,ev]
          exact Ql (t:=4) fm Z Z ⟨by rw[R],c.bel⟩
         have fi:¬ (9<x):=Xw b;clear b;refine XB <| X _ _ <| XW fun gl de=>rg dr fun d=>sa Y Z Z <| Yb fun g8 dy=>de _ _ ?_
         refine XA ?_;with_reducible repeat first | refine Qd ?_ | refine Qc ?_
         have F:=QZ y k.out i.out p.out h.out j.out m.out l.out (lm:=lm);have R:QV lm e M N xc x L J I=0:=by rw[F];simp[r,bz.out,ce,fi]
         exact Ql (t:=4) dy Z Z ⟨by rw[R],c.bel⟩
        have O:¬ e=2:=XE b;have q:¬ e=2:=O;clear O;clear b;refine XW fun gm dl=>rg c7 fun d=>seq Y Z Z Z <| sa Y Z Z <| Yb fun f6 br=>dl _ _ <| Qt (t:=97) br Z (fun b=>?_) (fun b=>?_)
        ·have O:e=5:=XD b
         have bl:Hid (e=5):=O;clear O;clear b;refine XW fun g9 ds=>rg br fun d=>sfIns7 Y Z Z <| Qat 1 c Y Z Z Z Z <| Qcy Y Z Z <| sgt Y Z Z Z <| Yb fun hk bp=>ds _ _ <| Qt (t:=102) bp Z (fun b=>?_) (fun b=>?_)
         ·have cr:8<I:=by have:=Xv b;omega
          clear b;refine XW fun ge dp=>rg bp fun d=>sa Y Z Z <| Yb fun f1 ed=>dp _ _ ?_
          refine XA ?_;with_reducible repeat first | refine Qd ?_ | refine Qc ?_
          have F:=QZ y k.out i.out p.out h.out j.out m.out l.out (lm:=lm);have R:QV lm e M N xc x L J I=2:=by rw[F];simp[r,q,bl.out,cr]
          exact Ql (t:=4) ed Z Z ⟨by rw[R],c.bel⟩
         have dn:¬ (8<I):=by have:=Xw b;omega
         clear b;refine XB <| X _ _ <| XW fun gk dh=>rg bp fun d=>sa Y Z Z <| Yb fun hg en=>dh _ _ ?_
         refine XA ?_;with_reducible repeat first | refine Qd ?_ | refine Qc ?_
         have F:=QZ y k.out i.out p.out h.out j.out m.out l.out (lm:=lm);have R:QV lm e M N xc x L J I=0:=by rw[F];simp[r,q,bl.out,dn]
         exact Ql (t:=4) en Z Z ⟨by rw[R],c.bel⟩
        have O:¬ e=5:=XE b;have u:¬ e=5:=O;clear O;clear b;refine XW fun hl bo=>XW fun gi cw=>rg br fun d=>seq Y Z Z Z <| sa Y Z Z <| Yb fun f0 ab=>cw _ _ <| Qt (t:=103) ab Z (fun b=>?_) (fun b=>?_)
        ·rw[b] at ab
         have O:e=6:=XD b;have a6:Hid (e=6):=O;clear O;clear b;refine XB <| bo _ _ <| Qab (t:=103) ab Z <| XW fun g2 b0=>Q5 <| fun d f=>?_
         have g:(d[3]?).bind (fun o:Oper=>o.dst)=some 109:=f 3;clear f;refine St.go ab <| sfIns4 Y Z Z <| Q7 1 c Y Z Z Z Z <| slt Y Z Z Z <| sm Y Z Z <| fun gj be=>?_
         rcases Xa (decide (x<0)) with b | b
         ·rw[b] at be
          have c5:x<0:=Xv b;clear b;refine St.go be <| so g Z Z Z Z <| so g Z Z Z Z <| so g Z Z Z Z <| sp Y Z Z Z <| Yb fun f5 ch=>b0 _ _ <| Qab (t:=113) ch Z <| XW fun f2 dc=>rg ch fun d=>sa Y Z Z <| Yb fun g6 ew=>dc _ _ ?_
          refine XA ?_;with_reducible repeat first | refine Qd ?_ | refine Qc ?_
          have F:=QZ y k.out i.out p.out h.out j.out m.out l.out (lm:=lm);have R:QV lm e M N xc x L J I=1:=by rw[F];simp[r,q,u,a6.out,c5]
          exact Ql (t:=4) ew Z Z ⟨by rw[R],c.bel⟩
         rw[b] at be
         have b3:¬ (x<0):=Xw b;clear b;refine St.go be <| sfIns4 ⟨_,g,Z,Z⟩ Z Z <| Q7 1 c ⟨_,g,Z,Z⟩ Z Z Z Z <| sgt ⟨_,g,Z,Z⟩ Z Z Z <| spf Y Z Z Z <| Yb fun gr bu=>b0 _ _ <| Qt (t:=113) bu Z (fun b=>?_) (fun b=>?_)
         ·have df:7<x:=Xv b
          clear b;refine XW fun f7 c8=>rg bu fun d=>sa Y Z Z <| Yb fun hc ep=>c8 _ _ ?_
          refine XA ?_;with_reducible repeat first | refine Qd ?_ | refine Qc ?_
          have F:=QZ y k.out i.out p.out h.out j.out m.out l.out (lm:=lm);have R:QV lm e M N xc x L J I=1:=by rw[F];simp[r,q,u,a6.out,b3,df]
          exact Ql (t:=4) ep Z Z ⟨by rw[R],c.bel⟩
         have c0:¬ (7<x):=Xw b;clear b;refine XB <| X _ _ <| XW fun hf c9=>rg bu fun d=>sa Y Z Z <| Yb fun gc d9=>c9 _ _ ?_
         refine XA ?_;with_reducible repeat first | refine Qd ?_ | refine Qc ?_
         have F:=QZ y k.out i.out p.out h.out j.out m.out l.out (lm:=lm);have R:QV lm e M N xc x L J I=0:=by rw[F];simp[r,q,u,a6.out,b3,c0]
         exact Ql (t:=4) d9 Z Z ⟨by rw[R],c.bel⟩
        rw[b] at ab
        have O:¬ e=6:=XE b;have z:¬ e=6:=O;clear O;clear b;refine rg ab fun d=>seq Y Z Z Z <| sa Y Z Z <| Yb fun gp a2=>bo _ _ <| Qt (t:=103) a2 Z (fun b=>?_) (fun b=>?_)
        ·rw[b] at a2
         have O:e=7:=XD b;have ba:Hid (e=7):=O;clear O;clear b;refine XW fun g0 bt=>Q5 <| fun d f=>?_
         have g:(d[3]?).bind (fun o:Oper=>o.dst)=some 109:=f 3;clear f;refine St.go a2 <| sfIns4 Y Z Z <| Q7 1 c Y Z Z Z Z <| slt Y Z Z Z <| sm Y Z Z <| fun f8 bf=>?_
         rcases Xa (decide (x<0)) with b | b
         ·rw[b] at bf
          have dq:x<0:=Xv b;clear b;refine St.go bf <| so g Z Z Z Z <| so g Z Z Z Z <| so g Z Z Z Z <| sp Y Z Z Z <| Yb fun ga cg=>bt _ _ <| Qab (t:=113) cg Z <| XW fun g1 dt=>rg cg fun d=>sa Y Z Z <| Yb fun g3 ez=>dt _ _ ?_
          refine XA ?_;with_reducible repeat first | refine Qd ?_ | refine Qc ?_
          have F:=QZ y k.out i.out p.out h.out j.out m.out l.out (lm:=lm);have R:QV lm e M N xc x L J I=1:=by rw[F];simp[r,q,u,z,ba.out,dq]
          exact Ql (t:=4) ez Z Z ⟨by rw[R],c.bel⟩
         rw[b] at bf
         have b2:¬ (x<0):=Xw b;clear b;refine St.go bf <| sfIns4 ⟨_,g,Z,Z⟩ Z Z <| Q7 1 c ⟨_,g,Z,Z⟩ Z Z Z Z <| sgt ⟨_,g,Z,Z⟩ Z Z Z <| spf Y Z Z Z <| Yb fun gz bj=>bt _ _ <| Qt (t:=113) bj Z (fun b=>?_) (fun b=>?_)
         ·have cy:7<x:=Xv b
          clear b;refine XW fun f4 di=>rg bj fun d=>sa Y Z Z <| Yb fun gn d0=>di _ _ ?_
          refine XA ?_;with_reducible repeat first | refine Qd ?_ | refine Qc ?_
          have F:=QZ y k.out i.out p.out h.out j.out m.out l.out (lm:=lm);have R:QV lm e M N xc x L J I=1:=by rw[F];simp[r,q,u,z,ba.out,b2,cy]
          exact Ql (t:=4) d0 Z Z ⟨by rw[R],c.bel⟩
         have db:¬ (7<x):=Xw b;clear b;refine XB <| X _ _ <| XW fun f9 dd=>rg bj fun d=>sa Y Z Z <| Yb fun gd ea=>dd _ _ ?_
         refine XA ?_;with_reducible repeat first | refine Qd ?_ | refine Qc ?_
         have F:=QZ y k.out i.out p.out h.out j.out m.out l.out (lm:=lm);have R:QV lm e M N xc x L J I=0:=by rw[F];simp[r,q,u,z,ba.out,b2,db]
         exact Ql (t:=4) ea Z Z ⟨by rw[R],c.bel⟩
        rw[b] at a2
        have O:¬ e=7:=XE b;have U:¬ e=7:=O;clear O;clear b;refine XW fun gu cu=>rg a2 fun d=>seq Y Z Z Z <| sa Y Z Z <| Yb fun gf bk=>cu _ _ <| Qt (t:=114) bk Z (fun b=>?_) (fun b=>?_)
        ·have O:e=14:=XD b
         have V:Hid (e=14):=O;clear O;clear b;refine XW fun gv dg=>XW fun gs bs=>Q5 <| fun d f=>?_
         have g:(d[3]?).bind (fun o:Oper=>o.dst)=some 119:=f 3;clear f;refine St.go bk <| sfIns4 Y Z Z <| Q7 1 c Y Z Z Z Z <| slt Y Z Z Z <| sm Y Z Z <| fun gg bg=>?_
         rcases Xa (decide (x<0)) with b | b
         ·rw[b] at bg
          have cx:x<0:=Xv b;clear b;refine St.go bg <| so g Z Z Z Z <| so g Z Z Z Z <| so g Z Z Z Z <| so g Z Z Z Z <| so g Z Z Z Z <| so g Z Z Z Z <| sp Y Z Z Z <| Yb fun hd cl=>bs _ _ <| Qab (t:=126) cl Z <| XW fun ha cz=>rg cl fun d=>sa Y Z Z <| Yb fun g4 e1=>cz _ _ ?_
          refine XA ?_;with_reducible repeat first | refine Qd ?_ | refine Qc ?_
          have F:=QZ y k.out i.out p.out h.out j.out m.out l.out (lm:=lm);have R:QV lm e M N xc x L J I=1:=by rw[F];simp[r,q,u,z,U,V.out,cx]
          exact Ql (t:=4) e1 Z Z ⟨by rw[R],c.bel⟩
         rw[b] at bg
         have ak:¬ (x<0):=Xw b;clear b;refine St.go bg <| sfIns4 ⟨_,g,Z,Z⟩ Z Z <| Q7 1 c ⟨_,g,Z,Z⟩ Z Z Z Z <| sfModule0 ⟨_,g,Z,Z⟩ Z Z <| Qbc 2 c ⟨_,g,Z,Z⟩ Z Z Z Z <| QaG ⟨_,g,Z,Z⟩ Z Z <| sge ⟨_,g,Z,Z⟩ Z Z Z <| spf Y Z Z Z <| Yb fun hj bw=>bs _ _ <| Qt (t:=126) bw Z (fun b=>?_) (fun b=>?_)
         ·have cq:(lm:Int)<=x:=Xv b
          clear b;refine XW fun gh dk=>rg bw fun d=>sa Y Z Z <| Yb fun hi dx=>dk _ _ ?_
          refine XA ?_;with_reducible repeat first | refine Qd ?_ | refine Qc ?_
          have F:=QZ y k.out i.out p.out h.out j.out m.out l.out (lm:=lm);have R:QV lm e M N xc x L J I=1:=by rw[F];simp[r,q,u,z,U,V.out,ak,cq]
          exact Ql (t:=4) dx Z Z ⟨by rw[R],c.bel⟩
         have bc:¬ ((lm:Int)<=x):=Xw b;clear b;refine XB <| dg _ _ <| XW fun gw bq=>Q5 <| fun d f=>?_
         have a3:(d[4]?).bind (fun o:Oper=>o.dst)=some 131:=f 4;clear f;refine St.go bw <| sfIns6 Y Z Z <| Qat 1 c Y Z Z Z Z <| Qcy Y Z Z <| sgt Y Z Z Z <| sm Y Z Z <| fun gb bd=>?_
         rcases Xa (decide (6<(J:Int))) with b | b
         ·rw[b] at bd
          have c1:6<J:=by have:=Xv b;omega
          clear b;refine St.go bd <| so a3 Z Z Z Z <| so a3 Z Z Z Z <| so a3 Z Z Z Z <| so a3 Z Z Z Z <| sp Y Z Z Z <| Yb fun hh ck=>bq _ _ <| Qab (t:=136) ck Z <| XW fun fz c6=>rg ck fun d=>sa Y Z Z <| Yb fun gt d8=>c6 _ _ ?_
          refine XA ?_;with_reducible repeat first | refine Qd ?_ | refine Qc ?_
          have F:=QZ y k.out i.out p.out h.out j.out m.out l.out (lm:=lm);have R:QV lm e M N xc x L J I=2:=by rw[F];simp[r,q,u,z,U,V.out,ak,bc,c1]
          exact Ql (t:=4) d8 Z Z ⟨by rw[R],c.bel⟩
         rw[b] at bd
         have bi:¬ (6<J):=by have:=Xw b;omega
         clear b;refine St.go bd <| sfIns7 ⟨_,a3,Z,Z⟩ Z Z <| Qat 1 c ⟨_,a3,Z,Z⟩ Z Z Z Z <| Qcy ⟨_,a3,Z,Z⟩ Z Z <| sgt ⟨_,a3,Z,Z⟩ Z Z Z <| spf Y Z Z Z <| Yb fun gq bh=>bq _ _ <| Qt (t:=136) bh Z (fun b=>?_) (fun b=>?_)
         ·have c2:8<I:=by have:=Xv b;omega
          clear b;refine XW fun gy dm=>rg bh fun d=>sa Y Z Z <| Yb fun g5 du=>dm _ _ ?_
          refine XA ?_;with_reducible repeat first | refine Qd ?_ | refine Qc ?_
          have F:=QZ y k.out i.out p.out h.out j.out m.out l.out (lm:=lm);have R:QV lm e M N xc x L J I=2:=by rw[F];simp[r,q,u,z,U,V.out,ak,bc,bi,c2]
          exact Ql (t:=4) du Z Z ⟨by rw[R],c.bel⟩
         have ct:¬ (8<I):=by have:=Xw b;omega
         clear b;refine XB <| X _ _ <| XW fun he cv=>rg bh fun d=>sa Y Z Z <| Yb fun f3 fh=>cv _ _ ?_
         refine XA ?_;with_reducible repeat first | refine Qd ?_ | refine Qc ?_
         have F:=QZ y k.out i.out p.out h.out j.out m.out l.out (lm:=lm);have R:QV lm e M N xc x L J I=0:=by rw[F];simp[r,q,u,z,U,V.out,ak,bc,bi,ct]
         exact Ql (t:=4) fh Z Z ⟨by rw[R],c.bel⟩
        have O:¬ e=14:=XE b;have c3:¬ e=14:=O;clear O;clear b;refine XB <| X _ _ <| XW fun g7 dj=>rg bk fun d=>sa Y Z Z <| Yb fun gx ei=>dj _ _ ?_
        refine XA ?_;with_reducible repeat first | refine Qd ?_ | refine Qc ?_
        have F:=QZ y k.out i.out p.out h.out j.out m.out l.out (lm:=lm);have R:QV lm e M N xc x L J I=0:=by rw[F];simp[r,q,u,z,U,c3]
        exact Ql (t:=4) ei Z Z ⟨by rw[R],c.bel⟩
theorem Qla {b:Int}(g:QG b=none) (m q xc l p:Int) (J I L:Option Addr) (lm O o G r F:Nat) (w:World) :
 Rd prog 80 #[.agg #[.slice J lm O],.agg #[.int .i64 b,.int .i64 m,.int .i64 q,.int .i64 xc,.int .i64 l,.int .i64 p,.slice I o G,.slice L r F]] w (.int .i64 (QV lm b m q xc l p o r)):=by
 refine Qv (n:=137) func80 Z Z Z <| fun a y=>?_
 have hW:=Ye w;replace y:Fr 137 a [(0,.agg #[.slice J lm O]),(1,.agg #[.int .i64 b,.int .i64 m,.int .i64 q,.int .i64 xc,.int .i64 l,.int .i64 p,.slice I o G,.slice L r F])]:=y;refine XW fun K1 E=>rg y fun d=>sB hW Y Z Z <| fun w2 B2 D H=>sB D Y Z Z <| fun w3 B3 h H=>sa Y Z Z <| Yb fun a4 h4=>E _ _ <| XW fun K5 x=>rg h4 fun d=>sfIns0 Y Z Z <| Q7 0 h Y Z Z Z Z <| QjO cf118 h (QgV g w3) Y Z Z <| fun M C=>sm Y Z Z <| fun T z=>Zh (t:=11) (v:=.agg #[.bool false,.bool false,.bool false,.bool false,.bool false,.bool false,.bool false]) (w':=M) z Z Z Z (fun K B=>?_) ?_
 ·have V:T.tmps.getD 7 undef=.tuple #[.agg #[.bool false,.bool false,.bool false,.bool false,.bool false,.bool false,.bool false],.bool false]:=z.sl 7 _ Z
  go_simp;exact B
 clear z;intro U c;refine Zh (t:=12) (v:=.bool false) (w':=M) c Z Z Z (fun K B=>?_) ?_
 ·have V:U.tmps.getD 7 undef=.tuple #[.agg #[.bool false,.bool false,.bool false,.bool false,.bool false,.bool false,.bool false],.bool false]:=c.sl 7 _ Z
  go_simp;exact B
 clear c;intro a9 s;refine St.go s <| Qgl C Y Z <| fun X ab i H=>sT 0 i Z Z infFields Z Z Z <| fun S e=>sa Y Z Z <| Yb fun af u=>x _ _ <| XW fun W N=>XW fun ad j=>rg u fun d=>sm Y Z Z <| sn Y Z Z <| Yb fun P k=>j _ _ <| Qab (t:=14) k Z <| XW fun ae f=>rg k fun d=>sa Y Z Z <| Yb fun Q A=>f _ _ ?_
 refine XA ?_;with_reducible repeat first | refine Qd ?_ | refine Qc ?_
 have R:QV lm b m q xc l p o r=3:=by simp[QV,g]
 exact Ql (t:=4) A Z Z ⟨by rw[R],e.bel⟩
theorem Qdd (d:Nat) (x:QC) (i:IP) (e:Option Addr) (f:Nat) (w:World) :
 Rd prog 80 #[.agg #[.slice e d f],.agg #[.int .i64 x.op,.int .i64 x.a,.int .i64 x.b,.int .i64 x.c,.int .i64 x.k,.int .i64 x.n,.slice i.pR x.regs.length i.cR,.slice i.pA x.args.length i.cA]] w (.int .i64 (x.form d)):=by
 rw[QC.form_eq]
 cases h:QG x.op with
 | none=>exact Qla h _ _ _ _ _ _ _ _ _ _ _ _ _ _ _
 | some p=>obtain⟨a,b,c,k,n,r,s⟩:=p;exact Qjz h _ _ _ _ _ _ _ _ _ _ _ _ _ _ _
theorem Qhk {p n:Nat->Prop}{s:JSt}{x:QC}{j:Option Addr}(a:∀ k,O k->k<w.heap.size) (c:JOk s) (h:KAt w b O s) (f:intsL.In w p x.regs [.slice j x.regs.length rc]) (d:intsL.In w n x.args [.slice ag x.args.length ac]) (i:x.regs.length<=rc) (r:x.form s.m.length=0) :
 Calls prog 81 #[.pointer (some ⟨b,0,none⟩),Qa9 x j ag rc ac] w fun e w'=>QX w O (s.makes x).1 (s.makes x).2 e w':=by
 obtain⟨l,g,o,q⟩:=Zk r
 rcases q with e | e | e | e | e | e | e | e | e | e | e | e | e | e
 ·exact QgS a c h e
 ·exact Qhl a c h e
 ·exact Qg0 a c h e
 ·exact QfL a c h e
 ·exact Qfl a c h d (o e) e
 ·exact Qhc a c h (l (.inl e)) e
 ·exact Qhj a c h (l (.inr e)) e
 ·exact Qfe a c h e
 ·exact QfJ a c h e
 ·exact Qfh a c h e
 ·exact QgX a c h e
 ·exact QhF a c h e
 ·exact Qg3 a c h e
 ·exact QfI a c h f d i (g e).2.2.1 (g e).2.2.2 ⟨(g e).1,(g e).2.1⟩ e
theorem QhV {s:JSt}(a:JOk s){x:QC}(c:x.form s.m.length=0):(s.makes x).2.length<=8:=by
 obtain⟨i,f,h,b⟩:=Zk c
 rcases b with e | e | e | e | e | e | e | e | e | e | e | e | e | e
 ·rw[Z4 (.inl e)];simp
 ·rw[QbV e];simp
 ·rw[QaQ e];split<;>simp
 ·rw[Qap e];split<;>simp
 ·rw[Qaw e];repeat' split
  all_goals simp
 ·rw[Qbh e];repeat' split
  all_goals simp
 ·rw[QbR e];repeat' split
  all_goals simp
 ·rw[Qa1 e];split<;>simp
 ·rw[Qbv e];simp
 ·rw[QaV e];simp
 ·rw[Qci e];simp
 ·rw[Z4 (.inr e)];simp
 ·rw[Qcc e];simp
 ·rw[Qbw e]
  split
  ·simp
  ·rename_i g d
   split
   ·rw[XN]
    exact(a.mod.2 g (Zm d)).results.1
   ·simp
theorem KTo.same {s:JSt}(h:KAt wc b O s) (a:Below w.heap.size w wc) (d:∀ k,O k->k<w.heap.size):KTo w wc b O s :=
 ⟨O,h,⟨a.os,a.tape,a.output,a.size,fun k c _=>a.block k c,fun k c=>.inl c⟩,fun k c=>Zl (d k c) a.size⟩
theorem KTo.after {f:World}{s:JSt}(h:KTo f wc b O s) (a:Below w.heap.size w f):KTo w wc b O s:=by
 obtain⟨i,g,c,l⟩:=h
 exact⟨i,g,⟨c.os.trans a.os,c.tape.trans a.tape,c.output.trans a.output,Zt a.size c.size,fun k d j=>(c.block k (Zl d a.size) j).trans (a.block k d),fun k d=>(c.own k d).imp id fun e=>Zt a.size e⟩,l⟩
theorem KTo.then {g:World}{f:Nat->Prop}{s:JSt}(h:KTo g wc b f s) (a:Zw O f w g) (n:∀ k,O k->k<w.heap.size):KTo w wc b O s:=by
 obtain⟨m,j,c,l⟩:=h
 refine⟨m,j,⟨c.os.trans a.os,c.tape.trans a.tape,c.output.trans a.output,Zt a.size c.size,fun k d i=>(c.block k (Zl d a.size) (fun e=>?_)).trans (a.block k d i),fun k d=>?_⟩,l⟩
 ·rcases a.own k e with e | e
  ·exact i e
  ·omega
 ·rcases c.own k d with e | e
  ·exact a.own k e
  ·exact .inr (Zt a.size e)
structure InS (w wc:World) (b X:Nat) (O Q:Nat->Prop) (s:JSt) (x:QC) (rg ag:Option Addr) (rc ac:Nat):Prop where
 known:KAt wc b O s
 box:wc.heap[X]?=some (.cells #[.int .i64 x.op,.int .i64 x.a,.int .i64 x.b,.int .i64 x.c,.int .i64 x.k,.int .i64 x.n,.slice rg x.regs.length rc,.slice ag x.args.length ac] 46 (0,0))
 regs:intsL.In wc Q x.regs [.slice rg x.regs.length rc]
 args:intsL.In wc Q x.args [.slice ag x.args.length ac]
 bel:Below w.heap.size w wc
 own:∀ k,O k->k<w.heap.size
 far:w.heap.size<=X
theorem InS.below {s:JSt}{x:QC}{a:Option Addr}{w9:World}(h:InS w wc b X O Q s x a ag rc ac) (k:Below wc.heap.size wc w9):InS w w9 b X O Q s x a ag rc ac :=
 ⟨h.known.below k,(k.block X (XC h.box)).trans h.box,Ya h.regs k,Ya h.args k,h.bel.trans (k.mono h.bel.size),h.own,h.far⟩
theorem InS.lt {s:JSt}{x:QC}{a:Option Addr}(h:InS w wc b X O Q s x a ag rc ac):∀ k,O k->k<wc.heap.size:=fun k c=>Zl (h.own k c) h.bel.size
theorem InS.cells {s:JSt}{x:QC}{d:Option Addr}(h:InS w wc b X O Q s x d ag rc ac):wc.cell? ⟨X,0,none⟩=some (.int .i64 x.op)/\wc.cell? ⟨X,1,none⟩=some (.int .i64 x.a)/\wc.cell? ⟨X,2,none⟩=some (.int .i64 x.b)/\wc.cell? ⟨X,3,none⟩=some (.int .i64 x.c)/\wc.cell? ⟨X,4,none⟩=some (.int .i64 x.k)/\wc.cell? ⟨X,5,none⟩=some (.int .i64 x.n)/\wc.cell? ⟨X,6,none⟩=some (.slice d x.regs.length rc)/\wc.cell? ⟨X,7,none⟩=some (.slice ag x.args.length ac) :=
 ⟨Qb h.box 0 _ Z,Qb h.box 1 _ Z,Qb h.box 2 _ Z,Qb h.box 3 _ Z,Qb h.box 4 _ Z,Qb h.box 5 _ Z,Qb h.box 6 _ Z,Qb h.box 7 _ Z⟩
theorem InS.far_cell {s:JSt}{x:QC}{a:Option Addr}{w9:World}(h:InS w wc b X O Q s x a ag rc ac){c:Nat->Prop}(k:Zw O c wc w9) (j:Nat):w9.cell? ⟨X,j,none⟩=wc.cell? ⟨X,j,none⟩ :=
 XU (k.block X (XC h.box) (fun e=>by have:=h.own X e;have:=h.far;omega))
def QlO (b X nm cm rc ac:Nat) (cf:Int) (pm rg ag:Option Addr) (x:QC) (t:Tmp) (v:Value) (w:World):Prop :=
 v=(([(0,.pointer (some ⟨b,0,none⟩)),(3,.pointer (some ⟨X,0,none⟩)),(8,.pointer (some ⟨b,0,none⟩)),(9,.pointer (some ⟨b,0,none⟩)),(10,.pointer (some ⟨b,0,none⟩)),(11,.agg #[.slice pm nm cm]),(12,.agg #[.int .i64 x.op,.int .i64 x.a,.int .i64 x.b,.int .i64 x.c,.int .i64 x.k,.int .i64 x.n,.slice rg x.regs.length rc,.slice ag x.args.length ac]),(13,.int .i64 cf),(5,.int .i64 cf)]:List (Tmp × Value)).lookup t).getD undef
theorem ki1 {j:Nat}{l:Int}{p:Option Addr}{x:QC}(H:w6.cell? ⟨b,0,none⟩=some (.slice pm j cm)) (y:w6.cell? ⟨X,0,none⟩=some (.int .i64 x.op)) (r:w6.cell? ⟨X,1,none⟩=some (.int .i64 x.a)) (A:w6.cell? ⟨X,2,none⟩=some (.int .i64 x.b)) (I:w6.cell? ⟨X,3,none⟩=some (.int .i64 x.c)) (D:w6.cell? ⟨X,4,none⟩=some (.int .i64 x.k)) (s:w6.cell? ⟨X,5,none⟩=some (.int .i64 x.n)) (B:w6.cell? ⟨X,6,none⟩=some (.slice p x.regs.length rc)) (G:w6.cell? ⟨X,7,none⟩=some (.slice ag x.args.length ac)) (E:Hid (x.form j=l))
 (a:Act) (m:Nat) (z:a.tmps.size=m) (o:82<=m) (C:a.tmps.getD 0 undef=.pointer (some ⟨b,0,none⟩)) (F:a.tmps.getD 3 undef=.pointer (some ⟨X,0,none⟩)) :
 Code.wp prog ((Tryz.f43.body.bind (Qo 1)).getD .skip) (fun e a' w'=>e=.normal/\∃ vs,a'=Zn a vs [8,9,10,11,12,13,5]/\vs 5=.int .i64 l/\Below w6.heap.size w6 w') a w6:=by
 conv=>arg 2;whnf
 refine QD (QlO b X j cm rc ac l pm p ag x) (fun w=>Below w6.heap.size w6 w) (fun w w'=>Below w.heap.size w w') (outs:=[0,3]) (gs:=[]) (bs:=[true,true,true,true,true,true,true]) (by kernel_rfl) (n:=82) z o (by kernel_rfl) ?hR ?hG (Qg Zr 1) ⟨C,F,Y⟩ ?hA ?hend
 case hR=>exact fun t v w w' _ h=>h
 case hG=>exact Y
 case hend=>exact fun vs w' d f=>⟨Z,vs,Z,f 5 (by kernel_rfl),d⟩
 case hA =>
  iterate 5
   refine⟨fun a w d f K i=>?_,?_⟩
   ·obtain⟨g,-⟩:=f
    conv at g=>whnf;rhs;whnf
    have J:=Qp H d;have S:=Qp y d;have P:=Qp r d;have N:=Qp A d;have Q:=Qp I d;have L:=Qp D d;have O:=Qp s d;have T:=Qp B d;have M:=Qp G d;go_simp;exact i _ _ Zr d Z
  refine⟨fun a w d f K i=>?_,?_⟩
  ·obtain⟨g,u,-⟩:=f
   conv at g=>whnf;rhs;whnf
   conv at u=>whnf;rhs;whnf
   go_simp;refine Xm (Qdd j x ⟨p,rc,ag,ac⟩ pm cm _) ?_;rw[E.out];rintro U R ⟨rfl,q⟩;go_simp;exact i _ _ q (d.trans (q.mono d.size)) Z
  refine⟨fun a w d f K i=>?_,?_⟩
  ·obtain⟨g,-⟩:=f
   conv at g=>whnf;rhs;whnf
   go_simp;exact i _ _ Zr d Z
  trivial
def Qli (b X hh gH nH cH gL nL cL i r:Nat) (t:Tmp) (v:Value) (w:World):Prop :=
 v=(([(0,.pointer (some ⟨b,0,none⟩)),(3,.pointer (some ⟨X,0,none⟩)),(56,.pointer (some ⟨b,0,none⟩)),(57,.pointer (some ⟨b,0,none⟩)),(58,.pointer (some ⟨b,5,none⟩)),(59,.pointer (some ⟨hh,0,none⟩)),(60,.pointer (some ⟨hh,0,none⟩)),(61,.pointer (some ⟨hh,0,none⟩)),(62,.slice (some ⟨gH,0,none⟩) nH cH),(63,.pointer (some ⟨b,0,none⟩)),(64,.pointer (some ⟨b,0,none⟩)),(65,.pointer (some ⟨b,6,none⟩)),(66,.slice (some ⟨gL,0,none⟩) nL cL),(67,.pointer (some ⟨X,1,none⟩)),(68,.int .i64 (i:Int)),(69,.pointer (some ⟨gL,i*3,none⟩)),(70,.pointer (some ⟨gL,i*3+1,none⟩)),(71,.int .i64 (r:Int)),(72,.pointer (some ⟨gH,r,none⟩))]:List (Tmp × Value)).lookup t).getD undef
theorem Qmc {q k j s p g r:Nat}(C:w6.cell? ⟨b,5,none⟩=some (.pointer (some ⟨q,0,none⟩))) (A:w6.cell? ⟨q,0,none⟩=some (.slice (some ⟨k,0,none⟩) j s)) (G:w6.cell? ⟨b,6,none⟩=some (.slice (some ⟨p,0,none⟩) g cL)) (z:w6.cell? ⟨X,1,none⟩=some (.int .i64 (i:Int))) (D:w6.cell? ⟨p,i*3+1,none⟩=some (.int .i64 (r:Int))) (u:(i:Int)<g) (x:(r:Int)<j){Q:Exit->Act->World->Prop}
 (a:Act) (m:Nat) (B:a.tmps.size=m) (o:82<=m) (E:a.tmps.getD 0 undef=.pointer (some ⟨b,0,none⟩)) (F:a.tmps.getD 3 undef=.pointer (some ⟨X,0,none⟩))
 (hend:∀ ops vs w',vs 72=.pointer (some ⟨k,r,none⟩)->Below w6.heap.size w6 w'->wpList prog ops Q (Qdh 17 ((Tryz.f43.body.bind (Qo 12)).getD .skip)) (Zn a vs [56,57,58,59,60,61,62,63,64,65,66,67,68,69,70,71,72]) w') :
 Code.wp prog ((Tryz.f43.body.bind (Qo 12)).getD .skip) Q a w6:=by
 conv=>arg 2;whnf
 refine Qw 17 (Qli b X q k j s p g cL i r) (fun w=>Below w6.heap.size w6 w) (fun w w'=>Below w.heap.size w w') (outs:=[0,3]) (gs:=[]) (bs:=[true,true,true,true,true,true,true,true,true,true,true,true,true,true,true,true,true]) (by kernel_rfl) (n:=82) B o (by kernel_rfl) (by kernel_rfl) ?hR ?hG (Qg Zr 1) ⟨E,F,Y⟩ ?hA ?hend
 case hR=>exact fun t v w w' _ h=>h
 case hG=>exact Y
 case hend=>exact fun ops vs w' c d=>hend ops vs w' (d 72 (by kernel_rfl)) c
 case hA =>
  iterate 13
   refine⟨fun a w c d K f=>?_,?_⟩
   ·obtain⟨e,-⟩:=d
    conv at e=>whnf;rhs;whnf
    have y:=Qp C c;have J:=Qp A c;have I:=Qp G c;have H:=Qp z c;go_simp;exact f _ _ Zr c Z
  refine⟨fun a w c d K f=>?_,?_⟩
  ·obtain⟨e,l,-⟩:=d
   conv at e=>whnf;rhs;whnf
   conv at l=>whnf;rhs;whnf
   go_simp;exact f _ _ Zr c Z
  iterate 2
   refine⟨fun a w c d K f=>?_,?_⟩
   ·obtain⟨e,-⟩:=d
    conv at e=>whnf;rhs;whnf
    have y:=Qp D c;go_simp;exact f _ _ Zr c Z
  refine⟨fun a w c d K f=>?_,?_⟩
  ·obtain⟨e,l,-⟩:=d
   conv at e=>whnf;rhs;whnf
   conv at l=>whnf;rhs;whnf
   go_simp;exact f _ _ Zr c Z
  trivial
theorem KAt.same6 {s:JSt}(h:KAt w b O s) (d:w.cell? ⟨b,6,none⟩=some v) (k:Nat):(w.setCell ⟨b,6,none⟩ v).heap[k]?=w.heap[k]?:=by
 obtain⟨g,o,l,n,f,i,j,p,h,m,a,-⟩:=h
 have e:=(Qb a 6 _ Z).symm.trans d;simp only[Option.some.injEq] at e
 by_cases c:k=b
 ·subst c;rw[Qq a,a,<-e];rfl
 ·exact Xd _ _ _ _ c
theorem Qjf {s:JSt}{x:QC}{rg:Option Addr}(hO:∀ k,O k->k<w.heap.size) (hJ:JOk s) (h:KAt w b O s) (aw:intsL.In w Q x.regs [.slice rg x.regs.length rc]) (ax:intsL.In w Q x.args [.slice ag x.args.length ac]) (b6:x.regs.length<=rc) :
 Calls prog 43 #[.pointer (some ⟨b,0,none⟩),Qa9 x rg ag rc ac] w fun e w'=>e=.returned (.int .i64 (s.code x))/\KTo w w' b O (s.ins x):=by
 have HJ:=Qa hJ;obtain⟨i0,hi,bc,be,bd⟩:=pInfoT
 have b1:=QU w (.cells #[.int .i64 x.op,.int .i64 x.a,.int .i64 x.b,.int .i64 x.c,.int .i64 x.k,.int .i64 x.n,.slice rg x.regs.length rc,.slice ag x.args.length ac] 46);have S0:Hid (InS w (w.alloc (.cells #[.int .i64 x.op,.int .i64 x.a,.int .i64 x.b,.int .i64 x.c,.int .i64 x.k,.int .i64 x.n,.slice rg x.regs.length rc,.slice ag x.args.length ac] 46)) b w.heap.size O Q s x rg ag rc ac):=⟨h.below b1,Qm w _ _,Ya aw b1,Ya ax b1,b1,hO,Ze⟩;clear h aw ax b1 hJ hO;go_enter func43,ntmps43
 go_upto_region 1 with fail
 obtain⟨X,hX⟩:∃ X,w.heap.size=X:=⟨_,Z⟩
 generalize bv:w.alloc (.cells #[.int .i64 x.op,.int .i64 x.a,.int .i64 x.b,.int .i64 x.c,.int .i64 x.k,.int .i64 x.n,.slice rg x.regs.length rc,.slice ag x.args.length ac] 46)=w1 at S0 |-;have S1:Hid (InS w w1 b X O Q s x rg ag rc ac):=by rw[<-hX];exact S0.out
 rw[hX]
 clear bv hX S0;obtain⟨pm,cm,a1,c1,a2,c2,a3,c3,hh,C,D,R⟩:=S1.out.known.read
 obtain⟨q0,-⟩:=R.cells
 obtain⟨x0,x1,x2,x3,x4,x5,x6,x7⟩:=S1.out.cells
 obtain⟨cf,bg⟩:∃ cf,x.form s.m.length=cf:=⟨_,Z⟩
 have ak:Hid (x.form s.m.length=cf):=bg;clear bg;refine Code.wp_mono ?_ (ki1 q0 x0 x1 x2 x3 x4 x5 x6 x7 ak _ _ Z (Xg (by kernel_rfl)) Z Z);rintro ee aa w5 ⟨rfl,vs,rfl,bo,hb⟩;simp only[Zn,Act.put,List.setIfInBounds_toArray,List.set_cons_zero,List.set_cons_succ,bo]
 have S:Hid (InS w w5 b X O Q s x rg ag rc ac):=S1.out.below hb;clear S1 hb bo q0 R x0 x1 x2 x3 x4 x5 x6 x7;by_cases a6:cf=0
 rotate_left
 ·have cd:(cf != 0)=true:=by simpa using a6
  have E:Hid (s.code x=cf):=by show _=_;unfold JSt.code;rw[ak.out,Xs a6]
  have E2:Hid (s.ins x=s):=by show _=_;unfold JSt.ins;rw[Xr (by rw[E.out];exact a6)]
  go_wp2_with fail
  go_ret;exact⟨by rw[E.out];rfl,by rw[E2.out];exact KTo.same S.out.known S.out.bel S.out.own⟩
 subst a6;obtain⟨x0,x1,x2,x3,x4,x5,x6,x7⟩:=S.out.cells
 go_wp2_with fail
 refine(Qhk S.out.lt HJ.out S.out.known S.out.regs S.out.args b6 ak.out).mono ?_
 rintro e4 w4 ⟨la,n,d,rfl,bf,b4⟩;have S4:Hid (InS w w4 b X O Q s x rg ag rc ac):=S.out.below b4;clear S b4 x0 x1 x2 x3 x4 x5 x6 x7;have S:=S4;clear S4;obtain⟨x0,x1,x2,x3,x4,x5,x6,x7⟩:=S.out.cells
 have a5:=Qa bf;clear bf;obtain⟨cc,l,a0⟩:∃ cc l,s.makes x=(cc,l):=⟨_,_,Z⟩
 have aj:Hid (s.makes x=(cc,l)):=a0;have ca:l.length<=8:=by have:=QhV HJ.out ak.out;rw[a0] at this;exact this
 rw[a0] at a5 |-
 clear a0;by_cases a4:cc=0
 rotate_left
 ·have ce:(cc != 0)=true:=by simpa using a4
  have E:Hid (s.code x=cc):=by show _=_;unfold JSt.code;rw[ak.out,aj.out,Xr (by simp),Xs a4]
  have E2:Hid (s.ins x=s):=by show _=_;unfold JSt.ins;rw[Xr (by rw[E.out];exact a4)]
  clear a5;go_wp2_with fail
  go_ret;exact⟨by rw[E.out];rfl,by rw[E2.out];exact KTo.same S.out.known S.out.bel S.out.own⟩
 subst a4;obtain⟨hn,cj,a9⟩:=a5.out Z
 have HN:Hid (n=l.length):=hn;have p:Hid ((Qi 6).In w4 (fun g=>¬ O g) l [.slice la n d]):=a9;have cn:n<=8:=by have:n=l.length:=hn;omega
 clear a5 a9 hn ca;have V:s.L.length<=80:=HJ.out.vals;obtain⟨pm,cm,a1,c1,a2,c2,a3,c3,hh,C,D,R⟩:=S.out.known.read
 obtain⟨-,-,-,-,-,-,T⟩:=R.cells
 have a7:Hid (TRd w4 (fun g=>¬ O g) C s.L):=R.row;clear R;by_cases N:s.L.length+n<=80
 rotate_left
 ·have ay:decide ((80:Int)<(s.L.length:Int)+(n:Int))=true:=Xt (by omega);have E:Hid (s.code x=2):=by show _=_;unfold JSt.code;rw[ak.out,aj.out,Xr (by simp),Xr (by simp),Xs (by rw[<-HN.out];omega)]
  have E2:Hid (s.ins x=s):=by show _=_;unfold JSt.ins;rw[Xr (by rw[E.out];decide)]
  generalize s.L.length=nL at T V N ay;go_wp2_with fail
  go_ret;exact⟨by rw[E.out];rfl,by rw[E2.out];exact KTo.same S.out.known S.out.bel S.out.own⟩
 have ay:decide ((80:Int)<(s.L.length:Int)+(n:Int))=false:=Xu (by omega);have EC:Hid (s.code x=0):=by show _=_;unfold JSt.code;rw[ak.out,aj.out,Xr (by simp),Xr (by simp),Xr (by rw[<-HN.out];omega)]
 have B4:Hid (Below w.heap.size w w4):=S.out.bel;have U:Hid (∀ k,O k->k<w4.heap.size):=S.out.lt;by_cases h3:x.op=3
 ·rw[h3] at x0
  have b8:((3:Int)==3)=true:=rfl;go_upto_region 10 with fail
  refine Code.wp_mono ?_ (QlJ U.out S.out.known HJ.out.regs _ (by rfl) Z Z);rintro ee aa W ⟨rfl,vs,rfl,F⟩;simp only[Zn,Act.put,List.setIfInBounds_toArray,List.set_cons_zero,List.set_cons_succ]
  obtain⟨OB,kB,ab,ap⟩:=F
  have y0:=(S.out.far_cell ab 0).trans x0;have af:Hid ((Qi 6).In W (fun g=>¬ OB g) l [.slice la n d]):=(Qi 6).keep (fun k F hl=>ab.block k hl F) (fun k F hl e=>by rcases ab.own k e with e | e;exact F e;omega) p.out;have q:=Qa kB;have I:=Qa ap;have J:=Qa ab;clear p x0 x1 x2 x3 x4 x5 x6 x7 T kB ab ap a7 S;have p:=af;clear af;obtain⟨C,D,xs,T,f6,K,ah,v⟩:=q.out.pushL I.out
  have ai:({ s with H:=s.H++[true] }).L.length=s.L.length:=rfl;have M:=Qa v;have B:=Qa ah
  have HF:Hid (s.ins x={ ({ s with H:=s.H++[true] }) with L:=({ s with H:=s.H++[true] }).L++l }):=by
   show _=_;unfold JSt.ins;rw[Xs EC.out]
   unfold JSt.next;rw[aj.out,Xs h3]
  clear v ah;rw[ai] at T B M K
  clear ai;by_cases an:n=0
  ·subst an;have ao:l=[]:=Xf.1 HN.out.symm;subst ao
   have ha:Hid (∀ (t:TypeId) (wx:World),(Builtin.append_ #[33,33] t #[.slice C s.L.length D,.slice la 0 d]).run prog wx=.ok (.slice C s.L.length D) wx):=fun (t:TypeId) (wx:World)=>run_append_nothing (P:=prog) wx 33 33 t 70 i0 pUnderT hi C s.L.length D K (.slice la 0 d) (by cases la with
    | none=>exact Src.ofNil wx pUnderT d
    | some ad=>exact Src.ofSlice wx pUnderT ad 0 d [] (by simp) (fun j u h=>by simp at h) (fun u h=>by cases h))
   have HZ:Hid (KTo w (W.setCell ⟨b,6,none⟩ (.slice C s.L.length D)) b O (s.ins x)):=by
    have e:∀ k,(W.setCell ⟨b,6,none⟩ (.slice C s.L.length D)).heap[k]?=W.heap[k]?:=fun k=>by
     rcases Nat.lt_or_ge k W.heap.size with F | F
     ·exact q.out.same6 T k
     ·rw[Array.getElem?_eq_none (by simpa using F),Array.getElem?_eq_none F]
    have z:KTo W (W.setCell ⟨b,6,none⟩ (.slice C s.L.length D)) b OB ({ s with H:=s.H++[true] }):=⟨OB,q.out.keep (fun k _=>e k) (fun _ _=>Iff.rfl),⟨Z,Z,Z,by simp,fun k _ _=>e k,fun k F=>.inl F⟩,fun k F=>by rw[World.size_setCell];exact I.out k F⟩;rw[HF.out,List.append_nil]
    exact(z.then J.out U.out).after B4.out
   clear M B HF q I J p;generalize s.L.length=nL at T ha HZ V K N;go_wp2_with (at_builtin;refine Q8 Z (.tmp 77) (.tmp 78) 33 Z (.slice C nL D) (.slice la 0 d) Z Z (ha.out _ _) ?_)
   go_ret;exact⟨by rw[EC.out];rfl,HZ.out⟩
  ·obtain⟨g0,o0,rfl⟩:∃ g0 o0,la=some ⟨g0,o0,none⟩:=by
    obtain⟨g,o,dd,e,-⟩:=Yf p.out (Zg (show 0<l.length by have:=HN.out;omega))
    exact⟨g,o,e⟩
   obtain⟨ds,d1,d2,d3,d4⟩:=Lay.flat p.out (fun y cs hy=>by obtain⟨ya,yc,e,-⟩:=hy;subst e;exact Qfi _ _ _ _ _)
   have ae:ds.length=n*3:=by rw[HN.out];exact d1
   have az:=Qa ae;have av:=Qa d2;have am:=Qa d3
   have A:Hid (∀ G g f,G.ownsRow 0 70 3 (.slice (some ⟨g,0,none⟩) (s.L.length+n) f) (s.L.length+n) (xs++ds)->W.grownBy G (Value.slice C s.L.length D).ownBlock->((Value.slice C s.L.length D).ownBlock=some g\/g=W.heap.size)->g<G.heap.size->G.cell? ⟨b,6,none⟩=some (.slice C s.L.length D)/\G.frozen? ⟨b,6,none⟩=false/\KTo w (G.setCell ⟨b,6,none⟩ (.slice (some ⟨g,0,none⟩) (s.L.length+n) f)) b O (s.ins x)):=by
    intro G g f r1 r2 r3 r4;rw[HN.out] at r1 |-
    obtain⟨z1,z2,z3⟩:=M.out G g f l ds d1 r1 r2 r3 r4 d4
    rw[HF.out]
    exact⟨z1,z2,(z3.then J.out U.out).after B4.out⟩
   clear M HF q I J p d1 ae d2 d3 d4;have au:Hid (0<=W.heap.size):=Xb _;generalize s.L.length=nL at T B A V K N;have aq:0<n:=by omega
   go_wp2_with (at_builtin;refine wpList_append_lies _ Z (.tmp 77) (.tmp 78) 33 Z 0 70 i0 (.agg #[.int .i64 0,.int .i64 0,.slice none 0 0]) 3 40 pUnderT hi bc be bd Z (by decide) _ _ _ Z B.out ⟨g0,o0,none⟩ n d ds Z az.out av.out am.out aq (by unfold maxLen;omega) (by omega) au.out W.heap.size Z ?_)
   intro g2 f G r1 r2 r3 r4;obtain⟨bj,bk,z9⟩:=A.out G g2 f r1 r2 r3 r4
   have Z9:=Qa z9;clear r1 r2 r3 r4 A B z9 T f6;go_wp2
   go_ret;exact⟨by rw[EC.out];rfl,Z9.out⟩
 have b8:(x.op==3)=false:=by simpa using h3
 by_cases h4:x.op=4
 ·obtain⟨t,al,bu,ba⟩:∃ t,s.at x.a=some t/\t.kind=2/\hHas s.H t.r=true:=by
   have e:=aj.out;rw[Qap h4] at e
   cases al:s.at x.a with
   | none=>rw[al] at e;simp at e
   | some t =>
     rw[al] at e
     simp only[Prod.mk.injEq] at e
     obtain⟨t',e1,e2,e3⟩:=Qay (Qao e.1).1
     rw[al] at e1
     exact⟨t',e1 ▸ rfl,e2,e3 Z⟩
  obtain⟨-,cb,bq,bb⟩:=QaO al
  obtain⟨i,bt⟩:=Xc cb
  rw[bt] at bb bq x1
  obtain⟨gL,va,vc,rfl,v0,v1,v2,-,-⟩:=a7.out i t (by simpa using bb)
  obtain⟨bz,bh⟩:=Z0 ba
  obtain⟨r,hr⟩:=Xc bz
  rw[hr] at v1 bh
  obtain⟨h2,aH,cH,z5,z0,a8⟩:=S.out.known.setH U.out
  obtain⟨gH,rfl,⟨u0,b0⟩,b9,bl⟩:=a8 r (by omega)
  have b5:=Qa bl;have bs:=Qa al;have b3:Hid (t.r=(r:Int)):=hr;clear hr;rw[h4] at x0
  clear a8 bl ba bb al bu v0 v2;go_upto_region 12 with fail
  refine Qmc z5 z0 T x1 v1 bq bh _ _ Z (Xg (by kernel_rfl)) Z Z ?_;rintro b2 vs w7 bn b7;show wpList _ b2 _ [_] (Zn _ vs [56,57,58,59,60,61,62,63,64,65,66,67,68,69,70,71,72]) w7;simp only[Zn,Act.put,List.setIfInBounds_toArray,List.set_cons_zero,List.set_cons_succ,bn]
  have S7:=Qa (S.out.below b7);obtain⟨ci,ch,ck,bm,bi,ar⟩:=S7.out.known.setH S7.out.lt
  have e1:=(Qp z5 b7).symm.trans bm;simp only[Option.some.injEq,Value.pointer.injEq,Addr.mk.injEq,and_true] at e1
  subst e1;have e2:=(Qp z0 b7).symm.trans bi;simp only[Option.some.injEq,Value.slice.injEq,true_and] at e2
  obtain⟨rfl,rfl⟩:=e2
  obtain⟨cl,eg,⟨u7,bx⟩,bw,br⟩:=ar r (by omega)
  simp only[Option.some.injEq,Addr.mk.injEq,and_true] at eg
  subst eg;obtain⟨OB,kB,ab,ap⟩:=br
  have B7:Hid (Below w.heap.size w w7):=S7.out.bel;have bp:Hid (∀ k,O k->k<w7.heap.size):=S7.out.lt;have af:Hid ((Qi 6).In (w7.setCell ⟨gH,r,none⟩ (.bool false)) (fun g=>¬ OB g) l [.slice la n d]):=(Qi 6).keep (fun k F hl=>ab.block k hl F) (fun k F hl e=>by rcases ab.own k e with e | e;exact F e;omega) (Ya p.out b7);have q:=Qa kB;have I:=Qa ap;have J:=Qa ab;clear p x0 x1 x2 x3 x4 x5 x6 x7 T kB ab ap a7 S S7 z5 z0 bm bi ar b5 U B4 b7 v1 b9 b0;have p:=af;have U:=bp;have B4:=B7;clear af bp B7;go_upto_region 13 with fail
  generalize w7.setCell ⟨gH,r,none⟩ (.bool false)=W at p q I J |-;clear bx bw;obtain⟨C,D,xs,T,f6,K,ah,v⟩:=q.out.pushL I.out
  have ai:({ s with H:=s.H.set r false }).L.length=s.L.length:=rfl;have M:=Qa v;have B:=Qa ah
  have HF:Hid (s.ins x={ ({ s with H:=s.H.set r false }) with L:=({ s with H:=s.H.set r false }).L++l }):=by
   show _=_;unfold JSt.ins;rw[Xs EC.out]
   unfold JSt.next;rw[aj.out,Xr h3,Xs h4];simp only[bs.out,b3.out,Int.toNat_natCast]
  clear v ah;rw[ai] at T B M K
  clear ai;by_cases an:n=0
  ·subst an;have ao:l=[]:=Xf.1 HN.out.symm;subst ao
   have ha:Hid (∀ (t:TypeId) (wx:World),(Builtin.append_ #[33,33] t #[.slice C s.L.length D,.slice la 0 d]).run prog wx=.ok (.slice C s.L.length D) wx):=fun (t:TypeId) (wx:World)=>run_append_nothing (P:=prog) wx 33 33 t 70 i0 pUnderT hi C s.L.length D K (.slice la 0 d) (by cases la with
    | none=>exact Src.ofNil wx pUnderT d
    | some ad=>exact Src.ofSlice wx pUnderT ad 0 d [] (by simp) (fun j u h=>by simp at h) (fun u h=>by cases h))
   have HZ:Hid (KTo w (W.setCell ⟨b,6,none⟩ (.slice C s.L.length D)) b O (s.ins x)):=by
    have e:∀ k,(W.setCell ⟨b,6,none⟩ (.slice C s.L.length D)).heap[k]?=W.heap[k]?:=fun k=>by
     rcases Nat.lt_or_ge k W.heap.size with F | F
     ·exact q.out.same6 T k
     ·rw[Array.getElem?_eq_none (by simpa using F),Array.getElem?_eq_none F]
    have z:KTo W (W.setCell ⟨b,6,none⟩ (.slice C s.L.length D)) b OB ({ s with H:=s.H.set r false }):=⟨OB,q.out.keep (fun k _=>e k) (fun _ _=>Iff.rfl),⟨Z,Z,Z,by simp,fun k _ _=>e k,fun k F=>.inl F⟩,fun k F=>by rw[World.size_setCell];exact I.out k F⟩;rw[HF.out,List.append_nil]
    exact(z.then J.out U.out).after B4.out
   clear M B HF q I J p;generalize s.L.length=nL at T ha HZ V K N;go_wp2_with (at_builtin;refine Q8 Z (.tmp 77) (.tmp 78) 33 Z (.slice C nL D) (.slice la 0 d) Z Z (ha.out _ _) ?_)
   go_ret;exact⟨by rw[EC.out];rfl,HZ.out⟩
  ·obtain⟨g0,o0,rfl⟩:∃ g0 o0,la=some ⟨g0,o0,none⟩:=by
    obtain⟨g,o,dd,e,-⟩:=Yf p.out (Zg (show 0<l.length by have:=HN.out;omega))
    exact⟨g,o,e⟩
   obtain⟨ds,d1,d2,d3,d4⟩:=Lay.flat p.out (fun y cs hy=>by obtain⟨ya,yc,e,-⟩:=hy;subst e;exact Qfi _ _ _ _ _)
   have ae:ds.length=n*3:=by rw[HN.out];exact d1
   have az:=Qa ae;have av:=Qa d2;have am:=Qa d3
   have A:Hid (∀ G g f,G.ownsRow 0 70 3 (.slice (some ⟨g,0,none⟩) (s.L.length+n) f) (s.L.length+n) (xs++ds)->W.grownBy G (Value.slice C s.L.length D).ownBlock->((Value.slice C s.L.length D).ownBlock=some g\/g=W.heap.size)->g<G.heap.size->G.cell? ⟨b,6,none⟩=some (.slice C s.L.length D)/\G.frozen? ⟨b,6,none⟩=false/\KTo w (G.setCell ⟨b,6,none⟩ (.slice (some ⟨g,0,none⟩) (s.L.length+n) f)) b O (s.ins x)):=by
    intro G g f r1 r2 r3 r4;rw[HN.out] at r1 |-
    obtain⟨z1,z2,z3⟩:=M.out G g f l ds d1 r1 r2 r3 r4 d4
    rw[HF.out]
    exact⟨z1,z2,(z3.then J.out U.out).after B4.out⟩
   clear M HF q I J p d1 ae d2 d3 d4;have au:Hid (0<=W.heap.size):=Xb _;generalize s.L.length=nL at T B A V K N;have aq:0<n:=by omega
   go_wp2_with (at_builtin;refine wpList_append_lies _ Z (.tmp 77) (.tmp 78) 33 Z 0 70 i0 (.agg #[.int .i64 0,.int .i64 0,.slice none 0 0]) 3 40 pUnderT hi bc be bd Z (by decide) _ _ _ Z B.out ⟨g0,o0,none⟩ n d ds Z az.out av.out am.out aq (by unfold maxLen;omega) (by omega) au.out W.heap.size Z ?_)
   intro g2 f G r1 r2 r3 r4;obtain⟨bj,bk,z9⟩:=A.out G g2 f r1 r2 r3 r4
   have Z9:=Qa z9;clear r1 r2 r3 r4 A B z9 T f6;go_wp2
   go_ret;exact⟨by rw[EC.out];rfl,Z9.out⟩
 ·have cg:(x.op==4)=false:=by simpa using h4
  have q:Hid (KAt w4 b O s):=S.out.known;have I:=U;have J:Hid (Zw O O w4 w4):=Zw.refl _ _;clear T a7;obtain⟨C,D,xs,T,f6,K,ah,v⟩:=q.out.pushL I.out
  have ai:(s).L.length=s.L.length:=rfl;have M:=Qa v;have B:=Qa ah
  have HF:Hid (s.ins x={ (s) with L:=(s).L++l }):=by
   show _=_;unfold JSt.ins;rw[Xs EC.out]
   unfold JSt.next;rw[aj.out,Xr h3,Xr h4]
  clear v ah;rw[ai] at T B M K
  clear ai;by_cases an:n=0
  ·subst an;have ao:l=[]:=Xf.1 HN.out.symm;subst ao
   have ha:Hid (∀ (t:TypeId) (wx:World),(Builtin.append_ #[33,33] t #[.slice C s.L.length D,.slice la 0 d]).run prog wx=.ok (.slice C s.L.length D) wx):=fun (t:TypeId) (wx:World)=>run_append_nothing (P:=prog) wx 33 33 t 70 i0 pUnderT hi C s.L.length D K (.slice la 0 d) (by cases la with
    | none=>exact Src.ofNil wx pUnderT d
    | some ad=>exact Src.ofSlice wx pUnderT ad 0 d [] (by simp) (fun j u h=>by simp at h) (fun u h=>by cases h))
   have HZ:Hid (KTo w (w4.setCell ⟨b,6,none⟩ (.slice C s.L.length D)) b O (s.ins x)):=by
    have e:∀ k,(w4.setCell ⟨b,6,none⟩ (.slice C s.L.length D)).heap[k]?=w4.heap[k]?:=fun k=>by
     rcases Nat.lt_or_ge k w4.heap.size with F | F
     ·exact q.out.same6 T k
     ·rw[Array.getElem?_eq_none (by simpa using F),Array.getElem?_eq_none F]
    have z:KTo w4 (w4.setCell ⟨b,6,none⟩ (.slice C s.L.length D)) b O (s):=⟨O,q.out.keep (fun k _=>e k) (fun _ _=>Iff.rfl),⟨Z,Z,Z,by simp,fun k _ _=>e k,fun k F=>.inl F⟩,fun k F=>by rw[World.size_setCell];exact I.out k F⟩;rw[HF.out,List.append_nil]
    exact(z.then J.out U.out).after B4.out
   clear M B HF q I J p;generalize s.L.length=nL at T ha HZ V K N;go_wp2_with (at_builtin;refine Q8 Z (.tmp 77) (.tmp 78) 33 Z (.slice C nL D) (.slice la 0 d) Z Z (ha.out _ _) ?_)
   go_ret;exact⟨by rw[EC.out];rfl,HZ.out⟩
  ·obtain⟨g0,o0,rfl⟩:∃ g0 o0,la=some ⟨g0,o0,none⟩:=by
    obtain⟨g,o,dd,e,-⟩:=Yf p.out (Zg (show 0<l.length by have:=HN.out;omega))
    exact⟨g,o,e⟩
   obtain⟨ds,d1,d2,d3,d4⟩:=Lay.flat p.out (fun y cs hy=>by obtain⟨ya,yc,e,-⟩:=hy;subst e;exact Qfi _ _ _ _ _)
   have ae:ds.length=n*3:=by rw[HN.out];exact d1
   have az:=Qa ae;have av:=Qa d2;have am:=Qa d3
   have A:Hid (∀ G g f,G.ownsRow 0 70 3 (.slice (some ⟨g,0,none⟩) (s.L.length+n) f) (s.L.length+n) (xs++ds)->w4.grownBy G (Value.slice C s.L.length D).ownBlock->((Value.slice C s.L.length D).ownBlock=some g\/g=w4.heap.size)->g<G.heap.size->G.cell? ⟨b,6,none⟩=some (.slice C s.L.length D)/\G.frozen? ⟨b,6,none⟩=false/\KTo w (G.setCell ⟨b,6,none⟩ (.slice (some ⟨g,0,none⟩) (s.L.length+n) f)) b O (s.ins x)):=by
    intro G g f r1 r2 r3 r4;rw[HN.out] at r1 |-
    obtain⟨z1,z2,z3⟩:=M.out G g f l ds d1 r1 r2 r3 r4 d4
    rw[HF.out]
    exact⟨z1,z2,(z3.then J.out U.out).after B4.out⟩
   clear M HF q I J p d1 ae d2 d3 d4;have au:Hid (0<=w4.heap.size):=Xb _;generalize s.L.length=nL at T B A V K N;have aq:0<n:=by omega
   go_wp2_with (at_builtin;refine wpList_append_lies _ Z (.tmp 77) (.tmp 78) 33 Z 0 70 i0 (.agg #[.int .i64 0,.int .i64 0,.slice none 0 0]) 3 40 pUnderT hi bc be bd Z (by decide) _ _ _ Z B.out ⟨g0,o0,none⟩ n d ds Z az.out av.out am.out aq (by unfold maxLen;omega) (by omega) au.out w4.heap.size Z ?_)
   intro g2 f G r1 r2 r3 r4;obtain⟨bj,bk,z9⟩:=A.out G g2 f r1 r2 r3 r4
   have Z9:=Qa z9;clear r1 r2 r3 r4 A B z9 T f6;go_wp2
   go_ret;exact⟨by rw[EC.out];rfl,Z9.out⟩
theorem kUnderI:∃ fs,prog.underlying 46=some (.struct fs):=⟨_,underlying46⟩
def Qlh (X Z N c g o nc cc q:Nat) (p:Option Addr) (z:QC) (i3:IP) (t:Tmp) (v:Value) (w:World):Prop :=
 v=(([(3,.pointer (some ⟨X,0,none⟩)),(8,.pointer (some ⟨Z,0,none⟩)),(10,.int .i64 (q:Int)),(85,.agg #[.slice p N c]),(86,.pointer (some ⟨Z,2,none⟩)),(87,.slice (some ⟨g,o,none⟩) nc cc),(88,.int .i64 (q:Int)),(89,.pointer (some ⟨g,o+q*8,none⟩)),(90,.agg #[.int .i64 z.op,.int .i64 z.a,.int .i64 z.b,.int .i64 z.c,.int .i64 z.k,.int .i64 z.n,.slice i3.pR z.regs.length i3.cR,.slice i3.pA z.args.length i3.cA]),(91,.int .i64 (z.form N)),(11,.int .i64 (z.form N))]:List (Tmp × Value)).lookup t).getD undef
theorem QlI {Z y B:Nat}{z:QC}{i:IP}(D:Hid (w6.rangeAt g (o+q*8) [.int .i64 z.op,.int .i64 z.a,.int .i64 z.b,.int .i64 z.c,.int .i64 z.k,.int .i64 z.n,.slice i.pR z.regs.length i.cR,.slice i.pA z.args.length i.cA])) (J:w6.cell? ⟨X,0,none⟩=some (.slice p N c)) (G:w6.cell? ⟨Z,2,none⟩=some (.slice (some ⟨g,o,none⟩) y B)) (M:(q:Int)<y)
 (a:Act) (m:Nat) (F:a.tmps.size=m) (A:112<=m) (H:a.tmps.getD 3 undef=.pointer (some ⟨X,0,none⟩)) (I:a.tmps.getD 8 undef=.pointer (some ⟨Z,0,none⟩)) (u:a.tmps.getD 10 undef=.int .i64 (q:Int)) :
 Code.wp prog ((Tryz.f50.body.bind (Qo 15)).getD .skip) (fun e a' w'=>e=.normal/\∃ vs,a'=Zn a vs [85,86,87,88,89,90,91,11]/\vs 11=.int .i64 (z.form N)/\Below w6.heap.size w6 w') a w6:=by
 conv=>arg 2;whnf
 refine QD (Qlh X Z N c g o y B q p z i) (fun w=>Below w6.heap.size w6 w) (fun w w'=>Below w.heap.size w w') (outs:=[3,8,10]) (gs:=[]) (bs:=[true,true,true,true,true,true,true,true]) (by kernel_rfl) (n:=112) F A (by kernel_rfl) ?hR ?hG (Qky Zr 1) ⟨H,I,u,Y⟩ ?hA ?hend
 case hR=>exact fun t v w w' _ h=>h
 case hG=>exact Y
 case hend=>exact fun vs w' d f=>⟨Yz,vs,Yz,f 11 (by kernel_rfl),d⟩
 case hA =>
  iterate 4
   refine⟨fun a w d f K r=>?_,?_⟩
   ·obtain⟨l,-⟩:=f
    conv at l=>whnf;rhs;whnf
    have L:=Qp J d;have Q:=Qp G d;go_simp;exact r _ _ Zr d Yz
  refine⟨fun a w d f K r=>?_,?_⟩
  ·obtain⟨l,x,-⟩:=f
   conv at l=>whnf;rhs;whnf
   conv at x=>whnf;rhs;whnf
   go_simp;exact r _ _ Zr d Yz
  refine⟨fun a w d f K r=>?_,?_⟩
  ·obtain⟨l,-⟩:=f
   conv at l=>whnf;rhs;whnf
   obtain⟨O,s⟩:=kUnderI
   refine wp_load_mid 46 (.tmp 89) Yz g (o+q*8) l [.int .i64 z.op,.int .i64 z.a,.int .i64 z.b,.int .i64 z.c,.int .i64 z.k,.int .i64 z.n,.slice i.pR z.regs.length i.cR,.slice i.pA z.args.length i.cA] _ (fun j v E=>Qp (D.out j v E) d) s Yz pSizeN ?_;exact r _ _ Zr d Yz
  refine⟨fun a w d f K r=>?_,?_⟩
  ·obtain⟨l,x,-⟩:=f
   conv at l=>whnf;rhs;whnf
   conv at x=>whnf;rhs;whnf
   go_simp;refine Xm (Qdd N z i p c w) ?_;rintro R P ⟨rfl,C⟩;go_simp;exact r _ _ C (d.trans (C.mono d.size)) Yz
  refine⟨fun a w d f K r=>?_,?_⟩
  ·obtain⟨l,-⟩:=f
   conv at l=>whnf;rhs;whnf
   go_simp;exact r _ _ Zr d Yz
  trivial
theorem QdN {m:List (Qf n)}{bi:Nat}{x:Qf n}{y:Qe n}(al:(QaH n).In w All m [.slice p m.length c]) (aj:Qa7 m) (M:m[fi]?=some x) (J:x.blocks[bi]?=some y) :
 Rd prog 50 #[.agg #[.slice p m.length c],.int .i64 (fi:Int),.int .i64 (bi:Int)] w (QJ (Qe.fault m.length fi x bi y)):=by
 have h1:fi<m.length:=(Zi M).1;have h2:bi<x.blocks.length:=(Zi J).1;have ax:=aj.1;have af:=aj.2 x (Zm M);have ay:=af.1;have ae:=af.2.2.2 y (Zm J);have a0:=ae.1;have ac:=QI ae;obtain⟨g1,o1,⟨fp,fc,fr,fd,fb,fe⟩,rfl,E1,ag⟩:=Qbk al M
 obtain⟨U,V,g,e2,E2,ak⟩:=Qa6 ag.blocks J
 dsimp only at E1 e2
 subst e2;have ao:=QI E1;have ar:=QI ag;have ab:=QI E2;have ah:=QI ak;have S:=QI (FbS.start w #[.slice (some ⟨g1,o1,none⟩) m.length c] 24);have a1:(fi:Int)<m.length:=by omega
 have az:(bi:Int)<x.blocks.length:=by omega
 have hp:fi<1000000/\bi<1000000:=by omega
 have HP:=QI hp;clear al aj M J E1 ag E2 ak af ae h1 h2 hp;unfold Rd;go_enter func50,ntmps50
 go_upto_region 1 with fail
 generalize (w.alloc (.cells #[.slice (some ⟨g1,o1,none⟩) m.length c] 24)).alloc (.cells #[.int .i64 0,.int .i64 0] 30)=w1 at S |-;generalize w.heap.size+1=R at S |-;generalize hX:w.heap.size=X at S |-;have x0:=Qb (S.out.box 0 _ Yz) 0 _ Yz;have R1:=QI (fun j v H=>Qp (ao.out j v H) (hX ▸ S.out.bel):w1.rangeAt g1 (o1+fi*4) [.int .i64 x.regs,.slice fp x.params.length fc,.slice fr x.results.length fd,.slice (some ⟨U,V,none⟩) x.blocks.length fe]);have v0:w1.cell? ⟨g1,o1+fi*4,none⟩=some (.int .i64 x.regs):=R1.out 0 _ Yz;have v1:=R1.out 1 _ Yz;have v2:=R1.out 2 _ Yz;have v3:=R1.out 3 _ Yz;have S:=QI (S.out.new #[.int .i64 x.regs,.slice fp x.params.length fc,.slice fr x.results.length fd,.slice (some ⟨U,V,none⟩) x.blocks.length fe] 40);go_upto_region 2 with fail
 generalize av:w1.alloc (.cells #[.int .i64 x.regs,.slice fp x.params.length fc,.slice fr x.results.length fd,.slice (some ⟨U,V,none⟩) x.blocks.length fe] 40)=w2 at S |-;generalize w1.heap.size=Y at S |-;clear av x0 v0 v1 v2 v3 R1;have y3:=Qb (S.out.box 0 _ Yz) 3 _ Yz;generalize ai:([.int .i64 y.regs,.slice g.pP y.params.length g.cP,.slice g.pC y.code.length g.cC,.int .i64 y.fin.op,.int .i64 y.fin.a,.int .i64 y.fin.yes.block,.slice g.e.pYR y.fin.yes.regs.length g.e.cYR,.slice g.e.pYA y.fin.yes.args.length g.e.cYA,.int .i64 y.fin.no.block,.slice g.e.pNR y.fin.no.regs.length g.e.cNR,.slice g.e.pNA y.fin.no.args.length g.e.cNA,.slice g.e.pA y.fin.args.length g.e.cA]:List Value)=cs at ab;have hl:cs.length=12:=by rw[<-ai];rfl
 have MB:=QI (Qld.of w2 hl);have TO:Hid (cs.toArray.all (·.oneCell')=true):=by show _=_;rw[<-ai];exact all_oneCell_toArray (Xe.1 Yz)
 have RG:Hid (w2.rangeAt U (V+bi*12) cs):=fun j v H=>Qp (ab.out j v H) (hX ▸ S.out.bel);go_upto_region 3 with (first | (refine wpList_load_mid Yz 60 (.tmp 21) Yz U (V+bi*12) Yz cs _ RG.out underlying60 Yz MB.out.size ?_) | (refine wpList_store_mid Yz 60 (.tmp 8) (.tmp 22) Yz w2.heap.size 0 cs.toArray Yz Yz MB.out.there MB.out.size2 TO.out ?_))
 have O:=QI ((S.out.below MB.out.bel).add MB.out.blk);clear S y3 RG TO hl;generalize (w2.alloc (.cells #[.int .i64 0,.slice none 0 0,.slice none 0 0,.int .i64 0,.int .i64 0,.int .i64 0,.slice none 0 0,.slice none 0 0,.int .i64 0,.slice none 0 0,.slice none 0 0,.slice none 0 0] 60)).setCells w2.heap.size 0 cs=w3 at O |-;generalize w2.heap.size=Z at O |-;subst ai;simp only[Act.put]
 have HX:Hid (w.heap.size=X):=hX;clear hX ao ab MB;generalize hL:([(Z,#[.int .i64 y.regs,.slice g.pP y.params.length g.cP,.slice g.pC y.code.length g.cC,.int .i64 y.fin.op,.int .i64 y.fin.a,.int .i64 y.fin.yes.block,.slice g.e.pYR y.fin.yes.regs.length g.e.cYR,.slice g.e.pYA y.fin.yes.args.length g.e.cYA,.int .i64 y.fin.no.block,.slice g.e.pNR y.fin.no.regs.length g.e.cNR,.slice g.e.pNA y.fin.no.args.length g.e.cNA,.slice g.e.pA y.fin.args.length g.e.cA],60),(Y,#[.int .i64 x.regs,.slice fp x.params.length fc,.slice fr x.results.length fd,.slice (some ⟨U,V,none⟩) x.blocks.length fe],40),(X,#[.slice (some ⟨g1,o1,none⟩) m.length c],24)]:List (Nat × Array Value × TypeId))=L at O;have s:Hid (∀ wx,FbS w wx R L->Blk wx Z #[.int .i64 y.regs,.slice g.pP y.params.length g.cP,.slice g.pC y.code.length g.cC,.int .i64 y.fin.op,.int .i64 y.fin.a,.int .i64 y.fin.yes.block,.slice g.e.pYR y.fin.yes.regs.length g.e.cYR,.slice g.e.pYA y.fin.yes.args.length g.e.cYA,.int .i64 y.fin.no.block,.slice g.e.pNR y.fin.no.regs.length g.e.cNR,.slice g.e.pNA y.fin.no.args.length g.e.cNA,.slice g.e.pA y.fin.args.length g.e.cA] 60/\Blk wx Y #[.int .i64 x.regs,.slice fp x.params.length fc,.slice fr x.results.length fd,.slice (some ⟨U,V,none⟩) x.blocks.length fe] 40/\Blk wx X #[.slice (some ⟨g1,o1,none⟩) m.length c] 24):=by subst hL;exact fun wx h=>⟨h.box 0 _ Yz,h.box 1 _ Yz,h.box 2 _ Yz⟩
 clear hL;have I:=Qb (s.out _ O.out).1 0 _ Yz;have q1:=Qb (s.out _ O.out).2.1 0 _ Yz;go_cut [32] (fun v wx=>v=.bool (decide (y.regs<x.regs\/16<y.regs))/\FbS w wx R L)
 case first =>
  by_cases h:y.regs<x.regs
  ·have d1:decide (y.regs<x.regs)=true:=Xt h;have E:decide (y.regs<x.regs\/16<y.regs)=true:=Xt (.inl h);go_wp2
   go_meet;exact⟨by rw[E],O.out⟩
  ·have d1:decide (y.regs<x.regs)=false:=Xu h;have E:decide (y.regs<x.regs\/16<y.regs)=decide (y.regs>16):=by rw[decide_eq_decide];omega
   go_wp2
   all_goals
    go_meet;exact⟨by rw[E],O.out⟩
 case rest =>
  obtain⟨rfl,an⟩:=hcut
  have F:=QI an;clear an O I q1;by_cases c1:y.regs<x.regs\/16<y.regs
  ·rw[Xt c1]
   have E:Qe.fault m.length fi x bi y=(1,10000*(fi:Int)+100*(bi:Int)+90):=Xs c1;go_wp2_with fail
   refine Xm (QaR HP.out) ?_;rintro _ G ⟨rfl,l⟩;have F:=QI (F.out.below l);clear l;go_wp2_with fail
   refine Xm (QaB) ?_;rintro _ B ⟨rfl,l⟩;have F:=QI (F.out.below l);clear l;try simp only[QJ]
   obtain⟨r0,r1,z0,z1⟩:=F.out.cells
   have D:=QI (F.out.fin (1) (10000*(fi:Int)+100*(bi:Int)+90));go_wp2_with fail
   generalize World.setCell _ _ _=t at D |-;exact Xy (v:=.agg #[.int .i64 (1),.int .i64 (10000*(fi:Int)+100*(bi:Int)+90)]) (by simp[results,results50,go_sem,Qb D.out.1 0 _ Yz,Qb D.out.1 1 _ Yz]) Yz ⟨by first | rfl | rw[E],D.out.2⟩
  rw[Xu c1]
  have I:=Qb (s.out _ F.out).1 0 _ Yz;have q1:=Qb (s.out _ F.out).1 1 _ Yz;have CL:=QI (Qbp (regs:=y.regs) (Ya ah.out.params F.out.bel) ac.out.2.1);unfold Rd at CL;go_wp2_with fail
  refine CL.out.mono ?_;rintro _ w5 ⟨rfl,b5⟩;have r:=QI (F.out.below b5);clear b5 CL I q1 F;generalize C:listC y.regs y.params=lc;by_cases c2:lc=0
  rotate_left
  ·have d:(lc != 0)=true:=by simpa using c2
   have E:Qe.fault m.length fi x bi y=(lc,10000*(fi:Int)+100*(bi:Int)+90):=by unfold Qe.fault;rw[Xr c1,C,Xs c2]
   go_wp2_with fail
   refine Xm (QaR HP.out) ?_;rintro _ G ⟨rfl,l⟩;have r:=QI (r.out.below l);clear l;go_wp2_with fail
   refine Xm (QaB) ?_;rintro _ B ⟨rfl,l⟩;have r:=QI (r.out.below l);clear l;try simp only[QJ]
   obtain⟨r0,r1,z0,z1⟩:=r.out.cells
   have D:=QI (r.out.fin (lc) (10000*(fi:Int)+100*(bi:Int)+90));go_wp2_with fail
   generalize World.setCell _ _ _=t at D |-;exact Xy (v:=.agg #[.int .i64 (lc),.int .i64 (10000*(fi:Int)+100*(bi:Int)+90)]) (by simp[results,results50,go_sem,Qb D.out.1 0 _ Yz,Qb D.out.1 1 _ Yz]) Yz ⟨by first | rfl | rw[E],D.out.2⟩
  subst c2;go_upto_region 8 with fail
  have I:=Qb (s.out _ r.out).1 0 _ Yz;have q1:=Qb (s.out _ r.out).2.1 0 _ Yz;have N:=Qb (s.out _ r.out).1 1 _ Yz;have q3:=Qb (s.out _ r.out).2.1 1 _ Yz;go_cut [65] (fun v wx=>v=.bool (decide (bi=0/\(y.regs≠x.regs\/QbK y.params x.params=false)))/\FbS w wx R L)
  case first =>
   by_cases Q:bi=0
   ·have d0:((bi:Int)==0)=true:=by simpa using Q
    by_cases hr:y.regs=x.regs
    ·have d1:(y.regs != x.regs)=false:=by simpa using hr
     have CS:=QI (Qam (Ya ah.out.params r.out.bel) (Ya ar.out.params r.out.bel) ac.out.2.1);unfold Rd at CS
     have E:decide (bi=0/\(y.regs≠x.regs\/QbK y.params x.params=false))=!bdec (y.params=x.params):=by
      by_cases hp:y.params=x.params
      ·rw[Qs hp];simp[hr,Qcb.2 hp]
      ·rw[Qh hp]
       have:QbK y.params x.params=false:=by cases h9:QbK y.params x.params;rfl;exact absurd (Qcb.1 h9) hp
       simp[Q,this]
     generalize bdec (y.params=x.params)=bp at CS E;clear Q hr;go_wp2_with fail
     refine CS.out.mono ?_;rintro _ w6 ⟨rfl,b6⟩;have o:=QI (r.out.below b6);clear b6 CS I q1 N q3;go_wp2
     all_goals
      go_meet;exact⟨by rw[E],o.out⟩
    ·have d1:(y.regs != x.regs)=true:=by simpa using hr
     have E:decide (bi=0/\(y.regs≠x.regs\/QbK y.params x.params=false))=true:=Xt ⟨Q,.inl hr⟩;clear Q hr;go_wp2
     go_meet;exact⟨by rw[E],r.out⟩
   ·have d0:((bi:Int)==0)=false:=by simpa using Q
    have E:decide (bi=0/\(y.regs≠x.regs\/QbK y.params x.params=false))=false:=Xu (fun h=>Q h.1);clear Q;go_wp2
    go_meet;exact⟨by rw[E],r.out⟩
  case rest =>
   obtain⟨rfl,am⟩:=hcut
   have o:=QI am;clear am r I q1 N q3;by_cases c3:bi=0/\(y.regs≠x.regs\/QbK y.params x.params=false)
   ·rw[Xt c3]
    have E:Qe.fault m.length fi x bi y=(9,10000*(fi:Int)+100*(bi:Int)+90):=by unfold Qe.fault;rw[Xr c1,C,Xr (by simp),Xs c3]
    clear c3;go_wp2_with fail
    refine Xm (QaR HP.out) ?_;rintro _ G ⟨rfl,l⟩;have o:=QI (o.out.below l);clear l;go_wp2_with fail
    refine Xm (QaB) ?_;rintro _ B ⟨rfl,l⟩;have o:=QI (o.out.below l);clear l;try simp only[QJ]
    obtain⟨r0,r1,z0,z1⟩:=o.out.cells
    have D:=QI (o.out.fin (9) (10000*(fi:Int)+100*(bi:Int)+90));go_wp2_with fail
    generalize World.setCell _ _ _=t at D |-;exact Xy (v:=.agg #[.int .i64 (9),.int .i64 (10000*(fi:Int)+100*(bi:Int)+90)]) (by simp[results,results50,go_sem,Qb D.out.1 0 _ Yz,Qb D.out.1 1 _ Yz]) Yz ⟨by first | rfl | rw[E],D.out.2⟩
   rw[Xu c3]
   have N:=Qb (s.out _ o.out).1 2 _ Yz;by_cases c4:40<y.code.length
   ·have d:(40:Int)<y.code.length:=by omega
    have E:Qe.fault m.length fi x bi y=(2,10000*(fi:Int)+100*(bi:Int)+90):=by unfold Qe.fault;rw[Xr c1,C,Xr (by simp),Xr c3,Xs c4]
    go_wp2_with fail
    refine Xm (QaR HP.out) ?_;rintro _ G ⟨rfl,l⟩;have o:=QI (o.out.below l);clear l;go_wp2_with fail
    refine Xm (QaB) ?_;rintro _ B ⟨rfl,l⟩;have o:=QI (o.out.below l);clear l;try simp only[QJ]
    obtain⟨r0,r1,z0,z1⟩:=o.out.cells
    have D:=QI (o.out.fin (2) (10000*(fi:Int)+100*(bi:Int)+90));go_wp2_with fail
    generalize World.setCell _ _ _=t at D |-;exact Xy (v:=.agg #[.int .i64 (2),.int .i64 (10000*(fi:Int)+100*(bi:Int)+90)]) (by simp[results,results50,go_sem,Qb D.out.1 0 _ Yz,Qb D.out.1 1 _ Yz]) Yz ⟨by first | rfl | rw[E],D.out.2⟩
   have d:¬ (40:Int)<y.code.length:=by omega
   go_wp2_with fail
   clear N;go_loopw [10] (fun i wr=>∃ q:Nat,q<=y.code.length/\i=.int .i64 q/\FbS w wr R L/\∀ (j:Nat) z,j<q->y.code[j]?=some z->QC.form m.length z=0) (fun i _=>y.code.length - (intOf i).toNat)
   case atStart=>exact⟨0,Xb _,Yz,o.out,fun j z H=>absurd H (XG _)⟩
   case round =>
    obtain⟨q,hq,rfl,hs,T⟩:=hrel
    have A:=QI hs;have ad:=QI T;clear hs T o;have N:=Qb (s.out _ A.out).1 2 _ Yz;by_cases aq:q<y.code.length
    rotate_left
    ·have P:¬ (q:Int)<y.code.length:=by omega
     have E0:Hid (Qe.fault m.length fi x bi y=if MEnd.form x.blocks.length y.fin≠0 then (MEnd.form x.blocks.length y.fin,10000*(fi:Int)+100*(bi:Int)+91) else (0,0)):=by
      show _=_;unfold Qe.fault;rw[Xr c1,C,Xr (by simp),Xr c3,Xr c4,QT (fun k z hk=>ad.out k z (by have:=(Zi hk).1;omega) hk),Xr (by simp)]
     have RE:Hid (wr.rangeAt Z 3 [.int .i64 y.fin.op,.int .i64 y.fin.a,.int .i64 y.fin.yes.block,.slice g.e.pYR y.fin.yes.regs.length g.e.cYR,.slice g.e.pYA y.fin.yes.args.length g.e.cYA,.int .i64 y.fin.no.block,.slice g.e.pNR y.fin.no.regs.length g.e.cNR,.slice g.e.pNA y.fin.no.args.length g.e.cNA,.slice g.e.pA y.fin.args.length g.e.cA]):=fun j v H=>Qb (s.out _ A.out).1 (3+j) v (by rw[<-Array.getElem?_toList,Nat.add_comm];exact H);have y0:=Qb (s.out _ A.out).2.1 0 _ Yz;have y1:=Qb (s.out _ A.out).2.1 1 _ Yz;have y2:=Qb (s.out _ A.out).2.1 2 _ Yz;have y3:=Qb (s.out _ A.out).2.1 3 _ Yz;have CE:=QI (QcZ (x:=y.fin) (e:=g.e) (fr:=x.regs) (fp:=fp) (fq:=fr) (fb:=some ⟨U,V,none⟩) (fl:=x.params.length) (fc:=fc) (fm:=x.results.length) (fd:=fd) (bl:=x.blocks.length) (fe:=fe) (w:=wr) (by have h9:=ac.out.2.2.1;have:=h9.1;have:=h9.2.1;unfold MTo.small at *;omega) (by omega));unfold Rd at CE;generalize MEnd.form x.blocks.length y.fin=ef at CE E0;go_wp2_with (refine wpList_load_mid Yz 58 (.tmp 101) Yz Z 3 Yz [.int .i64 y.fin.op,.int .i64 y.fin.a,.int .i64 y.fin.yes.block,.slice g.e.pYR y.fin.yes.regs.length g.e.cYR,.slice g.e.pYA y.fin.yes.args.length g.e.cYA,.int .i64 y.fin.no.block,.slice g.e.pNR y.fin.no.regs.length g.e.cNR,.slice g.e.pNA y.fin.no.args.length g.e.cNA,.slice g.e.pA y.fin.args.length g.e.cA] _ RE.out underlying58 Yz pSizeE ?_)
     refine CE.out.mono ?_;rintro _ w7 ⟨rfl,b7⟩;have W:=QI (A.out.below b7);clear b7 A CE RE y0 y1 y2 y3 N;by_cases ce:ef=0
     ·subst ce;have E:Qe.fault m.length fi x bi y=(0,0):=by rw[E0.out];rfl
      try simp only[QJ]
      obtain⟨r0,r1,z0,z1⟩:=W.out.cells
      have D:=QI (W.out.fin (0) (0));go_wp2_with fail
      generalize World.setCell _ _ _=t at D |-;exact Xy (v:=.agg #[.int .i64 (0),.int .i64 (0)]) (by simp[results,results50,go_sem,Qb D.out.1 0 _ Yz,Qb D.out.1 1 _ Yz]) Yz ⟨by first | rfl | rw[E],D.out.2⟩
     ·have d9:(ef != 0)=true:=by simpa using ce
      have E:Qe.fault m.length fi x bi y=(ef,10000*(fi:Int)+100*(bi:Int)+91):=by rw[E0.out,Xs ce]
      clear E0;go_wp2_with fail
      refine Xm (QeR HP.out) ?_;rintro _ G ⟨rfl,l⟩;have W:=QI (W.out.below l);clear l;go_wp2_with fail
      refine Xm (QaB) ?_;rintro _ B ⟨rfl,l⟩;have W:=QI (W.out.below l);clear l;try simp only[QJ]
      obtain⟨r0,r1,z0,z1⟩:=W.out.cells
      have D:=QI (W.out.fin (ef) (10000*(fi:Int)+100*(bi:Int)+91));go_wp2_with fail
      generalize World.setCell _ _ _=t at D |-;exact Xy (v:=.agg #[.int .i64 (ef),.int .i64 (10000*(fi:Int)+100*(bi:Int)+91)]) (by simp[results,results50,go_sem,Qb D.out.1 0 _ Yz,Qb D.out.1 1 _ Yz]) Yz ⟨by first | rfl | rw[E],D.out.2⟩
    have P:(q:Int)<y.code.length:=by omega
    have hz:y.code[q]?=some y.code[q]:=Zg aq;generalize y.code[q]=z at hz;have HZ:=QI hz;obtain⟨g3,o3,i3,e3,E3,-⟩:=Qdf ah.out.code hz
    have RI:Hid (wr.rangeAt g3 (o3+q*8) [.int .i64 z.op,.int .i64 z.a,.int .i64 z.b,.int .i64 z.c,.int .i64 z.k,.int .i64 z.n,.slice i3.pR z.regs.length i3.cR,.slice i3.pA z.args.length i3.cA]):=fun j v H=>Qp (E3 j v H) A.out.bel;have I:=Qb (s.out _ A.out).2.2 0 _ Yz;have q9:=N;rw[e3] at q9
    clear E3 hz e3;go_upto_region 15 with fail
    refine Code.wp_mono ?_ (QlI RI I q9 P _ _ Yz (Xg (by kernel_rfl)) Yz Yz Yz);rintro ee aa w9 ⟨rfl,vs,rfl,hv,b9⟩;simp only[Zn,Act.put,List.setIfInBounds_toArray,List.set_cons_zero,List.set_cons_succ,hv]
    have S9:=QI (A.out.below b9);clear b9 A I N q9 RI hv;generalize K:QC.form m.length z=zf;by_cases c5:zf=0
    ·subst c5;go_wp2
     go_roundw
     case rel =>
      refine⟨q+1,by omega,by go_num,S9.out,fun j u H hu=>?_⟩
      by_cases aw:j<q
      ·exact ad.out j u aw hu
      ·have:j=q:=by omega
       subst this;rw[HZ.out] at hu
       cases hu
       exact K
     case measure=>simp[intOf];omega
    ·have d9:(zf != 0)=true:=by simpa using c5
     have E:Qe.fault m.length fi x bi y=(zf,10000*(fi:Int)+100*(bi:Int)+(q:Int)):=by
      have hF:=Qaa (f:=fun i u=>(QC.form m.length u,(10000*fi+100*bi+i:Int))) (j:=0) HZ.out (fun k u hk hu=>ad.out _ u hk hu) (by rw[K];exact c5);rw[XK,K] at hF
      unfold Qe.fault;rw[Xr c1,C,Xr (by simp),Xr c3,Xr c4,hF,Xs c5]
     have ap:fi<1000000/\bi<1000000/\q<1000000:=⟨HP.out.1,HP.out.2,by omega⟩;have au:=QI ap;clear ap K c5;go_wp2_with fail
     refine Xm (Qfj au.out) ?_;rintro _ G ⟨rfl,l⟩;have S9:=QI (S9.out.below l);clear l;go_wp2_with fail
     refine Xm (QaB) ?_;rintro _ B ⟨rfl,l⟩;have S9:=QI (S9.out.below l);clear l;try simp only[QJ]
     obtain⟨r0,r1,z0,z1⟩:=S9.out.cells
     have D:=QI (S9.out.fin (zf) (10000*(fi:Int)+100*(bi:Int)+(q:Int)));go_wp2_with fail
     generalize World.setCell _ _ _=t at D |-;exact Xy (v:=.agg #[.int .i64 (zf),.int .i64 (10000*(fi:Int)+100*(bi:Int)+(q:Int))]) (by simp[results,results50,go_sem,Qb D.out.1 0 _ Yz,Qb D.out.1 1 _ Yz]) Yz ⟨by first | rfl | rw[E],D.out.2⟩
def plB {n:Nat}(x:Qf n) (q:Nat):Bool:=(x.regs==0&&((x.params.length:Int)==0))&&(x.results.take q).all (fun t=>t.kind==1)
theorem Qgs (x:Qf n):plB x 0=(x.regs==0&&((x.params.length:Int)==0)):=by simp[plB]
theorem Qja {x:Qf n}{t:TT n}(h:x.results[q]?=some t):plB x (q+1)=(plB x q&&t.kind==1):=by
 unfold plB;rw[XV,h,List.all_append]
 simp[Bool.and_assoc]
theorem Qip (x:Qf n):plB x x.results.length=true↔(x.regs=0/\x.params.length=0/\x.results.all (fun t=>t.kind==1)=true):=by
 unfold plB;rw[List.take_length]
 simp only[Bool.and_eq_true,beq_iff_eq]
 constructor
 ·rintro ⟨⟨a,c⟩,b⟩;exact⟨a,by omega,b⟩
 ·rintro ⟨a,c,b⟩;exact⟨⟨a,by omega⟩,b⟩
theorem QbO {m:List (Qf n)}(al:(QaH n).In w All m [.slice p m.length c]) (ah:Qa7 m) :
 Rd prog 20 #[.agg #[.slice p m.length c]] w (QJ (Qj m)):=by
 have aw:=ah.1;have HM:=QI al;have HS:=QI ah;have S:=QI (FbS.start w #[.slice p m.length c] 24);clear al ah;unfold Rd;go_enter func20,ntmps20
 go_upto_region 1 with fail
 generalize (w.alloc (.cells #[.slice p m.length c] 24)).alloc (.cells #[.int .i64 0,.int .i64 0] 30)=w1 at S |-;generalize w.heap.size+1=R at S |-;generalize w.heap.size=X at S |-;have x0:=Qb (S.out.box 0 _ Z) 0 _ Z;go_cut [20] (fun v wx=>v=.bool (decide (m.length<1\/8<m.length))/\FbS w wx R [(X,#[.slice p m.length c],24)])
 case first =>
  by_cases h:(m.length:Int)<1
  ·have d1:decide ((m.length:Int)<1)=true:=Xt h;have E:decide (m.length<1\/8<m.length)=true:=Xt (.inl (by omega));go_wp2
   go_meet;exact⟨by rw[E],S.out⟩
  ·have d1:decide ((m.length:Int)<1)=false:=Xu h;have E:decide (m.length<1\/8<m.length)=decide ((m.length:Int)>8):=by rw[decide_eq_decide];omega
   go_wp2
   all_goals
    go_meet;exact⟨by rw[E],S.out⟩
 case rest =>
  obtain⟨rfl,B⟩:=hcut
  have S2:=QI B;clear B S x0;by_cases c1:m.length<1\/8<m.length
  ·rw[Xt c1]
   have E:Qj m=(2,-1):=Xs c1;go_wp2_with fail
   refine Xm (QaB) ?_;rintro _ P ⟨rfl,a⟩;have S2:=QI (S2.out.below a);clear a;try simp only[QJ]
   obtain⟨r0,r1,z0,z1⟩:=S2.out.cells
   have D:=QI (S2.out.fin (2) (-1));go_wp2_with fail
   generalize World.setCell _ _ _=s at D |-;exact Xy (v:=.agg #[.int .i64 (2),.int .i64 (-1)]) (by simp[results,results20,go_sem,Qb D.out.1 0 _ Z,Qb D.out.1 1 _ Z]) Z ⟨by first | rfl | rw[E],D.out.2⟩
  rw[Xu c1]
  go_wp2_with fail
  go_loopw [3] (fun i wr=>∃ k:Nat,k<=m.length/\i=.int .i64 k/\FbS w wr R [(X,#[.slice p m.length c],24)]/\∀ (j:Nat) f,j<k->m[j]?=some f->(Qf.fault m.length j f).1=0) (fun i _=>m.length - (intOf i).toNat)
  case atStart=>exact⟨0,Xb _,Z,S2.out,fun j z C=>absurd C (XG _)⟩
  case round =>
   obtain⟨k,hk,rfl,hs,l⟩:=hrel
   have SR:=QI hs;have ad:=QI l;clear hs l S2;obtain⟨wf,av⟩:∃ wf,wf=wr:=⟨_,Z⟩
   subst av;have x0:=Qb (SR.out.box 0 _ Z) 0 _ Z;by_cases ar:k<m.length
   rotate_left
   ·have am:¬ (k:Int)<m.length:=by omega
    have E:Qj m=(0,0):=by
     unfold Qj;rw[Xr c1]
     exact QT fun j f C=>by rw[XK];exact ad.out j f (by have:=(Zi C).1;omega) C
    try simp only[QJ]
    obtain⟨r0,r1,z0,z1⟩:=SR.out.cells
    have D:=QI (SR.out.fin (0) (0));go_wp2_with fail
    generalize World.setCell _ _ _=s at D |-;exact Xy (v:=.agg #[.int .i64 (0),.int .i64 (0)]) (by simp[results,results20,go_sem,Qb D.out.1 0 _ Z,Qb D.out.1 1 _ Z]) Z ⟨by first | rfl | rw[E],D.out.2⟩
   have am:(k:Int)<m.length:=by omega
   have K:m[k]?=some m[k]:=Zg ar;generalize m[k]=x at K;have ae:=QI K
   have EM:Hid ((Qf.fault m.length k x).1≠0->Qj m=Qf.fault m.length k x):=fun h=>by
    have hF:=Qaa (f:=fun f x=>Qf.fault m.length f x) (j:=0) ae.out (fun j f C hf=>by rw[XK];exact ad.out j f C hf) (by rw[XK];exact h);rw[XK] at hF
    unfold Qj;rw[Xr c1,hF]
   obtain⟨g1,o1,d,rfl,E1,an⟩:=Qbk HM.out K
   have ab:=QI an;have M:=HS.out.2 x (Zm K);have ao:=QI M;have az:=M.1;have ax:x.results.length<=100000:=M.2.2.1.1;have ag:x.params.length<=100000:=M.2.1.1;have hp:k<1000000:=by omega
   have HP:=QI hp;have R1:Hid (wf.rangeAt g1 (o1+k*4) [.int .i64 x.regs,.slice d.pP x.params.length d.cP,.slice d.pR x.results.length d.cR,.slice d.pB x.blocks.length d.cB]):=fun j v C=>Qp (E1 j v C) SR.out.bel;have v0:wf.cell? ⟨g1,o1+k*4,none⟩=some (.int .i64 x.regs):=R1.out 0 _ Z;have v1:=R1.out 1 _ Z;have v2:=R1.out 2 _ Z;have v3:=R1.out 3 _ Z;have S6:=QI (SR.out.new #[.int .i64 x.regs,.slice d.pP x.params.length d.cP,.slice d.pR x.results.length d.cR,.slice d.pB x.blocks.length d.cB] 40);clear K E1 an M hp R1 SR;go_upto_region 7 with fail
   generalize wf.alloc (.cells #[.int .i64 x.regs,.slice d.pP x.params.length d.cP,.slice d.pR x.results.length d.cR,.slice d.pB x.blocks.length d.cB] 40)=w6 at S6 |-;generalize wf.heap.size=Y at S6 |-;clear v0 v1 v2 v3 x0;generalize hL:([(Y,#[.int .i64 x.regs,.slice d.pP x.params.length d.cP,.slice d.pR x.results.length d.cR,.slice d.pB x.blocks.length d.cB],40),(X,#[.slice (some ⟨g1,o1,none⟩) m.length c],24)]:List (Nat × Array Value × TypeId))=L at S6;have I:Hid (∀ wx,FbS w wx R L->Blk wx Y #[.int .i64 x.regs,.slice d.pP x.params.length d.cP,.slice d.pR x.results.length d.cR,.slice d.pB x.blocks.length d.cB] 40/\Blk wx X #[.slice (some ⟨g1,o1,none⟩) m.length c] 24):=by subst hL;exact fun wx h=>⟨h.box 0 _ Z,h.box 1 _ Z⟩
   have DR:Hid (∀ wx,FbS w wx R L->FbS w wx R [(X,#[.slice (some ⟨g1,o1,none⟩) m.length c],24)]):=fun wx h=>⟨h.bel,h.ge,h.r,fun i b hb=>by
    cases i with
    | zero=>cases hb;exact(I.out wx h).2
    | succ i=>simp at hb⟩
   clear hL;have q0:=Qb (I.out _ S6.out).1 0 _ Z;go_cut [41] (fun v wx=>v=.bool (decide (x.regs<0\/6<x.regs))/\FbS w wx R L)
   case first =>
    by_cases h:x.regs<0
    ·have d1:decide (x.regs<0)=true:=Xt h;have E:decide (x.regs<0\/6<x.regs)=true:=Xt (.inl (by omega));go_wp2
     go_meet;exact⟨by rw[E],S6.out⟩
    ·have d1:decide (x.regs<0)=false:=Xu h;have E:decide (x.regs<0\/6<x.regs)=decide (x.regs>6):=by rw[decide_eq_decide];omega
     go_wp2
     all_goals
      go_meet;exact⟨by rw[E],S6.out⟩
   case rest =>
    obtain⟨rfl,B⟩:=hcut
    have Q:=QI B;clear B S6 q0;by_cases T:x.regs<0\/6<x.regs
    ·rw[Xt T]
     have E:Qj m=(1,10000*(k:Int)+9999):=by
      have A:Qf.fault m.length k x=(1,10000*(k:Int)+9999):=Xs T;rw[EM.out (by rw[A];show (1:Int)≠0;decide),A]
     clear T;go_wp2_with fail
     refine Xm (QaI HP.out) ?_;rintro _ P ⟨rfl,a⟩;have Q:=QI (Q.out.below a);clear a;go_wp2_with fail
     refine Xm (QaB) ?_;rintro _ V ⟨rfl,a⟩;have Q:=QI (Q.out.below a);clear a;try simp only[QJ]
     obtain⟨r0,r1,z0,z1⟩:=Q.out.cells
     have D:=QI (Q.out.fin (1) (10000*(k:Int)+9999));go_wp2_with fail
     generalize World.setCell _ _ _=s at D |-;exact Xy (v:=.agg #[.int .i64 (1),.int .i64 (10000*(k:Int)+9999)]) (by simp[results,results20,go_sem,Qb D.out.1 0 _ Z,Qb D.out.1 1 _ Z]) Z ⟨by first | rfl | rw[E],D.out.2⟩
    rw[Xu T]
    have q0:=Qb (I.out _ Q.out).1 0 _ Z;have q1:=Qb (I.out _ Q.out).1 1 _ Z;have CL:=QI (Qbp (regs:=x.regs) (Ya ab.out.params Q.out.bel) ao.out.2.1);unfold Rd at CL;go_wp2_with fail
    refine CL.out.mono ?_;rintro _ wl ⟨rfl,bl⟩;have o:=QI (Q.out.below bl);clear bl CL q0 q1 Q;generalize F:listC x.regs x.params=G;by_cases c3:G=0
    rotate_left
    ·have d9:(G != 0)=true:=by simpa using c3
     have E:Qj m=(G,10000*(k:Int)+9999):=by
      have A:Qf.fault m.length k x=(G,10000*(k:Int)+9999):=by unfold Qf.fault;rw[Xr T,F,Xs c3]
      rw[EM.out (by rw[A];exact c3),A]
     go_wp2_with fail
     refine Xm (QaI HP.out) ?_;rintro _ P ⟨rfl,a⟩;have o:=QI (o.out.below a);clear a;go_wp2_with fail
     refine Xm (QaB) ?_;rintro _ V ⟨rfl,a⟩;have o:=QI (o.out.below a);clear a;try simp only[QJ]
     obtain⟨r0,r1,z0,z1⟩:=o.out.cells
     have D:=QI (o.out.fin (G) (10000*(k:Int)+9999));go_wp2_with fail
     generalize World.setCell _ _ _=s at D |-;exact Xy (v:=.agg #[.int .i64 (G),.int .i64 (10000*(k:Int)+9999)]) (by simp[results,results20,go_sem,Qb D.out.1 0 _ Z,Qb D.out.1 1 _ Z]) Z ⟨by first | rfl | rw[E],D.out.2⟩
    subst c3;have q0:=Qb (I.out _ o.out).1 0 _ Z;have q1:=Qb (I.out _ o.out).1 2 _ Z;have CL:=QI (Qbp (regs:=x.regs) (Ya ab.out.results o.out.bel) ao.out.2.2.1);unfold Rd at CL;go_wp2_with fail
    refine CL.out.mono ?_;rintro _ wl ⟨rfl,bl⟩;have e:=QI (o.out.below bl);clear bl CL q0 q1 o;generalize J:listC x.regs x.results=G;by_cases c4:G=0
    rotate_left
    ·have d9:(G != 0)=true:=by simpa using c4
     have E:Qj m=(G,10000*(k:Int)+9999):=by
      have A:Qf.fault m.length k x=(G,10000*(k:Int)+9999):=by unfold Qf.fault;rw[Xr T,F,Xr (by simp),J,Xs c4]
      rw[EM.out (by rw[A];exact c4),A]
     go_wp2_with fail
     refine Xm (QaI HP.out) ?_;rintro _ P ⟨rfl,a⟩;have e:=QI (e.out.below a);clear a;go_wp2_with fail
     refine Xm (QaB) ?_;rintro _ V ⟨rfl,a⟩;have e:=QI (e.out.below a);clear a;try simp only[QJ]
     obtain⟨r0,r1,z0,z1⟩:=e.out.cells
     have D:=QI (e.out.fin (G) (10000*(k:Int)+9999));go_wp2_with fail
     generalize World.setCell _ _ _=s at D |-;exact Xy (v:=.agg #[.int .i64 (G),.int .i64 (10000*(k:Int)+9999)]) (by simp[results,results20,go_sem,Qb D.out.1 0 _ Z,Qb D.out.1 1 _ Z]) Z ⟨by first | rfl | rw[E],D.out.2⟩
    subst c4;go_upto_region 15 with fail
    have q3:=Qb (I.out _ e.out).1 3 _ Z;go_cut [76] (fun v wx=>v=.bool (decide (x.blocks.length<1\/12<x.blocks.length))/\FbS w wx R L)
    case first =>
     by_cases h:(x.blocks.length:Int)<1
     ·have d1:decide ((x.blocks.length:Int)<1)=true:=Xt h;have E:decide (x.blocks.length<1\/12<x.blocks.length)=true:=Xt (.inl (by omega));go_wp2
      go_meet;exact⟨by rw[E],e.out⟩
     ·have d1:decide ((x.blocks.length:Int)<1)=false:=Xu h;have E:decide (x.blocks.length<1\/12<x.blocks.length)=decide ((x.blocks.length:Int)>12):=by rw[decide_eq_decide];omega
      go_wp2
      all_goals
       go_meet;exact⟨by rw[E],e.out⟩
    case rest =>
     obtain⟨rfl,B⟩:=hcut
     have H:=QI B;clear B e q3;by_cases c5:x.blocks.length<1\/12<x.blocks.length
     ·rw[Xt c5]
      have E:Qj m=(2,10000*(k:Int)+9999):=by
       have A:Qf.fault m.length k x=(2,10000*(k:Int)+9999):=by unfold Qf.fault;rw[Xr T,F,Xr (by simp),J,Xr (by simp),Xs c5]
       rw[EM.out (by rw[A];show (2:Int)≠0;decide),A]
      clear c5;go_wp2_with fail
      refine Xm (QaI HP.out) ?_;rintro _ P ⟨rfl,a⟩;have H:=QI (H.out.below a);clear a;go_wp2_with fail
      refine Xm (QaB) ?_;rintro _ V ⟨rfl,a⟩;have H:=QI (H.out.below a);clear a;try simp only[QJ]
      obtain⟨r0,r1,z0,z1⟩:=H.out.cells
      have D:=QI (H.out.fin (2) (10000*(k:Int)+9999));go_wp2_with fail
      generalize World.setCell _ _ _=s at D |-;exact Xy (v:=.agg #[.int .i64 (2),.int .i64 (10000*(k:Int)+9999)]) (by simp[results,results20,go_sem,Qb D.out.1 0 _ Z,Qb D.out.1 1 _ Z]) Z ⟨by first | rfl | rw[E],D.out.2⟩
     rw[Xu c5]
     go_upto_if 81 with fail
     go_cut [] (fun wx=>FbS w wx R L/\(k=0->plB x x.results.length=true))
     case first =>
      by_cases h0:k=0
      rotate_left
      ·have d0:((k:Int)==0)=false:=by simpa using h0
       have H0:=QI h0;clear h0;go_wp2
       go_meet;exact⟨H.out,fun h=>absurd h H0.out⟩
      have d0:((k:Int)==0)=true:=by simpa using h0
      have H0:=QI h0;clear h0;have q0:=Qb (I.out _ H.out).1 0 _ Z;have q1:=Qb (I.out _ H.out).1 1 _ Z;go_upto_region 18 with fail
      go_cut [7] (fun v wx=>v=.bool (plB x 0)/\FbS w wx R L)
      case first =>
       by_cases hr:x.regs=0
       ·have d1:(x.regs==0)=true:=by simpa using hr
        have E:plB x 0=((x.params.length:Int)==0):=by rw[Qgs,d1];rfl
        clear hr;go_wp2
        all_goals
         go_meet;exact⟨by rw[E],H.out⟩
       ·have d1:(x.regs==0)=false:=by simpa using hr
        have E:plB x 0=false:=by rw[Qgs,d1];rfl
        go_wp2
        go_meet;exact⟨by rw[E],H.out⟩
      case rest =>
       obtain⟨rfl,B⟩:=hcut
       have SB:=QI B;clear B H q0 q1;go_wp2_with fail
       go_loopw [7,8] (fun v i wr=>∃ q:Nat,q<=x.results.length/\i=.int .i64 q/\v=.bool (plB x q)/\FbS w wr R L) (fun _ i _=>x.results.length - (intOf i).toNat)
       case atStart=>exact⟨0,Xb _,Z,Z,SB.out⟩
       case round =>
        obtain⟨q,hq,rfl,rfl,hs⟩:=hrel
        have g:=QI hs;clear hs SB;have q2:=Qb (I.out _ g.out).1 2 _ Z;by_cases aa:q<x.results.length
        ·have N:(q:Int)<x.results.length:=by omega
         have ht:x.results[q]?=some x.results[q]:=Zg aa;generalize x.results[q]=t at ht;have HN:=QI (Qja ht);obtain⟨gt,ot,ta,tc,e3,-,ay,-,-,-⟩:=(QK (Ya ab.out.results g.out.bel)).1.at ht
         have q9:=q2;rw[e3] at q9
         clear ht e3 q2;generalize plB x q=pq at HN
         cases pq with
         | true =>
           go_wp2
           all_goals
            go_roundw
            case rel=>exact⟨q+1,by omega,by go_num,by rw[HN.out];rfl,g.out⟩
            case measure=>simp[intOf];omega
         | false =>
           go_wp2
           go_roundw
           case rel=>exact⟨q+1,by omega,by go_num,by rw[HN.out];rfl,g.out⟩
           case measure=>simp[intOf];omega
        have N:¬ (q:Int)<x.results.length:=by omega
        have ap:q=x.results.length:=by omega
        subst ap;generalize af:plB x x.results.length=pq
        cases pq with
        | true =>
          go_wp2
          go_meet;exact⟨g.out,fun _=>af⟩
        | false =>
          have E:Qj m=(18,10000*(k:Int)+9999):=by
           have A:Qf.fault m.length k x=(18,10000*(k:Int)+9999):=by unfold Qf.fault;rw[Xr T,F,Xr (by simp),J,Xr (by simp),Xr c5,Xs ⟨H0.out,fun h=>by rw[(Qip x).2 h] at af;cases af⟩]
           rw[EM.out (by rw[A];show (18:Int)≠0;decide),A]
          go_wp2_with fail
          refine Xm (QaI HP.out) ?_;rintro _ P ⟨rfl,a⟩;have g:=QI (g.out.below a);clear a;go_wp2_with fail
          refine Xm (QaB) ?_;rintro _ V ⟨rfl,a⟩;have g:=QI (g.out.below a);clear a;try simp only[QJ]
          obtain⟨r0,r1,z0,z1⟩:=g.out.cells
          have D:=QI (g.out.fin (18) (10000*(k:Int)+9999));go_wp2_with fail
          generalize World.setCell _ _ _=s at D |-;exact Xy (v:=.agg #[.int .i64 (18),.int .i64 (10000*(k:Int)+9999)]) (by simp[results,results20,go_sem,Qb D.out.1 0 _ Z,Qb D.out.1 1 _ Z]) Z ⟨by first | rfl | rw[E],D.out.2⟩
     case rest =>
      obtain⟨B,ag⟩:=hcut
      have SB:=QI B;have c6:¬ (k=0/\¬ (x.regs=0/\x.params.length=0/\x.results.all (fun t=>t.kind==1)=true)):=fun h=>h.2 ((Qip x).1 (ag h.1))
      have EF:Hid (Qf.fault m.length k x=firstF (fun b y=>Qe.fault m.length k x b y) 0 x.blocks):=by
       show _=_;unfold Qf.fault;rw[Xr T,F,Xr (by simp),J,Xr (by simp),Xr c5,Xr c6]
      clear B ag H T F J c5 c6;go_wp2_with fail
      go_loopw [9] (fun i wr=>∃ q:Nat,q<=x.blocks.length/\i=.int .i64 q/\FbS w wr R L/\∀ (j:Nat) y,j<q->x.blocks[j]?=some y->(Qe.fault m.length k x j y).1=0) (fun i _=>x.blocks.length - (intOf i).toNat)
      case atStart=>exact⟨0,Xb _,Z,SB.out,fun j z C=>absurd C (XG _)⟩
      case round =>
       obtain⟨q,hq,rfl,hs,l⟩:=hrel
       have g:=QI hs;have ac:=QI l;clear hs l SB;have q3:=Qb (I.out _ g.out).1 3 _ Z;by_cases aa:q<x.blocks.length
       rotate_left
       ·have N:¬ (q:Int)<x.blocks.length:=by omega
        go_wp2
        go_roundw
        case rel =>
         refine⟨k+1,by omega,by go_num,DR.out _ g.out,fun j f C hf=>?_⟩
         by_cases aq:j<k
         ·exact ad.out j f aq hf
         ·have:j=k:=by omega
          subst this;rw[ae.out] at hf
          cases hf
          rw[EF.out,QT fun b y hb=>by rw[XK];exact ac.out b y (by have:=(Zi hb).1;omega) hb]
        case measure=>simp[intOf];omega
       have N:(q:Int)<x.blocks.length:=by omega
       have U:x.blocks[q]?=some x.blocks[q]:=Zg aa;generalize x.blocks[q]=y at U;have ak:=QI U;have CB:=QI (QdN (Ya HM.out g.out.bel) HS.out ae.out U);unfold Rd at CB;obtain⟨W,bp,ai⟩:∃ W bp,Qe.fault m.length k x q y=(W,bp):=⟨_,_,Z⟩
       rw[ai] at CB
       have aj:=QI ai;have x0:=Qb (I.out _ g.out).2 0 _ Z;clear U ai;go_wp2_with fail
       refine CB.out.mono ?_;rintro _ w8 ⟨rfl,b8⟩;have e:=QI ((g.out.below b8).new #[.int .i64 W,.int .i64 bp] 30);clear b8 CB g q3 x0;simp only[QJ]
       go_upto_region 29 with fail
       generalize w8.alloc (.cells #[.int .i64 W,.int .i64 bp] 30)=w9 at e |-;generalize w8.heap.size=F8 at e |-;have f0:=Qb (e.out.box 0 _ Z) 0 _ Z;have d:=Qb (e.out.box 0 _ Z) 1 _ Z;have o:Hid (FbS w w9 R L):=⟨e.out.bel,e.out.ge,e.out.r,fun i b hb=>e.out.box (i+1) b hb⟩;clear e;by_cases O:W=0
       ·subst O;go_wp2
        go_roundw
        case rel =>
         refine⟨q+1,by omega,by go_num,o.out,fun j u C hu=>?_⟩
         by_cases au:j<q
         ·exact ac.out j u au hu
         ·have:j=q:=by omega
          subst this;rw[ak.out] at hu
          cases hu
          rw[aj.out]
        case measure=>simp[intOf];omega
       ·have d9:(W != 0)=true:=by simpa using O
        have E:Qj m=(W,bp):=by
         have hF:=Qaa (f:=fun b y=>Qe.fault m.length k x b y) (j:=0) ak.out (fun j u C hu=>by rw[XK];exact ac.out j u C hu) (by rw[XK,aj.out];exact O);rw[XK,aj.out] at hF
         rw[EM.out (by rw[EF.out,hF];exact O),EF.out,hF]
        clear O;try simp only[QJ]
        obtain⟨r0,r1,z0,z1⟩:=o.out.cells
        have D:=QI (o.out.fin (W) (bp));go_wp2_with fail
        generalize World.setCell _ _ _=s at D |-;exact Xy (v:=.agg #[.int .i64 (W),.int .i64 (bp)]) (by simp[results,results20,go_sem,Qb D.out.1 0 _ Z,Qb D.out.1 1 _ Z]) Z ⟨by first | rfl | rw[E],D.out.2⟩
theorem QeX {m:List (Qe 6)}(h:(Qa8 6).list.In w Q m [.slice p n c]){g:Qe 6}(t:m[k]?=some g) :
 ∃ mg mo a1 c1 a2 c2 e,p=some ⟨mg,mo,none⟩/\w.rangeAt mg (mo+k*12) (.int .i64 g.regs::.slice a1 g.params.length c1::.slice a2 g.code.length c2::(QaE g.fin e).toList)/\(Qi 6).In w Q g.params [.slice a1 g.params.length c1]/\insC.list.In w Q g.code [.slice a2 g.code.length c2]/\Qce w Q g.fin e/\g.fin.yes.regs.length<=e.cYR/\g.fin.no.regs.length<=e.cNR:=by
 obtain⟨mg,mo,y,o,x,u,i,_,_,rfl,⟨rfl,_⟩,_,_,rfl,b,_,_,rfl,d,r⟩:=Yf h t
 obtain⟨a1,c1,rfl,b⟩:=QM b
 obtain⟨a2,c2,rfl,d⟩:=QM d
 obtain⟨e,rfl,q,l,s⟩:=QiB r
 refine⟨mg,mo,a1,c1,a2,c2,e,o,fun j v f=>?_,b,d,q,l,s⟩
 have a:j<12:=(Zi f).1
 have:=i j a
 rw[show (Qa8 6).size=12 from Z] at this
 rw[this]
 exact f
structure RfS (w wr:World) (X R:Nat) (pm:Option Addr) (N cm:Nat):Prop where
 bel:Below w.heap.size w wr
 x:Blk wr X #[.slice pm N cm] 24
 r:Blk wr R #[.int .i64 0,.int .i64 0] 30
theorem RfS.below (h:RfS w wr X R pm N cm) (k:Below wr.heap.size wr w'):RfS w w' X R pm N cm :=
 ⟨h.bel.trans (k.mono h.bel.size),(k.block X (XC h.x)).trans h.x,(k.block R (XC h.r)).trans h.r⟩
theorem RfS.step (h:RfS w wr X R pm N cm) (k:Zw O O' wr w') (a:¬ O X) (c:¬ O R) (b:∀ k,O k->w.heap.size<=k):RfS w w' X R pm N cm :=
 ⟨h.bel.trans (k.below h.bel.size b),(k.block X (XC h.x) a).trans h.x,(k.block R (XC h.r) c).trans h.r⟩
structure RfI (w wr:World) (X R Bx B:Nat) (pm:Option Addr) (N cm:Nat) (cs:Array Value) (s:JSt) (O:Nat->Prop):Prop where
 top:RfS w wr X R pm N cm
 box:Blk wr Bx cs 60
 known:KAt wr B O s
 own:∀ k,O k->w.heap.size<=k/\k<wr.heap.size
 nx:¬ O X
 nr:¬ O R
 nb:¬ O Bx
theorem RfI.to {f:Nat}{cs:Array Value}{s g:JSt}(h:RfI w wr X R f B pm N cm cs s O) (k:KTo wr w' B O g):∃ O',RfI w w' X R f B pm N cm cs g O':=by
 obtain⟨O',i,d,l⟩:=k
 have a:∀ {b:Nat},¬ O b->b<wr.heap.size->¬ O' b:=fun {b} j n e=>by rcases d.own b e with e | e;exact j e;omega
 have m:=h.top.bel.size;exact⟨O',h.top.step d h.nx h.nr (fun k c=>(h.own k c).1),(d.block f (XC h.box) h.nb).trans h.box,i,fun k c=>⟨by rcases d.own k c with e | e;exact(h.own k e).1;omega,l k c⟩,a h.nx (XC h.top.x),a h.nr (XC h.top.r),a h.nb (XC h.box)⟩
theorem Qak (h:Blk w R #[.int .i64 0,.int .i64 0] 30) (c a:Int):Blk ((w.setCell ⟨R,0,none⟩ (.int .i64 c)).setCell ⟨R,1,none⟩ (.int .i64 a)) R #[.int .i64 c,.int .i64 a] 30:=by
 have:=Qq (Qq h 0 (.int .i64 c)) 1 (.int .i64 a)
 simpa using this
theorem Qfd {m:List (Qf 6)}(hm:(Qht 6).In w All m [.slice p m.length c]) (hg:¬ Zd m) :
 Calls prog 18 #[.agg #[.slice p m.length c]] w fun e w'=>e=.returned (QJ (QY m))/\Below w.heap.size w w':=by
 have HM:Hid ((Qht 6).In w All m [.slice p m.length c]):=hm;have HG:=Qa hg;have b8:m.length<=20:=Xo fun x=>hg (.inl x);have b1:=QU w (.cells #[.slice p m.length c] 24);have b2:=QU (w.alloc (.cells #[.slice p m.length c] 24)) (.cells #[.int .i64 0,.int .i64 0] 30)
 have S0:Hid (RfS w ((w.alloc (.cells #[.slice p m.length c] 24)).alloc (.cells #[.int .i64 0,.int .i64 0] 30)) w.heap.size (w.heap.size+1) p m.length c) :=
  ⟨b1.trans (b2.mono b1.size),(b2.block _ (by simp)).trans (Qm _ _ _),by have:=Qm (w.alloc (.cells #[.slice p m.length c] 24)) #[.int .i64 0,.int .i64 0] 30;rw[World.size_alloc] at this;exact this⟩
 have l:w.heap.size<=w.heap.size+1:=by omega
 clear hm hg b1 b2;go_enter func18,ntmps18
 go_upto_region 1 with fail
 obtain⟨R,hR⟩:∃ R,w.heap.size+1=R:=⟨_,Z⟩
 rw[hR] at S0 l |-
 obtain⟨X,hX⟩:∃ X,w.heap.size=X:=⟨_,Z⟩
 generalize (w.alloc (.cells #[.slice p m.length c] 24)).alloc (.cells #[.int .i64 0,.int .i64 0] 30)=w1 at S0 |-;have S:Hid (RfS w w1 X R p m.length c):=by rw[<-hX];exact S0.out
 rw[hX]
 clear S0 hR hX;have x0:=Qb S.out.x 0 _ Z;go_wp2_with fail
 refine Xm (QbO ((QaH 6).keep (fun k _ hl=>S.out.bel.block k hl) (fun _ _ _=>trivial) ((Qcp 6).2 HM.out)) (Qah HG.out)) ?_;rintro e2 w2 ⟨rfl,b2⟩;have S2:Hid (RfS w w2 X R p m.length c):=S.out.below b2;clear S b2 x0;obtain⟨I,U,a0⟩:∃ I U,Qj m=(I,U):=⟨_,_,Z⟩
 have al:Hid (Qj m=(I,U)):=a0;rw[a0]
 clear a0;have S3:Hid (RfS w (w2.alloc (.cells #[.int .i64 I,.int .i64 U] 30)) X R p m.length c):=S2.out.below (QU _ _);have F3:Hid (Blk (w2.alloc (.cells #[.int .i64 I,.int .i64 U] 30)) w2.heap.size #[.int .i64 I,.int .i64 U] 30):=Qm _ _ _;simp only[QJ]
 clear S2;go_upto_region 2 with fail
 generalize w2.alloc (.cells #[.int .i64 I,.int .i64 U] 30)=w3 at S3 F3 |-;generalize w2.heap.size=F9 at F3 |-;have f0:=Qb F3.out 0 _ Z;have f1:=Qb F3.out 1 _ Z;by_cases av:I=0
 rotate_left
 ·have b7:(I != 0)=true:=by simpa using av
  have E:Hid (QY m=(I,U)):=by show _=_;unfold QY;rw[al.out,Xs av]
  have r0:=Qb S3.out.r 0 _ Z;have r1:=Qb S3.out.r 1 _ Z;have z0:=Qn S3.out.r 0;have z1:=Qn S3.out.r 1;have J:Hid (Blk ((w3.setCell ⟨R,0,none⟩ (.int .i64 I)).setCell ⟨R,1,none⟩ (.int .i64 U)) R #[.int .i64 I,.int .i64 U] 30):=Qak S3.out.r _ _;have BL:Hid (Below w.heap.size w ((w3.setCell ⟨R,0,none⟩ (.int .i64 I)).setCell ⟨R,1,none⟩ (.int .i64 U))):=(S3.out.bel.setCell l _).setCell l _;go_wp2_with fail
  generalize (w3.setCell ⟨R,0,none⟩ (.int .i64 I)).setCell ⟨R,1,none⟩ (.int .i64 U)=az at J BL |-;have e0:=Qb J.out 0 _ Z;have e1:=Qb J.out 1 _ Z;exact Xy (v:=.agg #[.int .i64 I,.int .i64 U]) (by simp[results,results18,go_sem,e0,e1]) Z ⟨by rw[E.out],BL.out⟩
 subst av;have ax:Hid ((Qj m).1=0):=by show _=_;rw[al.out]
 have E0:Hid (QY m=firstF (Z7 m) 0 m):=by show _=_;unfold QY;rw[al.out,Xr (by simp)]
 have S:=S3;clear S3 F3 al;go_wp2_with fail
 clear f0 f1;go_loopw [4] (fun i wr=>∃ k:Nat,k<=m.length/\i=.int .i64 k/\RfS w wr X R p m.length c/\∀ j f,j<k->m[j]?=some f->(Z7 m j f).1=0) (fun i _=>m.length - (intOf i).toNat)
 case atStart=>exact⟨0,Xb _,Z,S.out,fun j f hj=>absurd hj (XG _)⟩
 case round =>
  obtain⟨k,hk,rfl,hs,s⟩:=hrel
  have SR:Hid (RfS w wr X R p m.length c):=hs;have L:=Qa s;clear hs s S;obtain⟨wf,b5⟩:∃ wf,wf=wr:=⟨_,Z⟩
  subst b5;have x0:=Qb SR.out.x 0 _ Z;by_cases bs:k<m.length
  rotate_left
  ·have bg:¬ (k:Int)<m.length:=by omega
   have E:Hid (QY m=(0,0)):=by
    show _=_;rw[E0.out]
    exact QT fun j f hj=>by rw[XK];exact L.out j f (by have:=(Zi hj).1;omega) hj
   have r0:=Qb SR.out.r 0 _ Z;have r1:=Qb SR.out.r 1 _ Z;have z0:=Qn SR.out.r 0;have z1:=Qn SR.out.r 1;have J:Hid (Blk ((wf.setCell ⟨R,0,none⟩ (.int .i64 0)).setCell ⟨R,1,none⟩ (.int .i64 0)) R #[.int .i64 0,.int .i64 0] 30):=Qak SR.out.r _ _;have BL:Hid (Below w.heap.size w ((wf.setCell ⟨R,0,none⟩ (.int .i64 0)).setCell ⟨R,1,none⟩ (.int .i64 0))):=(SR.out.bel.setCell l _).setCell l _;go_wp2_with fail
   generalize (wf.setCell ⟨R,0,none⟩ (.int .i64 0)).setCell ⟨R,1,none⟩ (.int .i64 0)=az at J BL |-;have e0:=Qb J.out 0 _ Z;have e1:=Qb J.out 1 _ Z;exact Xy (v:=.agg #[.int .i64 0,.int .i64 0]) (by simp[results,results18,go_sem,e0,e1]) Z ⟨by rw[E.out],BL.out⟩
  have bg:(k:Int)<m.length:=by omega
  have ae:m[k]?=some m[k]:=Zg bs;generalize m[k]=f at ae;have aj:=Qa ae;obtain⟨M,N,ds,rfl,-,-,u,_,_,rfl,⟨rfl,_⟩,_,_,rfl,t1,_,_,rfl,t2,t3⟩:=Yf HM.out ae
  obtain⟨a1,c1,rfl,t1⟩:=QM t1
  obtain⟨a2,c2,rfl,t2⟩:=QM t2
  obtain⟨a3,c3,rfl,t3⟩:=QM t3
  have v3:w.cell? ⟨M,N+k*4+3,none⟩=some (.slice a3 f.blocks.length c3):=u 3 (by decide);have bz:Hid ((Qa8 6).list.In w All f.blocks [.slice a3 f.blocks.length c3]):=t3;have aq:Hid (f∈m):=Zm ae;have ch:f.blocks.length<=30:=Xo fun h=>HG.out (.inr ⟨f,aq.out,.inl h⟩);clear u t1 t2 t3 ae;go_wp2_with fail
  go_loopw [5] (fun i wq=>∃ q:Nat,q<=f.blocks.length/\i=.int .i64 q/\RfS w wq X R (some ⟨M,N,none⟩) m.length c/\∀ j g,j<q->f.blocks[j]?=some g->(QB (10000*(k:Int)+100*(j:Int)) g.fin (JSt.start m f g) 0 g.code).1=0) (fun i _=>f.blocks.length - (intOf i).toNat)
  case atStart=>exact⟨0,Xb _,Z,SR.out,fun j g hj=>absurd hj (XG _)⟩
  case round =>
   obtain⟨q,hq,rfl,hs,s⟩:=hrel
   have SQ:Hid (RfS w wr X R (some ⟨M,N,none⟩) m.length c):=hs;have D:=Qa s;clear hs s SR x0;obtain⟨wb,br⟩:∃ wb,wb=wr:=⟨_,Z⟩
   subst br;have x0:=Qb SQ.out.x 0 _ Z;have bx:=Qp v3 SQ.out.bel;by_cases bm:q<f.blocks.length
   rotate_left
   ·have bd:¬ (q:Int)<f.blocks.length:=by omega
    have E:Hid ((Z7 m k f).1=0):=by
     show _=_;unfold Z7;rw[QT fun j g hj=>by rw[XK];exact D.out j g (by have:=(Zi hj).1;omega) hj]
    go_wp2_with fail
    go_roundw
    case rel =>
     refine⟨k+1,by omega,by go_num,SQ.out,fun j y hj T=>?_⟩
     by_cases ad:j<k
     ·exact L.out j y ad T
     ·have:j=k:=by omega
      subst this;rw[aj.out] at T
      cases T
      exact E.out
    case measure=>simp[intOf];omega
   have bd:(q:Int)<f.blocks.length:=by omega
   have Q:f.blocks[q]?=some f.blocks[q]:=Zg bm;generalize f.blocks[q]=g at Q;have au:=Qa Q;have a7:Hid (g∈f.blocks):=Zm Q;have aw:Hid (¬ g.great):=fun h=>HG.out (.inr ⟨f,aq.out,.inr (.inr (.inr ⟨g,a7.out,h⟩))⟩);have a8:Hid (JOk (JSt.start m f g)):=JOk.start ax.out HG.out aq.out a7.out;obtain⟨eg,eo,p1,d1,p2,d2,e,rfl,K,ba,aa,ao,bl,bp⟩:=QeX bz.out Q
   have b0:=Qa K;have a4:=Qa aa;have a9:=Qa ao;have bj:∀ t∈g.params,t.count<=100000:=fun t ht=>Xo fun h=>aw.out (.inr (.inl (.inr ⟨t,ht,by omega⟩)));have bi:g.params.length<=100000:=by have:=a8.out.vals;simp only[JSt.start] at this;omega
   have CK:Hid (Calls prog 42 #[.agg #[.slice (some ⟨M,N,none⟩) m.length c],.int .i64 (k:Int),.int .i64 (q:Int)] wb fun e w'=>∃ B O',e=.returned (.pointer (some ⟨B,0,none⟩))/\KAt w' B O' (JSt.start m f g)/\(∀ k,O' k->wb.heap.size<=k/\k<w'.heap.size)/\Below wb.heap.size wb w') :=
    QfC (Ya ((Qcp 6).2 HM.out) SQ.out.bel) aj.out Q bj bi
   have cb:g.code.length<=200:=Xo fun h=>aw.out (.inl h);clear K ba aa ao Q bj bi;go_wp2_with fail
   refine CK.out.mono ?_;rintro e4 d ⟨B,O,rfl,a6,V,b4⟩;have S4:Hid (RfS w d X R (some ⟨M,N,none⟩) m.length c):=SQ.out.below b4;have ai:Hid (d.rangeAt eg (eo+q*12) (Value.int .i64 g.regs::Value.slice p1 g.params.length d1::Value.slice p2 g.code.length d2::(QaE g.fin e).toList)):=ZD b0.out S4.out.bel;generalize an:(Value.int .i64 g.regs::Value.slice p1 g.params.length d1::Value.slice p2 g.code.length d2::(QaE g.fin e).toList)=P at ai;have hl:P.length=12:=by rw[<-an];rfl
   have TS:Hid ((prog.info? 60).map (·.size)=some P.length):=by show _=_;rw[hl];exact sizeBk
   have TH:Hid ((d.alloc (.cells #[.int .i64 0,.slice none 0 0,.slice none 0 0,.int .i64 0,.int .i64 0,.int .i64 0,.slice none 0 0,.slice none 0 0,.int .i64 0,.slice none 0 0,.slice none 0 0,.slice none 0 0] 60)).there d.heap.size 0 P.toArray.size):=by
    intro j hj;rw[List.size_toArray,hl] at hj
    rw[XK]
    have hB:=Qm d #[.int .i64 0,.slice none 0 0,.slice none 0 0,.int .i64 0,.int .i64 0,.int .i64 0,.slice none 0 0,.slice none 0 0,.int .i64 0,.slice none 0 0,.slice none 0 0,.slice none 0 0] 60;refine⟨?_,Qn hB j⟩
    rw[Qb hB j ((#[.int .i64 0,.slice none 0 0,.slice none 0 0,.int .i64 0,.int .i64 0,.int .i64 0,.slice none 0 0,.slice none 0 0,.int .i64 0,.slice none 0 0,.slice none 0 0,.slice none 0 0]:Array Value)[j]'hj) (by simp)];rfl
   have bh:Hid ((prog.info? 60).map (·.size)=some P.toArray.size):=by show _=_;rw[List.size_toArray];exact TS.out
   have TO:Hid (P.toArray.all (·.oneCell')=true):=by
    refine all_oneCell_toArray fun v hv=>?_;rw[<-an] at hv
    simp only[QaE,List.mem_cons,List.not_mem_nil,or_false] at hv
    rcases hv with rfl | rfl | rfl | rfl | rfl | rfl | rfl | rfl | rfl | rfl | rfl | rfl<;>rfl
   have B6:Hid (Blk ((d.alloc (.cells #[.int .i64 0,.slice none 0 0,.slice none 0 0,.int .i64 0,.int .i64 0,.int .i64 0,.slice none 0 0,.slice none 0 0,.int .i64 0,.slice none 0 0,.slice none 0 0,.slice none 0 0] 60)).setCells d.heap.size 0 P.toArray.toList) d.heap.size (Value.int .i64 g.regs::Value.slice p1 g.params.length d1::Value.slice p2 g.code.length d2::(QaE g.fin e).toList).toArray 60):=by
    have h0:Blk (d.alloc (.cells #[.int .i64 0,.slice none 0 0,.slice none 0 0,.int .i64 0,.int .i64 0,.int .i64 0,.slice none 0 0,.slice none 0 0,.int .i64 0,.slice none 0 0,.slice none 0 0,.slice none 0 0] 60)) d.heap.size ([]++(#[.int .i64 0,.slice none 0 0,.slice none 0 0,.int .i64 0,.int .i64 0,.int .i64 0,.slice none 0 0,.slice none 0 0,.int .i64 0,.slice none 0 0,.slice none 0 0,.slice none 0 0]:Array Value).toList).toArray 60:=Qm d _ _;rw[an]
    exact Blk.sets P [] (#[.int .i64 0,.slice none 0 0,.slice none 0 0,.int .i64 0,.int .i64 0,.int .i64 0,.slice none 0 0,.slice none 0 0,.int .i64 0,.slice none 0 0,.slice none 0 0,.slice none 0 0]:Array Value).toList _ (by rw[hl];rfl) h0
   have b6:Hid (Below d.heap.size d ((d.alloc (.cells #[.int .i64 0,.slice none 0 0,.slice none 0 0,.int .i64 0,.int .i64 0,.int .i64 0,.slice none 0 0,.slice none 0 0,.int .i64 0,.slice none 0 0,.slice none 0 0,.slice none 0 0] 60)).setCells d.heap.size 0 P.toArray.toList)):=by
    have:=Zw.setCells (O:=fun k=>k=d.heap.size) (O':=fun k=>k=d.heap.size) (b:=d.heap.size) Z P.toArray.toList 0 _ (Zw.refl _ (d.alloc (.cells #[.int .i64 0,.slice none 0 0,.slice none 0 0,.int .i64 0,.int .i64 0,.int .i64 0,.slice none 0 0,.slice none 0 0,.int .i64 0,.slice none 0 0,.slice none 0 0,.slice none 0 0] 60)))
    exact(QU d _).trans (this.below (by simp) (fun k hk=>by omega))
   have I6:Hid (RfI w ((d.alloc (.cells #[.int .i64 0,.slice none 0 0,.slice none 0 0,.int .i64 0,.int .i64 0,.int .i64 0,.slice none 0 0,.slice none 0 0,.int .i64 0,.slice none 0 0,.slice none 0 0,.slice none 0 0] 60)).setCells d.heap.size 0 P.toArray.toList) X R d.heap.size B (some ⟨M,N,none⟩) m.length c (Value.int .i64 g.regs::Value.slice p1 g.params.length d1::Value.slice p2 g.code.length d2::(QaE g.fin e).toList).toArray (JSt.start m f g) O):=by
    have cd:=b6.out.size;have cf:=SQ.out.bel.size;have hX:=XC SQ.out.x;have hR:=XC SQ.out.r;exact⟨S4.out.below b6.out,B6.out,a6.below b6.out,fun k hk=>⟨by have:=V k hk;omega,by have:=V k hk;omega⟩,fun h=>by have:=V _ h;omega,fun h=>by have:=V _ h;omega,fun h=>by have:=V _ h;omega⟩
   have bw:=Qb S4.out.x 0 _ Z;have bq:=Qp v3 S4.out.bel;clear hl an B6 b6 a6 V b4 SQ CK x0 bx;go_upto_region 12 with (first | (refine wpList_load_mid Z 60 (.tmp 46) Z eg (eo+q*12) Z P _ ai.out underlying60 Z TS.out ?_) | (refine wpList_store_mid Z 60 (.tmp 7) (.tmp 47) Z d.heap.size 0 P.toArray Z Z TH.out bh.out TO.out ?_))
   have I7:Hid (RfI w ((d.alloc (.cells #[.int .i64 0,.slice none 0 0,.slice none 0 0,.int .i64 0,.int .i64 0,.int .i64 0,.slice none 0 0,.slice none 0 0,.int .i64 0,.slice none 0 0,.slice none 0 0,.slice none 0 0] 60)).setCells d.heap.size 0 P) X R d.heap.size B (some ⟨M,N,none⟩) m.length c (Value.int .i64 g.regs::Value.slice p1 g.params.length d1::Value.slice p2 g.code.length d2::(QaE g.fin e).toList).toArray (JSt.start m f g) O):=I6.out;clear I6 TH TS bh TO ai S4 bw bq;generalize (d.alloc (.cells #[.int .i64 0,.slice none 0 0,.slice none 0 0,.int .i64 0,.int .i64 0,.int .i64 0,.slice none 0 0,.slice none 0 0,.int .i64 0,.slice none 0 0,.slice none 0 0,.slice none 0 0] 60)).setCells d.heap.size 0 P=w6 at I7 |-;generalize d.heap.size=Bx at I7 |-;go_wp2_with fail
   go_loopw [8] (fun i wq=>∃ (z:Nat) (O:Nat->Prop),z<=g.code.length/\i=.int .i64 z/\RfI w wq X R Bx B (some ⟨M,N,none⟩) m.length c (Value.int .i64 g.regs::Value.slice p1 g.params.length d1::Value.slice p2 g.code.length d2::(QaE g.fin e).toList).toArray ((JSt.start m f g).upto (g.code.take z)) O/\∀ j y,j<z->g.code[j]?=some y->((JSt.start m f g).upto (g.code.take j)).code y=0) (fun i _=>g.code.length - (intOf i).toNat)
   case atStart=>exact⟨0,O,Xb _,Z,I7.out,fun j y hj=>absurd hj (XG _)⟩
   case round =>
    obtain⟨z,O3,hz,rfl,hi,s⟩:=hrel
    have W:=Qa hi;have C:=Qa s;clear hi s I7;obtain⟨G,bn⟩:∃ G,G=wr:=⟨_,Z⟩
    subst bn;have JK:Hid (JOk ((JSt.start m f g).upto (g.code.take z))):=a8.out.upto C.out hz;have y2:G.cell? ⟨Bx,2,none⟩=some (.slice p2 g.code.length d2):=Qb W.out.box 2 _ Z;by_cases bt:z<g.code.length
    rotate_left
    ·have bk:¬ (z:Int)<g.code.length:=by omega
     have bv:g.code.take z=g.code:=XO (by omega);rw[bv] at JK W
     have RE:Hid (G.rangeAt Bx 3 (QaE g.fin e).toList):=fun j v hj=>by
      have:=Qb W.out.box (3+j) v (by rw[List.getElem?_toArray,Nat.add_comm];exact hj)
      exact this
     have bf:Hid (300>=g.fin.yes.regs.length/\300>=g.fin.yes.args.length/\300>=g.fin.no.regs.length/\300>=g.fin.no.args.length):=by
      have h:=aw.out;unfold Qe.great at h;simp only[not_or,Nat.not_lt] at h
      exact⟨h.2.2.2.1,h.2.2.2.2.1,h.2.2.2.2.2.1,h.2.2.2.2.2.2.1⟩
     have CE:Hid (Calls prog 45 #[.pointer (some ⟨B,0,none⟩),.agg (QaE g.fin e).toList.toArray] G fun r w'=>r=.returned (.int .i64 (((JSt.start m f g).upto g.code).fin g.fin))/\Below G.heap.size G w') :=
      QjM JK.out W.out.known (a9.out.below W.out.top.bel) ⟨bl,bp⟩ (by have:=bf.out;omega)
     have BE:Hid (QB (10000*(k:Int)+100*(q:Int)) g.fin (JSt.start m f g) 0 g.code=if ((JSt.start m f g).upto g.code).fin g.fin≠0 then (((JSt.start m f g).upto g.code).fin g.fin,10000*(k:Int)+100*(q:Int)+91) else (0,0)):=QcF fun j y hj T=>C.out j y (by omega) T;clear bf JK;generalize ((JSt.start m f g).upto g.code).fin g.fin=F at CE BE;go_wp2_with (refine wpList_load_mid Z 58 (.tmp 71) Z Bx 3 Z (QaE g.fin e).toList _ RE.out underlying58 Z sizeEnd ?_)
     refine CE.out.mono ?_;rintro e9 w9 ⟨rfl,b9⟩;have S9:Hid (RfS w w9 X R (some ⟨M,N,none⟩) m.length c):=W.out.top.below b9;clear b9 W CE RE y2;by_cases am:F=0
     ·subst am;have E:Hid ((QB (10000*(k:Int)+100*(q:Int)) g.fin (JSt.start m f g) 0 g.code).1=0):=by show _=_;rw[BE.out];rfl
      clear BE;go_wp2_with fail
      go_roundw
      case rel =>
       refine⟨q+1,by omega,by go_num,S9.out,fun j y hj T=>?_⟩
       by_cases ad:j<q
       ·exact D.out j y ad T
       ·have:j=q:=by omega
        subst this;rw[au.out] at T
        cases T
        exact E.out
      case measure=>simp[intOf];omega
     ·have a5:(F != 0)=true:=by simpa using am
      have E:Hid (QY m=(F,10000*(k:Int)+100*(q:Int)+91)):=by
       show _=_;rw[Xs am] at BE
       rw[Qa4 ax.out aj.out L.out au.out D.out (by rw[BE.out];exact am),BE.out]
      clear BE;go_wp2_with fail
      refine Xm (QeR (f:=k) (b:=q) ⟨by omega,by omega⟩) ?_;rintro bu ar ⟨rfl,ac⟩;have ah:Hid (RfS w ar X R (some ⟨M,N,none⟩) m.length c):=S9.out.below ac;clear ac S9;go_wp2_with fail
      refine Xm (QaB (xc:=F) (xp:=10000*(k:Int)+100*(q:Int)+91)) ?_;rintro b3 A ⟨rfl,ab⟩;have o:Hid (RfS w A X R (some ⟨M,N,none⟩) m.length c):=ah.out.below ab;clear ab ah;simp only[QJ]
      generalize 10000*(k:Int)+100*(q:Int)+91=pl at E |-;have r0:=Qb o.out.r 0 _ Z;have r1:=Qb o.out.r 1 _ Z;have z0:=Qn o.out.r 0;have z1:=Qn o.out.r 1;have J:Hid (Blk ((A.setCell ⟨R,0,none⟩ (.int .i64 F)).setCell ⟨R,1,none⟩ (.int .i64 pl)) R #[.int .i64 F,.int .i64 pl] 30):=Qak o.out.r _ _;have BL:Hid (Below w.heap.size w ((A.setCell ⟨R,0,none⟩ (.int .i64 F)).setCell ⟨R,1,none⟩ (.int .i64 pl))):=(o.out.bel.setCell l _).setCell l _;go_wp2_with fail
      generalize (A.setCell ⟨R,0,none⟩ (.int .i64 F)).setCell ⟨R,1,none⟩ (.int .i64 pl)=az at J BL |-;have e0:=Qb J.out 0 _ Z;have e1:=Qb J.out 1 _ Z;exact Xy (v:=.agg #[.int .i64 F,.int .i64 pl]) (by simp[results,results18,go_sem,e0,e1]) Z ⟨by rw[E.out],BL.out⟩
    have bk:(z:Int)<g.code.length:=by omega
    have ak:g.code[z]?=some g.code[z]:=Zg bt;generalize g.code[z]=x at ak;have ay:=Qa ak;obtain⟨cg,co,ds,rfl,-,-,u,ap⟩:=Yf (Ya a4.out W.out.top.bel) ak
    obtain⟨xa,xc,xb,xd,rfl,af,ag,be,-⟩:=Qe9 ap
    have u0:G.cell? ⟨cg,co+z*8,none⟩=some (.int .i64 x.op):=u 0 (by decide);have u1:G.cell? ⟨cg,co+z*8+1,none⟩=some (.int .i64 x.a):=u 1 (by decide);have u2:G.cell? ⟨cg,co+z*8+2,none⟩=some (.int .i64 x.b):=u 2 (by decide);have u3:G.cell? ⟨cg,co+z*8+3,none⟩=some (.int .i64 x.c):=u 3 (by decide);have u4:G.cell? ⟨cg,co+z*8+4,none⟩=some (.int .i64 x.k):=u 4 (by decide);have u5:G.cell? ⟨cg,co+z*8+5,none⟩=some (.int .i64 x.n):=u 5 (by decide);have u6:G.cell? ⟨cg,co+z*8+6,none⟩=some (.slice xa x.regs.length xc):=u 6 (by decide);have u7:G.cell? ⟨cg,co+z*8+7,none⟩=some (.slice xb x.args.length xd):=u 7 (by decide)
    have CI:Hid (Calls prog 43 #[.pointer (some ⟨B,0,none⟩),Qa9 x xa xb xc xd] G fun r w'=>r=.returned (.int .i64 (((JSt.start m f g).upto (g.code.take z)).code x))/\KTo G w' B O3 (((JSt.start m f g).upto (g.code.take z)).ins x)) :=
     Qjf (fun k hk=>(W.out.own k hk).2) JK.out W.out.known af ag be
    clear u ap af ag be ak JK;go_wp2_with fail
    refine CI.out.mono ?_;rintro e9 w9 ⟨rfl,bc⟩;obtain⟨O9,bb⟩:=W.out.to bc
    have I9:=Qa bb;clear bc bb CI W u0 u1 u2 u3 u4 u5 u6 u7 y2;by_cases H:((JSt.start m f g).upto (g.code.take z)).code x=0
    ·have E:Hid (((JSt.start m f g).upto (g.code.take z)).ins x=(JSt.start m f g).upto (g.code.take (z+1))):=by
      show _=_;rw[XV,ay.out]
      show _=(JSt.start m f g).upto (g.code.take z++[x]);rw[JSt.upto_snoc]
      unfold JSt.ins;rw[Xs H]
     have bo:=Qa H;rw[H]
     clear H;go_wp2_with fail
     go_roundw
     case rel =>
      refine⟨z+1,O9,by omega,by go_num,by rw[<-E.out];exact I9.out,fun j y hj T=>?_⟩
      by_cases ad:j<z
      ·exact C.out j y ad T
      ·have:j=z:=by omega
       subst this;rw[ay.out] at T
       cases T
       exact bo.out
     case measure=>simp[intOf];omega
    ·have BE:Hid (QB (10000*(k:Int)+100*(q:Int)) g.fin (JSt.start m f g) 0 g.code=(((JSt.start m f g).upto (g.code.take z)).code x,10000*(k:Int)+100*(q:Int)+(z:Int))):=QcK ay.out C.out H;have S9:Hid (RfS w w9 X R (some ⟨M,N,none⟩) m.length c):=I9.out.top;clear I9;generalize ((JSt.start m f g).upto (g.code.take z)).code x=F at BE H |-;have a5:(F != 0)=true:=by simpa using H
     have E:Hid (QY m=(F,10000*(k:Int)+100*(q:Int)+(z:Int))):=by
      show _=_;rw[Qa4 ax.out aj.out L.out au.out D.out (by rw[BE.out];exact H),BE.out]
     clear BE;go_wp2_with fail
     refine Xm (Qfj (f:=k) (b:=q) (i:=z) ⟨by omega,by omega,by omega⟩) ?_;rintro bu ar ⟨rfl,ac⟩;have ah:Hid (RfS w ar X R (some ⟨M,N,none⟩) m.length c):=S9.out.below ac;clear ac S9;go_wp2_with fail
     refine Xm (QaB (xc:=F) (xp:=10000*(k:Int)+100*(q:Int)+(z:Int))) ?_;rintro b3 A ⟨rfl,ab⟩;have o:Hid (RfS w A X R (some ⟨M,N,none⟩) m.length c):=ah.out.below ab;clear ab ah;simp only[QJ]
     generalize 10000*(k:Int)+100*(q:Int)+(z:Int)=pl at E |-;have r0:=Qb o.out.r 0 _ Z;have r1:=Qb o.out.r 1 _ Z;have z0:=Qn o.out.r 0;have z1:=Qn o.out.r 1;have J:Hid (Blk ((A.setCell ⟨R,0,none⟩ (.int .i64 F)).setCell ⟨R,1,none⟩ (.int .i64 pl)) R #[.int .i64 F,.int .i64 pl] 30):=Qak o.out.r _ _;have BL:Hid (Below w.heap.size w ((A.setCell ⟨R,0,none⟩ (.int .i64 F)).setCell ⟨R,1,none⟩ (.int .i64 pl))):=(o.out.bel.setCell l _).setCell l _;go_wp2_with fail
     generalize (A.setCell ⟨R,0,none⟩ (.int .i64 F)).setCell ⟨R,1,none⟩ (.int .i64 pl)=az at J BL |-;have e0:=Qb J.out 0 _ Z;have e1:=Qb J.out 1 _ Z;exact Xy (v:=.agg #[.int .i64 F,.int .i64 pl]) (by simp[results,results18,go_sem,e0,e1]) Z ⟨by rw[E.out],BL.out⟩
section
variable {w:World}{O:Nat->Prop}{n:Nat}{cs:List Value}
theorem QhH {x:Qe n}(d:x.flat k) (h:(Qa8 n).In w O x cs):(Qa8 (k+1)).In w O (x.at k) cs:=by
 obtain⟨a,_,rfl,b,⟨f,_,rfl,c,e⟩⟩:=h
 exact⟨a,_,Z,b,⟨f,_,Z,Qeh d c,e⟩⟩
theorem Qi9 {x:Qf n}(a:x.flat k) (h:(Qf1 n).In w O x cs):(Qf1 (k+1)).In w O (x.at k) cs:=by
 obtain⟨b,_,rfl,c,⟨i,_,rfl,d,⟨g,_,rfl,e,j⟩⟩⟩:=h
 exact⟨b,_,Z,c,⟨i,_,Z,Qeh a.1 d,⟨g,_,Z,Qeh a.2.1 e,Lay.list_map (A:=Qa8 n) (B:=Qa8 (k+1)) Z (fun y f l=>QhH (a.2.2 y f)) j⟩⟩⟩
theorem Qkx {m:List (Qf n)}(a:∀ x∈m,x.flat k) (h:(Qht n).In w O m cs):(Qht (k+1)).In w O (m.map (Qf.at k)) cs :=
 Lay.list_map (A:=Qf1 n) (B:=Qf1 (k+1)) Z (fun y b c=>Qi9 (a y b)) h
end
theorem QdI {m:List (Qf n)}(H:(QaH n).In w All m [.slice p m.length c]) (u:Qa7 m) (d:(Qj m).1≠0) :
 Calls prog 18 #[.agg #[.slice p m.length c]] w fun e w'=>e=.returned (QJ (Qj m))/\Below w.heap.size w w':=by
 have I:Hid ((QaH n).In w All m [.slice p m.length c]):=H;have y:=Qa u;have t:=QU w (.cells #[.slice p m.length c] 24);have i:=QU (w.alloc (.cells #[.slice p m.length c] 24)) (.cells #[.int .i64 0,.int .i64 0] 30)
 have s:Hid (RfS w ((w.alloc (.cells #[.slice p m.length c] 24)).alloc (.cells #[.int .i64 0,.int .i64 0] 30)) w.heap.size (w.heap.size+1) p m.length c) :=
  ⟨t.trans (i.mono t.size),(i.block _ (by simp)).trans (Qm _ _ _),by have:=Qm (w.alloc (.cells #[.slice p m.length c] 24)) #[.int .i64 0,.int .i64 0] 30;rw[World.size_alloc] at this;exact this⟩
 have f:w.heap.size<=w.heap.size+1:=by omega
 clear H t i;go_enter func18,ntmps18
 go_upto_region 1 with fail
 obtain⟨R,G⟩:∃ R,w.heap.size+1=R:=⟨_,Z⟩
 rw[G] at s f |-
 obtain⟨X,B⟩:∃ X,w.heap.size=X:=⟨_,Z⟩
 generalize (w.alloc (.cells #[.slice p m.length c] 24)).alloc (.cells #[.int .i64 0,.int .i64 0] 30)=N at s |-;have S:Hid (RfS w N X R p m.length c):=by rw[<-B];exact s.out
 rw[B]
 clear s G B;have L:=Qb S.out.x 0 _ Z;go_wp2_with fail
 refine Xm (QbO ((QaH n).keep (fun k _ M=>S.out.bel.block k M) (fun _ _ _=>trivial) I.out) y.out) ?_;rintro U j ⟨rfl,i⟩;have C:Hid (RfS w j X R p m.length c):=S.out.below i;clear S i L;obtain⟨a,b,g⟩:∃ a b,Qj m=(a,b):=⟨_,_,Z⟩
 have l:Hid (Qj m=(a,b)):=g;rw[g]
 clear g;have h:Hid (RfS w (j.alloc (.cells #[.int .i64 a,.int .i64 b] 30)) X R p m.length c):=C.out.below (QU _ _);have q:Hid (Blk (j.alloc (.cells #[.int .i64 a,.int .i64 b] 30)) j.heap.size #[.int .i64 a,.int .i64 b] 30):=Qm _ _ _;simp only[QJ]
 clear C;go_upto_region 2 with fail
 generalize j.alloc (.cells #[.int .i64 a,.int .i64 b] 30)=z at h q |-;generalize j.heap.size=P at q |-;have f0:=Qb q.out 0 _ Z;have W:=Qb q.out 1 _ Z;have o:a≠0:=by rw[l.out] at d;exact d
 have F:(a != 0)=true:=by simpa using o
 have E:Hid (Qj m=(a,b)):=l.out;clear d o;have r0:=Qb h.out.r 0 _ Z;have Q:=Qb h.out.r 1 _ Z;have T:=Qn h.out.r 0;have V:=Qn h.out.r 1;have A:Hid (Blk ((z.setCell ⟨R,0,none⟩ (.int .i64 a)).setCell ⟨R,1,none⟩ (.int .i64 b)) R #[.int .i64 a,.int .i64 b] 30):=Qak h.out.r _ _;have D:Hid (Below w.heap.size w ((z.setCell ⟨R,0,none⟩ (.int .i64 a)).setCell ⟨R,1,none⟩ (.int .i64 b))):=(h.out.bel.setCell f _).setCell f _;go_wp2_with fail
 generalize (z.setCell ⟨R,0,none⟩ (.int .i64 a)).setCell ⟨R,1,none⟩ (.int .i64 b)=K at A D |-;have J:=Qb A.out 0 _ Z;have O:=Qb A.out 1 _ Z;exact Xy (v:=.agg #[.int .i64 a,.int .i64 b]) (by simp[results,results18,go_sem,J,O]) Z ⟨by rw[E.out],D.out⟩
def Ql5 (X Y N c c2:Nat) (p a2:Option Addr) (fc fp:Int) (t:Tmp) (v:Value) (w:World):Prop :=
 v=(([(3,.pointer (some ⟨Y,0,none⟩)),(1,.pointer (some ⟨X,0,none⟩)),(10,.agg #[.slice a2 N c2]),(11,.agg #[.int .i64 fc,.int .i64 fp]),(12,.agg #[.slice p N c]),(13,.agg #[.int .i64 fc,.int .i64 fp]),(14,.bool true),(15,.bool true),(16,.agg #[.slice a2 N c2]),(17,.agg #[.slice p N c]),(18,.bool true),(19,.bool true),(2,.bool true)]:List (Tmp × Value)).lookup t).getD undef
theorem vc6 {Y l:Nat}{k:Option Addr}{fc fp:Int}(A:Hid (∀ w,Below w6.heap.size w6 w->Calls prog 17 #[.agg #[.slice k N l]] w fun e w'=>e=.returned (.agg #[.int .i64 fc,.int .i64 fp])/\Below w.heap.size w w')) (y:Hid (∀ w,Below w6.heap.size w6 w->Calls prog 18 #[.agg #[.slice p N c]] w fun e w'=>e=.returned (.agg #[.int .i64 fc,.int .i64 fp])/\Below w.heap.size w w')) (C:Hid (∀ w,Below w6.heap.size w6 w->Calls prog 19 #[.agg #[.slice k N l],.agg #[.slice p N c]] w fun e w'=>e=.returned (.bool true)/\Below w.heap.size w w')) (u:w6.cell? ⟨X,0,none⟩=some (.slice p N c)) (r:w6.cell? ⟨Y,0,none⟩=some (.slice k N l))
 (a:Act) (m:Nat) (z:a.tmps.size=m) (o:20<=m) (B:a.tmps.getD 3 undef=.pointer (some ⟨Y,0,none⟩)) (D:a.tmps.getD 1 undef=.pointer (some ⟨X,0,none⟩)) :
 Code.wp prog ((Tryz.f4.body.bind (Qo 6)).getD .skip) (fun e a' w'=>e=.normal/\∃ vs,a'=Zn a vs [10,11,12,13,14,15,16,17,18,19,2]/\vs 2=.bool true/\Below w6.heap.size w6 w') a w6:=by
 conv=>arg 2;whnf
 refine QD (Ql5 X Y N c l p k fc fp) (fun w=>Below w6.heap.size w6 w) (fun w w'=>Below w.heap.size w w') (outs:=[3,1]) (gs:=[(5,some true)]) (bs:=[true,true,true,true,true,true,true,true,true,true,true]) (by kernel_rfl) (n:=20) z o (by kernel_rfl) ?hR ?hG (Qg Zr 1) ⟨B,D,Yy⟩ ?hA ?hend
 case hR=>exact fun t v w w' _ h=>h
 case hG=>exact⟨fun t E v w _ h=>by cases E;exact h,Yy⟩
 case hend=>exact fun vs w' b d=>⟨Z,vs,Z,d 2 (by kernel_rfl),b⟩
 case hA =>
  refine⟨fun a w b d K g=>?_,?_⟩
  ·obtain⟨f,-⟩:=d
   conv at f=>whnf;rhs;whnf
   have q:=Qp r b;go_simp;exact g _ _ Zr b Z
  refine⟨fun a w b d K g=>?_,?_⟩
  ·obtain⟨f,-⟩:=d
   conv at f=>whnf;rhs;whnf
   go_simp;refine Xm (A.out _ b) ?_;rintro x s ⟨rfl,i⟩;go_simp;exact g _ _ i (b.trans (i.mono b.size)) Z
  refine⟨fun a w b d K g=>?_,?_⟩
  ·obtain⟨f,-⟩:=d
   conv at f=>whnf;rhs;whnf
   have q:=Qp u b;go_simp;exact g _ _ Zr b Z
  refine⟨fun a w b d K g=>?_,?_⟩
  ·obtain⟨f,-⟩:=d
   conv at f=>whnf;rhs;whnf
   go_simp;refine Xm (y.out _ b) ?_;rintro x s ⟨rfl,i⟩;go_simp;exact g _ _ i (b.trans (i.mono b.size)) Z
  refine⟨fun a w b d K g=>?_,?_⟩
  ·obtain⟨f,j,-⟩:=d
   conv at f=>whnf;rhs;whnf
   conv at j=>whnf;rhs;whnf
   go_simp;exact g _ _ Zr b (by simp;rfl)
  iterate 3
   refine⟨fun a w b d K g=>?_,?_⟩
   ·obtain⟨f,-⟩:=d
    conv at f=>whnf;rhs;whnf
    have q:=Qp r b;have F:=Qp u b;go_simp;exact g _ _ Zr b Z
  refine⟨fun a w b d K g=>?_,?_⟩
  ·obtain⟨f,j,-⟩:=d
   conv at f=>whnf;rhs;whnf
   conv at j=>whnf;rhs;whnf
   go_simp;refine Xm (C.out _ b) ?_;rintro x s ⟨rfl,i⟩;go_simp;exact g _ _ i (b.trans (i.mono b.size)) Z
  refine⟨fun a w b d K g=>?_,?_⟩
  ·obtain⟨f,j,-⟩:=d
   conv at f=>whnf;rhs;whnf
   conv at j=>whnf;rhs;whnf
   go_simp;exact g _ _ Zr b Z
  refine⟨fun a w b d K g=>?_,?_⟩
  ·obtain⟨f,-⟩:=d
   conv at f=>whnf;rhs;whnf
   go_simp;exact g _ _ Zr b Z
  trivial
theorem Qdy {m:List (Qf n)}{fc fp:Int}(O:(Qht n).In w All m [.slice p m.length c])
 (b:¬ Zd m->(∀ (w':World) (a':Option Addr) (c':Nat),(Qks n).In w' All m [.slice a' m.length c']->Calls prog 17 #[.agg #[.slice a' m.length c']] w' fun e w2=>e=.returned (.agg #[.int .i64 fc,.int .i64 fp])/\Below w'.heap.size w' w2)/\(∀ w':World,(Qht n).In w' All m [.slice p m.length c]->Calls prog 18 #[.agg #[.slice p m.length c]] w' fun e w2=>e=.returned (.agg #[.int .i64 fc,.int .i64 fp])/\Below w'.heap.size w' w2)) :
 Calls prog 4 #[.agg #[.slice p m.length c]] w fun r w'=>r=.returned (.bool true)/\Below w.heap.size w w':=by
 have u:=Qa O;have d:=Qa b;have H:=QU w (.cells #[.slice p m.length c] 24);have B:=Qa H;have A:=Qb (Qm w #[.slice p m.length c] 24) 0 _ Z;clear O b H;go_enter func4,ntmps4
 go_upto_region 1 with fail
 generalize w.alloc (.cells #[.slice p m.length c] 24)=S at B A |-;obtain⟨X,N⟩:∃ X,X=w.heap.size:=⟨_,Z⟩
 rw[<-N] at A |-
 clear N;go_wp2_with fail
 refine(Qdj S).mono ?_
 rintro e2 w2 ⟨rfl,E⟩;have t:=Qa (B.out.trans (E.mono B.out.size));have J:=Qp A E;clear A E B;have i:=Qa (Qdi n m p c w2 (Ya ((Qcp n).2 u.out) t.out));unfold Rd at i;by_cases y:Zd m
 ·rw[Qs y] at i
  go_wp2_with fail
  refine i.out.mono ?_;rintro R L ⟨rfl,l⟩;have o:=Qa (t.out.trans (l.mono t.out.size));clear l i;go_wp2_with fail
  go_ret;exact⟨Z,o.out⟩
 rw[Qh y] at i
 have F:=Qa (d.out y);have k:=Qa (Qah y);clear d y;go_wp2_with fail
 refine i.out.mono ?_;rintro R L ⟨rfl,l⟩;have o:=Qa (t.out.trans (l.mono t.out.size));have M:=Qp J l;clear l i J t;have K:=Qa (QdP m p c L (Ya ((Qcp n).2 u.out) o.out) k.out);go_wp2_with fail
 refine K.out.mono ?_;rintro e4 x ⟨v4,rfl,⟨a,g,rfl,f⟩,C⟩;have G:=QU x (.cells #[.slice a m.length g] 24);have j:=C.trans (G.mono C.size);have v:=Qa (o.out.trans (j.mono o.out.size));have I:=Qp M j;have D:=Qb (Qm x #[.slice a m.length g] 24) 0 _ Z;have z:Hid ((Qks n).In (x.alloc (.cells #[.slice a m.length g] 24)) All m [.slice a m.length g]):=Ya ((Qjd n).2 (Yc f (fun _ _ _=>trivial))) G;clear K f C G j M o;go_upto_region 6 with fail
 generalize x.alloc (.cells #[.slice a m.length g] 24)=s at v I D z |-;generalize x.heap.size=Y at D |-;have T:Hid (∀ w',Below s.heap.size s w'->Calls prog 17 #[.agg #[.slice a m.length g]] w' fun e w2=>e=.returned (.agg #[.int .i64 fc,.int .i64 fp])/\Below w'.heap.size w' w2):=fun w' q=>F.out.1 w' a g (Ya z.out q);have P:Hid (∀ w',Below s.heap.size s w'->Calls prog 18 #[.agg #[.slice p m.length c]] w' fun e w2=>e=.returned (.agg #[.int .i64 fc,.int .i64 fp])/\Below w'.heap.size w' w2):=fun w' q=>F.out.2 w' (Ya (Ya u.out v.out) q)
 have W:Hid (∀ w',Below s.heap.size s w'->Calls prog 19 #[.agg #[.slice a m.length g],.agg #[.slice p m.length c]] w' fun e w2=>e=.returned (.bool true)/\Below w'.heap.size w' w2):=fun w' q=>by
  have h:=QdM (w:=w') (Ya ((Qb8 n).2 z.out) q) (Ya (Ya ((Qcp n).2 u.out) v.out) q) k.out;rw[Qs Z] at h
  exact h
 clear z F u k;refine Code.wp_mono ?_ (vc6 T P W I D _ _ Z (Xg (by kernel_rfl)) Z Z);rintro ee aa w9 ⟨rfl,vs,rfl,U,Q⟩;simp only[Zn,Act.put,List.setIfInBounds_toArray,List.set_cons_zero,List.set_cons_succ,U]
 have V:=Qa (v.out.trans (Q.mono v.out.size));go_wp2
 go_ret;exact⟨Z,V.out⟩
theorem QfA {m:List (Qf n)}(e:(Qht n).In w All m [.slice p m.length c]) :
 Calls prog 4 #[.agg #[.slice p m.length c]] w fun r w'=>r=.returned (.bool true)/\Below w.heap.size w w':=by
 by_cases d:(Qj m).1=0
 ·have f:m.length=(m.map (Qf.at 5)).length:=(XN _).symm;have b:(Qht 6).In w All (m.map (Qf.at 5)) [.slice p (m.map (Qf.at 5)).length c]:=by rw[<-f];exact Qkx (Qj9 d) e
  rw[f]
  exact Qdy (fc:=(QY (m.map (Qf.at 5))).1) (fp:=(QY (m.map (Qf.at 5))).2) b fun a=>⟨fun w' i g h=>Qcr h (Qah a) (fun _=>a),fun w' h=>Qfd h a⟩
 ·exact Qdy (fc:=(Qj m).1) (fp:=(Qj m).2) e fun a=>⟨fun w' i g h=>QcJ ((Qb8 n).2 h) (Qah a) d,fun w' h=>QdI ((Qcp n).2 h) (Qah a) d⟩
end Go.Proofs.YtlnkdhnibcenbaeGreat
