import Derived.Test.YtlnkdhnibcenbaeGreatP3
import Derived.Lib.SliceRun
set_option maxHeartbeats 16000000
set_option maxRecDepth 100000
namespace Go.Proofs.YtlnkdhnibcenbaeGreat
open Go.ChangeShapes Go.WideShapes Go.ChangeAt Go.RowKit _root_.Go.Proofs.Tryz
set_option linter.unusedSimpArgs false
set_option linter.unusedVariables false
variable {w w' w2 wc wr w6:World}{b n c rc ac B X m j k g i N rl al lo d cm f q cap s fm fi id fl R cR G fc fd bl o cL cA n1 lm funcs fe d1:Nat}{O Q A O':Nat→Prop}{p ag a ra aa pm pR pA na fp fq p1:Option Addr}{t e bt:TypeId}{l regs:List Int}{v v0:Value}{P:Program}{xc xa xb xk xn fr x:Int}{L:List Bool}{xs cs ds:List Value}{x0:Operand}
theorem XI:type_of% @Below.setCell:=@Below.setCell
def Zv (op:Int):Value:=match QG op with
 | some (a,b,c,k,n,rg,ar)=>.tuple #[.agg #[.bool a,.bool b,.bool c,.bool k,.bool n,.bool rg,.bool ar],.bool true]
 | none=>.tuple #[.agg #[.bool false,.bool false,.bool false,.bool false,.bool false,.bool false,.bool false],.bool false]
theorem Qgm (a:Int):a=1\/a=2\/a=3\/a=4\/a=5\/a=6\/a=7\/a=8\/a=9\/a=10\/a=11\/a=12\/a=13\/a=14\/(a≠1/\a≠2/\a≠3/\a≠4/\a≠5/\a≠6/\a≠7/\a≠8/\a≠9/\a≠10/\a≠11/\a≠12/\a≠13/\a≠14):=by omega
theorem QcC (a:Int) (w:World) :
 Calls prog 118 #[.int .i64 a] w fun e w'=>e=.returned (Zv a)/\Below w.heap.size w w':=by
 rcases Qgm a with rfl | rfl | rfl | rfl | rfl | rfl | rfl | rfl | rfl | rfl | rfl | rfl | rfl | rfl | ⟨p,l,i,n,j,h,k,m,o,f,g,d,c,b⟩
 ·rw[show Zv 1=.tuple #[.agg #[.bool false,.bool false,.bool false,.bool false,.bool true,.bool false,.bool false],.bool true] from Z]
  go_enter func118,ntmps118
  go_wp2_with fail
  exact Xy (v:=.tuple #[.agg #[.bool false,.bool false,.bool false,.bool false,.bool true,.bool false,.bool false],.bool true]) (by simp[results,results118,go_sem]) Z ⟨Z,by first | exact(Below.refl _ w).alloc Ze _ | (repeat (first | exact(Below.refl _ w).alloc Ze _ | refine XI ?_ (by simp) _))⟩
 ·rw[show Zv 2=.tuple #[.agg #[.bool true,.bool true,.bool false,.bool true,.bool false,.bool false,.bool false],.bool true] from Z]
  go_enter func118,ntmps118
  go_wp2_with fail
  exact Xy (v:=.tuple #[.agg #[.bool true,.bool true,.bool false,.bool true,.bool false,.bool false,.bool false],.bool true]) (by simp[results,results118,go_sem]) Z ⟨Z,by first | exact(Below.refl _ w).alloc Ze _ | (repeat (first | exact(Below.refl _ w).alloc Ze _ | refine XI ?_ (by simp) _))⟩
 ·rw[show Zv 3=.tuple #[.agg #[.bool false,.bool false,.bool false,.bool false,.bool false,.bool false,.bool false],.bool true] from Z]
  go_enter func118,ntmps118
  go_wp2_with fail
  exact Xy (v:=.tuple #[.agg #[.bool false,.bool false,.bool false,.bool false,.bool false,.bool false,.bool false],.bool true]) (by simp[results,results118,go_sem]) Z ⟨Z,by first | exact(Below.refl _ w).alloc Ze _ | (repeat (first | exact(Below.refl _ w).alloc Ze _ | refine XI ?_ (by simp) _))⟩
 ·rw[show Zv 4=.tuple #[.agg #[.bool true,.bool false,.bool false,.bool false,.bool false,.bool false,.bool false],.bool true] from Z]
  go_enter func118,ntmps118
  go_wp2_with fail
  exact Xy (v:=.tuple #[.agg #[.bool true,.bool false,.bool false,.bool false,.bool false,.bool false,.bool false],.bool true]) (by simp[results,results118,go_sem]) Z ⟨Z,by first | exact(Below.refl _ w).alloc Ze _ | (repeat (first | exact(Below.refl _ w).alloc Ze _ | refine XI ?_ (by simp) _))⟩
 ·rw[show Zv 5=.tuple #[.agg #[.bool true,.bool false,.bool false,.bool false,.bool false,.bool false,.bool true],.bool true] from Z]
  go_enter func118,ntmps118
  go_wp2_with fail
  exact Xy (v:=.tuple #[.agg #[.bool true,.bool false,.bool false,.bool false,.bool false,.bool false,.bool true],.bool true]) (by simp[results,results118,go_sem]) Z ⟨Z,by first | exact(Below.refl _ w).alloc Ze _ | (repeat (first | exact(Below.refl _ w).alloc Ze _ | refine XI ?_ (by simp) _))⟩
 ·rw[show Zv 6=.tuple #[.agg #[.bool true,.bool false,.bool false,.bool true,.bool false,.bool false,.bool false],.bool true] from Z]
  go_enter func118,ntmps118
  go_wp2_with fail
  exact Xy (v:=.tuple #[.agg #[.bool true,.bool false,.bool false,.bool true,.bool false,.bool false,.bool false],.bool true]) (by simp[results,results118,go_sem]) Z ⟨Z,by first | exact(Below.refl _ w).alloc Ze _ | (repeat (first | exact(Below.refl _ w).alloc Ze _ | refine XI ?_ (by simp) _))⟩
 ·rw[show Zv 7=.tuple #[.agg #[.bool true,.bool true,.bool false,.bool true,.bool false,.bool false,.bool false],.bool true] from Z]
  go_enter func118,ntmps118
  go_wp2_with fail
  exact Xy (v:=.tuple #[.agg #[.bool true,.bool true,.bool false,.bool true,.bool false,.bool false,.bool false],.bool true]) (by simp[results,results118,go_sem]) Z ⟨Z,by first | exact(Below.refl _ w).alloc Ze _ | (repeat (first | exact(Below.refl _ w).alloc Ze _ | refine XI ?_ (by simp) _))⟩
 ·rw[show Zv 8=.tuple #[.agg #[.bool true,.bool true,.bool false,.bool false,.bool false,.bool false,.bool false],.bool true] from Z]
  go_enter func118,ntmps118
  go_wp2_with fail
  exact Xy (v:=.tuple #[.agg #[.bool true,.bool true,.bool false,.bool false,.bool false,.bool false,.bool false],.bool true]) (by simp[results,results118,go_sem]) Z ⟨Z,by first | exact(Below.refl _ w).alloc Ze _ | (repeat (first | exact(Below.refl _ w).alloc Ze _ | refine XI ?_ (by simp) _))⟩
 ·rw[show Zv 9=.tuple #[.agg #[.bool true,.bool true,.bool false,.bool false,.bool false,.bool false,.bool false],.bool true] from Z]
  go_enter func118,ntmps118
  go_wp2_with fail
  exact Xy (v:=.tuple #[.agg #[.bool true,.bool true,.bool false,.bool false,.bool false,.bool false,.bool false],.bool true]) (by simp[results,results118,go_sem]) Z ⟨Z,by first | exact(Below.refl _ w).alloc Ze _ | (repeat (first | exact(Below.refl _ w).alloc Ze _ | refine XI ?_ (by simp) _))⟩
 ·rw[show Zv 10=.tuple #[.agg #[.bool true,.bool true,.bool true,.bool false,.bool false,.bool false,.bool false],.bool true] from Z]
  go_enter func118,ntmps118
  go_wp2_with fail
  exact Xy (v:=.tuple #[.agg #[.bool true,.bool true,.bool true,.bool false,.bool false,.bool false,.bool false],.bool true]) (by simp[results,results118,go_sem]) Z ⟨Z,by first | exact(Below.refl _ w).alloc Ze _ | (repeat (first | exact(Below.refl _ w).alloc Ze _ | refine XI ?_ (by simp) _))⟩
 ·rw[show Zv 11=.tuple #[.agg #[.bool true,.bool false,.bool false,.bool false,.bool false,.bool false,.bool false],.bool true] from Z]
  go_enter func118,ntmps118
  go_wp2_with fail
  exact Xy (v:=.tuple #[.agg #[.bool true,.bool false,.bool false,.bool false,.bool false,.bool false,.bool false],.bool true]) (by simp[results,results118,go_sem]) Z ⟨Z,by first | exact(Below.refl _ w).alloc Ze _ | (repeat (first | exact(Below.refl _ w).alloc Ze _ | refine XI ?_ (by simp) _))⟩
 ·rw[show Zv 12=.tuple #[.agg #[.bool false,.bool false,.bool false,.bool false,.bool false,.bool false,.bool false],.bool true] from Z]
  go_enter func118,ntmps118
  go_wp2_with fail
  exact Xy (v:=.tuple #[.agg #[.bool false,.bool false,.bool false,.bool false,.bool false,.bool false,.bool false],.bool true]) (by simp[results,results118,go_sem]) Z ⟨Z,by first | exact(Below.refl _ w).alloc Ze _ | (repeat (first | exact(Below.refl _ w).alloc Ze _ | refine XI ?_ (by simp) _))⟩
 ·rw[show Zv 13=.tuple #[.agg #[.bool true,.bool false,.bool false,.bool false,.bool false,.bool false,.bool false],.bool true] from Z]
  go_enter func118,ntmps118
  go_wp2_with fail
  exact Xy (v:=.tuple #[.agg #[.bool true,.bool false,.bool false,.bool false,.bool false,.bool false,.bool false],.bool true]) (by simp[results,results118,go_sem]) Z ⟨Z,by first | exact(Below.refl _ w).alloc Ze _ | (repeat (first | exact(Below.refl _ w).alloc Ze _ | refine XI ?_ (by simp) _))⟩
 ·rw[show Zv 14=.tuple #[.agg #[.bool false,.bool false,.bool false,.bool true,.bool false,.bool true,.bool true],.bool true] from Z]
  go_enter func118,ntmps118
  go_wp2_with fail
  exact Xy (v:=.tuple #[.agg #[.bool false,.bool false,.bool false,.bool true,.bool false,.bool true,.bool true],.bool true]) (by simp[results,results118,go_sem]) Z ⟨Z,by first | exact(Below.refl _ w).alloc Ze _ | (repeat (first | exact(Below.refl _ w).alloc Ze _ | refine XI ?_ (by simp) _))⟩
 ·rw[show Zv a=.tuple #[.agg #[.bool false,.bool false,.bool false,.bool false,.bool false,.bool false,.bool false],.bool false] by unfold Zv QG;simp[p,l,i,n,j,h,k,m,o,f,g,d,c,b]]
  have E:(a==1)=false:=by simpa using p
  have y:(a==2)=false:=by simpa using l
  have C:(a==3)=false:=by simpa using i
  have D:(a==4)=false:=by simpa using n
  have F:(a==5)=false:=by simpa using j
  have z:(a==6)=false:=by simpa using h
  have B:(a==7)=false:=by simpa using k
  have A:(a==8)=false:=by simpa using m
  have x:(a==9)=false:=by simpa using o
  have u:(a==10)=false:=by simpa using f
  have r:(a==11)=false:=by simpa using g
  have t:(a==12)=false:=by simpa using d
  have q:(a==13)=false:=by simpa using c
  have s:(a==14)=false:=by simpa using b
  clear p l i n j h k m o f g d c b;go_enter func118,ntmps118
  go_wp2_with fail
  exact Xy (v:=.tuple #[.agg #[.bool false,.bool false,.bool false,.bool false,.bool false,.bool false,.bool false],.bool false]) (by simp[results,results118,go_sem]) Z ⟨Z,by first | exact(Below.refl _ w).alloc Ze _ | (repeat (first | exact(Below.refl _ w).alloc Ze _ | refine XI ?_ (by simp) _))⟩
def QV (funcs:Nat) (op a b c k n:Int) (rl al:Nat):Int :=
 match QG op with
 | none=>3
 | some (fa,fb,fc,fk,fn,fr,fs) =>
   if (!fa&&a != 0)||(!fb&&b != 0)||(!fc&&c != 0)||(!fk&&k != 0)||(!fn&&n != 0)||(!fr&&decide (0<rl))||(!fs&&decide (0<al)) then 4
   else if op=2/\(k<1\/9<k) then 1
   else if op=5/\8<al then 2
   else if (op=6\/op=7)/\(k<0\/7<k) then 1
   else if op=14/\(k<0\/(funcs:Int)<=k) then 1
   else if op=14/\(6<rl\/8<al) then 2
   else 0
theorem QC.form_eq (d:Nat) (x:QC):x.form d=QV d x.op x.a x.b x.c x.k x.n x.regs.length x.args.length:=by
 unfold QC.form QC.formless QV
 cases QG x.op with
 | none=>rfl
 | some p=>obtain⟨a,b,c,k,n,r,s⟩:=p;rfl
def rangeC (x l m:Int):Int:=if x<l\/m<x then 1 else 0
def manyC (len:Nat) (m:Int):Int:=if m<len then 2 else 0
def handedC (r:Nat) (m:Int) (s:Nat):Int:=if manyC r m≠0 then manyC r m else manyC s 8
def QaT (a b c k n:Int) (rl al:Nat):Bool:=a==0&&b==0&&c==0&&k==0&&n==0&&(rl:Int)==0&&(al:Int)==0
def ZS (funcs:Nat) (op k:Int) (rl al:Nat):Int :=
 if op=2 then rangeC k 1 9 else if op=6\/op=7 then rangeC k 0 7 else if op=5 then manyC al 8
 else if op=14 then (if rangeC k 0 ((funcs:Int) - 1)=0 then handedC rl 6 al else rangeC k 0 ((funcs:Int) - 1)) else 0
theorem fb (f:Bool) (a:Int):(!f&&a != 0)=!((bif f then 0 else a)==0):=by cases f<;>simp[bne]
theorem fbn (f:Bool) (l:Nat):(!f&&decide (0<l))=!(((bif f then 0 else l:Nat):Int)==0):=by
 cases f
 ·by_cases h:l=0
  ·simp[h]
  ·have:0<l:=by omega
   simp[this,h]
 ·simp
theorem Qh6 (lm:Nat) (a k:Int) (f e:Nat):(if a=2/\(k<1\/9<k) then 1
 else if a=5/\8<e then 2
 else if (a=6\/a=7)/\(k<0\/7<k) then 1
 else if a=14/\(k<0\/(lm:Int)<=k) then 1
 else if a=14/\(6<f\/8<e) then 2
 else 0)=ZS lm a k f e:=by
 unfold ZS;by_cases d:a=2
 ·subst d;simp[rangeC]
 ·by_cases g:a=6\/a=7
  ·have c:¬ a=5:=by omega
   have b:¬ a=14:=by omega
   simp[d,c,g,b,rangeC]
  ·by_cases c:a=5
   ·subst c;simp[manyC];split<;>split<;>omega
   ·by_cases b:a=14
    ·subst b;simp[rangeC,handedC,manyC]
     repeat' split
     all_goals omega
    ·simp[d,c,g,b]
theorem QL {i a b c k n:Int}{h d fc g fn fr f:Bool}(e:QG i=some (h,d,fc,g,fn,fr,f)) :
 QV lm i a b c k n rl al=if QaT (bif h then 0 else a) (bif d then 0 else b) (bif fc then 0 else c) (bif g then 0 else k) (bif fn then 0 else n) (bif fr then 0 else rl) (bif f then 0 else al)=true then ZS lm i k rl al else 4:=by
 simp only[QV,e,Qh6]
 rw[fb,fb,fb,fb,fb,fbn,fbn]
 unfold QaT;generalize ((bif h then 0 else a)==0)=l;generalize ((bif d then 0 else b)==0)=o;generalize ((bif fc then 0 else c)==0)=m;generalize ((bif g then 0 else k)==0)=q;generalize ((bif fn then 0 else n)==0)=p;generalize (((bif fr then 0 else rl:Nat):Int)==0)=j;generalize (((bif f then 0 else al:Nat):Int)==0)=r
 cases l<;>cases o<;>cases m<;>cases q<;>cases p<;>cases j<;>cases r<;>rfl
theorem QfH (h:f<1000000):Rd prog 97 #[.int .i64 (f:Int)] w (.int .i64 (10000*(f:Int)+9999)):=by
 unfold Rd;skip
 skip
 go_enter func97,ntmps97
 go_wp2
 go_ret;refine⟨?_,Zr⟩
 show Ending.returned (.int .i64 ((f:Int)*10000+9999))=_;congr 2
 omega
theorem QeL (h:f<1000000/\b<1000000):Rd prog 133 #[.int .i64 (f:Int),.int .i64 (b:Int)] w (.int .i64 (10000*(f:Int)+100*(b:Int)+90)):=by
 unfold Rd;have a:=h.1;have c:=h.2;skip
 go_enter func133,ntmps133
 go_wp2
 go_ret;refine⟨?_,Zr⟩
 show Ending.returned (.int .i64 ((f:Int)*10000+(b:Int)*100+90))=_;congr 2
 omega
theorem QdX (h:f<1000000/\b<1000000):Rd prog 78 #[.int .i64 (f:Int),.int .i64 (b:Int)] w (.int .i64 (10000*(f:Int)+100*(b:Int)+91)):=by
 unfold Rd;have a:=h.1;have c:=h.2;skip
 go_enter func78,ntmps78
 go_wp2
 go_ret;refine⟨?_,Zr⟩
 show Ending.returned (.int .i64 ((f:Int)*10000+(b:Int)*100+91))=_;congr 2
 omega
theorem QdW (h:f<1000000/\b<1000000/\i<1000000):Rd prog 77 #[.int .i64 (f:Int),.int .i64 (b:Int),.int .i64 (i:Int)] w (.int .i64 (10000*(f:Int)+100*(b:Int)+(i:Int))):=by
 unfold Rd;have a:=h.1;have e:=h.2;have c:=h.2.1;have d:=h.2.2;go_enter func77,ntmps77
 go_wp2
 go_ret;refine⟨?_,Zr⟩
 show Ending.returned (.int .i64 ((f:Int)*10000+(b:Int)*100+(i:Int)))=_;congr 2
 omega
theorem Z8 {l m:Int}:Rd prog 105 #[.int .i64 x,.int .i64 l,.int .i64 m] w (.int .i64 (rangeC x l m)):=by
 unfold Rd rangeC;by_cases a:x<l
 ·rw[Xs (.inl a)]
  go_enter func105,ntmps105
  go_wp2
  go_ret;exact⟨Z,Zr⟩
 ·by_cases b:m<x
  ·rw[Xs (.inr b)]
   go_enter func105,ntmps105
   go_wp2
   go_ret;exact⟨Z,Zr⟩
  ·rw[Xr (by omega)]
   go_enter func105,ntmps105
   go_wp2
   go_ret;exact⟨Z,Zr⟩
theorem Qbr {a:Nat}{m:Int}:Rd prog 106 #[.slice p a c,.int .i64 m] w (.int .i64 (manyC a m)):=by
 unfold Rd manyC;by_cases b:m<a
 ·rw[Xs b]
  go_enter func106,ntmps106
  go_wp2
  go_ret;exact⟨Z,Zr⟩
 ·rw[Xr b]
  go_enter func106,ntmps106
  go_wp2
  go_ret;exact⟨Z,Zr⟩
theorem QbB {q:Option Addr}{r:Nat}{m:Int}:Rd prog 107 #[.slice p r c,.int .i64 m,.slice q s d] w (.int .i64 (handedC r m s)):=by
 have b:Hid (∀ a:World,Calls prog 106 #[.slice p r c,.int .i64 m] a fun e j=>e=.returned (.int .i64 (manyC r m))/\Below a.heap.size a j):=fun a=>Qbr;have k:Hid (∀ a:World,Calls prog 106 #[.slice q s d,.int .i64 8] a fun e j=>e=.returned (.int .i64 (manyC s 8))/\Below a.heap.size a j):=fun a=>Qbr;unfold Rd handedC;by_cases h:manyC r m=0
 ·rw[Xr (by simpa using h)]
  rw[h] at b
  go_enter func107,ntmps107
  go_wp2_with fail
  refine(b.out w).mono ?_
  rintro e i ⟨rfl,f⟩;have g:Hid (Below w.heap.size w i):=f;clear f b;go_wp2_with fail
  refine(k.out i).mono ?_
  rintro e n ⟨rfl,l⟩;have t:Hid (Below w.heap.size w n):=g.out.trans (l.mono g.out.size);clear l k g;go_wp2
  go_ret;exact⟨Z,t.out⟩
 ·rw[Xs h]
  have o:(manyC r m==0)=false:=by simpa using h
  generalize manyC r m=v at b o h |-;go_enter func107,ntmps107
  go_wp2_with fail
  refine(b.out w).mono ?_
  rintro e i ⟨rfl,f⟩;have g:Hid (Below w.heap.size w i):=f;clear f b k;go_wp2
  go_ret;exact⟨Z,g.out⟩
theorem Q0 {a:Int}:Rd prog 62 #[.agg #[.int .i64 a,.int .i64 xa,.int .i64 xb,.int .i64 xc,.int .i64 xk,.int .i64 xn,.slice ra rl rc,.slice aa al ac]] w (.bool (QaT xa xb xc xk xn rl al)):=by
 unfold Rd
 ·by_cases b:xa=0
  ·subst b
   ·by_cases d:xb=0
    ·subst d
     ·by_cases e:xc=0
      ·subst e
       ·by_cases g:xk=0
        ·subst g
         ·by_cases f:xn=0
          ·subst f
           ·by_cases c:rl=0
            ·subst c
             ·by_cases h:al=0
              ·subst h
               ·rw[show QaT 0 0 0 0 0 0 0=true from Z]
                go_enter func62,ntmps62
                go_wp2
                go_ret;exact⟨Z,QU _ _⟩
              ·have o:((al:Int)==0)=false:=by simpa using h
               rw[show QaT 0 0 0 0 0 0 al=false by simp[QaT,o]]
               go_enter func62,ntmps62
               go_wp2
               go_ret;exact⟨Z,QU _ _⟩
            ·have m:((rl:Int)==0)=false:=by simpa using c
             rw[show QaT 0 0 0 0 0 rl al=false by simp[QaT,m]]
             go_enter func62,ntmps62
             go_wp2
             go_ret;exact⟨Z,QU _ _⟩
          ·have n:(xn==0)=false:=by simpa using f
           rw[show QaT 0 0 0 0 xn rl al=false by simp[QaT,n]]
           go_enter func62,ntmps62
           go_wp2
           go_ret;exact⟨Z,QU _ _⟩
        ·have j:(xk==0)=false:=by simpa using g
         rw[show QaT 0 0 0 xk xn rl al=false by simp[QaT,j]]
         go_enter func62,ntmps62
         go_wp2
         go_ret;exact⟨Z,QU _ _⟩
      ·have k:(xc==0)=false:=by simpa using e
       rw[show QaT 0 0 xc xk xn rl al=false by simp[QaT,k]]
       go_enter func62,ntmps62
       go_wp2
       go_ret;exact⟨Z,QU _ _⟩
    ·have i:(xb==0)=false:=by simpa using d
     rw[show QaT 0 xb xc xk xn rl al=false by simp[QaT,i]]
     go_enter func62,ntmps62
     go_wp2
     go_ret;exact⟨Z,QU _ _⟩
  ·have l:(xa==0)=false:=by simpa using b
   rw[show QaT xa xb xc xk xn rl al=false by simp[QaT,l]]
   go_enter func62,ntmps62
   go_wp2
   go_ret;exact⟨Z,QU _ _⟩
theorem wf1 :Rd prog 61 #[.agg #[.int .i64 1,.int .i64 xa,.int .i64 xb,.int .i64 xc,.int .i64 xk,.int .i64 xn,.slice ra rl rc,.slice aa al ac]] w (.tuple #[.agg #[.int .i64 1,.int .i64 xa,.int .i64 xb,.int .i64 xc,.int .i64 xk,.int .i64 0,.slice ra rl rc,.slice aa al ac],.bool true]):=by
 unfold Rd;go_enter func61,ntmps61
 go_wp2
 exact Xy (v:=.tuple #[.agg #[.int .i64 1,.int .i64 xa,.int .i64 xb,.int .i64 xc,.int .i64 xk,.int .i64 0,.slice ra rl rc,.slice aa al ac],.bool true]) (by simp[results,results61,go_sem]) Z ⟨Z,QaS _ _ _⟩
theorem wf2 :Rd prog 61 #[.agg #[.int .i64 2,.int .i64 xa,.int .i64 xb,.int .i64 xc,.int .i64 xk,.int .i64 xn,.slice ra rl rc,.slice aa al ac]] w (.tuple #[.agg #[.int .i64 2,.int .i64 0,.int .i64 0,.int .i64 xc,.int .i64 0,.int .i64 xn,.slice ra rl rc,.slice aa al ac],.bool true]):=by
 unfold Rd;go_enter func61,ntmps61
 go_wp2
 exact Xy (v:=.tuple #[.agg #[.int .i64 2,.int .i64 0,.int .i64 0,.int .i64 xc,.int .i64 0,.int .i64 xn,.slice ra rl rc,.slice aa al ac],.bool true]) (by simp[results,results61,go_sem]) Z ⟨Z,QaS _ _ _⟩
theorem wf3 :Rd prog 61 #[.agg #[.int .i64 3,.int .i64 xa,.int .i64 xb,.int .i64 xc,.int .i64 xk,.int .i64 xn,.slice ra rl rc,.slice aa al ac]] w (.tuple #[.agg #[.int .i64 3,.int .i64 xa,.int .i64 xb,.int .i64 xc,.int .i64 xk,.int .i64 xn,.slice ra rl rc,.slice aa al ac],.bool true]):=by
 unfold Rd;go_enter func61,ntmps61
 go_wp2
 exact Xy (v:=.tuple #[.agg #[.int .i64 3,.int .i64 xa,.int .i64 xb,.int .i64 xc,.int .i64 xk,.int .i64 xn,.slice ra rl rc,.slice aa al ac],.bool true]) (by simp[results,results61,go_sem]) Z ⟨Z,QaS _ _ _⟩
theorem wf4 :Rd prog 61 #[.agg #[.int .i64 4,.int .i64 xa,.int .i64 xb,.int .i64 xc,.int .i64 xk,.int .i64 xn,.slice ra rl rc,.slice aa al ac]] w (.tuple #[.agg #[.int .i64 4,.int .i64 0,.int .i64 xb,.int .i64 xc,.int .i64 xk,.int .i64 xn,.slice ra rl rc,.slice aa al ac],.bool true]):=by
 unfold Rd;go_enter func61,ntmps61
 go_wp2
 exact Xy (v:=.tuple #[.agg #[.int .i64 4,.int .i64 0,.int .i64 xb,.int .i64 xc,.int .i64 xk,.int .i64 xn,.slice ra rl rc,.slice aa al ac],.bool true]) (by simp[results,results61,go_sem]) Z ⟨Z,QaS _ _ _⟩
theorem wf5 :Rd prog 61 #[.agg #[.int .i64 5,.int .i64 xa,.int .i64 xb,.int .i64 xc,.int .i64 xk,.int .i64 xn,.slice ra rl rc,.slice aa al ac]] w (.tuple #[.agg #[.int .i64 5,.int .i64 0,.int .i64 xb,.int .i64 xc,.int .i64 xk,.int .i64 xn,.slice ra rl rc,.slice none 0 0],.bool true]):=by
 unfold Rd;go_enter func61,ntmps61
 go_wp2
 exact Xy (v:=.tuple #[.agg #[.int .i64 5,.int .i64 0,.int .i64 xb,.int .i64 xc,.int .i64 xk,.int .i64 xn,.slice ra rl rc,.slice none 0 0],.bool true]) (by simp[results,results61,go_sem]) Z ⟨Z,QaS _ _ _⟩
theorem wf6 :Rd prog 61 #[.agg #[.int .i64 6,.int .i64 xa,.int .i64 xb,.int .i64 xc,.int .i64 xk,.int .i64 xn,.slice ra rl rc,.slice aa al ac]] w (.tuple #[.agg #[.int .i64 6,.int .i64 0,.int .i64 xb,.int .i64 xc,.int .i64 0,.int .i64 xn,.slice ra rl rc,.slice aa al ac],.bool true]):=by
 unfold Rd;go_enter func61,ntmps61
 go_wp2
 exact Xy (v:=.tuple #[.agg #[.int .i64 6,.int .i64 0,.int .i64 xb,.int .i64 xc,.int .i64 0,.int .i64 xn,.slice ra rl rc,.slice aa al ac],.bool true]) (by simp[results,results61,go_sem]) Z ⟨Z,QaS _ _ _⟩
theorem wf7 :Rd prog 61 #[.agg #[.int .i64 7,.int .i64 xa,.int .i64 xb,.int .i64 xc,.int .i64 xk,.int .i64 xn,.slice ra rl rc,.slice aa al ac]] w (.tuple #[.agg #[.int .i64 7,.int .i64 0,.int .i64 0,.int .i64 xc,.int .i64 0,.int .i64 xn,.slice ra rl rc,.slice aa al ac],.bool true]):=by
 unfold Rd;go_enter func61,ntmps61
 go_wp2
 exact Xy (v:=.tuple #[.agg #[.int .i64 7,.int .i64 0,.int .i64 0,.int .i64 xc,.int .i64 0,.int .i64 xn,.slice ra rl rc,.slice aa al ac],.bool true]) (by simp[results,results61,go_sem]) Z ⟨Z,QaS _ _ _⟩
theorem wf8 :Rd prog 61 #[.agg #[.int .i64 8,.int .i64 xa,.int .i64 xb,.int .i64 xc,.int .i64 xk,.int .i64 xn,.slice ra rl rc,.slice aa al ac]] w (.tuple #[.agg #[.int .i64 8,.int .i64 0,.int .i64 0,.int .i64 xc,.int .i64 xk,.int .i64 xn,.slice ra rl rc,.slice aa al ac],.bool true]):=by
 unfold Rd;go_enter func61,ntmps61
 go_wp2
 exact Xy (v:=.tuple #[.agg #[.int .i64 8,.int .i64 0,.int .i64 0,.int .i64 xc,.int .i64 xk,.int .i64 xn,.slice ra rl rc,.slice aa al ac],.bool true]) (by simp[results,results61,go_sem]) Z ⟨Z,QaS _ _ _⟩
theorem wf9 :Rd prog 61 #[.agg #[.int .i64 9,.int .i64 xa,.int .i64 xb,.int .i64 xc,.int .i64 xk,.int .i64 xn,.slice ra rl rc,.slice aa al ac]] w (.tuple #[.agg #[.int .i64 9,.int .i64 0,.int .i64 0,.int .i64 xc,.int .i64 xk,.int .i64 xn,.slice ra rl rc,.slice aa al ac],.bool true]):=by
 unfold Rd;go_enter func61,ntmps61
 go_wp2
 exact Xy (v:=.tuple #[.agg #[.int .i64 9,.int .i64 0,.int .i64 0,.int .i64 xc,.int .i64 xk,.int .i64 xn,.slice ra rl rc,.slice aa al ac],.bool true]) (by simp[results,results61,go_sem]) Z ⟨Z,QaS _ _ _⟩
theorem wf10 :Rd prog 61 #[.agg #[.int .i64 10,.int .i64 xa,.int .i64 xb,.int .i64 xc,.int .i64 xk,.int .i64 xn,.slice ra rl rc,.slice aa al ac]] w (.tuple #[.agg #[.int .i64 10,.int .i64 0,.int .i64 0,.int .i64 0,.int .i64 xk,.int .i64 xn,.slice ra rl rc,.slice aa al ac],.bool true]):=by
 unfold Rd;go_enter func61,ntmps61
 go_wp2
 exact Xy (v:=.tuple #[.agg #[.int .i64 10,.int .i64 0,.int .i64 0,.int .i64 0,.int .i64 xk,.int .i64 xn,.slice ra rl rc,.slice aa al ac],.bool true]) (by simp[results,results61,go_sem]) Z ⟨Z,QaS _ _ _⟩
theorem wf11 :Rd prog 61 #[.agg #[.int .i64 11,.int .i64 xa,.int .i64 xb,.int .i64 xc,.int .i64 xk,.int .i64 xn,.slice ra rl rc,.slice aa al ac]] w (.tuple #[.agg #[.int .i64 11,.int .i64 0,.int .i64 xb,.int .i64 xc,.int .i64 xk,.int .i64 xn,.slice ra rl rc,.slice aa al ac],.bool true]):=by
 unfold Rd;go_enter func61,ntmps61
 go_wp2
 exact Xy (v:=.tuple #[.agg #[.int .i64 11,.int .i64 0,.int .i64 xb,.int .i64 xc,.int .i64 xk,.int .i64 xn,.slice ra rl rc,.slice aa al ac],.bool true]) (by simp[results,results61,go_sem]) Z ⟨Z,QaS _ _ _⟩
theorem wf12 :Rd prog 61 #[.agg #[.int .i64 12,.int .i64 xa,.int .i64 xb,.int .i64 xc,.int .i64 xk,.int .i64 xn,.slice ra rl rc,.slice aa al ac]] w (.tuple #[.agg #[.int .i64 12,.int .i64 xa,.int .i64 xb,.int .i64 xc,.int .i64 xk,.int .i64 xn,.slice ra rl rc,.slice aa al ac],.bool true]):=by
 unfold Rd;go_enter func61,ntmps61
 go_wp2
 exact Xy (v:=.tuple #[.agg #[.int .i64 12,.int .i64 xa,.int .i64 xb,.int .i64 xc,.int .i64 xk,.int .i64 xn,.slice ra rl rc,.slice aa al ac],.bool true]) (by simp[results,results61,go_sem]) Z ⟨Z,QaS _ _ _⟩
theorem wf13 :Rd prog 61 #[.agg #[.int .i64 13,.int .i64 xa,.int .i64 xb,.int .i64 xc,.int .i64 xk,.int .i64 xn,.slice ra rl rc,.slice aa al ac]] w (.tuple #[.agg #[.int .i64 13,.int .i64 0,.int .i64 xb,.int .i64 xc,.int .i64 xk,.int .i64 xn,.slice ra rl rc,.slice aa al ac],.bool true]):=by
 unfold Rd;go_enter func61,ntmps61
 go_wp2
 exact Xy (v:=.tuple #[.agg #[.int .i64 13,.int .i64 0,.int .i64 xb,.int .i64 xc,.int .i64 xk,.int .i64 xn,.slice ra rl rc,.slice aa al ac],.bool true]) (by simp[results,results61,go_sem]) Z ⟨Z,QaS _ _ _⟩
theorem wf14 :Rd prog 61 #[.agg #[.int .i64 14,.int .i64 xa,.int .i64 xb,.int .i64 xc,.int .i64 xk,.int .i64 xn,.slice ra rl rc,.slice aa al ac]] w (.tuple #[.agg #[.int .i64 14,.int .i64 xa,.int .i64 xb,.int .i64 xc,.int .i64 0,.int .i64 xn,.slice none 0 0,.slice none 0 0],.bool true]):=by
 unfold Rd;go_enter func61,ntmps61
 go_wp2
 exact Xy (v:=.tuple #[.agg #[.int .i64 14,.int .i64 xa,.int .i64 xb,.int .i64 xc,.int .i64 0,.int .i64 xn,.slice none 0 0,.slice none 0 0],.bool true]) (by simp[results,results61,go_sem]) Z ⟨Z,QaS _ _ _⟩
theorem QlP {a:Int}(h:a≠1/\a≠2/\a≠3/\a≠4/\a≠5/\a≠6/\a≠7/\a≠8/\a≠9/\a≠10/\a≠11/\a≠12/\a≠13/\a≠14):Rd prog 61 #[.agg #[.int .i64 a,.int .i64 xa,.int .i64 xb,.int .i64 xc,.int .i64 xk,.int .i64 xn,.slice ra rl rc,.slice aa al ac]] w (.tuple #[.agg #[.int .i64 a,.int .i64 xa,.int .i64 xb,.int .i64 xc,.int .i64 xk,.int .i64 xn,.slice ra rl rc,.slice aa al ac],.bool false]):=by
 obtain⟨s,l,r,q,o,u,m,t,p,b,f,c,d,e⟩:=h
 have E:(a==1)=false:=by simpa using s
 have y:(a==2)=false:=by simpa using l
 have C:(a==3)=false:=by simpa using r
 have D:(a==4)=false:=by simpa using q
 have F:(a==5)=false:=by simpa using o
 have z:(a==6)=false:=by simpa using u
 have B:(a==7)=false:=by simpa using m
 have A:(a==8)=false:=by simpa using t
 have x:(a==9)=false:=by simpa using p
 have n:(a==10)=false:=by simpa using b
 have i:(a==11)=false:=by simpa using f
 have k:(a==12)=false:=by simpa using c
 have g:(a==13)=false:=by simpa using d
 have j:(a==14)=false:=by simpa using e
 unfold Rd;go_enter func61,ntmps61
 go_wp2
 exact Xy (v:=.tuple #[.agg #[.int .i64 a,.int .i64 xa,.int .i64 xb,.int .i64 xc,.int .i64 xk,.int .i64 xn,.slice ra rl rc,.slice aa al ac],.bool false]) (by simp[results,results61,go_sem]) Z ⟨Z,QaS _ _ _⟩
theorem QjY {g:Option Addr}:Rd prog 63 #[.agg #[.slice g lm cm],.agg #[.int .i64 2,.int .i64 xa,.int .i64 xb,.int .i64 xc,.int .i64 xk,.int .i64 xn,.slice ra rl rc,.slice aa al ac]] w (.int .i64 (ZS lm 2 xk rl al)):=by
 have C:Hid (∀ a:World,Calls prog 105 #[.int .i64 xk,.int .i64 1,.int .i64 9] a fun e d=>e=.returned (.int .i64 (rangeC xk 1 9))/\Below a.heap.size a d):=fun a=>Z8;rw[show ZS lm 2 xk rl al=rangeC xk 1 9 from Z]
 generalize rangeC xk 1 9=v at C |-;unfold Rd;go_enter func63,ntmps63
 go_wp2_with fail
 refine(C.out _).mono ?_
 rintro e c ⟨rfl,b⟩;have f:Hid (Below w.heap.size w c):=(QaS _ _ _).trans (b.mono (QaS w _ _).size);clear b C;go_wp2
 go_ret;exact⟨Z,f.out⟩
theorem Qkh {g:Option Addr}:Rd prog 63 #[.agg #[.slice g lm cm],.agg #[.int .i64 6,.int .i64 xa,.int .i64 xb,.int .i64 xc,.int .i64 xk,.int .i64 xn,.slice ra rl rc,.slice aa al ac]] w (.int .i64 (ZS lm 6 xk rl al)):=by
 have C:Hid (∀ a:World,Calls prog 105 #[.int .i64 xk,.int .i64 0,.int .i64 7] a fun e d=>e=.returned (.int .i64 (rangeC xk 0 7))/\Below a.heap.size a d):=fun a=>Z8;rw[show ZS lm 6 xk rl al=rangeC xk 0 7 from Z]
 generalize rangeC xk 0 7=v at C |-;unfold Rd;go_enter func63,ntmps63
 go_wp2_with fail
 refine(C.out _).mono ?_
 rintro e c ⟨rfl,b⟩;have f:Hid (Below w.heap.size w c):=(QaS _ _ _).trans (b.mono (QaS w _ _).size);clear b C;go_wp2
 go_ret;exact⟨Z,f.out⟩
theorem Qkr {g:Option Addr}:Rd prog 63 #[.agg #[.slice g lm cm],.agg #[.int .i64 7,.int .i64 xa,.int .i64 xb,.int .i64 xc,.int .i64 xk,.int .i64 xn,.slice ra rl rc,.slice aa al ac]] w (.int .i64 (ZS lm 7 xk rl al)):=by
 have C:Hid (∀ a:World,Calls prog 105 #[.int .i64 xk,.int .i64 0,.int .i64 7] a fun e d=>e=.returned (.int .i64 (rangeC xk 0 7))/\Below a.heap.size a d):=fun a=>Z8;rw[show ZS lm 7 xk rl al=rangeC xk 0 7 from Z]
 generalize rangeC xk 0 7=v at C |-;unfold Rd;go_enter func63,ntmps63
 go_wp2_with fail
 refine(C.out _).mono ?_
 rintro e c ⟨rfl,b⟩;have f:Hid (Below w.heap.size w c):=(QaS _ _ _).trans (b.mono (QaS w _ _).size);clear b C;go_wp2
 go_ret;exact⟨Z,f.out⟩
theorem Qkv {g:Option Addr}:Rd prog 63 #[.agg #[.slice g lm cm],.agg #[.int .i64 5,.int .i64 xa,.int .i64 xb,.int .i64 xc,.int .i64 xk,.int .i64 xn,.slice ra rl rc,.slice aa al ac]] w (.int .i64 (ZS lm 5 xk rl al)):=by
 have C:Hid (∀ a:World,Calls prog 106 #[.slice aa al ac,.int .i64 8] a fun e d=>e=.returned (.int .i64 (manyC al 8))/\Below a.heap.size a d):=fun a=>Qbr;rw[show ZS lm 5 xk rl al=manyC al 8 from Z]
 generalize manyC al 8=v at C |-;unfold Rd;go_enter func63,ntmps63
 go_wp2_with fail
 refine(C.out _).mono ?_
 rintro e c ⟨rfl,b⟩;have f:Hid (Below w.heap.size w c):=(QaS _ _ _).trans (b.mono (QaS w _ _).size);clear b C;go_wp2
 go_ret;exact⟨Z,f.out⟩
theorem QjI {f:Option Addr}(q:lm<2305843009213693952):Rd prog 63 #[.agg #[.slice f lm cm],.agg #[.int .i64 14,.int .i64 xa,.int .i64 xb,.int .i64 xc,.int .i64 xk,.int .i64 xn,.slice ra rl rc,.slice aa al ac]] w (.int .i64 (ZS lm 14 xk rl al)):=by
 have C:Hid (∀ a:World,Calls prog 105 #[.int .i64 xk,.int .i64 0,.int .i64 ((lm:Int) - 1)] a fun e i=>e=.returned (.int .i64 (rangeC xk 0 ((lm:Int) - 1)))/\Below a.heap.size a i):=fun a=>Z8;have h:Hid (∀ a:World,Calls prog 107 #[.slice ra rl rc,.int .i64 6,.slice aa al ac] a fun e i=>e=.returned (.int .i64 (handedC rl 6 al))/\Below a.heap.size a i):=fun a=>QbB;rw[show ZS lm 14 xk rl al=if rangeC xk 0 ((lm:Int) - 1)=0 then handedC rl 6 al else rangeC xk 0 ((lm:Int) - 1) from Z]
 generalize rangeC xk 0 ((lm:Int) - 1)=v at C |-;generalize handedC rl 6 al=u at h |-;have d:Blk ((w.alloc (.cells #[.slice f lm cm] 24)).alloc (.cells #[.int .i64 14,.int .i64 xa,.int .i64 xb,.int .i64 xc,.int .i64 xk,.int .i64 xn,.slice ra rl rc,.slice aa al ac] 46)) (w.heap.size+1) #[.int .i64 14,.int .i64 xa,.int .i64 xb,.int .i64 xc,.int .i64 xk,.int .i64 xn,.slice ra rl rc,.slice aa al ac] 46:=Blk.new2 _ _ _ _;have b:Hid (Below w.heap.size w ((w.alloc (.cells #[.slice f lm cm] 24)).alloc (.cells #[.int .i64 14,.int .i64 xa,.int .i64 xb,.int .i64 xc,.int .i64 xk,.int .i64 xn,.slice ra rl rc,.slice aa al ac] 46))):=QaS _ _ _;unfold Rd;by_cases l:v=0
 ·subst l;rw[Xs Z]
  go_enter func63,ntmps63
  go_wp2_with fail
  generalize ((w.alloc (.cells #[.slice f lm cm] 24)).alloc (.cells #[.int .i64 14,.int .i64 xa,.int .i64 xb,.int .i64 xc,.int .i64 xk,.int .i64 xn,.slice ra rl rc,.slice aa al ac] 46))=p at d b |-;refine(C.out _).mono ?_
  rintro e j ⟨rfl,c⟩;have k:=(c.block _ (XC d)).trans d;have g:Hid (Below w.heap.size w j):=b.out.trans (c.mono b.out.size);have t:=Qb k 6 _ Z;have s:=Qb k 7 _ Z;clear c C d b k;go_wp2_with fail
  refine(h.out _).mono ?_
  rintro e r ⟨rfl,m⟩;have n:Hid (Below w.heap.size w r):=g.out.trans (m.mono g.out.size);clear m h g;go_wp2
  go_ret;exact⟨Z,n.out⟩
 ·rw[Xr l]
  have o:(v==0)=false:=by simpa using l
  go_enter func63,ntmps63
  go_wp2_with fail
  generalize ((w.alloc (.cells #[.slice f lm cm] 24)).alloc (.cells #[.int .i64 14,.int .i64 xa,.int .i64 xb,.int .i64 xc,.int .i64 xk,.int .i64 xn,.slice ra rl rc,.slice aa al ac] 46))=p at d b |-;refine(C.out _).mono ?_
  rintro e j ⟨rfl,c⟩;have g:Hid (Below w.heap.size w j):=b.out.trans (c.mono b.out.size);clear c C h d b;go_wp2
  go_ret;exact⟨Z,g.out⟩
theorem Qaf {a:Int}{i:Option Addr}(h:a≠2/\a≠6/\a≠7/\a≠5/\a≠14):Rd prog 63 #[.agg #[.slice i lm cm],.agg #[.int .i64 a,.int .i64 xa,.int .i64 xb,.int .i64 xc,.int .i64 xk,.int .i64 xn,.slice ra rl rc,.slice aa al ac]] w (.int .i64 (ZS lm a xk rl al)):=by
 obtain⟨d,f,e,c,b⟩:=h
 rw[show ZS lm a xk rl al=0 by simp[ZS,d,f,e,c,b]]
 have k:(a==2)=false:=by simpa using d
 have m:(a==6)=false:=by simpa using f
 have j:(a==7)=false:=by simpa using e
 have l:(a==5)=false:=by simpa using c
 have g:(a==14)=false:=by simpa using b
 unfold Rd;go_enter func63,ntmps63
 go_wp2
 go_ret;exact⟨Z,QaS _ _ _⟩
theorem ZC {a:Int}{p l o q m:Int}{g c:Option Addr}{i k h f:Nat}{n:Option Addr}{ok bare:Bool}{v:Int}
 (C:Hid (∀ wx:World,Calls prog 61 #[.agg #[.int .i64 a,.int .i64 xa,.int .i64 xb,.int .i64 xc,.int .i64 xk,.int .i64 xn,.slice ra rl rc,.slice aa al ac]] wx fun e w'=>e=.returned (.tuple #[.agg #[.int .i64 a,.int .i64 p,.int .i64 l,.int .i64 o,.int .i64 q,.int .i64 m,.slice g i k,.slice c h f],.bool ok])/\Below wx.heap.size wx w'))
 (B:Hid (∀ wx:World,Calls prog 62 #[.agg #[.int .i64 a,.int .i64 p,.int .i64 l,.int .i64 o,.int .i64 q,.int .i64 m,.slice g i k,.slice c h f]] wx fun e w'=>e=.returned (.bool bare)/\Below wx.heap.size wx w'))
 (A:Hid (∀ wx:World,Calls prog 63 #[.agg #[.slice n lm cm],.agg #[.int .i64 a,.int .i64 xa,.int .i64 xb,.int .i64 xc,.int .i64 xk,.int .i64 xn,.slice ra rl rc,.slice aa al ac]] wx fun e w'=>e=.returned (.int .i64 v)/\Below wx.heap.size wx w')) :
 Rd prog 32 #[.agg #[.slice n lm cm],.agg #[.int .i64 a,.int .i64 xa,.int .i64 xb,.int .i64 xc,.int .i64 xk,.int .i64 xn,.slice ra rl rc,.slice aa al ac]] w (.int .i64 (if ok=false then 3 else if bare=true then v else 4)):=by
 have j:Blk ((w.alloc (.cells #[.slice n lm cm] 24)).alloc (.cells #[.int .i64 a,.int .i64 xa,.int .i64 xb,.int .i64 xc,.int .i64 xk,.int .i64 xn,.slice ra rl rc,.slice aa al ac] 46)) w.heap.size #[.slice n lm cm] 24:=Blk.new1 _ _ _ _ _;have b:Blk ((w.alloc (.cells #[.slice n lm cm] 24)).alloc (.cells #[.int .i64 a,.int .i64 xa,.int .i64 xb,.int .i64 xc,.int .i64 xk,.int .i64 xn,.slice ra rl rc,.slice aa al ac] 46)) (w.heap.size+1) #[.int .i64 a,.int .i64 xa,.int .i64 xb,.int .i64 xc,.int .i64 xk,.int .i64 xn,.slice ra rl rc,.slice aa al ac] 46:=Blk.new2 _ _ _ _;have x:Hid (Below w.heap.size w ((w.alloc (.cells #[.slice n lm cm] 24)).alloc (.cells #[.int .i64 a,.int .i64 xa,.int .i64 xb,.int .i64 xc,.int .i64 xk,.int .i64 xn,.slice ra rl rc,.slice aa al ac] 46))):=QaS _ _ _;unfold Rd;go_enter func32,ntmps32
 go_wp2_with fail
 generalize ((w.alloc (.cells #[.slice n lm cm] 24)).alloc (.cells #[.int .i64 a,.int .i64 xa,.int .i64 xb,.int .i64 xc,.int .i64 xk,.int .i64 xn,.slice ra rl rc,.slice aa al ac] 46))=N at j b x |-;refine(C.out _).mono ?_
 rintro e s ⟨rfl,y⟩;replace j:=(y.block _ (XC j)).trans j;replace b:=(y.block _ (XC b)).trans b;have t:Hid (Below w.heap.size w s):=x.out.trans (y.mono x.out.size);clear y x C
 cases ok with
 | false =>
   have r:Hid (Below w.heap.size w (s.alloc (.cells #[.int .i64 a,.int .i64 p,.int .i64 l,.int .i64 o,.int .i64 q,.int .i64 m,.slice g i k,.slice c h f] 46))):=t.out.trans ((QU _ _).mono t.out.size);clear B A j b t;go_wp2
   go_ret;exact⟨Z,r.out⟩
 | true =>
   replace j:=((QU s (.cells #[.int .i64 a,.int .i64 p,.int .i64 l,.int .i64 o,.int .i64 q,.int .i64 m,.slice g i k,.slice c h f] 46)).block _ (XC j)).trans j;replace b:=((QU s (.cells #[.int .i64 a,.int .i64 p,.int .i64 l,.int .i64 o,.int .i64 q,.int .i64 m,.slice g i k,.slice c h f] 46)).block _ (XC b)).trans b;have r:Hid (Below w.heap.size w (s.alloc (.cells #[.int .i64 a,.int .i64 p,.int .i64 l,.int .i64 o,.int .i64 q,.int .i64 m,.slice g i k,.slice c h f] 46))):=t.out.trans ((QU _ _).mono t.out.size);go_wp2_with fail
   clear t;generalize s.alloc (.cells #[.int .i64 a,.int .i64 p,.int .i64 l,.int .i64 o,.int .i64 q,.int .i64 m,.slice g i k,.slice c h f] 46)=O at j b r |-;refine(B.out _).mono ?_
   rintro e F ⟨rfl,u⟩;replace j:=(u.block _ (XC j)).trans j;replace b:=(u.block _ (XC b)).trans b;have z:Hid (Below w.heap.size w F):=r.out.trans (u.mono r.out.size);clear u r B
   cases bare with
   | false =>
     clear A j b;go_wp2
     go_ret;exact⟨Z,z.out⟩
   | true =>
     have d:=Qb j 0 _ Z;have I:=Qb b 0 _ Z;have M:=Qb b 1 _ Z;have P:=Qb b 2 _ Z;have H:=Qb b 3 _ Z;have J:=Qb b 4 _ Z;have K:=Qb b 5 _ Z;have Q:=Qb b 6 _ Z;have L:=Qb b 7 _ Z;clear j b;go_wp2_with fail
     refine(A.out _).mono ?_
     rintro e G ⟨rfl,D⟩;have E:Hid (Below w.heap.size w G):=z.out.trans (D.mono z.out.size);clear D z A;go_wp2
     go_ret;exact⟨Z,E.out⟩
theorem Qgx (d:Nat) (x:QC) (i:IP) (t:Option Addr) (B:Nat) (w:World) (p:d<2305843009213693952) :
 Rd prog 32 #[.agg #[.slice t d B],.agg #[.int .i64 x.op,.int .i64 x.a,.int .i64 x.b,.int .i64 x.c,.int .i64 x.k,.int .i64 x.n,.slice i.pR x.regs.length i.cR,.slice i.pA x.args.length i.cA]] w (.int .i64 (x.form d)):=by
 rw[QC.form_eq]
 have f:=Qgm x.op;generalize x.op=op at f |-;rcases f with rfl | rfl | rfl | rfl | rfl | rfl | rfl | rfl | rfl | rfl | rfl | rfl | rfl | rfl | h
 ·rw[QL (show QG 1=some (false,false,false,false,true,false,false) from Z)]
  exact ZC (ok:=true) (fun _=>wf1) (fun _=>Q0) (fun _=>Qaf (by decide))
 ·rw[QL (show QG 2=some (true,true,false,true,false,false,false) from Z)]
  exact ZC (ok:=true) (fun _=>wf2) (fun _=>Q0) (fun _=>QjY)
 ·rw[QL (show QG 3=some (false,false,false,false,false,false,false) from Z)]
  exact ZC (ok:=true) (fun _=>wf3) (fun _=>Q0) (fun _=>Qaf (by decide))
 ·rw[QL (show QG 4=some (true,false,false,false,false,false,false) from Z)]
  exact ZC (ok:=true) (fun _=>wf4) (fun _=>Q0) (fun _=>Qaf (by decide))
 ·rw[QL (show QG 5=some (true,false,false,false,false,false,true) from Z)]
  exact ZC (ok:=true) (fun _=>wf5) (fun _=>Q0) (fun _=>Qkv)
 ·rw[QL (show QG 6=some (true,false,false,true,false,false,false) from Z)]
  exact ZC (ok:=true) (fun _=>wf6) (fun _=>Q0) (fun _=>Qkh)
 ·rw[QL (show QG 7=some (true,true,false,true,false,false,false) from Z)]
  exact ZC (ok:=true) (fun _=>wf7) (fun _=>Q0) (fun _=>Qkr)
 ·rw[QL (show QG 8=some (true,true,false,false,false,false,false) from Z)]
  exact ZC (ok:=true) (fun _=>wf8) (fun _=>Q0) (fun _=>Qaf (by decide))
 ·rw[QL (show QG 9=some (true,true,false,false,false,false,false) from Z)]
  exact ZC (ok:=true) (fun _=>wf9) (fun _=>Q0) (fun _=>Qaf (by decide))
 ·rw[QL (show QG 10=some (true,true,true,false,false,false,false) from Z)]
  exact ZC (ok:=true) (fun _=>wf10) (fun _=>Q0) (fun _=>Qaf (by decide))
 ·rw[QL (show QG 11=some (true,false,false,false,false,false,false) from Z)]
  exact ZC (ok:=true) (fun _=>wf11) (fun _=>Q0) (fun _=>Qaf (by decide))
 ·rw[QL (show QG 12=some (false,false,false,false,false,false,false) from Z)]
  exact ZC (ok:=true) (fun _=>wf12) (fun _=>Q0) (fun _=>Qaf (by decide))
 ·rw[QL (show QG 13=some (true,false,false,false,false,false,false) from Z)]
  exact ZC (ok:=true) (fun _=>wf13) (fun _=>Q0) (fun _=>Qaf (by decide))
 ·rw[QL (show QG 14=some (false,false,false,true,false,true,true) from Z)]
  exact ZC (ok:=true) (fun _=>wf14) (fun _=>Q0) (fun _=>QjI p)
 ·have e:QG op=none:=by
   unfold QG;obtain⟨z,q,y,v,s,C,r,A,u,g,o,j,l,m⟩:=h
   simp[z,q,y,v,s,C,r,A,u,g,o,j,l,m]
  rw[show QV d op x.a x.b x.c x.k x.n x.regs.length x.args.length=3 by unfold QV;rw[e]]
  exact ZC (ok:=false) (bare:=QaT x.a x.b x.c x.k x.n x.regs.length x.args.length) (fun _=>QlP h) (fun _=>Q0) (fun _=>Qaf ⟨h.2.1,h.2.2.2.2.2.1,h.2.2.2.2.2.2.1,h.2.2.2.2.1,h.2.2.2.2.2.2.2.2.2.2.2.2.2⟩)
theorem QhK (x:MTo) (bl:Nat):x.form bl true=if rangeC x.block 0 ((bl:Int) - 1)=0 then handedC x.regs.length 16 x.args.length else rangeC x.block 0 ((bl:Int) - 1):=by
 unfold MTo.form rangeC handedC manyC;simp only[Bool.true_eq_false,if_false]
 repeat' split
 all_goals omega
theorem QiV (x:MTo) (bl:Nat):x.form bl false=if x.block=0/\x.regs.length=0/\x.args.length=0 then 0 else 4:=by
 unfold MTo.form;simp only[if_true]
 repeat' split
 all_goals omega
theorem Qhg (e:MEnd) (bl:Nat):e.form bl=if e.op<1\/3<e.op then 3 else if (e.op≠2/\e.a≠0)\/(e.op≠3/\0<e.args.length) then 4 else if 8<e.args.length then 2
 else if e.yes.form bl (e.op != 3)=0 then e.no.form bl (e.op==2) else e.yes.form bl (e.op != 3):=by
 unfold MEnd.form;have g:decide (e.op≠3)=(e.op != 3):=by by_cases h:e.op=3<;>simp[h]
 have i:decide (e.op=2)=(e.op==2):=by by_cases h:e.op=2<;>simp[h]
 rw[g,i]
 by_cases c:e.op<1\/3<e.op
 ·simp[c]
 ·rw[Xr c,Xr c]
  by_cases b:(e.op≠2/\e.a≠0)\/(e.op≠3/\0<e.args.length)
  ·rw[Xs b,Xs (b.imp (fun h=>⟨h.2,h.1⟩) (fun h=>⟨h.2,h.1⟩))]
  ·rw[Xr b,Xr (fun h=>b (h.imp (fun h=>⟨h.2,h.1⟩) (fun h=>⟨h.2,h.1⟩)))]
   by_cases d:8<e.args.length
   ·simp[d]
   ·rw[Xr d,Xr d]
    by_cases f:e.yes.form bl (e.op != 3)=0
    ·simp[f]
    ·simp[f]
theorem QkF {a:Int}{b:Nat}{fb:Option Addr}:Rd prog 90 #[.agg #[.int .i64 fr,.slice fp fl fc,.slice fq fm fd,.slice fb bl fe],.agg #[.int .i64 a,.slice pR n1 cR,.slice pA b cA],.bool false] w (.int .i64 (if a=0/\n1=0/\b=0 then 0 else 4)):=by
 unfold Rd;by_cases c:a=0
 ·subst c;by_cases d:n1=0
  ·subst d;by_cases e:b=0
   ·subst e;rw[Xs ⟨Z,Z,Z⟩]
    go_enter func90,ntmps90
    go_wp2
    go_ret;exact⟨Z,QaS _ _ _⟩
   ·have g:(0:Int)<b:=by omega
    rw[Xr (by omega)]
    go_enter func90,ntmps90
    go_wp2
    go_ret;exact⟨Z,QaS _ _ _⟩
  ·have g:(0:Int)<n1:=by omega
   rw[Xr (by omega)]
   go_enter func90,ntmps90
   go_wp2
   go_ret;exact⟨Z,QaS _ _ _⟩
 ·have g:(a==0)=false:=by simpa using c
  rw[Xr (by omega)]
  go_enter func90,ntmps90
  go_wp2
  go_ret;exact⟨Z,QaS _ _ _⟩
theorem Qkb {a:Int}{b:Nat}{fb:Option Addr}(o:bl<2305843009213693952):Rd prog 90 #[.agg #[.int .i64 fr,.slice fp fl fc,.slice fq fm fd,.slice fb bl fe],.agg #[.int .i64 a,.slice pR n1 cR,.slice pA b cA],.bool true] w (.int .i64 (if rangeC a 0 ((bl:Int) - 1)=0 then handedC n1 16 b else rangeC a 0 ((bl:Int) - 1))):=by
 have C:Hid (∀ c:World,Calls prog 105 #[.int .i64 a,.int .i64 0,.int .i64 ((bl:Int) - 1)] c fun e j=>e=.returned (.int .i64 (rangeC a 0 ((bl:Int) - 1)))/\Below c.heap.size c j):=fun c=>Z8;have i:Hid (∀ c:World,Calls prog 107 #[.slice pR n1 cR,.int .i64 16,.slice pA b cA] c fun e j=>e=.returned (.int .i64 (handedC n1 16 b))/\Below c.heap.size c j):=fun c=>QbB;generalize rangeC a 0 ((bl:Int) - 1)=v at C |-;generalize handedC n1 16 b=u at i |-;have g:Blk ((w.alloc (.cells #[.int .i64 fr,.slice fp fl fc,.slice fq fm fd,.slice fb bl fe] 40)).alloc (.cells #[.int .i64 a,.slice pR n1 cR,.slice pA b cA] 56)) (w.heap.size+1) #[.int .i64 a,.slice pR n1 cR,.slice pA b cA] 56:=Blk.new2 _ _ _ _;have d:Hid (Below w.heap.size w ((w.alloc (.cells #[.int .i64 fr,.slice fp fl fc,.slice fq fm fd,.slice fb bl fe] 40)).alloc (.cells #[.int .i64 a,.slice pR n1 cR,.slice pA b cA] 56))):=QaS _ _ _;unfold Rd;by_cases m:v=0
 ·subst m;rw[Xs Z]
  go_enter func90,ntmps90
  go_wp2_with fail
  generalize ((w.alloc (.cells #[.int .i64 fr,.slice fp fl fc,.slice fq fm fd,.slice fb bl fe] 40)).alloc (.cells #[.int .i64 a,.slice pR n1 cR,.slice pA b cA] 56))=r at g d |-;refine(C.out _).mono ?_
  rintro e k ⟨rfl,f⟩;have l:=(f.block _ (XC g)).trans g;have h:Hid (Below w.heap.size w k):=d.out.trans (f.mono d.out.size);have x:=Qb l 1 _ Z;have t:=Qb l 2 _ Z;clear f C g d l;go_wp2_with fail
  refine(i.out _).mono ?_
  rintro e s ⟨rfl,n⟩;have p:Hid (Below w.heap.size w s):=h.out.trans (n.mono h.out.size);clear n i h;go_wp2
  go_ret;exact⟨Z,p.out⟩
 ·rw[Xr m]
  have q:(v==0)=false:=by simpa using m
  go_enter func90,ntmps90
  go_wp2_with fail
  generalize ((w.alloc (.cells #[.int .i64 fr,.slice fp fl fc,.slice fq fm fd,.slice fb bl fe] 40)).alloc (.cells #[.int .i64 a,.slice pR n1 cR,.slice pA b cA] 56))=r at g d |-;refine(C.out _).mono ?_
  rintro e k ⟨rfl,f⟩;have h:Hid (Below w.heap.size w k):=d.out.trans (f.mono d.out.size);clear f C i g d;go_wp2
  go_ret;exact⟨Z,h.out⟩
theorem Qd2 {x:MTo}{fb:Option Addr}(a:Bool)(b:bl<2305843009213693952) :
 Rd prog 90 #[.agg #[.int .i64 fr,.slice fp fl fc,.slice fq fm fd,.slice fb bl fe],.agg #[.int .i64 x.block,.slice pR x.regs.length cR,.slice pA x.args.length cA],.bool a] w (.int .i64 (x.form bl a)):=by
 cases a
 ·rw[QiV];exact QkF
 ·rw[QhK];exact Qkb b
theorem Qi4 {r x y B:Int}{q l f m E:Option Addr}{i n c k j p g d u D:Nat}{fb:Option Addr}{z T:Int}(O:¬ (r<1\/3<r)) (M:¬ ((r≠2/\x≠0)\/(r≠3/\0<u))) (N:¬ 8<u)
 (H:Hid (∀ wx:World,Calls prog 90 #[.agg #[.int .i64 fr,.slice fp fl fc,.slice fq fm fd,.slice fb bl fe],.agg #[.int .i64 y,.slice q i n,.slice l c k],.bool (r != 3)] wx fun e w'=>e=.returned (.int .i64 z)/\Below wx.heap.size wx w'))
 (A:Hid (∀ wx:World,Calls prog 90 #[.agg #[.int .i64 fr,.slice fp fl fc,.slice fq fm fd,.slice fb bl fe],.agg #[.int .i64 B,.slice f j p,.slice m g d],.bool (r==2)] wx fun e w'=>e=.returned (.int .i64 T)/\Below wx.heap.size wx w')) :
 Rd prog 51 #[.agg #[.int .i64 fr,.slice fp fl fc,.slice fq fm fd,.slice fb bl fe],.agg #[.int .i64 r,.int .i64 x,.int .i64 y,.slice q i n,.slice l c k,.int .i64 B,.slice f j p,.slice m g d,.slice E u D]] w (.int .i64 (if z=0 then T else z)):=by
 have a:Blk ((w.alloc (.cells #[.int .i64 fr,.slice fp fl fc,.slice fq fm fd,.slice fb bl fe] 40)).alloc (.cells #[.int .i64 r,.int .i64 x,.int .i64 y,.slice q i n,.slice l c k,.int .i64 B,.slice f j p,.slice m g d,.slice E u D] 58)) w.heap.size #[.int .i64 fr,.slice fp fl fc,.slice fq fm fd,.slice fb bl fe] 40:=Blk.new1 _ _ _ _ _;have b:Blk ((w.alloc (.cells #[.int .i64 fr,.slice fp fl fc,.slice fq fm fd,.slice fb bl fe] 40)).alloc (.cells #[.int .i64 r,.int .i64 x,.int .i64 y,.slice q i n,.slice l c k,.int .i64 B,.slice f j p,.slice m g d,.slice E u D] 58)) (w.heap.size+1) #[.int .i64 r,.int .i64 x,.int .i64 y,.slice q i n,.slice l c k,.int .i64 B,.slice f j p,.slice m g d,.slice E u D] 58:=Blk.new2 _ _ _ _;have v:Hid (Below w.heap.size w ((w.alloc (.cells #[.int .i64 fr,.slice fp fl fc,.slice fq fm fd,.slice fb bl fe] 40)).alloc (.cells #[.int .i64 r,.int .i64 x,.int .i64 y,.slice q i n,.slice l c k,.int .i64 B,.slice f j p,.slice m g d,.slice E u D] 58))):=QaS _ _ _;unfold Rd;have G:∀ {o:Int},r=o->¬ (o≠2/\x≠0)->¬ (o≠3/\0<u)->(o=1\/o=2\/o=3):=fun h _ _=>by omega
 rcases (show r=1\/r=2\/r=3 by omega) with rfl | rfl | rfl
 ·obtain rfl:x=0:=by omega
  obtain rfl:u=0:=by omega
  clear O M N G;go_enter func51,ntmps51
  go_wp2_with fail
  generalize ((w.alloc (.cells #[.int .i64 fr,.slice fp fl fc,.slice fq fm fd,.slice fb bl fe] 40)).alloc (.cells #[.int .i64 1,.int .i64 0,.int .i64 y,.slice q i n,.slice l c k,.int .i64 B,.slice f j p,.slice m g d,.slice E 0 D] 58))=U at a b v |-;refine(H.out _).mono ?_
  rintro e K ⟨rfl,s⟩;replace a:=(s.block _ (XC a)).trans a;replace b:=(s.block _ (XC b)).trans b;have t:Hid (Below w.heap.size w K):=v.out.trans (s.mono v.out.size);clear s H v;by_cases F:z=0
  ·subst F;have R:=Qb a 0 _ Z;have V:=Qb a 1 _ Z;have X:=Qb a 2 _ Z;have c3:=Qb a 3 _ Z;have P:=Qb b 0 _ Z;have Q:=Qb b 5 _ Z;have W:=Qb b 6 _ Z;have S:=Qb b 7 _ Z;clear a b;go_wp2_with fail
   refine(A.out _).mono ?_
   rintro e L ⟨rfl,C⟩;have I:Hid (Below w.heap.size w L):=t.out.trans (C.mono t.out.size);clear C A t;go_wp2
   go_ret;exact⟨Z,I.out⟩
  ·have J:(z==0)=false:=by simpa using F
   clear A a b;go_wp2
   go_ret;exact⟨Z,t.out⟩
 ·obtain rfl:u=0:=by omega
  clear O M N G;go_enter func51,ntmps51
  go_wp2_with fail
  generalize ((w.alloc (.cells #[.int .i64 fr,.slice fp fl fc,.slice fq fm fd,.slice fb bl fe] 40)).alloc (.cells #[.int .i64 2,.int .i64 x,.int .i64 y,.slice q i n,.slice l c k,.int .i64 B,.slice f j p,.slice m g d,.slice E 0 D] 58))=U at a b v |-;refine(H.out _).mono ?_
  rintro e K ⟨rfl,s⟩;replace a:=(s.block _ (XC a)).trans a;replace b:=(s.block _ (XC b)).trans b;have t:Hid (Below w.heap.size w K):=v.out.trans (s.mono v.out.size);clear s H v;by_cases F:z=0
  ·subst F;have R:=Qb a 0 _ Z;have V:=Qb a 1 _ Z;have X:=Qb a 2 _ Z;have c3:=Qb a 3 _ Z;have P:=Qb b 0 _ Z;have Q:=Qb b 5 _ Z;have W:=Qb b 6 _ Z;have S:=Qb b 7 _ Z;clear a b;go_wp2_with fail
   refine(A.out _).mono ?_
   rintro e L ⟨rfl,C⟩;have I:Hid (Below w.heap.size w L):=t.out.trans (C.mono t.out.size);clear C A t;go_wp2
   go_ret;exact⟨Z,I.out⟩
  ·have J:(z==0)=false:=by simpa using F
   clear A a b;go_wp2
   go_ret;exact⟨Z,t.out⟩
 ·obtain rfl:x=0:=by omega
  have g8:¬ (8:Int)<u:=by omega
  clear O M N G;go_enter func51,ntmps51
  go_wp2_with fail
  generalize ((w.alloc (.cells #[.int .i64 fr,.slice fp fl fc,.slice fq fm fd,.slice fb bl fe] 40)).alloc (.cells #[.int .i64 3,.int .i64 0,.int .i64 y,.slice q i n,.slice l c k,.int .i64 B,.slice f j p,.slice m g d,.slice E u D] 58))=U at a b v |-;refine(H.out _).mono ?_
  rintro e K ⟨rfl,s⟩;replace a:=(s.block _ (XC a)).trans a;replace b:=(s.block _ (XC b)).trans b;have t:Hid (Below w.heap.size w K):=v.out.trans (s.mono v.out.size);clear s H v;by_cases F:z=0
  ·subst F;have R:=Qb a 0 _ Z;have V:=Qb a 1 _ Z;have X:=Qb a 2 _ Z;have c3:=Qb a 3 _ Z;have P:=Qb b 0 _ Z;have Q:=Qb b 5 _ Z;have W:=Qb b 6 _ Z;have S:=Qb b 7 _ Z;clear a b;go_wp2_with fail
   refine(A.out _).mono ?_
   rintro e L ⟨rfl,C⟩;have I:Hid (Below w.heap.size w L):=t.out.trans (C.mono t.out.size);clear C A t;go_wp2
   go_ret;exact⟨Z,I.out⟩
  ·have J:(z==0)=false:=by simpa using F
   clear A a b;go_wp2
   go_ret;exact⟨Z,t.out⟩
theorem QfS {a c t A:Int}{r n i o y:Option Addr}{k p e m l q j f b u:Nat}{fb:Option Addr}{v:Int}(h:(v=3/\(a<1\/3<a))\/(v=4/\¬ (a<1\/3<a)/\((a≠2/\c≠0)\/(a≠3/\0<b)))\/(v=2/\¬ (a<1\/3<a)/\¬ ((a≠2/\c≠0)\/(a≠3/\0<b))/\8<b)) :
 Rd prog 51 #[.agg #[.int .i64 fr,.slice fp fl fc,.slice fq fm fd,.slice fb bl fe],.agg #[.int .i64 a,.int .i64 c,.int .i64 t,.slice r k p,.slice n e m,.int .i64 A,.slice i l q,.slice o j f,.slice y b u]] w (.int .i64 v):=by
 unfold Rd;rcases h with ⟨rfl,h | h⟩|⟨rfl,d,h⟩|⟨rfl,d,x,z⟩
 ·go_enter func51,ntmps51
  go_wp2
  go_ret;exact⟨Z,QaS _ _ _⟩
 ·have g:¬ a<1:=by omega
  go_enter func51,ntmps51
  go_wp2
  go_ret;exact⟨Z,QaS _ _ _⟩
 ·rcases (show a=1\/a=2\/a=3 by omega) with rfl | rfl | rfl
  ·by_cases s:c=0
   ·subst s;have g:(0:Int)<b:=by omega
    clear h d;go_enter func51,ntmps51
    go_wp2
    go_ret;exact⟨Z,QaS _ _ _⟩
   ·have g:(c==0)=false:=by simpa using s
    clear h d;go_enter func51,ntmps51
    go_wp2
    go_ret;exact⟨Z,QaS _ _ _⟩
  ·have g:(0:Int)<b:=by omega
   clear h d;go_enter func51,ntmps51
   go_wp2
   go_ret;exact⟨Z,QaS _ _ _⟩
  ·have g:(c==0)=false:=by simp;omega
   clear h d;go_enter func51,ntmps51
   go_wp2
   go_ret;exact⟨Z,QaS _ _ _⟩
 ·obtain rfl:a=3:=by omega
  obtain rfl:c=0:=by omega
  have g:(8:Int)<b:=by omega
  clear d x z;go_enter func51,ntmps51
  go_wp2
  go_ret;exact⟨Z,QaS _ _ _⟩
theorem Qgq {x:MEnd}{e:EP}{fb:Option Addr}(g:x.yes.regs.length<2305843009213693952/\x.yes.args.length<2305843009213693952/\x.no.regs.length<2305843009213693952/\x.no.args.length<2305843009213693952) (c:bl<2305843009213693952):Rd prog 51 #[.agg #[.int .i64 fr,.slice fp fl fc,.slice fq fm fd,.slice fb bl fe],.agg #[.int .i64 x.op,.int .i64 x.a,.int .i64 x.yes.block,.slice e.pYR x.yes.regs.length e.cYR,.slice e.pYA x.yes.args.length e.cYA,.int .i64 x.no.block,.slice e.pNR x.no.regs.length e.cNR,.slice e.pNA x.no.args.length e.cNA,.slice e.pA x.args.length e.cA]] w (.int .i64 (x.form bl)):=by
 rw[Qhg]
 by_cases b:x.op<1\/3<x.op
 ·rw[Xs b];exact QfS (.inl ⟨Z,b⟩)
 rw[Xr b]
 by_cases d:(x.op≠2/\x.a≠0)\/(x.op≠3/\0<x.args.length)
 ·rw[Xs d];exact QfS (.inr (.inl ⟨Z,b,d⟩))
 rw[Xr d]
 by_cases f:8<x.args.length
 ·rw[Xs f];exact QfS (.inr (.inr ⟨Z,b,d,f⟩))
 rw[Xr f]
 exact Qi4 b d f (fun _=>Qd2 _ c) (fun _=>Qd2 _ c)
theorem Qkw {s:JSt}{x:QC}{l:Option Addr}(j:∀ k,A k->k<w.heap.size) (i:JOk s) (h:SAt w b O A s) (a:intsL.In w Q x.regs [.slice l x.regs.length rc]) (c:intsL.In w Q x.args [.slice ag x.args.length ac]) (f:x.regs.length<=rc) (d:ZZ x) (g:x.form s.m.length=0) :
 Calls prog 35 #[.pointer (some ⟨b,0,none⟩),Qa9 x l ag rc ac] w fun e w'=>Zc w b O A s (s.next x) (s.goC x) e w':=by
 obtain⟨-,-,-,n⟩:=Zk g
 rcases n with e | e | e | e | e | e | e | e | e | e | e | e | e | e
 ·exact QjZ j i h a c f d g e
 ·exact QkA j i h a c f d g e
 ·exact Qj1 j i h a c f d g e
 ·exact Qi2 j i h a c f d g e
 ·exact QhA j i h a c f d g e
 ·exact QkD j i h a c f d g e
 ·exact QkE j i h a c f d g e
 ·exact QiD j i h a c f d g e
 ·exact Qi6 j i h a c f d g e
 ·exact QiH j i h a c f d g e
 ·exact Qko j i h a c f d g e
 ·exact Qk1 j i h a c f d g e
 ·exact QkG j i h a c f d g e
 ·exact Qi3 j i h a c f d g e
theorem STo.seal {w9:World}{g:Nat}{s:JSt}(l:∀ k,O k->k<w.heap.size) (d:Below w.heap.size w wc) (m:w.heap.size<=g/\g<wc.heap.size) (h:STo wc w2 b O (fun k=>A k\/(w.heap.size<=k/\k<wc.heap.size)) s) (c:Chg g w2 w9):STo w w9 b O A s:=by
 obtain⟨N,i,j,f⟩:=h
 have r:=d.size;have q:=f.size;have p:=c.size;refine⟨fun k=>N k\/(w.heap.size<=k/\k<wc.heap.size),fun k a=>?_,?_,?_⟩
 ·rcases a with a | a
  ·have:=i k a;omega
  ·omega
 ·refine j.keep (fun k n a=>c.block k n (fun e=>?_)) (fun k a _=>?_) (fun k a _ e=>a ?_) (fun k a=>?_)
  ·subst e;rcases a with a | a
   ·rcases a with a | a
    ·have:=l k a;omega
    ·have:=i k a;omega
   ·exact a (.inl (.inr m))
  ·rcases a with a | a
   ·exact .inl a
   ·exact .inr (.inl a)
  ·rcases e with e | e | e
   ·exact .inl (.inl e)
   ·exact .inr e
   ·exact .inl (.inr e)
  ·rcases a with a | a
   ·have:=j.sub k (.inl a)
    rcases this with (h | h) | h
    ·exact .inl h
    ·exact .inr (.inr h)
    ·exact .inr (.inl h)
   ·exact .inr a
 ·refine⟨c.os.trans (f.os.trans d.os),c.tape.trans (f.tape.trans d.tape),c.output.trans (f.output.trans d.output),by omega,fun k a o=>?_,fun k a=>?_⟩
  ·exact(c.block k (by omega) (by omega)).trans ((f.block k (by omega) o).trans (d.block k a))
  ·rcases a with a | a | a
   ·exact .inl a
   ·have:=i k a;exact .inr (by omega)
   ·exact .inr a.1
theorem SAt.wall {s:JSt}(h:SAt w b O A s) (c:Below w.heap.size w wc):SAt wc b O (fun k=>A k\/(w.heap.size<=k/\k<wc.heap.size)) s :=
 h.keep (fun g d _=>c.block g d) (fun _ h _=>h) (fun k a f e=>by rcases e with e | e;exact a e;omega) (fun k a=>.inl (h.sub k a))
theorem enters_ins1:Qc9 34:=fun _ _=>by kernel_rfl
theorem enters_end1:Qc9 52:=fun _ _=>by kernel_rfl
def Ql7 (b S0 X nm cm rc ac:Nat) (cf:Int) (pm rg ag:Option Addr) (x:QC) (t:Tmp) (v:Value) (w:World):Prop :=
 v=(([(2,.pointer (some ⟨S0,0,none⟩)),(3,.pointer (some ⟨X,0,none⟩)),(6,.pointer (some ⟨b,0,none⟩)),(7,.pointer (some ⟨b,0,none⟩)),(8,.pointer (some ⟨b,0,none⟩)),(9,.agg #[.slice pm nm cm]),(10,.agg #[.int .i64 x.op,.int .i64 x.a,.int .i64 x.b,.int .i64 x.c,.int .i64 x.k,.int .i64 x.n,.slice rg x.regs.length rc,.slice ag x.args.length ac]),(11,.int .i64 cf),(5,.int .i64 cf)]:List (Tmp × Value)).lookup t).getD undef
theorem ji1 {o i:Nat}{l:Int}{r:Option Addr}{x:QC}(D:w6.cell? ⟨o,0,none⟩=some (.pointer (some ⟨b,0,none⟩))) (L:w6.cell? ⟨b,0,none⟩=some (.slice pm i cm)) (A:w6.cell? ⟨X,0,none⟩=some (.int .i64 x.op)) (u:w6.cell? ⟨X,1,none⟩=some (.int .i64 x.a)) (E:w6.cell? ⟨X,2,none⟩=some (.int .i64 x.b)) (M:w6.cell? ⟨X,3,none⟩=some (.int .i64 x.c)) (G:w6.cell? ⟨X,4,none⟩=some (.int .i64 x.k)) (y:w6.cell? ⟨X,5,none⟩=some (.int .i64 x.n)) (F:w6.cell? ⟨X,6,none⟩=some (.slice r x.regs.length rc)) (J:w6.cell? ⟨X,7,none⟩=some (.slice ag x.args.length ac)) (p:i<2305843009213693952) (H:Hid (x.form i=l))
 (a:Act) (m:Nat) (C:a.tmps.size=m) (q:17<=m) (B:a.tmps.getD 2 undef=.pointer (some ⟨o,0,none⟩)) (I:a.tmps.getD 3 undef=.pointer (some ⟨X,0,none⟩)) :
 Code.wp prog ((Tryz.f12.body.bind (Qo 1)).getD .skip) (fun e a' w'=>e=.normal/\∃ vs,a'=Zn a vs [6,7,8,9,10,11,5]/\vs 5=.int .i64 l/\Below w6.heap.size w6 w') a w6:=by
 conv=>arg 2;whnf
 refine QD (Ql7 b o X i cm rc ac l pm r ag x) (fun w=>Below w6.heap.size w6 w) (fun w w'=>Below w.heap.size w w') (outs:=[2,3]) (gs:=[]) (bs:=[true,true,true,true,true,true,true]) (by kernel_rfl) (n:=17) C q (by kernel_rfl) ?hR ?hG (Qg Zr 1) ⟨B,I,Y⟩ ?hA ?hend
 case hR=>exact fun t v w w' _ h=>h
 case hG=>exact Y
 case hend=>exact fun vs w' d f=>⟨Z,vs,Z,f 5 (by kernel_rfl),d⟩
 case hA =>
  iterate 5
   refine⟨fun a w d f K j=>?_,?_⟩
   ·obtain⟨g,-⟩:=f
    conv at g=>whnf;rhs;whnf
    have N:=Qp D d;have V:=Qp L d;have S:=Qp A d;have Q:=Qp u d;have T:=Qp E d;have O:=Qp M d;have R:=Qp G d;have W:=Qp y d;have P:=Qp F d;have u9:=Qp J d;go_simp;exact j _ _ Zr d Z
  refine⟨fun a w d f K j=>?_,?_⟩
  ·obtain⟨g,z,-⟩:=f
   conv at g=>whnf;rhs;whnf
   conv at z=>whnf;rhs;whnf
   go_simp;refine Xm (Qgx i x ⟨r,rc,ag,ac⟩ pm cm _ p) ?_;rw[H.out];rintro r7 U ⟨rfl,s⟩;go_simp;exact j _ _ s (d.trans (s.mono d.size)) Z
  refine⟨fun a w d f K j=>?_,?_⟩
  ·obtain⟨g,-⟩:=f
   conv at g=>whnf;rhs;whnf
   go_simp;exact j _ _ Zr d Z
  trivial
theorem QiT {q:Nat}{s:JSt}{x:QC}{u:Option Addr}(r:Blk w q #[.pointer (some ⟨b,0,none⟩)] 28) (g:Blk w X #[.int .i64 x.op,.int .i64 x.a,.int .i64 x.b,.int .i64 x.c,.int .i64 x.k,.int .i64 x.n,.slice u x.regs.length rc,.slice ag x.args.length ac] 46) (B:∀ k,A k->k<w.heap.size) (o:JOk s) (h:SAt w b O A s) (d:intsL.In w Q x.regs [.slice u x.regs.length rc]) (f:intsL.In w Q x.args [.slice ag x.args.length ac]) (j:x.regs.length<=rc) (i:ZZ x) (l:x.form s.m.length=0) :
 Calls prog 34 #[.pointer (some ⟨q,0,none⟩),.pointer (some ⟨X,0,none⟩)] w fun e w'=>Zc w b O A s (s.next x) (s.goC x) e w':=by
 have C:=Qa (Qkw B o h d f j i l);have N:=Qb r 0 _ Z;have F:=Qb g 0 _ Z;have D:=Qb g 1 _ Z;have H:=Qb g 2 _ Z;have M:=Qb g 3 _ Z;have K:=Qb g 4 _ Z;have E:=Qb g 5 _ Z;have I:=Qb g 6 _ Z;have L:=Qb g 7 _ Z;clear r g B o h d f j i l;go_enter func34,ntmps34
 go_wp2_with fail
 refine C.out.mono ?_;rintro J G p;have y:=Qa p;rcases p with ⟨z,rfl,t⟩|⟨z,rfl,t⟩
 rotate_left
 ·exact⟨Z,y.out⟩
 clear z t C;go_wp2
 exact Xz (v:=.tuple #[]) (by simp[results,results34,go_sem]) Z y.out
theorem Qgw {s:JSt}{x:QC}{p:Option Addr}(hA:∀ k,A k->k<w.heap.size) (hJ:JOk s) (h:SAt w b O A s) (l:intsL.In w Q x.regs [.slice p x.regs.length rc]) (o:intsL.In w Q x.args [.slice ag x.args.length ac]) (T:x.regs.length<=rc) (v:ZZ x) :
 Calls prog 12 #[.pointer (some ⟨b,0,none⟩),Qa9 x p ag rc ac] w fun e w'=>e=.returned (.int .i64 (s.code x))/\STo w w' b O A (s.ins x):=by
 have ai:∀ (fn:Fn) (first cap:Array Value) (w:World),(Instr.makeFunc fn first cap).run prog w=.ok (.func fn first cap) w:=fun _ _ _ _=>rfl;have HJ:=Qa hJ;have H0:=Qa h;have y:=Qa hA;have af:=Qa v;have ae:=Qa T;have b1:=QU w (.cells #[.pointer (some ⟨b,0,none⟩)] 28);have b2:=QU (w.alloc (.cells #[.pointer (some ⟨b,0,none⟩)] 28)) (.cells #[.int .i64 x.op,.int .i64 x.a,.int .i64 x.b,.int .i64 x.c,.int .i64 x.k,.int .i64 x.n,.slice p x.regs.length rc,.slice ag x.args.length ac] 46);have U:=b1.trans (b2.mono b1.size);have HB:=Qa U;have H:=Qa (h.below U);have HR:Hid (intsL.In _ Q x.regs [.slice p x.regs.length rc]):=Ya l U;have HG:Hid (intsL.In _ Q x.args [.slice ag x.args.length ac]):=Ya o U;have hS:Blk ((w.alloc (.cells #[.pointer (some ⟨b,0,none⟩)] 28)).alloc (.cells #[.int .i64 x.op,.int .i64 x.a,.int .i64 x.b,.int .i64 x.c,.int .i64 x.k,.int .i64 x.n,.slice p x.regs.length rc,.slice ag x.args.length ac] 46)) w.heap.size #[.pointer (some ⟨b,0,none⟩)] 28:=(Blk.new _ _ _:Blk (w.alloc (.cells #[.pointer (some ⟨b,0,none⟩)] 28)) w.heap.size _ _).below b2
 have hX:Blk ((w.alloc (.cells #[.pointer (some ⟨b,0,none⟩)] 28)).alloc (.cells #[.int .i64 x.op,.int .i64 x.a,.int .i64 x.b,.int .i64 x.c,.int .i64 x.k,.int .i64 x.n,.slice p x.regs.length rc,.slice ag x.args.length ac] 46)) (w.heap.size+1) #[.int .i64 x.op,.int .i64 x.a,.int .i64 x.b,.int .i64 x.c,.int .i64 x.k,.int .i64 x.n,.slice p x.regs.length rc,.slice ag x.args.length ac] 46:=by
  have:=Blk.new (w.alloc (.cells #[.pointer (some ⟨b,0,none⟩)] 28)) #[.int .i64 x.op,.int .i64 x.a,.int .i64 x.b,.int .i64 x.c,.int .i64 x.k,.int .i64 x.n,.slice p x.regs.length rc,.slice ag x.args.length ac] 46
  simpa using this
 have L:=Qa hS;have g:=Qa hX;clear hS hX b1 b2 U h hA hJ l o T v;go_enter func12,ntmps12
 go_upto_region 1 with fail
 generalize (w.alloc (.cells #[.pointer (some ⟨b,0,none⟩)] 28)).alloc (.cells #[.int .i64 x.op,.int .i64 x.a,.int .i64 x.b,.int .i64 x.c,.int .i64 x.k,.int .i64 x.n,.slice p x.regs.length rc,.slice ag x.args.length ac] 46)=w1 at HB H HR HG L g |-;obtain⟨S0,ab⟩:∃ S0,w.heap.size=S0:=⟨_,Z⟩
 obtain⟨X,hX⟩:∃ X,S0+1=X:=⟨_,Z⟩
 rw[ab] at L g |-
 rw[hX] at g |-
 clear hX ab;have s0:=Qb L.out 0 _ Z;have x0:=Qb g.out 0 _ Z;have x1:=Qb g.out 1 _ Z;have x2:=Qb g.out 2 _ Z;have x3:=Qb g.out 3 _ Z;have x4:=Qb g.out 4 _ Z;have x5:=Qb g.out 5 _ Z;have x6:=Qb g.out 6 _ Z;have x7:=Qb g.out 7 _ Z;obtain⟨pm,cm,hh,a1,c1,a2,c2,a3,c3,aL,cL,RR⟩:=H.out.read
 obtain⟨q0,-⟩:=RR.cells
 obtain⟨D,P⟩:∃ D,x.form s.m.length=D:=⟨_,Z⟩
 have t:Hid (x.form s.m.length=D):=P;clear P RR;refine Code.wp_mono ?_ (ji1 s0 q0 x0 x1 x2 x3 x4 x5 x6 x7 (by have:=HJ.out.mod.1.2;omega) t _ _ Z (Xg (by kernel_rfl)) Z Z);rintro ee aa d ⟨rfl,vs,rfl,V,F⟩;simp only[Zn,Act.put,List.setIfInBounds_toArray,List.set_cons_zero,List.set_cons_succ,V]
 have j:=Qa (HB.out.trans (F.mono HB.out.size));have R:=Qa (L.out.below F);have K:=Qa (g.out.below F);have M:Hid (intsL.In d Q x.regs [.slice p x.regs.length rc]):=Ya HR.out F;have W:Hid (intsL.In d Q x.args [.slice ag x.args.length ac]):=Ya HG.out F;clear F V s0 x0 x1 x2 x3 x4 x5 x6 x7 q0 L g HR HG HB H;by_cases u:D=0
 rotate_left
 ·have ah:(D != 0)=true:=by simpa using u
  have E1:Hid (s.code x=D):=by show _=_;unfold JSt.code;rw[t.out,Xs u]
  have E2:Hid (s.ins x=s):=by show _=_;unfold JSt.ins;rw[Xr (by rw[E1.out];exact u)]
  go_wp2_with fail
  go_ret;exact⟨by rw[E1.out];rfl,by rw[E2.out];exact Yh H0.out j.out⟩
 subst u;have EC:=Qa (Qj2 t.out);have I:=QU d (.cells #[.int .i64 0] 3);have r:=j.out.trans (I.mono j.out.size);have ad:=Qa r
 have CK:Hid (Calls prog 33 #[.func (.func 34) #[] #[.pointer (some ⟨S0,0,none⟩),.pointer (some ⟨X,0,none⟩)]] d fun en w'=>QfN d.heap.size (fun f=>s.goC x=0/\STo (d.alloc (.cells #[.int .i64 0] 3)) f b O (fun k=>A k\/(w.heap.size<=k/\k<(d.alloc (.cells #[.int .i64 0] 3)).heap.size)) (s.next x)) (fun c f=>s.goC x=c/\c≠0/\STo (d.alloc (.cells #[.int .i64 0] 3)) f b O (fun k=>A k\/(w.heap.size<=k/\k<(d.alloc (.cells #[.int .i64 0] 3)).heap.size)) s) en w'):=by
  refine Qdc _ _ enters_ins1 _ _ ?_;refine(QiT (A:=fun k=>A k\/(w.heap.size<=k/\k<(d.alloc (.cells #[.int .i64 0] 3)).heap.size)) (R.out.below I) (K.out.below I) (fun k q=>?_) HJ.out (H0.out.wall r) (Ya M.out I) (Ya W.out I) ae.out af.out t.out).mono ?_
  ·rcases q with q | q
   ·exact Zl (y.out k q) r.size
   ·exact q.2
  ·intro en f hd
   have B:STo (d.alloc (.cells #[.int .i64 0] 3)) f b O (fun k=>A k\/(w.heap.size<=k/\k<(d.alloc (.cells #[.int .i64 0] 3)).heap.size)) s\/STo (d.alloc (.cells #[.int .i64 0] 3)) f b O (fun k=>A k\/(w.heap.size<=k/\k<(d.alloc (.cells #[.int .i64 0] 3)).heap.size)) (s.next x):=by
    rcases hd with ⟨-,-,h⟩|⟨-,-,h⟩
    ·exact .inr h
    ·exact .inl h
   have i:Blk f d.heap.size #[.int .i64 0] 3:=by
    have hn:Blk (d.alloc (.cells #[.int .i64 0] 3)) d.heap.size #[.int .i64 0] 3:=Blk.new _ _ _;have S:¬ O d.heap.size:=fun e=>by have G:=y.out _ (H0.out.sub _ e);have E:=j.out.size;omega
    rcases B with ⟨N,-,-,st⟩|⟨N,-,-,st⟩
    ·exact(st.block _ hn.lt S).trans hn
    ·exact(st.block _ hn.lt S).trans hn
   rcases hd with ⟨G,E,h3⟩|⟨G,E,h3⟩
   ·exact⟨i,.inl ⟨E,G,h3⟩⟩
   ·exact⟨i,.inr ⟨_,E,Z,G,h3⟩⟩
 have C:Hid (∀ f z s',STo (d.alloc (.cells #[.int .i64 0] 3)) f b O (fun k=>A k\/(w.heap.size<=k/\k<(d.alloc (.cells #[.int .i64 0] 3)).heap.size)) s'->Chg d.heap.size f z->STo w z b O A s'):=fun f z s' G E=>STo.seal (fun k q=>y.out k (H0.out.sub k q)) ad.out ⟨j.out.size,by simp⟩ G E;clear I r R K M W;go_wp2_with fail
 refine CK.out.mono ?_;intro e' z q
 have FF:Hid (e'=.returned (.int .i64 (s.code x))/\STo w z b O A (s.ins x)):=by
  rcases q with ⟨f,⟨g1,g2⟩,rfl,g3⟩|⟨f,c,⟨g1,g2,g3⟩,rfl,g4⟩
  ·have J:s.code x=0:=by rw[EC.out,g1]
   refine⟨by rw[J],?_⟩
   unfold JSt.ins;rw[Xs J]
   exact C.out f z _ g2 g3
  ·have J:s.code x=c:=by rw[EC.out,g1]
   refine⟨by rw[J],?_⟩
   unfold JSt.ins;rw[Xr (by rw[J];exact g2)]
   exact C.out f z _ g3 g4
 obtain⟨rfl,-⟩:=id FF.out
 clear q CK C;go_wp2
 go_ret;exact⟨Z,FF.out.2⟩
def QlX (b S0 X fl c1 fm c2 bl c3:Nat) (fr cf:Int) (a1 a2 a3:Option Addr) (x:MEnd) (e:EP) (t:Tmp) (v:Value) (w:World):Prop :=
 v=(([(2,.pointer (some ⟨S0,0,none⟩)),(3,.pointer (some ⟨X,0,none⟩)),(6,.pointer (some ⟨b,0,none⟩)),(7,.pointer (some ⟨b,0,none⟩)),(8,.pointer (some ⟨b,2,none⟩)),(9,.agg #[.int .i64 fr,.slice a1 fl c1,.slice a2 fm c2,.slice a3 bl c3]),(10,.agg (QaE x e)),(11,.int .i64 cf),(5,.int .i64 cf)]:List (Tmp × Value)).lookup t).getD undef
theorem jE1 {l u y z:Nat}{j:Int}{r p q:Option Addr}{x:MEnd}{e:EP}(F:w6.cell? ⟨l,0,none⟩=some (.pointer (some ⟨b,0,none⟩))) (H:w6.cell? ⟨b,2,none⟩=some (.int .i64 fr)) (L:w6.cell? ⟨b,3,none⟩=some (.slice r fl u)) (A:w6.cell? ⟨b,4,none⟩=some (.slice p fm y)) (E:w6.cell? ⟨b,5,none⟩=some (.slice q bl z)) (M:Hid (w6.rangeAt X 0 (QaE x e).toList)) (J:Hid (x.yes.regs.length<2305843009213693952/\x.yes.args.length<2305843009213693952/\x.no.regs.length<2305843009213693952/\x.no.args.length<2305843009213693952)) (k:bl<2305843009213693952) (G:Hid (x.form bl=j))
 (a:Act) (m:Nat) (D:a.tmps.size=m) (o:17<=m) (C:a.tmps.getD 2 undef=.pointer (some ⟨l,0,none⟩)) (I:a.tmps.getD 3 undef=.pointer (some ⟨X,0,none⟩)) :
 Code.wp prog ((Tryz.f24.body.bind (Qo 1)).getD .skip) (fun e a' w'=>e=.normal/\∃ vs,a'=Zn a vs [6,7,8,9,10,11,5]/\vs 5=.int .i64 j/\Below w6.heap.size w6 w') a w6:=by
 conv=>arg 2;whnf
 refine QD (QlX b l X fl u fm y bl z fr j r p q x e) (fun w=>Below w6.heap.size w6 w) (fun w w'=>Below w.heap.size w w') (outs:=[2,3]) (gs:=[]) (bs:=[true,true,true,true,true,true,true]) (by kernel_rfl) (n:=17) D o (by kernel_rfl) ?hR ?hG (Qg Zr 1) ⟨C,I,Y⟩ ?hA ?hend
 case hR=>exact fun t v w w' _ h=>h
 case hG=>exact Y
 case hend=>exact fun vs w' c d=>⟨Z,vs,Z,d 5 (by kernel_rfl),c⟩
 case hA =>
  iterate 4
   refine⟨fun a w c d K g=>?_,?_⟩
   ·obtain⟨f,-⟩:=d
    conv at f=>whnf;rhs;whnf
    have N:=Qp F c;have T:=Qp H c;have Q:=Qp L c;have P:=Qp A c;have R:=Qp E c;go_simp;exact g _ _ Zr c Z
  refine⟨fun a w c d K g=>?_,?_⟩
  ·obtain⟨f,-⟩:=d
   conv at f=>whnf;rhs;whnf
   obtain⟨O,i⟩:=underEnd
   refine wp_load_mid 58 (.tmp 3) Z X 0 f (QaE x e).toList _ (ZD M.out c) i Z sizeEnd ?_;exact g _ _ Zr c Z
  refine⟨fun a w c d K g=>?_,?_⟩
  ·obtain⟨f,B,-⟩:=d
   conv at f=>whnf;rhs;whnf
   conv at B=>whnf;rhs;whnf
   go_simp;refine Xm (Qgq (x:=x) (e:=e) J.out k) ?_;rw[G.out];rintro U S ⟨rfl,s⟩;go_simp;exact g _ _ s (c.trans (s.mono c.size)) Z
  refine⟨fun a w c d K g=>?_,?_⟩
  ·obtain⟨f,-⟩:=d
   conv at f=>whnf;rhs;whnf
   go_simp;exact g _ _ Zr c Z
  trivial
theorem Qe8 {c:Array Value}(h:Blk w X c t):w.rangeAt X 0 c.toList:=fun j v a=>by
 rw[XK]
 rw[Array.getElem?_toList] at a
 exact Qb h j v a
theorem Qia {t:Nat}{s:JSt}{x:MEnd}{e:EP}(u:Blk w t #[.pointer (some ⟨b,0,none⟩)] 28) (z:Blk w X (QaE x e) 58) (o:JOk s) (B:∀ k,O k->k<w.heap.size) (h:SAt w b O A s) (l:Qce w Q x e) (g:-9223372036854775808<=x.a/\x.a<=9223372036854775807) (n:x.form s.f.blocks.length=0) :
 Calls prog 52 #[.pointer (some ⟨t,0,none⟩),.pointer (some ⟨X,0,none⟩)] w fun r w'=>Qac (s.fin x) VNone r/\Below w.heap.size w w':=by
 have C:=Qa (QjC o B h l g n);have L:=Qb u 0 _ Z;have E:=Qa (Qe8 z);clear u z o h l g n B;obtain⟨I,c⟩:=underEnd
 have i:=Qa c;clear c;generalize d:QaE x e=m at C E;have j:Hid ((prog.info? 58).map (·.size)=some m.toList.length):=by show _=_;rw[<-d];exact sizeEnd
 clear d;go_enter func52,ntmps52
 go_wp2_with (refine wpList_load_mid Z 58 (.tmp 1) Z X 0 Z m.toList _ E.out i.out Z j.out ?_)
 refine C.out.mono ?_;rintro K J p;have D:=Qa p;obtain⟨G,H⟩:=p
 rcases G with ⟨q,y,rfl,F⟩|⟨q,rfl⟩
 rotate_left
 ·exact⟨Z,D.out⟩
 subst F;clear q H C;go_wp2
 exact Xz (v:=.tuple #[]) (by simp[results,results52,go_sem]) Z D.out
theorem QjF {s:JSt}{x:MEnd}{e:EP}(hA:∀ k,A k->k<w.heap.size) (hJ:JOk s) (h:SAt w b O A s) (hx:Qce w Q x e) (J:-9223372036854775808<=x.a/\x.a<=9223372036854775807) (hs:x.yes.regs.length<2305843009213693952/\x.yes.args.length<2305843009213693952/\x.no.regs.length<2305843009213693952/\x.no.args.length<2305843009213693952) :
 Calls prog 24 #[.pointer (some ⟨b,0,none⟩),.agg (QaE x e)] w fun r w'=>r=.returned (.int .i64 (s.fin x))/\Below w.heap.size w w':=by
 have af:∀ (fn:Fn) (first cap:Array Value) (w:World),(Instr.makeFunc fn first cap).run prog w=.ok (.func fn first cap) w:=fun _ _ _ _=>rfl;have U:=Qa hJ;have H0:=Qa h;have W:=Qa hA;have ad:=Qa J;have ac:=Qa hs;have b1:=QU w (.cells #[.pointer (some ⟨b,0,none⟩)] 28);have V:=QU (w.alloc (.cells #[.pointer (some ⟨b,0,none⟩)] 28)) (.cells #[.int .i64 x.op,.int .i64 x.a,.int .i64 x.yes.block,.slice e.pYR x.yes.regs.length e.cYR,.slice e.pYA x.yes.args.length e.cYA,.int .i64 x.no.block,.slice e.pNR x.no.regs.length e.cNR,.slice e.pNA x.no.args.length e.cNA,.slice e.pA x.args.length e.cA] 58);have S:=b1.trans (V.mono b1.size);have P:=Qa S;have H:=Qa (h.below S);have p:=Qa (hx.below S);have hS:Blk ((w.alloc (.cells #[.pointer (some ⟨b,0,none⟩)] 28)).alloc (.cells #[.int .i64 x.op,.int .i64 x.a,.int .i64 x.yes.block,.slice e.pYR x.yes.regs.length e.cYR,.slice e.pYA x.yes.args.length e.cYA,.int .i64 x.no.block,.slice e.pNR x.no.regs.length e.cNR,.slice e.pNA x.no.args.length e.cNA,.slice e.pA x.args.length e.cA] 58)) w.heap.size #[.pointer (some ⟨b,0,none⟩)] 28:=(Blk.new _ _ _:Blk (w.alloc (.cells #[.pointer (some ⟨b,0,none⟩)] 28)) w.heap.size _ _).below V
 have M:Blk ((w.alloc (.cells #[.pointer (some ⟨b,0,none⟩)] 28)).alloc (.cells #[.int .i64 x.op,.int .i64 x.a,.int .i64 x.yes.block,.slice e.pYR x.yes.regs.length e.cYR,.slice e.pYA x.yes.args.length e.cYA,.int .i64 x.no.block,.slice e.pNR x.no.regs.length e.cNR,.slice e.pNA x.no.args.length e.cNA,.slice e.pA x.args.length e.cA] 58)) (w.heap.size+1) (QaE x e) 58:=by
  have:=Blk.new (w.alloc (.cells #[.pointer (some ⟨b,0,none⟩)] 28)) (QaE x e) 58
  simpa using this
 have E:=Qa hS;have z:=Qa M;clear hS M b1 V S h hA hJ hx J hs;go_enter func24,ntmps24
 go_upto_region 1 with fail
 generalize (w.alloc (.cells #[.pointer (some ⟨b,0,none⟩)] 28)).alloc (.cells #[.int .i64 x.op,.int .i64 x.a,.int .i64 x.yes.block,.slice e.pYR x.yes.regs.length e.cYR,.slice e.pYA x.yes.args.length e.cYA,.int .i64 x.no.block,.slice e.pNR x.no.regs.length e.cNR,.slice e.pNA x.no.args.length e.cNA,.slice e.pA x.args.length e.cA] 58)=w1 at P H p E z |-;obtain⟨R,t⟩:∃ R,R=w.heap.size:=⟨_,Z⟩
 obtain⟨X,M⟩:∃ X,X=R+1:=⟨_,Z⟩
 rw[<-t] at E z |-
 rw[<-M] at z |-
 have I:=Qa t;clear M t;have s0:=Qb E.out 0 _ Z;have D:=Qa (Qe8 z.out);obtain⟨pm,cm,hh,a1,c1,a2,c2,a3,c3,aL,cL,RR⟩:=H.out.read
 obtain⟨-,-,q2,q3,q4,q5,-⟩:=RR.cells
 obtain⟨v,F⟩:∃ v,x.form s.f.blocks.length=v:=⟨_,Z⟩
 have n:Hid (x.form s.f.blocks.length=v):=F;have ab:=Qa (U.out.mod.2 s.f U.out.fn);clear F RR;refine Code.wp_mono ?_ (jE1 s0 q2 q3 q4 q5 D ac (by have:=ab.out.many.2;omega) n _ _ Z (Xg (by kernel_rfl)) Z Z);rintro ee aa i ⟨rfl,vs,rfl,K,L⟩;simp only[Zn,Act.put,List.setIfInBounds_toArray,List.set_cons_zero,List.set_cons_succ,K]
 have l:=Qa (P.out.trans (L.mono P.out.size));have G:=Qa (E.out.below L);have C:=Qa (z.out.below L);have B:=Qa (p.out.below L);clear L K s0 q2 q3 q4 q5 E z P H D p;by_cases o:v=0
 rotate_left
 ·have ae:(v != 0)=true:=by simpa using o
  have E1:Hid (s.fin x=v):=by show _=_;unfold JSt.fin;rw[n.out,Xs o]
  go_wp2_with fail
  go_ret;exact⟨by rw[E1.out];rfl,by first | exact l.out | (rw[I.out];exact l.out)⟩
 subst o;have N:=QU i (.cells #[.int .i64 0] 3);have d:=l.out.trans (N.mono l.out.size)
 have CK:Hid (Calls prog 33 #[.func (.func 52) #[] #[.pointer (some ⟨R,0,none⟩),.pointer (some ⟨X,0,none⟩)]] i fun en w'=>QfN i.heap.size (fun g=>s.fin x=0/\Below (i.alloc (.cells #[.int .i64 0] 3)).heap.size (i.alloc (.cells #[.int .i64 0] 3)) g) (fun c g=>s.fin x=c/\Below (i.alloc (.cells #[.int .i64 0] 3)).heap.size (i.alloc (.cells #[.int .i64 0] 3)) g) en w'):=by
  refine Qdc _ _ enters_end1 _ _ ?_;refine(Qia (G.out.below N) (C.out.below N) U.out (fun k T=>Zl (W.out k (H0.out.sub k T)) d.size) (H0.out.below d) (B.out.below N) ad.out n.out).mono ?_
  rintro en g ⟨hd,q⟩;have j:Blk g i.heap.size #[.int .i64 0] 3:=(Blk.new i #[.int .i64 0] 3).below q;rcases hd with ⟨hc,y,rfl,hy⟩|⟨hc,rfl⟩
  ·subst hy;exact⟨j,.inl ⟨Z,hc,q⟩⟩
  ·exact⟨j,.inr ⟨_,Z,Z,q⟩⟩
 have u:Hid (∀ g m,Below (i.alloc (.cells #[.int .i64 0] 3)).heap.size (i.alloc (.cells #[.int .i64 0] 3)) g->Chg i.heap.size g m->Below w.heap.size w m):=fun g m h1 h2 =>
  Chg.last (d.trans (h1.mono d.size)) h2 l.out.size (Zt d.size h1.size)
 clear N d G C B;go_wp2_with fail
 refine CK.out.mono ?_;intro e' m T
 have FF:Hid (e'=.returned (.int .i64 (s.fin x))/\Below w.heap.size w m):=by
  rcases T with ⟨g,⟨g1,g2⟩,rfl,g3⟩|⟨g,c,⟨g1,g2⟩,rfl,g4⟩
  ·exact⟨by rw[g1],u.out g m g2 g3⟩
  ·exact⟨by rw[g1],u.out g m g2 g4⟩
 obtain⟨rfl,-⟩:=id FF.out
 clear T CK u;go_wp2
 go_ret;first | exact⟨Z,FF.out.2⟩ | exact⟨Z,by rw[I.out];exact FF.out.2⟩
def Qbt {n:Nat}(w:World) (Q:Nat->Prop) (l:List (TT n)) (e:Ending) (w':World):Prop :=
 ∃ v ds,e=.returned v/\w'.ownsRow 0 70 3 v l.length ds/\(∀ g,v.ownBlock=some g->w.heap.size<=g)/\(∀ i x,l[i]?=some x->(Lay.tt n).In w Q x ((ds.drop (i*3)).take 3))/\Below w.heap.size w w'
theorem Qd0 {l:List (TT n)}(hN:l.length=N) (ai:N<=5000) (hl:(Qi n).In w Q l [.slice p N c]) :
 Calls prog 30 #[.slice p N c] w fun e w'=>Qbt w Q l e w':=by
 obtain⟨i0,hi,ae,ah,ag⟩:=pInfoT
 have q:∀ (w:World) (a:Option Addr) (n c R S:Nat),(binOp .eql 33 (.slice a n c) (.slice none R S)).run prog w=.ok (.bool a.isNone) w:=fun w a n c R S=>Lib.run_eql_slice_nil w _ _ a n c R S pUnderT;have B:=Qa hl;have v:=Qa hN;clear hl hN
 cases p with
 | none =>
   have z:l=[]:=by
    rcases l with _ | ⟨x,r⟩
    ·rfl
    ·obtain⟨g,o,A,e,-⟩:=Yf B.out (i:=0) (x:=x) Z
     cases e
   subst z;have ab:N=0:=by have:=v.out;simpa using this.symm
   subst ab;have F:Hid (Qbt w Q ([]:List (TT n)) (.returned (.slice none 0 0)) w):=⟨.slice none 0 0,[],Z,⟨Z,.inl ⟨Z,Z⟩⟩,fun g hg=>by simp[Value.ownBlock] at hg,fun i x L=>by simp at L,Zr⟩;clear B v;go_enter func30,ntmps30
   go_wp2
   go_ret;exact F.out
 | some ad =>
   have M:=QU w (.cells #[] 70);have d:(w.alloc (.cells #[] 70)).ownsRow 0 70 3 (.slice (some ⟨w.heap.size,0,none⟩) 0 0) 0 []:=⟨Z,.inr ⟨w.heap.size,0,#[],Z,Xb _,Qm w _ _,Ze,by unfold maxLen;omega,Z,Z⟩⟩;have m:=Qa M;have f:=Qa d;by_cases ac:N=0
   ·subst ac;have z:l=[]:=Xf.1 v.out;subst z;have ha:Hid (∀ (t:TypeId) (D:World),(Builtin.append_ #[33,33] t #[.slice (some ⟨w.heap.size,0,none⟩) 0 0,.slice (some ad) 0 c]).run prog D=.ok (.slice (some ⟨w.heap.size,0,none⟩) 0 0) D):=fun (t:TypeId) (D:World)=>run_append_nothing (P:=prog) D 33 33 t 70 i0 pUnderT hi (some ⟨w.heap.size,0,none⟩) 0 0 Ze (.slice (some ad) 0 c) (Src.ofSlice D pUnderT ad 0 c [] (by simp) (fun j u h=>by simp at h) (fun u h=>by cases h));have F:Hid (Qbt w Q ([]:List (TT n)) (.returned (.slice (some ⟨w.heap.size,0,none⟩) 0 0)) (w.alloc (.cells #[] 70))):=⟨_,[],Z,f.out,fun g hg=>by simp[Value.ownBlock] at hg;omega,fun i x L=>by simp at L,m.out⟩;clear B v m f d M;generalize af:w.alloc (.cells #[] 70)=w1 at F;go_enter func30,ntmps30
    go_wp2_with (at_builtin;refine Q8 Z (.tmp 5) (.tmp 6) 33 Z (.slice (some ⟨w.heap.size,0,none⟩) 0 0) (.slice (some ad) 0 c) Z Z (ha.out _ _) ?_)
    go_ret;first | exact F.out | (rw[af];exact F.out)
   ·obtain⟨J,I,e0⟩:∃ J I,(some ad)=some (⟨J,I,none⟩:Addr):=by
     obtain⟨g,o,dd,e,-⟩:=Yf B.out (Zg (show 0<l.length by have:=v.out;omega))
     exact⟨g,o,e⟩
    cases e0
    obtain⟨A,d1,d2,d3,d4⟩:=Lay.flat B.out (fun y cs hy=>by obtain⟨ya,yc,e,-⟩:=hy;subst e;exact Qfi _ _ _ _ _)
    have E:A.length=N*3:=by rw[<-v.out];exact d1
    have T:=Qa E;have aa:Hid (∀ (j:Nat) (u:Value),A[j]?=some u->(w.alloc (.cells #[] 70)).cell? ((⟨J,I,none⟩:Addr).add j)=some u):=fun j u hj=>Qp (d2 j u hj) m.out;have W:=Qa d3
    have G:Hid (∀ C g b,C.ownsRow 0 70 3 (.slice (some ⟨g,0,none⟩) N b) N A->(w.alloc (.cells #[] 70)).grownBy C (some w.heap.size)->(w.heap.size=g\/g=w.heap.size+1)->Qbt w Q l (.returned (.slice (some ⟨g,0,none⟩) N b)) C):=by
     intro C g b H s O;have V:=s.size;refine⟨_,A,Z,by rw[v.out];exact H,fun g' U=>?_,d4,⟨s.os.trans m.out.os,s.tape.trans m.out.tape,s.output.trans m.out.output,by simp at V;omega,fun k hk=>?_⟩⟩
     ·simp[Value.ownBlock] at U
      omega
     ·exact(s.block k (by simp;omega) (fun e=>by injection e with e;omega)).trans (m.out.block k hk)
    clear B m d1 E d2 d3 d4 d M;have K:0<N:=by omega
    have X:Hid (0<=(w.alloc (.cells #[] 70)).heap.size):=Xb _;go_enter func30,ntmps30
    go_wp2_with (at_builtin;refine wpList_append_lies _ Z (.tmp 5) (.tmp 6) 33 Z 0 70 i0 (.agg #[.int .i64 0,.int .i64 0,.slice none 0 0]) 3 40 pUnderT hi ae ah ag Z (by decide) _ _ _ Z f.out ⟨J,I,none⟩ N c A Z T.out aa.out W.out K (by unfold maxLen;omega) (by omega) X.out (w.heap.size+1) (by simp) ?_)
    intro g2 b C H s O r4;have Z9:=Qa (G.out C g2 b (by simpa using H) (by simpa[Value.ownBlock] using s) (by simpa[Value.ownBlock] using O));clear H s O r4 G f;go_wp2
    go_ret;first | exact Z9.out | simpa using Z9.out
def Qfs {n:Nat}(lo:Nat) (w:World) (g N i:Nat) (l:List (TT n)):Prop :=
 ∃ cur,w.heap[g]?=some (.cells cur 70 (0,0))/\N*3<=cur.size/\∀ (j:Nat) (x:TT n),l[j]?=some x->∃ a c,cur[j*3]?=some (.int .i64 x.kind)/\cur[j*3+1]?=some (.int .i64 x.r)/\cur[j*3+2]?=some (.slice a x.len c)/\TIn w (fun k=>k≠g/\(j<i->lo<=k)) x a
section
variable {n lo g N i:Nat}{w w':World}{l:List (TT n)}
theorem Qfs.below (h:Qfs lo w g N i l) (b:Below w.heap.size w w'):Qfs lo w' g N i l:=by
 obtain⟨d,e,n,q⟩:=h
 refine⟨d,(b.block g (XC e)).trans e,n,fun j x k=>?_⟩
 obtain⟨a,c,o,f,p,m⟩:=q j x k
 exact⟨a,c,o,f,p,m.below b⟩
theorem Qfs.lt (h:Qfs lo w g N i l):g<w.heap.size:=by obtain⟨b,a,-⟩:=h;exact XC a
theorem Qfs.free (h:Qfs lo w g N i l) (k:Nat):w.frozen? ⟨g,k,none⟩=false:=by obtain⟨b,a,-⟩:=h;exact Qn a k
theorem Qfs.at (h:Qfs lo w g N i l){x:TT n}(d:l[j]?=some x):∃ a c,w.cell? ⟨g,j*3+2,none⟩=some (.slice a x.len c)/\TIn w (fun k=>k≠g/\(j<i->lo<=k)) x a:=by
 obtain⟨m,b,q,o⟩:=h
 obtain⟨a,c,r,p,f,e⟩:=o j x d
 exact⟨a,c,Qb b _ _ f,e⟩
theorem Qfs.set (h:Qfs lo w g N i l){x:TT n}(s:l[i]?=some x) (v:i<N) (C:TIn w (fun k=>k≠g/\lo<=k) x a):Qfs lo (w.setCell ⟨g,i*3+2,none⟩ (.slice a x.len c)) g N (i+1) l:=by
 obtain⟨A,r,u,q⟩:=h
 refine⟨_,Qq r (i*3+2) (.slice a x.len c),by simpa using u,fun j y m=>?_⟩
 obtain⟨b,d,p,o,z,t⟩:=q j y m
 by_cases B:j=i
 ·subst B;rw[s] at m
  injection m with m
  subst m;refine⟨a,c,?_,?_,?_,(C.setCell (fun e=>e.1 Z) _).mono (fun k f _=>⟨f.1,fun _=>f.2⟩)⟩
  ·rw[Array.getElem?_setIfInBounds,Xr (by omega)];exact p
  ·rw[Array.getElem?_setIfInBounds,Xr (by omega)];exact o
  ·rw[Array.getElem?_setIfInBounds,Xs Z,Xs (by omega)]
 ·refine⟨b,d,?_,?_,?_,(t.setCell (fun e=>e.1 Z) _).mono (fun k f _=>⟨f.1,fun h=>f.2 (by omega)⟩)⟩
  ·rw[Array.getElem?_setIfInBounds,Xr (by omega)];exact p
  ·rw[Array.getElem?_setIfInBounds,Xr (by omega)];exact o
  ·rw[Array.getElem?_setIfInBounds,Xr (by omega)];exact z
theorem Qfs.lin (h:Qfs lo w g N i l) (s:l.length<=i) (r:lo<=g):LIn w (ZJ lo) l (some ⟨g,0,none⟩):=by
 obtain⟨q,b,t,e⟩:=h
 intro j x d;obtain⟨a,c,o,f,p,m⟩:=e j x d
 have u:j<l.length:=(Zi d).1;refine⟨g,0,a,c,Z,r,?_,?_,?_,m.mono (fun k n _=>n.2 (by omega))⟩
 ·rw[XK];exact Qb b _ _ o
 ·rw[XK];exact Qb b _ _ f
 ·rw[XK];exact Qb b _ _ p
end
def Qb7 {n:Nat}(w w':World) (l:List (TT n)) (e:Ending):Prop:=∃ a' c',e=.returned (.slice a' l.length c')/\l.length<=c'/\LIn w' (ZJ w.heap.size) l a'/\Below w.heap.size w w'
def Qkp (n:Nat):Prop:=∀ (l:List (TT n)) (a:Option Addr) (c:Nat) (w:World),(Qi n).In w All l [.slice a l.length c]->l.length<=5000->(∀ x∈l,x.count<=5000)->Calls prog 31 #[.slice a l.length c] w fun e w'=>Qb7 w w' l e
def Qj7 (n:Nat):Prop:=∀ (x:TT n) (a:Option Addr) (c:Nat) (w:World),TIn w All x a->x.ok->x.count<=5000->Calls prog 31 #[.slice a x.len c] w fun e w'=>∃ a' c',e=.returned (.slice a' x.len c')/\TIn w' (ZJ w.heap.size) x a'/\Below w.heap.size w w'
theorem Qbt.row {l:List (TT n)}{e:Ending}(h:Qbt w Q l e w'):∃ a c,e=.returned (.slice a l.length c)/\l.length<=c/\Below w.heap.size w w'/\(l≠[]->∃ g,a=some ⟨g,0,none⟩/\w.heap.size<=g/\Qfs w.heap.size w' g l.length 0 l):=by
 obtain⟨v,t,rfl,⟨K,y⟩,s,D,m⟩:=h
 rcases y with ⟨rfl,B⟩|⟨g,d,b,rfl,-,E,q,L,G,F⟩
 ·have z:l=[]:=Xf.1 B;subst z;exact⟨none,0,Z,Ze,m,fun e=>absurd Z e⟩
 ·refine⟨some ⟨g,0,none⟩,d,Z,q,m,fun _=>⟨g,Z,s g Z,b,E,?_,fun j x o=>?_⟩⟩
  ·have:l.length*3<=d*3:=Xp _ q
   omega
  ·have H:j<l.length:=(Zi o).1;obtain⟨a,c,e,A,J⟩:=D j x o
   have f:∀ i u,i<3->((t.drop (j*3)).take 3)[i]?=some u->b[j*3+i]?=some u:=fun i u C r=>by
    rw[XR,Xs C,List.getElem?_drop,<-F,XR,Xs (by omega),Array.getElem?_toList] at r
    exact r
   rw[e] at f
   have I:=s g Z;exact⟨a,c,f 0 _ (by omega) Z,f 1 _ (by omega) Z,f 2 _ (by omega) Z,(TIn.keep (O':=fun k=>k<w.heap.size) (fun k _ p=>m.block k p) (fun _ _ h=>h) A).mono (fun k p _=>⟨by omega,fun e=>absurd e (by omega)⟩)⟩
theorem QdS (n:Nat) (z:Qj7 n):Qkp n:=by
 intro l a c w I j h;have IH:Hid (Qj7 n):=z;have C:=Qa (Qd0 (c:=c) Z j I);have t:=Qa (QK I).2;have W:=Qa h;clear I h z;go_enter func31,ntmps31
 go_wp2_with fail
 refine C.out.mono ?_;intro e w1 r;obtain⟨S,F,rfl,v,X,d⟩:=r.row
 have f:=Qa X;have s:=Qa v;clear r C X v;obtain⟨N,B⟩:∃ N,l.length=N:=⟨_,Z⟩
 have E:=Qa B;rw[B] at j |-
 by_cases m:l=[]
 ·subst m;have J:N=0:=by have:=E.out;simpa using this.symm
  subst J;have L:Hid (Qb7 w w1 ([]:List (TT n)) (.returned (.slice S 0 F))):=⟨S,F,Z,Xb _,LIn.nil,f.out⟩;clear f s d t W;go_wp2
  go_loop [9] (fun i=>∃ k:Nat,k=0/\i=.int .i64 k) (fun _=>0)
  case atStart=>exact⟨0,Z,Z⟩
  case round =>
   obtain⟨k,rfl,rfl⟩:=hrel
   go_wp2
   go_ret;exact L.out
 ·obtain⟨g,rfl,U,b⟩:=d m
  rw[B] at b
  have Q:=Qa U;have V:=Qa b;clear d b U m B;go_wp2
  go_loopw [9] (fun i wr=>∃ k:Nat,k<=N/\i=.int .i64 k/\Qfs w.heap.size wr g N k l/\Below w.heap.size w wr) (fun i _=>N - (intOf i).toNat)
  case atStart=>exact⟨0,Xb _,Z,V.out,f.out⟩
  case round =>
   clear V f;obtain⟨k,P,rfl,hR,M⟩:=hrel
   have f:=Qa M;have D:=Qa hR;clear M hR;by_cases o:k<N
   ·have y:(k:Int)<N:=by omega
    have u:k<l.length:=by rw[E.out];exact o
    obtain⟨x,A⟩:∃ x,l[k]?=some x:=⟨_,Zg u⟩
    obtain⟨ak,ck,y2,ht⟩:=D.out.at A
    have q:=Zm A;have R:=Qa (IH.out x ak ck wr ht.all (t.out x q) (W.out x q));have HX:=Qa A;clear A u ht q;go_wp2_with fail
    refine R.out.mono ?_;rintro e w2 ⟨a2,c2,rfl,t2,K⟩;have G:=Qa (D.out.below K);have B2:=Qa (f.out.trans (K.mono f.out.size));have H:=D.out.lt;have O:=Qa (G.out.set (c:=c2) HX.out o (t2.mono (fun k P _=>⟨by omega,Zt f.out.size P⟩)));have T:Hid (Below w.heap.size w (w2.setCell ⟨g,k*3+2,none⟩ (.slice a2 x.len c2))):=B2.out.setCell (p:=⟨g,k*3+2,none⟩) Q.out _;have z2:=G.out.free (k*3+2);obtain⟨a4,c4,y4,-⟩:=G.out.at HX.out
    clear t2 K G B2 R y2 H;generalize x.len=xl at O T y4;go_wp2
    go_roundw
    case rel=>exact⟨k+1,o,by go_num,O.out,T.out⟩
    case measure=>simp[intOf];omega
   ·have y:¬ (k:Int)<N:=by omega
    have L:Hid (Qb7 w wr l (.returned (.slice (some ⟨g,0,none⟩) N F))):=⟨_,F,by rw[E.out],s.out,D.out.lin (by rw[E.out];omega) Q.out,f.out⟩;go_wp2
    go_ret;exact L.out
theorem kid_any:∀ n,Qj7 n
 | 0,x,_,_,_,_,_,_=>Empty.elim x
 | n+1,x,a,c,w,h,hok,hc=>by
   have b:x.2.2.length<=5000:=by have:=x.len_lt_count;rw[x.len_eq] at this;omega
   have s:(Qi n).In w All x.2.2 [.slice a x.2.2.length c]:=by
    refine⟨a,c,Z,fun i y d=>?_⟩
    obtain⟨g,o,l,k,e,p,f,u,t,q⟩:=h i y d
    refine⟨g,o,[.int .i64 y.kind,.int .i64 y.r,.slice l y.len k],e,Y,Xi w ⟨g,o+i*3,none⟩ f,fun j m=>?_,l,k,Z,q,hok.2 y (Zm d)⟩
    have m:j<3:=m;show w.cell? ⟨g,o+i*3+j,none⟩=_;match j,m with
    | 0,_=>exact f
    | 1,_=>exact u
    | 2,_=>exact t
    | j+3,h=>exact absurd h (by omega)
   refine(QdS n (kid_any n) x.2.2 a c w s b (fun y d=>by have:=x.count_kid d;omega)).mono ?_
   rintro e v ⟨l,k,rfl,-,p,f⟩;exact⟨l,k,Z,LIn.tree p,f⟩
theorem QgQ {s:JSt}(r:s.L.length<=80) (a:∀ x∈s.L,x.count<=5000) (h:SAt w b O A s) :
 Calls prog 9 #[.pointer (some ⟨b,0,none⟩)] w fun e w'=>Qb7 w w' s.L e:=by
 obtain⟨l,u,t,o,j,k,m,n,v,g,f,R⟩:=h.read
 obtain⟨-,-,-,-,-,-,i⟩:=R.cells
 have C:=Qa (QdS 6 (kid_any 6) s.L g f w (R.row.typesL) (by omega) a);clear R h a;go_enter func9,ntmps9
 go_wp2_with fail
 refine C.out.mono ?_;intro e w' c;have d:=Qa c;obtain⟨q,p,rfl,-⟩:=c
 clear C;go_wp2
 go_ret;exact d.out
theorem Xw:type_of% @of_decide_eq_false:=@of_decide_eq_false
theorem XA:type_of% @wp_ret:=@wp_ret
theorem XB:type_of% @wp_skip:=@wp_skip
theorem XJ:type_of% @wp_block:=@wp_block
theorem XW:type_of% @wp_seq_k:=@wp_seq_k
theorem Qai (l m:List Int) (p F:Option Addr) (c d:Nat) (w:World) (X:intsL.In w All l [.slice p l.length c]) (aa:intsL.In w All m [.slice F m.length d]) (bh:l.length<=4294967296) :
 Rd prog 14 #[.slice p l.length c,.slice F m.length d] w (.bool (bdec (l=m))):=by
 have hl:Hid _:=X;have hm:Hid _:=aa;clear X aa;refine Qv (n:=26) func14 Z Z Z <| fun a hF=>?_
 have o:=Ye w;replace hF:Fr 26 a [(0,.slice p l.length c),(1,.slice F m.length d)]:=hF;refine XW fun K1 a3=>rg hF fun g=>sa Y Z Z <| Yb fun a2 h2=>a3 _ _ <| XW fun K3 ao=>XW fun K4 ar=>rg h2 fun g=>sm Y Z Z <| Qcy Y Z Z <| sm Y Z Z <| Qcy Y Z Z <| sne Y Z Z Z <| Yb fun a5 h5=>ar _ _ <| Qt (t:=10) h5 Z (fun k=>?_) (fun k=>?_)
 ·have z:¬ l.length=m.length:=by have h8:=bne_iff_ne.1 k;omega
  have f:¬ l.length=m.length:=z;clear z;clear k;refine XW fun K6 au=>rg h5 fun g=>sa Y Z Z <| Yb fun a7 h7=>au _ _ ?_
  refine XA ?_;with_reducible repeat first | refine Qd ?_ | refine Qc ?_
  have R:¬ l=m:=by
   intro e
   first
    | exact f (by rw[e])
    | exact G (by rw[<-P.out,<-Q.out,e])
  exact Ql (t:=4) h7 Z Z ⟨by rw[Qh R],o.bel⟩
 have z:l.length=m.length:=by have h8:=XH.1 k;omega
 have f:Hid (l.length=m.length):=z;clear z;clear k;refine XB <| ao _ _ <| XW fun K8 a1=>XW fun K9 az=>rg h5 fun g=>sa Y Z Z <| Yb fun a9 s=>az _ _ <| XJ <| ZL (fun r a S=>∃ q:Nat,q<=l.length/\r=l.length - q/\(∀ j,j<q->l.getD j 0=m.getD j 0)/\Fr 26 a [(1,.slice F m.length d),(0,.slice p l.length c),(4,.bool false),(5,.int .i64 (q:Int))]/\Wd w S []) (l.length) ⟨0,Xb _,Z,(fun j hj=>by omega),(s.keep (s.keep (s.keep (s.keep s.nil (t:=5) Z) (t:=4) Z) (t:=0) Z) (t:=1) Z),o⟩ ?_
 clear s o;rintro r a6 af ⟨q,hq,hr,J,ah,C⟩ KL an;refine XW fun be ae=>XW fun ba ai=>rg ah fun g=>sm Y Z Z <| sm Y Z Z <| Qcy Y Z Z <| slt Y Z Z Z <| Yb fun H b=>ai _ _ <| Qt (t:=14) b Z (fun k=>?_) (fun k=>?_)
 ·have ay:q<l.length:=by have:=Xv k;omega
  clear k;have aw:q<m.length:=by have:=f.out;omega
  obtain⟨g1,o1,N,E1⟩:=QhX hl.out ay
  obtain⟨g2,o2,O,E2⟩:=QhX hm.out aw
  obtain⟨x,P⟩:∃ x,l.getD q 0=x:=⟨_,Z⟩
  obtain⟨y,Q⟩:∃ y,m.getD q 0=y:=⟨_,Z⟩
  rw[P] at E1
  rw[Q] at E2
  replace P:Hid _:=P;replace Q:Hid _:=Q;replace E1:Hid _:=E1;replace E2:Hid _:=E2;replace N:Hid _:=N;replace O:Hid _:=O;refine XB <| ae _ _ <| XW fun a4 ad=>XJ <| XW fun bd W=>?_
  have I:Fr 26 H [(1,.slice F m.length d),(0,.slice p l.length c),(4,.bool false),(5,.int .i64 (q:Int))]:=(b.keep (b.keep (b.keep (b.keep b.nil (t:=5) Z) (t:=4) Z) (t:=0) Z) (t:=1) Z);have ap:H.tmps.getD 0 undef=.slice p l.length c:=b.sl 0 _ Z;have am:H.tmps.getD 5 undef=.int .i64 (q:Int):=b.sl 5 _ Z;have ak:H.tmps.getD 1 undef=.slice F m.length d:=b.sl 1 _ Z;refine ZN 9 ([(0,fun v _=>v=.slice p l.length c),(5,fun v _=>v=.int .i64 (q:Int)),(1,fun v _=>v=.slice F m.length d),(17,fun v _=>v=.slice p l.length c),(18,fun v _=>v=.int .i64 (q:Int)),(19,fun v _=>v=.pointer (some ⟨g1,o1+q,none⟩)),(20,fun v _=>v=.int .i64 x),(21,fun v _=>v=.slice F m.length d),(22,fun v _=>v=.int .i64 (q:Int)),(23,fun v _=>v=.pointer (some ⟨g2,o2+q,none⟩)),(24,fun v _=>v=.int .i64 y),(25,fun v _=>v=.bool (x != y))]:Qb9) (fun S=>Wd w S []/\Below af.heap.size af S) (fun w S=>Below w.heap.size w S) (outs:=[0,5,1]) (gs:=[]) (bs:=[true,true,true,true,true,true,true,true,true]) (by kernel_rfl) I Z (by kernel_rfl) (by kernel_rfl) ?hR ?hG ⟨C.drewN 1,QQ (m:=1) Zr⟩ ⟨ap,am,ak,Y⟩ ?hA ?hend
  case hR =>
   iterate 12 refine⟨fun _ _ _ _ h=>h,?_⟩
   trivial
  case hG=>exact Y
  case hA =>
   iterate 2
    refine⟨fun a w o D K B=>?_,?_⟩
    ·obtain⟨E,-⟩:=D
     conv at E=>whnf;rhs;whnf
     go_simp;exact B _ _ Zr o Z
   refine⟨fun a w o D K B=>?_,?_⟩
   ·obtain⟨E,T,-⟩:=D
    conv at E=>whnf;rhs;whnf
    conv at T=>whnf;rhs;whnf
    have a0:=N.out;have aj:(0:Int)<=q:=by omega
    have av:(q:Int)<(l.length:Int):=by omega
    go_simp;exact B _ _ Zr o Z
   iterate 3
    refine⟨fun a w o D K B=>?_,?_⟩
    ·obtain⟨E,-⟩:=D
     conv at E=>whnf;rhs;whnf
     have u0:w.cell? ⟨g1,o1+q,none⟩=some (.int .i64 x):=Qk o.1.bel (E1.out 0 _ Z);go_simp;exact B _ _ Zr o Z
   refine⟨fun a w o D K B=>?_,?_⟩
   ·obtain⟨E,T,-⟩:=D
    conv at E=>whnf;rhs;whnf
    conv at T=>whnf;rhs;whnf
    have a0:=O.out;have aj:(0:Int)<=q:=by omega
    have av:(q:Int)<(m.length:Int):=by omega
    go_simp;exact B _ _ Zr o Z
   refine⟨fun a w o D K B=>?_,?_⟩
   ·obtain⟨E,-⟩:=D
    conv at E=>whnf;rhs;whnf
    have u0:w.cell? ⟨g2,o2+q,none⟩=some (.int .i64 y):=Qk o.1.bel (E2.out 0 _ Z);go_simp;exact B _ _ Zr o Z
   refine⟨fun a w o D K B=>?_,?_⟩
   ·obtain⟨E,T,-⟩:=D
    conv at E=>whnf;rhs;whnf
    conv at T=>whnf;rhs;whnf
    go_simp;exact B _ _ Zr o Z
   trivial
  case hend =>
   intro g ag al V hE U;have L:ag.tmps.getD 25 undef=.bool (x != y):=hE 25 Z;have u:Fr 26 ag [(25,.bool (x != y)),(1,.slice F m.length d),(0,.slice p l.length c),(4,.bool false),(5,.int .i64 (q:Int))]:=(U.cons L);clear L;have M:Wd w al []:=V.1;clear U V hE I b;clear C;refine wpList_nil <| W _ _ <| Qt (t:=25) u Z (fun k=>?_) (fun k=>?_)
   ·have z:¬ x=y:=bne_iff_ne.1 k
    have G:¬ x=y:=z;clear z;clear k;refine XW fun bc ab=>rg u fun g=>sa Y Z Z <| Yb fun bb aq=>ab _ _ ?_
    refine XA ?_;with_reducible repeat first | refine Qd ?_ | refine Qc ?_
    have R:¬ l=m:=by
     intro e
     first
      | exact f (by rw[e])
      | exact G (by rw[<-P.out,<-Q.out,e])
    exact Ql (t:=4) aq Z Z ⟨by rw[Qh R],M.bel⟩
   have z:x=y:=XH.1 k;have G:Hid (x=y):=z;clear z;clear k;refine XB <| ad _ _ <| rg u fun g=>sm Y Z Z <| sad (by omega) Y Z Z Z <| sa Y Z Z <| Yb fun bi A=>an _ _ (l.length - (q+1)) (by omega) ⟨q+1,by omega,Z,?_,(A.keep (A.keep (A.keep (A.keep A.nil (t:=5) Z) (t:=4) Z) (t:=0) Z) (t:=1) Z),M⟩
   ·intro j hj
    by_cases e:j=q
    ·subst e;rw[P.out,Q.out];exact G.out
    ·exact J j (by omega)
 have bg:q=l.length:=by have:=Xw k;omega
 clear k;refine wp_exit <| a1 _ _ <| XW fun a8 ac=>rg b fun g=>sa Y Z Z <| Yb fun bf ax=>ac _ _ ?_
 refine XA ?_;with_reducible repeat first | refine Qd ?_ | refine Qc ?_
 have R:l=m:=by
  refine List.ext_getElem f.out fun i h1 h2=>?_
  have:=J i (by omega)
  simpa[List.getD,h1,h2] using this
 exact Ql (t:=4) ax Z Z ⟨by rw[Qs R],C.bel⟩
theorem XD:type_of% @eq_of_beq:=@eq_of_beq
theorem XE:type_of% @ne_of_beq_false:=@ne_of_beq_false
theorem MTo.eq_of {x y:MTo}(a:x.block=y.block) (c:x.regs=y.regs) (b:x.args=y.args):x=y:=by cases x;cases y;simp_all
theorem QC.eq_of {x y:QC}(e:x.op=y.op) (g:x.a=y.a) (j:x.b=y.b) (i:x.c=y.c) (d:x.k=y.k) (l:x.n=y.n) (h:x.regs=y.regs) (f:x.args=y.args):x=y:=by cases x;cases y;simp_all
theorem MEnd.eq_of {x y:MEnd}(c:x.op=y.op) (d:x.a=y.a) (f:x.yes=y.yes) (e:x.no=y.no) (b:x.args=y.args):x=y:=by cases x;cases y;simp_all
theorem Qe.eq_of {x y:Qe n}(a:x.regs=y.regs) (d:x.params=y.params) (b:x.code=y.code) (c:x.fin=y.fin):x=y:=by cases x;cases y;simp_all
theorem Qf.eq_of {x y:Qf n}(a:x.regs=y.regs) (d:x.params=y.params) (b:x.results=y.results) (c:x.blocks=y.blocks):x=y:=by cases x;cases y;simp_all
theorem Qbu {A B:Prop}(h:A↔B):bdec A=bdec B:=by rw[propext h]
theorem QhE {f:FuncId}{args:Array Value}{A:Prop}(h:Calls prog f args w fun e w'=>Zx e A/\Below w.heap.size w w'):Rd prog f args w (.bool (bdec A)) :=
 h.mono fun e w' h=>by
  obtain⟨⟨q,rfl,a⟩,b⟩:=h
  exact⟨by rw[Qee a],b⟩
theorem Qam {l m:List (TT n)}{q:Option Addr}(b:(Qi n).In w All l [.slice p l.length c]) (e:(Qi n).In w All m [.slice q m.length d]) (a:Qb3 l):Rd prog 13 #[.slice p l.length c,.slice q m.length d] w (.bool (bdec (l=m))) :=
 QhE (QeN n (samet_any n) l m p q c d w (QK b).1 (QK e).1 (by have:=a.1;omega) a.2)
theorem Qf3 {l m:List (TT n)}{q:Option Addr}(b:(Qi n).In w All l [.slice p l.length c]) (e:(Qi n).In w All m [.slice q m.length d]) (a:Qb3 l):Rd prog 141 #[.slice p l.length c,.slice q m.length d,.func (.func 114) #[] #[]] w (.bool (bdec (l=m))) :=
 QhE (QhO n (same_any n) l m p q c d w (QK b).1 (QK e).1 (by have:=a.1;omega) a.2)
theorem QdU {x y:MTo}{z D:Option Addr}{B A:Nat}(v:QcO w All x pR cR pA cA) (p:QcO w All y z B D A) (q:x.small) :
 Rd prog 88 #[.agg #[.int .i64 x.block,.slice pR x.regs.length cR,.slice pA x.args.length cA],.agg #[.int .i64 y.block,.slice z y.regs.length B,.slice D y.args.length A]] w (.bool (bdec (x=y))):=by
 have L:Hid _:=v;have M:Hid _:=p;have N:Hid _:=q;clear v p q;refine Qv (n:=24) func88 Z Z Z <| fun a G=>?_
 have X:=Ye w;replace G:Fr 24 a [(0,.agg #[.int .i64 x.block,.slice pR x.regs.length cR,.slice pA x.args.length cA]),(1,.agg #[.int .i64 y.block,.slice z y.regs.length B,.slice D y.args.length A])]:=G;refine XW fun K1 H=>rg G fun l=>sB X Y Z Z <| fun w2 B2 K Q=>sB K Y Z Z <| fun V B3 d Q=>sa Y Z Z <| Yb fun a4 U=>H _ _ <| XW fun K5 k=>Q5 <| fun l i=>?_
 have c:(l[5]?).bind (fun o:Oper=>o.dst)=some 10:=i 5;have b:(l[12]?).bind (fun o:Oper=>o.dst)=some 17:=i 12;clear i;refine St.go U <| sfTo0 Y Z Z <| Q7 1 d Y Z Z Z Z <| sfTo0 Y Z Z <| Q7 0 d Y Z Z Z Z <| seq Y Z Z Z <| sm Y Z Z <| fun a6 C=>?_
 rcases Xa (x.block==y.block) with f | f
 ·rw[f] at C
  have j:x.block=y.block:=XD f;have I:Hid (x.block=y.block):=j;clear j;clear f;refine St.go C <| sfTo1 ⟨_,c,Z,Z⟩ Z Z <| Qat 1 d ⟨_,c,Z,Z⟩ Z Z Z Z <| sfTo1 ⟨_,c,Z,Z⟩ Z Z <| Qat 0 d ⟨_,c,Z,Z⟩ Z Z Z Z ?_
  refine QdF cf14 d (Qai x.regs y.regs pR z cR B V (Ya L.out.regs d.bel) (Ya M.out.regs d.bel) (by have:=N.out.1;omega)) ⟨_,c,Z,Z⟩ Z Z Z ?_;clear d;intro S g;refine sp Y Z Z Z <| sm Y Z Z <| fun a9 j=>?_
  rcases Xa (bdec (x.regs=y.regs)) with f | f
  ·rw[f] at j
   have u:(x.regs=y.regs):=Zj.1 f;clear f;refine St.go j <| sfTo2 ⟨_,b,Z,Z⟩ Z Z <| Qat 1 g ⟨_,b,Z,Z⟩ Z Z Z Z <| sfTo2 ⟨_,b,Z,Z⟩ Z Z <| Qat 0 g ⟨_,b,Z,Z⟩ Z Z Z Z ?_
   refine QdF cf14 g (Qai x.args y.args pA D cA A S (Ya L.out.args g.bel) (Ya M.out.args g.bel) (by have:=N.out.2;omega)) ⟨_,b,Z,Z⟩ Z Z Z ?_;clear g;intro P r;refine sp Y Z Z Z <| sa Y Z Z <| Yb fun W E=>k _ _ ?_
   refine XA ?_;with_reducible repeat first | refine Qd ?_ | refine Qc ?_
   have R:x.args=y.args↔x=y:=⟨fun h=>MTo.eq_of I.out u h,fun e=>by rw[e]⟩;exact Ql (t:=4) E Z Z ⟨by rw[Qbu R],r.bel⟩
  rw[f] at j
  have m:¬ (x.regs=y.regs):=fun h=>by rw[Qs h] at f;cases f
  clear f;refine St.go j <| so b Z Z Z Z <| so b Z Z Z Z <| so b Z Z Z Z <| so b Z Z Z Z <| so b Z Z Z Z <| spf Y Z Z Z <| sa Y Z Z <| Yb fun O J=>k _ _ ?_
  refine XA ?_;with_reducible repeat first | refine Qd ?_ | refine Qc ?_
  have R:¬ x=y:=fun e=>m (by rw[e]);exact Ql (t:=4) J Z Z ⟨by rw[Qh R],g.bel⟩
 rw[f] at C
 have j:¬ x.block=y.block:=XE f;have s:¬ x.block=y.block:=j;clear j;clear f;refine St.go C <| so c Z Z Z Z <| so c Z Z Z Z <| so c Z Z Z Z <| so c Z Z Z Z <| so c Z Z Z Z <| spf Y Z Z Z <| sm Y Z Z <| so b Z Z Z Z <| so b Z Z Z Z <| so b Z Z Z Z <| so b Z Z Z Z <| so b Z Z Z Z <| spf Y Z Z Z <| sa Y Z Z <| Yb fun T F=>k _ _ ?_
 refine XA ?_;with_reducible repeat first | refine Qd ?_ | refine Qc ?_
 have R:¬ x=y:=fun e=>s (by rw[e]);exact Ql (t:=4) F Z Z ⟨by rw[Qh R],d.bel⟩
theorem Qga {x y:QC}{i j:IP}(K:IIn w All x i) (U:IIn w All y j) (V:x.small) :
 Rd prog 87 #[.agg #[.int .i64 x.op,.int .i64 x.a,.int .i64 x.b,.int .i64 x.c,.int .i64 x.k,.int .i64 x.n,.slice i.pR x.regs.length i.cR,.slice i.pA x.args.length i.cA],.agg #[.int .i64 y.op,.int .i64 y.a,.int .i64 y.b,.int .i64 y.c,.int .i64 y.k,.int .i64 y.n,.slice j.pR y.regs.length j.cR,.slice j.pA y.args.length j.cA]] w (.bool (bdec (x=y))):=by
 have hx:Hid _:=K;have hy:Hid _:=U;have hs:Hid _:=V;clear K U V;refine Qv (n:=59) func87 Z Z Z <| fun a hF=>?_
 have hW:=Ye w;replace hF:Fr 59 a [(0,.agg #[.int .i64 x.op,.int .i64 x.a,.int .i64 x.b,.int .i64 x.c,.int .i64 x.k,.int .i64 x.n,.slice i.pR x.regs.length i.cR,.slice i.pA x.args.length i.cA]),(1,.agg #[.int .i64 y.op,.int .i64 y.a,.int .i64 y.b,.int .i64 y.c,.int .i64 y.k,.int .i64 y.n,.slice j.pR y.regs.length j.cR,.slice j.pA y.args.length j.cA])]:=hF;refine XW fun K1 am=>rg hF fun A=>sB hW Y Z Z <| fun w2 B2 ag hN=>sB ag Y Z Z <| fun w3 B3 q hN=>sa Y Z Z <| Yb fun a4 h4=>am _ _ <| XW fun K5 B=>Q5 <| fun A u=>?_
 have z:(A[5]?).bind (fun o:Oper=>o.dst)=some 10:=u 5;have r:(A[12]?).bind (fun o:Oper=>o.dst)=some 17:=u 12;have m:(A[19]?).bind (fun o:Oper=>o.dst)=some 24:=u 19;have l:(A[26]?).bind (fun o:Oper=>o.dst)=some 31:=u 26;have g:(A[33]?).bind (fun o:Oper=>o.dst)=some 38:=u 33;have f:(A[40]?).bind (fun o:Oper=>o.dst)=some 45:=u 40;have d:(A[47]?).bind (fun o:Oper=>o.dst)=some 52:=u 47;clear u;refine St.go h4 <| sfIns0 Y Z Z <| Q7 1 q Y Z Z Z Z <| sfIns0 Y Z Z <| Q7 0 q Y Z Z Z Z <| seq Y Z Z Z <| sm Y Z Z <| fun a6 h6=>?_
 rcases Xa (x.op==y.op) with p | p
 ·rw[p] at h6
  have s:x.op=y.op:=XD p;have al:Hid (x.op=y.op):=s;clear s;clear p;refine St.go h6 <| sfIns1 ⟨_,z,Z,Z⟩ Z Z <| Q7 1 q ⟨_,z,Z,Z⟩ Z Z Z Z <| sfIns1 ⟨_,z,Z,Z⟩ Z Z <| Q7 0 q ⟨_,z,Z,Z⟩ Z Z Z Z <| seq ⟨_,z,Z,Z⟩ Z Z Z <| sp Y Z Z Z <| sm Y Z Z <| fun a8 h8=>?_
  rcases Xa (x.a==y.a) with p | p
  ·rw[p] at h8
   have s:x.a=y.a:=XD p;have ah:Hid (x.a=y.a):=s;clear s;clear p;refine St.go h8 <| sfIns2 ⟨_,r,Z,Z⟩ Z Z <| Q7 1 q ⟨_,r,Z,Z⟩ Z Z Z Z <| sfIns2 ⟨_,r,Z,Z⟩ Z Z <| Q7 0 q ⟨_,r,Z,Z⟩ Z Z Z Z <| seq ⟨_,r,Z,Z⟩ Z Z Z <| sp Y Z Z Z <| sm Y Z Z <| fun ap F=>?_
   rcases Xa (x.b==y.b) with p | p
   ·rw[p] at F
    have s:x.b=y.b:=XD p;have T:Hid (x.b=y.b):=s;clear s;clear p;refine St.go F <| sfIns3 ⟨_,m,Z,Z⟩ Z Z <| Q7 1 q ⟨_,m,Z,Z⟩ Z Z Z Z <| sfIns3 ⟨_,m,Z,Z⟩ Z Z <| Q7 0 q ⟨_,m,Z,Z⟩ Z Z Z Z <| seq ⟨_,m,Z,Z⟩ Z Z Z <| sp Y Z Z Z <| sm Y Z Z <| fun a1 C=>?_
    rcases Xa (x.c==y.c) with p | p
    ·rw[p] at C
     have s:x.c=y.c:=XD p;have P:Hid (x.c=y.c):=s;clear s;clear p;refine St.go C <| sfIns4 ⟨_,l,Z,Z⟩ Z Z <| Q7 1 q ⟨_,l,Z,Z⟩ Z Z Z Z <| sfIns4 ⟨_,l,Z,Z⟩ Z Z <| Q7 0 q ⟨_,l,Z,Z⟩ Z Z Z Z <| seq ⟨_,l,Z,Z⟩ Z Z Z <| sp Y Z Z Z <| sm Y Z Z <| fun ao D=>?_
     rcases Xa (x.k==y.k) with p | p
     ·rw[p] at D
      have s:x.k=y.k:=XD p;have M:Hid (x.k=y.k):=s;clear s;clear p;refine St.go D <| sfIns5 ⟨_,g,Z,Z⟩ Z Z <| Qix 1 q ⟨_,g,Z,Z⟩ Z Z Z Z <| sfIns5 ⟨_,g,Z,Z⟩ Z Z <| Qix 0 q ⟨_,g,Z,Z⟩ Z Z Z Z <| QlM ⟨_,g,Z,Z⟩ Z Z Z <| sp Y Z Z Z <| sm Y Z Z <| fun ar G=>?_
      rcases Xa (x.n==y.n) with p | p
      ·rw[p] at G
       have s:x.n=y.n:=XD p;have L:Hid (x.n=y.n):=s;clear s;clear p;refine St.go G <| sfIns6 ⟨_,f,Z,Z⟩ Z Z <| Qat 1 q ⟨_,f,Z,Z⟩ Z Z Z Z <| sfIns6 ⟨_,f,Z,Z⟩ Z Z <| Qat 0 q ⟨_,f,Z,Z⟩ Z Z Z Z ?_
       refine QdF cf14 q (Qai x.regs y.regs i.pR j.pR i.cR j.cR w3 (Ya hx.out.regs q.bel) (Ya hy.out.regs q.bel) (by have:=hs.out.1;omega)) ⟨_,f,Z,Z⟩ Z Z Z ?_;clear q;intro ac v;refine sp Y Z Z Z <| sm Y Z Z <| fun ax E=>?_
       rcases Xa (bdec (x.regs=y.regs)) with p | p
       ·rw[p] at E
        have H:(x.regs=y.regs):=Zj.1 p;clear p;refine St.go E <| sfIns7 ⟨_,d,Z,Z⟩ Z Z <| Qat 1 v ⟨_,d,Z,Z⟩ Z Z Z Z <| sfIns7 ⟨_,d,Z,Z⟩ Z Z <| Qat 0 v ⟨_,d,Z,Z⟩ Z Z Z Z ?_
        refine QdF cf14 v (Qai x.args y.args i.pA j.pA i.cA j.cA ac (Ya hx.out.args v.bel) (Ya hy.out.args v.bel) (by have:=hs.out.2;omega)) ⟨_,d,Z,Z⟩ Z Z Z ?_;clear v;intro aw X;refine sp Y Z Z Z <| sa Y Z Z <| Yb fun av ae=>B _ _ ?_
        refine XA ?_;with_reducible repeat first | refine Qd ?_ | refine Qc ?_
        have R:x.args=y.args↔x=y:=⟨fun h=>QC.eq_of al.out ah.out T.out P.out M.out L.out H h,fun e=>by rw[e]⟩;exact Ql (t:=4) ae Z Z ⟨by rw[Qbu R],X.bel⟩
       rw[p] at E
       have Q:¬ (x.regs=y.regs):=fun h=>by rw[Qs h] at p;cases p
       clear p;refine St.go E <| so d Z Z Z Z <| so d Z Z Z Z <| so d Z Z Z Z <| so d Z Z Z Z <| so d Z Z Z Z <| spf Y Z Z Z <| sa Y Z Z <| Yb fun a2 aj=>B _ _ ?_
       refine XA ?_;with_reducible repeat first | refine Qd ?_ | refine Qc ?_
       have R:¬ x=y:=fun e=>Q (by rw[e]);exact Ql (t:=4) aj Z Z ⟨by rw[Qh R],v.bel⟩
      rw[p] at G
      have s:¬ x.n=y.n:=XE p;have J:¬ x.n=y.n:=s;clear s;clear p;refine St.go G <| so f Z Z Z Z <| so f Z Z Z Z <| so f Z Z Z Z <| so f Z Z Z Z <| so f Z Z Z Z <| spf Y Z Z Z <| sm Y Z Z <| so d Z Z Z Z <| so d Z Z Z Z <| so d Z Z Z Z <| so d Z Z Z Z <| so d Z Z Z Z <| spf Y Z Z Z <| sa Y Z Z <| Yb fun ay ad=>B _ _ ?_
      refine XA ?_;with_reducible repeat first | refine Qd ?_ | refine Qc ?_
      have R:¬ x=y:=fun e=>J (by rw[e]);exact Ql (t:=4) ad Z Z ⟨by rw[Qh R],q.bel⟩
     rw[p] at D
     have s:¬ x.k=y.k:=XE p;have I:¬ x.k=y.k:=s;clear s;clear p;refine St.go D <| so g Z Z Z Z <| so g Z Z Z Z <| so g Z Z Z Z <| so g Z Z Z Z <| so g Z Z Z Z <| spf Y Z Z Z <| sm Y Z Z <| so f Z Z Z Z <| so f Z Z Z Z <| so f Z Z Z Z <| so f Z Z Z Z <| so f Z Z Z Z <| spf Y Z Z Z <| sm Y Z Z <| so d Z Z Z Z <| so d Z Z Z Z <| so d Z Z Z Z <| so d Z Z Z Z <| so d Z Z Z Z <| spf Y Z Z Z <| sa Y Z Z <| Yb fun a0 ab=>B _ _ ?_
     refine XA ?_;with_reducible repeat first | refine Qd ?_ | refine Qc ?_
     have R:¬ x=y:=fun e=>I (by rw[e]);exact Ql (t:=4) ab Z Z ⟨by rw[Qh R],q.bel⟩
    rw[p] at C
    have s:¬ x.c=y.c:=XE p;have S:¬ x.c=y.c:=s;clear s;clear p;refine St.go C <| so l Z Z Z Z <| so l Z Z Z Z <| so l Z Z Z Z <| so l Z Z Z Z <| so l Z Z Z Z <| spf Y Z Z Z <| sm Y Z Z <| so g Z Z Z Z <| so g Z Z Z Z <| so g Z Z Z Z <| so g Z Z Z Z <| so g Z Z Z Z <| spf Y Z Z Z <| sm Y Z Z <| so f Z Z Z Z <| so f Z Z Z Z <| so f Z Z Z Z <| so f Z Z Z Z <| so f Z Z Z Z <| spf Y Z Z Z <| sm Y Z Z <| so d Z Z Z Z <| so d Z Z Z Z <| so d Z Z Z Z <| so d Z Z Z Z <| so d Z Z Z Z <| spf Y Z Z Z <| sa Y Z Z <| Yb fun aq aa=>B _ _ ?_
    refine XA ?_;with_reducible repeat first | refine Qd ?_ | refine Qc ?_
    have R:¬ x=y:=fun e=>S (by rw[e]);exact Ql (t:=4) aa Z Z ⟨by rw[Qh R],q.bel⟩
   rw[p] at F
   have s:¬ x.b=y.b:=XE p;have O:¬ x.b=y.b:=s;clear s;clear p;refine St.go F <| so m Z Z Z Z <| so m Z Z Z Z <| so m Z Z Z Z <| so m Z Z Z Z <| so m Z Z Z Z <| spf Y Z Z Z <| sm Y Z Z <| so l Z Z Z Z <| so l Z Z Z Z <| so l Z Z Z Z <| so l Z Z Z Z <| so l Z Z Z Z <| spf Y Z Z Z <| sm Y Z Z <| so g Z Z Z Z <| so g Z Z Z Z <| so g Z Z Z Z <| so g Z Z Z Z <| so g Z Z Z Z <| spf Y Z Z Z <| sm Y Z Z <| so f Z Z Z Z <| so f Z Z Z Z <| so f Z Z Z Z <| so f Z Z Z Z <| so f Z Z Z Z <| spf Y Z Z Z <| sm Y Z Z <| so d Z Z Z Z <| so d Z Z Z Z <| so d Z Z Z Z <| so d Z Z Z Z <| so d Z Z Z Z <| spf Y Z Z Z <| sa Y Z Z <| Yb fun az af=>B _ _ ?_
   refine XA ?_;with_reducible repeat first | refine Qd ?_ | refine Qc ?_
   have R:¬ x=y:=fun e=>O (by rw[e]);exact Ql (t:=4) af Z Z ⟨by rw[Qh R],q.bel⟩
  rw[p] at h8
  have s:¬ x.a=y.a:=XE p;have N:¬ x.a=y.a:=s;clear s;clear p;refine St.go h8 <| so r Z Z Z Z <| so r Z Z Z Z <| so r Z Z Z Z <| so r Z Z Z Z <| so r Z Z Z Z <| spf Y Z Z Z <| sm Y Z Z <| so m Z Z Z Z <| so m Z Z Z Z <| so m Z Z Z Z <| so m Z Z Z Z <| so m Z Z Z Z <| spf Y Z Z Z <| sm Y Z Z <| so l Z Z Z Z <| so l Z Z Z Z <| so l Z Z Z Z <| so l Z Z Z Z <| so l Z Z Z Z <| spf Y Z Z Z <| sm Y Z Z <| so g Z Z Z Z <| so g Z Z Z Z <| so g Z Z Z Z <| so g Z Z Z Z <| so g Z Z Z Z <| spf Y Z Z Z <| sm Y Z Z <| so f Z Z Z Z <| so f Z Z Z Z <| so f Z Z Z Z <| so f Z Z Z Z <| so f Z Z Z Z <| spf Y Z Z Z <| sm Y Z Z <| so d Z Z Z Z <| so d Z Z Z Z <| so d Z Z Z Z <| so d Z Z Z Z <| so d Z Z Z Z <| spf Y Z Z Z <| sa Y Z Z <| Yb fun au ai=>B _ _ ?_
  refine XA ?_;with_reducible repeat first | refine Qd ?_ | refine Qc ?_
  have R:¬ x=y:=fun e=>N (by rw[e]);exact Ql (t:=4) ai Z Z ⟨by rw[Qh R],q.bel⟩
 rw[p] at h6
 have s:¬ x.op=y.op:=XE p;have W:¬ x.op=y.op:=s;clear s;clear p;refine St.go h6 <| so z Z Z Z Z <| so z Z Z Z Z <| so z Z Z Z Z <| so z Z Z Z Z <| so z Z Z Z Z <| spf Y Z Z Z <| sm Y Z Z <| so r Z Z Z Z <| so r Z Z Z Z <| so r Z Z Z Z <| so r Z Z Z Z <| so r Z Z Z Z <| spf Y Z Z Z <| sm Y Z Z <| so m Z Z Z Z <| so m Z Z Z Z <| so m Z Z Z Z <| so m Z Z Z Z <| so m Z Z Z Z <| spf Y Z Z Z <| sm Y Z Z <| so l Z Z Z Z <| so l Z Z Z Z <| so l Z Z Z Z <| so l Z Z Z Z <| so l Z Z Z Z <| spf Y Z Z Z <| sm Y Z Z <| so g Z Z Z Z <| so g Z Z Z Z <| so g Z Z Z Z <| so g Z Z Z Z <| so g Z Z Z Z <| spf Y Z Z Z <| sm Y Z Z <| so f Z Z Z Z <| so f Z Z Z Z <| so f Z Z Z Z <| so f Z Z Z Z <| so f Z Z Z Z <| spf Y Z Z Z <| sm Y Z Z <| so d Z Z Z Z <| so d Z Z Z Z <| so d Z Z Z Z <| so d Z Z Z Z <| so d Z Z Z Z <| spf Y Z Z Z <| sa Y Z Z <| Yb fun an ak=>B _ _ ?_
 refine XA ?_;with_reducible repeat first | refine Qd ?_ | refine Qc ?_
 have R:¬ x=y:=fun e=>W (by rw[e]);exact Ql (t:=4) ak Z Z ⟨by rw[Qh R],q.bel⟩
abbrev QJ (p:Int × Int):Value:=.agg #[.int .i64 p.1,.int .i64 p.2]
def atF (c p:Int):Int × Int:=if c=0 then (0,0) else (c,p)
theorem QbP {α:Type}{f:Nat->α->Int × Int}:∀ {l:List α}{j:Nat},firstF (fun i x=>atF (f i x).1 (f i x).2) j l=firstF f j l
 | [],_=>rfl
 | x::xs,j=>by
   simp only[firstF,atF]
   by_cases h:(f j x).1=0
   ·simp only[h,if_true,ne_eq,not_true_eq_false,if_false]
    exact QbP
   ·simp[h]
def Qf.code {n:Nat}(f:Nat) (x:Qf n):Int :=
 if x.regs<0\/6<x.regs then 1 else if listC x.regs x.params≠0 then listC x.regs x.params else if listC x.regs x.results≠0 then listC x.regs x.results
 else if x.blocks.length<1\/12<x.blocks.length then 2 else if f=0/\¬ (x.regs=0/\x.params.length=0/\x.results.all (fun t=>t.kind==1)=true) then 18 else 0
theorem Qf.fault_eq (a f:Nat) (x:Qf n):Qf.fault a f x=if x.code f=0 then firstF (fun b y=>Qe.fault a f x b y) 0 x.blocks else (x.code f,10000*(f:Int)+9999):=by
 unfold Qf.fault Qf.code;generalize listC x.regs x.params=e;generalize listC x.regs x.results=c;generalize firstF (fun b y=>Qe.fault a f x b y) 0 x.blocks=d;repeat' split
 all_goals first | rfl | (exfalso;omega) | contradiction
def Qe.code' {n:Nat}(fn:Qf n) (b:Nat) (x:Qe n):Int :=
 if x.regs<fn.regs\/16<x.regs then 1 else if listC x.regs x.params≠0 then listC x.regs x.params
 else if b=0/\(x.regs≠fn.regs\/QbK x.params fn.params=false) then 9 else if 40<x.code.length then 2 else 0
theorem Qe.fault_eq (a f:Nat) (fn:Qf n) (b:Nat) (x:Qe n):Qe.fault a f fn b x =
 if x.code' fn b=0 then (if (firstF (fun i y=>(QC.form a y,(10000*f+100*b+i:Int))) 0 x.code).1=0 then atF (x.fin.form fn.blocks.length) (10000*(f:Int)+100*(b:Int)+91)
  else firstF (fun i y=>(QC.form a y,(10000*f+100*b+i:Int))) 0 x.code) else (x.code' fn b,10000*(f:Int)+100*(b:Int)+90):=by
 unfold Qe.fault Qe.code' atF;generalize firstF (fun i y=>(QC.form a y,(10000*f+100*b+i:Int))) 0 x.code=c;generalize x.fin.form fn.blocks.length=d;generalize listC x.regs x.params=e;repeat' split
 all_goals first | rfl | (exfalso;omega) | contradiction
def Qft {n:Nat}:Nat->List (TT n)->Int
 | _,[]=>-1
 | i,t::ts=>if t.kind=1 then Qft (i+1) ts else (i:Int)
theorem QiM {n:Nat}:∀ (l:List (TT n)) (i j:Nat) (x:TT n),l[i]?=some x->(∀ k y,k<i->l[k]?=some y->y.kind=1)->¬ x.kind=1->Qft j l=((j+i:Nat):Int)
 | [],i,j,x,h,_,_=>by simp at h
 | y::ys,0,j,x,h,_,hx=>by
   simp at h;subst h
   simp[Qft,hx]
 | y::ys,i+1,j,x,h,hz,hx=>by
   have b:y.kind=1:=hz 0 y (by omega) Z;simp only[Qft,b,if_true]
   rw[QiM ys i (j+1) x (by simpa using h) (fun k z c a=>hz (k+1) z (by omega) (by simpa using a)) hx]
   congr 1;omega
theorem Qij {n:Nat}:∀ (l:List (TT n)) (j:Nat),(∀ (k:Nat) y,l[k]?=some y->y.kind=1)->Qft j l=-1
 | [],_,_=>rfl
 | y::ys,j,h=>by
   have a:y.kind=1:=h 0 y Z;simp only[Qft,a,if_true]
   exact Qij ys (j+1) (fun k z b=>h (k+1) z (by simpa using b))
theorem Qgc {n:Nat}:∀ (l:List (TT n)) (j:Nat),(0<=Qft j l)↔¬ l.all (fun t=>t.kind==1)=true
 | [],j=>by simp[Qft]
 | y::ys,j=>by
   by_cases h:y.kind=1
   ·simp only[Qft,h,if_true,List.all_cons,beq_self_eq_true,Bool.true_and]
    exact Qgc ys (j+1)
   ·simp[Qft,h]
theorem QeT {t:TT n}{regs:Int}(d:TIn w All t a) (b:t.count<=100000):Rd prog 89 #[Tv t a c,.int .i64 regs] w (.int .i64 (t.check regs)):=typeFaultT_any n t a c regs w d b
theorem QiY {t:TT n}{regs:Int}(d:TIn w All t a) (b:t.count<=100000):Rd prog 113 #[Tv t a c,.int .i64 regs] w (.int .i64 (t.check regs)):=check_any n t a c regs w d b
theorem Qdr {α:Type}{f:α->Int}:∀ {l:List α}{i:Nat}{x:α},l[i]?=some x->(∀ k y,k<i->l[k]?=some y->f y=0)->f x≠0->QE f l=f x
 | [],i,x,h,_,_=>by simp at h
 | y::ys,0,x,h,_,hf=>by
   simp at h;subst h
   simp[QE,hf]
 | y::ys,i+1,x,h,hz,hf=>by
   have b:f y=0:=hz 0 y (by omega) Z;simp only[QE,b,ne_eq,not_true_eq_false,if_false]
   exact Qdr (by simpa using h) (fun k z c a=>hz (k+1) z (by omega) (by simpa using a)) hf
theorem Qc3 {α:Type}{f:α->Int}:∀ {l:List α},(∀ (k:Nat) y,l[k]?=some y->f y=0)->QE f l=0
 | [],_=>rfl
 | y::ys,h=>by
   have a:f y=0:=h 0 y Z;simp only[QE,a,ne_eq,not_true_eq_false,if_false]
   exact Qc3 (fun k z b=>h (k+1) z (by simpa using b))
theorem Qbp {l:List (TT n)}{regs:Int}(F:(Qi n).In w All l [.slice p l.length c]) (D:Qb3 l) :
 Rd prog 49 #[.slice p l.length c,.int .i64 regs] w (.int .i64 (listC regs l)):=by
 have hl:Hid _:=F;have hs:Hid _:=D;have aq:=D.1;clear F D;refine Qv (n:=25) func49 Z Z Z <| fun a W=>?_
 have hW:=Ye w;replace W:Fr 25 a [(0,.slice p l.length c),(1,.int .i64 regs)]:=W;refine XW fun K1 ad=>rg W fun b=>sa Y Z Z <| Yb fun a2 h2=>ad _ _ <| XW fun K3 S=>XW fun K4 U=>rg h2 fun b=>sm Y Z Z <| Qbb Y Z Z <| sgt Y Z Z Z <| Yb fun a5 O=>U _ _ <| Qt (t:=9) O Z (fun d=>?_) (fun d=>?_)
 ·have f:8<l.length:=by have:=Xv d;omega
  clear d;refine XW fun K6 V=>rg O fun b=>sa Y Z Z <| Yb fun a7 h7=>V _ _ ?_
  refine XA ?_;with_reducible repeat first | refine Qd ?_ | refine Qc ?_
  have R:listC regs l=2:=by unfold listC;rw[Xs f]
  exact Ql (t:=4) h7 Z Z ⟨by rw[R],hW.bel⟩
 have f:¬ (8<l.length):=by have:=Xw d;omega
 clear d;refine XB <| S _ _ <| XW fun K8 ac=>XW fun K9 aa=>rg O fun b=>sa Y Z Z <| Yb fun ai h=>aa _ _ <| XJ <| ZL (fun r a w'=>∃ q:Nat,q<=l.length/\r=l.length - q/\(∀ (j:Nat) y,j<q->l[j]?=some y->y.check regs=0)/\Fr 25 a [(1,.int .i64 regs),(0,.slice p l.length c),(4,.int .i64 0),(5,.int .i64 (q:Int))]/\Wd w w' []) (l.length) ⟨0,Xb _,Z,(fun j y hj=>by omega),(h.keep (h.keep (h.keep (h.keep h.nil (t:=5) Z) (t:=4) Z) (t:=0) Z) (t:=1) Z),hW⟩ ?_
 clear h hW;rintro r af al ⟨q,hq,hr,o,M,g⟩ KL Q;refine XW fun aw K=>XW fun aj N=>rg M fun b=>sm Y Z Z <| sm Y Z Z <| Qbb Y Z Z <| slt Y Z Z Z <| Yb fun ah C=>N _ _ <| Qt (t:=13) C Z (fun d=>?_) (fun d=>?_)
 ·have u:q<l.length:=by have:=Xv d;omega
  clear d;obtain⟨t,i⟩:∃ v9,(l)[q]?=some v9:=⟨_,Zg u⟩
  obtain⟨g1,o1,ar,ab,z,E1,B⟩:=QhY (QK hl.out).1 i
  replace B:Hid _:=B;replace z:Hid _:=z;replace i:Hid _:=i;replace E1:Hid _:=E1;refine XB <| K _ _ <| XW fun ae J=>XJ <| XW fun au E=>rg C fun b=>sm Y Z Z <| sm Y Z Z <| QdD z.out u Y Z Z Z <| sSE underlying70 Z (QS E1.out g.bel) infType Y Z Z <| sm Y Z Z <| QdF cf89 g (QeT (c:=ab) (regs:=regs) (TIn.below B.out g.bel) (hs.out.2 _ (Zm i.out))) Y Z Z Z <| fun av s=>sa Y Z Z <| Yb fun ap X=>E _ _ <| XW fun ao H=>rg X fun b=>sm Y Z Z <| sne Y Z Z Z <| Yb fun am A=>H _ _ <| Qt (t:=23) A Z (fun d=>?_) (fun d=>?_)
  ·have G:¬ (t.check regs)=0:=bne_iff_ne.1 d
   have x:¬ (t.check regs)=0:=G;clear G;clear d;refine XW fun ak L=>rg A fun b=>sm Y Z Z <| sa Y Z Z <| Yb fun an P=>L _ _ ?_
   refine XA ?_;with_reducible repeat first | refine Qd ?_ | refine Qc ?_
   have R:listC regs l=t.check regs:=by unfold listC;rw[Xr f];exact Qdr i.out (fun k y hk v=>o k y hk v) x
   exact Ql (t:=4) P Z Z ⟨by rw[R],s.bel⟩
  have G:(t.check regs)=0:=XH.1 d;have x:Hid ((t.check regs)=0):=G;clear G;clear d;refine XB <| J _ _ <| rg A fun b=>sm Y Z Z <| sad (by omega) Y Z Z Z <| sa Y Z Z <| Yb fun ax m=>Q _ _ (l.length - (q+1)) (by omega) ⟨q+1,by omega,Z,?_,(m.keep (m.keep (m.keep (m.keep m.nil (t:=5) Z) (t:=4) Z) (t:=0) Z) (t:=1) Z),s⟩
  ·intro j y hj v
   by_cases e:j=q
   ·subst e;rw[i.out] at v;cases v;exact x.out
   ·exact o j y (by omega) v
 have ay:q=l.length:=by have:=Xw d;omega
 clear d;refine wp_exit <| ac _ _ <| XW fun az I=>rg C fun b=>sa Y Z Z <| Yb fun ag T=>I _ _ ?_
 refine XA ?_;with_reducible repeat first | refine Qd ?_ | refine Qc ?_
 have R:listC regs l=0:=by unfold listC;rw[Xr f];exact Qc3 (fun k y v=>o k y (by have:=(Zi v).1;omega) v)
 exact Ql (t:=4) T Z Z ⟨by rw[R],g.bel⟩
theorem Qa2 {l:List (TT n)}{regs:Int}(H:(Qi n).In w All l [.slice p l.length c]) (E:Qb3 l) :
 Rd prog 130 #[.slice p l.length c,.int .i64 regs] w (.int .i64 (listC regs l)):=by
 have hl:Hid _:=H;have hs:Hid _:=E;have az:=E.1;clear H E;refine Qv (n:=24) func130 Z Z Z <| fun a hF=>?_
 have hW:=Ye w;replace hF:Fr 24 a [(0,.slice p l.length c),(1,.int .i64 regs)]:=hF;refine XW fun K1 ag=>rg hF fun b=>sa Y Z Z <| Yb fun a2 h2=>ag _ _ <| XW fun K3 W=>XW fun K4 X=>rg h2 fun b=>sm Y Z Z <| Qbb Y Z Z <| sgt Y Z Z Z <| Yb fun a5 S=>X _ _ <| Qt (t:=10) S Z (fun f=>?_) (fun f=>?_)
 ·have h:8<l.length:=by have:=Xv f;omega
  clear f;refine XW fun K6 aa=>rg S fun b=>sa Y Z Z <| Yb fun a7 h7=>aa _ _ ?_
  refine XA ?_;with_reducible repeat first | refine Qd ?_ | refine Qc ?_
  have R:listC regs l=2:=by unfold listC;rw[Xs h]
  exact Ql (t:=4) h7 Z Z ⟨by rw[R],hW.bel⟩
 have h:¬ (8<l.length):=by have:=Xw f;omega
 clear f;refine XB <| W _ _ <| XW fun K8 af=>XW fun K9 ac=>rg S fun b=>sm Y Z Z <| Qbb Y Z Z <| sm Y Z Z <| Yb fun aq d=>ac _ _ <| XJ <| ZL (fun r a w'=>∃ q:Nat,q<=l.length/\r=l.length - q/\(∀ (j:Nat) y,j<q->l[j]?=some y->y.check regs=0)/\Fr 24 a [(1,.int .i64 regs),(0,.slice p l.length c),(4,.int .i64 0),(11,.slice p l.length c),(12,.int .i64 (l.length:Int)),(13,.int .i64 (q:Int))]/\Wd w w' []) (l.length) ⟨0,Xb _,Z,(fun j y hj=>by omega),(d.keep (d.keep (d.keep (d.keep (d.keep (d.keep d.nil (t:=13) Z) (t:=12) Z) (t:=11) Z) (t:=4) Z) (t:=0) Z) (t:=1) Z),hW⟩ ?_
 clear d hW;rintro r al au ⟨q,hq,hr,o,P,m⟩ KL V;refine XW fun a4 M=>rg P fun b=>slt Y Z Z Z <| Yb fun ax z=>M _ _ <| XW fun am N=>Qt (t:=14) z Z (fun f=>?_) (fun f=>?_)
 ·have u:q<l.length:=by have:=Xv f;omega
  clear f;obtain⟨t,i⟩:∃ v9,(l)[q]?=some v9:=⟨_,Zg u⟩
  obtain⟨g1,o1,a0,ae,B,E1,C⟩:=QhY (QK hl.out).1 i
  replace C:Hid _:=C;replace B:Hid _:=B;replace i:Hid _:=i;replace E1:Hid _:=E1;refine XB <| N _ _ <| XW fun ak L=>XJ <| XW fun a1 F=>rg z fun b=>QdD B.out u Y Z Z Z <| sSE underlying70 Z (QS E1.out m.bel) infType Y Z Z <| QhW m Y Z <| fun a3 ai G hN=>sT 0 G Z Z infType Z Z Z <| fun aj s=>Yb fun ay ad=>F _ _ <| XW fun ah Q=>rg ad fun b=>sS 0 3 underlying70 Z infType s Y Z Z Z Z <| sm Y Z Z <| QdF cf113 s (QiY (c:=ae) (regs:=regs) (TIn.below C.out s.bel) (hs.out.2 _ (Zm i.out))) Y Z Z Z <| fun aw x=>sa Y Z Z <| Yb fun av U=>Q _ _ <| XW fun ap K=>rg U fun b=>sm Y Z Z <| sne Y Z Z Z <| Yb fun ba D=>K _ _ <| Qt (t:=21) D Z (fun f=>?_) (fun f=>?_)
  ·have I:¬ (t.check regs)=0:=bne_iff_ne.1 f
   have A:¬ (t.check regs)=0:=I;clear I;clear f;refine XW fun an J=>rg D fun b=>sm Y Z Z <| sa Y Z Z <| Yb fun a9 T=>J _ _ ?_
   refine XA ?_;with_reducible repeat first | refine Qd ?_ | refine Qc ?_
   have R:listC regs l=t.check regs:=by unfold listC;rw[Xr h];exact Qdr i.out (fun k y hk v=>o k y hk v) A
   exact Ql (t:=4) T Z Z ⟨by rw[R],x.bel⟩
  have I:(t.check regs)=0:=XH.1 f;have A:Hid ((t.check regs)=0):=I;clear I;clear f;refine XB <| L _ _ <| rg D fun b=>sad (by omega) Y Z Z Z <| sm Y Z Z <| Yb fun ar g=>V _ _ (l.length - (q+1)) (by omega) ⟨q+1,by omega,Z,?_,(g.keep (g.keep (g.keep (g.keep (g.keep (g.keep g.nil (t:=13) Z) (t:=12) Z) (t:=11) Z) (t:=4) Z) (t:=0) Z) (t:=1) Z),x.tail⟩
  ·intro j y hj v
   by_cases e:j=q
   ·subst e;rw[i.out] at v;cases v;exact A.out
   ·exact o j y (by omega) v
 have a8:q=l.length:=by have:=Xw f;omega
 clear f;refine wp_exit <| af _ _ <| XW fun ao O=>rg z fun b=>sa Y Z Z <| Yb fun a6 ab=>O _ _ ?_
 refine XA ?_;with_reducible repeat first | refine Qd ?_ | refine Qc ?_
 have R:listC regs l=0:=by unfold listC;rw[Xr h];exact Qc3 (fun k y v=>o k y (by have:=(Zi v).1;omega) v)
 exact Ql (t:=4) ab Z Z ⟨by rw[R],m.bel⟩
theorem QaZ {xp:Int} :
 Rd prog 96 #[.int .i64 xc,.int .i64 xp] w (QJ (atF xc xp)):=by
 refine Qv (n:=11) func96 Z Z Z <| fun a q=>?_
 have L:=Ye w;replace q:Fr 11 a [(0,.int .i64 xc),(1,.int .i64 xp)]:=q;refine XW fun V u=>rg q fun f=>ZY L Y Z <| fun B X l N=>Yb fun Q F=>u _ _ <| XW fun W r=>XW fun M p=>rg F fun f=>sm Y Z Z <| seq Y Z Z Z <| Yb fun U A=>p _ _ <| Qt (t:=6) A Z (fun i=>?_) (fun i=>?_)
 ·have e:xc=0:=XD i
  have x:Hid (xc=0):=e;clear e;clear i;refine XW fun P z=>rg A fun f=>fun S e=>Zh (t:=7) (v:=.agg #[.int .i64 0,.int .i64 0]) (w':=B) e Z Z Z (fun K y=>?_) ?_
  ·go_simp
   exact y
  clear e;intro D m;refine St.go m <| sT 0 l Z Z infFault Z Z Z <| fun C c=>Yb fun J o=>z _ _ ?_
  refine XA ?_;with_reducible repeat first | refine Qd ?_ | refine Qc ?_
  have R:atF xc xp=(0,0):=by simp[atF,x.out]
  exact QW 0 o c Z Z Z underlying30 Z infFault ⟨by show Ending.returned (.agg #[.int .i64 0,.int .i64 0])=_;rw[R],c.bel⟩
 have e:¬ xc=0:=XE i;have h:¬ xc=0:=e;clear e;clear i;refine XB <| r _ _ <| XW fun H j=>rg A fun f=>sm Y Z Z <| sm Y Z Z <| fun g b=>Zh (t:=10) (v:=.agg #[.int .i64 xc,.int .i64 xp]) (w':=B) b Z Z Z (fun K y=>?_) ?_
 ·have T:g.tmps[8]?.getD undef=.int .i64 xc:=b.sl2 8 _ Z
  have O:g.tmps[9]?.getD undef=.int .i64 xp:=b.sl2 9 _ Z;go_simp;exact y
 clear b;intro E k;refine St.go k <| sT 0 l Z Z infFault Z Z Z <| fun I d=>Yb fun G s=>j _ _ ?_
 refine XA ?_;with_reducible repeat first | refine Qd ?_ | refine Qc ?_
 have R:atF xc xp=(xc,xp):=by simp[atF,h]
 exact QW 0 s d Z Z Z underlying30 Z infFault ⟨by show Ending.returned (.agg #[.int .i64 xc,.int .i64 xp])=_;rw[R],d.bel⟩
theorem QaB {xp:Int} :
 Rd prog 44 #[.int .i64 xc,.int .i64 xp] w (QJ (xc,xp)):=by
 refine Qv (n:=8) func44 Z Z Z <| fun a d=>?_
 have p:=Ye w;replace d:Fr 8 a [(0,.int .i64 xc),(1,.int .i64 xp)]:=d;refine XW fun z i=>rg d fun h=>ZY p Y Z <| fun k C g q=>Yb fun s l=>i _ _ <| XW fun A e=>rg l fun h=>sm Y Z Z <| sm Y Z Z <| fun j c=>Zh (t:=7) (v:=.agg #[.int .i64 xc,.int .i64 xp]) (w':=k) c Z Z Z (fun K m=>?_) ?_
 ·have x:j.tmps[5]?.getD undef=.int .i64 xc:=c.sl2 5 _ Z
  have r:j.tmps[6]?.getD undef=.int .i64 xp:=c.sl2 6 _ Z;go_simp;exact m
 clear c;intro y f;refine St.go f <| sT 0 g Z Z infFault Z Z Z <| fun B b=>Yb fun u o=>e _ _ ?_
 refine XA ?_;with_reducible repeat first | refine Qd ?_ | refine Qc ?_
 exact QW 0 o b Z Z Z underlying30 Z infFault ⟨Z,b.bel⟩
theorem Qic {e k:Int}{h:Option Addr}{i j:Nat} :
 Rd prog 147 #[.agg #[.int .i64 e,.int .i64 k,.slice h i j]] w (.bool (e != 1)):=by
 refine Qv (n:=6) func147 Z Z Z <| fun a c=>?_
 have o:=Ye w;replace c:Fr 6 a [(0,.agg #[.int .i64 e,.int .i64 k,.slice h i j])]:=c;refine XW fun u g=>rg c fun f=>sB o Y Z Z <| fun s x b q=>sa Y Z Z <| Yb fun r m=>g _ _ <| XW fun v d=>rg m fun f=>sfType0 Y Z Z <| Q7 0 b Y Z Z Z Z <| sne Y Z Z Z <| sa Y Z Z <| Yb fun p l=>d _ _ ?_
 refine XA ?_;with_reducible repeat first | refine Qd ?_ | refine Qc ?_
 exact Ql (t:=2) l Z Z ⟨Z,b.bel⟩
theorem Qho {l:List (TT n)}(E:(Qi n).In w All l [.slice p l.length c]) (ak:l.length<=100000) :
 Rd prog 154 #[.slice p l.length c,.func (.func 147) #[] #[]] w (.int .i64 (Qft 0 l)):=by
 have hl:Hid _:=E;clear E;refine Qv (n:=19) func154 Z Z Z <| fun a L=>?_
 have W:=Ye w;replace L:Fr 19 a [(0,.slice p l.length c),(1,.func (.func 147) #[] #[])]:=L;refine XW fun K1 U=>rg L fun b=>sa Y Z Z <| Yb fun a2 h2=>U _ _ <| XW fun K3 I=>XW fun K4 M=>rg h2 fun b=>sm Y Z Z <| Qbb Y Z Z <| sm Y Z Z <| Yb fun a5 s=>M _ _ <| XJ <| ZL (fun r a w'=>∃ q:Nat,q<=l.length/\r=l.length - q/\(∀ (j:Nat) y,j<q->l[j]?=some y->y.kind=1)/\Fr 19 a [(1,.func (.func 147) #[] #[]),(0,.slice p l.length c),(4,.int .i64 0),(7,.int .i64 (l.length:Int)),(8,.int .i64 (q:Int))]/\Wd w w' []) (l.length) ⟨0,Xb _,Z,(fun j y hj=>by omega),(s.keep (s.keep (s.keep (s.keep (s.keep s.nil (t:=8) Z) (t:=7) Z) (t:=4) Z) (t:=0) Z) (t:=1) Z),W⟩ ?_
 clear s W;rintro r a6 w6 ⟨q,hq,hr,g,Q,u⟩ KL V;refine XW fun K7 N=>rg Q fun b=>slt Y Z Z Z <| Yb fun a8 T=>N _ _ <| XW fun K9 S=>Qt (t:=9) T Z (fun h=>?_) (fun h=>?_)
 ·have o:q<l.length:=by have:=Xv h;omega
  clear h;obtain⟨t,f⟩:∃ v9,(l)[q]?=some v9:=⟨_,Zg o⟩
  obtain⟨g1,o1,al,ac,z,P,B⟩:=QhY (QK hl.out).1 f
  replace B:Hid _:=B;replace z:Hid _:=z;replace f:Hid _:=f;replace P:Hid _:=P;refine XB <| S _ _ <| XW fun ad C=>XJ <| XW fun aj A=>rg T fun b=>sm Y Z Z <| sa Y Z Z <| Yb fun an J=>A _ _ <| XW fun ag H=>rg J fun b=>sm Y Z Z <| sm Y Z Z <| sm Y Z Z <| QdD z.out o Y Z Z Z <| sSE underlying70 Z (QS P.out u.bel) infType Y Z Z <| Qlf cf147 u (Qic) Y Z Z Z <| fun X m=>Yb fun aa x=>H _ _ <| Qt (t:=16) x Z (fun h=>?_) (fun h=>?_)
  ·have F:¬ t.kind=1:=bne_iff_ne.1 h
   have v:¬ t.kind=1:=F;clear F;clear h;refine XW fun am D=>rg x fun b=>sm Y Z Z <| sa Y Z Z <| Yb fun ab O=>D _ _ ?_
   refine XA ?_;with_reducible repeat first | refine Qd ?_ | refine Qc ?_
   have R:Qft 0 l=(q:Int):=by have:=QiM l q 0 t f.out (fun k y hk i=>g k y hk i) v;rwa [XK] at this
   exact Ql (t:=4) O Z Z ⟨by rw[R],m.bel⟩
  have F:t.kind=1:=XH.1 h;have v:Hid (t.kind=1):=F;clear F;clear h;refine XB <| C _ _ <| rg x fun b=>sad (by omega) Y Z Z Z <| sm Y Z Z <| Yb fun ai d=>V _ _ (l.length - (q+1)) (by omega) ⟨q+1,by omega,Z,?_,(d.keep (d.keep (d.keep (d.keep (d.keep d.nil (t:=8) Z) (t:=7) Z) (t:=4) Z) (t:=0) Z) (t:=1) Z),m⟩
  ·intro j y hj i
   by_cases e:j=q
   ·subst e;rw[f.out] at i;cases i;exact v.out
   ·exact g j y (by omega) i
 have af:q=l.length:=by have:=Xw h;omega
 clear h;refine wp_exit <| I _ _ <| XW fun ah G=>rg T fun b=>sa Y Z Z <| Yb fun ae K=>G _ _ ?_
 refine XA ?_;with_reducible repeat first | refine Qd ?_ | refine Qc ?_
 have R:Qft 0 l=-1:=Qij l 0 (fun k y i=>g k y (by have:=(Zi i).1;omega) i);exact Ql (t:=4) K Z Z ⟨by rw[R],u.bel⟩
theorem Qeq {l:List (TT n)}(b:(Qi n).In w All l [.slice p l.length c]) (f:l.length<=100000) :
 Rd prog 146 #[.slice p l.length c,.func (.func 147) #[] #[]] w (.bool (decide (0<=Qft 0 l))):=by
 have o:Hid _:=b;clear b;refine Qv (n:=9) func146 Z Z Z <| fun a e=>?_
 have j:=Ye w;replace e:Fr 9 a [(0,.slice p l.length c),(1,.func (.func 147) #[] #[])]:=e;refine XW fun r i=>rg e fun g=>sa Y Z Z <| Yb fun q m=>i _ _ <| XW fun u d=>rg m fun g=>sm Y Z Z <| sm Y Z Z <| QdF cf154 j (Qho (Ya o.out j.bel) f) Y Z Z Z <| fun v h=>sge Y Z Z Z <| sa Y Z Z <| Yb fun s k=>d _ _ ?_
 refine XA ?_;with_reducible repeat first | refine Qd ?_ | refine Qc ?_
 exact Ql (t:=4) k Z Z ⟨Z,h.bel⟩
theorem size_any:∀ (n:Nat) (t:TT n) (a:Option Addr) (c:Nat) (w:World) (left:Int),TIn w All t a->0<=left->left<=2000 ->
 Calls prog 94 #[Tv t a c,.int .i64 left] w fun e w'=>e=.returned (.int .i64 (max (-1) (left - t.count)))/\Below w.heap.size w w':=by
 intro n
 induction n with
 | zero=>intro t;exact Empty.elim t
 | succ n ih =>
   intro t a c w left J h0 h1
   have U:Hid (∀ (t:TT n) (a:Option Addr) (c:Nat) (w:World) (left:Int),TIn w All t a->0<=left->left<=2000 ->
    Calls prog 94 #[Tv t a c,.int .i64 left] w fun e w'=>e=.returned (.int .i64 (max (-1) (left - t.count)))/\Below w.heap.size w w'):=ih
   clear ih;have C:Hid (LIn w All t.2.2 a):=J.list;have G:t.count=1+(t.2.2.map TT.count).sum:=rfl;rw[G]
   clear G;simp only[Tv,TT.len_eq]
   generalize t.2.2=l at C |-;generalize t.kind=k;generalize t.r=r;clear J t;go_enter func94,ntmps94
   go_wp2_with fail
   have B:Hid (Bx w (w.alloc (.cells #[.int .i64 k,.int .i64 r,.slice a l.length c] 70)) k r a l.length c):=Bx.start w k r a l.length c;generalize w.alloc (.cells #[.int .i64 k,.int .i64 r,.slice a l.length c] 70)=w1 at B |-;go_loopw [1,5] (fun lf i wr=>∃ q:Nat,q<=l.length/\i=.int .i64 q/\lf=.int .i64 (max (-1) (left - 1 - (((l.map TT.count).take q).sum:Nat)))/\Bx w wr k r a l.length c) (fun _ i _=>l.length - (intOf i).toNat)
   case atStart=>exact⟨0,Xb _,Z,by simp;omega,B.out⟩
   case round =>
    clear B;obtain⟨q,X,rfl,rfl,u⟩:=hrel
    generalize f:(((l.map TT.count).take q).sum:Nat)=s;have e2:wr.cell? ⟨w.heap.size,2,none⟩=some (.slice a l.length c):=Qb u.box 2 _ Z;have p:Hid (Bx w wr k r a l.length c):=u;by_cases A:q<l.length
    ·by_cases b:0<=max (-1) (left - 1 - (s:Int))
     ·have j:l[q]?=some l[q]:=Zg A;generalize l[q]=x at j;obtain⟨g,o,E,L,rfl,_,W,d1,d2,D⟩:=LIn.at (C.out.below u.bel) j
      have H:Hid (TIn wr All x E):=D;have v:=Qeu TT.count l q x j;rw[f] at v
      have T:Hid (((l.map TT.count).take (q+1)).sum=s+x.count):=v;have S:Hid (max (-1) (left - 1 - (s:Int))<=2000):=by show _<=_;omega
      clear u D j v;generalize I:max (-1) (left - 1 - (s:Int))=m at b S;have M:Hid (max (-1) (left - 1 - (s:Int))=m):=I;clear I;have N:(0:Int)<=q:=by omega
      have h:(q:Int)<l.length:=by omega
      have O:(q:Int)<2000:=by
       have R:=length_le_sum ((l.map TT.count).take q) (fun y K=>by obtain⟨z,_,rfl⟩:=List.mem_map.1 (List.mem_of_mem_take K);exact z.count_pos);have h4:=M.out;rw[List.length_take,XN] at R
       omega
      clear f;go_wp2_with fail
      refine(U.out x E L _ m H.out b S.out).mono ?_
      rintro e Q ⟨rfl,P⟩;have V:Hid (Bx w Q k r (some ⟨g,o,none⟩) l.length c):=p.out.below P;clear p;go_wp2
      go_roundw
      case rel=>exact⟨q+1,by omega,by go_num,by rw[T.out];have:=M.out;have:=x.count_pos;congr 1;omega,V.out⟩
      case measure=>simp[intOf];omega
     ·have F:Hid (max (-1) (left - 1 - (s:Int))=max (-1) (left - ((1+(l.map TT.count).sum:Nat):Int))):=by
       have:=QfE (l.map TT.count) q
       show _=_;omega
      have d:max (-1) (left - 1 - (s:Int))<0:=by omega
      generalize max (-1) (left - 1 - (s:Int))=m at F d |-;clear b f;have h:(q:Int)<l.length:=by omega
      go_wp2
      go_ret;exact⟨by show Ending.returned (.int .i64 m)=_;have:=F.out;congr 2,p.out.bel⟩
    ·have F:Hid (max (-1) (left - 1 - (s:Int))=max (-1) (left - ((1+(l.map TT.count).sum:Nat):Int))):=by
      rw[XO (by simp;omega)] at f
      show _=_;omega
     generalize max (-1) (left - 1 - (s:Int))=m at F |-;clear f;have h:¬ (q:Int)<l.length:=by omega
     go_wp2
     go_ret;exact⟨by show Ending.returned (.int .i64 m)=_;have:=F.out;congr 2,p.out.bel⟩
theorem QhG (n:Nat) (t:TT n) (a:Option Addr) (c:Nat) (w:World) (f:TIn w All t a) :
 Calls prog 54 #[Tv t a c] w fun e w'=>e=.returned (.bool (decide (2000<t.count)))/\Below w.heap.size w w':=by
 have C:Hid (∀ b,Below w.heap.size w b->Calls prog 94 #[Tv t a c,.int .i64 2000] b fun e w'=>e=.returned (.int .i64 (max (-1) (2000 - (t.count:Int))))/\Below b.heap.size b w') :=
  fun b i=>size_any n t a c b 2000 (f.below i) (by omega) (by omega)
 clear f;simp only[Tv] at C |-
 generalize t.kind=k at C |-;generalize t.r=r at C |-;generalize t.len=h at C |-;generalize t.count=q at C |-;go_enter func54,ntmps54
 go_wp2_with fail
 refine(C.out _ ((Below.refl _ w).alloc Ze _)).mono ?_
 rintro e g ⟨rfl,d⟩;have B:Hid (Below w.heap.size w g):=((Below.refl _ w).alloc Ze _).trans (d.mono (by simp));have F:Hid (max (-1) (2000 - (q:Int))<0↔2000<q):=by show _↔_;omega
 generalize max (-1) (2000 - (q:Int))=m at F |-;clear d C;go_wp2
 go_ret;exact⟨by show Ending.returned (.bool (decide (m<0)))=_;rw[decide_eq_decide.2 F.out],B.out⟩
structure GbS (w wx:World) (l:List (Nat × Array Value × TypeId)):Prop where
 bel:Below w.heap.size w wx
 box:∀ (i:Nat) b,l[i]?=some b->Blk wx b.1 b.2.1 b.2.2
theorem GbS.below {a:World}{l:List (Nat × Array Value × TypeId)}(h:GbS w a l) (k:Below a.heap.size a w'):GbS w w' l:=⟨h.bel.trans (k.mono h.bel.size),fun i b c=>(h.box i b c).below k⟩
theorem GbS.add {a:World}{l:List (Nat × Array Value × TypeId)}(h:GbS w a l){c:Array Value}(e:Blk a B c t):GbS w a ((B,c,t)::l) :=
 ⟨h.bel,fun i b d=>by
  cases i with
  | zero=>cases d;exact e
  | succ i=>exact h.box i b d⟩
theorem GbS.drop {a:World}{l:List (Nat × Array Value × TypeId)}{e:Nat × Array Value × TypeId}(h:GbS w a (e::l)):GbS w a l:=⟨h.bel,fun i b c=>h.box (i+1) b c⟩
theorem GbS.new {a:World}{l:List (Nat × Array Value × TypeId)}(h:GbS w a l) (c:Array Value) (t:TypeId):GbS w (a.alloc (.cells c t)) ((a.heap.size,c,t)::l):=(h.below (QU _ _)).add (Blk.new _ _ _)
theorem QaF (n:Nat) (l:List (TT n)) (p:Option Addr) (c:Nat) (w:World) (m:LIn w All l p) :
 Rd prog 25 #[.slice p l.length c] w (.bool (bdec (ZX l))):=by
 have J:=QI m;clear m;unfold Rd;go_enter func25,ntmps25
 by_cases D:200<l.length
 ·have d:(200:Int)<l.length:=by omega
  have E:=Qs (A:=ZX l) (.inl D);go_wp2_with fail
  go_ret;exact⟨by first | rfl | (rw[E];done) | (rw[E];rfl),Zr⟩
 have d:¬ (200:Int)<l.length:=by omega
 go_wp2_with fail
 go_loopw [3] (fun i wr=>∃ k:Nat,k<=l.length/\i=.int .i64 k/\Below w.heap.size w wr/\∀ (j:Nat) t,j<k->l[j]?=some t->¬ 2000<t.count) (fun i _=>l.length - (intOf i).toNat)
 case atStart=>exact⟨0,Xb _,Z,Zr,fun j z r=>absurd r (XG _)⟩
 case round =>
  obtain⟨k,O,rfl,G,a⟩:=hrel
  have e:=QI G;have o:=QI a;clear G a;by_cases y:k<l.length
  rotate_left
  ·have f:¬ (k:Int)<l.length:=by omega
   have E:bdec (ZX l)=false:=Qh (by
    rintro (h | ⟨t,b,h⟩)
    ·exact D h
    ·obtain⟨j,r⟩:=List.mem_iff_getElem?.1 b
     exact o.out j t (by have:=(Zi r).1;omega) r h)
   go_wp2_with fail
   go_ret;exact⟨by first | rfl | (rw[E];done) | (rw[E];rfl),e.out⟩
  have f:(k:Int)<l.length:=by omega
  have b:l[k]?=some l[k]:=Zg y;generalize l[k]=t at b;have C:=QI b;obtain⟨P,N,I,K,rfl,-,M,L,H,q⟩:=(show LIn wr All l p from J.out.below e.out).at b
  have B:=QI (QhG n t I K wr q);clear b q;go_wp2_with fail
  refine B.out.mono ?_;rintro _ Q ⟨rfl,F⟩;have g:=QI (e.out.trans (F.mono e.out.size));clear F B M L H e;by_cases s:2000<t.count
  ·rw[Xt s]
   have E:=Qs (A:=ZX l) (.inr ⟨t,Zm C.out,s⟩);go_wp2_with fail
   go_ret;exact⟨by first | rfl | (rw[E];done) | (rw[E];rfl),g.out⟩
  ·rw[Xu s]
   go_wp2_with fail
   go_roundw
   case rel =>
    refine⟨k+1,by omega,by go_num,g.out,fun j u r v=>?_⟩
    by_cases x:j<k
    ·exact o.out j u x v
    ·have:j=k:=by omega
     subst this;rw[C.out] at v
     cases v
     exact s
   case measure=>simp[intOf];omega
def Qf.much {n:Nat}(x:Qf n):Prop:=30<x.blocks.length\/ZX x.params\/ZX x.results
def Qe.much {n:Nat}(x:Qe n):Prop:=200<x.code.length\/ZX x.params\/300<x.fin.args.length\/300<x.fin.yes.regs.length\/300<x.fin.yes.args.length\/300<x.fin.no.regs.length\/300<x.fin.no.args.length
theorem Qdi (n:Nat) (m:List (Qf n)) (p:Option Addr) (c:Nat) (w:World) (ac:(QaH n).In w All m [.slice p m.length c]) :
 Rd prog 7 #[.agg #[.slice p m.length c]] w (.bool (bdec (Zd m))):=by
 have HM:=QI ac;have S:Hid (GbS w (w.alloc (.cells #[.slice p m.length c] 24)) [(w.heap.size,#[.slice p m.length c],24)]):=GbS.new ⟨Zr,fun i b hb=>by simp at hb⟩ _ _;clear ac;unfold Rd;go_enter func7,ntmps7
 go_upto_region 1 with fail
 generalize w.alloc (.cells #[.slice p m.length c] 24)=w1 at S |-;generalize w.heap.size=X at S |-;have x0:=Qb (S.out.box 0 _ Yz) 0 _ Yz;by_cases c1:20<m.length
 ·have d:(20:Int)<m.length:=by omega
  have E:=Qs (A:=Zd m) (.inl c1);have I:=QI S.out.bel;clear S;go_wp2_with fail
  go_ret;exact⟨by first | rfl | (rw[E];done) | (rw[E];rfl),I.out⟩
 have d:¬ (20:Int)<m.length:=by omega
 go_wp2_with fail
 clear x0;go_loopw [3] (fun i wr=>∃ k:Nat,k<=m.length/\i=.int .i64 k/\GbS w wr [(X,#[.slice p m.length c],24)]/\∀ (j:Nat) f,j<k->m[j]?=some f->¬ f.great) (fun i _=>m.length - (intOf i).toNat)
 case atStart=>exact⟨0,Xb _,Yz,S.out,fun j z B=>absurd B (XG _)⟩
 case round =>
  obtain⟨k,hk,rfl,Q,o⟩:=hrel
  have SR:=QI Q;have ai:=QI o;clear Q o S;obtain⟨wf,a2⟩:∃ wf,wf=wr:=⟨_,Yz⟩
  subst a2;have x0:=Qb (SR.out.box 0 _ Yz) 0 _ Yz;by_cases ay:k<m.length
  rotate_left
  ·have ag:¬ (k:Int)<m.length:=by omega
   have E:bdec (Zd m)=false:=Qh (by
    rintro (h | ⟨t,ht,h⟩)
    ·exact c1 h
    ·obtain⟨j,B⟩:=List.mem_iff_getElem?.1 ht
     exact ai.out j t (by have:=(Zi B).1;omega) B h)
   have I:=QI SR.out.bel;clear SR;go_wp2_with fail
   go_ret;exact⟨by first | rfl | (rw[E];done) | (rw[E];rfl),I.out⟩
  have ag:(k:Int)<m.length:=by omega
  have M:m[k]?=some m[k]:=Zg ay;generalize m[k]=x at M;have al:=QI M;have ad:Hid (x.great->bdec (Zd m)=true):=fun h=>Qs (.inr ⟨x,Zm al.out,h⟩);obtain⟨g1,o1,l,rfl,E1,an⟩:=Qbk HM.out M
  have T:=QI an;have R1:Hid (wf.rangeAt g1 (o1+k*4) [.int .i64 x.regs,.slice l.pP x.params.length l.cP,.slice l.pR x.results.length l.cR,.slice l.pB x.blocks.length l.cB]):=fun j v B=>Qp (E1 j v B) SR.out.bel;have v0:wf.cell? ⟨g1,o1+k*4,none⟩=some (.int .i64 x.regs):=R1.out 0 _ Yz;have v1:=R1.out 1 _ Yz;have v2:=R1.out 2 _ Yz;have v3:=R1.out 3 _ Yz;have G:=QI (SR.out.new #[.int .i64 x.regs,.slice l.pP x.params.length l.cP,.slice l.pR x.results.length l.cR,.slice l.pB x.blocks.length l.cB] 40);clear M E1 an R1 SR;go_upto_region 7 with fail
  generalize wf.alloc (.cells #[.int .i64 x.regs,.slice l.pP x.params.length l.cP,.slice l.pR x.results.length l.cR,.slice l.pB x.blocks.length l.cB] 40)=w6 at G |-;generalize wf.heap.size=Y at G |-;clear v0 v1 v2 v3 x0;generalize hL:([(Y,#[.int .i64 x.regs,.slice l.pP x.params.length l.cP,.slice l.pR x.results.length l.cR,.slice l.pB x.blocks.length l.cB],40),(X,#[.slice (some ⟨g1,o1,none⟩) m.length c],24)]:List (Nat × Array Value × TypeId))=L at G;have BX:Hid (∀ wx,GbS w wx L->Blk wx Y #[.int .i64 x.regs,.slice l.pP x.params.length l.cP,.slice l.pR x.results.length l.cR,.slice l.pB x.blocks.length l.cB] 40/\GbS w wx [(X,#[.slice (some ⟨g1,o1,none⟩) m.length c],24)]):=by subst hL;exact fun wx h=>⟨h.box 0 _ Yz,h.drop⟩
  clear hL;have q1:=Qb (BX.out _ G.out).1 1 _ Yz;have q2:=Qb (BX.out _ G.out).1 2 _ Yz;have q3:=Qb (BX.out _ G.out).1 3 _ Yz;go_cut [37] (fun v wx=>v=.bool (bdec x.much)/\GbS w wx L)
  case first =>
   by_cases h:30<x.blocks.length
   ·have d1:decide ((x.blocks.length:Int)>30)=true:=Xt (by omega);have E:=Qs (A:=x.much) (.inl h);go_wp2
    go_meet;exact⟨by first | rfl | (rw[E];done) | (rw[E];rfl),G.out⟩
   have d1:decide ((x.blocks.length:Int)>30)=false:=Xu (by omega);have C:=QI (QaF n x.params l.pP l.cP w6 (QK (Ya T.out.params G.out.bel)).1);unfold Rd at C;by_cases N:ZX x.params
   ·have E:=Qs (A:=x.much) (.inr (.inl N));rw[Qs N] at C
    go_wp2_with fail
    refine C.out.mono ?_;rintro _ wa ⟨rfl,F⟩;have s:=QI (G.out.below F);clear F C;go_wp2
    go_meet;exact⟨by first | rfl | (rw[E];done) | (rw[E];rfl),s.out⟩
   rw[Qh N] at C
   go_wp2_with fail
   refine C.out.mono ?_;rintro _ wa ⟨rfl,F⟩;have s:=QI (G.out.below F);clear F C q1 q2 q3;have q2:=Qb (BX.out _ s.out).1 2 _ Yz;have CR:=QI (QaF n x.results l.pR l.cR wa (QK (Ya T.out.results s.out.bel)).1);unfold Rd at CR
   have E:bdec x.much=bdec (ZX x.results):=by
    by_cases hr:ZX x.results
    ·rw[Qs hr];exact Qs (.inr (.inr hr))
    ·rw[Qh hr];exact Qh (fun e=>by rcases e with e | e | e;exact h e;exact N e;exact hr e)
   go_wp2_with fail
   refine CR.out.mono ?_;rintro _ K ⟨rfl,bb⟩;have SB:=QI (s.out.below bb);clear bb CR q2;go_wp2
   all_goals
    go_meet;exact⟨by first | rfl | (rw[E];done) | (rw[E];rfl),SB.out⟩
  case rest =>
   obtain⟨rfl,R⟩:=hcut
   have S7:=QI R;clear R G q1 q2 q3;by_cases P:x.much
   ·rw[Qs P]
    have E:=ad.out (by rcases P with h | h | h;exact .inl h;exact .inr (.inl h);exact .inr (.inr (.inl h)));have I:=QI S7.out.bel;clear S7 P;go_wp2_with fail
    go_ret;exact⟨by first | rfl | (rw[E];done) | (rw[E];rfl),I.out⟩
   rw[Qh P]
   have a4:x.blocks.length<=30:=Xo fun h=>P (.inl h);go_wp2_with fail
   go_loopw [5] (fun i wr=>∃ q:Nat,q<=x.blocks.length/\i=.int .i64 q/\GbS w wr L/\∀ (j:Nat) y,j<q->x.blocks[j]?=some y->¬ y.great) (fun i _=>x.blocks.length - (intOf i).toNat)
   case atStart=>exact⟨0,Xb _,Yz,S7.out,fun j z B=>absurd B (XG _)⟩
   case round =>
    obtain⟨q,hq,rfl,Q,o⟩:=hrel
    have SQ:=QI Q;have ah:=QI o;clear Q o S7;obtain⟨K,av⟩:∃ K,K=wr:=⟨_,Yz⟩
    subst av;have q3:=Qb (BX.out _ SQ.out).1 3 _ Yz;by_cases aq:q<x.blocks.length
    rotate_left
    ·have ak:¬ (q:Int)<x.blocks.length:=by omega
     go_wp2_with fail
     go_roundw
     case rel =>
      refine⟨k+1,by omega,by go_num,(BX.out _ SQ.out).2,fun j f B hf=>?_⟩
      by_cases aw:j<k
      ·exact ai.out j f aw hf
      ·have:j=k:=by omega
       subst this;rw[al.out] at hf
       cases hf
       rintro (h | h | h | ⟨y,hy,h⟩)
       ·exact P (.inl h)
       ·exact P (.inr (.inl h))
       ·exact P (.inr (.inr h))
       ·obtain⟨i,hi⟩:=List.mem_iff_getElem?.1 hy
        exact ah.out i y (by have:=(Zi hi).1;omega) hi h
     case measure=>simp[intOf];omega
    have ak:(q:Int)<x.blocks.length:=by omega
    have J:x.blocks[q]?=some x.blocks[q]:=Zg aq;generalize x.blocks[q]=y at J;have aa:=QI J;have ae:Hid (y.great->bdec (Zd m)=true):=fun h=>ad.out (.inr (.inr (.inr ⟨y,Zm aa.out,h⟩)));obtain⟨g2,o2,g,e2,E2,ab⟩:=Qa6 T.out.blocks J
    have am:=QI ab;rw[e2] at q3
    generalize W:([.int .i64 y.regs,.slice g.pP y.params.length g.cP,.slice g.pC y.code.length g.cC,.int .i64 y.fin.op,.int .i64 y.fin.a,.int .i64 y.fin.yes.block,.slice g.e.pYR y.fin.yes.regs.length g.e.cYR,.slice g.e.pYA y.fin.yes.args.length g.e.cYA,.int .i64 y.fin.no.block,.slice g.e.pNR y.fin.no.regs.length g.e.cNR,.slice g.e.pNA y.fin.no.args.length g.e.cNA,.slice g.e.pA y.fin.args.length g.e.cA]:List Value)=cs at E2;have hl:cs.length=12:=by rw[<-W];rfl
    have MB:=QI (Qld.of K hl);have TO:Hid (cs.toArray.all (·.oneCell')=true):=by show _=_;rw[<-W];exact all_oneCell_toArray (Xe.1 Yz)
    have RG:Hid (K.rangeAt g2 (o2+q*12) cs):=fun j v B=>Qp (E2 j v B) SQ.out.bel;clear J E2 ab hl e2;go_upto_region 13 with (first | (refine wpList_load_mid Yz 60 (.tmp 48) Yz g2 (o2+q*12) Yz cs _ RG.out underlying60 Yz MB.out.size ?_) | (refine wpList_store_mid Yz 60 (.tmp 6) (.tmp 49) Yz K.heap.size 0 cs.toArray Yz Yz MB.out.there MB.out.size2 TO.out ?_))
    have H:=QI ((SQ.out.below MB.out.bel).add MB.out.blk);clear SQ q3 RG TO MB;generalize (K.alloc (.cells #[.int .i64 0,.slice none 0 0,.slice none 0 0,.int .i64 0,.int .i64 0,.int .i64 0,.slice none 0 0,.slice none 0 0,.int .i64 0,.slice none 0 0,.slice none 0 0,.slice none 0 0] 60)).setCells K.heap.size 0 cs=w3 at H |-;generalize K.heap.size=Z at H |-;subst W;simp only[Act.put]
    generalize af:((Z,#[.int .i64 y.regs,.slice g.pP y.params.length g.cP,.slice g.pC y.code.length g.cC,.int .i64 y.fin.op,.int .i64 y.fin.a,.int .i64 y.fin.yes.block,.slice g.e.pYR y.fin.yes.regs.length g.e.cYR,.slice g.e.pYA y.fin.yes.args.length g.e.cYA,.int .i64 y.fin.no.block,.slice g.e.pNR y.fin.no.regs.length g.e.cNR,.slice g.e.pNA y.fin.no.args.length g.e.cNA,.slice g.e.pA y.fin.args.length g.e.cA],60)::L:List (Nat × Array Value × TypeId))=L2 at H;have O:Hid (∀ wx,GbS w wx L2->Blk wx Z #[.int .i64 y.regs,.slice g.pP y.params.length g.cP,.slice g.pC y.code.length g.cC,.int .i64 y.fin.op,.int .i64 y.fin.a,.int .i64 y.fin.yes.block,.slice g.e.pYR y.fin.yes.regs.length g.e.cYR,.slice g.e.pYA y.fin.yes.args.length g.e.cYA,.int .i64 y.fin.no.block,.slice g.e.pNR y.fin.no.regs.length g.e.cNR,.slice g.e.pNA y.fin.no.args.length g.e.cNA,.slice g.e.pA y.fin.args.length g.e.cA] 60/\GbS w wx L):=by subst af;exact fun wx h=>⟨h.box 0 _ Yz,h.drop⟩
    clear af;have z1:=Qb (O.out _ H.out).1 1 _ Yz;have z2:=Qb (O.out _ H.out).1 2 _ Yz;go_cut [97] (fun v wx=>v=.bool (bdec y.much)/\GbS w wx L2)
    case first =>
     by_cases h:200<y.code.length
     ·have d1:decide ((y.code.length:Int)>200)=true:=Xt (by omega);have E:=Qs (A:=y.much) (.inl h);go_wp2
      go_meet;exact⟨by first | rfl | (rw[E];done) | (rw[E];rfl),H.out⟩
     have d1:decide ((y.code.length:Int)>200)=false:=Xu (by omega);have C:=QI (QaF n y.params g.pP g.cP w3 (QK (Ya am.out.params H.out.bel)).1);unfold Rd at C;by_cases N:ZX y.params
     ·have E:=Qs (A:=y.much) (.inr (.inl N));rw[Qs N] at C
      go_wp2_with fail
      refine C.out.mono ?_;rintro _ wa ⟨rfl,F⟩;have s:=QI (H.out.below F);clear F C;go_wp2
      go_meet;exact⟨by first | rfl | (rw[E];done) | (rw[E];rfl),s.out⟩
     rw[Qh N] at C
     go_wp2_with fail
     refine C.out.mono ?_;rintro _ wa ⟨rfl,F⟩;have s:=QI (H.out.below F);clear F C z1 z2;have z6:=Qb (O.out _ s.out).1 6 _ Yz;have z7:=Qb (O.out _ s.out).1 7 _ Yz;have z9:=Qb (O.out _ s.out).1 9 _ Yz;have ar:=Qb (O.out _ s.out).1 10 _ Yz;have ax:=Qb (O.out _ s.out).1 11 _ Yz
     have r:Hid (bdec y.much=(decide ((y.fin.args.length:Int)>300)||(decide ((y.fin.yes.regs.length:Int)>300)||(decide ((y.fin.yes.args.length:Int)>300)||(decide ((y.fin.no.regs.length:Int)>300)||decide ((y.fin.no.args.length:Int)>300)))))):=by
      show _=_
      have e9:y.much↔((y.fin.args.length:Int)>300\/(y.fin.yes.regs.length:Int)>300\/(y.fin.yes.args.length:Int)>300\/(y.fin.no.regs.length:Int)>300\/(y.fin.no.args.length:Int)>300):=by
       unfold Qe.much;constructor
       ·rintro (e | e | e)
        ·exact absurd e h
        ·exact absurd e N
        ·omega
       ·intro e;right;right;omega
      by_cases hy:y.much
      ·rw[Qs hy];have:=e9.1 hy;simp only[<-Bool.decide_or];exact(Xt this).symm
      ·rw[Qh hy];have:=fun e=>hy (e9.2 e);simp only[<-Bool.decide_or];exact(Xu this).symm
     generalize y.fin.args.length=n1 at r ax |-;generalize y.fin.yes.regs.length=n2 at r z6 |-;generalize y.fin.yes.args.length=n3 at r z7 |-;generalize y.fin.no.regs.length=n4 at r z9 |-;generalize y.fin.no.args.length=n5 at r ar |-;by_cases k1:(n1:Int)>300
     ·have d9:decide ((n1:Int)>300)=true:=Xt k1;rw[d9] at r
      go_wp2
      go_meet;exact⟨by rw[r.out];first | done | rfl,s.out⟩
     have e1:decide ((n1:Int)>300)=false:=Xu k1;rw[e1] at r
     by_cases k2:(n2:Int)>300
     ·have d9:decide ((n2:Int)>300)=true:=Xt k2;rw[d9] at r
      go_wp2
      go_meet;exact⟨by rw[r.out];first | done | rfl,s.out⟩
     have e2:decide ((n2:Int)>300)=false:=Xu k2;rw[e2] at r
     by_cases k3:(n3:Int)>300
     ·have d9:decide ((n3:Int)>300)=true:=Xt k3;rw[d9] at r
      go_wp2
      go_meet;exact⟨by rw[r.out];first | done | rfl,s.out⟩
     have e3:decide ((n3:Int)>300)=false:=Xu k3;rw[e3] at r
     by_cases k4:(n4:Int)>300
     ·have d9:decide ((n4:Int)>300)=true:=Xt k4;rw[d9] at r
      go_wp2
      go_meet;exact⟨by rw[r.out];first | done | rfl,s.out⟩
     have e4:decide ((n4:Int)>300)=false:=Xu k4;rw[e4] at r
     go_wp2
     all_goals
      go_meet;exact⟨by rw[r.out];first | done | rfl,s.out⟩
    case rest =>
     obtain⟨rfl,R⟩:=hcut
     have S4:=QI R;clear R H z1 z2;by_cases D:y.much
     ·rw[Qs D]
      have E:=ae.out (by rcases D with h | h | h | h | h | h | h;exact .inl h;exact .inr (.inl h);exact .inr (.inr (.inl h));exact .inr (.inr (.inr (.inl h)));exact .inr (.inr (.inr (.inr (.inl h))));exact .inr (.inr (.inr (.inr (.inr (.inl h)))));exact .inr (.inr (.inr (.inr (.inr (.inr (.inl h)))))));have I:=QI S4.out.bel;clear S4 D;go_wp2_with fail
      go_ret;exact⟨by first | rfl | (rw[E];done) | (rw[E];rfl),I.out⟩
     rw[Qh D]
     have a3:y.code.length<=200:=Xo fun h=>D (.inl h);go_wp2_with fail
     go_loopw [7] (fun i wr=>∃ t:Nat,t<=y.code.length/\i=.int .i64 t/\GbS w wr L2/\∀ (j:Nat) z,j<t->y.code[j]?=some z->¬ (300<z.regs.length\/300<z.args.length)) (fun i _=>y.code.length - (intOf i).toNat)
     case atStart=>exact⟨0,Xb _,Yz,S4.out,fun j z B=>absurd B (XG _)⟩
     case round =>
      obtain⟨t,ht,rfl,Q,o⟩:=hrel
      have U:=QI Q;have ao:=QI o;clear Q o S4;have z2:=Qb (O.out _ U.out).1 2 _ Yz;by_cases au:t<y.code.length
      rotate_left
      ·have aj:¬ (t:Int)<y.code.length:=by omega
       go_wp2_with fail
       go_roundw
       case rel =>
        refine⟨q+1,by omega,by go_num,(O.out _ U.out).2,fun j u B V=>?_⟩
        by_cases a0:j<q
        ·exact ah.out j u a0 V
        ·have:j=q:=by omega
         subst this;rw[aa.out] at V
         cases V
         rintro (h | h | h | h | h | h | h | ⟨z,hz,h⟩)
         ·exact D (.inl h)
         ·exact D (.inr (.inl h))
         ·exact D (.inr (.inr (.inl h)))
         ·exact D (.inr (.inr (.inr (.inl h))))
         ·exact D (.inr (.inr (.inr (.inr (.inl h)))))
         ·exact D (.inr (.inr (.inr (.inr (.inr (.inl h))))))
         ·exact D (.inr (.inr (.inr (.inr (.inr (.inr h))))))
         ·obtain⟨i,hi⟩:=List.mem_iff_getElem?.1 hz
          exact ao.out i z (by have:=(Zi hi).1;omega) hi h
       case measure=>simp[intOf];omega
      have aj:(t:Int)<y.code.length:=by omega
      have hz:y.code[t]?=some y.code[t]:=Zg au;generalize y.code[t]=z at hz;have HZ:=QI hz;obtain⟨g3,o3,i3,e3,E3,-⟩:=Qdf am.out.code hz
      rw[e3] at z2
      have a1:=Qp (show w.cell? ⟨g3,o3+t*8+6,none⟩=_ from E3 6 _ Yz) U.out.bel;have ap:=Qp (show w.cell? ⟨g3,o3+t*8+7,none⟩=_ from E3 7 _ Yz) U.out.bel;clear hz E3 e3;go_upto_region 18 with fail
      go_cut [122] (fun v wx=>v=.bool (decide (300<z.regs.length\/300<z.args.length))/\GbS w wx L2)
      case first =>
       by_cases h:(z.regs.length:Int)>300
       ·have d1:decide ((z.regs.length:Int)>300)=true:=Xt h;have E:decide (300<z.regs.length\/300<z.args.length)=true:=Xt (by omega);go_wp2
        go_meet;exact⟨by first | rfl | (rw[E];done) | (rw[E];rfl),U.out⟩
       ·have d1:decide ((z.regs.length:Int)>300)=false:=Xu h;have E:decide (300<z.regs.length\/300<z.args.length)=decide ((z.args.length:Int)>300):=by rw[decide_eq_decide];omega
        go_wp2
        all_goals
         go_meet;exact⟨by first | rfl | (rw[E];done) | (rw[E];rfl),U.out⟩
      case rest =>
       obtain⟨rfl,R⟩:=hcut
       have SU:=QI R;clear R U z2 a1 ap;by_cases c4:300<z.regs.length\/300<z.args.length
       ·rw[Xt c4]
        have E:=ae.out (.inr (.inr (.inr (.inr (.inr (.inr (.inr ⟨z,Zm HZ.out,c4⟩)))))));have I:=QI SU.out.bel;clear SU c4;go_wp2_with fail
        go_ret;exact⟨by first | rfl | (rw[E];done) | (rw[E];rfl),I.out⟩
       ·rw[Xu c4]
        go_wp2_with fail
        go_roundw
        case rel =>
         refine⟨t+1,by omega,by go_num,SU.out,fun j u B V=>?_⟩
         by_cases az:j<t
         ·exact ao.out j u az V
         ·have:j=t:=by omega
          subst this;rw[HZ.out] at V
          cases V
          exact c4
        case measure=>simp[intOf];omega
def Qf.begins {n:Nat}(x:Qf n):Prop:=x.regs=0/\x.params.length=0/\x.results.all (fun t=>t.kind==1)=true
def Qe.takes {n:Nat}(fn:Qf n) (x:Qe n):Prop:=x.regs=fn.regs/\x.params=fn.params
theorem Qjw {fn:Qf n}{x:Qe n}(h:¬ x.takes fn):x.regs≠fn.regs\/QbK x.params fn.params=false:=by
 by_cases a:x.regs=fn.regs
 ·refine .inr ?_
  cases e:QbK x.params fn.params with
  | false=>rfl
  | true=>exact absurd ⟨a,Qcb.1 e⟩ h
 ·exact .inl a
theorem QeK {fn:Qf n}{x:Qe n}(h:x.takes fn):¬ (x.regs≠fn.regs\/QbK x.params fn.params=false):=by
 rintro (a | a)
 ·exact a h.1
 ·rw[Qcb.2 h.2] at a;cases a
theorem QeZ {m:List (Qf n)}{x:Qf n}{fp:FP}(u:FIn w All x fp) (s:x.small) :
 Rd prog 131 #[.agg #[.slice p m.length c,.int .i64 x.regs,.slice fp.pP x.params.length fp.cP,.slice fp.pR x.results.length fp.cR,.slice fp.pB x.blocks.length fp.cB,.int .i64 (fi:Int)]] w (.bool (bdec x.begins)):=by
 have K:Hid _:=u;have L:Hid _:=s;clear u s;refine Qv (n:=21) func131 Z Z Z <| fun a E=>?_
 have T:=Ye w;replace E:Fr 21 a [(0,.agg #[.slice p m.length c,.int .i64 x.regs,.slice fp.pP x.params.length fp.cP,.slice fp.pR x.results.length fp.cR,.slice fp.pB x.blocks.length fp.cB,.int .i64 (fi:Int)])]:=E;refine XW fun K1 H=>rg E fun l=>sB T Y Z Z <| fun w2 B2 f V=>sa Y Z Z <| Yb fun X P=>H _ _ <| XW fun K4 k=>Q5 <| fun l i=>?_
 have d:(l[4]?).bind (fun o:Oper=>o.dst)=some 7:=i 4;have b:(l[11]?).bind (fun o:Oper=>o.dst)=some 14:=i 11;clear i;refine St.go P <| sffuncLook1 Y Z Z <| sfFunc0 Y Z Z <| Q7 0 f Y Z Z Z Z <| seq Y Z Z Z <| sm Y Z Z <| fun U z=>?_
 rcases Xa (x.regs==0) with g | g
 ·rw[g] at z
  have j:x.regs=0:=XD g;have G:Hid (x.regs=0):=j;clear j;clear g;refine St.go z <| sffuncLook1 ⟨_,d,Z,Z⟩ Z Z <| sfFunc1 ⟨_,d,Z,Z⟩ Z Z <| ZW 0 f ⟨_,d,Z,Z⟩ Z Z Z Z <| Qbb ⟨_,d,Z,Z⟩ Z Z <| seq ⟨_,d,Z,Z⟩ Z Z Z <| sp Y Z Z Z <| sm Y Z Z <| fun W y=>?_
  rcases Xa ((x.params.length:Int)==0) with g | g
  ·rw[g] at y
   have j:x.params.length=0:=by have Q:=XD g;omega
   have A:Hid (x.params.length=0):=j;clear j;clear g;refine St.go y <| sffuncLook1 ⟨_,b,Z,Z⟩ Z Z <| sfFunc2 ⟨_,b,Z,Z⟩ Z Z <| ZW 0 f ⟨_,b,Z,Z⟩ Z Z Z Z ?_
   refine QdF cf146 f (Qeq (Ya K.out.results f.bel) (by have:=L.out.2.2.1.1;omega)) ⟨_,b,Z,Z⟩ Z Z Z ?_;clear f;intro w9 D;refine sn ⟨_,b,Z,Z⟩ Z Z <| sp Y Z Z Z <| sa Y Z Z <| Yb fun M B=>k _ _ ?_
   refine XA ?_;with_reducible repeat first | refine Qd ?_ | refine Qc ?_
   have R:(!(decide (0<=Qft 0 x.results)))=true↔x.begins:=by
    have O:=G.out;have N:=A.out;have I:=Qgc x.results 0;by_cases v:0<=Qft 0 x.results
    ·simp only[v,decide_true,Bool.not_true,Bool.false_eq_true,false_iff]
     exact fun h=>I.1 v h.2.2
    ·simp only[v,decide_false,Bool.not_false,true_iff]
     refine⟨O,N,?_⟩
     cases e:x.results.all (fun t=>t.kind==1) with
     | true=>rfl
     | false=>exact absurd (I.2 (by rw[e];decide)) v
   exact Ql (t:=2) B Z Z ⟨by rw[<-Qee R],D.bel⟩
  rw[g] at y
  have j:¬ x.params.length=0:=by have Q:=XE g;omega
  have r:¬ x.params.length=0:=j;clear j;clear g;refine St.go y <| so b Z Z Z Z <| so b Z Z Z Z <| so b Z Z Z Z <| so b Z Z Z Z <| so b Z Z Z Z <| spf Y Z Z Z <| sa Y Z Z <| Yb fun S C=>k _ _ ?_
  refine XA ?_;with_reducible repeat first | refine Qd ?_ | refine Qc ?_
  have R:¬ x.begins:=fun h=>r h.2.1;exact Ql (t:=2) C Z Z ⟨by rw[Qh R],f.bel⟩
 rw[g] at z
 have j:¬ x.regs=0:=XE g;have q:¬ x.regs=0:=j;clear j;clear g;refine St.go z <| so d Z Z Z Z <| so d Z Z Z Z <| so d Z Z Z Z <| so d Z Z Z Z <| so d Z Z Z Z <| spf Y Z Z Z <| sm Y Z Z <| so b Z Z Z Z <| so b Z Z Z Z <| so b Z Z Z Z <| so b Z Z Z Z <| so b Z Z Z Z <| spf Y Z Z Z <| sa Y Z Z <| Yb fun J F=>k _ _ ?_
 refine XA ?_;with_reducible repeat first | refine Qd ?_ | refine Qc ?_
 have R:¬ x.begins:=fun h=>q h.1;exact Ql (t:=2) F Z Z ⟨by rw[Qh R],f.bel⟩
theorem Qhv {m:List (Qf n)}{x:Qf n}{fp:FP}{y:Qe n}{bp:BP}{bi:Nat}(r:FIn w All x fp) (k:x.small) (i:BIn w All y bp) (l:y.small) :
 Rd prog 148 #[.agg #[.slice p m.length c,.int .i64 x.regs,.slice fp.pP x.params.length fp.cP,.slice fp.pR x.results.length fp.cR,.slice fp.pB x.blocks.length fp.cB,.int .i64 (fi:Int),.int .i64 y.regs,.slice bp.pP y.params.length bp.cP,.slice bp.pC y.code.length bp.cC,.int .i64 y.fin.op,.int .i64 y.fin.a,.int .i64 y.fin.yes.block,.slice bp.e.pYR y.fin.yes.regs.length bp.e.cYR,.slice bp.e.pYA y.fin.yes.args.length bp.e.cYA,.int .i64 y.fin.no.block,.slice bp.e.pNR y.fin.no.regs.length bp.e.cNR,.slice bp.e.pNA y.fin.no.args.length bp.e.cNA,.slice bp.e.pA y.fin.args.length bp.e.cA,.int .i64 (bi:Int)]] w (.bool (bdec (y.takes x))):=by
 have E:Hid _:=r;have L:Hid _:=k;have F:Hid _:=i;have K:Hid _:=l;clear r k i l;refine Qv (n:=21) func148 Z Z Z <| fun a B=>?_
 have J:=Ye w;replace B:Fr 21 a [(0,.agg #[.slice p m.length c,.int .i64 x.regs,.slice fp.pP x.params.length fp.cP,.slice fp.pR x.results.length fp.cR,.slice fp.pB x.blocks.length fp.cB,.int .i64 (fi:Int),.int .i64 y.regs,.slice bp.pP y.params.length bp.cP,.slice bp.pC y.code.length bp.cC,.int .i64 y.fin.op,.int .i64 y.fin.a,.int .i64 y.fin.yes.block,.slice bp.e.pYR y.fin.yes.regs.length bp.e.cYR,.slice bp.e.pYA y.fin.yes.args.length bp.e.cYA,.int .i64 y.fin.no.block,.slice bp.e.pNR y.fin.no.regs.length bp.e.cNR,.slice bp.e.pNA y.fin.no.args.length bp.e.cNA,.slice bp.e.pA y.fin.args.length bp.e.cA,.int .i64 (bi:Int)])]:=B;refine XW fun S D=>rg B fun s=>sB J Y Z Z <| fun Q V d N=>sa Y Z Z <| Yb fun O H=>D _ _ <| XW fun T j=>Q5 <| fun s f=>?_
 have b:(s[8]?).bind (fun o:Oper=>o.dst)=some 11:=f 8;clear f;refine St.go H <| sfblockLook1 Y Z Z <| sfBlock0 Y Z Z <| Q7 0 d Y Z Z Z Z <| sfblockLook0 Y Z Z <| sffuncLook1 Y Z Z <| sfFunc0 Y Z Z <| Q7 0 d Y Z Z Z Z <| seq Y Z Z Z <| sm Y Z Z <| fun M u=>?_
 rcases Xa (y.regs==x.regs) with g | g
 ·rw[g] at u
  have q:y.regs=x.regs:=XD g;have C:Hid (y.regs=x.regs):=q;clear q;clear g;refine St.go u <| sfblockLook1 ⟨_,b,Z,Z⟩ Z Z <| sfBlock1 ⟨_,b,Z,Z⟩ Z Z <| ZW 0 d ⟨_,b,Z,Z⟩ Z Z Z Z <| sfblockLook0 ⟨_,b,Z,Z⟩ Z Z <| sffuncLook1 ⟨_,b,Z,Z⟩ Z Z <| sfFunc1 ⟨_,b,Z,Z⟩ Z Z <| ZW 0 d ⟨_,b,Z,Z⟩ Z Z Z Z <| Ql0 cf141 d (Qf3 (Ya F.out.params d.bel) (Ya E.out.params d.bel) K.out.2.1) ⟨_,b,Z,Z⟩ Z Z Z Z <| fun U A=>sp Y Z Z Z <| sa Y Z Z <| Yb fun P I=>j _ _ ?_
  refine XA ?_;with_reducible repeat first | refine Qd ?_ | refine Qc ?_
  have R:y.params=x.params↔y.takes x:=⟨fun h=>⟨C.out,h⟩,fun h=>h.2⟩;exact Ql (t:=2) I Z Z ⟨by rw[Qbu R],A.bel⟩
 rw[g] at u
 have q:¬ y.regs=x.regs:=XE g;have z:¬ y.regs=x.regs:=q;clear q;clear g;refine St.go u <| so b Z Z Z Z <| so b Z Z Z Z <| so b Z Z Z Z <| so b Z Z Z Z <| so b Z Z Z Z <| so b Z Z Z Z <| so b Z Z Z Z <| so b Z Z Z Z <| spf Y Z Z Z <| sa Y Z Z <| Yb fun G v=>j _ _ ?_
 refine XA ?_;with_reducible repeat first | refine Qd ?_ | refine Qc ?_
 have R:¬ y.takes x:=fun h=>z h.1;exact Ql (t:=2) v Z Z ⟨by rw[Qh R],d.bel⟩
theorem QeO {m:List (Qf n)}{x:Qf n}{fp:FP}(C:FIn w All x fp) (l:x.small) :
 Rd prog 95 #[.agg #[.slice p m.length c,.int .i64 x.regs,.slice fp.pP x.params.length fp.cP,.slice fp.pR x.results.length fp.cR,.slice fp.pB x.blocks.length fp.cB,.int .i64 (fi:Int)]] w (.int .i64 (x.code fi)):=by
 have K:=QI C;have I:=QI l;have Q:=l.1;have S:Hid (GbS w (w.alloc (.cells #[.slice p m.length c,.int .i64 x.regs,.slice fp.pP x.params.length fp.cP,.slice fp.pR x.results.length fp.cR,.slice fp.pB x.blocks.length fp.cB,.int .i64 (fi:Int)] 93)) [(w.heap.size,#[.slice p m.length c,.int .i64 x.regs,.slice fp.pP x.params.length fp.cP,.slice fp.pR x.results.length fp.cR,.slice fp.pB x.blocks.length fp.cB,.int .i64 (fi:Int)],93)]):=GbS.new ⟨Zr,fun i b y=>by simp at y⟩ _ _;clear C l;unfold Rd;go_enter func95,ntmps95
 go_upto_region 1 with fail
 generalize w.alloc (.cells #[.slice p m.length c,.int .i64 x.regs,.slice fp.pP x.params.length fp.cP,.slice fp.pR x.results.length fp.cR,.slice fp.pB x.blocks.length fp.cB,.int .i64 (fi:Int)] 93)=w1 at S |-;generalize w.heap.size=X at S |-;have j:=Qb (S.out.box 0 _ Z) 1 _ Z;go_cut [14] (fun v wx=>v=.bool (decide (x.regs<0\/6<x.regs))/\GbS w wx [(X,#[.slice p m.length c,.int .i64 x.regs,.slice fp.pP x.params.length fp.cP,.slice fp.pR x.results.length fp.cR,.slice fp.pB x.blocks.length fp.cB,.int .i64 (fi:Int)],93)])
 case first =>
  by_cases h:x.regs<0
  ·have H:decide (x.regs<0)=true:=Xt h;have E:decide (x.regs<0\/6<x.regs)=true:=Xt (.inl (by omega));go_wp2
   go_meet;exact⟨by rw[E],S.out⟩
  ·have H:decide (x.regs<0)=false:=Xu h;have E:decide (x.regs<0\/6<x.regs)=decide (x.regs>6):=by rw[decide_eq_decide];omega
   go_wp2
   all_goals
    go_meet;exact⟨by rw[E],S.out⟩
 case rest =>
  obtain⟨rfl,g⟩:=hcut
  have r:=QI g;clear g S j;by_cases f:x.regs<0\/6<x.regs
  ·rw[Xt f]
   have E:x.code fi=1:=Xs f;clear f;go_wp2_with fail
   go_ret;exact⟨by first | rfl | (rw[E];done) | (rw[E];rfl),r.out.bel⟩
  rw[Xu f]
  have j:=Qb (r.out.box 0 _ Z) 1 _ Z;have u:=Qb (r.out.box 0 _ Z) 2 _ Z;have k:=QI (Qa2 (regs:=x.regs) (Ya K.out.params r.out.bel) I.out.2.1);unfold Rd at k;go_wp2_with fail
  refine k.out.mono ?_;rintro _ U ⟨rfl,A⟩;have z:=QI (r.out.below A);clear A k j u r;generalize a:listC x.regs x.params=o;by_cases J:o=0
  rotate_left
  ·have W:(o != 0)=true:=by simpa using J
   have E:x.code fi=o:=by unfold Qf.code;rw[Xr f,a,Xs J]
   go_wp2_with fail
   go_ret;exact⟨by first | rfl | (rw[E];done) | (rw[E];rfl),z.out.bel⟩
  subst J;have j:=Qb (z.out.box 0 _ Z) 1 _ Z;have u:=Qb (z.out.box 0 _ Z) 3 _ Z;have k:=QI (Qa2 (regs:=x.regs) (Ya K.out.results z.out.bel) I.out.2.2.1);unfold Rd at k;go_wp2_with fail
  refine k.out.mono ?_;rintro _ U ⟨rfl,A⟩;have B:=QI (z.out.below A);clear A k j u z;generalize e:listC x.regs x.results=o;by_cases L:o=0
  rotate_left
  ·have W:(o != 0)=true:=by simpa using L
   have E:x.code fi=o:=by unfold Qf.code;rw[Xr f,a,Xr (by simp),e,Xs L]
   go_wp2_with fail
   go_ret;exact⟨by first | rfl | (rw[E];done) | (rw[E];rfl),B.out.bel⟩
  subst L;go_upto_region 9 with fail
  have D:=Qb (B.out.box 0 _ Z) 4 _ Z;go_cut [46] (fun v wx=>v=.bool (decide (x.blocks.length<1\/12<x.blocks.length))/\GbS w wx [(X,#[.slice p m.length c,.int .i64 x.regs,.slice fp.pP x.params.length fp.cP,.slice fp.pR x.results.length fp.cR,.slice fp.pB x.blocks.length fp.cB,.int .i64 (fi:Int)],93)])
  case first =>
   by_cases h:(x.blocks.length:Int)<1
   ·have H:decide ((x.blocks.length:Int)<1)=true:=Xt h;have E:decide (x.blocks.length<1\/12<x.blocks.length)=true:=Xt (.inl (by omega));go_wp2
    go_meet;exact⟨by rw[E],B.out⟩
   ·have H:decide ((x.blocks.length:Int)<1)=false:=Xu h;have E:decide (x.blocks.length<1\/12<x.blocks.length)=decide ((x.blocks.length:Int)>12):=by rw[decide_eq_decide];omega
    go_wp2
    all_goals
     go_meet;exact⟨by rw[E],B.out⟩
  case rest =>
   obtain⟨rfl,g⟩:=hcut
   have d:=QI g;clear g B D;by_cases q:x.blocks.length<1\/12<x.blocks.length
   ·rw[Xt q]
    have E:x.code fi=2:=by unfold Qf.code;rw[Xr f,a,Xr (by simp),e,Xr (by simp),Xs q]
    clear q;go_wp2_with fail
    go_ret;exact⟨by first | rfl | (rw[E];done) | (rw[E];rfl),d.out.bel⟩
   rw[Xu q]
   go_upto_region 11 with fail
   have V:Hid (fi=0/\¬ x.begins->x.code fi=18):=by
    intro h;unfold Qf.code;rw[Xr f,a,Xr (by simp),e,Xr (by simp),Xr q]
    exact Xs h
   have T:Hid (¬ (fi=0/\¬ x.begins)->x.code fi=0):=by
    intro h;unfold Qf.code;rw[Xr f,a,Xr (by simp),e,Xr (by simp),Xr q]
    exact Xr h
   clear f a e q;have j:=Qb (d.out.box 0 _ Z) 0 _ Z;have u:=Qb (d.out.box 0 _ Z) 1 _ Z;have O:=Qb (d.out.box 0 _ Z) 2 _ Z;have D:=Qb (d.out.box 0 _ Z) 3 _ Z;have M:=Qb (d.out.box 0 _ Z) 4 _ Z;have N:=Qb (d.out.box 0 _ Z) 5 _ Z;go_cut [54] (fun v wx=>v=.bool (bdec (fi=0/\¬ x.begins))/\GbS w wx [(X,#[.slice p m.length c,.int .i64 x.regs,.slice fp.pP x.params.length fp.cP,.slice fp.pR x.results.length fp.cR,.slice fp.pB x.blocks.length fp.cB,.int .i64 (fi:Int)],93)])
   case first =>
    by_cases t:fi=0
    rotate_left
    ·have R:((fi:Int)==0)=false:=by simpa using t
     have E:bdec (fi=0/\¬ x.begins)=false:=Qh (fun h=>t h.1);clear t;go_wp2
     go_meet;exact⟨by rw[E],d.out⟩
    have R:((fi:Int)==0)=true:=by simpa using t
    have G:=QI (QeZ (m:=m) (p:=p) (c:=c) (fi:=fi) (fp:=fp) (FIn.below K.out d.out.bel) I.out);unfold Rd at G
    have E:bdec (fi=0/\¬ x.begins)=!bdec x.begins:=by
     by_cases y:x.begins
     ·rw[Qs y];exact Qh (fun h=>h.2 y)
     ·rw[Qh y];exact Qs ⟨t,y⟩
    generalize bdec x.begins=bb at G E;clear t;go_wp2_with fail
    refine G.out.mono ?_;rintro _ w6 ⟨rfl,P⟩;have F:=QI (d.out.below P);clear P G j u O D M N;go_wp2
    all_goals
     go_meet;exact⟨by rw[E],F.out⟩
   case rest =>
    obtain⟨rfl,g⟩:=hcut
    have F:=QI g;clear g d j u O D M N;by_cases s:fi=0/\¬ x.begins
    ·rw[Qs s]
     have E:x.code fi=18:=V.out s;clear s;go_wp2_with fail
     go_ret;exact⟨by first | rfl | (rw[E];done) | (rw[E];rfl),F.out.bel⟩
    ·rw[Qh s]
     have E:x.code fi=0:=T.out s;clear s;go_wp2_with fail
     go_ret;exact⟨by first | rfl | (rw[E];done) | (rw[E];rfl),F.out.bel⟩
theorem Qet {m:List (Qf n)}{x:Qf n}{fp:FP}{y:Qe n}{bp:BP}{bi:Nat}(M:FIn w All x fp) (aa:x.small) (W:BIn w All y bp) (I:y.small) :
 Rd prog 132 #[.agg #[.slice p m.length c,.int .i64 x.regs,.slice fp.pP x.params.length fp.cP,.slice fp.pR x.results.length fp.cR,.slice fp.pB x.blocks.length fp.cB,.int .i64 (fi:Int),.int .i64 y.regs,.slice bp.pP y.params.length bp.cP,.slice bp.pC y.code.length bp.cC,.int .i64 y.fin.op,.int .i64 y.fin.a,.int .i64 y.fin.yes.block,.slice bp.e.pYR y.fin.yes.regs.length bp.e.cYR,.slice bp.e.pYA y.fin.yes.args.length bp.e.cYA,.int .i64 y.fin.no.block,.slice bp.e.pNR y.fin.no.regs.length bp.e.cNR,.slice bp.e.pNA y.fin.no.args.length bp.e.cNA,.slice bp.e.pA y.fin.args.length bp.e.cA,.int .i64 (bi:Int)]] w (.int .i64 (y.code' x bi)):=by
 have hx:Hid _:=M;have hs:Hid _:=aa;have hy:Hid _:=W;have ht:Hid _:=I;clear M aa W I;refine Qv (n:=41) func132 Z Z Z <| fun a hF=>?_
 have hW:=Ye w;replace hF:Fr 41 a [(0,.agg #[.slice p m.length c,.int .i64 x.regs,.slice fp.pP x.params.length fp.cP,.slice fp.pR x.results.length fp.cR,.slice fp.pB x.blocks.length fp.cB,.int .i64 (fi:Int),.int .i64 y.regs,.slice bp.pP y.params.length bp.cP,.slice bp.pC y.code.length bp.cC,.int .i64 y.fin.op,.int .i64 y.fin.a,.int .i64 y.fin.yes.block,.slice bp.e.pYR y.fin.yes.regs.length bp.e.cYR,.slice bp.e.pYA y.fin.yes.args.length bp.e.cYA,.int .i64 y.fin.no.block,.slice bp.e.pNR y.fin.no.regs.length bp.e.cNR,.slice bp.e.pNA y.fin.no.args.length bp.e.cNA,.slice bp.e.pA y.fin.args.length bp.e.cA,.int .i64 (bi:Int)])]:=hF;refine XW fun K1 ap=>rg hF fun d=>sB hW Y Z Z <| fun w2 B2 g hN=>sa Y Z Z <| Yb fun a3 h3=>ap _ _ <| XW fun K4 ai=>XW fun K5 V=>Q5 <| fun d k=>?_
 have i:(d[8]?).bind (fun o:Oper=>o.dst)=some 12:=k 8;clear k;refine St.go h3 <| sfblockLook1 Y Z Z <| sfBlock0 Y Z Z <| Q7 0 g Y Z Z Z Z <| sfblockLook0 Y Z Z <| sffuncLook1 Y Z Z <| sfFunc0 Y Z Z <| Q7 0 g Y Z Z Z Z <| slt Y Z Z Z <| sm Y Z Z <| fun a6 h6=>?_
 rcases Xa (decide (y.regs<x.regs)) with b | b
 ·rw[b] at h6
  have bz:y.regs<x.regs:=Xv b;clear b;refine St.go h6 <| so i Z Z Z Z <| so i Z Z Z Z <| so i Z Z Z Z <| so i Z Z Z Z <| sp Y Z Z Z <| Yb fun a8 h8=>V _ _ <| Qab (t:=17) h8 Z <| XW fun K9 ak=>rg h8 fun d=>sa Y Z Z <| Yb fun bl am=>ak _ _ ?_
  refine XA ?_;with_reducible repeat first | refine Qd ?_ | refine Qc ?_
  have R:y.code' x bi=1:=Xs (by omega);exact Ql (t:=2) am Z Z ⟨by rw[R],g.bel⟩
 rw[b] at h6
 have ay:¬ (y.regs<x.regs):=Xw b;clear b;refine St.go h6 <| sfblockLook1 ⟨_,i,Z,Z⟩ Z Z <| sfBlock0 ⟨_,i,Z,Z⟩ Z Z <| Q7 0 g ⟨_,i,Z,Z⟩ Z Z Z Z <| sgt ⟨_,i,Z,Z⟩ Z Z Z <| spf Y Z Z Z <| Yb fun b4 E=>V _ _ <| Qt (t:=17) E Z (fun b=>?_) (fun b=>?_)
 ·have ar:16<y.regs:=Xv b
  clear b;refine XW fun bb T=>rg E fun d=>sa Y Z Z <| Yb fun a2 al=>T _ _ ?_
  refine XA ?_;with_reducible repeat first | refine Qd ?_ | refine Qc ?_
  have R:y.code' x bi=1:=Xs (by omega);exact Ql (t:=2) al Z Z ⟨by rw[R],g.bel⟩
 have au:¬ (16<y.regs):=Xw b;clear b;refine XB <| ai _ _ <| XW fun bx Q=>XW fun b2 N=>rg E fun d=>sfblockLook1 Y Z Z <| sfBlock1 Y Z Z <| ZW 0 g Y Z Z Z Z <| sfblockLook1 Y Z Z <| sfBlock0 Y Z Z <| Q7 0 g Y Z Z Z Z <| QdF cf130 g (Qa2 (regs:=y.regs) (Ya hy.out.params g.bel) ht.out.2.1) Y Z Z Z <| fun bj f=>sa Y Z Z <| Yb fun bt ah=>N _ _ <| XW fun bq S=>rg ah fun d=>sm Y Z Z <| sne Y Z Z Z <| Yb fun bu C=>S _ _ <| Qt (t:=26) C Z (fun b=>?_) (fun b=>?_)
 ·have r:¬ (listC y.regs y.params)=0:=bne_iff_ne.1 b
  have av:¬ (listC y.regs y.params)=0:=r;clear r;clear b;refine XW fun b1 L=>rg C fun d=>sm Y Z Z <| sa Y Z Z <| Yb fun bg ag=>L _ _ ?_
  refine XA ?_;with_reducible repeat first | refine Qd ?_ | refine Qc ?_
  have R:y.code' x bi=listC y.regs y.params:=(Xr (by omega)).trans (Xs (by omega));exact Ql (t:=2) ag Z Z ⟨by rw[R],f.bel⟩
 have r:(listC y.regs y.params)=0:=XH.1 b;have j:Hid ((listC y.regs y.params)=0):=r;clear r;clear b;refine XB <| Q _ _ <| XW fun a7 A=>XW fun bh z=>Q5 <| fun d k=>?_
 have q:(d[3]?).bind (fun o:Oper=>o.dst)=some 31:=k 3;clear k;refine St.go C <| sfblockLook2 Y Z Z <| Q7 0 f Y Z Z Z Z <| seq Y Z Z Z <| sm Y Z Z <| fun bv u=>?_
 rcases Xa ((bi:Int)==0) with b | b
 ·rw[b] at u
  have r:bi=0:=by have h8:=XD b;omega
  have s:Hid (bi=0):=r;clear r;clear b;refine St.go u <| sS 0 19 underlying131 Z infblockLook f ⟨_,q,Z,Z⟩ Z Z Z Z <| QjO cf148 f (Qhv (m:=m) (p:=p) (c:=c) (fi:=fi) (bi:=bi) (hx.out.below f.bel) hs.out (hy.out.below f.bel) ht.out) ⟨_,q,Z,Z⟩ Z Z <| fun br l=>sn ⟨_,q,Z,Z⟩ Z Z <| sp Y Z Z Z <| Yb fun b0 D=>z _ _ <| Qt (t:=35) D Z (fun b=>?_) (fun b=>?_)
  ·have b:(bdec (y.takes x))=false:=by simpa using b
   have O:¬ (y.takes x):=fun h=>by rw[Qs h] at b;cases b
   clear b;refine XW fun bn K=>rg D fun d=>sa Y Z Z <| Yb fun bc an=>K _ _ ?_
   refine XA ?_;with_reducible repeat first | refine Qd ?_ | refine Qc ?_
   have:=j.out
   have:=s.out
   have R:y.code' x bi=9:=(Xr (by omega)).trans ((Xr (by omega)).trans (Xs (⟨by omega,Qjw O⟩)));exact Ql (t:=2) an Z Z ⟨by rw[R],l.bel⟩
  have b:(bdec (y.takes x))=true:=by simpa using b
  have v:(y.takes x):=Zj.1 b;clear b;refine XB <| A _ _ <| XW fun a9 J=>XW fun bw U=>rg D fun d=>sfblockLook1 Y Z Z <| sfBlock2 Y Z Z <| Qc4 0 l Y Z Z Z Z <| Qch Y Z Z <| sgt Y Z Z Z <| Yb fun bf B=>U _ _ <| Qt (t:=40) B Z (fun b=>?_) (fun b=>?_)
  ·have ax:40<y.code.length:=by have:=Xv b;omega
   clear b;refine XW fun bd ad=>rg B fun d=>sa Y Z Z <| Yb fun a4 ae=>ad _ _ ?_
   refine XA ?_;with_reducible repeat first | refine Qd ?_ | refine Qc ?_
   have:=j.out
   have:=s.out
   have R:y.code' x bi=2:=(Xr (by omega)).trans ((Xr (by omega)).trans ((Xr (fun h=>QeK v h.2)).trans (Xs (by omega))));exact Ql (t:=2) ae Z Z ⟨by rw[R],l.bel⟩
  have az:¬ (40<y.code.length):=by have:=Xw b;omega
  clear b;refine XB <| J _ _ <| XW fun be H=>rg B fun d=>sa Y Z Z <| Yb fun a5 ao=>H _ _ ?_
  refine XA ?_;with_reducible repeat first | refine Qd ?_ | refine Qc ?_
  have:=j.out
  have:=s.out
  have R:y.code' x bi=0:=(Xr (by omega)).trans ((Xr (by omega)).trans ((Xr (fun h=>QeK v h.2)).trans ((Xr (by omega)).trans (rfl))));exact Ql (t:=2) ao Z Z ⟨by rw[R],l.bel⟩
 rw[b] at u
 have r:¬ bi=0:=by have h8:=XE b;omega
 have aw:¬ bi=0:=r;clear r;clear b;refine St.go u <| so q Z Z Z Z <| so q Z Z Z Z <| so q Z Z Z Z <| spf Y Z Z Z <| Yb fun bk X=>z _ _ <| Qgg (t:=35) X Z <| XB <| A _ _ <| XW fun bo ab=>XW fun b3 P=>rg X fun d=>sfblockLook1 Y Z Z <| sfBlock2 Y Z Z <| Qc4 0 f Y Z Z Z Z <| Qch Y Z Z <| sgt Y Z Z Z <| Yb fun bm F=>P _ _ <| Qt (t:=40) F Z (fun b=>?_) (fun b=>?_)
 ·have a0:40<y.code.length:=by have:=Xv b;omega
  clear b;refine XW fun bs G=>rg F fun d=>sa Y Z Z <| Yb fun b5 af=>G _ _ ?_
  refine XA ?_;with_reducible repeat first | refine Qd ?_ | refine Qc ?_
  have:=j.out
  have R:y.code' x bi=2:=(Xr (by omega)).trans ((Xr (by omega)).trans ((Xr (by omega)).trans (Xs (by omega))));exact Ql (t:=2) af Z Z ⟨by rw[R],f.bel⟩
 have aq:¬ (40<y.code.length):=by have:=Xw b;omega
 clear b;refine XB <| ab _ _ <| XW fun ba ac=>rg F fun d=>sa Y Z Z <| Yb fun a1 aj=>ac _ _ ?_
 refine XA ?_;with_reducible repeat first | refine Qd ?_ | refine Qc ?_
 have:=j.out
 have R:y.code' x bi=0:=(Xr (by omega)).trans ((Xr (by omega)).trans ((Xr (by omega)).trans ((Xr (by omega)).trans (rfl))));exact Ql (t:=2) aj Z Z ⟨by rw[R],f.bel⟩
theorem QiI {l:List QC}{Bc:Nat}(G:Nat->QC->Int × Int) (S:insL.list.In w All l [.slice p l.length c]) (ba:l.length<=100000)
 (F:∀ (i:Nat) x (z:IP) wx,l[i]?=some x->IIn wx All x z->Below w.heap.size w wx->Rd prog 135 #[.int .i64 (i:Int),.agg #[.int .i64 x.op,.int .i64 x.a,.int .i64 x.b,.int .i64 x.c,.int .i64 x.k,.int .i64 x.n,.slice z.pR x.regs.length z.cR,.slice z.pA x.args.length z.cA],.pointer (some ⟨Bc,0,none⟩)] wx (QJ (G i x))) :
 Rd prog 134 #[.slice p l.length c,.func (.func 135) #[] #[.pointer (some ⟨Bc,0,none⟩)]] w (QJ (firstF G 0 l)):=by
 have hl:Hid _:=S;have am:Hid _:=F;clear S F;refine Qv (n:=25) func134 Z Z Z <| fun a hF=>?_
 have hW:=Ye w;replace hF:Fr 25 a [(0,.slice p l.length c),(1,.func (.func 135) #[] #[.pointer (some ⟨Bc,0,none⟩)])]:=hF;refine XW fun K1 aq=>rg hF fun d=>ZY hW Y Z <| fun w2 B2 T hN=>Yb fun a3 h3=>aq _ _ <| XW fun K4 ak=>XW fun K5 ao=>rg h3 fun d=>sm Y Z Z <| Qch Y Z Z <| sm Y Z Z <| Yb fun a6 C=>ao _ _ <| XJ <| ZL (fun r a w'=>∃ q:Nat,q<=l.length/\r=l.length - q/\(∀ (j:Nat) y,j<q->l[j]?=some y->(G j y).1=0)/\Fr 25 a [(1,.func (.func 135) #[] #[.pointer (some ⟨Bc,0,none⟩)]),(0,.slice p l.length c),(4,.pointer (some ⟨B2,0,none⟩)),(8,.slice p l.length c),(9,.int .i64 (l.length:Int)),(10,.int .i64 (q:Int))]/\Wd w w' [(B2,#[.int .i64 0,.int .i64 0],30)]) (l.length) ⟨0,Xb _,Z,(fun j y hj=>by omega),(C.keep (C.keep (C.keep (C.keep (C.keep (C.keep C.nil (t:=10) Z) (t:=9) Z) (t:=8) Z) (t:=4) Z) (t:=0) Z) (t:=1) Z),T⟩ ?_
 clear C T;rintro r a7 w7 ⟨q,hq,hr,u,al,M⟩ KL ag;refine XW fun K8 ap=>rg al fun d=>slt Y Z Z Z <| Yb fun a9 s=>ap _ _ <| XW fun bg X=>Qt (t:=11) s Z (fun A=>?_) (fun A=>?_)
 ·have B:q<l.length:=by have:=Xv A;omega
  clear A;obtain⟨x,o⟩:∃ v9,(l)[q]?=some v9:=⟨_,Zg B⟩
  obtain⟨g1,o1,i1,L,E1,N⟩:=Qdf hl.out o
  replace N:Hid _:=N;replace L:Hid _:=L;replace o:Hid _:=o;replace E1:Hid _:=E1;refine XB <| X _ _ <| XW fun a8 ab=>XJ <| XW fun bd V=>rg s fun d=>sm Y Z Z <| QgA L.out B Y Z Z Z <| sSE underlying46 Z (QS E1.out M.bel) infIns Y Z Z <| QjB M Y Z <| fun bk az W hN=>sa Y Z Z <| sT 0 W Z Z infIns Z Z Z <| fun ah m=>Yb fun ar an=>V _ _ <| XW fun bb P=>rg an fun d=>sm Y Z Z <| sm Y Z Z <| sS 0 8 underlying46 Z infIns m Y Z Z Z Z <| QkC cf135 m (am.out q x i1 ah o.out (N.out.below m.bel) m.bel) Y Z Z Z Z <| fun bc Q=>ZY Q Y Z <| fun au a0 ad hN=>sT 0 ad Z Z infFault Z Z Z <| fun ax h=>Yb fun a4 aj=>P _ _ <| XW fun a1 aa=>rg aj fun d=>sfFault0 Y Z Z <| Q7 0 h Y Z Z Z Z <| sne Y Z Z Z <| Yb fun a5 I=>aa _ _ <| Qt (t:=21) I Z (fun A=>?_) (fun A=>?_)
  ·have s:¬ ((G q x).1)=0:=bne_iff_ne.1 A
   have J:¬ ((G q x).1)=0:=s;clear s;clear A;refine XW fun ay U=>rg I fun d=>sS 0 2 underlying30 Z infFault h Y Z Z Z Z <| sT 2 h Z Z infFault Z Z Z <| fun bi E=>Yb fun aw ai=>U _ _ ?_
   refine XA ?_;with_reducible repeat first | refine Qd ?_ | refine Qc ?_
   have R:firstF G 0 l=G q x:=by have s:=Qaa (f:=G) (j:=0) o.out (fun k y hk D=>by rw[XK];exact u k y hk D) (by rw[XK];exact J);rwa [XK] at s
   exact QW 2 ai E Z Z Z underlying30 Z infFault ⟨by show Ending.returned (.agg #[.int .i64 ((G q x).1),.int .i64 ((G q x).2)])=_;rw[R],E.bel⟩
  have s:((G q x).1)=0:=XH.1 A;have J:Hid (((G q x).1)=0):=s;clear s;clear A;refine XB <| ab _ _ <| rg I fun d=>sad (by omega) Y Z Z Z <| sm Y Z Z <| Yb fun bj g=>ag _ _ (l.length - (q+1)) (by omega) ⟨q+1,by omega,Z,?_,(g.keep (g.keep (g.keep (g.keep (g.keep (g.keep g.nil (t:=10) Z) (t:=9) Z) (t:=8) Z) (t:=4) Z) (t:=0) Z) (t:=1) Z),h.tail.tail⟩
  ·intro j y hj D
   by_cases e:j=q
   ·subst e;rw[o.out] at D;cases D;exact J.out
   ·exact u j y (by omega) D
 have bh:q=l.length:=by have:=Xw A;omega
 clear A;refine wp_exit <| ak _ _ <| XW fun av ac=>rg s fun d=>fun bl O=>Zh (t:=24) (v:=.agg #[.int .i64 0,.int .i64 0]) (w':=w7) O Z Z Z (fun K hK=>?_) ?_
 ·go_simp
  exact hK
 clear O;intro bf ae;refine St.go ae <| sT 0 M Z Z infFault Z Z Z <| fun be H=>Yb fun a2 af=>ac _ _ ?_
 refine XA ?_;with_reducible repeat first | refine Qd ?_ | refine Qc ?_
 have R:firstF G 0 l=(0,0):=QT (fun k y D=>by rw[XK];exact u k y (by have:=(Zi D).1;omega) D);exact QW 0 af H Z Z Z underlying30 Z infFault ⟨by show Ending.returned (.agg #[.int .i64 0,.int .i64 0])=_;rw[R],H.bel⟩
theorem Qf5 {l:List (Qe n)}{Bc:Nat}(G:Nat->(Qe n)->Int × Int) (Q:(Zy n).list.In w All l [.slice p l.length c]) (a8:l.length<=100000)
 (E:∀ (i:Nat) x (z:BP) wx,l[i]?=some x->BIn wx All x z->Below w.heap.size w wx->Rd prog 99 #[.int .i64 (i:Int),.agg #[.int .i64 x.regs,.slice z.pP x.params.length z.cP,.slice z.pC x.code.length z.cC,.int .i64 x.fin.op,.int .i64 x.fin.a,.int .i64 x.fin.yes.block,.slice z.e.pYR x.fin.yes.regs.length z.e.cYR,.slice z.e.pYA x.fin.yes.args.length z.e.cYA,.int .i64 x.fin.no.block,.slice z.e.pNR x.fin.no.regs.length z.e.cNR,.slice z.e.pNA x.fin.no.args.length z.e.cNA,.slice z.e.pA x.fin.args.length z.e.cA],.pointer (some ⟨Bc,0,none⟩)] wx (QJ (G i x))) :
 Rd prog 98 #[.slice p l.length c,.func (.func 99) #[] #[.pointer (some ⟨Bc,0,none⟩)]] w (QJ (firstF G 0 l)):=by
 have hl:Hid _:=Q;have al:Hid _:=E;clear Q E;refine Qv (n:=25) func98 Z Z Z <| fun a hF=>?_
 have hW:=Ye w;replace hF:Fr 25 a [(0,.slice p l.length c),(1,.func (.func 99) #[] #[.pointer (some ⟨Bc,0,none⟩)])]:=hF;refine XW fun K1 ap=>rg hF fun b=>ZY hW Y Z <| fun w2 B2 S hN=>Yb fun a3 h3=>ap _ _ <| XW fun K4 aj=>XW fun K5 an=>rg h3 fun b=>sm Y Z Z <| QaW Y Z Z <| sm Y Z Z <| Yb fun a6 B=>an _ _ <| XJ <| ZL (fun r a w'=>∃ q:Nat,q<=l.length/\r=l.length - q/\(∀ (j:Nat) y,j<q->l[j]?=some y->(G j y).1=0)/\Fr 25 a [(1,.func (.func 99) #[] #[.pointer (some ⟨Bc,0,none⟩)]),(0,.slice p l.length c),(4,.pointer (some ⟨B2,0,none⟩)),(8,.slice p l.length c),(9,.int .i64 (l.length:Int)),(10,.int .i64 (q:Int))]/\Wd w w' [(B2,#[.int .i64 0,.int .i64 0],30)]) (l.length) ⟨0,Xb _,Z,(fun j y hj=>by omega),(B.keep (B.keep (B.keep (B.keep (B.keep (B.keep B.nil (t:=10) Z) (t:=9) Z) (t:=8) Z) (t:=4) Z) (t:=0) Z) (t:=1) Z),S⟩ ?_
 clear B S;rintro r a7 w7 ⟨q,hq,hr,s,ak,L⟩ KL af;refine XW fun K8 ao=>rg ak fun b=>slt Y Z Z Z <| Yb fun a9 o=>ao _ _ <| XW fun bf W=>Qt (t:=11) o Z (fun u=>?_) (fun u=>?_)
 ·have A:q<l.length:=by have:=Xv u;omega
  clear u;obtain⟨x,m⟩:∃ v9,(l)[q]?=some v9:=⟨_,Zg A⟩
  obtain⟨g1,o1,b1,J,E1,M⟩:=Qa6 hl.out m
  replace M:Hid _:=M;replace J:Hid _:=J;replace m:Hid _:=m;replace E1:Hid _:=E1;refine XB <| W _ _ <| XW fun a5 aa=>XJ <| XW fun bc U=>rg o fun b=>sm Y Z Z <| QcT J.out A Y Z Z Z <| sSE underlying60 Z (QS E1.out L.bel) infBlock Y Z Z <| QeF L Y Z <| fun bj ay V hN=>sa Y Z Z <| sT 0 V Z Z infBlock Z Z Z <| fun ag h=>Yb fun aq am=>U _ _ <| XW fun ba O=>rg am fun b=>sm Y Z Z <| sm Y Z Z <| sS 0 12 underlying60 Z infBlock h Y Z Z Z Z <| QkC cf99 h (al.out q x b1 ag m.out (M.out.below h.bel) h.bel) Y Z Z Z Z <| fun bb P=>ZY P Y Z <| fun ar az ac hN=>sT 0 ac Z Z infFault Z Z Z <| fun aw g=>Yb fun a2 ai=>O _ _ <| XW fun a0 X=>rg ai fun b=>sfFault0 Y Z Z <| Q7 0 g Y Z Z Z Z <| sne Y Z Z Z <| Yb fun a4 H=>X _ _ <| Qt (t:=21) H Z (fun u=>?_) (fun u=>?_)
  ·have o:¬ ((G q x).1)=0:=bne_iff_ne.1 u
   have I:¬ ((G q x).1)=0:=o;clear o;clear u;refine XW fun ax T=>rg H fun b=>sS 0 2 underlying30 Z infFault g Y Z Z Z Z <| sT 2 g Z Z infFault Z Z Z <| fun bh D=>Yb fun av ah=>T _ _ ?_
   refine XA ?_;with_reducible repeat first | refine Qd ?_ | refine Qc ?_
   have R:firstF G 0 l=G q x:=by have o:=Qaa (f:=G) (j:=0) m.out (fun k y hk C=>by rw[XK];exact s k y hk C) (by rw[XK];exact I);rwa [XK] at o
   exact QW 2 ah D Z Z Z underlying30 Z infFault ⟨by show Ending.returned (.agg #[.int .i64 ((G q x).1),.int .i64 ((G q x).2)])=_;rw[R],D.bel⟩
  have o:((G q x).1)=0:=XH.1 u;have I:Hid (((G q x).1)=0):=o;clear o;clear u;refine XB <| aa _ _ <| rg H fun b=>sad (by omega) Y Z Z Z <| sm Y Z Z <| Yb fun bi d=>af _ _ (l.length - (q+1)) (by omega) ⟨q+1,by omega,Z,?_,(d.keep (d.keep (d.keep (d.keep (d.keep (d.keep d.nil (t:=10) Z) (t:=9) Z) (t:=8) Z) (t:=4) Z) (t:=0) Z) (t:=1) Z),g.tail.tail⟩
  ·intro j y hj C
   by_cases e:j=q
   ·subst e;rw[m.out] at C;cases C;exact I.out
   ·exact s j y (by omega) C
 have bg:q=l.length:=by have:=Xw u;omega
 clear u;refine wp_exit <| aj _ _ <| XW fun au ab=>rg o fun b=>fun bk N=>Zh (t:=24) (v:=.agg #[.int .i64 0,.int .i64 0]) (w':=w7) N Z Z Z (fun K hK=>?_) ?_
 ·go_simp
  exact hK
 clear N;intro be ad;refine St.go ad <| sT 0 L Z Z infFault Z Z Z <| fun bd F=>Yb fun a1 ae=>ab _ _ ?_
 refine XA ?_;with_reducible repeat first | refine Qd ?_ | refine Qc ?_
 have R:firstF G 0 l=(0,0):=QT (fun k y C=>by rw[XK];exact s k y (by have:=(Zi C).1;omega) C);exact QW 0 ae F Z Z Z underlying30 Z infFault ⟨by show Ending.returned (.agg #[.int .i64 0,.int .i64 0])=_;rw[R],F.bel⟩
theorem Qg2 {l:List (Qf n)}{Bc:Nat}(G:Nat->(Qf n)->Int × Int) (Q:(QaH n).In w All l [.slice p l.length c]) (a8:l.length<=100000)
 (E:∀ (i:Nat) x (z:FP) wx,l[i]?=some x->FIn wx All x z->Below w.heap.size w wx->Rd prog 56 #[.int .i64 (i:Int),.agg #[.int .i64 x.regs,.slice z.pP x.params.length z.cP,.slice z.pR x.results.length z.cR,.slice z.pB x.blocks.length z.cB],.pointer (some ⟨Bc,0,none⟩)] wx (QJ (G i x))) :
 Rd prog 55 #[.slice p l.length c,.func (.func 56) #[] #[.pointer (some ⟨Bc,0,none⟩)]] w (QJ (firstF G 0 l)):=by
 have hl:Hid _:=Q;have al:Hid _:=E;clear Q E;refine Qv (n:=25) func55 Z Z Z <| fun a hF=>?_
 have hW:=Ye w;replace hF:Fr 25 a [(0,.slice p l.length c),(1,.func (.func 56) #[] #[.pointer (some ⟨Bc,0,none⟩)])]:=hF;refine XW fun K1 ap=>rg hF fun b=>ZY hW Y Z <| fun w2 B2 S hN=>Yb fun a3 h3=>ap _ _ <| XW fun K4 aj=>XW fun K5 an=>rg h3 fun b=>sm Y Z Z <| QaG Y Z Z <| sm Y Z Z <| Yb fun a6 B=>an _ _ <| XJ <| ZL (fun r a w'=>∃ q:Nat,q<=l.length/\r=l.length - q/\(∀ (j:Nat) y,j<q->l[j]?=some y->(G j y).1=0)/\Fr 25 a [(1,.func (.func 56) #[] #[.pointer (some ⟨Bc,0,none⟩)]),(0,.slice p l.length c),(4,.pointer (some ⟨B2,0,none⟩)),(8,.slice p l.length c),(9,.int .i64 (l.length:Int)),(10,.int .i64 (q:Int))]/\Wd w w' [(B2,#[.int .i64 0,.int .i64 0],30)]) (l.length) ⟨0,Xb _,Z,(fun j y hj=>by omega),(B.keep (B.keep (B.keep (B.keep (B.keep (B.keep B.nil (t:=10) Z) (t:=9) Z) (t:=8) Z) (t:=4) Z) (t:=0) Z) (t:=1) Z),S⟩ ?_
 clear B S;rintro r a7 w7 ⟨q,hq,hr,s,ak,L⟩ KL af;refine XW fun K8 ao=>rg ak fun b=>slt Y Z Z Z <| Yb fun a9 o=>ao _ _ <| XW fun bf W=>Qt (t:=11) o Z (fun u=>?_) (fun u=>?_)
 ·have A:q<l.length:=by have:=Xv u;omega
  clear u;obtain⟨x,m⟩:∃ v9,(l)[q]?=some v9:=⟨_,Zg A⟩
  obtain⟨g1,o1,f1,J,E1,M⟩:=Qbk hl.out m
  replace M:Hid _:=M;replace J:Hid _:=J;replace m:Hid _:=m;replace E1:Hid _:=E1;refine XB <| W _ _ <| XW fun a5 aa=>XJ <| XW fun bc U=>rg o fun b=>sm Y Z Z <| Qej J.out A Y Z Z Z <| sSE underlying40 Z (QS E1.out L.bel) infFunc Y Z Z <| Qgr L Y Z <| fun bj ay V hN=>sa Y Z Z <| sT 0 V Z Z infFunc Z Z Z <| fun ag h=>Yb fun aq am=>U _ _ <| XW fun ba O=>rg am fun b=>sm Y Z Z <| sm Y Z Z <| sS 0 4 underlying40 Z infFunc h Y Z Z Z Z <| QkC cf56 h (al.out q x f1 ag m.out (M.out.below h.bel) h.bel) Y Z Z Z Z <| fun bb P=>ZY P Y Z <| fun ar az ac hN=>sT 0 ac Z Z infFault Z Z Z <| fun aw g=>Yb fun a2 ai=>O _ _ <| XW fun a0 X=>rg ai fun b=>sfFault0 Y Z Z <| Q7 0 g Y Z Z Z Z <| sne Y Z Z Z <| Yb fun a4 H=>X _ _ <| Qt (t:=21) H Z (fun u=>?_) (fun u=>?_)
  ·have o:¬ ((G q x).1)=0:=bne_iff_ne.1 u
   have I:¬ ((G q x).1)=0:=o;clear o;clear u;refine XW fun ax T=>rg H fun b=>sS 0 2 underlying30 Z infFault g Y Z Z Z Z <| sT 2 g Z Z infFault Z Z Z <| fun bh D=>Yb fun av ah=>T _ _ ?_
   refine XA ?_;with_reducible repeat first | refine Qd ?_ | refine Qc ?_
   have R:firstF G 0 l=G q x:=by have o:=Qaa (f:=G) (j:=0) m.out (fun k y hk C=>by rw[XK];exact s k y hk C) (by rw[XK];exact I);rwa [XK] at o
   exact QW 2 ah D Z Z Z underlying30 Z infFault ⟨by show Ending.returned (.agg #[.int .i64 ((G q x).1),.int .i64 ((G q x).2)])=_;rw[R],D.bel⟩
  have o:((G q x).1)=0:=XH.1 u;have I:Hid (((G q x).1)=0):=o;clear o;clear u;refine XB <| aa _ _ <| rg H fun b=>sad (by omega) Y Z Z Z <| sm Y Z Z <| Yb fun bi d=>af _ _ (l.length - (q+1)) (by omega) ⟨q+1,by omega,Z,?_,(d.keep (d.keep (d.keep (d.keep (d.keep (d.keep d.nil (t:=10) Z) (t:=9) Z) (t:=8) Z) (t:=4) Z) (t:=0) Z) (t:=1) Z),g.tail.tail⟩
  ·intro j y hj C
   by_cases e:j=q
   ·subst e;rw[m.out] at C;cases C;exact I.out
   ·exact s j y (by omega) C
 have bg:q=l.length:=by have:=Xw u;omega
 clear u;refine wp_exit <| aj _ _ <| XW fun au ab=>rg o fun b=>fun bk N=>Zh (t:=24) (v:=.agg #[.int .i64 0,.int .i64 0]) (w':=w7) N Z Z Z (fun K hK=>?_) ?_
 ·go_simp
  exact hK
 clear N;intro be ad;refine St.go ad <| sT 0 L Z Z infFault Z Z Z <| fun bd F=>Yb fun a1 ae=>ab _ _ ?_
 refine XA ?_;with_reducible repeat first | refine Qd ?_ | refine Qc ?_
 have R:firstF G 0 l=(0,0):=QT (fun k y C=>by rw[XK];exact s k y (by have:=(Zi C).1;omega) C);exact QW 0 ae F Z Z Z underlying30 Z infFault ⟨by show Ending.returned (.agg #[.int .i64 0,.int .i64 0])=_;rw[R],F.bel⟩
theorem QhI {m:List (Qf n)}{x:Qf n}{fp:FP}{y:Qe n}{bp:BP}{bi:Nat}{Bc:Nat}{z:QC}{d:IP}(hq:q<1000000) (hm:m.length<=100000) (ab:fi<1000000) (aa:bi<1000000) (r:Blk w Bc #[.slice p m.length c,.int .i64 x.regs,.slice fp.pP x.params.length fp.cP,.slice fp.pR x.results.length fp.cR,.slice fp.pB x.blocks.length fp.cB,.int .i64 (fi:Int),.int .i64 y.regs,.slice bp.pP y.params.length bp.cP,.slice bp.pC y.code.length bp.cC,.int .i64 y.fin.op,.int .i64 y.fin.a,.int .i64 y.fin.yes.block,.slice bp.e.pYR y.fin.yes.regs.length bp.e.cYR,.slice bp.e.pYA y.fin.yes.args.length bp.e.cYA,.int .i64 y.fin.no.block,.slice bp.e.pNR y.fin.no.regs.length bp.e.cNR,.slice bp.e.pNA y.fin.no.args.length bp.e.cNA,.slice bp.e.pA y.fin.args.length bp.e.cA,.int .i64 (bi:Int)] 131) :
 Rd prog 135 #[.int .i64 (q:Int),.agg #[.int .i64 z.op,.int .i64 z.a,.int .i64 z.b,.int .i64 z.c,.int .i64 z.k,.int .i64 z.n,.slice d.pR z.regs.length d.cR,.slice d.pA z.args.length d.cA],.pointer (some ⟨Bc,0,none⟩)] w (QJ (atF (z.form m.length) (10000*(fi:Int)+100*(bi:Int)+(q:Int)))):=by
 have o:Hid _:=r;clear r;refine Qv (n:=19) func135 Z Z Z <| fun a S=>?_
 have g:=Ye w;replace S:Fr 19 a [(0,.int .i64 (q:Int)),(1,.agg #[.int .i64 z.op,.int .i64 z.a,.int .i64 z.b,.int .i64 z.c,.int .i64 z.k,.int .i64 z.n,.slice d.pR z.regs.length d.cR,.slice d.pA z.args.length d.cA]),(2,.pointer (some ⟨Bc,0,none⟩))]:=S;refine XW fun K1 W=>rg S fun V=>sB g Y Z Z <| fun w2 j U hN=>ZY U Y Z <| fun w3 M J hN=>Yb fun N s=>W _ _ <| XW fun K5 Q=>?_
 have I:Fr 19 N [(2,.pointer (some ⟨Bc,0,none⟩)),(1,.agg #[.int .i64 z.op,.int .i64 z.a,.int .i64 z.b,.int .i64 z.c,.int .i64 z.k,.int .i64 z.n,.slice d.pR z.regs.length d.cR,.slice d.pA z.args.length d.cA]),(0,.int .i64 (q:Int)),(4,.pointer (some ⟨j,0,none⟩)),(5,.pointer (some ⟨M,0,none⟩))]:=(s.keep (s.keep (s.keep (s.keep (s.keep s.nil (t:=5) Z) (t:=4) Z) (t:=0) Z) (t:=1) Z) (t:=2) Z);have P:N.tmps.getD 2 undef=.pointer (some ⟨Bc,0,none⟩):=s.sl 2 _ Z;have X:N.tmps.getD 4 undef=.pointer (some ⟨j,0,none⟩):=s.sl 4 _ Z;have O:N.tmps.getD 0 undef=.int .i64 (q:Int):=s.sl 0 _ Z;refine ZN 13 ([(2,fun v _=>v=.pointer (some ⟨Bc,0,none⟩)),(4,fun v _=>v=.pointer (some ⟨j,0,none⟩)),(0,fun v _=>v=.int .i64 (q:Int)),(6,fun v _=>v=.pointer (some ⟨Bc,0,none⟩)),(7,fun v _=>v=.pointer (some ⟨Bc,0,none⟩)),(8,fun v _=>v=.agg #[.slice p m.length c]),(9,fun v _=>v=.agg #[.int .i64 z.op,.int .i64 z.a,.int .i64 z.b,.int .i64 z.c,.int .i64 z.k,.int .i64 z.n,.slice d.pR z.regs.length d.cR,.slice d.pA z.args.length d.cA]),(10,fun v _=>v=.int .i64 (z.form m.length)),(11,fun v _=>v=.pointer (some ⟨Bc,0,none⟩)),(12,fun v _=>v=.pointer (some ⟨Bc,5,none⟩)),(13,fun v _=>v=.int .i64 (fi:Int)),(14,fun v _=>v=.pointer (some ⟨Bc,18,none⟩)),(15,fun v _=>v=.int .i64 (bi:Int)),(16,fun v _=>v=.int .i64 (q:Int)),(17,fun v _=>v=.int .i64 (10000*(fi:Int)+100*(bi:Int)+(q:Int))),(18,fun v _=>v=.agg #[.int .i64 ((atF (z.form m.length) (10000*(fi:Int)+100*(bi:Int)+(q:Int))).1),.int .i64 ((atF (z.form m.length) (10000*(fi:Int)+100*(bi:Int)+(q:Int))).2)])]:Qb9) (fun L=>Wd w L [(M,#[.int .i64 0,.int .i64 0],30),(j,#[.int .i64 z.op,.int .i64 z.a,.int .i64 z.b,.int .i64 z.c,.int .i64 z.k,.int .i64 z.n,.slice d.pR z.regs.length d.cR,.slice d.pA z.args.length d.cA],46)]/\Below w3.heap.size w3 L) (fun w L=>Below w.heap.size w L) (outs:=[2,4,0]) (gs:=[]) (bs:=[true,true,true,true,true,true,true,true,true,true,true,true,true]) (by kernel_rfl) I Z (by kernel_rfl) (by kernel_rfl) ?hR ?hG ⟨J.drewN 1,QQ (m:=1) Zr⟩ ⟨P,X,O,Y⟩ ?hA ?hend
 case hR =>
  iterate 16 refine⟨fun _ _ _ _ h=>h,?_⟩
  trivial
 case hG=>exact Y
 case hA =>
  iterate 4
   refine⟨fun a w g u K B=>?_,?_⟩
   ·obtain⟨A,-⟩:=u
    conv at A=>whnf;rhs;whnf
    have u0:w.cell? ⟨Bc,0,none⟩=some (.slice p m.length c):=Qk g.1.bel (Qb o.out 0 _ Z);have u1:w.cell? ⟨j,0,none⟩=some (.int .i64 z.op):=Qb (g.1.get 1 Z) 0 _ Z;have u2:w.cell? ⟨j,1,none⟩=some (.int .i64 z.a):=Qb (g.1.get 1 Z) 1 _ Z;have u3:w.cell? ⟨j,2,none⟩=some (.int .i64 z.b):=Qb (g.1.get 1 Z) 2 _ Z;have u4:w.cell? ⟨j,3,none⟩=some (.int .i64 z.c):=Qb (g.1.get 1 Z) 3 _ Z;have u5:w.cell? ⟨j,4,none⟩=some (.int .i64 z.k):=Qb (g.1.get 1 Z) 4 _ Z;have u6:w.cell? ⟨j,5,none⟩=some (.int .i64 z.n):=Qb (g.1.get 1 Z) 5 _ Z;have u7:w.cell? ⟨j,6,none⟩=some (.slice d.pR z.regs.length d.cR):=Qb (g.1.get 1 Z) 6 _ Z;have u8:w.cell? ⟨j,7,none⟩=some (.slice d.pA z.args.length d.cA):=Qb (g.1.get 1 Z) 7 _ Z;go_simp;exact B _ _ Zr g Z
  refine⟨fun a w g u K B=>?_,?_⟩
  ·obtain⟨A,D,-⟩:=u
   conv at A=>whnf;rhs;whnf
   conv at D=>whnf;rhs;whnf
   have H:Rd prog 32 #[.agg #[.slice p m.length c],.agg #[.int .i64 z.op,.int .i64 z.a,.int .i64 z.b,.int .i64 z.c,.int .i64 z.k,.int .i64 z.n,.slice d.pR z.regs.length d.cR,.slice d.pA z.args.length d.cA]] w (.int .i64 (z.form m.length)):=Qgx m.length z d p c w (by omega);go_simp;refine H.mono ?_;rintro e w9 ⟨rfl,l⟩;exact B _ _ l ⟨g.1.below l,Xl g.2 l⟩ Z
  iterate 6
   refine⟨fun a w g u K B=>?_,?_⟩
   ·obtain⟨A,-⟩:=u
    conv at A=>whnf;rhs;whnf
    have u0:w.cell? ⟨Bc,5,none⟩=some (.int .i64 (fi:Int)):=Qk g.1.bel (Qb o.out 5 _ Z);have u1:w.cell? ⟨Bc,18,none⟩=some (.int .i64 (bi:Int)):=Qk g.1.bel (Qb o.out 18 _ Z);go_simp;exact B _ _ Zr g Z
  refine⟨fun a w g u K B=>?_,?_⟩
  ·obtain⟨A,D,k2,-⟩:=u
   conv at A=>whnf;rhs;whnf
   conv at D=>whnf;rhs;whnf
   conv at k2=>whnf;rhs;whnf
   have H:Rd prog 77 #[.int .i64 (fi:Int),.int .i64 (bi:Int),.int .i64 (q:Int)] w (.int .i64 (10000*(fi:Int)+100*(bi:Int)+(q:Int))):=QdW (f:=fi) (b:=bi) (i:=q) ⟨by omega,by omega,by omega⟩;go_simp;refine H.mono ?_;rintro e w9 ⟨rfl,l⟩;exact B _ _ l ⟨g.1.below l,Xl g.2 l⟩ Z
  refine⟨fun a w g u K B=>?_,?_⟩
  ·obtain⟨A,D,-⟩:=u
   conv at A=>whnf;rhs;whnf
   conv at D=>whnf;rhs;whnf
   have H:Rd prog 96 #[.int .i64 (z.form m.length),.int .i64 (10000*(fi:Int)+100*(bi:Int)+(q:Int))] w (.agg #[.int .i64 ((atF (z.form m.length) (10000*(fi:Int)+100*(bi:Int)+(q:Int))).1),.int .i64 ((atF (z.form m.length) (10000*(fi:Int)+100*(bi:Int)+(q:Int))).2)]):=QaZ (xc:=z.form m.length) (xp:=10000*(fi:Int)+100*(bi:Int)+(q:Int));go_simp;refine H.mono ?_;rintro e w9 ⟨rfl,l⟩;exact B _ _ l ⟨g.1.below l,Xl g.2 l⟩ Z
  trivial
 case hend =>
  intro V a7 w7 F hE G;have C:a7.tmps.getD 18 undef=.agg #[.int .i64 ((atF (z.form m.length) (10000*(fi:Int)+100*(bi:Int)+(q:Int))).1),.int .i64 ((atF (z.form m.length) (10000*(fi:Int)+100*(bi:Int)+(q:Int))).2)]:=hE 18 Z;have T:Fr 19 a7 [(18,.agg #[.int .i64 ((atF (z.form m.length) (10000*(fi:Int)+100*(bi:Int)+(q:Int))).1),.int .i64 ((atF (z.form m.length) (10000*(fi:Int)+100*(bi:Int)+(q:Int))).2)]),(2,.pointer (some ⟨Bc,0,none⟩)),(1,.agg #[.int .i64 z.op,.int .i64 z.a,.int .i64 z.b,.int .i64 z.c,.int .i64 z.k,.int .i64 z.n,.slice d.pR z.regs.length d.cR,.slice d.pA z.args.length d.cA]),(0,.int .i64 (q:Int)),(4,.pointer (some ⟨j,0,none⟩)),(5,.pointer (some ⟨M,0,none⟩))]:=(G.cons C);clear C;have R:Wd w w7 [(M,#[.int .i64 0,.int .i64 0],30),(j,#[.int .i64 z.op,.int .i64 z.a,.int .i64 z.b,.int .i64 z.c,.int .i64 z.k,.int .i64 z.n,.slice d.pR z.regs.length d.cR,.slice d.pA z.args.length d.cA],46)]:=F.1;clear G F hE I s;clear J;refine St.go T <| sT 0 R Z Z infFault Z Z Z <| fun w8 E=>Yb fun a9 h9=>Q _ _ ?_
  refine XA ?_;with_reducible repeat first | refine Qd ?_ | refine Qc ?_
  exact QW 0 h9 E Z Z Z underlying30 Z infFault ⟨Z,E.bel⟩
theorem Qda {m:List (Qf n)}{x:Qf n}{fp:FP}{y:Qe n}{bp:BP}{bi:Nat}(ad:FIn w All x fp) (ar:x.small) (aq:BIn w All y bp) (V:y.small) (hm:m.length<=100000) (a3:fi<1000000) (ay:bi<1000000) :
 Rd prog 100 #[.agg #[.slice p m.length c,.int .i64 x.regs,.slice fp.pP x.params.length fp.cP,.slice fp.pR x.results.length fp.cR,.slice fp.pB x.blocks.length fp.cB,.int .i64 (fi:Int),.int .i64 y.regs,.slice bp.pP y.params.length bp.cP,.slice bp.pC y.code.length bp.cC,.int .i64 y.fin.op,.int .i64 y.fin.a,.int .i64 y.fin.yes.block,.slice bp.e.pYR y.fin.yes.regs.length bp.e.cYR,.slice bp.e.pYA y.fin.yes.args.length bp.e.cYA,.int .i64 y.fin.no.block,.slice bp.e.pNR y.fin.no.regs.length bp.e.cNR,.slice bp.e.pNA y.fin.no.args.length bp.e.cNA,.slice bp.e.pA y.fin.args.length bp.e.cA,.int .i64 (bi:Int)]] w (QJ (Qe.fault m.length fi x bi y)):=by
 have hx:Hid _:=ad;have hs:Hid _:=ar;have hy:Hid _:=aq;have ht:Hid _:=V;clear ad ar aq V;refine Qv (n:=40) func100 Z Z Z <| fun a hF=>?_
 have g:=Ye w;replace hF:Fr 40 a [(0,.agg #[.slice p m.length c,.int .i64 x.regs,.slice fp.pP x.params.length fp.cP,.slice fp.pR x.results.length fp.cR,.slice fp.pB x.blocks.length fp.cB,.int .i64 (fi:Int),.int .i64 y.regs,.slice bp.pP y.params.length bp.cP,.slice bp.pC y.code.length bp.cC,.int .i64 y.fin.op,.int .i64 y.fin.a,.int .i64 y.fin.yes.block,.slice bp.e.pYR y.fin.yes.regs.length bp.e.cYR,.slice bp.e.pYA y.fin.yes.args.length bp.e.cYA,.int .i64 y.fin.no.block,.slice bp.e.pNR y.fin.no.regs.length bp.e.cNR,.slice bp.e.pNA y.fin.no.args.length bp.e.cNA,.slice bp.e.pA y.fin.args.length bp.e.cA,.int .i64 (bi:Int)])]:=hF;refine XW fun K1 bb=>rg hF fun s=>sB g Y Z Z <| fun w2 d a1 hN=>ZY a1 Y Z <| fun w3 B3 E hN=>Yb fun a4 h4=>bb _ _ <| XW fun K5 a7=>XW fun K6 a0=>rg h4 fun s=>sS 1 19 underlying131 Z infblockLook E Y Z Z Z Z <| QjO cf132 E (Qet (m:=m) (p:=p) (c:=c) (fi:=fi) (bi:=bi) (hx.out.below E.bel) hs.out (hy.out.below E.bel) ht.out) Y Z Z <| fun w7 q=>sa Y Z Z <| Yb fun a8 h8=>a0 _ _ <| XW fun K9 a5=>rg h8 fun s=>sm Y Z Z <| sne Y Z Z Z <| Yb fun bj Q=>a5 _ _ <| Qt (t:=8) Q Z (fun k=>?_) (fun k=>?_)
 ·have u:¬ (y.code' x bi)=0:=bne_iff_ne.1 k
  have ao:¬ (y.code' x bi)=0:=u;clear u;clear k;refine XW fun bt ag=>rg Q fun s=>sm Y Z Z <| sfblockLook0 Y Z Z <| sffuncLook2 Y Z Z <| Q7 1 q Y Z Z Z Z <| sfblockLook2 Y Z Z <| Q7 1 q Y Z Z Z Z <| QdF cf133 q (QeL (f:=fi) (b:=bi) ⟨by omega,by omega⟩) Y Z Z Z <| fun bz ai=>QdF cf96 ai (QaZ (xc:=y.code' x bi) (xp:=10000*(fi:Int)+100*(bi:Int)+90)) Y Z Z Z <| fun bh aj=>sT 0 aj Z Z infFault Z Z Z <| fun bm M=>Yb fun bk ba=>ag _ _ ?_
  refine XA ?_;with_reducible repeat first | refine Qd ?_ | refine Qc ?_
  have R:=ao;have O:=Qe.fault_eq m.length fi x bi y;have F:=QbP (f:=fun i z=>(QC.form m.length z,(10000*(fi:Int)+100*(bi:Int)+(i:Int)))) (l:=y.code) (j:=0);dsimp only at F
  rw[Xr R] at O
  exact QW 0 ba M Z Z Z underlying30 Z infFault ⟨by show Ending.returned (.agg #[.int .i64 ((atF (y.code' x bi) (10000*(fi:Int)+100*(bi:Int)+90)).1),.int .i64 ((atF (y.code' x bi) (10000*(fi:Int)+100*(bi:Int)+90)).2)])=_;rw[O] ;simp[atF,R],M.bel⟩
 have u:(y.code' x bi)=0:=XH.1 k;have G:Hid ((y.code' x bi)=0):=u;clear u;clear k;refine XB <| a7 _ _ <| XW fun b0 af=>rg Q fun s=>sfblockLook1 Y Z Z <| sfBlock2 Y Z Z <| Qc4 1 q Y Z Z Z Z <| fun a6 P=>Zh (t:=20) (v:=.func (.func 135) #[] #[.pointer (some ⟨d,0,none⟩)]) (w':=w7) P Z Z Z (fun K A=>?_) ?_
 ·have B:a6.tmps.getD 1 undef=.pointer (some ⟨d,0,none⟩):=P.sl 1 _ Z
  go_simp;exact A
 clear P;intro a2 I;refine St.go I ?_;clear I a2;refine QdF cf134 q (QiI (Bc:=d) (fun i z=>atF (QC.form m.length z) (10000*(fi:Int)+100*(bi:Int)+(i:Int))) (Ya hy.out.code q.bel) ht.out.1 (fun i z zi wx hz hi k=>QhI (y:=y) (by have u:=(Zi hz).1;have:=ht.out.1;omega) hm a3 ay ((q.get 1 Z).below k))) Y Z Z Z ?_;clear q;intro br au;refine ZY au Y Z <| fun bo C al hN=>sT 0 al Z Z infFault Z Z Z <| fun aa r=>Yb fun b1 a9=>af _ _ <| XW fun be ab=>XW fun bf ac=>rg a9 fun s=>sfFault0 Y Z Z <| Q7 0 r Y Z Z Z Z <| sne Y Z Z Z <| Yb fun ah o=>ac _ _ <| Qt (t:=24) o Z (fun k=>?_) (fun k=>?_)
 ·have u:¬ ((firstF (fun i z=>atF (QC.form m.length z) (10000*(fi:Int)+100*(bi:Int)+(i:Int))) 0 y.code).1)=0:=bne_iff_ne.1 k
  have an:¬ ((firstF (fun i z=>atF (QC.form m.length z) (10000*(fi:Int)+100*(bi:Int)+(i:Int))) 0 y.code).1)=0:=u;clear u;clear k;refine XW fun bv am=>rg o fun s=>sS 0 2 underlying30 Z infFault r Y Z Z Z Z <| sT 1 r Z Z infFault Z Z Z <| fun bu N=>Yb fun bq ax=>am _ _ ?_
  refine XA ?_;with_reducible repeat first | refine Qd ?_ | refine Qc ?_
  have R:=G.out;have e1:=an;have O:=Qe.fault_eq m.length fi x bi y;have F:=QbP (f:=fun i z=>(QC.form m.length z,(10000*(fi:Int)+100*(bi:Int)+(i:Int)))) (l:=y.code) (j:=0);dsimp only at F
  rw[Xs R,Xr (by rw[<-F];exact e1),<-F] at O
  exact QW 1 ax N Z Z Z underlying30 Z infFault ⟨by show Ending.returned (.agg #[.int .i64 ((firstF (fun i z=>atF (QC.form m.length z) (10000*(fi:Int)+100*(bi:Int)+(i:Int))) 0 y.code).1),.int .i64 ((firstF (fun i z=>atF (QC.form m.length z) (10000*(fi:Int)+100*(bi:Int)+(i:Int))) 0 y.code).2)])=_;rw[O],N.bel⟩
 have u:((firstF (fun i z=>atF (QC.form m.length z) (10000*(fi:Int)+100*(bi:Int)+(i:Int))) 0 y.code).1)=0:=XH.1 k;have ae:Hid (((firstF (fun i z=>atF (QC.form m.length z) (10000*(fi:Int)+100*(bi:Int)+(i:Int))) 0 y.code).1)=0):=u;clear u;clear k;refine XB <| ab _ _ <| XW fun bn ak=>?_
 have H:Fr 40 ah [(0,.agg #[.slice p m.length c,.int .i64 x.regs,.slice fp.pP x.params.length fp.cP,.slice fp.pR x.results.length fp.cR,.slice fp.pB x.blocks.length fp.cB,.int .i64 (fi:Int),.int .i64 y.regs,.slice bp.pP y.params.length bp.cP,.slice bp.pC y.code.length bp.cC,.int .i64 y.fin.op,.int .i64 y.fin.a,.int .i64 y.fin.yes.block,.slice bp.e.pYR y.fin.yes.regs.length bp.e.cYR,.slice bp.e.pYA y.fin.yes.args.length bp.e.cYA,.int .i64 y.fin.no.block,.slice bp.e.pNR y.fin.no.regs.length bp.e.cNR,.slice bp.e.pNA y.fin.no.args.length bp.e.cNA,.slice bp.e.pA y.fin.args.length bp.e.cA,.int .i64 (bi:Int)]),(1,.pointer (some ⟨d,0,none⟩)),(2,.pointer (some ⟨B3,0,none⟩)),(3,.int .i64 (y.code' x bi)),(4,.pointer (some ⟨C,0,none⟩))]:=(o.keep (o.keep (o.keep (o.keep (o.keep o.nil (t:=4) Z) (t:=3) Z) (t:=2) Z) (t:=1) Z) (t:=0) Z);have av:ah.tmps.getD 1 undef=.pointer (some ⟨d,0,none⟩):=o.sl 1 _ Z;refine ZN 14 ([(1,fun v _=>v=.pointer (some ⟨d,0,none⟩)),(26,fun v _=>v=.pointer (some ⟨d,0,none⟩)),(27,fun v _=>v=.pointer (some ⟨d,1,none⟩)),(28,fun v _=>v=.agg #[.int .i64 x.regs,.slice fp.pP x.params.length fp.cP,.slice fp.pR x.results.length fp.cR,.slice fp.pB x.blocks.length fp.cB]),(29,fun v _=>v=.pointer (some ⟨d,6,none⟩)),(30,fun v _=>v=.pointer (some ⟨d,9,none⟩)),(31,fun v _=>v=.agg #[.int .i64 y.fin.op,.int .i64 y.fin.a,.int .i64 y.fin.yes.block,.slice bp.e.pYR y.fin.yes.regs.length bp.e.cYR,.slice bp.e.pYA y.fin.yes.args.length bp.e.cYA,.int .i64 y.fin.no.block,.slice bp.e.pNR y.fin.no.regs.length bp.e.cNR,.slice bp.e.pNA y.fin.no.args.length bp.e.cNA,.slice bp.e.pA y.fin.args.length bp.e.cA]),(32,fun v _=>v=.int .i64 (y.fin.form x.blocks.length)),(33,fun v _=>v=.pointer (some ⟨d,0,none⟩)),(34,fun v _=>v=.pointer (some ⟨d,5,none⟩)),(35,fun v _=>v=.int .i64 (fi:Int)),(36,fun v _=>v=.pointer (some ⟨d,18,none⟩)),(37,fun v _=>v=.int .i64 (bi:Int)),(38,fun v _=>v=.int .i64 (10000*(fi:Int)+100*(bi:Int)+91)),(39,fun v _=>v=.agg #[.int .i64 ((atF (y.fin.form x.blocks.length) (10000*(fi:Int)+100*(bi:Int)+91)).1),.int .i64 ((atF (y.fin.form x.blocks.length) (10000*(fi:Int)+100*(bi:Int)+91)).2)])]:Qb9) (fun w'=>Wd w w' [(C,#[.int .i64 ((firstF (fun i z=>atF (QC.form m.length z) (10000*(fi:Int)+100*(bi:Int)+(i:Int))) 0 y.code).1),.int .i64 ((firstF (fun i z=>atF (QC.form m.length z) (10000*(fi:Int)+100*(bi:Int)+(i:Int))) 0 y.code).2)],30),(B3,#[.int .i64 0,.int .i64 0],30),(d,#[.slice p m.length c,.int .i64 x.regs,.slice fp.pP x.params.length fp.cP,.slice fp.pR x.results.length fp.cR,.slice fp.pB x.blocks.length fp.cB,.int .i64 (fi:Int),.int .i64 y.regs,.slice bp.pP y.params.length bp.cP,.slice bp.pC y.code.length bp.cC,.int .i64 y.fin.op,.int .i64 y.fin.a,.int .i64 y.fin.yes.block,.slice bp.e.pYR y.fin.yes.regs.length bp.e.cYR,.slice bp.e.pYA y.fin.yes.args.length bp.e.cYA,.int .i64 y.fin.no.block,.slice bp.e.pNR y.fin.no.regs.length bp.e.cNR,.slice bp.e.pNA y.fin.no.args.length bp.e.cNA,.slice bp.e.pA y.fin.args.length bp.e.cA,.int .i64 (bi:Int)],131)]/\Below aa.heap.size aa w') (fun w w'=>Below w.heap.size w w') (outs:=[1]) (gs:=[]) (bs:=[true,true,true,true,true,true,true,true,true,true,true,true,true,true]) (by kernel_rfl) H Z (by kernel_rfl) (by kernel_rfl) ?hR ?hG ⟨r.drewN 1,QQ (m:=1) Zr⟩ ⟨av,Y⟩ ?hA ?hend
 case hR =>
  iterate 15 refine⟨fun _ _ _ _ h=>h,?_⟩
  trivial
 case hG=>exact Y
 case hA =>
  iterate 6
   refine⟨fun a w g D K A=>?_,?_⟩
   ·obtain⟨B,-⟩:=D
    conv at B=>whnf;rhs;whnf
    have u0:w.cell? ⟨d,1,none⟩=some (.int .i64 x.regs):=Qb (g.1.get 2 Z) 1 _ Z;have u1:w.cell? ⟨d,2,none⟩=some (.slice fp.pP x.params.length fp.cP):=Qb (g.1.get 2 Z) 2 _ Z;have u2:w.cell? ⟨d,3,none⟩=some (.slice fp.pR x.results.length fp.cR):=Qb (g.1.get 2 Z) 3 _ Z;have u3:w.cell? ⟨d,4,none⟩=some (.slice fp.pB x.blocks.length fp.cB):=Qb (g.1.get 2 Z) 4 _ Z;have u4:w.cell? ⟨d,9,none⟩=some (.int .i64 y.fin.op):=Qb (g.1.get 2 Z) 9 _ Z;have u5:w.cell? ⟨d,10,none⟩=some (.int .i64 y.fin.a):=Qb (g.1.get 2 Z) 10 _ Z;have u6:w.cell? ⟨d,11,none⟩=some (.int .i64 y.fin.yes.block):=Qb (g.1.get 2 Z) 11 _ Z;have u7:w.cell? ⟨d,12,none⟩=some (.slice bp.e.pYR y.fin.yes.regs.length bp.e.cYR):=Qb (g.1.get 2 Z) 12 _ Z;have u8:w.cell? ⟨d,13,none⟩=some (.slice bp.e.pYA y.fin.yes.args.length bp.e.cYA):=Qb (g.1.get 2 Z) 13 _ Z;have u9:w.cell? ⟨d,14,none⟩=some (.int .i64 y.fin.no.block):=Qb (g.1.get 2 Z) 14 _ Z;have bw:w.cell? ⟨d,15,none⟩=some (.slice bp.e.pNR y.fin.no.regs.length bp.e.cNR):=Qb (g.1.get 2 Z) 15 _ Z;have bg:w.cell? ⟨d,16,none⟩=some (.slice bp.e.pNA y.fin.no.args.length bp.e.cNA):=Qb (g.1.get 2 Z) 16 _ Z;have bc:w.cell? ⟨d,17,none⟩=some (.slice bp.e.pA y.fin.args.length bp.e.cA):=Qb (g.1.get 2 Z) 17 _ Z;go_simp;exact A _ _ Zr g Z
  refine⟨fun a w g D K A=>?_,?_⟩
  ·obtain⟨B,S,-⟩:=D
   conv at B=>whnf;rhs;whnf
   conv at S=>whnf;rhs;whnf
   have hC:Rd prog 51 #[.agg #[.int .i64 x.regs,.slice fp.pP x.params.length fp.cP,.slice fp.pR x.results.length fp.cR,.slice fp.pB x.blocks.length fp.cB],.agg #[.int .i64 y.fin.op,.int .i64 y.fin.a,.int .i64 y.fin.yes.block,.slice bp.e.pYR y.fin.yes.regs.length bp.e.cYR,.slice bp.e.pYA y.fin.yes.args.length bp.e.cYA,.int .i64 y.fin.no.block,.slice bp.e.pNR y.fin.no.regs.length bp.e.cNR,.slice bp.e.pNA y.fin.no.args.length bp.e.cNA,.slice bp.e.pA y.fin.args.length bp.e.cA]] w (.int .i64 (y.fin.form x.blocks.length)):=Qgq (x:=y.fin) (e:=bp.e) (fr:=x.regs) (fp:=fp.pP) (fl:=x.params.length) (fc:=fp.cP) (fq:=fp.pR) (fm:=x.results.length) (fd:=fp.cR) (fb:=fp.pB) (bl:=x.blocks.length) (fe:=fp.cB) (by have:=ht.out.2.2.1;exact⟨by have:=this.1.1;omega,by have:=this.1.2;omega,by have:=this.2.1.1;omega,by have:=this.2.1.2;omega⟩) (by have:=hs.out.1;omega);go_simp;refine hC.mono ?_;rintro e w9 ⟨rfl,k⟩;exact A _ _ k ⟨g.1.below k,Xl g.2 k⟩ Z
  iterate 5
   refine⟨fun a w g D K A=>?_,?_⟩
   ·obtain⟨B,-⟩:=D
    conv at B=>whnf;rhs;whnf
    have u0:w.cell? ⟨d,5,none⟩=some (.int .i64 (fi:Int)):=Qb (g.1.get 2 Z) 5 _ Z;have u1:w.cell? ⟨d,18,none⟩=some (.int .i64 (bi:Int)):=Qb (g.1.get 2 Z) 18 _ Z;go_simp;exact A _ _ Zr g Z
  refine⟨fun a w g D K A=>?_,?_⟩
  ·obtain⟨B,S,-⟩:=D
   conv at B=>whnf;rhs;whnf
   conv at S=>whnf;rhs;whnf
   have hC:Rd prog 78 #[.int .i64 (fi:Int),.int .i64 (bi:Int)] w (.int .i64 (10000*(fi:Int)+100*(bi:Int)+91)):=QdX (f:=fi) (b:=bi) ⟨by omega,by omega⟩;go_simp;refine hC.mono ?_;rintro e w9 ⟨rfl,k⟩;exact A _ _ k ⟨g.1.below k,Xl g.2 k⟩ Z
  refine⟨fun a w g D K A=>?_,?_⟩
  ·obtain⟨B,S,-⟩:=D
   conv at B=>whnf;rhs;whnf
   conv at S=>whnf;rhs;whnf
   have hC:Rd prog 96 #[.int .i64 (y.fin.form x.blocks.length),.int .i64 (10000*(fi:Int)+100*(bi:Int)+91)] w (.agg #[.int .i64 ((atF (y.fin.form x.blocks.length) (10000*(fi:Int)+100*(bi:Int)+91)).1),.int .i64 ((atF (y.fin.form x.blocks.length) (10000*(fi:Int)+100*(bi:Int)+91)).2)]):=QaZ (xc:=y.fin.form x.blocks.length) (xp:=10000*(fi:Int)+100*(bi:Int)+91);go_simp;refine hC.mono ?_;rintro e w9 ⟨rfl,k⟩;exact A _ _ k ⟨g.1.below k,Xl g.2 k⟩ Z
  trivial
 case hend =>
  intro s X az U hE T;have L:X.tmps.getD 39 undef=.agg #[.int .i64 ((atF (y.fin.form x.blocks.length) (10000*(fi:Int)+100*(bi:Int)+91)).1),.int .i64 ((atF (y.fin.form x.blocks.length) (10000*(fi:Int)+100*(bi:Int)+91)).2)]:=hE 39 Z;have W:Fr 40 X [(39,.agg #[.int .i64 ((atF (y.fin.form x.blocks.length) (10000*(fi:Int)+100*(bi:Int)+91)).1),.int .i64 ((atF (y.fin.form x.blocks.length) (10000*(fi:Int)+100*(bi:Int)+91)).2)]),(0,.agg #[.slice p m.length c,.int .i64 x.regs,.slice fp.pP x.params.length fp.cP,.slice fp.pR x.results.length fp.cR,.slice fp.pB x.blocks.length fp.cB,.int .i64 (fi:Int),.int .i64 y.regs,.slice bp.pP y.params.length bp.cP,.slice bp.pC y.code.length bp.cC,.int .i64 y.fin.op,.int .i64 y.fin.a,.int .i64 y.fin.yes.block,.slice bp.e.pYR y.fin.yes.regs.length bp.e.cYR,.slice bp.e.pYA y.fin.yes.args.length bp.e.cYA,.int .i64 y.fin.no.block,.slice bp.e.pNR y.fin.no.regs.length bp.e.cNR,.slice bp.e.pNA y.fin.no.args.length bp.e.cNA,.slice bp.e.pA y.fin.args.length bp.e.cA,.int .i64 (bi:Int)]),(1,.pointer (some ⟨d,0,none⟩)),(2,.pointer (some ⟨B3,0,none⟩)),(3,.int .i64 (y.code' x bi)),(4,.pointer (some ⟨C,0,none⟩))]:=(T.cons L);clear L;have ap:Wd w az [(C,#[.int .i64 ((firstF (fun i z=>atF (QC.form m.length z) (10000*(fi:Int)+100*(bi:Int)+(i:Int))) 0 y.code).1),.int .i64 ((firstF (fun i z=>atF (QC.form m.length z) (10000*(fi:Int)+100*(bi:Int)+(i:Int))) 0 y.code).2)],30),(B3,#[.int .i64 0,.int .i64 0],30),(d,#[.slice p m.length c,.int .i64 x.regs,.slice fp.pP x.params.length fp.cP,.slice fp.pR x.results.length fp.cR,.slice fp.pB x.blocks.length fp.cB,.int .i64 (fi:Int),.int .i64 y.regs,.slice bp.pP y.params.length bp.cP,.slice bp.pC y.code.length bp.cC,.int .i64 y.fin.op,.int .i64 y.fin.a,.int .i64 y.fin.yes.block,.slice bp.e.pYR y.fin.yes.regs.length bp.e.cYR,.slice bp.e.pYA y.fin.yes.args.length bp.e.cYA,.int .i64 y.fin.no.block,.slice bp.e.pNR y.fin.no.regs.length bp.e.cNR,.slice bp.e.pNA y.fin.no.args.length bp.e.cNA,.slice bp.e.pA y.fin.args.length bp.e.cA,.int .i64 (bi:Int)],131)]:=U.1;clear T U hE H o;clear r;refine St.go W <| sT 1 ap Z Z infFault Z Z Z <| fun bx J=>Yb fun bd aw=>ak _ _ ?_
  refine XA ?_;with_reducible repeat first | refine Qd ?_ | refine Qc ?_
  have R:=G.out;have e1:=ae.out;have O:=Qe.fault_eq m.length fi x bi y;have F:=QbP (f:=fun i z=>(QC.form m.length z,(10000*(fi:Int)+100*(bi:Int)+(i:Int)))) (l:=y.code) (j:=0);dsimp only at F
  rw[Xs R,Xs (by rw[<-F];exact e1)] at O
  exact QW 1 aw J Z Z Z underlying30 Z infFault ⟨by show Ending.returned (.agg #[.int .i64 ((atF (y.fin.form x.blocks.length) (10000*(fi:Int)+100*(bi:Int)+91)).1),.int .i64 ((atF (y.fin.form x.blocks.length) (10000*(fi:Int)+100*(bi:Int)+91)).2)])=_;rw[O],J.bel⟩
theorem Qhz {m:List (Qf n)}{x:Qf n}{fp:FP}{y:Qe n}{bp:BP}{bi:Nat}(k:FIn w All x fp) (h:x.small) (g:BIn w All y bp) (i:y.small){Bc:Nat}(L:m.length<=100000) (z:fi<1000000) (r:bi<1000000) (d:Blk w Bc #[.slice p m.length c,.int .i64 x.regs,.slice fp.pP x.params.length fp.cP,.slice fp.pR x.results.length fp.cR,.slice fp.pB x.blocks.length fp.cB,.int .i64 (fi:Int)] 93) :
 Rd prog 99 #[.int .i64 (bi:Int),.agg #[.int .i64 y.regs,.slice bp.pP y.params.length bp.cP,.slice bp.pC y.code.length bp.cC,.int .i64 y.fin.op,.int .i64 y.fin.a,.int .i64 y.fin.yes.block,.slice bp.e.pYR y.fin.yes.regs.length bp.e.cYR,.slice bp.e.pYA y.fin.yes.args.length bp.e.cYA,.int .i64 y.fin.no.block,.slice bp.e.pNR y.fin.no.regs.length bp.e.cNR,.slice bp.e.pNA y.fin.no.args.length bp.e.cNA,.slice bp.e.pA y.fin.args.length bp.e.cA],.pointer (some ⟨Bc,0,none⟩)] w (QJ (Qe.fault m.length fi x bi y)):=by
 have F:Hid _:=k;have H:Hid _:=h;have G:Hid _:=g;have Q:Hid _:=i;clear k h g i;have j:Hid _:=d;clear d;refine Qv (n:=11) func99 Z Z Z <| fun a s=>?_
 have P:=Ye w;replace s:Fr 11 a [(0,.int .i64 (bi:Int)),(1,.agg #[.int .i64 y.regs,.slice bp.pP y.params.length bp.cP,.slice bp.pC y.code.length bp.cC,.int .i64 y.fin.op,.int .i64 y.fin.a,.int .i64 y.fin.yes.block,.slice bp.e.pYR y.fin.yes.regs.length bp.e.cYR,.slice bp.e.pYA y.fin.yes.args.length bp.e.cYA,.int .i64 y.fin.no.block,.slice bp.e.pNR y.fin.no.regs.length bp.e.cNR,.slice bp.e.pNA y.fin.no.args.length bp.e.cNA,.slice bp.e.pA y.fin.args.length bp.e.cA]),(2,.pointer (some ⟨Bc,0,none⟩))]:=s;refine XW fun K1 B=>rg s fun E=>sB P Y Z Z <| fun X B2 D I=>ZY D Y Z <| fun N V b I=>Yb fun a4 M=>B _ _ <| XW fun R q=>rg M fun E=>sSE underlying93 Z (QS (Qew j.out 0 6 Z) b.bel) inffuncLook Y Z Z <| sS 1 12 underlying60 Z infBlock b Y Z Z Z Z <| sm Y Z Z <| fun A l=>Zh (t:=9) (v:=.agg #[.slice p m.length c,.int .i64 x.regs,.slice fp.pP x.params.length fp.cP,.slice fp.pR x.results.length fp.cR,.slice fp.pB x.blocks.length fp.cB,.int .i64 (fi:Int),.int .i64 y.regs,.slice bp.pP y.params.length bp.cP,.slice bp.pC y.code.length bp.cC,.int .i64 y.fin.op,.int .i64 y.fin.a,.int .i64 y.fin.yes.block,.slice bp.e.pYR y.fin.yes.regs.length bp.e.cYR,.slice bp.e.pYA y.fin.yes.args.length bp.e.cYA,.int .i64 y.fin.no.block,.slice bp.e.pNR y.fin.no.regs.length bp.e.cNR,.slice bp.e.pNA y.fin.no.args.length bp.e.cNA,.slice bp.e.pA y.fin.args.length bp.e.cA,.int .i64 (bi:Int)]) (w':=N) l Z Z Z (fun K O=>?_) ?_
 ·have W:A.tmps[6]?.getD undef=.agg #[.slice p m.length c,.int .i64 x.regs,.slice fp.pP x.params.length fp.cP,.slice fp.pR x.results.length fp.cR,.slice fp.pB x.blocks.length fp.cB,.int .i64 (fi:Int)]:=l.sl2 6 _ Z
  have S:A.tmps[7]?.getD undef=.agg #[.int .i64 y.regs,.slice bp.pP y.params.length bp.cP,.slice bp.pC y.code.length bp.cC,.int .i64 y.fin.op,.int .i64 y.fin.a,.int .i64 y.fin.yes.block,.slice bp.e.pYR y.fin.yes.regs.length bp.e.cYR,.slice bp.e.pYA y.fin.yes.args.length bp.e.cYA,.int .i64 y.fin.no.block,.slice bp.e.pNR y.fin.no.regs.length bp.e.cNR,.slice bp.e.pNA y.fin.no.args.length bp.e.cNA,.slice bp.e.pA y.fin.args.length bp.e.cA]:=l.sl2 7 _ Z;have k2:A.tmps[8]?.getD undef=.int .i64 (bi:Int):=l.sl2 8 _ Z;go_simp;exact O
 clear l;intro T C;refine St.go C <| QjO cf100 b (Qda (m:=m) (p:=p) (c:=c) (x:=x) (fp:=fp) (fi:=fi) (y:=y) (bp:=bp) (bi:=bi) (F.out.below b.bel) H.out (G.out.below b.bel) Q.out L z r) Y Z Z <| fun w8 u=>sT 0 u Z Z infFault Z Z Z <| fun U f=>Yb fun J o=>q _ _ ?_
 refine XA ?_;with_reducible repeat first | refine Qd ?_ | refine Qc ?_
 exact QW 0 o f Z Z Z underlying30 Z infFault ⟨Z,f.bel⟩
theorem QdK {m:List (Qf n)}{x:Qf n}{fp:FP}(E:FIn w All x fp) (A:x.small) (hm:m.length<=100000) (O:fi<1000000) :
 Rd prog 57 #[.agg #[.slice p m.length c,.int .i64 x.regs,.slice fp.pP x.params.length fp.cP,.slice fp.pR x.results.length fp.cR,.slice fp.pB x.blocks.length fp.cB,.int .i64 (fi:Int)]] w (QJ (Qf.fault m.length fi x)):=by
 have I:Hid _:=E;have r:Hid _:=A;clear E A;refine Qv (n:=18) func57 Z Z Z <| fun a N=>?_
 have hW:=Ye w;replace N:Fr 18 a [(0,.agg #[.slice p m.length c,.int .i64 x.regs,.slice fp.pP x.params.length fp.cP,.slice fp.pR x.results.length fp.cR,.slice fp.pB x.blocks.length fp.cB,.int .i64 (fi:Int)])]:=N;refine XW fun K1 V=>rg N fun e=>sB hW Y Z Z <| fun w2 U T hN=>ZY T Y Z <| fun w3 B3 o hN=>Yb fun a4 h4=>V _ _ <| XW fun K5 J=>XW fun K6 P=>rg h4 fun e=>sS 1 6 underlying93 Z inffuncLook o Y Z Z Z Z <| QjO cf95 o (QeO (m:=m) (p:=p) (c:=c) (fi:=fi) (I.out.below o.bel) r.out) Y Z Z <| fun w7 d=>sa Y Z Z <| Yb fun a8 h8=>P _ _ <| XW fun K9 R=>rg h8 fun e=>sm Y Z Z <| sne Y Z Z Z <| Yb fun ab l=>R _ _ <| Qt (t:=7) l Z (fun j=>?_) (fun j=>?_)
 ·have q:¬ (x.code fi)=0:=bne_iff_ne.1 j
  have s:¬ (x.code fi)=0:=q;clear q;clear j;refine XW fun ai u=>rg l fun e=>sm Y Z Z <| sffuncLook2 Y Z Z <| Q7 1 d Y Z Z Z Z <| QjO cf97 d (QfH (f:=fi) (by omega)) Y Z Z <| fun af z=>QdF cf96 z (QaZ (xc:=x.code fi) (xp:=10000*(fi:Int)+9999)) Y Z Z Z <| fun X B=>sT 0 B Z Z infFault Z Z Z <| fun ad i=>Yb fun ac M=>u _ _ ?_
  refine XA ?_;with_reducible repeat first | refine Qd ?_ | refine Qc ?_
  have H:=s;have G:=Qf.fault_eq m.length fi x;rw[Xr H] at G
  exact QW 0 M i Z Z Z underlying30 Z infFault ⟨by show Ending.returned (.agg #[.int .i64 ((atF (x.code fi) (10000*(fi:Int)+9999)).1),.int .i64 ((atF (x.code fi) (10000*(fi:Int)+9999)).2)])=_;rw[G] ;simp[atF,H],i.bel⟩
 have q:(x.code fi)=0:=XH.1 j;have F:Hid ((x.code fi)=0):=q;clear q;clear j;refine XB <| J _ _ <| XW fun ah C=>rg l fun e=>sffuncLook1 Y Z Z <| sfFunc3 Y Z Z <| Qcf 1 d Y Z Z Z Z <| fun S k=>Zh (t:=16) (v:=.func (.func 99) #[] #[.pointer (some ⟨U,0,none⟩)]) (w':=w7) k Z Z Z (fun K hK=>?_) ?_
 ·have k0:S.tmps.getD 1 undef=.pointer (some ⟨U,0,none⟩):=k.sl 1 _ Z
  go_simp;exact hK
 clear k;intro L g;refine St.go g ?_;clear g L;refine QdF cf98 d (Qf5 (Bc:=U) (fun b y=>Qe.fault m.length fi x b y) (Ya I.out.blocks d.bel) (by have:=r.out.1;omega) (fun b y yi wx W hi j=>Qhz ((I.out.below d.bel).below j) r.out hi (r.out.2.2.2 _ (Zm W)) hm O (by have q:=(Zi W).1;have:=r.out.1;omega) ((d.get 1 Z).below j))) Y Z Z Z ?_;clear d;intro ae D;refine sT 0 D Z Z infFault Z Z Z <| fun ag h=>Yb fun aa Q=>C _ _ ?_
 refine XA ?_;with_reducible repeat first | refine Qd ?_ | refine Qc ?_
 have H:=F.out;have G:=Qf.fault_eq m.length fi x;rw[Xs H] at G
 exact QW 0 Q h Z Z Z underlying30 Z infFault ⟨by show Ending.returned (.agg #[.int .i64 ((firstF (fun b y=>Qe.fault m.length fi x b y) 0 x.blocks).1),.int .i64 ((firstF (fun b y=>Qe.fault m.length fi x b y) 0 x.blocks).2)])=_;rw[G],h.bel⟩
theorem Qh9 {m:List (Qf n)}{x:Qf n}{fp:FP}(h:FIn w All x fp) (f:x.small){Bc:Nat}(E:m.length<=100000) (q:fi<1000000) (b:Blk w Bc #[.slice p m.length c] 24) :
 Rd prog 56 #[.int .i64 (fi:Int),.agg #[.int .i64 x.regs,.slice fp.pP x.params.length fp.cP,.slice fp.pR x.results.length fp.cR,.slice fp.pB x.blocks.length fp.cB],.pointer (some ⟨Bc,0,none⟩)] w (QJ (Qf.fault m.length fi x)):=by
 have A:Hid _:=h;have B:Hid _:=f;clear h f;have g:Hid _:=b;clear b;refine Qv (n:=11) func56 Z Z Z <| fun a l=>?_
 have I:=Ye w;replace l:Fr 11 a [(0,.int .i64 (fi:Int)),(1,.agg #[.int .i64 x.regs,.slice fp.pP x.params.length fp.cP,.slice fp.pR x.results.length fp.cR,.slice fp.pB x.blocks.length fp.cB]),(2,.pointer (some ⟨Bc,0,none⟩))]:=l;refine XW fun R s=>rg l fun z=>sB I Y Z Z <| fun Q V y C=>ZY y Y Z <| fun G O d C=>Yb fun U F=>s _ _ <| XW fun J k=>rg F fun z=>sSE underlying24 Z (QS (Qew g.out 0 1 Z) d.bel) infModule Y Z Z <| sS 1 4 underlying40 Z infFunc d Y Z Z Z Z <| sm Y Z Z <| fun r i=>Zh (t:=9) (v:=.agg #[.slice p m.length c,.int .i64 x.regs,.slice fp.pP x.params.length fp.cP,.slice fp.pR x.results.length fp.cR,.slice fp.pB x.blocks.length fp.cB,.int .i64 (fi:Int)]) (w':=G) i Z Z Z (fun K H=>?_) ?_
 ·have P:r.tmps[6]?.getD undef=.agg #[.slice p m.length c]:=i.sl2 6 _ Z
  have L:r.tmps[7]?.getD undef=.agg #[.int .i64 x.regs,.slice fp.pP x.params.length fp.cP,.slice fp.pR x.results.length fp.cR,.slice fp.pB x.blocks.length fp.cB]:=i.sl2 7 _ Z;have T:r.tmps[8]?.getD undef=.int .i64 (fi:Int):=i.sl2 8 _ Z;go_simp;exact H
 clear i;intro M u;refine St.go u <| QjO cf57 d (QdK (m:=m) (p:=p) (c:=c) (x:=x) (fp:=fp) (fi:=fi) (A.out.below d.bel) B.out E q) Y Z Z <| fun S o=>sT 0 o Z Z infFault Z Z Z <| fun N e=>Yb fun D j=>k _ _ ?_
 refine XA ?_;with_reducible repeat first | refine Qd ?_ | refine Qc ?_
 exact QW 0 j e Z Z Z underlying30 Z infFault ⟨Z,e.bel⟩
theorem Qcu {m:List (Qf n)}(F:(QaH n).In w All m [.slice p m.length c]) (A:Qa7 m) :
 Rd prog 26 #[.agg #[.slice p m.length c]] w (QJ (Qj m)):=by
 have L:Hid _:=F;have h:Hid _:=A;clear F A;refine Qv (n:=18) func26 Z Z Z <| fun a O=>?_
 have hW:=Ye w;replace O:Fr 18 a [(0,.agg #[.slice p m.length c])]:=O;refine XW fun K1 aa=>rg O fun g=>sB hW Y Z Z <| fun w2 W X hN=>ZY X Y Z <| fun S B3 b hN=>Yb fun a4 h4=>aa _ _ <| XW fun K5 M=>XW fun K6 E=>Q5 <| fun g i=>?_
 have d:(g[4]?).bind (fun o:Oper=>o.dst)=some 7:=i 4;clear i;refine St.go h4 <| sfModule0 Y Z Z <| Qbc 1 b Y Z Z Z Z <| QaG Y Z Z <| slt Y Z Z Z <| sm Y Z Z <| fun a7 J=>?_
 rcases Xa (decide ((m.length:Int)<1)) with e | e
 ·rw[e] at J
  have ag:m.length<1:=by have:=Xv e;omega
  clear e;refine St.go J <| so d Z Z Z Z <| so d Z Z Z Z <| so d Z Z Z Z <| so d Z Z Z Z <| sp Y Z Z Z <| Yb fun a9 P=>E _ _ <| Qab (t:=12) P Z <| XW fun aj B=>rg P fun g=>fun am H=>Zh (t:=13) (v:=.agg #[.int .i64 2,.int .i64 (-1)]) (w':=S) H Z Z Z (fun K G=>?_) ?_
  ·go_simp
   exact G
  clear H;intro av z;refine St.go z <| sT 0 b Z Z infFault Z Z Z <| fun ap j=>Yb fun af T=>B _ _ ?_
  refine XA ?_;with_reducible repeat first | refine Qd ?_ | refine Qc ?_
  have R:Qj m=(2,-1):=Xs (by omega);exact QW 0 T j Z Z Z underlying30 Z infFault ⟨by show Ending.returned (.agg #[.int .i64 2,.int .i64 (-1)])=_;rw[R],j.bel⟩
 rw[e] at J
 have ac:¬ (m.length<1):=by have:=Xw e;omega
 clear e;refine St.go J <| sfModule0 ⟨_,d,Z,Z⟩ Z Z <| Qbc 1 b ⟨_,d,Z,Z⟩ Z Z Z Z <| QaG ⟨_,d,Z,Z⟩ Z Z <| sgt ⟨_,d,Z,Z⟩ Z Z Z <| spf Y Z Z Z <| Yb fun an s=>E _ _ <| Qt (t:=12) s Z (fun e=>?_) (fun e=>?_)
 ·have ad:8<m.length:=by have:=Xv e;omega
  clear e;refine XW fun au C=>rg s fun g=>fun aq y=>Zh (t:=13) (v:=.agg #[.int .i64 2,.int .i64 (-1)]) (w':=S) y Z Z Z (fun K G=>?_) ?_
  ·go_simp
   exact G
  clear y;intro ak u;refine St.go u <| sT 0 b Z Z infFault Z Z Z <| fun ao q=>Yb fun al U=>C _ _ ?_
  refine XA ?_;with_reducible repeat first | refine Qd ?_ | refine Qc ?_
  have R:Qj m=(2,-1):=Xs (by omega);exact QW 0 U q Z Z Z underlying30 Z infFault ⟨by show Ending.returned (.agg #[.int .i64 2,.int .i64 (-1)])=_;rw[R],q.bel⟩
 have ab:¬ (8<m.length):=by have:=Xw e;omega
 clear e;refine XB <| M _ _ <| XW fun ar I=>rg s fun g=>sfModule0 Y Z Z <| Qbc 1 b Y Z Z Z Z <| fun N r=>Zh (t:=16) (v:=.func (.func 56) #[] #[.pointer (some ⟨W,0,none⟩)]) (w':=S) r Z Z Z (fun K G=>?_) ?_
 ·have k0:N.tmps.getD 1 undef=.pointer (some ⟨W,0,none⟩):=r.sl 1 _ Z
  go_simp;exact G
 clear r;intro Q k;refine St.go k ?_;clear k Q;refine QdF cf55 b (Qg2 (Bc:=W) (fun f x=>Qf.fault m.length f x) (Ya L.out b.bel) (by have:=h.out.1;omega) (fun f x xi wx hz hi e=>Qh9 hi (h.out.2 _ (Zm hz)) (by have:=h.out.1;omega) (by have P:=(Zi hz).1;have:=h.out.1;omega) ((b.get 1 Z).below e))) Y Z Z Z ?_;clear b;intro ai D;refine sT 0 D Z Z infFault Z Z Z <| fun ae l=>Yb fun ah V=>I _ _ ?_
 refine XA ?_;with_reducible repeat first | refine Qd ?_ | refine Qc ?_
 have R:Qj m=firstF (fun f x=>Qf.fault m.length f x) 0 m:=Xr (by omega);exact QW 0 V l Z Z Z underlying30 Z infFault ⟨by show Ending.returned (.agg #[.int .i64 ((firstF (fun f x=>Qf.fault m.length f x) 0 m).1),.int .i64 ((firstF (fun f x=>Qf.fault m.length f x) 0 m).2)])=_;rw[R],l.bel⟩
section
variable {n:Nat}{a:Act}{L:List (Tmp × Value)}{w0 w:World}{Bs:List (Nat × Array Value × TypeId)}{Q:Exit->Act->World->Prop}{ops:Array Oper}{rest:List Oper}{t:Tmp}{u v:Value}{ty ty2 ty3:TypeId}{pos:String}{aft:Array Edge}{gd:Option (Nat × Bool)}{x y:Operand}
theorem Qji {c:TypeId}{i:TypeInfo}{z:Value}{b:Nat}(u:prog.underlying c=some (.slice e)) (A:prog.info? e=some i) (s:i.zero=some z) (f:i.size=b)
 (d:i.bytes*m<=281474976710656) (F:m<=maxLen) (y:Wd w0 w Bs) (v:Gok ops n L gd) (p:Qy L x=some (.int .i64 (m:Int))) (G:Nat.blt t n=true)
 (k:∀ w' g xs,w.heap.size=g->w'.ownsRow w.heap.size e b (.slice (some ⟨g,0,none⟩) m m) m xs->Below w.heap.size w w'->Wd w0 w' Bs->St n ((t,.slice (some ⟨g,0,none⟩) m m)::L) ops Q rest w') :
 St n L ops Q (⟨some t,.makeSlice c x x,ty,pos,aft,gd⟩::rest) w:=fun a h=>by
 obtain⟨w',E,D,j⟩:=run_make_full (P:=prog) w w.heap.size c e i z b u A s f .i64 .i64 m d F Ze
 have l:Below w.heap.size w w':=(Below.refl _ w).grown j Ze (fun k r=>by cases r);have q:=h.ev p;refine wpList_step fun K C=>?_;rw[Xs (Gok.on (o:=⟨some t,.makeSlice c x x,ty,pos,aft,gd⟩) h v)]
 have B:=C (a.put (some t) (.slice (some ⟨w.heap.size,0,none⟩) m m)) w' (k w' _ _ Z D l (y.below l) _ (h.put G));unfold Oper.wp;simp[execOp,q,E,Result.andThen]
 exact B
theorem QlY {c:Array Value}{b:List Value}(h:Wd w0 w Bs) (v:w0.heap.size<=g) (l:∀ (i:Nat) x,Bs[i]?=some x->x.1≠g) (s:Blk w g c bt)
 (q:Qy L x=some (.pointer (some ⟨g,j,none⟩))) (d:Qy L y=some (.agg b.toArray)) (r:(prog.info? ty2).map (·.size)=some b.length) (p:b.all (·.oneCell')=true) (t:j+b.length<=c.size)
 (k:Wd w0 (w.setCells g j b) Bs->St n L ops Q rest (w.setCells g j b)):St n L ops Q (⟨none,.store ty2 x y,ty,pos,aft,none⟩::rest) w:=fun a f=>by
 have m:Wd w0 (w.setCells g j b) Bs:=⟨Qag v b w w0 j h.bel,fun i y d=>(ZU (l i y d) b j w).trans (h.blk i y d),h.new,h.nd⟩;refine Qez f Z Z (fun K u=>?_) (k m a f);have e:=f.ev q;have o:=f.ev d
 have:=run_storeAt_mid (P:=prog) w g j ty2 b.toArray (by simpa using Qcw s j b.length t) (by simpa using r) (by simpa using p)
 unfold Oper.wp execOp;simp only[e,o,Sem.run_bind,this,Result.andThen_ok,Sem.run_pure]
 rw[Oper.upon_skip];simpa[Act.put] using u
end
end Go.Proofs.YtlnkdhnibcenbaeGreat
