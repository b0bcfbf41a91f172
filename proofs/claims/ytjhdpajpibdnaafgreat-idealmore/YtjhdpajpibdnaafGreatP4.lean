import Derived.Test.YtjhdpajpibdnaafGreatP3
import Derived.Defers
import Derived.Recover
import Derived.Deep.Upon
import Derived.SizedLaws
set_option maxHeartbeats 16000000
set_option maxRecDepth 100000
namespace Go.Proofs.YtjhdpajpibdnaafGreat
open Go.ChangeShapes Go.WideShapes Go.ChangeAt Go.RowKit _root_.Go.Proofs.Tryz
set_option linter.unusedSimpArgs false
set_option linter.unusedVariables false
variable {w w' w6 wc wr w1 w2 w9:World}{b n c k X g m B i N rc ac cm fi bh R bi d j cap most q ca x ci na id f s cR cA rl al G o pages fl fm:Nat}{O A Q O' Q2 OO:Nat→Prop}{v u:Value}{a p ag pm pa pi pR pA ra aa:Option Addr}{t e:TypeId}{l inp:List Int}{P:Program}{xa xb xc xk words fu fr xn pg:Int}{L bs:List Bool}{cs xs ds:List Value}{ops:Array Oper}
def QeE (w w':World) (b:Nat) (O:Nat->Prop) (h':Qd) (Z:Nat):Prop:=∃ O' G',HIn w' b O' h' G'/\QE O O' w w'/\(∀ x,O x->O' x)/\¬ O' Z
theorem QgT (g:World) (i:Nat) (O:Nat->Prop) (R:Qd->Prop) (n:∀ x,O x->x<g.heap.size):HPs g (fun w=>∃ h',R h'/\HTo g w i O h') (fun Z w=>∃ h',R h'/\QeE g w i O h' Z) where
 down:=fun ⟨h',r,d,c,a,s,k,_⟩=>⟨h',r,d,c,a,s,k⟩
 up:=fun {w} o ⟨h',r,d,c,a,s,k⟩=>⟨h',r,d,c,a.below (QW w o),s.alloc o,k,fun e=>by have:=a.lt _ e;omega⟩
 below:=fun {w m} ⟨h',r,d,c,a,s,k⟩ b=>⟨h',r,d,c,a.below b,⟨b.os.trans s.os,b.tape.trans s.tape,b.output.trans s.output,Zt s.size b.size,fun x f h=>(b.block x (by have:=s.size;omega)).trans (s.block x f h),s.own⟩,k⟩
 belowZ:=fun {Z w m} ⟨h',r,d,c,a,s,k,z⟩ _ b=>⟨h',r,d,c,a.below b,⟨b.os.trans s.os,b.tape.trans s.tape,b.output.trans s.output,Zt s.size b.size,fun x f h=>(b.block x (by have:=s.size;omega)).trans (s.block x f h),s.own⟩,k,z⟩
 fill:=fun {Z w} r ⟨h',j,d,c,a,s,k,z⟩ l=>⟨h',j,d,c,a.keep (by simp) (fun x f _=>Qby (fun (e:x=Z)=>z (e ▸ f)) _ _ _ _),QeB s l _ _ _ _,k,z⟩
 low:=fun ⟨h',r,d,c,a,s,k⟩=>s.size
theorem HTo.from {w w':World}{b:Nat}{h':Qd}(c:Below w6.heap.size w6 w) (g:∀ x,O x->x<w6.heap.size) (T:HTo w w' b O h'):HTo w6 w' b O h'/\∀ Z,w6.heap.size<=Z->Z<w.heap.size->w'.heap[Z]?=w.heap[Z]?/\QeE w6 w' b O h' Z:=by
 obtain⟨f,i,a,s,k⟩:=T
 have h:QE O f w6 w':=⟨s.os.trans c.os,s.tape.trans c.tape,s.output.trans c.output,Zt c.size s.size,fun x d l=>(s.block x (by have:=c.size;omega) l).trans (c.block x d),fun x d=>(s.own x d).imp id (fun e=>Zt c.size e)⟩;refine⟨⟨f,i,a,h,k⟩,fun Z m j=>⟨s.block Z j (fun e=>by have:=g Z e;omega),f,i,a,h,k,fun e=>?_⟩⟩
 rcases s.own Z e with e | e
 ·have:=g Z e;omega
 ·omega
theorem Qg1 {h:Qd}{v:Qj}{t:Qq}(a:(h.put v t words).2.1≠0):(h.put v t words).2.2=h:=by
 unfold Qd.put at a |-;split
 ·rfl
 ·rename_i p c
  rw[c] at a
  simp only at a
  split
  ·rfl
  ·rename_i b
   rw[Xr b] at a
   exact absurd Z a
theorem Qhb {h:Qd}{v:Qj}{l:List Qj}(a:(h.tuple v l).2.1≠0):(h.tuple v l).2.2=h:=Qg1 a
theorem Qhi {h:Qd}{v:Qj}{n:Int}(a:(h.array v n).2.1≠0):(h.array v n).2.2=h:=by
 unfold Qd.array at a |-;split
 ·rfl
 ·rename_i b
  rw[Xr b] at a
  exact Qg1 a
section
variable {w w' w2:World}{b most n:Nat}{m:List (MFunc 6)}{M M' N:IM}{sc sa:Int}{g g1:MG}{e:Ending}
theorem QkL {l:List Qj}(h:∀ v∈l,gdV v):l.map Qj.bare=l:=by
 induction l with
 | nil=>rfl
 | cons x l ih=>rw[List.map_cons,(h x (by simp)).2,ih (fun v a=>h v (by simp[a]))]
theorem Qai.tup (I:Qai n M) (H:HIn w g.bh g.O M.h g.G){y:Qj}(d:y.ok){l:List Qj}(f:l.length=k) (z:k<=1000000) (q:∀ v∈l,gdV v) (b:VIn w a l) (r:∀ g0 o,a=some ⟨g0,o,none⟩->¬ g.O g0) :
 Calls prog 141 #[Pv g.bh 0,QL y,.slice a k c] w fun e w'=>e=.returned (.tuple #[QL (M.h.tuple y l).1,Iv (M.h.tuple y l).2.1])/\HTo w w' g.bh g.O (M.h.tuple y l).2.2:=by
 have m:=QkL q;have B:=I.hn
 cases hat:M.h.at y with
 | none =>
   have:=Qiq H y d (c:=c) f (by omega) b hat
   rw[m] at this
   exact this
 | some p =>
   obtain⟨x,u,t,s⟩:=I.hb.ok.of hat
   obtain⟨-,-,A,j,-,-⟩:=Qd.at_some hat
   by_cases i:p.tight (QeF k)=true/\M.h.left=0
   ·have:=QhY H y d (c:=c) f (by omega) b hat i.1 i.2 (by omega)
    rw[m] at this
    exact this
   ·have:=QlS H y d (c:=c) f (by omega) b hat j i (by omega) (by omega) (by omega) (by omega) r
    rw[m] at this
    exact this
theorem Qai.arr (I:Qai n M) (H:HIn w g.bh g.O M.h g.G){y:Qj}(a:y.ok)(d:k<=15) :
 Calls prog 200 #[Pv g.bh 0,QL y,Iv (k:Int)] w fun e w'=>e=.returned (.tuple #[QL (M.h.array y (k:Int)).1,Iv (M.h.array y (k:Int)).2.1])/\HTo w w' g.bh g.O (M.h.array y (k:Int)).2.2:=by
 have o:=I.hn
 cases hat:M.h.at y with
 | none=>exact QiL H y a d hat
 | some p =>
   obtain⟨l,j,i,f⟩:=I.hb.ok.of hat
   obtain⟨-,-,m,c,-,-⟩:=Qd.at_some hat
   by_cases b:p.tight ((k:Int)+1)=true/\M.h.left=0
   ·exact Qjz H y a d hat b.1 b.2 (by omega)
   ·exact Qlj H y a d hat c b (by omega) (by omega) (by omega) (by omega)
end
def QnR (b c X:Nat) (xa xb xk:Int) (na nb:Option Int) (t:Tmp) (v:Value) (w:World):Prop :=
 match ([(30,fun v w=>∃ y,na=some y/\v=.int .i64 y),(34,fun v w=>∃ y,nb=some y/\v=.int .i64 y),(35,fun v w=>∃ y z,na=some y/\nb=some z/\v=.tuple #[.int .i64 ((aOp xk y z).getD 0),.bool (aOp xk y z).isSome]),(24,fun v w=>∃ y z,na=some y/\nb=some z/\v=.tuple #[.int .i64 ((aOp xk y z).getD 0),.bool (aOp xk y z).isSome]),(36,fun v w=>∃ y z,na=some y/\nb=some z/\v=.int .i64 ((aOp xk y z).getD 0)),(37,fun v w=>∃ y z,na=some y/\nb=some z/\v=.bool (aOp xk y z).isSome),(6,fun v w=>∃ y z,na=some y/\nb=some z/\v=.int .i64 ((aOp xk y z).getD 0)),(7,fun v w=>∃ y z,na=some y/\nb=some z/\v=.bool (aOp xk y z).isSome)]:List (Tmp × (Value->World->Prop))).lookup t with
 | some p=>p v w
 | none=>v=(([(0,.pointer (some ⟨b,0,none⟩)),(1,.pointer (some ⟨c,0,none⟩)),(5,.pointer (some ⟨X,0,none⟩)),(25,.pointer (some ⟨X,4,none⟩)),(26,.int .i64 xk),(27,.pointer (some ⟨c,0,none⟩)),(28,.pointer (some ⟨X,1,none⟩)),(29,.int .i64 xa),(31,.pointer (some ⟨c,0,none⟩)),(32,.pointer (some ⟨X,2,none⟩)),(33,.int .i64 xb)]:List (Tmp × Value)).lookup t).getD undef
theorem in6 {b:Nat}{g i:Option Int}(S:w6.cell? ⟨X,1,none⟩=some (Iv xa)) (I:w6.cell? ⟨X,2,none⟩=some (Iv xb)) (M:w6.cell? ⟨X,4,none⟩=some (Iv xk)) (R:Hid (Qhm 133 #[Pv c 0,Iv xa] w6 g (.int .i64))) (J:Hid (Qhm 133 #[Pv c 0,Iv xb] w6 i (.int .i64))){Q:Exit->Act->World->Prop}
 (a:Act) (m:Nat) (hn:a.tmps.size=m) (D:112<=m) (L:a.tmps.getD 0 undef=Pv b 0) (P:a.tmps.getD 1 undef=Pv c 0) (G:a.tmps.getD 5 undef=Pv X 0)
 (O:∀ ch a' w',a'.defers=a.defers->(fun ch w=>ch=stuckP/\(g=none\/i=none)/\Below w6.heap.size w6 w) ch w'->Q (.panic ch) a' w')
 (hend:∀ vs w',(fun v w=>∃ y z,g=some y/\i=some z/\v=Iv ((aOp xk y z).getD 0)) (vs 6) w'->(fun v w=>∃ y z,g=some y/\i=some z/\v=.bool (aOp xk y z).isSome) (vs 7) w'->Below w6.heap.size w6 w'->Q .normal (QI a vs [25,26,27,28,29,30,31,32,33,34,35,24,36,37,6,7]) w') :
 Code.wp prog ((Tryz.f88.body.bind (Qg 6)).getD .skip) Q a w6:=by
 conv=>arg 2;whnf
 refine Zx (QnR b c X xa xb xk g i) (fun w=>Below w6.heap.size w6 w) (fun w w'=>Below w.heap.size w w') (fun ch w=>ch=stuckP/\(g=none\/i=none)/\Below w6.heap.size w6 w) O (outs:=[0,1,5]) (gs:=[]) (bs:=[true,true,true,true,true,true,true,true,true,true,true,true,true,true,true,true]) (by kernel_rfl) (n:=112) hn D (by kernel_rfl) ?hR ?hG (Qs Zr 1) ⟨L,P,G,Y⟩ ?hA ?hend
 case hR =>
  intro t v w w' hr h;unfold QnR at h |-;split at h
  ·rename_i p f
   simp only[List.lookup_cons,List.lookup_nil] at f
   split at f
   ·cases f;exact h
   ·split at f
    ·cases f;exact h
    ·split at f
     ·cases f;exact h
     ·split at f
      ·cases f;exact h
      ·split at f
       ·cases f;exact h
       ·split at f
        ·cases f;exact h
        ·split at f
         ·cases f;exact h
         ·split at f
          ·cases f;exact h
          ·cases f
  ·exact h
 case hG=>exact Y
 case hend=>exact fun vs w' e j=>hend vs w' (j 6 (by kernel_rfl)) (j 7 (by kernel_rfl)) e
 case hA =>
  repeat
   refine⟨fun a w e j K q=>?_,?_⟩
   focus first
    | obtain⟨d,-⟩:=j
      conv at d=>whnf;rhs;whnf
      have V:=Qo M e;have W:=Qo S e;have c2:=Qo I e;go_simp;exact q _ _ Zr e Z
    | obtain⟨d,-⟩:=j
      have d:(fun v w=>∃ y z,g=some y/\i=some z/\v=.tuple #[Iv ((aOp xk y z).getD 0),.bool (aOp xk y z).isSome]) (a.tmps.getD 24 undef) w:=d;generalize u:a.tmps.getD 24 undef=x at d;obtain⟨y,z,k,l,rfl⟩:=d
      go_simp;exact q _ _ Zr e ⟨y,z,k,l,Z⟩
    | obtain⟨d,-⟩:=j
      have d:(fun v w=>∃ y z,g=some y/\i=some z/\v=.tuple #[Iv ((aOp xk y z).getD 0),.bool (aOp xk y z).isSome]) (a.tmps.getD 35 undef) w:=d;generalize u:a.tmps.getD 35 undef=x at d;obtain⟨y,z,k,l,rfl⟩:=d
      go_simp;exact q _ _ Zr e ⟨y,z,k,l,Z⟩
    | obtain⟨d,-⟩:=j
      have d:(fun v w=>∃ y z,g=some y/\i=some z/\v=Iv ((aOp xk y z).getD 0)) (a.tmps.getD 36 undef) w:=d;generalize u:a.tmps.getD 36 undef=x at d;obtain⟨y,z,k,l,rfl⟩:=d
      go_simp;exact q _ _ Zr e ⟨y,z,k,l,Z⟩
    | obtain⟨d,-⟩:=j
      have d:(fun v w=>∃ y z,g=some y/\i=some z/\v=.bool (aOp xk y z).isSome) (a.tmps.getD 37 undef) w:=d;generalize u:a.tmps.getD 37 undef=x at d;obtain⟨y,z,k,l,rfl⟩:=d
      go_simp;exact q _ _ Zr e ⟨y,z,k,l,Z⟩
    | obtain⟨d,o,-⟩:=j
      conv at d=>whnf;rhs;whnf
      conv at o=>whnf;rhs;whnf
      go_simp;refine Xm (R.out w e) ?_;rintro F E ⟨C,s⟩;rcases C.split with ⟨B,r,rfl⟩|⟨r,rfl⟩
      rotate_left
      ·exact⟨_,Z,Z,.inl r,e.trans (s.mono e.size)⟩
      go_simp;exact q _ _ s (e.trans (s.mono e.size)) ⟨B,r,Z⟩
    | obtain⟨d,o,-⟩:=j
      conv at d=>whnf;rhs;whnf
      conv at o=>whnf;rhs;whnf
      go_simp;refine Xm (J.out w e) ?_;rintro F E ⟨C,s⟩;rcases C.split with ⟨B,r,rfl⟩|⟨r,rfl⟩
      rotate_left
      ·exact⟨_,Z,Z,.inr r,e.trans (s.mono e.size)⟩
      go_simp;exact q _ _ s (e.trans (s.mono e.size)) ⟨B,r,Z⟩
    | obtain⟨d,o,A,-⟩:=j
      conv at d=>whnf;rhs;whnf
      have o:(fun v w=>∃ y,g=some y/\v=Iv y) (a.tmps.getD 30 undef) w:=o;generalize T:a.tmps.getD 30 undef=N at o;have A:(fun v w=>∃ y,i=some y/\v=Iv y) (a.tmps.getD 34 undef) w:=A;generalize U:a.tmps.getD 34 undef=H at A;obtain⟨y,k,rfl⟩:=o
      obtain⟨z,l,rfl⟩:=A
      go_simp;refine Xm (QlY xk y z w) ?_;rintro F E ⟨rfl,rfl⟩;go_simp;exact q _ _ Zr e ⟨y,z,k,l,Z⟩
  trivial
def QmI (b c X bh:Nat) (xa:Int) (oa:Option Qj) (t:Tmp) (v:Value) (w:World):Prop :=
 match ([(57,fun v w=>∃ y,oa=some y/\v=QL y)]:List (Tmp × (Value->World->Prop))).lookup t with
 | some p=>p v w
 | none=>v=(([(0,.pointer (some ⟨b,0,none⟩)),(1,.pointer (some ⟨c,0,none⟩)),(5,.pointer (some ⟨X,0,none⟩)),(50,.pointer (some ⟨b,0,none⟩)),(51,.pointer (some ⟨b,0,none⟩)),(52,.pointer (some ⟨b,0,none⟩)),(53,.pointer (some ⟨bh,0,none⟩)),(54,.pointer (some ⟨c,0,none⟩)),(55,.pointer (some ⟨X,1,none⟩)),(56,.int .i64 xa)]:List (Tmp × Value)).lookup t).getD undef
theorem Qoi {b:Nat}{oa:Option Qj}(u:w6.cell? ⟨b,0,none⟩=some (Pv bh 0)) (C:w6.cell? ⟨X,1,none⟩=some (Iv xa)) (q:Hid (Qhm 140 #[Pv c 0,Iv xa] w6 oa QL)){Q:Exit->Act->World->Prop}
 (a:Act) (m:Nat) (hn:a.tmps.size=m) (j:112<=m) (x:a.tmps.getD 0 undef=Pv b 0) (A:a.tmps.getD 1 undef=Pv c 0) (o:a.tmps.getD 5 undef=Pv X 0)
 (z:∀ ch a' w',a'.defers=a.defers->(fun ch w=>ch=stuckP/\oa=none/\Below w6.heap.size w6 w) ch w'->Q (.panic ch) a' w')
 (hend:∀ ops vs w',vs 53=Pv bh 0->(fun v w=>∃ y,oa=some y/\v=QL y) (vs 57) w'->Below w6.heap.size w6 w'->wpList prog ops Q (QaR 8 ((Tryz.f88.body.bind (Qg 12)).getD .skip)) (QI a vs [50,51,52,53,54,55,56,57]) w') :
 Code.wp prog ((Tryz.f88.body.bind (Qg 12)).getD .skip) Q a w6:=by
 conv=>arg 2;whnf
 refine Q1 8 (QmI b c X bh xa oa) (fun w=>Below w6.heap.size w6 w) (fun w w'=>Below w.heap.size w w') (fun ch w=>ch=stuckP/\oa=none/\Below w6.heap.size w6 w) z (outs:=[0,1,5]) (gs:=[]) (bs:=[true,true,true,true,true,true,true,true]) (by kernel_rfl) (n:=112) hn j (by kernel_rfl) (by kernel_rfl) ?hR ?hG (Qs Zr 1) ⟨x,A,o,Y⟩ ?hA ?hend
 case hR =>
  intro t v w w' G h;unfold QmI at h |-;split at h
  ·rename_i p f
   simp only[List.lookup_cons,List.lookup_nil] at f
   split at f
   ·cases f;exact h
   ·cases f
  ·exact h
 case hG=>exact Y
 case hend=>exact fun ops vs w' d e=>hend ops vs w' (e 53 (by kernel_rfl)) (e 57 (by kernel_rfl)) d
 case hA =>
  repeat
   refine⟨fun a w d e K l=>?_,?_⟩
   focus first
    | obtain⟨k,-⟩:=e
      conv at k=>whnf;rhs;whnf
      have D:=Qo u d;have E:=Qo C d;go_simp;exact l _ _ Zr d Z
    | obtain⟨k,s,-⟩:=e
      conv at k=>whnf;rhs;whnf
      conv at s=>whnf;rhs;whnf
      go_simp;refine Xm (q.out w d) ?_;rintro H F ⟨B,i⟩;rcases B.split with ⟨r,g,rfl⟩|⟨g,rfl⟩
      rotate_left
      ·exact⟨_,Z,Z,g,d.trans (i.mono d.size)⟩
      go_simp;exact l _ _ i (d.trans (i.mono d.size)) ⟨r,g,Z⟩
  trivial
def Qdu (w6:World) (h:Qd) (OO:Nat->Prop) (b c X bh na ca:Nat) (xa:Int) (pa:Option Addr) (oa:Option Qj) (ol:Option (List Qj)) (S:Nat->Bool) (t:Tmp) (v:Value) (w:World):Prop :=
 match ([(70,fun _ v _=>(fun v=>∃ y,oa=some y/\v=QL y) v),(75,fun _ v _=>(fun v=>∃ y xs,oa=some y/\ol=some xs/\v=.tuple #[QL (h.tuple y xs).1,.int .i64 (h.tuple y xs).2.1]) v),(62,fun _ v _=>(fun v=>∃ y xs,oa=some y/\ol=some xs/\v=.tuple #[QL (h.tuple y xs).1,.int .i64 (h.tuple y xs).2.1]) v),(76,fun _ v _=>(fun v=>∃ y xs,oa=some y/\ol=some xs/\v=QL (h.tuple y xs).1) v),(77,fun _ v _=>(fun v=>∃ y xs,oa=some y/\ol=some xs/\v=.int .i64 (h.tuple y xs).2.1) v),(9,fun _ v _=>(fun v=>∃ y xs,oa=some y/\ol=some xs/\v=.int .i64 (h.tuple y xs).2.1) v),(74,fun S v w=>S 12=false->(Qlo w6 ol na) v w),(8,Qaw w6 (fun Z w=>∃ h',(∃ y xs,oa=some y/\ol=some xs/\h'=(h.tuple y xs).2.2)/\QeE w6 w bh OO h' Z) 12 17 (fun r=>∃ y xs,oa=some y/\ol=some xs/\r=(h.tuple y xs).1))]:List (Tmp × ((Nat->Bool)->Value->World->Prop))).lookup t with
 | some p=>p S v w
 | none=>v=(([(0,.pointer (some ⟨b,0,none⟩)),(1,.pointer (some ⟨c,0,none⟩)),(5,.pointer (some ⟨X,0,none⟩)),(63,.pointer (some ⟨b,0,none⟩)),(64,.pointer (some ⟨b,0,none⟩)),(65,.pointer (some ⟨b,0,none⟩)),(66,.pointer (some ⟨bh,0,none⟩)),(67,.pointer (some ⟨c,0,none⟩)),(68,.pointer (some ⟨X,1,none⟩)),(69,.int .i64 xa),(71,.pointer (some ⟨c,0,none⟩)),(72,.pointer (some ⟨X,7,none⟩)),(73,.slice pa na ca)]:List (Tmp × Value)).lookup t).getD undef
theorem Qcl {h:Qd}{b:Nat}{oa:Option Qj}{d:Option (List Qj)}{S:Nat->Bool}{t:Tmp}{w w':World}(j:HPs w6 (fun w=>∃ h',(∃ y xs,oa=some y/\d=some xs/\h'=(h.tuple y xs).2.2)/\HTo w6 w bh OO h') (fun Z w=>∃ h',(∃ y xs,oa=some y/\d=some xs/\h'=(h.tuple y xs).2.2)/\QeE w6 w bh OO h' Z))(hi:i≠12) (g:i≠17) (f:Below w.heap.size w w') (a:Qdu w6 h OO b c X bh na ca xa pa oa d S t u w):Qdu w6 h OO b c X bh na ca xa pa oa d (ZE i S) t u w':=by
 unfold Qdu at a |-;refine Qha ?_ a;exact⟨fun _ h=>h,fun _ h=>h,fun _ h=>h,fun _ h=>h,fun _ h=>h,fun _ h=>h,fun _ a=>fun e=>(by have a:=a (by rw[QjI (fun e=>hi e.symm)] at e;exact e);exact a.below f),fun _ a=>a.on j hi g f,Y⟩
theorem QmX {h:Qd}{b:Nat}{oa:Option Qj}{d:Option (List Qj)}{S:Nat->Bool}{t:Tmp}{w w':World}(k:∀ Z,w6.heap.size<=Z->Z<w.heap.size->w'.heap[Z]?=w.heap[Z]?/\(fun Z w=>∃ h',(∃ y xs,oa=some y/\d=some xs/\h'=(h.tuple y xs).2.2)/\QeE w6 w bh OO h' Z) Z w') (a:Qdu w6 h OO b c X bh na ca xa pa oa d S t u w):Qdu w6 h OO b c X bh na ca xa pa oa d (ZE 12 S) t u w':=by
 unfold Qdu at a |-;refine Qha ?_ a;exact⟨fun _ h=>h,fun _ h=>h,fun _ h=>h,fun _ h=>h,fun _ h=>h,fun _ h=>h,fun _ a=>fun e=>(by rw[Qm8] at e;cases e),fun _ a=>(by simp only at a |-;exact a.did (by decide) k),Y⟩
theorem Qmt {h:Qd}{b:Nat}{oa:Option Qj}{d:Option (List Qj)}{S:Nat->Bool}{t:Tmp}{w:World}(j:HPs w6 (fun w=>∃ h',(∃ y xs,oa=some y/\d=some xs/\h'=(h.tuple y xs).2.2)/\HTo w6 w bh OO h') (fun Z w=>∃ h',(∃ y xs,oa=some y/\d=some xs/\h'=(h.tuple y xs).2.2)/\QeE w6 w bh OO h' Z)){Z:Nat}{r:Qj}(i:S 17=false) (g:S 12=true) (k:(fun r=>∃ y xs,oa=some y/\d=some xs/\r=(h.tuple y xs).1) r) (f:t=8->u=Pv Z 0) (a:Qdu w6 h OO b c X bh na ca xa pa oa d S t u w):Qdu w6 h OO b c X bh na ca xa pa oa d (ZE 17 S) t u (Qk9 w Z r):=by
 unfold Qdu at a |-;refine Qha ?_ a;exact⟨fun _ h=>h,fun _ h=>h,fun _ h=>h,fun _ h=>h,fun _ h=>h,fun _ h=>h,fun _ a=>fun e=>(by rw[QjI (by decide),g] at e;cases e),fun e a=>(by obtain rfl:=f e;simp only at a |-;exact a.fill j i (by decide) r k),Y⟩
theorem Qn0 {h:Qd}{b:Nat}{oa:Option Qj}{g:Option (List Qj)}(T:∀ x,OO x->x<w6.heap.size) (q0:w6.cell? ⟨b,0,none⟩=some (Pv bh 0)) (x1:w6.cell? ⟨X,1,none⟩=some (Iv xa)) (x7:w6.cell? ⟨X,7,none⟩=some (.slice pa na ca)) (CV:Hid (Qhm 140 #[Pv c 0,Iv xa] w6 oa QL)) (CL:Hid (∀ wx,Below w6.heap.size w6 wx->Calls prog 142 #[Pv c 0,.slice pa na ca] wx fun e w'=>Qcj wx g na e w')) (CT:Hid (∀ y xs g7 wx,oa=some y->g=some xs->w6.heap.size<=g7->wx.rowIs g7 211 (na*4) (Zc xs)->Below w6.heap.size w6 wx->Calls prog 141 #[Pv bh 0,QL y,.slice (some ⟨g7,0,none⟩) na na] wx fun e w'=>e=.returned (.tuple #[QL (h.tuple y xs).1,Iv (h.tuple y xs).2.1])/\HTo wx w' bh OO (h.tuple y xs).2.2)) (j:HPs w6 (fun w=>∃ h',(∃ y xs,oa=some y/\g=some xs/\h'=(h.tuple y xs).2.2)/\HTo w6 w bh OO h') (fun Z w=>∃ h',(∃ y xs,oa=some y/\g=some xs/\h'=(h.tuple y xs).2.2)/\QeE w6 w bh OO h' Z)){Q:Exit->Act->World->Prop}
 (a:Act) (m:Nat) (hn:a.tmps.size=m) (V:112<=m) (h0:a.tmps.getD 0 undef=Pv b 0) (h1:a.tmps.getD 1 undef=Pv c 0) (h5:a.tmps.getD 5 undef=Pv X 0)
 (hX:∀ ch a' w',a'.defers=a.defers->(fun ch w=>ch=stuckP/\(oa=none\/g=none)/\Below w6.heap.size w6 w) ch w'->Q (.panic ch) a' w')
 (hend:∀ vs w',(fun v=>∃ y xs,oa=some y/\g=some xs/\v=Iv (h.tuple y xs).2.1) (vs 9)->(∃ Z,vs 8=Pv Z 0/\w6.heap.size<=Z/\(∃ r:Qj,(fun r=>∃ y xs,oa=some y/\g=some xs/\r=(h.tuple y xs).1) r/\Blk w' Z (Ql0 r) 211)/\(fun Z w=>∃ h',(∃ y xs,oa=some y/\g=some xs/\h'=(h.tuple y xs).2.2)/\QeE w6 w bh OO h' Z) Z w')->(fun w=>∃ h',(∃ y xs,oa=some y/\g=some xs/\h'=(h.tuple y xs).2.2)/\HTo w6 w bh OO h') w'->Q .normal (QI a vs [63,64,65,66,67,68,69,70,71,72,73,74,75,62,76,77,8,9]) w') :
 Code.wp prog ((Tryz.f88.body.bind (Qg 14)).getD .skip) Q a w6:=by
 conv=>arg 2;whnf
 refine Zu (Qdu w6 h OO b c X bh na ca xa pa oa g) (WY w6 (fun w=>∃ h',(∃ y xs,oa=some y/\g=some xs/\h'=(h.tuple y xs).2.2)/\HTo w6 w bh OO h') 12) (fun ch w=>ch=stuckP/\(oa=none\/g=none)/\Below w6.heap.size w6 w) hX (outs:=[0,1,5]) (gs:=[]) (bs:=[true,true,true,true,true,true,true,true,true,true,true,true,true,true,true,true,true,true,true]) (by kernel_rfl) (n:=112) hn V (by kernel_rfl) ?hG (.inl ⟨Yz,Qs Zr 1⟩) ⟨h0,h1,h5,Y⟩ ?hA ?hend
 case hG=>exact fun S=>trivial
 case hend=>exact fun vs S w' A k s=>hend vs w' (s 9 (by kernel_rfl)) (Qaw.full (show Qaw w6 (fun Z w=>∃ h',(∃ y xs,oa=some y/\g=some xs/\h'=(h.tuple y xs).2.2)/\QeE w6 w bh OO h' Z) 12 17 (fun r=>∃ y xs,oa=some y/\g=some xs/\r=(h.tuple y xs).1) S (vs 8) w' from s 8 (by kernel_rfl)) (A 17 (by decide)) (A 12 (by decide))) (k.fin (A 12 (by decide)))
 case hA =>
  repeat
   refine⟨fun S a w F hD L k s K C=>?_,?_⟩
   focus first
    | obtain⟨d,-⟩:=s
      have o:S 12=false:=Qdr L (q:=12) Yz (by kernel_rfl) F;conv at d=>whnf;rhs;whnf
      have c0:=k.pre o;go_simp;exact C _ _ (fun t _ i=>Qcl j (by decide) (by decide) Zr i) (k.on j (by decide) Zr) Yz
    | obtain⟨d,-⟩:=s
      have o:S 12=false:=Qdr L (q:=12) Yz (by kernel_rfl) F;have l:=k.pre o;conv at d=>whnf;rhs;whnf
      have c0:=Qo q0 l;have c1:=Qo x1 l;have c2:=Qo x7 l;go_simp;exact C _ _ (fun t _ i=>Qcl j (by decide) (by decide) Zr i) (k.on j (by decide) Zr) Yz
    | obtain⟨d,-⟩:=s
      have d:(fun v=>∃ y xs,oa=some y/\g=some xs/\v=.tuple #[QL (h.tuple y xs).1,Iv (h.tuple y xs).2.1]) (a.tmps.getD 62 undef):=d;generalize E:a.tmps.getD 62 undef=I at d;obtain⟨y,xs,u,z,rfl⟩:=d
      go_simp;exact C _ _ (fun t _ i=>Qcl j (by decide) (by decide) Zr i) (k.on j (by decide) Zr) ⟨y,xs,u,z,Yz⟩
    | clear s
      have D:S 17=false:=Qdr L (q:=17) Yz (by kernel_rfl) F;go_simp;exact C _ _ (fun t _ i=>Qcl j (by decide) (by decide) (QW _ _) i) (k.on j (by decide) (QW _ _)) (Qaw.new j k D (by decide) (by decide))
    | obtain⟨d,-⟩:=s
      have d:(fun v=>∃ y xs,oa=some y/\g=some xs/\v=.tuple #[QL (h.tuple y xs).1,Iv (h.tuple y xs).2.1]) (a.tmps.getD 75 undef):=d;generalize E:a.tmps.getD 75 undef=I at d;obtain⟨y,xs,u,z,rfl⟩:=d
      go_simp;exact C _ _ (fun t _ i=>Qcl j (by decide) (by decide) Zr i) (k.on j (by decide) Zr) ⟨y,xs,u,z,Yz⟩
    | obtain⟨d,-⟩:=s
      have d:(fun v=>∃ y xs,oa=some y/\g=some xs/\v=Iv (h.tuple y xs).2.1) (a.tmps.getD 77 undef):=d;generalize E:a.tmps.getD 77 undef=I at d;obtain⟨y,xs,u,z,rfl⟩:=d
      go_simp;exact C _ _ (fun t _ i=>Qcl j (by decide) (by decide) Zr i) (k.on j (by decide) Zr) ⟨y,xs,u,z,Yz⟩
    | obtain⟨d,p,-⟩:=s
      have o:S 12=false:=Qdr L (q:=12) Yz (by kernel_rfl) F;have l:=k.pre o;conv at d=>whnf;rhs;whnf
      conv at p=>whnf;rhs;whnf
      go_simp;refine Xm (CV.out w l) ?_;rintro r7 w7 ⟨N,H⟩;rcases N.split with ⟨y7,G,rfl⟩|⟨G,rfl⟩
      rotate_left
      ·exact⟨_,Yz,Yz,.inl G,l.trans (H.mono l.size)⟩
      go_simp;exact C _ _ (fun t _ i=>Qcl j (by decide) (by decide) H i) (k.on j (by decide) H) ⟨y7,G,Yz⟩
    | obtain⟨d,p,-⟩:=s
      have o:S 12=false:=Qdr L (q:=12) Yz (by kernel_rfl) F;have l:=k.pre o;conv at d=>whnf;rhs;whnf
      conv at p=>whnf;rhs;whnf
      go_simp;refine Xm (CL.out w l) ?_;rintro r7 w7 N;obtain⟨H,N⟩:=N.split
      rcases N with ⟨xs,g7,G,rfl,J,B⟩|⟨G,rfl⟩
      rotate_left
      ·exact⟨_,Yz,Yz,.inr G,l.trans (H.mono l.size)⟩
      go_simp;exact C _ _ (fun t _ i=>Qcl j (by decide) (by decide) H i) (k.on j (by decide) H) (fun _=>⟨g7,xs,Yz,Zt l.size J,G,B⟩)
    | obtain⟨d,p,R,-⟩:=s
      have l:=k.pre F;conv at d=>whnf;rhs;whnf
      have p:(fun v=>∃ y,oa=some y/\v=QL y) (a.tmps.getD 70 undef):=p;generalize P:a.tmps.getD 70 undef=U at p;have R:S 12=false->(Qlo w6 g na) (a.tmps.getD 74 undef) w:=R;generalize ab:a.tmps.getD 74 undef=aa at R;obtain⟨y,u,rfl⟩:=p
      obtain⟨g7,xs,rfl,J,z,B⟩:=R F
      go_simp;refine Xm (CT.out y xs g7 w u z J B l) ?_;rintro r7 w7 ⟨rfl,t7⟩;obtain⟨t8,t9⟩:=HTo.from l T t7
      go_simp;exact C _ _ (fun t _ i=>QmX (fun Z hz hl=>⟨(t9 Z hz hl).1,_,⟨y,xs,u,z,Yz⟩,(t9 Z hz hl).2⟩) i) (WY.did ⟨_,⟨y,xs,u,z,Yz⟩,t8⟩) ⟨y,xs,u,z,Yz⟩
    | obtain⟨d,p,-⟩:=s
      have d:Qaw w6 (fun Z w=>∃ h',(∃ y xs,oa=some y/\g=some xs/\h'=(h.tuple y xs).2.2)/\QeE w6 w bh OO h' Z) 12 17 (fun r=>∃ y xs,oa=some y/\g=some xs/\r=(h.tuple y xs).1) S (a.tmps.getD 8 undef) w:=d;generalize E:a.tmps.getD 8 undef=I at d;have p:(fun v=>∃ y xs,oa=some y/\g=some xs/\v=QL (h.tuple y xs).1) (a.tmps.getD 76 undef):=p;generalize P:a.tmps.getD 76 undef=U at p;have D:S 17=false:=F;have M:S 12=true:=Qkj L hD (by kernel_rfl);have kb:=d;obtain⟨Z,rfl,hZ,W,-,-⟩:=d
      have f:=W D;obtain⟨y,xs,u,z,rfl⟩:=p
      have hr:∃ y0 xs0,oa=some y0/\g=some xs0/\(h.tuple y xs).1=(h.tuple y0 xs0).1:=⟨y,xs,u,z,Yz⟩;obtain⟨r,O⟩:∃ r,(h.tuple y xs).1=r:=⟨_,Yz⟩
      rw[O] at P hr
      clear O;have c0:=Qa f 0 _ Yz;have c1:=Qa f 1 _ Yz;have c2:=Qa f 2 _ Yz;have c3:=Qa f 3 _ Yz;have c4:=Qe f 0;have c5:=Qe f 1;have c6:=Qe f 2;have c7:=Qe f 3;go_simp;exact C undef _ (fun t _ i=>Qmt j D M hr (fun e=>by subst e;exact E) i) (Qaw.fillW j kb M (by decide) r) Y
  trivial
theorem Zn {x:Qv}{d:IP}(h:Blk w1 X (QY x d) t):w1.cell? ⟨X,0,none⟩=some (Iv x.op)/\w1.cell? ⟨X,1,none⟩=some (Iv x.a)/\w1.cell? ⟨X,2,none⟩=some (Iv x.b)/\w1.cell? ⟨X,3,none⟩=some (Iv x.c)/\w1.cell? ⟨X,4,none⟩=some (Iv x.k)/\w1.cell? ⟨X,5,none⟩=some (Iv x.n)/\w1.cell? ⟨X,6,none⟩=some (.slice d.pR x.regs.length d.cR)/\w1.cell? ⟨X,7,none⟩=some (.slice d.pA x.args.length d.cA) :=
 ⟨Qa h 0 _ Z,Qa h 1 _ Z,Qa h 2 _ Z,Qa h 3 _ Z,Qa h 4 _ Z,Qa h 5 _ Z,Qa h 6 _ Z,Qa h 7 _ Z⟩
section
variable {w w' w2:World}{b most n:Nat}{m:List (MFunc 6)}{M M' N:IM}{sc sa:Int}{g g1:MG}{e:Ending}
theorem Ql.after {r:Option IM}(T:QE g.A g.A w w2) (h:Ql g w2 b most m M sc sa r e w'):Ql g w b most m M sc sa r e w':=by
 cases r with
 | none=>exact⟨h.1,XTo.then T Z Z h.2⟩
 | some M' =>
   rcases h with ⟨c,a⟩|⟨N,k,c,a,d⟩
   ·exact .inl ⟨c,XTo.then T Z Z a⟩
   ·exact .inr ⟨N,k,c,a,XTo.then T Z Z d⟩
theorem Qa8.after {r:Option IM}(T:QE g.A g.A w w2) (h:Qa8 g w2 b most m M sc sa r e w'):Qa8 g w b most m M sc sa r e w':=by
 cases r with
 | none=>exact⟨h.1,XTo.then T Z Z h.2⟩
 | some M' =>
   rcases h with ⟨c,i,a,d,f⟩|⟨N,k,c,a,d⟩
   ·exact .inl ⟨c,i,a,T.trans d,f⟩
   ·exact .inr ⟨N,k,c,a,XTo.then T Z Z d⟩
theorem Qb4 {v:List Qj}:∀ {l:List Int}{ys:List Qj},Qp v l=some ys->∀ x∈ys,x∈v
 | [],ys,h,x,a=>by simp[Qp] at h;subst h;simp at a
 | k::l,ys,h,x,a=>by
   simp only[Qp] at h
   cases hk:Qz v k with
   | none=>rw[hk] at h;cases h
   | some y =>
     rw[hk] at h
     simp only at h
     cases hl:Qp v l with
     | none=>rw[hl] at h;cases h
     | some zs =>
       rw[hl] at h
       simp at h
       subst h;rcases List.mem_cons.1 a with rfl | a
       ·exact Qa5 hk
       ·exact Qb4 hl x a
theorem Ql.cases {r:Option IM}(h:Ql g w b most m M sc sa r e w'):(e=.returned (.tuple #[])\/∃ ch,e=.panicked ch):=by
 cases r with
 | none=>exact .inr ⟨_,h.1⟩
 | some M' =>
   rcases h with ⟨c,a⟩|⟨N,k,c,a,d⟩
   ·exact .inl c
   ·exact .inr ⟨_,a⟩
theorem Qa8.cases {r:Option IM}(h:Qa8 g w b most m M sc sa r e w'):(e=.returned (.tuple #[])\/∃ ch,e=.panicked ch):=by
 cases r with
 | none=>exact .inr ⟨_,h.1⟩
 | some M' =>
   rcases h with ⟨c,a⟩|⟨N,k,c,a,d⟩
   ·exact .inl c
   ·exact .inr ⟨_,a⟩
theorem Qai.shut (I:Qai n M) (H:HIn w g.bh g.O M.h g.G){y:Qj}(b:y.ok) :
 Calls prog 139 #[Pv g.bh 0,QL y] w fun e w'=>e=.returned (.bool (M.h.shut y).1)/\HTo w w' g.bh g.O (M.h.shut y).2 :=
 Qja H y b (fun p a=>by have:=(I.hb.ok.of a).2.2.2;omega)
theorem Qik {h:Qd}{v:Qj}(a:(h.shut v).1=false):(h.shut v).2=h:=by
 unfold Qd.shut at a |-
 cases e:h.at v with
 | none=>rfl
 | some p=>rw[e] at a;cases a
theorem Qnz (S:MAt w b most m M sc sa g) (I:Qai n M){x:Qv}(d:IP) (a:x.op=1) :
 Calls prog 88 #[Pv b 0,Pv g.t.c 0,.agg (QY x d)] w fun e w'=>Ql g w b most m M sc sa (IM.ins m aOp M x) e w':=by
 have E:Hid (IM.ins m aOp M x=some (M.push [Qa9 x.n])):=by show _=_;unfold IM.ins;simp[a]
 generalize IM.ins m aOp M x=z at E |-;have h:=Qc (QW w (.cells (QY x d) 78));have f:=Qc (Qf w (QY x d) 78);have B:=Qc S;have G:=Qc I;have j:=Qc (S.below h.out);have k:=Qc (S.stepB h.out);have A:=I.len;clear S I;go_enter func88,ntmps88
 go_upto_region 1 with fail
 generalize w.alloc (.cells (QY x d) 78)=D at h f j k |-;generalize w.heap.size=X at f |-;obtain⟨s,y,o,p,r,u,l,q⟩:=Zn f.out
 rw[a] at s
 have C:=Qc (Z2 j.out x.n (by omega));clear y o p r l q;go_wp2_with fail
 refine C.out.mono ?_;rintro H F ⟨rfl,i⟩;have R:=Qc (XTo.then k.out Z Z i);clear i C u;go_wp2
 exact Xz (v:=.tuple #[]) (by simp[results,results88,go_sem]) Z (by rw[E.out];exact Ql.go R.out)
theorem Qnl (S:MAt w b most m M sc sa g) (I:Qai n M){x:Qv}(d:IP) (a:x.op=3) :
 Calls prog 88 #[Pv b 0,Pv g.t.c 0,.agg (QY x d)] w fun e w'=>Ql g w b most m M sc sa (IM.ins m aOp M x) e w':=by
 have E:Hid (IM.ins m aOp M x=if M.h.open_.2.1 then some (IM.push { M with h:=M.h.open_.2.2,top:={ M.top with r:=M.top.r++[M.h.open_.1.region] } } [M.h.open_.1]) else some (M.over 6)):=by show _=_;unfold IM.ins;simp[a]
 generalize IM.ins m aOp M x=F at E |-;have j:=Qc (QW w (.cells (QY x d) 78));have i:=Qc (Qf w (QY x d) 78);have H:=Qc S;have k:=Qc I;have l:=Qc (S.below j.out);have p:=Qc (S.stepB j.out);have G:=I.len;clear S I;go_enter func88,ntmps88
 go_upto_region 1 with fail
 generalize w.alloc (.cells (QY x d) 78)=K at j i l p |-;generalize w.heap.size=X at i |-;obtain⟨A,D,s,u,z,B,q,y⟩:=Zn i.out
 rw[a] at A
 have C:=Qc (Qh8 l.out k.out.hb k.out.hn' (by omega) k.out.regs);clear D s u z B q y;go_wp2_with fail
 refine C.out.mono ?_;rintro N L f;have o:=Qc (Ql.after p.out f);rcases f.cases with rfl | ⟨J,rfl⟩
 ·clear f C;go_wp2
  exact Xz (v:=.tuple #[]) (by simp[results,results88,go_sem]) Z (by rw[E.out];exact o.out)
 ·exact⟨Z,by rw[E.out];exact o.out⟩
theorem QmC (S:MAt w b most m M sc sa g) (I:Qai n M){x:Qv}(d:IP) (a:x.op=12) :
 Calls prog 88 #[Pv b 0,Pv g.t.c 0,.agg (QY x d)] w fun e w'=>Ql g w b most m M sc sa (IM.ins m aOp M x) e w':=by
 have E:Hid (IM.ins m aOp M x=match M.inp with | []=>some (M.over 4) | n::l=>some (IM.push { M with inp:=l } [Qa9 n])):=by show _=_;unfold IM.ins;simp[a];cases M.inp<;>rfl
 generalize IM.ins m aOp M x=D at E |-;have i:=Qc (QW w (.cells (QY x d) 78));have h:=Qc (Qf w (QY x d) 78);have G:=Qc S;have A:=Qc I;have j:=Qc (S.below i.out);have o:=Qc (S.stepB i.out);have F:=I.len;clear S I;go_enter func88,ntmps88
 go_upto_region 1 with fail
 generalize w.alloc (.cells (QY x d) 78)=J at i h j o |-;generalize w.heap.size=X at h |-;obtain⟨y,B,q,r,u,z,p,s⟩:=Zn h.out
 rw[a] at y
 have C:=Qc (QfI j.out A.out.inp (by omega));clear B q r u z p s;go_wp2_with fail
 refine C.out.mono ?_;rintro L K f;have k:=Qc (Ql.after o.out f);rcases f.cases with rfl | ⟨H,rfl⟩
 ·clear f C;go_wp2
  exact Xz (v:=.tuple #[]) (by simp[results,results88,go_sem]) Z (by rw[E.out];exact k.out)
 ·exact⟨Z,by rw[E.out];exact k.out⟩
theorem QnC (S:MAt w b most m M sc sa g) (I:Qai n M){x:Qv}(i:IP) (d:x.op=8) (p:∀ wx,Below w.heap.size w wx->Calls prog 145 #[Pv b 0,Pv g.t.c 0,Iv x.a,Iv x.b] wx fun e w'=>Ql g wx b most m M sc sa (M.mem x) e w') :
 Calls prog 88 #[Pv b 0,Pv g.t.c 0,.agg (QY x i)] w fun e w'=>Ql g w b most m M sc sa (IM.ins m aOp M x) e w':=by
 have E:Hid (IM.ins m aOp M x=M.mem x):=by show _=_;unfold IM.ins;simp[d]
 generalize IM.ins m aOp M x=D at E |-;have h:=Qc (QW w (.cells (QY x i) 78));have k:=Qc (Qf w (QY x i) 78);have H:=Qc S;have L:=Qc I;have r:=Qc (S.below h.out);have o:=Qc (S.stepB h.out);have F:=I.len;have f:=Qc p;clear p;clear S I;go_enter func88,ntmps88
 go_upto_region 1 with fail
 generalize w.alloc (.cells (QY x i) 78)=z at h k r o |-;generalize w.heap.size=X at k |-;obtain⟨A,N,G,s,y,B,q,u⟩:=Zn k.out
 rw[d] at A
 have C:=Qc (f.out z h.out);clear s y B q u f;go_wp2_with fail
 refine C.out.mono ?_;rintro O K j;have l:=Qc (Ql.after o.out j);rcases j.cases with rfl | ⟨J,rfl⟩
 ·clear j C;go_wp2
  exact Xz (v:=.tuple #[]) (by simp[results,results88,go_sem]) Z (by rw[E.out];exact l.out)
 ·exact⟨Z,by rw[E.out];exact l.out⟩
theorem Qns (S:MAt w b most m M sc sa g) (I:Qai n M){x:Qv}(d:IP) (a:x.op=6) :
 Calls prog 88 #[Pv b 0,Pv g.t.c 0,.agg (QY x d)] w fun e w'=>Ql g w b most m M sc sa (IM.ins m aOp M x) e w':=by
 have E:Hid (IM.ins m aOp M x=M.mem x):=by show _=_;unfold IM.ins;simp[a]
 generalize IM.ins m aOp M x=r at E |-;have i:=Qc (QW w (.cells (QY x d) 78));have h:=Qc (Qf w (QY x d) 78);have z:=Qc S;have q:=Qc I;have j:=Qc (S.below i.out);have l:=Qc (S.stepB i.out);have o:=I.len;clear S I;go_enter func88,ntmps88
 go_upto_region 1 with fail
 generalize w.alloc (.cells (QY x d) 78)=F at i h j l |-;generalize w.heap.size=X at h |-;obtain⟨p,J,u,y,B,H,s,A⟩:=Zn h.out
 rw[a] at p
 have C:=Qc (QmA j.out q.out d a);simp only[QY,a] at C
 clear o;go_wp2_with fail
 refine C.out.mono ?_;rintro K G f;have k:=Qc (Ql.after l.out f);rcases f.cases with rfl | ⟨D,rfl⟩
 ·clear f C;go_wp2
  exact Xz (v:=.tuple #[]) (by simp[results,results88,go_sem]) Z (by rw[E.out];exact k.out)
 ·exact⟨Z,by rw[E.out];exact k.out⟩
theorem Qno (S:MAt w b most m M sc sa g) (I:Qai n M){x:Qv}(d:IP) (a:x.op=7) :
 Calls prog 88 #[Pv b 0,Pv g.t.c 0,.agg (QY x d)] w fun e w'=>Ql g w b most m M sc sa (IM.ins m aOp M x) e w':=by
 have E:Hid (IM.ins m aOp M x=M.mem x):=by show _=_;unfold IM.ins;simp[a]
 generalize IM.ins m aOp M x=r at E |-;have i:=Qc (QW w (.cells (QY x d) 78));have h:=Qc (Qf w (QY x d) 78);have z:=Qc S;have q:=Qc I;have j:=Qc (S.below i.out);have l:=Qc (S.stepB i.out);have o:=I.len;clear S I;go_enter func88,ntmps88
 go_upto_region 1 with fail
 generalize w.alloc (.cells (QY x d) 78)=F at i h j l |-;generalize w.heap.size=X at h |-;obtain⟨p,J,u,y,B,H,s,A⟩:=Zn h.out
 rw[a] at p
 have C:=Qc (QmF j.out q.out d a);simp only[QY,a] at C
 clear o;go_wp2_with fail
 refine C.out.mono ?_;rintro K G f;have k:=Qc (Ql.after l.out f);rcases f.cases with rfl | ⟨D,rfl⟩
 ·clear f C;go_wp2
  exact Xz (v:=.tuple #[]) (by simp[results,results88,go_sem]) Z (by rw[E.out];exact k.out)
 ·exact⟨Z,by rw[E.out];exact k.out⟩
theorem Qni (S:MAt w b most m M sc sa g) (I:Qai n M){x:Qv}(d:IP) (a:x.op=9) :
 Calls prog 88 #[Pv b 0,Pv g.t.c 0,.agg (QY x d)] w fun e w'=>Ql g w b most m M sc sa (IM.ins m aOp M x) e w':=by
 have E:Hid (IM.ins m aOp M x=M.mem x):=by show _=_;unfold IM.ins;simp[a]
 generalize IM.ins m aOp M x=r at E |-;have i:=Qc (QW w (.cells (QY x d) 78));have h:=Qc (Qf w (QY x d) 78);have z:=Qc S;have q:=Qc I;have j:=Qc (S.below i.out);have l:=Qc (S.stepB i.out);have o:=I.len;clear S I;go_enter func88,ntmps88
 go_upto_region 1 with fail
 generalize w.alloc (.cells (QY x d) 78)=F at i h j l |-;generalize w.heap.size=X at h |-;obtain⟨p,J,u,y,B,H,s,A⟩:=Zn h.out
 rw[a] at p
 have C:=Qc (QmN j.out q.out d a);simp only[QY,a] at C
 clear o;go_wp2_with fail
 refine C.out.mono ?_;rintro K G f;have k:=Qc (Ql.after l.out f);rcases f.cases with rfl | ⟨D,rfl⟩
 ·clear f C;go_wp2
  exact Xz (v:=.tuple #[]) (by simp[results,results88,go_sem]) Z (by rw[E.out];exact k.out)
 ·exact⟨Z,by rw[E.out];exact k.out⟩
theorem Qmc (S:MAt w b most m M sc sa g) (I:Qai n M){x:Qv}(d:IP) (a:x.op=10) :
 Calls prog 88 #[Pv b 0,Pv g.t.c 0,.agg (QY x d)] w fun e w'=>Ql g w b most m M sc sa (IM.ins m aOp M x) e w':=by
 have E:Hid (IM.ins m aOp M x=M.mem x):=by show _=_;unfold IM.ins;simp[a]
 generalize IM.ins m aOp M x=r at E |-;have i:=Qc (QW w (.cells (QY x d) 78));have h:=Qc (Qf w (QY x d) 78);have z:=Qc S;have q:=Qc I;have j:=Qc (S.below i.out);have l:=Qc (S.stepB i.out);have o:=I.len;clear S I;go_enter func88,ntmps88
 go_upto_region 1 with fail
 generalize w.alloc (.cells (QY x d) 78)=F at i h j l |-;generalize w.heap.size=X at h |-;obtain⟨p,J,u,y,B,H,s,A⟩:=Zn h.out
 rw[a] at p
 have C:=Qc (Qln j.out q.out d a);simp only[QY,a] at C
 clear o;go_wp2_with fail
 refine C.out.mono ?_;rintro K G f;have k:=Qc (Ql.after l.out f);rcases f.cases with rfl | ⟨D,rfl⟩
 ·clear f C;go_wp2
  exact Xz (v:=.tuple #[]) (by simp[results,results88,go_sem]) Z (by rw[E.out];exact k.out)
 ·exact⟨Z,by rw[E.out];exact k.out⟩
theorem Qmd (S:MAt w b most m M sc sa g) (I:Qai n M){x:Qv}(d:IP) (a:x.op=11) :
 Calls prog 88 #[Pv b 0,Pv g.t.c 0,.agg (QY x d)] w fun e w'=>Ql g w b most m M sc sa (IM.ins m aOp M x) e w':=by
 have E:Hid (IM.ins m aOp M x=M.mem x):=by show _=_;unfold IM.ins;simp[a]
 generalize IM.ins m aOp M x=r at E |-;have i:=Qc (QW w (.cells (QY x d) 78));have h:=Qc (Qf w (QY x d) 78);have z:=Qc S;have q:=Qc I;have j:=Qc (S.below i.out);have l:=Qc (S.stepB i.out);have o:=I.len;clear S I;go_enter func88,ntmps88
 go_upto_region 1 with fail
 generalize w.alloc (.cells (QY x d) 78)=F at i h j l |-;generalize w.heap.size=X at h |-;obtain⟨p,J,u,y,B,H,s,A⟩:=Zn h.out
 rw[a] at p
 have C:=Qc (Qlk j.out q.out d a);simp only[QY,a] at C
 clear o;go_wp2_with fail
 refine C.out.mono ?_;rintro K G f;have k:=Qc (Ql.after l.out f);rcases f.cases with rfl | ⟨D,rfl⟩
 ·clear f C;go_wp2
  exact Xz (v:=.tuple #[]) (by simp[results,results88,go_sem]) Z (by rw[E.out];exact k.out)
 ·exact⟨Z,by rw[E.out];exact k.out⟩
theorem Qmn (S:MAt w b most m M sc sa g) (I:Qai n M){x:Qv}(a:IP) (d:x.op=14) (r:M.rest.length<=39)(A:x.k=(k:Int)){fn:MFunc 6}{bl:MBlock 6}(B:m[k]?=some fn) (hb:fn.blocks[0]?=some bl) (z:bl.regs=fn.regs) (s:bl.params=fn.params) (l:m.length<=1000/\fn.blocks.length<=1000/\bl.params.length<=1000)
  (q:intsL.In w Q2 x.regs [.slice a.pR x.regs.length a.cR]) (u:intsL.In w Q2 x.args [.slice a.pA x.args.length a.cA]) (hn:x.regs.length<=1000/\x.args.length<=1000) :
 Calls prog 88 #[Pv b 0,Pv g.t.c 0,.agg (QY x a)] w fun e w'=>Qa8 g w b most m M sc sa (IM.ins m aOp M x) e w':=by
 have E:Hid (IM.ins m aOp M x=M.call m x):=by show _=_;unfold IM.ins;simp[d]
 generalize IM.ins m aOp M x=G at E |-;have f:=Qc (QW w (.cells (QY x a) 78));have i:=Qc (Qf w (QY x a) 78);have L:=Qc S;have U:=Qc I;have o:=Qc (S.below f.out);have y:=Qc (S.stepB f.out);have D:=I.len;have j:=Qc (Qjm o.out I r a A B hb z s l (Ya q f.out) (Ya u f.out) hn);clear B hb z s l q u hn A r;clear S I;go_enter func88,ntmps88
 go_upto_region 1 with fail
 generalize w.alloc (.cells (QY x a) 78)=Q at f i o y j |-;generalize w.heap.size=X at i |-;obtain⟨F,V,J,K,O,T,H,N⟩:=Zn i.out
 rw[d] at F
 have C:=Qc (j.out);simp only[QY,d] at C
 clear D j;go_wp2_with fail
 refine C.out.mono ?_;rintro W R h;have p:=Qc (Qa8.after y.out h);rcases h.cases with rfl | ⟨P,rfl⟩
 ·clear h C;go_wp2
  exact Xz (v:=.tuple #[]) (by simp[results,results88,go_sem]) Z (by rw[E.out];exact p.out)
 ·exact⟨Z,by rw[E.out];exact p.out⟩
theorem QmU (S:MAt w b most m M sc sa g) (I:Qai n M){x:Qv}(l:IP) (h:x.op=13) :
 Calls prog 88 #[Pv b 0,Pv g.t.c 0,.agg (QY x l)] w fun e w'=>Ql g w b most m M sc sa (IM.ins m aOp M x) e w':=by
 have E:Hid (IM.ins m aOp M x=match Qu M.top.v x.a with | none=>none | some n=>if M.out.length=2000 then some (M.over 8) else some { M with out:=M.out++[n] }):=by show _=_;unfold IM.ins;simp[h];cases Qu M.top.v x.a<;>rfl
 generalize IM.ins m aOp M x=y at E |-;have i:=Qc (QW w (.cells (QY x l) 78));have s:=Qc (Qf w (QY x l) 78);have J:=Qc S;have P:=Qc I;have j:=Qc (S.below i.out);have D:=Qc (S.stepB i.out);have U:=I.len;clear S I;go_enter func88,ntmps88
 go_upto_region 1 with fail
 generalize w.alloc (.cells (QY x l) 78)=A at i s j D |-;generalize w.heap.size=X at s |-;obtain⟨N,R,G,H,L,O,F,K⟩:=Zn s.out
 rw[h] at N
 have C:=Qc (ZH j.out.top (by omega) x.a);clear G H L O F K;go_upto_region 22 with fail
 cases hq:Qu M.top.v x.a with
 | none =>
   rw[hq] at C E
   go_wp2_with fail
   refine C.out.mono ?_;rintro o B ⟨d,f⟩;have d:o=.panicked stuckP:=d;subst d;exact⟨Z,by rw[E.out];exact Ql.stuck (XTo.same J.out (i.out.trans (f.mono i.out.size)))⟩
 | some q =>
   rw[hq] at C E
   have u:Hid (y=if M.out.length=2000 then some (M.over 8) else some { M with out:=M.out++[q] }):=E.out;have r:Hid (∀ k,Below A.heap.size A k->Calls prog 147 #[Pv b 0,Iv q] k fun e w'=>Ql g k b most m M sc sa (if M.out.length=2000 then some (M.over 8) else some { M with out:=M.out++[q] }) e w'):=fun k Q=>Qf5 (j.out.below Q) q P.out.out;clear E;generalize (if M.out.length=2000 then some (M.over 8) else some { M with out:=M.out++[q] })=T at u r;go_wp2_with (go_at_call 133;refine C.out.mono ?_;rintro o B ⟨d,f⟩;have d:o=.returned (Iv q):=d;subst d)
   refine(r.out B f).mono ?_
   rintro o V p;have z:=Qc (Ql.after (D.out.trans (j.out.stepB f)) p);rcases p.cases with rfl | ⟨W,rfl⟩
   ·clear p C r f R;go_wp2
    exact Xz (v:=.tuple #[]) (by simp[results,results88,go_sem]) Z (by rw[u.out];exact z.out)
   ·exact⟨Z,by rw[u.out];exact z.out⟩
theorem Qnj (S:MAt w b most m M sc sa g) (I:Qai n M){x:Qv}(F:IP) (l:x.op=2) :
 Calls prog 88 #[Pv b 0,Pv g.t.c 0,.agg (QY x F)] w fun e w'=>Ql g w b most m M sc sa (IM.ins m aOp M x) e w':=by
 have E:Hid (IM.ins m aOp M x=match Qu M.top.v x.a with | none=>none | some a=>match Qu M.top.v x.b with | none=>none | some b=>match aOp x.k a b with | none=>some (M.over 1) | some n=>some (M.push [Qa9 n])):=by show _=_;unfold IM.ins;simp[l];cases Qu M.top.v x.a with | none=>rfl | some a=>(simp only;cases Qu M.top.v x.b with | none=>rfl | some b=>(simp only;cases aOp x.k a b<;>rfl))
 generalize IM.ins m aOp M x=r at E |-;have f:=Qc (QW w (.cells (QY x F) 78));have u:=Qc (Qf w (QY x F) 78);have A:=Qc S;have HI:=Qc I;have s:=Qc (S.below f.out);have W:=Qc (S.stepB f.out);have hl:=I.len;clear S I;go_enter func88,ntmps88
 go_upto_region 1 with fail
 generalize w.alloc (.cells (QY x F) 78)=C at f u s W |-;generalize w.heap.size=X at u |-;obtain⟨V,x1,Q,x3,U,x5,x6,x7⟩:=Zn u.out
 rw[l] at V
 have CA:Hid (∀ d,Below C.heap.size C d->Calls prog 133 #[Pv g.t.c 0,Iv x.a] d fun e w'=>Ask (Qu M.top.v x.a) (.int .i64) e/\Below d.heap.size d w'):=fun d N=>ZH (s.out.top.below N) (by omega) x.a;have T:Hid (∀ d,Below C.heap.size C d->Calls prog 133 #[Pv g.t.c 0,Iv x.b] d fun e w'=>Ask (Qu M.top.v x.b) (.int .i64) e/\Below d.heap.size d w'):=fun d N=>ZH (s.out.top.below N) (by omega) x.b;go_upto_region 6 with fail
 refine in6 x1 Q U CA T _ _ Z (Xg (by kernel_rfl)) Z Z Z ?_ ?_
 ·rintro ch a' w9 K ⟨rfl,J,D⟩;refine⟨K,?_⟩
  have E3:r=none:=by
   rw[E.out]
   rcases J with H | H
   ·rw[H]
   ·cases Qu M.top.v x.a with
    | none=>rfl
    | some y=>simp only;rw[H]
  rw[E3]
  exact Ql.stuck (XTo.same A.out (f.out.trans (D.mono f.out.size)))
 ·rintro vs w9 ⟨y,z,G,L,p⟩ ⟨y',z',o,i,j⟩ D;rw[G] at o
  cases o
  rw[L] at i
  cases i
  simp only[QI,Act.put,List.setIfInBounds_toArray,List.set_cons_zero,List.set_cons_succ,p,j]
  have B:Hid (r=match aOp x.k y z with | none=>some (M.over 1) | some n=>some (M.push [Qa9 n])):=by show _=_;rw[E.out,G];simp only;rw[L]
  have O:=Qc (f.out.trans (D.mono f.out.size));have S9:=Qc (A.out.below O.out);have T9:=Qc (A.out.stepB O.out);clear p j G L D E CA T V x1 Q x3 U x5 x6 x7 s f u W
  cases ho:aOp x.k y z with
  | none =>
    rw[ho] at B
    simp only[Option.isSome_none,Option.getD_none]
    go_wp2_with fail
    refine(QaK _ _).mono ?_
    rintro e' w' ⟨rfl,h⟩;subst h;exact⟨Z,by rw[B.out];exact Ql.end_ (XTo.same A.out O.out)⟩
  | some q =>
    rw[ho] at B
    simp only[Option.isSome_some,Option.getD_some]
    have CM:=Qc (Z2 S9.out q (by omega));go_wp2_with (go_at_call 84;refine(Qa0 _ _).mono ?_;rintro e' w' ⟨rfl,h⟩;have h:=h.symm;subst h)
    refine CM.out.mono ?_;rintro e' w6 ⟨rfl,P⟩;have R:=Qc (XTo.then T9.out Z Z P);clear P CM;go_wp2
    exact Xz (v:=.tuple #[]) (by simp[results,results88,go_sem]) Z (by rw[B.out];exact Ql.go R.out)
theorem Qnc (S:MAt w b most m M sc sa g) (I:Qai n M){x:Qv}(z:IP) (k:x.op=4) :
 Calls prog 88 #[Pv b 0,Pv g.t.c 0,.agg (QY x z)] w fun e w'=>Ql g w b most m M sc sa (IM.ins m aOp M x) e w':=by
 have E:Hid (IM.ins m aOp M x=match Qz M.top.v x.a with | none=>none | some a=>if (M.h.shut a).1 then some { M with h:=(M.h.shut a).2 } else none):=by show _=_;unfold IM.ins;simp[k];unfold IM.mem;cases Qz M.top.v x.a<;>simp[k]
 generalize IM.ins m aOp M x=H at E |-;have i:=Qc (QW w (.cells (QY x z) 78));have r:=Qc (Qf w (QY x z) 78);have D:=Qc S;have HI:=Qc I;have q:=Qc (S.below i.out);have W:=Qc (S.stepB i.out);have hl:=I.len;clear S I;go_enter func88,ntmps88
 go_upto_region 1 with fail
 generalize w.alloc (.cells (QY x z) 78)=Q at i r q W |-;generalize w.heap.size=X at r |-;obtain⟨U,x1,x2,x3,x4,x5,x6,x7⟩:=Zn r.out
 rw[k] at U
 have L:Hid (∀ o,Below Q.heap.size Q o->Calls prog 140 #[Pv g.t.c 0,Iv x.a] o fun e w'=>Ask (Qz M.top.v x.a) QL e/\Below o.heap.size o w'):=fun o bx=>ZU (q.out.top.below bx) (by omega) x.a;have N:=q.out.heapC;go_upto_region 12 with fail
 refine Qoi N x1 L _ _ Z (Xg (by kernel_rfl)) Z Z Z ?_ ?_
 ·rintro ch a' w9 G ⟨rfl,F,b9⟩;refine⟨G,?_⟩
  rw[E.out,F]
  exact Ql.stuck (XTo.same D.out (i.out.trans (b9.mono i.out.size)))
 ·rintro B vs V d ⟨y,A,f⟩ K;show wpList _ B _ [_,_] (QI _ vs [50,51,52,53,54,55,56,57]) V;simp only[QI,Act.put,List.setIfInBounds_toArray,List.set_cons_zero,List.set_cons_succ,d,f]
  have s:Hid (H=if (M.h.shut y).1 then some { M with h:=(M.h.shut y).2 } else none):=by show _=_;rw[E.out,A]
  have T:=Qc (i.out.trans (K.mono i.out.size));have P:=Qc (D.out.below T.out);have u:=Qc (HI.out.shut P.out.heap (HI.out.val A).1);have C:=Qc (Qik (h:=M.h) (v:=y));clear d f A K E L N U x1 x2 x3 x4 x5 x6 x7 q i r W;generalize M.h.shut y=st at s u C;obtain⟨cd,sh⟩:=st
  simp only at s u C
  have RR:=Qc (fun p (j:HTo V p g.bh g.O sh)=>XTo.then (D.out.stepB T.out) Z Z (P.out.toHeap j))
  cases cd with
  | true =>
    go_wp2_with (first | (go_at_call 139;refine u.out.mono ?_;rintro J p ⟨rfl,j⟩;have R:=Qc (RR.out p j);clear j) | (go_at_call 138;refine(ZF _).mono ?_;rintro J w' ⟨rfl,l⟩;have l:=l.symm;subst l))
    exact Xz (v:=.tuple #[]) (by simp[results,results88,go_sem]) Z (by rw[s.out];exact Ql.go R.out)
  | false =>
    go_wp2_with (go_at_call 139;refine u.out.mono ?_;rintro J p ⟨rfl,j⟩;have R:=Qc (RR.out p j);clear j)
    refine(Zj _).mono ?_
    rintro J w' ⟨rfl,l⟩;subst l;exact⟨Z,by rw[s.out];exact Ql.stuck (by have:=R.out;rw[C.out (by first | rfl | trivial)] at this;exact this)⟩
theorem QnA (S:MAt w b most m M sc sa g) (I:Qai n M){x:Qv}(q:IP) (B:x.op=5)(hA:intsL.In w Q2 x.args [.slice q.pA x.args.length q.cA]) (hn:x.args.length<=1000) :
 Calls prog 88 #[Pv b 0,Pv g.t.c 0,.agg (QY x q)] w fun e w'=>Ql g w b most m M sc sa (IM.ins m aOp M x) e w':=by
 have E:Hid (IM.ins m aOp M x=match Qz M.top.v x.a with | none=>none | some a=>match Qp M.top.v x.args with | none=>none | some l=>M.got (M.h.tuple a l)):=by show _=_;unfold IM.ins;simp[B];unfold IM.mem;cases Qz M.top.v x.a with | none=>rfl | some a=>(simp[B];cases Qp M.top.v x.args<;>rfl)
 generalize IM.ins m aOp M x=j at E |-;have s:=Qc (QW w (.cells (QY x q) 78));have BX:=Qc (Qf w (QY x q) 78);have HS:=Qc S;have HI:=Qc I;have k:=Qc (S.below s.out);have T1:=Qc (S.stepB s.out);have hl:=I.len;have HA:=Qc (Ya hA s.out);clear hA;clear S I;go_enter func88,ntmps88
 go_upto_region 1 with fail
 generalize w.alloc (.cells (QY x q) 78)=A at s BX k T1 HA |-;generalize w.heap.size=X at BX |-;obtain⟨x0,x1,x2,x3,x4,x5,x6,x7⟩:=Zn BX.out
 rw[B] at x0
 have CV:Hid (∀ d,Below A.heap.size A d->Calls prog 140 #[Pv g.t.c 0,Iv x.a] d fun e w'=>Ask (Qz M.top.v x.a) QL e/\Below d.heap.size d w'):=fun d F=>ZU (k.out.top.below F) (by omega) x.a;have CL:Hid (∀ d,Below A.heap.size A d->Calls prog 142 #[Pv g.t.c 0,.slice q.pA x.args.length q.cA] d fun e w'=>Qcj d (Qp M.top.v x.args) x.args.length e w'):=fun d F=>Qeh (k.out.top.below F) (by omega) Yz (by omega) (Ya HA.out F)
 have CT:Hid (∀ y o g7 d,Qz M.top.v x.a=some y->Qp M.top.v x.args=some o->A.heap.size<=g7->d.rowIs g7 211 (x.args.length*4) (Zc o)->Below A.heap.size A d->Calls prog 141 #[Pv g.bh 0,QL y,.slice (some ⟨g7,0,none⟩) x.args.length x.args.length] d fun e w'=>e=.returned (.tuple #[QL (M.h.tuple y o).1,Iv (M.h.tuple y o).2.1])/\HTo d w' g.bh g.O (M.h.tuple y o).2.2):=fun y o g7 d L D ae W F=>by
  have N:=Q8 _ _ D;refine HI.out.tup (k.out.heap.below F) (HI.out.val L).1 N (by omega) (fun v hv=>HI.out.gd v (Qb4 D v hv)) ?_ (fun g0 o0 J hO=>?_)
  ·have:=(Qhf.of N (by omega) W).form
   obtain⟨a9,c9,e9,i⟩:=this
   rw[Value.slice.injEq] at e9
   rw[<-e9.1] at i
   exact i
  ·injection J with J
   injection J with J
   subst J
   have:=k.out.heap.lt _ hO
   omega
 have q0:=k.out.heapC;go_upto_region 14 with fail
 refine Qn0 (OO:=g.O) (h:=M.h) (k.out.heap.lt) q0 x1 x7 CV CL CT (QgT _ _ _ _ k.out.heap.lt) _ _ Yz (Xg (by kernel_rfl)) Yz Yz Yz ?_ ?_
 ·rintro ch a' z aa ⟨rfl,ab,b9⟩;refine⟨aa,?_⟩
  have u:j=none:=by
   rw[E.out]
   rcases ab with f | f
   ·rw[f]
   ·cases Qz M.top.v x.a with
    | none=>rfl
    | some y=>simp only;rw[f]
  rw[u]
  exact Ql.stuck (XTo.same HS.out (s.out.trans (b9.mono s.out.size)))
 ·rintro vs z ⟨y,o,L,D,i⟩ ⟨Z,K,hZ,⟨r,⟨y',ac,Q,P,hr⟩,p⟩,-⟩ ⟨h9,⟨y2,ad,U,V,hh⟩,t9⟩;rw[L] at Q U
  cases Q
  cases U
  rw[D] at P V
  cases P
  cases V
  simp only[QI,Act.put,List.setIfInBounds_toArray,List.set_cons_zero,List.set_cons_succ,i,K]
  have G:Hid (j=M.got (M.h.tuple y o)):=by show _=_;rw[E.out,L];simp only;rw[D]
  subst hr;subst hh;have C:=Qc (XTo.then T1.out Yz Yz (k.out.toHeap t9));have T:=Qc (Qhb (h:=M.h) (v:=y) (l:=o));have Y:=Qc p;clear i K L D p t9 E CV CL CT q0 x0 x1 x2 x3 x4 x5 x6 x7 k s BX T1 HA;generalize M.h.tuple y o=tu at G C T Y |-;obtain⟨⟨rk,rr,rt,H⟩,cd,th⟩:=tu
  simp only at G C T Y |-
  go_upto_region 15 with fail
  go_wp2_with fail
  refine(QaA _ _ _ _).mono ?_
  rintro e' w' ⟨hw,ha⟩;have hw:=hw.symm;subst hw;rcases ha with ⟨f,rfl⟩|⟨f,h1,rfl⟩|⟨f,h1,rfl⟩
  rotate_left
  ·have u:j=some (M.over 6):=by rw[G.out];unfold IM.got;rw[Xs h1]
   exact⟨Yz,by rw[u];exact Ql.end_ (by have:=C.out;rw[T.out f] at this;exact this)⟩
  ·have u:j=none:=by rw[G.out];unfold IM.got;rw[Xr h1,Xr f]
   exact⟨Yz,by rw[u];exact Ql.stuck (by have:=C.out;rw[T.out f] at this;exact this)⟩
  have u:Hid (j=some (IM.push { M with h:=th } [⟨rk,rr,rt,H⟩])):=by show _=_;rw[G.out];unfold IM.got;simp only;rw[Xr (by omega),Xs f]
  obtain⟨g5,S5,T5,c5,f5⟩:=C.out
  have y0:z.cell? ⟨Z,0,none⟩=some (Iv rk):=Qa Y.out 0 _ Yz;have y1:z.cell? ⟨Z,1,none⟩=some (Iv rr):=Qa Y.out 1 _ Yz;have y2:z.cell? ⟨Z,2,none⟩=some (Iv rt):=Qa Y.out 2 _ Yz;have y3:z.cell? ⟨Z,3,none⟩=some (Iv H):=Qa Y.out 3 _ Yz;have B5:=QW z (.cells #[Iv rk,Iv rr,Iv rt,Iv H] 211);have CM:=Qc (fun cp=>ZR (S5.below B5) (l:=[⟨rk,rr,rt,H⟩]) (cp:=cp) Yz (Qhk z rk rr rt H) (by show M.top.v.length+1<=1000000;omega));rw[c5] at CM
  have T6:=Qc (T5.trans (S5.stepB B5));have HC:=Qc (Xh c5 f5);clear B5 Y f G S5 T5 C T c5 f5;go_wp2_with fail
  refine(CM.out _).mono ?_
  rintro e' w6 ⟨rfl,h6⟩;have R:=Qc (XTo.then T6.out HC.out.1 HC.out.2 h6);clear h6 CM T6 y0 y1 y2 y3;go_wp2
  exact Xz (v:=.tuple #[]) (by simp[results,results88,go_sem]) Yz (by rw[u.out];exact Ql.go R.out)
end
def HGd (h:Qd):Prop:=∀ (k:Nat) (p:Qi) (i:Nat) (t:Qq) (v:Qj),h.L[k]?=some p->p.l[i]?=some t->v∈t.l->gdV v
theorem gd_no:gdV noV:=⟨by unfold Qj.ok Zp noV;decide,Z⟩
theorem one64:Zp 1:=by unfold Zp;decide
theorem two64:Zp 2:=by unfold Zp;decide
theorem zero64:Zp 0:=by unfold Zp;decide
theorem QbX {n:Int}(h:Zp n):gdV (Qa9 n):=⟨⟨one64,zero64,zero64,h⟩,Z⟩
section
variable {h:Qd}{n:Nat}
theorem HGd.new (n:Nat):HGd (Qd.new n):=fun k p i t v h=>by simp[Qd.new] at h
theorem HGd.open (G:HGd h):HGd h.open_.2.2:=by
 unfold Qd.open_;split
 ·exact G
 ·intro k p i t v a c e;simp only at a
  rcases Nat.lt_or_ge k h.L.length with b | b
  ·rw[XP b] at a;exact G k p i t v a c e
  ·rw[XQ b] at a
   have:=(Zi a).1
   have d:k - h.L.length=0:=by simp at this;omega
   rw[d] at a
   simp at a
   subst a;simp[newP] at c
theorem HGd.shut (G:HGd h) (v:Qj):HGd (h.shut v).2:=by
 unfold Qd.shut
 cases h.at v with
 | none=>exact G
 | some p =>
   intro k q i t u a b c;simp only at a
   rcases Qbf a with rfl | a
   ·simp[noP] at b
   ·exact G k q i t u a b c
theorem HGd.put (G:HGd h) (v:Qj){t:Qq}(j:∀ u∈t.l,gdV u) (words:Int):HGd (h.put v t words).2.2:=by
 unfold Qd.put
 cases ha:h.at v with
 | none=>exact G
 | some p =>
   simp only
   split
   ·exact G
   ·intro k q i u x b a c;simp only at b
    rcases Qbf b with rfl | b
    ·have e:(p.more t words).l=p.l++[t]:=by unfold Qi.more;split<;>rfl
     rw[e] at a
     obtain⟨-,-,f,-,m,-⟩:=Qd.at_some ha
     rcases Nat.lt_or_ge i p.l.length with d | d
     ·rw[XP d] at a;exact G f p i u x m a c
     ·rw[XQ d] at a
      have:=(Zi a).1
      have g:i - p.l.length=0:=by simp at this;omega
      rw[g] at a
      simp at a
      subst a;exact j x c
    ·exact G k q i u x b a c
theorem HGd.set (G:HGd h) (v:Qj) (k:Int){x:Qj}(o:gdV x):HGd (h.set v k x).2:=by
 unfold Qd.set;split
 ·rename_i t p r n
  split
  ·exact G
  split
  ·exact G
  intro j q i u y f a g;simp only at f
  obtain⟨-,w,d,s,b,-⟩:=Qd.thing_iff.1 r
  rw[n] at d
  cases d
  have c:=(Qd.place_some n).2.1;rcases Qbf f with rfl | f
  ·simp only at a
   by_cases e:i=v.thing.toNat
   ·subst e;have l:=(Zi b).1;simp[l] at a
    subst a;rcases List.mem_or_eq_of_mem_set g with m | m
    ·exact G _ p _ t y c b m
    ·rw[m];exact o
   ·rw[List.getElem?_set_ne (Ne.symm e)] at a
    exact G _ p i u y c a g
  ·exact G j q i u y f a g
 ·exact G
theorem HGd.get (G:HGd h) (v:Qj) (k:Int):gdV (h.get v k).1:=by
 unfold Qd.get
 cases ht:h.thing v with
 | none=>exact gd_no
 | some t =>
   simp only
   split
   ·exact gd_no
   ·cases hx:t.l[k.toNat]? with
    | none=>exact gd_no
    | some x =>
      obtain⟨-,p,a,-,b,-⟩:=Qd.thing_iff.1 ht
      exact G _ p _ t x (Qd.place_some a).2.1 b (Zm hx)
theorem Qlb (B:HB n h) (hn:n<=900000):gdV h.open_.1:=by
 have:=B.ok.len
 unfold Qd.open_;split
 ·exact gd_no
 ·exact⟨⟨two64,by unfold Zp;simp only;omega,zero64,zero64⟩,Z⟩
theorem Qmq (B:HB n h) (hn:n<=900000){v:Qj}(a:v.ok) (t:Qq) (words:Int):gdV (h.put v t words).1:=by
 unfold Qd.put
 cases ha:h.at v with
 | none=>exact gd_no
 | some p =>
   have:=(B.ok.of ha).1
   simp only
   split
   ·exact gd_no
   ·cases t.arr
    ·exact⟨⟨(by unfold Zp;decide:Zp 3),a.2.1,by unfold Zp;simp only;omega,zero64⟩,Z⟩
    ·exact⟨⟨(by unfold Zp;decide:Zp 4),a.2.1,by unfold Zp;simp only;omega,zero64⟩,Z⟩
theorem HB.put (B:HB n h) (v:Qj) (t:Qq)(a:0<=words/\words<=17) (b:t.l.length<=17):HB (n+20) (h.put v t words).2.2 :=
 ⟨(B.ok.put v t (M:=17) a).mono (by omega),QdA.put (B.len.mono (by omega)) v t words (by omega),by rw[QgG];exact B.live⟩
end
structure IOk (m:List (MFunc 6)) (n:Nat) (M:IM):Prop where
 hb:HB n M.h
 hg:HGd M.h
 fr:∀ d∈M.top::M.rest,(∀ v∈d.v,gdV v)/\d.v.length<=n+8/\d.r.length<=n+16/\∃ fn bl,m[d.f]?=some fn/\fn.blocks[d.b]?=some bl/\d.i<=bl.code.length
 inp:M.inp.length<=1000/\∀ k∈M.inp,Zp k
 out:M.out.length<=2000/\(∀ x∈M.out,Zp x)/\M.back.length<=8
 deep:M.rest.length<=39
def M64 (m:List (MFunc 6)):Prop:=∀ fn∈m,∀ bl∈fn.blocks,∀ x∈bl.code,Zp x.n
section
variable {m:List (MFunc 6)}{n n':Nat}{M M':IM}{x:Qv}
theorem IOk.mono (I:IOk m n M) (h:n<=n'):IOk m n' M:=⟨I.hb.mono h,I.hg,fun d a=>⟨(I.fr d a).1,by have:=(I.fr d a).2.1;omega,by have:=(I.fr d a).2.2.1;omega,(I.fr d a).2.2.2⟩,I.inp,I.out,I.deep⟩
theorem IOk.sok (I:IOk m n M) (hn:n<=900000):Qai n M where
 hb:=I.hb
 hn:=hn
 gd:=(I.fr M.top (by simp)).1
 len:=by have:=(I.fr M.top (by simp)).2.1;omega
 regs:=by have:=(I.fr M.top (by simp)).2.2.1;omega
 inp:=by have:=I.inp.1;omega
 out:=I.out.1
theorem IOk.over (I:IOk m n M) (k:Int):IOk m n (M.over k):=⟨I.hb,I.hg,I.fr,I.inp,I.out,I.deep⟩
theorem IOk.push (I:IOk m n M){l:List Qj}(f:∀ v∈l,gdV v) (j:l.length<=8):IOk m (n+8) (M.push l):=by
 refine⟨I.hb.mono (by omega),I.hg,fun d a=>?_,I.inp,I.out,I.deep⟩
 rcases List.mem_cons.1 a with rfl | a
 ·obtain⟨c,e,g,b⟩:=I.fr M.top (by simp)
  refine⟨fun v i=>?_,?_,by show M.top.r.length<=_;omega,b⟩
  ·rcases List.mem_append.1 i with h | h
   ·exact c v h
   ·exact f v h
  ·show (M.top.v++l).length<=_;rw[List.length_append]
   omega
 ·obtain⟨c,e,g,b⟩:=I.fr d (List.mem_cons_of_mem _ a)
  exact⟨c,by omega,by omega,b⟩
theorem IOk.heap (I:IOk m n M){h':Qd}(hb:HB (n+20) h') (b:HGd h'):IOk m (n+20) ({ M with h:=h' }:IM):=⟨hb,b,fun d a=>by have:=I.fr d a;exact⟨this.1,by omega,by omega,this.2.2.2⟩,I.inp,I.out,I.deep⟩
theorem IOk.val (I:IOk m n M){a:Int}{v:Qj}(h:Qz M.top.v a=some v):gdV v:=(I.fr M.top (by simp)).1 v (Qa5 h)
theorem IOk.num (I:IOk m n M){a:Int}{k:Int}(h:Qu M.top.v a=some k):Zp k:=by
 unfold Qu at h
 cases e:Qz M.top.v a with
 | none=>rw[e] at h;cases h
 | some v =>
   rw[e] at h
   simp only at h
   split at h
   ·cases h;exact(I.val e).1.2.2.2
   ·cases h
theorem IOk.vals (I:IOk m n M){xs:List Qj}(h:Qp M.top.v l=some xs):∀ v∈xs,gdV v:=fun v a=>(I.fr M.top (by simp)).1 v (Qb4 h v a)
def OkO (m:List (MFunc 6)) (n:Nat) (o:Option IM):Prop:=∀ N,o=some N->IOk m n N
theorem OkO.no:OkO m n none:=fun N h=>by cases h
theorem OkO.some (I:IOk m n M):OkO m n (some M):=fun N h=>by cases h;exact I
theorem OkO.ite {c:Prop}[Decidable c] {a b:Option IM}(e:c->OkO m n a) (d:¬ c->OkO m n b):OkO m n (if c then a else b):=by
 by_cases h:c
 ·rw[Xs h];exact e h
 ·rw[Xr h];exact d h
theorem QkN (I:IOk m n M) (hn:n<=900000){v:Qj}(e:v.ok){t:Qq}(d:∀ u∈t.l,gdV u) (c:t.l.length<=17)(b:0<=words/\words<=17):OkO m (n+28) (M.got (M.h.put v t words)) :=
 OkO.ite (fun _=>OkO.some ((I.over 6).mono (by omega))) fun _=>OkO.ite (fun _=>OkO.some (by
  have:=(I.heap (I.hb.put v t b c) (I.hg.put v d words)).push (l:=[(M.h.put v t words).1]) (fun u a=>by simp at a;subst a;exact Qmq I.hb hn e t words) (by simp)
  exact this)) (fun _=>OkO.no)
theorem QlC (I:IOk m n M) (hn:n<=900000) (j:x.op=5->x.args.length<=8):OkO m (n+28) (M.mem x):=by
 unfold IM.mem
 cases ha:Qz M.top.v x.a with
 | none=>exact OkO.no
 | some a =>
   have i:=I.val ha;have d:∀ {v:Qj},gdV v->OkO m (n+28) (some (M.push [v])):=fun f=>OkO.some ((I.push (fun u e=>by simp at e;subst e;exact f) (by simp)).mono (by omega));have g:∀ k,OkO m (n+28) (some (M.over k)):=fun k=>OkO.some ((I.over k).mono (by omega));simp only
   refine OkO.ite (fun _=>OkO.ite (fun _=>OkO.some ((I.heap (h':=(M.h.shut a).2) ((I.hb.shut a).mono (by omega)) (I.hg.shut a)).mono (by omega))) (fun _=>OkO.no)) fun _=>OkO.ite (fun o=>?_) fun _=>OkO.ite (fun _=>?_) fun _=>OkO.ite (fun _=>OkO.ite (fun _=>d (I.hg.get a x.k)) (fun _=>OkO.no)) fun _=>OkO.ite (fun _=>?_) fun _=>OkO.ite (fun _=>?_) fun _=>OkO.ite (fun _=>?_) fun _=>OkO.ite (fun _=>d (QbX ?_)) (fun _=>OkO.no)
   ·cases f:Qp M.top.v x.args with
    | none=>exact OkO.no
    | some l =>
      have r:=Q8 _ _ f;have q:=j o;exact QkN I hn i.1 (t:=⟨false,l⟩) (I.vals f) (by show l.length<=17;omega) (by split<;>omega)
   ·cases hb:Qu M.top.v x.b with
    | none=>exact OkO.no
    | some k =>
      refine OkO.ite (fun _=>g 3) (fun p=>?_);unfold Qd.array;rw[Xr p]
      exact QkN I hn i.1 (t:=⟨true,List.replicate k.toNat (Qa9 0)⟩) (fun u e=>by have:=List.eq_of_mem_replicate e;subst this;exact QbX (by unfold Zp;decide)) (by show (List.replicate k.toNat (Qa9 0)).length<=17;rw[List.length_replicate];omega) (by omega)
   ·cases hb:Qz M.top.v x.b with
    | none=>exact OkO.no
    | some y=>exact OkO.ite (fun _=>OkO.some ((I.heap (h':=(M.h.set a x.k y).2) ((I.hb.set a x.k y).mono (by omega)) (I.hg.set a x.k (I.val hb))).mono (by omega))) (fun _=>OkO.no)
   ·cases hb:Qu M.top.v x.b with
    | none=>exact OkO.no
    | some k=>exact OkO.ite (fun _=>OkO.ite (fun _=>g 2) fun _=>OkO.ite (fun _=>d (I.hg.get a k)) (fun _=>OkO.no)) (fun _=>OkO.no)
   ·cases hb:Qu M.top.v x.b with
    | none=>exact OkO.no
    | some k=>cases hc:Qu M.top.v x.c with
      | none=>exact OkO.no
      | some z=>exact OkO.ite (fun _=>OkO.ite (fun _=>g 2) fun _=>OkO.ite (fun _=>OkO.some ((I.heap (h':=(M.h.set a k (Qa9 z)).2) ((I.hb.set a k (Qa9 z)).mono (by omega)) (I.hg.set a k (QbX (I.num hc)))).mono (by omega))) (fun _=>OkO.no)) (fun _=>OkO.no)
   ·unfold Qd.len
    cases ht:M.h.thing a with
    | none=>unfold Zp;decide
    | some t=>have:=I.hb.len.thing ht;unfold Zp;simp only;omega
end
section
variable {m:List (MFunc 6)}{n n':Nat}{M M':IM}{x:Qv}{fn:MFunc 6}{bl:MBlock 6}{op:Int->Int->Int->Option Int}
theorem Qdd {a:Nat}(h:x.form a=0):(1<=x.op/\x.op<=14)/\(x.op=5->x.args.length<=8)/\(x.op=14->0<=x.k/\x.k<(a:Int)/\x.regs.length<=6/\x.args.length<=8):=by
 unfold Qv.form at h;split at h
 ·cases h
 rename_i b
 split at h
 ·cases h
 split at h
 ·cases h
 split at h
 ·cases h
 rename_i d
 split at h
 ·cases h
 split at h
 ·cases h
 rename_i f
 split at h
 ·cases h
 rename_i c
 refine⟨?_,fun e=>by omega,fun e=>by omega⟩
 unfold Zo at b;by_cases e:1<=x.op/\x.op<=14
 ·exact e
 ·exfalso
  apply b
  repeat' rw[Xr (by omega)]
  rfl
theorem Qd3 {v:List Qj}:∀ {l:List Int}{ns:List Int},Qat v l=some ns->ns.length=l.length
 | [],ns,h=>by simp[Qat] at h;subst h;rfl
 | k::l,ns,h=>by
   unfold Qat at h
   cases hk:Qu v k with
   | none=>rw[hk] at h;cases h
   | some y =>
     rw[hk] at h
     simp only at h
     cases hl:Qat v l with
     | none=>rw[hl] at h;cases h
     | some zs=>rw[hl] at h;simp at h;subst h;simp[Qd3 hl]
theorem Qku (I:IOk m n M) (c:(modFault m).1=0) (i:0<=x.k/\x.k<(m.length:Int)/\x.regs.length<=6/\x.args.length<=8):OkO m n (M.call m x):=by
 unfold IM.call
 cases hr:Zh M.top.r x.regs with
 | none=>exact OkO.no
 | some r =>
   cases hv:Qp M.top.v x.args with
   | none=>exact OkO.no
   | some v =>
     cases hf:m[x.k.toNat]? with
     | none=>exact OkO.no
     | some f =>
       refine OkO.ite (fun _=>OkO.ite (fun _=>OkO.some (I.over 5)) (fun h=>OkO.some ?_)) (fun _=>OkO.no);obtain⟨g,b,-⟩:=Qbr c hf
       have j:=Q8 _ _ hv;have e:=Qav hr;refine⟨I.hb,I.hg,fun d a=>?_,I.inp,I.out,by show (M.top::M.rest).length<=39;have:=I.deep;simp;omega⟩
       rcases List.mem_cons.1 a with rfl | a
       ·exact⟨I.vals hv,by show v.length<=_;omega,by show r.length<=_;omega,f,g,hf,b,Xb _⟩
       ·exact I.fr d a
theorem Qh4 (I:IOk m n M) (hn:n<=900000) (A:(modFault m).1=0) (s:∀ k a b c,op k a b=some c->Zp a->Zp b->Zp c) (B:x.form m.length=0) (z:Zp x.n):OkO m (n+28) (IM.ins m op M x):=by
 obtain⟨-,D,w⟩:=Qdd B
 have i:∀ {v:Qj},gdV v->OkO m (n+28) (some (M.push [v])):=fun F=>OkO.some ((I.push (fun u f=>by simp at f;subst f;exact F) (by simp)).mono (by omega));have o:∀ k,OkO m (n+28) (some (M.over k)):=fun k=>OkO.some ((I.over k).mono (by omega));unfold IM.ins;refine OkO.ite (fun _=>i (QbX z)) fun _=>OkO.ite (fun _=>?_) fun _=>OkO.ite (fun _=>OkO.ite (fun _=>OkO.some ?_) (fun _=>o 6)) fun _=>OkO.ite (fun _=>?_) fun _=>OkO.ite (fun _=>?_) fun _=>OkO.ite (fun e=>fun N h=>(Qku I A (w e) N h).mono (by omega)) (fun _=>QlC I hn D)
 ·cases ha:Qu M.top.v x.a with
  | none=>exact OkO.no
  | some a =>
    cases hb:Qu M.top.v x.b with
    | none=>exact OkO.no
    | some b =>
      simp only
      cases ho:op x.k a b with
      | none=>exact o 1
      | some c=>exact i (QbX (s _ _ _ _ ho (I.num ha) (I.num hb)))
 ·have J:IOk m (n+20) { M with h:=M.h.open_.2.2,top:={ M.top with r:=M.top.r++[M.h.open_.1.region] } }:=by
   refine⟨I.hb.open.mono (by omega),I.hg.open,fun d p=>?_,I.inp,I.out,I.deep⟩
   rcases List.mem_cons.1 p with rfl | p
   ·obtain⟨g,C,E,t⟩:=I.fr M.top (by simp)
    exact⟨g,by show M.top.v.length<=_;omega,by show (M.top.r++[_]).length<=_;rw[List.length_append];simp;omega,t⟩
   ·obtain⟨g,C,E,t⟩:=I.fr d (List.mem_cons_of_mem _ p)
    exact⟨g,by omega,by omega,t⟩
  exact(J.push (l:=[M.h.open_.1]) (fun u f=>by simp at f;subst f;exact Qlb I.hb hn) (by simp)).mono (by omega)
 ·cases hi:M.inp with
  | nil=>exact o 4
  | cons k l =>
    have j:=I.inp;rw[hi] at j
    have J:IOk m n { M with inp:=l }:=⟨I.hb,I.hg,I.fr,⟨by have:=j.1;simp at this;show l.length<=1000;omega,fun y q=>j.2 y (by simp[q])⟩,I.out,I.deep⟩;exact OkO.some ((J.push (l:=[Qa9 k]) (fun u f=>by simp at f;subst f;exact QbX (j.2 k (by simp))) (by simp)).mono (by omega))
 ·cases ha:Qu M.top.v x.a with
  | none=>exact OkO.no
  | some a=>exact OkO.ite (fun _=>o 8) (fun h=>OkO.some (IOk.mono ⟨I.hb,I.hg,I.fr,I.inp,⟨by have:=I.out.1;show (M.out++[a]).length<=2000;simp;omega,fun y q=>by rcases List.mem_append.1 q with g | g;exact I.out.2.1 y g;simp at g;subst g;exact I.num ha,I.out.2.2⟩,I.deep⟩ (by omega)))
theorem QiW (I:IOk m n M) (e:m[M.top.f]?=some fn){t:MTo}(h:t.regs.length<=16/\t.args.length<=8):OkO m n (IM.to fn M t):=by
 unfold IM.to
 cases hb:fn.blocks[t.block.toNat]? with
 | none=>exact OkO.no
 | some b =>
   cases hr:Zh M.top.r t.regs with
   | none=>exact OkO.no
   | some r =>
     cases hv:Qp M.top.v t.args with
     | none=>exact OkO.no
     | some v =>
       refine OkO.ite (fun _=>OkO.some ?_) (fun _=>OkO.no);have g:=Q8 _ _ hv;have c:=Qav hr;refine⟨I.hb,I.hg,fun d a=>?_,I.inp,I.out,I.deep⟩
       rcases List.mem_cons.1 a with rfl | a
       ·exact⟨I.vals hv,by show v.length<=_;omega,by show r.length<=_;omega,fn,b,e,hb,Xb _⟩
       ·exact I.fr d (List.mem_cons_of_mem _ a)
theorem Qkf (I:IOk m n M) (b:m[M.top.f]?=some fn){e:Z0}(o:e.form fn.blocks.length=0):OkO m (n+28) (IM.endd fn M e):=by
 obtain⟨r,j,i,g⟩:=Qfo o
 unfold IM.endd;refine OkO.ite (fun s=>fun N h=>(QiW I b (by have:=QbU (i (by omega));omega) N h).mono (by omega)) fun _=>OkO.ite (fun p=>?_) fun _=>?_
 ·cases Qu M.top.v e.a with
  | none=>exact OkO.no
  | some k=>exact OkO.ite (fun _=>fun N h=>(QiW I b (by have:=QbU (g p);omega) N h).mono (by omega)) (fun _=>fun N h=>(QiW I b (by have:=QbU (i (by omega));omega) N h).mono (by omega))
 ·cases hv:Qp M.top.v e.args with
  | none=>exact OkO.no
  | some v =>
    refine OkO.ite (fun _=>?_) (fun _=>OkO.no);have q:=Q8 _ _ hv
    cases hr:M.rest with
    | nil =>
      cases hnk:Qat M.top.v e.args with
      | none=>exact OkO.no
      | some k =>
        have J:IOk m n { M with back:=k }:=⟨I.hb,I.hg,I.fr,I.inp,⟨I.out.1,I.out.2.1,by show k.length<=8;rw[Qd3 hnk];exact j⟩,I.deep⟩
        have:=J.over 0
        rw[hr] at this
        exact OkO.some (this.mono (by omega))
    | cons d rest =>
      have J:IOk m n { M with top:=d,rest:=rest }:=⟨I.hb,I.hg,fun c l=>I.fr c (by rw[hr];exact List.mem_cons_of_mem _ l),I.inp,I.out,by have:=I.deep;rw[hr] at this;simp at this;show rest.length<=39;omega⟩;exact OkO.some ((J.push (I.vals hv) (by omega)).mono (by omega))
theorem QjP (I:IOk m n M) (hn:n<=900000) (p:(modFault m).1=0) (l:M64 m) (j:∀ k a b c,op k a b=some c->Zp a->Zp b->Zp c):OkO m (n+28) (IM.step m op most M):=by
 unfold IM.step;refine OkO.ite (fun _=>OkO.some ((I.over 7).mono (by omega))) fun _=>?_;obtain⟨-,-,-,o,f,e,g,v⟩:=I.fr M.top (by simp)
 rw[e]
 simp only
 rw[g]
 simp only
 have u:=(ZC p).2 o (Zm e);have q:=u.blocks f (Zm g)
 cases hx:f.code[M.top.i]? with
 | none =>
   have J:IOk m n { M with fuel:=M.fuel+1 }:=⟨I.hb,I.hg,I.fr,I.inp,I.out,I.deep⟩;exact Qkf J e q.fin
 | some x =>
   have J:IOk m n { M with fuel:=M.fuel+1,top:={ M.top with i:=M.top.i+1 } }:=by
    refine⟨I.hb,I.hg,fun d h=>?_,I.inp,I.out,I.deep⟩
    rcases List.mem_cons.1 h with rfl | h
    ·obtain⟨s,r,t,-⟩:=I.fr M.top (by simp)
     exact⟨s,r,t,o,f,e,g,(Zi hx).1⟩
    ·exact I.fr d (List.mem_cons_of_mem _ h)
   exact Qh4 J hn p j (q.code x (Zm hx)) (l o (Zm e) f (Zm g) x (Zm hx))
theorem QeL (e:(modFault m).1=0)(hi:inp.length<=1000/\∀ k∈inp,Zp k)(j:pages<=1000):IOk m 0 (IM.start inp pages):=by
 have h:=(ZC e).1.1;obtain⟨a,f⟩:∃ a,m[0]?=some a:=⟨_,Zg h⟩
 obtain⟨g,b,-⟩:=Qbr e f
 refine⟨HB.new pages (by omega),HGd.new pages,fun d c=>?_,hi,⟨by simp[IM.start],by simp[IM.start],by simp[IM.start]⟩,by simp[IM.start]⟩
 simp only[IM.start,List.mem_cons,List.not_mem_nil,or_false] at c
 subst c;exact⟨fun v i=>by simp at i,by simp,by simp,a,g,f,b,Xb _⟩
def IM.bump (M:IM):IM:={ M with top:={ M.top with i:=M.top.i+1 } }
def BuO (o o':Option IM):Prop:=o'=o.map IM.bump
theorem BuO.eq:BuO (some M) (some M.bump):=rfl
theorem BuO.no:BuO none none:=rfl
theorem BuO.ite {c:Prop}[Decidable c] {a a' b d:Option IM}(f:c->BuO a a') (e:¬ c->BuO b d):BuO (if c then a else b) (if c then a' else d):=by
 by_cases h:c
 ·rw[Xs h,Xs h];exact f h
 ·rw[Xr h,Xr h];exact e h
theorem Qg2 {q:Qj × Int × Qd}:BuO (M.got q) (M.bump.got q):=BuO.ite (fun _=>rfl) fun _=>BuO.ite (fun _=>rfl) (fun _=>rfl)
theorem mem_bump:BuO (M.mem x) (M.bump.mem x):=by
 unfold IM.mem;have e:M.bump.top.v=M.top.v:=rfl;have d:M.bump.h=M.h:=rfl;rw[e,d]
 cases Qz M.top.v x.a with
 | none=>rfl
 | some a =>
   simp only
   refine BuO.ite (fun _=>BuO.ite (fun _=>rfl) (fun _=>rfl)) fun _=>BuO.ite (fun _=>?_) fun _=>BuO.ite (fun _=>?_) fun _=>BuO.ite (fun _=>BuO.ite (fun _=>rfl) (fun _=>rfl)) fun _=>BuO.ite (fun _=>?_) fun _=>BuO.ite (fun _=>?_) fun _=>BuO.ite (fun _=>?_) fun _=>BuO.ite (fun _=>rfl) (fun _=>rfl)
   ·cases Qp M.top.v x.args with
    | none=>rfl
    | some l=>exact Qg2
   ·cases Qu M.top.v x.b with
    | none=>rfl
    | some k=>exact BuO.ite (fun _=>rfl) (fun _=>Qg2)
   ·cases Qz M.top.v x.b with
    | none=>rfl
    | some y=>exact BuO.ite (fun _=>rfl) (fun _=>rfl)
   ·cases Qu M.top.v x.b with
    | none=>rfl
    | some k=>exact BuO.ite (fun _=>BuO.ite (fun _=>rfl) fun _=>BuO.ite (fun _=>rfl) (fun _=>rfl)) (fun _=>rfl)
   ·cases Qu M.top.v x.b with
    | none=>rfl
    | some k=>cases Qu M.top.v x.c with
      | none=>rfl
      | some z=>exact BuO.ite (fun _=>BuO.ite (fun _=>rfl) fun _=>BuO.ite (fun _=>rfl) (fun _=>rfl)) (fun _=>rfl)
theorem Qka (c:x.op≠14):BuO (IM.ins m op M x) (IM.ins m op M.bump x):=by
 unfold IM.ins;have i:M.bump.top.v=M.top.v:=rfl;have f:M.bump.h=M.h:=rfl;have d:M.bump.inp=M.inp:=rfl;have g:M.bump.out=M.out:=rfl;rw[i,f,d,g]
 refine BuO.ite (fun _=>rfl) fun _=>BuO.ite (fun _=>?_) fun _=>BuO.ite (fun _=>BuO.ite (fun _=>rfl) (fun _=>rfl)) fun _=>BuO.ite (fun _=>?_) fun _=>BuO.ite (fun _=>?_) fun _=>BuO.ite (fun e=>absurd e c) (fun _=>mem_bump)
 ·cases Qu M.top.v x.a with
  | none=>rfl
  | some a=>cases Qu M.top.v x.b with
    | none=>rfl
    | some b =>
      simp only
      cases op x.k a b<;>rfl
 ·cases M.inp<;>rfl
 ·cases Qu M.top.v x.a with
  | none=>rfl
  | some k=>exact BuO.ite (fun _=>rfl) (fun _=>rfl)
theorem Qjl (b:M.done=false):IM.call m M.bump x=(IM.call m M x).map fun N=>if N.done then N.bump else { N with rest:=M.bump.top::M.rest }:=by
 unfold IM.call;have e:M.bump.top.v=M.top.v:=rfl;have d:M.bump.top.r=M.top.r:=rfl;have c:M.bump.rest=M.rest:=rfl;rw[e,d,c]
 cases Zh M.top.r x.regs with
 | none=>rfl
 | some r=>cases Qp M.top.v x.args with
   | none=>rfl
   | some v=>cases m[x.k.toNat]? with
     | none=>rfl
     | some f =>
       simp only
       by_cases h:(r.length:Int)=f.regs/\v.length=f.params.length
       ·rw[Xs h,Xs h]
        by_cases a:M.rest.length+1=40
        ·rw[Xs a,Xs a];rfl
        ·rw[Xr a,Xr a]
         simp[b,IM.bump]
       ·rw[Xr h,Xr h];rfl
end
structure IM.like (N M:IM):Prop where
 h:N.h=M.h
 out:N.out=M.out
 back:N.back=M.back
 fuel:N.fuel=M.fuel
 fin:N.fin=M.fin
 done:N.done=M.done
theorem IM.like.refl (M:IM):M.like M:=⟨Z,Z,Z,Z,Z,Z⟩
def QkY (g:MG) (w:World) (b most:Nat) (m:List (MFunc 6)) (M:IM) (sc sa:Int) (r:Option IM) (e:Ending) (w':World):Prop:=match r with
 | none=>e=.panicked stuckP/\XTo g w w' b most m { M with fuel:=M.fuel+1 } sc sa
 | some M'=>(e=.returned (.tuple #[])/\XGo g w w' b most m M' sc sa)\/(∃ N k,e=.panicked (QkR k)/\XTo g w w' b most m N sc sa/\(N.over k).like M')
def MakeArr:Prop:=∀ {w:World}{b most n:Nat}{m:List (MFunc 6)}{M:IM}{sc sa:Int}{g:MG}(x:Qv),MAt w b most m M sc sa g->Qai n M->x.op=8 ->
 Calls prog 145 #[Pv b 0,Pv g.t.c 0,Iv x.a,Iv x.b] w fun e w'=>Ql g w b most m M sc sa (M.mem x) e w'
def Qoj (b fu most:Nat) (t:Tmp) (v:Value) (w:World):Prop :=
 v=(([(0,Pv b 0),(4,Pv b 0),(5,Pv b 0),(6,Pv b 5),(7,Pv b 8),(8,Iv (fu:Int)),(9,Pv b 0),(10,Pv b 0),(11,Pv b 3),(12,Iv (most:Int)),(13,.bool (decide ((fu:Int)<most)))]:List (Tmp × Value)).lookup t).getD undef
theorem is0 {b g most:Nat}(l:w6.cell? ⟨b,8,none⟩=some (Iv (g:Int))) (k:w6.cell? ⟨b,3,none⟩=some (Iv (most:Int))){Q:Exit->Act->World->Prop}
 (a:Act) (m:Nat) (hn:a.tmps.size=m) (e:59<=m) (j:a.tmps.getD 0 undef=Pv b 0)
 (hend:∀ ops vs w',vs 13=.bool (decide ((g:Int)<most))->Below w6.heap.size w6 w'->wpList prog ops Q (QaR 10 ((Tryz.f54.body.bind (Qg 0)).getD .skip)) (QI a vs [4,5,6,7,8,9,10,11,12,13]) w') :
 Code.wp prog ((Tryz.f54.body.bind (Qg 0)).getD .skip) Q a w6:=by
 conv=>arg 2;whnf
 refine Qm 10 (Qoj b g most) (fun w=>Below w6.heap.size w6 w) (fun w w'=>Below w.heap.size w w') (outs:=[0]) (gs:=[]) (bs:=[true,true,true,true,true,true,true,true,true,true]) (by kernel_rfl) (n:=59) hn e (by kernel_rfl) (by kernel_rfl) ?hR ?hG (Qs Zr 1) ⟨j,Y⟩ ?hA ?hend
 case hR=>exact fun t v w w' _ h=>h
 case hG=>exact Y
 case hend=>exact fun ops vs w' c d=>hend ops vs w' (d 13 (by kernel_rfl)) c
 case hA =>
  repeat
   refine⟨fun a w c d K i=>?_,?_⟩
   focus first
    | obtain⟨f,-⟩:=d
      conv at f=>whnf;rhs;whnf
      have p:=Qo l c;have q:=Qo k c;go_simp;exact i _ _ Zr c Z
    | obtain⟨f,o,-⟩:=d
      conv at f=>whnf;rhs;whnf
      conv at o=>whnf;rhs;whnf
      go_simp;refine i _ _ Zr c ?_;show Value.bool _=Value.bool _;congr 1
      first | rfl | (rw[decide_eq_decide];omega)
  trivial
def Qoz (c Z nc cc i:Nat) (pc:Option Addr) (t:Tmp) (v:Value) (w:World):Prop :=
 v=(([(2,Pv c 0),(3,Pv Z 0),(28,Pv c 0),(29,Pv c 0),(30,Pv c 2),(31,Iv (i:Int)),(32,Pv Z 2),(33,.slice pc nc cc),(34,Iv (nc:Int)),(35,.bool ((i:Int)==(nc:Int)))]:List (Tmp × Value)).lookup t).getD undef
theorem is3 {Z f o:Nat}{l:Option Addr}(s:w6.cell? ⟨c,2,none⟩=some (Iv (i:Int))) (p:w6.cell? ⟨Z,2,none⟩=some (.slice l f o))
 (a:Act) (m:Nat) (hn:a.tmps.size=m) (g:59<=m) (q:a.tmps.getD 2 undef=Pv c 0) (r:a.tmps.getD 3 undef=Pv Z 0) :
 Code.wp prog ((Tryz.f54.body.bind (Qg 3)).getD .skip) (fun e a' w'=>e=.normal/\∃ vs,a'=QI a vs [28,29,30,31,32,33,34,35]/\vs 35=.bool ((i:Int)==(f:Int))/\Below w6.heap.size w6 w') a w6:=by
 conv=>arg 2;whnf
 refine QV (Qoz c Z f o i l) (fun w=>Below w6.heap.size w6 w) (fun w w'=>Below w.heap.size w w') (outs:=[2,3]) (gs:=[]) (bs:=[true,true,true,true,true,true,true,true]) (by kernel_rfl) (n:=59) hn g (by kernel_rfl) ?hR ?hG (Qs Zr 1) ⟨q,r,Y⟩ ?hA ?hend
 case hR=>exact fun t v w w' _ h=>h
 case hG=>exact Y
 case hend=>exact fun vs w' b d=>⟨Yz,vs,Yz,d 35 (by kernel_rfl),b⟩
 case hA =>
  repeat
   refine⟨fun a w b d K k=>?_,?_⟩
   focus first
    | obtain⟨j,-⟩:=d
      conv at j=>whnf;rhs;whnf
      have x:=Qo s b;have y:=Qo p b;go_simp;exact k _ _ Zr b Yz
    | obtain⟨j,u,-⟩:=d
      conv at j=>whnf;rhs;whnf
      conv at u=>whnf;rhs;whnf
      go_simp;exact k _ _ Zr b Yz
  trivial
def Qol (b c Z gc oc nc cc i:Nat) (x:Qv) (ip:IP) (t:Tmp) (v:Value) (w:World):Prop :=
 v=(([(0,Pv b 0),(2,Pv c 0),(3,Pv Z 0),(41,Pv b 0),(42,Pv c 0),(43,Pv Z 2),(44,.slice (some ⟨gc,oc,none⟩) nc cc),(45,Pv c 0),(46,Pv c 0),(47,Pv c 2),(48,Iv (i:Int)),(49,Pv gc (oc+i*8)),(50,.agg (QY x ip))]:List (Tmp × Value)).lookup t).getD undef
theorem is5 {b Z g oc l q:Nat}{x:Qv}{k:IP}(C:w6.cell? ⟨Z,2,none⟩=some (.slice (some ⟨g,oc,none⟩) l q)) (B:w6.cell? ⟨c,2,none⟩=some (Iv (i:Int))) (y:Hid (w6.rangeAt g (oc+i*8) (QY x k).toList)) (hi:(i:Int)<l){Q:Exit->Act->World->Prop}
 (a:Act) (m:Nat) (hn:a.tmps.size=m) (p:59<=m) (u:a.tmps.getD 0 undef=Pv b 0) (z:a.tmps.getD 2 undef=Pv c 0) (A:a.tmps.getD 3 undef=Pv Z 0)
 (hend:∀ ops vs w',vs 41=Pv b 0->vs 42=Pv c 0->vs 50=.agg (QY x k)->Below w6.heap.size w6 w'->wpList prog ops Q (QaR 10 ((Tryz.f54.body.bind (Qg 5)).getD .skip)) (QI a vs [41,42,43,44,45,46,47,48,49,50]) w') :
 Code.wp prog ((Tryz.f54.body.bind (Qg 5)).getD .skip) Q a w6:=by
 conv=>arg 2;whnf
 refine Qm 10 (Qol b c Z g oc l q i x k) (fun w=>Below w6.heap.size w6 w) (fun w w'=>Below w.heap.size w w') (outs:=[0,2,3]) (gs:=[]) (bs:=[true,true,true,true,true,true,true,true,true,true]) (by kernel_rfl) (n:=59) hn p (by kernel_rfl) (by kernel_rfl) ?hR ?hG (Qs Zr 1) ⟨u,z,A,Y⟩ ?hA ?hend
 case hR=>exact fun t v w w' _ h=>h
 case hG=>exact Y
 case hend=>exact fun ops vs w' d e=>hend ops vs w' (e 41 (by kernel_rfl)) (e 42 (by kernel_rfl)) (e 50 (by kernel_rfl)) d
 case hA =>
  repeat
   refine⟨fun a w d e K o=>?_,?_⟩
   focus first
    | obtain⟨f,-⟩:=e
      conv at f=>whnf;rhs;whnf
      have D:=Qo C d;have E:=Qo B d;go_simp;exact o _ _ Zr d Yz
    | obtain⟨f,-⟩:=e
      conv at f=>whnf;rhs;whnf
      refine wp_load_mid 78 (.tmp 49) Yz g (oc+i*8) f (QY x k).toList _ (fun j v r=>Qo (y.out j v r) d) underlying78 Yz pSizeN ?_;exact o _ _ Zr d Yz
    | obtain⟨f,s,-⟩:=e
      conv at f=>whnf;rhs;whnf
      conv at s=>whnf;rhs;whnf
      go_simp;exact o _ _ Zr d Yz
  trivial
section
variable {w w' w2:World}{b most n:Nat}{m:List (MFunc 6)}{M M' N:IM}{sc sa:Int}{g g1:MG}{e:Ending}
theorem MAt.fuelC (S:MAt w b most m M sc sa g):XTo g w (w.setCell ⟨b,8,none⟩ (Iv ((M.fuel:Int)+1))) b most m { M with fuel:=M.fuel+1 } sc sa:=by
 refine S.reBox (M':={ M with fuel:=M.fuel+1 }) (sc':=sc) (sa':=sa) Z Z Z (by simp) (fun k a c=>Xd _ _ _ _ c) ⟨Z,Z,Z,Z⟩ (pi:=g.pi) (ci:=g.ci) (vb:=g.vb) ⟨S.inp,S.inpC⟩ (Zw (fun k a d=>Xd _ _ _ _ (fun (e:k=b)=>a (e ▸ S.ob.1))) (fun _ h _=>h) S.back) ?_;rw[Qh S.box 8 _]
 simp
theorem Qj1 (l:MakeArr) (S:MAt w b most m M sc sa g) (I:Qai n M){x:Qv}(a:IP)(hi:IIn w Q2 x a) (f:x.form m.length=0) (k:x.op≠14) :
 Calls prog 88 #[Pv b 0,Pv g.t.c 0,.agg (QY x a)] w fun e w'=>Ql g w b most m M sc sa (IM.ins m aOp M x) e w':=by
 obtain⟨o,j,-⟩:=Qdd f
 have d:x.op=1\/x.op=2\/x.op=3\/x.op=4\/x.op=5\/x.op=6\/x.op=7\/x.op=8\/x.op=9\/x.op=10\/x.op=11\/x.op=12\/x.op=13:=by omega
 rcases d with h | h | h | h | h | h | h | h | h | h | h | h | h
 ·exact Qnz S I a h
 ·exact Qnj S I a h
 ·exact Qnl S I a h
 ·exact Qnc S I a h
 ·exact QnA S I a h hi.args (by have:=j h;omega)
 ·exact Qns S I a h
 ·exact Qno S I a h
 ·exact QnC S I a h (fun p i=>l x (S.below i) I h)
 ·exact Qni S I a h
 ·exact Qmc S I a h
 ·exact Qmd S I a h
 ·exact QmC S I a h
 ·exact QmU S I a h
end
def QjM (w6:World) (hh:Qd) (OO:Nat->Prop) (b Y bh:Nat) (nn yk yr yt yn cd:Int) (rv:Qj) (RR:Qj->Prop) (S:Nat->Bool) (t:Tmp) (v:Value) (w:World):Prop :=
 match ([(32,fun _ v _=>(fun v=>v=.tuple #[QL rv,.int .i64 cd]) v),(25,fun _ v _=>(fun v=>v=.tuple #[QL rv,.int .i64 cd]) v),(33,fun _ v _=>(fun v=>v=QL rv) v),(34,fun _ v _=>(fun v=>v=.int .i64 cd) v),(11,fun _ v _=>(fun v=>v=.int .i64 cd) v),(10,Qaw w6 (fun Z w=>∃ h',h'=hh/\QeE w6 w bh OO h' Z) 6 11 (fun r=>RR r))]:List (Tmp × ((Nat->Bool)->Value->World->Prop))).lookup t with
 | some p=>p S v w
 | none=>v=(([(0,.pointer (some ⟨b,0,none⟩)),(8,.pointer (some ⟨Y,0,none⟩)),(9,.int .i64 nn),(26,.pointer (some ⟨b,0,none⟩)),(27,.pointer (some ⟨b,0,none⟩)),(28,.pointer (some ⟨b,0,none⟩)),(29,.pointer (some ⟨bh,0,none⟩)),(30,.agg #[.int .i64 yk,.int .i64 yr,.int .i64 yt,.int .i64 yn]),(31,.int .i64 nn)]:List (Tmp × Value)).lookup t).getD undef
theorem Qde {a:Qd}{Y:Nat}{g j e l f k:Int}{d:Qj}{RR:Qj->Prop}{S:Nat->Bool}{t:Tmp}(o:HPs w6 (fun w=>∃ h',h'=a/\HTo w6 w bh OO h') (fun Z w=>∃ h',h'=a/\QeE w6 w bh OO h' Z))(hi:i≠6) (m:i≠11) (n:Below w.heap.size w w') (c:QjM w6 a OO b Y bh g j e l f k d RR S t u w):QjM w6 a OO b Y bh g j e l f k d RR (ZE i S) t u w':=by
 unfold QjM at c |-;refine Qha ?_ c;exact⟨fun _ h=>h,fun _ h=>h,fun _ h=>h,fun _ h=>h,fun _ h=>h,fun _ c=>c.on o hi m n,Yy⟩
theorem QnE {c:Qd}{Y:Nat}{g i e l f j:Int}{d:Qj}{RR:Qj->Prop}{S:Nat->Bool}{t:Tmp}(k:∀ Z,w6.heap.size<=Z->Z<w.heap.size->w'.heap[Z]?=w.heap[Z]?/\(fun Z w=>∃ h',h'=c/\QeE w6 w bh OO h' Z) Z w') (a:QjM w6 c OO b Y bh g i e l f j d RR S t u w):QjM w6 c OO b Y bh g i e l f j d RR (ZE 6 S) t u w':=by
 unfold QjM at a |-;refine Qha ?_ a;exact⟨fun _ h=>h,fun _ h=>h,fun _ h=>h,fun _ h=>h,fun _ h=>h,fun _ a=>(by simp only at a |-;exact a.did (by decide) k),Yy⟩
theorem Qna {c:Qd}{Y:Nat}{i j f l g k:Int}{d:Qj}{RR:Qj->Prop}{S:Nat->Bool}{t:Tmp}(p:HPs w6 (fun w=>∃ h',h'=c/\HTo w6 w bh OO h') (fun Z w=>∃ h',h'=c/\QeE w6 w bh OO h' Z)){Z:Nat}{r:Qj}(n:S 11=false) (q:S 6=true) (o:(fun r=>RR r) r) (m:t=10->u=Pv Z 0) (a:QjM w6 c OO b Y bh i j f l g k d RR S t u w):QjM w6 c OO b Y bh i j f l g k d RR (ZE 11 S) t u (Qk9 w Z r):=by
 unfold QjM at a |-;refine Qha ?_ a;exact⟨fun _ h=>h,fun _ h=>h,fun _ h=>h,fun _ h=>h,fun _ h=>h,fun e a=>(by obtain rfl:=m e;simp only at a |-;exact a.fill p n (by decide) r o),Yy⟩
theorem ia2 {D:Qd}{Y:Nat}{G N J M L F:Int}{A:Qj}{RR:Qj->Prop}(O:RR A) (P:∀ x,OO x->x<w6.heap.size) (q0:w6.cell? ⟨b,0,none⟩=some (Pv bh 0)) (y0:w6.cell? ⟨Y,0,none⟩=some (Iv N)) (y1:w6.cell? ⟨Y,1,none⟩=some (Iv J)) (y2:w6.cell? ⟨Y,2,none⟩=some (Iv M)) (y3:w6.cell? ⟨Y,3,none⟩=some (Iv L)) (CT:Hid (∀ wx,Below w6.heap.size w6 wx->Calls prog 200 #[Pv bh 0,.agg #[Iv N,Iv J,Iv M,Iv L],Iv G] wx fun e w'=>e=.returned (.tuple #[QL A,Iv F])/\HTo wx w' bh OO D)) (j:HPs w6 (fun w=>∃ h',h'=D/\HTo w6 w bh OO h') (fun Z w=>∃ h',h'=D/\QeE w6 w bh OO h' Z)){Q:Exit->Act->World->Prop}
 (a:Act) (m:Nat) (hn:a.tmps.size=m) (T:41<=m) (h0:a.tmps.getD 0 undef=Pv b 0) (h8:a.tmps.getD 8 undef=Pv Y 0) (h9:a.tmps.getD 9 undef=Iv G)
 (hX:∀ ch a' w',a'.defers=a.defers->(fun ch w=>False) ch w'->Q (.panic ch) a' w')
 (hend:∀ vs w',(fun v=>v=Iv F) (vs 11)->(∃ Z,vs 10=Pv Z 0/\w6.heap.size<=Z/\(∃ r:Qj,(fun r=>RR r) r/\Blk w' Z (Ql0 r) 211)/\(fun Z w=>∃ h',h'=D/\QeE w6 w bh OO h' Z) Z w')->(fun w=>∃ h',h'=D/\HTo w6 w bh OO h') w'->Q .normal (QI a vs [26,27,28,29,30,31,32,25,33,34,10,11]) w') :
 Code.wp prog ((Tryz.f145.body.bind (Qg 2)).getD .skip) Q a w6:=by
 conv=>arg 2;whnf
 refine Zu (QjM w6 D OO b Y bh G N J M L F A RR) (WY w6 (fun w=>∃ h',h'=D/\HTo w6 w bh OO h') 6) (fun ch w=>False) hX (outs:=[0,8,9]) (gs:=[]) (bs:=[true,true,true,true,true,true,true,true,true,true,true,true,true]) (by kernel_rfl) (n:=41) hn T (by kernel_rfl) ?hG (.inl ⟨Yz,Qs Zr 1⟩) ⟨h0,h8,h9,Yy⟩ ?hA ?hend
 case hG=>exact fun S=>trivial
 case hend=>exact fun vs S w' y d f=>hend vs w' (f 11 (by kernel_rfl)) (Qaw.full (show Qaw w6 (fun Z w=>∃ h',h'=D/\QeE w6 w bh OO h' Z) 6 11 (fun r=>RR r) S (vs 10) w' from f 10 (by kernel_rfl)) (y 11 (by decide)) (y 6 (by decide))) (d.fin (y 6 (by decide)))
 case hA =>
  refine⟨fun S a w o s p d f K k=>?_,?_⟩
  ·obtain⟨c,-⟩:=f
   have l:S 6=false:=Qdr p (q:=6) Yz (by kernel_rfl) o;have u:=d.pre l;have c:a.tmps.getD 0 undef=Pv b 0:=c;go_simp;exact k _ _ (fun t _ h=>Qde j (i:=0) (by decide) (by decide) Zr h) (d.on j (i:=0) (by decide) Zr) Yz
  refine⟨fun S a w o s p d f K k=>?_,?_⟩
  ·obtain⟨c,-⟩:=f
   have l:S 6=false:=Qdr p (q:=6) Yz (by kernel_rfl) o;have u:=d.pre l;have c:a.tmps.getD 26 undef=Pv b 0:=c;go_simp;exact k _ _ (fun t _ h=>Qde j (i:=1) (by decide) (by decide) Zr h) (d.on j (i:=1) (by decide) Zr) Yz
  refine⟨fun S a w o s p d f K k=>?_,?_⟩
  ·obtain⟨c,-⟩:=f
   have l:S 6=false:=Qdr p (q:=6) Yz (by kernel_rfl) o;have u:=d.pre l;have c:a.tmps.getD 27 undef=Pv b 0:=c;go_simp;exact k _ _ (fun t _ h=>Qde j (i:=2) (by decide) (by decide) Zr h) (d.on j (i:=2) (by decide) Zr) Yz
  refine⟨fun S a w o s p d f K k=>?_,?_⟩
  ·obtain⟨c,-⟩:=f
   have l:S 6=false:=Qdr p (q:=6) Yz (by kernel_rfl) o;have u:=d.pre l;have c:a.tmps.getD 28 undef=Pv b 0:=c;have W:=Qo q0 u;go_simp;exact k _ _ (fun t _ h=>Qde j (i:=3) (by decide) (by decide) Zr h) (d.on j (i:=3) (by decide) Zr) Yz
  refine⟨fun S a w o s p d f K k=>?_,?_⟩
  ·obtain⟨c,-⟩:=f
   have l:S 6=false:=Qdr p (q:=6) Yz (by kernel_rfl) o;have u:=d.pre l;have c:a.tmps.getD 8 undef=Pv Y 0:=c;have W:=Qo y0 u;have c1:=Qo y1 u;have c2:=Qo y2 u;have c3:=Qo y3 u;go_simp;exact k _ _ (fun t _ h=>Qde j (i:=4) (by decide) (by decide) Zr h) (d.on j (i:=4) (by decide) Zr) Yz
  refine⟨fun S a w o s p d f K k=>?_,?_⟩
  ·obtain⟨c,-⟩:=f
   have l:S 6=false:=Qdr p (q:=6) Yz (by kernel_rfl) o;have u:=d.pre l;have c:a.tmps.getD 9 undef=Iv G:=c;go_simp;exact k _ _ (fun t _ h=>Qde j (i:=5) (by decide) (by decide) Zr h) (d.on j (i:=5) (by decide) Zr) Yz
  refine⟨fun S a w o s p d f K k=>?_,?_⟩
  ·obtain⟨c,C,k2,-⟩:=f
   have u:=d.pre o;have c:a.tmps.getD 29 undef=Pv bh 0:=c;have C:a.tmps.getD 30 undef=.agg #[Iv N,Iv J,Iv M,Iv L]:=C;have k2:a.tmps.getD 31 undef=Iv G:=k2;go_simp;refine Xm (CT.out w u) ?_;rintro r7 w7 ⟨rfl,t7⟩;obtain⟨t8,X⟩:=HTo.from u P t7
   go_simp;exact k _ _ (fun t _ h=>QnE (fun Z hz hl=>⟨(X Z hz hl).1,_,Yz,(X Z hz hl).2⟩) h) (WY.did ⟨_,Yz,t8⟩) Yz
  refine⟨fun S a w o s p d f K k=>?_,?_⟩
  ·obtain⟨c,-⟩:=f
   have c:(fun v=>v=.tuple #[QL A,Iv F]) (a.tmps.getD 32 undef):=c;generalize z:a.tmps.getD 32 undef=E at c;subst c;go_simp;exact k _ _ (fun t _ h=>Qde j (i:=7) (by decide) (by decide) Zr h) (d.on j (i:=7) (by decide) Zr) Yz
  refine⟨fun S a w o s p d f K k=>?_,?_⟩
  ·obtain⟨c,-⟩:=f
   have c:(fun v=>v=.tuple #[QL A,Iv F]) (a.tmps.getD 25 undef):=c;generalize z:a.tmps.getD 25 undef=E at c;subst c;go_simp;exact k _ _ (fun t _ h=>Qde j (i:=8) (by decide) (by decide) Zr h) (d.on j (i:=8) (by decide) Zr) Yz
  refine⟨fun S a w o s p d f K k=>?_,?_⟩
  ·obtain⟨c,-⟩:=f
   have c:(fun v=>v=.tuple #[QL A,Iv F]) (a.tmps.getD 25 undef):=c;generalize z:a.tmps.getD 25 undef=E at c;subst c;go_simp;exact k _ _ (fun t _ h=>Qde j (i:=9) (by decide) (by decide) Zr h) (d.on j (i:=9) (by decide) Zr) Yz
  refine⟨fun S a w o s p d f K k=>?_,?_⟩
  ·clear f;have B:S 11=false:=Qdr p (q:=11) Yz (by kernel_rfl) o;go_simp;exact k _ _ (fun t _ h=>Qde j (i:=10) (by decide) (by decide) (QW _ _) h) (d.on j (i:=10) (by decide) (QW _ _)) (Qaw.new j d B (i:=10) (by decide) (by decide))
  refine⟨fun S a w o s p d f K k=>?_,?_⟩
  ·obtain⟨c,C,-⟩:=f
   have c:Qaw w6 (fun Z w=>∃ h',h'=D/\QeE w6 w bh OO h' Z) 6 11 (fun r=>RR r) S (a.tmps.getD 10 undef) w:=c;generalize z:a.tmps.getD 10 undef=E at c;have C:(fun v=>v=QL A) (a.tmps.getD 33 undef):=C;generalize V:a.tmps.getD 33 undef=R at C;have B:S 11=false:=o;have H:S 6=true:=Qkj p s (by kernel_rfl);have kb:=c;obtain⟨Z,rfl,hZ,U,-,-⟩:=c
   have g:=U B;have C:R=QL A:=C;subst C;have hr:=O;obtain⟨r,I⟩:∃ r,A=r:=⟨_,Yz⟩
   rw[I] at V hr
   clear I;have W:=Qa g 0 _ Yz;have c1:=Qa g 1 _ Yz;have c2:=Qa g 2 _ Yz;have c3:=Qa g 3 _ Yz;have z0:=Qe g 0;have z1:=Qe g 1;have z2:=Qe g 2;have z3:=Qe g 3;go_simp;exact k undef _ (fun t _ h=>Qna j B H hr (fun e=>by subst e;exact z) h) (Qaw.fillW j kb H (by decide) r) Yy
  refine⟨fun S a w o s p d f K k=>?_,?_⟩
  ·obtain⟨c,-⟩:=f
   have c:(fun v=>v=Iv F) (a.tmps.getD 34 undef):=c;generalize z:a.tmps.getD 34 undef=E at c;subst c;go_simp;exact k _ _ (fun t _ h=>Qde j (i:=12) (by decide) (by decide) Zr h) (d.on j (i:=12) (by decide) Zr) Yz
  trivial
theorem makeArr_any:MakeArr:=by
 intro w b ab n m M sc sa g x S I aa;have E:Hid (M.mem x=match Qz M.top.v x.a with | none=>none | some a=>match Qu M.top.v x.b with | none=>none | some k=>if k<0\/15<k then some (M.over 3) else M.got (M.h.array a k)):=by show _=_;unfold IM.mem;cases Qz M.top.v x.a<;>simp[aa]<;>cases Qu M.top.v x.b<;>rfl
 generalize M.mem x=u at E |-;have HS:=Qc S;have HI:=Qc I;have hl:=I.len;have P:=Qc (ZU S.top (by omega) x.a);have V:Hid (∀ C,Below w.heap.size w C->Calls prog 133 #[Pv g.t.c 0,Iv x.b] C fun e T=>Ask (Qu M.top.v x.b) (.int .i64) e/\Below C.heap.size C T):=fun C bx=>ZH (S.top.below bx) (by omega) x.b;clear S I;generalize x.a=xa at P E |-;generalize x.b=xb at V E |-;clear aa;go_enter func145,ntmps145
 cases hq:Qz M.top.v xa with
 | none =>
   rw[hq] at P E
   clear hl V hq;go_wp2_with fail
   refine P.out.mono ?_;rintro s w5 ⟨z,G⟩;have z:s=.panicked stuckP:=z;subst z;exact⟨Yz,by rw[E.out];exact Ql.stuck (XTo.same HS.out G)⟩
 | some y =>
 rw[hq] at P E
 have HY:=Qc (HI.out.val hq);clear hq
 cases hq:Qu M.top.v xb with
 | none =>
   rw[hq] at V E
   clear hl hq;go_wp2_with (go_at_call 140;refine P.out.mono ?_;rintro s w5 ⟨z,G⟩;have z:s=.returned (QL y):=z;subst z)
   refine(V.out w5 G).mono ?_
   rintro s w6 ⟨D,b6⟩;have D:s=.panicked stuckP:=D;subst D;exact⟨Yz,by rw[E.out];exact Ql.stuck (XTo.same HS.out (G.trans (b6.mono G.size)))⟩
 | some q =>
 rw[hq] at V E
 clear hq;obtain⟨j,o,p,f⟩:=y
 have E2:Hid (u=if q<0\/15<q then some (M.over 3) else M.got (M.h.array ⟨j,o,p,f⟩ q)):=E.out;clear E
 go_upto_region 1 with (first
  | (go_at_call 140;refine P.out.mono ?_;rintro s w5 ⟨z,G⟩;have z:s=.returned (.agg #[.int .i64 j,.int .i64 o,.int .i64 p,.int .i64 f]):=z;subst z;have K:=Qc G;clear G P)
  | (go_at_call 133;refine(V.out w5 K.out).mono ?_;rintro s w6 ⟨D,b6⟩;have D:s=.returned (.int .i64 q):=D;subst D;have B6:=Qc (K.out.trans (b6.mono K.out.size));clear b6 K V))
 have B7:=Qc (B6.out.trans ((QW w6 (.cells #[Iv j,Iv o,Iv p,Iv f] 211)).mono B6.out.size));have J:=Qc (Qf w6 #[Iv j,Iv o,Iv p,Iv f] 211);generalize w6.alloc (.cells #[Iv j,Iv o,Iv p,Iv f] 211)=w7 at B7 J |-;generalize w6.heap.size=Y at J |-;clear B6;by_cases hb:q<0\/15<q
 ·have F:Hid (u=some (M.over 3)):=by show _=_;rw[E2.out,Xs hb]
  clear E2 HY J HI;by_cases d:q<0
  ·have d0:decide (q>=0)=false:=by simpa using d
   clear hb;go_wp2_with fail
   refine(QaK _ _).mono ?_
   rintro s T ⟨rfl,B⟩;subst B;exact⟨Yz,by rw[F.out];exact Ql.end_ (XTo.same HS.out B7.out)⟩
  ·have A:15<q:=by omega
   have d0:decide (q>=0)=true:=by simpa using d
   have d1:decide (q<=15)=false:=by simpa using A
   clear hb d A;go_wp2_with fail
   refine(QaK _ _).mono ?_
   rintro s T ⟨rfl,B⟩;subst B;exact⟨Yz,by rw[F.out];exact Ql.end_ (XTo.same HS.out B7.out)⟩
 ·have d:0<=q:=by omega
  have A:q<=15:=by omega
  have F:Hid (u=M.got (M.h.array ⟨j,o,p,f⟩ q)):=by show _=_;rw[E2.out,Xr hb]
  obtain⟨k,rfl⟩:∃ k:Nat,q=(k:Int):=⟨q.toNat,by omega⟩
  have hk:k<=15:=by omega
  have S7:=Qc (HS.out.below B7.out);have T7:=Qc (HS.out.stepB B7.out);have CT:Hid (∀ C,Below w7.heap.size w7 C->Calls prog 200 #[Pv g.bh 0,.agg #[Iv j,Iv o,Iv p,Iv f],Iv (k:Int)] C fun e T=>e=.returned (.tuple #[QL (M.h.array ⟨j,o,p,f⟩ k).1,Iv (M.h.array ⟨j,o,p,f⟩ k).2.1])/\HTo C T g.bh g.O (M.h.array ⟨j,o,p,f⟩ k).2.2):=fun C bx=>HI.out.arr (S7.out.heap.below bx) (y:=⟨j,o,p,f⟩) HY.out.1 hk;have SM:=Qc (Qhi (h:=M.h) (v:=⟨j,o,p,f⟩) (n:=(k:Int)));clear hb E2 hk;generalize M.h.array ⟨j,o,p,f⟩ (k:Int)=tu at F CT SM;obtain⟨⟨U,W,X,N⟩,cd,th⟩:=tu
  simp only at F CT SM
  have y0:w7.cell? ⟨Y,0,none⟩=some (Iv j):=Qa J.out 0 _ Yz;have y1:w7.cell? ⟨Y,1,none⟩=some (Iv o):=Qa J.out 1 _ Yz;have y2:w7.cell? ⟨Y,2,none⟩=some (Iv p):=Qa J.out 2 _ Yz;have y3:w7.cell? ⟨Y,3,none⟩=some (Iv f):=Qa J.out 3 _ Yz;have q0:=S7.out.heapC;have d0:decide ((k:Int)>=0)=true:=Xt d;have d1:decide ((k:Int)<=15)=true:=by simpa using A
  clear d A;go_upto_region 2 with (go_at_call 84;refine(Qa0 _ _).mono ?_;rintro s T ⟨rfl,B⟩;have B:=B.symm;subst B)
  refine ia2 (RR:=fun r=>r=⟨U,W,X,N⟩) Yz S7.out.heap.lt q0 y0 y1 y2 y3 CT (QgT _ _ _ (fun h'=>h'=th) S7.out.heap.lt) _ _ Yz (Xg (by kernel_rfl)) Yz Yz Yz ?_ ?_
  ·rintro ch a' Q ac ⟨⟩
  ·rintro vs Q i ⟨Z,L,hZ,⟨r,hr,H⟩,-⟩ ⟨h9,hh,t9⟩;have i:vs 11=Iv cd:=i;have hr:r=⟨U,W,X,N⟩:=hr;simp only[QI,Act.put,List.setIfInBounds_toArray,List.set_cons_zero,List.set_cons_succ,i,L]
   subst hr;subst hh;have R9:=Qc (XTo.then T7.out Yz Yz (S7.out.toHeap t9));have Y:=Qc H;clear i L H t9 CT q0 y0 y1 y2 y3 d0 d1 S7 B7 J T7 HY;go_upto_region 3 with fail
   go_wp2_with fail
   refine(QaA _ _ _ _).mono ?_
   rintro s T ⟨B,ha⟩;have B:=B.symm;subst B;rcases ha with ⟨d,rfl⟩|⟨d,h1,rfl⟩|⟨d,h1,rfl⟩
   rotate_left
   ·have E4:u=some (M.over 6):=by rw[F.out];unfold IM.got;rw[Xs h1]
    exact⟨Yz,by rw[E4];exact Ql.end_ (by have:=R9.out;rw[SM.out d] at this;exact this)⟩
   ·have E4:u=none:=by rw[F.out];unfold IM.got;rw[Xr h1,Xr d]
    exact⟨Yz,by rw[E4];exact Ql.stuck (by have:=R9.out;rw[SM.out d] at this;exact this)⟩
   have E4:Hid (u=some (IM.push { M with h:=h9 } [⟨U,W,X,N⟩])):=by show _=_;rw[F.out];unfold IM.got;simp only;rw[Xr (by omega),Xs d]
   obtain⟨g5,S5,T5,c5,f5⟩:=R9.out
   have y0:Q.cell? ⟨Z,0,none⟩=some (Iv U):=Qa Y.out 0 _ Yz;have y1:Q.cell? ⟨Z,1,none⟩=some (Iv W):=Qa Y.out 1 _ Yz;have y2:Q.cell? ⟨Z,2,none⟩=some (Iv X):=Qa Y.out 2 _ Yz;have y3:Q.cell? ⟨Z,3,none⟩=some (Iv N):=Qa Y.out 3 _ Yz;have K:=QW Q (.cells #[Iv U,Iv W,Iv X,Iv N] 211);have CM:=Qc (fun cp=>ZR (S5.below K) (l:=[⟨U,W,X,N⟩]) (cp:=cp) Yz (Qhk Q U W X N) (by show M.top.v.length+1<=1000000;omega));rw[c5] at CM
   have T6:=Qc (T5.trans (S5.stepB K));have HC:=Qc (Xh c5 f5);clear K Y d F S5 T5 R9 SM c5 f5;go_wp2_with fail
   refine(CM.out _).mono ?_
   rintro s w6 ⟨rfl,D⟩;have R:=Qc (XTo.then T6.out HC.out.1 HC.out.2 D);clear D CM T6 y0 y1 y2 y3;go_wp2
   exact Xz (v:=.tuple #[]) (by simp[results,results145,go_sem]) Yz (by rw[E4.out];exact Ql.go R.out)
section
variable {w w' w2:World}{b most n:Nat}{m:List (MFunc 6)}{M M' N:IM}{sc sa:Int}{g g1:MG}{e:Ending}
theorem vsizeE:(prog.info? 84).map (·.size)=some 9:=by kernel_rfl
theorem Qc6.stp {j:IM}(n:j={ M with fuel:=M.fuel+1 }) (T:QE g.A g1.A w w2) (i:g1.t.c=g.t.c) (f:g1.fs=g.fs){r:Option IM}(h:Qc6 g1 w2 b most m j sc sa r e w'):QkY g w b most m M sc sa r e w':=by
 subst n
 cases r with
 | none=>exact⟨h.1,XTo.then T i f h.2⟩
 | some M' =>
   rcases h with ⟨d,a⟩|⟨N,k,d,a,l⟩
   ·exact .inl ⟨d,XGo.then T a⟩
   ·exact .inr ⟨N,k,a,XTo.then T i f l,d ▸ IM.like.refl _⟩
theorem Qij (CM:MakeArr) (S:MAt w b most m M sc sa g) (K:IOk m n M) (hn:n<=800000) (hm:(modFault m).1=0) (be:M64 m) (bt:M.fuel<=most) (bo:most<=100000) (av:M.done=false) :
 Calls prog 54 #[Pv b 0] w fun e w'=>QkY g w b most m M sc sa (IM.step m aOp most M) e w':=by
 obtain⟨-,-,-,fn,o,hf,hb,hi⟩:=K.fr M.top (by simp)
 have hR:=(ZC hm).2 fn (Zm hf);have hB:=hR.blocks o (Zm hb);have ay:=(ZC hm).1.2
 have E:Hid (IM.step m aOp most M=if M.fuel=most then some (M.over 7) else match o.code[M.top.i]? with | some x=>IM.ins m aOp (IM.bump { M with fuel:=M.fuel+1 }) x | none=>IM.endd fn { M with fuel:=M.fuel+1 } o.fin):=by
  show _=_;unfold IM.step;rw[hf]
  simp only
  rw[hb]
  rfl
 have K1:IOk m n { M with fuel:=M.fuel+1 }:=⟨K.hb,K.hg,K.fr,K.inp,K.out,K.deep⟩;have q8:w.cell? ⟨b,8,none⟩=some (Iv M.fuel):=Qa S.box 8 _ Yz;have q3:w.cell? ⟨b,3,none⟩=some (Iv most):=Qa S.box 3 _ Yz;have HS:=Qc S;have HK:=Qc (Xh K K1);have C:=Qc (Xh hf hb);have D:=Qc (Xh hR hB);have HM:=Qc (Xh hm be);have HC:Hid MakeArr:=CM;have HI:=Qc hi;have HN:=Qc (Xh hn ay);have HD:=Qc (Xh av bo);generalize IM.step m aOp most M=y at E |-;clear S K K1 hf hb hR hB hm be hi hn ay CM av;go_enter func54,ntmps54
 go_upto_region 0 with fail
 refine is0 q8 q3 _ _ Yz (Xg (by kernel_rfl)) Yz ?_;rintro ai vs w5 aa b5;show wpList _ ai _ [_] (QI _ vs [4,5,6,7,8,9,10,11,12,13]) w5;simp only[QI,Act.put,List.setIfInBounds_toArray,List.set_cons_zero,List.set_cons_succ,aa]
 have B5:=Qc b5;clear aa b5 q8 q3;by_cases J:M.fuel=most
 ·have d1:decide ((M.fuel:Int)<most)=false:=Xu (by omega);have E2:Hid (y=some (M.over 7)):=by show _=_;rw[E.out,Xs J]
  rw[d1]
  clear E d1 J;go_wp2_with fail
  refine(QaK _ _).mono ?_
  rintro e' w' ⟨rfl,hw⟩;subst hw;exact⟨Yz,by rw[E2.out];exact .inr ⟨M,7,Yz,XTo.same HS.out B5.out,IM.like.refl _⟩⟩
 have d1:decide ((M.fuel:Int)<most)=true:=Xt (by omega);have E2:Hid (y=match o.code[M.top.i]? with | some x=>IM.ins m aOp (IM.bump { M with fuel:=M.fuel+1 }) x | none=>IM.endd fn { M with fuel:=M.fuel+1 } o.fin):=by show _=_;rw[E.out,Xr J]
 rw[d1]
 clear E d1 J;have S5:=Qc (HS.out.below B5.out);have q8:w5.cell? ⟨b,8,none⟩=some (Iv M.fuel):=Qa S5.out.box 8 _ Yz;have z8:=Qe S5.out.box 8;obtain⟨g6,I,T6,c6,f6⟩:=S5.out.fuelC
 have I:=Qc I;have T6:=Qc ((HS.out.stepB B5.out).trans T6);have q:=Qc (Xh c6 f6);have bu:M.fuel<=100000:=by omega
 clear S5 c6 f6 B5;generalize an:({ M with fuel:=M.fuel+1 }:IM)=f at I E2 HK;have ar:=Qc an;have l:Hid (f.top=M.top/\f.rest=M.rest/\f.done=false):=by subst an;exact⟨Yz,Yz,HD.out.1⟩
 clear an;generalize X:M.fuel=fu at *;have ap:=Qc X;clear X;go_upto_region 2 with (go_at_call 84;refine(Qa0 _ _).mono ?_;rintro e' w' ⟨rfl,hw⟩;have hw:=hw.symm;subst hw)
 generalize w5.setCell ⟨b,8,none⟩ (Iv ((fu:Int)+1))=w6 at I T6 |-;clear q8 z8;have bv:f.rest.length<=39:=HK.out.2.deep;have CT:=Qc (Qcx I.out (by omega));have CB:Hid (∀ wx,Below w6.heap.size w6 wx->Calls prog 86 #[Pv b 0] wx fun e w'=>Qi9 g6.A o wx e w'):=fun wx bx=>QdM (I.out.below bx) (by omega) (fn:=fn) (by rw[l.out.1];exact C.out.1) (by rw[l.out.1];exact C.out.2) ⟨by have:=HN.out.2;omega,by have:=D.out.1.many.2;omega⟩;go_wp2_with (go_at_call 85;refine CT.out.mono ?_;rintro e' w7 ⟨rfl,b7⟩)
 refine(CB.out w7 b7).mono ?_
 rintro e' w8 ⟨p,rfl,a4,b8⟩;have B8:=Qc (b7.trans (b8.mono b7.size));have az:=Qc a4;have ae:=Qf w8 zeroB 86;have BZ:=Qc (Qid ae o p);have B9:=Qc (QbR (Nat.le_refl w8.heap.size) (QbB o p).toList 0 (QW w8 (.cells zeroB 86)));have TH:=Qc (Qer ae Yz o p);have SZ:=Qc (show (prog.info? 86).map (·.size)=some (QbB o p).size from pSizeB);have ON:=Qc (QhR o p);obtain⟨cs,ah⟩:∃ cs,QbB o p=cs:=⟨_,Yz⟩
 rw[ah] at BZ B9 TH SZ ON |-
 have EC:=Qc ah;clear ah ae a4 b7 b8 CT CB;go_upto_region 3 with (refine wpList_store_mid Yz 86 (.tmp 3) (.tmp 27) Yz w8.heap.size 0 cs Yz Yz TH.out SZ.out ON.out ?_)
 generalize (w8.alloc (.cells zeroB 86)).setCells w8.heap.size 0 cs.toList=w9 at BZ B9 |-;obtain rfl:=EC.out;have S9:=Qc (I.out.below (B8.out.trans (B9.out.mono B8.out.size)));have T9:=Qc (T6.out.trans (I.out.stepB (B8.out.trans (B9.out.mono B8.out.size))));have V:=Qc (az.out.below B9.out);generalize w8.heap.size=Z at BZ |-;clear TH SZ ON EC B8 B9 az I T6;have H:w9.cell? ⟨g6.t.c,2,none⟩=some (Iv f.top.i):=Qa S9.out.top.1 2 _ Yz;rw[l.out.1] at H
 have z2:w9.cell? ⟨Z,2,none⟩=some (.slice p.pC o.code.length p.cC):=Qa BZ.out 2 _ Yz;refine Code.wp_mono ?_ (is3 H z2 _ _ Yz (Xg (by kernel_rfl)) Yz Yz);rintro _ _ wa ⟨rfl,bz,rfl,T,ba⟩;simp only[QI,Act.put,List.setIfInBounds_toArray,List.set_cons_zero,List.set_cons_succ,T]
 have Sa:=Qc (S9.out.below ba);have Ta:=Qc (T9.out.trans (S9.out.stepB ba));have al:=Qc (Blk.below BZ.out ba);have ac:=Qc (V.out.below ba);clear T ba H z2 S9 T9 BZ V;have Ka:Hid (IOk m n f):=HK.out.2;have bh:=HI.out;by_cases aj:M.top.i=o.code.length
 ·have hc:((M.top.i:Int)==(o.code.length:Int))=true:=by simp[aj]
  have W:Hid (y=IM.endd fn f o.fin):=by show _=_;rw[E2.out,Xk (by omega)]
  rw[hc]
  have CE:=Qc (Qi0 Sa.out (Ka.out.sok (by have:=HN.out.1;omega)) Ka.out.deep (fun d hd=>by have:=(Ka.out.fr d (List.mem_cons_of_mem _ hd)).2.1;have:=HN.out.1;omega) (fn:=fn) (by rw[l.out.1];exact C.out.1) HN.out.2 D.out.1 ac.out.fin D.out.2.fin)
  have RE:Hid (wa.rangeAt Z 3 (Qdl o.fin p.e).toList):=fun j v hj=>by
   have:(QbB o p)[3+j]?=some v:=by
    rw[<-Array.getElem?_toList,Nat.add_comm]
    exact hj
   exact Qa al.out (3+j) v this
  clear aj hc E2 bh;go_upto_region 4 with fail
  go_wp2_with (refine wpList_load_mid Yz 84 (.tmp 38) Yz Z 3 Yz (Qdl o.fin p.e).toList _ RE.out underlying84 Yz vsizeE ?_)
  refine CE.out.mono ?_;rintro e' wb hE;have F:=Qc (Qc6.stp (by rw[ap.out];exact ar.out.symm) Ta.out q.out.1 q.out.2 hE);generalize IM.endd fn f o.fin=r2 at W F hE
  have ad:e'=.returned (.tuple #[])\/∃ ch,e'=.panicked ch:=by
   cases r2 with
   | none=>exact .inr ⟨_,hE.1⟩
   | some M' =>
     rcases hE with ⟨L,s⟩|⟨N,k,L,s,B⟩
     ·exact .inl L
     ·exact .inr ⟨_,s⟩
  rcases ad with rfl | ⟨ch,rfl⟩
  ·clear hE CE RE;go_wp2
   exact Xz (v:=.tuple #[]) (by simp[results,results54,go_sem]) Yz (by rw[W.out];exact F.out)
  ·exact⟨Yz,by rw[W.out];exact F.out⟩
 have hc:((M.top.i:Int)==(o.code.length:Int))=false:=by simp;omega
 rw[hc]
 have a2:M.top.i<o.code.length:=by omega
 obtain⟨x,hx⟩:∃ x,o.code[M.top.i]?=some x:=⟨_,Zg a2⟩
 have W:Hid (y=IM.ins m aOp f.bump x):=by show _=_;rw[E2.out,hx]
 have bg:=D.out.2.code x (Zm hx);have ab:=HM.out.2 fn (Zm C.out.1) o (Zm C.out.2) x (Zm hx);have bw:=D.out.2.codes;obtain⟨gc,oc,ip,ec,aw,bf⟩:=Qh1 ac.out.code hx
 have z2:wa.cell? ⟨Z,2,none⟩=some (.slice p.pC o.code.length p.cC):=Qa al.out 2 _ Yz;rw[ec] at z2
 have H:wa.cell? ⟨g6.t.c,2,none⟩=some (Iv f.top.i):=Qa Sa.out.top.1 2 _ Yz;rw[l.out.1] at H
 have a3:Hid (wa.rangeAt gc (oc+M.top.i*8) (QY x ip).toList):=aw;have a9:=Qc bf;have HX:=Qc (Xh bg ab);have bj:=Qc a2;clear hc aj E2 hx aw bf bg ab bh ec;go_upto_region 5 with fail
 refine is5 z2 H a3 (by omega) _ _ Yz (Xg (by kernel_rfl)) Yz Yz Yz ?_;rintro ai bp wb Q P U bb;show wpList _ ai _ [_] (QI _ bp [41,42,43,44,45,46,47,48,49,50]) wb;simp only[QI,Act.put,List.setIfInBounds_toArray,List.set_cons_zero,List.set_cons_succ,Q,P,U]
 have Sb:=Qc (Sa.out.below bb);have Tb:=Qc (Ta.out.trans (Sa.out.stepB bb));have ak:=Qc (a9.out.below bb);have ao:Hid (f={ M with fuel:=M.fuel+1 }):=by show _=_;rw[ap.out];exact ar.out.symm
 have KS:=Qc (Ka.out.sok (by have:=HN.out.1;omega));clear Q P U bb z2 H a3 Sa Ta a9 al ac;by_cases z:x.op=14
 ·obtain⟨-,-,a5⟩:=Qdd HX.out.1
  obtain⟨bd,bn,br,bs⟩:=a5 z
  obtain⟨k,hk⟩:=Xc bd
  have bc:k<m.length:=by omega
  obtain⟨H,am⟩:∃ H,m[k]?=some H:=⟨_,Zg bc⟩
  obtain⟨b2,aq,a7,af,ag,-⟩:=Qbr HM.out.1 am
  have O:=Qc (Qmn Sb.out KS.out ip z Ka.out.deep hk am aq a7 af ⟨by have:=HN.out.2;omega,by have:=ag.many.2;omega,by rw[af];have:=ag.params.1;omega⟩ ak.out.regs ak.out.args ⟨by omega,by omega⟩);have ei:∀ N:IM,IM.ins m aOp N x=IM.call m N x:=fun N=>by unfold IM.ins;simp[z]
  have G:Hid (y=(IM.call m f x).map fun N=>if N.done then N.bump else { N with rest:=f.bump.top::f.rest }):=by show _=_;rw[W.out,ei,Qjl l.out.2.2]
  rw[ei] at O
  have CD:Hid (∀ N,IM.call m f x=some N->N.rest=f.top::f.rest->N.done=false):=by
   intro N u hr
   cases hd:N.done with
   | false=>rfl
   | true =>
     exfalso
     unfold IM.call at u
     cases L:Zh f.top.r x.regs with
     | none=>rw[L] at u;cases u
     | some r =>
       rw[L] at u
       simp only at u
       cases s:Qp f.top.v x.args with
       | none=>rw[s] at u;cases u
       | some v =>
         rw[s] at u
         simp only at u
         cases B:m[x.k.toNat]? with
         | none=>rw[B] at u;cases u
         | some ff =>
           rw[B] at u
           simp only at u
           split at u
           ·split at u
            ·cases u
             have:f.rest.length=(f.top::f.rest).length:=congrArg List.length hr
             simp at this
            ·cases u
             have:=l.out.2.2
             rw[this] at hd
             cases hd
           ·cases u
  generalize bm:IM.call m f x=r2 at G O CD;have a1:f.top.i<=100:=by rw[l.out.1];have:=bj.out;omega
  clear bm am aq a7 af ag hk bd bn br bs bc a5 ei z W;go_wp2_with fail
  refine O.out.mono ?_;rintro e' wc hI
  cases r2 with
  | none =>
    obtain⟨rfl,s⟩:=hI
    refine⟨Yz,?_⟩
    rw[G.out]
    exact⟨Yz,by have:=XTo.then Tb.out q.out.1 q.out.2 s;rw[ao.out] at this;exact this⟩
  | some M0 =>
    rcases hI with ⟨rfl,g',s,B,h4,h5⟩|⟨N,kk,L,rfl,B⟩
    ·have a6:=CD.out M0 Yz h5;have Sc:=Qc s;have F2:=s.frs;rw[h4,h5] at F2
     have fc:=F2.2.2.1.1;have y2:wc.cell? ⟨g6.t.c,2,none⟩=some (Iv f.top.i):=Qa fc.1 2 _ Yz;have au:=Qe fc.1 2;obtain⟨g8,S8,T8⟩:=s.next2 h4 h5
     have R:Hid (XGo g w (wc.setCell ⟨g6.t.c,2,none⟩ (Iv ((f.top.i:Int)+1))) b most m { M0 with rest:=f.bump.top::f.rest } sc sa):=⟨g8,S8,(Tb.out.trans B).trans T8⟩;have E5:Hid (y=some { M0 with rest:=f.bump.top::f.rest }):=by show _=_;rw[G.out];simp[a6]
     clear O s B h4 h5 F2 fc S8 T8 a6 G CD;generalize f.top.i=ii at *;go_wp2
     exact Xz (v:=.tuple #[]) (by simp[results,results54,go_sem]) Yz (by rw[E5.out];exact .inl ⟨Yz,R.out⟩)
    ·refine⟨Yz,?_⟩
     rw[G.out]
     subst L;exact .inr ⟨N,kk,Yz,XTo.then Tb.out q.out.1 q.out.2 B,⟨Yz,Yz,Yz,Yz,Yz,Yz⟩⟩
 ·have O:=Qc (Qj1 HC.out Sb.out KS.out ip ak.out HX.out.1 z);have G:Hid (y=(IM.ins m aOp f x).map IM.bump):=by show _=_;rw[W.out];exact Qka z
  have KI:=Qc (Qh4 (op:=aOp) Ka.out (by have:=HN.out.1;omega) HM.out.1 (fun k a b c h ha hb=>Qg6 ha hb h) HX.out.1 HX.out.2);generalize IM.ins m aOp f x=r2 at G O KI;clear z W;go_wp2_with fail
  refine O.out.mono ?_;rintro e' wc hI
  cases r2 with
  | none =>
    obtain⟨rfl,s⟩:=hI
    refine⟨Yz,?_⟩
    rw[G.out]
    exact⟨Yz,by have:=XTo.then Tb.out q.out.1 q.out.2 s;rw[ao.out] at this;exact this⟩
  | some M0 =>
    rcases hI with ⟨rfl,g',s,B,h4,h5⟩|⟨N,kk,L,rfl,B⟩
    ·have K0:=KI.out M0 Yz;obtain⟨-,-,-,bq,bk,ax,a8,bi⟩:=K0.fr M0.top (by simp)
     have a0:=(((ZC HM.out.1).2 bq (Zm ax)).blocks bk (Zm a8)).codes;have a1:M0.top.i<=100:=by omega
     have y2:wc.cell? ⟨g'.t.c,2,none⟩=some (Iv M0.top.i):=Qa s.top.1 2 _ Yz;have au:=Qe s.top.1 2;have NX:=XTo.then (Tb.out.trans B) (h4.trans q.out.1) (h5.trans q.out.2) s.next
     rw[h4] at y2 au NX
     have R:=Qc NX;have E5:Hid (y=some M0.bump):=G.out;clear O s B h4 h5 K0 KI ax a8 bi a0 NX G;have RR:Hid (XTo g w (wc.setCell ⟨g6.t.c,2,none⟩ (Iv ((M0.top.i:Int)+1))) b most m M0.bump sc sa):=R.out;clear R;generalize M0.top.i=ii at *;go_wp2
     exact Xz (v:=.tuple #[]) (by simp[results,results54,go_sem]) Yz (by rw[E5.out];exact .inl ⟨Yz,RR.out.go⟩)
    ·refine⟨Yz,?_⟩
     rw[G.out]
     subst L;exact .inr ⟨N,kk,Yz,XTo.then Tb.out q.out.1 q.out.2 B,⟨Yz,Yz,Yz,Yz,Yz,Yz⟩⟩
end
def Qot (X b:Nat) (pl:Int) (t:Tmp) (v:Value) (w:World):Prop :=
 v=(([(0,Pv X 0),(11,Pv b 0),(12,Pv b 0),(13,Iv pl),(14,.agg #[Iv 20,Iv pl]),(15,Pv b 0),(16,Pv b 10)]:List (Tmp × Value)).lookup t).getD undef
theorem it7 {b:Nat}{j:Int}(o:w6.cell? ⟨X,0,none⟩=some (Pv b 0)) (l:Hid (∀ wx,Below w6.heap.size w6 wx->Calls prog 83 #[Pv b 0] wx fun e w'=>e=.returned (Iv j)/\Below wx.heap.size wx w')){Q:Exit->Act->World->Prop}
 (a:Act) (m:Nat) (hn:a.tmps.size=m) (i:28<=m) (p:a.tmps.getD 0 undef=Pv X 0)
 (hend:∀ ops vs w',vs 14=.agg #[Iv 20,Iv j]->vs 16=Pv b 10->Below w6.heap.size w6 w'->wpList prog ops Q (QaR 6 ((Tryz.f82.body.bind (Qg 7)).getD .skip)) (QI a vs [11,12,13,14,15,16]) w') :
 Code.wp prog ((Tryz.f82.body.bind (Qg 7)).getD .skip) Q a w6:=by
 conv=>arg 2;whnf
 refine Qm 6 (Qot X b j) (fun w=>Below w6.heap.size w6 w) (fun w w'=>Below w.heap.size w w') (outs:=[0]) (gs:=[]) (bs:=[true,true,true,true,true,true]) (by kernel_rfl) (n:=28) hn i (by kernel_rfl) (by kernel_rfl) ?hR ?hG (Qs Zr 1) ⟨p,Y⟩ ?hA ?hend
 case hR=>exact fun t v w w' _ h=>h
 case hG=>exact Y
 case hend=>exact fun ops vs w' c f=>hend ops vs w' (f 14 (by kernel_rfl)) (f 16 (by kernel_rfl)) c
 case hA =>
  repeat
   refine⟨fun a w c f K g=>?_,?_⟩
   focus first
    | obtain⟨d,-⟩:=f
      conv at d=>whnf;rhs;whnf
      have q:=Qo o c;go_simp;exact g _ _ Zr c Z
    | obtain⟨d,-⟩:=f
      conv at d=>whnf;rhs;whnf
      rw[Za] at d
      go_simp;exact g _ _ Zr c Z
    | obtain⟨d,-⟩:=f
      conv at d=>whnf;rhs;whnf
      go_simp;refine Xm (l.out w c) ?_;rintro r s ⟨rfl,k⟩;go_simp;exact g _ _ k (c.trans (k.mono c.size)) Z
  trivial
section
variable {w w' w2:World}{b most n:Nat}{m:List (MFunc 6)}{M M' N:IM}{sc sa:Int}{g g1:MG}{e:Ending}
theorem MAt.stuckC (S:MAt w b most m M sc sa g) (c:Int):XTo g w ((w.setCell ⟨b,10,none⟩ (Iv 20)).setCell ⟨b,11,none⟩ (Iv c)) b most m M 20 c:=by
 have d:∀ k,k≠b->((w.setCell ⟨b,10,none⟩ (Iv 20)).setCell ⟨b,11,none⟩ (Iv c)).heap[k]?=w.heap[k]?:=fun k a=>by rw[Xd _ _ _ _ a,Xd _ _ _ _ a]
 refine S.reBox (M':=M) (sc':=20) (sa':=c) Z Z Z (by simp) (fun k a f=>d k f) ⟨Z,Z,Z,Z⟩ (pi:=g.pi) (ci:=g.ci) (vb:=g.vb) ⟨S.inp,S.inpC⟩ (Zw (fun k a i=>d k (fun (e:k=b)=>a (e ▸ S.ob.1))) (fun _ h _=>h) S.back) ?_;rw[Qh (Qh S.box 10 _) 11 _]
 simp
theorem MAt.endC (S:MAt w b most m M sc sa g) (k:Int):XTo g w ((w.setCell ⟨b,9,none⟩ (.bool true)).setCell ⟨b,5,none⟩ (Iv k)) b most m (M.over k) sc sa:=by
 have c:∀ x,x≠b->((w.setCell ⟨b,9,none⟩ (.bool true)).setCell ⟨b,5,none⟩ (Iv k)).heap[x]?=w.heap[x]?:=fun x a=>by rw[Xd _ _ _ _ a,Xd _ _ _ _ a]
 refine S.reBox (M':=M.over k) (sc':=sc) (sa':=sa) Z Z Z (by simp) (fun x a d=>c x d) ⟨Z,Z,Z,Z⟩ (pi:=g.pi) (ci:=g.ci) (vb:=g.vb) ⟨S.inp,S.inpC⟩ (Zw (fun x a f=>c x (fun (e:x=b)=>a (e ▸ S.ob.1))) (fun _ h _=>h) S.back) ?_;rw[Qh (Qh S.box 9 _) 5 _]
 simp[IM.over]
theorem QfD {w:World}(X:Nat) :
 CallsD prog 82 #[QdJ X] .returning w fun e u' w'=>e=.returned (.tuple #[])/\u'=.returning/\w'=w:=by
 refine callsD_of_wpS func82 Z fun b c a=>?_;apply wpS_seq
 apply wpS_region
 simp[wpOpsS,go_sem,recoverD,a,ntmps82,Exit.thenS]
 rw[show (#[QdJ X]++(Array.replicate 27 undef).setIfInBounds 4 (Value.nilIface):Array Value)=#[QdJ X,undef,undef,undef,undef,Value.nilIface,undef,undef,undef,undef,undef,undef,undef,undef,undef,undef,undef,undef,undef,undef,undef,undef,undef,undef,undef,undef,undef,undef] from by kernel_rfl]
 refine wpS_of_wp ?_;go_wp2_with fail
 cases b
 simp_all [bodyPostS,results,results82]
theorem QhA {w:World}(k:Int) (a:Blk w X #[Pv b 0] 30) (S:MAt w b most m M sc sa g) :
 CallsD prog 82 #[QdJ X] (.panicking (QkR k)) w fun e u' w' =>
  e=.returned (.tuple #[])/\u'=.panicking [{ v:=.iface 148 (Iv k),recovered:=true }]/\XTo g w w' b most m (M.over k) sc sa:=by
 have i:=Qa a 0 _ Z;have l:w.cell? ⟨b,9,none⟩=some (.bool M.done):=Qa S.box 9 _ Z;have j:w.cell? ⟨b,5,none⟩=some (Iv M.fin):=Qa S.box 5 _ Z;have p:=Qe S.box 9;have q:=Qe S.box 5;have R:=Qc (S.endC k);have f:¬ X=b:=fun e=>QK a S.box (by decide) e;clear S a;refine callsD_of_wpS func82 Z fun n o d=>?_;apply wpS_seq
 apply wpS_region
 simp[wpOpsS,go_sem,recoverD,d,ntmps82,Exit.thenS]
 rw[show (#[QdJ X]++(Array.replicate 27 undef).setIfInBounds 4 (Value.iface 148 (Iv k)):Array Value)=#[QdJ X,undef,undef,undef,undef,Value.iface 148 (Iv k),undef,undef,undef,undef,undef,undef,undef,undef,undef,undef,undef,undef,undef,undef,undef,undef,undef,undef,undef,undef,undef,undef] from by kernel_rfl]
 refine wpS_of_wp ?_;have h:∀ w:World,(Instr.typeAssert (.iface 148 (Iv k)) 20 147 true).run prog w=.ok (.tuple #[.agg #[],.bool false]) w:=fun _=>by kernel_rfl
 have c:∀ w:World,(Instr.typeAssert (.iface 148 (Iv k)) 20 148 true).run prog w=.ok (.tuple #[Iv k,.bool true]) w:=fun _=>by kernel_rfl
 go_wp2
 exact(show bodyPostS _ _ _ _ _ _ _ _ _ from ⟨Z,_,Z,.tuple #[],by simp[results,results82,go_sem],Z,Z,R.out⟩)
theorem Qfb {w:World}{h:Int}(p:Blk w X #[Pv b 0] 30) (S:MAt w b most m M sc sa g) (n:∀ wx,Below w.heap.size w wx->Calls prog 83 #[Pv b 0] wx fun e w'=>e=.returned (Iv h)/\Below wx.heap.size wx w') :
 CallsD prog 82 #[QdJ X] (.panicking stuckP) w fun e u' w' =>
  e=.returned (.tuple #[])/\u'=.panicking [{ v:=.iface 147 (.agg #[]),recovered:=true }]/\XTo g w w' b most m M 20 h:=by
 have f:=Qc (QW w (.cells #[] 147));have j:=Qc (S.below f.out);have q:=Qc (S.stepB f.out);have r:(w.alloc (.cells #[] 147)).cell? ⟨X,0,none⟩=some (Pv b 0):=Qo (Qa p 0 _ Z) f.out;have o:Hid (∀ wx,Below (w.alloc (.cells #[] 147)).heap.size (w.alloc (.cells #[] 147)) wx->Calls prog 83 #[Pv b 0] wx fun e w'=>e=.returned (Iv h)/\Below wx.heap.size wx w'):=fun wx B=>n wx (f.out.trans (B.mono f.out.size));clear S p n;refine callsD_of_wpS func82 Z fun C D z=>?_;apply wpS_seq
 apply wpS_region
 simp[wpOpsS,go_sem,recoverD,z,ntmps82,Exit.thenS]
 rw[show (#[QdJ X]++(Array.replicate 27 undef).setIfInBounds 4 (Value.iface 147 (.agg #[])):Array Value)=#[QdJ X,undef,undef,undef,undef,Value.iface 147 (.agg #[]),undef,undef,undef,undef,undef,undef,undef,undef,undef,undef,undef,undef,undef,undef,undef,undef,undef,undef,undef,undef,undef,undef] from by kernel_rfl]
 refine wpS_of_wp ?_;have x:∀ w:World,(Instr.typeAssert (.iface 147 (.agg #[])) 20 147 true).run prog w=.ok (.tuple #[.agg #[],.bool true]) w:=fun _=>by kernel_rfl
 go_upto_region 7 with fail
 refine it7 r o _ _ Z (Xg (by kernel_rfl)) Z ?_;rintro k A l a c i;show wpList _ k _ [_] (QI _ A [11,12,13,14,15,16]) l;simp only[QI,Act.put,List.setIfInBounds_toArray,List.set_cons_zero,List.set_cons_succ,a,c]
 have d:=Qc (j.out.below i);have R:=Qc (XTo.then (q.out.trans (j.out.stepB i)) Z Z (d.out.stuckC h));have y:l.cell? ⟨b,10,none⟩=some (Iv sc):=Qa d.out.box 10 _ Z;have t:l.cell? ⟨b,11,none⟩=some (Iv sa):=Qa d.out.box 11 _ Z;have s:=Qe d.out.box 10;have u:=Qe d.out.box 11;clear a c i r o d j q f;go_wp2
 exact(show bodyPostS _ _ _ _ _ _ _ _ _ from ⟨Z,_,Z,.tuple #[],by simp[results,results82,go_sem],Z,Z,R.out⟩)
def Ql2 (g:MG) (w:World) (b most:Nat) (m:List (MFunc 6)) (M:IM) (r:Option IM) (e:Ending) (w':World):Prop:=e=.returned (.tuple #[])/\match r with
 | none=>XGo g w w' b most m { M with fuel:=M.fuel+1 } 20 (IM.place m M)
 | some M'=>∃ N,XGo g w w' b most m N 0 0/\N.like M'/\(M'.done=false->N=M')
theorem enters_step:Qaf 54:=fun _ _=>by kernel_rfl
theorem QeW (O:MakeArr) (S:MAt w b most m M 0 0 g) (K:IOk m n M) (hn:n<=800000) (t:(modFault m).1=0) (j:M64 m) (q:M.fuel<=most) (c:most<=100000) (B:M.done=false) :
 Calls prog 53 #[Pv b 0,.func (.func 54) #[Pv b 0] #[]] w fun e w'=>Ql2 g w b most m M (IM.step m aOp most M) e w':=by
 have ab:∀ (r:Fn) (first cap:Array Value) (w:World),(Instr.makeFunc r first cap).run prog w=.ok (.func r first cap) w:=fun _ _ _ _=>rfl;have H:=enters_step;unfold Qaf at H;have L:=Qc (QW w (.cells #[Pv b 0] 30));have E:=Qc (Qf w #[Pv b 0] 30);have V:=Qc (S.below L.out);have x:=Qc (S.stepB L.out);have v:=Qc (Qij O V.out K hn t j q c B);have HS:=Qc S;have I:=Qc K;have G:=Qc t;have y:=Qc S.lt;generalize IM.step m aOp most M=z at v |-;clear S K hn t j q c O;go_enter_defers func53,ntmps53
 go_wp2_with fail
 refine v.out.mono ?_;rintro e' l Q;have d:¬ g.A w.heap.size:=fun e=>by have:=y.out _ e;omega
 have o:w.heap.size<(w.alloc (.cells #[Pv b 0] 30)).heap.size:=by simp
 cases z with
 | none =>
   obtain⟨rfl,U,s,i,W,f2⟩:=Q
   have a:Blk l w.heap.size #[Pv b 0] 30:=(i.block _ o d).trans E.out;obtain⟨-,-,-,r,X,P,D,hi⟩:=I.out.fr M.top (by simp)
   have F:=(ZC G.out).2 r (Zm P);have hB:=F.blocks X (Zm D);have aa:=(ZC G.out).1.2
   have CP:∀ h,Below l.heap.size l h->Calls prog 83 #[Pv b 0] h fun e w'=>e=.returned (Iv (IM.place m M))/\Below h.heap.size h w':=fun h bx =>
    Qhl (M:={ M with fuel:=M.fuel+1 }) (s.below bx) (by have:=I.out.deep;show M.rest.length<=1000;omega) P D ⟨by omega,by have:=F.many.2;omega,by have:=hB.codes;omega⟩ hi
   show bodyPostD _ _ _ _ _ _;refine leaves_cons (f:=82) (args:=#[QdJ w.heap.size]) (by simp) (by simp[go_sem]) ?_;refine(Qfb a s CP).mono ?_
   rintro T C w5 ⟨rfl,rfl,u⟩;exact⟨.tuple #[],by simp[results,results53,go_sem],Z,XGo.then (x.out.trans i) u.go⟩
 | some M' =>
   rcases Q with ⟨rfl,J⟩|⟨N,k,rfl,⟨U,s,i,W,f2⟩,p⟩
   ·have R:Hid (∃ N,XGo g w l b most m N 0 0/\N.like M'/\(M'.done=false->N=M')):=⟨M',XGo.then x.out J,IM.like.refl _,fun _=>rfl⟩;clear J v H;go_wp2
    refine leaves_cons (f:=82) (args:=#[QdJ w.heap.size]) (by simp) (by simp[go_sem]) ?_;refine(QfD w.heap.size).mono ?_
    rintro T C w6 ⟨rfl,rfl,rfl⟩;exact⟨.tuple #[],by simp[results,results53,go_sem],Z,R.out⟩
   ·have a:Blk l w.heap.size #[Pv b 0] 30:=(i.block _ o d).trans E.out;show bodyPostD _ _ _ _ _ _;refine leaves_cons (f:=82) (args:=#[QdJ w.heap.size]) (by simp) (by simp[go_sem]) ?_;refine(QhA k a s).mono ?_
    rintro T C w5 ⟨rfl,rfl,u⟩;refine⟨.tuple #[],by simp[results,results53,go_sem],Z,N.over k,XGo.then (x.out.trans i) u.go,p,fun hd=>?_⟩
    have:(N.over k).done=M'.done:=p.done
    rw[hd] at this
    cases this
end
section
variable {w w' w2:World}{b most n:Nat}{m:List (MFunc 6)}{M M' N:IM}{sc sa:Int}{g g1:MG}{e:Ending}
abbrev Z4 (c a:Int):Value:=.agg #[Iv c,Iv a]
def Qnb (g:MG) (w:World) (b most:Nat) (m:List (MFunc 6)) (M:IM) (r:Option IM) (e:Ending) (w':World):Prop:=match r with
 | none=>e=.returned (Z4 20 (IM.place m M))/\XGo g w w' b most m { M with fuel:=M.fuel+1 } 20 (IM.place m M)
 | some M'=>e=.returned (Z4 0 0)/\∃ N,XGo g w w' b most m N 0 0/\N.like M'/\(M'.done=false->N=M')
theorem Zz {w:World}{a0 c:Value}(h:w.heap[R]?=some (.cells #[a0,c] 32 (0,0))) (b a:Value) :
 ((w.setCell ⟨R,0,none⟩ b).setCell ⟨R,1,none⟩ a).heap[R]?=some (.cells #[b,a] 32 (0,0)):=by
 have:=Qh (Qh h 0 b) 1 a
 simpa using this
theorem MAt.other (S:MAt w b most m M sc sa g)(j:¬ g.A R) (hb:b<=R) (s:∀ c,w.heap[R]?≠some (.cells c 2 (0,0))) (o:w.heap.size<=w'.heap.size) (f:∀ k,k≠R->k<w.heap.size->w'.heap[k]?=w.heap[k]?):MAt w' b most m M sc sa g where
 box:=(f b (fun e=>j (e ▸ S.ob.1)) (XC S.box)).trans S.box
 heap:=S.heap.keep o (fun x a i=>f x (fun e=>j (e ▸ S.oa x a)) i)
 mod:=(ZZ 6).keep (fun k d i=>f k (fun e=>by have:=d.2;omega) i) (fun _ h _=>h) S.mod
 inp:=intsL.keep (fun k d i=>f k (fun e=>by have:=d.2;omega) i) (fun _ h _=>h) S.inp
 inpC:=S.inpC
 calls:=QH S.calls (fun x a=>f x (fun e=>j (e ▸ (S.oc x a).1)) (S.lt x (S.oc x a).1))
 back:=by
  have l:∀ k,Ql8 w g.A g.lo k->k≠R:=fun k d e=>by obtain⟨c,p⟩:=d.2;subst e;exact s c p
  exact intsL.keep (fun k d i=>f k (l k d) i) (fun k d i=>⟨d.1,by obtain⟨c,p⟩:=d.2;exact⟨c,(f k (l k d) i).trans p⟩⟩) S.back
 out:=QH S.out (fun x a=>f x (fun e=>j (e ▸ (S.oo x a).1)) (S.lt x (S.oo x a).1))
 frs:=S.frs.keep (fun _ _ n q=>⟨n,q⟩) (fun y r=>by
  obtain⟨u,n,q,t⟩:=S.frs.mem y r
  exact⟨f _ (fun e=>j (e ▸ q.1)) (XC n.1),fun x a=>f x (fun e=>j (e ▸ (t x a).1)) (n.2.lt a)⟩)
 ob:=S.ob
 oc:=S.oc
 oo:=S.oo
 oa:=S.oa
 lt:=fun x a=>Zl (S.lt x a) o
 low:=Zt S.low o
theorem XGo.fault {a:World}{d:MG}(h:XGo d w1 w2 b most m N sc sa) (r:MAt a b most m M 0 0 d) (t:QE d.A d.A a w1) (i:w1.heap[a.heap.size]?=some (.cells #[Iv 0,Iv 0] 32 (0,0))) :
 w2.heap[a.heap.size]?=some (.cells #[Iv 0,Iv 0] 32 (0,0))/\∀ x0 x1:Value,XGo d a ((w2.setCell ⟨a.heap.size,0,none⟩ x0).setCell ⟨a.heap.size,1,none⟩ x1) b most m N sc sa:=by
 obtain⟨q,s,p⟩:=h
 have o:=XC i;have f:¬ d.A a.heap.size:=fun e=>by have:=r.lt _ e;omega
 have n:¬ q.A a.heap.size:=fun e=>by rcases p.own _ e with e | e;exact f e;omega
 have j:=(p.block _ o f).trans i;refine⟨j,fun x0 x1=>⟨q,?_,?_⟩⟩
 ·refine s.other n (Nat.le_of_lt (XC r.box)) (fun c e=>?_) (by simp) (fun k l _=>by rw[Xd _ _ _ _ l,Xd _ _ _ _ l]);rw[j] at e
  simp at e
 ·have T:=t.trans p;refine⟨T.os,T.tape,T.output,by have:=T.size;simp;omega,fun k l u=>?_,T.own⟩
  have g:k≠a.heap.size:=by omega
  rw[Xd _ _ _ _ g,Xd _ _ _ _ g]
  exact T.block k l u
theorem Qin (W:MakeArr) (S:MAt w b most m M 0 0 g) (K:IOk m n M) (hn:n<=800000) (T:(modFault m).1=0) (s:M64 m) (y:M.fuel<=most) (l:most<=100000) (j:M.done=false) :
 Calls prog 17 #[Pv b 0] w fun e w'=>Qnb g w b most m M (IM.step m aOp most M) e w':=by
 have aa:∀ (fn:Fn) (first cap:Array Value) (w:World),(Instr.makeFunc fn first cap).run prog w=.ok (.func fn first cap) w:=fun _ _ _ _=>rfl;have I:=Qc (QW w (.cells #[Iv 0,Iv 0] 32));have C:=Qc (Qf w #[Iv 0,Iv 0] 32);have z:=Qc (S.below I.out);have H:=Qc (S.stepB I.out);have A:=Qc (QeW W z.out K hn T s y l j);have O:=Qc S.lt;have q:=Qc S;have B:(w.alloc (.cells #[Iv 0,Iv 0] 32)).cell? ⟨b,9,none⟩=some (.bool M.done):=Qa z.out.box 9 _ Z;have c:(w.alloc (.cells #[Iv 0,Iv 0] 32)).cell? ⟨b,10,none⟩=some (Iv 0):=Qa z.out.box 10 _ Z;rw[j] at B
 generalize IM.step m aOp most M=P at A |-;clear S K hn T s y l W j;go_enter func17,ntmps17
 go_upto_region 1 with fail
 have p:w.heap.size<(w.alloc (.cells #[Iv 0,Iv 0] 32)).heap.size:=by simp
 generalize w.alloc (.cells #[Iv 0,Iv 0] 32)=w1 at I C z H A B c p |-;clear p O;generalize U:w.heap.size=R at C |-;have E:=Qc U;clear U;go_upto_region 3 with (go_at_call 53;refine A.out.mono ?_;rintro e' k ⟨rfl,G⟩)
 clear A B c;have d:w1.heap[w.heap.size]?=some (.cells #[Iv 0,Iv 0] 32 (0,0)):=by rw[E.out];exact C.out
 cases P with
 | none =>
   obtain⟨a,i⟩:=G.fault q.out H.out d
   rw[E.out] at a i
   obtain⟨g2,h,D⟩:=G
   have c:k.cell? ⟨b,10,none⟩=some (Iv 20):=Qa h.box 10 _ Z;have o:k.cell? ⟨b,11,none⟩=some (Iv (IM.place m M)):=Qa h.box 11 _ Z;have r0:=Qa a 0 _ Z;have r1:=Qa a 1 _ Z;have z0:=Qe a 0;have z1:=Qe a 1;have F:=Qc (i (Iv 20) (Iv (IM.place m M)));have J:=Qc a;clear a i h D d;obtain⟨x,f⟩:∃ x,IM.place m M=x:=⟨_,Z⟩
   rw[f] at o F
   have r:=Qc f;clear f;go_wp2_with fail
   have X:=Qc (Zz J.out (Iv 20) (Iv x));generalize (k.setCell ⟨R,0,none⟩ (Iv 20)).setCell ⟨R,1,none⟩ (Iv x)=w3 at F X |-;have L:=Qa X.out 0 _ Z;have Q:=Qa X.out 1 _ Z;exact Xy (v:=Z4 20 x) (by simp[results,results17,go_sem,L,Q]) Z ⟨by rw[r.out],by rw[r.out];exact F.out⟩
 | some M' =>
   obtain⟨N,V,t,u⟩:=G
   obtain⟨a,i⟩:=V.fault q.out H.out d
   rw[E.out] at a i
   obtain⟨g2,h,D⟩:=V
   have c:k.cell? ⟨b,10,none⟩=some (Iv 0):=Qa h.box 10 _ Z;have o:k.cell? ⟨b,11,none⟩=some (Iv 0):=Qa h.box 11 _ Z;have r0:=Qa a 0 _ Z;have r1:=Qa a 1 _ Z;have z0:=Qe a 0;have z1:=Qe a 1;have F:=Qc (Xh (i (Iv 0) (Iv 0)) (Xh t u));have J:=Qc a;clear a i h D d t u;go_wp2_with fail
   have X:=Qc (Zz J.out (Iv 0) (Iv 0));generalize (k.setCell ⟨R,0,none⟩ (Iv 0)).setCell ⟨R,1,none⟩ (Iv 0)=w3 at F X |-;have L:=Qa X.out 0 _ Z;have Q:=Qa X.out 1 _ Z;exact Xy (v:=Z4 0 0) (by simp[results,results17,go_sem,L,Q]) Z ⟨Z,N,F.out.1,F.out.2.1,F.out.2.2⟩
theorem QhQ (S:MAt w b most m M sc sa g):Calls prog 19 #[Pv b 0] w fun e w'=>e=.returned (.bool M.done)/\w'=w:=by
 have c:w.cell? ⟨b,9,none⟩=some (.bool M.done):=Qa S.box 9 _ Z;clear S;generalize M.done=a at *;go_enter func19,ntmps19
 go_wp2
 go_ret;exact⟨Z,Z⟩
end
def QbO (w:World) (l:List Int) (e:Ending) (w':World):Prop:=∃ a cap,e=.returned (.slice a l.length cap)/\l.length<=cap/\w'.ownsRow 0 2 1 (.slice a l.length cap) l.length (l.map (Value.int .i64))/\(∀ x,(Value.slice a l.length cap).ownBlock=some x->w.heap.size<=x)/\Below w.heap.size w w'
theorem QgX (h:w.ownsRow 0 2 1 (.slice a l.length cap) l.length (l.map (Value.int .i64))) (c:∀ x∈l,Zp x) (m:∀ x,(Value.slice a l.length cap).ownBlock=some x->O x):intsL.In w O l [.slice a l.length cap]:=by
 refine⟨a,cap,Z,fun i x b=>?_⟩
 have r:=(Zi b).1;rcases h.2 with ⟨e,t⟩|⟨g,s,n,e,_,f,u,p,q,o⟩
 ·omega
 ·rw[Value.slice.injEq] at e
  obtain⟨rfl,-,rfl⟩:=e
  refine⟨g,0,[Iv x],Z,m g Z,XC f,fun j d=>?_,Z,c x (Zm b)⟩
  have d:j<1:=d
  have:j=0:=by omega
  subst this;show w.cell? ⟨g,0+i*1+0,none⟩=_;rw[XK,XL,Nat.add_zero]
  have k:(l.map (Value.int .i64))[i]?=some (Iv x):=by rw[XS,b];rfl
  rw[<-o,XR,Xs (by omega),Array.getElem?_toList] at k
  exact Qa f _ _ k
theorem QhS (h:∀ i,i<l.length->∃ g o,p=some ⟨g,o,none⟩/\w.cell? ⟨g,o+i,none⟩=some (Iv (l.getD i 0))) (hn:l.length<=1000000) :
 Calls prog 48 #[.slice p l.length c] w fun e w'=>QbO w l e w':=by
 obtain⟨i0,hi,z,I,B⟩:=iInfo64
 have q:∀ (w:World) (a:Option Addr) (n c C D:Nat),(binOp .eql 25 (.slice a n c) (.slice none C D)).run prog w=.ok (.bool a.isNone) w:=fun w a n c C D=>Lib.run_eql_slice_nil w _ _ a n c C D iUnder64
 cases p with
 | none =>
   have H:l=[]:=by
    cases l with
    | nil=>rfl
    | cons y T =>
      obtain⟨g,o,e,-⟩:=h 0 (by simp)
      cases e
   subst H;clear h;go_enter func48,ntmps48
   go_wp2
   go_ret;exact⟨none,0,Z,Ze,⟨Z,.inl ⟨Z,Z⟩⟩,fun x G=>by simp[Value.ownBlock] at G,Zr⟩
 | some ad =>
   have O:Hid (∀ (j:Nat) (u:Value),(l.map (Value.int .i64))[j]?=some u->(w.alloc (.cells #[] 2)).cell? (ad.add j)=some u):=by
    intro j u t;rw[XS] at t
    obtain⟨y,K,rfl⟩:=Option.map_eq_some_iff.1 t
    have U:=(Zi K).1;obtain⟨g,o,e,X⟩:=h j U
    cases e
    rw[Addr.add_lit]
    refine Lib.cell?_alloc_some _ ?_;rw[X]
    simp[List.getD,K]
   have N:Hid (∀ u∈l.map (Value.int .i64),u.oneCell'=true):=by intro u t;obtain⟨x,_,rfl⟩:=List.mem_map.1 t;rfl
   have J:Hid ((l.map (Value.int .i64)).length=l.length*1):=by show _=_;simp
   have f:=Qc (QW w (.cells #[] 2));have L:Hid ((w.alloc (.cells #[] 2)).heap.size=w.heap.size+1):=by show _=_;simp
   clear h;generalize m:l.map (Value.int .i64)=T at *;have F:=Qc m;generalize r:l.length=W at *;have E:=Qc r;clear m r;go_enter func48,ntmps48
   go_wp2_with (at_builtin;refine ZD _ Z _ _ 25 Z 2 i0 (Iv 0) 1 8 iUnder64 hi z I B Z (by decide) _ _ _ Z (World.ownsRow_made w #[] 0 (Xb _) (Xb _) Z) ad W c T Z J.out O.out N.out (by unfold maxLen;omega) (by omega) ?_)
   intro S Q v d P
   have R:Hid (QbO w l (.returned S) Q):=by
    have b:Q.ownsRow 0 2 1 S l.length (l.map (Value.int .i64)):=by rw[F.out,E.out];simpa using v
    obtain⟨M,A,rfl⟩:=Qa1 b
    have s:l.length<=A:=by
     rcases b.2 with ⟨e,e0⟩|⟨g,cp,V,e,_,hh,aa,_⟩
     ·rw[Value.slice.injEq] at e;omega
     ·rw[Value.slice.injEq] at e;omega
    refine⟨M,A,Z,s,b,fun x G=>?_,?_⟩
    ·rcases P x G with e | e
     ·simp[Value.ownBlock] at e;omega
     ·have:=L.out;omega
    ·refine⟨d.os.trans f.out.os,d.tape.trans f.out.tape,d.output.trans f.out.output,Zt f.out.size d.size,fun k hk=>(d.block k (by have:=L.out;omega) (fun e=>by simp[Value.ownBlock] at e;omega)).trans (f.out.block k hk)⟩
   obtain⟨M,A,rfl⟩:=Qa1 v
   clear v d P O N J f;go_wp2
   go_ret;exact R.out
theorem QbV (h:intsL.In w Q l [.slice p l.length c]) (hn:l.length<=1000000) :
 Calls prog 48 #[.slice p l.length c] w fun e w'=>QbO w l e w' :=
 QhS (fun i a=>by obtain⟨g,o,e,-,-,b⟩:=ZJ h a;exact⟨g,o,e,b⟩) hn
def Qjn (lo:Nat) (l:List Int) (v:Value) (w:World):Prop:=∃ a cap,v=.slice a l.length cap/\l.length<=cap/\w.ownsRow 0 2 1 (.slice a l.length cap) l.length (l.map (Value.int .i64))/\∀ x,(Value.slice a l.length cap).ownBlock=some x->lo<=x
theorem Qjn.below {lo:Nat}{w w':World}(h:Qjn lo l v w) (b:Below w.heap.size w w'):Qjn lo l v w':=by
 obtain⟨a,c,i,f,d,g⟩:=h
 exact⟨a,c,i,f,QH d (fun x e=>b.block x (XC (QJ d e).choose_spec)),g⟩
def QnI (w6:World) (Z cb co:Nat) (pb po:Option Addr) (lb lo:List Int) (t:Tmp) (v:Value) (w:World):Prop :=
 match ([(10,Qjn w6.heap.size lb),(13,Qjn w6.heap.size lo)]:List (Tmp × (Value->World->Prop))).lookup t with
 | some p=>p v w
 | none=>v=(([(3,.pointer (some ⟨Z,0,none⟩)),(8,.pointer (some ⟨Z,1,none⟩)),(9,.slice pb lb.length cb),(11,.pointer (some ⟨Z,2,none⟩)),(12,.slice po lo.length co),(14,.pointer (some ⟨Z,1,none⟩))]:List (Tmp × Value)).lookup t).getD undef
theorem io2 {Z q A:Nat}{u o:Option Addr}{g lo:List Int}(H:w6.cell? ⟨Z,1,none⟩=some (.slice u g.length q)) (G:w6.cell? ⟨Z,2,none⟩=some (.slice o lo.length A)) (C:Hid (∀ wx,Below w6.heap.size w6 wx->Calls prog 48 #[.slice u g.length q] wx fun e w'=>QbO wx g e w')) (E:Hid (∀ wx,Below w6.heap.size w6 wx->Calls prog 48 #[.slice o lo.length A] wx fun e w'=>QbO wx lo e w')){Q:Exit->Act->World->Prop}
 (a:Act) (m:Nat) (hn:a.tmps.size=m) (z:17<=m) (i:a.tmps.getD 3 undef=Pv Z 0)
 (hend:∀ ops vs w',(Qjn w6.heap.size g) (vs 10) w'->(Qjn w6.heap.size lo) (vs 13) w'->vs 14=Pv Z 1->Below w6.heap.size w6 w'->wpList prog ops Q (QaR 7 ((Tryz.f23.body.bind (Qg 2)).getD .skip)) (QI a vs [8,9,10,11,12,13,14]) w') :
 Code.wp prog ((Tryz.f23.body.bind (Qg 2)).getD .skip) Q a w6:=by
 conv=>arg 2;whnf
 refine Qm 7 (QnI w6 Z q A u o g lo) (fun w=>Below w6.heap.size w6 w) (fun w w'=>Below w.heap.size w w') (outs:=[3]) (gs:=[]) (bs:=[true,true,true,true,true,true,true]) (by kernel_rfl) (n:=17) hn z (by kernel_rfl) (by kernel_rfl) ?hR ?hG (Qs Zr 1) ⟨i,Y⟩ ?hA ?hend
 case hR =>
  intro t v w w' B h;unfold QnI at h |-;split at h
  ·rename_i p d
   simp only[List.lookup_cons,List.lookup_nil] at d
   split at d
   ·cases d;exact h.below B
   ·split at d
    ·cases d;exact h.below B
    ·cases d
  ·exact h
 case hG=>exact Y
 case hend=>exact fun ops vs w' b c=>hend ops vs w' (c 10 (by kernel_rfl)) (c 13 (by kernel_rfl)) (c 14 (by kernel_rfl)) b
 case hA =>
  repeat
   refine⟨fun a w b c K y=>?_,?_⟩
   focus first
    | obtain⟨j,-⟩:=c
      conv at j=>whnf;rhs;whnf
      have I:=Qo H b;have J:=Qo G b;go_simp;exact y _ _ Zr b Yz
    | obtain⟨j,-⟩:=c
      conv at j=>whnf;rhs;whnf
      go_simp;refine Xm (C.out w b) ?_;rintro F D ⟨k,l,rfl,s,r,i,f⟩;go_simp;exact y _ _ f (b.trans (f.mono b.size)) ⟨k,l,Yz,s,r,fun x hx=>Zt b.size (i x hx)⟩
    | obtain⟨j,-⟩:=c
      conv at j=>whnf;rhs;whnf
      go_simp;refine Xm (E.out w b) ?_;rintro F D ⟨k,l,rfl,s,r,i,f⟩;go_simp;exact y _ _ f (b.trans (f.mono b.size)) ⟨k,l,Yz,s,r,fun x hx=>Zt b.size (i x hx)⟩
  trivial
section
variable {w w' w2:World}{b most n:Nat}{m:List (MFunc 6)}{M M' N:IM}{sc sa:Int}{g g1:MG}{e:Ending}
def Qny (lo:Nat) (M:IM) (v:Value) (w:World):Prop:=∃ vb vo,v=.agg #[Iv M.fin,vb,vo,Iv M.fuel]/\Qjn lo M.back vb w/\Qjn lo M.out vo w
theorem QcP {w:World}{a0 e g f:Value}(h:w.heap[R]?=some (.cells #[a0,e,g,f] 44 (0,0))) (b d a c:Value) :
 ((((w.setCell ⟨R,0,none⟩ b).setCell ⟨R,1,none⟩ d).setCell ⟨R,2,none⟩ a).setCell ⟨R,3,none⟩ c).heap[R]?=some (.cells #[b,d,a,c] 44 (0,0)):=by
 have:=Qh (Qh (Qh (Qh h 0 b) 1 d) 2 a) 3 c
 simpa using this
theorem Qfe (S:MAt w b most m M sc sa g) (ho:M.out.length<=1000000) (hb:M.back.length<=1000000) (ad:∀ x∈M.out,Zp x) :
 Calls prog 23 #[Pv b 0] w fun e w'=>∃ v,e=.returned v/\Qny w.heap.size M v w'/\Below w.heap.size w w':=by
 obtain⟨po,co,eo⟩:=Qa1 S.out
 obtain⟨U,W,N,-⟩:=S.back
 have N:g.vb=.slice U M.back.length W:=by simpa using N
 have J:=Qc (QW w (.cells #[Iv 0,Nv,Nv,Iv 0] 44));have BR:=Qc (Qf w #[Iv 0,Nv,Nv,Iv 0] 44);have z:=S.below J.out;have q5:=Qa z.box 5 _ Yz;have q6:(w.alloc (.cells #[Iv 0,Nv,Nv,Iv 0] 44)).cell? ⟨b,6,none⟩=some g.vb:=Qa z.box 6 _ Yz;have q7:(w.alloc (.cells #[Iv 0,Nv,Nv,Iv 0] 44)).cell? ⟨b,7,none⟩=some g.vo:=Qa z.box 7 _ Yz;have q8:=Qa z.box 8 _ Yz;rw[N] at q6
 rw[eo] at q7
 have HB:=Qc z.back;have HO:=Qc z.out;rw[N] at HB
 rw[eo] at HO
 have ah:=Qc ad;clear S z eo N ad;go_enter func23,ntmps23
 go_upto_region 1 with fail
 generalize w.alloc (.cells #[Iv 0,Nv,Nv,Iv 0] 44)=K at J BR q5 q6 q7 q8 HB HO |-;generalize hR:w.heap.size=R at BR |-;have HR:=Qc hR;clear hR;have I:=Qc (QW K (.cells #[Iv M.fin,.slice U M.back.length W,.slice po M.out.length co,Iv M.fuel] 44));have G:=Qc (Qf K #[Iv M.fin,.slice U M.back.length W,.slice po M.out.length co,Iv M.fuel] 44);go_upto_region 2 with fail
 have u:Hid (R≠K.heap.size):=by show _≠_;have:=XC BR.out;omega
 have E:Hid (w.heap.size<=K.heap.size):=J.out.size;generalize K.alloc (.cells #[Iv M.fin,.slice U M.back.length W,.slice po M.out.length co,Iv M.fuel] 44)=H at I G |-;generalize K.heap.size=Z at G u E |-;have CB:Hid (∀ l,Below H.heap.size H l->Calls prog 48 #[.slice U M.back.length W] l fun e w'=>QbO l M.back e w'):=fun l bx=>QbV (Ya (Ya HB.out I.out) bx) hb;have CO:Hid (∀ l,Below H.heap.size H l->Calls prog 48 #[.slice po M.out.length co] l fun e w'=>QbO l M.out e w'):=fun l bx=>QbV (Ya (Ya (QgX (O:=fun _=>True) HO.out ah.out (fun _ _=>trivial)) I.out) bx) ho;have F:=Qc (J.out.trans (I.out.mono J.out.size));have af:=Qc (Blk.below BR.out I.out);refine io2 (Qa G.out 1 _ Yz) (Qa G.out 2 _ Yz) CB CO _ _ Yz (Xg (by kernel_rfl)) Yz ?_;rintro ai vs o ⟨f,h,t,L,ac,V⟩ ⟨i,a,s,Q,aa,P⟩ r b5;show wpList _ ai _ [_,_,_] (QI _ vs [8,9,10,11,12,13,14]) o;simp only[QI,Act.put,List.setIfInBounds_toArray,List.set_cons_zero,List.set_cons_succ,t,s,r]
 have c:=Blk.below G.out b5;have aj:=Qc (Blk.below af.out b5);have B5:=Qc (F.out.trans (b5.mono F.out.size));have ag:Hid (Z<H.heap.size):=XC G.out;have D:=Qc (Xh ac V);have C:=Qc (Xh aa P);have ae:=Qc (Xh L Q);have k0:=Qa c 0 _ Yz;have k1:=Qa c 1 _ Yz;have k2:=Qa c 2 _ Yz;have k3:=Qa c 3 _ Yz;have y0:=Qe c 0;have y1:=Qe c 1;have y2:=Qe c 2;have y3:=Qe c 3;have B:=Qh (Qh c 1 (.slice f M.back.length h)) 2 (.slice i M.out.length a);have B:Hid (((o.setCell ⟨Z,1,none⟩ (.slice f M.back.length h)).setCell ⟨Z,2,none⟩ (.slice i M.out.length a)).heap[Z]?=some (.cells #[Iv M.fin,.slice f M.back.length h,.slice i M.out.length a,Iv M.fuel] 44 (0,0))):=B.trans (by simp);have A:Hid (∀ k,k≠Z->((o.setCell ⟨Z,1,none⟩ (.slice f M.back.length h)).setCell ⟨Z,2,none⟩ (.slice i M.out.length a)).heap[k]?=o.heap[k]?):=fun k y=>by rw[Xd _ _ _ _ y,Xd _ _ _ _ y]
 have ak:Hid (o.heap.size=((o.setCell ⟨Z,1,none⟩ (.slice f M.back.length h)).setCell ⟨Z,2,none⟩ (.slice i M.out.length a)).heap.size):=by show _=_;simp
 have T:Hid (Below w.heap.size w ((o.setCell ⟨Z,1,none⟩ (.slice f M.back.length h)).setCell ⟨Z,2,none⟩ (.slice i M.out.length a))):=(B5.out.setCell (p:=⟨Z,1,none⟩) E.out _).setCell (p:=⟨Z,2,none⟩) E.out _;clear t s r L ac V Q aa P b5 CB CO c G q5 q6 q7 q8 HB HO J I;go_upto_region 3 with fail
 generalize (o.setCell ⟨Z,1,none⟩ (.slice f M.back.length h)).setCell ⟨Z,2,none⟩ (.slice i M.out.length a)=w6 at B A ak T |-;clear k0 k1 k2 k3 y0 y1 y2 y3;have d:=Qc ((A.out R u.out).trans aj.out);have e0:=Qa B.out 0 _ Yz;have e1:=Qa B.out 1 _ Yz;have e2:=Qa B.out 2 _ Yz;have e3:=Qa B.out 3 _ Yz;have r0:=Qa d.out 0 _ Yz;have r1:=Qa d.out 1 _ Yz;have r2:=Qa d.out 2 _ Yz;have r3:=Qa d.out 3 _ Yz;have z0:=Qe d.out 0;have z1:=Qe d.out 1;have z2:=Qe d.out 2;have z3:=Qe d.out 3;have al:¬ R=Z:=u.out;go_wp2_with fail
 have X9:=QcP d.out (Iv M.fin) (.slice f M.back.length h) (.slice i M.out.length a) (Iv M.fuel);have n:w.heap.size<=R:=by rw[HR.out];exact Ze
 have B9:=(((T.out.setCell (p:=⟨R,0,none⟩) n (Iv M.fin)).setCell (p:=⟨R,1,none⟩) n (.slice f M.back.length h)).setCell (p:=⟨R,2,none⟩) n (.slice i M.out.length a)).setCell (p:=⟨R,3,none⟩) n (Iv M.fuel);have O9:∀ k,k≠R->((((w6.setCell ⟨R,0,none⟩ (Iv M.fin)).setCell ⟨R,1,none⟩ (.slice f M.back.length h)).setCell ⟨R,2,none⟩ (.slice i M.out.length a)).setCell ⟨R,3,none⟩ (Iv M.fuel)).heap[k]?=w6.heap[k]?:=fun k y=>by rw[Xd _ _ _ _ y,Xd _ _ _ _ y,Xd _ _ _ _ y,Xd _ _ _ _ y]
 generalize ((((w6.setCell ⟨R,0,none⟩ (Iv M.fin)).setCell ⟨R,1,none⟩ (.slice f M.back.length h)).setCell ⟨R,2,none⟩ (.slice i M.out.length a)).setCell ⟨R,3,none⟩ (Iv M.fuel))=w9 at X9 B9 O9 |-
 have j:∀ x,H.heap.size<=x->w9.heap[x]?=o.heap[x]?:=fun x q=>by
  have h1:=ag.out;have h2:=XC af.out;exact(O9 x (by omega)).trans (A.out x (by omega))
 have f0:=Qa X9 0 _ Yz;have f1:=Qa X9 1 _ Yz;have f2:=Qa X9 2 _ Yz;have f3:=Qa X9 3 _ Yz;have X:=F.out.size;exact Xy (v:=.agg #[Iv M.fin,.slice f M.back.length h,.slice i M.out.length a,Iv M.fuel]) (by simp[results,results23,go_sem,f0,f1,f2,f3]) Yz ⟨_,Yz,⟨_,_,Yz,⟨f,h,Yz,ae.out.1,QH D.out.1 (fun x q=>j x (D.out.2 x q)),fun x q=>Zt X (D.out.2 x q)⟩,⟨i,a,Yz,ae.out.2,QH C.out.1 (fun x q=>j x (C.out.2 x q)),fun x q=>Zt X (C.out.2 x q)⟩⟩,B9⟩
end
section
variable {m:List (MFunc 6)}{op:Int->Int->Int->Option Int}{most:Nat}
theorem steps_snoc:∀ (k:Nat) (M:IM),IM.steps m op most (k+1) M=(match IM.steps m op most k M with | none=>none | some N=>if N.done then some N else N.step m op most)
 | 0,M=>by
   show (if M.done then some M else match M.step m op most with | none=>none | some M'=>some M')=if M.done then some M else M.step m op most
   by_cases h:M.done=true
   ·rw[Xs h,Xs h]
   ·rw[Xr h,Xr h];cases M.step m op most<;>rfl
 | k+1,M=>by
   have a:IM.steps m op most (k+1+1) M=if M.done then some M else match M.step m op most with | none=>none | some M'=>M'.steps m op most (k+1):=rfl
   have b:IM.steps m op most (k+1) M=if M.done then some M else match M.step m op most with | none=>none | some M'=>M'.steps m op most k:=rfl
   rw[a,b]
   by_cases h:M.done=true
   ·rw[Xs h,Xs h];simp[h]
   ·rw[Xr h,Xr h]
    cases M.step m op most with
    | none=>rfl
    | some M'=>exact steps_snoc k M'
theorem Qew {M N:IM}(h:IM.steps m op most k M=some N) (a:N.done=false):IM.steps m op most (k+1) M=N.step m op most:=by
 rw[steps_snoc,h]
 simp[a]
theorem Qbm {M:IM}:∀ {k j:Nat},IM.steps m op most k M=none->IM.steps m op most (k+j) M=none
 | k,0,h=>h
 | k,j+1,h=>by rw[<-Nat.add_assoc,steps_snoc,Qbm (j:=j) h]
theorem Qbd {M N:IM}:∀ {k j:Nat},IM.steps m op most k M=some N->N.done=true->IM.steps m op most (k+j) M=some N
 | k,0,h,_=>h
 | k,j+1,h,hd=>by rw[<-Nat.add_assoc,steps_snoc,Qbd (j:=j) h hd];simp[hd]
theorem Qbv (g:(modFault m).1=0) (d:M64 m) (e:∀ k a b c,op k a b=some c->Zp a->Zp b->Zp c){M:IM}(I:IOk m 0 M):∀ (k:Nat){N:IM},k<=30000->IM.steps m op most k M=some N->IOk m (28*k) N
 | 0,N,_,h=>by cases h;exact I
 | k+1,N,hk,h=>by
   rw[steps_snoc] at h
   cases hs:IM.steps m op most k M with
   | none=>rw[hs] at h;cases h
   | some N' =>
     rw[hs] at h
     simp only at h
     have J:=Qbv g d e I k (by omega) hs;by_cases f:N'.done=true
     ·rw[Xs f] at h;cases h;exact J.mono (by omega)
     ·rw[Xr f] at h
      exact(QjP J (by omega) g d e N h).mono (by omega)
end
def QnT (w:World) (m:List (MFunc 6)) (inp:List Int) (fuel pages:Nat) (e:Ending) (w':World):Prop :=
 ∃ b g,e=.returned (.tuple #[Pv b 0,Z4 0 0])/\MAt w' b fuel m (IM.start inp pages) 0 0 g/\(∀ x,g.A x->w.heap.size<=x)/\Below w.heap.size w w'
def Qeb (m:List (MFunc 6)) (most:Nat) (M0:IM) (sa:Int):Prop:=∃ k N,k<=most+1/\IM.steps m aOp most k M0=some N/\N.done=false/\IM.step m aOp most N=none/\sa=IM.place m N
structure Qea (wL w:World) (b F most:Nat) (m:List (MFunc 6)) (M0 N:IM) (sc sa:Int) (g:MG):Prop where
 at_:MAt w b most m N sc sa g
 far:∀ x,g.A x->wL.heap.size<=x
 bel:Below wL.heap.size wL w
 box:Blk w F #[Iv sc,Iv sa] 32
 apart:¬ g.A F
 farF:wL.heap.size<=F/\b<=F
 st:(sc=0/\sa=0/\∃ k M',k<=most+1/\IM.steps m aOp most k M0=some M'/\N.like M'/\(M'.done=false->N=M'/\M'.fuel=k))\/(sc=20/\Qeb m most M0 sa)
def boolOf:Value->Bool
 | .bool b=>b
 | _=>false
def Qgi (b F most:Nat) (w:World):Nat:=if boolOf ((w.cell? ⟨b,9,none⟩).getD undef) then 0 else if intOf ((w.cell? ⟨F,0,none⟩).getD undef)=0 then most+1 - (intOf ((w.cell? ⟨b,8,none⟩).getD undef)).toNat+1 else 0
section
variable {wL w w':World}{b F most:Nat}{m:List (MFunc 6)}{M0 N:IM}{sc sa:Int}{g:MG}
theorem Qea.left (R:Qea wL w b F most m M0 N sc sa g):Qgi b F most w=if N.done then 0 else if sc=0 then most+1 - N.fuel+1 else 0:=by
 unfold Qgi;have e:w.cell? ⟨b,9,none⟩=some (.bool N.done):=Qa R.at_.box 9 _ Z;have f:w.cell? ⟨b,8,none⟩=some (Iv N.fuel):=Qa R.at_.box 8 _ Z;have d:=Qa R.box 0 _ Z;rw[e,f,d]
 by_cases a:N.done=true
 ·simp[a,boolOf]
 ·by_cases c:sc=0
  ·simp[a,c,intOf,boolOf]
  ·simp[a,c,intOf,boolOf]
def QeM (w:World) (m:List (MFunc 6)) (inp:List Int) (most pages:Nat) (e:Ending) (w':World):Prop:=Below w.heap.size w w' /\
 ((∃ sa:Int,Qeb m most (IM.start inp pages) sa/\e=.returned (.tuple #[.agg #[Iv 0,Nv,Nv,Iv 0],Z4 20 sa])) \/
  ∃ k M',k<=most+1/\IM.steps m aOp most k (IM.start inp pages)=some M'/\M'.done=true/\∃ v,Qny w.heap.size M' v w'/\e=.returned (.tuple #[v,Z4 0 0]))
theorem Qea.go (CM:MakeArr) (J:(modFault m).1=0) (s:M64 m) (Q:most<=20000) (W:IOk m 0 M0) (S:M0.fuel=0) (R:Qea wL w b F most m M0 N 0 sa g) (y:N.done=false) :
 Calls prog 17 #[Pv b 0] w fun e w'=>∃ c a,e=.returned (Z4 c a)/\Blk w' F #[Iv 0,Iv sa] 32/\(∃ N' g',Qea wL ((w'.setCell ⟨F,0,none⟩ (Iv c)).setCell ⟨F,1,none⟩ (Iv a)) b F most m M0 N' c a g'/\(N'.done=false->c=0->N'.fuel=N.fuel+1))/\N.fuel<=most:=by
 rcases R.st with ⟨-,C,k,n,z,v,T,X⟩|⟨h,-⟩
 rotate_left
 ·cases h
 subst C;have D:n.done=false:=by rw[<-T.done];exact y
 obtain⟨e1,U⟩:=X D
 subst e1;have f:=(Qa7 (op:=aOp) (m:=m) k (M:=M0) (by omega) v).2.1;have K:=Qbv J s (fun k a b c h ha V=>Qg6 ha V h) W k (by omega) v;refine(Qin CM (R.at_) K (by omega) J s f (by omega) y).mono (fun e w' h=>?_)
 have E:=XC R.box;have G:=Qew v y
 have t:∀ {N':IM} {c a:Int},XGo g w w' b most m N' c a->((c=0/\a=0/\∃ k n,k<=most+1/\IM.steps m aOp most k M0=some n/\N'.like n/\(n.done=false->N'=n/\n.fuel=k))\/(c=20/\Qeb m most M0 a))->Blk w' F #[Iv 0,Iv 0] 32/\∃ g',Qea wL ((w'.setCell ⟨F,0,none⟩ (Iv c)).setCell ⟨F,1,none⟩ (Iv a)) b F most m M0 N' c a g':=by
  intro N' c a j d;obtain⟨g',S',l⟩:=j
  have r:¬ g'.A F:=fun e=>by rcases l.own _ e with e | e;exact R.apart e;omega
  have o:=(l.block F E R.apart).trans R.box;refine⟨o,g',⟨?_,?_,?_,Zz o _ _,r,R.farF,d⟩⟩
  ·refine S'.other r R.farF.2 (fun cc P=>?_) (by simp) (fun k z _=>by rw[Xd _ _ _ _ z,Xd _ _ _ _ z]);rw[o] at P
   simp at P
  ·intro x j;rcases l.own x j with e | e
   ·exact R.far x e
   ·have:=R.bel.size;omega
  ·have b1:Below wL.heap.size wL w':=⟨l.os.trans R.bel.os,l.tape.trans R.bel.tape,l.output.trans R.bel.output,Zt R.bel.size l.size,fun x j=>(l.block x (by have:=R.bel.size;omega) (fun e=>by have:=R.far x e;omega)).trans (R.bel.block x j)⟩;exact(b1.setCell (p:=⟨F,0,none⟩) R.farF.1 _).setCell (p:=⟨F,1,none⟩) R.farF.1 _
 cases d:IM.step m aOp most N with
 | none =>
   rw[d] at h G
   obtain⟨rfl,j⟩:=h
   obtain⟨H,g',B⟩:=t j (.inr ⟨Z,k,N,z,v,y,d,Z⟩)
   exact⟨20,_,Z,H,⟨_,g',B,fun _ i=>by cases i⟩,f⟩
 | some M1 =>
   rw[d] at h G
   obtain⟨rfl,N',j,q,I⟩:=h
   have L:=Qct f d
   have u:M1.done=false->M1.fuel=N.fuel+1:=fun i=>by
    rcases Nat.lt_or_ge N.fuel most with O | O
    ·exact L.2.1 O
    ·have:=L.1 (by omega)
     rw[this] at i
     cases i
   obtain⟨H,g',B⟩:=t j (.inl ⟨Z,Z,k+1,M1,by omega,G,q,fun i=>⟨I i,by rw[u i];omega⟩⟩)
   refine⟨0,0,Z,H,⟨N',g',B,fun i _=>?_⟩,f⟩
   rw[q.fuel]
   exact u (by rw[<-q.done];exact i)
theorem QjN {w:World}(CM:MakeArr) (hm:(modFault m).1=0) (aq:M64 m) (L:most<=20000) (I0:IOk m 0 (IM.start inp pages))
 (CN:∀ wx,Below w.heap.size w wx->Calls prog 13 #[.agg #[.slice pm m.length cm],.slice pi inp.length ci,Iv (most:Int),Iv (pages:Int)] wx fun e w'=>QnT wx m inp most pages e w') :
 Calls prog 24 #[.agg #[.slice pm m.length cm],.slice pi inp.length ci,Iv (most:Int),Iv (pages:Int)] w fun e w'=>QeM w m inp most pages e w':=by
 have a3:Hid MakeArr:=CM;have HM:=Qc (Xh hm aq);have HI:=Qc I0;have ah:=Qc L;have ay:=Qc CN;have B3:=Qc ((Qak w (.cells #[.slice pm m.length cm] 24) (.cells #[Iv 0,Nv,Nv,Iv 0] 44)).alloc (by simp;omega) (.cells #[Iv 0,Iv 0] 32));clear CM hm aq L I0 CN;go_enter func24,ntmps24
 go_upto_region 1 with fail
 have ak:((w.alloc (.cells #[.slice pm m.length cm] 24)).alloc (.cells #[Iv 0,Nv,Nv,Iv 0] 44)).heap.size=w.heap.size+1+1:=by simp
 have BX:Hid (Blk (((w.alloc (.cells #[.slice pm m.length cm] 24)).alloc (.cells #[Iv 0,Nv,Nv,Iv 0] 44)).alloc (.cells #[Iv 0,Iv 0] 32)) w.heap.size #[.slice pm m.length cm] 24):=Blk.below (QhC w #[.slice pm m.length cm] 24 _) (QW _ _);have M:Hid (Blk (((w.alloc (.cells #[.slice pm m.length cm] 24)).alloc (.cells #[Iv 0,Nv,Nv,Iv 0] 44)).alloc (.cells #[Iv 0,Iv 0] 32)) (w.heap.size+1) #[Iv 0,Nv,Nv,Iv 0] 44):=Blk.below (Qb7 w _ #[Iv 0,Nv,Nv,Iv 0] 44) (QW _ _)
 have O:Hid (Blk (((w.alloc (.cells #[.slice pm m.length cm] 24)).alloc (.cells #[Iv 0,Nv,Nv,Iv 0] 44)).alloc (.cells #[Iv 0,Iv 0] 32)) (w.heap.size+1+1) #[Iv 0,Iv 0] 32):=by
  have:=Qf ((w.alloc (.cells #[.slice pm m.length cm] 24)).alloc (.cells #[Iv 0,Nv,Nv,Iv 0] 44)) #[Iv 0,Iv 0] 32
  rw[ak] at this
  exact this
 clear ak;generalize ((w.alloc (.cells #[.slice pm m.length cm] 24)).alloc (.cells #[Iv 0,Nv,Nv,Iv 0] 44)).alloc (.cells #[Iv 0,Iv 0] 32)=w3 at B3 BX M O |-;have n:Hid (w.heap.size<=w.heap.size+1):=by show _<=_;omega
 have u:Hid (w.heap.size<=w.heap.size+1+1):=by show _<=_;omega
 generalize aj:w.heap.size+1+1=f at O u |-;generalize a1:w.heap.size+1=d at M n aj |-;have E:Hid (d≠f):=by show _≠_;omega
 clear aj a1;have x0:=Qa BX.out 0 _ Z;have CN:=Qc (ay.out w3 B3.out);generalize w.heap.size=X at x0 |-;go_upto_region 2 with (go_at_call 13;refine CN.out.mono ?_;rintro e' w4 ⟨b,g,rfl,S4,ac,b4⟩)
 have B5:=QW w4 (.cells #[Iv 0,Iv 0] 32);have BF:=Qf w4 #[Iv 0,Iv 0] 32;have RA:Hid (Qea w3 (w4.alloc (.cells #[Iv 0,Iv 0] 32)) b w4.heap.size most m (IM.start inp pages) (IM.start inp pages) 0 0 g):=⟨S4.below B5,ac,b4.trans (B5.mono b4.size),BF,fun e=>by have:=S4.lt _ e;omega,⟨b4.size,Nat.le_of_lt (XC S4.box)⟩,.inl ⟨Z,Z,0,_,Xb _,Z,IM.like.refl _,fun _=>⟨Z,Z⟩⟩⟩;clear CN S4 ac b4 B5 BF x0;generalize w4.alloc (.cells #[Iv 0,Iv 0] 32)=w5 at RA |-;generalize w4.heap.size=F at RA |-;go_loopw [] (fun wr=>∃ N sc q g,Qea w3 wr b F most m (IM.start inp pages) N sc q g) (fun wr=>Qgi b F most wr)
 case atStart=>exact⟨_,_,_,_,RA.out⟩
 case round =>
  obtain⟨N,sc,q,g9,hR⟩:=hrel
  have R:=Qc hR;have c0:=Qa hR.box 0 _ Z;have c1:=Qa hR.box 1 _ Z;have Q:=Qc (QhQ hR.at_);clear hR RA;by_cases T:sc=0
  ·subst T
   cases hdn:N.done with
   | false =>
     rw[hdn] at Q
     have CS:=Qc (Qea.go a3.out HM.out.1 HM.out.2 ah.out HI.out Z R.out hdn);have aw:=Qc R.out.left;rw[hdn] at aw
     go_wp2_with (go_at_call 19;refine Q.out.mono ?_;rintro e' w' ⟨rfl,P⟩;have P:=P.symm;subst P)
     refine CS.out.mono ?_;rintro e' w8 ⟨c,a,rfl,y,⟨N',g',al,ag⟩,an⟩;have R2:=Qc al;have d0:=Qa y 0 _ Z;have d1:=Qa y 1 _ Z;have z0:=Qe y 0;have z1:=Qe y 1;have ae:=Qc (Xh ag an);clear y al ag CS Q c0 c1 an;go_wp2
     go_roundw
     case rel=>exact⟨_,_,_,_,R2.out⟩
     case measure =>
      have h1:=R2.out.left;have h2:=aw.out;rw[h1,h2]
      simp only[Bool.false_eq_true,if_false,if_true]
      by_cases U:N'.done=true
      ·rw[Xs U];omega
      ·rw[Xr U]
       by_cases aa:c=0
       ·rw[Xs aa]
        have:=ae.out.1 (by simpa using U) aa
        have:=ae.out.2
        omega
       ·rw[Xr aa];omega
   | true =>
     rw[hdn] at Q
     have s:Hid (∃ k S,k<=most+1/\IM.steps m aOp most k (IM.start inp pages)=some S/\N.like S):=by
      rcases R.out.st with ⟨-,-,k,S,r,hs,A,hn⟩|⟨h,-⟩
      ·exact⟨k,S,r,hs,A⟩
      ·cases h
     have HK:Hid (N.out.length<=1000000/\N.back.length<=1000000/\∀ x∈N.out,Zp x):=by
      obtain⟨k,S,r,hs,A⟩:=s.out
      have L:=ah.out;have J:=Qbv HM.out.1 HM.out.2 (fun k a b c h ha hb=>Qg6 ha hb h) HI.out k (by omega) hs;rw[A.out,A.back]
      exact⟨by have:=J.out.1;omega,by have:=J.out.2.2;omega,J.out.2.1⟩
     have CO:=Qc (Qfe R.out.at_ HK.out.1 HK.out.2.1 HK.out.2.2);have i:=Qc ((R.out.bel.block d (XC M.out)).trans M.out);have o:=Qc ((R.out.bel.block f (XC O.out)).trans O.out);go_upto_region 6 with (go_at_call 19;refine Q.out.mono ?_;rintro e' w' ⟨rfl,P⟩;have P:=P.symm;subst P)
     clear c0 c1 Q;go_wp2_with fail
     refine CO.out.mono ?_;rintro e' w8 ⟨v,rfl,⟨vb,vo,rfl,⟨ab,W,rfl,ai,af,am⟩,⟨ao,K,rfl,ax,au,ap⟩⟩,b8⟩;have l:=Qc (Blk.below i.out b8);have t:=Qc (Blk.below o.out b8);have r0:=Qa l.out 0 _ Z;have r1:=Qa l.out 1 _ Z;have r2:=Qa l.out 2 _ Z;have r3:=Qa l.out 3 _ Z;have z0:=Qe l.out 0;have z1:=Qe l.out 1;have z2:=Qe l.out 2;have z3:=Qe l.out 3;have s0:=Qa t.out 0 _ Z;have s1:=Qa t.out 1 _ Z;have y0:=Qe t.out 0;have y1:=Qe t.out 1;have H:¬ d=f:=E.out;have j:¬ f=d:=fun e=>E.out e.symm;have C:=Qc (Xh ai (Xh af am));have G:=Qc (Xh ax (Xh au ap));have B0:=Qc (B3.out.trans ((R.out.bel.mono Ze).trans (b8.mono R.out.bel.size) |>.mono B3.out.size));have az:Hid (d<wr.heap.size/\f<wr.heap.size):=⟨XC i.out,XC o.out⟩;have a2:Hid (w.heap.size<=wr.heap.size):=Zt B3.out.size R.out.bel.size;clear ai af am ax au ap b8 CO i o;go_wp2_with fail
     have X8:=QcP l.out (Iv N.fin) (.slice ab N.back.length W) (.slice ao N.out.length K) (Iv N.fuel);have B1:=(((B0.out.setCell (p:=⟨d,0,none⟩) n.out (Iv N.fin)).setCell (p:=⟨d,1,none⟩) n.out (.slice ab N.back.length W)).setCell (p:=⟨d,2,none⟩) n.out (.slice ao N.out.length K)).setCell (p:=⟨d,3,none⟩) n.out (Iv N.fuel);have O8:∀ k,k≠d->((((w8.setCell ⟨d,0,none⟩ (Iv N.fin)).setCell ⟨d,1,none⟩ (.slice ab N.back.length W)).setCell ⟨d,2,none⟩ (.slice ao N.out.length K)).setCell ⟨d,3,none⟩ (Iv N.fuel)).heap[k]?=w8.heap[k]?:=fun k r=>by rw[Xd _ _ _ _ r,Xd _ _ _ _ r,Xd _ _ _ _ r,Xd _ _ _ _ r]
     generalize ((((w8.setCell ⟨d,0,none⟩ (Iv N.fin)).setCell ⟨d,1,none⟩ (.slice ab N.back.length W)).setCell ⟨d,2,none⟩ (.slice ao N.out.length K)).setCell ⟨d,3,none⟩ (Iv N.fuel))=w9 at X8 B1 O8 |-;have X9:=Zz ((O8 f j).trans t.out) (Iv 0) (Iv 0);have B2:=(B1.setCell (p:=⟨f,0,none⟩) u.out (Iv 0)).setCell (p:=⟨f,1,none⟩) u.out (Iv 0);have O9:∀ k,k≠f->((w9.setCell ⟨f,0,none⟩ (Iv 0)).setCell ⟨f,1,none⟩ (Iv 0)).heap[k]?=w9.heap[k]?:=fun k r=>by rw[Xd _ _ _ _ r,Xd _ _ _ _ r]
     generalize (w9.setCell ⟨f,0,none⟩ (Iv 0)).setCell ⟨f,1,none⟩ (Iv 0)=wz at X9 B2 O9 |-;have D:=(O9 d H).trans X8
     have z:∀ x,wr.heap.size<=x->wz.heap[x]?=w8.heap[x]?:=fun x I=>by
      have h1:=az.out;exact(O9 x (by omega)).trans (O8 x (by omega))
     have f0:=Qa D 0 _ Z;have f1:=Qa D 1 _ Z;have f2:=Qa D 2 _ Z;have f3:=Qa D 3 _ Z;have g0:=Qa X9 0 _ Z;have g1:=Qa X9 1 _ Z;have ad:=a2.out;refine Xy (v:=.tuple #[.agg #[Iv N.fin,.slice ab N.back.length W,.slice ao N.out.length K,Iv N.fuel],Z4 0 0]) (by simp[results,results24,go_sem,f0,f1,f2,f3,g0,g1]) Z ⟨B2,?_⟩;obtain⟨k,S,r,hs,A⟩:=s.out
     refine .inr ⟨k,S,r,hs,?_⟩;refine⟨by rw[<-A.done];exact hdn,_,⟨.slice ab N.back.length W,.slice ao N.out.length K,by rw[<-A.fin,<-A.fuel],?_,?_⟩,Z⟩
     ·rw[<-A.back]
      exact⟨ab,W,Z,C.out.1,QH C.out.2.1 (fun x I=>z x (C.out.2.2 x I)),fun x I=>Zt ad (C.out.2.2 x I)⟩
     ·rw[<-A.out]
      exact⟨ao,K,Z,G.out.1,QH G.out.2.1 (fun x I=>z x (G.out.2.2 x I)),fun x I=>Zt ad (G.out.2.2 x I)⟩
  ·have s:Hid (sc=20/\Qeb m most (IM.start inp pages) q):=by
    rcases R.out.st with ⟨h,-⟩ | h
    ·exact absurd h T
    ·exact h
   have a4:=s.out.1;subst a4;have i:=Qc ((R.out.bel.block d (XC M.out)).trans M.out);have o:=Qc ((R.out.bel.block f (XC O.out)).trans O.out);have r0:=Qa i.out 0 _ Z;have r1:=Qa i.out 1 _ Z;have r2:=Qa i.out 2 _ Z;have r3:=Qa i.out 3 _ Z;have z0:=Qe i.out 0;have z1:=Qe i.out 1;have z2:=Qe i.out 2;have z3:=Qe i.out 3;have s0:=Qa o.out 0 _ Z;have s1:=Qa o.out 1 _ Z;have y0:=Qe o.out 0;have y1:=Qe o.out 1;have H:¬ d=f:=E.out;have j:¬ f=d:=fun e=>E.out e.symm;have a5:¬ F=d:=fun e=>by have h1:=R.out.farF.1;have h2:=XC M.out;omega
   have a6:¬ F=f:=fun e=>by have h1:=R.out.farF.1;have h2:=XC O.out;omega
   have B0:=Qc (B3.out.trans (R.out.bel.mono B3.out.size));clear Q T;go_upto_region 5 with fail
   have a0:Hid (∀ V:World,(∀ k:Nat,V.heap[k]?=wr.heap[k]?)->Below wr.heap.size wr V->QeM w m inp most pages (.returned (.tuple #[.agg #[Iv 0,Nv,Nv,Iv 0],Z4 20 q])) ((((((V.setCell ⟨d,0,none⟩ (Iv 0)).setCell ⟨d,1,none⟩ (Nv)).setCell ⟨d,2,none⟩ (Nv)).setCell ⟨d,3,none⟩ (Iv 0)).setCell ⟨f,0,none⟩ (Iv 20)).setCell ⟨f,1,none⟩ (Iv q))/\((((((V.setCell ⟨d,0,none⟩ (Iv 0)).setCell ⟨d,1,none⟩ (Nv)).setCell ⟨d,2,none⟩ (Nv)).setCell ⟨d,3,none⟩ (Iv 0)).setCell ⟨f,0,none⟩ (Iv 20)).setCell ⟨f,1,none⟩ (Iv q)).heap[d]?=some (.cells #[Iv 0,Nv,Nv,Iv 0] 44 (0,0))/\((((((V.setCell ⟨d,0,none⟩ (Iv 0)).setCell ⟨d,1,none⟩ (Nv)).setCell ⟨d,2,none⟩ (Nv)).setCell ⟨d,3,none⟩ (Iv 0)).setCell ⟨f,0,none⟩ (Iv 20)).setCell ⟨f,1,none⟩ (Iv q)).heap[f]?=some (.cells #[Iv 20,Iv q] 32 (0,0))):=fun V av b7=>by
    have X8:=QcP ((av d).trans i.out) (Iv 0) (Nv) (Nv) (Iv 0);have b0:=B0.out.trans (b7.mono B0.out.size);have B1:=(((((b0.setCell (p:=⟨d,0,none⟩) n.out (Iv 0)).setCell (p:=⟨d,1,none⟩) n.out (Nv)).setCell (p:=⟨d,2,none⟩) n.out (Nv)).setCell (p:=⟨d,3,none⟩) n.out (Iv 0)).setCell (p:=⟨f,0,none⟩) u.out (Iv 20)).setCell (p:=⟨f,1,none⟩) u.out (Iv q);have h9:((((V.setCell ⟨d,0,none⟩ (Iv 0)).setCell ⟨d,1,none⟩ (Nv)).setCell ⟨d,2,none⟩ (Nv)).setCell ⟨d,3,none⟩ (Iv 0)).heap[f]?=some (.cells #[Iv 0,Iv 0] 32 (0,0)):=by rw[Xd _ _ _ _ j,Xd _ _ _ _ j,Xd _ _ _ _ j,Xd _ _ _ _ j,av f];exact o.out
    refine⟨⟨B1,?_⟩,?_,Zz h9 _ _⟩
    ·exact .inl ⟨q,s.out.2,Z⟩
    ·rw[Xd _ _ _ _ H,Xd _ _ _ _ H]
     exact X8
   go_region
   all_goals
    go_wp2_with fail
    have QQ:=a0.out wr (fun _=>rfl) Zr;generalize ((((((wr.setCell ⟨d,0,none⟩ (Iv 0)).setCell ⟨d,1,none⟩ (Nv)).setCell ⟨d,2,none⟩ (Nv)).setCell ⟨d,3,none⟩ (Iv 0)).setCell ⟨f,0,none⟩ (Iv 20)).setCell ⟨f,1,none⟩ (Iv q))=wq at QQ |-;obtain⟨⟨qb,qs⟩,q8,q9⟩:=QQ
    have B:wq.drew.heap[d]?=some (.cells #[Iv 0,Nv,Nv,Iv 0] 44 (0,0)):=q8;have ar:wq.drew.heap[f]?=some (.cells #[Iv 20,Iv q] 32 (0,0)):=q9;have f0:=Qa B 0 _ Z;have f1:=Qa B 1 _ Z;have f2:=Qa B 2 _ Z;have f3:=Qa B 3 _ Z;have g0:=Qa ar 0 _ Z;have g1:=Qa ar 1 _ Z;exact Xy (v:=.tuple #[.agg #[Iv 0,Nv,Nv,Iv 0],Z4 20 q]) (by simp[results,results24,go_sem,f0,f1,f2,f3,g0,g1]) Z ⟨⟨qb.os,qb.tape,qb.output,qb.size,qb.block⟩,qs⟩
end
section
variable {Z:Type}{P:Program}(E:Tmp->Value->(World × Z)->Prop) (W:(World × Z)->Prop) (R:(World × Z)->(World × Z)->Prop)
def EOG:Option Tmp->Value->(World × Z)->Prop
 | some t=>E t
 | none=>fun _ _=>True
def Qgs (a:Act) (w:(World × Z)):List Tmp->Prop
 | []=>True
 | t::r=>E t (a.tmps.getD t undef) w/\Qgs a w r
def QjH (P:Program) (o:Oper):Prop :=
 ∀ a w,W w->Qgs E a w (Qc3 o)->∀ K:Act->World->Prop,(∀ v w',R w w'->W w'->EOG E o.dst v w'->K (a.put o.dst v) w'.1)->o.wp P a w.1 K (fun _ _ _=>False)
def QgK (o:Oper):Prop:=∀ w,W w->EOG E o.dst undef w
def QeP (P:Program):List Oper->List Bool->Prop
 | o::l,true::bs=>QjH E W R P o/\QeP P l bs
 | o::l,false::bs=>QgK E W o/\QeP P l bs
 | _,_=>True
def Qcu (ops:Array Oper):List (Nat × Option Bool)->Prop
 | []=>True
 | (g,c)::r=>(∀ t,(ops[g]?).bind (·.dst)=some t->∀ v w,W w->E t v w->match c with | some b=>v=.bool b | none=>v=undef)/\Qcu ops r
def Qf7 (a:Act) (w:(World × Z)):List Tmp->Prop
 | []=>True
 | t::r=>E t (a.tmps.getD t undef) w/\Qf7 a w r
end
section
variable {Z:Type}{P:Program}{E:Tmp->Value->(World × Z)->Prop}{W:(World × Z)->Prop}{R:(World × Z)->(World × Z)->Prop}
theorem Qfl {a:Act}{w:(World × Z)}:∀ (l:List Tmp),(∀ t∈l,E t (a.tmps.getD t undef) w)->Qgs E a w l
 | [],_=>trivial
 | t::r,h=>⟨h t (by simp),Qfl r fun x b=>h x (by simp[b])⟩
theorem Qe1 {a:Act}{w:(World × Z)}:∀ (l:List Tmp),Qf7 E a w l->∀ t∈l,E t (a.tmps.getD t undef) w
 | [],_,_,h=>by simp at h
 | x::r,h,t,b=>by
   rcases List.mem_cons.1 b with rfl | b
   ·exact h.1
   ·exact Qe1 r h.2 t b
theorem QdG {a:Array Oper}:∀ (gs:List (Nat × Option Bool)),Qcu E W a gs->∀ g c,gs.lookup g=some c->∀ t,(a[g]?).bind (·.dst)=some t->∀ v w,W w->E t v w->match c with | some b=>v=.bool b | none=>v=undef
 | [],_,_,_,h=>by simp at h
 | (g',c')::r,h,g,c,hl=>by
   by_cases e:g=g'
   ·subst e;simp at hl;subst hl;exact h.1
   ·have d:(g==g')=false:=by simpa using e
    simp[List.lookup_cons,d] at hl;exact QdG r h.2 g c hl
theorem QfO (gs:List (Nat × Option Bool)):∀ (l:List Oper) (bs:List Bool),Qip gs l bs=true->QeP E W R P l bs->∀ (i:Nat) (o:Oper),l[i]?=some o->(onB gs o true=true/\QjH E W R P o)\/(onB gs o false=true/\QgK E W o)
 | [],_,_,_,_,_,h=>by simp at h
 | _::_,[],h,_,_,_,_=>by simp[Qip] at h
 | x::l,b::bs,h,ha,i,o,ho=>by
   simp only[Qip,Bool.and_eq_true] at h
   cases i with
   | zero =>
     simp at ho;subst ho
     cases b with
     | true=>exact .inl ⟨h.1,ha.1⟩
     | false=>exact .inr ⟨h.1,ha.1⟩
   | succ i =>
     simp at ho
     cases b with
     | true=>exact QfO gs l bs h.2 ha.2 i o ho
     | false=>exact QfO gs l bs h.2 ha.2 i o ho
structure QlX (E:Tmp->Value->(World × Z)->Prop) (W:(World × Z)->Prop) (l:List Oper) (outs:List Tmp) (a0:Act) (listed:Array Bool) (a:Act) (w:(World × Z)):Prop where
 world:W w
 defers:a.defers=a0.defers
 size:a.tmps.size=a0.tmps.size
 outer:∀ t,t ∉ Qn l->a.tmps[t]?=a0.tmps[t]?
 outs:∀ t∈outs,t ∉ Qn l->E t (a.tmps.getD t undef) w
 known:∀ j o t,l[j]?=some o->o.dst=some t->listed.getD j false=true->E t (a.tmps.getD t undef) w
theorem QfN {l:List Oper}{outs:List Tmp}{gs:List (Nat × Option Bool)}{a0:Act}{Q:Exit->Act->World->Prop}
 (hB:QaS l a0.tmps.size outs gs bs=true) (hR:∀ t v w w',R w w'->E t v w->E t v w') (hG:Qcu E W l.toArray gs) (hA:QeP E W R P l bs)
 (ae:∀ (vs:Tmp->Value) w',W w'->(∀ t,(Qn l).contains t=true->E t (vs t) w')->Q .normal (QI a0 vs (Qn l)) w'.1) :
 ∀ (fuel:Nat) (listed:Array Bool) (a:Act) (w:(World × Z)),listed.size=l.length->(listed.toList.filter (·==false)).length<=fuel->QlX E W l outs a0 listed a w ->
  wpAny P .any l.toArray Q fuel listed a w.1:=by
 simp only[QaS,Bool.and_eq_true] at hB
 obtain⟨⟨⟨⟨⟨ap,aw⟩,M⟩,au⟩,ak⟩,am⟩:=hB
 have ag:∀ (listed:Array Bool) (a:Act) (w:(World × Z)),listed.size=l.length->Region.ready .any l.toArray listed=[]->QlX E W l outs a0 listed a w->Q .normal a w.1:=by
  intro listed a w T I f
  have ab:∀ j,j<l.length->listed.getD j false=true:=by
   intro j
   induction j using Nat.strongRecOn with
   | _ j ih =>
     intro z
     cases r:listed.getD j false with
     | true=>rfl
     | false =>
       exfalso
       have:j∈Region.ready .any l.toArray listed:=by
        unfold Region.ready;refine List.mem_filter.2 ⟨by simpa using z,?_⟩
        have V:listed.getD j true=false:=by
         have av:j<listed.size:=by omega
         simp[Array.getD,av] at r |-;exact r
        have U:l.toArray[j]?=some l[j]:=by simp[z]
        rw[V,U]
        simp only[Bool.not_false,Bool.true_and,Option.map_some,Option.getD_some]
        rw[Array.all_eq_true_iff_forall_mem]
        intro e he
        cases hbd:Region.binds .any e with
        | false=>rfl
        | true =>
          have:=back_at l 0 j l[j] am (by simp[z]) e he hbd
          simp only[Bool.not_true,Bool.false_or]
          exact ih e.on (by omega) (by omega)
       rw[I] at this
       cases this
  have af:∀ t∈Qn l,E t (a.tmps.getD t undef) w/\t<a0.tmps.size:=by
   intro t q;obtain⟨o,ho,s⟩:=List.mem_filterMap.1 q
   obtain⟨j,z⟩:=List.getElem?_of_mem ho
   have A:j<l.length:=by
    rcases Nat.lt_or_ge j l.length with h | h
    ·exact h
    ·rw[Xk h] at z;cases z
   exact⟨f.known j o t z s (ab j A),by simpa using Xe.1 M t q⟩
  have he:a=QI a0 (fun t=>a.tmps.getD t undef) (Qn l):=by
   have V:a.tmps=(QI a0 (fun t=>a.tmps.getD t undef) (Qn l)).tmps:=by
    refine Array.ext (by rw[Qbt,f.size]) fun t O N=>?_;have h3:t<a0.tmps.size:=by rw[<-f.size];exact O
    have:=Qeg (fun t=>a.tmps.getD t undef) (Qn l) a0 t h3
    rw[Xj N] at this
    by_cases hm:t∈Qn l
    ·rw[Xs hm] at this
     simp only[Option.some.injEq] at this
     rw[this];simp[Array.getD,O]
    ·rw[Xr hm,<-f.outer t hm,Xj O] at this
     exact(Xn this).symm
   have U:a.defers=(QI a0 (fun t=>a.tmps.getD t undef) (Qn l)).defers:=by rw[Qaz,f.defers]
   cases a with
   | mk t d =>
     simp only at V U
     generalize hp:QI a0 (fun x=>t.getD x undef) (Qn l)=p at V U |-
     cases p;simp only at V U;rw[V,U]
  rw[he]
  exact ae _ _ f.world fun t q=>(af t (by simpa using q)).1
 intro fuel
 induction fuel with
 | zero =>
   intro listed a w T hf f
   have I:Region.ready .any l.toArray listed=[]:=by
    rw[List.eq_nil_iff_forall_not_mem]
    intro i hi;obtain⟨O,N⟩:=List.mem_filter.1 hi
    have A:i<l.length:=by simpa using O
    simp only[Bool.and_eq_true,Bool.not_eq_true'] at N
    have:listed[i]'(by omega)=false:=by
     have:=N.1;simp[Array.getD,show i<listed.size by omega] at this;exact this
    have hm:false∈listed.toList.filter (·==false):=List.mem_filter.2 ⟨by rw[<-this];simp,by simp⟩
    have:=List.length_pos_of_mem hm
    omega
   exact⟨I,ag listed a w T I f⟩
 | succ fuel ih =>
   intro listed a w T hf f;refine⟨fun I=>ag listed a w T I f,fun i hi=>?_⟩
   obtain⟨O,N⟩:=List.mem_filter.1 hi
   have A:i<l.length:=by simpa using O
   simp only[Bool.and_eq_true,Bool.not_eq_true'] at N
   obtain⟨ad,m⟩:=N
   have aa:i<listed.size:=by omega
   have ah:listed[i]=false:=by simp[Array.getD,aa] at ad;exact ad
   have ho:l.toArray[i]?=some l[i]:=by simp[A]
   have n:l[i]?=some l[i]:=by simp[A]
   generalize ay:l[i]=o at ho n;rw[ho] at m
   simp only[Option.map_some,Option.getD_some] at m
   rw[Array.all_eq_true_iff_forall_mem] at m
   have u:∀ t∈o.looksAt l.toArray,E t (a.tmps.getD t undef) w:=by
    intro t q
    have:=Xe.1 (Xe.1 au o (Zm n)) t q
    rw[Bool.or_eq_true] at this
    rcases this with h | h
    ·simp only[Bool.and_eq_true,Bool.not_eq_true'] at h
     exact f.outs t (by simpa using h.1) (by simpa using h.2)
    ·obtain⟨k,hk,h⟩:=Array.any_eq_true.1 h
     simp only[Bool.and_eq_true,beq_iff_eq] at h
     obtain⟨r,s⟩:=h
     have H:=m _ (Array.getElem_mem hk);rw[r] at H
     simp only[Bool.not_true,Bool.false_or] at H
     generalize o.after[k]=e at *;obtain⟨oj,ao,ar⟩:=Option.bind_eq_some_iff.1 s
     exact f.known e.on oj t (by simpa using ao) ar H
   have al:Qgs E a w (Qc3 o):=Qfl _ fun t q=>u t (by
    unfold Oper.looksAt;exact List.mem_append_left _ q)
   have hw:∀ b,onB gs o b=true->Region.wanted o (yielded l.toArray a.tmps)=b:=by
    intro b r;unfold onB at r;unfold Region.wanted
    cases hg:o.guard with
    | none=>rw[hg] at r;simp only at r |-;exact r.symm
    | some gw =>
      obtain⟨g,ax⟩:=gw
      rw[hg] at r
      simp only at r |-
      cases H:gs.lookup g with
      | none=>rw[H] at r;cases r
      | some c =>
        rw[H] at r
        simp only[beq_iff_eq] at r
        have hy:yielded l.toArray a.tmps g=c:=by
         unfold yielded;have an:(g,c)∈gs:=mem_of_lookup gs g c H;have B:=Xe.1 ap _ an
         cases s:(l.toArray[g]?).bind (·.dst) with
         | none=>rw[s] at B;cases B
         | some t =>
           have hE:=u t (by unfold Oper.looksAt;rw[hg];simp only[s];simp);have F:=QdG gs hG g c H t s _ _ f.world hE;obtain⟨og,aq,ai⟩:=Option.bind_eq_some_iff.1 s
           have S:t<a.tmps.size:=by
            rw[f.size]
            have:=Xe.1 M t (List.mem_filterMap.2 ⟨og,Zm (by simpa using aq),ai⟩)
            simpa using this
           have q:a.tmps[t]?=some (a.tmps.getD t undef):=by simp[Array.getD,S]
           simp only[Option.bind_some,q]
           cases c with
           | none=>simp only at F;rw[F];rfl
           | some b=>simp only at F;rw[F]
        rw[hy,r]
   have J:((listed.setIfInBounds i true).toList.filter (·==false)).length<=fuel:=by
    have h3:=filter_set listed.toList i (by simpa using aa) (by simpa using ah);rw[Array.toList_setIfInBounds]
    omega
   have G:∀ v w',W w'->(∀ t v,E t v w->E t v w')->EOG E o.dst v w'->QlX E W l outs a0 (listed.setIfInBounds i true) (a.put o.dst v) w':=by
    intro v w' L y F
    have C:∀ t,o.dst≠some t->(a.put o.dst v).tmps[t]?=a.tmps[t]?:=by
     intro t q
     cases s:o.dst with
     | none=>rfl
     | some d =>
       have:d≠t:=fun e=>q (by rw[s,e])
       simp[Act.put,this]
    have D:∀ (b c:Array Value) (t:Nat),b[t]?=c[t]?->b.getD t undef=c.getD t undef:=by
     intro b c t h;rw[Za,Za,h]
    refine⟨L,?_,?_,?_,?_,?_⟩
    ·rw[<-f.defers];cases o.dst<;>rfl
    ·rw[<-f.size];cases o.dst<;>simp[Act.put]
    ·intro t q;rw[C t (fun e=>q (List.mem_filterMap.2 ⟨o,Zm n,e⟩)),f.outer t q]
    ·intro t q hn;rw[D _ _ t (C t (fun e=>hn (List.mem_filterMap.2 ⟨o,Zm n,e⟩)))]
     exact y _ _ (f.outs t q hn)
    ·intro j oj t z s X;by_cases K:j=i
     ·subst K;rw[n] at z
      obtain rfl:=Xn z
      have S:t<a.tmps.size:=by
       rw[f.size]
       have:=Xe.1 M t (List.mem_filterMap.2 ⟨o,Zm n,s⟩)
       simpa using this
      rw[s] at F |-
      have:(a.put (some t) v).tmps.getD t undef=v:=by simp[Act.put,Array.getD,S]
      rw[this];exact F
     ·have aj:o.dst≠some t:=fun e=>K (nodup_apart l j i oj o t aw z n s e);rw[D _ _ t (C t aj)]
      refine y _ _ (f.known j oj t z s ?_);have ac:i≠j:=fun e=>K e.symm;rw[Za,Array.getElem?_setIfInBounds_ne ac] at X
      rw[Za];exact X
   unfold wpOp;rw[ho]
   simp only
   rcases QfO gs l bs ak hA i o n with ⟨h,y⟩|⟨h,y⟩
   ·rw[hw true h,Xs Yz]
    refine .inl (wpq (fun a' w' hh=>hh) (y a w f.world al _ fun v w' I L F=>?_));exact ih _ _ _ (by simpa using T) J (G v w' L (fun t v he=>hR t v w w' I he) F)
   ·rw[hw false h]
    simp only[Bool.false_eq_true,if_false]
    exact ih _ _ _ (by simpa using T) J (G undef w f.world (fun _ _ h=>h) (y w f.world))
theorem Qc9 {l:List Oper}{outs:List Tmp}{gs:List (Nat × Option Bool)}{a:Act}{z:Z}{Q:Exit->Act->World->Prop}
 (E:Tmp->Value->(World × Z)->Prop) (W:(World × Z)->Prop) (R:(World × Z)->(World × Z)->Prop)
 (e:P.follows .mixedOrders=true)  (hn:a.tmps.size=m) (c:n<=m) (q:QaS l n outs gs bs=true)
 (p:∀ t v w w',R w w'->E t v w->E t v w') (i:Qcu E W l.toArray gs) (d:W (w.drew,z)) (f:Qf7 E a (w.drew,z) outs)
 (h:QeP E W R P l bs)
 (b:∀ (vs:Tmp->Value) w',W w'->(∀ t,(Qn l).contains t=true->E t (vs t) w')->Q .normal (QI a vs (Qn l)) w'.1) :
 (Code.region id l.toArray true).wp P Q a w:=by
 refine wp_region_any e ?_;refine QfN (Qbc (hn ▸ c) q) p i h b _ _ _ (w.drew,z) (by simp) ?_ ⟨d,Yz,Yz,fun _ _=>rfl,fun t k _=>Qe1 outs f t k,?_⟩
 ·simp only[Array.toList_replicate]
  exact Zt (List.length_filter_le _ _) (by simp)
 ·intro j o t s r g;simp[Array.getD] at g
end
abbrev Tg:=Nat->Nat
def mk (s:Nat) (w:World) (z:Tg):Tg:=fun x=>if x<w.heap.size then z x else s
def RT (s s':World × Tg):Prop:=Below s.1.heap.size s.1 s'.1/\∀ x,x<s.1.heap.size->s'.2 x=s.2 x
theorem RT.mk {s:Nat}{z:Tg}(b:Below w.heap.size w w'):RT (w,z) (w',mk s w z):=⟨b,fun x a=>by simp only[Proofs.YtjhdpajpibdnaafGreat.mk];rw[Xs a]⟩
theorem RT.refl (s:World × Tg):RT s s:=⟨Zr,fun _ _=>rfl⟩
theorem QdF {s:Nat}{z:Tg}(h:w.heap.size<=x):mk s w z x=s:=by simp only[mk];rw[Xr (by omega)]
def H33 (lo pages:Nat) (v:Value) (s:World × Tg):Prop:=∃ bm,v=Pv (bm+1) 0/\HIn s.1 (bm+1) (fun x=>x=bm\/x=bm+1) (Qd.new pages) ⟨bm,.map [],fun _=>0,fun _ _=>False⟩/\s.2 bm=33/\s.2 (bm+1)=33/\lo<=bm
def M35 (lo:Nat) (m:List (MFunc 6)) (v:Value) (s:World × Tg):Prop:=∃ a c,v=.agg #[.slice a m.length c]/\(ZZ 6).In s.1 (fun x=>x<s.1.heap.size/\s.2 x=35) m [.slice a m.length c]
def I37 (lo:Nat) (l:List Int) (v:Value) (s:World × Tg):Prop:=∃ a c,v=.slice a l.length c/\l.length<=c/\s.1.ownsRow 0 2 1 (.slice a l.length c) l.length (l.map (Value.int .i64))/\∀ x,(Value.slice a l.length c).ownBlock=some x->s.2 x=37
abbrev frm0:Array Value:=#[Iv 0,Iv 0,Iv 0,Iv 0,Nv]
def F40 (lo:Nat) (v:Value) (s:World × Tg):Prop:=∃ c,v=Pv c 0/\Blk s.1 c frm0 100/\lo<=c/\s.2 c=40
def C41 (lo:Nat) (v:Value) (s:World × Tg):Prop:=∃ c r,v=.slice (some ⟨r,0,none⟩) 1 1/\Blk s.1 r #[Pv c 0] 97/\Blk s.1 c frm0 100/\lo<=c/\lo<=r/\s.2 c=40/\s.2 r=41
section
variable {lo pages:Nat}{m:List (MFunc 6)}{l:List Int}{v:Value}{s s':World × Tg}
theorem H33.keep (h:H33 lo pages v s) (r:RT s s'):H33 lo pages v s':=by
 obtain⟨b,e,a,f,d,c⟩:=h
 exact⟨b,e,a.below r.1,(r.2 _ (a.lt _ (.inl Z))).trans f,(r.2 _ (a.lt _ (.inr Z))).trans d,c⟩
theorem M35.keep (h:M35 lo m v s) (r:RT s s'):M35 lo m v s':=by
 obtain⟨a,c,e,f⟩:=h
 exact⟨a,c,e,(ZZ 6).keep (fun k d b=>r.1.block k b) (fun k d b=>⟨Zl b r.1.size,(r.2 k b).trans d.2⟩) f⟩
theorem I37.keep (h:I37 lo l v s) (r:RT s s'):I37 lo l v s':=by
 obtain⟨a,c,i,f,e,g⟩:=h
 have d:∀ x,(Value.slice a l.length c).ownBlock=some x->x<s.1.heap.size:=fun x b=>XC (QJ e b).choose_spec;exact⟨a,c,i,f,QH e (fun x b=>r.1.block x (d x b)),fun x b=>(r.2 x (d x b)).trans (g x b)⟩
theorem F40.keep (h:F40 lo v s) (r:RT s s'):F40 lo v s':=by
 obtain⟨c,b,a,d,e⟩:=h
 exact⟨c,b,Blk.below a r.1,d,(r.2 c (XC a)).trans e⟩
theorem C41.keep (h:C41 lo v s) (r:RT s s'):C41 lo v s':=by
 obtain⟨c,b,i,a,d,f,g,j,e⟩:=h
 exact⟨c,b,i,Blk.below a r.1,Blk.below d r.1,f,g,(r.2 c (XC d)).trans j,(r.2 b (XC a)).trans e⟩
end
theorem QmE {lo pages:Nat}{m:List (MFunc 6)}{z:Tg}{a r:Nat}(V:lo<=w.heap.size)
 (s:H33 lo pages (Pv (a+1) 0) (w,z)) (q:M35 lo m (.agg #[.slice pm m.length cm]) (w,z)) (t:I37 lo inp (.slice pi inp.length ci) (w,z)) (u:∀ x∈inp,Zp x)
 (N:Blk w r #[Pv c 0] 97) (L:Blk w c frm0 100) (aa:lo<=c) (ab:lo<=r) (l:z c=40) (v:z r=41) :
 ∃ g,MAt (w.alloc (.cells #[Pv (a+1) 0,.slice pm m.length cm,.slice pi inp.length ci,Iv most,.slice (some ⟨r,0,none⟩) 1 1,Iv 0,Nv,Nv,Iv 0,.bool false,Iv 0,Iv 0] 52)) w.heap.size most m (IM.start inp pages) 0 0 g/\∀ x,g.A x->lo<=x:=by
 obtain⟨o,e,H,I,G,M⟩:=s
 obtain rfl:a=o:=by simpa using e
 obtain⟨E,D,J,U⟩:=q
 obtain⟨rfl,rfl⟩:pm=E/\cm=D:=by simpa using J
 obtain⟨E,D,J,d,P,hz⟩:=t
 obtain⟨rfl,rfl⟩:pi=E/\ci=D:=by simpa using J
 have B:=QW w (.cells #[Pv (a+1) 0,.slice pm m.length cm,.slice pi inp.length ci,Iv most,.slice (some ⟨r,0,none⟩) 1 1,Iv 0,Nv,Nv,Iv 0,.bool false,Iv 0,Iv 0] 52);have n:=Qf w #[Pv (a+1) 0,.slice pm m.length cm,.slice pi inp.length ci,Iv most,.slice (some ⟨r,0,none⟩) 1 1,Iv 0,Nv,Nv,Iv 0,.bool false,Iv 0,Iv 0] 52;generalize w.alloc (.cells #[Pv (a+1) 0,.slice pm m.length cm,.slice pi inp.length ci,Iv most,.slice (some ⟨r,0,none⟩) 1 1,Iv 0,Nv,Nv,Iv 0,.bool false,Iv 0,Iv 0] 52)=w' at B n |-;have Q:=XC L;have lr:=XC N;have S:a<w.heap.size:=H.lt _ (.inl Z);have W:a+1<w.heap.size:=H.lt _ (.inr Z);have I:z a=33:=I;have G:z (a+1)=33:=G;have M:lo<=a:=M
 have K:∀ k,k<w.heap.size->z k≠33->z k≠40->z k≠41->¬ (k=a\/k=a+1\/k=c\/k=r\/k=w.heap.size):=fun k j f F X h=>by
  rcases h with rfl | rfl | rfl | rfl | rfl
  ·exact f I
  ·exact f G
  ·exact F l
  ·exact X v
  ·omega
 have C:¬ (c=a\/c=a+1):=fun h=>by rcases h with rfl | rfl<;>omega
 have p:¬ (r=a\/r=a+1):=fun h=>by rcases h with rfl | rfl<;>omega
 refine⟨⟨a+1,fun x=>x=a\/x=a+1,⟨a,.map [],fun _=>0,fun _ _=>False⟩,fun x=>x=a\/x=a+1\/x=c\/x=r\/x=w.heap.size,pm,cm,pi,ci,.slice (some ⟨r,0,none⟩) 1 1,Nv,Nv,⟨c,Nv⟩,[],0⟩,⟨n,H.below B,?_,?_,d,?_,?_,?_,?_,?_,?_,?_,?_,?_,Xb _⟩,?_⟩
 ·exact(ZZ 6).keep (fun k j d=>B.block k d) (fun k j d=>⟨K k d (by have:=j.2;simp only at this;omega) (by have:=j.2;simp only at this;omega) (by have:=j.2;simp only at this;omega),d⟩) U
 ·refine Ya (QgX (O:=Imm _ w.heap.size) P u (fun x b=>?_)) B;have f:=XC (QJ P b).choose_spec;have F:z x=37:=hz x b;exact⟨K x f (by omega) (by omega) (by omega),f⟩
 ·refine⟨Z,.inr ⟨r,1,_,Z,Xb _,(B.block r lr).trans N,Ze,by unfold maxLen;omega,Z,Z⟩⟩
 ·exact⟨none,0,Z,fun i x b=>by cases b⟩
 ·exact⟨Z,.inl ⟨Z,Z⟩⟩
 ·refine⟨⟨⟨(B.block c Q).trans L,?_⟩,⟨.inr (.inr (.inl Z)),C⟩,fun g T=>by cases T⟩,(fun y R=>by cases R),Y⟩
  exact⟨Z,.inl ⟨Z,Z⟩⟩
 ·exact⟨.inr (.inr (.inr (.inr Z))),fun h=>by rcases h with h | h<;>omega⟩
 ·intro x b
  cases b
  exact⟨.inr (.inr (.inr (.inl Z))),p⟩
 ·intro x b
  cases b
 ·exact fun x b=>b.elim .inl (fun h=>.inr (.inl h))
 ·have:=B.size
  have F:=XC n;rintro x (rfl | rfl | rfl | rfl | rfl)<;>omega
 ·rintro x (rfl | rfl | rfl | rfl | rfl)<;>omega
def QhI {α:Type}(A:Lay α) (w w':World) (l:List α) (e:Ending):Prop:=∃ a' c',e=.returned (.slice a' l.length c')/\A.list.In w' (Qb1 w.heap.size) l [.slice a' l.length c']/\Below w.heap.size w w'
def iv (l:List Int):List Value:=l.map (fun x=>Value.int .i64 x)
theorem Qki {lo:Nat}(h:w.ownsRow lo e 1 v l.length (iv l)) (hb:∀ x∈l,I64 x):intsL.In w (Qb1 lo) l [v] :=
 Qac.lay (A:=Lay.int) (e:=e) (xs:=iv l) ⟨h,fun i x a=>by
  have c:Lay.int.size=1:=rfl;rw[c,XL]
  have b:((iv l).drop i).take 1=[Iv x]:=by
   obtain⟨d,e⟩:=Zi a
   unfold iv;rw[<-List.map_drop,List.drop_eq_getElem_cons d]
   simp[e]
  rw[b]
  exact⟨Z,hb x (Zm a)⟩⟩
theorem Qj9 (h:intsL.In w O l [.slice a m c]):∀ x∈l,I64 x:=by
 intro x e;obtain⟨i,d⟩:=List.mem_iff_getElem?.1 e
 obtain⟨g,o,f,_,_,_,_,b⟩:=Yf h d
 exact b.2
theorem Qkd (h:intsL.In w O l [.slice a m c]) (n:0<l.length) :
 ∃ ad,a=some ad/\ad.block<w.heap.size/\∀ j v,(iv l)[j]?=some v->w.cell? (ad.add j)=some v:=by
 obtain⟨g,o,e,_,d,_⟩:=ZJ h n
 refine⟨⟨g,o,none⟩,e,d,fun j v f=>?_⟩
 have b:j<l.length:=by have:=(Zi f).1;simpa[iv] using this
 obtain⟨p,q,i,_,_,k⟩:=ZJ h b
 rw[e] at i
 cases i
 rw[show (⟨g,o,none⟩:Addr).add j=⟨g,o+j,none⟩ from by unfold Addr.add;split<;>simp_all,k,<-f]
 simp[iv,List.getD,b]
theorem QcN (l:List Int):(iv l).length=l.length:=by simp[iv]
theorem Ql1 (l:List Int):∀ v∈iv l,v.oneCell'=true:=by
 intro v a;obtain⟨x,_,rfl⟩:=List.mem_map.1 a
 rfl
theorem underIs:prog.underlying 76=some (.slice 3):=by kernel_rfl
theorem infoI:(prog.info? 3).map (fun i=>(i.zero,i.size,i.bytes))=some (some (Iv 0),1,8):=by kernel_rfl
theorem infoI1:(prog.info? 3).map (·.size)=some 1:=by kernel_rfl
theorem Qa6 (l:List Int) (p:Option Addr) (c:Nat) (w:World) (i:intsL.In w All l [.slice p l.length c]) (z:l.length<=4294967296) :
 Calls prog 231 #[.slice p l.length c] w fun e w'=>QhI Lay.int w w' l e:=by
 have t:Hid _:=i;have y:Hid _:=Qj9 i;clear i;have q:=fun u=>run_make_row' (P:=prog) 76 3 (Iv 0) 8 underIs infoI Z .i64 .i64 l.length (by omega) (by omega) u
 have g:(w.alloc (.cells (madeCells #[Iv 0] l.length) 3)).heap[w.heap.size]?=some (.cells (madeCells #[Iv 0] l.length).toList.toArray 3 (0,0)):=by
  rw[Array.toArray_toList];exact Qf w _ _
 have b:(iv l).length=Nat.min l.length l.length:=by rw[QcN];exact(Nat.min_self _).symm
 have h:Hid (0<(iv l).length->(some ⟨w.heap.size,0,none⟩:Option Addr)=some ⟨w.heap.size,0,none⟩/\∃ k,p=some k/\∀ j v,(iv l)[j]?=some v->(w.alloc (.cells (madeCells #[Iv 0] l.length) 3)).cell? (k.add j)=some v):=by
  intro r;rw[QcN] at r
  obtain⟨k,e,n,x⟩:=Qkd t.out r
  exact⟨Z,k,e,fun j v s=>(XU (w:=w) (a:=k.add j) (Below.heap_alloc _ _ _ (by unfold Addr.add;split<;>exact n))).trans (x j v s)⟩
 have d:0+(iv l).length<=(madeCells #[Iv 0] l.length).toList.length:=by rw[QcN,toList_madeCells_one];simp
 have m:Hid (Below w.heap.size w (w.alloc (.cells (madeCells #[Iv 0] l.length) 3))):=(Below.refl _ w).alloc Ze _;go_enter func231,ntmps231
 go_wp2_with (refine wpList_copy_splice Z (.tmp 7) (.tmp 8) 76 76 Z 3 underIs infoI1 _ _ l.length l.length l.length c Z Z w.heap.size 0 (madeCells #[Iv 0] l.length).toList 3 g (iv l) b h.out d (Ql1 l) w.heap.size w m.out Ze ?_)
 ·intro w' o f;clear h d m g b
  have R:Hid (QhI Lay.int w w' l (.returned (.slice (some ⟨w.heap.size,0,none⟩) l.length l.length))):=by
   have A:splice (madeCells #[Iv 0] l.length).toList 0 (iv l)=iv l:=by
    rw[toList_madeCells_one];simp[splice,QcN]
   rw[A] at o
   refine⟨_,_,Z,Qki ⟨by rw[QcN,XL],Or.inr ⟨w.heap.size,l.length,(iv l).toArray,Z,Ze,o.out,Ze,by unfold maxLen;omega,by simp[QcN],?_⟩⟩ y.out,f⟩
   rw[XL,<-QcN l];simp
  clear o f q;go_wp2
  go_ret;exact R.out
theorem Qcm {rest:List Oper}{o:Oper}{a:Act}{Q:Exit->Act->World->Prop}(c:o.guard=none) (s x:Operand) (t:TypeId)
 (i:o.op=.call { callee:=.builtin .append,args:=#[s,x],argTypes:=#[t,t] }) (v d:Value) (g:a.eval s=v) (e:a.eval x=d) (b:(Builtin.append_ #[t,t] o.type #[v,d]).run P w=.ok v w)
 (h:wpList P ops Q rest (a.put o.dst v) w):wpList P ops Q (o::rest) a w:=by
 refine wpList_plain c fun K f=>?_;unfold Oper.wp;simp[execOp,i,resolve,invoke,builtin,g,e,b,Result.andThen]
 exact f _ _ h
abbrev FV:Value:=.func (.func 261) #[] #[]
theorem QiT (n:Nat) (G:Qd2 261 n) (l m:List (TT n)) (a b:Option Addr) (c d:Nat) (w:World) (K:LIn w All l a) (H:LIn w All m b) (aa:l.length<=100000) (u:∀ x∈l,x.count<=100000) :
 Calls prog 260 #[.slice a l.length c,.slice b m.length d,FV] w fun e w'=>Q6 e (l=m)/\Below w.heap.size w w':=by
 have IH:Hid (Qd2 261 n):=G;have hl:Hid (LIn w All l a):=K;have hm:Hid (LIn w All m b):=H;have T:Hid (∀ x∈l,x.count<=100000):=u;clear G K H u;by_cases f:l.length=m.length
 ·have I:((l.length:Int) != (m.length:Int))=false:=by simp;omega
  have E:Hid (l.length=m.length):=f;clear f;go_enter func260,ntmps260
  go_wp2_with fail
  go_loopw [17] (fun i wr=>∃ q:Nat,q<=l.length/\i=Iv q/\(∀ j,j<q->l[j]?=m[j]?)/\Below w.heap.size w wr) (fun i _=>l.length - (intOf i).toNat)
  case atStart=>exact⟨0,Xb _,Z,fun j hj=>by omega,Zr⟩
  case round =>
   obtain⟨q,hq,rfl,v,D⟩:=hrel
   have A:Hid (∀ j,j<q->l[j]?=m[j]?):=v;have B:Hid (Below w.heap.size w wr):=D;clear v D;by_cases Q:q<l.length
   ·have J:l[q]?=some l[q]:=Zg Q;have P:q<m.length:=by have:=E.out;omega
    have L:m[q]?=some m[q]:=Zg P;generalize l[q]=x at J;generalize m[q]=y at L;obtain⟨g,o,V,U,rfl,_,W,d1,d2,hk⟩:=LIn.at (hl.out.below B.out) J
    obtain⟨g',o',b',O,rfl,_,S,d4,d5,F⟩:=LIn.at (hm.out.below B.out) L
    have C:Hid (∀ z,Below wr.heap.size wr z->Calls prog 261 #[Tv x V U,Tv y b' O] z fun e w'=>Q6 e (x=y)/\Below z.heap.size z w') :=
     fun z D=>IH.out x y V b' U O _ (hk.below D) (F.below D) (T.out x (Zm J))
    have k:Hid (l[q]?=some x):=J;have s:Hid (m[q]?=some y):=L;have hg:g<wr.heap.size:=Xi wr ⟨g,o+q*3,none⟩ W;have ab:g'<wr.heap.size:=Xi wr ⟨g',o'+q*3,none⟩ S;clear hk F J L;simp only[Tv] at C
    generalize x.kind=kx at C W;generalize x.r=rx at C d1;generalize x.len=lx at C d2;generalize y.kind=ky at C S;generalize y.r=ry at C d4;generalize y.len=ly at C d5;have ac:(0:Int)<=q:=by omega
    have X:(q:Int)<l.length:=by omega
    have ad:(q:Int)<m.length:=by omega
    go_wp2_with fail
    have N:Below wr.heap.size wr ((wr.alloc (.cells #[Iv kx,Iv rx,.slice V lx U] 105)).alloc (.cells #[Iv ky,Iv ry,.slice b' ly O] 105)):=((Below.refl _ wr).alloc Ze _).alloc (by simp) _;refine(C.out _ N).mono ?_
    rintro r w5 ⟨⟨p,rfl,M⟩,b5⟩;have HB:Hid (Below w.heap.size w w5):=(B.out.trans (N.mono B.out.size)).trans (b5.mono (Zt B.out.size N.size));clear C b5 B W d1 d2 S d4 d5 N
    cases p with
    | true =>
      have t:x=y:=M.1 Z
      have A2:Hid (∀ j,j<q+1->l[j]?=m[j]?):=fun j hj=>by
       by_cases e:j=q
       ·subst e;rw[k.out,s.out,t]
       ·exact A.out j (by omega)
      clear M t k s A;go_wp2
      go_roundw
      case rel=>exact⟨q+1,by omega,by go_num,A2.out,HB.out⟩
      case measure=>simp[intOf];omega
    | false =>
      have t:Hid (¬ l=m):=fun h=>by
       have h1:=k.out;rw[h,s.out] at h1
       have:=M.2 (Xn h1).symm
       cases this
      clear M k s A;go_wp2
      go_ret;exact⟨Q6.no t.out,HB.out⟩
   ·have R:Hid (l=m):=by
     have:=E.out
     refine List.ext_getElem? (fun i=>?_);by_cases hi:i<q
     ·exact A.out i hi
     ·rw[Xk (by omega),Xk (by omega)]
    have X:¬ (q:Int)<l.length:=by omega
    clear A;go_wp2
    go_ret;exact⟨Q6.yes R.out,B.out⟩
 ·have I:((l.length:Int) != (m.length:Int))=true:=by simp;omega
  have E:Hid (l.length≠m.length):=f;clear f;go_enter func260,ntmps260
  go_wp2
  go_ret;exact⟨Q6.no (fun h=>E.out (by rw[h])),Zr⟩
theorem same_any:∀ n,Qd2 261 n:=by
 intro n
 induction n with
 | zero=>intro t;exact Empty.elim t
 | succ n ih =>
   intro t u a b c d w F D G;have i:∀ x∈t.2.2,x.count<=100000:=fun x L=>by have:=t.count_kid L;omega
   have f:t.2.2.length<=100000:=by have:=t.len_lt_count;rw[t.len_eq] at this;omega
   have C:Hid (∀ g,Below w.heap.size w g->Calls prog 260 #[.slice a t.2.2.length c,.slice b u.2.2.length d,FV] g fun e J=>Q6 e (t.2.2=u.2.2)/\Below g.heap.size g J) :=
    fun g y=>QiT n ih t.2.2 u.2.2 a b c d g (F.below y) (D.below y) f i
   rw[TT.eq_iff]
   simp only[Tv,TT.len_eq] at C |-
   generalize t.2.2.length=p at C |-;generalize u.2.2.length=q at C |-;generalize (t.2.2=u.2.2)=E at C |-;generalize t.kind=k;generalize t.r=r;generalize u.kind=o;generalize u.r=s;clear i f G F D ih t u;by_cases m:k=o
   ·subst m;by_cases j:r=s
    ·subst j;go_enter func261,ntmps261
     go_wp2_with fail
     have l:Below w.heap.size w ((w.alloc (.cells #[Iv k,Iv r,.slice a p c] 105)).alloc (.cells #[Iv k,Iv r,.slice b q d] 105)):=((Below.refl _ w).alloc Ze _).alloc (by simp) _;refine(C.out _ l).mono ?_
     rintro e I ⟨⟨v,rfl,z⟩,A⟩;have B:Hid (Below w.heap.size w I):=l.trans (A.mono l.size);have V:Hid (v=true↔E):=z;clear A C z l
     cases v
     all_goals
      go_wp2
      go_ret
     ·exact⟨Q6.no (fun h=>by have:=V.out.2 h.2.2;cases this),B.out⟩
     ·exact⟨Q6.yes (by have:=V.out;simpa using this),B.out⟩
    ·have K:(r==s)=false:=by simpa using j
     have R:Hid (¬ r=s):=j;clear j;go_enter func261,ntmps261
     go_wp2_with fail
     go_ret;exact⟨Q6.no (fun h=>R.out h.2.1),((Below.refl _ w).alloc Ze _).alloc (by simp) _⟩
   ·have H:(k==o)=false:=by simpa using m
    have R:Hid (¬ k=o):=m;clear m;go_enter func261,ntmps261
    go_wp2_with fail
    go_ret;exact⟨Q6.no (fun h=>R.out h.1),((Below.refl _ w).alloc Ze _).alloc (by simp) _⟩
structure TP where
 p:Option Addr
 c:Nat
structure YIn (w:World) (O:Nat->Prop){n:Nat}(x:TT n) (i:TP):Prop where
 tree:TIn w O x i.p
 ok:x.ok
section
variable {w w':World}{O O':Nat->Prop}{n:Nat}{x:TT n}{i:TP}
theorem YIn.keep (hb:∀ k,O k->k<w.heap.size->w'.heap[k]?=w.heap[k]?) (a:∀ k,O k->k<w.heap.size->O' k) (h:YIn w O x i):YIn w' O' x i:=⟨h.tree.keep hb a,h.ok⟩
theorem YIn.below (h:YIn w O x i) (a:Below w.heap.size w w'):YIn w' O x i:=h.keep (fun k _ b=>a.block k b) (fun _ h _=>h)
theorem YIn.mono (h:YIn w O x i) (a:∀ k,O k->k<w.heap.size->O' k):YIn w O' x i:=h.keep (fun k _ _=>rfl) a
end
theorem Wd.of {a w:World}(b:Below a.heap.size a w):Wd a w []:=⟨b,fun i x h=>by simp at h,fun i x h=>by simp at h,fun i j x y h=>by simp at h⟩
section
variable {α:Type}{A:Lay α}{e:TypeId}{w w':World}{lo g n q s:Nat}{l:List α}{xs:List Value}{x:α}{ds:List Value}
theorem Qac.start (k:A.size=s) (h:w.ownsRow lo e s (.slice (some ⟨g,0,none⟩) m m) m xs):Qac A e w lo (.slice (some ⟨g,0,none⟩) 0 m) (l.take 0) []:=by
 subst k;obtain⟨r,o⟩:=h
 rcases o with ⟨a,_⟩|⟨t,j,d,a,q,n,p,f,b,c⟩
 ·simp at a
 ·simp only[Value.slice.injEq,Option.some.injEq,Addr.mk.injEq,and_true,true_and] at a
  obtain⟨rfl,rfl⟩:=a
  exact⟨⟨by simp,.inr ⟨g,m,d,Z,q,n,Xb _,f,b,by simp⟩⟩,fun i x h=>by simp at h⟩
theorem Qac.blk (h:Qac A e w lo (.slice (some ⟨g,0,none⟩) q n) l xs) (j:A.size=s):∃ c,Blk w g c e/\c.size=n*s:=by
 subst j;obtain⟨r,m⟩:=h.own
 rcases m with ⟨a,_⟩|⟨t,i,d,a,u,k,o,p,b,f⟩
 ·simp at a
 ·simp only[Value.slice.injEq,Option.some.injEq,Addr.mk.injEq,and_true,true_and] at a
  obtain⟨rfl,-,rfl⟩:=a
  exact⟨d,k,b⟩
theorem Qac.fillq (h:Qac A e w lo (.slice (some ⟨g,0,none⟩) q n) (l.take q) xs) (f:A.size=s) (i:q<l.length) (hn:l.length=n) (b:l[q]?=some x) (d:A.In w (fun k=>lo<=k/\k≠g) x ds) (c:w'=w.setCells g (0+q*s) ds) :
 ∃ xs',Qac A e w' lo (.slice (some ⟨g,0,none⟩) (q+1) n) (l.take (q+1)) xs':=by
 subst f c;have a:(l.take q).length=q:=by simp;omega
 have T:l.take (q+1)=l.take q++[x]:=by rw[XV,b];rfl
 have:=Qac.fill (l:=l.take q) (g:=g) (n:=n) (by rw[a];exact h) d (by omega)
 rw[a] at this
 rw[T,XK]
 exact⟨_,this⟩
theorem Qac.done (h:Qac A e w lo (.slice (some ⟨g,0,none⟩) q n) (l.take q) xs) (a:q=l.length):A.list.In w (Qb1 lo) l [.slice (some ⟨g,0,none⟩) l.length n]:=by
 have:=h.lay
 subst a;rw[List.take_length] at this
 exact this
end
theorem Qbx {z:Value}{s:Nat}(h:(prog.info? t).map (fun i=>(i.zero,i.size,i.bytes))=some (some z,s,b)):∃ i,prog.info? t=some i/\i.zero=some z/\i.size=s/\i.bytes=b:=by
 obtain⟨i,a,e⟩:=Option.map_eq_some_iff.1 h
 simp only[Prod.mk.injEq] at e
 exact⟨i,a,e⟩
theorem infoIns:(prog.info? 78).map (fun i=>(i.zero,i.size,i.bytes))=some (some (.agg #[Iv 0,Iv 0,Iv 0,Iv 0,Iv 0,Iv 0,Nv,Nv]),8,96):=by kernel_rfl
theorem infoBlock:(prog.info? 86).map (fun i=>(i.zero,i.size,i.bytes))=some (some (.agg #[Iv 0,Nv,Nv,Iv 0,Iv 0,Iv 0,Nv,Nv,Iv 0,Nv,Nv,Nv]),12,208):=by kernel_rfl
theorem infoFunc:(prog.info? 89).map (fun i=>(i.zero,i.size,i.bytes))=some (some (.agg #[Iv 0,Nv,Nv,Nv]),4,80):=by kernel_rfl
section
open Go.Deep
def Wt {H:Type}(P:Program) (t:TypeId) (d:DataW H):Prop:=∀ n∈d.weights P t,n<=reachBytes
def Qy (P:Program) (t:TypeId){α:Type}(A:Lay α) (n:Nat) (Bd:α->Prop):Prop :=
 P.cellsOf t=A.size/\∀ {H:Type} {enc:TypeId × Value->H} {w:World} {base:Nat} {spare:Nat->Bool} {held:Bool} {fuel:Nat} {cs:List Value} {x:DataW H × List MemPlace},
  fuel<=n->DataW.trod enc P w base spare held fuel t cs=some x->Wt P t x.1->∃ d,A.In w (fun _=>True) d cs/\Bd d
theorem Qy.int (n:Nat) (h:P.underlying t=some (.int .i64)) (c:P.cellsOf t=1):Qy P t Lay.int n (fun _=>True) :=
 ⟨c,fun _ a _=>by
  obtain⟨k,e,_,b⟩:=DataW.trod_int h a
  exact⟨k,⟨e,Go.bounds_i64 b⟩,Y⟩⟩
theorem Qbi {H:Type}{P:Program}{e:TypeId}:∀ {l:List (DataW H)}{d:DataW H},d∈l->∀ n∈d.weights P e,n∈DataW.weightsAll P e l
 | d0::l,d,h,n,hn=>by
   simp only[DataW.weightsAll,List.mem_append]
   rcases List.mem_cons.1 h with rfl | h
   ·exact .inl hn
   ·exact .inr (Qbi h n hn)
theorem Qy.list {α:Type}{A:Lay α}{Bd:α->Prop}(h:P.underlying t=some (.slice e)) (hc:P.cellsOf t=1) (W:Qy P e A n Bd) (F:0<A.size) (K:0<P.bytesOf e):Qy P t A.list n (fun l=>l.length<1152921504606846976) :=
 ⟨hc,fun {H ae w v J aa ab cs x} hf h' U=>by
  rcases DataW.trod_slice h h' with ⟨L,_⟩|⟨a,m,S,c,g,q,rfl,L,ex,hb,hl,hm,X,O,_,_⟩
  ·exact⟨[],by rw[L];exact Yg A _ _ _ _,by simp⟩
  ·have af:(c.length+g.length)*P.bytesOf e<=reachBytes:=U _ (by rw[ex];simp[DataW.weights,h])
   have ac:m<1152921504606846976:=by
    have h1:c.length*1<=(c.length+g.length)*P.bytesOf e:=Nat.mul_le_mul (by omega) K;have h2:reachBytes<1152921504606846976:=by decide
    omega
   have D:∀ i,i<m->∃ y,c[i]?=some y/\Wt P e y.1:=fun i z=>by
    refine⟨c[i]'(by omega),Zg (by omega),fun k hk=>U k ?_⟩
    rw[ex]
    simp only[DataW.weights,h,List.mem_cons,List.mem_append]
    exact .inr (.inl (Qbi (List.mem_map_of_mem (List.getElem_mem (by omega))) k hk))
   obtain⟨l,N,V⟩:=Qgy (P:=fun i (d:α)=>∃ f,w.cells? v (a.add (i*A.size)) A.size=some f/\A.In w (fun _=>True) d f) m (fun i z=>by
    have I:=O i z;obtain⟨y,hy,T⟩:=D i z
    rw[hy,W.1] at I
    rw[Option.bind_eq_some_iff] at I
    obtain⟨f,p,M⟩:=I
    obtain⟨d,G,_⟩:=W.2 (by omega) M T
    exact⟨d,f,p,G⟩)
   refine⟨l,⟨some a,S,by rw[L,N],fun i x hx=>?_⟩,by omega⟩
   obtain⟨f,p,G⟩:=V i x hx
   obtain⟨_,ad,r⟩:=World.cells?_some p
   obtain⟨b,u,B⟩:=a
   have o:B=none:=by
    have z:0<l.length:=Nat.lt_of_le_of_lt (Xb i) (Zi hx).1;obtain⟨R,E,Q⟩:=V 0 l[0] (Zg z)
    have s:0<R.length:=by rw[A.len Q];exact F
    have:=(World.cells?_some E).2.2 0 F
    rw[Zg s] at this
    simpa[Addr.add] using World.cell?_spot this
   subst o
   have C:∀ j,j<A.size->w.cell? ⟨b,u+i*A.size+j,none⟩=f[j]?:=fun j hj=>by
    have:=r j hj
    rw[Go.WideShapes.add_plain,Go.WideShapes.add_plain] at this
    exact this
   refine⟨b,u,f,Z,Y,?_,C,G⟩
   have s:0<f.length:=by rw[A.len G];exact F
   have:=C 0 F
   rw[Zg s] at this
   exact Xi w _ this⟩
def QF (P:Program) (fs:Array Field):Nat->Nat->{α:Type}->Lay α->Nat->(α->Prop)->Prop:=fun i o α A n Bd =>
 ∀ (H:Type) (enc:TypeId × Value->H) (w:World) (base:Nat) (spare:Nat->Bool) (held:Bool) (fuel:Nat) (cs:List Value) (xs:List (DataW H × List MemPlace)),
  fuel<=n->cs.length=o+A.size->xs.length=fs.size->(∀ (j:Nat) (f:Field),fs[j]?=some f->DataW.trod enc P w base spare held fuel f.type ((cs.drop f.offset).take (P.cellsOf f.type))=xs[j]?) ->
  (∀ (j:Nat) (f:Field) x,fs[j]?=some f->xs[j]?=some x->Wt P f.type x.1)->∃ d,A.In w (fun _=>True) d (cs.drop o)/\Bd d
theorem QF.last {fs:Array Field}{f:Field}{α:Type}{A:Lay α}{c:α->Prop}(a:fs[i]?=some f) (r:f.offset=o) (e:Qy P f.type A n c):QF P fs i o A n c:=by
 intro H p w l b j k y z t x u h q;have g:=h i f a;have v:i<fs.size:=(Array.getElem?_eq_some_iff.1 a).1;rw[Zg (by omega),r,e.1] at g
 obtain⟨d,m,s⟩:=e.2 t g (q i f _ a (Zg (by omega)))
 refine⟨d,?_,s⟩
 rwa [XO (by simp;omega)] at m
theorem QF.cons {fs:Array Field}{f:Field}{α β:Type}{A:Lay α}{B:Lay β}{m:α->Prop}{q:β->Prop}(c:fs[i]?=some f) (D:f.offset=o) (p:Qy P f.type A n m) (v:QF P fs (i+1) (o+A.size) B n q):QF P fs i o (A.pair B) n (fun x=>m x.1/\q x.2):=by
 intro H z w k a r s J I l F C h j;have g:=h i f c;have G:i<fs.size:=(Array.getElem?_eq_some_iff.1 c).1;rw[Zg (by omega),D,p.1] at g
 obtain⟨d,y,u⟩:=p.2 l g (j i f _ c (Zg (by omega)))
 have E:(A.pair B).size=A.size+B.size:=rfl;obtain⟨e,t,b⟩:=v _ _ _ _ _ _ _ _ _ l (by omega) C h j
 refine⟨(d,e),⟨_,_,?_,y,t⟩,u,b⟩
 rw[<-List.drop_drop,List.take_append_drop]
theorem Qy.struct {fs:Array Field}{α:Type}{A:Lay α}{l:α->Prop}(h:P.underlying t=some (.struct fs)) (i:P.cellsOf t=A.size) (q:QF P fs 0 0 A n l):Qy P t A n l :=
 ⟨i,fun {H C w g b o p I x} G v u=>by
  obtain⟨F,m,rfl,E,c,a,e⟩:=DataW.trod_struct h v
  obtain⟨d,B,z⟩:=q _ _ _ _ _ _ _ _ _ (by omega) (by rw[c,i];omega) a e (fun j f y r s k D=>u k (by
   rw[E]
   simp only[DataW.weights,h]
   exact DataW.weights_mem_each (j:=j) (t:=f.type) (d:=y.1) (by simp[r]) (by simp[s]) k D))
  exact⟨d,by simpa using B,z⟩⟩
theorem Qy.via {α β:Type}{A:Lay α}{f:β->α}{a:α->Prop}(h:Qy P t A n a) (g:α->β) (b:∀ d,f (g d)=d):Qy P t (A.via f) n (fun x=>a (f x)) :=
 ⟨h.1,fun i j e=>by
  obtain⟨d,c,k⟩:=h.2 i j e
  exact⟨g d,by show A.In _ _ (f (g d)) _;rw[b];exact c,by show a (f (g d));rw[b];exact k⟩⟩
theorem own:ownKnob prog.godebug=none:=by kernel_rfl
theorem laidOut:laidOutB prog=true:=by kernel_rfl
theorem fieldsT:∃ f0 f1 f2:Field,prog.underlying 105=some (.struct #[f0,f1,f2]) /\
 (f0.offset=0/\prog.cellsOf f0.type=1/\prog.underlying f0.type=some (.int .i64))/\(f1.offset=1/\prog.cellsOf f1.type=1/\prog.underlying f1.type=some (.int .i64)) /\
 (f2.offset=2/\prog.cellsOf f2.type=1/\f2.type=80) :=
 ⟨_,_,_,underlying105,⟨Z,by kernel_rfl,by kernel_rfl⟩,⟨Z,by kernel_rfl,by kernel_rfl⟩,⟨Z,by kernel_rfl,Z⟩⟩
theorem QmL (n:Nat):Qy prog 105 (Lay.tt n) n (fun _=>True) :=
 ⟨by kernel_rfl,fun {H h w g d f b v x} p m r=>by
  obtain⟨s,u,y,e,k,o,j⟩:=fieldsT
  obtain⟨t,a,c,i,q,l⟩:=Qk0 (ti:=0) underlying80 e (by kernel_rfl) k o j n b p m
  exact⟨t,⟨a,c,i,q,l⟩,Y⟩⟩
theorem QaT (n:Nat):Qy prog 3 Lay.int n (fun _=>True):=Qy.int n underlying3 (by kernel_rfl)
theorem QlB (n:Nat):Qy prog 2 Lay.int n (fun _=>True):=Qy.int n underlying2 (by kernel_rfl)
theorem Qgp (n:Nat):Qy prog 80 (Qx n) n (fun l=>l.length<1152921504606846976):=Qy.list underlying80 (by kernel_rfl) (QmL n) (by show 0<3;decide) (by rw[show prog.bytesOf 105=40 from by kernel_rfl];decide)
end
def QiH {α:Type}(A:Lay α) (w w':World) (x:α) (e:Ending):Prop:=∃ ds:List Value,e=.returned (.agg ds.toArray)/\A.In w' (Qb1 w.heap.size) x ds/\Below w.heap.size w w'
theorem Qm7 (a:World) (z:Array Value) (t:TypeId)(b:cs.length=z.size):(a.alloc (.cells z t)).there a.heap.size 0 cs.toArray.size/\Blk ((a.alloc (.cells z t)).setCells a.heap.size 0 cs) a.heap.size cs.toArray t/\Below a.heap.size a ((a.alloc (.cells z t)).setCells a.heap.size 0 cs):=by
 have c:=Blk.new a z t;refine⟨Blk.there c (by simp[b]),?_,?_⟩
 ·have d:Blk (a.alloc (.cells z t)) a.heap.size ([]++z.toList).toArray t:=c;exact Blk.sets cs [] z.toList _ (by simpa using b) d
 ·exact QB Ze cs _ _ 0 (ZO a _)
theorem Blk.setsA {c:Array Value}(h:Blk w R c t) (a:List Value) (b:a.length=c.size):Blk (w.setCells R 0 a) R a.toArray t:=Blk.sets a [] c.toList w (by simpa using b) h
theorem infoType0:(prog.info? 105).map (fun i=>(i.zero,i.size,i.bytes))=some (some (.agg #[Iv 0,Iv 0,Nv]),3,40):=by kernel_rfl
theorem Qbo {z:Value}(h:(prog.info? t).map (fun i=>(i.zero,i.size,i.bytes))=some (some z,s,b)):(prog.info? t).map (·.size)=some s:=by
 obtain⟨i,c,-,a,-⟩:=Qbx h
 rw[c];simp[a]
theorem Qb0 {fn:Func}{R:Ending->World->Prop}{a:Act}{t:Tmp}{b j:TypeId}{c:Array Value}{d:TypeDesc}(k:fn.results=#[.cell t b]) (e:a.tmps.getD t undef=Pv B 0) (i:a.defers=[]) (m:Blk w B c j)
 (g:prog.underlying b=some d) (h:d.isRow=true) (hi:(prog.info? b).map (·.size)=some c.size) (l:R (.returned (.agg c)) w):bodyPost prog fn R .ret a w:=by
 refine Xy ?_ i l;have f:=run_loadVar_mid (P:=prog) w B 0 b c.toList d (Blk.range (by simpa using m)) g h (by simpa using hi);simp only[Array.toArray_toList] at f
 rw[Za] at e
 simp[results,k,e,asAddr,f]
theorem Z6 {α:Type}{A:Lay α}{F K:FuncId}{l:List α}
 (hF:F=122/\A.size=3\/F=186/\A.size=8\/F=124/\A.size=12\/F=76/\A.size=4)
 (I:Qaf K) (aa:A.list.In w All l [.slice p l.length c]) (hb:l.length<=4294967296) (J:∀ (w:World) (O:Nat->Prop) (x:α) (ds:List Value),A.In w O x ds->∀ v∈ds,v.oneCell'=true)
 (H:∀ x∈l,∀ ds wx,A.In wx All x ds->Calls prog K #[.agg ds.toArray] wx fun e w'=>QiH A wx w' x e) :
 Calls prog F #[.slice p l.length c,.func (.func K) #[] #[]] w fun e w'=>QhI A w w' l e:=by
 have hl:=Qk aa;have hf:=Qk H;have h1:=Qk J;have hE:∀ (args:Array Value) (w:World),(callFunc K args).run prog w=.ok (.enter K args) w:=I;clear aa H J I;rcases hF with ⟨rfl,s⟩|⟨rfl,s⟩|⟨rfl,s⟩|⟨rfl,s⟩
 have T:=underlying105;have r:=Qbo infoType0;have G:=Qk fun (wx:World) (cs:List Value) (h:cs.length=3)=>Qm7 wx #[Iv 0,Iv 0,Nv] 105 h;obtain⟨z,t,b,f,d⟩:=Qbx infoType0
 obtain⟨B,y,a,m⟩:=run_make_full (P:=prog) w w.heap.size 80 105 z _ 3 underlying80 t b f .i64 .i64 l.length (by rw[d];omega) (by unfold maxLen;omega) Ze
 clear t b f d;have M:Hid (Below w.heap.size w B):=(Below.refl _ w).grown m Ze (fun k r=>by cases r);have N:=Qk (Qac.start (l:=l) s a);clear m a;go_enter func122,ntmps122
 rotate_left
 have T:=underlying78;have r:=Qbo infoIns;have G:=Qk fun (wx:World) (cs:List Value) (h:cs.length=8)=>Qm7 wx #[Iv 0,Iv 0,Iv 0,Iv 0,Iv 0,Iv 0,Nv,Nv] 78 h;obtain⟨z,t,b,f,d⟩:=Qbx infoIns
 obtain⟨B,y,a,m⟩:=run_make_full (P:=prog) w w.heap.size 79 78 z _ 8 underlying79 t b f .i64 .i64 l.length (by rw[d];omega) (by unfold maxLen;omega) Ze
 clear t b f d;have M:Hid (Below w.heap.size w B):=(Below.refl _ w).grown m Ze (fun k r=>by cases r);have N:=Qk (Qac.start (l:=l) s a);clear m a;go_enter func186,ntmps186
 rotate_left
 have T:=underlying86;have r:=Qbo infoBlock;have G:=Qk fun (wx:World) (cs:List Value) (h:cs.length=12)=>Qm7 wx #[Iv 0,Nv,Nv,Iv 0,Iv 0,Iv 0,Nv,Nv,Iv 0,Nv,Nv,Nv] 86 h;obtain⟨z,t,b,f,d⟩:=Qbx infoBlock
 obtain⟨B,y,a,m⟩:=run_make_full (P:=prog) w w.heap.size 87 86 z _ 12 underlying87 t b f .i64 .i64 l.length (by rw[d];omega) (by unfold maxLen;omega) Ze
 clear t b f d;have M:Hid (Below w.heap.size w B):=(Below.refl _ w).grown m Ze (fun k r=>by cases r);have N:=Qk (Qac.start (l:=l) s a);clear m a;go_enter func124,ntmps124
 rotate_left
 have T:=underlying89;have r:=Qbo infoFunc;have G:=Qk fun (wx:World) (cs:List Value) (h:cs.length=4)=>Qm7 wx #[Iv 0,Nv,Nv,Nv] 89 h;obtain⟨z,t,b,f,d⟩:=Qbx infoFunc
 obtain⟨B,y,a,m⟩:=run_make_full (P:=prog) w w.heap.size 22 89 z _ 4 underlying22 t b f .i64 .i64 l.length (by rw[d];omega) (by unfold maxLen;omega) Ze
 clear t b f d;have M:Hid (Below w.heap.size w B):=(Below.refl _ w).grown m Ze (fun k r=>by cases r);have N:=Qk (Qac.start (l:=l) s a);clear m a;go_enter func76,ntmps76
 rotate_left
 all_goals
  go_wp2_with fail
  go_loopw [13] (fun i wr=>∃ q:Nat,q<=l.length/\i=Iv q/\(∃ e xs,Qac A e wr w.heap.size (.slice (some ⟨w.heap.size,0,none⟩) q l.length) (l.take q) xs)/\Below w.heap.size w wr) (fun i _=>l.length - (intOf i).toNat)
  case atStart=>exact⟨0,Xb _,Yz,⟨_,_,N.out⟩,M.out⟩
  case round =>
   obtain⟨q,hq,rfl,⟨e,xs,hA⟩,hB⟩:=hrel
   have U:=Qk hA;have E:=Qk hB;clear hA hB M N y;obtain⟨D,ad⟩:∃ D,D=wr:=⟨_,Yz⟩
   subst ad;by_cases ab:q<l.length
   rotate_left
   ·have Q:¬ (q:Int)<l.length:=by omega
    have R:Hid (QhI A w D l (.returned (.slice (some ⟨w.heap.size,0,none⟩) l.length l.length))):=⟨_,_,Yz,U.out.done (by omega),E.out⟩;clear U E;go_wp2
    go_ret;exact R.out
   have Q:(q:Int)<l.length:=by omega
   have X:l[q]?=some l[q]:=Zg ab;generalize l[q]=x at X;obtain⟨g,o,ds,rfl,-,-,E3,I3⟩:=Yf (Ya hl.out E.out) X
   have S:=A.len I3;rw[s] at S E3
   have RG:=Qk (show D.rangeAt g (o+q*_) ds from fun j v hj=>(E3 j (by rw[<-S];exact(Zi hj).1)).trans hj);have TO:=Qk (all_oneCell_toArray (h1.out _ _ _ _ I3));obtain⟨M1,M2,M3⟩:=G.out D ds S
   have HM:=Qk M1;have V:=Qk (r.trans (congrArg some S.symm));have CC:=Qk (hf.out x (Zm X) ds _ (Ya I3 M3));have B2:=Qk M2;have L:=Qk M3;have HX:=Qk X;clear M1 M2 M3 E3 I3 X S;go_upto_region 5 with (first | (refine wpList_load_mid Yz _ (.tmp 16) Yz g _ Yz ds _ RG.out T Yz V.out ?_) | (refine wpList_store_mid Yz _ (.tmp 7) (.tmp 17) Yz D.heap.size 0 ds.toArray Yz Yz HM.out V.out TO.out ?_))
   clear HM RG TO;generalize World.setCells _ _ _ _=w3 at B2 L CC |-;generalize D.heap.size=Z at B2 |-;have RZ:Hid (w3.rangeAt Z 0 ds):=Blk.range B2.out;clear B2;go_wp2_with (refine wpList_load_mid Yz _ (.tmp 7) Yz Z 0 Yz ds _ RZ.out T Yz V.out ?_)
   refine CC.out.mono ?_;rintro _ w8 ⟨d2,rfl,I8,B8⟩;have u:=A.len I8;rw[s] at u
   have b8:=L.out.trans (B8.mono L.out.size);have C:=U.out.below b8;obtain⟨cg,ac,W⟩:=C.blk s
   have s1:=(U.out.lo_le (g:=w.heap.size) Yz).2;have s2:=L.out.size;have NX:=Qk (C.fillq s ab Yz HX.out (Yc I8 (fun k r _=>⟨by have:_<=k:=r;omega,by have:_<=k:=r;omega⟩)) Yz);have BX:=Qk (QB Ze d2 _ _ (q*A.size) (E.out.trans (b8.mono E.out.size)));have TO:=Qk (all_oneCell_toArray (h1.out _ _ _ _ I8));have V:=Qk (r.trans (congrArg some u.symm));have HT:=Qk (Blk.there (o:=q*A.size) (n:=d2.length) ac (by rw[W,u,s];omega));clear u b8 C ac W I8 B8 CC RZ L U E hl hf h1 G s1 s2;rw[XK] at NX
   rw[s] at BX HT
   go_wp2_with (refine wpList_store_mid Yz _ (.tmp 23) (.tmp 22) Yz w.heap.size _ d2.toArray Yz Yz HT.out V.out TO.out ?_)
   go_roundw
   case rel=>exact⟨q+1,by omega,by go_num,(by obtain⟨_,h⟩:=NX.out;exact⟨_,_,h⟩),BX.out⟩
   case measure=>simp[intOf];omega
structure Bxs (w wx:World) (l:List (Nat × Array Value × TypeId)):Prop where
 bel:Below w.heap.size w wx
 ge:∀ b∈l,w.heap.size<=b.1
 box:∀ b∈l,Blk wx b.1 b.2.1 b.2.2
 nd:(l.map (·.1)).Nodup
section
variable {w wx w':World}{l a z:List (Nat × Array Value × TypeId)}{B:Nat}{c:Array Value}{t:TypeId}
theorem Bxs.start (w:World):Bxs w w []:=⟨Zr,fun _ h=>by simp at h,fun _ h=>by simp at h,by simp⟩
theorem Bxs.below (h:Bxs w wx l) (k:Below wx.heap.size wx w'):Bxs w w' l:=⟨h.bel.trans (k.mono h.bel.size),h.ge,fun b a=>(h.box b a).below k,h.nd⟩
theorem Bxs.drewN (h:Bxs w wx l) (n:Nat):Bxs w (wx.drewN n) l:=h.below (Qs Zr n)
theorem Bxs.drew (h:Bxs w wx l):Bxs w wx.drew l:=h.drewN 1
theorem Bxs.add (h:Bxs w wx l) (hb:Blk wx B c t) (d:w.heap.size<=B) (hn:∀ b∈l,b.1≠B):Bxs w wx ((B,c,t)::l) :=
 ⟨h.bel,fun b a=>by rcases List.mem_cons.1 a with rfl | e;exact d;exact h.ge b e,fun b a=>by rcases List.mem_cons.1 a with rfl | e;exact hb;exact h.box b e,by
  simp only[List.map_cons,List.nodup_cons]
  refine⟨fun e=>?_,h.nd⟩
  obtain⟨b,a,e⟩:=List.mem_map.1 e
  exact hn b a e⟩
theorem Bxs.new (h:Bxs w wx l) (c:Array Value) (t:TypeId):Bxs w (wx.alloc (.cells c t)) ((wx.heap.size,c,t)::l) :=
 (h.below (ZO _ _)).add (Blk.new _ _ _) h.bel.size (fun b a e=>by have:=(h.box b a).lt;omega)
theorem Bxs.made (h:Bxs w wx l) (k:Below wx.heap.size wx w') (hb:Blk w' B c t) (d:wx.heap.size<=B):Bxs w w' ((B,c,t)::l) :=
 (h.below k).add hb (Zt h.bel.size d) (fun b a e=>by have:=(h.box b a).lt;omega)
theorem Bxs.at (h:Bxs w wx (a++(B,c,t)::z)):Blk wx B c t:=h.box (B,c,t) (by simp)
theorem Bxs.cell (h:Bxs w wx (a++(B,c,t)::z)) (i:Nat) (v:Value) (b:c[i]?=some v):wx.cell? ⟨B,i,none⟩=some v:=Qa h.at i v b
theorem Bxs.free (h:Bxs w wx (a++(B,c,t)::z)) (i:Nat):wx.frozen? ⟨B,i,none⟩=false:=Qe h.at i
theorem Bxs.set (h:Bxs w wx (a++(B,c,t)::z)) (i:Nat) (v:Value):Bxs w (wx.setCell ⟨B,i,none⟩ v) (a++(B,c.setIfInBounds i v,t)::z):=by
 have f:∀ b∈a++z,b.1≠B:=fun b d e=>by
  have j:=h.nd;rw[List.map_append,List.map_cons,List.nodup_append] at j
  obtain⟨-,g,k⟩:=j
  rw[List.nodup_cons] at g
  rcases List.mem_append.1 d with d | d
  ·exact k b.1 (List.mem_map_of_mem d) B (by simp) e
  ·exact g.1 (List.mem_map.2 ⟨b,d,e⟩)
 refine⟨h.bel.setCell (p:=⟨B,i,none⟩) (h.ge (B,c,t) (by simp)) v,fun b d=>?_,fun b d=>?_,?_⟩
 ·simp only[List.mem_append,List.mem_cons] at d
  rcases d with d | rfl | d
  ·exact h.ge b (by simp[d])
  ·exact h.ge (B,c,t) (by simp)
  ·exact h.ge b (by simp[d])
 ·simp only[List.mem_append,List.mem_cons] at d
  rcases d with d | rfl | d
  ·exact(Xd _ _ _ _ (f b (by simp[d]))).trans (h.box b (by simp[d]))
  ·have:=Qh h.at i v
   simpa using this
  ·exact(Xd _ _ _ _ (f b (by simp[d]))).trans (h.box b (by simp[d]))
 ·have:=h.nd
  simpa using this
theorem Bxs.drop (h:Bxs w wx ((B,c,t)::l)):Bxs w wx l:=⟨h.bel,fun b a=>h.ge b (by simp[a]),fun b a=>h.box b (by simp[a]),by have:=h.nd;simp only[List.map_cons,List.nodup_cons] at this;exact this.2⟩
theorem Bxs.ne (h:Bxs w wx ((B,c,t)::l)):∀ b∈l,b.1≠B:=fun b a e=>by
 have:=h.nd
 simp only[List.map_cons,List.nodup_cons] at this
 exact this.1 (List.mem_map.2 ⟨b,a,e⟩)
end
def NuI (lo:Nat) (l:List Int) (v:Value) (w:World):Prop:=∃ p c,v=.slice p l.length c/\intsL.In w (Qb1 lo) l [v]
theorem NuI.below {lo:Nat}(b:Below w.heap.size w w') (h:NuI lo l v w):NuI lo l v w':=by
 obtain⟨p,c,rfl,h⟩:=h
 exact⟨p,c,Z,Ya h b⟩
theorem NuI.move {lo a:Nat}(h:NuI lo l v w) (hb:∀ k,lo<=k->w'.heap[k]?=w.heap[k]?) (d:a<=lo):NuI a l v w':=by
 obtain⟨p,c,rfl,h⟩:=h
 exact⟨p,c,Z,intsL.keep (fun k b _=>hb k b) (fun k b _=>Zt d b) h⟩
theorem QkV {F:FuncId}(hF:F=232/\(∃ n,cs=[Iv n])\/F=187/\∃ a b c d e f,cs=[Iv a,Iv b,Iv c,Iv d,Iv e,Iv f])
 {j l:List Int}    (E:intsL.In w All j [.slice pR j.length cR]) (D:intsL.In w All l [.slice pA l.length cA]) (b1:j.length<=4294967296) (b2:l.length<=4294967296) :
 Calls prog F #[.agg (cs++[Value.slice pR j.length cR,Value.slice pA l.length cA]).toArray] w fun e w'=>∃ u v,e=.returned (.agg (cs++[u,v]).toArray)/\NuI w.heap.size j u w'/\NuI w.heap.size l v w'/\Below w.heap.size w w':=by
 have C:=Qk E;have hg:=Qk D;clear E D;obtain⟨o,L⟩:∃ o,cs.length=o:=⟨_,Z⟩
 obtain⟨A,s⟩:∃ o,cs.length+1=o:=⟨_,Z⟩
 rcases hF with ⟨rfl,n,rfl⟩|⟨rfl,n1,n2,n3,n4,n5,n6,rfl⟩
 have p:=Qk (((Bxs.start w).new #[Iv n,.slice pR j.length cR,.slice pA l.length cA] 82).new #[Iv 0,Nv,Nv] 82);have V:=underlying82;have r:(prog.info? 82).map (·.size)=some 3:=by kernel_rfl
 go_enter func232,ntmps232
 rotate_left
 have p:=Qk (((Bxs.start w).new #[Iv n1,Iv n2,Iv n3,Iv n4,Iv n5,Iv n6,.slice pR j.length cR,.slice pA l.length cA] 78).new #[Iv 0,Iv 0,Iv 0,Iv 0,Iv 0,Iv 0,Nv,Nv] 78);have V:=underlying78;have r:(prog.info? 78).map (·.size)=some 8:=by kernel_rfl
 go_enter func187,ntmps187
 all_goals
  go_upto_region 1 with fail
  generalize World.alloc (World.alloc w _) _=q at p |-;have u0:q.cell? ⟨w.heap.size,o,none⟩=some (.slice pR j.length cR):=p.out.cell (a:=[_]) o _ (by subst L;rfl);have O:q.cell? ⟨w.heap.size,A,none⟩=some (.slice pA l.length cA):=p.out.cell (a:=[_]) A _ (by subst s;rfl);simp only[List.length_cons,List.length_nil,Nat.zero_add,Nat.reduceAdd] at L s
  refine Qm 7 (QlI [(5,NuI q.heap.size j),(8,NuI q.heap.size l)] [(1,Pv w.heap.size 0),(3,Pv w.heap.size o),(4,.slice pR j.length cR),(6,Pv w.heap.size A),(7,.slice pA l.length cA),(9,Pv w.heap.size o)]) (fun G=>Below q.heap.size q G) (fun w w'=>Below w.heap.size w w') (by kernel_rfl) (outs:=[1]) (gs:=[]) (bs:=[true,true,true,true,true,true,true]) (n:=12) Z Ze (by kernel_rfl) (by kernel_rfl) ?hR ?hG (Qs Zr 1) ⟨Z,Y⟩ ?hA ?hend
  case hR=>exact fun t v w w' C h=>h.keep ⟨NuI.below C,NuI.below C,Y⟩
  case hG=>exact Y
  case hA =>
   subst L s
   repeat
    refine⟨fun a G g i K X=>?_,?_⟩
    focus
     obtain⟨k0,-⟩:=i
     conv at k0=>whnf;rhs;whnf
     have c0:=Qo u0 g;have c1:=Qo O g;have hw:=p.out.bel.trans (g.mono p.out.bel.size);go_simp
     first
      | with_reducible refine Xm (Qa6 _ _ _ G (Ya C.out hw) b1) ?_
        rintro e w9 ⟨P,U,rfl,N,B⟩;exact X _ _ B (g.trans (B.mono g.size)) ⟨P,U,Z,Yc N (fun k i _=>Zt g.size i)⟩
      | with_reducible refine Xm (Qa6 _ _ _ G (Ya hg.out hw) b2) ?_
        rintro e w9 ⟨P,U,rfl,N,B⟩;exact X _ _ B (g.trans (B.mono g.size)) ⟨P,U,Z,Yc N (fun k i _=>Zt g.size i)⟩
      | exact X _ _ Zr g Z
   trivial
  case hend =>
   rintro S x y g i;have J:NuI _ _ (x 5) y:=i 5 (by kernel_rfl);have I:NuI _ _ (x 8) y:=i 8 (by kernel_rfl);obtain⟨p5,c5,W,-⟩:=id J
   obtain⟨p8,c8,Q,-⟩:=id I
   rw[W] at J
   rw[Q] at I
   have e9:x 9=Pv w.heap.size o:=i 9 (by kernel_rfl);have H:=p.out.below g;have c0:=Qo u0 g;have c1:=Qo O g;have z0:=H.free (a:=[_]) o;have z1:=H.free (a:=[_]) A;have M:=(H.set (a:=[_]) o (.slice p5 j.length c5)).set (a:=[_]) A (.slice p8 l.length c8);have T:=Qk (M.at (a:=[_]));have e1:∀ o,(w.alloc o).heap.size=w.heap.size+1:=fun o=>by simp
   have z:=M.at (a:=[]);have m:=(p.out.at (a:=[])).lt;rw[e1] at z m
   replace z:=Qk z;replace m:=Qk m;clear e1;have E6:=Qk M.bel;have K5:=Qk J;have K8:=Qk I
   have hO:Hid (∀ k,q.heap.size<=k->((y.setCell ⟨w.heap.size,o,none⟩ (.slice p5 j.length c5)).setCell ⟨w.heap.size,A,none⟩ (.slice p8 l.length c8)).heap[k]?=y.heap[k]?):=fun k h=>by
    have:=(p.out.at (a:=[_])).lt
    rw[Xd _ _ _ _ (show k≠w.heap.size by omega),Xd _ _ _ _ (show k≠w.heap.size by omega)]
   subst L s;show wpList _ S _ [_,_,_] (QI _ x [3,4,5,6,7,8,9]) y;simp only[QI,Act.put,List.setIfInBounds_toArray,List.set_cons_zero,List.set_cons_succ,W,Q,e9]
   clear J I i W Q e9 H M p C hg u0 O g;go_upto_region 2 with fail
   generalize World.setCell (World.setCell y _ _) _ _=w6 at T z E6 hO |-;have R:=T.out;simp only[List.setIfInBounds_toArray,List.set_cons_zero,List.set_cons_succ] at R
   have RZ:=Qk (Blk.range R);clear T R;go_wp2_with (first | (refine wpList_load_mid Z _ (.tmp 1) Z w.heap.size 0 Z _ _ RZ.out V Z r ?_) | (refine wpList_store_mid Z _ (.tmp 2) (.tmp 11) Z (w.heap.size+1) 0 _ Z Z (Blk.there z.out Ze) r (all_oneCell_toArray (Xe.1 Z)) ?_))
   have i:∀ x k,q.heap.size<=k->(w6.setCells (w.heap.size+1) 0 x).heap[k]?=y.heap[k]?:=fun x k h=>(QD (by have:=m.out;omega) x 0 w6).trans (hO.out k h);have h3:w.heap.size<=q.heap.size:=by have:=m.out;omega
   exact Qb0 (t:=2) Z Z Z (Blk.setsA z.out _ Z) V Z r ⟨_,_,Z,K5.out.move (i _) h3,K8.out.move (i _) h3,QB (by omega) _ _ _ 0 E6.out⟩
def NuT (lo:Nat) (x:MTo) (v:Value) (w:World):Prop:=∃ a b,v=.agg #[Iv x.block,a,b]/\NuI lo x.regs a w/\NuI lo x.args b w
theorem NuT.below {lo:Nat}{x:MTo}(b:Below w.heap.size w w') (h:NuT lo x v w):NuT lo x v w':=by
 obtain⟨p,q,rfl,h,k⟩:=h
 exact⟨p,q,Z,h.below b,k.below b⟩
theorem NuI.in {lo:Nat}(h:NuI lo l v w):intsL.In w (Qb1 lo) l [v]:=by obtain⟨p,c,rfl,h⟩:=h;exact h
theorem NuI.lo {lo a:Nat}(h:NuI lo l v w) (b:a<=lo):NuI a l v w:=h.move (fun _ _=>rfl) b
theorem QkX {x:MTo}(h:Qgm w All x pR cR pA cA) (f:x.regs.length<=4294967296) (c:x.args.length<=4294967296):Calls prog 232 #[.agg #[Iv x.block,.slice pR x.regs.length cR,.slice pA x.args.length cA]] w fun e w'=>∃ v,e=.returned v/\NuT w.heap.size x v w'/\Below w.heap.size w w' :=
 (QkV (cs:=[Iv x.block]) (.inl ⟨Z,_,Z⟩) h.regs h.args f c).mono fun e w' ⟨u,v,d,a,g,b⟩=>⟨_,d,⟨u,v,Z,a,g⟩,b⟩
theorem Qlw {x:Z0}{i:EP}(h0:EIn w All x i) (s:x.small) :
 Calls prog 188 #[.agg #[Iv x.op,Iv x.a,Iv x.yes.block,.slice i.pYR x.yes.regs.length i.cYR,.slice i.pYA x.yes.args.length i.cYA,Iv x.no.block,.slice i.pNR x.no.regs.length i.cNR,.slice i.pNA x.no.args.length i.cNA,.slice i.pA x.args.length i.cA]] w fun e w'=>QiH endL w w' x e:=by
 have H:=Qk h0;have W:x.yes.regs.length<=4294967296:=by have:=s.1.1;omega
 have S:x.yes.args.length<=4294967296:=by have:=s.1.2;omega
 have J:x.no.regs.length<=4294967296:=by have:=s.2.1.1;omega
 have G:x.no.args.length<=4294967296:=by have:=s.2.1.2;omega
 have I:x.args.length<=4294967296:=by have:=s.2.2;omega
 clear h0 s;have l:=Qk (((Bxs.start w).new #[Iv x.op,Iv x.a,Iv x.yes.block,.slice i.pYR x.yes.regs.length i.cYR,.slice i.pYA x.yes.args.length i.cYA,Iv x.no.block,.slice i.pNR x.no.regs.length i.cNR,.slice i.pNA x.no.args.length i.cNA,.slice i.pA x.args.length i.cA] 84).new #[Iv 0,Iv 0,Iv 0,Nv,Nv,Iv 0,Nv,Nv,Nv] 84);go_enter func188,ntmps188
 go_upto_region 1 with fail
 generalize World.alloc (World.alloc w _) _=q at l |-;refine Qm 10 (QlI [(5,NuT q.heap.size x.yes),(8,NuT q.heap.size x.no),(11,NuI q.heap.size x.args)] [(1,Pv w.heap.size 0),(3,Pv w.heap.size 2),(4,.agg #[Iv x.yes.block,.slice i.pYR x.yes.regs.length i.cYR,.slice i.pYA x.yes.args.length i.cYA]),(6,Pv w.heap.size 5),(7,.agg #[Iv x.no.block,.slice i.pNR x.no.regs.length i.cNR,.slice i.pNA x.no.args.length i.cNA]),(9,Pv w.heap.size 8),(10,.slice i.pA x.args.length i.cA),(12,Pv w.heap.size 2)]) (fun F=>Below q.heap.size q F) (fun w w'=>Below w.heap.size w w') (by kernel_rfl) (outs:=[1]) (gs:=[]) (bs:=[true,true,true,true,true,true,true,true,true,true]) (n:=16) Z Ze (by kernel_rfl) (by kernel_rfl) ?hR ?hG (Qs Zr 1) ⟨Z,Y⟩ ?hA ?hend
 case hR=>exact fun t v w w' N h=>h.keep ⟨NuT.below N,NuT.below N,NuI.below N,Y⟩
 case hG=>exact Y
 case hA =>
  have u:=fun j=>l.out.cell (a:=[_]) j
  repeat
   refine⟨fun a F b d K E=>?_,?_⟩
   focus
    obtain⟨k0,-⟩:=d
    conv at k0=>whnf;rhs;whnf
    have c2:=Qo (u 2 _ Z) b;have c3:=Qo (u 3 _ Z) b;have c4:=Qo (u 4 _ Z) b;have c5:=Qo (u 5 _ Z) b;have c6:=Qo (u 6 _ Z) b;have c7:=Qo (u 7 _ Z) b;have c8:=Qo (u 8 _ Z) b;have f:=l.out.bel.trans (b.mono l.out.bel.size);go_simp
    first
     | with_reducible refine Xm (QkX (H.out.yes.below f) W S) ?_
       rintro e w9 ⟨v9,rfl,⟨R,Q,rfl,M,B⟩,g⟩;exact E _ _ g (b.trans (g.mono b.size)) ⟨R,Q,Z,M.lo b.size,B.lo b.size⟩
     | with_reducible refine Xm (QkX (H.out.no.below f) J G) ?_
       rintro e w9 ⟨v9,rfl,⟨R,Q,rfl,M,B⟩,g⟩;exact E _ _ g (b.trans (g.mono b.size)) ⟨R,Q,Z,M.lo b.size,B.lo b.size⟩
     | with_reducible refine Xm (Qa6 _ _ _ F (Ya H.out.args f) I) ?_
       rintro e w9 ⟨p9,c9,rfl,B,g⟩;exact E _ _ g (b.trans (g.mono b.size)) ⟨p9,c9,Z,Yc B (fun k d _=>Zt b.size d)⟩
     | exact E _ _ Zr b Z
  trivial
 case hend =>
  rintro L A y b d;obtain⟨y1,y2,e5,U,X⟩:NuT _ _ (A 5) y:=d 5 (by kernel_rfl)
  obtain⟨n1,n2,e8,V,P⟩:NuT _ _ (A 8) y:=d 8 (by kernel_rfl)
  have D:NuI _ _ (A 11) y:=d 11 (by kernel_rfl);have z:A 12=Pv w.heap.size 2:=d 12 (by kernel_rfl);obtain⟨q1,d1,rfl,-⟩:=id U
  obtain⟨q2,d2,rfl,-⟩:=id X
  obtain⟨q3,d3,rfl,-⟩:=id V
  obtain⟨q4,d4,rfl,-⟩:=id P
  obtain⟨q5,d5,p,-⟩:=id D
  rw[p] at D
  have c:=l.out.below b;have z2:=c.free (a:=[_]) 2;have z3:=c.free (a:=[_]) 3;have z4:=c.free (a:=[_]) 4;have z5:=c.free (a:=[_]) 5;have z6:=c.free (a:=[_]) 6;have z7:=c.free (a:=[_]) 7;have z8:=c.free (a:=[_]) 8;have c2:=c.cell (a:=[_]) 2 _ Z;have c3:=c.cell (a:=[_]) 3 _ Z;have c4:=c.cell (a:=[_]) 4 _ Z;have c5:=c.cell (a:=[_]) 5 _ Z;have c6:=c.cell (a:=[_]) 6 _ Z;have c7:=c.cell (a:=[_]) 7 _ Z;have c8:=c.cell (a:=[_]) 8 _ Z;have r:=((((((c.set (a:=[_]) 2 (Iv x.yes.block)).set (a:=[_]) 3 (.slice q1 x.yes.regs.length d1)).set (a:=[_]) 4 (.slice q2 x.yes.args.length d2)).set (a:=[_]) 5 (Iv x.no.block)).set (a:=[_]) 6 (.slice q3 x.no.regs.length d3)).set (a:=[_]) 7 (.slice q4 x.no.args.length d4)).set (a:=[_]) 8 (.slice q5 x.args.length d5);simp only[List.setIfInBounds_toArray,List.set_cons_zero,List.set_cons_succ] at r
  generalize f:World.setCell _ _ _=w6 at r;have e1:∀ o,(w.alloc o).heap.size=w.heap.size+1:=fun o=>by simp
  have C:=r.at (a:=[]);have RZ:=Qk (Blk.range (r.at (a:=[_])));have O:=(l.out.at (a:=[])).lt;have aa:=(l.out.at (a:=[_])).lt;rw[e1] at C O
  replace C:=Qk C;have E6:=Qk r.bel;have T:=Qk (show EIn y (Qb1 q.heap.size) x ⟨q1,d1,q2,d2,q3,d3,q4,d4,q5,d5⟩ from ⟨⟨U.in,X.in,H.out.yes.bnd⟩,⟨V.in,P.in,H.out.no.bnd⟩,D.in,H.out.bnd⟩)
  have hO:Hid (∀ k,q.heap.size<=k->w6.heap[k]?=y.heap[k]?):=fun k h=>by
   rw[<-f]
   iterate 7 rw[Xd _ _ _ _ (show k≠w.heap.size by omega)]
  show wpList _ L _ [_,_,_,_,_] (QI _ A [3,4,5,6,7,8,9,10,11,12]) y;simp only[QI,Act.put,List.setIfInBounds_toArray,List.set_cons_zero,List.set_cons_succ,e5,e8,p,z]
  clear e5 e8 p z c r b l H e1 U X V P D d;replace f:=Qk f;go_upto_region 2 with fail
  rw[f.out]
  clear f c2 c3 c4 c5 c6 c7 c8 z2 z3 z4 z5 z6 z7 z8;have hu:=underlying84;have m:(prog.info? 84).map (·.size)=some 9:=by kernel_rfl
  go_wp2_with (first | (refine wpList_load_mid Z _ (.tmp 1) Z w.heap.size 0 Z _ _ RZ.out hu Z m ?_) | (refine wpList_store_mid Z _ (.tmp 2) (.tmp 15) Z (w.heap.size+1) 0 _ Z Z (Blk.there C.out Ze) m (all_oneCell_toArray (Xe.1 Z)) ?_))
  exact Qb0 (t:=2) Z Z Z (Blk.setsA C.out _ Z) hu Z m ⟨_,Z,QgQ (T.out.keep (fun k d _=>(QD (by have:_<=k:=d;omega) _ 0 w6).trans (hO.out k d)) (fun k d _=>by have:_<=k:=d;show _<=k;omega)),QB (by omega) _ _ _ 0 E6.out⟩
def Qmo (n:Nat):Prop:=∀ (t:TT n) (ds:List Value) (w:World),(Lay.tt n).In w All t ds->t.count<=100000->Calls prog 123 #[.agg ds.toArray] w fun e w'=>QiH (Lay.tt n) w w' t e
theorem Qmr (w:World) (O:Nat->Prop) (x:TT n) (b:List Value) (h:(Lay.tt n).In w O x b):∀ v∈b,v.oneCell'=true:=by
 obtain⟨a,c,rfl,-⟩:=h
 exact Xe.1 Z
theorem enters1:Qaf 123:=fun _ _=>by kernel_rfl
theorem enters2:Qaf 187:=fun _ _=>by kernel_rfl
theorem enters3:Qaf 125:=fun _ _=>by kernel_rfl
theorem enters4:Qaf 77:=fun _ _=>by kernel_rfl
theorem cOwnType_:∀ n,Qmo n:=by
 intro n
 induction n with
 | zero=>intro t;exact Empty.elim t
 | succ n ih =>
   intro t F w s S;have v:∀ x∈t.2.2,x.count<=100000:=fun x y=>by have:=t.count_kid y;omega
   have I:t.2.2.length<=100000:=by have:=t.len_lt_count;rw[t.len_eq] at this;omega
   obtain⟨p,c,rfl,s,i⟩:=s
   have e:Hid _:=Qfg (c:=c) s.list i.2;clear s;simp only[TT.len_eq]
   have f:=Qk (((Bxs.start w).new #[Iv t.kind,Iv t.r,.slice p t.2.2.length c] 105).new #[Iv 0,Iv 0,Nv] 105);have z:∀ o,(w.alloc o).heap.size=w.heap.size+1:=fun o=>by simp
   have d:Hid (w.heap.size+1<((w.alloc (.cells #[Iv t.kind,Iv t.r,.slice p t.2.2.length c] 105)).alloc (.cells #[Iv 0,Iv 0,Nv] 105)).heap.size):=by have:=(f.out.at (a:=[])).lt;rw[z] at this;exact this
   go_enter func123,ntmps123
   go_upto_region 1 with fail
   generalize World.alloc (World.alloc w _) _=N at f d |-;have B:=f.out.cell (a:=[_]) 2 _ Z;have H:=Qk (Z6 (A:=Lay.tt n) (.inl ⟨Z,Z⟩) enters1 (Ya e.out f.out.bel) (by omega) Qmr (fun x y F M h=>ih x F M h (v x y)));go_wp2_with fail
   refine H.out.mono ?_;rintro _ u ⟨l,m,rfl,C,E⟩;have q:=f.out.below E;have B:=q.cell (a:=[_]) 2 _ Z;have Q:=q.free (a:=[_]) 2;have j:=q.set (a:=[_]) 2 (.slice l t.2.2.length m);simp only[List.setIfInBounds_toArray,List.set_cons_zero,List.set_cons_succ] at j
   have g:=j.at (a:=[]);rw[z] at g
   replace g:=Qk g;have L:=Qk j.bel;have K:=Qk (Blk.range (j.at (a:=[_])));have J:Hid (∀ k,N.heap.size<=k->(u.setCell ⟨w.heap.size,2,none⟩ (.slice l t.2.2.length m)).heap[k]?=u.heap[k]?):=fun k h=>Xd _ _ _ _ (show k≠w.heap.size by have:=d.out;omega);have P:=Qk C;clear H q j f C E e z;go_upto_region 2 with fail
   generalize World.setCell u _ _=D at g L K J |-;clear B Q;have G:=underlying105;have b:=Qbo infoType0;go_wp2_with (first | (refine wpList_load_mid Z _ (.tmp 1) Z w.heap.size 0 Z _ _ K.out G Z b ?_) | (refine wpList_store_mid Z _ (.tmp 2) (.tmp 7) Z (w.heap.size+1) 0 _ Z Z (Blk.there g.out Ze) b (all_oneCell_toArray (Xe.1 Z)) ?_))
   have R:=d.out;have O:=Q7 (Lay.keep (Qx n) (w':=D.setCells (w.heap.size+1) 0 [Iv t.kind,Iv t.r,.slice l t.2.2.length m]) (O':=Qb1 w.heap.size) (fun k e _=>(QD (by have:_<=k:=e;omega) _ 0 D).trans (J.out k e)) (fun k e _=>by have:_<=k:=e;show _<=k;omega) P.out);exact Qb0 (t:=2) Z Z Z (Blk.setsA g.out _ Z) G Z b ⟨_,Z,⟨l,m,by rw[TT.len_eq],O.1,i⟩,QB (by omega) _ _ _ 0 L.out⟩
theorem Qdw {α:Type}{A:Lay α}{lo:Nat}{x:α}(h:A.In w (Qb1 lo) x ds){p:Addr}(a:p.block<lo) (v:Value):A.In (w.setCell p v) (Qb1 lo) x ds:=Lay.setCell h (fun e=>by have:lo<=p.block:=e;omega) v
theorem QbJ {α:Type}{A:Lay α}{lo hi:Nat}{x:α}(h:A.In w (Qb1 hi) x ds) (b:lo<=hi):A.In w (Qb1 lo) x ds:=Yc h (fun k a _=>Zt b a)
theorem Qnq (w:World) (O:Nat->Prop) (x:Qv) (a:List Value) (h:insL.In w O x a):∀ v∈a,v.oneCell'=true:=by
 obtain⟨i,rfl,-⟩:=Qeo h
 exact Xe.1 Z
theorem QmB (w:World) (O:Nat->Prop) (x:Z0) (a:List Value) (h:endL.In w O x a):∀ v∈a,v.oneCell'=true:=by
 obtain⟨i,rfl,-⟩:=QgP h
 exact Xe.1 Z
theorem QnB (w:World) (O:Nat->Prop) (x:MBlock n) (a:List Value) (h:(Zq n).In w O x a):∀ v∈a,v.oneCell'=true:=by
 obtain⟨i,rfl,-⟩:=Qb8 h
 exact Xe.1 Z
theorem Qng (w:World) (O:Nat->Prop) (x:MFunc n) (a:List Value) (h:(ZW n).In w O x a):∀ v∈a,v.oneCell'=true:=by
 obtain⟨i,rfl,-⟩:=Qc4 h
 exact Xe.1 Z
theorem QcA {l:List (TT n)}(h:(Qx n).In w All l [.slice p l.length c]) (a:QdC l):Calls prog 122 #[.slice p l.length c,.func (.func 123) #[] #[]] w fun e w'=>QhI (Lay.tt n) w w' l e :=
 Z6 (.inl ⟨Z,Z⟩) enters1 h (by have:=a.1;omega) Qmr (fun x f b d h=>cOwnType_ n x b d h (a.2 x f))
theorem Qly {l:List Qv}(h:insL.list.In w All l [.slice p l.length c]) (r:l.length<=100000) (j:∀ x∈l,x.small):Calls prog 186 #[.slice p l.length c,.func (.func 187) #[] #[]] w fun e w'=>QhI insL w w' l e :=
 Z6 (.inr (.inl ⟨Z,Z⟩)) enters2 h (by omega) Qnq (fun x g t s h=>by
  obtain⟨i,rfl,f⟩:=Qeo h
  refine(QkV (cs:=[Iv x.op,Iv x.a,Iv x.b,Iv x.c,Iv x.k,Iv x.n]) (.inr ⟨Z,_,_,_,_,_,_,Z⟩) f.regs f.args (by have:=(j x g).1;omega) (by have:=(j x g).2;omega)).mono ?_
  rintro e w' ⟨u,v,rfl,⟨a,c,rfl,m⟩,⟨b,d,rfl,q⟩,o⟩;exact⟨_,Z,QdS m q f.bnd,o⟩)
theorem Qic {x:MBlock n}(h:(Zq n).In w All x ds) (hs:x.small):Calls prog 125 #[.agg ds.toArray] w fun e w'=>QiH (Zq n) w w' x e:=by
 obtain⟨i,rfl,hb⟩:=Qb8 h
 have H:=Qk hb;have G:=Qk hs;clear h hb hs;have A:=Qk (((Bxs.start w).new #[Iv x.regs,.slice i.pP x.params.length i.cP,.slice i.pC x.code.length i.cC,Iv x.fin.op,Iv x.fin.a,Iv x.fin.yes.block,.slice i.e.pYR x.fin.yes.regs.length i.e.cYR,.slice i.e.pYA x.fin.yes.args.length i.e.cYA,Iv x.fin.no.block,.slice i.e.pNR x.fin.no.regs.length i.e.cNR,.slice i.e.pNA x.fin.no.args.length i.e.cNA,.slice i.e.pA x.fin.args.length i.e.cA] 86).new #[Iv 0,Nv,Nv,Iv 0,Iv 0,Iv 0,Nv,Nv,Iv 0,Nv,Nv,Nv] 86);have e1:∀ o,(w.alloc o).heap.size=w.heap.size+1:=fun o=>by simp
 have b:=Qk ((A.out.at (a:=[])).lt);rw[e1] at b
 go_enter func125,ntmps125
 go_upto_region 1 with fail
 generalize World.alloc (World.alloc w _) _=r at A b |-;have c1:=A.out.cell (a:=[_]) 1 _ Z;have C1:=Qk (QcA (Ya H.out.params A.out.bel) G.out.2.1);go_wp2_with fail
 refine C1.out.mono ?_;rintro _ w4 ⟨m,s,rfl,I1,W⟩;have O:=A.out.below W;replace c1:=O.cell (a:=[_]) 1 _ Z;have z1:=O.free (a:=[_]) 1;have I:=Qk (O.set (a:=[_]) 1 (.slice m x.params.length s));have J1:=Qk (Qdw I1 (p:=⟨w.heap.size,1,none⟩) (by have:=b.out;show w.heap.size<_;omega) (.slice m x.params.length s));have b5:=Qk W.size;clear O C1 I1 W A;go_upto_region 2 with fail
 generalize B:World.setCell w4 _ _=w5 at I J1 |-;have z:Hid (r.heap.size<=w5.heap.size):=by show _<=_;rw[<-B];simpa using b5.out
 clear B b5 c1 z1;have c2:=I.out.cell (a:=[_]) 2 _ Z;have C2:=Qk (Qly (Ya H.out.code I.out.bel) G.out.1 G.out.2.2.2);go_wp2_with fail
 refine C2.out.mono ?_;rintro _ w6 ⟨j,l,rfl,I2,M⟩;have R:=I.out.below M;replace c2:=R.cell (a:=[_]) 2 _ Z;have z2:=R.free (a:=[_]) 2;have g:=R.set (a:=[_]) 2 (.slice j x.code.length l);have T:w.heap.size<r.heap.size:=by have:=b.out;omega
 have K1:=Qk (Qdw (Ya J1.out M) (p:=⟨w.heap.size,2,none⟩) T (.slice j x.code.length l));have K2:=Qk (Qdw (QbJ I2 z.out) (p:=⟨w.heap.size,2,none⟩) T (.slice j x.code.length l));have b7:=Qk (Zt z.out M.size);simp only[List.setIfInBounds_toArray,List.set_cons_zero,List.set_cons_succ] at g
 replace g:=Qk g;clear R C2 I2 M I J1;go_upto_region 3 with fail
 generalize K:World.setCell w6 _ _=w7 at g K1 K2 |-;have E:Hid (r.heap.size<=w7.heap.size):=by show _<=_;rw[<-K];simpa using b7.out
 clear K b7 c2 z2 z;have hE:=Qk (Qli (g.out.at (a:=[_])) 3 9 Z);have C3:=Qk (Qlw (H.out.fin.below g.out.bel) G.out.2.2.1);have hu:=underlying84;have D:(prog.info? 84).map (·.size)=some 9:=by kernel_rfl
 have T:w.heap.size<r.heap.size:=by have:=b.out;omega
 go_wp2_with (refine wpList_load_mid Z _ (.tmp 11) Z w.heap.size 3 Z _ _ hE.out hu Z D ?_)
 refine C3.out.mono ?_;rintro _ d ⟨c,rfl,N,Q⟩;have J:=endL.len N;have he:=Qk (all_oneCell_toArray (QmB _ _ _ _ N));have P:=g.out.below Q;have U:=P.at (a:=[_]);have HT:=Qk (Blk.there (o:=3) (n:=c.toArray.size) U (by rw[List.size_toArray,J];exact Ze));have HK:=Qk (D.trans (congrArg some J.symm));have HZ:=Blk.sets c [Iv x.regs,.slice m x.params.length s,.slice j x.code.length l] _ d (by rw[J];rfl) U;have X:=P.at (a:=[]);rw[e1] at X
 have V:Hid (Blk (d.setCells w.heap.size 3 c) (w.heap.size+1) _ _):=(QD (by omega) c 3 d).trans X;have E6:=Qk (QB Ze c d w 3 P.bel);have RZ:=Qk (Blk.range HZ);have hO:Hid (∀ k,r.heap.size<=k->(d.setCells w.heap.size 3 c).heap[k]?=d.heap[k]?):=fun k h=>QD (by omega) c 3 d;have L1:=Qk (Ya K1.out Q);have L2:=Qk (Ya K2.out Q);have L3:=Qk (QbJ N E.out);have S:=H.out.bnd;clear P U HZ X C3 K1 K2 N Q hE g H G E e1;go_upto_region 4 with (refine wpList_store_mid Z _ (.tmp 14) (.tmp 13) Z w.heap.size 3 c.toArray Z Z HT.out HK.out he.out ?_)
 generalize World.setCells d _ _ _=w9 at V E6 RZ hO |-;have L:=underlying86;have u:([Iv x.regs,.slice m x.params.length s,.slice j x.code.length l]++c:List Value).length=12:=by rw[List.length_append,J];rfl
 have f:=Qk ((Qbo infoBlock).trans (congrArg some u.symm));have y:=Qk u;have F:=Qk (all_oneCell_toArray (cs:=[Iv x.regs,.slice m x.params.length s,.slice j x.code.length l]++c) (fun v hv=>(List.mem_append.1 hv).elim (fun h=>Xe.1 (rfl:([Iv x.regs,.slice m x.params.length s,.slice j x.code.length l]:List Value).all (·.oneCell')=true) v h) (QmB _ _ _ _ L3.out v)));generalize C:([Iv x.regs,.slice m x.params.length s,.slice j x.code.length l]++c:List Value)=q at RZ f y F;replace C:=Qk C;clear u HT HK he J;go_wp2_with (first | (refine wpList_load_mid Z _ (.tmp 1) Z w.heap.size 0 Z q _ RZ.out L Z f.out ?_) | (refine wpList_store_mid Z _ (.tmp 2) (.tmp 15) Z (w.heap.size+1) 0 q.toArray Z Z (Blk.there V.out (by rw[List.size_toArray,y.out];exact Ze)) f.out F.out ?_))
 have hk:∀ k,r.heap.size<=k->(w9.setCells (w.heap.size+1) 0 q).heap[k]?=d.heap[k]?:=fun k h=>(QD (by have:=b.out;omega) _ 0 w9).trans (hO.out k h);have h3:w.heap.size<=r.heap.size:=by omega
 replace C:=C.out;subst C;refine Qb0 (t:=2) Z Z Z (Blk.setsA V.out _ y.out) L Z f.out ⟨_,Z,?_,QB (by omega) _ _ _ 0 E6.out⟩;exact QgD (Lay.keep _ (fun k h _=>hk k h) (fun k h _=>Zt h3 h) L1.out) (Lay.keep _ (fun k h _=>hk k h) (fun k h _=>Zt h3 h) L2.out) (Lay.keep _ (fun k h _=>hk k h) (fun k h _=>Zt h3 h) L3.out) S
theorem Qkv {x:MFunc n}(h:(ZW n).In w All x ds) (hs:x.small):Calls prog 77 #[.agg ds.toArray] w fun e w'=>QiH (ZW n) w w' x e:=by
 obtain⟨i,rfl,hb⟩:=Qc4 h
 have H:=Qk hb;have s:=Qk hs;clear h hb hs;have f:=Qk (((Bxs.start w).new #[Iv x.regs,.slice i.pP x.params.length i.cP,.slice i.pR x.results.length i.cR,.slice i.pB x.blocks.length i.cB] 89).new #[Iv 0,Nv,Nv,Nv] 89);have U:∀ o,(w.alloc o).heap.size=w.heap.size+1:=fun o=>by simp
 have b:=Qk ((f.out.at (a:=[])).lt);rw[U] at b
 go_enter func77,ntmps77
 go_upto_region 1 with fail
 generalize World.alloc (World.alloc w _) _=m at f b |-;have X:=f.out.cell (a:=[_]) 1 _ Z;have C1:=Qk (QcA (Ya H.out.params f.out.bel) s.out.2.1);go_wp2_with fail
 refine C1.out.mono ?_;rintro _ w4 ⟨W,d1,rfl,I1,M⟩;have C:=f.out.below M;replace X:=C.cell (a:=[_]) 1 _ Z;have z1:=C.free (a:=[_]) 1;have u:=Qk (C.set (a:=[_]) 1 (.slice W x.params.length d1));have S:=Qk (Qdw I1 (p:=⟨w.heap.size,1,none⟩) (by have:=b.out;show w.heap.size<_;omega) (.slice W x.params.length d1));have V:=Qk M.size;clear C C1 I1 M f;go_upto_region 2 with fail
 generalize g:World.setCell w4 _ _=w5 at u S |-;have d:Hid (m.heap.size<=w5.heap.size):=by show _<=_;rw[<-g];simpa using V.out
 clear g V X z1;have c2:=u.out.cell (a:=[_]) 2 _ Z;have C2:=Qk (QcA (Ya H.out.results u.out.bel) s.out.2.2.1);go_wp2_with fail
 refine C2.out.mono ?_;rintro _ w6 ⟨K,O,rfl,I2,z⟩;have G:=u.out.below z;replace c2:=G.cell (a:=[_]) 2 _ Z;have z2:=G.free (a:=[_]) 2;have l:=Qk (G.set (a:=[_]) 2 (.slice K x.results.length O));have q:w.heap.size<m.heap.size:=by have:=b.out;omega
 have P:=Qk (Qdw (Ya S.out z) (p:=⟨w.heap.size,2,none⟩) q (.slice K x.results.length O));have R:=Qk (Qdw (QbJ I2 d.out) (p:=⟨w.heap.size,2,none⟩) q (.slice K x.results.length O));have b7:=Qk (Zt d.out z.size);clear G C2 I2 z u S;go_upto_region 3 with fail
 generalize v:World.setCell w6 _ _=w7 at l P R |-;have r:Hid (m.heap.size<=w7.heap.size):=by show _<=_;rw[<-v];simpa using b7.out
 clear v b7 c2 z2 d;have c3:=l.out.cell (a:=[_]) 3 _ Z;have C3:=Qk (Z6 (A:=Zq n) (.inr (.inr (.inl ⟨Z,Z⟩))) enters3 (Ya H.out.blocks l.out.bel) (by have:=s.out.1;omega) QnB (fun y hy ds wx h=>Qic h (s.out.2.2.2 y hy)));go_wp2_with fail
 refine C3.out.mono ?_;rintro _ w8 ⟨F,B,rfl,I3,E⟩;have D:=l.out.below E;replace c3:=D.cell (a:=[_]) 3 _ Z;have z3:=D.free (a:=[_]) 3;have j:=D.set (a:=[_]) 3 (.slice F x.blocks.length B);simp only[List.setIfInBounds_toArray,List.set_cons_zero,List.set_cons_succ] at j
 have N:=j.at (a:=[]);rw[U] at N
 have J:=Qk N;have E6:=Qk j.bel;have RZ:=Qk (Blk.range (j.at (a:=[_])));have L1:=Qk (Qdw (Ya P.out E) (p:=⟨w.heap.size,3,none⟩) q (.slice F x.blocks.length B));have L2:=Qk (Qdw (Ya R.out E) (p:=⟨w.heap.size,3,none⟩) q (.slice F x.blocks.length B));have L3:=Qk (Qdw (QbJ I3 r.out) (p:=⟨w.heap.size,3,none⟩) q (.slice F x.blocks.length B));have I:=H.out.bnd;clear D j N C3 P R I3 E l H s r U;go_upto_region 4 with fail
 generalize World.setCell w8 _ _=L at J E6 RZ L1 L2 L3 |-;clear c3 z3;have hu:=underlying89;have c:=Qbo infoFunc;go_wp2_with (first | (refine wpList_load_mid Z _ (.tmp 1) Z w.heap.size 0 Z _ _ RZ.out hu Z c ?_) | (refine wpList_store_mid Z _ (.tmp 2) (.tmp 15) Z (w.heap.size+1) 0 _ Z Z (Blk.there J.out Ze) c (all_oneCell_toArray (Xe.1 Z)) ?_))
 have T:∀ vs k,m.heap.size<=k->(L.setCells (w.heap.size+1) 0 vs).heap[k]?=L.heap[k]?:=fun vs k h=>QD (by have:=b.out;omega) _ 0 L;have Q:w.heap.size<=m.heap.size:=by omega
 exact Qb0 (t:=2) Z Z Z (Blk.setsA J.out _ Z) hu Z c ⟨_,Z,Qjk (Lay.keep _ (fun k h _=>T _ k h) (fun k h _=>Zt Q h) L1.out) (Lay.keep _ (fun k h _=>T _ k h) (fun k h _=>Zt Q h) L2.out) (Lay.keep _ (fun k h _=>T _ k h) (fun k h _=>Zt Q h) L3.out) I,QB (by omega) _ _ _ 0 E6.out⟩
theorem Qke (m:List (MFunc n)) (p:Option Addr) (c:Nat) (w:World) (h:(ZZ n).In w All m [.slice p m.length c]) (f:QcD m) :
 Calls prog 47 #[.agg #[.slice p m.length c]] w fun e w'=>∃ v,e=.returned v/\(∃ a' c',v=.agg #[.slice a' m.length c']/\(ZZ n).In w' (Qb1 w.heap.size) m [.slice a' m.length c'])/\Below w.heap.size w w':=by
 have H:=Qk h;have k:=Qk f;clear h f;have d:=Qk (((Bxs.start w).new #[.slice p m.length c] 24).new #[Nv] 24);have q:∀ o,(w.alloc o).heap.size=w.heap.size+1:=fun o=>by simp
 have b:=Qk ((d.out.at (a:=[])).lt);rw[q] at b
 go_enter func47,ntmps47
 go_upto_region 1 with fail
 generalize World.alloc (World.alloc w _) _=z at d b |-;have F:=d.out.cell (a:=[_]) 0 _ Z;have u:=Qk (Z6 (A:=ZW n) (.inr (.inr (.inr ⟨Z,Z⟩))) enters4 (Ya H.out d.out.bel) (by have:=k.out.1;omega) Qng (fun y x K I h=>Qkv h (k.out.2 y x)));go_wp2_with fail
 refine u.out.mono ?_;rintro _ J ⟨i,j,rfl,r,s⟩;have l:=d.out.below s;have g:=l.at (a:=[]);rw[q] at g
 have G:=Qa g 0 _ Z;have L:=Qe g 0;have B:w.heap.size+1<z.heap.size:=b.out;have C:=Qk (Qh g 0 (.slice i m.length j));have D:=Qk (Qdw r (p:=⟨w.heap.size+1,0,none⟩) B (.slice i m.length j));have E:=Qk (l.bel.setCell (p:=⟨w.heap.size+1,0,none⟩) (by show w.heap.size<=w.heap.size+1;omega) (.slice i m.length j));clear l u r s d g q H k b;go_wp2
 exact Qb0 (t:=2) Z Z Z C.out underlying24 Z (by kernel_rfl) ⟨_,Z,⟨i,j,Z,QbJ D.out (by omega)⟩,E.out⟩
theorem Qji (x:MTo) (bl:Nat):x.form bl true=if rangeC x.block 0 ((bl:Int) - 1)=0 then handedC x.regs.length 16 x.args.length else rangeC x.block 0 ((bl:Int) - 1):=by
 unfold MTo.form rangeC handedC manyC;simp only[Bool.true_eq_false,if_false]
 repeat' split
 all_goals omega
theorem QiC (x:MTo) (bl:Nat):x.form bl false=if x.block=0/\x.regs.length=0/\x.args.length=0 then 0 else 4:=by
 unfold MTo.form;simp only[if_true]
 repeat' split
 all_goals omega
theorem Qhz (e:Z0) (bl:Nat):e.form bl=if e.op<1\/3<e.op then 3 else if (e.op≠2/\e.a≠0)\/(e.op≠3/\0<e.args.length) then 4 else if 8<e.args.length then 2
 else if e.yes.form bl (e.op != 3)=0 then e.no.form bl (e.op==2) else e.yes.form bl (e.op != 3):=by
 unfold Z0.form;have i:decide (e.op≠3)=(e.op != 3):=by by_cases h:e.op=3<;>simp[h]
 have g:decide (e.op=2)=(e.op==2):=by by_cases h:e.op=2<;>simp[h]
 rw[i,g]
 by_cases c:e.op<1\/3<e.op
 ·simp[c]
 ·rw[Xr c,Xr c]
  by_cases b:(e.op≠2/\e.a≠0)\/(e.op≠3/\0<e.args.length)
  ·rw[Xs b,Xs (b.imp (fun h=>⟨h.2,h.1⟩) (fun h=>⟨h.2,h.1⟩))]
  ·rw[Xr b,Xr (fun h=>b (h.imp (fun h=>⟨h.2,h.1⟩) (fun h=>⟨h.2,h.1⟩)))]
   by_cases d:8<e.args.length
   ·simp[d]
   ·rw[Xr d,Xr d]
    by_cases f:e.yes.form bl (e.op != 3)=0
    ·simp[f]
    ·simp[f]
theorem Qk6 {a:Int}{b c:Nat}{f e h:Option Addr}{j i bl d:Nat}:Rd prog 230 #[.agg #[Iv fr,.slice f fl j,.slice e fm i,.slice h bl d],.agg #[Iv a,.slice pR b cR,.slice pA c cA],.bool false] w (Iv (if a=0/\b=0/\c=0 then 0 else 4)):=by
 unfold Rd;rcases (show a=0/\b=0/\c=0\/¬ a=0\/a=0/\(0:Int)<b\/a=0/\b=0/\(0:Int)<c by omega) with ⟨rfl,rfl,rfl⟩ | g | ⟨rfl,g⟩|⟨rfl,rfl,g⟩
 rw[Xs ⟨Z,Z,Z⟩]
 rotate_left
 all_goals
  try rw[Xr (by omega)]
  try rw[<-bne_iff_ne,bne,Bool.not_eq_true'] at g
  go_enter func230,ntmps230
  go_wp2
  go_ret;exact⟨Z,QhN _ _ _⟩
theorem QlA {a:Int}{b c:Nat}{k j l:Option Addr}{o n bl m:Nat}(y:bl<2305843009213693952):Rd prog 230 #[.agg #[Iv fr,.slice k fl o,.slice j fm n,.slice l bl m],.agg #[Iv a,.slice pR b cR,.slice pA c cA],.bool true] w (Iv (if rangeC a 0 ((bl:Int) - 1)=0 then handedC b 16 c else rangeC a 0 ((bl:Int) - 1))):=by
 have C:Hid (∀ d:World,Calls prog 262 #[Iv a,Iv 0,Iv ((bl:Int) - 1)] d fun e t=>e=.returned (Iv (rangeC a 0 ((bl:Int) - 1)))/\Below d.heap.size d t):=fun d=>QaL;have p:Hid (∀ d:World,Calls prog 264 #[.slice pR b cR,Iv 16,.slice pA c cA] d fun e t=>e=.returned (Iv (handedC b 16 c))/\Below d.heap.size d t):=fun d=>Qbj;generalize rangeC a 0 ((bl:Int) - 1)=v at C |-;generalize handedC b 16 c=u at p |-;have h:Blk ((w.alloc (.cells #[Iv fr,.slice k fl o,.slice j fm n,.slice l bl m] 89)).alloc (.cells #[Iv a,.slice pR b cR,.slice pA c cA] 82)) (w.heap.size+1) #[Iv a,.slice pR b cR,.slice pA c cA] 82:=Blk.new2 _ _ _ _;have f:Hid (Below w.heap.size w ((w.alloc (.cells #[Iv fr,.slice k fl o,.slice j fm n,.slice l bl m] 89)).alloc (.cells #[Iv a,.slice pR b cR,.slice pA c cA] 82))):=QhN _ _ _;unfold Rd;by_cases q:v=0
 ·subst q;rw[Xs Z]
  go_enter func230,ntmps230
  go_wp2_with fail
  generalize ((w.alloc (.cells #[Iv fr,.slice k fl o,.slice j fm n,.slice l bl m] 89)).alloc (.cells #[Iv a,.slice pR b cR,.slice pA c cA] 82))=D at h f |-;refine(C.out _).mono ?_
  rintro e s ⟨rfl,g⟩;have r:=(g.block _ (XC h)).trans h;have i:Hid (Below w.heap.size w s):=f.out.trans (g.mono f.out.size);have E:=Qa r 1 _ Z;have F:=Qa r 2 _ Z;clear g C h f r;go_wp2_with fail
  refine(p.out _).mono ?_
  rintro e A ⟨rfl,x⟩;have B:Hid (Below w.heap.size w A):=i.out.trans (x.mono i.out.size);clear x p i;go_wp2
  go_ret;exact⟨Z,B.out⟩
 ·rw[Xr q]
  have z:(v==0)=false:=by simpa using q
  go_enter func230,ntmps230
  go_wp2_with fail
  generalize ((w.alloc (.cells #[Iv fr,.slice k fl o,.slice j fm n,.slice l bl m] 89)).alloc (.cells #[Iv a,.slice pR b cR,.slice pA c cA] 82))=D at h f |-;refine(C.out _).mono ?_
  rintro e s ⟨rfl,g⟩;have i:Hid (Below w.heap.size w s):=f.out.trans (g.mono f.out.size);clear g C p h f;go_wp2
  go_ret;exact⟨Z,i.out⟩
theorem QdX {x:MTo}{e d f:Option Addr}{h g bl c:Nat}(a:Bool)(b:bl<2305843009213693952) :
 Rd prog 230 #[.agg #[Iv fr,.slice e fl h,.slice d fm g,.slice f bl c],.agg #[Iv x.block,.slice pR x.regs.length cR,.slice pA x.args.length cA],.bool a] w (Iv (x.form bl a)):=by
 cases a
 ·rw[QiC];exact Qk6
 ·rw[Qji];exact QlA b
theorem QjQ {a r D F:Int}{j f p k H:Option Addr}{m d o h b g n c q G:Nat}{u t v:Option Addr}{B z bl y:Nat}{A K:Int}(T:¬ (a<1\/3<a)) (S:¬ ((a≠2/\r≠0)\/(a≠3/\0<q))) (U:¬ 8<q)
 (N:Hid (∀ wx:World,Calls prog 230 #[.agg #[Iv fr,.slice u fl B,.slice t fm z,.slice v bl y],.agg #[Iv D,.slice j m d,.slice f o h],.bool (a != 3)] wx fun e w'=>e=.returned (Iv A)/\Below wx.heap.size wx w'))
 (J:Hid (∀ wx:World,Calls prog 230 #[.agg #[Iv fr,.slice u fl B,.slice t fm z,.slice v bl y],.agg #[Iv F,.slice p b g,.slice k n c],.bool (a==2)] wx fun e w'=>e=.returned (Iv K)/\Below wx.heap.size wx w')) :
 Rd prog 185 #[.agg #[Iv fr,.slice u fl B,.slice t fm z,.slice v bl y],.agg #[Iv a,Iv r,Iv D,.slice j m d,.slice f o h,Iv F,.slice p b g,.slice k n c,.slice H q G]] w (Iv (if A=0 then K else A)):=by
 obtain⟨x,s⟩:∃ x,x=(w.alloc (.cells #[Iv fr,.slice u fl B,.slice t fm z,.slice v bl y] 89)).alloc (.cells #[Iv a,Iv r,Iv D,.slice j m d,.slice f o h,Iv F,.slice p b g,.slice k n c,.slice H q G] 84):=⟨_,Z⟩
 have i:Blk x w.heap.size #[Iv fr,.slice u fl B,.slice t fm z,.slice v bl y] 89:=by rw[s];exact Blk.new1 _ _ _ _ _
 have l:Blk x (w.heap.size+1) #[Iv a,Iv r,Iv D,.slice j m d,.slice f o h,Iv F,.slice p b g,.slice k n c,.slice H q G] 84:=by rw[s];exact Blk.new2 _ _ _ _
 have I:Hid (Below w.heap.size w x):=by rw[s];exact QhN _ _ _
 unfold Rd;have X:¬ (8:Int)<q:=by omega
 rcases (show a=1/\r=0/\q=0\/a=2/\q=0\/a=3/\r=0 by omega) with ⟨rfl,rfl,rfl⟩|⟨rfl,rfl⟩|⟨rfl,rfl⟩
 all_goals
  clear T S U;go_enter func185,ntmps185
  go_wp2_with fail
  rw[<-s]
  clear s;refine(N.out _).mono ?_
  rintro e R ⟨rfl,E⟩;replace i:=(E.block _ (XC i)).trans i;replace l:=(E.block _ (XC l)).trans l;have C:Hid (Below w.heap.size w R):=I.out.trans (E.mono I.out.size);clear E N I;by_cases M:A=0
  ·subst M;have V:=Qa i 0 _ Z;have W:=Qa i 1 _ Z;have c2:=Qa i 2 _ Z;have c3:=Qa i 3 _ Z;have d0:=Qa l 0 _ Z;have d5:=Qa l 5 _ Z;have d6:=Qa l 6 _ Z;have d7:=Qa l 7 _ Z;clear i l;go_wp2_with fail
   refine(J.out _).mono ?_
   rintro e P ⟨rfl,L⟩;have Q:Hid (Below w.heap.size w P):=C.out.trans (L.mono C.out.size);clear L J C;go_wp2
   go_ret;exact⟨Z,Q.out⟩
  ·have O:(A==0)=false:=by simpa using M
   clear J i l;go_wp2
   go_ret;exact⟨Z,C.out⟩
theorem Qgb {a b r B:Int}{l i q m x:Option Addr}{n f p k d j o e c t:Nat}{u s y:Option Addr}{C A bl z:Nat}{v:Int}(h:(v=3/\(a<1\/3<a))\/(v=4/\¬ (a<1\/3<a)/\((a≠2/\b≠0)\/(a≠3/\0<c)))\/(v=2/\¬ (a<1\/3<a)/\¬ ((a≠2/\b≠0)\/(a≠3/\0<c))/\8<c)) :
 Rd prog 185 #[.agg #[Iv fr,.slice u fl C,.slice s fm A,.slice y bl z],.agg #[Iv a,Iv b,Iv r,.slice l n f,.slice i p k,Iv B,.slice q d j,.slice m o e,.slice x c t]] w (Iv v):=by
 unfold Rd;rcases (show v=3/\a<1\/v=3/\¬ a<1/\3<a\/v=4/\a=1/\b=0/\(0:Int)<c\/v=4/\a=1/\¬ b=0\/v=4/\a=2/\(0:Int)<c\/v=4/\a=3/\¬ b=0\/v=2/\a=3/\b=0/\(8:Int)<c by omega) with ⟨rfl,g⟩|⟨rfl,D,g⟩|⟨rfl,rfl,rfl,g⟩|⟨rfl,rfl,g⟩|⟨rfl,rfl,g⟩|⟨rfl,rfl,g⟩|⟨rfl,rfl,rfl,g⟩
 all_goals
  try rw[<-bne_iff_ne,bne,Bool.not_eq_true'] at g
  clear h;go_enter func185,ntmps185
  go_wp2
  go_ret;exact⟨Z,QhN _ _ _⟩
theorem Qgq {x:Z0}{e:EP}{i h j:Option Addr}{l k bl g:Nat}(m:x.yes.regs.length<2305843009213693952/\x.yes.args.length<2305843009213693952/\x.no.regs.length<2305843009213693952/\x.no.args.length<2305843009213693952) (c:bl<2305843009213693952):Rd prog 185 #[.agg #[Iv fr,.slice i fl l,.slice h fm k,.slice j bl g],.agg #[Iv x.op,Iv x.a,Iv x.yes.block,.slice e.pYR x.yes.regs.length e.cYR,.slice e.pYA x.yes.args.length e.cYA,Iv x.no.block,.slice e.pNR x.no.regs.length e.cNR,.slice e.pNA x.no.args.length e.cNA,.slice e.pA x.args.length e.cA]] w (Iv (x.form bl)):=by
 rw[Qhz]
 by_cases b:x.op<1\/3<x.op
 ·rw[Xs b];exact Qgb (.inl ⟨Z,b⟩)
 rw[Xr b]
 by_cases d:(x.op≠2/\x.a≠0)\/(x.op≠3/\0<x.args.length)
 ·rw[Xs d];exact Qgb (.inr (.inl ⟨Z,b,d⟩))
 rw[Xr d]
 by_cases f:8<x.args.length
 ·rw[Xs f];exact Qgb (.inr (.inr ⟨Z,b,d,f⟩))
 rw[Xr f]
 exact QjQ b d f (fun _=>QdX _ c) (fun _=>QdX _ c)
def Qll (f:Nat):Prop:=∀ (n:Nat) (t:TT n) (a:Option Addr) (c:Nat) (regs:Int) (w:World),TIn w All t a->t.count<=100000 ->
 Calls prog f #[Tv t a c,Iv regs] w fun e w'=>e=.returned (Iv (t.check regs))/\Below w.heap.size w w'
end Go.Proofs.YtjhdpajpibdnaafGreat
