import Derived.Test.YtacjnejckfhpoadGreatP5
set_option maxHeartbeats 16000000
set_option maxRecDepth 100000
namespace Go.Proofs.YtacjnejckfhpoadGreat
open Go.ChangeShapes Go.WideShapes Go.ChangeAt Go.RowKit _root_.Go.Proofs.Tryz
set_option linter.unusedSimpArgs false
set_option linter.unusedVariables false
def QlD (b X:Nat) (x:Qy) (na:Option Addr) (c1:Int) (c2:Int) (t:Tmp) (v:Value) (w:World):Prop :=
 match ([(40,fun v w=>IV w [c1,c2] v)]:List (Tmp × (Value→World→Prop))).lookup t with
 | some p=>p v w
 | none=>v=(([(0,.pointer (some ⟨b,0,none⟩)),(3,.pointer (some ⟨X,0,none⟩)),(6,.slice na 1 1),(31,.slice na 1 1),(32,.pointer (some ⟨b,0,none⟩)),(33,.pointer (some ⟨X,1,none⟩)),(34,.int .i64 x.a),(35,.int .i64 c1),(36,.pointer (some ⟨b,0,none⟩)),(37,.pointer (some ⟨X,2,none⟩)),(38,.int .i64 x.b),(39,.int .i64 c2),(41,.int .i64 (firstI [c1,c2])),(4,.slice na 1 1),(5,.int .i64 (firstI [c1,c2]))]:List (Tmp × Value)).lookup t).getD undef
theorem kr7 {w w2:World}{b X:Nat}{O:Nat→Prop}{s:JSt}{x:Qy}{rg ag:Option Addr}{rc ac:Nat}{na:Option Addr}(HS:Hid (MkS w w2 b X O s x rg ag rc ac na)){c1:Int}{c2:Int}(Hc1:Hid (s.want x.a 1 false=c1)) (Hc2:Hid (s.want x.b 1 false=c2)) (HI:Hid (∀ x∈[c1,c2],-9223372036854775808≤x∧x≤9223372036854775807))
 (a:Act) (m:Nat) (hn:a.tmps.size=m) (hn':365≤m) (h0:a.tmps.getD 0 undef=.pointer (some ⟨b,0,none⟩)) (h3:a.tmps.getD 3 undef=.pointer (some ⟨X,0,none⟩)) (h6:a.tmps.getD 6 undef=.slice na 1 1) :
 Code.wp prog ((Tryz.f73.body.bind (Qj 7)).getD .skip) (fun e a' w'=>e=.normal∧∃ vs,a'=Q5 a vs [31,32,33,34,35,36,37,38,39,40,41,4,5]∧vs 4=.slice na 1 1∧vs 5=.int .i64 (firstI [c1,c2])∧Below w2.heap.size w2 w') a w2:=by
 conv=>arg 2;whnf
 refine Qw (QlD b X x na c1 c2) (fun w=>Below w2.heap.size w2 w) (fun w w'=>Below w.heap.size w w') (outs:=[0,3,6]) (gs:=[]) (bs:=[true,true,true,true,true,true,true,true,true,true,true,true,true]) (by kernel_rfl) (n:=365) hn hn' (by kernel_rfl) ?hR ?hG (Qf Zr 1) ⟨h0,h3,h6,trivial⟩ ?hA ?hend
 case hR =>
  intro t v w w' hr h;unfold QlD at h ⊢;split at h
  ·rename_i p hp
   simp only[List.lookup_cons,List.lookup_nil] at hp
   split at hp
   ·cases hp;exact IV.below h hr
   ·cases hp
  ·exact h
 case hG=>exact trivial
 case hend=>exact fun vs w' hW hk=>⟨rfl,vs,rfl,hk 4 (by kernel_rfl),hk 5 (by kernel_rfl),hW⟩
 case hA =>
  iterate 4
   refine⟨fun a w hW hk K hK=>?_,?_⟩
   ·obtain⟨k0,-⟩:=hk
    conv at k0=>whnf;rhs;whnf
    have u0:=(HS.out.below hW).cells.2.1;go_simp;exact hK _ _ Zr hW rfl
  refine⟨fun a w hW hk K hK=>?_,?_⟩
  ·obtain⟨k0,k1,-⟩:=hk
   conv at k0=>whnf;rhs;whnf
   conv at k1=>whnf;rhs;whnf
   go_simp;refine(Q4 x.a 1 false HS.out.ok.regs HS.out.ok.vals (HS.out.below hW).known).mono ?_;rw[Hc1.out];rintro r7 w7 ⟨rfl,n7,hw7⟩;subst hw7
   go_simp;exact hK _ _ (Qf Zr n7) (Qf hW n7) rfl
  iterate 3
   refine⟨fun a w hW hk K hK=>?_,?_⟩
   ·obtain⟨k0,-⟩:=hk
    conv at k0=>whnf;rhs;whnf
    have u0:=(HS.out.below hW).cells.2.2.1;go_simp;exact hK _ _ Zr hW rfl
  refine⟨fun a w hW hk K hK=>?_,?_⟩
  ·obtain⟨k0,k1,-⟩:=hk
   conv at k0=>whnf;rhs;whnf
   conv at k1=>whnf;rhs;whnf
   go_simp;refine(Q4 x.b 1 false HS.out.ok.regs HS.out.ok.vals (HS.out.below hW).known).mono ?_;rw[Hc2.out];rintro r7 w7 ⟨rfl,n7,hw7⟩;subst hw7
   go_simp;exact hK _ _ (Qf Zr n7) (Qf hW n7) rfl
  refine⟨fun a w hW hk K hK=>?_,?_⟩
  ·obtain⟨k0,k1,-⟩:=hk
   conv at k0=>whnf;rhs;whnf
   conv at k1=>whnf;rhs;whnf
   simp only[Za] at k0 k1
   go_simp;exact hK _ _ (QN _ _) (hW.alloc hW.size _) (Qgf w 3 [c1,c2] HI.out 2)
  refine⟨fun a w hW hk K hK=>?_,?_⟩
  ·obtain⟨k0,-⟩:=hk
   have k0:(fun v w=>IV w [c1,c2] v) (a.tmps.getD 40 undef) w:=k0;generalize k0e:a.tmps.getD 40 undef=uk0 at k0;go_simp;refine(QcE (by simp) k0).mono ?_;rintro r7 w7 ⟨rfl,hw7⟩;have hw7:=hw7.symm;subst hw7
   go_simp;exact hK _ _ Zr hW rfl
  iterate 2
   refine⟨fun a w hW hk K hK=>?_,?_⟩
   ·obtain⟨k0,-⟩:=hk
    conv at k0=>whnf;rhs;whnf
    go_simp;exact hK _ _ Zr hW rfl
  trivial
def QkE (b X:Nat) (x:Qy) (na:Option Addr) (c1:Int) (c2:Int) (t:Tmp) (v:Value) (w:World):Prop :=
 match ([(230,fun v w=>IV w [c1,c2] v)]:List (Tmp × (Value→World→Prop))).lookup t with
 | some p=>p v w
 | none=>v=(([(0,.pointer (some ⟨b,0,none⟩)),(3,.pointer (some ⟨X,0,none⟩)),(222,.pointer (some ⟨b,0,none⟩)),(223,.pointer (some ⟨X,1,none⟩)),(224,.int .i64 x.a),(225,.int .i64 c1),(226,.pointer (some ⟨b,0,none⟩)),(227,.pointer (some ⟨X,2,none⟩)),(228,.int .i64 x.b),(229,.int .i64 c2),(231,.int .i64 (firstI [c1,c2])),(13,.int .i64 (firstI [c1,c2]))]:List (Tmp × Value)).lookup t).getD undef
theorem Ql2 {w w2:World}{b X:Nat}{O:Nat→Prop}{s:JSt}{x:Qy}{rg ag:Option Addr}{rc ac:Nat}{na:Option Addr}(HS:Hid (MkS w w2 b X O s x rg ag rc ac na)){c1:Int}{c2:Int}(Hc1:Hid (s.want x.a 2 true=c1)) (Hc2:Hid (s.want x.b 1 false=c2)) (HI:Hid (∀ x∈[c1,c2],-9223372036854775808≤x∧x≤9223372036854775807))
 (a:Act) (m:Nat) (hn:a.tmps.size=m) (hn':365≤m) (h0:a.tmps.getD 0 undef=.pointer (some ⟨b,0,none⟩)) (h3:a.tmps.getD 3 undef=.pointer (some ⟨X,0,none⟩)) :
 Code.wp prog ((Tryz.f73.body.bind (Qj 47)).getD .skip) (fun e a' w'=>e=.normal∧∃ vs,a'=Q5 a vs [222,223,224,225,226,227,228,229,230,231,13]∧vs 13=.int .i64 (firstI [c1,c2])∧Below w2.heap.size w2 w') a w2:=by
 conv=>arg 2;whnf
 refine Qw (QkE b X x na c1 c2) (fun w=>Below w2.heap.size w2 w) (fun w w'=>Below w.heap.size w w') (outs:=[0,3]) (gs:=[]) (bs:=[true,true,true,true,true,true,true,true,true,true,true]) (by kernel_rfl) (n:=365) hn hn' (by kernel_rfl) ?hR ?hG (Qf Zr 1) ⟨h0,h3,trivial⟩ ?hA ?hend
 case hR =>
  intro t v w w' hr h;unfold QkE at h ⊢;split at h
  ·rename_i p hp
   simp only[List.lookup_cons,List.lookup_nil] at hp
   split at hp
   ·cases hp;exact IV.below h hr
   ·cases hp
  ·exact h
 case hG=>exact trivial
 case hend=>exact fun vs w' hW hk=>⟨rfl,vs,rfl,hk 13 (by kernel_rfl),hW⟩
 case hA =>
  iterate 3
   refine⟨fun a w hW hk K hK=>?_,?_⟩
   ·obtain⟨k0,-⟩:=hk
    conv at k0=>whnf;rhs;whnf
    have u0:=(HS.out.below hW).cells.2.1;go_simp;exact hK _ _ Zr hW rfl
  refine⟨fun a w hW hk K hK=>?_,?_⟩
  ·obtain⟨k0,k1,-⟩:=hk
   conv at k0=>whnf;rhs;whnf
   conv at k1=>whnf;rhs;whnf
   go_simp;refine(Q4 x.a 2 true HS.out.ok.regs HS.out.ok.vals (HS.out.below hW).known).mono ?_;rw[Hc1.out];rintro r7 w7 ⟨rfl,n7,hw7⟩;subst hw7
   go_simp;exact hK _ _ (Qf Zr n7) (Qf hW n7) rfl
  iterate 3
   refine⟨fun a w hW hk K hK=>?_,?_⟩
   ·obtain⟨k0,-⟩:=hk
    conv at k0=>whnf;rhs;whnf
    have u0:=(HS.out.below hW).cells.2.2.1;go_simp;exact hK _ _ Zr hW rfl
  refine⟨fun a w hW hk K hK=>?_,?_⟩
  ·obtain⟨k0,k1,-⟩:=hk
   conv at k0=>whnf;rhs;whnf
   conv at k1=>whnf;rhs;whnf
   go_simp;refine(Q4 x.b 1 false HS.out.ok.regs HS.out.ok.vals (HS.out.below hW).known).mono ?_;rw[Hc2.out];rintro r7 w7 ⟨rfl,n7,hw7⟩;subst hw7
   go_simp;exact hK _ _ (Qf Zr n7) (Qf hW n7) rfl
  refine⟨fun a w hW hk K hK=>?_,?_⟩
  ·obtain⟨k0,k1,-⟩:=hk
   conv at k0=>whnf;rhs;whnf
   conv at k1=>whnf;rhs;whnf
   simp only[Za] at k0 k1
   go_simp;exact hK _ _ (QN _ _) (hW.alloc hW.size _) (Qgf w 3 [c1,c2] HI.out 2)
  refine⟨fun a w hW hk K hK=>?_,?_⟩
  ·obtain⟨k0,-⟩:=hk
   have k0:(fun v w=>IV w [c1,c2] v) (a.tmps.getD 230 undef) w:=k0;generalize k0e:a.tmps.getD 230 undef=uk0 at k0;go_simp;refine(QcE (by simp) k0).mono ?_;rintro r7 w7 ⟨rfl,hw7⟩;have hw7:=hw7.symm;subst hw7
   go_simp;exact hK _ _ Zr hW rfl
  refine⟨fun a w hW hk K hK=>?_,?_⟩
  ·obtain⟨k0,-⟩:=hk
   conv at k0=>whnf;rhs;whnf
   go_simp;exact hK _ _ Zr hW rfl
  trivial
def QkX (b X:Nat) (x:Qy) (na:Option Addr) (c1:Int) (c2:Int) (t:Tmp) (v:Value) (w:World):Prop :=
 match ([(257,fun v w=>IV w [c1,c2] v)]:List (Tmp × (Value→World→Prop))).lookup t with
 | some p=>p v w
 | none=>v=(([(0,.pointer (some ⟨b,0,none⟩)),(3,.pointer (some ⟨X,0,none⟩)),(6,.slice na 1 1),(248,.slice na 1 1),(249,.pointer (some ⟨b,0,none⟩)),(250,.pointer (some ⟨X,1,none⟩)),(251,.int .i64 x.a),(252,.int .i64 c1),(253,.pointer (some ⟨b,0,none⟩)),(254,.pointer (some ⟨X,2,none⟩)),(255,.int .i64 x.b),(256,.int .i64 c2),(258,.int .i64 (firstI [c1,c2])),(4,.slice na 1 1),(5,.int .i64 (firstI [c1,c2]))]:List (Tmp × Value)).lookup t).getD undef
theorem QlQ {w w2:World}{b X:Nat}{O:Nat→Prop}{s:JSt}{x:Qy}{rg ag:Option Addr}{rc ac:Nat}{na:Option Addr}(HS:Hid (MkS w w2 b X O s x rg ag rc ac na)){c1:Int}{c2:Int}(Hc1:Hid (s.want x.a 4 true=c1)) (Hc2:Hid (s.want x.b 1 false=c2)) (HI:Hid (∀ x∈[c1,c2],-9223372036854775808≤x∧x≤9223372036854775807))
 (a:Act) (m:Nat) (hn:a.tmps.size=m) (hn':365≤m) (h0:a.tmps.getD 0 undef=.pointer (some ⟨b,0,none⟩)) (h3:a.tmps.getD 3 undef=.pointer (some ⟨X,0,none⟩)) (h6:a.tmps.getD 6 undef=.slice na 1 1) :
 Code.wp prog ((Tryz.f73.body.bind (Qj 52)).getD .skip) (fun e a' w'=>e=.normal∧∃ vs,a'=Q5 a vs [248,249,250,251,252,253,254,255,256,257,258,4,5]∧vs 4=.slice na 1 1∧vs 5=.int .i64 (firstI [c1,c2])∧Below w2.heap.size w2 w') a w2:=by
 conv=>arg 2;whnf
 refine Qw (QkX b X x na c1 c2) (fun w=>Below w2.heap.size w2 w) (fun w w'=>Below w.heap.size w w') (outs:=[0,3,6]) (gs:=[]) (bs:=[true,true,true,true,true,true,true,true,true,true,true,true,true]) (by kernel_rfl) (n:=365) hn hn' (by kernel_rfl) ?hR ?hG (Qf Zr 1) ⟨h0,h3,h6,trivial⟩ ?hA ?hend
 case hR =>
  intro t v w w' hr h;unfold QkX at h ⊢;split at h
  ·rename_i p hp
   simp only[List.lookup_cons,List.lookup_nil] at hp
   split at hp
   ·cases hp;exact IV.below h hr
   ·cases hp
  ·exact h
 case hG=>exact trivial
 case hend=>exact fun vs w' hW hk=>⟨rfl,vs,rfl,hk 4 (by kernel_rfl),hk 5 (by kernel_rfl),hW⟩
 case hA =>
  iterate 4
   refine⟨fun a w hW hk K hK=>?_,?_⟩
   ·obtain⟨k0,-⟩:=hk
    conv at k0=>whnf;rhs;whnf
    have u0:=(HS.out.below hW).cells.2.1;go_simp;exact hK _ _ Zr hW rfl
  refine⟨fun a w hW hk K hK=>?_,?_⟩
  ·obtain⟨k0,k1,-⟩:=hk
   conv at k0=>whnf;rhs;whnf
   conv at k1=>whnf;rhs;whnf
   go_simp;refine(Q4 x.a 4 true HS.out.ok.regs HS.out.ok.vals (HS.out.below hW).known).mono ?_;rw[Hc1.out];rintro r7 w7 ⟨rfl,n7,hw7⟩;subst hw7
   go_simp;exact hK _ _ (Qf Zr n7) (Qf hW n7) rfl
  iterate 3
   refine⟨fun a w hW hk K hK=>?_,?_⟩
   ·obtain⟨k0,-⟩:=hk
    conv at k0=>whnf;rhs;whnf
    have u0:=(HS.out.below hW).cells.2.2.1;go_simp;exact hK _ _ Zr hW rfl
  refine⟨fun a w hW hk K hK=>?_,?_⟩
  ·obtain⟨k0,k1,-⟩:=hk
   conv at k0=>whnf;rhs;whnf
   conv at k1=>whnf;rhs;whnf
   go_simp;refine(Q4 x.b 1 false HS.out.ok.regs HS.out.ok.vals (HS.out.below hW).known).mono ?_;rw[Hc2.out];rintro r7 w7 ⟨rfl,n7,hw7⟩;subst hw7
   go_simp;exact hK _ _ (Qf Zr n7) (Qf hW n7) rfl
  refine⟨fun a w hW hk K hK=>?_,?_⟩
  ·obtain⟨k0,k1,-⟩:=hk
   conv at k0=>whnf;rhs;whnf
   conv at k1=>whnf;rhs;whnf
   simp only[Za] at k0 k1
   go_simp;exact hK _ _ (QN _ _) (hW.alloc hW.size _) (Qgf w 3 [c1,c2] HI.out 2)
  refine⟨fun a w hW hk K hK=>?_,?_⟩
  ·obtain⟨k0,-⟩:=hk
   have k0:(fun v w=>IV w [c1,c2] v) (a.tmps.getD 257 undef) w:=k0;generalize k0e:a.tmps.getD 257 undef=uk0 at k0;go_simp;refine(QcE (by simp) k0).mono ?_;rintro r7 w7 ⟨rfl,hw7⟩;have hw7:=hw7.symm;subst hw7
   go_simp;exact hK _ _ Zr hW rfl
  iterate 2
   refine⟨fun a w hW hk K hK=>?_,?_⟩
   ·obtain⟨k0,-⟩:=hk
    conv at k0=>whnf;rhs;whnf
    go_simp;exact hK _ _ Zr hW rfl
  trivial
def QkM (b X:Nat) (x:Qy) (na:Option Addr) (c1:Int) (c2:Int) (c3:Int) (t:Tmp) (v:Value) (w:World):Prop :=
 match ([(273,fun v w=>IV w [c1,c2,c3] v)]:List (Tmp × (Value→World→Prop))).lookup t with
 | some p=>p v w
 | none=>v=(([(0,.pointer (some ⟨b,0,none⟩)),(3,.pointer (some ⟨X,0,none⟩)),(261,.pointer (some ⟨b,0,none⟩)),(262,.pointer (some ⟨X,1,none⟩)),(263,.int .i64 x.a),(264,.int .i64 c1),(265,.pointer (some ⟨b,0,none⟩)),(266,.pointer (some ⟨X,2,none⟩)),(267,.int .i64 x.b),(268,.int .i64 c2),(269,.pointer (some ⟨b,0,none⟩)),(270,.pointer (some ⟨X,3,none⟩)),(271,.int .i64 x.c),(272,.int .i64 c3),(274,.int .i64 (firstI [c1,c2,c3])),(4,.slice none 0 0),(5,.int .i64 (firstI [c1,c2,c3]))]:List (Tmp × Value)).lookup t).getD undef
theorem Ql5 {w w2:World}{b X:Nat}{O:Nat→Prop}{s:JSt}{x:Qy}{rg ag:Option Addr}{rc ac:Nat}{na:Option Addr}(HS:Hid (MkS w w2 b X O s x rg ag rc ac na)){c1:Int}{c2:Int}{c3:Int}(Hc1:Hid (s.want x.a 4 true=c1)) (Hc2:Hid (s.want x.b 1 false=c2)) (Hc3:Hid (s.want x.c 1 false=c3)) (HI:Hid (∀ x∈[c1,c2,c3],-9223372036854775808≤x∧x≤9223372036854775807))
 (a:Act) (m:Nat) (hn:a.tmps.size=m) (hn':365≤m) (h0:a.tmps.getD 0 undef=.pointer (some ⟨b,0,none⟩)) (h3:a.tmps.getD 3 undef=.pointer (some ⟨X,0,none⟩)) :
 Code.wp prog ((Tryz.f73.body.bind (Qj 54)).getD .skip) (fun e a' w'=>e=.normal∧∃ vs,a'=Q5 a vs [261,262,263,264,265,266,267,268,269,270,271,272,273,274,4,5]∧vs 4=.slice none 0 0∧vs 5=.int .i64 (firstI [c1,c2,c3])∧Below w2.heap.size w2 w') a w2:=by
 conv=>arg 2;whnf
 refine Qw (QkM b X x na c1 c2 c3) (fun w=>Below w2.heap.size w2 w) (fun w w'=>Below w.heap.size w w') (outs:=[0,3]) (gs:=[]) (bs:=[true,true,true,true,true,true,true,true,true,true,true,true,true,true,true,true]) (by kernel_rfl) (n:=365) hn hn' (by kernel_rfl) ?hR ?hG (Qf Zr 1) ⟨h0,h3,trivial⟩ ?hA ?hend
 case hR =>
  intro t v w w' hr h;unfold QkM at h ⊢;split at h
  ·rename_i p hp
   simp only[List.lookup_cons,List.lookup_nil] at hp
   split at hp
   ·cases hp;exact IV.below h hr
   ·cases hp
  ·exact h
 case hG=>exact trivial
 case hend=>exact fun vs w' hW hk=>⟨rfl,vs,rfl,hk 4 (by kernel_rfl),hk 5 (by kernel_rfl),hW⟩
 case hA =>
  iterate 3
   refine⟨fun a w hW hk K hK=>?_,?_⟩
   ·obtain⟨k0,-⟩:=hk
    conv at k0=>whnf;rhs;whnf
    have u0:=(HS.out.below hW).cells.2.1;go_simp;exact hK _ _ Zr hW rfl
  refine⟨fun a w hW hk K hK=>?_,?_⟩
  ·obtain⟨k0,k1,-⟩:=hk
   conv at k0=>whnf;rhs;whnf
   conv at k1=>whnf;rhs;whnf
   go_simp;refine(Q4 x.a 4 true HS.out.ok.regs HS.out.ok.vals (HS.out.below hW).known).mono ?_;rw[Hc1.out];rintro r7 w7 ⟨rfl,n7,hw7⟩;subst hw7
   go_simp;exact hK _ _ (Qf Zr n7) (Qf hW n7) rfl
  iterate 3
   refine⟨fun a w hW hk K hK=>?_,?_⟩
   ·obtain⟨k0,-⟩:=hk
    conv at k0=>whnf;rhs;whnf
    have u0:=(HS.out.below hW).cells.2.2.1;go_simp;exact hK _ _ Zr hW rfl
  refine⟨fun a w hW hk K hK=>?_,?_⟩
  ·obtain⟨k0,k1,-⟩:=hk
   conv at k0=>whnf;rhs;whnf
   conv at k1=>whnf;rhs;whnf
   go_simp;refine(Q4 x.b 1 false HS.out.ok.regs HS.out.ok.vals (HS.out.below hW).known).mono ?_;rw[Hc2.out];rintro r7 w7 ⟨rfl,n7,hw7⟩;subst hw7
   go_simp;exact hK _ _ (Qf Zr n7) (Qf hW n7) rfl
  iterate 3
   refine⟨fun a w hW hk K hK=>?_,?_⟩
   ·obtain⟨k0,-⟩:=hk
    conv at k0=>whnf;rhs;whnf
    have u0:=(HS.out.below hW).cells.2.2.2.1;go_simp;exact hK _ _ Zr hW rfl
  refine⟨fun a w hW hk K hK=>?_,?_⟩
  ·obtain⟨k0,k1,-⟩:=hk
   conv at k0=>whnf;rhs;whnf
   conv at k1=>whnf;rhs;whnf
   go_simp;refine(Q4 x.c 1 false HS.out.ok.regs HS.out.ok.vals (HS.out.below hW).known).mono ?_;rw[Hc3.out];rintro r7 w7 ⟨rfl,n7,hw7⟩;subst hw7
   go_simp;exact hK _ _ (Qf Zr n7) (Qf hW n7) rfl
  refine⟨fun a w hW hk K hK=>?_,?_⟩
  ·obtain⟨k0,k1,k2,-⟩:=hk
   conv at k0=>whnf;rhs;whnf
   conv at k1=>whnf;rhs;whnf
   conv at k2=>whnf;rhs;whnf
   simp only[Za] at k0 k1 k2
   go_simp;exact hK _ _ (QN _ _) (hW.alloc hW.size _) (Qgf w 3 [c1,c2,c3] HI.out 3)
  refine⟨fun a w hW hk K hK=>?_,?_⟩
  ·obtain⟨k0,-⟩:=hk
   have k0:(fun v w=>IV w [c1,c2,c3] v) (a.tmps.getD 273 undef) w:=k0;generalize k0e:a.tmps.getD 273 undef=uk0 at k0;go_simp;refine(QcE (by simp) k0).mono ?_;rintro r7 w7 ⟨rfl,hw7⟩;have hw7:=hw7.symm;subst hw7
   go_simp;exact hK _ _ Zr hW rfl
  refine⟨fun a w hW hk K hK=>?_,?_⟩
  ·clear hk;go_simp;exact hK _ _ Zr hW rfl
  refine⟨fun a w hW hk K hK=>?_,?_⟩
  ·obtain⟨k0,-⟩:=hk
   conv at k0=>whnf;rhs;whnf
   go_simp;exact hK _ _ Zr hW rfl
  trivial
theorem Qg1 {w:World}{b:Nat}{O:Nat→Prop}{s:JSt}{x:Qy}{rg ag:Option Addr}{rc ac:Nat}(hO:∀ k,O k→k<w.heap.size) (hJ:JOk s) (h:KAt w b O s) (hop:x.op=2) :
 Calls prog 73 #[.pointer (some ⟨b,0,none⟩),QaR x rg ag rc ac] w fun e w'=>QO w O (s.makes x).1 (s.makes x).2 e w':=by
 have E:Hid (s.makes x=(code2 (s.want x.a 1 false) (s.want x.b 1 false),[tInt])):=QbH hop;have S0:=Qa (MkS.start x rg ag rc ac hO hJ h);obtain⟨xop,xa,xb,xc,xk,xn,xr,xs⟩:=x
 simp only at hop
 subst hop;clear h;go_enter func73,ntmps73
 go_upto_region 7 with fail
 obtain⟨w2,hw2⟩:∃ w2,(w.alloc (.cells #[.int .i64 2,.int .i64 xa,.int .i64 xb,.int .i64 xc,.int .i64 xk,.int .i64 xn,.slice rg xr.length rc,.slice ag xs.length ac] 59)).alloc (.cells #[.int .i64 1,.int .i64 0,.slice none 0 0] 79)=w2:=⟨_,rfl⟩
 obtain⟨X,hX⟩:∃ X,w.heap.size=X:=⟨_,rfl⟩
 have S2:Hid (MkS w w2 b X O s ⟨2,xa,xb,xc,xk,xn,xr,xs⟩ rg ag rc ac (some ⟨X+1,0,none⟩)):=by rw[← hw2,← hX];exact S0.out
 rw[hw2,hX]
 clear hw2 hX S0;obtain⟨x0,x1,x2,x3,x4,x6,x7⟩:=S2.out.cells
 have HI:Hid (∀ y∈[s.want xa 1 false,s.want xb 1 false],-9223372036854775808≤y∧y≤9223372036854775807):=fun y hy=>by simp only[List.mem_cons,List.not_mem_nil,or_false] at hy;rcases hy with rfl | rfl<;>exact QcD _ _ _ _
 refine Code.wp_mono ?_ (kr7 S2 (show Hid (s.want xa 1 false=s.want xa 1 false) from rfl) (show Hid (s.want xb 1 false=s.want xb 1 false) from rfl) HI _ _ rfl (Nat.le_of_ble_eq_true (by kernel_rfl)) rfl rfl rfl);rintro ee aa w3 ⟨rfl,vs,rfl,hv4,hv5,hb⟩;simp only[Q5,Act.put,List.setIfInBounds_toArray,List.set_cons_zero,List.set_cons_succ,hv4,hv5]
 have E2:=E.out;rw[← Qd7] at E2
 generalize firstI [s.want xa 1 false,s.want xb 1 false]=c at E2 ⊢;have E3:=Qa E2;clear E2 E;go_wp2
 go_ret2;rw[E3.out]
 exact QO.num S2.out hb
theorem Qfm {w:World}{b:Nat}{O:Nat→Prop}{s:JSt}{x:Qy}{rg ag:Option Addr}{rc ac:Nat}(hO:∀ k,O k→k<w.heap.size) (hJ:JOk s) (h:KAt w b O s) (hop:x.op=9) :
 Calls prog 73 #[.pointer (some ⟨b,0,none⟩),QaR x rg ag rc ac] w fun e w'=>QO w O (s.makes x).1 (s.makes x).2 e w':=by
 have E:Hid (s.makes x=(code2 (s.want x.a 4 true) (s.want x.b 1 false),[tInt])):=Qbp hop;have S0:=Qa (MkS.start x rg ag rc ac hO hJ h);obtain⟨xop,xa,xb,xc,xk,xn,xr,xs⟩:=x
 simp only at hop
 subst hop;clear h;go_enter func73,ntmps73
 go_upto_region 52 with fail
 obtain⟨w2,hw2⟩:∃ w2,(w.alloc (.cells #[.int .i64 9,.int .i64 xa,.int .i64 xb,.int .i64 xc,.int .i64 xk,.int .i64 xn,.slice rg xr.length rc,.slice ag xs.length ac] 59)).alloc (.cells #[.int .i64 1,.int .i64 0,.slice none 0 0] 79)=w2:=⟨_,rfl⟩
 obtain⟨X,hX⟩:∃ X,w.heap.size=X:=⟨_,rfl⟩
 have S2:Hid (MkS w w2 b X O s ⟨9,xa,xb,xc,xk,xn,xr,xs⟩ rg ag rc ac (some ⟨X+1,0,none⟩)):=by rw[← hw2,← hX];exact S0.out
 rw[hw2,hX]
 clear hw2 hX S0;obtain⟨x0,x1,x2,x3,x4,x6,x7⟩:=S2.out.cells
 have HI:Hid (∀ y∈[s.want xa 4 true,s.want xb 1 false],-9223372036854775808≤y∧y≤9223372036854775807):=fun y hy=>by simp only[List.mem_cons,List.not_mem_nil,or_false] at hy;rcases hy with rfl | rfl<;>exact QcD _ _ _ _
 refine Code.wp_mono ?_ (QlQ S2 (show Hid (s.want xa 4 true=s.want xa 4 true) from rfl) (show Hid (s.want xb 1 false=s.want xb 1 false) from rfl) HI _ _ rfl (Nat.le_of_ble_eq_true (by kernel_rfl)) rfl rfl rfl);rintro ee aa w3 ⟨rfl,vs,rfl,hv4,hv5,hb⟩;simp only[Q5,Act.put,List.setIfInBounds_toArray,List.set_cons_zero,List.set_cons_succ,hv4,hv5]
 have E2:=E.out;rw[← Qd7] at E2
 generalize firstI [s.want xa 4 true,s.want xb 1 false]=c at E2 ⊢;have E3:=Qa E2;clear E2 E;go_wp2
 go_ret2;rw[E3.out]
 exact QO.num S2.out hb
theorem Qeq {w:World}{b:Nat}{O:Nat→Prop}{s:JSt}{x:Qy}{rg ag:Option Addr}{rc ac:Nat}(hO:∀ k,O k→k<w.heap.size) (hJ:JOk s) (h:KAt w b O s) (hop:x.op=10) :
 Calls prog 73 #[.pointer (some ⟨b,0,none⟩),QaR x rg ag rc ac] w fun e w'=>QO w O (s.makes x).1 (s.makes x).2 e w':=by
 have E:Hid (s.makes x=(code2 (s.want x.a 4 true) (code2 (s.want x.b 1 false) (s.want x.c 1 false)),[])):=QaP hop;have S0:=Qa (MkS.start x rg ag rc ac hO hJ h);obtain⟨xop,xa,xb,xc,xk,xn,xr,xs⟩:=x
 simp only at hop
 subst hop;clear h;go_enter func73,ntmps73
 go_upto_region 54 with fail
 obtain⟨w2,hw2⟩:∃ w2,(w.alloc (.cells #[.int .i64 10,.int .i64 xa,.int .i64 xb,.int .i64 xc,.int .i64 xk,.int .i64 xn,.slice rg xr.length rc,.slice ag xs.length ac] 59)).alloc (.cells #[.int .i64 1,.int .i64 0,.slice none 0 0] 79)=w2:=⟨_,rfl⟩
 obtain⟨X,hX⟩:∃ X,w.heap.size=X:=⟨_,rfl⟩
 have S2:Hid (MkS w w2 b X O s ⟨10,xa,xb,xc,xk,xn,xr,xs⟩ rg ag rc ac (some ⟨X+1,0,none⟩)):=by rw[← hw2,← hX];exact S0.out
 rw[hw2,hX]
 clear hw2 hX S0;obtain⟨x0,x1,x2,x3,x4,x6,x7⟩:=S2.out.cells
 have HI:Hid (∀ y∈[s.want xa 4 true,s.want xb 1 false,s.want xc 1 false],-9223372036854775808≤y∧y≤9223372036854775807):=fun y hy=>by simp only[List.mem_cons,List.not_mem_nil,or_false] at hy;rcases hy with rfl | rfl | rfl<;>exact QcD _ _ _ _
 refine Code.wp_mono ?_ (Ql5 S2 (show Hid (s.want xa 4 true=s.want xa 4 true) from rfl) (show Hid (s.want xb 1 false=s.want xb 1 false) from rfl) (show Hid (s.want xc 1 false=s.want xc 1 false) from rfl) HI _ _ rfl (Nat.le_of_ble_eq_true (by kernel_rfl)) rfl rfl);rintro ee aa w3 ⟨rfl,vs,rfl,hv4,hv5,hb⟩;simp only[Q5,Act.put,List.setIfInBounds_toArray,List.set_cons_zero,List.set_cons_succ,hv4,hv5]
 have E2:=E.out;rw[← QjY] at E2
 generalize firstI [s.want xa 4 true,s.want xb 1 false,s.want xc 1 false]=c at E2 ⊢;have E3:=Qa E2;clear E2 E;go_wp2
 go_ret2;rw[E3.out]
 exact QO.nil (S2.out.below hb).bel
def QkZ (b X gL nl cL i:Nat) (O:Nat→Prop) (r:Int) (t:Tmp) (v:Value) (w:World):Prop :=
 match ([(245,fun v w=>∃ a,v=.slice a 1 1∧(Qm 6).In w (fun g=>¬ O g) [(mkT 4 r []:TT 6)] [.slice a 1 1]),(4,fun v w=>∃ a,v=.slice a 1 1∧(Qm 6).In w (fun g=>¬ O g) [(mkT 4 r []:TT 6)] [.slice a 1 1])]:List (Tmp × (Value→World→Prop))).lookup t with
 | some p=>p v w
 | none=>v=(([(0,.pointer (some ⟨b,0,none⟩)),(3,.pointer (some ⟨X,0,none⟩)),(235,.pointer (some ⟨b,0,none⟩)),(236,.pointer (some ⟨b,0,none⟩)),(237,.pointer (some ⟨b,6,none⟩)),(238,.slice (some ⟨gL,0,none⟩) nl cL),(239,.pointer (some ⟨X,1,none⟩)),(240,.int .i64 (i:Int)),(241,.pointer (some ⟨gL,i*3,none⟩)),(242,.pointer (some ⟨gL,i*3+1,none⟩)),(243,.int .i64 r),(244,.agg #[.int .i64 4,.int .i64 r,.slice none 0 0]),(5,.int .i64 0)]:List (Tmp × Value)).lookup t).getD undef
theorem QlI {w w2:World}{b X:Nat}{O:Nat→Prop}{s:JSt}{x:Qy}{rg ag:Option Addr}{rc ac:Nat}{na:Option Addr}(HS:Hid (MkS w w2 b X O s x rg ag rc ac na)){gL nl cL i:Nat}{r:Int}(y0:w2.cell? ⟨b,6,none⟩=some (.slice (some ⟨gL,0,none⟩) nl cL)) (v1:w2.cell? ⟨gL,i*3+1,none⟩=some (.int .i64 r)) (hin:(i:Int)<nl) (hxa:x.a=(i:Int)) (HR:Hid (-9223372036854775808≤r∧r≤9223372036854775807))
 (a:Act) (m:Nat) (hn:a.tmps.size=m) (hn':365≤m) (h0:a.tmps.getD 0 undef=.pointer (some ⟨b,0,none⟩)) (h3:a.tmps.getD 3 undef=.pointer (some ⟨X,0,none⟩)) :
 Code.wp prog ((Tryz.f73.body.bind (Qj 50)).getD .skip) (fun e a' w'=>e=.normal∧∃ vs,a'=Q5 a vs [235,236,237,238,239,240,241,242,243,244,245,4,5]∧(fun v w=>∃ a,v=.slice a 1 1∧(Qm 6).In w (fun g=>¬ O g) [(mkT 4 r []:TT 6)] [.slice a 1 1]) (vs 4) w'∧vs 5=.int .i64 0∧Below w2.heap.size w2 w') a w2:=by
 conv=>arg 2;whnf
 refine Qw (QkZ b X gL nl cL i O r) (fun w=>Below w2.heap.size w2 w) (fun w w'=>Below w.heap.size w w') (outs:=[0,3]) (gs:=[]) (bs:=[true,true,true,true,true,true,true,true,true,true,true,true,true]) (by kernel_rfl) (n:=365) hn hn' (by kernel_rfl) ?hR ?hG (Qf Zr 1) ⟨h0,h3,trivial⟩ ?hA ?hend
 case hR =>
  intro t v w w' hr h;unfold QkZ at h ⊢;split at h
  ·rename_i p hp
   simp only[List.lookup_cons,List.lookup_nil] at hp
   split at hp
   ·cases hp;exact(by obtain⟨a,e,h⟩:=h;exact⟨a,e,Lay.below h hr⟩)
   ·split at hp
    ·cases hp;exact(by obtain⟨a,e,h⟩:=h;exact⟨a,e,Lay.below h hr⟩)
    ·cases hp
  ·exact h
 case hG=>exact trivial
 case hend=>exact fun vs w' hW hk=>⟨rfl,vs,rfl,hk 4 (by kernel_rfl),hk 5 (by kernel_rfl),hW⟩
 case hA =>
  iterate 5
   refine⟨fun a w hW hk K hK=>?_,?_⟩
   ·obtain⟨k0,-⟩:=hk
    conv at k0=>whnf;rhs;whnf
    have u0:=Qi y0 hW;go_simp;exact hK _ _ Zr hW rfl
  refine⟨fun a w hW hk K hK=>?_,?_⟩
  ·obtain⟨k0,-⟩:=hk
   conv at k0=>whnf;rhs;whnf
   have c0:=(HS.out.below hW).cells.2.1;rw[hxa] at c0
   go_simp;exact hK _ _ Zr hW rfl
  refine⟨fun a w hW hk K hK=>?_,?_⟩
  ·obtain⟨k0,k1,-⟩:=hk
   conv at k0=>whnf;rhs;whnf
   conv at k1=>whnf;rhs;whnf
   go_simp;exact hK _ _ Zr hW rfl
  iterate 2
   refine⟨fun a w hW hk K hK=>?_,?_⟩
   ·obtain⟨k0,-⟩:=hk
    conv at k0=>whnf;rhs;whnf
    have u0:=Qi v1 hW;go_simp;exact hK _ _ Zr hW rfl
  refine⟨fun a w hW hk K hK=>?_,?_⟩
  ·obtain⟨k0,-⟩:=hk
   conv at k0=>whnf;rhs;whnf
   simp only[Za] at k0
   go_simp;exact hK _ _ Zr hW rfl
  refine⟨fun a w hW hk K hK=>?_,?_⟩
  ·obtain⟨k0,-⟩:=hk
   conv at k0=>whnf;rhs;whnf
   simp only[Za] at k0
   go_simp;exact hK _ _ (QN _ _) (hW.alloc hW.size _) ⟨_,rfl,Qc4 w O (HS.out.below hW).lt (t:=(mkT 4 r []:TT 6)) (a:=none) (c:=0) (d:=1) (Qfq _ _ _ _ _) (Qia HR.out)⟩
  refine⟨fun a w hW hk K hK=>?_,?_⟩
  ·obtain⟨k0,-⟩:=hk
   have k0:(fun v w=>∃ a,v=.slice a 1 1∧(Qm 6).In w (fun g=>¬ O g) [(mkT 4 r []:TT 6)] [.slice a 1 1]) (a.tmps.getD 245 undef) w:=k0;generalize k0e:a.tmps.getD 245 undef=uk0 at k0;go_simp;exact hK _ _ Zr hW k0
  refine⟨fun a w hW hk K hK=>?_,?_⟩
  ·clear hk;go_simp;exact hK _ _ Zr hW rfl
  trivial
theorem QeS {w:World}{b:Nat}{O:Nat→Prop}{s:JSt}{x:Qy}{rg ag:Option Addr}{rc ac:Nat}(hO:∀ k,O k→k<w.heap.size) (hJ:JOk s) (h:KAt w b O s) (hop:x.op=8) :
 Calls prog 73 #[.pointer (some ⟨b,0,none⟩),QaR x rg ag rc ac] w fun e w'=>QO w O (s.makes x).1 (s.makes x).2 e w':=by
 have E:Hid (s.makes x=(match s.at x.a with | none=>(1,[]) | some t=>(code2 (s.want x.a 2 true) (s.want x.b 1 false),[mkT 4 t.r []]))):=QaV hop;have S0:=Qa (MkS.start x rg ag rc ac hO hJ h);obtain⟨xop,xa,xb,xc,xk,xn,xr,xs⟩:=x
 simp only at hop
 subst hop;clear h;go_enter func73,ntmps73
 go_upto_region 47 with fail
 obtain⟨w2,hw2⟩:∃ w2,(w.alloc (.cells #[.int .i64 8,.int .i64 xa,.int .i64 xb,.int .i64 xc,.int .i64 xk,.int .i64 xn,.slice rg xr.length rc,.slice ag xs.length ac] 59)).alloc (.cells #[.int .i64 1,.int .i64 0,.slice none 0 0] 79)=w2:=⟨_,rfl⟩
 obtain⟨X,hX⟩:∃ X,w.heap.size=X:=⟨_,rfl⟩
 have S2:Hid (MkS w w2 b X O s ⟨8,xa,xb,xc,xk,xn,xr,xs⟩ rg ag rc ac (some ⟨X+1,0,none⟩)):=by rw[← hw2,← hX];exact S0.out
 rw[hw2,hX]
 clear hw2 hX S0;obtain⟨x0,x1,x2,x3,x4,x6,x7⟩:=S2.out.cells
 have HI:Hid (∀ y∈[s.want xa 2 true,s.want xb 1 false],-9223372036854775808≤y∧y≤9223372036854775807):=fun y hy=>by simp only[List.mem_cons,List.not_mem_nil,or_false] at hy;rcases hy with rfl | rfl<;>exact QcD _ _ _ _
 refine Code.wp_mono ?_ (Ql2 S2 (show Hid (s.want xa 2 true=s.want xa 2 true) from rfl) (show Hid (s.want xb 1 false=s.want xb 1 false) from rfl) HI _ _ rfl (Nat.le_of_ble_eq_true (by kernel_rfl)) rfl rfl);rintro ee aa w3 ⟨rfl,vs,rfl,hv5,hb⟩;simp only[Q5,Act.put,List.setIfInBounds_toArray,List.set_cons_zero,List.set_cons_succ,hv5]
 have S3:Hid (MkS w w3 b X O s ⟨8,xa,xb,xc,xk,xn,xr,xs⟩ rg ag rc ac (some ⟨X+1,0,none⟩)):=S2.out.below hb;rw[Qd7]
 clear hb hv5 S2 HI x0 x1 x2 x3 x4 x6 x7;have S2:=S3;clear S3;by_cases hc:code2 (s.want xa 2 true) (s.want xb 1 false)=0
 ·obtain⟨hw1,hw2⟩:=Qag hc
  obtain⟨t,hat,-,-⟩:=Qaj hw1
  have E2:Hid (s.makes ⟨8,xa,xb,xc,xk,xn,xr,xs⟩=(0,[mkT 4 t.r []])):=by
   show _=_;rw[E.out];simp only[hat,hc]
  rw[hc]
  clear E hc hw1 hw2;obtain⟨-,ha0,hal,hti⟩:=QaE hat
  obtain⟨i,rfl⟩:=Int.eq_ofNat_of_zero_le ha0
  clear hat ha0;obtain⟨pm,cm,a1,c1,a2,c2,a3,c3,hh,aL,cL,R⟩:=S2.out.known.read
  obtain⟨q0,q1,q2,q3,q4,q5,q6⟩:=R.cells
  obtain⟨gL,va,vc,rfl,v0,v1,v2,-,hok⟩:=R.row i t (by simpa using hti)
  have HR:Hid (-9223372036854775808≤t.r∧t.r≤9223372036854775807):=hok.1;clear R q0 q1 q2 q3 q4 q5 hti v0 v2 hok;generalize s.L.length=nl at q6 hal;go_upto_region 50 with fail
  refine Code.wp_mono ?_ (QlI S2 q6 v1 hal rfl HR _ _ rfl (Nat.le_of_ble_eq_true (by kernel_rfl)) rfl rfl);rintro ee aa w4 ⟨rfl,vs,rfl,⟨a4,hv4,h4⟩,hv5,hb⟩;simp only[Q5,Act.put,List.setIfInBounds_toArray,List.set_cons_zero,List.set_cons_succ,hv4,hv5]
  have Z:Hid (QO w O 0 [(mkT 4 t.r []:TT 6)] (.returned (.tuple #[.slice a4 1 1,.int .i64 0])) w4):=⟨_,1,1,rfl,fun _=>⟨rfl,Ze,h4⟩,(S2.out.below hb).bel⟩;clear h4 hb hv4 hv5 v1 q6;go_wp2
  go_ret2;rw[E2.out]
  exact Z.out
 ·have E2:Hid ((s.makes ⟨8,xa,xb,xc,xk,xn,xr,xs⟩).1=code2 (s.want xa 2 true) (s.want xb 1 false)):=by
   show _=_;rw[E.out]
   cases hat:s.at xa with
   | none =>
     have:s.want xa 2 true=1:=by unfold JSt.want;rw[hat]
     simp only[this];rfl
   | some t=>rfl
  clear E;generalize code2 (s.want xa 2 true) (s.want xb 1 false)=c at E2 hc ⊢;have hc':(c==0)=false:=beq_eq_false_iff_ne.2 hc;have HC:=Qa hc;clear hc;go_wp2
  go_ret2;rw[E2.out]
  exact QO.bad HC.out S2.out.bel _ _ _
def QkF (w2:World) (b X gL nl cL i gk ok nk ck k uc:Nat) (u:TT 5) (ua:Option Addr) (t:Tmp) (v:Value) (w:World):Prop :=
 match ([(12,fun v w=>∃ B,v=.pointer (some ⟨B,0,none⟩)∧w2.heap.size≤B∧Blk w B #[.int .i64 0,.int .i64 0,.slice none 0 0] 79)]:List (Tmp × (Value→World→Prop))).lookup t with
 | some p=>p v w
 | none=>v=(([(0,.pointer (some ⟨b,0,none⟩)),(3,.pointer (some ⟨X,0,none⟩)),(178,.pointer (some ⟨b,0,none⟩)),(179,.pointer (some ⟨b,0,none⟩)),(180,.pointer (some ⟨b,6,none⟩)),(181,.slice (some ⟨gL,0,none⟩) nl cL),(182,.pointer (some ⟨X,1,none⟩)),(183,.int .i64 (i:Int)),(184,.pointer (some ⟨gL,i*3,none⟩)),(185,.pointer (some ⟨gL,i*3+2,none⟩)),(186,.slice (some ⟨gk,ok,none⟩) nk ck),(187,.pointer (some ⟨X,4,none⟩)),(188,.int .i64 (k:Int)),(189,.pointer (some ⟨gk,ok+k*3,none⟩)),(190,.agg #[.int .i64 u.kind,.int .i64 u.r,.slice ua u.len uc])]:List (Tmp × Value)).lookup t).getD undef
theorem Qlz {w w2:World}{b X:Nat}{O:Nat→Prop}{s:JSt}{x:Qy}{rg ag:Option Addr}{rc ac:Nat}{na:Option Addr}(HS:Hid (MkS w w2 b X O s x rg ag rc ac na)){gL nl cL i gk ok nk ck k uc:Nat}{u:TT 5}{ua:Option Addr}(y0:w2.cell? ⟨b,6,none⟩=some (.slice (some ⟨gL,0,none⟩) nl cL)) (v2:w2.cell? ⟨gL,i*3+2,none⟩=some (.slice (some ⟨gk,ok,none⟩) nk ck)) (u0:w2.cell? ⟨gk,ok+k*3,none⟩=some (.int .i64 u.kind)) (u1:w2.cell? ⟨gk,ok+k*3+1,none⟩=some (.int .i64 u.r)) (u2:w2.cell? ⟨gk,ok+k*3+2,none⟩=some (.slice ua u.len uc)) (hin:(i:Int)<nl) (hkn:(k:Int)<nk) (hxa:x.a=(i:Int)) (hxk:x.k=(k:Int)){Q:Exit→Act→World→Prop}
 (a:Act) (m:Nat) (hn:a.tmps.size=m) (hn':365≤m) (h0:a.tmps.getD 0 undef=.pointer (some ⟨b,0,none⟩)) (h3:a.tmps.getD 3 undef=.pointer (some ⟨X,0,none⟩))
 (hend:∀ ops vs w',vs 190=.agg #[.int .i64 u.kind,.int .i64 u.r,.slice ua u.len uc]→(fun v w=>∃ B,v=.pointer (some ⟨B,0,none⟩)∧w2.heap.size≤B∧Blk w B #[.int .i64 0,.int .i64 0,.slice none 0 0] 79) (vs 12) w'→Below w2.heap.size w2 w'→wpList prog ops Q (QcP 14 ((Tryz.f73.body.bind (Qj 38)).getD .skip)) (Q5 a vs [178,179,180,181,182,183,184,185,186,187,188,189,190,12]) w') :
 Code.wp prog ((Tryz.f73.body.bind (Qj 38)).getD .skip) Q a w2:=by
 conv=>arg 2;whnf
 refine Qq 14 (QkF w2 b X gL nl cL i gk ok nk ck k uc u ua) (fun w=>Below w2.heap.size w2 w) (fun w w'=>Below w.heap.size w w') (outs:=[0,3]) (gs:=[]) (bs:=[true,true,true,true,true,true,true,true,true,true,true,true,true,true]) (by kernel_rfl) (n:=365) hn hn' (by kernel_rfl) (by kernel_rfl) ?hR ?hG (Qf Zr 1) ⟨h0,h3,trivial⟩ ?hA ?hend
 case hR =>
  intro t v w w' hr h;unfold QkF at h ⊢;split at h
  ·rename_i p hp
   simp only[List.lookup_cons,List.lookup_nil] at hp
   split at hp
   ·cases hp;exact(by obtain⟨B,e,h1,h2⟩:=h;exact⟨B,e,h1,(hr.block B (lt_of_block h2)).trans h2⟩)
   ·cases hp
  ·exact h
 case hG=>exact trivial
 case hend=>exact fun ops vs w' hW hk=>hend ops vs w' (hk 190 (by kernel_rfl)) (hk 12 (by kernel_rfl)) hW
 case hA =>
  iterate 5
   refine⟨fun a w hW hk K hK=>?_,?_⟩
   ·obtain⟨k0,-⟩:=hk
    conv at k0=>whnf;rhs;whnf
    have u0:=Qi y0 hW;go_simp;exact hK _ _ Zr hW rfl
  refine⟨fun a w hW hk K hK=>?_,?_⟩
  ·obtain⟨k0,-⟩:=hk
   conv at k0=>whnf;rhs;whnf
   have c0:=(HS.out.below hW).cells.2.1;rw[hxa] at c0
   go_simp;exact hK _ _ Zr hW rfl
  refine⟨fun a w hW hk K hK=>?_,?_⟩
  ·obtain⟨k0,k1,-⟩:=hk
   conv at k0=>whnf;rhs;whnf
   conv at k1=>whnf;rhs;whnf
   go_simp;exact hK _ _ Zr hW rfl
  iterate 3
   refine⟨fun a w hW hk K hK=>?_,?_⟩
   ·obtain⟨k0,-⟩:=hk
    conv at k0=>whnf;rhs;whnf
    have u0:=Qi v2 hW;go_simp;exact hK _ _ Zr hW rfl
  refine⟨fun a w hW hk K hK=>?_,?_⟩
  ·obtain⟨k0,-⟩:=hk
   conv at k0=>whnf;rhs;whnf
   have c0:=(HS.out.below hW).cells.2.2.2.2.1;rw[hxk] at c0
   go_simp;exact hK _ _ Zr hW rfl
  refine⟨fun a w hW hk K hK=>?_,?_⟩
  ·obtain⟨k0,k1,-⟩:=hk
   conv at k0=>whnf;rhs;whnf
   conv at k1=>whnf;rhs;whnf
   go_simp;exact hK _ _ Zr hW rfl
  refine⟨fun a w hW hk K hK=>?_,?_⟩
  ·obtain⟨k0,-⟩:=hk
   conv at k0=>whnf;rhs;whnf
   have u0:=Qi u0 hW;have u1:=Qi u1 hW;have u2:=Qi u2 hW;go_simp;exact hK _ _ Zr hW rfl
  refine⟨fun a w hW hk K hK=>?_,?_⟩
  ·clear hk;go_simp;exact hK _ _ (QN _ _) (hW.alloc hW.size _) ⟨_,rfl,hW.size,Qe _ _ _⟩
  trivial
theorem Qgu {w:World}{b:Nat}{O:Nat→Prop}{s:JSt}{x:Qy}{rg ag:Option Addr}{rc ac:Nat}(hO:∀ k,O k→k<w.heap.size) (hJ:JOk s) (h:KAt w b O s) (hk0:0≤x.k∧x.k≤7) (hop:x.op=6) :
 Calls prog 73 #[.pointer (some ⟨b,0,none⟩),QaR x rg ag rc ac] w fun e w'=>QO w O (s.makes x).1 (s.makes x).2 e w':=by
 have E:Hid (s.makes x=(match s.at x.a with
  | none=>(1,[])
  | some t=>if s.want x.a 3 true=0 then (match t.2.2[x.k.toNat]? with
   | none=>(9,[])
   | some u=>(0,[u.at 5]))
   else (s.want x.a 3 true,[]))):=QbZ hop
 have S0:=Qa (MkS.start x rg ag rc ac hO hJ h);obtain⟨xop,xa,xb,xc,xk,xn,xr,xs⟩:=x
 simp only at hop
 subst hop;clear h;go_enter func73,ntmps73
 go_upto_region 33 with fail
 obtain⟨w2,hw2⟩:∃ w2,(w.alloc (.cells #[.int .i64 6,.int .i64 xa,.int .i64 xb,.int .i64 xc,.int .i64 xk,.int .i64 xn,.slice rg xr.length rc,.slice ag xs.length ac] 59)).alloc (.cells #[.int .i64 1,.int .i64 0,.slice none 0 0] 79)=w2:=⟨_,rfl⟩
 obtain⟨X,hX⟩:∃ X,w.heap.size=X:=⟨_,rfl⟩
 have S2:Hid (MkS w w2 b X O s ⟨6,xa,xb,xc,xk,xn,xr,xs⟩ rg ag rc ac (some ⟨X+1,0,none⟩)):=by rw[← hw2,← hX];exact S0.out
 rw[hw2,hX]
 clear hw2 hX S0;obtain⟨x0,x1,x2,x3,x4,x6,x7⟩:=S2.out.cells
 have hH16:=S2.out.ok.regs;have hL80:=S2.out.ok.vals;go_wp2_with fail
 refine(Q4 xa 3 true S2.out.ok.regs S2.out.ok.vals S2.out.known).mono ?_
 rintro e w3 ⟨rfl,n3,hw3⟩;have S3:Hid (MkS w w3 b X O s ⟨6,xa,xb,xc,xk,xn,xr,xs⟩ rg ag rc ac (some ⟨X+1,0,none⟩)):=S2.out.below (by rw[hw3];exact Qf Zr n3);clear hw3 S2 x0 x1 x2 x3 x4 x6 x7;have S2:=S3;clear S3;obtain⟨x0,x1,x2,x3,x4,x6,x7⟩:=S2.out.cells
 simp only at x0 x1 x2 x3 x4 x6 x7 hk0
 cases hat:s.at xa with
 | none =>
   have hw:s.want xa 3 true=1:=by unfold JSt.want;rw[hat]
   have E2:Hid (s.makes ⟨6,xa,xb,xc,xk,xn,xr,xs⟩=(1,[])):=by
    show _=_;rw[E.out];simp only[hat]
   rw[hw]
   clear E hw hat;go_wp2
   go_ret2;rw[E2.out]
   exact QO.nil S2.out.bel
 | some t =>
   by_cases hw:s.want xa 3 true=0
   ·obtain⟨k,rfl⟩:=Int.eq_ofNat_of_zero_le hk0.1
    obtain⟨-,ha0,hal,hti⟩:=QaE hat
    obtain⟨i,rfl⟩:=Int.eq_ofNat_of_zero_le ha0
    obtain⟨pm,cm,a1,c1,a2,c2,a3,c3,hh,aL,cL,R⟩:=S2.out.known.read
    obtain⟨q0,q1,q2,q3,q4,q5,q6⟩:=R.cells
    obtain⟨gL,va,vc,rfl,v0,v1,v2,v3,hok⟩:=R.row i t (by simpa using hti)
    have HRW:Hid (TRd w3 (fun g=>¬ O g) (some ⟨gL,0,none⟩) s.L):=R.row;clear R q0 q1 q2 q3 q4 q5 v0 v1;have hlen:t.len=t.2.2.length:=rfl
    cases hu:t.2.2[k]? with
    | none =>
      have E2:Hid (s.makes ⟨6,(i:Int),xb,xc,(k:Int),xn,xr,xs⟩=(9,[])):=by
       show _=_;rw[E.out];simp only[hat,if_pos hw,Int.toNat_natCast,hu]
      have hge:(t.len:Int)≤k:=by rw[hlen];have:=List.getElem?_eq_none_iff.1 hu;omega
      rw[hw]
      clear E hw hat hu hlen hti;generalize t.len=tl at v2 hge;generalize hnl:s.L.length=nl at q6 hal hL80;go_wp2_with fail
      go_quiet (fail)
      go_wp2
      go_ret2;rw[E2.out]
      exact QO.nil (Qf S2.out.bel _)
    | some u =>
      have hlt:(k:Int)<t.len:=by rw[hlen];have:=(Zi hu).1;omega
      obtain⟨gk,okk,ua,uc,rfl,-,u0,u1,u2,u3⟩:=v3 k u hu
      have hua:u.ok:=hok.2 u (Zm hu);have HU:Hid (TIn w3 (fun g=>¬ O g) u ua∧u.ok):=⟨u3,hua⟩
      have HCU:Hid ((u.at 5).count≤100000):=by
       have h1:=QZ (S2.out.ok.types t (QaE hat).1);have h2:=t.count_kid (Zm hu);have h3:=TT.at_count 5 u;show _≤_;omega
      have E2:Hid (s.makes ⟨6,(i:Int),xb,xc,(k:Int),xn,xr,xs⟩=(0,[u.at 5])):=by
       show _=_;rw[E.out];simp only[hat,if_pos hw,Int.toNat_natCast,hu]
      have hge:¬ (t.len:Int)≤k:=by omega
      rw[hw]
      clear E hw hat hu hlen hti v3 hok u3 hua;generalize t.len=tl at v2 hge hlt;generalize hnl:s.L.length=nl at q6 hal hL80;have HNL:Hid (s.L.length=nl):=hnl;clear hnl;go_wp2_with fail
      go_quiet (fail)
      have S4:=Qa (S2.out.below (Qf Zr nq));have b4:Below w3.heap.size w3 (w3.drewN nq):=Qf Zr nq;have HU4:Hid (TIn (w3.drewN nq) (fun g=>¬ O g) u ua∧u.ok):=⟨HU.out.1.below b4,HU.out.2⟩;have HRW4:Hid (TRd (w3.drewN nq) (fun g=>¬ O g) (some ⟨gL,0,none⟩) s.L):=HRW.out.below b4;have q6':=Qi q6 b4;have v2':=Qi v2 b4;have u0':=Qi u0 b4;have u1':=Qi u1 b4;have u2':=Qi u2 b4;clear b4;generalize w3.drewN nq=w4 at S4 HU4 HRW4 q6' v2' u0' u1' u2' ⊢;clear q6 v2 u0 u1 u2 HU HRW S2 x0 x1 x2 x3 x4 x6 x7;have S2:=S4;clear S4;obtain⟨x0,x1,x2,x3,x4,x6,x7⟩:=S2.out.cells
      simp only at x0 x1 x2 x3 x4 x6 x7
      go_upto_region 38 with fail
      refine Qlz S2 q6' v2' u0' u1' u2' hal hlt rfl rfl _ _ rfl (Nat.le_of_ble_eq_true (by kernel_rfl)) rfl rfl ?_;rintro ops vs w5 hv190 ⟨B,hv12,hB,hBb⟩ b5;show wpList _ ops _ [_] (Q5 _ vs [178,179,180,181,182,183,184,185,186,187,188,189,190,12]) w5;simp only[Q5,Act.put,List.setIfInBounds_toArray,List.set_cons_zero,List.set_cons_succ,hv190,hv12]
      have B6:Hid (Blk (((w5.setCell ⟨B,0,none⟩ (.int .i64 u.kind)).setCell ⟨B,1,none⟩ (.int .i64 u.r)).setCell ⟨B,2,none⟩ (.slice ua u.len uc)) B #[.int .i64 u.kind,.int .i64 u.r,.slice ua u.len uc] 79):=Blk.set3 hBb _ _ _
      have b6:Hid (Below w4.heap.size w4 (((w5.setCell ⟨B,0,none⟩ (.int .i64 u.kind)).setCell ⟨B,1,none⟩ (.int .i64 u.r)).setCell ⟨B,2,none⟩ (.slice ua u.len uc))) :=
       ((b5.setCell (p:=⟨B,0,none⟩) hB _).setCell (p:=⟨B,1,none⟩) hB _).setCell (p:=⟨B,2,none⟩) hB _
      have e0:=Qb hBb 0 _ rfl;have e1:=Qb hBb 1 _ rfl;have e2:=Qb hBb 2 _ rfl;have ef:∀ i,w5.frozen? ⟨B,i,none⟩=false:=fun i=>Qp hBb i;clear hBb hB b5 hv190 hv12 q6' v2' u0' u1' u2';go_upto_region 39 with fail
      generalize (((w5.setCell ⟨B,0,none⟩ (.int .i64 u.kind)).setCell ⟨B,1,none⟩ (.int .i64 u.r)).setCell ⟨B,2,none⟩ (.slice ua u.len uc))=w6 at B6 b6 ⊢;have S6:=Qa (S2.out.below b6.out);have HU6:Hid (TIn w6 (fun g=>¬ O g) u ua∧u.ok):=⟨HU4.out.1.below b6.out,HU4.out.2⟩;have HRW6:Hid (TRd w6 (fun g=>¬ O g) (some ⟨gL,0,none⟩) s.L):=HRW4.out.below b6.out;clear S2 HU4 HRW4 e0 e1 e2 ef x0 x1 x2 x3 x4 x6 x7;have S2:=S6;clear S6;obtain⟨x0,x1,x2,x3,x4,x6,x7⟩:=S2.out.cells
      simp only at x0 x1 x2 x3 x4 x6 x7
      have e0:=Qb B6.out 0 _ rfl;have e1:=Qb B6.out 1 _ rfl;have e2:=Qb B6.out 2 _ rfl
      have Z:Hid (QO w O 0 [u.at 5] (.returned (.tuple #[.slice (some ⟨w6.heap.size,0,none⟩) 1 1,.int .i64 0])) (w6.alloc (.cells #[.int .i64 u.kind,.int .i64 u.r,.slice ua u.len uc] 79))) :=
       ⟨_,1,1,rfl,fun _=>⟨rfl,Ze,Qgt w6 O S2.out.lt HU6.out.1 HU6.out.2⟩,S2.out.bel.alloc S2.out.bel.size _⟩
      clear B6 b6;go_wp2
      go_ret2;rw[E2.out]
      exact Z.out
   ·have hw':(s.want xa 3 true==0)=false:=beq_eq_false_iff_ne.2 hw
    have E2:Hid (s.makes ⟨6,xa,xb,xc,xk,xn,xr,xs⟩=(s.want xa 3 true,[])):=by
     show _=_;rw[E.out];simp only[hat,if_neg hw]
    have HW:=Qa hw;clear E hat hw;generalize s.want xa 3 true=c at E2 hw' HW ⊢;go_wp2
    go_ret2;rw[E2.out]
    exact QO.nil S2.out.bel
def Qlt (b X B gL nl cL j uc yc:Nat) (u y:TT 6) (ua ya:Option Addr) (q:Bool) (t:Tmp) (v:Value) (w:World):Prop :=
 v=(([(0,.pointer (some ⟨b,0,none⟩)),(3,.pointer (some ⟨X,0,none⟩)),(12,.pointer (some ⟨B,0,none⟩)),(209,.agg #[.int .i64 u.kind,.int .i64 u.r,.slice ua u.len uc]),(210,.pointer (some ⟨b,0,none⟩)),(211,.pointer (some ⟨b,0,none⟩)),(212,.pointer (some ⟨b,6,none⟩)),(213,.slice (some ⟨gL,0,none⟩) nl cL),(214,.pointer (some ⟨X,2,none⟩)),(215,.int .i64 (j:Int)),(216,.pointer (some ⟨gL,j*3,none⟩)),(217,.agg #[.int .i64 y.kind,.int .i64 y.r,.slice ya y.len yc]),(218,.bool q),(219,.bool (!q))]:List (Tmp × Value)).lookup t).getD undef
theorem Qmb {w w2:World}{b X:Nat}{O:Nat→Prop}{s:JSt}{x:Qy}{rg ag:Option Addr}{rc ac:Nat}{na:Option Addr}(HS:Hid (MkS w w2 b X O s x rg ag rc ac na)){B gL nl cL j uc yc:Nat}{u y:TT 6}{ua ya:Option Addr}{q:Bool}{Q R:Nat→Prop}(e0:w2.cell? ⟨B,0,none⟩=some (.int .i64 u.kind)) (e1:w2.cell? ⟨B,1,none⟩=some (.int .i64 u.r)) (e2:w2.cell? ⟨B,2,none⟩=some (.slice ua u.len uc)) (y0:w2.cell? ⟨b,6,none⟩=some (.slice (some ⟨gL,0,none⟩) nl cL)) (v0:w2.cell? ⟨gL,j*3,none⟩=some (.int .i64 y.kind)) (v1:w2.cell? ⟨gL,j*3+1,none⟩=some (.int .i64 y.r)) (v2:w2.cell? ⟨gL,j*3+2,none⟩=some (.slice ya y.len yc)) (hjn:(j:Int)<nl) (hxb:x.b=(j:Int)) (HU:Hid (TIn w2 Q u ua)) (HV:Hid (TIn w2 R y ya)) (HC:Hid (u.count≤100000)) (HQ:Hid (q=true↔u=y))
 (a:Act) (m:Nat) (hn:a.tmps.size=m) (hn':365≤m) (h0:a.tmps.getD 0 undef=.pointer (some ⟨b,0,none⟩)) (h3:a.tmps.getD 3 undef=.pointer (some ⟨X,0,none⟩)) (h12:a.tmps.getD 12 undef=.pointer (some ⟨B,0,none⟩)) :
 Code.wp prog ((Tryz.f73.body.bind (Qj 43)).getD .skip) (fun e a' w'=>e=.normal∧∃ vs,a'=Q5 a vs [209,210,211,212,213,214,215,216,217,218,219]∧vs 219=.bool (!q)∧Below w2.heap.size w2 w') a w2:=by
 conv=>arg 2;whnf
 refine Qw (Qlt b X B gL nl cL j uc yc u y ua ya q) (fun w=>Below w2.heap.size w2 w) (fun w w'=>Below w.heap.size w w') (outs:=[0,3,12]) (gs:=[]) (bs:=[true,true,true,true,true,true,true,true,true,true,true]) (by kernel_rfl) (n:=365) hn hn' (by kernel_rfl) ?hR ?hG (Qf Zr 1) ⟨h0,h3,h12,trivial⟩ ?hA ?hend
 case hR=>exact fun t v w w' _ h=>h
 case hG=>exact trivial
 case hend=>exact fun vs w' hW hk=>⟨rfl,vs,rfl,hk 219 (by kernel_rfl),hW⟩
 case hA =>
  iterate 6
   refine⟨fun a w hW hk K hK=>?_,?_⟩
   ·obtain⟨k0,-⟩:=hk
    conv at k0=>whnf;rhs;whnf
    have u0:=Qi e0 hW;have u1:=Qi e1 hW;have u2:=Qi e2 hW;have u3:=Qi y0 hW;go_simp;exact hK _ _ Zr hW rfl
  refine⟨fun a w hW hk K hK=>?_,?_⟩
  ·obtain⟨k0,-⟩:=hk
   conv at k0=>whnf;rhs;whnf
   have c0:=(HS.out.below hW).cells.2.2.1;rw[hxb] at c0
   go_simp;exact hK _ _ Zr hW rfl
  refine⟨fun a w hW hk K hK=>?_,?_⟩
  ·obtain⟨k0,k1,-⟩:=hk
   conv at k0=>whnf;rhs;whnf
   conv at k1=>whnf;rhs;whnf
   go_simp;exact hK _ _ Zr hW rfl
  refine⟨fun a w hW hk K hK=>?_,?_⟩
  ·obtain⟨k0,-⟩:=hk
   conv at k0=>whnf;rhs;whnf
   have u0:=Qi v0 hW;have u1:=Qi v1 hW;have u2:=Qi v2 hW;go_simp;exact hK _ _ Zr hW rfl
  refine⟨fun a w hW hk K hK=>?_,?_⟩
  ·obtain⟨k0,k1,-⟩:=hk
   conv at k0=>whnf;rhs;whnf
   conv at k1=>whnf;rhs;whnf
   go_simp;refine(samet_any 6 u y ua ya uc yc w (HU.out.below hW).all (HV.out.below hW).all HC.out).mono ?_;rintro r7 w7 ⟨⟨q7,rfl,hq7⟩,b7⟩
   have eq7:q7=q:=Bool.eq_iff_iff.2 (hq7.trans HQ.out.symm);subst eq7;go_simp;exact hK _ _ b7 (hW.trans (b7.mono hW.size)) rfl
  refine⟨fun a w hW hk K hK=>?_,?_⟩
  ·obtain⟨k0,-⟩:=hk
   conv at k0=>whnf;rhs;whnf
   go_simp;exact hK _ _ Zr hW rfl
  trivial
theorem Qg4 {w:World}{b:Nat}{O:Nat→Prop}{s:JSt}{x:Qy}{rg ag:Option Addr}{rc ac:Nat}(hO:∀ k,O k→k<w.heap.size) (hJ:JOk s) (h:KAt w b O s) (hk0:0≤x.k∧x.k≤7) (hop:x.op=7) :
 Calls prog 73 #[.pointer (some ⟨b,0,none⟩),QaR x rg ag rc ac] w fun e w'=>QO w O (s.makes x).1 (s.makes x).2 e w':=by
 have E:Hid (s.makes x=(match s.at x.a with
  | none=>(1,[])
  | some t=>if s.want x.a 3 true=0 then (match t.2.2[x.k.toNat]? with
   | none=>(9,[])
   | some u=>(match s.at x.b with
     | none=>(1,[])
     | some v=>if bdec (u.at 5=v) then (0,[]) else (9,[])))
   else (s.want x.a 3 true,[]))):=QbB hop
 have S0:=Qa (MkS.start x rg ag rc ac hO hJ h);obtain⟨xop,xa,xb,xc,xk,xn,xr,xs⟩:=x
 simp only at hop
 subst hop;clear h;go_enter func73,ntmps73
 go_upto_region 33 with fail
 obtain⟨w2,hw2⟩:∃ w2,(w.alloc (.cells #[.int .i64 7,.int .i64 xa,.int .i64 xb,.int .i64 xc,.int .i64 xk,.int .i64 xn,.slice rg xr.length rc,.slice ag xs.length ac] 59)).alloc (.cells #[.int .i64 1,.int .i64 0,.slice none 0 0] 79)=w2:=⟨_,rfl⟩
 obtain⟨X,hX⟩:∃ X,w.heap.size=X:=⟨_,rfl⟩
 have S2:Hid (MkS w w2 b X O s ⟨7,xa,xb,xc,xk,xn,xr,xs⟩ rg ag rc ac (some ⟨X+1,0,none⟩)):=by rw[← hw2,← hX];exact S0.out
 rw[hw2,hX]
 clear hw2 hX S0;obtain⟨x0,x1,x2,x3,x4,x6,x7⟩:=S2.out.cells
 have hH16:=S2.out.ok.regs;have hL80:=S2.out.ok.vals;go_wp2_with fail
 refine(Q4 xa 3 true S2.out.ok.regs S2.out.ok.vals S2.out.known).mono ?_
 rintro e w3 ⟨rfl,n3,hw3⟩;have S3:Hid (MkS w w3 b X O s ⟨7,xa,xb,xc,xk,xn,xr,xs⟩ rg ag rc ac (some ⟨X+1,0,none⟩)):=S2.out.below (by rw[hw3];exact Qf Zr n3);clear hw3 S2 x0 x1 x2 x3 x4 x6 x7;have S2:=S3;clear S3;obtain⟨x0,x1,x2,x3,x4,x6,x7⟩:=S2.out.cells
 simp only at x0 x1 x2 x3 x4 x6 x7 hk0
 cases hat:s.at xa with
 | none =>
   have hw:s.want xa 3 true=1:=by unfold JSt.want;rw[hat]
   have E2:Hid (s.makes ⟨7,xa,xb,xc,xk,xn,xr,xs⟩=(1,[])):=by
    show _=_;rw[E.out];simp only[hat]
   rw[hw]
   clear E hw hat;go_wp2
   go_ret2;rw[E2.out]
   exact QO.nil S2.out.bel
 | some t =>
   by_cases hw:s.want xa 3 true=0
   ·obtain⟨k,rfl⟩:=Int.eq_ofNat_of_zero_le hk0.1
    obtain⟨-,ha0,hal,hti⟩:=QaE hat
    obtain⟨i,rfl⟩:=Int.eq_ofNat_of_zero_le ha0
    obtain⟨pm,cm,a1,c1,a2,c2,a3,c3,hh,aL,cL,R⟩:=S2.out.known.read
    obtain⟨q0,q1,q2,q3,q4,q5,q6⟩:=R.cells
    obtain⟨gL,va,vc,rfl,v0,v1,v2,v3,hok⟩:=R.row i t (by simpa using hti)
    have HRW:Hid (TRd w3 (fun g=>¬ O g) (some ⟨gL,0,none⟩) s.L):=R.row;clear R q0 q1 q2 q3 q4 q5 v0 v1;have hlen:t.len=t.2.2.length:=rfl
    cases hu:t.2.2[k]? with
    | none =>
      have E2:Hid (s.makes ⟨7,(i:Int),xb,xc,(k:Int),xn,xr,xs⟩=(9,[])):=by
       show _=_;rw[E.out];simp only[hat,if_pos hw,Int.toNat_natCast,hu]
      have hge:(t.len:Int)≤k:=by rw[hlen];have:=List.getElem?_eq_none_iff.1 hu;omega
      rw[hw]
      clear E hw hat hu hlen hti;generalize t.len=tl at v2 hge;generalize hnl:s.L.length=nl at q6 hal hL80;go_wp2_with fail
      go_quiet (fail)
      go_wp2
      go_ret2;rw[E2.out]
      exact QO.nil (Qf S2.out.bel _)
    | some u =>
      have hlt:(k:Int)<t.len:=by rw[hlen];have:=(Zi hu).1;omega
      obtain⟨gk,okk,ua,uc,rfl,-,u0,u1,u2,u3⟩:=v3 k u hu
      have hua:u.ok:=hok.2 u (Zm hu);have HU:Hid (TIn w3 (fun g=>¬ O g) u ua∧u.ok):=⟨u3,hua⟩
      have HCU:Hid ((u.at 5).count≤100000):=by
       have h1:=QZ (S2.out.ok.types t (QaE hat).1);have h2:=t.count_kid (Zm hu);have h3:=TT.at_count 5 u;show _≤_;omega
      have E2:Hid (s.makes ⟨7,(i:Int),xb,xc,(k:Int),xn,xr,xs⟩=(match s.at xb with | none=>(1,[]) | some v=>if bdec (u.at 5=v) then (0,[]) else (9,[]))):=by
       show _=_;rw[E.out];simp only[hat,if_pos hw,Int.toNat_natCast,hu]
      have hge:¬ (t.len:Int)≤k:=by omega
      rw[hw]
      clear E hw hat hu hlen hti v3 hok u3 hua;generalize t.len=tl at v2 hge hlt;generalize hnl:s.L.length=nl at q6 hal hL80;have HNL:Hid (s.L.length=nl):=hnl;clear hnl;go_wp2_with fail
      go_quiet (fail)
      have S4:=Qa (S2.out.below (Qf Zr nq));have b4:Below w3.heap.size w3 (w3.drewN nq):=Qf Zr nq;have HU4:Hid (TIn (w3.drewN nq) (fun g=>¬ O g) u ua∧u.ok):=⟨HU.out.1.below b4,HU.out.2⟩;have HRW4:Hid (TRd (w3.drewN nq) (fun g=>¬ O g) (some ⟨gL,0,none⟩) s.L):=HRW.out.below b4;have q6':=Qi q6 b4;have v2':=Qi v2 b4;have u0':=Qi u0 b4;have u1':=Qi u1 b4;have u2':=Qi u2 b4;clear b4;generalize w3.drewN nq=w4 at S4 HU4 HRW4 q6' v2' u0' u1' u2' ⊢;clear q6 v2 u0 u1 u2 HU HRW S2 x0 x1 x2 x3 x4 x6 x7;have S2:=S4;clear S4;obtain⟨x0,x1,x2,x3,x4,x6,x7⟩:=S2.out.cells
      simp only at x0 x1 x2 x3 x4 x6 x7
      go_upto_region 38 with fail
      refine Qlz S2 q6' v2' u0' u1' u2' hal hlt rfl rfl _ _ rfl (Nat.le_of_ble_eq_true (by kernel_rfl)) rfl rfl ?_;rintro ops vs w5 hv190 ⟨B,hv12,hB,hBb⟩ b5;show wpList _ ops _ [_] (Q5 _ vs [178,179,180,181,182,183,184,185,186,187,188,189,190,12]) w5;simp only[Q5,Act.put,List.setIfInBounds_toArray,List.set_cons_zero,List.set_cons_succ,hv190,hv12]
      have B6:Hid (Blk (((w5.setCell ⟨B,0,none⟩ (.int .i64 u.kind)).setCell ⟨B,1,none⟩ (.int .i64 u.r)).setCell ⟨B,2,none⟩ (.slice ua u.len uc)) B #[.int .i64 u.kind,.int .i64 u.r,.slice ua u.len uc] 79):=Blk.set3 hBb _ _ _
      have b6:Hid (Below w4.heap.size w4 (((w5.setCell ⟨B,0,none⟩ (.int .i64 u.kind)).setCell ⟨B,1,none⟩ (.int .i64 u.r)).setCell ⟨B,2,none⟩ (.slice ua u.len uc))) :=
       ((b5.setCell (p:=⟨B,0,none⟩) hB _).setCell (p:=⟨B,1,none⟩) hB _).setCell (p:=⟨B,2,none⟩) hB _
      have e0:=Qb hBb 0 _ rfl;have e1:=Qb hBb 1 _ rfl;have e2:=Qb hBb 2 _ rfl;have ef:∀ i,w5.frozen? ⟨B,i,none⟩=false:=fun i=>Qp hBb i;clear hBb hB b5 hv190 hv12 q6' v2' u0' u1' u2';go_upto_region 39 with fail
      generalize (((w5.setCell ⟨B,0,none⟩ (.int .i64 u.kind)).setCell ⟨B,1,none⟩ (.int .i64 u.r)).setCell ⟨B,2,none⟩ (.slice ua u.len uc))=w6 at B6 b6 ⊢;have S6:=Qa (S2.out.below b6.out);have HU6:Hid (TIn w6 (fun g=>¬ O g) u ua∧u.ok):=⟨HU4.out.1.below b6.out,HU4.out.2⟩;have HRW6:Hid (TRd w6 (fun g=>¬ O g) (some ⟨gL,0,none⟩) s.L):=HRW4.out.below b6.out;clear S2 HU4 HRW4 e0 e1 e2 ef x0 x1 x2 x3 x4 x6 x7;have S2:=S6;clear S6;obtain⟨x0,x1,x2,x3,x4,x6,x7⟩:=S2.out.cells
      simp only at x0 x1 x2 x3 x4 x6 x7
      have e0:=Qb B6.out 0 _ rfl;have e1:=Qb B6.out 1 _ rfl;have e2:=Qb B6.out 2 _ rfl;have hhu:u.height≤5:=by have h9:u.height<5:=TT.height_lt u;omega
      rw[← TT.at_kind 5 u] at e0
      rw[← TT.at_r 5 u] at e1
      rw[← TT.at_len 5 u hhu] at e2
      have HU5:Hid (TIn w6 (fun g=>¬ O g) (u.at 5) ua):=HU6.out.1.at 5 hhu;have HC5:Hid ((u.at 5).count≤100000):=HCU.out;obtain⟨pm',cm',a1',c1',a2',c2',a3',c3',hh',aL',cL',R'⟩:=S2.out.known.read
      obtain⟨-,-,-,-,-,-,q6⟩:=R'.cells
      have HRW7:Hid (TRd w6 (fun g=>¬ O g) aL' s.L):=R'.row;rw[HNL.out] at q6
      clear R' HU6 HRW6 B6 hhu;generalize u.at 5=u6 at e0 e1 e2 HU5 HC5 E2;by_cases hb0:xb<0
      ·have hb0':decide (xb<0)=true:=decide_eq_true hb0
       have E3:Hid (s.makes ⟨7,(i:Int),xb,xc,(k:Int),xn,xr,xs⟩=(1,[])):=by
        show _=_
        have:s.at xb=none:=by unfold JSt.at;rw[if_pos hb0]
        rw[E2.out,this]
       clear E2 hb0;go_wp2_with fail
       go_quiet (fail)
       go_wp2
       go_ret2;rw[E3.out]
       exact QO.nil (Qf S2.out.bel _)
      obtain⟨j,rfl⟩:=Int.eq_ofNat_of_zero_le (show 0≤xb by omega)
      have hb0':decide ((j:Int)<0)=false:=decide_eq_false (by omega);by_cases hjn:j<nl
      ·have hvj:s.L[j]?=some (s.L[j]'(by rw[HNL.out];exact hjn)):=Zg _;generalize s.L[j]'(by rw[HNL.out];exact hjn)=y at hvj;have hatb:s.at (j:Int)=some y:=by unfold JSt.at;rw[if_neg hb0];exact hvj
       have E3:Hid (s.makes ⟨7,(i:Int),(j:Int),xc,(k:Int),xn,xr,xs⟩=if bdec (u6=y) then (0,[]) else (9,[])):=by
        show _=_;rw[E2.out,hatb]
       obtain⟨gY,ya,yc,rfl,v0,v1,v2,v3,-⟩:=HRW7.out j y hvj
       have hjn':decide ((nl:Int)≤j)=false:=decide_eq_false (by omega);have hjn2:(j:Int)<nl:=by omega
       have HY:Hid (TIn w6 (fun g=>¬ O g) y ya):=v3;clear E2 hb0 hvj hatb v3 HRW7;go_wp2_with fail
       go_quiet (fail)
       have b7:Below w6.heap.size w6 (w6.drewN nq):=Qf Zr nq;have S7:=Qa (S2.out.below b7);have HU7:Hid (TIn (w6.drewN nq) (fun g=>¬ O g) u6 ua):=HU5.out.below b7;have HY7:Hid (TIn (w6.drewN nq) (fun g=>¬ O g) y ya):=HY.out.below b7;have q6':=Qi q6 b7;have e0':=Qi e0 b7;have e1':=Qi e1 b7;have e2':=Qi e2 b7;have v0':=Qi v0 b7;have v1':=Qi v1 b7;have v2':=Qi v2 b7;clear b7 b6;generalize w6.drewN nq=w7 at S7 HU7 HY7 q6' e0' e1' e2' v0' v1' v2' ⊢;clear q6 e0 e1 e2 v0 v1 v2 S2 HU5 HY x0 x1 x2 x3 x4 x6 x7;have HQ:Hid (bdec (u6=y)=true↔u6=y):=Qaf;go_upto_region 43 with fail
       refine Code.wp_mono ?_ (Qmb S7 e0' e1' e2' q6' v0' v1' v2' hjn2 rfl HU7 HY7 HC5 HQ _ _ rfl (Nat.le_of_ble_eq_true (by kernel_rfl)) rfl rfl rfl);rintro ee aa w8 ⟨rfl,vs,rfl,hv,hb8⟩;simp only[Q5,Act.put,List.setIfInBounds_toArray,List.set_cons_zero,List.set_cons_succ,hv]
       have B8:=Qa (S7.out.below hb8).bel;clear hb8 hv HQ;generalize bdec (u6=y)=q at E3 ⊢
       cases q with
       | true =>
         go_wp2
         go_ret2;rw[E3.out]
         exact QO.nil B8.out
       | false =>
         go_wp2
         go_ret2;rw[E3.out]
         exact QO.nil B8.out
      ·have E3:Hid (s.makes ⟨7,(i:Int),(j:Int),xc,(k:Int),xn,xr,xs⟩=(1,[])):=by
        show _=_
        have:s.at (j:Int)=none:=by unfold JSt.at;rw[if_neg hb0,Int.toNat_natCast,List.getElem?_eq_none (by rw[HNL.out];omega)]
        rw[E2.out,this]
       have hjn':decide ((nl:Int)≤j)=true:=decide_eq_true (by omega);clear E2 hb0;go_wp2_with fail
       go_quiet (fail)
       go_wp2
       go_ret2;rw[E3.out]
       exact QO.nil (Qf S2.out.bel _)
   ·have hw':(s.want xa 3 true==0)=false:=beq_eq_false_iff_ne.2 hw
    have E2:Hid (s.makes ⟨7,xa,xb,xc,xk,xn,xr,xs⟩=(s.want xa 3 true,[])):=by
     show _=_;rw[E.out];simp only[hat,if_neg hw]
    have HW:=Qa hw;clear E hat hw;generalize s.want xa 3 true=c at E2 hw' HW ⊢;go_wp2
    go_ret2;rw[E2.out]
    exact QO.nil S2.out.bel
structure Tup (wA wr:World) (B:Nat) (O:Nat→Prop) (r:Int) (v:Value) (l:List (TT 6)):Prop where
 bel:Below wA.heap.size wA wr
 hB:wA.heap.size≤B
 box:Blk wr B #[.int .i64 3,.int .i64 r,v] 79
 row:∃ xs,wr.ownsRow (B+1) 79 3 v l.length xs∧∀ i x,l[i]?=some x→(Lay.tt 6).In wr (fun g=>¬ O g∧g<wA.heap.size) x ((xs.drop (i*3)).take 3)
section
variable {wA wr w':World}{B:Nat}{O:Nat→Prop}{r:Int}{v:Value}{l:List (TT 6)}
theorem Tup.below (h:Tup wA wr B O r v l) (k:Below wr.heap.size wr w'):Tup wA w' B O r v l:=by
 obtain⟨h1,h2,h3,xs,⟨q1,q2⟩,h5⟩:=h
 refine⟨h1.trans (k.mono h1.size),h2,(k.block B (lt_of_block h3)).trans h3,xs,⟨q1,?_⟩,fun i x hx=>Lay.below (h5 i x hx) k⟩
 rcases q2 with h4 | ⟨g,cap,cur,rfl,hg,hh,q⟩
 ·exact Or.inl h4
 ·exact Or.inr ⟨g,cap,cur,rfl,hg,(k.block g (lt_of_block hh)).trans hh,q⟩
theorem Tup.form (h:Tup wA wr B O r v l):∃ a c xs,v=.slice a l.length c∧wr.ownsRow (B+1) 79 3 (.slice a l.length c) l.length xs∧(∀ i x,l[i]?=some x→(Lay.tt 6).In wr (fun g=>¬ O g∧g<wA.heap.size) x ((xs.drop (i*3)).take 3))∧wr.cell? ⟨B,2,none⟩=some (.slice a l.length c):=by
 obtain⟨h1,h2,h3,xs,h4,h5⟩:=h
 obtain⟨q1,q2⟩:=id h4
 rcases q2 with ⟨rfl,h6⟩|⟨g,cap,cur,rfl,hg,hh,q⟩
 ·refine⟨none,0,xs,by rw[h6],by rw[h6] at h4 ⊢;exact h4,h5,?_⟩
  rw[Qb h3 2 _ rfl,h6];rfl
 ·exact⟨some ⟨g,0,none⟩,cap,xs,rfl,h4,h5,Qb h3 2 _ rfl⟩
theorem Tup.tree (h:Tup wA wr B O r v l) (hO:∀ k,O k→k<wA.heap.size):∃ a c,v=.slice a l.length c∧TIn wr (fun g=>¬ O g) (mkT 3 r l:TT 7) a∧∀ x∈l,x.ok:=by
 obtain⟨a,c,xs,rfl,h4,h5,-⟩:=h.form
 refine⟨a,c,rfl,fun i x hx=>?_,fun x hx=>?_⟩
 ·obtain⟨q1,q2⟩:=h4
  have hi:i<l.length:=(Zi hx).1;rcases q2 with ⟨_,h6⟩|⟨g,cap,cur,e,hg,hh,hn,hm,hs,ht⟩
  ·omega
  ·obtain⟨a',c',e',k1,k2⟩:=h5 i x hx
   have hB:=h.hB
   have hc:∀ j u,j<3→((xs.drop (i*3)).take 3)[j]?=some u→wr.cell? ⟨g,i*3+j,none⟩=some u:=fun j u hj hu=>by
    rw[List.getElem?_take,if_pos hj,List.getElem?_drop,← ht,List.getElem?_take,if_pos (by omega),Array.getElem?_toList] at hu
    exact Qb hh _ u hu
   rw[e'] at hc
   simp only[Value.slice.injEq] at e
   refine⟨g,0,a',c',e.1,fun ho=>by have:=hO g ho;omega,?_,?_,?_,k1.mono (fun k hk _=>hk.1)⟩
   ·rw[Nat.zero_add];exact hc 0 _ (by omega) rfl
   ·rw[Nat.zero_add];exact hc 1 _ (by omega) rfl
   ·rw[Nat.zero_add];exact hc 2 _ (by omega) rfl
 ·obtain⟨i,hi⟩:=List.getElem?_of_mem hx
  obtain⟨a',c',e',k1,k2⟩:=h5 i x hi
  exact k2
theorem Tup.push {a:Option Addr}{c g cap:Nat}{xs:List Value}{w9:World}{t:TT 6}{ta:Option Addr}{tc:Nat}(hbel:Below wA.heap.size wA wr) (hB:wA.heap.size≤B) (hbox:Blk wr B #[.int .i64 3,.int .i64 r,.slice a l.length c] 79)
 (hkids:∀ i x,l[i]?=some x→(Lay.tt 6).In wr (fun g=>¬ O g∧g<wA.heap.size) x ((xs.drop (i*3)).take 3)) (hlen:xs.length=l.length*3) (ht:TIn wr (fun g=>¬ O g∧g<wA.heap.size) t ta) (hok:t.ok) (hown:∀ k,(Value.slice a l.length c).ownBlock=some k→B+1≤k)
 (h1:w9.ownsRow (B+1) 79 3 (.slice (some ⟨g,0,none⟩) (l.length+1) cap) (l.length+1) (xs++[.int .i64 t.kind,.int .i64 t.r,.slice ta t.len tc])) (h2:wr.grownBy w9 (Value.slice a l.length c).ownBlock) :
 w9.cell? ⟨B,2,none⟩=some (.slice a l.length c)∧w9.frozen? ⟨B,2,none⟩=false∧Tup wA (w9.setCell ⟨B,2,none⟩ (.slice (some ⟨g,0,none⟩) (l.length+1) cap)) B O r (.slice (some ⟨g,0,none⟩) (l.length+1) cap) (l++[t]):=by
 have hBl:B<wr.heap.size:=lt_of_block hbox;have kb:w9.heap[B]?=some (.cells #[.int .i64 3,.int .i64 r,.slice a l.length c] 79 (0,0)):=(h2.block B hBl (fun e=>by have:=hown B e.symm;omega)).trans hbox
 have keep9:∀ {x:TT 6} {cs:List Value},(Lay.tt 6).In wr (fun g=>¬ O g∧g<wA.heap.size) x cs→(Lay.tt 6).In (w9.setCell ⟨B,2,none⟩ (.slice (some ⟨g,0,none⟩) (l.length+1) cap)) (fun g=>¬ O g∧g<wA.heap.size) x cs:=fun {x cs} hx =>
  (Lay.tt 6).keep (fun k hk hl=>(Below.heap_setCell _ _ _ _ (show k≠B by have:=hk.2;omega)).trans (h2.block k hl (fun e=>by have:=hown k e.symm;have:=hk.2;omega))) (fun _ hk _=>hk) hx
 refine⟨Qb kb 2 _ rfl,Qp kb 2,?_,hB,?_,xs++[.int .i64 t.kind,.int .i64 t.r,.slice ta t.len tc],?_,?_⟩
 ·refine⟨h2.os.trans hbel.os,h2.tape.trans hbel.tape,h2.output.trans hbel.output,by have:=h2.size;have:=hbel.size;simp;omega,fun k hk=>?_⟩
  have hbs:=hbel.size;rw[Below.heap_setCell _ _ _ _ (show k≠B by omega),h2.block k (by omega) (fun e=>by have:=hown k e.symm;omega)]
  exact hbel.block k hk
 ·show (w9.setCell ⟨B,2,none⟩ _).heap[B]?=_;rw[Qo kb];rfl
 ·obtain⟨q1,q2⟩:=h1
  rw[List.length_append]
  refine⟨q1,?_⟩
  rcases q2 with ⟨e,_⟩|⟨g',cap',cur,e,hg,hh,q⟩
  ·cases e
  ·cases e
   exact Or.inr ⟨g,cap,cur,rfl,hg,(Below.heap_setCell _ _ _ _ (show g≠B by omega)).trans hh,q⟩
 ·intro i x hx;rw[List.getElem?_append] at hx
  split at hx
  ·rename_i hi
   rw[List.drop_append_of_le_length (by omega),List.take_append_of_le_length (by simp;omega)]
   exact keep9 (hkids i x hx)
  ·rename_i hi
   have hil:=(Zi hx).1;have hi2:i=l.length:=by simp at hil;omega
   subst hi2;rw[Nat.sub_self] at hx
   have hx:t=x:=by simpa using hx
   subst hx;rw[List.drop_append,List.drop_of_length_le (by omega),hlen,Nat.sub_self,List.drop_zero,List.nil_append]
   exact keep9 ⟨ta,tc,rfl,ht,hok⟩
end
theorem QcO {s:JSt}{l:List Int}{k:Nat}{x:Int}(hx:l[k]?=some x):s.fields (l.drop k)=match s.at x with
 | none=>none
 | some t=>match s.fields (l.drop (k+1)) with
   | none=>none
   | some r=>some (t::r):=by
 obtain⟨hk,e⟩:=Zi hx
 rw[List.drop_eq_getElem_cons hk,e,JSt.fields]
 cases s.at x with
 | none=>rfl
 | some t=>cases s.fields (l.drop (k+1))<;>rfl
theorem Qb7 {s:JSt}{l:List Int}:∀ (k:Nat) (ts:List (TT 6)),k≤l.length→ts.length=k→(∀ (i:Nat) (x:Int),l[i]?=some x→i<k→s.at x=ts[i]?)→s.fields l=(s.fields (l.drop k)).map (ts++·)
 | 0,ts,_,h,_=>by
   have:ts=[]:=List.length_eq_zero_iff.1 h
   subst this;simp
 | k+1,ts,hk,h,hs=>by
   have hk':k<l.length:=by omega
   have hx:l[k]?=some l[k]:=Zg hk';have ht:ts[k]?=some (ts[k]'(by omega)):=Zg _;have ih:=Qb7 (s:=s) (l:=l) k (ts.take k) (by omega) (by rw[List.length_take];omega) (fun i x hi hik=>by rw[hs i x hi (by omega),List.getElem?_take,if_pos hik]);rw[ih,QcO hx,hs k _ hx (by omega),ht]
   simp only
   cases s.fields (l.drop (k+1)) with
   | none=>rfl
   | some r =>
     simp only[Option.map_some]
     congr 1
     have:ts=ts.take k++[ts[k]'(by omega)]:=by
      have h1:=List.take_append_drop k ts;rw[List.drop_eq_getElem_cons (by omega),List.drop_of_length_le (by omega)] at h1
      exact h1.symm
     rw[← List.singleton_append,← List.append_assoc,← this]
def Qkv (w2:World) (b X gL nl cL i:Nat) (r:Int) (t:Tmp) (v:Value) (w:World):Prop :=
 match ([(9,fun v w=>∃ B,v=.pointer (some ⟨B,0,none⟩)∧w2.heap.size≤B∧Blk w B #[.int .i64 0,.int .i64 0,.slice none 0 0] 79)]:List (Tmp × (Value→World→Prop))).lookup t with
 | some p=>p v w
 | none=>v=(([(0,.pointer (some ⟨b,0,none⟩)),(3,.pointer (some ⟨X,0,none⟩)),(98,.pointer (some ⟨b,0,none⟩)),(99,.pointer (some ⟨b,0,none⟩)),(100,.pointer (some ⟨b,6,none⟩)),(101,.slice (some ⟨gL,0,none⟩) nl cL),(102,.pointer (some ⟨X,1,none⟩)),(103,.int .i64 (i:Int)),(104,.pointer (some ⟨gL,i*3,none⟩)),(105,.pointer (some ⟨gL,i*3+1,none⟩)),(106,.int .i64 r),(107,.agg #[.int .i64 3,.int .i64 r,.slice none 0 0])]:List (Tmp × Value)).lookup t).getD undef
theorem QlS {w w2:World}{b X:Nat}{O:Nat→Prop}{s:JSt}{x:Qy}{rg ag:Option Addr}{rc ac:Nat}{na:Option Addr}(HS:Hid (MkS w w2 b X O s x rg ag rc ac na)){gL nl cL i:Nat}{r:Int}(y0:w2.cell? ⟨b,6,none⟩=some (.slice (some ⟨gL,0,none⟩) nl cL)) (v1:w2.cell? ⟨gL,i*3+1,none⟩=some (.int .i64 r)) (hin:(i:Int)<nl) (hxa:x.a=(i:Int)){Q:Exit→Act→World→Prop}
 (a:Act) (m:Nat) (hn:a.tmps.size=m) (hn':365≤m) (h0:a.tmps.getD 0 undef=.pointer (some ⟨b,0,none⟩)) (h3:a.tmps.getD 3 undef=.pointer (some ⟨X,0,none⟩))
 (hend:∀ ops vs w',vs 107=.agg #[.int .i64 3,.int .i64 r,.slice none 0 0]→(fun v w=>∃ B,v=.pointer (some ⟨B,0,none⟩)∧w2.heap.size≤B∧Blk w B #[.int .i64 0,.int .i64 0,.slice none 0 0] 79) (vs 9) w'→Below w2.heap.size w2 w'→wpList prog ops Q (QcP 11 ((Tryz.f73.body.bind (Qj 21)).getD .skip)) (Q5 a vs [98,99,100,101,102,103,104,105,106,107,9]) w') :
 Code.wp prog ((Tryz.f73.body.bind (Qj 21)).getD .skip) Q a w2:=by
 conv=>arg 2;whnf
 refine Qq 11 (Qkv w2 b X gL nl cL i r) (fun w=>Below w2.heap.size w2 w) (fun w w'=>Below w.heap.size w w') (outs:=[0,3]) (gs:=[]) (bs:=[true,true,true,true,true,true,true,true,true,true,true]) (by kernel_rfl) (n:=365) hn hn' (by kernel_rfl) (by kernel_rfl) ?hR ?hG (Qf Zr 1) ⟨h0,h3,trivial⟩ ?hA ?hend
 case hR =>
  intro t v w w' hr h;unfold Qkv at h ⊢;split at h
  ·rename_i p hp
   simp only[List.lookup_cons,List.lookup_nil] at hp
   split at hp
   ·cases hp;exact(by obtain⟨B,e,h1,h2⟩:=h;exact⟨B,e,h1,(hr.block B (lt_of_block h2)).trans h2⟩)
   ·cases hp
  ·exact h
 case hG=>exact trivial
 case hend=>exact fun ops vs w' hW hk=>hend ops vs w' (hk 107 (by kernel_rfl)) (hk 9 (by kernel_rfl)) hW
 case hA =>
  iterate 5
   refine⟨fun a w hW hk K hK=>?_,?_⟩
   ·obtain⟨k0,-⟩:=hk
    conv at k0=>whnf;rhs;whnf
    have u0:=Qi y0 hW;go_simp;exact hK _ _ Zr hW rfl
  refine⟨fun a w hW hk K hK=>?_,?_⟩
  ·obtain⟨k0,-⟩:=hk
   conv at k0=>whnf;rhs;whnf
   have c0:=(HS.out.below hW).cells.2.1;rw[hxa] at c0
   go_simp;exact hK _ _ Zr hW rfl
  refine⟨fun a w hW hk K hK=>?_,?_⟩
  ·obtain⟨k0,k1,-⟩:=hk
   conv at k0=>whnf;rhs;whnf
   conv at k1=>whnf;rhs;whnf
   go_simp;exact hK _ _ Zr hW rfl
  iterate 2
   refine⟨fun a w hW hk K hK=>?_,?_⟩
   ·obtain⟨k0,-⟩:=hk
    conv at k0=>whnf;rhs;whnf
    have u0:=Qi v1 hW;go_simp;exact hK _ _ Zr hW rfl
  refine⟨fun a w hW hk K hK=>?_,?_⟩
  ·obtain⟨k0,-⟩:=hk
   conv at k0=>whnf;rhs;whnf
   simp only[Za] at k0
   go_simp;exact hK _ _ Zr hW rfl
  refine⟨fun a w hW hk K hK=>?_,?_⟩
  ·clear hk;go_simp;exact hK _ _ (QN _ _) (hW.alloc hW.size _) ⟨_,rfl,hW.size,Qe _ _ _⟩
  trivial
def Qkz (w2:World) (b X B tn tc gL nl cL lg lo N lc k j uc:Nat) (u:TT 6) (ta ua:Option Addr) (t:Tmp) (v:Value) (w:World):Prop :=
 match ([(147,fun v w=>∃ G,v=.slice (some ⟨G,0,none⟩) 1 1∧w2.heap.size≤G∧Blk w G #[.int .i64 u.kind,.int .i64 u.r,.slice ua u.len uc] 79)]:List (Tmp × (Value→World→Prop))).lookup t with
 | some p=>p v w
 | none=>v=(([(0,.pointer (some ⟨b,0,none⟩)),(3,.pointer (some ⟨X,0,none⟩)),(9,.pointer (some ⟨B,0,none⟩)),(10,.int .i64 (k:Int)),(134,.pointer (some ⟨B,2,none⟩)),(135,.slice ta tn tc),(136,.pointer (some ⟨b,0,none⟩)),(137,.pointer (some ⟨b,0,none⟩)),(138,.pointer (some ⟨b,6,none⟩)),(139,.slice (some ⟨gL,0,none⟩) nl cL),(140,.pointer (some ⟨X,7,none⟩)),(141,.slice (some ⟨lg,lo,none⟩) N lc),(142,.int .i64 (k:Int)),(143,.pointer (some ⟨lg,lo+k,none⟩)),(144,.int .i64 (j:Int)),(145,.pointer (some ⟨gL,j*3,none⟩)),(146,.agg #[.int .i64 u.kind,.int .i64 u.r,.slice ua u.len uc])]:List (Tmp × Value)).lookup t).getD undef
theorem QlZ {w2:World}{b X B tn tc gL nl cL lg lo N lc k j uc:Nat}{u:TT 6}{ta ua:Option Addr}(t2:w2.cell? ⟨B,2,none⟩=some (.slice ta tn tc)) (y0:w2.cell? ⟨b,6,none⟩=some (.slice (some ⟨gL,0,none⟩) nl cL)) (l7:w2.cell? ⟨X,7,none⟩=some (.slice (some ⟨lg,lo,none⟩) N lc)) (z0:w2.cell? ⟨lg,lo+k,none⟩=some (.int .i64 (j:Int))) (v0:w2.cell? ⟨gL,j*3,none⟩=some (.int .i64 u.kind)) (v1:w2.cell? ⟨gL,j*3+1,none⟩=some (.int .i64 u.r)) (v2:w2.cell? ⟨gL,j*3+2,none⟩=some (.slice ua u.len uc)) (hkN:(k:Int)<N) (hjn:(j:Int)<nl){Q:Exit→Act→World→Prop}
 (a:Act) (m:Nat) (hn:a.tmps.size=m) (hn':365≤m) (h0:a.tmps.getD 0 undef=.pointer (some ⟨b,0,none⟩)) (h3:a.tmps.getD 3 undef=.pointer (some ⟨X,0,none⟩)) (h9:a.tmps.getD 9 undef=.pointer (some ⟨B,0,none⟩)) (h10:a.tmps.getD 10 undef=.int .i64 (k:Int))
 (hend:∀ ops vs w',vs 135=.slice ta tn tc→(fun v w=>∃ G,v=.slice (some ⟨G,0,none⟩) 1 1∧w2.heap.size≤G∧Blk w G #[.int .i64 u.kind,.int .i64 u.r,.slice ua u.len uc] 79) (vs 147) w'→Below w2.heap.size w2 w'→wpList prog ops Q (QcP 14 ((Tryz.f73.body.bind (Qj 27)).getD .skip)) (Q5 a vs [134,135,136,137,138,139,140,141,142,143,144,145,146,147]) w') :
 Code.wp prog ((Tryz.f73.body.bind (Qj 27)).getD .skip) Q a w2:=by
 conv=>arg 2;whnf
 refine Qq 14 (Qkz w2 b X B tn tc gL nl cL lg lo N lc k j uc u ta ua) (fun w=>Below w2.heap.size w2 w) (fun w w'=>Below w.heap.size w w') (outs:=[0,3,9,10]) (gs:=[]) (bs:=[true,true,true,true,true,true,true,true,true,true,true,true,true,true]) (by kernel_rfl) (n:=365) hn hn' (by kernel_rfl) (by kernel_rfl) ?hR ?hG (Qf Zr 1) ⟨h0,h3,h9,h10,trivial⟩ ?hA ?hend
 case hR =>
  intro t v w w' hr h;unfold Qkz at h ⊢;split at h
  ·rename_i p hp
   simp only[List.lookup_cons,List.lookup_nil] at hp
   split at hp
   ·cases hp;exact(by obtain⟨G,e,h1,h2⟩:=h;exact⟨G,e,h1,(hr.block G (lt_of_block h2)).trans h2⟩)
   ·cases hp
  ·exact h
 case hG=>exact trivial
 case hend=>exact fun ops vs w' hW hk=>hend ops vs w' (hk 135 (by kernel_rfl)) (hk 147 (by kernel_rfl)) hW
 case hA =>
  iterate 9
   refine⟨fun a w hW hk K hK=>?_,?_⟩
   ·obtain⟨k0,-⟩:=hk
    conv at k0=>whnf;rhs;whnf
    have u0:=Qi t2 hW;have u1:=Qi y0 hW;have u2:=Qi l7 hW;go_simp;exact hK _ _ Zr hW rfl
  refine⟨fun a w hW hk K hK=>?_,?_⟩
  ·obtain⟨k0,k1,-⟩:=hk
   conv at k0=>whnf;rhs;whnf
   conv at k1=>whnf;rhs;whnf
   go_simp;exact hK _ _ Zr hW rfl
  refine⟨fun a w hW hk K hK=>?_,?_⟩
  ·obtain⟨k0,-⟩:=hk
   conv at k0=>whnf;rhs;whnf
   have u0:=Qi z0 hW;go_simp;exact hK _ _ Zr hW rfl
  refine⟨fun a w hW hk K hK=>?_,?_⟩
  ·obtain⟨k0,k1,-⟩:=hk
   conv at k0=>whnf;rhs;whnf
   conv at k1=>whnf;rhs;whnf
   go_simp;exact hK _ _ Zr hW rfl
  refine⟨fun a w hW hk K hK=>?_,?_⟩
  ·obtain⟨k0,-⟩:=hk
   conv at k0=>whnf;rhs;whnf
   have u0:=Qi v0 hW;have u1:=Qi v1 hW;have u2:=Qi v2 hW;go_simp;exact hK _ _ Zr hW rfl
  refine⟨fun a w hW hk K hK=>?_,?_⟩
  ·obtain⟨k0,-⟩:=hk
   conv at k0=>whnf;rhs;whnf
   simp only[Za] at k0
   go_simp;exact hK _ _ (QN _ _) (hW.alloc hW.size _) ⟨_,rfl,hW.size,Qe _ _ _⟩
  trivial
theorem Qee {w:World}{b:Nat}{O:Nat→Prop}{s:JSt}{x:Qy}{rg ag:Option Addr}{rc ac:Nat}(hO:∀ k,O k→k<w.heap.size) (hJ:JOk s) (h:KAt w b O s){QA:Nat→Prop}(hargs:intsL.In w QA x.args [.slice ag x.args.length ac]) (hal8:x.args.length≤8) (hop:x.op=5) :
 Calls prog 73 #[.pointer (some ⟨b,0,none⟩),QaR x rg ag rc ac] w fun e w'=>QO w O (s.makes x).1 (s.makes x).2 e w':=by
 have HARGS:=Qa hargs;clear hargs
 have E:Hid (s.makes x=(match s.at x.a with
  | none=>(1,[])
  | some t=>if s.want x.a 2 true=0 then (match s.fields x.args with
   | none=>(1,[])
   | some l=>if 4<TT.height (n:=7) (mkT 3 t.r l) then (19,[]) else (0,[TT.at (n:=7) 5 (mkT 3 t.r l)]))
   else (s.want x.a 2 true,[]))):=QaT hop
 have S0:=Qa (MkS.start x rg ag rc ac hO hJ h);obtain⟨xop,xa,xb,xc,xk,xn,xr,xs⟩:=x
 simp only at hop
 subst hop;clear h;go_enter func73,ntmps73
 go_upto_region 18 with fail
 obtain⟨w2,hw2⟩:∃ w2,(w.alloc (.cells #[.int .i64 5,.int .i64 xa,.int .i64 xb,.int .i64 xc,.int .i64 xk,.int .i64 xn,.slice rg xr.length rc,.slice ag xs.length ac] 59)).alloc (.cells #[.int .i64 1,.int .i64 0,.slice none 0 0] 79)=w2:=⟨_,rfl⟩
 obtain⟨X,hX⟩:∃ X,w.heap.size=X:=⟨_,rfl⟩
 have S2:Hid (MkS w w2 b X O s ⟨5,xa,xb,xc,xk,xn,xr,xs⟩ rg ag rc ac (some ⟨X+1,0,none⟩)):=by rw[← hw2,← hX];exact S0.out
 rw[hw2,hX]
 clear hw2 hX S0;obtain⟨x0,x1,x2,x3,x4,x6,x7⟩:=S2.out.cells
 have hH16:=S2.out.ok.regs;have hL80:=S2.out.ok.vals;simp only at x0 x1 x2 x3 x4 x6 x7 hal8
 have HA2:Hid (intsL.In w2 QA xs [.slice ag xs.length ac]):=Lay.below HARGS.out S2.out.bel;clear HARGS;go_wp2_with fail
 refine(Q4 xa 2 true S2.out.ok.regs S2.out.ok.vals S2.out.known).mono ?_
 rintro e w3 ⟨rfl,n3,hw3⟩;have hb3:Below w2.heap.size w2 w3:=by rw[hw3];exact Qf Zr n3
 have S3:Hid (MkS w w3 b X O s ⟨5,xa,xb,xc,xk,xn,xr,xs⟩ rg ag rc ac (some ⟨X+1,0,none⟩)):=S2.out.below hb3;have HA:Hid (intsL.In w3 QA xs [.slice ag xs.length ac]):=Lay.below HA2.out hb3;clear hw3 hb3 S2 HA2 x0 x1 x2 x3 x4 x6 x7;have S2:=S3;clear S3
 cases hat:s.at xa with
 | none =>
   have hw:s.want xa 2 true=1:=by unfold JSt.want;rw[hat]
   have E2:Hid (s.makes ⟨5,xa,xb,xc,xk,xn,xr,xs⟩=(1,[])):=by
    show _=_;rw[E.out];simp only[hat]
   rw[hw]
   clear E hw hat;go_wp2
   go_ret2;rw[E2.out]
   exact QO.nil S2.out.bel
 | some t =>
   by_cases hw:s.want xa 2 true=0
   ·obtain⟨-,ha0,hal,hti⟩:=QaE hat
    obtain⟨i,rfl⟩:=Int.eq_ofNat_of_zero_le ha0
    obtain⟨pm,cm,a1,c1,a2,c2,a3,c3,hh,aL,cL,R⟩:=S2.out.known.read
    obtain⟨-,-,-,-,-,-,q6⟩:=R.cells
    obtain⟨gL,va,vc,rfl,-,v1,-,-,hok⟩:=R.row i t (by simpa using hti)
    have HRW:Hid (TRd w3 (fun g=>¬ O g) (some ⟨gL,0,none⟩) s.L):=R.row;have HTR:Hid (-9223372036854775808≤t.r∧t.r≤9223372036854775807):=hok.1
    have E2:Hid (s.makes ⟨5,(i:Int),xb,xc,xk,xn,xr,xs⟩=(match s.fields xs with | none=>(1,[]) | some l=>if 4<TT.height (n:=7) (mkT 3 t.r l) then (19,[]) else (0,[TT.at (n:=7) 5 (mkT 3 t.r l)]))):=by
     show _=_;rw[E.out];simp only[hat,if_pos hw]
    rw[hw]
    clear E hw hat hti R hok;generalize hnl:s.L.length=nl at q6 hal hL80;have HNL:Hid (s.L.length=nl):=hnl;generalize t.r=r at v1 E2 HTR;clear hnl;go_upto_region 21 with fail
    refine QlS S2 q6 v1 hal rfl _ _ rfl (Nat.le_of_ble_eq_true (by kernel_rfl)) rfl rfl ?_;rintro ops vs w5 hv107 ⟨B,hv9,hB,hBb⟩ b5;show wpList _ ops _ [_] (Q5 _ vs [98,99,100,101,102,103,104,105,106,107,9]) w5;simp only[Q5,Act.put,List.setIfInBounds_toArray,List.set_cons_zero,List.set_cons_succ,hv107,hv9]
    have T6:Hid (Tup w3 (((w5.setCell ⟨B,0,none⟩ (.int .i64 3)).setCell ⟨B,1,none⟩ (.int .i64 r)).setCell ⟨B,2,none⟩ (.slice none 0 0)) B O r (.slice none 0 0) []) :=
     ⟨((b5.setCell (p:=⟨B,0,none⟩) hB _).setCell (p:=⟨B,1,none⟩) hB _).setCell (p:=⟨B,2,none⟩) hB _,hB,Blk.set3 hBb _ _ _,[],⟨rfl,Or.inl ⟨rfl,rfl⟩⟩,fun i x hx=>by simp at hx⟩
    have e0:=Qb hBb 0 _ rfl;have e1:=Qb hBb 1 _ rfl;have e2:=Qb hBb 2 _ rfl;have ef:∀ i,w5.frozen? ⟨B,i,none⟩=false:=fun i=>Qp hBb i;clear hBb hB b5 hv107 hv9 v1;go_upto_region 22 with fail
    generalize (((w5.setCell ⟨B,0,none⟩ (.int .i64 3)).setCell ⟨B,1,none⟩ (.int .i64 r)).setCell ⟨B,2,none⟩ (.slice none 0 0))=w6 at T6 ⊢;clear e0 e1 e2 ef;have HXL:Hid (xs.length≤8):=hal8;go_wp2_with fail
    go_loopw [10] (fun u wr=>∃ k v l,u=.int .i64 (k:Nat)∧k≤xs.length∧Tup w3 wr B O r v l∧l.length=k∧∀ (i:Nat) (x:Int),xs[i]?=some x→i<k→s.at x=l[i]?) (fun u _=>xs.length - (intOf u).toNat)
    case atStart=>exact⟨0,_,[],rfl,Nat.zero_le _,T6.out,rfl,fun i x _ h=>by omega⟩
    case round =>
     obtain⟨k,v,l,rfl,hk,hT,hl,hat⟩:=hrel
     have HT:Hid (Tup w3 wr B O r v l):=hT;have HLK:Hid (l.length=k):=hl;have HAT:=Qa hat;have S7:=Qa (S2.out.below hT.bel);have q6':=Qi q6 hT.bel;have HRW7:Hid (TRd wr (fun g=>¬ O g) (some ⟨gL,0,none⟩) s.L):=HRW.out.below hT.bel;have HA7:Hid (intsL.In wr QA xs [.slice ag xs.length ac]):=Lay.below HA.out hT.bel;have HSZ:Hid (w3.heap.size≤wr.heap.size):=hT.bel.size;clear hT hl hat T6;obtain⟨x0,x1,x2,x3,x4,x6,x7⟩:=S7.out.cells
     simp only at x0 x1 x2 x3 x4 x6 x7
     by_cases hlt:k<xs.length
     ·have hxi:xs[k]?=some xs[k]:=Zg hlt;obtain⟨lg,lo,rfl,-,-,z0⟩:=ZC HA7.out hlt
      have ex:xs.getD k 0=xs[k]:=by simp[List.getD,hlt]
      rw[ex] at z0
      generalize xs[k]=y at hxi z0;have hkN:(k:Int)<xs.length:=by omega
      have hk0:(0:Int)≤k:=by omega
      have HF:=Qa (Qb7 (s:=s) (l:=xs) k l hk HLK.out HAT.out);have HST:=Qa (QcO (s:=s) hxi);clear ex;by_cases hy0:y<0
      ·have hy0':decide (y<0)=true:=decide_eq_true hy0
       have E3:Hid (s.makes ⟨5,(i:Int),xb,xc,xk,xn,xr,xs⟩=(1,[])):=by
        show _=_;have ha:s.at y=none:=by unfold JSt.at;rw[if_pos hy0]
        rw[E2.out,HF.out,HST.out,ha];rfl
       have HBL:=Qa (S2.out.bel.trans (HT.out.bel.mono S2.out.bel.size));clear E2 hy0 hxi HF HST;generalize xs.length=N at x7 hkN hlt hk hal8;go_wp2_with fail
       go_quiet (fail)
       go_wp2
       go_ret2;rw[E3.out]
       exact QO.nil (Qf HBL.out _)
      obtain⟨j,rfl⟩:=Int.eq_ofNat_of_zero_le (show 0≤y by omega)
      have hy0':decide ((j:Int)<0)=false:=decide_eq_false (by omega);by_cases hjn:j<nl
      ·have hvj:s.L[j]?=some (s.L[j]'(by rw[HNL.out];exact hjn)):=Zg _;generalize s.L[j]'(by rw[HNL.out];exact hjn)=u at hvj;have hatb:s.at (j:Int)=some u:=by unfold JSt.at;rw[if_neg hy0];exact hvj
       obtain⟨gY,ua,uc,eY,v0,v1,v2,v3,huok⟩:=HRW7.out j u hvj
       cases eY
       have HUA:Hid (∃ ua' uc',wr.cell? ⟨gL,j*3+2,none⟩=some (.slice ua' u.len uc')∧TIn w3 (fun g=>¬ O g) u ua'∧u.ok):=by
        obtain⟨gZ,za,zc,eZ,z0',z1',z2',z3',z4'⟩:=HRW.out j u hvj
        cases eZ
        exact⟨za,zc,Qi z2' HT.out.bel,z3',z4'⟩
       have hjn':decide ((nl:Int)≤j)=false:=decide_eq_false (by omega);have hjn2:(j:Int)<nl:=by omega
       have HAT2:Hid (∀ (i:Nat) (x:Int),xs[i]?=some x→i<k+1→s.at x=(l++[u])[i]?):=by
        intro i x hi hik;by_cases e:i=k
        ·subst e;rw[hxi] at hi
         cases hi
         rw[List.getElem?_append_right (by rw[HLK.out];omega),HLK.out,Nat.sub_self]
         exact hatb
        ·rw[List.getElem?_append_left (by rw[HLK.out];omega)]
         exact HAT.out i x hi (by omega)
       have HOK:Hid (u.ok):=huok;clear hy0 hxi hatb HF HST v3 huok HAT hvj;obtain⟨ta,tc,txs,rfl,hown0,hkids,t2⟩:=HT.out.form
       have hbox:=HT.out.box;have HBX:=Qa hbox;have HKD:=Qa hkids;have HOW:=Qa hown0;have HBS:Hid (w3.heap.size≤B):=HT.out.hB;have HBL7:Hid (Below w3.heap.size w3 wr):=HT.out.bel;rw[HLK.out] at t2
       clear hbox hkids hown0 HBX HKD HOW;have HXLN:Hid (xs.length=xs.length):=rfl;generalize hNN:xs.length=N at x7 hkN hlt hk hal8;have HNN:Hid (xs.length=N):=hNN;clear hNN HXLN;go_wp2_with fail
       go_quiet (fail)
       have b8:Below wr.heap.size wr (wr.drewN nq):=Qf Zr nq;have t2':=Qi t2 b8;have q6b:=Qi q6' b8;have x7b:=Qi x7 b8;have z0b:=Qi z0 b8;have v0b:=Qi v0 b8;have v1b:=Qi v1 b8;have v2b:=Qi v2 b8;have HB8:=Qa b8;clear b8;go_upto_region 27 with fail
       refine QlZ t2' q6b x7b z0b v0b v1b v2b hkN hjn2 _ _ rfl (Nat.le_of_ble_eq_true (by kernel_rfl)) rfl rfl rfl rfl ?_;rintro ops vs w9 hv135 ⟨G,hv147,hG,hGb⟩ b9;show wpList _ ops _ [_,_,_] (Q5 _ vs [134,135,136,137,138,139,140,141,142,143,144,145,146,147]) w9;simp only[Q5,Act.put,List.setIfInBounds_toArray,List.set_cons_zero,List.set_cons_succ,hv135,hv147]
       have hb9:Below wr.heap.size wr w9:=HB8.out.trans (b9.mono HB8.out.size);obtain⟨ta',tc',txs9,e9,hown9,hkids9,t29⟩:=(HT.out.below hb9).form
       cases e9
       have hbox9:=(HT.out.below hb9).box;have hbel9:=(HT.out.below hb9).bel;obtain⟨ua',uc',hcell,hT3,-⟩:=HUA.out
       rw[v2] at hcell
       cases hcell
       have PU:Hid (∀ g cap w10,w10.ownsRow (B+1) 79 3 (.slice (some ⟨g,0,none⟩) (k+1) cap) (k+1) (txs9++[.int .i64 u.kind,.int .i64 u.r,.slice ua u.len uc])→w9.grownBy w10 (Value.slice ta k tc).ownBlock →
        w10.cell? ⟨B,2,none⟩=some (.slice ta k tc)∧w10.frozen? ⟨B,2,none⟩=false∧Tup w3 (w10.setCell ⟨B,2,none⟩ (.slice (some ⟨g,0,none⟩) (k+1) cap)) B O r (.slice (some ⟨g,0,none⟩) (k+1) cap) (l++[u])):=by
        intro g cap w10 p1 p2;rw[← HLK.out] at p1 p2 ⊢
        refine Tup.push hbel9 HBS.out hbox9 hkids9 hown9.1 ?_ HOK.out ?_ p1 p2
        ·exact(hT3.mono (O':=fun g=>¬ O g∧g<w3.heap.size) (fun k hk hl=>⟨hk,hl⟩)).keep (fun k hk _=>hbel9.block k hk.2) (fun _ hk _=>hk)
        ·intro k' hk';obtain⟨-,q2⟩:=hown9
         rcases q2 with ⟨e,_⟩|⟨g',cap',cur,e,hg',hh',q⟩
         ·rw[e] at hk';simp[Value.ownBlock] at hk'
         ·rw[e] at hk'
          simp[Value.ownBlock] at hk'
          omega
       have HOWN:Hid (w9.ownsRow (B+1) 79 3 (.slice ta k tc) k txs9):=by rw[HLK.out] at hown9;exact hown9
       have HNEWS:Hid (∀ (j:Nat) (v:Value),[Value.int .i64 u.kind,.int .i64 u.r,.slice ua u.len uc][j]?=some v→w9.cell? ((⟨G,0,none⟩:Addr).add j)=some v):=by
        intro j v hv;rw[Go.WideShapes.add_plain,Nat.zero_add]
        exact Qb hGb j v (by simpa using hv)
       have HBASE:Hid (B+1≤w9.heap.size):=by show _≤_;have:=lt_of_block hbox9;omega
       have HXK:Hid (xs.length - (k+1)<xs.length - k):=by show _<_;rw[HNN.out];omega
       obtain⟨i0,hi,hz0,hz1,hz2⟩:=pInfoT
       clear hown9 hkids9 t29 hbox9 hbel9 hT3 hGb hG b9 hb9 hv135 hv147 t2 t2' q6' q6b x7 x7b z0 z0b v0 v0b v1 v1b v2 v2b HT;go_wp2_with (at_builtin;refine wpList_append_lies _ rfl (.tmp 135) (.tmp 147) 52 rfl (B+1) 79 i0 (.agg #[.int .i64 0,.int .i64 0,.slice none 0 0]) 3 40 pUnderT hi hz0 hz1 hz2 rfl (by decide) _ _ _ rfl HOWN.out ⟨G,0,none⟩ 1 1 [.int .i64 u.kind,.int .i64 u.r,.slice ua u.len uc] rfl rfl HNEWS.out (Qes _ _ _ _ _) (by decide) (by unfold maxLen;omega) (by omega) HBASE.out w9.heap.size rfl ?_)
       intro g2 cap2 w10 p1 p2 p3 p4;obtain⟨c10,f10,T10⟩:=PU.out g2 cap2 w10 p1 p2
       have HT10:=Qa T10;clear p1 p2 p3 p4 T10 PU HOWN HNEWS HBASE;go_wp2
       go_roundw
       case rel=>exact⟨k+1,_,l++[u],by go_num,by first | omega | (rw[HNN.out];omega),HT10.out,by rw[List.length_append,HLK.out];rfl,HAT2.out⟩
       case measure=>simp only[intOf];have:=HXK.out;omega
      ·have E3:Hid (s.makes ⟨5,(i:Int),xb,xc,xk,xn,xr,xs⟩=(1,[])):=by
        show _=_;have ha:s.at (j:Int)=none:=by unfold JSt.at;rw[if_neg hy0,Int.toNat_natCast,List.getElem?_eq_none (by rw[HNL.out];omega)]
        rw[E2.out,HF.out,HST.out,ha];rfl
       have HBL:=Qa (S2.out.bel.trans (HT.out.bel.mono S2.out.bel.size));have hjn':decide ((nl:Int)≤j)=true:=decide_eq_true (by omega);clear E2 hy0 hxi HF HST;generalize xs.length=N at x7 hkN hlt hk hal8;go_wp2_with fail
       go_quiet (fail)
       go_wp2
       go_ret2;rw[E3.out]
       exact QO.nil (Qf HBL.out _)
     ·have hkx:k=xs.length:=by omega
      have hF:s.fields xs=some l:=by
       rw[Qb7 (s:=s) (l:=xs) k l hk HLK.out HAT.out,List.drop_of_length_le (by omega),JSt.fields]
       simp
      obtain⟨hfl,hfm⟩:=Qal hF
      have hcnt:TT.count (n:=7) (mkT 3 r l)≤100000:=by
       have h1:=sum_le_mul (l.map TT.count) 4681 (fun c hc=>by
        obtain⟨z,hz,rfl⟩:=List.mem_map.1 hc
        exact QZ (S2.out.ok.types z (hfm z hz)))
       rw[List.length_map] at h1
       show 1+(l.map TT.count).sum≤100000;have h2:l.length*4681≤8*4681:=Nat.mul_le_mul_right _ (by rw[hfl];exact HXL.out);omega
      have E3:Hid (s.makes ⟨5,(i:Int),xb,xc,xk,xn,xr,xs⟩=if 4<TT.height (n:=7) (mkT 3 r l) then (19,[]) else (0,[TT.at (n:=7) 5 (mkT 3 r l)])):=by
       show _=_;rw[E2.out,hF]
      obtain⟨ta,tc,rfl,htree,hoks⟩:=HT.out.tree S2.out.lt
      have HTREE:=Qa htree;have HCNT:=Qa hcnt;have HOKS:=Qa hoks;have e0:=Qb HT.out.box 0 _ rfl;have e1:=Qb HT.out.box 1 _ rfl;have e2:=Qb HT.out.box 2 _ rfl;have hlt':¬ (k:Int)<xs.length:=by omega
      have HBL7:Hid (Below w.heap.size w wr):=S2.out.bel.trans (HT.out.bel.mono S2.out.bel.size);have HLT7:Hid (∀ k,O k→k<wr.heap.size):=S7.out.lt;clear E2 hF hfl hfm hcnt htree hoks HAT HT hkx HLK;generalize hll:l.length=ll at e2;have HLL:Hid (l.length=ll):=hll
      have DC:Hid (Calls prog 127 #[.agg #[.int .i64 3,.int .i64 r,.slice ta ll tc],.int .i64 4] wr fun e w'=>e=.returned (.int .i64 ((min (TT.height (n:=7) (mkT 3 r l)) 5:Nat):Int))∧Below wr.heap.size wr w'):=by
       have:=deepOf_any 7 (mkT 3 r l) ta tc wr 4 HTREE.out.all HCNT.out (by decide)
       have e9:Tv (mkT 3 r l:TT 7) ta tc=.agg #[.int .i64 3,.int .i64 r,.slice ta ll tc]:=by rw[← HLL.out];rfl
       rw[e9] at this
       exact this
      clear hll;generalize xs.length=N at x7 hlt hlt' hk hal8;go_wp2_with fail
      refine(DC.out).mono ?_
      rintro e w8 ⟨rfl,hb8⟩;have HB8:Hid (Below w.heap.size w w8):=HBL7.out.trans (hb8.mono HBL7.out.size);have f0:=Qi e0 hb8;have f1:=Qi e1 hb8;have f2:=Qi e2 hb8;by_cases hgt:4<TT.height (n:=7) (mkT 3 r l)
      ·have E4:Hid (s.makes ⟨5,(i:Int),xb,xc,xk,xn,xr,xs⟩=(19,[])):=by show _=_;rw[E3.out,if_pos hgt]
       have hgt':decide ((4:Int)<((min (TT.height (n:=7) (mkT 3 r l)) 5:Nat):Int))=true:=decide_eq_true (by omega);clear E3 hgt DC hb8 e0 e1 e2;generalize ((min (TT.height (n:=7) (mkT 3 r l)) 5:Nat):Int)=hv at hgt' ⊢;go_wp2
       go_ret2;rw[E4.out]
       exact QO.nil HB8.out
      ·have E4:Hid (s.makes ⟨5,(i:Int),xb,xc,xk,xn,xr,xs⟩=(0,[TT.at (n:=7) 5 (mkT 3 r l)])):=by show _=_;rw[E3.out,if_neg hgt]
       have hgt':decide ((4:Int)<((min (TT.height (n:=7) (mkT 3 r l)) 5:Nat):Int))=false:=decide_eq_false (by omega)
       have Z:Hid (QO w O 0 [TT.at (n:=7) 5 (mkT 3 r l)] (.returned (.tuple #[.slice (some ⟨w8.heap.size,0,none⟩) 1 1,.int .i64 0])) (w8.alloc (.cells #[.int .i64 3,.int .i64 r,.slice ta ll tc] 79))):=by
        refine⟨_,1,1,rfl,fun _=>⟨rfl,Ze,?_⟩,HB8.out.alloc HB8.out.size _⟩
        have hh5:TT.height (n:=7) (mkT 3 r l)≤5:=by omega
        have:=Qc4 w8 O (fun k hk=>Zl (HLT7.out k hk) hb8.size) (t:=TT.at (n:=7) 5 (mkT 3 r l)) (a:=ta) (c:=tc) (d:=1) ((HTREE.out.below hb8).at 5 hh5) (TT.at_ok 5 ⟨HTR.out,HOKS.out⟩)
        rw[← HLL.out]
        rw[TT.at_kind,TT.at_r,TT.at_len 5 _ hh5] at this
        exact this
       clear E3 hgt DC hb8 e0 e1 e2;generalize ((min (TT.height (n:=7) (mkT 3 r l)) 5:Nat):Int)=hv at hgt' ⊢;go_wp2
       go_ret2;rw[E4.out]
       exact Z.out
   ·have hw':(s.want xa 2 true==0)=false:=beq_eq_false_iff_ne.2 hw
    have E2:Hid (s.makes ⟨5,xa,xb,xc,xk,xn,xr,xs⟩=(s.want xa 2 true,[])):=by
     show _=_;rw[E.out];simp only[hat,if_neg hw]
    have HW:=Qa hw;clear E hat hw;generalize s.want xa 2 true=c at E2 hw' HW ⊢;go_wp2
    go_ret2;rw[E2.out]
    exact QO.nil S2.out.bel
theorem Qgz {w:World}{b:Nat}{O QR QA:Nat→Prop}{s:JSt}{x:Qy}{rg ag:Option Addr}{rc ac:Nat}(hO:∀ k,O k→k<w.heap.size) (hJ:JOk s) (h:KAt w b O s) (hregs:intsL.In w QR x.regs [.slice rg x.regs.length rc]) (hargs:intsL.In w QA x.args [.slice ag x.args.length ac]) (hrc:x.regs.length≤rc) (hf:x.form s.m.length=0) :
 Calls prog 73 #[.pointer (some ⟨b,0,none⟩),QaR x rg ag rc ac] w fun e w'=>QO w O (s.makes x).1 (s.makes x).2 e w':=by
 obtain⟨f1,f2,f3,f4⟩:=Zb hf
 rcases f4 with e | e | e | e | e | e | e | e | e | e | e | e | e | e
 ·exact Qgr hO hJ h e
 ·exact Qg1 hO hJ h e
 ·exact QgP hO hJ h e
 ·exact QfJ hO hJ h e
 ·exact Qee hO hJ h hargs (f3 e) e
 ·exact Qgu hO hJ h (f1 (.inl e)) e
 ·exact Qg4 hO hJ h (f1 (.inr e)) e
 ·exact QeS hO hJ h e
 ·exact Qfm hO hJ h e
 ·exact Qeq hO hJ h e
 ·exact Qgp hO hJ h e
 ·exact Qh1 hO hJ h e
 ·exact QgC hO hJ h e
 ·exact Qfo hO hJ h hregs hargs hrc (f2 e).2.2.1 (f2 e).2.2.2 ⟨(f2 e).1,(f2 e).2.1⟩ e
theorem QiC {s:JSt}(hJ:JOk s){x:Qy}(hf:x.form s.m.length=0):(s.makes x).2.length≤8:=by
 obtain⟨f1,f2,f3,f4⟩:=Zb hf
 rcases f4 with e | e | e | e | e | e | e | e | e | e | e | e | e | e
 ·rw[Qaa (.inl e)];simp
 ·rw[QbH e];simp
 ·rw[QaF e];split<;>simp
 ·rw[Z0 e];split<;>simp
 ·rw[QaT e];repeat' split
  all_goals simp
 ·rw[QbZ e];repeat' split
  all_goals simp
 ·rw[QbB e];repeat' split
  all_goals simp
 ·rw[QaV e];split<;>simp
 ·rw[Qbp e];simp
 ·rw[QaP e];simp
 ·rw[Qbc e];simp
 ·rw[Qaa (.inr e)];simp
 ·rw[QbF e];simp
 ·rw[Qbl e]
  split
  ·simp
  ·rename_i g hg
   split
   ·rw[List.length_map]
    exact(hJ.mod.2 g (Zm hg)).results.1
   ·simp
theorem KTo.same {w wc:World}{b:Nat}{O:Nat→Prop}{s:JSt}(h:KAt wc b O s) (hb:Below w.heap.size w wc) (hO:∀ k,O k→k<w.heap.size):KTo w wc b O s :=
 ⟨O,h,⟨hb.os,hb.tape,hb.output,hb.size,fun k hk _=>hb.block k hk,fun k hk=>.inl hk⟩,fun k hk=>Zl (hO k hk) hb.size⟩
theorem KTo.after {w wA wc:World}{b:Nat}{O:Nat→Prop}{s:JSt}(h:KTo wA wc b O s) (hb:Below w.heap.size w wA):KTo w wc b O s:=by
 obtain⟨O',h1,h2,h3⟩:=h
 exact⟨O',h1,⟨h2.os.trans hb.os,h2.tape.trans hb.tape,h2.output.trans hb.output,Zt hb.size h2.size,fun k hk hn=>(h2.block k (Zl hk hb.size) hn).trans (hb.block k hk),fun k hk=>(h2.own k hk).imp id fun e=>Zt hb.size e⟩,h3⟩
theorem KTo.then {w wA wc:World}{b:Nat}{O O1:Nat→Prop}{s:JSt}(h:KTo wA wc b O1 s) (h1:Zn O O1 w wA) (hO:∀ k,O k→k<w.heap.size):KTo w wc b O s:=by
 obtain⟨O',k1,k2,k3⟩:=h
 refine⟨O',k1,⟨k2.os.trans h1.os,k2.tape.trans h1.tape,k2.output.trans h1.output,Zt h1.size k2.size,fun k hk hn=>(k2.block k (Zl hk h1.size) (fun e=>?_)).trans (h1.block k hk hn),fun k hk=>?_⟩,k3⟩
 ·rcases h1.own k e with e | e
  ·exact hn e
  ·omega
 ·rcases k2.own k hk with e | e
  ·exact h1.own k e
  ·exact .inr (Zt h1.size e)
structure InS (w wc:World) (b X:Nat) (O Q:Nat→Prop) (s:JSt) (x:Qy) (rg ag:Option Addr) (rc ac:Nat):Prop where
 known:KAt wc b O s
 box:wc.heap[X]?=some (.cells #[.int .i64 x.op,.int .i64 x.a,.int .i64 x.b,.int .i64 x.c,.int .i64 x.k,.int .i64 x.n,.slice rg x.regs.length rc,.slice ag x.args.length ac] 59 (0,0))
 regs:intsL.In wc Q x.regs [.slice rg x.regs.length rc]
 args:intsL.In wc Q x.args [.slice ag x.args.length ac]
 bel:Below w.heap.size w wc
 own:∀ k,O k→k<w.heap.size
 far:w.heap.size≤X
theorem InS.below {w wc:World}{b X:Nat}{O Q:Nat→Prop}{s:JSt}{x:Qy}{rg ag:Option Addr}{rc ac:Nat}{w9:World}(h:InS w wc b X O Q s x rg ag rc ac) (k:Below wc.heap.size wc w9):InS w w9 b X O Q s x rg ag rc ac :=
 ⟨h.known.below k,(k.block X (lt_of_block h.box)).trans h.box,Lay.below h.regs k,Lay.below h.args k,h.bel.trans (k.mono h.bel.size),h.own,h.far⟩
theorem InS.lt {w wc:World}{b X:Nat}{O Q:Nat→Prop}{s:JSt}{x:Qy}{rg ag:Option Addr}{rc ac:Nat}(h:InS w wc b X O Q s x rg ag rc ac):∀ k,O k→k<wc.heap.size:=fun k hk=>Zl (h.own k hk) h.bel.size
theorem InS.cells {w wc:World}{b X:Nat}{O Q:Nat→Prop}{s:JSt}{x:Qy}{rg ag:Option Addr}{rc ac:Nat}(h:InS w wc b X O Q s x rg ag rc ac):wc.cell? ⟨X,0,none⟩=some (.int .i64 x.op)∧wc.cell? ⟨X,1,none⟩=some (.int .i64 x.a)∧wc.cell? ⟨X,2,none⟩=some (.int .i64 x.b)∧wc.cell? ⟨X,3,none⟩=some (.int .i64 x.c)∧wc.cell? ⟨X,4,none⟩=some (.int .i64 x.k)∧wc.cell? ⟨X,5,none⟩=some (.int .i64 x.n)∧wc.cell? ⟨X,6,none⟩=some (.slice rg x.regs.length rc)∧wc.cell? ⟨X,7,none⟩=some (.slice ag x.args.length ac) :=
 ⟨Qb h.box 0 _ rfl,Qb h.box 1 _ rfl,Qb h.box 2 _ rfl,Qb h.box 3 _ rfl,Qb h.box 4 _ rfl,Qb h.box 5 _ rfl,Qb h.box 6 _ rfl,Qb h.box 7 _ rfl⟩
theorem InS.far_cell {w wc:World}{b X:Nat}{O Q:Nat→Prop}{s:JSt}{x:Qy}{rg ag:Option Addr}{rc ac:Nat}{w9:World}(h:InS w wc b X O Q s x rg ag rc ac){O1:Nat→Prop}(k:Zn O O1 wc w9) (j:Nat):w9.cell? ⟨X,j,none⟩=wc.cell? ⟨X,j,none⟩ :=
 World.cell?_of_block (k.block X (lt_of_block h.box) (fun e=>by have:=h.own X e;have:=h.far;omega))
def QlP (b X nm cm rc ac:Nat) (cf:Int) (pm rg ag:Option Addr) (x:Qy) (t:Tmp) (v:Value) (w:World):Prop :=
 v=(([(0,.pointer (some ⟨b,0,none⟩)),(3,.pointer (some ⟨X,0,none⟩)),(8,.pointer (some ⟨b,0,none⟩)),(9,.pointer (some ⟨b,0,none⟩)),(10,.pointer (some ⟨b,0,none⟩)),(11,.agg #[.slice pm nm cm]),(12,.agg #[.int .i64 x.op,.int .i64 x.a,.int .i64 x.b,.int .i64 x.c,.int .i64 x.k,.int .i64 x.n,.slice rg x.regs.length rc,.slice ag x.args.length ac]),(13,.int .i64 cf),(5,.int .i64 cf)]:List (Tmp × Value)).lookup t).getD undef
theorem ki1 {w6:World}{b X nm cm rc ac:Nat}{cf:Int}{pm rg ag:Option Addr}{x:Qy}(q0:w6.cell? ⟨b,0,none⟩=some (.slice pm nm cm)) (x0:w6.cell? ⟨X,0,none⟩=some (.int .i64 x.op)) (x1:w6.cell? ⟨X,1,none⟩=some (.int .i64 x.a)) (x2:w6.cell? ⟨X,2,none⟩=some (.int .i64 x.b)) (x3:w6.cell? ⟨X,3,none⟩=some (.int .i64 x.c)) (x4:w6.cell? ⟨X,4,none⟩=some (.int .i64 x.k)) (x5:w6.cell? ⟨X,5,none⟩=some (.int .i64 x.n)) (x6:w6.cell? ⟨X,6,none⟩=some (.slice rg x.regs.length rc)) (x7:w6.cell? ⟨X,7,none⟩=some (.slice ag x.args.length ac)) (HC:Hid (x.form nm=cf))
 (a:Act) (m:Nat) (hn:a.tmps.size=m) (hn':82≤m) (h0:a.tmps.getD 0 undef=.pointer (some ⟨b,0,none⟩)) (h3:a.tmps.getD 3 undef=.pointer (some ⟨X,0,none⟩)) :
 Code.wp prog ((Tryz.f24.body.bind (Qj 1)).getD .skip) (fun e a' w'=>e=.normal∧∃ vs,a'=Q5 a vs [8,9,10,11,12,13,5]∧vs 5=.int .i64 cf∧Below w6.heap.size w6 w') a w6:=by
 conv=>arg 2;whnf
 refine Qw (QlP b X nm cm rc ac cf pm rg ag x) (fun w=>Below w6.heap.size w6 w) (fun w w'=>Below w.heap.size w w') (outs:=[0,3]) (gs:=[]) (bs:=[true,true,true,true,true,true,true]) (by kernel_rfl) (n:=82) hn hn' (by kernel_rfl) ?hR ?hG (Qf Zr 1) ⟨h0,h3,trivial⟩ ?hA ?hend
 case hR=>exact fun t v w w' _ h=>h
 case hG=>exact trivial
 case hend=>exact fun vs w' hW hk=>⟨rfl,vs,rfl,hk 5 (by kernel_rfl),hW⟩
 case hA =>
  iterate 5
   refine⟨fun a w hW hk K hK=>?_,?_⟩
   ·obtain⟨k0,-⟩:=hk
    conv at k0=>whnf;rhs;whnf
    have u0:=Qi q0 hW;have u1:=Qi x0 hW;have u2:=Qi x1 hW;have u3:=Qi x2 hW;have u4:=Qi x3 hW;have u5:=Qi x4 hW;have u6:=Qi x5 hW;have u7:=Qi x6 hW;have u8:=Qi x7 hW;go_simp;exact hK _ _ Zr hW rfl
  refine⟨fun a w hW hk K hK=>?_,?_⟩
  ·obtain⟨k0,k1,-⟩:=hk
   conv at k0=>whnf;rhs;whnf
   conv at k1=>whnf;rhs;whnf
   go_simp;refine Calls.mono (QcW nm x ⟨rg,rc,ag,ac⟩ pm cm _) ?_;rw[HC.out];rintro r7 w7 ⟨rfl,b7⟩;go_simp;exact hK _ _ b7 (hW.trans (b7.mono hW.size)) rfl
  refine⟨fun a w hW hk K hK=>?_,?_⟩
  ·obtain⟨k0,-⟩:=hk
   conv at k0=>whnf;rhs;whnf
   go_simp;exact hK _ _ Zr hW rfl
  trivial
def Qlg (b X hh gH nH cH gL nL cL i r:Nat) (t:Tmp) (v:Value) (w:World):Prop :=
 v=(([(0,.pointer (some ⟨b,0,none⟩)),(3,.pointer (some ⟨X,0,none⟩)),(56,.pointer (some ⟨b,0,none⟩)),(57,.pointer (some ⟨b,0,none⟩)),(58,.pointer (some ⟨b,5,none⟩)),(59,.pointer (some ⟨hh,0,none⟩)),(60,.pointer (some ⟨hh,0,none⟩)),(61,.pointer (some ⟨hh,0,none⟩)),(62,.slice (some ⟨gH,0,none⟩) nH cH),(63,.pointer (some ⟨b,0,none⟩)),(64,.pointer (some ⟨b,0,none⟩)),(65,.pointer (some ⟨b,6,none⟩)),(66,.slice (some ⟨gL,0,none⟩) nL cL),(67,.pointer (some ⟨X,1,none⟩)),(68,.int .i64 (i:Int)),(69,.pointer (some ⟨gL,i*3,none⟩)),(70,.pointer (some ⟨gL,i*3+1,none⟩)),(71,.int .i64 (r:Int)),(72,.pointer (some ⟨gH,r,none⟩))]:List (Tmp × Value)).lookup t).getD undef
theorem Ql3 {w6:World}{b X hh gH nH cH gL nL cL i r:Nat}(q5:w6.cell? ⟨b,5,none⟩=some (.pointer (some ⟨hh,0,none⟩))) (z0:w6.cell? ⟨hh,0,none⟩=some (.slice (some ⟨gH,0,none⟩) nH cH)) (q6:w6.cell? ⟨b,6,none⟩=some (.slice (some ⟨gL,0,none⟩) nL cL)) (x1:w6.cell? ⟨X,1,none⟩=some (.int .i64 (i:Int))) (v1:w6.cell? ⟨gL,i*3+1,none⟩=some (.int .i64 (r:Int))) (hiL:(i:Int)<nL) (hrH:(r:Int)<nH){Q:Exit→Act→World→Prop}
 (a:Act) (m:Nat) (hn:a.tmps.size=m) (hn':82≤m) (h0:a.tmps.getD 0 undef=.pointer (some ⟨b,0,none⟩)) (h3:a.tmps.getD 3 undef=.pointer (some ⟨X,0,none⟩))
 (hend:∀ ops vs w',vs 72=.pointer (some ⟨gH,r,none⟩)→Below w6.heap.size w6 w'→wpList prog ops Q (QcP 17 ((Tryz.f24.body.bind (Qj 12)).getD .skip)) (Q5 a vs [56,57,58,59,60,61,62,63,64,65,66,67,68,69,70,71,72]) w') :
 Code.wp prog ((Tryz.f24.body.bind (Qj 12)).getD .skip) Q a w6:=by
 conv=>arg 2;whnf
 refine Qq 17 (Qlg b X hh gH nH cH gL nL cL i r) (fun w=>Below w6.heap.size w6 w) (fun w w'=>Below w.heap.size w w') (outs:=[0,3]) (gs:=[]) (bs:=[true,true,true,true,true,true,true,true,true,true,true,true,true,true,true,true,true]) (by kernel_rfl) (n:=82) hn hn' (by kernel_rfl) (by kernel_rfl) ?hR ?hG (Qf Zr 1) ⟨h0,h3,trivial⟩ ?hA ?hend
 case hR=>exact fun t v w w' _ h=>h
 case hG=>exact trivial
 case hend=>exact fun ops vs w' hW hk=>hend ops vs w' (hk 72 (by kernel_rfl)) hW
 case hA =>
  iterate 13
   refine⟨fun a w hW hk K hK=>?_,?_⟩
   ·obtain⟨k0,-⟩:=hk
    conv at k0=>whnf;rhs;whnf
    have u0:=Qi q5 hW;have u1:=Qi z0 hW;have u2:=Qi q6 hW;have u3:=Qi x1 hW;go_simp;exact hK _ _ Zr hW rfl
  refine⟨fun a w hW hk K hK=>?_,?_⟩
  ·obtain⟨k0,k1,-⟩:=hk
   conv at k0=>whnf;rhs;whnf
   conv at k1=>whnf;rhs;whnf
   go_simp;exact hK _ _ Zr hW rfl
  iterate 2
   refine⟨fun a w hW hk K hK=>?_,?_⟩
   ·obtain⟨k0,-⟩:=hk
    conv at k0=>whnf;rhs;whnf
    have u0:=Qi v1 hW;go_simp;exact hK _ _ Zr hW rfl
  refine⟨fun a w hW hk K hK=>?_,?_⟩
  ·obtain⟨k0,k1,-⟩:=hk
   conv at k0=>whnf;rhs;whnf
   conv at k1=>whnf;rhs;whnf
   go_simp;exact hK _ _ Zr hW rfl
  trivial
theorem KAt.same6 {w:World}{b:Nat}{O:Nat→Prop}{s:JSt}{v:Value}(h:KAt w b O s) (hv:w.cell? ⟨b,6,none⟩=some v) (k:Nat):(w.setCell ⟨b,6,none⟩ v).heap[k]?=w.heap[k]?:=by
 obtain⟨pm,cm,a1,c1,a2,c2,a3,c3,h,vL,k1,-⟩:=h
 have e:=(Qb k1 6 _ rfl).symm.trans hv;simp only[Option.some.injEq] at e
 by_cases hk:k=b
 ·subst hk;rw[Qo k1,k1,← e];rfl
 ·exact Below.heap_setCell _ _ _ _ hk
structure RfS (w wr:World) (X R:Nat) (pm:Option Addr) (N cm:Nat):Prop where
 bel:Below w.heap.size w wr
 x:Blk wr X #[.slice pm N cm] 24
 r:Blk wr R #[.int .i64 0,.int .i64 0] 30
theorem RfS.below {w wr w':World}{X R:Nat}{pm:Option Addr}{N cm:Nat}(h:RfS w wr X R pm N cm) (k:Below wr.heap.size wr w'):RfS w w' X R pm N cm :=
 ⟨h.bel.trans (k.mono h.bel.size),(k.block X (lt_of_block h.x)).trans h.x,(k.block R (lt_of_block h.r)).trans h.r⟩
theorem RfS.step {w wr w':World}{X R:Nat}{pm:Option Addr}{N cm:Nat}{O O':Nat→Prop}(h:RfS w wr X R pm N cm) (k:Zn O O' wr w') (hx:¬ O X) (hr:¬ O R) (hO:∀ k,O k→w.heap.size≤k):RfS w w' X R pm N cm :=
 ⟨h.bel.trans (k.below h.bel.size hO),(k.block X (lt_of_block h.x) hx).trans h.x,(k.block R (lt_of_block h.r) hr).trans h.r⟩
structure RfI (w wr:World) (X R Bx B:Nat) (pm:Option Addr) (N cm:Nat) (cs:Array Value) (s:JSt) (O:Nat→Prop):Prop where
 top:RfS w wr X R pm N cm
 box:Blk wr Bx cs 84
 known:KAt wr B O s
 own:∀ k,O k→w.heap.size≤k∧k<wr.heap.size
 nx:¬ O X
 nr:¬ O R
 nb:¬ O Bx
theorem RfI.to {w wr w':World}{X R Bx B:Nat}{pm:Option Addr}{N cm:Nat}{cs:Array Value}{s s':JSt}{O:Nat→Prop}(h:RfI w wr X R Bx B pm N cm cs s O) (k:KTo wr w' B O s'):∃ O',RfI w w' X R Bx B pm N cm cs s' O':=by
 obtain⟨O',h1,h2,h3⟩:=k
 have far:∀ {b:Nat},¬ O b→b<wr.heap.size→¬ O' b:=fun {b} hb hl e=>by rcases h2.own b e with e | e;exact hb e;omega
 have hs:=h.top.bel.size;exact⟨O',h.top.step h2 h.nx h.nr (fun k hk=>(h.own k hk).1),(h2.block Bx (lt_of_block h.box) h.nb).trans h.box,h1,fun k hk=>⟨by rcases h2.own k hk with e | e;exact(h.own k e).1;omega,h3 k hk⟩,far h.nx (lt_of_block h.top.x),far h.nr (lt_of_block h.top.r),far h.nb (lt_of_block h.box)⟩
theorem Qem {w:World}{R:Nat}(h:Blk w R #[.int .i64 0,.int .i64 0] 30) (c a:Int):Blk ((w.setCell ⟨R,0,none⟩ (.int .i64 c)).setCell ⟨R,1,none⟩ (.int .i64 a)) R #[.int .i64 c,.int .i64 a] 30:=by
 have:=Qo (Qo h 0 (.int .i64 c)) 1 (.int .i64 a)
 simpa using this
theorem Qf8 {α:Type}{f:Nat→α→Int × Int}:∀ {l:List α}{i:Nat},(firstF f i l).1=0→firstF f i l=(0,0)
 | [],i,h=>rfl
 | x::xs,i,h=>by
   simp only[firstF] at h ⊢
   split at h
   ·rename_i h1;exact absurd h h1
   ·rename_i h1
    rw[if_neg h1]
    exact Qf8 h
theorem Qds {m:List (Qg 6)}(h:(modFault m).1=0):modFault m=(0,0):=by
 unfold modFault at h ⊢;split at h
 ·cases h
 ·rename_i h1
  rw[if_neg h1]
  exact Qf8 h
theorem QiJ {m:List (Qg 6)}{f b:Int}(h:QeM m f b=false):f<0∨(m.length:Int)≤f∨(∃ (i:Nat) (fn:Qg 6),f=(i:Int)∧m[i]?=some fn∧(b<0∨(fn.blocks.length:Int)≤b)):=by
 by_cases h0:f<0
 ·exact .inl h0
 by_cases h1:(m.length:Int)≤f
 ·exact .inr (.inl h1)
 obtain⟨i,rfl⟩:=Int.eq_ofNat_of_zero_le (Int.not_lt.1 h0)
 have hi:i<m.length:=by omega
 refine .inr (.inr ⟨i,m[i],rfl,Zg hi,?_⟩);by_cases hb:b<0
 ·exact .inl hb
 ·refine .inr (Int.not_lt.1 fun hb2=>?_);simp[QeM,Zg hi,hb2] at h
  omega
theorem Qis {w:World}{m:List (Qg 6)}{p a1:Option Addr}{c N c1:Nat}{l:List Qy}{x:MEnd}{e:EP}(f b:Int) (hN:l.length=N) (hn:¬ 150<(N:Int)) (hq:¬ 1000<(x.many:Int)) (hng:¬ QW m) (hf0:(modFault m).1=0) (hhb:QeM m f b=false) (hm:(Qaq 6).In w All m [.slice p m.length c]) (hl:insC.list.In w All l [.slice a1 N c1]) (hx:Qa2 w All x e) (hra:-9223372036854775808≤x.a∧x.a≤9223372036854775807) (hcap:x.yes.regs.length≤e.cYR∧x.no.regs.length≤e.cNR) (hls:∀ y∈l,y.regs.length<1152921504606846976∧y.args.length<1152921504606846976) :
 Calls prog 6 #[.agg #[.slice p m.length c],.int .i64 f,.int .i64 b,.slice a1 N c1,.agg (ZT x e)] w fun r w'=>r=.returned (.bool true)∧Below w.heap.size w w':=by
 have b0:=QN w (.cells #[.slice p m.length c] 24);have b1:=b0.trans ((QN (w.alloc (.cells #[.slice p m.length c] 24)) (.cells (ZT x e) 47)).mono b0.size);have HM:Hid ((Qaq 6).In w All m [.slice p m.length c]):=hm;have HB:=Qa b1;have x0:=Qi (Qb (Qe w #[.slice p m.length c] 24) 0 _ rfl) (QN (w.alloc (.cells #[.slice p m.length c] 24)) (.cells (ZT x e) 47));have y3:=Qb (Qe (w.alloc (.cells #[.slice p m.length c] 24)) (ZT x e) 47) 3 _ rfl;have y4:=Qb (Qe (w.alloc (.cells #[.slice p m.length c] 24)) (ZT x e) 47) 4 _ rfl;have y6:=Qb (Qe (w.alloc (.cells #[.slice p m.length c] 24)) (ZT x e) 47) 6 _ rfl;have y7:=Qb (Qe (w.alloc (.cells #[.slice p m.length c] 24)) (ZT x e) 47) 7 _ rfl;have y8:=Qb (Qe (w.alloc (.cells #[.slice p m.length c] 24)) (ZT x e) 47) 8 _ rfl;have HXB:=Qa (Qe (w.alloc (.cells #[.slice p m.length c] 24)) (ZT x e) 47);have HNG:=Qa hng;have HF0:=Qa hf0;have HL:=Qa hl;have HN:=Qa hN;have HXI:=Qa hx;have HN1:=Qa hn;have HQ:=Qa hq;clear hm b1 b0 hng hf0 hl hx hN hn hq;go_enter func6,ntmps6
 go_upto_region 1 with fail
 generalize hw1:(w.alloc (.cells #[.slice p m.length c] 24)).alloc (.cells (ZT x e) 47)=w1 at HB HXB x0 y3 y4 y6 y7 y8 ⊢;clear hw1;have hY:(w.alloc (.cells #[.slice p m.length c] 24)).heap.size=w.heap.size+1:=by show (w.heap.push _).size=_;exact Array.size_push _
 rw[hY] at HXB y3 y4 y6 y7 y8
 clear hY;obtain⟨X,hX⟩:∃ X,X=w.heap.size:=⟨_,rfl⟩
 rw[← hX] at HXB x0 y3 y4 y6 y7 y8 ⊢
 have HXE:=Qa hX;clear hX;go_wp2_with fail
 refine(Qaw w1).mono ?_
 rintro e2 w2 ⟨rfl,b2⟩;have HB1:=Qa HB.out;have HB2:=Qa (HB.out.trans (b2.mono HB.out.size));have x2:=Qi x0 b2;have y3:=Qi y3 b2;have y4:=Qi y4 b2;have y6:=Qi y6 b2;have y7:=Qi y7 b2;have y8:=Qi y8 b2;have HD2:=Qa b2;have hd2:=b2.size;have HXB1:=HXB;have HXB:=Qa (((b2.block _ (lt_of_block HXB.out)).trans HXB.out));clear x0 b2 HB;have CG:=Qa (Qao 6 m p c w2 (Lay.below HM.out HB2.out));unfold Rd at CG;have HHB:=Qa hhb;have HLS:=Qa hls;clear hhb hls;rw[Qx HNG.out] at CG
 have hn:=HN1.out;have hn':decide ((N:Int)>150)=false:=decide_eq_false (by omega);have hq:=HQ.out;unfold MEnd.many at hq;go_wp2_with fail
 refine CG.out.mono ?_;rintro e3 w3 ⟨rfl,b3⟩;have HB3:=Qa (HB2.out.trans (b3.mono HB2.out.size));have HXB:=Qa (((b3.block _ (lt_of_block HXB.out)).trans HXB.out));have HD3:=Qa (HD2.out.trans (b3.mono HD2.out.size));have x3:=Qi x2 b3;have y3:=Qi y3 b3;have y4:=Qi y4 b3;have y6:=Qi y6 b3;have y7:=Qi y7 b3;have y8:=Qi y8 b3;clear b3 CG x2 HB2;have CN:=Qa (Qd0 f b HNG.out (Lay.below HM.out HB3.out));go_wp2_with fail
 refine CN.out.mono ?_;rintro e4 w4 ⟨b4,hN4⟩;have HB4:=Qa (HB3.out.trans (b4.mono HB3.out.size));have HXB:=Qa (((b4.block _ (lt_of_block HXB.out)).trans HXB.out));have hs3:=HD3.out.size;have HD4:=Qa (HD3.out.trans (b4.mono HD3.out.size));have x4:=Qi x3 b4;clear b4 CN x3 y3 y4 y6 y7 y8;rcases hN4 with ⟨hf,rfl⟩|⟨-,hno,rfl⟩|⟨-,hno,i,j,fn,g,B,O,A,rfl,rfl,hfn,hgb,rfl,hS,hA⟩
 rotate_right
 ·rw[HHB.out] at hno;cases hno
 ·exact absurd HF0.out hf
 have b5:=QN w4 (.cells #[.int .i64 1,.int .i64 (-1)] 30);have HB5:=Qa (HB4.out.trans (b5.mono HB4.out.size));have x5:=Qi x4 b5;have z5:Hid (Blk (w4.alloc (.cells #[.int .i64 1,.int .i64 (-1)] 30)) w4.heap.size #[.int .i64 1,.int .i64 (-1)] 30):=Blk.new _ _ _;clear b5 HB4 HB3 hs3 x4 HD2 HD3 HD4 hd2;go_upto_region 6 with fail
 generalize hw5:w4.alloc (.cells #[.int .i64 1,.int .i64 (-1)] 30)=w5 at HB5 x5 z5 ⊢;clear hw5;generalize w4.heap.size=F1 at z5 ⊢;have CF:=Qa (QaS (Lay.below HM.out HB5.out) (Qbb HNG.out));rw[Qds HF0.out] at CF
 unfold Rd at CF;go_wp2_with fail
 refine CF.out.mono ?_;rintro e6 w6 ⟨rfl,b6⟩;have b7:=b6.trans ((QN w6 (.cells #[.int .i64 0,.int .i64 0] 30)).mono b6.size);have x7:=Qi x5 b7;have HB7:=Qa (HB5.out.trans (b7.mono HB5.out.size));have Z5:=Qa (z5.out.below b7);have Z7:Hid (Blk (w6.alloc (.cells #[.int .i64 0,.int .i64 0] 30)) w6.heap.size #[.int .i64 0,.int .i64 0] 30):=Blk.new _ _ _;have HFF:Hid (w.heap.size≤w6.heap.size∧F1<w6.heap.size):=⟨Zt HB5.out.size b6.size,Zl z5.out.lt b6.size⟩;clear b6 b7 CF x5 HB5 z5;go_upto_region 7 with fail
 generalize hw7:w6.alloc (.cells #[.int .i64 0,.int .i64 0] 30)=w7 at HB7 x7 Z5 Z7 ⊢;clear hw7;generalize w6.heap.size=F2 at Z7 HFF ⊢;have RB:Hid (Blk ((w7.setCell ⟨F2,0,none⟩ (.int .i64 1)).setCell ⟨F2,1,none⟩ (.int .i64 (-1))) F2 #[.int .i64 1,.int .i64 (-1)] 30):=Qem Z7.out _ _
 have RA:Hid (Blk ((w7.setCell ⟨F2,0,none⟩ (.int .i64 1)).setCell ⟨F2,1,none⟩ (.int .i64 (-1))) F1 #[.int .i64 1,.int .i64 (-1)] 30):=by
  have:=HFF.out
  exact Blk.setOther (p:=⟨F2,1,none⟩) (Blk.setOther (p:=⟨F2,0,none⟩) Z5.out (by show F2≠F1;omega) _) (by show F2≠F1;omega) _
 have BL:Hid (Below w.heap.size w ((w7.setCell ⟨F2,0,none⟩ (.int .i64 1)).setCell ⟨F2,1,none⟩ (.int .i64 (-1)))):=(HB7.out.setCell (p:=⟨F2,0,none⟩) HFF.out.1 _).setCell (p:=⟨F2,1,none⟩) HFF.out.1 _;have z70:=Qb Z7.out 0 _ rfl;have z71:=Qb Z7.out 1 _ rfl;have y0:=Qp Z7.out 0;have y1:=Qp Z7.out 1;have hno2:f<0∨(m.length:Int)≤f∨(∃ (i:Nat) (fn:Qg 6),f=(i:Int)∧m[i]?=some fn∧(b<0∨(fn.blocks.length:Int)≤b)):=QiJ hno;clear hno Z5 Z7 HFF;rcases hno2 with h | h | ⟨i,fn,rfl,hfn,h⟩
 ·have h1:decide (f<0)=true:=decide_eq_true h;go_upto_region 9 with fail
  generalize (w7.setCell ⟨F2,0,none⟩ (.int .i64 1)).setCell ⟨F2,1,none⟩ (.int .i64 (-1))=w9 at RB RA BL ⊢;have q0:=Qb RB.out 0 _ rfl;have q1:=Qb RB.out 1 _ rfl;have q2:=Qb RA.out 0 _ rfl;have q3:=Qb RA.out 1 _ rfl;clear z70 z71 y0 y1 x7;go_wp2_with fail
  go_ret;exact⟨rfl,BL.out⟩
 ·have h1:decide (f<0)=false:=decide_eq_false (by omega);have h2:decide (f≥(m.length:Int))=true:=decide_eq_true h;go_upto_region 9 with fail
  generalize (w7.setCell ⟨F2,0,none⟩ (.int .i64 1)).setCell ⟨F2,1,none⟩ (.int .i64 (-1))=w9 at RB RA BL ⊢;have q0:=Qb RB.out 0 _ rfl;have q1:=Qb RB.out 1 _ rfl;have q2:=Qb RA.out 0 _ rfl;have q3:=Qb RA.out 1 _ rfl;clear z70 z71 y0 y1 x7;go_wp2_with fail
  go_ret;exact⟨rfl,BL.out⟩
 have hi1:(i:Int)<m.length:=by have:=(Zi hfn).1;omega
 have hi0:(0:Int)≤i:=by omega
 rcases h with h | h
 ·have h3:decide (b<0)=true:=decide_eq_true h;go_upto_region 9 with fail
  generalize (w7.setCell ⟨F2,0,none⟩ (.int .i64 1)).setCell ⟨F2,1,none⟩ (.int .i64 (-1))=w9 at RB RA BL ⊢;have q0:=Qb RB.out 0 _ rfl;have q1:=Qb RB.out 1 _ rfl;have q2:=Qb RA.out 0 _ rfl;have q3:=Qb RA.out 1 _ rfl;clear z70 z71 y0 y1 x7;go_wp2_with fail
  go_ret;exact⟨rfl,BL.out⟩
 have hb0:¬ b<0:=by omega
 obtain⟨mg,mo,ds,rfl,-,-,hcs,hfn2⟩:=Lay.list_at HM.out hfn
 obtain⟨fa,fc,fb,fd,fe,ff,rfl,-,-,-,-⟩:=ZH hfn2
 have v3:=Qi (show w.cell? ⟨mg,mo+i*4+3,none⟩=some (.slice fe fn.blocks.length ff) from hcs 3 (by decide)) HB7.out;have h3:decide (b<0)=false:=decide_eq_false hb0;have h4:decide (b≥(fn.blocks.length:Int))=true:=decide_eq_true h;clear hcs hfn2;go_upto_region 9 with fail
 generalize (w7.setCell ⟨F2,0,none⟩ (.int .i64 1)).setCell ⟨F2,1,none⟩ (.int .i64 (-1))=w9 at RB RA BL ⊢;have q0:=Qb RB.out 0 _ rfl;have q1:=Qb RB.out 1 _ rfl;have q2:=Qb RA.out 0 _ rfl;have q3:=Qb RA.out 1 _ rfl;clear z70 z71 y0 y1 x7;go_wp2_with fail
 go_ret;exact⟨rfl,BL.out⟩
def Qb4 (w:World) (b:Nat) (O A:Nat→Prop) (s:JSt):Prop :=
 ∃ pm cm a1 c1 a2 c2 a3 c3 h vL,w.heap[b]?=some (.cells #[.slice pm s.m.length cm,.int .i64 s.f.regs,.slice a1 s.f.params.length c1,.slice a2 s.f.results.length c2,.slice a3 s.f.blocks.length c3,.pointer (some ⟨h,0,none⟩),vL] 65 (0,0)) ∧
  (Qaq 6).In w (fun g=>¬ A g) s.m [.slice pm s.m.length cm]∧(Zy 6).In w (fun g=>¬ A g) s.f [.int .i64 s.f.regs,.slice a1 s.f.params.length c1,.slice a2 s.f.results.length c2,.slice a3 s.f.blocks.length c3] ∧
  Qk w h O s.H∧TRq w O (fun g=>¬ A g) vL s.L∧O b∧∀ k,O k→A k
section
variable {w w':World}{b:Nat}{O A O' A':Nat→Prop}{s:JSt}
theorem Qb4.one (h:Qb4 w b O A s):KAt w b A s:=by
 obtain⟨pm,cm,a1,c1,a2,c2,a3,c3,h,vL,k1,k2,k3,k4,⟨xs,q1,q2,q3⟩,k6,k7⟩:=h
 exact⟨pm,cm,a1,c1,a2,c2,a3,c3,h,vL,k1,k2,k3,k4.mono k7,⟨xs,q1,fun g hg=>k7 g (q2 g hg),q3⟩,k7 b k6⟩
theorem Qb4.sub (h:Qb4 w b O A s):∀ k,O k→A k:=by obtain⟨pm,cm,a1,c1,a2,c2,a3,c3,h,vL,k1,k2,k3,k4,k5,k6,k7⟩:=h;exact k7
theorem Qb4.keep (h:Qb4 w b O A s) (hb:∀ k,k<w.heap.size→O k∨¬ A k→w'.heap[k]?=w.heap[k]?) (hO:∀ k,O k→k<w.heap.size→O' k) (hA:∀ k,¬ A k→k<w.heap.size→¬ A' k) (hs:∀ k,O' k→A' k):Qb4 w' b O' A' s:=by
 obtain⟨pm,cm,a1,c1,a2,c2,a3,c3,h,vL,k1,k2,k3,k4,k5,k6,k7⟩:=h
 refine⟨pm,cm,a1,c1,a2,c2,a3,c3,h,vL,(hb b (lt_of_block k1) (.inl k6)).trans k1,(Qaq 6).keep (fun k hk hl=>hb k hl (.inr hk)) hA k2,(Zy 6).keep (fun k hk hl=>hb k hl (.inr hk)) hA k3,
  k4.keep (fun g hg hl=>hb g hl (.inl hg)) (fun g hg hl=>hO g hg hl),k5.keep (fun k hl hk=>hb k hl (hk.imp (fun e=>k5.own e) id)) (fun k hk=>hO k (k5.own hk) (k5.lt hk)) hA,hO b k6 (lt_of_block k1),hs⟩
theorem Qb4.below (h:Qb4 w b O A s) (k:Below w.heap.size w w'):Qb4 w' b O A s:=h.keep (fun g hg _=>k.block g hg) (fun _ h _=>h) (fun _ h _=>h) h.sub
end
def QaG (wA w:World) (b:Nat) (O A:Nat→Prop) (s:JSt):Prop :=
 ∃ N:Nat→Prop,(∀ k,N k→wA.heap.size≤k∧k<w.heap.size)∧Qb4 w b (fun k=>O k∨N k) (fun k=>A k∨N k) s∧Zn O (fun k=>O k∨N k) wA w
section
variable {w w9 wA wB:World}{b:Nat}{O A:Nat→Prop}{s s':JSt}
theorem QaG.same (h:Qb4 w b O A s):QaG w w b O A s :=
 ⟨fun _=>False,fun _ h=>h.elim,h.keep (fun _ _ _=>rfl) (fun _ h _=>.inl h) (fun _ h _=>by simpa using h) (fun k hk=>hk.imp (h.sub k) id),⟨rfl,rfl,rfl,Ze,fun _ _ _=>rfl,fun k hk=>.inl (by simpa using hk)⟩⟩
theorem QaG.after (h:QaG wA w b O A s) (hb:Below wB.heap.size wB wA):QaG wB w b O A s:=by
 obtain⟨N,h1,h2,h3⟩:=h
 have:=hb.size
 exact⟨N,fun k hk=>⟨Zt hb.size (h1 k hk).1,(h1 k hk).2⟩,h2,⟨h3.os.trans hb.os,h3.tape.trans hb.tape,h3.output.trans hb.output,Zt hb.size h3.size,fun k hk hn=>(h3.block k (by omega) hn).trans (hb.block k hk),fun k hk=>(h3.own k hk).imp id fun e=>Zt hb.size e⟩⟩
theorem QaG.of_below (h:Qb4 w b O A s) (hb:Below w.heap.size w w9):QaG w w9 b O A s:=(QaG.same (h.below hb)).after hb
theorem QaG.join {N:Nat→Prop}(h1:∀ k,N k→wA.heap.size≤k∧k<w.heap.size) (h3:Zn O (fun k=>O k∨N k) wA w) (g:QaG w wB b (fun k=>O k∨N k) (fun k=>A k∨N k) s'):QaG wA wB b O A s':=by
 obtain⟨M,g1,g2,g3⟩:=g
 have e1:=h3.size;have e2:=g3.size;refine⟨fun k=>N k∨M k,fun k hk=>?_,?_,?_⟩
 ·rcases hk with hk | hk
  ·have:=h1 k hk;omega
  ·have:=g1 k hk;omega
 ·exact g2.keep (fun _ _ _=>rfl) (fun k hk _=>by simpa[or_assoc] using hk) (fun k hk _=>by simpa[or_assoc,not_or,and_assoc] using hk) (fun k hk=>by have:=g2.sub k (by simpa[or_assoc] using hk);simpa[or_assoc] using this)
 ·refine⟨g3.os.trans h3.os,g3.tape.trans h3.tape,g3.output.trans h3.output,Zt e1 e2,fun k hk hn=>(g3.block k (by omega) (fun e=>?_)).trans (h3.block k hk hn),fun k hk=>?_⟩
  ·rcases e with e | e
   ·exact hn e
   ·have:=h1 k e;omega
  ·rcases hk with hk | hk | hk
   ·exact .inl hk
   ·exact .inr (h1 k hk).1
   ·exact .inr (Zt e1 (g1 k hk).1)
theorem Qb4.pushH (hO:∀ k,A k→k<wA.heap.size) (h:Qb4 wA b O A s):∃ hh a cap,wA.cell? ⟨b,5,none⟩=some (.pointer (some ⟨hh,0,none⟩))∧wA.cell? ⟨hh,0,none⟩=some (.slice a s.H.length cap)∧wA.ownsRow 0 4 1 (.slice a s.H.length cap) s.H.length (s.H.map Value.bool) ∧
 (∀ w9,wA.grownBy w9 (Value.slice a s.H.length cap).ownBlock→w9.cell? ⟨b,5,none⟩=some (.pointer (some ⟨hh,0,none⟩))∧w9.cell? ⟨hh,0,none⟩=some (.slice a s.H.length cap)∧w9.frozen? ⟨hh,0,none⟩=false) ∧
 ∀ w9 g cap2,w9.ownsRow 0 4 1 (.slice (some ⟨g,0,none⟩) (s.H.length+1) cap2) (s.H.length+1) (s.H.map Value.bool++[.bool true])→wA.grownBy w9 (Value.slice a s.H.length cap).ownBlock→((Value.slice a s.H.length cap).ownBlock=some g∨wA.heap.size≤g)→g<w9.heap.size →
  QaG wA (w9.setCell ⟨hh,0,none⟩ (.slice (some ⟨g,0,none⟩) (s.H.length+1) cap2)) b O A { s with H:=s.H++[true] }:=by
 obtain⟨pm,cm,a1,c1,a2,c2,a3,c3,hh,vL,k1,k2,k3,k4,k5,k6,k7⟩:=h
 obtain⟨a,cap,e1,e2,e3,-⟩:=k4.cells
 have hv:∀ g',(Value.slice a s.H.length cap).ownBlock=some g'→O g'∧∃ c,wA.heap[g']?=some (.cells c 4 (0,0)):=by
  obtain⟨v,q1,q2,q3⟩:=id k4
  have e:=Qb q1 0 _ rfl;rw[e1] at e
  simp only[Option.some.injEq] at e
  subst e;exact fun g' hg'=>⟨q2.2 g' hg',q2.block hg'⟩
 obtain⟨ch,hch⟩:∃ c,wA.heap[hh]?=some (.cells c 74 (0,0)):=by obtain⟨v,q1,-⟩:=id k4;exact⟨_,q1⟩
 have hbl:=lt_of_block k1
 have hnb:∀ g',(Value.slice a s.H.length cap).ownBlock=some g'→b≠g':=fun g' hg'=>by
  obtain⟨c,hc⟩:=(hv g' hg').2
  exact QS k1 hc (by decide)
 have hnh:∀ g',(Value.slice a s.H.length cap).ownBlock=some g'→hh≠g':=fun g' hg'=>by
  obtain⟨c,hc⟩:=(hv g' hg').2
  exact QS hch hc (by decide)
 have hbh:b≠hh:=QS k1 hch (by decide);refine⟨hh,a,cap,Qb k1 5 _ rfl,e1,e3,fun w9 hg=>?_,fun w9 g cap2 h1 h2 h3 h4=>?_⟩
 ·have r1:w9.heap[hh]?=some (.cells ch 74 (0,0)):=(hg.block hh k4.lt (fun e=>hnh hh e.symm rfl)).trans hch;exact⟨(hg.cell_far ⟨b,5,none⟩ hbl (fun e=>hnb b e.symm rfl)).trans (Qb k1 5 _ rfl),(hg.cell_far ⟨hh,0,none⟩ k4.lt (fun e=>hnh hh e.symm rfl)).trans e1,Qp r1 0⟩
 obtain⟨-,-,r3,r4⟩:=k4.push2 e1 h1 h2 h3 h4
 have hsz:=h2.size;have low:∀ k,¬ A k→k<wA.heap.size→¬ (A k∨(wA.heap.size≤k∧k<w9.heap.size)):=fun k hk hl e=>by rcases e with e | e;exact hk e;omega
 refine⟨fun k=>wA.heap.size≤k∧k<w9.heap.size,fun k hk=>by rw[World.size_setCell];exact hk,⟨pm,cm,a1,c1,a2,c2,a3,c3,hh,vL,?_,(Qaq 6).keep (fun k hk hl=>r4.block k hl (fun e=>hk (k7 k e))) low k2,(Zy 6).keep (fun k hk hl=>r4.block k hl (fun e=>hk (k7 k e))) low k3,r3,k5.keep (fun k hl hk=>?_) (fun k hk=>.inl (k5.own hk)) low,.inl k6,fun k hk=>hk.imp (k7 k) id⟩,r4⟩
 ·rw[Below.heap_setCell _ _ _ _ (show b≠hh from hbh),h2.block b hbl (fun e=>hnb b e.symm rfl)];exact k1
 ·rcases hk with hk | hk
  ·obtain⟨c,hc⟩:=k5.block hk
   rw[Below.heap_setCell _ _ _ _ (show k≠hh from QS hc hch (by decide)),h2.block k hl (fun e=>by obtain⟨c',hc'⟩:=(hv k e.symm).2;exact QS hc hc' (by decide) rfl)]
  ·exact r4.block k hl (fun e=>hk (k7 k e))
theorem Qb4.setH (hO:∀ k,A k→k<wA.heap.size) (h:Qb4 wA b O A s):∃ hh a cap,wA.cell? ⟨b,5,none⟩=some (.pointer (some ⟨hh,0,none⟩))∧wA.cell? ⟨hh,0,none⟩=some (.slice a s.H.length cap) ∧
 ∀ i,i<s.H.length→∃ g,a=some ⟨g,0,none⟩∧(∃ u,wA.cell? ⟨g,i,none⟩=some (.bool u))∧wA.frozen? ⟨g,i,none⟩=false∧QaG wA (wA.setCell ⟨g,i,none⟩ (.bool false)) b O A { s with H:=s.H.set i false }:=by
 obtain⟨pm,cm,a1,c1,a2,c2,a3,c3,hh,vL,k1,k2,k3,k4,k5,k6,k7⟩:=h
 obtain⟨a,cap,e1,e2,e3,e4⟩:=k4.cells
 have hv:∀ g',(Value.slice a s.H.length cap).ownBlock=some g'→O g'∧∃ c,wA.heap[g']?=some (.cells c 4 (0,0)):=by
  obtain⟨v,q1,q2,q3⟩:=id k4
  have e:=Qb q1 0 _ rfl;rw[e1] at e
  simp only[Option.some.injEq] at e
  subst e;exact fun g' hg'=>⟨q2.2 g' hg',q2.block hg'⟩
 refine⟨hh,a,cap,Qb k1 5 _ rfl,e1,fun i hi=>?_⟩
 obtain⟨g,rfl,hg,f1,f2,f3⟩:=e4 i hi
 obtain⟨c,hc⟩:=(hv g rfl).2
 have st:Zn O O wA (wA.setCell ⟨g,i,none⟩ (.bool false)):=⟨rfl,rfl,rfl,by simp,fun k hk hn=>Below.heap_setCell _ _ _ _ (fun e=>hn (by subst e;exact hg)),fun k hk=>.inl hk⟩;have st2:Zn O (fun k=>O k∨False) wA (wA.setCell ⟨g,i,none⟩ (.bool false)):=⟨rfl,rfl,rfl,st.size,st.block,fun k hk=>.inl (by simpa using hk)⟩;refine⟨g,rfl,⟨_,f1⟩,f2,fun _=>False,fun _ h=>h.elim,⟨pm,cm,a1,c1,a2,c2,a3,c3,hh,vL,?_,(Qaq 6).keep (fun k hk hl=>st.block k hl (fun e=>hk (k7 k e))) (fun k hk _=>by simpa using hk) k2,(Zy 6).keep (fun k hk hl=>st.block k hl (fun e=>hk (k7 k e))) (fun k hk _=>by simpa using hk) k3,(f3 false).mono (fun k hk=>.inl hk),k5.keep (fun k hl hk=>?_) (fun k hk=>.inl (k5.own hk)) (fun k hk _=>by simpa using hk),.inl k6,fun k hk=>hk.imp (k7 k) id⟩,st2⟩
 ·rw[Below.heap_setCell _ _ _ _ (show b≠g from QS k1 hc (by decide))];exact k1
 ·rcases hk with hk | hk
  ·obtain⟨c',hc'⟩:=k5.block hk
   exact Below.heap_setCell _ _ _ _ (show k≠g from QS hc' hc (by decide))
  ·exact st.block k hl (fun e=>hk (k7 k e))
theorem Qb4.pushL (hO:∀ k,A k→k<wA.heap.size) (h:Qb4 wA b O A s):∃ aL cL xs,wA.cell? ⟨b,6,none⟩=some (.slice aL s.L.length cL)∧wA.frozen? ⟨b,6,none⟩=false∧s.L.length≤cL∧wA.ownsRow 0 79 3 (.slice aL s.L.length cL) s.L.length xs ∧
 ∀ w9 g cap2 (l:List (TT 6)) ds,ds.length=l.length*3→w9.ownsRow 0 79 3 (.slice (some ⟨g,0,none⟩) (s.L.length+l.length) cap2) (s.L.length+l.length) (xs++ds)→wA.grownBy w9 (Value.slice aL s.L.length cL).ownBlock→((Value.slice aL s.L.length cL).ownBlock=some g∨g=wA.heap.size)→g<w9.heap.size →
  (∀ i x,l[i]?=some x→(Lay.tt 6).In wA (fun g=>¬ A g) x ((ds.drop (i*3)).take 3)) →
  w9.cell? ⟨b,6,none⟩=some (.slice aL s.L.length cL)∧w9.frozen? ⟨b,6,none⟩=false∧QaG wA (w9.setCell ⟨b,6,none⟩ (.slice (some ⟨g,0,none⟩) (s.L.length+l.length) cap2)) b O A { s with L:=s.L++l }:=by
 obtain⟨pm,cm,a1,c1,a2,c2,a3,c3,hh,vL,k1,k2,k3,k4,k5,k6,k7⟩:=h
 obtain⟨aL,cL,rfl,-,-,-⟩:=k5.form
 have hv:∀ {g'},(Value.slice aL s.L.length cL).ownBlock=some g'→O g'∧∃ c,wA.heap[g']?=some (.cells c 79 (0,0)):=fun {g'} hg'=>⟨by obtain⟨xs,q1,q2,q3⟩:=id k5;exact q2 g' hg',k5.block hg'⟩;obtain⟨xs,q1,q2,q3⟩:=k5
 obtain⟨ch,hch⟩:∃ c,wA.heap[hh]?=some (.cells c 74 (0,0)):=by obtain⟨v,q1,-⟩:=id k4;exact⟨_,q1⟩
 have hbl:=lt_of_block k1
 have hnb:∀ g',(Value.slice aL s.L.length cL).ownBlock=some g'→b≠g':=fun g' hg'=>by
  obtain⟨c,hc⟩:=(hv hg').2
  exact QS k1 hc (by decide)
 have hle:s.L.length≤cL:=by
  obtain⟨-,q⟩:=id q1
  rcases q with ⟨e,e2⟩|⟨g,cap,cur,e,_,_,hn,_⟩
  ·omega
  ·simp only[Value.slice.injEq] at e;omega
 refine⟨aL,cL,xs,Qb k1 6 _ rfl,Qp k1 6,hle,q1,fun w9 g cap2 l ds hdl h1 h2 h3 h4 h5=>?_⟩
 have hsz:=h2.size;have kb:=(h2.block b hbl (fun e=>hnb b e.symm rfl)).trans k1
 have hgb:b≠g:=by
  rcases h3 with h | h
  ·exact hnb g h
  ·omega
 have low:∀ k,¬ A k→k<wA.heap.size→¬ (A k∨(wA.heap.size≤k∧k<w9.heap.size)):=fun k hk hl e=>by rcases e with e | e;exact hk e;omega
 have r4:Zn O (fun x=>O x∨(wA.heap.size≤x∧x<w9.heap.size)) wA (w9.setCell ⟨b,6,none⟩ (.slice (some ⟨g,0,none⟩) (s.L.length+l.length) cap2)):=by
  refine⟨h2.os,h2.tape,h2.output,by simp;omega,fun k hk hn=>?_,fun k hk=>hk.imp id fun h=>h.1⟩
  rw[Below.heap_setCell _ _ _ _ (fun e=>hn (by subst e;exact k6)),h2.block k hk (fun e=>hn (hv e.symm).1)]
 refine⟨Qb kb 6 _ rfl,Qp kb 6,fun k=>wA.heap.size≤k∧k<w9.heap.size,fun k hk=>by rw[World.size_setCell];exact hk,⟨pm,cm,a1,c1,a2,c2,a3,c3,hh,.slice (some ⟨g,0,none⟩) (s.L.length+l.length) cap2,?_,(Qaq 6).keep (fun k hk hl=>r4.block k hl (fun e=>hk (k7 k e))) low k2,(Zy 6).keep (fun k hk hl=>r4.block k hl (fun e=>hk (k7 k e))) low k3,k4.keep2 (fun k c t hk ht=>?_) (fun k hk=>.inl hk),?_,.inl k6,fun k hk=>hk.imp (k7 k) id⟩,r4⟩
 ·rw[Qo kb];rfl
 ·rw[Below.heap_setCell _ _ _ _ (show k≠b from QS hk k1 (by rcases ht with rfl | rfl<;>decide)),h2.block k (lt_of_block hk) (fun e=>by obtain⟨c',hc'⟩:=(hv e.symm).2;exact QS hk hc' (by rcases ht with rfl | rfl<;>decide) rfl)]
 ·refine⟨xs++ds,?_,fun k hk=>?_,?_⟩
  ·rw[List.length_append]
   exact Qb2 h1 (Below.heap_setCell _ _ _ _ (show g≠b from fun e=>hgb e.symm))
  ·simp[Value.ownBlock] at hk
   subst hk;rcases h3 with h | h
   ·exact .inl (hv h).1
   ·exact .inr ⟨by omega,h4⟩
  ·refine Qa0 (s:=3) (P:=fun x cs=>(Lay.tt 6).In _ _ x cs) q1.1 (fun i x hx=>?_) (fun i x hx=>?_)
   ·exact(Lay.tt 6).keep (fun k hk hl=>r4.block k hl (fun e=>hk (k7 k e))) low (q3 i x hx)
   ·exact(Lay.tt 6).keep (fun k hk hl=>r4.block k hl (fun e=>hk (k7 k e))) low (h5 i x hx)
end
theorem ZE.viab {l:List Oper}{S:Nat→Bool}(hcl:ZE l S){q i:Nat}{o:Oper}(ho:l[q]?=some o) (hw:Qbq l 24 o i=true) (hq:S q=true):S i=true :=
 Qa4 (all:=l) (S:=fun j=>S j=true) hcl 24 o hw (hcl q o ho hq)
theorem ZV {i j:Nat}{S:Nat→Bool}(h:j≠i):Qat i S j=S j:=by
 have:(j==i)=false:=by simpa using h
 unfold Qat;rw[this,Bool.false_or]
theorem QcC {i:Nat}{S:Nat→Bool}:Qat i S i=true:=by simp[Qat]
theorem QeC {w w':World}(h:Below w.heap.size w w') (row:Option Nat):w.grownBy w' row:=⟨h.os,h.tape,h.output,h.size,fun k hk _=>h.block k hk⟩
def hTib:List (Nat × Tmp):=[(0,38),(1,39),(2,40),(3,41),(4,42),(5,43),(6,44),(7,45),(8,46),(9,47),(10,48),(11,49),(12,50),(13,51),(14,52)]
def QlF (b hh rn rc G g2 cap2:Nat) (ra:Option Addr):List (Tmp × Value):=[(38,.pointer (some ⟨b,0,none⟩)),(39,.pointer (some ⟨b,0,none⟩)),(40,.pointer (some ⟨b,5,none⟩)),(41,.pointer (some ⟨hh,0,none⟩)),(42,.pointer (some ⟨b,0,none⟩)),(43,.pointer (some ⟨b,0,none⟩)),(44,.pointer (some ⟨b,5,none⟩)),(45,.pointer (some ⟨hh,0,none⟩)),(46,.pointer (some ⟨hh,0,none⟩)),(47,.pointer (some ⟨hh,0,none⟩)),(48,.slice ra rn rc),(49,.slice (some ⟨G,0,none⟩) 1 1),(50,.slice (some ⟨g2,0,none⟩) (rn+1) cap2),(51,.pointer (some ⟨hh,0,none⟩)),(52,.pointer (some ⟨hh,0,none⟩))]
def Qlb (n:Nat) (a0:Act) (wA:World) (b:Nat) (O A:Nat→Prop) (s:JSt) (hh rn rc:Nat) (ra:Option Addr) (S:Nat→Bool) (a:Act) (w:World):Prop :=
 a.tmps.size=n∧a.defers=[]∧(∀ t,([38,39,40,41,42,43,44,45,46,47,48,49,50,51,52]:List Tmp).contains t=false→a.tmps.getD t undef=a0.tmps.getD t undef)∧∃ G g2 cap2,
  (∀ x∈hTib,S x.1=true→∀ v,(QlF b hh rn rc G g2 cap2 ra).lookup x.2=some v→a.tmps.getD x.2 undef=v) ∧
  (S 15=false→wA.grownBy w (Value.slice ra rn rc).ownBlock∧(S 12=false→Below wA.heap.size wA w∧(S 11=true→wA.heap.size≤G∧w.heap[G]?=some (.cells #[.bool true] 4 (0,0)))) ∧
   (S 12=true→w.ownsRow 0 4 1 (.slice (some ⟨g2,0,none⟩) (rn+1) cap2) (rn+1) (s.H.map Value.bool++[.bool true])∧((Value.slice ra rn rc).ownBlock=some g2∨wA.heap.size≤g2)∧g2<w.heap.size)) ∧
  (S 15=true→QaG wA w b O A { s with H:=s.H++[true] })
section
variable {n:Nat}{a0 a:Act}{wA w w':World}{b hh rn rc:Nat}{O A:Nat→Prop}{s:JSt}{ra:Option Addr}{S:Nat→Bool}
theorem hTi_ltb:∀ x∈hTib,x.2<53∧([38,39,40,41,42,43,44,45,46,47,48,49,50,51,52]:List Tmp).contains x.2=true:=by decide
theorem Qlb.pure {i:Nat}{t:Tmp}{v:Value}(hI:Qlb n a0 wA b O A s hh rn rc ra S a w) (hn:53≤n) (hi:(i,t)∈hTib) (hv:∀ G g2 cap2,(QlF b hh rn rc G g2 cap2 ra).lookup t=some v) (h11:i≠11) (h12:i≠12) (h15:i≠15):Qlb n a0 wA b O A s hh rn rc ra (Qat i S) (a.put (some t) v) w:=by
 obtain⟨h1,h2,h3,G,g2,cap2,h4,h5,h6⟩:=hI
 obtain⟨ht,htc⟩:=hTi_ltb _ hi
 have hta:t<a.tmps.size:=by rw[h1];exact Zl ht hn
 refine⟨by rw[← h1];simp[Act.put],h2,fun u hu=>?_,G,g2,cap2,fun x hx hs v' hv'=>?_,?_,?_⟩
 ·have:u≠t:=fun e=>by subst e;rw[htc] at hu;cases hu
  rw[Q8 hta,if_neg this];exact h3 u hu
 ·rw[Q8 hta]
  by_cases e:x.2=t
  ·rw[if_pos e];rw[e,hv] at hv';exact Option.some.inj hv'
  ·rw[if_neg e]
   refine h4 x hx (QY (fun e2=>e ?_) hs) v' hv'
   have:∀ x∈hTib,∀ y∈hTib,x.1=y.1→x.2=y.2:=by decide
   exact this x hx (i,t) hi e2
 ·rw[ZV (Ne.symm h15),ZV (Ne.symm h12),ZV (Ne.symm h11)];exact h5
 ·rw[ZV (Ne.symm h15)];exact h6
end
theorem bUnderb:prog.underlying 72=some (.slice 4):=by kernel_rfl
theorem Qlr {wA:World}{b:Nat}{O A:Nat→Prop}{s:JSt}(hO:∀ k,A k→k<wA.heap.size) (h:Qb4 wA b O A s) (h16:s.H.length≤16) (a:Act) (hn:a.tmps.size=82) (hdf:a.defers=[]) (h0:a.tmps.getD 0 undef=.pointer (some ⟨b,0,none⟩)) :
 Code.wp prog ((Tryz.f24.body.bind (Qj 10)).getD .skip) (fun e a' w'=>e=.normal∧∃ vs,a'=Q5 a vs [38,39,40,41,42,43,44,45,46,47,48,49,50,51,52]∧QaG wA w' b O A { s with H:=s.H++[true] }) a wA:=by
 obtain⟨hh,ra,rc,q5,q0,hown,hfar,hpush⟩:=h.pushH hO
 obtain⟨i0,hi,hz0,hz1,hz2⟩:=hInfoB
 conv=>arg 2;whnf
 refine QdN (Qlb 82 a wA b O A s hh s.H.length rc ra) (by kernel_rfl) (by kernel_rfl) ?h0 ?hst ?hend
 case h0=>exact⟨hn,hdf,fun _ _=>rfl,0,0,0,fun _ _ h=>(by cases h),fun _=>⟨QeC (Qf Zr 1) _,fun _=>⟨Qf Zr 1,fun h=>by cases h⟩,fun h=>by cases h⟩,fun h=>by cases h⟩
 case hend =>
  rintro S a' w' hS ⟨h1,h2,h3,G,g2,cap2,h4,h5,h6⟩;have hS':∀ j,j<16→S j=true:=hS;exact⟨rfl,_,QfD (by rw[h1,hn]) (by rw[h2,hdf]) h3,h6 (hS' 15 (by decide))⟩
 case hst =>
  refine⟨fun S a1 w1 hS hd hcl hI K hK=>?_,?_⟩
  ·obtain⟨h1,h2,h3,G,g2,cap2,h4,h5,h6⟩:=id hI
   have H2:Hid (a1.defers=[]):=h2;clear h2;have n15:S 15=false:=hcl.no (q:=15) rfl (by kernel_rfl) hS;have k0:a1.tmps.getD 0 undef=.pointer (some ⟨b,0,none⟩):=(h3 0 (by kernel_rfl)).trans h0;go_simp;exact hK _ _ (hI.pure (by decide) (i:=0) (t:=38) (by decide) (fun _ _ _=>rfl) (by decide) (by decide) (by decide))
  refine⟨fun S a1 w1 hS hd hcl hI K hK=>?_,?_⟩
  ·obtain⟨h1,h2,h3,G,g2,cap2,h4,h5,h6⟩:=id hI
   have H2:Hid (a1.defers=[]):=h2;clear h2;have n15:S 15=false:=hcl.no (q:=15) rfl (by kernel_rfl) hS;have k0:a1.tmps.getD 38 undef=.pointer (some ⟨b,0,none⟩):=h4 (0,38) (by decide) (hd.at 0 (by kernel_rfl)) _ rfl;go_simp;exact hK _ _ (hI.pure (by decide) (i:=1) (t:=39) (by decide) (fun _ _ _=>rfl) (by decide) (by decide) (by decide))
  refine⟨fun S a1 w1 hS hd hcl hI K hK=>?_,?_⟩
  ·obtain⟨h1,h2,h3,G,g2,cap2,h4,h5,h6⟩:=id hI
   have H2:Hid (a1.defers=[]):=h2;clear h2;have n15:S 15=false:=hcl.no (q:=15) rfl (by kernel_rfl) hS;have k0:a1.tmps.getD 39 undef=.pointer (some ⟨b,0,none⟩):=h4 (1,39) (by decide) (hd.at 1 (by kernel_rfl)) _ rfl;go_simp;exact hK _ _ (hI.pure (by decide) (i:=2) (t:=40) (by decide) (fun _ _ _=>rfl) (by decide) (by decide) (by decide))
  refine⟨fun S a1 w1 hS hd hcl hI K hK=>?_,?_⟩
  ·obtain⟨h1,h2,h3,G,g2,cap2,h4,h5,h6⟩:=id hI
   have H2:Hid (a1.defers=[]):=h2;clear h2;have n15:S 15=false:=hcl.no (q:=15) rfl (by kernel_rfl) hS;have k0:a1.tmps.getD 40 undef=.pointer (some ⟨b,5,none⟩):=h4 (2,40) (by decide) (hd.at 2 (by kernel_rfl)) _ rfl;obtain⟨c0,-,-⟩:=hfar w1 (h5 n15).1
   go_simp;exact hK _ _ (hI.pure (by decide) (i:=3) (t:=41) (by decide) (fun _ _ _=>rfl) (by decide) (by decide) (by decide))
  refine⟨fun S a1 w1 hS hd hcl hI K hK=>?_,?_⟩
  ·obtain⟨h1,h2,h3,G,g2,cap2,h4,h5,h6⟩:=id hI
   have H2:Hid (a1.defers=[]):=h2;clear h2;have n15:S 15=false:=hcl.no (q:=15) rfl (by kernel_rfl) hS;have k0:a1.tmps.getD 0 undef=.pointer (some ⟨b,0,none⟩):=(h3 0 (by kernel_rfl)).trans h0;go_simp;exact hK _ _ (hI.pure (by decide) (i:=4) (t:=42) (by decide) (fun _ _ _=>rfl) (by decide) (by decide) (by decide))
  refine⟨fun S a1 w1 hS hd hcl hI K hK=>?_,?_⟩
  ·obtain⟨h1,h2,h3,G,g2,cap2,h4,h5,h6⟩:=id hI
   have H2:Hid (a1.defers=[]):=h2;clear h2;have n15:S 15=false:=hcl.no (q:=15) rfl (by kernel_rfl) hS;have k0:a1.tmps.getD 42 undef=.pointer (some ⟨b,0,none⟩):=h4 (4,42) (by decide) (hd.at 4 (by kernel_rfl)) _ rfl;go_simp;exact hK _ _ (hI.pure (by decide) (i:=5) (t:=43) (by decide) (fun _ _ _=>rfl) (by decide) (by decide) (by decide))
  refine⟨fun S a1 w1 hS hd hcl hI K hK=>?_,?_⟩
  ·obtain⟨h1,h2,h3,G,g2,cap2,h4,h5,h6⟩:=id hI
   have H2:Hid (a1.defers=[]):=h2;clear h2;have n15:S 15=false:=hcl.no (q:=15) rfl (by kernel_rfl) hS;have k0:a1.tmps.getD 43 undef=.pointer (some ⟨b,0,none⟩):=h4 (5,43) (by decide) (hd.at 5 (by kernel_rfl)) _ rfl;go_simp;exact hK _ _ (hI.pure (by decide) (i:=6) (t:=44) (by decide) (fun _ _ _=>rfl) (by decide) (by decide) (by decide))
  refine⟨fun S a1 w1 hS hd hcl hI K hK=>?_,?_⟩
  ·obtain⟨h1,h2,h3,G,g2,cap2,h4,h5,h6⟩:=id hI
   have H2:Hid (a1.defers=[]):=h2;clear h2;have n15:S 15=false:=hcl.no (q:=15) rfl (by kernel_rfl) hS;have k0:a1.tmps.getD 44 undef=.pointer (some ⟨b,5,none⟩):=h4 (6,44) (by decide) (hd.at 6 (by kernel_rfl)) _ rfl;obtain⟨c0,-,-⟩:=hfar w1 (h5 n15).1
   go_simp;exact hK _ _ (hI.pure (by decide) (i:=7) (t:=45) (by decide) (fun _ _ _=>rfl) (by decide) (by decide) (by decide))
  refine⟨fun S a1 w1 hS hd hcl hI K hK=>?_,?_⟩
  ·obtain⟨h1,h2,h3,G,g2,cap2,h4,h5,h6⟩:=id hI
   have H2:Hid (a1.defers=[]):=h2;clear h2;have n15:S 15=false:=hcl.no (q:=15) rfl (by kernel_rfl) hS;have k0:a1.tmps.getD 45 undef=.pointer (some ⟨hh,0,none⟩):=h4 (7,45) (by decide) (hd.at 7 (by kernel_rfl)) _ rfl;go_simp;exact hK _ _ (hI.pure (by decide) (i:=8) (t:=46) (by decide) (fun _ _ _=>rfl) (by decide) (by decide) (by decide))
  refine⟨fun S a1 w1 hS hd hcl hI K hK=>?_,?_⟩
  ·obtain⟨h1,h2,h3,G,g2,cap2,h4,h5,h6⟩:=id hI
   have H2:Hid (a1.defers=[]):=h2;clear h2;have n15:S 15=false:=hcl.no (q:=15) rfl (by kernel_rfl) hS;have k0:a1.tmps.getD 46 undef=.pointer (some ⟨hh,0,none⟩):=h4 (8,46) (by decide) (hd.at 8 (by kernel_rfl)) _ rfl;go_simp;exact hK _ _ (hI.pure (by decide) (i:=9) (t:=47) (by decide) (fun _ _ _=>rfl) (by decide) (by decide) (by decide))
  refine⟨fun S a1 w1 hS hd hcl hI K hK=>?_,?_⟩
  ·obtain⟨h1,h2,h3,G,g2,cap2,h4,h5,h6⟩:=id hI
   have H2:Hid (a1.defers=[]):=h2;clear h2;have n15:S 15=false:=hcl.no (q:=15) rfl (by kernel_rfl) hS;have k0:a1.tmps.getD 47 undef=.pointer (some ⟨hh,0,none⟩):=h4 (9,47) (by decide) (hd.at 9 (by kernel_rfl)) _ rfl;obtain⟨-,c0,-⟩:=hfar w1 (h5 n15).1
   go_simp;exact hK _ _ (hI.pure (by decide) (i:=10) (t:=48) (by decide) (fun _ _ _=>rfl) (by decide) (by decide) (by decide))
  refine⟨fun S a1 w1 hS hd hcl hI K hK=>?_,?_⟩
  ·obtain⟨h1,h2,h3,G,g2,cap2,h4,h5,h6⟩:=id hI
   have H2:Hid (a1.defers=[]):=h2;clear h2;have n15:S 15=false:=hcl.no (q:=15) rfl (by kernel_rfl) hS;have n12:S 12=false:=hcl.no (q:=12) rfl (by kernel_rfl) hS;have hb:=((h5 n15).2.1 n12).1;go_simp;have hta:49<a1.tmps.size:=by rw[h1];decide
   have hbA:Below wA.heap.size wA (w1.alloc (.cells #[.bool true] 4)):=hb.alloc hb.size _;refine hK _ _ ⟨by rw[← h1];simp[Act.put],H2.out,fun u hu=>?_,w1.heap.size,g2,cap2,fun x hx hs v hv=>?_,fun _=>⟨QeC hbA _,fun _=>⟨hbA,fun _=>⟨hb.size,Qe _ _ _⟩⟩,fun hs=>?_⟩,fun hs=>?_⟩
   ·have:u≠49:=fun e=>by subst e;revert hu;decide
    show (a1.put (some 49) _).tmps.getD u undef=_;rw[Q8 hta,if_neg this];exact h3 u hu
   ·show (a1.put (some 49) _).tmps.getD x.2 undef=_;rw[Q8 hta]
    simp only[hTib,List.mem_cons,List.not_mem_nil,or_false] at hx
    rcases hx with rfl | rfl | rfl | rfl | rfl | rfl | rfl | rfl | rfl | rfl | rfl | rfl | rfl | rfl | rfl
    all_goals first | (rw[if_pos rfl];exact Option.some.inj hv) | (rw[if_neg (by decide)];exact h4 _ (by decide) (QY (by decide) hs) v hv)
   ·rw[ZV (by decide),n12] at hs;cases hs
   ·rw[ZV (by decide),n15] at hs;cases hs
  refine⟨fun S a1 w1 hS hd hcl hI K hK=>?_,?_⟩
  ·obtain⟨h1,h2,h3,G,g2,cap2,h4,h5,h6⟩:=id hI
   have H2:Hid (a1.defers=[]):=h2;clear h2;have n15:S 15=false:=hcl.no (q:=15) rfl (by kernel_rfl) hS;have k0:a1.tmps.getD 48 undef=.slice ra s.H.length rc:=h4 (10,48) (by decide) (hd.at 10 (by kernel_rfl)) _ rfl;have k1:a1.tmps.getD 49 undef=.slice (some ⟨G,0,none⟩) 1 1:=h4 (11,49) (by decide) (hd.at 11 (by kernel_rfl)) _ rfl;have hb:=((h5 n15).2.1 hS).1;obtain⟨hG1,hG2⟩:=((h5 n15).2.1 hS).2 (hd.at 11 (by kernel_rfl))
   have hta:50<a1.tmps.size:=by rw[h1];decide
   have hown1:w1.ownsRow 0 4 1 (.slice ra s.H.length rc) s.H.length (s.H.map Value.bool):=by
    obtain⟨z1,z2⟩:=hown
    refine⟨z1,?_⟩
    rcases z2 with z | ⟨g,cap,cur,e,hg,hh9,r⟩
    ·exact .inl z
    ·exact .inr ⟨g,cap,cur,e,hg,(hb.block g (lt_of_block hh9)).trans hh9,r⟩
   refine wp_append_lies w1 (.tmp 48) (.tmp 49) 72 rfl 0 4 i0 (.bool false) 1 1 bUnderb hi hz0 hz1 hz2 rfl (by decide) _ _ _ k0 hown1 ⟨G,0,none⟩ 1 1 [.bool true] k1 rfl (fun j u hj=>?_) (QkG _) (by decide) (by unfold maxLen;omega) (by omega) (by simp) w1.heap.size rfl ?_
   ·match j,hj with
    | 0, hj => have e:(Value.bool true)=u:=by simpa using hj
               subst e;exact Qb hG2 0 _ rfl
    | j+1,hj=>simp at hj
   intro g9 cap9 w9 r1 r2 r3 r4;have hs9:=hb.size;refine hK _ _ ⟨by rw[← h1];simp[Act.put],H2.out,fun u hu=>?_,G,g9,cap9,fun x hx hs v hv=>?_,fun _=>⟨(h5 n15).1.trans r2,fun hs=>?_,fun _=>⟨r1,r3.imp id (fun e=>by omega),r4⟩⟩,fun hs=>?_⟩
   ·have:u≠50:=fun e=>by subst e;revert hu;decide
    show (a1.put (some 50) _).tmps.getD u undef=_;rw[Q8 hta,if_neg this];exact h3 u hu
   ·show (a1.put (some 50) _).tmps.getD x.2 undef=_;rw[Q8 hta]
    simp only[hTib,List.mem_cons,List.not_mem_nil,or_false] at hx
    rcases hx with rfl | rfl | rfl | rfl | rfl | rfl | rfl | rfl | rfl | rfl | rfl | rfl | rfl | rfl | rfl
    all_goals first | (rw[if_pos rfl];exact Option.some.inj hv) | (rw[if_neg (by decide)];exact h4 _ (by decide) (QY (by decide) hs) v hv)
   ·rw[QcC] at hs;cases hs
   ·rw[ZV (by decide),n15] at hs;cases hs
  refine⟨fun S a1 w1 hS hd hcl hI K hK=>?_,?_⟩
  ·obtain⟨h1,h2,h3,G,g2,cap2,h4,h5,h6⟩:=id hI
   have H2:Hid (a1.defers=[]):=h2;clear h2;have n15:S 15=false:=hcl.no (q:=15) rfl (by kernel_rfl) hS;have k0:a1.tmps.getD 41 undef=.pointer (some ⟨hh,0,none⟩):=h4 (3,41) (by decide) (hd.at 3 (by kernel_rfl)) _ rfl;go_simp;exact hK _ _ (hI.pure (by decide) (i:=13) (t:=51) (by decide) (fun _ _ _=>rfl) (by decide) (by decide) (by decide))
  refine⟨fun S a1 w1 hS hd hcl hI K hK=>?_,?_⟩
  ·obtain⟨h1,h2,h3,G,g2,cap2,h4,h5,h6⟩:=id hI
   have H2:Hid (a1.defers=[]):=h2;clear h2;have n15:S 15=false:=hcl.no (q:=15) rfl (by kernel_rfl) hS;have k0:a1.tmps.getD 51 undef=.pointer (some ⟨hh,0,none⟩):=h4 (13,51) (by decide) (hd.at 13 (by kernel_rfl)) _ rfl;go_simp;exact hK _ _ (hI.pure (by decide) (i:=14) (t:=52) (by decide) (fun _ _ _=>rfl) (by decide) (by decide) (by decide))
  refine⟨fun S a1 w1 hS hd hcl hI K hK=>?_,?_⟩
  ·obtain⟨h1,h2,h3,G,g2,cap2,h4,h5,h6⟩:=id hI
   have H2:Hid (a1.defers=[]):=h2;clear h2;have n15:=hS;have k0:a1.tmps.getD 52 undef=.pointer (some ⟨hh,0,none⟩):=h4 (14,52) (by decide) (hd.at 14 (by kernel_rfl)) _ rfl;have k1:a1.tmps.getD 50 undef=.slice (some ⟨g2,0,none⟩) (s.H.length+1) cap2:=h4 (12,50) (by decide) (hd.at 12 (by kernel_rfl)) _ rfl;obtain⟨-,c0,f0⟩:=hfar w1 (h5 n15).1
   obtain⟨r1,r2,r3⟩:=(h5 n15).2.2 (hd.at 12 (by kernel_rfl))
   have Z:=hpush w1 g2 cap2 r1 (h5 n15).1 r2 r3;go_simp;refine hK _ _ ⟨h1,H2.out,h3,G,g2,cap2,fun x hx hs v hv=>h4 x hx (QY (fun e=>?_) hs) v hv,fun hs=>?_,fun _=>Z⟩
   ·have:∀ x∈hTib,x.1≠15:=by decide
    exact this x hx e
   ·rw[QcC] at hs;cases hs
  trivial
structure QgZ (w wc:World) (b X:Nat) (O A Q:Nat→Prop) (s:JSt) (x:Qy) (rg ag:Option Addr) (rc ac:Nat):Prop where
 known:Qb4 wc b O A s
 box:wc.heap[X]?=some (.cells #[.int .i64 x.op,.int .i64 x.a,.int .i64 x.b,.int .i64 x.c,.int .i64 x.k,.int .i64 x.n,.slice rg x.regs.length rc,.slice ag x.args.length ac] 59 (0,0))
 regs:intsL.In wc Q x.regs [.slice rg x.regs.length rc]
 args:intsL.In wc Q x.args [.slice ag x.args.length ac]
 bel:Below w.heap.size w wc
 own:∀ k,A k→k<w.heap.size
 far:w.heap.size≤X
theorem QgZ.below {w wc:World}{b X:Nat}{O A Q:Nat→Prop}{s:JSt}{x:Qy}{rg ag:Option Addr}{rc ac:Nat}{w9:World}(h:QgZ w wc b X O A Q s x rg ag rc ac) (k:Below wc.heap.size wc w9):QgZ w w9 b X O A Q s x rg ag rc ac :=
 ⟨h.known.below k,(k.block X (lt_of_block h.box)).trans h.box,Lay.below h.regs k,Lay.below h.args k,h.bel.trans (k.mono h.bel.size),h.own,h.far⟩
theorem QgZ.lt {w wc:World}{b X:Nat}{O A Q:Nat→Prop}{s:JSt}{x:Qy}{rg ag:Option Addr}{rc ac:Nat}(h:QgZ w wc b X O A Q s x rg ag rc ac):∀ k,A k→k<wc.heap.size:=fun k hk=>Zl (h.own k hk) h.bel.size
theorem QgZ.cells {w wc:World}{b X:Nat}{O A Q:Nat→Prop}{s:JSt}{x:Qy}{rg ag:Option Addr}{rc ac:Nat}(h:QgZ w wc b X O A Q s x rg ag rc ac):wc.cell? ⟨X,0,none⟩=some (.int .i64 x.op)∧wc.cell? ⟨X,1,none⟩=some (.int .i64 x.a)∧wc.cell? ⟨X,2,none⟩=some (.int .i64 x.b)∧wc.cell? ⟨X,3,none⟩=some (.int .i64 x.c)∧wc.cell? ⟨X,4,none⟩=some (.int .i64 x.k)∧wc.cell? ⟨X,5,none⟩=some (.int .i64 x.n)∧wc.cell? ⟨X,6,none⟩=some (.slice rg x.regs.length rc)∧wc.cell? ⟨X,7,none⟩=some (.slice ag x.args.length ac) :=
 ⟨Qb h.box 0 _ rfl,Qb h.box 1 _ rfl,Qb h.box 2 _ rfl,Qb h.box 3 _ rfl,Qb h.box 4 _ rfl,Qb h.box 5 _ rfl,Qb h.box 6 _ rfl,Qb h.box 7 _ rfl⟩
theorem QgZ.far_cell {w wc:World}{b X:Nat}{O A Q:Nat→Prop}{s:JSt}{x:Qy}{rg ag:Option Addr}{rc ac:Nat}{w9:World}(h:QgZ w wc b X O A Q s x rg ag rc ac){O1:Nat→Prop}(k:Zn O O1 wc w9) (j:Nat):w9.cell? ⟨X,j,none⟩=wc.cell? ⟨X,j,none⟩ :=
 World.cell?_of_block (k.block X (lt_of_block h.box) (fun e=>by have:=h.own X (h.known.sub X e);have:=h.far;omega))
theorem QhN {w:World}{b:Nat}{O A Q:Nat→Prop}{s:JSt}{x:Qy}{rg ag:Option Addr}{rc ac:Nat}(hO:∀ k,A k→k<w.heap.size) (hJ:JOk s) (h:Qb4 w b O A s) (hregs:intsL.In w Q x.regs [.slice rg x.regs.length rc]) (hargs:intsL.In w Q x.args [.slice ag x.args.length ac]) (hrc:x.regs.length≤rc) :
 Calls prog 24 #[.pointer (some ⟨b,0,none⟩),QaR x rg ag rc ac] w fun e w'=>e=.returned (.int .i64 (s.code x))∧QaG w w' b O A (s.ins x):=by
 have HJ:=Qa hJ;have H00:=Qa h;obtain⟨i0,hi,hz0,hz1,hz2⟩:=pInfoT
 have b1:=QN w (.cells #[.int .i64 x.op,.int .i64 x.a,.int .i64 x.b,.int .i64 x.c,.int .i64 x.k,.int .i64 x.n,.slice rg x.regs.length rc,.slice ag x.args.length ac] 59);have S0:Hid (QgZ w (w.alloc (.cells #[.int .i64 x.op,.int .i64 x.a,.int .i64 x.b,.int .i64 x.c,.int .i64 x.k,.int .i64 x.n,.slice rg x.regs.length rc,.slice ag x.args.length ac] 59)) b w.heap.size O A Q s x rg ag rc ac):=⟨h.below b1,Qe w _ _,Lay.below hregs b1,Lay.below hargs b1,b1,hO,Ze⟩;clear h hregs hargs b1 hJ hO;go_enter func24,ntmps24
 go_upto_region 1 with fail
 obtain⟨X,hX⟩:∃ X,w.heap.size=X:=⟨_,rfl⟩
 generalize hw1:w.alloc (.cells #[.int .i64 x.op,.int .i64 x.a,.int .i64 x.b,.int .i64 x.c,.int .i64 x.k,.int .i64 x.n,.slice rg x.regs.length rc,.slice ag x.args.length ac] 59)=w1 at S0 ⊢;have S1:Hid (QgZ w w1 b X O A Q s x rg ag rc ac):=by rw[← hX];exact S0.out
 rw[hX]
 clear hw1 hX S0;obtain⟨pm,cm,a1,c1,a2,c2,a3,c3,hh,aL,cL,R⟩:=S1.out.known.one.read
 obtain⟨q0,-⟩:=R.cells
 obtain⟨x0,x1,x2,x3,x4,x5,x6,x7⟩:=S1.out.cells
 obtain⟨cf,hcf⟩:∃ cf,x.form s.m.length=cf:=⟨_,rfl⟩
 have HCF:Hid (x.form s.m.length=cf):=hcf;clear hcf;refine Code.wp_mono ?_ (ki1 q0 x0 x1 x2 x3 x4 x5 x6 x7 HCF _ _ rfl (Nat.le_of_ble_eq_true (by kernel_rfl)) rfl rfl);rintro ee aa w5 ⟨rfl,vs,rfl,hv5,hb⟩;simp only[Q5,Act.put,List.setIfInBounds_toArray,List.set_cons_zero,List.set_cons_succ,hv5]
 have S:Hid (QgZ w w5 b X O A Q s x rg ag rc ac):=S1.out.below hb;clear S1 hb hv5 q0 R x0 x1 x2 x3 x4 x5 x6 x7;by_cases hc0:cf=0
 rotate_left
 ·have hc0':(cf != 0)=true:=by simpa using hc0
  have E:Hid (s.code x=cf):=by show _=_;unfold JSt.code;rw[HCF.out,if_pos hc0]
  have E2:Hid (s.ins x=s):=by show _=_;unfold JSt.ins;rw[if_neg (by rw[E.out];exact hc0)]
  go_wp2_with fail
  go_ret;exact⟨by rw[E.out];rfl,by rw[E2.out];exact QaG.of_below H00.out S.out.bel⟩
 subst hc0;obtain⟨x0,x1,x2,x3,x4,x5,x6,x7⟩:=S.out.cells
 go_wp2_with fail
 refine(Qgz S.out.lt HJ.out S.out.known.one S.out.regs S.out.args hrc HCF.out).mono ?_
 rintro e4 w4 ⟨la,n,d,rfl,hm0,b4⟩;have S4:Hid (QgZ w w4 b X O A Q s x rg ag rc ac):=S.out.below b4;clear S b4 x0 x1 x2 x3 x4 x5 x6 x7;have S:=S4;clear S4;obtain⟨x0,x1,x2,x3,x4,x5,x6,x7⟩:=S.out.cells
 have HM0:=Qa hm0;clear hm0;obtain⟨cc,l,hmk⟩:∃ cc l,s.makes x=(cc,l):=⟨_,_,rfl⟩
 have HMK:Hid (s.makes x=(cc,l)):=hmk;have hl8:l.length≤8:=by have:=QiC HJ.out HCF.out;rw[hmk] at this;exact this
 rw[hmk] at HM0 ⊢
 clear hmk;by_cases hcc:cc=0
 rotate_left
 ·have hcc':(cc != 0)=true:=by simpa using hcc
  have E:Hid (s.code x=cc):=by show _=_;unfold JSt.code;rw[HCF.out,HMK.out,if_neg (by simp),if_pos hcc]
  have E2:Hid (s.ins x=s):=by show _=_;unfold JSt.ins;rw[if_neg (by rw[E.out];exact hcc)]
  clear HM0;go_wp2_with fail
  go_ret;exact⟨by rw[E.out];rfl,by rw[E2.out];exact QaG.of_below H00.out S.out.bel⟩
 subst hcc;obtain⟨hn,hnd,hlin⟩:=HM0.out rfl
 have HN:Hid (n=l.length):=hn;have HLB:Hid ((Qm 6).In w4 (fun g=>¬ A g) l [.slice la n d]):=hlin;have hn8:n≤8:=by have:n=l.length:=hn;omega
 clear HM0 hlin hn hl8;have hL80:s.L.length≤80:=HJ.out.vals;obtain⟨pm,cm,a1,c1,a2,c2,a3,c3,hh,aL,cL,R⟩:=S.out.known.one.read
 obtain⟨-,-,-,-,-,-,q6⟩:=R.cells
 have HRW:Hid (TRd w4 (fun g=>¬ A g) aL s.L):=R.row;clear R;by_cases hsum:s.L.length+n≤80
 rotate_left
 ·have hsum':decide ((80:Int)<(s.L.length:Int)+(n:Int))=true:=decide_eq_true (by omega);have E:Hid (s.code x=2):=by show _=_;unfold JSt.code;rw[HCF.out,HMK.out,if_neg (by simp),if_neg (by simp),if_pos (by rw[← HN.out];omega)]
  have E2:Hid (s.ins x=s):=by show _=_;unfold JSt.ins;rw[if_neg (by rw[E.out];decide)]
  generalize s.L.length=nL at q6 hL80 hsum hsum';go_wp2_with fail
  go_ret;exact⟨by rw[E.out];rfl,by rw[E2.out];exact QaG.of_below H00.out S.out.bel⟩
 have hsum':decide ((80:Int)<(s.L.length:Int)+(n:Int))=false:=decide_eq_false (by omega);have EC:Hid (s.code x=0):=by show _=_;unfold JSt.code;rw[HCF.out,HMK.out,if_neg (by simp),if_neg (by simp),if_neg (by rw[← HN.out];omega)]
 have B4:Hid (Below w.heap.size w w4):=S.out.bel;have HO4:Hid (∀ k,A k→k<w4.heap.size):=S.out.lt;by_cases h3:x.op=3
 ·rw[h3] at x0
  have h3':((3:Int)==3)=true:=rfl;go_upto_region 10 with fail
  refine Code.wp_mono ?_ (Qlr HO4.out S.out.known HJ.out.regs _ (by rfl) rfl rfl);rintro ee aa wB ⟨rfl,vs,rfl,hk⟩;simp only[Q5,Act.put,List.setIfInBounds_toArray,List.set_cons_zero,List.set_cons_succ]
  obtain⟨N,ltN,kB,stB⟩:=hk
  obtain⟨OB,hOB⟩:∃ OB:Nat→Prop,OB=fun k=>O k∨N k:=⟨_,rfl⟩
  obtain⟨AB,hAB⟩:∃ AB:Nat→Prop,AB=fun k=>A k∨N k:=⟨_,rfl⟩
  have y0:=(S.out.far_cell stB 0).trans x0;have HLB2:Hid ((Qm 6).In wB (fun g=>¬ AB g) l [.slice la n d]):=(Qm 6).keep (fun k hk hl=>stB.block k hl (fun e=>hk (H00.out.sub k e))) (fun k hk hl e=>by rw[hAB] at e;rcases e with e | e;exact hk e;have:=(ltN k e).1;omega) HLB.out;have HOB:=Qa (show ∀ k,AB k→k<_ from fun k hk=>by rw[hAB] at hk;rcases hk with hk | hk;exact Zl (HO4.out k hk) stB.size;exact(ltN k hk).2);have JN:=Qa (show ∀ w' s',QaG _ w' b OB AB s'→QaG _ w' b O A s' from fun w' s' z=>QaG.join (s':=s') ltN stB (by rw[hOB,hAB] at z;exact z));rw[← hOB,← hAB] at kB
  have HKB:=Qa kB;clear hOB hAB;clear HLB x0 x1 x2 x3 x4 x5 x6 x7 q6 kB stB ltN HRW S;have HLB:=HLB2;clear HLB2;obtain⟨aL,cL,xs,q6,f6,hle,how,hpush⟩:=HKB.out.pushL HOB.out
  have hLn:({ s with H:=s.H++[true] }).L.length=s.L.length:=rfl;have HPU:=Qa hpush;have HOW:=Qa how
  have HF:Hid (s.ins x={ ({ s with H:=s.H++[true] }) with L:=({ s with H:=s.H++[true] }).L++l }):=by
   show _=_;unfold JSt.ins;rw[if_pos EC.out]
   unfold JSt.next;rw[HMK.out,if_pos h3]
  clear hpush how;rw[hLn] at q6 HOW HPU hle
  clear hLn;by_cases hn0:n=0
  ·subst hn0;have hl0:l=[]:=List.length_eq_zero_iff.1 HN.out.symm;subst hl0
   have ha:Hid (∀ (t:TypeId) (wx:World),(Builtin.append_ #[52,52] t #[.slice aL s.L.length cL,.slice la 0 d]).run prog wx=.ok (.slice aL s.L.length cL) wx):=fun (t:TypeId) (wx:World)=>run_append_nothing (P:=prog) wx 52 52 t 79 i0 pUnderT hi aL s.L.length cL hle (.slice la 0 d) (by cases la with
    | none=>exact Src.ofNil wx pUnderT d
    | some ad=>exact Src.ofSlice wx pUnderT ad 0 d [] (by simp) (fun j u h=>by simp at h) (fun u h=>by cases h))
   have HZ:Hid (QaG w (wB.setCell ⟨b,6,none⟩ (.slice aL s.L.length cL)) b O A (s.ins x)):=by
    have e:∀ k,(wB.setCell ⟨b,6,none⟩ (.slice aL s.L.length cL)).heap[k]?=wB.heap[k]?:=fun k=>by
     rcases Nat.lt_or_ge k wB.heap.size with hk | hk
     ·exact HKB.out.one.same6 q6 k
     ·rw[Array.getElem?_eq_none (by simpa using hk),Array.getElem?_eq_none hk]
    have z:QaG wB (wB.setCell ⟨b,6,none⟩ (.slice aL s.L.length cL)) b OB AB ({ s with H:=s.H++[true] }):=QaG.of_below HKB.out ⟨rfl,rfl,rfl,by simp,fun k _=>e k⟩;rw[HF.out,List.append_nil]
    exact(JN.out _ _ z).after B4.out
   clear HPU HOW HF HKB HOB JN HLB;generalize s.L.length=nL at q6 ha HZ hL80 hle hsum;go_wp2_with (at_builtin;refine Zu rfl (.tmp 77) (.tmp 78) 52 rfl (.slice aL nL cL) (.slice la 0 d) rfl rfl (ha.out _ _) ?_)
   go_ret;exact⟨by rw[EC.out];rfl,HZ.out⟩
  ·obtain⟨g0,o0,rfl⟩:∃ g0 o0,la=some ⟨g0,o0,none⟩:=by
    obtain⟨g,o,dd,e,-⟩:=Lay.list_at HLB.out (Zg (show 0<l.length by have:=HN.out;omega))
    exact⟨g,o,e⟩
   obtain⟨ds,d1,d2,d3,d4⟩:=Lay.flat HLB.out (fun y cs hy=>by obtain⟨ya,yc,e,-⟩:=hy;subst e;exact Qes _ _ _ _ _)
   have d1':ds.length=n*3:=by rw[HN.out];exact d1
   have HD1:=Qa d1';have HD2:=Qa d2;have HD3:=Qa d3
   have HPU2:Hid (∀ w9 g cap2,w9.ownsRow 0 79 3 (.slice (some ⟨g,0,none⟩) (s.L.length+n) cap2) (s.L.length+n) (xs++ds)→wB.grownBy w9 (Value.slice aL s.L.length cL).ownBlock→((Value.slice aL s.L.length cL).ownBlock=some g∨g=wB.heap.size)→g<w9.heap.size→w9.cell? ⟨b,6,none⟩=some (.slice aL s.L.length cL)∧w9.frozen? ⟨b,6,none⟩=false∧QaG w (w9.setCell ⟨b,6,none⟩ (.slice (some ⟨g,0,none⟩) (s.L.length+n) cap2)) b O A (s.ins x)):=by
    intro w9 g cap2 r1 r2 r3 r4;rw[HN.out] at r1 ⊢
    obtain⟨z1,z2,z3⟩:=HPU.out w9 g cap2 l ds d1 r1 r2 r3 r4 d4
    rw[HF.out]
    exact⟨z1,z2,(JN.out _ _ z3).after B4.out⟩
   clear HPU HF HKB HOB JN HLB d1 d1' d2 d3 d4;have HSZ:Hid (0≤wB.heap.size):=Nat.zero_le _;generalize s.L.length=nL at q6 HOW HPU2 hL80 hle hsum;have hn1:0<n:=by omega
   go_wp2_with (at_builtin;refine wpList_append_lies _ rfl (.tmp 77) (.tmp 78) 52 rfl 0 79 i0 (.agg #[.int .i64 0,.int .i64 0,.slice none 0 0]) 3 40 pUnderT hi hz0 hz1 hz2 rfl (by decide) _ _ _ rfl HOW.out ⟨g0,o0,none⟩ n d ds rfl HD1.out HD2.out HD3.out hn1 (by unfold maxLen;omega) (by omega) HSZ.out wB.heap.size rfl ?_)
   intro g2 cap2 w9 r1 r2 r3 r4;obtain⟨q69,f69,z9⟩:=HPU2.out w9 g2 cap2 r1 r2 r3 r4
   have Z9:=Qa z9;clear r1 r2 r3 r4 HPU2 HOW z9 q6 f6;go_wp2
   go_ret;exact⟨by rw[EC.out];rfl,Z9.out⟩
 have h3':(x.op==3)=false:=by simpa using h3
 by_cases h4:x.op=4
 ·obtain⟨t,hat,hkd,hhas⟩:∃ t,s.at x.a=some t∧t.kind=2∧hHas s.H t.r=true:=by
   have e:=HMK.out;rw[Z0 h4] at e
   cases hat:s.at x.a with
   | none=>rw[hat] at e;simp at e
   | some t =>
     rw[hat] at e
     simp only[Prod.mk.injEq] at e
     obtain⟨t',e1,e2,e3⟩:=Qaj (Qag e.1).1
     rw[hat] at e1
     exact⟨t',e1 ▸ rfl,e2,e3 rfl⟩
  obtain⟨-,ha0,hal,hti⟩:=QaE hat
  obtain⟨i,hxa⟩:=Int.eq_ofNat_of_zero_le ha0
  rw[hxa] at hti hal x1
  obtain⟨gL,va,vc,rfl,v0,v1,v2,-,-⟩:=HRW.out i t (by simpa using hti)
  obtain⟨hr0,hrH⟩:=ZQ hhas
  obtain⟨r,hr⟩:=Int.eq_ofNat_of_zero_le hr0
  rw[hr] at v1 hrH
  obtain⟨h2,aH,cH,z5,z0,hset⟩:=S.out.known.setH HO4.out
  obtain⟨gH,rfl,⟨u0,hu0⟩,fu0,hkt⟩:=hset r (by omega)
  have HKT:=Qa hkt;have HAT:=Qa hat;have HRr:Hid (t.r=(r:Int)):=hr;clear hr;rw[h4] at x0
  clear hset hkt hhas hti hat hkd v0 v2;go_upto_region 12 with fail
  refine Ql3 z5 z0 q6 x1 v1 hal hrH _ _ rfl (Nat.le_of_ble_eq_true (by kernel_rfl)) rfl rfl ?_;rintro ops vs w7 hv72 b7;show wpList _ ops _ [_] (Q5 _ vs [56,57,58,59,60,61,62,63,64,65,66,67,68,69,70,71,72]) w7;simp only[Q5,Act.put,List.setIfInBounds_toArray,List.set_cons_zero,List.set_cons_succ,hv72]
  have S7:=Qa (S.out.below b7);obtain⟨h2',aH',cH',z5',z0',hset'⟩:=S7.out.known.setH S7.out.lt
  have e1:=(Qi z5 b7).symm.trans z5';simp only[Option.some.injEq,Value.pointer.injEq,Addr.mk.injEq,and_true] at e1
  subst e1;have e2:=(Qi z0 b7).symm.trans z0';simp only[Option.some.injEq,Value.slice.injEq,true_and] at e2
  obtain⟨rfl,rfl⟩:=e2
  obtain⟨gH',eg,⟨u7,hu7⟩,fu7,hkt7⟩:=hset' r (by omega)
  simp only[Option.some.injEq,Addr.mk.injEq,and_true] at eg
  subst eg;obtain⟨N,ltN,kB,stB⟩:=hkt7
  obtain⟨OB,hOB⟩:∃ OB:Nat→Prop,OB=fun k=>O k∨N k:=⟨_,rfl⟩
  obtain⟨AB,hAB⟩:∃ AB:Nat→Prop,AB=fun k=>A k∨N k:=⟨_,rfl⟩
  have B7:Hid (Below w.heap.size w w7):=S7.out.bel;have HO7:Hid (∀ k,A k→k<w7.heap.size):=S7.out.lt;have HLB2:Hid ((Qm 6).In (w7.setCell ⟨gH,r,none⟩ (.bool false)) (fun g=>¬ AB g) l [.slice la n d]):=(Qm 6).keep (fun k hk hl=>stB.block k hl (fun e=>hk (H00.out.sub k e))) (fun k hk hl e=>by rw[hAB] at e;rcases e with e | e;exact hk e;have:=(ltN k e).1;omega) (Lay.below HLB.out b7);have HOB:=Qa (show ∀ k,AB k→k<_ from fun k hk=>by rw[hAB] at hk;rcases hk with hk | hk;exact Zl (HO7.out k hk) stB.size;exact(ltN k hk).2);have JN:=Qa (show ∀ w' s',QaG _ w' b OB AB s'→QaG _ w' b O A s' from fun w' s' z=>QaG.join (s':=s') ltN stB (by rw[hOB,hAB] at z;exact z));rw[← hOB,← hAB] at kB
  have HKB:=Qa kB;clear hOB hAB;clear HLB x0 x1 x2 x3 x4 x5 x6 x7 q6 kB stB ltN HRW S S7 z5 z0 z5' z0' hset' HKT HO4 B4 b7 v1 fu0 hu0;have HLB:=HLB2;have HO4:=HO7;have B4:=B7;clear HLB2 HO7 B7;go_upto_region 13 with fail
  generalize w7.setCell ⟨gH,r,none⟩ (.bool false)=wB at HLB HKB HOB JN ⊢;clear hu7 fu7;obtain⟨aL,cL,xs,q6,f6,hle,how,hpush⟩:=HKB.out.pushL HOB.out
  have hLn:({ s with H:=s.H.set r false }).L.length=s.L.length:=rfl;have HPU:=Qa hpush;have HOW:=Qa how
  have HF:Hid (s.ins x={ ({ s with H:=s.H.set r false }) with L:=({ s with H:=s.H.set r false }).L++l }):=by
   show _=_;unfold JSt.ins;rw[if_pos EC.out]
   unfold JSt.next;rw[HMK.out,if_neg h3,if_pos h4];simp only[HAT.out,HRr.out,Int.toNat_natCast]
  clear hpush how;rw[hLn] at q6 HOW HPU hle
  clear hLn;by_cases hn0:n=0
  ·subst hn0;have hl0:l=[]:=List.length_eq_zero_iff.1 HN.out.symm;subst hl0
   have ha:Hid (∀ (t:TypeId) (wx:World),(Builtin.append_ #[52,52] t #[.slice aL s.L.length cL,.slice la 0 d]).run prog wx=.ok (.slice aL s.L.length cL) wx):=fun (t:TypeId) (wx:World)=>run_append_nothing (P:=prog) wx 52 52 t 79 i0 pUnderT hi aL s.L.length cL hle (.slice la 0 d) (by cases la with
    | none=>exact Src.ofNil wx pUnderT d
    | some ad=>exact Src.ofSlice wx pUnderT ad 0 d [] (by simp) (fun j u h=>by simp at h) (fun u h=>by cases h))
   have HZ:Hid (QaG w (wB.setCell ⟨b,6,none⟩ (.slice aL s.L.length cL)) b O A (s.ins x)):=by
    have e:∀ k,(wB.setCell ⟨b,6,none⟩ (.slice aL s.L.length cL)).heap[k]?=wB.heap[k]?:=fun k=>by
     rcases Nat.lt_or_ge k wB.heap.size with hk | hk
     ·exact HKB.out.one.same6 q6 k
     ·rw[Array.getElem?_eq_none (by simpa using hk),Array.getElem?_eq_none hk]
    have z:QaG wB (wB.setCell ⟨b,6,none⟩ (.slice aL s.L.length cL)) b OB AB ({ s with H:=s.H.set r false }):=QaG.of_below HKB.out ⟨rfl,rfl,rfl,by simp,fun k _=>e k⟩;rw[HF.out,List.append_nil]
    exact(JN.out _ _ z).after B4.out
   clear HPU HOW HF HKB HOB JN HLB;generalize s.L.length=nL at q6 ha HZ hL80 hle hsum;go_wp2_with (at_builtin;refine Zu rfl (.tmp 77) (.tmp 78) 52 rfl (.slice aL nL cL) (.slice la 0 d) rfl rfl (ha.out _ _) ?_)
   go_ret;exact⟨by rw[EC.out];rfl,HZ.out⟩
  ·obtain⟨g0,o0,rfl⟩:∃ g0 o0,la=some ⟨g0,o0,none⟩:=by
    obtain⟨g,o,dd,e,-⟩:=Lay.list_at HLB.out (Zg (show 0<l.length by have:=HN.out;omega))
    exact⟨g,o,e⟩
   obtain⟨ds,d1,d2,d3,d4⟩:=Lay.flat HLB.out (fun y cs hy=>by obtain⟨ya,yc,e,-⟩:=hy;subst e;exact Qes _ _ _ _ _)
   have d1':ds.length=n*3:=by rw[HN.out];exact d1
   have HD1:=Qa d1';have HD2:=Qa d2;have HD3:=Qa d3
   have HPU2:Hid (∀ w9 g cap2,w9.ownsRow 0 79 3 (.slice (some ⟨g,0,none⟩) (s.L.length+n) cap2) (s.L.length+n) (xs++ds)→wB.grownBy w9 (Value.slice aL s.L.length cL).ownBlock→((Value.slice aL s.L.length cL).ownBlock=some g∨g=wB.heap.size)→g<w9.heap.size→w9.cell? ⟨b,6,none⟩=some (.slice aL s.L.length cL)∧w9.frozen? ⟨b,6,none⟩=false∧QaG w (w9.setCell ⟨b,6,none⟩ (.slice (some ⟨g,0,none⟩) (s.L.length+n) cap2)) b O A (s.ins x)):=by
    intro w9 g cap2 r1 r2 r3 r4;rw[HN.out] at r1 ⊢
    obtain⟨z1,z2,z3⟩:=HPU.out w9 g cap2 l ds d1 r1 r2 r3 r4 d4
    rw[HF.out]
    exact⟨z1,z2,(JN.out _ _ z3).after B4.out⟩
   clear HPU HF HKB HOB JN HLB d1 d1' d2 d3 d4;have HSZ:Hid (0≤wB.heap.size):=Nat.zero_le _;generalize s.L.length=nL at q6 HOW HPU2 hL80 hle hsum;have hn1:0<n:=by omega
   go_wp2_with (at_builtin;refine wpList_append_lies _ rfl (.tmp 77) (.tmp 78) 52 rfl 0 79 i0 (.agg #[.int .i64 0,.int .i64 0,.slice none 0 0]) 3 40 pUnderT hi hz0 hz1 hz2 rfl (by decide) _ _ _ rfl HOW.out ⟨g0,o0,none⟩ n d ds rfl HD1.out HD2.out HD3.out hn1 (by unfold maxLen;omega) (by omega) HSZ.out wB.heap.size rfl ?_)
   intro g2 cap2 w9 r1 r2 r3 r4;obtain⟨q69,f69,z9⟩:=HPU2.out w9 g2 cap2 r1 r2 r3 r4
   have Z9:=Qa z9;clear r1 r2 r3 r4 HPU2 HOW z9 q6 f6;go_wp2
   go_ret;exact⟨by rw[EC.out];rfl,Z9.out⟩
 ·have h4':(x.op==4)=false:=by simpa using h4
  have HKB:Hid (Qb4 w4 b O A s):=S.out.known;have HOB:=HO4;have JN:Hid (∀ w' s',QaG w4 w' b O A s'→QaG w4 w' b O A s'):=fun _ _ z=>z;clear q6 HRW;obtain⟨aL,cL,xs,q6,f6,hle,how,hpush⟩:=HKB.out.pushL HOB.out
  have hLn:(s).L.length=s.L.length:=rfl;have HPU:=Qa hpush;have HOW:=Qa how
  have HF:Hid (s.ins x={ (s) with L:=(s).L++l }):=by
   show _=_;unfold JSt.ins;rw[if_pos EC.out]
   unfold JSt.next;rw[HMK.out,if_neg h3,if_neg h4]
  clear hpush how;rw[hLn] at q6 HOW HPU hle
  clear hLn;by_cases hn0:n=0
  ·subst hn0;have hl0:l=[]:=List.length_eq_zero_iff.1 HN.out.symm;subst hl0
   have ha:Hid (∀ (t:TypeId) (wx:World),(Builtin.append_ #[52,52] t #[.slice aL s.L.length cL,.slice la 0 d]).run prog wx=.ok (.slice aL s.L.length cL) wx):=fun (t:TypeId) (wx:World)=>run_append_nothing (P:=prog) wx 52 52 t 79 i0 pUnderT hi aL s.L.length cL hle (.slice la 0 d) (by cases la with
    | none=>exact Src.ofNil wx pUnderT d
    | some ad=>exact Src.ofSlice wx pUnderT ad 0 d [] (by simp) (fun j u h=>by simp at h) (fun u h=>by cases h))
   have HZ:Hid (QaG w (w4.setCell ⟨b,6,none⟩ (.slice aL s.L.length cL)) b O A (s.ins x)):=by
    have e:∀ k,(w4.setCell ⟨b,6,none⟩ (.slice aL s.L.length cL)).heap[k]?=w4.heap[k]?:=fun k=>by
     rcases Nat.lt_or_ge k w4.heap.size with hk | hk
     ·exact HKB.out.one.same6 q6 k
     ·rw[Array.getElem?_eq_none (by simpa using hk),Array.getElem?_eq_none hk]
    have z:QaG w4 (w4.setCell ⟨b,6,none⟩ (.slice aL s.L.length cL)) b O A (s):=QaG.of_below HKB.out ⟨rfl,rfl,rfl,by simp,fun k _=>e k⟩;rw[HF.out,List.append_nil]
    exact(JN.out _ _ z).after B4.out
   clear HPU HOW HF HKB HOB JN HLB;generalize s.L.length=nL at q6 ha HZ hL80 hle hsum;go_wp2_with (at_builtin;refine Zu rfl (.tmp 77) (.tmp 78) 52 rfl (.slice aL nL cL) (.slice la 0 d) rfl rfl (ha.out _ _) ?_)
   go_ret;exact⟨by rw[EC.out];rfl,HZ.out⟩
  ·obtain⟨g0,o0,rfl⟩:∃ g0 o0,la=some ⟨g0,o0,none⟩:=by
    obtain⟨g,o,dd,e,-⟩:=Lay.list_at HLB.out (Zg (show 0<l.length by have:=HN.out;omega))
    exact⟨g,o,e⟩
   obtain⟨ds,d1,d2,d3,d4⟩:=Lay.flat HLB.out (fun y cs hy=>by obtain⟨ya,yc,e,-⟩:=hy;subst e;exact Qes _ _ _ _ _)
   have d1':ds.length=n*3:=by rw[HN.out];exact d1
   have HD1:=Qa d1';have HD2:=Qa d2;have HD3:=Qa d3
   have HPU2:Hid (∀ w9 g cap2,w9.ownsRow 0 79 3 (.slice (some ⟨g,0,none⟩) (s.L.length+n) cap2) (s.L.length+n) (xs++ds)→w4.grownBy w9 (Value.slice aL s.L.length cL).ownBlock→((Value.slice aL s.L.length cL).ownBlock=some g∨g=w4.heap.size)→g<w9.heap.size→w9.cell? ⟨b,6,none⟩=some (.slice aL s.L.length cL)∧w9.frozen? ⟨b,6,none⟩=false∧QaG w (w9.setCell ⟨b,6,none⟩ (.slice (some ⟨g,0,none⟩) (s.L.length+n) cap2)) b O A (s.ins x)):=by
    intro w9 g cap2 r1 r2 r3 r4;rw[HN.out] at r1 ⊢
    obtain⟨z1,z2,z3⟩:=HPU.out w9 g cap2 l ds d1 r1 r2 r3 r4 d4
    rw[HF.out]
    exact⟨z1,z2,(JN.out _ _ z3).after B4.out⟩
   clear HPU HF HKB HOB JN HLB d1 d1' d2 d3 d4;have HSZ:Hid (0≤w4.heap.size):=Nat.zero_le _;generalize s.L.length=nL at q6 HOW HPU2 hL80 hle hsum;have hn1:0<n:=by omega
   go_wp2_with (at_builtin;refine wpList_append_lies _ rfl (.tmp 77) (.tmp 78) 52 rfl 0 79 i0 (.agg #[.int .i64 0,.int .i64 0,.slice none 0 0]) 3 40 pUnderT hi hz0 hz1 hz2 rfl (by decide) _ _ _ rfl HOW.out ⟨g0,o0,none⟩ n d ds rfl HD1.out HD2.out HD3.out hn1 (by unfold maxLen;omega) (by omega) HSZ.out w4.heap.size rfl ?_)
   intro g2 cap2 w9 r1 r2 r3 r4;obtain⟨q69,f69,z9⟩:=HPU2.out w9 g2 cap2 r1 r2 r3 r4
   have Z9:=Qa z9;clear r1 r2 r3 r4 HPU2 HOW z9 q6 f6;go_wp2
   go_ret;exact⟨by rw[EC.out];rfl,Z9.out⟩
theorem Qet {w:World}{B0:Nat}{m:List (Qg 6)}{f:Qg 6}{g:Qh 6}{pm:Option Addr}{cm fi bi:Nat}(hB0:B0≤w.heap.size) (hm:(Qaq 6).In w (fun g=>g<B0) m [.slice pm m.length cm]) (hf:m[fi]?=some f) (hg:f.blocks[bi]?=some g) (hc:∀ t∈g.params,t.count≤100000) (hn:g.params.length≤100000) :
 Calls prog 22 #[.agg #[.slice pm m.length cm],.int .i64 (fi:Int),.int .i64 (bi:Int)] w fun e w'=>∃ B O',e=.returned (.pointer (some ⟨B,0,none⟩))∧Qb4 w' B O' (fun k=>O' k∨(B0≤k∧k<w.heap.size)) (JSt.start m f g)∧(∀ k,O' k→w.heap.size≤k∧k<w'.heap.size)∧Below w.heap.size w w':=by
 obtain⟨mg,mo,ds,rfl,-,-,hcs,hfn⟩:=Lay.list_at hm hf
 obtain⟨fa,fc,fb,fd,fe,ff,rfl,-,-,hbs,-⟩:=ZH hfn
 obtain⟨eg,eo,p1,d1,es,rfl,hrange,hes,hpar,hone⟩:=QaQ hbs hg
 have hfi:(fi:Int)<m.length:=by have:=(Zi hf).1;omega
 have hbi:(bi:Int)<f.blocks.length:=by have:=(Zi hg).1;omega
 have hfi0:(0:Int)≤fi:=by omega
 have hbi0:(0:Int)≤bi:=by omega
 have v0:w.cell? ⟨mg,mo+fi*4,none⟩=some (.int .i64 f.regs):=hcs 0 (by decide);have v1:w.cell? ⟨mg,mo+fi*4+1,none⟩=some (.slice fa f.params.length fc):=hcs 1 (by decide);have v2:w.cell? ⟨mg,mo+fi*4+2,none⟩=some (.slice fb f.results.length fd):=hcs 2 (by decide);have v3:w.cell? ⟨mg,mo+fi*4+3,none⟩=some (.slice (some ⟨eg,eo,none⟩) f.blocks.length ff):=hcs 3 (by decide);have b1:=QN w (.cells #[.slice (some ⟨mg,mo,none⟩) m.length cm] 24);have hblk:=Qe w #[.slice (some ⟨mg,mo,none⟩) m.length cm] 24;have HM:Hid ((Qaq 6).In w (fun g=>g<B0) m [.slice (some ⟨mg,mo,none⟩) m.length cm]):=hm;have HF:Hid ((Zy 6).In w (fun g=>g<B0) f [.int .i64 f.regs,.slice fa f.params.length fc,.slice fb f.results.length fd,.slice (some ⟨eg,eo,none⟩) f.blocks.length ff]):=hfn;have HP:Hid ((Qm 6).In w (fun g=>g<B0) g.params [.slice p1 g.params.length d1]):=hpar;have HRG:=Qa hrange;have HONE:=Qa hone;have HES:=Qa hes;have HC:=Qa hc;have HFI:=Qa hf;have HGI:=Qa hg;have x0:=Qb hblk 0 _ rfl;have u3:=Qi v3 b1;clear hcs hfn hbs hrange hes hpar hone hc hf hg hm hblk;go_enter func22,ntmps22
 have HB1:=Qa b1;have HRG1:Hid ((w.alloc (.cells #[.slice (some ⟨mg,mo,none⟩) m.length cm] 24)).rangeAt eg (eo+bi*12) (Value.int .i64 g.regs::Value.slice p1 g.params.length d1::es)):=Q9 HRG.out b1;have hl12:Hid ((Value.int .i64 g.regs::Value.slice p1 g.params.length d1::es).length=12):=by show _=_;simp[HES.out]
 have TS:Hid ((prog.info? 84).map (·.size)=some (Value.int .i64 g.regs::Value.slice p1 g.params.length d1::es).length):=by show _=_;rw[hl12.out];exact sizeBk
 clear b1;go_upto_region 1 with fail
 obtain⟨X,hX⟩:∃ X,w.heap.size=X:=⟨_,rfl⟩
 have HX:Hid (w.heap.size=X):=hX;generalize w.alloc (.cells #[.slice (some ⟨mg,mo,none⟩) m.length cm] 24)=w1 at x0 u3 HB1 HRG1 ⊢;rw[hX] at x0 ⊢
 clear hX;generalize hds:(Value.int .i64 g.regs::Value.slice p1 g.params.length d1::es)=cs at HRG1 TS;have HDS:Hid ((Value.int .i64 g.regs::Value.slice p1 g.params.length d1::es)=cs):=hds;have hl:cs.length=12:=by rw[← hds];exact hl12.out
 have TH:Hid ((w1.alloc (.cells #[.int .i64 0,.slice none 0 0,.slice none 0 0,.int .i64 0,.int .i64 0,.int .i64 0,.slice none 0 0,.slice none 0 0,.int .i64 0,.slice none 0 0,.slice none 0 0,.slice none 0 0] 84)).there w1.heap.size 0 cs.toArray.size):=by
  intro j hj;rw[List.size_toArray,hl] at hj
  rw[Nat.zero_add]
  have hB:=Qe w1 #[.int .i64 0,.slice none 0 0,.slice none 0 0,.int .i64 0,.int .i64 0,.int .i64 0,.slice none 0 0,.slice none 0 0,.int .i64 0,.slice none 0 0,.slice none 0 0,.slice none 0 0] 84;refine⟨?_,Qp hB j⟩
  rw[Qb hB j ((#[.int .i64 0,.slice none 0 0,.slice none 0 0,.int .i64 0,.int .i64 0,.int .i64 0,.slice none 0 0,.slice none 0 0,.int .i64 0,.slice none 0 0,.slice none 0 0,.slice none 0 0]:Array Value)[j]'hj) (by simp)];rfl
 have TS2:Hid ((prog.info? 84).map (·.size)=some cs.toArray.size):=by show _=_;rw[List.size_toArray];exact TS.out
 have TO:Hid (cs.toArray.all (·.oneCell')=true):=by
  refine all_oneCell_toArray fun v hv=>?_;rw[← hds] at hv
  simp only[List.mem_cons] at hv
  rcases hv with rfl | rfl | hv
  ·rfl
  ·rfl
  ·exact HONE.out v hv
 have B6:Hid (Blk ((w1.alloc (.cells #[.int .i64 0,.slice none 0 0,.slice none 0 0,.int .i64 0,.int .i64 0,.int .i64 0,.slice none 0 0,.slice none 0 0,.int .i64 0,.slice none 0 0,.slice none 0 0,.slice none 0 0] 84)).setCells w1.heap.size 0 cs.toArray.toList) w1.heap.size cs.toArray 84):=by
  have h0:Blk (w1.alloc (.cells #[.int .i64 0,.slice none 0 0,.slice none 0 0,.int .i64 0,.int .i64 0,.int .i64 0,.slice none 0 0,.slice none 0 0,.int .i64 0,.slice none 0 0,.slice none 0 0,.slice none 0 0] 84)) w1.heap.size ([]++(#[.int .i64 0,.slice none 0 0,.slice none 0 0,.int .i64 0,.int .i64 0,.int .i64 0,.slice none 0 0,.slice none 0 0,.int .i64 0,.slice none 0 0,.slice none 0 0,.slice none 0 0]:Array Value).toList).toArray 84:=Qe w1 _ _;exact Blk.sets cs [] (#[.int .i64 0,.slice none 0 0,.slice none 0 0,.int .i64 0,.int .i64 0,.int .i64 0,.slice none 0 0,.slice none 0 0,.int .i64 0,.slice none 0 0,.slice none 0 0,.slice none 0 0]:Array Value).toList _ (by rw[hl];rfl) h0
 have b6:Hid (Below w1.heap.size w1 ((w1.alloc (.cells #[.int .i64 0,.slice none 0 0,.slice none 0 0,.int .i64 0,.int .i64 0,.int .i64 0,.slice none 0 0,.slice none 0 0,.int .i64 0,.slice none 0 0,.slice none 0 0,.slice none 0 0] 84)).setCells w1.heap.size 0 cs.toArray.toList)):=by
  have:=Zn.setCells (O:=fun k=>k=w1.heap.size) (O':=fun k=>k=w1.heap.size) (b:=w1.heap.size) rfl cs.toArray.toList 0 _ (Zn.refl _ (w1.alloc (.cells #[.int .i64 0,.slice none 0 0,.slice none 0 0,.int .i64 0,.int .i64 0,.int .i64 0,.slice none 0 0,.slice none 0 0,.int .i64 0,.slice none 0 0,.slice none 0 0,.slice none 0 0] 84)))
  exact(QN w1 _).trans (this.below (by simp) (fun k hk=>by omega))
 have B6:Hid (Blk ((w1.alloc (.cells #[.int .i64 0,.slice none 0 0,.slice none 0 0,.int .i64 0,.int .i64 0,.int .i64 0,.slice none 0 0,.slice none 0 0,.int .i64 0,.slice none 0 0,.slice none 0 0,.slice none 0 0] 84)).setCells w1.heap.size 0 cs.toArray.toList) w1.heap.size (Value.int .i64 g.regs::Value.slice p1 g.params.length d1::es).toArray 84):=by rw[HDS.out];exact B6.out
 have BW:Hid (Below w.heap.size w ((w1.alloc (.cells #[.int .i64 0,.slice none 0 0,.slice none 0 0,.int .i64 0,.int .i64 0,.int .i64 0,.slice none 0 0,.slice none 0 0,.int .i64 0,.slice none 0 0,.slice none 0 0,.slice none 0 0] 84)).setCells w1.heap.size 0 cs.toArray.toList)):=HB1.out.trans (b6.out.mono HB1.out.size);have x06:=Qi x0 b6.out;clear hl hds;generalize hnm:m.length=nm at x0 x06 hfi;have HNM:Hid (m.length=nm):=hnm;generalize hnb:f.blocks.length=nb at u3 hbi;clear hnm hnb;go_upto_region 2 with (first | (refine wpList_load_mid rfl 84 (.tmp 15) rfl eg (eo+bi*12) rfl cs _ HRG1.out underlying84 rfl TS.out ?_) | (refine wpList_store_mid rfl 84 (.tmp 7) (.tmp 16) rfl w1.heap.size 0 cs.toArray rfl rfl TH.out TS2.out TO.out ?_))
 clear TH TS TS2 TO u3 x0 HRG1 b6 HB1;generalize (w1.alloc (.cells #[.int .i64 0,.slice none 0 0,.slice none 0 0,.int .i64 0,.int .i64 0,.int .i64 0,.slice none 0 0,.slice none 0 0,.int .i64 0,.slice none 0 0,.slice none 0 0,.slice none 0 0] 84)).setCells w1.heap.size 0 cs.toArray.toList=w6 at B6 BW x06 ⊢;generalize w1.heap.size=Bk at B6 ⊢;have y0:=Qb B6.out 0 _ rfl;have y1:=Qb B6.out 1 _ rfl;have z0:=Qi v0 BW.out;have z1:=Qi v1 BW.out;have z2:=Qi v2 BW.out;have z3:=Qi v3 BW.out;have HP6:Hid ((Qm 6).In w6 (fun g=>g<B0) g.params [.slice p1 g.params.length d1]):=Lay.below HP.out BW.out;refine Code.wp_mono ?_ (ka2 x06 hfi z0 z1 z2 z3 y0 y1 (show Hid (g.params.length=g.params.length) from rfl) HP6 HC hn _ (by rfl) rfl rfl rfl rfl);rintro ee aa w7 ⟨rfl,vs,rfl,B,hv6,h,vL,O',r1,r2,r3,r4,r5,r6⟩;simp only[Q5,Act.put,List.setIfInBounds_toArray,List.set_cons_zero,List.set_cons_succ,hv6]
 have B7:Hid (Below w.heap.size w w7):=BW.out.trans (r6.mono BW.out.size)
 have Z:Hid (Qb4 w7 B O' (fun k=>O' k∨(B0≤k∧k<w.heap.size)) (JSt.start m f g)):=by
  rw[← HNM.out] at r1
  refine⟨_,_,_,_,_,_,_,_,h,vL,r1,(Qaq 6).keep (fun k _ hl=>B7.out.block k hl) (fun k hk hl e=>?_) HM.out,(Zy 6).keep (fun k _ hl=>B7.out.block k hl) (fun k hk hl e=>?_) HF.out,r2,(by obtain⟨xs,q1,q2,q3⟩:=r3;exact⟨xs,q1,q2,fun i x hx=>(Lay.tt 6).keep (fun _ _ _=>rfl) (fun k hk _ e=>by rcases e with e | e;exact hk.1 e;(have h1:=hk.2;have h2:=BW.out.size;omega)) (q3 i x hx)⟩),r4,fun k hk=>.inl hk⟩
  ·have hk:k<B0:=hk;rcases e with e | e;(have:=(r5 k e).1;have:=BW.out.size;omega);omega
  ·have hk:k<B0:=hk;rcases e with e | e;(have:=(r5 k e).1;have:=BW.out.size;omega);omega
 have HO:Hid (∀ k,O' k→w.heap.size≤k∧k<w7.heap.size):=fun k hk=>⟨Zt BW.out.size (r5 k hk).1,(r5 k hk).2⟩;clear r1 r2 r3 r4 r5 r6 y0 y1 z0 z1 z2 z3 x06 B6 BW;go_wp2
 go_ret;exact⟨B,rfl,O',Z.out,HO.out,B7.out⟩
def ZX (w:World) (bs bk B0:Nat) (s r:JSt):Prop :=
 ∃ OS OK A,SAt w bs OS A s∧Qb4 w bk OK A r∧(∀ k,OS k→OK k→False)∧(∀ k,A k→B0≤k∧k<w.heap.size)∧JOk s∧JOk r
section
variable {w w':World}{bs bk B0:Nat}{s r:JSt}
theorem ZX.below (h:ZX w bs bk B0 s r) (k:Below w.heap.size w w'):ZX w' bs bk B0 s r:=by
 obtain⟨OS,OK,A,h1,h2,h3,h4,h5,h6⟩:=h
 exact⟨OS,OK,A,h1.below k,h2.below k,h3,fun j hj=>⟨(h4 j hj).1,Zl (h4 j hj).2 k.size⟩,h5,h6⟩
theorem ZX.one (h:ZX w bs bk B0 s r):SOk w bs B0 s:=by
 obtain⟨OS,OK,A,h1,h2,h3,h4,h5,h6⟩:=h
 exact⟨OS,A,h1,h4,h5⟩
theorem ZX.known (h:ZX w bs bk B0 s r):∃ A,KAt w bk A r∧JOk r∧∀ k,A k→k<w.heap.size:=by
 obtain⟨OS,OK,A,h1,h2,h3,h4,h5,h6⟩:=h
 exact⟨A,h2.one,h6,fun k hk=>(h4 k hk).2⟩
theorem ZX.sins (h:ZX w bs bk B0 s r) (hB:B0≤w.heap.size){Q:Nat→Prop}{x:Qy}{rg ag:Option Addr}{rc ac:Nat}(hregs:intsL.In w Q x.regs [.slice rg x.regs.length rc]) (hargs:intsL.In w Q x.args [.slice ag x.args.length ac]) (hrc:x.regs.length≤rc) (hrng:Zx x) :
 Calls prog 23 #[.pointer (some ⟨bs,0,none⟩),QaR x rg ag rc ac] w fun e w'=>e=.returned (.int .i64 (s.code x))∧ZX w' bs bk B0 (s.ins x) r∧Below B0 w w':=by
 obtain⟨OS,OK,A,h1,h2,h3,h4,h5,h6⟩:=h
 refine(QdG (fun k hk=>(h4 k hk).2) h5 h1 hregs hargs hrc hrng).mono ?_
 rintro e w' ⟨rfl,N,g1,g2,g3⟩;have es:=g3.size;refine⟨rfl,⟨_,OK,_,g2,?_,?_,?_,h5.ins x,h6⟩,⟨g3.os,g3.tape,g3.output,g3.size,fun k hk=>g3.block k (by omega) (fun e=>by have:=h4 k (h1.sub k e);omega)⟩⟩
 ·refine h2.keep (fun k hl hk=>g3.block k hl (fun e=>?_)) (fun _ h _=>h) (fun k hk hl e=>?_) (fun k hk=>.inl (h2.sub k hk))
  ·rcases hk with hk | hk
   ·exact h3 k e hk
   ·exact hk (h1.sub k e)
  ·rcases e with e | e
   ·exact hk e
   ·have:=g1 k e;omega
 ·intro k hk hk2;rcases hk with hk | hk
  ·exact h3 k hk hk2
  ·have:=(h4 k (h2.sub k hk2)).2;have:=g1 k hk;omega
 ·intro k hk;rcases hk with hk | hk
  ·have:=h4 k hk;omega
  ·have:=g1 k hk;omega
theorem ZX.kins (h:ZX w bs bk B0 s r) (hB:B0≤w.heap.size){Q:Nat→Prop}{x:Qy}{rg ag:Option Addr}{rc ac:Nat}(hregs:intsL.In w Q x.regs [.slice rg x.regs.length rc]) (hargs:intsL.In w Q x.args [.slice ag x.args.length ac]) (hrc:x.regs.length≤rc) :
 Calls prog 24 #[.pointer (some ⟨bk,0,none⟩),QaR x rg ag rc ac] w fun e w'=>e=.returned (.int .i64 (r.code x))∧ZX w' bs bk B0 s (r.ins x)∧Below B0 w w':=by
 obtain⟨OS,OK,A,h1,h2,h3,h4,h5,h6⟩:=h
 refine(QhN (fun k hk=>(h4 k hk).2) h6 h2 hregs hargs hrc).mono ?_
 rintro e w' ⟨rfl,N,g1,g2,g3⟩;have es:=g3.size;refine⟨rfl,⟨OS,_,_,?_,g2,?_,?_,h5,h6.ins x⟩,⟨g3.os,g3.tape,g3.output,g3.size,fun k hk=>g3.block k (by omega) (fun e=>by have:=h4 k (h2.sub k e);omega)⟩⟩
 ·refine h1.keep (fun k hl hk=>g3.block k hl (fun e=>?_)) (fun _ h _=>h) (fun k hk hl e=>?_) (fun k hk=>.inl (h1.sub k hk))
  ·rcases hk with hk | hk
   ·exact h3 k hk e
   ·exact hk (h2.sub k e)
  ·rcases e with e | e
   ·exact hk e
   ·have:=g1 k e;omega
 ·intro k hk2 hk;rcases hk with hk | hk
  ·exact h3 k hk2 hk
  ·have:=(h4 k (h1.sub k hk2)).2;have:=g1 k hk;omega
 ·intro k hk;rcases hk with hk | hk
  ·have:=h4 k hk;omega
  ·have:=g1 k hk;omega
theorem ZX.start {O A O':Nat→Prop}(h1:SAt w bs O A s) (hA:∀ k,A k→B0≤k∧k<w.heap.size) (hJ:JOk s) (hJr:JOk r) (hb:Below w.heap.size w w') (hB:B0≤w.heap.size) (h2:Qb4 w' bk O' (fun k=>O' k∨(B0≤k∧k<w.heap.size)) r) (hO:∀ k,O' k→w.heap.size≤k∧k<w'.heap.size):ZX w' bs bk B0 s r:=by
 have hs:=hb.size;refine⟨O,O',fun k=>A k∨O' k,h1.keep (fun g hg _=>hb.block g hg) (fun _ h _=>h) (fun k hk hl e=>?_) (fun k hk=>.inl (h1.sub k hk)),h2.keep (fun _ _ _=>rfl) (fun _ h _=>h) (fun k hk hl e=>?_) (fun k hk=>.inr hk),fun k h h'=>?_,fun k hk=>?_,hJ,hJr⟩
 ·rcases e with e | e
  ·exact hk e
  ·have:=(hO k e).1;omega
 ·rcases e with e | e
  ·exact hk (.inr (hA k e))
  ·exact hk (.inl e)
 ·have:=(hA k (h1.sub k h)).2;have:=(hO k h').1;omega
 ·rcases hk with hk | hk
  ·have:=hA k hk;omega
  ·have:=hO k hk;omega
end
theorem Qkh {w:World}{O:Nat→Prop}{x:MEnd}{cs:List Value}(h:endC.In w O x cs):∃ e:EP,cs=(ZT x e).toList∧Qa2 w O x e∧(-9223372036854775808≤x.a∧x.a≤9223372036854775807)∧x.yes.regs.length≤e.cYR∧x.no.regs.length≤e.cNR:=by
 obtain⟨e,h1,h2,h3,h4⟩:=QhM h
 refine⟨e,h1,h2,?_,h3,h4⟩
 obtain⟨_,_,rfl,⟨rfl,_⟩,_,_,rfl,⟨rfl,ha⟩,_⟩:=h
 exact ha
section
variable (E:Tmp→Value→World→Prop) (W:(Nat→Bool)→World→Prop) (R:World→World→Prop) (P:Program) (l:List Oper)
def Qf3 (i:Nat) (o:Oper):Prop:=∀ (S:Nat→Bool) w,S i=false→Qe2 o S→ZE l S→W S w→W (Qat i S) w∧EO E o.dst undef w
def QcA (ops:Array Oper):List (Nat × Option Bool)→Prop
 | []=>True
 | (g,c)::r=>(∀ t,(ops[g]?).bind (·.dst)=some t→∀ v w,E t v w→match c with | some b=>v=.bool b | none=>v=undef)∧QcA ops r
structure QjZ (outs:List Tmp) (a0:Act) (listed:Array Bool) (a:Act) (w:World):Prop where
 world:W (fun j=>listed.getD j false) w
 closed:ZE l (fun j=>listed.getD j false)
 defers:a.defers=a0.defers
 size:a.tmps.size=a0.tmps.size
 outer:∀ t,t ∉ Ql l→a.tmps[t]?=a0.tmps[t]?
 outs:∀ t∈outs,t ∉ Ql l→E t (a.tmps.getD t undef) w
 known:∀ j o t,l[j]?=some o→o.dst=some t→listed.getD j false=true→E t (a.tmps.getD t undef) w
end
section
variable {P:Program}{E:Tmp→Value→World→Prop}{W:(Nat→Bool)→World→Prop}{R:World→World→Prop}
theorem Qdq {ops:Array Oper}:∀ (gs:List (Nat × Option Bool)),QcA E ops gs→∀ g c,gs.lookup g=some c→∀ t,(ops[g]?).bind (·.dst)=some t→∀ v w,E t v w→match c with | some b=>v=.bool b | none=>v=undef
 | [],_,_,_,h=>by simp at h
 | (g',c')::r,h,g,c,hl=>by
   by_cases e:g=g'
   ·subst e;simp at hl;subst hl;exact h.1
   ·have e':(g==g')=false:=by simpa using e
    simp[List.lookup_cons,e'] at hl;exact Qdq r h.2 g c hl
end
def Qk8 (l:List Oper) (S:Nat→Bool) (t:Tmp):Prop:=t∈Ql l→∃ j o,l[j]?=some o∧o.dst=some t∧S j=true
section
variable (E:Tmp→Value→World→Prop) (W:(Nat→Bool)→World→Prop) (P:Program) (l:List Oper)
def QhX (i:Nat) (o:Oper):Prop :=
 ∀ (S:Nat→Bool) a w,S i=false→Qe2 o S→ZE l S→W S w→Qgx E a w (QfU o)→∀ K:Act→World→Prop,(∀ v w',(∀ t u,Qk8 l S t→E t u w→E t u w')→W (Qat i S) w'→EO E o.dst v w'→K (a.put o.dst v) w')→o.wp P a w K (fun _ _ _=>False)
def AllOkP:Nat→List Oper→List Bool→Prop
 | i,o::r,true::bs=>QhX E W P l i o∧AllOkP (i+1) r bs
 | i,o::r,false::bs=>Qf3 E W l i o∧AllOkP (i+1) r bs
 | _,_,_=>True
end
section
variable {P:Program}{E:Tmp→Value→World→Prop}{W:(Nat→Bool)→World→Prop}
theorem Qfs {l0:List Oper}(gs:List (Nat × Option Bool)):∀ (l:List Oper) (k:Nat) (bs:List Bool),QjD gs l bs=true→AllOkP E W P l0 k l bs→∀ (i:Nat) (o:Oper),l[i]?=some o→(onB gs o true=true∧QhX E W P l0 (k+i) o)∨(onB gs o false=true∧Qf3 E W l0 (k+i) o)
 | [],_,_,_,_,_,_,h=>by simp at h
 | _::_,_,[],h,_,_,_,_=>by simp[QjD] at h
 | x::l,k,b::bs,h,ha,i,o,ho=>by
   simp only[QjD,Bool.and_eq_true] at h
   cases i with
   | zero =>
     simp at ho;subst ho
     cases b with
     | true=>exact .inl ⟨h.1,ha.1⟩
     | false=>exact .inr ⟨h.1,ha.1⟩
   | succ i =>
     simp at ho
     have e:k+(i+1)=k+1+i:=by omega
     rw[e]
     cases b with
     | true=>exact Qfs gs l (k+1) bs h.2 ha.2 i o ho
     | false=>exact Qfs gs l (k+1) bs h.2 ha.2 i o ho
theorem QgR {l:List Oper}{outs:List Tmp}{gs:List (Nat × Option Bool)}{bs:List Bool}{a0:Act}{Q:Exit→Act→World→Prop}
 (hB:Qa9 l a0.tmps.size outs gs bs=true) (hG:QcA E l.toArray gs) (hA:AllOkP E W P l 0 l bs)
 (hend:∀ (vs:Tmp→Value) (S:Nat→Bool) w',(∀ j,j<l.length→S j=true)→W S w'→(∀ t,(Ql l).contains t=true→E t (vs t) w')→Q .normal (Q5 a0 vs (Ql l)) w') :
 ∀ (fuel:Nat) (listed:Array Bool) (a:Act) (w:World),listed.size=l.length→(listed.toList.filter (·==false)).length≤fuel→QjZ E W l outs a0 listed a w →
  wpAny P .any l.toArray Q fuel listed a w:=by
 simp only[Qa9,Bool.and_eq_true] at hB
 obtain⟨⟨⟨⟨⟨hgd,hnd⟩,hsz⟩,hlk⟩,hon⟩,hbk⟩:=hB
 have fin:∀ (listed:Array Bool) (a:Act) (w:World),listed.size=l.length→Region.ready .any l.toArray listed=[]→QjZ E W l outs a0 listed a w→Q .normal a w:=by
  intro listed a w hs hr hc
  have hall:∀ j,j<l.length→listed.getD j false=true:=by
   intro j
   induction j using Nat.strongRecOn with
   | _ j ih =>
     intro hj
     cases hb:listed.getD j false with
     | true=>rfl
     | false =>
       exfalso
       have:j∈Region.ready .any l.toArray listed:=by
        unfold Region.ready;refine List.mem_filter.2 ⟨by simpa using hj,?_⟩
        have e1:listed.getD j true=false:=by
         have hj':j<listed.size:=by omega
         simp[Array.getD,hj'] at hb ⊢;exact hb
        have e2:l.toArray[j]?=some l[j]:=by simp[hj]
        rw[e1,e2]
        simp only[Bool.not_false,Bool.true_and,Option.map_some,Option.getD_some]
        rw[Array.all_eq_true_iff_forall_mem]
        intro e he
        cases hbd:Region.binds .any e with
        | false=>rfl
        | true =>
          have:=back_at l 0 j l[j] hbk (by simp[hj]) e he hbd
          simp only[Bool.not_true,Bool.false_or]
          exact ih e.on (by omega) (by omega)
       rw[hr] at this
       cases this
  have hmem:∀ t∈Ql l,E t (a.tmps.getD t undef) w∧t<a0.tmps.size:=by
   intro t ht;obtain⟨o,ho,hd⟩:=List.mem_filterMap.1 ht
   obtain⟨j,hj⟩:=List.getElem?_of_mem ho
   have hlt:j<l.length:=by
    rcases Nat.lt_or_ge j l.length with h | h
    ·exact h
    ·rw[List.getElem?_eq_none h] at hj;cases hj
   exact⟨hc.known j o t hj hd (hall j hlt),by simpa using List.all_eq_true.1 hsz t ht⟩
  have he:a=Q5 a0 (fun t=>a.tmps.getD t undef) (Ql l):=by
   have e1:a.tmps=(Q5 a0 (fun t=>a.tmps.getD t undef) (Ql l)).tmps:=by
    refine Array.ext (by rw[Qac,hc.size]) fun t h1 h2=>?_;have h3:t<a0.tmps.size:=by rw[← hc.size];exact h1
    have:=Qbi (fun t=>a.tmps.getD t undef) (Ql l) a0 t h3
    rw[Array.getElem?_eq_getElem h2] at this
    by_cases hm:t∈Ql l
    ·rw[if_pos hm] at this
     simp only[Option.some.injEq] at this
     rw[this];simp[Array.getD,h1]
    ·rw[if_neg hm,← hc.outer t hm,Array.getElem?_eq_getElem h1] at this
     exact(Option.some.inj this).symm
   have e2:a.defers=(Q5 a0 (fun t=>a.tmps.getD t undef) (Ql l)).defers:=by rw[ZY,hc.defers]
   cases a with
   | mk t d =>
     simp only at e1 e2
     generalize hp:Q5 a0 (fun x=>t.getD x undef) (Ql l)=p at e1 e2 ⊢
     cases p;simp only at e1 e2;rw[e1,e2]
  rw[he]
  exact hend _ _ _ hall hc.world fun t ht=>(hmem t (by simpa using ht)).1
 intro fuel
 induction fuel with
 | zero =>
   intro listed a w hs hf hc
   have hr:Region.ready .any l.toArray listed=[]:=by
    rw[List.eq_nil_iff_forall_not_mem]
    intro i hi;obtain⟨h1,h2⟩:=List.mem_filter.1 hi
    have hlt:i<l.length:=by simpa using h1
    simp only[Bool.and_eq_true,Bool.not_eq_true'] at h2
    have:listed[i]'(by omega)=false:=by
     have:=h2.1;simp[Array.getD,show i<listed.size by omega] at this;exact this
    have hm:false∈listed.toList.filter (·==false):=List.mem_filter.2 ⟨by rw[← this];simp,by simp⟩
    have:=List.length_pos_of_mem hm
    omega
   exact⟨hr,fin listed a w hs hr hc⟩
 | succ fuel ih =>
   intro listed a w hs hf hc;refine⟨fun hr=>fin listed a w hs hr hc,fun i hi=>?_⟩
   obtain⟨h1,h2⟩:=List.mem_filter.1 hi
   have hlt:i<l.length:=by simpa using h1
   simp only[Bool.and_eq_true,Bool.not_eq_true'] at h2
   obtain⟨hun,hdone⟩:=h2
   have hil:i<listed.size:=by omega
   have hun':listed[i]=false:=by simp[Array.getD,hil] at hun;exact hun
   have ho:l.toArray[i]?=some l[i]:=by simp[hlt]
   have ho':l[i]?=some l[i]:=by simp[hlt]
   generalize hoo:l[i]=o at ho ho';rw[ho] at hdone
   simp only[Option.map_some,Option.getD_some] at hdone
   rw[Array.all_eq_true_iff_forall_mem] at hdone
   have hlooks:∀ t∈o.looksAt l.toArray,E t (a.tmps.getD t undef) w:=by
    intro t ht
    have:=List.all_eq_true.1 (List.all_eq_true.1 hlk o (Zm ho')) t ht
    rw[Bool.or_eq_true] at this
    rcases this with h | h
    ·simp only[Bool.and_eq_true,Bool.not_eq_true'] at h
     exact hc.outs t (by simpa using h.1) (by simpa using h.2)
    ·obtain⟨k,hk,h⟩:=Array.any_eq_true.1 h
     simp only[Bool.and_eq_true,beq_iff_eq] at h
     obtain⟨hb,hd⟩:=h
     have hl:=hdone _ (Array.getElem_mem hk);rw[hb] at hl
     simp only[Bool.not_true,Bool.false_or] at hl
     generalize o.after[k]=e at *;obtain⟨oj,hoj,hdj⟩:=Option.bind_eq_some_iff.1 hd
     exact hc.known e.on oj t (by simpa using hoj) hdj hl
   have hkn:Qgx E a w (QfU o):=Qd8 _ fun t ht=>hlooks t (by
    unfold Oper.looksAt;exact List.mem_append_left _ ht)
   have hw:∀ b,onB gs o b=true→Region.wanted o (yielded l.toArray a.tmps)=b:=by
    intro b hb;unfold onB at hb;unfold Region.wanted
    cases hg:o.guard with
    | none=>rw[hg] at hb;simp only at hb ⊢;exact hb.symm
    | some gw =>
      obtain⟨g,want⟩:=gw
      rw[hg] at hb
      simp only at hb ⊢
      cases hl:gs.lookup g with
      | none=>rw[hl] at hb;cases hb
      | some c =>
        rw[hl] at hb
        simp only[beq_iff_eq] at hb
        have hy:yielded l.toArray a.tmps g=c:=by
         unfold yielded;have hmg:(g,c)∈gs:=mem_of_lookup gs g c hl;have hsome:=List.all_eq_true.1 hgd _ hmg
         cases hd:(l.toArray[g]?).bind (·.dst) with
         | none=>rw[hd] at hsome;cases hsome
         | some t =>
           have hE:=hlooks t (by unfold Oper.looksAt;rw[hg];simp only[hd];simp);have hv:=Qdq gs hG g c hl t hd _ _ hE;obtain⟨og,hog,hdg⟩:=Option.bind_eq_some_iff.1 hd
           have htl:t<a.tmps.size:=by
            rw[hc.size]
            have:=List.all_eq_true.1 hsz t (List.mem_filterMap.2 ⟨og,Zm (by simpa using hog),hdg⟩)
            simpa using this
           have ht:a.tmps[t]?=some (a.tmps.getD t undef):=by simp[Array.getD,htl]
           simp only[Option.bind_some,ht]
           cases c with
           | none=>simp only at hv;rw[hv];rfl
           | some b=>simp only at hv;rw[hv]
        rw[hy,hb]
   have hlen:((listed.setIfInBounds i true).toList.filter (·==false)).length≤fuel:=by
    have h3:=filter_set listed.toList i (by simpa using hil) (by simpa using hun');rw[Array.toList_setIfInBounds]
    omega
   have hfun:(fun j=>(listed.setIfInBounds i true).getD j false)=Qat i (fun j=>listed.getD j false):=by
    funext j
    unfold Qat;by_cases e:j=i
    ·subst e;simp[Array.getD,hil]
    ·have hne:i≠j:=fun x=>e x.symm;rw[Za,Array.getElem?_setIfInBounds_ne hne,← Za]
     simp[e]
   have hdep:Qe2 o (fun j=>listed.getD j false):=fun e he hb=>by
    have:=hdone e he
    rw[hb] at this
    simpa using this
   have hi0:(fun j=>listed.getD j false) i=false:=by simp[Array.getD,hil,hun']
   have next:∀ v w',W (Qat i (fun j=>listed.getD j false)) w'→(∀ t u,Qk8 l (fun j=>listed.getD j false) t→E t u w→E t u w')→EO E o.dst v w'→QjZ E W l outs a0 (listed.setIfInBounds i true) (a.put o.dst v) w':=by
    intro v w' hw' hst hv
    have hput:∀ t,o.dst≠some t→(a.put o.dst v).tmps[t]?=a.tmps[t]?:=by
     intro t ht
     cases hd:o.dst with
     | none=>rfl
     | some d =>
       have:d≠t:=fun e=>ht (by rw[hd,e])
       simp[Act.put,this]
    have hgetD:∀ (b c:Array Value) (t:Nat),b[t]?=c[t]?→b.getD t undef=c.getD t undef:=by
     intro b c t h;rw[Za,Za,h]
    refine⟨by rw[hfun];exact hw',?_,?_,?_,?_,?_,?_⟩
    ·rw[hfun]
     intro j oj hj hS e he hbd;unfold Qat at hS ⊢;by_cases e':j=i
     ·subst e';rw[ho'] at hj
      obtain rfl:=Option.some.inj hj
      have:=hdep e he hbd
      simp only at this
      simp[this]
     ·have:(j==i)=false:=by simpa using e'
      rw[this,Bool.false_or] at hS
      have:=hc.closed j oj hj hS e he hbd
      simp only at this
      simp[this]
    ·rw[← hc.defers];cases o.dst<;>rfl
    ·rw[← hc.size];cases o.dst<;>simp[Act.put]
    ·intro t ht;rw[hput t (fun e=>ht (List.mem_filterMap.2 ⟨o,Zm ho',e⟩)),hc.outer t ht]
    ·intro t ht hn;rw[hgetD _ _ t (hput t (fun e=>hn (List.mem_filterMap.2 ⟨o,Zm ho',e⟩)))]
     exact hst _ _ (fun h=>absurd h hn) (hc.outs t ht hn)
    ·intro j oj t hj hd hlj;by_cases hji:j=i
     ·subst hji;rw[ho'] at hj
      obtain rfl:=Option.some.inj hj
      have htl:t<a.tmps.size:=by
       rw[hc.size]
       have:=List.all_eq_true.1 hsz t (List.mem_filterMap.2 ⟨o,Zm ho',hd⟩)
       simpa using this
      rw[hd] at hv ⊢
      have:(a.put (some t) v).tmps.getD t undef=v:=by simp[Act.put,Array.getD,htl]
      rw[this];exact hv
     ·have hne:o.dst≠some t:=fun e=>hji (nodup_apart l j i oj o t hnd hj ho' hd e);rw[hgetD _ _ t (hput t hne)]
      have hne':i≠j:=fun e=>hji e.symm
      have hdn:listed.getD j false=true:=by
       rw[Za,Array.getElem?_setIfInBounds_ne hne'] at hlj
       rw[Za];exact hlj
      exact hst _ _ (fun _=>⟨j,oj,hj,hd,hdn⟩) (hc.known j oj t hj hd hdn)
   unfold wpOp;rw[ho]
   simp only
   rcases Qfs gs l 0 bs hon hA i o ho' with ⟨h,hst⟩|⟨h,hst⟩
   ·rw[hw true h,if_pos rfl]
    refine .inl (wpq (fun a' w' hh=>hh) ((Nat.zero_add i ▸ hst) (fun j=>listed.getD j false) a w hi0 hdep hc.closed hc.world hkn _ fun v w' hr hw' hv=>?_));exact ih _ _ _ (by simpa using hs) hlen (next v w' hw' hr hv)
   ·rw[hw false h]
    simp only[Bool.false_eq_true,if_false]
    exact ih _ _ _ (by simpa using hs) hlen (next undef w ((Nat.zero_add i ▸ hst) (fun j=>listed.getD j false) w hi0 hdep hc.closed hc.world).1 (fun _ _ _ h=>h) ((Nat.zero_add i ▸ hst) (fun j=>listed.getD j false) w hi0 hdep hc.closed hc.world).2)
theorem Qdh {id:Nat}{l:List Oper}{outs:List Tmp}{gs:List (Nat × Option Bool)}{bs:List Bool}{a:Act}{w:World}{Q:Exit→Act→World→Prop}
 (E:Tmp→Value→World→Prop) (W:(Nat→Bool)→World→Prop)
 (hm:P.follows .mixedOrders=true) {n m:Nat} (hn:a.tmps.size=m) (hnm:n≤m) (hB:Qa9 l n outs gs bs=true)
 (hG:QcA E l.toArray gs) (hW:W (fun _=>false) w.drew) (hO:Qbr E a w.drew outs)
 (hA:AllOkP E W P l 0 l bs)
 (hend:∀ (vs:Tmp→Value) (S:Nat→Bool) w',(∀ j,j<l.length→S j=true)→W S w'→(∀ t,(Ql l).contains t=true→E t (vs t) w')→Q .normal (Q5 a vs (Ql l)) w') :
 (Code.region id l.toArray true).wp P Q a w:=by
 refine wp_region_any hm ?_
 have e0:(fun j=>(Array.replicate l.length false).getD j false)=fun _=>false:=by
  funext j
  rw[Za,Array.getElem?_replicate]
  split<;>rfl
 have e1:l.toArray.size=l.length:=by simp
 rw[e1]
 refine QgR (Qca (hn ▸ hnm) hB) hG hA hend _ _ _ _ (by simp) ?_ ⟨by rw[e0];exact hW,(by rw[e0];intro j o _ h;cases h),rfl,rfl,fun _ _=>rfl,fun t ht _=>Qbj outs hO t ht,?_⟩
 ·simp only[Array.toList_replicate]
  exact Zt (List.length_filter_le _ _) (by simp)
 ·intro j o t hj hd hl;simp[Array.getD] at hl
end
def Qcx (w:World) (l:List Int) (v:Value):Prop:=∃ a c,v=.slice a l.length c∧intsL.In w (fun _=>True) l [.slice a l.length c]
theorem Qcx.below {w w':World}{l:List Int}{v:Value}(h:Qcx w l v) (k:Below w.heap.size w w'):Qcx w' l v:=by
 obtain⟨a,c,e,h⟩:=h
 exact⟨a,c,e,Lay.below h k⟩
theorem Qce.v {w w':World}{l:List Int}{e:Ending}(h:Qce w l e w'):∃ v,e=.returned v∧Qcx w' l v∧Below w.heap.size w w':=by
 obtain⟨a,c,e,h,b⟩:=h
 exact⟨_,e,⟨a,c,rfl,Lay.mono h (fun _ _ _=>trivial)⟩,b⟩
theorem QgJ {w:World}{l:List Int}{v u:Value}(hl:l.length≤100000) (hv:Qcx w l v) (hu:Qcx w l u) :
 Calls prog 27 #[v,u] w fun e w'=>e=.returned (.bool true)∧Below w.heap.size w w':=by
 obtain⟨a,c,rfl,h⟩:=hv
 obtain⟨b,d,rfl,k⟩:=hu
 exact Qfp rfl hl h k
def QkB (l:List Oper) (ps:List Tmp) (i:Nat):Bool:=l.all fun o=>match o.dst with | some t=>!ps.contains t||Qbq l 24 o i | none=>true
theorem Qki {l:List Oper}{ps:List Tmp}{i:Nat}{S:Nat→Bool}(h:QkB l ps i=true) (hcl:ZE l S) (hS:S i=false){t:Tmp}(ht:ps.contains t=true) (hm:(Ql l).contains t=true) (hL:Qk8 l S t):False:=by
 obtain⟨j,o,hj,hd,hs⟩:=hL (by simpa using hm)
 have h1:=List.all_eq_true.1 h o (Zm hj);rw[hd] at h1
 simp only at h1
 rw[ht,Bool.not_true,Bool.false_or] at h1
 have:=hcl.viab hj h1 hs
 rw[hS] at this;cases this
theorem Qe2.far {l:List Oper}{o:Oper}{S:Nat→Bool}(hd:Qe2 o S) (hcl:ZE l S){i:Nat}(hw:Qbq l 24 o i=true):S i=true :=
 Qa4 (all:=l) (S:=fun j=>S j=true) hcl 24 o hw hd
theorem underInsT:∃ fs,prog.underlying 59=some (.struct fs):=⟨_,underlying59⟩
theorem sizeInsT:(prog.info? 59).map (·.size)=some 8:=by kernel_rfl
theorem ZX.lists {w:World}{bs bk B0:Nat}{s r:JSt}(h:ZX w bs bk B0 s r):∃ hk aL cL O,w.cell? ⟨bk,5,none⟩=some (.pointer (some ⟨hk,0,none⟩))∧Qk w hk O r.H∧w.cell? ⟨bk,6,none⟩=some (.slice aL r.L.length cL)∧LIn w All r.L aL:=by
 obtain⟨A,h1,-,-⟩:=h.known
 obtain⟨pm,cm,a1,c1,a2,c2,a3,c3,hk,aL,cL,R⟩:=h1.read
 obtain⟨-,-,-,-,-,q5,q6⟩:=R.cells
 exact⟨hk,aL,cL,_,q5,R.holds,q6,(QJ (R.row.typesL (c:=cL))).1⟩
def jW (wB:World) (bs bk:Nat) (x:Qy) (s:JSt) (S:Nat→Bool) (w:World):Prop :=
 Below wB.heap.size wB w∧ZX w bs bk wB.heap.size (bif S 5 then s.ins x else s) (bif S 11 then s.ins x else s)
theorem jW.same {wB w:World}{bs bk:Nat}{x:Qy}{s:JSt}{S:Nat→Bool}{j:Nat}(h:jW wB bs bk x s S w) (h5:5≠j) (h11:11≠j):jW wB bs bk x s (Qat j S) w:=by
 unfold jW;rw[ZV h5,ZV h11];exact h
theorem jW.more {wB w w':World}{bs bk:Nat}{x:Qy}{s:JSt}{S:Nat→Bool}{j:Nat}(h:jW wB bs bk x s S w) (b:Below w.heap.size w w') (h5:5≠j) (h11:11≠j):jW wB bs bk x s (Qat j S) w' :=
 jW.same (S:=S) ⟨h.1.trans (b.mono h.1.size),h.2.below b⟩ h5 h11
theorem jW.both {wB w:World}{bs bk:Nat}{x:Qy}{s:JSt}{S:Nat→Bool}(h:jW wB bs bk x s S w) (h5:S 5=true) (h11:S 11=true):ZX w bs bk wB.heap.size (s.ins x) (s.ins x):=by
 have h:=h.2;rw[h5,h11] at h;exact h
noncomputable def Qi8 (x:Qy) (s:JSt):List (Tmp × (Value→World→Prop)):=[(140,fun v w=>∃ a c,v=.slice a (s.ins x).L.length c∧LIn w All (s.ins x).L a),(144,fun v w=>∃ a c,v=.slice a (s.ins x).L.length c∧LIn w All (s.ins x).L a),(152,fun v w=>∃ h,v=.pointer (some ⟨h,0,none⟩)∧Qt w h (s.ins x).H),(153,fun v w=>Qcx w (hList (s.ins x).H) v),(157,fun v w=>∃ h,v=.pointer (some ⟨h,0,none⟩)∧∃ O,Qk w h O (s.ins x).H),(158,fun v w=>Qcx w (hList (s.ins x).H) v),(166,fun v w=>∃ h,v=.pointer (some ⟨h,0,none⟩)∧Qt w h (s.ins x).H),(171,fun v w=>∃ h,v=.pointer (some ⟨h,0,none⟩)∧∃ O,Qk w h O (s.ins x).H),(172,fun v w=>∃ h,v=.pointer (some ⟨h,0,none⟩)∧∃ O,Qk w h O (s.ins x).H),(173,fun v w=>∃ h,v=.pointer (some ⟨h,0,none⟩)∧∃ O,Qk w h O (s.ins x).H),(174,fun v w=>∃ a c,v=.slice a (s.ins x).H.length c)]
noncomputable def Qlf (bs bk lg lo nl cl i rc ac:Nat) (rg ag:Option Addr) (x:Qy) (s:JSt):List (Tmp × Value):=[(11,.pointer (some ⟨bs,0,none⟩)),(14,.pointer (some ⟨bk,0,none⟩)),(3,.slice (some ⟨lg,lo,none⟩) nl cl),(15,.int .i64 (i:Int)),(125,.pointer (some ⟨bs,0,none⟩)),(126,.slice (some ⟨lg,lo,none⟩) nl cl),(127,.int .i64 (i:Int)),(128,.pointer (some ⟨lg,lo+i*8,none⟩)),(129,QaR x rg ag rc ac),(130,.int .i64 (s.code x)),(131,.pointer (some ⟨bk,0,none⟩)),(132,.slice (some ⟨lg,lo,none⟩) nl cl),(133,.int .i64 (i:Int)),(134,.pointer (some ⟨lg,lo+i*8,none⟩)),(135,QaR x rg ag rc ac),(136,.int .i64 (s.code x)),(137,.bool false),(138,.bool false),(139,.pointer (some ⟨bs,0,none⟩)),(141,.pointer (some ⟨bk,0,none⟩)),(142,.pointer (some ⟨bk,0,none⟩)),(143,.pointer (some ⟨bk,6,none⟩)),(145,.bool true),(146,.bool false),(147,.bool false),(148,.bool false),(149,.pointer (some ⟨bs,0,none⟩)),(150,.pointer (some ⟨bs,0,none⟩)),(151,.pointer (some ⟨bs,1,none⟩)),(154,.pointer (some ⟨bk,0,none⟩)),(155,.pointer (some ⟨bk,0,none⟩)),(156,.pointer (some ⟨bk,5,none⟩)),(159,.bool true),(160,.bool false),(161,.bool false),(162,.bool false),(163,.pointer (some ⟨bs,0,none⟩)),(164,.pointer (some ⟨bs,0,none⟩)),(165,.pointer (some ⟨bs,1,none⟩)),(167,.int .i64 ((s.ins x).H.length:Int)),(168,.pointer (some ⟨bk,0,none⟩)),(169,.pointer (some ⟨bk,0,none⟩)),(170,.pointer (some ⟨bk,5,none⟩)),(175,.int .i64 ((s.ins x).H.length:Int)),(176,.bool false),(177,.bool false)]
def Qfc (bs bk lg lo nl cl i rc ac:Nat) (rg ag:Option Addr) (x:Qy) (s:JSt) (t:Tmp) (v:Value) (w:World):Prop :=
 match (Qi8 x s).lookup t with
 | some p=>p v w
 | none=>v=((Qlf bs bk lg lo nl cl i rc ac rg ag x s).lookup t).getD undef
section
variable {bs bk lg lo nl cl i rc ac:Nat}{rg ag:Option Addr}{x:Qy}{s:JSt}
theorem Qei (t:Tmp) (v:Value) (w w':World) (hr:Below w.heap.size w w') (h:Qfc bs bk lg lo nl cl i rc ac rg ag x s t v w):Qfc bs bk lg lo nl cl i rc ac rg ag x s t v w':=by
 unfold Qfc at h ⊢;split at h
 ·rename_i p hp
  simp only[Qi8,List.lookup_cons,List.lookup_nil] at hp
  split at hp
  ·cases hp;exact(by obtain⟨a,c,e,h1⟩:=h;exact⟨a,c,e,h1.below hr⟩)
  ·split at hp
   ·cases hp;exact(by obtain⟨a,c,e,h1⟩:=h;exact⟨a,c,e,h1.below hr⟩)
   ·split at hp
    ·cases hp;exact(by obtain⟨b,e,h1⟩:=h;exact⟨b,e,h1.below hr⟩)
    ·split at hp
     ·cases hp;exact Qcx.below h hr
     ·split at hp
      ·cases hp;exact(by obtain⟨b,e,O,h1⟩:=h;exact⟨b,e,O,h1.below hr⟩)
      ·split at hp
       ·cases hp;exact Qcx.below h hr
       ·split at hp
        ·cases hp;exact(by obtain⟨b,e,h1⟩:=h;exact⟨b,e,h1.below hr⟩)
        ·split at hp
         ·cases hp;exact(by obtain⟨b,e,O,h1⟩:=h;exact⟨b,e,O,h1.below hr⟩)
         ·split at hp
          ·cases hp;exact(by obtain⟨b,e,O,h1⟩:=h;exact⟨b,e,O,h1.below hr⟩)
          ·split at hp
           ·cases hp;exact(by obtain⟨b,e,O,h1⟩:=h;exact⟨b,e,O,h1.below hr⟩)
           ·split at hp
            ·cases hp;exact h
            ·cases hp
 ·exact h
theorem QeG {l:List Oper}{S:Nat→Bool}{j:Nat}(hl:QkB l [140,144,152,153,157,158,166,171,172,173,174] j=true) (hd:(([140,144,152,153,157,158,166,171,172,173,174]:List Tmp).all fun t=>(Ql l).contains t)=true) (hcl:ZE l S) (hS:S j=false) (w w':World) (t:Tmp) (v:Value) (hL:Qk8 l S t) (h:Qfc bs bk lg lo nl cl i rc ac rg ag x s t v w):Qfc bs bk lg lo nl cl i rc ac rg ag x s t v w':=by
 cases hc:([140,144,152,153,157,158,166,171,172,173,174]:List Tmp).contains t with
 | true=>exact(Qki hl hcl hS hc (List.all_eq_true.1 hd t (by simpa using hc)) hL).elim
 | false =>
   have e:(Qi8 x s).lookup t=none:=by
    simp only[List.contains_cons,List.contains_nil,Bool.or_false,Bool.or_eq_false_iff] at hc
    simp only[Qi8,List.lookup_cons,List.lookup_nil,hc]
   unfold Qfc at h ⊢;rw[e] at h ⊢
   exact h
end
theorem QlR {bs bk lg lo nl cl i rc ac:Nat}{rg ag:Option Addr}{x:Qy}{s:JSt}{wB w6:World}{Q:Nat→Prop}(HB:Hid (Below wB.heap.size wB w6)) (HP:Hid (ZX w6 bs bk wB.heap.size s s)) (HRX:Hid (wB.rangeAt lg (lo+i*8) [.int .i64 x.op,.int .i64 x.a,.int .i64 x.b,.int .i64 x.c,.int .i64 x.k,.int .i64 x.n,.slice rg x.regs.length rc,.slice ag x.args.length ac])) (HG:Hid (intsL.In wB Q x.regs [.slice rg x.regs.length rc])) (HA:Hid (intsL.In wB Q x.args [.slice ag x.args.length ac])) (HC:Hid (x.regs.length≤rc)) (HN:Hid (Zx x)) (hi:(i:Int)<nl)
 (a:Act) (m:Nat) (hn:a.tmps.size=m) (hn':209≤m) (h11:a.tmps.getD 11 undef=.pointer (some ⟨bs,0,none⟩)) (h14:a.tmps.getD 14 undef=.pointer (some ⟨bk,0,none⟩)) (h3:a.tmps.getD 3 undef=.slice (some ⟨lg,lo,none⟩) nl cl) (h15:a.tmps.getD 15 undef=.int .i64 (i:Int)) :
 Code.wp prog ((Tryz.f6.body.bind (Qj 17)).getD .skip) (fun e a' w'=>e=.normal∧∃ vs,a'=Q5 a vs [125,126,127,128,129,130,131,132,133,134,135,136,137,138,139,140,141,142,143,144,145,146,147,148,149,150,151,152,153,154,155,156,157,158,159,160,161,162,163,164,165,166,167,168,169,170,171,172,173,174,175,176,177]∧vs 177=.bool false∧Below wB.heap.size wB w'∧ZX w' bs bk wB.heap.size (s.ins x) (s.ins x)) a w6:=by
 conv=>arg 2;whnf
 refine Qdh (Qfc bs bk lg lo nl cl i rc ac rg ag x s) (jW wB bs bk x s) (outs:=[11,14,3,15]) (gs:=[(13,some false),(23,some false),(37,some false)]) (bs:=[true,true,true,true,true,true,true,true,true,true,true,true,true,true,true,true,true,true,true,true,true,true,true,true,true,true,true,true,true,true,true,true,true,true,true,true,true,true,true,true,true,true,true,true,true,true,true,true,true,true,true,true,true]) (by kernel_rfl) (n:=209) hn hn' (by kernel_rfl) ?hG ⟨Qf HB.out 1,HP.out.below (Qf Zr 1)⟩ ⟨h11,h14,h3,h15,trivial⟩ ?hA ?hend
 case hG=>exact⟨fun t ht v w h=>by cases ht;exact h,fun t ht v w h=>by cases ht;exact h,fun t ht v w h=>by cases ht;exact h,trivial⟩
 case hend=>exact fun vs S w' hS hW hk=>⟨rfl,vs,rfl,hk 177 (by kernel_rfl),hW.1,hW.both (hS 5 (by decide)) (hS 11 (by decide))⟩
 case hA =>
  iterate 3
   refine⟨fun S a w hS hd hcl hW hk K hK=>?_,?_⟩
   ·obtain⟨k0,-⟩:=hk
    conv at k0=>whnf;rhs;whnf
    go_simp;exact hK _ _ (fun _ _ _ h=>h) (hW.same (by decide) (by decide)) rfl
  refine⟨fun S a w hS hd hcl hW hk K hK=>?_,?_⟩
  ·obtain⟨k0,k1,-⟩:=hk
   conv at k0=>whnf;rhs;whnf
   conv at k1=>whnf;rhs;whnf
   go_simp;exact hK _ _ (fun _ _ _ h=>h) (hW.same (by decide) (by decide)) rfl
  refine⟨fun S a w hS hd hcl hW hk K hK=>?_,?_⟩
  ·obtain⟨k0,-⟩:=hk
   conv at k0=>whnf;rhs;whnf
   obtain⟨fs,hfs⟩:=underInsT
   refine wp_load_mid 59 (.tmp 128) rfl lg (lo+i*8) k0 [.int .i64 x.op,.int .i64 x.a,.int .i64 x.b,.int .i64 x.c,.int .i64 x.k,.int .i64 x.n,.slice rg x.regs.length rc,.slice ag x.args.length ac] _ (Q9 HRX.out hW.1) hfs rfl sizeInsT ?_;exact hK _ _ (fun _ _ _ h=>h) (hW.same (by decide) (by decide)) rfl
  refine⟨fun S a w hS hd hcl hW hk K hK=>?_,?_⟩
  ·obtain⟨k0,k1,-⟩:=hk
   conv at k0=>whnf;rhs;whnf
   conv at k1=>whnf;rhs;whnf
   have hP:=hW.2;rw[hS] at hP
   go_simp;refine Calls.mono (ZX.sins (s:=s) hP hW.1.size (Lay.below HG.out hW.1) (Lay.below HA.out hW.1) HC.out HN.out) ?_;rintro r7 w7 ⟨rfl,p7,b7⟩;go_simp;refine hK _ _ (QeG (by kernel_rfl) (by kernel_rfl) hcl hS _ _) ⟨hW.1.trans b7,?_⟩ rfl;rw[QcC,ZV (by decide)];exact p7
  iterate 3
   refine⟨fun S a w hS hd hcl hW hk K hK=>?_,?_⟩
   ·obtain⟨k0,-⟩:=hk
    conv at k0=>whnf;rhs;whnf
    go_simp;exact hK _ _ (fun _ _ _ h=>h) (hW.same (by decide) (by decide)) rfl
  refine⟨fun S a w hS hd hcl hW hk K hK=>?_,?_⟩
  ·obtain⟨k0,k1,-⟩:=hk
   conv at k0=>whnf;rhs;whnf
   conv at k1=>whnf;rhs;whnf
   go_simp;exact hK _ _ (fun _ _ _ h=>h) (hW.same (by decide) (by decide)) rfl
  refine⟨fun S a w hS hd hcl hW hk K hK=>?_,?_⟩
  ·obtain⟨k0,-⟩:=hk
   conv at k0=>whnf;rhs;whnf
   obtain⟨fs,hfs⟩:=underInsT
   refine wp_load_mid 59 (.tmp 134) rfl lg (lo+i*8) k0 [.int .i64 x.op,.int .i64 x.a,.int .i64 x.b,.int .i64 x.c,.int .i64 x.k,.int .i64 x.n,.slice rg x.regs.length rc,.slice ag x.args.length ac] _ (Q9 HRX.out hW.1) hfs rfl sizeInsT ?_;exact hK _ _ (fun _ _ _ h=>h) (hW.same (by decide) (by decide)) rfl
  refine⟨fun S a w hS hd hcl hW hk K hK=>?_,?_⟩
  ·obtain⟨k0,k1,-⟩:=hk
   conv at k0=>whnf;rhs;whnf
   conv at k1=>whnf;rhs;whnf
   have hP:=hW.2;rw[hS] at hP
   go_simp;refine Calls.mono (ZX.kins (r:=s) hP hW.1.size (Lay.below HG.out hW.1) (Lay.below HA.out hW.1) HC.out) ?_;rintro r7 w7 ⟨rfl,p7,b7⟩;go_simp;refine hK _ _ (QeG (by kernel_rfl) (by kernel_rfl) hcl hS _ _) ⟨hW.1.trans b7,?_⟩ rfl;rw[QcC,ZV (by decide)];exact p7
  refine⟨fun S a w hS hd hcl hW hk K hK=>?_,?_⟩
  ·obtain⟨k0,k1,-⟩:=hk
   conv at k0=>whnf;rhs;whnf
   conv at k1=>whnf;rhs;whnf
   go_simp;exact hK _ _ (fun _ _ _ h=>h) (hW.same (by decide) (by decide)) (by simp;rfl)
  iterate 2
   refine⟨fun S a w hS hd hcl hW hk K hK=>?_,?_⟩
   ·obtain⟨k0,-⟩:=hk
    conv at k0=>whnf;rhs;whnf
    go_simp;exact hK _ _ (fun _ _ _ h=>h) (hW.same (by decide) (by decide)) rfl
  refine⟨fun S a w hS hd hcl hW hk K hK=>?_,?_⟩
  ·obtain⟨k0,-⟩:=hk
   conv at k0=>whnf;rhs;whnf
   have P2:=hW.both (hd.far hcl (by kernel_rfl)) (hd.far hcl (by kernel_rfl));go_simp;refine Calls.mono P2.one.types ?_;rintro r7 w7 ⟨a7,c7,rfl,g1,g2,b7⟩;go_simp;exact hK _ _ (fun t u _ h=>Qei t u _ _ b7 h) (hW.more b7 (by decide) (by decide)) ⟨a7,c7,rfl,g2.all⟩
  iterate 3
   refine⟨fun S a w hS hd hcl hW hk K hK=>?_,?_⟩
   ·obtain⟨k0,-⟩:=hk
    conv at k0=>whnf;rhs;whnf
    go_simp;exact hK _ _ (fun _ _ _ h=>h) (hW.same (by decide) (by decide)) rfl
  refine⟨fun S a w hS hd hcl hW hk K hK=>?_,?_⟩
  ·obtain⟨k0,-⟩:=hk
   conv at k0=>whnf;rhs;whnf
   have P2:=hW.both (hd.far hcl (by kernel_rfl)) (hd.far hcl (by kernel_rfl));obtain⟨hk9,aL,cL,O9,q5,q6,q7,q8⟩:=P2.lists
   go_simp;exact hK _ _ (fun _ _ _ h=>h) (hW.same (by decide) (by decide)) ⟨aL,cL,rfl,q8⟩
  refine⟨fun S a w hS hd hcl hW hk K hK=>?_,?_⟩
  ·obtain⟨k0,k1,-⟩:=hk
   have k0:(fun (v:Value) (w:World)=>∃ a c,v=.slice a (s.ins x).L.length c∧LIn w All (s.ins x).L a) (a.tmps.getD 140 undef) w:=k0;generalize k0e:a.tmps.getD 140 undef=uk0 at k0;have k1:(fun (v:Value) (w:World)=>∃ a c,v=.slice a (s.ins x).L.length c∧LIn w All (s.ins x).L a) (a.tmps.getD 144 undef) w:=k1;generalize k1e:a.tmps.getD 144 undef=uk1 at k1;have P2:=hW.both (hd.far hcl (by kernel_rfl)) (hd.far hcl (by kernel_rfl));obtain⟨a7,c7,rfl,g1⟩:=k0
   obtain⟨a8,c8,rfl,g2⟩:=k1
   have HJ:=P2.one.ok;go_simp;refine Calls.mono (QbR 6 (samet_any 6) (s.ins x).L (s.ins x).L a7 a8 c7 c8 w g1 g2 (by have:=HJ.vals;omega) (fun y hy=>Zt (QZ (HJ.types y hy)) (by omega))) ?_;rintro r7 w7 ⟨⟨q7,rfl,hq7⟩,b7⟩;have e7:q7=true:=hq7.2 rfl;subst e7;go_simp;exact hK _ _ (fun t u _ h=>Qei t u _ _ b7 h) (hW.more b7 (by decide) (by decide)) rfl
  refine⟨fun S a w hS hd hcl hW hk K hK=>?_,?_⟩
  ·obtain⟨k0,-⟩:=hk
   conv at k0=>whnf;rhs;whnf
   go_simp;exact hK _ _ (fun _ _ _ h=>h) (hW.same (by decide) (by decide)) rfl
  refine⟨fun S a w hS hd hcl hW hk K hK=>?_,?_⟩
  ·obtain⟨k0,k1,-⟩:=hk
   conv at k0=>whnf;rhs;whnf
   conv at k1=>whnf;rhs;whnf
   go_simp;exact hK _ _ (fun _ _ _ h=>h) (hW.same (by decide) (by decide)) rfl
  iterate 4
   refine⟨fun S a w hS hd hcl hW hk K hK=>?_,?_⟩
   ·obtain⟨k0,-⟩:=hk
    conv at k0=>whnf;rhs;whnf
    go_simp;exact hK _ _ (fun _ _ _ h=>h) (hW.same (by decide) (by decide)) rfl
  refine⟨fun S a w hS hd hcl hW hk K hK=>?_,?_⟩
  ·obtain⟨k0,-⟩:=hk
   conv at k0=>whnf;rhs;whnf
   have P2:=hW.both (hd.far hcl (by kernel_rfl)) (hd.far hcl (by kernel_rfl));obtain⟨hh9,q1,q2⟩:=P2.one.held
   go_simp;exact hK _ _ (fun _ _ _ h=>h) (hW.same (by decide) (by decide)) ⟨hh9,rfl,q2⟩
  refine⟨fun S a w hS hd hcl hW hk K hK=>?_,?_⟩
  ·obtain⟨k0,-⟩:=hk
   have k0:(fun (v:Value) (w:World)=>∃ h,v=.pointer (some ⟨h,0,none⟩)∧Qt w h (s.ins x).H) (a.tmps.getD 152 undef) w:=k0;generalize k0e:a.tmps.getD 152 undef=uk0 at k0;obtain⟨h9,rfl,g1⟩:=k0
   go_simp;refine Calls.mono (Qe0 g1) ?_;intro r7 w7 o7;obtain⟨v7,rfl,i7,b7⟩:=o7.v
   go_simp;exact hK _ _ (fun t u _ h=>Qei t u _ _ b7 h) (hW.more b7 (by decide) (by decide)) i7
  iterate 3
   refine⟨fun S a w hS hd hcl hW hk K hK=>?_,?_⟩
   ·obtain⟨k0,-⟩:=hk
    conv at k0=>whnf;rhs;whnf
    go_simp;exact hK _ _ (fun _ _ _ h=>h) (hW.same (by decide) (by decide)) rfl
  refine⟨fun S a w hS hd hcl hW hk K hK=>?_,?_⟩
  ·obtain⟨k0,-⟩:=hk
   conv at k0=>whnf;rhs;whnf
   have P2:=hW.both (hd.far hcl (by kernel_rfl)) (hd.far hcl (by kernel_rfl));obtain⟨hk9,aL,cL,O9,q5,q6,q7,q8⟩:=P2.lists
   go_simp;exact hK _ _ (fun _ _ _ h=>h) (hW.same (by decide) (by decide)) ⟨hk9,rfl,O9,q6⟩
  refine⟨fun S a w hS hd hcl hW hk K hK=>?_,?_⟩
  ·obtain⟨k0,-⟩:=hk
   have k0:(fun (v:Value) (w:World)=>∃ h,v=.pointer (some ⟨h,0,none⟩)∧∃ O,Qk w h O (s.ins x).H) (a.tmps.getD 157 undef) w:=k0;generalize k0e:a.tmps.getD 157 undef=uk0 at k0;have P2:=hW.both (hd.far hcl (by kernel_rfl)) (hd.far hcl (by kernel_rfl));obtain⟨h9,rfl,O9,g1⟩:=k0
   go_simp;refine Calls.mono (Qb5 (by have:=P2.one.ok.regs;omega) g1) ?_;intro r7 w7 o7;obtain⟨v7,rfl,i7,b7⟩:=o7.v
   go_simp;exact hK _ _ (fun t u _ h=>Qei t u _ _ b7 h) (hW.more b7 (by decide) (by decide)) i7
  refine⟨fun S a w hS hd hcl hW hk K hK=>?_,?_⟩
  ·obtain⟨k0,k1,-⟩:=hk
   have k0:(fun (v:Value) (w:World)=>Qcx w (hList (s.ins x).H) v) (a.tmps.getD 153 undef) w:=k0;generalize k0e:a.tmps.getD 153 undef=uk0 at k0;have k1:(fun (v:Value) (w:World)=>Qcx w (hList (s.ins x).H) v) (a.tmps.getD 158 undef) w:=k1;generalize k1e:a.tmps.getD 158 undef=uk1 at k1;have P2:=hW.both (hd.far hcl (by kernel_rfl)) (hd.far hcl (by kernel_rfl));have hle:(hList (s.ins x).H).length≤100000:=Zt (QbC _) (by have:=P2.one.ok.regs;omega);go_simp;refine Calls.mono (QgJ hle k0 k1) ?_;rintro r7 w7 ⟨rfl,b7⟩;go_simp;exact hK _ _ (fun t u _ h=>Qei t u _ _ b7 h) (hW.more b7 (by decide) (by decide)) rfl
  refine⟨fun S a w hS hd hcl hW hk K hK=>?_,?_⟩
  ·obtain⟨k0,-⟩:=hk
   conv at k0=>whnf;rhs;whnf
   go_simp;exact hK _ _ (fun _ _ _ h=>h) (hW.same (by decide) (by decide)) rfl
  refine⟨fun S a w hS hd hcl hW hk K hK=>?_,?_⟩
  ·obtain⟨k0,k1,-⟩:=hk
   conv at k0=>whnf;rhs;whnf
   conv at k1=>whnf;rhs;whnf
   go_simp;exact hK _ _ (fun _ _ _ h=>h) (hW.same (by decide) (by decide)) rfl
  iterate 4
   refine⟨fun S a w hS hd hcl hW hk K hK=>?_,?_⟩
   ·obtain⟨k0,-⟩:=hk
    conv at k0=>whnf;rhs;whnf
    go_simp;exact hK _ _ (fun _ _ _ h=>h) (hW.same (by decide) (by decide)) rfl
  refine⟨fun S a w hS hd hcl hW hk K hK=>?_,?_⟩
  ·obtain⟨k0,-⟩:=hk
   conv at k0=>whnf;rhs;whnf
   have P2:=hW.both (hd.far hcl (by kernel_rfl)) (hd.far hcl (by kernel_rfl));obtain⟨hh9,q1,q2⟩:=P2.one.held
   go_simp;exact hK _ _ (fun _ _ _ h=>h) (hW.same (by decide) (by decide)) ⟨hh9,rfl,q2⟩
  refine⟨fun S a w hS hd hcl hW hk K hK=>?_,?_⟩
  ·obtain⟨k0,-⟩:=hk
   have k0:(fun (v:Value) (w:World)=>∃ h,v=.pointer (some ⟨h,0,none⟩)∧Qt w h (s.ins x).H) (a.tmps.getD 166 undef) w:=k0;generalize k0e:a.tmps.getD 166 undef=uk0 at k0;obtain⟨h9,rfl,g1⟩:=k0
   go_simp;refine Calls.mono (Qf4 g1) ?_;rintro r7 w7 ⟨rfl,hw7⟩;subst hw7;go_simp;exact hK _ _ (fun _ _ _ h=>h) (hW.same (by decide) (by decide)) rfl
  iterate 3
   refine⟨fun S a w hS hd hcl hW hk K hK=>?_,?_⟩
   ·obtain⟨k0,-⟩:=hk
    conv at k0=>whnf;rhs;whnf
    go_simp;exact hK _ _ (fun _ _ _ h=>h) (hW.same (by decide) (by decide)) rfl
  refine⟨fun S a w hS hd hcl hW hk K hK=>?_,?_⟩
  ·obtain⟨k0,-⟩:=hk
   conv at k0=>whnf;rhs;whnf
   have P2:=hW.both (hd.far hcl (by kernel_rfl)) (hd.far hcl (by kernel_rfl));obtain⟨hk9,aL,cL,O9,q5,q6,q7,q8⟩:=P2.lists
   go_simp;exact hK _ _ (fun _ _ _ h=>h) (hW.same (by decide) (by decide)) ⟨hk9,rfl,O9,q6⟩
  refine⟨fun S a w hS hd hcl hW hk K hK=>?_,?_⟩
  ·obtain⟨k0,-⟩:=hk
   have k0:(fun (v:Value) (w:World)=>∃ h,v=.pointer (some ⟨h,0,none⟩)∧∃ O,Qk w h O (s.ins x).H) (a.tmps.getD 171 undef) w:=k0;generalize k0e:a.tmps.getD 171 undef=uk0 at k0;obtain⟨h9,rfl,O9,g1⟩:=k0
   go_simp;exact hK _ _ (fun _ _ _ h=>h) (hW.same (by decide) (by decide)) ⟨h9,rfl,O9,g1⟩
  refine⟨fun S a w hS hd hcl hW hk K hK=>?_,?_⟩
  ·obtain⟨k0,-⟩:=hk
   have k0:(fun (v:Value) (w:World)=>∃ h,v=.pointer (some ⟨h,0,none⟩)∧∃ O,Qk w h O (s.ins x).H) (a.tmps.getD 172 undef) w:=k0;generalize k0e:a.tmps.getD 172 undef=uk0 at k0;obtain⟨h9,rfl,O9,g1⟩:=k0
   go_simp;exact hK _ _ (fun _ _ _ h=>h) (hW.same (by decide) (by decide)) ⟨h9,rfl,O9,g1⟩
  refine⟨fun S a w hS hd hcl hW hk K hK=>?_,?_⟩
  ·obtain⟨k0,-⟩:=hk
   have k0:(fun (v:Value) (w:World)=>∃ h,v=.pointer (some ⟨h,0,none⟩)∧∃ O,Qk w h O (s.ins x).H) (a.tmps.getD 173 undef) w:=k0;generalize k0e:a.tmps.getD 173 undef=uk0 at k0;obtain⟨h9,rfl,O9,g1⟩:=k0
   obtain⟨a9,c9,q9,-⟩:=g1.cells
   go_simp;exact hK _ _ (fun _ _ _ h=>h) (hW.same (by decide) (by decide)) ⟨a9,c9,rfl⟩
  refine⟨fun S a w hS hd hcl hW hk K hK=>?_,?_⟩
  ·obtain⟨k0,-⟩:=hk
   have k0:(fun (v:Value) (w:World)=>∃ a c,v=.slice a (s.ins x).H.length c) (a.tmps.getD 174 undef) w:=k0;generalize k0e:a.tmps.getD 174 undef=uk0 at k0;obtain⟨a9,c9,rfl⟩:=k0
   go_simp;exact hK _ _ (fun _ _ _ h=>h) (hW.same (by decide) (by decide)) rfl
  refine⟨fun S a w hS hd hcl hW hk K hK=>?_,?_⟩
  ·obtain⟨k0,k1,-⟩:=hk
   conv at k0=>whnf;rhs;whnf
   conv at k1=>whnf;rhs;whnf
   go_simp;exact hK _ _ (fun _ _ _ h=>h) (hW.same (by decide) (by decide)) (by simp;rfl)
  refine⟨fun S a w hS hd hcl hW hk K hK=>?_,?_⟩
  ·obtain⟨k0,k1,-⟩:=hk
   conv at k0=>whnf;rhs;whnf
   conv at k1=>whnf;rhs;whnf
   go_simp;exact hK _ _ (fun _ _ _ h=>h) (hW.same (by decide) (by decide)) rfl
  trivial
def QkK (bs bk X hh hk cK:Nat) (f:Int) (aK:Option Addr) (x:MEnd) (e:EP) (s:JSt) (t:Tmp) (v:Value) (w:World):Prop :=
 match ([(202,fun v w=>∃ a c,v=.slice a s.L.length c∧LIn w All s.L a)]:List (Tmp × (Value→World→Prop))).lookup t with
 | some p=>p v w
 | none=>v=(([(11,.pointer (some ⟨bs,0,none⟩)),(14,.pointer (some ⟨bk,0,none⟩)),(1,.int .i64 f),(9,.pointer (some ⟨X,0,none⟩)),(178,.pointer (some ⟨bs,0,none⟩)),(179,.agg (ZT x e)),(180,.int .i64 (s.fin x)),(181,.pointer (some ⟨bk,0,none⟩)),(182,.agg (ZT x e)),(183,.int .i64 (s.fin x)),(184,.bool true),(185,.bool true),(186,.pointer (some ⟨bs,0,none⟩)),(187,.pointer (some ⟨bs,0,none⟩)),(188,.pointer (some ⟨bs,1,none⟩)),(189,.pointer (some ⟨hh,0,none⟩)),(190,.int .i64 f),(191,.bool (hHas s.H f)),(192,.pointer (some ⟨bk,0,none⟩)),(193,.pointer (some ⟨bk,0,none⟩)),(194,.pointer (some ⟨bk,5,none⟩)),(195,.pointer (some ⟨hk,0,none⟩)),(196,.int .i64 f),(197,.bool (hHas s.H f)),(198,.bool true),(199,.bool true),(200,.bool true),(201,.pointer (some ⟨bs,0,none⟩)),(203,.pointer (some ⟨bk,0,none⟩)),(204,.pointer (some ⟨bk,0,none⟩)),(205,.pointer (some ⟨bk,6,none⟩)),(206,.slice aK s.L.length cK),(207,.bool true),(208,.bool true),(10,.bool true)]:List (Tmp × Value)).lookup t).getD undef
theorem QlW {w6:World}{bs bk X hh hk cK B0:Nat}{f:Int}{aK:Option Addr}{x:MEnd}{e:EP}{s:JSt}{A Q OH:Nat→Prop}(HP:Hid (ZX w6 bs bk B0 s s)) (HKN:Hid (KAt w6 bk A s)) (HJ:Hid (JOk s)) (HRX:Hid (w6.rangeAt X 0 (ZT x e).toList)) (HE:Hid (Qa2 w6 Q x e)) (hra:-9223372036854775808≤x.a∧x.a≤9223372036854775807) (hsz:x.yes.regs.length<2305843009213693952∧x.yes.args.length<2305843009213693952∧x.no.regs.length<2305843009213693952∧x.no.args.length<2305843009213693952) (hcap:x.yes.regs.length≤e.cYR∧x.no.regs.length≤e.cNR) (hsz2:x.yes.regs.length≤100000∧x.yes.args.length≤100000∧x.no.regs.length≤100000∧x.no.args.length≤100000) (HH:Hid (Qt w6 hh s.H)) (HHK:Hid (Qk w6 hk OH s.H)) (HRW:Hid (LIn w6 All s.L aK)) (q1:w6.cell? ⟨bs,1,none⟩=some (.pointer (some ⟨hh,0,none⟩))) (q5:w6.cell? ⟨bk,5,none⟩=some (.pointer (some ⟨hk,0,none⟩))) (q6:w6.cell? ⟨bk,6,none⟩=some (.slice aK s.L.length cK))
 (a:Act) (m:Nat) (hn:a.tmps.size=m) (hn':209≤m) (h11:a.tmps.getD 11 undef=.pointer (some ⟨bs,0,none⟩)) (h14:a.tmps.getD 14 undef=.pointer (some ⟨bk,0,none⟩)) (h1:a.tmps.getD 1 undef=.int .i64 f) (h9:a.tmps.getD 9 undef=.pointer (some ⟨X,0,none⟩)) :
 Code.wp prog ((Tryz.f6.body.bind (Qj 19)).getD .skip) (fun e a' w'=>e=.normal∧∃ vs,a'=Q5 a vs [178,179,180,181,182,183,184,185,186,187,188,189,190,191,192,193,194,195,196,197,198,199,200,201,202,203,204,205,206,207,208,10]∧vs 10=.bool true∧Below w6.heap.size w6 w') a w6:=by
 conv=>arg 2;whnf
 refine Qw (QkK bs bk X hh hk cK f aK x e s) (fun w=>Below w6.heap.size w6 w) (fun w w'=>Below w.heap.size w w') (outs:=[11,14,1,9]) (gs:=[(7,some true),(22,some true)]) (bs:=[true,true,true,true,true,true,true,true,true,true,true,true,true,true,true,true,true,true,true,true,true,true,true,true,true,true,true,true,true,true,true,true]) (by kernel_rfl) (n:=209) hn hn' (by kernel_rfl) ?hR ?hG (Qf Zr 1) ⟨h11,h14,h1,h9,trivial⟩ ?hA ?hend
 case hR =>
  intro t v w w' hr h;unfold QkK at h ⊢;split at h
  ·rename_i p hp
   simp only[List.lookup_cons,List.lookup_nil] at hp
   split at hp
   ·cases hp;exact(by obtain⟨a,c,e,h1⟩:=h;exact⟨a,c,e,h1.below hr⟩)
   ·cases hp
  ·exact h
 case hG=>exact⟨fun t ht v w _ h=>by cases ht;exact h,fun t ht v w _ h=>by cases ht;exact h,trivial⟩
 case hend=>exact fun vs w' hW hk=>⟨rfl,vs,rfl,hk 10 (by kernel_rfl),hW⟩
 case hA =>
  refine⟨fun a w hW hk K hK=>?_,?_⟩
  ·obtain⟨k0,-⟩:=hk
   conv at k0=>whnf;rhs;whnf
   go_simp;exact hK _ _ Zr hW rfl
  refine⟨fun a w hW hk K hK=>?_,?_⟩
  ·obtain⟨k0,-⟩:=hk
   conv at k0=>whnf;rhs;whnf
   obtain⟨fs,hfs⟩:=underEnd
   refine wp_load_mid 47 (.tmp 9) rfl X 0 k0 (ZT x e).toList _ (Q9 HRX.out hW) hfs rfl sizeEnd ?_;exact hK _ _ Zr hW rfl
  refine⟨fun a w hW hk K hK=>?_,?_⟩
  ·obtain⟨k0,k1,-⟩:=hk
   conv at k0=>whnf;rhs;whnf
   conv at k1=>whnf;rhs;whnf
   go_simp;refine Calls.mono (((HP.out.below hW).one).end_ (HE.out.below hW) hra hsz) ?_;rintro r7 w7 ⟨rfl,b7⟩;go_simp;exact hK _ _ b7 (hW.trans (b7.mono hW.size)) rfl
  refine⟨fun a w hW hk K hK=>?_,?_⟩
  ·obtain⟨k0,-⟩:=hk
   conv at k0=>whnf;rhs;whnf
   go_simp;exact hK _ _ Zr hW rfl
  refine⟨fun a w hW hk K hK=>?_,?_⟩
  ·obtain⟨k0,-⟩:=hk
   conv at k0=>whnf;rhs;whnf
   obtain⟨fs,hfs⟩:=underEnd
   refine wp_load_mid 47 (.tmp 9) rfl X 0 k0 (ZT x e).toList _ (Q9 HRX.out hW) hfs rfl sizeEnd ?_;exact hK _ _ Zr hW rfl
  refine⟨fun a w hW hk K hK=>?_,?_⟩
  ·obtain⟨k0,k1,-⟩:=hk
   conv at k0=>whnf;rhs;whnf
   conv at k1=>whnf;rhs;whnf
   go_simp;refine Calls.mono (Qi6 HJ.out (HKN.out.below hW) (HE.out.below hW) hcap hsz2) ?_;rintro r7 w7 ⟨rfl,b7⟩;go_simp;exact hK _ _ b7 (hW.trans (b7.mono hW.size)) rfl
  refine⟨fun a w hW hk K hK=>?_,?_⟩
  ·obtain⟨k0,k1,-⟩:=hk
   conv at k0=>whnf;rhs;whnf
   conv at k1=>whnf;rhs;whnf
   go_simp;exact hK _ _ Zr hW rfl
  iterate 6
   refine⟨fun a w hW hk K hK=>?_,?_⟩
   ·obtain⟨k0,-⟩:=hk
    conv at k0=>whnf;rhs;whnf
    have u0:=Qi q1 hW;go_simp;exact hK _ _ Zr hW rfl
  refine⟨fun a w hW hk K hK=>?_,?_⟩
  ·obtain⟨k0,k1,-⟩:=hk
   conv at k0=>whnf;rhs;whnf
   conv at k1=>whnf;rhs;whnf
   go_simp;refine Calls.mono (QbL f (HH.out.below hW)) ?_;rintro r7 w7 ⟨rfl,hw7⟩;subst hw7;go_simp;exact hK _ _ Zr hW rfl
  iterate 5
   refine⟨fun a w hW hk K hK=>?_,?_⟩
   ·obtain⟨k0,-⟩:=hk
    conv at k0=>whnf;rhs;whnf
    have u0:=Qi q5 hW;go_simp;exact hK _ _ Zr hW rfl
  refine⟨fun a w hW hk K hK=>?_,?_⟩
  ·obtain⟨k0,k1,-⟩:=hk
   conv at k0=>whnf;rhs;whnf
   conv at k1=>whnf;rhs;whnf
   go_simp;refine Calls.mono (QbU f (by have:=HJ.out.regs;omega) (HHK.out.below hW)) ?_;rintro r7 w7 ⟨rfl,hw7⟩;subst hw7;go_simp;exact hK _ _ Zr hW rfl
  refine⟨fun a w hW hk K hK=>?_,?_⟩
  ·obtain⟨k0,k1,-⟩:=hk
   conv at k0=>whnf;rhs;whnf
   conv at k1=>whnf;rhs;whnf
   go_simp;exact hK _ _ Zr hW (by simp;rfl)
  refine⟨fun a w hW hk K hK=>?_,?_⟩
  ·obtain⟨k0,k1,-⟩:=hk
   conv at k0=>whnf;rhs;whnf
   conv at k1=>whnf;rhs;whnf
   go_simp;exact hK _ _ Zr hW rfl
  iterate 2
   refine⟨fun a w hW hk K hK=>?_,?_⟩
   ·obtain⟨k0,-⟩:=hk
    conv at k0=>whnf;rhs;whnf
    go_simp;exact hK _ _ Zr hW rfl
  refine⟨fun a w hW hk K hK=>?_,?_⟩
  ·obtain⟨k0,-⟩:=hk
   conv at k0=>whnf;rhs;whnf
   go_simp;refine Calls.mono ((HP.out.below hW).one).types ?_;rintro r7 w7 ⟨a7,c7,rfl,g1,g2,b7⟩;go_simp;exact hK _ _ b7 (hW.trans (b7.mono hW.size)) ⟨a7,c7,rfl,g2.all⟩
  iterate 4
   refine⟨fun a w hW hk K hK=>?_,?_⟩
   ·obtain⟨k0,-⟩:=hk
    conv at k0=>whnf;rhs;whnf
    have u0:=Qi q6 hW;go_simp;exact hK _ _ Zr hW rfl
  refine⟨fun a w hW hk K hK=>?_,?_⟩
  ·obtain⟨k0,k1,-⟩:=hk
   have k0:(fun v w=>∃ a c,v=.slice a s.L.length c∧LIn w All s.L a) (a.tmps.getD 202 undef) w:=k0;generalize k0e:a.tmps.getD 202 undef=uk0 at k0;conv at k1=>whnf;rhs;whnf
   obtain⟨a7,c7,rfl,g1⟩:=k0
   go_simp;refine Calls.mono (QbR 6 (samet_any 6) s.L s.L a7 aK c7 cK w g1 (HRW.out.below hW) (by have:=HJ.out.vals;omega) (fun y hy=>Zt (QZ (HJ.out.types y hy)) (by omega))) ?_;rintro r7 w7 ⟨⟨q7,rfl,hq7⟩,b7⟩;have e7:q7=true:=hq7.2 rfl;subst e7;go_simp;exact hK _ _ b7 (hW.trans (b7.mono hW.size)) rfl
  refine⟨fun a w hW hk K hK=>?_,?_⟩
  ·obtain⟨k0,k1,-⟩:=hk
   conv at k0=>whnf;rhs;whnf
   conv at k1=>whnf;rhs;whnf
   go_simp;exact hK _ _ Zr hW rfl
  refine⟨fun a w hW hk K hK=>?_,?_⟩
  ·obtain⟨k0,-⟩:=hk
   conv at k0=>whnf;rhs;whnf
   go_simp;exact hK _ _ Zr hW rfl
  trivial
theorem QhS {w:World}{m:List (Qg 6)}{p a1:Option Addr}{c N c1:Nat}{l:List Qy}{x:MEnd}{e:EP}(f b:Int) (hN:l.length=N) (hn:¬ 150<(N:Int)) (hq:¬ 1000<(x.many:Int)) (hng:¬ QW m) (hf0:(modFault m).1=0) (hhb:QeM m f b=true) (hm:(Qaq 6).In w All m [.slice p m.length c]) (hl:insC.list.In w All l [.slice a1 N c1]) (hx:Qa2 w All x e) (hra:-9223372036854775808≤x.a∧x.a≤9223372036854775807) (hcap:x.yes.regs.length≤e.cYR∧x.no.regs.length≤e.cNR) (hls:∀ y∈l,y.regs.length<1152921504606846976∧y.args.length<1152921504606846976) :
 Calls prog 6 #[.agg #[.slice p m.length c],.int .i64 f,.int .i64 b,.slice a1 N c1,.agg (ZT x e)] w fun r w'=>r=.returned (.bool true)∧Below w.heap.size w w':=by
 have b0:=QN w (.cells #[.slice p m.length c] 24);have b1:=b0.trans ((QN (w.alloc (.cells #[.slice p m.length c] 24)) (.cells (ZT x e) 47)).mono b0.size);have HM:Hid ((Qaq 6).In w All m [.slice p m.length c]):=hm;have HB:=Qa b1;have x0:=Qi (Qb (Qe w #[.slice p m.length c] 24) 0 _ rfl) (QN (w.alloc (.cells #[.slice p m.length c] 24)) (.cells (ZT x e) 47));have y3:=Qb (Qe (w.alloc (.cells #[.slice p m.length c] 24)) (ZT x e) 47) 3 _ rfl;have y4:=Qb (Qe (w.alloc (.cells #[.slice p m.length c] 24)) (ZT x e) 47) 4 _ rfl;have y6:=Qb (Qe (w.alloc (.cells #[.slice p m.length c] 24)) (ZT x e) 47) 6 _ rfl;have y7:=Qb (Qe (w.alloc (.cells #[.slice p m.length c] 24)) (ZT x e) 47) 7 _ rfl;have y8:=Qb (Qe (w.alloc (.cells #[.slice p m.length c] 24)) (ZT x e) 47) 8 _ rfl;have HXB:=Qa (Qe (w.alloc (.cells #[.slice p m.length c] 24)) (ZT x e) 47);have HNG:=Qa hng;have HF0:=Qa hf0;have HL:=Qa hl;have HN:=Qa hN;have HXI:=Qa hx;have HN1:=Qa hn;have HQ:=Qa hq;clear hm b1 b0 hng hf0 hl hx hN hn hq;go_enter func6,ntmps6
 go_upto_region 1 with fail
 generalize hw1:(w.alloc (.cells #[.slice p m.length c] 24)).alloc (.cells (ZT x e) 47)=w1 at HB HXB x0 y3 y4 y6 y7 y8 ⊢;clear hw1;have hY:(w.alloc (.cells #[.slice p m.length c] 24)).heap.size=w.heap.size+1:=by show (w.heap.push _).size=_;exact Array.size_push _
 rw[hY] at HXB y3 y4 y6 y7 y8
 clear hY;obtain⟨X,hX⟩:∃ X,X=w.heap.size:=⟨_,rfl⟩
 rw[← hX] at HXB x0 y3 y4 y6 y7 y8 ⊢
 have HXE:=Qa hX;clear hX;go_wp2_with fail
 refine(Qaw w1).mono ?_
 rintro e2 w2 ⟨rfl,b2⟩;have HB1:=Qa HB.out;have HB2:=Qa (HB.out.trans (b2.mono HB.out.size));have x2:=Qi x0 b2;have y3:=Qi y3 b2;have y4:=Qi y4 b2;have y6:=Qi y6 b2;have y7:=Qi y7 b2;have y8:=Qi y8 b2;have HD2:=Qa b2;have hd2:=b2.size;have HXB1:=HXB;have HXB:=Qa (((b2.block _ (lt_of_block HXB.out)).trans HXB.out));clear x0 b2 HB;have CG:=Qa (Qao 6 m p c w2 (Lay.below HM.out HB2.out));unfold Rd at CG;have HHB:=Qa hhb;have HLS:=Qa hls;clear hhb hls;rw[Qx HNG.out] at CG
 have hn:=HN1.out;have hn':decide ((N:Int)>150)=false:=decide_eq_false (by omega);have hq:=HQ.out;unfold MEnd.many at hq;go_wp2_with fail
 refine CG.out.mono ?_;rintro e3 w3 ⟨rfl,b3⟩;have HB3:=Qa (HB2.out.trans (b3.mono HB2.out.size));have HXB:=Qa (((b3.block _ (lt_of_block HXB.out)).trans HXB.out));have HD3:=Qa (HD2.out.trans (b3.mono HD2.out.size));have x3:=Qi x2 b3;have y3:=Qi y3 b3;have y4:=Qi y4 b3;have y6:=Qi y6 b3;have y7:=Qi y7 b3;have y8:=Qi y8 b3;clear b3 CG x2 HB2;have CN:=Qa (Qd0 f b HNG.out (Lay.below HM.out HB3.out));go_wp2_with fail
 refine CN.out.mono ?_;rintro e4 w4 ⟨b4,hN4⟩;have HB4:=Qa (HB3.out.trans (b4.mono HB3.out.size));have HXB:=Qa (((b4.block _ (lt_of_block HXB.out)).trans HXB.out));have hs3:=HD3.out.size;have HD4:=Qa (HD3.out.trans (b4.mono HD3.out.size));have x4:=Qi x3 b4;clear b4 CN x3 y3 y4 y6 y7 y8;rcases hN4 with ⟨hf,rfl⟩|⟨-,hno,rfl⟩|⟨-,-,i,j,fn,g,B,O,A,rfl,rfl,hfn,hgb,rfl,hS,hA⟩
 ·exact absurd HF0.out hf
 ·rw[HHB.out] at hno;cases hno
 have b5:=QN w4 (.cells #[.int .i64 0,.int .i64 0] 30)
 have S5:Hid (∃ O A,SAt (w4.alloc (.cells #[.int .i64 0,.int .i64 0] 30)) B O A (JSt.start m fn g)∧∀ k,A k→w1.heap.size≤k∧k<(w4.alloc (.cells #[.int .i64 0,.int .i64 0] 30)).heap.size) :=
  ⟨O,A,hS.below b5,fun k hk=>⟨Zt hs3 (hA k hk).1,Zl (hA k hk).2 b5.size⟩⟩
 have HD5:=Qa (HD4.out.trans (b5.mono HD4.out.size));have HB5:=Qa (HB4.out.trans (b5.mono HB4.out.size));have HXB:=Qa (((b5.block _ (lt_of_block HXB.out)).trans HXB.out));have x5:=Qi x4 b5;have z50:=Qb (Qe w4 #[.int .i64 0,.int .i64 0] 30) 0 _ rfl;have z51:=Qb (Qe w4 #[.int .i64 0,.int .i64 0] 30) 1 _ rfl;clear hS hA b5 HB4 HB3 hs3 x4 HD2 HD3 HD4 hd2;go_upto_region 6 with fail
 generalize hw5:w4.alloc (.cells #[.int .i64 0,.int .i64 0] 30)=w5 at S5 HB5 HD5 HXB x5 z50 z51 ⊢;clear hw5;generalize w4.heap.size=F1 at z50 z51 ⊢;have CF:=Qa (QaS (Lay.below HM.out HB5.out) (Qbb HNG.out));rw[Qds HF0.out] at CF
 unfold Rd at CF;go_wp2_with fail
 refine CF.out.mono ?_;rintro e6 w6 ⟨rfl,b6⟩;have b7:=b6.trans ((QN w6 (.cells #[.int .i64 0,.int .i64 0] 30)).mono b6.size);have z50:=Qi z50 b7;have z51:=Qi z51 b7;have x7:=Qi x5 b7;have HB7:=Qa (HB5.out.trans (b7.mono HB5.out.size));have HD7:=Qa (HD5.out.trans (b7.mono HD5.out.size));have HB1:=HB1
 have S7:Hid (∃ O A,SAt (w6.alloc (.cells #[.int .i64 0,.int .i64 0] 30)) B O A (JSt.start m fn g)∧∀ k,A k→w1.heap.size≤k∧k<(w6.alloc (.cells #[.int .i64 0,.int .i64 0] 30)).heap.size):=by
  obtain⟨O,A,h1,h2⟩:=S5.out
  exact⟨O,A,h1.below b7,fun k hk=>⟨(h2 k hk).1,Zl (h2 k hk).2 b7.size⟩⟩
 have z70:=Qb (Qe w6 #[.int .i64 0,.int .i64 0] 30) 0 _ rfl;have z71:=Qb (Qe w6 #[.int .i64 0,.int .i64 0] 30) 1 _ rfl;clear b6 b7 CF x5 HB5 HD5 S5;go_upto_region 7 with fail
 generalize hw7:w6.alloc (.cells #[.int .i64 0,.int .i64 0] 30)=w7 at S7 HB7 HD7 x7 z50 z51 z70 z71 ⊢;clear hw7;generalize w6.heap.size=F2 at z70 z71 ⊢;have HFN:=Qa hfn;have HGB:=Qa hgb;obtain⟨mg,mo,ds,rfl,-,-,hcs,hfn2⟩:=Lay.list_at HM.out hfn
 obtain⟨fa,fc,fb,fd,fe,ff,rfl,-,-,-,-⟩:=ZH hfn2
 have v3:=Qi (show w.cell? ⟨mg,mo+i*4+3,none⟩=some (.slice fe fn.blocks.length ff) from hcs 3 (by decide)) HB7.out;have hi1:(i:Int)<m.length:=by have:=(Zi hfn).1;omega
 have hj1:(j:Int)<fn.blocks.length:=by have:=(Zi hgb).1;omega
 have hi0:(0:Int)≤i:=by omega
 have hj0:(0:Int)≤j:=by omega
 have hJ:=JOk.start HF0.out HNG.out (Zm hfn) (Zm hgb);have HJ:=Qa hJ;have CK:=Qa (Qet (B0:=w1.heap.size) HD7.out.size (Lay.below (Lay.mono HM.out (O':=fun g=>g<w1.heap.size) (fun k _ hl=>Zl hl HB1.out.size)) HB7.out) HFN.out HGB.out (fun t ht=>Zt (QZ (hJ.types t ht)) (by decide)) (Zt hJ.vals (by decide)));clear hcs hfn2 hfn hgb hJ;go_wp2_with fail
 refine CK.out.mono ?_;rintro e8 w8 ⟨Bk,O',rfl,hk2,hO',b8⟩
 have HP0:Hid (ZX w8 B Bk w1.heap.size (JSt.start m fn g) (JSt.start m fn g)):=by
  obtain⟨O,A,h1,h2⟩:=S7.out
  exact ZX.start h1 h2 HJ.out HJ.out b8 HD7.out.size hk2 hO'
 have HD8:=Qa (HD7.out.trans (b8.mono HD7.out.size));clear hk2 hO' b8 CK S7 HB7 HD7 x7 z50 z51 z70 z71 v3 HJ HXB;generalize JSt.start m fn g=s0 at HP0;go_wp2
 go_loopw [15] (fun i wr=>∃ k:Nat,k≤N∧i=.int .i64 k∧(∃ s,ZX wr B Bk w1.heap.size s s)∧Below w1.heap.size w1 wr) (fun i _=>N - (intOf i).toNat)
 case atStart=>exact⟨0,Nat.zero_le _,rfl,⟨s0,HP0.out⟩,HD8.out⟩
 case round =>
  clear HP0 HD8;obtain⟨k,hk,rfl,⟨s,hs⟩,hB⟩:=hrel
  have HD:=Qa hB;have S1:=Qa hs;clear hB hs;by_cases hlt:k<N
  rotate_left
  ·have hlt':¬ (k:Int)<N:=by omega
   obtain⟨A,hKN,hJr,-⟩:=S1.out.known
   obtain⟨hh,q1,hheld⟩:=S1.out.one.held
   obtain⟨hk9,aL,cL,O9,q5,q6,q7,q8⟩:=S1.out.lists
   have HKN:=Qa hKN;have HJR:=Qa hJr;have HHE:=Qa hheld;have HHO:=Qa q6;have HLI:=Qa q8;have hqq:=HQ.out;unfold MEnd.many at hqq;have sz:x.yes.regs.length≤100000∧x.yes.args.length≤100000∧x.no.regs.length≤100000∧x.no.args.length≤100000:=by omega
   have SZ:=Qa sz;have HR:Hid (wr.rangeAt (X+1) 0 (ZT x e).toList):=fun j v hj=>Qi (by rw[Nat.zero_add];rw[Array.getElem?_toList] at hj;exact Qb HXB1.out j v hj) HD.out;clear hKN hJr hheld q6 q8 hqq sz;go_upto_region 19 with fail
   refine Code.wp_mono ?_ (QlW S1 HKN HJR HR (Qa (Qa2.below (Qa2.below HXI.out HB1.out) HD.out)) hra (by have:=SZ.out;omega) hcap SZ.out HHE HHO HLI q1 q5 q7 _ _ rfl (Nat.le_of_ble_eq_true (by kernel_rfl)) rfl rfl rfl rfl);rintro ee aa w9 ⟨rfl,vs,rfl,hv10,b9⟩;simp only[Q5,Act.put,List.setIfInBounds_toArray,List.set_cons_zero,List.set_cons_succ,hv10]
   have HZ:=Qa (HB1.out.trans ((HD.out.trans (b9.mono HD.out.size)).mono HB1.out.size));go_wp2
   go_ret;exact⟨rfl,HZ.out⟩
  have hlt':(k:Int)<N:=by omega
  have hk2:k<l.length:=by rw[HN.out];exact hlt
  obtain⟨y,hxk⟩:∃ y,l[k]?=some y:=⟨_,Zg hk2⟩
  obtain⟨g1,o1,ds,rfl,-,hg1,hcs,hx⟩:=Lay.list_at HL.out hxk
  have hrng:=Qjk hx;obtain⟨rg,rc,ag,ac,rfl,hrg,hag,hcp,-⟩:=Qhr hx
  have HRX:Hid (w1.rangeAt g1 (o1+k*8) [.int .i64 y.op,.int .i64 y.a,.int .i64 y.b,.int .i64 y.c,.int .i64 y.k,.int .i64 y.n,.slice rg y.regs.length rc,.slice ag y.args.length ac]):=Q9 (fun j v hj=>by
   have hj8:j<8:=(Zi hj).1;exact(hcs j hj8).trans hj) HB1.out
  have v6:=Qi (show w1.cell? ⟨g1,o1+k*8+6,none⟩=some (.slice rg y.regs.length rc) from HRX.out 6 _ rfl) HD.out;have v7:=Qi (show w1.cell? ⟨g1,o1+k*8+7,none⟩=some (.slice ag y.args.length ac) from HRX.out 7 _ rfl) HD.out;have HRG:=Qa (Lay.below hrg HB1.out);have HAG:=Qa (Lay.below hag HB1.out);have HCP:=Qa hcp;have HRN:=Qa hrng;have HZ:=Qa (HB1.out.trans (HD.out.mono HB1.out.size));have hlr:=HLS.out y (Zm hxk);have hl1:=hlr.1;have hl2:=hlr.2;clear hk2 hxk hcs hx hrg hag hcp hrng hlr;have hk0:(0:Int)≤k:=by omega
  have HQ15:Hid (∀ nq,Below w1.heap.size w1 (wr.drewN nq)∧ZX (wr.drewN nq) B Bk w1.heap.size s s):=fun nq=>⟨Qf HD.out nq,S1.out.below (Qf Zr nq)⟩;generalize hlr1:y.regs.length=lr1 at v6 hl1;generalize hlr2:y.args.length=lr2 at v7 hl2;have HLR:=Qa (And.intro hlr1 hlr2);clear hlr1 hlr2;by_cases hbig:1000<(lr1:Int)+(lr2:Int)
  ·have hbig':decide ((lr1:Int)+(lr2:Int)>1000)=true:=decide_eq_true hbig;go_upto_region 15 with fail
   go_quiet (fail)
   have HZ2:Hid (Below w.heap.size w (wr.drewN nq)):=Qf HZ.out nq;clear v6 v7;go_wp2_with fail
   go_ret;exact⟨rfl,HZ2.out⟩
  have hbig':decide ((lr1:Int)+(lr2:Int)>1000)=false:=decide_eq_false hbig;go_upto_region 15 with fail
  go_quiet (fail)
  have HDq:=Qa (HQ15.out nq).1;have S1q:=Qa (HQ15.out nq).2;clear v6 v7 HD S1 HQ15;generalize wr.drewN nq=wz at HDq S1q ⊢;go_upto_region 17 with fail
  refine Code.wp_mono ?_ (QlR HDq S1q HRX HRG HAG HCP HRN hlt' _ _ rfl (Nat.le_of_ble_eq_true (by kernel_rfl)) rfl rfl rfl rfl);rintro ee aa w9 ⟨rfl,vs,rfl,hv,b9,p9⟩;simp only[Q5,Act.put,List.setIfInBounds_toArray,List.set_cons_zero,List.set_cons_succ,hv]
  have HD9:=Qa b9;have HP9:=Qa p9;clear b9 p9;go_wp2_with fail
  exact⟨⟨k+1,by omega,rfl,⟨_,HP9.out⟩,HD9.out⟩,by simp[intOf];omega⟩
end Go.Proofs.YtacjnejckfhpoadGreat
namespace Go.Proofs.YtacjnejckfhpoadGreat
open Go.ChangeShapes Go.WideShapes Go.ChangeAt Go.RowKit Go.Deep _root_.Go.Proofs.Tryz
set_option linter.unusedVariables false
theorem QI.listB {P:Program}{t e:TypeId}{α:Type}{A:Lay α}{n:Nat}{Bd:α→Prop}(h:P.underlying t=some (.slice e)) (hc:P.cellsOf t=1) (hA:QI P e A n Bd) (h0:0<A.size) (hbe:0<P.bytesOf e):QI P t A.list n (fun l=>l.length<1152921504606846976∧∀ x∈l,Bd x) :=
 ⟨hc,fun {H enc w base spare held fuel cs x} hf h' hw=>by
  rcases DataW.trod_slice h h' with ⟨e2,_⟩|⟨a,len,cap,elems,rest,q,rfl,e2,ex,hb,hl,hm,hlen,hel,_,_⟩
  ·exact⟨[],by rw[e2];exact Lay.list_nil A _ _ _ _,by simp⟩
  ·have hlw:(elems.length+rest.length)*P.bytesOf e≤reachBytes:=hw _ (by rw[ex];simp[DataW.weights,h])
   have hlb:len<1152921504606846976:=by
    have h1:elems.length*1≤(elems.length+rest.length)*P.bytesOf e:=Nat.mul_le_mul (by omega) hbe;have h2:reachBytes<1152921504606846976:=by decide
    omega
   have hel':∀ i,i<len→∃ y,elems[i]?=some y∧Wt P e y.1:=fun i hi=>by
    refine⟨elems[i]'(by omega),Zg (by omega),fun k hk=>hw k ?_⟩
    rw[ex]
    simp only[DataW.weights,h,List.mem_cons,List.mem_append]
    exact .inr (.inl (Qax (List.mem_map_of_mem (List.getElem_mem (by omega))) k hk))
   obtain⟨l,hll,hp⟩:=Qd2 (P:=fun i (d:α)=>∃ ds,w.cells? base (a.add (i*A.size)) A.size=some ds∧A.In w (fun _=>True) d ds∧Bd d) len (fun i hi=>by
    have he:=hel i hi;obtain⟨y,hy,hwy⟩:=hel' i hi
    rw[hy,hA.1] at he
    rw[Option.bind_eq_some_iff] at he
    obtain⟨ds,hds,htr⟩:=he
    obtain⟨d,hd,hbd⟩:=hA.2 (by omega) htr hwy
    exact⟨d,ds,hds,hd,hbd⟩)
   refine⟨l,⟨some a,cap,by rw[e2,hll],fun i x hx=>?_⟩,by omega,fun x hx=>by
    obtain⟨i,hi⟩:=List.mem_iff_getElem?.1 hx
    obtain⟨_,_,_,hb⟩:=hp i x hi
    exact hb⟩
   obtain⟨ds,hds,hd,_⟩:=hp i x hx
   obtain⟨_,hcl,hcell⟩:=World.cells?_some hds
   obtain⟨b,off,spot⟩:=a
   have hspot:spot=none:=by
    have hi:0<l.length:=Nat.lt_of_le_of_lt (Nat.zero_le i) (Zi hx).1;obtain⟨ds0,hds0,hd0,_⟩:=hp 0 l[0] (Zg hi)
    have hl0:0<ds0.length:=by rw[A.len hd0];exact h0
    have:=(World.cells?_some hds0).2.2 0 h0
    rw[Zg hl0] at this
    simpa[Addr.add] using World.cell?_spot this
   subst hspot
   have key:∀ j,j<A.size→w.cell? ⟨b,off+i*A.size+j,none⟩=ds[j]?:=fun j hj=>by
    have:=hcell j hj
    rw[Go.WideShapes.add_plain,Go.WideShapes.add_plain] at this
    exact this
   refine⟨b,off,ds,rfl,trivial,?_,key,hd⟩
   have hl0:0<ds.length:=by rw[A.len hd];exact h0
   have:=key 0 h0
   rw[Zg hl0] at this
   exact World.block_lt_of_cell? w _ this⟩
theorem Qg3 (n:Nat):QI prog 42 insC.list n (fun l=>l.length<1152921504606846976∧∀ x∈l,x.regs.length<1152921504606846976∧x.args.length<1152921504606846976):=QI.listB underlying42 (by kernel_rfl) (QeH n) (by decide) (by rw[show prog.bytesOf 59=96 from by kernel_rfl];decide)
end Go.Proofs.YtacjnejckfhpoadGreat
