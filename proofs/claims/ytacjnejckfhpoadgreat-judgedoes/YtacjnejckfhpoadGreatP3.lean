import Derived.Test.YtacjnejckfhpoadGreatP2
set_option maxHeartbeats 16000000
set_option maxRecDepth 100000
namespace Go.Proofs.YtacjnejckfhpoadGreat
open Go.ChangeShapes Go.WideShapes Go.ChangeAt Go.RowKit
set_option linter.unusedSimpArgs false
set_option linter.unusedVariables false
def Qo (L:List (Tmp × Value)):Operand→Option Value
 | .tmp t=>L.lookup t
 | .const v=>some v
 | .func f=>some (.func (.func f) #[] #[])
 | _=>none
abbrev St (n:Nat) (L:List (Tmp × Value)) (ops:Array Oper) (Q:Exit→Act→World→Prop) (l:List Oper) (w:World):Prop:=∀ a,Fr n a L→wpList Tryz.prog ops Q l a w
def Gok (ops:Array Oper) (n:Nat) (L:List (Tmp × Value)):Option (Nat × Bool)→Prop
 | none=>True
 | some (g,want)=>∃ tg,(ops[g]?).bind (fun o:Oper=>o.dst)=some tg∧Nat.blt tg n=true∧L.lookup tg=some (.bool want)
section
variable {n:Nat}{a:Act}{L:List (Tmp × Value)}{w0 w:World}{Bs:List (Nat × Array Value × TypeId)}{Q:Exit→Act→World→Prop}{ops:Array Oper}{rest:List Oper}{t:Tmp}{u v:Value}{ty ty2 ty3:TypeId}{pos:String}{aft:Array Edge}{gd:Option (Nat × Bool)}{x y z:Operand}{g tg:Nat}{want b:Bool}
theorem Fr.ev (h:Fr n a L) (e:Qo L x=some v):a.eval x=v:=by
 cases x<;>simp only[Qo,Option.some.injEq,reduceCtorEq] at e
 ·exact h.sl _ _ e
 ·exact e
 ·subst e;rfl
theorem Gok.on {o:Oper}(hF:Fr n a L) (h:Gok ops n L o.guard):Region.wanted o (yielded ops a.tmps)=true:=by
 cases hg:o.guard with
 | none=>simp[Region.wanted,hg]
 | some p =>
  obtain⟨g,want⟩:=p
  rw[hg] at h
  obtain⟨tg,h1,h2,h3⟩:=h
  rw[Qep hF hg h1 h2 h3];simp
theorem St.go {l:List Oper}(hF:Fr n a L) (h:St n L ops Q l w):wpList Tryz.prog ops Q l a w:=h a hF
theorem rg {id:Nat}{l:List Oper}(hF:Fr n a L) (h:∀ ops,St n L ops Q l w):(Code.region id l.toArray false).wp Tryz.prog Q a w:=Qz fun ops _=>h ops a hF
theorem St.nil (h:∀ a,Fr n a L→Q .normal a w):St n L ops Q [] w:=h
theorem Qu {o:Oper}(hg:Gok ops n L o.guard) (hd:o.dst=some t) (ht:Nat.blt t n=true)
 (h:∀ ev:Operand→Value,(∀ x v,Qo L x=some v→ev x=v)→(execOp ev o).run Tryz.prog w=.ok (.value v) w)
 (k:St n ((t,v)::L) ops Q rest w):St n L ops Q (o::rest) w:=fun a hF =>
 wpList_step fun K hK=>by
  rw[if_pos (hg.on hF)]
  unfold Oper.wp;rw[h a.eval (fun x v e=>hF.ev e),Oper.upon_value,hd]
  exact hK _ _ (k _ (hF.put ht))
theorem so {op:Op}(hs:(ops[g]?).bind (fun o:Oper=>o.dst)=some tg) (htg:Nat.blt tg n=true) (hv:L.lookup tg=some u) (hu:(match u with | .bool b=>b==want | _=>false)=false) (ht:Nat.blt t n=true)
 (k:St n ((t,undef)::L) ops Q rest w):St n L ops Q (⟨some t,op,ty,pos,aft,some (g,want)⟩::rest) w:=fun a hF =>
 QkQ hF rfl rfl hs htg hv hu ht k
theorem sm (hg:Gok ops n L gd) (hx:Qo L x=some (v)) (ht:Nat.blt t n=true)
 (k:St n ((t,v)::L) ops Q rest w):St n L ops Q (⟨some t,.move x,ty,pos,aft,gd⟩::rest) w :=
 Qu hg rfl ht (fun ev hev=>by have e:=hev _ _ hx;simp[go_sem,e]) k
theorem sa (hg:Gok ops n L gd) (hx:Qo L x=some (v)) (ht:Nat.blt t n=true)
 (k:St n ((t,v)::L) ops Q rest w):St n L ops Q (⟨some t,.assign x,ty,pos,aft,gd⟩::rest) w :=
 Qu hg rfl ht (fun ev hev=>by have e:=hev _ _ hx;simp[go_sem,e]) k
theorem sn (hg:Gok ops n L gd) (hx:Qo L x=some (.bool b)) (ht:Nat.blt t n=true)
 (k:St n ((t,.bool (!b))::L) ops Q rest w):St n L ops Q (⟨some t,.unOp .not ty2 x,ty,pos,aft,gd⟩::rest) w :=
 Qu hg rfl ht (fun ev hev=>by have e:=hev _ _ hx;simp[go_sem,e]) k
theorem sp (hg:Gok ops n L gd) (hx:Qo L x=some (.bool true)) (hy:Qo L y=some (v)) (ht:Nat.blt t n=true)
 (k:St n ((t,v)::L) ops Q rest w):St n L ops Q (⟨some t,.pick x y z,ty,pos,aft,gd⟩::rest) w :=
 Qu hg rfl ht (fun ev hev=>by have e:=hev _ _ hx;have e2:=hev _ _ hy;simp[go_sem,e,e2]) k
theorem spf (hg:Gok ops n L gd) (hx:Qo L x=some (.bool false)) (hz:Qo L z=some (v)) (ht:Nat.blt t n=true)
 (k:St n ((t,v)::L) ops Q rest w):St n L ops Q (⟨some t,.pick x y z,ty,pos,aft,gd⟩::rest) w :=
 Qu hg rfl ht (fun ev hev=>by have e:=hev _ _ hx;have e2:=hev _ _ hz;simp[go_sem,e,e2]) k
theorem seq {p q:Int}(hg:Gok ops n L gd) (hx:Qo L x=some (.int .i64 p)) (hy:Qo L y=some (.int .i64 q)) (ht:Nat.blt t n=true)
 (k:St n ((t,.bool (p==q))::L) ops Q rest w):St n L ops Q (⟨some t,.binOp .eql 3 x y 3,ty,pos,aft,gd⟩::rest) w :=
 Qu hg rfl ht (fun ev hev=>by have e:=hev _ _ hx;have e2:=hev _ _ hy;simp[go_sem,e,e2]) k
theorem sne {p q:Int}(hg:Gok ops n L gd) (hx:Qo L x=some (.int .i64 p)) (hy:Qo L y=some (.int .i64 q)) (ht:Nat.blt t n=true)
 (k:St n ((t,.bool (p!=q))::L) ops Q rest w):St n L ops Q (⟨some t,.binOp .neq 3 x y 3,ty,pos,aft,gd⟩::rest) w :=
 Qu hg rfl ht (fun ev hev=>by have e:=hev _ _ hx;have e2:=hev _ _ hy;simp[go_sem,e,e2]) k
theorem slt {p q:Int}(hg:Gok ops n L gd) (hx:Qo L x=some (.int .i64 p)) (hy:Qo L y=some (.int .i64 q)) (ht:Nat.blt t n=true)
 (k:St n ((t,.bool (decide (p<q)))::L) ops Q rest w):St n L ops Q (⟨some t,.binOp .lss 3 x y 3,ty,pos,aft,gd⟩::rest) w :=
 Qu hg rfl ht (fun ev hev=>by have e:=hev _ _ hx;have e2:=hev _ _ hy;simp[go_sem,e,e2]) k
theorem sgt {p q:Int}(hg:Gok ops n L gd) (hx:Qo L x=some (.int .i64 p)) (hy:Qo L y=some (.int .i64 q)) (ht:Nat.blt t n=true)
 (k:St n ((t,.bool (decide (q<p)))::L) ops Q rest w):St n L ops Q (⟨some t,.binOp .gtr 3 x y 3,ty,pos,aft,gd⟩::rest) w :=
 Qu hg rfl ht (fun ev hev=>by have e:=hev _ _ hx;have e2:=hev _ _ hy;simp[go_sem,e,e2]) k
theorem sge {p q:Int}(hg:Gok ops n L gd) (hx:Qo L x=some (.int .i64 p)) (hy:Qo L y=some (.int .i64 q)) (ht:Nat.blt t n=true)
 (k:St n ((t,.bool (decide (q≤p)))::L) ops Q rest w):St n L ops Q (⟨some t,.binOp .geq 3 x y 3,ty,pos,aft,gd⟩::rest) w :=
 Qu hg rfl ht (fun ev hev=>by have e:=hev _ _ hx;have e2:=hev _ _ hy;simp[go_sem,e,e2]) k
theorem QlL {p q:Int}(hg:Gok ops n L gd) (hx:Qo L x=some (.int .i64 p)) (hy:Qo L y=some (.int .i64 q)) (ht:Nat.blt t n=true)
 (k:St n ((t,.bool (p!=q))::L) ops Q rest w):St n L ops Q (⟨some t,.binOp .neq 2 x y 2,ty,pos,aft,gd⟩::rest) w :=
 Qu hg rfl ht (fun ev hev=>by have e:=hev _ _ hx;have e2:=hev _ _ hy;simp[go_sem,e,e2]) k
theorem sad {q:Nat}(hq:q<4611686018427387904) (hg:Gok ops n L gd) (hx:Qo L x=some (.int .i64 (q:Int))) (hy:Qo L y=some (.int .i64 1)) (ht:Nat.blt t n=true)
 (k:St n ((t,.int .i64 ((q:Int)+1))::L) ops Q rest w):St n L ops Q (⟨some t,.binOp .add 3 x y 3,ty,pos,aft,gd⟩::rest) w :=
 Qu hg rfl ht (fun ev hev=>by have e:=hev _ _ hx;have e2:=hev _ _ hy;have e3:=Qik q hq;simp[go_sem,e,e2,e3]) k
theorem ZJ {p:Option Addr}{m c:Nat}(hg:Gok ops n L gd) (hx:Qo L x=some (.slice p m c)) (ht:Nat.blt t n=true)
 (k:St n ((t,.int .i64 (m:Int))::L) ops Q rest w):St n L ops Q (⟨some t,.call { callee:=.builtin .len,args:=#[x],argTypes:=#[43] },3,pos,aft,gd⟩::rest) w :=
 Qu hg rfl ht (fun ev hev=>by have e:=hev _ _ hx;simp[go_sem,e]) k
theorem Qah {p:Option Addr}{m c:Nat}(hg:Gok ops n L gd) (hx:Qo L x=some (.slice p m c)) (ht:Nat.blt t n=true)
 (k:St n ((t,.int .i64 (m:Int))::L) ops Q rest w):St n L ops Q (⟨some t,.call { callee:=.builtin .len,args:=#[x],argTypes:=#[52] },3,pos,aft,gd⟩::rest) w :=
 Qu hg rfl ht (fun ev hev=>by have e:=hev _ _ hx;simp[go_sem,e]) k
theorem Qbx {p:Option Addr}{m c q B j:Nat}(hp:p=some ⟨B,j,none⟩) (hq:q<m) (hg:Gok ops n L gd) (hx:Qo L x=some (.slice p m c)) (hy:Qo L y=some (.int .i64 (q:Int))) (ht:Nat.blt t n=true)
 (k:St n ((t,.pointer (some ⟨B,j+q*3,none⟩))::L) ops Q rest w):St n L ops Q (⟨some t,.indexAddr 52 x y,ty,pos,aft,gd⟩::rest) w :=
 Qu hg rfl ht (fun ev hev=>by have e:=hev _ _ hx;have e2:=hev _ _ hy;have h0:=Int.natCast_nonneg q;have h1:=Int.ofNat_lt.2 hq;subst hp;simp[go_sem,e,e2,h0,h1,hq]) k
theorem Qbs {p:Option Addr}{m c:Nat}(hg:Gok ops n L gd) (hx:Qo L x=some (.slice p m c)) (ht:Nat.blt t n=true)
 (k:St n ((t,.int .i64 (m:Int))::L) ops Q rest w):St n L ops Q (⟨some t,.call { callee:=.builtin .len,args:=#[x],argTypes:=#[42] },3,pos,aft,gd⟩::rest) w :=
 Qu hg rfl ht (fun ev hev=>by have e:=hev _ _ hx;simp[go_sem,e]) k
theorem Qe9 {p:Option Addr}{m c q B j:Nat}(hp:p=some ⟨B,j,none⟩) (hq:q<m) (hg:Gok ops n L gd) (hx:Qo L x=some (.slice p m c)) (hy:Qo L y=some (.int .i64 (q:Int))) (ht:Nat.blt t n=true)
 (k:St n ((t,.pointer (some ⟨B,j+q*8,none⟩))::L) ops Q rest w):St n L ops Q (⟨some t,.indexAddr 42 x y,ty,pos,aft,gd⟩::rest) w :=
 Qu hg rfl ht (fun ev hev=>by have e:=hev _ _ hx;have e2:=hev _ _ hy;have h0:=Int.natCast_nonneg q;have h1:=Int.ofNat_lt.2 hq;subst hp;simp[go_sem,e,e2,h0,h1,hq]) k
theorem ZH {p:Option Addr}{m c:Nat}(hg:Gok ops n L gd) (hx:Qo L x=some (.slice p m c)) (ht:Nat.blt t n=true)
 (k:St n ((t,.int .i64 (m:Int))::L) ops Q rest w):St n L ops Q (⟨some t,.call { callee:=.builtin .len,args:=#[x],argTypes:=#[53] },3,pos,aft,gd⟩::rest) w :=
 Qu hg rfl ht (fun ev hev=>by have e:=hev _ _ hx;simp[go_sem,e]) k
theorem Qb1 {p:Option Addr}{m c q B j:Nat}(hp:p=some ⟨B,j,none⟩) (hq:q<m) (hg:Gok ops n L gd) (hx:Qo L x=some (.slice p m c)) (hy:Qo L y=some (.int .i64 (q:Int))) (ht:Nat.blt t n=true)
 (k:St n ((t,.pointer (some ⟨B,j+q*12,none⟩))::L) ops Q rest w):St n L ops Q (⟨some t,.indexAddr 53 x y,ty,pos,aft,gd⟩::rest) w :=
 Qu hg rfl ht (fun ev hev=>by have e:=hev _ _ hx;have e2:=hev _ _ hy;have h0:=Int.natCast_nonneg q;have h1:=Int.ofNat_lt.2 hq;subst hp;simp[go_sem,e,e2,h0,h1,hq]) k
theorem QaA {p:Option Addr}{m c:Nat}(hg:Gok ops n L gd) (hx:Qo L x=some (.slice p m c)) (ht:Nat.blt t n=true)
 (k:St n ((t,.int .i64 (m:Int))::L) ops Q rest w):St n L ops Q (⟨some t,.call { callee:=.builtin .len,args:=#[x],argTypes:=#[22] },3,pos,aft,gd⟩::rest) w :=
 Qu hg rfl ht (fun ev hev=>by have e:=hev _ _ hx;simp[go_sem,e]) k
theorem QcB {p:Option Addr}{m c q B j:Nat}(hp:p=some ⟨B,j,none⟩) (hq:q<m) (hg:Gok ops n L gd) (hx:Qo L x=some (.slice p m c)) (hy:Qo L y=some (.int .i64 (q:Int))) (ht:Nat.blt t n=true)
 (k:St n ((t,.pointer (some ⟨B,j+q*4,none⟩))::L) ops Q rest w):St n L ops Q (⟨some t,.indexAddr 22 x y,ty,pos,aft,gd⟩::rest) w :=
 Qu hg rfl ht (fun ev hev=>by have e:=hev _ _ hx;have e2:=hev _ _ hy;have h0:=Int.natCast_nonneg q;have h1:=Int.ofNat_lt.2 hq;subst hp;simp[go_sem,e,e2,h0,h1,hq]) k
theorem Qft {B j:Nat}(hg:Gok ops n L gd) (hx:Qo L x=some (.pointer (some ⟨B,j,none⟩))) (ht:Nat.blt t n=true)
 (k:St n ((t,.pointer (some ⟨B,j,none⟩))::L) ops Q rest w):St n L ops Q (⟨some t,.fieldAddr 79 x 0,ty,pos,aft,gd⟩::rest) w :=
 Qu hg rfl ht (fun ev hev=>by have e:=hev _ _ hx;simp[go_sem,e]) k
theorem Qis {B j:Nat}(hg:Gok ops n L gd) (hx:Qo L x=some (.pointer (some ⟨B,j,none⟩))) (ht:Nat.blt t n=true)
 (k:St n ((t,.pointer (some ⟨B,j+2,none⟩))::L) ops Q rest w):St n L ops Q (⟨some t,.fieldAddr 79 x 2,ty,pos,aft,gd⟩::rest) w :=
 Qu hg rfl ht (fun ev hev=>by have e:=hev _ _ hx;simp[go_sem,e]) k
theorem Qid {B j:Nat}(hg:Gok ops n L gd) (hx:Qo L x=some (.pointer (some ⟨B,j,none⟩))) (ht:Nat.blt t n=true)
 (k:St n ((t,.pointer (some ⟨B,j,none⟩))::L) ops Q rest w):St n L ops Q (⟨some t,.fieldAddr 59 x 0,ty,pos,aft,gd⟩::rest) w :=
 Qu hg rfl ht (fun ev hev=>by have e:=hev _ _ hx;simp[go_sem,e]) k
theorem QkK {B j:Nat}(hg:Gok ops n L gd) (hx:Qo L x=some (.pointer (some ⟨B,j,none⟩))) (ht:Nat.blt t n=true)
 (k:St n ((t,.pointer (some ⟨B,j+1,none⟩))::L) ops Q rest w):St n L ops Q (⟨some t,.fieldAddr 59 x 1,ty,pos,aft,gd⟩::rest) w :=
 Qu hg rfl ht (fun ev hev=>by have e:=hev _ _ hx;simp[go_sem,e]) k
theorem Qlb {B j:Nat}(hg:Gok ops n L gd) (hx:Qo L x=some (.pointer (some ⟨B,j,none⟩))) (ht:Nat.blt t n=true)
 (k:St n ((t,.pointer (some ⟨B,j+2,none⟩))::L) ops Q rest w):St n L ops Q (⟨some t,.fieldAddr 59 x 2,ty,pos,aft,gd⟩::rest) w :=
 Qu hg rfl ht (fun ev hev=>by have e:=hev _ _ hx;simp[go_sem,e]) k
theorem QkY {B j:Nat}(hg:Gok ops n L gd) (hx:Qo L x=some (.pointer (some ⟨B,j,none⟩))) (ht:Nat.blt t n=true)
 (k:St n ((t,.pointer (some ⟨B,j+3,none⟩))::L) ops Q rest w):St n L ops Q (⟨some t,.fieldAddr 59 x 3,ty,pos,aft,gd⟩::rest) w :=
 Qu hg rfl ht (fun ev hev=>by have e:=hev _ _ hx;simp[go_sem,e]) k
theorem Qck {B j:Nat}(hg:Gok ops n L gd) (hx:Qo L x=some (.pointer (some ⟨B,j,none⟩))) (ht:Nat.blt t n=true)
 (k:St n ((t,.pointer (some ⟨B,j+4,none⟩))::L) ops Q rest w):St n L ops Q (⟨some t,.fieldAddr 59 x 4,ty,pos,aft,gd⟩::rest) w :=
 Qu hg rfl ht (fun ev hev=>by have e:=hev _ _ hx;simp[go_sem,e]) k
theorem Qkv {B j:Nat}(hg:Gok ops n L gd) (hx:Qo L x=some (.pointer (some ⟨B,j,none⟩))) (ht:Nat.blt t n=true)
 (k:St n ((t,.pointer (some ⟨B,j+5,none⟩))::L) ops Q rest w):St n L ops Q (⟨some t,.fieldAddr 59 x 5,ty,pos,aft,gd⟩::rest) w :=
 Qu hg rfl ht (fun ev hev=>by have e:=hev _ _ hx;simp[go_sem,e]) k
theorem QhD {B j:Nat}(hg:Gok ops n L gd) (hx:Qo L x=some (.pointer (some ⟨B,j,none⟩))) (ht:Nat.blt t n=true)
 (k:St n ((t,.pointer (some ⟨B,j+6,none⟩))::L) ops Q rest w):St n L ops Q (⟨some t,.fieldAddr 59 x 6,ty,pos,aft,gd⟩::rest) w :=
 Qu hg rfl ht (fun ev hev=>by have e:=hev _ _ hx;simp[go_sem,e]) k
theorem QeR {B j:Nat}(hg:Gok ops n L gd) (hx:Qo L x=some (.pointer (some ⟨B,j,none⟩))) (ht:Nat.blt t n=true)
 (k:St n ((t,.pointer (some ⟨B,j+7,none⟩))::L) ops Q rest w):St n L ops Q (⟨some t,.fieldAddr 59 x 7,ty,pos,aft,gd⟩::rest) w :=
 Qu hg rfl ht (fun ev hev=>by have e:=hev _ _ hx;simp[go_sem,e]) k
theorem Qkp {B j:Nat}(hg:Gok ops n L gd) (hx:Qo L x=some (.pointer (some ⟨B,j,none⟩))) (ht:Nat.blt t n=true)
 (k:St n ((t,.pointer (some ⟨B,j,none⟩))::L) ops Q rest w):St n L ops Q (⟨some t,.fieldAddr 45 x 0,ty,pos,aft,gd⟩::rest) w :=
 Qu hg rfl ht (fun ev hev=>by have e:=hev _ _ hx;simp[go_sem,e]) k
theorem QiT {B j:Nat}(hg:Gok ops n L gd) (hx:Qo L x=some (.pointer (some ⟨B,j,none⟩))) (ht:Nat.blt t n=true)
 (k:St n ((t,.pointer (some ⟨B,j+1,none⟩))::L) ops Q rest w):St n L ops Q (⟨some t,.fieldAddr 45 x 1,ty,pos,aft,gd⟩::rest) w :=
 Qu hg rfl ht (fun ev hev=>by have e:=hev _ _ hx;simp[go_sem,e]) k
theorem QhX {B j:Nat}(hg:Gok ops n L gd) (hx:Qo L x=some (.pointer (some ⟨B,j,none⟩))) (ht:Nat.blt t n=true)
 (k:St n ((t,.pointer (some ⟨B,j+2,none⟩))::L) ops Q rest w):St n L ops Q (⟨some t,.fieldAddr 45 x 2,ty,pos,aft,gd⟩::rest) w :=
 Qu hg rfl ht (fun ev hev=>by have e:=hev _ _ hx;simp[go_sem,e]) k
theorem QaX {B j:Nat}(hg:Gok ops n L gd) (hx:Qo L x=some (.pointer (some ⟨B,j,none⟩))) (ht:Nat.blt t n=true)
 (k:St n ((t,.pointer (some ⟨B,j,none⟩))::L) ops Q rest w):St n L ops Q (⟨some t,.fieldAddr 47 x 0,ty,pos,aft,gd⟩::rest) w :=
 Qu hg rfl ht (fun ev hev=>by have e:=hev _ _ hx;simp[go_sem,e]) k
theorem QkA {B j:Nat}(hg:Gok ops n L gd) (hx:Qo L x=some (.pointer (some ⟨B,j,none⟩))) (ht:Nat.blt t n=true)
 (k:St n ((t,.pointer (some ⟨B,j+1,none⟩))::L) ops Q rest w):St n L ops Q (⟨some t,.fieldAddr 47 x 1,ty,pos,aft,gd⟩::rest) w :=
 Qu hg rfl ht (fun ev hev=>by have e:=hev _ _ hx;simp[go_sem,e]) k
theorem QdT {B j:Nat}(hg:Gok ops n L gd) (hx:Qo L x=some (.pointer (some ⟨B,j,none⟩))) (ht:Nat.blt t n=true)
 (k:St n ((t,.pointer (some ⟨B,j+2,none⟩))::L) ops Q rest w):St n L ops Q (⟨some t,.fieldAddr 47 x 2,ty,pos,aft,gd⟩::rest) w :=
 Qu hg rfl ht (fun ev hev=>by have e:=hev _ _ hx;simp[go_sem,e]) k
theorem Qdf {B j:Nat}(hg:Gok ops n L gd) (hx:Qo L x=some (.pointer (some ⟨B,j,none⟩))) (ht:Nat.blt t n=true)
 (k:St n ((t,.pointer (some ⟨B,j+5,none⟩))::L) ops Q rest w):St n L ops Q (⟨some t,.fieldAddr 47 x 3,ty,pos,aft,gd⟩::rest) w :=
 Qu hg rfl ht (fun ev hev=>by have e:=hev _ _ hx;simp[go_sem,e]) k
theorem QcG {B j:Nat}(hg:Gok ops n L gd) (hx:Qo L x=some (.pointer (some ⟨B,j,none⟩))) (ht:Nat.blt t n=true)
 (k:St n ((t,.pointer (some ⟨B,j+8,none⟩))::L) ops Q rest w):St n L ops Q (⟨some t,.fieldAddr 47 x 4,ty,pos,aft,gd⟩::rest) w :=
 Qu hg rfl ht (fun ev hev=>by have e:=hev _ _ hx;simp[go_sem,e]) k
theorem QaJ {B j:Nat}(hg:Gok ops n L gd) (hx:Qo L x=some (.pointer (some ⟨B,j,none⟩))) (ht:Nat.blt t n=true)
 (k:St n ((t,.pointer (some ⟨B,j,none⟩))::L) ops Q rest w):St n L ops Q (⟨some t,.fieldAddr 84 x 0,ty,pos,aft,gd⟩::rest) w :=
 Qu hg rfl ht (fun ev hev=>by have e:=hev _ _ hx;simp[go_sem,e]) k
theorem Qbb {B j:Nat}(hg:Gok ops n L gd) (hx:Qo L x=some (.pointer (some ⟨B,j,none⟩))) (ht:Nat.blt t n=true)
 (k:St n ((t,.pointer (some ⟨B,j+1,none⟩))::L) ops Q rest w):St n L ops Q (⟨some t,.fieldAddr 84 x 1,ty,pos,aft,gd⟩::rest) w :=
 Qu hg rfl ht (fun ev hev=>by have e:=hev _ _ hx;simp[go_sem,e]) k
theorem ZI {B j:Nat}(hg:Gok ops n L gd) (hx:Qo L x=some (.pointer (some ⟨B,j,none⟩))) (ht:Nat.blt t n=true)
 (k:St n ((t,.pointer (some ⟨B,j+2,none⟩))::L) ops Q rest w):St n L ops Q (⟨some t,.fieldAddr 84 x 2,ty,pos,aft,gd⟩::rest) w :=
 Qu hg rfl ht (fun ev hev=>by have e:=hev _ _ hx;simp[go_sem,e]) k
theorem Qat {B j:Nat}(hg:Gok ops n L gd) (hx:Qo L x=some (.pointer (some ⟨B,j,none⟩))) (ht:Nat.blt t n=true)
 (k:St n ((t,.pointer (some ⟨B,j+3,none⟩))::L) ops Q rest w):St n L ops Q (⟨some t,.fieldAddr 84 x 3,ty,pos,aft,gd⟩::rest) w :=
 Qu hg rfl ht (fun ev hev=>by have e:=hev _ _ hx;simp[go_sem,e]) k
theorem Z4 {B j:Nat}(hg:Gok ops n L gd) (hx:Qo L x=some (.pointer (some ⟨B,j,none⟩))) (ht:Nat.blt t n=true)
 (k:St n ((t,.pointer (some ⟨B,j,none⟩))::L) ops Q rest w):St n L ops Q (⟨some t,.fieldAddr 55 x 0,ty,pos,aft,gd⟩::rest) w :=
 Qu hg rfl ht (fun ev hev=>by have e:=hev _ _ hx;simp[go_sem,e]) k
theorem Qba {B j:Nat}(hg:Gok ops n L gd) (hx:Qo L x=some (.pointer (some ⟨B,j,none⟩))) (ht:Nat.blt t n=true)
 (k:St n ((t,.pointer (some ⟨B,j+1,none⟩))::L) ops Q rest w):St n L ops Q (⟨some t,.fieldAddr 55 x 1,ty,pos,aft,gd⟩::rest) w :=
 Qu hg rfl ht (fun ev hev=>by have e:=hev _ _ hx;simp[go_sem,e]) k
theorem QaO {B j:Nat}(hg:Gok ops n L gd) (hx:Qo L x=some (.pointer (some ⟨B,j,none⟩))) (ht:Nat.blt t n=true)
 (k:St n ((t,.pointer (some ⟨B,j+2,none⟩))::L) ops Q rest w):St n L ops Q (⟨some t,.fieldAddr 55 x 2,ty,pos,aft,gd⟩::rest) w :=
 Qu hg rfl ht (fun ev hev=>by have e:=hev _ _ hx;simp[go_sem,e]) k
theorem ZV {B j:Nat}(hg:Gok ops n L gd) (hx:Qo L x=some (.pointer (some ⟨B,j,none⟩))) (ht:Nat.blt t n=true)
 (k:St n ((t,.pointer (some ⟨B,j+3,none⟩))::L) ops Q rest w):St n L ops Q (⟨some t,.fieldAddr 55 x 3,ty,pos,aft,gd⟩::rest) w :=
 Qu hg rfl ht (fun ev hev=>by have e:=hev _ _ hx;simp[go_sem,e]) k
theorem Zq {B j:Nat}(hg:Gok ops n L gd) (hx:Qo L x=some (.pointer (some ⟨B,j,none⟩))) (ht:Nat.blt t n=true)
 (k:St n ((t,.pointer (some ⟨B,j,none⟩))::L) ops Q rest w):St n L ops Q (⟨some t,.fieldAddr 24 x 0,ty,pos,aft,gd⟩::rest) w :=
 Qu hg rfl ht (fun ev hev=>by have e:=hev _ _ hx;simp[go_sem,e]) k
theorem Qbh {B j:Nat}(hg:Gok ops n L gd) (hx:Qo L x=some (.pointer (some ⟨B,j,none⟩))) (ht:Nat.blt t n=true)
 (k:St n ((t,.pointer (some ⟨B,j,none⟩))::L) ops Q rest w):St n L ops Q (⟨some t,.fieldAddr 30 x 0,ty,pos,aft,gd⟩::rest) w :=
 Qu hg rfl ht (fun ev hev=>by have e:=hev _ _ hx;simp[go_sem,e]) k
theorem Qix {B j:Nat}(hg:Gok ops n L gd) (hx:Qo L x=some (.pointer (some ⟨B,j,none⟩))) (ht:Nat.blt t n=true)
 (k:St n ((t,.pointer (some ⟨B,j,none⟩))::L) ops Q rest w):St n L ops Q (⟨some t,.fieldAddr 143 x 0,ty,pos,aft,gd⟩::rest) w :=
 Qu hg rfl ht (fun ev hev=>by have e:=hev _ _ hx;simp[go_sem,e]) k
theorem Qiu {B j:Nat}(hg:Gok ops n L gd) (hx:Qo L x=some (.pointer (some ⟨B,j,none⟩))) (ht:Nat.blt t n=true)
 (k:St n ((t,.pointer (some ⟨B,j+1,none⟩))::L) ops Q rest w):St n L ops Q (⟨some t,.fieldAddr 143 x 1,ty,pos,aft,gd⟩::rest) w :=
 Qu hg rfl ht (fun ev hev=>by have e:=hev _ _ hx;simp[go_sem,e]) k
theorem Qit {B j:Nat}(hg:Gok ops n L gd) (hx:Qo L x=some (.pointer (some ⟨B,j,none⟩))) (ht:Nat.blt t n=true)
 (k:St n ((t,.pointer (some ⟨B,j+2,none⟩))::L) ops Q rest w):St n L ops Q (⟨some t,.fieldAddr 143 x 2,ty,pos,aft,gd⟩::rest) w :=
 Qu hg rfl ht (fun ev hev=>by have e:=hev _ _ hx;simp[go_sem,e]) k
theorem Qho {B j:Nat}(hg:Gok ops n L gd) (hx:Qo L x=some (.pointer (some ⟨B,j,none⟩))) (ht:Nat.blt t n=true)
 (k:St n ((t,.pointer (some ⟨B,j+3,none⟩))::L) ops Q rest w):St n L ops Q (⟨some t,.fieldAddr 143 x 3,ty,pos,aft,gd⟩::rest) w :=
 Qu hg rfl ht (fun ev hev=>by have e:=hev _ _ hx;simp[go_sem,e]) k
theorem QhP {B j:Nat}(hg:Gok ops n L gd) (hx:Qo L x=some (.pointer (some ⟨B,j,none⟩))) (ht:Nat.blt t n=true)
 (k:St n ((t,.pointer (some ⟨B,j+4,none⟩))::L) ops Q rest w):St n L ops Q (⟨some t,.fieldAddr 143 x 4,ty,pos,aft,gd⟩::rest) w :=
 Qu hg rfl ht (fun ev hev=>by have e:=hev _ _ hx;simp[go_sem,e]) k
theorem Qh9 {B j:Nat}(hg:Gok ops n L gd) (hx:Qo L x=some (.pointer (some ⟨B,j,none⟩))) (ht:Nat.blt t n=true)
 (k:St n ((t,.pointer (some ⟨B,j+5,none⟩))::L) ops Q rest w):St n L ops Q (⟨some t,.fieldAddr 143 x 5,ty,pos,aft,gd⟩::rest) w :=
 Qu hg rfl ht (fun ev hev=>by have e:=hev _ _ hx;simp[go_sem,e]) k
theorem Qh6 {B j:Nat}(hg:Gok ops n L gd) (hx:Qo L x=some (.pointer (some ⟨B,j,none⟩))) (ht:Nat.blt t n=true)
 (k:St n ((t,.pointer (some ⟨B,j+6,none⟩))::L) ops Q rest w):St n L ops Q (⟨some t,.fieldAddr 143 x 6,ty,pos,aft,gd⟩::rest) w :=
 Qu hg rfl ht (fun ev hev=>by have e:=hev _ _ hx;simp[go_sem,e]) k
theorem QT {B j:Nat}(hg:Gok ops n L gd) (hx:Qo L x=some (.pointer (some ⟨B,j,none⟩))) (ht:Nat.blt t n=true)
 (k:St n ((t,.pointer (some ⟨B,j+1,none⟩))::L) ops Q rest w):St n L ops Q (⟨some t,.fieldAddr 134 x 1,ty,pos,aft,gd⟩::rest) w :=
 Qu hg rfl ht (fun ev hev=>by have e:=hev _ _ hx;simp[go_sem,e]) k
theorem QbT {B j:Nat}(hg:Gok ops n L gd) (hx:Qo L x=some (.pointer (some ⟨B,j,none⟩))) (ht:Nat.blt t n=true)
 (k:St n ((t,.pointer (some ⟨B,j+5,none⟩))::L) ops Q rest w):St n L ops Q (⟨some t,.fieldAddr 134 x 2,ty,pos,aft,gd⟩::rest) w :=
 Qu hg rfl ht (fun ev hev=>by have e:=hev _ _ hx;simp[go_sem,e]) k
theorem QaH {B j:Nat}(hg:Gok ops n L gd) (hx:Qo L x=some (.pointer (some ⟨B,j,none⟩))) (ht:Nat.blt t n=true)
 (k:St n ((t,.pointer (some ⟨B,j,none⟩))::L) ops Q rest w):St n L ops Q (⟨some t,.fieldAddr 181 x 0,ty,pos,aft,gd⟩::rest) w :=
 Qu hg rfl ht (fun ev hev=>by have e:=hev _ _ hx;simp[go_sem,e]) k
theorem Zn {B j:Nat}(hg:Gok ops n L gd) (hx:Qo L x=some (.pointer (some ⟨B,j,none⟩))) (ht:Nat.blt t n=true)
 (k:St n ((t,.pointer (some ⟨B,j+6,none⟩))::L) ops Q rest w):St n L ops Q (⟨some t,.fieldAddr 181 x 1,ty,pos,aft,gd⟩::rest) w :=
 Qu hg rfl ht (fun ev hev=>by have e:=hev _ _ hx;simp[go_sem,e]) k
theorem QcM {B j:Nat}(hg:Gok ops n L gd) (hx:Qo L x=some (.pointer (some ⟨B,j,none⟩))) (ht:Nat.blt t n=true)
 (k:St n ((t,.pointer (some ⟨B,j+18,none⟩))::L) ops Q rest w):St n L ops Q (⟨some t,.fieldAddr 181 x 2,ty,pos,aft,gd⟩::rest) w :=
 Qu hg rfl ht (fun ev hev=>by have e:=hev _ _ hx;simp[go_sem,e]) k
theorem Qj1 {B j:Nat}(hc:w.cell? ⟨B,j,none⟩=some v) (hg:Gok ops n L gd) (hx:Qo L x=some (.pointer (some ⟨B,j,none⟩))) (ht:Nat.blt t n=true)
 (k:St n ((t,v)::L) ops Q rest w):St n L ops Q (⟨some t,.load 3 x,ty,pos,aft,gd⟩::rest) w :=
 Qu hg rfl ht (fun ev hev=>by have e:=hev _ _ hx;simp[go_sem,e,hc]) k
theorem QN (i:Nat){B j:Nat}{c:Array Value}{bt:TypeId}(hW:Wd w0 w Bs) (hg:Gok ops n L gd) (hx:Qo L x=some (.pointer (some ⟨B,j,none⟩))) (hb:Bs[i]?=some (B,c,bt)) (hc:c[j]?=some v) (ht:Nat.blt t n=true)
 (k:St n ((t,v)::L) ops Q rest w):St n L ops Q (⟨some t,.load 3 x,ty,pos,aft,gd⟩::rest) w:=Qj1 (Qb (hW.get i hb) j v hc) hg hx ht k
theorem Qla {B j:Nat}(hc:w.cell? ⟨B,j,none⟩=some v) (hg:Gok ops n L gd) (hx:Qo L x=some (.pointer (some ⟨B,j,none⟩))) (ht:Nat.blt t n=true)
 (k:St n ((t,v)::L) ops Q rest w):St n L ops Q (⟨some t,.load 2 x,ty,pos,aft,gd⟩::rest) w :=
 Qu hg rfl ht (fun ev hev=>by have e:=hev _ _ hx;simp[go_sem,e,hc]) k
theorem Qk0 (i:Nat){B j:Nat}{c:Array Value}{bt:TypeId}(hW:Wd w0 w Bs) (hg:Gok ops n L gd) (hx:Qo L x=some (.pointer (some ⟨B,j,none⟩))) (hb:Bs[i]?=some (B,c,bt)) (hc:c[j]?=some v) (ht:Nat.blt t n=true)
 (k:St n ((t,v)::L) ops Q rest w):St n L ops Q (⟨some t,.load 2 x,ty,pos,aft,gd⟩::rest) w:=Qla (Qb (hW.get i hb) j v hc) hg hx ht k
theorem QkT {B j:Nat}(hc:w.cell? ⟨B,j,none⟩=some v) (hg:Gok ops n L gd) (hx:Qo L x=some (.pointer (some ⟨B,j,none⟩))) (ht:Nat.blt t n=true)
 (k:St n ((t,v)::L) ops Q rest w):St n L ops Q (⟨some t,.load 4 x,ty,pos,aft,gd⟩::rest) w :=
 Qu hg rfl ht (fun ev hev=>by have e:=hev _ _ hx;simp[go_sem,e,hc]) k
theorem Qdd (i:Nat){B j:Nat}{c:Array Value}{bt:TypeId}(hW:Wd w0 w Bs) (hg:Gok ops n L gd) (hx:Qo L x=some (.pointer (some ⟨B,j,none⟩))) (hb:Bs[i]?=some (B,c,bt)) (hc:c[j]?=some v) (ht:Nat.blt t n=true)
 (k:St n ((t,v)::L) ops Q rest w):St n L ops Q (⟨some t,.load 4 x,ty,pos,aft,gd⟩::rest) w:=QkT (Qb (hW.get i hb) j v hc) hg hx ht k
theorem QiC {B j:Nat}(hc:w.cell? ⟨B,j,none⟩=some v) (hg:Gok ops n L gd) (hx:Qo L x=some (.pointer (some ⟨B,j,none⟩))) (ht:Nat.blt t n=true)
 (k:St n ((t,v)::L) ops Q rest w):St n L ops Q (⟨some t,.load 43 x,ty,pos,aft,gd⟩::rest) w :=
 Qu hg rfl ht (fun ev hev=>by have e:=hev _ _ hx;simp[go_sem,e,hc]) k
theorem Z0 (i:Nat){B j:Nat}{c:Array Value}{bt:TypeId}(hW:Wd w0 w Bs) (hg:Gok ops n L gd) (hx:Qo L x=some (.pointer (some ⟨B,j,none⟩))) (hb:Bs[i]?=some (B,c,bt)) (hc:c[j]?=some v) (ht:Nat.blt t n=true)
 (k:St n ((t,v)::L) ops Q rest w):St n L ops Q (⟨some t,.load 43 x,ty,pos,aft,gd⟩::rest) w:=QiC (Qb (hW.get i hb) j v hc) hg hx ht k
theorem Qka {B j:Nat}(hc:w.cell? ⟨B,j,none⟩=some v) (hg:Gok ops n L gd) (hx:Qo L x=some (.pointer (some ⟨B,j,none⟩))) (ht:Nat.blt t n=true)
 (k:St n ((t,v)::L) ops Q rest w):St n L ops Q (⟨some t,.load 52 x,ty,pos,aft,gd⟩::rest) w :=
 Qu hg rfl ht (fun ev hev=>by have e:=hev _ _ hx;simp[go_sem,e,hc]) k
theorem Zc (i:Nat){B j:Nat}{c:Array Value}{bt:TypeId}(hW:Wd w0 w Bs) (hg:Gok ops n L gd) (hx:Qo L x=some (.pointer (some ⟨B,j,none⟩))) (hb:Bs[i]?=some (B,c,bt)) (hc:c[j]?=some v) (ht:Nat.blt t n=true)
 (k:St n ((t,v)::L) ops Q rest w):St n L ops Q (⟨some t,.load 52 x,ty,pos,aft,gd⟩::rest) w:=Qka (Qb (hW.get i hb) j v hc) hg hx ht k
theorem QkR {B j:Nat}(hc:w.cell? ⟨B,j,none⟩=some v) (hg:Gok ops n L gd) (hx:Qo L x=some (.pointer (some ⟨B,j,none⟩))) (ht:Nat.blt t n=true)
 (k:St n ((t,v)::L) ops Q rest w):St n L ops Q (⟨some t,.load 42 x,ty,pos,aft,gd⟩::rest) w :=
 Qu hg rfl ht (fun ev hev=>by have e:=hev _ _ hx;simp[go_sem,e,hc]) k
theorem Qbm (i:Nat){B j:Nat}{c:Array Value}{bt:TypeId}(hW:Wd w0 w Bs) (hg:Gok ops n L gd) (hx:Qo L x=some (.pointer (some ⟨B,j,none⟩))) (hb:Bs[i]?=some (B,c,bt)) (hc:c[j]?=some v) (ht:Nat.blt t n=true)
 (k:St n ((t,v)::L) ops Q rest w):St n L ops Q (⟨some t,.load 42 x,ty,pos,aft,gd⟩::rest) w:=QkR (Qb (hW.get i hb) j v hc) hg hx ht k
theorem Qjw {B j:Nat}(hc:w.cell? ⟨B,j,none⟩=some v) (hg:Gok ops n L gd) (hx:Qo L x=some (.pointer (some ⟨B,j,none⟩))) (ht:Nat.blt t n=true)
 (k:St n ((t,v)::L) ops Q rest w):St n L ops Q (⟨some t,.load 53 x,ty,pos,aft,gd⟩::rest) w :=
 Qu hg rfl ht (fun ev hev=>by have e:=hev _ _ hx;simp[go_sem,e,hc]) k
theorem ZD (i:Nat){B j:Nat}{c:Array Value}{bt:TypeId}(hW:Wd w0 w Bs) (hg:Gok ops n L gd) (hx:Qo L x=some (.pointer (some ⟨B,j,none⟩))) (hb:Bs[i]?=some (B,c,bt)) (hc:c[j]?=some v) (ht:Nat.blt t n=true)
 (k:St n ((t,v)::L) ops Q rest w):St n L ops Q (⟨some t,.load 53 x,ty,pos,aft,gd⟩::rest) w:=Qjw (Qb (hW.get i hb) j v hc) hg hx ht k
theorem QjW {B j:Nat}(hc:w.cell? ⟨B,j,none⟩=some v) (hg:Gok ops n L gd) (hx:Qo L x=some (.pointer (some ⟨B,j,none⟩))) (ht:Nat.blt t n=true)
 (k:St n ((t,v)::L) ops Q rest w):St n L ops Q (⟨some t,.load 22 x,ty,pos,aft,gd⟩::rest) w :=
 Qu hg rfl ht (fun ev hev=>by have e:=hev _ _ hx;simp[go_sem,e,hc]) k
theorem Qai (i:Nat){B j:Nat}{c:Array Value}{bt:TypeId}(hW:Wd w0 w Bs) (hg:Gok ops n L gd) (hx:Qo L x=some (.pointer (some ⟨B,j,none⟩))) (hb:Bs[i]?=some (B,c,bt)) (hc:c[j]?=some v) (ht:Nat.blt t n=true)
 (k:St n ((t,v)::L) ops Q rest w):St n L ops Q (⟨some t,.load 22 x,ty,pos,aft,gd⟩::rest) w:=QjW (Qb (hW.get i hb) j v hc) hg hx ht k
theorem Qd4 {w:World}{B:Nat}{c:Array Value}{t:TypeId}(h:Blk w B c t) (j m:Nat) (hn:Nat.ble (j+m) c.size=true):w.rangeAt B j ((c.toList.drop j).take m):=fun k v hk=>by
 have hlt:k<((c.toList.drop j).take m).length:=(List.getElem?_eq_some_iff.1 hk).1;have hm:k<m:=by simp at hlt;omega
 rw[List.getElem?_take,if_pos hm,List.getElem?_drop] at hk
 exact Qb h (j+k) v (by simpa using hk)
theorem QcE {w:World}{B:Nat}{c:Array Value}{t:TypeId}(h:Blk w B c t) (j n:Nat) (hn:j+n≤c.size):w.there B j n:=fun k hk =>
 ⟨by rw[Qb h (j+k) c[j+k] (by simp[show j+k<c.size by omega])];rfl,Qt h (j+k)⟩
theorem QJ {w w':World}{B j:Nat}{cs:List Value}(h:w.rangeAt B j cs) (b:Below w.heap.size w w'):w'.rangeAt B j cs:=fun k v hk=>QW b (h k v hk)
theorem sSE {d:TypeDesc}{B j:Nat}{cs:List Value}(hu:Tryz.prog.underlying ty2=some d) (hd:d.isRow=true) (hr:w.rangeAt B j cs) (hi:(Tryz.prog.info? ty2).map (·.size)=some cs.length) (hg:Gok ops n L gd) (hx:Qo L x=some (.pointer (some ⟨B,j,none⟩))) (ht:Nat.blt t n=true)
 (k:St n ((t,.agg cs.toArray)::L) ops Q rest w):St n L ops Q (⟨some t,.load ty2 x,ty,pos,aft,gd⟩::rest) w :=
 Qu hg rfl ht (fun ev hev=>by
  have e:=hev _ _ hx;have e2:=run_loadAt_mid (P:=Tryz.prog) w B j ty2 cs d hr hu hd hi;unfold execOp;simp only[e,Sem.run_bind,e2,Result.andThen_ok,Sem.run_pure]) k
theorem sS {d:TypeDesc}(i m:Nat){B j:Nat}{c:Array Value}{bt:TypeId}(hu:Tryz.prog.underlying ty2=some d) (hd:d.isRow=true) (hi:(Tryz.prog.info? ty2).map (·.size)=some m) (hW:Wd w0 w Bs) (hg:Gok ops n L gd) (hx:Qo L x=some (.pointer (some ⟨B,j,none⟩))) (hb:Bs[i]?=some (B,c,bt)) (hn:Nat.ble (j+m) c.size=true) (ht:Nat.blt t n=true)
 (k:St n ((t,.agg ((c.toList.drop j).take m).toArray)::L) ops Q rest w):St n L ops Q (⟨some t,.load ty2 x,ty,pos,aft,gd⟩::rest) w :=
 sSE hu hd (Qd4 (hW.get i hb) j m hn) (by rw[hi];have:j+m≤c.size:=by simpa[Nat.ble_eq] using hn
  simp;omega) hg hx ht k
theorem Qdv {o:Oper}(c:Array Value) (bt:TypeId) (hW:Wd w0 w Bs) (hd:o.dst=some t) (hg:Gok ops n L o.guard) (ht:Nat.blt t n=true)
 (h:∀ ev:Operand→Value,(∀ x v,Qo L x=some v→ev x=v)→(execOp ev o).run Tryz.prog w=.ok (.value (.pointer (some ⟨w.heap.size,0,none⟩))) (w.alloc (.cells c bt)))
 (k:∀ w' B,Wd w0 w' ((B,c,bt)::Bs)→New w w' B→St n ((t,.pointer (some ⟨B,0,none⟩))::L) ops Q rest w'):St n L ops Q (o::rest) w:=fun a hF =>
 wpList_step fun K hK=>by
  rw[if_pos (hg.on hF)]
  unfold Oper.wp;rw[h a.eval (fun x v e=>hF.ev e),Oper.upon_value,hd]
  exact hK _ _ (k _ _ (hW.new' c bt) ⟨Q5 w _,rfl,by simp⟩ _ (hF.put ht))
theorem sB {cs:Array Value}(hW:Wd w0 w Bs) (hg:Gok ops n L gd) (hx:Qo L x=some (.agg cs)) (ht:Nat.blt t n=true)
 (k:∀ w' B,Wd w0 w' ((B,cs,ty2)::Bs)→New w w' B→St n ((t,.pointer (some ⟨B,0,none⟩))::L) ops Q rest w'):St n L ops Q (⟨some t,.box ty2 x,ty,pos,aft,gd⟩::rest) w :=
 Qdv cs ty2 hW rfl hg ht (fun ev hev=>by have e:=hev _ _ hx;simp[go_sem,e]) k
theorem QhF (hW:Wd w0 w Bs) (hg:Gok ops n L gd) (ht:Nat.blt t n=true)
 (k:∀ w' B,Wd w0 w' ((B,#[.int .i64 0,.int .i64 0,.slice none 0 0],79)::Bs)→New w w' B→St n ((t,.pointer (some ⟨B,0,none⟩))::L) ops Q rest w'):St n L ops Q (⟨some t,.alloc 79,ty,pos,aft,gd⟩::rest) w :=
 Qdv #[.int .i64 0,.int .i64 0,.slice none 0 0] 79 hW rfl hg ht (fun ev hev=>by simp[go_sem]) k
theorem Qkf (hW:Wd w0 w Bs) (hg:Gok ops n L gd) (ht:Nat.blt t n=true)
 (k:∀ w' B,Wd w0 w' ((B,#[.int .i64 0,.int .i64 0,.int .i64 0,.int .i64 0,.int .i64 0,.int .i64 0,.slice none 0 0,.slice none 0 0],59)::Bs)→New w w' B→St n ((t,.pointer (some ⟨B,0,none⟩))::L) ops Q rest w'):St n L ops Q (⟨some t,.alloc 59,ty,pos,aft,gd⟩::rest) w :=
 Qdv #[.int .i64 0,.int .i64 0,.int .i64 0,.int .i64 0,.int .i64 0,.int .i64 0,.slice none 0 0,.slice none 0 0] 59 hW rfl hg ht (fun ev hev=>by simp[go_sem]) k
theorem Ql9 (hW:Wd w0 w Bs) (hg:Gok ops n L gd) (ht:Nat.blt t n=true)
 (k:∀ w' B,Wd w0 w' ((B,#[.int .i64 0,.slice none 0 0,.slice none 0 0],45)::Bs)→New w w' B→St n ((t,.pointer (some ⟨B,0,none⟩))::L) ops Q rest w'):St n L ops Q (⟨some t,.alloc 45,ty,pos,aft,gd⟩::rest) w :=
 Qdv #[.int .i64 0,.slice none 0 0,.slice none 0 0] 45 hW rfl hg ht (fun ev hev=>by simp[go_sem]) k
theorem Qlj (hW:Wd w0 w Bs) (hg:Gok ops n L gd) (ht:Nat.blt t n=true)
 (k:∀ w' B,Wd w0 w' ((B,#[.int .i64 0,.int .i64 0,.int .i64 0,.slice none 0 0,.slice none 0 0,.int .i64 0,.slice none 0 0,.slice none 0 0,.slice none 0 0],47)::Bs)→New w w' B→St n ((t,.pointer (some ⟨B,0,none⟩))::L) ops Q rest w'):St n L ops Q (⟨some t,.alloc 47,ty,pos,aft,gd⟩::rest) w :=
 Qdv #[.int .i64 0,.int .i64 0,.int .i64 0,.slice none 0 0,.slice none 0 0,.int .i64 0,.slice none 0 0,.slice none 0 0,.slice none 0 0] 47 hW rfl hg ht (fun ev hev=>by simp[go_sem]) k
theorem Qdj (hW:Wd w0 w Bs) (hg:Gok ops n L gd) (ht:Nat.blt t n=true)
 (k:∀ w' B,Wd w0 w' ((B,#[.int .i64 0,.slice none 0 0,.slice none 0 0,.int .i64 0,.int .i64 0,.int .i64 0,.slice none 0 0,.slice none 0 0,.int .i64 0,.slice none 0 0,.slice none 0 0,.slice none 0 0],84)::Bs)→New w w' B→St n ((t,.pointer (some ⟨B,0,none⟩))::L) ops Q rest w'):St n L ops Q (⟨some t,.alloc 84,ty,pos,aft,gd⟩::rest) w :=
 Qdv #[.int .i64 0,.slice none 0 0,.slice none 0 0,.int .i64 0,.int .i64 0,.int .i64 0,.slice none 0 0,.slice none 0 0,.int .i64 0,.slice none 0 0,.slice none 0 0,.slice none 0 0] 84 hW rfl hg ht (fun ev hev=>by simp[go_sem]) k
theorem QdP (hW:Wd w0 w Bs) (hg:Gok ops n L gd) (ht:Nat.blt t n=true)
 (k:∀ w' B,Wd w0 w' ((B,#[.int .i64 0,.slice none 0 0,.slice none 0 0,.slice none 0 0],55)::Bs)→New w w' B→St n ((t,.pointer (some ⟨B,0,none⟩))::L) ops Q rest w'):St n L ops Q (⟨some t,.alloc 55,ty,pos,aft,gd⟩::rest) w :=
 Qdv #[.int .i64 0,.slice none 0 0,.slice none 0 0,.slice none 0 0] 55 hW rfl hg ht (fun ev hev=>by simp[go_sem]) k
theorem Qgp (hW:Wd w0 w Bs) (hg:Gok ops n L gd) (ht:Nat.blt t n=true)
 (k:∀ w' B,Wd w0 w' ((B,#[.slice none 0 0],24)::Bs)→New w w' B→St n ((t,.pointer (some ⟨B,0,none⟩))::L) ops Q rest w'):St n L ops Q (⟨some t,.alloc 24,ty,pos,aft,gd⟩::rest) w :=
 Qdv #[.slice none 0 0] 24 hW rfl hg ht (fun ev hev=>by simp[go_sem]) k
theorem Zs (hW:Wd w0 w Bs) (hg:Gok ops n L gd) (ht:Nat.blt t n=true)
 (k:∀ w' B,Wd w0 w' ((B,#[.int .i64 0,.int .i64 0],30)::Bs)→New w w' B→St n ((t,.pointer (some ⟨B,0,none⟩))::L) ops Q rest w'):St n L ops Q (⟨some t,.alloc 30,ty,pos,aft,gd⟩::rest) w :=
 Qdv #[.int .i64 0,.int .i64 0] 30 hW rfl hg ht (fun ev hev=>by simp[go_sem]) k
theorem Qgr (hW:Wd w0 w Bs) (hg:Gok ops n L gd) (ht:Nat.blt t n=true)
 (k:∀ w' B,Wd w0 w' ((B,#[.bool false,.bool false,.bool false,.bool false,.bool false,.bool false,.bool false],143)::Bs)→New w w' B→St n ((t,.pointer (some ⟨B,0,none⟩))::L) ops Q rest w'):St n L ops Q (⟨some t,.alloc 143,ty,pos,aft,gd⟩::rest) w :=
 Qdv #[.bool false,.bool false,.bool false,.bool false,.bool false,.bool false,.bool false] 143 hW rfl hg ht (fun ev hev=>by simp[go_sem]) k
theorem sT (i:Nat){B j:Nat}{c:Array Value}{bt:TypeId}{cells:List Value}(hW:Wd w0 w Bs)
 (hx:Qo L x=some (.pointer (some ⟨B,j,none⟩))) (hy:Qo L y=some (.agg cells.toArray)) (hi:(Tryz.prog.info? ty2).map (·.size)=some cells.length) (h1:cells.all (·.oneCell')=true)
 (hb:Bs[i]?=some (B,c,bt)) (hs:Nat.ble (j+cells.length) c.size=true)
 (k:∀ w',Wd w0 w' (Bs.set i (B,ZG c j cells,bt))→St n L ops Q rest w'):St n L ops Q (⟨none,.store ty2 x y,ty,pos,aft,none⟩::rest) w:=fun a hF=>by
 have hn:j+cells.length≤c.size:=by simpa[Nat.ble_eq] using hs
 refine QjH hF (hW.setAt i hb j cells hs rfl rfl) rfl rfl (fun K hK=>?_) (fun w' hW'=>k w' hW' a hF);have e:=hF.ev hx;have e2:=hF.ev hy
 have:=run_storeAt_mid (P:=Tryz.prog) w B j ty2 cells.toArray (by simpa using QcE (hW.get i hb) j cells.length hn) (by simpa using hi) (by simpa using h1)
 unfold Oper.wp execOp;simp only[e,e2,Sem.run_bind,this,Result.andThen_ok,Sem.run_pure]
 rw[Oper.upon_skip];simpa[Act.put] using hK
theorem s1 (i:Nat){B j:Nat}{c:Array Value}{bt:TypeId}(hi:(Tryz.prog.info? ty2).map (·.size)=some 1) (hW:Wd w0 w Bs)
 (hx:Qo L x=some (.pointer (some ⟨B,j,none⟩))) (hy:Qo L y=some v) (hv:v.cells=#[v]) (h1:v.oneCell'=true)
 (hb:Bs[i]?=some (B,c,bt)) (hs:Nat.ble (j+1) c.size=true)
 (k:∀ w',Wd w0 w' (Bs.set i (B,ZG c j [v],bt))→St n L ops Q rest w'):St n L ops Q (⟨none,.store ty2 x y,ty,pos,aft,none⟩::rest) w:=fun a hF=>by
 have hn:j+1≤c.size:=by simpa[Nat.ble_eq] using hs
 refine QjH hF (hW.setAt i hb j [v] hs rfl rfl) rfl rfl (fun K hK=>?_) (fun w' hW'=>k w' hW' a hF);have e:=hF.ev hx;have e2:=hF.ev hy;have ht:=QcE (hW.get i hb) j 1 hn;have h2:=run_storeCells_cells (P:=Tryz.prog) B j [v] 0 w (fun k hk=>by simpa using (ht k (by simpa using hk)).1) (fun k hk=>by simpa using (ht k (by simpa using hk)).2) (fun u hu=>by simp at hu;subst hu;exact h1)
 have h3:(Instr.storeAt ty2 (.pointer (some ⟨B,j,none⟩)) v).run Tryz.prog w=.ok () (w.setCells B j [v]):=by
  cases hq:Tryz.prog.info? ty2 with
  | none=>simp[hq] at hi
  | some q =>
   have hs1:q.size=1:=by simpa[hq] using hi
   simp only[Nat.add_zero] at h2
   simp[Instr.storeAt,Instr.sureAddr,storeVar,sizeOf,typeInfo,hq,hv,hs1,h2]
 unfold Oper.wp execOp;simp only[e,e2,Sem.run_bind,h3,Result.andThen_ok,Sem.run_pure]
 rw[Oper.upon_skip];simpa[Act.put] using hK
theorem Qe6 {o:Oper}{f:FuncId}{args:Array Value}{V:Value}(hW:Wd w0 w Bs) (hg:Gok ops n L o.guard) (hc:Rd Tryz.prog f args w V) (hd:o.dst=some t) (ht:Nat.blt t n=true)
 (h:∀ ev:Operand→Value,(∀ x v,Qo L x=some v→ev x=v)→(execOp ev o).run Tryz.prog w=.ok (.enter f args) w)
 (k:∀ w',Wd w0 w' Bs→St n ((t,V)::L) ops Q rest w'):St n L ops Q (o::rest) w:=fun a hF =>
 wpList_step fun K hK=>by
  rw[if_pos (hg.on hF)]
  unfold Oper.wp;rw[h a.eval (fun x v e=>hF.ev e),Oper.upon_enter]
  refine hc.mono ?_;rintro e w9 ⟨rfl,hb⟩;rw[hd]
  exact hK _ _ (k _ (hW.below hb) _ (hF.put ht))
def CF (f:FuncId):Prop:=∀ (args:Array Value) (w:World),(callFunc f args).run Tryz.prog w=.ok (.enter f args) w
theorem Zm {f : FuncId} {fn : Func} (hf : Tryz.prog.funcs[f]? = some fn) (h1 : (fn.name == "runtime.NumGoroutine") = false) (h2 : fn.body.isNone = false) : CF f := fun args w => by
 have h3 : ¬ fn.name = "runtime.NumGoroutine" := by simpa using h1
 have h4:¬ fn.body=none:=by intro h;rw[h] at h2;cases h2
 simp[callFunc,hf,h3,h4]
theorem Qdu {f:FuncId}{ts:Array TypeId}{x0:Operand}{v0:Value}{V:Value}(hcf:CF f) (hW:Wd w0 w Bs) (hc:Rd Tryz.prog f #[v0] w V) (hg:Gok ops n L gd) (h0:Qo L x0=some v0) (ht:Nat.blt t n=true)
 (k:∀ w',Wd w0 w' Bs→St n ((t,V)::L) ops Q rest w'):St n L ops Q (⟨some t,.call { callee:=.value (.func f),args:=#[x0],argTypes:=ts },ty,pos,aft,gd⟩::rest) w :=
 Qe6 hW hg hc rfl ht (fun ev hev=>by have e0:=hev _ _ h0;have ef:=hev (.func f) _ rfl;have ec:=hcf;unfold CF at ec;simp[go_sem,ef,ec,e0]) k
theorem Qau {f:FuncId}{ts:Array TypeId}{x0 x1:Operand}{v0 v1:Value}{V:Value}(hcf:CF f) (hW:Wd w0 w Bs) (hc:Rd Tryz.prog f #[v0,v1] w V) (hg:Gok ops n L gd) (h0:Qo L x0=some v0) (h1:Qo L x1=some v1) (ht:Nat.blt t n=true)
 (k:∀ w',Wd w0 w' Bs→St n ((t,V)::L) ops Q rest w'):St n L ops Q (⟨some t,.call { callee:=.value (.func f),args:=#[x0,x1],argTypes:=ts },ty,pos,aft,gd⟩::rest) w :=
 Qe6 hW hg hc rfl ht (fun ev hev=>by have e0:=hev _ _ h0;have e1:=hev _ _ h1;have ef:=hev (.func f) _ rfl;have ec:=hcf;unfold CF at ec;simp[go_sem,ef,ec,e0,e1]) k
theorem Qgn {f:FuncId}{ts:Array TypeId}{x0 x1 x2:Operand}{v0 v1 v2:Value}{V:Value}(hcf:CF f) (hW:Wd w0 w Bs) (hc:Rd Tryz.prog f #[v0,v1,v2] w V) (hg:Gok ops n L gd) (h0:Qo L x0=some v0) (h1:Qo L x1=some v1) (h2:Qo L x2=some v2) (ht:Nat.blt t n=true)
 (k:∀ w',Wd w0 w' Bs→St n ((t,V)::L) ops Q rest w'):St n L ops Q (⟨some t,.call { callee:=.value (.func f),args:=#[x0,x1,x2],argTypes:=ts },ty,pos,aft,gd⟩::rest) w :=
 Qe6 hW hg hc rfl ht (fun ev hev=>by have e0:=hev _ _ h0;have e1:=hev _ _ h1;have e2:=hev _ _ h2;have ef:=hev (.func f) _ rfl;have ec:=hcf;unfold CF at ec;simp[go_sem,ef,ec,e0,e1,e2]) k
theorem Qll {f:FuncId}{ts:Array TypeId}{xf:Operand}{x0:Operand}{v0:Value}{V:Value}(hcf:CF f) (hW:Wd w0 w Bs) (hc:Rd Tryz.prog f #[v0] w V) (hg:Gok ops n L gd) (hf:Qo L xf=some (.func (.func f) #[] #[])) (h0:Qo L x0=some v0) (ht:Nat.blt t n=true)
 (k:∀ w',Wd w0 w' Bs→St n ((t,V)::L) ops Q rest w'):St n L ops Q (⟨some t,.call { callee:=.value xf,args:=#[x0],argTypes:=ts },ty,pos,aft,gd⟩::rest) w :=
 Qe6 hW hg hc rfl ht (fun ev hev=>by have e0:=hev _ _ h0;have ef:=hev _ _ hf;have ec:=hcf;unfold CF at ec;simp[go_sem,ef,ec,e0]) k
theorem QjN {f:FuncId}{ts:Array TypeId}{xf:Operand}{x0 x1:Operand}{v0 v1 cp:Value}{V:Value}(hcf:CF f) (hW:Wd w0 w Bs) (hc:Rd Tryz.prog f #[v0,v1,cp] w V) (hg:Gok ops n L gd) (hf:Qo L xf=some (.func (.func f) #[] #[cp])) (h0:Qo L x0=some v0) (h1:Qo L x1=some v1) (ht:Nat.blt t n=true)
 (k:∀ w',Wd w0 w' Bs→St n ((t,V)::L) ops Q rest w'):St n L ops Q (⟨some t,.call { callee:=.value xf,args:=#[x0,x1],argTypes:=ts },ty,pos,aft,gd⟩::rest) w :=
 Qe6 hW hg hc rfl ht (fun ev hev=>by have e0:=hev _ _ h0;have e1:=hev _ _ h1;have ef:=hev _ _ hf;have ec:=hcf;unfold CF at ec;simp[go_sem,ef,ec,e0,e1]) k
theorem cf79:CF 79:=Zm Tryz.func79 (by kernel_rfl) (by kernel_rfl)
theorem cf139:CF 139:=Zm Tryz.func139 (by kernel_rfl) (by kernel_rfl)
theorem cf64:CF 64:=Zm Tryz.func64 (by kernel_rfl) (by kernel_rfl)
theorem cf175:CF 175:=Zm Tryz.func175 (by kernel_rfl) (by kernel_rfl)
theorem cf108:CF 108:=Zm Tryz.func108 (by kernel_rfl) (by kernel_rfl)
theorem cf110:CF 110:=Zm Tryz.func110 (by kernel_rfl) (by kernel_rfl)
theorem cf109:CF 109:=Zm Tryz.func109 (by kernel_rfl) (by kernel_rfl)
theorem cf36:CF 36:=Zm Tryz.func36 (by kernel_rfl) (by kernel_rfl)
theorem cf85:CF 85:=Zm Tryz.func85 (by kernel_rfl) (by kernel_rfl)
theorem cf86:CF 86:=Zm Tryz.func86 (by kernel_rfl) (by kernel_rfl)
theorem cf87:CF 87:=Zm Tryz.func87 (by kernel_rfl) (by kernel_rfl)
theorem cf50:CF 50:=Zm Tryz.func50 (by kernel_rfl) (by kernel_rfl)
theorem cf65:CF 65:=Zm Tryz.func65 (by kernel_rfl) (by kernel_rfl)
theorem cf66:CF 66:=Zm Tryz.func66 (by kernel_rfl) (by kernel_rfl)
theorem cf25:CF 25:=Zm Tryz.func25 (by kernel_rfl) (by kernel_rfl)
theorem cf104:CF 104:=Zm Tryz.func104 (by kernel_rfl) (by kernel_rfl)
theorem cf105:CF 105:=Zm Tryz.func105 (by kernel_rfl) (by kernel_rfl)
theorem cf92:CF 92:=Zm Tryz.func92 (by kernel_rfl) (by kernel_rfl)
theorem cf134:CF 134:=Zm Tryz.func134 (by kernel_rfl) (by kernel_rfl)
theorem cf83:CF 83:=Zm Tryz.func83 (by kernel_rfl) (by kernel_rfl)
theorem cf137:CF 137:=Zm Tryz.func137 (by kernel_rfl) (by kernel_rfl)
theorem cf138:CF 138:=Zm Tryz.func138 (by kernel_rfl) (by kernel_rfl)
theorem cf140:CF 140:=Zm Tryz.func140 (by kernel_rfl) (by kernel_rfl)
theorem cf141:CF 141:=Zm Tryz.func141 (by kernel_rfl) (by kernel_rfl)
theorem cf142:CF 142:=Zm Tryz.func142 (by kernel_rfl) (by kernel_rfl)
theorem cf107:CF 107:=Zm Tryz.func107 (by kernel_rfl) (by kernel_rfl)
theorem cf152:CF 152:=Zm Tryz.func152 (by kernel_rfl) (by kernel_rfl)
theorem cf153:CF 153:=Zm Tryz.func153 (by kernel_rfl) (by kernel_rfl)
theorem cf154:CF 154:=Zm Tryz.func154 (by kernel_rfl) (by kernel_rfl)
theorem cf155:CF 155:=Zm Tryz.func155 (by kernel_rfl) (by kernel_rfl)
theorem cf200:CF 200:=Zm Tryz.func200 (by kernel_rfl) (by kernel_rfl)
theorem cf172:CF 172:=Zm Tryz.func172 (by kernel_rfl) (by kernel_rfl)
theorem cf173:CF 173:=Zm Tryz.func173 (by kernel_rfl) (by kernel_rfl)
theorem cf174:CF 174:=Zm Tryz.func174 (by kernel_rfl) (by kernel_rfl)
theorem cf176:CF 176:=Zm Tryz.func176 (by kernel_rfl) (by kernel_rfl)
theorem cf177:CF 177:=Zm Tryz.func177 (by kernel_rfl) (by kernel_rfl)
theorem cf195:CF 195:=Zm Tryz.func195 (by kernel_rfl) (by kernel_rfl)
theorem cf196:CF 196:=Zm Tryz.func196 (by kernel_rfl) (by kernel_rfl)
theorem cf197:CF 197:=Zm Tryz.func197 (by kernel_rfl) (by kernel_rfl)
theorem cf165:CF 165:=Zm Tryz.func165 (by kernel_rfl) (by kernel_rfl)
theorem cf205:CF 205:=Zm Tryz.func205 (by kernel_rfl) (by kernel_rfl)
theorem cf206:CF 206:=Zm Tryz.func206 (by kernel_rfl) (by kernel_rfl)
theorem cf207:CF 207:=Zm Tryz.func207 (by kernel_rfl) (by kernel_rfl)
theorem cf222:CF 222:=Zm Tryz.func222 (by kernel_rfl) (by kernel_rfl)
theorem infType:(Tryz.prog.info? 79).map (·.size)=some 3:=by kernel_rfl
theorem infIns:(Tryz.prog.info? 59).map (·.size)=some 8:=by kernel_rfl
theorem infTo:(Tryz.prog.info? 45).map (·.size)=some 3:=by kernel_rfl
theorem infEnd:(Tryz.prog.info? 47).map (·.size)=some 9:=by kernel_rfl
theorem infBlock:(Tryz.prog.info? 84).map (·.size)=some 12:=by kernel_rfl
theorem infFunc:(Tryz.prog.info? 55).map (·.size)=some 4:=by kernel_rfl
theorem infModule:(Tryz.prog.info? 24).map (·.size)=some 1:=by kernel_rfl
theorem infFault:(Tryz.prog.info? 30).map (·.size)=some 2:=by kernel_rfl
theorem infFields:(Tryz.prog.info? 143).map (·.size)=some 7:=by kernel_rfl
theorem inffuncLook:(Tryz.prog.info? 134).map (·.size)=some 6:=by kernel_rfl
theorem infblockLook:(Tryz.prog.info? 181).map (·.size)=some 19:=by kernel_rfl
theorem inf1Ints:(Tryz.prog.info? 43).map (·.size)=some 1:=by kernel_rfl
theorem inf1Types:(Tryz.prog.info? 52).map (·.size)=some 1:=by kernel_rfl
theorem inf1Inss:(Tryz.prog.info? 42).map (·.size)=some 1:=by kernel_rfl
theorem inf1Blocks:(Tryz.prog.info? 53).map (·.size)=some 1:=by kernel_rfl
theorem Qs {fn:Func}{R:Ending→World→Prop}{d:TypeDesc}(i:Nat){B:Nat}{c:Array Value}{bt:TypeId}(hF:Fr n a L) (hW:Wd w0 w Bs) (hr:fn.results=#[.cell t ty]) (hv:L.lookup t=some (.pointer (some ⟨B,0,none⟩))) (hb:Bs[i]?=some (B,c,bt))
 (hu:Tryz.prog.underlying ty=some d) (hd:d.isRow=true) (hi:(Tryz.prog.info? ty).map (·.size)=some c.size) (hR:R (.returned (.agg c)) w):bodyPost Tryz.prog fn R .ret a w:=by
 refine bodyPost_ret ?_ hF.defers hR;have e:=hF.sl2 t _ hv;have e2:=run_loadVar_mid (P:=Tryz.prog) w B 0 ty c.toList d (by have:=Qd4 (hW.get i hb) 0 c.size (by simp[Nat.ble_eq]);rw[List.drop_zero,List.take_of_length_le (by simp)] at this;exact this) hu hd (by simpa using hi);simp only[Array.toArray_toList] at e2
 simp[results,hr,e,asAddr,e2]
end
theorem QeI {op:Int}{fa fb fc fk fn fr fs:Bool}(hop:QE op=some (fa,fb,fc,fk,fn,fr,fs)) (w:World):Rd Tryz.prog 92 #[.int .i64 op] w (.tuple #[.agg #[.bool fa,.bool fb,.bool fc,.bool fk,.bool fn,.bool fr,.bool fs],.bool true]):=by
 have:=QcF op w
 rwa [show Zo op=.tuple #[.agg #[.bool fa,.bool fb,.bool fc,.bool fk,.bool fn,.bool fr,.bool fs],.bool true] from by unfold Zo;rw[hop]] at this
theorem Qg1 {op:Int}(hop:QE op=none) (w:World):Rd Tryz.prog 92 #[.int .i64 op] w (.tuple #[.agg #[.bool false,.bool false,.bool false,.bool false,.bool false,.bool false,.bool false],.bool false]):=by
 have:=QcF op w
 rwa [show Zo op=.tuple #[.agg #[.bool false,.bool false,.bool false,.bool false,.bool false,.bool false,.bool false],.bool false] from by unfold Zo;rw[hop]] at this
theorem Q0 {lm:Nat}{op a b c k n:Int}{rl al:Nat}{fa fb fc fk fn fr fs d1 d2 d3 d4 d5 d6 d7:Bool}(e:QE op=some (fa,fb,fc,fk,fn,fr,fs))
 (h1:d1=(!fa&&a!=0)) (h2:d2=(d1||(!fb&&b!=0))) (h3:d3=(d2||(!fc&&c!=0))) (h4:d4=(d3||(!fk&&k!=0))) (h5:d5=(d4||(!fn&&n!=0))) (h6:d6=(d5||(!fr&&decide ((0:Int)<(rl:Int))))) (h7:d7=(d6||(!fs&&decide ((0:Int)<(al:Int))))) :
 QX lm op a b c k n rl al=if d7 then 4
 else if op=2∧(k<1∨9<k) then 1
 else if op=5∧8<al then 2
 else if (op=6∨op=7)∧(k<0∨7<k) then 1
 else if op=14∧(k<0∨(lm:Int)≤k) then 1
 else if op=14∧(6<rl∨8<al) then 2
 else 0:=by
 subst h1 h2 h3 h4 h5 h6 h7;simp only[QX,e]
 have e1:decide ((0:Int)<(rl:Int))=decide (0<rl):=by simp
 have e2:decide ((0:Int)<(al:Int))=decide (0<al):=by simp
 rw[e1,e2]
def rangeC (x l m:Int):Int:=if x<l∨m<x then 1 else 0
def manyC (len:Nat) (m:Int):Int:=if m<len then 2 else 0
def handedC (r:Nat) (m:Int) (s:Nat):Int:=if manyC r m≠0 then manyC r m else manyC s 8
def Qbe (a b c k n:Int) (rl al:Nat):Bool:=a==0&&b==0&&c==0&&k==0&&n==0&&(rl:Int)==0&&(al:Int)==0
def ZL (funcs:Nat) (op k:Int) (rl al:Nat):Int :=
 if op=2 then rangeC k 1 9 else if op=6∨op=7 then rangeC k 0 7 else if op=5 then manyC al 8
 else if op=14 then (if rangeC k 0 ((funcs:Int) - 1)=0 then handedC rl 6 al else rangeC k 0 ((funcs:Int) - 1)) else 0
theorem fb (f:Bool) (a:Int):(!f&&a!=0)=!((bif f then 0 else a)==0):=by cases f<;>simp[bne]
theorem fbn (f:Bool) (l:Nat):(!f&&decide (0<l))=!(((bif f then 0 else l:Nat):Int)==0):=by
 cases f
 ·by_cases h:l=0
  ·simp[h]
  ·have:0<l:=by omega
   simp[this,h]
 ·simp
theorem Qh2 (lm:Nat) (op k:Int) (rl al:Nat):(if op=2∧(k<1∨9<k) then 1
 else if op=5∧8<al then 2
 else if (op=6∨op=7)∧(k<0∨7<k) then 1
 else if op=14∧(k<0∨(lm:Int)≤k) then 1
 else if op=14∧(6<rl∨8<al) then 2
 else 0)=ZL lm op k rl al:=by
 unfold ZL;by_cases h2:op=2
 ·subst h2;simp[rangeC]
 ·by_cases h6:op=6∨op=7
  ·have h5:¬ op=5:=by omega
   have h14:¬ op=14:=by omega
   simp[h2,h5,h6,h14,rangeC]
  ·by_cases h5:op=5
   ·subst h5;simp[manyC];split<;>split<;>omega
   ·by_cases h14:op=14
    ·subst h14;simp[rangeC,handedC,manyC]
     repeat' split
     all_goals omega
    ·simp[h2,h5,h6,h14]
theorem QO {lm:Nat}{op a b c k n:Int}{rl al:Nat}{fa fb' fc fk fn fr fs:Bool}(e:QE op=some (fa,fb',fc,fk,fn,fr,fs)) :
 QX lm op a b c k n rl al=if Qbe (bif fa then 0 else a) (bif fb' then 0 else b) (bif fc then 0 else c) (bif fk then 0 else k) (bif fn then 0 else n) (bif fr then 0 else rl) (bif fs then 0 else al)=true then ZL lm op k rl al else 4:=by
 simp only[QX,e,Qh2]
 rw[fb,fb,fb,fb,fb,fbn,fbn]
 unfold Qbe;generalize ((bif fa then 0 else a)==0)=q1;generalize ((bif fb' then 0 else b)==0)=q2;generalize ((bif fc then 0 else c)==0)=q3;generalize ((bif fk then 0 else k)==0)=q4;generalize ((bif fn then 0 else n)==0)=q5;generalize (((bif fr then 0 else rl:Nat):Int)==0)=q6;generalize (((bif fs then 0 else al:Nat):Int)==0)=q7
 cases q1<;>cases q2<;>cases q3<;>cases q4<;>cases q5<;>cases q6<;>cases q7<;>rfl
theorem QfB {f:Nat}{w:World}(h:f<1000000):Rd Tryz.prog 139 #[.int .i64 (f:Int)] w (.int .i64 (10000*(f:Int)+9999)):=by
 unfold Rd;skip
 skip
 go_enter Tryz.func139,Tryz.ntmps139
 go_wp2
 go_ret;refine⟨?_,Below.refl _ _⟩
 show Ending.returned (.int .i64 ((f:Int)*10000+9999))=_;congr 2
 omega
theorem QeP {f b:Nat}{w:World}(h:f<1000000∧b<1000000):Rd Tryz.prog 175 #[.int .i64 (f:Int),.int .i64 (b:Int)] w (.int .i64 (10000*(f:Int)+100*(b:Int)+90)):=by
 unfold Rd;have h1:=h.1;have h2:=h.2;skip
 go_enter Tryz.func175,Tryz.ntmps175
 go_wp2
 go_ret;refine⟨?_,Below.refl _ _⟩
 show Ending.returned (.int .i64 ((f:Int)*10000+(b:Int)*100+90))=_;congr 2
 omega
theorem Qgy {f b:Nat}{w:World}(h:f<1000000∧b<1000000):Rd Tryz.prog 179 #[.int .i64 (f:Int),.int .i64 (b:Int)] w (.int .i64 (10000*(f:Int)+100*(b:Int)+91)):=by
 unfold Rd;have h1:=h.1;have h2:=h.2;skip
 go_enter Tryz.func179,Tryz.ntmps179
 go_wp2
 go_ret;refine⟨?_,Below.refl _ _⟩
 show Ending.returned (.int .i64 ((f:Int)*10000+(b:Int)*100+91))=_;congr 2
 omega
theorem Qgz {f b i:Nat}{w:World}(h:f<1000000∧b<1000000∧i<1000000):Rd Tryz.prog 178 #[.int .i64 (f:Int),.int .i64 (b:Int),.int .i64 (i:Int)] w (.int .i64 (10000*(f:Int)+100*(b:Int)+(i:Int))):=by
 unfold Rd;have h1:=h.1;have h2:=h.2;have h3:=h.2.1;have h4:=h.2.2;go_enter Tryz.func178,Tryz.ntmps178
 go_wp2
 go_ret;refine⟨?_,Below.refl _ _⟩
 show Ending.returned (.int .i64 ((f:Int)*10000+(b:Int)*100+(i:Int)))=_;congr 2
 omega
theorem Qaa {x l m:Int}{w:World}:Rd Tryz.prog 157 #[.int .i64 x,.int .i64 l,.int .i64 m] w (.int .i64 (rangeC x l m)):=by
 unfold Rd rangeC;by_cases h1:x<l
 ·rw[if_pos (.inl h1)]
  go_enter Tryz.func157,Tryz.ntmps157
  go_wp2
  go_ret;exact⟨rfl,Below.refl _ _⟩
 ·by_cases h2:m<x
  ·rw[if_pos (.inr h2)]
   go_enter Tryz.func157,Tryz.ntmps157
   go_wp2
   go_ret;exact⟨rfl,Below.refl _ _⟩
  ·rw[if_neg (by omega)]
   go_enter Tryz.func157,Tryz.ntmps157
   go_wp2
   go_ret;exact⟨rfl,Below.refl _ _⟩
theorem Qbw {p:Option Addr}{len c:Nat}{m:Int}{w:World}:Rd Tryz.prog 158 #[.slice p len c,.int .i64 m] w (.int .i64 (manyC len m)):=by
 unfold Rd manyC;by_cases h1:m<len
 ·rw[if_pos h1]
  go_enter Tryz.func158,Tryz.ntmps158
  go_wp2
  go_ret;exact⟨rfl,Below.refl _ _⟩
 ·rw[if_neg h1]
  go_enter Tryz.func158,Tryz.ntmps158
  go_wp2
  go_ret;exact⟨rfl,Below.refl _ _⟩
theorem QbM {p q:Option Addr}{r c s d:Nat}{m:Int}{w:World}:Rd Tryz.prog 159 #[.slice p r c,.int .i64 m,.slice q s d] w (.int .i64 (handedC r m s)):=by
 have C1:Hid (∀ wx:World,Calls Tryz.prog 158 #[.slice p r c,.int .i64 m] wx fun e w'=>e=.returned (.int .i64 (manyC r m))∧Below wx.heap.size wx w'):=fun wx=>Qbw;have C2:Hid (∀ wx:World,Calls Tryz.prog 158 #[.slice q s d,.int .i64 8] wx fun e w'=>e=.returned (.int .i64 (manyC s 8))∧Below wx.heap.size wx w'):=fun wx=>Qbw;unfold Rd handedC;by_cases h:manyC r m=0
 ·rw[if_neg (by simpa using h)]
  rw[h] at C1
  go_enter Tryz.func159,Tryz.ntmps159
  go_wp2_with fail
  refine(C1.out w).mono ?_
  rintro e w1 ⟨rfl,b1⟩;have B1:Hid (Below w.heap.size w w1):=b1;clear b1 C1;go_wp2_with fail
  refine(C2.out w1).mono ?_
  rintro e w2 ⟨rfl,b2⟩;have B2:Hid (Below w.heap.size w w2):=B1.out.trans (b2.mono B1.out.size);clear b2 C2 B1;go_wp2
  go_ret;exact⟨rfl,B2.out⟩
 ·rw[if_pos h]
  have h':(manyC r m==0)=false:=by simpa using h
  generalize manyC r m=v at C1 h' h ⊢;go_enter Tryz.func159,Tryz.ntmps159
  go_wp2_with fail
  refine(C1.out w).mono ?_
  rintro e w1 ⟨rfl,b1⟩;have B1:Hid (Below w.heap.size w w1):=b1;clear b1 C1 C2;go_wp2
  go_ret;exact⟨rfl,B1.out⟩
theorem Q4 {xop:Int}{xa xb xc xk xn:Int}{ra aa:Option Addr}{rl rc al ac:Nat}{w:World}:Rd Tryz.prog 112 #[.agg #[.int .i64 xop,.int .i64 xa,.int .i64 xb,.int .i64 xc,.int .i64 xk,.int .i64 xn,.slice ra rl rc,.slice aa al ac]] w (.bool (Qbe xa xb xc xk xn rl al)):=by
 unfold Rd
 ·by_cases h0:xa=0
  ·subst h0
   ·by_cases h1:xb=0
    ·subst h1
     ·by_cases h2:xc=0
      ·subst h2
       ·by_cases h3:xk=0
        ·subst h3
         ·by_cases h4:xn=0
          ·subst h4
           ·by_cases h5:rl=0
            ·subst h5
             ·by_cases h6:al=0
              ·subst h6
               ·rw[show Qbe 0 0 0 0 0 0 0=true from rfl]
                go_enter Tryz.func112,Tryz.ntmps112
                go_wp2
                go_ret;exact⟨rfl,Q5 _ _⟩
              ·have g6:((al:Int)==0)=false:=by simpa using h6
               rw[show Qbe 0 0 0 0 0 0 al=false by simp[Qbe,g6]]
               go_enter Tryz.func112,Tryz.ntmps112
               go_wp2
               go_ret;exact⟨rfl,Q5 _ _⟩
            ·have g5:((rl:Int)==0)=false:=by simpa using h5
             rw[show Qbe 0 0 0 0 0 rl al=false by simp[Qbe,g5]]
             go_enter Tryz.func112,Tryz.ntmps112
             go_wp2
             go_ret;exact⟨rfl,Q5 _ _⟩
          ·have g4:(xn==0)=false:=by simpa using h4
           rw[show Qbe 0 0 0 0 xn rl al=false by simp[Qbe,g4]]
           go_enter Tryz.func112,Tryz.ntmps112
           go_wp2
           go_ret;exact⟨rfl,Q5 _ _⟩
        ·have g3:(xk==0)=false:=by simpa using h3
         rw[show Qbe 0 0 0 xk xn rl al=false by simp[Qbe,g3]]
         go_enter Tryz.func112,Tryz.ntmps112
         go_wp2
         go_ret;exact⟨rfl,Q5 _ _⟩
      ·have g2:(xc==0)=false:=by simpa using h2
       rw[show Qbe 0 0 xc xk xn rl al=false by simp[Qbe,g2]]
       go_enter Tryz.func112,Tryz.ntmps112
       go_wp2
       go_ret;exact⟨rfl,Q5 _ _⟩
    ·have g1:(xb==0)=false:=by simpa using h1
     rw[show Qbe 0 xb xc xk xn rl al=false by simp[Qbe,g1]]
     go_enter Tryz.func112,Tryz.ntmps112
     go_wp2
     go_ret;exact⟨rfl,Q5 _ _⟩
  ·have g0:(xa==0)=false:=by simpa using h0
   rw[show Qbe xa xb xc xk xn rl al=false by simp[Qbe,g0]]
   go_enter Tryz.func112,Tryz.ntmps112
   go_wp2
   go_ret;exact⟨rfl,Q5 _ _⟩
theorem wf1 {xa xb xc xk xn:Int}{ra aa:Option Addr}{rl rc al ac:Nat}{w:World}:Rd Tryz.prog 111 #[.agg #[.int .i64 1,.int .i64 xa,.int .i64 xb,.int .i64 xc,.int .i64 xk,.int .i64 xn,.slice ra rl rc,.slice aa al ac]] w (.tuple #[.agg #[.int .i64 1,.int .i64 xa,.int .i64 xb,.int .i64 xc,.int .i64 xk,.int .i64 0,.slice ra rl rc,.slice aa al ac],.bool true]):=by
 unfold Rd;go_enter Tryz.func111,Tryz.ntmps111
 go_wp2
 exact bodyPost_ret (v:=.tuple #[.agg #[.int .i64 1,.int .i64 xa,.int .i64 xb,.int .i64 xc,.int .i64 xk,.int .i64 0,.slice ra rl rc,.slice aa al ac],.bool true]) (by simp[results,Tryz.results111,go_sem]) rfl ⟨rfl,Qa1 _ _ _⟩
theorem wf2 {xa xb xc xk xn:Int}{ra aa:Option Addr}{rl rc al ac:Nat}{w:World}:Rd Tryz.prog 111 #[.agg #[.int .i64 2,.int .i64 xa,.int .i64 xb,.int .i64 xc,.int .i64 xk,.int .i64 xn,.slice ra rl rc,.slice aa al ac]] w (.tuple #[.agg #[.int .i64 2,.int .i64 0,.int .i64 0,.int .i64 xc,.int .i64 0,.int .i64 xn,.slice ra rl rc,.slice aa al ac],.bool true]):=by
 unfold Rd;go_enter Tryz.func111,Tryz.ntmps111
 go_wp2
 exact bodyPost_ret (v:=.tuple #[.agg #[.int .i64 2,.int .i64 0,.int .i64 0,.int .i64 xc,.int .i64 0,.int .i64 xn,.slice ra rl rc,.slice aa al ac],.bool true]) (by simp[results,Tryz.results111,go_sem]) rfl ⟨rfl,Qa1 _ _ _⟩
theorem wf3 {xa xb xc xk xn:Int}{ra aa:Option Addr}{rl rc al ac:Nat}{w:World}:Rd Tryz.prog 111 #[.agg #[.int .i64 3,.int .i64 xa,.int .i64 xb,.int .i64 xc,.int .i64 xk,.int .i64 xn,.slice ra rl rc,.slice aa al ac]] w (.tuple #[.agg #[.int .i64 3,.int .i64 xa,.int .i64 xb,.int .i64 xc,.int .i64 xk,.int .i64 xn,.slice ra rl rc,.slice aa al ac],.bool true]):=by
 unfold Rd;go_enter Tryz.func111,Tryz.ntmps111
 go_wp2
 exact bodyPost_ret (v:=.tuple #[.agg #[.int .i64 3,.int .i64 xa,.int .i64 xb,.int .i64 xc,.int .i64 xk,.int .i64 xn,.slice ra rl rc,.slice aa al ac],.bool true]) (by simp[results,Tryz.results111,go_sem]) rfl ⟨rfl,Qa1 _ _ _⟩
theorem wf4 {xa xb xc xk xn:Int}{ra aa:Option Addr}{rl rc al ac:Nat}{w:World}:Rd Tryz.prog 111 #[.agg #[.int .i64 4,.int .i64 xa,.int .i64 xb,.int .i64 xc,.int .i64 xk,.int .i64 xn,.slice ra rl rc,.slice aa al ac]] w (.tuple #[.agg #[.int .i64 4,.int .i64 0,.int .i64 xb,.int .i64 xc,.int .i64 xk,.int .i64 xn,.slice ra rl rc,.slice aa al ac],.bool true]):=by
 unfold Rd;go_enter Tryz.func111,Tryz.ntmps111
 go_wp2
 exact bodyPost_ret (v:=.tuple #[.agg #[.int .i64 4,.int .i64 0,.int .i64 xb,.int .i64 xc,.int .i64 xk,.int .i64 xn,.slice ra rl rc,.slice aa al ac],.bool true]) (by simp[results,Tryz.results111,go_sem]) rfl ⟨rfl,Qa1 _ _ _⟩
theorem wf5 {xa xb xc xk xn:Int}{ra aa:Option Addr}{rl rc al ac:Nat}{w:World}:Rd Tryz.prog 111 #[.agg #[.int .i64 5,.int .i64 xa,.int .i64 xb,.int .i64 xc,.int .i64 xk,.int .i64 xn,.slice ra rl rc,.slice aa al ac]] w (.tuple #[.agg #[.int .i64 5,.int .i64 0,.int .i64 xb,.int .i64 xc,.int .i64 xk,.int .i64 xn,.slice ra rl rc,.slice none 0 0],.bool true]):=by
 unfold Rd;go_enter Tryz.func111,Tryz.ntmps111
 go_wp2
 exact bodyPost_ret (v:=.tuple #[.agg #[.int .i64 5,.int .i64 0,.int .i64 xb,.int .i64 xc,.int .i64 xk,.int .i64 xn,.slice ra rl rc,.slice none 0 0],.bool true]) (by simp[results,Tryz.results111,go_sem]) rfl ⟨rfl,Qa1 _ _ _⟩
theorem wf6 {xa xb xc xk xn:Int}{ra aa:Option Addr}{rl rc al ac:Nat}{w:World}:Rd Tryz.prog 111 #[.agg #[.int .i64 6,.int .i64 xa,.int .i64 xb,.int .i64 xc,.int .i64 xk,.int .i64 xn,.slice ra rl rc,.slice aa al ac]] w (.tuple #[.agg #[.int .i64 6,.int .i64 0,.int .i64 xb,.int .i64 xc,.int .i64 0,.int .i64 xn,.slice ra rl rc,.slice aa al ac],.bool true]):=by
 unfold Rd;go_enter Tryz.func111,Tryz.ntmps111
 go_wp2
 exact bodyPost_ret (v:=.tuple #[.agg #[.int .i64 6,.int .i64 0,.int .i64 xb,.int .i64 xc,.int .i64 0,.int .i64 xn,.slice ra rl rc,.slice aa al ac],.bool true]) (by simp[results,Tryz.results111,go_sem]) rfl ⟨rfl,Qa1 _ _ _⟩
theorem wf7 {xa xb xc xk xn:Int}{ra aa:Option Addr}{rl rc al ac:Nat}{w:World}:Rd Tryz.prog 111 #[.agg #[.int .i64 7,.int .i64 xa,.int .i64 xb,.int .i64 xc,.int .i64 xk,.int .i64 xn,.slice ra rl rc,.slice aa al ac]] w (.tuple #[.agg #[.int .i64 7,.int .i64 0,.int .i64 0,.int .i64 xc,.int .i64 0,.int .i64 xn,.slice ra rl rc,.slice aa al ac],.bool true]):=by
 unfold Rd;go_enter Tryz.func111,Tryz.ntmps111
 go_wp2
 exact bodyPost_ret (v:=.tuple #[.agg #[.int .i64 7,.int .i64 0,.int .i64 0,.int .i64 xc,.int .i64 0,.int .i64 xn,.slice ra rl rc,.slice aa al ac],.bool true]) (by simp[results,Tryz.results111,go_sem]) rfl ⟨rfl,Qa1 _ _ _⟩
theorem wf8 {xa xb xc xk xn:Int}{ra aa:Option Addr}{rl rc al ac:Nat}{w:World}:Rd Tryz.prog 111 #[.agg #[.int .i64 8,.int .i64 xa,.int .i64 xb,.int .i64 xc,.int .i64 xk,.int .i64 xn,.slice ra rl rc,.slice aa al ac]] w (.tuple #[.agg #[.int .i64 8,.int .i64 0,.int .i64 0,.int .i64 xc,.int .i64 xk,.int .i64 xn,.slice ra rl rc,.slice aa al ac],.bool true]):=by
 unfold Rd;go_enter Tryz.func111,Tryz.ntmps111
 go_wp2
 exact bodyPost_ret (v:=.tuple #[.agg #[.int .i64 8,.int .i64 0,.int .i64 0,.int .i64 xc,.int .i64 xk,.int .i64 xn,.slice ra rl rc,.slice aa al ac],.bool true]) (by simp[results,Tryz.results111,go_sem]) rfl ⟨rfl,Qa1 _ _ _⟩
theorem wf9 {xa xb xc xk xn:Int}{ra aa:Option Addr}{rl rc al ac:Nat}{w:World}:Rd Tryz.prog 111 #[.agg #[.int .i64 9,.int .i64 xa,.int .i64 xb,.int .i64 xc,.int .i64 xk,.int .i64 xn,.slice ra rl rc,.slice aa al ac]] w (.tuple #[.agg #[.int .i64 9,.int .i64 0,.int .i64 0,.int .i64 xc,.int .i64 xk,.int .i64 xn,.slice ra rl rc,.slice aa al ac],.bool true]):=by
 unfold Rd;go_enter Tryz.func111,Tryz.ntmps111
 go_wp2
 exact bodyPost_ret (v:=.tuple #[.agg #[.int .i64 9,.int .i64 0,.int .i64 0,.int .i64 xc,.int .i64 xk,.int .i64 xn,.slice ra rl rc,.slice aa al ac],.bool true]) (by simp[results,Tryz.results111,go_sem]) rfl ⟨rfl,Qa1 _ _ _⟩
theorem Ql6 {xa xb xc xk xn:Int}{ra aa:Option Addr}{rl rc al ac:Nat}{w:World}:Rd Tryz.prog 111 #[.agg #[.int .i64 10,.int .i64 xa,.int .i64 xb,.int .i64 xc,.int .i64 xk,.int .i64 xn,.slice ra rl rc,.slice aa al ac]] w (.tuple #[.agg #[.int .i64 10,.int .i64 0,.int .i64 0,.int .i64 0,.int .i64 xk,.int .i64 xn,.slice ra rl rc,.slice aa al ac],.bool true]):=by
 unfold Rd;go_enter Tryz.func111,Tryz.ntmps111
 go_wp2
 exact bodyPost_ret (v:=.tuple #[.agg #[.int .i64 10,.int .i64 0,.int .i64 0,.int .i64 0,.int .i64 xk,.int .i64 xn,.slice ra rl rc,.slice aa al ac],.bool true]) (by simp[results,Tryz.results111,go_sem]) rfl ⟨rfl,Qa1 _ _ _⟩
theorem Ql5 {xa xb xc xk xn:Int}{ra aa:Option Addr}{rl rc al ac:Nat}{w:World}:Rd Tryz.prog 111 #[.agg #[.int .i64 11,.int .i64 xa,.int .i64 xb,.int .i64 xc,.int .i64 xk,.int .i64 xn,.slice ra rl rc,.slice aa al ac]] w (.tuple #[.agg #[.int .i64 11,.int .i64 0,.int .i64 xb,.int .i64 xc,.int .i64 xk,.int .i64 xn,.slice ra rl rc,.slice aa al ac],.bool true]):=by
 unfold Rd;go_enter Tryz.func111,Tryz.ntmps111
 go_wp2
 exact bodyPost_ret (v:=.tuple #[.agg #[.int .i64 11,.int .i64 0,.int .i64 xb,.int .i64 xc,.int .i64 xk,.int .i64 xn,.slice ra rl rc,.slice aa al ac],.bool true]) (by simp[results,Tryz.results111,go_sem]) rfl ⟨rfl,Qa1 _ _ _⟩
theorem Ql0 {xa xb xc xk xn:Int}{ra aa:Option Addr}{rl rc al ac:Nat}{w:World}:Rd Tryz.prog 111 #[.agg #[.int .i64 12,.int .i64 xa,.int .i64 xb,.int .i64 xc,.int .i64 xk,.int .i64 xn,.slice ra rl rc,.slice aa al ac]] w (.tuple #[.agg #[.int .i64 12,.int .i64 xa,.int .i64 xb,.int .i64 xc,.int .i64 xk,.int .i64 xn,.slice ra rl rc,.slice aa al ac],.bool true]):=by
 unfold Rd;go_enter Tryz.func111,Tryz.ntmps111
 go_wp2
 exact bodyPost_ret (v:=.tuple #[.agg #[.int .i64 12,.int .i64 xa,.int .i64 xb,.int .i64 xc,.int .i64 xk,.int .i64 xn,.slice ra rl rc,.slice aa al ac],.bool true]) (by simp[results,Tryz.results111,go_sem]) rfl ⟨rfl,Qa1 _ _ _⟩
theorem QlP {xa xb xc xk xn:Int}{ra aa:Option Addr}{rl rc al ac:Nat}{w:World}:Rd Tryz.prog 111 #[.agg #[.int .i64 13,.int .i64 xa,.int .i64 xb,.int .i64 xc,.int .i64 xk,.int .i64 xn,.slice ra rl rc,.slice aa al ac]] w (.tuple #[.agg #[.int .i64 13,.int .i64 0,.int .i64 xb,.int .i64 xc,.int .i64 xk,.int .i64 xn,.slice ra rl rc,.slice aa al ac],.bool true]):=by
 unfold Rd;go_enter Tryz.func111,Tryz.ntmps111
 go_wp2
 exact bodyPost_ret (v:=.tuple #[.agg #[.int .i64 13,.int .i64 0,.int .i64 xb,.int .i64 xc,.int .i64 xk,.int .i64 xn,.slice ra rl rc,.slice aa al ac],.bool true]) (by simp[results,Tryz.results111,go_sem]) rfl ⟨rfl,Qa1 _ _ _⟩
theorem Ql8 {xa xb xc xk xn:Int}{ra aa:Option Addr}{rl rc al ac:Nat}{w:World}:Rd Tryz.prog 111 #[.agg #[.int .i64 14,.int .i64 xa,.int .i64 xb,.int .i64 xc,.int .i64 xk,.int .i64 xn,.slice ra rl rc,.slice aa al ac]] w (.tuple #[.agg #[.int .i64 14,.int .i64 xa,.int .i64 xb,.int .i64 xc,.int .i64 0,.int .i64 xn,.slice none 0 0,.slice none 0 0],.bool true]):=by
 unfold Rd;go_enter Tryz.func111,Tryz.ntmps111
 go_wp2
 exact bodyPost_ret (v:=.tuple #[.agg #[.int .i64 14,.int .i64 xa,.int .i64 xb,.int .i64 xc,.int .i64 0,.int .i64 xn,.slice none 0 0,.slice none 0 0],.bool true]) (by simp[results,Tryz.results111,go_sem]) rfl ⟨rfl,Qa1 _ _ _⟩
theorem QlQ {xop:Int}{xa xb xc xk xn:Int}{ra aa:Option Addr}{rl rc al ac:Nat}{w:World}(h:xop≠1∧xop≠2∧xop≠3∧xop≠4∧xop≠5∧xop≠6∧xop≠7∧xop≠8∧xop≠9∧xop≠10∧xop≠11∧xop≠12∧xop≠13∧xop≠14):Rd Tryz.prog 111 #[.agg #[.int .i64 xop,.int .i64 xa,.int .i64 xb,.int .i64 xc,.int .i64 xk,.int .i64 xn,.slice ra rl rc,.slice aa al ac]] w (.tuple #[.agg #[.int .i64 xop,.int .i64 xa,.int .i64 xb,.int .i64 xc,.int .i64 xk,.int .i64 xn,.slice ra rl rc,.slice aa al ac],.bool false]):=by
 obtain⟨h1,h2,h3,h4,h5,h6,h7,h8,h9,h10,h11,h12,h13,h14⟩:=h
 have g1:(xop==1)=false:=by simpa using h1
 have g2:(xop==2)=false:=by simpa using h2
 have g3:(xop==3)=false:=by simpa using h3
 have g4:(xop==4)=false:=by simpa using h4
 have g5:(xop==5)=false:=by simpa using h5
 have g6:(xop==6)=false:=by simpa using h6
 have g7:(xop==7)=false:=by simpa using h7
 have g8:(xop==8)=false:=by simpa using h8
 have g9:(xop==9)=false:=by simpa using h9
 have g10:(xop==10)=false:=by simpa using h10
 have g11:(xop==11)=false:=by simpa using h11
 have g12:(xop==12)=false:=by simpa using h12
 have g13:(xop==13)=false:=by simpa using h13
 have g14:(xop==14)=false:=by simpa using h14
 unfold Rd;go_enter Tryz.func111,Tryz.ntmps111
 go_wp2
 exact bodyPost_ret (v:=.tuple #[.agg #[.int .i64 xop,.int .i64 xa,.int .i64 xb,.int .i64 xc,.int .i64 xk,.int .i64 xn,.slice ra rl rc,.slice aa al ac],.bool false]) (by simp[results,Tryz.results111,go_sem]) rfl ⟨rfl,Qa1 _ _ _⟩
theorem Qkr {xa xb xc xk xn:Int}{ra aa:Option Addr}{rl rc al ac:Nat}{am:Option Addr}{lm cm:Nat}{w:World}:Rd Tryz.prog 113 #[.agg #[.slice am lm cm],.agg #[.int .i64 2,.int .i64 xa,.int .i64 xb,.int .i64 xc,.int .i64 xk,.int .i64 xn,.slice ra rl rc,.slice aa al ac]] w (.int .i64 (ZL lm 2 xk rl al)):=by
 have C:Hid (∀ wx:World,Calls Tryz.prog 157 #[.int .i64 xk,.int .i64 1,.int .i64 9] wx fun e w'=>e=.returned (.int .i64 (rangeC xk 1 9))∧Below wx.heap.size wx w'):=fun wx=>Qaa;rw[show ZL lm 2 xk rl al=rangeC xk 1 9 from rfl]
 generalize rangeC xk 1 9=v at C ⊢;unfold Rd;go_enter Tryz.func113,Tryz.ntmps113
 go_wp2_with fail
 refine(C.out _).mono ?_
 rintro e w2 ⟨rfl,b2⟩;have B2:Hid (Below w.heap.size w w2):=(Qa1 _ _ _).trans (b2.mono (Qa1 w _ _).size);clear b2 C;go_wp2
 go_ret;exact⟨rfl,B2.out⟩
theorem QjS {xa xb xc xk xn:Int}{ra aa:Option Addr}{rl rc al ac:Nat}{am:Option Addr}{lm cm:Nat}{w:World}:Rd Tryz.prog 113 #[.agg #[.slice am lm cm],.agg #[.int .i64 6,.int .i64 xa,.int .i64 xb,.int .i64 xc,.int .i64 xk,.int .i64 xn,.slice ra rl rc,.slice aa al ac]] w (.int .i64 (ZL lm 6 xk rl al)):=by
 have C:Hid (∀ wx:World,Calls Tryz.prog 157 #[.int .i64 xk,.int .i64 0,.int .i64 7] wx fun e w'=>e=.returned (.int .i64 (rangeC xk 0 7))∧Below wx.heap.size wx w'):=fun wx=>Qaa;rw[show ZL lm 6 xk rl al=rangeC xk 0 7 from rfl]
 generalize rangeC xk 0 7=v at C ⊢;unfold Rd;go_enter Tryz.func113,Tryz.ntmps113
 go_wp2_with fail
 refine(C.out _).mono ?_
 rintro e w2 ⟨rfl,b2⟩;have B2:Hid (Below w.heap.size w w2):=(Qa1 _ _ _).trans (b2.mono (Qa1 w _ _).size);clear b2 C;go_wp2
 go_ret;exact⟨rfl,B2.out⟩
theorem Qj5 {xa xb xc xk xn:Int}{ra aa:Option Addr}{rl rc al ac:Nat}{am:Option Addr}{lm cm:Nat}{w:World}:Rd Tryz.prog 113 #[.agg #[.slice am lm cm],.agg #[.int .i64 7,.int .i64 xa,.int .i64 xb,.int .i64 xc,.int .i64 xk,.int .i64 xn,.slice ra rl rc,.slice aa al ac]] w (.int .i64 (ZL lm 7 xk rl al)):=by
 have C:Hid (∀ wx:World,Calls Tryz.prog 157 #[.int .i64 xk,.int .i64 0,.int .i64 7] wx fun e w'=>e=.returned (.int .i64 (rangeC xk 0 7))∧Below wx.heap.size wx w'):=fun wx=>Qaa;rw[show ZL lm 7 xk rl al=rangeC xk 0 7 from rfl]
 generalize rangeC xk 0 7=v at C ⊢;unfold Rd;go_enter Tryz.func113,Tryz.ntmps113
 go_wp2_with fail
 refine(C.out _).mono ?_
 rintro e w2 ⟨rfl,b2⟩;have B2:Hid (Below w.heap.size w w2):=(Qa1 _ _ _).trans (b2.mono (Qa1 w _ _).size);clear b2 C;go_wp2
 go_ret;exact⟨rfl,B2.out⟩
theorem Qj7 {xa xb xc xk xn:Int}{ra aa:Option Addr}{rl rc al ac:Nat}{am:Option Addr}{lm cm:Nat}{w:World}:Rd Tryz.prog 113 #[.agg #[.slice am lm cm],.agg #[.int .i64 5,.int .i64 xa,.int .i64 xb,.int .i64 xc,.int .i64 xk,.int .i64 xn,.slice ra rl rc,.slice aa al ac]] w (.int .i64 (ZL lm 5 xk rl al)):=by
 have C:Hid (∀ wx:World,Calls Tryz.prog 158 #[.slice aa al ac,.int .i64 8] wx fun e w'=>e=.returned (.int .i64 (manyC al 8))∧Below wx.heap.size wx w'):=fun wx=>Qbw;rw[show ZL lm 5 xk rl al=manyC al 8 from rfl]
 generalize manyC al 8=v at C ⊢;unfold Rd;go_enter Tryz.func113,Tryz.ntmps113
 go_wp2_with fail
 refine(C.out _).mono ?_
 rintro e w2 ⟨rfl,b2⟩;have B2:Hid (Below w.heap.size w w2):=(Qa1 _ _ _).trans (b2.mono (Qa1 w _ _).size);clear b2 C;go_wp2
 go_ret;exact⟨rfl,B2.out⟩
theorem QiX {xa xb xc xk xn:Int}{ra aa:Option Addr}{rl rc al ac:Nat}{am:Option Addr}{lm cm:Nat}{w:World}(hlm:lm<2305843009213693952):Rd Tryz.prog 113 #[.agg #[.slice am lm cm],.agg #[.int .i64 14,.int .i64 xa,.int .i64 xb,.int .i64 xc,.int .i64 xk,.int .i64 xn,.slice ra rl rc,.slice aa al ac]] w (.int .i64 (ZL lm 14 xk rl al)):=by
 have C:Hid (∀ wx:World,Calls Tryz.prog 157 #[.int .i64 xk,.int .i64 0,.int .i64 ((lm:Int) - 1)] wx fun e w'=>e=.returned (.int .i64 (rangeC xk 0 ((lm:Int) - 1)))∧Below wx.heap.size wx w'):=fun wx=>Qaa;have C2:Hid (∀ wx:World,Calls Tryz.prog 159 #[.slice ra rl rc,.int .i64 6,.slice aa al ac] wx fun e w'=>e=.returned (.int .i64 (handedC rl 6 al))∧Below wx.heap.size wx w'):=fun wx=>QbM;rw[show ZL lm 14 xk rl al=if rangeC xk 0 ((lm:Int) - 1)=0 then handedC rl 6 al else rangeC xk 0 ((lm:Int) - 1) from rfl]
 generalize rangeC xk 0 ((lm:Int) - 1)=v at C ⊢;generalize handedC rl 6 al=u at C2 ⊢;have X2:Blk ((w.alloc (.cells #[.slice am lm cm] 24)).alloc (.cells #[.int .i64 14,.int .i64 xa,.int .i64 xb,.int .i64 xc,.int .i64 xk,.int .i64 xn,.slice ra rl rc,.slice aa al ac] 59)) (w.heap.size+1) #[.int .i64 14,.int .i64 xa,.int .i64 xb,.int .i64 xc,.int .i64 xk,.int .i64 xn,.slice ra rl rc,.slice aa al ac] 59:=Blk.new2 _ _ _ _;have B1:Hid (Below w.heap.size w ((w.alloc (.cells #[.slice am lm cm] 24)).alloc (.cells #[.int .i64 14,.int .i64 xa,.int .i64 xb,.int .i64 xc,.int .i64 xk,.int .i64 xn,.slice ra rl rc,.slice aa al ac] 59))):=Qa1 _ _ _;unfold Rd;by_cases hv:v=0
 ·subst hv;rw[if_pos rfl]
  go_enter Tryz.func113,Tryz.ntmps113
  go_wp2_with fail
  generalize ((w.alloc (.cells #[.slice am lm cm] 24)).alloc (.cells #[.int .i64 14,.int .i64 xa,.int .i64 xb,.int .i64 xc,.int .i64 xk,.int .i64 xn,.slice ra rl rc,.slice aa al ac] 59))=w1 at X2 B1 ⊢;refine(C.out _).mono ?_
  rintro e w2 ⟨rfl,b2⟩;have X3:=(b2.block _ (lt_of_block X2)).trans X2;have B2:Hid (Below w.heap.size w w2):=B1.out.trans (b2.mono B1.out.size);have c6:=Qb X3 6 _ rfl;have c7:=Qb X3 7 _ rfl;clear b2 C X2 B1 X3;go_wp2_with fail
  refine(C2.out _).mono ?_
  rintro e w3 ⟨rfl,b3⟩;have B3:Hid (Below w.heap.size w w3):=B2.out.trans (b3.mono B2.out.size);clear b3 C2 B2;go_wp2
  go_ret;exact⟨rfl,B3.out⟩
 ·rw[if_neg hv]
  have hv':(v==0)=false:=by simpa using hv
  go_enter Tryz.func113,Tryz.ntmps113
  go_wp2_with fail
  generalize ((w.alloc (.cells #[.slice am lm cm] 24)).alloc (.cells #[.int .i64 14,.int .i64 xa,.int .i64 xb,.int .i64 xc,.int .i64 xk,.int .i64 xn,.slice ra rl rc,.slice aa al ac] 59))=w1 at X2 B1 ⊢;refine(C.out _).mono ?_
  rintro e w2 ⟨rfl,b2⟩;have B2:Hid (Below w.heap.size w w2):=B1.out.trans (b2.mono B1.out.size);clear b2 C C2 X2 B1;go_wp2
  go_ret;exact⟨rfl,B2.out⟩
theorem Qal {xop:Int}{xa xb xc xk xn:Int}{ra aa:Option Addr}{rl rc al ac:Nat}{am:Option Addr}{lm cm:Nat}{w:World}(h:xop≠2∧xop≠6∧xop≠7∧xop≠5∧xop≠14):Rd Tryz.prog 113 #[.agg #[.slice am lm cm],.agg #[.int .i64 xop,.int .i64 xa,.int .i64 xb,.int .i64 xc,.int .i64 xk,.int .i64 xn,.slice ra rl rc,.slice aa al ac]] w (.int .i64 (ZL lm xop xk rl al)):=by
 obtain⟨h2,h6,h7,h5,h14⟩:=h
 rw[show ZL lm xop xk rl al=0 by simp[ZL,h2,h6,h7,h5,h14]]
 have g2:(xop==2)=false:=by simpa using h2
 have g6:(xop==6)=false:=by simpa using h6
 have g7:(xop==7)=false:=by simpa using h7
 have g5:(xop==5)=false:=by simpa using h5
 have g14:(xop==14)=false:=by simpa using h14
 unfold Rd;go_enter Tryz.func113,Tryz.ntmps113
 go_wp2
 go_ret;exact⟨rfl,Qa1 _ _ _⟩
theorem Zt {xop:Int}{xa xb xc xk xn:Int}{ra aa:Option Addr}{rl rc al ac:Nat}{ya yb yc yk yn:Int}{yra yaa:Option Addr}{yrl yrc yal yac:Nat}{am:Option Addr}{lm cm:Nat}{w:World}{ok bare:Bool}{v:Int}
 (CW:Hid (∀ wx:World,Calls Tryz.prog 111 #[.agg #[.int .i64 xop,.int .i64 xa,.int .i64 xb,.int .i64 xc,.int .i64 xk,.int .i64 xn,.slice ra rl rc,.slice aa al ac]] wx fun e w'=>e=.returned (.tuple #[.agg #[.int .i64 xop,.int .i64 ya,.int .i64 yb,.int .i64 yc,.int .i64 yk,.int .i64 yn,.slice yra yrl yrc,.slice yaa yal yac],.bool ok])∧Below wx.heap.size wx w'))
 (CB:Hid (∀ wx:World,Calls Tryz.prog 112 #[.agg #[.int .i64 xop,.int .i64 ya,.int .i64 yb,.int .i64 yc,.int .i64 yk,.int .i64 yn,.slice yra yrl yrc,.slice yaa yal yac]] wx fun e w'=>e=.returned (.bool bare)∧Below wx.heap.size wx w'))
 (CD:Hid (∀ wx:World,Calls Tryz.prog 113 #[.agg #[.slice am lm cm],.agg #[.int .i64 xop,.int .i64 xa,.int .i64 xb,.int .i64 xc,.int .i64 xk,.int .i64 xn,.slice ra rl rc,.slice aa al ac]] wx fun e w'=>e=.returned (.int .i64 v)∧Below wx.heap.size wx w')) :
 Rd Tryz.prog 68 #[.agg #[.slice am lm cm],.agg #[.int .i64 xop,.int .i64 xa,.int .i64 xb,.int .i64 xc,.int .i64 xk,.int .i64 xn,.slice ra rl rc,.slice aa al ac]] w (.int .i64 (if ok=false then 3 else if bare=true then v else 4)):=by
 have X1:Blk ((w.alloc (.cells #[.slice am lm cm] 24)).alloc (.cells #[.int .i64 xop,.int .i64 xa,.int .i64 xb,.int .i64 xc,.int .i64 xk,.int .i64 xn,.slice ra rl rc,.slice aa al ac] 59)) w.heap.size #[.slice am lm cm] 24:=Blk.new1 _ _ _ _ _;have X2:Blk ((w.alloc (.cells #[.slice am lm cm] 24)).alloc (.cells #[.int .i64 xop,.int .i64 xa,.int .i64 xb,.int .i64 xc,.int .i64 xk,.int .i64 xn,.slice ra rl rc,.slice aa al ac] 59)) (w.heap.size+1) #[.int .i64 xop,.int .i64 xa,.int .i64 xb,.int .i64 xc,.int .i64 xk,.int .i64 xn,.slice ra rl rc,.slice aa al ac] 59:=Blk.new2 _ _ _ _;have B1:Hid (Below w.heap.size w ((w.alloc (.cells #[.slice am lm cm] 24)).alloc (.cells #[.int .i64 xop,.int .i64 xa,.int .i64 xb,.int .i64 xc,.int .i64 xk,.int .i64 xn,.slice ra rl rc,.slice aa al ac] 59))):=Qa1 _ _ _;unfold Rd;go_enter Tryz.func68,Tryz.ntmps68
 go_wp2_with fail
 generalize ((w.alloc (.cells #[.slice am lm cm] 24)).alloc (.cells #[.int .i64 xop,.int .i64 xa,.int .i64 xb,.int .i64 xc,.int .i64 xk,.int .i64 xn,.slice ra rl rc,.slice aa al ac] 59))=w1 at X1 X2 B1 ⊢;refine(CW.out _).mono ?_
 rintro e w2 ⟨rfl,b2⟩;replace X1:=(b2.block _ (lt_of_block X1)).trans X1;replace X2:=(b2.block _ (lt_of_block X2)).trans X2;have B2:Hid (Below w.heap.size w w2):=B1.out.trans (b2.mono B1.out.size);clear b2 B1 CW
 cases ok with
 | false =>
  have B3:Hid (Below w.heap.size w (w2.alloc (.cells #[.int .i64 xop,.int .i64 ya,.int .i64 yb,.int .i64 yc,.int .i64 yk,.int .i64 yn,.slice yra yrl yrc,.slice yaa yal yac] 59))):=B2.out.trans ((Q5 _ _).mono B2.out.size);clear CB CD X1 X2 B2;go_wp2
  go_ret;exact⟨rfl,B3.out⟩
 | true =>
  replace X1:=((Q5 w2 (.cells #[.int .i64 xop,.int .i64 ya,.int .i64 yb,.int .i64 yc,.int .i64 yk,.int .i64 yn,.slice yra yrl yrc,.slice yaa yal yac] 59)).block _ (lt_of_block X1)).trans X1;replace X2:=((Q5 w2 (.cells #[.int .i64 xop,.int .i64 ya,.int .i64 yb,.int .i64 yc,.int .i64 yk,.int .i64 yn,.slice yra yrl yrc,.slice yaa yal yac] 59)).block _ (lt_of_block X2)).trans X2;have B3:Hid (Below w.heap.size w (w2.alloc (.cells #[.int .i64 xop,.int .i64 ya,.int .i64 yb,.int .i64 yc,.int .i64 yk,.int .i64 yn,.slice yra yrl yrc,.slice yaa yal yac] 59))):=B2.out.trans ((Q5 _ _).mono B2.out.size);go_wp2_with fail
  clear B2;generalize w2.alloc (.cells #[.int .i64 xop,.int .i64 ya,.int .i64 yb,.int .i64 yc,.int .i64 yk,.int .i64 yn,.slice yra yrl yrc,.slice yaa yal yac] 59)=w3 at X1 X2 B3 ⊢;refine(CB.out _).mono ?_
  rintro e w4 ⟨rfl,b4⟩;replace X1:=(b4.block _ (lt_of_block X1)).trans X1;replace X2:=(b4.block _ (lt_of_block X2)).trans X2;have B4:Hid (Below w.heap.size w w4):=B3.out.trans (b4.mono B3.out.size);clear b4 B3 CB
  cases bare with
  | false =>
   clear CD X1 X2;go_wp2
   go_ret;exact⟨rfl,B4.out⟩
  | true =>
   have d:=Qb X1 0 _ rfl;have d0:=Qb X2 0 _ rfl;have d1:=Qb X2 1 _ rfl;have d2:=Qb X2 2 _ rfl;have d3:=Qb X2 3 _ rfl;have d4:=Qb X2 4 _ rfl;have d5:=Qb X2 5 _ rfl;have d6:=Qb X2 6 _ rfl;have d7:=Qb X2 7 _ rfl;clear X1 X2;go_wp2_with fail
   refine(CD.out _).mono ?_
   rintro e w5 ⟨rfl,b5⟩;have B5:Hid (Below w.heap.size w w5):=B4.out.trans (b5.mono B4.out.size);clear b5 B4 CD;go_wp2
   go_ret;exact⟨rfl,B5.out⟩
theorem Qgi (funcs:Nat) (x:Qv) (i:IP) (am:Option Addr) (cm:Nat) (w:World) (hf:funcs<2305843009213693952) :
 Rd Tryz.prog 68 #[.agg #[.slice am funcs cm],.agg #[.int .i64 x.op,.int .i64 x.a,.int .i64 x.b,.int .i64 x.c,.int .i64 x.k,.int .i64 x.n,.slice i.pR x.regs.length i.cR,.slice i.pA x.args.length i.cA]] w (.int .i64 (x.form funcs)):=by
 rw[Qv.form_eq]
 have hno:=Qgw x.op;generalize x.op=op at hno ⊢;rcases hno with rfl | rfl | rfl | rfl | rfl | rfl | rfl | rfl | rfl | rfl | rfl | rfl | rfl | rfl | h
 ·rw[QO (show QE 1=some (false,false,false,false,true,false,false) from rfl)]
  exact Zt (ok:=true) (fun _=>wf1) (fun _=>Q4) (fun _=>Qal (by decide))
 ·rw[QO (show QE 2=some (true,true,false,true,false,false,false) from rfl)]
  exact Zt (ok:=true) (fun _=>wf2) (fun _=>Q4) (fun _=>Qkr)
 ·rw[QO (show QE 3=some (false,false,false,false,false,false,false) from rfl)]
  exact Zt (ok:=true) (fun _=>wf3) (fun _=>Q4) (fun _=>Qal (by decide))
 ·rw[QO (show QE 4=some (true,false,false,false,false,false,false) from rfl)]
  exact Zt (ok:=true) (fun _=>wf4) (fun _=>Q4) (fun _=>Qal (by decide))
 ·rw[QO (show QE 5=some (true,false,false,false,false,false,true) from rfl)]
  exact Zt (ok:=true) (fun _=>wf5) (fun _=>Q4) (fun _=>Qj7)
 ·rw[QO (show QE 6=some (true,false,false,true,false,false,false) from rfl)]
  exact Zt (ok:=true) (fun _=>wf6) (fun _=>Q4) (fun _=>QjS)
 ·rw[QO (show QE 7=some (true,true,false,true,false,false,false) from rfl)]
  exact Zt (ok:=true) (fun _=>wf7) (fun _=>Q4) (fun _=>Qj5)
 ·rw[QO (show QE 8=some (true,true,false,false,false,false,false) from rfl)]
  exact Zt (ok:=true) (fun _=>wf8) (fun _=>Q4) (fun _=>Qal (by decide))
 ·rw[QO (show QE 9=some (true,true,false,false,false,false,false) from rfl)]
  exact Zt (ok:=true) (fun _=>wf9) (fun _=>Q4) (fun _=>Qal (by decide))
 ·rw[QO (show QE 10=some (true,true,true,false,false,false,false) from rfl)]
  exact Zt (ok:=true) (fun _=>Ql6) (fun _=>Q4) (fun _=>Qal (by decide))
 ·rw[QO (show QE 11=some (true,false,false,false,false,false,false) from rfl)]
  exact Zt (ok:=true) (fun _=>Ql5) (fun _=>Q4) (fun _=>Qal (by decide))
 ·rw[QO (show QE 12=some (false,false,false,false,false,false,false) from rfl)]
  exact Zt (ok:=true) (fun _=>Ql0) (fun _=>Q4) (fun _=>Qal (by decide))
 ·rw[QO (show QE 13=some (true,false,false,false,false,false,false) from rfl)]
  exact Zt (ok:=true) (fun _=>QlP) (fun _=>Q4) (fun _=>Qal (by decide))
 ·rw[QO (show QE 14=some (false,false,false,true,false,true,true) from rfl)]
  exact Zt (ok:=true) (fun _=>Ql8) (fun _=>Q4) (fun _=>QiX hf)
 ·have e:QE op=none:=by
   unfold QE;obtain⟨h1,h2,h3,h4,h5,h6,h7,h8,h9,h10,h11,h12,h13,h14⟩:=h
   simp[h1,h2,h3,h4,h5,h6,h7,h8,h9,h10,h11,h12,h13,h14]
  rw[show QX funcs op x.a x.b x.c x.k x.n x.regs.length x.args.length=3 by unfold QX;rw[e]]
  exact Zt (ok:=false) (bare:=Qbe x.a x.b x.c x.k x.n x.regs.length x.args.length) (fun _=>QlQ h) (fun _=>Q4) (fun _=>Qal ⟨h.2.1,h.2.2.2.2.2.1,h.2.2.2.2.2.2.1,h.2.2.2.2.1,h.2.2.2.2.2.2.2.2.2.2.2.2.2⟩)
theorem Qht (x:MTo) (bl:Nat):x.form bl true=if rangeC x.block 0 ((bl:Int) - 1)=0 then handedC x.regs.length 16 x.args.length else rangeC x.block 0 ((bl:Int) - 1):=by
 unfold MTo.form rangeC handedC manyC;simp only[Bool.true_eq_false,if_false]
 repeat' split
 all_goals omega
theorem QbX (x:MTo) (bl:Nat):x.form bl false=if x.block=0∧x.regs.length=0∧x.args.length=0 then 0 else 4:=by
 unfold MTo.form;simp only[if_true]
 repeat' split
 all_goals omega
theorem QQ (e:Z3) (bl:Nat):e.form bl=if e.op<1∨3<e.op then 3 else if (e.op≠2∧e.a≠0)∨(e.op≠3∧0<e.args.length) then 4 else if 8<e.args.length then 2
 else if e.yes.form bl (e.op!=3)=0 then e.no.form bl (e.op==2) else e.yes.form bl (e.op!=3):=by
 unfold Z3.form;have h1:decide (e.op≠3)=(e.op!=3):=by by_cases h:e.op=3<;>simp[h]
 have h2:decide (e.op=2)=(e.op==2):=by by_cases h:e.op=2<;>simp[h]
 rw[h1,h2]
 by_cases c1:e.op<1∨3<e.op
 ·simp[c1]
 ·rw[if_neg c1,if_neg c1]
  by_cases c2:(e.op≠2∧e.a≠0)∨(e.op≠3∧0<e.args.length)
  ·rw[if_pos c2,if_pos (c2.imp (fun h=>⟨h.2,h.1⟩) (fun h=>⟨h.2,h.1⟩))]
  ·rw[if_neg c2,if_neg (fun h=>c2 (h.imp (fun h=>⟨h.2,h.1⟩) (fun h=>⟨h.2,h.1⟩)))]
   by_cases c3:8<e.args.length
   ·simp[c3]
   ·rw[if_neg c3,if_neg c3]
    by_cases c4:e.yes.form bl (e.op!=3)=0
    ·simp[c4]
    ·simp[c4]
theorem QjK {tb:Int}{pR pA:Option Addr}{n1 cR n2 cA:Nat}{fr:Int}{fp fq fb:Option Addr}{fl fc fm fd bl fe:Nat}{w:World}:Rd Tryz.prog 130 #[.agg #[.int .i64 fr,.slice fp fl fc,.slice fq fm fd,.slice fb bl fe],.agg #[.int .i64 tb,.slice pR n1 cR,.slice pA n2 cA],.bool false] w (.int .i64 (if tb=0∧n1=0∧n2=0 then 0 else 4)):=by
 unfold Rd;by_cases h1:tb=0
 ·subst h1;by_cases h2:n1=0
  ·subst h2;by_cases h3:n2=0
   ·subst h3;rw[if_pos ⟨rfl,rfl,rfl⟩]
    go_enter Tryz.func130,Tryz.ntmps130
    go_wp2
    go_ret;exact⟨rfl,Qa1 _ _ _⟩
   ·have g:(0:Int)<n2:=by omega
    rw[if_neg (by omega)]
    go_enter Tryz.func130,Tryz.ntmps130
    go_wp2
    go_ret;exact⟨rfl,Qa1 _ _ _⟩
  ·have g:(0:Int)<n1:=by omega
   rw[if_neg (by omega)]
   go_enter Tryz.func130,Tryz.ntmps130
   go_wp2
   go_ret;exact⟨rfl,Qa1 _ _ _⟩
 ·have g:(tb==0)=false:=by simpa using h1
  rw[if_neg (by omega)]
  go_enter Tryz.func130,Tryz.ntmps130
  go_wp2
  go_ret;exact⟨rfl,Qa1 _ _ _⟩
theorem Qkh {tb:Int}{pR pA:Option Addr}{n1 cR n2 cA:Nat}{fr:Int}{fp fq fb:Option Addr}{fl fc fm fd bl fe:Nat}{w:World}(hbl:bl<2305843009213693952):Rd Tryz.prog 130 #[.agg #[.int .i64 fr,.slice fp fl fc,.slice fq fm fd,.slice fb bl fe],.agg #[.int .i64 tb,.slice pR n1 cR,.slice pA n2 cA],.bool true] w (.int .i64 (if rangeC tb 0 ((bl:Int) - 1)=0 then handedC n1 16 n2 else rangeC tb 0 ((bl:Int) - 1))):=by
 have C:Hid (∀ wx:World,Calls Tryz.prog 157 #[.int .i64 tb,.int .i64 0,.int .i64 ((bl:Int) - 1)] wx fun e w'=>e=.returned (.int .i64 (rangeC tb 0 ((bl:Int) - 1)))∧Below wx.heap.size wx w'):=fun wx=>Qaa;have C2:Hid (∀ wx:World,Calls Tryz.prog 159 #[.slice pR n1 cR,.int .i64 16,.slice pA n2 cA] wx fun e w'=>e=.returned (.int .i64 (handedC n1 16 n2))∧Below wx.heap.size wx w'):=fun wx=>QbM;generalize rangeC tb 0 ((bl:Int) - 1)=v at C ⊢;generalize handedC n1 16 n2=u at C2 ⊢;have X2:Blk ((w.alloc (.cells #[.int .i64 fr,.slice fp fl fc,.slice fq fm fd,.slice fb bl fe] 55)).alloc (.cells #[.int .i64 tb,.slice pR n1 cR,.slice pA n2 cA] 45)) (w.heap.size+1) #[.int .i64 tb,.slice pR n1 cR,.slice pA n2 cA] 45:=Blk.new2 _ _ _ _;have B1:Hid (Below w.heap.size w ((w.alloc (.cells #[.int .i64 fr,.slice fp fl fc,.slice fq fm fd,.slice fb bl fe] 55)).alloc (.cells #[.int .i64 tb,.slice pR n1 cR,.slice pA n2 cA] 45))):=Qa1 _ _ _;unfold Rd;by_cases hv:v=0
 ·subst hv;rw[if_pos rfl]
  go_enter Tryz.func130,Tryz.ntmps130
  go_wp2_with fail
  generalize ((w.alloc (.cells #[.int .i64 fr,.slice fp fl fc,.slice fq fm fd,.slice fb bl fe] 55)).alloc (.cells #[.int .i64 tb,.slice pR n1 cR,.slice pA n2 cA] 45))=w1 at X2 B1 ⊢;refine(C.out _).mono ?_
  rintro e w2 ⟨rfl,b2⟩;have X3:=(b2.block _ (lt_of_block X2)).trans X2;have B2:Hid (Below w.heap.size w w2):=B1.out.trans (b2.mono B1.out.size);have c6:=Qb X3 1 _ rfl;have c7:=Qb X3 2 _ rfl;clear b2 C X2 B1 X3;go_wp2_with fail
  refine(C2.out _).mono ?_
  rintro e w3 ⟨rfl,b3⟩;have B3:Hid (Below w.heap.size w w3):=B2.out.trans (b3.mono B2.out.size);clear b3 C2 B2;go_wp2
  go_ret;exact⟨rfl,B3.out⟩
 ·rw[if_neg hv]
  have hv':(v==0)=false:=by simpa using hv
  go_enter Tryz.func130,Tryz.ntmps130
  go_wp2_with fail
  generalize ((w.alloc (.cells #[.int .i64 fr,.slice fp fl fc,.slice fq fm fd,.slice fb bl fe] 55)).alloc (.cells #[.int .i64 tb,.slice pR n1 cR,.slice pA n2 cA] 45))=w1 at X2 B1 ⊢;refine(C.out _).mono ?_
  rintro e w2 ⟨rfl,b2⟩;have B2:Hid (Below w.heap.size w w2):=B1.out.trans (b2.mono B1.out.size);clear b2 C C2 X2 B1;go_wp2
  go_ret;exact⟨rfl,B2.out⟩
theorem QdL {x:MTo}{pR pA:Option Addr}{cR cA:Nat}{fr:Int}{fp fq fb:Option Addr}{fl fc fm fd bl fe:Nat}(has:Bool){w:World}(hbl:bl<2305843009213693952) :
 Rd Tryz.prog 130 #[.agg #[.int .i64 fr,.slice fp fl fc,.slice fq fm fd,.slice fb bl fe],.agg #[.int .i64 x.block,.slice pR x.regs.length cR,.slice pA x.args.length cA],.bool has] w (.int .i64 (x.form bl has)):=by
 cases has
 ·rw[QbX];exact QjK
 ·rw[Qht];exact Qkh hbl
theorem Qjs {eo ea yb nb:Int}{pyr pya pnr pna pe:Option Addr}{nyr cyr nya cya nnr cnr nna cna ne ce:Nat}{fr:Int}{fp fq fb:Option Addr}{fl fc fm fd bl fe:Nat}{w:World}{vy vn:Int}(h1:¬ (eo<1∨3<eo)) (h2:¬ ((eo≠2∧ea≠0)∨(eo≠3∧0<ne))) (h3:¬ 8<ne)
 (CY:Hid (∀ wx:World,Calls Tryz.prog 130 #[.agg #[.int .i64 fr,.slice fp fl fc,.slice fq fm fd,.slice fb bl fe],.agg #[.int .i64 yb,.slice pyr nyr cyr,.slice pya nya cya],.bool (eo!=3)] wx fun e w'=>e=.returned (.int .i64 vy)∧Below wx.heap.size wx w'))
 (CN:Hid (∀ wx:World,Calls Tryz.prog 130 #[.agg #[.int .i64 fr,.slice fp fl fc,.slice fq fm fd,.slice fb bl fe],.agg #[.int .i64 nb,.slice pnr nnr cnr,.slice pna nna cna],.bool (eo==2)] wx fun e w'=>e=.returned (.int .i64 vn)∧Below wx.heap.size wx w')) :
 Rd Tryz.prog 76 #[.agg #[.int .i64 fr,.slice fp fl fc,.slice fq fm fd,.slice fb bl fe],.agg #[.int .i64 eo,.int .i64 ea,.int .i64 yb,.slice pyr nyr cyr,.slice pya nya cya,.int .i64 nb,.slice pnr nnr cnr,.slice pna nna cna,.slice pe ne ce]] w (.int .i64 (if vy=0 then vn else vy)):=by
 have X1:Blk ((w.alloc (.cells #[.int .i64 fr,.slice fp fl fc,.slice fq fm fd,.slice fb bl fe] 55)).alloc (.cells #[.int .i64 eo,.int .i64 ea,.int .i64 yb,.slice pyr nyr cyr,.slice pya nya cya,.int .i64 nb,.slice pnr nnr cnr,.slice pna nna cna,.slice pe ne ce] 47)) w.heap.size #[.int .i64 fr,.slice fp fl fc,.slice fq fm fd,.slice fb bl fe] 55:=Blk.new1 _ _ _ _ _;have X2:Blk ((w.alloc (.cells #[.int .i64 fr,.slice fp fl fc,.slice fq fm fd,.slice fb bl fe] 55)).alloc (.cells #[.int .i64 eo,.int .i64 ea,.int .i64 yb,.slice pyr nyr cyr,.slice pya nya cya,.int .i64 nb,.slice pnr nnr cnr,.slice pna nna cna,.slice pe ne ce] 47)) (w.heap.size+1) #[.int .i64 eo,.int .i64 ea,.int .i64 yb,.slice pyr nyr cyr,.slice pya nya cya,.int .i64 nb,.slice pnr nnr cnr,.slice pna nna cna,.slice pe ne ce] 47:=Blk.new2 _ _ _ _;have B1:Hid (Below w.heap.size w ((w.alloc (.cells #[.int .i64 fr,.slice fp fl fc,.slice fq fm fd,.slice fb bl fe] 55)).alloc (.cells #[.int .i64 eo,.int .i64 ea,.int .i64 yb,.slice pyr nyr cyr,.slice pya nya cya,.int .i64 nb,.slice pnr nnr cnr,.slice pna nna cna,.slice pe ne ce] 47))):=Qa1 _ _ _;unfold Rd;have key:∀ {o:Int},eo=o→¬ (o≠2∧ea≠0)→¬ (o≠3∧0<ne)→(o=1∨o=2∨o=3):=fun h _ _=>by omega
 rcases (show eo=1∨eo=2∨eo=3 by omega) with rfl | rfl | rfl
 ·obtain rfl:ea=0:=by omega
  obtain rfl:ne=0:=by omega
  clear h1 h2 h3 key;go_enter Tryz.func76,Tryz.ntmps76
  go_wp2_with fail
  generalize ((w.alloc (.cells #[.int .i64 fr,.slice fp fl fc,.slice fq fm fd,.slice fb bl fe] 55)).alloc (.cells #[.int .i64 1,.int .i64 0,.int .i64 yb,.slice pyr nyr cyr,.slice pya nya cya,.int .i64 nb,.slice pnr nnr cnr,.slice pna nna cna,.slice pe 0 ce] 47))=w1 at X1 X2 B1 ⊢;refine(CY.out _).mono ?_
  rintro e w2 ⟨rfl,b2⟩;replace X1:=(b2.block _ (lt_of_block X1)).trans X1;replace X2:=(b2.block _ (lt_of_block X2)).trans X2;have B2:Hid (Below w.heap.size w w2):=B1.out.trans (b2.mono B1.out.size);clear b2 CY B1;by_cases hv:vy=0
  ·subst hv;have c0:=Qb X1 0 _ rfl;have c1:=Qb X1 1 _ rfl;have c2:=Qb X1 2 _ rfl;have c3:=Qb X1 3 _ rfl;have d0:=Qb X2 0 _ rfl;have d5:=Qb X2 5 _ rfl;have d6:=Qb X2 6 _ rfl;have d7:=Qb X2 7 _ rfl;clear X1 X2;go_wp2_with fail
   refine(CN.out _).mono ?_
   rintro e w3 ⟨rfl,b3⟩;have B3:Hid (Below w.heap.size w w3):=B2.out.trans (b3.mono B2.out.size);clear b3 CN B2;go_wp2
   go_ret;exact⟨rfl,B3.out⟩
  ·have hv':(vy==0)=false:=by simpa using hv
   clear CN X1 X2;go_wp2
   go_ret;exact⟨rfl,B2.out⟩
 ·obtain rfl:ne=0:=by omega
  clear h1 h2 h3 key;go_enter Tryz.func76,Tryz.ntmps76
  go_wp2_with fail
  generalize ((w.alloc (.cells #[.int .i64 fr,.slice fp fl fc,.slice fq fm fd,.slice fb bl fe] 55)).alloc (.cells #[.int .i64 2,.int .i64 ea,.int .i64 yb,.slice pyr nyr cyr,.slice pya nya cya,.int .i64 nb,.slice pnr nnr cnr,.slice pna nna cna,.slice pe 0 ce] 47))=w1 at X1 X2 B1 ⊢;refine(CY.out _).mono ?_
  rintro e w2 ⟨rfl,b2⟩;replace X1:=(b2.block _ (lt_of_block X1)).trans X1;replace X2:=(b2.block _ (lt_of_block X2)).trans X2;have B2:Hid (Below w.heap.size w w2):=B1.out.trans (b2.mono B1.out.size);clear b2 CY B1;by_cases hv:vy=0
  ·subst hv;have c0:=Qb X1 0 _ rfl;have c1:=Qb X1 1 _ rfl;have c2:=Qb X1 2 _ rfl;have c3:=Qb X1 3 _ rfl;have d0:=Qb X2 0 _ rfl;have d5:=Qb X2 5 _ rfl;have d6:=Qb X2 6 _ rfl;have d7:=Qb X2 7 _ rfl;clear X1 X2;go_wp2_with fail
   refine(CN.out _).mono ?_
   rintro e w3 ⟨rfl,b3⟩;have B3:Hid (Below w.heap.size w w3):=B2.out.trans (b3.mono B2.out.size);clear b3 CN B2;go_wp2
   go_ret;exact⟨rfl,B3.out⟩
  ·have hv':(vy==0)=false:=by simpa using hv
   clear CN X1 X2;go_wp2
   go_ret;exact⟨rfl,B2.out⟩
 ·obtain rfl:ea=0:=by omega
  have g8:¬ (8:Int)<ne:=by omega
  clear h1 h2 h3 key;go_enter Tryz.func76,Tryz.ntmps76
  go_wp2_with fail
  generalize ((w.alloc (.cells #[.int .i64 fr,.slice fp fl fc,.slice fq fm fd,.slice fb bl fe] 55)).alloc (.cells #[.int .i64 3,.int .i64 0,.int .i64 yb,.slice pyr nyr cyr,.slice pya nya cya,.int .i64 nb,.slice pnr nnr cnr,.slice pna nna cna,.slice pe ne ce] 47))=w1 at X1 X2 B1 ⊢;refine(CY.out _).mono ?_
  rintro e w2 ⟨rfl,b2⟩;replace X1:=(b2.block _ (lt_of_block X1)).trans X1;replace X2:=(b2.block _ (lt_of_block X2)).trans X2;have B2:Hid (Below w.heap.size w w2):=B1.out.trans (b2.mono B1.out.size);clear b2 CY B1;by_cases hv:vy=0
  ·subst hv;have c0:=Qb X1 0 _ rfl;have c1:=Qb X1 1 _ rfl;have c2:=Qb X1 2 _ rfl;have c3:=Qb X1 3 _ rfl;have d0:=Qb X2 0 _ rfl;have d5:=Qb X2 5 _ rfl;have d6:=Qb X2 6 _ rfl;have d7:=Qb X2 7 _ rfl;clear X1 X2;go_wp2_with fail
   refine(CN.out _).mono ?_
   rintro e w3 ⟨rfl,b3⟩;have B3:Hid (Below w.heap.size w w3):=B2.out.trans (b3.mono B2.out.size);clear b3 CN B2;go_wp2
   go_ret;exact⟨rfl,B3.out⟩
  ·have hv':(vy==0)=false:=by simpa using hv
   clear CN X1 X2;go_wp2
   go_ret;exact⟨rfl,B2.out⟩
theorem QfY {eo ea yb nb:Int}{pyr pya pnr pna pe:Option Addr}{nyr cyr nya cya nnr cnr nna cna ne ce:Nat}{fr:Int}{fp fq fb:Option Addr}{fl fc fm fd bl fe:Nat}{w:World}{v:Int}(h:(v=3∧(eo<1∨3<eo))∨(v=4∧¬ (eo<1∨3<eo)∧((eo≠2∧ea≠0)∨(eo≠3∧0<ne)))∨(v=2∧¬ (eo<1∨3<eo)∧¬ ((eo≠2∧ea≠0)∨(eo≠3∧0<ne))∧8<ne)) :
 Rd Tryz.prog 76 #[.agg #[.int .i64 fr,.slice fp fl fc,.slice fq fm fd,.slice fb bl fe],.agg #[.int .i64 eo,.int .i64 ea,.int .i64 yb,.slice pyr nyr cyr,.slice pya nya cya,.int .i64 nb,.slice pnr nnr cnr,.slice pna nna cna,.slice pe ne ce]] w (.int .i64 v):=by
 unfold Rd;rcases h with ⟨rfl,h | h⟩|⟨rfl,h1,h⟩|⟨rfl,h1,h2,h3⟩
 ·go_enter Tryz.func76,Tryz.ntmps76
  go_wp2
  go_ret;exact⟨rfl,Qa1 _ _ _⟩
 ·have g:¬ eo<1:=by omega
  go_enter Tryz.func76,Tryz.ntmps76
  go_wp2
  go_ret;exact⟨rfl,Qa1 _ _ _⟩
 ·rcases (show eo=1∨eo=2∨eo=3 by omega) with rfl | rfl | rfl
  ·by_cases ha:ea=0
   ·subst ha;have g:(0:Int)<ne:=by omega
    clear h h1;go_enter Tryz.func76,Tryz.ntmps76
    go_wp2
    go_ret;exact⟨rfl,Qa1 _ _ _⟩
   ·have g:(ea==0)=false:=by simpa using ha
    clear h h1;go_enter Tryz.func76,Tryz.ntmps76
    go_wp2
    go_ret;exact⟨rfl,Qa1 _ _ _⟩
  ·have g:(0:Int)<ne:=by omega
   clear h h1;go_enter Tryz.func76,Tryz.ntmps76
   go_wp2
   go_ret;exact⟨rfl,Qa1 _ _ _⟩
  ·have g:(ea==0)=false:=by simp;omega
   clear h h1;go_enter Tryz.func76,Tryz.ntmps76
   go_wp2
   go_ret;exact⟨rfl,Qa1 _ _ _⟩
 ·obtain rfl:eo=3:=by omega
  obtain rfl:ea=0:=by omega
  have g:(8:Int)<ne:=by omega
  clear h1 h2 h3;go_enter Tryz.func76,Tryz.ntmps76
  go_wp2
  go_ret;exact⟨rfl,Qa1 _ _ _⟩
theorem Qgq {x:Z3}{e:EP}{fr:Int}{fp fq fb:Option Addr}{fl fc fm fd bl fe:Nat}{w:World}(hs:x.yes.regs.length<2305843009213693952∧x.yes.args.length<2305843009213693952∧x.no.regs.length<2305843009213693952∧x.no.args.length<2305843009213693952) (hbl:bl<2305843009213693952):Rd Tryz.prog 76 #[.agg #[.int .i64 fr,.slice fp fl fc,.slice fq fm fd,.slice fb bl fe],.agg #[.int .i64 x.op,.int .i64 x.a,.int .i64 x.yes.block,.slice e.pYR x.yes.regs.length e.cYR,.slice e.pYA x.yes.args.length e.cYA,.int .i64 x.no.block,.slice e.pNR x.no.regs.length e.cNR,.slice e.pNA x.no.args.length e.cNA,.slice e.pA x.args.length e.cA]] w (.int .i64 (x.form bl)):=by
 rw[QQ]
 by_cases c1:x.op<1∨3<x.op
 ·rw[if_pos c1];exact QfY (.inl ⟨rfl,c1⟩)
 rw[if_neg c1]
 by_cases c2:(x.op≠2∧x.a≠0)∨(x.op≠3∧0<x.args.length)
 ·rw[if_pos c2];exact QfY (.inr (.inl ⟨rfl,c1,c2⟩))
 rw[if_neg c2]
 by_cases c3:8<x.args.length
 ·rw[if_pos c3];exact QfY (.inr (.inr ⟨rfl,c1,c2,c3⟩))
 rw[if_neg c3]
 exact Qjs c1 c2 c3 (fun _=>QdL _ hbl) (fun _=>QdL _ hbl)
theorem Qjd (p q:Nat) (h:p+q<4611686018427387904):IntKind.i64.wrap ((p:Int)+(q:Int))=(p:Int)+(q:Int):=by
 have e1:((p:Int)+(q:Int))%2 ^ 64=(p:Int)+(q:Int):=by omega
 simp only[IntKind.wrap,IntKind.signed,IntKind.bits,e1,Bool.true_and]
 rw[if_neg (by simp only[decide_eq_true_eq];omega)]
theorem QjR {x:MTo}{pR pA:Option Addr}{cR cA:Nat}{fr:Int}{fp fq fb:Option Addr}{fl fc fm fd bl fe:Nat}{w:World}(hr:x.regs.length<2305843009213693952) (ha:x.args.length<2305843009213693952) (hbl:bl<2305843009213693952) :
 Rd Tryz.prog 134 #[.agg #[.int .i64 fr,.slice fp fl fc,.slice fq fm fd,.slice fb bl fe],.agg #[.int .i64 x.block,.slice pR x.regs.length cR,.slice pA x.args.length cA],.bool false] w (.int .i64 (x.form bl false)):=by
 refine Qq (n:=43) Tryz.func134 rfl rfl rfl ?_;intro a hF;have hW:=Wd.start w;replace hF:Fr 43 a [(0,.agg #[.int .i64 fr,.slice fp fl fc,.slice fq fm fd,.slice fb bl fe]),(1,.agg #[.int .i64 x.block,.slice pR x.regs.length cR,.slice pA x.args.length cA]),(2,.bool false)]:=hF;refine wp_seq_k fun K1 hK1=>?_;refine rg hF fun ops=>?_;clear hF a;refine sB hW trivial rfl rfl ?_;clear hW;intro w2 B2 hW2 hN;clear hN;refine sB hW2 trivial rfl rfl ?_;clear hW2;intro w3 B3 hW3 hN;clear hN;refine sa trivial rfl rfl ?_;refine St.nil fun a4 h4=>?_;refine hK1 _ _ ?_;refine wp_seq_k fun K5 hK5=>?_;refine wp_seq_k fun K6 hK6=>?_;refine rg h4 fun ops=>?_;clear h4 a4;refine sm trivial rfl rfl ?_;refine sn trivial rfl rfl ?_;refine St.nil fun a7 h7=>?_;refine hK6 _ _ ?_;refine QU (t:=8) h7 rfl ?_;refine wp_seq_k fun K8 hK8=>?_;refine wp_seq_k fun K9 hK9=>?_;refine Qz ?_;intro ops hops;have hg3:(ops[3]?).bind (fun o:Oper=>o.dst)=some 12:=hops 3;clear hops;refine St.go h7 ?_;clear h7 a7;refine Qkp trivial rfl rfl ?_;refine QN 0 hW3 trivial rfl rfl rfl rfl ?_;refine sne trivial rfl rfl rfl ?_;refine sm trivial rfl rfl ?_;intro a10 h10;rcases Bool.eq_false_or_eq_true (x.block!=0) with hb | hb
 ·rw[hb] at h10
  have h9:¬ x.block=0:=bne_iff_ne.1 hb;have hc11:¬ x.block=0:=h9;clear h9;clear hb;refine St.go h10 ?_;clear h10 a10;refine so hg3 rfl rfl rfl rfl ?_;refine so hg3 rfl rfl rfl rfl ?_;refine so hg3 rfl rfl rfl rfl ?_;refine so hg3 rfl rfl rfl rfl ?_;refine so hg3 rfl rfl rfl rfl ?_;refine so hg3 rfl rfl rfl rfl ?_;refine so hg3 rfl rfl rfl rfl ?_;refine so hg3 rfl rfl rfl rfl ?_;refine sp trivial rfl rfl rfl ?_;refine St.nil fun a12 h12=>?_;refine hK9 _ _ ?_;refine QU (t:=21) h12 rfl ?_;refine wp_seq_k fun K13 hK13=>?_;refine rg h12 fun ops=>?_;clear h12 a12;refine sa trivial rfl rfl ?_;refine St.nil fun a14 h14=>?_;refine hK13 _ _ ?_;refine wp_ret ?_;with_reducible repeat first | refine Qd ?_ | refine Qc ?_
  have R:x.form bl false=4:=by have:=hc11;rw[QbX];split<;>omega
  exact Qf (t:=6) h14 rfl rfl ⟨by rw[R],hW3.bel⟩
 rw[hb] at h10
 have h9:x.block=0:=bne_eq_false_iff_eq.1 hb;have hc15:Hid (x.block=0):=h9;clear h9;clear hb;refine St.go h10 ?_;clear h10 a10;refine QiT ⟨_,hg3,rfl,rfl⟩ rfl rfl ?_;refine Z0 0 hW3 ⟨_,hg3,rfl,rfl⟩ rfl rfl rfl rfl ?_;refine ZJ ⟨_,hg3,rfl,rfl⟩ rfl rfl ?_;refine QhX ⟨_,hg3,rfl,rfl⟩ rfl rfl ?_;refine Z0 0 hW3 ⟨_,hg3,rfl,rfl⟩ rfl rfl rfl rfl ?_;refine ZJ ⟨_,hg3,rfl,rfl⟩ rfl rfl ?_;intro a16 h16;refine QiF (t:=19) (g:=3) (tg:=12) (want:=false) (v:=.int .i64 ((x.regs.length+x.args.length:Nat):Int)) (w':=w3) h16 rfl rfl hg3 rfl rfl rfl (fun K hK=>?_) ?_
 ·have k0:a16.tmps.getD 15 undef=.int .i64 (x.regs.length:Int):=h16.sl 15 _ rfl
  have k1:a16.tmps.getD 18 undef=.int .i64 (x.args.length:Int):=h16.sl 18 _ rfl;have hwr:IntKind.i64.wrap ((x.regs.length:Int)+(x.args.length:Int))=(x.regs.length:Int)+(x.args.length:Int):=Qjd _ _ (by omega);go_simp;exact hK
 clear h16;intro a17 hF17;refine St.go hF17 ?_;clear hF17 a17;refine sgt ⟨_,hg3,rfl,rfl⟩ rfl rfl rfl ?_;refine spf trivial rfl rfl rfl ?_;refine St.nil fun a18 h18=>?_;refine hK9 _ _ ?_;refine Qg (t:=21) h18 rfl (fun hb=>?_) (fun hb=>?_)
 ·have hc19:0<((x.regs.length+x.args.length:Nat):Int):=of_decide_eq_true hb
  clear hb;refine wp_seq_k fun K20 hK20=>?_;refine rg h18 fun ops=>?_;clear h18 a18;refine sa trivial rfl rfl ?_;refine St.nil fun a21 h21=>?_;refine hK20 _ _ ?_;refine wp_ret ?_;with_reducible repeat first | refine Qd ?_ | refine Qc ?_
  have R:x.form bl false=4:=by have:=hc15.out;have:=hc19;rw[QbX];split<;>omega
  exact Qf (t:=6) h21 rfl rfl ⟨by rw[R],hW3.bel⟩
 have hc22:¬ (0<((x.regs.length+x.args.length:Nat):Int)):=of_decide_eq_false hb;clear hb;refine wp_skip ?_;refine hK8 _ _ ?_;refine wp_seq_k fun K23 hK23=>?_;refine rg h18 fun ops=>?_;clear h18 a18;refine sa trivial rfl rfl ?_;refine St.nil fun a24 h24=>?_;refine hK23 _ _ ?_;refine wp_ret ?_;with_reducible repeat first | refine Qd ?_ | refine Qc ?_
 have R:x.form bl false=0:=by have:=hc15.out;have:=hc22;rw[QbX];split<;>omega
 exact Qf (t:=6) h24 rfl rfl ⟨by rw[R],hW3.bel⟩
theorem Qj4 {x:MTo}{pR pA:Option Addr}{cR cA:Nat}{fr:Int}{fp fq fb:Option Addr}{fl fc fm fd bl fe:Nat}{w:World}(hr:x.regs.length<2305843009213693952) (ha:x.args.length<2305843009213693952) (hbl:bl<2305843009213693952) :
 Rd Tryz.prog 134 #[.agg #[.int .i64 fr,.slice fp fl fc,.slice fq fm fd,.slice fb bl fe],.agg #[.int .i64 x.block,.slice pR x.regs.length cR,.slice pA x.args.length cA],.bool true] w (.int .i64 (x.form bl true)):=by
 refine Qq (n:=43) Tryz.func134 rfl rfl rfl ?_;intro a hF;have hW:=Wd.start w;replace hF:Fr 43 a [(0,.agg #[.int .i64 fr,.slice fp fl fc,.slice fq fm fd,.slice fb bl fe]),(1,.agg #[.int .i64 x.block,.slice pR x.regs.length cR,.slice pA x.args.length cA]),(2,.bool true)]:=hF;refine wp_seq_k fun K1 hK1=>?_;refine rg hF fun ops=>?_;clear hF a;refine sB hW trivial rfl rfl ?_;clear hW;intro w2 B2 hW2 hN;clear hN;refine sB hW2 trivial rfl rfl ?_;clear hW2;intro w3 B3 hW3 hN;clear hN;refine sa trivial rfl rfl ?_;refine St.nil fun a4 h4=>?_;refine hK1 _ _ ?_;refine wp_seq_k fun K5 hK5=>?_;refine wp_seq_k fun K6 hK6=>?_;refine rg h4 fun ops=>?_;clear h4 a4;refine sm trivial rfl rfl ?_;refine sn trivial rfl rfl ?_;refine St.nil fun a7 h7=>?_;refine hK6 _ _ ?_;refine Qbl (t:=8) h7 rfl ?_;refine wp_skip ?_;refine hK5 _ _ ?_;refine wp_seq_k fun K8 hK8=>?_;refine wp_seq_k fun K9 hK9=>?_;refine Qz ?_;intro ops hops;have hg3:(ops[3]?).bind (fun o:Oper=>o.dst)=some 25:=hops 3;clear hops;refine St.go h7 ?_;clear h7 a7;refine Qkp trivial rfl rfl ?_;refine QN 0 hW3 trivial rfl rfl rfl rfl ?_;refine slt trivial rfl rfl rfl ?_;refine sm trivial rfl rfl ?_;intro a10 h10;rcases Bool.eq_false_or_eq_true (decide (x.block<0)) with hb | hb
 ·rw[hb] at h10
  have hc11:x.block<0:=of_decide_eq_true hb;clear hb;refine St.go h10 ?_;clear h10 a10;refine so hg3 rfl rfl rfl rfl ?_;refine so hg3 rfl rfl rfl rfl ?_;refine so hg3 rfl rfl rfl rfl ?_;refine so hg3 rfl rfl rfl rfl ?_;refine so hg3 rfl rfl rfl rfl ?_;refine so hg3 rfl rfl rfl rfl ?_;refine sp trivial rfl rfl rfl ?_;refine St.nil fun a12 h12=>?_;refine hK9 _ _ ?_;refine QU (t:=32) h12 rfl ?_;refine wp_seq_k fun K13 hK13=>?_;refine rg h12 fun ops=>?_;clear h12 a12;refine sa trivial rfl rfl ?_;refine St.nil fun a14 h14=>?_;refine hK13 _ _ ?_;refine wp_ret ?_;with_reducible repeat first | refine Qd ?_ | refine Qc ?_
  have R:x.form bl true=1:=by simp[MTo.form,hc11]
  exact Qf (t:=6) h14 rfl rfl ⟨by rw[R],hW3.bel⟩
 rw[hb] at h10
 have hc15:¬ (x.block<0):=of_decide_eq_false hb;clear hb;refine St.go h10 ?_;clear h10 a10;refine Qkp ⟨_,hg3,rfl,rfl⟩ rfl rfl ?_;refine QN 0 hW3 ⟨_,hg3,rfl,rfl⟩ rfl rfl rfl rfl ?_;refine ZV ⟨_,hg3,rfl,rfl⟩ rfl rfl ?_;refine ZD 1 hW3 ⟨_,hg3,rfl,rfl⟩ rfl rfl rfl rfl ?_;refine ZH ⟨_,hg3,rfl,rfl⟩ rfl rfl ?_;refine sge ⟨_,hg3,rfl,rfl⟩ rfl rfl rfl ?_;refine spf trivial rfl rfl rfl ?_;refine St.nil fun a16 h16=>?_;refine hK9 _ _ ?_;refine Qg (t:=32) h16 rfl (fun hb=>?_) (fun hb=>?_)
 ·have hc17:(bl:Int)≤x.block:=of_decide_eq_true hb
  clear hb;refine wp_seq_k fun K18 hK18=>?_;refine rg h16 fun ops=>?_;clear h16 a16;refine sa trivial rfl rfl ?_;refine St.nil fun a19 h19=>?_;refine hK18 _ _ ?_;refine wp_ret ?_;with_reducible repeat first | refine Qd ?_ | refine Qc ?_
  have R:x.form bl true=1:=by simp[MTo.form,hc15,hc17]
  exact Qf (t:=6) h19 rfl rfl ⟨by rw[R],hW3.bel⟩
 have hc20:¬ ((bl:Int)≤x.block):=of_decide_eq_false hb;clear hb;refine wp_skip ?_;refine hK8 _ _ ?_;refine wp_seq_k fun K21 hK21=>?_;refine wp_seq_k fun K22 hK22=>?_;refine Qz ?_;intro ops hops;have hg4:(ops[4]?).bind (fun o:Oper=>o.dst)=some 37:=hops 4;clear hops;refine St.go h16 ?_;clear h16 a16;refine QiT trivial rfl rfl ?_;refine Z0 0 hW3 trivial rfl rfl rfl rfl ?_;refine ZJ trivial rfl rfl ?_;refine sgt trivial rfl rfl rfl ?_;refine sm trivial rfl rfl ?_;intro a23 h23;rcases Bool.eq_false_or_eq_true (decide (16<(x.regs.length:Int))) with hb | hb
 ·rw[hb] at h23
  have hc24:16<x.regs.length:=by have:=of_decide_eq_true hb;omega
  clear hb;refine St.go h23 ?_;clear h23 a23;refine so hg4 rfl rfl rfl rfl ?_;refine so hg4 rfl rfl rfl rfl ?_;refine so hg4 rfl rfl rfl rfl ?_;refine so hg4 rfl rfl rfl rfl ?_;refine sp trivial rfl rfl rfl ?_;refine St.nil fun a25 h25=>?_;refine hK22 _ _ ?_;refine QU (t:=42) h25 rfl ?_;refine wp_seq_k fun K26 hK26=>?_;refine rg h25 fun ops=>?_;clear h25 a25;refine sa trivial rfl rfl ?_;refine St.nil fun a27 h27=>?_;refine hK26 _ _ ?_;refine wp_ret ?_;with_reducible repeat first | refine Qd ?_ | refine Qc ?_
  have R:x.form bl true=2:=by simp[MTo.form,hc15,hc20,hc24]
  exact Qf (t:=6) h27 rfl rfl ⟨by rw[R],hW3.bel⟩
 rw[hb] at h23
 have hc28:¬ (16<x.regs.length):=by have:=of_decide_eq_false hb;omega
 clear hb;refine St.go h23 ?_;clear h23 a23;refine QhX ⟨_,hg4,rfl,rfl⟩ rfl rfl ?_;refine Z0 0 hW3 ⟨_,hg4,rfl,rfl⟩ rfl rfl rfl rfl ?_;refine ZJ ⟨_,hg4,rfl,rfl⟩ rfl rfl ?_;refine sgt ⟨_,hg4,rfl,rfl⟩ rfl rfl rfl ?_;refine spf trivial rfl rfl rfl ?_;refine St.nil fun a29 h29=>?_;refine hK22 _ _ ?_;refine Qg (t:=42) h29 rfl (fun hb=>?_) (fun hb=>?_)
 ·have hc30:8<x.args.length:=by have:=of_decide_eq_true hb;omega
  clear hb;refine wp_seq_k fun K31 hK31=>?_;refine rg h29 fun ops=>?_;clear h29 a29;refine sa trivial rfl rfl ?_;refine St.nil fun a32 h32=>?_;refine hK31 _ _ ?_;refine wp_ret ?_;with_reducible repeat first | refine Qd ?_ | refine Qc ?_
  have R:x.form bl true=2:=by simp[MTo.form,hc15,hc20,hc28,hc30]
  exact Qf (t:=6) h32 rfl rfl ⟨by rw[R],hW3.bel⟩
 have hc33:¬ (8<x.args.length):=by have:=of_decide_eq_false hb;omega
 clear hb;refine wp_skip ?_;refine hK21 _ _ ?_;refine wp_seq_k fun K34 hK34=>?_;refine rg h29 fun ops=>?_;clear h29 a29;refine sa trivial rfl rfl ?_;refine St.nil fun a35 h35=>?_;refine hK34 _ _ ?_;refine wp_ret ?_;with_reducible repeat first | refine Qd ?_ | refine Qc ?_
 have R:x.form bl true=0:=by simp[MTo.form,hc15,hc20,hc28,hc33]
 exact Qf (t:=6) h35 rfl rfl ⟨by rw[R],hW3.bel⟩
theorem ZZ {x:MTo}{pR pA:Option Addr}{cR cA:Nat}{fr:Int}{fp fq fb:Option Addr}{fl fc fm fd bl fe:Nat}(has:Bool){w:World}(hr:x.regs.length<2305843009213693952) (ha:x.args.length<2305843009213693952) (hbl:bl<2305843009213693952) :
 Rd Tryz.prog 134 #[.agg #[.int .i64 fr,.slice fp fl fc,.slice fq fm fd,.slice fb bl fe],.agg #[.int .i64 x.block,.slice pR x.regs.length cR,.slice pA x.args.length cA],.bool has] w (.int .i64 (x.form bl has)):=by
 cases has
 ·exact QjR hr ha hbl
 ·exact Qj4 hr ha hbl
theorem QbW {x:Z3}{e:EP}{fr:Int}{fp fq fb:Option Addr}{fl fc fm fd bl fe:Nat}{w:World}(hs:x.yes.regs.length<2305843009213693952∧x.yes.args.length<2305843009213693952∧x.no.regs.length<2305843009213693952∧x.no.args.length<2305843009213693952) (hbl:bl<2305843009213693952) :
 Rd Tryz.prog 79 #[.agg #[.int .i64 fr,.slice fp fl fc,.slice fq fm fd,.slice fb bl fe],.agg #[.int .i64 x.op,.int .i64 x.a,.int .i64 x.yes.block,.slice e.pYR x.yes.regs.length e.cYR,.slice e.pYA x.yes.args.length e.cYA,.int .i64 x.no.block,.slice e.pNR x.no.regs.length e.cNR,.slice e.pNA x.no.args.length e.cNA,.slice e.pA x.args.length e.cA]] w (.int .i64 (x.form bl)):=by
 refine Qq (n:=54) Tryz.func79 rfl rfl rfl ?_;intro a hF;have hW:=Wd.start w;replace hF:Fr 54 a [(0,.agg #[.int .i64 fr,.slice fp fl fc,.slice fq fm fd,.slice fb bl fe]),(1,.agg #[.int .i64 x.op,.int .i64 x.a,.int .i64 x.yes.block,.slice e.pYR x.yes.regs.length e.cYR,.slice e.pYA x.yes.args.length e.cYA,.int .i64 x.no.block,.slice e.pNR x.no.regs.length e.cNR,.slice e.pNA x.no.args.length e.cNA,.slice e.pA x.args.length e.cA])]:=hF;refine wp_seq_k fun K1 hK1=>?_;refine rg hF fun ops=>?_;clear hF a;refine sB hW trivial rfl rfl ?_;clear hW;intro w2 B2 hW2 hN;clear hN;refine sB hW2 trivial rfl rfl ?_;clear hW2;intro w3 B3 hW3 hN;clear hN;refine sa trivial rfl rfl ?_;refine St.nil fun a4 h4=>?_;refine hK1 _ _ ?_;refine wp_seq_k fun K5 hK5=>?_;refine wp_seq_k fun K6 hK6=>?_;refine Qz ?_;intro ops hops;have hg3:(ops[3]?).bind (fun o:Oper=>o.dst)=some 9:=hops 3;clear hops;refine St.go h4 ?_;clear h4 a4;refine QaX trivial rfl rfl ?_;refine QN 0 hW3 trivial rfl rfl rfl rfl ?_;refine slt trivial rfl rfl rfl ?_;refine sm trivial rfl rfl ?_;intro a7 h7;rcases Bool.eq_false_or_eq_true (decide (x.op<1)) with hb | hb
 ·rw[hb] at h7
  have hc8:x.op<1:=of_decide_eq_true hb;clear hb;refine St.go h7 ?_;clear h7 a7;refine so hg3 rfl rfl rfl rfl ?_;refine so hg3 rfl rfl rfl rfl ?_;refine so hg3 rfl rfl rfl rfl ?_;refine sp trivial rfl rfl rfl ?_;refine St.nil fun a9 h9=>?_;refine hK6 _ _ ?_;refine QU (t:=13) h9 rfl ?_;refine wp_seq_k fun K10 hK10=>?_;refine rg h9 fun ops=>?_;clear h9 a9;refine sa trivial rfl rfl ?_;refine St.nil fun a11 h11=>?_;refine hK10 _ _ ?_;refine wp_ret ?_;with_reducible repeat first | refine Qd ?_ | refine Qc ?_
  have R:x.form bl=3:=by
   rw[QQ]
   generalize x.yes.form bl (x.op!=3)=yv;generalize x.no.form bl (x.op==2)=zv;first | (simp[hc8];done) | (exfalso;have:=hc8;omega)
  exact Qf (t:=4) h11 rfl rfl ⟨by rw[R],hW3.bel⟩
 rw[hb] at h7
 have hc12:¬ (x.op<1):=of_decide_eq_false hb;clear hb;refine St.go h7 ?_;clear h7 a7;refine QaX ⟨_,hg3,rfl,rfl⟩ rfl rfl ?_;refine QN 0 hW3 ⟨_,hg3,rfl,rfl⟩ rfl rfl rfl rfl ?_;refine sgt ⟨_,hg3,rfl,rfl⟩ rfl rfl rfl ?_;refine spf trivial rfl rfl rfl ?_;refine St.nil fun a13 h13=>?_;refine hK6 _ _ ?_;refine Qg (t:=13) h13 rfl (fun hb=>?_) (fun hb=>?_)
 ·have hc14:3<x.op:=of_decide_eq_true hb
  clear hb;refine wp_seq_k fun K15 hK15=>?_;refine rg h13 fun ops=>?_;clear h13 a13;refine sa trivial rfl rfl ?_;refine St.nil fun a16 h16=>?_;refine hK15 _ _ ?_;refine wp_ret ?_;with_reducible repeat first | refine Qd ?_ | refine Qc ?_
  have R:x.form bl=3:=by
   rw[QQ]
   generalize x.yes.form bl (x.op!=3)=yv;generalize x.no.form bl (x.op==2)=zv;first | (simp[hc12,hc14];done) | (exfalso;have:=hc12;have:=hc14;omega)
  exact Qf (t:=4) h16 rfl rfl ⟨by rw[R],hW3.bel⟩
 have hc17:¬ (3<x.op):=of_decide_eq_false hb;clear hb;refine wp_skip ?_;refine hK5 _ _ ?_;refine wp_seq_k fun K18 hK18=>?_;refine wp_seq_k fun K19 hK19=>?_;refine Qz ?_;intro ops hops;have hg3:(ops[3]?).bind (fun o:Oper=>o.dst)=some 17:=hops 3;have hg8:(ops[8]?).bind (fun o:Oper=>o.dst)=some 22:=hops 8;have hg13:(ops[13]?).bind (fun o:Oper=>o.dst)=some 27:=hops 13;clear hops;refine St.go h13 ?_;clear h13 a13;refine QkA trivial rfl rfl ?_;refine QN 0 hW3 trivial rfl rfl rfl rfl ?_;refine sne trivial rfl rfl rfl ?_;refine sm trivial rfl rfl ?_;intro a20 h20;rcases Bool.eq_false_or_eq_true (x.a!=0) with hb | hb
 ·rw[hb] at h20
  have h9:¬ x.a=0:=bne_iff_ne.1 hb;have hc21:¬ x.a=0:=h9;clear h9;clear hb;refine St.go h20 ?_;clear h20 a20;refine QaX ⟨_,hg3,rfl,rfl⟩ rfl rfl ?_;refine QN 0 hW3 ⟨_,hg3,rfl,rfl⟩ rfl rfl rfl rfl ?_;refine sne ⟨_,hg3,rfl,rfl⟩ rfl rfl rfl ?_;refine sp trivial rfl rfl rfl ?_;refine sm trivial rfl rfl ?_;intro a22 h22;rcases Bool.eq_false_or_eq_true (x.op!=2) with hb | hb
  ·rw[hb] at h22
   have h9:¬ x.op=2:=bne_iff_ne.1 hb;have hc23:¬ x.op=2:=h9;clear h9;clear hb;refine St.go h22 ?_;clear h22 a22;refine so hg8 rfl rfl rfl rfl ?_;refine so hg8 rfl rfl rfl rfl ?_;refine so hg8 rfl rfl rfl rfl ?_;refine so hg8 rfl rfl rfl rfl ?_;refine so hg8 rfl rfl rfl rfl ?_;refine so hg13 rfl rfl rfl rfl ?_;refine so hg13 rfl rfl rfl rfl ?_;refine so hg13 rfl rfl rfl rfl ?_;refine so hg8 rfl rfl rfl rfl ?_;refine sp trivial rfl rfl rfl ?_;refine St.nil fun a24 h24=>?_;refine hK19 _ _ ?_;refine QU (t:=32) h24 rfl ?_;refine wp_seq_k fun K25 hK25=>?_;refine rg h24 fun ops=>?_;clear h24 a24;refine sa trivial rfl rfl ?_;refine St.nil fun a26 h26=>?_;refine hK25 _ _ ?_;refine wp_ret ?_;with_reducible repeat first | refine Qd ?_ | refine Qc ?_
   have R:x.form bl=4:=by
    rw[QQ]
    generalize x.yes.form bl (x.op!=3)=yv;generalize x.no.form bl (x.op==2)=zv;first | (simp[hc12,hc17,hc21,hc23];done) | (exfalso;have:=hc12;have:=hc17;have:=hc21;have:=hc23;omega)
   exact Qf (t:=4) h26 rfl rfl ⟨by rw[R],hW3.bel⟩
  rw[hb] at h22
  have h9:x.op=2:=bne_eq_false_iff_eq.1 hb;have hc27:Hid (x.op=2):=h9;clear h9;clear hb;refine St.go h22 ?_;clear h22 a22;refine QcG ⟨_,hg8,rfl,rfl⟩ rfl rfl ?_;refine Z0 0 hW3 ⟨_,hg8,rfl,rfl⟩ rfl rfl rfl rfl ?_;refine ZJ ⟨_,hg8,rfl,rfl⟩ rfl rfl ?_;refine sgt ⟨_,hg8,rfl,rfl⟩ rfl rfl rfl ?_;refine sm ⟨_,hg8,rfl,rfl⟩ rfl rfl ?_;intro a28 h28;rcases Bool.eq_false_or_eq_true (decide (0<(x.args.length:Int))) with hb | hb
  ·rw[hb] at h28
   have hc29:0<x.args.length:=by have:=of_decide_eq_true hb;omega
   clear hb;refine St.go h28 ?_;clear h28 a28;refine QaX ⟨_,hg13,rfl,rfl⟩ rfl rfl ?_;refine QN 0 hW3 ⟨_,hg13,rfl,rfl⟩ rfl rfl rfl rfl ?_;refine sne ⟨_,hg13,rfl,rfl⟩ rfl rfl rfl ?_;refine sp ⟨_,hg8,rfl,rfl⟩ rfl rfl rfl ?_;refine spf trivial rfl rfl rfl ?_;refine St.nil fun a30 h30=>?_;refine hK19 _ _ ?_;refine Qg (t:=32) h30 rfl (fun hb=>?_) (fun hb=>?_)
   ·have h9:¬ x.op=3:=bne_iff_ne.1 hb
    have hc31:¬ x.op=3:=h9;clear h9;clear hb;refine wp_seq_k fun K32 hK32=>?_;refine rg h30 fun ops=>?_;clear h30 a30;refine sa trivial rfl rfl ?_;refine St.nil fun a33 h33=>?_;refine hK32 _ _ ?_;refine wp_ret ?_;with_reducible repeat first | refine Qd ?_ | refine Qc ?_
    have R:x.form bl=4:=by
     rw[QQ]
     generalize x.yes.form bl (x.op!=3)=yv;generalize x.no.form bl (x.op==2)=zv;first | (simp[hc12,hc17,hc21,hc27.out,hc29,hc31];done) | (exfalso;have:=hc12;have:=hc17;have:=hc21;have:=hc27.out;have:=hc29;have:=hc31;omega)
    exact Qf (t:=4) h33 rfl rfl ⟨by rw[R],hW3.bel⟩
   have h9:x.op=3:=bne_eq_false_iff_eq.1 hb;have hc34:Hid (x.op=3):=h9;clear h9;clear hb;refine wp_skip ?_;refine hK18 _ _ ?_;refine wp_seq_k fun K35 hK35=>?_;refine wp_seq_k fun K36 hK36=>?_;refine rg h30 fun ops=>?_;clear h30 a30;refine QcG trivial rfl rfl ?_;refine Z0 0 hW3 trivial rfl rfl rfl rfl ?_;refine ZJ trivial rfl rfl ?_;refine sgt trivial rfl rfl rfl ?_;refine St.nil fun a37 h37=>?_;refine hK36 _ _ ?_;refine Qg (t:=36) h37 rfl (fun hb=>?_) (fun hb=>?_)
   ·have hc38:8<x.args.length:=by have:=of_decide_eq_true hb;omega
    clear hb;refine wp_seq_k fun K39 hK39=>?_;refine rg h37 fun ops=>?_;clear h37 a37;refine sa trivial rfl rfl ?_;refine St.nil fun a40 h40=>?_;refine hK39 _ _ ?_;refine wp_ret ?_;with_reducible repeat first | refine Qd ?_ | refine Qc ?_
    have R:x.form bl=2:=by
     rw[QQ]
     generalize x.yes.form bl (x.op!=3)=yv;generalize x.no.form bl (x.op==2)=zv;first | (simp[hc12,hc17,hc21,hc27.out,hc29,hc34.out,hc38];done) | (exfalso;have:=hc12;have:=hc17;have:=hc21;have:=hc27.out;have:=hc29;have:=hc34.out;have:=hc38;omega)
    exact Qf (t:=4) h40 rfl rfl ⟨by rw[R],hW3.bel⟩
   have hc41:¬ (8<x.args.length):=by have:=of_decide_eq_false hb;omega
   clear hb;refine wp_skip ?_;refine hK35 _ _ ?_;refine wp_seq_k fun K42 hK42=>?_;refine wp_seq_k fun K43 hK43=>?_;refine rg h37 fun ops=>?_;clear h37 a37;refine sS 1 4 Tryz.underlying55 rfl infFunc hW3 trivial rfl rfl rfl rfl ?_;refine QdT trivial rfl rfl ?_;refine sS 0 3 Tryz.underlying45 rfl infTo hW3 trivial rfl rfl rfl rfl ?_;refine QaX trivial rfl rfl ?_;refine QN 0 hW3 trivial rfl rfl rfl rfl ?_;refine sne trivial rfl rfl rfl ?_;refine Qgn cf134 hW3 (ZZ (x.op!=3) hs.1 hs.2.1 hbl) trivial rfl rfl rfl rfl ?_;clear hW3;intro w44 hW44;refine sa trivial rfl rfl ?_;refine St.nil fun a45 h45=>?_;refine hK43 _ _ ?_;refine wp_seq_k fun K46 hK46=>?_;refine rg h45 fun ops=>?_;clear h45 a45;refine sm trivial rfl rfl ?_;refine sne trivial rfl rfl rfl ?_;refine St.nil fun a47 h47=>?_;refine hK46 _ _ ?_;refine Qg (t:=45) h47 rfl (fun hb=>?_) (fun hb=>?_)
   ·have h9:¬ (x.yes.form bl (x.op!=3))=0:=bne_iff_ne.1 hb
    have hc48:¬ (x.yes.form bl (x.op!=3))=0:=h9;clear h9;clear hb;refine wp_seq_k fun K49 hK49=>?_;refine rg h47 fun ops=>?_;clear h47 a47;refine sm trivial rfl rfl ?_;refine sa trivial rfl rfl ?_;refine St.nil fun a50 h50=>?_;refine hK49 _ _ ?_;refine wp_ret ?_;with_reducible repeat first | refine Qd ?_ | refine Qc ?_
    have R:x.form bl=x.yes.form bl (x.op!=3):=by
     rw[QQ]
     have hY:=hc48;generalize x.yes.form bl (x.op!=3)=yv at hY ⊢;generalize x.no.form bl (x.op==2)=zv;first | (simp[hc12,hc17,hc21,hc27.out,hc29,hc34.out,hc41,hY];done) | (exfalso;have:=hc12;have:=hc17;have:=hc21;have:=hc27.out;have:=hc29;have:=hc34.out;have:=hc41;omega)
    exact Qf (t:=4) h50 rfl rfl ⟨by rw[R],hW44.bel⟩
   have h9:(x.yes.form bl (x.op!=3))=0:=bne_eq_false_iff_eq.1 hb;have hc51:Hid ((x.yes.form bl (x.op!=3))=0):=h9;clear h9;clear hb;refine wp_skip ?_;refine hK42 _ _ ?_;refine wp_seq_k fun K52 hK52=>?_;refine rg h47 fun ops=>?_;clear h47 a47;refine sS 1 4 Tryz.underlying55 rfl infFunc hW44 trivial rfl rfl rfl rfl ?_;refine Qdf trivial rfl rfl ?_;refine sS 0 3 Tryz.underlying45 rfl infTo hW44 trivial rfl rfl rfl rfl ?_;refine QaX trivial rfl rfl ?_;refine QN 0 hW44 trivial rfl rfl rfl rfl ?_;refine seq trivial rfl rfl rfl ?_;refine Qgn cf134 hW44 (ZZ (x.op==2) hs.2.2.1 hs.2.2.2 hbl) trivial rfl rfl rfl rfl ?_;clear hW44;intro w53 hW53;refine sa trivial rfl rfl ?_;refine St.nil fun a54 h54=>?_;refine hK52 _ _ ?_;refine wp_ret ?_;with_reducible repeat first | refine Qd ?_ | refine Qc ?_
   have R:x.form bl=x.no.form bl (x.op==2):=by
    rw[QQ]
    have hY:=hc51.out;generalize x.yes.form bl (x.op!=3)=yv at hY ⊢;generalize x.no.form bl (x.op==2)=zv;first | (simp[hc12,hc17,hc21,hc27.out,hc29,hc34.out,hc41,hY];done) | (exfalso;have:=hc12;have:=hc17;have:=hc21;have:=hc27.out;have:=hc29;have:=hc34.out;have:=hc41;omega)
   exact Qf (t:=4) h54 rfl rfl ⟨by rw[R],hW53.bel⟩
  rw[hb] at h28
  have hc55:¬ (0<x.args.length):=by have:=of_decide_eq_false hb;omega
  clear hb;refine St.go h28 ?_;clear h28 a28;refine so hg13 rfl rfl rfl rfl ?_;refine so hg13 rfl rfl rfl rfl ?_;refine so hg13 rfl rfl rfl rfl ?_;refine spf ⟨_,hg8,rfl,rfl⟩ rfl rfl rfl ?_;refine spf trivial rfl rfl rfl ?_;refine St.nil fun a56 h56=>?_;refine hK19 _ _ ?_;refine Qbl (t:=32) h56 rfl ?_;refine wp_skip ?_;refine hK18 _ _ ?_;refine wp_seq_k fun K57 hK57=>?_;refine wp_seq_k fun K58 hK58=>?_;refine rg h56 fun ops=>?_;clear h56 a56;refine QcG trivial rfl rfl ?_;refine Z0 0 hW3 trivial rfl rfl rfl rfl ?_;refine ZJ trivial rfl rfl ?_;refine sgt trivial rfl rfl rfl ?_;refine St.nil fun a59 h59=>?_;refine hK58 _ _ ?_;refine Qg (t:=36) h59 rfl (fun hb=>?_) (fun hb=>?_)
  ·have hc60:8<x.args.length:=by have:=of_decide_eq_true hb;omega
   clear hb;refine wp_seq_k fun K61 hK61=>?_;refine rg h59 fun ops=>?_;clear h59 a59;refine sa trivial rfl rfl ?_;refine St.nil fun a62 h62=>?_;refine hK61 _ _ ?_;refine wp_ret ?_;with_reducible repeat first | refine Qd ?_ | refine Qc ?_
   have R:x.form bl=2:=by
    rw[QQ]
    generalize x.yes.form bl (x.op!=3)=yv;generalize x.no.form bl (x.op==2)=zv;first | (simp[hc12,hc17,hc21,hc27.out,hc55,hc60];done) | (exfalso;have:=hc12;have:=hc17;have:=hc21;have:=hc27.out;have:=hc55;have:=hc60;omega)
   exact Qf (t:=4) h62 rfl rfl ⟨by rw[R],hW3.bel⟩
  have hc63:¬ (8<x.args.length):=by have:=of_decide_eq_false hb;omega
  clear hb;refine wp_skip ?_;refine hK57 _ _ ?_;refine wp_seq_k fun K64 hK64=>?_;refine wp_seq_k fun K65 hK65=>?_;refine rg h59 fun ops=>?_;clear h59 a59;refine sS 1 4 Tryz.underlying55 rfl infFunc hW3 trivial rfl rfl rfl rfl ?_;refine QdT trivial rfl rfl ?_;refine sS 0 3 Tryz.underlying45 rfl infTo hW3 trivial rfl rfl rfl rfl ?_;refine QaX trivial rfl rfl ?_;refine QN 0 hW3 trivial rfl rfl rfl rfl ?_;refine sne trivial rfl rfl rfl ?_;refine Qgn cf134 hW3 (ZZ (x.op!=3) hs.1 hs.2.1 hbl) trivial rfl rfl rfl rfl ?_;clear hW3;intro w66 hW66;refine sa trivial rfl rfl ?_;refine St.nil fun a67 h67=>?_;refine hK65 _ _ ?_;refine wp_seq_k fun K68 hK68=>?_;refine rg h67 fun ops=>?_;clear h67 a67;refine sm trivial rfl rfl ?_;refine sne trivial rfl rfl rfl ?_;refine St.nil fun a69 h69=>?_;refine hK68 _ _ ?_;refine Qg (t:=45) h69 rfl (fun hb=>?_) (fun hb=>?_)
  ·have h9:¬ (x.yes.form bl (x.op!=3))=0:=bne_iff_ne.1 hb
   have hc70:¬ (x.yes.form bl (x.op!=3))=0:=h9;clear h9;clear hb;refine wp_seq_k fun K71 hK71=>?_;refine rg h69 fun ops=>?_;clear h69 a69;refine sm trivial rfl rfl ?_;refine sa trivial rfl rfl ?_;refine St.nil fun a72 h72=>?_;refine hK71 _ _ ?_;refine wp_ret ?_;with_reducible repeat first | refine Qd ?_ | refine Qc ?_
   have R:x.form bl=x.yes.form bl (x.op!=3):=by
    rw[QQ]
    have hY:=hc70;generalize x.yes.form bl (x.op!=3)=yv at hY ⊢;generalize x.no.form bl (x.op==2)=zv;first | (simp[hc12,hc17,hc21,hc27.out,hc55,hc63,hY];done) | (exfalso;have:=hc12;have:=hc17;have:=hc21;have:=hc27.out;have:=hc55;have:=hc63;omega)
   exact Qf (t:=4) h72 rfl rfl ⟨by rw[R],hW66.bel⟩
  have h9:(x.yes.form bl (x.op!=3))=0:=bne_eq_false_iff_eq.1 hb;have hc73:Hid ((x.yes.form bl (x.op!=3))=0):=h9;clear h9;clear hb;refine wp_skip ?_;refine hK64 _ _ ?_;refine wp_seq_k fun K74 hK74=>?_;refine rg h69 fun ops=>?_;clear h69 a69;refine sS 1 4 Tryz.underlying55 rfl infFunc hW66 trivial rfl rfl rfl rfl ?_;refine Qdf trivial rfl rfl ?_;refine sS 0 3 Tryz.underlying45 rfl infTo hW66 trivial rfl rfl rfl rfl ?_;refine QaX trivial rfl rfl ?_;refine QN 0 hW66 trivial rfl rfl rfl rfl ?_;refine seq trivial rfl rfl rfl ?_;refine Qgn cf134 hW66 (ZZ (x.op==2) hs.2.2.1 hs.2.2.2 hbl) trivial rfl rfl rfl rfl ?_;clear hW66;intro w75 hW75;refine sa trivial rfl rfl ?_;refine St.nil fun a76 h76=>?_;refine hK74 _ _ ?_;refine wp_ret ?_;with_reducible repeat first | refine Qd ?_ | refine Qc ?_
  have R:x.form bl=x.no.form bl (x.op==2):=by
   rw[QQ]
   have hY:=hc73.out;generalize x.yes.form bl (x.op!=3)=yv at hY ⊢;generalize x.no.form bl (x.op==2)=zv;first | (simp[hc12,hc17,hc21,hc27.out,hc55,hc63,hY];done) | (exfalso;have:=hc12;have:=hc17;have:=hc21;have:=hc27.out;have:=hc55;have:=hc63;omega)
  exact Qf (t:=4) h76 rfl rfl ⟨by rw[R],hW75.bel⟩
 rw[hb] at h20
 have h9:x.a=0:=bne_eq_false_iff_eq.1 hb;have hc77:Hid (x.a=0):=h9;clear h9;clear hb;refine St.go h20 ?_;clear h20 a20;refine so hg3 rfl rfl rfl rfl ?_;refine so hg3 rfl rfl rfl rfl ?_;refine so hg3 rfl rfl rfl rfl ?_;refine spf trivial rfl rfl rfl ?_;refine sm trivial rfl rfl ?_;refine QcG ⟨_,hg8,rfl,rfl⟩ rfl rfl ?_;refine Z0 0 hW3 ⟨_,hg8,rfl,rfl⟩ rfl rfl rfl rfl ?_;refine ZJ ⟨_,hg8,rfl,rfl⟩ rfl rfl ?_;refine sgt ⟨_,hg8,rfl,rfl⟩ rfl rfl rfl ?_;refine sm ⟨_,hg8,rfl,rfl⟩ rfl rfl ?_;intro a78 h78;rcases Bool.eq_false_or_eq_true (decide (0<(x.args.length:Int))) with hb | hb
 ·rw[hb] at h78
  have hc79:0<x.args.length:=by have:=of_decide_eq_true hb;omega
  clear hb;refine St.go h78 ?_;clear h78 a78;refine QaX ⟨_,hg13,rfl,rfl⟩ rfl rfl ?_;refine QN 0 hW3 ⟨_,hg13,rfl,rfl⟩ rfl rfl rfl rfl ?_;refine sne ⟨_,hg13,rfl,rfl⟩ rfl rfl rfl ?_;refine sp ⟨_,hg8,rfl,rfl⟩ rfl rfl rfl ?_;refine spf trivial rfl rfl rfl ?_;refine St.nil fun a80 h80=>?_;refine hK19 _ _ ?_;refine Qg (t:=32) h80 rfl (fun hb=>?_) (fun hb=>?_)
  ·have h9:¬ x.op=3:=bne_iff_ne.1 hb
   have hc81:¬ x.op=3:=h9;clear h9;clear hb;refine wp_seq_k fun K82 hK82=>?_;refine rg h80 fun ops=>?_;clear h80 a80;refine sa trivial rfl rfl ?_;refine St.nil fun a83 h83=>?_;refine hK82 _ _ ?_;refine wp_ret ?_;with_reducible repeat first | refine Qd ?_ | refine Qc ?_
   have R:x.form bl=4:=by
    rw[QQ]
    generalize x.yes.form bl (x.op!=3)=yv;generalize x.no.form bl (x.op==2)=zv;first | (simp[hc12,hc17,hc77.out,hc79,hc81];done) | (exfalso;have:=hc12;have:=hc17;have:=hc77.out;have:=hc79;have:=hc81;omega)
   exact Qf (t:=4) h83 rfl rfl ⟨by rw[R],hW3.bel⟩
  have h9:x.op=3:=bne_eq_false_iff_eq.1 hb;have hc84:Hid (x.op=3):=h9;clear h9;clear hb;refine wp_skip ?_;refine hK18 _ _ ?_;refine wp_seq_k fun K85 hK85=>?_;refine wp_seq_k fun K86 hK86=>?_;refine rg h80 fun ops=>?_;clear h80 a80;refine QcG trivial rfl rfl ?_;refine Z0 0 hW3 trivial rfl rfl rfl rfl ?_;refine ZJ trivial rfl rfl ?_;refine sgt trivial rfl rfl rfl ?_;refine St.nil fun a87 h87=>?_;refine hK86 _ _ ?_;refine Qg (t:=36) h87 rfl (fun hb=>?_) (fun hb=>?_)
  ·have hc88:8<x.args.length:=by have:=of_decide_eq_true hb;omega
   clear hb;refine wp_seq_k fun K89 hK89=>?_;refine rg h87 fun ops=>?_;clear h87 a87;refine sa trivial rfl rfl ?_;refine St.nil fun a90 h90=>?_;refine hK89 _ _ ?_;refine wp_ret ?_;with_reducible repeat first | refine Qd ?_ | refine Qc ?_
   have R:x.form bl=2:=by
    rw[QQ]
    generalize x.yes.form bl (x.op!=3)=yv;generalize x.no.form bl (x.op==2)=zv;first | (simp[hc12,hc17,hc77.out,hc79,hc84.out,hc88];done) | (exfalso;have:=hc12;have:=hc17;have:=hc77.out;have:=hc79;have:=hc84.out;have:=hc88;omega)
   exact Qf (t:=4) h90 rfl rfl ⟨by rw[R],hW3.bel⟩
  have hc91:¬ (8<x.args.length):=by have:=of_decide_eq_false hb;omega
  clear hb;refine wp_skip ?_;refine hK85 _ _ ?_;refine wp_seq_k fun K92 hK92=>?_;refine wp_seq_k fun K93 hK93=>?_;refine rg h87 fun ops=>?_;clear h87 a87;refine sS 1 4 Tryz.underlying55 rfl infFunc hW3 trivial rfl rfl rfl rfl ?_;refine QdT trivial rfl rfl ?_;refine sS 0 3 Tryz.underlying45 rfl infTo hW3 trivial rfl rfl rfl rfl ?_;refine QaX trivial rfl rfl ?_;refine QN 0 hW3 trivial rfl rfl rfl rfl ?_;refine sne trivial rfl rfl rfl ?_;refine Qgn cf134 hW3 (ZZ (x.op!=3) hs.1 hs.2.1 hbl) trivial rfl rfl rfl rfl ?_;clear hW3;intro w94 hW94;refine sa trivial rfl rfl ?_;refine St.nil fun a95 h95=>?_;refine hK93 _ _ ?_;refine wp_seq_k fun K96 hK96=>?_;refine rg h95 fun ops=>?_;clear h95 a95;refine sm trivial rfl rfl ?_;refine sne trivial rfl rfl rfl ?_;refine St.nil fun a97 h97=>?_;refine hK96 _ _ ?_;refine Qg (t:=45) h97 rfl (fun hb=>?_) (fun hb=>?_)
  ·have h9:¬ (x.yes.form bl (x.op!=3))=0:=bne_iff_ne.1 hb
   have hc98:¬ (x.yes.form bl (x.op!=3))=0:=h9;clear h9;clear hb;refine wp_seq_k fun K99 hK99=>?_;refine rg h97 fun ops=>?_;clear h97 a97;refine sm trivial rfl rfl ?_;refine sa trivial rfl rfl ?_;refine St.nil fun a100 h100=>?_;refine hK99 _ _ ?_;refine wp_ret ?_;with_reducible repeat first | refine Qd ?_ | refine Qc ?_
   have R:x.form bl=x.yes.form bl (x.op!=3):=by
    rw[QQ]
    have hY:=hc98;generalize x.yes.form bl (x.op!=3)=yv at hY ⊢;generalize x.no.form bl (x.op==2)=zv;first | (simp[hc12,hc17,hc77.out,hc79,hc84.out,hc91,hY];done) | (exfalso;have:=hc12;have:=hc17;have:=hc77.out;have:=hc79;have:=hc84.out;have:=hc91;omega)
   exact Qf (t:=4) h100 rfl rfl ⟨by rw[R],hW94.bel⟩
  have h9:(x.yes.form bl (x.op!=3))=0:=bne_eq_false_iff_eq.1 hb;have hc101:Hid ((x.yes.form bl (x.op!=3))=0):=h9;clear h9;clear hb;refine wp_skip ?_;refine hK92 _ _ ?_;refine wp_seq_k fun K102 hK102=>?_;refine rg h97 fun ops=>?_;clear h97 a97;refine sS 1 4 Tryz.underlying55 rfl infFunc hW94 trivial rfl rfl rfl rfl ?_;refine Qdf trivial rfl rfl ?_;refine sS 0 3 Tryz.underlying45 rfl infTo hW94 trivial rfl rfl rfl rfl ?_;refine QaX trivial rfl rfl ?_;refine QN 0 hW94 trivial rfl rfl rfl rfl ?_;refine seq trivial rfl rfl rfl ?_;refine Qgn cf134 hW94 (ZZ (x.op==2) hs.2.2.1 hs.2.2.2 hbl) trivial rfl rfl rfl rfl ?_;clear hW94;intro w103 hW103;refine sa trivial rfl rfl ?_;refine St.nil fun a104 h104=>?_;refine hK102 _ _ ?_;refine wp_ret ?_;with_reducible repeat first | refine Qd ?_ | refine Qc ?_
  have R:x.form bl=x.no.form bl (x.op==2):=by
   rw[QQ]
   have hY:=hc101.out;generalize x.yes.form bl (x.op!=3)=yv at hY ⊢;generalize x.no.form bl (x.op==2)=zv;first | (simp[hc12,hc17,hc77.out,hc79,hc84.out,hc91,hY];done) | (exfalso;have:=hc12;have:=hc17;have:=hc77.out;have:=hc79;have:=hc84.out;have:=hc91;omega)
  exact Qf (t:=4) h104 rfl rfl ⟨by rw[R],hW103.bel⟩
 rw[hb] at h78
 have hc105:¬ (0<x.args.length):=by have:=of_decide_eq_false hb;omega
 clear hb;refine St.go h78 ?_;clear h78 a78;refine so hg13 rfl rfl rfl rfl ?_;refine so hg13 rfl rfl rfl rfl ?_;refine so hg13 rfl rfl rfl rfl ?_;refine spf ⟨_,hg8,rfl,rfl⟩ rfl rfl rfl ?_;refine spf trivial rfl rfl rfl ?_;refine St.nil fun a106 h106=>?_;refine hK19 _ _ ?_;refine Qbl (t:=32) h106 rfl ?_;refine wp_skip ?_;refine hK18 _ _ ?_;refine wp_seq_k fun K107 hK107=>?_;refine wp_seq_k fun K108 hK108=>?_;refine rg h106 fun ops=>?_;clear h106 a106;refine QcG trivial rfl rfl ?_;refine Z0 0 hW3 trivial rfl rfl rfl rfl ?_;refine ZJ trivial rfl rfl ?_;refine sgt trivial rfl rfl rfl ?_;refine St.nil fun a109 h109=>?_;refine hK108 _ _ ?_;refine Qg (t:=36) h109 rfl (fun hb=>?_) (fun hb=>?_)
 ·have hc110:8<x.args.length:=by have:=of_decide_eq_true hb;omega
  clear hb;refine wp_seq_k fun K111 hK111=>?_;refine rg h109 fun ops=>?_;clear h109 a109;refine sa trivial rfl rfl ?_;refine St.nil fun a112 h112=>?_;refine hK111 _ _ ?_;refine wp_ret ?_;with_reducible repeat first | refine Qd ?_ | refine Qc ?_
  have R:x.form bl=2:=by
   rw[QQ]
   generalize x.yes.form bl (x.op!=3)=yv;generalize x.no.form bl (x.op==2)=zv;first | (simp[hc12,hc17,hc77.out,hc105,hc110];done) | (exfalso;have:=hc12;have:=hc17;have:=hc77.out;have:=hc105;have:=hc110;omega)
  exact Qf (t:=4) h112 rfl rfl ⟨by rw[R],hW3.bel⟩
 have hc113:¬ (8<x.args.length):=by have:=of_decide_eq_false hb;omega
 clear hb;refine wp_skip ?_;refine hK107 _ _ ?_;refine wp_seq_k fun K114 hK114=>?_;refine wp_seq_k fun K115 hK115=>?_;refine rg h109 fun ops=>?_;clear h109 a109;refine sS 1 4 Tryz.underlying55 rfl infFunc hW3 trivial rfl rfl rfl rfl ?_;refine QdT trivial rfl rfl ?_;refine sS 0 3 Tryz.underlying45 rfl infTo hW3 trivial rfl rfl rfl rfl ?_;refine QaX trivial rfl rfl ?_;refine QN 0 hW3 trivial rfl rfl rfl rfl ?_;refine sne trivial rfl rfl rfl ?_;refine Qgn cf134 hW3 (ZZ (x.op!=3) hs.1 hs.2.1 hbl) trivial rfl rfl rfl rfl ?_;clear hW3;intro w116 hW116;refine sa trivial rfl rfl ?_;refine St.nil fun a117 h117=>?_;refine hK115 _ _ ?_;refine wp_seq_k fun K118 hK118=>?_;refine rg h117 fun ops=>?_;clear h117 a117;refine sm trivial rfl rfl ?_;refine sne trivial rfl rfl rfl ?_;refine St.nil fun a119 h119=>?_;refine hK118 _ _ ?_;refine Qg (t:=45) h119 rfl (fun hb=>?_) (fun hb=>?_)
 ·have h9:¬ (x.yes.form bl (x.op!=3))=0:=bne_iff_ne.1 hb
  have hc120:¬ (x.yes.form bl (x.op!=3))=0:=h9;clear h9;clear hb;refine wp_seq_k fun K121 hK121=>?_;refine rg h119 fun ops=>?_;clear h119 a119;refine sm trivial rfl rfl ?_;refine sa trivial rfl rfl ?_;refine St.nil fun a122 h122=>?_;refine hK121 _ _ ?_;refine wp_ret ?_;with_reducible repeat first | refine Qd ?_ | refine Qc ?_
  have R:x.form bl=x.yes.form bl (x.op!=3):=by
   rw[QQ]
   have hY:=hc120;generalize x.yes.form bl (x.op!=3)=yv at hY ⊢;generalize x.no.form bl (x.op==2)=zv;first | (simp[hc12,hc17,hc77.out,hc105,hc113,hY];done) | (exfalso;have:=hc12;have:=hc17;have:=hc77.out;have:=hc105;have:=hc113;omega)
  exact Qf (t:=4) h122 rfl rfl ⟨by rw[R],hW116.bel⟩
 have h9:(x.yes.form bl (x.op!=3))=0:=bne_eq_false_iff_eq.1 hb;have hc123:Hid ((x.yes.form bl (x.op!=3))=0):=h9;clear h9;clear hb;refine wp_skip ?_;refine hK114 _ _ ?_;refine wp_seq_k fun K124 hK124=>?_;refine rg h119 fun ops=>?_;clear h119 a119;refine sS 1 4 Tryz.underlying55 rfl infFunc hW116 trivial rfl rfl rfl rfl ?_;refine Qdf trivial rfl rfl ?_;refine sS 0 3 Tryz.underlying45 rfl infTo hW116 trivial rfl rfl rfl rfl ?_;refine QaX trivial rfl rfl ?_;refine QN 0 hW116 trivial rfl rfl rfl rfl ?_;refine seq trivial rfl rfl rfl ?_;refine Qgn cf134 hW116 (ZZ (x.op==2) hs.2.2.1 hs.2.2.2 hbl) trivial rfl rfl rfl rfl ?_;clear hW116;intro w125 hW125;refine sa trivial rfl rfl ?_;refine St.nil fun a126 h126=>?_;refine hK124 _ _ ?_;refine wp_ret ?_;with_reducible repeat first | refine Qd ?_ | refine Qc ?_
 have R:x.form bl=x.no.form bl (x.op==2):=by
  rw[QQ]
  have hY:=hc123.out;generalize x.yes.form bl (x.op!=3)=yv at hY ⊢;generalize x.no.form bl (x.op==2)=zv;first | (simp[hc12,hc17,hc77.out,hc105,hc113,hY];done) | (exfalso;have:=hc12;have:=hc17;have:=hc77.out;have:=hc105;have:=hc113;omega)
 exact Qf (t:=4) h126 rfl rfl ⟨by rw[R],hW125.bel⟩
theorem Q7 (x:Int) (h:-4611686018427387904≤x∧x<4611686018427387904):IntKind.i64.wrap x=x:=by
 by_cases hx:0≤x
 ·have e1:x%2 ^ 64=x:=by omega
  simp only[IntKind.wrap,IntKind.signed,IntKind.bits,e1,Bool.true_and]
  rw[if_neg (by simp only[decide_eq_true_eq];omega)]
 ·have e1:x%2 ^ 64=x+2 ^ 64:=by omega
  simp only[IntKind.wrap,IntKind.signed,IntKind.bits,e1,Bool.true_and]
  rw[if_pos (by simp only[decide_eq_true_eq];omega)]
  omega
theorem ZX {f:Nat}{w:World}(h:f<1000000) :
 Rd Tryz.prog 64 #[.int .i64 (f:Int)] w (.int .i64 (10000*(f:Int)+9999)):=by
 refine Qq (n:=6) Tryz.func64 rfl rfl rfl ?_;intro a hF;have hW:=Wd.start w;replace hF:Fr 6 a [(0,.int .i64 (f:Int))]:=hF;refine wp_seq_k fun K1 hK1=>?_;refine rg hF fun ops=>?_;clear hF a;refine sa trivial rfl rfl ?_;refine St.nil fun a2 h2=>?_;refine hK1 _ _ ?_;refine wp_seq_k fun K3 hK3=>?_;refine rg h2 fun ops=>?_;clear h2 a2;refine sm trivial rfl rfl ?_;intro a4 h4;refine QG (t:=4) (v:=.int .i64 (10000*(f:Int))) (w':=w) h4 rfl rfl rfl (fun K hK=>?_) ?_
 ·have k0:a4.tmps.getD 3 undef=.int .i64 (f:Int):=h4.sl 3 _ rfl
  have hwr:IntKind.i64.wrap (10000*(f:Int))=10000*(f:Int):=Q7 _ (by omega);go_simp;exact hK
 clear h4;intro a5 hF5;refine QG (t:=5) (v:=.int .i64 ((10000*(f:Int))+9999)) (w':=w) hF5 rfl rfl rfl (fun K hK=>?_) ?_
 ·have k0:a5.tmps.getD 4 undef=.int .i64 (10000*(f:Int)):=hF5.sl 4 _ rfl
  have hwr:IntKind.i64.wrap ((10000*(f:Int))+9999)=(10000*(f:Int))+9999:=Q7 _ (by omega);go_simp;exact hK
 clear hF5;intro a6 hF6;refine St.go hF6 ?_;clear hF6 a6;refine sa trivial rfl rfl ?_;refine St.nil fun a7 h7=>?_;refine hK3 _ _ ?_;refine wp_ret ?_;with_reducible repeat first | refine Qd ?_ | refine Qc ?_
 have R:10000*(f:Int)+9999=((10000*(f:Int))+9999):=by omega
 exact Qf (t:=2) h7 rfl rfl ⟨by rw[R],hW.bel⟩
theorem ZW {f b:Nat}{w:World}(h:f<1000000∧b<1000000) :
 Rd Tryz.prog 108 #[.int .i64 (f:Int),.int .i64 (b:Int)] w (.int .i64 (10000*(f:Int)+100*(b:Int)+90)):=by
 refine Qq (n:=11) Tryz.func108 rfl rfl rfl ?_;intro a hF;have hW:=Wd.start w;replace hF:Fr 11 a [(0,.int .i64 (f:Int)),(1,.int .i64 (b:Int))]:=hF;refine wp_seq_k fun K1 hK1=>?_;refine rg hF fun ops=>?_;clear hF a;refine sa trivial rfl rfl ?_;refine St.nil fun a2 h2=>?_;refine hK1 _ _ ?_;refine wp_seq_k fun K3 hK3=>?_;refine rg h2 fun ops=>?_;clear h2 a2;refine sm trivial rfl rfl ?_;intro a4 h4;refine QG (t:=6) (v:=.int .i64 (10000*(f:Int))) (w':=w) h4 rfl rfl rfl (fun K hK=>?_) ?_
 ·have k0:a4.tmps.getD 5 undef=.int .i64 (f:Int):=h4.sl 5 _ rfl
  have hwr:IntKind.i64.wrap (10000*(f:Int))=10000*(f:Int):=Q7 _ (by omega);go_simp;exact hK
 clear h4;intro a5 hF5;refine St.go hF5 ?_;clear hF5 a5;refine sm trivial rfl rfl ?_;intro a6 h6;refine QG (t:=8) (v:=.int .i64 (100*(b:Int))) (w':=w) h6 rfl rfl rfl (fun K hK=>?_) ?_
 ·have k0:a6.tmps.getD 7 undef=.int .i64 (b:Int):=h6.sl 7 _ rfl
  have hwr:IntKind.i64.wrap (100*(b:Int))=100*(b:Int):=Q7 _ (by omega);go_simp;exact hK
 clear h6;intro a7 hF7;refine QG (t:=9) (v:=.int .i64 ((10000*(f:Int))+(100*(b:Int)))) (w':=w) hF7 rfl rfl rfl (fun K hK=>?_) ?_
 ·have k0:a7.tmps.getD 6 undef=.int .i64 (10000*(f:Int)):=hF7.sl 6 _ rfl
  have k1:a7.tmps.getD 8 undef=.int .i64 (100*(b:Int)):=hF7.sl 8 _ rfl;have hwr:IntKind.i64.wrap ((10000*(f:Int))+(100*(b:Int)))=(10000*(f:Int))+(100*(b:Int)):=Q7 _ (by omega);go_simp;exact hK
 clear hF7;intro a8 hF8;refine QG (t:=10) (v:=.int .i64 (((10000*(f:Int))+(100*(b:Int)))+90)) (w':=w) hF8 rfl rfl rfl (fun K hK=>?_) ?_
 ·have k0:a8.tmps.getD 9 undef=.int .i64 ((10000*(f:Int))+(100*(b:Int))):=hF8.sl 9 _ rfl
  have hwr:IntKind.i64.wrap (((10000*(f:Int))+(100*(b:Int)))+90)=((10000*(f:Int))+(100*(b:Int)))+90:=Q7 _ (by omega);go_simp;exact hK
 clear hF8;intro a9 hF9;refine St.go hF9 ?_;clear hF9 a9;refine sa trivial rfl rfl ?_;refine St.nil fun a10 h10=>?_;refine hK3 _ _ ?_;refine wp_ret ?_;with_reducible repeat first | refine Qd ?_ | refine Qc ?_
 have R:10000*(f:Int)+100*(b:Int)+90=(((10000*(f:Int))+(100*(b:Int)))+90):=by omega
 exact Qf (t:=4) h10 rfl rfl ⟨by rw[R],hW.bel⟩
theorem QeT {f b:Nat}{w:World}(h:f<1000000∧b<1000000) :
 Rd Tryz.prog 110 #[.int .i64 (f:Int),.int .i64 (b:Int)] w (.int .i64 (10000*(f:Int)+100*(b:Int)+91)):=by
 refine Qq (n:=11) Tryz.func110 rfl rfl rfl ?_;intro a hF;have hW:=Wd.start w;replace hF:Fr 11 a [(0,.int .i64 (f:Int)),(1,.int .i64 (b:Int))]:=hF;refine wp_seq_k fun K1 hK1=>?_;refine rg hF fun ops=>?_;clear hF a;refine sa trivial rfl rfl ?_;refine St.nil fun a2 h2=>?_;refine hK1 _ _ ?_;refine wp_seq_k fun K3 hK3=>?_;refine rg h2 fun ops=>?_;clear h2 a2;refine sm trivial rfl rfl ?_;intro a4 h4;refine QG (t:=6) (v:=.int .i64 (10000*(f:Int))) (w':=w) h4 rfl rfl rfl (fun K hK=>?_) ?_
 ·have k0:a4.tmps.getD 5 undef=.int .i64 (f:Int):=h4.sl 5 _ rfl
  have hwr:IntKind.i64.wrap (10000*(f:Int))=10000*(f:Int):=Q7 _ (by omega);go_simp;exact hK
 clear h4;intro a5 hF5;refine St.go hF5 ?_;clear hF5 a5;refine sm trivial rfl rfl ?_;intro a6 h6;refine QG (t:=8) (v:=.int .i64 (100*(b:Int))) (w':=w) h6 rfl rfl rfl (fun K hK=>?_) ?_
 ·have k0:a6.tmps.getD 7 undef=.int .i64 (b:Int):=h6.sl 7 _ rfl
  have hwr:IntKind.i64.wrap (100*(b:Int))=100*(b:Int):=Q7 _ (by omega);go_simp;exact hK
 clear h6;intro a7 hF7;refine QG (t:=9) (v:=.int .i64 ((10000*(f:Int))+(100*(b:Int)))) (w':=w) hF7 rfl rfl rfl (fun K hK=>?_) ?_
 ·have k0:a7.tmps.getD 6 undef=.int .i64 (10000*(f:Int)):=hF7.sl 6 _ rfl
  have k1:a7.tmps.getD 8 undef=.int .i64 (100*(b:Int)):=hF7.sl 8 _ rfl;have hwr:IntKind.i64.wrap ((10000*(f:Int))+(100*(b:Int)))=(10000*(f:Int))+(100*(b:Int)):=Q7 _ (by omega);go_simp;exact hK
 clear hF7;intro a8 hF8;refine QG (t:=10) (v:=.int .i64 (((10000*(f:Int))+(100*(b:Int)))+91)) (w':=w) hF8 rfl rfl rfl (fun K hK=>?_) ?_
 ·have k0:a8.tmps.getD 9 undef=.int .i64 ((10000*(f:Int))+(100*(b:Int))):=hF8.sl 9 _ rfl
  have hwr:IntKind.i64.wrap (((10000*(f:Int))+(100*(b:Int)))+91)=((10000*(f:Int))+(100*(b:Int)))+91:=Q7 _ (by omega);go_simp;exact hK
 clear hF8;intro a9 hF9;refine St.go hF9 ?_;clear hF9 a9;refine sa trivial rfl rfl ?_;refine St.nil fun a10 h10=>?_;refine hK3 _ _ ?_;refine wp_ret ?_;with_reducible repeat first | refine Qd ?_ | refine Qc ?_
 have R:10000*(f:Int)+100*(b:Int)+91=(((10000*(f:Int))+(100*(b:Int)))+91):=by omega
 exact Qf (t:=4) h10 rfl rfl ⟨by rw[R],hW.bel⟩
theorem Qe0 {f b i:Nat}{w:World}(h:f<1000000∧b<1000000∧i<1000000) :
 Rd Tryz.prog 109 #[.int .i64 (f:Int),.int .i64 (b:Int),.int .i64 (i:Int)] w (.int .i64 (10000*(f:Int)+100*(b:Int)+(i:Int))):=by
 refine Qq (n:=14) Tryz.func109 rfl rfl rfl ?_;intro a hF;have hW:=Wd.start w;replace hF:Fr 14 a [(0,.int .i64 (f:Int)),(1,.int .i64 (b:Int)),(2,.int .i64 (i:Int))]:=hF;refine wp_seq_k fun K1 hK1=>?_;refine rg hF fun ops=>?_;clear hF a;refine sa trivial rfl rfl ?_;refine St.nil fun a2 h2=>?_;refine hK1 _ _ ?_;refine wp_seq_k fun K3 hK3=>?_;refine rg h2 fun ops=>?_;clear h2 a2;refine sm trivial rfl rfl ?_;intro a4 h4;refine QG (t:=8) (v:=.int .i64 (10000*(f:Int))) (w':=w) h4 rfl rfl rfl (fun K hK=>?_) ?_
 ·have k0:a4.tmps.getD 7 undef=.int .i64 (f:Int):=h4.sl 7 _ rfl
  have hwr:IntKind.i64.wrap (10000*(f:Int))=10000*(f:Int):=Q7 _ (by omega);go_simp;exact hK
 clear h4;intro a5 hF5;refine St.go hF5 ?_;clear hF5 a5;refine sm trivial rfl rfl ?_;intro a6 h6;refine QG (t:=10) (v:=.int .i64 (100*(b:Int))) (w':=w) h6 rfl rfl rfl (fun K hK=>?_) ?_
 ·have k0:a6.tmps.getD 9 undef=.int .i64 (b:Int):=h6.sl 9 _ rfl
  have hwr:IntKind.i64.wrap (100*(b:Int))=100*(b:Int):=Q7 _ (by omega);go_simp;exact hK
 clear h6;intro a7 hF7;refine QG (t:=11) (v:=.int .i64 ((10000*(f:Int))+(100*(b:Int)))) (w':=w) hF7 rfl rfl rfl (fun K hK=>?_) ?_
 ·have k0:a7.tmps.getD 8 undef=.int .i64 (10000*(f:Int)):=hF7.sl 8 _ rfl
  have k1:a7.tmps.getD 10 undef=.int .i64 (100*(b:Int)):=hF7.sl 10 _ rfl;have hwr:IntKind.i64.wrap ((10000*(f:Int))+(100*(b:Int)))=(10000*(f:Int))+(100*(b:Int)):=Q7 _ (by omega);go_simp;exact hK
 clear hF7;intro a8 hF8;refine St.go hF8 ?_;clear hF8 a8;refine sm trivial rfl rfl ?_;intro a9 h9;refine QG (t:=13) (v:=.int .i64 (((10000*(f:Int))+(100*(b:Int)))+(i:Int))) (w':=w) h9 rfl rfl rfl (fun K hK=>?_) ?_
 ·have k0:a9.tmps.getD 11 undef=.int .i64 ((10000*(f:Int))+(100*(b:Int))):=h9.sl 11 _ rfl
  have k1:a9.tmps.getD 12 undef=.int .i64 (i:Int):=h9.sl 12 _ rfl;have hwr:IntKind.i64.wrap (((10000*(f:Int))+(100*(b:Int)))+(i:Int))=((10000*(f:Int))+(100*(b:Int)))+(i:Int):=Q7 _ (by omega);go_simp;exact hK
 clear h9;intro a10 hF10;refine St.go hF10 ?_;clear hF10 a10;refine sa trivial rfl rfl ?_;refine St.nil fun a11 h11=>?_;refine hK3 _ _ ?_;refine wp_ret ?_;with_reducible repeat first | refine Qd ?_ | refine Qc ?_
 have R:10000*(f:Int)+100*(b:Int)+(i:Int)=(((10000*(f:Int))+(100*(b:Int)))+(i:Int)):=by omega
 exact Qf (t:=6) h11 rfl rfl ⟨by rw[R],hW.bel⟩
theorem underEnd:∃ fs,Tryz.prog.underlying 47=some (.struct fs):=⟨_,Tryz.underlying47⟩
theorem sizeEnd:(Tryz.prog.info? 47).map (·.size)=some 9:=by kernel_rfl
abbrev ZO (x:Z3) (e:EP):Array Value:=#[.int .i64 x.op,.int .i64 x.a,.int .i64 x.yes.block,.slice e.pYR x.yes.regs.length e.cYR,.slice e.pYA x.yes.args.length e.cYA,.int .i64 x.no.block,.slice e.pNR x.no.regs.length e.cNR,.slice e.pNA x.no.args.length e.cNA,.slice e.pA x.args.length e.cA]
structure Qbn (w:World) (Q:Nat→Prop) (x:Z3) (e:EP):Prop where
 yr:intsL.In w Q x.yes.regs [.slice e.pYR x.yes.regs.length e.cYR]
 ya:intsL.In w Q x.yes.args [.slice e.pYA x.yes.args.length e.cYA]
 nr:intsL.In w Q x.no.regs [.slice e.pNR x.no.regs.length e.cNR]
 na:intsL.In w Q x.no.args [.slice e.pNA x.no.args.length e.cNA]
 ar:intsL.In w Q x.args [.slice e.pA x.args.length e.cA]
theorem Qbn.below {w w':World}{Q:Nat→Prop}{x:Z3}{e:EP}(h:Qbn w Q x e) (k:Below w.heap.size w w'):Qbn w' Q x e :=
 ⟨Lay.below h.yr k,Lay.below h.ya k,Lay.below h.nr k,Lay.below h.na k,Lay.below h.ar k⟩
structure EnS (w wc:World) (b X:Nat) (O Q:Nat→Prop) (s:JSt) (x:Z3) (e:EP):Prop where
 known:KAt wc b O s
 box:Blk wc X (ZO x e) 47
 lists:Qbn wc Q x e
 bel:Below w.heap.size w wc
theorem EnS.below {w wc w':World}{b X:Nat}{O Q:Nat→Prop}{s:JSt}{x:Z3}{e:EP}(h:EnS w wc b X O Q s x e) (k:Below wc.heap.size wc w'):EnS w w' b X O Q s x e :=
 ⟨h.known.below k,(k.block X (lt_of_block h.box)).trans h.box,h.lists.below k,h.bel.trans (k.mono h.bel.size)⟩
theorem EnS.range {w wc:World}{b X:Nat}{O Q:Nat→Prop}{s:JSt}{x:Z3}{e:EP}(h:EnS w wc b X O Q s x e):wc.rangeAt X 0 (ZO x e).toList:=fun j v hj=>by
 rw[Nat.zero_add]
 rw[Array.getElem?_toList] at hj
 exact Qb h.box j v hj
theorem EnS.cells {w wc:World}{b X:Nat}{O Q:Nat→Prop}{s:JSt}{x:Z3}{e:EP}(h:EnS w wc b X O Q s x e):wc.cell? ⟨X,0,none⟩=some (.int .i64 x.op)∧wc.cell? ⟨X,1,none⟩=some (.int .i64 x.a)∧wc.cell? ⟨X,2,none⟩=some (.int .i64 x.yes.block)∧wc.cell? ⟨X,3,none⟩=some (.slice e.pYR x.yes.regs.length e.cYR)∧wc.cell? ⟨X,4,none⟩=some (.slice e.pYA x.yes.args.length e.cYA)∧wc.cell? ⟨X,5,none⟩=some (.int .i64 x.no.block)∧wc.cell? ⟨X,6,none⟩=some (.slice e.pNR x.no.regs.length e.cNR)∧wc.cell? ⟨X,7,none⟩=some (.slice e.pNA x.no.args.length e.cNA)∧wc.cell? ⟨X,8,none⟩=some (.slice e.pA x.args.length e.cA) :=
 ⟨Qb h.box 0 _ rfl,Qb h.box 1 _ rfl,Qb h.box 2 _ rfl,Qb h.box 3 _ rfl,Qb h.box 4 _ rfl,Qb h.box 5 _ rfl,Qb h.box 6 _ rfl,Qb h.box 7 _ rfl,Qb h.box 8 _ rfl⟩
theorem Qj2 (n:Nat):(Qbo n).length=n:=by unfold Qbo;simp
theorem Qjf (n:Nat):Qbo (n+1)=Qbo n++[(n:Int)]:=by unfold Qbo;rw[List.range_succ,List.map_append];rfl
theorem ZB {nb:Nat}{t:MTo}(h:t.form nb true=0):(0≤t.block∧t.block<nb)∧t.regs.length≤16∧t.args.length≤8:=by
 unfold MTo.form at h;rw[if_neg (by simp)] at h
 split at h
 ·cases h
 split at h
 ·cases h
 omega
def QlT (b X fl c1 fm c2 bl c3:Nat) (fr cf:Int) (a1 a2 a3:Option Addr) (x:Z3) (e:EP) (t:Tmp) (v:Value) (w:World):Prop :=
 v=(([(0,.pointer (some ⟨b,0,none⟩)),(3,.pointer (some ⟨X,0,none⟩)),(13,.pointer (some ⟨b,0,none⟩)),(14,.pointer (some ⟨b,0,none⟩)),(15,.pointer (some ⟨b,1,none⟩)),(16,.agg #[.int .i64 fr,.slice a1 fl c1,.slice a2 fm c2,.slice a3 bl c3]),(17,.agg (ZO x e)),(18,.int .i64 cf),(5,.int .i64 cf)]:List (Tmp × Value)).lookup t).getD undef
theorem ke1 {w6:World}{b X fl c1 fm c2 bl c3:Nat}{fr cf:Int}{a1 a2 a3:Option Addr}{x:Z3}{e:EP}(q1:w6.cell? ⟨b,1,none⟩=some (.int .i64 fr)) (q2:w6.cell? ⟨b,2,none⟩=some (.slice a1 fl c1)) (q3:w6.cell? ⟨b,3,none⟩=some (.slice a2 fm c2)) (q4:w6.cell? ⟨b,4,none⟩=some (.slice a3 bl c3)) (HX:Hid (w6.rangeAt X 0 (ZO x e).toList)) (HS:Hid (x.yes.regs.length<2305843009213693952∧x.yes.args.length<2305843009213693952∧x.no.regs.length<2305843009213693952∧x.no.args.length<2305843009213693952)) (hbl:bl<2305843009213693952) (HC:Hid (x.form bl=cf))
 (a:Act) (m:Nat) (hn:a.tmps.size=m) (hn':97≤m) (h0:a.tmps.getD 0 undef=.pointer (some ⟨b,0,none⟩)) (h3:a.tmps.getD 3 undef=.pointer (some ⟨X,0,none⟩)) :
 Code.wp Tryz.prog ((Tryz.f32.body.bind (Ql 1)).getD .skip) (fun e a' w'=>e=.normal∧∃ vs,a'=Ze a vs [13,14,15,16,17,18,5]∧vs 5=.int .i64 cf∧Below w6.heap.size w6 w') a w6:=by
 conv=>arg 2;whnf
 refine QF (QlT b X fl c1 fm c2 bl c3 fr cf a1 a2 a3 x e) (fun w=>Below w6.heap.size w6 w) (fun w w'=>Below w.heap.size w w') (outs:=[0,3]) (gs:=[]) (bs:=[true,true,true,true,true,true,true]) (by kernel_rfl) (n:=97) hn hn' (by kernel_rfl) ?hR ?hG (Qi (Below.refl _ _) 1) ⟨h0,h3,trivial⟩ ?hA ?hend
 case hR=>exact fun t v w w' _ h=>h
 case hG=>exact trivial
 case hend=>exact fun vs w' hW hk=>⟨rfl,vs,rfl,hk 5 (by kernel_rfl),hW⟩
 case hA =>
  refine⟨fun a w hW hk K hK=>?_,?_⟩
  ·obtain⟨k0,-⟩:=hk
   have k0:a.tmps.getD 0 undef=.pointer (some ⟨b,0,none⟩):=k0;go_simp;exact hK _ _ (Below.refl _ _) hW rfl
  refine⟨fun a w hW hk K hK=>?_,?_⟩
  ·obtain⟨k0,-⟩:=hk
   have k0:a.tmps.getD 13 undef=.pointer (some ⟨b,0,none⟩):=k0;go_simp;exact hK _ _ (Below.refl _ _) hW rfl
  refine⟨fun a w hW hk K hK=>?_,?_⟩
  ·obtain⟨k0,-⟩:=hk
   have k0:a.tmps.getD 14 undef=.pointer (some ⟨b,0,none⟩):=k0;go_simp;exact hK _ _ (Below.refl _ _) hW rfl
  refine⟨fun a w hW hk K hK=>?_,?_⟩
  ·obtain⟨k0,-⟩:=hk
   have k0:a.tmps.getD 15 undef=.pointer (some ⟨b,1,none⟩):=k0;have c1:=Qk q1 hW;have c2:=Qk q2 hW;have c3:=Qk q3 hW;have c4:=Qk q4 hW;go_simp;exact hK _ _ (Below.refl _ _) hW rfl
  refine⟨fun a w hW hk K hK=>?_,?_⟩
  ·obtain⟨k0,-⟩:=hk
   have k0:a.tmps.getD 3 undef=.pointer (some ⟨X,0,none⟩):=k0;obtain⟨fs,hfs⟩:=underEnd
   refine wp_load_mid 47 (.tmp 3) rfl X 0 k0 (ZO x e).toList _ (Zf HX.out hW) hfs rfl sizeEnd ?_;exact hK _ _ (Below.refl _ _) hW rfl
  refine⟨fun a w hW hk K hK=>?_,?_⟩
  ·obtain⟨k0,k1,-⟩:=hk
   have k0:a.tmps.getD 16 undef=.agg #[.int .i64 fr,.slice a1 fl c1,.slice a2 fm c2,.slice a3 bl c3]:=k0;have k1:a.tmps.getD 17 undef=.agg (ZO x e):=k1;go_simp;refine Calls.mono (QbW (x:=x) (e:=e) HS.out hbl) ?_;rw[HC.out];rintro r7 w7 ⟨rfl,b7⟩;go_simp;exact hK _ _ b7 (hW.trans (b7.mono hW.size)) rfl
  refine⟨fun a w hW hk K hK=>?_,?_⟩
  ·obtain⟨k0,-⟩:=hk
   have k0:a.tmps.getD 18 undef=.int .i64 cf:=k0;go_simp;exact hK _ _ (Below.refl _ _) hW rfl
  trivial
def Qlu (b X na ca fm c2 on oc:Nat) (p:Int) (pa a2 oa:Option Addr) (t:Tmp) (v:Value) (w:World):Prop :=
 v=(([(0,.pointer (some ⟨b,0,none⟩)),(3,.pointer (some ⟨X,0,none⟩)),(8,.slice oa on oc),(63,.pointer (some ⟨b,0,none⟩)),(64,.pointer (some ⟨X,8,none⟩)),(65,.slice pa na ca),(66,.pointer (some ⟨b,0,none⟩)),(67,.pointer (some ⟨b,0,none⟩)),(68,.pointer (some ⟨b,1,none⟩)),(69,.pointer (some ⟨b,3,none⟩)),(70,.slice a2 fm c2),(71,.slice oa on oc),(72,.int .i64 p),(10,.int .i64 p)]:List (Tmp × Value)).lookup t).getD undef
theorem QlJ {w6:World}{b X na ca fm c2 on oc:Nat}{p:Int}{pa a2 oa:Option Addr}{O Q1 Q2 Q3:Nat→Prop}{s:JSt}{l regs:List Int}{ts:List (TT 6)}(x8:w6.cell? ⟨X,8,none⟩=some (.slice pa na ca)) (q3:w6.cell? ⟨b,3,none⟩=some (.slice a2 fm c2)) (HN:Hid (l.length=na)) (HM:Hid (ts.length=fm)) (HO:Hid (regs.length=on)) (hn2:na≤100000) (hm2:fm≤100000) (hL:s.L.length≤80) (HA:Hid (intsL.In w6 Q1 l [.slice pa na ca])) (HT:Hid ((Qp 6).In w6 Q2 ts [.slice a2 fm c2])) (HR:Hid (intsL.In w6 Q3 regs [.slice oa on oc])) (HCC:Hid (∀ t∈ts,t.count≤2000)) (HK:Hid (KAt w6 b O s)) (HP:Hid (s.args l ts regs=p))
 (a:Act) (m:Nat) (hn:a.tmps.size=m) (hn':97≤m) (h0:a.tmps.getD 0 undef=.pointer (some ⟨b,0,none⟩)) (h3:a.tmps.getD 3 undef=.pointer (some ⟨X,0,none⟩)) (h8:a.tmps.getD 8 undef=.slice oa on oc) :
 Code.wp Tryz.prog ((Tryz.f32.body.bind (Ql 20)).getD .skip) (fun e a' w'=>e=.normal∧∃ vs,a'=Ze a vs [63,64,65,66,67,68,69,70,71,72,10]∧vs 10=.int .i64 p∧Below w6.heap.size w6 w') a w6:=by
 conv=>arg 2;whnf
 refine QF (Qlu b X na ca fm c2 on oc p pa a2 oa) (fun w=>Below w6.heap.size w6 w) (fun w w'=>Below w.heap.size w w') (outs:=[0,3,8]) (gs:=[]) (bs:=[true,true,true,true,true,true,true,true,true,true,true]) (by kernel_rfl) (n:=97) hn hn' (by kernel_rfl) ?hR ?hG (Qi (Below.refl _ _) 1) ⟨h0,h3,h8,trivial⟩ ?hA ?hend
 case hR=>exact fun t v w w' _ h=>h
 case hG=>exact trivial
 case hend=>exact fun vs w' hW hk=>⟨rfl,vs,rfl,hk 10 (by kernel_rfl),hW⟩
 case hA =>
  refine⟨fun a w hW hk K hK=>?_,?_⟩
  ·obtain⟨k0,-⟩:=hk
   have k0:a.tmps.getD 0 undef=.pointer (some ⟨b,0,none⟩):=k0;go_simp;exact hK _ _ (Below.refl _ _) hW rfl
  refine⟨fun a w hW hk K hK=>?_,?_⟩
  ·obtain⟨k0,-⟩:=hk
   have k0:a.tmps.getD 3 undef=.pointer (some ⟨X,0,none⟩):=k0;go_simp;exact hK _ _ (Below.refl _ _) hW rfl
  refine⟨fun a w hW hk K hK=>?_,?_⟩
  ·obtain⟨k0,-⟩:=hk
   have k0:a.tmps.getD 64 undef=.pointer (some ⟨X,8,none⟩):=k0;have c1:=Qk x8 hW;go_simp;exact hK _ _ (Below.refl _ _) hW rfl
  refine⟨fun a w hW hk K hK=>?_,?_⟩
  ·obtain⟨k0,-⟩:=hk
   have k0:a.tmps.getD 0 undef=.pointer (some ⟨b,0,none⟩):=k0;go_simp;exact hK _ _ (Below.refl _ _) hW rfl
  refine⟨fun a w hW hk K hK=>?_,?_⟩
  ·obtain⟨k0,-⟩:=hk
   have k0:a.tmps.getD 66 undef=.pointer (some ⟨b,0,none⟩):=k0;go_simp;exact hK _ _ (Below.refl _ _) hW rfl
  refine⟨fun a w hW hk K hK=>?_,?_⟩
  ·obtain⟨k0,-⟩:=hk
   have k0:a.tmps.getD 67 undef=.pointer (some ⟨b,0,none⟩):=k0;go_simp;exact hK _ _ (Below.refl _ _) hW rfl
  refine⟨fun a w hW hk K hK=>?_,?_⟩
  ·obtain⟨k0,-⟩:=hk
   have k0:a.tmps.getD 68 undef=.pointer (some ⟨b,1,none⟩):=k0;go_simp;exact hK _ _ (Below.refl _ _) hW rfl
  refine⟨fun a w hW hk K hK=>?_,?_⟩
  ·obtain⟨k0,-⟩:=hk
   have k0:a.tmps.getD 69 undef=.pointer (some ⟨b,3,none⟩):=k0;have c3:=Qk q3 hW;go_simp;exact hK _ _ (Below.refl _ _) hW rfl
  refine⟨fun a w hW hk K hK=>?_,?_⟩
  ·obtain⟨k0,-⟩:=hk
   have k0:a.tmps.getD 8 undef=.slice oa on oc:=k0;go_simp;exact hK _ _ (Below.refl _ _) hW rfl
  refine⟨fun a w hW hk K hK=>?_,?_⟩
  ·obtain⟨k0,k1,k2,k3,-⟩:=hk
   have k0:a.tmps.getD 63 undef=.pointer (some ⟨b,0,none⟩):=k0;have k1:a.tmps.getD 65 undef=.slice pa na ca:=k1;have k2:a.tmps.getD 70 undef=.slice a2 fm c2:=k2;have k3:a.tmps.getD 71 undef=.slice oa on oc:=k3;go_simp;refine(Qda HN.out HM.out HO.out hn2 hm2 hL (Lay.below HA.out hW) (Lay.below HT.out hW) (Lay.below HR.out hW) HCC.out (HK.out.below hW)).mono ?_;rw[HP.out];rintro r7 w7 ⟨rfl,b7⟩
   go_simp;exact hK _ _ b7 (hW.trans (b7.mono hW.size)) rfl
  refine⟨fun a w hW hk K hK=>?_,?_⟩
  ·obtain⟨k0,-⟩:=hk
   have k0:a.tmps.getD 72 undef=.int .i64 p:=k0;go_simp;exact hK _ _ (Below.refl _ _) hW rfl
  trivial
theorem Qja {w:World}{b:Nat}{O Q:Nat→Prop}{s:JSt}{x:Z3}{e:EP}(hJ:JOk s) (h:KAt w b O s) (hx:Qbn w Q x e) (hcap:x.yes.regs.length≤e.cYR∧x.no.regs.length≤e.cNR) (hs:x.yes.regs.length≤100000∧x.yes.args.length≤100000∧x.no.regs.length≤100000∧x.no.args.length≤100000) :
 Calls Tryz.prog 32 #[.pointer (some ⟨b,0,none⟩),.agg (ZO x e)] w fun r w'=>r=.returned (.int .i64 (s.fin x))∧Below w.heap.size w w':=by
 have HJ:=Qa hJ;obtain⟨i0,hi,hz0,hz1,hz2⟩:=pInfoI
 have b1:=Q5 w (.cells (ZO x e) 47);have S0:Hid (EnS w (w.alloc (.cells (ZO x e) 47)) b w.heap.size O Q s x e):=⟨h.below b1,Qj w _ _,hx.below b1,b1⟩;clear h hx b1 hJ;go_enter Tryz.func32,Tryz.ntmps32
 go_upto_region 1 with fail
 obtain⟨X,hX⟩:∃ X,w.heap.size=X:=⟨_,rfl⟩
 unfold ZO at S0;generalize hw1:w.alloc (.cells #[.int .i64 x.op,.int .i64 x.a,.int .i64 x.yes.block,.slice e.pYR x.yes.regs.length e.cYR,.slice e.pYA x.yes.args.length e.cYA,.int .i64 x.no.block,.slice e.pNR x.no.regs.length e.cNR,.slice e.pNA x.no.args.length e.cNA,.slice e.pA x.args.length e.cA] 47)=w1 at S0 ⊢;have S1:Hid (EnS w w1 b X O Q s x e):=by rw[← hX];exact S0.out
 rw[hX]
 clear hw1 hX S0;obtain⟨pm,cm,a1,c1,a2,c2,a3,c3,hh,aL,cL,R⟩:=S1.out.known.read
 obtain⟨-,q1,q2,q3,q4,-,-⟩:=R.cells
 have HFR:=Qa (HJ.out.mod.2 s.f HJ.out.fn);have HS:Hid (x.yes.regs.length<2305843009213693952∧x.yes.args.length<2305843009213693952∧x.no.regs.length<2305843009213693952∧x.no.args.length<2305843009213693952):=by show _∧_;omega
 have E:Hid (s.fin x=if x.form s.f.blocks.length≠0 then x.form s.f.blocks.length else if x.op=1 then s.to x.yes else if x.op=2 then code2 (s.want x.a 1 false) (code2 (s.to x.yes) (s.to x.no)) else code2 (s.args x.args s.f.results (Qbo s.f.regs.toNat)) (if (hList s.H).all (fun r=>decide (r<s.f.regs)) then 0 else 12)):=by
  show _=_;rw[JSt.fin]
 have HCF:Hid (x.form s.f.blocks.length=x.form s.f.blocks.length):=rfl;refine Code.wp_mono ?_ (ke1 q1 q2 q3 q4 (show Hid _ from S1.out.range) HS (by have:=HFR.out.many.2;omega) HCF _ _ rfl (Nat.le_of_ble_eq_true (by kernel_rfl)) rfl rfl);rintro ee aa w5 ⟨rfl,vs,rfl,hv5,hb⟩;simp only[Ze,Act.put,List.setIfInBounds_toArray,List.set_cons_zero,List.set_cons_succ,hv5]
 have S:Hid (EnS w w5 b X O Q s x e):=S1.out.below hb;clear S1 hb hv5 q1 q2 q3 q4 R HCF HS;obtain⟨cf,hcf⟩:∃ cf,x.form s.f.blocks.length=cf:=⟨_,rfl⟩
 have HCF:Hid (x.form s.f.blocks.length=cf):=hcf;rw[hcf] at E ⊢
 clear hcf;by_cases hc0:cf=0
 rotate_left
 ·have hc0':(cf!=0)=true:=by simpa using hc0
  have E2:Hid (s.fin x=cf):=by show _=_;rw[E.out,if_pos hc0]
  clear E;go_wp2_with fail
  go_ret;exact⟨by rw[E2.out];rfl,S.out.bel⟩
 subst hc0;have E1:=E.out;rw[if_neg (by simp)] at E1
 clear E;have HZ:=Qa (Qf9 HFR.out.many.2 HCF.out);obtain⟨x0,x1,x2,x3,x4,x5,x6,x7,x8⟩:=S.out.cells
 rcases HZ.out.1 with hop | hop | hop
 ·have E2:Hid (s.fin x=s.to x.yes):=by show _=_;rw[E1,if_pos hop]
  have h1:Hid (x.yes.form s.f.blocks.length true=0):=by have:=HZ.out.2.2.2.2.1;rw[hop] at this;exact this
  rw[hop] at x0
  clear E1;go_wp2_with fail
  refine(QfH (x:=x.yes) HJ.out S.out.known S.out.lists.yr S.out.lists.ya hcap.1 (ZB h1.out).2.1 (ZB h1.out).2.2 (ZB h1.out).1).mono ?_
  rintro e9 w9 ⟨rfl,b9⟩;have S9:Hid (EnS w w9 b X O Q s x e):=S.out.below b9;clear b9;go_wp2_with fail
  go_ret;exact⟨by rw[E2.out];rfl,S9.out.bel⟩
 ·have E2:Hid (s.fin x=code2 (s.want x.a 1 false) (code2 (s.to x.yes) (s.to x.no))):=by show _=_;rw[E1,if_neg (by omega),if_pos hop]
  have h1:Hid (x.yes.form s.f.blocks.length true=0):=by have:=HZ.out.2.2.2.2.1;rw[hop] at this;exact this
  have h2:Hid (x.no.form s.f.blocks.length true=0):=by have:=HZ.out.2.2.2.2.2;rw[hop] at this;exact this
  rw[hop] at x0
  clear E1;go_wp2_with fail
  refine(Zb x.a 1 false HJ.out.regs HJ.out.vals S.out.known).mono ?_
  rintro e8 w8 ⟨rfl,n8,hw8⟩;have S8:Hid (EnS w w8 b X O Q s x e):=S.out.below (by rw[hw8];exact Qi (Below.refl _ _) n8);clear hw8 S;have S:=S8;clear S8 x0 x1 x2 x3 x4 x5 x6 x7 x8;obtain⟨x0,x1,x2,x3,x4,x5,x6,x7,x8⟩:=S.out.cells
  rw[hop] at x0
  generalize s.want x.a 1 false=cw at E2 ⊢;by_cases hcw:cw=0
  rotate_left
  ·have hcw':(cw!=0)=true:=by simpa using hcw
   have E3:Hid (s.fin x=cw):=by show _=_;rw[E2.out];unfold code2;rw[if_neg hcw]
   clear E2;go_wp2_with fail
   go_ret;exact⟨by rw[E3.out];rfl,S.out.bel⟩
  subst hcw;have E3:Hid (s.fin x=code2 (s.to x.yes) (s.to x.no)):=by show _=_;rw[E2.out];rfl
  clear E2;go_wp2_with fail
  refine(QfH (x:=x.yes) HJ.out S.out.known S.out.lists.yr S.out.lists.ya hcap.1 (ZB h1.out).2.1 (ZB h1.out).2.2 (ZB h1.out).1).mono ?_
  rintro e9 w9 ⟨rfl,b9⟩;have S9:Hid (EnS w w9 b X O Q s x e):=S.out.below b9;clear b9;clear S;have S:=S9;clear S9 x0 x1 x2 x3 x4 x5 x6 x7 x8;obtain⟨x0,x1,x2,x3,x4,x5,x6,x7,x8⟩:=S.out.cells
  rw[hop] at x0
  generalize s.to x.yes=cy at E3 ⊢;by_cases hcy:cy=0
  rotate_left
  ·have hcy':(cy!=0)=true:=by simpa using hcy
   have E4:Hid (s.fin x=cy):=by show _=_;rw[E3.out];unfold code2;rw[if_neg hcy]
   clear E3;go_wp2_with fail
   go_ret;exact⟨by rw[E4.out];rfl,S.out.bel⟩
  subst hcy;have E4:Hid (s.fin x=s.to x.no):=by show _=_;rw[E3.out];rfl
  clear E3;go_wp2_with fail
  refine(QfH (x:=x.no) HJ.out S.out.known S.out.lists.nr S.out.lists.na hcap.2 (ZB h2.out).2.1 (ZB h2.out).2.2 (ZB h2.out).1).mono ?_
  rintro e9 w9 ⟨rfl,b9⟩;have S9:Hid (EnS w w9 b X O Q s x e):=S.out.below b9;clear b9;go_wp2_with fail
  go_ret;exact⟨by rw[E4.out];rfl,S9.out.bel⟩
 ·have E2:Hid (s.fin x=code2 (s.args x.args s.f.results (Qbo s.f.regs.toNat)) (if (hList s.H).all (fun r=>decide (r<s.f.regs)) then 0 else 12)):=by show _=_;rw[E1,if_neg (by omega),if_neg (by omega)]
  have hal:x.args.length≤8:=HZ.out.2.2.2.1;obtain⟨pm,cm,a1,c1,a2,c2,a3,c3,hh,aL,cL,R⟩:=S.out.known.read
  obtain⟨-,q1,q2,q3,q4,q5,-⟩:=R.cells
  have HHO:Hid (Qm w5 hh O s.H):=R.holds;have HRC:Hid (s.f.results.length≤8):=HFR.out.results.1;have HCR:Hid (∀ t∈s.f.results,t.count≤2000):=fun t ht=>Nat.le_of_not_lt fun hlt=>HJ.out.tiny (.inr ⟨s.f,HJ.out.fn,.inr (.inr (.inl (.inr ⟨t,ht,hlt⟩)))⟩);obtain⟨fa,fc,fb,fd,fe,ff,ecs,-,hres,-,-⟩:=ZM R.fn
  simp only[List.cons.injEq,Value.slice.injEq,and_true,true_and] at ecs
  obtain⟨-,⟨rfl,rfl⟩,-⟩:=ecs
  have HRS:Hid ((Qp 6).In w5 (fun g=>¬ O g) s.f.results [.slice a2 s.f.results.length c2]):=hres;obtain⟨fr,hfr⟩:=Int.eq_ofNat_of_zero_le HFR.out.regs.1
  have hfr6:fr≤6:=by have:=HFR.out.regs.2;omega
  rw[hfr] at q1 E2
  rw[Int.toNat_natCast] at E2
  rw[hop] at x0
  clear E1 R hres hfr q2 q4;go_wp2_with fail
  go_loopw [8,9] (fun v u wr=>∃ k cs,u=.int .i64 (k:Nat)∧k≤fr∧Z2 Lay.int 3 wr w5.heap.size v (Qbo k) cs∧Below w5.heap.size w5 wr) (fun _ u _=>fr - (intOf u).toNat)
  case atStart=>exact⟨0,[],rfl,Nat.zero_le _,Z2.nil _ _ _ _,Below.refl _ _⟩
  case round =>
   obtain⟨k,cs,rfl,hk,hA,hB⟩:=hrel
   obtain⟨a,c,rfl⟩:=hA.formP
   have HA:Hid (Z2 Lay.int 3 wr w5.heap.size (.slice a (Qbo k).length c) (Qbo k) cs):=hA;have HB:Hid (Below w5.heap.size w5 wr):=hB;have hlen:(Qbo k).length≤6:=by rw[Qj2];omega
   have hsz:w5.heap.size≤wr.heap.size:=hB.size;have q1':=Qk q1 hB;clear hA hB;by_cases hlt:k<fr
   ·have hlt':(k:Int)<fr:=by omega
    have E9:Hid (Qbo (k+1)=Qbo k++[(k:Int)]):=Qjf k;have hown:Hid (wr.ownsRow w5.heap.size 3 1 (.slice a (Qbo k).length c) (Qbo k).length cs):=HA.out.own
    have PU:Hid (∀ g cap w9,w9.ownsRow w5.heap.size 3 1 (.slice (some ⟨g,0,none⟩) ((Qbo k).length+1) cap) ((Qbo k).length+1) (cs++[.int .i64 (k:Int)])→(wr.alloc (.cells #[.int .i64 (k:Int)] 3)).grownBy w9 (Value.slice a (Qbo k).length c).ownBlock→((Value.slice a (Qbo k).length c).ownBlock=some g∨g=wr.heap.size+1) →
     Z2 Lay.int 3 w9 w5.heap.size (.slice (some ⟨g,0,none⟩) ((Qbo k).length+1) cap) (Qbo (k+1)) (cs++[.int .i64 (k:Int)])∧Below w5.heap.size w5 w9):=by
     intro g cap w9 h1 h2 h3;obtain⟨q1,q2⟩:=QbU HA.out (by omega) hsz h1 h2 h3
     rw[E9.out]
     exact⟨q1,q2 w5 HB.out⟩
    clear HA HB E9;generalize (Qbo k).length=n at hown PU hlen ⊢;go_wp2_with (at_builtin;refine wpList_append_lies _ rfl (.tmp 59) (.tmp 61) 43 rfl w5.heap.size 3 i0 (.int .i64 0) 1 8 pUnderI hi hz0 hz1 hz2 rfl (by decide) _ _ _ rfl (hown.out.alloc _) ⟨wr.heap.size,0,none⟩ 1 1 [.int .i64 (k:Int)] rfl rfl (QgL _ [_] _) (Qkg _) (by decide) (by unfold maxLen;omega) (by omega) (by simp;omega) (wr.heap.size+1) (by simp) ?_)
    intro g2 cap2 w9 h1 hgrow hat hlt1;obtain⟨z1,z2⟩:=PU.out g2 cap2 w9 h1 hgrow hat
    have A9:=Qa z1;have B9:=Qa z2;clear h1 hgrow hat hlt1 hown PU z1 z2;go_wp2
    go_roundw
    case rel=>exact⟨k+1,_,by go_num,by omega,A9.out,B9.out⟩
    case measure=>simp[intOf];omega
   ·have hkf:k=fr:=by omega
    have hlt':¬ (k:Int)<fr:=by omega
    have HOW:Hid (intsL.In wr (fun g=>w5.heap.size≤g) (Qbo k) [.slice a (Qbo k).length c]):=HA.out.lay;have S9:Hid (EnS w wr b X O Q s x e):=S.out.below HB.out;have q3':=Qk q3 HB.out;have HT9:Hid ((Qp 6).In wr (fun g=>¬ O g) s.f.results [.slice a2 s.f.results.length c2]):=Lay.below HRS.out HB.out;have q5':=Qk q5 HB.out;have x8':=Qk x8 HB.out;have HHO9:Hid (Qm wr hh O s.H):=HHO.out.below HB.out;clear HA HB S q1 q3 q5 x0 x1 x2 x3 x4 x5 x6 x7 x8 HRS HHO hsz;have S:=S9;clear S9;subst hkf;clear hlt;go_upto_region 20 with fail
    have HAL:Hid (x.args.length=x.args.length):=rfl;have HNN:Hid ((Qbo k).length=(Qbo k).length):=rfl;refine Code.wp_mono ?_ (QlJ x8' q3' HAL (show Hid (s.f.results.length=s.f.results.length) from rfl) HNN (by omega) (by have:=HRC.out;omega) HJ.out.vals (show Hid _ from S.out.lists.ar) HT9 HOW HCR (show Hid _ from S.out.known) (show Hid (s.args x.args s.f.results (Qbo k)=s.args x.args s.f.results (Qbo k)) from rfl) _ _ rfl (Nat.le_of_ble_eq_true (by kernel_rfl)) rfl rfl rfl);rintro ee aa w7 ⟨rfl,vs,rfl,hv10,hb⟩;simp only[Ze,Act.put,List.setIfInBounds_toArray,List.set_cons_zero,List.set_cons_succ,hv10]
    have S7:Hid (EnS w w7 b X O Q s x e):=S.out.below hb;have q1b:=Qk q1' hb;have q5b:=Qk q5' hb;have HHO7:Hid (Qm w7 hh O s.H):=HHO9.out.below hb;clear hb hv10 S HOW HT9 HHO9 HAL HNN q1' q3' q5' x8';have S:=S7;clear S7;generalize s.args x.args s.f.results (Qbo k)=ca at E2 ⊢;generalize (Qbo k).length=nk at hlen ⊢;by_cases hca:ca=0
    rotate_left
    ·have hca':(ca!=0)=true:=by simpa using hca
     have E3:Hid (s.fin x=ca):=by show _=_;rw[E2.out];unfold code2;rw[if_neg hca]
     clear E2;go_wp2_with fail
     go_ret;exact⟨by rw[E3.out];rfl,S.out.bel⟩
    subst hca;have E3:Hid (s.fin x=if (hList s.H).all (fun r=>decide (r<(k:Int))) then 0 else 12):=by show _=_;rw[E2.out];rfl
    clear E2;go_wp2_with fail
    refine(Qcu (by have:=HJ.out.regs;omega) HHO7.out).mono ?_
    rintro e8 w8 ⟨la,lc,rfl,hl8,b8⟩;have S8:Hid (EnS w w8 b X O Q s x e):=S.out.below b8;have q18:=Qk q1b b8;have HL8:Hid (intsL.In w8 (fun g=>w7.heap.size≤g) (hList s.H) [.slice la (hList s.H).length lc]):=hl8;have hl16:(hList s.H).length≤16:=by have:=Qcf s.H;have:=HJ.out.regs;omega
    clear b8 S q1b q5b hl8 HHO7;have S:=S8;clear S8;generalize hList s.H=H at E3 HL8 hl16 ⊢
    have HX:Hid (∀ i,i<H.length→∃ g o,la=some ⟨g,o,none⟩∧w8.cell? ⟨g,o+i,none⟩=some (.int .i64 (H.getD i 0))):=fun i hi=>by
     obtain⟨a1,a2,e1,-,-,e2⟩:=ZK HL8.out hi
     exact⟨a1,a2,e1,e2⟩
    go_wp2_with fail
    go_loopw [12] (fun i wr=>∃ q n:Nat,q≤H.length∧i=.int .i64 q∧wr=w8.drewN n∧∀ j,j<q→H.getD j 0<(k:Int)) (fun i _=>H.length - (intOf i).toNat)
    case atStart=>exact⟨0,0,Nat.zero_le _,rfl,rfl,fun j hj=>absurd hj (Nat.not_lt_zero _)⟩
    case round =>
     obtain⟨q,n,hq,rfl,hw,hall⟩:=hrel
     have HALL:Hid (∀ j,j<q→H.getD j 0<(k:Int)):=hall;have HW:Hid (wr=w8.drewN n):=hw;have q1r:wr.cell? ⟨b,1,none⟩=some (.int .i64 (k:Int)):=by rw[hw];exact q18
     have SR:Hid (EnS w wr b X O Q s x e):=S.out.below (by rw[hw];exact Qi (Below.refl _ _) n);clear hall hw;by_cases hlt:q<H.length
     ·obtain⟨rgg,ro,rfl,hcx⟩:=HX.out q hlt
      have hcr:wr.cell? ⟨rgg,ro+q,none⟩=some (.int .i64 (H.getD q 0)):=by rw[HW.out];exact hcx
      have hlt2:(q:Int)<H.length:=by omega
      obtain⟨v,hv⟩:∃ v,H.getD q 0=v:=⟨_,rfl⟩
      have HV:Hid (H.getD q 0=v):=hv;rw[hv] at hcr
      clear hv hcx;by_cases hvk:v<(k:Int)
      ·have hvk':decide ((k:Int)≤v)=false:=decide_eq_false (by omega);go_wp2_with fail
       go_quiet (fail)
       go_wp2
       go_roundw
       case rel =>
        refine⟨q+1,n+nq,by omega,by go_num,by rw[HW.out,World.drewN_drewN],fun j hj=>?_⟩
        by_cases hjq:j<q
        ·exact HALL.out j hjq
        ·have:j=q:=by omega
         subst this;rw[HV.out];exact hvk
       case measure=>simp[intOf];omega
      ·have hvk':decide ((k:Int)≤v)=true:=decide_eq_true (by omega)
       have E4:Hid (s.fin x=12):=by
        show _=_;rw[E3.out,if_neg]
        intro hh
        have:=List.all_eq_true.1 hh v (by rw[← HV.out,List.getD_eq_getElem?_getD,List.getElem?_eq_getElem hlt];exact List.getElem_mem hlt)
        exact hvk (of_decide_eq_true this)
       clear E3;go_wp2_with fail
       go_quiet (fail)
       go_wp2
       go_ret;exact⟨by rw[E4.out];rfl,Qi SR.out.bel _⟩
     ·have E4:Hid (s.fin x=0):=by
       show _=_;rw[E3.out,if_pos]
       refine List.all_eq_true.2 fun v hv=>decide_eq_true ?_;obtain⟨j,hj,rfl⟩:=List.getElem_of_mem hv
       have:=HALL.out j (by omega)
       rwa [List.getD_eq_getElem?_getD,List.getElem?_eq_getElem hj] at this
      have hlt2:¬ (q:Int)<H.length:=by omega
      clear E3;go_wp2
      go_ret;exact⟨by rw[E4.out];rfl,SR.out.bel⟩
end Go.Proofs.YtacjnejckfhpoadGreat
namespace Go.Proofs.YtacjnejckfhpoadGreat
open Go.ChangeShapes Go.WideShapes Go.ChangeAt Go.RowKit Go.Deep
set_option linter.unusedVariables false
theorem Lay.Sub.via {α β:Type}{A A':Lay α}(h:Lay.Sub A A') (f:β→α):Lay.Sub (A.via f) (A'.via f):=⟨h.1,fun k=>h.2 k⟩
theorem QL.listC {P:Program}{t e:TypeId}{α:Type}{A:Lay α}{n:Nat}{Bd:α→Prop}(h:P.underlying t=some (.slice e)) (hc:P.cellsOf t=1) (hA:QL P e A n Bd) (h0:0<A.size) (hbe:0<P.bytesOf e):QL P t A.listC n (fun l=>l.length<1152921504606846976) :=
 ⟨hc,fun {H enc w base spare held fuel cs x} hf h' hw=>by
  obtain⟨l,hl,hb⟩:=(QL.list h hc hA h0 hbe).2 hf h' hw
  refine⟨l,⟨?_,hl⟩,hb⟩
  obtain⟨a,c,e,_⟩:=hl
  refine⟨a,c,e,?_⟩
  rcases DataW.trod_slice h h' with ⟨e2,_⟩|⟨a2,len,cap,elems,rest,q,_,e2,_,_,hle,_⟩
  ·rw[e] at e2
   simp at e2
   simp[e2.2.1]
  ·rw[e] at e2
   simp at e2
   omega⟩
abbrev intsC:Lay (List Int):=Lay.int.listC
def insC:Lay Qv:=(Lay.int.pair (Lay.int.pair (Lay.int.pair (Lay.int.pair (Lay.int.pair (Lay.int.pair (intsC.pair intsC))))))).via (fun x=>(x.op,x.a,x.b,x.c,x.k,x.n,x.regs,x.args))
def toC:Lay MTo:=(Lay.int.pair (intsC.pair intsC)).via (fun x=>(x.block,x.regs,x.args))
def endC:Lay Z3:=(Lay.int.pair (Lay.int.pair (toC.pair (toC.pair intsC)))).via (fun x=>(x.op,x.a,x.yes,x.no,x.args))
def QeO (n:Nat):Lay (Qh n):=(Lay.int.pair ((Qp n).pair (insC.list.pair endC))).via (fun x=>(x.regs,x.params,x.code,x.fin))
def QjY (n:Nat):Lay (Qe n):=(Lay.int.pair ((Qp n).pair ((Qp n).pair (QeO n).list))).via (fun x=>(x.regs,x.params,x.results,x.blocks))
abbrev Qle (n:Nat):Lay (List (Qe n)):=(QjY n).list
theorem ints_sub:Lay.Sub intsC intsL:=Lay.Sub.listC _
theorem ins_sub:Lay.Sub insC insL:=.via (.pair (.refl _) (.pair (.refl _) (.pair (.refl _) (.pair (.refl _) (.pair (.refl _) (.pair (.refl _) (.pair ints_sub ints_sub))))))) _
theorem to_sub:Lay.Sub toC toL:=.via (.pair (.refl _) (.pair ints_sub ints_sub)) _
theorem end_sub:Lay.Sub endC endL:=.via (.pair (.refl _) (.pair (.refl _) (.pair to_sub (.pair to_sub ints_sub)))) _
theorem Qhr (n:Nat):Lay.Sub (QeO n) (ZP n):=.via (.pair (.refl _) (.pair (.refl _) (.pair (.list ins_sub) end_sub))) _
theorem Qjr (n:Nat):Lay.Sub (QjY n) (ZF n):=.via (.pair (.refl _) (.pair (.refl _) (.pair (.refl _) (.list (Qhr n))))) _
theorem QjM (n:Nat):Lay.Sub (Qle n) (QaF n):=.list (Qjr n)
section
variable {w:World}{O:Nat→Prop}{cs:List Value}
theorem Qic {x:Qv}(h:insC.In w O x cs):∃ a c b d,cs=[.int .i64 x.op,.int .i64 x.a,.int .i64 x.b,.int .i64 x.c,.int .i64 x.k,.int .i64 x.n,.slice a x.regs.length c,.slice b x.args.length d]∧intsL.In w O x.regs [.slice a x.regs.length c]∧intsL.In w O x.args [.slice b x.args.length d]∧x.regs.length≤c∧x.args.length≤d:=by
 obtain⟨_,_,rfl,⟨rfl,_⟩,_,_,rfl,⟨rfl,_⟩,_,_,rfl,⟨rfl,_⟩,_,_,rfl,⟨rfl,_⟩,_,_,rfl,⟨rfl,_⟩,_,_,rfl,⟨rfl,_⟩,_,_,rfl,⟨⟨a,c,rfl,h1⟩,h2⟩,⟨b,d,rfl,h3⟩,h4⟩:=h
 exact⟨a,c,b,d,rfl,h2,h4,h1,h3⟩
theorem Qgo {x:MTo}(h:toC.In w O x cs):∃ a c b d,cs=[.int .i64 x.block,.slice a x.regs.length c,.slice b x.args.length d]∧intsL.In w O x.regs [.slice a x.regs.length c]∧intsL.In w O x.args [.slice b x.args.length d]∧x.regs.length≤c∧x.args.length≤d:=by
 obtain⟨_,_,rfl,⟨rfl,_⟩,_,_,rfl,⟨⟨a,c,rfl,h1⟩,h2⟩,⟨b,d,rfl,h3⟩,h4⟩:=h
 exact⟨a,c,b,d,rfl,h2,h4,h1,h3⟩
theorem Qip {x:Z3}(h:endC.In w O x cs):∃ e:EP,cs=(ZO x e).toList∧Qbn w O x e∧x.yes.regs.length≤e.cYR∧x.no.regs.length≤e.cNR:=by
 obtain⟨_,_,rfl,⟨rfl,_⟩,_,_,rfl,⟨rfl,_⟩,c1,_,rfl,t1,c2,_,rfl,t2,⟨pa,ca,rfl,h5⟩,h6⟩:=h
 obtain⟨a1,a2,a3,a4,rfl,k1,k2,k3,k4⟩:=Qgo t1
 obtain⟨b1,b2,b3,b4,rfl,l1,l2,l3,l4⟩:=Qgo t2
 exact⟨⟨a1,a2,a3,a4,b1,b2,b3,b4,pa,ca⟩,rfl,⟨k1,k2,l1,l2,h6⟩,k3,l3⟩
end
theorem Qci (n:Nat):QL Tryz.prog 43 intsC n (fun l=>l.length<1152921504606846976):=QL.listC Tryz.underlying43 (by kernel_rfl) (Qbv n) (by decide) (by rw[show Tryz.prog.bytesOf 3=8 from by kernel_rfl];decide)
theorem QeU (n:Nat):QL Tryz.prog 59 insC n (fun x=>x.regs.length<1152921504606846976∧x.args.length<1152921504606846976):=by
 have h:=QL.struct (n:=n) (A:=Lay.int.pair (Lay.int.pair (Lay.int.pair (Lay.int.pair (Lay.int.pair (Lay.int.pair (intsC.pair intsC))))))) Tryz.underlying59 (by kernel_rfl) (QS.cons rfl rfl (Qbv n) (QS.cons rfl rfl (Qbv n) (QS.cons rfl rfl (Qbv n) (QS.cons rfl rfl (Qbv n) (QS.cons rfl rfl (Qbv n) (QS.cons rfl rfl (QjV n) (QS.cons rfl rfl (Qci n) (QS.last rfl rfl (Qci n)))))))));have h2:=h.via (f:=fun x:Qv=>(x.op,x.a,x.b,x.c,x.k,x.n,x.regs,x.args)) (fun d=>⟨d.1,d.2.1,d.2.2.1,d.2.2.2.1,d.2.2.2.2.1,d.2.2.2.2.2.1,d.2.2.2.2.2.2.1,d.2.2.2.2.2.2.2⟩) (fun d=>rfl);exact⟨h2.1,fun hf h' hw=>by obtain⟨d,hd,hb⟩:=h2.2 hf h' hw;exact⟨d,hd,hb.2.2.2.2.2.2⟩⟩
theorem Qgb (n:Nat):QL Tryz.prog 45 toC n (fun x=>x.regs.length<1152921504606846976∧x.args.length<1152921504606846976):=by
 have h:=QL.struct (n:=n) (A:=Lay.int.pair (intsC.pair intsC)) Tryz.underlying45 (by kernel_rfl) (QS.cons rfl rfl (Qbv n) (QS.cons rfl rfl (Qci n) (QS.last rfl rfl (Qci n))));have h2:=h.via (f:=fun x:MTo=>(x.block,x.regs,x.args)) (fun d=>⟨d.1,d.2.1,d.2.2⟩) (fun d=>rfl);exact⟨h2.1,fun hf h' hw=>by obtain⟨d,hd,hb⟩:=h2.2 hf h' hw;exact⟨d,hd,hb.2⟩⟩
theorem Qfj (n:Nat):QL Tryz.prog 47 endC n (fun x=>(x.yes.regs.length<1152921504606846976∧x.yes.args.length<1152921504606846976)∧(x.no.regs.length<1152921504606846976∧x.no.args.length<1152921504606846976)∧x.args.length<1152921504606846976):=by
 have h:=QL.struct (n:=n) (A:=Lay.int.pair (Lay.int.pair (toC.pair (toC.pair intsC)))) Tryz.underlying47 (by kernel_rfl) (QS.cons rfl rfl (Qbv n) (QS.cons rfl rfl (Qbv n) (QS.cons rfl rfl (Qgb n) (QS.cons rfl rfl (Qgb n) (QS.last rfl rfl (Qci n))))));have h2:=h.via (f:=fun x:Z3=>(x.op,x.a,x.yes,x.no,x.args)) (fun d=>⟨d.1,d.2.1,d.2.2.1,d.2.2.2.1,d.2.2.2.2⟩) (fun d=>rfl);exact⟨h2.1,fun hf h' hw=>by obtain⟨d,hd,hb⟩:=h2.2 hf h' hw;exact⟨d,hd,hb.2.2⟩⟩
theorem QgX (n:Nat):QL Tryz.prog 42 insC.list n (fun l=>l.length<1152921504606846976):=QL.list Tryz.underlying42 (by kernel_rfl) (QeU n) (by decide) (by rw[show Tryz.prog.bytesOf 59=96 from by kernel_rfl];decide)
theorem Qfu (n:Nat):QL Tryz.prog 84 (QeO n) n (fun _=>True):=by
 have h:=QL.struct (n:=n) (A:=Lay.int.pair ((Qp n).pair (insC.list.pair endC))) Tryz.underlying84 (by kernel_rfl) (QS.cons rfl rfl (Qbv n) (QS.cons rfl rfl (QfW n) (QS.cons rfl rfl (QgX n) (QS.last rfl rfl (Qfj n)))));have h2:=h.via (f:=fun x:Qh n=>(x.regs,x.params,x.code,x.fin)) (fun d=>⟨d.1,d.2.1,d.2.2.1,d.2.2.2⟩) (fun d=>rfl);exact⟨h2.1,fun hf h' hw=>by obtain⟨d,hd,hb⟩:=h2.2 hf h' hw;exact⟨d,hd,trivial⟩⟩
theorem Qfk (n:Nat):QL Tryz.prog 53 (QeO n).list n (fun l=>l.length<1152921504606846976):=QL.list Tryz.underlying53 (by kernel_rfl) (Qfu n) (by show 0<12;decide) (by rw[show Tryz.prog.bytesOf 84=208 from by kernel_rfl];decide)
theorem Qg4 (n:Nat):QL Tryz.prog 55 (QjY n) n (fun _=>True):=by
 have h:=QL.struct (n:=n) (A:=Lay.int.pair ((Qp n).pair ((Qp n).pair (QeO n).list))) Tryz.underlying55 (by kernel_rfl) (QS.cons rfl rfl (Qbv n) (QS.cons rfl rfl (QfW n) (QS.cons rfl rfl (QfW n) (QS.last rfl rfl (Qfk n)))));have h2:=h.via (f:=fun x:Qe n=>(x.regs,x.params,x.results,x.blocks)) (fun d=>⟨d.1,d.2.1,d.2.2.1,d.2.2.2⟩) (fun d=>rfl);exact⟨h2.1,fun hf h' hw=>by obtain⟨d,hd,hb⟩:=h2.2 hf h' hw;exact⟨d,hd,trivial⟩⟩
theorem QfE (n:Nat):QL Tryz.prog 22 (Qle n) n (fun l=>l.length<1152921504606846976):=QL.list Tryz.underlying22 (by kernel_rfl) (Qg4 n) (by show 0<4;decide) (by rw[show Tryz.prog.bytesOf 55=80 from by kernel_rfl];decide)
theorem Qim (n:Nat):QL Tryz.prog 24 (Qle n) n (fun _=>True):=by
 have h:=QL.struct (n:=n) (A:=Qle n) Tryz.underlying24 (by kernel_rfl) (QS.last rfl rfl (QfE n));exact⟨h.1,fun hf h' hw=>by obtain⟨d,hd,hb⟩:=h.2 hf h' hw;exact⟨d,hd,trivial⟩⟩
end Go.Proofs.YtacjnejckfhpoadGreat
namespace Go.Proofs.YtacjnejckfhpoadGreat
open Go.ChangeShapes Go.WideShapes Go.ChangeAt Go.RowKit
set_option linter.unusedSimpArgs false
set_option linter.unusedVariables false
def QY (w:World) (O:Nat→Prop) (c:Int) (l:List (TT 6)) (e:Ending) (w':World):Prop :=
 ∃ a n d,e=.returned (.tuple #[.slice a n d,.int .i64 c])∧(c=0→n=l.length∧n≤d∧(Qp 6).In w' (fun g=>¬ O g) l [.slice a n d])∧Below w.heap.size w w'
abbrev QaR (x:Qv) (rg ag:Option Addr) (rc ac:Nat):Value:=.agg #[.int .i64 x.op,.int .i64 x.a,.int .i64 x.b,.int .i64 x.c,.int .i64 x.k,.int .i64 x.n,.slice rg x.regs.length rc,.slice ag x.args.length ac]
theorem Qdb (w:World) (O:Nat→Prop) (hO:∀ k,O k→k<w.heap.size){t:TT 6}{a:Option Addr}{c d:Nat}(h:TIn w (fun g=>¬ O g) t a) (hok:t.ok) :
 (Qp 6).In (w.alloc (.cells #[.int .i64 t.kind,.int .i64 t.r,.slice a t.len c] 79)) (fun g=>¬ O g) [t] [.slice (some ⟨w.heap.size,0,none⟩) 1 d]:=by
 refine⟨some ⟨w.heap.size,0,none⟩,d,rfl,fun i x hx=>?_⟩
 cases i with
 | succ i=>simp at hx
 | zero =>
  have hx:t=x:=by simpa using hx
  subst hx;refine⟨w.heap.size,0,[.int .i64 t.kind,.int .i64 t.r,.slice a t.len c],rfl,fun e=>by have:=hO _ e;omega,by simp,fun j hj=>?_,a,c,rfl,h.alloc _,hok⟩
  have hj:j<3:=hj;have hb:=Qj w #[.int .i64 t.kind,.int .i64 t.r,.slice a t.len c] 79;match j,hj with
  | 0,_=>exact Qb hb 0 _ rfl
  | 1,_=>exact Qb hb 1 _ rfl
  | 2,_=>exact Qb hb 2 _ rfl
theorem QfM (w:World) (Q:Nat→Prop) (k r:Int) (a:Option Addr):TIn w Q (mkT k r []:TT 6) a:=fun i x hx=>by simp at hx
theorem QgC (w:World) (O:Nat→Prop) (hO:∀ k,O k→k<w.heap.size){u:TT 5}{a:Option Addr}{c d:Nat}(h:TIn w (fun g=>¬ O g) u a) (hok:u.ok) :
 (Qp 6).In (w.alloc (.cells #[.int .i64 u.kind,.int .i64 u.r,.slice a u.len c] 79)) (fun g=>¬ O g) [u.at 5] [.slice (some ⟨w.heap.size,0,none⟩) 1 d]:=by
 have hh:u.height≤5:=by have:=TT.height_lt u;omega
 have:=Qdb w O hO (t:=u.at 5) (a:=a) (c:=c) (d:=d) (h.at 5 hh) (TT.at_ok 5 hok)
 rwa [TT.at_kind,TT.at_r,TT.at_len 5 u hh] at this
theorem Qh5 {k r:Int}(h:-9223372036854775808≤r∧r≤9223372036854775807):(mkT k r []:TT 6).ok:=⟨h,fun x hx=>by cases hx⟩
structure MkS (w w2:World) (b X:Nat) (O:Nat→Prop) (s:JSt) (x:Qv) (rg ag:Option Addr) (rc ac:Nat) (na:Option Addr):Prop where
 known:KAt w2 b O s
 box:w2.heap[X]?=some (.cells #[.int .i64 x.op,.int .i64 x.a,.int .i64 x.b,.int .i64 x.c,.int .i64 x.k,.int .i64 x.n,.slice rg x.regs.length rc,.slice ag x.args.length ac] 59 (0,0))
 num:(Qp 6).In w2 (fun g=>¬ O g) [tInt] [.slice na 1 1]
 bel:Below w.heap.size w w2
 own:∀ k,O k→k<w.heap.size
 ok:JOk s
theorem MkS.start {w:World}{b:Nat}{O:Nat→Prop}{s:JSt}(x:Qv) (rg ag:Option Addr) (rc ac:Nat) (hO:∀ k,O k→k<w.heap.size) (hJ:JOk s) (h:KAt w b O s) :
 MkS w ((w.alloc (.cells #[.int .i64 x.op,.int .i64 x.a,.int .i64 x.b,.int .i64 x.c,.int .i64 x.k,.int .i64 x.n,.slice rg x.regs.length rc,.slice ag x.args.length ac] 59)).alloc (.cells #[.int .i64 1,.int .i64 0,.slice none 0 0] 79)) b w.heap.size O s x rg ag rc ac (some ⟨w.heap.size+1,0,none⟩):=by
 have b1:=Q5 w (.cells #[.int .i64 x.op,.int .i64 x.a,.int .i64 x.b,.int .i64 x.c,.int .i64 x.k,.int .i64 x.n,.slice rg x.regs.length rc,.slice ag x.args.length ac] 59);have b2:=Q5 (w.alloc (.cells #[.int .i64 x.op,.int .i64 x.a,.int .i64 x.b,.int .i64 x.c,.int .i64 x.k,.int .i64 x.n,.slice rg x.regs.length rc,.slice ag x.args.length ac] 59)) (.cells #[.int .i64 1,.int .i64 0,.slice none 0 0] 79);refine⟨(h.below b1).below b2,(b2.block _ (by simp)).trans (Qj _ _ _),?_,b1.trans (b2.mono b1.size),hO,hJ⟩
 have:=Qdb (w.alloc (.cells #[.int .i64 x.op,.int .i64 x.a,.int .i64 x.b,.int .i64 x.c,.int .i64 x.k,.int .i64 x.n,.slice rg x.regs.length rc,.slice ag x.args.length ac] 59)) O (fun k hk=>by have:=hO k hk;simp;omega) (t:=tInt) (a:=none) (c:=0) (d:=1) (QfM _ _ _ _ _) ⟨by decide,fun x hx=>by cases hx⟩
 rw[World.size_alloc] at this
 exact this
section
variable {w w2 w3:World}{b X:Nat}{O:Nat→Prop}{s:JSt}{x:Qv}{rg ag:Option Addr}{rc ac:Nat}{na:Option Addr}
theorem MkS.below (h:MkS w w2 b X O s x rg ag rc ac na) (k:Below w2.heap.size w2 w3):MkS w w3 b X O s x rg ag rc ac na :=
 ⟨h.known.below k,(k.block X (lt_of_block h.box)).trans h.box,Lay.below h.num k,h.bel.trans (k.mono h.bel.size),h.own,h.ok⟩
theorem MkS.lt (h:MkS w w2 b X O s x rg ag rc ac na):∀ k,O k→k<w2.heap.size:=fun k hk=>Nat.lt_of_lt_of_le (h.own k hk) h.bel.size
theorem MkS.cells (h:MkS w w2 b X O s x rg ag rc ac na):w2.cell? ⟨X,0,none⟩=some (.int .i64 x.op)∧w2.cell? ⟨X,1,none⟩=some (.int .i64 x.a)∧w2.cell? ⟨X,2,none⟩=some (.int .i64 x.b)∧w2.cell? ⟨X,3,none⟩=some (.int .i64 x.c)∧w2.cell? ⟨X,4,none⟩=some (.int .i64 x.k)∧w2.cell? ⟨X,6,none⟩=some (.slice rg x.regs.length rc)∧w2.cell? ⟨X,7,none⟩=some (.slice ag x.args.length ac) :=
 ⟨Qb h.box 0 _ rfl,Qb h.box 1 _ rfl,Qb h.box 2 _ rfl,Qb h.box 3 _ rfl,Qb h.box 4 _ rfl,Qb h.box 6 _ rfl,Qb h.box 7 _ rfl⟩
theorem QY.nil {c:Int}(h:Below w.heap.size w w3):QY w O c [] (.returned (.tuple #[.slice none 0 0,.int .i64 c])) w3 :=
 ⟨none,0,0,rfl,fun _=>⟨rfl,Nat.le_refl _,Lay.list_nil _ _ _ _ _⟩,h⟩
theorem QY.bad {c:Int}{l:List (TT 6)}(hc:c≠0) (h:Below w.heap.size w w3) (a:Option Addr) (n d:Nat):QY w O c l (.returned (.tuple #[.slice a n d,.int .i64 c])) w3 :=
 ⟨a,n,d,rfl,fun e=>absurd e hc,h⟩
theorem QY.num {c:Int}(h:MkS w w2 b X O s x rg ag rc ac na) (k:Below w2.heap.size w2 w3):QY w O c [tInt] (.returned (.tuple #[.slice na 1 1,.int .i64 c])) w3 :=
 ⟨na,1,1,rfl,fun _=>⟨rfl,Nat.le_refl _,(h.below k).num⟩,(h.below k).bel⟩
end
theorem Qd5 (a b:Int):firstI [a,b]=code2 a b:=by
 unfold firstI code2;split
 ·unfold firstI;split
  ·rename_i h1 h2;simp[firstI,h2]
  ·rfl
 ·rfl
theorem QjU (a b c:Int):firstI [a,b,c]=code2 a (code2 b c):=by
 rw[firstI,Qd5];rfl
theorem Qhc {w:World}{b:Nat}{O:Nat→Prop}{s:JSt}{x:Qv}{rg ag:Option Addr}{rc ac:Nat}(hO:∀ k,O k→k<w.heap.size) (hJ:JOk s) (h:KAt w b O s) (hop:x.op=1) :
 Calls Tryz.prog 73 #[.pointer (some ⟨b,0,none⟩),QaR x rg ag rc ac] w fun e w'=>QY w O (s.makes x).1 (s.makes x).2 e w':=by
 have E:Hid (s.makes x=(0,[tInt])):=Qao (.inl hop);have S0:=Qa (MkS.start x rg ag rc ac hO hJ h);obtain⟨xop,xa,xb,xc,xk,xn,xr,xs⟩:=x
 simp only at hop
 subst hop;clear h;go_enter Tryz.func73,Tryz.ntmps73
 go_wp2
 go_ret2;rw[E.out]
 exact QY.num S0.out (Below.refl _ _)
theorem Qiq {w:World}{b:Nat}{O:Nat→Prop}{s:JSt}{x:Qv}{rg ag:Option Addr}{rc ac:Nat}(hO:∀ k,O k→k<w.heap.size) (hJ:JOk s) (h:KAt w b O s) (hop:x.op=12) :
 Calls Tryz.prog 73 #[.pointer (some ⟨b,0,none⟩),QaR x rg ag rc ac] w fun e w'=>QY w O (s.makes x).1 (s.makes x).2 e w':=by
 have E:Hid (s.makes x=(0,[tInt])):=Qao (.inr hop);have S0:=Qa (MkS.start x rg ag rc ac hO hJ h);obtain⟨xop,xa,xb,xc,xk,xn,xr,xs⟩:=x
 simp only at hop
 subst hop;clear h;go_enter Tryz.func73,Tryz.ntmps73
 go_wp2
 go_ret2;rw[E.out]
 exact QY.num S0.out (Below.refl _ _)
def ZE (x:Qv):Prop:=(-9223372036854775808≤x.a∧x.a≤9223372036854775807)∧(-9223372036854775808≤x.b∧x.b≤9223372036854775807)∧(-9223372036854775808≤x.c∧x.c≤9223372036854775807)
theorem QiR {w:World}{O:Nat→Prop}{x:Qv}{cs:List Value}(h:insC.In w O x cs):ZE x:=by
 obtain⟨_,_,rfl,⟨rfl,_⟩,_,_,rfl,⟨rfl,ha⟩,_,_,rfl,⟨rfl,hb⟩,_,_,rfl,⟨rfl,hc⟩,_,_,rfl,⟨rfl,_⟩,_,_,rfl,⟨rfl,_⟩,_,_,rfl,⟨⟨a,c,rfl,h1⟩,h2⟩,⟨b,d,rfl,h3⟩,h4⟩:=h
 exact⟨ha,hb,hc⟩
noncomputable def JSt.goC (s:JSt) (x:Qv):Int:=code2 (s.makes x).1 (Zp s.L.length (s.makes x).2.length)
theorem Qdc {s:JSt}{x:Qv}(hf:x.form s.m.length=0):s.code x=s.goC x:=by
 unfold JSt.code JSt.goC code2 Zp;rw[if_neg (by rw[hf];simp)]
 by_cases h:(s.makes x).1=0
 ·rw[if_neg (by rw[h];simp),if_pos h]
 ·rw[if_pos h,if_neg h]
theorem Qch {n:Nat}(h:n≤80):Zp n 0=0:=if_neg (by omega)
theorem Qf1 {a:Int}:code2 a 0=a:=by unfold code2;split<;>simp_all
theorem Zd.to {w w':World}{b:Nat}{O A:Nat→Prop}{s s1 s2:JSt}{c c2:Int}{e:Ending}(hd:Zd w b O A s s1 c e w') (hc:c2=c) (hs:c=0→s2=s1):Zd w b O A s s2 c2 e w':=by
 subst hc;rcases hd with ⟨h1,h2,h3⟩ | h
 ·exact .inl ⟨h1,h2,by rw[hs h1];exact h3⟩
 ·exact .inr h
theorem Zd.none {w w':World}{b:Nat}{O A:Nat→Prop}{s s2:JSt}{c2:Int}(h:SAt w b O A s) (hb:Below w.heap.size w w') (hc:c2=0) (hs:s2=s):Zd w b O A s s2 c2 (.returned (.tuple #[])) w':=.inl ⟨hc,rfl,by rw[hs];exact STo.of_below h hb⟩
theorem Zk {s:JSt}{x:Qv}(h3:x.op≠3) (h4:x.op≠4):s.next x={ s with L:=s.L++(s.makes x).2 }:=by unfold JSt.next;rw[if_neg h3,if_neg h4]
theorem Qkb {w:World}{b:Nat}{O A Q:Nat→Prop}{s:JSt}{x:Qv}{rg ag:Option Addr}{rc ac:Nat}(hA:∀ k,A k→k<w.heap.size) (hJ:JOk s) (h:SAt w b O A s) (hregs:intsL.In w Q x.regs [.slice rg x.regs.length rc]) (hargs:intsL.In w Q x.args [.slice ag x.args.length ac]) (hrc:x.regs.length≤rc) (hrng:ZE x) (hf:x.form s.m.length=0) (hop:x.op=1) :
 Calls Tryz.prog 71 #[.pointer (some ⟨b,0,none⟩),QaR x rg ag rc ac] w fun e w'=>Zd w b O A s (s.next x) (s.goC x) e w':=by
 have hE:=Qao (s:=s) (.inl hop);obtain⟨op,xa,xb,xc,xk,xn,xr,xs⟩:=x
 have hop:op=1:=hop;subst hop;have HE:=Qa hE;obtain⟨f1,f2,f3,-⟩:=Zh hf
 have HF:=Qa (And.intro f1 (And.intro f2 f3));obtain⟨ra,rb,rcc⟩:=hrng
 have HI:=Qa (And.intro ra (And.intro rb rcc));have HJ:=Qa hJ;have H0:=Qa h;have HA0:=Qa hA;have hL:=hJ.vals;have b1:=Q5 w (.cells #[.int .i64 1,.int .i64 xa,.int .i64 xb,.int .i64 xc,.int .i64 xk,.int .i64 xn,.slice rg xr.length rc,.slice ag xs.length ac] 59);have H:=Qa (h.below b1);have HR:Hid (intsL.In _ Q xr [.slice rg xr.length rc]):=Lay.below hregs b1;have HG:Hid (intsL.In _ Q xs [.slice ag xs.length ac]):=Lay.below hargs b1;have HB:=Qa b1;have HA:=Qa (fun k hk=>Nat.lt_of_lt_of_le (hA k hk) b1.size);have HO:=Qa (fun k hk=>Nat.lt_of_lt_of_le (hA k (h.sub k hk)) b1.size);have X1:Hid (Blk (w.alloc (.cells #[.int .i64 1,.int .i64 xa,.int .i64 xb,.int .i64 xc,.int .i64 xk,.int .i64 xn,.slice rg xr.length rc,.slice ag xs.length ac] 59)) w.heap.size #[.int .i64 1,.int .i64 xa,.int .i64 xb,.int .i64 xc,.int .i64 xk,.int .i64 xn,.slice rg xr.length rc,.slice ag xs.length ac] 59):=Blk.new _ _ _;have HRC:Hid (xr.length≤rc):=hrc;clear h hA hJ b1 hregs hargs hE hf f1 f2 f3 ra rb rcc hrc;go_enter Tryz.func71,Tryz.ntmps71
 go_upto_region 1 with fail
 generalize w.alloc (.cells #[.int .i64 1,.int .i64 xa,.int .i64 xb,.int .i64 xc,.int .i64 xk,.int .i64 xn,.slice rg xr.length rc,.slice ag xs.length ac] 59)=w1 at H HR HG HB HA HO X1 ⊢;obtain⟨X,hX⟩:∃ X,w.heap.size=X:=⟨_,rfl⟩
 rw[hX] at X1 ⊢
 clear hX;have x0:=Qb X1.out 0 _ rfl;have x1:=Qb X1.out 1 _ rfl;have x2:=Qb X1.out 2 _ rfl;have x3:=Qb X1.out 3 _ rfl;have x4:=Qb X1.out 4 _ rfl;have x6:=Qb X1.out 6 _ rfl;have x7:=Qb X1.out 7 _ rfl;have HE2:Hid (∀ e w9,Zd w b O A s { s with L:=s.L++[tInt] } (Zp s.L.length 1) e w9→Zd w b O A s (s.next ⟨1,xa,xb,xc,xk,xn,xr,xs⟩) (s.goC ⟨1,xa,xb,xc,xk,xn,xr,xs⟩) e w9):=fun e w9 hd=>hd.to (by unfold JSt.goC;rw[HE.out];rfl) (fun _=>by rw[Zk (by simp) (by simp),HE.out]);have CM:=Qa (Qb0 hL HA.out H.out);go_wp2_with fail
 refine CM.out.mono ?_;rintro e' w9 hd;have FF:Hid (Zd w b O A s (s.next ⟨1,xa,xb,xc,xk,xn,xr,xs⟩) (s.goC ⟨1,xa,xb,xc,xk,xn,xr,xs⟩) e' w9):=HE2.out _ _ (hd.after HB.out);rcases hd with ⟨h1,rfl,h3⟩|⟨h1,rfl,h3⟩
 rotate_left
 ·exact⟨rfl,FF.out⟩
 clear h1 h3 CM;go_wp2
 exact bodyPost_end (v:=.tuple #[]) (by simp[results,Tryz.results71,go_sem]) rfl FF.out
theorem Qk7 {w:World}{b:Nat}{O A Q:Nat→Prop}{s:JSt}{x:Qv}{rg ag:Option Addr}{rc ac:Nat}(hA:∀ k,A k→k<w.heap.size) (hJ:JOk s) (h:SAt w b O A s) (hregs:intsL.In w Q x.regs [.slice rg x.regs.length rc]) (hargs:intsL.In w Q x.args [.slice ag x.args.length ac]) (hrc:x.regs.length≤rc) (hrng:ZE x) (hf:x.form s.m.length=0) (hop:x.op=12) :
 Calls Tryz.prog 71 #[.pointer (some ⟨b,0,none⟩),QaR x rg ag rc ac] w fun e w'=>Zd w b O A s (s.next x) (s.goC x) e w':=by
 have hE:=Qao (s:=s) (.inr hop);obtain⟨op,xa,xb,xc,xk,xn,xr,xs⟩:=x
 have hop:op=12:=hop;subst hop;have HE:=Qa hE;obtain⟨f1,f2,f3,-⟩:=Zh hf
 have HF:=Qa (And.intro f1 (And.intro f2 f3));obtain⟨ra,rb,rcc⟩:=hrng
 have HI:=Qa (And.intro ra (And.intro rb rcc));have HJ:=Qa hJ;have H0:=Qa h;have HA0:=Qa hA;have hL:=hJ.vals;have b1:=Q5 w (.cells #[.int .i64 12,.int .i64 xa,.int .i64 xb,.int .i64 xc,.int .i64 xk,.int .i64 xn,.slice rg xr.length rc,.slice ag xs.length ac] 59);have H:=Qa (h.below b1);have HR:Hid (intsL.In _ Q xr [.slice rg xr.length rc]):=Lay.below hregs b1;have HG:Hid (intsL.In _ Q xs [.slice ag xs.length ac]):=Lay.below hargs b1;have HB:=Qa b1;have HA:=Qa (fun k hk=>Nat.lt_of_lt_of_le (hA k hk) b1.size);have HO:=Qa (fun k hk=>Nat.lt_of_lt_of_le (hA k (h.sub k hk)) b1.size);have X1:Hid (Blk (w.alloc (.cells #[.int .i64 12,.int .i64 xa,.int .i64 xb,.int .i64 xc,.int .i64 xk,.int .i64 xn,.slice rg xr.length rc,.slice ag xs.length ac] 59)) w.heap.size #[.int .i64 12,.int .i64 xa,.int .i64 xb,.int .i64 xc,.int .i64 xk,.int .i64 xn,.slice rg xr.length rc,.slice ag xs.length ac] 59):=Blk.new _ _ _;have HRC:Hid (xr.length≤rc):=hrc;clear h hA hJ b1 hregs hargs hE hf f1 f2 f3 ra rb rcc hrc;go_enter Tryz.func71,Tryz.ntmps71
 go_upto_region 1 with fail
 generalize w.alloc (.cells #[.int .i64 12,.int .i64 xa,.int .i64 xb,.int .i64 xc,.int .i64 xk,.int .i64 xn,.slice rg xr.length rc,.slice ag xs.length ac] 59)=w1 at H HR HG HB HA HO X1 ⊢;obtain⟨X,hX⟩:∃ X,w.heap.size=X:=⟨_,rfl⟩
 rw[hX] at X1 ⊢
 clear hX;have x0:=Qb X1.out 0 _ rfl;have x1:=Qb X1.out 1 _ rfl;have x2:=Qb X1.out 2 _ rfl;have x3:=Qb X1.out 3 _ rfl;have x4:=Qb X1.out 4 _ rfl;have x6:=Qb X1.out 6 _ rfl;have x7:=Qb X1.out 7 _ rfl;have HE2:Hid (∀ e w9,Zd w b O A s { s with L:=s.L++[tInt] } (Zp s.L.length 1) e w9→Zd w b O A s (s.next ⟨12,xa,xb,xc,xk,xn,xr,xs⟩) (s.goC ⟨12,xa,xb,xc,xk,xn,xr,xs⟩) e w9):=fun e w9 hd=>hd.to (by unfold JSt.goC;rw[HE.out];rfl) (fun _=>by rw[Zk (by simp) (by simp),HE.out]);have CM:=Qa (Qb0 hL HA.out H.out);go_wp2_with fail
 refine CM.out.mono ?_;rintro e' w9 hd;have FF:Hid (Zd w b O A s (s.next ⟨12,xa,xb,xc,xk,xn,xr,xs⟩) (s.goC ⟨12,xa,xb,xc,xk,xn,xr,xs⟩) e' w9):=HE2.out _ _ (hd.after HB.out);rcases hd with ⟨h1,rfl,h3⟩|⟨h1,rfl,h3⟩
 rotate_left
 ·exact⟨rfl,FF.out⟩
 clear h1 h3 CM;go_wp2
 exact bodyPost_end (v:=.tuple #[]) (by simp[results,Tryz.results71,go_sem]) rfl FF.out
theorem Qj6 {w:World}{b:Nat}{O A Q:Nat→Prop}{s:JSt}{x:Qv}{rg ag:Option Addr}{rc ac:Nat}(hA:∀ k,A k→k<w.heap.size) (hJ:JOk s) (h:SAt w b O A s) (hregs:intsL.In w Q x.regs [.slice rg x.regs.length rc]) (hargs:intsL.In w Q x.args [.slice ag x.args.length ac]) (hrc:x.regs.length≤rc) (hrng:ZE x) (hf:x.form s.m.length=0) (hop:x.op=2) :
 Calls Tryz.prog 71 #[.pointer (some ⟨b,0,none⟩),QaR x rg ag rc ac] w fun e w'=>Zd w b O A s (s.next x) (s.goC x) e w':=by
 have hE:=Qcl (s:=s) hop;obtain⟨op,xa,xb,xc,xk,xn,xr,xs⟩:=x
 have hop:op=2:=hop;subst hop;have HE:=Qa hE;obtain⟨f1,f2,f3,-⟩:=Zh hf
 have HF:=Qa (And.intro f1 (And.intro f2 f3));obtain⟨ra,rb,rcc⟩:=hrng
 have HI:=Qa (And.intro ra (And.intro rb rcc));have HJ:=Qa hJ;have H0:=Qa h;have HA0:=Qa hA;have hL:=hJ.vals;have b1:=Q5 w (.cells #[.int .i64 2,.int .i64 xa,.int .i64 xb,.int .i64 xc,.int .i64 xk,.int .i64 xn,.slice rg xr.length rc,.slice ag xs.length ac] 59);have H:=Qa (h.below b1);have HR:Hid (intsL.In _ Q xr [.slice rg xr.length rc]):=Lay.below hregs b1;have HG:Hid (intsL.In _ Q xs [.slice ag xs.length ac]):=Lay.below hargs b1;have HB:=Qa b1;have HA:=Qa (fun k hk=>Nat.lt_of_lt_of_le (hA k hk) b1.size);have HO:=Qa (fun k hk=>Nat.lt_of_lt_of_le (hA k (h.sub k hk)) b1.size);have X1:Hid (Blk (w.alloc (.cells #[.int .i64 2,.int .i64 xa,.int .i64 xb,.int .i64 xc,.int .i64 xk,.int .i64 xn,.slice rg xr.length rc,.slice ag xs.length ac] 59)) w.heap.size #[.int .i64 2,.int .i64 xa,.int .i64 xb,.int .i64 xc,.int .i64 xk,.int .i64 xn,.slice rg xr.length rc,.slice ag xs.length ac] 59):=Blk.new _ _ _;have HRC:Hid (xr.length≤rc):=hrc;clear h hA hJ b1 hregs hargs hE hf f1 f2 f3 ra rb rcc hrc;go_enter Tryz.func71,Tryz.ntmps71
 go_upto_region 1 with fail
 generalize w.alloc (.cells #[.int .i64 2,.int .i64 xa,.int .i64 xb,.int .i64 xc,.int .i64 xk,.int .i64 xn,.slice rg xr.length rc,.slice ag xs.length ac] 59)=w1 at H HR HG HB HA HO X1 ⊢;obtain⟨X,hX⟩:∃ X,w.heap.size=X:=⟨_,rfl⟩
 rw[hX] at X1 ⊢
 clear hX;have x0:=Qb X1.out 0 _ rfl;have x1:=Qb X1.out 1 _ rfl;have x2:=Qb X1.out 2 _ rfl;have x3:=Qb X1.out 3 _ rfl;have x4:=Qb X1.out 4 _ rfl;have x6:=Qb X1.out 6 _ rfl;have x7:=Qb X1.out 7 _ rfl;have EG:Hid (s.goC ⟨2,xa,xb,xc,xk,xn,xr,xs⟩=code2 (code2 (s.want xa 1 false) (s.want xb 1 false)) (Zp s.L.length 1)):=by show _=_;unfold JSt.goC;rw[HE.out];rfl
 have C1:=Qa (fun d=>Qfi xa xb HI.out.1 HI.out.2.1 d hL HO.out H.out);go_wp2_with fail
 refine(C1.out _).mono ?_
 rintro e' w2 ⟨hq,b2⟩;have HB2:=Qa (HB.out.trans (b2.mono HB.out.size));have H2:=Qa (H.out.below b2);have HA2:=Qa (fun k hk=>Nat.lt_of_lt_of_le (HA.out k hk) b2.size);have HO2:=Qa (fun k hk=>Nat.lt_of_lt_of_le (HO.out k hk) b2.size);rcases hq with ⟨hc,y2,rfl,hy⟩|⟨hc,rfl⟩
 rotate_left
 ·exact⟨rfl,Zd.bad ((fun hc=>by rw[EG.out,Qx hc]) hc) hc (STo.of_below H0.out HB2.out)⟩
 subst hy;have HC2:=Qa hc;clear hc b2 C1;have HE2:Hid (∀ e w9,Zd w b O A s { s with L:=s.L++[tInt] } (Zp s.L.length 1) e w9→Zd w b O A s (s.next ⟨2,xa,xb,xc,xk,xn,xr,xs⟩) (s.goC ⟨2,xa,xb,xc,xk,xn,xr,xs⟩) e w9):=fun e w9 hd=>hd.to (by rw[EG.out,QK HC2.out]) (fun _=>by rw[Zk (by simp) (by simp),HE.out]);have CM:=Qa (Qb0 hL HA2.out H2.out);go_wp2_with fail
 refine CM.out.mono ?_;rintro e' w9 hd;have FF:Hid (Zd w b O A s (s.next ⟨2,xa,xb,xc,xk,xn,xr,xs⟩) (s.goC ⟨2,xa,xb,xc,xk,xn,xr,xs⟩) e' w9):=HE2.out _ _ (hd.after HB2.out);rcases hd with ⟨h1,rfl,h3⟩|⟨h1,rfl,h3⟩
 rotate_left
 ·exact⟨rfl,FF.out⟩
 clear h1 h3 CM;go_wp2
 exact bodyPost_end (v:=.tuple #[]) (by simp[results,Tryz.results71,go_sem]) rfl FF.out
theorem Qkq {w:World}{b:Nat}{O A Q:Nat→Prop}{s:JSt}{x:Qv}{rg ag:Option Addr}{rc ac:Nat}(hA:∀ k,A k→k<w.heap.size) (hJ:JOk s) (h:SAt w b O A s) (hregs:intsL.In w Q x.regs [.slice rg x.regs.length rc]) (hargs:intsL.In w Q x.args [.slice ag x.args.length ac]) (hrc:x.regs.length≤rc) (hrng:ZE x) (hf:x.form s.m.length=0) (hop:x.op=3) :
 Calls Tryz.prog 71 #[.pointer (some ⟨b,0,none⟩),QaR x rg ag rc ac] w fun e w'=>Zd w b O A s (s.next x) (s.goC x) e w':=by
 have hE:=QaV (s:=s) hop;obtain⟨op,xa,xb,xc,xk,xn,xr,xs⟩:=x
 have hop:op=3:=hop;subst hop;have HE:=Qa hE;obtain⟨f1,f2,f3,-⟩:=Zh hf
 have HF:=Qa (And.intro f1 (And.intro f2 f3));obtain⟨ra,rb,rcc⟩:=hrng
 have HI:=Qa (And.intro ra (And.intro rb rcc));have HJ:=Qa hJ;have H0:=Qa h;have HA0:=Qa hA;have hL:=hJ.vals;have b1:=Q5 w (.cells #[.int .i64 3,.int .i64 xa,.int .i64 xb,.int .i64 xc,.int .i64 xk,.int .i64 xn,.slice rg xr.length rc,.slice ag xs.length ac] 59);have H:=Qa (h.below b1);have HR:Hid (intsL.In _ Q xr [.slice rg xr.length rc]):=Lay.below hregs b1;have HG:Hid (intsL.In _ Q xs [.slice ag xs.length ac]):=Lay.below hargs b1;have HB:=Qa b1;have HA:=Qa (fun k hk=>Nat.lt_of_lt_of_le (hA k hk) b1.size);have HO:=Qa (fun k hk=>Nat.lt_of_lt_of_le (hA k (h.sub k hk)) b1.size);have X1:Hid (Blk (w.alloc (.cells #[.int .i64 3,.int .i64 xa,.int .i64 xb,.int .i64 xc,.int .i64 xk,.int .i64 xn,.slice rg xr.length rc,.slice ag xs.length ac] 59)) w.heap.size #[.int .i64 3,.int .i64 xa,.int .i64 xb,.int .i64 xc,.int .i64 xk,.int .i64 xn,.slice rg xr.length rc,.slice ag xs.length ac] 59):=Blk.new _ _ _;have HRC:Hid (xr.length≤rc):=hrc;clear h hA hJ b1 hregs hargs hE hf f1 f2 f3 ra rb rcc hrc;go_enter Tryz.func71,Tryz.ntmps71
 go_upto_region 1 with fail
 generalize w.alloc (.cells #[.int .i64 3,.int .i64 xa,.int .i64 xb,.int .i64 xc,.int .i64 xk,.int .i64 xn,.slice rg xr.length rc,.slice ag xs.length ac] 59)=w1 at H HR HG HB HA HO X1 ⊢;obtain⟨X,hX⟩:∃ X,w.heap.size=X:=⟨_,rfl⟩
 rw[hX] at X1 ⊢
 clear hX;have x0:=Qb X1.out 0 _ rfl;have x1:=Qb X1.out 1 _ rfl;have x2:=Qb X1.out 2 _ rfl;have x3:=Qb X1.out 3 _ rfl;have x4:=Qb X1.out 4 _ rfl;have x6:=Qb X1.out 6 _ rfl;have x7:=Qb X1.out 7 _ rfl
 have HE2:Hid (∀ e w9,Zd w b O A s s.openS s.openC e w9→Zd w b O A s (s.next ⟨3,xa,xb,xc,xk,xn,xr,xs⟩) (s.goC ⟨3,xa,xb,xc,xk,xn,xr,xs⟩) e w9):=fun e w9 hd=>hd.to (by
  unfold JSt.goC;rw[HE.out]
  by_cases h16:s.H.length=16
  ·rw[if_pos h16]
   show code2 2 _=s.openC;unfold JSt.openC;rw[if_pos (Or.inr h16)];rfl
  ·rw[if_neg h16]
   show code2 0 (Zp s.L.length 1)=s.openC;rw[QK rfl]
   unfold Zp JSt.openC;by_cases h80:80<s.L.length+1
   ·rw[if_pos h80,if_pos (Or.inl h80)]
   ·rw[if_neg h80,if_neg (by omega)]) (fun h0=>by
  unfold JSt.openC at h0;unfold JSt.next JSt.openS
  rw[HE.out]
  by_cases h16:s.H.length=16
  ·rw[if_pos (Or.inr h16)] at h0;cases h0
  ·rw[if_neg h16];rfl)
 have CM:=Qa (Qio HJ.out.regs hL HA.out H.out);go_wp2_with fail
 refine CM.out.mono ?_;rintro e' w9 hd;have FF:Hid (Zd w b O A s (s.next ⟨3,xa,xb,xc,xk,xn,xr,xs⟩) (s.goC ⟨3,xa,xb,xc,xk,xn,xr,xs⟩) e' w9):=HE2.out _ _ (hd.after HB.out);rcases hd with ⟨h1,rfl,h3⟩|⟨h1,rfl,h3⟩
 rotate_left
 ·exact⟨rfl,FF.out⟩
 clear h1 h3 CM;go_wp2
 exact bodyPost_end (v:=.tuple #[]) (by simp[results,Tryz.results71,go_sem]) rfl FF.out
theorem QiZ {w:World}{b:Nat}{O A Q:Nat→Prop}{s:JSt}{x:Qv}{rg ag:Option Addr}{rc ac:Nat}(hA:∀ k,A k→k<w.heap.size) (hJ:JOk s) (h:SAt w b O A s) (hregs:intsL.In w Q x.regs [.slice rg x.regs.length rc]) (hargs:intsL.In w Q x.args [.slice ag x.args.length ac]) (hrc:x.regs.length≤rc) (hrng:ZE x) (hf:x.form s.m.length=0) (hop:x.op=4) :
 Calls Tryz.prog 71 #[.pointer (some ⟨b,0,none⟩),QaR x rg ag rc ac] w fun e w'=>Zd w b O A s (s.next x) (s.goC x) e w':=by
 have hE:=Qaj (s:=s) hop;obtain⟨op,xa,xb,xc,xk,xn,xr,xs⟩:=x
 have hop:op=4:=hop;subst hop;have HE:=Qa hE;obtain⟨f1,f2,f3,-⟩:=Zh hf
 have HF:=Qa (And.intro f1 (And.intro f2 f3));obtain⟨ra,rb,rcc⟩:=hrng
 have HI:=Qa (And.intro ra (And.intro rb rcc));have HJ:=Qa hJ;have H0:=Qa h;have HA0:=Qa hA;have hL:=hJ.vals;have b1:=Q5 w (.cells #[.int .i64 4,.int .i64 xa,.int .i64 xb,.int .i64 xc,.int .i64 xk,.int .i64 xn,.slice rg xr.length rc,.slice ag xs.length ac] 59);have H:=Qa (h.below b1);have HR:Hid (intsL.In _ Q xr [.slice rg xr.length rc]):=Lay.below hregs b1;have HG:Hid (intsL.In _ Q xs [.slice ag xs.length ac]):=Lay.below hargs b1;have HB:=Qa b1;have HA:=Qa (fun k hk=>Nat.lt_of_lt_of_le (hA k hk) b1.size);have HO:=Qa (fun k hk=>Nat.lt_of_lt_of_le (hA k (h.sub k hk)) b1.size);have X1:Hid (Blk (w.alloc (.cells #[.int .i64 4,.int .i64 xa,.int .i64 xb,.int .i64 xc,.int .i64 xk,.int .i64 xn,.slice rg xr.length rc,.slice ag xs.length ac] 59)) w.heap.size #[.int .i64 4,.int .i64 xa,.int .i64 xb,.int .i64 xc,.int .i64 xk,.int .i64 xn,.slice rg xr.length rc,.slice ag xs.length ac] 59):=Blk.new _ _ _;have HRC:Hid (xr.length≤rc):=hrc;clear h hA hJ b1 hregs hargs hE hf f1 f2 f3 ra rb rcc hrc;go_enter Tryz.func71,Tryz.ntmps71
 go_upto_region 1 with fail
 generalize w.alloc (.cells #[.int .i64 4,.int .i64 xa,.int .i64 xb,.int .i64 xc,.int .i64 xk,.int .i64 xn,.slice rg xr.length rc,.slice ag xs.length ac] 59)=w1 at H HR HG HB HA HO X1 ⊢;obtain⟨X,hX⟩:∃ X,w.heap.size=X:=⟨_,rfl⟩
 rw[hX] at X1 ⊢
 clear hX;have x0:=Qb X1.out 0 _ rfl;have x1:=Qb X1.out 1 _ rfl;have x2:=Qb X1.out 2 _ rfl;have x3:=Qb X1.out 3 _ rfl;have x4:=Qb X1.out 4 _ rfl;have x6:=Qb X1.out 6 _ rfl;have x7:=Qb X1.out 7 _ rfl
 have HE2:Hid (∀ e w9,Zd w b O A s (s.freeS xa) (s.freeC xa) e w9→Zd w b O A s (s.next ⟨4,xa,xb,xc,xk,xn,xr,xs⟩) (s.goC ⟨4,xa,xb,xc,xk,xn,xr,xs⟩) e w9):=fun e w9 hd=>hd.to (by
  unfold JSt.goC JSt.freeC;rw[HE.out]
  show code2 (match s.at xa with | none=>(1,[]) | some t=>(code2 (s.want xa 2 true) (if t.r<s.f.regs then 11 else 0),[])).1 _=_
  cases s.at xa with
  | none=>rfl
  | some t=>show code2 _ (Zp s.L.length 0)=_;rw[Qch hL,Qf1]) (fun h0=>by
  unfold JSt.next JSt.freeS
  rw[HE.out]
  show ({ s with H:=_,L:=s.L++(match s.at xa with | none=>(1,[]) | some t=>(code2 (s.want xa 2 true) (if t.r<s.f.regs then 11 else 0),[])).2 }:JSt)=_
  cases s.at xa with
  | none=>simp
  | some t=>simp)
 have CM:=Qa (Qiw xa hL HA.out H.out);go_wp2_with fail
 refine CM.out.mono ?_;rintro e' w9 hd;have FF:Hid (Zd w b O A s (s.next ⟨4,xa,xb,xc,xk,xn,xr,xs⟩) (s.goC ⟨4,xa,xb,xc,xk,xn,xr,xs⟩) e' w9):=HE2.out _ _ (hd.after HB.out);rcases hd with ⟨h1,rfl,h3⟩|⟨h1,rfl,h3⟩
 rotate_left
 ·exact⟨rfl,FF.out⟩
 clear h1 h3 CM;go_wp2
 exact bodyPost_end (v:=.tuple #[]) (by simp[results,Tryz.results71,go_sem]) rfl FF.out
theorem QhK {w:World}{b:Nat}{O A Q:Nat→Prop}{s:JSt}{x:Qv}{rg ag:Option Addr}{rc ac:Nat}(hA:∀ k,A k→k<w.heap.size) (hJ:JOk s) (h:SAt w b O A s) (hregs:intsL.In w Q x.regs [.slice rg x.regs.length rc]) (hargs:intsL.In w Q x.args [.slice ag x.args.length ac]) (hrc:x.regs.length≤rc) (hrng:ZE x) (hf:x.form s.m.length=0) (hop:x.op=5) :
 Calls Tryz.prog 71 #[.pointer (some ⟨b,0,none⟩),QaR x rg ag rc ac] w fun e w'=>Zd w b O A s (s.next x) (s.goC x) e w':=by
 have hE:=Qa4 (s:=s) hop;obtain⟨op,xa,xb,xc,xk,xn,xr,xs⟩:=x
 have hop:op=5:=hop;subst hop;have HE:=Qa hE;obtain⟨f1,f2,f3,-⟩:=Zh hf
 have HF:=Qa (And.intro f1 (And.intro f2 f3));obtain⟨ra,rb,rcc⟩:=hrng
 have HI:=Qa (And.intro ra (And.intro rb rcc));have HJ:=Qa hJ;have H0:=Qa h;have HA0:=Qa hA;have hL:=hJ.vals;have b1:=Q5 w (.cells #[.int .i64 5,.int .i64 xa,.int .i64 xb,.int .i64 xc,.int .i64 xk,.int .i64 xn,.slice rg xr.length rc,.slice ag xs.length ac] 59);have H:=Qa (h.below b1);have HR:Hid (intsL.In _ Q xr [.slice rg xr.length rc]):=Lay.below hregs b1;have HG:Hid (intsL.In _ Q xs [.slice ag xs.length ac]):=Lay.below hargs b1;have HB:=Qa b1;have HA:=Qa (fun k hk=>Nat.lt_of_lt_of_le (hA k hk) b1.size);have HO:=Qa (fun k hk=>Nat.lt_of_lt_of_le (hA k (h.sub k hk)) b1.size);have X1:Hid (Blk (w.alloc (.cells #[.int .i64 5,.int .i64 xa,.int .i64 xb,.int .i64 xc,.int .i64 xk,.int .i64 xn,.slice rg xr.length rc,.slice ag xs.length ac] 59)) w.heap.size #[.int .i64 5,.int .i64 xa,.int .i64 xb,.int .i64 xc,.int .i64 xk,.int .i64 xn,.slice rg xr.length rc,.slice ag xs.length ac] 59):=Blk.new _ _ _;have HRC:Hid (xr.length≤rc):=hrc;clear h hA hJ b1 hregs hargs hE hf f1 f2 f3 ra rb rcc hrc;go_enter Tryz.func71,Tryz.ntmps71
 go_upto_region 1 with fail
 generalize w.alloc (.cells #[.int .i64 5,.int .i64 xa,.int .i64 xb,.int .i64 xc,.int .i64 xk,.int .i64 xn,.slice rg xr.length rc,.slice ag xs.length ac] 59)=w1 at H HR HG HB HA HO X1 ⊢;obtain⟨X,hX⟩:∃ X,w.heap.size=X:=⟨_,rfl⟩
 rw[hX] at X1 ⊢
 clear hX;have x0:=Qb X1.out 0 _ rfl;have x1:=Qb X1.out 1 _ rfl;have x2:=Qb X1.out 2 _ rfl;have x3:=Qb X1.out 3 _ rfl;have x4:=Qb X1.out 4 _ rfl;have x6:=Qb X1.out 6 _ rfl;have x7:=Qb X1.out 7 _ rfl
 have HE2:Hid (∀ e w9,Zd w b O A s (s.tupleS xa xs) (s.tupleC xa xs) e w9→Zd w b O A s (s.next ⟨5,xa,xb,xc,xk,xn,xr,xs⟩) (s.goC ⟨5,xa,xb,xc,xk,xn,xr,xs⟩) e w9):=fun e w9 hd=>hd.to (by
  unfold JSt.goC JSt.tupleC;rw[HE.out]
  simp only
  cases ha:s.at xa with
  | none=>unfold JSt.want;rw[ha];rfl
  | some t =>
   simp only
   by_cases hw:s.want xa 2 true=0
   ·rw[if_pos hw,QK hw]
    cases s.fields xs with
    | none=>rfl
    | some l =>
     simp only
     by_cases h4:4<TT.height (n:=7) (mkT 3 t.r l)
     ·rw[if_pos h4,if_pos h4];rfl
     ·rw[if_neg h4,if_neg h4];rfl
   ·rw[if_neg hw,Qx hw,Qx hw]) (fun h0=>by
  rw[Zk (by simp) (by simp),HE.out]
  unfold JSt.tupleC at h0;unfold JSt.tupleS;simp only
  cases ha:s.at xa with
  | none=>rfl
  | some t =>
   rw[ha] at h0
   simp only at h0 ⊢
   by_cases hw:s.want xa 2 true=0
   ·rw[QK hw] at h0
    rw[if_pos hw]
    cases hl:s.fields xs with
    | none=>simp[hl] at h0
    | some l =>
     rw[hl] at h0
     simp only at h0 ⊢
     by_cases h4:4<TT.height (n:=7) (mkT 3 t.r l)
     ·rw[if_pos h4] at h0;cases h0
     ·rw[if_neg h4]
   ·rw[Qx hw] at h0;exact absurd h0 hw)
 have CM:=Qa (QgK xa rfl (HF.out.2.2 rfl) HG.out HJ.out HA.out H.out);go_wp2_with fail
 refine CM.out.mono ?_;rintro e' w9 hd;have FF:Hid (Zd w b O A s (s.next ⟨5,xa,xb,xc,xk,xn,xr,xs⟩) (s.goC ⟨5,xa,xb,xc,xk,xn,xr,xs⟩) e' w9):=HE2.out _ _ (hd.after HB.out);rcases hd with ⟨h1,rfl,h3⟩|⟨h1,rfl,h3⟩
 rotate_left
 ·exact⟨rfl,FF.out⟩
 clear h1 h3 CM;go_wp2
 exact bodyPost_end (v:=.tuple #[]) (by simp[results,Tryz.results71,go_sem]) rfl FF.out
theorem QhQ {w:World}{b:Nat}{O A Q:Nat→Prop}{s:JSt}{x:Qv}{rg ag:Option Addr}{rc ac:Nat}(hA:∀ k,A k→k<w.heap.size) (hJ:JOk s) (h:SAt w b O A s) (hregs:intsL.In w Q x.regs [.slice rg x.regs.length rc]) (hargs:intsL.In w Q x.args [.slice ag x.args.length ac]) (hrc:x.regs.length≤rc) (hrng:ZE x) (hf:x.form s.m.length=0) (hop:x.op=8) :
 Calls Tryz.prog 71 #[.pointer (some ⟨b,0,none⟩),QaR x rg ag rc ac] w fun e w'=>Zd w b O A s (s.next x) (s.goC x) e w':=by
 have hE:=Qbg (s:=s) hop;obtain⟨op,xa,xb,xc,xk,xn,xr,xs⟩:=x
 have hop:op=8:=hop;subst hop;have HE:=Qa hE;obtain⟨f1,f2,f3,-⟩:=Zh hf
 have HF:=Qa (And.intro f1 (And.intro f2 f3));obtain⟨ra,rb,rcc⟩:=hrng
 have HI:=Qa (And.intro ra (And.intro rb rcc));have HJ:=Qa hJ;have H0:=Qa h;have HA0:=Qa hA;have hL:=hJ.vals;have b1:=Q5 w (.cells #[.int .i64 8,.int .i64 xa,.int .i64 xb,.int .i64 xc,.int .i64 xk,.int .i64 xn,.slice rg xr.length rc,.slice ag xs.length ac] 59);have H:=Qa (h.below b1);have HR:Hid (intsL.In _ Q xr [.slice rg xr.length rc]):=Lay.below hregs b1;have HG:Hid (intsL.In _ Q xs [.slice ag xs.length ac]):=Lay.below hargs b1;have HB:=Qa b1;have HA:=Qa (fun k hk=>Nat.lt_of_lt_of_le (hA k hk) b1.size);have HO:=Qa (fun k hk=>Nat.lt_of_lt_of_le (hA k (h.sub k hk)) b1.size);have X1:Hid (Blk (w.alloc (.cells #[.int .i64 8,.int .i64 xa,.int .i64 xb,.int .i64 xc,.int .i64 xk,.int .i64 xn,.slice rg xr.length rc,.slice ag xs.length ac] 59)) w.heap.size #[.int .i64 8,.int .i64 xa,.int .i64 xb,.int .i64 xc,.int .i64 xk,.int .i64 xn,.slice rg xr.length rc,.slice ag xs.length ac] 59):=Blk.new _ _ _;have HRC:Hid (xr.length≤rc):=hrc;clear h hA hJ b1 hregs hargs hE hf f1 f2 f3 ra rb rcc hrc;go_enter Tryz.func71,Tryz.ntmps71
 go_upto_region 1 with fail
 generalize w.alloc (.cells #[.int .i64 8,.int .i64 xa,.int .i64 xb,.int .i64 xc,.int .i64 xk,.int .i64 xn,.slice rg xr.length rc,.slice ag xs.length ac] 59)=w1 at H HR HG HB HA HO X1 ⊢;obtain⟨X,hX⟩:∃ X,w.heap.size=X:=⟨_,rfl⟩
 rw[hX] at X1 ⊢
 clear hX;have x0:=Qb X1.out 0 _ rfl;have x1:=Qb X1.out 1 _ rfl;have x2:=Qb X1.out 2 _ rfl;have x3:=Qb X1.out 3 _ rfl;have x4:=Qb X1.out 4 _ rfl;have x6:=Qb X1.out 6 _ rfl;have x7:=Qb X1.out 7 _ rfl
 have HE2:Hid (∀ e w9,(∀ t,(s.at xa=some t∨(s.at xa=none∧t=tInt))→Zd w b O A s { s with L:=s.L++[mkT 4 t.r []] } (s.arrayC xa xb) e w9)→Zd w b O A s (s.next ⟨8,xa,xb,xc,xk,xn,xr,xs⟩) (s.goC ⟨8,xa,xb,xc,xk,xn,xr,xs⟩) e w9):=fun e w9 hd=>by
  cases ha:s.at xa with
  | none =>
   refine(hd tInt (.inr ⟨ha,rfl⟩)).to (by unfold JSt.goC JSt.arrayC;rw[HE.out];simp only[ha];unfold JSt.want;rw[ha];rfl) (fun h0=>?_)
   unfold JSt.arrayC JSt.want at h0;rw[ha] at h0
   cases h0
  | some t =>
   refine(hd t (.inl ha)).to (by unfold JSt.goC JSt.arrayC;rw[HE.out];simp only[ha];rfl) (fun h0=>?_)
   rw[Zk (by simp) (by simp),HE.out]
   simp only[ha]
 have CM:=Qa (Qg7 xa xb HI.out.2.1 HJ.out.regs hL HA.out H.out);go_wp2_with fail
 refine CM.out.mono ?_;rintro e' w9 hd;have FF:Hid (Zd w b O A s (s.next ⟨8,xa,xb,xc,xk,xn,xr,xs⟩) (s.goC ⟨8,xa,xb,xc,xk,xn,xr,xs⟩) e' w9):=HE2.out _ _ (fun t ht=>(hd t ht).after HB.out);have hd:=hd ((s.at xa).getD tInt) (by cases s.at xa with | none=>exact .inr ⟨rfl,rfl⟩ | some t=>exact .inl rfl);rcases hd with ⟨h1,rfl,h3⟩|⟨h1,rfl,h3⟩
 rotate_left
 ·exact⟨rfl,FF.out⟩
 clear h1 h3 CM;go_wp2
 exact bodyPost_end (v:=.tuple #[]) (by simp[results,Tryz.results71,go_sem]) rfl FF.out
theorem Qjk {w:World}{b:Nat}{O A Q:Nat→Prop}{s:JSt}{x:Qv}{rg ag:Option Addr}{rc ac:Nat}(hA:∀ k,A k→k<w.heap.size) (hJ:JOk s) (h:SAt w b O A s) (hregs:intsL.In w Q x.regs [.slice rg x.regs.length rc]) (hargs:intsL.In w Q x.args [.slice ag x.args.length ac]) (hrc:x.regs.length≤rc) (hrng:ZE x) (hf:x.form s.m.length=0) (hop:x.op=9) :
 Calls Tryz.prog 71 #[.pointer (some ⟨b,0,none⟩),QaR x rg ag rc ac] w fun e w'=>Zd w b O A s (s.next x) (s.goC x) e w':=by
 have hE:=QbJ (s:=s) hop;obtain⟨op,xa,xb,xc,xk,xn,xr,xs⟩:=x
 have hop:op=9:=hop;subst hop;have HE:=Qa hE;obtain⟨f1,f2,f3,-⟩:=Zh hf
 have HF:=Qa (And.intro f1 (And.intro f2 f3));obtain⟨ra,rb,rcc⟩:=hrng
 have HI:=Qa (And.intro ra (And.intro rb rcc));have HJ:=Qa hJ;have H0:=Qa h;have HA0:=Qa hA;have hL:=hJ.vals;have b1:=Q5 w (.cells #[.int .i64 9,.int .i64 xa,.int .i64 xb,.int .i64 xc,.int .i64 xk,.int .i64 xn,.slice rg xr.length rc,.slice ag xs.length ac] 59);have H:=Qa (h.below b1);have HR:Hid (intsL.In _ Q xr [.slice rg xr.length rc]):=Lay.below hregs b1;have HG:Hid (intsL.In _ Q xs [.slice ag xs.length ac]):=Lay.below hargs b1;have HB:=Qa b1;have HA:=Qa (fun k hk=>Nat.lt_of_lt_of_le (hA k hk) b1.size);have HO:=Qa (fun k hk=>Nat.lt_of_lt_of_le (hA k (h.sub k hk)) b1.size);have X1:Hid (Blk (w.alloc (.cells #[.int .i64 9,.int .i64 xa,.int .i64 xb,.int .i64 xc,.int .i64 xk,.int .i64 xn,.slice rg xr.length rc,.slice ag xs.length ac] 59)) w.heap.size #[.int .i64 9,.int .i64 xa,.int .i64 xb,.int .i64 xc,.int .i64 xk,.int .i64 xn,.slice rg xr.length rc,.slice ag xs.length ac] 59):=Blk.new _ _ _;have HRC:Hid (xr.length≤rc):=hrc;clear h hA hJ b1 hregs hargs hE hf f1 f2 f3 ra rb rcc hrc;go_enter Tryz.func71,Tryz.ntmps71
 go_upto_region 1 with fail
 generalize w.alloc (.cells #[.int .i64 9,.int .i64 xa,.int .i64 xb,.int .i64 xc,.int .i64 xk,.int .i64 xn,.slice rg xr.length rc,.slice ag xs.length ac] 59)=w1 at H HR HG HB HA HO X1 ⊢;obtain⟨X,hX⟩:∃ X,w.heap.size=X:=⟨_,rfl⟩
 rw[hX] at X1 ⊢
 clear hX;have x0:=Qb X1.out 0 _ rfl;have x1:=Qb X1.out 1 _ rfl;have x2:=Qb X1.out 2 _ rfl;have x3:=Qb X1.out 3 _ rfl;have x4:=Qb X1.out 4 _ rfl;have x6:=Qb X1.out 6 _ rfl;have x7:=Qb X1.out 7 _ rfl;have EG:Hid (s.goC ⟨9,xa,xb,xc,xk,xn,xr,xs⟩=code2 (code2 (s.want xa 4 true) (s.want xb 1 false)) (Zp s.L.length 1)):=by show _=_;unfold JSt.goC;rw[HE.out];rfl
 have C1:=Qa (QaB xa 4 hL HO.out H.out);go_wp2_with fail
 refine(C1.out ).mono ?_
 rintro e' w2 ⟨hq,b2⟩;have HB2:=Qa (HB.out.trans (b2.mono HB.out.size));have H2:=Qa (H.out.below b2);have HA2:=Qa (fun k hk=>Nat.lt_of_lt_of_le (HA.out k hk) b2.size);have HO2:=Qa (fun k hk=>Nat.lt_of_lt_of_le (HO.out k hk) b2.size);rcases hq with ⟨hc,y2,rfl,hy⟩|⟨hc,rfl⟩
 rotate_left
 ·exact⟨rfl,Zd.bad ((fun hc=>by rw[EG.out,Qx (by rw[Qx hc];exact hc),Qx hc]) hc) hc (STo.of_below H0.out HB2.out)⟩
 have HC2:=Qa hc;have x2:=Qk x2 b2;clear hc b2 C1;have C2:=Qa (fun d=>Qcd xb HI.out.2.1 d hL HO2.out H2.out);go_wp2_with fail
 refine(C2.out _).mono ?_
 rintro e' w3 ⟨hq,b3⟩;have HB3:=Qa (HB2.out.trans (b3.mono HB2.out.size));have H3:=Qa (H2.out.below b3);have HA3:=Qa (fun k hk=>Nat.lt_of_lt_of_le (HA2.out k hk) b3.size);have HO3:=Qa (fun k hk=>Nat.lt_of_lt_of_le (HO2.out k hk) b3.size);rcases hq with ⟨hc,y3,rfl,hy⟩|⟨hc,rfl⟩
 rotate_left
 ·exact⟨rfl,Zd.bad ((fun hc=>by rw[EG.out,QK HC2.out,Qx hc]) hc) hc (STo.of_below H0.out HB3.out)⟩
 subst hy;have HC3:=Qa hc;clear hc b3 C2;have HE2:Hid (∀ e w9,Zd w b O A s { s with L:=s.L++[tInt] } (Zp s.L.length 1) e w9→Zd w b O A s (s.next ⟨9,xa,xb,xc,xk,xn,xr,xs⟩) (s.goC ⟨9,xa,xb,xc,xk,xn,xr,xs⟩) e w9):=fun e w9 hd=>hd.to (by rw[EG.out,QK HC2.out,QK HC3.out]) (fun _=>by rw[Zk (by simp) (by simp),HE.out]);have CM:=Qa (Qb0 hL HA3.out H3.out);go_wp2_with fail
 refine CM.out.mono ?_;rintro e' w9 hd;have FF:Hid (Zd w b O A s (s.next ⟨9,xa,xb,xc,xk,xn,xr,xs⟩) (s.goC ⟨9,xa,xb,xc,xk,xn,xr,xs⟩) e' w9):=HE2.out _ _ (hd.after HB3.out);rcases hd with ⟨h1,rfl,h3⟩|⟨h1,rfl,h3⟩
 rotate_left
 ·exact⟨rfl,FF.out⟩
 clear h1 h3 CM;go_wp2
 exact bodyPost_end (v:=.tuple #[]) (by simp[results,Tryz.results71,go_sem]) rfl FF.out
theorem Qir {w:World}{b:Nat}{O A Q:Nat→Prop}{s:JSt}{x:Qv}{rg ag:Option Addr}{rc ac:Nat}(hA:∀ k,A k→k<w.heap.size) (hJ:JOk s) (h:SAt w b O A s) (hregs:intsL.In w Q x.regs [.slice rg x.regs.length rc]) (hargs:intsL.In w Q x.args [.slice ag x.args.length ac]) (hrc:x.regs.length≤rc) (hrng:ZE x) (hf:x.form s.m.length=0) (hop:x.op=10) :
 Calls Tryz.prog 71 #[.pointer (some ⟨b,0,none⟩),QaR x rg ag rc ac] w fun e w'=>Zd w b O A s (s.next x) (s.goC x) e w':=by
 have hE:=Qa2 (s:=s) hop;obtain⟨op,xa,xb,xc,xk,xn,xr,xs⟩:=x
 have hop:op=10:=hop;subst hop;have HE:=Qa hE;obtain⟨f1,f2,f3,-⟩:=Zh hf
 have HF:=Qa (And.intro f1 (And.intro f2 f3));obtain⟨ra,rb,rcc⟩:=hrng
 have HI:=Qa (And.intro ra (And.intro rb rcc));have HJ:=Qa hJ;have H0:=Qa h;have HA0:=Qa hA;have hL:=hJ.vals;have b1:=Q5 w (.cells #[.int .i64 10,.int .i64 xa,.int .i64 xb,.int .i64 xc,.int .i64 xk,.int .i64 xn,.slice rg xr.length rc,.slice ag xs.length ac] 59);have H:=Qa (h.below b1);have HR:Hid (intsL.In _ Q xr [.slice rg xr.length rc]):=Lay.below hregs b1;have HG:Hid (intsL.In _ Q xs [.slice ag xs.length ac]):=Lay.below hargs b1;have HB:=Qa b1;have HA:=Qa (fun k hk=>Nat.lt_of_lt_of_le (hA k hk) b1.size);have HO:=Qa (fun k hk=>Nat.lt_of_lt_of_le (hA k (h.sub k hk)) b1.size);have X1:Hid (Blk (w.alloc (.cells #[.int .i64 10,.int .i64 xa,.int .i64 xb,.int .i64 xc,.int .i64 xk,.int .i64 xn,.slice rg xr.length rc,.slice ag xs.length ac] 59)) w.heap.size #[.int .i64 10,.int .i64 xa,.int .i64 xb,.int .i64 xc,.int .i64 xk,.int .i64 xn,.slice rg xr.length rc,.slice ag xs.length ac] 59):=Blk.new _ _ _;have HRC:Hid (xr.length≤rc):=hrc;clear h hA hJ b1 hregs hargs hE hf f1 f2 f3 ra rb rcc hrc;go_enter Tryz.func71,Tryz.ntmps71
 go_upto_region 1 with fail
 generalize w.alloc (.cells #[.int .i64 10,.int .i64 xa,.int .i64 xb,.int .i64 xc,.int .i64 xk,.int .i64 xn,.slice rg xr.length rc,.slice ag xs.length ac] 59)=w1 at H HR HG HB HA HO X1 ⊢;obtain⟨X,hX⟩:∃ X,w.heap.size=X:=⟨_,rfl⟩
 rw[hX] at X1 ⊢
 clear hX;have x0:=Qb X1.out 0 _ rfl;have x1:=Qb X1.out 1 _ rfl;have x2:=Qb X1.out 2 _ rfl;have x3:=Qb X1.out 3 _ rfl;have x4:=Qb X1.out 4 _ rfl;have x6:=Qb X1.out 6 _ rfl;have x7:=Qb X1.out 7 _ rfl;have EG:Hid (s.goC ⟨10,xa,xb,xc,xk,xn,xr,xs⟩=code2 (s.want xa 4 true) (code2 (s.want xb 1 false) (s.want xc 1 false))):=by show _=_;unfold JSt.goC;rw[HE.out];show code2 _ (Zp s.L.length 0)=_;rw[Qch hL,Qf1]
 have C1:=Qa (QaB xa 4 hL HO.out H.out);go_wp2_with fail
 refine(C1.out ).mono ?_
 rintro e' w2 ⟨hq,b2⟩;have HB2:=Qa (HB.out.trans (b2.mono HB.out.size));have H2:=Qa (H.out.below b2);have HA2:=Qa (fun k hk=>Nat.lt_of_lt_of_le (HA.out k hk) b2.size);have HO2:=Qa (fun k hk=>Nat.lt_of_lt_of_le (HO.out k hk) b2.size);rcases hq with ⟨hc,y2,rfl,hy⟩|⟨hc,rfl⟩
 rotate_left
 ·exact⟨rfl,Zd.bad ((fun hc=>by rw[EG.out,Qx hc]) hc) hc (STo.of_below H0.out HB2.out)⟩
 have HC2:=Qa hc;have x2:=Qk x2 b2;have x3:=Qk x3 b2;clear hc b2 C1;have C2:=Qa (fun d=>Qfi xb xc HI.out.2.1 HI.out.2.2 d hL HO2.out H2.out);go_wp2_with fail
 refine(C2.out _).mono ?_
 rintro e' w3 ⟨hq,b3⟩;have HB3:=Qa (HB2.out.trans (b3.mono HB2.out.size));have H3:=Qa (H2.out.below b3);have HA3:=Qa (fun k hk=>Nat.lt_of_lt_of_le (HA2.out k hk) b3.size);have HO3:=Qa (fun k hk=>Nat.lt_of_lt_of_le (HO2.out k hk) b3.size);rcases hq with ⟨hc,y3,rfl,hy⟩|⟨hc,rfl⟩
 rotate_left
 ·exact⟨rfl,Zd.bad ((fun hc=>by rw[EG.out,QK HC2.out]) hc) hc (STo.of_below H0.out HB3.out)⟩
 subst hy;have HC3:=Qa hc;clear hc b3 C2;have FF:Hid (Zd w b O A s (s.next ⟨10,xa,xb,xc,xk,xn,xr,xs⟩) (s.goC ⟨10,xa,xb,xc,xk,xn,xr,xs⟩) (.returned (.tuple #[])) w3):=Zd.none H0.out HB3.out (by rw[EG.out,QK HC2.out,HC3.out]) (by rw[Zk (by simp) (by simp),HE.out];simp);go_wp2
 exact bodyPost_end (v:=.tuple #[]) (by simp[results,Tryz.results71,go_sem]) rfl FF.out
theorem Qkn {w:World}{b:Nat}{O A Q:Nat→Prop}{s:JSt}{x:Qv}{rg ag:Option Addr}{rc ac:Nat}(hA:∀ k,A k→k<w.heap.size) (hJ:JOk s) (h:SAt w b O A s) (hregs:intsL.In w Q x.regs [.slice rg x.regs.length rc]) (hargs:intsL.In w Q x.args [.slice ag x.args.length ac]) (hrc:x.regs.length≤rc) (hrng:ZE x) (hf:x.form s.m.length=0) (hop:x.op=11) :
 Calls Tryz.prog 71 #[.pointer (some ⟨b,0,none⟩),QaR x rg ag rc ac] w fun e w'=>Zd w b O A s (s.next x) (s.goC x) e w':=by
 have hE:=Qby (s:=s) hop;obtain⟨op,xa,xb,xc,xk,xn,xr,xs⟩:=x
 have hop:op=11:=hop;subst hop;have HE:=Qa hE;obtain⟨f1,f2,f3,-⟩:=Zh hf
 have HF:=Qa (And.intro f1 (And.intro f2 f3));obtain⟨ra,rb,rcc⟩:=hrng
 have HI:=Qa (And.intro ra (And.intro rb rcc));have HJ:=Qa hJ;have H0:=Qa h;have HA0:=Qa hA;have hL:=hJ.vals;have b1:=Q5 w (.cells #[.int .i64 11,.int .i64 xa,.int .i64 xb,.int .i64 xc,.int .i64 xk,.int .i64 xn,.slice rg xr.length rc,.slice ag xs.length ac] 59);have H:=Qa (h.below b1);have HR:Hid (intsL.In _ Q xr [.slice rg xr.length rc]):=Lay.below hregs b1;have HG:Hid (intsL.In _ Q xs [.slice ag xs.length ac]):=Lay.below hargs b1;have HB:=Qa b1;have HA:=Qa (fun k hk=>Nat.lt_of_lt_of_le (hA k hk) b1.size);have HO:=Qa (fun k hk=>Nat.lt_of_lt_of_le (hA k (h.sub k hk)) b1.size);have X1:Hid (Blk (w.alloc (.cells #[.int .i64 11,.int .i64 xa,.int .i64 xb,.int .i64 xc,.int .i64 xk,.int .i64 xn,.slice rg xr.length rc,.slice ag xs.length ac] 59)) w.heap.size #[.int .i64 11,.int .i64 xa,.int .i64 xb,.int .i64 xc,.int .i64 xk,.int .i64 xn,.slice rg xr.length rc,.slice ag xs.length ac] 59):=Blk.new _ _ _;have HRC:Hid (xr.length≤rc):=hrc;clear h hA hJ b1 hregs hargs hE hf f1 f2 f3 ra rb rcc hrc;go_enter Tryz.func71,Tryz.ntmps71
 go_upto_region 1 with fail
 generalize w.alloc (.cells #[.int .i64 11,.int .i64 xa,.int .i64 xb,.int .i64 xc,.int .i64 xk,.int .i64 xn,.slice rg xr.length rc,.slice ag xs.length ac] 59)=w1 at H HR HG HB HA HO X1 ⊢;obtain⟨X,hX⟩:∃ X,w.heap.size=X:=⟨_,rfl⟩
 rw[hX] at X1 ⊢
 clear hX;have x0:=Qb X1.out 0 _ rfl;have x1:=Qb X1.out 1 _ rfl;have x2:=Qb X1.out 2 _ rfl;have x3:=Qb X1.out 3 _ rfl;have x4:=Qb X1.out 4 _ rfl;have x6:=Qb X1.out 6 _ rfl;have x7:=Qb X1.out 7 _ rfl;have EG:Hid (s.goC ⟨11,xa,xb,xc,xk,xn,xr,xs⟩=code2 (s.want xa 4 true) (Zp s.L.length 1)):=by show _=_;unfold JSt.goC;rw[HE.out];rfl
 have C1:=Qa (QaB xa 4 hL HO.out H.out);go_wp2_with fail
 refine(C1.out ).mono ?_
 rintro e' w2 ⟨hq,b2⟩;have HB2:=Qa (HB.out.trans (b2.mono HB.out.size));have H2:=Qa (H.out.below b2);have HA2:=Qa (fun k hk=>Nat.lt_of_lt_of_le (HA.out k hk) b2.size);have HO2:=Qa (fun k hk=>Nat.lt_of_lt_of_le (HO.out k hk) b2.size);rcases hq with ⟨hc,y2,rfl,hy⟩|⟨hc,rfl⟩
 rotate_left
 ·exact⟨rfl,Zd.bad ((fun hc=>by rw[EG.out,Qx hc]) hc) hc (STo.of_below H0.out HB2.out)⟩
 have HC2:=Qa hc;clear hc b2 C1;have HE2:Hid (∀ e w9,Zd w b O A s { s with L:=s.L++[tInt] } (Zp s.L.length 1) e w9→Zd w b O A s (s.next ⟨11,xa,xb,xc,xk,xn,xr,xs⟩) (s.goC ⟨11,xa,xb,xc,xk,xn,xr,xs⟩) e w9):=fun e w9 hd=>hd.to (by rw[EG.out,QK HC2.out]) (fun _=>by rw[Zk (by simp) (by simp),HE.out]);have CM:=Qa (Qb0 hL HA2.out H2.out);go_wp2_with fail
 refine CM.out.mono ?_;rintro e' w9 hd;have FF:Hid (Zd w b O A s (s.next ⟨11,xa,xb,xc,xk,xn,xr,xs⟩) (s.goC ⟨11,xa,xb,xc,xk,xn,xr,xs⟩) e' w9):=HE2.out _ _ (hd.after HB2.out);rcases hd with ⟨h1,rfl,h3⟩|⟨h1,rfl,h3⟩
 rotate_left
 ·exact⟨rfl,FF.out⟩
 clear h1 h3 CM;go_wp2
 exact bodyPost_end (v:=.tuple #[]) (by simp[results,Tryz.results71,go_sem]) rfl FF.out
theorem QjL {w:World}{b:Nat}{O A Q:Nat→Prop}{s:JSt}{x:Qv}{rg ag:Option Addr}{rc ac:Nat}(hA:∀ k,A k→k<w.heap.size) (hJ:JOk s) (h:SAt w b O A s) (hregs:intsL.In w Q x.regs [.slice rg x.regs.length rc]) (hargs:intsL.In w Q x.args [.slice ag x.args.length ac]) (hrc:x.regs.length≤rc) (hrng:ZE x) (hf:x.form s.m.length=0) (hop:x.op=13) :
 Calls Tryz.prog 71 #[.pointer (some ⟨b,0,none⟩),QaR x rg ag rc ac] w fun e w'=>Zd w b O A s (s.next x) (s.goC x) e w':=by
 have hE:=Qcj (s:=s) hop;obtain⟨op,xa,xb,xc,xk,xn,xr,xs⟩:=x
 have hop:op=13:=hop;subst hop;have HE:=Qa hE;obtain⟨f1,f2,f3,-⟩:=Zh hf
 have HF:=Qa (And.intro f1 (And.intro f2 f3));obtain⟨ra,rb,rcc⟩:=hrng
 have HI:=Qa (And.intro ra (And.intro rb rcc));have HJ:=Qa hJ;have H0:=Qa h;have HA0:=Qa hA;have hL:=hJ.vals;have b1:=Q5 w (.cells #[.int .i64 13,.int .i64 xa,.int .i64 xb,.int .i64 xc,.int .i64 xk,.int .i64 xn,.slice rg xr.length rc,.slice ag xs.length ac] 59);have H:=Qa (h.below b1);have HR:Hid (intsL.In _ Q xr [.slice rg xr.length rc]):=Lay.below hregs b1;have HG:Hid (intsL.In _ Q xs [.slice ag xs.length ac]):=Lay.below hargs b1;have HB:=Qa b1;have HA:=Qa (fun k hk=>Nat.lt_of_lt_of_le (hA k hk) b1.size);have HO:=Qa (fun k hk=>Nat.lt_of_lt_of_le (hA k (h.sub k hk)) b1.size);have X1:Hid (Blk (w.alloc (.cells #[.int .i64 13,.int .i64 xa,.int .i64 xb,.int .i64 xc,.int .i64 xk,.int .i64 xn,.slice rg xr.length rc,.slice ag xs.length ac] 59)) w.heap.size #[.int .i64 13,.int .i64 xa,.int .i64 xb,.int .i64 xc,.int .i64 xk,.int .i64 xn,.slice rg xr.length rc,.slice ag xs.length ac] 59):=Blk.new _ _ _;have HRC:Hid (xr.length≤rc):=hrc;clear h hA hJ b1 hregs hargs hE hf f1 f2 f3 ra rb rcc hrc;go_enter Tryz.func71,Tryz.ntmps71
 go_upto_region 1 with fail
 generalize w.alloc (.cells #[.int .i64 13,.int .i64 xa,.int .i64 xb,.int .i64 xc,.int .i64 xk,.int .i64 xn,.slice rg xr.length rc,.slice ag xs.length ac] 59)=w1 at H HR HG HB HA HO X1 ⊢;obtain⟨X,hX⟩:∃ X,w.heap.size=X:=⟨_,rfl⟩
 rw[hX] at X1 ⊢
 clear hX;have x0:=Qb X1.out 0 _ rfl;have x1:=Qb X1.out 1 _ rfl;have x2:=Qb X1.out 2 _ rfl;have x3:=Qb X1.out 3 _ rfl;have x4:=Qb X1.out 4 _ rfl;have x6:=Qb X1.out 6 _ rfl;have x7:=Qb X1.out 7 _ rfl;have EG:Hid (s.goC ⟨13,xa,xb,xc,xk,xn,xr,xs⟩=s.want xa 1 false):=by show _=_;unfold JSt.goC;rw[HE.out];show code2 _ (Zp s.L.length 0)=_;rw[Qch hL,Qf1]
 have C1:=Qa (fun d=>Qcd xa HI.out.1 d hL HO.out H.out);go_wp2_with fail
 refine(C1.out _).mono ?_
 rintro e' w2 ⟨hq,b2⟩;have HB2:=Qa (HB.out.trans (b2.mono HB.out.size));have H2:=Qa (H.out.below b2);have HA2:=Qa (fun k hk=>Nat.lt_of_lt_of_le (HA.out k hk) b2.size);have HO2:=Qa (fun k hk=>Nat.lt_of_lt_of_le (HO.out k hk) b2.size);rcases hq with ⟨hc,y2,rfl,hy⟩|⟨hc,rfl⟩
 rotate_left
 ·exact⟨rfl,Zd.bad ((fun hc=>by rw[EG.out]) hc) hc (STo.of_below H0.out HB2.out)⟩
 subst hy;have HC2:=Qa hc;clear hc b2 C1;have FF:Hid (Zd w b O A s (s.next ⟨13,xa,xb,xc,xk,xn,xr,xs⟩) (s.goC ⟨13,xa,xb,xc,xk,xn,xr,xs⟩) (.returned (.tuple #[])) w2):=Zd.none H0.out HB2.out (by rw[EG.out,HC2.out]) (by rw[Zk (by simp) (by simp),HE.out];simp);go_wp2
 exact bodyPost_end (v:=.tuple #[]) (by simp[results,Tryz.results71,go_sem]) rfl FF.out
def JSt.fieldC (s:JSt) (a:Int) (k:Nat):Int:=code2 (s.want a 3 true) (match s.at a with | none=>0 | some t=>if k<t.2.2.length then 0 else 9)
def QlB (w:World) (A:Nat→Prop) (s:JSt) (a:Int) (k:Nat) (x:Value):Prop:=∃ (t:TT 6) (u:TT 5) (p:Option Addr) (c:Nat),s.at a=some t∧t.2.2[k]?=some u∧x=Tv u p c∧TIn w (fun g=>¬ A g) u p
theorem Qdp {s:JSt}{a:Int}{k:Nat}(h:s.want a 3 true≠0):s.fieldC a k=s.want a 3 true:=by unfold JSt.fieldC code2;rw[if_neg h]
theorem Qhp {s:JSt}{a:Int}{k:Nat}{t:TT 6}(h:s.want a 3 true=0) (ha:s.at a=some t):s.fieldC a k=if k<t.2.2.length then 0 else 9:=by unfold JSt.fieldC code2;rw[if_pos h,ha]
theorem QdO {w:World}{b:Nat}{O A:Nat→Prop}{s:JSt}(a:Int) (k:Nat) (hk100:k≤100) (hL:s.L.length≤80) (hO:∀ k,O k→k<w.heap.size) (h:SAt w b O A s) :
 Calls Tryz.prog 121 #[.pointer (some ⟨b,0,none⟩),.int .i64 a,.int .i64 k] w fun e w'=>Qab (s.fieldC a k) (QlB w' A s a k) e∧Below w.heap.size w w':=by
 have b1:=Q5 w (.cells #[.int .i64 0,.int .i64 0,.slice none 0 0] 79);have H1:=Qa (h.more hO b1);have B1:=Qa b1;have X1:Hid (Blk (w.alloc (.cells #[.int .i64 0,.int .i64 0,.slice none 0 0] 79)) w.heap.size #[.int .i64 0,.int .i64 0,.slice none 0 0] 79):=Blk.new _ _ _;have HO:=Qa hO;clear h b1 hO;go_enter Tryz.func121,Tryz.ntmps121
 go_upto_region 1 with fail
 generalize w.alloc (.cells #[.int .i64 0,.int .i64 0,.slice none 0 0] 79)=w1 at H1 B1 X1 ⊢;obtain⟨R,hR⟩:∃ R,w.heap.size=R:=⟨_,rfl⟩
 have HR:=Qa (Nat.le_of_eq hR);rw[hR] at X1 ⊢
 clear hR;go_wp2_with fail
 refine(QaB a 3 hL (fun k hk=>Nat.lt_of_lt_of_le (HO.out k hk) B1.out.size) H1.out).mono ?_
 rintro e' w2 ⟨hO,b2⟩;have B2:Hid (Below w.heap.size w w2):=B1.out.trans (b2.mono B1.out.size);have X2:=Qa (X1.out.below b2);rcases hO with ⟨hc,x,rfl,t,p,c,ha,rfl,ht,hok⟩|⟨hc,rfl⟩
 rotate_left
 ·exact⟨rfl,.inr ⟨by rw[Qdp hc];exact hc,by rw[Qdp hc]⟩,B2.out⟩
 have T3:=Qa (Qhh.mk1 (c:=c) B2.out X2.out HR.out ht);have HA:=Qa ha;have E:=Qa (Qhp (k:=k) hc ha);clear ht ha hok b2 X1 B1 H1 X2 hc;go_upto_region 2 with fail
 generalize w2.alloc (.cells #[.int .i64 t.kind,.int .i64 t.r,.slice p t.len c] 79)=w3 at T3 ⊢;generalize w2.heap.size=B at T3 ⊢;obtain⟨y0,y1,y2,r0,r1,r2,z0,z1,z2⟩:=T3.out.cells
 have hne:=T3.out.ne;have hTl:Hid (t.len=t.2.2.length):=TT.len_eq t;by_cases hkl:k<t.2.2.length
 rotate_left
 ·have E9:Hid (s.fieldC a k=9):=by show _=_;rw[E.out,if_neg hkl]
  have hlt:¬ (k:Int)<t.len:=by rw[hTl.out];omega
  clear hkl;generalize t.len=tl at y2 hlt;go_wp2_with fail
  refine(Zw _ 9).mono ?_
  rintro e' w' ⟨rfl,hw⟩;subst hw;exact⟨rfl,Qab.bad E9.out (by decide),T3.out.bel⟩
 ·have E9:Hid (s.fieldC a k=0):=by show _=_;rw[E.out,if_pos hkl]
  have hlt:(k:Int)<t.len:=by rw[hTl.out];omega
  have HU:Hid (t.2.2[k]?=some t.2.2[k]):=List.getElem?_eq_getElem hkl;generalize t.2.2[k]=u at HU;obtain⟨g,o,p',c',rfl,hg,u0,u1,u2,ut⟩:=T3.out.lay k u HU.out
  have UT:Hid (TIn w3 (fun g=>¬ (A g∨w.heap.size≤g)) u p'):=ut;have hRg:¬ R=g:=fun e=>by subst e;exact hg (.inr T3.out.farR)
  have hBg:¬ B=g:=fun e=>by subst e;exact hg (.inr T3.out.farB)
  clear ut hkl hg;obtain⟨x9,b9⟩:=QlE (k:=u.kind) (r:=u.r) (q:=p') (l:=u.len) (d:=c') T3.out.bel T3.out.res T3.out.farR
  have X9:=Qa x9;have B9:=Qa b9;clear x9 b9;generalize ht':t.len=tl at y2 hlt;go_wp2_with (go_at_call 162;refine(Zu _ _).mono ?_;rintro e' w' ⟨rfl,hw⟩;have hw:=hw.symm;subst hw)
  generalize ((w3.setCell ⟨R,0,none⟩ (.int .i64 u.kind)).setCell ⟨R,1,none⟩ (.int .i64 u.r)).setCell ⟨R,2,none⟩ (.slice p' u.len c')=w9 at X9 B9 ⊢;have x0:=Qb X9.out 0 _ rfl;have x1:=Qb X9.out 1 _ rfl;have x2:=Qb X9.out 2 _ rfl;exact bodyPost_ret (v:=Tv u p' c') (by simp[results,Tryz.results121,go_sem,x0,x1,x2]) rfl ⟨Qab.good E9.out ⟨t,u,p',c',HA.out,HU.out,rfl,(UT.out.over T3.out.bel B9.out).less⟩,B9.out⟩
theorem QgJ {w:World}{Q:Nat→Prop}{l:List Int}{p:Option Addr}{N c:Nat}(x:Int) (hN:l.length=N) (hN2:N≤100000) (hl:intsL.In w Q l [.slice p N c]) :
 Calls Tryz.prog 220 #[.slice p N c,.int .i64 x] w fun e w'=>(∃ i:Int,e=.returned (.int .i64 i)∧(0≤i↔x∈l))∧w'=w:=by
 have HL:=Qa hl;have HN:=Qa hN;clear hl hN;go_enter Tryz.func220,Tryz.ntmps220
 go_wp2
 go_loop [8] (fun i=>∃ k:Nat,k≤N∧i=.int .i64 k∧∀ (j:Nat) (y:Int),j<k→l[j]?=some y→x≠y) (fun i=>N - (intOf i).toNat)
 case atStart=>exact⟨0,Nat.zero_le _,rfl,fun j y hj=>by omega⟩
 case round =>
  obtain⟨k,hk,rfl,hz⟩:=hrel
  have HZ:=Qa hz;clear hz;by_cases hlt:k<N
  ·have hlt':(k:Int)<N:=by omega
   have hk2:k<l.length:=by rw[HN.out];exact hlt
   obtain⟨g,o,rfl,-,hg,hc0⟩:=ZK HL.out hk2
   obtain⟨y,hy⟩:∃ y,l[k]?=some y:=⟨_,List.getElem?_eq_getElem hk2⟩
   rw[show l.getD k 0=y by rw[List.getD_eq_getElem?_getD,hy];rfl] at hc0
   have HX:=Qa hy;clear hy hk2;by_cases hxy:x=y
   ·have hxy':(x==y)=true:=by simpa using hxy
    have HM:Hid (x∈l):=by show _;rw[hxy];exact List.mem_of_getElem? HX.out
    clear hxy;go_wp2
    go_ret;exact⟨⟨k,rfl,by simp[HM.out]⟩,rfl⟩
   ·have hxy':(x==y)=false:=by simpa using hxy
    have HXY:=Qa hxy;clear hxy;go_wp2
    go_round
    case rel =>
     refine⟨k+1,hlt,by go_num,fun j y' hj hy=>?_⟩
     rcases Nat.lt_or_ge j k with h | h
     ·exact HZ.out j y' h hy
     ·have:j=k:=by omega
      subst this;have e:=HX.out.symm.trans hy;injection e with e
      subst e;exact HXY.out
    case measure=>simp[intOf];omega
  ·have hlt':¬ (k:Int)<N:=by omega
   go_wp2
   go_ret;refine⟨⟨-1,rfl,by omega,fun hm=>?_⟩,rfl⟩
   obtain⟨j,hj,e⟩:=List.mem_iff_getElem.1 hm
   exact absurd e.symm (HZ.out j _ (by have:=HN.out;omega) (List.getElem?_eq_getElem hj))
theorem Qej {w:World}{Q:Nat→Prop}{l:List Int}{p:Option Addr}{N c:Nat}(x:Int) (hN:l.length=N) (hN2:N≤100000) (hl:intsL.In w Q l [.slice p N c]) :
 Calls Tryz.prog 201 #[.slice p N c,.int .i64 x] w fun e w'=>e=.returned (.bool (inB l x))∧w'=w:=by
 have C:=Qa (QgJ x hN hN2 hl);clear hl hN;go_enter Tryz.func201,Tryz.ntmps201
 go_wp2_with fail
 refine C.out.mono ?_;rintro e w' ⟨⟨i,rfl,hi⟩,hw⟩;have hw:=hw.symm;subst hw
 have E:Hid (inB l x=decide (i≥0)):=by
  show _=_;rw[Bool.eq_iff_iff,QdZ]
  simp[hi]
 clear C hi;go_wp2
 go_ret;exact⟨by rw[E.out];rfl,rfl⟩
theorem Qf2 (H:List Bool) (l:List Int){k:Nat}{x:Int}(hx:l[k]?=some x):QD H (l.take k) (l.drop k)=if hHas H x then (if inB (l.take k) x then 13 else QD H (l.take (k+1)) (l.drop (k+1))) else 10:=by
 obtain⟨hk,e⟩:=List.getElem?_eq_some_iff.1 hx
 rw[List.drop_eq_getElem_cons hk,e,QD,List.take_add_one,hx]
 rfl
def Qcw (H:List Bool) (l:List Int) (asked:Int):Int:=if (l.length:Int)=asked then QD H [] l else 2
theorem Qea {w:World}{b:Nat}{O A Q:Nat→Prop}{s:JSt}{l:List Int}{p:Option Addr}{N c:Nat}(asked:Int) (hN:l.length=N) (hN2:N≤100000) (hNc:N≤c) (hl:intsL.In w Q l [.slice p N c]) (h:SAt w b O A s) :
 Calls Tryz.prog 167 #[.pointer (some ⟨b,0,none⟩),.slice p N c,.int .i64 asked] w fun e w'=>Qab (Qcw s.H l asked) VNone e∧w'=w:=by
 have HL:=Qa hl;have HN:=Qa hN;obtain⟨pm,cm,hh,a1,c1,a2,c2,a3,c3,aL,cL,RR⟩:=h.read
 obtain⟨-,q1,-⟩:=RR.cells
 have HH:=Qa RR.held;clear h hl hN RR;by_cases hNM:(N:Int)=asked
 rotate_left
 ·have hNM':((N:Int)==asked)=false:=by simpa using hNM
  have E:Hid (Qcw s.H l asked=2):=by show _=_;unfold Qcw;rw[HN.out,if_neg hNM]
  go_enter Tryz.func167,Tryz.ntmps167
  go_wp2_with fail
  refine(Zw _ 2).mono ?_
  rintro e' w' ⟨rfl,hw⟩;subst hw;exact⟨rfl,Qab.bad E.out (by decide),rfl⟩
 subst hNM;have hNM':((N:Int)==(N:Int))=true:=by simp
 have E:Hid (Qcw s.H l N=QD s.H [] l):=by show _=_;unfold Qcw;rw[HN.out,if_pos rfl]
 go_enter Tryz.func167,Tryz.ntmps167
 go_wp2_with (go_at_call 162;refine(Zu _ _).mono ?_;rintro e' w' ⟨rfl,hw⟩;have hw:=hw.symm;subst hw)
 go_loop [15] (fun i=>∃ k:Nat,k≤N∧i=.int .i64 k∧QD s.H [] l=QD s.H (l.take k) (l.drop k)) (fun i=>N - (intOf i).toNat)
 case atStart=>exact⟨0,Nat.zero_le _,rfl,rfl⟩
 case round =>
  obtain⟨k,hk,rfl,hz⟩:=hrel
  have HZ:=Qa hz;clear hz;by_cases hlt:k<N
  ·have hlt':(k:Int)<N:=by omega
   have hkc:k≤c:=by omega
   have hk2:k<l.length:=by rw[HN.out];exact hlt
   obtain⟨g,o,rfl,-,hg,hc0⟩:=ZK HL.out hk2
   obtain⟨y,hy⟩:∃ y,l[k]?=some y:=⟨_,List.getElem?_eq_getElem hk2⟩
   rw[show l.getD k 0=y by rw[List.getD_eq_getElem?_getD,hy];rfl] at hc0
   have HS:=Qa (HZ.out.trans (Qf2 s.H l hy));have C:=Qa (Qb3 y HH.out)
   cases hq:hHas s.H y with
   | false =>
    rw[hq] at C
    have E9:Hid (Qcw s.H l N=10):=by show _=_;rw[E.out,HS.out,hq];rfl
    clear hy hk2 hq;go_wp2_with (go_at_call 33;refine(C.out).mono ?_;rintro e w' ⟨rfl,hw⟩;have hw:=hw.symm;subst hw)
    refine(Zw _ 10).mono ?_
    rintro e' w' ⟨rfl,hw⟩;subst hw;exact⟨rfl,Qab.bad E9.out (by decide),rfl⟩
   | true =>
    rw[hq] at C
    have D:Hid (∀ c',Calls Tryz.prog 201 #[.slice (some ⟨g,o,none⟩) k c',.int .i64 y] w fun e w'=>e=.returned (.bool (inB (l.take k) y))∧w'=w):=fun c'=>Qej y (by rw[List.length_take];omega) (by omega) (Qdg HL.out (Nat.le_of_lt hk2) c');have HS2:Hid (QD s.H [] l=if inB (l.take k) y then 13 else QD s.H (l.take (k+1)) (l.drop (k+1))):=by show _=_;rw[HS.out,hq];rfl
    clear hy hk2 hq HS
    cases hi:inB (l.take k) y with
    | true =>
     rw[hi] at D
     have E9:Hid (Qcw s.H l N=13):=by show _=_;rw[E.out,HS2.out,hi];rfl
     clear hi;go_wp2_with (go_at_call 33;refine(C.out).mono ?_;rintro e w' ⟨rfl,hw⟩;have hw:=hw.symm;subst hw)
     refine(Zu _ _).mono ?_
     rintro e' w' ⟨rfl,hw⟩;have hw:=hw.symm;subst hw;go_wp2_with (go_at_call 201;refine(D.out _).mono ?_;rintro e w' ⟨rfl,hw⟩;have hw:=hw.symm;subst hw)
     refine(Zw _ 13).mono ?_
     rintro e' w' ⟨rfl,hw⟩;subst hw;exact⟨rfl,Qab.bad E9.out (by decide),rfl⟩
    | false =>
     rw[hi] at D
     have E9:Hid (QD s.H [] l=QD s.H (l.take (k+1)) (l.drop (k+1))):=by show _=_;rw[HS2.out,hi];rfl
     clear hi;go_wp2_with (go_at_call 33;refine(C.out).mono ?_;rintro e w' ⟨rfl,hw⟩;have hw:=hw.symm;subst hw)
     refine(Zu _ _).mono ?_
     rintro e' w' ⟨rfl,hw⟩;have hw:=hw.symm;subst hw;go_wp2_with (go_at_call 201;refine(D.out _).mono ?_;rintro e w' ⟨rfl,hw⟩;have hw:=hw.symm;subst hw)
     refine(Zu _ _).mono ?_
     rintro e' w' ⟨rfl,hw⟩;have hw:=hw.symm;subst hw;go_wp2
     go_round
     case rel=>exact⟨k+1,hlt,by go_num,E9.out⟩
     case measure=>simp[intOf];omega
  ·have hlt':¬ (k:Int)<N:=by omega
   have hkN:k=N:=by omega
   have E9:Hid (Qcw s.H l N=0):=by
    show _=_;rw[E.out,HZ.out,List.drop_of_length_le (by rw[HN.out];omega)]
    rfl
   go_wp2
   exact bodyPost_end (v:=.tuple #[]) (by simp[results,Tryz.results167,go_sem]) rfl ⟨Qab.good E9.out rfl,rfl⟩
noncomputable def JSt.handC (s:JSt) (l:List Int) (ts:List (TT 6)):Int:=if l.length=ts.length then QC (fun p:Int × TT 6=>s.beC p.1 p.2) (l.zip ts) else 2
theorem Qa9 {w:World}{b:Nat}{O A Q R:Nat→Prop}{s:JSt}{l:List Int}{ts:List (TT 6)}{p pt:Option Addr}{N c M d:Nat}(hN:l.length=N) (hN2:N≤100000) (hM:ts.length=M) (hM2:M≤100000) (hl:intsL.In w Q l [.slice p N c]) (ht:LIn w R ts pt)
 (hL:s.L.length≤80) (hcnt:∀ x∈s.L,x.count≤100000) (hO:∀ k,O k→k<w.heap.size) (h:SAt w b O A s) :
 Calls Tryz.prog 132 #[.pointer (some ⟨b,0,none⟩),.slice p N c,.slice pt M d] w fun e w'=>Qab (s.handC l ts) VNone e∧Below w.heap.size w w':=by
 have H:=Qa h;have HO:=Qa hO;have HL:=Qa hl;have HT:=Qa ht;have HN:=Qa hN;have HM:=Qa hM;have HC:=Qa hcnt;clear h hO hl hN ht hM hcnt;by_cases hNM:N=M
 rotate_left
 ·have hNM':((N:Int)==(M:Int))=false:=by simp;omega
  have E:Hid (s.handC l ts=2):=by show _=_;unfold JSt.handC;rw[HN.out,HM.out,if_neg hNM]
  go_enter Tryz.func132,Tryz.ntmps132
  go_wp2_with fail
  refine(Zw _ 2).mono ?_
  rintro e' w' ⟨rfl,hw⟩;subst hw;exact⟨rfl,Qab.bad E.out (by decide),Below.refl _ _⟩
 subst hNM;have hNM':((N:Int)==(N:Int))=true:=by simp
 have E:Hid (s.handC l ts=QC (fun p:Int × TT 6=>s.beC p.1 p.2) (l.zip ts)):=by show _=_;unfold JSt.handC;rw[HN.out,HM.out,if_pos rfl]
 go_enter Tryz.func132,Tryz.ntmps132
 go_wp2_with (go_at_call 162;refine(Zu _ _).mono ?_;rintro e' w' ⟨rfl,hw⟩;have hw:=hw.symm;subst hw)
 go_loopw [16] (fun i wr=>∃ k:Nat,k≤N∧i=.int .i64 k∧Below w.heap.size w wr∧∀ (j:Nat) (y:Int × TT 6),j<k→(l.zip ts)[j]?=some y→s.beC y.1 y.2=0) (fun i _=>N - (intOf i).toNat)
 case atStart=>exact⟨0,Nat.zero_le _,rfl,Below.refl _ _,fun j y hj=>by omega⟩
 case round =>
  obtain⟨k,hk,rfl,hB,hz⟩:=hrel
  have HB:=Qa hB;have HZ:=Qa hz;clear hB hz;by_cases hlt:k<N
  ·have hlt':(k:Int)<N:=by omega
   have hk2:k<l.length:=by rw[HN.out];exact hlt
   have hk3:k<ts.length:=by rw[HM.out];exact hlt
   obtain⟨g,o,rfl,-,hg,hc0⟩:=ZK HL.out hk2
   obtain⟨y,hy⟩:∃ y,l[k]?=some y:=⟨_,List.getElem?_eq_getElem hk2⟩
   obtain⟨t,hty⟩:∃ t,ts[k]?=some t:=⟨_,List.getElem?_eq_getElem hk3⟩
   rw[show l.getD k 0=y by rw[List.getD_eq_getElem?_getD,hy];rfl] at hc0
   obtain⟨g2,o2,p2,c2,rfl,-,d0,d1,d2,hkid⟩:=HT.out.at hty
   have HX:Hid ((l.zip ts)[k]?=some (y,t)):=by show _=_;rw[List.getElem?_zip_eq_some];exact⟨hy,hty⟩
   have y0:=Qk hc0 HB.out;have z0:=Qk d0 HB.out;have z1:=Qk d1 HB.out;have z2:=Qk d2 HB.out;have HK:=Qa (hkid.below HB.out);clear hc0 hk2 hk3 d0 d1 d2 hy hty hkid;go_wp2_with fail
   refine(Qdo y HK.out hL HC.out (fun k hk=>Nat.lt_of_lt_of_le (HO.out k hk) HB.out.size) (H.out.below HB.out)).mono ?_
   rintro e' w2 ⟨hO,b2⟩;have B2:Hid (Below w.heap.size w w2):=HB.out.trans (b2.mono HB.out.size);rcases hO with ⟨hc,x,rfl,-⟩|⟨hc,rfl⟩
   rotate_left
   ·have e9:s.handC l ts=s.beC y t:=by rw[E.out,QaU HX.out HZ.out hc]
    exact⟨rfl,.inr ⟨by rw[e9];exact hc,by rw[e9]⟩,B2.out⟩
   have HC0:=Qa hc;clear hc b2 y0 z0 z1 z2;go_wp2
   go_roundw
   case rel =>
    refine⟨k+1,hlt,by go_num,B2.out,fun j y' hj hy=>?_⟩
    rcases Nat.lt_or_ge j k with h | h
    ·exact HZ.out j y' h hy
    ·have:j=k:=by omega
     subst this;have e:=HX.out.symm.trans hy;injection e with e
     subst e;exact HC0.out
   case measure=>simp[intOf];omega
  ·have hlt':¬ (k:Int)<N:=by omega
   go_wp2
   exact bodyPost_end (v:=.tuple #[]) (by simp[results,Tryz.results132,go_sem]) rfl ⟨Qab.good (by rw[E.out];exact Qax (fun j y hy=>HZ.out j y (by have:=(List.getElem?_eq_some_iff.1 hy).1;rw[List.length_zip,HN.out,HM.out] at this;omega) hy)) rfl,HB.out⟩
theorem Qib {w:World}{Q:Nat→Prop}{l:List Int}{p:Option Addr}{N c:Nat}(hN:l.length=N) (hl:intsL.In w Q l [.slice p N c]):Qhe w p N (fun i=>l.getD i 0):=fun i hi=>by
 obtain⟨g,o,e,-,-,h⟩:=ZK hl (show i<l.length by omega)
 exact⟨g,o,e,h⟩
theorem Qji {w w':World}{regs:List Int}{t:TT 6}{e:Ending}(h:QcP w w' (t.ren regs.length (fun i=>regs.getD i 0)) e):∃ a c q,e=.returned (.tuple #[Tv (Qar regs t) a c,.bool q])∧TIn w' (Qak w.heap.size) (Qar regs t) a∧Below w.heap.size w w':=by
 unfold Qar
 cases hr:t.ren regs.length (fun i=>regs.getD i 0) with
 | none =>
  rw[hr] at h
  obtain⟨rfl,hb⟩:=h
  exact⟨none,0,false,rfl,fun i x hx=>by simp[zeroTT] at hx,hb⟩
 | some u =>
  rw[hr] at h
  obtain⟨a,c,rfl,h1,h2⟩:=h
  exact⟨a,c,true,rfl,h1,h2⟩
theorem QbD {w:World}{Q R:Nat→Prop}{ts:List (TT 6)}{regs:List Int}{p pt:Option Addr}{N c M d:Nat}(hN:regs.length=N) (hM:ts.length=M) (hM2:M≤1000) (hl:intsL.In w Q regs [.slice p N c]) (ht:LIn w R ts pt) (hcnt:∀ x∈ts,x.count≤2000) :
 Calls Tryz.prog 168 #[.slice pt M d,.slice p N c] w fun e w'=>∃ g,e=.returned (.slice (some ⟨g,0,none⟩) M M)∧w.heap.size≤g∧Qc1 w' g M (ts.map (Qar regs))∧Below w.heap.size w w':=by
 have HM:=Qa hM;have HI:=Qa (Qib hN hl);have HT:=Qa ht;have HC:=Qa hcnt;have HN:=Qa hN;have hmk:=Qhi w M (by omega);have B1:Hid (Below w.heap.size w (w.alloc (.cells (madeCells #[.int .i64 0,.int .i64 0,.slice none 0 0] (M*3)) 79))):=Q5 _ _;have Y0:Hid (Qc1 (w.alloc (.cells (madeCells #[.int .i64 0,.int .i64 0,.slice none 0 0] (M*3)) 79)) w.heap.size M ([]:List (TT 6))):=⟨_,Qj w _ _,size_madeCells _ _,fun i x hx=>by simp at hx⟩;clear hM hl ht hcnt hN;go_enter Tryz.func168,Tryz.ntmps168
 go_wp2
 generalize w.alloc (.cells (madeCells #[.int .i64 0,.int .i64 0,.slice none 0 0] (M*3)) 79)=w1 at B1 Y0 ⊢;obtain⟨G,hG⟩:∃ G,G=w.heap.size:=⟨_,rfl⟩
 rw[← hG] at Y0 ⊢
 have HG:=Qa (Nat.le_of_eq hG.symm);have HE:=Qa hG;clear hmk hG;go_loopw [13] (fun i wr=>∃ q:Nat,q≤M∧i=.int .i64 q∧Qc1 wr G M ((ts.take q).map (Qar regs))∧Below w.heap.size w wr) (fun i _=>M - (intOf i).toNat)
 case atStart=>exact⟨0,Nat.zero_le _,rfl,Y0.out,B1.out⟩
 case round =>
  clear Y0 B1;obtain⟨q,hq,rfl,hY,hB⟩:=hrel
  have HB:=Qa hB;have Y:=Qa hY;clear hB hY;by_cases hlt:q<M
  ·have hk1:(q:Int)<M:=by omega
   have hk3:q<ts.length:=by rw[HM.out];exact hlt
   obtain⟨t,hty⟩:∃ t,ts[q]?=some t:=⟨_,List.getElem?_eq_getElem hk3⟩
   obtain⟨g2,o2,p2,c2,rfl,-,d0,d1,d2,hkid⟩:=HT.out.at hty
   have z0:=Qk d0 HB.out;have z1:=Qk d1 HB.out;have z2:=Qk d2 HB.out
   have C:Hid (∀ wx,Below wr.heap.size wr wx→Calls Tryz.prog 202 #[Tv t p2 c2,.slice p N c] wx fun e w'=>∃ a' c' qb,e=.returned (.tuple #[Tv (Qar regs t) a' c',.bool qb])∧TIn w' (Qak wx.heap.size) (Qar regs t) a'∧Below wx.heap.size wx w'):=fun wx hb=>by
    have hbx:=HB.out.trans (hb.mono HB.out.size)
    have:=rename_any 6 t p2 c2 p N c (fun i=>regs.getD i 0) wx (hkid.below hbx).all (HC.out t (List.mem_of_getElem? hty)) (HI.out.below hbx)
    refine this.mono (fun e w' h=>?_);rw[← HN.out] at h
    exact Qji h
   have HS:Hid ((ts.take (q+1)).map (Qar regs)=(ts.take q).map (Qar regs)++[Qar regs t]):=by show _=_;rw[List.take_add_one,hty,List.map_append];rfl
   have hlen:Hid (((ts.take q).map (Qar regs)).length=q):=by show _=_;rw[List.length_map,List.length_take];omega
   clear d0 d1 d2 hkid hty hk3;simp only[Tv] at C
   generalize t.kind=tk at z0 C;generalize t.r=tr at z1 C;generalize t.len=tl at z2 C;have hq3:q*3+2<M*3:=by omega
   go_wp2_with fail
   have BX:Below wr.heap.size wr (wr.alloc (.cells #[.int .i64 tk,.int .i64 tr,.slice p2 tl c2] 79)):=(Below.refl _ wr).alloc (Nat.le_refl _) _;refine(C.out _ BX).mono ?_
   rintro e w4 ⟨a4,c4,qb,rfl,t4,b4⟩;have Y4:=Y.out.below (BX.trans (b4.mono BX.size));have B4:Hid (Below w.heap.size w w4):=HB.out.trans ((BX.trans (b4.mono BX.size)).mono HB.out.size);obtain⟨v0,r0⟩:=Y4.has (q*3) (by omega)
   obtain⟨v1,r1⟩:=Y4.has (q*3+1) (by omega)
   obtain⟨v2,r2⟩:=Y4.has (q*3+2) (by omega)
   have f0:=Y4.frozen (q*3);have f1:=Y4.frozen (q*3+1);have f2:=Y4.frozen (q*3+2);have t5:TIn w4 (Qak (G+1)) (Qar regs t) a4:=t4.mono (fun k hk _=>by have:=Y.out.lt;have:wr.heap.size≤k:=Nat.le_trans BX.size hk;omega);have Z5:=Qa (Y4.set (c:=c4) hlen.out hlt t5);have Z6:Hid (Below w.heap.size w (((w4.setCell ⟨G,q*3,none⟩ (.int .i64 (Qar regs t).kind)).setCell ⟨G,q*3+1,none⟩ (.int .i64 (Qar regs t).r)).setCell ⟨G,q*3+2,none⟩ (.slice a4 (Qar regs t).len c4))):=((B4.out.setCell (p:=⟨G,q*3,none⟩) HG.out _).setCell (p:=⟨G,q*3+1,none⟩) HG.out _).setCell (p:=⟨G,q*3+2,none⟩) HG.out _;clear Y4 t5 t4 b4 BX C z0 z1 z2;simp only[Tv] at Z5 Z6 ⊢
   go_wp2
   go_roundw
   case rel=>exact⟨q+1,hlt,by go_num,by rw[HS.out];exact Z5.out,Z6.out⟩
   case measure=>simp[intOf];omega
  ·have hlt':¬ (q:Int)<M:=by omega
   have e:ts.take q=ts:=List.take_of_length_le (by rw[HM.out];omega);rw[e] at Y
   go_wp2
   go_ret;exact⟨G,rfl,HG.out,Y.out,HB.out⟩
end Go.Proofs.YtacjnejckfhpoadGreat
namespace Go.Proofs.YtacjnejckfhpoadGreat
open Go.RowKit
set_option linter.unusedVariables false
section
variable {P:Program}{Q:Exit→Act→World→Prop}
def QdH (o:Oper) (j:Nat):Bool:=o.after.any fun e=>Region.binds .any e&&e.on==j
def QjO (l:List Oper) (k:Nat) (o:Oper):Bool:=(List.range k).all fun j=>QdH o j||o.after.any fun e=>Region.binds .any e&&(match l[e.on]? with | some o'=>QdH o' j | none=>false)
def QcL (all:List Oper) (k:Nat):List Oper→Bool
 | []=>true
 | o::l=>QjO all k o&&QcL all (k+1) l
theorem Qc5 {o:Oper}{j:Nat}(h:QdH o j=true):∃ e∈o.after,Region.binds .any e=true∧e.on=j:=by
 obtain⟨q,hq,he⟩:=Array.any_eq_true.1 h
 simp only[Bool.and_eq_true,beq_iff_eq] at he
 exact⟨_,Array.getElem_mem hq,he.1,he.2⟩
theorem QdX (all:List Oper):∀ (l:List Oper) (k i:Nat) (o:Oper),QcL all k l=true→l[i]?=some o→∀ j,j<k+i→∀ S:Nat→Prop,
 (∀ (q:Nat) (o':Oper),all[q]?=some o'→S q→∀ e∈o'.after,Region.binds .any e=true→S e.on)→(∀ e∈o.after,Region.binds .any e=true→S e.on)→S j
 | [],_,_,_,_,h=>by simp at h
 | x::l,k,0,o,h,ho=>by
  simp at ho;subst ho
  simp only[QcL,Bool.and_eq_true] at h
  intro j hj S hcl hS
  have:=List.all_eq_true.1 h.1 j (by simpa using hj)
  rw[Bool.or_eq_true] at this
  rcases this with h1 | h1
  ·obtain⟨e,he,hbd,rfl⟩:=Qc5 h1
   exact hS e he hbd
  ·obtain⟨q,hq,he⟩:=Array.any_eq_true.1 h1
   rw[Bool.and_eq_true] at he
   have hm:=Array.getElem_mem hq;generalize x.after[q]=e0 at he hm
   cases ho':all[e0.on]? with
   | none=>rw[ho'] at he;simp at he
   | some o' =>
    rw[ho'] at he
    obtain⟨e,he1,hbd,rfl⟩:=Qc5 he.2
    exact hcl _ o' ho' (hS e0 hm he.1) e he1 hbd
 | x::l,k,i+1,o,h,ho=>by
  simp only[QcL,Bool.and_eq_true] at h
  simp at ho
  intro j hj;exact QdX all l (k+1) i o h.2 ho j (by omega)
theorem Qg9 {l:List Oper}(hb:Qa5 0 l=true){k0:Nat}(ht:QcL l k0 (l.drop k0)=true):∀ (m k fuel:Nat) (listed:Array Bool) (a:Act) (w:World),k+m=l.length→k0≤k→m≤fuel→listed.size=l.length →
 (∀ j,j<l.length→listed.getD j false=decide (j<k))→wpList P l.toArray Q (l.drop k) a w→wpAny P .any l.toArray Q fuel listed a w:=by
 intro m
 induction m with
 | zero =>
  intro k fuel listed a w hk _ _ hs hl h
  have hr:Region.ready .any l.toArray listed=[]:=by
   rw[List.eq_nil_iff_forall_not_mem]
   intro i hi;obtain⟨h1,h2,_⟩:=QB.1 hi
   have h1':i<l.length:=by simpa using h1
   have:=hl i h1'
   have hd:decide (i<k)=true:=by simp;omega
   rw[hd] at this
   have hi':i<listed.size:=by omega
   simp[Array.getD,hi'] at this h2
   rw[this] at h2;cases h2
  have hq:Q .normal a w:=by
   rw[List.drop_of_length_le (by omega)] at h
   exact h
  cases fuel with
  | zero=>exact⟨hr,hq⟩
  | succ fuel=>exact⟨fun _=>hq,fun i hi=>by rw[hr] at hi;cases hi⟩
 | succ m ih =>
  intro k fuel listed a w hk hk0 hf hs hl h;have hlt:k<l.length:=by omega
  obtain⟨fuel,rfl⟩:∃ f,fuel=f+1:=⟨fuel - 1,by omega⟩
  have hks:k<listed.size:=by omega
  have hkr:k∈Region.ready .any l.toArray listed:=by
   refine QB.2 ⟨by simpa using hlt,?_,l[k],by simp[hlt],fun e he hbd=>?_⟩
   ·have:=hl k hlt
    simp[Array.getD,hks] at this ⊢;exact this
   ·have:=back_at l 0 k l[k] hb (by simp[hlt]) e he hbd
    rw[hl _ (by omega)];simp;omega
  refine⟨fun hr=>absurd (hr ▸ hkr) (by simp),fun i hi=>?_⟩
  have hik:i=k:=by
   obtain⟨h1,h2,o,ho,h3⟩:=QB.1 hi
   have h1':i<l.length:=by simpa using h1
   have hnl:listed.getD i false=false:=by
    have hi':i<listed.size:=by omega
    simp[Array.getD,hi'] at h2 ⊢;exact h2
   have hge:k≤i:=by
    have:=hl i h1'
    rw[hnl] at this
    have:¬ i<k:=by simpa using this.symm
    omega
   rcases Nat.eq_or_lt_of_le hge with e | hgt
   ·exact e.symm
   ·exfalso
    have:=QdX l (l.drop k0) k0 (i - k0) o ht (by rw[List.getElem?_drop,show k0+(i - k0)=i by omega];simpa using ho) k (by omega) (fun j=>listed.getD j false=true)
     (fun q o' hq hS e he hbd=>by
      have hql:q<l.length:=(List.getElem?_eq_some_iff.1 hq).1;have hqe:=back_at l 0 q o' hb hq e he hbd;have h5:listed.getD q false=true:=hS;rw[hl q hql] at h5
      have h6:q<k:=by simpa using h5
      show listed.getD e.on false=true;rw[hl e.on (by omega)];simp;omega) h3
    rw[hl k hlt] at this
    simp at this
  subst hik;rw[List.drop_eq_getElem_cons hlt] at h
  have ho:l.toArray[i]?=some l[i]:=by simp[hlt]
  have next:∀ a w,wpList P l.toArray Q (l.drop (i+1)) a w→wpAny P .any l.toArray Q fuel (listed.setIfInBounds i true) a w:=fun a w h' =>
   ih (i+1) fuel _ a w (by omega) (by omega) (by omega) (by simpa using hs) (fun j hj=>by
    by_cases e:j=i
    ·subst e;simp[Array.getD,hks]
    ·have hne:i≠j:=fun x=>e x.symm;rw[Array.getD_eq_getD_getElem?,Array.getElem?_setIfInBounds_ne hne,← Array.getD_eq_getD_getElem?,hl j hj]
     simp;omega) h'
  unfold wpOp;rw[ho]
  simp only
  unfold wpList at h;split
  ·rename_i hw
   rw[if_pos hw] at h
   exact h.imp (Oper.wp_mono next) id
  ·rename_i hw
   rw[if_neg hw] at h
   exact next _ _ h
theorem Qfo {l l2:List Oper}(hb:Qa5 0 (l++l2)=true) (hg:Qa3 l.length l=true) (ht:QcL (l++l2) l.length l2=true):∀ (fuel:Nat) (listed:Array Bool) (a:Act) (w:World),listed.size=l.length→(∀ (q:Nat) (o:Oper),l[q]?=some o→listed.getD q false=true→∀ e∈o.after,Region.binds .any e=true→listed.getD e.on false=true) →
 wpAny P .any l.toArray (Exit.then (fun a w=>wpList P (l++l2).toArray Q l2 a w) Q) fuel listed a w →
 wpAny P .any (l++l2).toArray Q (fuel+l2.length) (listed++Array.replicate l2.length false) a w:=by
 have hbl:∀ (i:Nat) (o:Oper),l[i]?=some o→∀ e∈o.after,Region.binds .any e=true→e.on<i:=fun i o ho e he hbd=>by
  have hi:i<l.length:=(List.getElem?_eq_some_iff.1 ho).1
  have:=back_at (l++l2) 0 i o hb (by rw[List.getElem?_append_left hi];exact ho) e he hbd
  omega
 have get1:∀ (listed:Array Bool) (j:Nat) (d:Bool),listed.size=l.length→j<l.length→(listed++Array.replicate l2.length false).getD j d=listed.getD j d:=fun listed j d hs hj=>by
  rw[Array.getD_eq_getD_getElem?,Array.getD_eq_getD_getElem?,Array.getElem?_append_left (by omega)]
 have get2:∀ (listed:Array Bool) (j:Nat),listed.size=l.length→l.length≤j→(listed++Array.replicate l2.length false).getD j false=false:=fun listed j hs hj=>by
  rw[Array.getD_eq_getD_getElem?,Array.getElem?_append_right (by omega)]
  cases h:(Array.replicate l2.length false)[j - listed.size]? with
  | none=>rfl
  | some b =>
   have:=Array.mem_of_getElem? h
   simp at this
   simp[this.2]
 -- all of the first part are listed
 have done:∀ (fuel:Nat) (listed:Array Bool) (a:Act) (w:World),listed.size=l.length→(∀ j,j<l.length→listed.getD j false=true)→wpList P (l++l2).toArray Q l2 a w →
  wpAny P .any (l++l2).toArray Q (fuel+l2.length) (listed++Array.replicate l2.length false) a w:=fun fuel listed a w hs hall h=>by
  refine Qg9 hb (k0:=l.length) (by simpa using ht) l2.length l.length _ _ a w (by simp) (Nat.le_refl _) (by omega) (by simp[hs]) (fun j hj=>?_) (by simpa using h);by_cases hj':j<l.length
  ·rw[get1 listed j false hs hj',hall j hj'];simp[hj']
  ·rw[get2 listed j hs (by omega)];simp;omega
 have allOf:∀ (listed:Array Bool),listed.size=l.length→Region.ready .any l.toArray listed=[]→∀ j,j<l.length→listed.getD j false=true:=fun listed hs hr j=>by
  induction j using Nat.strongRecOn with
  | _ j ih =>
   intro hj
   cases hc:listed.getD j false with
   | true=>rfl
   | false =>
    exfalso
    have hj':j<listed.size:=by omega
    have hnt:listed.getD j true=false:=by simp[Array.getD,hj'] at hc ⊢;exact hc
    have:j∈Region.ready .any l.toArray listed:=QB.2 ⟨by simpa using hj,hnt,l[j],by simp[hj],fun e he hbd=>by
     have:=hbl j l[j] (by simp[hj]) e he hbd
     exact ih e.on this (by omega)⟩
    rw[hr] at this;cases this
 intro fuel
 induction fuel with
 | zero =>
  intro listed a w hs hcl h;exact done 0 listed a w hs (allOf listed hs h.1) h.2
 | succ fuel ih =>
  intro listed a w hs hcl h;by_cases hall:∀ j,j<l.length→listed.getD j false=true
  ·refine done (fuel+1) listed a w hs hall (h.1 ?_);rw[List.eq_nil_iff_forall_not_mem]
   intro i hi;obtain⟨h1,h2,_⟩:=QB.1 hi
   have h1':i<l.length:=by simpa using h1
   have:=hall i h1'
   have hi':i<listed.size:=by omega
   simp[Array.getD,hi'] at this h2
   rw[this] at h2;cases h2
  ·have hnr:Region.ready .any l.toArray listed≠[]:=fun e=>hall (allOf listed hs e)
   have same:∀ i,i∈Region.ready .any (l++l2).toArray (listed++Array.replicate l2.length false)↔i∈Region.ready .any l.toArray listed:=fun i=>by
    rw[QB,QB]
    by_cases hi:i<l.length
    ·have e1:(l++l2).toArray[i]?=l.toArray[i]?:=by simp[List.getElem?_append_left hi]
     rw[get1 listed i true hs hi,e1]
     constructor
     ·rintro ⟨_,h2,o,ho,h3⟩;refine⟨by simpa using hi,h2,o,ho,fun e he hbd=>?_⟩
      have:=hbl i o (by simpa using ho) e he hbd
      have h4:=h3 e he hbd;rwa [get1 listed e.on false hs (by omega)] at h4
     ·rintro ⟨_,h2,o,ho,h3⟩;refine⟨by simp;omega,h2,o,ho,fun e he hbd=>?_⟩
      have:=hbl i o (by simpa using ho) e he hbd
      rw[get1 listed e.on false hs (by omega)]
      exact h3 e he hbd
    ·constructor
     ·rintro ⟨h1,h2,o,ho,h3⟩;exfalso
      refine hall fun j hj=>?_;have ho':(l++l2)[i]?=some o:=by simpa using ho
      rw[List.getElem?_append_right (by omega)] at ho'
      have:=QdX (l++l2) l2 l.length (i - l.length) o ht ho' j (by omega) (fun q=>(listed++Array.replicate l2.length false).getD q false=true)
       (fun q o' hq hS e he hbd=>by
        have h5:(listed++Array.replicate l2.length false).getD q false=true:=hS;by_cases hql:q<l.length
        ·rw[get1 listed q false hs hql] at h5
         rw[List.getElem?_append_left hql] at hq
         have h6:=hbl q o' hq e he hbd;show (listed++Array.replicate l2.length false).getD e.on false=true;rw[get1 listed e.on false hs (by omega)]
         exact hcl q o' hq h5 e he hbd
        ·rw[get2 listed q hs (by omega)] at h5
         cases h5) h3
      rwa [get1 listed j false hs hj] at this
     ·rintro ⟨h1,_⟩;exact absurd (by simpa using h1) hi
   rw[show fuel+1+l2.length=(fuel+l2.length)+1 by omega]
   refine⟨fun hr=>?_,fun i hi=>?_⟩
   ·exfalso
    apply hnr
    rw[List.eq_nil_iff_forall_not_mem]
    intro i hi
    have:=(same i).2 hi
    rw[hr] at this;cases this
   ·have hi':=(same i).1 hi;have h':=h.2 i hi';obtain⟨h1,_⟩:=QB.1 hi'
    have hlt:i<l.length:=by simpa using h1
    have ho:l.toArray[i]?=some l[i]:=by simp[hlt]
    have ho2:(l++l2).toArray[i]?=some l[i]:=by simp[List.getElem?_append_left hlt,hlt]
    unfold wpOp at h' ⊢;rw[ho] at h'
    rw[ho2]
    simp only at h' ⊢
    have hy:Region.wanted l[i] (yielded (l++l2).toArray a.tmps)=Region.wanted l[i] (yielded l.toArray a.tmps):=by
     unfold Region.wanted
     cases hgd:(l[i]).guard with
     | none=>rfl
     | some gw =>
      obtain⟨g,want⟩:=gw
      have:=List.all_eq_true.1 hg l[i] (List.getElem_mem hlt)
      rw[hgd] at this
      have hgl:g<l.length:=by simpa using this
      simp only
      have:yielded (l++l2).toArray a.tmps g=yielded l.toArray a.tmps g:=by
       unfold yielded
       have:(l++l2).toArray[g]?=l.toArray[g]?:=by simp[List.getElem?_append_left hgl]
       rw[this]
      rw[this]
    rw[hy]
    have nx:∀ a w,wpAny P .any l.toArray (Exit.then (fun a w=>wpList P (l++l2).toArray Q l2 a w) Q) fuel (listed.setIfInBounds i true) a w→wpAny P .any (l++l2).toArray Q (fuel+l2.length) ((listed++Array.replicate l2.length false).setIfInBounds i true) a w:=fun a w hh=>by
     have hcl2:∀ (q:Nat) (o:Oper),l[q]?=some o→(listed.setIfInBounds i true).getD q false=true→∀ e∈o.after,Region.binds .any e=true→(listed.setIfInBounds i true).getD e.on false=true:=fun q o hq hS e he hbd=>by
      have up:∀ j,listed.getD j false=true→(listed.setIfInBounds i true).getD j false=true:=fun j hj=>by
       by_cases ej:i=j
       ·subst ej
        have:i<listed.size:=by omega
        simp[Array.getD,this]
       ·rw[Array.getD_eq_getD_getElem?,Array.getElem?_setIfInBounds_ne ej,← Array.getD_eq_getD_getElem?];exact hj
      by_cases ej:i=q
      ·subst ej;obtain⟨_,_,o2,ho2',h3⟩:=QB.1 hi'
       have:o2=o:=by
        have h7:l[i]?=some o2:=by simpa using ho2'
        rw[hq] at h7;exact(Option.some.inj h7).symm
       subst this;exact up _ (h3 e he hbd)
      ·rw[Array.getD_eq_getD_getElem?,Array.getElem?_setIfInBounds_ne ej,← Array.getD_eq_getD_getElem?] at hS
       exact up _ (hcl q o hq hS e he hbd)
     have:=ih (listed.setIfInBounds i true) a w (by simpa using hs) hcl2 hh
     have e:(listed++Array.replicate l2.length false).setIfInBounds i true=listed.setIfInBounds i true++Array.replicate l2.length false:=by
      rw[Array.setIfInBounds_append_left (by omega)]
     rw[e];exact this
    split
    ·rename_i hw
     rw[if_pos hw] at h'
     rcases h' with h' | h'
     ·exact .inl (Oper.wp_mono nx (QfO h'))
     ·exact .inr h'
    ·rename_i hw
     rw[if_neg hw] at h'
     exact nx _ _ h'
end
theorem Qjj {P:Program}{n id:Nat}{l l2:List Oper}{outs:List Tmp}{gs:List (Nat × Option Bool)}{bs:List Bool}{a:Act}{w:World}{L:List (Tmp × Value)}{Q:Exit→Act→World→Prop}
 (M:Qbp) (W:World→Prop) (R:World→World→Prop)
 (hm:P.follows .mixedOrders=true) (hF:Fr n a L) (hL:(L.all fun p=>!(Qn l).contains p.1)=true) (hB:QbB l n outs gs bs=true)
 (hT:(Qa5 0 (l++l2)&&(Qa3 l.length l&&QcL (l++l2) l.length l2))=true)
 (hR:QdM R M) (hG:QaN (Qbp.E M) W l.toArray gs) (hW:W w.drew) (hO:QbN (Qbp.E M) a w.drew outs)
 (hA:Qdm (Qbp.E M) W R P l bs)
 (hend:∀ a' w',W w'→(∀ t,(Qn l).contains t=true→Qbp.E M t (a'.tmps.getD t undef) w')→Fr n a' L→wpList P (l++l2).toArray Q l2 a' w') :
 (Code.region id (l++l2).toArray true).wp P Q a w:=by
 simp only[Bool.and_eq_true] at hT
 obtain⟨hT1,hT2,hT3⟩:=hT
 refine wp_region_any hm ?_
 have key:wpAny P .any l.toArray (Exit.then (fun a w=>wpList P (l++l2).toArray Q l2 a w) Q) l.length (Array.replicate l.length false) a w.drew:=by
  refine QbG (E:=Qbp.E M) (W:=W) (R:=R) (a0:=a) (outs:=outs) (gs:=gs) (bs:=bs) (by rw[hF.size];exact hB) (QbQ M hR) hG hA ?_ _ _ _ _ (by simp) ?_ ⟨hW,rfl,rfl,fun _ _=>rfl,fun t ht _=>QbF outs hO t ht,?_⟩
  ·intro vs w' hw' hE
   have hlt:∀ t,(Qn l).contains t=true→t<a.tmps.size:=fun t ht=>by
    simp only[QbB,Bool.and_eq_true] at hB
    have:=List.all_eq_true.1 hB.1.1.1.2 t (by simpa using ht)
    rw[hF.size];simpa using this
   have hat:∀ t,(Qn l).contains t=true→(Ze a vs (Qn l)).tmps.getD t undef=vs t:=fun t ht=>by
    have:=QbE vs (Qn l) a t (hlt t ht)
    rw[if_pos (by simpa using ht)] at this
    rw[Array.getD_eq_getD_getElem?,this];rfl
   refine hend _ w' hw' (fun t ht=>by rw[hat t ht];exact hE t ht) ⟨by rw[Qaq,hF.size],by rw[Qag,hF.defers],fun t v hl=>?_⟩
   have hm:∃ p∈L,p.1=t:=by
    clear hL hO hend
    have:∀ (L:List (Tmp × Value)),L.lookup t=some v→∃ p∈L,p.1=t:=by
     intro L
     induction L with
     | nil=>intro h;simp at h
     | cons x r ih =>
      intro h;by_cases e:t=x.1
      ·exact⟨x,by simp,e.symm⟩
      ·have e':(t==x.1)=false:=beq_false_of_ne e;rw[List.lookup_cons,e'] at h
       obtain⟨p,hp,he⟩:=ih h
       exact⟨p,by simp[hp],he⟩
    exact this L hl
   obtain⟨p,hp,rfl⟩:=hm
   have hn:¬ p.1∈Qn l:=by
    have:=List.all_eq_true.1 hL p hp
    simpa using this
   rw[← hF.sl p.1 v hl]
   by_cases hlt':p.1<a.tmps.size
   ·have:=QbE vs (Qn l) a p.1 hlt'
    rw[if_neg hn] at this
    rw[Array.getD_eq_getD_getElem?,Array.getD_eq_getD_getElem?,this]
   ·have h9:a.tmps.size≤p.1:=Nat.le_of_not_lt hlt';rw[Array.getD_eq_getD_getElem?,Array.getD_eq_getD_getElem?,Array.getElem?_eq_none (by rw[Qaq];exact h9),Array.getElem?_eq_none h9]
  ·simp only[Array.toList_replicate]
   exact Nat.le_trans (List.length_filter_le _ _) (by simp)
  ·intro j o t hj hd hl;simp[Array.getD] at hl
 have:=Qfo (Q:=Q) hT1 hT2 hT3 l.length (Array.replicate l.length false) a w.drew (by simp) (fun q o hq hS=>by simp[Array.getD] at hS) key
 have e:(Array.replicate l.length false++Array.replicate l2.length false:Array Bool)=Array.replicate (l++l2).toArray.size false:=by
  simp
 have e2:l.length+l2.length=(l++l2).toArray.size:=by simp
 rw[e,e2] at this
 exact this
theorem Qg5 {P:Program}{n id:Nat}{lo:List Oper}{outs:List Tmp}{gs:List (Nat × Option Bool)}{bs:List Bool}{a:Act}{w:World}{L:List (Tmp × Value)}{Q:Exit→Act→World→Prop}
 (k:Nat) (M:Qbp) (W:World→Prop) (R:World→World→Prop)
 (hm:P.follows .mixedOrders=true) (hF:Fr n a L) (hL:(L.all fun p=>!(Qn (lo.take k)).contains p.1)=true) (hB:QbB (lo.take k) n outs gs bs=true)
 (hT:(Qa5 0 lo&&(Qa3 (lo.take k).length (lo.take k)&&QcL lo (lo.take k).length (lo.drop k)))=true)
 (hR:QdM R M) (hG:QaN (Qbp.E M) W (lo.take k).toArray gs) (hW:W w.drew) (hO:QbN (Qbp.E M) a w.drew outs)
 (hA:Qdm (Qbp.E M) W R P (lo.take k) bs)
 (hend:∀ ops a' w',W w'→(∀ t,(Qn (lo.take k)).contains t=true→Qbp.E M t (a'.tmps.getD t undef) w')→Fr n a' L→wpList P ops Q (lo.drop k) a' w') :
 (Code.region id lo.toArray true).wp P Q a w:=by
 have h:=Qjj (id:=id) (l:=lo.take k) (l2:=lo.drop k) (Q:=Q) M W R hm hF hL hB (by rw[List.take_append_drop];exact hT) hR hG hW hO hA (hend _);rwa [List.take_append_drop] at h
end Go.Proofs.YtacjnejckfhpoadGreat
