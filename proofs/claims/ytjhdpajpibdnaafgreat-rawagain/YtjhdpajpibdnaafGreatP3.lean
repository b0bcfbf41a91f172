import Derived.Test.YtjhdpajpibdnaafGreatP2
import Derived.Defers
import Derived.Recover
set_option maxHeartbeats 16000000
set_option maxRecDepth 100000
namespace Go.Proofs.YtjhdpajpibdnaafGreat
open Go.ChangeShapes Go.WideShapes Go.ChangeAt Go.RowKit _root_.Go.Proofs.Tryz
set_option linter.unusedSimpArgs false
set_option linter.unusedVariables false
variable {w w' w6 w1 w2:World}{n b c k m rc ac X j B i cm g N d f fi cap bp q R pages id bi cc funcs s ci rl al ca ri vl most cR cA G:Nat}{O Q O':Nat→Prop}{l xs regs inp:List Int}{p a rg ag pm pi pa pR pA ra aa:Option Addr}{t e:TypeId}{v:Value}{P:Program}{L bs:List Bool}{x ya xc xk fr xa xb xn yb:Int}{ds cs:List Value}{ops:Array Oper}
def tru (p:Bool):Int:=if p then 1 else 0
theorem Qn2 (a b:Int) (w:World):Calls prog 136 #[Iv 1,Iv a,Iv b] w fun e w'=>e=.returned (.tuple #[Iv (wrap64 (a+b)),.bool true])/\w'=w:=by
 go_enter func136,ntmps136
 go_wp2
 go_ret2;exact⟨Z,Z⟩
theorem Qob (a b:Int) (w:World):Calls prog 136 #[Iv 2,Iv a,Iv b] w fun e w'=>e=.returned (.tuple #[Iv (wrap64 (a - b)),.bool true])/\w'=w:=by
 go_enter func136,ntmps136
 go_wp2
 go_ret2;exact⟨Z,Z⟩
theorem Qog (a b:Int) (w:World):Calls prog 136 #[Iv 3,Iv a,Iv b] w fun e w'=>e=.returned (.tuple #[Iv (wrap64 (a*b)),.bool true])/\w'=w:=by
 go_enter func136,ntmps136
 go_wp2
 go_ret2;exact⟨Z,Z⟩
theorem QnW (a b:Int) (w:World) (d:(b==0)=false) (c:¬ b=0):Calls prog 136 #[Iv 4,Iv a,Iv b] w fun e w'=>e=.returned (.tuple #[Iv (wrap64 (a.tdiv b)),.bool true])/\w'=w:=by
 go_enter func136,ntmps136
 go_wp2
 go_ret2;exact⟨Z,Z⟩
theorem Qna (a:Int) (w:World):Calls prog 136 #[Iv 4,Iv a,Iv 0] w fun e w'=>e=.returned (.tuple #[Iv 0,.bool false])/\w'=w:=by
 go_enter func136,ntmps136
 go_wp2
 go_ret2;exact⟨Z,Z⟩
theorem Qn4 (a b:Int) (w:World) (d:(b==0)=false) (c:¬ b=0):Calls prog 136 #[Iv 5,Iv a,Iv b] w fun e w'=>e=.returned (.tuple #[Iv (a.tmod b),.bool true])/\w'=w:=by
 go_enter func136,ntmps136
 go_wp2
 go_ret2;exact⟨Z,Z⟩
theorem Qm7 (a:Int) (w:World):Calls prog 136 #[Iv 5,Iv a,Iv 0] w fun e w'=>e=.returned (.tuple #[Iv 0,.bool false])/\w'=w:=by
 go_enter func136,ntmps136
 go_wp2
 go_ret2;exact⟨Z,Z⟩
theorem Qn8 (a b:Int) (w:World):Calls prog 136 #[Iv 6,Iv a,Iv b] w fun e w'=>e=.returned (.tuple #[Iv (tru (decide (a<b))),.bool true])/\w'=w:=by
 by_cases h:a<b
 ·have c:tru (decide (a<b))=1:=by simp[tru,h]
  rw[c]
  go_enter func136,ntmps136
  go_wp2
  go_ret2;exact⟨Z,Z⟩
 ·have c:tru (decide (a<b))=0:=by simp[tru,h]
  rw[c]
  go_enter func136,ntmps136
  go_wp2
  go_ret2;exact⟨Z,Z⟩
theorem QnZ (a b:Int) (w:World):Calls prog 136 #[Iv 7,Iv a,Iv b] w fun e w'=>e=.returned (.tuple #[Iv (tru (a==b)),.bool true])/\w'=w:=by
 cases h:(a==b)
 ·go_enter func136,ntmps136
  go_wp2
  go_ret2;exact⟨Z,Z⟩
 ·go_enter func136,ntmps136
  go_wp2
  go_ret2;exact⟨Z,Z⟩
theorem Qn9 (a b:Int) (w:World):Calls prog 136 #[Iv 8,Iv a,Iv b] w fun e w'=>e=.returned (.tuple #[Iv (bits .and .i64 a b),.bool true])/\w'=w:=by
 go_enter func136,ntmps136
 go_wp2
 go_ret2;exact⟨Z,Z⟩
theorem Qof (a b:Int) (w:World):Calls prog 136 #[Iv 9,Iv a,Iv b] w fun e w'=>e=.returned (.tuple #[Iv (bits .xor .i64 a b),.bool true])/\w'=w:=by
 go_enter func136,ntmps136
 go_wp2
 go_ret2;exact⟨Z,Z⟩
theorem Qoa (k a b:Int) (w:World) (c:k<1\/9<k):Calls prog 136 #[Iv k,Iv a,Iv b] w fun e w'=>e=.returned (.tuple #[Iv 0,.bool false])/\w'=w:=by
 rcases c with c | c
 ·go_enter func136,ntmps136
  go_wp2
  go_ret2;exact⟨Z,Z⟩
 ·go_enter func136,ntmps136
  go_wp2
  go_ret2;exact⟨Z,Z⟩
def aOp (k a b:Int):Option Int :=
 if k=1 then some (wrap64 (a+b)) else if k=2 then some (wrap64 (a - b)) else if k=3 then some (wrap64 (a*b))
 else if k=4 then (if b=0 then none else some (wrap64 (a.tdiv b))) else if k=5 then (if b=0 then none else some (a.tmod b))
 else if k=6 then some (tru (decide (a<b))) else if k=7 then some (tru (a==b)) else if k=8 then some (bits .and .i64 a b) else if k=9 then some (bits .xor .i64 a b) else none
theorem QlK (k a b:Int) (w:World):Calls prog 136 #[Iv k,Iv a,Iv b] w fun e w'=>e=.returned (.tuple #[Iv ((aOp k a b).getD 0),.bool (aOp k a b).isSome])/\w'=w:=by
 by_cases m:k=1
 ·subst m;exact Qn2 a b w
 by_cases h:k=2
 ·subst h;exact Qob a b w
 by_cases i:k=3
 ·subst i;exact Qog a b w
 by_cases f:k=4
 ·subst f;by_cases c:b=0
  ·subst c;exact Qna a w
  ·have:aOp 4 a b=some (wrap64 (a.tdiv b)):=by simp[aOp,c]
   rw[this];exact QnW a b w (by simpa using c) c
 by_cases l:k=5
 ·subst l;by_cases c:b=0
  ·subst c;exact Qm7 a w
  ·have:aOp 5 a b=some (a.tmod b):=by simp[aOp,c]
   rw[this];exact Qn4 a b w (by simpa using c) c
 by_cases n:k=6
 ·subst n;exact Qn8 a b w
 by_cases g:k=7
 ·subst g;exact QnZ a b w
 by_cases j:k=8
 ·subst j;exact Qn9 a b w
 by_cases d:k=9
 ·subst d;exact Qof a b w
 ·have:aOp k a b=none:=by simp[aOp,m,h,i,f,l,n,g,j,d]
  rw[this];exact Qoa k a b w (by omega)
theorem Q7 {x:Qt}{d:IP}(h:Blk w1 X (Zq x d) t):w1.cell? ⟨X,0,none⟩=some (Iv x.op)/\w1.cell? ⟨X,1,none⟩=some (Iv x.a)/\w1.cell? ⟨X,2,none⟩=some (Iv x.b)/\w1.cell? ⟨X,3,none⟩=some (Iv x.c)/\w1.cell? ⟨X,4,none⟩=some (Iv x.k)/\w1.cell? ⟨X,5,none⟩=some (Iv x.n)/\w1.cell? ⟨X,6,none⟩=some (.slice d.pR x.regs.length d.cR)/\w1.cell? ⟨X,7,none⟩=some (.slice d.pA x.args.length d.cA) :=
 ⟨Qb h 0 _ Z,Qb h 1 _ Z,Qb h 2 _ Z,Qb h 3 _ Z,Qb h 4 _ Z,Qb h 5 _ Z,Qb h 6 _ Z,Qb h 7 _ Z⟩
section
variable {m:List (MFunc 6)}{n n':Nat}{M M':IM}{x:Qt}{fn:MFunc 6}{bl:MBlock 6}{op:Int->Int->Int->Option Int}
theorem QcN (h:x.form funcs=0):(1<=x.op/\x.op<=14)/\(x.op=5->x.args.length<=8)/\(x.op=14->0<=x.k/\x.k<(funcs:Int)/\x.regs.length<=6/\x.args.length<=8):=by
 unfold Qt.form at h;split at h
 ·cases h
 rename_i a
 split at h
 ·cases h
 split at h
 ·cases h
 split at h
 ·cases h
 rename_i b
 split at h
 ·cases h
 split at h
 ·cases h
 rename_i c
 split at h
 ·cases h
 rename_i d
 refine⟨?_,fun e=>by omega,fun e=>by omega⟩
 unfold Q5 at a;by_cases e:1<=x.op/\x.op<=14
 ·exact e
 ·exfalso
  apply a
  repeat' rw[Xr (by omega)]
  rfl
end
structure ROk (m:List (MFunc 6)) (n:Nat) (R:RM):Prop where
 est:R.e.Ok
 fr:∀ d∈R.top::R.rest,d.v.length<=n+8/\∃ fn bl,m[d.f]?=some fn/\fn.blocks[d.b]?=some bl/\d.i<=bl.code.length
 inp:R.inp.length<=1000
 out:R.out.length<=2000/\R.back.length<=8
 deep:R.rest.length<=39
def OkW (m:List (MFunc 6)) (n:Nat) (o:Option RM):Prop:=∀ N,o=some N->ROk m n N
section
variable {m:List (MFunc 6)}{n n':Nat}{R R':RM}{x:Qt}{fn:MFunc 6}{bl:MBlock 6}{op:Int->Int->Int->Option Int}
theorem OkW.no:OkW m n none:=fun N h=>by cases h
theorem OkW.some (I:ROk m n R):OkW m n (some R):=fun N h=>by cases h;exact I
theorem OkW.ite {c:Prop}[Decidable c] {a b:Option RM}(d:c->OkW m n a) (e:¬ c->OkW m n b):OkW m n (if c then a else b):=by
 by_cases h:c
 ·rw[Xs h];exact d h
 ·rw[Xr h];exact e h
theorem ROk.mono (I:ROk m n R) (h:n<=n'):ROk m n' R:=⟨I.est,fun d a=>⟨by have:=(I.fr d a).1;omega,(I.fr d a).2⟩,I.inp,I.out,I.deep⟩
theorem ROk.over (I:ROk m n R) (k:Int):ROk m n (R.over k):=⟨I.est,I.fr,I.inp,I.out,I.deep⟩
def Now (m:List (MFunc 6)) (R:RM):Prop:=∃ fn bl,m[R.top.f]?=some fn/\fn.blocks[R.top.b]?=some bl/\R.top.i<bl.code.length
theorem ROk.on (I:ROk m n R) (H:Now m R)(j:l.length<=8):ROk m (n+8) (R.on l):=by
 refine⟨I.est,fun d a=>?_,I.inp,I.out,I.deep⟩
 rcases List.mem_cons.1 a with rfl | a
 ·obtain⟨c,-⟩:=I.fr R.top (by simp)
  obtain⟨h,i,f,g,b⟩:=H
  exact⟨by show (R.top.v++l).length<=_;rw[List.length_append];omega,h,i,f,g,b⟩
 ·obtain⟨c,e⟩:=I.fr d (List.mem_cons_of_mem _ a)
  exact⟨by omega,e⟩
theorem Qak {v:List Int}:∀ {l xs:List Int},QaA v l=some xs->xs.length=l.length
 | [],xs,h=>by simp[QaA] at h;subst h;simp
 | k::l,xs,h=>by
   simp only[QaA] at h
   cases hk:iAt v k with
   | none=>rw[hk] at h;cases h
   | some y =>
     rw[hk] at h
     simp only at h
     cases hl:QaA v l with
     | none=>rw[hl] at h;cases h
     | some ys =>
       rw[hl] at h
       simp at h
       subst h;simp[Qak hl]
theorem last_of :l=[]\/l.getLastD 0∈l:=by
 rcases List.eq_nil_or_concat l with a | ⟨b,k,a⟩
 ·exact .inl a
 ·right;rw[a];simp
theorem Qjn {e:Est}(h:e.Ok) (k n:Int):0<=e.getAt k n/\e.getAt k n<=1040:=by
 have a:=h.ok
 have d:e.p.nextK<64/\-1<=e.p.nextK:=by
  unfold PSt.nextK
  cases hg:e.p.given.getLast? with
  | none =>
    simp only
    have:=a.high
    have:=a.most
    have:=a.low
    split<;>omega
  | some y =>
    have:=a.mem y (List.mem_of_getLast? hg)
    have:=a.high
    have:=a.most
    simp only
    omega
 unfold Est.getAt;split
 ·rename_i b
  unfold Est.getCode at b;split at b
  ·split at b
   ·omega
   ·cases hr:e.reg k.toNat with
    | none=>simp only;omega
    | some r =>
      rw[hr] at b
      simp only at b |-
      split at b
      ·omega
      ·rename_i f
       split
       ·rename_i c
        have:¬ e.p.nextK<0:=fun g=>f ⟨c,g⟩
        omega
       ·have i:=h.used _ _ hr
        have j:0<=r.pages.getLastD 0/\r.pages.getLastD 0<64:=by
         rcases last_of (l:=r.pages) with c | c
         ·rw[c];simp
         ·have:=h.low (k:=k.toNat) (x:=r.pages.getLastD 0) (by rw[Est.at_some hr];exact c)
          have:=a.most
          omega
        omega
  ·omega
 ·exact⟨by decide,by decide⟩
theorem Qlu {e:Est}{k n:Int}(h:e.getCode k n≠0):e.got k n=e:=by unfold Est.got;rw[Xr h]
theorem QeL (I:ROk m n R) (H:Now m R){h size:Int}:OkW m (n+8) (some (R.thing h size l)):=by
 refine OkW.some ?_;unfold RM.thing;split
 ·have J:ROk m n { R with e:=(R.e.got h size).withP ((R.e.got h size).p.puts (R.e.getAt h size) l) }:=⟨Est.Ok.puts l _ (I.est.got h size),I.fr,I.inp,I.out,I.deep⟩;exact J.on H (by simp)
 ·exact(I.over 6).mono (by omega)
theorem QkH (I:ROk m n R) (H:Now m R):OkW m (n+8) (R.part x):=by
 have d:∀ {v:Int},OkW m (n+8) (some (R.on [v])):=OkW.some (I.on H (by simp));have e:∀ {k v:Int},OkW m (n+8) (some ((R.stored k v).on [])):=fun {k v}=>OkW.some (ROk.on (R:=R.stored k v) ⟨I.est.store k v,I.fr,I.inp,I.out,I.deep⟩ H (by simp));have f:∀ k,OkW m (n+8) (some (R.over k)):=fun k=>OkW.some ((I.over k).mono (by omega));unfold RM.part
 cases ha:iAt R.top.v x.a with
 | none=>exact OkW.no
 | some a =>
   refine OkW.ite (fun _=>d) fun _=>OkW.ite (fun _=>?_) fun _=>OkW.ite (fun _=>?_) fun _=>OkW.ite (fun _=>?_) fun _=>OkW.ite (fun _=>d) fun _=>OkW.some (I.on H (by simp))
   ·cases hb:iAt R.top.v x.b with
    | none=>exact OkW.no
    | some y=>exact e
   ·cases hb:iAt R.top.v x.b with
    | none=>exact OkW.no
    | some y=>exact OkW.ite (fun _=>d) (fun _=>f 2)
   ·cases hb:iAt R.top.v x.b with
    | none=>exact OkW.no
    | some y =>
      cases hc:iAt R.top.v x.c with
      | none=>exact OkW.no
      | some z=>exact OkW.ite (fun _=>e) (fun _=>f 2)
theorem Qjj (I:ROk m n R) (H:Now m R) (w:(modFault m).1=0) (A:x.form m.length=0):OkW m (n+8) (RM.ins op R x):=by
 obtain⟨-,F,r⟩:=QcN A
 have i:∀ {v:Int},OkW m (n+8) (some (R.on [v])):=OkW.some (I.on H (by simp));have g:∀ k,OkW m (n+8) (some (R.over k)):=fun k=>OkW.some ((I.over k).mono (by omega));unfold RM.ins;refine OkW.ite (fun _=>i) fun _=>OkW.ite (fun _=>?_) fun _=>OkW.ite (fun _=>OkW.ite (fun _=>OkW.some ?_) (fun _=>g 6)) fun _=>OkW.ite (fun _=>?_) fun _=>OkW.ite (fun _=>?_) fun _=>OkW.ite (fun _=>?_) fun _=>OkW.ite (fun _=>?_) fun _=>OkW.ite (fun _=>?_) fun _=>OkW.ite (fun e=>OkW.ite (fun u=>?_) (fun _=>g 5)) (fun _=>QkH I H)
 ·cases ha:iAt R.top.v x.a with
  | none=>exact OkW.no
  | some a =>
    cases q:iAt R.top.v x.b with
    | none=>exact OkW.no
    | some b =>
      simp only
      cases ho:op x.k a b with
      | none=>exact g 1
      | some c=>exact i
 ·exact ROk.on (R:={ R with e:=R.e.opened }) ⟨I.est.opened,I.fr,I.inp,I.out,I.deep⟩ H (by simp)
 ·cases ha:iAt R.top.v x.a with
  | none=>exact OkW.no
  | some a=>exact OkW.some (ROk.on (R:={ R with e:=R.e.shut a }) ⟨I.est.shut a,I.fr,I.inp,I.out,I.deep⟩ H (by simp))
 ·cases ha:iAt R.top.v x.a with
  | none=>exact OkW.no
  | some a=>cases hv:QaA R.top.v x.args with
    | none=>exact OkW.no
    | some l=>exact QeL I H
 ·cases ha:iAt R.top.v x.a with
  | none=>exact OkW.no
  | some a=>cases q:iAt R.top.v x.b with
    | none=>exact OkW.no
    | some k=>exact OkW.ite (fun _=>QeL I H) (fun _=>g 3)
 ·cases s:R.inp with
  | nil=>exact g 4
  | cons k l =>
    have t:=I.inp;rw[s] at t
    exact OkW.some (ROk.on (R:={ R with inp:=l }) ⟨I.est,I.fr,by simp at t;show l.length<=1000;omega,I.out,I.deep⟩ H (by simp))
 ·cases ha:iAt R.top.v x.a with
  | none=>exact OkW.no
  | some a=>exact OkW.ite (fun h=>OkW.some (ROk.on (R:={ R with out:=R.out++[a] }) ⟨I.est,I.fr,I.inp,⟨by show (R.out++[a]).length<=2000;simp;omega,I.out.2⟩,I.deep⟩ H (by simp))) (fun _=>g 8)
 ·cases hv:QaA R.top.v x.args with
  | none=>exact OkW.no
  | some l =>
    refine OkW.some ?_;obtain⟨J,G,-,C⟩:=r e
    obtain⟨f,o⟩:∃ f,m[x.k.toNat]?=some f:=⟨_,Zg (by omega)⟩
    obtain⟨z,p,-⟩:=Z2 w o
    have D:=Qak hv;refine⟨I.est,fun d j=>?_,I.inp,I.out,by show (_::R.rest).length<=39;simp;omega⟩
    simp only[List.mem_cons] at j
    rcases j with rfl | rfl | j
    ·exact⟨by show l.length<=_;omega,f,z,o,p,Xb _⟩
    ·obtain⟨E,-⟩:=I.fr R.top (by simp)
     obtain⟨B,y,o,q,s⟩:=H
     exact⟨by show R.top.v.length<=_;omega,B,y,o,q,s⟩
    ·have h:=I.fr d (List.mem_cons_of_mem _ j);exact⟨by omega,h.2⟩
theorem Qlc (I:ROk m n R) (c:m[R.top.f]?=some fn){t:MTo}(h:t.args.length<=8/\0<=t.block/\t.block<(fn.blocks.length:Int)):OkW m n (R.to t):=by
 unfold RM.to
 cases hv:QaA R.top.v t.args with
 | none=>exact OkW.no
 | some l =>
   obtain⟨b,e⟩:∃ b,fn.blocks[t.block.toNat]?=some b:=⟨_,Zg (by omega)⟩
   have g:=Qak hv;refine OkW.some ⟨I.est,fun d a=>?_,I.inp,I.out,I.deep⟩;rcases List.mem_cons.1 a with rfl | a
   ·exact⟨by show l.length<=_;omega,fn,b,c,e,Xb _⟩
   ·exact I.fr d (List.mem_cons_of_mem _ a)
theorem QkN (I:ROk m n R) (o:m[R.top.f]?=some fn){e:ZA}(t:e.form fn.blocks.length=0):OkW m (n+8) (R.endd e):=by
 obtain⟨z,y,u,g⟩:=Qe9 t
 have Y:e.op≠3->OkW m (n+8) (R.to e.yes):=fun r N h=>(Qlc I o (by have:=Qet (u r);omega) N h).mono (by omega);unfold RM.endd;refine OkW.ite (fun j=>?_) fun j=>OkW.ite (fun p=>?_) fun _=>Y j
 ·cases hv:QaA R.top.v e.args with
  | none=>exact OkW.no
  | some l =>
    have x:=Qak hv
    cases hr:R.rest with
    | nil =>
      simp only
      have b:=I.fr;rw[hr] at b
      exact OkW.some (ROk.mono (n:=n) ⟨I.est,fun d s=>b d s,I.inp,⟨I.out.1,by show l.length<=8;omega⟩,by have:=I.deep;rw[hr] at this;exact this⟩ (by omega))
    | cons d rest =>
      simp only
      refine OkW.some ⟨I.est,fun c i=>?_,I.inp,I.out,by have:=I.deep;rw[hr] at this;simp at this;show rest.length<=39;omega⟩;rcases List.mem_cons.1 i with rfl | i
      ·obtain⟨w,q⟩:=I.fr d (by rw[hr];simp)
       exact⟨by show (d.v++l).length<=_;rw[List.length_append];omega,q⟩
      ·have h:=I.fr c (by rw[hr];simp[i]);exact⟨by omega,h.2⟩
 ·cases iAt R.top.v e.a with
  | none=>exact OkW.no
  | some k=>exact OkW.ite (fun _=>fun N h=>(Qlc I o (by have:=Qet (g p);omega) N h).mono (by omega)) (fun _=>Y j)
theorem QkG (I:ROk m n R) (e:(modFault m).1=0):OkW m (n+8) (RM.step m op most R):=by
 unfold RM.step;refine OkW.ite (fun _=>OkW.some ((I.over 7).mono (by omega))) fun _=>?_;obtain⟨-,f,c,a,b,h⟩:=I.fr R.top (by simp)
 rw[a]
 simp only
 rw[b]
 simp only
 have g:=(Zo e).2 f (Zm a);have d:=g.blocks c (Zm b);have J:ROk m n { R with fuel:=R.fuel+1 }:=⟨I.est,I.fr,I.inp,I.out,I.deep⟩
 cases hx:c.code[R.top.i]? with
 | none=>exact QkN J a d.fin
 | some x=>exact Qjj J ⟨f,c,a,b,(Zi hx).1⟩ e (d.code x (Zm hx))
theorem Qdh (c:(modFault m).1=0)(hi:inp.length<=1000)(g:pages<=64):ROk m 0 (RM.start inp pages):=by
 have h:=(Zo c).1.1;obtain⟨a,e⟩:∃ a,m[0]?=some a:=⟨_,Zg h⟩
 obtain⟨i,b,-⟩:=Z2 c e
 refine⟨Est.ok_new pages g,fun d f=>?_,hi,⟨by simp[RM.start],by simp[RM.start]⟩,by simp[RM.start]⟩
 simp only[RM.start,List.mem_cons,List.not_mem_nil,or_false] at f
 subst f;exact⟨by simp,a,i,e,b,Xb _⟩
theorem Qc3 (b:(modFault m).1=0)(I:ROk m 0 R):∀ (k:Nat){N:RM},RM.steps m op most k R=some N->ROk m (8*k) N:=by
 intro k
 have a:∀ (k:Nat) (n:Nat) (Q N:RM),ROk m n Q->RM.steps m op most k Q=some N->ROk m (n+8*k) N:=by
  intro k
  induction k with
  | zero=>intro n Q N J h;simp only[RM.steps] at h;cases h;exact J
  | succ k ih =>
    intro n Q N J h;simp only[RM.steps] at h
    split at h
    ·cases h;exact J.mono (by omega)
    ·cases hs:RM.step m op most Q with
     | none=>rw[hs] at h;cases h
     | some Q' =>
       rw[hs] at h
       exact(ih (n+8) Q' N (QkG J b Q' hs) h).mono (by omega)
 intro N h
 have:=a k 0 R N I h
 rwa [XK] at this
end
theorem Xz:type_of% @bodyPost_end:=@bodyPost_end
abbrev Qdy (c:Int):List PanicEntry:=[{ v:=.iface 187 (Iv c),recovered:=false }]
theorem QaC (w:World) (c:Int):Calls prog 111 #[.bool true,Iv c] w fun e w'=>e=.returned (.tuple #[])/\w'=w:=by
 go_enter func111,ntmps111
 go_wp2
 exact Xz (v:=.tuple #[]) (by simp[results,results111,go_sem]) Z ⟨Z,Z⟩
theorem Z4 (w:World) (c:Int):Calls prog 111 #[.bool false,Iv c] w fun e w'=>e=.panicked (Qdy c)/\w'=w:=by
 go_enter func111,ntmps111
 go_wp2
 exact⟨Z,Z,Z⟩
def RM.push (R:RM) (l:List Int):RM:={ R with top:={ R.top with v:=R.top.v++l } }
theorem Qnp (n:Nat) (f:n<=1099511627776) (w:World):(Instr.makeSlice 25 (Iv (n:Int)) (Iv (n:Int))).run prog w=.ok (.slice (some ⟨w.heap.size,0,none⟩) n n) (w.alloc (.cells (madeCells (#[Iv 0]:Array Value) n) 2)):=by
 obtain⟨e,d,c,b,a⟩:=iInfo64
 exact run_make_row (P:=prog) 25 2 e (Iv 0) iUnder64 d c b Z .i64 .i64 n (by rw[a];omega) (by omega) w
theorem QbE.of {w:World}(d:l.length=n) (g:n<=1099511627776) (h:w.rowIs k 2 n (fun i=>Iv (l.getD i 0))):QbE w (.slice (some ⟨k,0,none⟩) n n) l:=by
 subst d;obtain⟨c,e,f,b⟩:=h
 refine⟨by simp,.inr ⟨k,l.length,c,Z,Xb _,e,Ze,by unfold maxLen;omega,by simpa using f,?_⟩⟩
 refine List.ext_getElem? (fun i=>?_);rw[XR,Array.getElem?_toList,XS,XL]
 by_cases a:i<l.length
 ·rw[Xs a,b i a,Zg a];simp[List.getD,a]
 ·rw[Xr a,Xk (by omega)];rfl
theorem QbE.cell {w:World}{v:Value}(h:QbE w v l):∃ a c,v=.slice a l.length c/\∀ i,i<l.length->∃ k,a=some ⟨k,0,none⟩/\v.ownBlock=some k/\w.cell? ⟨k,i,none⟩=some (Iv (l.getD i 0)):=by
 rcases h.2 with ⟨e,j⟩|⟨k,d,g,e,_,n,o,p,q,m⟩
 ·exact⟨none,0,by rw[e,j],fun i b=>by omega⟩
 ·refine⟨_,d,e,fun i b=>⟨k,Z,by rw[e];rfl,?_⟩⟩
  have f:(l.map (Value.int .i64))[i]?=some (Iv (l.getD i 0)):=by rw[XS,Zg b];simp[List.getD,b]
  rw[<-m,XR,Xs (by omega),Array.getElem?_toList] at f
  exact Qb n _ _ f
theorem Qll {v:List Int}{a:Int}(h:iAt v a=some x):∃ j:Nat,a=j/\j<v.length/\x=v.getD j 0:=by
 unfold iAt at h;split at h
 ·cases h
 ·rename_i b
  refine⟨a.toNat,by omega,(Zi h).1,?_⟩
  simp[List.getD,h]
theorem Qjb {v:List Int}:∀ {l xs:List Int},QaA v l=some xs->∀ (q:Nat) (a:Int),l[q]?=some a->iAt v a=some (xs.getD q 0)/\q<xs.length
 | [],xs,h,q,a,ha=>by simp at ha
 | k::l,xs,h,q,a,ha=>by
   simp only[QaA] at h
   cases hk:iAt v k with
   | none=>rw[hk] at h;cases h
   | some y =>
     rw[hk] at h
     simp only at h
     cases hl:QaA v l with
     | none=>rw[hl] at h;cases h
     | some ys =>
       rw[hl] at h
       simp at h
       subst h
       cases q with
       | zero=>simp at ha;subst ha;exact⟨by simpa using hk,by simp⟩
       | succ q =>
         obtain⟨b,c⟩:=Qjb hl q a (by simpa using ha)
         exact⟨by simpa[List.getD] using b,by simp;omega⟩
def Qm1 (w:World) (xs:List Int) (n:Nat) (e:Ending) (w':World):Prop:=∃ k,e=.returned (.slice (some ⟨k,0,none⟩) n n)/\w.heap.size<=k/\QbE w' (.slice (some ⟨k,0,none⟩) n n) xs/\Below w.heap.size w w'
section
variable {w:World}{c:Nat}{fr:RFr}{v:Value}
theorem Qd1 (F:WFr w c fr v) (hl:fr.v.length<=1000000){N:Nat}(I:l.length=n) (hb:n<=1000000) (M:intsL.In w Q l [.slice p n N]) (C:QaA fr.v l=some xs) :
 Calls prog 167 #[Pv c 0,.slice p n N] w fun e w'=>Qm1 w xs n e w':=by
 have J:=Qnp n (by omega) w;have s:=Qc (World.rowIs_made w (Iv 0) n 2);have S:=Qc (ZP w (.cells (madeCells (#[Iv 0]:Array Value) n) 2));have G:=Qc M;have T:=Qc I;have z:=Qc C;have u:Hid (xs.length=n):=(Qak C).trans I;obtain⟨va,vc,ev,R⟩:=F.2.cell
 have A:w.cell? ⟨c,3,none⟩=some v:=Qb F.1 3 _ Z;rw[ev] at A
 have E:=Qc R;have Q3:=Qc A;clear M I F C R A;go_enter func167,ntmps167
 go_upto_region 2 with fail
 generalize w.alloc (.cells (madeCells (#[Iv 0]:Array Value) n) 2)=w1 at s S |-;clear J;obtain⟨g,O⟩:∃ g,g=w.heap.size:=⟨_,Z⟩
 have K:Hid (w.heap.size<=g):=by show _<=_;omega
 rw[<-O] at s |-
 clear O;go_wp2_with fail
 go_loopw [13] (fun i wr=>∃ q:Nat,q<=n/\i=Iv q/\wr.rowIs g 2 n (fun i=>if i<q then Iv (xs.getD i 0) else Iv 0)/\Below w.heap.size w wr) (fun i _=>n - (intOf i).toNat)
 case atStart=>exact⟨0,Xb _,Z,s.out.congr (fun i _=>by rw[Xr (by omega)]),S.out⟩
 case round =>
  obtain⟨q,hq,rfl,W,V⟩:=hrel
  have m:=Qc W;have d:=Qc V;clear W V;by_cases b:q<n
  ·have P:(q:Int)<n:=by omega
   obtain⟨a,y⟩:∃ a,l[q]?=some a:=⟨_,Zg (by rw[T.out];exact b)⟩
   have o:q<l.length:=by rw[T.out];exact b
   obtain⟨f,r⟩:=Qjb z.out q a y
   obtain⟨j,rfl,hj,h⟩:=Qll f
   obtain⟨g1,o1,rfl,-,B,x⟩:=ZI G.out o
   rw[show l.getD q 0=(j:Int) by rw[List.getD_eq_getElem?_getD,y];rfl] at x
   have x:=Qk x d.out;obtain⟨k,rfl,-,H⟩:=E.out j hj
   rw[<-h] at H
   have H:=Qk H d.out;have c3:=Qk Q3.out d.out;have X:(j:Int)<fr.v.length:=by omega
   have p0:=m.out.cell b;rw[Xr (by omega)] at p0
   have f0:=m.out.frozen q
   have PR:Hid ((wr.setCell ⟨g,q,none⟩ (Iv (xs.getD q 0))).rowIs g 2 n (fun i=>if i<q+1 then Iv (xs.getD i 0) else Iv 0)):=(m.out.set q (Iv (xs.getD q 0))).congr (fun i U=>by
    by_cases e:i=q
    ·subst e;rw[Xs Z,Xs (by omega)]
    ·rw[Xr e]
     by_cases L:i<q
     ·rw[Xs L,Xs (by omega)]
     ·rw[Xr L,Xr (by omega)])
   have PB:Hid (Below w.heap.size w (wr.setCell ⟨g,q,none⟩ (Iv (xs.getD q 0)))):=d.out.setCell (p:=⟨g,q,none⟩) K.out _;clear o B y f r h;generalize xs.getD q 0=xq at *;generalize fr.v.length=vl at *;clear m d E G z;go_wp2
   go_roundw
   case rel=>exact⟨q+1,by omega,by go_num,PR.out,PB.out⟩
   case measure=>simp[intOf];omega
  ·have t:q=n:=by omega
   subst t;have D:=Qc (QbE.of u.out (by omega) (m.out.congr (fun i U=>by rw[Xs U])));clear E G z;go_wp2
   go_ret;exact⟨g,Z,K.out,D.out,d.out⟩
end
section
variable {w w' w2:World}{b most:Nat}{m:List (MFunc 6)}{R R':RM}{g g1:WG}{c:Nat}{fr:RFr}{v:Value}
theorem WAt.pushed (S:WAt w b most m R g){v9:Value}{w9:World}(s:w9.ownsRow 0 2 1 v9 (R.top.v.length+l.length) (R.top.v.map (Value.int .i64)++l.map (Value.int .i64))) (a:w.grownBy w9 g.t.v.ownBlock) (q:∀ k,v9.ownBlock=some k->g.t.v.ownBlock=some k\/k=w.heap.size) :
 WTo g w (w9.setCell ⟨g.t.c,3,none⟩ v9) b most m (R.push l):=by
 obtain⟨⟨F,o,r⟩,-⟩:=S.frs
 have n:=XC F.1;have f:∀ x,g.t.v.ownBlock=some x->x≠g.t.c:=fun x j e=>by have:=r x j;rw[e,o] at this;omega
 have p:w9.heap[g.t.c]?=_:=(a.block g.t.c n (fun e=>f _ e.symm Z)).trans F.1
 have d:∀ k,v9.ownBlock=some k->k≠g.t.c:=fun k i e=>by
  rcases q k i with h | h
  ·exact f k h e
  ·omega
 refine S.setTop a.os a.tape a.output (by simpa using a.size) (fun k i u o=>?_) ⟨?_,?_⟩ (fun k i=>(q k i).imp id (fun e=>by omega))
 ·rw[Xd _ _ _ _ u]
  exact a.block k i (fun e=>o e.symm)
 ·have:=Qh p 3 v9
  simpa using this
 ·show World.ownsRow _ 0 _ 1 v9 (R.top.v++l).length ((R.top.v++l).map (Value.int .i64));rw[List.length_append,List.map_append]
  exact Q0 s (fun x j=>Xd _ _ _ _ (d x j))
theorem Qb8 (S:WAt w b most m R g){D:Nat}{a:Addr}(K:l.length=n) (d:∀ (j:Nat) (u:Value),(l.map (Value.int .i64))[j]?=some u->w.cell? (a.add j)=some u) (N:R.top.v.length+n<=1000000) :
 Calls prog 169 #[Pv g.t.c 0,.slice (some a) n D] w fun e w'=>e=.returned (.tuple #[])/\WTo g w w' b most m (R.push l):=by
 obtain⟨I,J,r,p,q⟩:=iInfo64
 subst K;obtain⟨⟨F,B,z⟩,-⟩:=S.frs
 obtain⟨M,L,E⟩:=QaR F.2
 have C:=Qb F.1 3 _ Z;have h:Hid (g.t.v.ownBlock≠some g.t.c):=fun e=>by have:=z _ e;rw[B] at this;omega
 have k:=Qc F.2;have i:=Qc F.1;have H:=Qc d;have s:=Qc (fun v9 w9=>S.pushed (l:=l) (v9:=v9) (w9:=w9));clear S F d B z;go_enter func169,ntmps169
 unfold QbE at k;rw[E] at C k s i h
 go_wp2_with (at_builtin;refine ZO _ Z _ _ 25 Z 2 I (Iv 0) 1 8 iUnder64 J r p q Z (by decide) _ _ _ Z k.out a l.length D (l.map (Value.int .i64)) Z (by simp) H.out (by intro u G;obtain⟨x,_,rfl⟩:=List.mem_map.1 G;rfl) (by unfold maxLen;omega) (by omega) ?_)
 intro v9 w9 y o A;have R:=Qc (s.out v9 w9 y o A);have f:=(o.block g.t.c (XC i.out) (fun e=>h.out e.symm)).trans i.out;have T:=Qb f 3 _ Z;have P:=Qj f 3;obtain⟨Q,O,rfl⟩:=QaR y
 clear y o A s f i k C;go_wp2
 exact Xz (v:=.tuple #[]) (by simp[results,results169,go_sem]) Z ⟨Z,R.out⟩
theorem Qmy (w:World) (n:Int):∀ (j:Nat) (u:Value),([n].map (Value.int .i64))[j]?=some u->(w.alloc (.cells #[Iv n] 2)).cell? ((⟨w.heap.size,0,none⟩:Addr).add j)=some u:=Qmz w [Iv n] 2
theorem Qb0 (S:WAt w b most m R g) (n:Int) (d:R.top.v.length+1<=1000000) :
 Calls prog 169 #[Pv g.t.c 0,.slice (some ⟨w.heap.size,0,none⟩) 1 1] (w.alloc (.cells #[Iv n] 2)) fun e w'=>e=.returned (.tuple #[])/\WTo g w w' b most m (R.push [n]):=by
 have a:=ZP w (.cells #[Iv n] 2);refine(Qb8 (S.below a) (l:=[n]) Z (Qmy w n) d).mono ?_
 rintro e w' ⟨rfl,h⟩;exact⟨Z,WTo.then (S.stepB a) Z Z h⟩
def Qmx (w:World) (fr:RFr) (e:Ending) (w':World):Prop:=∃ k x n,e=.returned (Pv k 0)/\w.heap.size<=k/\w.heap.size<=x/\WFr w' k fr (.slice (some ⟨x,0,none⟩) n n)/\Below w.heap.size w w'
theorem QdB (F:WFr w c fr v) (q:fr.v.length<=1000000){g:Nat}(d:l.length=n) (h:n<=1000000) (f:intsL.In w Q l [.slice p n g]) (a:QaA fr.v l=some xs) (o i:Nat) :
 Calls prog 216 #[Pv c 0,Iv o,Iv i,.slice p n g] w fun e w'=>Qmx w ⟨o,i,0,xs⟩ e w':=by
 have C:=Qc (Qd1 F q d h f a);have t:Hid (xs.length=n):=(Qak a).trans d;clear F d h f a;go_enter func216,ntmps216
 go_wp2_with (go_at_call 167;refine C.out.mono ?_;rintro s m ⟨k,rfl,r,j,b⟩)
 go_ret;exact⟨m.heap.size,k,n,Z,b.size,r,⟨Qe _ _ _,Q0 j (fun x a=>Below.heap_alloc _ _ _ (QbE.lt j a))⟩,b.trans ((ZP m _).mono b.size)⟩
theorem WAt.callsForm (S:WAt w b most m R g):∃ gc cap,g.vc=.slice (some ⟨gc,0,none⟩) (R.rest.length+1) cap/\R.rest.length+1<=cap/\w.cell? ⟨gc,R.rest.length,none⟩=some (Pv g.t.c 0):=by
 rcases S.calls.2 with ⟨_,k⟩|⟨gc,cap,d,e,_,j,h,l,n,i⟩
 ·omega
 ·refine⟨gc,cap,e,h,?_⟩
  have f:=S.rows
  have a:(Qay (g.t::g.fs))[R.rest.length]?=some (Pv g.t.c 0):=by
   simp[Qay,<-f]
  rw[<-i,XR,Xs (by omega),Array.getElem?_toList] at a
  exact Qb j _ _ a
theorem Qgu (S:WAt w b most m R g) (l:R.rest.length<=1000) :
 Calls prog 112 #[Pv b 0] w fun e w'=>e=.returned (Pv g.t.c 0)/\Below w.heap.size w w':=by
 obtain⟨k,i,a,d,o⟩:=S.callsForm
 have h:w.cell? ⟨b,4,none⟩=some g.vc:=Qb S.box 4 _ Z;rw[a] at h
 clear a S;generalize R.rest.length=n at *;have j:(↑(n+1):Int) - 1=n:=by omega
 have f:(n:Int)<(n:Int)+1:=by omega
 go_enter func112,ntmps112
 go_upto_region 1 with fail
 go_quiet (fail)
 go_wp2
 go_ret;exact⟨Z,Qag Zr _⟩
end
theorem Zw.cellAt {e:Est}{L g:Nat->Nat}(h:Zw w b O e L bp g) (k:Nat) (a:k<16):w.cell? ⟨b,1+k,none⟩=some (QaX (e.reg k) (g k)):=by
 have:=h.row.cell (i:=1+k) (by omega)
 rw[this]
 simp[Qmd]
theorem Zw.cell0 {e:Est}{L g:Nat->Nat}(h:Zw w b O e L bp g):w.cell? ⟨b,0,none⟩=some (Pv bp 0):=by
 have:=h.row.cell (i:=0) (by omega)
 rw[this];rfl
theorem Qid (w:World) (b d:Nat) (O:Nat->Prop) (e:Est) (k:Int) (h:QU w b d O e) :
 Calls prog 217 #[Pv b 0,Iv k] w fun e' w'=>e'=.returned (.bool (e.has k))/\w'=w:=by
 obtain⟨L,g,h⟩:=h
 by_cases a:0<=k
 ·by_cases f:k<16
  ·obtain⟨j,rfl⟩:=Xc a
   have c:=h.cellAt j (by omega)
   cases hr:e.reg j with
   | none =>
     rw[hr] at c
     have E:Hid (e.has j=false):=Est.has_none hr;simp only[QaX] at c
     clear h hr;go_enter func217,ntmps217
     go_wp2
     go_ret;exact⟨by rw[E.out];rfl,Z⟩
   | some r =>
     rw[hr] at c
     have E:Hid (e.has j=true):=Est.has_of (by omega) hr;simp only[QaX] at c
     clear h hr;go_enter func217,ntmps217
     go_wp2
     go_ret;exact⟨by rw[E.out];rfl,Z⟩
  ·have E:Hid (e.has k=false):=Est.has_out (by omega);clear h;go_enter func217,ntmps217
   go_wp2
   go_ret;exact⟨by rw[E.out];rfl,Z⟩
 ·have E:Hid (e.has k=false):=Est.has_out (by omega);clear h;go_enter func217,ntmps217
  go_wp2
  go_ret;exact⟨by rw[E.out];rfl,Z⟩
def Qbi (e:Est) (g:Nat->Nat):List Value:=(List.range 16).map fun k=>QaX (e.reg k) (g k)
theorem Zw.range {e:Est}{L g:Nat->Nat}(h:Zw w b O e L bp g):w.rangeAt b 1 (Qbi e g):=by
 intro j v a
 have c:j<16:=by
  have:=(Zi a).1
  simpa[Qbi] using this
 rw[h.cellAt j c,<-a]
 simp[Qbi,c]
theorem QdO (w:World) (e:Est) (g:Nat->Nat) (k:Nat) (a:k<16) :
 (Instr.index 71 (.agg (Qbi e g).toArray) (Iv k)).run prog w=.ok (QaX (e.reg k) (g k)) w:=by
 have c:(Qbi e g)[k]?=some (QaX (e.reg k) (g k)):=by simp[Qbi,a]
 have b:(sizeOf 70).run prog w=.ok 1 w:=by kernel_rfl
 simp[Instr.index,run_underlying underlying71,asIntOf,b,part,a,c]
theorem Qmp (w:World) (b j:Nat) (O:Nat->Prop) (e:Est) (h:QU w b j O e) :
 Calls prog 36 #[Pv b 0] w fun e' w'=>e'=.returned (Iv e.count)/\w'=w:=by
 obtain⟨L,g,h⟩:=h
 have d:Hid (w.rangeAt b 1 (Qbi e g)):=h.range;clear h;go_enter func36,ntmps36
 go_wp2_with (refine wpList_load_mid Z 71 (.tmp 8) Z b 1 Z (Qbi e g) _ d.out underlying71 Z (by kernel_rfl) ?_)
 go_loop [3,10] (fun n i=>∃ k:Nat,k<=16/\i=Iv k/\n=Iv (Zc e.reg k)) (fun _ i=>16 - (intOf i).toNat)
 case atStart=>exact⟨0,by omega,Z,Z⟩
 case round =>
  obtain⟨k,m,rfl,rfl⟩:=hrel
  have l:=Qa5 e.reg k;by_cases f:k<16
  ·have a:=fun w=>QdO w e g k f
   cases hr:e.reg k with
   | none =>
     have E:Hid (Zc e.reg (k+1)=Zc e.reg k):=by show _=_;simp[Zc,hr]
     rw[hr] at a
     simp only[QaX] at a
     clear hr;go_wp2
     go_round
     case rel=>exact⟨k+1,by omega,by go_num,by rw[E.out]⟩
     case measure=>simp[intOf];omega
   | some r =>
     have E:Hid (Zc e.reg (k+1)=Zc e.reg k+1):=by show _=_;simp[Zc,hr]
     rw[hr] at a
     simp only[QaX] at a
     clear hr;go_wp2
     go_round
     case rel=>exact⟨k+1,by omega,by go_num,by rw[E.out]⟩
     case measure=>simp[intOf];omega
  ·have c:k=16:=by omega
   subst c;have E:Hid (Zc e.reg 16=e.count):=rfl;go_wp2
   go_ret;exact⟨by rw[E.out];rfl,Z⟩
def newReg:Obj:=.cells #[Nv,Iv 0] 285
theorem Zw.mono {e:Est}{L g:Nat->Nat}(h:Zw w b O e L bp g) (c:∀ x,O x->x<w.heap.size->O' x):Zw w b O' e L bp g :=
 ⟨h.row,h.own,h.pool,h.reg,fun x a=>⟨c x (h.all x a).1 (h.all x a).2,(h.all x a).2⟩⟩
theorem Zw.opened {e:Est}{L g:Nat->Nat}(h:Zw w b O e L bp g) (k:Nat) (B:k<16) (A:e.reg k=none) :
 QU ((w.alloc newReg).setCell ⟨b,1+k,none⟩ (Pv w.heap.size 0)) b bp (Q4 O w ((w.alloc newReg).setCell ⟨b,1+k,none⟩ (Pv w.heap.size 0))) (e.set k (some ⟨[],0⟩)) /\
 Qz O (Q4 O w ((w.alloc newReg).setCell ⟨b,1+k,none⟩ (Pv w.heap.size 0))) w ((w.alloc newReg).setCell ⟨b,1+k,none⟩ (Pv w.heap.size 0)):=by
 have l:Qz (fun x=>L x=1) (fun x=>L x=1) w ((w.alloc newReg).setCell ⟨b,1+k,none⟩ (Pv w.heap.size 0)):=((Qz.refl _ w).alloc newReg).setCell (p:=⟨b,1+k,none⟩) h.own _;have u:=h.row.lt;have c:=(h.row.alloc newReg).set (1+k) (Pv w.heap.size 0)
 have d:((w.alloc newReg).setCell ⟨b,1+k,none⟩ (Pv w.heap.size 0)).heap[w.heap.size]?=some (.cells #[Nv,Iv 0] 285 (0,0)):=by
  rw[Xd _ _ _ _ (show w.heap.size≠b by omega)];exact Qe w _ _
 have m:((w.alloc newReg).setCell ⟨b,1+k,none⟩ (Pv w.heap.size 0)).heap.size=w.heap.size+1:=by simp
 generalize (w.alloc newReg).setCell ⟨b,1+k,none⟩ (Pv w.heap.size 0)=r at *;refine⟨⟨QbR L (k+3) w r,fun j=>if j=k then w.heap.size else g j,?_,?_,?_,?_,?_⟩,QcQ h.all (by decide) l⟩
 ·refine c.congr fun i z=>?_;unfold Qmd QaX Est.set;by_cases o:i=0
  ·subst o;rw[Xr (by omega)];rfl
  ·by_cases a:i=1+k
   ·subst a;simp
   ·have t:¬ (i - 1=k):=by omega
    simp[o,a,t]
 ·exact(Zj h.all (by omega) (by decide) b).2 h.own
 ·exact(h.pool.step l (fun x y v=>by omega)).mono (fun x f _=>(Zj h.all (by omega) (by decide) x).2 f)
 ·intro j q s;by_cases a:j=k
  ·subst a
   have:q=⟨[],0⟩:=by simpa[Est.set] using s.symm
   subst this;refine⟨Nv,?_,Row.nil _ _ _,?_⟩
   ·simpa[Reg.left] using d
   ·simp[QbR,m]
  ·have n:e.reg j=some q:=by simpa[Est.set,a] using s
   have:=((h.reg j q n).step l (fun x y v=>by omega)).mono (O':=fun x=>QbR L (k+3) w r x=j+3) (fun x f _=>(Zj h.all (by omega) (by omega) x).2 f)
   simpa[a] using this
 ·exact Qda h.all (by omega) (by omega)
theorem QU.refl_grow {e:Est}(h:QU w b bp O e):QU w b bp (Q4 O w w) e:=h.mono QeN
theorem Qk3 (w:World) (b f:Nat) (O:Nat->Prop) (e:Est) (h:QU w b f O e) :
 Calls prog 170 #[Pv b 0] w fun e' w'=>e'=.returned (Iv e.openK)/\QU w' b f (Q4 O w w') e.opened/\Qz O (Q4 O w w') w w':=by
 have q:=h;obtain⟨L,g,h⟩:=h
 have l:Hid (w.rangeAt b 1 (Qbi e g)):=h.range;have m:Hid (Zw w b O e L f g):=h;have t:=h.row.lt;clear h;have s:Hid (QU w b f O e):=q;clear q;go_enter func170,ntmps170
 go_wp2_with (refine wpList_load_mid Z 71 (.tmp 7) Z b 1 Z (Qbi e g) _ l.out underlying71 Z (by kernel_rfl) ?_)
 go_loop [9] (fun i=>∃ k:Nat,k<=16/\i=Iv k/\∀ j,j<k->e.reg j≠none) (fun i=>16 - (intOf i).toNat)
 case atStart=>exact⟨0,by omega,Z,fun j o=>by omega⟩
 case round =>
  obtain⟨k,v,rfl,a⟩:=hrel
  by_cases c:k<16
  ·have d:=fun w=>QdO w e g k c
   cases hr:e.reg k with
   | none =>
     have E:Hid (e.openK=k/\e.opened=e.set k (some ⟨[],0⟩)):=Est.open_yes a c hr;have Q:=m.out.opened k c hr
     have D:Hid (QU ((w.alloc newReg).setCell ⟨b,1+k,none⟩ (Pv w.heap.size 0)) b f (Q4 O w ((w.alloc newReg).setCell ⟨b,1+k,none⟩ (Pv w.heap.size 0))) (e.set k (some ⟨[],0⟩)) /\
      Qz O (Q4 O w ((w.alloc newReg).setCell ⟨b,1+k,none⟩ (Pv w.heap.size 0))) w ((w.alloc newReg).setCell ⟨b,1+k,none⟩ (Pv w.heap.size 0))):=Q
     have p:=m.out.cellAt k c;have u:=m.out.row.frozen (1+k);rw[hr] at d p
     simp only[QaX] at d p
     clear hr a Q;go_wp2
     go_ret;rw[E.out.1,E.out.2,<-World.setCell_alloc_past _ _ _ _ t]
     exact⟨Z,D.out⟩
   | some r =>
     have N:Hid (∀ j,j<k+1->e.reg j≠none):=fun j o=>by
      rcases Nat.lt_succ_iff_lt_or_eq.1 o with n | n
      ·exact a j n
      ·subst n;rw[hr];simp
     rw[hr] at d
     simp only[QaX] at d
     clear hr a;go_wp2
     go_round
     case rel=>exact⟨k+1,by omega,by go_num,N.out⟩
     case measure=>simp[intOf];omega
  ·have E:Hid (e.openK=-1/\e.opened=e):=Est.open_no (fun j o=>a j (by omega));clear a;go_wp2
   go_ret;rw[E.out.1,E.out.2]
   exact⟨Z,s.out.refl_grow,Qz.refl_grow O w⟩
theorem Zw.closed {e:Est}{L g:Nat->Nat}(h:Zw w b O e L bp g) (k:Nat) (u:k<16) :
 Zw (w.setCell ⟨b,1+k,none⟩ (.pointer none)) b O (e.set k none) L bp g/\Qz O O w (w.setCell ⟨b,1+k,none⟩ (.pointer none)):=by
 have d:Qz (fun x=>L x=1) (fun x=>L x=1) w (w.setCell ⟨b,1+k,none⟩ (.pointer none)):=(Qz.refl _ w).setCell (p:=⟨b,1+k,none⟩) h.own _;have n:O b:=(h.all b (by rw[h.own];decide)).1;refine⟨⟨?_,h.own,h.pool.step d (fun x s r=>by omega),?_,?_⟩,(Qz.refl O w).setCell (p:=⟨b,1+k,none⟩) n _⟩
 ·refine(h.row.set (1+k) (.pointer none)).congr fun i t=>?_
  unfold Qmd QaX Est.set;by_cases f:i=0
  ·subst f;rw[Xr (by omega)];rfl
  ·by_cases a:i=1+k
   ·subst a;simp
   ·have m:¬ (i - 1=k):=by omega
    simp[f,a,m]
 ·intro j q l
  have c:e.reg j=some q:=by
   by_cases a:j=k
   ·subst a;simp[Est.set] at l
   ·simpa[Est.set,a] using l
  exact(h.reg j q c).step d (fun x s r=>by omega)
 ·intro x o
  have:=h.all x o
  simpa using this
theorem Qi1 (l:List Int) (j:Nat) (a:j<l.length):l.take (j+1)=l.take j++[l.getD j 0]:=by
 rw[List.take_succ_eq_append_getElem a];simp[List.getD,a]
theorem Qk5 (w:World) (b n:Nat) (O:Nat->Prop) (e:Est) (k:Int) (h:Qdk w b n O e) :
 Calls prog 171 #[Pv b 0,Iv k] w fun e' w'=>e'=.returned (.bool (e.has k))/\QU w' b n (Q4 O w w') (e.shut k)/\Qz O (Q4 O w w') w w':=by
 have C:Hid (Calls prog 217 #[Pv b 0,Iv k] w fun e' w'=>e'=.returned (.bool (e.has k))/\w'=w):=Qid w b n O e k h.1
 cases hh:e.has k with
 | false =>
   have E:Hid (e.shut k=e):=Est.shut_no hh;have HH:Hid (QU w b n O e):=h.1;rw[hh] at C
   clear h hh;go_enter func171,ntmps171
   go_wp2_with (go_at_call 217;refine(C.out).mono ?_;rintro e w' ⟨rfl,rfl⟩)
   go_ret;rw[E.out]
   exact⟨Z,HH.out.refl_grow,Qz.refl_grow O _⟩
 | true =>
   rw[hh] at C
   obtain⟨j,r,rfl,P,I⟩:=Est.has_true hh
   have E:Hid (e.shut j=(e.set j none).withP (e.p.giveAll r.pages)):=Est.shut_yes P I;have J:=h.2.lenR I;obtain⟨⟨L,g,l⟩,U⟩:=h
   have c:=l.cellAt j P;rw[I] at c
   simp only[QaX] at c
   obtain⟨v,B,y,T⟩:=l.reg j r I
   have cv:w.cell? ⟨g j,0,none⟩=some v:=Qb B 0 _ Z;obtain⟨a,s,rfl,-,-⟩:=y.form
   have P0:Hid (∃ u,Zw w b (Q4 O w w) (e.withP (e.p.giveAll (r.pages.take 0))) u n g/\Row w (fun x=>u x=j+3) 3 (.slice a r.pages.length s) r.pages/\Qz O (Q4 O w w) w w) :=
    ⟨L,l.mono QeN,y,Qz.refl_grow O w⟩
   obtain⟨gj,K⟩:∃ gj,g j=gj:=⟨_,Z⟩
   rw[K] at c cv
   obtain⟨d,W⟩:∃ d,r.pages.length=d:=⟨_,Z⟩
   have R:Hid (r.pages.length=d):=W;rw[W] at cv J P0
   clear l U B y T I hh W K;have ac:(j:Int)<16:=by omega
   go_enter func171,ntmps171
   go_wp2_with (go_at_call 217;refine(C.out).mono ?_;rintro e w' ⟨rfl,X⟩;have X:=X.symm;subst X)
   go_loopw [21] (fun i wr=>∃ m:Nat,m<=d/\i=Iv m/\∃ u,Zw wr b (Q4 O w wr) (e.withP (e.p.giveAll (r.pages.take m))) u n g/\Row wr (fun x=>u x=j+3) 3 (.slice a d s) r.pages/\Qz O (Q4 O w wr) w wr) (fun i _=>d - (intOf i).toNat)
   case atStart=>exact⟨0,by omega,Z,P0.out⟩
   case round =>
    clear P0 c cv C;obtain⟨m,hm,rfl,u,l,f,o⟩:=hrel
    have c0:=l.cell0;by_cases aa:m<d
    ·obtain⟨ga,rfl,-,-,-,-⟩:=f.head (by have:=R.out;omega)
     have cm:=f.cell m (by have:=R.out;omega);have z:=Qi1 r.pages m (by have:=R.out;omega);obtain⟨q,hq⟩:∃ q,r.pages.getD m 0=q:=⟨_,Z⟩
     rw[hq] at cm z
     have G:Hid (Calls prog 218 #[Pv n 0,Iv q] wr fun e' w'=>(∃ t,e'=.returned (.bool t))/\∃ L'',Zw w' b (Q4 O w w') (e.withP (e.p.giveAll (r.pages.take (m+1)))) L'' n g/\Row w' (fun x=>L'' x=j+3) 3 (.slice (some ⟨ga,0,none⟩) d s) r.pages/\Qz O (Q4 O w w') w w'):=by
      refine(Qj2 wr n (fun x=>u x=2) _ q l.pool).mono ?_
      rintro e' w' ⟨rfl,k1,k2⟩;refine⟨⟨_,Z⟩,QbR u 2 wr w',?_⟩
      obtain⟨N,Q⟩:=l.stepPool k1 k2
      refine⟨?_,?_,o.trans_grow Q⟩
      ·rw[z,PSt.giveAll_snoc]
       exact N.mono (fun x hx _=>Qce o.size x hx)
      ·exact(f.step k2 (fun x h1 h2=>by omega)).mono (fun x hx _=>(Zj l.all (by omega) (by omega) x).2 hx)
     have ab:(0:Int)<=m:=by omega
     have V:(m:Int)<d:=by omega
     clear l f o hq z;go_wp2_with (go_at_call 218;refine(G.out).mono ?_;rintro e' M ⟨⟨t,rfl⟩,H⟩)
     have W5:Hid (∃ L'',Zw M b (Q4 O w M) (e.withP (e.p.giveAll (r.pages.take (m+1)))) L'' n g/\Row M (fun x=>L'' x=j+3) 3 (.slice (some ⟨ga,0,none⟩) d s) r.pages/\Qz O (Q4 O w M) w M):=H;clear H;go_wp2
     go_roundw
     case rel=>exact⟨m+1,by omega,by go_num,W5.out⟩
     case measure=>simp[intOf];omega
    ·have A:m=d:=by omega
     have F:r.pages.take m=r.pages:=by rw[A,<-R.out];simp
     rw[F] at l
     obtain⟨N,Q⟩:=l.closed j P
     have D:Hid (Zw (wr.setCell ⟨b,1+j,none⟩ (.pointer none)) b (Q4 O w wr) ((e.set j none).withP (e.p.giveAll r.pages)) u n g/\Qz (Q4 O w wr) (Q4 O w wr) wr (wr.setCell ⟨b,1+j,none⟩ (.pointer none))):=⟨N,Q⟩;have S:Hid (Qz O (Q4 O w wr) w wr):=o;have cj:=l.cellAt j P;have fj:=l.row.frozen (1+j);simp only[QaX] at cj
     have V:¬ (m:Int)<d:=by omega
     clear N Q o l f A F;go_wp2
     go_ret;rw[E.out]
     have eg:Q4 O w (wr.setCell ⟨b,1+j,none⟩ (.pointer none))=Q4 O w wr:=by unfold Q4;simp
     rw[eg]
     exact⟨Z,⟨_,_,D.out.1⟩,S.out.trans D.out.2⟩
set_option maxRecDepth 100000
theorem QfJ (l:List Int) (h:l≠[]):l.getD (l.length - 1) 0=l.getLastD 0:=by
 rcases List.eq_nil_or_concat l with a | ⟨b,k,a⟩
 ·exact absurd a h
 ·rw[a];simp[List.getD]
theorem Qja (w:World) (e:Nat) (O:Nat->Prop) (r:Reg) (n:Int) (h:QaM w e O r) (k:r.pages≠[]) (G:r.pages.length<=64) (o:0<=r.pages.getLastD 0) (y:r.pages.getLastD 0<64) (M:0<=r.used) (L:r.used<=16) (P:1<=n) (s:n<=16 - r.used) :
 Calls prog 281 #[Pv e 0,Iv n] w fun e' w'=>e'=.returned (Iv (16*r.pages.getLastD 0+r.used))/\QaM w' e O ⟨r.pages,r.used+n⟩/\Qz O O w w':=by
 obtain⟨v,b,d,g⟩:=h
 have j:r.left=16 - r.used:=by simp[Reg.left,k]
 have f:0<r.pages.length:=List.length_pos_iff.2 k;obtain⟨a,i,rfl,-,-⟩:=d.form
 obtain⟨B,rfl,-,-,-,-⟩:=d.head f
 have l:=d.cell (r.pages.length - 1) (by omega);rw[QfJ _ k] at l
 rw[j] at b
 have E:w.cell? ⟨e,0,none⟩=some (.slice (some ⟨B,0,none⟩) r.pages.length i):=Qb b 0 _ Z;have J:w.cell? ⟨e,1,none⟩=some (Iv (16 - r.used)):=Qb b 1 _ Z;have N:=Qj b 1
 have D:Hid (QaM (w.setCell ⟨e,1,none⟩ (Iv (16 - r.used - n))) e O ⟨r.pages,r.used+n⟩/\Qz O O w (w.setCell ⟨e,1,none⟩ (Iv (16 - r.used - n)))):=by
  refine⟨⟨.slice (some ⟨B,0,none⟩) r.pages.length i,?_,?_,g⟩,(Qz.refl O w).setCell (p:=⟨e,1,none⟩) g _⟩
  ·rw[Qh b]
   have:(Reg.mk r.pages (r.used+n)).left=16 - r.used - n:=by simp[Reg.left,k];omega
   rw[this];rfl
  ·refine d.keep (fun x I=>?_) d.2;obtain⟨c,C⟩:=d.block I
   exact Xd _ _ _ _ (Zb C b (by decide))
 obtain⟨m,z⟩:∃ m,r.pages.length=m+1:=⟨r.pages.length - 1,by omega⟩
 rw[z] at E l G
 rw[show m+1 - 1=m by omega] at l
 obtain⟨q,A⟩:∃ q,r.pages.getLastD 0=q:=⟨_,Z⟩
 obtain⟨u,t⟩:∃ u,r.used=u:=⟨_,Z⟩
 have K:Hid (r.used=u):=t;rw[A] at l o y |-
 rw[t] at J M L s
 have H:(0:Int)<=m:=by omega
 have F:(m:Int)<(m+1:Nat):=by omega
 clear b d z A j f k t;go_enter func281,ntmps281
 go_wp2_with fail
 go_quiet (fail)
 go_wp2
 go_ret;rw[K.out] at D |-
 refine⟨?_,D.out.1,((Qz.refl O _).drewN _).setCell (p:=⟨e,1,none⟩) g _⟩
 show Ending.returned (Value.int .i64 ((q+1)*16 - (16 - u)))=_;rw[show (q+1)*16 - (16 - u)=16*q+u by omega]
theorem Qhg {b:Nat}{r:Reg}{q:Int}{j:Nat}{o:Obj}{B:Value}(y:w.heap[b]?=some (.cells #[v,B] 285 (0,0))) (z:Row w O 3 v r.pages) (E:O b)
 (I:w1.ownsRow 0 3 1 (.slice (some ⟨j,0,none⟩) (r.pages.length+1) cap) (r.pages.length+1) (r.pages.map (Value.int .i64)++[Iv q]))
 (a:(w.alloc o).grownBy w1 v.ownBlock) (k:v.ownBlock=some j\/j=w.heap.size+1) (t:j<w1.heap.size) :
 w1.cell? ⟨b,0,none⟩=some v/\w1.cell? ⟨b,1,none⟩=some B/\w1.frozen? ⟨b,0,none⟩=false/\w1.frozen? ⟨b,1,none⟩=false /\
 QaM ((w1.setCell ⟨b,0,none⟩ (.slice (some ⟨j,0,none⟩) (r.pages.length+1) cap)).setCell ⟨b,1,none⟩ (Iv 16)) b (Q4 O w w1) ⟨r.pages++[q],0⟩ /\
 Qz O (Q4 O w w1) w ((w1.setCell ⟨b,0,none⟩ (.slice (some ⟨j,0,none⟩) (r.pages.length+1) cap)).setCell ⟨b,1,none⟩ (Iv 16)):=by
 have n:=XC y
 have l:v.ownBlock≠some b:=fun e=>by
  obtain⟨c,D⟩:=z.block e
  exact absurd Z (Zb D y (by decide))
 have i:∀ x,x<w.heap.size->v.ownBlock≠some x->w1.heap[x]?=w.heap[x]?:=fun x g u =>
  (a.block x (by simp;omega) (fun e=>u e.symm)).trans (Below.heap_alloc _ _ _ g)
 have d:=(i b n l).trans y;have G:w.heap.size+1<=w1.heap.size:=by have:=a.size;simpa using this
 have C:∀ x,O x\/w.heap.size<=x->x<w1.heap.size->Q4 O w w1 x:=fun x h s=>⟨h,s⟩;have f:=z.pushed (o:=o) I k t (Q4 O w w1) C
 have m:b≠j:=by
  intro e;subst e;rcases k with s | s
  ·exact l s
  ·omega
 have A:Q4 O w w1 b:=C b (Or.inl E) (by omega);refine⟨Qb d 0 _ Z,Qb d 1 _ Z,Qj d 0,Qj d 1,⟨.slice (some ⟨j,0,none⟩) (r.pages.length+1) cap,?_,?_,A⟩,?_⟩
 ·rw[Qh (Qh d 0 _) 1]
  have:(Reg.mk (r.pages++[q]) 0).left=16:=by simp[Reg.left]
  rw[this];rfl
 ·refine f.keep (fun x g=>?_) f.2;simp[Value.ownBlock] at g;subst g
  rw[Xd _ _ _ _ (Ne.symm m),Xd _ _ _ _ (Ne.symm m)]
 ·have F:Qz O (Q4 O w w1) w w1:=by
   refine⟨a.os,a.tape,a.output,by omega,fun x g H=>?_,fun x g=>g.1⟩
   exact i x g (fun e=>H (z.2 x e))
  exact(F.setCell (p:=⟨b,0,none⟩) A _).setCell (p:=⟨b,1,none⟩) A _
theorem Ql8 (w:World) (b:Nat) (O:Nat->Prop) (e:Est) (L g:Nat->Nat) (a k:Nat) (h:Zw w b O e L a g) (j:e.p.nextK<0) :
 Calls prog 280 #[Pv b 0,Pv k 0] w fun e' w'=>e'=.returned (.bool false)/\QU w' b a (Q4 O w w') e/\Qz O (Q4 O w w') w w':=by
 have d:e.p.Ok:=h.pool.ok;have o:=h.cell0
 have G:Hid (Calls prog 289 #[Pv a 0] w fun e' w'=>e'=.returned (Iv e.p.nextK)/\QU w' b a (Q4 O w w') e/\Qz O (Q4 O w w') w w'):=by
  refine(QgH w a (fun x=>L x=2) _ h.pool).mono ?_
  rintro e' w' ⟨rfl,n,m⟩;obtain⟨f,l⟩:=h.stepPool n m
  rw[PSt.take_none d j] at f
  exact⟨Z,⟨_,_,f⟩,l⟩
 obtain⟨q,i⟩:∃ q,e.p.nextK=q:=⟨_,Z⟩
 rw[i] at j G
 clear h i;go_enter func280,ntmps280
 go_wp2_with (go_at_call 289;refine(G.out).mono ?_;rintro e' r ⟨rfl,c⟩)
 go_ret;exact⟨Z,c⟩
theorem QkZ (w:World) (b:Nat) (O:Nat->Prop) (e:Est) (L g:Nat->Nat) (u j:Nat) (r:Reg) (h:Zw w b O e L u g) (hr:e.reg j=some r) (hl:r.pages.length<=64) (hk:0<=e.p.nextK) :
 Calls prog 280 #[Pv b 0,Pv (g j) 0] w fun e' w'=>e'=.returned (.bool true)/\∃ L',Zw w' b (Q4 O w w') ((e.set j (some ⟨r.pages++[e.p.nextK],0⟩)).withP e.p.take) L' u g/\Qz O (Q4 O w w') w w':=by
 have c0:=h.cell0;have A:=(PSt.nextK_lt h.pool.ok).2;have aa:=h.pool.ok.most
 have G:Hid (Calls prog 289 #[Pv u 0] w fun e' w'=>e'=.returned (Iv e.p.nextK)/\Zw w' b (Q4 O w w') (e.withP e.p.take) (QbR L 2 w w') u g/\Qz O (Q4 O w w') w w'):=by
  refine(QgH w u (fun x=>L x=2) _ h.pool).mono ?_
  rintro e' w' ⟨rfl,k1,k2⟩;obtain⟨M,R⟩:=h.stepPool k1 k2
  exact⟨Z,M,R⟩
 obtain⟨q,X⟩:∃ q,e.p.nextK=q:=⟨_,Z⟩
 rw[X] at hk A G |-
 clear h X;obtain⟨d,y⟩:∃ d,g j=d:=⟨_,Z⟩
 have I:Hid (g j=d):=y;rw[y]
 clear y;go_enter func280,ntmps280
 go_wp2_with fail
 refine(G.out).mono ?_
 rintro e' B ⟨rfl,S,T⟩;have z:(e.withP e.p.take).reg j=some r:=hr;obtain⟨v,C,E,K⟩:=S.reg j r z
 rw[I.out] at C K
 have cv:B.cell? ⟨d,0,none⟩=some v:=Qb C 0 _ Z;obtain⟨a,t,rfl,-,-⟩:=E.form
 have m:=E.1;obtain⟨i0,hi,Q,J,P⟩:=info_parts info_int
 have N:Hid (∀ k c i,i.ownsRow 0 3 1 (.slice (some ⟨k,0,none⟩) (r.pages.length+1) c) (r.pages.length+1) (r.pages.map (Value.int .i64)++[Iv q]) ->
  (B.alloc (.cells #[Iv q] 3)).grownBy i (Value.slice a r.pages.length t).ownBlock->((Value.slice a r.pages.length t).ownBlock=some k\/k=B.heap.size+1)->k<i.heap.size ->
  i.cell? ⟨d,0,none⟩=some (.slice a r.pages.length t)/\i.cell? ⟨d,1,none⟩=some (Iv r.left)/\i.frozen? ⟨d,0,none⟩=false/\i.frozen? ⟨d,1,none⟩=false /\
  ∃ L',Zw ((i.setCell ⟨d,0,none⟩ (.slice (some ⟨k,0,none⟩) (r.pages.length+1) c)).setCell ⟨d,1,none⟩ (Iv 16)) b (Q4 O w ((i.setCell ⟨d,0,none⟩ (.slice (some ⟨k,0,none⟩) (r.pages.length+1) c)).setCell ⟨d,1,none⟩ (Iv 16))) ((e.set j (some ⟨r.pages++[q],0⟩)).withP e.p.take) L' u g /\
   Qz O (Q4 O w ((i.setCell ⟨d,0,none⟩ (.slice (some ⟨k,0,none⟩) (r.pages.length+1) c)).setCell ⟨d,1,none⟩ (Iv 16))) w ((i.setCell ⟨d,0,none⟩ (.slice (some ⟨k,0,none⟩) (r.pages.length+1) c)).setCell ⟨d,1,none⟩ (Iv 16))):=by
  intro k c i H f o n;have U:=I.out;clear I;subst U;obtain⟨V,d2,W,d4,F,d6⟩:=Qhg (r:=r) C E K H f o n
  refine⟨V,d2,W,d4,?_⟩
  obtain⟨M,R⟩:=S.stepReg z F d6
  exact⟨_,M.mono (fun x hx _=>Qce T.size x hx),T.trans_grow R⟩
 obtain⟨l,s⟩:∃ l,r.pages.length=l:=⟨_,Z⟩
 rw[s] at cv m hl N
 clear C E K S T z s G c0;go_wp2_with (at_builtin;refine wpList_append_lies _ Z (.tmp 17) (.tmp 19) 76 Z 0 3 i0 (Iv 0) 1 8 under_ints hi Q J P Z (by decide) _ _ _ Z (m.alloc _) ⟨B.heap.size,0,none⟩ 1 1 [Iv q] Z Z (Qgz _ _ _) (Qc6 _) (by decide) (by unfold maxLen;omega) (by omega) (Xb _) (B.heap.size+1) (by simp) ?_)
 intro k c i H f o n;obtain⟨V,d2,W,d4,F⟩:=N.out k c i H f o n
 have D:Hid (∃ L',Zw ((i.setCell ⟨d,0,none⟩ (.slice (some ⟨k,0,none⟩) (l+1) c)).setCell ⟨d,1,none⟩ (Iv 16)) b (Q4 O w ((i.setCell ⟨d,0,none⟩ (.slice (some ⟨k,0,none⟩) (l+1) c)).setCell ⟨d,1,none⟩ (Iv 16))) ((e.set j (some ⟨r.pages++[q],0⟩)).withP e.p.take) L' u g /\
  Qz O (Q4 O w ((i.setCell ⟨d,0,none⟩ (.slice (some ⟨k,0,none⟩) (l+1) c)).setCell ⟨d,1,none⟩ (Iv 16))) w ((i.setCell ⟨d,0,none⟩ (.slice (some ⟨k,0,none⟩) (l+1) c)).setCell ⟨d,1,none⟩ (Iv 16))):=F
 clear F H f o n m N;go_wp2
 go_ret;exact⟨Z,D.out⟩
theorem QeC (l:List Int) (h:l≠[]):l.getLastD 0∈l:=by
 rcases List.eq_nil_or_concat l with a | ⟨b,k,a⟩
 ·exact absurd a h
 ·rw[a];simp
theorem Qlr (w:World) (b y:Nat) (O:Nat->Prop) (e:Est) (k n:Int) (h:Qdk w b y O e) :
 Calls prog 254 #[Pv b 0,Iv k,Iv n] w fun e' w'=>e'=.returned (.tuple #[Iv (e.getAt k n),Iv (e.getCode k n)])/\QU w' b y (Q4 O w w') (e.got k n)/\Qz O (Q4 O w w') w w':=by
 have C:Hid (Calls prog 217 #[Pv b 0,Iv k] w fun e' w'=>e'=.returned (.bool (e.has k))/\w'=w):=Qid w b y O e k h.1;have U:Hid (QU w b y O e):=h.1
 cases hh:e.has k with
 | false =>
   have E:Hid (e.getCode k n=15/\e.getAt k n=0/\e.got k n=e):=Est.get_none hh;rw[hh] at C
   clear h hh;go_enter func254,ntmps254
   go_wp2_with (go_at_call 217;refine(C.out).mono ?_;rintro e w' ⟨rfl,rfl⟩)
   go_ret2;rw[E.out.1,E.out.2.1,E.out.2.2]
   exact⟨Z,U.out.refl_grow,Qz.refl_grow O _⟩
 | true =>
   rw[hh] at C
   by_cases D:n<1\/16<n
   ·have E:Hid (e.getCode k n=1/\e.getAt k n=0/\e.got k n=e):=Est.get_range hh D;clear h hh;by_cases V:n<1
    ·clear D;go_enter func254,ntmps254
     go_wp2_with (go_at_call 217;refine(C.out).mono ?_;rintro e w' ⟨rfl,rfl⟩)
     go_ret2;rw[E.out.1,E.out.2.1,E.out.2.2]
     exact⟨Z,U.out.refl_grow,Qz.refl_grow O _⟩
    ·have S:16<n:=by omega
     clear D;go_enter func254,ntmps254
     go_wp2_with (go_at_call 217;refine(C.out).mono ?_;rintro e w' ⟨rfl,rfl⟩)
     go_ret2;rw[E.out.1,E.out.2.1,E.out.2.2]
     exact⟨Z,U.out.refl_grow,Qz.refl_grow O _⟩
   ·obtain⟨j,r,rfl,M,f⟩:=Est.has_true hh
    have F:=h.2.lenR f;have s:=h.2.used j r f;have V:¬ n<1:=by omega
    have S:¬ 16<n:=by omega
    obtain⟨⟨L,g,B⟩,d⟩:=h
    have c:=B.cellAt j M;rw[f] at c
    simp only[QaX] at c
    have I:w.cell? ⟨g j,1,none⟩=some (Iv r.left):=by
     obtain⟨v,Q,ac,ab⟩:=B.reg j r f
     exact Qb Q 1 _ Z
    have ae:(j:Int)<16:=by omega
    have a:r.pages≠[]->0<=r.pages.getLastD 0/\r.pages.getLastD 0<64:=fun h=>by
     have:=d.low (k:=j) (x:=r.pages.getLastD 0) (by rw[Est.at_some f];exact QeC _ h)
     have:=d.ok.most
     omega
    cases hm:r.more n with
    | false =>
      have E:Hid (e.getCode j n=0/\e.getAt j n=16*r.pages.getLastD 0+r.used/\e.got j n=e.set j (some ⟨r.pages,r.used+n⟩)):=Est.get_room M f D hm;obtain⟨A,J⟩:=Reg.room hm (by omega)
      have G:Hid (Calls prog 281 #[Pv (g j) 0,Iv n] w fun e' w'=>e'=.returned (Iv (16*r.pages.getLastD 0+r.used))/\QU w' b y (Q4 O w w') (e.set j (some ⟨r.pages,r.used+n⟩))/\Qz O (Q4 O w w') w w'):=by
       refine(Qja w (g j) _ r n (B.reg j r f) A F (a A).1 (a A).2 s.1 s.2 (by omega) J).mono ?_
       rintro e' w' ⟨rfl,W,P⟩;obtain⟨R,X⟩:=B.stepReg f W P
       exact⟨Z,⟨_,_,R⟩,X⟩
      have t:¬ r.left<n:=by simpa[Reg.more] using hm
      generalize 16*r.pages.getLastD 0+r.used=z at E G;generalize r.left=lf at I t;generalize g j=gk at c I G;clear B d f hh hm D a J A s;go_enter func254,ntmps254
      go_wp2_with (first | (go_at_call 217;refine(C.out).mono ?_;rintro e' w' ⟨rfl,m⟩;have m:=m.symm;subst m) | (go_at_call 281;refine(G.out).mono ?_;rintro e' w5 ⟨rfl,o⟩))
      go_ret2;rw[E.out.1,E.out.2.1,E.out.2.2]
      exact⟨Z,o⟩
    | true =>
      have t:r.left<n:=by simpa[Reg.more] using hm
      by_cases N:e.p.nextK<0
      ·have E:Hid (e.getCode j n=14/\e.getAt j n=0/\e.got j n=e):=Est.get_full M f D hm N;have G:Hid (Calls prog 280 #[Pv b 0,Pv (g j) 0] w fun e' w'=>e'=.returned (.bool false)/\QU w' b y (Q4 O w w') e/\Qz O (Q4 O w w') w w'):=Ql8 w b O e L g y _ B N;generalize r.left=lf at I t;generalize g j=gk at c I G;clear B d f hh hm D a s N;go_enter func254,ntmps254
       go_wp2_with (first | (go_at_call 217;refine(C.out).mono ?_;rintro e' w' ⟨rfl,m⟩;have m:=m.symm;subst m) | (go_at_call 280;refine(G.out).mono ?_;rintro e' w5 ⟨rfl,o⟩))
       go_ret2;rw[E.out.1,E.out.2.1,E.out.2.2]
       exact⟨Z,o⟩
      ·have E:Hid (e.getCode j n=0/\e.getAt j n=16*e.p.nextK/\e.got j n=(e.set j (some ⟨r.pages++[e.p.nextK],n⟩)).withP e.p.take):=Est.get_more M f D hm N;have aa:=(PSt.nextK_lt d.ok).2;have ad:=d.ok.most;have H:=d.moreSet f (n:=0) (by omega) (by omega) (by omega);have u:((e.set j (some ⟨r.pages++[e.p.nextK],0⟩)).withP e.p.take).reg j=some ⟨r.pages++[e.p.nextK],0⟩:=by simp[Est.withP,Est.set]
       have q:=H.lenR u
       have G:Hid (Calls prog 280 #[Pv b 0,Pv (g j) 0] w fun e' w'=>e'=.returned (.bool true) /\
        Calls prog 281 #[Pv (g j) 0,Iv n] w' fun K l=>K=.returned (Iv (16*e.p.nextK))/\QU l b y (Q4 O w l) ((e.set j (some ⟨r.pages++[e.p.nextK],n⟩)).withP e.p.take)/\Qz O (Q4 O w l) w l):=by
        refine(QkZ w b O e L g y j r B f F (by omega)).mono ?_
        rintro e' w' ⟨rfl,L',p1,p2⟩;refine⟨Z,?_⟩
        refine(Qja w' (g j) _ _ n (p1.reg j _ u) (by simp) q (by simp;omega) (by simp;omega) (by simp) (by simp) (by omega) (by simp;omega)).mono ?_
        rintro K l ⟨rfl,W,P⟩;obtain⟨R,X⟩:=p1.stepReg u W P
        refine⟨by simp,⟨QbR L' (j+3) w' l,g,?_⟩,p2.trans_grow X⟩
        have e1:((e.set j (some ⟨r.pages++[e.p.nextK],0⟩)).withP e.p.take).set j (some ⟨r.pages++[e.p.nextK],0+n⟩)=(e.set j (some ⟨r.pages++[e.p.nextK],n⟩)).withP e.p.take:=by
         simp only[Est.withP,Est.set]
         congr 1
         funext i
         by_cases hi:i=j<;>simp[hi]
        rw[<-e1]
        exact R.mono (fun x hx _=>Qce p2.size x hx)
       generalize r.left=lf at I t;generalize g j=gk at c I G;clear B d f hh hm D a s H u q;go_enter func254,ntmps254
       go_wp2_with (first | (go_at_call 217;refine(C.out).mono ?_;rintro e' w' ⟨rfl,m⟩;have m:=m.symm;subst m) | (go_at_call 280;refine(G.out).mono ?_;rintro e' w5 ⟨rfl,o⟩) | (go_at_call 281;refine o.mono ?_;rintro e' w6 ⟨rfl,T⟩))
       go_ret2;rw[E.out.1,E.out.2.1,E.out.2.2]
       exact⟨Z,T⟩
set_option maxRecDepth 100000
theorem Qma (w:World) (n:Int) (h:n<0\/64<n) :
 Calls prog 67 #[Iv n] w fun e w'=>e=.returned (.tuple #[.pointer none,.agg #[Iv 1,Iv (-1)]])/\Below w.heap.size w w':=by
 have C:Hid (∀ w,Calls prog 109 #[Iv n] w fun e w'=>e=.returned (.tuple #[.pointer none,.agg #[Iv 1,Iv (-1)]])/\Below w.heap.size w w'):=fun w=>QmE w n h;clear h;go_enter func67,ntmps67
 go_wp2_with fail
 refine(C.out _).mono ?_
 rintro e b ⟨rfl,c⟩;have a:b.heap[w.heap.size]?=some (.cells #[Iv 0,Iv 0] 32 (0,0)):=(c.block w.heap.size (by simp)).trans (Qe w _ _);have B:Hid (Below w.heap.size w b):=((Below.refl _ w).alloc Ze _).trans (c.mono (by simp));have d:=XC a;have j:b.cell? ⟨w.heap.size,0,none⟩=some (Iv 0):=Qb a 0 _ Z;have i:b.cell? ⟨w.heap.size,1,none⟩=some (Iv 0):=Qb a 1 _ Z;have m:=Qj a 0;have l:=Qj a 1;have k:w.heap.size<=w.heap.size:=Ze;generalize f:w.heap.size=X at *;clear a c;go_wp2
 go_region;go_wp2
 refine Xy (v:=.tuple #[.pointer none,.agg #[Iv 1,Iv (-1)]]) (by simp[results,results67,go_sem,j,i,d]) Z ⟨Z,?_⟩;have g:=((B.out.setCell (p:=⟨X,0,none⟩) (Nat.le_refl X) (Iv 1)).setCell (p:=⟨X,1,none⟩) (Nat.le_refl X) (Iv (-1)));rw[f]
 exact((g.alloc (by simp;omega) _)).drew
def QeD (bp:Nat):Array Value:=#[Pv bp 0,.pointer none,.pointer none,.pointer none,.pointer none,.pointer none,.pointer none,.pointer none,.pointer none,.pointer none,.pointer none,.pointer none,.pointer none,.pointer none,.pointer none,.pointer none,.pointer none]
theorem QhO (a:Nat):∀ i,i<17->(QeD a)[i]?=some (Qmd a (fun _=>none) (fun _=>0) i):=by
 intro i b
 have:i=0\/i=1\/i=2\/i=3\/i=4\/i=5\/i=6\/i=7\/i=8\/i=9\/i=10\/i=11\/i=12\/i=13\/i=14\/i=15\/i=16:=by omega
 rcases this with h | h | h | h | h | h | h | h | h | h | h | h | h | h | h | h | h<;>subst h<;>rfl
theorem QlD (w:World) (n:Nat) (h:n<=64) (a X Y:Nat) (d:Qn w a (fun x=>X+1<=x/\x<Y) (PSt.new n)) (i:X<w.heap.size) (g:Y<=w.heap.size) :
 Qdk (w.alloc (.cells (QeD a) 73)) w.heap.size a (fun x=>X<=x/\x<(w.alloc (.cells (QeD a) 73)).heap.size) (Est.new n):=by
 refine⟨⟨fun x=>if x=w.heap.size then 1 else if X+1<=x/\x<Y then 2 else 0,fun _=>0,?_,?_,?_,?_,?_⟩,Est.ok_new n h⟩
 ·exact⟨QeD a,Qe w _ _,Z,QhO a⟩
 ·simp
 ·refine(d.step (Qz.of_alloc (fun _=>False) w _) (fun _ _ h=>h)).mono (fun x b _=>?_)
  have:¬ x=w.heap.size:=by omega
  simp[this,b]
 ·intro k r e;simp[Est.new] at e
 ·intro x b;by_cases c:x=w.heap.size
  ·subst c;simp;omega
  ·by_cases f:X+1<=x/\x<Y
   ·simp;omega
   ·simp[c,f] at b
theorem QjS (w:World) (n:Nat) (h:n<=64) :
 Calls prog 67 #[Iv n] w fun e w'=>∃ b bp,e=.returned (.tuple #[Pv b 0,.agg #[Iv 0,Iv 0]])/\Qdk w' b bp (fun x=>w.heap.size<=x/\x<w'.heap.size) (Est.new n)/\Below w.heap.size w w':=by
 have C:Hid (∀ w,Calls prog 109 #[Iv n] w fun e w'=>∃ b,e=.returned (.tuple #[Pv b 0,.agg #[Iv 0,Iv 0]])/\Qn w' b (fun x=>w.heap.size<=x/\x<w'.heap.size) (PSt.new n)/\Below w.heap.size w w'):=fun w=>QlG w n h;go_enter func67,ntmps67
 go_wp2_with fail
 refine(C.out _).mono ?_
 rintro e a ⟨bp,rfl,j,f⟩;have c:a.heap[w.heap.size]?=some (.cells #[Iv 0,Iv 0] 32 (0,0)):=(f.block w.heap.size (by simp)).trans (Qe w _ _);have B:Hid (Below w.heap.size w a/\Qn a bp (fun x=>w.heap.size+1<=x/\x<a.heap.size) (PSt.new n)):=⟨((Below.refl _ w).alloc Ze _).trans (f.mono (by simp)),j.mono (fun x i _=>⟨by have:=i.1;simp at this;omega,i.2⟩)⟩;have g:=XC c;have m:a.cell? ⟨w.heap.size,0,none⟩=some (Iv 0):=Qb c 0 _ Z;have l:a.cell? ⟨w.heap.size,1,none⟩=some (Iv 0):=Qb c 1 _ Z;have s:=Qj c 0;have q:=Qj c 1;generalize d:w.heap.size=X at *;clear c f j;go_wp2
 refine Xy (v:=.tuple #[Pv (a.heap.size+1) 0,.agg #[Iv 0,Iv 0]]) (by simp[results,results67,go_sem,m,l,g]) Z ⟨a.heap.size+1,bp,Z,?_,?_⟩
 ·rw[d]
  have S:Qz (fun x=>x=X) (fun x=>x=X) a (((a.setCell ⟨X,0,none⟩ (Iv 0)).setCell ⟨X,1,none⟩ (Iv 0)).alloc (.cells #[Iv 0,Iv 0] 32)) :=
   (((Qz.refl (fun x=>x=X) a).setCell (p:=⟨X,0,none⟩) Z _).setCell (p:=⟨X,1,none⟩) Z _).alloc _
  have:=QlD _ n h bp X a.heap.size (B.out.2.step S (fun x r o=>by omega)) (by simp;omega) (by simp)
  simpa[QeD] using this
 ·rw[d]
  have k:=((B.out.1.setCell (p:=⟨X,0,none⟩) (Nat.le_refl X) (Iv 0)).setCell (p:=⟨X,1,none⟩) (Nat.le_refl X) (Iv 0));exact(k.alloc (by simp;omega) _).alloc (by simp;omega) _
theorem QU.cell0 {e:Est}(h:QU w b bp O e):w.cell? ⟨b,0,none⟩=some (Pv bp 0):=by
 obtain⟨L,g,h⟩:=h
 exact h.cell0
theorem PSt.place_true {s:PSt}{k:Int}(h:s.place k=true):0<=k/\k<16*s.pages:=by simpa[PSt.place] using h
theorem QcF (w:World) (b:Nat) (O:Nat->Prop) (s:PSt) (k:Int) (h:Qn w b O s) :
 Calls prog 256 #[Pv b 0,Iv k] w fun e w'=>e=.returned (.bool (s.place k))/\w'=w:=by
 obtain⟨g,n,l,f,m,p,r,d,a,c⟩:=h
 have i:w.cell? ⟨b,0,none⟩=some (.slice (some ⟨g,0,none⟩) n n):=Qb f 0 _ Z;have j:=c.most;by_cases q:0<=k
 ·by_cases o:k<(n:Int)
  ·have E:Hid (s.place k=true):=by show s.place k=true;simp[PSt.place];omega
   clear a;go_enter func256,ntmps256
   go_wp2
   go_ret;exact⟨by rw[E.out];rfl,Z⟩
  ·have E:Hid (s.place k=false):=by show s.place k=false;simp[PSt.place];omega
   clear a;go_enter func256,ntmps256
   go_wp2
   go_ret;exact⟨by rw[E.out];rfl,Z⟩
 ·have E:Hid (s.place k=false):=by show s.place k=false;simp[PSt.place];omega
  clear a;go_enter func256,ntmps256
  go_wp2
  go_ret;exact⟨by rw[E.out];rfl,Z⟩
theorem QkO (w:World) (b:Nat) (O:Nat->Prop) (s:PSt) (k:Int) (h:Qn w b O s) :
 Calls prog 255 #[Pv b 0,Iv k] w fun e w'=>e=.returned (.tuple #[Iv (s.load k),.bool (s.place k)])/\w'=w:=by
 have c:=QcF w b O s k h;obtain⟨f,n,r,p,l,t,v,j,a,o⟩:=h
 have q:w.cell? ⟨b,0,none⟩=some (.slice (some ⟨f,0,none⟩) n n):=Qb p 0 _ Z
 cases hpl:s.place k with
 | true =>
   rw[hpl] at c
   have E:Hid (s.load k=s.ws k.toNat):=by show _=_;simp[PSt.load,hpl]
   obtain⟨d,m⟩:=PSt.place_true hpl
   obtain⟨i,rfl⟩:=Xc d
   have g:i<n:=by omega
   have u:w.cell? ⟨f,i,none⟩=some (Iv (s.ws i)):=l.cell g;have C:Hid (Calls prog 256 #[Pv b 0,Iv i] w fun e w'=>e=.returned (.bool true)/\w'=w):=c;clear c a d m hpl;go_enter func255,ntmps255
   go_wp2_with (go_at_call 256;refine(C.out).mono ?_;rintro e w' ⟨rfl,rfl⟩)
   go_ret2;exact⟨by rw[E.out];rfl,Z⟩
 | false =>
   rw[hpl] at c
   have E:Hid (s.load k=0):=by show _=_;simp[PSt.load,hpl]
   have C:Hid (Calls prog 256 #[Pv b 0,Iv k] w fun e w'=>e=.returned (.bool false)/\w'=w):=c;clear c a hpl;go_enter func255,ntmps255
   go_wp2_with (go_at_call 256;refine(C.out).mono ?_;rintro e w' ⟨rfl,rfl⟩)
   go_ret2;exact⟨by rw[E.out];rfl,Z⟩
theorem Qn.stored {s:PSt}{a:Nat}{m:Value}(t:w.heap[b]?=some (.cells #[.slice (some ⟨a,0,none⟩) n n,m,Iv s.fresh] 134 (0,0)))
 (r:w.rowIs a 2 n (fun i=>Iv (s.ws i))) (o:Row w O 3 m s.given) (y:O b) (f:O a) (v:n=16*s.pages) (q:s.Ok) (i:Nat) (hi:i<n) (x:Int) :
 Qn (w.setCell ⟨a,i,none⟩ (Iv x)) b O (s.store i x):=by
 have l:s.place i=true:=by simp[PSt.place];omega
 have e:s.store i x={ s with ws:=fun j=>if (j:Int)=i then x else s.ws j }:=by simp[PSt.store,l]
 rw[e]
 obtain⟨z,d,_,_⟩:=id r
 have p:b≠a:=Zb t d (by decide);refine⟨a,n,m,?_,?_,?_,y,f,v,?_⟩
 ·rw[Xd _ _ _ _ p];exact t
 ·refine(r.set i (Iv x)).congr fun j A=>?_
  by_cases e:j=i
  ·subst e;simp
  ·simp[e];intro h;omega
 ·refine o.keep (fun g k=>?_) o.2;obtain⟨c,u⟩:=o.block k
  exact Xd _ _ _ _ (Zb u d (by decide))
 ·have:=PSt.ok_store q i x;rw[e] at this;exact this
theorem Qje (w:World) (b:Nat) (O:Nat->Prop) (s:PSt) (k x:Int) (h:Qn w b O s) :
 Calls prog 221 #[Pv b 0,Iv k,Iv x] w fun e w'=>e=.returned (.bool (s.place k))/\Qn w' b O (s.store k x)/\Qz O O w w':=by
 have c:=QcF w b O s k h;have j:=h;obtain⟨d,n,v,o,f,q,t,a,g,l⟩:=h
 have u:w.cell? ⟨b,0,none⟩=some (.slice (some ⟨d,0,none⟩) n n):=Qb o 0 _ Z
 cases hpl:s.place k with
 | true =>
   rw[hpl] at c
   obtain⟨p,r⟩:=PSt.place_true hpl
   obtain⟨i,rfl⟩:=Xc p
   have m:i<n:=by omega
   have y:w.cell? ⟨d,i,none⟩=some (Iv (s.ws i)):=f.cell m;have z:w.frozen? ⟨d,i,none⟩=false:=f.frozen i;have E:Hid (Qn (w.setCell ⟨d,i,none⟩ (Iv x)) b O (s.store i x)):=Qn.stored o f q t a g l i m x;have C:Hid (Calls prog 256 #[Pv b 0,Iv i] w fun e w'=>e=.returned (.bool true)/\w'=w):=c;clear c g p r hpl j;go_enter func221,ntmps221
   go_wp2_with (go_at_call 256;refine(C.out).mono ?_;rintro e w' ⟨rfl,rfl⟩)
   go_ret;exact⟨Z,E.out,(Qz.refl O _).setCell a _⟩
 | false =>
   rw[hpl] at c
   have E:Hid (s.store k x=s):=by show _=_;simp[PSt.store,hpl]
   have H:Hid (Qn w b O s):=j;have C:Hid (Calls prog 256 #[Pv b 0,Iv k] w fun e w'=>e=.returned (.bool false)/\w'=w):=c;clear c g hpl j;go_enter func221,ntmps221
   go_wp2_with (go_at_call 256;refine(C.out).mono ?_;rintro e w' ⟨rfl,rfl⟩)
   go_ret;exact⟨Z,by rw[E.out];exact H.out,Qz.refl O _⟩
theorem Xh:type_of% @And.intro:=@And.intro
section
variable {w w' w2:World}{b most:Nat}{m:List (MFunc 6)}{R R':RM}{g g1:WG}
theorem WAt.cellE (S:WAt w b most m R g):w.cell? ⟨b,0,none⟩=some (Pv g.be 0):=Qb S.box 0 _ Z
theorem WAt.cellP (S:WAt w b most m R g):w.cell? ⟨g.be,0,none⟩=some (Pv g.bp 0):=S.est.1.cell0
theorem WAt.loadC (S:WAt w b most m R g) (k:Int):Calls prog 255 #[Pv g.bp 0,Iv k] w fun e w'=>e=.returned (.tuple #[Iv (R.load k),.bool (R.e.p.place k)])/\w'=w:=by
 obtain⟨⟨L,a,h⟩,-⟩:=S.est
 exact QkO w g.bp _ R.e.p k h.pool
theorem WAt.storeC (S:WAt w b most m R g) (k n:Int):Calls prog 221 #[Pv g.bp 0,Iv k,Iv n] w fun e w'=>e=.returned (.bool (R.e.p.place k))/\WTo g w w' b most m (R.stored k n):=by
 obtain⟨⟨L,j,h⟩,a⟩:=S.est
 refine(Qje w g.bp _ R.e.p k n h.pool).mono ?_
 rintro e w' ⟨rfl,i,d⟩;obtain⟨f,c⟩:=h.stepPool i d
 exact⟨Z,S.toEst ⟨_,j,f⟩ c (a.store k n)⟩
theorem WAt.getC (S:WAt w b most m R g) (h n:Int):Calls prog 254 #[Pv g.be 0,Iv h,Iv n] w fun e w'=>e=.returned (.tuple #[Iv (R.e.getAt h n),Iv (R.e.getCode h n)])/\WTo g w w' b most m { R with e:=R.e.got h n }:=by
 refine(Qlr w g.be g.bp _ R.e h n S.est).mono ?_
 rintro e w' ⟨rfl,a,c⟩;exact⟨Z,S.toEst a c (S.est.2.got h n)⟩
theorem WAt.openC (S:WAt w b most m R g):Calls prog 170 #[Pv g.be 0] w fun e w'=>e=.returned (Iv R.e.openK)/\WTo g w w' b most m { R with e:=R.e.opened }:=by
 refine(Qk3 w g.be g.bp _ R.e S.est.1).mono ?_
 rintro e w' ⟨rfl,a,c⟩;exact⟨Z,S.toEst a c S.est.2.opened⟩
theorem WAt.shutC (S:WAt w b most m R g) (h:Int):Calls prog 171 #[Pv g.be 0,Iv h] w fun e w'=>e=.returned (.bool (R.e.has h))/\WTo g w w' b most m { R with e:=R.e.shut h }:=by
 refine(Qk5 w g.be g.bp _ R.e h S.est).mono ?_
 rintro e w' ⟨rfl,a,c⟩;exact⟨Z,S.toEst a c (S.est.2.shut h)⟩
theorem QbU (S:WAt w b most m R g) (k:Int):Calls prog 220 #[Pv b 0,Iv k] w fun e w'=>e=.returned (Iv (R.load k))/\w'=w:=by
 have C:=Qc (S.loadC k);have f:=S.cellE;have c:=S.cellP;clear S;generalize R.load k=x at *;generalize R.e.p.place k=y at *;go_enter func220,ntmps220
 go_wp2_with (go_at_call 255;refine C.out.mono ?_;rintro d w' ⟨rfl,a⟩;have a:=a.symm;subst a)
 go_ret;exact⟨Z,Z⟩
def Qlj (R:RM) (a k:Int) (e:Ending):Prop:=(0<=k/\k<R.load a/\e=.returned (Iv (wrap64 (wrap64 (a+1)+k))))\/(¬ (0<=k/\k<R.load a)/\e=.panicked (Qdy 2))
theorem Qco (S:WAt w b most m R g) (a k:Int):Calls prog 222 #[Pv b 0,Iv a,Iv k] w fun e w'=>Qlj R a k e/\w'=w:=by
 have C:=Qc (QbU S a);clear S;by_cases d:0<=k
 ·have j:decide (k>=0)=true:=by simpa using d
  by_cases f:k<R.load a
  ·have l:decide (k<R.load a)=true:=by simpa using f
   have E:Hid (Qlj R a k (.returned (Iv (wrap64 (wrap64 (a+1)+k))))):=.inl ⟨d,f,Z⟩;clear d f;go_enter func222,ntmps222
   go_wp2_with (first | (go_at_call 220;refine C.out.mono ?_;rintro i w' ⟨rfl,c⟩;have c:=c.symm;subst c) | (go_at_call 111;refine(QaC _ _).mono ?_;rintro i w' ⟨rfl,c⟩;have c:=c.symm;subst c))
   go_ret;exact⟨E.out,Z⟩
  ·have l:decide (k<R.load a)=false:=by simpa using f
   have E:Hid (Qlj R a k (.panicked (Qdy 2))):=.inr ⟨fun h=>f h.2,Z⟩;clear d f;go_enter func222,ntmps222
   go_wp2_with (go_at_call 220;refine C.out.mono ?_;rintro i w' ⟨rfl,c⟩;have c:=c.symm;subst c)
   refine(Z4 _ _).mono ?_
   rintro i w' ⟨rfl,c⟩;subst c;exact⟨Z,E.out,Z⟩
 ·have j:decide (k>=0)=false:=by simpa using d
  have E:Hid (Qlj R a k (.panicked (Qdy 2))):=.inr ⟨fun h=>d h.1,Z⟩;clear d;go_enter func222,ntmps222
  go_wp2_with fail
  refine(Z4 _ _).mono ?_
  rintro i w' ⟨rfl,c⟩;subst c;exact⟨Z,E.out,Z⟩
def RM.thinged (R:RM) (h size:Int) (l:List Int):RM:={ R with e:=(R.e.got h size).withP ((R.e.got h size).p.puts (R.e.getAt h size) l) }
def ThW (g:WG) (w:World) (b most:Nat) (m:List (MFunc 6)) (R:RM) (h size:Int) (l:List Int) (e:Ending) (w':World):Prop :=
 (R.e.getCode h size=0/\e=.returned (Iv (R.e.getAt h size))/\WTo g w w' b most m (R.thinged h size l))\/(R.e.getCode h size≠0/\e=.panicked (Qdy 6)/\WTo g w w' b most m R)
theorem Qez (x:Int):∀ (l:List Int) (s:PSt) (k:Int),s.puts k (l++[x])=(s.puts k l).store (k+l.length) x
 | [],s,k=>by simp[PSt.puts]
 | y::l,s,k=>by
   have:=Qez x l (s.store k y) (k+1)
   simp only[List.cons_append,PSt.puts,this,List.length_cons]
   congr 1
   omega
theorem WIn.at (h:WIn w O l (.slice a n c)) (b:l[i]?=some x):∃ k o,a=some ⟨k,o,none⟩/\O k/\w.cell? ⟨k,o+i,none⟩=some (Iv x):=by
 obtain⟨p,d,e,h⟩:=h
 cases e
 have f:=(Zi b).1;obtain⟨k,o,g,m,-,j⟩:=h i f
 refine⟨k,o,g,m,?_⟩
 rw[j]
 simp[List.getD,b]
theorem QdK (S:WAt w b most m R g) (h size:Int)(hn:l.length=n) (hb:n<=1000) (u:WIn w (fun x=>g.ow x=0) l (.slice a n c)) :
 Calls prog 219 #[Pv b 0,Iv h,Iv size,.slice a n c] w fun e w'=>ThW g w b most m R h size l e w':=by
 have C:=Qc (S.getC h size);have Q:=Qc (Qjn S.est.2 h size);have P:=S.cellE;have HS:=Qc S;have HL:=Qc u;have V:=Qc hn;clear S u hn;by_cases d:R.e.getCode h size=0
 ·have D:=Qc d;rw[d] at C
  clear d;obtain⟨A,O⟩:∃ A,R.e.getAt h size=A:=⟨_,Z⟩
  have EA:=Qc O;rw[O] at C Q
  clear O;go_enter func219,ntmps219
  go_upto_region 2 with (go_at_call 254;refine C.out.mono ?_;rintro H r ⟨rfl,F⟩)
  obtain⟨J,E,s,c2,f2⟩:=F
  have E:=Qc E;have s:=Qc s;have CF:=Qc (Xh c2 f2)
  have B:Hid (WIn r (fun x=>J.ow x=0) l (.slice a n c)):=by
   refine WIn.keep (fun k t u=>s.out.block k u (fun e=>e t)) (fun k t u=>?_) HL.out;refine Xq.1 fun T=>?_;rcases s.out.own k T with h | h
   ·exact h t
   ·omega
  clear c2 f2 P C HL;go_wp2_with (go_at_call 111;refine(QaC _ _).mono ?_;rintro H w' ⟨rfl,y⟩;have y:=y.symm;subst y)
  go_loopw [28] (fun i wr=>∃ q:Nat,q<=n/\i=Iv q/\WTo J r wr b most m { R with e:=(R.e.got h size).withP ((R.e.got h size).p.puts A (l.take q)) }) (fun i _=>n - (intOf i).toNat)
  case atStart=>exact⟨0,Xb _,Z,⟨J,by simpa[PSt.puts,Est.withP] using E.out,⟨Qz.refl _ _,Z,Z⟩,Z,Z⟩⟩
  case round =>
   obtain⟨q,hq,rfl,g3,f,v,G,L⟩:=hrel
   by_cases M:q<n
   ·have aa:(q:Int)<n:=by omega
    obtain⟨x,U⟩:∃ x,l[q]?=some x:=⟨_,Zg (by rw[V.out];exact M)⟩
    obtain⟨k,o,rfl,t,I⟩:=B.out.at U
    have I:wr.cell? ⟨k,o+q,none⟩=some (Iv x):=(XU (w:=r) (a:=⟨k,o+q,none⟩) (v.block k (Xi r _ I) (fun e=>e t))).trans I;have P:=f.cellE;have q1:=f.cellP;have X:=Qc (f.storeC (A+q) x);have EW:Hid (wrap64 (A+(q:Int))=A+q):=by show _=_;have:=Q.out;unfold wrap64;omega
    have R3:Hid (∀ K,WTo g3 wr K b most m (RM.stored { R with e:=(R.e.got h size).withP ((R.e.got h size).p.puts A (l.take q)) } (A+q) x)->WTo J r K b most m { R with e:=(R.e.got h size).withP ((R.e.got h size).p.puts A (l.take (q+1))) }):=by
     intro K j;have j:=WTo.then v G L j;have e1:l.take (q+1)=l.take q++[x]:=by rw[XV,U];rfl
     have e2:(l.take q).length=q:=by rw[List.length_take,V.out];omega
     rw[e1,Qez,e2]
     exact j
    clear f v G L U t E B s D Q;generalize (R.e.got h size).p.puts A (l.take q)=st at *;go_wp2_with (rw[EW.out];go_at_call 221;refine X.out.mono ?_;rintro H K ⟨rfl,j⟩)
    have R5:=Qc (R3.out _ j);clear j R3 X I P q1;go_wp2
    go_roundw
    case rel=>exact⟨q+1,by omega,by go_num,R5.out⟩
    case measure=>simp[intOf];omega
   ·have N:q=n:=by omega
    subst N
    have W:Hid (ThW g w b most m R h size l (.returned (Iv A)) wr):=by
     refine .inl ⟨D.out,by rw[EA.out],WTo.then s.out CF.out.1 CF.out.2 ?_⟩;unfold RM.thinged;rw[EA.out]
     have e:l.take q=l:=XO (by rw[V.out];exact Ze);rw[e] at f
     exact⟨g3,f,v,G,L⟩
    clear f v G L;go_wp2
    go_ret;exact W.out
 ·have d0:(R.e.getCode h size==0)=false:=by simpa using d
  have D:=Qc d;have EG:=Qc (Qlu d);clear d;obtain⟨cd,z⟩:∃ cd,R.e.getCode h size=cd:=⟨_,Z⟩
  rw[z] at C d0
  clear z;go_enter func219,ntmps219
  go_wp2_with (go_at_call 254;refine C.out.mono ?_;rintro H r ⟨rfl,F⟩)
  refine(Z4 _ _).mono ?_
  rintro H w' ⟨rfl,y⟩;subst y;rw[EG.out] at F
  exact⟨Z,.inr ⟨D.out,Z,F⟩⟩
end
section
variable {w w' w2:World}{b most:Nat}{m:List (MFunc 6)}{R R':RM}{g g1:WG}
theorem ThW.then {h size:Int}{e:Ending}(T:WSt g g1 w w2) (f:g1.t.c=g.t.c) (i:g1.fs=g.fs) (H:ThW g1 w2 b most m R h size l e w'):ThW g w b most m R h size l e w':=by
 rcases H with ⟨a,c,d⟩|⟨a,c,d⟩
 ·exact .inl ⟨a,c,WTo.then T f i d⟩
 ·exact .inr ⟨a,c,WTo.then T f i d⟩
theorem Qg6 (S:WAt w b most m R g) (h:Int)(k:l.length=n) (q:n<=1000) (o:WIn w (fun x=>g.ow x=0) l (.slice a n c)) :
 Calls prog 172 #[Pv b 0,Iv h,.slice a n c] w fun e w'=>ThW g w b most m R h (if l.length=0 then 1 else (l.length:Int)) l e w':=by
 have C:=Qc (QdK S h (if l.length=0 then 1 else (l.length:Int)) k q o)
 have E:(if l.length=0 then 1 else (l.length:Int))=if (1:Int)<=n then (n:Int) else 1:=by
  rw[k]
  split<;>split<;>omega
 rw[E] at C |-
 have p:∀ (x y:Int),max x y=if y<=x then x else y:=fun x y=>by omega
 clear S k q o E;go_enter func172,ntmps172
 by_cases j:(1:Int)<=n
 ·rw[Xs j] at C |-
  have i:max (n:Int) 1=n:=by omega
  clear j p;go_wp2_with fail
  try rw[i]
  refine C.out.mono ?_;rintro r s (⟨f,rfl,d⟩|⟨f,rfl,d⟩)
  ·have R:=Qc (Xh f d);clear f d C i;go_wp2
   go_ret;exact .inl ⟨R.out.1,Z,R.out.2⟩
  ·exact⟨Z,.inr ⟨f,Z,d⟩⟩
 ·rw[Xr j] at C |-
  have i:max (n:Int) 1=1:=by omega
  clear j p;go_wp2_with fail
  try rw[i]
  refine C.out.mono ?_;rintro r s (⟨f,rfl,d⟩|⟨f,rfl,d⟩)
  ·have R:=Qc (Xh f d);clear f d C i;go_wp2
   go_ret;exact .inl ⟨R.out.1,Z,R.out.2⟩
  ·exact⟨Z,.inr ⟨f,Z,d⟩⟩
def Qok (g:WG) (w:World) (b most:Nat) (m:List (MFunc 6)) (R:RM) (h n:Int) (e:Ending) (w':World):Prop :=
 (0<=n/\n<=15/\ThW g w b most m R h (n+1) [n] e w')\/(¬ (0<=n/\n<=15)/\e=.panicked (Qdy 3)/\WTo g w w' b most m R)
theorem QgY (S:WAt w b most m R g) (h n:Int) :
 Calls prog 173 #[Pv b 0,Iv h,Iv n] w fun e w'=>Qok g w b most m R h n e w':=by
 by_cases j:0<=n
 ·have y:decide (n>=0)=true:=by simpa using j
  by_cases o:n<=15
  ·have z:decide (n<=15)=true:=by simpa using o
   have q:=ZP w (.cells #[Iv n] 2);have v:=S.below q;have A:=Qc (S.stepB q);have u:g.ow w.heap.size=0:=Xq.1 fun e=>by have:=S.lt _ e;omega
   have C:=Qc (QdK v h (n+1) (l:=[n]) (a:=some ⟨w.heap.size,0,none⟩) (n:=1) (c:=1) Z (by omega) ⟨_,1,Z,fun i x=>by
    have:i=0:=by simpa using x
    subst this;exact⟨w.heap.size,0,Z,u,by simp,Qb (Qe w #[Iv n] 2) 0 _ Z⟩⟩)
   have t:wrap64 (n+1)=n+1:=by unfold wrap64;omega
   have f:=Qc (Xh j o);clear S v q u j o;go_enter func173,ntmps173
   go_wp2_with (go_at_call 111;refine(QaC _ _).mono ?_;rintro s w' ⟨rfl,k⟩;have k:=k.symm;subst k)
   try rw[t]
   refine C.out.mono ?_;rintro s B d;replace d:=d.then A.out Z Z;rcases d with ⟨p,rfl,d⟩|⟨p,rfl,d⟩
   ·have R:=Qc (Xh p d);clear p d C t;go_wp2
    go_ret;exact .inl ⟨f.out.1,f.out.2,.inl ⟨R.out.1,Z,R.out.2⟩⟩
   ·exact⟨Z,.inl ⟨f.out.1,f.out.2,.inr ⟨p,Z,d⟩⟩⟩
  ·have z:decide (n<=15)=false:=by simpa using o
   have r:=Qc S;have f:Hid (¬ n<=15):=o;clear S j o;go_enter func173,ntmps173
   go_wp2_with fail
   refine(Z4 _ _).mono ?_
   rintro s w' ⟨rfl,k⟩;subst k;exact⟨Z,.inr ⟨fun h=>by have:=f.out;omega,Z,WTo.same r.out Zr⟩⟩
 ·have y:decide (n>=0)=false:=by simpa using j
  have r:=Qc S;have f:Hid (¬ 0<=n):=j;clear S j;go_enter func173,ntmps173
  go_wp2_with fail
  refine(Z4 _ _).mono ?_
  rintro s w' ⟨rfl,k⟩;subst k;exact⟨Z,.inr ⟨fun h=>by have:=f.out;omega,Z,WTo.same r.out Zr⟩⟩
end
theorem Xu:type_of% @decide_eq_false:=@decide_eq_false
section
variable {w w' w2:World}{b most:Nat}{m:List (MFunc 6)}{R R':RM}{g g1:WG}
theorem WAt.setOut (S:WAt w b most m R g){n:Int}{v9:Value}{w9:World}(r:w9.ownsRow 0 2 1 v9 (R.out.length+1) (R.out.map (Value.int .i64)++[Iv n])) (c:w.grownBy w9 g.vo.ownBlock) (l:∀ k,v9.ownBlock=some k->g.vo.ownBlock=some k\/k=w.heap.size) :
 WTo g w (w9.setCell ⟨b,7,none⟩ v9) b most m { R with out:=R.out++[n] }:=by
 have j:=XC S.box;have f:∀ x,g.vo.ownBlock=some x->x≠b:=fun x a e=>by have:=S.oo x a;rw[e,S.ob] at this;omega
 have i:w9.heap[b]?=_:=(c.block b j (fun e=>f _ e.symm Z)).trans S.box
 have d:∀ k,v9.ownBlock=some k->k≠b:=fun k s e=>by
  rcases l k s with h | h
  ·exact f k h e
  ·omega
 have q:w.heap.size<=(w9.setCell ⟨b,7,none⟩ v9).heap.size:=by simpa using c.size
 have k:Wc g.ow (Qc1 g.ow 4 w (w9.setCell ⟨b,7,none⟩ v9)) (fun x=>x=1\/x=4) w (w9.setCell ⟨b,7,none⟩ v9):=Wc.marks S (by omega) c.os c.tape c.output q (fun x a p=>by
  rw[Xd _ _ _ _ (fun (e:x=b)=>p (.inl (e ▸ S.ob)))]
  exact c.block x a (fun e=>p (.inr (S.oo x e.symm))))
 have o:QbE (w9.setCell ⟨b,7,none⟩ v9) v9 (R.out++[n]):=by
  show World.ownsRow _ 0 _ 1 v9 (R.out++[n]).length ((R.out++[n]).map (Value.int .i64));rw[List.length_append,List.map_append]
  exact Q0 r (fun x a=>Xd _ _ _ _ (d x a))
 refine⟨{ g with vo:=v9,ow:=Qc1 g.ow 4 w (w9.setCell ⟨b,7,none⟩ v9) },⟨?_,S.kEst k (by omega),S.kMod k,S.kInp k,S.inpC,S.kCalls k (by omega),S.kBack k,o,S.kFrs k (fun x h e=>by omega),S.kob k,S.koc k,fun x a=>?_,k.lt,S.klow k⟩,⟨k.step,Z,Z⟩,Z,Z⟩
 ·have:=Qh i 7 v9
  simpa using this
 ·rcases l x a with h | h
  ·exact(QaZ (S.out.lt h)).trans (S.oo x h)
  ·exact QcT (by omega) (o.lt a)
theorem Qfv (S:WAt w b most m R g) (n:Int) (P:R.out.length<=2000) :
 Calls prog 175 #[Pv b 0,Iv n] w fun e w'=>(R.out.length<2000/\e=.returned (.tuple #[])/\WTo g w w' b most m { R with out:=R.out++[n] })\/(¬ R.out.length<2000/\e=.panicked (Qdy 8)/\WTo g w w' b most m R):=by
 obtain⟨K,N,t,q,s⟩:=iInfo64
 obtain⟨O,Q,i⟩:=QaR S.out
 have E:w.cell? ⟨b,7,none⟩=some g.vo:=Qb S.box 7 _ Z;rw[i] at E
 have F:=Qc S;have r:=Qc i;by_cases l:R.out.length<2000
 ·have H:decide ((R.out.length:Int)<2000)=true:=Xt (by omega);have z:=ZP w (.cells #[Iv n] 2);have j:=Qc (S.below z);have B:=Qc (S.stepB z);have o:=Qc j.out.out;have G:=Qc (Qmz w [Iv n] 2);have J:Hid ((w.alloc (.cells #[Iv n] 2)).heap.size=w.heap.size+1):=by show _=_;simp
  have f:=Qc (fun v9 w9=>j.out.setOut (v9:=v9) (w9:=w9) (n:=n));have a:=Qc j.out.box;have c:Hid (∀ x,g.vo.ownBlock=some x->x≠b):=fun x I e=>by have:=S.oo x I;rw[e,S.ob] at this;omega
  have y:Hid (R.out.length<2000):=l;clear S i l z F;unfold QbE at o;rw[r.out] at o f c
  go_enter func175,ntmps175
  go_upto_region 1 with (go_at_call 111;refine(QaC _ _).mono ?_;rintro L w' ⟨rfl,h⟩;have h:=h.symm;subst h)
  go_wp2_with (at_builtin;refine ZO _ Z _ _ 25 Z 2 K (Iv 0) 1 8 iUnder64 N t q s Z (by decide) _ _ _ Z o.out ⟨w.heap.size,0,none⟩ 1 1 [Iv n] Z Z G.out (by intro u D;simp at D;subst D;rfl) (by unfold maxLen;omega) (by omega) ?_)
  intro v9 w9 A p C;have R:=Qc (WTo.then B.out Z Z (f.out v9 w9 A p (fun k M=>(C k M).imp id (fun e=>by rw[J.out];exact e))));have d:=(p.block b (XC a.out) (fun e=>c.out b e.symm Z)).trans a.out;have W:w9.cell? ⟨b,7,none⟩=some g.vo:=Qb d 7 _ Z;have U:=Qj d 7;obtain⟨V,T,rfl⟩:=QaR A
  clear A p C f d a o E G B j c;go_wp2
  exact Xz (v:=.tuple #[]) (by simp[results,results175,go_sem]) Z (.inl ⟨y.out,Z,R.out⟩)
 ·have H:decide ((R.out.length:Int)<2000)=false:=Xu (by omega);have y:Hid (¬ R.out.length<2000):=l;clear S i l;go_enter func175,ntmps175
  go_wp2_with fail
  refine(Z4 _ _).mono ?_
  rintro L w' ⟨rfl,h⟩;subst h;exact⟨Z,.inr ⟨y.out,Z,WTo.same F.out Zr⟩⟩
def Qnv (g:WG) (w:World) (b most:Nat) (m:List (MFunc 6)) (R:RM) (e:Ending) (w':World):Prop:=match R.inp with
 | []=>e=.panicked (Qdy 4)/\WTo g w w' b most m R
 | n::l=>e=.returned (.int .i64 n)/\WTo g w w' b most m { R with inp:=l }
theorem QfT (S:WAt w b most m R g) (p:R.inp.length<=1000000) :
 Calls prog 174 #[Pv b 0] w fun e w'=>Qnv g w b most m R e w':=by
 have o:w.cell? ⟨b,2,none⟩=some (.slice g.pi R.inp.length g.ci):=Qb S.box 2 _ Z;have v:=Qc S;unfold Qnv
 cases hi:R.inp with
 | nil =>
   rw[hi] at o
   clear S;go_enter func174,ntmps174
   go_wp2_with fail
   refine(Z4 _ _).mono ?_
   rintro L w' ⟨rfl,c⟩;subst c;exact⟨Z,Z,WTo.same v.out Zr⟩
 | cons n l =>
   have d:=S.inp;have f:=S.inpC;rw[hi] at o d f
   obtain⟨F,r,y,-,u,I⟩:=ZI d (i:=0) (by simp)
   simp only[List.getD_cons_zero,Nat.add_zero] at I
   rw[y] at o d
   simp only[List.length_cons] at o f
   have O:=Qj S.box 2
   have z:intsL.In w (fun x=>g.ow x=0/\g.lk<=x/\x<b) l [.slice (some ⟨F,r+1,none⟩) l.length (g.ci - 1)]:=by
    refine⟨_,_,Z,fun i x K=>?_⟩
    obtain⟨N,P,B,a,t,q,G,A⟩:=Yf d (i:=i+1) (x:=x) (by simpa using K)
    injection a with a
    injection a with a e10
    subst a;subst e10;refine⟨_,_,B,Z,t,q,fun j J=>?_,A⟩
    have:=G j J
    rw[show r+1+i*Lay.int.size+j=r+(i+1)*Lay.int.size+j by simp[Lay.int];omega]
    exact this
   have s:∀ (pi:Option Addr) (ci:Nat),intsL.In w (fun x=>g.ow x=0/\g.lk<=x/\x<b) l [.slice pi l.length ci]->l.length<=ci->WTo g w (w.setCell ⟨b,2,none⟩ (.slice pi l.length ci)) b most m { R with inp:=l }:=fun pi ci t q=>by
    refine S.reBox (R':={ R with inp:=l }) Z Z Z (by simp) (fun k Q h=>Xd _ _ _ _ h) ⟨Z,Z,Z,Z⟩ (pi:=pi) (ci:=ci) (vb:=g.vb) ⟨t,q⟩ S.back ?_;rw[Qh S.box 2 _]
    simp
   have M:=Qc (s _ _ z (by omega))
   have H:Hid (l.length=0->∀ pi ci,WTo g w (w.setCell ⟨b,2,none⟩ (.slice pi l.length ci)) b most m { R with inp:=l }):=fun e pi ci=>s pi ci (by
    have:l=[]:=Xf.1 e
    subst this;exact Yg _ _ _ _ _) (by omega)
   have D:((g.ci:Int) - 1)=((g.ci - 1:Nat):Int):=by omega
   have C:l.length+1<=1000000:=by rw[hi] at p;simpa using p
   clear S d z v y hi p u s;generalize g.ci=ci at *;go_enter func174,ntmps174
   have E:decide (((l.length+1:Nat):Int)>0)=true:=Xt (by omega);go_upto_region 2 with (go_at_call 111;refine(QaC _ _).mono ?_;rintro L w' ⟨rfl,c⟩;have c:=c.symm;subst c)
   clear E;go_wp2
   ·go_ret;exact⟨Z,H.out (by omega) _ _⟩
   ·go_ret;exact⟨Z,M.out⟩
end
theorem Xg:type_of% @Nat.le_of_ble_eq_true:=@Nat.le_of_ble_eq_true
def Qho (w6:World) (fr:RFr) (v:Value) (w:World):Prop:=∃ k x n,v=Pv k 0/\w6.heap.size<=k/\w6.heap.size<=x/\WFr w k fr (.slice (some ⟨x,0,none⟩) n n)
def QmL (w6:World) (fr:RFr) (v:Value) (w:World):Prop:=∃ x n,v=.agg (frA fr (.slice (some ⟨x,0,none⟩) n n))/\w6.heap.size<=x/\QbE w (.slice (some ⟨x,0,none⟩) n n) fr.v
theorem Qho.below {w w':World}{fr:RFr}{v:Value}(h:Qho w6 fr v w) (b:Below w.heap.size w w'):Qho w6 fr v w':=by
 obtain⟨k,x,n,a,e,d,c⟩:=h
 exact⟨k,x,n,a,e,d,c.below b⟩
theorem QmL.below {w w':World}{fr:RFr}{v:Value}(h:QmL w6 fr v w) (b:Below w.heap.size w w'):QmL w6 fr v w':=by
 obtain⟨x,n,c,e,a⟩:=h
 exact⟨x,n,c,e,Q0 a (fun y d=>b.block y (a.lt d))⟩
def QnO (w6:World) (fr:RFr) (c X fi bi na ca:Nat) (pa:Option Addr) (t:Tmp) (v:Value) (w:World):Prop :=
 match ([(14,Qho w6 fr),(15,Qho w6 fr),(16,QmL w6 fr)]:List (Tmp × (Value->World->Prop))).lookup t with
 | some p=>p v w
 | none=>v=(([(0,.pointer (some ⟨c,0,none⟩)),(3,.pointer (some ⟨X,0,none⟩)),(4,.pointer (some ⟨c,0,none⟩)),(5,.pointer (some ⟨c,0,none⟩)),(6,.pointer (some ⟨c,0,none⟩)),(7,.pointer (some ⟨c,0,none⟩)),(8,.pointer (some ⟨c,0,none⟩)),(9,.int .i64 (fi:Int)),(10,.pointer (some ⟨X,0,none⟩)),(11,.int .i64 (bi:Int)),(12,.pointer (some ⟨X,2,none⟩)),(13,.slice pa na ca),(17,.pointer (some ⟨c,0,none⟩))]:List (Tmp × Value)).lookup t).getD undef
theorem wj1 {fr:RFr}{c r:Nat}(L:w6.cell? ⟨c,0,none⟩=some (Iv (fi:Int))) (F:w6.cell? ⟨X,0,none⟩=some (Iv (bi:Int))) (I:w6.cell? ⟨X,2,none⟩=some (.slice pa r ca)) (G:Hid (∀ wx,Below w6.heap.size w6 wx->Calls prog 216 #[Pv c 0,Iv (fi:Int),Iv (bi:Int),.slice pa r ca] wx fun e w'=>Qmx wx fr e w')){Q:Exit->Act->World->Prop}
 (a:Act) (m:Nat) (H:a.tmps.size=m) (u:18<=m) (J:a.tmps.getD 0 undef=Pv c 0) (i:a.tmps.getD 3 undef=Pv X 0)
 (hend:∀ ops vs w',(QmL w6 fr) (vs 16) w'->vs 17=Pv c 0->Below w6.heap.size w6 w'->wpList prog ops Q (Qam 14 ((Tryz.f168.body.bind (Qi 1)).getD .skip)) (QM a vs [4,5,6,7,8,9,10,11,12,13,14,15,16,17]) w') :
 Code.wp prog ((Tryz.f168.body.bind (Qi 1)).getD .skip) Q a w6:=by
 conv=>arg 2;whnf
 refine Qg 14 (QnO w6 fr c X fi bi r ca pa) (fun w=>Below w6.heap.size w6 w) (fun w w'=>Below w.heap.size w w') (outs:=[0,3]) (gs:=[]) (bs:=[true,true,true,true,true,true,true,true,true,true,true,true,true,true]) (by kernel_rfl) (n:=18) H u (by kernel_rfl) (by kernel_rfl) ?hR ?hG (QI Zr 1) ⟨J,i,Y⟩ ?hA ?hend
 case hR =>
  intro t v w w' y h;unfold QnO at h |-;split at h
  ·rename_i p j
   simp only[List.lookup_cons,List.lookup_nil] at j
   split at j
   ·cases j;exact h.below y
   ·split at j
    ·cases j;exact h.below y
    ·split at j
     ·cases j;exact h.below y
     ·cases j
  ·exact h
 case hG=>exact Y
 case hend=>exact fun ops vs w' d f=>hend ops vs w' (f 16 (by kernel_rfl)) (f 17 (by kernel_rfl)) d
 case hA =>
  refine⟨fun a w d f K g=>?_,?_⟩
  ·obtain⟨b,-⟩:=f
   have b:a.tmps.getD 0 undef=Pv c 0:=b;go_simp;exact g _ _ Zr d Z
  refine⟨fun a w d f K g=>?_,?_⟩
  ·obtain⟨b,-⟩:=f
   have b:a.tmps.getD 0 undef=Pv c 0:=b;go_simp;exact g _ _ Zr d Z
  refine⟨fun a w d f K g=>?_,?_⟩
  ·obtain⟨b,-⟩:=f
   have b:a.tmps.getD 0 undef=Pv c 0:=b;go_simp;exact g _ _ Zr d Z
  refine⟨fun a w d f K g=>?_,?_⟩
  ·obtain⟨b,-⟩:=f
   have b:a.tmps.getD 6 undef=Pv c 0:=b;go_simp;exact g _ _ Zr d Z
  refine⟨fun a w d f K g=>?_,?_⟩
  ·obtain⟨b,-⟩:=f
   have b:a.tmps.getD 7 undef=Pv c 0:=b;go_simp;exact g _ _ Zr d Z
  refine⟨fun a w d f K g=>?_,?_⟩
  ·obtain⟨b,-⟩:=f
   have b:a.tmps.getD 8 undef=Pv c 0:=b;have C:=Qk L d;go_simp;exact g _ _ Zr d Z
  refine⟨fun a w d f K g=>?_,?_⟩
  ·obtain⟨b,-⟩:=f
   have b:a.tmps.getD 3 undef=Pv X 0:=b;go_simp;exact g _ _ Zr d Z
  refine⟨fun a w d f K g=>?_,?_⟩
  ·obtain⟨b,-⟩:=f
   have b:a.tmps.getD 10 undef=Pv X 0:=b;have C:=Qk F d;go_simp;exact g _ _ Zr d Z
  refine⟨fun a w d f K g=>?_,?_⟩
  ·obtain⟨b,-⟩:=f
   have b:a.tmps.getD 3 undef=Pv X 0:=b;go_simp;exact g _ _ Zr d Z
  refine⟨fun a w d f K g=>?_,?_⟩
  ·obtain⟨b,-⟩:=f
   have b:a.tmps.getD 12 undef=Pv X 2:=b;have C:=Qk I d;go_simp;exact g _ _ Zr d Z
  refine⟨fun a w d f K g=>?_,?_⟩
  ·obtain⟨b,E,A,B,-⟩:=f
   have b:a.tmps.getD 5 undef=Pv c 0:=b;have E:a.tmps.getD 9 undef=Iv (fi:Int):=E;have A:a.tmps.getD 11 undef=Iv (bi:Int):=A;have B:a.tmps.getD 13 undef=.slice pa r ca:=B;go_simp;refine Xm (G.out w d) ?_;rintro R O ⟨q,o,k,rfl,s,l,i,D⟩;go_simp;exact g _ _ D (d.trans (D.mono d.size)) ⟨q,o,k,Z,Zt d.size s,Zt d.size l,i⟩
  refine⟨fun a w d f K g=>?_,?_⟩
  ·obtain⟨b,-⟩:=f
   have b:(Qho w6 fr) (a.tmps.getD 14 undef) w:=b;generalize z:a.tmps.getD 14 undef=x at b;obtain⟨q,o,k,rfl,s,l,i⟩:=b
   go_simp;exact g _ _ Zr d ⟨q,o,k,Z,s,l,i⟩
  refine⟨fun a w d f K g=>?_,?_⟩
  ·obtain⟨b,-⟩:=f
   have b:(Qho w6 fr) (a.tmps.getD 15 undef) w:=b;generalize z:a.tmps.getD 15 undef=x at b;obtain⟨q,o,k,rfl,s,l,i⟩:=b
   have S:=Qb i.1 0 _ Z;have P:=Qb i.1 1 _ Z;have M:=Qb i.1 2 _ Z;have N:=Qb i.1 3 _ Z;go_simp;exact g _ _ Zr d ⟨o,k,Z,l,i.2⟩
  refine⟨fun a w d f K g=>?_,?_⟩
  ·obtain⟨b,-⟩:=f
   have b:a.tmps.getD 4 undef=Pv c 0:=b;go_simp;exact g _ _ Zr d Z
  trivial
section
variable {w w' w2:World}{b most:Nat}{m:List (MFunc 6)}{R R':RM}{g g1:WG}{c:Nat}{fr:RFr}{v:Value}
theorem Qlo {w:World}{c:Nat}{a0 i f g:Value}(h:w.heap[c]?=some (.cells #[a0,i,f,g] 132 (0,0))) (d a e b:Value) :
 ((((w.setCell ⟨c,0,none⟩ d).setCell ⟨c,1,none⟩ a).setCell ⟨c,2,none⟩ e).setCell ⟨c,3,none⟩ b).heap[c]?=some (.cells #[d,a,e,b] 132 (0,0)):=by
 have:=Qh (Qh (Qh (Qh h 0 d) 1 a) 2 e) 3 b
 simpa using this
theorem WAt.newTop (S:WAt w b most m R g) (B:Below w.heap.size w w'){fr:RFr}{x:Nat}(p:w.heap.size<=x) (h:QbE w' (.slice (some ⟨x,0,none⟩) n n) fr.v) :
 WTo g w ((((w'.setCell ⟨g.t.c,0,none⟩ (Iv fr.f)).setCell ⟨g.t.c,1,none⟩ (Iv fr.b)).setCell ⟨g.t.c,2,none⟩ (Iv fr.i)).setCell ⟨g.t.c,3,none⟩ (.slice (some ⟨x,0,none⟩) n n)) b most m { R with top:=fr }:=by
 have F:=S.top;have d:=XC F.1;have j:w'.heap[g.t.c]?=_:=(B.block _ d).trans F.1
 have e:∀ k,k≠g.t.c->((((w'.setCell ⟨g.t.c,0,none⟩ (Iv fr.f)).setCell ⟨g.t.c,1,none⟩ (Iv fr.b)).setCell ⟨g.t.c,2,none⟩ (Iv fr.i)).setCell ⟨g.t.c,3,none⟩ (.slice (some ⟨x,0,none⟩) n n)).heap[k]?=w'.heap[k]?:=fun k a=>by
  rw[Xd _ _ _ _ a,Xd _ _ _ _ a,Xd _ _ _ _ a,Xd _ _ _ _ a]
 refine S.setTop B.os B.tape B.output (by simpa using B.size) (fun k a l _=>(e k l).trans (B.block k a)) ⟨Qlo j _ _ _ _,Q0 h (fun y o=>?_)⟩ (fun k a=>.inr ?_)
 ·have:y=x:=by simpa[Value.ownBlock] using o.symm
  exact e y (by omega)
 ·have:k=x:=by simpa[Value.ownBlock] using a.symm
  omega
theorem Qih (S:WAt w b most m R g) (O:R.top.v.length<=1000000){t:MTo}(C:t.block=(bi:Int)){P:Nat->Prop}{j:Option Addr}{k p:Nat}(E:intsL.In w P t.args [.slice pa t.args.length ca]) (H:t.args.length<=1000) (o:QaA R.top.v t.args=some xs) :
 Calls prog 168 #[Pv g.t.c 0,.agg #[Iv t.block,.slice j k p,.slice pa t.args.length ca]] w fun e w'=>e=.returned (.tuple #[])/\WTo g w w' b most m { R with top:=⟨R.top.f,t.block.toNat,0,xs⟩ }:=by
 rw[C,XT]
 have r:=Qc (ZP w (.cells #[Iv (bi:Int),.slice j k p,.slice pa t.args.length ca] 82));have l:=Qc (Qe w #[Iv (bi:Int),.slice j k p,.slice pa t.args.length ca] 82);have i:=Qc (S.below r.out);have s:=Qc (S.stepB r.out);have z:=Qc (Ya E r.out);have G:=Qc o;have Q:=Qc H;clear S E o H;go_enter func168,ntmps168
 go_upto_region 1 with fail
 generalize w.alloc (.cells #[Iv (bi:Int),.slice j k p,.slice pa t.args.length ca] 82)=y at r l i s z |-;generalize w.heap.size=X at l |-;have F:Hid (∀ q,Below y.heap.size y q->Calls prog 216 #[Pv g.t.c 0,Iv (R.top.f:Int),Iv (bi:Int),.slice pa t.args.length ca] q fun e w'=>Qmx q ⟨R.top.f,bi,0,xs⟩ e w'):=fun q J=>QdB (i.out.top.below J) O Z (by have:=Q.out;omega) (Ya z.out J) G.out R.top.f bi;have M:y.cell? ⟨g.t.c,0,none⟩=some (Iv R.top.f):=Qb i.out.top.1 0 _ Z;have D:=Qb l.out 0 _ Z;have I:=Qb l.out 2 _ Z;refine wj1 M D I F _ _ Z (Xg (by kernel_rfl)) Z Z ?_;rintro A N L ⟨x,n,d,o,K⟩ h u;show wpList _ A _ [_] (QM _ N [4,5,6,7,8,9,10,11,12,13,14,15,16,17]) L;simp only[QM,Act.put,List.setIfInBounds_toArray,List.set_cons_zero,List.set_cons_succ,d,h]
 have B:=Qc (WTo.then s.out Z Z (i.out.newTop u o (fr:=⟨R.top.f,bi,0,xs⟩) K));have a:L.heap[g.t.c]?=_:=(u.block _ (XC i.out.top.1)).trans i.out.top.1;have U:=Qb a 0 _ Z;have c1:=Qb a 1 _ Z;have c2:=Qb a 2 _ Z;have c3:=Qb a 3 _ Z;have T:=Qj a 0;have z1:=Qj a 1;have W:=Qj a 2;have V:=Qj a 3;clear d h u M D I F K a i s G z;go_wp2
 exact Xz (v:=.tuple #[]) (by simp[results,results168,go_sem]) Z ⟨Z,B.out⟩
end
section
variable {w w' w5 w9:World}{b most:Nat}{m:List (MFunc 6)}{R R':RM}{g g1:WG}
theorem WAt.next (S:WAt w b most m R g):WTo g w (w.setCell ⟨g.t.c,2,none⟩ (Iv ((R.top.i:Int)+1))) b most m { R with top:={ R.top with i:=R.top.i+1 } }:=by
 obtain⟨⟨F,h,f⟩,-⟩:=S.frs
 refine S.setTop Z Z Z (by simp) (fun x a d _=>Xd _ _ _ _ d) (v:=g.t.v) ⟨?_,?_⟩ (fun x a=>.inl a)
 ·rw[Qh F.1 2 (Iv ((R.top.i:Int)+1))]
  simp
 ·exact Q0 F.2 (fun x a=>Xd _ _ _ _ (fun (e:x=g.t.c)=>by have:=f x a;rw[e,h] at this;omega))
theorem WAt.pushFr (S:WAt w b most m R g) (n:Below w.heap.size w w5){c d j:Nat}{fr:RFr}(F:WFr w5 c fr (.slice (some ⟨d,0,none⟩) j j)) (D:w.heap.size<=c) (H:w.heap.size<=d)
 {v9:Value} (C:w9.ownsRow 0 130 1 v9 (R.rest.length+1+1) (Qay (g.t::g.fs)++[Pv c 0])) (l:w5.grownBy w9 g.vc.ownBlock) (A:∀ k,v9.ownBlock=some k->g.vc.ownBlock=some k\/k=w5.heap.size) :
 ∃ g',WAt (w9.setCell ⟨b,4,none⟩ v9) b most m { R with top:=fr,rest:=R.top::R.rest } g'/\WSt g g' w (w9.setCell ⟨b,4,none⟩ v9)/\g'.fs=g.t::g.fs:=by
 have u:=XC S.box;have L:=n.size;have I:=l.size;have z:=XC F.1;have r:=F.2.lt (x:=d) Z
 have v:d≠c:=fun e=>by
  obtain⟨q,J⟩:=ZQ F.2 (x:=d) Z
  exact Zb J F.1 (by decide) e
 have M:w.heap.size<=(w9.setCell ⟨b,4,none⟩ v9).heap.size:=by simp;omega
 have o:∀ x,g.vc.ownBlock=some x->x≠b:=fun x a e=>by have:=S.oc x a;rw[e,S.ob] at this;omega
 have y:w9.heap[b]?=_:=(l.block b (by omega) (fun e=>o _ e.symm Z)).trans ((n.block b u).trans S.box)
 have p:∀ k,v9.ownBlock=some k->k≠b:=fun k K e=>by
  rcases A k K with h | h
  ·exact o k h e
  ·omega
 have i:∀ k,w.heap.size<=k->k<w5.heap.size->(w9.setCell ⟨b,4,none⟩ v9).heap[k]?=w5.heap[k]?:=fun k N E=>by
  rw[Xd _ _ _ _ (fun (e:k=b)=>by omega)]
  exact l.block k E (fun e=>by have:=XC (ZQ S.calls e.symm).choose_spec;omega)
 let ow':Nat->Nat:=fun x=>if x<w.heap.size then g.ow x else if x<w9.heap.size then (if x=c then 5+2*(R.rest.length+1) else if x=d then 6+2*(R.rest.length+1) else 3) else 0
 have f:∀ x,x<w.heap.size->ow' x=g.ow x:=fun x a=>Xs a
 have k:Wc g.ow ow' (fun x=>x=1\/x=3) w (w9.setCell ⟨b,4,none⟩ v9):=⟨l.os.trans n.os,l.tape.trans n.tape,l.output.trans n.output,M,f,fun x a B=>by
  rw[Xd _ _ _ _ (fun (e:x=b)=>B (.inl (e ▸ S.ob)))]
  exact(l.block x (by omega) (fun e=>B (.inr (S.oc x e.symm)))).trans (n.block x a),by omega,fun x a=>by
  have:x<w9.heap.size:=by
   refine Xq.1 fun h=>a ?_;show (if x<w.heap.size then _ else if x<w9.heap.size then _ else 0)=0;rw[Xr (by omega),Xr h]
  simpa using this⟩
 have G:(w9.setCell ⟨b,4,none⟩ v9).ownsRow 0 130 1 v9 (R.rest.length+1+1) (Qay (⟨c,.slice (some ⟨d,0,none⟩) j j⟩::g.t::g.fs)):=by
  have e:Qay (⟨c,.slice (some ⟨d,0,none⟩) j j⟩::g.t::g.fs)=Qay (g.t::g.fs)++[Pv c 0]:=by simp[Qay]
  rw[e]
  exact Q0 C (fun x a=>Xd _ _ _ _ (p x a))
 refine⟨{ g with vc:=v9,t:=⟨c,.slice (some ⟨d,0,none⟩) j j⟩,fs:=g.t::g.fs,ow:=ow' },⟨?_,S.kEst k (by omega),S.kMod k,S.kInp k,S.inpC,G,S.kBack k,S.kOut k (by omega),⟨⟨F.keep (i c D z) (fun x a=>?_),?_,fun x a=>?_⟩,S.kFrs k (fun x h e=>by omega)⟩,S.kob k,fun x a=>?_,S.koo k,k.lt,S.klow k⟩,⟨k.step,Z,Z⟩,Z⟩
 ·have:=Qh y 4 v9
  simpa using this
 ·have:x=d:=by simpa[Value.ownBlock] using a.symm
  subst this;exact i x H r
 ·show (if c<w.heap.size then _ else if c<w9.heap.size then _ else 0)=_;rw[Xr (by omega),Xs (by omega),Xs Z]
  simp
 ·have:x=d:=by simpa[Value.ownBlock] using a.symm
  subst this;show (if x<w.heap.size then _ else if x<w9.heap.size then _ else 0)=_;rw[Xr (by omega),Xs (by omega),Xr v,Xs Z]
  simp
 ·rcases A x a with h | h
  ·exact(f x (XC (ZQ S.calls h).choose_spec)).trans (S.oc x h)
  ·have s:=XC (ZQ C a).choose_spec;show (if x<w.heap.size then _ else if x<w9.heap.size then _ else 0)=_;rw[Xr (by omega),Xs s,Xr (by omega),Xr (by omega)]
theorem WAt.next2 (S:WAt w b most m R g){y:WB}{u:List WB}{fr:RFr}{rest:List RFr}(q:g.fs=y::u) (o:R.rest=fr::rest) :
 WGo g w (w.setCell ⟨y.c,2,none⟩ (Iv ((fr.i:Int)+1))) b most m { R with rest:={ fr with i:=fr.i+1 }::rest }:=by
 have j:=S.frs;rw[q,o] at j
 obtain⟨⟨t,f,h⟩,⟨p,l,n⟩,r⟩:=j
 have d:∀ x,x≠y.c->(w.setCell ⟨y.c,2,none⟩ (Iv ((fr.i:Int)+1))).heap[x]?=w.heap[x]?:=fun x a=>Xd _ _ _ _ a;have k:Wc g.ow g.ow (fun x=>x=5+2*rest.length) w (w.setCell ⟨y.c,2,none⟩ (Iv ((fr.i:Int)+1))):=⟨Z,Z,Z,by simp,fun _ _=>rfl,fun x a s=>d x (fun e=>s (by rw[e];exact l)),by omega,fun x a=>by simpa using S.lt x a⟩;simp only[List.length_cons] at f h
 refine⟨g,⟨(S.kBox k (by omega)).trans S.box,S.kEst k (by omega),S.kMod k,S.kInp k,S.inpC,?_,S.kBack k,S.kOut k (by omega),?_,S.ob,S.oc,S.oo,k.lt,S.klow k⟩,⟨k.step,Z,Z⟩⟩
 ·have:=S.kCalls k (by omega)
  rw[o] at this
  exact this
 ·rw[q]
  refine⟨⟨t.keep (d _ (fun e=>?_)) (fun x a=>d x (fun e=>?_)),f,h⟩,⟨⟨?_,?_⟩,l,n⟩,r.keep (fun _ _=>rfl) (fun x a z v=>k.keep x a (by omega))⟩
  ·rw[e] at f;omega
  ·have:=h x a;rw[e] at this;omega
  ·rw[Qh p.1 2 (Iv ((fr.i:Int)+1))]
   simp
  ·exact Q0 p.2 (fun x a=>d x (fun e=>by have:=n x a;rw[e] at this;omega))
theorem WAt.pop (S:WAt w b most m R g){y:WB}{i:List WB}{d:RFr}{rest:List RFr}(l:g.fs=y::i) (v:R.rest=d::rest)(u:g.vc=.slice a (R.rest.length+1) cap) :
 ∃ g',WAt (w.setCell ⟨b,4,none⟩ (.slice a R.rest.length cap)) b most m { R with top:=d,rest:=rest } g'/\WSt g g' w (w.setCell ⟨b,4,none⟩ (.slice a R.rest.length cap))/\g'.t=y:=by
 have r:=S.frs;rw[l,v] at r
 have n:∀ x,g.vc.ownBlock=some x->x≠b:=fun x f e=>by have:=S.oc x f;rw[e,S.ob] at this;omega
 have k:Wc g.ow g.ow (fun x=>x=1) w (w.setCell ⟨b,4,none⟩ (.slice a R.rest.length cap)):=⟨Z,Z,Z,by simp,fun _ _=>rfl,fun x f H=>Xd _ _ _ _ (fun (e:x=b)=>H (e ▸ S.ob)),by omega,fun x f=>by simpa using S.lt x f⟩;have B:(Value.slice a R.rest.length cap).ownBlock=g.vc.ownBlock:=by rw[u];cases a<;>rfl
 refine⟨{ g with vc:=.slice a R.rest.length cap,t:=y,fs:=i },⟨?_,S.kEst k (by omega),S.kMod k,S.kInp k,S.inpC,?_,S.kBack k,S.kOut k (by omega),r.2.keep (fun _ _=>rfl) (fun x f K I=>k.keep x f (by omega)),S.ob,fun x f=>S.oc x (by rw[<-B];exact f),S.oo,k.lt,S.klow k⟩,⟨k.step,Z,Z⟩,Z⟩
 ·rw[Qh S.box 4 (.slice a R.rest.length cap)]
  simp
 ·obtain⟨J,G⟩:=S.calls
  have A:Qay (g.t::g.fs)=Qay (y::i)++[Pv g.t.c 0]:=by rw[l];simp[Qay]
  have q:(Qay (y::i)).length=R.rest.length:=by have:=S.rows;rw[l] at this;simpa[Qay] using this
  show World.ownsRow _ 0 _ 1 (.slice a R.rest.length cap) (rest.length+1) (Qay (y::i));have o:rest.length+1=R.rest.length:=by rw[v];simp
  rw[o]
  refine⟨by rw[q];simp,?_⟩
  rcases G with ⟨j,z⟩|⟨s,M,h,j,z,C,L,E,D,F⟩
  ·omega
  ·have p:=n s (by rw[j];rfl);rw[u] at j
   cases j
   refine .inr ⟨s,cap,h,Z,Xb _,(Xd _ _ _ _ p).trans C,by omega,E,D,?_⟩
   have:h.toList.take (R.rest.length*1)=(h.toList.take ((R.rest.length+1)*1)).take (R.rest.length*1):=by rw[List.take_take,Nat.min_eq_left (by omega)]
   rw[this,F,A,List.take_append_of_le_length (by omega),XO (by omega)]
end
theorem Qf0 {l l2:List Oper}{outs:List Tmp}{gs:List (Nat × Option Bool)}{a:Act}{w:World}{Q:Exit->Act->World->Prop}
 (E:(Nat->Bool)->Tmp->Value->World->Prop) (W:(Nat->Bool)->World->Prop) (PX:List PanicEntry->World->Prop) (I:∀ ch a' w',a'.defers=a.defers->PX ch w'->Q (.panic ch) a' w')
 (v:P.follows .mixedOrders=true)  (F:a.tmps.size=m) (c:n<=m) (D:Qa1 l n outs gs bs=true)
 (r:(Qcr 0 (l++l2)&&(Qbu l.length l&&QaL (l++l2) l.length l2))=true)
 (A:∀ S,ZJ (E S) l.toArray gs) (g:W (fun _=>false) w.drew) (C:Qai (E (fun _=>false)) a w.drew outs)
 (u:AllOkY E W PX P l 0 l bs)
 (b:∀ (vs:Tmp->Value) (S:Nat->Bool) w',(∀ j,j<l.length->S j=true)->W S w'->(∀ t,(Qs l).contains t=true->E S t (vs t) w')->wpList P (l++l2).toArray Q l2 (QM a vs (Qs l)) w') :
 (Code.region id (l++l2).toArray true).wp P Q a w:=by
 simp only[Bool.and_eq_true] at r
 obtain⟨i,p,f⟩:=r
 refine wp_region_any v ?_
 have d:wpAny P .any l.toArray (Exit.then (fun a w=>wpList P (l++l2).toArray Q l2 a w) Q) l.length (Array.replicate l.length false) a w.drew:=by
  have k:(fun j=>(Array.replicate l.length false).getD j false)=fun _=>false:=by
   funext j
   rw[Za,Array.getElem?_replicate]
   split<;>rfl
  refine Qbn (PX:=PX) (Q:=Exit.then (fun a w=>wpList P (l++l2).toArray Q l2 a w) Q) (a0:=a) (outs:=outs) (gs:=gs) (bs:=bs) (fun ch a' w' H y=>I ch a' w' H y) (Qau (F ▸ c) D) A u (fun vs S w' h g B=>b vs S w' h g B) _ _ _ _ (by simp) ?_ ⟨by rw[k];exact g,(by rw[k];intro j o _ h;cases h),Z,Z,fun _ _=>rfl,(fun t z _=>by rw[k];exact Qa7 outs C t z),?_⟩
  ·simp only[Array.toList_replicate]
   exact Zt (List.length_filter_le _ _) (by simp)
  ·intro j o t K J x;simp[Array.getD] at x
 have:=Qbv (Q:=Q) i p f l.length (Array.replicate l.length false) a w.drew (by simp) (fun q o L G=>by simp[Array.getD] at G) d
 have e:(Array.replicate l.length false++Array.replicate l2.length false:Array Bool)=Array.replicate (l++l2).toArray.size false:=by
  simp
 have s:l.length+l2.length=(l++l2).toArray.size:=by simp
 rw[e,s] at this
 exact this
theorem Zs {lo:List Oper}{outs:List Tmp}{gs:List (Nat × Option Bool)}{a:Act}{w:World}{Q:Exit->Act->World->Prop}
 (k:Nat) (E:(Nat->Bool)->Tmp->Value->World->Prop) (W:(Nat->Bool)->World->Prop) (PX:List PanicEntry->World->Prop) (r:∀ ch a' w',a'.defers=a.defers->PX ch w'->Q (.panic ch) a' w')
 (p:P.follows .mixedOrders=true)  (i:a.tmps.size=m) (c:n<=m) (g:Qa1 (lo.take k) n outs gs bs=true)
 (d:(Qcr 0 lo&&(Qbu (lo.take k).length (lo.take k)&&QaL lo (lo.take k).length (lo.drop k)))=true)
 (q:∀ S,ZJ (E S) (lo.take k).toArray gs) (f:W (fun _=>false) w.drew) (e:Qai (E (fun _=>false)) a w.drew outs)
 (o:AllOkY E W PX P (lo.take k) 0 (lo.take k) bs)
 (b:∀ ops (vs:Tmp->Value) (S:Nat->Bool) w',(∀ j,j<(lo.take k).length->S j=true)->W S w'->(∀ t,(Qs (lo.take k)).contains t=true->E S t (vs t) w')->wpList P ops Q (lo.drop k) (QM a vs (Qs (lo.take k))) w') :
 (Code.region id lo.toArray true).wp P Q a w:=by
 have h:=Qf0 (id:=id) (l:=lo.take k) (l2:=lo.drop k) (Q:=Q) E W PX r p i c g (by rw[List.take_append_drop];exact d) q f e o (b _);rwa [List.take_append_drop] at h
def Qnu (l:List Oper) (t:Tmp) (i:Nat):Bool:=(List.range l.length).all fun j=>match l[j]? with
 | some o=>(match o.dst with | some u=>u != t | none=>true)||j==i
 | none=>true
theorem Qka {l:List Oper}{S:Nat->Bool}{t i:Nat}(f:Qm0 l S t) (g:(Qs l).contains t=true) (d:Qnu l t i=true):S i=true:=by
 obtain⟨j,o,c,k,e⟩:=f (by simpa using g)
 have b:=(Zi c).1;have a:=Xe.1 d j (by simpa using b);rw[c] at a
 simp only[k] at a
 have:j=i:=by
  rw[Bool.or_eq_true] at a
  rcases a with h | h
  ·simp at h
  ·simpa using h
 rw[<-this];exact e
def Zk (w6 w w':World):Prop:=∀ Z,w6.heap.size<=Z->Z<w.heap.size->w'.heap[Z]?=w.heap[Z]?
theorem Zk.refl (a w:World):Zk a w w:=fun _ _ _=>rfl
theorem Zk.below {a w w':World}(b:Below w.heap.size w w'):Zk a w w':=fun Z _ h=>b.block Z h
section
variable {w6 w w':World}{HP:World->Prop}{hk i:Nat}{S:Nat->Bool}
theorem WY.onB (h:WY w6 HP hk S w) (d:∀ w w',HP w->Below w.heap.size w w'->HP w') (hi:i≠hk) (b:Below w.heap.size w w'):WY w6 HP hk (Qcu i S) w':=by
 have e:Qcu i S hk=S hk:=Qnd (fun e=>hi e.symm);rcases h with ⟨c,a⟩|⟨c,a⟩
 ·exact .inl ⟨by rw[e];exact c,a.trans (b.mono a.size)⟩
 ·exact .inr ⟨by rw[e];exact c,d _ _ a b⟩
theorem WY.lowB (h:WY w6 HP hk S w) (a:∀ w,HP w->w6.heap.size<=w.heap.size):w6.heap.size<=w.heap.size:=by
 rcases h with h | h
 ·exact h.2.size
 ·exact a _ h.2
theorem WY.onS (h:WY w6 HP hk S w) (hi:i≠hk):WY w6 HP hk (Qcu i S) w:=by
 have e:Qcu i S hk=S hk:=Qnd (fun e=>hi e.symm);unfold WY;rw[e];exact h
end
def Qms (w6:World) (xs:List Int) (n:Nat) (v:Value) (w:World):Prop:=∃ k,v=.slice (some ⟨k,0,none⟩) n n/\w6.heap.size<=k/\QbE w (.slice (some ⟨k,0,none⟩) n n) xs
def Qkd (w6:World) (x:Int) (v:Value) (w:World):Prop:=∃ k,v=.slice (some ⟨k,0,none⟩) 1 1/\w6.heap.size<=k/\w.cell? ⟨k,0,none⟩=some (Iv x)
theorem Qms.z (h:Qms w6 xs n v w) (z:Zk w6 w w'):Qms w6 xs n v w':=by
 obtain⟨k,d,c,a⟩:=h
 exact⟨k,d,c,Q0 a (fun y b=>by
  have:y=k:=by simpa[Value.ownBlock] using b.symm
  subst this;exact z y c (a.lt b))⟩
theorem Qkd.z (h:Qkd w6 x v w) (z:Zk w6 w w'):Qkd w6 x v w':=by
 obtain⟨k,d,c,b⟩:=h
 exact⟨k,d,c,(XU (w:=w) (a:=⟨k,0,none⟩) (z k c (Xi w _ b))).trans b⟩
theorem Qho.z {fr:RFr}(h:Qho w6 fr v w) (z:Zk w6 w w'):Qho w6 fr v w':=by
 obtain⟨k,x,n,e,b,c,a⟩:=h
 exact⟨k,x,n,e,b,c,a.keep (z k b (XC a.1)) (fun y d=>by
  have:y=x:=by simpa[Value.ownBlock] using d.symm
  subst this;exact z y c (a.2.lt d))⟩
def Qmg (w6:World) (fr:RFr) (v:Value) (w:World):Prop:=∃ k u,v=.slice (some ⟨k,0,none⟩) 1 1/\w6.heap.size<=k/\w.cell? ⟨k,0,none⟩=some u/\Qho w6 fr u w
theorem Qmg.z {fr:RFr}(h:Qmg w6 fr v w) (z:Zk w6 w w'):Qmg w6 fr v w':=by
 obtain⟨k,u,d,c,b,e⟩:=h
 exact⟨k,u,d,c,(XU (w:=w) (a:=⟨k,0,none⟩) (z k c (Xi w _ b))).trans b,e.z z⟩
theorem Qgs {u:Value}(h:w.cell? ⟨k,0,none⟩=some u):∀ (j:Nat) (v:Value),[u][j]?=some v->w.cell? ((⟨k,0,none⟩:Addr).add j)=some v
 | 0,v,hv=>by simp at hv;subst hv;exact h
 | j+1,v,hv=>by simp at hv
theorem QeU (w:World){o:Oper}{a:Act}{K:Act->World->Prop}{Q:Exit->Act->World->Prop}(s x:Operand) (t:TypeId)
 (F:o.op=.call { callee:=.builtin .append,args:=#[s,x],argTypes:=#[t,t] })
 (e:TypeId) (i:TypeInfo) (z:Value) (size d:Nat) (I:P.underlying t=some (.slice e)) (hi:P.info? e=some i) (L:i.zero=some z)
 (l:i.size=size) (C:i.bytes=d) (B:z.cells.size=size) (A:0<size)
 (v:Value) (n:Nat) (xs:List Value) (N:a.eval s=v) (q:w.ownsRow 0 e size v n xs)
 (D:Addr) (m c:Nat) (b:List Value) (J:a.eval x=.slice (some D) m c) (G:b.length=m*size) (g:∀ j u,b[j]?=some u->w.cell? (D.add j)=some u) (O:∀ u∈b,u.oneCell'=true)
 (y:n+m<=maxLen) (f:(n+m)*d<=140737488355328)
 (h:∀ v' w',w'.ownsRow 0 e size v' (n+m) (xs++b)->w.grownBy w' v.ownBlock->(∀ k,v'.ownBlock=some k->v.ownBlock=some k\/k=w.heap.size)->K (a.put o.dst v') w'):o.wp P a w K Q:=by
 obtain⟨v',w',M,H,E,_,p⟩:=run_append_own_at (P:=P) w 0 t o.type e i z size d I hi L l C B A v n xs q D m c b G g O y f (Xb _)
 unfold Oper.wp execOp;simp only[F,resolve,invoke,builtin,Sem.run_bind,Sem.run_pure,Result.andThen_ok,List.map_toArray,List.map_cons,List.map_nil,N,J,M]
 refine h _ _ H E (fun k r=>?_);rcases p with p | p
 ·rw[p] at r;exact .inl r
 ·rw[p] at r;exact .inr (by simpa using r.symm)
def Qnq (b c X be ri vl cc j:Nat) (ya:Int) (t:Tmp) (v:Value) (w:World):Prop :=
 v=(([(0,Pv b 0),(1,Pv c 0),(5,Pv X 0),(68,Pv b 0),(69,Pv b 0),(70,Pv b 0),(71,Pv be 0),(72,Pv c 0),(73,Pv c 0),(74,Pv c 3),(75,.slice (some ⟨ri,0,none⟩) vl cc),(76,Pv X 1),(77,Iv (j:Int)),(78,Pv ri j),(79,Iv ya)]:List (Tmp × Value)).lookup t).getD undef
theorem QnS {i:Nat}(z:w6.cell? ⟨b,0,none⟩=some (Pv i 0)) (q:w6.cell? ⟨c,3,none⟩=some (.slice (some ⟨ri,0,none⟩) vl cc)) (p:w6.cell? ⟨X,1,none⟩=some (Iv (j:Int))) (A:(j:Int)<vl) (s:w6.cell? ⟨ri,j,none⟩=some (Iv ya))  {Q:Exit->Act->World->Prop}
 (a:Act) (m:Nat) (r:a.tmps.size=m) (l:148<=m) (y:a.tmps.getD 0 undef=Pv b 0) (x:a.tmps.getD 1 undef=Pv c 0) (u:a.tmps.getD 5 undef=Pv X 0)
 (hend:∀ ops vs w',vs 71=Pv i 0->vs 79=Iv ya->Below w6.heap.size w6 w'->wpList prog ops Q (Qam 12 ((Tryz.f114.body.bind (Qi 14)).getD .skip)) (QM a vs [68,69,70,71,72,73,74,75,76,77,78,79]) w') :
 Code.wp prog ((Tryz.f114.body.bind (Qi 14)).getD .skip) Q a w6:=by
 conv=>arg 2;whnf
 refine Qg 12 (Qnq b c X i ri vl cc j ya) (fun w=>Below w6.heap.size w6 w) (fun w w'=>Below w.heap.size w w') (outs:=[0,1,5]) (gs:=[]) (bs:=[true,true,true,true,true,true,true,true,true,true,true,true]) (by kernel_rfl) (n:=148) r l (by kernel_rfl) (by kernel_rfl) ?hR ?hG (QI Zr 1) ⟨y,x,u,Y⟩ ?hA ?hend
 case hR=>exact fun t v w w' _ h=>h
 case hG=>exact Y
 case hend=>exact fun ops vs w' e f=>hend ops vs w' (f 71 (by kernel_rfl)) (f 79 (by kernel_rfl)) e
 case hA =>
  refine⟨fun a w e f K g=>?_,?_⟩
  ·obtain⟨d,-⟩:=f
   have d:a.tmps.getD 0 undef=Pv b 0:=d;go_simp;exact g _ _ Zr e Z
  refine⟨fun a w e f K g=>?_,?_⟩
  ·obtain⟨d,-⟩:=f
   have d:a.tmps.getD 68 undef=Pv b 0:=d;go_simp;exact g _ _ Zr e Z
  refine⟨fun a w e f K g=>?_,?_⟩
  ·obtain⟨d,-⟩:=f
   have d:a.tmps.getD 69 undef=Pv b 0:=d;go_simp;exact g _ _ Zr e Z
  refine⟨fun a w e f K g=>?_,?_⟩
  ·obtain⟨d,-⟩:=f
   have d:a.tmps.getD 70 undef=Pv b 0:=d;have k:=Qk z e;go_simp;exact g _ _ Zr e Z
  refine⟨fun a w e f K g=>?_,?_⟩
  ·obtain⟨d,-⟩:=f
   have d:a.tmps.getD 1 undef=Pv c 0:=d;go_simp;exact g _ _ Zr e Z
  refine⟨fun a w e f K g=>?_,?_⟩
  ·obtain⟨d,-⟩:=f
   have d:a.tmps.getD 72 undef=Pv c 0:=d;go_simp;exact g _ _ Zr e Z
  refine⟨fun a w e f K g=>?_,?_⟩
  ·obtain⟨d,-⟩:=f
   have d:a.tmps.getD 73 undef=Pv c 0:=d;go_simp;exact g _ _ Zr e Z
  refine⟨fun a w e f K g=>?_,?_⟩
  ·obtain⟨d,-⟩:=f
   have d:a.tmps.getD 74 undef=Pv c 3:=d;have k:=Qk q e;go_simp;exact g _ _ Zr e Z
  refine⟨fun a w e f K g=>?_,?_⟩
  ·obtain⟨d,-⟩:=f
   have d:a.tmps.getD 5 undef=Pv X 0:=d;go_simp;exact g _ _ Zr e Z
  refine⟨fun a w e f K g=>?_,?_⟩
  ·obtain⟨d,-⟩:=f
   have d:a.tmps.getD 76 undef=Pv X 1:=d;have k:=Qk p e;go_simp;exact g _ _ Zr e Z
  refine⟨fun a w e f K g=>?_,?_⟩
  ·obtain⟨d,o,-⟩:=f
   have d:a.tmps.getD 75 undef=.slice (some ⟨ri,0,none⟩) vl cc:=d;have o:a.tmps.getD 77 undef=Iv (j:Int):=o;go_simp;exact g _ _ Zr e Z
  refine⟨fun a w e f K g=>?_,?_⟩
  ·obtain⟨d,-⟩:=f
   have d:a.tmps.getD 78 undef=Pv ri j:=d;have k:=Qk s e;go_simp;exact g _ _ Zr e Z
  trivial
def Qno (b c X ri vl cc j:Nat) (ya:Int) (t:Tmp) (v:Value) (w:World):Prop :=
 v=(([(0,Pv b 0),(1,Pv c 0),(5,Pv X 0),(132,Pv b 0),(133,Pv c 0),(134,Pv c 0),(135,Pv c 3),(136,.slice (some ⟨ri,0,none⟩) vl cc),(137,Pv X 1),(138,Iv (j:Int)),(139,Pv ri j),(140,Iv ya)]:List (Tmp × Value)).lookup t).getD undef
theorem Qn6 (p:w6.cell? ⟨c,3,none⟩=some (.slice (some ⟨ri,0,none⟩) vl cc)) (o:w6.cell? ⟨X,1,none⟩=some (Iv (j:Int))) (y:(j:Int)<vl) (r:w6.cell? ⟨ri,j,none⟩=some (Iv ya))  {Q:Exit->Act->World->Prop}
 (a:Act) (m:Nat) (q:a.tmps.size=m) (i:148<=m) (x:a.tmps.getD 0 undef=Pv b 0) (u:a.tmps.getD 1 undef=Pv c 0) (s:a.tmps.getD 5 undef=Pv X 0)
 (hend:∀ ops vs w',vs 132=Pv b 0->vs 140=Iv ya->Below w6.heap.size w6 w'->wpList prog ops Q (Qam 9 ((Tryz.f114.body.bind (Qi 22)).getD .skip)) (QM a vs [132,133,134,135,136,137,138,139,140]) w') :
 Code.wp prog ((Tryz.f114.body.bind (Qi 22)).getD .skip) Q a w6:=by
 conv=>arg 2;whnf
 refine Qg 9 (Qno b c X ri vl cc j ya) (fun w=>Below w6.heap.size w6 w) (fun w w'=>Below w.heap.size w w') (outs:=[0,1,5]) (gs:=[]) (bs:=[true,true,true,true,true,true,true,true,true]) (by kernel_rfl) (n:=148) q i (by kernel_rfl) (by kernel_rfl) ?hR ?hG (QI Zr 1) ⟨x,u,s,Y⟩ ?hA ?hend
 case hR=>exact fun t v w w' _ h=>h
 case hG=>exact Y
 case hend=>exact fun ops vs w' e f=>hend ops vs w' (f 132 (by kernel_rfl)) (f 140 (by kernel_rfl)) e
 case hA =>
  refine⟨fun a w e f K g=>?_,?_⟩
  ·obtain⟨d,-⟩:=f
   have d:a.tmps.getD 0 undef=Pv b 0:=d;go_simp;exact g _ _ Zr e Z
  refine⟨fun a w e f K g=>?_,?_⟩
  ·obtain⟨d,-⟩:=f
   have d:a.tmps.getD 1 undef=Pv c 0:=d;go_simp;exact g _ _ Zr e Z
  refine⟨fun a w e f K g=>?_,?_⟩
  ·obtain⟨d,-⟩:=f
   have d:a.tmps.getD 133 undef=Pv c 0:=d;go_simp;exact g _ _ Zr e Z
  refine⟨fun a w e f K g=>?_,?_⟩
  ·obtain⟨d,-⟩:=f
   have d:a.tmps.getD 134 undef=Pv c 0:=d;go_simp;exact g _ _ Zr e Z
  refine⟨fun a w e f K g=>?_,?_⟩
  ·obtain⟨d,-⟩:=f
   have d:a.tmps.getD 135 undef=Pv c 3:=d;have k:=Qk p e;go_simp;exact g _ _ Zr e Z
  refine⟨fun a w e f K g=>?_,?_⟩
  ·obtain⟨d,-⟩:=f
   have d:a.tmps.getD 5 undef=Pv X 0:=d;go_simp;exact g _ _ Zr e Z
  refine⟨fun a w e f K g=>?_,?_⟩
  ·obtain⟨d,-⟩:=f
   have d:a.tmps.getD 137 undef=Pv X 1:=d;have k:=Qk o e;go_simp;exact g _ _ Zr e Z
  refine⟨fun a w e f K g=>?_,?_⟩
  ·obtain⟨d,l,-⟩:=f
   have d:a.tmps.getD 136 undef=.slice (some ⟨ri,0,none⟩) vl cc:=d;have l:a.tmps.getD 138 undef=Iv (j:Int):=l;go_simp;exact g _ _ Zr e Z
  refine⟨fun a w e f K g=>?_,?_⟩
  ·obtain⟨d,-⟩:=f
   have d:a.tmps.getD 139 undef=Pv ri j:=d;have k:=Qk r e;go_simp;exact g _ _ Zr e Z
  trivial
def Qn5 (b c X be bp ri vl cc j:Nat) (ya yb xk:Int) (t:Tmp) (v:Value) (w:World):Prop :=
 v=(([(0,Pv b 0),(1,Pv c 0),(5,Pv X 0),(6,Iv ya),(30,Pv b 0),(31,Pv b 0),(32,Pv b 0),(33,Pv be 0),(34,Pv be 0),(35,Pv be 0),(36,Pv bp 0),(37,Iv ya),(38,Pv X 4),(39,Iv xk),(40,Iv (wrap64 (ya+xk))),(41,Pv c 0),(42,Pv c 0),(43,Pv c 3),(44,.slice (some ⟨ri,0,none⟩) vl cc),(45,Pv X 2),(46,Iv (j:Int)),(47,Pv ri j),(48,Iv yb)]:List (Tmp × Value)).lookup t).getD undef
theorem wp6 {i:Nat}(p:w6.cell? ⟨b,0,none⟩=some (Pv i 0)) (C:w6.cell? ⟨i,0,none⟩=some (Pv bp 0)) (r:w6.cell? ⟨c,3,none⟩=some (.slice (some ⟨ri,0,none⟩) vl cc)) (s:w6.cell? ⟨X,4,none⟩=some (Iv xk)) (y:w6.cell? ⟨X,2,none⟩=some (Iv (j:Int))) (D:(j:Int)<vl) (z:w6.cell? ⟨ri,j,none⟩=some (Iv yb))  {Q:Exit->Act->World->Prop}
 (a:Act) (m:Nat) (x:a.tmps.size=m) (o:105<=m) (B:a.tmps.getD 0 undef=Pv b 0) (A:a.tmps.getD 1 undef=Pv c 0) (q:a.tmps.getD 5 undef=Pv X 0) (u:a.tmps.getD 6 undef=Iv ya)
 (hend:∀ ops vs w',vs 36=Pv bp 0->vs 40=Iv (wrap64 (ya+xk))->vs 48=Iv yb->Below w6.heap.size w6 w'->wpList prog ops Q (Qam 19 ((Tryz.f177.body.bind (Qi 6)).getD .skip)) (QM a vs [30,31,32,33,34,35,36,37,38,39,40,41,42,43,44,45,46,47,48]) w') :
 Code.wp prog ((Tryz.f177.body.bind (Qi 6)).getD .skip) Q a w6:=by
 conv=>arg 2;whnf
 refine Qg 19 (Qn5 b c X i bp ri vl cc j ya yb xk) (fun w=>Below w6.heap.size w6 w) (fun w w'=>Below w.heap.size w w') (outs:=[0,1,5,6]) (gs:=[]) (bs:=[true,true,true,true,true,true,true,true,true,true,true,true,true,true,true,true,true,true,true]) (by kernel_rfl) (n:=105) x o (by kernel_rfl) (by kernel_rfl) ?hR ?hG (QI Zr 1) ⟨B,A,q,u,Y⟩ ?hA ?hend
 case hR=>exact fun t v w w' _ h=>h
 case hG=>exact Y
 case hend=>exact fun ops vs w' e f=>hend ops vs w' (f 36 (by kernel_rfl)) (f 40 (by kernel_rfl)) (f 48 (by kernel_rfl)) e
 case hA =>
  refine⟨fun a w e f K g=>?_,?_⟩
  ·obtain⟨d,-⟩:=f
   have d:a.tmps.getD 0 undef=Pv b 0:=d;go_simp;exact g _ _ Zr e Z
  refine⟨fun a w e f K g=>?_,?_⟩
  ·obtain⟨d,-⟩:=f
   have d:a.tmps.getD 30 undef=Pv b 0:=d;go_simp;exact g _ _ Zr e Z
  refine⟨fun a w e f K g=>?_,?_⟩
  ·obtain⟨d,-⟩:=f
   have d:a.tmps.getD 31 undef=Pv b 0:=d;go_simp;exact g _ _ Zr e Z
  refine⟨fun a w e f K g=>?_,?_⟩
  ·obtain⟨d,-⟩:=f
   have d:a.tmps.getD 32 undef=Pv b 0:=d;have k:=Qk p e;go_simp;exact g _ _ Zr e Z
  refine⟨fun a w e f K g=>?_,?_⟩
  ·obtain⟨d,-⟩:=f
   have d:a.tmps.getD 33 undef=Pv i 0:=d;go_simp;exact g _ _ Zr e Z
  refine⟨fun a w e f K g=>?_,?_⟩
  ·obtain⟨d,-⟩:=f
   have d:a.tmps.getD 34 undef=Pv i 0:=d;go_simp;exact g _ _ Zr e Z
  refine⟨fun a w e f K g=>?_,?_⟩
  ·obtain⟨d,-⟩:=f
   have d:a.tmps.getD 35 undef=Pv i 0:=d;have k:=Qk C e;go_simp;exact g _ _ Zr e Z
  refine⟨fun a w e f K g=>?_,?_⟩
  ·obtain⟨d,-⟩:=f
   have d:a.tmps.getD 6 undef=Iv ya:=d;go_simp;exact g _ _ Zr e Z
  refine⟨fun a w e f K g=>?_,?_⟩
  ·obtain⟨d,-⟩:=f
   have d:a.tmps.getD 5 undef=Pv X 0:=d;go_simp;exact g _ _ Zr e Z
  refine⟨fun a w e f K g=>?_,?_⟩
  ·obtain⟨d,-⟩:=f
   have d:a.tmps.getD 38 undef=Pv X 4:=d;have k:=Qk s e;go_simp;exact g _ _ Zr e Z
  refine⟨fun a w e f K g=>?_,?_⟩
  ·obtain⟨d,l,-⟩:=f
   have d:a.tmps.getD 37 undef=Iv ya:=d;have l:a.tmps.getD 39 undef=Iv xk:=l;go_simp;exact g _ _ Zr e (by show Value.int .i64 _=Value.int .i64 (wrap64 (ya+xk));rw[IntKind.wrap_i64];unfold wrap64;rfl)
  refine⟨fun a w e f K g=>?_,?_⟩
  ·obtain⟨d,-⟩:=f
   have d:a.tmps.getD 1 undef=Pv c 0:=d;go_simp;exact g _ _ Zr e Z
  refine⟨fun a w e f K g=>?_,?_⟩
  ·obtain⟨d,-⟩:=f
   have d:a.tmps.getD 41 undef=Pv c 0:=d;go_simp;exact g _ _ Zr e Z
  refine⟨fun a w e f K g=>?_,?_⟩
  ·obtain⟨d,-⟩:=f
   have d:a.tmps.getD 42 undef=Pv c 0:=d;go_simp;exact g _ _ Zr e Z
  refine⟨fun a w e f K g=>?_,?_⟩
  ·obtain⟨d,-⟩:=f
   have d:a.tmps.getD 43 undef=Pv c 3:=d;have k:=Qk r e;go_simp;exact g _ _ Zr e Z
  refine⟨fun a w e f K g=>?_,?_⟩
  ·obtain⟨d,-⟩:=f
   have d:a.tmps.getD 5 undef=Pv X 0:=d;go_simp;exact g _ _ Zr e Z
  refine⟨fun a w e f K g=>?_,?_⟩
  ·obtain⟨d,-⟩:=f
   have d:a.tmps.getD 45 undef=Pv X 2:=d;have k:=Qk y e;go_simp;exact g _ _ Zr e Z
  refine⟨fun a w e f K g=>?_,?_⟩
  ·obtain⟨d,l,-⟩:=f
   have d:a.tmps.getD 44 undef=.slice (some ⟨ri,0,none⟩) vl cc:=d;have l:a.tmps.getD 46 undef=Iv (j:Int):=l;go_simp;exact g _ _ Zr e Z
  refine⟨fun a w e f K g=>?_,?_⟩
  ·obtain⟨d,-⟩:=f
   have d:a.tmps.getD 47 undef=Pv ri j:=d;have k:=Qk z e;go_simp;exact g _ _ Zr e Z
  trivial
def QnL (w6:World) (R:RM) (b c X ri vl cc j:Nat) (ya yb:Int) (t:Tmp) (v:Value) (w:World):Prop :=
 match ([(64,fun v w=>(0<=yb/\yb<R.load ya)/\v=.int .i64 (wrap64 (wrap64 (ya+1)+yb))),(66,Qkd w6 (R.load (wrap64 (wrap64 (ya+1)+yb))))]:List (Tmp × (Value->World->Prop))).lookup t with
 | some p=>p v w
 | none=>v=(([(0,.pointer (some ⟨b,0,none⟩)),(1,.pointer (some ⟨c,0,none⟩)),(5,.pointer (some ⟨X,0,none⟩)),(6,.int .i64 ya),(52,.pointer (some ⟨c,0,none⟩)),(53,.pointer (some ⟨b,0,none⟩)),(54,.pointer (some ⟨b,0,none⟩)),(55,.int .i64 ya),(56,.pointer (some ⟨c,0,none⟩)),(57,.pointer (some ⟨c,0,none⟩)),(58,.pointer (some ⟨c,3,none⟩)),(59,.slice (some ⟨ri,0,none⟩) vl cc),(60,.pointer (some ⟨X,2,none⟩)),(61,.int .i64 (j:Int)),(62,.pointer (some ⟨ri,j,none⟩)),(63,.int .i64 yb),(65,.int .i64 (R.load (wrap64 (wrap64 (ya+1)+yb))))]:List (Tmp × Value)).lookup t).getD undef
theorem wp8 {R:RM}(F:w6.cell? ⟨c,3,none⟩=some (.slice (some ⟨ri,0,none⟩) vl cc)) (N:w6.cell? ⟨X,2,none⟩=some (Iv (j:Int))) (U:(j:Int)<vl) (O:w6.cell? ⟨ri,j,none⟩=some (Iv yb)) (E:Hid (∀ wx,Below w6.heap.size w6 wx->Calls prog 222 #[Pv b 0,Iv ya,Iv yb] wx fun e w'=>Qlj R ya yb e/\w'=wx)) (T:Hid (∀ wx k,Below w6.heap.size w6 wx->Calls prog 220 #[Pv b 0,Iv k] wx fun e w'=>e=.returned (Iv (R.load k))/\w'=wx))  {Q:Exit->Act->World->Prop}
 (a:Act) (m:Nat) (M:a.tmps.size=m) (s:105<=m) (P:a.tmps.getD 0 undef=Pv b 0) (r:a.tmps.getD 1 undef=Pv c 0) (C:a.tmps.getD 5 undef=Pv X 0) (I:a.tmps.getD 6 undef=Iv ya)
 (S:∀ ch a' w',a'.defers=a.defers->(fun ch w=>ch=Qdy 2/\¬ (0<=yb/\yb<R.load ya)/\Below w6.heap.size w6 w) ch w'->Q (.panic ch) a' w')
 (hend:∀ ops vs w',vs 52=Pv c 0->(fun v w=>(0<=yb/\yb<R.load ya)/\v=Iv (wrap64 (wrap64 (ya+1)+yb))) (vs 64) w'->(Qkd w6 (R.load (wrap64 (wrap64 (ya+1)+yb)))) (vs 66) w'->Below w6.heap.size w6 w'->wpList prog ops Q (Qam 15 ((Tryz.f177.body.bind (Qi 8)).getD .skip)) (QM a vs [52,53,54,55,56,57,58,59,60,61,62,63,64,65,66]) w') :
 Code.wp prog ((Tryz.f177.body.bind (Qi 8)).getD .skip) Q a w6:=by
 conv=>arg 2;whnf
 refine ZL 15 (QnL w6 R b c X ri vl cc j ya yb) (fun w=>Below w6.heap.size w6 w) (fun w w'=>Below w.heap.size w w') (fun ch w=>ch=Qdy 2/\¬ (0<=yb/\yb<R.load ya)/\Below w6.heap.size w6 w) S (outs:=[0,1,5,6]) (gs:=[]) (bs:=[true,true,true,true,true,true,true,true,true,true,true,true,true,true,true]) (by kernel_rfl) (n:=105) M s (by kernel_rfl) (by kernel_rfl) ?hR ?hG (QI Zr 1) ⟨P,r,C,I,Y⟩ ?hA ?hend
 case hR =>
  intro t v w w' G h;unfold QnL at h |-;split at h
  ·rename_i p q
   simp only[List.lookup_cons,List.lookup_nil] at q
   split at q
   ·cases q;exact h
   ·split at q
    ·cases q;exact h.z (Zk.below G)
    ·cases q
  ·exact h
 case hG=>exact Y
 case hend=>exact fun ops vs w' f g=>hend ops vs w' (g 52 (by kernel_rfl)) (g 64 (by kernel_rfl)) (g 66 (by kernel_rfl)) f
 case hA =>
  refine⟨fun a w f g K i=>?_,?_⟩
  ·obtain⟨d,-⟩:=g
   have d:a.tmps.getD 1 undef=Pv c 0:=d;go_simp;exact i _ _ Zr f Z
  refine⟨fun a w f g K i=>?_,?_⟩
  ·obtain⟨d,-⟩:=g
   have d:a.tmps.getD 0 undef=Pv b 0:=d;go_simp;exact i _ _ Zr f Z
  refine⟨fun a w f g K i=>?_,?_⟩
  ·obtain⟨d,-⟩:=g
   have d:a.tmps.getD 0 undef=Pv b 0:=d;go_simp;exact i _ _ Zr f Z
  refine⟨fun a w f g K i=>?_,?_⟩
  ·obtain⟨d,-⟩:=g
   have d:a.tmps.getD 6 undef=Iv ya:=d;go_simp;exact i _ _ Zr f Z
  refine⟨fun a w f g K i=>?_,?_⟩
  ·obtain⟨d,-⟩:=g
   have d:a.tmps.getD 1 undef=Pv c 0:=d;go_simp;exact i _ _ Zr f Z
  refine⟨fun a w f g K i=>?_,?_⟩
  ·obtain⟨d,-⟩:=g
   have d:a.tmps.getD 56 undef=Pv c 0:=d;go_simp;exact i _ _ Zr f Z
  refine⟨fun a w f g K i=>?_,?_⟩
  ·obtain⟨d,-⟩:=g
   have d:a.tmps.getD 57 undef=Pv c 0:=d;go_simp;exact i _ _ Zr f Z
  refine⟨fun a w f g K i=>?_,?_⟩
  ·obtain⟨d,-⟩:=g
   have d:a.tmps.getD 58 undef=Pv c 3:=d;have x:=Qk F f;go_simp;exact i _ _ Zr f Z
  refine⟨fun a w f g K i=>?_,?_⟩
  ·obtain⟨d,-⟩:=g
   have d:a.tmps.getD 5 undef=Pv X 0:=d;go_simp;exact i _ _ Zr f Z
  refine⟨fun a w f g K i=>?_,?_⟩
  ·obtain⟨d,-⟩:=g
   have d:a.tmps.getD 60 undef=Pv X 2:=d;have x:=Qk N f;go_simp;exact i _ _ Zr f Z
  refine⟨fun a w f g K i=>?_,?_⟩
  ·obtain⟨d,l,-⟩:=g
   have d:a.tmps.getD 59 undef=.slice (some ⟨ri,0,none⟩) vl cc:=d;have l:a.tmps.getD 61 undef=Iv (j:Int):=l;go_simp;exact i _ _ Zr f Z
  refine⟨fun a w f g K i=>?_,?_⟩
  ·obtain⟨d,-⟩:=g
   have d:a.tmps.getD 62 undef=Pv ri j:=d;have x:=Qk O f;go_simp;exact i _ _ Zr f Z
  refine⟨fun a w f g K i=>?_,?_⟩
  ·obtain⟨d,l,u,-⟩:=g
   have d:a.tmps.getD 54 undef=Pv b 0:=d;have l:a.tmps.getD 55 undef=Iv ya:=l;have u:a.tmps.getD 63 undef=Iv yb:=u;go_simp;refine Xm (E.out w f) ?_;rintro H A ⟨y,o⟩;have o:=o.symm;subst o;rcases y with ⟨r,B,rfl⟩|⟨r,rfl⟩
   rotate_left
   ·exact⟨_,Z,Z,(fun h=>Int.not_lt.1 (fun D=>r ⟨h,D⟩)),f⟩
   go_simp;exact i _ _ Zr f ⟨⟨r,B⟩,Z⟩
  refine⟨fun a w f g K i=>?_,?_⟩
  ·obtain⟨d,l,-⟩:=g
   have d:a.tmps.getD 53 undef=Pv b 0:=d;have l:(fun v w=>(0<=yb/\yb<R.load ya)/\v=Iv (wrap64 (wrap64 (ya+1)+yb))) (a.tmps.getD 64 undef) w:=l;generalize L:a.tmps.getD 64 undef=J at l;obtain⟨-,rfl⟩:=l
   go_simp;refine Xm (T.out w _ f) ?_;rintro H A ⟨rfl,o⟩;have o:=o.symm;subst o;go_simp;exact i _ _ Zr f Z
  refine⟨fun a w f g K i=>?_,?_⟩
  ·obtain⟨d,-⟩:=g
   have d:a.tmps.getD 65 undef=Iv (R.load (wrap64 (wrap64 (ya+1)+yb))):=d;rw[Za] at d
   go_simp;exact i _ _ (ZP _ _) (f.trans ((ZP _ _).mono f.size)) ⟨_,Z,f.size,Qb (Qe _ _ _) 0 _ Z⟩
  trivial
def Qmk (R:RM) (b c X be bp ri vl cc j q:Nat) (ya yb yc:Int) (t:Tmp) (v:Value) (w:World):Prop :=
 match ([(87,fun v w=>(0<=yb/\yb<R.load ya)/\v=.int .i64 (wrap64 (wrap64 (ya+1)+yb)))]:List (Tmp × (Value->World->Prop))).lookup t with
 | some p=>p v w
 | none=>v=(([(0,.pointer (some ⟨b,0,none⟩)),(1,.pointer (some ⟨c,0,none⟩)),(5,.pointer (some ⟨X,0,none⟩)),(6,.int .i64 ya),(70,.pointer (some ⟨b,0,none⟩)),(71,.pointer (some ⟨b,0,none⟩)),(72,.pointer (some ⟨b,0,none⟩)),(73,.pointer (some ⟨be,0,none⟩)),(74,.pointer (some ⟨be,0,none⟩)),(75,.pointer (some ⟨be,0,none⟩)),(76,.pointer (some ⟨bp,0,none⟩)),(77,.pointer (some ⟨b,0,none⟩)),(78,.int .i64 ya),(79,.pointer (some ⟨c,0,none⟩)),(80,.pointer (some ⟨c,0,none⟩)),(81,.pointer (some ⟨c,3,none⟩)),(82,.slice (some ⟨ri,0,none⟩) vl cc),(83,.pointer (some ⟨X,2,none⟩)),(84,.int .i64 (j:Int)),(85,.pointer (some ⟨ri,j,none⟩)),(86,.int .i64 yb),(88,.pointer (some ⟨c,0,none⟩)),(89,.pointer (some ⟨c,0,none⟩)),(90,.pointer (some ⟨c,3,none⟩)),(91,.slice (some ⟨ri,0,none⟩) vl cc),(92,.pointer (some ⟨X,3,none⟩)),(93,.int .i64 (q:Int)),(94,.pointer (some ⟨ri,q,none⟩)),(95,.int .i64 yc)]:List (Tmp × Value)).lookup t).getD undef
theorem QnE {R:RM}{o:Nat}{y:Int}(D:w6.cell? ⟨b,0,none⟩=some (Pv o 0)) (S:w6.cell? ⟨o,0,none⟩=some (Pv bp 0)) (A:w6.cell? ⟨c,3,none⟩=some (.slice (some ⟨ri,0,none⟩) vl cc)) (M:w6.cell? ⟨X,2,none⟩=some (Iv (j:Int))) (U:(j:Int)<vl) (N:w6.cell? ⟨ri,j,none⟩=some (Iv yb)) (E:w6.cell? ⟨X,3,none⟩=some (Iv (q:Int))) (hq:(q:Int)<vl) (C:w6.cell? ⟨ri,q,none⟩=some (Iv y)) (I:Hid (∀ wx,Below w6.heap.size w6 wx->Calls prog 222 #[Pv b 0,Iv ya,Iv yb] wx fun e w'=>Qlj R ya yb e/\w'=wx))  {Q:Exit->Act->World->Prop}
 (a:Act) (m:Nat) (L:a.tmps.size=m) (u:105<=m) (O:a.tmps.getD 0 undef=Pv b 0) (r:a.tmps.getD 1 undef=Pv c 0) (G:a.tmps.getD 5 undef=Pv X 0) (J:a.tmps.getD 6 undef=Iv ya)
 (P:∀ ch a' w',a'.defers=a.defers->(fun ch w=>ch=Qdy 2/\¬ (0<=yb/\yb<R.load ya)/\Below w6.heap.size w6 w) ch w'->Q (.panic ch) a' w')
 (hend:∀ ops vs w',vs 76=Pv bp 0->(fun v w=>(0<=yb/\yb<R.load ya)/\v=Iv (wrap64 (wrap64 (ya+1)+yb))) (vs 87) w'->vs 95=Iv y->Below w6.heap.size w6 w'->wpList prog ops Q (Qam 26 ((Tryz.f177.body.bind (Qi 10)).getD .skip)) (QM a vs [70,71,72,73,74,75,76,77,78,79,80,81,82,83,84,85,86,87,88,89,90,91,92,93,94,95]) w') :
 Code.wp prog ((Tryz.f177.body.bind (Qi 10)).getD .skip) Q a w6:=by
 conv=>arg 2;whnf
 refine ZL 26 (Qmk R b c X o bp ri vl cc j q ya yb y) (fun w=>Below w6.heap.size w6 w) (fun w w'=>Below w.heap.size w w') (fun ch w=>ch=Qdy 2/\¬ (0<=yb/\yb<R.load ya)/\Below w6.heap.size w6 w) P (outs:=[0,1,5,6]) (gs:=[]) (bs:=[true,true,true,true,true,true,true,true,true,true,true,true,true,true,true,true,true,true,true,true,true,true,true,true,true,true]) (by kernel_rfl) (n:=105) L u (by kernel_rfl) (by kernel_rfl) ?hR ?hG (QI Zr 1) ⟨O,r,G,J,Y⟩ ?hA ?hend
 case hR =>
  intro t v w w' V h;unfold Qmk at h |-;split at h
  ·rename_i p s
   simp only[List.lookup_cons,List.lookup_nil] at s
   split at s
   ·cases s;exact h
   ·cases s
  ·exact h
 case hG=>exact Y
 case hend=>exact fun ops vs w' f g=>hend ops vs w' (g 76 (by kernel_rfl)) (g 87 (by kernel_rfl)) (g 95 (by kernel_rfl)) f
 case hA =>
  refine⟨fun a w f g K i=>?_,?_⟩
  ·obtain⟨d,-⟩:=g
   have d:a.tmps.getD 0 undef=Pv b 0:=d;go_simp;exact i _ _ Zr f Z
  refine⟨fun a w f g K i=>?_,?_⟩
  ·obtain⟨d,-⟩:=g
   have d:a.tmps.getD 70 undef=Pv b 0:=d;go_simp;exact i _ _ Zr f Z
  refine⟨fun a w f g K i=>?_,?_⟩
  ·obtain⟨d,-⟩:=g
   have d:a.tmps.getD 71 undef=Pv b 0:=d;go_simp;exact i _ _ Zr f Z
  refine⟨fun a w f g K i=>?_,?_⟩
  ·obtain⟨d,-⟩:=g
   have d:a.tmps.getD 72 undef=Pv b 0:=d;have l:=Qk D f;go_simp;exact i _ _ Zr f Z
  refine⟨fun a w f g K i=>?_,?_⟩
  ·obtain⟨d,-⟩:=g
   have d:a.tmps.getD 73 undef=Pv o 0:=d;go_simp;exact i _ _ Zr f Z
  refine⟨fun a w f g K i=>?_,?_⟩
  ·obtain⟨d,-⟩:=g
   have d:a.tmps.getD 74 undef=Pv o 0:=d;go_simp;exact i _ _ Zr f Z
  refine⟨fun a w f g K i=>?_,?_⟩
  ·obtain⟨d,-⟩:=g
   have d:a.tmps.getD 75 undef=Pv o 0:=d;have l:=Qk S f;go_simp;exact i _ _ Zr f Z
  refine⟨fun a w f g K i=>?_,?_⟩
  ·obtain⟨d,-⟩:=g
   have d:a.tmps.getD 0 undef=Pv b 0:=d;go_simp;exact i _ _ Zr f Z
  refine⟨fun a w f g K i=>?_,?_⟩
  ·obtain⟨d,-⟩:=g
   have d:a.tmps.getD 6 undef=Iv ya:=d;go_simp;exact i _ _ Zr f Z
  refine⟨fun a w f g K i=>?_,?_⟩
  ·obtain⟨d,-⟩:=g
   have d:a.tmps.getD 1 undef=Pv c 0:=d;go_simp;exact i _ _ Zr f Z
  refine⟨fun a w f g K i=>?_,?_⟩
  ·obtain⟨d,-⟩:=g
   have d:a.tmps.getD 79 undef=Pv c 0:=d;go_simp;exact i _ _ Zr f Z
  refine⟨fun a w f g K i=>?_,?_⟩
  ·obtain⟨d,-⟩:=g
   have d:a.tmps.getD 80 undef=Pv c 0:=d;go_simp;exact i _ _ Zr f Z
  refine⟨fun a w f g K i=>?_,?_⟩
  ·obtain⟨d,-⟩:=g
   have d:a.tmps.getD 81 undef=Pv c 3:=d;have l:=Qk A f;go_simp;exact i _ _ Zr f Z
  refine⟨fun a w f g K i=>?_,?_⟩
  ·obtain⟨d,-⟩:=g
   have d:a.tmps.getD 5 undef=Pv X 0:=d;go_simp;exact i _ _ Zr f Z
  refine⟨fun a w f g K i=>?_,?_⟩
  ·obtain⟨d,-⟩:=g
   have d:a.tmps.getD 83 undef=Pv X 2:=d;have l:=Qk M f;go_simp;exact i _ _ Zr f Z
  refine⟨fun a w f g K i=>?_,?_⟩
  ·obtain⟨d,k,-⟩:=g
   have d:a.tmps.getD 82 undef=.slice (some ⟨ri,0,none⟩) vl cc:=d;have k:a.tmps.getD 84 undef=Iv (j:Int):=k;go_simp;exact i _ _ Zr f Z
  refine⟨fun a w f g K i=>?_,?_⟩
  ·obtain⟨d,-⟩:=g
   have d:a.tmps.getD 85 undef=Pv ri j:=d;have l:=Qk N f;go_simp;exact i _ _ Zr f Z
  refine⟨fun a w f g K i=>?_,?_⟩
  ·obtain⟨d,k,z,-⟩:=g
   have d:a.tmps.getD 77 undef=Pv b 0:=d;have k:a.tmps.getD 78 undef=Iv ya:=k;have z:a.tmps.getD 86 undef=Iv yb:=z;go_simp;refine Xm (I.out w f) ?_;rintro W T ⟨B,x⟩;have x:=x.symm;subst x;rcases B with ⟨r,F,rfl⟩|⟨r,rfl⟩
   rotate_left
   ·exact⟨_,Z,Z,(fun h=>Int.not_lt.1 (fun H=>r ⟨h,H⟩)),f⟩
   go_simp;exact i _ _ Zr f ⟨⟨r,F⟩,Z⟩
  refine⟨fun a w f g K i=>?_,?_⟩
  ·obtain⟨d,-⟩:=g
   have d:a.tmps.getD 1 undef=Pv c 0:=d;go_simp;exact i _ _ Zr f Z
  refine⟨fun a w f g K i=>?_,?_⟩
  ·obtain⟨d,-⟩:=g
   have d:a.tmps.getD 88 undef=Pv c 0:=d;go_simp;exact i _ _ Zr f Z
  refine⟨fun a w f g K i=>?_,?_⟩
  ·obtain⟨d,-⟩:=g
   have d:a.tmps.getD 89 undef=Pv c 0:=d;go_simp;exact i _ _ Zr f Z
  refine⟨fun a w f g K i=>?_,?_⟩
  ·obtain⟨d,-⟩:=g
   have d:a.tmps.getD 90 undef=Pv c 3:=d;have l:=Qk A f;go_simp;exact i _ _ Zr f Z
  refine⟨fun a w f g K i=>?_,?_⟩
  ·obtain⟨d,-⟩:=g
   have d:a.tmps.getD 5 undef=Pv X 0:=d;go_simp;exact i _ _ Zr f Z
  refine⟨fun a w f g K i=>?_,?_⟩
  ·obtain⟨d,-⟩:=g
   have d:a.tmps.getD 92 undef=Pv X 3:=d;have l:=Qk E f;go_simp;exact i _ _ Zr f Z
  refine⟨fun a w f g K i=>?_,?_⟩
  ·obtain⟨d,k,-⟩:=g
   have d:a.tmps.getD 91 undef=.slice (some ⟨ri,0,none⟩) vl cc:=d;have k:a.tmps.getD 93 undef=Iv (q:Int):=k;go_simp;exact i _ _ Zr f Z
  refine⟨fun a w f g K i=>?_,?_⟩
  ·obtain⟨d,-⟩:=g
   have d:a.tmps.getD 94 undef=Pv ri q:=d;have l:=Qk C f;go_simp;exact i _ _ Zr f Z
  trivial
def Qkq (w6:World) (b c X ri vl cc j na ca:Nat) (pa:Option Addr) (xs:List Int) (ya ta:Int) (S:Nat->Bool) (t:Tmp) (v:Value) (w:World):Prop :=
 match ([(97,fun _ v _=>(fun v=>v=.int .i64 ta) v),(96,fun _ v w=>(Qms w6 xs na) v w),(98,fun _ v w=>(Qkd w6 ta) v w)]:List (Tmp × ((Nat->Bool)->Value->World->Prop))).lookup t with
 | some p=>p S v w
 | none=>v=(([(0,.pointer (some ⟨b,0,none⟩)),(1,.pointer (some ⟨c,0,none⟩)),(5,.pointer (some ⟨X,0,none⟩)),(83,.pointer (some ⟨c,0,none⟩)),(84,.pointer (some ⟨b,0,none⟩)),(85,.pointer (some ⟨c,0,none⟩)),(86,.pointer (some ⟨c,0,none⟩)),(87,.pointer (some ⟨c,3,none⟩)),(88,.slice (some ⟨ri,0,none⟩) vl cc),(89,.pointer (some ⟨X,1,none⟩)),(90,.int .i64 (j:Int)),(91,.pointer (some ⟨ri,j,none⟩)),(92,.int .i64 ya),(93,.pointer (some ⟨c,0,none⟩)),(94,.pointer (some ⟨X,7,none⟩)),(95,.slice pa na ca)]:List (Tmp × Value)).lookup t).getD undef
theorem Qbc {d:Nat}{f:Int}{S:Nat->Bool}{t:Tmp}{u:Value}(a:Zk w6 w w') (e:Qkq w6 b c X ri vl cc j d ca pa xs ya f S t u w):Qkq w6 b c X ri vl cc j d ca pa xs ya f (Qcu i S) t u w':=by
 unfold Qkq at e |-;refine QmC ?_ e;exact⟨fun _ h=>h,fun _ h=>h.z a,fun _ h=>h.z a,Y⟩
theorem Qn7 {y:Nat}{F:Int}{B:World->Prop}{A:List PanicEntry->World->Prop}(C:∀ w,B w->w6.heap.size<=w.heap.size) (c3:w6.cell? ⟨c,3,none⟩=some (.slice (some ⟨ri,0,none⟩) vl cc)) (x1:w6.cell? ⟨X,1,none⟩=some (Iv (j:Int))) (hj:(j:Int)<vl) (ej:w6.cell? ⟨ri,j,none⟩=some (Iv ya)) (x7:w6.cell? ⟨X,7,none⟩=some (.slice pa y ca)) (T:Hid (∀ wx,Below w6.heap.size w6 wx->Calls prog 167 #[Pv c 0,.slice pa y ca] wx fun e w'=>Qm1 wx xs y e w')) (CT:Hid (∀ wx k,Below w6.heap.size w6 wx->w6.heap.size<=k->QbE wx (.slice (some ⟨k,0,none⟩) y y) xs->Calls prog 172 #[Pv b 0,Iv ya,.slice (some ⟨k,0,none⟩) y y] wx fun e w'=>(e=.returned (Iv F)/\B w'/\Zk w6 wx w')\/(∃ ch,e=.panicked ch/\A ch w')))  (R:∀ w w',(fun w=>∃ w5,B w5/\Below w5.heap.size w5 w) w->Below w.heap.size w w'->(fun w=>∃ w5,B w5/\Below w5.heap.size w5 w) w'){Q:Exit->Act->World->Prop}
 (a:Act) (m:Nat) (hn:a.tmps.size=m) (G:148<=m) (h0:a.tmps.getD 0 undef=Pv b 0) (O:a.tmps.getD 1 undef=Pv c 0) (J:a.tmps.getD 5 undef=Pv X 0)
 (hX:∀ ch a' w',a'.defers=a.defers->(fun ch w=>A ch w) ch w'->Q (.panic ch) a' w')
 (hend:∀ ops vs w',vs 83=Pv c 0->(Qkd w6 F) (vs 98) w'->(fun w=>∃ w5,B w5/\Below w5.heap.size w5 w) w'->wpList prog ops Q (Qam 16 ((Tryz.f114.body.bind (Qi 16)).getD .skip)) (QM a vs [83,84,85,86,87,88,89,90,91,92,93,94,95,96,97,98]) w') :
 Code.wp prog ((Tryz.f114.body.bind (Qi 16)).getD .skip) Q a w6:=by
 conv=>arg 2;whnf
 refine Zs 16 (Qkq w6 b c X ri vl cc j y ca pa xs ya F) (WY w6 (fun w=>∃ w5,B w5/\Below w5.heap.size w5 w) 14) (fun ch w=>A ch w) hX (outs:=[0,1,5]) (gs:=[]) (bs:=[true,true,true,true,true,true,true,true,true,true,true,true,true,true,true,true]) (by kernel_rfl) (n:=148) hn G (by kernel_rfl) (by kernel_rfl) ?hG (.inl ⟨Z,QI Zr 1⟩) ⟨h0,O,J,Y⟩ ?hA ?hend
 case hG=>exact fun S=>trivial
 case hend=>exact fun ops vs S w' D f g=>hend ops vs w' (g 83 (by kernel_rfl)) (g 98 (by kernel_rfl)) (f.fin (D 14 (by decide)))
 case hA =>
  refine⟨fun S a w p u r f g K l=>?_,?_⟩
  ·obtain⟨d,-⟩:=g
   have d:a.tmps.getD 1 undef=Pv c 0:=d;go_simp;exact l _ _ (fun t _ o=>Qbc (i:=0) (Zk.refl _ _) o) (f.onS (i:=0) (by decide)) Z
  refine⟨fun S a w p u r f g K l=>?_,?_⟩
  ·obtain⟨d,-⟩:=g
   have d:a.tmps.getD 0 undef=Pv b 0:=d;go_simp;exact l _ _ (fun t _ o=>Qbc (i:=1) (Zk.refl _ _) o) (f.onS (i:=1) (by decide)) Z
  refine⟨fun S a w p u r f g K l=>?_,?_⟩
  ·obtain⟨d,-⟩:=g
   have d:a.tmps.getD 1 undef=Pv c 0:=d;go_simp;exact l _ _ (fun t _ o=>Qbc (i:=2) (Zk.refl _ _) o) (f.onS (i:=2) (by decide)) Z
  refine⟨fun S a w p u r f g K l=>?_,?_⟩
  ·obtain⟨d,-⟩:=g
   have d:a.tmps.getD 85 undef=Pv c 0:=d;go_simp;exact l _ _ (fun t _ o=>Qbc (i:=3) (Zk.refl _ _) o) (f.onS (i:=3) (by decide)) Z
  refine⟨fun S a w p u r f g K l=>?_,?_⟩
  ·obtain⟨d,-⟩:=g
   have d:a.tmps.getD 86 undef=Pv c 0:=d;go_simp;exact l _ _ (fun t _ o=>Qbc (i:=4) (Zk.refl _ _) o) (f.onS (i:=4) (by decide)) Z
  refine⟨fun S a w p u r f g K l=>?_,?_⟩
  ·obtain⟨d,-⟩:=g
   have s:S 14=false:=Qfq r (q:=14) Z (by kernel_rfl) p;have x:=f.pre s;have d:a.tmps.getD 87 undef=Pv c 3:=d;have H:=Qk c3 x;go_simp;exact l _ _ (fun t _ o=>Qbc (i:=5) (Zk.refl _ _) o) (f.onS (i:=5) (by decide)) Z
  refine⟨fun S a w p u r f g K l=>?_,?_⟩
  ·obtain⟨d,-⟩:=g
   have d:a.tmps.getD 5 undef=Pv X 0:=d;go_simp;exact l _ _ (fun t _ o=>Qbc (i:=6) (Zk.refl _ _) o) (f.onS (i:=6) (by decide)) Z
  refine⟨fun S a w p u r f g K l=>?_,?_⟩
  ·obtain⟨d,-⟩:=g
   have s:S 14=false:=Qfq r (q:=14) Z (by kernel_rfl) p;have x:=f.pre s;have d:a.tmps.getD 89 undef=Pv X 1:=d;have H:=Qk x1 x;go_simp;exact l _ _ (fun t _ o=>Qbc (i:=7) (Zk.refl _ _) o) (f.onS (i:=7) (by decide)) Z
  refine⟨fun S a w p u r f g K l=>?_,?_⟩
  ·obtain⟨d,z,-⟩:=g
   have d:a.tmps.getD 88 undef=.slice (some ⟨ri,0,none⟩) vl cc:=d;have z:a.tmps.getD 90 undef=Iv (j:Int):=z;go_simp;exact l _ _ (fun t _ o=>Qbc (i:=8) (Zk.refl _ _) o) (f.onS (i:=8) (by decide)) Z
  refine⟨fun S a w p u r f g K l=>?_,?_⟩
  ·obtain⟨d,-⟩:=g
   have s:S 14=false:=Qfq r (q:=14) Z (by kernel_rfl) p;have x:=f.pre s;have d:a.tmps.getD 91 undef=Pv ri j:=d;have H:=Qk ej x;go_simp;exact l _ _ (fun t _ o=>Qbc (i:=9) (Zk.refl _ _) o) (f.onS (i:=9) (by decide)) Z
  refine⟨fun S a w p u r f g K l=>?_,?_⟩
  ·obtain⟨d,-⟩:=g
   have d:a.tmps.getD 1 undef=Pv c 0:=d;go_simp;exact l _ _ (fun t _ o=>Qbc (i:=10) (Zk.refl _ _) o) (f.onS (i:=10) (by decide)) Z
  refine⟨fun S a w p u r f g K l=>?_,?_⟩
  ·obtain⟨d,-⟩:=g
   have d:a.tmps.getD 5 undef=Pv X 0:=d;go_simp;exact l _ _ (fun t _ o=>Qbc (i:=11) (Zk.refl _ _) o) (f.onS (i:=11) (by decide)) Z
  refine⟨fun S a w p u r f g K l=>?_,?_⟩
  ·obtain⟨d,-⟩:=g
   have s:S 14=false:=Qfq r (q:=14) Z (by kernel_rfl) p;have x:=f.pre s;have d:a.tmps.getD 94 undef=Pv X 7:=d;have H:=Qk x7 x;go_simp;exact l _ _ (fun t _ o=>Qbc (i:=12) (Zk.refl _ _) o) (f.onS (i:=12) (by decide)) Z
  refine⟨fun S a w p u r f g K l=>?_,?_⟩
  ·obtain⟨d,z,-⟩:=g
   have s:S 14=false:=Qfq r (q:=14) Z (by kernel_rfl) p;have x:=f.pre s;have d:a.tmps.getD 93 undef=Pv c 0:=d;have z:a.tmps.getD 95 undef=.slice pa y ca:=z;go_simp;refine Xm (T.out w x) ?_;rintro r7 w7 ⟨I,rfl,O,h2,P⟩;go_simp;exact l _ _ (fun t _ o=>Qbc (i:=13) (Zk.below P) o) (f.onB R (i:=13) (by decide) P) ⟨I,Z,Zt x.size O,h2⟩
  refine⟨fun S a w p u r f g K l=>?_,?_⟩
  ·obtain⟨d,z,E,-⟩:=g
   have x:=f.pre p;have d:a.tmps.getD 84 undef=Pv b 0:=d;have z:a.tmps.getD 92 undef=Iv ya:=z;have E:(Qms w6 xs y) (a.tmps.getD 96 undef) w:=E;generalize aa:a.tmps.getD 96 undef=V at E;obtain⟨I,rfl,U,h8⟩:=E
   go_simp;refine Xm (CT.out w I x U h8) ?_;rintro r7 w7 (⟨rfl,L,hz⟩|⟨ch,rfl,L⟩)
   rotate_left
   ·exact⟨_,Z,L⟩
   go_simp;exact l _ _ (fun t _ o=>Qbc (i:=14) hz o) (WY.did ⟨_,L,Zr⟩) Z
  refine⟨fun S a w p u r f g K l=>?_,?_⟩
  ·obtain⟨d,-⟩:=g
   have d:(fun v=>v=Iv F) (a.tmps.getD 97 undef):=d;generalize N:a.tmps.getD 97 undef=W at d;rw[Za] at N
   subst d;go_simp;have M:=f.lowB (fun w h=>by obtain⟨w5,J,h6⟩:=h;exact Zt (C _ J) h6.size);exact l _ _ (fun t _ o=>Qbc (i:=15) (Zk.below (ZP _ _)) o) (f.onB R (i:=15) (by decide) (ZP _ _)) ⟨_,Z,M,Qb (Qe _ _ _) 0 _ Z⟩
  trivial
def QkB (w6:World) (b c X ri vl cc j q:Nat) (ya yb ta:Int) (S:Nat->Bool) (t:Tmp) (v:Value) (w:World):Prop :=
 match ([(120,fun _ v _=>(fun v=>v=.int .i64 ta) v),(121,fun _ v w=>(Qkd w6 ta) v w)]:List (Tmp × ((Nat->Bool)->Value->World->Prop))).lookup t with
 | some p=>p S v w
 | none=>v=(([(0,.pointer (some ⟨b,0,none⟩)),(1,.pointer (some ⟨c,0,none⟩)),(5,.pointer (some ⟨X,0,none⟩)),(102,.pointer (some ⟨c,0,none⟩)),(103,.pointer (some ⟨b,0,none⟩)),(104,.pointer (some ⟨c,0,none⟩)),(105,.pointer (some ⟨c,0,none⟩)),(106,.pointer (some ⟨c,3,none⟩)),(107,.slice (some ⟨ri,0,none⟩) vl cc),(108,.pointer (some ⟨X,1,none⟩)),(109,.int .i64 (j:Int)),(110,.pointer (some ⟨ri,j,none⟩)),(111,.int .i64 ya),(112,.pointer (some ⟨c,0,none⟩)),(113,.pointer (some ⟨c,0,none⟩)),(114,.pointer (some ⟨c,3,none⟩)),(115,.slice (some ⟨ri,0,none⟩) vl cc),(116,.pointer (some ⟨X,2,none⟩)),(117,.int .i64 (q:Int)),(118,.pointer (some ⟨ri,q,none⟩)),(119,.int .i64 yb)]:List (Tmp × Value)).lookup t).getD undef
theorem Qav {d:Int}{S:Nat->Bool}{t:Tmp}{u:Value}(e:Zk w6 w w') (a:QkB w6 b c X ri vl cc j q ya yb d S t u w):QkB w6 b c X ri vl cc j q ya yb d (Qcu i S) t u w':=by
 unfold QkB at a |-;refine QmC ?_ a;exact⟨fun _ h=>h,fun _ h=>h.z e,Y⟩
theorem Qoj {D:Int}{z:World->Prop}{y:List PanicEntry->World->Prop}(B:∀ w,z w->w6.heap.size<=w.heap.size) (L:w6.cell? ⟨c,3,none⟩=some (.slice (some ⟨ri,0,none⟩) vl cc)) (O:w6.cell? ⟨X,1,none⟩=some (Iv (j:Int))) (hj:(j:Int)<vl) (ej:w6.cell? ⟨ri,j,none⟩=some (Iv ya)) (W:w6.cell? ⟨X,2,none⟩=some (Iv (q:Int))) (hq:(q:Int)<vl) (M:w6.cell? ⟨ri,q,none⟩=some (Iv yb)) (T:Hid (∀ wx,Below w6.heap.size w6 wx->Calls prog 173 #[Pv b 0,Iv ya,Iv yb] wx fun e w'=>(e=.returned (Iv D)/\z w'/\Zk w6 wx w')\/(∃ ch,e=.panicked ch/\y ch w')))  (U:∀ w w',(fun w=>∃ w5,z w5/\Below w5.heap.size w5 w) w->Below w.heap.size w w'->(fun w=>∃ w5,z w5/\Below w5.heap.size w5 w) w'){Q:Exit->Act->World->Prop}
 (a:Act) (m:Nat) (V:a.tmps.size=m) (E:148<=m) (h0:a.tmps.getD 0 undef=Pv b 0) (h1:a.tmps.getD 1 undef=Pv c 0) (F:a.tmps.getD 5 undef=Pv X 0)
 (hX:∀ ch a' w',a'.defers=a.defers->(fun ch w=>y ch w) ch w'->Q (.panic ch) a' w')
 (hend:∀ ops vs w',vs 102=Pv c 0->(Qkd w6 D) (vs 121) w'->(fun w=>∃ w5,z w5/\Below w5.heap.size w5 w) w'->wpList prog ops Q (Qam 20 ((Tryz.f114.body.bind (Qi 18)).getD .skip)) (QM a vs [102,103,104,105,106,107,108,109,110,111,112,113,114,115,116,117,118,119,120,121]) w') :
 Code.wp prog ((Tryz.f114.body.bind (Qi 18)).getD .skip) Q a w6:=by
 conv=>arg 2;whnf
 refine Zs 20 (QkB w6 b c X ri vl cc j q ya yb D) (WY w6 (fun w=>∃ w5,z w5/\Below w5.heap.size w5 w) 18) (fun ch w=>y ch w) hX (outs:=[0,1,5]) (gs:=[]) (bs:=[true,true,true,true,true,true,true,true,true,true,true,true,true,true,true,true,true,true,true,true]) (by kernel_rfl) (n:=148) V E (by kernel_rfl) (by kernel_rfl) ?hG (.inl ⟨Z,QI Zr 1⟩) ⟨h0,h1,F,Y⟩ ?hA ?hend
 case hG=>exact fun S=>trivial
 case hend=>exact fun ops vs S w' C f g=>hend ops vs w' (g 102 (by kernel_rfl)) (g 121 (by kernel_rfl)) (f.fin (C 18 (by decide)))
 case hA =>
  refine⟨fun S a w o s p f g K k=>?_,?_⟩
  ·obtain⟨d,-⟩:=g
   have d:a.tmps.getD 1 undef=Pv c 0:=d;go_simp;exact k _ _ (fun t _ l=>Qav (i:=0) (Zk.refl _ _) l) (f.onS (i:=0) (by decide)) Z
  refine⟨fun S a w o s p f g K k=>?_,?_⟩
  ·obtain⟨d,-⟩:=g
   have d:a.tmps.getD 0 undef=Pv b 0:=d;go_simp;exact k _ _ (fun t _ l=>Qav (i:=1) (Zk.refl _ _) l) (f.onS (i:=1) (by decide)) Z
  refine⟨fun S a w o s p f g K k=>?_,?_⟩
  ·obtain⟨d,-⟩:=g
   have d:a.tmps.getD 1 undef=Pv c 0:=d;go_simp;exact k _ _ (fun t _ l=>Qav (i:=2) (Zk.refl _ _) l) (f.onS (i:=2) (by decide)) Z
  refine⟨fun S a w o s p f g K k=>?_,?_⟩
  ·obtain⟨d,-⟩:=g
   have d:a.tmps.getD 104 undef=Pv c 0:=d;go_simp;exact k _ _ (fun t _ l=>Qav (i:=3) (Zk.refl _ _) l) (f.onS (i:=3) (by decide)) Z
  refine⟨fun S a w o s p f g K k=>?_,?_⟩
  ·obtain⟨d,-⟩:=g
   have d:a.tmps.getD 105 undef=Pv c 0:=d;go_simp;exact k _ _ (fun t _ l=>Qav (i:=4) (Zk.refl _ _) l) (f.onS (i:=4) (by decide)) Z
  refine⟨fun S a w o s p f g K k=>?_,?_⟩
  ·obtain⟨d,-⟩:=g
   have r:S 18=false:=Qfq p (q:=18) Z (by kernel_rfl) o;have u:=f.pre r;have d:a.tmps.getD 106 undef=Pv c 3:=d;have A:=Qk L u;go_simp;exact k _ _ (fun t _ l=>Qav (i:=5) (Zk.refl _ _) l) (f.onS (i:=5) (by decide)) Z
  refine⟨fun S a w o s p f g K k=>?_,?_⟩
  ·obtain⟨d,-⟩:=g
   have d:a.tmps.getD 5 undef=Pv X 0:=d;go_simp;exact k _ _ (fun t _ l=>Qav (i:=6) (Zk.refl _ _) l) (f.onS (i:=6) (by decide)) Z
  refine⟨fun S a w o s p f g K k=>?_,?_⟩
  ·obtain⟨d,-⟩:=g
   have r:S 18=false:=Qfq p (q:=18) Z (by kernel_rfl) o;have u:=f.pre r;have d:a.tmps.getD 108 undef=Pv X 1:=d;have A:=Qk O u;go_simp;exact k _ _ (fun t _ l=>Qav (i:=7) (Zk.refl _ _) l) (f.onS (i:=7) (by decide)) Z
  refine⟨fun S a w o s p f g K k=>?_,?_⟩
  ·obtain⟨d,x,-⟩:=g
   have d:a.tmps.getD 107 undef=.slice (some ⟨ri,0,none⟩) vl cc:=d;have x:a.tmps.getD 109 undef=Iv (j:Int):=x;go_simp;exact k _ _ (fun t _ l=>Qav (i:=8) (Zk.refl _ _) l) (f.onS (i:=8) (by decide)) Z
  refine⟨fun S a w o s p f g K k=>?_,?_⟩
  ·obtain⟨d,-⟩:=g
   have r:S 18=false:=Qfq p (q:=18) Z (by kernel_rfl) o;have u:=f.pre r;have d:a.tmps.getD 110 undef=Pv ri j:=d;have A:=Qk ej u;go_simp;exact k _ _ (fun t _ l=>Qav (i:=9) (Zk.refl _ _) l) (f.onS (i:=9) (by decide)) Z
  refine⟨fun S a w o s p f g K k=>?_,?_⟩
  ·obtain⟨d,-⟩:=g
   have d:a.tmps.getD 1 undef=Pv c 0:=d;go_simp;exact k _ _ (fun t _ l=>Qav (i:=10) (Zk.refl _ _) l) (f.onS (i:=10) (by decide)) Z
  refine⟨fun S a w o s p f g K k=>?_,?_⟩
  ·obtain⟨d,-⟩:=g
   have d:a.tmps.getD 112 undef=Pv c 0:=d;go_simp;exact k _ _ (fun t _ l=>Qav (i:=11) (Zk.refl _ _) l) (f.onS (i:=11) (by decide)) Z
  refine⟨fun S a w o s p f g K k=>?_,?_⟩
  ·obtain⟨d,-⟩:=g
   have d:a.tmps.getD 113 undef=Pv c 0:=d;go_simp;exact k _ _ (fun t _ l=>Qav (i:=12) (Zk.refl _ _) l) (f.onS (i:=12) (by decide)) Z
  refine⟨fun S a w o s p f g K k=>?_,?_⟩
  ·obtain⟨d,-⟩:=g
   have r:S 18=false:=Qfq p (q:=18) Z (by kernel_rfl) o;have u:=f.pre r;have d:a.tmps.getD 114 undef=Pv c 3:=d;have A:=Qk L u;go_simp;exact k _ _ (fun t _ l=>Qav (i:=13) (Zk.refl _ _) l) (f.onS (i:=13) (by decide)) Z
  refine⟨fun S a w o s p f g K k=>?_,?_⟩
  ·obtain⟨d,-⟩:=g
   have d:a.tmps.getD 5 undef=Pv X 0:=d;go_simp;exact k _ _ (fun t _ l=>Qav (i:=14) (Zk.refl _ _) l) (f.onS (i:=14) (by decide)) Z
  refine⟨fun S a w o s p f g K k=>?_,?_⟩
  ·obtain⟨d,-⟩:=g
   have r:S 18=false:=Qfq p (q:=18) Z (by kernel_rfl) o;have u:=f.pre r;have d:a.tmps.getD 116 undef=Pv X 2:=d;have A:=Qk W u;go_simp;exact k _ _ (fun t _ l=>Qav (i:=15) (Zk.refl _ _) l) (f.onS (i:=15) (by decide)) Z
  refine⟨fun S a w o s p f g K k=>?_,?_⟩
  ·obtain⟨d,x,-⟩:=g
   have d:a.tmps.getD 115 undef=.slice (some ⟨ri,0,none⟩) vl cc:=d;have x:a.tmps.getD 117 undef=Iv (q:Int):=x;go_simp;exact k _ _ (fun t _ l=>Qav (i:=16) (Zk.refl _ _) l) (f.onS (i:=16) (by decide)) Z
  refine⟨fun S a w o s p f g K k=>?_,?_⟩
  ·obtain⟨d,-⟩:=g
   have r:S 18=false:=Qfq p (q:=18) Z (by kernel_rfl) o;have u:=f.pre r;have d:a.tmps.getD 118 undef=Pv ri q:=d;have A:=Qk M u;go_simp;exact k _ _ (fun t _ l=>Qav (i:=17) (Zk.refl _ _) l) (f.onS (i:=17) (by decide)) Z
  refine⟨fun S a w o s p f g K k=>?_,?_⟩
  ·obtain⟨d,x,J,-⟩:=g
   have u:=f.pre o;have d:a.tmps.getD 103 undef=Pv b 0:=d;have x:a.tmps.getD 111 undef=Iv ya:=x;have J:a.tmps.getD 119 undef=Iv yb:=J;go_simp;refine Xm (T.out w u) ?_;rintro r7 w7 (⟨rfl,G,P⟩|⟨ch,rfl,G⟩)
   rotate_left
   ·exact⟨_,Z,G⟩
   go_simp;exact k _ _ (fun t _ l=>Qav (i:=18) P l) (WY.did ⟨_,G,Zr⟩) Z
  refine⟨fun S a w o s p f g K k=>?_,?_⟩
  ·obtain⟨d,-⟩:=g
   have d:(fun v=>v=Iv D) (a.tmps.getD 120 undef):=d;generalize I:a.tmps.getD 120 undef=N at d;rw[Za] at I
   subst d;go_simp;have H:=f.lowB (fun w h=>by obtain⟨w5,F,R⟩:=h;exact Zt (B _ F) R.size);exact k _ _ (fun t _ l=>Qav (i:=19) (Zk.below (ZP _ _)) l) (f.onB U (i:=19) (by decide) (ZP _ _)) ⟨_,Z,H,Qb (Qe _ _ _) 0 _ Z⟩
  trivial
def Qng (w6:World) (fr:RFr) (gc nc:Nat) (vs0:List Value) (v:Value) (w:World):Prop:=∃ w5 c5 x5 n5,Below w6.heap.size w6 w5/\w6.heap.size<=c5/\w6.heap.size<=x5/\WFr w5 c5 fr (.slice (some ⟨x5,0,none⟩) n5 n5)/\w.ownsRow 0 130 1 v (nc+1) (vs0++[Pv c5 0])/\w5.grownBy w (some gc)/\∀ k,v.ownBlock=some k->k=gc\/k=w5.heap.size
theorem wInfoF:∃ i,prog.info? 130=some i/\i.zero=some (.pointer none)/\i.size=1/\i.bytes=8:=by
 have a:(prog.info? 130).map (fun i=>(i.zero,i.size,i.bytes))=some (some (.pointer none),1,8):=by kernel_rfl
 cases h2:prog.info? 130 with
 | none=>rw[h2] at a;cases a
 | some i =>
   rw[h2] at a
   simp at a
   exact⟨i,Z,a.1,a.2.1,a.2.2⟩
theorem wUnderF:prog.underlying 66=some (.slice 130):=by kernel_rfl
def QlO (w6:World) (fr:RFr) (b c X fi gc nc dc na ca:Nat) (pa:Option Addr) (vs0:List Value) (S:Nat->Bool) (t:Tmp) (v:Value) (w:World):Prop :=
 match ([(23,fun _ v w=>(Qho w6 fr) v w),(24,fun _ v w=>(Qmg w6 fr) v w),(25,fun S v w=>S 12=true->(Qng w6 fr gc nc vs0) v w)]:List (Tmp × ((Nat->Bool)->Value->World->Prop))).lookup t with
 | some p=>p S v w
 | none=>v=(([(0,.pointer (some ⟨b,0,none⟩)),(1,.pointer (some ⟨c,0,none⟩)),(5,.pointer (some ⟨X,0,none⟩)),(13,.pointer (some ⟨b,0,none⟩)),(14,.pointer (some ⟨b,0,none⟩)),(15,.pointer (some ⟨b,0,none⟩)),(16,.pointer (some ⟨b,4,none⟩)),(17,.slice (some ⟨gc,0,none⟩) nc dc),(18,.pointer (some ⟨c,0,none⟩)),(19,.pointer (some ⟨X,4,none⟩)),(20,.int .i64 (fi:Int)),(21,.pointer (some ⟨X,7,none⟩)),(22,.slice pa na ca),(26,.pointer (some ⟨b,0,none⟩)),(27,.pointer (some ⟨b,4,none⟩))]:List (Tmp × Value)).lookup t).getD undef
theorem Qgo {fr:RFr}{k d l g:Nat}{a:List Value}{S:Nat->Bool}{t:Tmp}{u:Value}(hi:i≠12) (f:Zk w6 w w') (n:S 12=true->w'=w) (j:QlO w6 fr b c X fi k d l g ca pa a S t u w):QlO w6 fr b c X fi k d l g ca pa a (Qcu i S) t u w':=by
 unfold QlO at j |-;refine QmC ?_ j;exact⟨fun _ h=>h.z f,fun _ h=>h.z f,fun _ h e=>(by rw[Qnd (fun e=>hi e.symm)] at e;have m:=n e;subst m;exact h e),Y⟩
theorem Qn3 {fr:RFr}{j d k g:Nat}{a:List Value}{S:Nat->Bool}{t:Tmp}{u:Value}(l:t≠25) (f:Zk w6 w w') (i:QlO w6 fr b c X fi j d k g ca pa a S t u w):QlO w6 fr b c X fi j d k g ca pa a (Qcu 12 S) t u w':=by
 unfold QlO at i |-;refine QmC ?_ i;exact⟨fun _ h=>h.z f,fun _ h=>h.z f,fun e _=>absurd e l,Y⟩
theorem wc2 {fr:RFr}{y x F G:Nat}{v:List Value}(hR:Hid (∀ wx,Below w6.heap.size w6 wx->wx.ownsRow 0 130 1 (.slice (some ⟨y,0,none⟩) x F) x v)) (ad:y<w6.heap.size) (ab:x<=100) (q4:w6.cell? ⟨b,4,none⟩=some (.slice (some ⟨y,0,none⟩) x F)) (x4:w6.cell? ⟨X,4,none⟩=some (Iv (fi:Int))) (C:w6.cell? ⟨X,7,none⟩=some (.slice pa G ca)) (CB:Hid (∀ wx,Below w6.heap.size w6 wx->Calls prog 216 #[Pv c 0,Iv (fi:Int),Iv 0,.slice pa G ca] wx fun e w'=>Qmx wx fr e w'))  (hP:∀ w w',(fun w=>w6.heap.size<=w.heap.size) w->Below w.heap.size w w'->(fun w=>w6.heap.size<=w.heap.size) w'){Q:Exit->Act->World->Prop}
 (a:Act) (m:Nat) (hn:a.tmps.size=m) (J:28<=m) (h0:a.tmps.getD 0 undef=Pv b 0) (U:a.tmps.getD 1 undef=Pv c 0) (h5:a.tmps.getD 5 undef=Pv X 0)
 (hX:∀ ch a' w',a'.defers=a.defers->(fun ch w=>False) ch w'->Q (.panic ch) a' w')
 (hend:∀ ops vs w',(Qng w6 fr y x v) (vs 25) w'->vs 27=Pv b 4->(fun w=>w6.heap.size<=w.heap.size) w'->wpList prog ops Q (Qam 15 ((Tryz.f176.body.bind (Qi 2)).getD .skip)) (QM a vs [13,14,15,16,17,18,19,20,21,22,23,24,25,26,27]) w') :
 Code.wp prog ((Tryz.f176.body.bind (Qi 2)).getD .skip) Q a w6:=by
 conv=>arg 2;whnf
 refine Zs 15 (QlO w6 fr b c X fi y x F G ca pa v) (WY w6 (fun w=>w6.heap.size<=w.heap.size) 12) (fun ch w=>False) hX (outs:=[0,1,5]) (gs:=[]) (bs:=[true,true,true,true,true,true,true,true,true,true,true,true,true,true,true]) (by kernel_rfl) (n:=28) hn J (by kernel_rfl) (by kernel_rfl) ?hG (.inl ⟨Yz,QI Zr 1⟩) ⟨h0,U,h5,Y⟩ ?hA ?hend
 case hG=>exact fun S=>trivial
 case hend=>exact fun ops vs S w' A f g=>hend ops vs w' ((show S 12=true->(Qng w6 fr y x v) (vs 25) w' from g 25 (by kernel_rfl)) (A 12 (by decide))) (g 27 (by kernel_rfl)) (f.fin (A 12 (by decide)))
 case hA =>
  refine⟨fun S a w o s p f g K h=>?_,?_⟩
  ·obtain⟨d,-⟩:=g
   have d:a.tmps.getD 0 undef=Pv b 0:=d;go_simp;exact h _ _ (fun t _ j=>Qgo (by decide) (i:=0) (Zk.refl _ _) (fun _=>rfl) j) (f.onS (i:=0) (by decide)) Yz
  refine⟨fun S a w o s p f g K h=>?_,?_⟩
  ·obtain⟨d,-⟩:=g
   have d:a.tmps.getD 0 undef=Pv b 0:=d;go_simp;exact h _ _ (fun t _ j=>Qgo (by decide) (i:=1) (Zk.refl _ _) (fun _=>rfl) j) (f.onS (i:=1) (by decide)) Yz
  refine⟨fun S a w o s p f g K h=>?_,?_⟩
  ·obtain⟨d,-⟩:=g
   have d:a.tmps.getD 14 undef=Pv b 0:=d;go_simp;exact h _ _ (fun t _ j=>Qgo (by decide) (i:=2) (Zk.refl _ _) (fun _=>rfl) j) (f.onS (i:=2) (by decide)) Yz
  refine⟨fun S a w o s p f g K h=>?_,?_⟩
  ·obtain⟨d,-⟩:=g
   have d:a.tmps.getD 15 undef=Pv b 0:=d;go_simp;exact h _ _ (fun t _ j=>Qgo (by decide) (i:=3) (Zk.refl _ _) (fun _=>rfl) j) (f.onS (i:=3) (by decide)) Yz
  refine⟨fun S a w o s p f g K h=>?_,?_⟩
  ·obtain⟨d,-⟩:=g
   have l:S 12=false:=Qfq p (q:=12) Yz (by kernel_rfl) o;have r:=f.pre l;have d:a.tmps.getD 16 undef=Pv b 4:=d;have W:=Qk q4 r;go_simp;exact h _ _ (fun t _ j=>Qgo (by decide) (i:=4) (Zk.refl _ _) (fun _=>rfl) j) (f.onS (i:=4) (by decide)) Yz
  refine⟨fun S a w o s p f g K h=>?_,?_⟩
  ·obtain⟨d,-⟩:=g
   have d:a.tmps.getD 1 undef=Pv c 0:=d;go_simp;exact h _ _ (fun t _ j=>Qgo (by decide) (i:=5) (Zk.refl _ _) (fun _=>rfl) j) (f.onS (i:=5) (by decide)) Yz
  refine⟨fun S a w o s p f g K h=>?_,?_⟩
  ·obtain⟨d,-⟩:=g
   have d:a.tmps.getD 5 undef=Pv X 0:=d;go_simp;exact h _ _ (fun t _ j=>Qgo (by decide) (i:=6) (Zk.refl _ _) (fun _=>rfl) j) (f.onS (i:=6) (by decide)) Yz
  refine⟨fun S a w o s p f g K h=>?_,?_⟩
  ·obtain⟨d,-⟩:=g
   have l:S 12=false:=Qfq p (q:=12) Yz (by kernel_rfl) o;have r:=f.pre l;have d:a.tmps.getD 19 undef=Pv X 4:=d;have W:=Qk x4 r;go_simp;exact h _ _ (fun t _ j=>Qgo (by decide) (i:=7) (Zk.refl _ _) (fun _=>rfl) j) (f.onS (i:=7) (by decide)) Yz
  refine⟨fun S a w o s p f g K h=>?_,?_⟩
  ·obtain⟨d,-⟩:=g
   have d:a.tmps.getD 5 undef=Pv X 0:=d;go_simp;exact h _ _ (fun t _ j=>Qgo (by decide) (i:=8) (Zk.refl _ _) (fun _=>rfl) j) (f.onS (i:=8) (by decide)) Yz
  refine⟨fun S a w o s p f g K h=>?_,?_⟩
  ·obtain⟨d,-⟩:=g
   have l:S 12=false:=Qfq p (q:=12) Yz (by kernel_rfl) o;have r:=f.pre l;have d:a.tmps.getD 21 undef=Pv X 7:=d;have W:=Qk C r;go_simp;exact h _ _ (fun t _ j=>Qgo (by decide) (i:=9) (Zk.refl _ _) (fun _=>rfl) j) (f.onS (i:=9) (by decide)) Yz
  refine⟨fun S a w o s p f g K h=>?_,?_⟩
  ·obtain⟨d,B,V,-⟩:=g
   have l:S 12=false:=Qfq p (q:=12) Yz (by kernel_rfl) o;have r:=f.pre l;have d:a.tmps.getD 18 undef=Pv c 0:=d;have B:a.tmps.getD 20 undef=Iv (fi:Int):=B;have V:a.tmps.getD 22 undef=.slice pa G ca:=V;go_simp;refine Xm (CB.out w r) ?_;rintro r7 w7 ⟨k7,C,H,rfl,U,h2,h3,b7⟩;go_simp;exact h _ _ (fun t _ j=>Qgo (by decide) (i:=10) (Zk.below b7) (fun e=>by rw[l] at e;cases e) j) (f.onB hP (i:=10) (by decide) b7) ⟨k7,C,H,Yz,Zt r.size U,Zt r.size h2,h3⟩
  refine⟨fun S a w o s p f g K h=>?_,?_⟩
  ·obtain⟨d,-⟩:=g
   have l:S 12=false:=Qfq p (q:=12) Yz (by kernel_rfl) o;have r:=f.pre l;have d:(Qho w6 fr) (a.tmps.getD 23 undef) w:=d;generalize T:a.tmps.getD 23 undef=aa at d;rw[Za] at T
   have k9:=d;obtain⟨R,C,H,rfl,h9,E,D⟩:=d
   go_simp;exact h _ _ (fun t _ j=>Qgo (by decide) (i:=11) (Zk.below (ZP _ _)) (fun e=>by rw[l] at e;cases e) j) (f.onB hP (i:=11) (by decide) (ZP _ _)) ⟨_,_,Yz,r.size,Qb (Qe _ _ _) 0 _ Yz,k9.z (Zk.below (ZP _ _))⟩
  refine⟨fun S a w o s p f g K h=>?_,?_⟩
  ·obtain⟨d,B,-⟩:=g
   have r:=f.pre o;have d:a.tmps.getD 17 undef=.slice (some ⟨y,0,none⟩) x F:=d;have B:(Qmg w6 fr) (a.tmps.getD 24 undef) w:=B;generalize P:a.tmps.getD 24 undef=ac at B;obtain⟨kx,u7,rfl,h7,h8,R,C,H,rfl,h9,E,D⟩:=B
   obtain⟨i0,I,O,M,N⟩:=wInfoF
   refine QeU w _ _ 66 Yz 130 i0 (.pointer none) 1 8 wUnderF I O M N Yz (by decide) (.slice (some ⟨y,0,none⟩) x F) x v d (hR.out w r) ⟨kx,0,none⟩ 1 1 [Pv R 0] P Yz (Qgs h8) (by intro u hu;simp at hu;subst hu;rfl) (by unfold maxLen;omega) (by omega) ?_;intro v9 w9 r1 L r3;have hz:Zk w6 w w9:=fun Z hZ hl=>L.block Z hl (fun e=>by have:Z=y:=(by simpa[Value.ownBlock] using e);omega);refine h _ _ (fun t hL j=>Qn3 (fun e=>by subst e;have:=Qka hL (by kernel_rfl) (i:=12) (by kernel_rfl);rw[o] at this;cases this) hz j) (WY.did (Zt r.size L.size)) (fun _=>⟨w,R,C,H,r,h9,E,D,r1,L,fun k g=>(r3 k g).imp (fun e=>by simpa[Value.ownBlock] using e.symm) id⟩)
  refine⟨fun S a w o s p f g K h=>?_,?_⟩
  ·obtain⟨d,-⟩:=g
   have d:a.tmps.getD 13 undef=Pv b 0:=d;go_simp;exact h _ _ (fun t _ j=>Qgo (by decide) (i:=13) (Zk.refl _ _) (fun _=>rfl) j) (f.onS (i:=13) (by decide)) Yz
  refine⟨fun S a w o s p f g K h=>?_,?_⟩
  ·obtain⟨d,-⟩:=g
   have d:a.tmps.getD 26 undef=Pv b 0:=d;go_simp;exact h _ _ (fun t _ j=>Qgo (by decide) (i:=14) (Zk.refl _ _) (fun _=>rfl) j) (f.onS (i:=14) (by decide)) Yz
  trivial
def RM.nx (R:RM):RM:={ R with top:={ R.top with i:=R.top.i+1 } }
def Qdj (g:WG) (w:World) (b most:Nat) (m:List (MFunc 6)) (r:RM) (e:Ending) (w':World):Prop :=
 (∃ N,r=N.nx/\e=.returned (.tuple #[])/\WTo g w w' b most m N)\/(∃ N k,r=N.over k/\e=.panicked (Qdy k)/\WTo g w w' b most m N)
section
variable {w w' w2:World}{b most n:Nat}{m:List (MFunc 6)}{R R' r:RM}{g g1:WG}
theorem Qdj.then {e:Ending}(T:WSt g g1 w w2) (f:g1.t.c=g.t.c) (h:g1.fs=g.fs) (H:Qdj g1 w2 b most m r e w'):Qdj g w b most m r e w':=by
 rcases H with ⟨N,a,c,d⟩|⟨N,k,a,c,d⟩
 ·exact .inl ⟨N,a,c,WTo.then T f h d⟩
 ·exact .inr ⟨N,k,a,c,WTo.then T f h d⟩
theorem Qdj.cases {e:Ending}(h:Qdj g w b most m r e w'):(e=.returned (.tuple #[])\/∃ ch,e=.panicked ch):=by
 rcases h with ⟨N,a,c,d⟩|⟨N,k,a,c,d⟩
 ·exact .inl c
 ·exact .inr ⟨_,c⟩
theorem WAt.wordAt (S:WAt w b most m R g){k a:Int}(h:iAt R.top.v k=some a):∃ (j i o:Nat) (c:Nat),k=(j:Int)/\(j:Int)<(R.top.v.length:Nat)/\w.cell? ⟨g.t.c,3,none⟩=some (.slice (some ⟨i,0,none⟩) R.top.v.length c)/\w.cell? ⟨i,j,none⟩=some (Iv a):=by
 obtain⟨j,rfl,p,f⟩:=Qll h
 have F:=S.top;obtain⟨q,d,l,e⟩:=F.2.cell
 obtain⟨i,rfl,-,n⟩:=e j p
 refine⟨j,i,0,d,Z,by omega,?_,by rw[f];exact n⟩
 rw[<-l];exact Qb F.1 3 _ Z
theorem WAt.makesC (S:WAt w b most m R g)(h:w.cell? ⟨k,0,none⟩=some (Iv x)) (a:R.top.v.length+1<=1000000) :
 Calls prog 169 #[Pv g.t.c 0,.slice (some ⟨k,0,none⟩) 1 1] w fun e w'=>e=.returned (.tuple #[])/\WTo g w w' b most m (R.push [x]) :=
 Qb8 S (l:=[x]) Z (Qgs h) a
theorem Qz.zk {w w':World}(h:Qz O O' w w') (a:∀ x,O x->x<w6.heap.size):Zk w6 w w':=fun Z c b=>h.block Z b (fun e=>by have:=a Z e;omega)
theorem Qnr (S:WAt w b most m R g) (I:ROk m n R) (J:n<=900000){x:Qt}(d:IP) (h:x.op=1) (a:RM.ins aOp R x=some r) :
 Calls prog 114 #[Pv b 0,Pv g.t.c 0,.agg (Zq x d)] w fun e w'=>Qdj g w b most m r e w':=by
 have i:=Qc (ZP w (.cells (Zq x d) 78));have f:=Qc (Qe w (Zq x d) 78);have o:=Qc (S.below i.out);have k:=Qc (S.stepB i.out);have y:R.top.v.length+1<=1000000:=by have:=(I.fr R.top (by simp)).1;omega
 have l:=I.out.1;have q:=I.inp;clear S I;go_enter func114,ntmps114
 go_upto_region 1 with fail
 generalize w.alloc (.cells (Zq x d) 78)=G at i f o k |-;generalize w.heap.size=X at f |-;obtain⟨j,s,F,u,A,B,D,z⟩:=Q7 f.out
 rw[h] at j
 have E:Hid (r=(R.push [x.n]).nx):=by show _=_;unfold RM.ins at a;simp only[h,if_true] at a;cases a;rfl
 have C:=Qc (Qb0 o.out x.n y);clear s F u A D z a h;go_wp2_with fail
 refine C.out.mono ?_;rintro H K ⟨rfl,p⟩;have Z:=Qc (WTo.then k.out Yz Yz p);clear p C B j;go_wp2
 exact Xz (v:=.tuple #[]) (by simp[results,results114,go_sem]) Yz (.inl ⟨_,E.out,Yz,Z.out⟩)
theorem Qni (S:WAt w b most m R g) (I:ROk m n R) (hn:n<=900000){x:Qt}(o:IP) (h:x.op=3) (J:RM.ins aOp R x=some r) :
 Calls prog 114 #[Pv b 0,Pv g.t.c 0,.agg (Zq x o)] w fun e w'=>Qdj g w b most m r e w':=by
 have B:=Qc (ZP w (.cells (Zq x o) 78));have q:=Qc (Qe w (Zq x o) 78);have s:=Qc (S.below B.out);have p:=Qc (S.stepB B.out);have Q:R.top.v.length+1<=1000000:=by have:=(I.fr R.top (by simp)).1;omega
 have F:=I.out.1;have M:=I.inp;clear S I;go_enter func114,ntmps114
 go_upto_region 1 with fail
 generalize w.alloc (.cells (Zq x o) 78)=w1 at B q s p |-;generalize w.heap.size=X at q |-;obtain⟨D,O,x2,P,V,W,x6,U⟩:=Q7 q.out
 rw[h] at D
 have E:Hid (some r=if 0<=R.e.openK then some (({ R with e:=R.e.opened }:RM).on [R.e.openK]) else some (R.over 6)):=by show _=_;rw[<-J];unfold RM.ins;simp[h]
 have C:=Qc s.out.openC;have N:=s.out.cellE;clear O x2 P V W x6 U J h;by_cases f:0<=R.e.openK
 ·have k:Hid (r=(RM.push { R with e:=R.e.opened } [R.e.openK]).nx):=by show _=_;have:=E.out;rw[Xs f] at this;cases this;rfl
  have A:decide (R.e.openK>=0)=true:=by simpa using f
  clear E f;obtain⟨d,a⟩:∃ d,R.e.openK=d:=⟨_,Yz⟩
  rw[a] at C k A
  clear a;go_upto_region 12 with (first | (go_at_call 170;refine C.out.mono ?_;rintro l T ⟨rfl,j⟩) | (go_at_call 111;refine(QaC _ _).mono ?_;rintro l w' ⟨rfl,i⟩;have i:=i.symm;subst i))
  obtain⟨g2,G,K,z,L⟩:=j
  have u:=Qc (Qb0 G d Q);rw[z] at u
  have y:=Qc (Xh (p.out.trans K) (Xh z L));clear G K z L C N;go_wp2_with fail
  refine u.out.mono ?_;rintro l w5 ⟨rfl,H⟩;have Z:=Qc (WTo.then y.out.1 y.out.2.1 y.out.2.2 H);clear H u D;go_wp2
  exact Xz (v:=.tuple #[]) (by simp[results,results114,go_sem]) Yz (.inl ⟨_,k.out,Yz,Z.out⟩)
 ·have k:Hid (r=R.over 6):=by show _=_;have:=E.out;rw[Xr f] at this;cases this;rfl
  have A:decide (R.e.openK>=0)=false:=by simpa using f
  have EO:Hid (R.e.opened=R.e):=by
   show _=_;unfold Est.opened;rw[Xs (by omega)]
  clear E f;obtain⟨d,a⟩:∃ d,R.e.openK=d:=⟨_,Yz⟩
  rw[a] at C A
  clear a;go_wp2_with (go_at_call 170;refine C.out.mono ?_;rintro l T ⟨rfl,j⟩)
  refine(Z4 _ _).mono ?_
  rintro l w' ⟨rfl,i⟩;subst i;rw[EO.out] at j
  exact⟨Yz,.inr ⟨R,6,k.out,Yz,WTo.then p.out Yz Yz j⟩⟩
theorem QmB (S:WAt w b most m R g) (I:ROk m n R) (hn:n<=900000){x:Qt}(f:IP) (h:x.op=12) (a:RM.ins aOp R x=some r) :
 Calls prog 114 #[Pv b 0,Pv g.t.c 0,.agg (Zq x f)] w fun e w'=>Qdj g w b most m r e w':=by
 have u:=Qc (ZP w (.cells (Zq x f) 78));have j:=Qc (Qe w (Zq x f) 78);have A:=Qc (S.below u.out);have i:=Qc (S.stepB u.out);have P:R.top.v.length+1<=1000000:=by have:=(I.fr R.top (by simp)).1;omega
 have z:=I.out.1;have N:=I.inp;clear S I;go_enter func114,ntmps114
 go_upto_region 1 with fail
 generalize w.alloc (.cells (Zq x f) 78)=U at u j A i |-;generalize w.heap.size=X at j |-;obtain⟨y,D,O,E,H,L,M,G⟩:=Q7 j.out
 rw[h] at y
 have C:=Qc (QfT A.out (by omega));unfold Qnv at C
 cases hi:R.inp with
 | nil =>
   rw[hi] at C
   have q:Hid (r=R.over 4):=by show _=_;unfold RM.ins at a;simp[h,hi] at a;exact a.symm
   clear D O E H L M G a h hi;go_wp2_with fail
   refine C.out.mono ?_;rintro F T ⟨rfl,d⟩;exact⟨Yz,.inr ⟨R,4,q.out,Yz,WTo.then i.out Yz Yz d⟩⟩
 | cons k l =>
   rw[hi] at C
   have q:Hid (r=(RM.push { R with inp:=l } [k]).nx):=by show _=_;unfold RM.ins at a;simp[h,hi] at a;exact a.symm
   clear D O E H L M G a h hi;go_wp2_with (go_at_call 174;refine C.out.mono ?_;rintro F V ⟨rfl,Q⟩)
   obtain⟨W,B,J,s,K⟩:=Q
   have o:=Qc (Qb0 B k P);rw[s] at o
   have p:=Qc (Xh (i.out.trans J) (Xh s K));clear B J s K C;refine o.out.mono ?_;rintro F T ⟨rfl,d⟩;have Z:=Qc (WTo.then p.out.1 p.out.2.1 p.out.2.2 d);clear d o y;go_wp2
   exact Xz (v:=.tuple #[]) (by simp[results,results114,go_sem]) Yz (.inl ⟨_,q.out,Yz,Z.out⟩)
end
section
variable {w w' w2:World}{b most n:Nat}{m:List (MFunc 6)}{R R' r:RM}{g g1:WG}
theorem Qnk (S:WAt w b most m R g) (I:ROk m n R) (hn:n<=900000){x:Qt}(o:IP) (h:x.op=4) (k:RM.ins aOp R x=some r) :
 Calls prog 114 #[Pv b 0,Pv g.t.c 0,.agg (Zq x o)] w fun e w'=>Qdj g w b most m r e w':=by
 have p:=Qc (ZP w (.cells (Zq x o) 78));have s:=Qc (Qe w (Zq x o) 78);have i:=Qc (S.below p.out);have q:=Qc (S.stepB p.out);have hl:R.top.v.length+1<=1000000:=by have:=(I.fr R.top (by simp)).1;omega
 have z:=I.out.1;have D:=I.inp;clear S I;go_enter func114,ntmps114
 go_upto_region 1 with fail
 generalize w.alloc (.cells (Zq x o) 78)=w1 at p s i q |-;generalize w.heap.size=X at s |-;obtain⟨F,A,W,J,Q,T,U,P⟩:=Q7 s.out
 rw[h] at F
 obtain⟨a,l⟩:∃ a,iAt R.top.v x.a=some a:=by
  unfold RM.ins at k
  cases l:iAt R.top.v x.a with
  | none=>simp[h,l] at k
  | some a=>exact⟨a,Yz⟩
 have N:Hid (r=RM.nx { R with e:=R.e.shut a }):=by show _=_;unfold RM.ins at k;simp[h,l] at k;rw[<-k];simp[RM.on,RM.nx]
 obtain⟨j,ri,-,c,E,L,O,V⟩:=i.out.wordAt l
 rw[E] at A
 have H:=i.out.cellE;clear W J Q T U P k h l E;go_upto_region 14 with fail
 refine QnS H O A L V _ _ Yz (Xg (by kernel_rfl)) Yz Yz Yz ?_;rintro y G w5 f d u;show wpList _ y _ [_] (QM _ G [68,69,70,71,72,73,74,75,76,77,78,79]) w5;simp only[QM,Act.put,List.setIfInBounds_toArray,List.set_cons_zero,List.set_cons_succ,f,d]
 have M:=Qc (i.out.below u);have K:=Qc (q.out.trans (i.out.stepB u));clear f d u i q p;have C:=Qc (M.out.shutC a);go_wp2_with (go_at_call 171;refine C.out.mono ?_;rintro e' w2 ⟨rfl,B⟩;have Z:=Qc (WTo.then K.out Yz Yz B);clear B C)
 exact Xz (v:=.tuple #[]) (by simp[results,results114,go_sem]) Yz (.inl ⟨_,N.out,Yz,Z.out⟩)
theorem Qmf (S:WAt w b most m R g) (I:ROk m n R) (hn:n<=900000){x:Qt}(s:IP) (h:x.op=13) (i:RM.ins aOp R x=some r) :
 Calls prog 114 #[Pv b 0,Pv g.t.c 0,.agg (Zq x s)] w fun e w'=>Qdj g w b most m r e w':=by
 have u:=Qc (ZP w (.cells (Zq x s) 78));have A:=Qc (Qe w (Zq x s) 78);have o:=Qc (S.below u.out);have z:=Qc (S.stepB u.out);have hl:R.top.v.length+1<=1000000:=by have:=(I.fr R.top (by simp)).1;omega
 have l:=I.out.1;have H:=I.inp;clear S I;go_enter func114,ntmps114
 go_upto_region 1 with fail
 generalize w.alloc (.cells (Zq x s) 78)=w1 at u A o z |-;generalize w.heap.size=X at A |-;obtain⟨K,F,x2,N,U,V,W,T⟩:=Q7 A.out
 rw[h] at K
 obtain⟨a,k⟩:∃ a,iAt R.top.v x.a=some a:=by
  unfold RM.ins at i
  cases k:iAt R.top.v x.a with
  | none=>simp[h,k] at i
  | some a=>exact⟨a,Yz⟩
 have D:Hid (r=if R.out.length<2000 then RM.nx { R with out:=R.out++[a] } else R.over 8):=by
  show _=_;unfold RM.ins at i;by_cases p:R.out.length<2000
  ·simp[h,k,p] at i;rw[Xs p,<-i];simp[RM.on,RM.nx]
  ·simp[h,k,p] at i;rw[Xr p];exact i.symm
 obtain⟨j,ri,-,c,J,O,Q,ck⟩:=o.out.wordAt k
 rw[J] at F
 clear x2 N U V W T i h k J;go_upto_region 22 with fail
 refine Qn6 Q F O ck _ _ Yz (Xg (by kernel_rfl)) Yz Yz Yz ?_;rintro E L w5 d f B;show wpList _ E _ [_] (QM _ L [132,133,134,135,136,137,138,139,140]) w5;simp only[QM,Act.put,List.setIfInBounds_toArray,List.set_cons_zero,List.set_cons_succ,d,f]
 have P:=Qc (o.out.below B);have G:=Qc (z.out.trans (o.out.stepB B));clear d f B o z u;have C:=Qc (Qfv P.out a l);go_wp2_with fail
 refine C.out.mono ?_;rintro e' w2 (⟨y,rfl,q⟩|⟨y,rfl,q⟩)
 ·have M:Hid (r=RM.nx { R with out:=R.out++[a] }):=by show _=_;rw[D.out,Xs y]
  have Z:=Qc (WTo.then G.out Yz Yz q);clear y q C D;go_wp2
  exact Xz (v:=.tuple #[]) (by simp[results,results114,go_sem]) Yz (.inl ⟨_,M.out,Yz,Z.out⟩)
 ·exact⟨Yz,.inr ⟨R,8,by rw[D.out,Xr y],Yz,WTo.then G.out Yz Yz q⟩⟩
theorem Qne (S:WAt w b most m R g) (I:ROk m n R) (hn:n<=900000){x:Qt}(A:IP) (h:x.op=2) (l:RM.ins aOp R x=some r) :
 Calls prog 114 #[Pv b 0,Pv g.t.c 0,.agg (Zq x A)] w fun e w'=>Qdj g w b most m r e w':=by
 have J:=Qc (ZP w (.cells (Zq x A) 78));have D:=Qc (Qe w (Zq x A) 78);have d:=Qc (S.below J.out);have B:=Qc (S.stepB J.out);have Q:R.top.v.length+1<=1000000:=by have:=(I.fr R.top (by simp)).1;omega
 have M:=I.out.1;have aa:=I.inp;clear S I;go_enter func114,ntmps114
 go_upto_region 1 with fail
 generalize w.alloc (.cells (Zq x A) 78)=O at J D d B |-;generalize w.heap.size=X at D |-;obtain⟨L,P,x2,x3,x4,x5,x6,x7⟩:=Q7 D.out
 rw[h] at L
 obtain⟨a,f⟩:∃ a,iAt R.top.v x.a=some a:=by
  unfold RM.ins at l
  cases f:iAt R.top.v x.a with
  | none=>simp[h,f] at l
  | some a=>exact⟨a,Yz⟩
 obtain⟨y,o⟩:∃ y,iAt R.top.v x.b=some y:=by
  unfold RM.ins at l
  cases o:iAt R.top.v x.b with
  | none=>simp[h,f,o] at l
  | some y=>exact⟨y,Yz⟩
 have i:Hid (some r=match aOp x.k a y with | none=>some (R.over 1) | some n=>some (R.on [n])):=by show _=_;rw[<-l];unfold RM.ins;simp[h,f,o];cases aOp x.k a y<;>rfl
 obtain⟨j,ri,-,c,ej,V,G,ck⟩:=d.out.wordAt f
 obtain⟨q,ab,-,c',N,W,p,C⟩:=d.out.wordAt o
 rw[G] at p
 cases p
 rw[ej] at P
 rw[N] at x2
 have u:=Qc (fun H=>QlK x.k a y H);generalize x.k=xk at *;have F:=Qc Q;clear x3 x5 x6 x7 l h f o ej N Q;obtain⟨K,z⟩:∃ K,R.top.v.length=K:=⟨_,Yz⟩
 rw[z] at G V W
 clear z
 cases ho:aOp xk a y with
 | none =>
   rw[ho] at u i
   have E:Hid (r=R.over 1):=by show _=_;have:=i.out;simpa using this
   clear ho i;go_upto_region 6 with fail
   go_quiet ((go_at_call 136;exact Calls.quiet_of_same (u.out _)))
   go_wp2_with fail
   refine(Z4 _ _).mono ?_
   rintro e' w' ⟨rfl,s⟩;subst s;exact⟨Yz,.inr ⟨R,1,E.out,Yz,WTo.then B.out Yz Yz (WTo.same d.out (Qag Zr _))⟩⟩
 | some n =>
   rw[ho] at u i
   have E:Hid (r=(R.push [n]).nx):=by show _=_;have:=i.out;simp at this;rw[this];rfl
   have U:=Qc (fun H (bx:Below O.heap.size O H)=>Qb0 (d.out.below bx) n F.out);clear ho i;go_upto_region 6 with fail
   go_quiet ((go_at_call 136;exact Calls.quiet_of_same (u.out _)))
   go_upto_region 8 with (go_at_call 111;refine(QaC _ _).mono ?_;rintro e' w' ⟨rfl,s⟩;have s:=s.symm;subst s)
   clear u P x2 x4 ck C G V W;go_wp2_with fail
   refine(U.out _ (Qag Zr _)).mono ?_
   rintro e' w5 ⟨rfl,T⟩;have Z:=Qc (WTo.then (B.out.trans (d.out.stepB (Qag Zr _))) Yz Yz T);clear T U L;go_wp2
   exact Xz (v:=.tuple #[]) (by simp[results,results114,go_sem]) Yz (.inl ⟨_,E.out,Yz,Z.out⟩)
end
section
variable {w w' w2:World}{b most n:Nat}{m:List (MFunc 6)}{R R' r:RM}{g g1:WG}
theorem Qnl (S:WAt w b most m R g) (I:ROk m n R) (hn:n<=900000){x:Qt}(B:IP) (h:x.op=5){Q2:Nat->Prop}(hi:IIn w Q2 x B) (h8:x.args.length<=8) (o:RM.ins aOp R x=some r) :
 Calls prog 114 #[Pv b 0,Pv g.t.c 0,.agg (Zq x B)] w fun e w'=>Qdj g w b most m r e w':=by
 have Q:=Qc (ZP w (.cells (Zq x B) 78));have W:=Qc (Qe w (Zq x B) 78);have u:=Qc (S.below Q.out);have T:=Qc (S.stepB Q.out);have hl:R.top.v.length+1<=1000000:=by have:=(I.fr R.top (by simp)).1;omega
 have ae:=I.out.1;have af:=I.inp;clear S I;go_enter func114,ntmps114
 go_upto_region 1 with fail
 generalize w.alloc (.cells (Zq x B) 78)=i at Q W u T |-;generalize w.heap.size=X at W |-;obtain⟨x0,x1,x2,x3,x4,x5,x6,x7⟩:=Q7 W.out
 rw[h] at x0
 obtain⟨a,C⟩:∃ a,iAt R.top.v x.a=some a:=by
  unfold RM.ins at o
  cases C:iAt R.top.v x.a with
  | none=>simp[h,C] at o
  | some a=>exact⟨a,Yz⟩
 obtain⟨d,D⟩:∃ d,QaA R.top.v x.args=some d:=by
  unfold RM.ins at o
  cases D:QaA R.top.v x.args with
  | none=>simp[h,C,D] at o
  | some d=>exact⟨d,Yz⟩
 have N:Hid (r=R.thing a (if d.length=0 then 1 else (d.length:Int)) d):=by show _=_;unfold RM.ins at o;simp[h,C,D] at o;rw[<-o];congr 1;split<;>simp_all
 have V:Hid (d.length=x.args.length):=Qak D;obtain⟨p,y⟩:∃ p,(if d.length=0 then 1 else (d.length:Int))=p:=⟨_,Yz⟩
 rw[y] at N
 have ab:=Qc y;obtain⟨j,ri,-,c,ej,hj,c3,ck⟩:=u.out.wordAt C
 rw[ej] at x1
 have H8:=Qc h8;have CA:Hid (∀ f,Below i.heap.size i f->Calls prog 167 #[Pv g.t.c 0,.slice B.pA x.args.length B.cA] f fun e w'=>Qm1 f d x.args.length e w'):=fun f E=>Qd1 (u.out.top.below E) (by omega) Yz (by have:=H8.out;omega) (Ya (Ya hi.args Q.out) E) D;have F:∀ x,g.A x->x<i.heap.size:=u.out.lt
 have CT:Hid (∀ f k,Below i.heap.size i f->i.heap.size<=k->QbE f (.slice (some ⟨k,0,none⟩) x.args.length x.args.length) d->Calls prog 172 #[Pv b 0,Iv a,.slice (some ⟨k,0,none⟩) x.args.length x.args.length] f fun e w'=>(e=.returned (Iv (R.e.getAt a p))/\(R.e.getCode a p=0/\WTo g i w' b most m (R.thinged a p d))/\Zk i f w')\/(∃ ch,e=.panicked ch/\(ch=Qdy 6/\R.e.getCode a p≠0/\WTo g i w' b most m R))):=fun f k E hk hR=>by
  have aa:g.ow k=0:=Xq.1 fun e=>by have:=F k e;omega
  have S6:=u.out.below E
  have HW:=hR.lin (O:=fun x=>g.ow x=0) (fun z hz=>by
   have:z=k:=by simpa[Value.ownBlock] using hz.symm
   rw[this];exact aa)
  have:=Qg6 S6 a V.out (by have:=H8.out;omega) HW
  rw[ab.out] at this
  refine this.mono ?_;rintro e' w' (⟨q,rfl,g2,G,J,K,P⟩|⟨q,rfl,H⟩)
  ·exact .inl ⟨Yz,⟨q,WTo.then (u.out.stepB E) Yz Yz ⟨g2,G,J,K,P⟩⟩,J.zk F⟩
  ·exact .inr ⟨_,Yz,Yz,q,WTo.then (u.out.stepB E) Yz Yz H⟩
 have HL:=Qc hl;clear x2 x3 x4 x5 x6 o h C ej D hi h8 y hl;go_upto_region 16 with fail
 refine Qn7 (fun w h=>h.2.choose_spec.2.1.size) c3 x1 hj ck x7 CA CT (fun w w' h b=>by obtain⟨w5,M,h6⟩:=h;exact⟨w5,M,h6.trans (b.mono h6.size)⟩) _ _ Yz (Xg (by kernel_rfl)) Yz Yz Yz ?_ ?_
 ·rintro ch a' w9 ad ⟨rfl,q,H⟩;exact⟨ad,.inr ⟨R,6,by rw[N.out];unfold RM.thing;rw[Xr q],Yz,WTo.then T.out Yz Yz H⟩⟩
 ·rintro ac vs w9 l ⟨k,s,hk,L⟩ ⟨w5,⟨q,H⟩,U⟩;show wpList _ ac _ [_] (QM _ vs [83,84,85,86,87,88,89,90,91,92,93,94,95,96,97,98]) w9;simp only[QM,Act.put,List.setIfInBounds_toArray,List.set_cons_zero,List.set_cons_succ,l,s]
  have E3:Hid (r=((R.thinged a p d).push [R.e.getAt a p]).nx):=by show _=_;rw[N.out];unfold RM.thing;rw[Xs q];rfl
  obtain⟨g2,G,J,K,P⟩:=H
  have C5:=Qc ((G.below U).makesC L HL.out);rw[K] at C5
  have T5:=Qc (Xh (T.out.trans (J.trans (G.stepB U))) (Xh K P));clear q l s L hk G J K P U CA CT c3 ck x1 x7 N;go_wp2_with fail
  refine C5.out.mono ?_;rintro e' w7 ⟨rfl,M⟩;have Z:=Qc (WTo.then T5.out.1 T5.out.2.1 T5.out.2.2 M);clear M C5 x0;go_wp2
  exact Xz (v:=.tuple #[]) (by simp[results,results114,go_sem]) Yz (.inl ⟨_,E3.out,Yz,Z.out⟩)
theorem Qnn (S:WAt w b most m R g) (I:ROk m n R) (hn:n<=900000){x:Qt}(O:IP) (h:x.op=8) (f:RM.ins aOp R x=some r) :
 Calls prog 114 #[Pv b 0,Pv g.t.c 0,.agg (Zq x O)] w fun e w'=>Qdj g w b most m r e w':=by
 have B1:=Qc (ZP w (.cells (Zq x O) 78));have V:=Qc (Qe w (Zq x O) 78);have l:=Qc (S.below B1.out);have U:=Qc (S.stepB B1.out);have hl:R.top.v.length+1<=1000000:=by have:=(I.fr R.top (by simp)).1;omega
 have ac:=I.out.1;have ad:=I.inp;clear S I;go_enter func114,ntmps114
 go_upto_region 1 with fail
 generalize w.alloc (.cells (Zq x O) 78)=B at B1 V l U |-;generalize w.heap.size=X at V |-;obtain⟨x0,W,x2,x3,x4,x5,x6,x7⟩:=Q7 V.out
 rw[h] at x0
 obtain⟨a,s⟩:∃ a,iAt R.top.v x.a=some a:=by
  unfold RM.ins at f
  cases s:iAt R.top.v x.a with
  | none=>simp[h,s] at f
  | some a=>exact⟨a,Yz⟩
 obtain⟨y,z⟩:∃ y,iAt R.top.v x.b=some y:=by
  unfold RM.ins at f
  cases z:iAt R.top.v x.b with
  | none=>simp[h,s,z] at f
  | some y=>exact⟨y,Yz⟩
 have L:Hid (r=if 0<=y/\y<=15 then R.thing a (y+1) [y] else R.over 3):=by
  show _=_;unfold RM.ins at f;by_cases J:0<=y/\y<=15
  ·simp[h,s,z,J] at f;rw[Xs J];exact f.symm
  ·simp only[h,s,z] at f;simp[J] at f;rw[Xr J];exact f.symm
 obtain⟨j,ri,-,c,ej,hj,c3,ck⟩:=l.out.wordAt s
 obtain⟨q,ae,-,c',eq,hq,E,C⟩:=l.out.wordAt z
 rw[c3] at E
 cases E
 rw[ej] at W
 rw[eq] at x2
 have T:∀ x,g.A x->x<B.heap.size:=l.out.lt
 have CT:Hid (∀ N,Below B.heap.size B N->Calls prog 173 #[Pv b 0,Iv a,Iv y] N fun e w'=>(e=.returned (Iv (R.e.getAt a (y+1)))/\(r=((R.thinged a (y+1) [y]).push [R.e.getAt a (y+1)]).nx/\WTo g B w' b most m (R.thinged a (y+1) [y]))/\Zk B N w')\/(∃ ch,e=.panicked ch/\(∃ k,ch=Qdy k/\r=R.over k/\WTo g B w' b most m R))):=fun N Q=>by
  refine(QgY (l.out.below Q) a y).mono ?_
  rintro e' w' (⟨P,u,⟨p,rfl,g2,D,F,G,M⟩|⟨p,rfl,o⟩⟩|⟨P,rfl,o⟩)
  ·exact .inl ⟨Yz,⟨by rw[L.out,Xs ⟨P,u⟩];unfold RM.thing;rw[Xs p];rfl,WTo.then (l.out.stepB Q) Yz Yz ⟨g2,D,F,G,M⟩⟩,F.zk T⟩
  ·exact .inr ⟨_,Yz,6,Yz,by rw[L.out,Xs ⟨P,u⟩];unfold RM.thing;rw[Xr p],WTo.then (l.out.stepB Q) Yz Yz o⟩
  ·exact .inr ⟨_,Yz,3,Yz,by rw[L.out,Xr P],WTo.then (l.out.stepB Q) Yz Yz o⟩
 have HL:=Qc hl;clear x3 x4 x5 x6 x7 f h s z ej eq hl;go_upto_region 18 with fail
 refine Qoj (fun w h=>h.2.choose_spec.2.1.size) c3 W hj ck x2 hq C CT (fun w w' h b=>by obtain⟨w5,K,h6⟩:=h;exact⟨w5,K,h6.trans (b.mono h6.size)⟩) _ _ Yz (Xg (by kernel_rfl)) Yz Yz Yz ?_ ?_
 ·rintro ch a' w9 ab ⟨k,rfl,u,p⟩;exact⟨ab,.inr ⟨R,k,u,Yz,WTo.then U.out Yz Yz p⟩⟩
 ·rintro aa vs w9 d ⟨k,i,hk,H⟩ ⟨w5,⟨u,p⟩,o⟩;show wpList _ aa _ [_] (QM _ vs [102,103,104,105,106,107,108,109,110,111,112,113,114,115,116,117,118,119,120,121]) w9;simp only[QM,Act.put,List.setIfInBounds_toArray,List.set_cons_zero,List.set_cons_succ,d,i]
  have E3:=Qc u;obtain⟨g2,D,F,G,M⟩:=p
  have C5:=Qc ((D.below o).makesC H HL.out);rw[G] at C5
  have T5:=Qc (Xh (U.out.trans (F.trans (D.stepB o))) (Xh G M));clear u d i H hk D F G M o CT c3 ck C W x2 L;go_wp2_with fail
  refine C5.out.mono ?_;rintro e' w7 ⟨rfl,K⟩;have Z:=Qc (WTo.then T5.out.1 T5.out.2.1 T5.out.2.2 K);clear K C5 x0;go_wp2
  exact Xz (v:=.tuple #[]) (by simp[results,results114,go_sem]) Yz (.inl ⟨_,E3.out,Yz,Z.out⟩)
end
section
variable {w w' w2:World}{b most n:Nat}{m:List (MFunc 6)}{R R' r:RM}{g g1:WG}
theorem QmS (S:WAt w b most m R g) (I:ROk m n R) (hn:n<=900000){x:Qt}(s:IP) (h:x.op=6) (f:R.part x=some r) :
 Calls prog 177 #[Pv b 0,Pv g.t.c 0,.agg (Zq x s)] w fun e w'=>Qdj g w b most m r e w':=by
 obtain⟨a,o⟩:∃ a,iAt R.top.v x.a=some a:=by
  unfold RM.part at f
  cases o:iAt R.top.v x.a with
  | none=>simp[o] at f
  | some a=>exact⟨a,Yz⟩
 have u:=Qc (ZP w (.cells (Zq x s) 78));have q:=Qc (Qe w (Zq x s) 78);have i:=Qc (S.below u.out);have y:=Qc (S.stepB u.out);have G:R.top.v.length+1<=1000000:=by have:=(I.fr R.top (by simp)).1;omega
 clear S I;go_enter func177,ntmps177
 go_upto_region 1 with fail
 generalize w.alloc (.cells (Zq x s) 78)=z at u q i y |-;generalize w.heap.size=X at q |-;obtain⟨p,F,x2,L,B,U,V,T⟩:=Q7 q.out
 rw[h] at p
 obtain⟨j,ri,-,c,J,M,O,ck⟩:=i.out.wordAt o
 rw[J] at F
 have N:Hid (r=(R.push [R.load (wrap64 (a+x.k))]).nx):=by show _=_;unfold RM.part at f;simp[h,o] at f;rw[<-f];rfl
 have W:=Qc G;clear f h o J G x2 L U V T;obtain⟨D,d⟩:∃ D,R.top.v.length=D:=⟨_,Yz⟩
 rw[d] at *
 have K:=Qc d;clear d;go_quiet (fail)
 have l:=Qag (Below.refl z.heap.size z) nq;have E:=Qc (i.out.below l);have Q:=Qc (y.out.trans (i.out.stepB l));replace p:=Qk p l;replace B:=Qk B l;clear F O M ck i y u q;generalize z.drewN nq=w2 at *;clear l;have C:=Qc (QbU E.out (wrap64 (a+x.k)));go_wp2_with (go_at_call 220;refine C.out.mono ?_;rintro P w' ⟨rfl,A⟩;have A:=A.symm;subst A)
 refine(Qb0 E.out _ W.out).mono ?_
 rintro P w5 ⟨rfl,H⟩;have Z:=Qc (WTo.then Q.out Yz Yz H);clear H C p B;go_wp2
 exact Xz (v:=.tuple #[]) (by simp[results,results177,go_sem]) Yz (.inl ⟨_,N.out,Yz,Z.out⟩)
theorem Qly (S:WAt w b most m R g) (I:ROk m n R) (hn:n<=900000){x:Qt}(q:IP) (h:x.op=11) (f:R.part x=some r) :
 Calls prog 177 #[Pv b 0,Pv g.t.c 0,.agg (Zq x q)] w fun e w'=>Qdj g w b most m r e w':=by
 obtain⟨a,k⟩:∃ a,iAt R.top.v x.a=some a:=by
  unfold RM.part at f
  cases k:iAt R.top.v x.a with
  | none=>simp[k] at f
  | some a=>exact⟨a,Yz⟩
 have s:=Qc (ZP w (.cells (Zq x q) 78));have o:=Qc (Qe w (Zq x q) 78);have i:=Qc (S.below s.out);have u:=Qc (S.stepB s.out);have E:R.top.v.length+1<=1000000:=by have:=(I.fr R.top (by simp)).1;omega
 clear S I;go_enter func177,ntmps177
 go_upto_region 1 with fail
 generalize w.alloc (.cells (Zq x q) 78)=y at s o i u |-;generalize w.heap.size=X at o |-;obtain⟨l,D,x2,J,P,T,U,Q⟩:=Q7 o.out
 rw[h] at l
 obtain⟨j,ri,-,c,G,K,M,W⟩:=i.out.wordAt k
 rw[G] at D
 have L:Hid (r=(R.push [R.load a]).nx):=by show _=_;unfold RM.part at f;simp[h,k] at f;rw[<-f];rfl
 have V:=Qc E;clear f h k G E x2 J P T U Q;obtain⟨A,d⟩:∃ A,R.top.v.length=A:=⟨_,Yz⟩
 rw[d] at *
 have H:=Qc d;clear d;go_quiet (fail)
 have p:=Qag (Below.refl y.heap.size y) nq;have B:=Qc (i.out.below p);have O:=Qc (u.out.trans (i.out.stepB p));replace l:=Qk l p;clear D M K W i u s o;generalize y.drewN nq=w2 at *;clear p;have C:=Qc (QbU B.out a);go_wp2_with (go_at_call 220;refine C.out.mono ?_;rintro N w' ⟨rfl,z⟩;have z:=z.symm;subst z)
 refine(Qb0 B.out _ V.out).mono ?_
 rintro N w5 ⟨rfl,F⟩;have Z:=Qc (WTo.then O.out Yz Yz F);clear F C l;go_wp2
 exact Xz (v:=.tuple #[]) (by simp[results,results177,go_sem]) Yz (.inl ⟨_,L.out,Yz,Z.out⟩)
theorem QmF (S:WAt w b most m R g) (I:ROk m n R) (hn:n<=900000){x:Qt}(G:IP) (h:x.op=7) (p:R.part x=some r) :
 Calls prog 177 #[Pv b 0,Pv g.t.c 0,.agg (Zq x G)] w fun e w'=>Qdj g w b most m r e w':=by
 obtain⟨a,z⟩:∃ a,iAt R.top.v x.a=some a:=by
  unfold RM.part at p
  cases z:iAt R.top.v x.a with
  | none=>simp[z] at p
  | some a=>exact⟨a,Yz⟩
 have H:=Qc (ZP w (.cells (Zq x G) 78));have E:=Qc (Qe w (Zq x G) 78);have u:=Qc (S.below H.out);have L:=Qc (S.stepB H.out);have hl:R.top.v.length+1<=1000000:=by have:=(I.fr R.top (by simp)).1;omega
 clear S I;go_enter func177,ntmps177
 go_upto_region 1 with fail
 generalize w.alloc (.cells (Zq x G) 78)=N at H E u L |-;generalize w.heap.size=X at E |-;obtain⟨K,V,J,x3,P,x5,x6,x7⟩:=Q7 E.out
 rw[h] at K
 obtain⟨j,ri,-,c,ej,hj,F,ck⟩:=u.out.wordAt z
 rw[ej] at V
 obtain⟨y,A⟩:∃ y,iAt R.top.v x.b=some y:=by
  unfold RM.part at p
  cases A:iAt R.top.v x.b with
  | none=>simp[h,z, A] at p
  | some y=>exact⟨y,Yz⟩
 obtain⟨q,aa,-,cq,U,hq,D,d⟩:=u.out.wordAt A
 rw[F] at D
 cases D
 rw[U] at J
 have E2:Hid (r=(R.stored (wrap64 (a+x.k)) y).nx):=by show _=_;unfold RM.part at p;simp[h,z,A] at p;rw[<-p];simp[RM.on,RM.nx]
 have ab:=Qc d;clear A U;have HL:=Qc hl;clear p h z ej hl x3 x5 x6 x7;obtain⟨Q,s⟩:∃ Q,R.top.v.length=Q:=⟨_,Yz⟩
 rw[s] at *
 have ac:=Qc s;clear s;go_quiet (fail)
 have f:=Qag (Below.refl N.heap.size N) nq;have B:=Qc (u.out.below f);have T2:=Qc (L.out.trans (u.out.stepB f));replace K:=Qk K f;replace J:=Qk J f;replace P:=Qk P f;replace F:=Qk F f;replace d:=Qk d f;clear V ck u L H E;generalize N.drewN nq=w2 at *;clear f;have W:=B.out.cellE;have qp:=B.out.cellP;go_upto_region 6 with fail
 refine wp6 W qp F P J hq d _ _ Yz (Xg (by kernel_rfl)) Yz Yz Yz Yz ?_;rintro O vs w5 i l o M;show wpList _ O _ [_] (QM _ vs [30,31,32,33,34,35,36,37,38,39,40,41,42,43,44,45,46,47,48]) w5;simp only[QM,Act.put,List.setIfInBounds_toArray,List.set_cons_zero,List.set_cons_succ,i,l,o]
 have S5:=Qc (B.out.below M);have T5:=Qc (T2.out.trans (B.out.stepB M));clear i l o M B T2;have C:=Qc (S5.out.storeC (wrap64 (a+x.k)) y);clear S5 W qp;go_wp2_with (go_at_call 221;refine C.out.mono ?_;rintro e' w7 ⟨rfl,T⟩;have Z:=Qc (WTo.then T5.out Yz Yz T);clear T C)
 exact Xz (v:=.tuple #[]) (by simp[results,results177,go_sem]) Yz (.inl ⟨_,E2.out,Yz,Z.out⟩)
theorem QmO (S:WAt w b most m R g) (I:ROk m n R) (hn:n<=900000){x:Qt}(P:IP) (h:x.op=9) (i:R.part x=some r) :
 Calls prog 177 #[Pv b 0,Pv g.t.c 0,.agg (Zq x P)] w fun e w'=>Qdj g w b most m r e w':=by
 obtain⟨a,z⟩:∃ a,iAt R.top.v x.a=some a:=by
  unfold RM.part at i
  cases z:iAt R.top.v x.a with
  | none=>simp[z] at i
  | some a=>exact⟨a,Yz⟩
 have Q:=Qc (ZP w (.cells (Zq x P) 78));have L:=Qc (Qe w (Zq x P) 78);have B:=Qc (S.below Q.out);have V:=Qc (S.stepB Q.out);have hl:R.top.v.length+1<=1000000:=by have:=(I.fr R.top (by simp)).1;omega
 clear S I;go_enter func177,ntmps177
 go_upto_region 1 with fail
 generalize w.alloc (.cells (Zq x P) 78)=w1 at Q L B V |-;generalize w.heap.size=X at L |-;obtain⟨K,x1,E,x3,x4,x5,x6,x7⟩:=Q7 L.out
 rw[h] at K
 obtain⟨j,ri,-,c,ej,hj,D,ck⟩:=B.out.wordAt z
 rw[ej] at x1
 obtain⟨y,C⟩:∃ y,iAt R.top.v x.b=some y:=by
  unfold RM.part at i
  cases C:iAt R.top.v x.b with
  | none=>simp[h,z, C] at i
  | some y=>exact⟨y,Yz⟩
 obtain⟨q,aa,-,cq,eq,hq,G,f⟩:=B.out.wordAt C
 rw[D] at G
 cases G
 rw[eq] at E
 have O:Hid (r=if 0<=y/\y<R.load a then (R.push [R.load (wrap64 (wrap64 (a+1)+y))]).nx else R.over 2):=by
  show _=_;unfold RM.part at i;by_cases d:0<=y/\y<R.load a
  ·simp[h,z,C,d] at i;rw[Xs d,<-i];rfl
  ·simp only[h,z,C] at i;simp[d] at i;rw[Xr d];exact i.symm
 clear C eq;have HL:=Qc hl;clear i h z ej hl x3 x4 x5 x6 x7;obtain⟨vl,A⟩:∃ vl,R.top.v.length=vl:=⟨_,Yz⟩
 rw[A] at *
 have ab:=Qc A;clear A;go_quiet (fail)
 have u:=Qag (Below.refl w1.heap.size w1) nq;have s:=Qc (B.out.below u);have T2:=Qc (V.out.trans (B.out.stepB u));replace K:=Qk K u;replace E:=Qk E u;replace D:=Qk D u;replace f:=Qk f u;clear x1 ck B V Q L;generalize w1.drewN nq=N at *;clear u;have q0:=s.out.cellE;have qp:=s.out.cellP;have CE:Hid (∀ o,Below N.heap.size N o->Calls prog 222 #[Pv b 0,Iv a,Iv y] o fun e w'=>Qlj R a y e/\w'=o):=fun o bx=>Qco (s.out.below bx) a y;have CW:Hid (∀ o k,Below N.heap.size N o->Calls prog 220 #[Pv b 0,Iv k] o fun e w'=>e=.returned (Iv (R.load k))/\w'=o):=fun o k bx=>QbU (s.out.below bx) k;clear q0 qp;by_cases d:0<=y/\y<R.load a
 ·have W:Hid (r=(R.push [R.load (wrap64 (wrap64 (a+1)+y))]).nx):=by show _=_;rw[O.out,Xs d]
  have U:=Qc d;clear d O;go_upto_region 8 with fail
  refine wp8 D E hq f CE CW _ _ Yz (Xg (by kernel_rfl)) Yz Yz Yz Yz ?_ ?_
  ·rintro ch a' w9 J ⟨-,T,-⟩;exact absurd U.out T
  ·rintro H vs w5 l - ⟨k,p,hk,F⟩ M;show wpList _ H _ [_] (QM _ vs [52,53,54,55,56,57,58,59,60,61,62,63,64,65,66]) w5;simp only[QM,Act.put,List.setIfInBounds_toArray,List.set_cons_zero,List.set_cons_succ,l,p]
   have C5:=Qc ((s.out.below M).makesC F HL.out);have T5:=Qc (T2.out.trans (s.out.stepB M));clear l p M s T2 CE CW D E f F hk hq;go_wp2_with fail
   refine C5.out.mono ?_;rintro e' w7 ⟨rfl,h7⟩;have Z:=Qc (WTo.then T5.out Yz Yz h7);clear h7 C5 K;go_wp2
   exact Xz (v:=.tuple #[]) (by simp[results,results177,go_sem]) Yz (.inl ⟨_,W.out,Yz,Z.out⟩)
 ·have W:Hid (r=R.over 2):=by show _=_;rw[O.out,Xr d]
  have U:Hid (¬ (0<=y/\y<R.load a)):=d;clear d O;go_upto_region 8 with fail
  refine wp8 D E hq f CE CW _ _ Yz (Xg (by kernel_rfl)) Yz Yz Yz Yz ?_ ?_
  ·rintro ch a' w9 J ⟨rfl,T,b9⟩;exact⟨J,.inr ⟨R,2,W.out,Yz,WTo.then T2.out Yz Yz (WTo.same s.out b9)⟩⟩
  ·rintro H vs w5 l ⟨T,-⟩ _ M;exact absurd T U.out
theorem QlJ (S:WAt w b most m R g) (I:ROk m n R) (hn:n<=900000){x:Qt}(V:IP) (h:x.op=10) (d:R.part x=some r) :
 Calls prog 177 #[Pv b 0,Pv g.t.c 0,.agg (Zq x V)] w fun e w'=>Qdj g w b most m r e w':=by
 obtain⟨a,u⟩:∃ a,iAt R.top.v x.a=some a:=by
  unfold RM.part at d
  cases u:iAt R.top.v x.a with
  | none=>simp[u] at d
  | some a=>exact⟨a,Yz⟩
 have W:=Qc (ZP w (.cells (Zq x V) 78));have P:=Qc (Qe w (Zq x V) 78);have B:=Qc (S.below W.out);have T1:=Qc (S.stepB W.out);have hl:R.top.v.length+1<=1000000:=by have:=(I.fr R.top (by simp)).1;omega
 clear S I;go_enter func177,ntmps177
 go_upto_region 1 with fail
 generalize w.alloc (.cells (Zq x V) 78)=w1 at W P B T1 |-;generalize w.heap.size=X at P |-;obtain⟨x0,x1,K,H,x4,x5,x6,x7⟩:=Q7 P.out
 rw[h] at x0
 obtain⟨j,ri,-,c,ej,hj,F,ck⟩:=B.out.wordAt u
 rw[ej] at x1
 obtain⟨y,E⟩:∃ y,iAt R.top.v x.b=some y:=by
  unfold RM.part at d
  cases E:iAt R.top.v x.b with
  | none=>simp[h,u, E] at d
  | some y=>exact⟨y,Yz⟩
 obtain⟨q,aa,-,cq,eq,hq,M,i⟩:=B.out.wordAt E
 rw[F] at M
 cases M
 rw[eq] at K
 obtain⟨z,J⟩:∃ z,iAt R.top.v x.c=some z:=by
  unfold RM.part at d
  cases J:iAt R.top.v x.c with
  | none=>simp[h,u,E,J] at d
  | some z=>exact⟨z,Yz⟩
 obtain⟨s,ac,-,cs,es,hs,L,k⟩:=B.out.wordAt J
 rw[F] at L
 cases L
 rw[es] at H
 have T:Hid (r=if 0<=y/\y<R.load a then (R.stored (wrap64 (wrap64 (a+1)+y)) z).nx else R.over 2):=by
  show _=_;unfold RM.part at d;by_cases f:0<=y/\y<R.load a
  ·simp[h,u,E,J,f] at d;rw[Xs f,<-d];simp[RM.on,RM.nx]
  ·simp only[h,u,E,J] at d;simp[f] at d;rw[Xr f];exact d.symm
 clear E eq J es;have HL:=Qc hl;clear d h u ej hl x4 x5 x6 x7;obtain⟨vl,G⟩:∃ vl,R.top.v.length=vl:=⟨_,Yz⟩
 rw[G] at *
 have ab:=Qc G;clear G;go_quiet (fail)
 have o:=Qag (Below.refl w1.heap.size w1) nq;have D:=Qc (B.out.below o);have T2:=Qc (T1.out.trans (B.out.stepB o));replace x0:=Qk x0 o;replace K:=Qk K o;replace H:=Qk H o;replace F:=Qk F o;replace i:=Qk i o;replace k:=Qk k o;clear x1 ck B T1 W P;generalize w1.drewN nq=w2 at *;clear o;have q0:=D.out.cellE;have qp:=D.out.cellP;have CE:Hid (∀ U,Below w2.heap.size w2 U->Calls prog 222 #[Pv b 0,Iv a,Iv y] U fun e w'=>Qlj R a y e/\w'=U):=fun U bx=>Qco (D.out.below bx) a y;by_cases f:0<=y/\y<R.load a
 ·have E3:Hid (r=(R.stored (wrap64 (wrap64 (a+1)+y)) z).nx):=by show _=_;rw[T.out,Xs f]
  have HC:=Qc f;clear f T;go_upto_region 10 with fail
  refine QnE q0 qp F K hq i H hs k CE _ _ Yz (Xg (by kernel_rfl)) Yz Yz Yz Yz ?_ ?_
  ·rintro ch a' w9 O ⟨-,h1,-⟩;exact absurd HC.out h1
  ·rintro N vs w5 l ⟨-,p⟩ A Q;show wpList _ N _ [_] (QM _ vs [70,71,72,73,74,75,76,77,78,79,80,81,82,83,84,85,86,87,88,89,90,91,92,93,94,95]) w5;simp only[QM,Act.put,List.setIfInBounds_toArray,List.set_cons_zero,List.set_cons_succ,l,p,A]
   have S5:=Qc (D.out.below Q);have T5:=Qc (T2.out.trans (D.out.stepB Q));clear l p A Q D T2 CE F K H i k hq hs;have C:=Qc (S5.out.storeC (wrap64 (wrap64 (a+1)+y)) z);clear S5 q0 qp;go_wp2_with (go_at_call 221;refine C.out.mono ?_;rintro e' w7 ⟨rfl,h7⟩;have Z:=Qc (WTo.then T5.out Yz Yz h7);clear h7 C)
   exact Xz (v:=.tuple #[]) (by simp[results,results177,go_sem]) Yz (.inl ⟨_,E3.out,Yz,Z.out⟩)
 ·have E3:Hid (r=R.over 2):=by show _=_;rw[T.out,Xr f]
  have HC:Hid (¬ (0<=y/\y<R.load a)):=f;clear f T;go_upto_region 10 with fail
  refine QnE q0 qp F K hq i H hs k CE _ _ Yz (Xg (by kernel_rfl)) Yz Yz Yz Yz ?_ ?_
  ·rintro ch a' w9 O ⟨rfl,h1,b9⟩;exact⟨O,.inr ⟨R,2,E3.out,Yz,WTo.then T2.out Yz Yz (WTo.same D.out b9)⟩⟩
  ·rintro N vs w5 l ⟨h1,-⟩ _ Q;exact absurd h1 HC.out
end
section
variable {w w' w2:World}{b most n:Nat}{m:List (MFunc 6)}{R R' r:RM}{g g1:WG}
def Qm5 (g:WG) (w:World) (b most:Nat) (m:List (MFunc 6)) (R:RM) (f:Nat) (xs:List Int) (e:Ending) (w':World):Prop :=
 (R.rest.length+1<40/\e=.returned (.tuple #[])/\∃ g',WAt w' b most m { R with top:=⟨f,0,0,xs⟩,rest:=R.top::R.rest } g'/\WSt g g' w w'/\g'.fs=g.t::g.fs)\/(¬ R.rest.length+1<40/\e=.panicked (Qdy 5)/\WTo g w w' b most m R)
theorem QiV (S:WAt w b most m R g) (I:ROk m n R) (hn:n<=900000){x:Qt}(u:IP){Q2:Nat->Prop}(hi:IIn w Q2 x u) (h8:x.args.length<=8)(hf:x.k=(f:Int))(P:R.rest.length+1<40->QaA R.top.v x.args=some xs) :
 Calls prog 176 #[Pv b 0,Pv g.t.c 0,.agg (Zq x u)] w fun e w'=>Qm5 g w b most m R f xs e w':=by
 have Q:=Qc (ZP w (.cells (Zq x u) 78));have W:=Qc (Qe w (Zq x u) 78);have d:=Qc (S.below Q.out);have M:=Qc (S.stepB Q.out);have hl:R.top.v.length+1<=1000000:=by have:=(I.fr R.top (by simp)).1;omega
 have K:=I.deep;have O:=Qc (Ya hi.args Q.out);clear S I hi;go_enter func176,ntmps176
 go_upto_region 1 with fail
 generalize w.alloc (.cells (Zq x u) 78)=B at Q W d M O |-;generalize w.heap.size=X at W |-;obtain⟨x0,x1,x2,x3,x4,x5,x6,x7⟩:=Q7 W.out
 rw[hf] at x4
 clear x0 x1 x2 x3 x5 x6;obtain⟨A,dc,z,l,-⟩:=d.out.callsForm
 have G:B.cell? ⟨b,4,none⟩=some g.vc:=Qb d.out.box 4 _ Z;rw[z] at G
 by_cases i:R.rest.length+1<40
 ·have d0:decide (((R.rest.length+1:Nat):Int)<40)=true:=Xt (by omega);have P:=P i;have r:=Qc i
  have HR:Hid (∀ p,Below B.heap.size B p->p.ownsRow 0 130 1 (.slice (some ⟨A,0,none⟩) (R.rest.length+1) dc) (R.rest.length+1) (Qay (g.t::g.fs))):=fun p U=>by
   have:=(d.out.below U).calls
   rwa [z] at this
  have CB:Hid (∀ p,Below B.heap.size B p->Calls prog 216 #[Pv g.t.c 0,Iv (f:Int),Iv 0,.slice u.pA x.args.length u.cA] p fun e w'=>Qmx p ⟨f,0,0,xs⟩ e w'):=fun p U=>QdB (d.out.top.below U) (by omega) Z (by omega) (Ya O.out U) P f 0;have ac:A<B.heap.size:=XC (ZQ d.out.calls (x:=A) (by rw[z];rfl)).choose_spec;have q:Hid (g.vc.ownBlock=some A):=by show _=_;rw[z];rfl
  have H:R.rest.length+1<=100:=by omega
  obtain⟨F,a⟩:∃ F,R.rest.length+1=F:=⟨_,Z⟩
  have aa:=Qc a;rw[a] at G d0 HR H
  clear P i O z l K hl a h8;go_upto_region 2 with (go_at_call 111;refine(QaC _ _).mono ?_;rintro e' w' ⟨rfl,E⟩;have E:=E.symm;subst E)
  refine wc2 HR ac H G x4 x7 CB (fun w w' h b=>Zt h b.size) _ _ Z (Xg (by kernel_rfl)) Z Z Z ?_ ?_
  ·rintro ch a' w9 ad ⟨⟩
  ·rintro ab vs w9 ⟨w5,c5,x5,n5,N,D,C,F5,T,V,r3⟩ o L;obtain⟨v9,j⟩:∃ v9,vs 25=v9:=⟨_,Z⟩
   rw[j] at T r3
   show wpList _ ab _ [_] (QM _ vs [13,14,15,16,17,18,19,20,21,22,23,24,25,26,27]) w9;simp only[QM,Act.put,List.setIfInBounds_toArray,List.set_cons_zero,List.set_cons_succ,j,o]
   have y:=d.out.pushFr N F5 D C (v9:=v9) (w9:=w9) (by rw[aa.out];exact T) (by rw[q.out];exact V) (fun k hk=>by rw[q.out];exact(r3 k hk).imp (fun e=>by rw[e]) id)
   have y:Hid (Qm5 g w b most m R f xs (.returned (.tuple #[])) (w9.setCell ⟨b,4,none⟩ v9)):=by
    obtain⟨g',A',S',E'⟩:=y
    exact .inl ⟨r.out,Z,g',A',M.out.trans S',E'⟩
   have J:A≠b:=fun e=>by
    have h1:=d.out.oc A q.out;rw[e,d.out.ob] at h1
    omega
   have s:w9.heap[b]?=_:=(V.block b (by have:=XC d.out.box;have:=N.size;omega) (fun e=>J (by simpa using e.symm))).trans ((N.block b (XC d.out.box)).trans d.out.box);have c9:w9.cell? ⟨b,4,none⟩=some g.vc:=Qb s 4 _ Z;have z9:=Qj s 4;obtain⟨a9,d9,rfl⟩:=QaR T
   clear j o T V r3 s J F5 N D C CB HR G x4 x7 d M L;go_wp2
   exact Xz (v:=.tuple #[]) (by simp[results,results176,go_sem]) Z y.out
 ·have d0:decide (((R.rest.length+1:Nat):Int)<40)=false:=Xu (by omega);have r:Hid (¬ R.rest.length+1<40):=i;clear i O l K hl z h8;obtain⟨F,a⟩:∃ F,R.rest.length+1=F:=⟨_,Z⟩
  rw[a] at G d0
  clear a;go_wp2_with fail
  refine(Z4 _ _).mono ?_
  rintro e' w' ⟨rfl,E⟩;subst E;exact⟨Z,.inr ⟨r.out,Z,WTo.then M.out Z Z (WTo.same d.out Zr)⟩⟩
end
def Qoe (b gc k cap:Nat) (t:Tmp) (v:Value) (w:World):Prop :=
 v=(([(0,Pv b 0),(13,Pv b 0),(14,Pv b 0),(15,Pv b 0),(16,Pv b 4),(17,.slice (some ⟨gc,0,none⟩) (k+1) cap),(18,Pv b 0),(19,Pv b 0),(20,Pv b 4),(21,.slice (some ⟨gc,0,none⟩) (k+1) cap),(22,Iv ((k:Int)+1)),(23,Iv (k:Int)),(24,.slice (some ⟨gc,0,none⟩) k cap),(25,Pv b 0),(26,Pv b 4)]:List (Tmp × Value)).lookup t).getD undef
theorem wg2 {b g:Nat}(j:w6.cell? ⟨b,4,none⟩=some (.slice (some ⟨g,0,none⟩) (k+1) cap)) (e:k+1<=cap) (q:k<=1000){Q:Exit->Act->World->Prop}
 (a:Act) (m:Nat) (r:a.tmps.size=m) (i:31<=m) (s:a.tmps.getD 0 undef=Pv b 0)
 (hend:∀ ops vs w',vs 24=.slice (some ⟨g,0,none⟩) k cap->vs 26=Pv b 4->Below w6.heap.size w6 w'->wpList prog ops Q (Qam 14 ((Tryz.f166.body.bind (Qi 2)).getD .skip)) (QM a vs [13,14,15,16,17,18,19,20,21,22,23,24,25,26]) w') :
 Code.wp prog ((Tryz.f166.body.bind (Qi 2)).getD .skip) Q a w6:=by
 conv=>arg 2;whnf
 refine Qg 14 (Qoe b g k cap) (fun w=>Below w6.heap.size w6 w) (fun w w'=>Below w.heap.size w w') (outs:=[0]) (gs:=[]) (bs:=[true,true,true,true,true,true,true,true,true,true,true,true,true,true]) (by kernel_rfl) (n:=31) r i (by kernel_rfl) (by kernel_rfl) ?hR ?hG (QI Zr 1) ⟨s,Y⟩ ?hA ?hend
 case hR=>exact fun t v w w' _ h=>h
 case hG=>exact Y
 case hend=>exact fun ops vs w' d e=>hend ops vs w' (e 24 (by kernel_rfl)) (e 26 (by kernel_rfl)) d
 case hA =>
  refine⟨fun a w d e K f=>?_,?_⟩
  ·obtain⟨c,-⟩:=e
   have c:a.tmps.getD 0 undef=Pv b 0:=c;go_simp;exact f _ _ Zr d Z
  refine⟨fun a w d e K f=>?_,?_⟩
  ·obtain⟨c,-⟩:=e
   have c:a.tmps.getD 0 undef=Pv b 0:=c;go_simp;exact f _ _ Zr d Z
  refine⟨fun a w d e K f=>?_,?_⟩
  ·obtain⟨c,-⟩:=e
   have c:a.tmps.getD 14 undef=Pv b 0:=c;go_simp;exact f _ _ Zr d Z
  refine⟨fun a w d e K f=>?_,?_⟩
  ·obtain⟨c,-⟩:=e
   have c:a.tmps.getD 15 undef=Pv b 0:=c;go_simp;exact f _ _ Zr d Z
  refine⟨fun a w d e K f=>?_,?_⟩
  ·obtain⟨c,-⟩:=e
   have c:a.tmps.getD 16 undef=Pv b 4:=c;have p:=Qk j d;go_simp;exact f _ _ Zr d Z
  refine⟨fun a w d e K f=>?_,?_⟩
  ·obtain⟨c,-⟩:=e
   have c:a.tmps.getD 0 undef=Pv b 0:=c;go_simp;exact f _ _ Zr d Z
  refine⟨fun a w d e K f=>?_,?_⟩
  ·obtain⟨c,-⟩:=e
   have c:a.tmps.getD 18 undef=Pv b 0:=c;go_simp;exact f _ _ Zr d Z
  refine⟨fun a w d e K f=>?_,?_⟩
  ·obtain⟨c,-⟩:=e
   have c:a.tmps.getD 19 undef=Pv b 0:=c;go_simp;exact f _ _ Zr d Z
  refine⟨fun a w d e K f=>?_,?_⟩
  ·obtain⟨c,-⟩:=e
   have c:a.tmps.getD 20 undef=Pv b 4:=c;have p:=Qk j d;go_simp;exact f _ _ Zr d Z
  refine⟨fun a w d e K f=>?_,?_⟩
  ·obtain⟨c,-⟩:=e
   have c:a.tmps.getD 21 undef=.slice (some ⟨g,0,none⟩) (k+1) cap:=c;go_simp;exact f _ _ Zr d Z
  refine⟨fun a w d e K f=>?_,?_⟩
  ·obtain⟨c,-⟩:=e
   have c:a.tmps.getD 22 undef=Iv ((k:Int)+1):=c;have x:(k:Int)+1 - 1=k:=by omega
   go_simp;refine f _ _ Zr d ?_;show Value.int _ _=Value.int _ _;congr 1
   rw[IntKind.wrap_i64]
   omega
  refine⟨fun a w d e K f=>?_,?_⟩
  ·obtain⟨c,l,-⟩:=e
   have c:a.tmps.getD 17 undef=.slice (some ⟨g,0,none⟩) (k+1) cap:=c;have l:a.tmps.getD 23 undef=Iv (k:Int):=l;have o:(0:Int)<=k:=by omega
   have u:(k:Int)<=cap:=by omega
   go_simp;exact f _ _ Zr d Z
  refine⟨fun a w d e K f=>?_,?_⟩
  ·obtain⟨c,-⟩:=e
   have c:a.tmps.getD 13 undef=Pv b 0:=c;go_simp;exact f _ _ Zr d Z
  refine⟨fun a w d e K f=>?_,?_⟩
  ·obtain⟨c,-⟩:=e
   have c:a.tmps.getD 25 undef=Pv b 0:=c;go_simp;exact f _ _ Zr d Z
  trivial
def QjI (g:WG) (w:World) (b most:Nat) (m:List (MFunc 6)) (r:RM) (e:Ending) (w':World):Prop :=
 (e=.returned (.tuple #[])/\WGo g w w' b most m r)\/(∃ N k,r=N.over k/\e=.panicked (Qdy k)/\WTo g w w' b most m N)
def RM.gave (R:RM) (l:List Int):RM:=match R.rest with
 | []=>{ R with done:=true,fin:=0,back:=l }
 | d::rest=>{ R with top:={ d with v:=d.v++l },rest:=rest }
section
variable {w w' w2:World}{b most n:Nat}{m:List (MFunc 6)}{R R' r:RM}{g g1:WG}
theorem QjI.then {e:Ending}(T:WSt g g1 w w2) (f:g1.t.c=g.t.c) (h:g1.fs=g.fs) (H:QjI g1 w2 b most m r e w'):QjI g w b most m r e w':=by
 rcases H with ⟨a,d⟩|⟨N,k,a,c,d⟩
 ·exact .inl ⟨a,WGo.then T d⟩
 ·exact .inr ⟨N,k,a,c,WTo.then T f h d⟩
theorem QbE.news {n:Nat}(h:QbE w (.slice (some ⟨k,0,none⟩) n c) xs):∀ (j:Nat) (u:Value),(xs.map (Value.int .i64))[j]?=some u->w.cell? ((⟨k,0,none⟩:Addr).add j)=some u:=fun j u b=>by
 rw[XS] at b
 obtain⟨y,d,rfl⟩:=Option.map_eq_some_iff.1 b
 have l:=(Zi d).1;obtain⟨a,o,e,g⟩:=h.cell
 obtain⟨m,f,-,i⟩:=g j l
 rw[Value.slice.injEq] at e
 have:m=k:=by have:=e.1.trans f;simpa using this.symm
 subst this;rw[Addr.add_lit,XK,i]
 simp[List.getD,d]
theorem QhL (S:WAt w b most m R g){n:Nat}(j:xs.length=n) (d:QbE w (.slice (some ⟨k,0,none⟩) n n) xs) (a:g.ow k=0/\g.lo<=k) :
 Calls prog 215 #[Pv b 0,.slice (some ⟨k,0,none⟩) n n] w fun e w'=>e=.panicked (Qdy 0)/\WTo g w w' b most m { R with back:=xs }:=by
 have i:w.cell? ⟨b,6,none⟩=some g.vb:=Qb S.box 6 _ Yz;have l:=Qj S.box 6;obtain⟨o,p,c,-⟩:=S.back
 have Z:Hid (WTo g w (w.setCell ⟨b,6,none⟩ (.slice (some ⟨k,0,none⟩) n n)) b most m { R with back:=xs }):=by
  subst j;refine S.reBox (R':={ R with back:=xs }) Yz Yz Yz (by simp) (fun k a h=>Xd _ _ _ _ h) ⟨Yz,Yz,Yz,Yz⟩ (pi:=g.pi) (ci:=g.ci) (vb:=.slice (some ⟨k,0,none⟩) xs.length xs.length) ⟨S.inp,S.inpC⟩ (d.lin (fun x f=>?_)) ?_
  ·have:x=k:=by simpa[Value.ownBlock] using f.symm
   rw[this];exact a
  ·rw[Qh S.box 6 _]
   simp
 rw[c] at i
 clear S d a c;go_enter func215,ntmps215
 go_wp2
 exact⟨Yz,Yz,Z.out⟩
theorem Qjt (S:WAt w b most m R g) (hd:R.rest.length<=39) (B:∀ d∈R.rest,d.v.length+8<=1000000){n:Nat}(hn:xs.length=n) (h8:n<=8) (P:QbE w (.slice (some ⟨k,0,none⟩) n n) xs) (N:g.ow k=0/\g.lo<=k) :
 Calls prog 166 #[Pv b 0,.slice (some ⟨k,0,none⟩) n n] w fun e w'=>QjI g w b most m (R.gave xs) e w':=by
 obtain⟨T,cap,F,f,-⟩:=S.callsForm
 have A:w.cell? ⟨b,4,none⟩=some g.vc:=Qb S.box 4 _ Yz;rw[F] at A
 have L:=Qc S
 cases hrest:R.rest with
 | nil =>
   have C:=Qc (QhL S hn P N);have W:Hid (R.gave xs=RM.over { R with back:=xs } 0):=by show _=_;unfold RM.gave RM.over;rw[hrest]
   rw[hrest] at A
   clear S P N hrest f F;go_enter func166,ntmps166
   go_wp2_with fail
   refine C.out.mono ?_;rintro e' w5 ⟨rfl,h5⟩;exact⟨Yz,.inr ⟨_,0,W.out,Yz,h5⟩⟩
 | cons d rest =>
   have W:Hid (R.gave xs=RM.push { R with top:=d,rest:=rest } xs):=by show _=_;unfold RM.gave RM.push;rw[hrest]
   have r:R.rest.length=rest.length+1:=by rw[hrest];simp
   have u:(((R.rest.length+1:Nat):Int)==1)=false:=by simp;omega
   have aa:=B d (by rw[hrest];simp);have q:=Qc hrest;have s:=Qc F;have HR:=Qc P;have HK:=Qc N;clear hrest S P N B F;obtain⟨O,o⟩:∃ O,R.rest.length=O:=⟨_,Yz⟩
   rw[o] at A f u hd
   have z:=Qc o;have Q:=Qc r;clear r o;go_enter func166,ntmps166
   go_upto_region 2 with fail
   refine wg2 A f (by omega) _ _ Yz (Xg (by kernel_rfl)) Yz ?_;rintro X U I l j H;show wpList _ X _ [_] (QM _ U [13,14,15,16,17,18,19,20,21,22,23,24,25,26]) I;simp only[QM,Act.put,List.setIfInBounds_toArray,List.set_cons_zero,List.set_cons_succ,l,j]
   have J:=Qc (L.out.below H);have c4:I.cell? ⟨b,4,none⟩=some g.vc:=Qb J.out.box 4 _ Yz;have z4:=Qj J.out.box 4;rw[s.out] at c4
   have i:∃ y G,g.fs=y::G:=by
    have:=L.out.rows
    rw[q.out] at this
    cases hh:g.fs with
    | nil=>rw[hh] at this;simp at this
    | cons y G=>exact⟨y,G,Yz⟩
   obtain⟨y,G,i⟩:=i
   have PP:=J.out.pop i q.out (a:=some ⟨T,0,none⟩) (cap:=cap) s.out;rw[z.out] at PP
   obtain⟨g8,p,E,t8⟩:=PP
   have p:=Qc p;have E:=Qc ((L.out.stepB H).trans E)
   have h:Hid (QbE (I.setCell ⟨b,4,none⟩ (.slice (some ⟨T,0,none⟩) O cap)) (.slice (some ⟨k,0,none⟩) n n) xs):=Q0 HR.out (fun x K=>by
    have e:x=k:=by simpa[Value.ownBlock] using K.symm
    rw[Xd _ _ _ _ (fun (e2:x=b)=>by have h1:=L.out.ob;rw[<-e2,e,HK.out.1] at h1;omega)]
    exact H.block x (HR.out.lt K))
   clear l j H J A t8 i;go_upto_region 3 with fail
   generalize I.setCell ⟨b,4,none⟩ (.slice (some ⟨T,0,none⟩) O cap)=w8 at p E h |-;have CT:=Qc (Qgu p.out (by show rest.length<=1000;have:=Q.out;have:=z.out;omega))
   have CM:Hid (∀ M,Below w8.heap.size w8 M->Calls prog 169 #[Pv g8.t.c 0,.slice (some ⟨k,0,none⟩) n n] M fun e w'=>e=.returned (.tuple #[])/\WTo g8 M w' b most m (RM.push { R with top:=d,rest:=rest } xs)):=fun M bx =>
    Qb8 (p.out.below bx) hn (QbE.news (Q0 h.out (fun x K=>bx.block x (QbE.lt h.out K)))) (by show d.v.length+n<=1000000;omega)
   clear c4 z4;go_wp2_with (go_at_call 112;refine CT.out.mono ?_;rintro e' w9 ⟨rfl,b9⟩)
   refine(CM.out w9 b9).mono ?_
   rintro e' V ⟨rfl,D⟩;have Z:Hid (WGo g w V b most m (RM.push { R with top:=d,rest:=rest } xs)):=WGo.then (E.out.trans (p.out.stepB b9)) D.go;clear D CM CT b9;go_wp2
   exact Xz (v:=.tuple #[]) (by simp[results,results166,go_sem]) Yz (by rw[W.out];exact .inl ⟨Yz,Z.out⟩)
end
section
variable {w w' w2:World}{b most n:Nat}{m:List (MFunc 6)}{R R' r:RM}{g g1:WG}
theorem QlW {t:MTo}(h:R.to t=some r):∃ l,QaA R.top.v t.args=some l/\r={ R with top:=⟨R.top.f,t.block.toNat,0,l⟩ }:=by
 unfold RM.to at h
 cases hl:QaA R.top.v t.args with
 | none=>rw[hl] at h;cases h
 | some l=>rw[hl] at h;cases h;exact⟨l,Z,Z⟩
theorem QkU (S:WAt w b most m R g) (I:ROk m n R) (hn:n<=900000){p:Nat}{x:ZA}{i:EP}{Q2:Nat->Prop}(EI:EIn w Q2 x i) (hx:x.form p=0) (f:R.endd x=some r) :
 Calls prog 113 #[Pv b 0,Pv g.t.c 0,.agg (QbV x i)] w fun e w'=>QjI g w b most m r e w':=by
 obtain⟨ag,ad,J,aa⟩:=Qe9 hx
 have O:=Qc (ZP w (.cells (QbV x i) 84));have u:=Qc (Qe w (QbV x i) 84);have Q:=Qc (S.below O.out);have T1:=Qc (S.stepB O.out);have hl:R.top.v.length+1<=1000000:=by have:=(I.fr R.top (by simp)).1;omega
 have ae:=I.deep;have ac:Hid (∀ d∈R.rest,d.v.length+8<=1000000):=fun d hd=>by have:=(I.fr d (List.mem_cons_of_mem _ hd)).1;omega
 have L:Hid (∀ (t:MTo) (pr pa:Option Addr) (cr ca:Nat) (r':RM) q,t.form p true=0->QhB w Q2 t pr cr pa ca->Below w.heap.size w q->R.to t=some r'->Calls prog 168 #[Pv g.t.c 0,.agg #[Iv t.block,.slice pr t.regs.length cr,.slice pa t.args.length ca]] q fun e w'=>e=.returned (.tuple #[])/\QjI g w b most m r' (.returned (.tuple #[])) w'):=fun t pr pa cr ca r' q ht hi s he=>by
  obtain⟨l,h1,rfl⟩:=QlW he
  obtain⟨K,E,h4,G⟩:=Qet ht
  obtain⟨bi,af⟩:=Xc K
  refine(Qih (S.below s) (by omega) af (Ya hi.args s) (by omega) h1).mono ?_
  rintro e w' ⟨rfl,h⟩;exact⟨Yz,.inl ⟨Yz,(WTo.then (S.stepB s) Yz Yz h).go⟩⟩
 have o:=Qc EI;have P:=Qc (Xh J aa);have T:Hid (∀ q H,QaA R.top.v x.args=some H->Below w.heap.size w q->Calls prog 167 #[Pv g.t.c 0,.slice i.pA x.args.length i.cA] q fun e w'=>Qm1 q H x.args.length e w'):=fun q H h s=>Qd1 (S.top.below s) (by omega) Yz (by omega) (Ya EI.args s) h;have HS:=Qc S;clear S I EI hx J aa;go_enter func113,ntmps113
 go_upto_region 2 with fail
 generalize w.alloc (.cells (QbV x i) 84)=A at O u Q T1 |-;generalize w.heap.size=X at u |-;have M:A.cell? ⟨X,0,none⟩=some (Iv x.op):=Qb u.out 0 _ Yz;have W:A.cell? ⟨X,1,none⟩=some (Iv x.a):=Qb u.out 1 _ Yz;have x2:A.cell? ⟨X,2,none⟩=some (Iv x.yes.block):=Qb u.out 2 _ Yz;have x3:A.cell? ⟨X,3,none⟩=some (.slice i.pYR x.yes.regs.length i.cYR):=Qb u.out 3 _ Yz;have x4:A.cell? ⟨X,4,none⟩=some (.slice i.pYA x.yes.args.length i.cYA):=Qb u.out 4 _ Yz;have x5:A.cell? ⟨X,5,none⟩=some (Iv x.no.block):=Qb u.out 5 _ Yz;have x6:A.cell? ⟨X,6,none⟩=some (.slice i.pNR x.no.regs.length i.cNR):=Qb u.out 6 _ Yz;have x7:A.cell? ⟨X,7,none⟩=some (.slice i.pNA x.no.args.length i.cNA):=Qb u.out 7 _ Yz;have x8:A.cell? ⟨X,8,none⟩=some (.slice i.pA x.args.length i.cA):=Qb u.out 8 _ Yz;by_cases D:x.op=3
 ·obtain⟨H,B⟩:∃ H,QaA R.top.v x.args=some H:=by
   unfold RM.endd at f
   cases hl:QaA R.top.v x.args with
   | none=>simp[D,hl] at f
   | some l=>exact⟨l,Yz⟩
  have z:Hid (r=R.gave H):=by
   show _=_;unfold RM.endd at f;simp[D,B] at f
   unfold RM.gave
   cases hrest:R.rest with
   | nil=>rw[hrest] at f;simp at f;rw[<-f]
   | cons d rest=>rw[hrest] at f;simp at f;rw[<-f]
  have C:=Qc (T.out A H B O.out);have ab:Hid (H.length=x.args.length):=Qak B;rw[D] at M
  clear L T W x2 x3 x4 x5 x6 x7 f D B o P;go_wp2_with (go_at_call 167;refine C.out.mono ?_;rintro e' w5 ⟨k,rfl,hk,hR,b5⟩)
  have S5:=Q.out.below b5;have U:g.ow k=0/\g.lo<=k:=⟨Xq.1 fun e=>by have:=Q.out.lt _ e;omega,Zt Q.out.low hk⟩;refine(Qjt S5 ae ac.out ab.out ad hR U).mono ?_
  rintro e' w6 hE;have F:=Qc (QjI.then (T1.out.trans (Q.out.stepB b5)) Yz Yz hE);rcases hE with ⟨rfl,-⟩|⟨N,k',-,rfl,-⟩
  ·clear C M x8 S5 hR b5 U hk;go_wp2
   exact Xz (v:=.tuple #[]) (by simp[results,results113,go_sem]) Yz (by rw[z.out];exact F.out)
  ·exact⟨Yz,by rw[z.out];exact F.out⟩
 by_cases E:x.op=2
 ·obtain⟨y,V⟩:∃ y,iAt R.top.v x.a=some y:=by
   unfold RM.endd at f
   cases hl:iAt R.top.v x.a with
   | none=>simp[E,hl] at f
   | some l=>exact⟨l,Yz⟩
  obtain⟨j,ri,-,c,ej,hj,c3,ck⟩:=Q.out.wordAt V
  rw[ej] at W
  rw[E] at M
  by_cases K:y=0
  ·have z:R.to x.no=some r:=by unfold RM.endd at f;simp[E,V,K] at f;exact f
   have d0:(y==0)=true:=by simpa using K
   have C:=Qc (fun q s=>L.out x.no _ _ _ _ r q (P.out.2 E) o.out.no s z);clear L T x2 x3 x4 x8 f D V E z o P ej K;generalize R.top.v.length=vl at *;go_upto_region 4 with fail
   go_quiet (fail)
   go_wp2_with fail
   refine(C.out _ (Qag O.out _)).mono ?_
   rintro e' w5 ⟨rfl,G⟩;have Z:=Qc G;clear G C M W x5 x6 x7 c3 ck;go_wp2
   exact Xz (v:=.tuple #[]) (by simp[results,results113,go_sem]) Yz Z.out
  ·have z:R.to x.yes=some r:=by unfold RM.endd at f;simp[E,V,K] at f;exact f
   have d0:(y==0)=false:=by simpa using K
   have C:=Qc (fun q s=>L.out x.yes _ _ _ _ r q (P.out.1 D) o.out.yes s z);clear L T x5 x6 x7 x8 f D V E z o P ej K;generalize R.top.v.length=vl at *;go_upto_region 4 with fail
   go_quiet (fail)
   go_wp2_with fail
   refine(C.out _ (Qag O.out _)).mono ?_
   rintro e' w5 ⟨rfl,G⟩;have Z:=Qc G;clear G C M W x2 x3 x4 c3 ck;go_wp2
   exact Xz (v:=.tuple #[]) (by simp[results,results113,go_sem]) Yz Z.out
 ·have h1:x.op=1:=by omega
  have z:R.to x.yes=some r:=by unfold RM.endd at f;simp[h1] at f;exact f
  have C:=Qc (fun q s=>L.out x.yes _ _ _ _ r q (P.out.1 D) o.out.yes s z);rw[h1] at M
  clear L T W x5 x6 x7 x8 f D E h1 z o P;go_upto_region 4 with fail
  go_quiet (fail)
  go_wp2_with fail
  refine(C.out _ (Qag O.out _)).mono ?_
  rintro e' w5 ⟨rfl,G⟩;have Z:=Qc G;clear G C M x2 x3 x4;go_wp2
  exact Xz (v:=.tuple #[]) (by simp[results,results113,go_sem]) Yz Z.out
end
section
variable {w w' w2:World}{b most n:Nat}{m:List (MFunc 6)}{M M' N:IM}{sc sa:Int}{g g1:MG}{e:Ending}
theorem vsizeE:(prog.info? 84).map (·.size)=some 9:=by kernel_rfl
end
def Qoi (b fu most:Nat) (t:Tmp) (v:Value) (w:World):Prop :=
 v=(([(0,Pv b 0),(4,Pv b 0),(5,Pv b 0),(6,Pv b 5),(7,Pv b 8),(8,Iv (fu:Int)),(9,Pv b 0),(10,Pv b 0),(11,Pv b 3),(12,Iv (most:Int)),(13,.bool (decide ((fu:Int)<most)))]:List (Tmp × Value)).lookup t).getD undef
theorem ws0 {b fu most:Nat}(j:w6.cell? ⟨b,8,none⟩=some (Iv (fu:Int))) (o:w6.cell? ⟨b,3,none⟩=some (Iv (most:Int))){Q:Exit->Act->World->Prop}
 (a:Act) (m:Nat) (l:a.tmps.size=m) (g:75<=m) (p:a.tmps.getD 0 undef=Pv b 0)
 (hend:∀ ops vs w',vs 13=.bool (decide ((fu:Int)<most))->Below w6.heap.size w6 w'->wpList prog ops Q (Qam 10 ((Tryz.f69.body.bind (Qi 0)).getD .skip)) (QM a vs [4,5,6,7,8,9,10,11,12,13]) w') :
 Code.wp prog ((Tryz.f69.body.bind (Qi 0)).getD .skip) Q a w6:=by
 conv=>arg 2;whnf
 refine Qg 10 (Qoi b fu most) (fun w=>Below w6.heap.size w6 w) (fun w w'=>Below w.heap.size w w') (outs:=[0]) (gs:=[]) (bs:=[true,true,true,true,true,true,true,true,true,true]) (by kernel_rfl) (n:=75) l g (by kernel_rfl) (by kernel_rfl) ?hR ?hG (QI Zr 1) ⟨p,Y⟩ ?hA ?hend
 case hR=>exact fun t v w w' _ h=>h
 case hG=>exact Y
 case hend=>exact fun ops vs w' d e=>hend ops vs w' (e 13 (by kernel_rfl)) d
 case hA =>
  refine⟨fun a w d e K f=>?_,?_⟩
  ·obtain⟨c,-⟩:=e
   have c:a.tmps.getD 0 undef=Pv b 0:=c;go_simp;exact f _ _ Zr d Z
  refine⟨fun a w d e K f=>?_,?_⟩
  ·obtain⟨c,-⟩:=e
   have c:a.tmps.getD 4 undef=Pv b 0:=c;go_simp;exact f _ _ Zr d Z
  refine⟨fun a w d e K f=>?_,?_⟩
  ·obtain⟨c,-⟩:=e
   have c:a.tmps.getD 5 undef=Pv b 0:=c;go_simp;exact f _ _ Zr d Z
  refine⟨fun a w d e K f=>?_,?_⟩
  ·obtain⟨c,-⟩:=e
   have c:a.tmps.getD 6 undef=Pv b 5:=c;go_simp;exact f _ _ Zr d Z
  refine⟨fun a w d e K f=>?_,?_⟩
  ·obtain⟨c,-⟩:=e
   have c:a.tmps.getD 7 undef=Pv b 8:=c;have k:=Qk j d;go_simp;exact f _ _ Zr d Z
  refine⟨fun a w d e K f=>?_,?_⟩
  ·obtain⟨c,-⟩:=e
   have c:a.tmps.getD 0 undef=Pv b 0:=c;go_simp;exact f _ _ Zr d Z
  refine⟨fun a w d e K f=>?_,?_⟩
  ·obtain⟨c,-⟩:=e
   have c:a.tmps.getD 9 undef=Pv b 0:=c;go_simp;exact f _ _ Zr d Z
  refine⟨fun a w d e K f=>?_,?_⟩
  ·obtain⟨c,-⟩:=e
   have c:a.tmps.getD 10 undef=Pv b 0:=c;go_simp;exact f _ _ Zr d Z
  refine⟨fun a w d e K f=>?_,?_⟩
  ·obtain⟨c,-⟩:=e
   have c:a.tmps.getD 11 undef=Pv b 3:=c;have k:=Qk o d;go_simp;exact f _ _ Zr d Z
  refine⟨fun a w d e K f=>?_,?_⟩
  ·obtain⟨c,i,-⟩:=e
   have c:a.tmps.getD 8 undef=Iv (fu:Int):=c;have i:a.tmps.getD 12 undef=Iv (most:Int):=i;go_simp;refine f _ _ Zr d ?_;show Value.bool _=Value.bool _;congr 1
   first | rfl | (rw[decide_eq_decide];omega)
  trivial
def QnF (w6:World) (b c g1 o1 nm cm fi g2 o2 nb cb bi:Nat) (bl:MBlock 6) (p:BP) (t:Tmp) (v:Value) (w:World):Prop :=
 match ([(3,fun v w=>∃ Z,v=.pointer (some ⟨Z,0,none⟩)/\w6.heap.size<=Z/\Blk w Z zeroB 86)]:List (Tmp × (Value->World->Prop))).lookup t with
 | some p=>p v w
 | none=>v=(([(0,.pointer (some ⟨b,0,none⟩)),(2,.pointer (some ⟨c,0,none⟩)),(26,.pointer (some ⟨b,0,none⟩)),(27,.pointer (some ⟨b,0,none⟩)),(28,.pointer (some ⟨b,1,none⟩)),(29,.pointer (some ⟨b,1,none⟩)),(30,.slice (some ⟨g1,o1,none⟩) nm cm),(31,.pointer (some ⟨c,0,none⟩)),(32,.pointer (some ⟨c,0,none⟩)),(33,.pointer (some ⟨c,0,none⟩)),(34,.int .i64 (fi:Int)),(35,.pointer (some ⟨g1,o1+fi*4,none⟩)),(36,.pointer (some ⟨g1,o1+fi*4+3,none⟩)),(37,.slice (some ⟨g2,o2,none⟩) nb cb),(38,.pointer (some ⟨c,0,none⟩)),(39,.pointer (some ⟨c,0,none⟩)),(40,.pointer (some ⟨c,1,none⟩)),(41,.int .i64 (bi:Int)),(42,.pointer (some ⟨g2,o2+bi*12,none⟩)),(43,.agg (QgL bl p))]:List (Tmp × Value)).lookup t).getD undef
theorem ws3 {b o i u k l s B:Nat}{r:MBlock 6}{p:BP}(D:w6.cell? ⟨b,1,none⟩=some (.slice (some ⟨o,i,none⟩) u cm)) (P:w6.cell? ⟨c,0,none⟩=some (Iv (fi:Int))) (M:w6.cell? ⟨c,1,none⟩=some (Iv (bi:Int))) (E:w6.cell? ⟨o,i+fi*4+3,none⟩=some (.slice (some ⟨k,l,none⟩) s B)) (I:Hid (w6.rangeAt k (l+bi*12) (QgL r p).toList)) (H:(fi:Int)<u) (L:(bi:Int)<s){Q:Exit->Act->World->Prop}
 (a:Act) (m:Nat) (J:a.tmps.size=m) (y:75<=m) (O:a.tmps.getD 0 undef=Pv b 0) (A:a.tmps.getD 2 undef=Pv c 0)
 (hend:∀ ops vs w',(fun v w=>∃ Z,v=Pv Z 0/\w6.heap.size<=Z/\Blk w Z zeroB 86) (vs 3) w'->vs 43=.agg (QgL r p)->Below w6.heap.size w6 w'->wpList prog ops Q (Qam 19 ((Tryz.f69.body.bind (Qi 3)).getD .skip)) (QM a vs [26,27,28,29,30,31,32,33,34,35,36,37,38,39,40,41,42,43,3]) w') :
 Code.wp prog ((Tryz.f69.body.bind (Qi 3)).getD .skip) Q a w6:=by
 conv=>arg 2;whnf
 refine Qg 19 (QnF w6 b c o i u cm fi k l s B bi r p) (fun w=>Below w6.heap.size w6 w) (fun w w'=>Below w.heap.size w w') (outs:=[0,2]) (gs:=[]) (bs:=[true,true,true,true,true,true,true,true,true,true,true,true,true,true,true,true,true,true,true]) (by kernel_rfl) (n:=75) J y (by kernel_rfl) (by kernel_rfl) ?hR ?hG (QI Zr 1) ⟨O,A,Y⟩ ?hA ?hend
 case hR =>
  intro t v w w' G h;unfold QnF at h |-;split at h
  ·rename_i p x
   simp only[List.lookup_cons,List.lookup_nil] at x
   split at x
   ·cases x;exact(by obtain⟨Z,N,A,C⟩:=h;exact⟨Z,N,A,Blk.below C G⟩)
   ·cases x
  ·exact h
 case hG=>exact Y
 case hend=>exact fun ops vs w' e f=>hend ops vs w' (f 3 (by kernel_rfl)) (f 43 (by kernel_rfl)) e
 case hA =>
  refine⟨fun a w e f K g=>?_,?_⟩
  ·obtain⟨d,-⟩:=f
   have d:a.tmps.getD 0 undef=Pv b 0:=d;go_simp;exact g _ _ Zr e Yz
  refine⟨fun a w e f K g=>?_,?_⟩
  ·obtain⟨d,-⟩:=f
   have d:a.tmps.getD 26 undef=Pv b 0:=d;go_simp;exact g _ _ Zr e Yz
  refine⟨fun a w e f K g=>?_,?_⟩
  ·obtain⟨d,-⟩:=f
   have d:a.tmps.getD 27 undef=Pv b 0:=d;go_simp;exact g _ _ Zr e Yz
  refine⟨fun a w e f K g=>?_,?_⟩
  ·obtain⟨d,-⟩:=f
   have d:a.tmps.getD 28 undef=Pv b 1:=d;go_simp;exact g _ _ Zr e Yz
  refine⟨fun a w e f K g=>?_,?_⟩
  ·obtain⟨d,-⟩:=f
   have d:a.tmps.getD 29 undef=Pv b 1:=d;have z:=Qk D e;go_simp;exact g _ _ Zr e Yz
  refine⟨fun a w e f K g=>?_,?_⟩
  ·obtain⟨d,-⟩:=f
   have d:a.tmps.getD 2 undef=Pv c 0:=d;go_simp;exact g _ _ Zr e Yz
  refine⟨fun a w e f K g=>?_,?_⟩
  ·obtain⟨d,-⟩:=f
   have d:a.tmps.getD 31 undef=Pv c 0:=d;go_simp;exact g _ _ Zr e Yz
  refine⟨fun a w e f K g=>?_,?_⟩
  ·obtain⟨d,-⟩:=f
   have d:a.tmps.getD 32 undef=Pv c 0:=d;go_simp;exact g _ _ Zr e Yz
  refine⟨fun a w e f K g=>?_,?_⟩
  ·obtain⟨d,-⟩:=f
   have d:a.tmps.getD 33 undef=Pv c 0:=d;have z:=Qk P e;go_simp;exact g _ _ Zr e Yz
  refine⟨fun a w e f K g=>?_,?_⟩
  ·obtain⟨d,q,-⟩:=f
   have d:a.tmps.getD 30 undef=.slice (some ⟨o,i,none⟩) u cm:=d;have q:a.tmps.getD 34 undef=Iv (fi:Int):=q;go_simp;exact g _ _ Zr e Yz
  refine⟨fun a w e f K g=>?_,?_⟩
  ·obtain⟨d,-⟩:=f
   have d:a.tmps.getD 35 undef=Pv o (i+fi*4):=d;go_simp;exact g _ _ Zr e Yz
  refine⟨fun a w e f K g=>?_,?_⟩
  ·obtain⟨d,-⟩:=f
   have d:a.tmps.getD 36 undef=Pv o (i+fi*4+3):=d;have z:=Qk E e;go_simp;exact g _ _ Zr e Yz
  refine⟨fun a w e f K g=>?_,?_⟩
  ·obtain⟨d,-⟩:=f
   have d:a.tmps.getD 2 undef=Pv c 0:=d;go_simp;exact g _ _ Zr e Yz
  refine⟨fun a w e f K g=>?_,?_⟩
  ·obtain⟨d,-⟩:=f
   have d:a.tmps.getD 38 undef=Pv c 0:=d;go_simp;exact g _ _ Zr e Yz
  refine⟨fun a w e f K g=>?_,?_⟩
  ·obtain⟨d,-⟩:=f
   have d:a.tmps.getD 39 undef=Pv c 0:=d;go_simp;exact g _ _ Zr e Yz
  refine⟨fun a w e f K g=>?_,?_⟩
  ·obtain⟨d,-⟩:=f
   have d:a.tmps.getD 40 undef=Pv c 1:=d;have z:=Qk M e;go_simp;exact g _ _ Zr e Yz
  refine⟨fun a w e f K g=>?_,?_⟩
  ·obtain⟨d,q,-⟩:=f
   have d:a.tmps.getD 37 undef=.slice (some ⟨k,l,none⟩) s B:=d;have q:a.tmps.getD 41 undef=Iv (bi:Int):=q;go_simp;exact g _ _ Zr e Yz
  refine⟨fun a w e f K g=>?_,?_⟩
  ·obtain⟨d,-⟩:=f
   have d:a.tmps.getD 42 undef=Pv k (l+bi*12):=d;refine wp_load_mid 86 (.tmp 42) Yz k (l+bi*12) d (QgL r p).toList _ (fun j v F=>Qk (I.out j v F) e) underlying86 Yz pSizeB ?_;exact g _ _ Zr e Yz
  refine⟨fun a w e f K g=>?_,?_⟩
  ·clear f;go_simp;exact g _ _ (ZP _ _) (e.trans ((ZP _ _).mono e.size)) ⟨_,Yz,e.size,Qe _ _ _⟩
  trivial
def QnX (b c Z gc oc nc cc i:Nat) (x:Qt) (ip:IP) (t:Tmp) (v:Value) (w:World):Prop :=
 v=(([(0,Pv b 0),(2,Pv c 0),(3,Pv Z 0),(57,Pv b 0),(58,Pv c 0),(59,Pv Z 2),(60,.slice (some ⟨gc,oc,none⟩) nc cc),(61,Pv c 0),(62,Pv c 0),(63,Pv c 2),(64,Iv (i:Int)),(65,Pv gc (oc+i*8)),(66,.agg (Zq x ip))]:List (Tmp × Value)).lookup t).getD undef
theorem ws6 {b Z k l o:Nat}{x:Qt}{p:IP}(A:w6.cell? ⟨Z,2,none⟩=some (.slice (some ⟨k,l,none⟩) o cc)) (B:w6.cell? ⟨c,2,none⟩=some (Iv (i:Int))) (C:Hid (w6.rangeAt k (l+i*8) (Zq x p).toList)) (hi:(i:Int)<o){Q:Exit->Act->World->Prop}
 (a:Act) (m:Nat) (D:a.tmps.size=m) (q:75<=m) (E:a.tmps.getD 0 undef=Pv b 0) (y:a.tmps.getD 2 undef=Pv c 0) (s:a.tmps.getD 3 undef=Pv Z 0)
 (hend:∀ ops vs w',vs 57=Pv b 0->vs 58=Pv c 0->vs 66=.agg (Zq x p)->Below w6.heap.size w6 w'->wpList prog ops Q (Qam 10 ((Tryz.f69.body.bind (Qi 6)).getD .skip)) (QM a vs [57,58,59,60,61,62,63,64,65,66]) w') :
 Code.wp prog ((Tryz.f69.body.bind (Qi 6)).getD .skip) Q a w6:=by
 conv=>arg 2;whnf
 refine Qg 10 (QnX b c Z k l o cc i x p) (fun w=>Below w6.heap.size w6 w) (fun w w'=>Below w.heap.size w w') (outs:=[0,2,3]) (gs:=[]) (bs:=[true,true,true,true,true,true,true,true,true,true]) (by kernel_rfl) (n:=75) D q (by kernel_rfl) (by kernel_rfl) ?hR ?hG (QI Zr 1) ⟨E,y,s,Y⟩ ?hA ?hend
 case hR=>exact fun t v w w' _ h=>h
 case hG=>exact Y
 case hend=>exact fun ops vs w' e f=>hend ops vs w' (f 57 (by kernel_rfl)) (f 58 (by kernel_rfl)) (f 66 (by kernel_rfl)) e
 case hA =>
  refine⟨fun a w e f K g=>?_,?_⟩
  ·obtain⟨d,-⟩:=f
   have d:a.tmps.getD 0 undef=Pv b 0:=d;go_simp;exact g _ _ Zr e Yz
  refine⟨fun a w e f K g=>?_,?_⟩
  ·obtain⟨d,-⟩:=f
   have d:a.tmps.getD 2 undef=Pv c 0:=d;go_simp;exact g _ _ Zr e Yz
  refine⟨fun a w e f K g=>?_,?_⟩
  ·obtain⟨d,-⟩:=f
   have d:a.tmps.getD 3 undef=Pv Z 0:=d;go_simp;exact g _ _ Zr e Yz
  refine⟨fun a w e f K g=>?_,?_⟩
  ·obtain⟨d,-⟩:=f
   have d:a.tmps.getD 59 undef=Pv Z 2:=d;have u:=Qk A e;go_simp;exact g _ _ Zr e Yz
  refine⟨fun a w e f K g=>?_,?_⟩
  ·obtain⟨d,-⟩:=f
   have d:a.tmps.getD 2 undef=Pv c 0:=d;go_simp;exact g _ _ Zr e Yz
  refine⟨fun a w e f K g=>?_,?_⟩
  ·obtain⟨d,-⟩:=f
   have d:a.tmps.getD 61 undef=Pv c 0:=d;go_simp;exact g _ _ Zr e Yz
  refine⟨fun a w e f K g=>?_,?_⟩
  ·obtain⟨d,-⟩:=f
   have d:a.tmps.getD 62 undef=Pv c 0:=d;go_simp;exact g _ _ Zr e Yz
  refine⟨fun a w e f K g=>?_,?_⟩
  ·obtain⟨d,-⟩:=f
   have d:a.tmps.getD 63 undef=Pv c 2:=d;have u:=Qk B e;go_simp;exact g _ _ Zr e Yz
  refine⟨fun a w e f K g=>?_,?_⟩
  ·obtain⟨d,r,-⟩:=f
   have d:a.tmps.getD 60 undef=.slice (some ⟨k,l,none⟩) o cc:=d;have r:a.tmps.getD 64 undef=Iv (i:Int):=r;go_simp;exact g _ _ Zr e Yz
  refine⟨fun a w e f K g=>?_,?_⟩
  ·obtain⟨d,-⟩:=f
   have d:a.tmps.getD 65 undef=Pv k (l+i*8):=d;refine wp_load_mid 78 (.tmp 65) Yz k (l+i*8) d (Zq x p).toList _ (fun j v z=>Qk (C.out j v z) e) underlying78 Yz pSizeN ?_;exact g _ _ Zr e Yz
  trivial
section
variable {w w' w2:World}{b most n:Nat}{m:List (MFunc 6)}{R R' r:RM}{g g1:WG}
theorem WAt.fuelC (S:WAt w b most m R g):WTo g w (w.setCell ⟨b,8,none⟩ (Iv ((R.fuel:Int)+1))) b most m { R with fuel:=R.fuel+1 }:=by
 refine S.reBox (R':={ R with fuel:=R.fuel+1 }) Z Z Z (by simp) (fun k c a=>Xd _ _ _ _ a) ⟨Z,Z,Z,Z⟩ (pi:=g.pi) (ci:=g.ci) (vb:=g.vb) ⟨S.inp,S.inpC⟩ S.back ?_;rw[Qh S.box 8 _]
 simp
theorem Qi9 (S:WAt w b most m R g) (I:ROk m n R) (i:n<=900000){x:Qt}(a:IP) (h:x.op=6\/x.op=7\/x.op=9\/x.op=10\/x.op=11) (p:RM.ins aOp R x=some r) :
 Calls prog 114 #[Pv b 0,Pv g.t.c 0,.agg (Zq x a)] w fun e w'=>Qdj g w b most m r e w':=by
 have l:=Qc (ZP w (.cells (Zq x a) 78));have j:=Qc (Qe w (Zq x a) 78);have d:=Qc (S.below l.out);have o:=Qc (S.stepB l.out);have f:R.part x=some r:=by rw[<-p,Qax h]
 have C:Hid (Calls prog 177 #[Pv b 0,Pv g.t.c 0,.agg (Zq x a)] (w.alloc (.cells (Zq x a) 78)) fun e w'=>Qdj g (w.alloc (.cells (Zq x a) 78)) b most m r e w'):=by
  rcases h with h | h | h | h | h
  ·exact QmS d.out I i a h f
  ·exact QmF d.out I i a h f
  ·exact QmO d.out I i a h f
  ·exact QlJ d.out I i a h f
  ·exact Qly d.out I i a h f
 have H:(x.op==1)=false:=by simp;omega
 have O:(x.op==2)=false:=by simp;omega
 have L:(x.op==3)=false:=by simp;omega
 have Q:(x.op==4)=false:=by simp;omega
 have P:(x.op==5)=false:=by simp;omega
 have K:(x.op==8)=false:=by simp;omega
 have E:(x.op==12)=false:=by simp;omega
 have D:(x.op==13)=false:=by simp;omega
 have y:(x.op==14)=false:=by simp;omega
 clear S I f p h;go_enter func114,ntmps114
 go_upto_region 1 with fail
 generalize w.alloc (.cells (Zq x a) 78)=J at l j d o C |-;generalize w.heap.size=X at j |-;obtain⟨q,s,G,u,A,B,F,z⟩:=Q7 j.out
 go_wp2_with fail
 refine C.out.mono ?_;rintro N T k;have Z:=Qc (Qdj.then o.out Yz Yz k);rcases k.cases with rfl | ⟨M,rfl⟩
 ·clear k C q s G u A B F z;go_wp2
  exact Xz (v:=.tuple #[]) (by simp[results,results114,go_sem]) Yz Z.out
 ·exact⟨Yz,Z.out⟩
theorem QmV (S:WAt w b most m R g) (I:ROk m n R) (N:n<=900000){x:Qt}(a:IP){F:Nat->Prop}(hi:IIn w F x a) (y:x.args.length<=8) (h:x.op=14)(s:x.k=(f:Int))(u:R.rest.length+1<40->QaA R.top.v x.args=some xs) :
 Calls prog 114 #[Pv b 0,Pv g.t.c 0,.agg (Zq x a)] w fun e w'=>Qm5 g w b most m R f xs e w':=by
 have i:=Qc (ZP w (.cells (Zq x a) 78));have o:=Qc (Qe w (Zq x a) 78);have r:=Qc (S.below i.out);have l:=Qc (S.stepB i.out);have C:=Qc (QiV r.out I N a (hi.below i.out) y s u);have Q:(x.op==1)=false:=by simp;omega
 have d2:(x.op==2)=false:=by simp;omega
 have V:(x.op==3)=false:=by simp;omega
 have d4:(x.op==4)=false:=by simp;omega
 have d5:(x.op==5)=false:=by simp;omega
 have U:(x.op==8)=false:=by simp;omega
 have K:(x.op==12)=false:=by simp;omega
 have J:(x.op==13)=false:=by simp;omega
 have E:(x.op==14)=true:=by simp;omega
 clear S I u hi y s h;go_enter func114,ntmps114
 go_upto_region 1 with fail
 generalize w.alloc (.cells (Zq x a) 78)=T at i o r l C |-;generalize w.heap.size=X at o |-;obtain⟨z,A,O,B,H,L,M,G⟩:=Q7 o.out
 go_wp2_with fail
 refine C.out.mono ?_;rintro W P (⟨j,rfl,D,d,q,p⟩|⟨j,rfl,d⟩)
 ·have Z:Hid (Qm5 g w b most m R f xs (.returned (.tuple #[])) P):=.inl ⟨j,Yz,D,d,l.out.trans q,p⟩;clear j d q p C z A O B H L M G;go_wp2
  exact Xz (v:=.tuple #[]) (by simp[results,results114,go_sem]) Yz Z.out
 ·exact⟨Yz,.inr ⟨j,Yz,WTo.then l.out Yz Yz d⟩⟩
theorem QjK (S:WAt w b most m R g) (I:ROk m n R) (d:n<=900000){x:Qt}(a:IP){l:Nat->Prop}(hi:IIn w l x a) (i:x.form m.length=0) (j:x.op≠14) (f:RM.ins aOp R x=some r) :
 Calls prog 114 #[Pv b 0,Pv g.t.c 0,.agg (Zq x a)] w fun e w'=>Qdj g w b most m r e w':=by
 obtain⟨p,o,-⟩:=QcN i
 have k:x.op=1\/x.op=2\/x.op=3\/x.op=4\/x.op=5\/x.op=8\/x.op=12\/x.op=13\/(x.op=6\/x.op=7\/x.op=9\/x.op=10\/x.op=11):=by omega
 rcases k with h | h | h | h | h | h | h | h | h
 ·exact Qnr S I d a h f
 ·exact Qne S I d a h f
 ·exact Qni S I d a h f
 ·exact Qnk S I d a h f
 ·exact Qnl S I d a h hi (o h) f
 ·exact Qnn S I d a h f
 ·exact QmB S I d a h f
 ·exact Qmf S I d a h f
 ·exact Qi9 S I d a h f
end
section
variable {w w' w2:World}{b most n:Nat}{m:List (MFunc 6)}{R R' r:RM}{g g1:WG}
def QnM (g:WG) (w:World) (b most:Nat) (m:List (MFunc 6)) (r:RM) (e:Ending) (w':World):Prop :=
 (e=.returned (.tuple #[])/\WGo g w w' b most m r)\/(∃ N k,r=N.over k/\e=.panicked (Qdy k)/\WTo g w w' b most m N)
theorem QjI.stp {e:Ending}(T:WSt g g1 w w2) (a:g1.t.c=g.t.c) (d:g1.fs=g.fs) (H:QjI g1 w2 b most m r e w'):QnM g w b most m r e w':=H.then T a d
theorem Qji (S:WAt w b most m R g) (I:ROk m n R) (hn:n<=800000) (hm:(modFault m).1=0) (bh:R.fuel<=most) (bi:most<=100000) (hr:RM.step m aOp most R=some r) :
 Calls prog 69 #[Pv b 0] w fun e w'=>QnM g w b most m r e w':=by
 obtain⟨-,fn,d,hf,hb,hi⟩:=I.fr R.top (by simp)
 have hR:=(Zo hm).2 fn (Zm hf);have hB:=hR.blocks d (Zm hb);have au:=(Zo hm).1.2
 have E:Hid (some r=if R.fuel=most then some (R.over 7) else match d.code[R.top.i]? with | some x=>RM.ins aOp { R with fuel:=R.fuel+1 } x | none=>RM.endd { R with fuel:=R.fuel+1 } d.fin):=by
  show _=_;rw[<-hr]
  unfold RM.step;rw[hf]
  simp only
  rw[hb]
  rfl
 have I1:ROk m n { R with fuel:=R.fuel+1 }:=⟨I.est,I.fr,I.inp,I.out,I.deep⟩;have q8:w.cell? ⟨b,8,none⟩=some (Iv R.fuel):=Qb S.box 8 _ Yz;have q3:w.cell? ⟨b,3,none⟩=some (Iv most):=Qb S.box 3 _ Yz;have HS:=Qc S;have HK:=Qc I1;have z:=Qc (Xh hf hb);have aa:=Qc (Xh hR hB);have HM:=Qc hm;have HI:=Qc hi;have HN:=Qc (Xh hn au);clear S I I1 hf hb hR hB hm hi hn au hr;go_enter func69,ntmps69
 go_upto_region 0 with fail
 refine ws0 q8 q3 _ _ Yz (Xg (by kernel_rfl)) Yz ?_;rintro A vs w5 M b5;show wpList _ A _ [_] (QM _ vs [4,5,6,7,8,9,10,11,12,13]) w5;simp only[QM,Act.put,List.setIfInBounds_toArray,List.set_cons_zero,List.set_cons_succ,M]
 have B5:=Qc b5;clear M b5 q8 q3;by_cases H:R.fuel=most
 ·have d1:decide ((R.fuel:Int)<most)=false:=Xu (by omega);have E2:Hid (r=R.over 7):=by show _=_;have:=E.out;rw[Xs H] at this;cases this;rfl
  rw[d1]
  clear E d1 H;go_wp2_with fail
  refine(Z4 _ _).mono ?_
  rintro e' w' ⟨rfl,hw⟩;subst hw;exact⟨Yz,.inr ⟨R,7,E2.out,Yz,WTo.same HS.out B5.out⟩⟩
 have d1:decide ((R.fuel:Int)<most)=true:=Xt (by omega);have E2:Hid (some r=match d.code[R.top.i]? with | some x=>RM.ins aOp { R with fuel:=R.fuel+1 } x | none=>RM.endd { R with fuel:=R.fuel+1 } d.fin):=by show _=_;have:=E.out;rw[Xr H] at this;exact this
 rw[d1]
 clear E d1 H;have S5:=Qc (HS.out.below B5.out);have q8:w5.cell? ⟨b,8,none⟩=some (Iv R.fuel):=Qb S5.out.box 8 _ Yz;have z8:=Qj S5.out.box 8;obtain⟨L,T,T6,c6,f6⟩:=S5.out.fuelC
 have T:=Qc T;have T6:=Qc ((HS.out.stepB B5.out).trans T6);have u:=Qc (Xh c6 f6);have bm:R.fuel<=100000:=by omega
 clear S5 c6 f6 B5;generalize ao:({ R with fuel:=R.fuel+1 }:RM)=q at T E2 HK;have o:Hid (q.top=R.top/\q.rest=R.rest):=by subst ao;exact⟨Yz,Yz⟩
 clear ao;generalize R.fuel=fu at *;go_upto_region 2 with (go_at_call 111;refine(QaC _ _).mono ?_;rintro e' w' ⟨rfl,hw⟩;have hw:=hw.symm;subst hw)
 generalize w5.setCell ⟨b,8,none⟩ (Iv ((fu:Int)+1))=w6 at T T6 |-;clear q8 z8;have bn:q.rest.length<=39:=HK.out.deep;have CT:=Qc (Qgu T.out (by omega));go_upto_region 3 with (go_at_call 112;refine CT.out.mono ?_;rintro e' w7 ⟨rfl,b7⟩)
 have X:=Qc (T.out.below b7);have T7:=Qc (T6.out.trans (T.out.stepB b7));clear b7 CT T T6;obtain⟨a7,o1,fA,e1,E1,ag⟩:=Qfz X.out.mod (by exact z.out.1)
 obtain⟨a8,o2,p,e2,ay,a5⟩:=Qeu ag.blocks (by exact z.out.2)
 have r3:w7.cell? ⟨a7,o1+R.top.f*4+3,none⟩=some (.slice fA.pB fn.blocks.length fA.cB):=E1 3 _ Yz;rw[e2] at r3
 have q1:w7.cell? ⟨b,1,none⟩=some (.slice L.pm m.length L.cm):=Qb X.out.box 1 _ Yz;rw[e1] at q1
 have f0:w7.cell? ⟨L.t.c,0,none⟩=some (Iv R.top.f):=by have:=Qb X.out.top.1 0 _ Yz;rw[o.out.1] at this;exact this
 have f1:w7.cell? ⟨L.t.c,1,none⟩=some (Iv R.top.b):=by have:=Qb X.out.top.1 1 _ Yz;rw[o.out.1] at this;exact this
 have ar:(R.top.f:Int)<m.length:=by have:=(Zi z.out.1).1;omega
 have a4:(R.top.b:Int)<fn.blocks.length:=by have:=(Zi z.out.2).1;omega
 have ae:=Qc a5;have az:Hid (w7.rangeAt a8 (o2+R.top.b*12) (QgL d p).toList):=ay;clear E1 ag ay a5 e1 e2;refine ws3 q1 f0 f1 r3 az ar a4 _ _ Yz (Xg (by kernel_rfl)) Yz Yz ?_;rintro A vs w8 ⟨Z,am,hZ,ab⟩ Q b8;show wpList _ A _ [_] (QM _ vs [26,27,28,29,30,31,32,33,34,35,36,37,38,39,40,41,42,43,3]) w8;simp only[QM,Act.put,List.setIfInBounds_toArray,List.set_cons_zero,List.set_cons_succ,am,Q]
 have BZ:=Qc (QmW ab d p);have B9:=Qc (Qfe hZ (QgL d p).toList 0 b8);have TH:=Qc (QkA ab Yz d p);have SZ:=Qc (show (prog.info? 86).map (·.size)=some (QgL d p).size from pSizeB);have ON:=Qc (QmX d p);obtain⟨cs,ac⟩:∃ cs,QgL d p=cs:=⟨_,Yz⟩
 rw[ac] at BZ B9 TH SZ ON |-
 have EC:=Qc ac;clear ac am Q b8 ab q1 f0 f1 r3 az ar a4;go_upto_region 4 with (refine wpList_store_mid Yz 86 (.tmp 3) (.tmp 43) Yz Z 0 cs Yz Yz TH.out SZ.out ON.out ?_)
 generalize w8.setCells Z 0 cs.toList=G at BZ B9 |-;obtain rfl:=EC.out;have S9:=Qc (X.out.below B9.out);have T9:=Qc (T7.out.trans (X.out.stepB B9.out));have y:=Qc (ae.out.below B9.out);clear TH SZ ON EC B9 ae X T7 hZ;have f2:G.cell? ⟨L.t.c,2,none⟩=some (Iv R.top.i):=by have:=Qb S9.out.top.1 2 _ Yz;rw[o.out.1] at this;exact this
 have z2:G.cell? ⟨Z,2,none⟩=some (.slice p.pC d.code.length p.cC):=Qb BZ.out 2 _ Yz;have Ka:Hid (ROk m n q):=HK.out;have aq:=HI.out;by_cases ad:R.top.i=d.code.length
 ·have hc:((R.top.i:Int)==(d.code.length:Int))=true:=by simp[ad]
  have O:q.endd d.fin=some r:=by have:=E2.out;rw[Xk (by omega)] at this;exact this.symm
  go_quiet (fail)
  have a:=Qag (Below.refl G.heap.size G) nq;have Sa:=S9.out.below a;have Ta:=Qc (T9.out.trans (S9.out.stepB a));have a2:=Blk.below BZ.out a;have CE:=Qc (QkU Sa Ka.out (by have:=HN.out.1;omega) (y.out.below a).fin aa.out.2.fin O)
  have RE:Hid ((G.drewN nq).rangeAt Z 3 (QbV d.fin p.e).toList):=fun j v hj=>by
   have:(QgL d p)[3+j]?=some v:=by
    rw[<-Array.getElem?_toList,Nat.add_comm]
    exact hj
   exact Qb a2 (3+j) v this
  clear ad hc E2 aq a Sa a2 f2 z2 S9 T9 BZ y O;generalize G.drewN nq=wa at *;go_wp2_with (refine wpList_load_mid Yz 84 (.tmp 54) Yz Z 3 Yz (QbV d.fin p.e).toList _ RE.out underlying84 Yz vsizeE ?_)
  refine CE.out.mono ?_;rintro e' wb D;have F:=Qc (QjI.stp Ta.out u.out.1 u.out.2 D);rcases D with ⟨rfl,-⟩|⟨N,k,-,rfl,-⟩
  ·clear CE RE;go_wp2
   exact Xz (v:=.tuple #[]) (by simp[results,results69,go_sem]) Yz F.out
  ·exact⟨Yz,F.out⟩
 have hc:((R.top.i:Int)==(d.code.length:Int))=false:=by simp;omega
 have a3:R.top.i<d.code.length:=by omega
 obtain⟨x,hx⟩:∃ x,d.code[R.top.i]?=some x:=⟨_,Zg a3⟩
 have O:Hid (RM.ins aOp q x=some r):=by show _=_;have:=E2.out;rw[hx] at this;exact this.symm
 have al:=aa.out.2.code x (Zm hx);have bk:=aa.out.2.codes;go_quiet (fail)
 have a:=Qag (Below.refl G.heap.size G) nq;have Sa:=Qc (S9.out.below a);have Ta:=Qc (T9.out.trans (S9.out.stepB a));have a0:=y.out.below a;replace z2:=Qk z2 a;replace f2:=Qk f2 a;clear S9 T9 BZ y a;generalize G.drewN nq=wa at *;obtain⟨gc,oc,ip,ec,ai,a1⟩:=QhI a0.code hx
 rw[ec] at z2
 have ah:Hid (wa.rangeAt gc (oc+R.top.i*8) (Zq x ip).toList):=ai;have aj:=Qc a1;have HX:=Qc al;have ak:=Qc a3;clear hc ad E2 hx ai a1 al aq ec a0;go_upto_region 6 with fail
 refine ws6 z2 f2 ah (by omega) _ _ Yz (Xg (by kernel_rfl)) Yz Yz Yz ?_;rintro A ba wb P K J bb;show wpList _ A _ [_] (QM _ ba [57,58,59,60,61,62,63,64,65,66]) wb;simp only[QM,Act.put,List.setIfInBounds_toArray,List.set_cons_zero,List.set_cons_succ,P,K,J]
 have Sb:=Qc (Sa.out.below bb);have Tb:=Qc (Ta.out.trans (Sa.out.stepB bb));have ax:=Qc (aj.out.below bb);clear P K J bb z2 f2 ah Sa Ta aj;by_cases s:x.op=14
 ·obtain⟨-,-,ap⟩:=QcN HX.out
  obtain⟨aw,bc,be,af⟩:=ap s
  obtain⟨k,hk⟩:=Xc aw
  obtain⟨xs,U⟩:∃ xs:List Int,(q.rest.length+1<40->QaA q.top.v x.args=some xs)/\r=if q.rest.length+1<40 then { q with top:=⟨k,0,0,xs⟩,rest:={ q.top with i:=q.top.i+1 }::q.rest } else q.over 5:=by
   have D:=O.out;unfold RM.ins at D;by_cases h:q.rest.length+1<40
   ·cases hv:QaA q.top.v x.args with
    | none=>simp[s,h,hv] at D
    | some l =>
      simp[s,h,hv] at D
      refine⟨l,fun _=>rfl,?_⟩
      rw[Xs h,<-D,hk]
      rfl
   ·simp[s,h] at D
    exact⟨[],fun h'=>absurd h' h,by rw[Xr h];exact D.symm⟩
  have CI:=Qc (QmV Sb.out Ka.out (by have:=HN.out.1;omega) ip ax.out af s hk U.1);have E4:=Qc U.2;have av:q.top.i<=100:=by rw[o.out.1];have:=ak.out;omega
  clear hk aw bc be af ap s O U;go_wp2_with fail
  refine CI.out.mono ?_;rintro e' wc (⟨B,rfl,g',C,W,V⟩|⟨B,rfl,C⟩)
  ·have F2:=C.frs;rw[V] at F2
   have fc:=F2.2.1.1;have y2:wc.cell? ⟨L.t.c,2,none⟩=some (Iv q.top.i):=Qb fc.1 2 _ Yz;have an:=Qj fc.1 2;obtain⟨g8,S8,T8⟩:=C.next2 V Yz
   have Z8:Hid (WGo g w (wc.setCell ⟨L.t.c,2,none⟩ (Iv ((q.top.i:Int)+1))) b most m r):=by
    refine⟨g8,?_,(Tb.out.trans W).trans T8⟩
    rw[E4.out,Xs B]
    exact S8
   clear CI B C W V F2 fc S8 T8 E4;generalize q.top.i=ii at *;go_wp2
   exact Xz (v:=.tuple #[]) (by simp[results,results69,go_sem]) Yz (.inl ⟨Yz,Z8.out⟩)
  ·exact⟨Yz,.inr ⟨q,5,by rw[E4.out,Xr B],Yz,WTo.then Tb.out u.out.1 u.out.2 C⟩⟩
 ·have CI:=Qc (QjK Sb.out Ka.out (by have:=HN.out.1;omega) ip ax.out HX.out s O.out);have KI:=Qc (Qjj Ka.out ⟨fn,d,by rw[o.out.1];exact z.out.1,by rw[o.out.1];exact z.out.2,by rw[o.out.1];exact ak.out⟩ HM.out HX.out r O.out);clear s O;go_wp2_with fail
  refine CI.out.mono ?_;rintro e' wc (⟨N,B,rfl,g',C,W,V,h5⟩|⟨N,kk,B,rfl,W⟩)
  ·have av:N.top.i<=100:=by
    obtain⟨-,bd,a9,bf,a6,bj⟩:=KI.out.fr r.top (by simp)
    have bg:=(((Zo HM.out).2 bd (Zm bf)).blocks a9 (Zm a6)).codes
    have:r.top.i=N.top.i+1:=by rw[B];rfl
    omega
   have y2:wc.cell? ⟨g'.t.c,2,none⟩=some (Iv N.top.i):=Qb C.top.1 2 _ Yz;have an:=Qj C.top.1 2;have NX:=WTo.then (Tb.out.trans W) (V.trans u.out.1) (h5.trans u.out.2) C.next
   rw[V] at y2 an NX
   have Z8:Hid (WTo g w (wc.setCell ⟨L.t.c,2,none⟩ (Iv ((N.top.i:Int)+1))) b most m r):=by rw[B];exact NX
   clear CI B C W V h5 KI NX;generalize N.top.i=ii at *;go_wp2
   exact Xz (v:=.tuple #[]) (by simp[results,results69,go_sem]) Yz (.inl ⟨Yz,Z8.out.go⟩)
  ·exact⟨Yz,.inr ⟨N,kk,B,Yz,WTo.then Tb.out u.out.1 u.out.2 W⟩⟩
end
section
variable {w w' w2:World}{b most n:Nat}{m:List (MFunc 6)}{R R' r:RM}{g g1:WG}
theorem WAt.endC (S:WAt w b most m R g) (k:Int):WTo g w ((w.setCell ⟨b,9,none⟩ (.bool true)).setCell ⟨b,5,none⟩ (Iv k)) b most m (R.over k):=by
 have d:∀ x,x≠b->((w.setCell ⟨b,9,none⟩ (.bool true)).setCell ⟨b,5,none⟩ (Iv k)).heap[x]?=w.heap[x]?:=fun x a=>by rw[Xd _ _ _ _ a,Xd _ _ _ _ a]
 refine S.reBox (R':=R.over k) Z Z Z (by simp) (fun x a c=>d x c) ⟨Z,Z,Z,Z⟩ (pi:=g.pi) (ci:=g.ci) (vb:=g.vb) ⟨S.inp,S.inpC⟩ S.back ?_;rw[Qh (Qh S.box 9 _) 5 _]
 simp[RM.over]
theorem Qf9 {w:World}(X:Nat) :
 CallsD prog 110 #[Qfr X] .returning w fun e u' w'=>e=.returned (.tuple #[])/\u'=.returning/\w'=w:=by
 refine callsD_of_wpS func110 Z fun a c b=>?_;apply wpS_seq
 apply wpS_region
 simp[wpOpsS,go_sem,recoverD,b,ntmps110,Exit.thenS]
 rw[show (#[Qfr X]++((Array.replicate 22 undef).setIfInBounds 3 (Value.nilIface)).setIfInBounds 0 (Value.nilIface):Array Value)=#[Qfr X,Value.nilIface,undef,undef,Value.nilIface,undef,undef,undef,undef,undef,undef,undef,undef,undef,undef,undef,undef,undef,undef,undef,undef,undef,undef] from by kernel_rfl]
 refine wpS_of_wp ?_;go_wp2_with fail
 cases a
 simp_all [bodyPostS,results,results110]
theorem Qhc {w:World}(k:Int) (a:Blk w X #[Pv b 0] 62) (S:WAt w b most m R g) :
 CallsD prog 110 #[Qfr X] (.panicking (Qdy k)) w fun e u' w' =>
  e=.returned (.tuple #[])/\u'=.panicking [{ v:=.iface 187 (Iv k),recovered:=true }]/\WTo g w w' b most m (R.over k):=by
 have o:=Qb a 0 _ Yz;have n:w.cell? ⟨b,9,none⟩=some (.bool R.done):=Qb S.box 9 _ Yz;have h:w.cell? ⟨b,5,none⟩=some (Iv R.fin):=Qb S.box 5 _ Yz;have l:=Qj S.box 9;have i:=Qj S.box 5;have Z:=Qc (S.endC k);have f:¬ X=b:=fun e=>Zb a S.box (by decide) e;clear S a;refine callsD_of_wpS func110 Yz fun p j c=>?_;apply wpS_seq
 apply wpS_region
 simp[wpOpsS,go_sem,recoverD,c,ntmps110,Exit.thenS]
 rw[show (#[Qfr X]++((Array.replicate 22 undef).setIfInBounds 3 (Value.iface 187 (Iv k))).setIfInBounds 0 (Value.iface 187 (Iv k)):Array Value)=#[Qfr X,Value.iface 187 (Iv k),undef,undef,Value.iface 187 (Iv k),undef,undef,undef,undef,undef,undef,undef,undef,undef,undef,undef,undef,undef,undef,undef,undef,undef,undef] from by kernel_rfl]
 refine wpS_of_wp ?_;have d:∀ w:World,(Instr.typeAssert (.iface 187 (Iv k)) 20 187 true).run prog w=.ok (.tuple #[Iv k,.bool true]) w:=fun _=>by kernel_rfl
 go_wp2
 exact(show bodyPostS _ _ _ _ _ _ _ _ _ from ⟨Yz,_,Yz,.tuple #[],by simp[results,results110,go_sem],Yz,Yz,Z.out⟩)
theorem wenters_step:Qah 69:=fun _ _=>by kernel_rfl
theorem Qfg (S:WAt w b most m R g) (I:ROk m n R) (y:n<=800000) (q:(modFault m).1=0) (a:R.fuel<=most) (c:most<=100000) (t:RM.step m aOp most R=some r) :
 Calls prog 68 #[Pv b 0,.func (.func 69) #[Pv b 0] #[]] w fun e w'=>e=.returned (.tuple #[])/\WGo g w w' b most m r:=by
 have H:∀ (fn:Fn) (first cap:Array Value) (w:World),(Instr.makeFunc fn first cap).run prog w=.ok (.func fn first cap) w:=fun _ _ _ _=>rfl;have x:=wenters_step;unfold Qah at x;have v:=Qc (ZP w (.cells #[Pv b 0] 62));have z:=Qc (Qe w #[Pv b 0] 62);have B:=Qc (S.below v.out);have p:=Qc (S.stepB v.out);have o:=Qc (Qji B.out I y q a c t);have l:=Qc S.lt;clear S I y q a c t;go_enter_defers func68,ntmps68
 go_wp2_with fail
 refine o.out.mono ?_;rintro L F J;have i:¬ g.A w.heap.size:=fun e=>by have:=l.out _ e;omega
 have h:w.heap.size<(w.alloc (.cells #[Pv b 0] 62)).heap.size:=by simp
 rcases J with ⟨rfl,s⟩|⟨N,k,j,rfl,⟨P,C,u,O,M⟩⟩
 ·have Z:=Qc (WGo.then p.out s);clear s o x;go_wp2
  refine leaves_cons (f:=110) (args:=#[Qfr w.heap.size]) (by simp) (by simp[go_sem]) ?_;refine(Qf9 w.heap.size).mono ?_
  rintro D G K ⟨rfl,rfl,rfl⟩;exact⟨.tuple #[],by simp[results,results68,go_sem],Yz,Z.out⟩
 ·have d:Blk F w.heap.size #[Pv b 0] 62:=(u.block _ h i).trans z.out;show bodyPostD _ _ _ _ _ _;refine leaves_cons (f:=110) (args:=#[Qfr w.heap.size]) (by simp) (by simp[go_sem]) ?_;refine(Qhc k d C).mono ?_
  rintro D G Q ⟨rfl,rfl,E⟩;subst j;exact⟨.tuple #[],by simp[results,results68,go_sem],Yz,WGo.then (p.out.trans u) E.go⟩
theorem Qh5 (S:WAt w b most m R g) (I:ROk m n R) (h:n<=800000) (k:(modFault m).1=0) (c:R.fuel<=most) (a:most<=100000) (d:R.done=false) (j:RM.step m aOp most R=some r) :
 Calls prog 34 #[Pv b 0] w fun e w'=>e=.returned (.tuple #[])/\WGo g w w' b most m r:=by
 have l:∀ (fn:Fn) (first cap:Array Value) (w:World),(Instr.makeFunc fn first cap).run prog w=.ok (.func fn first cap) w:=fun _ _ _ _=>rfl;have f:=Qc (Qfg S I h k c a j);have o:w.cell? ⟨b,9,none⟩=some (.bool R.done):=Qb S.box 9 _ Yz;rw[d] at o
 clear S I h k c a j d;go_enter func34,ntmps34
 go_wp2_with (go_at_call 68;refine f.out.mono ?_;rintro p q ⟨rfl,i⟩;have Z:=Qc i;clear i f)
 exact Xz (v:=.tuple #[]) (by simp[results,results34,go_sem]) Yz ⟨Yz,Z.out⟩
theorem Qhe (S:WAt w b most m R g) (a:R.done=true) :
 Calls prog 34 #[Pv b 0] w fun e w'=>e=.returned (.tuple #[])/\w'=w:=by
 have c:w.cell? ⟨b,9,none⟩=some (.bool R.done):=Qb S.box 9 _ Z;rw[a] at c
 clear S a;go_enter func34,ntmps34
 go_wp2
 exact Xz (v:=.tuple #[]) (by simp[results,results34,go_sem]) Z ⟨Z,Z⟩
theorem QeZ (S:WAt w b most m R g):Calls prog 33 #[Pv b 0] w fun e w'=>e=.returned (.bool R.done)/\w'=w:=by
 have a:w.cell? ⟨b,9,none⟩=some (.bool R.done):=Qb S.box 9 _ Z;clear S;generalize R.done=c at *;go_enter func33,ntmps33
 go_wp2
 go_ret;exact⟨Z,Z⟩
end
section
variable {w w' w2:World}{b most n:Nat}{m:List (MFunc 6)}{M M' N:IM}{sc sa:Int}{g g1:MG}{e:Ending}
abbrev Qbw (c a:Int):Value:=.agg #[Iv c,Iv a]
end
end Go.Proofs.YtjhdpajpibdnaafGreat
