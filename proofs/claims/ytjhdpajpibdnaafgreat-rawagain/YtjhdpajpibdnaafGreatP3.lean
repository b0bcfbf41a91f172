import Derived.Test.YtjhdpajpibdnaafGreatP2
import Derived.Defers
import Derived.Recover
set_option maxHeartbeats 16000000
set_option maxRecDepth 100000
namespace Go.Proofs.YtjhdpajpibdnaafGreat
open Go.ChangeShapes Go.WideShapes Go.ChangeAt Go.RowKit _root_.Go.Proofs.Tryz
set_option linter.unusedSimpArgs false
set_option linter.unusedVariables false
variable {w w' w6 w1 w2:World}{n b c k m rc ac X j B i cm g N d f fi cap bp q R pages id bi cc funcs s ci rl al ca ri vl most cR cA G:Nat}{O Q O':Nat→Prop}{l xs regs inp:List Int}{p a rg ag pm pi pa pR pA ra aa:Option Addr}{t e:TypeId}{v:Value}{P:Program}{L bs:List Bool}{x ya xc xk fr xa xb xn yb:Int}{ds cs:List Value}{ops:Array Oper}
def tru (p:Bool):Int:=if p then 1 else 0
theorem Qok (a b:Int) (w:World):Calls prog 136 #[Iv 1,Iv a,Iv b] w fun e w'=>e=.returned (.tuple #[Iv (wrap64 (a+b)),.bool true])/\w'=w:=by
 go_enter func136,ntmps136
 go_wp2
 go_ret2;exact⟨Z,Z⟩
theorem QnZ (a b:Int) (w:World):Calls prog 136 #[Iv 2,Iv a,Iv b] w fun e w'=>e=.returned (.tuple #[Iv (wrap64 (a - b)),.bool true])/\w'=w:=by
 go_enter func136,ntmps136
 go_wp2
 go_ret2;exact⟨Z,Z⟩
theorem Qod (a b:Int) (w:World):Calls prog 136 #[Iv 3,Iv a,Iv b] w fun e w'=>e=.returned (.tuple #[Iv (wrap64 (a*b)),.bool true])/\w'=w:=by
 go_enter func136,ntmps136
 go_wp2
 go_ret2;exact⟨Z,Z⟩
theorem Qoj (a b:Int) (w:World) (d:(b==0)=false) (c:¬ b=0):Calls prog 136 #[Iv 4,Iv a,Iv b] w fun e w'=>e=.returned (.tuple #[Iv (wrap64 (a.tdiv b)),.bool true])/\w'=w:=by
 go_enter func136,ntmps136
 go_wp2
 go_ret2;exact⟨Z,Z⟩
theorem Qne (a:Int) (w:World):Calls prog 136 #[Iv 4,Iv a,Iv 0] w fun e w'=>e=.returned (.tuple #[Iv 0,.bool false])/\w'=w:=by
 go_enter func136,ntmps136
 go_wp2
 go_ret2;exact⟨Z,Z⟩
theorem QnS (a b:Int) (w:World) (d:(b==0)=false) (c:¬ b=0):Calls prog 136 #[Iv 5,Iv a,Iv b] w fun e w'=>e=.returned (.tuple #[Iv (a.tmod b),.bool true])/\w'=w:=by
 go_enter func136,ntmps136
 go_wp2
 go_ret2;exact⟨Z,Z⟩
theorem Qnu (a:Int) (w:World):Calls prog 136 #[Iv 5,Iv a,Iv 0] w fun e w'=>e=.returned (.tuple #[Iv 0,.bool false])/\w'=w:=by
 go_enter func136,ntmps136
 go_wp2
 go_ret2;exact⟨Z,Z⟩
theorem Qn3 (a b:Int) (w:World):Calls prog 136 #[Iv 6,Iv a,Iv b] w fun e w'=>e=.returned (.tuple #[Iv (tru (decide (a<b))),.bool true])/\w'=w:=by
 by_cases h:a<b
 ·have c:tru (decide (a<b))=1:=by simp[tru,h]
  rw[c]
  go_enter func136,ntmps136
  go_wp2
  go_ret2;exact⟨Z,Z⟩
 ·have c:tru (decide (a<b))=0:=by simp[tru,h]
  rw[c]
  go_enter func136,ntmps136
  go_wp2
  go_ret2;exact⟨Z,Z⟩
theorem Qn2 (a b:Int) (w:World):Calls prog 136 #[Iv 7,Iv a,Iv b] w fun e w'=>e=.returned (.tuple #[Iv (tru (a==b)),.bool true])/\w'=w:=by
 cases h:(a==b)
 ·go_enter func136,ntmps136
  go_wp2
  go_ret2;exact⟨Z,Z⟩
 ·go_enter func136,ntmps136
  go_wp2
  go_ret2;exact⟨Z,Z⟩
theorem Qn6 (a b:Int) (w:World):Calls prog 136 #[Iv 8,Iv a,Iv b] w fun e w'=>e=.returned (.tuple #[Iv (bits .and .i64 a b),.bool true])/\w'=w:=by
 go_enter func136,ntmps136
 go_wp2
 go_ret2;exact⟨Z,Z⟩
theorem QnY (a b:Int) (w:World):Calls prog 136 #[Iv 9,Iv a,Iv b] w fun e w'=>e=.returned (.tuple #[Iv (bits .xor .i64 a b),.bool true])/\w'=w:=by
 go_enter func136,ntmps136
 go_wp2
 go_ret2;exact⟨Z,Z⟩
theorem QnV (k a b:Int) (w:World) (c:k<1\/9<k):Calls prog 136 #[Iv k,Iv a,Iv b] w fun e w'=>e=.returned (.tuple #[Iv 0,.bool false])/\w'=w:=by
 rcases c with c | c
 ·go_enter func136,ntmps136
  go_wp2
  go_ret2;exact⟨Z,Z⟩
 ·go_enter func136,ntmps136
  go_wp2
  go_ret2;exact⟨Z,Z⟩
def aOp (k a b:Int):Option Int :=
 if k=1 then some (wrap64 (a+b)) else if k=2 then some (wrap64 (a - b)) else if k=3 then some (wrap64 (a*b))
 else if k=4 then (if b=0 then none else some (wrap64 (a.tdiv b))) else if k=5 then (if b=0 then none else some (a.tmod b))
 else if k=6 then some (tru (decide (a<b))) else if k=7 then some (tru (a==b)) else if k=8 then some (bits .and .i64 a b) else if k=9 then some (bits .xor .i64 a b) else none
theorem Ql4 (k a b:Int) (w:World):Calls prog 136 #[Iv k,Iv a,Iv b] w fun e w'=>e=.returned (.tuple #[Iv ((aOp k a b).getD 0),.bool (aOp k a b).isSome])/\w'=w:=by
 by_cases d:k=1
 ·subst d;exact Qok a b w
 by_cases g:k=2
 ·subst g;exact QnZ a b w
 by_cases i:k=3
 ·subst i;exact Qod a b w
 by_cases l:k=4
 ·subst l;by_cases c:b=0
  ·subst c;exact Qne a w
  ·have:aOp 4 a b=some (wrap64 (a.tdiv b)):=by simp[aOp,c]
   rw[this];exact Qoj a b w (by simpa using c) c
 by_cases h:k=5
 ·subst h;by_cases c:b=0
  ·subst c;exact Qnu a w
  ·have:aOp 5 a b=some (a.tmod b):=by simp[aOp,c]
   rw[this];exact QnS a b w (by simpa using c) c
 by_cases j:k=6
 ·subst j;exact Qn3 a b w
 by_cases n:k=7
 ·subst n;exact Qn2 a b w
 by_cases f:k=8
 ·subst f;exact Qn6 a b w
 by_cases m:k=9
 ·subst m;exact QnY a b w
 ·have:aOp k a b=none:=by simp[aOp,d,g,i,l,h,j,n,f,m]
  rw[this];exact QnV k a b w (by omega)
theorem Q7 {x:Qs}{d:IP}(h:Blk w1 X (Zq x d) t):w1.cell? ⟨X,0,none⟩=some (Iv x.op)/\w1.cell? ⟨X,1,none⟩=some (Iv x.a)/\w1.cell? ⟨X,2,none⟩=some (Iv x.b)/\w1.cell? ⟨X,3,none⟩=some (Iv x.c)/\w1.cell? ⟨X,4,none⟩=some (Iv x.k)/\w1.cell? ⟨X,5,none⟩=some (Iv x.n)/\w1.cell? ⟨X,6,none⟩=some (.slice d.pR x.regs.length d.cR)/\w1.cell? ⟨X,7,none⟩=some (.slice d.pA x.args.length d.cA) :=
 ⟨Qb h 0 _ Z,Qb h 1 _ Z,Qb h 2 _ Z,Qb h 3 _ Z,Qb h 4 _ Z,Qb h 5 _ Z,Qb h 6 _ Z,Qb h 7 _ Z⟩
section
variable {m:List (MFunc 6)}{n n':Nat}{M M':IM}{x:Qs}{fn:MFunc 6}{bl:MBlock 6}{op:Int->Int->Int->Option Int}
theorem QcG (h:x.form funcs=0):(1<=x.op/\x.op<=14)/\(x.op=5->x.args.length<=8)/\(x.op=14->0<=x.k/\x.k<(funcs:Int)/\x.regs.length<=6/\x.args.length<=8):=by
 unfold Qs.form at h;split at h
 ·cases h
 rename_i a
 split at h
 ·cases h
 split at h
 ·cases h
 split at h
 ·cases h
 rename_i b
 split at h
 ·cases h
 split at h
 ·cases h
 rename_i c
 split at h
 ·cases h
 rename_i d
 refine⟨?_,fun e=>by omega,fun e=>by omega⟩
 unfold Q6 at a;by_cases e:1<=x.op/\x.op<=14
 ·exact e
 ·exfalso
  apply a
  repeat' rw[Xr (by omega)]
  rfl
end
structure ROk (m:List (MFunc 6)) (n:Nat) (R:RM):Prop where
 est:R.e.Ok
 fr:∀ d∈R.top::R.rest,d.v.length<=n+8/\∃ fn bl,m[d.f]?=some fn/\fn.blocks[d.b]?=some bl/\d.i<=bl.code.length
 inp:R.inp.length<=1000
 out:R.out.length<=2000/\R.back.length<=8
 deep:R.rest.length<=39
def OkW (m:List (MFunc 6)) (n:Nat) (o:Option RM):Prop:=∀ N,o=some N->ROk m n N
section
variable {m:List (MFunc 6)}{n n':Nat}{R R':RM}{x:Qs}{fn:MFunc 6}{bl:MBlock 6}{op:Int->Int->Int->Option Int}
theorem OkW.no:OkW m n none:=fun N h=>by cases h
theorem OkW.some (I:ROk m n R):OkW m n (some R):=fun N h=>by cases h;exact I
theorem OkW.ite {c:Prop}[Decidable c] {a b:Option RM}(e:c->OkW m n a) (d:¬ c->OkW m n b):OkW m n (if c then a else b):=by
 by_cases h:c
 ·rw[Xs h];exact e h
 ·rw[Xr h];exact d h
theorem ROk.mono (I:ROk m n R) (h:n<=n'):ROk m n' R:=⟨I.est,fun d a=>⟨by have:=(I.fr d a).1;omega,(I.fr d a).2⟩,I.inp,I.out,I.deep⟩
theorem ROk.over (I:ROk m n R) (k:Int):ROk m n (R.over k):=⟨I.est,I.fr,I.inp,I.out,I.deep⟩
def Now (m:List (MFunc 6)) (R:RM):Prop:=∃ fn bl,m[R.top.f]?=some fn/\fn.blocks[R.top.b]?=some bl/\R.top.i<bl.code.length
theorem ROk.on (I:ROk m n R) (H:Now m R)(j:l.length<=8):ROk m (n+8) (R.on l):=by
 refine⟨I.est,fun d a=>?_,I.inp,I.out,I.deep⟩
 rcases List.mem_cons.1 a with rfl | a
 ·obtain⟨b,-⟩:=I.fr R.top (by simp)
  obtain⟨e,i,f,h,g⟩:=H
  exact⟨by show (R.top.v++l).length<=_;rw[List.length_append];omega,e,i,f,h,g⟩
 ·obtain⟨b,c⟩:=I.fr d (List.mem_cons_of_mem _ a)
  exact⟨by omega,c⟩
theorem Qag {v:List Int}:∀ {l xs:List Int},QaA v l=some xs->xs.length=l.length
 | [],xs,h=>by simp[QaA] at h;subst h;simp
 | k::l,xs,h=>by
   simp only[QaA] at h
   cases hk:iAt v k with
   | none=>rw[hk] at h;cases h
   | some y =>
     rw[hk] at h
     simp only at h
     cases hl:QaA v l with
     | none=>rw[hl] at h;cases h
     | some ys =>
       rw[hl] at h
       simp at h
       subst h;simp[Qag hl]
theorem last_of :l=[]\/l.getLastD 0∈l:=by
 rcases List.eq_nil_or_concat l with a | ⟨b,k,a⟩
 ·exact .inl a
 ·right;rw[a];simp
theorem Qji {e:Est}(h:e.Ok) (k n:Int):0<=e.getAt k n/\e.getAt k n<=1040:=by
 have a:=h.ok
 have g:e.p.nextK<64/\-1<=e.p.nextK:=by
  unfold PSt.nextK
  cases hg:e.p.given.getLast? with
  | none =>
    simp only
    have:=a.high
    have:=a.most
    have:=a.low
    split<;>omega
  | some y =>
    have:=a.mem y (List.mem_of_getLast? hg)
    have:=a.high
    have:=a.most
    simp only
    omega
 unfold Est.getAt;split
 ·rename_i b
  unfold Est.getCode at b;split at b
  ·split at b
   ·omega
   ·cases hr:e.reg k.toNat with
    | none=>simp only;omega
    | some r =>
      rw[hr] at b
      simp only at b |-
      split at b
      ·omega
      ·rename_i d
       split
       ·rename_i c
        have:¬ e.p.nextK<0:=fun f=>d ⟨c,f⟩
        omega
       ·have i:=h.used _ _ hr
        have j:0<=r.pages.getLastD 0/\r.pages.getLastD 0<64:=by
         rcases last_of (l:=r.pages) with c | c
         ·rw[c];simp
         ·have:=h.low (k:=k.toNat) (x:=r.pages.getLastD 0) (by rw[Est.at_some hr];exact c)
          have:=a.most
          omega
        omega
  ·omega
 ·exact⟨by decide,by decide⟩
theorem QlF {e:Est}{k n:Int}(h:e.getCode k n≠0):e.got k n=e:=by unfold Est.got;rw[Xr h]
theorem Qfe (I:ROk m n R) (H:Now m R){h size:Int}:OkW m (n+8) (some (R.thing h size l)):=by
 refine OkW.some ?_;unfold RM.thing;split
 ·have J:ROk m n { R with e:=(R.e.got h size).withP ((R.e.got h size).p.puts (R.e.getAt h size) l) }:=⟨Est.Ok.puts l _ (I.est.got h size),I.fr,I.inp,I.out,I.deep⟩;exact J.on H (by simp)
 ·exact(I.over 6).mono (by omega)
theorem QjW (I:ROk m n R) (H:Now m R):OkW m (n+8) (R.part x):=by
 have d:∀ {v:Int},OkW m (n+8) (some (R.on [v])):=OkW.some (I.on H (by simp));have e:∀ {k v:Int},OkW m (n+8) (some ((R.stored k v).on [])):=fun {k v}=>OkW.some (ROk.on (R:=R.stored k v) ⟨I.est.store k v,I.fr,I.inp,I.out,I.deep⟩ H (by simp));have f:∀ k,OkW m (n+8) (some (R.over k)):=fun k=>OkW.some ((I.over k).mono (by omega));unfold RM.part
 cases ha:iAt R.top.v x.a with
 | none=>exact OkW.no
 | some a =>
   refine OkW.ite (fun _=>d) fun _=>OkW.ite (fun _=>?_) fun _=>OkW.ite (fun _=>?_) fun _=>OkW.ite (fun _=>?_) fun _=>OkW.ite (fun _=>d) fun _=>OkW.some (I.on H (by simp))
   ·cases hb:iAt R.top.v x.b with
    | none=>exact OkW.no
    | some y=>exact e
   ·cases hb:iAt R.top.v x.b with
    | none=>exact OkW.no
    | some y=>exact OkW.ite (fun _=>d) (fun _=>f 2)
   ·cases hb:iAt R.top.v x.b with
    | none=>exact OkW.no
    | some y =>
      cases hc:iAt R.top.v x.c with
      | none=>exact OkW.no
      | some z=>exact OkW.ite (fun _=>e) (fun _=>f 2)
theorem QhS (I:ROk m n R) (H:Now m R) (B:(modFault m).1=0) (y:x.form m.length=0):OkW m (n+8) (RM.ins op R x):=by
 obtain⟨-,J,q⟩:=QcG y
 have i:∀ {v:Int},OkW m (n+8) (some (R.on [v])):=OkW.some (I.on H (by simp));have g:∀ k,OkW m (n+8) (some (R.over k)):=fun k=>OkW.some ((I.over k).mono (by omega));unfold RM.ins;refine OkW.ite (fun _=>i) fun _=>OkW.ite (fun _=>?_) fun _=>OkW.ite (fun _=>OkW.ite (fun _=>OkW.some ?_) (fun _=>g 6)) fun _=>OkW.ite (fun _=>?_) fun _=>OkW.ite (fun _=>?_) fun _=>OkW.ite (fun _=>?_) fun _=>OkW.ite (fun _=>?_) fun _=>OkW.ite (fun _=>?_) fun _=>OkW.ite (fun e=>OkW.ite (fun z=>?_) (fun _=>g 5)) (fun _=>QjW I H)
 ·cases ha:iAt R.top.v x.a with
  | none=>exact OkW.no
  | some a =>
    cases r:iAt R.top.v x.b with
    | none=>exact OkW.no
    | some b =>
      simp only
      cases ho:op x.k a b with
      | none=>exact g 1
      | some c=>exact i
 ·exact ROk.on (R:={ R with e:=R.e.opened }) ⟨I.est.opened,I.fr,I.inp,I.out,I.deep⟩ H (by simp)
 ·cases ha:iAt R.top.v x.a with
  | none=>exact OkW.no
  | some a=>exact OkW.some (ROk.on (R:={ R with e:=R.e.shut a }) ⟨I.est.shut a,I.fr,I.inp,I.out,I.deep⟩ H (by simp))
 ·cases ha:iAt R.top.v x.a with
  | none=>exact OkW.no
  | some a=>cases hv:QaA R.top.v x.args with
    | none=>exact OkW.no
    | some l=>exact Qfe I H
 ·cases ha:iAt R.top.v x.a with
  | none=>exact OkW.no
  | some a=>cases r:iAt R.top.v x.b with
    | none=>exact OkW.no
    | some k=>exact OkW.ite (fun _=>Qfe I H) (fun _=>g 3)
 ·cases s:R.inp with
  | nil=>exact g 4
  | cons k l =>
    have t:=I.inp;rw[s] at t
    exact OkW.some (ROk.on (R:={ R with inp:=l }) ⟨I.est,I.fr,by simp at t;show l.length<=1000;omega,I.out,I.deep⟩ H (by simp))
 ·cases ha:iAt R.top.v x.a with
  | none=>exact OkW.no
  | some a=>exact OkW.ite (fun h=>OkW.some (ROk.on (R:={ R with out:=R.out++[a] }) ⟨I.est,I.fr,I.inp,⟨by show (R.out++[a]).length<=2000;simp;omega,I.out.2⟩,I.deep⟩ H (by simp))) (fun _=>g 8)
 ·cases hv:QaA R.top.v x.args with
  | none=>exact OkW.no
  | some l =>
    refine OkW.some ?_;obtain⟨D,C,-,G⟩:=q e
    obtain⟨f,j⟩:∃ f,m[x.k.toNat]?=some f:=⟨_,Zg (by omega)⟩
    obtain⟨A,p,-⟩:=Z2 B j
    have F:=Qag hv;refine⟨I.est,fun d o=>?_,I.inp,I.out,by show (_::R.rest).length<=39;simp;omega⟩
    simp only[List.mem_cons] at o
    rcases o with rfl | rfl | o
    ·exact⟨by show l.length<=_;omega,f,A,j,p,Xb _⟩
    ·obtain⟨E,-⟩:=I.fr R.top (by simp)
     obtain⟨u,w,j,r,s⟩:=H
     exact⟨by show R.top.v.length<=_;omega,u,w,j,r,s⟩
    ·have h:=I.fr d (List.mem_cons_of_mem _ o);exact⟨by omega,h.2⟩
theorem Qle (I:ROk m n R) (c:m[R.top.f]?=some fn){t:MTo}(g:t.args.length<=8/\0<=t.block/\t.block<(fn.blocks.length:Int)):OkW m n (R.to t):=by
 unfold RM.to
 cases hv:QaA R.top.v t.args with
 | none=>exact OkW.no
 | some l =>
   obtain⟨b,e⟩:∃ b,fn.blocks[t.block.toNat]?=some b:=⟨_,Zg (by omega)⟩
   have h:=Qag hv;refine OkW.some ⟨I.est,fun d a=>?_,I.inp,I.out,I.deep⟩;rcases List.mem_cons.1 a with rfl | a
   ·exact⟨by show l.length<=_;omega,fn,b,c,e,Xb _⟩
   ·exact I.fr d (List.mem_cons_of_mem _ a)
theorem Qke (I:ROk m n R) (o:m[R.top.f]?=some fn){e:ZA}(u:e.form fn.blocks.length=0):OkW m (n+8) (R.endd e):=by
 obtain⟨w,x,q,i⟩:=Qez u
 have Y:e.op≠3->OkW m (n+8) (R.to e.yes):=fun s N h=>(Qle I o (by have:=Qer (q s);omega) N h).mono (by omega);unfold RM.endd;refine OkW.ite (fun g=>?_) fun g=>OkW.ite (fun t=>?_) fun _=>Y g
 ·cases hv:QaA R.top.v e.args with
  | none=>exact OkW.no
  | some l =>
    have z:=Qag hv
    cases hr:R.rest with
    | nil =>
      simp only
      have b:=I.fr;rw[hr] at b
      exact OkW.some (ROk.mono (n:=n) ⟨I.est,fun d r=>b d r,I.inp,⟨I.out.1,by show l.length<=8;omega⟩,by have:=I.deep;rw[hr] at this;exact this⟩ (by omega))
    | cons d rest =>
      simp only
      refine OkW.some ⟨I.est,fun c j=>?_,I.inp,I.out,by have:=I.deep;rw[hr] at this;simp at this;show rest.length<=39;omega⟩;rcases List.mem_cons.1 j with rfl | j
      ·obtain⟨y,p⟩:=I.fr d (by rw[hr];simp)
       exact⟨by show (d.v++l).length<=_;rw[List.length_append];omega,p⟩
      ·have h:=I.fr c (by rw[hr];simp[j]);exact⟨by omega,h.2⟩
 ·cases iAt R.top.v e.a with
  | none=>exact OkW.no
  | some k=>exact OkW.ite (fun _=>fun N h=>(Qle I o (by have:=Qer (i t);omega) N h).mono (by omega)) (fun _=>Y g)
theorem QkI (I:ROk m n R) (d:(modFault m).1=0):OkW m (n+8) (RM.step m op most R):=by
 unfold RM.step;refine OkW.ite (fun _=>OkW.some ((I.over 7).mono (by omega))) fun _=>?_;obtain⟨-,f,c,a,b,h⟩:=I.fr R.top (by simp)
 rw[a]
 simp only
 rw[b]
 simp only
 have g:=(Zn d).2 f (Zm a);have e:=g.blocks c (Zm b);have J:ROk m n { R with fuel:=R.fuel+1 }:=⟨I.est,I.fr,I.inp,I.out,I.deep⟩
 cases hx:c.code[R.top.i]? with
 | none=>exact Qke J a e.fin
 | some x=>exact QhS J ⟨f,c,a,b,(Zi hx).1⟩ d (e.code x (Zm hx))
theorem QcD (c:(modFault m).1=0)(hi:inp.length<=1000)(g:pages<=64):ROk m 0 (RM.start inp pages):=by
 have i:=(Zn c).1.1;obtain⟨a,e⟩:∃ a,m[0]?=some a:=⟨_,Zg i⟩
 obtain⟨h,b,-⟩:=Z2 c e
 refine⟨Est.ok_new pages g,fun d f=>?_,hi,⟨by simp[RM.start],by simp[RM.start]⟩,by simp[RM.start]⟩
 simp only[RM.start,List.mem_cons,List.not_mem_nil,or_false] at f
 subst f;exact⟨by simp,a,h,e,b,Xb _⟩
theorem Qdd (b:(modFault m).1=0)(I:ROk m 0 R):∀ (k:Nat){N:RM},RM.steps m op most k R=some N->ROk m (8*k) N:=by
 intro k
 have a:∀ (k:Nat) (n:Nat) (Q N:RM),ROk m n Q->RM.steps m op most k Q=some N->ROk m (n+8*k) N:=by
  intro k
  induction k with
  | zero=>intro n Q N J h;simp only[RM.steps] at h;cases h;exact J
  | succ k ih =>
    intro n Q N J h;simp only[RM.steps] at h
    split at h
    ·cases h;exact J.mono (by omega)
    ·cases hs:RM.step m op most Q with
     | none=>rw[hs] at h;cases h
     | some Q' =>
       rw[hs] at h
       exact(ih (n+8) Q' N (QkI J b Q' hs) h).mono (by omega)
 intro N h
 have:=a k 0 R N I h
 rwa [XK] at this
end
theorem Xz:type_of% @bodyPost_end:=@bodyPost_end
abbrev QdE (c:Int):List PanicEntry:=[{ v:=.iface 187 (Iv c),recovered:=false }]
theorem QaH (w:World) (c:Int):Calls prog 111 #[.bool true,Iv c] w fun e w'=>e=.returned (.tuple #[])/\w'=w:=by
 go_enter func111,ntmps111
 go_wp2
 exact Xz (v:=.tuple #[]) (by simp[results,results111,go_sem]) Z ⟨Z,Z⟩
theorem Z7 (w:World) (c:Int):Calls prog 111 #[.bool false,Iv c] w fun e w'=>e=.panicked (QdE c)/\w'=w:=by
 go_enter func111,ntmps111
 go_wp2
 exact⟨Z,Z,Z⟩
def RM.push (R:RM) (l:List Int):RM:={ R with top:={ R.top with v:=R.top.v++l } }
theorem Qm9 (n:Nat) (f:n<=1099511627776) (w:World):(Instr.makeSlice 25 (Iv (n:Int)) (Iv (n:Int))).run prog w=.ok (.slice (some ⟨w.heap.size,0,none⟩) n n) (w.alloc (.cells (madeCells (#[Iv 0]:Array Value) n) 2)):=by
 obtain⟨e,d,a,b,c⟩:=iInfo64
 exact run_make_row (P:=prog) 25 2 e (Iv 0) iUnder64 d a b Z .i64 .i64 n (by rw[c];omega) (by omega) w
theorem QbU.of {w:World}(b:l.length=n) (g:n<=1099511627776) (h:w.rowIs k 2 n (fun i=>Iv (l.getD i 0))):QbU w (.slice (some ⟨k,0,none⟩) n n) l:=by
 subst b;obtain⟨c,f,e,d⟩:=h
 refine⟨by simp,.inr ⟨k,l.length,c,Z,Xb _,f,Ze,by unfold maxLen;omega,by simpa using e,?_⟩⟩
 refine List.ext_getElem? (fun i=>?_);rw[XR,Array.getElem?_toList,XS,XL]
 by_cases a:i<l.length
 ·rw[Xs a,d i a,Zg a];simp[List.getD,a]
 ·rw[Xr a,Xk (by omega)];rfl
theorem QbU.cell {w:World}{v:Value}(h:QbU w v l):∃ a c,v=.slice a l.length c/\∀ i,i<l.length->∃ k,a=some ⟨k,0,none⟩/\v.ownBlock=some k/\w.cell? ⟨k,i,none⟩=some (Iv (l.getD i 0)):=by
 rcases h.2 with ⟨e,m⟩|⟨k,d,j,e,_,n,p,o,q,g⟩
 ·exact⟨none,0,by rw[e,m],fun i b=>by omega⟩
 ·refine⟨_,d,e,fun i b=>⟨k,Z,by rw[e];rfl,?_⟩⟩
  have f:(l.map (Value.int .i64))[i]?=some (Iv (l.getD i 0)):=by rw[XS,Zg b];simp[List.getD,b]
  rw[<-g,XR,Xs (by omega),Array.getElem?_toList] at f
  exact Qb n _ _ f
theorem Qla {v:List Int}{a:Int}(h:iAt v a=some x):∃ j:Nat,a=j/\j<v.length/\x=v.getD j 0:=by
 unfold iAt at h;split at h
 ·cases h
 ·rename_i b
  refine⟨a.toNat,by omega,(Zi h).1,?_⟩
  simp[List.getD,h]
theorem Qi9 {v:List Int}:∀ {l xs:List Int},QaA v l=some xs->∀ (q:Nat) (a:Int),l[q]?=some a->iAt v a=some (xs.getD q 0)/\q<xs.length
 | [],xs,h,q,a,ha=>by simp at ha
 | k::l,xs,h,q,a,ha=>by
   simp only[QaA] at h
   cases hk:iAt v k with
   | none=>rw[hk] at h;cases h
   | some y =>
     rw[hk] at h
     simp only at h
     cases hl:QaA v l with
     | none=>rw[hl] at h;cases h
     | some ys =>
       rw[hl] at h
       simp at h
       subst h
       cases q with
       | zero=>simp at ha;subst ha;exact⟨by simpa using hk,by simp⟩
       | succ q =>
         obtain⟨b,c⟩:=Qi9 hl q a (by simpa using ha)
         exact⟨by simpa[List.getD] using b,by simp;omega⟩
def Qm2 (w:World) (xs:List Int) (n:Nat) (e:Ending) (w':World):Prop:=∃ k,e=.returned (.slice (some ⟨k,0,none⟩) n n)/\w.heap.size<=k/\QbU w' (.slice (some ⟨k,0,none⟩) n n) xs/\Below w.heap.size w w'
section
variable {w:World}{c:Nat}{fr:RFr}{v:Value}
theorem Qd7 (F:WFr w c fr v) (hl:fr.v.length<=1000000){W:Nat}(x:l.length=n) (hb:n<=1000000) (R:intsL.In w Q l [.slice p n W]) (u:QaA fr.v l=some xs) :
 Calls prog 167 #[Pv c 0,.slice p n W] w fun e w'=>Qm2 w xs n e w':=by
 have J:=Qm9 n (by omega) w;have z:=Qc (World.rowIs_made w (Iv 0) n 2);have T:=Qc (ZO w (.cells (madeCells (#[Iv 0]:Array Value) n) 2));have H:=Qc R;have K:=Qc x;have y:=Qc u;have G:Hid (xs.length=n):=(Qag u).trans x;obtain⟨va,vc,ev,P⟩:=F.2.cell
 have r:w.cell? ⟨c,3,none⟩=some v:=Qb F.1 3 _ Z;rw[ev] at r
 have D:=Qc P;have Q3:=Qc r;clear R x F u P r;go_enter func167,ntmps167
 go_upto_region 2 with fail
 generalize w.alloc (.cells (madeCells (#[Iv 0]:Array Value) n) 2)=w1 at z T |-;clear J;obtain⟨g,S⟩:∃ g,g=w.heap.size:=⟨_,Z⟩
 have N:Hid (w.heap.size<=g):=by show _<=_;omega
 rw[<-S] at z |-
 clear S;go_wp2_with fail
 go_loopw [13] (fun i wr=>∃ q:Nat,q<=n/\i=Iv q/\wr.rowIs g 2 n (fun i=>if i<q then Iv (xs.getD i 0) else Iv 0)/\Below w.heap.size w wr) (fun i _=>n - (intOf i).toNat)
 case atStart=>exact⟨0,Xb _,Z,z.out.congr (fun i _=>by rw[Xr (by omega)]),T.out⟩
 case round =>
  obtain⟨q,hq,rfl,L,O⟩:=hrel
  have o:=Qc L;have d:=Qc O;clear L O;by_cases b:q<n
  ·have V:(q:Int)<n:=by omega
   obtain⟨a,s⟩:∃ a,l[q]?=some a:=⟨_,Zg (by rw[K.out];exact b)⟩
   have m:q<l.length:=by rw[K.out];exact b
   obtain⟨h,t⟩:=Qi9 y.out q a s
   obtain⟨j,rfl,hj,f⟩:=Qla h
   obtain⟨g1,o1,rfl,-,C,E⟩:=ZI H.out m
   rw[show l.getD q 0=(j:Int) by rw[List.getD_eq_getElem?_getD,s];rfl] at E
   have E:=Qk E d.out;obtain⟨k,rfl,-,A⟩:=D.out j hj
   rw[<-f] at A
   have A:=Qk A d.out;have c3:=Qk Q3.out d.out;have X:(j:Int)<fr.v.length:=by omega
   have p0:=o.out.cell b;rw[Xr (by omega)] at p0
   have f0:=o.out.frozen q
   have PR:Hid ((wr.setCell ⟨g,q,none⟩ (Iv (xs.getD q 0))).rowIs g 2 n (fun i=>if i<q+1 then Iv (xs.getD i 0) else Iv 0)):=(o.out.set q (Iv (xs.getD q 0))).congr (fun i U=>by
    by_cases e:i=q
    ·subst e;rw[Xs Z,Xs (by omega)]
    ·rw[Xr e]
     by_cases M:i<q
     ·rw[Xs M,Xs (by omega)]
     ·rw[Xr M,Xr (by omega)])
   have PB:Hid (Below w.heap.size w (wr.setCell ⟨g,q,none⟩ (Iv (xs.getD q 0)))):=d.out.setCell (p:=⟨g,q,none⟩) N.out _;clear m C s h t f;generalize xs.getD q 0=xq at *;generalize fr.v.length=vl at *;clear o d D H y;go_wp2
   go_roundw
   case rel=>exact⟨q+1,by omega,by go_num,PR.out,PB.out⟩
   case measure=>simp[intOf];omega
  ·have I:q=n:=by omega
   subst I;have B:=Qc (QbU.of G.out (by omega) (o.out.congr (fun i U=>by rw[Xs U])));clear D H y;go_wp2
   go_ret;exact⟨g,Z,N.out,B.out,d.out⟩
end
section
variable {w w' w2:World}{b most:Nat}{m:List (MFunc 6)}{R R':RM}{g g1:WG}{c:Nat}{fr:RFr}{v:Value}
theorem WAt.pushed (S:WAt w b most m R g){v9:Value}{w9:World}(r:w9.ownsRow 0 2 1 v9 (R.top.v.length+l.length) (R.top.v.map (Value.int .i64)++l.map (Value.int .i64))) (a:w.grownBy w9 g.t.v.ownBlock) (q:∀ k,v9.ownBlock=some k->g.t.v.ownBlock=some k\/k=w.heap.size) :
 WTo g w (w9.setCell ⟨g.t.c,3,none⟩ v9) b most m (R.push l):=by
 obtain⟨⟨F,o,u⟩,-⟩:=S.frs
 have n:=XC F.1;have f:∀ x,g.t.v.ownBlock=some x->x≠g.t.c:=fun x j e=>by have:=u x j;rw[e,o] at this;omega
 have p:w9.heap[g.t.c]?=_:=(a.block g.t.c n (fun e=>f _ e.symm Z)).trans F.1
 have i:∀ k,v9.ownBlock=some k->k≠g.t.c:=fun k d e=>by
  rcases q k d with h | h
  ·exact f k h e
  ·omega
 refine S.setTop a.os a.tape a.output (by simpa using a.size) (fun k d s o=>?_) ⟨?_,?_⟩ (fun k d=>(q k d).imp id (fun e=>by omega))
 ·rw[Xd _ _ _ _ s]
  exact a.block k d (fun e=>o e.symm)
 ·have:=Qh p 3 v9
  simpa using this
 ·show World.ownsRow _ 0 _ 1 v9 (R.top.v++l).length ((R.top.v++l).map (Value.int .i64));rw[List.length_append,List.map_append]
  exact QZ r (fun x j=>Xd _ _ _ _ (i x j))
theorem QbY (S:WAt w b most m R g){D:Nat}{a:Addr}(G:l.length=n) (d:∀ (j:Nat) (u:Value),(l.map (Value.int .i64))[j]?=some u->w.cell? (a.add j)=some u) (P:R.top.v.length+n<=1000000) :
 Calls prog 169 #[Pv g.t.c 0,.slice (some a) n D] w fun e w'=>e=.returned (.tuple #[])/\WTo g w w' b most m (R.push l):=by
 obtain⟨H,K,o,s,y⟩:=iInfo64
 subst G;obtain⟨⟨F,z,A⟩,-⟩:=S.frs
 obtain⟨O,N,I⟩:=QaR F.2
 have B:=Qb F.1 3 _ Z;have h:Hid (g.t.v.ownBlock≠some g.t.c):=fun e=>by have:=A _ e;rw[z] at this;omega
 have k:=Qc F.2;have i:=Qc F.1;have J:=Qc d;have r:=Qc (fun v9 w9=>S.pushed (l:=l) (v9:=v9) (w9:=w9));clear S F d z A;go_enter func169,ntmps169
 unfold QbU at k;rw[I] at B k r i h
 go_wp2_with (at_builtin;refine ZP _ Z _ _ 25 Z 2 H (Iv 0) 1 8 iUnder64 K o s y Z (by decide) _ _ _ Z k.out a l.length D (l.map (Value.int .i64)) Z (by simp) J.out (by intro u E;obtain⟨x,_,rfl⟩:=List.mem_map.1 E;rfl) (by unfold maxLen;omega) (by omega) ?_)
 intro v9 w9 q p C;have R:=Qc (r.out v9 w9 q p C);have f:=(p.block g.t.c (XC i.out) (fun e=>h.out e.symm)).trans i.out;have L:=Qb f 3 _ Z;have T:=Qj f 3;obtain⟨M,Q,rfl⟩:=QaR q
 clear q p C r f i k B;go_wp2
 exact Xz (v:=.tuple #[]) (by simp[results,results169,go_sem]) Z ⟨Z,R.out⟩
theorem QmQ (w:World) (n:Int):∀ (j:Nat) (u:Value),([n].map (Value.int .i64))[j]?=some u->(w.alloc (.cells #[Iv n] 2)).cell? ((⟨w.heap.size,0,none⟩:Addr).add j)=some u:=Qme w [Iv n] 2
theorem Qb2 (S:WAt w b most m R g) (n:Int) (d:R.top.v.length+1<=1000000) :
 Calls prog 169 #[Pv g.t.c 0,.slice (some ⟨w.heap.size,0,none⟩) 1 1] (w.alloc (.cells #[Iv n] 2)) fun e w'=>e=.returned (.tuple #[])/\WTo g w w' b most m (R.push [n]):=by
 have a:=ZO w (.cells #[Iv n] 2);refine(QbY (S.below a) (l:=[n]) Z (QmQ w n) d).mono ?_
 rintro e w' ⟨rfl,h⟩;exact⟨Z,WTo.then (S.stepB a) Z Z h⟩
def QmN (w:World) (fr:RFr) (e:Ending) (w':World):Prop:=∃ k x n,e=.returned (Pv k 0)/\w.heap.size<=k/\w.heap.size<=x/\WFr w' k fr (.slice (some ⟨x,0,none⟩) n n)/\Below w.heap.size w w'
theorem QdS (F:WFr w c fr v) (r:fr.v.length<=1000000){m:Nat}(d:l.length=n) (j:n<=1000000) (i:intsL.In w Q l [.slice p n m]) (a:QaA fr.v l=some xs) (f h:Nat) :
 Calls prog 216 #[Pv c 0,Iv f,Iv h,.slice p n m] w fun e w'=>QmN w ⟨f,h,0,xs⟩ e w':=by
 have C:=Qc (Qd7 F r d j i a);have s:Hid (xs.length=n):=(Qag a).trans d;clear F d j i a;go_enter func216,ntmps216
 go_wp2_with (go_at_call 167;refine C.out.mono ?_;rintro t o ⟨k,rfl,q,g,b⟩)
 go_ret;exact⟨o.heap.size,k,n,Z,b.size,q,⟨Qe _ _ _,QZ g (fun x a=>Below.heap_alloc _ _ _ (QbU.lt g a))⟩,b.trans ((ZO o _).mono b.size)⟩
theorem WAt.callsForm (S:WAt w b most m R g):∃ gc cap,g.vc=.slice (some ⟨gc,0,none⟩) (R.rest.length+1) cap/\R.rest.length+1<=cap/\w.cell? ⟨gc,R.rest.length,none⟩=some (Pv g.t.c 0):=by
 rcases S.calls.2 with ⟨_,n⟩|⟨gc,cap,h,e,_,i,d,k,l,f⟩
 ·omega
 ·refine⟨gc,cap,e,d,?_⟩
  have j:=S.rows
  have a:(Qaq (g.t::g.fs))[R.rest.length]?=some (Pv g.t.c 0):=by
   simp[Qaq,<-j]
  rw[<-f,XR,Xs (by omega),Array.getElem?_toList] at a
  exact Qb i _ _ a
theorem Qgs (S:WAt w b most m R g) (j:R.rest.length<=1000) :
 Calls prog 112 #[Pv b 0] w fun e w'=>e=.returned (Pv g.t.c 0)/\Below w.heap.size w w':=by
 obtain⟨o,h,a,d,l⟩:=S.callsForm
 have i:w.cell? ⟨b,4,none⟩=some g.vc:=Qb S.box 4 _ Z;rw[a] at i
 clear a S;generalize R.rest.length=n at *;have k:(↑(n+1):Int) - 1=n:=by omega
 have f:(n:Int)<(n:Int)+1:=by omega
 go_enter func112,ntmps112
 go_upto_region 1 with fail
 go_quiet (fail)
 go_wp2
 go_ret;exact⟨Z,Qai Zr _⟩
end
theorem Zw.cellAt {e:Est}{L g:Nat->Nat}(h:Zw w b O e L bp g) (k:Nat) (a:k<16):w.cell? ⟨b,1+k,none⟩=some (QaV (e.reg k) (g k)):=by
 have:=h.row.cell (i:=1+k) (by omega)
 rw[this]
 simp[Qmd]
theorem Zw.cell0 {e:Est}{L g:Nat->Nat}(h:Zw w b O e L bp g):w.cell? ⟨b,0,none⟩=some (Pv bp 0):=by
 have:=h.row.cell (i:=0) (by omega)
 rw[this];rfl
theorem Qi6 (w:World) (b a:Nat) (O:Nat->Prop) (e:Est) (k:Int) (h:QU w b a O e) :
 Calls prog 217 #[Pv b 0,Iv k] w fun e' w'=>e'=.returned (.bool (e.has k))/\w'=w:=by
 obtain⟨L,g,h⟩:=h
 by_cases d:0<=k
 ·by_cases f:k<16
  ·obtain⟨j,rfl⟩:=Xc d
   have c:=h.cellAt j (by omega)
   cases hr:e.reg j with
   | none =>
     rw[hr] at c
     have E:Hid (e.has j=false):=Est.has_none hr;simp only[QaV] at c
     clear h hr;go_enter func217,ntmps217
     go_wp2
     go_ret;exact⟨by rw[E.out];rfl,Z⟩
   | some r =>
     rw[hr] at c
     have E:Hid (e.has j=true):=Est.has_of (by omega) hr;simp only[QaV] at c
     clear h hr;go_enter func217,ntmps217
     go_wp2
     go_ret;exact⟨by rw[E.out];rfl,Z⟩
  ·have E:Hid (e.has k=false):=Est.has_out (by omega);clear h;go_enter func217,ntmps217
   go_wp2
   go_ret;exact⟨by rw[E.out];rfl,Z⟩
 ·have E:Hid (e.has k=false):=Est.has_out (by omega);clear h;go_enter func217,ntmps217
  go_wp2
  go_ret;exact⟨by rw[E.out];rfl,Z⟩
def Qbf (e:Est) (g:Nat->Nat):List Value:=(List.range 16).map fun k=>QaV (e.reg k) (g k)
theorem Zw.range {e:Est}{L g:Nat->Nat}(h:Zw w b O e L bp g):w.rangeAt b 1 (Qbf e g):=by
 intro j v c
 have a:j<16:=by
  have:=(Zi c).1
  simpa[Qbf] using this
 rw[h.cellAt j a,<-c]
 simp[Qbf,a]
theorem QdF (w:World) (e:Est) (g:Nat->Nat) (k:Nat) (a:k<16) :
 (Instr.index 71 (.agg (Qbf e g).toArray) (Iv k)).run prog w=.ok (QaV (e.reg k) (g k)) w:=by
 have b:(Qbf e g)[k]?=some (QaV (e.reg k) (g k)):=by simp[Qbf,a]
 have c:(sizeOf 70).run prog w=.ok 1 w:=by kernel_rfl
 simp[Instr.index,run_underlying underlying71,asIntOf,c,part,a,b]
theorem QmY (w:World) (b j:Nat) (O:Nat->Prop) (e:Est) (h:QU w b j O e) :
 Calls prog 36 #[Pv b 0] w fun e' w'=>e'=.returned (Iv e.count)/\w'=w:=by
 obtain⟨L,g,h⟩:=h
 have d:Hid (w.rangeAt b 1 (Qbf e g)):=h.range;clear h;go_enter func36,ntmps36
 go_wp2_with (refine wpList_load_mid Z 71 (.tmp 8) Z b 1 Z (Qbf e g) _ d.out underlying71 Z (by kernel_rfl) ?_)
 go_loop [3,10] (fun n i=>∃ k:Nat,k<=16/\i=Iv k/\n=Iv (Zb e.reg k)) (fun _ i=>16 - (intOf i).toNat)
 case atStart=>exact⟨0,by omega,Z,Z⟩
 case round =>
  obtain⟨k,l,rfl,rfl⟩:=hrel
  have m:=Qa2 e.reg k;by_cases c:k<16
  ·have a:=fun w=>QdF w e g k c
   cases hr:e.reg k with
   | none =>
     have E:Hid (Zb e.reg (k+1)=Zb e.reg k):=by show _=_;simp[Zb,hr]
     rw[hr] at a
     simp only[QaV] at a
     clear hr;go_wp2
     go_round
     case rel=>exact⟨k+1,by omega,by go_num,by rw[E.out]⟩
     case measure=>simp[intOf];omega
   | some r =>
     have E:Hid (Zb e.reg (k+1)=Zb e.reg k+1):=by show _=_;simp[Zb,hr]
     rw[hr] at a
     simp only[QaV] at a
     clear hr;go_wp2
     go_round
     case rel=>exact⟨k+1,by omega,by go_num,by rw[E.out]⟩
     case measure=>simp[intOf];omega
  ·have f:k=16:=by omega
   subst f;have E:Hid (Zb e.reg 16=e.count):=rfl;go_wp2
   go_ret;exact⟨by rw[E.out];rfl,Z⟩
def newReg:Obj:=.cells #[Nv,Iv 0] 285
theorem Zw.mono {e:Est}{L g:Nat->Nat}(h:Zw w b O e L bp g) (c:∀ x,O x->x<w.heap.size->O' x):Zw w b O' e L bp g :=
 ⟨h.row,h.own,h.pool,h.reg,fun x a=>⟨c x (h.all x a).1 (h.all x a).2,(h.all x a).2⟩⟩
theorem Zw.opened {e:Est}{L g:Nat->Nat}(h:Zw w b O e L bp g) (k:Nat) (z:k<16) (A:e.reg k=none) :
 QU ((w.alloc newReg).setCell ⟨b,1+k,none⟩ (Pv w.heap.size 0)) b bp (Q1 O w ((w.alloc newReg).setCell ⟨b,1+k,none⟩ (Pv w.heap.size 0))) (e.set k (some ⟨[],0⟩)) /\
 Qz O (Q1 O w ((w.alloc newReg).setCell ⟨b,1+k,none⟩ (Pv w.heap.size 0))) w ((w.alloc newReg).setCell ⟨b,1+k,none⟩ (Pv w.heap.size 0)):=by
 have l:Qz (fun x=>L x=1) (fun x=>L x=1) w ((w.alloc newReg).setCell ⟨b,1+k,none⟩ (Pv w.heap.size 0)):=((Qz.refl _ w).alloc newReg).setCell (p:=⟨b,1+k,none⟩) h.own _;have u:=h.row.lt;have c:=(h.row.alloc newReg).set (1+k) (Pv w.heap.size 0)
 have d:((w.alloc newReg).setCell ⟨b,1+k,none⟩ (Pv w.heap.size 0)).heap[w.heap.size]?=some (.cells #[Nv,Iv 0] 285 (0,0)):=by
  rw[Xd _ _ _ _ (show w.heap.size≠b by omega)];exact Qe w _ _
 have n:((w.alloc newReg).setCell ⟨b,1+k,none⟩ (Pv w.heap.size 0)).heap.size=w.heap.size+1:=by simp
 generalize (w.alloc newReg).setCell ⟨b,1+k,none⟩ (Pv w.heap.size 0)=o at *;refine⟨⟨QbD L (k+3) w o,fun j=>if j=k then w.heap.size else g j,?_,?_,?_,?_,?_⟩,Qdf h.all (by decide) l⟩
 ·refine c.congr fun i B=>?_;unfold Qmd QaV Est.set;by_cases s:i=0
  ·subst s;rw[Xr (by omega)];rfl
  ·by_cases a:i=1+k
   ·subst a;simp
   ·have y:¬ (i - 1=k):=by omega
    simp[s,a,y]
 ·exact(Zh h.all (by omega) (by decide) b).2 h.own
 ·exact(h.pool.step l (fun x t v=>by omega)).mono (fun x f _=>(Zh h.all (by omega) (by decide) x).2 f)
 ·intro j q r;by_cases a:j=k
  ·subst a
   have:q=⟨[],0⟩:=by simpa[Est.set] using r.symm
   subst this;refine⟨Nv,?_,Row.nil _ _ _,?_⟩
   ·simpa[Reg.left] using d
   ·simp[QbD,n]
  ·have m:e.reg j=some q:=by simpa[Est.set,a] using r
   have:=((h.reg j q m).step l (fun x t v=>by omega)).mono (O':=fun x=>QbD L (k+3) w o x=j+3) (fun x f _=>(Zh h.all (by omega) (by omega) x).2 f)
   simpa[a] using this
 ·exact QcJ h.all (by omega) (by omega)
theorem QU.refl_grow {e:Est}(h:QU w b bp O e):QU w b bp (Q1 O w w) e:=h.mono QeB
theorem QkB (w:World) (b f:Nat) (O:Nat->Prop) (e:Est) (h:QU w b f O e) :
 Calls prog 170 #[Pv b 0] w fun e' w'=>e'=.returned (Iv e.openK)/\QU w' b f (Q1 O w w') e.opened/\Qz O (Q1 O w w') w w':=by
 have q:=h;obtain⟨L,g,h⟩:=h
 have m:Hid (w.rangeAt b 1 (Qbf e g)):=h.range;have n:Hid (Zw w b O e L f g):=h;have t:=h.row.lt;clear h;have s:Hid (QU w b f O e):=q;clear q;go_enter func170,ntmps170
 go_wp2_with (refine wpList_load_mid Z 71 (.tmp 7) Z b 1 Z (Qbf e g) _ m.out underlying71 Z (by kernel_rfl) ?_)
 go_loop [9] (fun i=>∃ k:Nat,k<=16/\i=Iv k/\∀ j,j<k->e.reg j≠none) (fun i=>16 - (intOf i).toNat)
 case atStart=>exact⟨0,by omega,Z,fun j l=>by omega⟩
 case round =>
  obtain⟨k,u,rfl,a⟩:=hrel
  by_cases c:k<16
  ·have d:=fun w=>QdF w e g k c
   cases hr:e.reg k with
   | none =>
     have E:Hid (e.openK=k/\e.opened=e.set k (some ⟨[],0⟩)):=Est.open_yes a c hr;have Q:=n.out.opened k c hr
     have D:Hid (QU ((w.alloc newReg).setCell ⟨b,1+k,none⟩ (Pv w.heap.size 0)) b f (Q1 O w ((w.alloc newReg).setCell ⟨b,1+k,none⟩ (Pv w.heap.size 0))) (e.set k (some ⟨[],0⟩)) /\
      Qz O (Q1 O w ((w.alloc newReg).setCell ⟨b,1+k,none⟩ (Pv w.heap.size 0))) w ((w.alloc newReg).setCell ⟨b,1+k,none⟩ (Pv w.heap.size 0))):=Q
     have p:=n.out.cellAt k c;have v:=n.out.row.frozen (1+k);rw[hr] at d p
     simp only[QaV] at d p
     clear hr a Q;go_wp2
     go_ret;rw[E.out.1,E.out.2,<-World.setCell_alloc_past _ _ _ _ t]
     exact⟨Z,D.out⟩
   | some r =>
     have N:Hid (∀ j,j<k+1->e.reg j≠none):=fun j l=>by
      rcases Nat.lt_succ_iff_lt_or_eq.1 l with o | o
      ·exact a j o
      ·subst o;rw[hr];simp
     rw[hr] at d
     simp only[QaV] at d
     clear hr a;go_wp2
     go_round
     case rel=>exact⟨k+1,by omega,by go_num,N.out⟩
     case measure=>simp[intOf];omega
  ·have E:Hid (e.openK=-1/\e.opened=e):=Est.open_no (fun j l=>a j (by omega));clear a;go_wp2
   go_ret;rw[E.out.1,E.out.2]
   exact⟨Z,s.out.refl_grow,Qz.refl_grow O w⟩
theorem Zw.closed {e:Est}{L g:Nat->Nat}(h:Zw w b O e L bp g) (k:Nat) (t:k<16) :
 Zw (w.setCell ⟨b,1+k,none⟩ (.pointer none)) b O (e.set k none) L bp g/\Qz O O w (w.setCell ⟨b,1+k,none⟩ (.pointer none)):=by
 have d:Qz (fun x=>L x=1) (fun x=>L x=1) w (w.setCell ⟨b,1+k,none⟩ (.pointer none)):=(Qz.refl _ w).setCell (p:=⟨b,1+k,none⟩) h.own _;have s:O b:=(h.all b (by rw[h.own];decide)).1;refine⟨⟨?_,h.own,h.pool.step d (fun x n o=>by omega),?_,?_⟩,(Qz.refl O w).setCell (p:=⟨b,1+k,none⟩) s _⟩
 ·refine(h.row.set (1+k) (.pointer none)).congr fun i u=>?_
  unfold Qmd QaV Est.set;by_cases l:i=0
  ·subst l;rw[Xr (by omega)];rfl
  ·by_cases a:i=1+k
   ·subst a;simp
   ·have r:¬ (i - 1=k):=by omega
    simp[l,a,r]
 ·intro j q f
  have c:e.reg j=some q:=by
   by_cases a:j=k
   ·subst a;simp[Est.set] at f
   ·simpa[Est.set,a] using f
  exact(h.reg j q c).step d (fun x n o=>by omega)
 ·intro x m
  have:=h.all x m
  simpa using this
theorem QhU (l:List Int) (j:Nat) (a:j<l.length):l.take (j+1)=l.take j++[l.getD j 0]:=by
 rw[List.take_succ_eq_append_getElem a];simp[List.getD,a]
theorem Qks (w:World) (b n:Nat) (O:Nat->Prop) (e:Est) (k:Int) (h:Qdt w b n O e) :
 Calls prog 171 #[Pv b 0,Iv k] w fun e' w'=>e'=.returned (.bool (e.has k))/\QU w' b n (Q1 O w w') (e.shut k)/\Qz O (Q1 O w w') w w':=by
 have C:Hid (Calls prog 217 #[Pv b 0,Iv k] w fun e' w'=>e'=.returned (.bool (e.has k))/\w'=w):=Qi6 w b n O e k h.1
 cases hh:e.has k with
 | false =>
   have E:Hid (e.shut k=e):=Est.shut_no hh;have HH:Hid (QU w b n O e):=h.1;rw[hh] at C
   clear h hh;go_enter func171,ntmps171
   go_wp2_with (go_at_call 217;refine(C.out).mono ?_;rintro e w' ⟨rfl,rfl⟩)
   go_ret;rw[E.out]
   exact⟨Z,HH.out.refl_grow,Qz.refl_grow O _⟩
 | true =>
   rw[hh] at C
   obtain⟨j,r,rfl,P,J⟩:=Est.has_true hh
   have E:Hid (e.shut j=(e.set j none).withP (e.p.giveAll r.pages)):=Est.shut_yes P J;have H:=h.2.lenR J;obtain⟨⟨L,g,l⟩,ab⟩:=h
   have c:=l.cellAt j P;rw[J] at c
   simp only[QaV] at c
   obtain⟨v,B,z,V⟩:=l.reg j r J
   have W:w.cell? ⟨g j,0,none⟩=some v:=Qb B 0 _ Z;obtain⟨a,s,rfl,-,-⟩:=z.form
   have P0:Hid (∃ u,Zw w b (Q1 O w w) (e.withP (e.p.giveAll (r.pages.take 0))) u n g/\Row w (fun x=>u x=j+3) 3 (.slice a r.pages.length s) r.pages/\Qz O (Q1 O w w) w w) :=
    ⟨L,l.mono QeB,z,Qz.refl_grow O w⟩
   obtain⟨gj,I⟩:∃ gj,g j=gj:=⟨_,Z⟩
   rw[I] at c W
   obtain⟨d,X⟩:∃ d,r.pages.length=d:=⟨_,Z⟩
   have Q:Hid (r.pages.length=d):=X;rw[X] at W H P0
   clear l ab B z V J hh X I;have ae:(j:Int)<16:=by omega
   go_enter func171,ntmps171
   go_wp2_with (go_at_call 217;refine(C.out).mono ?_;rintro e w' ⟨rfl,U⟩;have U:=U.symm;subst U)
   go_loopw [21] (fun i wr=>∃ m:Nat,m<=d/\i=Iv m/\∃ u,Zw wr b (Q1 O w wr) (e.withP (e.p.giveAll (r.pages.take m))) u n g/\Row wr (fun x=>u x=j+3) 3 (.slice a d s) r.pages/\Qz O (Q1 O w wr) w wr) (fun i _=>d - (intOf i).toNat)
   case atStart=>exact⟨0,by omega,Z,P0.out⟩
   case round =>
    clear P0 c W C;obtain⟨m,hm,rfl,u,l,f,o⟩:=hrel
    have c0:=l.cell0;by_cases ad:m<d
    ·obtain⟨ga,rfl,-,-,-,-⟩:=f.head (by have:=Q.out;omega)
     have cm:=f.cell m (by have:=Q.out;omega);have y:=QhU r.pages m (by have:=Q.out;omega);obtain⟨q,hq⟩:∃ q,r.pages.getD m 0=q:=⟨_,Z⟩
     rw[hq] at cm y
     have G:Hid (Calls prog 218 #[Pv n 0,Iv q] wr fun e' w'=>(∃ t,e'=.returned (.bool t))/\∃ L'',Zw w' b (Q1 O w w') (e.withP (e.p.giveAll (r.pages.take (m+1)))) L'' n g/\Row w' (fun x=>L'' x=j+3) 3 (.slice (some ⟨ga,0,none⟩) d s) r.pages/\Qz O (Q1 O w w') w w'):=by
      refine(Qkz wr n (fun x=>u x=2) _ q l.pool).mono ?_
      rintro e' w' ⟨rfl,k1,k2⟩;refine⟨⟨_,Z⟩,QbD u 2 wr w',?_⟩
      obtain⟨R,N⟩:=l.stepPool k1 k2
      refine⟨?_,?_,o.trans_grow N⟩
      ·rw[y,PSt.giveAll_snoc]
       exact R.mono (fun x T _=>Qb8 o.size x T)
      ·exact(f.step k2 (fun x h1 h2=>by omega)).mono (fun x T _=>(Zh l.all (by omega) (by omega) x).2 T)
     have ac:(0:Int)<=m:=by omega
     have aa:(m:Int)<d:=by omega
     clear l f o hq y;go_wp2_with (go_at_call 218;refine(G.out).mono ?_;rintro e' F ⟨⟨t,rfl⟩,A⟩)
     have W5:Hid (∃ L'',Zw F b (Q1 O w F) (e.withP (e.p.giveAll (r.pages.take (m+1)))) L'' n g/\Row F (fun x=>L'' x=j+3) 3 (.slice (some ⟨ga,0,none⟩) d s) r.pages/\Qz O (Q1 O w F) w F):=A;clear A;go_wp2
     go_roundw
     case rel=>exact⟨m+1,by omega,by go_num,W5.out⟩
     case measure=>simp[intOf];omega
    ·have M:m=d:=by omega
     have K:r.pages.take m=r.pages:=by rw[M,<-Q.out];simp
     rw[K] at l
     obtain⟨R,N⟩:=l.closed j P
     have D:Hid (Zw (wr.setCell ⟨b,1+j,none⟩ (.pointer none)) b (Q1 O w wr) ((e.set j none).withP (e.p.giveAll r.pages)) u n g/\Qz (Q1 O w wr) (Q1 O w wr) wr (wr.setCell ⟨b,1+j,none⟩ (.pointer none))):=⟨R,N⟩;have S:Hid (Qz O (Q1 O w wr) w wr):=o;have cj:=l.cellAt j P;have fj:=l.row.frozen (1+j);simp only[QaV] at cj
     have aa:¬ (m:Int)<d:=by omega
     clear R N o l f M K;go_wp2
     go_ret;rw[E.out]
     have eg:Q1 O w (wr.setCell ⟨b,1+j,none⟩ (.pointer none))=Q1 O w wr:=by unfold Q1;simp
     rw[eg]
     exact⟨Z,⟨_,_,D.out.1⟩,S.out.trans D.out.2⟩
set_option maxRecDepth 100000
theorem QfS (l:List Int) (h:l≠[]):l.getD (l.length - 1) 0=l.getLastD 0:=by
 rcases List.eq_nil_or_concat l with a | ⟨b,k,a⟩
 ·exact absurd a h
 ·rw[a];simp[List.getD]
theorem Qi7 (w:World) (e:Nat) (O:Nat->Prop) (r:Reg) (n:Int) (h:QaL w e O r) (j:r.pages≠[]) (I:r.pages.length<=64) (t:0<=r.pages.getLastD 0) (o:r.pages.getLastD 0<64) (E:0<=r.used) (G:r.used<=16) (N:1<=n) (y:n<=16 - r.used) :
 Calls prog 281 #[Pv e 0,Iv n] w fun e' w'=>e'=.returned (Iv (16*r.pages.getLastD 0+r.used))/\QaL w' e O ⟨r.pages,r.used+n⟩/\Qz O O w w':=by
 obtain⟨v,b,d,g⟩:=h
 have k:r.left=16 - r.used:=by simp[Reg.left,j]
 have f:0<r.pages.length:=List.length_pos_iff.2 j;obtain⟨a,i,rfl,-,-⟩:=d.form
 obtain⟨A,rfl,-,-,-,-⟩:=d.head f
 have l:=d.cell (r.pages.length - 1) (by omega);rw[QfS _ j] at l
 rw[k] at b
 have L:w.cell? ⟨e,0,none⟩=some (.slice (some ⟨A,0,none⟩) r.pages.length i):=Qb b 0 _ Z;have H:w.cell? ⟨e,1,none⟩=some (Iv (16 - r.used)):=Qb b 1 _ Z;have P:=Qj b 1
 have D:Hid (QaL (w.setCell ⟨e,1,none⟩ (Iv (16 - r.used - n))) e O ⟨r.pages,r.used+n⟩/\Qz O O w (w.setCell ⟨e,1,none⟩ (Iv (16 - r.used - n)))):=by
  refine⟨⟨.slice (some ⟨A,0,none⟩) r.pages.length i,?_,?_,g⟩,(Qz.refl O w).setCell (p:=⟨e,1,none⟩) g _⟩
  ·rw[Qh b]
   have:(Reg.mk r.pages (r.used+n)).left=16 - r.used - n:=by simp[Reg.left,j];omega
   rw[this];rfl
  ·refine d.keep (fun x F=>?_) d.2;obtain⟨c,M⟩:=d.block F
   exact Xd _ _ _ _ (Zc M b (by decide))
 obtain⟨m,B⟩:∃ m,r.pages.length=m+1:=⟨r.pages.length - 1,by omega⟩
 rw[B] at L l I
 rw[show m+1 - 1=m by omega] at l
 obtain⟨q,z⟩:∃ q,r.pages.getLastD 0=q:=⟨_,Z⟩
 obtain⟨u,s⟩:∃ u,r.used=u:=⟨_,Z⟩
 have J:Hid (r.used=u):=s;rw[z] at l t o |-
 rw[s] at H E G y
 have C:(0:Int)<=m:=by omega
 have K:(m:Int)<(m+1:Nat):=by omega
 clear b d B z k f j s;go_enter func281,ntmps281
 go_wp2_with fail
 go_quiet (fail)
 go_wp2
 go_ret;rw[J.out] at D |-
 refine⟨?_,D.out.1,((Qz.refl O _).drewN _).setCell (p:=⟨e,1,none⟩) g _⟩
 show Ending.returned (Value.int .i64 ((q+1)*16 - (16 - u)))=_;rw[show (q+1)*16 - (16 - u)=16*q+u by omega]
theorem Qhf {b:Nat}{r:Reg}{q:Int}{j:Nat}{o:Obj}{C:Value}(A:w.heap[b]?=some (.cells #[v,C] 285 (0,0))) (z:Row w O 3 v r.pages) (E:O b)
 (G:w1.ownsRow 0 3 1 (.slice (some ⟨j,0,none⟩) (r.pages.length+1) cap) (r.pages.length+1) (r.pages.map (Value.int .i64)++[Iv q]))
 (a:(w.alloc o).grownBy w1 v.ownBlock) (n:v.ownBlock=some j\/j=w.heap.size+1) (u:j<w1.heap.size) :
 w1.cell? ⟨b,0,none⟩=some v/\w1.cell? ⟨b,1,none⟩=some C/\w1.frozen? ⟨b,0,none⟩=false/\w1.frozen? ⟨b,1,none⟩=false /\
 QaL ((w1.setCell ⟨b,0,none⟩ (.slice (some ⟨j,0,none⟩) (r.pages.length+1) cap)).setCell ⟨b,1,none⟩ (Iv 16)) b (Q1 O w w1) ⟨r.pages++[q],0⟩ /\
 Qz O (Q1 O w w1) w ((w1.setCell ⟨b,0,none⟩ (.slice (some ⟨j,0,none⟩) (r.pages.length+1) cap)).setCell ⟨b,1,none⟩ (Iv 16)):=by
 have l:=XC A
 have k:v.ownBlock≠some b:=fun e=>by
  obtain⟨c,I⟩:=z.block e
  exact absurd Z (Zc I A (by decide))
 have f:∀ x,x<w.heap.size->v.ownBlock≠some x->w1.heap[x]?=w.heap[x]?:=fun x g t =>
  (a.block x (by simp;omega) (fun e=>t e.symm)).trans (Below.heap_alloc _ _ _ g)
 have d:=(f b l k).trans A;have H:w.heap.size+1<=w1.heap.size:=by have:=a.size;simpa using this
 have B:∀ x,O x\/w.heap.size<=x->x<w1.heap.size->Q1 O w w1 x:=fun x h s=>⟨h,s⟩;have i:=z.pushed (o:=o) G n u (Q1 O w w1) B
 have m:b≠j:=by
  intro e;subst e;rcases n with s | s
  ·exact k s
  ·omega
 have y:Q1 O w w1 b:=B b (Or.inl E) (by omega);refine⟨Qb d 0 _ Z,Qb d 1 _ Z,Qj d 0,Qj d 1,⟨.slice (some ⟨j,0,none⟩) (r.pages.length+1) cap,?_,?_,y⟩,?_⟩
 ·rw[Qh (Qh d 0 _) 1]
  have:(Reg.mk (r.pages++[q]) 0).left=16:=by simp[Reg.left]
  rw[this];rfl
 ·refine i.keep (fun x g=>?_) i.2;simp[Value.ownBlock] at g;subst g
  rw[Xd _ _ _ _ (Ne.symm m),Xd _ _ _ _ (Ne.symm m)]
 ·have D:Qz O (Q1 O w w1) w w1:=by
   refine⟨a.os,a.tape,a.output,by omega,fun x g F=>?_,fun x g=>g.1⟩
   exact f x g (fun e=>F (z.2 x e))
  exact(D.setCell (p:=⟨b,0,none⟩) y _).setCell (p:=⟨b,1,none⟩) y _
theorem Qlr (w:World) (b:Nat) (O:Nat->Prop) (e:Est) (L g:Nat->Nat) (a n:Nat) (h:Zw w b O e L a g) (f:e.p.nextK<0) :
 Calls prog 280 #[Pv b 0,Pv n 0] w fun e' w'=>e'=.returned (.bool false)/\QU w' b a (Q1 O w w') e/\Qz O (Q1 O w w') w w':=by
 have c:e.p.Ok:=h.pool.ok;have o:=h.cell0
 have G:Hid (Calls prog 289 #[Pv a 0] w fun e' w'=>e'=.returned (Iv e.p.nextK)/\QU w' b a (Q1 O w w') e/\Qz O (Q1 O w w') w w'):=by
  refine(Qgz w a (fun x=>L x=2) _ h.pool).mono ?_
  rintro e' w' ⟨rfl,m,l⟩;obtain⟨i,k⟩:=h.stepPool m l
  rw[PSt.take_none c f] at i
  exact⟨Z,⟨_,_,i⟩,k⟩
 obtain⟨q,j⟩:∃ q,e.p.nextK=q:=⟨_,Z⟩
 rw[j] at f G
 clear h j;go_enter func280,ntmps280
 go_wp2_with (go_at_call 289;refine(G.out).mono ?_;rintro e' r ⟨rfl,d⟩)
 go_ret;exact⟨Z,d⟩
theorem QkQ (w:World) (b:Nat) (O:Nat->Prop) (e:Est) (L g:Nat->Nat) (t j:Nat) (r:Reg) (h:Zw w b O e L t g) (hr:e.reg j=some r) (hl:r.pages.length<=64) (hk:0<=e.p.nextK) :
 Calls prog 280 #[Pv b 0,Pv (g j) 0] w fun e' w'=>e'=.returned (.bool true)/\∃ L',Zw w' b (Q1 O w w') ((e.set j (some ⟨r.pages++[e.p.nextK],0⟩)).withP e.p.take) L' t g/\Qz O (Q1 O w w') w w':=by
 have c0:=h.cell0;have B:=(PSt.nextK_lt h.pool.ok).2;have aa:=h.pool.ok.most
 have G:Hid (Calls prog 289 #[Pv t 0] w fun e' w'=>e'=.returned (Iv e.p.nextK)/\Zw w' b (Q1 O w w') (e.withP e.p.take) (QbD L 2 w w') t g/\Qz O (Q1 O w w') w w'):=by
  refine(Qgz w t (fun x=>L x=2) _ h.pool).mono ?_
  rintro e' w' ⟨rfl,k1,k2⟩;obtain⟨U,K⟩:=h.stepPool k1 k2
  exact⟨Z,U,K⟩
 obtain⟨q,X⟩:∃ q,e.p.nextK=q:=⟨_,Z⟩
 rw[X] at hk B G |-
 clear h X;obtain⟨d,z⟩:∃ d,g j=d:=⟨_,Z⟩
 have P:Hid (g j=d):=z;rw[z]
 clear z;go_enter func280,ntmps280
 go_wp2_with fail
 refine(G.out).mono ?_
 rintro e' A ⟨rfl,M,N⟩;have y:(e.withP e.p.take).reg j=some r:=hr;obtain⟨v,H,F,J⟩:=M.reg j r y
 rw[P.out] at H J
 have cv:A.cell? ⟨d,0,none⟩=some v:=Qb H 0 _ Z;obtain⟨a,u,rfl,-,-⟩:=F.form
 have m:=F.1;obtain⟨i0,hi,I,R,T⟩:=info_parts info_int
 have Q:Hid (∀ k c i,i.ownsRow 0 3 1 (.slice (some ⟨k,0,none⟩) (r.pages.length+1) c) (r.pages.length+1) (r.pages.map (Value.int .i64)++[Iv q]) ->
  (A.alloc (.cells #[Iv q] 3)).grownBy i (Value.slice a r.pages.length u).ownBlock->((Value.slice a r.pages.length u).ownBlock=some k\/k=A.heap.size+1)->k<i.heap.size ->
  i.cell? ⟨d,0,none⟩=some (.slice a r.pages.length u)/\i.cell? ⟨d,1,none⟩=some (Iv r.left)/\i.frozen? ⟨d,0,none⟩=false/\i.frozen? ⟨d,1,none⟩=false /\
  ∃ L',Zw ((i.setCell ⟨d,0,none⟩ (.slice (some ⟨k,0,none⟩) (r.pages.length+1) c)).setCell ⟨d,1,none⟩ (Iv 16)) b (Q1 O w ((i.setCell ⟨d,0,none⟩ (.slice (some ⟨k,0,none⟩) (r.pages.length+1) c)).setCell ⟨d,1,none⟩ (Iv 16))) ((e.set j (some ⟨r.pages++[q],0⟩)).withP e.p.take) L' t g /\
   Qz O (Q1 O w ((i.setCell ⟨d,0,none⟩ (.slice (some ⟨k,0,none⟩) (r.pages.length+1) c)).setCell ⟨d,1,none⟩ (Iv 16))) w ((i.setCell ⟨d,0,none⟩ (.slice (some ⟨k,0,none⟩) (r.pages.length+1) c)).setCell ⟨d,1,none⟩ (Iv 16))):=by
  intro k c i E f o n;have S:=P.out;clear P;subst S;obtain⟨d1,W,d3,V,C,d6⟩:=Qhf (r:=r) H F J E f o n
  refine⟨d1,W,d3,V,?_⟩
  obtain⟨U,K⟩:=M.stepReg y C d6
  exact⟨_,U.mono (fun x hx _=>Qb8 N.size x hx),N.trans_grow K⟩
 obtain⟨l,s⟩:∃ l,r.pages.length=l:=⟨_,Z⟩
 rw[s] at cv m hl Q
 clear H F J M N y s G c0;go_wp2_with (at_builtin;refine wpList_append_lies _ Z (.tmp 17) (.tmp 19) 76 Z 0 3 i0 (Iv 0) 1 8 under_ints hi I R T Z (by decide) _ _ _ Z (m.alloc _) ⟨A.heap.size,0,none⟩ 1 1 [Iv q] Z Z (Qgx _ _ _) (QcU _) (by decide) (by unfold maxLen;omega) (by omega) (Xb _) (A.heap.size+1) (by simp) ?_)
 intro k c i E f o n;obtain⟨d1,W,d3,V,C⟩:=Q.out k c i E f o n
 have D:Hid (∃ L',Zw ((i.setCell ⟨d,0,none⟩ (.slice (some ⟨k,0,none⟩) (l+1) c)).setCell ⟨d,1,none⟩ (Iv 16)) b (Q1 O w ((i.setCell ⟨d,0,none⟩ (.slice (some ⟨k,0,none⟩) (l+1) c)).setCell ⟨d,1,none⟩ (Iv 16))) ((e.set j (some ⟨r.pages++[q],0⟩)).withP e.p.take) L' t g /\
  Qz O (Q1 O w ((i.setCell ⟨d,0,none⟩ (.slice (some ⟨k,0,none⟩) (l+1) c)).setCell ⟨d,1,none⟩ (Iv 16))) w ((i.setCell ⟨d,0,none⟩ (.slice (some ⟨k,0,none⟩) (l+1) c)).setCell ⟨d,1,none⟩ (Iv 16))):=C
 clear C E f o n m Q;go_wp2
 go_ret;exact⟨Z,D.out⟩
theorem Qfg (l:List Int) (h:l≠[]):l.getLastD 0∈l:=by
 rcases List.eq_nil_or_concat l with a | ⟨b,k,a⟩
 ·exact absurd a h
 ·rw[a];simp
theorem Ql1 (w:World) (b t:Nat) (O:Nat->Prop) (e:Est) (k n:Int) (h:Qdt w b t O e) :
 Calls prog 254 #[Pv b 0,Iv k,Iv n] w fun e' w'=>e'=.returned (.tuple #[Iv (e.getAt k n),Iv (e.getCode k n)])/\QU w' b t (Q1 O w w') (e.got k n)/\Qz O (Q1 O w w') w w':=by
 have C:Hid (Calls prog 217 #[Pv b 0,Iv k] w fun e' w'=>e'=.returned (.bool (e.has k))/\w'=w):=Qi6 w b t O e k h.1;have S:Hid (QU w b t O e):=h.1
 cases hh:e.has k with
 | false =>
   have E:Hid (e.getCode k n=15/\e.getAt k n=0/\e.got k n=e):=Est.get_none hh;rw[hh] at C
   clear h hh;go_enter func254,ntmps254
   go_wp2_with (go_at_call 217;refine(C.out).mono ?_;rintro e w' ⟨rfl,rfl⟩)
   go_ret2;rw[E.out.1,E.out.2.1,E.out.2.2]
   exact⟨Z,S.out.refl_grow,Qz.refl_grow O _⟩
 | true =>
   rw[hh] at C
   by_cases A:n<1\/16<n
   ·have E:Hid (e.getCode k n=1/\e.getAt k n=0/\e.got k n=e):=Est.get_range hh A;clear h hh;by_cases W:n<1
    ·clear A;go_enter func254,ntmps254
     go_wp2_with (go_at_call 217;refine(C.out).mono ?_;rintro e w' ⟨rfl,rfl⟩)
     go_ret2;rw[E.out.1,E.out.2.1,E.out.2.2]
     exact⟨Z,S.out.refl_grow,Qz.refl_grow O _⟩
    ·have Q:16<n:=by omega
     clear A;go_enter func254,ntmps254
     go_wp2_with (go_at_call 217;refine(C.out).mono ?_;rintro e w' ⟨rfl,rfl⟩)
     go_ret2;rw[E.out.1,E.out.2.1,E.out.2.2]
     exact⟨Z,S.out.refl_grow,Qz.refl_grow O _⟩
   ·obtain⟨j,r,rfl,N,f⟩:=Est.has_true hh
    have F:=h.2.lenR f;have q:=h.2.used j r f;have W:¬ n<1:=by omega
    have Q:¬ 16<n:=by omega
    obtain⟨⟨L,g,B⟩,d⟩:=h
    have c:=B.cellAt j N;rw[f] at c
    simp only[QaV] at c
    have I:w.cell? ⟨g j,1,none⟩=some (Iv r.left):=by
     obtain⟨v,P,ad,ab⟩:=B.reg j r f
     exact Qb P 1 _ Z
    have ae:(j:Int)<16:=by omega
    have a:r.pages≠[]->0<=r.pages.getLastD 0/\r.pages.getLastD 0<64:=fun h=>by
     have:=d.low (k:=j) (x:=r.pages.getLastD 0) (by rw[Est.at_some f];exact Qfg _ h)
     have:=d.ok.most
     omega
    cases hm:r.more n with
    | false =>
      have E:Hid (e.getCode j n=0/\e.getAt j n=16*r.pages.getLastD 0+r.used/\e.got j n=e.set j (some ⟨r.pages,r.used+n⟩)):=Est.get_room N f A hm;obtain⟨y,J⟩:=Reg.room hm (by omega)
      have G:Hid (Calls prog 281 #[Pv (g j) 0,Iv n] w fun e' w'=>e'=.returned (Iv (16*r.pages.getLastD 0+r.used))/\QU w' b t (Q1 O w w') (e.set j (some ⟨r.pages,r.used+n⟩))/\Qz O (Q1 O w w') w w'):=by
       refine(Qi7 w (g j) _ r n (B.reg j r f) y F (a y).1 (a y).2 q.1 q.2 (by omega) J).mono ?_
       rintro e' w' ⟨rfl,R,V⟩;obtain⟨X,T⟩:=B.stepReg f R V
       exact⟨Z,⟨_,_,X⟩,T⟩
      have D:¬ r.left<n:=by simpa[Reg.more] using hm
      generalize 16*r.pages.getLastD 0+r.used=z at E G;generalize r.left=lf at I D;generalize g j=gk at c I G;clear B d f hh hm A a J y q;go_enter func254,ntmps254
      go_wp2_with (first | (go_at_call 217;refine(C.out).mono ?_;rintro e' w' ⟨rfl,o⟩;have o:=o.symm;subst o) | (go_at_call 281;refine(G.out).mono ?_;rintro e' w5 ⟨rfl,m⟩))
      go_ret2;rw[E.out.1,E.out.2.1,E.out.2.2]
      exact⟨Z,m⟩
    | true =>
      have D:r.left<n:=by simpa[Reg.more] using hm
      by_cases M:e.p.nextK<0
      ·have E:Hid (e.getCode j n=14/\e.getAt j n=0/\e.got j n=e):=Est.get_full N f A hm M;have G:Hid (Calls prog 280 #[Pv b 0,Pv (g j) 0] w fun e' w'=>e'=.returned (.bool false)/\QU w' b t (Q1 O w w') e/\Qz O (Q1 O w w') w w'):=Qlr w b O e L g t _ B M;generalize r.left=lf at I D;generalize g j=gk at c I G;clear B d f hh hm A a q M;go_enter func254,ntmps254
       go_wp2_with (first | (go_at_call 217;refine(C.out).mono ?_;rintro e' w' ⟨rfl,o⟩;have o:=o.symm;subst o) | (go_at_call 280;refine(G.out).mono ?_;rintro e' w5 ⟨rfl,m⟩))
       go_ret2;rw[E.out.1,E.out.2.1,E.out.2.2]
       exact⟨Z,m⟩
      ·have E:Hid (e.getCode j n=0/\e.getAt j n=16*e.p.nextK/\e.got j n=(e.set j (some ⟨r.pages++[e.p.nextK],n⟩)).withP e.p.take):=Est.get_more N f A hm M;have aa:=(PSt.nextK_lt d.ok).2;have ac:=d.ok.most;have H:=d.moreSet f (n:=0) (by omega) (by omega) (by omega);have u:((e.set j (some ⟨r.pages++[e.p.nextK],0⟩)).withP e.p.take).reg j=some ⟨r.pages++[e.p.nextK],0⟩:=by simp[Est.withP,Est.set]
       have s:=H.lenR u
       have G:Hid (Calls prog 280 #[Pv b 0,Pv (g j) 0] w fun e' w'=>e'=.returned (.bool true) /\
        Calls prog 281 #[Pv (g j) 0,Iv n] w' fun K l=>K=.returned (Iv (16*e.p.nextK))/\QU l b t (Q1 O w l) ((e.set j (some ⟨r.pages++[e.p.nextK],n⟩)).withP e.p.take)/\Qz O (Q1 O w l) w l):=by
        refine(QkQ w b O e L g t j r B f F (by omega)).mono ?_
        rintro e' w' ⟨rfl,L',p1,p2⟩;refine⟨Z,?_⟩
        refine(Qi7 w' (g j) _ _ n (p1.reg j _ u) (by simp) s (by simp;omega) (by simp;omega) (by simp) (by simp) (by omega) (by simp;omega)).mono ?_
        rintro K l ⟨rfl,R,V⟩;obtain⟨X,T⟩:=p1.stepReg u R V
        refine⟨by simp,⟨QbD L' (j+3) w' l,g,?_⟩,p2.trans_grow T⟩
        have e1:((e.set j (some ⟨r.pages++[e.p.nextK],0⟩)).withP e.p.take).set j (some ⟨r.pages++[e.p.nextK],0+n⟩)=(e.set j (some ⟨r.pages++[e.p.nextK],n⟩)).withP e.p.take:=by
         simp only[Est.withP,Est.set]
         congr 1
         funext i
         by_cases hi:i=j<;>simp[hi]
        rw[<-e1]
        exact X.mono (fun x hx _=>Qb8 p2.size x hx)
       generalize r.left=lf at I D;generalize g j=gk at c I G;clear B d f hh hm A a q H u s;go_enter func254,ntmps254
       go_wp2_with (first | (go_at_call 217;refine(C.out).mono ?_;rintro e' w' ⟨rfl,o⟩;have o:=o.symm;subst o) | (go_at_call 280;refine(G.out).mono ?_;rintro e' w5 ⟨rfl,m⟩) | (go_at_call 281;refine m.mono ?_;rintro e' w6 ⟨rfl,U⟩))
       go_ret2;rw[E.out.1,E.out.2.1,E.out.2.2]
       exact⟨Z,U⟩
set_option maxRecDepth 100000
theorem Qln (w:World) (n:Int) (h:n<0\/64<n) :
 Calls prog 67 #[Iv n] w fun e w'=>e=.returned (.tuple #[.pointer none,.agg #[Iv 1,Iv (-1)]])/\Below w.heap.size w w':=by
 have C:Hid (∀ w,Calls prog 109 #[Iv n] w fun e w'=>e=.returned (.tuple #[.pointer none,.agg #[Iv 1,Iv (-1)]])/\Below w.heap.size w w'):=fun w=>Qmw w n h;clear h;go_enter func67,ntmps67
 go_wp2_with fail
 refine(C.out _).mono ?_
 rintro e b ⟨rfl,d⟩;have a:b.heap[w.heap.size]?=some (.cells #[Iv 0,Iv 0] 32 (0,0)):=(d.block w.heap.size (by simp)).trans (Qe w _ _);have B:Hid (Below w.heap.size w b):=((Below.refl _ w).alloc Ze _).trans (d.mono (by simp));have c:=XC a;have i:b.cell? ⟨w.heap.size,0,none⟩=some (Iv 0):=Qb a 0 _ Z;have j:b.cell? ⟨w.heap.size,1,none⟩=some (Iv 0):=Qb a 1 _ Z;have m:=Qj a 0;have l:=Qj a 1;have k:w.heap.size<=w.heap.size:=Ze;generalize f:w.heap.size=X at *;clear a d;go_wp2
 go_region;go_wp2
 refine Xy (v:=.tuple #[.pointer none,.agg #[Iv 1,Iv (-1)]]) (by simp[results,results67,go_sem,i,j,c]) Z ⟨Z,?_⟩;have g:=((B.out.setCell (p:=⟨X,0,none⟩) (Nat.le_refl X) (Iv 1)).setCell (p:=⟨X,1,none⟩) (Nat.le_refl X) (Iv (-1)));rw[f]
 exact((g.alloc (by simp;omega) _)).drew
def Qe6 (bp:Nat):Array Value:=#[Pv bp 0,.pointer none,.pointer none,.pointer none,.pointer none,.pointer none,.pointer none,.pointer none,.pointer none,.pointer none,.pointer none,.pointer none,.pointer none,.pointer none,.pointer none,.pointer none,.pointer none]
theorem QjE (a:Nat):∀ i,i<17->(Qe6 a)[i]?=some (Qmd a (fun _=>none) (fun _=>0) i):=by
 intro i b
 have:i=0\/i=1\/i=2\/i=3\/i=4\/i=5\/i=6\/i=7\/i=8\/i=9\/i=10\/i=11\/i=12\/i=13\/i=14\/i=15\/i=16:=by omega
 rcases this with h | h | h | h | h | h | h | h | h | h | h | h | h | h | h | h | h<;>subst h<;>rfl
theorem Qlp (w:World) (n:Nat) (h:n<=64) (a X Y:Nat) (d:Qn w a (fun x=>X+1<=x/\x<Y) (PSt.new n)) (g:X<w.heap.size) (i:Y<=w.heap.size) :
 Qdt (w.alloc (.cells (Qe6 a) 73)) w.heap.size a (fun x=>X<=x/\x<(w.alloc (.cells (Qe6 a) 73)).heap.size) (Est.new n):=by
 refine⟨⟨fun x=>if x=w.heap.size then 1 else if X+1<=x/\x<Y then 2 else 0,fun _=>0,?_,?_,?_,?_,?_⟩,Est.ok_new n h⟩
 ·exact⟨Qe6 a,Qe w _ _,Z,QjE a⟩
 ·simp
 ·refine(d.step (Qz.of_alloc (fun _=>False) w _) (fun _ _ h=>h)).mono (fun x b _=>?_)
  have:¬ x=w.heap.size:=by omega
  simp[this,b]
 ·intro k r f;simp[Est.new] at f
 ·intro x b;by_cases c:x=w.heap.size
  ·subst c;simp;omega
  ·by_cases e:X+1<=x/\x<Y
   ·simp;omega
   ·simp[c,e] at b
theorem QkR (w:World) (n:Nat) (h:n<=64) :
 Calls prog 67 #[Iv n] w fun e w'=>∃ b bp,e=.returned (.tuple #[Pv b 0,.agg #[Iv 0,Iv 0]])/\Qdt w' b bp (fun x=>w.heap.size<=x/\x<w'.heap.size) (Est.new n)/\Below w.heap.size w w':=by
 have C:Hid (∀ w,Calls prog 109 #[Iv n] w fun e w'=>∃ b,e=.returned (.tuple #[Pv b 0,.agg #[Iv 0,Iv 0]])/\Qn w' b (fun x=>w.heap.size<=x/\x<w'.heap.size) (PSt.new n)/\Below w.heap.size w w'):=fun w=>Ql8 w n h;go_enter func67,ntmps67
 go_wp2_with fail
 refine(C.out _).mono ?_
 rintro e a ⟨bp,rfl,j,g⟩;have c:a.heap[w.heap.size]?=some (.cells #[Iv 0,Iv 0] 32 (0,0)):=(g.block w.heap.size (by simp)).trans (Qe w _ _);have B:Hid (Below w.heap.size w a/\Qn a bp (fun x=>w.heap.size+1<=x/\x<a.heap.size) (PSt.new n)):=⟨((Below.refl _ w).alloc Ze _).trans (g.mono (by simp)),j.mono (fun x i _=>⟨by have:=i.1;simp at this;omega,i.2⟩)⟩;have f:=XC c;have l:a.cell? ⟨w.heap.size,0,none⟩=some (Iv 0):=Qb c 0 _ Z;have m:a.cell? ⟨w.heap.size,1,none⟩=some (Iv 0):=Qb c 1 _ Z;have q:=Qj c 0;have s:=Qj c 1;generalize d:w.heap.size=X at *;clear c g j;go_wp2
 refine Xy (v:=.tuple #[Pv (a.heap.size+1) 0,.agg #[Iv 0,Iv 0]]) (by simp[results,results67,go_sem,l,m,f]) Z ⟨a.heap.size+1,bp,Z,?_,?_⟩
 ·rw[d]
  have S:Qz (fun x=>x=X) (fun x=>x=X) a (((a.setCell ⟨X,0,none⟩ (Iv 0)).setCell ⟨X,1,none⟩ (Iv 0)).alloc (.cells #[Iv 0,Iv 0] 32)) :=
   (((Qz.refl (fun x=>x=X) a).setCell (p:=⟨X,0,none⟩) Z _).setCell (p:=⟨X,1,none⟩) Z _).alloc _
  have:=Qlp _ n h bp X a.heap.size (B.out.2.step S (fun x o r=>by omega)) (by simp;omega) (by simp)
  simpa[Qe6] using this
 ·rw[d]
  have k:=((B.out.1.setCell (p:=⟨X,0,none⟩) (Nat.le_refl X) (Iv 0)).setCell (p:=⟨X,1,none⟩) (Nat.le_refl X) (Iv 0));exact(k.alloc (by simp;omega) _).alloc (by simp;omega) _
theorem QU.cell0 {e:Est}(h:QU w b bp O e):w.cell? ⟨b,0,none⟩=some (Pv bp 0):=by
 obtain⟨L,g,h⟩:=h
 exact h.cell0
theorem PSt.place_true {s:PSt}{k:Int}(h:s.place k=true):0<=k/\k<16*s.pages:=by simpa[PSt.place] using h
theorem Qde (w:World) (b:Nat) (O:Nat->Prop) (s:PSt) (k:Int) (h:Qn w b O s) :
 Calls prog 256 #[Pv b 0,Iv k] w fun e w'=>e=.returned (.bool (s.place k))/\w'=w:=by
 obtain⟨g,n,o,d,q,l,r,f,c,a⟩:=h
 have p:w.cell? ⟨b,0,none⟩=some (.slice (some ⟨g,0,none⟩) n n):=Qb d 0 _ Z;have i:=a.most;by_cases j:0<=k
 ·by_cases m:k<(n:Int)
  ·have E:Hid (s.place k=true):=by show s.place k=true;simp[PSt.place];omega
   clear c;go_enter func256,ntmps256
   go_wp2
   go_ret;exact⟨by rw[E.out];rfl,Z⟩
  ·have E:Hid (s.place k=false):=by show s.place k=false;simp[PSt.place];omega
   clear c;go_enter func256,ntmps256
   go_wp2
   go_ret;exact⟨by rw[E.out];rfl,Z⟩
 ·have E:Hid (s.place k=false):=by show s.place k=false;simp[PSt.place];omega
  clear c;go_enter func256,ntmps256
  go_wp2
  go_ret;exact⟨by rw[E.out];rfl,Z⟩
theorem Qk5 (w:World) (b:Nat) (O:Nat->Prop) (s:PSt) (k:Int) (h:Qn w b O s) :
 Calls prog 255 #[Pv b 0,Iv k] w fun e w'=>e=.returned (.tuple #[Iv (s.load k),.bool (s.place k)])/\w'=w:=by
 have c:=Qde w b O s k h;obtain⟨f,n,t,m,p,q,v,o,d,g⟩:=h
 have u:w.cell? ⟨b,0,none⟩=some (.slice (some ⟨f,0,none⟩) n n):=Qb m 0 _ Z
 cases hpl:s.place k with
 | true =>
   rw[hpl] at c
   have E:Hid (s.load k=s.ws k.toNat):=by show _=_;simp[PSt.load,hpl]
   obtain⟨a,j⟩:=PSt.place_true hpl
   obtain⟨i,rfl⟩:=Xc a
   have l:i<n:=by omega
   have r:w.cell? ⟨f,i,none⟩=some (Iv (s.ws i)):=p.cell l;have C:Hid (Calls prog 256 #[Pv b 0,Iv i] w fun e w'=>e=.returned (.bool true)/\w'=w):=c;clear c d a j hpl;go_enter func255,ntmps255
   go_wp2_with (go_at_call 256;refine(C.out).mono ?_;rintro e w' ⟨rfl,rfl⟩)
   go_ret2;exact⟨by rw[E.out];rfl,Z⟩
 | false =>
   rw[hpl] at c
   have E:Hid (s.load k=0):=by show _=_;simp[PSt.load,hpl]
   have C:Hid (Calls prog 256 #[Pv b 0,Iv k] w fun e w'=>e=.returned (.bool false)/\w'=w):=c;clear c d hpl;go_enter func255,ntmps255
   go_wp2_with (go_at_call 256;refine(C.out).mono ?_;rintro e w' ⟨rfl,rfl⟩)
   go_ret2;exact⟨by rw[E.out];rfl,Z⟩
theorem Qn.stored {s:PSt}{a:Nat}{m:Value}(r:w.heap[b]?=some (.cells #[.slice (some ⟨a,0,none⟩) n n,m,Iv s.fresh] 134 (0,0)))
 (t:w.rowIs a 2 n (fun i=>Iv (s.ws i))) (l:Row w O 3 m s.given) (v:O b) (q:O a) (u:n=16*s.pages) (f:s.Ok) (i:Nat) (hi:i<n) (x:Int) :
 Qn (w.setCell ⟨a,i,none⟩ (Iv x)) b O (s.store i x):=by
 have k:s.place i=true:=by simp[PSt.place];omega
 have e:s.store i x={ s with ws:=fun j=>if (j:Int)=i then x else s.ws j }:=by simp[PSt.store,k]
 rw[e]
 obtain⟨A,d,_,_⟩:=id t
 have p:b≠a:=Zc r d (by decide);refine⟨a,n,m,?_,?_,?_,v,q,u,?_⟩
 ·rw[Xd _ _ _ _ p];exact r
 ·refine(t.set i (Iv x)).congr fun j z=>?_
  by_cases e:j=i
  ·subst e;simp
  ·simp[e];intro h;omega
 ·refine l.keep (fun g o=>?_) l.2;obtain⟨c,y⟩:=l.block o
  exact Xd _ _ _ _ (Zc y d (by decide))
 ·have:=PSt.ok_store f i x;rw[e] at this;exact this
theorem Qi1 (w:World) (b:Nat) (O:Nat->Prop) (s:PSt) (k x:Int) (h:Qn w b O s) :
 Calls prog 221 #[Pv b 0,Iv k,Iv x] w fun e w'=>e=.returned (.bool (s.place k))/\Qn w' b O (s.store k x)/\Qz O O w w':=by
 have c:=Qde w b O s k h;have j:=h;obtain⟨d,n,y,p,l,q,t,a,g,f⟩:=h
 have z:w.cell? ⟨b,0,none⟩=some (.slice (some ⟨d,0,none⟩) n n):=Qb p 0 _ Z
 cases hpl:s.place k with
 | true =>
   rw[hpl] at c
   obtain⟨m,r⟩:=PSt.place_true hpl
   obtain⟨i,rfl⟩:=Xc m
   have o:i<n:=by omega
   have u:w.cell? ⟨d,i,none⟩=some (Iv (s.ws i)):=l.cell o;have v:w.frozen? ⟨d,i,none⟩=false:=l.frozen i;have E:Hid (Qn (w.setCell ⟨d,i,none⟩ (Iv x)) b O (s.store i x)):=Qn.stored p l q t a g f i o x;have C:Hid (Calls prog 256 #[Pv b 0,Iv i] w fun e w'=>e=.returned (.bool true)/\w'=w):=c;clear c g m r hpl j;go_enter func221,ntmps221
   go_wp2_with (go_at_call 256;refine(C.out).mono ?_;rintro e w' ⟨rfl,rfl⟩)
   go_ret;exact⟨Z,E.out,(Qz.refl O _).setCell a _⟩
 | false =>
   rw[hpl] at c
   have E:Hid (s.store k x=s):=by show _=_;simp[PSt.store,hpl]
   have H:Hid (Qn w b O s):=j;have C:Hid (Calls prog 256 #[Pv b 0,Iv k] w fun e w'=>e=.returned (.bool false)/\w'=w):=c;clear c g hpl j;go_enter func221,ntmps221
   go_wp2_with (go_at_call 256;refine(C.out).mono ?_;rintro e w' ⟨rfl,rfl⟩)
   go_ret;exact⟨Z,by rw[E.out];exact H.out,Qz.refl O _⟩
theorem Xh:type_of% @And.intro:=@And.intro
section
variable {w w' w2:World}{b most:Nat}{m:List (MFunc 6)}{R R':RM}{g g1:WG}
theorem WAt.cellE (S:WAt w b most m R g):w.cell? ⟨b,0,none⟩=some (Pv g.be 0):=Qb S.box 0 _ Z
theorem WAt.cellP (S:WAt w b most m R g):w.cell? ⟨g.be,0,none⟩=some (Pv g.bp 0):=S.est.1.cell0
theorem WAt.loadC (S:WAt w b most m R g) (k:Int):Calls prog 255 #[Pv g.bp 0,Iv k] w fun e w'=>e=.returned (.tuple #[Iv (R.load k),.bool (R.e.p.place k)])/\w'=w:=by
 obtain⟨⟨L,a,h⟩,-⟩:=S.est
 exact Qk5 w g.bp _ R.e.p k h.pool
theorem WAt.storeC (S:WAt w b most m R g) (k n:Int):Calls prog 221 #[Pv g.bp 0,Iv k,Iv n] w fun e w'=>e=.returned (.bool (R.e.p.place k))/\WTo g w w' b most m (R.stored k n):=by
 obtain⟨⟨L,i,h⟩,a⟩:=S.est
 refine(Qi1 w g.bp _ R.e.p k n h.pool).mono ?_
 rintro e w' ⟨rfl,c,d⟩;obtain⟨f,j⟩:=h.stepPool c d
 exact⟨Z,S.toEst ⟨_,i,f⟩ j (a.store k n)⟩
theorem WAt.getC (S:WAt w b most m R g) (h n:Int):Calls prog 254 #[Pv g.be 0,Iv h,Iv n] w fun e w'=>e=.returned (.tuple #[Iv (R.e.getAt h n),Iv (R.e.getCode h n)])/\WTo g w w' b most m { R with e:=R.e.got h n }:=by
 refine(Ql1 w g.be g.bp _ R.e h n S.est).mono ?_
 rintro e w' ⟨rfl,c,a⟩;exact⟨Z,S.toEst c a (S.est.2.got h n)⟩
theorem WAt.openC (S:WAt w b most m R g):Calls prog 170 #[Pv g.be 0] w fun e w'=>e=.returned (Iv R.e.openK)/\WTo g w w' b most m { R with e:=R.e.opened }:=by
 refine(QkB w g.be g.bp _ R.e S.est.1).mono ?_
 rintro e w' ⟨rfl,c,a⟩;exact⟨Z,S.toEst c a S.est.2.opened⟩
theorem WAt.shutC (S:WAt w b most m R g) (h:Int):Calls prog 171 #[Pv g.be 0,Iv h] w fun e w'=>e=.returned (.bool (R.e.has h))/\WTo g w w' b most m { R with e:=R.e.shut h }:=by
 refine(Qks w g.be g.bp _ R.e h S.est).mono ?_
 rintro e w' ⟨rfl,c,a⟩;exact⟨Z,S.toEst c a (S.est.2.shut h)⟩
theorem QbG (S:WAt w b most m R g) (k:Int):Calls prog 220 #[Pv b 0,Iv k] w fun e w'=>e=.returned (Iv (R.load k))/\w'=w:=by
 have C:=Qc (S.loadC k);have f:=S.cellE;have d:=S.cellP;clear S;generalize R.load k=x at *;generalize R.e.p.place k=y at *;go_enter func220,ntmps220
 go_wp2_with (go_at_call 255;refine C.out.mono ?_;rintro c w' ⟨rfl,a⟩;have a:=a.symm;subst a)
 go_ret;exact⟨Z,Z⟩
def Qk9 (R:RM) (a k:Int) (e:Ending):Prop:=(0<=k/\k<R.load a/\e=.returned (Iv (wrap64 (wrap64 (a+1)+k))))\/(¬ (0<=k/\k<R.load a)/\e=.panicked (QdE 2))
theorem Qci (S:WAt w b most m R g) (a k:Int):Calls prog 222 #[Pv b 0,Iv a,Iv k] w fun e w'=>Qk9 R a k e/\w'=w:=by
 have C:=Qc (QbG S a);clear S;by_cases d:0<=k
 ·have j:decide (k>=0)=true:=by simpa using d
  by_cases f:k<R.load a
  ·have l:decide (k<R.load a)=true:=by simpa using f
   have E:Hid (Qk9 R a k (.returned (Iv (wrap64 (wrap64 (a+1)+k))))):=.inl ⟨d,f,Z⟩;clear d f;go_enter func222,ntmps222
   go_wp2_with (first | (go_at_call 220;refine C.out.mono ?_;rintro i w' ⟨rfl,c⟩;have c:=c.symm;subst c) | (go_at_call 111;refine(QaH _ _).mono ?_;rintro i w' ⟨rfl,c⟩;have c:=c.symm;subst c))
   go_ret;exact⟨E.out,Z⟩
  ·have l:decide (k<R.load a)=false:=by simpa using f
   have E:Hid (Qk9 R a k (.panicked (QdE 2))):=.inr ⟨fun h=>f h.2,Z⟩;clear d f;go_enter func222,ntmps222
   go_wp2_with (go_at_call 220;refine C.out.mono ?_;rintro i w' ⟨rfl,c⟩;have c:=c.symm;subst c)
   refine(Z7 _ _).mono ?_
   rintro i w' ⟨rfl,c⟩;subst c;exact⟨Z,E.out,Z⟩
 ·have j:decide (k>=0)=false:=by simpa using d
  have E:Hid (Qk9 R a k (.panicked (QdE 2))):=.inr ⟨fun h=>d h.1,Z⟩;clear d;go_enter func222,ntmps222
  go_wp2_with fail
  refine(Z7 _ _).mono ?_
  rintro i w' ⟨rfl,c⟩;subst c;exact⟨Z,E.out,Z⟩
def RM.thinged (R:RM) (h size:Int) (l:List Int):RM:={ R with e:=(R.e.got h size).withP ((R.e.got h size).p.puts (R.e.getAt h size) l) }
def ThW (g:WG) (w:World) (b most:Nat) (m:List (MFunc 6)) (R:RM) (h size:Int) (l:List Int) (e:Ending) (w':World):Prop :=
 (R.e.getCode h size=0/\e=.returned (Iv (R.e.getAt h size))/\WTo g w w' b most m (R.thinged h size l))\/(R.e.getCode h size≠0/\e=.panicked (QdE 6)/\WTo g w w' b most m R)
theorem Qfk (x:Int):∀ (l:List Int) (s:PSt) (k:Int),s.puts k (l++[x])=(s.puts k l).store (k+l.length) x
 | [],s,k=>by simp[PSt.puts]
 | y::l,s,k=>by
   have:=Qfk x l (s.store k y) (k+1)
   simp only[List.cons_append,PSt.puts,this,List.length_cons]
   congr 1
   omega
theorem WIn.at (h:WIn w O l (.slice a n c)) (b:l[i]?=some x):∃ k o,a=some ⟨k,o,none⟩/\O k/\w.cell? ⟨k,o+i,none⟩=some (Iv x):=by
 obtain⟨p,d,e,h⟩:=h
 cases e
 have m:=(Zi b).1;obtain⟨k,o,g,f,-,j⟩:=h i m
 refine⟨k,o,g,f,?_⟩
 rw[j]
 simp[List.getD,b]
theorem QdP (S:WAt w b most m R g) (h size:Int)(hn:l.length=n) (hb:n<=1000) (y:WIn w (fun x=>g.ow x=0) l (.slice a n c)) :
 Calls prog 219 #[Pv b 0,Iv h,Iv size,.slice a n c] w fun e w'=>ThW g w b most m R h size l e w':=by
 have C:=Qc (S.getC h size);have V:=Qc (Qji S.est.2 h size);have Q:=S.cellE;have HS:=Qc S;have HL:=Qc y;have M:=Qc hn;clear S y hn;by_cases f:R.e.getCode h size=0
 ·have D:=Qc f;rw[f] at C
  clear f;obtain⟨A,U⟩:∃ A,R.e.getAt h size=A:=⟨_,Z⟩
  have EA:=Qc U;rw[U] at C V
  clear U;go_enter func219,ntmps219
  go_upto_region 2 with (go_at_call 254;refine C.out.mono ?_;rintro F t ⟨rfl,H⟩)
  obtain⟨J,K,j,X,f2⟩:=H
  have K:=Qc K;have j:=Qc j;have CF:=Qc (Xh X f2)
  have u:Hid (WIn t (fun x=>J.ow x=0) l (.slice a n c)):=by
   refine WIn.keep (fun k r y=>j.out.block k y (fun e=>e r)) (fun k r y=>?_) HL.out;refine Xq.1 fun O=>?_;rcases j.out.own k O with h | h
   ·exact h r
   ·omega
  clear X f2 Q C HL;go_wp2_with (go_at_call 111;refine(QaH _ _).mono ?_;rintro F w' ⟨rfl,v⟩;have v:=v.symm;subst v)
  go_loopw [28] (fun i wr=>∃ q:Nat,q<=n/\i=Iv q/\WTo J t wr b most m { R with e:=(R.e.got h size).withP ((R.e.got h size).p.puts A (l.take q)) }) (fun i _=>n - (intOf i).toNat)
  case atStart=>exact⟨0,Xb _,Z,⟨J,by simpa[PSt.puts,Est.withP] using K.out,⟨Qz.refl _ _,Z,Z⟩,Z,Z⟩⟩
  case round =>
   obtain⟨q,hq,rfl,g3,d,B,E,L⟩:=hrel
   by_cases P:q<n
   ·have aa:(q:Int)<n:=by omega
    obtain⟨x,N⟩:∃ x,l[q]?=some x:=⟨_,Zg (by rw[M.out];exact P)⟩
    obtain⟨k,o,rfl,r,I⟩:=u.out.at N
    have I:wr.cell? ⟨k,o+q,none⟩=some (Iv x):=(XU (w:=t) (a:=⟨k,o+q,none⟩) (B.block k (Xi t _ I) (fun e=>e r))).trans I;have Q:=d.cellE;have q1:=d.cellP;have C3:=Qc (d.storeC (A+q) x);have EW:Hid (wrap64 (A+(q:Int))=A+q):=by show _=_;have:=V.out;unfold wrap64;omega
    have R3:Hid (∀ G,WTo g3 wr G b most m (RM.stored { R with e:=(R.e.got h size).withP ((R.e.got h size).p.puts A (l.take q)) } (A+q) x)->WTo J t G b most m { R with e:=(R.e.got h size).withP ((R.e.got h size).p.puts A (l.take (q+1))) }):=by
     intro G s;have s:=WTo.then B E L s;have e1:l.take (q+1)=l.take q++[x]:=by rw[XV,N];rfl
     have e2:(l.take q).length=q:=by rw[List.length_take,M.out];omega
     rw[e1,Qfk,e2]
     exact s
    clear d B E L N r K u j D V;generalize (R.e.got h size).p.puts A (l.take q)=st at *;go_wp2_with (rw[EW.out];go_at_call 221;refine C3.out.mono ?_;rintro F G ⟨rfl,s⟩)
    have R5:=Qc (R3.out _ s);clear s R3 C3 I Q q1;go_wp2
    go_roundw
    case rel=>exact⟨q+1,by omega,by go_num,R5.out⟩
    case measure=>simp[intOf];omega
   ·have W:q=n:=by omega
    subst W
    have T:Hid (ThW g w b most m R h size l (.returned (Iv A)) wr):=by
     refine .inl ⟨D.out,by rw[EA.out],WTo.then j.out CF.out.1 CF.out.2 ?_⟩;unfold RM.thinged;rw[EA.out]
     have e:l.take q=l:=XO (by rw[M.out];exact Ze);rw[e] at d
     exact⟨g3,d,B,E,L⟩
    clear d B E L;go_wp2
    go_ret;exact T.out
 ·have d0:(R.e.getCode h size==0)=false:=by simpa using f
  have D:=Qc f;have EG:=Qc (QlF f);clear f;obtain⟨cd,z⟩:∃ cd,R.e.getCode h size=cd:=⟨_,Z⟩
  rw[z] at C d0
  clear z;go_enter func219,ntmps219
  go_wp2_with (go_at_call 254;refine C.out.mono ?_;rintro F t ⟨rfl,H⟩)
  refine(Z7 _ _).mono ?_
  rintro F w' ⟨rfl,v⟩;subst v;rw[EG.out] at H
  exact⟨Z,.inr ⟨D.out,Z,H⟩⟩
end
section
variable {w w' w2:World}{b most:Nat}{m:List (MFunc 6)}{R R':RM}{g g1:WG}
theorem ThW.then {h size:Int}{e:Ending}(T:WSt g g1 w w2) (i:g1.t.c=g.t.c) (f:g1.fs=g.fs) (H:ThW g1 w2 b most m R h size l e w'):ThW g w b most m R h size l e w':=by
 rcases H with ⟨a,c,d⟩|⟨a,c,d⟩
 ·exact .inl ⟨a,c,WTo.then T i f d⟩
 ·exact .inr ⟨a,c,WTo.then T i f d⟩
theorem QgZ (S:WAt w b most m R g) (h:Int)(k:l.length=n) (p:n<=1000) (o:WIn w (fun x=>g.ow x=0) l (.slice a n c)) :
 Calls prog 172 #[Pv b 0,Iv h,.slice a n c] w fun e w'=>ThW g w b most m R h (if l.length=0 then 1 else (l.length:Int)) l e w':=by
 have C:=Qc (QdP S h (if l.length=0 then 1 else (l.length:Int)) k p o)
 have E:(if l.length=0 then 1 else (l.length:Int))=if (1:Int)<=n then (n:Int) else 1:=by
  rw[k]
  split<;>split<;>omega
 rw[E] at C |-
 have q:∀ (x y:Int),max x y=if y<=x then x else y:=fun x y=>by omega
 clear S k p o E;go_enter func172,ntmps172
 by_cases j:(1:Int)<=n
 ·rw[Xs j] at C |-
  have i:max (n:Int) 1=n:=by omega
  clear j q;go_wp2_with fail
  try rw[i]
  refine C.out.mono ?_;rintro r s (⟨f,rfl,d⟩|⟨f,rfl,d⟩)
  ·have R:=Qc (Xh f d);clear f d C i;go_wp2
   go_ret;exact .inl ⟨R.out.1,Z,R.out.2⟩
  ·exact⟨Z,.inr ⟨f,Z,d⟩⟩
 ·rw[Xr j] at C |-
  have i:max (n:Int) 1=1:=by omega
  clear j q;go_wp2_with fail
  try rw[i]
  refine C.out.mono ?_;rintro r s (⟨f,rfl,d⟩|⟨f,rfl,d⟩)
  ·have R:=Qc (Xh f d);clear f d C i;go_wp2
   go_ret;exact .inl ⟨R.out.1,Z,R.out.2⟩
  ·exact⟨Z,.inr ⟨f,Z,d⟩⟩
def QnU (g:WG) (w:World) (b most:Nat) (m:List (MFunc 6)) (R:RM) (h n:Int) (e:Ending) (w':World):Prop :=
 (0<=n/\n<=15/\ThW g w b most m R h (n+1) [n] e w')\/(¬ (0<=n/\n<=15)/\e=.panicked (QdE 3)/\WTo g w w' b most m R)
theorem Qg5 (S:WAt w b most m R g) (h n:Int) :
 Calls prog 173 #[Pv b 0,Iv h,Iv n] w fun e w'=>QnU g w b most m R h n e w':=by
 by_cases k:0<=n
 ·have x:decide (n>=0)=true:=by simpa using k
  by_cases o:n<=15
  ·have z:decide (n<=15)=true:=by simpa using o
   have q:=ZO w (.cells #[Iv n] 2);have u:=S.below q;have A:=Qc (S.stepB q);have v:g.ow w.heap.size=0:=Xq.1 fun e=>by have:=S.lt _ e;omega
   have C:=Qc (QdP u h (n+1) (l:=[n]) (a:=some ⟨w.heap.size,0,none⟩) (n:=1) (c:=1) Z (by omega) ⟨_,1,Z,fun i y=>by
    have:i=0:=by simpa using y
    subst this;exact⟨w.heap.size,0,Z,v,by simp,Qb (Qe w #[Iv n] 2) 0 _ Z⟩⟩)
   have t:wrap64 (n+1)=n+1:=by unfold wrap64;omega
   have d:=Qc (Xh k o);clear S u q v k o;go_enter func173,ntmps173
   go_wp2_with (go_at_call 111;refine(QaH _ _).mono ?_;rintro s w' ⟨rfl,j⟩;have j:=j.symm;subst j)
   try rw[t]
   refine C.out.mono ?_;rintro s B f;replace f:=f.then A.out Z Z;rcases f with ⟨p,rfl,f⟩|⟨p,rfl,f⟩
   ·have R:=Qc (Xh p f);clear p f C t;go_wp2
    go_ret;exact .inl ⟨d.out.1,d.out.2,.inl ⟨R.out.1,Z,R.out.2⟩⟩
   ·exact⟨Z,.inl ⟨d.out.1,d.out.2,.inr ⟨p,Z,f⟩⟩⟩
  ·have z:decide (n<=15)=false:=by simpa using o
   have r:=Qc S;have d:Hid (¬ n<=15):=o;clear S k o;go_enter func173,ntmps173
   go_wp2_with fail
   refine(Z7 _ _).mono ?_
   rintro s w' ⟨rfl,j⟩;subst j;exact⟨Z,.inr ⟨fun h=>by have:=d.out;omega,Z,WTo.same r.out Zr⟩⟩
 ·have x:decide (n>=0)=false:=by simpa using k
  have r:=Qc S;have d:Hid (¬ 0<=n):=k;clear S k;go_enter func173,ntmps173
  go_wp2_with fail
  refine(Z7 _ _).mono ?_
  rintro s w' ⟨rfl,j⟩;subst j;exact⟨Z,.inr ⟨fun h=>by have:=d.out;omega,Z,WTo.same r.out Zr⟩⟩
end
theorem Xu:type_of% @decide_eq_false:=@decide_eq_false
section
variable {w w' w2:World}{b most:Nat}{m:List (MFunc 6)}{R R':RM}{g g1:WG}
theorem WAt.setOut (S:WAt w b most m R g){n:Int}{v9:Value}{w9:World}(r:w9.ownsRow 0 2 1 v9 (R.out.length+1) (R.out.map (Value.int .i64)++[Iv n])) (c:w.grownBy w9 g.vo.ownBlock) (o:∀ k,v9.ownBlock=some k->g.vo.ownBlock=some k\/k=w.heap.size) :
 WTo g w (w9.setCell ⟨b,7,none⟩ v9) b most m { R with out:=R.out++[n] }:=by
 have j:=XC S.box;have d:∀ x,g.vo.ownBlock=some x->x≠b:=fun x a e=>by have:=S.oo x a;rw[e,S.ob] at this;omega
 have i:w9.heap[b]?=_:=(c.block b j (fun e=>d _ e.symm Z)).trans S.box
 have f:∀ k,v9.ownBlock=some k->k≠b:=fun k q e=>by
  rcases o k q with h | h
  ·exact d k h e
  ·omega
 have s:w.heap.size<=(w9.setCell ⟨b,7,none⟩ v9).heap.size:=by simpa using c.size
 have k:Wc g.ow (Qc9 g.ow 4 w (w9.setCell ⟨b,7,none⟩ v9)) (fun x=>x=1\/x=4) w (w9.setCell ⟨b,7,none⟩ v9):=Wc.marks S (by omega) c.os c.tape c.output s (fun x a l=>by
  rw[Xd _ _ _ _ (fun (e:x=b)=>l (.inl (e ▸ S.ob)))]
  exact c.block x a (fun e=>l (.inr (S.oo x e.symm))))
 have p:QbU (w9.setCell ⟨b,7,none⟩ v9) v9 (R.out++[n]):=by
  show World.ownsRow _ 0 _ 1 v9 (R.out++[n]).length ((R.out++[n]).map (Value.int .i64));rw[List.length_append,List.map_append]
  exact QZ r (fun x a=>Xd _ _ _ _ (f x a))
 refine⟨{ g with vo:=v9,ow:=Qc9 g.ow 4 w (w9.setCell ⟨b,7,none⟩ v9) },⟨?_,S.kEst k (by omega),S.kMod k,S.kInp k,S.inpC,S.kCalls k (by omega),S.kBack k,p,S.kFrs k (fun x h e=>by omega),S.kob k,S.koc k,fun x a=>?_,k.lt,S.klow k⟩,⟨k.step,Z,Z⟩,Z,Z⟩
 ·have:=Qh i 7 v9
  simpa using this
 ·rcases o x a with h | h
  ·exact(QaO (S.out.lt h)).trans (S.oo x h)
  ·exact Qc8 (by omega) (p.lt a)
theorem Qfu (S:WAt w b most m R g) (n:Int) (Q:R.out.length<=2000) :
 Calls prog 175 #[Pv b 0,Iv n] w fun e w'=>(R.out.length<2000/\e=.returned (.tuple #[])/\WTo g w w' b most m { R with out:=R.out++[n] })\/(¬ R.out.length<2000/\e=.panicked (QdE 8)/\WTo g w w' b most m R):=by
 obtain⟨K,N,p,t,A⟩:=iInfo64
 obtain⟨T,W,o⟩:=QaR S.out
 have G:w.cell? ⟨b,7,none⟩=some g.vo:=Qb S.box 7 _ Z;rw[o] at G
 have D:=Qc S;have y:=Qc o;by_cases l:R.out.length<2000
 ·have M:decide ((R.out.length:Int)<2000)=true:=Xt (by omega);have s:=ZO w (.cells #[Iv n] 2);have j:=Qc (S.below s);have C:=Qc (S.stepB s);have i:=Qc j.out.out;have E:=Qc (Qme w [Iv n] 2);have H:Hid ((w.alloc (.cells #[Iv n] 2)).heap.size=w.heap.size+1):=by show _=_;simp
  have d:=Qc (fun v9 w9=>j.out.setOut (v9:=v9) (w9:=w9) (n:=n));have a:=Qc j.out.box;have f:Hid (∀ x,g.vo.ownBlock=some x->x≠b):=fun x J e=>by have:=S.oo x J;rw[e,S.ob] at this;omega
  have z:Hid (R.out.length<2000):=l;clear S o l s D;unfold QbU at i;rw[y.out] at i d f
  go_enter func175,ntmps175
  go_upto_region 1 with (go_at_call 111;refine(QaH _ _).mono ?_;rintro I w' ⟨rfl,h⟩;have h:=h.symm;subst h)
  go_wp2_with (at_builtin;refine ZP _ Z _ _ 25 Z 2 K (Iv 0) 1 8 iUnder64 N p t A Z (by decide) _ _ _ Z i.out ⟨w.heap.size,0,none⟩ 1 1 [Iv n] Z Z E.out (by intro u B;simp at B;subst B;rfl) (by unfold maxLen;omega) (by omega) ?_)
  intro v9 w9 r q F;have R:=Qc (WTo.then C.out Z Z (d.out v9 w9 r q (fun k L=>(F k L).imp id (fun e=>by rw[H.out];exact e))));have c:=(q.block b (XC a.out) (fun e=>f.out b e.symm Z)).trans a.out;have O:w9.cell? ⟨b,7,none⟩=some g.vo:=Qb c 7 _ Z;have V:=Qj c 7;obtain⟨P,U,rfl⟩:=QaR r
  clear r q F d c a i G E C j f;go_wp2
  exact Xz (v:=.tuple #[]) (by simp[results,results175,go_sem]) Z (.inl ⟨z.out,Z,R.out⟩)
 ·have M:decide ((R.out.length:Int)<2000)=false:=Xu (by omega);have z:Hid (¬ R.out.length<2000):=l;clear S o l;go_enter func175,ntmps175
  go_wp2_with fail
  refine(Z7 _ _).mono ?_
  rintro I w' ⟨rfl,h⟩;subst h;exact⟨Z,.inr ⟨z.out,Z,WTo.same D.out Zr⟩⟩
def Qns (g:WG) (w:World) (b most:Nat) (m:List (MFunc 6)) (R:RM) (e:Ending) (w':World):Prop:=match R.inp with
 | []=>e=.panicked (QdE 4)/\WTo g w w' b most m R
 | n::l=>e=.returned (.int .i64 n)/\WTo g w w' b most m { R with inp:=l }
theorem Qfs (S:WAt w b most m R g) (u:R.inp.length<=1000000) :
 Calls prog 174 #[Pv b 0] w fun e w'=>Qns g w b most m R e w':=by
 have o:w.cell? ⟨b,2,none⟩=some (.slice g.pi R.inp.length g.ci):=Qb S.box 2 _ Z;have v:=Qc S;unfold Qns
 cases hi:R.inp with
 | nil =>
   rw[hi] at o
   clear S;go_enter func174,ntmps174
   go_wp2_with fail
   refine(Z7 _ _).mono ?_
   rintro B w' ⟨rfl,d⟩;subst d;exact⟨Z,Z,WTo.same v.out Zr⟩
 | cons n l =>
   have a:=S.inp;have c:=S.inpC;rw[hi] at o a c
   obtain⟨I,t,z,-,q,M⟩:=ZI a (i:=0) (by simp)
   simp only[List.getD_cons_zero,Nat.add_zero] at M
   rw[z] at o a
   simp only[List.length_cons] at o c
   have O:=Qj S.box 2
   have y:intsL.In w (fun x=>g.ow x=0/\g.lk<=x/\x<b) l [.slice (some ⟨I,t+1,none⟩) l.length (g.ci - 1)]:=by
    refine⟨_,_,Z,fun i x C=>?_⟩
    obtain⟨N,P,K,f,r,s,D,E⟩:=Yf a (i:=i+1) (x:=x) (by simpa using C)
    injection f with f
    injection f with f e10
    subst f;subst e10;refine⟨_,_,K,Z,r,s,fun j F=>?_,E⟩
    have:=D j F
    rw[show t+1+i*Lay.int.size+j=t+(i+1)*Lay.int.size+j by simp[Lay.int];omega]
    exact this
   have p:∀ (pi:Option Addr) (ci:Nat),intsL.In w (fun x=>g.ow x=0/\g.lk<=x/\x<b) l [.slice pi l.length ci]->l.length<=ci->WTo g w (w.setCell ⟨b,2,none⟩ (.slice pi l.length ci)) b most m { R with inp:=l }:=fun pi ci r s=>by
    refine S.reBox (R':={ R with inp:=l }) Z Z Z (by simp) (fun k Q h=>Xd _ _ _ _ h) ⟨Z,Z,Z,Z⟩ (pi:=pi) (ci:=ci) (vb:=g.vb) ⟨r,s⟩ S.back ?_;rw[Qh S.box 2 _]
    simp
   have H:=Qc (p _ _ y (by omega))
   have A:Hid (l.length=0->∀ pi ci,WTo g w (w.setCell ⟨b,2,none⟩ (.slice pi l.length ci)) b most m { R with inp:=l }):=fun e pi ci=>p pi ci (by
    have:l=[]:=Xf.1 e
    subst this;exact Yg _ _ _ _ _) (by omega)
   have L:((g.ci:Int) - 1)=((g.ci - 1:Nat):Int):=by omega
   have G:l.length+1<=1000000:=by rw[hi] at u;simpa using u
   clear S a y v z hi u q p;generalize g.ci=ci at *;go_enter func174,ntmps174
   have J:decide (((l.length+1:Nat):Int)>0)=true:=Xt (by omega);go_upto_region 2 with (go_at_call 111;refine(QaH _ _).mono ?_;rintro B w' ⟨rfl,d⟩;have d:=d.symm;subst d)
   clear J;go_wp2
   ·go_ret;exact⟨Z,A.out (by omega) _ _⟩
   ·go_ret;exact⟨Z,H.out⟩
end
theorem Xg:type_of% @Nat.le_of_ble_eq_true:=@Nat.le_of_ble_eq_true
def Qhz (w6:World) (fr:RFr) (v:Value) (w:World):Prop:=∃ k x n,v=Pv k 0/\w6.heap.size<=k/\w6.heap.size<=x/\WFr w k fr (.slice (some ⟨x,0,none⟩) n n)
def QmO (w6:World) (fr:RFr) (v:Value) (w:World):Prop:=∃ x n,v=.agg (frA fr (.slice (some ⟨x,0,none⟩) n n))/\w6.heap.size<=x/\QbU w (.slice (some ⟨x,0,none⟩) n n) fr.v
theorem Qhz.below {w w':World}{fr:RFr}{v:Value}(h:Qhz w6 fr v w) (b:Below w.heap.size w w'):Qhz w6 fr v w':=by
 obtain⟨k,x,n,c,a,d,e⟩:=h
 exact⟨k,x,n,c,a,d,e.below b⟩
theorem QmO.below {w w':World}{fr:RFr}{v:Value}(h:QmO w6 fr v w) (b:Below w.heap.size w w'):QmO w6 fr v w':=by
 obtain⟨x,n,d,c,a⟩:=h
 exact⟨x,n,d,c,QZ a (fun y e=>b.block y (a.lt e))⟩
def QnG (w6:World) (fr:RFr) (c X fi bi na ca:Nat) (pa:Option Addr) (t:Tmp) (v:Value) (w:World):Prop :=
 match ([(14,Qhz w6 fr),(15,Qhz w6 fr),(16,QmO w6 fr)]:List (Tmp × (Value->World->Prop))).lookup t with
 | some p=>p v w
 | none=>v=(([(0,.pointer (some ⟨c,0,none⟩)),(3,.pointer (some ⟨X,0,none⟩)),(4,.pointer (some ⟨c,0,none⟩)),(5,.pointer (some ⟨c,0,none⟩)),(6,.pointer (some ⟨c,0,none⟩)),(7,.pointer (some ⟨c,0,none⟩)),(8,.pointer (some ⟨c,0,none⟩)),(9,.int .i64 (fi:Int)),(10,.pointer (some ⟨X,0,none⟩)),(11,.int .i64 (bi:Int)),(12,.pointer (some ⟨X,2,none⟩)),(13,.slice pa na ca),(17,.pointer (some ⟨c,0,none⟩))]:List (Tmp × Value)).lookup t).getD undef
theorem wj1 {fr:RFr}{c q:Nat}(J:w6.cell? ⟨c,0,none⟩=some (Iv (fi:Int))) (H:w6.cell? ⟨X,0,none⟩=some (Iv (bi:Int))) (I:w6.cell? ⟨X,2,none⟩=some (.slice pa q ca)) (L:Hid (∀ wx,Below w6.heap.size w6 wx->Calls prog 216 #[Pv c 0,Iv (fi:Int),Iv (bi:Int),.slice pa q ca] wx fun e w'=>QmN wx fr e w')){Q:Exit->Act->World->Prop}
 (a:Act) (m:Nat) (G:a.tmps.size=m) (x:18<=m) (F:a.tmps.getD 0 undef=Pv c 0) (i:a.tmps.getD 3 undef=Pv X 0)
 (hend:∀ ops vs w',(QmO w6 fr) (vs 16) w'->vs 17=Pv c 0->Below w6.heap.size w6 w'->wpList prog ops Q (Qam 14 ((Tryz.f168.body.bind (Qi 1)).getD .skip)) (QM a vs [4,5,6,7,8,9,10,11,12,13,14,15,16,17]) w') :
 Code.wp prog ((Tryz.f168.body.bind (Qi 1)).getD .skip) Q a w6:=by
 conv=>arg 2;whnf
 refine Qg 14 (QnG w6 fr c X fi bi q ca pa) (fun w=>Below w6.heap.size w6 w) (fun w w'=>Below w.heap.size w w') (outs:=[0,3]) (gs:=[]) (bs:=[true,true,true,true,true,true,true,true,true,true,true,true,true,true]) (by kernel_rfl) (n:=18) G x (by kernel_rfl) (by kernel_rfl) ?hR ?hG (QI Zr 1) ⟨F,i,Y⟩ ?hA ?hend
 case hR =>
  intro t v w w' y h;unfold QnG at h |-;split at h
  ·rename_i p j
   simp only[List.lookup_cons,List.lookup_nil] at j
   split at j
   ·cases j;exact h.below y
   ·split at j
    ·cases j;exact h.below y
    ·split at j
     ·cases j;exact h.below y
     ·cases j
  ·exact h
 case hG=>exact Y
 case hend=>exact fun ops vs w' d f=>hend ops vs w' (f 16 (by kernel_rfl)) (f 17 (by kernel_rfl)) d
 case hA =>
  refine⟨fun a w d f K g=>?_,?_⟩
  ·obtain⟨b,-⟩:=f
   have b:a.tmps.getD 0 undef=Pv c 0:=b;go_simp;exact g _ _ Zr d Z
  refine⟨fun a w d f K g=>?_,?_⟩
  ·obtain⟨b,-⟩:=f
   have b:a.tmps.getD 0 undef=Pv c 0:=b;go_simp;exact g _ _ Zr d Z
  refine⟨fun a w d f K g=>?_,?_⟩
  ·obtain⟨b,-⟩:=f
   have b:a.tmps.getD 0 undef=Pv c 0:=b;go_simp;exact g _ _ Zr d Z
  refine⟨fun a w d f K g=>?_,?_⟩
  ·obtain⟨b,-⟩:=f
   have b:a.tmps.getD 6 undef=Pv c 0:=b;go_simp;exact g _ _ Zr d Z
  refine⟨fun a w d f K g=>?_,?_⟩
  ·obtain⟨b,-⟩:=f
   have b:a.tmps.getD 7 undef=Pv c 0:=b;go_simp;exact g _ _ Zr d Z
  refine⟨fun a w d f K g=>?_,?_⟩
  ·obtain⟨b,-⟩:=f
   have b:a.tmps.getD 8 undef=Pv c 0:=b;have E:=Qk J d;go_simp;exact g _ _ Zr d Z
  refine⟨fun a w d f K g=>?_,?_⟩
  ·obtain⟨b,-⟩:=f
   have b:a.tmps.getD 3 undef=Pv X 0:=b;go_simp;exact g _ _ Zr d Z
  refine⟨fun a w d f K g=>?_,?_⟩
  ·obtain⟨b,-⟩:=f
   have b:a.tmps.getD 10 undef=Pv X 0:=b;have E:=Qk H d;go_simp;exact g _ _ Zr d Z
  refine⟨fun a w d f K g=>?_,?_⟩
  ·obtain⟨b,-⟩:=f
   have b:a.tmps.getD 3 undef=Pv X 0:=b;go_simp;exact g _ _ Zr d Z
  refine⟨fun a w d f K g=>?_,?_⟩
  ·obtain⟨b,-⟩:=f
   have b:a.tmps.getD 12 undef=Pv X 2:=b;have E:=Qk I d;go_simp;exact g _ _ Zr d Z
  refine⟨fun a w d f K g=>?_,?_⟩
  ·obtain⟨b,B,D,C,-⟩:=f
   have b:a.tmps.getD 5 undef=Pv c 0:=b;have B:a.tmps.getD 9 undef=Iv (fi:Int):=B;have D:a.tmps.getD 11 undef=Iv (bi:Int):=D;have C:a.tmps.getD 13 undef=.slice pa q ca:=C;go_simp;refine Xm (L.out w d) ?_;rintro O S ⟨s,o,k,rfl,r,l,i,A⟩;go_simp;exact g _ _ A (d.trans (A.mono d.size)) ⟨s,o,k,Z,Zt d.size r,Zt d.size l,i⟩
  refine⟨fun a w d f K g=>?_,?_⟩
  ·obtain⟨b,-⟩:=f
   have b:(Qhz w6 fr) (a.tmps.getD 14 undef) w:=b;generalize z:a.tmps.getD 14 undef=u at b;obtain⟨s,o,k,rfl,r,l,i⟩:=b
   go_simp;exact g _ _ Zr d ⟨s,o,k,Z,r,l,i⟩
  refine⟨fun a w d f K g=>?_,?_⟩
  ·obtain⟨b,-⟩:=f
   have b:(Qhz w6 fr) (a.tmps.getD 15 undef) w:=b;generalize z:a.tmps.getD 15 undef=u at b;obtain⟨s,o,k,rfl,r,l,i⟩:=b
   have N:=Qb i.1 0 _ Z;have M:=Qb i.1 1 _ Z;have P:=Qb i.1 2 _ Z;have R:=Qb i.1 3 _ Z;go_simp;exact g _ _ Zr d ⟨o,k,Z,l,i.2⟩
  refine⟨fun a w d f K g=>?_,?_⟩
  ·obtain⟨b,-⟩:=f
   have b:a.tmps.getD 4 undef=Pv c 0:=b;go_simp;exact g _ _ Zr d Z
  trivial
section
variable {w w' w2:World}{b most:Nat}{m:List (MFunc 6)}{R R':RM}{g g1:WG}{c:Nat}{fr:RFr}{v:Value}
theorem QlW {w:World}{c:Nat}{a0 g f i:Value}(h:w.heap[c]?=some (.cells #[a0,g,f,i] 132 (0,0))) (b d e a:Value) :
 ((((w.setCell ⟨c,0,none⟩ b).setCell ⟨c,1,none⟩ d).setCell ⟨c,2,none⟩ e).setCell ⟨c,3,none⟩ a).heap[c]?=some (.cells #[b,d,e,a] 132 (0,0)):=by
 have:=Qh (Qh (Qh (Qh h 0 b) 1 d) 2 e) 3 a
 simpa using this
theorem WAt.newTop (S:WAt w b most m R g) (B:Below w.heap.size w w'){fr:RFr}{x:Nat}(p:w.heap.size<=x) (l:QbU w' (.slice (some ⟨x,0,none⟩) n n) fr.v) :
 WTo g w ((((w'.setCell ⟨g.t.c,0,none⟩ (Iv fr.f)).setCell ⟨g.t.c,1,none⟩ (Iv fr.b)).setCell ⟨g.t.c,2,none⟩ (Iv fr.i)).setCell ⟨g.t.c,3,none⟩ (.slice (some ⟨x,0,none⟩) n n)) b most m { R with top:=fr }:=by
 have F:=S.top;have d:=XC F.1;have o:w'.heap[g.t.c]?=_:=(B.block _ d).trans F.1
 have e:∀ k,k≠g.t.c->((((w'.setCell ⟨g.t.c,0,none⟩ (Iv fr.f)).setCell ⟨g.t.c,1,none⟩ (Iv fr.b)).setCell ⟨g.t.c,2,none⟩ (Iv fr.i)).setCell ⟨g.t.c,3,none⟩ (.slice (some ⟨x,0,none⟩) n n)).heap[k]?=w'.heap[k]?:=fun k a=>by
  rw[Xd _ _ _ _ a,Xd _ _ _ _ a,Xd _ _ _ _ a,Xd _ _ _ _ a]
 refine S.setTop B.os B.tape B.output (by simpa using B.size) (fun k a h _=>(e k h).trans (B.block k a)) ⟨QlW o _ _ _ _,QZ l (fun y j=>?_)⟩ (fun k a=>.inr ?_)
 ·have:y=x:=by simpa[Value.ownBlock] using j.symm
  exact e y (by omega)
 ·have:k=x:=by simpa[Value.ownBlock] using a.symm
  omega
theorem QiM (S:WAt w b most m R g) (O:R.top.v.length<=1000000){t:MTo}(A:t.block=(bi:Int)){P:Nat->Prop}{p:Option Addr}{r q:Nat}(I:intsL.In w P t.args [.slice pa t.args.length ca]) (E:t.args.length<=1000) (j:QaA R.top.v t.args=some xs) :
 Calls prog 168 #[Pv g.t.c 0,.agg #[Iv t.block,.slice p r q,.slice pa t.args.length ca]] w fun e w'=>e=.returned (.tuple #[])/\WTo g w w' b most m { R with top:=⟨R.top.f,t.block.toNat,0,xs⟩ }:=by
 rw[A,XT]
 have k:=Qc (ZO w (.cells #[Iv (bi:Int),.slice p r q,.slice pa t.args.length ca] 82));have o:=Qc (Qe w #[Iv (bi:Int),.slice p r q,.slice pa t.args.length ca] 82);have i:=Qc (S.below k.out);have u:=Qc (S.stepB k.out);have B:=Qc (Ya I k.out);have G:=Qc j;have N:=Qc E;clear S I j E;go_enter func168,ntmps168
 go_upto_region 1 with fail
 generalize w.alloc (.cells #[Iv (bi:Int),.slice p r q,.slice pa t.args.length ca] 82)=s at k o i u B |-;generalize w.heap.size=X at o |-;have M:Hid (∀ l,Below s.heap.size s l->Calls prog 216 #[Pv g.t.c 0,Iv (R.top.f:Int),Iv (bi:Int),.slice pa t.args.length ca] l fun e w'=>QmN l ⟨R.top.f,bi,0,xs⟩ e w'):=fun l L=>QdS (i.out.top.below L) O Z (by have:=N.out;omega) (Ya B.out L) G.out R.top.f bi;have K:s.cell? ⟨g.t.c,0,none⟩=some (Iv R.top.f):=Qb i.out.top.1 0 _ Z;have H:=Qb o.out 0 _ Z;have J:=Qb o.out 2 _ Z;refine wj1 K H J M _ _ Z (Xg (by kernel_rfl)) Z Z ?_;rintro C Q D ⟨x,n,d,j,F⟩ h z;show wpList _ C _ [_] (QM _ Q [4,5,6,7,8,9,10,11,12,13,14,15,16,17]) D;simp only[QM,Act.put,List.setIfInBounds_toArray,List.set_cons_zero,List.set_cons_succ,d,h]
 have y:=Qc (WTo.then u.out Z Z (i.out.newTop z j (fr:=⟨R.top.f,bi,0,xs⟩) F));have a:D.heap[g.t.c]?=_:=(z.block _ (XC i.out.top.1)).trans i.out.top.1;have c0:=Qb a 0 _ Z;have W:=Qb a 1 _ Z;have T:=Qb a 2 _ Z;have U:=Qb a 3 _ Z;have z0:=Qj a 0;have z1:=Qj a 1;have V:=Qj a 2;have z3:=Qj a 3;clear d h z K H J M F a i u G B;go_wp2
 exact Xz (v:=.tuple #[]) (by simp[results,results168,go_sem]) Z ⟨Z,y.out⟩
end
section
variable {w w' w5 w9:World}{b most:Nat}{m:List (MFunc 6)}{R R':RM}{g g1:WG}
theorem WAt.next (S:WAt w b most m R g):WTo g w (w.setCell ⟨g.t.c,2,none⟩ (Iv ((R.top.i:Int)+1))) b most m { R with top:={ R.top with i:=R.top.i+1 } }:=by
 obtain⟨⟨F,d,h⟩,-⟩:=S.frs
 refine S.setTop Z Z Z (by simp) (fun x a f _=>Xd _ _ _ _ f) (v:=g.t.v) ⟨?_,?_⟩ (fun x a=>.inl a)
 ·rw[Qh F.1 2 (Iv ((R.top.i:Int)+1))]
  simp
 ·exact QZ F.2 (fun x a=>Xd _ _ _ _ (fun (e:x=g.t.c)=>by have:=h x a;rw[e,d] at this;omega))
theorem WAt.pushFr (S:WAt w b most m R g) (n:Below w.heap.size w w5){c i j:Nat}{fr:RFr}(F:WFr w5 c fr (.slice (some ⟨i,0,none⟩) j j)) (M:w.heap.size<=c) (I:w.heap.size<=i)
 {v9:Value} (A:w9.ownsRow 0 130 1 v9 (R.rest.length+1+1) (Qaq (g.t::g.fs)++[Pv c 0])) (l:w5.grownBy w9 g.vc.ownBlock) (C:∀ k,v9.ownBlock=some k->g.vc.ownBlock=some k\/k=w5.heap.size) :
 ∃ g',WAt (w9.setCell ⟨b,4,none⟩ v9) b most m { R with top:=fr,rest:=R.top::R.rest } g'/\WSt g g' w (w9.setCell ⟨b,4,none⟩ v9)/\g'.fs=g.t::g.fs:=by
 have z:=XC S.box;have K:=n.size;have L:=l.size;have y:=XC F.1;have v:=F.2.lt (x:=i) Z
 have p:i≠c:=fun e=>by
  obtain⟨q,E⟩:=ZU F.2 (x:=i) Z
  exact Zc E F.1 (by decide) e
 have J:w.heap.size<=(w9.setCell ⟨b,4,none⟩ v9).heap.size:=by simp;omega
 have o:∀ x,g.vc.ownBlock=some x->x≠b:=fun x a e=>by have:=S.oc x a;rw[e,S.ob] at this;omega
 have u:w9.heap[b]?=_:=(l.block b (by omega) (fun e=>o _ e.symm Z)).trans ((n.block b z).trans S.box)
 have s:∀ k,v9.ownBlock=some k->k≠b:=fun k G e=>by
  rcases C k G with h | h
  ·exact o k h e
  ·omega
 have f:∀ k,w.heap.size<=k->k<w5.heap.size->(w9.setCell ⟨b,4,none⟩ v9).heap[k]?=w5.heap[k]?:=fun k N D=>by
  rw[Xd _ _ _ _ (fun (e:k=b)=>by omega)]
  exact l.block k D (fun e=>by have:=XC (ZU S.calls e.symm).choose_spec;omega)
 let ow':Nat->Nat:=fun x=>if x<w.heap.size then g.ow x else if x<w9.heap.size then (if x=c then 5+2*(R.rest.length+1) else if x=i then 6+2*(R.rest.length+1) else 3) else 0
 have d:∀ x,x<w.heap.size->ow' x=g.ow x:=fun x a=>Xs a
 have k:Wc g.ow ow' (fun x=>x=1\/x=3) w (w9.setCell ⟨b,4,none⟩ v9):=⟨l.os.trans n.os,l.tape.trans n.tape,l.output.trans n.output,J,d,fun x a B=>by
  rw[Xd _ _ _ _ (fun (e:x=b)=>B (.inl (e ▸ S.ob)))]
  exact(l.block x (by omega) (fun e=>B (.inr (S.oc x e.symm)))).trans (n.block x a),by omega,fun x a=>by
  have:x<w9.heap.size:=by
   refine Xq.1 fun h=>a ?_;show (if x<w.heap.size then _ else if x<w9.heap.size then _ else 0)=0;rw[Xr (by omega),Xr h]
  simpa using this⟩
 have H:(w9.setCell ⟨b,4,none⟩ v9).ownsRow 0 130 1 v9 (R.rest.length+1+1) (Qaq (⟨c,.slice (some ⟨i,0,none⟩) j j⟩::g.t::g.fs)):=by
  have e:Qaq (⟨c,.slice (some ⟨i,0,none⟩) j j⟩::g.t::g.fs)=Qaq (g.t::g.fs)++[Pv c 0]:=by simp[Qaq]
  rw[e]
  exact QZ A (fun x a=>Xd _ _ _ _ (s x a))
 refine⟨{ g with vc:=v9,t:=⟨c,.slice (some ⟨i,0,none⟩) j j⟩,fs:=g.t::g.fs,ow:=ow' },⟨?_,S.kEst k (by omega),S.kMod k,S.kInp k,S.inpC,H,S.kBack k,S.kOut k (by omega),⟨⟨F.keep (f c M y) (fun x a=>?_),?_,fun x a=>?_⟩,S.kFrs k (fun x h e=>by omega)⟩,S.kob k,fun x a=>?_,S.koo k,k.lt,S.klow k⟩,⟨k.step,Z,Z⟩,Z⟩
 ·have:=Qh u 4 v9
  simpa using this
 ·have:x=i:=by simpa[Value.ownBlock] using a.symm
  subst this;exact f x I v
 ·show (if c<w.heap.size then _ else if c<w9.heap.size then _ else 0)=_;rw[Xr (by omega),Xs (by omega),Xs Z]
  simp
 ·have:x=i:=by simpa[Value.ownBlock] using a.symm
  subst this;show (if x<w.heap.size then _ else if x<w9.heap.size then _ else 0)=_;rw[Xr (by omega),Xs (by omega),Xr p,Xs Z]
  simp
 ·rcases C x a with h | h
  ·exact(d x (XC (ZU S.calls h).choose_spec)).trans (S.oc x h)
  ·have r:=XC (ZU A a).choose_spec;show (if x<w.heap.size then _ else if x<w9.heap.size then _ else 0)=_;rw[Xr (by omega),Xs r,Xr (by omega),Xr (by omega)]
theorem WAt.next2 (S:WAt w b most m R g){y:WB}{u:List WB}{fr:RFr}{rest:List RFr}(n:g.fs=y::u) (q:R.rest=fr::rest) :
 WGo g w (w.setCell ⟨y.c,2,none⟩ (Iv ((fr.i:Int)+1))) b most m { R with rest:={ fr with i:=fr.i+1 }::rest }:=by
 have p:=S.frs;rw[n,q] at p
 obtain⟨⟨r,f,h⟩,⟨o,l,j⟩,t⟩:=p
 have d:∀ x,x≠y.c->(w.setCell ⟨y.c,2,none⟩ (Iv ((fr.i:Int)+1))).heap[x]?=w.heap[x]?:=fun x a=>Xd _ _ _ _ a;have k:Wc g.ow g.ow (fun x=>x=5+2*rest.length) w (w.setCell ⟨y.c,2,none⟩ (Iv ((fr.i:Int)+1))):=⟨Z,Z,Z,by simp,fun _ _=>rfl,fun x a s=>d x (fun e=>s (by rw[e];exact l)),by omega,fun x a=>by simpa using S.lt x a⟩;simp only[List.length_cons] at f h
 refine⟨g,⟨(S.kBox k (by omega)).trans S.box,S.kEst k (by omega),S.kMod k,S.kInp k,S.inpC,?_,S.kBack k,S.kOut k (by omega),?_,S.ob,S.oc,S.oo,k.lt,S.klow k⟩,⟨k.step,Z,Z⟩⟩
 ·have:=S.kCalls k (by omega)
  rw[q] at this
  exact this
 ·rw[n]
  refine⟨⟨r.keep (d _ (fun e=>?_)) (fun x a=>d x (fun e=>?_)),f,h⟩,⟨⟨?_,?_⟩,l,j⟩,t.keep (fun _ _=>rfl) (fun x a z v=>k.keep x a (by omega))⟩
  ·rw[e] at f;omega
  ·have:=h x a;rw[e] at this;omega
  ·rw[Qh o.1 2 (Iv ((fr.i:Int)+1))]
   simp
  ·exact QZ o.2 (fun x a=>d x (fun e=>by have:=j x a;rw[e] at this;omega))
theorem WAt.pop (S:WAt w b most m R g){y:WB}{i:List WB}{d:RFr}{rest:List RFr}(n:g.fs=y::i) (s:R.rest=d::rest)(u:g.vc=.slice a (R.rest.length+1) cap) :
 ∃ g',WAt (w.setCell ⟨b,4,none⟩ (.slice a R.rest.length cap)) b most m { R with top:=d,rest:=rest } g'/\WSt g g' w (w.setCell ⟨b,4,none⟩ (.slice a R.rest.length cap))/\g'.t=y:=by
 have v:=S.frs;rw[n,s] at v
 have p:∀ x,g.vc.ownBlock=some x->x≠b:=fun x f e=>by have:=S.oc x f;rw[e,S.ob] at this;omega
 have k:Wc g.ow g.ow (fun x=>x=1) w (w.setCell ⟨b,4,none⟩ (.slice a R.rest.length cap)):=⟨Z,Z,Z,by simp,fun _ _=>rfl,fun x f B=>Xd _ _ _ _ (fun (e:x=b)=>B (e ▸ S.ob)),by omega,fun x f=>by simpa using S.lt x f⟩;have F:(Value.slice a R.rest.length cap).ownBlock=g.vc.ownBlock:=by rw[u];cases a<;>rfl
 refine⟨{ g with vc:=.slice a R.rest.length cap,t:=y,fs:=i },⟨?_,S.kEst k (by omega),S.kMod k,S.kInp k,S.inpC,?_,S.kBack k,S.kOut k (by omega),v.2.keep (fun _ _=>rfl) (fun x f J K=>k.keep x f (by omega)),S.ob,fun x f=>S.oc x (by rw[<-F];exact f),S.oo,k.lt,S.klow k⟩,⟨k.step,Z,Z⟩,Z⟩
 ·rw[Qh S.box 4 (.slice a R.rest.length cap)]
  simp
 ·obtain⟨M,A⟩:=S.calls
  have z:Qaq (g.t::g.fs)=Qaq (y::i)++[Pv g.t.c 0]:=by rw[n];simp[Qaq]
  have l:(Qaq (y::i)).length=R.rest.length:=by have:=S.rows;rw[n] at this;simpa[Qaq] using this
  show World.ownsRow _ 0 _ 1 (.slice a R.rest.length cap) (rest.length+1) (Qaq (y::i));have o:rest.length+1=R.rest.length:=by rw[s];simp
  rw[o]
  refine⟨by rw[l];simp,?_⟩
  rcases A with ⟨j,C⟩|⟨r,L,h,j,C,H,I,G,D,E⟩
  ·omega
  ·have q:=p r (by rw[j];rfl);rw[u] at j
   cases j
   refine .inr ⟨r,cap,h,Z,Xb _,(Xd _ _ _ _ q).trans H,by omega,G,D,?_⟩
   have:h.toList.take (R.rest.length*1)=(h.toList.take ((R.rest.length+1)*1)).take (R.rest.length*1):=by rw[List.take_take,Nat.min_eq_left (by omega)]
   rw[this,E,z,List.take_append_of_le_length (by omega),XO (by omega)]
end
theorem QfU {l l2:List Oper}{outs:List Tmp}{gs:List (Nat × Option Bool)}{a:Act}{w:World}{Q:Exit->Act->World->Prop}
 (E:(Nat->Bool)->Tmp->Value->World->Prop) (W:(Nat->Bool)->World->Prop) (PX:List PanicEntry->World->Prop) (H:∀ ch a' w',a'.defers=a.defers->PX ch w'->Q (.panic ch) a' w')
 (I:P.follows .mixedOrders=true)  (y:a.tmps.size=m) (c:n<=m) (G:QaQ l n outs gs bs=true)
 (r:(Qcu 0 (l++l2)&&(Qbv l.length l&&QaM (l++l2) l.length l2))=true)
 (u:∀ S,ZK (E S) l.toArray gs) (i:W (fun _=>false) w.drew) (B:Qak (E (fun _=>false)) a w.drew outs)
 (D:AllOkY E W PX P l 0 l bs)
 (b:∀ (vs:Tmp->Value) (S:Nat->Bool) w',(∀ j,j<l.length->S j=true)->W S w'->(∀ t,(Qt l).contains t=true->E S t (vs t) w')->wpList P (l++l2).toArray Q l2 (QM a vs (Qt l)) w') :
 (Code.region id (l++l2).toArray true).wp P Q a w:=by
 simp only[Bool.and_eq_true] at r
 obtain⟨g,f,p⟩:=r
 refine wp_region_any I ?_
 have k:wpAny P .any l.toArray (Exit.then (fun a w=>wpList P (l++l2).toArray Q l2 a w) Q) l.length (Array.replicate l.length false) a w.drew:=by
  have d:(fun j=>(Array.replicate l.length false).getD j false)=fun _=>false:=by
   funext j
   rw[Za,Array.getElem?_replicate]
   split<;>rfl
  refine Qbt (PX:=PX) (Q:=Exit.then (fun a w=>wpList P (l++l2).toArray Q l2 a w) Q) (a0:=a) (outs:=outs) (gs:=gs) (bs:=bs) (fun ch a' w' x z=>H ch a' w' x z) (Qat (y ▸ c) G) u D (fun vs S w' h i F=>b vs S w' h i F) _ _ _ _ (by simp) ?_ ⟨by rw[d];exact i,(by rw[d];intro j o _ h;cases h),Z,Z,fun _ _=>rfl,(fun t s _=>by rw[d];exact Qa3 outs B t s),?_⟩
  ·simp only[Array.toList_replicate]
   exact Zt (List.length_filter_le _ _) (by simp)
  ·intro j o t L J C;simp[Array.getD] at C
 have:=Qbo (Q:=Q) g f p l.length (Array.replicate l.length false) a w.drew (by simp) (fun q o K v=>by simp[Array.getD] at v) k
 have e:(Array.replicate l.length false++Array.replicate l2.length false:Array Bool)=Array.replicate (l++l2).toArray.size false:=by
  simp
 have A:l.length+l2.length=(l++l2).toArray.size:=by simp
 rw[e,A] at this
 exact this
theorem Zs {lo:List Oper}{outs:List Tmp}{gs:List (Nat × Option Bool)}{a:Act}{w:World}{Q:Exit->Act->World->Prop}
 (k:Nat) (E:(Nat->Bool)->Tmp->Value->World->Prop) (W:(Nat->Bool)->World->Prop) (PX:List PanicEntry->World->Prop) (d:∀ ch a' w',a'.defers=a.defers->PX ch w'->Q (.panic ch) a' w')
 (e:P.follows .mixedOrders=true)  (g:a.tmps.size=m) (c:n<=m) (f:QaQ (lo.take k) n outs gs bs=true)
 (q:(Qcu 0 lo&&(Qbv (lo.take k).length (lo.take k)&&QaM lo (lo.take k).length (lo.drop k)))=true)
 (o:∀ S,ZK (E S) (lo.take k).toArray gs) (i:W (fun _=>false) w.drew) (p:Qak (E (fun _=>false)) a w.drew outs)
 (r:AllOkY E W PX P (lo.take k) 0 (lo.take k) bs)
 (b:∀ ops (vs:Tmp->Value) (S:Nat->Bool) w',(∀ j,j<(lo.take k).length->S j=true)->W S w'->(∀ t,(Qt (lo.take k)).contains t=true->E S t (vs t) w')->wpList P ops Q (lo.drop k) (QM a vs (Qt (lo.take k))) w') :
 (Code.region id lo.toArray true).wp P Q a w:=by
 have h:=QfU (id:=id) (l:=lo.take k) (l2:=lo.drop k) (Q:=Q) E W PX d e g c f (by rw[List.take_append_drop];exact q) o i p r (b _);rwa [List.take_append_drop] at h
def Qnp (l:List Oper) (t:Tmp) (i:Nat):Bool:=(List.range l.length).all fun j=>match l[j]? with
 | some o=>(match o.dst with | some u=>u != t | none=>true)||j==i
 | none=>true
theorem QkV {l:List Oper}{S:Nat->Bool}{t i:Nat}(f:Qm0 l S t) (d:(Qt l).contains t=true) (e:Qnp l t i=true):S i=true:=by
 obtain⟨j,o,c,k,g⟩:=f (by simpa using d)
 have b:=(Zi c).1;have a:=Xe.1 e j (by simpa using b);rw[c] at a
 simp only[k] at a
 have:j=i:=by
  rw[Bool.or_eq_true] at a
  rcases a with h | h
  ·simp at h
  ·simpa using h
 rw[<-this];exact g
def Zk (w6 w w':World):Prop:=∀ Z,w6.heap.size<=Z->Z<w.heap.size->w'.heap[Z]?=w.heap[Z]?
theorem Zk.refl (a w:World):Zk a w w:=fun _ _ _=>rfl
theorem Zk.below {a w w':World}(b:Below w.heap.size w w'):Zk a w w':=fun Z _ h=>b.block Z h
section
variable {w6 w w':World}{HP:World->Prop}{hk i:Nat}{S:Nat->Bool}
theorem WY.onB (h:WY w6 HP hk S w) (d:∀ w w',HP w->Below w.heap.size w w'->HP w') (hi:i≠hk) (b:Below w.heap.size w w'):WY w6 HP hk (Qcr i S) w':=by
 have e:Qcr i S hk=S hk:=Qm7 (fun e=>hi e.symm);rcases h with ⟨c,a⟩|⟨c,a⟩
 ·exact .inl ⟨by rw[e];exact c,a.trans (b.mono a.size)⟩
 ·exact .inr ⟨by rw[e];exact c,d _ _ a b⟩
theorem WY.lowB (h:WY w6 HP hk S w) (a:∀ w,HP w->w6.heap.size<=w.heap.size):w6.heap.size<=w.heap.size:=by
 rcases h with h | h
 ·exact h.2.size
 ·exact a _ h.2
theorem WY.onS (h:WY w6 HP hk S w) (hi:i≠hk):WY w6 HP hk (Qcr i S) w:=by
 have e:Qcr i S hk=S hk:=Qm7 (fun e=>hi e.symm);unfold WY;rw[e];exact h
end
def QmR (w6:World) (xs:List Int) (n:Nat) (v:Value) (w:World):Prop:=∃ k,v=.slice (some ⟨k,0,none⟩) n n/\w6.heap.size<=k/\QbU w (.slice (some ⟨k,0,none⟩) n n) xs
def Qk6 (w6:World) (x:Int) (v:Value) (w:World):Prop:=∃ k,v=.slice (some ⟨k,0,none⟩) 1 1/\w6.heap.size<=k/\w.cell? ⟨k,0,none⟩=some (Iv x)
theorem QmR.z (h:QmR w6 xs n v w) (z:Zk w6 w w'):QmR w6 xs n v w':=by
 obtain⟨k,d,a,b⟩:=h
 exact⟨k,d,a,QZ b (fun y c=>by
  have:y=k:=by simpa[Value.ownBlock] using c.symm
  subst this;exact z y a (b.lt c))⟩
theorem Qk6.z (h:Qk6 w6 x v w) (z:Zk w6 w w'):Qk6 w6 x v w':=by
 obtain⟨k,d,b,c⟩:=h
 exact⟨k,d,b,(XU (w:=w) (a:=⟨k,0,none⟩) (z k b (Xi w _ c))).trans c⟩
theorem Qhz.z {fr:RFr}(h:Qhz w6 fr v w) (z:Zk w6 w w'):Qhz w6 fr v w':=by
 obtain⟨k,x,n,e,c,d,a⟩:=h
 exact⟨k,x,n,e,c,d,a.keep (z k c (XC a.1)) (fun y b=>by
  have:y=x:=by simpa[Value.ownBlock] using b.symm
  subst this;exact z y d (a.2.lt b))⟩
def Qmh (w6:World) (fr:RFr) (v:Value) (w:World):Prop:=∃ k u,v=.slice (some ⟨k,0,none⟩) 1 1/\w6.heap.size<=k/\w.cell? ⟨k,0,none⟩=some u/\Qhz w6 fr u w
theorem Qmh.z {fr:RFr}(h:Qmh w6 fr v w) (z:Zk w6 w w'):Qmh w6 fr v w':=by
 obtain⟨k,u,d,b,c,e⟩:=h
 exact⟨k,u,d,b,(XU (w:=w) (a:=⟨k,0,none⟩) (z k b (Xi w _ c))).trans c,e.z z⟩
theorem Qgq {u:Value}(h:w.cell? ⟨k,0,none⟩=some u):∀ (j:Nat) (v:Value),[u][j]?=some v->w.cell? ((⟨k,0,none⟩:Addr).add j)=some v
 | 0,v,hv=>by simp at hv;subst hv;exact h
 | j+1,v,hv=>by simp at hv
theorem QeA (w:World){o:Oper}{a:Act}{K:Act->World->Prop}{Q:Exit->Act->World->Prop}(s x:Operand) (t:TypeId)
 (F:o.op=.call { callee:=.builtin .append,args:=#[s,x],argTypes:=#[t,t] })
 (e:TypeId) (i:TypeInfo) (z:Value) (size d:Nat) (E:P.underlying t=some (.slice e)) (hi:P.info? e=some i) (O:i.zero=some z)
 (g:i.size=size) (A:i.bytes=d) (B:z.cells.size=size) (D:0<size)
 (v:Value) (n:Nat) (xs:List Value) (N:a.eval s=v) (p:w.ownsRow 0 e size v n xs)
 (y:Addr) (m c:Nat) (b:List Value) (G:a.eval x=.slice (some y) m c) (M:b.length=m*size) (l:∀ j u,b[j]?=some u->w.cell? (y.add j)=some u) (H:∀ u∈b,u.oneCell'=true)
 (C:n+m<=maxLen) (f:(n+m)*d<=140737488355328)
 (h:∀ v' w',w'.ownsRow 0 e size v' (n+m) (xs++b)->w.grownBy w' v.ownBlock->(∀ k,v'.ownBlock=some k->v.ownBlock=some k\/k=w.heap.size)->K (a.put o.dst v') w'):o.wp P a w K Q:=by
 obtain⟨v',w',L,I,J,_,q⟩:=run_append_own_at (P:=P) w 0 t o.type e i z size d E hi O g A B D v n xs p y m c b M l H C f (Xb _)
 unfold Oper.wp execOp;simp only[F,resolve,invoke,builtin,Sem.run_bind,Sem.run_pure,Result.andThen_ok,List.map_toArray,List.map_cons,List.map_nil,N,G,L]
 refine h _ _ I J (fun k r=>?_);rcases q with q | q
 ·rw[q] at r;exact .inl r
 ·rw[q] at r;exact .inr (by simpa using r.symm)
def Qnn (b c X be ri vl cc j:Nat) (ya:Int) (t:Tmp) (v:Value) (w:World):Prop :=
 v=(([(0,Pv b 0),(1,Pv c 0),(5,Pv X 0),(68,Pv b 0),(69,Pv b 0),(70,Pv b 0),(71,Pv be 0),(72,Pv c 0),(73,Pv c 0),(74,Pv c 3),(75,.slice (some ⟨ri,0,none⟩) vl cc),(76,Pv X 1),(77,Iv (j:Int)),(78,Pv ri j),(79,Iv ya)]:List (Tmp × Value)).lookup t).getD undef
theorem QnT {l:Nat}(u:w6.cell? ⟨b,0,none⟩=some (Pv l 0)) (y:w6.cell? ⟨c,3,none⟩=some (.slice (some ⟨ri,0,none⟩) vl cc)) (x:w6.cell? ⟨X,1,none⟩=some (Iv (j:Int))) (A:(j:Int)<vl) (s:w6.cell? ⟨ri,j,none⟩=some (Iv ya))  {Q:Exit->Act->World->Prop}
 (a:Act) (m:Nat) (q:a.tmps.size=m) (i:148<=m) (z:a.tmps.getD 0 undef=Pv b 0) (p:a.tmps.getD 1 undef=Pv c 0) (r:a.tmps.getD 5 undef=Pv X 0)
 (hend:∀ ops vs w',vs 71=Pv l 0->vs 79=Iv ya->Below w6.heap.size w6 w'->wpList prog ops Q (Qam 12 ((Tryz.f114.body.bind (Qi 14)).getD .skip)) (QM a vs [68,69,70,71,72,73,74,75,76,77,78,79]) w') :
 Code.wp prog ((Tryz.f114.body.bind (Qi 14)).getD .skip) Q a w6:=by
 conv=>arg 2;whnf
 refine Qg 12 (Qnn b c X l ri vl cc j ya) (fun w=>Below w6.heap.size w6 w) (fun w w'=>Below w.heap.size w w') (outs:=[0,1,5]) (gs:=[]) (bs:=[true,true,true,true,true,true,true,true,true,true,true,true]) (by kernel_rfl) (n:=148) q i (by kernel_rfl) (by kernel_rfl) ?hR ?hG (QI Zr 1) ⟨z,p,r,Y⟩ ?hA ?hend
 case hR=>exact fun t v w w' _ h=>h
 case hG=>exact Y
 case hend=>exact fun ops vs w' e f=>hend ops vs w' (f 71 (by kernel_rfl)) (f 79 (by kernel_rfl)) e
 case hA =>
  refine⟨fun a w e f K g=>?_,?_⟩
  ·obtain⟨d,-⟩:=f
   have d:a.tmps.getD 0 undef=Pv b 0:=d;go_simp;exact g _ _ Zr e Z
  refine⟨fun a w e f K g=>?_,?_⟩
  ·obtain⟨d,-⟩:=f
   have d:a.tmps.getD 68 undef=Pv b 0:=d;go_simp;exact g _ _ Zr e Z
  refine⟨fun a w e f K g=>?_,?_⟩
  ·obtain⟨d,-⟩:=f
   have d:a.tmps.getD 69 undef=Pv b 0:=d;go_simp;exact g _ _ Zr e Z
  refine⟨fun a w e f K g=>?_,?_⟩
  ·obtain⟨d,-⟩:=f
   have d:a.tmps.getD 70 undef=Pv b 0:=d;have k:=Qk u e;go_simp;exact g _ _ Zr e Z
  refine⟨fun a w e f K g=>?_,?_⟩
  ·obtain⟨d,-⟩:=f
   have d:a.tmps.getD 1 undef=Pv c 0:=d;go_simp;exact g _ _ Zr e Z
  refine⟨fun a w e f K g=>?_,?_⟩
  ·obtain⟨d,-⟩:=f
   have d:a.tmps.getD 72 undef=Pv c 0:=d;go_simp;exact g _ _ Zr e Z
  refine⟨fun a w e f K g=>?_,?_⟩
  ·obtain⟨d,-⟩:=f
   have d:a.tmps.getD 73 undef=Pv c 0:=d;go_simp;exact g _ _ Zr e Z
  refine⟨fun a w e f K g=>?_,?_⟩
  ·obtain⟨d,-⟩:=f
   have d:a.tmps.getD 74 undef=Pv c 3:=d;have k:=Qk y e;go_simp;exact g _ _ Zr e Z
  refine⟨fun a w e f K g=>?_,?_⟩
  ·obtain⟨d,-⟩:=f
   have d:a.tmps.getD 5 undef=Pv X 0:=d;go_simp;exact g _ _ Zr e Z
  refine⟨fun a w e f K g=>?_,?_⟩
  ·obtain⟨d,-⟩:=f
   have d:a.tmps.getD 76 undef=Pv X 1:=d;have k:=Qk x e;go_simp;exact g _ _ Zr e Z
  refine⟨fun a w e f K g=>?_,?_⟩
  ·obtain⟨d,o,-⟩:=f
   have d:a.tmps.getD 75 undef=.slice (some ⟨ri,0,none⟩) vl cc:=d;have o:a.tmps.getD 77 undef=Iv (j:Int):=o;go_simp;exact g _ _ Zr e Z
  refine⟨fun a w e f K g=>?_,?_⟩
  ·obtain⟨d,-⟩:=f
   have d:a.tmps.getD 78 undef=Pv ri j:=d;have k:=Qk s e;go_simp;exact g _ _ Zr e Z
  trivial
def Qnk (b c X ri vl cc j:Nat) (ya:Int) (t:Tmp) (v:Value) (w:World):Prop :=
 v=(([(0,Pv b 0),(1,Pv c 0),(5,Pv X 0),(132,Pv b 0),(133,Pv c 0),(134,Pv c 0),(135,Pv c 3),(136,.slice (some ⟨ri,0,none⟩) vl cc),(137,Pv X 1),(138,Iv (j:Int)),(139,Pv ri j),(140,Iv ya)]:List (Tmp × Value)).lookup t).getD undef
theorem Qn8 (u:w6.cell? ⟨c,3,none⟩=some (.slice (some ⟨ri,0,none⟩) vl cc)) (s:w6.cell? ⟨X,1,none⟩=some (Iv (j:Int))) (y:(j:Int)<vl) (r:w6.cell? ⟨ri,j,none⟩=some (Iv ya))  {Q:Exit->Act->World->Prop}
 (a:Act) (m:Nat) (p:a.tmps.size=m) (i:148<=m) (x:a.tmps.getD 0 undef=Pv b 0) (o:a.tmps.getD 1 undef=Pv c 0) (q:a.tmps.getD 5 undef=Pv X 0)
 (hend:∀ ops vs w',vs 132=Pv b 0->vs 140=Iv ya->Below w6.heap.size w6 w'->wpList prog ops Q (Qam 9 ((Tryz.f114.body.bind (Qi 22)).getD .skip)) (QM a vs [132,133,134,135,136,137,138,139,140]) w') :
 Code.wp prog ((Tryz.f114.body.bind (Qi 22)).getD .skip) Q a w6:=by
 conv=>arg 2;whnf
 refine Qg 9 (Qnk b c X ri vl cc j ya) (fun w=>Below w6.heap.size w6 w) (fun w w'=>Below w.heap.size w w') (outs:=[0,1,5]) (gs:=[]) (bs:=[true,true,true,true,true,true,true,true,true]) (by kernel_rfl) (n:=148) p i (by kernel_rfl) (by kernel_rfl) ?hR ?hG (QI Zr 1) ⟨x,o,q,Y⟩ ?hA ?hend
 case hR=>exact fun t v w w' _ h=>h
 case hG=>exact Y
 case hend=>exact fun ops vs w' e f=>hend ops vs w' (f 132 (by kernel_rfl)) (f 140 (by kernel_rfl)) e
 case hA =>
  refine⟨fun a w e f K g=>?_,?_⟩
  ·obtain⟨d,-⟩:=f
   have d:a.tmps.getD 0 undef=Pv b 0:=d;go_simp;exact g _ _ Zr e Z
  refine⟨fun a w e f K g=>?_,?_⟩
  ·obtain⟨d,-⟩:=f
   have d:a.tmps.getD 1 undef=Pv c 0:=d;go_simp;exact g _ _ Zr e Z
  refine⟨fun a w e f K g=>?_,?_⟩
  ·obtain⟨d,-⟩:=f
   have d:a.tmps.getD 133 undef=Pv c 0:=d;go_simp;exact g _ _ Zr e Z
  refine⟨fun a w e f K g=>?_,?_⟩
  ·obtain⟨d,-⟩:=f
   have d:a.tmps.getD 134 undef=Pv c 0:=d;go_simp;exact g _ _ Zr e Z
  refine⟨fun a w e f K g=>?_,?_⟩
  ·obtain⟨d,-⟩:=f
   have d:a.tmps.getD 135 undef=Pv c 3:=d;have l:=Qk u e;go_simp;exact g _ _ Zr e Z
  refine⟨fun a w e f K g=>?_,?_⟩
  ·obtain⟨d,-⟩:=f
   have d:a.tmps.getD 5 undef=Pv X 0:=d;go_simp;exact g _ _ Zr e Z
  refine⟨fun a w e f K g=>?_,?_⟩
  ·obtain⟨d,-⟩:=f
   have d:a.tmps.getD 137 undef=Pv X 1:=d;have l:=Qk s e;go_simp;exact g _ _ Zr e Z
  refine⟨fun a w e f K g=>?_,?_⟩
  ·obtain⟨d,k,-⟩:=f
   have d:a.tmps.getD 136 undef=.slice (some ⟨ri,0,none⟩) vl cc:=d;have k:a.tmps.getD 138 undef=Iv (j:Int):=k;go_simp;exact g _ _ Zr e Z
  refine⟨fun a w e f K g=>?_,?_⟩
  ·obtain⟨d,-⟩:=f
   have d:a.tmps.getD 139 undef=Pv ri j:=d;have l:=Qk r e;go_simp;exact g _ _ Zr e Z
  trivial
def Qoe (b c X be bp ri vl cc j:Nat) (ya yb xk:Int) (t:Tmp) (v:Value) (w:World):Prop :=
 v=(([(0,Pv b 0),(1,Pv c 0),(5,Pv X 0),(6,Iv ya),(30,Pv b 0),(31,Pv b 0),(32,Pv b 0),(33,Pv be 0),(34,Pv be 0),(35,Pv be 0),(36,Pv bp 0),(37,Iv ya),(38,Pv X 4),(39,Iv xk),(40,Iv (wrap64 (ya+xk))),(41,Pv c 0),(42,Pv c 0),(43,Pv c 3),(44,.slice (some ⟨ri,0,none⟩) vl cc),(45,Pv X 2),(46,Iv (j:Int)),(47,Pv ri j),(48,Iv yb)]:List (Tmp × Value)).lookup t).getD undef
theorem wp6 {i:Nat}(u:w6.cell? ⟨b,0,none⟩=some (Pv i 0)) (B:w6.cell? ⟨i,0,none⟩=some (Pv bp 0)) (p:w6.cell? ⟨c,3,none⟩=some (.slice (some ⟨ri,0,none⟩) vl cc)) (C:w6.cell? ⟨X,4,none⟩=some (Iv xk)) (y:w6.cell? ⟨X,2,none⟩=some (Iv (j:Int))) (D:(j:Int)<vl) (A:w6.cell? ⟨ri,j,none⟩=some (Iv yb))  {Q:Exit->Act->World->Prop}
 (a:Act) (m:Nat) (s:a.tmps.size=m) (o:105<=m) (q:a.tmps.getD 0 undef=Pv b 0) (r:a.tmps.getD 1 undef=Pv c 0) (z:a.tmps.getD 5 undef=Pv X 0) (x:a.tmps.getD 6 undef=Iv ya)
 (hend:∀ ops vs w',vs 36=Pv bp 0->vs 40=Iv (wrap64 (ya+xk))->vs 48=Iv yb->Below w6.heap.size w6 w'->wpList prog ops Q (Qam 19 ((Tryz.f177.body.bind (Qi 6)).getD .skip)) (QM a vs [30,31,32,33,34,35,36,37,38,39,40,41,42,43,44,45,46,47,48]) w') :
 Code.wp prog ((Tryz.f177.body.bind (Qi 6)).getD .skip) Q a w6:=by
 conv=>arg 2;whnf
 refine Qg 19 (Qoe b c X i bp ri vl cc j ya yb xk) (fun w=>Below w6.heap.size w6 w) (fun w w'=>Below w.heap.size w w') (outs:=[0,1,5,6]) (gs:=[]) (bs:=[true,true,true,true,true,true,true,true,true,true,true,true,true,true,true,true,true,true,true]) (by kernel_rfl) (n:=105) s o (by kernel_rfl) (by kernel_rfl) ?hR ?hG (QI Zr 1) ⟨q,r,z,x,Y⟩ ?hA ?hend
 case hR=>exact fun t v w w' _ h=>h
 case hG=>exact Y
 case hend=>exact fun ops vs w' e f=>hend ops vs w' (f 36 (by kernel_rfl)) (f 40 (by kernel_rfl)) (f 48 (by kernel_rfl)) e
 case hA =>
  refine⟨fun a w e f K g=>?_,?_⟩
  ·obtain⟨d,-⟩:=f
   have d:a.tmps.getD 0 undef=Pv b 0:=d;go_simp;exact g _ _ Zr e Z
  refine⟨fun a w e f K g=>?_,?_⟩
  ·obtain⟨d,-⟩:=f
   have d:a.tmps.getD 30 undef=Pv b 0:=d;go_simp;exact g _ _ Zr e Z
  refine⟨fun a w e f K g=>?_,?_⟩
  ·obtain⟨d,-⟩:=f
   have d:a.tmps.getD 31 undef=Pv b 0:=d;go_simp;exact g _ _ Zr e Z
  refine⟨fun a w e f K g=>?_,?_⟩
  ·obtain⟨d,-⟩:=f
   have d:a.tmps.getD 32 undef=Pv b 0:=d;have l:=Qk u e;go_simp;exact g _ _ Zr e Z
  refine⟨fun a w e f K g=>?_,?_⟩
  ·obtain⟨d,-⟩:=f
   have d:a.tmps.getD 33 undef=Pv i 0:=d;go_simp;exact g _ _ Zr e Z
  refine⟨fun a w e f K g=>?_,?_⟩
  ·obtain⟨d,-⟩:=f
   have d:a.tmps.getD 34 undef=Pv i 0:=d;go_simp;exact g _ _ Zr e Z
  refine⟨fun a w e f K g=>?_,?_⟩
  ·obtain⟨d,-⟩:=f
   have d:a.tmps.getD 35 undef=Pv i 0:=d;have l:=Qk B e;go_simp;exact g _ _ Zr e Z
  refine⟨fun a w e f K g=>?_,?_⟩
  ·obtain⟨d,-⟩:=f
   have d:a.tmps.getD 6 undef=Iv ya:=d;go_simp;exact g _ _ Zr e Z
  refine⟨fun a w e f K g=>?_,?_⟩
  ·obtain⟨d,-⟩:=f
   have d:a.tmps.getD 5 undef=Pv X 0:=d;go_simp;exact g _ _ Zr e Z
  refine⟨fun a w e f K g=>?_,?_⟩
  ·obtain⟨d,-⟩:=f
   have d:a.tmps.getD 38 undef=Pv X 4:=d;have l:=Qk C e;go_simp;exact g _ _ Zr e Z
  refine⟨fun a w e f K g=>?_,?_⟩
  ·obtain⟨d,k,-⟩:=f
   have d:a.tmps.getD 37 undef=Iv ya:=d;have k:a.tmps.getD 39 undef=Iv xk:=k;go_simp;exact g _ _ Zr e (by show Value.int .i64 _=Value.int .i64 (wrap64 (ya+xk));rw[IntKind.wrap_i64];unfold wrap64;rfl)
  refine⟨fun a w e f K g=>?_,?_⟩
  ·obtain⟨d,-⟩:=f
   have d:a.tmps.getD 1 undef=Pv c 0:=d;go_simp;exact g _ _ Zr e Z
  refine⟨fun a w e f K g=>?_,?_⟩
  ·obtain⟨d,-⟩:=f
   have d:a.tmps.getD 41 undef=Pv c 0:=d;go_simp;exact g _ _ Zr e Z
  refine⟨fun a w e f K g=>?_,?_⟩
  ·obtain⟨d,-⟩:=f
   have d:a.tmps.getD 42 undef=Pv c 0:=d;go_simp;exact g _ _ Zr e Z
  refine⟨fun a w e f K g=>?_,?_⟩
  ·obtain⟨d,-⟩:=f
   have d:a.tmps.getD 43 undef=Pv c 3:=d;have l:=Qk p e;go_simp;exact g _ _ Zr e Z
  refine⟨fun a w e f K g=>?_,?_⟩
  ·obtain⟨d,-⟩:=f
   have d:a.tmps.getD 5 undef=Pv X 0:=d;go_simp;exact g _ _ Zr e Z
  refine⟨fun a w e f K g=>?_,?_⟩
  ·obtain⟨d,-⟩:=f
   have d:a.tmps.getD 45 undef=Pv X 2:=d;have l:=Qk y e;go_simp;exact g _ _ Zr e Z
  refine⟨fun a w e f K g=>?_,?_⟩
  ·obtain⟨d,k,-⟩:=f
   have d:a.tmps.getD 44 undef=.slice (some ⟨ri,0,none⟩) vl cc:=d;have k:a.tmps.getD 46 undef=Iv (j:Int):=k;go_simp;exact g _ _ Zr e Z
  refine⟨fun a w e f K g=>?_,?_⟩
  ·obtain⟨d,-⟩:=f
   have d:a.tmps.getD 47 undef=Pv ri j:=d;have l:=Qk A e;go_simp;exact g _ _ Zr e Z
  trivial
def Qnx (w6:World) (R:RM) (b c X ri vl cc j:Nat) (ya yb:Int) (t:Tmp) (v:Value) (w:World):Prop :=
 match ([(64,fun v w=>(0<=yb/\yb<R.load ya)/\v=.int .i64 (wrap64 (wrap64 (ya+1)+yb))),(66,Qk6 w6 (R.load (wrap64 (wrap64 (ya+1)+yb))))]:List (Tmp × (Value->World->Prop))).lookup t with
 | some p=>p v w
 | none=>v=(([(0,.pointer (some ⟨b,0,none⟩)),(1,.pointer (some ⟨c,0,none⟩)),(5,.pointer (some ⟨X,0,none⟩)),(6,.int .i64 ya),(52,.pointer (some ⟨c,0,none⟩)),(53,.pointer (some ⟨b,0,none⟩)),(54,.pointer (some ⟨b,0,none⟩)),(55,.int .i64 ya),(56,.pointer (some ⟨c,0,none⟩)),(57,.pointer (some ⟨c,0,none⟩)),(58,.pointer (some ⟨c,3,none⟩)),(59,.slice (some ⟨ri,0,none⟩) vl cc),(60,.pointer (some ⟨X,2,none⟩)),(61,.int .i64 (j:Int)),(62,.pointer (some ⟨ri,j,none⟩)),(63,.int .i64 yb),(65,.int .i64 (R.load (wrap64 (wrap64 (ya+1)+yb))))]:List (Tmp × Value)).lookup t).getD undef
theorem wp8 {R:RM}(A:w6.cell? ⟨c,3,none⟩=some (.slice (some ⟨ri,0,none⟩) vl cc)) (M:w6.cell? ⟨X,2,none⟩=some (Iv (j:Int))) (U:(j:Int)<vl) (O:w6.cell? ⟨ri,j,none⟩=some (Iv yb)) (L:Hid (∀ wx,Below w6.heap.size w6 wx->Calls prog 222 #[Pv b 0,Iv ya,Iv yb] wx fun e w'=>Qk9 R ya yb e/\w'=wx)) (D:Hid (∀ wx k,Below w6.heap.size w6 wx->Calls prog 220 #[Pv b 0,Iv k] wx fun e w'=>e=.returned (Iv (R.load k))/\w'=wx))  {Q:Exit->Act->World->Prop}
 (a:Act) (m:Nat) (E:a.tmps.size=m) (s:105<=m) (C:a.tmps.getD 0 undef=Pv b 0) (r:a.tmps.getD 1 undef=Pv c 0) (N:a.tmps.getD 5 undef=Pv X 0) (J:a.tmps.getD 6 undef=Iv ya)
 (S:∀ ch a' w',a'.defers=a.defers->(fun ch w=>ch=QdE 2/\¬ (0<=yb/\yb<R.load ya)/\Below w6.heap.size w6 w) ch w'->Q (.panic ch) a' w')
 (hend:∀ ops vs w',vs 52=Pv c 0->(fun v w=>(0<=yb/\yb<R.load ya)/\v=Iv (wrap64 (wrap64 (ya+1)+yb))) (vs 64) w'->(Qk6 w6 (R.load (wrap64 (wrap64 (ya+1)+yb)))) (vs 66) w'->Below w6.heap.size w6 w'->wpList prog ops Q (Qam 15 ((Tryz.f177.body.bind (Qi 8)).getD .skip)) (QM a vs [52,53,54,55,56,57,58,59,60,61,62,63,64,65,66]) w') :
 Code.wp prog ((Tryz.f177.body.bind (Qi 8)).getD .skip) Q a w6:=by
 conv=>arg 2;whnf
 refine ZN 15 (Qnx w6 R b c X ri vl cc j ya yb) (fun w=>Below w6.heap.size w6 w) (fun w w'=>Below w.heap.size w w') (fun ch w=>ch=QdE 2/\¬ (0<=yb/\yb<R.load ya)/\Below w6.heap.size w6 w) S (outs:=[0,1,5,6]) (gs:=[]) (bs:=[true,true,true,true,true,true,true,true,true,true,true,true,true,true,true]) (by kernel_rfl) (n:=105) E s (by kernel_rfl) (by kernel_rfl) ?hR ?hG (QI Zr 1) ⟨C,r,N,J,Y⟩ ?hA ?hend
 case hR =>
  intro t v w w' H h;unfold Qnx at h |-;split at h
  ·rename_i p q
   simp only[List.lookup_cons,List.lookup_nil] at q
   split at q
   ·cases q;exact h
   ·split at q
    ·cases q;exact h.z (Zk.below H)
    ·cases q
  ·exact h
 case hG=>exact Y
 case hend=>exact fun ops vs w' f g=>hend ops vs w' (g 52 (by kernel_rfl)) (g 64 (by kernel_rfl)) (g 66 (by kernel_rfl)) f
 case hA =>
  refine⟨fun a w f g K i=>?_,?_⟩
  ·obtain⟨d,-⟩:=g
   have d:a.tmps.getD 1 undef=Pv c 0:=d;go_simp;exact i _ _ Zr f Z
  refine⟨fun a w f g K i=>?_,?_⟩
  ·obtain⟨d,-⟩:=g
   have d:a.tmps.getD 0 undef=Pv b 0:=d;go_simp;exact i _ _ Zr f Z
  refine⟨fun a w f g K i=>?_,?_⟩
  ·obtain⟨d,-⟩:=g
   have d:a.tmps.getD 0 undef=Pv b 0:=d;go_simp;exact i _ _ Zr f Z
  refine⟨fun a w f g K i=>?_,?_⟩
  ·obtain⟨d,-⟩:=g
   have d:a.tmps.getD 6 undef=Iv ya:=d;go_simp;exact i _ _ Zr f Z
  refine⟨fun a w f g K i=>?_,?_⟩
  ·obtain⟨d,-⟩:=g
   have d:a.tmps.getD 1 undef=Pv c 0:=d;go_simp;exact i _ _ Zr f Z
  refine⟨fun a w f g K i=>?_,?_⟩
  ·obtain⟨d,-⟩:=g
   have d:a.tmps.getD 56 undef=Pv c 0:=d;go_simp;exact i _ _ Zr f Z
  refine⟨fun a w f g K i=>?_,?_⟩
  ·obtain⟨d,-⟩:=g
   have d:a.tmps.getD 57 undef=Pv c 0:=d;go_simp;exact i _ _ Zr f Z
  refine⟨fun a w f g K i=>?_,?_⟩
  ·obtain⟨d,-⟩:=g
   have d:a.tmps.getD 58 undef=Pv c 3:=d;have x:=Qk A f;go_simp;exact i _ _ Zr f Z
  refine⟨fun a w f g K i=>?_,?_⟩
  ·obtain⟨d,-⟩:=g
   have d:a.tmps.getD 5 undef=Pv X 0:=d;go_simp;exact i _ _ Zr f Z
  refine⟨fun a w f g K i=>?_,?_⟩
  ·obtain⟨d,-⟩:=g
   have d:a.tmps.getD 60 undef=Pv X 2:=d;have x:=Qk M f;go_simp;exact i _ _ Zr f Z
  refine⟨fun a w f g K i=>?_,?_⟩
  ·obtain⟨d,l,-⟩:=g
   have d:a.tmps.getD 59 undef=.slice (some ⟨ri,0,none⟩) vl cc:=d;have l:a.tmps.getD 61 undef=Iv (j:Int):=l;go_simp;exact i _ _ Zr f Z
  refine⟨fun a w f g K i=>?_,?_⟩
  ·obtain⟨d,-⟩:=g
   have d:a.tmps.getD 62 undef=Pv ri j:=d;have x:=Qk O f;go_simp;exact i _ _ Zr f Z
  refine⟨fun a w f g K i=>?_,?_⟩
  ·obtain⟨d,l,u,-⟩:=g
   have d:a.tmps.getD 54 undef=Pv b 0:=d;have l:a.tmps.getD 55 undef=Iv ya:=l;have u:a.tmps.getD 63 undef=Iv yb:=u;go_simp;refine Xm (L.out w f) ?_;rintro F T ⟨P,o⟩;have o:=o.symm;subst o;rcases P with ⟨r,G,rfl⟩|⟨r,rfl⟩
   rotate_left
   ·exact⟨_,Z,Z,(fun h=>Int.not_lt.1 (fun I=>r ⟨h,I⟩)),f⟩
   go_simp;exact i _ _ Zr f ⟨⟨r,G⟩,Z⟩
  refine⟨fun a w f g K i=>?_,?_⟩
  ·obtain⟨d,l,-⟩:=g
   have d:a.tmps.getD 53 undef=Pv b 0:=d;have l:(fun v w=>(0<=yb/\yb<R.load ya)/\v=Iv (wrap64 (wrap64 (ya+1)+yb))) (a.tmps.getD 64 undef) w:=l;generalize B:a.tmps.getD 64 undef=y at l;obtain⟨-,rfl⟩:=l
   go_simp;refine Xm (D.out w _ f) ?_;rintro F T ⟨rfl,o⟩;have o:=o.symm;subst o;go_simp;exact i _ _ Zr f Z
  refine⟨fun a w f g K i=>?_,?_⟩
  ·obtain⟨d,-⟩:=g
   have d:a.tmps.getD 65 undef=Iv (R.load (wrap64 (wrap64 (ya+1)+yb))):=d;rw[Za] at d
   go_simp;exact i _ _ (ZO _ _) (f.trans ((ZO _ _).mono f.size)) ⟨_,Z,f.size,Qb (Qe _ _ _) 0 _ Z⟩
  trivial
def QmG (R:RM) (b c X be bp ri vl cc j q:Nat) (ya yb yc:Int) (t:Tmp) (v:Value) (w:World):Prop :=
 match ([(87,fun v w=>(0<=yb/\yb<R.load ya)/\v=.int .i64 (wrap64 (wrap64 (ya+1)+yb)))]:List (Tmp × (Value->World->Prop))).lookup t with
 | some p=>p v w
 | none=>v=(([(0,.pointer (some ⟨b,0,none⟩)),(1,.pointer (some ⟨c,0,none⟩)),(5,.pointer (some ⟨X,0,none⟩)),(6,.int .i64 ya),(70,.pointer (some ⟨b,0,none⟩)),(71,.pointer (some ⟨b,0,none⟩)),(72,.pointer (some ⟨b,0,none⟩)),(73,.pointer (some ⟨be,0,none⟩)),(74,.pointer (some ⟨be,0,none⟩)),(75,.pointer (some ⟨be,0,none⟩)),(76,.pointer (some ⟨bp,0,none⟩)),(77,.pointer (some ⟨b,0,none⟩)),(78,.int .i64 ya),(79,.pointer (some ⟨c,0,none⟩)),(80,.pointer (some ⟨c,0,none⟩)),(81,.pointer (some ⟨c,3,none⟩)),(82,.slice (some ⟨ri,0,none⟩) vl cc),(83,.pointer (some ⟨X,2,none⟩)),(84,.int .i64 (j:Int)),(85,.pointer (some ⟨ri,j,none⟩)),(86,.int .i64 yb),(88,.pointer (some ⟨c,0,none⟩)),(89,.pointer (some ⟨c,0,none⟩)),(90,.pointer (some ⟨c,3,none⟩)),(91,.slice (some ⟨ri,0,none⟩) vl cc),(92,.pointer (some ⟨X,3,none⟩)),(93,.int .i64 (q:Int)),(94,.pointer (some ⟨ri,q,none⟩)),(95,.int .i64 yc)]:List (Tmp × Value)).lookup t).getD undef
theorem QnM {R:RM}{o:Nat}{y:Int}(F:w6.cell? ⟨b,0,none⟩=some (Pv o 0)) (S:w6.cell? ⟨o,0,none⟩=some (Pv bp 0)) (z:w6.cell? ⟨c,3,none⟩=some (.slice (some ⟨ri,0,none⟩) vl cc)) (J:w6.cell? ⟨X,2,none⟩=some (Iv (j:Int))) (W:(j:Int)<vl) (M:w6.cell? ⟨ri,j,none⟩=some (Iv yb)) (B:w6.cell? ⟨X,3,none⟩=some (Iv (q:Int))) (U:(q:Int)<vl) (N:w6.cell? ⟨ri,q,none⟩=some (Iv y)) (I:Hid (∀ wx,Below w6.heap.size w6 wx->Calls prog 222 #[Pv b 0,Iv ya,Iv yb] wx fun e w'=>Qk9 R ya yb e/\w'=wx))  {Q:Exit->Act->World->Prop}
 (a:Act) (m:Nat) (D:a.tmps.size=m) (u:105<=m) (C:a.tmps.getD 0 undef=Pv b 0) (r:a.tmps.getD 1 undef=Pv c 0) (L:a.tmps.getD 5 undef=Pv X 0) (H:a.tmps.getD 6 undef=Iv ya)
 (P:∀ ch a' w',a'.defers=a.defers->(fun ch w=>ch=QdE 2/\¬ (0<=yb/\yb<R.load ya)/\Below w6.heap.size w6 w) ch w'->Q (.panic ch) a' w')
 (hend:∀ ops vs w',vs 76=Pv bp 0->(fun v w=>(0<=yb/\yb<R.load ya)/\v=Iv (wrap64 (wrap64 (ya+1)+yb))) (vs 87) w'->vs 95=Iv y->Below w6.heap.size w6 w'->wpList prog ops Q (Qam 26 ((Tryz.f177.body.bind (Qi 10)).getD .skip)) (QM a vs [70,71,72,73,74,75,76,77,78,79,80,81,82,83,84,85,86,87,88,89,90,91,92,93,94,95]) w') :
 Code.wp prog ((Tryz.f177.body.bind (Qi 10)).getD .skip) Q a w6:=by
 conv=>arg 2;whnf
 refine ZN 26 (QmG R b c X o bp ri vl cc j q ya yb y) (fun w=>Below w6.heap.size w6 w) (fun w w'=>Below w.heap.size w w') (fun ch w=>ch=QdE 2/\¬ (0<=yb/\yb<R.load ya)/\Below w6.heap.size w6 w) P (outs:=[0,1,5,6]) (gs:=[]) (bs:=[true,true,true,true,true,true,true,true,true,true,true,true,true,true,true,true,true,true,true,true,true,true,true,true,true,true]) (by kernel_rfl) (n:=105) D u (by kernel_rfl) (by kernel_rfl) ?hR ?hG (QI Zr 1) ⟨C,r,L,H,Y⟩ ?hA ?hend
 case hR =>
  intro t v w w' V h;unfold QmG at h |-;split at h
  ·rename_i p s
   simp only[List.lookup_cons,List.lookup_nil] at s
   split at s
   ·cases s;exact h
   ·cases s
  ·exact h
 case hG=>exact Y
 case hend=>exact fun ops vs w' f g=>hend ops vs w' (g 76 (by kernel_rfl)) (g 87 (by kernel_rfl)) (g 95 (by kernel_rfl)) f
 case hA =>
  refine⟨fun a w f g K i=>?_,?_⟩
  ·obtain⟨d,-⟩:=g
   have d:a.tmps.getD 0 undef=Pv b 0:=d;go_simp;exact i _ _ Zr f Z
  refine⟨fun a w f g K i=>?_,?_⟩
  ·obtain⟨d,-⟩:=g
   have d:a.tmps.getD 70 undef=Pv b 0:=d;go_simp;exact i _ _ Zr f Z
  refine⟨fun a w f g K i=>?_,?_⟩
  ·obtain⟨d,-⟩:=g
   have d:a.tmps.getD 71 undef=Pv b 0:=d;go_simp;exact i _ _ Zr f Z
  refine⟨fun a w f g K i=>?_,?_⟩
  ·obtain⟨d,-⟩:=g
   have d:a.tmps.getD 72 undef=Pv b 0:=d;have l:=Qk F f;go_simp;exact i _ _ Zr f Z
  refine⟨fun a w f g K i=>?_,?_⟩
  ·obtain⟨d,-⟩:=g
   have d:a.tmps.getD 73 undef=Pv o 0:=d;go_simp;exact i _ _ Zr f Z
  refine⟨fun a w f g K i=>?_,?_⟩
  ·obtain⟨d,-⟩:=g
   have d:a.tmps.getD 74 undef=Pv o 0:=d;go_simp;exact i _ _ Zr f Z
  refine⟨fun a w f g K i=>?_,?_⟩
  ·obtain⟨d,-⟩:=g
   have d:a.tmps.getD 75 undef=Pv o 0:=d;have l:=Qk S f;go_simp;exact i _ _ Zr f Z
  refine⟨fun a w f g K i=>?_,?_⟩
  ·obtain⟨d,-⟩:=g
   have d:a.tmps.getD 0 undef=Pv b 0:=d;go_simp;exact i _ _ Zr f Z
  refine⟨fun a w f g K i=>?_,?_⟩
  ·obtain⟨d,-⟩:=g
   have d:a.tmps.getD 6 undef=Iv ya:=d;go_simp;exact i _ _ Zr f Z
  refine⟨fun a w f g K i=>?_,?_⟩
  ·obtain⟨d,-⟩:=g
   have d:a.tmps.getD 1 undef=Pv c 0:=d;go_simp;exact i _ _ Zr f Z
  refine⟨fun a w f g K i=>?_,?_⟩
  ·obtain⟨d,-⟩:=g
   have d:a.tmps.getD 79 undef=Pv c 0:=d;go_simp;exact i _ _ Zr f Z
  refine⟨fun a w f g K i=>?_,?_⟩
  ·obtain⟨d,-⟩:=g
   have d:a.tmps.getD 80 undef=Pv c 0:=d;go_simp;exact i _ _ Zr f Z
  refine⟨fun a w f g K i=>?_,?_⟩
  ·obtain⟨d,-⟩:=g
   have d:a.tmps.getD 81 undef=Pv c 3:=d;have l:=Qk z f;go_simp;exact i _ _ Zr f Z
  refine⟨fun a w f g K i=>?_,?_⟩
  ·obtain⟨d,-⟩:=g
   have d:a.tmps.getD 5 undef=Pv X 0:=d;go_simp;exact i _ _ Zr f Z
  refine⟨fun a w f g K i=>?_,?_⟩
  ·obtain⟨d,-⟩:=g
   have d:a.tmps.getD 83 undef=Pv X 2:=d;have l:=Qk J f;go_simp;exact i _ _ Zr f Z
  refine⟨fun a w f g K i=>?_,?_⟩
  ·obtain⟨d,k,-⟩:=g
   have d:a.tmps.getD 82 undef=.slice (some ⟨ri,0,none⟩) vl cc:=d;have k:a.tmps.getD 84 undef=Iv (j:Int):=k;go_simp;exact i _ _ Zr f Z
  refine⟨fun a w f g K i=>?_,?_⟩
  ·obtain⟨d,-⟩:=g
   have d:a.tmps.getD 85 undef=Pv ri j:=d;have l:=Qk M f;go_simp;exact i _ _ Zr f Z
  refine⟨fun a w f g K i=>?_,?_⟩
  ·obtain⟨d,k,A,-⟩:=g
   have d:a.tmps.getD 77 undef=Pv b 0:=d;have k:a.tmps.getD 78 undef=Iv ya:=k;have A:a.tmps.getD 86 undef=Iv yb:=A;go_simp;refine Xm (I.out w f) ?_;rintro T w7 ⟨O,x⟩;have x:=x.symm;subst x;rcases O with ⟨r,E,rfl⟩|⟨r,rfl⟩
   rotate_left
   ·exact⟨_,Z,Z,(fun h=>Int.not_lt.1 (fun G=>r ⟨h,G⟩)),f⟩
   go_simp;exact i _ _ Zr f ⟨⟨r,E⟩,Z⟩
  refine⟨fun a w f g K i=>?_,?_⟩
  ·obtain⟨d,-⟩:=g
   have d:a.tmps.getD 1 undef=Pv c 0:=d;go_simp;exact i _ _ Zr f Z
  refine⟨fun a w f g K i=>?_,?_⟩
  ·obtain⟨d,-⟩:=g
   have d:a.tmps.getD 88 undef=Pv c 0:=d;go_simp;exact i _ _ Zr f Z
  refine⟨fun a w f g K i=>?_,?_⟩
  ·obtain⟨d,-⟩:=g
   have d:a.tmps.getD 89 undef=Pv c 0:=d;go_simp;exact i _ _ Zr f Z
  refine⟨fun a w f g K i=>?_,?_⟩
  ·obtain⟨d,-⟩:=g
   have d:a.tmps.getD 90 undef=Pv c 3:=d;have l:=Qk z f;go_simp;exact i _ _ Zr f Z
  refine⟨fun a w f g K i=>?_,?_⟩
  ·obtain⟨d,-⟩:=g
   have d:a.tmps.getD 5 undef=Pv X 0:=d;go_simp;exact i _ _ Zr f Z
  refine⟨fun a w f g K i=>?_,?_⟩
  ·obtain⟨d,-⟩:=g
   have d:a.tmps.getD 92 undef=Pv X 3:=d;have l:=Qk B f;go_simp;exact i _ _ Zr f Z
  refine⟨fun a w f g K i=>?_,?_⟩
  ·obtain⟨d,k,-⟩:=g
   have d:a.tmps.getD 91 undef=.slice (some ⟨ri,0,none⟩) vl cc:=d;have k:a.tmps.getD 93 undef=Iv (q:Int):=k;go_simp;exact i _ _ Zr f Z
  refine⟨fun a w f g K i=>?_,?_⟩
  ·obtain⟨d,-⟩:=g
   have d:a.tmps.getD 94 undef=Pv ri q:=d;have l:=Qk N f;go_simp;exact i _ _ Zr f Z
  trivial
def QjJ (w6:World) (b c X ri vl cc j na ca:Nat) (pa:Option Addr) (xs:List Int) (ya ta:Int) (S:Nat->Bool) (t:Tmp) (v:Value) (w:World):Prop :=
 match ([(97,fun _ v _=>(fun v=>v=.int .i64 ta) v),(96,fun _ v w=>(QmR w6 xs na) v w),(98,fun _ v w=>(Qk6 w6 ta) v w)]:List (Tmp × ((Nat->Bool)->Value->World->Prop))).lookup t with
 | some p=>p S v w
 | none=>v=(([(0,.pointer (some ⟨b,0,none⟩)),(1,.pointer (some ⟨c,0,none⟩)),(5,.pointer (some ⟨X,0,none⟩)),(83,.pointer (some ⟨c,0,none⟩)),(84,.pointer (some ⟨b,0,none⟩)),(85,.pointer (some ⟨c,0,none⟩)),(86,.pointer (some ⟨c,0,none⟩)),(87,.pointer (some ⟨c,3,none⟩)),(88,.slice (some ⟨ri,0,none⟩) vl cc),(89,.pointer (some ⟨X,1,none⟩)),(90,.int .i64 (j:Int)),(91,.pointer (some ⟨ri,j,none⟩)),(92,.int .i64 ya),(93,.pointer (some ⟨c,0,none⟩)),(94,.pointer (some ⟨X,7,none⟩)),(95,.slice pa na ca)]:List (Tmp × Value)).lookup t).getD undef
theorem Qbd {f:Nat}{d:Int}{S:Nat->Bool}{t:Tmp}{u:Value}(e:Zk w6 w w') (a:QjJ w6 b c X ri vl cc j f ca pa xs ya d S t u w):QjJ w6 b c X ri vl cc j f ca pa xs ya d (Qcr i S) t u w':=by
 unfold QjJ at a |-;refine Qmv ?_ a;exact⟨fun _ h=>h,fun _ h=>h.z e,fun _ h=>h.z e,Y⟩
theorem QnR {y:Nat}{F:Int}{B:World->Prop}{A:List PanicEntry->World->Prop}(C:∀ w,B w->w6.heap.size<=w.heap.size) (V:w6.cell? ⟨c,3,none⟩=some (.slice (some ⟨ri,0,none⟩) vl cc)) (U:w6.cell? ⟨X,1,none⟩=some (Iv (j:Int))) (hj:(j:Int)<vl) (ej:w6.cell? ⟨ri,j,none⟩=some (Iv ya)) (x7:w6.cell? ⟨X,7,none⟩=some (.slice pa y ca)) (CA:Hid (∀ wx,Below w6.heap.size w6 wx->Calls prog 167 #[Pv c 0,.slice pa y ca] wx fun e w'=>Qm2 wx xs y e w')) (CT:Hid (∀ wx k,Below w6.heap.size w6 wx->w6.heap.size<=k->QbU wx (.slice (some ⟨k,0,none⟩) y y) xs->Calls prog 172 #[Pv b 0,Iv ya,.slice (some ⟨k,0,none⟩) y y] wx fun e w'=>(e=.returned (Iv F)/\B w'/\Zk w6 wx w')\/(∃ ch,e=.panicked ch/\A ch w')))  (R:∀ w w',(fun w=>∃ w5,B w5/\Below w5.heap.size w5 w) w->Below w.heap.size w w'->(fun w=>∃ w5,B w5/\Below w5.heap.size w5 w) w'){Q:Exit->Act->World->Prop}
 (a:Act) (m:Nat) (hn:a.tmps.size=m) (H:148<=m) (W:a.tmps.getD 0 undef=Pv b 0) (I:a.tmps.getD 1 undef=Pv c 0) (M:a.tmps.getD 5 undef=Pv X 0)
 (hX:∀ ch a' w',a'.defers=a.defers->(fun ch w=>A ch w) ch w'->Q (.panic ch) a' w')
 (hend:∀ ops vs w',vs 83=Pv c 0->(Qk6 w6 F) (vs 98) w'->(fun w=>∃ w5,B w5/\Below w5.heap.size w5 w) w'->wpList prog ops Q (Qam 16 ((Tryz.f114.body.bind (Qi 16)).getD .skip)) (QM a vs [83,84,85,86,87,88,89,90,91,92,93,94,95,96,97,98]) w') :
 Code.wp prog ((Tryz.f114.body.bind (Qi 16)).getD .skip) Q a w6:=by
 conv=>arg 2;whnf
 refine Zs 16 (QjJ w6 b c X ri vl cc j y ca pa xs ya F) (WY w6 (fun w=>∃ w5,B w5/\Below w5.heap.size w5 w) 14) (fun ch w=>A ch w) hX (outs:=[0,1,5]) (gs:=[]) (bs:=[true,true,true,true,true,true,true,true,true,true,true,true,true,true,true,true]) (by kernel_rfl) (n:=148) hn H (by kernel_rfl) (by kernel_rfl) ?hG (.inl ⟨Z,QI Zr 1⟩) ⟨W,I,M,Y⟩ ?hA ?hend
 case hG=>exact fun S=>trivial
 case hend=>exact fun ops vs S w' D f g=>hend ops vs w' (g 83 (by kernel_rfl)) (g 98 (by kernel_rfl)) (f.fin (D 14 (by decide)))
 case hA =>
  refine⟨fun S a w p u r f g K l=>?_,?_⟩
  ·obtain⟨d,-⟩:=g
   have d:a.tmps.getD 1 undef=Pv c 0:=d;go_simp;exact l _ _ (fun t _ o=>Qbd (i:=0) (Zk.refl _ _) o) (f.onS (i:=0) (by decide)) Z
  refine⟨fun S a w p u r f g K l=>?_,?_⟩
  ·obtain⟨d,-⟩:=g
   have d:a.tmps.getD 0 undef=Pv b 0:=d;go_simp;exact l _ _ (fun t _ o=>Qbd (i:=1) (Zk.refl _ _) o) (f.onS (i:=1) (by decide)) Z
  refine⟨fun S a w p u r f g K l=>?_,?_⟩
  ·obtain⟨d,-⟩:=g
   have d:a.tmps.getD 1 undef=Pv c 0:=d;go_simp;exact l _ _ (fun t _ o=>Qbd (i:=2) (Zk.refl _ _) o) (f.onS (i:=2) (by decide)) Z
  refine⟨fun S a w p u r f g K l=>?_,?_⟩
  ·obtain⟨d,-⟩:=g
   have d:a.tmps.getD 85 undef=Pv c 0:=d;go_simp;exact l _ _ (fun t _ o=>Qbd (i:=3) (Zk.refl _ _) o) (f.onS (i:=3) (by decide)) Z
  refine⟨fun S a w p u r f g K l=>?_,?_⟩
  ·obtain⟨d,-⟩:=g
   have d:a.tmps.getD 86 undef=Pv c 0:=d;go_simp;exact l _ _ (fun t _ o=>Qbd (i:=4) (Zk.refl _ _) o) (f.onS (i:=4) (by decide)) Z
  refine⟨fun S a w p u r f g K l=>?_,?_⟩
  ·obtain⟨d,-⟩:=g
   have s:S 14=false:=Qfq r (q:=14) Z (by kernel_rfl) p;have x:=f.pre s;have d:a.tmps.getD 87 undef=Pv c 3:=d;have N:=Qk V x;go_simp;exact l _ _ (fun t _ o=>Qbd (i:=5) (Zk.refl _ _) o) (f.onS (i:=5) (by decide)) Z
  refine⟨fun S a w p u r f g K l=>?_,?_⟩
  ·obtain⟨d,-⟩:=g
   have d:a.tmps.getD 5 undef=Pv X 0:=d;go_simp;exact l _ _ (fun t _ o=>Qbd (i:=6) (Zk.refl _ _) o) (f.onS (i:=6) (by decide)) Z
  refine⟨fun S a w p u r f g K l=>?_,?_⟩
  ·obtain⟨d,-⟩:=g
   have s:S 14=false:=Qfq r (q:=14) Z (by kernel_rfl) p;have x:=f.pre s;have d:a.tmps.getD 89 undef=Pv X 1:=d;have N:=Qk U x;go_simp;exact l _ _ (fun t _ o=>Qbd (i:=7) (Zk.refl _ _) o) (f.onS (i:=7) (by decide)) Z
  refine⟨fun S a w p u r f g K l=>?_,?_⟩
  ·obtain⟨d,z,-⟩:=g
   have d:a.tmps.getD 88 undef=.slice (some ⟨ri,0,none⟩) vl cc:=d;have z:a.tmps.getD 90 undef=Iv (j:Int):=z;go_simp;exact l _ _ (fun t _ o=>Qbd (i:=8) (Zk.refl _ _) o) (f.onS (i:=8) (by decide)) Z
  refine⟨fun S a w p u r f g K l=>?_,?_⟩
  ·obtain⟨d,-⟩:=g
   have s:S 14=false:=Qfq r (q:=14) Z (by kernel_rfl) p;have x:=f.pre s;have d:a.tmps.getD 91 undef=Pv ri j:=d;have N:=Qk ej x;go_simp;exact l _ _ (fun t _ o=>Qbd (i:=9) (Zk.refl _ _) o) (f.onS (i:=9) (by decide)) Z
  refine⟨fun S a w p u r f g K l=>?_,?_⟩
  ·obtain⟨d,-⟩:=g
   have d:a.tmps.getD 1 undef=Pv c 0:=d;go_simp;exact l _ _ (fun t _ o=>Qbd (i:=10) (Zk.refl _ _) o) (f.onS (i:=10) (by decide)) Z
  refine⟨fun S a w p u r f g K l=>?_,?_⟩
  ·obtain⟨d,-⟩:=g
   have d:a.tmps.getD 5 undef=Pv X 0:=d;go_simp;exact l _ _ (fun t _ o=>Qbd (i:=11) (Zk.refl _ _) o) (f.onS (i:=11) (by decide)) Z
  refine⟨fun S a w p u r f g K l=>?_,?_⟩
  ·obtain⟨d,-⟩:=g
   have s:S 14=false:=Qfq r (q:=14) Z (by kernel_rfl) p;have x:=f.pre s;have d:a.tmps.getD 94 undef=Pv X 7:=d;have N:=Qk x7 x;go_simp;exact l _ _ (fun t _ o=>Qbd (i:=12) (Zk.refl _ _) o) (f.onS (i:=12) (by decide)) Z
  refine⟨fun S a w p u r f g K l=>?_,?_⟩
  ·obtain⟨d,z,-⟩:=g
   have s:S 14=false:=Qfq r (q:=14) Z (by kernel_rfl) p;have x:=f.pre s;have d:a.tmps.getD 93 undef=Pv c 0:=d;have z:a.tmps.getD 95 undef=.slice pa y ca:=z;go_simp;refine Xm (CA.out w x) ?_;rintro r7 w7 ⟨J,rfl,I,h2,P⟩;go_simp;exact l _ _ (fun t _ o=>Qbd (i:=13) (Zk.below P) o) (f.onB R (i:=13) (by decide) P) ⟨J,Z,Zt x.size I,h2⟩
  refine⟨fun S a w p u r f g K l=>?_,?_⟩
  ·obtain⟨d,z,E,-⟩:=g
   have x:=f.pre p;have d:a.tmps.getD 84 undef=Pv b 0:=d;have z:a.tmps.getD 92 undef=Iv ya:=z;have E:(QmR w6 xs y) (a.tmps.getD 96 undef) w:=E;generalize ab:a.tmps.getD 96 undef=aa at E;obtain⟨J,rfl,h7,h8⟩:=E
   go_simp;refine Xm (CT.out w J x h7 h8) ?_;rintro r7 w7 (⟨rfl,L,hz⟩|⟨ch,rfl,L⟩)
   rotate_left
   ·exact⟨_,Z,L⟩
   go_simp;exact l _ _ (fun t _ o=>Qbd (i:=14) hz o) (WY.did ⟨_,L,Zr⟩) Z
  refine⟨fun S a w p u r f g K l=>?_,?_⟩
  ·obtain⟨d,-⟩:=g
   have d:(fun v=>v=Iv F) (a.tmps.getD 97 undef):=d;generalize O:a.tmps.getD 97 undef=T at d;rw[Za] at O
   subst d;go_simp;have G:=f.lowB (fun w h=>by obtain⟨w5,M,h6⟩:=h;exact Zt (C _ M) h6.size);exact l _ _ (fun t _ o=>Qbd (i:=15) (Zk.below (ZO _ _)) o) (f.onB R (i:=15) (by decide) (ZO _ _)) ⟨_,Z,G,Qb (Qe _ _ _) 0 _ Z⟩
  trivial
def Qkx (w6:World) (b c X ri vl cc j q:Nat) (ya yb ta:Int) (S:Nat->Bool) (t:Tmp) (v:Value) (w:World):Prop :=
 match ([(120,fun _ v _=>(fun v=>v=.int .i64 ta) v),(121,fun _ v w=>(Qk6 w6 ta) v w)]:List (Tmp × ((Nat->Bool)->Value->World->Prop))).lookup t with
 | some p=>p S v w
 | none=>v=(([(0,.pointer (some ⟨b,0,none⟩)),(1,.pointer (some ⟨c,0,none⟩)),(5,.pointer (some ⟨X,0,none⟩)),(102,.pointer (some ⟨c,0,none⟩)),(103,.pointer (some ⟨b,0,none⟩)),(104,.pointer (some ⟨c,0,none⟩)),(105,.pointer (some ⟨c,0,none⟩)),(106,.pointer (some ⟨c,3,none⟩)),(107,.slice (some ⟨ri,0,none⟩) vl cc),(108,.pointer (some ⟨X,1,none⟩)),(109,.int .i64 (j:Int)),(110,.pointer (some ⟨ri,j,none⟩)),(111,.int .i64 ya),(112,.pointer (some ⟨c,0,none⟩)),(113,.pointer (some ⟨c,0,none⟩)),(114,.pointer (some ⟨c,3,none⟩)),(115,.slice (some ⟨ri,0,none⟩) vl cc),(116,.pointer (some ⟨X,2,none⟩)),(117,.int .i64 (q:Int)),(118,.pointer (some ⟨ri,q,none⟩)),(119,.int .i64 yb)]:List (Tmp × Value)).lookup t).getD undef
theorem Qar {d:Int}{S:Nat->Bool}{t:Tmp}{u:Value}(e:Zk w6 w w') (a:Qkx w6 b c X ri vl cc j q ya yb d S t u w):Qkx w6 b c X ri vl cc j q ya yb d (Qcr i S) t u w':=by
 unfold Qkx at a |-;refine Qmv ?_ a;exact⟨fun _ h=>h,fun _ h=>h.z e,Y⟩
theorem QnX {D:Int}{z:World->Prop}{y:List PanicEntry->World->Prop}(A:∀ w,z w->w6.heap.size<=w.heap.size) (J:w6.cell? ⟨c,3,none⟩=some (.slice (some ⟨ri,0,none⟩) vl cc)) (N:w6.cell? ⟨X,1,none⟩=some (Iv (j:Int))) (hj:(j:Int)<vl) (ej:w6.cell? ⟨ri,j,none⟩=some (Iv ya)) (V:w6.cell? ⟨X,2,none⟩=some (Iv (q:Int))) (hq:(q:Int)<vl) (eq:w6.cell? ⟨ri,q,none⟩=some (Iv yb)) (T:Hid (∀ wx,Below w6.heap.size w6 wx->Calls prog 173 #[Pv b 0,Iv ya,Iv yb] wx fun e w'=>(e=.returned (Iv D)/\z w'/\Zk w6 wx w')\/(∃ ch,e=.panicked ch/\y ch w')))  (W:∀ w w',(fun w=>∃ w5,z w5/\Below w5.heap.size w5 w) w->Below w.heap.size w w'->(fun w=>∃ w5,z w5/\Below w5.heap.size w5 w) w'){Q:Exit->Act->World->Prop}
 (a:Act) (m:Nat) (R:a.tmps.size=m) (F:148<=m) (O:a.tmps.getD 0 undef=Pv b 0) (P:a.tmps.getD 1 undef=Pv c 0) (H:a.tmps.getD 5 undef=Pv X 0)
 (hX:∀ ch a' w',a'.defers=a.defers->(fun ch w=>y ch w) ch w'->Q (.panic ch) a' w')
 (hend:∀ ops vs w',vs 102=Pv c 0->(Qk6 w6 D) (vs 121) w'->(fun w=>∃ w5,z w5/\Below w5.heap.size w5 w) w'->wpList prog ops Q (Qam 20 ((Tryz.f114.body.bind (Qi 18)).getD .skip)) (QM a vs [102,103,104,105,106,107,108,109,110,111,112,113,114,115,116,117,118,119,120,121]) w') :
 Code.wp prog ((Tryz.f114.body.bind (Qi 18)).getD .skip) Q a w6:=by
 conv=>arg 2;whnf
 refine Zs 20 (Qkx w6 b c X ri vl cc j q ya yb D) (WY w6 (fun w=>∃ w5,z w5/\Below w5.heap.size w5 w) 18) (fun ch w=>y ch w) hX (outs:=[0,1,5]) (gs:=[]) (bs:=[true,true,true,true,true,true,true,true,true,true,true,true,true,true,true,true,true,true,true,true]) (by kernel_rfl) (n:=148) R F (by kernel_rfl) (by kernel_rfl) ?hG (.inl ⟨Z,QI Zr 1⟩) ⟨O,P,H,Y⟩ ?hA ?hend
 case hG=>exact fun S=>trivial
 case hend=>exact fun ops vs S w' B f g=>hend ops vs w' (g 102 (by kernel_rfl)) (g 121 (by kernel_rfl)) (f.fin (B 18 (by decide)))
 case hA =>
  refine⟨fun S a w o s p f g K k=>?_,?_⟩
  ·obtain⟨d,-⟩:=g
   have d:a.tmps.getD 1 undef=Pv c 0:=d;go_simp;exact k _ _ (fun t _ l=>Qar (i:=0) (Zk.refl _ _) l) (f.onS (i:=0) (by decide)) Z
  refine⟨fun S a w o s p f g K k=>?_,?_⟩
  ·obtain⟨d,-⟩:=g
   have d:a.tmps.getD 0 undef=Pv b 0:=d;go_simp;exact k _ _ (fun t _ l=>Qar (i:=1) (Zk.refl _ _) l) (f.onS (i:=1) (by decide)) Z
  refine⟨fun S a w o s p f g K k=>?_,?_⟩
  ·obtain⟨d,-⟩:=g
   have d:a.tmps.getD 1 undef=Pv c 0:=d;go_simp;exact k _ _ (fun t _ l=>Qar (i:=2) (Zk.refl _ _) l) (f.onS (i:=2) (by decide)) Z
  refine⟨fun S a w o s p f g K k=>?_,?_⟩
  ·obtain⟨d,-⟩:=g
   have d:a.tmps.getD 104 undef=Pv c 0:=d;go_simp;exact k _ _ (fun t _ l=>Qar (i:=3) (Zk.refl _ _) l) (f.onS (i:=3) (by decide)) Z
  refine⟨fun S a w o s p f g K k=>?_,?_⟩
  ·obtain⟨d,-⟩:=g
   have d:a.tmps.getD 105 undef=Pv c 0:=d;go_simp;exact k _ _ (fun t _ l=>Qar (i:=4) (Zk.refl _ _) l) (f.onS (i:=4) (by decide)) Z
  refine⟨fun S a w o s p f g K k=>?_,?_⟩
  ·obtain⟨d,-⟩:=g
   have r:S 18=false:=Qfq p (q:=18) Z (by kernel_rfl) o;have u:=f.pre r;have d:a.tmps.getD 106 undef=Pv c 3:=d;have C:=Qk J u;go_simp;exact k _ _ (fun t _ l=>Qar (i:=5) (Zk.refl _ _) l) (f.onS (i:=5) (by decide)) Z
  refine⟨fun S a w o s p f g K k=>?_,?_⟩
  ·obtain⟨d,-⟩:=g
   have d:a.tmps.getD 5 undef=Pv X 0:=d;go_simp;exact k _ _ (fun t _ l=>Qar (i:=6) (Zk.refl _ _) l) (f.onS (i:=6) (by decide)) Z
  refine⟨fun S a w o s p f g K k=>?_,?_⟩
  ·obtain⟨d,-⟩:=g
   have r:S 18=false:=Qfq p (q:=18) Z (by kernel_rfl) o;have u:=f.pre r;have d:a.tmps.getD 108 undef=Pv X 1:=d;have C:=Qk N u;go_simp;exact k _ _ (fun t _ l=>Qar (i:=7) (Zk.refl _ _) l) (f.onS (i:=7) (by decide)) Z
  refine⟨fun S a w o s p f g K k=>?_,?_⟩
  ·obtain⟨d,x,-⟩:=g
   have d:a.tmps.getD 107 undef=.slice (some ⟨ri,0,none⟩) vl cc:=d;have x:a.tmps.getD 109 undef=Iv (j:Int):=x;go_simp;exact k _ _ (fun t _ l=>Qar (i:=8) (Zk.refl _ _) l) (f.onS (i:=8) (by decide)) Z
  refine⟨fun S a w o s p f g K k=>?_,?_⟩
  ·obtain⟨d,-⟩:=g
   have r:S 18=false:=Qfq p (q:=18) Z (by kernel_rfl) o;have u:=f.pre r;have d:a.tmps.getD 110 undef=Pv ri j:=d;have C:=Qk ej u;go_simp;exact k _ _ (fun t _ l=>Qar (i:=9) (Zk.refl _ _) l) (f.onS (i:=9) (by decide)) Z
  refine⟨fun S a w o s p f g K k=>?_,?_⟩
  ·obtain⟨d,-⟩:=g
   have d:a.tmps.getD 1 undef=Pv c 0:=d;go_simp;exact k _ _ (fun t _ l=>Qar (i:=10) (Zk.refl _ _) l) (f.onS (i:=10) (by decide)) Z
  refine⟨fun S a w o s p f g K k=>?_,?_⟩
  ·obtain⟨d,-⟩:=g
   have d:a.tmps.getD 112 undef=Pv c 0:=d;go_simp;exact k _ _ (fun t _ l=>Qar (i:=11) (Zk.refl _ _) l) (f.onS (i:=11) (by decide)) Z
  refine⟨fun S a w o s p f g K k=>?_,?_⟩
  ·obtain⟨d,-⟩:=g
   have d:a.tmps.getD 113 undef=Pv c 0:=d;go_simp;exact k _ _ (fun t _ l=>Qar (i:=12) (Zk.refl _ _) l) (f.onS (i:=12) (by decide)) Z
  refine⟨fun S a w o s p f g K k=>?_,?_⟩
  ·obtain⟨d,-⟩:=g
   have r:S 18=false:=Qfq p (q:=18) Z (by kernel_rfl) o;have u:=f.pre r;have d:a.tmps.getD 114 undef=Pv c 3:=d;have C:=Qk J u;go_simp;exact k _ _ (fun t _ l=>Qar (i:=13) (Zk.refl _ _) l) (f.onS (i:=13) (by decide)) Z
  refine⟨fun S a w o s p f g K k=>?_,?_⟩
  ·obtain⟨d,-⟩:=g
   have d:a.tmps.getD 5 undef=Pv X 0:=d;go_simp;exact k _ _ (fun t _ l=>Qar (i:=14) (Zk.refl _ _) l) (f.onS (i:=14) (by decide)) Z
  refine⟨fun S a w o s p f g K k=>?_,?_⟩
  ·obtain⟨d,-⟩:=g
   have r:S 18=false:=Qfq p (q:=18) Z (by kernel_rfl) o;have u:=f.pre r;have d:a.tmps.getD 116 undef=Pv X 2:=d;have C:=Qk V u;go_simp;exact k _ _ (fun t _ l=>Qar (i:=15) (Zk.refl _ _) l) (f.onS (i:=15) (by decide)) Z
  refine⟨fun S a w o s p f g K k=>?_,?_⟩
  ·obtain⟨d,x,-⟩:=g
   have d:a.tmps.getD 115 undef=.slice (some ⟨ri,0,none⟩) vl cc:=d;have x:a.tmps.getD 117 undef=Iv (q:Int):=x;go_simp;exact k _ _ (fun t _ l=>Qar (i:=16) (Zk.refl _ _) l) (f.onS (i:=16) (by decide)) Z
  refine⟨fun S a w o s p f g K k=>?_,?_⟩
  ·obtain⟨d,-⟩:=g
   have r:S 18=false:=Qfq p (q:=18) Z (by kernel_rfl) o;have u:=f.pre r;have d:a.tmps.getD 118 undef=Pv ri q:=d;have C:=Qk eq u;go_simp;exact k _ _ (fun t _ l=>Qar (i:=17) (Zk.refl _ _) l) (f.onS (i:=17) (by decide)) Z
  refine⟨fun S a w o s p f g K k=>?_,?_⟩
  ·obtain⟨d,x,L,-⟩:=g
   have u:=f.pre o;have d:a.tmps.getD 103 undef=Pv b 0:=d;have x:a.tmps.getD 111 undef=Iv ya:=x;have L:a.tmps.getD 119 undef=Iv yb:=L;go_simp;refine Xm (T.out w u) ?_;rintro r7 w7 (⟨rfl,G,hz⟩|⟨ch,rfl,G⟩)
   rotate_left
   ·exact⟨_,Z,G⟩
   go_simp;exact k _ _ (fun t _ l=>Qar (i:=18) hz l) (WY.did ⟨_,G,Zr⟩) Z
  refine⟨fun S a w o s p f g K k=>?_,?_⟩
  ·obtain⟨d,-⟩:=g
   have d:(fun v=>v=Iv D) (a.tmps.getD 120 undef):=d;generalize I:a.tmps.getD 120 undef=M at d;rw[Za] at I
   subst d;go_simp;have E:=f.lowB (fun w h=>by obtain⟨w5,H,U⟩:=h;exact Zt (A _ H) U.size);exact k _ _ (fun t _ l=>Qar (i:=19) (Zk.below (ZO _ _)) l) (f.onB W (i:=19) (by decide) (ZO _ _)) ⟨_,Z,E,Qb (Qe _ _ _) 0 _ Z⟩
  trivial
def Qm6 (w6:World) (fr:RFr) (gc nc:Nat) (vs0:List Value) (v:Value) (w:World):Prop:=∃ w5 c5 x5 n5,Below w6.heap.size w6 w5/\w6.heap.size<=c5/\w6.heap.size<=x5/\WFr w5 c5 fr (.slice (some ⟨x5,0,none⟩) n5 n5)/\w.ownsRow 0 130 1 v (nc+1) (vs0++[Pv c5 0])/\w5.grownBy w (some gc)/\∀ k,v.ownBlock=some k->k=gc\/k=w5.heap.size
theorem wInfoF:∃ i,prog.info? 130=some i/\i.zero=some (.pointer none)/\i.size=1/\i.bytes=8:=by
 have a:(prog.info? 130).map (fun i=>(i.zero,i.size,i.bytes))=some (some (.pointer none),1,8):=by kernel_rfl
 cases h2:prog.info? 130 with
 | none=>rw[h2] at a;cases a
 | some i =>
   rw[h2] at a
   simp at a
   exact⟨i,Z,a.1,a.2.1,a.2.2⟩
theorem wUnderF:prog.underlying 66=some (.slice 130):=by kernel_rfl
def Qlu (w6:World) (fr:RFr) (b c X fi gc nc dc na ca:Nat) (pa:Option Addr) (vs0:List Value) (S:Nat->Bool) (t:Tmp) (v:Value) (w:World):Prop :=
 match ([(23,fun _ v w=>(Qhz w6 fr) v w),(24,fun _ v w=>(Qmh w6 fr) v w),(25,fun S v w=>S 12=true->(Qm6 w6 fr gc nc vs0) v w)]:List (Tmp × ((Nat->Bool)->Value->World->Prop))).lookup t with
 | some p=>p S v w
 | none=>v=(([(0,.pointer (some ⟨b,0,none⟩)),(1,.pointer (some ⟨c,0,none⟩)),(5,.pointer (some ⟨X,0,none⟩)),(13,.pointer (some ⟨b,0,none⟩)),(14,.pointer (some ⟨b,0,none⟩)),(15,.pointer (some ⟨b,0,none⟩)),(16,.pointer (some ⟨b,4,none⟩)),(17,.slice (some ⟨gc,0,none⟩) nc dc),(18,.pointer (some ⟨c,0,none⟩)),(19,.pointer (some ⟨X,4,none⟩)),(20,.int .i64 (fi:Int)),(21,.pointer (some ⟨X,7,none⟩)),(22,.slice pa na ca),(26,.pointer (some ⟨b,0,none⟩)),(27,.pointer (some ⟨b,4,none⟩))]:List (Tmp × Value)).lookup t).getD undef
theorem Qgk {fr:RFr}{f j g l:Nat}{a:List Value}{S:Nat->Bool}{t:Tmp}{u:Value}(hi:i≠12) (k:Zk w6 w w') (n:S 12=true->w'=w) (d:Qlu w6 fr b c X fi f j g l ca pa a S t u w):Qlu w6 fr b c X fi f j g l ca pa a (Qcr i S) t u w':=by
 unfold Qlu at d |-;refine Qmv ?_ d;exact⟨fun _ h=>h.z k,fun _ h=>h.z k,fun _ h e=>(by rw[Qm7 (fun e=>hi e.symm)] at e;have m:=n e;subst m;exact h e),Y⟩
theorem Qoa {fr:RFr}{f i g k:Nat}{a:List Value}{S:Nat->Bool}{t:Tmp}{u:Value}(l:t≠25) (j:Zk w6 w w') (d:Qlu w6 fr b c X fi f i g k ca pa a S t u w):Qlu w6 fr b c X fi f i g k ca pa a (Qcr 12 S) t u w':=by
 unfold Qlu at d |-;refine Qmv ?_ d;exact⟨fun _ h=>h.z j,fun _ h=>h.z j,fun e _=>absurd e l,Y⟩
theorem wc2 {fr:RFr}{y x F G:Nat}{v:List Value}(hR:Hid (∀ wx,Below w6.heap.size w6 wx->wx.ownsRow 0 130 1 (.slice (some ⟨y,0,none⟩) x F) x v)) (ad:y<w6.heap.size) (ac:x<=100) (q4:w6.cell? ⟨b,4,none⟩=some (.slice (some ⟨y,0,none⟩) x F)) (x4:w6.cell? ⟨X,4,none⟩=some (Iv (fi:Int))) (C:w6.cell? ⟨X,7,none⟩=some (.slice pa G ca)) (CB:Hid (∀ wx,Below w6.heap.size w6 wx->Calls prog 216 #[Pv c 0,Iv (fi:Int),Iv 0,.slice pa G ca] wx fun e w'=>QmN wx fr e w'))  (hP:∀ w w',(fun w=>w6.heap.size<=w.heap.size) w->Below w.heap.size w w'->(fun w=>w6.heap.size<=w.heap.size) w'){Q:Exit->Act->World->Prop}
 (a:Act) (m:Nat) (hn:a.tmps.size=m) (J:28<=m) (h0:a.tmps.getD 0 undef=Pv b 0) (N:a.tmps.getD 1 undef=Pv c 0) (h5:a.tmps.getD 5 undef=Pv X 0)
 (hX:∀ ch a' w',a'.defers=a.defers->(fun ch w=>False) ch w'->Q (.panic ch) a' w')
 (hend:∀ ops vs w',(Qm6 w6 fr y x v) (vs 25) w'->vs 27=Pv b 4->(fun w=>w6.heap.size<=w.heap.size) w'->wpList prog ops Q (Qam 15 ((Tryz.f176.body.bind (Qi 2)).getD .skip)) (QM a vs [13,14,15,16,17,18,19,20,21,22,23,24,25,26,27]) w') :
 Code.wp prog ((Tryz.f176.body.bind (Qi 2)).getD .skip) Q a w6:=by
 conv=>arg 2;whnf
 refine Zs 15 (Qlu w6 fr b c X fi y x F G ca pa v) (WY w6 (fun w=>w6.heap.size<=w.heap.size) 12) (fun ch w=>False) hX (outs:=[0,1,5]) (gs:=[]) (bs:=[true,true,true,true,true,true,true,true,true,true,true,true,true,true,true]) (by kernel_rfl) (n:=28) hn J (by kernel_rfl) (by kernel_rfl) ?hG (.inl ⟨Yz,QI Zr 1⟩) ⟨h0,N,h5,Y⟩ ?hA ?hend
 case hG=>exact fun S=>trivial
 case hend=>exact fun ops vs S w' A f g=>hend ops vs w' ((show S 12=true->(Qm6 w6 fr y x v) (vs 25) w' from g 25 (by kernel_rfl)) (A 12 (by decide))) (g 27 (by kernel_rfl)) (f.fin (A 12 (by decide)))
 case hA =>
  refine⟨fun S a w o s p f g K h=>?_,?_⟩
  ·obtain⟨d,-⟩:=g
   have d:a.tmps.getD 0 undef=Pv b 0:=d;go_simp;exact h _ _ (fun t _ j=>Qgk (by decide) (i:=0) (Zk.refl _ _) (fun _=>rfl) j) (f.onS (i:=0) (by decide)) Yz
  refine⟨fun S a w o s p f g K h=>?_,?_⟩
  ·obtain⟨d,-⟩:=g
   have d:a.tmps.getD 0 undef=Pv b 0:=d;go_simp;exact h _ _ (fun t _ j=>Qgk (by decide) (i:=1) (Zk.refl _ _) (fun _=>rfl) j) (f.onS (i:=1) (by decide)) Yz
  refine⟨fun S a w o s p f g K h=>?_,?_⟩
  ·obtain⟨d,-⟩:=g
   have d:a.tmps.getD 14 undef=Pv b 0:=d;go_simp;exact h _ _ (fun t _ j=>Qgk (by decide) (i:=2) (Zk.refl _ _) (fun _=>rfl) j) (f.onS (i:=2) (by decide)) Yz
  refine⟨fun S a w o s p f g K h=>?_,?_⟩
  ·obtain⟨d,-⟩:=g
   have d:a.tmps.getD 15 undef=Pv b 0:=d;go_simp;exact h _ _ (fun t _ j=>Qgk (by decide) (i:=3) (Zk.refl _ _) (fun _=>rfl) j) (f.onS (i:=3) (by decide)) Yz
  refine⟨fun S a w o s p f g K h=>?_,?_⟩
  ·obtain⟨d,-⟩:=g
   have l:S 12=false:=Qfq p (q:=12) Yz (by kernel_rfl) o;have r:=f.pre l;have d:a.tmps.getD 16 undef=Pv b 4:=d;have c0:=Qk q4 r;go_simp;exact h _ _ (fun t _ j=>Qgk (by decide) (i:=4) (Zk.refl _ _) (fun _=>rfl) j) (f.onS (i:=4) (by decide)) Yz
  refine⟨fun S a w o s p f g K h=>?_,?_⟩
  ·obtain⟨d,-⟩:=g
   have d:a.tmps.getD 1 undef=Pv c 0:=d;go_simp;exact h _ _ (fun t _ j=>Qgk (by decide) (i:=5) (Zk.refl _ _) (fun _=>rfl) j) (f.onS (i:=5) (by decide)) Yz
  refine⟨fun S a w o s p f g K h=>?_,?_⟩
  ·obtain⟨d,-⟩:=g
   have d:a.tmps.getD 5 undef=Pv X 0:=d;go_simp;exact h _ _ (fun t _ j=>Qgk (by decide) (i:=6) (Zk.refl _ _) (fun _=>rfl) j) (f.onS (i:=6) (by decide)) Yz
  refine⟨fun S a w o s p f g K h=>?_,?_⟩
  ·obtain⟨d,-⟩:=g
   have l:S 12=false:=Qfq p (q:=12) Yz (by kernel_rfl) o;have r:=f.pre l;have d:a.tmps.getD 19 undef=Pv X 4:=d;have c0:=Qk x4 r;go_simp;exact h _ _ (fun t _ j=>Qgk (by decide) (i:=7) (Zk.refl _ _) (fun _=>rfl) j) (f.onS (i:=7) (by decide)) Yz
  refine⟨fun S a w o s p f g K h=>?_,?_⟩
  ·obtain⟨d,-⟩:=g
   have d:a.tmps.getD 5 undef=Pv X 0:=d;go_simp;exact h _ _ (fun t _ j=>Qgk (by decide) (i:=8) (Zk.refl _ _) (fun _=>rfl) j) (f.onS (i:=8) (by decide)) Yz
  refine⟨fun S a w o s p f g K h=>?_,?_⟩
  ·obtain⟨d,-⟩:=g
   have l:S 12=false:=Qfq p (q:=12) Yz (by kernel_rfl) o;have r:=f.pre l;have d:a.tmps.getD 21 undef=Pv X 7:=d;have c0:=Qk C r;go_simp;exact h _ _ (fun t _ j=>Qgk (by decide) (i:=9) (Zk.refl _ _) (fun _=>rfl) j) (f.onS (i:=9) (by decide)) Yz
  refine⟨fun S a w o s p f g K h=>?_,?_⟩
  ·obtain⟨d,B,k2,-⟩:=g
   have l:S 12=false:=Qfq p (q:=12) Yz (by kernel_rfl) o;have r:=f.pre l;have d:a.tmps.getD 18 undef=Pv c 0:=d;have B:a.tmps.getD 20 undef=Iv (fi:Int):=B;have k2:a.tmps.getD 22 undef=.slice pa G ca:=k2;go_simp;refine Xm (CB.out w r) ?_;rintro r7 w7 ⟨k7,C,H,rfl,N,h2,h3,W⟩;go_simp;exact h _ _ (fun t _ j=>Qgk (by decide) (i:=10) (Zk.below W) (fun e=>by rw[l] at e;cases e) j) (f.onB hP (i:=10) (by decide) W) ⟨k7,C,H,Yz,Zt r.size N,Zt r.size h2,h3⟩
  refine⟨fun S a w o s p f g K h=>?_,?_⟩
  ·obtain⟨d,-⟩:=g
   have l:S 12=false:=Qfq p (q:=12) Yz (by kernel_rfl) o;have r:=f.pre l;have d:(Qhz w6 fr) (a.tmps.getD 23 undef) w:=d;generalize U:a.tmps.getD 23 undef=aa at d;rw[Za] at U
   have k9:=d;obtain⟨R,C,H,rfl,h9,E,D⟩:=d
   go_simp;exact h _ _ (fun t _ j=>Qgk (by decide) (i:=11) (Zk.below (ZO _ _)) (fun e=>by rw[l] at e;cases e) j) (f.onB hP (i:=11) (by decide) (ZO _ _)) ⟨_,_,Yz,r.size,Qb (Qe _ _ _) 0 _ Yz,k9.z (Zk.below (ZO _ _))⟩
  refine⟨fun S a w o s p f g K h=>?_,?_⟩
  ·obtain⟨d,B,-⟩:=g
   have r:=f.pre o;have d:a.tmps.getD 17 undef=.slice (some ⟨y,0,none⟩) x F:=d;have B:(Qmh w6 fr) (a.tmps.getD 24 undef) w:=B;generalize M:a.tmps.getD 24 undef=ab at B;obtain⟨kx,u7,rfl,h7,h8,R,C,H,rfl,h9,E,D⟩:=B
   obtain⟨i0,O,I,P,T⟩:=wInfoF
   refine QeA w _ _ 66 Yz 130 i0 (.pointer none) 1 8 wUnderF O I P T Yz (by decide) (.slice (some ⟨y,0,none⟩) x F) x v d (hR.out w r) ⟨kx,0,none⟩ 1 1 [Pv R 0] M Yz (Qgq h8) (by intro u V;simp at V;subst V;rfl) (by unfold maxLen;omega) (by omega) ?_;intro v9 w9 r1 L r3;have hz:Zk w6 w w9:=fun Z hZ hl=>L.block Z hl (fun e=>by have:Z=y:=(by simpa[Value.ownBlock] using e);omega);refine h _ _ (fun t hL j=>Qoa (fun e=>by subst e;have:=QkV hL (by kernel_rfl) (i:=12) (by kernel_rfl);rw[o] at this;cases this) hz j) (WY.did (Zt r.size L.size)) (fun _=>⟨w,R,C,H,r,h9,E,D,r1,L,fun k g=>(r3 k g).imp (fun e=>by simpa[Value.ownBlock] using e.symm) id⟩)
  refine⟨fun S a w o s p f g K h=>?_,?_⟩
  ·obtain⟨d,-⟩:=g
   have d:a.tmps.getD 13 undef=Pv b 0:=d;go_simp;exact h _ _ (fun t _ j=>Qgk (by decide) (i:=13) (Zk.refl _ _) (fun _=>rfl) j) (f.onS (i:=13) (by decide)) Yz
  refine⟨fun S a w o s p f g K h=>?_,?_⟩
  ·obtain⟨d,-⟩:=g
   have d:a.tmps.getD 26 undef=Pv b 0:=d;go_simp;exact h _ _ (fun t _ j=>Qgk (by decide) (i:=14) (Zk.refl _ _) (fun _=>rfl) j) (f.onS (i:=14) (by decide)) Yz
  trivial
def RM.nx (R:RM):RM:={ R with top:={ R.top with i:=R.top.i+1 } }
def Qdj (g:WG) (w:World) (b most:Nat) (m:List (MFunc 6)) (r:RM) (e:Ending) (w':World):Prop :=
 (∃ N,r=N.nx/\e=.returned (.tuple #[])/\WTo g w w' b most m N)\/(∃ N k,r=N.over k/\e=.panicked (QdE k)/\WTo g w w' b most m N)
section
variable {w w' w2:World}{b most n:Nat}{m:List (MFunc 6)}{R R' r:RM}{g g1:WG}
theorem Qdj.then {e:Ending}(T:WSt g g1 w w2) (h:g1.t.c=g.t.c) (f:g1.fs=g.fs) (H:Qdj g1 w2 b most m r e w'):Qdj g w b most m r e w':=by
 rcases H with ⟨N,a,c,d⟩|⟨N,k,a,c,d⟩
 ·exact .inl ⟨N,a,c,WTo.then T h f d⟩
 ·exact .inr ⟨N,k,a,c,WTo.then T h f d⟩
theorem Qdj.cases {e:Ending}(h:Qdj g w b most m r e w'):(e=.returned (.tuple #[])\/∃ ch,e=.panicked ch):=by
 rcases h with ⟨N,a,c,d⟩|⟨N,k,a,c,d⟩
 ·exact .inl c
 ·exact .inr ⟨_,c⟩
theorem WAt.wordAt (S:WAt w b most m R g){k a:Int}(h:iAt R.top.v k=some a):∃ (j i o:Nat) (c:Nat),k=(j:Int)/\(j:Int)<(R.top.v.length:Nat)/\w.cell? ⟨g.t.c,3,none⟩=some (.slice (some ⟨i,0,none⟩) R.top.v.length c)/\w.cell? ⟨i,j,none⟩=some (Iv a):=by
 obtain⟨j,rfl,d,e⟩:=Qla h
 have F:=S.top;obtain⟨q,n,f,l⟩:=F.2.cell
 obtain⟨i,rfl,-,p⟩:=l j d
 refine⟨j,i,0,n,Z,by omega,?_,by rw[e];exact p⟩
 rw[<-f];exact Qb F.1 3 _ Z
theorem WAt.makesC (S:WAt w b most m R g)(h:w.cell? ⟨k,0,none⟩=some (Iv x)) (a:R.top.v.length+1<=1000000) :
 Calls prog 169 #[Pv g.t.c 0,.slice (some ⟨k,0,none⟩) 1 1] w fun e w'=>e=.returned (.tuple #[])/\WTo g w w' b most m (R.push [x]) :=
 QbY S (l:=[x]) Z (Qgq h) a
theorem Qz.zk {w w':World}(h:Qz O O' w w') (b:∀ x,O x->x<w6.heap.size):Zk w6 w w':=fun Z c a=>h.block Z a (fun e=>by have:=b Z e;omega)
theorem Qnq (S:WAt w b most m R g) (I:ROk m n R) (K:n<=900000){x:Qs}(a:IP) (h:x.op=1) (d:RM.ins aOp R x=some r) :
 Calls prog 114 #[Pv b 0,Pv g.t.c 0,.agg (Zq x a)] w fun e w'=>Qdj g w b most m r e w':=by
 have f:=Qc (ZO w (.cells (Zq x a) 78));have i:=Qc (Qe w (Zq x a) 78);have k:=Qc (S.below f.out);have l:=Qc (S.stepB f.out);have A:R.top.v.length+1<=1000000:=by have:=(I.fr R.top (by simp)).1;omega
 have o:=I.out.1;have j:=I.inp;clear S I;go_enter func114,ntmps114
 go_upto_region 1 with fail
 generalize w.alloc (.cells (Zq x a) 78)=G at f i k l |-;generalize w.heap.size=X at i |-;obtain⟨p,u,B,s,F,D,y,z⟩:=Q7 i.out
 rw[h] at p
 have E:Hid (r=(R.push [x.n]).nx):=by show _=_;unfold RM.ins at d;simp only[h,if_true] at d;cases d;rfl
 have C:=Qc (Qb2 k.out x.n A);clear u B s F y z d h;go_wp2_with fail
 refine C.out.mono ?_;rintro H J ⟨rfl,q⟩;have Z:=Qc (WTo.then l.out Yz Yz q);clear q C D p;go_wp2
 exact Xz (v:=.tuple #[]) (by simp[results,results114,go_sem]) Yz (.inl ⟨_,E.out,Yz,Z.out⟩)
theorem Qng (S:WAt w b most m R g) (I:ROk m n R) (hn:n<=900000){x:Qs}(j:IP) (h:x.op=3) (J:RM.ins aOp R x=some r) :
 Calls prog 114 #[Pv b 0,Pv g.t.c 0,.agg (Zq x j)] w fun e w'=>Qdj g w b most m r e w':=by
 have u:=Qc (ZO w (.cells (Zq x j) 78));have z:=Qc (Qe w (Zq x j) 78);have q:=Qc (S.below u.out);have s:=Qc (S.stepB u.out);have U:R.top.v.length+1<=1000000:=by have:=(I.fr R.top (by simp)).1;omega
 have G:=I.out.1;have D:=I.inp;clear S I;go_enter func114,ntmps114
 go_upto_region 1 with fail
 generalize w.alloc (.cells (Zq x j) 78)=w1 at u z q s |-;generalize w.heap.size=X at z |-;obtain⟨H,O,V,N,x4,x5,P,T⟩:=Q7 z.out
 rw[h] at H
 have E:Hid (some r=if 0<=R.e.openK then some (({ R with e:=R.e.opened }:RM).on [R.e.openK]) else some (R.over 6)):=by show _=_;rw[<-J];unfold RM.ins;simp[h]
 have C:=Qc q.out.openC;have Q:=q.out.cellE;clear O V N x4 x5 P T J h;by_cases d:0<=R.e.openK
 ·have o:Hid (r=(RM.push { R with e:=R.e.opened } [R.e.openK]).nx):=by show _=_;have:=E.out;rw[Xs d] at this;cases this;rfl
  have y:decide (R.e.openK>=0)=true:=by simpa using d
  clear E d;obtain⟨f,a⟩:∃ f,R.e.openK=f:=⟨_,Yz⟩
  rw[a] at C o y
  clear a;go_upto_region 12 with (first | (go_at_call 170;refine C.out.mono ?_;rintro k w2 ⟨rfl,l⟩) | (go_at_call 111;refine(QaH _ _).mono ?_;rintro k w' ⟨rfl,i⟩;have i:=i.symm;subst i))
  obtain⟨g2,K,F,p,L⟩:=l
  have A:=Qc (Qb2 K f U);rw[p] at A
  have B:=Qc (Xh (s.out.trans F) (Xh p L));clear K F p L C Q;go_wp2_with fail
  refine A.out.mono ?_;rintro k w5 ⟨rfl,M⟩;have Z:=Qc (WTo.then B.out.1 B.out.2.1 B.out.2.2 M);clear M A H;go_wp2
  exact Xz (v:=.tuple #[]) (by simp[results,results114,go_sem]) Yz (.inl ⟨_,o.out,Yz,Z.out⟩)
 ·have o:Hid (r=R.over 6):=by show _=_;have:=E.out;rw[Xr d] at this;cases this;rfl
  have y:decide (R.e.openK>=0)=false:=by simpa using d
  have W:Hid (R.e.opened=R.e):=by
   show _=_;unfold Est.opened;rw[Xs (by omega)]
  clear E d;obtain⟨f,a⟩:∃ f,R.e.openK=f:=⟨_,Yz⟩
  rw[a] at C y
  clear a;go_wp2_with (go_at_call 170;refine C.out.mono ?_;rintro k w2 ⟨rfl,l⟩)
  refine(Z7 _ _).mono ?_
  rintro k w' ⟨rfl,i⟩;subst i;rw[W.out] at l
  exact⟨Yz,.inr ⟨R,6,o.out,Yz,WTo.then s.out Yz Yz l⟩⟩
theorem QmV (S:WAt w b most m R g) (I:ROk m n R) (V:n<=900000){x:Qs}(d:IP) (h:x.op=12) (a:RM.ins aOp R x=some r) :
 Calls prog 114 #[Pv b 0,Pv g.t.c 0,.agg (Zq x d)] w fun e w'=>Qdj g w b most m r e w':=by
 have o:=Qc (ZO w (.cells (Zq x d) 78));have q:=Qc (Qe w (Zq x d) 78);have A:=Qc (S.below o.out);have j:=Qc (S.stepB o.out);have T:R.top.v.length+1<=1000000:=by have:=(I.fr R.top (by simp)).1;omega
 have F:=I.out.1;have y:=I.inp;clear S I;go_enter func114,ntmps114
 go_upto_region 1 with fail
 generalize w.alloc (.cells (Zq x d) 78)=U at o q A j |-;generalize w.heap.size=X at q |-;obtain⟨H,B,K,z,O,N,G,J⟩:=Q7 q.out
 rw[h] at H
 have C:=Qc (Qfs A.out (by omega));unfold Qns at C
 cases hi:R.inp with
 | nil =>
   rw[hi] at C
   have p:Hid (r=R.over 4):=by show _=_;unfold RM.ins at a;simp[h,hi] at a;exact a.symm
   clear B K z O N G J a h hi;go_wp2_with fail
   refine C.out.mono ?_;rintro D P ⟨rfl,f⟩;exact⟨Yz,.inr ⟨R,4,p.out,Yz,WTo.then j.out Yz Yz f⟩⟩
 | cons k l =>
   rw[hi] at C
   have p:Hid (r=(RM.push { R with inp:=l } [k]).nx):=by show _=_;unfold RM.ins at a;simp[h,hi] at a;exact a.symm
   clear B K z O N G J a h hi;go_wp2_with (go_at_call 174;refine C.out.mono ?_;rintro D w2 ⟨rfl,Q⟩)
   obtain⟨W,L,E,i,M⟩:=Q
   have s:=Qc (Qb2 L k T);rw[i] at s
   have u:=Qc (Xh (j.out.trans E) (Xh i M));clear L E i M C;refine s.out.mono ?_;rintro D P ⟨rfl,f⟩;have Z:=Qc (WTo.then u.out.1 u.out.2.1 u.out.2.2 f);clear f s H;go_wp2
   exact Xz (v:=.tuple #[]) (by simp[results,results114,go_sem]) Yz (.inl ⟨_,p.out,Yz,Z.out⟩)
end
section
variable {w w' w2:World}{b most n:Nat}{m:List (MFunc 6)}{R R' r:RM}{g g1:WG}
theorem Qnt (S:WAt w b most m R g) (I:ROk m n R) (hn:n<=900000){x:Qs}(o:IP) (h:x.op=4) (k:RM.ins aOp R x=some r) :
 Calls prog 114 #[Pv b 0,Pv g.t.c 0,.agg (Zq x o)] w fun e w'=>Qdj g w b most m r e w':=by
 have p:=Qc (ZO w (.cells (Zq x o) 78));have u:=Qc (Qe w (Zq x o) 78);have i:=Qc (S.below p.out);have q:=Qc (S.stepB p.out);have hl:R.top.v.length+1<=1000000:=by have:=(I.fr R.top (by simp)).1;omega
 have B:=I.out.1;have z:=I.inp;clear S I;go_enter func114,ntmps114
 go_upto_region 1 with fail
 generalize w.alloc (.cells (Zq x o) 78)=w1 at p u i q |-;generalize w.heap.size=X at u |-;obtain⟨L,A,Q,F,x4,V,K,N⟩:=Q7 u.out
 rw[h] at L
 obtain⟨a,l⟩:∃ a,iAt R.top.v x.a=some a:=by
  unfold RM.ins at k
  cases l:iAt R.top.v x.a with
  | none=>simp[h,l] at k
  | some a=>exact⟨a,Yz⟩
 have P:Hid (r=RM.nx { R with e:=R.e.shut a }):=by show _=_;unfold RM.ins at k;simp[h,l] at k;rw[<-k];simp[RM.on,RM.nx]
 obtain⟨j,ri,-,c,E,T,H,O⟩:=i.out.wordAt l
 rw[E] at A
 have M:=i.out.cellE;clear Q F x4 V K N k h l E;go_upto_region 14 with fail
 refine QnT M H A T O _ _ Yz (Xg (by kernel_rfl)) Yz Yz Yz ?_;rintro y U J f d s;show wpList _ y _ [_] (QM _ U [68,69,70,71,72,73,74,75,76,77,78,79]) J;simp only[QM,Act.put,List.setIfInBounds_toArray,List.set_cons_zero,List.set_cons_succ,f,d]
 have G:=Qc (i.out.below s);have W:=Qc (q.out.trans (i.out.stepB s));clear f d s i q p;have C:=Qc (G.out.shutC a);go_wp2_with (go_at_call 171;refine C.out.mono ?_;rintro e' w2 ⟨rfl,D⟩;have Z:=Qc (WTo.then W.out Yz Yz D);clear D C)
 exact Xz (v:=.tuple #[]) (by simp[results,results114,go_sem]) Yz (.inl ⟨_,P.out,Yz,Z.out⟩)
theorem QmJ (S:WAt w b most m R g) (I:ROk m n R) (hn:n<=900000){x:Qs}(p:IP) (h:x.op=13) (i:RM.ins aOp R x=some r) :
 Calls prog 114 #[Pv b 0,Pv g.t.c 0,.agg (Zq x p)] w fun e w'=>Qdj g w b most m r e w':=by
 have y:=Qc (ZO w (.cells (Zq x p) 78));have D:=Qc (Qe w (Zq x p) 78);have l:=Qc (S.below y.out);have z:=Qc (S.stepB y.out);have hl:R.top.v.length+1<=1000000:=by have:=(I.fr R.top (by simp)).1;omega
 have o:=I.out.1;have F:=I.inp;clear S I;go_enter func114,ntmps114
 go_upto_region 1 with fail
 generalize w.alloc (.cells (Zq x p) 78)=w1 at y D l z |-;generalize w.heap.size=X at D |-;obtain⟨P,G,U,K,x4,x5,O,Q⟩:=Q7 D.out
 rw[h] at P
 obtain⟨a,k⟩:∃ a,iAt R.top.v x.a=some a:=by
  unfold RM.ins at i
  cases k:iAt R.top.v x.a with
  | none=>simp[h,k] at i
  | some a=>exact⟨a,Yz⟩
 have B:Hid (r=if R.out.length<2000 then RM.nx { R with out:=R.out++[a] } else R.over 8):=by
  show _=_;unfold RM.ins at i;by_cases q:R.out.length<2000
  ·simp[h,k,q] at i;rw[Xs q,<-i];simp[RM.on,RM.nx]
  ·simp[h,k,q] at i;rw[Xr q];exact i.symm
 obtain⟨j,ri,-,c,H,V,M,T⟩:=l.out.wordAt k
 rw[H] at G
 clear U K x4 x5 O Q i h k H;go_upto_region 22 with fail
 refine Qn8 M G V T _ _ Yz (Xg (by kernel_rfl)) Yz Yz Yz ?_;rintro E W N d f A;show wpList _ E _ [_] (QM _ W [132,133,134,135,136,137,138,139,140]) N;simp only[QM,Act.put,List.setIfInBounds_toArray,List.set_cons_zero,List.set_cons_succ,d,f]
 have L:=Qc (l.out.below A);have J:=Qc (z.out.trans (l.out.stepB A));clear d f A l z y;have C:=Qc (Qfu L.out a o);go_wp2_with fail
 refine C.out.mono ?_;rintro e' w2 (⟨s,rfl,u⟩|⟨s,rfl,u⟩)
 ·have E3:Hid (r=RM.nx { R with out:=R.out++[a] }):=by show _=_;rw[B.out,Xs s]
  have Z:=Qc (WTo.then J.out Yz Yz u);clear s u C B;go_wp2
  exact Xz (v:=.tuple #[]) (by simp[results,results114,go_sem]) Yz (.inl ⟨_,E3.out,Yz,Z.out⟩)
 ·exact⟨Yz,.inr ⟨R,8,by rw[B.out,Xr s],Yz,WTo.then J.out Yz Yz u⟩⟩
theorem Qm8 (S:WAt w b most m R g) (I:ROk m n R) (hn:n<=900000){x:Qs}(A:IP) (h:x.op=2) (l:RM.ins aOp R x=some r) :
 Calls prog 114 #[Pv b 0,Pv g.t.c 0,.agg (Zq x A)] w fun e w'=>Qdj g w b most m r e w':=by
 have D:=Qc (ZO w (.cells (Zq x A) 78));have F:=Qc (Qe w (Zq x A) 78);have d:=Qc (S.below D.out);have C:=Qc (S.stepB D.out);have T:R.top.v.length+1<=1000000:=by have:=(I.fr R.top (by simp)).1;omega
 have O:=I.out.1;have L:=I.inp;clear S I;go_enter func114,ntmps114
 go_upto_region 1 with fail
 generalize w.alloc (.cells (Zq x A) 78)=K at D F d C |-;generalize w.heap.size=X at F |-;obtain⟨P,M,U,x3,x4,x5,x6,x7⟩:=Q7 F.out
 rw[h] at P
 obtain⟨a,f⟩:∃ a,iAt R.top.v x.a=some a:=by
  unfold RM.ins at l
  cases f:iAt R.top.v x.a with
  | none=>simp[h,f] at l
  | some a=>exact⟨a,Yz⟩
 obtain⟨y,o⟩:∃ y,iAt R.top.v x.b=some y:=by
  unfold RM.ins at l
  cases o:iAt R.top.v x.b with
  | none=>simp[h,f,o] at l
  | some y=>exact⟨y,Yz⟩
 have i:Hid (some r=match aOp x.k a y with | none=>some (R.over 1) | some n=>some (R.on [n])):=by show _=_;rw[<-l];unfold RM.ins;simp[h,f,o];cases aOp x.k a y<;>rfl
 obtain⟨j,ri,-,c,ej,V,B,ck⟩:=d.out.wordAt f
 obtain⟨q,aa,-,c',eq,Q,z,H⟩:=d.out.wordAt o
 rw[B] at z
 cases z
 rw[ej] at M
 rw[eq] at U
 have s:=Qc (fun E=>Ql4 x.k a y E);generalize x.k=xk at *;have G:=Qc T;clear x3 x5 x6 x7 l h f o ej eq T;obtain⟨W,u⟩:∃ W,R.top.v.length=W:=⟨_,Yz⟩
 rw[u] at B V Q
 clear u
 cases ho:aOp xk a y with
 | none =>
   rw[ho] at s i
   have J:Hid (r=R.over 1):=by show _=_;have:=i.out;simpa using this
   clear ho i;go_upto_region 6 with fail
   go_quiet ((go_at_call 136;exact Calls.quiet_of_same (s.out _)))
   go_wp2_with fail
   refine(Z7 _ _).mono ?_
   rintro N w' ⟨rfl,p⟩;subst p;exact⟨Yz,.inr ⟨R,1,J.out,Yz,WTo.then C.out Yz Yz (WTo.same d.out (Qai Zr _))⟩⟩
 | some n =>
   rw[ho] at s i
   have J:Hid (r=(R.push [n]).nx):=by show _=_;have:=i.out;simp at this;rw[this];rfl
   have CM:=Qc (fun E (bx:Below K.heap.size K E)=>Qb2 (d.out.below bx) n G.out);clear ho i;go_upto_region 6 with fail
   go_quiet ((go_at_call 136;exact Calls.quiet_of_same (s.out _)))
   go_upto_region 8 with (go_at_call 111;refine(QaH _ _).mono ?_;rintro N w' ⟨rfl,p⟩;have p:=p.symm;subst p)
   clear s M U x4 ck H B V Q;go_wp2_with fail
   refine(CM.out _ (Qai Zr _)).mono ?_
   rintro N w5 ⟨rfl,h5⟩;have Z:=Qc (WTo.then (C.out.trans (d.out.stepB (Qai Zr _))) Yz Yz h5);clear h5 CM P;go_wp2
   exact Xz (v:=.tuple #[]) (by simp[results,results114,go_sem]) Yz (.inl ⟨_,J.out,Yz,Z.out⟩)
end
section
variable {w w' w2:World}{b most n:Nat}{m:List (MFunc 6)}{R R' r:RM}{g g1:WG}
theorem Qnm (S:WAt w b most m R g) (I:ROk m n R) (hn:n<=900000){x:Qs}(u:IP) (h:x.op=5){Q2:Nat->Prop}(hi:IIn w Q2 x u) (h8:x.args.length<=8) (q:RM.ins aOp R x=some r) :
 Calls prog 114 #[Pv b 0,Pv g.t.c 0,.agg (Zq x u)] w fun e w'=>Qdj g w b most m r e w':=by
 have M:=Qc (ZO w (.cells (Zq x u) 78));have BX:=Qc (Qe w (Zq x u) 78);have y:=Qc (S.below M.out);have U:=Qc (S.stepB M.out);have hl:R.top.v.length+1<=1000000:=by have:=(I.fr R.top (by simp)).1;omega
 have ae:=I.out.1;have ad:=I.inp;clear S I;go_enter func114,ntmps114
 go_upto_region 1 with fail
 generalize w.alloc (.cells (Zq x u) 78)=i at M BX y U |-;generalize w.heap.size=X at BX |-;obtain⟨x0,T,x2,x3,x4,x5,x6,x7⟩:=Q7 BX.out
 rw[h] at x0
 obtain⟨a,C⟩:∃ a,iAt R.top.v x.a=some a:=by
  unfold RM.ins at q
  cases C:iAt R.top.v x.a with
  | none=>simp[h,C] at q
  | some a=>exact⟨a,Yz⟩
 obtain⟨d,D⟩:∃ d,QaA R.top.v x.args=some d:=by
  unfold RM.ins at q
  cases D:QaA R.top.v x.args with
  | none=>simp[h,C,D] at q
  | some d=>exact⟨d,Yz⟩
 have N:Hid (r=R.thing a (if d.length=0 then 1 else (d.length:Int)) d):=by show _=_;unfold RM.ins at q;simp[h,C,D] at q;rw[<-q];congr 1;split<;>simp_all
 have ab:Hid (d.length=x.args.length):=Qag D;obtain⟨p,B⟩:∃ p,(if d.length=0 then 1 else (d.length:Int))=p:=⟨_,Yz⟩
 rw[B] at N
 have aa:=Qc B;obtain⟨j,ri,-,c,ej,hj,c3,ck⟩:=y.out.wordAt C
 rw[ej] at T
 have H8:=Qc h8;have CA:Hid (∀ f,Below i.heap.size i f->Calls prog 167 #[Pv g.t.c 0,.slice u.pA x.args.length u.cA] f fun e w'=>Qm2 f d x.args.length e w'):=fun f E=>Qd7 (y.out.top.below E) (by omega) Yz (by have:=H8.out;omega) (Ya (Ya hi.args M.out) E) D;have J:∀ x,g.A x->x<i.heap.size:=y.out.lt
 have CT:Hid (∀ f k,Below i.heap.size i f->i.heap.size<=k->QbU f (.slice (some ⟨k,0,none⟩) x.args.length x.args.length) d->Calls prog 172 #[Pv b 0,Iv a,.slice (some ⟨k,0,none⟩) x.args.length x.args.length] f fun e w'=>(e=.returned (Iv (R.e.getAt a p))/\(R.e.getCode a p=0/\WTo g i w' b most m (R.thinged a p d))/\Zk i f w')\/(∃ ch,e=.panicked ch/\(ch=QdE 6/\R.e.getCode a p≠0/\WTo g i w' b most m R))):=fun f k E hk hR=>by
  have W:g.ow k=0:=Xq.1 fun e=>by have:=J k e;omega
  have S6:=y.out.below E
  have HW:=hR.lin (O:=fun x=>g.ow x=0) (fun z hz=>by
   have:z=k:=by simpa[Value.ownBlock] using hz.symm
   rw[this];exact W)
  have:=QgZ S6 a ab.out (by have:=H8.out;omega) HW
  rw[aa.out] at this
  refine this.mono ?_;rintro e' w' (⟨o,rfl,g2,K,G,F,P⟩|⟨o,rfl,H⟩)
  ·exact .inl ⟨Yz,⟨o,WTo.then (y.out.stepB E) Yz Yz ⟨g2,K,G,F,P⟩⟩,G.zk J⟩
  ·exact .inr ⟨_,Yz,Yz,o,WTo.then (y.out.stepB E) Yz Yz H⟩
 have HL:=Qc hl;clear x2 x3 x4 x5 x6 q h C ej D hi h8 B hl;go_upto_region 16 with fail
 refine QnR (fun w h=>h.2.choose_spec.2.1.size) c3 T hj ck x7 CA CT (fun w w' h b=>by obtain⟨w5,Q,h6⟩:=h;exact⟨w5,Q,h6.trans (b.mono h6.size)⟩) _ _ Yz (Xg (by kernel_rfl)) Yz Yz Yz ?_ ?_
 ·rintro ch a' w9 V ⟨rfl,o,H⟩;exact⟨V,.inr ⟨R,6,by rw[N.out];unfold RM.thing;rw[Xr o],Yz,WTo.then U.out Yz Yz H⟩⟩
 ·rintro ac vs w9 s ⟨k,l,hk,L⟩ ⟨w5,⟨o,H⟩,h3⟩;show wpList _ ac _ [_] (QM _ vs [83,84,85,86,87,88,89,90,91,92,93,94,95,96,97,98]) w9;simp only[QM,Act.put,List.setIfInBounds_toArray,List.set_cons_zero,List.set_cons_succ,s,l]
  have E3:Hid (r=((R.thinged a p d).push [R.e.getAt a p]).nx):=by show _=_;rw[N.out];unfold RM.thing;rw[Xs o];rfl
  obtain⟨g2,K,G,F,P⟩:=H
  have C5:=Qc ((K.below h3).makesC L HL.out);rw[F] at C5
  have T5:=Qc (Xh (U.out.trans (G.trans (K.stepB h3))) (Xh F P));clear o s l L hk K G F P h3 CA CT c3 ck T x7 N;go_wp2_with fail
  refine C5.out.mono ?_;rintro e' w7 ⟨rfl,Q⟩;have Z:=Qc (WTo.then T5.out.1 T5.out.2.1 T5.out.2.2 Q);clear Q C5 x0;go_wp2
  exact Xz (v:=.tuple #[]) (by simp[results,results114,go_sem]) Yz (.inl ⟨_,E3.out,Yz,Z.out⟩)
theorem Qnj (S:WAt w b most m R g) (I:ROk m n R) (hn:n<=900000){x:Qs}(J:IP) (h:x.op=8) (f:RM.ins aOp R x=some r) :
 Calls prog 114 #[Pv b 0,Pv g.t.c 0,.agg (Zq x J)] w fun e w'=>Qdj g w b most m r e w':=by
 have B1:=Qc (ZO w (.cells (Zq x J) 78));have BX:=Qc (Qe w (Zq x J) 78);have l:=Qc (S.below B1.out);have V:=Qc (S.stepB B1.out);have hl:R.top.v.length+1<=1000000:=by have:=(I.fr R.top (by simp)).1;omega
 have ad:=I.out.1;have ac:=I.inp;clear S I;go_enter func114,ntmps114
 go_upto_region 1 with fail
 generalize w.alloc (.cells (Zq x J) 78)=z at B1 BX l V |-;generalize w.heap.size=X at BX |-;obtain⟨x0,T,x2,x3,x4,x5,x6,x7⟩:=Q7 BX.out
 rw[h] at x0
 obtain⟨a,o⟩:∃ a,iAt R.top.v x.a=some a:=by
  unfold RM.ins at f
  cases o:iAt R.top.v x.a with
  | none=>simp[h,o] at f
  | some a=>exact⟨a,Yz⟩
 obtain⟨y,B⟩:∃ y,iAt R.top.v x.b=some y:=by
  unfold RM.ins at f
  cases B:iAt R.top.v x.b with
  | none=>simp[h,o,B] at f
  | some y=>exact⟨y,Yz⟩
 have L:Hid (r=if 0<=y/\y<=15 then R.thing a (y+1) [y] else R.over 3):=by
  show _=_;unfold RM.ins at f;by_cases Q:0<=y/\y<=15
  ·simp[h,o,B,Q] at f;rw[Xs Q];exact f.symm
  ·simp only[h,o,B] at f;simp[Q] at f;rw[Xr Q];exact f.symm
 obtain⟨j,ri,-,c,ej,hj,U,ck⟩:=l.out.wordAt o
 obtain⟨q,ae,-,c',eq,hq,F,G⟩:=l.out.wordAt B
 rw[U] at F
 cases F
 rw[ej] at T
 rw[eq] at x2
 have aa:∀ x,g.A x->x<z.heap.size:=l.out.lt
 have CT:Hid (∀ O,Below z.heap.size z O->Calls prog 173 #[Pv b 0,Iv a,Iv y] O fun e w'=>(e=.returned (Iv (R.e.getAt a (y+1)))/\(r=((R.thinged a (y+1) [y]).push [R.e.getAt a (y+1)]).nx/\WTo g z w' b most m (R.thinged a (y+1) [y]))/\Zk z O w')\/(∃ ch,e=.panicked ch/\(∃ k,ch=QdE k/\r=R.over k/\WTo g z w' b most m R))):=fun O P=>by
  refine(Qg5 (l.out.below P) a y).mono ?_
  rintro e' w' (⟨K,p,⟨s,rfl,g2,E,D,C,M⟩|⟨s,rfl,u⟩⟩|⟨K,rfl,u⟩)
  ·exact .inl ⟨Yz,⟨by rw[L.out,Xs ⟨K,p⟩];unfold RM.thing;rw[Xs s];rfl,WTo.then (l.out.stepB P) Yz Yz ⟨g2,E,D,C,M⟩⟩,D.zk aa⟩
  ·exact .inr ⟨_,Yz,6,Yz,by rw[L.out,Xs ⟨K,p⟩];unfold RM.thing;rw[Xr s],WTo.then (l.out.stepB P) Yz Yz u⟩
  ·exact .inr ⟨_,Yz,3,Yz,by rw[L.out,Xr K],WTo.then (l.out.stepB P) Yz Yz u⟩
 have HL:=Qc hl;clear x3 x4 x5 x6 x7 f h o B ej eq hl;go_upto_region 18 with fail
 refine QnX (fun w h=>h.2.choose_spec.2.1.size) U T hj ck x2 hq G CT (fun w w' h b=>by obtain⟨w5,N,h6⟩:=h;exact⟨w5,N,h6.trans (b.mono h6.size)⟩) _ _ Yz (Xg (by kernel_rfl)) Yz Yz Yz ?_ ?_
 ·rintro ch a' w9 W ⟨k,rfl,p,s⟩;exact⟨W,.inr ⟨R,k,p,Yz,WTo.then V.out Yz Yz s⟩⟩
 ·rintro ab vs w9 i ⟨k,d,hk,H⟩ ⟨w5,⟨p,s⟩,u⟩;show wpList _ ab _ [_] (QM _ vs [102,103,104,105,106,107,108,109,110,111,112,113,114,115,116,117,118,119,120,121]) w9;simp only[QM,Act.put,List.setIfInBounds_toArray,List.set_cons_zero,List.set_cons_succ,i,d]
  have E3:=Qc p;obtain⟨g2,E,D,C,M⟩:=s
  have C5:=Qc ((E.below u).makesC H HL.out);rw[C] at C5
  have T5:=Qc (Xh (V.out.trans (D.trans (E.stepB u))) (Xh C M));clear p i d H hk E D C M u CT U ck G T x2 L;go_wp2_with fail
  refine C5.out.mono ?_;rintro e' w7 ⟨rfl,N⟩;have Z:=Qc (WTo.then T5.out.1 T5.out.2.1 T5.out.2.2 N);clear N C5 x0;go_wp2
  exact Xz (v:=.tuple #[]) (by simp[results,results114,go_sem]) Yz (.inl ⟨_,E3.out,Yz,Z.out⟩)
end
section
variable {w w' w2:World}{b most n:Nat}{m:List (MFunc 6)}{R R' r:RM}{g g1:WG}
theorem QmE (S:WAt w b most m R g) (I:ROk m n R) (hn:n<=900000){x:Qs}(p:IP) (h:x.op=6) (f:R.part x=some r) :
 Calls prog 177 #[Pv b 0,Pv g.t.c 0,.agg (Zq x p)] w fun e w'=>Qdj g w b most m r e w':=by
 obtain⟨a,l⟩:∃ a,iAt R.top.v x.a=some a:=by
  unfold RM.part at f
  cases l:iAt R.top.v x.a with
  | none=>simp[l] at f
  | some a=>exact⟨a,Yz⟩
 have q:=Qc (ZO w (.cells (Zq x p) 78));have u:=Qc (Qe w (Zq x p) 78);have i:=Qc (S.below q.out);have z:=Qc (S.stepB q.out);have E:R.top.v.length+1<=1000000:=by have:=(I.fr R.top (by simp)).1;omega
 clear S I;go_enter func177,ntmps177
 go_upto_region 1 with fail
 generalize w.alloc (.cells (Zq x p) 78)=y at q u i z |-;generalize w.heap.size=X at u |-;obtain⟨s,D,U,K,B,W,O,P⟩:=Q7 u.out
 rw[h] at s
 obtain⟨j,ri,-,c,H,V,L,Q⟩:=i.out.wordAt l
 rw[H] at D
 have T:Hid (r=(R.push [R.load (wrap64 (a+x.k))]).nx):=by show _=_;unfold RM.part at f;simp[h,l] at f;rw[<-f];rfl
 have HL:=Qc E;clear f h l H E U K W O P;obtain⟨G,d⟩:∃ G,R.top.v.length=G:=⟨_,Yz⟩
 rw[d] at *
 have aa:=Qc d;clear d;go_quiet (fail)
 have o:=Qai (Below.refl y.heap.size y) nq;have F:=Qc (i.out.below o);have N:=Qc (z.out.trans (i.out.stepB o));replace s:=Qk s o;replace B:=Qk B o;clear D L V Q i z q u;generalize y.drewN nq=w2 at *;clear o;have C:=Qc (QbG F.out (wrap64 (a+x.k)));go_wp2_with (go_at_call 220;refine C.out.mono ?_;rintro M w' ⟨rfl,A⟩;have A:=A.symm;subst A)
 refine(Qb2 F.out _ HL.out).mono ?_
 rintro M w5 ⟨rfl,J⟩;have Z:=Qc (WTo.then N.out Yz Yz J);clear J C s B;go_wp2
 exact Xz (v:=.tuple #[]) (by simp[results,results177,go_sem]) Yz (.inl ⟨_,T.out,Yz,Z.out⟩)
theorem QlU (S:WAt w b most m R g) (I:ROk m n R) (hn:n<=900000){x:Qs}(l:IP) (h:x.op=11) (f:R.part x=some r) :
 Calls prog 177 #[Pv b 0,Pv g.t.c 0,.agg (Zq x l)] w fun e w'=>Qdj g w b most m r e w':=by
 obtain⟨a,k⟩:∃ a,iAt R.top.v x.a=some a:=by
  unfold RM.part at f
  cases k:iAt R.top.v x.a with
  | none=>simp[k] at f
  | some a=>exact⟨a,Yz⟩
 have o:=Qc (ZO w (.cells (Zq x l) 78));have s:=Qc (Qe w (Zq x l) 78);have i:=Qc (S.below o.out);have y:=Qc (S.stepB o.out);have B:R.top.v.length+1<=1000000:=by have:=(I.fr R.top (by simp)).1;omega
 clear S I;go_enter func177,ntmps177
 go_upto_region 1 with fail
 generalize w.alloc (.cells (Zq x l) 78)=u at o s i y |-;generalize w.heap.size=X at s |-;obtain⟨p,A,Q,H,x4,U,M,N⟩:=Q7 s.out
 rw[h] at p
 obtain⟨j,ri,-,c,F,T,J,O⟩:=i.out.wordAt k
 rw[F] at A
 have P:Hid (r=(R.push [R.load a]).nx):=by show _=_;unfold RM.part at f;simp[h,k] at f;rw[<-f];rfl
 have V:=Qc B;clear f h k F B Q H x4 U M N;obtain⟨E,d⟩:∃ E,R.top.v.length=E:=⟨_,Yz⟩
 rw[d] at *
 have W:=Qc d;clear d;go_quiet (fail)
 have q:=Qai (Below.refl u.heap.size u) nq;have D:=Qc (i.out.below q);have L:=Qc (y.out.trans (i.out.stepB q));replace p:=Qk p q;clear A J T O i y o s;generalize u.drewN nq=w2 at *;clear q;have C:=Qc (QbG D.out a);go_wp2_with (go_at_call 220;refine C.out.mono ?_;rintro K w' ⟨rfl,z⟩;have z:=z.symm;subst z)
 refine(Qb2 D.out _ V.out).mono ?_
 rintro K w5 ⟨rfl,G⟩;have Z:=Qc (WTo.then L.out Yz Yz G);clear G C p;go_wp2
 exact Xz (v:=.tuple #[]) (by simp[results,results177,go_sem]) Yz (.inl ⟨_,P.out,Yz,Z.out⟩)
theorem QmX (S:WAt w b most m R g) (I:ROk m n R) (hn:n<=900000){x:Qs}(E:IP) (h:x.op=7) (l:R.part x=some r) :
 Calls prog 177 #[Pv b 0,Pv g.t.c 0,.agg (Zq x E)] w fun e w'=>Qdj g w b most m r e w':=by
 obtain⟨a,z⟩:∃ a,iAt R.top.v x.a=some a:=by
  unfold RM.part at l
  cases z:iAt R.top.v x.a with
  | none=>simp[z] at l
  | some a=>exact⟨a,Yz⟩
 have G:=Qc (ZO w (.cells (Zq x E) 78));have J:=Qc (Qe w (Zq x E) 78);have u:=Qc (S.below G.out);have L:=Qc (S.stepB G.out);have W:R.top.v.length+1<=1000000:=by have:=(I.fr R.top (by simp)).1;omega
 clear S I;go_enter func177,ntmps177
 go_upto_region 1 with fail
 generalize w.alloc (.cells (Zq x E) 78)=K at G J u L |-;generalize w.heap.size=X at J |-;obtain⟨N,T,H,x3,P,x5,x6,x7⟩:=Q7 J.out
 rw[h] at N
 obtain⟨j,ri,-,c,ej,hj,F,ck⟩:=u.out.wordAt z
 rw[ej] at T
 obtain⟨y,A⟩:∃ y,iAt R.top.v x.b=some y:=by
  unfold RM.part at l
  cases A:iAt R.top.v x.b with
  | none=>simp[h,z, A] at l
  | some y=>exact⟨y,Yz⟩
 obtain⟨q,ab,-,cq,eq,hq,D,d⟩:=u.out.wordAt A
 rw[F] at D
 cases D
 rw[eq] at H
 have E2:Hid (r=(R.stored (wrap64 (a+x.k)) y).nx):=by show _=_;unfold RM.part at l;simp[h,z,A] at l;rw[<-l];simp[RM.on,RM.nx]
 have aa:=Qc d;clear A eq;have HL:=Qc W;clear l h z ej W x3 x5 x6 x7;obtain⟨vl,s⟩:∃ vl,R.top.v.length=vl:=⟨_,Yz⟩
 rw[s] at *
 have ac:=Qc s;clear s;go_quiet (fail)
 have o:=Qai (Below.refl K.heap.size K) nq;have B:=Qc (u.out.below o);have U:=Qc (L.out.trans (u.out.stepB o));replace N:=Qk N o;replace H:=Qk H o;replace P:=Qk P o;replace F:=Qk F o;replace d:=Qk d o;clear T ck u L G J;generalize K.drewN nq=w2 at *;clear o;have V:=B.out.cellE;have qp:=B.out.cellP;go_upto_region 6 with fail
 refine wp6 V qp F P H hq d _ _ Yz (Xg (by kernel_rfl)) Yz Yz Yz Yz ?_;rintro O vs w5 p f i M;show wpList _ O _ [_] (QM _ vs [30,31,32,33,34,35,36,37,38,39,40,41,42,43,44,45,46,47,48]) w5;simp only[QM,Act.put,List.setIfInBounds_toArray,List.set_cons_zero,List.set_cons_succ,p,f,i]
 have Q:=Qc (B.out.below M);have T5:=Qc (U.out.trans (B.out.stepB M));clear p f i M B U;have C:=Qc (Q.out.storeC (wrap64 (a+x.k)) y);clear Q V qp;go_wp2_with (go_at_call 221;refine C.out.mono ?_;rintro e' w7 ⟨rfl,h7⟩;have Z:=Qc (WTo.then T5.out Yz Yz h7);clear h7 C)
 exact Xz (v:=.tuple #[]) (by simp[results,results177,go_sem]) Yz (.inl ⟨_,E2.out,Yz,Z.out⟩)
theorem Qmf (S:WAt w b most m R g) (I:ROk m n R) (hn:n<=900000){x:Qs}(K:IP) (h:x.op=9) (i:R.part x=some r) :
 Calls prog 177 #[Pv b 0,Pv g.t.c 0,.agg (Zq x K)] w fun e w'=>Qdj g w b most m r e w':=by
 obtain⟨a,u⟩:∃ a,iAt R.top.v x.a=some a:=by
  unfold RM.part at i
  cases u:iAt R.top.v x.a with
  | none=>simp[u] at i
  | some a=>exact⟨a,Yz⟩
 have M:=Qc (ZO w (.cells (Zq x K) 78));have T:=Qc (Qe w (Zq x K) 78);have C:=Qc (S.below M.out);have W:=Qc (S.stepB M.out);have hl:R.top.v.length+1<=1000000:=by have:=(I.fr R.top (by simp)).1;omega
 clear S I;go_enter func177,ntmps177
 go_upto_region 1 with fail
 generalize w.alloc (.cells (Zq x K) 78)=U at M T C W |-;generalize w.heap.size=X at T |-;obtain⟨O,x1,E,x3,x4,x5,x6,x7⟩:=Q7 T.out
 rw[h] at O
 obtain⟨j,ri,-,c,ej,hj,D,ck⟩:=C.out.wordAt u
 rw[ej] at x1
 obtain⟨y,B⟩:∃ y,iAt R.top.v x.b=some y:=by
  unfold RM.part at i
  cases B:iAt R.top.v x.b with
  | none=>simp[h,u, B] at i
  | some y=>exact⟨y,Yz⟩
 obtain⟨q,aa,-,cq,eq,hq,H,f⟩:=C.out.wordAt B
 rw[D] at H
 cases H
 rw[eq] at E
 have Q:Hid (r=if 0<=y/\y<R.load a then (R.push [R.load (wrap64 (wrap64 (a+1)+y))]).nx else R.over 2):=by
  show _=_;unfold RM.part at i;by_cases l:0<=y/\y<R.load a
  ·simp[h,u,B,l] at i;rw[Xs l,<-i];rfl
  ·simp only[h,u,B] at i;simp[l] at i;rw[Xr l];exact i.symm
 clear B eq;have HL:=Qc hl;clear i h u ej hl x3 x4 x5 x6 x7;obtain⟨vl,A⟩:∃ vl,R.top.v.length=vl:=⟨_,Yz⟩
 rw[A] at *
 have ab:=Qc A;clear A;go_quiet (fail)
 have z:=Qai (Below.refl U.heap.size U) nq;have p:=Qc (C.out.below z);have T2:=Qc (W.out.trans (C.out.stepB z));replace O:=Qk O z;replace E:=Qk E z;replace D:=Qk D z;replace f:=Qk f z;clear x1 ck C W M T;generalize U.drewN nq=P at *;clear z;have q0:=p.out.cellE;have qp:=p.out.cellP;have CE:Hid (∀ o,Below P.heap.size P o->Calls prog 222 #[Pv b 0,Iv a,Iv y] o fun e w'=>Qk9 R a y e/\w'=o):=fun o bx=>Qci (p.out.below bx) a y;have CW:Hid (∀ o k,Below P.heap.size P o->Calls prog 220 #[Pv b 0,Iv k] o fun e w'=>e=.returned (Iv (R.load k))/\w'=o):=fun o k bx=>QbG (p.out.below bx) k;clear q0 qp;by_cases l:0<=y/\y<R.load a
 ·have E3:Hid (r=(R.push [R.load (wrap64 (wrap64 (a+1)+y))]).nx):=by show _=_;rw[Q.out,Xs l]
  have V:=Qc l;clear l Q;go_upto_region 8 with fail
  refine wp8 D E hq f CE CW _ _ Yz (Xg (by kernel_rfl)) Yz Yz Yz Yz ?_ ?_
  ·rintro ch a' w9 G ⟨-,L,-⟩;exact absurd V.out L
  ·rintro J vs w5 d - ⟨k,s,hk,F⟩ N;show wpList _ J _ [_] (QM _ vs [52,53,54,55,56,57,58,59,60,61,62,63,64,65,66]) w5;simp only[QM,Act.put,List.setIfInBounds_toArray,List.set_cons_zero,List.set_cons_succ,d,s]
   have C5:=Qc ((p.out.below N).makesC F HL.out);have T5:=Qc (T2.out.trans (p.out.stepB N));clear d s N p T2 CE CW D E f F hk hq;go_wp2_with fail
   refine C5.out.mono ?_;rintro e' w7 ⟨rfl,h7⟩;have Z:=Qc (WTo.then T5.out Yz Yz h7);clear h7 C5 O;go_wp2
   exact Xz (v:=.tuple #[]) (by simp[results,results177,go_sem]) Yz (.inl ⟨_,E3.out,Yz,Z.out⟩)
 ·have E3:Hid (r=R.over 2):=by show _=_;rw[Q.out,Xr l]
  have V:Hid (¬ (0<=y/\y<R.load a)):=l;clear l Q;go_upto_region 8 with fail
  refine wp8 D E hq f CE CW _ _ Yz (Xg (by kernel_rfl)) Yz Yz Yz Yz ?_ ?_
  ·rintro ch a' w9 G ⟨rfl,L,b9⟩;exact⟨G,.inr ⟨R,2,E3.out,Yz,WTo.then T2.out Yz Yz (WTo.same p.out b9)⟩⟩
  ·rintro J vs w5 d ⟨L,-⟩ _ N;exact absurd L V.out
theorem QlC (S:WAt w b most m R g) (I:ROk m n R) (hn:n<=900000){x:Qs}(P:IP) (h:x.op=10) (d:R.part x=some r) :
 Calls prog 177 #[Pv b 0,Pv g.t.c 0,.agg (Zq x P)] w fun e w'=>Qdj g w b most m r e w':=by
 obtain⟨a,p⟩:∃ a,iAt R.top.v x.a=some a:=by
  unfold RM.part at d
  cases p:iAt R.top.v x.a with
  | none=>simp[p] at d
  | some a=>exact⟨a,Yz⟩
 have T:=Qc (ZO w (.cells (Zq x P) 78));have BX:=Qc (Qe w (Zq x P) 78);have D:=Qc (S.below T.out);have T1:=Qc (S.stepB T.out);have hl:R.top.v.length+1<=1000000:=by have:=(I.fr R.top (by simp)).1;omega
 clear S I;go_enter func177,ntmps177
 go_upto_region 1 with fail
 generalize w.alloc (.cells (Zq x P) 78)=w1 at T BX D T1 |-;generalize w.heap.size=X at BX |-;obtain⟨x0,x1,J,H,x4,x5,x6,x7⟩:=Q7 BX.out
 rw[h] at x0
 obtain⟨j,ri,-,c,ej,hj,E,ck⟩:=D.out.wordAt p
 rw[ej] at x1
 obtain⟨y,B⟩:∃ y,iAt R.top.v x.b=some y:=by
  unfold RM.part at d
  cases B:iAt R.top.v x.b with
  | none=>simp[h,p, B] at d
  | some y=>exact⟨y,Yz⟩
 obtain⟨q,ab,-,cq,eq,hq,N,k⟩:=D.out.wordAt B
 rw[E] at N
 cases N
 rw[eq] at J
 obtain⟨z,K⟩:∃ z,iAt R.top.v x.c=some z:=by
  unfold RM.part at d
  cases K:iAt R.top.v x.c with
  | none=>simp[h,p,B,K] at d
  | some z=>exact⟨z,Yz⟩
 obtain⟨s,aa,-,cs,es,hs,M,i⟩:=D.out.wordAt K
 rw[E] at M
 cases M
 rw[es] at H
 have V:Hid (r=if 0<=y/\y<R.load a then (R.stored (wrap64 (wrap64 (a+1)+y)) z).nx else R.over 2):=by
  show _=_;unfold RM.part at d;by_cases l:0<=y/\y<R.load a
  ·simp[h,p,B,K,l] at d;rw[Xs l,<-d];simp[RM.on,RM.nx]
  ·simp only[h,p,B,K] at d;simp[l] at d;rw[Xr l];exact d.symm
 clear B eq K es;have HL:=Qc hl;clear d h p ej hl x4 x5 x6 x7;obtain⟨vl,G⟩:∃ vl,R.top.v.length=vl:=⟨_,Yz⟩
 rw[G] at *
 have ac:=Qc G;clear G;go_quiet (fail)
 have o:=Qai (Below.refl w1.heap.size w1) nq;have F:=Qc (D.out.below o);have T2:=Qc (T1.out.trans (D.out.stepB o));replace x0:=Qk x0 o;replace J:=Qk J o;replace H:=Qk H o;replace E:=Qk E o;replace k:=Qk k o;replace i:=Qk i o;clear x1 ck D T1 T BX;generalize w1.drewN nq=w2 at *;clear o;have q0:=F.out.cellE;have qp:=F.out.cellP;have CE:Hid (∀ W,Below w2.heap.size w2 W->Calls prog 222 #[Pv b 0,Iv a,Iv y] W fun e w'=>Qk9 R a y e/\w'=W):=fun W bx=>Qci (F.out.below bx) a y;by_cases l:0<=y/\y<R.load a
 ·have E3:Hid (r=(R.stored (wrap64 (wrap64 (a+1)+y)) z).nx):=by show _=_;rw[V.out,Xs l]
  have HC:=Qc l;clear l V;go_upto_region 10 with fail
  refine QnM q0 qp E J hq k H hs i CE _ _ Yz (Xg (by kernel_rfl)) Yz Yz Yz Yz ?_ ?_
  ·rintro ch a' w9 L ⟨-,Q,-⟩;exact absurd HC.out Q
  ·rintro O vs w5 f ⟨-,u⟩ A U;show wpList _ O _ [_] (QM _ vs [70,71,72,73,74,75,76,77,78,79,80,81,82,83,84,85,86,87,88,89,90,91,92,93,94,95]) w5;simp only[QM,Act.put,List.setIfInBounds_toArray,List.set_cons_zero,List.set_cons_succ,f,u,A]
   have S5:=Qc (F.out.below U);have T5:=Qc (T2.out.trans (F.out.stepB U));clear f u A U F T2 CE E J H k i hq hs;have C:=Qc (S5.out.storeC (wrap64 (wrap64 (a+1)+y)) z);clear S5 q0 qp;go_wp2_with (go_at_call 221;refine C.out.mono ?_;rintro e' w7 ⟨rfl,h7⟩;have Z:=Qc (WTo.then T5.out Yz Yz h7);clear h7 C)
   exact Xz (v:=.tuple #[]) (by simp[results,results177,go_sem]) Yz (.inl ⟨_,E3.out,Yz,Z.out⟩)
 ·have E3:Hid (r=R.over 2):=by show _=_;rw[V.out,Xr l]
  have HC:Hid (¬ (0<=y/\y<R.load a)):=l;clear l V;go_upto_region 10 with fail
  refine QnM q0 qp E J hq k H hs i CE _ _ Yz (Xg (by kernel_rfl)) Yz Yz Yz Yz ?_ ?_
  ·rintro ch a' w9 L ⟨rfl,Q,b9⟩;exact⟨L,.inr ⟨R,2,E3.out,Yz,WTo.then T2.out Yz Yz (WTo.same F.out b9)⟩⟩
  ·rintro O vs w5 f ⟨Q,-⟩ _ U;exact absurd Q HC.out
end
section
variable {w w' w2:World}{b most n:Nat}{m:List (MFunc 6)}{R R' r:RM}{g g1:WG}
def Qm4 (g:WG) (w:World) (b most:Nat) (m:List (MFunc 6)) (R:RM) (f:Nat) (xs:List Int) (e:Ending) (w':World):Prop :=
 (R.rest.length+1<40/\e=.returned (.tuple #[])/\∃ g',WAt w' b most m { R with top:=⟨f,0,0,xs⟩,rest:=R.top::R.rest } g'/\WSt g g' w w'/\g'.fs=g.t::g.fs)\/(¬ R.rest.length+1<40/\e=.panicked (QdE 5)/\WTo g w w' b most m R)
theorem Qjg (S:WAt w b most m R g) (I:ROk m n R) (hn:n<=900000){x:Qs}(q:IP){Q2:Nat->Prop}(hi:IIn w Q2 x q) (h8:x.args.length<=8)(hf:x.k=(f:Int))(O:R.rest.length+1<40->QaA R.top.v x.args=some xs) :
 Calls prog 176 #[Pv b 0,Pv g.t.c 0,.agg (Zq x q)] w fun e w'=>Qm4 g w b most m R f xs e w':=by
 have P:=Qc (ZO w (.cells (Zq x q) 78));have BX:=Qc (Qe w (Zq x q) 78);have d:=Qc (S.below P.out);have M:=Qc (S.stepB P.out);have hl:R.top.v.length+1<=1000000:=by have:=(I.fr R.top (by simp)).1;omega
 have H:=I.deep;have U:=Qc (Ya hi.args P.out);clear S I hi;go_enter func176,ntmps176
 go_upto_region 1 with fail
 generalize w.alloc (.cells (Zq x q) 78)=z at P BX d M U |-;generalize w.heap.size=X at BX |-;obtain⟨x0,x1,x2,x3,x4,x5,x6,x7⟩:=Q7 BX.out
 rw[hf] at x4
 clear x0 x1 x2 x3 x5 x6;obtain⟨A,dc,B,o,-⟩:=d.out.callsForm
 have J:z.cell? ⟨b,4,none⟩=some g.vc:=Qb d.out.box 4 _ Z;rw[B] at J
 by_cases i:R.rest.length+1<40
 ·have d0:decide (((R.rest.length+1:Nat):Int)<40)=true:=Xt (by omega);have O:=O i;have r:=Qc i
  have HR:Hid (∀ p,Below z.heap.size z p->p.ownsRow 0 130 1 (.slice (some ⟨A,0,none⟩) (R.rest.length+1) dc) (R.rest.length+1) (Qaq (g.t::g.fs))):=fun p T=>by
   have:=(d.out.below T).calls
   rwa [B] at this
  have CB:Hid (∀ p,Below z.heap.size z p->Calls prog 216 #[Pv g.t.c 0,Iv (f:Int),Iv 0,.slice q.pA x.args.length q.cA] p fun e w'=>QmN p ⟨f,0,0,xs⟩ e w'):=fun p T=>QdS (d.out.top.below T) (by omega) Z (by omega) (Ya U.out T) O f 0;have ab:A<z.heap.size:=XC (ZU d.out.calls (x:=A) (by rw[B];rfl)).choose_spec;have y:Hid (g.vc.ownBlock=some A):=by show _=_;rw[B];rfl
  have D:R.rest.length+1<=100:=by omega
  obtain⟨F,a⟩:∃ F,R.rest.length+1=F:=⟨_,Z⟩
  have W:=Qc a;rw[a] at J d0 HR D
  clear O i U B o H hl a h8;go_upto_region 2 with (go_at_call 111;refine(QaH _ _).mono ?_;rintro e' w' ⟨rfl,E⟩;have E:=E.symm;subst E)
  refine wc2 HR ab D J x4 x7 CB (fun w w' h b=>Zt h b.size) _ _ Z (Xg (by kernel_rfl)) Z Z Z ?_ ?_
  ·rintro ch a' w9 ac ⟨⟩
  ·rintro aa vs w9 ⟨w5,c5,x5,n5,Q,L,C,F5,N,V,r3⟩ l G;obtain⟨v9,j⟩:∃ v9,vs 25=v9:=⟨_,Z⟩
   rw[j] at N r3
   show wpList _ aa _ [_] (QM _ vs [13,14,15,16,17,18,19,20,21,22,23,24,25,26,27]) w9;simp only[QM,Act.put,List.setIfInBounds_toArray,List.set_cons_zero,List.set_cons_succ,j,l]
   have u:=d.out.pushFr Q F5 L C (v9:=v9) (w9:=w9) (by rw[W.out];exact N) (by rw[y.out];exact V) (fun k hk=>by rw[y.out];exact(r3 k hk).imp (fun e=>by rw[e]) id)
   have u:Hid (Qm4 g w b most m R f xs (.returned (.tuple #[])) (w9.setCell ⟨b,4,none⟩ v9)):=by
    obtain⟨g',A',S',E'⟩:=u
    exact .inl ⟨r.out,Z,g',A',M.out.trans S',E'⟩
   have K:A≠b:=fun e=>by
    have h1:=d.out.oc A y.out;rw[e,d.out.ob] at h1
    omega
   have s:w9.heap[b]?=_:=(V.block b (by have:=XC d.out.box;have:=Q.size;omega) (fun e=>K (by simpa using e.symm))).trans ((Q.block b (XC d.out.box)).trans d.out.box);have c9:w9.cell? ⟨b,4,none⟩=some g.vc:=Qb s 4 _ Z;have z9:=Qj s 4;obtain⟨a9,d9,rfl⟩:=QaR N
   clear j l N V r3 s K F5 Q L C CB HR J x4 x7 d M G;go_wp2
   exact Xz (v:=.tuple #[]) (by simp[results,results176,go_sem]) Z u.out
 ·have d0:decide (((R.rest.length+1:Nat):Int)<40)=false:=Xu (by omega);have r:Hid (¬ R.rest.length+1<40):=i;clear i U o H hl B h8;obtain⟨F,a⟩:∃ F,R.rest.length+1=F:=⟨_,Z⟩
  rw[a] at J d0
  clear a;go_wp2_with fail
  refine(Z7 _ _).mono ?_
  rintro e' w' ⟨rfl,E⟩;subst E;exact⟨Z,.inr ⟨r.out,Z,WTo.then M.out Z Z (WTo.same d.out Zr)⟩⟩
end
def Qof (b gc k cap:Nat) (t:Tmp) (v:Value) (w:World):Prop :=
 v=(([(0,Pv b 0),(13,Pv b 0),(14,Pv b 0),(15,Pv b 0),(16,Pv b 4),(17,.slice (some ⟨gc,0,none⟩) (k+1) cap),(18,Pv b 0),(19,Pv b 0),(20,Pv b 4),(21,.slice (some ⟨gc,0,none⟩) (k+1) cap),(22,Iv ((k:Int)+1)),(23,Iv (k:Int)),(24,.slice (some ⟨gc,0,none⟩) k cap),(25,Pv b 0),(26,Pv b 4)]:List (Tmp × Value)).lookup t).getD undef
theorem wg2 {b g:Nat}(l:w6.cell? ⟨b,4,none⟩=some (.slice (some ⟨g,0,none⟩) (k+1) cap)) (d:k+1<=cap) (s:k<=1000){Q:Exit->Act->World->Prop}
 (a:Act) (m:Nat) (p:a.tmps.size=m) (i:31<=m) (r:a.tmps.getD 0 undef=Pv b 0)
 (hend:∀ ops vs w',vs 24=.slice (some ⟨g,0,none⟩) k cap->vs 26=Pv b 4->Below w6.heap.size w6 w'->wpList prog ops Q (Qam 14 ((Tryz.f166.body.bind (Qi 2)).getD .skip)) (QM a vs [13,14,15,16,17,18,19,20,21,22,23,24,25,26]) w') :
 Code.wp prog ((Tryz.f166.body.bind (Qi 2)).getD .skip) Q a w6:=by
 conv=>arg 2;whnf
 refine Qg 14 (Qof b g k cap) (fun w=>Below w6.heap.size w6 w) (fun w w'=>Below w.heap.size w w') (outs:=[0]) (gs:=[]) (bs:=[true,true,true,true,true,true,true,true,true,true,true,true,true,true]) (by kernel_rfl) (n:=31) p i (by kernel_rfl) (by kernel_rfl) ?hR ?hG (QI Zr 1) ⟨r,Y⟩ ?hA ?hend
 case hR=>exact fun t v w w' _ h=>h
 case hG=>exact Y
 case hend=>exact fun ops vs w' e d=>hend ops vs w' (d 24 (by kernel_rfl)) (d 26 (by kernel_rfl)) e
 case hA =>
  refine⟨fun a w e d K f=>?_,?_⟩
  ·obtain⟨c,-⟩:=d
   have c:a.tmps.getD 0 undef=Pv b 0:=c;go_simp;exact f _ _ Zr e Z
  refine⟨fun a w e d K f=>?_,?_⟩
  ·obtain⟨c,-⟩:=d
   have c:a.tmps.getD 0 undef=Pv b 0:=c;go_simp;exact f _ _ Zr e Z
  refine⟨fun a w e d K f=>?_,?_⟩
  ·obtain⟨c,-⟩:=d
   have c:a.tmps.getD 14 undef=Pv b 0:=c;go_simp;exact f _ _ Zr e Z
  refine⟨fun a w e d K f=>?_,?_⟩
  ·obtain⟨c,-⟩:=d
   have c:a.tmps.getD 15 undef=Pv b 0:=c;go_simp;exact f _ _ Zr e Z
  refine⟨fun a w e d K f=>?_,?_⟩
  ·obtain⟨c,-⟩:=d
   have c:a.tmps.getD 16 undef=Pv b 4:=c;have u:=Qk l e;go_simp;exact f _ _ Zr e Z
  refine⟨fun a w e d K f=>?_,?_⟩
  ·obtain⟨c,-⟩:=d
   have c:a.tmps.getD 0 undef=Pv b 0:=c;go_simp;exact f _ _ Zr e Z
  refine⟨fun a w e d K f=>?_,?_⟩
  ·obtain⟨c,-⟩:=d
   have c:a.tmps.getD 18 undef=Pv b 0:=c;go_simp;exact f _ _ Zr e Z
  refine⟨fun a w e d K f=>?_,?_⟩
  ·obtain⟨c,-⟩:=d
   have c:a.tmps.getD 19 undef=Pv b 0:=c;go_simp;exact f _ _ Zr e Z
  refine⟨fun a w e d K f=>?_,?_⟩
  ·obtain⟨c,-⟩:=d
   have c:a.tmps.getD 20 undef=Pv b 4:=c;have u:=Qk l e;go_simp;exact f _ _ Zr e Z
  refine⟨fun a w e d K f=>?_,?_⟩
  ·obtain⟨c,-⟩:=d
   have c:a.tmps.getD 21 undef=.slice (some ⟨g,0,none⟩) (k+1) cap:=c;go_simp;exact f _ _ Zr e Z
  refine⟨fun a w e d K f=>?_,?_⟩
  ·obtain⟨c,-⟩:=d
   have c:a.tmps.getD 22 undef=Iv ((k:Int)+1):=c;have x:(k:Int)+1 - 1=k:=by omega
   go_simp;refine f _ _ Zr e ?_;show Value.int _ _=Value.int _ _;congr 1
   rw[IntKind.wrap_i64]
   omega
  refine⟨fun a w e d K f=>?_,?_⟩
  ·obtain⟨c,j,-⟩:=d
   have c:a.tmps.getD 17 undef=.slice (some ⟨g,0,none⟩) (k+1) cap:=c;have j:a.tmps.getD 23 undef=Iv (k:Int):=j;have q:(0:Int)<=k:=by omega
   have o:(k:Int)<=cap:=by omega
   go_simp;exact f _ _ Zr e Z
  refine⟨fun a w e d K f=>?_,?_⟩
  ·obtain⟨c,-⟩:=d
   have c:a.tmps.getD 13 undef=Pv b 0:=c;go_simp;exact f _ _ Zr e Z
  refine⟨fun a w e d K f=>?_,?_⟩
  ·obtain⟨c,-⟩:=d
   have c:a.tmps.getD 25 undef=Pv b 0:=c;go_simp;exact f _ _ Zr e Z
  trivial
def QjH (g:WG) (w:World) (b most:Nat) (m:List (MFunc 6)) (r:RM) (e:Ending) (w':World):Prop :=
 (e=.returned (.tuple #[])/\WGo g w w' b most m r)\/(∃ N k,r=N.over k/\e=.panicked (QdE k)/\WTo g w w' b most m N)
def RM.gave (R:RM) (l:List Int):RM:=match R.rest with
 | []=>{ R with done:=true,fin:=0,back:=l }
 | d::rest=>{ R with top:={ d with v:=d.v++l },rest:=rest }
section
variable {w w' w2:World}{b most n:Nat}{m:List (MFunc 6)}{R R' r:RM}{g g1:WG}
theorem QjH.then {e:Ending}(T:WSt g g1 w w2) (h:g1.t.c=g.t.c) (f:g1.fs=g.fs) (H:QjH g1 w2 b most m r e w'):QjH g w b most m r e w':=by
 rcases H with ⟨a,d⟩|⟨N,k,a,c,d⟩
 ·exact .inl ⟨a,WGo.then T d⟩
 ·exact .inr ⟨N,k,a,c,WTo.then T h f d⟩
theorem QbU.news {n:Nat}(h:QbU w (.slice (some ⟨k,0,none⟩) n c) xs):∀ (j:Nat) (u:Value),(xs.map (Value.int .i64))[j]?=some u->w.cell? ((⟨k,0,none⟩:Addr).add j)=some u:=fun j u d=>by
 rw[XS] at d
 obtain⟨y,b,rfl⟩:=Option.map_eq_some_iff.1 d
 have f:=(Zi b).1;obtain⟨a,o,e,m⟩:=h.cell
 obtain⟨l,i,-,g⟩:=m j f
 rw[Value.slice.injEq] at e
 have:l=k:=by have:=e.1.trans i;simpa using this.symm
 subst this;rw[Addr.add_lit,XK,g]
 simp[List.getD,b]
theorem Qh2 (S:WAt w b most m R g){n:Nat}(i:xs.length=n) (c:QbU w (.slice (some ⟨k,0,none⟩) n n) xs) (a:g.ow k=0/\g.lo<=k) :
 Calls prog 215 #[Pv b 0,.slice (some ⟨k,0,none⟩) n n] w fun e w'=>e=.panicked (QdE 0)/\WTo g w w' b most m { R with back:=xs }:=by
 have j:w.cell? ⟨b,6,none⟩=some g.vb:=Qb S.box 6 _ Yz;have o:=Qj S.box 6;obtain⟨p,l,d,-⟩:=S.back
 have Z:Hid (WTo g w (w.setCell ⟨b,6,none⟩ (.slice (some ⟨k,0,none⟩) n n)) b most m { R with back:=xs }):=by
  subst i;refine S.reBox (R':={ R with back:=xs }) Yz Yz Yz (by simp) (fun k a h=>Xd _ _ _ _ h) ⟨Yz,Yz,Yz,Yz⟩ (pi:=g.pi) (ci:=g.ci) (vb:=.slice (some ⟨k,0,none⟩) xs.length xs.length) ⟨S.inp,S.inpC⟩ (c.lin (fun x f=>?_)) ?_
  ·have:x=k:=by simpa[Value.ownBlock] using f.symm
   rw[this];exact a
  ·rw[Qh S.box 6 _]
   simp
 rw[d] at j
 clear S c a d;go_enter func215,ntmps215
 go_wp2
 exact⟨Yz,Yz,Z.out⟩
theorem Qif (S:WAt w b most m R g) (hd:R.rest.length<=39) (B:∀ d∈R.rest,d.v.length+8<=1000000){n:Nat}(hn:xs.length=n) (h8:n<=8) (H:QbU w (.slice (some ⟨k,0,none⟩) n n) xs) (J:g.ow k=0/\g.lo<=k) :
 Calls prog 166 #[Pv b 0,.slice (some ⟨k,0,none⟩) n n] w fun e w'=>QjH g w b most m (R.gave xs) e w':=by
 obtain⟨U,cap,M,h,-⟩:=S.callsForm
 have z:w.cell? ⟨b,4,none⟩=some g.vc:=Qb S.box 4 _ Yz;rw[M] at z
 have I:=Qc S
 cases hrest:R.rest with
 | nil =>
   have C:=Qc (Qh2 S hn H J);have V:Hid (R.gave xs=RM.over { R with back:=xs } 0):=by show _=_;unfold RM.gave RM.over;rw[hrest]
   rw[hrest] at z
   clear S H J hrest h M;go_enter func166,ntmps166
   go_wp2_with fail
   refine C.out.mono ?_;rintro e' w5 ⟨rfl,h5⟩;exact⟨Yz,.inr ⟨_,0,V.out,Yz,h5⟩⟩
 | cons d rest =>
   have V:Hid (R.gave xs=RM.push { R with top:=d,rest:=rest } xs):=by show _=_;unfold RM.gave RM.push;rw[hrest]
   have q:R.rest.length=rest.length+1:=by rw[hrest];simp
   have u:(((R.rest.length+1:Nat):Int)==1)=false:=by simp;omega
   have ab:=B d (by rw[hrest];simp);have r:=Qc hrest;have D:=Qc M;have HR:=Qc H;have HK:=Qc J;clear hrest S H J B M;obtain⟨O,o⟩:∃ O,R.rest.length=O:=⟨_,Yz⟩
   rw[o] at z h u hd
   have s:=Qc o;have W:=Qc q;clear q o;go_enter func166,ntmps166
   go_upto_region 2 with fail
   refine wg2 z h (by omega) _ _ Yz (Xg (by kernel_rfl)) Yz ?_;rintro aa Q N j l F;show wpList _ aa _ [_] (QM _ Q [13,14,15,16,17,18,19,20,21,22,23,24,25,26]) N;simp only[QM,Act.put,List.setIfInBounds_toArray,List.set_cons_zero,List.set_cons_succ,j,l]
   have L:=Qc (I.out.below F);have c4:N.cell? ⟨b,4,none⟩=some g.vc:=Qb L.out.box 4 _ Yz;have z4:=Qj L.out.box 4;rw[D.out] at c4
   have i:∃ y P,g.fs=y::P:=by
    have:=I.out.rows
    rw[r.out] at this
    cases hh:g.fs with
    | nil=>rw[hh] at this;simp at this
    | cons y P=>exact⟨y,P,Yz⟩
   obtain⟨y,P,i⟩:=i
   have PP:=L.out.pop i r.out (a:=some ⟨U,0,none⟩) (cap:=cap) D.out;rw[s.out] at PP
   obtain⟨g8,p,E,t8⟩:=PP
   have p:=Qc p;have E:=Qc ((I.out.stepB F).trans E)
   have f:Hid (QbU (N.setCell ⟨b,4,none⟩ (.slice (some ⟨U,0,none⟩) O cap)) (.slice (some ⟨k,0,none⟩) n n) xs):=QZ HR.out (fun x G=>by
    have e:x=k:=by simpa[Value.ownBlock] using G.symm
    rw[Xd _ _ _ _ (fun (e2:x=b)=>by have h1:=I.out.ob;rw[<-e2,e,HK.out.1] at h1;omega)]
    exact F.block x (HR.out.lt G))
   clear j l F L z t8 i;go_upto_region 3 with fail
   generalize N.setCell ⟨b,4,none⟩ (.slice (some ⟨U,0,none⟩) O cap)=w8 at p E f |-;have CT:=Qc (Qgs p.out (by show rest.length<=1000;have:=W.out;have:=s.out;omega))
   have CM:Hid (∀ K,Below w8.heap.size w8 K->Calls prog 169 #[Pv g8.t.c 0,.slice (some ⟨k,0,none⟩) n n] K fun e w'=>e=.returned (.tuple #[])/\WTo g8 K w' b most m (RM.push { R with top:=d,rest:=rest } xs)):=fun K bx =>
    QbY (p.out.below bx) hn (QbU.news (QZ f.out (fun x G=>bx.block x (QbU.lt f.out G)))) (by show d.v.length+n<=1000000;omega)
   clear c4 z4;go_wp2_with (go_at_call 112;refine CT.out.mono ?_;rintro e' w9 ⟨rfl,X⟩)
   refine(CM.out w9 X).mono ?_
   rintro e' T ⟨rfl,A⟩;have Z:Hid (WGo g w T b most m (RM.push { R with top:=d,rest:=rest } xs)):=WGo.then (E.out.trans (p.out.stepB X)) A.go;clear A CM CT X;go_wp2
   exact Xz (v:=.tuple #[]) (by simp[results,results166,go_sem]) Yz (by rw[V.out];exact .inl ⟨Yz,Z.out⟩)
end
section
variable {w w' w2:World}{b most n:Nat}{m:List (MFunc 6)}{R R' r:RM}{g g1:WG}
theorem QlD {t:MTo}(h:R.to t=some r):∃ l,QaA R.top.v t.args=some l/\r={ R with top:=⟨R.top.f,t.block.toNat,0,l⟩ }:=by
 unfold RM.to at h
 cases hl:QaA R.top.v t.args with
 | none=>rw[hl] at h;cases h
 | some l=>rw[hl] at h;cases h;exact⟨l,Z,Z⟩
theorem Qki (S:WAt w b most m R g) (I:ROk m n R) (hn:n<=900000){p:Nat}{x:ZA}{i:EP}{Q2:Nat->Prop}(EI:EIn w Q2 x i) (hx:x.form p=0) (f:R.endd x=some r) :
 Calls prog 113 #[Pv b 0,Pv g.t.c 0,.agg (QbW x i)] w fun e w'=>QjH g w b most m r e w':=by
 obtain⟨ag,ae,K,aa⟩:=Qez hx
 have M:=Qc (ZO w (.cells (QbW x i) 84));have z:=Qc (Qe w (QbW x i) 84);have Q:=Qc (S.below M.out);have T1:=Qc (S.stepB M.out);have hl:R.top.v.length+1<=1000000:=by have:=(I.fr R.top (by simp)).1;omega
 have ad:=I.deep;have ac:Hid (∀ d∈R.rest,d.v.length+8<=1000000):=fun d hd=>by have:=(I.fr d (List.mem_cons_of_mem _ hd)).1;omega
 have P:Hid (∀ (t:MTo) (pr pa:Option Addr) (cr ca:Nat) (r':RM) q,t.form p true=0->QhB w Q2 t pr cr pa ca->Below w.heap.size w q->R.to t=some r'->Calls prog 168 #[Pv g.t.c 0,.agg #[Iv t.block,.slice pr t.regs.length cr,.slice pa t.args.length ca]] q fun e w'=>e=.returned (.tuple #[])/\QjH g w b most m r' (.returned (.tuple #[])) w'):=fun t pr pa cr ca r' q ht hi s he=>by
  obtain⟨l,W,rfl⟩:=QlD he
  obtain⟨J,B,h4,G⟩:=Qer ht
  obtain⟨bi,ab⟩:=Xc J
  refine(QiM (S.below s) (by omega) ab (Ya hi.args s) (by omega) W).mono ?_
  rintro e w' ⟨rfl,h⟩;exact⟨Yz,.inl ⟨Yz,(WTo.then (S.stepB s) Yz Yz h).go⟩⟩
 have o:=Qc EI;have L:=Qc (Xh K aa);have CA:Hid (∀ q H,QaA R.top.v x.args=some H->Below w.heap.size w q->Calls prog 167 #[Pv g.t.c 0,.slice i.pA x.args.length i.cA] q fun e w'=>Qm2 q H x.args.length e w'):=fun q H h s=>Qd7 (S.top.below s) (by omega) Yz (by omega) (Ya EI.args s) h;have HS:=Qc S;clear S I EI hx K aa;go_enter func113,ntmps113
 go_upto_region 2 with fail
 generalize w.alloc (.cells (QbW x i) 84)=A at M z Q T1 |-;generalize w.heap.size=X at z |-;have O:A.cell? ⟨X,0,none⟩=some (Iv x.op):=Qb z.out 0 _ Yz;have U:A.cell? ⟨X,1,none⟩=some (Iv x.a):=Qb z.out 1 _ Yz;have x2:A.cell? ⟨X,2,none⟩=some (Iv x.yes.block):=Qb z.out 2 _ Yz;have x3:A.cell? ⟨X,3,none⟩=some (.slice i.pYR x.yes.regs.length i.cYR):=Qb z.out 3 _ Yz;have x4:A.cell? ⟨X,4,none⟩=some (.slice i.pYA x.yes.args.length i.cYA):=Qb z.out 4 _ Yz;have x5:A.cell? ⟨X,5,none⟩=some (Iv x.no.block):=Qb z.out 5 _ Yz;have x6:A.cell? ⟨X,6,none⟩=some (.slice i.pNR x.no.regs.length i.cNR):=Qb z.out 6 _ Yz;have x7:A.cell? ⟨X,7,none⟩=some (.slice i.pNA x.no.args.length i.cNA):=Qb z.out 7 _ Yz;have x8:A.cell? ⟨X,8,none⟩=some (.slice i.pA x.args.length i.cA):=Qb z.out 8 _ Yz;by_cases D:x.op=3
 ·obtain⟨H,E⟩:∃ H,QaA R.top.v x.args=some H:=by
   unfold RM.endd at f
   cases hl:QaA R.top.v x.args with
   | none=>simp[D,hl] at f
   | some l=>exact⟨l,Yz⟩
  have u:Hid (r=R.gave H):=by
   show _=_;unfold RM.endd at f;simp[D,E] at f
   unfold RM.gave
   cases hrest:R.rest with
   | nil=>rw[hrest] at f;simp at f;rw[<-f]
   | cons d rest=>rw[hrest] at f;simp at f;rw[<-f]
  have C:=Qc (CA.out A H E M.out);have af:Hid (H.length=x.args.length):=Qag E;rw[D] at O
  clear P CA U x2 x3 x4 x5 x6 x7 f D E o L;go_wp2_with (go_at_call 167;refine C.out.mono ?_;rintro e' w5 ⟨k,rfl,hk,hR,b5⟩)
  have S5:=Q.out.below b5;have V:g.ow k=0/\g.lo<=k:=⟨Xq.1 fun e=>by have:=Q.out.lt _ e;omega,Zt Q.out.low hk⟩;refine(Qif S5 ad ac.out af.out ae hR V).mono ?_
  rintro e' w6 hE;have F:=Qc (QjH.then (T1.out.trans (Q.out.stepB b5)) Yz Yz hE);rcases hE with ⟨rfl,-⟩|⟨N,k',-,rfl,-⟩
  ·clear C O x8 S5 hR b5 V hk;go_wp2
   exact Xz (v:=.tuple #[]) (by simp[results,results113,go_sem]) Yz (by rw[u.out];exact F.out)
  ·exact⟨Yz,by rw[u.out];exact F.out⟩
 by_cases B:x.op=2
 ·obtain⟨y,T⟩:∃ y,iAt R.top.v x.a=some y:=by
   unfold RM.endd at f
   cases hl:iAt R.top.v x.a with
   | none=>simp[B,hl] at f
   | some l=>exact⟨l,Yz⟩
  obtain⟨j,ri,-,c,ej,hj,c3,ck⟩:=Q.out.wordAt T
  rw[ej] at U
  rw[B] at O
  by_cases J:y=0
  ·have u:R.to x.no=some r:=by unfold RM.endd at f;simp[B,T,J] at f;exact f
   have d0:(y==0)=true:=by simpa using J
   have C:=Qc (fun q s=>P.out x.no _ _ _ _ r q (L.out.2 B) o.out.no s u);clear P CA x2 x3 x4 x8 f D T B u o L ej J;generalize R.top.v.length=vl at *;go_upto_region 4 with fail
   go_quiet (fail)
   go_wp2_with fail
   refine(C.out _ (Qai M.out _)).mono ?_
   rintro e' w5 ⟨rfl,G⟩;have Z:=Qc G;clear G C O U x5 x6 x7 c3 ck;go_wp2
   exact Xz (v:=.tuple #[]) (by simp[results,results113,go_sem]) Yz Z.out
  ·have u:R.to x.yes=some r:=by unfold RM.endd at f;simp[B,T,J] at f;exact f
   have d0:(y==0)=false:=by simpa using J
   have C:=Qc (fun q s=>P.out x.yes _ _ _ _ r q (L.out.1 D) o.out.yes s u);clear P CA x5 x6 x7 x8 f D T B u o L ej J;generalize R.top.v.length=vl at *;go_upto_region 4 with fail
   go_quiet (fail)
   go_wp2_with fail
   refine(C.out _ (Qai M.out _)).mono ?_
   rintro e' w5 ⟨rfl,G⟩;have Z:=Qc G;clear G C O U x2 x3 x4 c3 ck;go_wp2
   exact Xz (v:=.tuple #[]) (by simp[results,results113,go_sem]) Yz Z.out
 ·have W:x.op=1:=by omega
  have u:R.to x.yes=some r:=by unfold RM.endd at f;simp[W] at f;exact f
  have C:=Qc (fun q s=>P.out x.yes _ _ _ _ r q (L.out.1 D) o.out.yes s u);rw[W] at O
  clear P CA U x5 x6 x7 x8 f D B W u o L;go_upto_region 4 with fail
  go_quiet (fail)
  go_wp2_with fail
  refine(C.out _ (Qai M.out _)).mono ?_
  rintro e' w5 ⟨rfl,G⟩;have Z:=Qc G;clear G C O x2 x3 x4;go_wp2
  exact Xz (v:=.tuple #[]) (by simp[results,results113,go_sem]) Yz Z.out
end
section
variable {w w' w2:World}{b most n:Nat}{m:List (MFunc 6)}{M M' N:IM}{sc sa:Int}{g g1:MG}{e:Ending}
theorem vsizeE:(prog.info? 84).map (·.size)=some 9:=by kernel_rfl
end
def Qn5 (b fu most:Nat) (t:Tmp) (v:Value) (w:World):Prop :=
 v=(([(0,Pv b 0),(4,Pv b 0),(5,Pv b 0),(6,Pv b 5),(7,Pv b 8),(8,Iv (fu:Int)),(9,Pv b 0),(10,Pv b 0),(11,Pv b 3),(12,Iv (most:Int)),(13,.bool (decide ((fu:Int)<most)))]:List (Tmp × Value)).lookup t).getD undef
theorem ws0 {b fu most:Nat}(o:w6.cell? ⟨b,8,none⟩=some (Iv (fu:Int))) (k:w6.cell? ⟨b,3,none⟩=some (Iv (most:Int))){Q:Exit->Act->World->Prop}
 (a:Act) (m:Nat) (j:a.tmps.size=m) (g:75<=m) (l:a.tmps.getD 0 undef=Pv b 0)
 (hend:∀ ops vs w',vs 13=.bool (decide ((fu:Int)<most))->Below w6.heap.size w6 w'->wpList prog ops Q (Qam 10 ((Tryz.f69.body.bind (Qi 0)).getD .skip)) (QM a vs [4,5,6,7,8,9,10,11,12,13]) w') :
 Code.wp prog ((Tryz.f69.body.bind (Qi 0)).getD .skip) Q a w6:=by
 conv=>arg 2;whnf
 refine Qg 10 (Qn5 b fu most) (fun w=>Below w6.heap.size w6 w) (fun w w'=>Below w.heap.size w w') (outs:=[0]) (gs:=[]) (bs:=[true,true,true,true,true,true,true,true,true,true]) (by kernel_rfl) (n:=75) j g (by kernel_rfl) (by kernel_rfl) ?hR ?hG (QI Zr 1) ⟨l,Y⟩ ?hA ?hend
 case hR=>exact fun t v w w' _ h=>h
 case hG=>exact Y
 case hend=>exact fun ops vs w' d e=>hend ops vs w' (e 13 (by kernel_rfl)) d
 case hA =>
  refine⟨fun a w d e K f=>?_,?_⟩
  ·obtain⟨c,-⟩:=e
   have c:a.tmps.getD 0 undef=Pv b 0:=c;go_simp;exact f _ _ Zr d Z
  refine⟨fun a w d e K f=>?_,?_⟩
  ·obtain⟨c,-⟩:=e
   have c:a.tmps.getD 4 undef=Pv b 0:=c;go_simp;exact f _ _ Zr d Z
  refine⟨fun a w d e K f=>?_,?_⟩
  ·obtain⟨c,-⟩:=e
   have c:a.tmps.getD 5 undef=Pv b 0:=c;go_simp;exact f _ _ Zr d Z
  refine⟨fun a w d e K f=>?_,?_⟩
  ·obtain⟨c,-⟩:=e
   have c:a.tmps.getD 6 undef=Pv b 5:=c;go_simp;exact f _ _ Zr d Z
  refine⟨fun a w d e K f=>?_,?_⟩
  ·obtain⟨c,-⟩:=e
   have c:a.tmps.getD 7 undef=Pv b 8:=c;have p:=Qk o d;go_simp;exact f _ _ Zr d Z
  refine⟨fun a w d e K f=>?_,?_⟩
  ·obtain⟨c,-⟩:=e
   have c:a.tmps.getD 0 undef=Pv b 0:=c;go_simp;exact f _ _ Zr d Z
  refine⟨fun a w d e K f=>?_,?_⟩
  ·obtain⟨c,-⟩:=e
   have c:a.tmps.getD 9 undef=Pv b 0:=c;go_simp;exact f _ _ Zr d Z
  refine⟨fun a w d e K f=>?_,?_⟩
  ·obtain⟨c,-⟩:=e
   have c:a.tmps.getD 10 undef=Pv b 0:=c;go_simp;exact f _ _ Zr d Z
  refine⟨fun a w d e K f=>?_,?_⟩
  ·obtain⟨c,-⟩:=e
   have c:a.tmps.getD 11 undef=Pv b 3:=c;have p:=Qk k d;go_simp;exact f _ _ Zr d Z
  refine⟨fun a w d e K f=>?_,?_⟩
  ·obtain⟨c,i,-⟩:=e
   have c:a.tmps.getD 8 undef=Iv (fu:Int):=c;have i:a.tmps.getD 12 undef=Iv (most:Int):=i;go_simp;refine f _ _ Zr d ?_;show Value.bool _=Value.bool _;congr 1
   first | rfl | (rw[decide_eq_decide];omega)
  trivial
def QnN (w6:World) (b c g1 o1 nm cm fi g2 o2 nb cb bi:Nat) (bl:MBlock 6) (p:BP) (t:Tmp) (v:Value) (w:World):Prop :=
 match ([(3,fun v w=>∃ Z,v=.pointer (some ⟨Z,0,none⟩)/\w6.heap.size<=Z/\Blk w Z zeroB 86)]:List (Tmp × (Value->World->Prop))).lookup t with
 | some p=>p v w
 | none=>v=(([(0,.pointer (some ⟨b,0,none⟩)),(2,.pointer (some ⟨c,0,none⟩)),(26,.pointer (some ⟨b,0,none⟩)),(27,.pointer (some ⟨b,0,none⟩)),(28,.pointer (some ⟨b,1,none⟩)),(29,.pointer (some ⟨b,1,none⟩)),(30,.slice (some ⟨g1,o1,none⟩) nm cm),(31,.pointer (some ⟨c,0,none⟩)),(32,.pointer (some ⟨c,0,none⟩)),(33,.pointer (some ⟨c,0,none⟩)),(34,.int .i64 (fi:Int)),(35,.pointer (some ⟨g1,o1+fi*4,none⟩)),(36,.pointer (some ⟨g1,o1+fi*4+3,none⟩)),(37,.slice (some ⟨g2,o2,none⟩) nb cb),(38,.pointer (some ⟨c,0,none⟩)),(39,.pointer (some ⟨c,0,none⟩)),(40,.pointer (some ⟨c,1,none⟩)),(41,.int .i64 (bi:Int)),(42,.pointer (some ⟨g2,o2+bi*12,none⟩)),(43,.agg (Qgi bl p))]:List (Tmp × Value)).lookup t).getD undef
theorem ws3 {b o i x k l u A:Nat}{r:MBlock 6}{p:BP}(P:w6.cell? ⟨b,1,none⟩=some (.slice (some ⟨o,i,none⟩) x cm)) (L:w6.cell? ⟨c,0,none⟩=some (Iv (fi:Int))) (N:w6.cell? ⟨c,1,none⟩=some (Iv (bi:Int))) (O:w6.cell? ⟨o,i+fi*4+3,none⟩=some (.slice (some ⟨k,l,none⟩) u A)) (M:Hid (w6.rangeAt k (l+bi*12) (Qgi r p).toList)) (G:(fi:Int)<x) (H:(bi:Int)<u){Q:Exit->Act->World->Prop}
 (a:Act) (m:Nat) (E:a.tmps.size=m) (y:75<=m) (C:a.tmps.getD 0 undef=Pv b 0) (z:a.tmps.getD 2 undef=Pv c 0)
 (hend:∀ ops vs w',(fun v w=>∃ Z,v=Pv Z 0/\w6.heap.size<=Z/\Blk w Z zeroB 86) (vs 3) w'->vs 43=.agg (Qgi r p)->Below w6.heap.size w6 w'->wpList prog ops Q (Qam 19 ((Tryz.f69.body.bind (Qi 3)).getD .skip)) (QM a vs [26,27,28,29,30,31,32,33,34,35,36,37,38,39,40,41,42,43,3]) w') :
 Code.wp prog ((Tryz.f69.body.bind (Qi 3)).getD .skip) Q a w6:=by
 conv=>arg 2;whnf
 refine Qg 19 (QnN w6 b c o i x cm fi k l u A bi r p) (fun w=>Below w6.heap.size w6 w) (fun w w'=>Below w.heap.size w w') (outs:=[0,2]) (gs:=[]) (bs:=[true,true,true,true,true,true,true,true,true,true,true,true,true,true,true,true,true,true,true]) (by kernel_rfl) (n:=75) E y (by kernel_rfl) (by kernel_rfl) ?hR ?hG (QI Zr 1) ⟨C,z,Y⟩ ?hA ?hend
 case hR =>
  intro t v w w' I h;unfold QnN at h |-;split at h
  ·rename_i p s
   simp only[List.lookup_cons,List.lookup_nil] at s
   split at s
   ·cases s;exact(by obtain⟨Z,D,z,F⟩:=h;exact⟨Z,D,z,Blk.below F I⟩)
   ·cases s
  ·exact h
 case hG=>exact Y
 case hend=>exact fun ops vs w' e f=>hend ops vs w' (f 3 (by kernel_rfl)) (f 43 (by kernel_rfl)) e
 case hA =>
  refine⟨fun a w e f K g=>?_,?_⟩
  ·obtain⟨d,-⟩:=f
   have d:a.tmps.getD 0 undef=Pv b 0:=d;go_simp;exact g _ _ Zr e Yz
  refine⟨fun a w e f K g=>?_,?_⟩
  ·obtain⟨d,-⟩:=f
   have d:a.tmps.getD 26 undef=Pv b 0:=d;go_simp;exact g _ _ Zr e Yz
  refine⟨fun a w e f K g=>?_,?_⟩
  ·obtain⟨d,-⟩:=f
   have d:a.tmps.getD 27 undef=Pv b 0:=d;go_simp;exact g _ _ Zr e Yz
  refine⟨fun a w e f K g=>?_,?_⟩
  ·obtain⟨d,-⟩:=f
   have d:a.tmps.getD 28 undef=Pv b 1:=d;go_simp;exact g _ _ Zr e Yz
  refine⟨fun a w e f K g=>?_,?_⟩
  ·obtain⟨d,-⟩:=f
   have d:a.tmps.getD 29 undef=Pv b 1:=d;have B:=Qk P e;go_simp;exact g _ _ Zr e Yz
  refine⟨fun a w e f K g=>?_,?_⟩
  ·obtain⟨d,-⟩:=f
   have d:a.tmps.getD 2 undef=Pv c 0:=d;go_simp;exact g _ _ Zr e Yz
  refine⟨fun a w e f K g=>?_,?_⟩
  ·obtain⟨d,-⟩:=f
   have d:a.tmps.getD 31 undef=Pv c 0:=d;go_simp;exact g _ _ Zr e Yz
  refine⟨fun a w e f K g=>?_,?_⟩
  ·obtain⟨d,-⟩:=f
   have d:a.tmps.getD 32 undef=Pv c 0:=d;go_simp;exact g _ _ Zr e Yz
  refine⟨fun a w e f K g=>?_,?_⟩
  ·obtain⟨d,-⟩:=f
   have d:a.tmps.getD 33 undef=Pv c 0:=d;have B:=Qk L e;go_simp;exact g _ _ Zr e Yz
  refine⟨fun a w e f K g=>?_,?_⟩
  ·obtain⟨d,q,-⟩:=f
   have d:a.tmps.getD 30 undef=.slice (some ⟨o,i,none⟩) x cm:=d;have q:a.tmps.getD 34 undef=Iv (fi:Int):=q;go_simp;exact g _ _ Zr e Yz
  refine⟨fun a w e f K g=>?_,?_⟩
  ·obtain⟨d,-⟩:=f
   have d:a.tmps.getD 35 undef=Pv o (i+fi*4):=d;go_simp;exact g _ _ Zr e Yz
  refine⟨fun a w e f K g=>?_,?_⟩
  ·obtain⟨d,-⟩:=f
   have d:a.tmps.getD 36 undef=Pv o (i+fi*4+3):=d;have B:=Qk O e;go_simp;exact g _ _ Zr e Yz
  refine⟨fun a w e f K g=>?_,?_⟩
  ·obtain⟨d,-⟩:=f
   have d:a.tmps.getD 2 undef=Pv c 0:=d;go_simp;exact g _ _ Zr e Yz
  refine⟨fun a w e f K g=>?_,?_⟩
  ·obtain⟨d,-⟩:=f
   have d:a.tmps.getD 38 undef=Pv c 0:=d;go_simp;exact g _ _ Zr e Yz
  refine⟨fun a w e f K g=>?_,?_⟩
  ·obtain⟨d,-⟩:=f
   have d:a.tmps.getD 39 undef=Pv c 0:=d;go_simp;exact g _ _ Zr e Yz
  refine⟨fun a w e f K g=>?_,?_⟩
  ·obtain⟨d,-⟩:=f
   have d:a.tmps.getD 40 undef=Pv c 1:=d;have B:=Qk N e;go_simp;exact g _ _ Zr e Yz
  refine⟨fun a w e f K g=>?_,?_⟩
  ·obtain⟨d,q,-⟩:=f
   have d:a.tmps.getD 37 undef=.slice (some ⟨k,l,none⟩) u A:=d;have q:a.tmps.getD 41 undef=Iv (bi:Int):=q;go_simp;exact g _ _ Zr e Yz
  refine⟨fun a w e f K g=>?_,?_⟩
  ·obtain⟨d,-⟩:=f
   have d:a.tmps.getD 42 undef=Pv k (l+bi*12):=d;refine wp_load_mid 86 (.tmp 42) Yz k (l+bi*12) d (Qgi r p).toList _ (fun j v J=>Qk (M.out j v J) e) underlying86 Yz pSizeB ?_;exact g _ _ Zr e Yz
  refine⟨fun a w e f K g=>?_,?_⟩
  ·clear f;go_simp;exact g _ _ (ZO _ _) (e.trans ((ZO _ _).mono e.size)) ⟨_,Yz,e.size,Qe _ _ _⟩
  trivial
def Qoh (b c Z gc oc nc cc i:Nat) (x:Qs) (ip:IP) (t:Tmp) (v:Value) (w:World):Prop :=
 v=(([(0,Pv b 0),(2,Pv c 0),(3,Pv Z 0),(57,Pv b 0),(58,Pv c 0),(59,Pv Z 2),(60,.slice (some ⟨gc,oc,none⟩) nc cc),(61,Pv c 0),(62,Pv c 0),(63,Pv c 2),(64,Iv (i:Int)),(65,Pv gc (oc+i*8)),(66,.agg (Zq x ip))]:List (Tmp × Value)).lookup t).getD undef
theorem ws6 {b Z k l p:Nat}{x:Qs}{o:IP}(z:w6.cell? ⟨Z,2,none⟩=some (.slice (some ⟨k,l,none⟩) p cc)) (C:w6.cell? ⟨c,2,none⟩=some (Iv (i:Int))) (D:Hid (w6.rangeAt k (l+i*8) (Zq x o).toList)) (hi:(i:Int)<p){Q:Exit->Act->World->Prop}
 (a:Act) (m:Nat) (u:a.tmps.size=m) (q:75<=m) (s:a.tmps.getD 0 undef=Pv b 0) (y:a.tmps.getD 2 undef=Pv c 0) (A:a.tmps.getD 3 undef=Pv Z 0)
 (hend:∀ ops vs w',vs 57=Pv b 0->vs 58=Pv c 0->vs 66=.agg (Zq x o)->Below w6.heap.size w6 w'->wpList prog ops Q (Qam 10 ((Tryz.f69.body.bind (Qi 6)).getD .skip)) (QM a vs [57,58,59,60,61,62,63,64,65,66]) w') :
 Code.wp prog ((Tryz.f69.body.bind (Qi 6)).getD .skip) Q a w6:=by
 conv=>arg 2;whnf
 refine Qg 10 (Qoh b c Z k l p cc i x o) (fun w=>Below w6.heap.size w6 w) (fun w w'=>Below w.heap.size w w') (outs:=[0,2,3]) (gs:=[]) (bs:=[true,true,true,true,true,true,true,true,true,true]) (by kernel_rfl) (n:=75) u q (by kernel_rfl) (by kernel_rfl) ?hR ?hG (QI Zr 1) ⟨s,y,A,Y⟩ ?hA ?hend
 case hR=>exact fun t v w w' _ h=>h
 case hG=>exact Y
 case hend=>exact fun ops vs w' e f=>hend ops vs w' (f 57 (by kernel_rfl)) (f 58 (by kernel_rfl)) (f 66 (by kernel_rfl)) e
 case hA =>
  refine⟨fun a w e f K g=>?_,?_⟩
  ·obtain⟨d,-⟩:=f
   have d:a.tmps.getD 0 undef=Pv b 0:=d;go_simp;exact g _ _ Zr e Yz
  refine⟨fun a w e f K g=>?_,?_⟩
  ·obtain⟨d,-⟩:=f
   have d:a.tmps.getD 2 undef=Pv c 0:=d;go_simp;exact g _ _ Zr e Yz
  refine⟨fun a w e f K g=>?_,?_⟩
  ·obtain⟨d,-⟩:=f
   have d:a.tmps.getD 3 undef=Pv Z 0:=d;go_simp;exact g _ _ Zr e Yz
  refine⟨fun a w e f K g=>?_,?_⟩
  ·obtain⟨d,-⟩:=f
   have d:a.tmps.getD 59 undef=Pv Z 2:=d;have E:=Qk z e;go_simp;exact g _ _ Zr e Yz
  refine⟨fun a w e f K g=>?_,?_⟩
  ·obtain⟨d,-⟩:=f
   have d:a.tmps.getD 2 undef=Pv c 0:=d;go_simp;exact g _ _ Zr e Yz
  refine⟨fun a w e f K g=>?_,?_⟩
  ·obtain⟨d,-⟩:=f
   have d:a.tmps.getD 61 undef=Pv c 0:=d;go_simp;exact g _ _ Zr e Yz
  refine⟨fun a w e f K g=>?_,?_⟩
  ·obtain⟨d,-⟩:=f
   have d:a.tmps.getD 62 undef=Pv c 0:=d;go_simp;exact g _ _ Zr e Yz
  refine⟨fun a w e f K g=>?_,?_⟩
  ·obtain⟨d,-⟩:=f
   have d:a.tmps.getD 63 undef=Pv c 2:=d;have E:=Qk C e;go_simp;exact g _ _ Zr e Yz
  refine⟨fun a w e f K g=>?_,?_⟩
  ·obtain⟨d,r,-⟩:=f
   have d:a.tmps.getD 60 undef=.slice (some ⟨k,l,none⟩) p cc:=d;have r:a.tmps.getD 64 undef=Iv (i:Int):=r;go_simp;exact g _ _ Zr e Yz
  refine⟨fun a w e f K g=>?_,?_⟩
  ·obtain⟨d,-⟩:=f
   have d:a.tmps.getD 65 undef=Pv k (l+i*8):=d;refine wp_load_mid 78 (.tmp 65) Yz k (l+i*8) d (Zq x o).toList _ (fun j v B=>Qk (D.out j v B) e) underlying78 Yz pSizeN ?_;exact g _ _ Zr e Yz
  trivial
section
variable {w w' w2:World}{b most n:Nat}{m:List (MFunc 6)}{R R' r:RM}{g g1:WG}
theorem WAt.fuelC (S:WAt w b most m R g):WTo g w (w.setCell ⟨b,8,none⟩ (Iv ((R.fuel:Int)+1))) b most m { R with fuel:=R.fuel+1 }:=by
 refine S.reBox (R':={ R with fuel:=R.fuel+1 }) Z Z Z (by simp) (fun k c a=>Xd _ _ _ _ a) ⟨Z,Z,Z,Z⟩ (pi:=g.pi) (ci:=g.ci) (vb:=g.vb) ⟨S.inp,S.inpC⟩ S.back ?_;rw[Qh S.box 8 _]
 simp
theorem Qix (S:WAt w b most m R g) (I:ROk m n R) (i:n<=900000){x:Qs}(a:IP) (h:x.op=6\/x.op=7\/x.op=9\/x.op=10\/x.op=11) (p:RM.ins aOp R x=some r) :
 Calls prog 114 #[Pv b 0,Pv g.t.c 0,.agg (Zq x a)] w fun e w'=>Qdj g w b most m r e w':=by
 have j:=Qc (ZO w (.cells (Zq x a) 78));have l:=Qc (Qe w (Zq x a) 78);have d:=Qc (S.below j.out);have o:=Qc (S.stepB j.out);have f:R.part x=some r:=by rw[<-p,Qax h]
 have C:Hid (Calls prog 177 #[Pv b 0,Pv g.t.c 0,.agg (Zq x a)] (w.alloc (.cells (Zq x a) 78)) fun e w'=>Qdj g (w.alloc (.cells (Zq x a) 78)) b most m r e w'):=by
  rcases h with h | h | h | h | h
  ·exact QmE d.out I i a h f
  ·exact QmX d.out I i a h f
  ·exact Qmf d.out I i a h f
  ·exact QlC d.out I i a h f
  ·exact QlU d.out I i a h f
 have O:(x.op==1)=false:=by simp;omega
 have L:(x.op==2)=false:=by simp;omega
 have Q:(x.op==3)=false:=by simp;omega
 have H:(x.op==4)=false:=by simp;omega
 have K:(x.op==5)=false:=by simp;omega
 have T:(x.op==8)=false:=by simp;omega
 have E:(x.op==12)=false:=by simp;omega
 have D:(x.op==13)=false:=by simp;omega
 have u:(x.op==14)=false:=by simp;omega
 clear S I f p h;go_enter func114,ntmps114
 go_upto_region 1 with fail
 generalize w.alloc (.cells (Zq x a) 78)=J at j l d o C |-;generalize w.heap.size=X at l |-;obtain⟨y,s,B,q,G,F,z,A⟩:=Q7 l.out
 go_wp2_with fail
 refine C.out.mono ?_;rintro M N k;have Z:=Qc (Qdj.then o.out Yz Yz k);rcases k.cases with rfl | ⟨P,rfl⟩
 ·clear k C y s B q G F z A;go_wp2
  exact Xz (v:=.tuple #[]) (by simp[results,results114,go_sem]) Yz Z.out
 ·exact⟨Yz,Z.out⟩
theorem Qms (S:WAt w b most m R g) (I:ROk m n R) (D:n<=900000){x:Qs}(a:IP){L:Nat->Prop}(hi:IIn w L x a) (y:x.args.length<=8) (h:x.op=14)(q:x.k=(f:Int))(r:R.rest.length+1<40->QaA R.top.v x.args=some xs) :
 Calls prog 114 #[Pv b 0,Pv g.t.c 0,.agg (Zq x a)] w fun e w'=>Qm4 g w b most m R f xs e w':=by
 have j:=Qc (ZO w (.cells (Zq x a) 78));have o:=Qc (Qe w (Zq x a) 78);have p:=Qc (S.below j.out);have l:=Qc (S.stepB j.out);have C:=Qc (Qjg p.out I D a (hi.below j.out) y q r);have d1:(x.op==1)=false:=by simp;omega
 have V:(x.op==2)=false:=by simp;omega
 have d3:(x.op==3)=false:=by simp;omega
 have Q:(x.op==4)=false:=by simp;omega
 have U:(x.op==5)=false:=by simp;omega
 have d8:(x.op==8)=false:=by simp;omega
 have M:(x.op==12)=false:=by simp;omega
 have K:(x.op==13)=false:=by simp;omega
 have E:(x.op==14)=true:=by simp;omega
 clear S I r hi y q h;go_enter func114,ntmps114
 go_upto_region 1 with fail
 generalize w.alloc (.cells (Zq x a) 78)=T at j o p l C |-;generalize w.heap.size=X at o |-;obtain⟨F,A,J,z,P,N,G,H⟩:=Q7 o.out
 go_wp2_with fail
 refine C.out.mono ?_;rintro W B (⟨d,rfl,O,i,s,u⟩|⟨d,rfl,i⟩)
 ·have Z:Hid (Qm4 g w b most m R f xs (.returned (.tuple #[])) B):=.inl ⟨d,Yz,O,i,l.out.trans s,u⟩;clear d i s u C F A J z P N G H;go_wp2
  exact Xz (v:=.tuple #[]) (by simp[results,results114,go_sem]) Yz Z.out
 ·exact⟨Yz,.inr ⟨d,Yz,WTo.then l.out Yz Yz i⟩⟩
theorem QkU (S:WAt w b most m R g) (I:ROk m n R) (d:n<=900000){x:Qs}(a:IP){k:Nat->Prop}(hi:IIn w k x a) (i:x.form m.length=0) (j:x.op≠14) (f:RM.ins aOp R x=some r) :
 Calls prog 114 #[Pv b 0,Pv g.t.c 0,.agg (Zq x a)] w fun e w'=>Qdj g w b most m r e w':=by
 obtain⟨p,l,-⟩:=QcG i
 have o:x.op=1\/x.op=2\/x.op=3\/x.op=4\/x.op=5\/x.op=8\/x.op=12\/x.op=13\/(x.op=6\/x.op=7\/x.op=9\/x.op=10\/x.op=11):=by omega
 rcases o with h | h | h | h | h | h | h | h | h
 ·exact Qnq S I d a h f
 ·exact Qm8 S I d a h f
 ·exact Qng S I d a h f
 ·exact Qnt S I d a h f
 ·exact Qnm S I d a h hi (l h) f
 ·exact Qnj S I d a h f
 ·exact QmV S I d a h f
 ·exact QmJ S I d a h f
 ·exact Qix S I d a h f
end
section
variable {w w' w2:World}{b most n:Nat}{m:List (MFunc 6)}{R R' r:RM}{g g1:WG}
def Qny (g:WG) (w:World) (b most:Nat) (m:List (MFunc 6)) (r:RM) (e:Ending) (w':World):Prop :=
 (e=.returned (.tuple #[])/\WGo g w w' b most m r)\/(∃ N k,r=N.over k/\e=.panicked (QdE k)/\WTo g w w' b most m N)
theorem QjH.stp {e:Ending}(T:WSt g g1 w w2) (d:g1.t.c=g.t.c) (a:g1.fs=g.fs) (H:QjH g1 w2 b most m r e w'):Qny g w b most m r e w':=H.then T d a
theorem Qjr (S:WAt w b most m R g) (I:ROk m n R) (hn:n<=800000) (hm:(modFault m).1=0) (bk:R.fuel<=most) (bj:most<=100000) (hr:RM.step m aOp most R=some r) :
 Calls prog 69 #[Pv b 0] w fun e w'=>Qny g w b most m r e w':=by
 obtain⟨-,fn,o,hf,hb,hi⟩:=I.fr R.top (by simp)
 have hR:=(Zn hm).2 fn (Zm hf);have hB:=hR.blocks o (Zm hb);have ah:=(Zn hm).1.2
 have E:Hid (some r=if R.fuel=most then some (R.over 7) else match o.code[R.top.i]? with | some x=>RM.ins aOp { R with fuel:=R.fuel+1 } x | none=>RM.endd { R with fuel:=R.fuel+1 } o.fin):=by
  show _=_;rw[<-hr]
  unfold RM.step;rw[hf]
  simp only
  rw[hb]
  rfl
 have I1:ROk m n { R with fuel:=R.fuel+1 }:=⟨I.est,I.fr,I.inp,I.out,I.deep⟩;have q8:w.cell? ⟨b,8,none⟩=some (Iv R.fuel):=Qb S.box 8 _ Yz;have q3:w.cell? ⟨b,3,none⟩=some (Iv most):=Qb S.box 3 _ Yz;have HS:=Qc S;have HK:=Qc I1;have z:=Qc (Xh hf hb);have X:=Qc (Xh hR hB);have HM:=Qc hm;have HI:=Qc hi;have HN:=Qc (Xh hn ah);clear S I I1 hf hb hR hB hm hi hn ah hr;go_enter func69,ntmps69
 go_upto_region 0 with fail
 refine ws0 q8 q3 _ _ Yz (Xg (by kernel_rfl)) Yz ?_;rintro A vs w5 J b5;show wpList _ A _ [_] (QM _ vs [4,5,6,7,8,9,10,11,12,13]) w5;simp only[QM,Act.put,List.setIfInBounds_toArray,List.set_cons_zero,List.set_cons_succ,J]
 have B5:=Qc b5;clear J b5 q8 q3;by_cases D:R.fuel=most
 ·have d1:decide ((R.fuel:Int)<most)=false:=Xu (by omega);have V:Hid (r=R.over 7):=by show _=_;have:=E.out;rw[Xs D] at this;cases this;rfl
  rw[d1]
  clear E d1 D;go_wp2_with fail
  refine(Z7 _ _).mono ?_
  rintro e' w' ⟨rfl,hw⟩;subst hw;exact⟨Yz,.inr ⟨R,7,V.out,Yz,WTo.same HS.out B5.out⟩⟩
 have d1:decide ((R.fuel:Int)<most)=true:=Xt (by omega);have V:Hid (some r=match o.code[R.top.i]? with | some x=>RM.ins aOp { R with fuel:=R.fuel+1 } x | none=>RM.endd { R with fuel:=R.fuel+1 } o.fin):=by show _=_;have:=E.out;rw[Xr D] at this;exact this
 rw[d1]
 clear E d1 D;have S5:=Qc (HS.out.below B5.out);have q8:w5.cell? ⟨b,8,none⟩=some (Iv R.fuel):=Qb S5.out.box 8 _ Yz;have z8:=Qj S5.out.box 8;obtain⟨P,O,T6,c6,f6⟩:=S5.out.fuelC
 have O:=Qc O;have T6:=Qc ((HS.out.stepB B5.out).trans T6);have s:=Qc (Xh c6 f6);have bi:R.fuel<=100000:=by omega
 clear S5 c6 f6 B5;generalize aq:({ R with fuel:=R.fuel+1 }:RM)=q at O V HK;have d:Hid (q.top=R.top/\q.rest=R.rest):=by subst aq;exact⟨Yz,Yz⟩
 clear aq;generalize R.fuel=fu at *;go_upto_region 2 with (go_at_call 111;refine(QaH _ _).mono ?_;rintro e' w' ⟨rfl,hw⟩;have hw:=hw.symm;subst hw)
 generalize w5.setCell ⟨b,8,none⟩ (Iv ((fu:Int)+1))=w6 at O T6 |-;clear q8 z8;have bm:q.rest.length<=39:=HK.out.deep;have CT:=Qc (Qgs O.out (by omega));go_upto_region 3 with (go_at_call 112;refine CT.out.mono ?_;rintro e' w7 ⟨rfl,b7⟩)
 have S7:=Qc (O.out.below b7);have T7:=Qc (T6.out.trans (O.out.stepB b7));clear b7 CT O T6;obtain⟨be,o1,fA,e1,E1,am⟩:=QfB S7.out.mod (by exact z.out.1)
 obtain⟨a6,o2,p,e2,ad,az⟩:=Qen am.blocks (by exact z.out.2)
 have r3:w7.cell? ⟨be,o1+R.top.f*4+3,none⟩=some (.slice fA.pB fn.blocks.length fA.cB):=E1 3 _ Yz;rw[e2] at r3
 have q1:w7.cell? ⟨b,1,none⟩=some (.slice P.pm m.length P.cm):=Qb S7.out.box 1 _ Yz;rw[e1] at q1
 have f0:w7.cell? ⟨P.t.c,0,none⟩=some (Iv R.top.f):=by have:=Qb S7.out.top.1 0 _ Yz;rw[d.out.1] at this;exact this
 have f1:w7.cell? ⟨P.t.c,1,none⟩=some (Iv R.top.b):=by have:=Qb S7.out.top.1 1 _ Yz;rw[d.out.1] at this;exact this
 have an:(R.top.f:Int)<m.length:=by have:=(Zi z.out.1).1;omega
 have ak:(R.top.b:Int)<fn.blocks.length:=by have:=(Zi z.out.2).1;omega
 have ap:=Qc az;have a2:Hid (w7.rangeAt a6 (o2+R.top.b*12) (Qgi o p).toList):=ad;clear E1 am ad az e1 e2;refine ws3 q1 f0 f1 r3 a2 an ak _ _ Yz (Xg (by kernel_rfl)) Yz Yz ?_;rintro A vs w8 ⟨Z,af,hZ,U⟩ M b8;show wpList _ A _ [_] (QM _ vs [26,27,28,29,30,31,32,33,34,35,36,37,38,39,40,41,42,43,3]) w8;simp only[QM,Act.put,List.setIfInBounds_toArray,List.set_cons_zero,List.set_cons_succ,af,M]
 have BZ:=Qc (Qmt U o p);have B9:=Qc (QeM hZ (Qgi o p).toList 0 b8);have TH:=Qc (QjV U Yz o p);have SZ:=Qc (show (prog.info? 86).map (·.size)=some (Qgi o p).size from pSizeB);have ON:=Qc (Qmz o p);obtain⟨cs,ab⟩:∃ cs,Qgi o p=cs:=⟨_,Yz⟩
 rw[ab] at BZ B9 TH SZ ON |-
 have EC:=Qc ab;clear ab af M b8 U q1 f0 f1 r3 a2 an ak;go_upto_region 4 with (refine wpList_store_mid Yz 86 (.tmp 3) (.tmp 43) Yz Z 0 cs Yz Yz TH.out SZ.out ON.out ?_)
 generalize w8.setCells Z 0 cs.toList=H at BZ B9 |-;obtain rfl:=EC.out;have W:=Qc (S7.out.below B9.out);have T9:=Qc (T7.out.trans (S7.out.stepB B9.out));have y:=Qc (ap.out.below B9.out);clear TH SZ ON EC B9 ap S7 T7 hZ;have f2:H.cell? ⟨P.t.c,2,none⟩=some (Iv R.top.i):=by have:=Qb W.out.top.1 2 _ Yz;rw[d.out.1] at this;exact this
 have z2:H.cell? ⟨Z,2,none⟩=some (.slice p.pC o.code.length p.cC):=Qb BZ.out 2 _ Yz;have Ka:Hid (ROk m n q):=HK.out;have aj:=HI.out;by_cases aa:R.top.i=o.code.length
 ·have hc:((R.top.i:Int)==(o.code.length:Int))=true:=by simp[aa]
  have L:q.endd o.fin=some r:=by have:=V.out;rw[Xk (by omega)] at this;exact this.symm
  go_quiet (fail)
  have a:=Qai (Below.refl H.heap.size H) nq;have Sa:=W.out.below a;have Ta:=Qc (T9.out.trans (W.out.stepB a));have au:=Blk.below BZ.out a;have CE:=Qc (Qki Sa Ka.out (by have:=HN.out.1;omega) (y.out.below a).fin X.out.2.fin L)
  have RE:Hid ((H.drewN nq).rangeAt Z 3 (QbW o.fin p.e).toList):=fun j v hj=>by
   have:(Qgi o p)[3+j]?=some v:=by
    rw[<-Array.getElem?_toList,Nat.add_comm]
    exact hj
   exact Qb au (3+j) v this
  clear aa hc V aj a Sa au f2 z2 W T9 BZ y L;generalize H.drewN nq=wa at *;go_wp2_with (refine wpList_load_mid Yz 84 (.tmp 54) Yz Z 3 Yz (QbW o.fin p.e).toList _ RE.out underlying84 Yz vsizeE ?_)
  refine CE.out.mono ?_;rintro e' wb G;have F:=Qc (QjH.stp Ta.out s.out.1 s.out.2 G);rcases G with ⟨rfl,-⟩|⟨N,k,-,rfl,-⟩
  ·clear CE RE;go_wp2
   exact Xz (v:=.tuple #[]) (by simp[results,results69,go_sem]) Yz F.out
  ·exact⟨Yz,F.out⟩
 have hc:((R.top.i:Int)==(o.code.length:Int))=false:=by simp;omega
 have al:R.top.i<o.code.length:=by omega
 obtain⟨x,hx⟩:∃ x,o.code[R.top.i]?=some x:=⟨_,Zg al⟩
 have L:Hid (RM.ins aOp q x=some r):=by show _=_;have:=V.out;rw[hx] at this;exact this.symm
 have a1:=X.out.2.code x (Zm hx);have bg:=X.out.2.codes;go_quiet (fail)
 have a:=Qai (Below.refl H.heap.size H) nq;have Sa:=Qc (W.out.below a);have Ta:=Qc (T9.out.trans (W.out.stepB a));have aw:=y.out.below a;replace z2:=Qk z2 a;replace f2:=Qk f2 a;clear W T9 BZ y a;generalize H.drewN nq=wa at *;obtain⟨gc,oc,ip,ec,a3,av⟩:=Qi4 aw.code hx
 rw[ec] at z2
 have ae:Hid (wa.rangeAt gc (oc+R.top.i*8) (Zq x ip).toList):=a3;have a0:=Qc av;have HX:=Qc a1;have ai:=Qc al;clear hc aa V hx a3 av a1 aj ec aw;go_upto_region 6 with fail
 refine ws6 z2 f2 ae (by omega) _ _ Yz (Xg (by kernel_rfl)) Yz Yz Yz ?_;rintro A a7 wb Q T K bb;show wpList _ A _ [_] (QM _ a7 [57,58,59,60,61,62,63,64,65,66]) wb;simp only[QM,Act.put,List.setIfInBounds_toArray,List.set_cons_zero,List.set_cons_succ,Q,T,K]
 have Sb:=Qc (Sa.out.below bb);have Tb:=Qc (Ta.out.trans (Sa.out.stepB bb));have ay:=Qc (a0.out.below bb);clear Q T K bb z2 f2 ae Sa Ta a0;by_cases u:x.op=14
 ·obtain⟨-,-,a4⟩:=QcG HX.out
  obtain⟨ar,a5,a9,ag⟩:=a4 u
  obtain⟨k,hk⟩:=Xc ar
  obtain⟨xs,ac⟩:∃ xs:List Int,(q.rest.length+1<40->QaA q.top.v x.args=some xs)/\r=if q.rest.length+1<40 then { q with top:=⟨k,0,0,xs⟩,rest:={ q.top with i:=q.top.i+1 }::q.rest } else q.over 5:=by
   have G:=L.out;unfold RM.ins at G;by_cases h:q.rest.length+1<40
   ·cases hv:QaA q.top.v x.args with
    | none=>simp[u,h,hv] at G
    | some l =>
      simp[u,h,hv] at G
      refine⟨l,fun _=>rfl,?_⟩
      rw[Xs h,<-G,hk]
      rfl
   ·simp[u,h] at G
    exact⟨[],fun h'=>absurd h' h,by rw[Xr h];exact G.symm⟩
  have CI:=Qc (Qms Sb.out Ka.out (by have:=HN.out.1;omega) ip ay.out ag u hk ac.1);have E4:=Qc ac.2;have ao:q.top.i<=100:=by rw[d.out.1];have:=ai.out;omega
  clear hk ar a5 a9 ag a4 u L ac;go_wp2_with fail
  refine CI.out.mono ?_;rintro e' wc (⟨C,rfl,g',B,h3,h4⟩|⟨C,rfl,B⟩)
  ·have F2:=B.frs;rw[h4] at F2
   have fc:=F2.2.1.1;have y2:wc.cell? ⟨P.t.c,2,none⟩=some (Iv q.top.i):=Qb fc.1 2 _ Yz;have ax:=Qj fc.1 2;obtain⟨g8,S8,T8⟩:=B.next2 h4 Yz
   have Z8:Hid (WGo g w (wc.setCell ⟨P.t.c,2,none⟩ (Iv ((q.top.i:Int)+1))) b most m r):=by
    refine⟨g8,?_,(Tb.out.trans h3).trans T8⟩
    rw[E4.out,Xs C]
    exact S8
   clear CI C B h3 h4 F2 fc S8 T8 E4;generalize q.top.i=ii at *;go_wp2
   exact Xz (v:=.tuple #[]) (by simp[results,results69,go_sem]) Yz (.inl ⟨Yz,Z8.out⟩)
  ·exact⟨Yz,.inr ⟨q,5,by rw[E4.out,Xr C],Yz,WTo.then Tb.out s.out.1 s.out.2 B⟩⟩
 ·have CI:=Qc (QkU Sb.out Ka.out (by have:=HN.out.1;omega) ip ay.out HX.out u L.out);have KI:=Qc (QhS Ka.out ⟨fn,o,by rw[d.out.1];exact z.out.1,by rw[d.out.1];exact z.out.2,by rw[d.out.1];exact ai.out⟩ HM.out HX.out r L.out);clear u L;go_wp2_with fail
  refine CI.out.mono ?_;rintro e' wc (⟨N,C,rfl,g',B,h3,h4,h5⟩|⟨N,kk,C,rfl,h3⟩)
  ·have ao:N.top.i<=100:=by
    obtain⟨-,a8,ba,bc,bd,bh⟩:=KI.out.fr r.top (by simp)
    have bf:=(((Zn HM.out).2 a8 (Zm bc)).blocks ba (Zm bd)).codes
    have:r.top.i=N.top.i+1:=by rw[C];rfl
    omega
   have y2:wc.cell? ⟨g'.t.c,2,none⟩=some (Iv N.top.i):=Qb B.top.1 2 _ Yz;have ax:=Qj B.top.1 2;have NX:=WTo.then (Tb.out.trans h3) (h4.trans s.out.1) (h5.trans s.out.2) B.next
   rw[h4] at y2 ax NX
   have Z8:Hid (WTo g w (wc.setCell ⟨P.t.c,2,none⟩ (Iv ((N.top.i:Int)+1))) b most m r):=by rw[C];exact NX
   clear CI C B h3 h4 h5 KI NX;generalize N.top.i=ii at *;go_wp2
   exact Xz (v:=.tuple #[]) (by simp[results,results69,go_sem]) Yz (.inl ⟨Yz,Z8.out.go⟩)
  ·exact⟨Yz,.inr ⟨N,kk,C,Yz,WTo.then Tb.out s.out.1 s.out.2 h3⟩⟩
end
section
variable {w w' w2:World}{b most n:Nat}{m:List (MFunc 6)}{R R' r:RM}{g g1:WG}
theorem WAt.endC (S:WAt w b most m R g) (k:Int):WTo g w ((w.setCell ⟨b,9,none⟩ (.bool true)).setCell ⟨b,5,none⟩ (Iv k)) b most m (R.over k):=by
 have d:∀ x,x≠b->((w.setCell ⟨b,9,none⟩ (.bool true)).setCell ⟨b,5,none⟩ (Iv k)).heap[x]?=w.heap[x]?:=fun x a=>by rw[Xd _ _ _ _ a,Xd _ _ _ _ a]
 refine S.reBox (R':=R.over k) Z Z Z (by simp) (fun x a c=>d x c) ⟨Z,Z,Z,Z⟩ (pi:=g.pi) (ci:=g.ci) (vb:=g.vb) ⟨S.inp,S.inpC⟩ S.back ?_;rw[Qh (Qh S.box 9 _) 5 _]
 simp[RM.over]
theorem QfN {w:World}(X:Nat) :
 CallsD prog 110 #[Qfr X] .returning w fun e u' w'=>e=.returned (.tuple #[])/\u'=.returning/\w'=w:=by
 refine callsD_of_wpS func110 Z fun a c b=>?_;apply wpS_seq
 apply wpS_region
 simp[wpOpsS,go_sem,recoverD,b,ntmps110,Exit.thenS]
 rw[show (#[Qfr X]++((Array.replicate 22 undef).setIfInBounds 3 (Value.nilIface)).setIfInBounds 0 (Value.nilIface):Array Value)=#[Qfr X,Value.nilIface,undef,undef,Value.nilIface,undef,undef,undef,undef,undef,undef,undef,undef,undef,undef,undef,undef,undef,undef,undef,undef,undef,undef] from by kernel_rfl]
 refine wpS_of_wp ?_;go_wp2_with fail
 cases a
 simp_all [bodyPostS,results,results110]
theorem Qhm {w:World}(k:Int) (a:Blk w X #[Pv b 0] 62) (S:WAt w b most m R g) :
 CallsD prog 110 #[Qfr X] (.panicking (QdE k)) w fun e u' w' =>
  e=.returned (.tuple #[])/\u'=.panicking [{ v:=.iface 187 (Iv k),recovered:=true }]/\WTo g w w' b most m (R.over k):=by
 have j:=Qb a 0 _ Yz;have l:w.cell? ⟨b,9,none⟩=some (.bool R.done):=Qb S.box 9 _ Yz;have p:w.cell? ⟨b,5,none⟩=some (Iv R.fin):=Qb S.box 5 _ Yz;have n:=Qj S.box 9;have o:=Qj S.box 5;have Z:=Qc (S.endC k);have c:¬ X=b:=fun e=>Zc a S.box (by decide) e;clear S a;refine callsD_of_wpS func110 Yz fun h i d=>?_;apply wpS_seq
 apply wpS_region
 simp[wpOpsS,go_sem,recoverD,d,ntmps110,Exit.thenS]
 rw[show (#[Qfr X]++((Array.replicate 22 undef).setIfInBounds 3 (Value.iface 187 (Iv k))).setIfInBounds 0 (Value.iface 187 (Iv k)):Array Value)=#[Qfr X,Value.iface 187 (Iv k),undef,undef,Value.iface 187 (Iv k),undef,undef,undef,undef,undef,undef,undef,undef,undef,undef,undef,undef,undef,undef,undef,undef,undef,undef] from by kernel_rfl]
 refine wpS_of_wp ?_;have f:∀ w:World,(Instr.typeAssert (.iface 187 (Iv k)) 20 187 true).run prog w=.ok (.tuple #[Iv k,.bool true]) w:=fun _=>by kernel_rfl
 go_wp2
 exact(show bodyPostS _ _ _ _ _ _ _ _ _ from ⟨Yz,_,Yz,.tuple #[],by simp[results,results110,go_sem],Yz,Yz,Z.out⟩)
theorem wenters_step:Qah 69:=fun _ _=>by kernel_rfl
theorem Qe4 (S:WAt w b most m R g) (I:ROk m n R) (t:n<=800000) (y:(modFault m).1=0) (a:R.fuel<=most) (c:most<=100000) (x:RM.step m aOp most R=some r) :
 Calls prog 68 #[Pv b 0,.func (.func 69) #[Pv b 0] #[]] w fun e w'=>e=.returned (.tuple #[])/\WGo g w w' b most m r:=by
 have D:∀ (fn:Fn) (first cap:Array Value) (w:World),(Instr.makeFunc fn first cap).run prog w=.ok (.func fn first cap) w:=fun _ _ _ _=>rfl;have o:=wenters_step;unfold Qah at o;have v:=Qc (ZO w (.cells #[Pv b 0] 62));have H:=Qc (Qe w #[Pv b 0] 62);have B:=Qc (S.below v.out);have p:=Qc (S.stepB v.out);have q:=Qc (Qjr B.out I t y a c x);have l:=Qc S.lt;clear S I t y a c x;go_enter_defers func68,ntmps68
 go_wp2_with fail
 refine q.out.mono ?_;rintro L J C;have h:¬ g.A w.heap.size:=fun e=>by have:=l.out _ e;omega
 have d:w.heap.size<(w.alloc (.cells #[Pv b 0] 62)).heap.size:=by simp
 rcases C with ⟨rfl,u⟩|⟨N,k,i,rfl,⟨O,E,s,K,P⟩⟩
 ·have Z:=Qc (WGo.then p.out u);clear u q o;go_wp2
  refine leaves_cons (f:=110) (args:=#[Qfr w.heap.size]) (by simp) (by simp[go_sem]) ?_;refine(QfN w.heap.size).mono ?_
  rintro z G Q ⟨rfl,rfl,rfl⟩;exact⟨.tuple #[],by simp[results,results68,go_sem],Yz,Z.out⟩
 ·have j:Blk J w.heap.size #[Pv b 0] 62:=(s.block _ d h).trans H.out;show bodyPostD _ _ _ _ _ _;refine leaves_cons (f:=110) (args:=#[Qfr w.heap.size]) (by simp) (by simp[go_sem]) ?_;refine(Qhm k j E).mono ?_
  rintro z G M ⟨rfl,rfl,F⟩;subst i;exact⟨.tuple #[],by simp[results,results68,go_sem],Yz,WGo.then (p.out.trans s) F.go⟩
theorem Qh5 (S:WAt w b most m R g) (I:ROk m n R) (h:n<=800000) (f:(modFault m).1=0) (a:R.fuel<=most) (d:most<=100000) (c:R.done=false) (k:RM.step m aOp most R=some r) :
 Calls prog 34 #[Pv b 0] w fun e w'=>e=.returned (.tuple #[])/\WGo g w w' b most m r:=by
 have o:∀ (fn:Fn) (first cap:Array Value) (w:World),(Instr.makeFunc fn first cap).run prog w=.ok (.func fn first cap) w:=fun _ _ _ _=>rfl;have j:=Qc (Qe4 S I h f a d k);have l:w.cell? ⟨b,9,none⟩=some (.bool R.done):=Qb S.box 9 _ Yz;rw[c] at l
 clear S I h f a d k c;go_enter func34,ntmps34
 go_wp2_with (go_at_call 68;refine j.out.mono ?_;rintro p q ⟨rfl,i⟩;have Z:=Qc i;clear i j)
 exact Xz (v:=.tuple #[]) (by simp[results,results34,go_sem]) Yz ⟨Yz,Z.out⟩
theorem Qg0 (S:WAt w b most m R g) (a:R.done=true) :
 Calls prog 34 #[Pv b 0] w fun e w'=>e=.returned (.tuple #[])/\w'=w:=by
 have c:w.cell? ⟨b,9,none⟩=some (.bool R.done):=Qb S.box 9 _ Z;rw[a] at c
 clear S a;go_enter func34,ntmps34
 go_wp2
 exact Xz (v:=.tuple #[]) (by simp[results,results34,go_sem]) Z ⟨Z,Z⟩
theorem Qfp (S:WAt w b most m R g):Calls prog 33 #[Pv b 0] w fun e w'=>e=.returned (.bool R.done)/\w'=w:=by
 have a:w.cell? ⟨b,9,none⟩=some (.bool R.done):=Qb S.box 9 _ Z;clear S;generalize R.done=c at *;go_enter func33,ntmps33
 go_wp2
 go_ret;exact⟨Z,Z⟩
end
section
variable {w w' w2:World}{b most n:Nat}{m:List (MFunc 6)}{M M' N:IM}{sc sa:Int}{g g1:MG}{e:Ending}
abbrev Qbw (c a:Int):Value:=.agg #[Iv c,Iv a]
end
end Go.Proofs.YtjhdpajpibdnaafGreat
