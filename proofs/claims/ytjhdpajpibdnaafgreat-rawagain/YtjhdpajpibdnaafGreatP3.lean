import Derived.Test.YtjhdpajpibdnaafGreatP2
import Derived.Defers
import Derived.Recover
set_option maxHeartbeats 16000000
set_option maxRecDepth 100000
namespace Go.Proofs.YtjhdpajpibdnaafGreat
open Go.ChangeShapes Go.WideShapes Go.ChangeAt Go.RowKit _root_.Go.Proofs.Tryz
set_option linter.unusedSimpArgs false
set_option linter.unusedVariables false
variable {w w' w6 w1 w2:World}{n b c k m rc ac X j B i cm g N d f fi cap bp q R pages id bi cc funcs s ci rl al ca ri vl most cR cA G:Nat}{O Q O':Nat→Prop}{l xs regs inp:List Int}{p a rg ag pm pi pa pR pA ra aa:Option Addr}{t e:TypeId}{v:Value}{P:Program}{L bs:List Bool}{x ya xc xk fr xa xb xn yb:Int}{ds cs:List Value}{ops:Array Oper}
structure ROk (m:List (MFunc 6)) (n:Nat) (R:RM):Prop where
 est:R.e.Ok
 fr:∀ d∈R.top::R.rest,d.v.length<=n+8/\∃ fn bl,m[d.f]?=some fn/\fn.blocks[d.b]?=some bl/\d.i<=bl.code.length
 inp:R.inp.length<=1000
 out:R.out.length<=2000/\R.back.length<=8
 deep:R.rest.length<=39
def OkW (m:List (MFunc 6)) (n:Nat) (o:Option RM):Prop:=∀ N,o=some N->ROk m n N
section
variable {m:List (MFunc 6)}{n n':Nat}{R R':RM}{x:Qs}{fn:MFunc 6}{bl:MBlock 6}{op:Int->Int->Int->Option Int}
theorem OkW.no:OkW m n none:=fun N h=>by cases h
theorem OkW.some (I:ROk m n R):OkW m n (some R):=fun N h=>by cases h;exact I
theorem OkW.ite {c:Prop}[Decidable c] {a b:Option RM}(d:c->OkW m n a) (e:¬ c->OkW m n b):OkW m n (if c then a else b):=by
 by_cases h:c
 ·rw[Xs h];exact d h
 ·rw[Xr h];exact e h
theorem ROk.mono (I:ROk m n R) (h:n<=n'):ROk m n' R:=⟨I.est,fun d a=>⟨by have:=(I.fr d a).1;omega,(I.fr d a).2⟩,I.inp,I.out,I.deep⟩
theorem ROk.over (I:ROk m n R) (k:Int):ROk m n (R.over k):=⟨I.est,I.fr,I.inp,I.out,I.deep⟩
def Now (m:List (MFunc 6)) (R:RM):Prop:=∃ fn bl,m[R.top.f]?=some fn/\fn.blocks[R.top.b]?=some bl/\R.top.i<bl.code.length
theorem ROk.on (I:ROk m n R) (H:Now m R)(j:l.length<=8):ROk m (n+8) (R.on l):=by
 refine⟨I.est,fun d a=>?_,I.inp,I.out,I.deep⟩
 rcases List.mem_cons.1 a with rfl | a
 ·obtain⟨i,-⟩:=I.fr R.top (by simp)
  obtain⟨h,f,b,e,c⟩:=H
  exact⟨by show (R.top.v++l).length<=_;rw[List.length_append];omega,h,f,b,e,c⟩
 ·obtain⟨i,g⟩:=I.fr d (List.mem_cons_of_mem _ a)
  exact⟨by omega,g⟩
theorem Qag {v:List Int}:∀ {l xs:List Int},Qaz v l=some xs->xs.length=l.length
 | [],xs,h=>by simp[Qaz] at h;subst h;simp
 | k::l,xs,h=>by
   simp only[Qaz] at h
   cases hk:iAt v k with
   | none=>rw[hk] at h;cases h
   | some y =>
     rw[hk] at h
     simp only at h
     cases hl:Qaz v l with
     | none=>rw[hl] at h;cases h
     | some ys =>
       rw[hl] at h
       simp at h
       subst h;simp[Qag hl]
theorem last_of :l=[]\/l.getLastD 0∈l:=by
 rcases List.eq_nil_or_concat l with a | ⟨b,k,a⟩
 ·exact .inl a
 ·right;rw[a];simp
theorem QjA {e:Est}(h:e.Ok) (k n:Int):0<=e.getAt k n/\e.getAt k n<=1040:=by
 have a:=h.ok
 have f:e.p.nextK<64/\-1<=e.p.nextK:=by
  unfold PSt.nextK
  cases hg:e.p.given.getLast? with
  | none =>
    simp only
    have:=a.high
    have:=a.most
    have:=a.low
    split<;>omega
  | some y =>
    have:=a.mem y (List.mem_of_getLast? hg)
    have:=a.high
    have:=a.most
    simp only
    omega
 unfold Est.getAt;split
 ·rename_i b
  unfold Est.getCode at b;split at b
  ·split at b
   ·omega
   ·cases hr:e.reg k.toNat with
    | none=>simp only;omega
    | some r =>
      rw[hr] at b
      simp only at b |-
      split at b
      ·omega
      ·rename_i d
       split
       ·rename_i c
        have:¬ e.p.nextK<0:=fun g=>d ⟨c,g⟩
        omega
       ·have i:=h.used _ _ hr
        have j:0<=r.pages.getLastD 0/\r.pages.getLastD 0<64:=by
         rcases last_of (l:=r.pages) with c | c
         ·rw[c];simp
         ·have:=h.low (k:=k.toNat) (x:=r.pages.getLastD 0) (by rw[Est.at_some hr];exact c)
          have:=a.most
          omega
        omega
  ·omega
 ·exact⟨by decide,by decide⟩
theorem QlW {e:Est}{k n:Int}(h:e.getCode k n≠0):e.got k n=e:=by unfold Est.got;rw[Xr h]
theorem QeI (I:ROk m n R) (H:Now m R){h size:Int}:OkW m (n+8) (some (R.thing h size l)):=by
 refine OkW.some ?_;unfold RM.thing;split
 ·have J:ROk m n { R with e:=(R.e.got h size).withP ((R.e.got h size).p.puts (R.e.getAt h size) l) }:=⟨Est.Ok.puts l _ (I.est.got h size),I.fr,I.inp,I.out,I.deep⟩;exact J.on H (by simp)
 ·exact(I.over 6).mono (by omega)
theorem Qk6 (I:ROk m n R) (H:Now m R):OkW m (n+8) (R.part x):=by
 have d:∀ {v:Int},OkW m (n+8) (some (R.on [v])):=OkW.some (I.on H (by simp));have e:∀ {k v:Int},OkW m (n+8) (some ((R.stored k v).on [])):=fun {k v}=>OkW.some (ROk.on (R:=R.stored k v) ⟨I.est.store k v,I.fr,I.inp,I.out,I.deep⟩ H (by simp));have f:∀ k,OkW m (n+8) (some (R.over k)):=fun k=>OkW.some ((I.over k).mono (by omega));unfold RM.part
 cases ha:iAt R.top.v x.a with
 | none=>exact OkW.no
 | some a =>
   refine OkW.ite (fun _=>d) fun _=>OkW.ite (fun _=>?_) fun _=>OkW.ite (fun _=>?_) fun _=>OkW.ite (fun _=>?_) fun _=>OkW.ite (fun _=>d) fun _=>OkW.some (I.on H (by simp))
   ·cases hb:iAt R.top.v x.b with
    | none=>exact OkW.no
    | some y=>exact e
   ·cases hb:iAt R.top.v x.b with
    | none=>exact OkW.no
    | some y=>exact OkW.ite (fun _=>d) (fun _=>f 2)
   ·cases hb:iAt R.top.v x.b with
    | none=>exact OkW.no
    | some y =>
      cases hc:iAt R.top.v x.c with
      | none=>exact OkW.no
      | some z=>exact OkW.ite (fun _=>e) (fun _=>f 2)
theorem Qiv (I:ROk m n R) (H:Now m R) (z:(modFault m).1=0) (w:x.form m.length=0):OkW m (n+8) (RM.ins op R x):=by
 obtain⟨-,F,s⟩:=QcK w
 have i:∀ {v:Int},OkW m (n+8) (some (R.on [v])):=OkW.some (I.on H (by simp));have g:∀ k,OkW m (n+8) (some (R.over k)):=fun k=>OkW.some ((I.over k).mono (by omega));unfold RM.ins;refine OkW.ite (fun _=>i) fun _=>OkW.ite (fun _=>?_) fun _=>OkW.ite (fun _=>OkW.ite (fun _=>OkW.some ?_) (fun _=>g 6)) fun _=>OkW.ite (fun _=>?_) fun _=>OkW.ite (fun _=>?_) fun _=>OkW.ite (fun _=>?_) fun _=>OkW.ite (fun _=>?_) fun _=>OkW.ite (fun _=>?_) fun _=>OkW.ite (fun e=>OkW.ite (fun y=>?_) (fun _=>g 5)) (fun _=>Qk6 I H)
 ·cases ha:iAt R.top.v x.a with
  | none=>exact OkW.no
  | some a =>
    cases q:iAt R.top.v x.b with
    | none=>exact OkW.no
    | some b =>
      simp only
      cases ho:op x.k a b with
      | none=>exact g 1
      | some c=>exact i
 ·exact ROk.on (R:={ R with e:=R.e.opened }) ⟨I.est.opened,I.fr,I.inp,I.out,I.deep⟩ H (by simp)
 ·cases ha:iAt R.top.v x.a with
  | none=>exact OkW.no
  | some a=>exact OkW.some (ROk.on (R:={ R with e:=R.e.shut a }) ⟨I.est.shut a,I.fr,I.inp,I.out,I.deep⟩ H (by simp))
 ·cases ha:iAt R.top.v x.a with
  | none=>exact OkW.no
  | some a=>cases hv:Qaz R.top.v x.args with
    | none=>exact OkW.no
    | some l=>exact QeI I H
 ·cases ha:iAt R.top.v x.a with
  | none=>exact OkW.no
  | some a=>cases q:iAt R.top.v x.b with
    | none=>exact OkW.no
    | some k=>exact OkW.ite (fun _=>QeI I H) (fun _=>g 3)
 ·cases p:R.inp with
  | nil=>exact g 4
  | cons k l =>
    have t:=I.inp;rw[p] at t
    exact OkW.some (ROk.on (R:={ R with inp:=l }) ⟨I.est,I.fr,by simp at t;show l.length<=1000;omega,I.out,I.deep⟩ H (by simp))
 ·cases ha:iAt R.top.v x.a with
  | none=>exact OkW.no
  | some a=>exact OkW.ite (fun h=>OkW.some (ROk.on (R:={ R with out:=R.out++[a] }) ⟨I.est,I.fr,I.inp,⟨by show (R.out++[a]).length<=2000;simp;omega,I.out.2⟩,I.deep⟩ H (by simp))) (fun _=>g 8)
 ·cases hv:Qaz R.top.v x.args with
  | none=>exact OkW.no
  | some l =>
    refine OkW.some ?_;obtain⟨D,E,-,J⟩:=s e
    obtain⟨f,o⟩:∃ f,m[x.k.toNat]?=some f:=⟨_,Zg (by omega)⟩
    obtain⟨u,r,-⟩:=Qaa z o
    have C:=Qag hv;refine⟨I.est,fun d j=>?_,I.inp,I.out,by show (_::R.rest).length<=39;simp;omega⟩
    simp only[List.mem_cons] at j
    rcases j with rfl | rfl | j
    ·exact⟨by show l.length<=_;omega,f,u,o,r,Xb _⟩
    ·obtain⟨G,-⟩:=I.fr R.top (by simp)
     obtain⟨A,B,o,q,p⟩:=H
     exact⟨by show R.top.v.length<=_;omega,A,B,o,q,p⟩
    ·have h:=I.fr d (List.mem_cons_of_mem _ j);exact⟨by omega,h.2⟩
theorem Qlh (I:ROk m n R) (c:m[R.top.f]?=some fn){t:MTo}(g:t.args.length<=8/\0<=t.block/\t.block<(fn.blocks.length:Int)):OkW m n (R.to t):=by
 unfold RM.to
 cases hv:Qaz R.top.v t.args with
 | none=>exact OkW.no
 | some l =>
   obtain⟨b,e⟩:∃ b,fn.blocks[t.block.toNat]?=some b:=⟨_,Zg (by omega)⟩
   have h:=Qag hv;refine OkW.some ⟨I.est,fun d a=>?_,I.inp,I.out,I.deep⟩;rcases List.mem_cons.1 a with rfl | a
   ·exact⟨by show l.length<=_;omega,fn,b,c,e,Xb _⟩
   ·exact I.fr d (List.mem_cons_of_mem _ a)
theorem Qkz (I:ROk m n R) (o:m[R.top.f]?=some fn){e:ZE}(q:e.form fn.blocks.length=0):OkW m (n+8) (R.endd e):=by
 obtain⟨z,w,r,i⟩:=Qfd q
 have Y:e.op≠3->OkW m (n+8) (R.to e.yes):=fun s N h=>(Qlh I o (by have:=Qec (r s);omega) N h).mono (by omega);unfold RM.endd;refine OkW.ite (fun g=>?_) fun g=>OkW.ite (fun p=>?_) fun _=>Y g
 ·cases hv:Qaz R.top.v e.args with
  | none=>exact OkW.no
  | some l =>
    have y:=Qag hv
    cases hr:R.rest with
    | nil =>
      simp only
      have b:=I.fr;rw[hr] at b
      exact OkW.some (ROk.mono (n:=n) ⟨I.est,fun d t=>b d t,I.inp,⟨I.out.1,by show l.length<=8;omega⟩,by have:=I.deep;rw[hr] at this;exact this⟩ (by omega))
    | cons d rest =>
      simp only
      refine OkW.some ⟨I.est,fun c j=>?_,I.inp,I.out,by have:=I.deep;rw[hr] at this;simp at this;show rest.length<=39;omega⟩;rcases List.mem_cons.1 j with rfl | j
      ·obtain⟨x,u⟩:=I.fr d (by rw[hr];simp)
       exact⟨by show (d.v++l).length<=_;rw[List.length_append];omega,u⟩
      ·have h:=I.fr c (by rw[hr];simp[j]);exact⟨by omega,h.2⟩
 ·cases iAt R.top.v e.a with
  | none=>exact OkW.no
  | some k=>exact OkW.ite (fun _=>fun N h=>(Qlh I o (by have:=Qec (i p);omega) N h).mono (by omega)) (fun _=>Y g)
theorem QkX (I:ROk m n R) (e:(modFault m).1=0):OkW m (n+8) (RM.step m op most R):=by
 unfold RM.step;refine OkW.ite (fun _=>OkW.some ((I.over 7).mono (by omega))) fun _=>?_;obtain⟨-,f,c,a,b,h⟩:=I.fr R.top (by simp)
 rw[a]
 simp only
 rw[b]
 simp only
 have g:=(Zn e).2 f (Zm a);have d:=g.blocks c (Zm b);have J:ROk m n { R with fuel:=R.fuel+1 }:=⟨I.est,I.fr,I.inp,I.out,I.deep⟩
 cases hx:c.code[R.top.i]? with
 | none=>exact Qkz J a d.fin
 | some x=>exact Qiv J ⟨f,c,a,b,(Zi hx).1⟩ e (d.code x (Zm hx))
theorem Qc1 (f:(modFault m).1=0)(hi:inp.length<=1000)(g:pages<=64):ROk m 0 (RM.start inp pages):=by
 have i:=(Zn f).1.1;obtain⟨b,c⟩:∃ b,m[0]?=some b:=⟨_,Zg i⟩
 obtain⟨h,a,-⟩:=Qaa f c
 refine⟨Est.ok_new pages g,fun d e=>?_,hi,⟨by simp[RM.start],by simp[RM.start]⟩,by simp[RM.start]⟩
 simp only[RM.start,List.mem_cons,List.not_mem_nil,or_false] at e
 subst e;exact⟨by simp,b,h,c,a,Xb _⟩
theorem QcI (b:(modFault m).1=0)(I:ROk m 0 R):∀ (k:Nat){N:RM},RM.steps m op most k R=some N->ROk m (8*k) N:=by
 intro k
 have a:∀ (k:Nat) (n:Nat) (Q N:RM),ROk m n Q->RM.steps m op most k Q=some N->ROk m (n+8*k) N:=by
  intro k
  induction k with
  | zero=>intro n Q N J h;simp only[RM.steps] at h;cases h;exact J
  | succ k ih =>
    intro n Q N J h;simp only[RM.steps] at h
    split at h
    ·cases h;exact J.mono (by omega)
    ·cases hs:RM.step m op most Q with
     | none=>rw[hs] at h;cases h
     | some Q' =>
       rw[hs] at h
       exact(ih (n+8) Q' N (QkX J b Q' hs) h).mono (by omega)
 intro N h
 have:=a k 0 R N I h
 rwa [XK] at this
end
theorem Xz:type_of% @bodyPost_end:=@bodyPost_end
abbrev QdA (c:Int):List PanicEntry:=[{ v:=.iface 187 (Iv c),recovered:=false }]
theorem QaI (w:World) (c:Int):Calls prog 111 #[.bool true,Iv c] w fun e w'=>e=.returned (.tuple #[])/\w'=w:=by
 go_enter func111,ntmps111
 go_wp2
 exact Xz (v:=.tuple #[]) (by simp[results,results111,go_sem]) Z ⟨Z,Z⟩
theorem Z2 (w:World) (c:Int):Calls prog 111 #[.bool false,Iv c] w fun e w'=>e=.panicked (QdA c)/\w'=w:=by
 go_enter func111,ntmps111
 go_wp2
 exact⟨Z,Z,Z⟩
def RM.push (R:RM) (l:List Int):RM:={ R with top:={ R.top with v:=R.top.v++l } }
theorem Qm8 (n:Nat) (f:n<=1099511627776) (w:World):(Instr.makeSlice 25 (Iv (n:Int)) (Iv (n:Int))).run prog w=.ok (.slice (some ⟨w.heap.size,0,none⟩) n n) (w.alloc (.cells (madeCells (#[Iv 0]:Array Value) n) 2)):=by
 obtain⟨e,d,c,a,b⟩:=iInfo64
 exact run_make_row (P:=prog) 25 2 e (Iv 0) iUnder64 d c a Z .i64 .i64 n (by rw[b];omega) (by omega) w
theorem QbP.of {w:World}(e:l.length=n) (g:n<=1099511627776) (h:w.rowIs k 2 n (fun i=>Iv (l.getD i 0))):QbP w (.slice (some ⟨k,0,none⟩) n n) l:=by
 subst e;obtain⟨c,d,f,b⟩:=h
 refine⟨by simp,.inr ⟨k,l.length,c,Z,Xb _,d,Ze,by unfold maxLen;omega,by simpa using f,?_⟩⟩
 refine List.ext_getElem? (fun i=>?_);rw[XR,Array.getElem?_toList,XS,XL]
 by_cases a:i<l.length
 ·rw[Xs a,b i a,Zg a];simp[List.getD,a]
 ·rw[Xr a,Xk (by omega)];rfl
theorem QbP.cell {w:World}{v:Value}(h:QbP w v l):∃ a c,v=.slice a l.length c/\∀ i,i<l.length->∃ k,a=some ⟨k,0,none⟩/\v.ownBlock=some k/\w.cell? ⟨k,i,none⟩=some (Iv (l.getD i 0)):=by
 rcases h.2 with ⟨e,j⟩|⟨k,d,m,e,_,n,p,o,q,g⟩
 ·exact⟨none,0,by rw[e,j],fun i b=>by omega⟩
 ·refine⟨_,d,e,fun i b=>⟨k,Z,by rw[e];rfl,?_⟩⟩
  have f:(l.map (Value.int .i64))[i]?=some (Iv (l.getD i 0)):=by rw[XS,Zg b];simp[List.getD,b]
  rw[<-g,XR,Xs (by omega),Array.getElem?_toList] at f
  exact Qb n _ _ f
theorem Qk9 {v:List Int}{a:Int}(h:iAt v a=some x):∃ j:Nat,a=j/\j<v.length/\x=v.getD j 0:=by
 unfold iAt at h;split at h
 ·cases h
 ·rename_i b
  refine⟨a.toNat,by omega,(Zi h).1,?_⟩
  simp[List.getD,h]
theorem Qih {v:List Int}:∀ {l xs:List Int},Qaz v l=some xs->∀ (q:Nat) (a:Int),l[q]?=some a->iAt v a=some (xs.getD q 0)/\q<xs.length
 | [],xs,h,q,a,ha=>by simp at ha
 | k::l,xs,h,q,a,ha=>by
   simp only[Qaz] at h
   cases hk:iAt v k with
   | none=>rw[hk] at h;cases h
   | some y =>
     rw[hk] at h
     simp only at h
     cases hl:Qaz v l with
     | none=>rw[hl] at h;cases h
     | some ys =>
       rw[hl] at h
       simp at h
       subst h
       cases q with
       | zero=>simp at ha;subst ha;exact⟨by simpa using hk,by simp⟩
       | succ q =>
         obtain⟨b,c⟩:=Qih hl q a (by simpa using ha)
         exact⟨by simpa[List.getD] using b,by simp;omega⟩
def Qm3 (w:World) (xs:List Int) (n:Nat) (e:Ending) (w':World):Prop:=∃ k,e=.returned (.slice (some ⟨k,0,none⟩) n n)/\w.heap.size<=k/\QbP w' (.slice (some ⟨k,0,none⟩) n n) xs/\Below w.heap.size w w'
section
variable {w:World}{c:Nat}{fr:RFr}{v:Value}
theorem Qef (F:WFr w c fr v) (hl:fr.v.length<=1000000){U:Nat}(G:l.length=n) (hb:n<=1000000) (V:intsL.In w Q l [.slice p n U]) (x:Qaz fr.v l=some xs) :
 Calls prog 167 #[Pv c 0,.slice p n U] w fun e w'=>Qm3 w xs n e w':=by
 have I:=Qm8 n (by omega) w;have z:=Qc (World.rowIs_made w (Iv 0) n 2);have W:=Qc (ZO w (.cells (madeCells (#[Iv 0]:Array Value) n) 2));have B:=Qc V;have S:=Qc G;have s:=Qc x;have E:Hid (xs.length=n):=(Qag x).trans G;obtain⟨va,vc,ev,R⟩:=F.2.cell
 have A:w.cell? ⟨c,3,none⟩=some v:=Qb F.1 3 _ Z;rw[ev] at A
 have J:=Qc R;have X:=Qc A;clear V G F x R A;go_enter func167,ntmps167
 go_upto_region 2 with fail
 generalize w.alloc (.cells (madeCells (#[Iv 0]:Array Value) n) 2)=w1 at z W |-;clear I;obtain⟨g,M⟩:∃ g,g=w.heap.size:=⟨_,Z⟩
 have K:Hid (w.heap.size<=g):=by show _<=_;omega
 rw[<-M] at z |-
 clear M;go_wp2_with fail
 go_loopw [13] (fun i wr=>∃ q:Nat,q<=n/\i=Iv q/\wr.rowIs g 2 n (fun i=>if i<q then Iv (xs.getD i 0) else Iv 0)/\Below w.heap.size w wr) (fun i _=>n - (intOf i).toNat)
 case atStart=>exact⟨0,Xb _,Z,z.out.congr (fun i _=>by rw[Xr (by omega)]),W.out⟩
 case round =>
  obtain⟨q,hq,rfl,N,P⟩:=hrel
  have o:=Qc N;have d:=Qc P;clear N P;by_cases b:q<n
  ·have T:(q:Int)<n:=by omega
   obtain⟨a,u⟩:∃ a,l[q]?=some a:=⟨_,Zg (by rw[S.out];exact b)⟩
   have h:q<l.length:=by rw[S.out];exact b
   obtain⟨m,D⟩:=Qih s.out q a u
   obtain⟨j,rfl,hj,f⟩:=Qk9 m
   obtain⟨g1,o1,rfl,-,H,C⟩:=ZH B.out h
   rw[show l.getD q 0=(j:Int) by rw[List.getD_eq_getElem?_getD,u];rfl] at C
   have C:=Qk C d.out;obtain⟨k,rfl,-,r⟩:=J.out j hj
   rw[<-f] at r
   have r:=Qk r d.out;have c3:=Qk X.out d.out;have aa:(j:Int)<fr.v.length:=by omega
   have p0:=o.out.cell b;rw[Xr (by omega)] at p0
   have f0:=o.out.frozen q
   have PR:Hid ((wr.setCell ⟨g,q,none⟩ (Iv (xs.getD q 0))).rowIs g 2 n (fun i=>if i<q+1 then Iv (xs.getD i 0) else Iv 0)):=(o.out.set q (Iv (xs.getD q 0))).congr (fun i L=>by
    by_cases e:i=q
    ·subst e;rw[Xs Z,Xs (by omega)]
    ·rw[Xr e]
     by_cases O:i<q
     ·rw[Xs O,Xs (by omega)]
     ·rw[Xr O,Xr (by omega)])
   have PB:Hid (Below w.heap.size w (wr.setCell ⟨g,q,none⟩ (Iv (xs.getD q 0)))):=d.out.setCell (p:=⟨g,q,none⟩) K.out _;clear h H u m D f;generalize xs.getD q 0=xq at *;generalize fr.v.length=vl at *;clear o d J B s;go_wp2
   go_roundw
   case rel=>exact⟨q+1,by omega,by go_num,PR.out,PB.out⟩
   case measure=>simp[intOf];omega
  ·have y:q=n:=by omega
   subst y;have t:=Qc (QbP.of E.out (by omega) (o.out.congr (fun i L=>by rw[Xs L])));clear J B s;go_wp2
   go_ret;exact⟨g,Z,K.out,t.out,d.out⟩
end
section
variable {w w' w2:World}{b most:Nat}{m:List (MFunc 6)}{R R':RM}{g g1:WG}{c:Nat}{fr:RFr}{v:Value}
theorem WAt.pushed (S:WAt w b most m R g){v9:Value}{w9:World}(r:w9.ownsRow 0 2 1 v9 (R.top.v.length+l.length) (R.top.v.map (Value.int .i64)++l.map (Value.int .i64))) (a:w.grownBy w9 g.t.v.ownBlock) (q:∀ k,v9.ownBlock=some k->g.t.v.ownBlock=some k\/k=w.heap.size) :
 WTo g w (w9.setCell ⟨g.t.c,3,none⟩ v9) b most m (R.push l):=by
 obtain⟨⟨F,p,s⟩,-⟩:=S.frs
 have n:=XC F.1;have f:∀ x,g.t.v.ownBlock=some x->x≠g.t.c:=fun x j e=>by have:=s x j;rw[e,p] at this;omega
 have o:w9.heap[g.t.c]?=_:=(a.block g.t.c n (fun e=>f _ e.symm Z)).trans F.1
 have i:∀ k,v9.ownBlock=some k->k≠g.t.c:=fun k d e=>by
  rcases q k d with h | h
  ·exact f k h e
  ·omega
 refine S.setTop a.os a.tape a.output (by simpa using a.size) (fun k d u p=>?_) ⟨?_,?_⟩ (fun k d=>(q k d).imp id (fun e=>by omega))
 ·rw[Xd _ _ _ _ u]
  exact a.block k d (fun e=>p e.symm)
 ·have:=Qh o 3 v9
  simpa using this
 ·show World.ownsRow _ 0 _ 1 v9 (R.top.v++l).length ((R.top.v++l).map (Value.int .i64));rw[List.length_append,List.map_append]
  exact QY r (fun x j=>Xd _ _ _ _ (i x j))
theorem Qb2 (S:WAt w b most m R g){B:Nat}{a:Addr}(J:l.length=n) (d:∀ (j:Nat) (u:Value),(l.map (Value.int .i64))[j]?=some u->w.cell? (a.add j)=some u) (L:R.top.v.length+n<=1000000) :
 Calls prog 169 #[Pv g.t.c 0,.slice (some a) n B] w fun e w'=>e=.returned (.tuple #[])/\WTo g w w' b most m (R.push l):=by
 obtain⟨G,E,r,s,q⟩:=iInfo64
 subst J;obtain⟨⟨F,D,z⟩,-⟩:=S.frs
 obtain⟨N,O,K⟩:=QaR F.2
 have A:=Qb F.1 3 _ Z;have h:Hid (g.t.v.ownBlock≠some g.t.c):=fun e=>by have:=z _ e;rw[D] at this;omega
 have k:=Qc F.2;have i:=Qc F.1;have H:=Qc d;have p:=Qc (fun v9 w9=>S.pushed (l:=l) (v9:=v9) (w9:=w9));clear S F d D z;go_enter func169,ntmps169
 unfold QbP at k;rw[K] at A k p i h
 go_wp2_with (at_builtin;refine ZN _ Z _ _ 25 Z 2 G (Iv 0) 1 8 iUnder64 E r s q Z (by decide) _ _ _ Z k.out a l.length B (l.map (Value.int .i64)) Z (by simp) H.out (by intro u I;obtain⟨x,_,rfl⟩:=List.mem_map.1 I;rfl) (by unfold maxLen;omega) (by omega) ?_)
 intro v9 w9 y o C;have R:=Qc (p.out v9 w9 y o C);have f:=(o.block g.t.c (XC i.out) (fun e=>h.out e.symm)).trans i.out;have M:=Qb f 3 _ Z;have T:=Qj f 3;obtain⟨P,Q,rfl⟩:=QaR y
 clear y o C p f i k A;go_wp2
 exact Xz (v:=.tuple #[]) (by simp[results,results169,go_sem]) Z ⟨Z,R.out⟩
theorem QmL (w:World) (n:Int):∀ (j:Nat) (u:Value),([n].map (Value.int .i64))[j]?=some u->(w.alloc (.cells #[Iv n] 2)).cell? ((⟨w.heap.size,0,none⟩:Addr).add j)=some u:=QmY w [Iv n] 2
theorem Qb7 (S:WAt w b most m R g) (n:Int) (d:R.top.v.length+1<=1000000) :
 Calls prog 169 #[Pv g.t.c 0,.slice (some ⟨w.heap.size,0,none⟩) 1 1] (w.alloc (.cells #[Iv n] 2)) fun e w'=>e=.returned (.tuple #[])/\WTo g w w' b most m (R.push [n]):=by
 have a:=ZO w (.cells #[Iv n] 2);refine(Qb2 (S.below a) (l:=[n]) Z (QmL w n) d).mono ?_
 rintro e w' ⟨rfl,h⟩;exact⟨Z,WTo.then (S.stepB a) Z Z h⟩
def Qmu (w:World) (fr:RFr) (e:Ending) (w':World):Prop:=∃ k x n,e=.returned (Pv k 0)/\w.heap.size<=k/\w.heap.size<=x/\WFr w' k fr (.slice (some ⟨x,0,none⟩) n n)/\Below w.heap.size w w'
theorem QdK (F:WFr w c fr v) (r:fr.v.length<=1000000){m:Nat}(d:l.length=n) (g:n<=1000000) (o:intsL.In w Q l [.slice p n m]) (a:Qaz fr.v l=some xs) (j f:Nat) :
 Calls prog 216 #[Pv c 0,Iv j,Iv f,.slice p n m] w fun e w'=>Qmu w ⟨j,f,0,xs⟩ e w':=by
 have C:=Qc (Qef F r d g o a);have s:Hid (xs.length=n):=(Qag a).trans d;clear F d g o a;go_enter func216,ntmps216
 go_wp2_with (go_at_call 167;refine C.out.mono ?_;rintro t i ⟨k,rfl,q,h,b⟩)
 go_ret;exact⟨i.heap.size,k,n,Z,b.size,q,⟨Qe _ _ _,QY h (fun x a=>Below.heap_alloc _ _ _ (QbP.lt h a))⟩,b.trans ((ZO i _).mono b.size)⟩
theorem WAt.callsForm (S:WAt w b most m R g):∃ gc cap,g.vc=.slice (some ⟨gc,0,none⟩) (R.rest.length+1) cap/\R.rest.length+1<=cap/\w.cell? ⟨gc,R.rest.length,none⟩=some (Pv g.t.c 0):=by
 rcases S.calls.2 with ⟨_,k⟩|⟨gc,cap,h,e,_,j,i,l,n,d⟩
 ·omega
 ·refine⟨gc,cap,e,i,?_⟩
  have f:=S.rows
  have a:(Qaw (g.t::g.fs))[R.rest.length]?=some (Pv g.t.c 0):=by
   simp[Qaw,<-f]
  rw[<-d,XR,Xs (by omega),Array.getElem?_toList] at a
  exact Qb j _ _ a
theorem QgF (S:WAt w b most m R g) (l:R.rest.length<=1000) :
 Calls prog 112 #[Pv b 0] w fun e w'=>e=.returned (Pv g.t.c 0)/\Below w.heap.size w w':=by
 obtain⟨k,f,d,a,o⟩:=S.callsForm
 have h:w.cell? ⟨b,4,none⟩=some g.vc:=Qb S.box 4 _ Z;rw[d] at h
 clear d S;generalize R.rest.length=n at *;have j:(↑(n+1):Int) - 1=n:=by omega
 have i:(n:Int)<(n:Int)+1:=by omega
 go_enter func112,ntmps112
 go_upto_region 1 with fail
 go_quiet (fail)
 go_wp2
 go_ret;exact⟨Z,Qah Zr _⟩
end
theorem Zu.cellAt {e:Est}{L g:Nat->Nat}(h:Zu w b O e L bp g) (k:Nat) (a:k<16):w.cell? ⟨b,1+k,none⟩=some (QaP (e.reg k) (g k)):=by
 have:=h.row.cell (i:=1+k) (by omega)
 rw[this]
 simp[Qmc]
theorem Zu.cell0 {e:Est}{L g:Nat->Nat}(h:Zu w b O e L bp g):w.cell? ⟨b,0,none⟩=some (Pv bp 0):=by
 have:=h.row.cell (i:=0) (by omega)
 rw[this];rfl
theorem QhZ (w:World) (b a:Nat) (O:Nat->Prop) (e:Est) (k:Int) (h:QW w b a O e) :
 Calls prog 217 #[Pv b 0,Iv k] w fun e' w'=>e'=.returned (.bool (e.has k))/\w'=w:=by
 obtain⟨L,g,h⟩:=h
 by_cases d:0<=k
 ·by_cases f:k<16
  ·obtain⟨j,rfl⟩:=Xc d
   have c:=h.cellAt j (by omega)
   cases hr:e.reg j with
   | none =>
     rw[hr] at c
     have E:Hid (e.has j=false):=Est.has_none hr;simp only[QaP] at c
     clear h hr;go_enter func217,ntmps217
     go_wp2
     go_ret;exact⟨by rw[E.out];rfl,Z⟩
   | some r =>
     rw[hr] at c
     have E:Hid (e.has j=true):=Est.has_of (by omega) hr;simp only[QaP] at c
     clear h hr;go_enter func217,ntmps217
     go_wp2
     go_ret;exact⟨by rw[E.out];rfl,Z⟩
  ·have E:Hid (e.has k=false):=Est.has_out (by omega);clear h;go_enter func217,ntmps217
   go_wp2
   go_ret;exact⟨by rw[E.out];rfl,Z⟩
 ·have E:Hid (e.has k=false):=Est.has_out (by omega);clear h;go_enter func217,ntmps217
  go_wp2
  go_ret;exact⟨by rw[E.out];rfl,Z⟩
def Qbi (e:Est) (g:Nat->Nat):List Value:=(List.range 16).map fun k=>QaP (e.reg k) (g k)
theorem Zu.range {e:Est}{L g:Nat->Nat}(h:Zu w b O e L bp g):w.rangeAt b 1 (Qbi e g):=by
 intro j v a
 have c:j<16:=by
  have:=(Zi a).1
  simpa[Qbi] using this
 rw[h.cellAt j c,<-a]
 simp[Qbi,c]
theorem QdL (w:World) (e:Est) (g:Nat->Nat) (k:Nat) (a:k<16) :
 (Instr.index 71 (.agg (Qbi e g).toArray) (Iv k)).run prog w=.ok (QaP (e.reg k) (g k)) w:=by
 have c:(Qbi e g)[k]?=some (QaP (e.reg k) (g k)):=by simp[Qbi,a]
 have b:(sizeOf 70).run prog w=.ok 1 w:=by kernel_rfl
 simp[Instr.index,run_underlying underlying71,asIntOf,b,part,a,c]
theorem Qmd (w:World) (b j:Nat) (O:Nat->Prop) (e:Est) (h:QW w b j O e) :
 Calls prog 36 #[Pv b 0] w fun e' w'=>e'=.returned (Iv e.count)/\w'=w:=by
 obtain⟨L,g,h⟩:=h
 have c:Hid (w.rangeAt b 1 (Qbi e g)):=h.range;clear h;go_enter func36,ntmps36
 go_wp2_with (refine wpList_load_mid Z 71 (.tmp 8) Z b 1 Z (Qbi e g) _ c.out underlying71 Z (by kernel_rfl) ?_)
 go_loop [3,10] (fun n i=>∃ k:Nat,k<=16/\i=Iv k/\n=Iv (Q9 e.reg k)) (fun _ i=>16 - (intOf i).toNat)
 case atStart=>exact⟨0,by omega,Z,Z⟩
 case round =>
  obtain⟨k,l,rfl,rfl⟩:=hrel
  have m:=Qa6 e.reg k;by_cases f:k<16
  ·have a:=fun w=>QdL w e g k f
   cases hr:e.reg k with
   | none =>
     have E:Hid (Q9 e.reg (k+1)=Q9 e.reg k):=by show _=_;simp[Q9,hr]
     rw[hr] at a
     simp only[QaP] at a
     clear hr;go_wp2
     go_round
     case rel=>exact⟨k+1,by omega,by go_num,by rw[E.out]⟩
     case measure=>simp[intOf];omega
   | some r =>
     have E:Hid (Q9 e.reg (k+1)=Q9 e.reg k+1):=by show _=_;simp[Q9,hr]
     rw[hr] at a
     simp only[QaP] at a
     clear hr;go_wp2
     go_round
     case rel=>exact⟨k+1,by omega,by go_num,by rw[E.out]⟩
     case measure=>simp[intOf];omega
  ·have d:k=16:=by omega
   subst d;have E:Hid (Q9 e.reg 16=e.count):=rfl;go_wp2
   go_ret;exact⟨by rw[E.out];rfl,Z⟩
def newReg:Obj:=.cells #[Nv,Iv 0] 285
theorem Zu.mono {e:Est}{L g:Nat->Nat}(h:Zu w b O e L bp g) (c:∀ x,O x->x<w.heap.size->O' x):Zu w b O' e L bp g :=
 ⟨h.row,h.own,h.pool,h.reg,fun x a=>⟨c x (h.all x a).1 (h.all x a).2,(h.all x a).2⟩⟩
theorem Zu.opened {e:Est}{L g:Nat->Nat}(h:Zu w b O e L bp g) (k:Nat) (z:k<16) (B:e.reg k=none) :
 QW ((w.alloc newReg).setCell ⟨b,1+k,none⟩ (Pv w.heap.size 0)) b bp (Q3 O w ((w.alloc newReg).setCell ⟨b,1+k,none⟩ (Pv w.heap.size 0))) (e.set k (some ⟨[],0⟩)) /\
 Qz O (Q3 O w ((w.alloc newReg).setCell ⟨b,1+k,none⟩ (Pv w.heap.size 0))) w ((w.alloc newReg).setCell ⟨b,1+k,none⟩ (Pv w.heap.size 0)):=by
 have m:Qz (fun x=>L x=1) (fun x=>L x=1) w ((w.alloc newReg).setCell ⟨b,1+k,none⟩ (Pv w.heap.size 0)):=((Qz.refl _ w).alloc newReg).setCell (p:=⟨b,1+k,none⟩) h.own _;have u:=h.row.lt;have c:=(h.row.alloc newReg).set (1+k) (Pv w.heap.size 0)
 have d:((w.alloc newReg).setCell ⟨b,1+k,none⟩ (Pv w.heap.size 0)).heap[w.heap.size]?=some (.cells #[Nv,Iv 0] 285 (0,0)):=by
  rw[Xd _ _ _ _ (show w.heap.size≠b by omega)];exact Qe w _ _
 have f:((w.alloc newReg).setCell ⟨b,1+k,none⟩ (Pv w.heap.size 0)).heap.size=w.heap.size+1:=by simp
 generalize (w.alloc newReg).setCell ⟨b,1+k,none⟩ (Pv w.heap.size 0)=r at *;refine⟨⟨QbB L (k+3) w r,fun j=>if j=k then w.heap.size else g j,?_,?_,?_,?_,?_⟩,Qdb h.all (by decide) m⟩
 ·refine c.congr fun i A=>?_;unfold Qmc QaP Est.set;by_cases o:i=0
  ·subst o;rw[Xr (by omega)];rfl
  ·by_cases a:i=1+k
   ·subst a;simp
   ·have t:¬ (i - 1=k):=by omega
    simp[o,a,t]
 ·exact(Zf h.all (by omega) (by decide) b).2 h.own
 ·exact(h.pool.step m (fun x v y=>by omega)).mono (fun x l _=>(Zf h.all (by omega) (by decide) x).2 l)
 ·intro j q s;by_cases a:j=k
  ·subst a
   have:q=⟨[],0⟩:=by simpa[Est.set] using s.symm
   subst this;refine⟨Nv,?_,Row.nil _ _ _,?_⟩
   ·simpa[Reg.left] using d
   ·simp[QbB,f]
  ·have n:e.reg j=some q:=by simpa[Est.set,a] using s
   have:=((h.reg j q n).step m (fun x v y=>by omega)).mono (O':=fun x=>QbB L (k+3) w r x=j+3) (fun x l _=>(Zf h.all (by omega) (by omega) x).2 l)
   simpa[a] using this
 ·exact QcG h.all (by omega) (by omega)
theorem QW.refl_grow {e:Est}(h:QW w b bp O e):QW w b bp (Q3 O w w) e:=h.mono Qfi
theorem QjX (w:World) (b f:Nat) (O:Nat->Prop) (e:Est) (h:QW w b f O e) :
 Calls prog 170 #[Pv b 0] w fun e' w'=>e'=.returned (Iv e.openK)/\QW w' b f (Q3 O w w') e.opened/\Qz O (Q3 O w w') w w':=by
 have q:=h;obtain⟨L,g,h⟩:=h
 have m:Hid (w.rangeAt b 1 (Qbi e g)):=h.range;have l:Hid (Zu w b O e L f g):=h;have s:=h.row.lt;clear h;have t:Hid (QW w b f O e):=q;clear q;go_enter func170,ntmps170
 go_wp2_with (refine wpList_load_mid Z 71 (.tmp 7) Z b 1 Z (Qbi e g) _ m.out underlying71 Z (by kernel_rfl) ?_)
 go_loop [9] (fun i=>∃ k:Nat,k<=16/\i=Iv k/\∀ j,j<k->e.reg j≠none) (fun i=>16 - (intOf i).toNat)
 case atStart=>exact⟨0,by omega,Z,fun j o=>by omega⟩
 case round =>
  obtain⟨k,u,rfl,a⟩:=hrel
  by_cases d:k<16
  ·have c:=fun w=>QdL w e g k d
   cases hr:e.reg k with
   | none =>
     have E:Hid (e.openK=k/\e.opened=e.set k (some ⟨[],0⟩)):=Est.open_yes a d hr;have Q:=l.out.opened k d hr
     have D:Hid (QW ((w.alloc newReg).setCell ⟨b,1+k,none⟩ (Pv w.heap.size 0)) b f (Q3 O w ((w.alloc newReg).setCell ⟨b,1+k,none⟩ (Pv w.heap.size 0))) (e.set k (some ⟨[],0⟩)) /\
      Qz O (Q3 O w ((w.alloc newReg).setCell ⟨b,1+k,none⟩ (Pv w.heap.size 0))) w ((w.alloc newReg).setCell ⟨b,1+k,none⟩ (Pv w.heap.size 0))):=Q
     have p:=l.out.cellAt k d;have v:=l.out.row.frozen (1+k);rw[hr] at c p
     simp only[QaP] at c p
     clear hr a Q;go_wp2
     go_ret;rw[E.out.1,E.out.2,<-World.setCell_alloc_past _ _ _ _ s]
     exact⟨Z,D.out⟩
   | some r =>
     have N:Hid (∀ j,j<k+1->e.reg j≠none):=fun j o=>by
      rcases Nat.lt_succ_iff_lt_or_eq.1 o with n | n
      ·exact a j n
      ·subst n;rw[hr];simp
     rw[hr] at c
     simp only[QaP] at c
     clear hr a;go_wp2
     go_round
     case rel=>exact⟨k+1,by omega,by go_num,N.out⟩
     case measure=>simp[intOf];omega
  ·have E:Hid (e.openK=-1/\e.opened=e):=Est.open_no (fun j o=>a j (by omega));clear a;go_wp2
   go_ret;rw[E.out.1,E.out.2]
   exact⟨Z,t.out.refl_grow,Qz.refl_grow O w⟩
theorem Zu.closed {e:Est}{L g:Nat->Nat}(h:Zu w b O e L bp g) (k:Nat) (t:k<16) :
 Zu (w.setCell ⟨b,1+k,none⟩ (.pointer none)) b O (e.set k none) L bp g/\Qz O O w (w.setCell ⟨b,1+k,none⟩ (.pointer none)):=by
 have f:Qz (fun x=>L x=1) (fun x=>L x=1) w (w.setCell ⟨b,1+k,none⟩ (.pointer none)):=(Qz.refl _ w).setCell (p:=⟨b,1+k,none⟩) h.own _;have n:O b:=(h.all b (by rw[h.own];decide)).1;refine⟨⟨?_,h.own,h.pool.step f (fun x r s=>by omega),?_,?_⟩,(Qz.refl O w).setCell (p:=⟨b,1+k,none⟩) n _⟩
 ·refine(h.row.set (1+k) (.pointer none)).congr fun i u=>?_
  unfold Qmc QaP Est.set;by_cases d:i=0
  ·subst d;rw[Xr (by omega)];rfl
  ·by_cases a:i=1+k
   ·subst a;simp
   ·have m:¬ (i - 1=k):=by omega
    simp[d,a,m]
 ·intro j q l
  have c:e.reg j=some q:=by
   by_cases a:j=k
   ·subst a;simp[Est.set] at l
   ·simpa[Est.set,a] using l
  exact(h.reg j q c).step f (fun x r s=>by omega)
 ·intro x o
  have:=h.all x o
  simpa using this
theorem QiQ (l:List Int) (j:Nat) (a:j<l.length):l.take (j+1)=l.take j++[l.getD j 0]:=by
 rw[List.take_succ_eq_append_getElem a];simp[List.getD,a]
theorem Qj8 (w:World) (b o:Nat) (O:Nat->Prop) (e:Est) (k:Int) (h:Qdj w b o O e) :
 Calls prog 171 #[Pv b 0,Iv k] w fun e' w'=>e'=.returned (.bool (e.has k))/\QW w' b o (Q3 O w w') (e.shut k)/\Qz O (Q3 O w w') w w':=by
 have C:Hid (Calls prog 217 #[Pv b 0,Iv k] w fun e' w'=>e'=.returned (.bool (e.has k))/\w'=w):=QhZ w b o O e k h.1
 cases hh:e.has k with
 | false =>
   have E:Hid (e.shut k=e):=Est.shut_no hh;have HH:Hid (QW w b o O e):=h.1;rw[hh] at C
   clear h hh;go_enter func171,ntmps171
   go_wp2_with (go_at_call 217;refine(C.out).mono ?_;rintro e w' ⟨rfl,rfl⟩)
   go_ret;rw[E.out]
   exact⟨Z,HH.out.refl_grow,Qz.refl_grow O _⟩
 | true =>
   rw[hh] at C
   obtain⟨j,r,rfl,P,J⟩:=Est.has_true hh
   have E:Hid (e.shut j=(e.set j none).withP (e.p.giveAll r.pages)):=Est.shut_yes P J;have F:=h.2.lenR J;obtain⟨⟨L,g,l⟩,aa⟩:=h
   have c:=l.cellAt j P;rw[J] at c
   simp only[QaP] at c
   obtain⟨v,B,y,U⟩:=l.reg j r J
   have cv:w.cell? ⟨g j,0,none⟩=some v:=Qb B 0 _ Z;obtain⟨a,u,rfl,-,-⟩:=y.form
   have X:Hid (∃ s,Zu w b (Q3 O w w) (e.withP (e.p.giveAll (r.pages.take 0))) s o g/\Row w (fun x=>s x=j+3) 3 (.slice a r.pages.length u) r.pages/\Qz O (Q3 O w w) w w) :=
    ⟨L,l.mono Qfi,y,Qz.refl_grow O w⟩
   obtain⟨gj,I⟩:∃ gj,g j=gj:=⟨_,Z⟩
   rw[I] at c cv
   obtain⟨d,V⟩:∃ d,r.pages.length=d:=⟨_,Z⟩
   have R:Hid (r.pages.length=d):=V;rw[V] at cv F X
   clear l aa B y U J hh V I;have ad:(j:Int)<16:=by omega
   go_enter func171,ntmps171
   go_wp2_with (go_at_call 217;refine(C.out).mono ?_;rintro e w' ⟨rfl,hw⟩;have hw:=hw.symm;subst hw)
   go_loopw [21] (fun i wr=>∃ m:Nat,m<=d/\i=Iv m/\∃ s,Zu wr b (Q3 O w wr) (e.withP (e.p.giveAll (r.pages.take m))) s o g/\Row wr (fun x=>s x=j+3) 3 (.slice a d u) r.pages/\Qz O (Q3 O w wr) w wr) (fun i _=>d - (intOf i).toNat)
   case atStart=>exact⟨0,by omega,Z,X.out⟩
   case round =>
    clear X c cv C;obtain⟨m,hm,rfl,s,l,f,n⟩:=hrel
    have c0:=l.cell0;by_cases ac:m<d
    ·obtain⟨ga,rfl,-,-,-,-⟩:=f.head (by have:=R.out;omega)
     have cm:=f.cell m (by have:=R.out;omega);have z:=QiQ r.pages m (by have:=R.out;omega);obtain⟨q,hq⟩:∃ q,r.pages.getD m 0=q:=⟨_,Z⟩
     rw[hq] at cm z
     have G:Hid (Calls prog 218 #[Pv o 0,Iv q] wr fun e' w'=>(∃ t,e'=.returned (.bool t))/\∃ L'',Zu w' b (Q3 O w w') (e.withP (e.p.giveAll (r.pages.take (m+1)))) L'' o g/\Row w' (fun x=>L'' x=j+3) 3 (.slice (some ⟨ga,0,none⟩) d u) r.pages/\Qz O (Q3 O w w') w w'):=by
      refine(QkT wr o (fun x=>s x=2) _ q l.pool).mono ?_
      rintro e' w' ⟨rfl,k1,k2⟩;refine⟨⟨_,Z⟩,QbB s 2 wr w',?_⟩
      obtain⟨N,Q⟩:=l.stepPool k1 k2
      refine⟨?_,?_,n.trans_grow Q⟩
      ·rw[z,PSt.giveAll_snoc]
       exact N.mono (fun x W _=>Qb1 n.size x W)
      ·exact(f.step k2 (fun x h1 h2=>by omega)).mono (fun x W _=>(Zf l.all (by omega) (by omega) x).2 W)
     have ab:(0:Int)<=m:=by omega
     have T:(m:Int)<d:=by omega
     clear l f n hq z;go_wp2_with (go_at_call 218;refine(G.out).mono ?_;rintro e' A ⟨⟨t,rfl⟩,M⟩)
     have W5:Hid (∃ L'',Zu A b (Q3 O w A) (e.withP (e.p.giveAll (r.pages.take (m+1)))) L'' o g/\Row A (fun x=>L'' x=j+3) 3 (.slice (some ⟨ga,0,none⟩) d u) r.pages/\Qz O (Q3 O w A) w A):=M;clear M;go_wp2
     go_roundw
     case rel=>exact⟨m+1,by omega,by go_num,W5.out⟩
     case measure=>simp[intOf];omega
    ·have K:m=d:=by omega
     have H:r.pages.take m=r.pages:=by rw[K,<-R.out];simp
     rw[H] at l
     obtain⟨N,Q⟩:=l.closed j P
     have D:Hid (Zu (wr.setCell ⟨b,1+j,none⟩ (.pointer none)) b (Q3 O w wr) ((e.set j none).withP (e.p.giveAll r.pages)) s o g/\Qz (Q3 O w wr) (Q3 O w wr) wr (wr.setCell ⟨b,1+j,none⟩ (.pointer none))):=⟨N,Q⟩;have S:Hid (Qz O (Q3 O w wr) w wr):=n;have cj:=l.cellAt j P;have fj:=l.row.frozen (1+j);simp only[QaP] at cj
     have T:¬ (m:Int)<d:=by omega
     clear N Q n l f K H;go_wp2
     go_ret;rw[E.out]
     have eg:Q3 O w (wr.setCell ⟨b,1+j,none⟩ (.pointer none))=Q3 O w wr:=by unfold Q3;simp
     rw[eg]
     exact⟨Z,⟨_,_,D.out.1⟩,S.out.trans D.out.2⟩
set_option maxRecDepth 100000
theorem QfR (l:List Int) (h:l≠[]):l.getD (l.length - 1) 0=l.getLastD 0:=by
 rcases List.eq_nil_or_concat l with a | ⟨b,k,a⟩
 ·exact absurd a h
 ·rw[a];simp[List.getD]
theorem QhP (w:World) (e:Nat) (O:Nat->Prop) (r:Reg) (n:Int) (h:QaK w e O r) (i:r.pages≠[]) (F:r.pages.length<=64) (y:0<=r.pages.getLastD 0) (s:r.pages.getLastD 0<64) (G:0<=r.used) (K:r.used<=16) (P:1<=n) (o:n<=16 - r.used) :
 Calls prog 281 #[Pv e 0,Iv n] w fun e' w'=>e'=.returned (Iv (16*r.pages.getLastD 0+r.used))/\QaK w' e O ⟨r.pages,r.used+n⟩/\Qz O O w w':=by
 obtain⟨v,d,b,g⟩:=h
 have j:r.left=16 - r.used:=by simp[Reg.left,i]
 have f:0<r.pages.length:=List.length_pos_iff.2 i;obtain⟨a,k,rfl,-,-⟩:=b.form
 obtain⟨z,rfl,-,-,-,-⟩:=b.head f
 have l:=b.cell (r.pages.length - 1) (by omega);rw[QfR _ i] at l
 rw[j] at d
 have J:w.cell? ⟨e,0,none⟩=some (.slice (some ⟨z,0,none⟩) r.pages.length k):=Qb d 0 _ Z;have L:w.cell? ⟨e,1,none⟩=some (Iv (16 - r.used)):=Qb d 1 _ Z;have N:=Qj d 1
 have D:Hid (QaK (w.setCell ⟨e,1,none⟩ (Iv (16 - r.used - n))) e O ⟨r.pages,r.used+n⟩/\Qz O O w (w.setCell ⟨e,1,none⟩ (Iv (16 - r.used - n)))):=by
  refine⟨⟨.slice (some ⟨z,0,none⟩) r.pages.length k,?_,?_,g⟩,(Qz.refl O w).setCell (p:=⟨e,1,none⟩) g _⟩
  ·rw[Qh d]
   have:(Reg.mk r.pages (r.used+n)).left=16 - r.used - n:=by simp[Reg.left,i];omega
   rw[this];rfl
  ·refine b.keep (fun x H=>?_) b.2;obtain⟨c,I⟩:=b.block H
   exact Xd _ _ _ _ (Zb I d (by decide))
 obtain⟨m,B⟩:∃ m,r.pages.length=m+1:=⟨r.pages.length - 1,by omega⟩
 rw[B] at J l F
 rw[show m+1 - 1=m by omega] at l
 obtain⟨q,A⟩:∃ q,r.pages.getLastD 0=q:=⟨_,Z⟩
 obtain⟨u,t⟩:∃ u,r.used=u:=⟨_,Z⟩
 have M:Hid (r.used=u):=t;rw[A] at l y s |-
 rw[t] at L G K o
 have E:(0:Int)<=m:=by omega
 have C:(m:Int)<(m+1:Nat):=by omega
 clear d b B A j f i t;go_enter func281,ntmps281
 go_wp2_with fail
 go_quiet (fail)
 go_wp2
 go_ret;rw[M.out] at D |-
 refine⟨?_,D.out.1,((Qz.refl O _).drewN _).setCell (p:=⟨e,1,none⟩) g _⟩
 show Ending.returned (Value.int .i64 ((q+1)*16 - (16 - u)))=_;rw[show (q+1)*16 - (16 - u)=16*q+u by omega]
theorem Qhf {b:Nat}{r:Reg}{q:Int}{f:Nat}{o:Obj}{B:Value}(u:w.heap[b]?=some (.cells #[v,B] 285 (0,0))) (A:Row w O 3 v r.pages) (D:O b)
 (F:w1.ownsRow 0 3 1 (.slice (some ⟨f,0,none⟩) (r.pages.length+1) cap) (r.pages.length+1) (r.pages.map (Value.int .i64)++[Iv q]))
 (a:(w.alloc o).grownBy w1 v.ownBlock) (l:v.ownBlock=some f\/f=w.heap.size+1) (z:f<w1.heap.size) :
 w1.cell? ⟨b,0,none⟩=some v/\w1.cell? ⟨b,1,none⟩=some B/\w1.frozen? ⟨b,0,none⟩=false/\w1.frozen? ⟨b,1,none⟩=false /\
 QaK ((w1.setCell ⟨b,0,none⟩ (.slice (some ⟨f,0,none⟩) (r.pages.length+1) cap)).setCell ⟨b,1,none⟩ (Iv 16)) b (Q3 O w w1) ⟨r.pages++[q],0⟩ /\
 Qz O (Q3 O w w1) w ((w1.setCell ⟨b,0,none⟩ (.slice (some ⟨f,0,none⟩) (r.pages.length+1) cap)).setCell ⟨b,1,none⟩ (Iv 16)):=by
 have n:=XC u
 have m:v.ownBlock≠some b:=fun e=>by
  obtain⟨c,E⟩:=A.block e
  exact absurd Z (Zb E u (by decide))
 have g:∀ x,x<w.heap.size->v.ownBlock≠some x->w1.heap[x]?=w.heap[x]?:=fun x i y =>
  (a.block x (by simp;omega) (fun e=>y e.symm)).trans (Below.heap_alloc _ _ _ i)
 have d:=(g b n m).trans u;have H:w.heap.size+1<=w1.heap.size:=by have:=a.size;simpa using this
 have C:∀ x,O x\/w.heap.size<=x->x<w1.heap.size->Q3 O w w1 x:=fun x h s=>⟨h,s⟩;have j:=A.pushed (o:=o) F l z (Q3 O w w1) C
 have k:b≠f:=by
  intro e;subst e;rcases l with s | s
  ·exact m s
  ·omega
 have t:Q3 O w w1 b:=C b (Or.inl D) (by omega);refine⟨Qb d 0 _ Z,Qb d 1 _ Z,Qj d 0,Qj d 1,⟨.slice (some ⟨f,0,none⟩) (r.pages.length+1) cap,?_,?_,t⟩,?_⟩
 ·rw[Qh (Qh d 0 _) 1]
  have:(Reg.mk (r.pages++[q]) 0).left=16:=by simp[Reg.left]
  rw[this];rfl
 ·refine j.keep (fun x i=>?_) j.2;simp[Value.ownBlock] at i;subst i
  rw[Xd _ _ _ _ (Ne.symm k),Xd _ _ _ _ (Ne.symm k)]
 ·have I:Qz O (Q3 O w w1) w w1:=by
   refine⟨a.os,a.tape,a.output,by omega,fun x i G=>?_,fun x i=>i.1⟩
   exact g x i (fun e=>G (A.2 x e))
  exact(I.setCell (p:=⟨b,0,none⟩) t _).setCell (p:=⟨b,1,none⟩) t _
theorem Ql7 (w:World) (b:Nat) (O:Nat->Prop) (e:Est) (L g:Nat->Nat) (a l:Nat) (h:Zu w b O e L a g) (f:e.p.nextK<0) :
 Calls prog 280 #[Pv b 0,Pv l 0] w fun e' w'=>e'=.returned (.bool false)/\QW w' b a (Q3 O w w') e/\Qz O (Q3 O w w') w w':=by
 have d:e.p.Ok:=h.pool.ok;have r:=h.cell0
 have G:Hid (Calls prog 289 #[Pv a 0] w fun e' w'=>e'=.returned (Iv e.p.nextK)/\QW w' b a (Q3 O w w') e/\Qz O (Q3 O w w') w w'):=by
  refine(Qgq w a (fun x=>L x=2) _ h.pool).mono ?_
  rintro e' w' ⟨rfl,m,n⟩;obtain⟨i,k⟩:=h.stepPool m n
  rw[PSt.take_none d f] at i
  exact⟨Z,⟨_,_,i⟩,k⟩
 obtain⟨q,j⟩:∃ q,e.p.nextK=q:=⟨_,Z⟩
 rw[j] at f G
 clear h j;go_enter func280,ntmps280
 go_wp2_with (go_at_call 289;refine(G.out).mono ?_;rintro e' o ⟨rfl,c⟩)
 go_ret;exact⟨Z,c⟩
theorem Qk7 (w:World) (b:Nat) (O:Nat->Prop) (e:Est) (L g:Nat->Nat) (y j:Nat) (r:Reg) (h:Zu w b O e L y g) (hr:e.reg j=some r) (hl:r.pages.length<=64) (hk:0<=e.p.nextK) :
 Calls prog 280 #[Pv b 0,Pv (g j) 0] w fun e' w'=>e'=.returned (.bool true)/\∃ L',Zu w' b (Q3 O w w') ((e.set j (some ⟨r.pages++[e.p.nextK],0⟩)).withP e.p.take) L' y g/\Qz O (Q3 O w w') w w':=by
 have c0:=h.cell0;have B:=(PSt.nextK_lt h.pool.ok).2;have aa:=h.pool.ok.most
 have G:Hid (Calls prog 289 #[Pv y 0] w fun e' w'=>e'=.returned (Iv e.p.nextK)/\Zu w' b (Q3 O w w') (e.withP e.p.take) (QbB L 2 w w') y g/\Qz O (Q3 O w w') w w'):=by
  refine(Qgq w y (fun x=>L x=2) _ h.pool).mono ?_
  rintro e' w' ⟨rfl,k1,k2⟩;obtain⟨K,M⟩:=h.stepPool k1 k2
  exact⟨Z,K,M⟩
 obtain⟨q,V⟩:∃ q,e.p.nextK=q:=⟨_,Z⟩
 rw[V] at hk B G |-
 clear h V;obtain⟨d,u⟩:∃ d,g j=d:=⟨_,Z⟩
 have J:Hid (g j=d):=u;rw[u]
 clear u;go_enter func280,ntmps280
 go_wp2_with fail
 refine(G.out).mono ?_
 rintro e' A ⟨rfl,Q,U⟩;have t:(e.withP e.p.take).reg j=some r:=hr;obtain⟨v,C,F,I⟩:=Q.reg j r t
 rw[J.out] at C I
 have cv:A.cell? ⟨d,0,none⟩=some v:=Qb C 0 _ Z;obtain⟨a,z,rfl,-,-⟩:=F.form
 have m:=F.1;obtain⟨i0,hi,P,R,N⟩:=info_parts info_int
 have S:Hid (∀ k c i,i.ownsRow 0 3 1 (.slice (some ⟨k,0,none⟩) (r.pages.length+1) c) (r.pages.length+1) (r.pages.map (Value.int .i64)++[Iv q]) ->
  (A.alloc (.cells #[Iv q] 3)).grownBy i (Value.slice a r.pages.length z).ownBlock->((Value.slice a r.pages.length z).ownBlock=some k\/k=A.heap.size+1)->k<i.heap.size ->
  i.cell? ⟨d,0,none⟩=some (.slice a r.pages.length z)/\i.cell? ⟨d,1,none⟩=some (Iv r.left)/\i.frozen? ⟨d,0,none⟩=false/\i.frozen? ⟨d,1,none⟩=false /\
  ∃ L',Zu ((i.setCell ⟨d,0,none⟩ (.slice (some ⟨k,0,none⟩) (r.pages.length+1) c)).setCell ⟨d,1,none⟩ (Iv 16)) b (Q3 O w ((i.setCell ⟨d,0,none⟩ (.slice (some ⟨k,0,none⟩) (r.pages.length+1) c)).setCell ⟨d,1,none⟩ (Iv 16))) ((e.set j (some ⟨r.pages++[q],0⟩)).withP e.p.take) L' y g /\
   Qz O (Q3 O w ((i.setCell ⟨d,0,none⟩ (.slice (some ⟨k,0,none⟩) (r.pages.length+1) c)).setCell ⟨d,1,none⟩ (Iv 16))) w ((i.setCell ⟨d,0,none⟩ (.slice (some ⟨k,0,none⟩) (r.pages.length+1) c)).setCell ⟨d,1,none⟩ (Iv 16))):=by
  intro k c i H f n o;have T:=J.out;clear J;subst T;obtain⟨X,d2,d3,W,E,d6⟩:=Qhf (r:=r) C F I H f n o
  refine⟨X,d2,d3,W,?_⟩
  obtain⟨K,M⟩:=Q.stepReg t E d6
  exact⟨_,K.mono (fun x hx _=>Qb1 U.size x hx),U.trans_grow M⟩
 obtain⟨l,s⟩:∃ l,r.pages.length=l:=⟨_,Z⟩
 rw[s] at cv m hl S
 clear C F I Q U t s G c0;go_wp2_with (at_builtin;refine wpList_append_lies _ Z (.tmp 17) (.tmp 19) 76 Z 0 3 i0 (Iv 0) 1 8 under_ints hi P R N Z (by decide) _ _ _ Z (m.alloc _) ⟨A.heap.size,0,none⟩ 1 1 [Iv q] Z Z (Qgl _ _ _) (Qdf _) (by decide) (by unfold maxLen;omega) (by omega) (Xb _) (A.heap.size+1) (by simp) ?_)
 intro k c i H f n o;obtain⟨X,d2,d3,W,E⟩:=S.out k c i H f n o
 have D:Hid (∃ L',Zu ((i.setCell ⟨d,0,none⟩ (.slice (some ⟨k,0,none⟩) (l+1) c)).setCell ⟨d,1,none⟩ (Iv 16)) b (Q3 O w ((i.setCell ⟨d,0,none⟩ (.slice (some ⟨k,0,none⟩) (l+1) c)).setCell ⟨d,1,none⟩ (Iv 16))) ((e.set j (some ⟨r.pages++[q],0⟩)).withP e.p.take) L' y g /\
  Qz O (Q3 O w ((i.setCell ⟨d,0,none⟩ (.slice (some ⟨k,0,none⟩) (l+1) c)).setCell ⟨d,1,none⟩ (Iv 16))) w ((i.setCell ⟨d,0,none⟩ (.slice (some ⟨k,0,none⟩) (l+1) c)).setCell ⟨d,1,none⟩ (Iv 16))):=E
 clear E H f n o m S;go_wp2
 go_ret;exact⟨Z,D.out⟩
theorem Qe9 (l:List Int) (h:l≠[]):l.getLastD 0∈l:=by
 rcases List.eq_nil_or_concat l with a | ⟨b,k,a⟩
 ·exact absurd a h
 ·rw[a];simp
theorem Qlm (w:World) (b D:Nat) (O:Nat->Prop) (e:Est) (k n:Int) (h:Qdj w b D O e) :
 Calls prog 254 #[Pv b 0,Iv k,Iv n] w fun e' w'=>e'=.returned (.tuple #[Iv (e.getAt k n),Iv (e.getCode k n)])/\QW w' b D (Q3 O w w') (e.got k n)/\Qz O (Q3 O w w') w w':=by
 have C:Hid (Calls prog 217 #[Pv b 0,Iv k] w fun e' w'=>e'=.returned (.bool (e.has k))/\w'=w):=QhZ w b D O e k h.1;have T:Hid (QW w b D O e):=h.1
 cases hh:e.has k with
 | false =>
   have E:Hid (e.getCode k n=15/\e.getAt k n=0/\e.got k n=e):=Est.get_none hh;rw[hh] at C
   clear h hh;go_enter func254,ntmps254
   go_wp2_with (go_at_call 217;refine(C.out).mono ?_;rintro e w' ⟨rfl,rfl⟩)
   go_ret2;rw[E.out.1,E.out.2.1,E.out.2.2]
   exact⟨Z,T.out.refl_grow,Qz.refl_grow O _⟩
 | true =>
   rw[hh] at C
   by_cases y:n<1\/16<n
   ·have E:Hid (e.getCode k n=1/\e.getAt k n=0/\e.got k n=e):=Est.get_range hh y;clear h hh;by_cases U:n<1
    ·clear y;go_enter func254,ntmps254
     go_wp2_with (go_at_call 217;refine(C.out).mono ?_;rintro e w' ⟨rfl,rfl⟩)
     go_ret2;rw[E.out.1,E.out.2.1,E.out.2.2]
     exact⟨Z,T.out.refl_grow,Qz.refl_grow O _⟩
    ·have P:16<n:=by omega
     clear y;go_enter func254,ntmps254
     go_wp2_with (go_at_call 217;refine(C.out).mono ?_;rintro e w' ⟨rfl,rfl⟩)
     go_ret2;rw[E.out.1,E.out.2.1,E.out.2.2]
     exact⟨Z,T.out.refl_grow,Qz.refl_grow O _⟩
   ·obtain⟨j,r,rfl,N,f⟩:=Est.has_true hh
    have H:=h.2.lenR f;have m:=h.2.used j r f;have U:¬ n<1:=by omega
    have P:¬ 16<n:=by omega
    obtain⟨⟨L,g,A⟩,d⟩:=h
    have c:=A.cellAt j N;rw[f] at c
    simp only[QaP] at c
    have I:w.cell? ⟨g j,1,none⟩=some (Iv r.left):=by
     obtain⟨v,Q,ab,ac⟩:=A.reg j r f
     exact Qb Q 1 _ Z
    have ae:(j:Int)<16:=by omega
    have a:r.pages≠[]->0<=r.pages.getLastD 0/\r.pages.getLastD 0<64:=fun h=>by
     have:=d.low (k:=j) (x:=r.pages.getLastD 0) (by rw[Est.at_some f];exact Qe9 _ h)
     have:=d.ok.most
     omega
    cases hm:r.more n with
    | false =>
      have E:Hid (e.getCode j n=0/\e.getAt j n=16*r.pages.getLastD 0+r.used/\e.got j n=e.set j (some ⟨r.pages,r.used+n⟩)):=Est.get_room N f y hm;obtain⟨t,K⟩:=Reg.room hm (by omega)
      have G:Hid (Calls prog 281 #[Pv (g j) 0,Iv n] w fun e' w'=>e'=.returned (Iv (16*r.pages.getLastD 0+r.used))/\QW w' b D (Q3 O w w') (e.set j (some ⟨r.pages,r.used+n⟩))/\Qz O (Q3 O w w') w w'):=by
       refine(QhP w (g j) _ r n (A.reg j r f) t H (a t).1 (a t).2 m.1 m.2 (by omega) K).mono ?_
       rintro e' w' ⟨rfl,V,W⟩;obtain⟨R,S⟩:=A.stepReg f V W
       exact⟨Z,⟨_,_,R⟩,S⟩
      have B:¬ r.left<n:=by simpa[Reg.more] using hm
      generalize 16*r.pages.getLastD 0+r.used=z at E G;generalize r.left=lf at I B;generalize g j=gk at c I G;clear A d f hh hm y a K t m;go_enter func254,ntmps254
      go_wp2_with (first | (go_at_call 217;refine(C.out).mono ?_;rintro e' w' ⟨rfl,o⟩;have o:=o.symm;subst o) | (go_at_call 281;refine(G.out).mono ?_;rintro e' w5 ⟨rfl,s⟩))
      go_ret2;rw[E.out.1,E.out.2.1,E.out.2.2]
      exact⟨Z,s⟩
    | true =>
      have B:r.left<n:=by simpa[Reg.more] using hm
      by_cases M:e.p.nextK<0
      ·have E:Hid (e.getCode j n=14/\e.getAt j n=0/\e.got j n=e):=Est.get_full N f y hm M;have G:Hid (Calls prog 280 #[Pv b 0,Pv (g j) 0] w fun e' w'=>e'=.returned (.bool false)/\QW w' b D (Q3 O w w') e/\Qz O (Q3 O w w') w w'):=Ql7 w b O e L g D _ A M;generalize r.left=lf at I B;generalize g j=gk at c I G;clear A d f hh hm y a m M;go_enter func254,ntmps254
       go_wp2_with (first | (go_at_call 217;refine(C.out).mono ?_;rintro e' w' ⟨rfl,o⟩;have o:=o.symm;subst o) | (go_at_call 280;refine(G.out).mono ?_;rintro e' w5 ⟨rfl,s⟩))
       go_ret2;rw[E.out.1,E.out.2.1,E.out.2.2]
       exact⟨Z,s⟩
      ·have E:Hid (e.getCode j n=0/\e.getAt j n=16*e.p.nextK/\e.got j n=(e.set j (some ⟨r.pages++[e.p.nextK],n⟩)).withP e.p.take):=Est.get_more N f y hm M;have aa:=(PSt.nextK_lt d.ok).2;have ad:=d.ok.most;have F:=d.moreSet f (n:=0) (by omega) (by omega) (by omega);have u:((e.set j (some ⟨r.pages++[e.p.nextK],0⟩)).withP e.p.take).reg j=some ⟨r.pages++[e.p.nextK],0⟩:=by simp[Est.withP,Est.set]
       have q:=F.lenR u
       have G:Hid (Calls prog 280 #[Pv b 0,Pv (g j) 0] w fun e' w'=>e'=.returned (.bool true) /\
        Calls prog 281 #[Pv (g j) 0,Iv n] w' fun J l=>J=.returned (Iv (16*e.p.nextK))/\QW l b D (Q3 O w l) ((e.set j (some ⟨r.pages++[e.p.nextK],n⟩)).withP e.p.take)/\Qz O (Q3 O w l) w l):=by
        refine(Qk7 w b O e L g D j r A f H (by omega)).mono ?_
        rintro e' w' ⟨rfl,L',p1,p2⟩;refine⟨Z,?_⟩
        refine(QhP w' (g j) _ _ n (p1.reg j _ u) (by simp) q (by simp;omega) (by simp;omega) (by simp) (by simp) (by omega) (by simp;omega)).mono ?_
        rintro J l ⟨rfl,V,W⟩;obtain⟨R,S⟩:=p1.stepReg u V W
        refine⟨by simp,⟨QbB L' (j+3) w' l,g,?_⟩,p2.trans_grow S⟩
        have e1:((e.set j (some ⟨r.pages++[e.p.nextK],0⟩)).withP e.p.take).set j (some ⟨r.pages++[e.p.nextK],0+n⟩)=(e.set j (some ⟨r.pages++[e.p.nextK],n⟩)).withP e.p.take:=by
         simp only[Est.withP,Est.set]
         congr 1
         funext i
         by_cases hi:i=j<;>simp[hi]
        rw[<-e1]
        exact R.mono (fun x hx _=>Qb1 p2.size x hx)
       generalize r.left=lf at I B;generalize g j=gk at c I G;clear A d f hh hm y a m F u q;go_enter func254,ntmps254
       go_wp2_with (first | (go_at_call 217;refine(C.out).mono ?_;rintro e' w' ⟨rfl,o⟩;have o:=o.symm;subst o) | (go_at_call 280;refine(G.out).mono ?_;rintro e' w5 ⟨rfl,s⟩) | (go_at_call 281;refine s.mono ?_;rintro e' w6 ⟨rfl,X⟩))
       go_ret2;rw[E.out.1,E.out.2.1,E.out.2.2]
       exact⟨Z,X⟩
set_option maxRecDepth 100000
theorem QlB (w:World) (n:Int) (h:n<0\/64<n) :
 Calls prog 67 #[Iv n] w fun e w'=>e=.returned (.tuple #[.pointer none,.agg #[Iv 1,Iv (-1)]])/\Below w.heap.size w w':=by
 have C:Hid (∀ w,Calls prog 109 #[Iv n] w fun e w'=>e=.returned (.tuple #[.pointer none,.agg #[Iv 1,Iv (-1)]])/\Below w.heap.size w w'):=fun w=>Qmk w n h;clear h;go_enter func67,ntmps67
 go_wp2_with fail
 refine(C.out _).mono ?_
 rintro e b ⟨rfl,c⟩;have a:b.heap[w.heap.size]?=some (.cells #[Iv 0,Iv 0] 32 (0,0)):=(c.block w.heap.size (by simp)).trans (Qe w _ _);have B:Hid (Below w.heap.size w b):=((Below.refl _ w).alloc Ze _).trans (c.mono (by simp));have d:=XC a;have g:b.cell? ⟨w.heap.size,0,none⟩=some (Iv 0):=Qb a 0 _ Z;have j:b.cell? ⟨w.heap.size,1,none⟩=some (Iv 0):=Qb a 1 _ Z;have l:=Qj a 0;have m:=Qj a 1;have i:w.heap.size<=w.heap.size:=Ze;generalize f:w.heap.size=X at *;clear a c;go_wp2
 go_region;go_wp2
 refine Xy (v:=.tuple #[.pointer none,.agg #[Iv 1,Iv (-1)]]) (by simp[results,results67,go_sem,g,j,d]) Z ⟨Z,?_⟩;have k:=((B.out.setCell (p:=⟨X,0,none⟩) (Nat.le_refl X) (Iv 1)).setCell (p:=⟨X,1,none⟩) (Nat.le_refl X) (Iv (-1)));rw[f]
 exact((k.alloc (by simp;omega) _)).drew
def QeK (bp:Nat):Array Value:=#[Pv bp 0,.pointer none,.pointer none,.pointer none,.pointer none,.pointer none,.pointer none,.pointer none,.pointer none,.pointer none,.pointer none,.pointer none,.pointer none,.pointer none,.pointer none,.pointer none,.pointer none]
theorem QiU (a:Nat):∀ i,i<17->(QeK a)[i]?=some (Qmc a (fun _=>none) (fun _=>0) i):=by
 intro i b
 have:i=0\/i=1\/i=2\/i=3\/i=4\/i=5\/i=6\/i=7\/i=8\/i=9\/i=10\/i=11\/i=12\/i=13\/i=14\/i=15\/i=16:=by omega
 rcases this with h | h | h | h | h | h | h | h | h | h | h | h | h | h | h | h | h<;>subst h<;>rfl
theorem Ql9 (w:World) (n:Nat) (h:n<=64) (a X Y:Nat) (d:Qn w a (fun x=>X+1<=x/\x<Y) (PSt.new n)) (g:X<w.heap.size) (i:Y<=w.heap.size) :
 Qdj (w.alloc (.cells (QeK a) 73)) w.heap.size a (fun x=>X<=x/\x<(w.alloc (.cells (QeK a) 73)).heap.size) (Est.new n):=by
 refine⟨⟨fun x=>if x=w.heap.size then 1 else if X+1<=x/\x<Y then 2 else 0,fun _=>0,?_,?_,?_,?_,?_⟩,Est.ok_new n h⟩
 ·exact⟨QeK a,Qe w _ _,Z,QiU a⟩
 ·simp
 ·refine(d.step (Qz.of_alloc (fun _=>False) w _) (fun _ _ h=>h)).mono (fun x b _=>?_)
  have:¬ x=w.heap.size:=by omega
  simp[this,b]
 ·intro k r e;simp[Est.new] at e
 ·intro x b;by_cases c:x=w.heap.size
  ·subst c;simp;omega
  ·by_cases f:X+1<=x/\x<Y
   ·simp;omega
   ·simp[c,f] at b
theorem Qj6 (w:World) (n:Nat) (h:n<=64) :
 Calls prog 67 #[Iv n] w fun e w'=>∃ b bp,e=.returned (.tuple #[Pv b 0,.agg #[Iv 0,Iv 0]])/\Qdj w' b bp (fun x=>w.heap.size<=x/\x<w'.heap.size) (Est.new n)/\Below w.heap.size w w':=by
 have C:Hid (∀ w,Calls prog 109 #[Iv n] w fun e w'=>∃ b,e=.returned (.tuple #[Pv b 0,.agg #[Iv 0,Iv 0]])/\Qn w' b (fun x=>w.heap.size<=x/\x<w'.heap.size) (PSt.new n)/\Below w.heap.size w w'):=fun w=>Qlo w n h;go_enter func67,ntmps67
 go_wp2_with fail
 refine(C.out _).mono ?_
 rintro e a ⟨bp,rfl,i,g⟩;have c:a.heap[w.heap.size]?=some (.cells #[Iv 0,Iv 0] 32 (0,0)):=(g.block w.heap.size (by simp)).trans (Qe w _ _);have B:Hid (Below w.heap.size w a/\Qn a bp (fun x=>w.heap.size+1<=x/\x<a.heap.size) (PSt.new n)):=⟨((Below.refl _ w).alloc Ze _).trans (g.mono (by simp)),i.mono (fun x j _=>⟨by have:=j.1;simp at this;omega,j.2⟩)⟩;have f:=XC c;have k:a.cell? ⟨w.heap.size,0,none⟩=some (Iv 0):=Qb c 0 _ Z;have l:a.cell? ⟨w.heap.size,1,none⟩=some (Iv 0):=Qb c 1 _ Z;have o:=Qj c 0;have r:=Qj c 1;generalize d:w.heap.size=X at *;clear c g i;go_wp2
 refine Xy (v:=.tuple #[Pv (a.heap.size+1) 0,.agg #[Iv 0,Iv 0]]) (by simp[results,results67,go_sem,k,l,f]) Z ⟨a.heap.size+1,bp,Z,?_,?_⟩
 ·rw[d]
  have S:Qz (fun x=>x=X) (fun x=>x=X) a (((a.setCell ⟨X,0,none⟩ (Iv 0)).setCell ⟨X,1,none⟩ (Iv 0)).alloc (.cells #[Iv 0,Iv 0] 32)) :=
   (((Qz.refl (fun x=>x=X) a).setCell (p:=⟨X,0,none⟩) Z _).setCell (p:=⟨X,1,none⟩) Z _).alloc _
  have:=Ql9 _ n h bp X a.heap.size (B.out.2.step S (fun x q s=>by omega)) (by simp;omega) (by simp)
  simpa[QeK] using this
 ·rw[d]
  have m:=((B.out.1.setCell (p:=⟨X,0,none⟩) (Nat.le_refl X) (Iv 0)).setCell (p:=⟨X,1,none⟩) (Nat.le_refl X) (Iv 0));exact(m.alloc (by simp;omega) _).alloc (by simp;omega) _
theorem QW.cell0 {e:Est}(h:QW w b bp O e):w.cell? ⟨b,0,none⟩=some (Pv bp 0):=by
 obtain⟨L,g,h⟩:=h
 exact h.cell0
theorem PSt.place_true {s:PSt}{k:Int}(h:s.place k=true):0<=k/\k<16*s.pages:=by simpa[PSt.place] using h
theorem QcN (w:World) (b:Nat) (O:Nat->Prop) (s:PSt) (k:Int) (h:Qn w b O s) :
 Calls prog 256 #[Pv b 0,Iv k] w fun e w'=>e=.returned (.bool (s.place k))/\w'=w:=by
 obtain⟨g,n,o,f,j,m,l,d,a,c⟩:=h
 have p:w.cell? ⟨b,0,none⟩=some (.slice (some ⟨g,0,none⟩) n n):=Qb f 0 _ Z;have i:=c.most;by_cases q:0<=k
 ·by_cases r:k<(n:Int)
  ·have E:Hid (s.place k=true):=by show s.place k=true;simp[PSt.place];omega
   clear a;go_enter func256,ntmps256
   go_wp2
   go_ret;exact⟨by rw[E.out];rfl,Z⟩
  ·have E:Hid (s.place k=false):=by show s.place k=false;simp[PSt.place];omega
   clear a;go_enter func256,ntmps256
   go_wp2
   go_ret;exact⟨by rw[E.out];rfl,Z⟩
 ·have E:Hid (s.place k=false):=by show s.place k=false;simp[PSt.place];omega
  clear a;go_enter func256,ntmps256
  go_wp2
  go_ret;exact⟨by rw[E.out];rfl,Z⟩
theorem Qkd (w:World) (b:Nat) (O:Nat->Prop) (s:PSt) (k:Int) (h:Qn w b O s) :
 Calls prog 255 #[Pv b 0,Iv k] w fun e w'=>e=.returned (.tuple #[Iv (s.load k),.bool (s.place k)])/\w'=w:=by
 have c:=QcN w b O s k h;obtain⟨f,n,u,m,g,t,q,l,d,o⟩:=h
 have v:w.cell? ⟨b,0,none⟩=some (.slice (some ⟨f,0,none⟩) n n):=Qb m 0 _ Z
 cases hpl:s.place k with
 | true =>
   rw[hpl] at c
   have E:Hid (s.load k=s.ws k.toNat):=by show _=_;simp[PSt.load,hpl]
   obtain⟨a,p⟩:=PSt.place_true hpl
   obtain⟨i,rfl⟩:=Xc a
   have j:i<n:=by omega
   have r:w.cell? ⟨f,i,none⟩=some (Iv (s.ws i)):=g.cell j;have C:Hid (Calls prog 256 #[Pv b 0,Iv i] w fun e w'=>e=.returned (.bool true)/\w'=w):=c;clear c d a p hpl;go_enter func255,ntmps255
   go_wp2_with (go_at_call 256;refine(C.out).mono ?_;rintro e w' ⟨rfl,rfl⟩)
   go_ret2;exact⟨by rw[E.out];rfl,Z⟩
 | false =>
   rw[hpl] at c
   have E:Hid (s.load k=0):=by show _=_;simp[PSt.load,hpl]
   have C:Hid (Calls prog 256 #[Pv b 0,Iv k] w fun e w'=>e=.returned (.bool false)/\w'=w):=c;clear c d hpl;go_enter func255,ntmps255
   go_wp2_with (go_at_call 256;refine(C.out).mono ?_;rintro e w' ⟨rfl,rfl⟩)
   go_ret2;exact⟨by rw[E.out];rfl,Z⟩
theorem Qn.stored {s:PSt}{a:Nat}{p:Value}(t:w.heap[b]?=some (.cells #[.slice (some ⟨a,0,none⟩) n n,p,Iv s.fresh] 134 (0,0)))
 (r:w.rowIs a 2 n (fun i=>Iv (s.ws i))) (o:Row w O 3 p s.given) (u:O b) (l:O a) (y:n=16*s.pages) (q:s.Ok) (i:Nat) (hi:i<n) (x:Int) :
 Qn (w.setCell ⟨a,i,none⟩ (Iv x)) b O (s.store i x):=by
 have m:s.place i=true:=by simp[PSt.place];omega
 have e:s.store i x={ s with ws:=fun j=>if (j:Int)=i then x else s.ws j }:=by simp[PSt.store,m]
 rw[e]
 obtain⟨z,d,_,_⟩:=id r
 have k:b≠a:=Zb t d (by decide);refine⟨a,n,p,?_,?_,?_,u,l,y,?_⟩
 ·rw[Xd _ _ _ _ k];exact t
 ·refine(r.set i (Iv x)).congr fun j A=>?_
  by_cases e:j=i
  ·subst e;simp
  ·simp[e];intro h;omega
 ·refine o.keep (fun g f=>?_) o.2;obtain⟨c,v⟩:=o.block f
  exact Xd _ _ _ _ (Zb v d (by decide))
 ·have:=PSt.ok_store q i x;rw[e] at this;exact this
theorem Qjw (w:World) (b:Nat) (O:Nat->Prop) (s:PSt) (k x:Int) (h:Qn w b O s) :
 Calls prog 221 #[Pv b 0,Iv k,Iv x] w fun e w'=>e=.returned (.bool (s.place k))/\Qn w' b O (s.store k x)/\Qz O O w w':=by
 have c:=QcN w b O s k h;have l:=h;obtain⟨d,n,y,o,f,r,q,a,g,j⟩:=h
 have z:w.cell? ⟨b,0,none⟩=some (.slice (some ⟨d,0,none⟩) n n):=Qb o 0 _ Z
 cases hpl:s.place k with
 | true =>
   rw[hpl] at c
   obtain⟨p,t⟩:=PSt.place_true hpl
   obtain⟨i,rfl⟩:=Xc p
   have m:i<n:=by omega
   have v:w.cell? ⟨d,i,none⟩=some (Iv (s.ws i)):=f.cell m;have u:w.frozen? ⟨d,i,none⟩=false:=f.frozen i;have E:Hid (Qn (w.setCell ⟨d,i,none⟩ (Iv x)) b O (s.store i x)):=Qn.stored o f r q a g j i m x;have C:Hid (Calls prog 256 #[Pv b 0,Iv i] w fun e w'=>e=.returned (.bool true)/\w'=w):=c;clear c g p t hpl l;go_enter func221,ntmps221
   go_wp2_with (go_at_call 256;refine(C.out).mono ?_;rintro e w' ⟨rfl,rfl⟩)
   go_ret;exact⟨Z,E.out,(Qz.refl O _).setCell a _⟩
 | false =>
   rw[hpl] at c
   have E:Hid (s.store k x=s):=by show _=_;simp[PSt.store,hpl]
   have H:Hid (Qn w b O s):=l;have C:Hid (Calls prog 256 #[Pv b 0,Iv k] w fun e w'=>e=.returned (.bool false)/\w'=w):=c;clear c g hpl l;go_enter func221,ntmps221
   go_wp2_with (go_at_call 256;refine(C.out).mono ?_;rintro e w' ⟨rfl,rfl⟩)
   go_ret;exact⟨Z,by rw[E.out];exact H.out,Qz.refl O _⟩
theorem Xh:type_of% @And.intro:=@And.intro
section
variable {w w' w2:World}{b most:Nat}{m:List (MFunc 6)}{R R':RM}{g g1:WG}
theorem WAt.cellE (S:WAt w b most m R g):w.cell? ⟨b,0,none⟩=some (Pv g.be 0):=Qb S.box 0 _ Z
theorem WAt.cellP (S:WAt w b most m R g):w.cell? ⟨g.be,0,none⟩=some (Pv g.bp 0):=S.est.1.cell0
theorem WAt.loadC (S:WAt w b most m R g) (k:Int):Calls prog 255 #[Pv g.bp 0,Iv k] w fun e w'=>e=.returned (.tuple #[Iv (R.load k),.bool (R.e.p.place k)])/\w'=w:=by
 obtain⟨⟨L,a,h⟩,-⟩:=S.est
 exact Qkd w g.bp _ R.e.p k h.pool
theorem WAt.storeC (S:WAt w b most m R g) (k n:Int):Calls prog 221 #[Pv g.bp 0,Iv k,Iv n] w fun e w'=>e=.returned (.bool (R.e.p.place k))/\WTo g w w' b most m (R.stored k n):=by
 obtain⟨⟨L,c,h⟩,a⟩:=S.est
 refine(Qjw w g.bp _ R.e.p k n h.pool).mono ?_
 rintro e w' ⟨rfl,i,j⟩;obtain⟨d,f⟩:=h.stepPool i j
 exact⟨Z,S.toEst ⟨_,c,d⟩ f (a.store k n)⟩
theorem WAt.getC (S:WAt w b most m R g) (h n:Int):Calls prog 254 #[Pv g.be 0,Iv h,Iv n] w fun e w'=>e=.returned (.tuple #[Iv (R.e.getAt h n),Iv (R.e.getCode h n)])/\WTo g w w' b most m { R with e:=R.e.got h n }:=by
 refine(Qlm w g.be g.bp _ R.e h n S.est).mono ?_
 rintro e w' ⟨rfl,a,c⟩;exact⟨Z,S.toEst a c (S.est.2.got h n)⟩
theorem WAt.openC (S:WAt w b most m R g):Calls prog 170 #[Pv g.be 0] w fun e w'=>e=.returned (Iv R.e.openK)/\WTo g w w' b most m { R with e:=R.e.opened }:=by
 refine(QjX w g.be g.bp _ R.e S.est.1).mono ?_
 rintro e w' ⟨rfl,a,c⟩;exact⟨Z,S.toEst a c S.est.2.opened⟩
theorem WAt.shutC (S:WAt w b most m R g) (h:Int):Calls prog 171 #[Pv g.be 0,Iv h] w fun e w'=>e=.returned (.bool (R.e.has h))/\WTo g w w' b most m { R with e:=R.e.shut h }:=by
 refine(Qj8 w g.be g.bp _ R.e h S.est).mono ?_
 rintro e w' ⟨rfl,a,c⟩;exact⟨Z,S.toEst a c (S.est.2.shut h)⟩
theorem QbR (S:WAt w b most m R g) (k:Int):Calls prog 220 #[Pv b 0,Iv k] w fun e w'=>e=.returned (Iv (R.load k))/\w'=w:=by
 have C:=Qc (S.loadC k);have f:=S.cellE;have d:=S.cellP;clear S;generalize R.load k=x at *;generalize R.e.p.place k=y at *;go_enter func220,ntmps220
 go_wp2_with (go_at_call 255;refine C.out.mono ?_;rintro c w' ⟨rfl,a⟩;have a:=a.symm;subst a)
 go_ret;exact⟨Z,Z⟩
def Qld (R:RM) (a k:Int) (e:Ending):Prop:=(0<=k/\k<R.load a/\e=.returned (Iv (wrap64 (wrap64 (a+1)+k))))\/(¬ (0<=k/\k<R.load a)/\e=.panicked (QdA 2))
theorem Qci (S:WAt w b most m R g) (a k:Int):Calls prog 222 #[Pv b 0,Iv a,Iv k] w fun e w'=>Qld R a k e/\w'=w:=by
 have C:=Qc (QbR S a);clear S;by_cases d:0<=k
 ·have l:decide (k>=0)=true:=by simpa using d
  by_cases f:k<R.load a
  ·have j:decide (k<R.load a)=true:=by simpa using f
   have E:Hid (Qld R a k (.returned (Iv (wrap64 (wrap64 (a+1)+k))))):=.inl ⟨d,f,Z⟩;clear d f;go_enter func222,ntmps222
   go_wp2_with (first | (go_at_call 220;refine C.out.mono ?_;rintro i w' ⟨rfl,c⟩;have c:=c.symm;subst c) | (go_at_call 111;refine(QaI _ _).mono ?_;rintro i w' ⟨rfl,c⟩;have c:=c.symm;subst c))
   go_ret;exact⟨E.out,Z⟩
  ·have j:decide (k<R.load a)=false:=by simpa using f
   have E:Hid (Qld R a k (.panicked (QdA 2))):=.inr ⟨fun h=>f h.2,Z⟩;clear d f;go_enter func222,ntmps222
   go_wp2_with (go_at_call 220;refine C.out.mono ?_;rintro i w' ⟨rfl,c⟩;have c:=c.symm;subst c)
   refine(Z2 _ _).mono ?_
   rintro i w' ⟨rfl,c⟩;subst c;exact⟨Z,E.out,Z⟩
 ·have l:decide (k>=0)=false:=by simpa using d
  have E:Hid (Qld R a k (.panicked (QdA 2))):=.inr ⟨fun h=>d h.1,Z⟩;clear d;go_enter func222,ntmps222
  go_wp2_with fail
  refine(Z2 _ _).mono ?_
  rintro i w' ⟨rfl,c⟩;subst c;exact⟨Z,E.out,Z⟩
def RM.thinged (R:RM) (h size:Int) (l:List Int):RM:={ R with e:=(R.e.got h size).withP ((R.e.got h size).p.puts (R.e.getAt h size) l) }
def ThW (g:WG) (w:World) (b most:Nat) (m:List (MFunc 6)) (R:RM) (h size:Int) (l:List Int) (e:Ending) (w':World):Prop :=
 (R.e.getCode h size=0/\e=.returned (Iv (R.e.getAt h size))/\WTo g w w' b most m (R.thinged h size l))\/(R.e.getCode h size≠0/\e=.panicked (QdA 6)/\WTo g w w' b most m R)
theorem Qfl (x:Int):∀ (l:List Int) (s:PSt) (k:Int),s.puts k (l++[x])=(s.puts k l).store (k+l.length) x
 | [],s,k=>by simp[PSt.puts]
 | y::l,s,k=>by
   have:=Qfl x l (s.store k y) (k+1)
   simp only[List.cons_append,PSt.puts,this,List.length_cons]
   congr 1
   omega
theorem WIn.at (h:WIn w O l (.slice a n c)) (b:l[i]?=some x):∃ k o,a=some ⟨k,o,none⟩/\O k/\w.cell? ⟨k,o+i,none⟩=some (Iv x):=by
 obtain⟨p,d,e,h⟩:=h
 cases e
 have f:=(Zi b).1;obtain⟨k,o,j,m,-,g⟩:=h i f
 refine⟨k,o,j,m,?_⟩
 rw[g]
 simp[List.getD,b]
theorem QdI (S:WAt w b most m R g) (h size:Int)(hn:l.length=n) (hb:n<=1000) (v:WIn w (fun x=>g.ow x=0) l (.slice a n c)) :
 Calls prog 219 #[Pv b 0,Iv h,Iv size,.slice a n c] w fun e w'=>ThW g w b most m R h size l e w':=by
 have C:=Qc (S.getC h size);have U:=Qc (QjA S.est.2 h size);have W:=S.cellE;have HS:=Qc S;have HL:=Qc v;have Q:=Qc hn;clear S v hn;by_cases d:R.e.getCode h size=0
 ·have F:=Qc d;rw[d] at C
  clear d;obtain⟨A,T⟩:∃ A,R.e.getAt h size=A:=⟨_,Z⟩
  have EA:=Qc T;rw[T] at C U
  clear T;go_enter func219,ntmps219
  go_upto_region 2 with (go_at_call 254;refine C.out.mono ?_;rintro G r ⟨rfl,L⟩)
  obtain⟨J,H,s,c2,f2⟩:=L
  have H:=Qc H;have s:=Qc s;have CF:=Qc (Xh c2 f2)
  have y:Hid (WIn r (fun x=>J.ow x=0) l (.slice a n c)):=by
   refine WIn.keep (fun k j v=>s.out.block k v (fun e=>e j)) (fun k j v=>?_) HL.out;refine Xq.1 fun O=>?_;rcases s.out.own k O with h | h
   ·exact h j
   ·omega
  clear c2 f2 W C HL;go_wp2_with (go_at_call 111;refine(QaI _ _).mono ?_;rintro G w' ⟨rfl,z⟩;have z:=z.symm;subst z)
  go_loopw [28] (fun i wr=>∃ q:Nat,q<=n/\i=Iv q/\WTo J r wr b most m { R with e:=(R.e.got h size).withP ((R.e.got h size).p.puts A (l.take q)) }) (fun i _=>n - (intOf i).toNat)
  case atStart=>exact⟨0,Xb _,Z,⟨J,by simpa[PSt.puts,Est.withP] using H.out,⟨Qz.refl _ _,Z,Z⟩,Z,Z⟩⟩
  case round =>
   obtain⟨q,hq,rfl,g3,f,B,I,D⟩:=hrel
   by_cases P:q<n
   ·have aa:(q:Int)<n:=by omega
    obtain⟨x,N⟩:∃ x,l[q]?=some x:=⟨_,Zg (by rw[Q.out];exact P)⟩
    obtain⟨k,o,rfl,j,K⟩:=y.out.at N
    have K:wr.cell? ⟨k,o+q,none⟩=some (Iv x):=(XU (w:=r) (a:=⟨k,o+q,none⟩) (B.block k (Xi r _ K) (fun e=>e j))).trans K;have W:=f.cellE;have q1:=f.cellP;have X:=Qc (f.storeC (A+q) x);have EW:Hid (wrap64 (A+(q:Int))=A+q):=by show _=_;have:=U.out;unfold wrap64;omega
    have R3:Hid (∀ E,WTo g3 wr E b most m (RM.stored { R with e:=(R.e.got h size).withP ((R.e.got h size).p.puts A (l.take q)) } (A+q) x)->WTo J r E b most m { R with e:=(R.e.got h size).withP ((R.e.got h size).p.puts A (l.take (q+1))) }):=by
     intro E t;have t:=WTo.then B I D t;have e1:l.take (q+1)=l.take q++[x]:=by rw[XV,N];rfl
     have e2:(l.take q).length=q:=by rw[List.length_take,Q.out];omega
     rw[e1,Qfl,e2]
     exact t
    clear f B I D N j H y s F U;generalize (R.e.got h size).p.puts A (l.take q)=st at *;go_wp2_with (rw[EW.out];go_at_call 221;refine X.out.mono ?_;rintro G E ⟨rfl,t⟩)
    have R5:=Qc (R3.out _ t);clear t R3 X K W q1;go_wp2
    go_roundw
    case rel=>exact⟨q+1,by omega,by go_num,R5.out⟩
    case measure=>simp[intOf];omega
   ·have M:q=n:=by omega
    subst M
    have V:Hid (ThW g w b most m R h size l (.returned (Iv A)) wr):=by
     refine .inl ⟨F.out,by rw[EA.out],WTo.then s.out CF.out.1 CF.out.2 ?_⟩;unfold RM.thinged;rw[EA.out]
     have e:l.take q=l:=XO (by rw[Q.out];exact Ze);rw[e] at f
     exact⟨g3,f,B,I,D⟩
    clear f B I D;go_wp2
    go_ret;exact V.out
 ·have d0:(R.e.getCode h size==0)=false:=by simpa using d
  have F:=Qc d;have EG:=Qc (QlW d);clear d;obtain⟨cd,u⟩:∃ cd,R.e.getCode h size=cd:=⟨_,Z⟩
  rw[u] at C d0
  clear u;go_enter func219,ntmps219
  go_wp2_with (go_at_call 254;refine C.out.mono ?_;rintro G r ⟨rfl,L⟩)
  refine(Z2 _ _).mono ?_
  rintro G w' ⟨rfl,z⟩;subst z;rw[EG.out] at L
  exact⟨Z,.inr ⟨F.out,Z,L⟩⟩
end
section
variable {w w' w2:World}{b most:Nat}{m:List (MFunc 6)}{R R':RM}{g g1:WG}
theorem ThW.then {h size:Int}{e:Ending}(T:WSt g g1 w w2) (f:g1.t.c=g.t.c) (i:g1.fs=g.fs) (H:ThW g1 w2 b most m R h size l e w'):ThW g w b most m R h size l e w':=by
 rcases H with ⟨a,c,d⟩|⟨a,c,d⟩
 ·exact .inl ⟨a,c,WTo.then T f i d⟩
 ·exact .inr ⟨a,c,WTo.then T f i d⟩
theorem Qhk (S:WAt w b most m R g) (h:Int)(k:l.length=n) (o:n<=1000) (p:WIn w (fun x=>g.ow x=0) l (.slice a n c)) :
 Calls prog 172 #[Pv b 0,Iv h,.slice a n c] w fun e w'=>ThW g w b most m R h (if l.length=0 then 1 else (l.length:Int)) l e w':=by
 have C:=Qc (QdI S h (if l.length=0 then 1 else (l.length:Int)) k o p)
 have E:(if l.length=0 then 1 else (l.length:Int))=if (1:Int)<=n then (n:Int) else 1:=by
  rw[k]
  split<;>split<;>omega
 rw[E] at C |-
 have q:∀ (x y:Int),max x y=if y<=x then x else y:=fun x y=>by omega
 clear S k o p E;go_enter func172,ntmps172
 by_cases j:(1:Int)<=n
 ·rw[Xs j] at C |-
  have i:max (n:Int) 1=n:=by omega
  clear j q;go_wp2_with fail
  try rw[i]
  refine C.out.mono ?_;rintro r s (⟨f,rfl,d⟩|⟨f,rfl,d⟩)
  ·have R:=Qc (Xh f d);clear f d C i;go_wp2
   go_ret;exact .inl ⟨R.out.1,Z,R.out.2⟩
  ·exact⟨Z,.inr ⟨f,Z,d⟩⟩
 ·rw[Xr j] at C |-
  have i:max (n:Int) 1=1:=by omega
  clear j q;go_wp2_with fail
  try rw[i]
  refine C.out.mono ?_;rintro r s (⟨f,rfl,d⟩|⟨f,rfl,d⟩)
  ·have R:=Qc (Xh f d);clear f d C i;go_wp2
   go_ret;exact .inl ⟨R.out.1,Z,R.out.2⟩
  ·exact⟨Z,.inr ⟨f,Z,d⟩⟩
def QnW (g:WG) (w:World) (b most:Nat) (m:List (MFunc 6)) (R:RM) (h n:Int) (e:Ending) (w':World):Prop :=
 (0<=n/\n<=15/\ThW g w b most m R h (n+1) [n] e w')\/(¬ (0<=n/\n<=15)/\e=.panicked (QdA 3)/\WTo g w w' b most m R)
theorem Qhi (S:WAt w b most m R g) (h n:Int) :
 Calls prog 173 #[Pv b 0,Iv h,Iv n] w fun e w'=>QnW g w b most m R h n e w':=by
 by_cases k:0<=n
 ·have z:decide (n>=0)=true:=by simpa using k
  by_cases o:n<=15
  ·have A:decide (n<=15)=true:=by simpa using o
   have r:=ZO w (.cells #[Iv n] 2);have u:=S.below r;have x:=Qc (S.stepB r);have t:g.ow w.heap.size=0:=Xq.1 fun e=>by have:=S.lt _ e;omega
   have C:=Qc (QdI u h (n+1) (l:=[n]) (a:=some ⟨w.heap.size,0,none⟩) (n:=1) (c:=1) Z (by omega) ⟨_,1,Z,fun i y=>by
    have:i=0:=by simpa using y
    subst this;exact⟨w.heap.size,0,Z,t,by simp,Qb (Qe w #[Iv n] 2) 0 _ Z⟩⟩)
   have v:wrap64 (n+1)=n+1:=by unfold wrap64;omega
   have d:=Qc (Xh k o);clear S u r t k o;go_enter func173,ntmps173
   go_wp2_with (go_at_call 111;refine(QaI _ _).mono ?_;rintro q w' ⟨rfl,j⟩;have j:=j.symm;subst j)
   try rw[v]
   refine C.out.mono ?_;rintro q B f;replace f:=f.then x.out Z Z;rcases f with ⟨p,rfl,f⟩|⟨p,rfl,f⟩
   ·have R:=Qc (Xh p f);clear p f C v;go_wp2
    go_ret;exact .inl ⟨d.out.1,d.out.2,.inl ⟨R.out.1,Z,R.out.2⟩⟩
   ·exact⟨Z,.inl ⟨d.out.1,d.out.2,.inr ⟨p,Z,f⟩⟩⟩
  ·have A:decide (n<=15)=false:=by simpa using o
   have s:=Qc S;have d:Hid (¬ n<=15):=o;clear S k o;go_enter func173,ntmps173
   go_wp2_with fail
   refine(Z2 _ _).mono ?_
   rintro q w' ⟨rfl,j⟩;subst j;exact⟨Z,.inr ⟨fun h=>by have:=d.out;omega,Z,WTo.same s.out Zr⟩⟩
 ·have z:decide (n>=0)=false:=by simpa using k
  have s:=Qc S;have d:Hid (¬ 0<=n):=k;clear S k;go_enter func173,ntmps173
  go_wp2_with fail
  refine(Z2 _ _).mono ?_
  rintro q w' ⟨rfl,j⟩;subst j;exact⟨Z,.inr ⟨fun h=>by have:=d.out;omega,Z,WTo.same s.out Zr⟩⟩
end
theorem Xu:type_of% @decide_eq_false:=@decide_eq_false
section
variable {w w' w2:World}{b most:Nat}{m:List (MFunc 6)}{R R':RM}{g g1:WG}
theorem WAt.setOut (S:WAt w b most m R g){n:Int}{v9:Value}{w9:World}(s:w9.ownsRow 0 2 1 v9 (R.out.length+1) (R.out.map (Value.int .i64)++[Iv n])) (c:w.grownBy w9 g.vo.ownBlock) (o:∀ k,v9.ownBlock=some k->g.vo.ownBlock=some k\/k=w.heap.size) :
 WTo g w (w9.setCell ⟨b,7,none⟩ v9) b most m { R with out:=R.out++[n] }:=by
 have i:=XC S.box;have d:∀ x,g.vo.ownBlock=some x->x≠b:=fun x a e=>by have:=S.oo x a;rw[e,S.ob] at this;omega
 have j:w9.heap[b]?=_:=(c.block b i (fun e=>d _ e.symm Z)).trans S.box
 have f:∀ k,v9.ownBlock=some k->k≠b:=fun k q e=>by
  rcases o k q with h | h
  ·exact d k h e
  ·omega
 have r:w.heap.size<=(w9.setCell ⟨b,7,none⟩ v9).heap.size:=by simpa using c.size
 have k:Wc g.ow (QcD g.ow 4 w (w9.setCell ⟨b,7,none⟩ v9)) (fun x=>x=1\/x=4) w (w9.setCell ⟨b,7,none⟩ v9):=Wc.marks S (by omega) c.os c.tape c.output r (fun x a p=>by
  rw[Xd _ _ _ _ (fun (e:x=b)=>p (.inl (e ▸ S.ob)))]
  exact c.block x a (fun e=>p (.inr (S.oo x e.symm))))
 have l:QbP (w9.setCell ⟨b,7,none⟩ v9) v9 (R.out++[n]):=by
  show World.ownsRow _ 0 _ 1 v9 (R.out++[n]).length ((R.out++[n]).map (Value.int .i64));rw[List.length_append,List.map_append]
  exact QY s (fun x a=>Xd _ _ _ _ (f x a))
 refine⟨{ g with vo:=v9,ow:=QcD g.ow 4 w (w9.setCell ⟨b,7,none⟩ v9) },⟨?_,S.kEst k (by omega),S.kMod k,S.kInp k,S.inpC,S.kCalls k (by omega),S.kBack k,l,S.kFrs k (fun x h e=>by omega),S.kob k,S.koc k,fun x a=>?_,k.lt,S.klow k⟩,⟨k.step,Z,Z⟩,Z,Z⟩
 ·have:=Qh j 7 v9
  simpa using this
 ·rcases o x a with h | h
  ·exact(QaW (S.out.lt h)).trans (S.oo x h)
  ·exact Qc3 (by omega) (l.lt a)
theorem Qf2 (S:WAt w b most m R g) (n:Int) (O:R.out.length<=2000) :
 Calls prog 175 #[Pv b 0,Iv n] w fun e w'=>(R.out.length<2000/\e=.returned (.tuple #[])/\WTo g w w' b most m { R with out:=R.out++[n] })\/(¬ R.out.length<2000/\e=.panicked (QdA 8)/\WTo g w w' b most m R):=by
 obtain⟨J,I,s,t,r⟩:=iInfo64
 obtain⟨T,P,j⟩:=QaR S.out
 have F:w.cell? ⟨b,7,none⟩=some g.vo:=Qb S.box 7 _ Z;rw[j] at F
 have B:=Qc S;have z:=Qc j;by_cases o:R.out.length<2000
 ·have M:decide ((R.out.length:Int)<2000)=true:=Xt (by omega);have A:=ZO w (.cells #[Iv n] 2);have l:=Qc (S.below A);have E:=Qc (S.stepB A);have i:=Qc l.out.out;have C:=Qc (QmY w [Iv n] 2);have N:Hid ((w.alloc (.cells #[Iv n] 2)).heap.size=w.heap.size+1):=by show _=_;simp
  have f:=Qc (fun v9 w9=>l.out.setOut (v9:=v9) (w9:=w9) (n:=n));have c:=Qc l.out.box;have a:Hid (∀ x,g.vo.ownBlock=some x->x≠b):=fun x K e=>by have:=S.oo x K;rw[e,S.ob] at this;omega
  have p:Hid (R.out.length<2000):=o;clear S j o A B;unfold QbP at i;rw[z.out] at i f a
  go_enter func175,ntmps175
  go_upto_region 1 with (go_at_call 111;refine(QaI _ _).mono ?_;rintro L w' ⟨rfl,h⟩;have h:=h.symm;subst h)
  go_wp2_with (at_builtin;refine ZN _ Z _ _ 25 Z 2 J (Iv 0) 1 8 iUnder64 I s t r Z (by decide) _ _ _ Z i.out ⟨w.heap.size,0,none⟩ 1 1 [Iv n] Z Z C.out (by intro u D;simp at D;subst D;rfl) (by unfold maxLen;omega) (by omega) ?_)
  intro v9 w9 y q G;have R:=Qc (WTo.then E.out Z Z (f.out v9 w9 y q (fun k H=>(G k H).imp id (fun e=>by rw[N.out];exact e))));have d:=(q.block b (XC c.out) (fun e=>a.out b e.symm Z)).trans c.out;have Q:w9.cell? ⟨b,7,none⟩=some g.vo:=Qb d 7 _ Z;have W:=Qj d 7;obtain⟨U,V,rfl⟩:=QaR y
  clear y q G f d c i F C E l a;go_wp2
  exact Xz (v:=.tuple #[]) (by simp[results,results175,go_sem]) Z (.inl ⟨p.out,Z,R.out⟩)
 ·have M:decide ((R.out.length:Int)<2000)=false:=Xu (by omega);have p:Hid (¬ R.out.length<2000):=o;clear S j o;go_enter func175,ntmps175
  go_wp2_with fail
  refine(Z2 _ _).mono ?_
  rintro L w' ⟨rfl,h⟩;subst h;exact⟨Z,.inr ⟨p.out,Z,WTo.same B.out Zr⟩⟩
def Qnu (g:WG) (w:World) (b most:Nat) (m:List (MFunc 6)) (R:RM) (e:Ending) (w':World):Prop:=match R.inp with
 | []=>e=.panicked (QdA 4)/\WTo g w w' b most m R
 | n::l=>e=.returned (.int .i64 n)/\WTo g w w' b most m { R with inp:=l }
theorem Qga (S:WAt w b most m R g) (r:R.inp.length<=1000000) :
 Calls prog 174 #[Pv b 0] w fun e w'=>Qnu g w b most m R e w':=by
 have o:w.cell? ⟨b,2,none⟩=some (.slice g.pi R.inp.length g.ci):=Qb S.box 2 _ Z;have v:=Qc S;unfold Qnu
 cases hi:R.inp with
 | nil =>
   rw[hi] at o
   clear S;go_enter func174,ntmps174
   go_wp2_with fail
   refine(Z2 _ _).mono ?_
   rintro H w' ⟨rfl,a⟩;subst a;exact⟨Z,Z,WTo.same v.out Zr⟩
 | cons n l =>
   have f:=S.inp;have c:=S.inpC;rw[hi] at o f c
   obtain⟨E,q,z,-,p,K⟩:=ZH f (i:=0) (by simp)
   simp only[List.getD_cons_zero,Nat.add_zero] at K
   rw[z] at o f
   simp only[List.length_cons] at o c
   have O:=Qj S.box 2
   have y:intsL.In w (fun x=>g.ow x=0/\g.lk<=x/\x<b) l [.slice (some ⟨E,q+1,none⟩) l.length (g.ci - 1)]:=by
    refine⟨_,_,Z,fun i x G=>?_⟩
    obtain⟨P,Q,M,d,s,u,A,L⟩:=Yf f (i:=i+1) (x:=x) (by simpa using G)
    injection d with d
    injection d with d e10
    subst d;subst e10;refine⟨_,_,M,Z,s,u,fun j C=>?_,L⟩
    have:=A j C
    rw[show q+1+i*Lay.int.size+j=q+(i+1)*Lay.int.size+j by simp[Lay.int];omega]
    exact this
   have t:∀ (pi:Option Addr) (ci:Nat),intsL.In w (fun x=>g.ow x=0/\g.lk<=x/\x<b) l [.slice pi l.length ci]->l.length<=ci->WTo g w (w.setCell ⟨b,2,none⟩ (.slice pi l.length ci)) b most m { R with inp:=l }:=fun pi ci s u=>by
    refine S.reBox (R':={ R with inp:=l }) Z Z Z (by simp) (fun k N h=>Xd _ _ _ _ h) ⟨Z,Z,Z,Z⟩ (pi:=pi) (ci:=ci) (vb:=g.vb) ⟨s,u⟩ S.back ?_;rw[Qh S.box 2 _]
    simp
   have B:=Qc (t _ _ y (by omega))
   have I:Hid (l.length=0->∀ pi ci,WTo g w (w.setCell ⟨b,2,none⟩ (.slice pi l.length ci)) b most m { R with inp:=l }):=fun e pi ci=>t pi ci (by
    have:l=[]:=Xf.1 e
    subst this;exact Yg _ _ _ _ _) (by omega)
   have D:((g.ci:Int) - 1)=((g.ci - 1:Nat):Int):=by omega
   have F:l.length+1<=1000000:=by rw[hi] at r;simpa using r
   clear S f y v z hi r p t;generalize g.ci=ci at *;go_enter func174,ntmps174
   have J:decide (((l.length+1:Nat):Int)>0)=true:=Xt (by omega);go_upto_region 2 with (go_at_call 111;refine(QaI _ _).mono ?_;rintro H w' ⟨rfl,a⟩;have a:=a.symm;subst a)
   clear J;go_wp2
   ·go_ret;exact⟨Z,I.out (by omega) _ _⟩
   ·go_ret;exact⟨Z,B.out⟩
end
theorem Xg:type_of% @Nat.le_of_ble_eq_true:=@Nat.le_of_ble_eq_true
def Qhn (w6:World) (fr:RFr) (v:Value) (w:World):Prop:=∃ k x n,v=Pv k 0/\w6.heap.size<=k/\w6.heap.size<=x/\WFr w k fr (.slice (some ⟨x,0,none⟩) n n)
def QmI (w6:World) (fr:RFr) (v:Value) (w:World):Prop:=∃ x n,v=.agg (frA fr (.slice (some ⟨x,0,none⟩) n n))/\w6.heap.size<=x/\QbP w (.slice (some ⟨x,0,none⟩) n n) fr.v
theorem Qhn.below {w w':World}{fr:RFr}{v:Value}(h:Qhn w6 fr v w) (b:Below w.heap.size w w'):Qhn w6 fr v w':=by
 obtain⟨k,x,n,d,e,a,c⟩:=h
 exact⟨k,x,n,d,e,a,c.below b⟩
theorem QmI.below {w w':World}{fr:RFr}{v:Value}(h:QmI w6 fr v w) (b:Below w.heap.size w w'):QmI w6 fr v w':=by
 obtain⟨x,n,c,d,a⟩:=h
 exact⟨x,n,c,d,QY a (fun y e=>b.block y (a.lt e))⟩
def QnF (w6:World) (fr:RFr) (c X fi bi na ca:Nat) (pa:Option Addr) (t:Tmp) (v:Value) (w:World):Prop :=
 match ([(14,Qhn w6 fr),(15,Qhn w6 fr),(16,QmI w6 fr)]:List (Tmp × (Value->World->Prop))).lookup t with
 | some p=>p v w
 | none=>v=(([(0,.pointer (some ⟨c,0,none⟩)),(3,.pointer (some ⟨X,0,none⟩)),(4,.pointer (some ⟨c,0,none⟩)),(5,.pointer (some ⟨c,0,none⟩)),(6,.pointer (some ⟨c,0,none⟩)),(7,.pointer (some ⟨c,0,none⟩)),(8,.pointer (some ⟨c,0,none⟩)),(9,.int .i64 (fi:Int)),(10,.pointer (some ⟨X,0,none⟩)),(11,.int .i64 (bi:Int)),(12,.pointer (some ⟨X,2,none⟩)),(13,.slice pa na ca),(17,.pointer (some ⟨c,0,none⟩))]:List (Tmp × Value)).lookup t).getD undef
theorem wj1 {fr:RFr}{c r:Nat}(H:w6.cell? ⟨c,0,none⟩=some (Iv (fi:Int))) (F:w6.cell? ⟨X,0,none⟩=some (Iv (bi:Int))) (I:w6.cell? ⟨X,2,none⟩=some (.slice pa r ca)) (L:Hid (∀ wx,Below w6.heap.size w6 wx->Calls prog 216 #[Pv c 0,Iv (fi:Int),Iv (bi:Int),.slice pa r ca] wx fun e w'=>Qmu wx fr e w')){Q:Exit->Act->World->Prop}
 (a:Act) (m:Nat) (J:a.tmps.size=m) (u:18<=m) (G:a.tmps.getD 0 undef=Pv c 0) (i:a.tmps.getD 3 undef=Pv X 0)
 (hend:∀ ops vs w',(QmI w6 fr) (vs 16) w'->vs 17=Pv c 0->Below w6.heap.size w6 w'->wpList prog ops Q (Qal 14 ((Tryz.f168.body.bind (Qi 1)).getD .skip)) (QN a vs [4,5,6,7,8,9,10,11,12,13,14,15,16,17]) w') :
 Code.wp prog ((Tryz.f168.body.bind (Qi 1)).getD .skip) Q a w6:=by
 conv=>arg 2;whnf
 refine Qg 14 (QnF w6 fr c X fi bi r ca pa) (fun w=>Below w6.heap.size w6 w) (fun w w'=>Below w.heap.size w w') (outs:=[0,3]) (gs:=[]) (bs:=[true,true,true,true,true,true,true,true,true,true,true,true,true,true]) (by kernel_rfl) (n:=18) J u (by kernel_rfl) (by kernel_rfl) ?hR ?hG (QI Zr 1) ⟨G,i,Y⟩ ?hA ?hend
 case hR =>
  intro t v w w' y h;unfold QnF at h |-;split at h
  ·rename_i p j
   simp only[List.lookup_cons,List.lookup_nil] at j
   split at j
   ·cases j;exact h.below y
   ·split at j
    ·cases j;exact h.below y
    ·split at j
     ·cases j;exact h.below y
     ·cases j
  ·exact h
 case hG=>exact Y
 case hend=>exact fun ops vs w' d f=>hend ops vs w' (f 16 (by kernel_rfl)) (f 17 (by kernel_rfl)) d
 case hA =>
  refine⟨fun a w d f K g=>?_,?_⟩
  ·obtain⟨b,-⟩:=f
   have b:a.tmps.getD 0 undef=Pv c 0:=b;go_simp;exact g _ _ Zr d Z
  refine⟨fun a w d f K g=>?_,?_⟩
  ·obtain⟨b,-⟩:=f
   have b:a.tmps.getD 0 undef=Pv c 0:=b;go_simp;exact g _ _ Zr d Z
  refine⟨fun a w d f K g=>?_,?_⟩
  ·obtain⟨b,-⟩:=f
   have b:a.tmps.getD 0 undef=Pv c 0:=b;go_simp;exact g _ _ Zr d Z
  refine⟨fun a w d f K g=>?_,?_⟩
  ·obtain⟨b,-⟩:=f
   have b:a.tmps.getD 6 undef=Pv c 0:=b;go_simp;exact g _ _ Zr d Z
  refine⟨fun a w d f K g=>?_,?_⟩
  ·obtain⟨b,-⟩:=f
   have b:a.tmps.getD 7 undef=Pv c 0:=b;go_simp;exact g _ _ Zr d Z
  refine⟨fun a w d f K g=>?_,?_⟩
  ·obtain⟨b,-⟩:=f
   have b:a.tmps.getD 8 undef=Pv c 0:=b;have B:=Qk H d;go_simp;exact g _ _ Zr d Z
  refine⟨fun a w d f K g=>?_,?_⟩
  ·obtain⟨b,-⟩:=f
   have b:a.tmps.getD 3 undef=Pv X 0:=b;go_simp;exact g _ _ Zr d Z
  refine⟨fun a w d f K g=>?_,?_⟩
  ·obtain⟨b,-⟩:=f
   have b:a.tmps.getD 10 undef=Pv X 0:=b;have B:=Qk F d;go_simp;exact g _ _ Zr d Z
  refine⟨fun a w d f K g=>?_,?_⟩
  ·obtain⟨b,-⟩:=f
   have b:a.tmps.getD 3 undef=Pv X 0:=b;go_simp;exact g _ _ Zr d Z
  refine⟨fun a w d f K g=>?_,?_⟩
  ·obtain⟨b,-⟩:=f
   have b:a.tmps.getD 12 undef=Pv X 2:=b;have B:=Qk I d;go_simp;exact g _ _ Zr d Z
  refine⟨fun a w d f K g=>?_,?_⟩
  ·obtain⟨b,C,D,E,-⟩:=f
   have b:a.tmps.getD 5 undef=Pv c 0:=b;have C:a.tmps.getD 9 undef=Iv (fi:Int):=C;have D:a.tmps.getD 11 undef=Iv (bi:Int):=D;have E:a.tmps.getD 13 undef=.slice pa r ca:=E;go_simp;refine Xm (L.out w d) ?_;rintro P N ⟨q,l,k,rfl,s,o,i,A⟩;go_simp;exact g _ _ A (d.trans (A.mono d.size)) ⟨q,l,k,Z,Zt d.size s,Zt d.size o,i⟩
  refine⟨fun a w d f K g=>?_,?_⟩
  ·obtain⟨b,-⟩:=f
   have b:(Qhn w6 fr) (a.tmps.getD 14 undef) w:=b;generalize x:a.tmps.getD 14 undef=z at b;obtain⟨q,l,k,rfl,s,o,i⟩:=b
   go_simp;exact g _ _ Zr d ⟨q,l,k,Z,s,o,i⟩
  refine⟨fun a w d f K g=>?_,?_⟩
  ·obtain⟨b,-⟩:=f
   have b:(Qhn w6 fr) (a.tmps.getD 15 undef) w:=b;generalize x:a.tmps.getD 15 undef=z at b;obtain⟨q,l,k,rfl,s,o,i⟩:=b
   have M:=Qb i.1 0 _ Z;have S:=Qb i.1 1 _ Z;have O:=Qb i.1 2 _ Z;have R:=Qb i.1 3 _ Z;go_simp;exact g _ _ Zr d ⟨l,k,Z,o,i.2⟩
  refine⟨fun a w d f K g=>?_,?_⟩
  ·obtain⟨b,-⟩:=f
   have b:a.tmps.getD 4 undef=Pv c 0:=b;go_simp;exact g _ _ Zr d Z
  trivial
section
variable {w w' w2:World}{b most:Nat}{m:List (MFunc 6)}{R R':RM}{g g1:WG}{c:Nat}{fr:RFr}{v:Value}
theorem Qly {w:World}{c:Nat}{a0 g f i:Value}(h:w.heap[c]?=some (.cells #[a0,g,f,i] 132 (0,0))) (a d e b:Value) :
 ((((w.setCell ⟨c,0,none⟩ a).setCell ⟨c,1,none⟩ d).setCell ⟨c,2,none⟩ e).setCell ⟨c,3,none⟩ b).heap[c]?=some (.cells #[a,d,e,b] 132 (0,0)):=by
 have:=Qh (Qh (Qh (Qh h 0 a) 1 d) 2 e) 3 b
 simpa using this
theorem WAt.newTop (S:WAt w b most m R g) (B:Below w.heap.size w w'){fr:RFr}{x:Nat}(p:w.heap.size<=x) (l:QbP w' (.slice (some ⟨x,0,none⟩) n n) fr.v) :
 WTo g w ((((w'.setCell ⟨g.t.c,0,none⟩ (Iv fr.f)).setCell ⟨g.t.c,1,none⟩ (Iv fr.b)).setCell ⟨g.t.c,2,none⟩ (Iv fr.i)).setCell ⟨g.t.c,3,none⟩ (.slice (some ⟨x,0,none⟩) n n)) b most m { R with top:=fr }:=by
 have F:=S.top;have d:=XC F.1;have h:w'.heap[g.t.c]?=_:=(B.block _ d).trans F.1
 have e:∀ k,k≠g.t.c->((((w'.setCell ⟨g.t.c,0,none⟩ (Iv fr.f)).setCell ⟨g.t.c,1,none⟩ (Iv fr.b)).setCell ⟨g.t.c,2,none⟩ (Iv fr.i)).setCell ⟨g.t.c,3,none⟩ (.slice (some ⟨x,0,none⟩) n n)).heap[k]?=w'.heap[k]?:=fun k a=>by
  rw[Xd _ _ _ _ a,Xd _ _ _ _ a,Xd _ _ _ _ a,Xd _ _ _ _ a]
 refine S.setTop B.os B.tape B.output (by simpa using B.size) (fun k a o _=>(e k o).trans (B.block k a)) ⟨Qly h _ _ _ _,QY l (fun y j=>?_)⟩ (fun k a=>.inr ?_)
 ·have:y=x:=by simpa[Value.ownBlock] using j.symm
  exact e y (by omega)
 ·have:k=x:=by simpa[Value.ownBlock] using a.symm
  omega
theorem Qh0 (S:WAt w b most m R g) (O:R.top.v.length<=1000000){t:MTo}(y:t.block=(bi:Int)){Q:Nat->Prop}{p:Option Addr}{k l:Nat}(J:intsL.In w Q t.args [.slice pa t.args.length ca]) (L:t.args.length<=1000) (o:Qaz R.top.v t.args=some xs) :
 Calls prog 168 #[Pv g.t.c 0,.agg #[Iv t.block,.slice p k l,.slice pa t.args.length ca]] w fun e w'=>e=.returned (.tuple #[])/\WTo g w w' b most m { R with top:=⟨R.top.f,t.block.toNat,0,xs⟩ }:=by
 rw[y,XT]
 have r:=Qc (ZO w (.cells #[Iv (bi:Int),.slice p k l,.slice pa t.args.length ca] 82));have q:=Qc (Qe w #[Iv (bi:Int),.slice p k l,.slice pa t.args.length ca] 82);have i:=Qc (S.below r.out);have u:=Qc (S.stepB r.out);have A:=Qc (Ya J r.out);have E:=Qc o;have P:=Qc L;clear S J o L;go_enter func168,ntmps168
 go_upto_region 1 with fail
 generalize w.alloc (.cells #[Iv (bi:Int),.slice p k l,.slice pa t.args.length ca] 82)=s at r q i u A |-;generalize w.heap.size=X at q |-;have M:Hid (∀ j,Below s.heap.size s j->Calls prog 216 #[Pv g.t.c 0,Iv (R.top.f:Int),Iv (bi:Int),.slice pa t.args.length ca] j fun e w'=>Qmu j ⟨R.top.f,bi,0,xs⟩ e w'):=fun j H=>QdK (i.out.top.below H) O Z (by have:=P.out;omega) (Ya A.out H) E.out R.top.f bi;have I:s.cell? ⟨g.t.c,0,none⟩=some (Iv R.top.f):=Qb i.out.top.1 0 _ Z;have D:=Qb q.out 0 _ Z;have K:=Qb q.out 2 _ Z;refine wj1 I D K M _ _ Z (Xg (by kernel_rfl)) Z Z ?_;rintro z N G ⟨x,n,d,o,F⟩ h C;show wpList _ z _ [_] (QN _ N [4,5,6,7,8,9,10,11,12,13,14,15,16,17]) G;simp only[QN,Act.put,List.setIfInBounds_toArray,List.set_cons_zero,List.set_cons_succ,d,h]
 have B:=Qc (WTo.then u.out Z Z (i.out.newTop C o (fr:=⟨R.top.f,bi,0,xs⟩) F));have a:G.heap[g.t.c]?=_:=(C.block _ (XC i.out.top.1)).trans i.out.top.1;have W:=Qb a 0 _ Z;have c1:=Qb a 1 _ Z;have T:=Qb a 2 _ Z;have V:=Qb a 3 _ Z;have U:=Qj a 0;have z1:=Qj a 1;have z2:=Qj a 2;have z3:=Qj a 3;clear d h C I D K M F a i u E A;go_wp2
 exact Xz (v:=.tuple #[]) (by simp[results,results168,go_sem]) Z ⟨Z,B.out⟩
end
section
variable {w w' w5 w9:World}{b most:Nat}{m:List (MFunc 6)}{R R':RM}{g g1:WG}
theorem WAt.next (S:WAt w b most m R g):WTo g w (w.setCell ⟨g.t.c,2,none⟩ (Iv ((R.top.i:Int)+1))) b most m { R with top:={ R.top with i:=R.top.i+1 } }:=by
 obtain⟨⟨F,h,d⟩,-⟩:=S.frs
 refine S.setTop Z Z Z (by simp) (fun x a f _=>Xd _ _ _ _ f) (v:=g.t.v) ⟨?_,?_⟩ (fun x a=>.inl a)
 ·rw[Qh F.1 2 (Iv ((R.top.i:Int)+1))]
  simp
 ·exact QY F.2 (fun x a=>Xd _ _ _ _ (fun (e:x=g.t.c)=>by have:=d x a;rw[e,h] at this;omega))
theorem WAt.pushFr (S:WAt w b most m R g) (n:Below w.heap.size w w5){c d j:Nat}{fr:RFr}(F:WFr w5 c fr (.slice (some ⟨d,0,none⟩) j j)) (H:w.heap.size<=c) (I:w.heap.size<=d)
 {v9:Value} (B:w9.ownsRow 0 130 1 v9 (R.rest.length+1+1) (Qaw (g.t::g.fs)++[Pv c 0])) (l:w5.grownBy w9 g.vc.ownBlock) (C:∀ k,v9.ownBlock=some k->g.vc.ownBlock=some k\/k=w5.heap.size) :
 ∃ g',WAt (w9.setCell ⟨b,4,none⟩ v9) b most m { R with top:=fr,rest:=R.top::R.rest } g'/\WSt g g' w (w9.setCell ⟨b,4,none⟩ v9)/\g'.fs=g.t::g.fs:=by
 have y:=XC S.box;have K:=n.size;have J:=l.size;have p:=XC F.1;have s:=F.2.lt (x:=d) Z
 have v:d≠c:=fun e=>by
  obtain⟨q,E⟩:=ZU F.2 (x:=d) Z
  exact Zb E F.1 (by decide) e
 have M:w.heap.size<=(w9.setCell ⟨b,4,none⟩ v9).heap.size:=by simp;omega
 have o:∀ x,g.vc.ownBlock=some x->x≠b:=fun x a e=>by have:=S.oc x a;rw[e,S.ob] at this;omega
 have z:w9.heap[b]?=_:=(l.block b (by omega) (fun e=>o _ e.symm Z)).trans ((n.block b y).trans S.box)
 have r:∀ k,v9.ownBlock=some k->k≠b:=fun k D e=>by
  rcases C k D with h | h
  ·exact o k h e
  ·omega
 have f:∀ k,w.heap.size<=k->k<w5.heap.size->(w9.setCell ⟨b,4,none⟩ v9).heap[k]?=w5.heap[k]?:=fun k N L=>by
  rw[Xd _ _ _ _ (fun (e:k=b)=>by omega)]
  exact l.block k L (fun e=>by have:=XC (ZU S.calls e.symm).choose_spec;omega)
 let ow':Nat->Nat:=fun x=>if x<w.heap.size then g.ow x else if x<w9.heap.size then (if x=c then 5+2*(R.rest.length+1) else if x=d then 6+2*(R.rest.length+1) else 3) else 0
 have i:∀ x,x<w.heap.size->ow' x=g.ow x:=fun x a=>Xs a
 have k:Wc g.ow ow' (fun x=>x=1\/x=3) w (w9.setCell ⟨b,4,none⟩ v9):=⟨l.os.trans n.os,l.tape.trans n.tape,l.output.trans n.output,M,i,fun x a A=>by
  rw[Xd _ _ _ _ (fun (e:x=b)=>A (.inl (e ▸ S.ob)))]
  exact(l.block x (by omega) (fun e=>A (.inr (S.oc x e.symm)))).trans (n.block x a),by omega,fun x a=>by
  have:x<w9.heap.size:=by
   refine Xq.1 fun h=>a ?_;show (if x<w.heap.size then _ else if x<w9.heap.size then _ else 0)=0;rw[Xr (by omega),Xr h]
  simpa using this⟩
 have G:(w9.setCell ⟨b,4,none⟩ v9).ownsRow 0 130 1 v9 (R.rest.length+1+1) (Qaw (⟨c,.slice (some ⟨d,0,none⟩) j j⟩::g.t::g.fs)):=by
  have e:Qaw (⟨c,.slice (some ⟨d,0,none⟩) j j⟩::g.t::g.fs)=Qaw (g.t::g.fs)++[Pv c 0]:=by simp[Qaw]
  rw[e]
  exact QY B (fun x a=>Xd _ _ _ _ (r x a))
 refine⟨{ g with vc:=v9,t:=⟨c,.slice (some ⟨d,0,none⟩) j j⟩,fs:=g.t::g.fs,ow:=ow' },⟨?_,S.kEst k (by omega),S.kMod k,S.kInp k,S.inpC,G,S.kBack k,S.kOut k (by omega),⟨⟨F.keep (f c H p) (fun x a=>?_),?_,fun x a=>?_⟩,S.kFrs k (fun x h e=>by omega)⟩,S.kob k,fun x a=>?_,S.koo k,k.lt,S.klow k⟩,⟨k.step,Z,Z⟩,Z⟩
 ·have:=Qh z 4 v9
  simpa using this
 ·have:x=d:=by simpa[Value.ownBlock] using a.symm
  subst this;exact f x I s
 ·show (if c<w.heap.size then _ else if c<w9.heap.size then _ else 0)=_;rw[Xr (by omega),Xs (by omega),Xs Z]
  simp
 ·have:x=d:=by simpa[Value.ownBlock] using a.symm
  subst this;show (if x<w.heap.size then _ else if x<w9.heap.size then _ else 0)=_;rw[Xr (by omega),Xs (by omega),Xr v,Xs Z]
  simp
 ·rcases C x a with h | h
  ·exact(i x (XC (ZU S.calls h).choose_spec)).trans (S.oc x h)
  ·have u:=XC (ZU B a).choose_spec;show (if x<w.heap.size then _ else if x<w9.heap.size then _ else 0)=_;rw[Xr (by omega),Xs u,Xr (by omega),Xr (by omega)]
theorem WAt.next2 (S:WAt w b most m R g){y:WB}{s:List WB}{fr:RFr}{rest:List RFr}(l:g.fs=y::s) (j:R.rest=fr::rest) :
 WGo g w (w.setCell ⟨y.c,2,none⟩ (Iv ((fr.i:Int)+1))) b most m { R with rest:={ fr with i:=fr.i+1 }::rest }:=by
 have p:=S.frs;rw[l,j] at p
 obtain⟨⟨u,h,f⟩,⟨n,o,q⟩,t⟩:=p
 have d:∀ x,x≠y.c->(w.setCell ⟨y.c,2,none⟩ (Iv ((fr.i:Int)+1))).heap[x]?=w.heap[x]?:=fun x a=>Xd _ _ _ _ a;have k:Wc g.ow g.ow (fun x=>x=5+2*rest.length) w (w.setCell ⟨y.c,2,none⟩ (Iv ((fr.i:Int)+1))):=⟨Z,Z,Z,by simp,fun _ _=>rfl,fun x a r=>d x (fun e=>r (by rw[e];exact o)),by omega,fun x a=>by simpa using S.lt x a⟩;simp only[List.length_cons] at h f
 refine⟨g,⟨(S.kBox k (by omega)).trans S.box,S.kEst k (by omega),S.kMod k,S.kInp k,S.inpC,?_,S.kBack k,S.kOut k (by omega),?_,S.ob,S.oc,S.oo,k.lt,S.klow k⟩,⟨k.step,Z,Z⟩⟩
 ·have:=S.kCalls k (by omega)
  rw[j] at this
  exact this
 ·rw[l]
  refine⟨⟨u.keep (d _ (fun e=>?_)) (fun x a=>d x (fun e=>?_)),h,f⟩,⟨⟨?_,?_⟩,o,q⟩,t.keep (fun _ _=>rfl) (fun x a z v=>k.keep x a (by omega))⟩
  ·rw[e] at h;omega
  ·have:=f x a;rw[e] at this;omega
  ·rw[Qh n.1 2 (Iv ((fr.i:Int)+1))]
   simp
  ·exact QY n.2 (fun x a=>d x (fun e=>by have:=q x a;rw[e] at this;omega))
theorem WAt.pop (S:WAt w b most m R g){y:WB}{i:List WB}{d:RFr}{rest:List RFr}(p:g.fs=y::i) (v:R.rest=d::rest)(s:g.vc=.slice a (R.rest.length+1) cap) :
 ∃ g',WAt (w.setCell ⟨b,4,none⟩ (.slice a R.rest.length cap)) b most m { R with top:=d,rest:=rest } g'/\WSt g g' w (w.setCell ⟨b,4,none⟩ (.slice a R.rest.length cap))/\g'.t=y:=by
 have r:=S.frs;rw[p,v] at r
 have o:∀ x,g.vc.ownBlock=some x->x≠b:=fun x f e=>by have:=S.oc x f;rw[e,S.ob] at this;omega
 have k:Wc g.ow g.ow (fun x=>x=1) w (w.setCell ⟨b,4,none⟩ (.slice a R.rest.length cap)):=⟨Z,Z,Z,by simp,fun _ _=>rfl,fun x f G=>Xd _ _ _ _ (fun (e:x=b)=>G (e ▸ S.ob)),by omega,fun x f=>by simpa using S.lt x f⟩;have D:(Value.slice a R.rest.length cap).ownBlock=g.vc.ownBlock:=by rw[s];cases a<;>rfl
 refine⟨{ g with vc:=.slice a R.rest.length cap,t:=y,fs:=i },⟨?_,S.kEst k (by omega),S.kMod k,S.kInp k,S.inpC,?_,S.kBack k,S.kOut k (by omega),r.2.keep (fun _ _=>rfl) (fun x f J I=>k.keep x f (by omega)),S.ob,fun x f=>S.oc x (by rw[<-D];exact f),S.oo,k.lt,S.klow k⟩,⟨k.step,Z,Z⟩,Z⟩
 ·rw[Qh S.box 4 (.slice a R.rest.length cap)]
  simp
 ·obtain⟨K,B⟩:=S.calls
  have E:Qaw (g.t::g.fs)=Qaw (y::i)++[Pv g.t.c 0]:=by rw[p];simp[Qaw]
  have q:(Qaw (y::i)).length=R.rest.length:=by have:=S.rows;rw[p] at this;simpa[Qaw] using this
  show World.ownsRow _ 0 _ 1 (.slice a R.rest.length cap) (rest.length+1) (Qaw (y::i));have l:rest.length+1=R.rest.length:=by rw[v];simp
  rw[l]
  refine⟨by rw[q];simp,?_⟩
  rcases B with ⟨j,z⟩|⟨u,M,h,j,z,C,L,H,F,A⟩
  ·omega
  ·have n:=o u (by rw[j];rfl);rw[s] at j
   cases j
   refine .inr ⟨u,cap,h,Z,Xb _,(Xd _ _ _ _ n).trans C,by omega,H,F,?_⟩
   have:h.toList.take (R.rest.length*1)=(h.toList.take ((R.rest.length+1)*1)).take (R.rest.length*1):=by rw[List.take_take,Nat.min_eq_left (by omega)]
   rw[this,A,E,List.take_append_of_le_length (by omega),XO (by omega)]
end
theorem QfD {l l2:List Oper}{outs:List Tmp}{gs:List (Nat × Option Bool)}{a:Act}{w:World}{Q:Exit->Act->World->Prop}
 (E:(Nat->Bool)->Tmp->Value->World->Prop) (W:(Nat->Bool)->World->Prop) (PX:List PanicEntry->World->Prop) (z:∀ ch a' w',a'.defers=a.defers->PX ch w'->Q (.panic ch) a' w')
 (D:P.follows .mixedOrders=true)  (F:a.tmps.size=m) (k:n<=m) (y:QaY l n outs gs bs=true)
 (r:(Qcu 0 (l++l2)&&(Qbn l.length l&&QaL (l++l2) l.length l2))=true)
 (G:∀ S,ZJ (E S) l.toArray gs) (p:W (fun _=>false) w.drew) (B:Qaf (E (fun _=>false)) a w.drew outs)
 (C:AllOkY E W PX P l 0 l bs)
 (b:∀ (vs:Tmp->Value) (S:Nat->Bool) w',(∀ j,j<l.length->S j=true)->W S w'->(∀ t,(Qt l).contains t=true->E S t (vs t) w')->wpList P (l++l2).toArray Q l2 (QN a vs (Qt l)) w') :
 (Code.region id (l++l2).toArray true).wp P Q a w:=by
 simp only[Bool.and_eq_true] at r
 obtain⟨i,d,g⟩:=r
 refine wp_region_any D ?_
 have f:wpAny P .any l.toArray (Exit.then (fun a w=>wpList P (l++l2).toArray Q l2 a w) Q) l.length (Array.replicate l.length false) a w.drew:=by
  have c:(fun j=>(Array.replicate l.length false).getD j false)=fun _=>false:=by
   funext j
   rw[Za,Array.getElem?_replicate]
   split<;>rfl
  refine Qbk (PX:=PX) (Q:=Exit.then (fun a w=>wpList P (l++l2).toArray Q l2 a w) Q) (a0:=a) (outs:=outs) (gs:=gs) (bs:=bs) (fun ch a' w' A I=>z ch a' w' A I) (Qaq (F ▸ k) y) G C (fun vs S w' h p u=>b vs S w' h p u) _ _ _ _ (by simp) ?_ ⟨by rw[c];exact p,(by rw[c];intro j o _ h;cases h),Z,Z,fun _ _=>rfl,(fun t s _=>by rw[c];exact Qa1 outs B t s),?_⟩
  ·simp only[Array.toList_replicate]
   exact Zt (List.length_filter_le _ _) (by simp)
  ·intro j o t K J v;simp[Array.getD] at v
 have:=Qbt (Q:=Q) i d g l.length (Array.replicate l.length false) a w.drew (by simp) (fun q o L H=>by simp[Array.getD] at H) f
 have e:(Array.replicate l.length false++Array.replicate l2.length false:Array Bool)=Array.replicate (l++l2).toArray.size false:=by
  simp
 have x:l.length+l2.length=(l++l2).toArray.size:=by simp
 rw[e,x] at this
 exact this
theorem Zq {lo:List Oper}{outs:List Tmp}{gs:List (Nat × Option Bool)}{a:Act}{w:World}{Q:Exit->Act->World->Prop}
 (k:Nat) (E:(Nat->Bool)->Tmp->Value->World->Prop) (W:(Nat->Bool)->World->Prop) (PX:List PanicEntry->World->Prop) (o:∀ ch a' w',a'.defers=a.defers->PX ch w'->Q (.panic ch) a' w')
 (p:P.follows .mixedOrders=true)  (q:a.tmps.size=m) (c:n<=m) (i:QaY (lo.take k) n outs gs bs=true)
 (d:(Qcu 0 lo&&(Qbn (lo.take k).length (lo.take k)&&QaL lo (lo.take k).length (lo.drop k)))=true)
 (f:∀ S,ZJ (E S) (lo.take k).toArray gs) (r:W (fun _=>false) w.drew) (e:Qaf (E (fun _=>false)) a w.drew outs)
 (g:AllOkY E W PX P (lo.take k) 0 (lo.take k) bs)
 (b:∀ ops (vs:Tmp->Value) (S:Nat->Bool) w',(∀ j,j<(lo.take k).length->S j=true)->W S w'->(∀ t,(Qt (lo.take k)).contains t=true->E S t (vs t) w')->wpList P ops Q (lo.drop k) (QN a vs (Qt (lo.take k))) w') :
 (Code.region id lo.toArray true).wp P Q a w:=by
 have h:=QfD (id:=id) (l:=lo.take k) (l2:=lo.drop k) (Q:=Q) E W PX o p q c i (by rw[List.take_append_drop];exact d) f r e g (b _);rwa [List.take_append_drop] at h
def Qnk (l:List Oper) (t:Tmp) (i:Nat):Bool:=(List.range l.length).all fun j=>match l[j]? with
 | some o=>(match o.dst with | some u=>u != t | none=>true)||j==i
 | none=>true
theorem Qkl {l:List Oper}{S:Nat->Bool}{t i:Nat}(k:Qm2 l S t) (f:(Qt l).contains t=true) (g:Qnk l t i=true):S i=true:=by
 obtain⟨j,o,c,d,e⟩:=k (by simpa using f)
 have b:=(Zi c).1;have a:=Xe.1 g j (by simpa using b);rw[c] at a
 simp only[d] at a
 have:j=i:=by
  rw[Bool.or_eq_true] at a
  rcases a with h | h
  ·simp at h
  ·simpa using h
 rw[<-this];exact e
def Zk (w6 w w':World):Prop:=∀ Z,w6.heap.size<=Z->Z<w.heap.size->w'.heap[Z]?=w.heap[Z]?
theorem Zk.refl (a w:World):Zk a w w:=fun _ _ _=>rfl
theorem Zk.below {a w w':World}(b:Below w.heap.size w w'):Zk a w w':=fun Z _ h=>b.block Z h
section
variable {w6 w w':World}{HP:World->Prop}{hk i:Nat}{S:Nat->Bool}
theorem WY.onB (h:WY w6 HP hk S w) (d:∀ w w',HP w->Below w.heap.size w w'->HP w') (hi:i≠hk) (b:Below w.heap.size w w'):WY w6 HP hk (Qct i S) w':=by
 have e:Qct i S hk=S hk:=Qna (fun e=>hi e.symm);rcases h with ⟨c,a⟩|⟨c,a⟩
 ·exact .inl ⟨by rw[e];exact c,a.trans (b.mono a.size)⟩
 ·exact .inr ⟨by rw[e];exact c,d _ _ a b⟩
theorem WY.lowB (h:WY w6 HP hk S w) (a:∀ w,HP w->w6.heap.size<=w.heap.size):w6.heap.size<=w.heap.size:=by
 rcases h with h | h
 ·exact h.2.size
 ·exact a _ h.2
theorem WY.onS (h:WY w6 HP hk S w) (hi:i≠hk):WY w6 HP hk (Qct i S) w:=by
 have e:Qct i S hk=S hk:=Qna (fun e=>hi e.symm);unfold WY;rw[e];exact h
end
def Qmt (w6:World) (xs:List Int) (n:Nat) (v:Value) (w:World):Prop:=∃ k,v=.slice (some ⟨k,0,none⟩) n n/\w6.heap.size<=k/\QbP w (.slice (some ⟨k,0,none⟩) n n) xs
def QjQ (w6:World) (x:Int) (v:Value) (w:World):Prop:=∃ k,v=.slice (some ⟨k,0,none⟩) 1 1/\w6.heap.size<=k/\w.cell? ⟨k,0,none⟩=some (Iv x)
theorem Qmt.z (h:Qmt w6 xs n v w) (z:Zk w6 w w'):Qmt w6 xs n v w':=by
 obtain⟨k,d,b,a⟩:=h
 exact⟨k,d,b,QY a (fun y c=>by
  have:y=k:=by simpa[Value.ownBlock] using c.symm
  subst this;exact z y b (a.lt c))⟩
theorem QjQ.z (h:QjQ w6 x v w) (z:Zk w6 w w'):QjQ w6 x v w':=by
 obtain⟨k,d,c,b⟩:=h
 exact⟨k,d,c,(XU (w:=w) (a:=⟨k,0,none⟩) (z k c (Xi w _ b))).trans b⟩
theorem Qhn.z {fr:RFr}(h:Qhn w6 fr v w) (z:Zk w6 w w'):Qhn w6 fr v w':=by
 obtain⟨k,x,n,e,d,c,a⟩:=h
 exact⟨k,x,n,e,d,c,a.keep (z k d (XC a.1)) (fun y b=>by
  have:y=x:=by simpa[Value.ownBlock] using b.symm
  subst this;exact z y c (a.2.lt b))⟩
def Qmm (w6:World) (fr:RFr) (v:Value) (w:World):Prop:=∃ k u,v=.slice (some ⟨k,0,none⟩) 1 1/\w6.heap.size<=k/\w.cell? ⟨k,0,none⟩=some u/\Qhn w6 fr u w
theorem Qmm.z {fr:RFr}(h:Qmm w6 fr v w) (z:Zk w6 w w'):Qmm w6 fr v w':=by
 obtain⟨k,u,e,c,b,d⟩:=h
 exact⟨k,u,e,c,(XU (w:=w) (a:=⟨k,0,none⟩) (z k c (Xi w _ b))).trans b,d.z z⟩
theorem Qgf {u:Value}(h:w.cell? ⟨k,0,none⟩=some u):∀ (j:Nat) (v:Value),[u][j]?=some v->w.cell? ((⟨k,0,none⟩:Addr).add j)=some v
 | 0,v,hv=>by simp at hv;subst hv;exact h
 | j+1,v,hv=>by simp at hv
theorem QeJ (w:World){o:Oper}{a:Act}{K:Act->World->Prop}{Q:Exit->Act->World->Prop}(s x:Operand) (t:TypeId)
 (F:o.op=.call { callee:=.builtin .append,args:=#[s,x],argTypes:=#[t,t] })
 (e:TypeId) (i:TypeInfo) (z:Value) (size d:Nat) (E:P.underlying t=some (.slice e)) (hi:P.info? e=some i) (M:i.zero=some z)
 (l:i.size=size) (C:i.bytes=d) (A:z.cells.size=size) (D:0<size)
 (v:Value) (n:Nat) (xs:List Value) (O:a.eval s=v) (p:w.ownsRow 0 e size v n xs)
 (y:Addr) (m c:Nat) (b:List Value) (I:a.eval x=.slice (some y) m c) (H:b.length=m*size) (g:∀ j u,b[j]?=some u->w.cell? (y.add j)=some u) (J:∀ u∈b,u.oneCell'=true)
 (B:n+m<=maxLen) (f:(n+m)*d<=140737488355328)
 (h:∀ v' w',w'.ownsRow 0 e size v' (n+m) (xs++b)->w.grownBy w' v.ownBlock->(∀ k,v'.ownBlock=some k->v.ownBlock=some k\/k=w.heap.size)->K (a.put o.dst v') w'):o.wp P a w K Q:=by
 obtain⟨v',w',L,N,G,_,q⟩:=run_append_own_at (P:=P) w 0 t o.type e i z size d E hi M l C A D v n xs p y m c b H g J B f (Xb _)
 unfold Oper.wp execOp;simp only[F,resolve,invoke,builtin,Sem.run_bind,Sem.run_pure,Result.andThen_ok,List.map_toArray,List.map_cons,List.map_nil,O,I,L]
 refine h _ _ N G (fun k r=>?_);rcases q with q | q
 ·rw[q] at r;exact .inl r
 ·rw[q] at r;exact .inr (by simpa using r.symm)
def Qnq (b c X be ri vl cc j:Nat) (ya:Int) (t:Tmp) (v:Value) (w:World):Prop :=
 v=(([(0,Pv b 0),(1,Pv c 0),(5,Pv X 0),(68,Pv b 0),(69,Pv b 0),(70,Pv b 0),(71,Pv be 0),(72,Pv c 0),(73,Pv c 0),(74,Pv c 3),(75,.slice (some ⟨ri,0,none⟩) vl cc),(76,Pv X 1),(77,Iv (j:Int)),(78,Pv ri j),(79,Iv ya)]:List (Tmp × Value)).lookup t).getD undef
theorem Qoc {i:Nat}(p:w6.cell? ⟨b,0,none⟩=some (Pv i 0)) (u:w6.cell? ⟨c,3,none⟩=some (.slice (some ⟨ri,0,none⟩) vl cc)) (r:w6.cell? ⟨X,1,none⟩=some (Iv (j:Int))) (A:(j:Int)<vl) (y:w6.cell? ⟨ri,j,none⟩=some (Iv ya))  {Q:Exit->Act->World->Prop}
 (a:Act) (m:Nat) (x:a.tmps.size=m) (k:148<=m) (z:a.tmps.getD 0 undef=Pv b 0) (s:a.tmps.getD 1 undef=Pv c 0) (q:a.tmps.getD 5 undef=Pv X 0)
 (hend:∀ ops vs w',vs 71=Pv i 0->vs 79=Iv ya->Below w6.heap.size w6 w'->wpList prog ops Q (Qal 12 ((Tryz.f114.body.bind (Qi 14)).getD .skip)) (QN a vs [68,69,70,71,72,73,74,75,76,77,78,79]) w') :
 Code.wp prog ((Tryz.f114.body.bind (Qi 14)).getD .skip) Q a w6:=by
 conv=>arg 2;whnf
 refine Qg 12 (Qnq b c X i ri vl cc j ya) (fun w=>Below w6.heap.size w6 w) (fun w w'=>Below w.heap.size w w') (outs:=[0,1,5]) (gs:=[]) (bs:=[true,true,true,true,true,true,true,true,true,true,true,true]) (by kernel_rfl) (n:=148) x k (by kernel_rfl) (by kernel_rfl) ?hR ?hG (QI Zr 1) ⟨z,s,q,Y⟩ ?hA ?hend
 case hR=>exact fun t v w w' _ h=>h
 case hG=>exact Y
 case hend=>exact fun ops vs w' e f=>hend ops vs w' (f 71 (by kernel_rfl)) (f 79 (by kernel_rfl)) e
 case hA =>
  refine⟨fun a w e f K g=>?_,?_⟩
  ·obtain⟨d,-⟩:=f
   have d:a.tmps.getD 0 undef=Pv b 0:=d;go_simp;exact g _ _ Zr e Z
  refine⟨fun a w e f K g=>?_,?_⟩
  ·obtain⟨d,-⟩:=f
   have d:a.tmps.getD 68 undef=Pv b 0:=d;go_simp;exact g _ _ Zr e Z
  refine⟨fun a w e f K g=>?_,?_⟩
  ·obtain⟨d,-⟩:=f
   have d:a.tmps.getD 69 undef=Pv b 0:=d;go_simp;exact g _ _ Zr e Z
  refine⟨fun a w e f K g=>?_,?_⟩
  ·obtain⟨d,-⟩:=f
   have d:a.tmps.getD 70 undef=Pv b 0:=d;have l:=Qk p e;go_simp;exact g _ _ Zr e Z
  refine⟨fun a w e f K g=>?_,?_⟩
  ·obtain⟨d,-⟩:=f
   have d:a.tmps.getD 1 undef=Pv c 0:=d;go_simp;exact g _ _ Zr e Z
  refine⟨fun a w e f K g=>?_,?_⟩
  ·obtain⟨d,-⟩:=f
   have d:a.tmps.getD 72 undef=Pv c 0:=d;go_simp;exact g _ _ Zr e Z
  refine⟨fun a w e f K g=>?_,?_⟩
  ·obtain⟨d,-⟩:=f
   have d:a.tmps.getD 73 undef=Pv c 0:=d;go_simp;exact g _ _ Zr e Z
  refine⟨fun a w e f K g=>?_,?_⟩
  ·obtain⟨d,-⟩:=f
   have d:a.tmps.getD 74 undef=Pv c 3:=d;have l:=Qk u e;go_simp;exact g _ _ Zr e Z
  refine⟨fun a w e f K g=>?_,?_⟩
  ·obtain⟨d,-⟩:=f
   have d:a.tmps.getD 5 undef=Pv X 0:=d;go_simp;exact g _ _ Zr e Z
  refine⟨fun a w e f K g=>?_,?_⟩
  ·obtain⟨d,-⟩:=f
   have d:a.tmps.getD 76 undef=Pv X 1:=d;have l:=Qk r e;go_simp;exact g _ _ Zr e Z
  refine⟨fun a w e f K g=>?_,?_⟩
  ·obtain⟨d,o,-⟩:=f
   have d:a.tmps.getD 75 undef=.slice (some ⟨ri,0,none⟩) vl cc:=d;have o:a.tmps.getD 77 undef=Iv (j:Int):=o;go_simp;exact g _ _ Zr e Z
  refine⟨fun a w e f K g=>?_,?_⟩
  ·obtain⟨d,-⟩:=f
   have d:a.tmps.getD 78 undef=Pv ri j:=d;have l:=Qk y e;go_simp;exact g _ _ Zr e Z
  trivial
def Qns (b c X ri vl cc j:Nat) (ya:Int) (t:Tmp) (v:Value) (w:World):Prop :=
 v=(([(0,Pv b 0),(1,Pv c 0),(5,Pv X 0),(132,Pv b 0),(133,Pv c 0),(134,Pv c 0),(135,Pv c 3),(136,.slice (some ⟨ri,0,none⟩) vl cc),(137,Pv X 1),(138,Iv (j:Int)),(139,Pv ri j),(140,Iv ya)]:List (Tmp × Value)).lookup t).getD undef
theorem Qn7 (r:w6.cell? ⟨c,3,none⟩=some (.slice (some ⟨ri,0,none⟩) vl cc)) (p:w6.cell? ⟨X,1,none⟩=some (Iv (j:Int))) (y:(j:Int)<vl) (u:w6.cell? ⟨ri,j,none⟩=some (Iv ya))  {Q:Exit->Act->World->Prop}
 (a:Act) (m:Nat) (s:a.tmps.size=m) (i:148<=m) (x:a.tmps.getD 0 undef=Pv b 0) (q:a.tmps.getD 1 undef=Pv c 0) (o:a.tmps.getD 5 undef=Pv X 0)
 (hend:∀ ops vs w',vs 132=Pv b 0->vs 140=Iv ya->Below w6.heap.size w6 w'->wpList prog ops Q (Qal 9 ((Tryz.f114.body.bind (Qi 22)).getD .skip)) (QN a vs [132,133,134,135,136,137,138,139,140]) w') :
 Code.wp prog ((Tryz.f114.body.bind (Qi 22)).getD .skip) Q a w6:=by
 conv=>arg 2;whnf
 refine Qg 9 (Qns b c X ri vl cc j ya) (fun w=>Below w6.heap.size w6 w) (fun w w'=>Below w.heap.size w w') (outs:=[0,1,5]) (gs:=[]) (bs:=[true,true,true,true,true,true,true,true,true]) (by kernel_rfl) (n:=148) s i (by kernel_rfl) (by kernel_rfl) ?hR ?hG (QI Zr 1) ⟨x,q,o,Y⟩ ?hA ?hend
 case hR=>exact fun t v w w' _ h=>h
 case hG=>exact Y
 case hend=>exact fun ops vs w' e f=>hend ops vs w' (f 132 (by kernel_rfl)) (f 140 (by kernel_rfl)) e
 case hA =>
  refine⟨fun a w e f K g=>?_,?_⟩
  ·obtain⟨d,-⟩:=f
   have d:a.tmps.getD 0 undef=Pv b 0:=d;go_simp;exact g _ _ Zr e Z
  refine⟨fun a w e f K g=>?_,?_⟩
  ·obtain⟨d,-⟩:=f
   have d:a.tmps.getD 1 undef=Pv c 0:=d;go_simp;exact g _ _ Zr e Z
  refine⟨fun a w e f K g=>?_,?_⟩
  ·obtain⟨d,-⟩:=f
   have d:a.tmps.getD 133 undef=Pv c 0:=d;go_simp;exact g _ _ Zr e Z
  refine⟨fun a w e f K g=>?_,?_⟩
  ·obtain⟨d,-⟩:=f
   have d:a.tmps.getD 134 undef=Pv c 0:=d;go_simp;exact g _ _ Zr e Z
  refine⟨fun a w e f K g=>?_,?_⟩
  ·obtain⟨d,-⟩:=f
   have d:a.tmps.getD 135 undef=Pv c 3:=d;have l:=Qk r e;go_simp;exact g _ _ Zr e Z
  refine⟨fun a w e f K g=>?_,?_⟩
  ·obtain⟨d,-⟩:=f
   have d:a.tmps.getD 5 undef=Pv X 0:=d;go_simp;exact g _ _ Zr e Z
  refine⟨fun a w e f K g=>?_,?_⟩
  ·obtain⟨d,-⟩:=f
   have d:a.tmps.getD 137 undef=Pv X 1:=d;have l:=Qk p e;go_simp;exact g _ _ Zr e Z
  refine⟨fun a w e f K g=>?_,?_⟩
  ·obtain⟨d,k,-⟩:=f
   have d:a.tmps.getD 136 undef=.slice (some ⟨ri,0,none⟩) vl cc:=d;have k:a.tmps.getD 138 undef=Iv (j:Int):=k;go_simp;exact g _ _ Zr e Z
  refine⟨fun a w e f K g=>?_,?_⟩
  ·obtain⟨d,-⟩:=f
   have d:a.tmps.getD 139 undef=Pv ri j:=d;have l:=Qk u e;go_simp;exact g _ _ Zr e Z
  trivial
def Qn2 (b c X be bp ri vl cc j:Nat) (ya yb xk:Int) (t:Tmp) (v:Value) (w:World):Prop :=
 v=(([(0,Pv b 0),(1,Pv c 0),(5,Pv X 0),(6,Iv ya),(30,Pv b 0),(31,Pv b 0),(32,Pv b 0),(33,Pv be 0),(34,Pv be 0),(35,Pv be 0),(36,Pv bp 0),(37,Iv ya),(38,Pv X 4),(39,Iv xk),(40,Iv (wrap64 (ya+xk))),(41,Pv c 0),(42,Pv c 0),(43,Pv c 3),(44,.slice (some ⟨ri,0,none⟩) vl cc),(45,Pv X 2),(46,Iv (j:Int)),(47,Pv ri j),(48,Iv yb)]:List (Tmp × Value)).lookup t).getD undef
theorem wp6 {i:Nat}(C:w6.cell? ⟨b,0,none⟩=some (Pv i 0)) (r:w6.cell? ⟨i,0,none⟩=some (Pv bp 0)) (s:w6.cell? ⟨c,3,none⟩=some (.slice (some ⟨ri,0,none⟩) vl cc)) (B:w6.cell? ⟨X,4,none⟩=some (Iv xk)) (z:w6.cell? ⟨X,2,none⟩=some (Iv (j:Int))) (D:(j:Int)<vl) (x:w6.cell? ⟨ri,j,none⟩=some (Iv yb))  {Q:Exit->Act->World->Prop}
 (a:Act) (m:Nat) (A:a.tmps.size=m) (o:105<=m) (q:a.tmps.getD 0 undef=Pv b 0) (u:a.tmps.getD 1 undef=Pv c 0) (y:a.tmps.getD 5 undef=Pv X 0) (p:a.tmps.getD 6 undef=Iv ya)
 (hend:∀ ops vs w',vs 36=Pv bp 0->vs 40=Iv (wrap64 (ya+xk))->vs 48=Iv yb->Below w6.heap.size w6 w'->wpList prog ops Q (Qal 19 ((Tryz.f177.body.bind (Qi 6)).getD .skip)) (QN a vs [30,31,32,33,34,35,36,37,38,39,40,41,42,43,44,45,46,47,48]) w') :
 Code.wp prog ((Tryz.f177.body.bind (Qi 6)).getD .skip) Q a w6:=by
 conv=>arg 2;whnf
 refine Qg 19 (Qn2 b c X i bp ri vl cc j ya yb xk) (fun w=>Below w6.heap.size w6 w) (fun w w'=>Below w.heap.size w w') (outs:=[0,1,5,6]) (gs:=[]) (bs:=[true,true,true,true,true,true,true,true,true,true,true,true,true,true,true,true,true,true,true]) (by kernel_rfl) (n:=105) A o (by kernel_rfl) (by kernel_rfl) ?hR ?hG (QI Zr 1) ⟨q,u,y,p,Y⟩ ?hA ?hend
 case hR=>exact fun t v w w' _ h=>h
 case hG=>exact Y
 case hend=>exact fun ops vs w' e f=>hend ops vs w' (f 36 (by kernel_rfl)) (f 40 (by kernel_rfl)) (f 48 (by kernel_rfl)) e
 case hA =>
  refine⟨fun a w e f K g=>?_,?_⟩
  ·obtain⟨d,-⟩:=f
   have d:a.tmps.getD 0 undef=Pv b 0:=d;go_simp;exact g _ _ Zr e Z
  refine⟨fun a w e f K g=>?_,?_⟩
  ·obtain⟨d,-⟩:=f
   have d:a.tmps.getD 30 undef=Pv b 0:=d;go_simp;exact g _ _ Zr e Z
  refine⟨fun a w e f K g=>?_,?_⟩
  ·obtain⟨d,-⟩:=f
   have d:a.tmps.getD 31 undef=Pv b 0:=d;go_simp;exact g _ _ Zr e Z
  refine⟨fun a w e f K g=>?_,?_⟩
  ·obtain⟨d,-⟩:=f
   have d:a.tmps.getD 32 undef=Pv b 0:=d;have k:=Qk C e;go_simp;exact g _ _ Zr e Z
  refine⟨fun a w e f K g=>?_,?_⟩
  ·obtain⟨d,-⟩:=f
   have d:a.tmps.getD 33 undef=Pv i 0:=d;go_simp;exact g _ _ Zr e Z
  refine⟨fun a w e f K g=>?_,?_⟩
  ·obtain⟨d,-⟩:=f
   have d:a.tmps.getD 34 undef=Pv i 0:=d;go_simp;exact g _ _ Zr e Z
  refine⟨fun a w e f K g=>?_,?_⟩
  ·obtain⟨d,-⟩:=f
   have d:a.tmps.getD 35 undef=Pv i 0:=d;have k:=Qk r e;go_simp;exact g _ _ Zr e Z
  refine⟨fun a w e f K g=>?_,?_⟩
  ·obtain⟨d,-⟩:=f
   have d:a.tmps.getD 6 undef=Iv ya:=d;go_simp;exact g _ _ Zr e Z
  refine⟨fun a w e f K g=>?_,?_⟩
  ·obtain⟨d,-⟩:=f
   have d:a.tmps.getD 5 undef=Pv X 0:=d;go_simp;exact g _ _ Zr e Z
  refine⟨fun a w e f K g=>?_,?_⟩
  ·obtain⟨d,-⟩:=f
   have d:a.tmps.getD 38 undef=Pv X 4:=d;have k:=Qk B e;go_simp;exact g _ _ Zr e Z
  refine⟨fun a w e f K g=>?_,?_⟩
  ·obtain⟨d,l,-⟩:=f
   have d:a.tmps.getD 37 undef=Iv ya:=d;have l:a.tmps.getD 39 undef=Iv xk:=l;go_simp;exact g _ _ Zr e (by show Value.int .i64 _=Value.int .i64 (wrap64 (ya+xk));rw[IntKind.wrap_i64];unfold wrap64;rfl)
  refine⟨fun a w e f K g=>?_,?_⟩
  ·obtain⟨d,-⟩:=f
   have d:a.tmps.getD 1 undef=Pv c 0:=d;go_simp;exact g _ _ Zr e Z
  refine⟨fun a w e f K g=>?_,?_⟩
  ·obtain⟨d,-⟩:=f
   have d:a.tmps.getD 41 undef=Pv c 0:=d;go_simp;exact g _ _ Zr e Z
  refine⟨fun a w e f K g=>?_,?_⟩
  ·obtain⟨d,-⟩:=f
   have d:a.tmps.getD 42 undef=Pv c 0:=d;go_simp;exact g _ _ Zr e Z
  refine⟨fun a w e f K g=>?_,?_⟩
  ·obtain⟨d,-⟩:=f
   have d:a.tmps.getD 43 undef=Pv c 3:=d;have k:=Qk s e;go_simp;exact g _ _ Zr e Z
  refine⟨fun a w e f K g=>?_,?_⟩
  ·obtain⟨d,-⟩:=f
   have d:a.tmps.getD 5 undef=Pv X 0:=d;go_simp;exact g _ _ Zr e Z
  refine⟨fun a w e f K g=>?_,?_⟩
  ·obtain⟨d,-⟩:=f
   have d:a.tmps.getD 45 undef=Pv X 2:=d;have k:=Qk z e;go_simp;exact g _ _ Zr e Z
  refine⟨fun a w e f K g=>?_,?_⟩
  ·obtain⟨d,l,-⟩:=f
   have d:a.tmps.getD 44 undef=.slice (some ⟨ri,0,none⟩) vl cc:=d;have l:a.tmps.getD 46 undef=Iv (j:Int):=l;go_simp;exact g _ _ Zr e Z
  refine⟨fun a w e f K g=>?_,?_⟩
  ·obtain⟨d,-⟩:=f
   have d:a.tmps.getD 47 undef=Pv ri j:=d;have k:=Qk x e;go_simp;exact g _ _ Zr e Z
  trivial
def QnL (w6:World) (R:RM) (b c X ri vl cc j:Nat) (ya yb:Int) (t:Tmp) (v:Value) (w:World):Prop :=
 match ([(64,fun v w=>(0<=yb/\yb<R.load ya)/\v=.int .i64 (wrap64 (wrap64 (ya+1)+yb))),(66,QjQ w6 (R.load (wrap64 (wrap64 (ya+1)+yb))))]:List (Tmp × (Value->World->Prop))).lookup t with
 | some p=>p v w
 | none=>v=(([(0,.pointer (some ⟨b,0,none⟩)),(1,.pointer (some ⟨c,0,none⟩)),(5,.pointer (some ⟨X,0,none⟩)),(6,.int .i64 ya),(52,.pointer (some ⟨c,0,none⟩)),(53,.pointer (some ⟨b,0,none⟩)),(54,.pointer (some ⟨b,0,none⟩)),(55,.int .i64 ya),(56,.pointer (some ⟨c,0,none⟩)),(57,.pointer (some ⟨c,0,none⟩)),(58,.pointer (some ⟨c,3,none⟩)),(59,.slice (some ⟨ri,0,none⟩) vl cc),(60,.pointer (some ⟨X,2,none⟩)),(61,.int .i64 (j:Int)),(62,.pointer (some ⟨ri,j,none⟩)),(63,.int .i64 yb),(65,.int .i64 (R.load (wrap64 (wrap64 (ya+1)+yb))))]:List (Tmp × Value)).lookup t).getD undef
theorem wp8 {R:RM}(G:w6.cell? ⟨c,3,none⟩=some (.slice (some ⟨ri,0,none⟩) vl cc)) (L:w6.cell? ⟨X,2,none⟩=some (Iv (j:Int))) (U:(j:Int)<vl) (I:w6.cell? ⟨ri,j,none⟩=some (Iv yb)) (C:Hid (∀ wx,Below w6.heap.size w6 wx->Calls prog 222 #[Pv b 0,Iv ya,Iv yb] wx fun e w'=>Qld R ya yb e/\w'=wx)) (T:Hid (∀ wx k,Below w6.heap.size w6 wx->Calls prog 220 #[Pv b 0,Iv k] wx fun e w'=>e=.returned (Iv (R.load k))/\w'=wx))  {Q:Exit->Act->World->Prop}
 (a:Act) (m:Nat) (M:a.tmps.size=m) (s:105<=m) (D:a.tmps.getD 0 undef=Pv b 0) (r:a.tmps.getD 1 undef=Pv c 0) (J:a.tmps.getD 5 undef=Pv X 0) (A:a.tmps.getD 6 undef=Iv ya)
 (H:∀ ch a' w',a'.defers=a.defers->(fun ch w=>ch=QdA 2/\¬ (0<=yb/\yb<R.load ya)/\Below w6.heap.size w6 w) ch w'->Q (.panic ch) a' w')
 (hend:∀ ops vs w',vs 52=Pv c 0->(fun v w=>(0<=yb/\yb<R.load ya)/\v=Iv (wrap64 (wrap64 (ya+1)+yb))) (vs 64) w'->(QjQ w6 (R.load (wrap64 (wrap64 (ya+1)+yb)))) (vs 66) w'->Below w6.heap.size w6 w'->wpList prog ops Q (Qal 15 ((Tryz.f177.body.bind (Qi 8)).getD .skip)) (QN a vs [52,53,54,55,56,57,58,59,60,61,62,63,64,65,66]) w') :
 Code.wp prog ((Tryz.f177.body.bind (Qi 8)).getD .skip) Q a w6:=by
 conv=>arg 2;whnf
 refine ZK 15 (QnL w6 R b c X ri vl cc j ya yb) (fun w=>Below w6.heap.size w6 w) (fun w w'=>Below w.heap.size w w') (fun ch w=>ch=QdA 2/\¬ (0<=yb/\yb<R.load ya)/\Below w6.heap.size w6 w) H (outs:=[0,1,5,6]) (gs:=[]) (bs:=[true,true,true,true,true,true,true,true,true,true,true,true,true,true,true]) (by kernel_rfl) (n:=105) M s (by kernel_rfl) (by kernel_rfl) ?hR ?hG (QI Zr 1) ⟨D,r,J,A,Y⟩ ?hA ?hend
 case hR =>
  intro t v w w' N h;unfold QnL at h |-;split at h
  ·rename_i p q
   simp only[List.lookup_cons,List.lookup_nil] at q
   split at q
   ·cases q;exact h
   ·split at q
    ·cases q;exact h.z (Zk.below N)
    ·cases q
  ·exact h
 case hG=>exact Y
 case hend=>exact fun ops vs w' f g=>hend ops vs w' (g 52 (by kernel_rfl)) (g 64 (by kernel_rfl)) (g 66 (by kernel_rfl)) f
 case hA =>
  refine⟨fun a w f g K i=>?_,?_⟩
  ·obtain⟨d,-⟩:=g
   have d:a.tmps.getD 1 undef=Pv c 0:=d;go_simp;exact i _ _ Zr f Z
  refine⟨fun a w f g K i=>?_,?_⟩
  ·obtain⟨d,-⟩:=g
   have d:a.tmps.getD 0 undef=Pv b 0:=d;go_simp;exact i _ _ Zr f Z
  refine⟨fun a w f g K i=>?_,?_⟩
  ·obtain⟨d,-⟩:=g
   have d:a.tmps.getD 0 undef=Pv b 0:=d;go_simp;exact i _ _ Zr f Z
  refine⟨fun a w f g K i=>?_,?_⟩
  ·obtain⟨d,-⟩:=g
   have d:a.tmps.getD 6 undef=Iv ya:=d;go_simp;exact i _ _ Zr f Z
  refine⟨fun a w f g K i=>?_,?_⟩
  ·obtain⟨d,-⟩:=g
   have d:a.tmps.getD 1 undef=Pv c 0:=d;go_simp;exact i _ _ Zr f Z
  refine⟨fun a w f g K i=>?_,?_⟩
  ·obtain⟨d,-⟩:=g
   have d:a.tmps.getD 56 undef=Pv c 0:=d;go_simp;exact i _ _ Zr f Z
  refine⟨fun a w f g K i=>?_,?_⟩
  ·obtain⟨d,-⟩:=g
   have d:a.tmps.getD 57 undef=Pv c 0:=d;go_simp;exact i _ _ Zr f Z
  refine⟨fun a w f g K i=>?_,?_⟩
  ·obtain⟨d,-⟩:=g
   have d:a.tmps.getD 58 undef=Pv c 3:=d;have u:=Qk G f;go_simp;exact i _ _ Zr f Z
  refine⟨fun a w f g K i=>?_,?_⟩
  ·obtain⟨d,-⟩:=g
   have d:a.tmps.getD 5 undef=Pv X 0:=d;go_simp;exact i _ _ Zr f Z
  refine⟨fun a w f g K i=>?_,?_⟩
  ·obtain⟨d,-⟩:=g
   have d:a.tmps.getD 60 undef=Pv X 2:=d;have u:=Qk L f;go_simp;exact i _ _ Zr f Z
  refine⟨fun a w f g K i=>?_,?_⟩
  ·obtain⟨d,l,-⟩:=g
   have d:a.tmps.getD 59 undef=.slice (some ⟨ri,0,none⟩) vl cc:=d;have l:a.tmps.getD 61 undef=Iv (j:Int):=l;go_simp;exact i _ _ Zr f Z
  refine⟨fun a w f g K i=>?_,?_⟩
  ·obtain⟨d,-⟩:=g
   have d:a.tmps.getD 62 undef=Pv ri j:=d;have u:=Qk I f;go_simp;exact i _ _ Zr f Z
  refine⟨fun a w f g K i=>?_,?_⟩
  ·obtain⟨d,l,x,-⟩:=g
   have d:a.tmps.getD 54 undef=Pv b 0:=d;have l:a.tmps.getD 55 undef=Iv ya:=l;have x:a.tmps.getD 63 undef=Iv yb:=x;go_simp;refine Xm (C.out w f) ?_;rintro F B ⟨y,o⟩;have o:=o.symm;subst o;rcases y with ⟨r,S,rfl⟩|⟨r,rfl⟩
   rotate_left
   ·exact⟨_,Z,Z,(fun h=>Int.not_lt.1 (fun E=>r ⟨h,E⟩)),f⟩
   go_simp;exact i _ _ Zr f ⟨⟨r,S⟩,Z⟩
  refine⟨fun a w f g K i=>?_,?_⟩
  ·obtain⟨d,l,-⟩:=g
   have d:a.tmps.getD 53 undef=Pv b 0:=d;have l:(fun v w=>(0<=yb/\yb<R.load ya)/\v=Iv (wrap64 (wrap64 (ya+1)+yb))) (a.tmps.getD 64 undef) w:=l;generalize P:a.tmps.getD 64 undef=O at l;obtain⟨-,rfl⟩:=l
   go_simp;refine Xm (T.out w _ f) ?_;rintro F B ⟨rfl,o⟩;have o:=o.symm;subst o;go_simp;exact i _ _ Zr f Z
  refine⟨fun a w f g K i=>?_,?_⟩
  ·obtain⟨d,-⟩:=g
   have d:a.tmps.getD 65 undef=Iv (R.load (wrap64 (wrap64 (ya+1)+yb))):=d;rw[Za] at d
   go_simp;exact i _ _ (ZO _ _) (f.trans ((ZO _ _).mono f.size)) ⟨_,Z,f.size,Qb (Qe _ _ _) 0 _ Z⟩
  trivial
def Qmv (R:RM) (b c X be bp ri vl cc j q:Nat) (ya yb yc:Int) (t:Tmp) (v:Value) (w:World):Prop :=
 match ([(87,fun v w=>(0<=yb/\yb<R.load ya)/\v=.int .i64 (wrap64 (wrap64 (ya+1)+yb)))]:List (Tmp × (Value->World->Prop))).lookup t with
 | some p=>p v w
 | none=>v=(([(0,.pointer (some ⟨b,0,none⟩)),(1,.pointer (some ⟨c,0,none⟩)),(5,.pointer (some ⟨X,0,none⟩)),(6,.int .i64 ya),(70,.pointer (some ⟨b,0,none⟩)),(71,.pointer (some ⟨b,0,none⟩)),(72,.pointer (some ⟨b,0,none⟩)),(73,.pointer (some ⟨be,0,none⟩)),(74,.pointer (some ⟨be,0,none⟩)),(75,.pointer (some ⟨be,0,none⟩)),(76,.pointer (some ⟨bp,0,none⟩)),(77,.pointer (some ⟨b,0,none⟩)),(78,.int .i64 ya),(79,.pointer (some ⟨c,0,none⟩)),(80,.pointer (some ⟨c,0,none⟩)),(81,.pointer (some ⟨c,3,none⟩)),(82,.slice (some ⟨ri,0,none⟩) vl cc),(83,.pointer (some ⟨X,2,none⟩)),(84,.int .i64 (j:Int)),(85,.pointer (some ⟨ri,j,none⟩)),(86,.int .i64 yb),(88,.pointer (some ⟨c,0,none⟩)),(89,.pointer (some ⟨c,0,none⟩)),(90,.pointer (some ⟨c,3,none⟩)),(91,.slice (some ⟨ri,0,none⟩) vl cc),(92,.pointer (some ⟨X,3,none⟩)),(93,.int .i64 (q:Int)),(94,.pointer (some ⟨ri,q,none⟩)),(95,.int .i64 yc)]:List (Tmp × Value)).lookup t).getD undef
theorem Qnw {R:RM}{o:Nat}{x:Int}(P:w6.cell? ⟨b,0,none⟩=some (Pv o 0)) (F:w6.cell? ⟨o,0,none⟩=some (Pv bp 0)) (z:w6.cell? ⟨c,3,none⟩=some (.slice (some ⟨ri,0,none⟩) vl cc)) (M:w6.cell? ⟨X,2,none⟩=some (Iv (j:Int))) (U:(j:Int)<vl) (I:w6.cell? ⟨ri,j,none⟩=some (Iv yb)) (O:w6.cell? ⟨X,3,none⟩=some (Iv (q:Int))) (V:(q:Int)<vl) (J:w6.cell? ⟨ri,q,none⟩=some (Iv x)) (D:Hid (∀ wx,Below w6.heap.size w6 wx->Calls prog 222 #[Pv b 0,Iv ya,Iv yb] wx fun e w'=>Qld R ya yb e/\w'=wx))  {Q:Exit->Act->World->Prop}
 (a:Act) (m:Nat) (N:a.tmps.size=m) (u:105<=m) (E:a.tmps.getD 0 undef=Pv b 0) (r:a.tmps.getD 1 undef=Pv c 0) (L:a.tmps.getD 5 undef=Pv X 0) (C:a.tmps.getD 6 undef=Iv ya)
 (H:∀ ch a' w',a'.defers=a.defers->(fun ch w=>ch=QdA 2/\¬ (0<=yb/\yb<R.load ya)/\Below w6.heap.size w6 w) ch w'->Q (.panic ch) a' w')
 (hend:∀ ops vs w',vs 76=Pv bp 0->(fun v w=>(0<=yb/\yb<R.load ya)/\v=Iv (wrap64 (wrap64 (ya+1)+yb))) (vs 87) w'->vs 95=Iv x->Below w6.heap.size w6 w'->wpList prog ops Q (Qal 26 ((Tryz.f177.body.bind (Qi 10)).getD .skip)) (QN a vs [70,71,72,73,74,75,76,77,78,79,80,81,82,83,84,85,86,87,88,89,90,91,92,93,94,95]) w') :
 Code.wp prog ((Tryz.f177.body.bind (Qi 10)).getD .skip) Q a w6:=by
 conv=>arg 2;whnf
 refine ZK 26 (Qmv R b c X o bp ri vl cc j q ya yb x) (fun w=>Below w6.heap.size w6 w) (fun w w'=>Below w.heap.size w w') (fun ch w=>ch=QdA 2/\¬ (0<=yb/\yb<R.load ya)/\Below w6.heap.size w6 w) H (outs:=[0,1,5,6]) (gs:=[]) (bs:=[true,true,true,true,true,true,true,true,true,true,true,true,true,true,true,true,true,true,true,true,true,true,true,true,true,true]) (by kernel_rfl) (n:=105) N u (by kernel_rfl) (by kernel_rfl) ?hR ?hG (QI Zr 1) ⟨E,r,L,C,Y⟩ ?hA ?hend
 case hR =>
  intro t v w w' hr h;unfold Qmv at h |-;split at h
  ·rename_i p s
   simp only[List.lookup_cons,List.lookup_nil] at s
   split at s
   ·cases s;exact h
   ·cases s
  ·exact h
 case hG=>exact Y
 case hend=>exact fun ops vs w' f g=>hend ops vs w' (g 76 (by kernel_rfl)) (g 87 (by kernel_rfl)) (g 95 (by kernel_rfl)) f
 case hA =>
  refine⟨fun a w f g K i=>?_,?_⟩
  ·obtain⟨d,-⟩:=g
   have d:a.tmps.getD 0 undef=Pv b 0:=d;go_simp;exact i _ _ Zr f Z
  refine⟨fun a w f g K i=>?_,?_⟩
  ·obtain⟨d,-⟩:=g
   have d:a.tmps.getD 70 undef=Pv b 0:=d;go_simp;exact i _ _ Zr f Z
  refine⟨fun a w f g K i=>?_,?_⟩
  ·obtain⟨d,-⟩:=g
   have d:a.tmps.getD 71 undef=Pv b 0:=d;go_simp;exact i _ _ Zr f Z
  refine⟨fun a w f g K i=>?_,?_⟩
  ·obtain⟨d,-⟩:=g
   have d:a.tmps.getD 72 undef=Pv b 0:=d;have l:=Qk P f;go_simp;exact i _ _ Zr f Z
  refine⟨fun a w f g K i=>?_,?_⟩
  ·obtain⟨d,-⟩:=g
   have d:a.tmps.getD 73 undef=Pv o 0:=d;go_simp;exact i _ _ Zr f Z
  refine⟨fun a w f g K i=>?_,?_⟩
  ·obtain⟨d,-⟩:=g
   have d:a.tmps.getD 74 undef=Pv o 0:=d;go_simp;exact i _ _ Zr f Z
  refine⟨fun a w f g K i=>?_,?_⟩
  ·obtain⟨d,-⟩:=g
   have d:a.tmps.getD 75 undef=Pv o 0:=d;have l:=Qk F f;go_simp;exact i _ _ Zr f Z
  refine⟨fun a w f g K i=>?_,?_⟩
  ·obtain⟨d,-⟩:=g
   have d:a.tmps.getD 0 undef=Pv b 0:=d;go_simp;exact i _ _ Zr f Z
  refine⟨fun a w f g K i=>?_,?_⟩
  ·obtain⟨d,-⟩:=g
   have d:a.tmps.getD 6 undef=Iv ya:=d;go_simp;exact i _ _ Zr f Z
  refine⟨fun a w f g K i=>?_,?_⟩
  ·obtain⟨d,-⟩:=g
   have d:a.tmps.getD 1 undef=Pv c 0:=d;go_simp;exact i _ _ Zr f Z
  refine⟨fun a w f g K i=>?_,?_⟩
  ·obtain⟨d,-⟩:=g
   have d:a.tmps.getD 79 undef=Pv c 0:=d;go_simp;exact i _ _ Zr f Z
  refine⟨fun a w f g K i=>?_,?_⟩
  ·obtain⟨d,-⟩:=g
   have d:a.tmps.getD 80 undef=Pv c 0:=d;go_simp;exact i _ _ Zr f Z
  refine⟨fun a w f g K i=>?_,?_⟩
  ·obtain⟨d,-⟩:=g
   have d:a.tmps.getD 81 undef=Pv c 3:=d;have l:=Qk z f;go_simp;exact i _ _ Zr f Z
  refine⟨fun a w f g K i=>?_,?_⟩
  ·obtain⟨d,-⟩:=g
   have d:a.tmps.getD 5 undef=Pv X 0:=d;go_simp;exact i _ _ Zr f Z
  refine⟨fun a w f g K i=>?_,?_⟩
  ·obtain⟨d,-⟩:=g
   have d:a.tmps.getD 83 undef=Pv X 2:=d;have l:=Qk M f;go_simp;exact i _ _ Zr f Z
  refine⟨fun a w f g K i=>?_,?_⟩
  ·obtain⟨d,k,-⟩:=g
   have d:a.tmps.getD 82 undef=.slice (some ⟨ri,0,none⟩) vl cc:=d;have k:a.tmps.getD 84 undef=Iv (j:Int):=k;go_simp;exact i _ _ Zr f Z
  refine⟨fun a w f g K i=>?_,?_⟩
  ·obtain⟨d,-⟩:=g
   have d:a.tmps.getD 85 undef=Pv ri j:=d;have l:=Qk I f;go_simp;exact i _ _ Zr f Z
  refine⟨fun a w f g K i=>?_,?_⟩
  ·obtain⟨d,k,A,-⟩:=g
   have d:a.tmps.getD 77 undef=Pv b 0:=d;have k:a.tmps.getD 78 undef=Iv ya:=k;have A:a.tmps.getD 86 undef=Iv yb:=A;go_simp;refine Xm (D.out w f) ?_;rintro W T ⟨B,y⟩;have y:=y.symm;subst y;rcases B with ⟨r,S,rfl⟩|⟨r,rfl⟩
   rotate_left
   ·exact⟨_,Z,Z,(fun h=>Int.not_lt.1 (fun G=>r ⟨h,G⟩)),f⟩
   go_simp;exact i _ _ Zr f ⟨⟨r,S⟩,Z⟩
  refine⟨fun a w f g K i=>?_,?_⟩
  ·obtain⟨d,-⟩:=g
   have d:a.tmps.getD 1 undef=Pv c 0:=d;go_simp;exact i _ _ Zr f Z
  refine⟨fun a w f g K i=>?_,?_⟩
  ·obtain⟨d,-⟩:=g
   have d:a.tmps.getD 88 undef=Pv c 0:=d;go_simp;exact i _ _ Zr f Z
  refine⟨fun a w f g K i=>?_,?_⟩
  ·obtain⟨d,-⟩:=g
   have d:a.tmps.getD 89 undef=Pv c 0:=d;go_simp;exact i _ _ Zr f Z
  refine⟨fun a w f g K i=>?_,?_⟩
  ·obtain⟨d,-⟩:=g
   have d:a.tmps.getD 90 undef=Pv c 3:=d;have l:=Qk z f;go_simp;exact i _ _ Zr f Z
  refine⟨fun a w f g K i=>?_,?_⟩
  ·obtain⟨d,-⟩:=g
   have d:a.tmps.getD 5 undef=Pv X 0:=d;go_simp;exact i _ _ Zr f Z
  refine⟨fun a w f g K i=>?_,?_⟩
  ·obtain⟨d,-⟩:=g
   have d:a.tmps.getD 92 undef=Pv X 3:=d;have l:=Qk O f;go_simp;exact i _ _ Zr f Z
  refine⟨fun a w f g K i=>?_,?_⟩
  ·obtain⟨d,k,-⟩:=g
   have d:a.tmps.getD 91 undef=.slice (some ⟨ri,0,none⟩) vl cc:=d;have k:a.tmps.getD 93 undef=Iv (q:Int):=k;go_simp;exact i _ _ Zr f Z
  refine⟨fun a w f g K i=>?_,?_⟩
  ·obtain⟨d,-⟩:=g
   have d:a.tmps.getD 94 undef=Pv ri q:=d;have l:=Qk J f;go_simp;exact i _ _ Zr f Z
  trivial
def QjT (w6:World) (b c X ri vl cc j na ca:Nat) (pa:Option Addr) (xs:List Int) (ya ta:Int) (S:Nat->Bool) (t:Tmp) (v:Value) (w:World):Prop :=
 match ([(97,fun _ v _=>(fun v=>v=.int .i64 ta) v),(96,fun _ v w=>(Qmt w6 xs na) v w),(98,fun _ v w=>(QjQ w6 ta) v w)]:List (Tmp × ((Nat->Bool)->Value->World->Prop))).lookup t with
 | some p=>p S v w
 | none=>v=(([(0,.pointer (some ⟨b,0,none⟩)),(1,.pointer (some ⟨c,0,none⟩)),(5,.pointer (some ⟨X,0,none⟩)),(83,.pointer (some ⟨c,0,none⟩)),(84,.pointer (some ⟨b,0,none⟩)),(85,.pointer (some ⟨c,0,none⟩)),(86,.pointer (some ⟨c,0,none⟩)),(87,.pointer (some ⟨c,3,none⟩)),(88,.slice (some ⟨ri,0,none⟩) vl cc),(89,.pointer (some ⟨X,1,none⟩)),(90,.int .i64 (j:Int)),(91,.pointer (some ⟨ri,j,none⟩)),(92,.int .i64 ya),(93,.pointer (some ⟨c,0,none⟩)),(94,.pointer (some ⟨X,7,none⟩)),(95,.slice pa na ca)]:List (Tmp × Value)).lookup t).getD undef
theorem Qbc {e:Nat}{a:Int}{S:Nat->Bool}{t:Tmp}{u:Value}(f:Zk w6 w w') (d:QjT w6 b c X ri vl cc j e ca pa xs ya a S t u w):QjT w6 b c X ri vl cc j e ca pa xs ya a (Qct i S) t u w':=by
 unfold QjT at d |-;refine Qmp ?_ d;exact⟨fun _ h=>h,fun _ h=>h.z f,fun _ h=>h.z f,Y⟩
theorem Qoi {y:Nat}{E:Int}{B:World->Prop}{A:List PanicEntry->World->Prop}(D:∀ w,B w->w6.heap.size<=w.heap.size) (c3:w6.cell? ⟨c,3,none⟩=some (.slice (some ⟨ri,0,none⟩) vl cc)) (x1:w6.cell? ⟨X,1,none⟩=some (Iv (j:Int))) (hj:(j:Int)<vl) (ej:w6.cell? ⟨ri,j,none⟩=some (Iv ya)) (x7:w6.cell? ⟨X,7,none⟩=some (.slice pa y ca)) (V:Hid (∀ wx,Below w6.heap.size w6 wx->Calls prog 167 #[Pv c 0,.slice pa y ca] wx fun e w'=>Qm3 wx xs y e w')) (CT:Hid (∀ wx k,Below w6.heap.size w6 wx->w6.heap.size<=k->QbP wx (.slice (some ⟨k,0,none⟩) y y) xs->Calls prog 172 #[Pv b 0,Iv ya,.slice (some ⟨k,0,none⟩) y y] wx fun e w'=>(e=.returned (Iv E)/\B w'/\Zk w6 wx w')\/(∃ ch,e=.panicked ch/\A ch w')))  (R:∀ w w',(fun w=>∃ w5,B w5/\Below w5.heap.size w5 w) w->Below w.heap.size w w'->(fun w=>∃ w5,B w5/\Below w5.heap.size w5 w) w'){Q:Exit->Act->World->Prop}
 (a:Act) (m:Nat) (hn:a.tmps.size=m) (I:148<=m) (h0:a.tmps.getD 0 undef=Pv b 0) (L:a.tmps.getD 1 undef=Pv c 0) (N:a.tmps.getD 5 undef=Pv X 0)
 (hX:∀ ch a' w',a'.defers=a.defers->(fun ch w=>A ch w) ch w'->Q (.panic ch) a' w')
 (hend:∀ ops vs w',vs 83=Pv c 0->(QjQ w6 E) (vs 98) w'->(fun w=>∃ w5,B w5/\Below w5.heap.size w5 w) w'->wpList prog ops Q (Qal 16 ((Tryz.f114.body.bind (Qi 16)).getD .skip)) (QN a vs [83,84,85,86,87,88,89,90,91,92,93,94,95,96,97,98]) w') :
 Code.wp prog ((Tryz.f114.body.bind (Qi 16)).getD .skip) Q a w6:=by
 conv=>arg 2;whnf
 refine Zq 16 (QjT w6 b c X ri vl cc j y ca pa xs ya E) (WY w6 (fun w=>∃ w5,B w5/\Below w5.heap.size w5 w) 14) (fun ch w=>A ch w) hX (outs:=[0,1,5]) (gs:=[]) (bs:=[true,true,true,true,true,true,true,true,true,true,true,true,true,true,true,true]) (by kernel_rfl) (n:=148) hn I (by kernel_rfl) (by kernel_rfl) ?hG (.inl ⟨Z,QI Zr 1⟩) ⟨h0,L,N,Y⟩ ?hA ?hend
 case hG=>exact fun S=>trivial
 case hend=>exact fun ops vs S w' C f g=>hend ops vs w' (g 83 (by kernel_rfl)) (g 98 (by kernel_rfl)) (f.fin (C 14 (by decide)))
 case hA =>
  refine⟨fun S a w p u r f g K l=>?_,?_⟩
  ·obtain⟨d,-⟩:=g
   have d:a.tmps.getD 1 undef=Pv c 0:=d;go_simp;exact l _ _ (fun t _ o=>Qbc (i:=0) (Zk.refl _ _) o) (f.onS (i:=0) (by decide)) Z
  refine⟨fun S a w p u r f g K l=>?_,?_⟩
  ·obtain⟨d,-⟩:=g
   have d:a.tmps.getD 0 undef=Pv b 0:=d;go_simp;exact l _ _ (fun t _ o=>Qbc (i:=1) (Zk.refl _ _) o) (f.onS (i:=1) (by decide)) Z
  refine⟨fun S a w p u r f g K l=>?_,?_⟩
  ·obtain⟨d,-⟩:=g
   have d:a.tmps.getD 1 undef=Pv c 0:=d;go_simp;exact l _ _ (fun t _ o=>Qbc (i:=2) (Zk.refl _ _) o) (f.onS (i:=2) (by decide)) Z
  refine⟨fun S a w p u r f g K l=>?_,?_⟩
  ·obtain⟨d,-⟩:=g
   have d:a.tmps.getD 85 undef=Pv c 0:=d;go_simp;exact l _ _ (fun t _ o=>Qbc (i:=3) (Zk.refl _ _) o) (f.onS (i:=3) (by decide)) Z
  refine⟨fun S a w p u r f g K l=>?_,?_⟩
  ·obtain⟨d,-⟩:=g
   have d:a.tmps.getD 86 undef=Pv c 0:=d;go_simp;exact l _ _ (fun t _ o=>Qbc (i:=4) (Zk.refl _ _) o) (f.onS (i:=4) (by decide)) Z
  refine⟨fun S a w p u r f g K l=>?_,?_⟩
  ·obtain⟨d,-⟩:=g
   have s:S 14=false:=Qfq r (q:=14) Z (by kernel_rfl) p;have x:=f.pre s;have d:a.tmps.getD 87 undef=Pv c 3:=d;have J:=Qk c3 x;go_simp;exact l _ _ (fun t _ o=>Qbc (i:=5) (Zk.refl _ _) o) (f.onS (i:=5) (by decide)) Z
  refine⟨fun S a w p u r f g K l=>?_,?_⟩
  ·obtain⟨d,-⟩:=g
   have d:a.tmps.getD 5 undef=Pv X 0:=d;go_simp;exact l _ _ (fun t _ o=>Qbc (i:=6) (Zk.refl _ _) o) (f.onS (i:=6) (by decide)) Z
  refine⟨fun S a w p u r f g K l=>?_,?_⟩
  ·obtain⟨d,-⟩:=g
   have s:S 14=false:=Qfq r (q:=14) Z (by kernel_rfl) p;have x:=f.pre s;have d:a.tmps.getD 89 undef=Pv X 1:=d;have J:=Qk x1 x;go_simp;exact l _ _ (fun t _ o=>Qbc (i:=7) (Zk.refl _ _) o) (f.onS (i:=7) (by decide)) Z
  refine⟨fun S a w p u r f g K l=>?_,?_⟩
  ·obtain⟨d,z,-⟩:=g
   have d:a.tmps.getD 88 undef=.slice (some ⟨ri,0,none⟩) vl cc:=d;have z:a.tmps.getD 90 undef=Iv (j:Int):=z;go_simp;exact l _ _ (fun t _ o=>Qbc (i:=8) (Zk.refl _ _) o) (f.onS (i:=8) (by decide)) Z
  refine⟨fun S a w p u r f g K l=>?_,?_⟩
  ·obtain⟨d,-⟩:=g
   have s:S 14=false:=Qfq r (q:=14) Z (by kernel_rfl) p;have x:=f.pre s;have d:a.tmps.getD 91 undef=Pv ri j:=d;have J:=Qk ej x;go_simp;exact l _ _ (fun t _ o=>Qbc (i:=9) (Zk.refl _ _) o) (f.onS (i:=9) (by decide)) Z
  refine⟨fun S a w p u r f g K l=>?_,?_⟩
  ·obtain⟨d,-⟩:=g
   have d:a.tmps.getD 1 undef=Pv c 0:=d;go_simp;exact l _ _ (fun t _ o=>Qbc (i:=10) (Zk.refl _ _) o) (f.onS (i:=10) (by decide)) Z
  refine⟨fun S a w p u r f g K l=>?_,?_⟩
  ·obtain⟨d,-⟩:=g
   have d:a.tmps.getD 5 undef=Pv X 0:=d;go_simp;exact l _ _ (fun t _ o=>Qbc (i:=11) (Zk.refl _ _) o) (f.onS (i:=11) (by decide)) Z
  refine⟨fun S a w p u r f g K l=>?_,?_⟩
  ·obtain⟨d,-⟩:=g
   have s:S 14=false:=Qfq r (q:=14) Z (by kernel_rfl) p;have x:=f.pre s;have d:a.tmps.getD 94 undef=Pv X 7:=d;have J:=Qk x7 x;go_simp;exact l _ _ (fun t _ o=>Qbc (i:=12) (Zk.refl _ _) o) (f.onS (i:=12) (by decide)) Z
  refine⟨fun S a w p u r f g K l=>?_,?_⟩
  ·obtain⟨d,z,-⟩:=g
   have s:S 14=false:=Qfq r (q:=14) Z (by kernel_rfl) p;have x:=f.pre s;have d:a.tmps.getD 93 undef=Pv c 0:=d;have z:a.tmps.getD 95 undef=.slice pa y ca:=z;go_simp;refine Xm (V.out w x) ?_;rintro r7 w7 ⟨H,rfl,L,h2,P⟩;go_simp;exact l _ _ (fun t _ o=>Qbc (i:=13) (Zk.below P) o) (f.onB R (i:=13) (by decide) P) ⟨H,Z,Zt x.size L,h2⟩
  refine⟨fun S a w p u r f g K l=>?_,?_⟩
  ·obtain⟨d,z,F,-⟩:=g
   have x:=f.pre p;have d:a.tmps.getD 84 undef=Pv b 0:=d;have z:a.tmps.getD 92 undef=Iv ya:=z;have F:(Qmt w6 xs y) (a.tmps.getD 96 undef) w:=F;generalize ab:a.tmps.getD 96 undef=aa at F;obtain⟨H,rfl,T,U⟩:=F
   go_simp;refine Xm (CT.out w H x T U) ?_;rintro r7 w7 (⟨rfl,G,hz⟩|⟨ch,rfl,G⟩)
   rotate_left
   ·exact⟨_,Z,G⟩
   go_simp;exact l _ _ (fun t _ o=>Qbc (i:=14) hz o) (WY.did ⟨_,G,Zr⟩) Z
  refine⟨fun S a w p u r f g K l=>?_,?_⟩
  ·obtain⟨d,-⟩:=g
   have d:(fun v=>v=Iv E) (a.tmps.getD 97 undef):=d;generalize O:a.tmps.getD 97 undef=ac at d;rw[Za] at O
   subst d;go_simp;have M:=f.lowB (fun w h=>by obtain⟨w5,N,W⟩:=h;exact Zt (D _ N) W.size);exact l _ _ (fun t _ o=>Qbc (i:=15) (Zk.below (ZO _ _)) o) (f.onB R (i:=15) (by decide) (ZO _ _)) ⟨_,Z,M,Qb (Qe _ _ _) 0 _ Z⟩
  trivial
def Qkq (w6:World) (b c X ri vl cc j q:Nat) (ya yb ta:Int) (S:Nat->Bool) (t:Tmp) (v:Value) (w:World):Prop :=
 match ([(120,fun _ v _=>(fun v=>v=.int .i64 ta) v),(121,fun _ v w=>(QjQ w6 ta) v w)]:List (Tmp × ((Nat->Bool)->Value->World->Prop))).lookup t with
 | some p=>p S v w
 | none=>v=(([(0,.pointer (some ⟨b,0,none⟩)),(1,.pointer (some ⟨c,0,none⟩)),(5,.pointer (some ⟨X,0,none⟩)),(102,.pointer (some ⟨c,0,none⟩)),(103,.pointer (some ⟨b,0,none⟩)),(104,.pointer (some ⟨c,0,none⟩)),(105,.pointer (some ⟨c,0,none⟩)),(106,.pointer (some ⟨c,3,none⟩)),(107,.slice (some ⟨ri,0,none⟩) vl cc),(108,.pointer (some ⟨X,1,none⟩)),(109,.int .i64 (j:Int)),(110,.pointer (some ⟨ri,j,none⟩)),(111,.int .i64 ya),(112,.pointer (some ⟨c,0,none⟩)),(113,.pointer (some ⟨c,0,none⟩)),(114,.pointer (some ⟨c,3,none⟩)),(115,.slice (some ⟨ri,0,none⟩) vl cc),(116,.pointer (some ⟨X,2,none⟩)),(117,.int .i64 (q:Int)),(118,.pointer (some ⟨ri,q,none⟩)),(119,.int .i64 yb)]:List (Tmp × Value)).lookup t).getD undef
theorem Qax {a:Int}{S:Nat->Bool}{t:Tmp}{u:Value}(e:Zk w6 w w') (d:Qkq w6 b c X ri vl cc j q ya yb a S t u w):Qkq w6 b c X ri vl cc j q ya yb a (Qct i S) t u w':=by
 unfold Qkq at d |-;refine Qmp ?_ d;exact⟨fun _ h=>h,fun _ h=>h.z e,Y⟩
theorem Qn6 {D:Int}{z:World->Prop}{y:List PanicEntry->World->Prop}(C:∀ w,z w->w6.heap.size<=w.heap.size) (J:w6.cell? ⟨c,3,none⟩=some (.slice (some ⟨ri,0,none⟩) vl cc)) (x1:w6.cell? ⟨X,1,none⟩=some (Iv (j:Int))) (hj:(j:Int)<vl) (U:w6.cell? ⟨ri,j,none⟩=some (Iv ya)) (V:w6.cell? ⟨X,2,none⟩=some (Iv (q:Int))) (hq:(q:Int)<vl) (T:w6.cell? ⟨ri,q,none⟩=some (Iv yb)) (N:Hid (∀ wx,Below w6.heap.size w6 wx->Calls prog 173 #[Pv b 0,Iv ya,Iv yb] wx fun e w'=>(e=.returned (Iv D)/\z w'/\Zk w6 wx w')\/(∃ ch,e=.panicked ch/\y ch w')))  (hP:∀ w w',(fun w=>∃ w5,z w5/\Below w5.heap.size w5 w) w->Below w.heap.size w w'->(fun w=>∃ w5,z w5/\Below w5.heap.size w5 w) w'){Q:Exit->Act->World->Prop}
 (a:Act) (m:Nat) (W:a.tmps.size=m) (F:148<=m) (O:a.tmps.getD 0 undef=Pv b 0) (R:a.tmps.getD 1 undef=Pv c 0) (H:a.tmps.getD 5 undef=Pv X 0)
 (P:∀ ch a' w',a'.defers=a.defers->(fun ch w=>y ch w) ch w'->Q (.panic ch) a' w')
 (hend:∀ ops vs w',vs 102=Pv c 0->(QjQ w6 D) (vs 121) w'->(fun w=>∃ w5,z w5/\Below w5.heap.size w5 w) w'->wpList prog ops Q (Qal 20 ((Tryz.f114.body.bind (Qi 18)).getD .skip)) (QN a vs [102,103,104,105,106,107,108,109,110,111,112,113,114,115,116,117,118,119,120,121]) w') :
 Code.wp prog ((Tryz.f114.body.bind (Qi 18)).getD .skip) Q a w6:=by
 conv=>arg 2;whnf
 refine Zq 20 (Qkq w6 b c X ri vl cc j q ya yb D) (WY w6 (fun w=>∃ w5,z w5/\Below w5.heap.size w5 w) 18) (fun ch w=>y ch w) P (outs:=[0,1,5]) (gs:=[]) (bs:=[true,true,true,true,true,true,true,true,true,true,true,true,true,true,true,true,true,true,true,true]) (by kernel_rfl) (n:=148) W F (by kernel_rfl) (by kernel_rfl) ?hG (.inl ⟨Z,QI Zr 1⟩) ⟨O,R,H,Y⟩ ?hA ?hend
 case hG=>exact fun S=>trivial
 case hend=>exact fun ops vs S w' A f g=>hend ops vs w' (g 102 (by kernel_rfl)) (g 121 (by kernel_rfl)) (f.fin (A 18 (by decide)))
 case hA =>
  refine⟨fun S a w o s p f g K k=>?_,?_⟩
  ·obtain⟨d,-⟩:=g
   have d:a.tmps.getD 1 undef=Pv c 0:=d;go_simp;exact k _ _ (fun t _ l=>Qax (i:=0) (Zk.refl _ _) l) (f.onS (i:=0) (by decide)) Z
  refine⟨fun S a w o s p f g K k=>?_,?_⟩
  ·obtain⟨d,-⟩:=g
   have d:a.tmps.getD 0 undef=Pv b 0:=d;go_simp;exact k _ _ (fun t _ l=>Qax (i:=1) (Zk.refl _ _) l) (f.onS (i:=1) (by decide)) Z
  refine⟨fun S a w o s p f g K k=>?_,?_⟩
  ·obtain⟨d,-⟩:=g
   have d:a.tmps.getD 1 undef=Pv c 0:=d;go_simp;exact k _ _ (fun t _ l=>Qax (i:=2) (Zk.refl _ _) l) (f.onS (i:=2) (by decide)) Z
  refine⟨fun S a w o s p f g K k=>?_,?_⟩
  ·obtain⟨d,-⟩:=g
   have d:a.tmps.getD 104 undef=Pv c 0:=d;go_simp;exact k _ _ (fun t _ l=>Qax (i:=3) (Zk.refl _ _) l) (f.onS (i:=3) (by decide)) Z
  refine⟨fun S a w o s p f g K k=>?_,?_⟩
  ·obtain⟨d,-⟩:=g
   have d:a.tmps.getD 105 undef=Pv c 0:=d;go_simp;exact k _ _ (fun t _ l=>Qax (i:=4) (Zk.refl _ _) l) (f.onS (i:=4) (by decide)) Z
  refine⟨fun S a w o s p f g K k=>?_,?_⟩
  ·obtain⟨d,-⟩:=g
   have r:S 18=false:=Qfq p (q:=18) Z (by kernel_rfl) o;have u:=f.pre r;have d:a.tmps.getD 106 undef=Pv c 3:=d;have B:=Qk J u;go_simp;exact k _ _ (fun t _ l=>Qax (i:=5) (Zk.refl _ _) l) (f.onS (i:=5) (by decide)) Z
  refine⟨fun S a w o s p f g K k=>?_,?_⟩
  ·obtain⟨d,-⟩:=g
   have d:a.tmps.getD 5 undef=Pv X 0:=d;go_simp;exact k _ _ (fun t _ l=>Qax (i:=6) (Zk.refl _ _) l) (f.onS (i:=6) (by decide)) Z
  refine⟨fun S a w o s p f g K k=>?_,?_⟩
  ·obtain⟨d,-⟩:=g
   have r:S 18=false:=Qfq p (q:=18) Z (by kernel_rfl) o;have u:=f.pre r;have d:a.tmps.getD 108 undef=Pv X 1:=d;have B:=Qk x1 u;go_simp;exact k _ _ (fun t _ l=>Qax (i:=7) (Zk.refl _ _) l) (f.onS (i:=7) (by decide)) Z
  refine⟨fun S a w o s p f g K k=>?_,?_⟩
  ·obtain⟨d,x,-⟩:=g
   have d:a.tmps.getD 107 undef=.slice (some ⟨ri,0,none⟩) vl cc:=d;have x:a.tmps.getD 109 undef=Iv (j:Int):=x;go_simp;exact k _ _ (fun t _ l=>Qax (i:=8) (Zk.refl _ _) l) (f.onS (i:=8) (by decide)) Z
  refine⟨fun S a w o s p f g K k=>?_,?_⟩
  ·obtain⟨d,-⟩:=g
   have r:S 18=false:=Qfq p (q:=18) Z (by kernel_rfl) o;have u:=f.pre r;have d:a.tmps.getD 110 undef=Pv ri j:=d;have B:=Qk U u;go_simp;exact k _ _ (fun t _ l=>Qax (i:=9) (Zk.refl _ _) l) (f.onS (i:=9) (by decide)) Z
  refine⟨fun S a w o s p f g K k=>?_,?_⟩
  ·obtain⟨d,-⟩:=g
   have d:a.tmps.getD 1 undef=Pv c 0:=d;go_simp;exact k _ _ (fun t _ l=>Qax (i:=10) (Zk.refl _ _) l) (f.onS (i:=10) (by decide)) Z
  refine⟨fun S a w o s p f g K k=>?_,?_⟩
  ·obtain⟨d,-⟩:=g
   have d:a.tmps.getD 112 undef=Pv c 0:=d;go_simp;exact k _ _ (fun t _ l=>Qax (i:=11) (Zk.refl _ _) l) (f.onS (i:=11) (by decide)) Z
  refine⟨fun S a w o s p f g K k=>?_,?_⟩
  ·obtain⟨d,-⟩:=g
   have d:a.tmps.getD 113 undef=Pv c 0:=d;go_simp;exact k _ _ (fun t _ l=>Qax (i:=12) (Zk.refl _ _) l) (f.onS (i:=12) (by decide)) Z
  refine⟨fun S a w o s p f g K k=>?_,?_⟩
  ·obtain⟨d,-⟩:=g
   have r:S 18=false:=Qfq p (q:=18) Z (by kernel_rfl) o;have u:=f.pre r;have d:a.tmps.getD 114 undef=Pv c 3:=d;have B:=Qk J u;go_simp;exact k _ _ (fun t _ l=>Qax (i:=13) (Zk.refl _ _) l) (f.onS (i:=13) (by decide)) Z
  refine⟨fun S a w o s p f g K k=>?_,?_⟩
  ·obtain⟨d,-⟩:=g
   have d:a.tmps.getD 5 undef=Pv X 0:=d;go_simp;exact k _ _ (fun t _ l=>Qax (i:=14) (Zk.refl _ _) l) (f.onS (i:=14) (by decide)) Z
  refine⟨fun S a w o s p f g K k=>?_,?_⟩
  ·obtain⟨d,-⟩:=g
   have r:S 18=false:=Qfq p (q:=18) Z (by kernel_rfl) o;have u:=f.pre r;have d:a.tmps.getD 116 undef=Pv X 2:=d;have B:=Qk V u;go_simp;exact k _ _ (fun t _ l=>Qax (i:=15) (Zk.refl _ _) l) (f.onS (i:=15) (by decide)) Z
  refine⟨fun S a w o s p f g K k=>?_,?_⟩
  ·obtain⟨d,x,-⟩:=g
   have d:a.tmps.getD 115 undef=.slice (some ⟨ri,0,none⟩) vl cc:=d;have x:a.tmps.getD 117 undef=Iv (q:Int):=x;go_simp;exact k _ _ (fun t _ l=>Qax (i:=16) (Zk.refl _ _) l) (f.onS (i:=16) (by decide)) Z
  refine⟨fun S a w o s p f g K k=>?_,?_⟩
  ·obtain⟨d,-⟩:=g
   have r:S 18=false:=Qfq p (q:=18) Z (by kernel_rfl) o;have u:=f.pre r;have d:a.tmps.getD 118 undef=Pv ri q:=d;have B:=Qk T u;go_simp;exact k _ _ (fun t _ l=>Qax (i:=17) (Zk.refl _ _) l) (f.onS (i:=17) (by decide)) Z
  refine⟨fun S a w o s p f g K k=>?_,?_⟩
  ·obtain⟨d,x,L,-⟩:=g
   have u:=f.pre o;have d:a.tmps.getD 103 undef=Pv b 0:=d;have x:a.tmps.getD 111 undef=Iv ya:=x;have L:a.tmps.getD 119 undef=Iv yb:=L;go_simp;refine Xm (N.out w u) ?_;rintro r7 w7 (⟨rfl,E,hz⟩|⟨ch,rfl,E⟩)
   rotate_left
   ·exact⟨_,Z,E⟩
   go_simp;exact k _ _ (fun t _ l=>Qax (i:=18) hz l) (WY.did ⟨_,E,Zr⟩) Z
  refine⟨fun S a w o s p f g K k=>?_,?_⟩
  ·obtain⟨d,-⟩:=g
   have d:(fun v=>v=Iv D) (a.tmps.getD 120 undef):=d;generalize I:a.tmps.getD 120 undef=aa at d;rw[Za] at I
   subst d;go_simp;have G:=f.lowB (fun w h=>by obtain⟨w5,H,M⟩:=h;exact Zt (C _ H) M.size);exact k _ _ (fun t _ l=>Qax (i:=19) (Zk.below (ZO _ _)) l) (f.onB hP (i:=19) (by decide) (ZO _ _)) ⟨_,Z,G,Qb (Qe _ _ _) 0 _ Z⟩
  trivial
def Qnt (w6:World) (fr:RFr) (gc nc:Nat) (vs0:List Value) (v:Value) (w:World):Prop:=∃ w5 c5 x5 n5,Below w6.heap.size w6 w5/\w6.heap.size<=c5/\w6.heap.size<=x5/\WFr w5 c5 fr (.slice (some ⟨x5,0,none⟩) n5 n5)/\w.ownsRow 0 130 1 v (nc+1) (vs0++[Pv c5 0])/\w5.grownBy w (some gc)/\∀ k,v.ownBlock=some k->k=gc\/k=w5.heap.size
theorem wInfoF:∃ i,prog.info? 130=some i/\i.zero=some (.pointer none)/\i.size=1/\i.bytes=8:=by
 have a:(prog.info? 130).map (fun i=>(i.zero,i.size,i.bytes))=some (some (.pointer none),1,8):=by kernel_rfl
 cases h2:prog.info? 130 with
 | none=>rw[h2] at a;cases a
 | some i =>
   rw[h2] at a
   simp at a
   exact⟨i,Z,a.1,a.2.1,a.2.2⟩
theorem wUnderF:prog.underlying 66=some (.slice 130):=by kernel_rfl
def QlP (w6:World) (fr:RFr) (b c X fi gc nc dc na ca:Nat) (pa:Option Addr) (vs0:List Value) (S:Nat->Bool) (t:Tmp) (v:Value) (w:World):Prop :=
 match ([(23,fun _ v w=>(Qhn w6 fr) v w),(24,fun _ v w=>(Qmm w6 fr) v w),(25,fun S v w=>S 12=true->(Qnt w6 fr gc nc vs0) v w)]:List (Tmp × ((Nat->Bool)->Value->World->Prop))).lookup t with
 | some p=>p S v w
 | none=>v=(([(0,.pointer (some ⟨b,0,none⟩)),(1,.pointer (some ⟨c,0,none⟩)),(5,.pointer (some ⟨X,0,none⟩)),(13,.pointer (some ⟨b,0,none⟩)),(14,.pointer (some ⟨b,0,none⟩)),(15,.pointer (some ⟨b,0,none⟩)),(16,.pointer (some ⟨b,4,none⟩)),(17,.slice (some ⟨gc,0,none⟩) nc dc),(18,.pointer (some ⟨c,0,none⟩)),(19,.pointer (some ⟨X,4,none⟩)),(20,.int .i64 (fi:Int)),(21,.pointer (some ⟨X,7,none⟩)),(22,.slice pa na ca),(26,.pointer (some ⟨b,0,none⟩)),(27,.pointer (some ⟨b,4,none⟩))]:List (Tmp × Value)).lookup t).getD undef
theorem Qgs {fr:RFr}{j l g d:Nat}{a:List Value}{S:Nat->Bool}{t:Tmp}{u:Value}(hi:i≠12) (f:Zk w6 w w') (n:S 12=true->w'=w) (k:QlP w6 fr b c X fi j l g d ca pa a S t u w):QlP w6 fr b c X fi j l g d ca pa a (Qct i S) t u w':=by
 unfold QlP at k |-;refine Qmp ?_ k;exact⟨fun _ h=>h.z f,fun _ h=>h.z f,fun _ h e=>(by rw[Qna (fun e=>hi e.symm)] at e;have m:=n e;subst m;exact h e),Y⟩
theorem Qob {fr:RFr}{g j k d:Nat}{a:List Value}{S:Nat->Bool}{t:Tmp}{u:Value}(l:t≠25) (f:Zk w6 w w') (i:QlP w6 fr b c X fi g j k d ca pa a S t u w):QlP w6 fr b c X fi g j k d ca pa a (Qct 12 S) t u w':=by
 unfold QlP at i |-;refine Qmp ?_ i;exact⟨fun _ h=>h.z f,fun _ h=>h.z f,fun e _=>absurd e l,Y⟩
theorem wc2 {fr:RFr}{y x F H:Nat}{v:List Value}(hR:Hid (∀ wx,Below w6.heap.size w6 wx->wx.ownsRow 0 130 1 (.slice (some ⟨y,0,none⟩) x F) x v)) (aa:y<w6.heap.size) (ab:x<=100) (q4:w6.cell? ⟨b,4,none⟩=some (.slice (some ⟨y,0,none⟩) x F)) (x4:w6.cell? ⟨X,4,none⟩=some (Iv (fi:Int))) (C:w6.cell? ⟨X,7,none⟩=some (.slice pa H ca)) (CB:Hid (∀ wx,Below w6.heap.size w6 wx->Calls prog 216 #[Pv c 0,Iv (fi:Int),Iv 0,.slice pa H ca] wx fun e w'=>Qmu wx fr e w'))  (hP:∀ w w',(fun w=>w6.heap.size<=w.heap.size) w->Below w.heap.size w w'->(fun w=>w6.heap.size<=w.heap.size) w'){Q:Exit->Act->World->Prop}
 (a:Act) (m:Nat) (hn:a.tmps.size=m) (L:28<=m) (h0:a.tmps.getD 0 undef=Pv b 0) (P:a.tmps.getD 1 undef=Pv c 0) (h5:a.tmps.getD 5 undef=Pv X 0)
 (hX:∀ ch a' w',a'.defers=a.defers->(fun ch w=>False) ch w'->Q (.panic ch) a' w')
 (hend:∀ ops vs w',(Qnt w6 fr y x v) (vs 25) w'->vs 27=Pv b 4->(fun w=>w6.heap.size<=w.heap.size) w'->wpList prog ops Q (Qal 15 ((Tryz.f176.body.bind (Qi 2)).getD .skip)) (QN a vs [13,14,15,16,17,18,19,20,21,22,23,24,25,26,27]) w') :
 Code.wp prog ((Tryz.f176.body.bind (Qi 2)).getD .skip) Q a w6:=by
 conv=>arg 2;whnf
 refine Zq 15 (QlP w6 fr b c X fi y x F H ca pa v) (WY w6 (fun w=>w6.heap.size<=w.heap.size) 12) (fun ch w=>False) hX (outs:=[0,1,5]) (gs:=[]) (bs:=[true,true,true,true,true,true,true,true,true,true,true,true,true,true,true]) (by kernel_rfl) (n:=28) hn L (by kernel_rfl) (by kernel_rfl) ?hG (.inl ⟨Yz,QI Zr 1⟩) ⟨h0,P,h5,Y⟩ ?hA ?hend
 case hG=>exact fun S=>trivial
 case hend=>exact fun ops vs S w' A f g=>hend ops vs w' ((show S 12=true->(Qnt w6 fr y x v) (vs 25) w' from g 25 (by kernel_rfl)) (A 12 (by decide))) (g 27 (by kernel_rfl)) (f.fin (A 12 (by decide)))
 case hA =>
  refine⟨fun S a w o s p f g K h=>?_,?_⟩
  ·obtain⟨d,-⟩:=g
   have d:a.tmps.getD 0 undef=Pv b 0:=d;go_simp;exact h _ _ (fun t _ j=>Qgs (by decide) (i:=0) (Zk.refl _ _) (fun _=>rfl) j) (f.onS (i:=0) (by decide)) Yz
  refine⟨fun S a w o s p f g K h=>?_,?_⟩
  ·obtain⟨d,-⟩:=g
   have d:a.tmps.getD 0 undef=Pv b 0:=d;go_simp;exact h _ _ (fun t _ j=>Qgs (by decide) (i:=1) (Zk.refl _ _) (fun _=>rfl) j) (f.onS (i:=1) (by decide)) Yz
  refine⟨fun S a w o s p f g K h=>?_,?_⟩
  ·obtain⟨d,-⟩:=g
   have d:a.tmps.getD 14 undef=Pv b 0:=d;go_simp;exact h _ _ (fun t _ j=>Qgs (by decide) (i:=2) (Zk.refl _ _) (fun _=>rfl) j) (f.onS (i:=2) (by decide)) Yz
  refine⟨fun S a w o s p f g K h=>?_,?_⟩
  ·obtain⟨d,-⟩:=g
   have d:a.tmps.getD 15 undef=Pv b 0:=d;go_simp;exact h _ _ (fun t _ j=>Qgs (by decide) (i:=3) (Zk.refl _ _) (fun _=>rfl) j) (f.onS (i:=3) (by decide)) Yz
  refine⟨fun S a w o s p f g K h=>?_,?_⟩
  ·obtain⟨d,-⟩:=g
   have l:S 12=false:=Qfq p (q:=12) Yz (by kernel_rfl) o;have r:=f.pre l;have d:a.tmps.getD 16 undef=Pv b 4:=d;have c0:=Qk q4 r;go_simp;exact h _ _ (fun t _ j=>Qgs (by decide) (i:=4) (Zk.refl _ _) (fun _=>rfl) j) (f.onS (i:=4) (by decide)) Yz
  refine⟨fun S a w o s p f g K h=>?_,?_⟩
  ·obtain⟨d,-⟩:=g
   have d:a.tmps.getD 1 undef=Pv c 0:=d;go_simp;exact h _ _ (fun t _ j=>Qgs (by decide) (i:=5) (Zk.refl _ _) (fun _=>rfl) j) (f.onS (i:=5) (by decide)) Yz
  refine⟨fun S a w o s p f g K h=>?_,?_⟩
  ·obtain⟨d,-⟩:=g
   have d:a.tmps.getD 5 undef=Pv X 0:=d;go_simp;exact h _ _ (fun t _ j=>Qgs (by decide) (i:=6) (Zk.refl _ _) (fun _=>rfl) j) (f.onS (i:=6) (by decide)) Yz
  refine⟨fun S a w o s p f g K h=>?_,?_⟩
  ·obtain⟨d,-⟩:=g
   have l:S 12=false:=Qfq p (q:=12) Yz (by kernel_rfl) o;have r:=f.pre l;have d:a.tmps.getD 19 undef=Pv X 4:=d;have c0:=Qk x4 r;go_simp;exact h _ _ (fun t _ j=>Qgs (by decide) (i:=7) (Zk.refl _ _) (fun _=>rfl) j) (f.onS (i:=7) (by decide)) Yz
  refine⟨fun S a w o s p f g K h=>?_,?_⟩
  ·obtain⟨d,-⟩:=g
   have d:a.tmps.getD 5 undef=Pv X 0:=d;go_simp;exact h _ _ (fun t _ j=>Qgs (by decide) (i:=8) (Zk.refl _ _) (fun _=>rfl) j) (f.onS (i:=8) (by decide)) Yz
  refine⟨fun S a w o s p f g K h=>?_,?_⟩
  ·obtain⟨d,-⟩:=g
   have l:S 12=false:=Qfq p (q:=12) Yz (by kernel_rfl) o;have r:=f.pre l;have d:a.tmps.getD 21 undef=Pv X 7:=d;have c0:=Qk C r;go_simp;exact h _ _ (fun t _ j=>Qgs (by decide) (i:=9) (Zk.refl _ _) (fun _=>rfl) j) (f.onS (i:=9) (by decide)) Yz
  refine⟨fun S a w o s p f g K h=>?_,?_⟩
  ·obtain⟨d,B,k2,-⟩:=g
   have l:S 12=false:=Qfq p (q:=12) Yz (by kernel_rfl) o;have r:=f.pre l;have d:a.tmps.getD 18 undef=Pv c 0:=d;have B:a.tmps.getD 20 undef=Iv (fi:Int):=B;have k2:a.tmps.getD 22 undef=.slice pa H ca:=k2;go_simp;refine Xm (CB.out w r) ?_;rintro r7 w7 ⟨k7,C,G,rfl,P,h2,h3,W⟩;go_simp;exact h _ _ (fun t _ j=>Qgs (by decide) (i:=10) (Zk.below W) (fun e=>by rw[l] at e;cases e) j) (f.onB hP (i:=10) (by decide) W) ⟨k7,C,G,Yz,Zt r.size P,Zt r.size h2,h3⟩
  refine⟨fun S a w o s p f g K h=>?_,?_⟩
  ·obtain⟨d,-⟩:=g
   have l:S 12=false:=Qfq p (q:=12) Yz (by kernel_rfl) o;have r:=f.pre l;have d:(Qhn w6 fr) (a.tmps.getD 23 undef) w:=d;generalize T:a.tmps.getD 23 undef=ac at d;rw[Za] at T
   have k9:=d;obtain⟨M,C,G,rfl,V,D,E⟩:=d
   go_simp;exact h _ _ (fun t _ j=>Qgs (by decide) (i:=11) (Zk.below (ZO _ _)) (fun e=>by rw[l] at e;cases e) j) (f.onB hP (i:=11) (by decide) (ZO _ _)) ⟨_,_,Yz,r.size,Qb (Qe _ _ _) 0 _ Yz,k9.z (Zk.below (ZO _ _))⟩
  refine⟨fun S a w o s p f g K h=>?_,?_⟩
  ·obtain⟨d,B,-⟩:=g
   have r:=f.pre o;have d:a.tmps.getD 17 undef=.slice (some ⟨y,0,none⟩) x F:=d;have B:(Qmm w6 fr) (a.tmps.getD 24 undef) w:=B;generalize U:a.tmps.getD 24 undef=ad at B;obtain⟨kx,u7,rfl,h7,h8,M,C,G,rfl,V,D,E⟩:=B
   obtain⟨i0,J,O,R,N⟩:=wInfoF
   refine QeJ w _ _ 66 Yz 130 i0 (.pointer none) 1 8 wUnderF J O R N Yz (by decide) (.slice (some ⟨y,0,none⟩) x F) x v d (hR.out w r) ⟨kx,0,none⟩ 1 1 [Pv M 0] U Yz (Qgf h8) (by intro u hu;simp at hu;subst hu;rfl) (by unfold maxLen;omega) (by omega) ?_;intro v9 w9 r1 I r3;have hz:Zk w6 w w9:=fun Z hZ hl=>I.block Z hl (fun e=>by have:Z=y:=(by simpa[Value.ownBlock] using e);omega);refine h _ _ (fun t hL j=>Qob (fun e=>by subst e;have:=Qkl hL (by kernel_rfl) (i:=12) (by kernel_rfl);rw[o] at this;cases this) hz j) (WY.did (Zt r.size I.size)) (fun _=>⟨w,M,C,G,r,V,D,E,r1,I,fun k g=>(r3 k g).imp (fun e=>by simpa[Value.ownBlock] using e.symm) id⟩)
  refine⟨fun S a w o s p f g K h=>?_,?_⟩
  ·obtain⟨d,-⟩:=g
   have d:a.tmps.getD 13 undef=Pv b 0:=d;go_simp;exact h _ _ (fun t _ j=>Qgs (by decide) (i:=13) (Zk.refl _ _) (fun _=>rfl) j) (f.onS (i:=13) (by decide)) Yz
  refine⟨fun S a w o s p f g K h=>?_,?_⟩
  ·obtain⟨d,-⟩:=g
   have d:a.tmps.getD 26 undef=Pv b 0:=d;go_simp;exact h _ _ (fun t _ j=>Qgs (by decide) (i:=14) (Zk.refl _ _) (fun _=>rfl) j) (f.onS (i:=14) (by decide)) Yz
  trivial
def RM.nx (R:RM):RM:={ R with top:={ R.top with i:=R.top.i+1 } }
def Qdi (g:WG) (w:World) (b most:Nat) (m:List (MFunc 6)) (r:RM) (e:Ending) (w':World):Prop :=
 (∃ N,r=N.nx/\e=.returned (.tuple #[])/\WTo g w w' b most m N)\/(∃ N k,r=N.over k/\e=.panicked (QdA k)/\WTo g w w' b most m N)
section
variable {w w' w2:World}{b most n:Nat}{m:List (MFunc 6)}{R R' r:RM}{g g1:WG}
theorem Qdi.then {e:Ending}(T:WSt g g1 w w2) (f:g1.t.c=g.t.c) (h:g1.fs=g.fs) (H:Qdi g1 w2 b most m r e w'):Qdi g w b most m r e w':=by
 rcases H with ⟨N,a,c,d⟩|⟨N,k,a,c,d⟩
 ·exact .inl ⟨N,a,c,WTo.then T f h d⟩
 ·exact .inr ⟨N,k,a,c,WTo.then T f h d⟩
theorem Qdi.cases {e:Ending}(h:Qdi g w b most m r e w'):(e=.returned (.tuple #[])\/∃ ch,e=.panicked ch):=by
 rcases h with ⟨N,a,c,d⟩|⟨N,k,a,c,d⟩
 ·exact .inl c
 ·exact .inr ⟨_,c⟩
theorem WAt.wordAt (S:WAt w b most m R g){k a:Int}(h:iAt R.top.v k=some a):∃ (j i o:Nat) (c:Nat),k=(j:Int)/\(j:Int)<(R.top.v.length:Nat)/\w.cell? ⟨g.t.c,3,none⟩=some (.slice (some ⟨i,0,none⟩) R.top.v.length c)/\w.cell? ⟨i,j,none⟩=some (Iv a):=by
 obtain⟨j,rfl,p,e⟩:=Qk9 h
 have F:=S.top;obtain⟨q,n,f,l⟩:=F.2.cell
 obtain⟨i,rfl,-,d⟩:=l j p
 refine⟨j,i,0,n,Z,by omega,?_,by rw[e];exact d⟩
 rw[<-f];exact Qb F.1 3 _ Z
theorem WAt.makesC (S:WAt w b most m R g)(h:w.cell? ⟨k,0,none⟩=some (Iv x)) (a:R.top.v.length+1<=1000000) :
 Calls prog 169 #[Pv g.t.c 0,.slice (some ⟨k,0,none⟩) 1 1] w fun e w'=>e=.returned (.tuple #[])/\WTo g w w' b most m (R.push [x]) :=
 Qb2 S (l:=[x]) Z (Qgf h) a
theorem Qz.zk {w w':World}(h:Qz O O' w w') (b:∀ x,O x->x<w6.heap.size):Zk w6 w w':=fun Z c a=>h.block Z a (fun e=>by have:=b Z e;omega)
theorem Qnj (S:WAt w b most m R g) (I:ROk m n R) (K:n<=900000){x:Qs}(a:IP) (h:x.op=1) (d:RM.ins aOp R x=some r) :
 Calls prog 114 #[Pv b 0,Pv g.t.c 0,.agg (Zp x a)] w fun e w'=>Qdi g w b most m r e w':=by
 have i:=Qc (ZO w (.cells (Zp x a) 78));have f:=Qc (Qe w (Zp x a) 78);have q:=Qc (S.below i.out);have l:=Qc (S.stepB i.out);have u:R.top.v.length+1<=1000000:=by have:=(I.fr R.top (by simp)).1;omega
 have p:=I.out.1;have k:=I.inp;clear S I;go_enter func114,ntmps114
 go_upto_region 1 with fail
 generalize w.alloc (.cells (Zp x a) 78)=G at i f q l |-;generalize w.heap.size=X at f |-;obtain⟨j,D,y,B,A,s,F,z⟩:=Q6 f.out
 rw[h] at j
 have E:Hid (r=(R.push [x.n]).nx):=by show _=_;unfold RM.ins at d;simp only[h,if_true] at d;cases d;rfl
 have C:=Qc (Qb7 q.out x.n u);clear D y B A F z d h;go_wp2_with fail
 refine C.out.mono ?_;rintro J H ⟨rfl,o⟩;have Z:=Qc (WTo.then l.out Yz Yz o);clear o C s j;go_wp2
 exact Xz (v:=.tuple #[]) (by simp[results,results114,go_sem]) Yz (.inl ⟨_,E.out,Yz,Z.out⟩)
theorem Qni (S:WAt w b most m R g) (I:ROk m n R) (hn:n<=900000){x:Qs}(l:IP) (h:x.op=3) (L:RM.ins aOp R x=some r) :
 Calls prog 114 #[Pv b 0,Pv g.t.c 0,.agg (Zp x l)] w fun e w'=>Qdi g w b most m r e w':=by
 have B:=Qc (ZO w (.cells (Zp x l) 78));have y:=Qc (Qe w (Zp x l) 78);have A:=Qc (S.below B.out);have q:=Qc (S.stepB B.out);have P:R.top.v.length+1<=1000000:=by have:=(I.fr R.top (by simp)).1;omega
 have M:=I.out.1;have F:=I.inp;clear S I;go_enter func114,ntmps114
 go_upto_region 1 with fail
 generalize w.alloc (.cells (Zp x l) 78)=w1 at B y A q |-;generalize w.heap.size=X at y |-;obtain⟨D,x1,T,W,V,N,x6,U⟩:=Q6 y.out
 rw[h] at D
 have E:Hid (some r=if 0<=R.e.openK then some (({ R with e:=R.e.opened }:RM).on [R.e.openK]) else some (R.over 6)):=by show _=_;rw[<-L];unfold RM.ins;simp[h]
 have C:=Qc A.out.openC;have q0:=A.out.cellE;clear x1 T W V N x6 U L h;by_cases d:0<=R.e.openK
 ·have k:Hid (r=(RM.push { R with e:=R.e.opened } [R.e.openK]).nx):=by show _=_;have:=E.out;rw[Xs d] at this;cases this;rfl
  have u:decide (R.e.openK>=0)=true:=by simpa using d
  clear E d;obtain⟨f,a⟩:∃ f,R.e.openK=f:=⟨_,Yz⟩
  rw[a] at C k u
  clear a;go_upto_region 12 with (first | (go_at_call 170;refine C.out.mono ?_;rintro j O ⟨rfl,o⟩) | (go_at_call 111;refine(QaI _ _).mono ?_;rintro j w' ⟨rfl,i⟩;have i:=i.symm;subst i))
  obtain⟨g2,H,J,p,G⟩:=o
  have z:=Qc (Qb7 H f P);rw[p] at z
  have s:=Qc (Xh (q.out.trans J) (Xh p G));clear H J p G C q0;go_wp2_with fail
  refine z.out.mono ?_;rintro j w5 ⟨rfl,K⟩;have Z:=Qc (WTo.then s.out.1 s.out.2.1 s.out.2.2 K);clear K z D;go_wp2
  exact Xz (v:=.tuple #[]) (by simp[results,results114,go_sem]) Yz (.inl ⟨_,k.out,Yz,Z.out⟩)
 ·have k:Hid (r=R.over 6):=by show _=_;have:=E.out;rw[Xr d] at this;cases this;rfl
  have u:decide (R.e.openK>=0)=false:=by simpa using d
  have Q:Hid (R.e.opened=R.e):=by
   show _=_;unfold Est.opened;rw[Xs (by omega)]
  clear E d;obtain⟨f,a⟩:∃ f,R.e.openK=f:=⟨_,Yz⟩
  rw[a] at C u
  clear a;go_wp2_with (go_at_call 170;refine C.out.mono ?_;rintro j O ⟨rfl,o⟩)
  refine(Z2 _ _).mono ?_
  rintro j w' ⟨rfl,i⟩;subst i;rw[Q.out] at o
  exact⟨Yz,.inr ⟨R,6,k.out,Yz,WTo.then q.out Yz Yz o⟩⟩
theorem QmO (S:WAt w b most m R g) (I:ROk m n R) (hn:n<=900000){x:Qs}(d:IP) (h:x.op=12) (a:RM.ins aOp R x=some r) :
 Calls prog 114 #[Pv b 0,Pv g.t.c 0,.agg (Zp x d)] w fun e w'=>Qdi g w b most m r e w':=by
 have u:=Qc (ZO w (.cells (Zp x d) 78));have q:=Qc (Qe w (Zp x d) 78);have N:=Qc (S.below u.out);have o:=Qc (S.stepB u.out);have P:R.top.v.length+1<=1000000:=by have:=(I.fr R.top (by simp)).1;omega
 have M:=I.out.1;have A:=I.inp;clear S I;go_enter func114,ntmps114
 go_upto_region 1 with fail
 generalize w.alloc (.cells (Zp x d) 78)=U at u q N o |-;generalize w.heap.size=X at q |-;obtain⟨y,L,G,K,J,z,O,H⟩:=Q6 q.out
 rw[h] at y
 have C:=Qc (Qga N.out (by omega));unfold Qnu at C
 cases hi:R.inp with
 | nil =>
   rw[hi] at C
   have j:Hid (r=R.over 4):=by show _=_;unfold RM.ins at a;simp[h,hi] at a;exact a.symm
   clear L G K J z O H a h hi;go_wp2_with fail
   refine C.out.mono ?_;rintro D Q ⟨rfl,f⟩;exact⟨Yz,.inr ⟨R,4,j.out,Yz,WTo.then o.out Yz Yz f⟩⟩
 | cons k l =>
   rw[hi] at C
   have j:Hid (r=(RM.push { R with inp:=l } [k]).nx):=by show _=_;unfold RM.ins at a;simp[h,hi] at a;exact a.symm
   clear L G K J z O H a h hi;go_wp2_with (go_at_call 174;refine C.out.mono ?_;rintro D V ⟨rfl,T⟩)
   obtain⟨W,E,F,i,B⟩:=T
   have s:=Qc (Qb7 E k P);rw[i] at s
   have p:=Qc (Xh (o.out.trans F) (Xh i B));clear E F i B C;refine s.out.mono ?_;rintro D Q ⟨rfl,f⟩;have Z:=Qc (WTo.then p.out.1 p.out.2.1 p.out.2.2 f);clear f s y;go_wp2
   exact Xz (v:=.tuple #[]) (by simp[results,results114,go_sem]) Yz (.inl ⟨_,j.out,Yz,Z.out⟩)
end
section
variable {w w' w2:World}{b most n:Nat}{m:List (MFunc 6)}{R R' r:RM}{g g1:WG}
theorem Qm7 (S:WAt w b most m R g) (I:ROk m n R) (hn:n<=900000){x:Qs}(o:IP) (h:x.op=4) (i:RM.ins aOp R x=some r) :
 Calls prog 114 #[Pv b 0,Pv g.t.c 0,.agg (Zp x o)] w fun e w'=>Qdi g w b most m r e w':=by
 have p:=Qc (ZO w (.cells (Zp x o) 78));have s:=Qc (Qe w (Zp x o) 78);have k:=Qc (S.below p.out);have q:=Qc (S.stepB p.out);have hl:R.top.v.length+1<=1000000:=by have:=(I.fr R.top (by simp)).1;omega
 have D:=I.out.1;have z:=I.inp;clear S I;go_enter func114,ntmps114
 go_upto_region 1 with fail
 generalize w.alloc (.cells (Zp x o) 78)=w1 at p s k q |-;generalize w.heap.size=X at s |-;obtain⟨G,B,Q,V,U,H,W,T⟩:=Q6 s.out
 rw[h] at G
 obtain⟨a,l⟩:∃ a,iAt R.top.v x.a=some a:=by
  unfold RM.ins at i
  cases l:iAt R.top.v x.a with
  | none=>simp[h,l] at i
  | some a=>exact⟨a,Yz⟩
 have O:Hid (r=RM.nx { R with e:=R.e.shut a }):=by show _=_;unfold RM.ins at i;simp[h,l] at i;rw[<-i];simp[RM.on,RM.nx]
 obtain⟨j,ri,-,c,A,L,M,F⟩:=k.out.wordAt l
 rw[A] at B
 have q0:=k.out.cellE;clear Q V U H W T i h l A;go_upto_region 14 with fail
 refine Qoc q0 M B L F _ _ Yz (Xg (by kernel_rfl)) Yz Yz Yz ?_;rintro u J K d f y;show wpList _ u _ [_] (QN _ J [68,69,70,71,72,73,74,75,76,77,78,79]) K;simp only[QN,Act.put,List.setIfInBounds_toArray,List.set_cons_zero,List.set_cons_succ,d,f]
 have N:=Qc (k.out.below y);have P:=Qc (q.out.trans (k.out.stepB y));clear d f y k q p;have C:=Qc (N.out.shutC a);go_wp2_with (go_at_call 171;refine C.out.mono ?_;rintro e' w2 ⟨rfl,E⟩;have Z:=Qc (WTo.then P.out Yz Yz E);clear E C)
 exact Xz (v:=.tuple #[]) (by simp[results,results114,go_sem]) Yz (.inl ⟨_,O.out,Yz,Z.out⟩)
theorem Qmx (S:WAt w b most m R g) (I:ROk m n R) (hn:n<=900000){x:Qs}(s:IP) (h:x.op=13) (i:RM.ins aOp R x=some r) :
 Calls prog 114 #[Pv b 0,Pv g.t.c 0,.agg (Zp x s)] w fun e w'=>Qdi g w b most m r e w':=by
 have u:=Qc (ZO w (.cells (Zp x s) 78));have B:=Qc (Qe w (Zp x s) 78);have o:=Qc (S.below u.out);have A:=Qc (S.stepB u.out);have hl:R.top.v.length+1<=1000000:=by have:=(I.fr R.top (by simp)).1;omega
 have l:=I.out.1;have F:=I.inp;clear S I;go_enter func114,ntmps114
 go_upto_region 1 with fail
 generalize w.alloc (.cells (Zp x s) 78)=w1 at u B o A |-;generalize w.heap.size=X at B |-;obtain⟨M,J,V,x3,x4,N,x6,W⟩:=Q6 B.out
 rw[h] at M
 obtain⟨a,k⟩:∃ a,iAt R.top.v x.a=some a:=by
  unfold RM.ins at i
  cases k:iAt R.top.v x.a with
  | none=>simp[h,k] at i
  | some a=>exact⟨a,Yz⟩
 have z:Hid (r=if R.out.length<2000 then RM.nx { R with out:=R.out++[a] } else R.over 8):=by
  show _=_;unfold RM.ins at i;by_cases p:R.out.length<2000
  ·simp[h,k,p] at i;rw[Xs p,<-i];simp[RM.on,RM.nx]
  ·simp[h,k,p] at i;rw[Xr p];exact i.symm
 obtain⟨j,ri,-,c,G,Q,T,L⟩:=o.out.wordAt k
 rw[G] at J
 clear V x3 x4 N x6 W i h k G;go_upto_region 22 with fail
 refine Qn7 T J Q L _ _ Yz (Xg (by kernel_rfl)) Yz Yz Yz ?_;rintro D O P d f E;show wpList _ D _ [_] (QN _ O [132,133,134,135,136,137,138,139,140]) P;simp only[QN,Act.put,List.setIfInBounds_toArray,List.set_cons_zero,List.set_cons_succ,d,f]
 have U:=Qc (o.out.below E);have H:=Qc (A.out.trans (o.out.stepB E));clear d f E o A u;have C:=Qc (Qf2 U.out a l);go_wp2_with fail
 refine C.out.mono ?_;rintro e' w2 (⟨q,rfl,y⟩|⟨q,rfl,y⟩)
 ·have K:Hid (r=RM.nx { R with out:=R.out++[a] }):=by show _=_;rw[z.out,Xs q]
  have Z:=Qc (WTo.then H.out Yz Yz y);clear q y C z;go_wp2
  exact Xz (v:=.tuple #[]) (by simp[results,results114,go_sem]) Yz (.inl ⟨_,K.out,Yz,Z.out⟩)
 ·exact⟨Yz,.inr ⟨R,8,by rw[z.out,Xr q],Yz,WTo.then H.out Yz Yz y⟩⟩
theorem Qnc (S:WAt w b most m R g) (I:ROk m n R) (hn:n<=900000){x:Qs}(A:IP) (h:x.op=2) (i:RM.ins aOp R x=some r) :
 Calls prog 114 #[Pv b 0,Pv g.t.c 0,.agg (Zp x A)] w fun e w'=>Qdi g w b most m r e w':=by
 have J:=Qc (ZO w (.cells (Zp x A) 78));have G:=Qc (Qe w (Zp x A) 78);have l:=Qc (S.below J.out);have F:=Qc (S.stepB J.out);have O:R.top.v.length+1<=1000000:=by have:=(I.fr R.top (by simp)).1;omega
 have aa:=I.out.1;have M:=I.inp;clear S I;go_enter func114,ntmps114
 go_upto_region 1 with fail
 generalize w.alloc (.cells (Zp x A) 78)=L at J G l F |-;generalize w.heap.size=X at G |-;obtain⟨K,x1,x2,x3,x4,x5,x6,x7⟩:=Q6 G.out
 rw[h] at K
 obtain⟨a,d⟩:∃ a,iAt R.top.v x.a=some a:=by
  unfold RM.ins at i
  cases d:iAt R.top.v x.a with
  | none=>simp[h,d] at i
  | some a=>exact⟨a,Yz⟩
 obtain⟨y,o⟩:∃ y,iAt R.top.v x.b=some y:=by
  unfold RM.ins at i
  cases o:iAt R.top.v x.b with
  | none=>simp[h,d,o] at i
  | some y=>exact⟨y,Yz⟩
 have f:Hid (some r=match aOp x.k a y with | none=>some (R.over 1) | some n=>some (R.on [n])):=by show _=_;rw[<-i];unfold RM.ins;simp[h,d,o];cases aOp x.k a y<;>rfl
 obtain⟨j,ri,-,c,V,P,E,ck⟩:=l.out.wordAt d
 obtain⟨q,ab,-,c',W,Q,p,H⟩:=l.out.wordAt o
 rw[E] at p
 cases p
 rw[V] at x1
 rw[W] at x2
 have u:=Qc (fun C=>QlR x.k a y C);generalize x.k=xk at *;have D:=Qc O;clear x3 x5 x6 x7 i h d o V W O;obtain⟨U,s⟩:∃ U,R.top.v.length=U:=⟨_,Yz⟩
 rw[s] at E P Q
 clear s
 cases ho:aOp xk a y with
 | none =>
   rw[ho] at u f
   have B:Hid (r=R.over 1):=by show _=_;have:=f.out;simpa using this
   clear ho f;go_upto_region 6 with fail
   go_quiet ((go_at_call 136;exact Calls.quiet_of_same (u.out _)))
   go_wp2_with fail
   refine(Z2 _ _).mono ?_
   rintro T w' ⟨rfl,z⟩;subst z;exact⟨Yz,.inr ⟨R,1,B.out,Yz,WTo.then F.out Yz Yz (WTo.same l.out (Qah Zr _))⟩⟩
 | some n =>
   rw[ho] at u f
   have B:Hid (r=(R.push [n]).nx):=by show _=_;have:=f.out;simp at this;rw[this];rfl
   have N:=Qc (fun C (bx:Below L.heap.size L C)=>Qb7 (l.out.below bx) n D.out);clear ho f;go_upto_region 6 with fail
   go_quiet ((go_at_call 136;exact Calls.quiet_of_same (u.out _)))
   go_upto_region 8 with (go_at_call 111;refine(QaI _ _).mono ?_;rintro T w' ⟨rfl,z⟩;have z:=z.symm;subst z)
   clear u x1 x2 x4 ck H E P Q;go_wp2_with fail
   refine(N.out _ (Qah Zr _)).mono ?_
   rintro T w5 ⟨rfl,h5⟩;have Z:=Qc (WTo.then (F.out.trans (l.out.stepB (Qah Zr _))) Yz Yz h5);clear h5 N K;go_wp2
   exact Xz (v:=.tuple #[]) (by simp[results,results114,go_sem]) Yz (.inl ⟨_,B.out,Yz,Z.out⟩)
end
section
variable {w w' w2:World}{b most n:Nat}{m:List (MFunc 6)}{R R' r:RM}{g g1:WG}
theorem Qnb (S:WAt w b most m R g) (I:ROk m n R) (hn:n<=900000){x:Qs}(u:IP) (h:x.op=5){Q2:Nat->Prop}(hi:IIn w Q2 x u) (h8:x.args.length<=8) (p:RM.ins aOp R x=some r) :
 Calls prog 114 #[Pv b 0,Pv g.t.c 0,.agg (Zp x u)] w fun e w'=>Qdi g w b most m r e w':=by
 have Q:=Qc (ZO w (.cells (Zp x u) 78));have BX:=Qc (Qe w (Zp x u) 78);have B:=Qc (S.below Q.out);have V:=Qc (S.stepB Q.out);have hl:R.top.v.length+1<=1000000:=by have:=(I.fr R.top (by simp)).1;omega
 have af:=I.out.1;have ae:=I.inp;clear S I;go_enter func114,ntmps114
 go_upto_region 1 with fail
 generalize w.alloc (.cells (Zp x u) 78)=i at Q BX B V |-;generalize w.heap.size=X at BX |-;obtain⟨x0,x1,x2,x3,x4,x5,x6,x7⟩:=Q6 BX.out
 rw[h] at x0
 obtain⟨a,D⟩:∃ a,iAt R.top.v x.a=some a:=by
  unfold RM.ins at p
  cases D:iAt R.top.v x.a with
  | none=>simp[h,D] at p
  | some a=>exact⟨a,Yz⟩
 obtain⟨d,E⟩:∃ d,Qaz R.top.v x.args=some d:=by
  unfold RM.ins at p
  cases E:Qaz R.top.v x.args with
  | none=>simp[h,D,E] at p
  | some d=>exact⟨d,Yz⟩
 have N:Hid (r=R.thing a (if d.length=0 then 1 else (d.length:Int)) d):=by show _=_;unfold RM.ins at p;simp[h,D,E] at p;rw[<-p];congr 1;split<;>simp_all
 have aa:Hid (d.length=x.args.length):=Qag E;obtain⟨l,y⟩:∃ l,(if d.length=0 then 1 else (d.length:Int))=l:=⟨_,Yz⟩
 rw[y] at N
 have ac:=Qc y;obtain⟨j,ri,-,c,ej,hj,c3,ck⟩:=B.out.wordAt D
 rw[ej] at x1
 have H8:=Qc h8;have CA:Hid (∀ f,Below i.heap.size i f->Calls prog 167 #[Pv g.t.c 0,.slice u.pA x.args.length u.cA] f fun e w'=>Qm3 f d x.args.length e w'):=fun f C=>Qef (B.out.top.below C) (by omega) Yz (by have:=H8.out;omega) (Ya (Ya hi.args Q.out) C) E;have J:∀ x,g.A x->x<i.heap.size:=B.out.lt
 have CT:Hid (∀ f k,Below i.heap.size i f->i.heap.size<=k->QbP f (.slice (some ⟨k,0,none⟩) x.args.length x.args.length) d->Calls prog 172 #[Pv b 0,Iv a,.slice (some ⟨k,0,none⟩) x.args.length x.args.length] f fun e w'=>(e=.returned (Iv (R.e.getAt a l))/\(R.e.getCode a l=0/\WTo g i w' b most m (R.thinged a l d))/\Zk i f w')\/(∃ ch,e=.panicked ch/\(ch=QdA 6/\R.e.getCode a l≠0/\WTo g i w' b most m R))):=fun f k C hk hR=>by
  have U:g.ow k=0:=Xq.1 fun e=>by have:=J k e;omega
  have S6:=B.out.below C
  have HW:=hR.lin (O:=fun x=>g.ow x=0) (fun z hz=>by
   have:z=k:=by simpa[Value.ownBlock] using hz.symm
   rw[this];exact U)
  have:=Qhk S6 a aa.out (by have:=H8.out;omega) HW
  rw[ac.out] at this
  refine this.mono ?_;rintro e' w' (⟨o,rfl,g2,H,K,G,M⟩|⟨o,rfl,L⟩)
  ·exact .inl ⟨Yz,⟨o,WTo.then (B.out.stepB C) Yz Yz ⟨g2,H,K,G,M⟩⟩,K.zk J⟩
  ·exact .inr ⟨_,Yz,Yz,o,WTo.then (B.out.stepB C) Yz Yz L⟩
 have HL:=Qc hl;clear x2 x3 x4 x5 x6 p h D ej E hi h8 y hl;go_upto_region 16 with fail
 refine Qoi (fun w h=>h.2.choose_spec.2.1.size) c3 x1 hj ck x7 CA CT (fun w w' h b=>by obtain⟨w5,P,h6⟩:=h;exact⟨w5,P,h6.trans (b.mono h6.size)⟩) _ _ Yz (Xg (by kernel_rfl)) Yz Yz Yz ?_ ?_
 ·rintro ch a' w9 ad ⟨rfl,o,L⟩;exact⟨ad,.inr ⟨R,6,by rw[N.out];unfold RM.thing;rw[Xr o],Yz,WTo.then V.out Yz Yz L⟩⟩
 ·rintro ab vs w9 s ⟨k,q,hk,F⟩ ⟨w5,⟨o,L⟩,T⟩;show wpList _ ab _ [_] (QN _ vs [83,84,85,86,87,88,89,90,91,92,93,94,95,96,97,98]) w9;simp only[QN,Act.put,List.setIfInBounds_toArray,List.set_cons_zero,List.set_cons_succ,s,q]
  have E3:Hid (r=((R.thinged a l d).push [R.e.getAt a l]).nx):=by show _=_;rw[N.out];unfold RM.thing;rw[Xs o];rfl
  obtain⟨g2,H,K,G,M⟩:=L
  have C5:=Qc ((H.below T).makesC F HL.out);rw[G] at C5
  have W:=Qc (Xh (V.out.trans (K.trans (H.stepB T))) (Xh G M));clear o s q F hk H K G M T CA CT c3 ck x1 x7 N;go_wp2_with fail
  refine C5.out.mono ?_;rintro e' w7 ⟨rfl,P⟩;have Z:=Qc (WTo.then W.out.1 W.out.2.1 W.out.2.2 P);clear P C5 x0;go_wp2
  exact Xz (v:=.tuple #[]) (by simp[results,results114,go_sem]) Yz (.inl ⟨_,E3.out,Yz,Z.out⟩)
theorem Qnl (S:WAt w b most m R g) (I:ROk m n R) (hn:n<=900000){x:Qs}(P:IP) (h:x.op=8) (i:RM.ins aOp R x=some r) :
 Calls prog 114 #[Pv b 0,Pv g.t.c 0,.agg (Zp x P)] w fun e w'=>Qdi g w b most m r e w':=by
 have B1:=Qc (ZO w (.cells (Zp x P) 78));have BX:=Qc (Qe w (Zp x P) 78);have l:=Qc (S.below B1.out);have V:=Qc (S.stepB B1.out);have hl:R.top.v.length+1<=1000000:=by have:=(I.fr R.top (by simp)).1;omega
 have ad:=I.out.1;have ac:=I.inp;clear S I;go_enter func114,ntmps114
 go_upto_region 1 with fail
 generalize w.alloc (.cells (Zp x P) 78)=z at B1 BX l V |-;generalize w.heap.size=X at BX |-;obtain⟨x0,x1,x2,x3,x4,x5,x6,x7⟩:=Q6 BX.out
 rw[h] at x0
 obtain⟨a,p⟩:∃ a,iAt R.top.v x.a=some a:=by
  unfold RM.ins at i
  cases p:iAt R.top.v x.a with
  | none=>simp[h,p] at i
  | some a=>exact⟨a,Yz⟩
 obtain⟨y,B⟩:∃ y,iAt R.top.v x.b=some y:=by
  unfold RM.ins at i
  cases B:iAt R.top.v x.b with
  | none=>simp[h,p,B] at i
  | some y=>exact⟨y,Yz⟩
 have O:Hid (r=if 0<=y/\y<=15 then R.thing a (y+1) [y] else R.over 3):=by
  show _=_;unfold RM.ins at i;by_cases N:0<=y/\y<=15
  ·simp[h,p,B,N] at i;rw[Xs N];exact i.symm
  ·simp only[h,p,B] at i;simp[N] at i;rw[Xr N];exact i.symm
 obtain⟨j,ri,-,c,ej,hj,T,ck⟩:=l.out.wordAt p
 obtain⟨q,ae,-,c',eq,hq,E,H⟩:=l.out.wordAt B
 rw[T] at E
 cases E
 rw[ej] at x1
 rw[eq] at x2
 have U:∀ x,g.A x->x<z.heap.size:=l.out.lt
 have CT:Hid (∀ J,Below z.heap.size z J->Calls prog 173 #[Pv b 0,Iv a,Iv y] J fun e w'=>(e=.returned (Iv (R.e.getAt a (y+1)))/\(r=((R.thinged a (y+1) [y]).push [R.e.getAt a (y+1)]).nx/\WTo g z w' b most m (R.thinged a (y+1) [y]))/\Zk z J w')\/(∃ ch,e=.panicked ch/\(∃ k,ch=QdA k/\r=R.over k/\WTo g z w' b most m R))):=fun J K=>by
  refine(Qhi (l.out.below K) a y).mono ?_
  rintro e' w' (⟨L,s,⟨u,rfl,g2,F,G,D,M⟩|⟨u,rfl,o⟩⟩|⟨L,rfl,o⟩)
  ·exact .inl ⟨Yz,⟨by rw[O.out,Xs ⟨L,s⟩];unfold RM.thing;rw[Xs u];rfl,WTo.then (l.out.stepB K) Yz Yz ⟨g2,F,G,D,M⟩⟩,G.zk U⟩
  ·exact .inr ⟨_,Yz,6,Yz,by rw[O.out,Xs ⟨L,s⟩];unfold RM.thing;rw[Xr u],WTo.then (l.out.stepB K) Yz Yz o⟩
  ·exact .inr ⟨_,Yz,3,Yz,by rw[O.out,Xr L],WTo.then (l.out.stepB K) Yz Yz o⟩
 have HL:=Qc hl;clear x3 x4 x5 x6 x7 i h p B ej eq hl;go_upto_region 18 with fail
 refine Qn6 (fun w h=>h.2.choose_spec.2.1.size) T x1 hj ck x2 hq H CT (fun w w' h b=>by obtain⟨w5,Q,h6⟩:=h;exact⟨w5,Q,h6.trans (b.mono h6.size)⟩) _ _ Yz (Xg (by kernel_rfl)) Yz Yz Yz ?_ ?_
 ·rintro ch a' w9 ab ⟨k,rfl,s,u⟩;exact⟨ab,.inr ⟨R,k,s,Yz,WTo.then V.out Yz Yz u⟩⟩
 ·rintro aa vs w9 d ⟨k,f,hk,C⟩ ⟨w5,⟨s,u⟩,o⟩;show wpList _ aa _ [_] (QN _ vs [102,103,104,105,106,107,108,109,110,111,112,113,114,115,116,117,118,119,120,121]) w9;simp only[QN,Act.put,List.setIfInBounds_toArray,List.set_cons_zero,List.set_cons_succ,d,f]
  have E3:=Qc s;obtain⟨g2,F,G,D,M⟩:=u
  have C5:=Qc ((F.below o).makesC C HL.out);rw[D] at C5
  have W:=Qc (Xh (V.out.trans (G.trans (F.stepB o))) (Xh D M));clear s d f C hk F G D M o CT T ck H x1 x2 O;go_wp2_with fail
  refine C5.out.mono ?_;rintro e' w7 ⟨rfl,Q⟩;have Z:=Qc (WTo.then W.out.1 W.out.2.1 W.out.2.2 Q);clear Q C5 x0;go_wp2
  exact Xz (v:=.tuple #[]) (by simp[results,results114,go_sem]) Yz (.inl ⟨_,E3.out,Yz,Z.out⟩)
end
section
variable {w w' w2:World}{b most n:Nat}{m:List (MFunc 6)}{R R' r:RM}{g g1:WG}
theorem Qmz (S:WAt w b most m R g) (I:ROk m n R) (hn:n<=900000){x:Qs}(q:IP) (h:x.op=6) (f:R.part x=some r) :
 Calls prog 177 #[Pv b 0,Pv g.t.c 0,.agg (Zp x q)] w fun e w'=>Qdi g w b most m r e w':=by
 obtain⟨a,i⟩:∃ a,iAt R.top.v x.a=some a:=by
  unfold RM.part at f
  cases i:iAt R.top.v x.a with
  | none=>simp[i] at f
  | some a=>exact⟨a,Yz⟩
 have u:=Qc (ZO w (.cells (Zp x q) 78));have s:=Qc (Qe w (Zp x q) 78);have o:=Qc (S.below u.out);have z:=Qc (S.stepB u.out);have D:R.top.v.length+1<=1000000:=by have:=(I.fr R.top (by simp)).1;omega
 clear S I;go_enter func177,ntmps177
 go_upto_region 1 with fail
 generalize w.alloc (.cells (Zp x q) 78)=y at u s o z |-;generalize w.heap.size=X at s |-;obtain⟨p,J,V,x3,B,L,x6,W⟩:=Q6 s.out
 rw[h] at p
 obtain⟨j,ri,-,c,G,M,P,K⟩:=o.out.wordAt i
 rw[G] at J
 have U:Hid (r=(R.push [R.load (wrap64 (a+x.k))]).nx):=by show _=_;unfold RM.part at f;simp[h,i] at f;rw[<-f];rfl
 have Q:=Qc D;clear f h i G D V x3 L x6 W;obtain⟨F,d⟩:∃ F,R.top.v.length=F:=⟨_,Yz⟩
 rw[d] at *
 have O:=Qc d;clear d;go_quiet (fail)
 have l:=Qah (Below.refl y.heap.size y) nq;have E:=Qc (o.out.below l);have T:=Qc (z.out.trans (o.out.stepB l));replace p:=Qk p l;replace B:=Qk B l;clear J P M K o z u s;generalize y.drewN nq=w2 at *;clear l;have C:=Qc (QbR E.out (wrap64 (a+x.k)));go_wp2_with (go_at_call 220;refine C.out.mono ?_;rintro N w' ⟨rfl,A⟩;have A:=A.symm;subst A)
 refine(Qb7 E.out _ Q.out).mono ?_
 rintro N w5 ⟨rfl,H⟩;have Z:=Qc (WTo.then T.out Yz Yz H);clear H C p B;go_wp2
 exact Xz (v:=.tuple #[]) (by simp[results,results177,go_sem]) Yz (.inl ⟨_,U.out,Yz,Z.out⟩)
theorem Qmb (S:WAt w b most m R g) (I:ROk m n R) (hn:n<=900000){x:Qs}(o:IP) (h:x.op=11) (f:R.part x=some r) :
 Calls prog 177 #[Pv b 0,Pv g.t.c 0,.agg (Zp x o)] w fun e w'=>Qdi g w b most m r e w':=by
 obtain⟨a,i⟩:∃ a,iAt R.top.v x.a=some a:=by
  unfold RM.part at f
  cases i:iAt R.top.v x.a with
  | none=>simp[i] at f
  | some a=>exact⟨a,Yz⟩
 have s:=Qc (ZO w (.cells (Zp x o) 78));have p:=Qc (Qe w (Zp x o) 78);have k:=Qc (S.below s.out);have y:=Qc (S.stepB s.out);have A:R.top.v.length+1<=1000000:=by have:=(I.fr R.top (by simp)).1;omega
 clear S I;go_enter func177,ntmps177
 go_upto_region 1 with fail
 generalize w.alloc (.cells (Zp x o) 78)=u at s p k y |-;generalize w.heap.size=X at p |-;obtain⟨l,G,T,W,V,J,x6,U⟩:=Q6 p.out
 rw[h] at l
 obtain⟨j,ri,-,c,E,K,N,H⟩:=k.out.wordAt i
 rw[E] at G
 have Q:Hid (r=(R.push [R.load a]).nx):=by show _=_;unfold RM.part at f;simp[h,i] at f;rw[<-f];rfl
 have O:=Qc A;clear f h i E A T W V J x6 U;obtain⟨D,d⟩:∃ D,R.top.v.length=D:=⟨_,Yz⟩
 rw[d] at *
 have M:=Qc d;clear d;go_quiet (fail)
 have q:=Qah (Below.refl u.heap.size u) nq;have B:=Qc (k.out.below q);have P:=Qc (y.out.trans (k.out.stepB q));replace l:=Qk l q;clear G N K H k y s p;generalize u.drewN nq=w2 at *;clear q;have C:=Qc (QbR B.out a);go_wp2_with (go_at_call 220;refine C.out.mono ?_;rintro L w' ⟨rfl,z⟩;have z:=z.symm;subst z)
 refine(Qb7 B.out _ O.out).mono ?_
 rintro L w5 ⟨rfl,F⟩;have Z:=Qc (WTo.then P.out Yz Yz F);clear F C l;go_wp2
 exact Xz (v:=.tuple #[]) (by simp[results,results177,go_sem]) Yz (.inl ⟨_,Q.out,Yz,Z.out⟩)
theorem QmC (S:WAt w b most m R g) (I:ROk m n R) (hn:n<=900000){x:Qs}(F:IP) (h:x.op=7) (l:R.part x=some r) :
 Calls prog 177 #[Pv b 0,Pv g.t.c 0,.agg (Zp x F)] w fun e w'=>Qdi g w b most m r e w':=by
 obtain⟨a,u⟩:∃ a,iAt R.top.v x.a=some a:=by
  unfold RM.part at l
  cases u:iAt R.top.v x.a with
  | none=>simp[u] at l
  | some a=>exact⟨a,Yz⟩
 have J:=Qc (ZO w (.cells (Zp x F) 78));have H:=Qc (Qe w (Zp x F) 78);have z:=Qc (S.below J.out);have M:=Qc (S.stepB J.out);have T:R.top.v.length+1<=1000000:=by have:=(I.fr R.top (by simp)).1;omega
 clear S I;go_enter func177,ntmps177
 go_upto_region 1 with fail
 generalize w.alloc (.cells (Zp x F) 78)=L at J H z M |-;generalize w.heap.size=X at H |-;obtain⟨K,x1,G,x3,N,x5,x6,x7⟩:=Q6 H.out
 rw[h] at K
 obtain⟨j,ri,-,c,ej,hj,E,ck⟩:=z.out.wordAt u
 rw[ej] at x1
 obtain⟨y,A⟩:∃ y,iAt R.top.v x.b=some y:=by
  unfold RM.part at l
  cases A:iAt R.top.v x.b with
  | none=>simp[h,u, A] at l
  | some y=>exact⟨y,Yz⟩
 obtain⟨q,ac,-,cq,eq,hq,D,d⟩:=z.out.wordAt A
 rw[E] at D
 cases D
 rw[eq] at G
 have E2:Hid (r=(R.stored (wrap64 (a+x.k)) y).nx):=by show _=_;unfold RM.part at l;simp[h,u,A] at l;rw[<-l];simp[RM.on,RM.nx]
 have aa:=Qc d;clear A eq;have HL:=Qc T;clear l h u ej T x3 x5 x6 x7;obtain⟨W,s⟩:∃ W,R.top.v.length=W:=⟨_,Yz⟩
 rw[s] at *
 have ab:=Qc s;clear s;go_quiet (fail)
 have p:=Qah (Below.refl L.heap.size L) nq;have B:=Qc (z.out.below p);have T2:=Qc (M.out.trans (z.out.stepB p));replace K:=Qk K p;replace G:=Qk G p;replace N:=Qk N p;replace E:=Qk E p;replace d:=Qk d p;clear x1 ck z M J H;generalize L.drewN nq=w2 at *;clear p;have V:=B.out.cellE;have U:=B.out.cellP;go_upto_region 6 with fail
 refine wp6 V U E N G hq d _ _ Yz (Xg (by kernel_rfl)) Yz Yz Yz Yz ?_;rintro O vs w5 f o i P;show wpList _ O _ [_] (QN _ vs [30,31,32,33,34,35,36,37,38,39,40,41,42,43,44,45,46,47,48]) w5;simp only[QN,Act.put,List.setIfInBounds_toArray,List.set_cons_zero,List.set_cons_succ,f,o,i]
 have S5:=Qc (B.out.below P);have T5:=Qc (T2.out.trans (B.out.stepB P));clear f o i P B T2;have C:=Qc (S5.out.storeC (wrap64 (a+x.k)) y);clear S5 V U;go_wp2_with (go_at_call 221;refine C.out.mono ?_;rintro e' w7 ⟨rfl,Q⟩;have Z:=Qc (WTo.then T5.out Yz Yz Q);clear Q C)
 exact Xz (v:=.tuple #[]) (by simp[results,results177,go_sem]) Yz (.inl ⟨_,E2.out,Yz,Z.out⟩)
theorem QmA (S:WAt w b most m R g) (I:ROk m n R) (hn:n<=900000){x:Qs}(O:IP) (h:x.op=9) (l:R.part x=some r) :
 Calls prog 177 #[Pv b 0,Pv g.t.c 0,.agg (Zp x O)] w fun e w'=>Qdi g w b most m r e w':=by
 obtain⟨a,u⟩:∃ a,iAt R.top.v x.a=some a:=by
  unfold RM.part at l
  cases u:iAt R.top.v x.a with
  | none=>simp[u] at l
  | some a=>exact⟨a,Yz⟩
 have T:=Qc (ZO w (.cells (Zp x O) 78));have P:=Qc (Qe w (Zp x O) 78);have E:=Qc (S.below T.out);have T1:=Qc (S.stepB T.out);have hl:R.top.v.length+1<=1000000:=by have:=(I.fr R.top (by simp)).1;omega
 clear S I;go_enter func177,ntmps177
 go_upto_region 1 with fail
 generalize w.alloc (.cells (Zp x O) 78)=V at T P E T1 |-;generalize w.heap.size=X at P |-;obtain⟨K,x1,D,x3,x4,x5,x6,x7⟩:=Q6 P.out
 rw[h] at K
 obtain⟨j,ri,-,c,ej,hj,C,ck⟩:=E.out.wordAt u
 rw[ej] at x1
 obtain⟨y,B⟩:∃ y,iAt R.top.v x.b=some y:=by
  unfold RM.part at l
  cases B:iAt R.top.v x.b with
  | none=>simp[h,u, B] at l
  | some y=>exact⟨y,Yz⟩
 obtain⟨q,aa,-,cq,eq,hq,J,f⟩:=E.out.wordAt B
 rw[C] at J
 cases J
 rw[eq] at D
 have N:Hid (r=if 0<=y/\y<R.load a then (R.push [R.load (wrap64 (wrap64 (a+1)+y))]).nx else R.over 2):=by
  show _=_;unfold RM.part at l;by_cases i:0<=y/\y<R.load a
  ·simp[h,u,B,i] at l;rw[Xs i,<-l];rfl
  ·simp only[h,u,B] at l;simp[i] at l;rw[Xr i];exact l.symm
 clear B eq;have HL:=Qc hl;clear l h u ej hl x3 x4 x5 x6 x7;obtain⟨vl,z⟩:∃ vl,R.top.v.length=vl:=⟨_,Yz⟩
 rw[z] at *
 have ab:=Qc z;clear z;go_quiet (fail)
 have A:=Qah (Below.refl V.heap.size V) nq;have s:=Qc (E.out.below A);have T2:=Qc (T1.out.trans (E.out.stepB A));replace K:=Qk K A;replace D:=Qk D A;replace C:=Qk C A;replace f:=Qk f A;clear x1 ck E T1 T P;generalize V.drewN nq=L at *;clear A;have q0:=s.out.cellE;have qp:=s.out.cellP;have W:Hid (∀ o,Below L.heap.size L o->Calls prog 222 #[Pv b 0,Iv a,Iv y] o fun e w'=>Qld R a y e/\w'=o):=fun o bx=>Qci (s.out.below bx) a y;have CW:Hid (∀ o k,Below L.heap.size L o->Calls prog 220 #[Pv b 0,Iv k] o fun e w'=>e=.returned (Iv (R.load k))/\w'=o):=fun o k bx=>QbR (s.out.below bx) k;clear q0 qp;by_cases i:0<=y/\y<R.load a
 ·have U:Hid (r=(R.push [R.load (wrap64 (wrap64 (a+1)+y))]).nx):=by show _=_;rw[N.out,Xs i]
  have HC:=Qc i;clear i N;go_upto_region 8 with fail
  refine wp8 C D hq f W CW _ _ Yz (Xg (by kernel_rfl)) Yz Yz Yz Yz ?_ ?_
  ·rintro ch a' w9 H ⟨-,M,-⟩;exact absurd HC.out M
  ·rintro G vs w5 d - ⟨k,p,hk,F⟩ Q;show wpList _ G _ [_] (QN _ vs [52,53,54,55,56,57,58,59,60,61,62,63,64,65,66]) w5;simp only[QN,Act.put,List.setIfInBounds_toArray,List.set_cons_zero,List.set_cons_succ,d,p]
   have C5:=Qc ((s.out.below Q).makesC F HL.out);have T5:=Qc (T2.out.trans (s.out.stepB Q));clear d p Q s T2 W CW C D f F hk hq;go_wp2_with fail
   refine C5.out.mono ?_;rintro e' w7 ⟨rfl,h7⟩;have Z:=Qc (WTo.then T5.out Yz Yz h7);clear h7 C5 K;go_wp2
   exact Xz (v:=.tuple #[]) (by simp[results,results177,go_sem]) Yz (.inl ⟨_,U.out,Yz,Z.out⟩)
 ·have U:Hid (r=R.over 2):=by show _=_;rw[N.out,Xr i]
  have HC:Hid (¬ (0<=y/\y<R.load a)):=i;clear i N;go_upto_region 8 with fail
  refine wp8 C D hq f W CW _ _ Yz (Xg (by kernel_rfl)) Yz Yz Yz Yz ?_ ?_
  ·rintro ch a' w9 H ⟨rfl,M,b9⟩;exact⟨H,.inr ⟨R,2,U.out,Yz,WTo.then T2.out Yz Yz (WTo.same s.out b9)⟩⟩
  ·rintro G vs w5 d ⟨M,-⟩ _ Q;exact absurd M HC.out
theorem Qll (S:WAt w b most m R g) (I:ROk m n R) (hn:n<=900000){x:Qs}(U:IP) (h:x.op=10) (d:R.part x=some r) :
 Calls prog 177 #[Pv b 0,Pv g.t.c 0,.agg (Zp x U)] w fun e w'=>Qdi g w b most m r e w':=by
 obtain⟨a,p⟩:∃ a,iAt R.top.v x.a=some a:=by
  unfold RM.part at d
  cases p:iAt R.top.v x.a with
  | none=>simp[p] at d
  | some a=>exact⟨a,Yz⟩
 have B1:=Qc (ZO w (.cells (Zp x U) 78));have V:=Qc (Qe w (Zp x U) 78);have G:=Qc (S.below B1.out);have T1:=Qc (S.stepB B1.out);have hl:R.top.v.length+1<=1000000:=by have:=(I.fr R.top (by simp)).1;omega
 clear S I;go_enter func177,ntmps177
 go_upto_region 1 with fail
 generalize w.alloc (.cells (Zp x U) 78)=w1 at B1 V G T1 |-;generalize w.heap.size=X at V |-;obtain⟨x0,x1,H,K,x4,x5,x6,x7⟩:=Q6 V.out
 rw[h] at x0
 obtain⟨j,ri,-,c,ej,hj,F,ck⟩:=G.out.wordAt p
 rw[ej] at x1
 obtain⟨y,B⟩:∃ y,iAt R.top.v x.b=some y:=by
  unfold RM.part at d
  cases B:iAt R.top.v x.b with
  | none=>simp[h,p, B] at d
  | some y=>exact⟨y,Yz⟩
 obtain⟨q,ac,-,cq,eq,hq,O,f⟩:=G.out.wordAt B
 rw[F] at O
 cases O
 rw[eq] at H
 obtain⟨z,J⟩:∃ z,iAt R.top.v x.c=some z:=by
  unfold RM.part at d
  cases J:iAt R.top.v x.c with
  | none=>simp[h,p,B,J] at d
  | some z=>exact⟨z,Yz⟩
 obtain⟨s,aa,-,cs,es,hs,L,k⟩:=G.out.wordAt J
 rw[F] at L
 cases L
 rw[es] at K
 have T:Hid (r=if 0<=y/\y<R.load a then (R.stored (wrap64 (wrap64 (a+1)+y)) z).nx else R.over 2):=by
  show _=_;unfold RM.part at d;by_cases i:0<=y/\y<R.load a
  ·simp[h,p,B,J,i] at d;rw[Xs i,<-d];simp[RM.on,RM.nx]
  ·simp only[h,p,B,J] at d;simp[i] at d;rw[Xr i];exact d.symm
 clear B eq J es;have HL:=Qc hl;clear d h p ej hl x4 x5 x6 x7;obtain⟨vl,D⟩:∃ vl,R.top.v.length=vl:=⟨_,Yz⟩
 rw[D] at *
 have ab:=Qc D;clear D;go_quiet (fail)
 have o:=Qah (Below.refl w1.heap.size w1) nq;have E:=Qc (G.out.below o);have T2:=Qc (T1.out.trans (G.out.stepB o));replace x0:=Qk x0 o;replace H:=Qk H o;replace K:=Qk K o;replace F:=Qk F o;replace f:=Qk f o;replace k:=Qk k o;clear x1 ck G T1 B1 V;generalize w1.drewN nq=w2 at *;clear o;have q0:=E.out.cellE;have qp:=E.out.cellP;have CE:Hid (∀ P,Below w2.heap.size w2 P->Calls prog 222 #[Pv b 0,Iv a,Iv y] P fun e w'=>Qld R a y e/\w'=P):=fun P bx=>Qci (E.out.below bx) a y;by_cases i:0<=y/\y<R.load a
 ·have E3:Hid (r=(R.stored (wrap64 (wrap64 (a+1)+y)) z).nx):=by show _=_;rw[T.out,Xs i]
  have HC:=Qc i;clear i T;go_upto_region 10 with fail
  refine Qnw q0 qp F H hq f K hs k CE _ _ Yz (Xg (by kernel_rfl)) Yz Yz Yz Yz ?_ ?_
  ·rintro ch a' w9 N ⟨-,Q,-⟩;exact absurd HC.out Q
  ·rintro M vs w5 l ⟨-,u⟩ A W;show wpList _ M _ [_] (QN _ vs [70,71,72,73,74,75,76,77,78,79,80,81,82,83,84,85,86,87,88,89,90,91,92,93,94,95]) w5;simp only[QN,Act.put,List.setIfInBounds_toArray,List.set_cons_zero,List.set_cons_succ,l,u,A]
   have S5:=Qc (E.out.below W);have T5:=Qc (T2.out.trans (E.out.stepB W));clear l u A W E T2 CE F H K f k hq hs;have C:=Qc (S5.out.storeC (wrap64 (wrap64 (a+1)+y)) z);clear S5 q0 qp;go_wp2_with (go_at_call 221;refine C.out.mono ?_;rintro e' w7 ⟨rfl,h7⟩;have Z:=Qc (WTo.then T5.out Yz Yz h7);clear h7 C)
   exact Xz (v:=.tuple #[]) (by simp[results,results177,go_sem]) Yz (.inl ⟨_,E3.out,Yz,Z.out⟩)
 ·have E3:Hid (r=R.over 2):=by show _=_;rw[T.out,Xr i]
  have HC:Hid (¬ (0<=y/\y<R.load a)):=i;clear i T;go_upto_region 10 with fail
  refine Qnw q0 qp F H hq f K hs k CE _ _ Yz (Xg (by kernel_rfl)) Yz Yz Yz Yz ?_ ?_
  ·rintro ch a' w9 N ⟨rfl,Q,b9⟩;exact⟨N,.inr ⟨R,2,E3.out,Yz,WTo.then T2.out Yz Yz (WTo.same E.out b9)⟩⟩
  ·rintro M vs w5 l ⟨Q,-⟩ _ W;exact absurd Q HC.out
end
section
variable {w w' w2:World}{b most n:Nat}{m:List (MFunc 6)}{R R' r:RM}{g g1:WG}
def QmZ (g:WG) (w:World) (b most:Nat) (m:List (MFunc 6)) (R:RM) (f:Nat) (xs:List Int) (e:Ending) (w':World):Prop :=
 (R.rest.length+1<40/\e=.returned (.tuple #[])/\∃ g',WAt w' b most m { R with top:=⟨f,0,0,xs⟩,rest:=R.top::R.rest } g'/\WSt g g' w w'/\g'.fs=g.t::g.fs)\/(¬ R.rest.length+1<40/\e=.panicked (QdA 5)/\WTo g w w' b most m R)
theorem Qis (S:WAt w b most m R g) (I:ROk m n R) (hn:n<=900000){x:Qs}(r:IP){Q2:Nat->Prop}(hi:IIn w Q2 x r) (h8:x.args.length<=8)(hf:x.k=(f:Int))(N:R.rest.length+1<40->Qaz R.top.v x.args=some xs) :
 Calls prog 176 #[Pv b 0,Pv g.t.c 0,.agg (Zp x r)] w fun e w'=>QmZ g w b most m R f xs e w':=by
 have U:=Qc (ZO w (.cells (Zp x r) 78));have BX:=Qc (Qe w (Zp x r) 78);have d:=Qc (S.below U.out);have O:=Qc (S.stepB U.out);have hl:R.top.v.length+1<=1000000:=by have:=(I.fr R.top (by simp)).1;omega
 have G:=I.deep;have P:=Qc (Ya hi.args U.out);clear S I hi;go_enter func176,ntmps176
 go_upto_region 1 with fail
 generalize w.alloc (.cells (Zp x r) 78)=z at U BX d O P |-;generalize w.heap.size=X at BX |-;obtain⟨x0,x1,x2,x3,x4,x5,x6,x7⟩:=Q6 BX.out
 rw[hf] at x4
 clear x0 x1 x2 x3 x5 x6;obtain⟨A,dc,B,o,-⟩:=d.out.callsForm
 have E:z.cell? ⟨b,4,none⟩=some g.vc:=Qb d.out.box 4 _ Z;rw[B] at E
 by_cases i:R.rest.length+1<40
 ·have d0:decide (((R.rest.length+1:Nat):Int)<40)=true:=Xt (by omega);have N:=N i;have q:=Qc i
  have HR:Hid (∀ l,Below z.heap.size z l->l.ownsRow 0 130 1 (.slice (some ⟨A,0,none⟩) (R.rest.length+1) dc) (R.rest.length+1) (Qaw (g.t::g.fs))):=fun l M=>by
   have:=(d.out.below M).calls
   rwa [B] at this
  have CB:Hid (∀ l,Below z.heap.size z l->Calls prog 216 #[Pv g.t.c 0,Iv (f:Int),Iv 0,.slice r.pA x.args.length r.cA] l fun e w'=>Qmu l ⟨f,0,0,xs⟩ e w'):=fun l M=>QdK (d.out.top.below M) (by omega) Z (by omega) (Ya P.out M) N f 0;have aa:A<z.heap.size:=XC (ZU d.out.calls (x:=A) (by rw[B];rfl)).choose_spec;have s:Hid (g.vc.ownBlock=some A):=by show _=_;rw[B];rfl
  have F:R.rest.length+1<=100:=by omega
  obtain⟨L,a⟩:∃ L,R.rest.length+1=L:=⟨_,Z⟩
  have V:=Qc a;rw[a] at E d0 HR F
  clear N i P B o G hl a h8;go_upto_region 2 with (go_at_call 111;refine(QaI _ _).mono ?_;rintro e' w' ⟨rfl,H⟩;have H:=H.symm;subst H)
  refine wc2 HR aa F E x4 x7 CB (fun w w' h b=>Zt h b.size) _ _ Z (Xg (by kernel_rfl)) Z Z Z ?_ ?_
  ·rintro ch a' w9 ac ⟨⟩
  ·rintro ab vs w9 ⟨w5,c5,x5,n5,T,D,K,F5,Q,W,r3⟩ p J;obtain⟨v9,j⟩:∃ v9,vs 25=v9:=⟨_,Z⟩
   rw[j] at Q r3
   show wpList _ ab _ [_] (QN _ vs [13,14,15,16,17,18,19,20,21,22,23,24,25,26,27]) w9;simp only[QN,Act.put,List.setIfInBounds_toArray,List.set_cons_zero,List.set_cons_succ,j,p]
   have u:=d.out.pushFr T F5 D K (v9:=v9) (w9:=w9) (by rw[V.out];exact Q) (by rw[s.out];exact W) (fun k hk=>by rw[s.out];exact(r3 k hk).imp (fun e=>by rw[e]) id)
   have u:Hid (QmZ g w b most m R f xs (.returned (.tuple #[])) (w9.setCell ⟨b,4,none⟩ v9)):=by
    obtain⟨g',A',S',E'⟩:=u
    exact .inl ⟨q.out,Z,g',A',O.out.trans S',E'⟩
   have C:A≠b:=fun e=>by
    have h1:=d.out.oc A s.out;rw[e,d.out.ob] at h1
    omega
   have y:w9.heap[b]?=_:=(W.block b (by have:=XC d.out.box;have:=T.size;omega) (fun e=>C (by simpa using e.symm))).trans ((T.block b (XC d.out.box)).trans d.out.box);have c9:w9.cell? ⟨b,4,none⟩=some g.vc:=Qb y 4 _ Z;have z9:=Qj y 4;obtain⟨a9,d9,rfl⟩:=QaR Q
   clear j p Q W r3 y C F5 T D K CB HR E x4 x7 d O J;go_wp2
   exact Xz (v:=.tuple #[]) (by simp[results,results176,go_sem]) Z u.out
 ·have d0:decide (((R.rest.length+1:Nat):Int)<40)=false:=Xu (by omega);have q:Hid (¬ R.rest.length+1<40):=i;clear i P o G hl B h8;obtain⟨L,a⟩:∃ L,R.rest.length+1=L:=⟨_,Z⟩
  rw[a] at E d0
  clear a;go_wp2_with fail
  refine(Z2 _ _).mono ?_
  rintro e' w' ⟨rfl,H⟩;subst H;exact⟨Z,.inr ⟨q.out,Z,WTo.then O.out Z Z (WTo.same d.out Zr)⟩⟩
end
def QnR (b gc k cap:Nat) (t:Tmp) (v:Value) (w:World):Prop :=
 v=(([(0,Pv b 0),(13,Pv b 0),(14,Pv b 0),(15,Pv b 0),(16,Pv b 4),(17,.slice (some ⟨gc,0,none⟩) (k+1) cap),(18,Pv b 0),(19,Pv b 0),(20,Pv b 4),(21,.slice (some ⟨gc,0,none⟩) (k+1) cap),(22,Iv ((k:Int)+1)),(23,Iv (k:Int)),(24,.slice (some ⟨gc,0,none⟩) k cap),(25,Pv b 0),(26,Pv b 4)]:List (Tmp × Value)).lookup t).getD undef
theorem wg2 {b g:Nat}(l:w6.cell? ⟨b,4,none⟩=some (.slice (some ⟨g,0,none⟩) (k+1) cap)) (d:k+1<=cap) (o:k<=1000){Q:Exit->Act->World->Prop}
 (a:Act) (m:Nat) (r:a.tmps.size=m) (i:31<=m) (u:a.tmps.getD 0 undef=Pv b 0)
 (hend:∀ ops vs w',vs 24=.slice (some ⟨g,0,none⟩) k cap->vs 26=Pv b 4->Below w6.heap.size w6 w'->wpList prog ops Q (Qal 14 ((Tryz.f166.body.bind (Qi 2)).getD .skip)) (QN a vs [13,14,15,16,17,18,19,20,21,22,23,24,25,26]) w') :
 Code.wp prog ((Tryz.f166.body.bind (Qi 2)).getD .skip) Q a w6:=by
 conv=>arg 2;whnf
 refine Qg 14 (QnR b g k cap) (fun w=>Below w6.heap.size w6 w) (fun w w'=>Below w.heap.size w w') (outs:=[0]) (gs:=[]) (bs:=[true,true,true,true,true,true,true,true,true,true,true,true,true,true]) (by kernel_rfl) (n:=31) r i (by kernel_rfl) (by kernel_rfl) ?hR ?hG (QI Zr 1) ⟨u,Y⟩ ?hA ?hend
 case hR=>exact fun t v w w' _ h=>h
 case hG=>exact Y
 case hend=>exact fun ops vs w' e d=>hend ops vs w' (d 24 (by kernel_rfl)) (d 26 (by kernel_rfl)) e
 case hA =>
  refine⟨fun a w e d K f=>?_,?_⟩
  ·obtain⟨c,-⟩:=d
   have c:a.tmps.getD 0 undef=Pv b 0:=c;go_simp;exact f _ _ Zr e Z
  refine⟨fun a w e d K f=>?_,?_⟩
  ·obtain⟨c,-⟩:=d
   have c:a.tmps.getD 0 undef=Pv b 0:=c;go_simp;exact f _ _ Zr e Z
  refine⟨fun a w e d K f=>?_,?_⟩
  ·obtain⟨c,-⟩:=d
   have c:a.tmps.getD 14 undef=Pv b 0:=c;go_simp;exact f _ _ Zr e Z
  refine⟨fun a w e d K f=>?_,?_⟩
  ·obtain⟨c,-⟩:=d
   have c:a.tmps.getD 15 undef=Pv b 0:=c;go_simp;exact f _ _ Zr e Z
  refine⟨fun a w e d K f=>?_,?_⟩
  ·obtain⟨c,-⟩:=d
   have c:a.tmps.getD 16 undef=Pv b 4:=c;have s:=Qk l e;go_simp;exact f _ _ Zr e Z
  refine⟨fun a w e d K f=>?_,?_⟩
  ·obtain⟨c,-⟩:=d
   have c:a.tmps.getD 0 undef=Pv b 0:=c;go_simp;exact f _ _ Zr e Z
  refine⟨fun a w e d K f=>?_,?_⟩
  ·obtain⟨c,-⟩:=d
   have c:a.tmps.getD 18 undef=Pv b 0:=c;go_simp;exact f _ _ Zr e Z
  refine⟨fun a w e d K f=>?_,?_⟩
  ·obtain⟨c,-⟩:=d
   have c:a.tmps.getD 19 undef=Pv b 0:=c;go_simp;exact f _ _ Zr e Z
  refine⟨fun a w e d K f=>?_,?_⟩
  ·obtain⟨c,-⟩:=d
   have c:a.tmps.getD 20 undef=Pv b 4:=c;have s:=Qk l e;go_simp;exact f _ _ Zr e Z
  refine⟨fun a w e d K f=>?_,?_⟩
  ·obtain⟨c,-⟩:=d
   have c:a.tmps.getD 21 undef=.slice (some ⟨g,0,none⟩) (k+1) cap:=c;go_simp;exact f _ _ Zr e Z
  refine⟨fun a w e d K f=>?_,?_⟩
  ·obtain⟨c,-⟩:=d
   have c:a.tmps.getD 22 undef=Iv ((k:Int)+1):=c;have x:(k:Int)+1 - 1=k:=by omega
   go_simp;refine f _ _ Zr e ?_;show Value.int _ _=Value.int _ _;congr 1
   rw[IntKind.wrap_i64]
   omega
  refine⟨fun a w e d K f=>?_,?_⟩
  ·obtain⟨c,j,-⟩:=d
   have c:a.tmps.getD 17 undef=.slice (some ⟨g,0,none⟩) (k+1) cap:=c;have j:a.tmps.getD 23 undef=Iv (k:Int):=j;have p:(0:Int)<=k:=by omega
   have q:(k:Int)<=cap:=by omega
   go_simp;exact f _ _ Zr e Z
  refine⟨fun a w e d K f=>?_,?_⟩
  ·obtain⟨c,-⟩:=d
   have c:a.tmps.getD 13 undef=Pv b 0:=c;go_simp;exact f _ _ Zr e Z
  refine⟨fun a w e d K f=>?_,?_⟩
  ·obtain⟨c,-⟩:=d
   have c:a.tmps.getD 25 undef=Pv b 0:=c;go_simp;exact f _ _ Zr e Z
  trivial
def QjG (g:WG) (w:World) (b most:Nat) (m:List (MFunc 6)) (r:RM) (e:Ending) (w':World):Prop :=
 (e=.returned (.tuple #[])/\WGo g w w' b most m r)\/(∃ N k,r=N.over k/\e=.panicked (QdA k)/\WTo g w w' b most m N)
def RM.gave (R:RM) (l:List Int):RM:=match R.rest with
 | []=>{ R with done:=true,fin:=0,back:=l }
 | d::rest=>{ R with top:={ d with v:=d.v++l },rest:=rest }
section
variable {w w' w2:World}{b most n:Nat}{m:List (MFunc 6)}{R R' r:RM}{g g1:WG}
theorem QjG.then {e:Ending}(T:WSt g g1 w w2) (f:g1.t.c=g.t.c) (h:g1.fs=g.fs) (H:QjG g1 w2 b most m r e w'):QjG g w b most m r e w':=by
 rcases H with ⟨a,d⟩|⟨N,k,a,c,d⟩
 ·exact .inl ⟨a,WGo.then T d⟩
 ·exact .inr ⟨N,k,a,c,WTo.then T f h d⟩
theorem QbP.news {n:Nat}(h:QbP w (.slice (some ⟨k,0,none⟩) n c) xs):∀ (j:Nat) (u:Value),(xs.map (Value.int .i64))[j]?=some u->w.cell? ((⟨k,0,none⟩:Addr).add j)=some u:=fun j u d=>by
 rw[XS] at d
 obtain⟨y,b,rfl⟩:=Option.map_eq_some_iff.1 d
 have m:=(Zi b).1;obtain⟨a,o,e,l⟩:=h.cell
 obtain⟨i,f,-,g⟩:=l j m
 rw[Value.slice.injEq] at e
 have:i=k:=by have:=e.1.trans f;simpa using this.symm
 subst this;rw[Addr.add_lit,XK,g]
 simp[List.getD,b]
theorem QhW (S:WAt w b most m R g){n:Nat}(i:xs.length=n) (c:QbP w (.slice (some ⟨k,0,none⟩) n n) xs) (a:g.ow k=0/\g.lo<=k) :
 Calls prog 215 #[Pv b 0,.slice (some ⟨k,0,none⟩) n n] w fun e w'=>e=.panicked (QdA 0)/\WTo g w w' b most m { R with back:=xs }:=by
 have j:w.cell? ⟨b,6,none⟩=some g.vb:=Qb S.box 6 _ Yz;have o:=Qj S.box 6;obtain⟨p,l,d,-⟩:=S.back
 have Z:Hid (WTo g w (w.setCell ⟨b,6,none⟩ (.slice (some ⟨k,0,none⟩) n n)) b most m { R with back:=xs }):=by
  subst i;refine S.reBox (R':={ R with back:=xs }) Yz Yz Yz (by simp) (fun k a h=>Xd _ _ _ _ h) ⟨Yz,Yz,Yz,Yz⟩ (pi:=g.pi) (ci:=g.ci) (vb:=.slice (some ⟨k,0,none⟩) xs.length xs.length) ⟨S.inp,S.inpC⟩ (c.lin (fun x f=>?_)) ?_
  ·have:x=k:=by simpa[Value.ownBlock] using f.symm
   rw[this];exact a
  ·rw[Qh S.box 6 _]
   simp
 rw[d] at j
 clear S c a d;go_enter func215,ntmps215
 go_wp2
 exact⟨Yz,Yz,Z.out⟩
theorem Qi4 (S:WAt w b most m R g) (hd:R.rest.length<=39) (B:∀ d∈R.rest,d.v.length+8<=1000000){n:Nat}(hn:xs.length=n) (h8:n<=8) (G:QbP w (.slice (some ⟨k,0,none⟩) n n) xs) (F:g.ow k=0/\g.lo<=k) :
 Calls prog 166 #[Pv b 0,.slice (some ⟨k,0,none⟩) n n] w fun e w'=>QjG g w b most m (R.gave xs) e w':=by
 obtain⟨W,cap,O,h,-⟩:=S.callsForm
 have r:w.cell? ⟨b,4,none⟩=some g.vc:=Qb S.box 4 _ Yz;rw[O] at r
 have I:=Qc S
 cases hrest:R.rest with
 | nil =>
   have C:=Qc (QhW S hn G F);have U:Hid (R.gave xs=RM.over { R with back:=xs } 0):=by show _=_;unfold RM.gave RM.over;rw[hrest]
   rw[hrest] at r
   clear S G F hrest h O;go_enter func166,ntmps166
   go_wp2_with fail
   refine C.out.mono ?_;rintro e' w5 ⟨rfl,h5⟩;exact⟨Yz,.inr ⟨_,0,U.out,Yz,h5⟩⟩
 | cons d rest =>
   have U:Hid (R.gave xs=RM.push { R with top:=d,rest:=rest } xs):=by show _=_;unfold RM.gave RM.push;rw[hrest]
   have u:R.rest.length=rest.length+1:=by rw[hrest];simp
   have s:(((R.rest.length+1:Nat):Int)==1)=false:=by simp;omega
   have ab:=B d (by rw[hrest];simp);have A:=Qc hrest;have D:=Qc O;have HR:=Qc G;have HK:=Qc F;clear hrest S G F B O;obtain⟨N,o⟩:∃ N,R.rest.length=N:=⟨_,Yz⟩
   rw[o] at r h s hd
   have z:=Qc o;have V:=Qc u;clear u o;go_enter func166,ntmps166
   go_upto_region 2 with fail
   refine wg2 r h (by omega) _ _ Yz (Xg (by kernel_rfl)) Yz ?_;rintro X Q H l j J;show wpList _ X _ [_] (QN _ Q [13,14,15,16,17,18,19,20,21,22,23,24,25,26]) H;simp only[QN,Act.put,List.setIfInBounds_toArray,List.set_cons_zero,List.set_cons_succ,l,j]
   have K:=Qc (I.out.below J);have c4:H.cell? ⟨b,4,none⟩=some g.vc:=Qb K.out.box 4 _ Yz;have z4:=Qj K.out.box 4;rw[D.out] at c4
   have i:∃ y M,g.fs=y::M:=by
    have:=I.out.rows
    rw[A.out] at this
    cases hh:g.fs with
    | nil=>rw[hh] at this;simp at this
    | cons y M=>exact⟨y,M,Yz⟩
   obtain⟨y,M,i⟩:=i
   have PP:=K.out.pop i A.out (a:=some ⟨W,0,none⟩) (cap:=cap) D.out;rw[z.out] at PP
   obtain⟨g8,p,P,t8⟩:=PP
   have p:=Qc p;have P:=Qc ((I.out.stepB J).trans P)
   have f:Hid (QbP (H.setCell ⟨b,4,none⟩ (.slice (some ⟨W,0,none⟩) N cap)) (.slice (some ⟨k,0,none⟩) n n) xs):=QY HR.out (fun x L=>by
    have e:x=k:=by simpa[Value.ownBlock] using L.symm
    rw[Xd _ _ _ _ (fun (e2:x=b)=>by have h1:=I.out.ob;rw[<-e2,e,HK.out.1] at h1;omega)]
    exact J.block x (HR.out.lt L))
   clear l j J K r t8 i;go_upto_region 3 with fail
   generalize H.setCell ⟨b,4,none⟩ (.slice (some ⟨W,0,none⟩) N cap)=w8 at p P f |-;have CT:=Qc (QgF p.out (by show rest.length<=1000;have:=V.out;have:=z.out;omega))
   have CM:Hid (∀ E,Below w8.heap.size w8 E->Calls prog 169 #[Pv g8.t.c 0,.slice (some ⟨k,0,none⟩) n n] E fun e w'=>e=.returned (.tuple #[])/\WTo g8 E w' b most m (RM.push { R with top:=d,rest:=rest } xs)):=fun E bx =>
    Qb2 (p.out.below bx) hn (QbP.news (QY f.out (fun x L=>bx.block x (QbP.lt f.out L)))) (by show d.v.length+n<=1000000;omega)
   clear c4 z4;go_wp2_with (go_at_call 112;refine CT.out.mono ?_;rintro e' w9 ⟨rfl,T⟩)
   refine(CM.out w9 T).mono ?_
   rintro e' aa ⟨rfl,q⟩;have Z:Hid (WGo g w aa b most m (RM.push { R with top:=d,rest:=rest } xs)):=WGo.then (P.out.trans (p.out.stepB T)) q.go;clear q CM CT T;go_wp2
   exact Xz (v:=.tuple #[]) (by simp[results,results166,go_sem]) Yz (by rw[U.out];exact .inl ⟨Yz,Z.out⟩)
end
section
variable {w w' w2:World}{b most n:Nat}{m:List (MFunc 6)}{R R' r:RM}{g g1:WG}
theorem QlI {t:MTo}(h:R.to t=some r):∃ l,Qaz R.top.v t.args=some l/\r={ R with top:=⟨R.top.f,t.block.toNat,0,l⟩ }:=by
 unfold RM.to at h
 cases hl:Qaz R.top.v t.args with
 | none=>rw[hl] at h;cases h
 | some l=>rw[hl] at h;cases h;exact⟨l,Z,Z⟩
theorem Qkt (S:WAt w b most m R g) (I:ROk m n R) (hn:n<=900000){q:Nat}{x:ZE}{i:EP}{Q2:Nat->Prop}(EI:EIn w Q2 x i) (hx:x.form q=0) (f:R.endd x=some r) :
 Calls prog 113 #[Pv b 0,Pv g.t.c 0,.agg (QbU x i)] w fun e w'=>QjG g w b most m r e w':=by
 obtain⟨af,ad,J,T⟩:=Qfd hx
 have M:=Qc (ZO w (.cells (QbU x i) 84));have z:=Qc (Qe w (QbU x i) 84);have Q:=Qc (S.below M.out);have T1:=Qc (S.stepB M.out);have hl:R.top.v.length+1<=1000000:=by have:=(I.fr R.top (by simp)).1;omega
 have ab:=I.deep;have aa:Hid (∀ d∈R.rest,d.v.length+8<=1000000):=fun d hd=>by have:=(I.fr d (List.mem_cons_of_mem _ hd)).1;omega
 have P:Hid (∀ (t:MTo) (pr pa:Option Addr) (cr ca:Nat) (r':RM) p,t.form q true=0->QhB w Q2 t pr cr pa ca->Below w.heap.size w p->R.to t=some r'->Calls prog 168 #[Pv g.t.c 0,.agg #[Iv t.block,.slice pr t.regs.length cr,.slice pa t.args.length ca]] p fun e w'=>e=.returned (.tuple #[])/\QjG g w b most m r' (.returned (.tuple #[])) w'):=fun t pr pa cr ca r' p ht hi s he=>by
  obtain⟨l,h1,rfl⟩:=QlI he
  obtain⟨K,H,h4,E⟩:=Qec ht
  obtain⟨bi,ae⟩:=Xc K
  refine(Qh0 (S.below s) (by omega) ae (Ya hi.args s) (by omega) h1).mono ?_
  rintro e w' ⟨rfl,h⟩;exact⟨Yz,.inl ⟨Yz,(WTo.then (S.stepB s) Yz Yz h).go⟩⟩
 have o:=Qc EI;have O:=Qc (Xh J T);have U:Hid (∀ p G,Qaz R.top.v x.args=some G->Below w.heap.size w p->Calls prog 167 #[Pv g.t.c 0,.slice i.pA x.args.length i.cA] p fun e w'=>Qm3 p G x.args.length e w'):=fun p G h s=>Qef (S.top.below s) (by omega) Yz (by omega) (Ya EI.args s) h;have HS:=Qc S;clear S I EI hx J T;go_enter func113,ntmps113
 go_upto_region 2 with fail
 generalize w.alloc (.cells (QbU x i) 84)=A at M z Q T1 |-;generalize w.heap.size=X at z |-;have L:A.cell? ⟨X,0,none⟩=some (Iv x.op):=Qb z.out 0 _ Yz;have x1:A.cell? ⟨X,1,none⟩=some (Iv x.a):=Qb z.out 1 _ Yz;have x2:A.cell? ⟨X,2,none⟩=some (Iv x.yes.block):=Qb z.out 2 _ Yz;have x3:A.cell? ⟨X,3,none⟩=some (.slice i.pYR x.yes.regs.length i.cYR):=Qb z.out 3 _ Yz;have x4:A.cell? ⟨X,4,none⟩=some (.slice i.pYA x.yes.args.length i.cYA):=Qb z.out 4 _ Yz;have x5:A.cell? ⟨X,5,none⟩=some (Iv x.no.block):=Qb z.out 5 _ Yz;have x6:A.cell? ⟨X,6,none⟩=some (.slice i.pNR x.no.regs.length i.cNR):=Qb z.out 6 _ Yz;have x7:A.cell? ⟨X,7,none⟩=some (.slice i.pNA x.no.args.length i.cNA):=Qb z.out 7 _ Yz;have x8:A.cell? ⟨X,8,none⟩=some (.slice i.pA x.args.length i.cA):=Qb z.out 8 _ Yz;by_cases B:x.op=3
 ·obtain⟨G,D⟩:∃ G,Qaz R.top.v x.args=some G:=by
   unfold RM.endd at f
   cases hl:Qaz R.top.v x.args with
   | none=>simp[B,hl] at f
   | some l=>exact⟨l,Yz⟩
  have u:Hid (r=R.gave G):=by
   show _=_;unfold RM.endd at f;simp[B,D] at f
   unfold RM.gave
   cases hrest:R.rest with
   | nil=>rw[hrest] at f;simp at f;rw[<-f]
   | cons d rest=>rw[hrest] at f;simp at f;rw[<-f]
  have C:=Qc (U.out A G D M.out);have ac:Hid (G.length=x.args.length):=Qag D;rw[B] at L
  clear P U x1 x2 x3 x4 x5 x6 x7 f B D o O;go_wp2_with (go_at_call 167;refine C.out.mono ?_;rintro e' w5 ⟨k,rfl,hk,hR,b5⟩)
  have S5:=Q.out.below b5;have W:g.ow k=0/\g.lo<=k:=⟨Xq.1 fun e=>by have:=Q.out.lt _ e;omega,Zt Q.out.low hk⟩;refine(Qi4 S5 ab aa.out ac.out ad hR W).mono ?_
  rintro e' w6 hE;have F:=Qc (QjG.then (T1.out.trans (Q.out.stepB b5)) Yz Yz hE);rcases hE with ⟨rfl,-⟩|⟨N,k',-,rfl,-⟩
  ·clear C L x8 S5 hR b5 W hk;go_wp2
   exact Xz (v:=.tuple #[]) (by simp[results,results113,go_sem]) Yz (by rw[u.out];exact F.out)
  ·exact⟨Yz,by rw[u.out];exact F.out⟩
 by_cases H:x.op=2
 ·obtain⟨y,V⟩:∃ y,iAt R.top.v x.a=some y:=by
   unfold RM.endd at f
   cases hl:iAt R.top.v x.a with
   | none=>simp[H,hl] at f
   | some l=>exact⟨l,Yz⟩
  obtain⟨j,ri,-,c,ej,hj,c3,ck⟩:=Q.out.wordAt V
  rw[ej] at x1
  rw[H] at L
  by_cases K:y=0
  ·have u:R.to x.no=some r:=by unfold RM.endd at f;simp[H,V,K] at f;exact f
   have d0:(y==0)=true:=by simpa using K
   have C:=Qc (fun p s=>P.out x.no _ _ _ _ r p (O.out.2 H) o.out.no s u);clear P U x2 x3 x4 x8 f B V H u o O ej K;generalize R.top.v.length=vl at *;go_upto_region 4 with fail
   go_quiet (fail)
   go_wp2_with fail
   refine(C.out _ (Qah M.out _)).mono ?_
   rintro e' w5 ⟨rfl,E⟩;have Z:=Qc E;clear E C L x1 x5 x6 x7 c3 ck;go_wp2
   exact Xz (v:=.tuple #[]) (by simp[results,results113,go_sem]) Yz Z.out
  ·have u:R.to x.yes=some r:=by unfold RM.endd at f;simp[H,V,K] at f;exact f
   have d0:(y==0)=false:=by simpa using K
   have C:=Qc (fun p s=>P.out x.yes _ _ _ _ r p (O.out.1 B) o.out.yes s u);clear P U x5 x6 x7 x8 f B V H u o O ej K;generalize R.top.v.length=vl at *;go_upto_region 4 with fail
   go_quiet (fail)
   go_wp2_with fail
   refine(C.out _ (Qah M.out _)).mono ?_
   rintro e' w5 ⟨rfl,E⟩;have Z:=Qc E;clear E C L x1 x2 x3 x4 c3 ck;go_wp2
   exact Xz (v:=.tuple #[]) (by simp[results,results113,go_sem]) Yz Z.out
 ·have h1:x.op=1:=by omega
  have u:R.to x.yes=some r:=by unfold RM.endd at f;simp[h1] at f;exact f
  have C:=Qc (fun p s=>P.out x.yes _ _ _ _ r p (O.out.1 B) o.out.yes s u);rw[h1] at L
  clear P U x1 x5 x6 x7 x8 f B H h1 u o O;go_upto_region 4 with fail
  go_quiet (fail)
  go_wp2_with fail
  refine(C.out _ (Qah M.out _)).mono ?_
  rintro e' w5 ⟨rfl,E⟩;have Z:=Qc E;clear E C L x2 x3 x4;go_wp2
  exact Xz (v:=.tuple #[]) (by simp[results,results113,go_sem]) Yz Z.out
end
section
variable {w w' w2:World}{b most n:Nat}{m:List (MFunc 6)}{M M' N:IM}{sc sa:Int}{g g1:MG}{e:Ending}
theorem vsizeE:(prog.info? 84).map (·.size)=some 9:=by kernel_rfl
end
def Qn3 (b fu most:Nat) (t:Tmp) (v:Value) (w:World):Prop :=
 v=(([(0,Pv b 0),(4,Pv b 0),(5,Pv b 0),(6,Pv b 5),(7,Pv b 8),(8,Iv (fu:Int)),(9,Pv b 0),(10,Pv b 0),(11,Pv b 3),(12,Iv (most:Int)),(13,.bool (decide ((fu:Int)<most)))]:List (Tmp × Value)).lookup t).getD undef
theorem ws0 {b fu most:Nat}(j:w6.cell? ⟨b,8,none⟩=some (Iv (fu:Int))) (k:w6.cell? ⟨b,3,none⟩=some (Iv (most:Int))){Q:Exit->Act->World->Prop}
 (a:Act) (m:Nat) (l:a.tmps.size=m) (g:75<=m) (o:a.tmps.getD 0 undef=Pv b 0)
 (hend:∀ ops vs w',vs 13=.bool (decide ((fu:Int)<most))->Below w6.heap.size w6 w'->wpList prog ops Q (Qal 10 ((Tryz.f69.body.bind (Qi 0)).getD .skip)) (QN a vs [4,5,6,7,8,9,10,11,12,13]) w') :
 Code.wp prog ((Tryz.f69.body.bind (Qi 0)).getD .skip) Q a w6:=by
 conv=>arg 2;whnf
 refine Qg 10 (Qn3 b fu most) (fun w=>Below w6.heap.size w6 w) (fun w w'=>Below w.heap.size w w') (outs:=[0]) (gs:=[]) (bs:=[true,true,true,true,true,true,true,true,true,true]) (by kernel_rfl) (n:=75) l g (by kernel_rfl) (by kernel_rfl) ?hR ?hG (QI Zr 1) ⟨o,Y⟩ ?hA ?hend
 case hR=>exact fun t v w w' _ h=>h
 case hG=>exact Y
 case hend=>exact fun ops vs w' d e=>hend ops vs w' (e 13 (by kernel_rfl)) d
 case hA =>
  refine⟨fun a w d e K f=>?_,?_⟩
  ·obtain⟨c,-⟩:=e
   have c:a.tmps.getD 0 undef=Pv b 0:=c;go_simp;exact f _ _ Zr d Z
  refine⟨fun a w d e K f=>?_,?_⟩
  ·obtain⟨c,-⟩:=e
   have c:a.tmps.getD 4 undef=Pv b 0:=c;go_simp;exact f _ _ Zr d Z
  refine⟨fun a w d e K f=>?_,?_⟩
  ·obtain⟨c,-⟩:=e
   have c:a.tmps.getD 5 undef=Pv b 0:=c;go_simp;exact f _ _ Zr d Z
  refine⟨fun a w d e K f=>?_,?_⟩
  ·obtain⟨c,-⟩:=e
   have c:a.tmps.getD 6 undef=Pv b 5:=c;go_simp;exact f _ _ Zr d Z
  refine⟨fun a w d e K f=>?_,?_⟩
  ·obtain⟨c,-⟩:=e
   have c:a.tmps.getD 7 undef=Pv b 8:=c;have p:=Qk j d;go_simp;exact f _ _ Zr d Z
  refine⟨fun a w d e K f=>?_,?_⟩
  ·obtain⟨c,-⟩:=e
   have c:a.tmps.getD 0 undef=Pv b 0:=c;go_simp;exact f _ _ Zr d Z
  refine⟨fun a w d e K f=>?_,?_⟩
  ·obtain⟨c,-⟩:=e
   have c:a.tmps.getD 9 undef=Pv b 0:=c;go_simp;exact f _ _ Zr d Z
  refine⟨fun a w d e K f=>?_,?_⟩
  ·obtain⟨c,-⟩:=e
   have c:a.tmps.getD 10 undef=Pv b 0:=c;go_simp;exact f _ _ Zr d Z
  refine⟨fun a w d e K f=>?_,?_⟩
  ·obtain⟨c,-⟩:=e
   have c:a.tmps.getD 11 undef=Pv b 3:=c;have p:=Qk k d;go_simp;exact f _ _ Zr d Z
  refine⟨fun a w d e K f=>?_,?_⟩
  ·obtain⟨c,i,-⟩:=e
   have c:a.tmps.getD 8 undef=Iv (fu:Int):=c;have i:a.tmps.getD 12 undef=Iv (most:Int):=i;go_simp;refine f _ _ Zr d ?_;show Value.bool _=Value.bool _;congr 1
   first | rfl | (rw[decide_eq_decide];omega)
  trivial
def Qnz (w6:World) (b c g1 o1 nm cm fi g2 o2 nb cb bi:Nat) (bl:MBlock 6) (p:BP) (t:Tmp) (v:Value) (w:World):Prop :=
 match ([(3,fun v w=>∃ Z,v=.pointer (some ⟨Z,0,none⟩)/\w6.heap.size<=Z/\Blk w Z zeroB 86)]:List (Tmp × (Value->World->Prop))).lookup t with
 | some p=>p v w
 | none=>v=(([(0,.pointer (some ⟨b,0,none⟩)),(2,.pointer (some ⟨c,0,none⟩)),(26,.pointer (some ⟨b,0,none⟩)),(27,.pointer (some ⟨b,0,none⟩)),(28,.pointer (some ⟨b,1,none⟩)),(29,.pointer (some ⟨b,1,none⟩)),(30,.slice (some ⟨g1,o1,none⟩) nm cm),(31,.pointer (some ⟨c,0,none⟩)),(32,.pointer (some ⟨c,0,none⟩)),(33,.pointer (some ⟨c,0,none⟩)),(34,.int .i64 (fi:Int)),(35,.pointer (some ⟨g1,o1+fi*4,none⟩)),(36,.pointer (some ⟨g1,o1+fi*4+3,none⟩)),(37,.slice (some ⟨g2,o2,none⟩) nb cb),(38,.pointer (some ⟨c,0,none⟩)),(39,.pointer (some ⟨c,0,none⟩)),(40,.pointer (some ⟨c,1,none⟩)),(41,.int .i64 (bi:Int)),(42,.pointer (some ⟨g2,o2+bi*12,none⟩)),(43,.agg (Qgk bl p))]:List (Tmp × Value)).lookup t).getD undef
theorem ws3 {b o i r k l s A:Nat}{x:MBlock 6}{p:BP}(E:w6.cell? ⟨b,1,none⟩=some (.slice (some ⟨o,i,none⟩) r cm)) (G:w6.cell? ⟨c,0,none⟩=some (Iv (fi:Int))) (J:w6.cell? ⟨c,1,none⟩=some (Iv (bi:Int))) (P:w6.cell? ⟨o,i+fi*4+3,none⟩=some (.slice (some ⟨k,l,none⟩) s A)) (M:Hid (w6.rangeAt k (l+bi*12) (Qgk x p).toList)) (O:(fi:Int)<r) (I:(bi:Int)<s){Q:Exit->Act->World->Prop}
 (a:Act) (m:Nat) (L:a.tmps.size=m) (y:75<=m) (D:a.tmps.getD 0 undef=Pv b 0) (B:a.tmps.getD 2 undef=Pv c 0)
 (hend:∀ ops vs w',(fun v w=>∃ Z,v=Pv Z 0/\w6.heap.size<=Z/\Blk w Z zeroB 86) (vs 3) w'->vs 43=.agg (Qgk x p)->Below w6.heap.size w6 w'->wpList prog ops Q (Qal 19 ((Tryz.f69.body.bind (Qi 3)).getD .skip)) (QN a vs [26,27,28,29,30,31,32,33,34,35,36,37,38,39,40,41,42,43,3]) w') :
 Code.wp prog ((Tryz.f69.body.bind (Qi 3)).getD .skip) Q a w6:=by
 conv=>arg 2;whnf
 refine Qg 19 (Qnz w6 b c o i r cm fi k l s A bi x p) (fun w=>Below w6.heap.size w6 w) (fun w w'=>Below w.heap.size w w') (outs:=[0,2]) (gs:=[]) (bs:=[true,true,true,true,true,true,true,true,true,true,true,true,true,true,true,true,true,true,true]) (by kernel_rfl) (n:=75) L y (by kernel_rfl) (by kernel_rfl) ?hR ?hG (QI Zr 1) ⟨D,B,Y⟩ ?hA ?hend
 case hR =>
  intro t v w w' N h;unfold Qnz at h |-;split at h
  ·rename_i p u
   simp only[List.lookup_cons,List.lookup_nil] at u
   split at u
   ·cases u;exact(by obtain⟨Z,H,B,C⟩:=h;exact⟨Z,H,B,Blk.below C N⟩)
   ·cases u
  ·exact h
 case hG=>exact Y
 case hend=>exact fun ops vs w' e f=>hend ops vs w' (f 3 (by kernel_rfl)) (f 43 (by kernel_rfl)) e
 case hA =>
  refine⟨fun a w e f K g=>?_,?_⟩
  ·obtain⟨d,-⟩:=f
   have d:a.tmps.getD 0 undef=Pv b 0:=d;go_simp;exact g _ _ Zr e Yz
  refine⟨fun a w e f K g=>?_,?_⟩
  ·obtain⟨d,-⟩:=f
   have d:a.tmps.getD 26 undef=Pv b 0:=d;go_simp;exact g _ _ Zr e Yz
  refine⟨fun a w e f K g=>?_,?_⟩
  ·obtain⟨d,-⟩:=f
   have d:a.tmps.getD 27 undef=Pv b 0:=d;go_simp;exact g _ _ Zr e Yz
  refine⟨fun a w e f K g=>?_,?_⟩
  ·obtain⟨d,-⟩:=f
   have d:a.tmps.getD 28 undef=Pv b 1:=d;go_simp;exact g _ _ Zr e Yz
  refine⟨fun a w e f K g=>?_,?_⟩
  ·obtain⟨d,-⟩:=f
   have d:a.tmps.getD 29 undef=Pv b 1:=d;have z:=Qk E e;go_simp;exact g _ _ Zr e Yz
  refine⟨fun a w e f K g=>?_,?_⟩
  ·obtain⟨d,-⟩:=f
   have d:a.tmps.getD 2 undef=Pv c 0:=d;go_simp;exact g _ _ Zr e Yz
  refine⟨fun a w e f K g=>?_,?_⟩
  ·obtain⟨d,-⟩:=f
   have d:a.tmps.getD 31 undef=Pv c 0:=d;go_simp;exact g _ _ Zr e Yz
  refine⟨fun a w e f K g=>?_,?_⟩
  ·obtain⟨d,-⟩:=f
   have d:a.tmps.getD 32 undef=Pv c 0:=d;go_simp;exact g _ _ Zr e Yz
  refine⟨fun a w e f K g=>?_,?_⟩
  ·obtain⟨d,-⟩:=f
   have d:a.tmps.getD 33 undef=Pv c 0:=d;have z:=Qk G e;go_simp;exact g _ _ Zr e Yz
  refine⟨fun a w e f K g=>?_,?_⟩
  ·obtain⟨d,q,-⟩:=f
   have d:a.tmps.getD 30 undef=.slice (some ⟨o,i,none⟩) r cm:=d;have q:a.tmps.getD 34 undef=Iv (fi:Int):=q;go_simp;exact g _ _ Zr e Yz
  refine⟨fun a w e f K g=>?_,?_⟩
  ·obtain⟨d,-⟩:=f
   have d:a.tmps.getD 35 undef=Pv o (i+fi*4):=d;go_simp;exact g _ _ Zr e Yz
  refine⟨fun a w e f K g=>?_,?_⟩
  ·obtain⟨d,-⟩:=f
   have d:a.tmps.getD 36 undef=Pv o (i+fi*4+3):=d;have z:=Qk P e;go_simp;exact g _ _ Zr e Yz
  refine⟨fun a w e f K g=>?_,?_⟩
  ·obtain⟨d,-⟩:=f
   have d:a.tmps.getD 2 undef=Pv c 0:=d;go_simp;exact g _ _ Zr e Yz
  refine⟨fun a w e f K g=>?_,?_⟩
  ·obtain⟨d,-⟩:=f
   have d:a.tmps.getD 38 undef=Pv c 0:=d;go_simp;exact g _ _ Zr e Yz
  refine⟨fun a w e f K g=>?_,?_⟩
  ·obtain⟨d,-⟩:=f
   have d:a.tmps.getD 39 undef=Pv c 0:=d;go_simp;exact g _ _ Zr e Yz
  refine⟨fun a w e f K g=>?_,?_⟩
  ·obtain⟨d,-⟩:=f
   have d:a.tmps.getD 40 undef=Pv c 1:=d;have z:=Qk J e;go_simp;exact g _ _ Zr e Yz
  refine⟨fun a w e f K g=>?_,?_⟩
  ·obtain⟨d,q,-⟩:=f
   have d:a.tmps.getD 37 undef=.slice (some ⟨k,l,none⟩) s A:=d;have q:a.tmps.getD 41 undef=Iv (bi:Int):=q;go_simp;exact g _ _ Zr e Yz
  refine⟨fun a w e f K g=>?_,?_⟩
  ·obtain⟨d,-⟩:=f
   have d:a.tmps.getD 42 undef=Pv k (l+bi*12):=d;refine wp_load_mid 86 (.tmp 42) Yz k (l+bi*12) d (Qgk x p).toList _ (fun j v F=>Qk (M.out j v F) e) underlying86 Yz pSizeB ?_;exact g _ _ Zr e Yz
  refine⟨fun a w e f K g=>?_,?_⟩
  ·clear f;go_simp;exact g _ _ (ZO _ _) (e.trans ((ZO _ _).mono e.size)) ⟨_,Yz,e.size,Qe _ _ _⟩
  trivial
def QnS (b c Z gc oc nc cc i:Nat) (x:Qs) (ip:IP) (t:Tmp) (v:Value) (w:World):Prop :=
 v=(([(0,Pv b 0),(2,Pv c 0),(3,Pv Z 0),(57,Pv b 0),(58,Pv c 0),(59,Pv Z 2),(60,.slice (some ⟨gc,oc,none⟩) nc cc),(61,Pv c 0),(62,Pv c 0),(63,Pv c 2),(64,Iv (i:Int)),(65,Pv gc (oc+i*8)),(66,.agg (Zp x ip))]:List (Tmp × Value)).lookup t).getD undef
theorem ws6 {b Z l k p:Nat}{x:Qs}{o:IP}(D:w6.cell? ⟨Z,2,none⟩=some (.slice (some ⟨l,k,none⟩) p cc)) (z:w6.cell? ⟨c,2,none⟩=some (Iv (i:Int))) (C:Hid (w6.rangeAt l (k+i*8) (Zp x o).toList)) (hi:(i:Int)<p){Q:Exit->Act->World->Prop}
 (a:Act) (m:Nat) (B:a.tmps.size=m) (q:75<=m) (u:a.tmps.getD 0 undef=Pv b 0) (E:a.tmps.getD 2 undef=Pv c 0) (s:a.tmps.getD 3 undef=Pv Z 0)
 (hend:∀ ops vs w',vs 57=Pv b 0->vs 58=Pv c 0->vs 66=.agg (Zp x o)->Below w6.heap.size w6 w'->wpList prog ops Q (Qal 10 ((Tryz.f69.body.bind (Qi 6)).getD .skip)) (QN a vs [57,58,59,60,61,62,63,64,65,66]) w') :
 Code.wp prog ((Tryz.f69.body.bind (Qi 6)).getD .skip) Q a w6:=by
 conv=>arg 2;whnf
 refine Qg 10 (QnS b c Z l k p cc i x o) (fun w=>Below w6.heap.size w6 w) (fun w w'=>Below w.heap.size w w') (outs:=[0,2,3]) (gs:=[]) (bs:=[true,true,true,true,true,true,true,true,true,true]) (by kernel_rfl) (n:=75) B q (by kernel_rfl) (by kernel_rfl) ?hR ?hG (QI Zr 1) ⟨u,E,s,Y⟩ ?hA ?hend
 case hR=>exact fun t v w w' _ h=>h
 case hG=>exact Y
 case hend=>exact fun ops vs w' e f=>hend ops vs w' (f 57 (by kernel_rfl)) (f 58 (by kernel_rfl)) (f 66 (by kernel_rfl)) e
 case hA =>
  refine⟨fun a w e f K g=>?_,?_⟩
  ·obtain⟨d,-⟩:=f
   have d:a.tmps.getD 0 undef=Pv b 0:=d;go_simp;exact g _ _ Zr e Yz
  refine⟨fun a w e f K g=>?_,?_⟩
  ·obtain⟨d,-⟩:=f
   have d:a.tmps.getD 2 undef=Pv c 0:=d;go_simp;exact g _ _ Zr e Yz
  refine⟨fun a w e f K g=>?_,?_⟩
  ·obtain⟨d,-⟩:=f
   have d:a.tmps.getD 3 undef=Pv Z 0:=d;go_simp;exact g _ _ Zr e Yz
  refine⟨fun a w e f K g=>?_,?_⟩
  ·obtain⟨d,-⟩:=f
   have d:a.tmps.getD 59 undef=Pv Z 2:=d;have A:=Qk D e;go_simp;exact g _ _ Zr e Yz
  refine⟨fun a w e f K g=>?_,?_⟩
  ·obtain⟨d,-⟩:=f
   have d:a.tmps.getD 2 undef=Pv c 0:=d;go_simp;exact g _ _ Zr e Yz
  refine⟨fun a w e f K g=>?_,?_⟩
  ·obtain⟨d,-⟩:=f
   have d:a.tmps.getD 61 undef=Pv c 0:=d;go_simp;exact g _ _ Zr e Yz
  refine⟨fun a w e f K g=>?_,?_⟩
  ·obtain⟨d,-⟩:=f
   have d:a.tmps.getD 62 undef=Pv c 0:=d;go_simp;exact g _ _ Zr e Yz
  refine⟨fun a w e f K g=>?_,?_⟩
  ·obtain⟨d,-⟩:=f
   have d:a.tmps.getD 63 undef=Pv c 2:=d;have A:=Qk z e;go_simp;exact g _ _ Zr e Yz
  refine⟨fun a w e f K g=>?_,?_⟩
  ·obtain⟨d,r,-⟩:=f
   have d:a.tmps.getD 60 undef=.slice (some ⟨l,k,none⟩) p cc:=d;have r:a.tmps.getD 64 undef=Iv (i:Int):=r;go_simp;exact g _ _ Zr e Yz
  refine⟨fun a w e f K g=>?_,?_⟩
  ·obtain⟨d,-⟩:=f
   have d:a.tmps.getD 65 undef=Pv l (k+i*8):=d;refine wp_load_mid 78 (.tmp 65) Yz l (k+i*8) d (Zp x o).toList _ (fun j v y=>Qk (C.out j v y) e) underlying78 Yz pSizeN ?_;exact g _ _ Zr e Yz
  trivial
section
variable {w w' w2:World}{b most n:Nat}{m:List (MFunc 6)}{R R' r:RM}{g g1:WG}
theorem WAt.fuelC (S:WAt w b most m R g):WTo g w (w.setCell ⟨b,8,none⟩ (Iv ((R.fuel:Int)+1))) b most m { R with fuel:=R.fuel+1 }:=by
 refine S.reBox (R':={ R with fuel:=R.fuel+1 }) Z Z Z (by simp) (fun k c a=>Xd _ _ _ _ a) ⟨Z,Z,Z,Z⟩ (pi:=g.pi) (ci:=g.ci) (vb:=g.vb) ⟨S.inp,S.inpC⟩ S.back ?_;rw[Qh S.box 8 _]
 simp
theorem Qiz (S:WAt w b most m R g) (I:ROk m n R) (i:n<=900000){x:Qs}(a:IP) (h:x.op=6\/x.op=7\/x.op=9\/x.op=10\/x.op=11) (p:RM.ins aOp R x=some r) :
 Calls prog 114 #[Pv b 0,Pv g.t.c 0,.agg (Zp x a)] w fun e w'=>Qdi g w b most m r e w':=by
 have l:=Qc (ZO w (.cells (Zp x a) 78));have k:=Qc (Qe w (Zp x a) 78);have f:=Qc (S.below l.out);have o:=Qc (S.stepB l.out);have d:R.part x=some r:=by rw[<-p,Qap h]
 have C:Hid (Calls prog 177 #[Pv b 0,Pv g.t.c 0,.agg (Zp x a)] (w.alloc (.cells (Zp x a) 78)) fun e w'=>Qdi g (w.alloc (.cells (Zp x a) 78)) b most m r e w'):=by
  rcases h with h | h | h | h | h
  ·exact Qmz f.out I i a h d
  ·exact QmC f.out I i a h d
  ·exact QmA f.out I i a h d
  ·exact Qll f.out I i a h d
  ·exact Qmb f.out I i a h d
 have N:(x.op==1)=false:=by simp;omega
 have Q:(x.op==2)=false:=by simp;omega
 have P:(x.op==3)=false:=by simp;omega
 have K:(x.op==4)=false:=by simp;omega
 have M:(x.op==5)=false:=by simp;omega
 have O:(x.op==8)=false:=by simp;omega
 have y:(x.op==12)=false:=by simp;omega
 have B:(x.op==13)=false:=by simp;omega
 have F:(x.op==14)=false:=by simp;omega
 clear S I d p h;go_enter func114,ntmps114
 go_upto_region 1 with fail
 generalize w.alloc (.cells (Zp x a) 78)=H at l k f o C |-;generalize w.heap.size=X at k |-;obtain⟨q,E,u,D,A,s,G,z⟩:=Q6 k.out
 go_wp2_with fail
 refine C.out.mono ?_;rintro L J j;have Z:=Qc (Qdi.then o.out Yz Yz j);rcases j.cases with rfl | ⟨T,rfl⟩
 ·clear j C q E u D A s G z;go_wp2
  exact Xz (v:=.tuple #[]) (by simp[results,results114,go_sem]) Yz Z.out
 ·exact⟨Yz,Z.out⟩
theorem QmH (S:WAt w b most m R g) (I:ROk m n R) (G:n<=900000){x:Qs}(a:IP){K:Nat->Prop}(hi:IIn w K x a) (p:x.args.length<=8) (h:x.op=14)(s:x.k=(f:Int))(r:R.rest.length+1<40->Qaz R.top.v x.args=some xs) :
 Calls prog 114 #[Pv b 0,Pv g.t.c 0,.agg (Zp x a)] w fun e w'=>QmZ g w b most m R f xs e w':=by
 have i:=Qc (ZO w (.cells (Zp x a) 78));have o:=Qc (Qe w (Zp x a) 78);have y:=Qc (S.below i.out);have l:=Qc (S.stepB i.out);have C:=Qc (Qis y.out I G a (hi.below i.out) p s r);have W:(x.op==1)=false:=by simp;omega
 have d2:(x.op==2)=false:=by simp;omega
 have d3:(x.op==3)=false:=by simp;omega
 have T:(x.op==4)=false:=by simp;omega
 have V:(x.op==5)=false:=by simp;omega
 have d8:(x.op==8)=false:=by simp;omega
 have F:(x.op==12)=false:=by simp;omega
 have L:(x.op==13)=false:=by simp;omega
 have O:(x.op==14)=true:=by simp;omega
 clear S I r hi p s h;go_enter func114,ntmps114
 go_upto_region 1 with fail
 generalize w.alloc (.cells (Zp x a) 78)=Q at i o y l C |-;generalize w.heap.size=X at o |-;obtain⟨z,N,E,M,J,A,P,H⟩:=Q6 o.out
 go_wp2_with fail
 refine C.out.mono ?_;rintro U B (⟨d,rfl,D,j,q,u⟩|⟨d,rfl,j⟩)
 ·have Z:Hid (QmZ g w b most m R f xs (.returned (.tuple #[])) B):=.inl ⟨d,Yz,D,j,l.out.trans q,u⟩;clear d j q u C z N E M J A P H;go_wp2
  exact Xz (v:=.tuple #[]) (by simp[results,results114,go_sem]) Yz Z.out
 ·exact⟨Yz,.inr ⟨d,Yz,WTo.then l.out Yz Yz j⟩⟩
theorem QjJ (S:WAt w b most m R g) (I:ROk m n R) (f:n<=900000){x:Qs}(a:IP){i:Nat->Prop}(hi:IIn w i x a) (j:x.form m.length=0) (o:x.op≠14) (d:RM.ins aOp R x=some r) :
 Calls prog 114 #[Pv b 0,Pv g.t.c 0,.agg (Zp x a)] w fun e w'=>Qdi g w b most m r e w':=by
 obtain⟨p,k,-⟩:=QcK j
 have l:x.op=1\/x.op=2\/x.op=3\/x.op=4\/x.op=5\/x.op=8\/x.op=12\/x.op=13\/(x.op=6\/x.op=7\/x.op=9\/x.op=10\/x.op=11):=by omega
 rcases l with h | h | h | h | h | h | h | h | h
 ·exact Qnj S I f a h d
 ·exact Qnc S I f a h d
 ·exact Qni S I f a h d
 ·exact Qm7 S I f a h d
 ·exact Qnb S I f a h hi (k h) d
 ·exact Qnl S I f a h d
 ·exact QmO S I f a h d
 ·exact Qmx S I f a h d
 ·exact Qiz S I f a h d
end
section
variable {w w' w2:World}{b most n:Nat}{m:List (MFunc 6)}{R R' r:RM}{g g1:WG}
def QnD (g:WG) (w:World) (b most:Nat) (m:List (MFunc 6)) (r:RM) (e:Ending) (w':World):Prop :=
 (e=.returned (.tuple #[])/\WGo g w w' b most m r)\/(∃ N k,r=N.over k/\e=.panicked (QdA k)/\WTo g w w' b most m N)
theorem QjG.stp {e:Ending}(T:WSt g g1 w w2) (a:g1.t.c=g.t.c) (d:g1.fs=g.fs) (H:QjG g1 w2 b most m r e w'):QnD g w b most m r e w':=H.then T a d
theorem Qjn (S:WAt w b most m R g) (I:ROk m n R) (hn:n<=800000) (hm:(modFault m).1=0) (bi:R.fuel<=most) (bh:most<=100000) (hr:RM.step m aOp most R=some r) :
 Calls prog 69 #[Pv b 0] w fun e w'=>QnD g w b most m r e w':=by
 obtain⟨-,fn,o,hf,hb,hi⟩:=I.fr R.top (by simp)
 have hR:=(Zn hm).2 fn (Zm hf);have hB:=hR.blocks o (Zm hb);have al:=(Zn hm).1.2
 have E:Hid (some r=if R.fuel=most then some (R.over 7) else match o.code[R.top.i]? with | some x=>RM.ins aOp { R with fuel:=R.fuel+1 } x | none=>RM.endd { R with fuel:=R.fuel+1 } o.fin):=by
  show _=_;rw[<-hr]
  unfold RM.step;rw[hf]
  simp only
  rw[hb]
  rfl
 have I1:ROk m n { R with fuel:=R.fuel+1 }:=⟨I.est,I.fr,I.inp,I.out,I.deep⟩;have q8:w.cell? ⟨b,8,none⟩=some (Iv R.fuel):=Qb S.box 8 _ Yz;have q3:w.cell? ⟨b,3,none⟩=some (Iv most):=Qb S.box 3 _ Yz;have HS:=Qc S;have HK:=Qc I1;have z:=Qc (Xh hf hb);have X:=Qc (Xh hR hB);have HM:=Qc hm;have HI:=Qc hi;have HN:=Qc (Xh hn al);clear S I I1 hf hb hR hB hm hi hn al hr;go_enter func69,ntmps69
 go_upto_region 0 with fail
 refine ws0 q8 q3 _ _ Yz (Xg (by kernel_rfl)) Yz ?_;rintro A vs w5 P b5;show wpList _ A _ [_] (QN _ vs [4,5,6,7,8,9,10,11,12,13]) w5;simp only[QN,Act.put,List.setIfInBounds_toArray,List.set_cons_zero,List.set_cons_succ,P]
 have B5:=Qc b5;clear P b5 q8 q3;by_cases D:R.fuel=most
 ·have d1:decide ((R.fuel:Int)<most)=false:=Xu (by omega);have E2:Hid (r=R.over 7):=by show _=_;have:=E.out;rw[Xs D] at this;cases this;rfl
  rw[d1]
  clear E d1 D;go_wp2_with fail
  refine(Z2 _ _).mono ?_
  rintro e' w' ⟨rfl,hw⟩;subst hw;exact⟨Yz,.inr ⟨R,7,E2.out,Yz,WTo.same HS.out B5.out⟩⟩
 have d1:decide ((R.fuel:Int)<most)=true:=Xt (by omega);have E2:Hid (some r=match o.code[R.top.i]? with | some x=>RM.ins aOp { R with fuel:=R.fuel+1 } x | none=>RM.endd { R with fuel:=R.fuel+1 } o.fin):=by show _=_;have:=E.out;rw[Xr D] at this;exact this
 rw[d1]
 clear E d1 D;have S5:=Qc (HS.out.below B5.out);have q8:w5.cell? ⟨b,8,none⟩=some (Iv R.fuel):=Qb S5.out.box 8 _ Yz;have z8:=Qj S5.out.box 8;obtain⟨L,T,T6,c6,f6⟩:=S5.out.fuelC
 have T:=Qc T;have T6:=Qc ((HS.out.stepB B5.out).trans T6);have s:=Qc (Xh c6 f6);have bk:R.fuel<=100000:=by omega
 clear S5 c6 f6 B5;generalize an:({ R with fuel:=R.fuel+1 }:RM)=q at T E2 HK;have d:Hid (q.top=R.top/\q.rest=R.rest):=by subst an;exact⟨Yz,Yz⟩
 clear an;generalize R.fuel=fu at *;go_upto_region 2 with (go_at_call 111;refine(QaI _ _).mono ?_;rintro e' w' ⟨rfl,hw⟩;have hw:=hw.symm;subst hw)
 generalize w5.setCell ⟨b,8,none⟩ (Iv ((fu:Int)+1))=w6 at T T6 |-;clear q8 z8;have bg:q.rest.length<=39:=HK.out.deep;have CT:=Qc (QgF T.out (by omega));go_upto_region 3 with (go_at_call 112;refine CT.out.mono ?_;rintro e' w7 ⟨rfl,b7⟩)
 have S7:=Qc (T.out.below b7);have T7:=Qc (T6.out.trans (T.out.stepB b7));clear b7 CT T T6;obtain⟨a9,o1,fA,e1,E1,au⟩:=Qfr S7.out.mod (by exact z.out.1)
 obtain⟨bc,o2,p,e2,a0,aj⟩:=Qeu au.blocks (by exact z.out.2)
 have r3:w7.cell? ⟨a9,o1+R.top.f*4+3,none⟩=some (.slice fA.pB fn.blocks.length fA.cB):=E1 3 _ Yz;rw[e2] at r3
 have q1:w7.cell? ⟨b,1,none⟩=some (.slice L.pm m.length L.cm):=Qb S7.out.box 1 _ Yz;rw[e1] at q1
 have f0:w7.cell? ⟨L.t.c,0,none⟩=some (Iv R.top.f):=by have:=Qb S7.out.top.1 0 _ Yz;rw[d.out.1] at this;exact this
 have f1:w7.cell? ⟨L.t.c,1,none⟩=some (Iv R.top.b):=by have:=Qb S7.out.top.1 1 _ Yz;rw[d.out.1] at this;exact this
 have ax:(R.top.f:Int)<m.length:=by have:=(Zi z.out.1).1;omega
 have ae:(R.top.b:Int)<fn.blocks.length:=by have:=(Zi z.out.2).1;omega
 have a3:=Qc aj;have aq:Hid (w7.rangeAt bc (o2+R.top.b*12) (Qgk o p).toList):=a0;clear E1 au a0 aj e1 e2;refine ws3 q1 f0 f1 r3 aq ax ae _ _ Yz (Xg (by kernel_rfl)) Yz Yz ?_;rintro A vs w8 ⟨Z,ag,hZ,U⟩ K b8;show wpList _ A _ [_] (QN _ vs [26,27,28,29,30,31,32,33,34,35,36,37,38,39,40,41,42,43,3]) w8;simp only[QN,Act.put,List.setIfInBounds_toArray,List.set_cons_zero,List.set_cons_succ,ag,K]
 have BZ:=Qc (QmP U o p);have B9:=Qc (QeH hZ (Qgk o p).toList 0 b8);have TH:=Qc (QjO U Yz o p);have SZ:=Qc (show (prog.info? 86).map (·.size)=some (Qgk o p).size from pSizeB);have ON:=Qc (Qml o p);obtain⟨cs,ab⟩:∃ cs,Qgk o p=cs:=⟨_,Yz⟩
 rw[ab] at BZ B9 TH SZ ON |-
 have EC:=Qc ab;clear ab ag K b8 U q1 f0 f1 r3 aq ax ae;go_upto_region 4 with (refine wpList_store_mid Yz 86 (.tmp 3) (.tmp 43) Yz Z 0 cs Yz Yz TH.out SZ.out ON.out ?_)
 generalize w8.setCells Z 0 cs.toList=G at BZ B9 |-;obtain rfl:=EC.out;have W:=Qc (S7.out.below B9.out);have T9:=Qc (T7.out.trans (S7.out.stepB B9.out));have y:=Qc (a3.out.below B9.out);clear TH SZ ON EC B9 a3 S7 T7 hZ;have f2:G.cell? ⟨L.t.c,2,none⟩=some (Iv R.top.i):=by have:=Qb W.out.top.1 2 _ Yz;rw[d.out.1] at this;exact this
 have z2:G.cell? ⟨Z,2,none⟩=some (.slice p.pC o.code.length p.cC):=Qb BZ.out 2 _ Yz;have Ka:Hid (ROk m n q):=HK.out;have aw:=HI.out;by_cases ac:R.top.i=o.code.length
 ·have hc:((R.top.i:Int)==(o.code.length:Int))=true:=by simp[ac]
  have J:q.endd o.fin=some r:=by have:=E2.out;rw[Xk (by omega)] at this;exact this.symm
  go_quiet (fail)
  have a:=Qah (Below.refl G.heap.size G) nq;have Sa:=W.out.below a;have Ta:=Qc (T9.out.trans (W.out.stepB a));have a2:=Blk.below BZ.out a;have CE:=Qc (Qkt Sa Ka.out (by have:=HN.out.1;omega) (y.out.below a).fin X.out.2.fin J)
  have RE:Hid ((G.drewN nq).rangeAt Z 3 (QbU o.fin p.e).toList):=fun j v hj=>by
   have:(Qgk o p)[3+j]?=some v:=by
    rw[<-Array.getElem?_toList,Nat.add_comm]
    exact hj
   exact Qb a2 (3+j) v this
  clear ac hc E2 aw a Sa a2 f2 z2 W T9 BZ y J;generalize G.drewN nq=wa at *;go_wp2_with (refine wpList_load_mid Yz 84 (.tmp 54) Yz Z 3 Yz (QbU o.fin p.e).toList _ RE.out underlying84 Yz vsizeE ?_)
  refine CE.out.mono ?_;rintro e' wb H;have F:=Qc (QjG.stp Ta.out s.out.1 s.out.2 H);rcases H with ⟨rfl,-⟩|⟨N,k,-,rfl,-⟩
  ·clear CE RE;go_wp2
   exact Xz (v:=.tuple #[]) (by simp[results,results69,go_sem]) Yz F.out
  ·exact⟨Yz,F.out⟩
 have hc:((R.top.i:Int)==(o.code.length:Int))=false:=by simp;omega
 have ai:R.top.i<o.code.length:=by omega
 obtain⟨x,hx⟩:∃ x,o.code[R.top.i]?=some x:=⟨_,Zg ai⟩
 have J:Hid (RM.ins aOp q x=some r):=by show _=_;have:=E2.out;rw[hx] at this;exact this.symm
 have am:=X.out.2.code x (Zm hx);have bm:=X.out.2.codes;go_quiet (fail)
 have a:=Qah (Below.refl G.heap.size G) nq;have Sa:=Qc (W.out.below a);have Ta:=Qc (T9.out.trans (W.out.stepB a));have ay:=y.out.below a;replace z2:=Qk z2 a;replace f2:=Qk f2 a;clear W T9 BZ y a;generalize G.drewN nq=wa at *;obtain⟨gc,oc,ip,ec,av,ar⟩:=QiB ay.code hx
 rw[ec] at z2
 have af:Hid (wa.rangeAt gc (oc+R.top.i*8) (Zp x ip).toList):=av;have a1:=Qc ar;have HX:=Qc am;have ak:=Qc ai;clear hc ac E2 hx av ar am aw ec ay;go_upto_region 6 with fail
 refine ws6 z2 f2 af (by omega) _ _ Yz (Xg (by kernel_rfl)) Yz Yz Yz ?_;rintro A ba wb Q M O bb;show wpList _ A _ [_] (QN _ ba [57,58,59,60,61,62,63,64,65,66]) wb;simp only[QN,Act.put,List.setIfInBounds_toArray,List.set_cons_zero,List.set_cons_succ,Q,M,O]
 have Sb:=Qc (Sa.out.below bb);have Tb:=Qc (Ta.out.trans (Sa.out.stepB bb));have ao:=Qc (a1.out.below bb);clear Q M O bb z2 f2 af Sa Ta a1;by_cases u:x.op=14
 ·obtain⟨-,-,ad⟩:=QcK HX.out
  obtain⟨ah,be,a7,az⟩:=ad u
  obtain⟨k,hk⟩:=Xc ah
  obtain⟨xs,aa⟩:∃ xs:List Int,(q.rest.length+1<40->Qaz q.top.v x.args=some xs)/\r=if q.rest.length+1<40 then { q with top:=⟨k,0,0,xs⟩,rest:={ q.top with i:=q.top.i+1 }::q.rest } else q.over 5:=by
   have H:=J.out;unfold RM.ins at H;by_cases h:q.rest.length+1<40
   ·cases hv:Qaz q.top.v x.args with
    | none=>simp[u,h,hv] at H
    | some l =>
      simp[u,h,hv] at H
      refine⟨l,fun _=>rfl,?_⟩
      rw[Xs h,<-H,hk]
      rfl
   ·simp[u,h] at H
    exact⟨[],fun h'=>absurd h' h,by rw[Xr h];exact H.symm⟩
  have CI:=Qc (QmH Sb.out Ka.out (by have:=HN.out.1;omega) ip ao.out az u hk aa.1);have E4:=Qc aa.2;have a4:q.top.i<=100:=by rw[d.out.1];have:=ak.out;omega
  clear hk ah be a7 az ad u J aa;go_wp2_with fail
  refine CI.out.mono ?_;rintro e' wc (⟨C,rfl,g',B,V,h4⟩|⟨C,rfl,B⟩)
  ·have F2:=B.frs;rw[h4] at F2
   have fc:=F2.2.1.1;have y2:wc.cell? ⟨L.t.c,2,none⟩=some (Iv q.top.i):=Qb fc.1 2 _ Yz;have ap:=Qj fc.1 2;obtain⟨g8,S8,T8⟩:=B.next2 h4 Yz
   have Z8:Hid (WGo g w (wc.setCell ⟨L.t.c,2,none⟩ (Iv ((q.top.i:Int)+1))) b most m r):=by
    refine⟨g8,?_,(Tb.out.trans V).trans T8⟩
    rw[E4.out,Xs C]
    exact S8
   clear CI C B V h4 F2 fc S8 T8 E4;generalize q.top.i=ii at *;go_wp2
   exact Xz (v:=.tuple #[]) (by simp[results,results69,go_sem]) Yz (.inl ⟨Yz,Z8.out⟩)
  ·exact⟨Yz,.inr ⟨q,5,by rw[E4.out,Xr C],Yz,WTo.then Tb.out s.out.1 s.out.2 B⟩⟩
 ·have CI:=Qc (QjJ Sb.out Ka.out (by have:=HN.out.1;omega) ip ao.out HX.out u J.out);have KI:=Qc (Qiv Ka.out ⟨fn,o,by rw[d.out.1];exact z.out.1,by rw[d.out.1];exact z.out.2,by rw[d.out.1];exact ak.out⟩ HM.out HX.out r J.out);clear u J;go_wp2_with fail
  refine CI.out.mono ?_;rintro e' wc (⟨N,C,rfl,g',B,V,h4,h5⟩|⟨N,kk,C,rfl,V⟩)
  ·have a4:N.top.i<=100:=by
    obtain⟨-,bd,a5,a6,a8,bj⟩:=KI.out.fr r.top (by simp)
    have bf:=(((Zn HM.out).2 bd (Zm a6)).blocks a5 (Zm a8)).codes
    have:r.top.i=N.top.i+1:=by rw[C];rfl
    omega
   have y2:wc.cell? ⟨g'.t.c,2,none⟩=some (Iv N.top.i):=Qb B.top.1 2 _ Yz;have ap:=Qj B.top.1 2;have NX:=WTo.then (Tb.out.trans V) (h4.trans s.out.1) (h5.trans s.out.2) B.next
   rw[h4] at y2 ap NX
   have Z8:Hid (WTo g w (wc.setCell ⟨L.t.c,2,none⟩ (Iv ((N.top.i:Int)+1))) b most m r):=by rw[C];exact NX
   clear CI C B V h4 h5 KI NX;generalize N.top.i=ii at *;go_wp2
   exact Xz (v:=.tuple #[]) (by simp[results,results69,go_sem]) Yz (.inl ⟨Yz,Z8.out.go⟩)
  ·exact⟨Yz,.inr ⟨N,kk,C,Yz,WTo.then Tb.out s.out.1 s.out.2 V⟩⟩
end
section
variable {w w' w2:World}{b most n:Nat}{m:List (MFunc 6)}{R R' r:RM}{g g1:WG}
theorem WAt.endC (S:WAt w b most m R g) (k:Int):WTo g w ((w.setCell ⟨b,9,none⟩ (.bool true)).setCell ⟨b,5,none⟩ (Iv k)) b most m (R.over k):=by
 have d:∀ x,x≠b->((w.setCell ⟨b,9,none⟩ (.bool true)).setCell ⟨b,5,none⟩ (Iv k)).heap[x]?=w.heap[x]?:=fun x a=>by rw[Xd _ _ _ _ a,Xd _ _ _ _ a]
 refine S.reBox (R':=R.over k) Z Z Z (by simp) (fun x a c=>d x c) ⟨Z,Z,Z,Z⟩ (pi:=g.pi) (ci:=g.ci) (vb:=g.vb) ⟨S.inp,S.inpC⟩ S.back ?_;rw[Qh (Qh S.box 9 _) 5 _]
 simp[RM.over]
theorem QfZ {w:World}(X:Nat) :
 CallsD prog 110 #[Qfp X] .returning w fun e u' w'=>e=.returned (.tuple #[])/\u'=.returning/\w'=w:=by
 refine callsD_of_wpS func110 Z fun b c a=>?_;apply wpS_seq
 apply wpS_region
 simp[wpOpsS,go_sem,recoverD,a,ntmps110,Exit.thenS]
 rw[show (#[Qfp X]++((Array.replicate 22 undef).setIfInBounds 3 (Value.nilIface)).setIfInBounds 0 (Value.nilIface):Array Value)=#[Qfp X,Value.nilIface,undef,undef,Value.nilIface,undef,undef,undef,undef,undef,undef,undef,undef,undef,undef,undef,undef,undef,undef,undef,undef,undef,undef] from by kernel_rfl]
 refine wpS_of_wp ?_;go_wp2_with fail
 cases b
 simp_all [bodyPostS,results,results110]
theorem QgU {w:World}(k:Int) (a:Blk w X #[Pv b 0] 62) (S:WAt w b most m R g) :
 CallsD prog 110 #[Qfp X] (.panicking (QdA k)) w fun e u' w' =>
  e=.returned (.tuple #[])/\u'=.panicking [{ v:=.iface 187 (Iv k),recovered:=true }]/\WTo g w w' b most m (R.over k):=by
 have n:=Qb a 0 _ Yz;have j:w.cell? ⟨b,9,none⟩=some (.bool R.done):=Qb S.box 9 _ Yz;have p:w.cell? ⟨b,5,none⟩=some (Iv R.fin):=Qb S.box 5 _ Yz;have l:=Qj S.box 9;have h:=Qj S.box 5;have Z:=Qc (S.endC k);have d:¬ X=b:=fun e=>Zb a S.box (by decide) e;clear S a;refine callsD_of_wpS func110 Yz fun o i c=>?_;apply wpS_seq
 apply wpS_region
 simp[wpOpsS,go_sem,recoverD,c,ntmps110,Exit.thenS]
 rw[show (#[Qfp X]++((Array.replicate 22 undef).setIfInBounds 3 (Value.iface 187 (Iv k))).setIfInBounds 0 (Value.iface 187 (Iv k)):Array Value)=#[Qfp X,Value.iface 187 (Iv k),undef,undef,Value.iface 187 (Iv k),undef,undef,undef,undef,undef,undef,undef,undef,undef,undef,undef,undef,undef,undef,undef,undef,undef,undef] from by kernel_rfl]
 refine wpS_of_wp ?_;have f:∀ w:World,(Instr.typeAssert (.iface 187 (Iv k)) 20 187 true).run prog w=.ok (.tuple #[Iv k,.bool true]) w:=fun _=>by kernel_rfl
 go_wp2
 exact(show bodyPostS _ _ _ _ _ _ _ _ _ from ⟨Yz,_,Yz,.tuple #[],by simp[results,results110,go_sem],Yz,Yz,Z.out⟩)
theorem wenters_step:Qaj 69:=fun _ _=>by kernel_rfl
theorem Qe6 (S:WAt w b most m R g) (I:ROk m n R) (u:n<=800000) (t:(modFault m).1=0) (c:R.fuel<=most) (a:most<=100000) (v:RM.step m aOp most R=some r) :
 Calls prog 68 #[Pv b 0,.func (.func 69) #[Pv b 0] #[]] w fun e w'=>e=.returned (.tuple #[])/\WGo g w w' b most m r:=by
 have D:∀ (fn:Fn) (first cap:Array Value) (w:World),(Instr.makeFunc fn first cap).run prog w=.ok (.func fn first cap) w:=fun _ _ _ _=>rfl;have x:=wenters_step;unfold Qaj at x;have o:=Qc (ZO w (.cells #[Pv b 0] 62));have F:=Qc (Qe w #[Pv b 0] 62);have J:=Qc (S.below o.out);have s:=Qc (S.stepB o.out);have p:=Qc (Qjn J.out I u t c a v);have d:=Qc S.lt;clear S I u t c a v;go_enter_defers func68,ntmps68
 go_wp2_with fail
 refine p.out.mono ?_;rintro O z G;have l:¬ g.A w.heap.size:=fun e=>by have:=d.out _ e;omega
 have j:w.heap.size<(w.alloc (.cells #[Pv b 0] 62)).heap.size:=by simp
 rcases G with ⟨rfl,y⟩|⟨N,k,h,rfl,⟨P,C,q,K,M⟩⟩
 ·have Z:=Qc (WGo.then s.out y);clear y p x;go_wp2
  refine leaves_cons (f:=110) (args:=#[Qfp w.heap.size]) (by simp) (by simp[go_sem]) ?_;refine(QfZ w.heap.size).mono ?_
  rintro H B Q ⟨rfl,rfl,rfl⟩;exact⟨.tuple #[],by simp[results,results68,go_sem],Yz,Z.out⟩
 ·have i:Blk z w.heap.size #[Pv b 0] 62:=(q.block _ j l).trans F.out;show bodyPostD _ _ _ _ _ _;refine leaves_cons (f:=110) (args:=#[Qfp w.heap.size]) (by simp) (by simp[go_sem]) ?_;refine(QgU k i C).mono ?_
  rintro H B L ⟨rfl,rfl,E⟩;subst h;exact⟨.tuple #[],by simp[results,results68,go_sem],Yz,WGo.then (s.out.trans q) E.go⟩
theorem Qic (S:WAt w b most m R g) (I:ROk m n R) (j:n<=800000) (i:(modFault m).1=0) (c:R.fuel<=most) (a:most<=100000) (d:R.done=false) (f:RM.step m aOp most R=some r) :
 Calls prog 34 #[Pv b 0] w fun e w'=>e=.returned (.tuple #[])/\WGo g w w' b most m r:=by
 have o:∀ (fn:Fn) (first cap:Array Value) (w:World),(Instr.makeFunc fn first cap).run prog w=.ok (.func fn first cap) w:=fun _ _ _ _=>rfl;have h:=Qc (Qe6 S I j i c a f);have l:w.cell? ⟨b,9,none⟩=some (.bool R.done):=Qb S.box 9 _ Yz;rw[d] at l
 clear S I j i c a f d;go_enter func34,ntmps34
 go_wp2_with (go_at_call 68;refine h.out.mono ?_;rintro p q ⟨rfl,k⟩;have Z:=Qc k;clear k h)
 exact Xz (v:=.tuple #[]) (by simp[results,results34,go_sem]) Yz ⟨Yz,Z.out⟩
theorem Qg2 (S:WAt w b most m R g) (a:R.done=true) :
 Calls prog 34 #[Pv b 0] w fun e w'=>e=.returned (.tuple #[])/\w'=w:=by
 have c:w.cell? ⟨b,9,none⟩=some (.bool R.done):=Qb S.box 9 _ Z;rw[a] at c
 clear S a;go_enter func34,ntmps34
 go_wp2
 exact Xz (v:=.tuple #[]) (by simp[results,results34,go_sem]) Z ⟨Z,Z⟩
theorem QeN (S:WAt w b most m R g):Calls prog 33 #[Pv b 0] w fun e w'=>e=.returned (.bool R.done)/\w'=w:=by
 have a:w.cell? ⟨b,9,none⟩=some (.bool R.done):=Qb S.box 9 _ Z;clear S;generalize R.done=c at *;go_enter func33,ntmps33
 go_wp2
 go_ret;exact⟨Z,Z⟩
end
section
variable {w w' w2:World}{b most n:Nat}{m:List (MFunc 6)}{M M' N:IM}{sc sa:Int}{g g1:MG}{e:Ending}
abbrev Qbv (c a:Int):Value:=.agg #[Iv c,Iv a]
end
def Qcl (w:World) (l:List Int) (e:Ending) (w':World):Prop:=∃ a cap,e=.returned (.slice a l.length cap)/\l.length<=cap/\w'.ownsRow 0 2 1 (.slice a l.length cap) l.length (l.map (Value.int .i64))/\(∀ x,(Value.slice a l.length cap).ownBlock=some x->w.heap.size<=x)/\Below w.heap.size w w'
theorem Qk3 (h:w.ownsRow 0 2 1 (.slice a l.length cap) l.length (l.map (Value.int .i64))) (c:∀ x∈l,Qnd x) (n:∀ x,(Value.slice a l.length cap).ownBlock=some x->O x):intsL.In w O l [.slice a l.length cap]:=by
 refine⟨a,cap,Z,fun i x b=>?_⟩
 have q:=(Zi b).1;rcases h.2 with ⟨e,p⟩|⟨g,t,o,e,_,k,r,s,u,m⟩
 ·omega
 ·rw[Value.slice.injEq] at e
  obtain⟨rfl,-,rfl⟩:=e
  refine⟨g,0,[Iv x],Z,n g Z,XC k,fun j f=>?_,Z,c x (Zm b)⟩
  have f:j<1:=f
  have:j=0:=by omega
  subst this;show w.cell? ⟨g,0+i*1+0,none⟩=_;rw[XK,XL,Nat.add_zero]
  have d:(l.map (Value.int .i64))[i]?=some (Iv x):=by rw[XS,b];rfl
  rw[<-m,XR,Xs (by omega),Array.getElem?_toList] at d
  exact Qb k _ _ d
theorem Qc6 (h:∀ i,i<l.length->∃ g o,p=some ⟨g,o,none⟩/\w.cell? ⟨g,o+i,none⟩=some (Iv (l.getD i 0))) (hn:l.length<=1000000) :
 Calls prog 48 #[.slice p l.length c] w fun e w'=>Qcl w l e w':=by
 obtain⟨X,V,C,F,A⟩:=iInfo64
 have q:∀ (w:World) (a:Option Addr) (n c B D:Nat),(binOp .eql 25 (.slice a n c) (.slice none B D)).run prog w=.ok (.bool a.isNone) w:=fun w a n c B D=>Lib.run_eql_slice_nil w _ _ a n c B D iUnder64
 cases p with
 | none =>
   have I:l=[]:=by
    cases l with
    | nil=>rfl
    | cons y P =>
      obtain⟨g,o,e,-⟩:=h 0 (by simp)
      cases e
   subst I;clear h;go_enter func48,ntmps48
   go_wp2
   go_ret;exact⟨none,0,Z,Ze,⟨Z,.inl ⟨Z,Z⟩⟩,fun x v=>by simp[Value.ownBlock] at v,Zr⟩
 | some ad =>
   have M:Hid (∀ (j:Nat) (u:Value),(l.map (Value.int .i64))[j]?=some u->(w.alloc (.cells #[] 2)).cell? (ad.add j)=some u):=by
    intro j u t;rw[XS] at t
    obtain⟨y,K,rfl⟩:=Option.map_eq_some_iff.1 t
    have W:=(Zi K).1;obtain⟨g,o,e,hc⟩:=h j W
    cases e
    rw[Addr.add_lit]
    refine Lib.cell?_alloc_some _ ?_;rw[hc]
    simp[List.getD,K]
   have J:Hid (∀ u∈l.map (Value.int .i64),u.oneCell'=true):=by intro u t;obtain⟨x,_,rfl⟩:=List.mem_map.1 t;rfl
   have O:Hid ((l.map (Value.int .i64)).length=l.length*1):=by show _=_;simp
   have f:=Qc (ZO w (.cells #[] 2));have S:Hid ((w.alloc (.cells #[] 2)).heap.size=w.heap.size+1):=by show _=_;simp
   clear h;generalize s:l.map (Value.int .i64)=P at *;have z:=Qc s;generalize m:l.length=nn at *;have E:=Qc m;clear s m;go_enter func48,ntmps48
   go_wp2_with (at_builtin;refine ZN _ Z _ _ 25 Z 2 X (Iv 0) 1 8 iUnder64 V C F A Z (by decide) _ _ _ Z (World.ownsRow_made w #[] 0 (Xb _) (Xb _) Z) ad nn c P Z O.out M.out J.out (by unfold maxLen;omega) (by omega) ?_)
   intro N L H d T
   have R:Hid (Qcl w l (.returned N) L):=by
    have b:L.ownsRow 0 2 1 N l.length (l.map (Value.int .i64)):=by rw[z.out,E.out];simpa using H
    obtain⟨Q,G,rfl⟩:=QaR b
    have r:l.length<=G:=by
     rcases b.2 with ⟨e,e0⟩|⟨g,cp,ab,e,_,hh,aa,_⟩
     ·rw[Value.slice.injEq] at e;omega
     ·rw[Value.slice.injEq] at e;omega
    refine⟨Q,G,Z,r,b,fun x v=>?_,?_⟩
    ·rcases T x v with e | e
     ·simp[Value.ownBlock] at e;omega
     ·have:=S.out;omega
    ·refine⟨d.os.trans f.out.os,d.tape.trans f.out.tape,d.output.trans f.out.output,Zt f.out.size d.size,fun k U=>(d.block k (by have:=S.out;omega) (fun e=>by simp[Value.ownBlock] at e;omega)).trans (f.out.block k U)⟩
   obtain⟨Q,G,rfl⟩:=QaR H
   clear H d T M J O f;go_wp2
   go_ret;exact R.out
theorem QgZ (h:intsL.In w Q l [.slice p l.length c]) (b:l.length<=1000000) :
 Calls prog 48 #[.slice p l.length c] w fun e w'=>Qcl w l e w' :=
 Qc6 (fun i a=>by obtain⟨g,o,e,-,-,d⟩:=ZH h a;exact⟨g,o,e,d⟩) b
def Qjg (lo:Nat) (l:List Int) (v:Value) (w:World):Prop:=∃ a cap,v=.slice a l.length cap/\l.length<=cap/\w.ownsRow 0 2 1 (.slice a l.length cap) l.length (l.map (Value.int .i64))/\∀ x,(Value.slice a l.length cap).ownBlock=some x->lo<=x
theorem Qjg.below {lo:Nat}{w w':World}(h:Qjg lo l v w) (b:Below w.heap.size w w'):Qjg lo l v w':=by
 obtain⟨a,c,g,i,d,f⟩:=h
 exact⟨a,c,g,i,QY d (fun x e=>b.block x (XC (ZU d e).choose_spec)),f⟩
section
variable {w w' w2:World}{b most n:Nat}{m:List (MFunc 6)}{M M' N:IM}{sc sa:Int}{g g1:MG}{e:Ending}
theorem QhG {w:World}{a0 f e g:Value}(h:w.heap[R]?=some (.cells #[a0,f,e,g] 44 (0,0))) (a c d b:Value) :
 ((((w.setCell ⟨R,0,none⟩ a).setCell ⟨R,1,none⟩ c).setCell ⟨R,2,none⟩ d).setCell ⟨R,3,none⟩ b).heap[R]?=some (.cells #[a,c,d,b] 44 (0,0)):=by
 have:=Qh (Qh (Qh (Qh h 0 a) 1 c) 2 d) 3 b
 simpa using this
end
end Go.Proofs.YtjhdpajpibdnaafGreat
