import Derived.Test.YtjhdpajpibdnaafGreatP2
import Derived.Defers
import Derived.Recover
set_option maxHeartbeats 16000000
set_option maxRecDepth 100000
namespace Go.Proofs.YtjhdpajpibdnaafGreat
open Go.ChangeShapes Go.WideShapes Go.ChangeAt Go.RowKit _root_.Go.Proofs.Tryz
set_option linter.unusedSimpArgs false
set_option linter.unusedVariables false
variable {w w' w6 w1 w2:World}{n b c k m rc ac X j B i cm g N d f fi cap bp q R pages id bi cc funcs s ci rl al ca ri vl most cR cA G:Nat}{O Q O':Nat→Prop}{l xs regs inp:List Int}{p a rg ag pm pi pa pR pA ra aa:Option Addr}{t e:TypeId}{v:Value}{P:Program}{L bs:List Bool}{x ya xc xk fr xa xb xn yb:Int}{ds cs:List Value}{ops:Array Oper}
structure ROk (m:List (MFunc 6)) (n:Nat) (R:RM):Prop where
 est:R.e.Ok
 fr:∀ d∈R.top::R.rest,d.v.length<=n+8/\∃ fn bl,m[d.f]?=some fn/\fn.blocks[d.b]?=some bl/\d.i<=bl.code.length
 inp:R.inp.length<=1000
 out:R.out.length<=2000/\R.back.length<=8
 deep:R.rest.length<=39
def OkW (m:List (MFunc 6)) (n:Nat) (o:Option RM):Prop:=∀ N,o=some N->ROk m n N
section
variable {m:List (MFunc 6)}{n n':Nat}{R R':RM}{x:Qs}{fn:MFunc 6}{bl:MBlock 6}{op:Int->Int->Int->Option Int}
theorem OkW.no:OkW m n none:=fun N h=>by cases h
theorem OkW.some (I:ROk m n R):OkW m n (some R):=fun N h=>by cases h;exact I
theorem OkW.ite {c:Prop}[Decidable c] {a b:Option RM}(d:c->OkW m n a) (e:¬ c->OkW m n b):OkW m n (if c then a else b):=by
 by_cases h:c
 ·rw[Xs h];exact d h
 ·rw[Xr h];exact e h
theorem ROk.mono (I:ROk m n R) (h:n<=n'):ROk m n' R:=⟨I.est,fun d a=>⟨by have:=(I.fr d a).1;omega,(I.fr d a).2⟩,I.inp,I.out,I.deep⟩
theorem ROk.over (I:ROk m n R) (k:Int):ROk m n (R.over k):=⟨I.est,I.fr,I.inp,I.out,I.deep⟩
def Now (m:List (MFunc 6)) (R:RM):Prop:=∃ fn bl,m[R.top.f]?=some fn/\fn.blocks[R.top.b]?=some bl/\R.top.i<bl.code.length
theorem ROk.on (I:ROk m n R) (H:Now m R)(j:l.length<=8):ROk m (n+8) (R.on l):=by
 refine⟨I.est,fun d a=>?_,I.inp,I.out,I.deep⟩
 rcases List.mem_cons.1 a with rfl | a
 ·obtain⟨g,-⟩:=I.fr R.top (by simp)
  obtain⟨b,i,c,e,h⟩:=H
  exact⟨by show (R.top.v++l).length<=_;rw[List.length_append];omega,b,i,c,e,h⟩
 ·obtain⟨g,f⟩:=I.fr d (List.mem_cons_of_mem _ a)
  exact⟨by omega,f⟩
theorem Qaj {v:List Int}:∀ {l xs:List Int},QaA v l=some xs->xs.length=l.length
 | [],xs,h=>by simp[QaA] at h;subst h;simp
 | k::l,xs,h=>by
   simp only[QaA] at h
   cases hk:iAt v k with
   | none=>rw[hk] at h;cases h
   | some y =>
     rw[hk] at h
     simp only at h
     cases hl:QaA v l with
     | none=>rw[hl] at h;cases h
     | some ys =>
       rw[hl] at h
       simp at h
       subst h;simp[Qaj hl]
theorem last_of :l=[]\/l.getLastD 0∈l:=by
 rcases List.eq_nil_or_concat l with a | ⟨b,k,a⟩
 ·exact .inl a
 ·right;rw[a];simp
theorem QiP {e:Est}(h:e.Ok) (k n:Int):0<=e.getAt k n/\e.getAt k n<=1040:=by
 have a:=h.ok
 have d:e.p.nextK<64/\-1<=e.p.nextK:=by
  unfold PSt.nextK
  cases hg:e.p.given.getLast? with
  | none =>
    simp only
    have:=a.high
    have:=a.most
    have:=a.low
    split<;>omega
  | some y =>
    have:=a.mem y (List.mem_of_getLast? hg)
    have:=a.high
    have:=a.most
    simp only
    omega
 unfold Est.getAt;split
 ·rename_i b
  unfold Est.getCode at b;split at b
  ·split at b
   ·omega
   ·cases hr:e.reg k.toNat with
    | none=>simp only;omega
    | some r =>
      rw[hr] at b
      simp only at b |-
      split at b
      ·omega
      ·rename_i g
       split
       ·rename_i c
        have:¬ e.p.nextK<0:=fun f=>g ⟨c,f⟩
        omega
       ·have i:=h.used _ _ hr
        have j:0<=r.pages.getLastD 0/\r.pages.getLastD 0<64:=by
         rcases last_of (l:=r.pages) with c | c
         ·rw[c];simp
         ·have:=h.low (k:=k.toNat) (x:=r.pages.getLastD 0) (by rw[Est.at_some hr];exact c)
          have:=a.most
          omega
        omega
  ·omega
 ·exact⟨by decide,by decide⟩
theorem QlV {e:Est}{k n:Int}(h:e.getCode k n≠0):e.got k n=e:=by unfold Est.got;rw[Xr h]
theorem Qfp (I:ROk m n R) (H:Now m R){h size:Int}:OkW m (n+8) (some (R.thing h size l)):=by
 refine OkW.some ?_;unfold RM.thing;split
 ·have J:ROk m n { R with e:=(R.e.got h size).withP ((R.e.got h size).p.puts (R.e.getAt h size) l) }:=⟨Est.Ok.puts l _ (I.est.got h size),I.fr,I.inp,I.out,I.deep⟩;exact J.on H (by simp)
 ·exact(I.over 6).mono (by omega)
theorem QkK (I:ROk m n R) (H:Now m R):OkW m (n+8) (R.part x):=by
 have d:∀ {v:Int},OkW m (n+8) (some (R.on [v])):=OkW.some (I.on H (by simp));have e:∀ {k v:Int},OkW m (n+8) (some ((R.stored k v).on [])):=fun {k v}=>OkW.some (ROk.on (R:=R.stored k v) ⟨I.est.store k v,I.fr,I.inp,I.out,I.deep⟩ H (by simp));have f:∀ k,OkW m (n+8) (some (R.over k)):=fun k=>OkW.some ((I.over k).mono (by omega));unfold RM.part
 cases ha:iAt R.top.v x.a with
 | none=>exact OkW.no
 | some a =>
   refine OkW.ite (fun _=>d) fun _=>OkW.ite (fun _=>?_) fun _=>OkW.ite (fun _=>?_) fun _=>OkW.ite (fun _=>?_) fun _=>OkW.ite (fun _=>d) fun _=>OkW.some (I.on H (by simp))
   ·cases hb:iAt R.top.v x.b with
    | none=>exact OkW.no
    | some y=>exact e
   ·cases hb:iAt R.top.v x.b with
    | none=>exact OkW.no
    | some y=>exact OkW.ite (fun _=>d) (fun _=>f 2)
   ·cases hb:iAt R.top.v x.b with
    | none=>exact OkW.no
    | some y =>
      cases hc:iAt R.top.v x.c with
      | none=>exact OkW.no
      | some z=>exact OkW.ite (fun _=>e) (fun _=>f 2)
theorem Qih (I:ROk m n R) (H:Now m R) (u:(modFault m).1=0) (B:x.form m.length=0):OkW m (n+8) (RM.ins op R x):=by
 obtain⟨-,C,q⟩:=Qdf B
 have i:∀ {v:Int},OkW m (n+8) (some (R.on [v])):=OkW.some (I.on H (by simp));have g:∀ k,OkW m (n+8) (some (R.over k)):=fun k=>OkW.some ((I.over k).mono (by omega));unfold RM.ins;refine OkW.ite (fun _=>i) fun _=>OkW.ite (fun _=>?_) fun _=>OkW.ite (fun _=>OkW.ite (fun _=>OkW.some ?_) (fun _=>g 6)) fun _=>OkW.ite (fun _=>?_) fun _=>OkW.ite (fun _=>?_) fun _=>OkW.ite (fun _=>?_) fun _=>OkW.ite (fun _=>?_) fun _=>OkW.ite (fun _=>?_) fun _=>OkW.ite (fun e=>OkW.ite (fun w=>?_) (fun _=>g 5)) (fun _=>QkK I H)
 ·cases ha:iAt R.top.v x.a with
  | none=>exact OkW.no
  | some a =>
    cases p:iAt R.top.v x.b with
    | none=>exact OkW.no
    | some b =>
      simp only
      cases ho:op x.k a b with
      | none=>exact g 1
      | some c=>exact i
 ·exact ROk.on (R:={ R with e:=R.e.opened }) ⟨I.est.opened,I.fr,I.inp,I.out,I.deep⟩ H (by simp)
 ·cases ha:iAt R.top.v x.a with
  | none=>exact OkW.no
  | some a=>exact OkW.some (ROk.on (R:={ R with e:=R.e.shut a }) ⟨I.est.shut a,I.fr,I.inp,I.out,I.deep⟩ H (by simp))
 ·cases ha:iAt R.top.v x.a with
  | none=>exact OkW.no
  | some a=>cases hv:QaA R.top.v x.args with
    | none=>exact OkW.no
    | some l=>exact Qfp I H
 ·cases ha:iAt R.top.v x.a with
  | none=>exact OkW.no
  | some a=>cases p:iAt R.top.v x.b with
    | none=>exact OkW.no
    | some k=>exact OkW.ite (fun _=>Qfp I H) (fun _=>g 3)
 ·cases r:R.inp with
  | nil=>exact g 4
  | cons k l =>
    have t:=I.inp;rw[r] at t
    exact OkW.some (ROk.on (R:={ R with inp:=l }) ⟨I.est,I.fr,by simp at t;show l.length<=1000;omega,I.out,I.deep⟩ H (by simp))
 ·cases ha:iAt R.top.v x.a with
  | none=>exact OkW.no
  | some a=>exact OkW.ite (fun h=>OkW.some (ROk.on (R:={ R with out:=R.out++[a] }) ⟨I.est,I.fr,I.inp,⟨by show (R.out++[a]).length<=2000;simp;omega,I.out.2⟩,I.deep⟩ H (by simp))) (fun _=>g 8)
 ·cases hv:QaA R.top.v x.args with
  | none=>exact OkW.no
  | some l =>
    refine OkW.some ?_;obtain⟨F,E,-,J⟩:=q e
    obtain⟨f,j⟩:∃ f,m[x.k.toNat]?=some f:=⟨_,Zg (by omega)⟩
    obtain⟨z,s,-⟩:=Z7 u j
    have G:=Qaj hv;refine⟨I.est,fun d o=>?_,I.inp,I.out,by show (_::R.rest).length<=39;simp;omega⟩
    simp only[List.mem_cons] at o
    rcases o with rfl | rfl | o
    ·exact⟨by show l.length<=_;omega,f,z,j,s,Xb _⟩
    ·obtain⟨D,-⟩:=I.fr R.top (by simp)
     obtain⟨y,A,j,p,r⟩:=H
     exact⟨by show R.top.v.length<=_;omega,y,A,j,p,r⟩
    ·have h:=I.fr d (List.mem_cons_of_mem _ o);exact⟨by omega,h.2⟩
theorem Qk9 (I:ROk m n R) (c:m[R.top.f]?=some fn){t:MTo}(g:t.args.length<=8/\0<=t.block/\t.block<(fn.blocks.length:Int)):OkW m n (R.to t):=by
 unfold RM.to
 cases hv:QaA R.top.v t.args with
 | none=>exact OkW.no
 | some l =>
   obtain⟨b,e⟩:∃ b,fn.blocks[t.block.toNat]?=some b:=⟨_,Zg (by omega)⟩
   have h:=Qaj hv;refine OkW.some ⟨I.est,fun d a=>?_,I.inp,I.out,I.deep⟩;rcases List.mem_cons.1 a with rfl | a
   ·exact⟨by show l.length<=_;omega,fn,b,c,e,Xb _⟩
   ·exact I.fr d (List.mem_cons_of_mem _ a)
theorem Qk1 (I:ROk m n R) (o:m[R.top.f]?=some fn){e:ZC}(q:e.form fn.blocks.length=0):OkW m (n+8) (R.endd e):=by
 obtain⟨x,z,s,g⟩:=Qfo q
 have Y:e.op≠3->OkW m (n+8) (R.to e.yes):=fun p N h=>(Qk9 I o (by have:=Qei (s p);omega) N h).mono (by omega);unfold RM.endd;refine OkW.ite (fun i=>?_) fun i=>OkW.ite (fun r=>?_) fun _=>Y i
 ·cases hv:QaA R.top.v e.args with
  | none=>exact OkW.no
  | some l =>
    have y:=Qaj hv
    cases hr:R.rest with
    | nil =>
      simp only
      have b:=I.fr;rw[hr] at b
      exact OkW.some (ROk.mono (n:=n) ⟨I.est,fun d u=>b d u,I.inp,⟨I.out.1,by show l.length<=8;omega⟩,by have:=I.deep;rw[hr] at this;exact this⟩ (by omega))
    | cons d rest =>
      simp only
      refine OkW.some ⟨I.est,fun c j=>?_,I.inp,I.out,by have:=I.deep;rw[hr] at this;simp at this;show rest.length<=39;omega⟩;rcases List.mem_cons.1 j with rfl | j
      ·obtain⟨w,t⟩:=I.fr d (by rw[hr];simp)
       exact⟨by show (d.v++l).length<=_;rw[List.length_append];omega,t⟩
      ·have h:=I.fr c (by rw[hr];simp[j]);exact⟨by omega,h.2⟩
 ·cases iAt R.top.v e.a with
  | none=>exact OkW.no
  | some k=>exact OkW.ite (fun _=>fun N h=>(Qk9 I o (by have:=Qei (g r);omega) N h).mono (by omega)) (fun _=>Y i)
theorem Qk3 (I:ROk m n R) (f:(modFault m).1=0):OkW m (n+8) (RM.step m op most R):=by
 unfold RM.step;refine OkW.ite (fun _=>OkW.some ((I.over 7).mono (by omega))) fun _=>?_;obtain⟨-,d,c,a,b,h⟩:=I.fr R.top (by simp)
 rw[a]
 simp only
 rw[b]
 simp only
 have g:=(Zo f).2 d (Zm a);have e:=g.blocks c (Zm b);have J:ROk m n { R with fuel:=R.fuel+1 }:=⟨I.est,I.fr,I.inp,I.out,I.deep⟩
 cases hx:c.code[R.top.i]? with
 | none=>exact Qk1 J a e.fin
 | some x=>exact Qih J ⟨d,c,a,b,(Zi hx).1⟩ f (e.code x (Zm hx))
theorem QcI (e:(modFault m).1=0)(hi:inp.length<=1000)(h:pages<=64):ROk m 0 (RM.start inp pages):=by
 have i:=(Zo e).1.1;obtain⟨a,c⟩:∃ a,m[0]?=some a:=⟨_,Zg i⟩
 obtain⟨g,b,-⟩:=Z7 e c
 refine⟨Est.ok_new pages h,fun d f=>?_,hi,⟨by simp[RM.start],by simp[RM.start]⟩,by simp[RM.start]⟩
 simp only[RM.start,List.mem_cons,List.not_mem_nil,or_false] at f
 subst f;exact⟨by simp,a,g,c,b,Xb _⟩
theorem QcJ (b:(modFault m).1=0)(I:ROk m 0 R):∀ (k:Nat){N:RM},RM.steps m op most k R=some N->ROk m (8*k) N:=by
 intro k
 have a:∀ (k:Nat) (n:Nat) (Q N:RM),ROk m n Q->RM.steps m op most k Q=some N->ROk m (n+8*k) N:=by
  intro k
  induction k with
  | zero=>intro n Q N J h;simp only[RM.steps] at h;cases h;exact J
  | succ k ih =>
    intro n Q N J h;simp only[RM.steps] at h
    split at h
    ·cases h;exact J.mono (by omega)
    ·cases hs:RM.step m op most Q with
     | none=>rw[hs] at h;cases h
     | some Q' =>
       rw[hs] at h
       exact(ih (n+8) Q' N (Qk3 J b Q' hs) h).mono (by omega)
 intro N h
 have:=a k 0 R N I h
 rwa [XK] at this
end
theorem Xz:type_of% @bodyPost_end:=@bodyPost_end
abbrev QdT (c:Int):List PanicEntry:=[{ v:=.iface 187 (Iv c),recovered:=false }]
theorem QaF (w:World) (c:Int):Calls prog 111 #[.bool true,Iv c] w fun e w'=>e=.returned (.tuple #[])/\w'=w:=by
 go_enter func111,ntmps111
 go_wp2
 exact Xz (v:=.tuple #[]) (by simp[results,results111,go_sem]) Z ⟨Z,Z⟩
theorem Z4 (w:World) (c:Int):Calls prog 111 #[.bool false,Iv c] w fun e w'=>e=.panicked (QdT c)/\w'=w:=by
 go_enter func111,ntmps111
 go_wp2
 exact⟨Z,Z,Z⟩
def RM.push (R:RM) (l:List Int):RM:={ R with top:={ R.top with v:=R.top.v++l } }
theorem Qnr (n:Nat) (f:n<=1099511627776) (w:World):(Instr.makeSlice 25 (Iv (n:Int)) (Iv (n:Int))).run prog w=.ok (.slice (some ⟨w.heap.size,0,none⟩) n n) (w.alloc (.cells (madeCells (#[Iv 0]:Array Value) n) 2)):=by
 obtain⟨d,e,c,b,a⟩:=iInfo64
 exact run_make_row (P:=prog) 25 2 d (Iv 0) iUnder64 e c b Z .i64 .i64 n (by rw[a];omega) (by omega) w
theorem QbC.of {w:World}(b:l.length=n) (g:n<=1099511627776) (h:w.rowIs k 2 n (fun i=>Iv (l.getD i 0))):QbC w (.slice (some ⟨k,0,none⟩) n n) l:=by
 subst b;obtain⟨c,e,f,d⟩:=h
 refine⟨by simp,.inr ⟨k,l.length,c,Z,Xb _,e,Ze,by unfold maxLen;omega,by simpa using f,?_⟩⟩
 refine List.ext_getElem? (fun i=>?_);rw[XR,Array.getElem?_toList,XS,XL]
 by_cases a:i<l.length
 ·rw[Xs a,d i a,Zg a];simp[List.getD,a]
 ·rw[Xr a,Xk (by omega)];rfl
theorem QbC.cell {w:World}{v:Value}(h:QbC w v l):∃ a c,v=.slice a l.length c/\∀ i,i<l.length->∃ k,a=some ⟨k,0,none⟩/\v.ownBlock=some k/\w.cell? ⟨k,i,none⟩=some (Iv (l.getD i 0)):=by
 rcases h.2 with ⟨e,g⟩|⟨k,d,n,e,_,m,o,p,q,j⟩
 ·exact⟨none,0,by rw[e,g],fun i b=>by omega⟩
 ·refine⟨_,d,e,fun i b=>⟨k,Z,by rw[e];rfl,?_⟩⟩
  have f:(l.map (Value.int .i64))[i]?=some (Iv (l.getD i 0)):=by rw[XS,Zg b];simp[List.getD,b]
  rw[<-j,XR,Xs (by omega),Array.getElem?_toList] at f
  exact Qb m _ _ f
theorem Qld {v:List Int}{a:Int}(h:iAt v a=some x):∃ j:Nat,a=j/\j<v.length/\x=v.getD j 0:=by
 unfold iAt at h;split at h
 ·cases h
 ·rename_i b
  refine⟨a.toNat,by omega,(Zi h).1,?_⟩
  simp[List.getD,h]
theorem QiH {v:List Int}:∀ {l xs:List Int},QaA v l=some xs->∀ (q:Nat) (a:Int),l[q]?=some a->iAt v a=some (xs.getD q 0)/\q<xs.length
 | [],xs,h,q,a,ha=>by simp at ha
 | k::l,xs,h,q,a,ha=>by
   simp only[QaA] at h
   cases hk:iAt v k with
   | none=>rw[hk] at h;cases h
   | some y =>
     rw[hk] at h
     simp only at h
     cases hl:QaA v l with
     | none=>rw[hl] at h;cases h
     | some ys =>
       rw[hl] at h
       simp at h
       subst h
       cases q with
       | zero=>simp at ha;subst ha;exact⟨by simpa using hk,by simp⟩
       | succ q =>
         obtain⟨b,c⟩:=QiH hl q a (by simpa using ha)
         exact⟨by simpa[List.getD] using b,by simp;omega⟩
def Qm7 (w:World) (xs:List Int) (n:Nat) (e:Ending) (w':World):Prop:=∃ k,e=.returned (.slice (some ⟨k,0,none⟩) n n)/\w.heap.size<=k/\QbC w' (.slice (some ⟨k,0,none⟩) n n) xs/\Below w.heap.size w w'
section
variable {w:World}{c:Nat}{fr:RFr}{v:Value}
theorem Qem (F:WFr w c fr v) (hl:fr.v.length<=1000000){V:Nat}(C:l.length=n) (hb:n<=1000000) (W:intsL.In w Q l [.slice p n V]) (D:QaA fr.v l=some xs) :
 Calls prog 167 #[Pv c 0,.slice p n V] w fun e w'=>Qm7 w xs n e w':=by
 have H:=Qnr n (by omega) w;have s:=Qc (World.rowIs_made w (Iv 0) n 2);have K:=Qc (ZO w (.cells (madeCells (#[Iv 0]:Array Value) n) 2));have B:=Qc W;have U:=Qc C;have G:=Qc D;have J:Hid (xs.length=n):=(Qaj D).trans C;obtain⟨va,vc,ev,O⟩:=F.2.cell
 have x:w.cell? ⟨c,3,none⟩=some v:=Qb F.1 3 _ Z;rw[ev] at x
 have I:=Qc O;have Q3:=Qc x;clear W C F D O x;go_enter func167,ntmps167
 go_upto_region 2 with fail
 generalize w.alloc (.cells (madeCells (#[Iv 0]:Array Value) n) 2)=w1 at s K |-;clear H;obtain⟨g,M⟩:∃ g,g=w.heap.size:=⟨_,Z⟩
 have R:Hid (w.heap.size<=g):=by show _<=_;omega
 rw[<-M] at s |-
 clear M;go_wp2_with fail
 go_loopw [13] (fun i wr=>∃ q:Nat,q<=n/\i=Iv q/\wr.rowIs g 2 n (fun i=>if i<q then Iv (xs.getD i 0) else Iv 0)/\Below w.heap.size w wr) (fun i _=>n - (intOf i).toNat)
 case atStart=>exact⟨0,Xb _,Z,s.out.congr (fun i _=>by rw[Xr (by omega)]),K.out⟩
 case round =>
  obtain⟨q,hq,rfl,L,S⟩:=hrel
  have o:=Qc L;have d:=Qc S;clear L S;by_cases b:q<n
  ·have T:(q:Int)<n:=by omega
   obtain⟨a,z⟩:∃ a,l[q]?=some a:=⟨_,Zg (by rw[U.out];exact b)⟩
   have h:q<l.length:=by rw[U.out];exact b
   obtain⟨f,E⟩:=QiH G.out q a z
   obtain⟨j,rfl,hj,m⟩:=Qld f
   obtain⟨g1,o1,rfl,-,t,u⟩:=ZH B.out h
   rw[show l.getD q 0=(j:Int) by rw[List.getD_eq_getElem?_getD,z];rfl] at u
   have u:=Qk u d.out;obtain⟨k,rfl,-,r⟩:=I.out j hj
   rw[<-m] at r
   have r:=Qk r d.out;have c3:=Qk Q3.out d.out;have X:(j:Int)<fr.v.length:=by omega
   have p0:=o.out.cell b;rw[Xr (by omega)] at p0
   have f0:=o.out.frozen q
   have PR:Hid ((wr.setCell ⟨g,q,none⟩ (Iv (xs.getD q 0))).rowIs g 2 n (fun i=>if i<q+1 then Iv (xs.getD i 0) else Iv 0)):=(o.out.set q (Iv (xs.getD q 0))).congr (fun i N=>by
    by_cases e:i=q
    ·subst e;rw[Xs Z,Xs (by omega)]
    ·rw[Xr e]
     by_cases P:i<q
     ·rw[Xs P,Xs (by omega)]
     ·rw[Xr P,Xr (by omega)])
   have PB:Hid (Below w.heap.size w (wr.setCell ⟨g,q,none⟩ (Iv (xs.getD q 0)))):=d.out.setCell (p:=⟨g,q,none⟩) R.out _;clear h t z f E m;generalize xs.getD q 0=xq at *;generalize fr.v.length=vl at *;clear o d I B G;go_wp2
   go_roundw
   case rel=>exact⟨q+1,by omega,by go_num,PR.out,PB.out⟩
   case measure=>simp[intOf];omega
  ·have A:q=n:=by omega
   subst A;have y:=Qc (QbC.of J.out (by omega) (o.out.congr (fun i N=>by rw[Xs N])));clear I B G;go_wp2
   go_ret;exact⟨g,Z,R.out,y.out,d.out⟩
end
section
variable {w w' w2:World}{b most:Nat}{m:List (MFunc 6)}{R R':RM}{g g1:WG}{c:Nat}{fr:RFr}{v:Value}
theorem WAt.pushed (S:WAt w b most m R g){v9:Value}{w9:World}(u:w9.ownsRow 0 2 1 v9 (R.top.v.length+l.length) (R.top.v.map (Value.int .i64)++l.map (Value.int .i64))) (a:w.grownBy w9 g.t.v.ownBlock) (q:∀ k,v9.ownBlock=some k->g.t.v.ownBlock=some k\/k=w.heap.size) :
 WTo g w (w9.setCell ⟨g.t.c,3,none⟩ v9) b most m (R.push l):=by
 obtain⟨⟨F,p,r⟩,-⟩:=S.frs
 have o:=XC F.1;have d:∀ x,g.t.v.ownBlock=some x->x≠g.t.c:=fun x j e=>by have:=r x j;rw[e,p] at this;omega
 have n:w9.heap[g.t.c]?=_:=(a.block g.t.c o (fun e=>d _ e.symm Z)).trans F.1
 have i:∀ k,v9.ownBlock=some k->k≠g.t.c:=fun k f e=>by
  rcases q k f with h | h
  ·exact d k h e
  ·omega
 refine S.setTop a.os a.tape a.output (by simpa using a.size) (fun k f s p=>?_) ⟨?_,?_⟩ (fun k f=>(q k f).imp id (fun e=>by omega))
 ·rw[Xd _ _ _ _ s]
  exact a.block k f (fun e=>p e.symm)
 ·have:=Qh n 3 v9
  simpa using this
 ·show World.ownsRow _ 0 _ 1 v9 (R.top.v++l).length ((R.top.v++l).map (Value.int .i64));rw[List.length_append,List.map_append]
  exact Q0 u (fun x j=>Xd _ _ _ _ (i x j))
theorem Qb6 (S:WAt w b most m R g){C:Nat}{a:Addr}(K:l.length=n) (d:∀ (j:Nat) (u:Value),(l.map (Value.int .i64))[j]?=some u->w.cell? (a.add j)=some u) (L:R.top.v.length+n<=1000000) :
 Calls prog 169 #[Pv g.t.c 0,.slice (some a) n C] w fun e w'=>e=.returned (.tuple #[])/\WTo g w w' b most m (R.push l):=by
 obtain⟨E,H,o,p,r⟩:=iInfo64
 subst K;obtain⟨⟨F,z,A⟩,-⟩:=S.frs
 obtain⟨N,P,I⟩:=QaS F.2
 have B:=Qb F.1 3 _ Z;have h:Hid (g.t.v.ownBlock≠some g.t.c):=fun e=>by have:=A _ e;rw[z] at this;omega
 have i:=Qc F.2;have k:=Qc F.1;have J:=Qc d;have q:=Qc (fun v9 w9=>S.pushed (l:=l) (v9:=v9) (w9:=w9));clear S F d z A;go_enter func169,ntmps169
 unfold QbC at i;rw[I] at B i q k h
 go_wp2_with (at_builtin;refine ZP _ Z _ _ 25 Z 2 E (Iv 0) 1 8 iUnder64 H o p r Z (by decide) _ _ _ Z i.out a l.length C (l.map (Value.int .i64)) Z (by simp) J.out (by intro u G;obtain⟨x,_,rfl⟩:=List.mem_map.1 G;rfl) (by unfold maxLen;omega) (by omega) ?_)
 intro v9 w9 s y D;have R:=Qc (q.out v9 w9 s y D);have f:=(y.block g.t.c (XC k.out) (fun e=>h.out e.symm)).trans k.out;have M:=Qb f 3 _ Z;have T:=Qj f 3;obtain⟨O,Q,rfl⟩:=QaS s
 clear s y D q f k i B;go_wp2
 exact Xz (v:=.tuple #[]) (by simp[results,results169,go_sem]) Z ⟨Z,R.out⟩
theorem Qmr (w:World) (n:Int):∀ (j:Nat) (u:Value),([n].map (Value.int .i64))[j]?=some u->(w.alloc (.cells #[Iv n] 2)).cell? ((⟨w.heap.size,0,none⟩:Addr).add j)=some u:=Qmk w [Iv n] 2
theorem Qb4 (S:WAt w b most m R g) (n:Int) (d:R.top.v.length+1<=1000000) :
 Calls prog 169 #[Pv g.t.c 0,.slice (some ⟨w.heap.size,0,none⟩) 1 1] (w.alloc (.cells #[Iv n] 2)) fun e w'=>e=.returned (.tuple #[])/\WTo g w w' b most m (R.push [n]):=by
 have a:=ZO w (.cells #[Iv n] 2);refine(Qb6 (S.below a) (l:=[n]) Z (Qmr w n) d).mono ?_
 rintro e w' ⟨rfl,h⟩;exact⟨Z,WTo.then (S.stepB a) Z Z h⟩
def QmR (w:World) (fr:RFr) (e:Ending) (w':World):Prop:=∃ k x n,e=.returned (Pv k 0)/\w.heap.size<=k/\w.heap.size<=x/\WFr w' k fr (.slice (some ⟨x,0,none⟩) n n)/\Below w.heap.size w w'
theorem QdO (F:WFr w c fr v) (q:fr.v.length<=1000000){i:Nat}(b:l.length=n) (f:n<=1000000) (m:intsL.In w Q l [.slice p n i]) (a:QaA fr.v l=some xs) (h o:Nat) :
 Calls prog 216 #[Pv c 0,Iv h,Iv o,.slice p n i] w fun e w'=>QmR w ⟨h,o,0,xs⟩ e w':=by
 have C:=Qc (Qem F q b f m a);have s:Hid (xs.length=n):=(Qaj a).trans b;clear F b f m a;go_enter func216,ntmps216
 go_wp2_with (go_at_call 167;refine C.out.mono ?_;rintro t g ⟨k,rfl,r,j,d⟩)
 go_ret;exact⟨g.heap.size,k,n,Z,d.size,r,⟨Qe _ _ _,Q0 j (fun x a=>Below.heap_alloc _ _ _ (QbC.lt j a))⟩,d.trans ((ZO g _).mono d.size)⟩
theorem WAt.callsForm (S:WAt w b most m R g):∃ gc cap,g.vc=.slice (some ⟨gc,0,none⟩) (R.rest.length+1) cap/\R.rest.length+1<=cap/\w.cell? ⟨gc,R.rest.length,none⟩=some (Pv g.t.c 0):=by
 rcases S.calls.2 with ⟨_,k⟩|⟨gc,cap,i,e,_,h,f,l,n,d⟩
 ·omega
 ·refine⟨gc,cap,e,f,?_⟩
  have j:=S.rows
  have a:(Qas (g.t::g.fs))[R.rest.length]?=some (Pv g.t.c 0):=by
   simp[Qas,<-j]
  rw[<-d,XR,Xs (by omega),Array.getElem?_toList] at a
  exact Qb h _ _ a
theorem Qgx (S:WAt w b most m R g) (o:R.rest.length<=1000) :
 Calls prog 112 #[Pv b 0] w fun e w'=>e=.returned (Pv g.t.c 0)/\Below w.heap.size w w':=by
 obtain⟨j,h,a,d,k⟩:=S.callsForm
 have f:w.cell? ⟨b,4,none⟩=some g.vc:=Qb S.box 4 _ Z;rw[a] at f
 clear a S;generalize R.rest.length=n at *;have l:(↑(n+1):Int) - 1=n:=by omega
 have i:(n:Int)<(n:Int)+1:=by omega
 go_enter func112,ntmps112
 go_upto_region 1 with fail
 go_quiet (fail)
 go_wp2
 go_ret;exact⟨Z,Qai Zr _⟩
end
theorem Zw.cellAt {e:Est}{L g:Nat->Nat}(h:Zw w b O e L bp g) (k:Nat) (a:k<16):w.cell? ⟨b,1+k,none⟩=some (QaR (e.reg k) (g k)):=by
 have:=h.row.cell (i:=1+k) (by omega)
 rw[this]
 simp[Qme]
theorem Zw.cell0 {e:Est}{L g:Nat->Nat}(h:Zw w b O e L bp g):w.cell? ⟨b,0,none⟩=some (Pv bp 0):=by
 have:=h.row.cell (i:=0) (by omega)
 rw[this];rfl
theorem Qi5 (w:World) (b d:Nat) (O:Nat->Prop) (e:Est) (k:Int) (h:QW w b d O e) :
 Calls prog 217 #[Pv b 0,Iv k] w fun e' w'=>e'=.returned (.bool (e.has k))/\w'=w:=by
 obtain⟨L,g,h⟩:=h
 by_cases a:0<=k
 ·by_cases f:k<16
  ·obtain⟨j,rfl⟩:=Xc a
   have c:=h.cellAt j (by omega)
   cases hr:e.reg j with
   | none =>
     rw[hr] at c
     have E:Hid (e.has j=false):=Est.has_none hr;simp only[QaR] at c
     clear h hr;go_enter func217,ntmps217
     go_wp2
     go_ret;exact⟨by rw[E.out];rfl,Z⟩
   | some r =>
     rw[hr] at c
     have E:Hid (e.has j=true):=Est.has_of (by omega) hr;simp only[QaR] at c
     clear h hr;go_enter func217,ntmps217
     go_wp2
     go_ret;exact⟨by rw[E.out];rfl,Z⟩
  ·have E:Hid (e.has k=false):=Est.has_out (by omega);clear h;go_enter func217,ntmps217
   go_wp2
   go_ret;exact⟨by rw[E.out];rfl,Z⟩
 ·have E:Hid (e.has k=false):=Est.has_out (by omega);clear h;go_enter func217,ntmps217
  go_wp2
  go_ret;exact⟨by rw[E.out];rfl,Z⟩
def Qbe (e:Est) (g:Nat->Nat):List Value:=(List.range 16).map fun k=>QaR (e.reg k) (g k)
theorem Zw.range {e:Est}{L g:Nat->Nat}(h:Zw w b O e L bp g):w.rangeAt b 1 (Qbe e g):=by
 intro j v a
 have c:j<16:=by
  have:=(Zi a).1
  simpa[Qbe] using this
 rw[h.cellAt j c,<-a]
 simp[Qbe,c]
theorem QdC (w:World) (e:Est) (g:Nat->Nat) (k:Nat) (a:k<16) :
 (Instr.index 71 (.agg (Qbe e g).toArray) (Iv k)).run prog w=.ok (QaR (e.reg k) (g k)) w:=by
 have c:(Qbe e g)[k]?=some (QaR (e.reg k) (g k)):=by simp[Qbe,a]
 have b:(sizeOf 70).run prog w=.ok 1 w:=by kernel_rfl
 simp[Instr.index,run_underlying underlying71,asIntOf,b,part,a,c]
theorem Qmw (w:World) (b j:Nat) (O:Nat->Prop) (e:Est) (h:QW w b j O e) :
 Calls prog 36 #[Pv b 0] w fun e' w'=>e'=.returned (Iv e.count)/\w'=w:=by
 obtain⟨L,g,h⟩:=h
 have f:Hid (w.rangeAt b 1 (Qbe e g)):=h.range;clear h;go_enter func36,ntmps36
 go_wp2_with (refine wpList_load_mid Z 71 (.tmp 8) Z b 1 Z (Qbe e g) _ f.out underlying71 Z (by kernel_rfl) ?_)
 go_loop [3,10] (fun n i=>∃ k:Nat,k<=16/\i=Iv k/\n=Iv (Zc e.reg k)) (fun _ i=>16 - (intOf i).toNat)
 case atStart=>exact⟨0,by omega,Z,Z⟩
 case round =>
  obtain⟨k,m,rfl,rfl⟩:=hrel
  have l:=Qa6 e.reg k;by_cases d:k<16
  ·have a:=fun w=>QdC w e g k d
   cases hr:e.reg k with
   | none =>
     have E:Hid (Zc e.reg (k+1)=Zc e.reg k):=by show _=_;simp[Zc,hr]
     rw[hr] at a
     simp only[QaR] at a
     clear hr;go_wp2
     go_round
     case rel=>exact⟨k+1,by omega,by go_num,by rw[E.out]⟩
     case measure=>simp[intOf];omega
   | some r =>
     have E:Hid (Zc e.reg (k+1)=Zc e.reg k+1):=by show _=_;simp[Zc,hr]
     rw[hr] at a
     simp only[QaR] at a
     clear hr;go_wp2
     go_round
     case rel=>exact⟨k+1,by omega,by go_num,by rw[E.out]⟩
     case measure=>simp[intOf];omega
  ·have c:k=16:=by omega
   subst c;have E:Hid (Zc e.reg 16=e.count):=rfl;go_wp2
   go_ret;exact⟨by rw[E.out];rfl,Z⟩
def newReg:Obj:=.cells #[Nv,Iv 0] 285
theorem Zw.mono {e:Est}{L g:Nat->Nat}(h:Zw w b O e L bp g) (c:∀ x,O x->x<w.heap.size->O' x):Zw w b O' e L bp g :=
 ⟨h.row,h.own,h.pool,h.reg,fun x a=>⟨c x (h.all x a).1 (h.all x a).2,(h.all x a).2⟩⟩
theorem Zw.opened {e:Est}{L g:Nat->Nat}(h:Zw w b O e L bp g) (k:Nat) (B:k<16) (z:e.reg k=none) :
 QW ((w.alloc newReg).setCell ⟨b,1+k,none⟩ (Pv w.heap.size 0)) b bp (Q4 O w ((w.alloc newReg).setCell ⟨b,1+k,none⟩ (Pv w.heap.size 0))) (e.set k (some ⟨[],0⟩)) /\
 Qz O (Q4 O w ((w.alloc newReg).setCell ⟨b,1+k,none⟩ (Pv w.heap.size 0))) w ((w.alloc newReg).setCell ⟨b,1+k,none⟩ (Pv w.heap.size 0)):=by
 have l:Qz (fun x=>L x=1) (fun x=>L x=1) w ((w.alloc newReg).setCell ⟨b,1+k,none⟩ (Pv w.heap.size 0)):=((Qz.refl _ w).alloc newReg).setCell (p:=⟨b,1+k,none⟩) h.own _;have v:=h.row.lt;have d:=(h.row.alloc newReg).set (1+k) (Pv w.heap.size 0)
 have c:((w.alloc newReg).setCell ⟨b,1+k,none⟩ (Pv w.heap.size 0)).heap[w.heap.size]?=some (.cells #[Nv,Iv 0] 285 (0,0)):=by
  rw[Xd _ _ _ _ (show w.heap.size≠b by omega)];exact Qe w _ _
 have m:((w.alloc newReg).setCell ⟨b,1+k,none⟩ (Pv w.heap.size 0)).heap.size=w.heap.size+1:=by simp
 generalize (w.alloc newReg).setCell ⟨b,1+k,none⟩ (Pv w.heap.size 0)=s at *;refine⟨⟨QbT L (k+3) w s,fun j=>if j=k then w.heap.size else g j,?_,?_,?_,?_,?_⟩,QcY h.all (by decide) l⟩
 ·refine d.congr fun i A=>?_;unfold Qme QaR Est.set;by_cases r:i=0
  ·subst r;rw[Xr (by omega)];rfl
  ·by_cases a:i=1+k
   ·subst a;simp
   ·have y:¬ (i - 1=k):=by omega
    simp[r,a,y]
 ·exact(Zf h.all (by omega) (by decide) b).2 h.own
 ·exact(h.pool.step l (fun x t u=>by omega)).mono (fun x f _=>(Zf h.all (by omega) (by decide) x).2 f)
 ·intro j q o;by_cases a:j=k
  ·subst a
   have:q=⟨[],0⟩:=by simpa[Est.set] using o.symm
   subst this;refine⟨Nv,?_,Row.nil _ _ _,?_⟩
   ·simpa[Reg.left] using c
   ·simp[QbT,m]
  ·have n:e.reg j=some q:=by simpa[Est.set,a] using o
   have:=((h.reg j q n).step l (fun x t u=>by omega)).mono (O':=fun x=>QbT L (k+3) w s x=j+3) (fun x f _=>(Zf h.all (by omega) (by omega) x).2 f)
   simpa[a] using this
 ·exact Qc8 h.all (by omega) (by omega)
theorem QW.refl_grow {e:Est}(h:QW w b bp O e):QW w b bp (Q4 O w w) e:=h.mono QeL
theorem Qk6 (w:World) (b f:Nat) (O:Nat->Prop) (e:Est) (h:QW w b f O e) :
 Calls prog 170 #[Pv b 0] w fun e' w'=>e'=.returned (Iv e.openK)/\QW w' b f (Q4 O w w') e.opened/\Qz O (Q4 O w w') w w':=by
 have q:=h;obtain⟨L,g,h⟩:=h
 have m:Hid (w.rangeAt b 1 (Qbe e g)):=h.range;have l:Hid (Zw w b O e L f g):=h;have s:=h.row.lt;clear h;have t:Hid (QW w b f O e):=q;clear q;go_enter func170,ntmps170
 go_wp2_with (refine wpList_load_mid Z 71 (.tmp 7) Z b 1 Z (Qbe e g) _ m.out underlying71 Z (by kernel_rfl) ?_)
 go_loop [9] (fun i=>∃ k:Nat,k<=16/\i=Iv k/\∀ j,j<k->e.reg j≠none) (fun i=>16 - (intOf i).toNat)
 case atStart=>exact⟨0,by omega,Z,fun j o=>by omega⟩
 case round =>
  obtain⟨k,v,rfl,a⟩:=hrel
  by_cases d:k<16
  ·have c:=fun w=>QdC w e g k d
   cases hr:e.reg k with
   | none =>
     have E:Hid (e.openK=k/\e.opened=e.set k (some ⟨[],0⟩)):=Est.open_yes a d hr;have Q:=l.out.opened k d hr
     have D:Hid (QW ((w.alloc newReg).setCell ⟨b,1+k,none⟩ (Pv w.heap.size 0)) b f (Q4 O w ((w.alloc newReg).setCell ⟨b,1+k,none⟩ (Pv w.heap.size 0))) (e.set k (some ⟨[],0⟩)) /\
      Qz O (Q4 O w ((w.alloc newReg).setCell ⟨b,1+k,none⟩ (Pv w.heap.size 0))) w ((w.alloc newReg).setCell ⟨b,1+k,none⟩ (Pv w.heap.size 0))):=Q
     have p:=l.out.cellAt k d;have u:=l.out.row.frozen (1+k);rw[hr] at c p
     simp only[QaR] at c p
     clear hr a Q;go_wp2
     go_ret;rw[E.out.1,E.out.2,<-World.setCell_alloc_past _ _ _ _ s]
     exact⟨Z,D.out⟩
   | some r =>
     have N:Hid (∀ j,j<k+1->e.reg j≠none):=fun j o=>by
      rcases Nat.lt_succ_iff_lt_or_eq.1 o with n | n
      ·exact a j n
      ·subst n;rw[hr];simp
     rw[hr] at c
     simp only[QaR] at c
     clear hr a;go_wp2
     go_round
     case rel=>exact⟨k+1,by omega,by go_num,N.out⟩
     case measure=>simp[intOf];omega
  ·have E:Hid (e.openK=-1/\e.opened=e):=Est.open_no (fun j o=>a j (by omega));clear a;go_wp2
   go_ret;rw[E.out.1,E.out.2]
   exact⟨Z,t.out.refl_grow,Qz.refl_grow O w⟩
theorem Zw.closed {e:Est}{L g:Nat->Nat}(h:Zw w b O e L bp g) (k:Nat) (u:k<16) :
 Zw (w.setCell ⟨b,1+k,none⟩ (.pointer none)) b O (e.set k none) L bp g/\Qz O O w (w.setCell ⟨b,1+k,none⟩ (.pointer none)):=by
 have l:Qz (fun x=>L x=1) (fun x=>L x=1) w (w.setCell ⟨b,1+k,none⟩ (.pointer none)):=(Qz.refl _ w).setCell (p:=⟨b,1+k,none⟩) h.own _;have s:O b:=(h.all b (by rw[h.own];decide)).1;refine⟨⟨?_,h.own,h.pool.step l (fun x n o=>by omega),?_,?_⟩,(Qz.refl O w).setCell (p:=⟨b,1+k,none⟩) s _⟩
 ·refine(h.row.set (1+k) (.pointer none)).congr fun i t=>?_
  unfold Qme QaR Est.set;by_cases f:i=0
  ·subst f;rw[Xr (by omega)];rfl
  ·by_cases a:i=1+k
   ·subst a;simp
   ·have r:¬ (i - 1=k):=by omega
    simp[f,a,r]
 ·intro j q d
  have c:e.reg j=some q:=by
   by_cases a:j=k
   ·subst a;simp[Est.set] at d
   ·simpa[Est.set,a] using d
  exact(h.reg j q c).step l (fun x n o=>by omega)
 ·intro x m
  have:=h.all x m
  simpa using this
theorem QiA (l:List Int) (j:Nat) (a:j<l.length):l.take (j+1)=l.take j++[l.getD j 0]:=by
 rw[List.take_succ_eq_append_getElem a];simp[List.getD,a]
theorem Qj0 (w:World) (b o:Nat) (O:Nat->Prop) (e:Est) (k:Int) (h:Qdk w b o O e) :
 Calls prog 171 #[Pv b 0,Iv k] w fun e' w'=>e'=.returned (.bool (e.has k))/\QW w' b o (Q4 O w w') (e.shut k)/\Qz O (Q4 O w w') w w':=by
 have C:Hid (Calls prog 217 #[Pv b 0,Iv k] w fun e' w'=>e'=.returned (.bool (e.has k))/\w'=w):=Qi5 w b o O e k h.1
 cases hh:e.has k with
 | false =>
   have E:Hid (e.shut k=e):=Est.shut_no hh;have HH:Hid (QW w b o O e):=h.1;rw[hh] at C
   clear h hh;go_enter func171,ntmps171
   go_wp2_with (go_at_call 217;refine(C.out).mono ?_;rintro e w' ⟨rfl,rfl⟩)
   go_ret;rw[E.out]
   exact⟨Z,HH.out.refl_grow,Qz.refl_grow O _⟩
 | true =>
   rw[hh] at C
   obtain⟨j,r,rfl,N,I⟩:=Est.has_true hh
   have E:Hid (e.shut j=(e.set j none).withP (e.p.giveAll r.pages)):=Est.shut_yes N I;have K:=h.2.lenR I;obtain⟨⟨L,g,l⟩,U⟩:=h
   have c:=l.cellAt j N;rw[I] at c
   simp only[QaR] at c
   obtain⟨v,J,z,T⟩:=l.reg j r I
   have V:w.cell? ⟨g j,0,none⟩=some v:=Qb J 0 _ Z;obtain⟨a,s,rfl,-,-⟩:=z.form
   have P0:Hid (∃ u,Zw w b (Q4 O w w) (e.withP (e.p.giveAll (r.pages.take 0))) u o g/\Row w (fun x=>u x=j+3) 3 (.slice a r.pages.length s) r.pages/\Qz O (Q4 O w w) w w) :=
    ⟨L,l.mono QeL,z,Qz.refl_grow O w⟩
   obtain⟨gj,F⟩:∃ gj,g j=gj:=⟨_,Z⟩
   rw[F] at c V
   obtain⟨d,hl⟩:∃ d,r.pages.length=d:=⟨_,Z⟩
   have R:Hid (r.pages.length=d):=hl;rw[hl] at V K P0
   clear l U J z T I hh hl F;have ac:(j:Int)<16:=by omega
   go_enter func171,ntmps171
   go_wp2_with (go_at_call 217;refine(C.out).mono ?_;rintro e w' ⟨rfl,W⟩;have W:=W.symm;subst W)
   go_loopw [21] (fun i wr=>∃ m:Nat,m<=d/\i=Iv m/\∃ u,Zw wr b (Q4 O w wr) (e.withP (e.p.giveAll (r.pages.take m))) u o g/\Row wr (fun x=>u x=j+3) 3 (.slice a d s) r.pages/\Qz O (Q4 O w wr) w wr) (fun i _=>d - (intOf i).toNat)
   case atStart=>exact⟨0,by omega,Z,P0.out⟩
   case round =>
    clear P0 c V C;obtain⟨m,hm,rfl,u,l,f,n⟩:=hrel
    have c0:=l.cell0;by_cases aa:m<d
    ·obtain⟨ga,rfl,-,-,-,-⟩:=f.head (by have:=R.out;omega)
     have cm:=f.cell m (by have:=R.out;omega);have y:=QiA r.pages m (by have:=R.out;omega);obtain⟨q,hq⟩:∃ q,r.pages.getD m 0=q:=⟨_,Z⟩
     rw[hq] at cm y
     have G:Hid (Calls prog 218 #[Pv o 0,Iv q] wr fun e' w'=>(∃ t,e'=.returned (.bool t))/\∃ L'',Zw w' b (Q4 O w w') (e.withP (e.p.giveAll (r.pages.take (m+1)))) L'' o g/\Row w' (fun x=>L'' x=j+3) 3 (.slice (some ⟨ga,0,none⟩) d s) r.pages/\Qz O (Q4 O w w') w w'):=by
      refine(QkP wr o (fun x=>u x=2) _ q l.pool).mono ?_
      rintro e' w' ⟨rfl,k1,k2⟩;refine⟨⟨_,Z⟩,QbT u 2 wr w',?_⟩
      obtain⟨Q,P⟩:=l.stepPool k1 k2
      refine⟨?_,?_,n.trans_grow P⟩
      ·rw[y,PSt.giveAll_snoc]
       exact Q.mono (fun x hx _=>Qb8 n.size x hx)
      ·exact(f.step k2 (fun x h1 h2=>by omega)).mono (fun x hx _=>(Zf l.all (by omega) (by omega) x).2 hx)
     have ab:(0:Int)<=m:=by omega
     have X:(m:Int)<d:=by omega
     clear l f n hq y;go_wp2_with (go_at_call 218;refine(G.out).mono ?_;rintro e' A ⟨⟨t,rfl⟩,H⟩)
     have W5:Hid (∃ L'',Zw A b (Q4 O w A) (e.withP (e.p.giveAll (r.pages.take (m+1)))) L'' o g/\Row A (fun x=>L'' x=j+3) 3 (.slice (some ⟨ga,0,none⟩) d s) r.pages/\Qz O (Q4 O w A) w A):=H;clear H;go_wp2
     go_roundw
     case rel=>exact⟨m+1,by omega,by go_num,W5.out⟩
     case measure=>simp[intOf];omega
    ·have M:m=d:=by omega
     have B:r.pages.take m=r.pages:=by rw[M,<-R.out];simp
     rw[B] at l
     obtain⟨Q,P⟩:=l.closed j N
     have D:Hid (Zw (wr.setCell ⟨b,1+j,none⟩ (.pointer none)) b (Q4 O w wr) ((e.set j none).withP (e.p.giveAll r.pages)) u o g/\Qz (Q4 O w wr) (Q4 O w wr) wr (wr.setCell ⟨b,1+j,none⟩ (.pointer none))):=⟨Q,P⟩;have S:Hid (Qz O (Q4 O w wr) w wr):=n;have cj:=l.cellAt j N;have fj:=l.row.frozen (1+j);simp only[QaR] at cj
     have X:¬ (m:Int)<d:=by omega
     clear Q P n l f M B;go_wp2
     go_ret;rw[E.out]
     have eg:Q4 O w (wr.setCell ⟨b,1+j,none⟩ (.pointer none))=Q4 O w wr:=by unfold Q4;simp
     rw[eg]
     exact⟨Z,⟨_,_,D.out.1⟩,S.out.trans D.out.2⟩
set_option maxRecDepth 100000
theorem Qf9 (l:List Int) (h:l≠[]):l.getD (l.length - 1) 0=l.getLastD 0:=by
 rcases List.eq_nil_or_concat l with a | ⟨b,k,a⟩
 ·exact absurd a h
 ·rw[a];simp[List.getD]
theorem Qjm (w:World) (e:Nat) (O:Nat->Prop) (r:Reg) (n:Int) (h:QaM w e O r) (j:r.pages≠[]) (M:r.pages.length<=64) (t:0<=r.pages.getLastD 0) (y:r.pages.getLastD 0<64) (L:0<=r.used) (E:r.used<=16) (P:1<=n) (o:n<=16 - r.used) :
 Calls prog 281 #[Pv e 0,Iv n] w fun e' w'=>e'=.returned (Iv (16*r.pages.getLastD 0+r.used))/\QaM w' e O ⟨r.pages,r.used+n⟩/\Qz O O w w':=by
 obtain⟨v,b,d,g⟩:=h
 have k:r.left=16 - r.used:=by simp[Reg.left,j]
 have f:0<r.pages.length:=List.length_pos_iff.2 j;obtain⟨a,i,rfl,-,-⟩:=d.form
 obtain⟨A,rfl,-,-,-,-⟩:=d.head f
 have l:=d.cell (r.pages.length - 1) (by omega);rw[Qf9 _ j] at l
 rw[k] at b
 have F:w.cell? ⟨e,0,none⟩=some (.slice (some ⟨A,0,none⟩) r.pages.length i):=Qb b 0 _ Z;have C:w.cell? ⟨e,1,none⟩=some (Iv (16 - r.used)):=Qb b 1 _ Z;have N:=Qj b 1
 have D:Hid (QaM (w.setCell ⟨e,1,none⟩ (Iv (16 - r.used - n))) e O ⟨r.pages,r.used+n⟩/\Qz O O w (w.setCell ⟨e,1,none⟩ (Iv (16 - r.used - n)))):=by
  refine⟨⟨.slice (some ⟨A,0,none⟩) r.pages.length i,?_,?_,g⟩,(Qz.refl O w).setCell (p:=⟨e,1,none⟩) g _⟩
  ·rw[Qh b]
   have:(Reg.mk r.pages (r.used+n)).left=16 - r.used - n:=by simp[Reg.left,j];omega
   rw[this];rfl
  ·refine d.keep (fun x K=>?_) d.2;obtain⟨c,H⟩:=d.block K
   exact Xd _ _ _ _ (Q8 H b (by decide))
 obtain⟨m,z⟩:∃ m,r.pages.length=m+1:=⟨r.pages.length - 1,by omega⟩
 rw[z] at F l M
 rw[show m+1 - 1=m by omega] at l
 obtain⟨q,B⟩:∃ q,r.pages.getLastD 0=q:=⟨_,Z⟩
 obtain⟨u,s⟩:∃ u,r.used=u:=⟨_,Z⟩
 have G:Hid (r.used=u):=s;rw[B] at l t y |-
 rw[s] at C L E o
 have J:(0:Int)<=m:=by omega
 have I:(m:Int)<(m+1:Nat):=by omega
 clear b d z B k f j s;go_enter func281,ntmps281
 go_wp2_with fail
 go_quiet (fail)
 go_wp2
 go_ret;rw[G.out] at D |-
 refine⟨?_,D.out.1,((Qz.refl O _).drewN _).setCell (p:=⟨e,1,none⟩) g _⟩
 show Ending.returned (Value.int .i64 ((q+1)*16 - (16 - u)))=_;rw[show (q+1)*16 - (16 - u)=16*q+u by omega]
theorem Qhj {b:Nat}{r:Reg}{q:Int}{f:Nat}{o:Obj}{C:Value}(t:w.heap[b]?=some (.cells #[v,C] 285 (0,0))) (y:Row w O 3 v r.pages) (H:O b)
 (F:w1.ownsRow 0 3 1 (.slice (some ⟨f,0,none⟩) (r.pages.length+1) cap) (r.pages.length+1) (r.pages.map (Value.int .i64)++[Iv q]))
 (a:(w.alloc o).grownBy w1 v.ownBlock) (l:v.ownBlock=some f\/f=w.heap.size+1) (u:f<w1.heap.size) :
 w1.cell? ⟨b,0,none⟩=some v/\w1.cell? ⟨b,1,none⟩=some C/\w1.frozen? ⟨b,0,none⟩=false/\w1.frozen? ⟨b,1,none⟩=false /\
 QaM ((w1.setCell ⟨b,0,none⟩ (.slice (some ⟨f,0,none⟩) (r.pages.length+1) cap)).setCell ⟨b,1,none⟩ (Iv 16)) b (Q4 O w w1) ⟨r.pages++[q],0⟩ /\
 Qz O (Q4 O w w1) w ((w1.setCell ⟨b,0,none⟩ (.slice (some ⟨f,0,none⟩) (r.pages.length+1) cap)).setCell ⟨b,1,none⟩ (Iv 16)):=by
 have m:=XC t
 have k:v.ownBlock≠some b:=fun e=>by
  obtain⟨c,G⟩:=y.block e
  exact absurd Z (Q8 G t (by decide))
 have g:∀ x,x<w.heap.size->v.ownBlock≠some x->w1.heap[x]?=w.heap[x]?:=fun x j z =>
  (a.block x (by simp;omega) (fun e=>z e.symm)).trans (Below.heap_alloc _ _ _ j)
 have d:=(g b m k).trans t;have E:w.heap.size+1<=w1.heap.size:=by have:=a.size;simpa using this
 have B:∀ x,O x\/w.heap.size<=x->x<w1.heap.size->Q4 O w w1 x:=fun x h s=>⟨h,s⟩;have i:=y.pushed (o:=o) F l u (Q4 O w w1) B
 have n:b≠f:=by
  intro e;subst e;rcases l with s | s
  ·exact k s
  ·omega
 have A:Q4 O w w1 b:=B b (Or.inl H) (by omega);refine⟨Qb d 0 _ Z,Qb d 1 _ Z,Qj d 0,Qj d 1,⟨.slice (some ⟨f,0,none⟩) (r.pages.length+1) cap,?_,?_,A⟩,?_⟩
 ·rw[Qh (Qh d 0 _) 1]
  have:(Reg.mk (r.pages++[q]) 0).left=16:=by simp[Reg.left]
  rw[this];rfl
 ·refine i.keep (fun x j=>?_) i.2;simp[Value.ownBlock] at j;subst j
  rw[Xd _ _ _ _ (Ne.symm n),Xd _ _ _ _ (Ne.symm n)]
 ·have D:Qz O (Q4 O w w1) w w1:=by
   refine⟨a.os,a.tape,a.output,by omega,fun x j I=>?_,fun x j=>j.1⟩
   exact g x j (fun e=>I (y.2 x e))
  exact(D.setCell (p:=⟨b,0,none⟩) A _).setCell (p:=⟨b,1,none⟩) A _
theorem Qls (w:World) (b:Nat) (O:Nat->Prop) (e:Est) (L g:Nat->Nat) (a l:Nat) (h:Zw w b O e L a g) (j:e.p.nextK<0) :
 Calls prog 280 #[Pv b 0,Pv l 0] w fun e' w'=>e'=.returned (.bool false)/\QW w' b a (Q4 O w w') e/\Qz O (Q4 O w w') w w':=by
 have d:e.p.Ok:=h.pool.ok;have r:=h.cell0
 have G:Hid (Calls prog 289 #[Pv a 0] w fun e' w'=>e'=.returned (Iv e.p.nextK)/\QW w' b a (Q4 O w w') e/\Qz O (Q4 O w w') w w'):=by
  refine(Qgg w a (fun x=>L x=2) _ h.pool).mono ?_
  rintro e' w' ⟨rfl,m,k⟩;obtain⟨f,n⟩:=h.stepPool m k
  rw[PSt.take_none d j] at f
  exact⟨Z,⟨_,_,f⟩,n⟩
 obtain⟨q,i⟩:∃ q,e.p.nextK=q:=⟨_,Z⟩
 rw[i] at j G
 clear h i;go_enter func280,ntmps280
 go_wp2_with (go_at_call 289;refine(G.out).mono ?_;rintro e' o ⟨rfl,c⟩)
 go_ret;exact⟨Z,c⟩
theorem QkJ (w:World) (b:Nat) (O:Nat->Prop) (e:Est) (L g:Nat->Nat) (u j:Nat) (r:Reg) (h:Zw w b O e L u g) (hr:e.reg j=some r) (hl:r.pages.length<=64) (hk:0<=e.p.nextK) :
 Calls prog 280 #[Pv b 0,Pv (g j) 0] w fun e' w'=>e'=.returned (.bool true)/\∃ L',Zw w' b (Q4 O w w') ((e.set j (some ⟨r.pages++[e.p.nextK],0⟩)).withP e.p.take) L' u g/\Qz O (Q4 O w w') w w':=by
 have c0:=h.cell0;have B:=(PSt.nextK_lt h.pool.ok).2;have aa:=h.pool.ok.most
 have G:Hid (Calls prog 289 #[Pv u 0] w fun e' w'=>e'=.returned (Iv e.p.nextK)/\Zw w' b (Q4 O w w') (e.withP e.p.take) (QbT L 2 w w') u g/\Qz O (Q4 O w w') w w'):=by
  refine(Qgg w u (fun x=>L x=2) _ h.pool).mono ?_
  rintro e' w' ⟨rfl,k1,k2⟩;obtain⟨P,N⟩:=h.stepPool k1 k2
  exact⟨Z,P,N⟩
 obtain⟨q,W⟩:∃ q,e.p.nextK=q:=⟨_,Z⟩
 rw[W] at hk B G |-
 clear h W;obtain⟨d,y⟩:∃ d,g j=d:=⟨_,Z⟩
 have Q:Hid (g j=d):=y;rw[y]
 clear y;go_enter func280,ntmps280
 go_wp2_with fail
 refine(G.out).mono ?_
 rintro e' A ⟨rfl,S,U⟩;have z:(e.withP e.p.take).reg j=some r:=hr;obtain⟨v,C,H,T⟩:=S.reg j r z
 rw[Q.out] at C T
 have cv:A.cell? ⟨d,0,none⟩=some v:=Qb C 0 _ Z;obtain⟨a,t,rfl,-,-⟩:=H.form
 have m:=H.1;obtain⟨i0,hi,J,M,R⟩:=info_parts info_int
 have I:Hid (∀ k c i,i.ownsRow 0 3 1 (.slice (some ⟨k,0,none⟩) (r.pages.length+1) c) (r.pages.length+1) (r.pages.map (Value.int .i64)++[Iv q]) ->
  (A.alloc (.cells #[Iv q] 3)).grownBy i (Value.slice a r.pages.length t).ownBlock->((Value.slice a r.pages.length t).ownBlock=some k\/k=A.heap.size+1)->k<i.heap.size ->
  i.cell? ⟨d,0,none⟩=some (.slice a r.pages.length t)/\i.cell? ⟨d,1,none⟩=some (Iv r.left)/\i.frozen? ⟨d,0,none⟩=false/\i.frozen? ⟨d,1,none⟩=false /\
  ∃ L',Zw ((i.setCell ⟨d,0,none⟩ (.slice (some ⟨k,0,none⟩) (r.pages.length+1) c)).setCell ⟨d,1,none⟩ (Iv 16)) b (Q4 O w ((i.setCell ⟨d,0,none⟩ (.slice (some ⟨k,0,none⟩) (r.pages.length+1) c)).setCell ⟨d,1,none⟩ (Iv 16))) ((e.set j (some ⟨r.pages++[q],0⟩)).withP e.p.take) L' u g /\
   Qz O (Q4 O w ((i.setCell ⟨d,0,none⟩ (.slice (some ⟨k,0,none⟩) (r.pages.length+1) c)).setCell ⟨d,1,none⟩ (Iv 16))) w ((i.setCell ⟨d,0,none⟩ (.slice (some ⟨k,0,none⟩) (r.pages.length+1) c)).setCell ⟨d,1,none⟩ (Iv 16))):=by
  intro k c i E f o n;have K:=Q.out;clear Q;subst K;obtain⟨X,V,d3,d4,F,d6⟩:=Qhj (r:=r) C H T E f o n
  refine⟨X,V,d3,d4,?_⟩
  obtain⟨P,N⟩:=S.stepReg z F d6
  exact⟨_,P.mono (fun x hx _=>Qb8 U.size x hx),U.trans_grow N⟩
 obtain⟨l,s⟩:∃ l,r.pages.length=l:=⟨_,Z⟩
 rw[s] at cv m hl I
 clear C H T S U z s G c0;go_wp2_with (at_builtin;refine wpList_append_lies _ Z (.tmp 17) (.tmp 19) 76 Z 0 3 i0 (Iv 0) 1 8 under_ints hi J M R Z (by decide) _ _ _ Z (m.alloc _) ⟨A.heap.size,0,none⟩ 1 1 [Iv q] Z Z (Qge _ _ _) (QcQ _) (by decide) (by unfold maxLen;omega) (by omega) (Xb _) (A.heap.size+1) (by simp) ?_)
 intro k c i E f o n;obtain⟨X,V,d3,d4,F⟩:=I.out k c i E f o n
 have D:Hid (∃ L',Zw ((i.setCell ⟨d,0,none⟩ (.slice (some ⟨k,0,none⟩) (l+1) c)).setCell ⟨d,1,none⟩ (Iv 16)) b (Q4 O w ((i.setCell ⟨d,0,none⟩ (.slice (some ⟨k,0,none⟩) (l+1) c)).setCell ⟨d,1,none⟩ (Iv 16))) ((e.set j (some ⟨r.pages++[q],0⟩)).withP e.p.take) L' u g /\
  Qz O (Q4 O w ((i.setCell ⟨d,0,none⟩ (.slice (some ⟨k,0,none⟩) (l+1) c)).setCell ⟨d,1,none⟩ (Iv 16))) w ((i.setCell ⟨d,0,none⟩ (.slice (some ⟨k,0,none⟩) (l+1) c)).setCell ⟨d,1,none⟩ (Iv 16))):=F
 clear F E f o n m I;go_wp2
 go_ret;exact⟨Z,D.out⟩
theorem QeM (l:List Int) (h:l≠[]):l.getLastD 0∈l:=by
 rcases List.eq_nil_or_concat l with a | ⟨b,k,a⟩
 ·exact absurd a h
 ·rw[a];simp
theorem Qln (w:World) (b u:Nat) (O:Nat->Prop) (e:Est) (k n:Int) (h:Qdk w b u O e) :
 Calls prog 254 #[Pv b 0,Iv k,Iv n] w fun e' w'=>e'=.returned (.tuple #[Iv (e.getAt k n),Iv (e.getCode k n)])/\QW w' b u (Q4 O w w') (e.got k n)/\Qz O (Q4 O w w') w w':=by
 have C:Hid (Calls prog 217 #[Pv b 0,Iv k] w fun e' w'=>e'=.returned (.bool (e.has k))/\w'=w):=Qi5 w b u O e k h.1;have U:Hid (QW w b u O e):=h.1
 cases hh:e.has k with
 | false =>
   have E:Hid (e.getCode k n=15/\e.getAt k n=0/\e.got k n=e):=Est.get_none hh;rw[hh] at C
   clear h hh;go_enter func254,ntmps254
   go_wp2_with (go_at_call 217;refine(C.out).mono ?_;rintro e w' ⟨rfl,rfl⟩)
   go_ret2;rw[E.out.1,E.out.2.1,E.out.2.2]
   exact⟨Z,U.out.refl_grow,Qz.refl_grow O _⟩
 | true =>
   rw[hh] at C
   by_cases B:n<1\/16<n
   ·have E:Hid (e.getCode k n=1/\e.getAt k n=0/\e.got k n=e):=Est.get_range hh B;clear h hh;by_cases Q:n<1
    ·clear B;go_enter func254,ntmps254
     go_wp2_with (go_at_call 217;refine(C.out).mono ?_;rintro e w' ⟨rfl,rfl⟩)
     go_ret2;rw[E.out.1,E.out.2.1,E.out.2.2]
     exact⟨Z,U.out.refl_grow,Qz.refl_grow O _⟩
    ·have R:16<n:=by omega
     clear B;go_enter func254,ntmps254
     go_wp2_with (go_at_call 217;refine(C.out).mono ?_;rintro e w' ⟨rfl,rfl⟩)
     go_ret2;rw[E.out.1,E.out.2.1,E.out.2.2]
     exact⟨Z,U.out.refl_grow,Qz.refl_grow O _⟩
   ·obtain⟨j,r,rfl,M,f⟩:=Est.has_true hh
    have F:=h.2.lenR f;have s:=h.2.used j r f;have Q:¬ n<1:=by omega
    have R:¬ 16<n:=by omega
    obtain⟨⟨L,g,y⟩,d⟩:=h
    have c:=y.cellAt j M;rw[f] at c
    simp only[QaR] at c
    have I:w.cell? ⟨g j,1,none⟩=some (Iv r.left):=by
     obtain⟨v,X,ad,ac⟩:=y.reg j r f
     exact Qb X 1 _ Z
    have ae:(j:Int)<16:=by omega
    have a:r.pages≠[]->0<=r.pages.getLastD 0/\r.pages.getLastD 0<64:=fun h=>by
     have:=d.low (k:=j) (x:=r.pages.getLastD 0) (by rw[Est.at_some f];exact QeM _ h)
     have:=d.ok.most
     omega
    cases hm:r.more n with
    | false =>
      have E:Hid (e.getCode j n=0/\e.getAt j n=16*r.pages.getLastD 0+r.used/\e.got j n=e.set j (some ⟨r.pages,r.used+n⟩)):=Est.get_room M f B hm;obtain⟨A,K⟩:=Reg.room hm (by omega)
      have G:Hid (Calls prog 281 #[Pv (g j) 0,Iv n] w fun e' w'=>e'=.returned (Iv (16*r.pages.getLastD 0+r.used))/\QW w' b u (Q4 O w w') (e.set j (some ⟨r.pages,r.used+n⟩))/\Qz O (Q4 O w w') w w'):=by
       refine(Qjm w (g j) _ r n (y.reg j r f) A F (a A).1 (a A).2 s.1 s.2 (by omega) K).mono ?_
       rintro e' w' ⟨rfl,T,P⟩;obtain⟨W,V⟩:=y.stepReg f T P
       exact⟨Z,⟨_,_,W⟩,V⟩
      have D:¬ r.left<n:=by simpa[Reg.more] using hm
      generalize 16*r.pages.getLastD 0+r.used=z at E G;generalize r.left=lf at I D;generalize g j=gk at c I G;clear y d f hh hm B a K A s;go_enter func254,ntmps254
      go_wp2_with (first | (go_at_call 217;refine(C.out).mono ?_;rintro e' w' ⟨rfl,o⟩;have o:=o.symm;subst o) | (go_at_call 281;refine(G.out).mono ?_;rintro e' w5 ⟨rfl,m⟩))
      go_ret2;rw[E.out.1,E.out.2.1,E.out.2.2]
      exact⟨Z,m⟩
    | true =>
      have D:r.left<n:=by simpa[Reg.more] using hm
      by_cases N:e.p.nextK<0
      ·have E:Hid (e.getCode j n=14/\e.getAt j n=0/\e.got j n=e):=Est.get_full M f B hm N;have G:Hid (Calls prog 280 #[Pv b 0,Pv (g j) 0] w fun e' w'=>e'=.returned (.bool false)/\QW w' b u (Q4 O w w') e/\Qz O (Q4 O w w') w w'):=Qls w b O e L g u _ y N;generalize r.left=lf at I D;generalize g j=gk at c I G;clear y d f hh hm B a s N;go_enter func254,ntmps254
       go_wp2_with (first | (go_at_call 217;refine(C.out).mono ?_;rintro e' w' ⟨rfl,o⟩;have o:=o.symm;subst o) | (go_at_call 280;refine(G.out).mono ?_;rintro e' w5 ⟨rfl,m⟩))
       go_ret2;rw[E.out.1,E.out.2.1,E.out.2.2]
       exact⟨Z,m⟩
      ·have E:Hid (e.getCode j n=0/\e.getAt j n=16*e.p.nextK/\e.got j n=(e.set j (some ⟨r.pages++[e.p.nextK],n⟩)).withP e.p.take):=Est.get_more M f B hm N;have aa:=(PSt.nextK_lt d.ok).2;have ab:=d.ok.most;have H:=d.moreSet f (n:=0) (by omega) (by omega) (by omega);have t:((e.set j (some ⟨r.pages++[e.p.nextK],0⟩)).withP e.p.take).reg j=some ⟨r.pages++[e.p.nextK],0⟩:=by simp[Est.withP,Est.set]
       have q:=H.lenR t
       have G:Hid (Calls prog 280 #[Pv b 0,Pv (g j) 0] w fun e' w'=>e'=.returned (.bool true) /\
        Calls prog 281 #[Pv (g j) 0,Iv n] w' fun J l=>J=.returned (Iv (16*e.p.nextK))/\QW l b u (Q4 O w l) ((e.set j (some ⟨r.pages++[e.p.nextK],n⟩)).withP e.p.take)/\Qz O (Q4 O w l) w l):=by
        refine(QkJ w b O e L g u j r y f F (by omega)).mono ?_
        rintro e' w' ⟨rfl,L',p1,p2⟩;refine⟨Z,?_⟩
        refine(Qjm w' (g j) _ _ n (p1.reg j _ t) (by simp) q (by simp;omega) (by simp;omega) (by simp) (by simp) (by omega) (by simp;omega)).mono ?_
        rintro J l ⟨rfl,T,P⟩;obtain⟨W,V⟩:=p1.stepReg t T P
        refine⟨by simp,⟨QbT L' (j+3) w' l,g,?_⟩,p2.trans_grow V⟩
        have e1:((e.set j (some ⟨r.pages++[e.p.nextK],0⟩)).withP e.p.take).set j (some ⟨r.pages++[e.p.nextK],0+n⟩)=(e.set j (some ⟨r.pages++[e.p.nextK],n⟩)).withP e.p.take:=by
         simp only[Est.withP,Est.set]
         congr 1
         funext i
         by_cases hi:i=j<;>simp[hi]
        rw[<-e1]
        exact W.mono (fun x hx _=>Qb8 p2.size x hx)
       generalize r.left=lf at I D;generalize g j=gk at c I G;clear y d f hh hm B a s H t q;go_enter func254,ntmps254
       go_wp2_with (first | (go_at_call 217;refine(C.out).mono ?_;rintro e' w' ⟨rfl,o⟩;have o:=o.symm;subst o) | (go_at_call 280;refine(G.out).mono ?_;rintro e' w5 ⟨rfl,m⟩) | (go_at_call 281;refine m.mono ?_;rintro e' w6 ⟨rfl,S⟩))
       go_ret2;rw[E.out.1,E.out.2.1,E.out.2.2]
       exact⟨Z,S⟩
set_option maxRecDepth 100000
theorem Ql6 (w:World) (n:Int) (h:n<0\/64<n) :
 Calls prog 67 #[Iv n] w fun e w'=>e=.returned (.tuple #[.pointer none,.agg #[Iv 1,Iv (-1)]])/\Below w.heap.size w w':=by
 have C:Hid (∀ w,Calls prog 109 #[Iv n] w fun e w'=>e=.returned (.tuple #[.pointer none,.agg #[Iv 1,Iv (-1)]])/\Below w.heap.size w w'):=fun w=>Qmn w n h;clear h;go_enter func67,ntmps67
 go_wp2_with fail
 refine(C.out _).mono ?_
 rintro e b ⟨rfl,f⟩;have a:b.heap[w.heap.size]?=some (.cells #[Iv 0,Iv 0] 32 (0,0)):=(f.block w.heap.size (by simp)).trans (Qe w _ _);have B:Hid (Below w.heap.size w b):=((Below.refl _ w).alloc Ze _).trans (f.mono (by simp));have d:=XC a;have g:b.cell? ⟨w.heap.size,0,none⟩=some (Iv 0):=Qb a 0 _ Z;have i:b.cell? ⟨w.heap.size,1,none⟩=some (Iv 0):=Qb a 1 _ Z;have l:=Qj a 0;have m:=Qj a 1;have j:w.heap.size<=w.heap.size:=Ze;generalize c:w.heap.size=X at *;clear a f;go_wp2
 go_region;go_wp2
 refine Xy (v:=.tuple #[.pointer none,.agg #[Iv 1,Iv (-1)]]) (by simp[results,results67,go_sem,g,i,d]) Z ⟨Z,?_⟩;have k:=((B.out.setCell (p:=⟨X,0,none⟩) (Nat.le_refl X) (Iv 1)).setCell (p:=⟨X,1,none⟩) (Nat.le_refl X) (Iv (-1)));rw[c]
 exact((k.alloc (by simp;omega) _)).drew
def Qfe (bp:Nat):Array Value:=#[Pv bp 0,.pointer none,.pointer none,.pointer none,.pointer none,.pointer none,.pointer none,.pointer none,.pointer none,.pointer none,.pointer none,.pointer none,.pointer none,.pointer none,.pointer none,.pointer none,.pointer none]
theorem QiM (a:Nat):∀ i,i<17->(Qfe a)[i]?=some (Qme a (fun _=>none) (fun _=>0) i):=by
 intro i b
 have:i=0\/i=1\/i=2\/i=3\/i=4\/i=5\/i=6\/i=7\/i=8\/i=9\/i=10\/i=11\/i=12\/i=13\/i=14\/i=15\/i=16:=by omega
 rcases this with h | h | h | h | h | h | h | h | h | h | h | h | h | h | h | h | h<;>subst h<;>rfl
theorem QlS (w:World) (n:Nat) (h:n<=64) (a X Y:Nat) (e:Qn w a (fun x=>X+1<=x/\x<Y) (PSt.new n)) (g:X<w.heap.size) (i:Y<=w.heap.size) :
 Qdk (w.alloc (.cells (Qfe a) 73)) w.heap.size a (fun x=>X<=x/\x<(w.alloc (.cells (Qfe a) 73)).heap.size) (Est.new n):=by
 refine⟨⟨fun x=>if x=w.heap.size then 1 else if X+1<=x/\x<Y then 2 else 0,fun _=>0,?_,?_,?_,?_,?_⟩,Est.ok_new n h⟩
 ·exact⟨Qfe a,Qe w _ _,Z,QiM a⟩
 ·simp
 ·refine(e.step (Qz.of_alloc (fun _=>False) w _) (fun _ _ h=>h)).mono (fun x b _=>?_)
  have:¬ x=w.heap.size:=by omega
  simp[this,b]
 ·intro k r f;simp[Est.new] at f
 ·intro x b;by_cases c:x=w.heap.size
  ·subst c;simp;omega
  ·by_cases d:X+1<=x/\x<Y
   ·simp;omega
   ·simp[c,d] at b
theorem Qks (w:World) (n:Nat) (h:n<=64) :
 Calls prog 67 #[Iv n] w fun e w'=>∃ b bp,e=.returned (.tuple #[Pv b 0,.agg #[Iv 0,Iv 0]])/\Qdk w' b bp (fun x=>w.heap.size<=x/\x<w'.heap.size) (Est.new n)/\Below w.heap.size w w':=by
 have C:Hid (∀ w,Calls prog 109 #[Iv n] w fun e w'=>∃ b,e=.returned (.tuple #[Pv b 0,.agg #[Iv 0,Iv 0]])/\Qn w' b (fun x=>w.heap.size<=x/\x<w'.heap.size) (PSt.new n)/\Below w.heap.size w w'):=fun w=>Qmc w n h;go_enter func67,ntmps67
 go_wp2_with fail
 refine(C.out _).mono ?_
 rintro e a ⟨bp,rfl,j,g⟩;have c:a.heap[w.heap.size]?=some (.cells #[Iv 0,Iv 0] 32 (0,0)):=(g.block w.heap.size (by simp)).trans (Qe w _ _);have B:Hid (Below w.heap.size w a/\Qn a bp (fun x=>w.heap.size+1<=x/\x<a.heap.size) (PSt.new n)):=⟨((Below.refl _ w).alloc Ze _).trans (g.mono (by simp)),j.mono (fun x i _=>⟨by have:=i.1;simp at this;omega,i.2⟩)⟩;have f:=XC c;have k:a.cell? ⟨w.heap.size,0,none⟩=some (Iv 0):=Qb c 0 _ Z;have l:a.cell? ⟨w.heap.size,1,none⟩=some (Iv 0):=Qb c 1 _ Z;have o:=Qj c 0;have s:=Qj c 1;generalize d:w.heap.size=X at *;clear c g j;go_wp2
 refine Xy (v:=.tuple #[Pv (a.heap.size+1) 0,.agg #[Iv 0,Iv 0]]) (by simp[results,results67,go_sem,k,l,f]) Z ⟨a.heap.size+1,bp,Z,?_,?_⟩
 ·rw[d]
  have S:Qz (fun x=>x=X) (fun x=>x=X) a (((a.setCell ⟨X,0,none⟩ (Iv 0)).setCell ⟨X,1,none⟩ (Iv 0)).alloc (.cells #[Iv 0,Iv 0] 32)) :=
   (((Qz.refl (fun x=>x=X) a).setCell (p:=⟨X,0,none⟩) Z _).setCell (p:=⟨X,1,none⟩) Z _).alloc _
  have:=QlS _ n h bp X a.heap.size (B.out.2.step S (fun x q r=>by omega)) (by simp;omega) (by simp)
  simpa[Qfe] using this
 ·rw[d]
  have m:=((B.out.1.setCell (p:=⟨X,0,none⟩) (Nat.le_refl X) (Iv 0)).setCell (p:=⟨X,1,none⟩) (Nat.le_refl X) (Iv 0));exact(m.alloc (by simp;omega) _).alloc (by simp;omega) _
theorem QW.cell0 {e:Est}(h:QW w b bp O e):w.cell? ⟨b,0,none⟩=some (Pv bp 0):=by
 obtain⟨L,g,h⟩:=h
 exact h.cell0
theorem PSt.place_true {s:PSt}{k:Int}(h:s.place k=true):0<=k/\k<16*s.pages:=by simpa[PSt.place] using h
theorem QcV (w:World) (b:Nat) (O:Nat->Prop) (s:PSt) (k:Int) (h:Qn w b O s) :
 Calls prog 256 #[Pv b 0,Iv k] w fun e w'=>e=.returned (.bool (s.place k))/\w'=w:=by
 obtain⟨f,n,o,d,q,r,p,g,a,c⟩:=h
 have i:w.cell? ⟨b,0,none⟩=some (.slice (some ⟨f,0,none⟩) n n):=Qb d 0 _ Z;have j:=c.most;by_cases m:0<=k
 ·by_cases l:k<(n:Int)
  ·have E:Hid (s.place k=true):=by show s.place k=true;simp[PSt.place];omega
   clear a;go_enter func256,ntmps256
   go_wp2
   go_ret;exact⟨by rw[E.out];rfl,Z⟩
  ·have E:Hid (s.place k=false):=by show s.place k=false;simp[PSt.place];omega
   clear a;go_enter func256,ntmps256
   go_wp2
   go_ret;exact⟨by rw[E.out];rfl,Z⟩
 ·have E:Hid (s.place k=false):=by show s.place k=false;simp[PSt.place];omega
  clear a;go_enter func256,ntmps256
  go_wp2
  go_ret;exact⟨by rw[E.out];rfl,Z⟩
theorem QkH (w:World) (b:Nat) (O:Nat->Prop) (s:PSt) (k:Int) (h:Qn w b O s) :
 Calls prog 255 #[Pv b 0,Iv k] w fun e w'=>e=.returned (.tuple #[Iv (s.load k),.bool (s.place k)])/\w'=w:=by
 have c:=QcV w b O s k h;obtain⟨f,n,r,g,p,v,u,o,a,m⟩:=h
 have q:w.cell? ⟨b,0,none⟩=some (.slice (some ⟨f,0,none⟩) n n):=Qb g 0 _ Z
 cases hpl:s.place k with
 | true =>
   rw[hpl] at c
   have E:Hid (s.load k=s.ws k.toNat):=by show _=_;simp[PSt.load,hpl]
   obtain⟨d,j⟩:=PSt.place_true hpl
   obtain⟨i,rfl⟩:=Xc d
   have l:i<n:=by omega
   have t:w.cell? ⟨f,i,none⟩=some (Iv (s.ws i)):=p.cell l;have C:Hid (Calls prog 256 #[Pv b 0,Iv i] w fun e w'=>e=.returned (.bool true)/\w'=w):=c;clear c a d j hpl;go_enter func255,ntmps255
   go_wp2_with (go_at_call 256;refine(C.out).mono ?_;rintro e w' ⟨rfl,rfl⟩)
   go_ret2;exact⟨by rw[E.out];rfl,Z⟩
 | false =>
   rw[hpl] at c
   have E:Hid (s.load k=0):=by show _=_;simp[PSt.load,hpl]
   have C:Hid (Calls prog 256 #[Pv b 0,Iv k] w fun e w'=>e=.returned (.bool false)/\w'=w):=c;clear c a hpl;go_enter func255,ntmps255
   go_wp2_with (go_at_call 256;refine(C.out).mono ?_;rintro e w' ⟨rfl,rfl⟩)
   go_ret2;exact⟨by rw[E.out];rfl,Z⟩
theorem Qn.stored {s:PSt}{a:Nat}{k:Value}(r:w.heap[b]?=some (.cells #[.slice (some ⟨a,0,none⟩) n n,k,Iv s.fresh] 134 (0,0)))
 (t:w.rowIs a 2 n (fun i=>Iv (s.ws i))) (q:Row w O 3 k s.given) (y:O b) (p:O a) (u:n=16*s.pages) (l:s.Ok) (i:Nat) (hi:i<n) (x:Int) :
 Qn (w.setCell ⟨a,i,none⟩ (Iv x)) b O (s.store i x):=by
 have o:s.place i=true:=by simp[PSt.place];omega
 have e:s.store i x={ s with ws:=fun j=>if (j:Int)=i then x else s.ws j }:=by simp[PSt.store,o]
 rw[e]
 obtain⟨A,d,_,_⟩:=id t
 have m:b≠a:=Q8 r d (by decide);refine⟨a,n,k,?_,?_,?_,y,p,u,?_⟩
 ·rw[Xd _ _ _ _ m];exact r
 ·refine(t.set i (Iv x)).congr fun j z=>?_
  by_cases e:j=i
  ·subst e;simp
  ·simp[e];intro h;omega
 ·refine q.keep (fun g f=>?_) q.2;obtain⟨c,v⟩:=q.block f
  exact Xd _ _ _ _ (Q8 v d (by decide))
 ·have:=PSt.ok_store l i x;rw[e] at this;exact this
theorem QhG (w:World) (b:Nat) (O:Nat->Prop) (s:PSt) (k x:Int) (h:Qn w b O s) :
 Calls prog 221 #[Pv b 0,Iv k,Iv x] w fun e w'=>e=.returned (.bool (s.place k))/\Qn w' b O (s.store k x)/\Qz O O w w':=by
 have c:=QcV w b O s k h;have j:=h;obtain⟨d,n,y,m,l,t,r,a,f,g⟩:=h
 have u:w.cell? ⟨b,0,none⟩=some (.slice (some ⟨d,0,none⟩) n n):=Qb m 0 _ Z
 cases hpl:s.place k with
 | true =>
   rw[hpl] at c
   obtain⟨o,q⟩:=PSt.place_true hpl
   obtain⟨i,rfl⟩:=Xc o
   have p:i<n:=by omega
   have z:w.cell? ⟨d,i,none⟩=some (Iv (s.ws i)):=l.cell p;have v:w.frozen? ⟨d,i,none⟩=false:=l.frozen i;have E:Hid (Qn (w.setCell ⟨d,i,none⟩ (Iv x)) b O (s.store i x)):=Qn.stored m l t r a f g i p x;have C:Hid (Calls prog 256 #[Pv b 0,Iv i] w fun e w'=>e=.returned (.bool true)/\w'=w):=c;clear c f o q hpl j;go_enter func221,ntmps221
   go_wp2_with (go_at_call 256;refine(C.out).mono ?_;rintro e w' ⟨rfl,rfl⟩)
   go_ret;exact⟨Z,E.out,(Qz.refl O _).setCell a _⟩
 | false =>
   rw[hpl] at c
   have E:Hid (s.store k x=s):=by show _=_;simp[PSt.store,hpl]
   have H:Hid (Qn w b O s):=j;have C:Hid (Calls prog 256 #[Pv b 0,Iv k] w fun e w'=>e=.returned (.bool false)/\w'=w):=c;clear c f hpl j;go_enter func221,ntmps221
   go_wp2_with (go_at_call 256;refine(C.out).mono ?_;rintro e w' ⟨rfl,rfl⟩)
   go_ret;exact⟨Z,by rw[E.out];exact H.out,Qz.refl O _⟩
theorem Xh:type_of% @And.intro:=@And.intro
section
variable {w w' w2:World}{b most:Nat}{m:List (MFunc 6)}{R R':RM}{g g1:WG}
theorem WAt.cellE (S:WAt w b most m R g):w.cell? ⟨b,0,none⟩=some (Pv g.be 0):=Qb S.box 0 _ Z
theorem WAt.cellP (S:WAt w b most m R g):w.cell? ⟨g.be,0,none⟩=some (Pv g.bp 0):=S.est.1.cell0
theorem WAt.loadC (S:WAt w b most m R g) (k:Int):Calls prog 255 #[Pv g.bp 0,Iv k] w fun e w'=>e=.returned (.tuple #[Iv (R.load k),.bool (R.e.p.place k)])/\w'=w:=by
 obtain⟨⟨L,a,h⟩,-⟩:=S.est
 exact QkH w g.bp _ R.e.p k h.pool
theorem WAt.storeC (S:WAt w b most m R g) (k n:Int):Calls prog 221 #[Pv g.bp 0,Iv k,Iv n] w fun e w'=>e=.returned (.bool (R.e.p.place k))/\WTo g w w' b most m (R.stored k n):=by
 obtain⟨⟨L,c,h⟩,a⟩:=S.est
 refine(QhG w g.bp _ R.e.p k n h.pool).mono ?_
 rintro e w' ⟨rfl,d,f⟩;obtain⟨i,j⟩:=h.stepPool d f
 exact⟨Z,S.toEst ⟨_,c,i⟩ j (a.store k n)⟩
theorem WAt.getC (S:WAt w b most m R g) (h n:Int):Calls prog 254 #[Pv g.be 0,Iv h,Iv n] w fun e w'=>e=.returned (.tuple #[Iv (R.e.getAt h n),Iv (R.e.getCode h n)])/\WTo g w w' b most m { R with e:=R.e.got h n }:=by
 refine(Qln w g.be g.bp _ R.e h n S.est).mono ?_
 rintro e w' ⟨rfl,a,c⟩;exact⟨Z,S.toEst a c (S.est.2.got h n)⟩
theorem WAt.openC (S:WAt w b most m R g):Calls prog 170 #[Pv g.be 0] w fun e w'=>e=.returned (Iv R.e.openK)/\WTo g w w' b most m { R with e:=R.e.opened }:=by
 refine(Qk6 w g.be g.bp _ R.e S.est.1).mono ?_
 rintro e w' ⟨rfl,a,c⟩;exact⟨Z,S.toEst a c S.est.2.opened⟩
theorem WAt.shutC (S:WAt w b most m R g) (h:Int):Calls prog 171 #[Pv g.be 0,Iv h] w fun e w'=>e=.returned (.bool (R.e.has h))/\WTo g w w' b most m { R with e:=R.e.shut h }:=by
 refine(Qj0 w g.be g.bp _ R.e h S.est).mono ?_
 rintro e w' ⟨rfl,a,c⟩;exact⟨Z,S.toEst a c (S.est.2.shut h)⟩
theorem QbQ (S:WAt w b most m R g) (k:Int):Calls prog 220 #[Pv b 0,Iv k] w fun e w'=>e=.returned (Iv (R.load k))/\w'=w:=by
 have C:=Qc (S.loadC k);have d:=S.cellE;have c:=S.cellP;clear S;generalize R.load k=x at *;generalize R.e.p.place k=y at *;go_enter func220,ntmps220
 go_wp2_with (go_at_call 255;refine C.out.mono ?_;rintro f w' ⟨rfl,a⟩;have a:=a.symm;subst a)
 go_ret;exact⟨Z,Z⟩
def Qlg (R:RM) (a k:Int) (e:Ending):Prop:=(0<=k/\k<R.load a/\e=.returned (Iv (wrap64 (wrap64 (a+1)+k))))\/(¬ (0<=k/\k<R.load a)/\e=.panicked (QdT 2))
theorem Qcp (S:WAt w b most m R g) (a k:Int):Calls prog 222 #[Pv b 0,Iv a,Iv k] w fun e w'=>Qlg R a k e/\w'=w:=by
 have C:=Qc (QbQ S a);clear S;by_cases d:0<=k
 ·have l:decide (k>=0)=true:=by simpa using d
  by_cases f:k<R.load a
  ·have j:decide (k<R.load a)=true:=by simpa using f
   have E:Hid (Qlg R a k (.returned (Iv (wrap64 (wrap64 (a+1)+k))))):=.inl ⟨d,f,Z⟩;clear d f;go_enter func222,ntmps222
   go_wp2_with (first | (go_at_call 220;refine C.out.mono ?_;rintro i w' ⟨rfl,c⟩;have c:=c.symm;subst c) | (go_at_call 111;refine(QaF _ _).mono ?_;rintro i w' ⟨rfl,c⟩;have c:=c.symm;subst c))
   go_ret;exact⟨E.out,Z⟩
  ·have j:decide (k<R.load a)=false:=by simpa using f
   have E:Hid (Qlg R a k (.panicked (QdT 2))):=.inr ⟨fun h=>f h.2,Z⟩;clear d f;go_enter func222,ntmps222
   go_wp2_with (go_at_call 220;refine C.out.mono ?_;rintro i w' ⟨rfl,c⟩;have c:=c.symm;subst c)
   refine(Z4 _ _).mono ?_
   rintro i w' ⟨rfl,c⟩;subst c;exact⟨Z,E.out,Z⟩
 ·have l:decide (k>=0)=false:=by simpa using d
  have E:Hid (Qlg R a k (.panicked (QdT 2))):=.inr ⟨fun h=>d h.1,Z⟩;clear d;go_enter func222,ntmps222
  go_wp2_with fail
  refine(Z4 _ _).mono ?_
  rintro i w' ⟨rfl,c⟩;subst c;exact⟨Z,E.out,Z⟩
def RM.thinged (R:RM) (h size:Int) (l:List Int):RM:={ R with e:=(R.e.got h size).withP ((R.e.got h size).p.puts (R.e.getAt h size) l) }
def ThW (g:WG) (w:World) (b most:Nat) (m:List (MFunc 6)) (R:RM) (h size:Int) (l:List Int) (e:Ending) (w':World):Prop :=
 (R.e.getCode h size=0/\e=.returned (Iv (R.e.getAt h size))/\WTo g w w' b most m (R.thinged h size l))\/(R.e.getCode h size≠0/\e=.panicked (QdT 6)/\WTo g w w' b most m R)
theorem Qfj (x:Int):∀ (l:List Int) (s:PSt) (k:Int),s.puts k (l++[x])=(s.puts k l).store (k+l.length) x
 | [],s,k=>by simp[PSt.puts]
 | y::l,s,k=>by
   have:=Qfj x l (s.store k y) (k+1)
   simp only[List.cons_append,PSt.puts,this,List.length_cons]
   congr 1
   omega
theorem WIn.at (h:WIn w O l (.slice a n c)) (b:l[i]?=some x):∃ k o,a=some ⟨k,o,none⟩/\O k/\w.cell? ⟨k,o+i,none⟩=some (Iv x):=by
 obtain⟨p,d,e,h⟩:=h
 cases e
 have j:=(Zi b).1;obtain⟨k,o,m,g,-,f⟩:=h i j
 refine⟨k,o,m,g,?_⟩
 rw[f]
 simp[List.getD,b]
theorem QdU (S:WAt w b most m R g) (h size:Int)(hn:l.length=n) (hb:n<=1000) (B:WIn w (fun x=>g.ow x=0) l (.slice a n c)) :
 Calls prog 219 #[Pv b 0,Iv h,Iv size,.slice a n c] w fun e w'=>ThW g w b most m R h size l e w':=by
 have C:=Qc (S.getC h size);have N:=Qc (QiP S.est.2 h size);have T:=S.cellE;have HS:=Qc S;have HL:=Qc B;have W:=Qc hn;clear S B hn;by_cases f:R.e.getCode h size=0
 ·have I:=Qc f;rw[f] at C
  clear f;obtain⟨A,P⟩:∃ A,R.e.getAt h size=A:=⟨_,Z⟩
  have X:=Qc P;rw[P] at C N
  clear P;go_enter func219,ntmps219
  go_upto_region 2 with (go_at_call 254;refine C.out.mono ?_;rintro H r ⟨rfl,F⟩)
  obtain⟨G,E,s,c2,f2⟩:=F
  have E:=Qc E;have s:=Qc s;have CF:=Qc (Xh c2 f2)
  have u:Hid (WIn r (fun x=>G.ow x=0) l (.slice a n c)):=by
   refine WIn.keep (fun k t B=>s.out.block k B (fun e=>e t)) (fun k t B=>?_) HL.out;refine Xq.1 fun U=>?_;rcases s.out.own k U with h | h
   ·exact h t
   ·omega
  clear c2 f2 T C HL;go_wp2_with (go_at_call 111;refine(QaF _ _).mono ?_;rintro H w' ⟨rfl,y⟩;have y:=y.symm;subst y)
  go_loopw [28] (fun i wr=>∃ q:Nat,q<=n/\i=Iv q/\WTo G r wr b most m { R with e:=(R.e.got h size).withP ((R.e.got h size).p.puts A (l.take q)) }) (fun i _=>n - (intOf i).toNat)
  case atStart=>exact⟨0,Xb _,Z,⟨G,by simpa[PSt.puts,Est.withP] using E.out,⟨Qz.refl _ _,Z,Z⟩,Z,Z⟩⟩
  case round =>
   obtain⟨q,hq,rfl,g3,d,z,J,K⟩:=hrel
   by_cases M:q<n
   ·have aa:(q:Int)<n:=by omega
    obtain⟨x,V⟩:∃ x,l[q]?=some x:=⟨_,Zg (by rw[W.out];exact M)⟩
    obtain⟨k,o,rfl,t,L⟩:=u.out.at V
    have L:wr.cell? ⟨k,o+q,none⟩=some (Iv x):=(XU (w:=r) (a:=⟨k,o+q,none⟩) (z.block k (Xi r _ L) (fun e=>e t))).trans L;have T:=d.cellE;have q1:=d.cellP;have C3:=Qc (d.storeC (A+q) x);have EW:Hid (wrap64 (A+(q:Int))=A+q):=by show _=_;have:=N.out;unfold wrap64;omega
    have R3:Hid (∀ D,WTo g3 wr D b most m (RM.stored { R with e:=(R.e.got h size).withP ((R.e.got h size).p.puts A (l.take q)) } (A+q) x)->WTo G r D b most m { R with e:=(R.e.got h size).withP ((R.e.got h size).p.puts A (l.take (q+1))) }):=by
     intro D j;have j:=WTo.then z J K j;have e1:l.take (q+1)=l.take q++[x]:=by rw[XV,V];rfl
     have e2:(l.take q).length=q:=by rw[List.length_take,W.out];omega
     rw[e1,Qfj,e2]
     exact j
    clear d z J K V t E u s I N;generalize (R.e.got h size).p.puts A (l.take q)=st at *;go_wp2_with (rw[EW.out];go_at_call 221;refine C3.out.mono ?_;rintro H D ⟨rfl,j⟩)
    have R5:=Qc (R3.out _ j);clear j R3 C3 L T q1;go_wp2
    go_roundw
    case rel=>exact⟨q+1,by omega,by go_num,R5.out⟩
    case measure=>simp[intOf];omega
   ·have Q:q=n:=by omega
    subst Q
    have O:Hid (ThW g w b most m R h size l (.returned (Iv A)) wr):=by
     refine .inl ⟨I.out,by rw[X.out],WTo.then s.out CF.out.1 CF.out.2 ?_⟩;unfold RM.thinged;rw[X.out]
     have e:l.take q=l:=XO (by rw[W.out];exact Ze);rw[e] at d
     exact⟨g3,d,z,J,K⟩
    clear d z J K;go_wp2
    go_ret;exact O.out
 ·have d0:(R.e.getCode h size==0)=false:=by simpa using f
  have I:=Qc f;have EG:=Qc (QlV f);clear f;obtain⟨cd,v⟩:∃ cd,R.e.getCode h size=cd:=⟨_,Z⟩
  rw[v] at C d0
  clear v;go_enter func219,ntmps219
  go_wp2_with (go_at_call 254;refine C.out.mono ?_;rintro H r ⟨rfl,F⟩)
  refine(Z4 _ _).mono ?_
  rintro H w' ⟨rfl,y⟩;subst y;rw[EG.out] at F
  exact⟨Z,.inr ⟨I.out,Z,F⟩⟩
end
section
variable {w w' w2:World}{b most:Nat}{m:List (MFunc 6)}{R R':RM}{g g1:WG}
theorem ThW.then {h size:Int}{e:Ending}(T:WSt g g1 w w2) (f:g1.t.c=g.t.c) (i:g1.fs=g.fs) (H:ThW g1 w2 b most m R h size l e w'):ThW g w b most m R h size l e w':=by
 rcases H with ⟨a,c,d⟩|⟨a,c,d⟩
 ·exact .inl ⟨a,c,WTo.then T f i d⟩
 ·exact .inr ⟨a,c,WTo.then T f i d⟩
theorem Qhc (S:WAt w b most m R g) (h:Int)(k:l.length=n) (p:n<=1000) (q:WIn w (fun x=>g.ow x=0) l (.slice a n c)) :
 Calls prog 172 #[Pv b 0,Iv h,.slice a n c] w fun e w'=>ThW g w b most m R h (if l.length=0 then 1 else (l.length:Int)) l e w':=by
 have C:=Qc (QdU S h (if l.length=0 then 1 else (l.length:Int)) k p q)
 have E:(if l.length=0 then 1 else (l.length:Int))=if (1:Int)<=n then (n:Int) else 1:=by
  rw[k]
  split<;>split<;>omega
 rw[E] at C |-
 have o:∀ (x y:Int),max x y=if y<=x then x else y:=fun x y=>by omega
 clear S k p q E;go_enter func172,ntmps172
 by_cases j:(1:Int)<=n
 ·rw[Xs j] at C |-
  have i:max (n:Int) 1=n:=by omega
  clear j o;go_wp2_with fail
  try rw[i]
  refine C.out.mono ?_;rintro s r (⟨f,rfl,d⟩|⟨f,rfl,d⟩)
  ·have R:=Qc (Xh f d);clear f d C i;go_wp2
   go_ret;exact .inl ⟨R.out.1,Z,R.out.2⟩
  ·exact⟨Z,.inr ⟨f,Z,d⟩⟩
 ·rw[Xr j] at C |-
  have i:max (n:Int) 1=1:=by omega
  clear j o;go_wp2_with fail
  try rw[i]
  refine C.out.mono ?_;rintro s r (⟨f,rfl,d⟩|⟨f,rfl,d⟩)
  ·have R:=Qc (Xh f d);clear f d C i;go_wp2
   go_ret;exact .inl ⟨R.out.1,Z,R.out.2⟩
  ·exact⟨Z,.inr ⟨f,Z,d⟩⟩
def Qn8 (g:WG) (w:World) (b most:Nat) (m:List (MFunc 6)) (R:RM) (h n:Int) (e:Ending) (w':World):Prop :=
 (0<=n/\n<=15/\ThW g w b most m R h (n+1) [n] e w')\/(¬ (0<=n/\n<=15)/\e=.panicked (QdT 3)/\WTo g w w' b most m R)
theorem Qhn (S:WAt w b most m R g) (h n:Int) :
 Calls prog 173 #[Pv b 0,Iv h,Iv n] w fun e w'=>Qn8 g w b most m R h n e w':=by
 by_cases k:0<=n
 ·have A:decide (n>=0)=true:=by simpa using k
  by_cases o:n<=15
  ·have x:decide (n<=15)=true:=by simpa using o
   have r:=ZO w (.cells #[Iv n] 2);have t:=S.below r;have z:=Qc (S.stepB r);have v:g.ow w.heap.size=0:=Xq.1 fun e=>by have:=S.lt _ e;omega
   have C:=Qc (QdU t h (n+1) (l:=[n]) (a:=some ⟨w.heap.size,0,none⟩) (n:=1) (c:=1) Z (by omega) ⟨_,1,Z,fun i y=>by
    have:i=0:=by simpa using y
    subst this;exact⟨w.heap.size,0,Z,v,by simp,Qb (Qe w #[Iv n] 2) 0 _ Z⟩⟩)
   have u:wrap64 (n+1)=n+1:=by unfold wrap64;omega
   have d:=Qc (Xh k o);clear S t r v k o;go_enter func173,ntmps173
   go_wp2_with (go_at_call 111;refine(QaF _ _).mono ?_;rintro q w' ⟨rfl,j⟩;have j:=j.symm;subst j)
   try rw[u]
   refine C.out.mono ?_;rintro q B f;replace f:=f.then z.out Z Z;rcases f with ⟨p,rfl,f⟩|⟨p,rfl,f⟩
   ·have R:=Qc (Xh p f);clear p f C u;go_wp2
    go_ret;exact .inl ⟨d.out.1,d.out.2,.inl ⟨R.out.1,Z,R.out.2⟩⟩
   ·exact⟨Z,.inl ⟨d.out.1,d.out.2,.inr ⟨p,Z,f⟩⟩⟩
  ·have x:decide (n<=15)=false:=by simpa using o
   have s:=Qc S;have d:Hid (¬ n<=15):=o;clear S k o;go_enter func173,ntmps173
   go_wp2_with fail
   refine(Z4 _ _).mono ?_
   rintro q w' ⟨rfl,j⟩;subst j;exact⟨Z,.inr ⟨fun h=>by have:=d.out;omega,Z,WTo.same s.out Zr⟩⟩
 ·have A:decide (n>=0)=false:=by simpa using k
  have s:=Qc S;have d:Hid (¬ 0<=n):=k;clear S k;go_enter func173,ntmps173
  go_wp2_with fail
  refine(Z4 _ _).mono ?_
  rintro q w' ⟨rfl,j⟩;subst j;exact⟨Z,.inr ⟨fun h=>by have:=d.out;omega,Z,WTo.same s.out Zr⟩⟩
end
theorem Xu:type_of% @decide_eq_false:=@decide_eq_false
section
variable {w w' w2:World}{b most:Nat}{m:List (MFunc 6)}{R R':RM}{g g1:WG}
theorem WAt.setOut (S:WAt w b most m R g){n:Int}{v9:Value}{w9:World}(r:w9.ownsRow 0 2 1 v9 (R.out.length+1) (R.out.map (Value.int .i64)++[Iv n])) (c:w.grownBy w9 g.vo.ownBlock) (o:∀ k,v9.ownBlock=some k->g.vo.ownBlock=some k\/k=w.heap.size) :
 WTo g w (w9.setCell ⟨b,7,none⟩ v9) b most m { R with out:=R.out++[n] }:=by
 have i:=XC S.box;have d:∀ x,g.vo.ownBlock=some x->x≠b:=fun x a e=>by have:=S.oo x a;rw[e,S.ob] at this;omega
 have j:w9.heap[b]?=_:=(c.block b i (fun e=>d _ e.symm Z)).trans S.box
 have f:∀ k,v9.ownBlock=some k->k≠b:=fun k s e=>by
  rcases o k s with h | h
  ·exact d k h e
  ·omega
 have q:w.heap.size<=(w9.setCell ⟨b,7,none⟩ v9).heap.size:=by simpa using c.size
 have k:Wc g.ow (QcO g.ow 4 w (w9.setCell ⟨b,7,none⟩ v9)) (fun x=>x=1\/x=4) w (w9.setCell ⟨b,7,none⟩ v9):=Wc.marks S (by omega) c.os c.tape c.output q (fun x a l=>by
  rw[Xd _ _ _ _ (fun (e:x=b)=>l (.inl (e ▸ S.ob)))]
  exact c.block x a (fun e=>l (.inr (S.oo x e.symm))))
 have p:QbC (w9.setCell ⟨b,7,none⟩ v9) v9 (R.out++[n]):=by
  show World.ownsRow _ 0 _ 1 v9 (R.out++[n]).length ((R.out++[n]).map (Value.int .i64));rw[List.length_append,List.map_append]
  exact Q0 r (fun x a=>Xd _ _ _ _ (f x a))
 refine⟨{ g with vo:=v9,ow:=QcO g.ow 4 w (w9.setCell ⟨b,7,none⟩ v9) },⟨?_,S.kEst k (by omega),S.kMod k,S.kInp k,S.inpC,S.kCalls k (by omega),S.kBack k,p,S.kFrs k (fun x h e=>by omega),S.kob k,S.koc k,fun x a=>?_,k.lt,S.klow k⟩,⟨k.step,Z,Z⟩,Z,Z⟩
 ·have:=Qh j 7 v9
  simpa using this
 ·rcases o x a with h | h
  ·exact(QaQ (S.out.lt h)).trans (S.oo x h)
  ·exact QcE (by omega) (p.lt a)
theorem Qfz (S:WAt w b most m R g) (n:Int) (V:R.out.length<=2000) :
 Calls prog 175 #[Pv b 0,Iv n] w fun e w'=>(R.out.length<2000/\e=.returned (.tuple #[])/\WTo g w w' b most m { R with out:=R.out++[n] })\/(¬ R.out.length<2000/\e=.panicked (QdT 8)/\WTo g w w' b most m R):=by
 obtain⟨H,J,q,s,y⟩:=iInfo64
 obtain⟨P,W,l⟩:=QaS S.out
 have B:w.cell? ⟨b,7,none⟩=some g.vo:=Qb S.box 7 _ Z;rw[l] at B
 have E:=Qc S;have p:=Qc l;by_cases j:R.out.length<2000
 ·have I:decide ((R.out.length:Int)<2000)=true:=Xt (by omega);have t:=ZO w (.cells #[Iv n] 2);have i:=Qc (S.below t);have D:=Qc (S.stepB t);have o:=Qc i.out.out;have F:=Qc (Qmk w [Iv n] 2);have M:Hid ((w.alloc (.cells #[Iv n] 2)).heap.size=w.heap.size+1):=by show _=_;simp
  have f:=Qc (fun v9 w9=>i.out.setOut (v9:=v9) (w9:=w9) (n:=n));have d:=Qc i.out.box;have a:Hid (∀ x,g.vo.ownBlock=some x->x≠b):=fun x L e=>by have:=S.oo x L;rw[e,S.ob] at this;omega
  have r:Hid (R.out.length<2000):=j;clear S l j t E;unfold QbC at o;rw[p.out] at o f a
  go_enter func175,ntmps175
  go_upto_region 1 with (go_at_call 111;refine(QaF _ _).mono ?_;rintro K w' ⟨rfl,h⟩;have h:=h.symm;subst h)
  go_wp2_with (at_builtin;refine ZP _ Z _ _ 25 Z 2 H (Iv 0) 1 8 iUnder64 J q s y Z (by decide) _ _ _ Z o.out ⟨w.heap.size,0,none⟩ 1 1 [Iv n] Z Z F.out (by intro u C;simp at C;subst C;rfl) (by unfold maxLen;omega) (by omega) ?_)
  intro v9 w9 z A G;have R:=Qc (WTo.then D.out Z Z (f.out v9 w9 z A (fun k N=>(G k N).imp id (fun e=>by rw[M.out];exact e))));have c:=(A.block b (XC d.out) (fun e=>a.out b e.symm Z)).trans d.out;have O:w9.cell? ⟨b,7,none⟩=some g.vo:=Qb c 7 _ Z;have U:=Qj c 7;obtain⟨Q,T,rfl⟩:=QaS z
  clear z A G f c d o B F D i a;go_wp2
  exact Xz (v:=.tuple #[]) (by simp[results,results175,go_sem]) Z (.inl ⟨r.out,Z,R.out⟩)
 ·have I:decide ((R.out.length:Int)<2000)=false:=Xu (by omega);have r:Hid (¬ R.out.length<2000):=j;clear S l j;go_enter func175,ntmps175
  go_wp2_with fail
  refine(Z4 _ _).mono ?_
  rintro K w' ⟨rfl,h⟩;subst h;exact⟨Z,.inr ⟨r.out,Z,WTo.same E.out Zr⟩⟩
def Qnq (g:WG) (w:World) (b most:Nat) (m:List (MFunc 6)) (R:RM) (e:Ending) (w':World):Prop:=match R.inp with
 | []=>e=.panicked (QdT 4)/\WTo g w w' b most m R
 | n::l=>e=.returned (.int .i64 n)/\WTo g w w' b most m { R with inp:=l }
theorem Qf2 (S:WAt w b most m R g) (t:R.inp.length<=1000000) :
 Calls prog 174 #[Pv b 0] w fun e w'=>Qnq g w b most m R e w':=by
 have o:w.cell? ⟨b,2,none⟩=some (.slice g.pi R.inp.length g.ci):=Qb S.box 2 _ Z;have z:=Qc S;unfold Qnq
 cases hi:R.inp with
 | nil =>
   rw[hi] at o
   clear S;go_enter func174,ntmps174
   go_wp2_with fail
   refine(Z4 _ _).mono ?_
   rintro G w' ⟨rfl,c⟩;subst c;exact⟨Z,Z,WTo.same z.out Zr⟩
 | cons n l =>
   have d:=S.inp;have a:=S.inpC;rw[hi] at o d a
   obtain⟨M,u,y,-,r,D⟩:=ZH d (i:=0) (by simp)
   simp only[List.getD_cons_zero,Nat.add_zero] at D
   rw[y] at o d
   simp only[List.length_cons] at o a
   have N:=Qj S.box 2
   have v:intsL.In w (fun x=>g.ow x=0/\g.lk<=x/\x<b) l [.slice (some ⟨M,u+1,none⟩) l.length (g.ci - 1)]:=by
    refine⟨_,_,Z,fun i x I=>?_⟩
    obtain⟨Q,O,B,f,p,q,E,A⟩:=Yf d (i:=i+1) (x:=x) (by simpa using I)
    injection f with f
    injection f with f e10
    subst f;subst e10;refine⟨_,_,B,Z,p,q,fun j C=>?_,A⟩
    have:=E j C
    rw[show u+1+i*Lay.int.size+j=u+(i+1)*Lay.int.size+j by simp[Lay.int];omega]
    exact this
   have s:∀ (pi:Option Addr) (ci:Nat),intsL.In w (fun x=>g.ow x=0/\g.lk<=x/\x<b) l [.slice pi l.length ci]->l.length<=ci->WTo g w (w.setCell ⟨b,2,none⟩ (.slice pi l.length ci)) b most m { R with inp:=l }:=fun pi ci p q=>by
    refine S.reBox (R':={ R with inp:=l }) Z Z Z (by simp) (fun k P h=>Xd _ _ _ _ h) ⟨Z,Z,Z,Z⟩ (pi:=pi) (ci:=ci) (vb:=g.vb) ⟨p,q⟩ S.back ?_;rw[Qh S.box 2 _]
    simp
   have L:=Qc (s _ _ v (by omega))
   have K:Hid (l.length=0->∀ pi ci,WTo g w (w.setCell ⟨b,2,none⟩ (.slice pi l.length ci)) b most m { R with inp:=l }):=fun e pi ci=>s pi ci (by
    have:l=[]:=Xf.1 e
    subst this;exact Yg _ _ _ _ _) (by omega)
   have J:((g.ci:Int) - 1)=((g.ci - 1:Nat):Int):=by omega
   have H:l.length+1<=1000000:=by rw[hi] at t;simpa using t
   clear S d v z y hi t r s;generalize g.ci=ci at *;go_enter func174,ntmps174
   have F:decide (((l.length+1:Nat):Int)>0)=true:=Xt (by omega);go_upto_region 2 with (go_at_call 111;refine(QaF _ _).mono ?_;rintro G w' ⟨rfl,c⟩;have c:=c.symm;subst c)
   clear F;go_wp2
   ·go_ret;exact⟨Z,K.out (by omega) _ _⟩
   ·go_ret;exact⟨Z,L.out⟩
end
theorem Xg:type_of% @Nat.le_of_ble_eq_true:=@Nat.le_of_ble_eq_true
def Qhg (w6:World) (fr:RFr) (v:Value) (w:World):Prop:=∃ k x n,v=Pv k 0/\w6.heap.size<=k/\w6.heap.size<=x/\WFr w k fr (.slice (some ⟨x,0,none⟩) n n)
def QmZ (w6:World) (fr:RFr) (v:Value) (w:World):Prop:=∃ x n,v=.agg (frA fr (.slice (some ⟨x,0,none⟩) n n))/\w6.heap.size<=x/\QbC w (.slice (some ⟨x,0,none⟩) n n) fr.v
theorem Qhg.below {w w':World}{fr:RFr}{v:Value}(h:Qhg w6 fr v w) (b:Below w.heap.size w w'):Qhg w6 fr v w':=by
 obtain⟨k,x,n,d,c,a,e⟩:=h
 exact⟨k,x,n,d,c,a,e.below b⟩
theorem QmZ.below {w w':World}{fr:RFr}{v:Value}(h:QmZ w6 fr v w) (b:Below w.heap.size w w'):QmZ w6 fr v w':=by
 obtain⟨x,n,d,c,a⟩:=h
 exact⟨x,n,d,c,Q0 a (fun y e=>b.block y (a.lt e))⟩
def QnI (w6:World) (fr:RFr) (c X fi bi na ca:Nat) (pa:Option Addr) (t:Tmp) (v:Value) (w:World):Prop :=
 match ([(14,Qhg w6 fr),(15,Qhg w6 fr),(16,QmZ w6 fr)]:List (Tmp × (Value->World->Prop))).lookup t with
 | some p=>p v w
 | none=>v=(([(0,.pointer (some ⟨c,0,none⟩)),(3,.pointer (some ⟨X,0,none⟩)),(4,.pointer (some ⟨c,0,none⟩)),(5,.pointer (some ⟨c,0,none⟩)),(6,.pointer (some ⟨c,0,none⟩)),(7,.pointer (some ⟨c,0,none⟩)),(8,.pointer (some ⟨c,0,none⟩)),(9,.int .i64 (fi:Int)),(10,.pointer (some ⟨X,0,none⟩)),(11,.int .i64 (bi:Int)),(12,.pointer (some ⟨X,2,none⟩)),(13,.slice pa na ca),(17,.pointer (some ⟨c,0,none⟩))]:List (Tmp × Value)).lookup t).getD undef
theorem wj1 {fr:RFr}{c s:Nat}(G:w6.cell? ⟨c,0,none⟩=some (Iv (fi:Int))) (F:w6.cell? ⟨X,0,none⟩=some (Iv (bi:Int))) (I:w6.cell? ⟨X,2,none⟩=some (.slice pa s ca)) (L:Hid (∀ wx,Below w6.heap.size w6 wx->Calls prog 216 #[Pv c 0,Iv (fi:Int),Iv (bi:Int),.slice pa s ca] wx fun e w'=>QmR wx fr e w')){Q:Exit->Act->World->Prop}
 (a:Act) (m:Nat) (H:a.tmps.size=m) (z:18<=m) (J:a.tmps.getD 0 undef=Pv c 0) (i:a.tmps.getD 3 undef=Pv X 0)
 (hend:∀ ops vs w',(QmZ w6 fr) (vs 16) w'->vs 17=Pv c 0->Below w6.heap.size w6 w'->wpList prog ops Q (Qao 14 ((Tryz.f168.body.bind (Qi 1)).getD .skip)) (QN a vs [4,5,6,7,8,9,10,11,12,13,14,15,16,17]) w') :
 Code.wp prog ((Tryz.f168.body.bind (Qi 1)).getD .skip) Q a w6:=by
 conv=>arg 2;whnf
 refine Qg 14 (QnI w6 fr c X fi bi s ca pa) (fun w=>Below w6.heap.size w6 w) (fun w w'=>Below w.heap.size w w') (outs:=[0,3]) (gs:=[]) (bs:=[true,true,true,true,true,true,true,true,true,true,true,true,true,true]) (by kernel_rfl) (n:=18) H z (by kernel_rfl) (by kernel_rfl) ?hR ?hG (QI Zr 1) ⟨J,i,Y⟩ ?hA ?hend
 case hR =>
  intro t v w w' y h;unfold QnI at h |-;split at h
  ·rename_i p j
   simp only[List.lookup_cons,List.lookup_nil] at j
   split at j
   ·cases j;exact h.below y
   ·split at j
    ·cases j;exact h.below y
    ·split at j
     ·cases j;exact h.below y
     ·cases j
  ·exact h
 case hG=>exact Y
 case hend=>exact fun ops vs w' d f=>hend ops vs w' (f 16 (by kernel_rfl)) (f 17 (by kernel_rfl)) d
 case hA =>
  refine⟨fun a w d f K g=>?_,?_⟩
  ·obtain⟨b,-⟩:=f
   have b:a.tmps.getD 0 undef=Pv c 0:=b;go_simp;exact g _ _ Zr d Z
  refine⟨fun a w d f K g=>?_,?_⟩
  ·obtain⟨b,-⟩:=f
   have b:a.tmps.getD 0 undef=Pv c 0:=b;go_simp;exact g _ _ Zr d Z
  refine⟨fun a w d f K g=>?_,?_⟩
  ·obtain⟨b,-⟩:=f
   have b:a.tmps.getD 0 undef=Pv c 0:=b;go_simp;exact g _ _ Zr d Z
  refine⟨fun a w d f K g=>?_,?_⟩
  ·obtain⟨b,-⟩:=f
   have b:a.tmps.getD 6 undef=Pv c 0:=b;go_simp;exact g _ _ Zr d Z
  refine⟨fun a w d f K g=>?_,?_⟩
  ·obtain⟨b,-⟩:=f
   have b:a.tmps.getD 7 undef=Pv c 0:=b;go_simp;exact g _ _ Zr d Z
  refine⟨fun a w d f K g=>?_,?_⟩
  ·obtain⟨b,-⟩:=f
   have b:a.tmps.getD 8 undef=Pv c 0:=b;have B:=Qk G d;go_simp;exact g _ _ Zr d Z
  refine⟨fun a w d f K g=>?_,?_⟩
  ·obtain⟨b,-⟩:=f
   have b:a.tmps.getD 3 undef=Pv X 0:=b;go_simp;exact g _ _ Zr d Z
  refine⟨fun a w d f K g=>?_,?_⟩
  ·obtain⟨b,-⟩:=f
   have b:a.tmps.getD 10 undef=Pv X 0:=b;have B:=Qk F d;go_simp;exact g _ _ Zr d Z
  refine⟨fun a w d f K g=>?_,?_⟩
  ·obtain⟨b,-⟩:=f
   have b:a.tmps.getD 3 undef=Pv X 0:=b;go_simp;exact g _ _ Zr d Z
  refine⟨fun a w d f K g=>?_,?_⟩
  ·obtain⟨b,-⟩:=f
   have b:a.tmps.getD 12 undef=Pv X 2:=b;have B:=Qk I d;go_simp;exact g _ _ Zr d Z
  refine⟨fun a w d f K g=>?_,?_⟩
  ·obtain⟨b,C,A,E,-⟩:=f
   have b:a.tmps.getD 5 undef=Pv c 0:=b;have C:a.tmps.getD 9 undef=Iv (fi:Int):=C;have A:a.tmps.getD 11 undef=Iv (bi:Int):=A;have E:a.tmps.getD 13 undef=.slice pa s ca:=E;go_simp;refine Xm (L.out w d) ?_;rintro R M ⟨r,o,k,rfl,q,l,i,D⟩;go_simp;exact g _ _ D (d.trans (D.mono d.size)) ⟨r,o,k,Z,Zt d.size q,Zt d.size l,i⟩
  refine⟨fun a w d f K g=>?_,?_⟩
  ·obtain⟨b,-⟩:=f
   have b:(Qhg w6 fr) (a.tmps.getD 14 undef) w:=b;generalize x:a.tmps.getD 14 undef=u at b;obtain⟨r,o,k,rfl,q,l,i⟩:=b
   go_simp;exact g _ _ Zr d ⟨r,o,k,Z,q,l,i⟩
  refine⟨fun a w d f K g=>?_,?_⟩
  ·obtain⟨b,-⟩:=f
   have b:(Qhg w6 fr) (a.tmps.getD 15 undef) w:=b;generalize x:a.tmps.getD 15 undef=u at b;obtain⟨r,o,k,rfl,q,l,i⟩:=b
   have S:=Qb i.1 0 _ Z;have P:=Qb i.1 1 _ Z;have O:=Qb i.1 2 _ Z;have N:=Qb i.1 3 _ Z;go_simp;exact g _ _ Zr d ⟨o,k,Z,l,i.2⟩
  refine⟨fun a w d f K g=>?_,?_⟩
  ·obtain⟨b,-⟩:=f
   have b:a.tmps.getD 4 undef=Pv c 0:=b;go_simp;exact g _ _ Zr d Z
  trivial
section
variable {w w' w2:World}{b most:Nat}{m:List (MFunc 6)}{R R':RM}{g g1:WG}{c:Nat}{fr:RFr}{v:Value}
theorem Ql2 {w:World}{c:Nat}{a0 g i f:Value}(h:w.heap[c]?=some (.cells #[a0,g,i,f] 132 (0,0))) (b d a e:Value) :
 ((((w.setCell ⟨c,0,none⟩ b).setCell ⟨c,1,none⟩ d).setCell ⟨c,2,none⟩ a).setCell ⟨c,3,none⟩ e).heap[c]?=some (.cells #[b,d,a,e] 132 (0,0)):=by
 have:=Qh (Qh (Qh (Qh h 0 b) 1 d) 2 a) 3 e
 simpa using this
theorem WAt.newTop (S:WAt w b most m R g) (B:Below w.heap.size w w'){fr:RFr}{x:Nat}(p:w.heap.size<=x) (l:QbC w' (.slice (some ⟨x,0,none⟩) n n) fr.v) :
 WTo g w ((((w'.setCell ⟨g.t.c,0,none⟩ (Iv fr.f)).setCell ⟨g.t.c,1,none⟩ (Iv fr.b)).setCell ⟨g.t.c,2,none⟩ (Iv fr.i)).setCell ⟨g.t.c,3,none⟩ (.slice (some ⟨x,0,none⟩) n n)) b most m { R with top:=fr }:=by
 have F:=S.top;have d:=XC F.1;have h:w'.heap[g.t.c]?=_:=(B.block _ d).trans F.1
 have e:∀ k,k≠g.t.c->((((w'.setCell ⟨g.t.c,0,none⟩ (Iv fr.f)).setCell ⟨g.t.c,1,none⟩ (Iv fr.b)).setCell ⟨g.t.c,2,none⟩ (Iv fr.i)).setCell ⟨g.t.c,3,none⟩ (.slice (some ⟨x,0,none⟩) n n)).heap[k]?=w'.heap[k]?:=fun k a=>by
  rw[Xd _ _ _ _ a,Xd _ _ _ _ a,Xd _ _ _ _ a,Xd _ _ _ _ a]
 refine S.setTop B.os B.tape B.output (by simpa using B.size) (fun k a j _=>(e k j).trans (B.block k a)) ⟨Ql2 h _ _ _ _,Q0 l (fun y o=>?_)⟩ (fun k a=>.inr ?_)
 ·have:y=x:=by simpa[Value.ownBlock] using o.symm
  exact e y (by omega)
 ·have:k=x:=by simpa[Value.ownBlock] using a.symm
  omega
theorem Qix (S:WAt w b most m R g) (Q:R.top.v.length<=1000000){t:MTo}(A:t.block=(bi:Int)){N:Nat->Prop}{j:Option Addr}{r q:Nat}(G:intsL.In w N t.args [.slice pa t.args.length ca]) (I:t.args.length<=1000) (p:QaA R.top.v t.args=some xs) :
 Calls prog 168 #[Pv g.t.c 0,.agg #[Iv t.block,.slice j r q,.slice pa t.args.length ca]] w fun e w'=>e=.returned (.tuple #[])/\WTo g w w' b most m { R with top:=⟨R.top.f,t.block.toNat,0,xs⟩ }:=by
 rw[A,XT]
 have o:=Qc (ZO w (.cells #[Iv (bi:Int),.slice j r q,.slice pa t.args.length ca] 82));have k:=Qc (Qe w #[Iv (bi:Int),.slice j r q,.slice pa t.args.length ca] 82);have i:=Qc (S.below o.out);have y:=Qc (S.stepB o.out);have u:=Qc (Ya G o.out);have J:=Qc p;have P:=Qc I;clear S G p I;go_enter func168,ntmps168
 go_upto_region 1 with fail
 generalize w.alloc (.cells #[Iv (bi:Int),.slice j r q,.slice pa t.args.length ca] 82)=B at o k i y u |-;generalize w.heap.size=X at k |-;have M:Hid (∀ l,Below B.heap.size B l->Calls prog 216 #[Pv g.t.c 0,Iv (R.top.f:Int),Iv (bi:Int),.slice pa t.args.length ca] l fun e w'=>QmR l ⟨R.top.f,bi,0,xs⟩ e w'):=fun l L=>QdO (i.out.top.below L) Q Z (by have:=P.out;omega) (Ya u.out L) J.out R.top.f bi;have H:B.cell? ⟨g.t.c,0,none⟩=some (Iv R.top.f):=Qb i.out.top.1 0 _ Z;have F:=Qb k.out 0 _ Z;have K:=Qb k.out 2 _ Z;refine wj1 H F K M _ _ Z (Xg (by kernel_rfl)) Z Z ?_;rintro s O D ⟨x,n,h,p,E⟩ d C;show wpList _ s _ [_] (QN _ O [4,5,6,7,8,9,10,11,12,13,14,15,16,17]) D;simp only[QN,Act.put,List.setIfInBounds_toArray,List.set_cons_zero,List.set_cons_succ,h,d]
 have z:=Qc (WTo.then y.out Z Z (i.out.newTop C p (fr:=⟨R.top.f,bi,0,xs⟩) E));have a:D.heap[g.t.c]?=_:=(C.block _ (XC i.out.top.1)).trans i.out.top.1;have V:=Qb a 0 _ Z;have T:=Qb a 1 _ Z;have W:=Qb a 2 _ Z;have c3:=Qb a 3 _ Z;have z0:=Qj a 0;have z1:=Qj a 1;have U:=Qj a 2;have z3:=Qj a 3;clear h d C H F K M E a i y J u;go_wp2
 exact Xz (v:=.tuple #[]) (by simp[results,results168,go_sem]) Z ⟨Z,z.out⟩
end
section
variable {w w' w5 w9:World}{b most:Nat}{m:List (MFunc 6)}{R R':RM}{g g1:WG}
theorem WAt.next (S:WAt w b most m R g):WTo g w (w.setCell ⟨g.t.c,2,none⟩ (Iv ((R.top.i:Int)+1))) b most m { R with top:={ R.top with i:=R.top.i+1 } }:=by
 obtain⟨⟨F,h,f⟩,-⟩:=S.frs
 refine S.setTop Z Z Z (by simp) (fun x a d _=>Xd _ _ _ _ d) (v:=g.t.v) ⟨?_,?_⟩ (fun x a=>.inl a)
 ·rw[Qh F.1 2 (Iv ((R.top.i:Int)+1))]
  simp
 ·exact Q0 F.2 (fun x a=>Xd _ _ _ _ (fun (e:x=g.t.c)=>by have:=f x a;rw[e,h] at this;omega))
theorem WAt.pushFr (S:WAt w b most m R g) (n:Below w.heap.size w w5){c i j:Nat}{fr:RFr}(F:WFr w5 c fr (.slice (some ⟨i,0,none⟩) j j)) (K:w.heap.size<=c) (H:w.heap.size<=i)
 {v9:Value} (A:w9.ownsRow 0 130 1 v9 (R.rest.length+1+1) (Qas (g.t::g.fs)++[Pv c 0])) (l:w5.grownBy w9 g.vc.ownBlock) (C:∀ k,v9.ownBlock=some k->g.vc.ownBlock=some k\/k=w5.heap.size) :
 ∃ g',WAt (w9.setCell ⟨b,4,none⟩ v9) b most m { R with top:=fr,rest:=R.top::R.rest } g'/\WSt g g' w (w9.setCell ⟨b,4,none⟩ v9)/\g'.fs=g.t::g.fs:=by
 have z:=XC S.box;have L:=n.size;have I:=l.size;have s:=XC F.1;have u:=F.2.lt (x:=i) Z
 have v:i≠c:=fun e=>by
  obtain⟨q,G⟩:=ZR F.2 (x:=i) Z
  exact Q8 G F.1 (by decide) e
 have J:w.heap.size<=(w9.setCell ⟨b,4,none⟩ v9).heap.size:=by simp;omega
 have o:∀ x,g.vc.ownBlock=some x->x≠b:=fun x a e=>by have:=S.oc x a;rw[e,S.ob] at this;omega
 have y:w9.heap[b]?=_:=(l.block b (by omega) (fun e=>o _ e.symm Z)).trans ((n.block b z).trans S.box)
 have r:∀ k,v9.ownBlock=some k->k≠b:=fun k M e=>by
  rcases C k M with h | h
  ·exact o k h e
  ·omega
 have d:∀ k,w.heap.size<=k->k<w5.heap.size->(w9.setCell ⟨b,4,none⟩ v9).heap[k]?=w5.heap[k]?:=fun k N D=>by
  rw[Xd _ _ _ _ (fun (e:k=b)=>by omega)]
  exact l.block k D (fun e=>by have:=XC (ZR S.calls e.symm).choose_spec;omega)
 let ow':Nat->Nat:=fun x=>if x<w.heap.size then g.ow x else if x<w9.heap.size then (if x=c then 5+2*(R.rest.length+1) else if x=i then 6+2*(R.rest.length+1) else 3) else 0
 have f:∀ x,x<w.heap.size->ow' x=g.ow x:=fun x a=>Xs a
 have k:Wc g.ow ow' (fun x=>x=1\/x=3) w (w9.setCell ⟨b,4,none⟩ v9):=⟨l.os.trans n.os,l.tape.trans n.tape,l.output.trans n.output,J,f,fun x a B=>by
  rw[Xd _ _ _ _ (fun (e:x=b)=>B (.inl (e ▸ S.ob)))]
  exact(l.block x (by omega) (fun e=>B (.inr (S.oc x e.symm)))).trans (n.block x a),by omega,fun x a=>by
  have:x<w9.heap.size:=by
   refine Xq.1 fun h=>a ?_;show (if x<w.heap.size then _ else if x<w9.heap.size then _ else 0)=0;rw[Xr (by omega),Xr h]
  simpa using this⟩
 have E:(w9.setCell ⟨b,4,none⟩ v9).ownsRow 0 130 1 v9 (R.rest.length+1+1) (Qas (⟨c,.slice (some ⟨i,0,none⟩) j j⟩::g.t::g.fs)):=by
  have e:Qas (⟨c,.slice (some ⟨i,0,none⟩) j j⟩::g.t::g.fs)=Qas (g.t::g.fs)++[Pv c 0]:=by simp[Qas]
  rw[e]
  exact Q0 A (fun x a=>Xd _ _ _ _ (r x a))
 refine⟨{ g with vc:=v9,t:=⟨c,.slice (some ⟨i,0,none⟩) j j⟩,fs:=g.t::g.fs,ow:=ow' },⟨?_,S.kEst k (by omega),S.kMod k,S.kInp k,S.inpC,E,S.kBack k,S.kOut k (by omega),⟨⟨F.keep (d c K s) (fun x a=>?_),?_,fun x a=>?_⟩,S.kFrs k (fun x h e=>by omega)⟩,S.kob k,fun x a=>?_,S.koo k,k.lt,S.klow k⟩,⟨k.step,Z,Z⟩,Z⟩
 ·have:=Qh y 4 v9
  simpa using this
 ·have:x=i:=by simpa[Value.ownBlock] using a.symm
  subst this;exact d x H u
 ·show (if c<w.heap.size then _ else if c<w9.heap.size then _ else 0)=_;rw[Xr (by omega),Xs (by omega),Xs Z]
  simp
 ·have:x=i:=by simpa[Value.ownBlock] using a.symm
  subst this;show (if x<w.heap.size then _ else if x<w9.heap.size then _ else 0)=_;rw[Xr (by omega),Xs (by omega),Xr v,Xs Z]
  simp
 ·rcases C x a with h | h
  ·exact(f x (XC (ZR S.calls h).choose_spec)).trans (S.oc x h)
  ·have p:=XC (ZR A a).choose_spec;show (if x<w.heap.size then _ else if x<w9.heap.size then _ else 0)=_;rw[Xr (by omega),Xs p,Xr (by omega),Xr (by omega)]
theorem WAt.next2 (S:WAt w b most m R g){y:WB}{u:List WB}{fr:RFr}{rest:List RFr}(l:g.fs=y::u) (q:R.rest=fr::rest) :
 WGo g w (w.setCell ⟨y.c,2,none⟩ (Iv ((fr.i:Int)+1))) b most m { R with rest:={ fr with i:=fr.i+1 }::rest }:=by
 have j:=S.frs;rw[l,q] at j
 obtain⟨⟨s,f,h⟩,⟨o,n,p⟩,t⟩:=j
 have d:∀ x,x≠y.c->(w.setCell ⟨y.c,2,none⟩ (Iv ((fr.i:Int)+1))).heap[x]?=w.heap[x]?:=fun x a=>Xd _ _ _ _ a;have k:Wc g.ow g.ow (fun x=>x=5+2*rest.length) w (w.setCell ⟨y.c,2,none⟩ (Iv ((fr.i:Int)+1))):=⟨Z,Z,Z,by simp,fun _ _=>rfl,fun x a r=>d x (fun e=>r (by rw[e];exact n)),by omega,fun x a=>by simpa using S.lt x a⟩;simp only[List.length_cons] at f h
 refine⟨g,⟨(S.kBox k (by omega)).trans S.box,S.kEst k (by omega),S.kMod k,S.kInp k,S.inpC,?_,S.kBack k,S.kOut k (by omega),?_,S.ob,S.oc,S.oo,k.lt,S.klow k⟩,⟨k.step,Z,Z⟩⟩
 ·have:=S.kCalls k (by omega)
  rw[q] at this
  exact this
 ·rw[l]
  refine⟨⟨s.keep (d _ (fun e=>?_)) (fun x a=>d x (fun e=>?_)),f,h⟩,⟨⟨?_,?_⟩,n,p⟩,t.keep (fun _ _=>rfl) (fun x a z v=>k.keep x a (by omega))⟩
  ·rw[e] at f;omega
  ·have:=h x a;rw[e] at this;omega
  ·rw[Qh o.1 2 (Iv ((fr.i:Int)+1))]
   simp
  ·exact Q0 o.2 (fun x a=>d x (fun e=>by have:=p x a;rw[e] at this;omega))
theorem WAt.pop (S:WAt w b most m R g){y:WB}{i:List WB}{d:RFr}{rest:List RFr}(l:g.fs=y::i) (v:R.rest=d::rest)(u:g.vc=.slice a (R.rest.length+1) cap) :
 ∃ g',WAt (w.setCell ⟨b,4,none⟩ (.slice a R.rest.length cap)) b most m { R with top:=d,rest:=rest } g'/\WSt g g' w (w.setCell ⟨b,4,none⟩ (.slice a R.rest.length cap))/\g'.t=y:=by
 have r:=S.frs;rw[l,v] at r
 have o:∀ x,g.vc.ownBlock=some x->x≠b:=fun x f e=>by have:=S.oc x f;rw[e,S.ob] at this;omega
 have k:Wc g.ow g.ow (fun x=>x=1) w (w.setCell ⟨b,4,none⟩ (.slice a R.rest.length cap)):=⟨Z,Z,Z,by simp,fun _ _=>rfl,fun x f G=>Xd _ _ _ _ (fun (e:x=b)=>G (e ▸ S.ob)),by omega,fun x f=>by simpa using S.lt x f⟩;have E:(Value.slice a R.rest.length cap).ownBlock=g.vc.ownBlock:=by rw[u];cases a<;>rfl
 refine⟨{ g with vc:=.slice a R.rest.length cap,t:=y,fs:=i },⟨?_,S.kEst k (by omega),S.kMod k,S.kInp k,S.inpC,?_,S.kBack k,S.kOut k (by omega),r.2.keep (fun _ _=>rfl) (fun x f I J=>k.keep x f (by omega)),S.ob,fun x f=>S.oc x (by rw[<-E];exact f),S.oo,k.lt,S.klow k⟩,⟨k.step,Z,Z⟩,Z⟩
 ·rw[Qh S.box 4 (.slice a R.rest.length cap)]
  simp
 ·obtain⟨K,C⟩:=S.calls
  have H:Qas (g.t::g.fs)=Qas (y::i)++[Pv g.t.c 0]:=by rw[l];simp[Qas]
  have n:(Qas (y::i)).length=R.rest.length:=by have:=S.rows;rw[l] at this;simpa[Qas] using this
  show World.ownsRow _ 0 _ 1 (.slice a R.rest.length cap) (rest.length+1) (Qas (y::i));have p:rest.length+1=R.rest.length:=by rw[v];simp
  rw[p]
  refine⟨by rw[n];simp,?_⟩
  rcases C with ⟨j,B⟩|⟨s,L,h,j,B,A,M,F,z,D⟩
  ·omega
  ·have q:=o s (by rw[j];rfl);rw[u] at j
   cases j
   refine .inr ⟨s,cap,h,Z,Xb _,(Xd _ _ _ _ q).trans A,by omega,F,z,?_⟩
   have:h.toList.take (R.rest.length*1)=(h.toList.take ((R.rest.length+1)*1)).take (R.rest.length*1):=by rw[List.take_take,Nat.min_eq_left (by omega)]
   rw[this,D,H,List.take_append_of_le_length (by omega),XO (by omega)]
end
theorem Qfs {l l2:List Oper}{outs:List Tmp}{gs:List (Nat × Option Bool)}{a:Act}{w:World}{Q:Exit->Act->World->Prop}
 (E:(Nat->Bool)->Tmp->Value->World->Prop) (W:(Nat->Bool)->World->Prop) (PX:List PanicEntry->World->Prop) (B:∀ ch a' w',a'.defers=a.defers->PX ch w'->Q (.panic ch) a' w')
 (v:P.follows .mixedOrders=true)  (F:a.tmps.size=m) (f:n<=m) (C:Qa0 l n outs gs bs=true)
 (r:(Qcs 0 (l++l2)&&(Qbr l.length l&&QaL (l++l2) l.length l2))=true)
 (x:∀ S,ZJ (E S) l.toArray gs) (d:W (fun _=>false) w.drew) (D:Qah (E (fun _=>false)) a w.drew outs)
 (A:AllOkY E W PX P l 0 l bs)
 (b:∀ (vs:Tmp->Value) (S:Nat->Bool) w',(∀ j,j<l.length->S j=true)->W S w'->(∀ t,(Qt l).contains t=true->E S t (vs t) w')->wpList P (l++l2).toArray Q l2 (QN a vs (Qt l)) w') :
 (Code.region id (l++l2).toArray true).wp P Q a w:=by
 simp only[Bool.and_eq_true] at r
 obtain⟨p,k,g⟩:=r
 refine wp_region_any v ?_
 have c:wpAny P .any l.toArray (Exit.then (fun a w=>wpList P (l++l2).toArray Q l2 a w) Q) l.length (Array.replicate l.length false) a w.drew:=by
  have i:(fun j=>(Array.replicate l.length false).getD j false)=fun _=>false:=by
   funext j
   rw[Za,Array.getElem?_replicate]
   split<;>rfl
  refine Qbl (PX:=PX) (Q:=Exit.then (fun a w=>wpList P (l++l2).toArray Q l2 a w) Q) (a0:=a) (outs:=outs) (gs:=gs) (bs:=bs) (fun ch a' w' s u=>B ch a' w' s u) (Qay (F ▸ f) C) x A (fun vs S w' h d I=>b vs S w' h d I) _ _ _ _ (by simp) ?_ ⟨by rw[i];exact d,(by rw[i];intro j o _ h;cases h),Z,Z,fun _ _=>rfl,(fun t y _=>by rw[i];exact Qa9 outs D t y),?_⟩
  ·simp only[Array.toList_replicate]
   exact Zt (List.length_filter_le _ _) (by simp)
  ·intro j o t J L G;simp[Array.getD] at G
 have:=Qbs (Q:=Q) p k g l.length (Array.replicate l.length false) a w.drew (by simp) (fun q o K H=>by simp[Array.getD] at H) c
 have e:(Array.replicate l.length false++Array.replicate l2.length false:Array Bool)=Array.replicate (l++l2).toArray.size false:=by
  simp
 have z:l.length+l2.length=(l++l2).toArray.size:=by simp
 rw[e,z] at this
 exact this
theorem Zs {lo:List Oper}{outs:List Tmp}{gs:List (Nat × Option Bool)}{a:Act}{w:World}{Q:Exit->Act->World->Prop}
 (k:Nat) (E:(Nat->Bool)->Tmp->Value->World->Prop) (W:(Nat->Bool)->World->Prop) (PX:List PanicEntry->World->Prop) (e:∀ ch a' w',a'.defers=a.defers->PX ch w'->Q (.panic ch) a' w')
 (o:P.follows .mixedOrders=true)  (d:a.tmps.size=m) (c:n<=m) (f:Qa0 (lo.take k) n outs gs bs=true)
 (i:(Qcs 0 lo&&(Qbr (lo.take k).length (lo.take k)&&QaL lo (lo.take k).length (lo.drop k)))=true)
 (p:∀ S,ZJ (E S) (lo.take k).toArray gs) (g:W (fun _=>false) w.drew) (r:Qah (E (fun _=>false)) a w.drew outs)
 (q:AllOkY E W PX P (lo.take k) 0 (lo.take k) bs)
 (b:∀ ops (vs:Tmp->Value) (S:Nat->Bool) w',(∀ j,j<(lo.take k).length->S j=true)->W S w'->(∀ t,(Qt (lo.take k)).contains t=true->E S t (vs t) w')->wpList P ops Q (lo.drop k) (QN a vs (Qt (lo.take k))) w') :
 (Code.region id lo.toArray true).wp P Q a w:=by
 have h:=Qfs (id:=id) (l:=lo.take k) (l2:=lo.drop k) (Q:=Q) E W PX e o d c f (by rw[List.take_append_drop];exact i) p g r q (b _);rwa [List.take_append_drop] at h
def Qna (l:List Oper) (t:Tmp) (i:Nat):Bool:=(List.range l.length).all fun j=>match l[j]? with
 | some o=>(match o.dst with | some u=>u != t | none=>true)||j==i
 | none=>true
theorem QkZ {l:List Oper}{S:Nat->Bool}{t i:Nat}(f:Qm3 l S t) (e:(Qt l).contains t=true) (d:Qna l t i=true):S i=true:=by
 obtain⟨j,o,c,g,k⟩:=f (by simpa using e)
 have b:=(Zi c).1;have a:=Xe.1 d j (by simpa using b);rw[c] at a
 simp only[g] at a
 have:j=i:=by
  rw[Bool.or_eq_true] at a
  rcases a with h | h
  ·simp at h
  ·simpa using h
 rw[<-this];exact k
def Zk (w6 w w':World):Prop:=∀ Z,w6.heap.size<=Z->Z<w.heap.size->w'.heap[Z]?=w.heap[Z]?
theorem Zk.refl (a w:World):Zk a w w:=fun _ _ _=>rfl
theorem Zk.below {a w w':World}(b:Below w.heap.size w w'):Zk a w w':=fun Z _ h=>b.block Z h
section
variable {w6 w w':World}{HP:World->Prop}{hk i:Nat}{S:Nat->Bool}
theorem WY.onB (h:WY w6 HP hk S w) (d:∀ w w',HP w->Below w.heap.size w w'->HP w') (hi:i≠hk) (b:Below w.heap.size w w'):WY w6 HP hk (Qcr i S) w':=by
 have e:Qcr i S hk=S hk:=Qnl (fun e=>hi e.symm);rcases h with ⟨c,a⟩|⟨c,a⟩
 ·exact .inl ⟨by rw[e];exact c,a.trans (b.mono a.size)⟩
 ·exact .inr ⟨by rw[e];exact c,d _ _ a b⟩
theorem WY.lowB (h:WY w6 HP hk S w) (a:∀ w,HP w->w6.heap.size<=w.heap.size):w6.heap.size<=w.heap.size:=by
 rcases h with h | h
 ·exact h.2.size
 ·exact a _ h.2
theorem WY.onS (h:WY w6 HP hk S w) (hi:i≠hk):WY w6 HP hk (Qcr i S) w:=by
 have e:Qcr i S hk=S hk:=Qnl (fun e=>hi e.symm);unfold WY;rw[e];exact h
end
def QmI (w6:World) (xs:List Int) (n:Nat) (v:Value) (w:World):Prop:=∃ k,v=.slice (some ⟨k,0,none⟩) n n/\w6.heap.size<=k/\QbC w (.slice (some ⟨k,0,none⟩) n n) xs
def QjP (w6:World) (x:Int) (v:Value) (w:World):Prop:=∃ k,v=.slice (some ⟨k,0,none⟩) 1 1/\w6.heap.size<=k/\w.cell? ⟨k,0,none⟩=some (Iv x)
theorem QmI.z (h:QmI w6 xs n v w) (z:Zk w6 w w'):QmI w6 xs n v w':=by
 obtain⟨k,d,b,a⟩:=h
 exact⟨k,d,b,Q0 a (fun y c=>by
  have:y=k:=by simpa[Value.ownBlock] using c.symm
  subst this;exact z y b (a.lt c))⟩
theorem QjP.z (h:QjP w6 x v w) (z:Zk w6 w w'):QjP w6 x v w':=by
 obtain⟨k,d,b,c⟩:=h
 exact⟨k,d,b,(XU (w:=w) (a:=⟨k,0,none⟩) (z k b (Xi w _ c))).trans c⟩
theorem Qhg.z {fr:RFr}(h:Qhg w6 fr v w) (z:Zk w6 w w'):Qhg w6 fr v w':=by
 obtain⟨k,x,n,e,b,c,a⟩:=h
 exact⟨k,x,n,e,b,c,a.keep (z k b (XC a.1)) (fun y d=>by
  have:y=x:=by simpa[Value.ownBlock] using d.symm
  subst this;exact z y c (a.2.lt d))⟩
def Qmj (w6:World) (fr:RFr) (v:Value) (w:World):Prop:=∃ k u,v=.slice (some ⟨k,0,none⟩) 1 1/\w6.heap.size<=k/\w.cell? ⟨k,0,none⟩=some u/\Qhg w6 fr u w
theorem Qmj.z {fr:RFr}(h:Qmj w6 fr v w) (z:Zk w6 w w'):Qmj w6 fr v w':=by
 obtain⟨k,u,d,c,b,e⟩:=h
 exact⟨k,u,d,c,(XU (w:=w) (a:=⟨k,0,none⟩) (z k c (Xi w _ b))).trans b,e.z z⟩
theorem QgE {u:Value}(h:w.cell? ⟨k,0,none⟩=some u):∀ (j:Nat) (v:Value),[u][j]?=some v->w.cell? ((⟨k,0,none⟩:Addr).add j)=some v
 | 0,v,hv=>by simp at hv;subst hv;exact h
 | j+1,v,hv=>by simp at hv
theorem QeE (w:World){o:Oper}{a:Act}{K:Act->World->Prop}{Q:Exit->Act->World->Prop}(s x:Operand) (t:TypeId)
 (M:o.op=.call { callee:=.builtin .append,args:=#[s,x],argTypes:=#[t,t] })
 (e:TypeId) (i:TypeInfo) (z:Value) (size d:Nat) (H:P.underlying t=some (.slice e)) (hi:P.info? e=some i) (G:i.zero=some z)
 (g:i.size=size) (D:i.bytes=d) (A:z.cells.size=size) (y:0<size)
 (v:Value) (n:Nat) (xs:List Value) (J:a.eval s=v) (q:w.ownsRow 0 e size v n xs)
 (C:Addr) (m c:Nat) (b:List Value) (N:a.eval x=.slice (some C) m c) (O:b.length=m*size) (l:∀ j u,b[j]?=some u->w.cell? (C.add j)=some u) (E:∀ u∈b,u.oneCell'=true)
 (B:n+m<=maxLen) (f:(n+m)*d<=140737488355328)
 (h:∀ v' w',w'.ownsRow 0 e size v' (n+m) (xs++b)->w.grownBy w' v.ownBlock->(∀ k,v'.ownBlock=some k->v.ownBlock=some k\/k=w.heap.size)->K (a.put o.dst v') w'):o.wp P a w K Q:=by
 obtain⟨v',w',L,F,I,_,p⟩:=run_append_own_at (P:=P) w 0 t o.type e i z size d H hi G g D A y v n xs q C m c b O l E B f (Xb _)
 unfold Oper.wp execOp;simp only[M,resolve,invoke,builtin,Sem.run_bind,Sem.run_pure,Result.andThen_ok,List.map_toArray,List.map_cons,List.map_nil,J,N,L]
 refine h _ _ F I (fun k r=>?_);rcases p with p | p
 ·rw[p] at r;exact .inl r
 ·rw[p] at r;exact .inr (by simpa using r.symm)
def Qnx (b c X be ri vl cc j:Nat) (ya:Int) (t:Tmp) (v:Value) (w:World):Prop :=
 v=(([(0,Pv b 0),(1,Pv c 0),(5,Pv X 0),(68,Pv b 0),(69,Pv b 0),(70,Pv b 0),(71,Pv be 0),(72,Pv c 0),(73,Pv c 0),(74,Pv c 3),(75,.slice (some ⟨ri,0,none⟩) vl cc),(76,Pv X 1),(77,Iv (j:Int)),(78,Pv ri j),(79,Iv ya)]:List (Tmp × Value)).lookup t).getD undef
theorem Qoj {l:Nat}(y:w6.cell? ⟨b,0,none⟩=some (Pv l 0)) (r:w6.cell? ⟨c,3,none⟩=some (.slice (some ⟨ri,0,none⟩) vl cc)) (x:w6.cell? ⟨X,1,none⟩=some (Iv (j:Int))) (A:(j:Int)<vl) (z:w6.cell? ⟨ri,j,none⟩=some (Iv ya))  {Q:Exit->Act->World->Prop}
 (a:Act) (m:Nat) (q:a.tmps.size=m) (i:148<=m) (u:a.tmps.getD 0 undef=Pv b 0) (s:a.tmps.getD 1 undef=Pv c 0) (p:a.tmps.getD 5 undef=Pv X 0)
 (hend:∀ ops vs w',vs 71=Pv l 0->vs 79=Iv ya->Below w6.heap.size w6 w'->wpList prog ops Q (Qao 12 ((Tryz.f114.body.bind (Qi 14)).getD .skip)) (QN a vs [68,69,70,71,72,73,74,75,76,77,78,79]) w') :
 Code.wp prog ((Tryz.f114.body.bind (Qi 14)).getD .skip) Q a w6:=by
 conv=>arg 2;whnf
 refine Qg 12 (Qnx b c X l ri vl cc j ya) (fun w=>Below w6.heap.size w6 w) (fun w w'=>Below w.heap.size w w') (outs:=[0,1,5]) (gs:=[]) (bs:=[true,true,true,true,true,true,true,true,true,true,true,true]) (by kernel_rfl) (n:=148) q i (by kernel_rfl) (by kernel_rfl) ?hR ?hG (QI Zr 1) ⟨u,s,p,Y⟩ ?hA ?hend
 case hR=>exact fun t v w w' _ h=>h
 case hG=>exact Y
 case hend=>exact fun ops vs w' e f=>hend ops vs w' (f 71 (by kernel_rfl)) (f 79 (by kernel_rfl)) e
 case hA =>
  refine⟨fun a w e f K g=>?_,?_⟩
  ·obtain⟨d,-⟩:=f
   have d:a.tmps.getD 0 undef=Pv b 0:=d;go_simp;exact g _ _ Zr e Z
  refine⟨fun a w e f K g=>?_,?_⟩
  ·obtain⟨d,-⟩:=f
   have d:a.tmps.getD 68 undef=Pv b 0:=d;go_simp;exact g _ _ Zr e Z
  refine⟨fun a w e f K g=>?_,?_⟩
  ·obtain⟨d,-⟩:=f
   have d:a.tmps.getD 69 undef=Pv b 0:=d;go_simp;exact g _ _ Zr e Z
  refine⟨fun a w e f K g=>?_,?_⟩
  ·obtain⟨d,-⟩:=f
   have d:a.tmps.getD 70 undef=Pv b 0:=d;have k:=Qk y e;go_simp;exact g _ _ Zr e Z
  refine⟨fun a w e f K g=>?_,?_⟩
  ·obtain⟨d,-⟩:=f
   have d:a.tmps.getD 1 undef=Pv c 0:=d;go_simp;exact g _ _ Zr e Z
  refine⟨fun a w e f K g=>?_,?_⟩
  ·obtain⟨d,-⟩:=f
   have d:a.tmps.getD 72 undef=Pv c 0:=d;go_simp;exact g _ _ Zr e Z
  refine⟨fun a w e f K g=>?_,?_⟩
  ·obtain⟨d,-⟩:=f
   have d:a.tmps.getD 73 undef=Pv c 0:=d;go_simp;exact g _ _ Zr e Z
  refine⟨fun a w e f K g=>?_,?_⟩
  ·obtain⟨d,-⟩:=f
   have d:a.tmps.getD 74 undef=Pv c 3:=d;have k:=Qk r e;go_simp;exact g _ _ Zr e Z
  refine⟨fun a w e f K g=>?_,?_⟩
  ·obtain⟨d,-⟩:=f
   have d:a.tmps.getD 5 undef=Pv X 0:=d;go_simp;exact g _ _ Zr e Z
  refine⟨fun a w e f K g=>?_,?_⟩
  ·obtain⟨d,-⟩:=f
   have d:a.tmps.getD 76 undef=Pv X 1:=d;have k:=Qk x e;go_simp;exact g _ _ Zr e Z
  refine⟨fun a w e f K g=>?_,?_⟩
  ·obtain⟨d,o,-⟩:=f
   have d:a.tmps.getD 75 undef=.slice (some ⟨ri,0,none⟩) vl cc:=d;have o:a.tmps.getD 77 undef=Iv (j:Int):=o;go_simp;exact g _ _ Zr e Z
  refine⟨fun a w e f K g=>?_,?_⟩
  ·obtain⟨d,-⟩:=f
   have d:a.tmps.getD 78 undef=Pv ri j:=d;have k:=Qk z e;go_simp;exact g _ _ Zr e Z
  trivial
def Qnb (b c X ri vl cc j:Nat) (ya:Int) (t:Tmp) (v:Value) (w:World):Prop :=
 v=(([(0,Pv b 0),(1,Pv c 0),(5,Pv X 0),(132,Pv b 0),(133,Pv c 0),(134,Pv c 0),(135,Pv c 3),(136,.slice (some ⟨ri,0,none⟩) vl cc),(137,Pv X 1),(138,Iv (j:Int)),(139,Pv ri j),(140,Iv ya)]:List (Tmp × Value)).lookup t).getD undef
theorem Qn5 (q:w6.cell? ⟨c,3,none⟩=some (.slice (some ⟨ri,0,none⟩) vl cc)) (u:w6.cell? ⟨X,1,none⟩=some (Iv (j:Int))) (y:(j:Int)<vl) (x:w6.cell? ⟨ri,j,none⟩=some (Iv ya))  {Q:Exit->Act->World->Prop}
 (a:Act) (m:Nat) (p:a.tmps.size=m) (i:148<=m) (s:a.tmps.getD 0 undef=Pv b 0) (r:a.tmps.getD 1 undef=Pv c 0) (o:a.tmps.getD 5 undef=Pv X 0)
 (hend:∀ ops vs w',vs 132=Pv b 0->vs 140=Iv ya->Below w6.heap.size w6 w'->wpList prog ops Q (Qao 9 ((Tryz.f114.body.bind (Qi 22)).getD .skip)) (QN a vs [132,133,134,135,136,137,138,139,140]) w') :
 Code.wp prog ((Tryz.f114.body.bind (Qi 22)).getD .skip) Q a w6:=by
 conv=>arg 2;whnf
 refine Qg 9 (Qnb b c X ri vl cc j ya) (fun w=>Below w6.heap.size w6 w) (fun w w'=>Below w.heap.size w w') (outs:=[0,1,5]) (gs:=[]) (bs:=[true,true,true,true,true,true,true,true,true]) (by kernel_rfl) (n:=148) p i (by kernel_rfl) (by kernel_rfl) ?hR ?hG (QI Zr 1) ⟨s,r,o,Y⟩ ?hA ?hend
 case hR=>exact fun t v w w' _ h=>h
 case hG=>exact Y
 case hend=>exact fun ops vs w' e f=>hend ops vs w' (f 132 (by kernel_rfl)) (f 140 (by kernel_rfl)) e
 case hA =>
  refine⟨fun a w e f K g=>?_,?_⟩
  ·obtain⟨d,-⟩:=f
   have d:a.tmps.getD 0 undef=Pv b 0:=d;go_simp;exact g _ _ Zr e Z
  refine⟨fun a w e f K g=>?_,?_⟩
  ·obtain⟨d,-⟩:=f
   have d:a.tmps.getD 1 undef=Pv c 0:=d;go_simp;exact g _ _ Zr e Z
  refine⟨fun a w e f K g=>?_,?_⟩
  ·obtain⟨d,-⟩:=f
   have d:a.tmps.getD 133 undef=Pv c 0:=d;go_simp;exact g _ _ Zr e Z
  refine⟨fun a w e f K g=>?_,?_⟩
  ·obtain⟨d,-⟩:=f
   have d:a.tmps.getD 134 undef=Pv c 0:=d;go_simp;exact g _ _ Zr e Z
  refine⟨fun a w e f K g=>?_,?_⟩
  ·obtain⟨d,-⟩:=f
   have d:a.tmps.getD 135 undef=Pv c 3:=d;have k:=Qk q e;go_simp;exact g _ _ Zr e Z
  refine⟨fun a w e f K g=>?_,?_⟩
  ·obtain⟨d,-⟩:=f
   have d:a.tmps.getD 5 undef=Pv X 0:=d;go_simp;exact g _ _ Zr e Z
  refine⟨fun a w e f K g=>?_,?_⟩
  ·obtain⟨d,-⟩:=f
   have d:a.tmps.getD 137 undef=Pv X 1:=d;have k:=Qk u e;go_simp;exact g _ _ Zr e Z
  refine⟨fun a w e f K g=>?_,?_⟩
  ·obtain⟨d,l,-⟩:=f
   have d:a.tmps.getD 136 undef=.slice (some ⟨ri,0,none⟩) vl cc:=d;have l:a.tmps.getD 138 undef=Iv (j:Int):=l;go_simp;exact g _ _ Zr e Z
  refine⟨fun a w e f K g=>?_,?_⟩
  ·obtain⟨d,-⟩:=f
   have d:a.tmps.getD 139 undef=Pv ri j:=d;have k:=Qk x e;go_simp;exact g _ _ Zr e Z
  trivial
def Qn7 (b c X be bp ri vl cc j:Nat) (ya yb xk:Int) (t:Tmp) (v:Value) (w:World):Prop :=
 v=(([(0,Pv b 0),(1,Pv c 0),(5,Pv X 0),(6,Iv ya),(30,Pv b 0),(31,Pv b 0),(32,Pv b 0),(33,Pv be 0),(34,Pv be 0),(35,Pv be 0),(36,Pv bp 0),(37,Iv ya),(38,Pv X 4),(39,Iv xk),(40,Iv (wrap64 (ya+xk))),(41,Pv c 0),(42,Pv c 0),(43,Pv c 3),(44,.slice (some ⟨ri,0,none⟩) vl cc),(45,Pv X 2),(46,Iv (j:Int)),(47,Pv ri j),(48,Iv yb)]:List (Tmp × Value)).lookup t).getD undef
theorem wp6 {i:Nat}(z:w6.cell? ⟨b,0,none⟩=some (Pv i 0)) (s:w6.cell? ⟨i,0,none⟩=some (Pv bp 0)) (x:w6.cell? ⟨c,3,none⟩=some (.slice (some ⟨ri,0,none⟩) vl cc)) (r:w6.cell? ⟨X,4,none⟩=some (Iv xk)) (B:w6.cell? ⟨X,2,none⟩=some (Iv (j:Int))) (D:(j:Int)<vl) (u:w6.cell? ⟨ri,j,none⟩=some (Iv yb))  {Q:Exit->Act->World->Prop}
 (a:Act) (m:Nat) (A:a.tmps.size=m) (o:105<=m) (C:a.tmps.getD 0 undef=Pv b 0) (q:a.tmps.getD 1 undef=Pv c 0) (p:a.tmps.getD 5 undef=Pv X 0) (y:a.tmps.getD 6 undef=Iv ya)
 (hend:∀ ops vs w',vs 36=Pv bp 0->vs 40=Iv (wrap64 (ya+xk))->vs 48=Iv yb->Below w6.heap.size w6 w'->wpList prog ops Q (Qao 19 ((Tryz.f177.body.bind (Qi 6)).getD .skip)) (QN a vs [30,31,32,33,34,35,36,37,38,39,40,41,42,43,44,45,46,47,48]) w') :
 Code.wp prog ((Tryz.f177.body.bind (Qi 6)).getD .skip) Q a w6:=by
 conv=>arg 2;whnf
 refine Qg 19 (Qn7 b c X i bp ri vl cc j ya yb xk) (fun w=>Below w6.heap.size w6 w) (fun w w'=>Below w.heap.size w w') (outs:=[0,1,5,6]) (gs:=[]) (bs:=[true,true,true,true,true,true,true,true,true,true,true,true,true,true,true,true,true,true,true]) (by kernel_rfl) (n:=105) A o (by kernel_rfl) (by kernel_rfl) ?hR ?hG (QI Zr 1) ⟨C,q,p,y,Y⟩ ?hA ?hend
 case hR=>exact fun t v w w' _ h=>h
 case hG=>exact Y
 case hend=>exact fun ops vs w' e f=>hend ops vs w' (f 36 (by kernel_rfl)) (f 40 (by kernel_rfl)) (f 48 (by kernel_rfl)) e
 case hA =>
  refine⟨fun a w e f K g=>?_,?_⟩
  ·obtain⟨d,-⟩:=f
   have d:a.tmps.getD 0 undef=Pv b 0:=d;go_simp;exact g _ _ Zr e Z
  refine⟨fun a w e f K g=>?_,?_⟩
  ·obtain⟨d,-⟩:=f
   have d:a.tmps.getD 30 undef=Pv b 0:=d;go_simp;exact g _ _ Zr e Z
  refine⟨fun a w e f K g=>?_,?_⟩
  ·obtain⟨d,-⟩:=f
   have d:a.tmps.getD 31 undef=Pv b 0:=d;go_simp;exact g _ _ Zr e Z
  refine⟨fun a w e f K g=>?_,?_⟩
  ·obtain⟨d,-⟩:=f
   have d:a.tmps.getD 32 undef=Pv b 0:=d;have k:=Qk z e;go_simp;exact g _ _ Zr e Z
  refine⟨fun a w e f K g=>?_,?_⟩
  ·obtain⟨d,-⟩:=f
   have d:a.tmps.getD 33 undef=Pv i 0:=d;go_simp;exact g _ _ Zr e Z
  refine⟨fun a w e f K g=>?_,?_⟩
  ·obtain⟨d,-⟩:=f
   have d:a.tmps.getD 34 undef=Pv i 0:=d;go_simp;exact g _ _ Zr e Z
  refine⟨fun a w e f K g=>?_,?_⟩
  ·obtain⟨d,-⟩:=f
   have d:a.tmps.getD 35 undef=Pv i 0:=d;have k:=Qk s e;go_simp;exact g _ _ Zr e Z
  refine⟨fun a w e f K g=>?_,?_⟩
  ·obtain⟨d,-⟩:=f
   have d:a.tmps.getD 6 undef=Iv ya:=d;go_simp;exact g _ _ Zr e Z
  refine⟨fun a w e f K g=>?_,?_⟩
  ·obtain⟨d,-⟩:=f
   have d:a.tmps.getD 5 undef=Pv X 0:=d;go_simp;exact g _ _ Zr e Z
  refine⟨fun a w e f K g=>?_,?_⟩
  ·obtain⟨d,-⟩:=f
   have d:a.tmps.getD 38 undef=Pv X 4:=d;have k:=Qk r e;go_simp;exact g _ _ Zr e Z
  refine⟨fun a w e f K g=>?_,?_⟩
  ·obtain⟨d,l,-⟩:=f
   have d:a.tmps.getD 37 undef=Iv ya:=d;have l:a.tmps.getD 39 undef=Iv xk:=l;go_simp;exact g _ _ Zr e (by show Value.int .i64 _=Value.int .i64 (wrap64 (ya+xk));rw[IntKind.wrap_i64];unfold wrap64;rfl)
  refine⟨fun a w e f K g=>?_,?_⟩
  ·obtain⟨d,-⟩:=f
   have d:a.tmps.getD 1 undef=Pv c 0:=d;go_simp;exact g _ _ Zr e Z
  refine⟨fun a w e f K g=>?_,?_⟩
  ·obtain⟨d,-⟩:=f
   have d:a.tmps.getD 41 undef=Pv c 0:=d;go_simp;exact g _ _ Zr e Z
  refine⟨fun a w e f K g=>?_,?_⟩
  ·obtain⟨d,-⟩:=f
   have d:a.tmps.getD 42 undef=Pv c 0:=d;go_simp;exact g _ _ Zr e Z
  refine⟨fun a w e f K g=>?_,?_⟩
  ·obtain⟨d,-⟩:=f
   have d:a.tmps.getD 43 undef=Pv c 3:=d;have k:=Qk x e;go_simp;exact g _ _ Zr e Z
  refine⟨fun a w e f K g=>?_,?_⟩
  ·obtain⟨d,-⟩:=f
   have d:a.tmps.getD 5 undef=Pv X 0:=d;go_simp;exact g _ _ Zr e Z
  refine⟨fun a w e f K g=>?_,?_⟩
  ·obtain⟨d,-⟩:=f
   have d:a.tmps.getD 45 undef=Pv X 2:=d;have k:=Qk B e;go_simp;exact g _ _ Zr e Z
  refine⟨fun a w e f K g=>?_,?_⟩
  ·obtain⟨d,l,-⟩:=f
   have d:a.tmps.getD 44 undef=.slice (some ⟨ri,0,none⟩) vl cc:=d;have l:a.tmps.getD 46 undef=Iv (j:Int):=l;go_simp;exact g _ _ Zr e Z
  refine⟨fun a w e f K g=>?_,?_⟩
  ·obtain⟨d,-⟩:=f
   have d:a.tmps.getD 47 undef=Pv ri j:=d;have k:=Qk u e;go_simp;exact g _ _ Zr e Z
  trivial
def QnQ (w6:World) (R:RM) (b c X ri vl cc j:Nat) (ya yb:Int) (t:Tmp) (v:Value) (w:World):Prop :=
 match ([(64,fun v w=>(0<=yb/\yb<R.load ya)/\v=.int .i64 (wrap64 (wrap64 (ya+1)+yb))),(66,QjP w6 (R.load (wrap64 (wrap64 (ya+1)+yb))))]:List (Tmp × (Value->World->Prop))).lookup t with
 | some p=>p v w
 | none=>v=(([(0,.pointer (some ⟨b,0,none⟩)),(1,.pointer (some ⟨c,0,none⟩)),(5,.pointer (some ⟨X,0,none⟩)),(6,.int .i64 ya),(52,.pointer (some ⟨c,0,none⟩)),(53,.pointer (some ⟨b,0,none⟩)),(54,.pointer (some ⟨b,0,none⟩)),(55,.int .i64 ya),(56,.pointer (some ⟨c,0,none⟩)),(57,.pointer (some ⟨c,0,none⟩)),(58,.pointer (some ⟨c,3,none⟩)),(59,.slice (some ⟨ri,0,none⟩) vl cc),(60,.pointer (some ⟨X,2,none⟩)),(61,.int .i64 (j:Int)),(62,.pointer (some ⟨ri,j,none⟩)),(63,.int .i64 yb),(65,.int .i64 (R.load (wrap64 (wrap64 (ya+1)+yb))))]:List (Tmp × Value)).lookup t).getD undef
theorem wp8 {R:RM}(L:w6.cell? ⟨c,3,none⟩=some (.slice (some ⟨ri,0,none⟩) vl cc)) (S:w6.cell? ⟨X,2,none⟩=some (Iv (j:Int))) (U:(j:Int)<vl) (G:w6.cell? ⟨ri,j,none⟩=some (Iv yb)) (M:Hid (∀ wx,Below w6.heap.size w6 wx->Calls prog 222 #[Pv b 0,Iv ya,Iv yb] wx fun e w'=>Qlg R ya yb e/\w'=wx)) (N:Hid (∀ wx k,Below w6.heap.size w6 wx->Calls prog 220 #[Pv b 0,Iv k] wx fun e w'=>e=.returned (Iv (R.load k))/\w'=wx))  {Q:Exit->Act->World->Prop}
 (a:Act) (m:Nat) (P:a.tmps.size=m) (s:105<=m) (T:a.tmps.getD 0 undef=Pv b 0) (r:a.tmps.getD 1 undef=Pv c 0) (y:a.tmps.getD 5 undef=Pv X 0) (O:a.tmps.getD 6 undef=Iv ya)
 (J:∀ ch a' w',a'.defers=a.defers->(fun ch w=>ch=QdT 2/\¬ (0<=yb/\yb<R.load ya)/\Below w6.heap.size w6 w) ch w'->Q (.panic ch) a' w')
 (hend:∀ ops vs w',vs 52=Pv c 0->(fun v w=>(0<=yb/\yb<R.load ya)/\v=Iv (wrap64 (wrap64 (ya+1)+yb))) (vs 64) w'->(QjP w6 (R.load (wrap64 (wrap64 (ya+1)+yb)))) (vs 66) w'->Below w6.heap.size w6 w'->wpList prog ops Q (Qao 15 ((Tryz.f177.body.bind (Qi 8)).getD .skip)) (QN a vs [52,53,54,55,56,57,58,59,60,61,62,63,64,65,66]) w') :
 Code.wp prog ((Tryz.f177.body.bind (Qi 8)).getD .skip) Q a w6:=by
 conv=>arg 2;whnf
 refine ZN 15 (QnQ w6 R b c X ri vl cc j ya yb) (fun w=>Below w6.heap.size w6 w) (fun w w'=>Below w.heap.size w w') (fun ch w=>ch=QdT 2/\¬ (0<=yb/\yb<R.load ya)/\Below w6.heap.size w6 w) J (outs:=[0,1,5,6]) (gs:=[]) (bs:=[true,true,true,true,true,true,true,true,true,true,true,true,true,true,true]) (by kernel_rfl) (n:=105) P s (by kernel_rfl) (by kernel_rfl) ?hR ?hG (QI Zr 1) ⟨T,r,y,O,Y⟩ ?hA ?hend
 case hR =>
  intro t v w w' H h;unfold QnQ at h |-;split at h
  ·rename_i p q
   simp only[List.lookup_cons,List.lookup_nil] at q
   split at q
   ·cases q;exact h
   ·split at q
    ·cases q;exact h.z (Zk.below H)
    ·cases q
  ·exact h
 case hG=>exact Y
 case hend=>exact fun ops vs w' f g=>hend ops vs w' (g 52 (by kernel_rfl)) (g 64 (by kernel_rfl)) (g 66 (by kernel_rfl)) f
 case hA =>
  refine⟨fun a w f g K i=>?_,?_⟩
  ·obtain⟨d,-⟩:=g
   have d:a.tmps.getD 1 undef=Pv c 0:=d;go_simp;exact i _ _ Zr f Z
  refine⟨fun a w f g K i=>?_,?_⟩
  ·obtain⟨d,-⟩:=g
   have d:a.tmps.getD 0 undef=Pv b 0:=d;go_simp;exact i _ _ Zr f Z
  refine⟨fun a w f g K i=>?_,?_⟩
  ·obtain⟨d,-⟩:=g
   have d:a.tmps.getD 0 undef=Pv b 0:=d;go_simp;exact i _ _ Zr f Z
  refine⟨fun a w f g K i=>?_,?_⟩
  ·obtain⟨d,-⟩:=g
   have d:a.tmps.getD 6 undef=Iv ya:=d;go_simp;exact i _ _ Zr f Z
  refine⟨fun a w f g K i=>?_,?_⟩
  ·obtain⟨d,-⟩:=g
   have d:a.tmps.getD 1 undef=Pv c 0:=d;go_simp;exact i _ _ Zr f Z
  refine⟨fun a w f g K i=>?_,?_⟩
  ·obtain⟨d,-⟩:=g
   have d:a.tmps.getD 56 undef=Pv c 0:=d;go_simp;exact i _ _ Zr f Z
  refine⟨fun a w f g K i=>?_,?_⟩
  ·obtain⟨d,-⟩:=g
   have d:a.tmps.getD 57 undef=Pv c 0:=d;go_simp;exact i _ _ Zr f Z
  refine⟨fun a w f g K i=>?_,?_⟩
  ·obtain⟨d,-⟩:=g
   have d:a.tmps.getD 58 undef=Pv c 3:=d;have x:=Qk L f;go_simp;exact i _ _ Zr f Z
  refine⟨fun a w f g K i=>?_,?_⟩
  ·obtain⟨d,-⟩:=g
   have d:a.tmps.getD 5 undef=Pv X 0:=d;go_simp;exact i _ _ Zr f Z
  refine⟨fun a w f g K i=>?_,?_⟩
  ·obtain⟨d,-⟩:=g
   have d:a.tmps.getD 60 undef=Pv X 2:=d;have x:=Qk S f;go_simp;exact i _ _ Zr f Z
  refine⟨fun a w f g K i=>?_,?_⟩
  ·obtain⟨d,l,-⟩:=g
   have d:a.tmps.getD 59 undef=.slice (some ⟨ri,0,none⟩) vl cc:=d;have l:a.tmps.getD 61 undef=Iv (j:Int):=l;go_simp;exact i _ _ Zr f Z
  refine⟨fun a w f g K i=>?_,?_⟩
  ·obtain⟨d,-⟩:=g
   have d:a.tmps.getD 62 undef=Pv ri j:=d;have x:=Qk G f;go_simp;exact i _ _ Zr f Z
  refine⟨fun a w f g K i=>?_,?_⟩
  ·obtain⟨d,l,u,-⟩:=g
   have d:a.tmps.getD 54 undef=Pv b 0:=d;have l:a.tmps.getD 55 undef=Iv ya:=l;have u:a.tmps.getD 63 undef=Iv yb:=u;go_simp;refine Xm (M.out w f) ?_;rintro I E ⟨A,o⟩;have o:=o.symm;subst o;rcases A with ⟨r,B,rfl⟩|⟨r,rfl⟩
   rotate_left
   ·exact⟨_,Z,Z,(fun h=>Int.not_lt.1 (fun C=>r ⟨h,C⟩)),f⟩
   go_simp;exact i _ _ Zr f ⟨⟨r,B⟩,Z⟩
  refine⟨fun a w f g K i=>?_,?_⟩
  ·obtain⟨d,l,-⟩:=g
   have d:a.tmps.getD 53 undef=Pv b 0:=d;have l:(fun v w=>(0<=yb/\yb<R.load ya)/\v=Iv (wrap64 (wrap64 (ya+1)+yb))) (a.tmps.getD 64 undef) w:=l;generalize D:a.tmps.getD 64 undef=F at l;obtain⟨-,rfl⟩:=l
   go_simp;refine Xm (N.out w _ f) ?_;rintro I E ⟨rfl,o⟩;have o:=o.symm;subst o;go_simp;exact i _ _ Zr f Z
  refine⟨fun a w f g K i=>?_,?_⟩
  ·obtain⟨d,-⟩:=g
   have d:a.tmps.getD 65 undef=Iv (R.load (wrap64 (wrap64 (ya+1)+yb))):=d;rw[Za] at d
   go_simp;exact i _ _ (ZO _ _) (f.trans ((ZO _ _).mono f.size)) ⟨_,Z,f.size,Qb (Qe _ _ _) 0 _ Z⟩
  trivial
def Qmh (R:RM) (b c X be bp ri vl cc j q:Nat) (ya yb yc:Int) (t:Tmp) (v:Value) (w:World):Prop :=
 match ([(87,fun v w=>(0<=yb/\yb<R.load ya)/\v=.int .i64 (wrap64 (wrap64 (ya+1)+yb)))]:List (Tmp × (Value->World->Prop))).lookup t with
 | some p=>p v w
 | none=>v=(([(0,.pointer (some ⟨b,0,none⟩)),(1,.pointer (some ⟨c,0,none⟩)),(5,.pointer (some ⟨X,0,none⟩)),(6,.int .i64 ya),(70,.pointer (some ⟨b,0,none⟩)),(71,.pointer (some ⟨b,0,none⟩)),(72,.pointer (some ⟨b,0,none⟩)),(73,.pointer (some ⟨be,0,none⟩)),(74,.pointer (some ⟨be,0,none⟩)),(75,.pointer (some ⟨be,0,none⟩)),(76,.pointer (some ⟨bp,0,none⟩)),(77,.pointer (some ⟨b,0,none⟩)),(78,.int .i64 ya),(79,.pointer (some ⟨c,0,none⟩)),(80,.pointer (some ⟨c,0,none⟩)),(81,.pointer (some ⟨c,3,none⟩)),(82,.slice (some ⟨ri,0,none⟩) vl cc),(83,.pointer (some ⟨X,2,none⟩)),(84,.int .i64 (j:Int)),(85,.pointer (some ⟨ri,j,none⟩)),(86,.int .i64 yb),(88,.pointer (some ⟨c,0,none⟩)),(89,.pointer (some ⟨c,0,none⟩)),(90,.pointer (some ⟨c,3,none⟩)),(91,.slice (some ⟨ri,0,none⟩) vl cc),(92,.pointer (some ⟨X,3,none⟩)),(93,.int .i64 (q:Int)),(94,.pointer (some ⟨ri,q,none⟩)),(95,.int .i64 yc)]:List (Tmp × Value)).lookup t).getD undef
theorem QnP {R:RM}{o:Nat}{y:Int}(M:w6.cell? ⟨b,0,none⟩=some (Pv o 0)) (F:w6.cell? ⟨o,0,none⟩=some (Pv bp 0)) (A:w6.cell? ⟨c,3,none⟩=some (.slice (some ⟨ri,0,none⟩) vl cc)) (O:w6.cell? ⟨X,2,none⟩=some (Iv (j:Int))) (U:(j:Int)<vl) (H:w6.cell? ⟨ri,j,none⟩=some (Iv yb)) (S:w6.cell? ⟨X,3,none⟩=some (Iv (q:Int))) (V:(q:Int)<vl) (G:w6.cell? ⟨ri,q,none⟩=some (Iv y)) (J:Hid (∀ wx,Below w6.heap.size w6 wx->Calls prog 222 #[Pv b 0,Iv ya,Iv yb] wx fun e w'=>Qlg R ya yb e/\w'=wx))  {Q:Exit->Act->World->Prop}
 (a:Act) (m:Nat) (N:a.tmps.size=m) (u:105<=m) (P:a.tmps.getD 0 undef=Pv b 0) (r:a.tmps.getD 1 undef=Pv c 0) (B:a.tmps.getD 5 undef=Pv X 0) (L:a.tmps.getD 6 undef=Iv ya)
 (I:∀ ch a' w',a'.defers=a.defers->(fun ch w=>ch=QdT 2/\¬ (0<=yb/\yb<R.load ya)/\Below w6.heap.size w6 w) ch w'->Q (.panic ch) a' w')
 (hend:∀ ops vs w',vs 76=Pv bp 0->(fun v w=>(0<=yb/\yb<R.load ya)/\v=Iv (wrap64 (wrap64 (ya+1)+yb))) (vs 87) w'->vs 95=Iv y->Below w6.heap.size w6 w'->wpList prog ops Q (Qao 26 ((Tryz.f177.body.bind (Qi 10)).getD .skip)) (QN a vs [70,71,72,73,74,75,76,77,78,79,80,81,82,83,84,85,86,87,88,89,90,91,92,93,94,95]) w') :
 Code.wp prog ((Tryz.f177.body.bind (Qi 10)).getD .skip) Q a w6:=by
 conv=>arg 2;whnf
 refine ZN 26 (Qmh R b c X o bp ri vl cc j q ya yb y) (fun w=>Below w6.heap.size w6 w) (fun w w'=>Below w.heap.size w w') (fun ch w=>ch=QdT 2/\¬ (0<=yb/\yb<R.load ya)/\Below w6.heap.size w6 w) I (outs:=[0,1,5,6]) (gs:=[]) (bs:=[true,true,true,true,true,true,true,true,true,true,true,true,true,true,true,true,true,true,true,true,true,true,true,true,true,true]) (by kernel_rfl) (n:=105) N u (by kernel_rfl) (by kernel_rfl) ?hR ?hG (QI Zr 1) ⟨P,r,B,L,Y⟩ ?hA ?hend
 case hR =>
  intro t v w w' W h;unfold Qmh at h |-;split at h
  ·rename_i p s
   simp only[List.lookup_cons,List.lookup_nil] at s
   split at s
   ·cases s;exact h
   ·cases s
  ·exact h
 case hG=>exact Y
 case hend=>exact fun ops vs w' f g=>hend ops vs w' (g 76 (by kernel_rfl)) (g 87 (by kernel_rfl)) (g 95 (by kernel_rfl)) f
 case hA =>
  refine⟨fun a w f g K i=>?_,?_⟩
  ·obtain⟨d,-⟩:=g
   have d:a.tmps.getD 0 undef=Pv b 0:=d;go_simp;exact i _ _ Zr f Z
  refine⟨fun a w f g K i=>?_,?_⟩
  ·obtain⟨d,-⟩:=g
   have d:a.tmps.getD 70 undef=Pv b 0:=d;go_simp;exact i _ _ Zr f Z
  refine⟨fun a w f g K i=>?_,?_⟩
  ·obtain⟨d,-⟩:=g
   have d:a.tmps.getD 71 undef=Pv b 0:=d;go_simp;exact i _ _ Zr f Z
  refine⟨fun a w f g K i=>?_,?_⟩
  ·obtain⟨d,-⟩:=g
   have d:a.tmps.getD 72 undef=Pv b 0:=d;have l:=Qk M f;go_simp;exact i _ _ Zr f Z
  refine⟨fun a w f g K i=>?_,?_⟩
  ·obtain⟨d,-⟩:=g
   have d:a.tmps.getD 73 undef=Pv o 0:=d;go_simp;exact i _ _ Zr f Z
  refine⟨fun a w f g K i=>?_,?_⟩
  ·obtain⟨d,-⟩:=g
   have d:a.tmps.getD 74 undef=Pv o 0:=d;go_simp;exact i _ _ Zr f Z
  refine⟨fun a w f g K i=>?_,?_⟩
  ·obtain⟨d,-⟩:=g
   have d:a.tmps.getD 75 undef=Pv o 0:=d;have l:=Qk F f;go_simp;exact i _ _ Zr f Z
  refine⟨fun a w f g K i=>?_,?_⟩
  ·obtain⟨d,-⟩:=g
   have d:a.tmps.getD 0 undef=Pv b 0:=d;go_simp;exact i _ _ Zr f Z
  refine⟨fun a w f g K i=>?_,?_⟩
  ·obtain⟨d,-⟩:=g
   have d:a.tmps.getD 6 undef=Iv ya:=d;go_simp;exact i _ _ Zr f Z
  refine⟨fun a w f g K i=>?_,?_⟩
  ·obtain⟨d,-⟩:=g
   have d:a.tmps.getD 1 undef=Pv c 0:=d;go_simp;exact i _ _ Zr f Z
  refine⟨fun a w f g K i=>?_,?_⟩
  ·obtain⟨d,-⟩:=g
   have d:a.tmps.getD 79 undef=Pv c 0:=d;go_simp;exact i _ _ Zr f Z
  refine⟨fun a w f g K i=>?_,?_⟩
  ·obtain⟨d,-⟩:=g
   have d:a.tmps.getD 80 undef=Pv c 0:=d;go_simp;exact i _ _ Zr f Z
  refine⟨fun a w f g K i=>?_,?_⟩
  ·obtain⟨d,-⟩:=g
   have d:a.tmps.getD 81 undef=Pv c 3:=d;have l:=Qk A f;go_simp;exact i _ _ Zr f Z
  refine⟨fun a w f g K i=>?_,?_⟩
  ·obtain⟨d,-⟩:=g
   have d:a.tmps.getD 5 undef=Pv X 0:=d;go_simp;exact i _ _ Zr f Z
  refine⟨fun a w f g K i=>?_,?_⟩
  ·obtain⟨d,-⟩:=g
   have d:a.tmps.getD 83 undef=Pv X 2:=d;have l:=Qk O f;go_simp;exact i _ _ Zr f Z
  refine⟨fun a w f g K i=>?_,?_⟩
  ·obtain⟨d,k,-⟩:=g
   have d:a.tmps.getD 82 undef=.slice (some ⟨ri,0,none⟩) vl cc:=d;have k:a.tmps.getD 84 undef=Iv (j:Int):=k;go_simp;exact i _ _ Zr f Z
  refine⟨fun a w f g K i=>?_,?_⟩
  ·obtain⟨d,-⟩:=g
   have d:a.tmps.getD 85 undef=Pv ri j:=d;have l:=Qk H f;go_simp;exact i _ _ Zr f Z
  refine⟨fun a w f g K i=>?_,?_⟩
  ·obtain⟨d,k,z,-⟩:=g
   have d:a.tmps.getD 77 undef=Pv b 0:=d;have k:a.tmps.getD 78 undef=Iv ya:=k;have z:a.tmps.getD 86 undef=Iv yb:=z;go_simp;refine Xm (J.out w f) ?_;rintro r7 T ⟨C,x⟩;have x:=x.symm;subst x;rcases C with ⟨r,D,rfl⟩|⟨r,rfl⟩
   rotate_left
   ·exact⟨_,Z,Z,(fun h=>Int.not_lt.1 (fun E=>r ⟨h,E⟩)),f⟩
   go_simp;exact i _ _ Zr f ⟨⟨r,D⟩,Z⟩
  refine⟨fun a w f g K i=>?_,?_⟩
  ·obtain⟨d,-⟩:=g
   have d:a.tmps.getD 1 undef=Pv c 0:=d;go_simp;exact i _ _ Zr f Z
  refine⟨fun a w f g K i=>?_,?_⟩
  ·obtain⟨d,-⟩:=g
   have d:a.tmps.getD 88 undef=Pv c 0:=d;go_simp;exact i _ _ Zr f Z
  refine⟨fun a w f g K i=>?_,?_⟩
  ·obtain⟨d,-⟩:=g
   have d:a.tmps.getD 89 undef=Pv c 0:=d;go_simp;exact i _ _ Zr f Z
  refine⟨fun a w f g K i=>?_,?_⟩
  ·obtain⟨d,-⟩:=g
   have d:a.tmps.getD 90 undef=Pv c 3:=d;have l:=Qk A f;go_simp;exact i _ _ Zr f Z
  refine⟨fun a w f g K i=>?_,?_⟩
  ·obtain⟨d,-⟩:=g
   have d:a.tmps.getD 5 undef=Pv X 0:=d;go_simp;exact i _ _ Zr f Z
  refine⟨fun a w f g K i=>?_,?_⟩
  ·obtain⟨d,-⟩:=g
   have d:a.tmps.getD 92 undef=Pv X 3:=d;have l:=Qk S f;go_simp;exact i _ _ Zr f Z
  refine⟨fun a w f g K i=>?_,?_⟩
  ·obtain⟨d,k,-⟩:=g
   have d:a.tmps.getD 91 undef=.slice (some ⟨ri,0,none⟩) vl cc:=d;have k:a.tmps.getD 93 undef=Iv (q:Int):=k;go_simp;exact i _ _ Zr f Z
  refine⟨fun a w f g K i=>?_,?_⟩
  ·obtain⟨d,-⟩:=g
   have d:a.tmps.getD 94 undef=Pv ri q:=d;have l:=Qk G f;go_simp;exact i _ _ Zr f Z
  trivial
def Qke (w6:World) (b c X ri vl cc j na ca:Nat) (pa:Option Addr) (xs:List Int) (ya ta:Int) (S:Nat->Bool) (t:Tmp) (v:Value) (w:World):Prop :=
 match ([(97,fun _ v _=>(fun v=>v=.int .i64 ta) v),(96,fun _ v w=>(QmI w6 xs na) v w),(98,fun _ v w=>(QjP w6 ta) v w)]:List (Tmp × ((Nat->Bool)->Value->World->Prop))).lookup t with
 | some p=>p S v w
 | none=>v=(([(0,.pointer (some ⟨b,0,none⟩)),(1,.pointer (some ⟨c,0,none⟩)),(5,.pointer (some ⟨X,0,none⟩)),(83,.pointer (some ⟨c,0,none⟩)),(84,.pointer (some ⟨b,0,none⟩)),(85,.pointer (some ⟨c,0,none⟩)),(86,.pointer (some ⟨c,0,none⟩)),(87,.pointer (some ⟨c,3,none⟩)),(88,.slice (some ⟨ri,0,none⟩) vl cc),(89,.pointer (some ⟨X,1,none⟩)),(90,.int .i64 (j:Int)),(91,.pointer (some ⟨ri,j,none⟩)),(92,.int .i64 ya),(93,.pointer (some ⟨c,0,none⟩)),(94,.pointer (some ⟨X,7,none⟩)),(95,.slice pa na ca)]:List (Tmp × Value)).lookup t).getD undef
theorem Qbd {d:Nat}{f:Int}{S:Nat->Bool}{t:Tmp}{u:Value}(e:Zk w6 w w') (a:Qke w6 b c X ri vl cc j d ca pa xs ya f S t u w):Qke w6 b c X ri vl cc j d ca pa xs ya f (Qcr i S) t u w':=by
 unfold Qke at a |-;refine Qm0 ?_ a;exact⟨fun _ h=>h,fun _ h=>h.z e,fun _ h=>h.z e,Y⟩
theorem Qn2 {y:Nat}{F:Int}{B:World->Prop}{A:List PanicEntry->World->Prop}(C:∀ w,B w->w6.heap.size<=w.heap.size) (c3:w6.cell? ⟨c,3,none⟩=some (.slice (some ⟨ri,0,none⟩) vl cc)) (W:w6.cell? ⟨X,1,none⟩=some (Iv (j:Int))) (hj:(j:Int)<vl) (ej:w6.cell? ⟨ri,j,none⟩=some (Iv ya)) (x7:w6.cell? ⟨X,7,none⟩=some (.slice pa y ca)) (CA:Hid (∀ wx,Below w6.heap.size w6 wx->Calls prog 167 #[Pv c 0,.slice pa y ca] wx fun e w'=>Qm7 wx xs y e w')) (CT:Hid (∀ wx k,Below w6.heap.size w6 wx->w6.heap.size<=k->QbC wx (.slice (some ⟨k,0,none⟩) y y) xs->Calls prog 172 #[Pv b 0,Iv ya,.slice (some ⟨k,0,none⟩) y y] wx fun e w'=>(e=.returned (Iv F)/\B w'/\Zk w6 wx w')\/(∃ ch,e=.panicked ch/\A ch w')))  (R:∀ w w',(fun w=>∃ w5,B w5/\Below w5.heap.size w5 w) w->Below w.heap.size w w'->(fun w=>∃ w5,B w5/\Below w5.heap.size w5 w) w'){Q:Exit->Act->World->Prop}
 (a:Act) (m:Nat) (hn:a.tmps.size=m) (N:148<=m) (h0:a.tmps.getD 0 undef=Pv b 0) (H:a.tmps.getD 1 undef=Pv c 0) (G:a.tmps.getD 5 undef=Pv X 0)
 (hX:∀ ch a' w',a'.defers=a.defers->(fun ch w=>A ch w) ch w'->Q (.panic ch) a' w')
 (hend:∀ ops vs w',vs 83=Pv c 0->(QjP w6 F) (vs 98) w'->(fun w=>∃ w5,B w5/\Below w5.heap.size w5 w) w'->wpList prog ops Q (Qao 16 ((Tryz.f114.body.bind (Qi 16)).getD .skip)) (QN a vs [83,84,85,86,87,88,89,90,91,92,93,94,95,96,97,98]) w') :
 Code.wp prog ((Tryz.f114.body.bind (Qi 16)).getD .skip) Q a w6:=by
 conv=>arg 2;whnf
 refine Zs 16 (Qke w6 b c X ri vl cc j y ca pa xs ya F) (WY w6 (fun w=>∃ w5,B w5/\Below w5.heap.size w5 w) 14) (fun ch w=>A ch w) hX (outs:=[0,1,5]) (gs:=[]) (bs:=[true,true,true,true,true,true,true,true,true,true,true,true,true,true,true,true]) (by kernel_rfl) (n:=148) hn N (by kernel_rfl) (by kernel_rfl) ?hG (.inl ⟨Z,QI Zr 1⟩) ⟨h0,H,G,Y⟩ ?hA ?hend
 case hG=>exact fun S=>trivial
 case hend=>exact fun ops vs S w' D f g=>hend ops vs w' (g 83 (by kernel_rfl)) (g 98 (by kernel_rfl)) (f.fin (D 14 (by decide)))
 case hA =>
  refine⟨fun S a w p u r f g K o=>?_,?_⟩
  ·obtain⟨d,-⟩:=g
   have d:a.tmps.getD 1 undef=Pv c 0:=d;go_simp;exact o _ _ (fun t _ l=>Qbd (i:=0) (Zk.refl _ _) l) (f.onS (i:=0) (by decide)) Z
  refine⟨fun S a w p u r f g K o=>?_,?_⟩
  ·obtain⟨d,-⟩:=g
   have d:a.tmps.getD 0 undef=Pv b 0:=d;go_simp;exact o _ _ (fun t _ l=>Qbd (i:=1) (Zk.refl _ _) l) (f.onS (i:=1) (by decide)) Z
  refine⟨fun S a w p u r f g K o=>?_,?_⟩
  ·obtain⟨d,-⟩:=g
   have d:a.tmps.getD 1 undef=Pv c 0:=d;go_simp;exact o _ _ (fun t _ l=>Qbd (i:=2) (Zk.refl _ _) l) (f.onS (i:=2) (by decide)) Z
  refine⟨fun S a w p u r f g K o=>?_,?_⟩
  ·obtain⟨d,-⟩:=g
   have d:a.tmps.getD 85 undef=Pv c 0:=d;go_simp;exact o _ _ (fun t _ l=>Qbd (i:=3) (Zk.refl _ _) l) (f.onS (i:=3) (by decide)) Z
  refine⟨fun S a w p u r f g K o=>?_,?_⟩
  ·obtain⟨d,-⟩:=g
   have d:a.tmps.getD 86 undef=Pv c 0:=d;go_simp;exact o _ _ (fun t _ l=>Qbd (i:=4) (Zk.refl _ _) l) (f.onS (i:=4) (by decide)) Z
  refine⟨fun S a w p u r f g K o=>?_,?_⟩
  ·obtain⟨d,-⟩:=g
   have s:S 14=false:=Qfr r (q:=14) Z (by kernel_rfl) p;have x:=f.pre s;have d:a.tmps.getD 87 undef=Pv c 3:=d;have L:=Qk c3 x;go_simp;exact o _ _ (fun t _ l=>Qbd (i:=5) (Zk.refl _ _) l) (f.onS (i:=5) (by decide)) Z
  refine⟨fun S a w p u r f g K o=>?_,?_⟩
  ·obtain⟨d,-⟩:=g
   have d:a.tmps.getD 5 undef=Pv X 0:=d;go_simp;exact o _ _ (fun t _ l=>Qbd (i:=6) (Zk.refl _ _) l) (f.onS (i:=6) (by decide)) Z
  refine⟨fun S a w p u r f g K o=>?_,?_⟩
  ·obtain⟨d,-⟩:=g
   have s:S 14=false:=Qfr r (q:=14) Z (by kernel_rfl) p;have x:=f.pre s;have d:a.tmps.getD 89 undef=Pv X 1:=d;have L:=Qk W x;go_simp;exact o _ _ (fun t _ l=>Qbd (i:=7) (Zk.refl _ _) l) (f.onS (i:=7) (by decide)) Z
  refine⟨fun S a w p u r f g K o=>?_,?_⟩
  ·obtain⟨d,z,-⟩:=g
   have d:a.tmps.getD 88 undef=.slice (some ⟨ri,0,none⟩) vl cc:=d;have z:a.tmps.getD 90 undef=Iv (j:Int):=z;go_simp;exact o _ _ (fun t _ l=>Qbd (i:=8) (Zk.refl _ _) l) (f.onS (i:=8) (by decide)) Z
  refine⟨fun S a w p u r f g K o=>?_,?_⟩
  ·obtain⟨d,-⟩:=g
   have s:S 14=false:=Qfr r (q:=14) Z (by kernel_rfl) p;have x:=f.pre s;have d:a.tmps.getD 91 undef=Pv ri j:=d;have L:=Qk ej x;go_simp;exact o _ _ (fun t _ l=>Qbd (i:=9) (Zk.refl _ _) l) (f.onS (i:=9) (by decide)) Z
  refine⟨fun S a w p u r f g K o=>?_,?_⟩
  ·obtain⟨d,-⟩:=g
   have d:a.tmps.getD 1 undef=Pv c 0:=d;go_simp;exact o _ _ (fun t _ l=>Qbd (i:=10) (Zk.refl _ _) l) (f.onS (i:=10) (by decide)) Z
  refine⟨fun S a w p u r f g K o=>?_,?_⟩
  ·obtain⟨d,-⟩:=g
   have d:a.tmps.getD 5 undef=Pv X 0:=d;go_simp;exact o _ _ (fun t _ l=>Qbd (i:=11) (Zk.refl _ _) l) (f.onS (i:=11) (by decide)) Z
  refine⟨fun S a w p u r f g K o=>?_,?_⟩
  ·obtain⟨d,-⟩:=g
   have s:S 14=false:=Qfr r (q:=14) Z (by kernel_rfl) p;have x:=f.pre s;have d:a.tmps.getD 94 undef=Pv X 7:=d;have L:=Qk x7 x;go_simp;exact o _ _ (fun t _ l=>Qbd (i:=12) (Zk.refl _ _) l) (f.onS (i:=12) (by decide)) Z
  refine⟨fun S a w p u r f g K o=>?_,?_⟩
  ·obtain⟨d,z,-⟩:=g
   have s:S 14=false:=Qfr r (q:=14) Z (by kernel_rfl) p;have x:=f.pre s;have d:a.tmps.getD 93 undef=Pv c 0:=d;have z:a.tmps.getD 95 undef=.slice pa y ca:=z;go_simp;refine Xm (CA.out w x) ?_;rintro r7 w7 ⟨O,rfl,H,U,P⟩;go_simp;exact o _ _ (fun t _ l=>Qbd (i:=13) (Zk.below P) l) (f.onB R (i:=13) (by decide) P) ⟨O,Z,Zt x.size H,U⟩
  refine⟨fun S a w p u r f g K o=>?_,?_⟩
  ·obtain⟨d,z,E,-⟩:=g
   have x:=f.pre p;have d:a.tmps.getD 84 undef=Pv b 0:=d;have z:a.tmps.getD 92 undef=Iv ya:=z;have E:(QmI w6 xs y) (a.tmps.getD 96 undef) w:=E;generalize ac:a.tmps.getD 96 undef=ab at E;obtain⟨O,rfl,T,h8⟩:=E
   go_simp;refine Xm (CT.out w O x T h8) ?_;rintro r7 w7 (⟨rfl,I,V⟩|⟨ch,rfl,I⟩)
   rotate_left
   ·exact⟨_,Z,I⟩
   go_simp;exact o _ _ (fun t _ l=>Qbd (i:=14) V l) (WY.did ⟨_,I,Zr⟩) Z
  refine⟨fun S a w p u r f g K o=>?_,?_⟩
  ·obtain⟨d,-⟩:=g
   have d:(fun v=>v=Iv F) (a.tmps.getD 97 undef):=d;generalize M:a.tmps.getD 97 undef=aa at d;rw[Za] at M
   subst d;go_simp;have J:=f.lowB (fun w h=>by obtain⟨w5,G,h6⟩:=h;exact Zt (C _ G) h6.size);exact o _ _ (fun t _ l=>Qbd (i:=15) (Zk.below (ZO _ _)) l) (f.onB R (i:=15) (by decide) (ZO _ _)) ⟨_,Z,J,Qb (Qe _ _ _) 0 _ Z⟩
  trivial
def QkC (w6:World) (b c X ri vl cc j q:Nat) (ya yb ta:Int) (S:Nat->Bool) (t:Tmp) (v:Value) (w:World):Prop :=
 match ([(120,fun _ v _=>(fun v=>v=.int .i64 ta) v),(121,fun _ v w=>(QjP w6 ta) v w)]:List (Tmp × ((Nat->Bool)->Value->World->Prop))).lookup t with
 | some p=>p S v w
 | none=>v=(([(0,.pointer (some ⟨b,0,none⟩)),(1,.pointer (some ⟨c,0,none⟩)),(5,.pointer (some ⟨X,0,none⟩)),(102,.pointer (some ⟨c,0,none⟩)),(103,.pointer (some ⟨b,0,none⟩)),(104,.pointer (some ⟨c,0,none⟩)),(105,.pointer (some ⟨c,0,none⟩)),(106,.pointer (some ⟨c,3,none⟩)),(107,.slice (some ⟨ri,0,none⟩) vl cc),(108,.pointer (some ⟨X,1,none⟩)),(109,.int .i64 (j:Int)),(110,.pointer (some ⟨ri,j,none⟩)),(111,.int .i64 ya),(112,.pointer (some ⟨c,0,none⟩)),(113,.pointer (some ⟨c,0,none⟩)),(114,.pointer (some ⟨c,3,none⟩)),(115,.slice (some ⟨ri,0,none⟩) vl cc),(116,.pointer (some ⟨X,2,none⟩)),(117,.int .i64 (q:Int)),(118,.pointer (some ⟨ri,q,none⟩)),(119,.int .i64 yb)]:List (Tmp × Value)).lookup t).getD undef
theorem Qar {d:Int}{S:Nat->Bool}{t:Tmp}{u:Value}(e:Zk w6 w w') (a:QkC w6 b c X ri vl cc j q ya yb d S t u w):QkC w6 b c X ri vl cc j q ya yb d (Qcr i S) t u w':=by
 unfold QkC at a |-;refine Qm0 ?_ a;exact⟨fun _ h=>h,fun _ h=>h.z e,Y⟩
theorem Qoa {D:Int}{z:World->Prop}{y:List PanicEntry->World->Prop}(A:∀ w,z w->w6.heap.size<=w.heap.size) (L:w6.cell? ⟨c,3,none⟩=some (.slice (some ⟨ri,0,none⟩) vl cc)) (O:w6.cell? ⟨X,1,none⟩=some (Iv (j:Int))) (hj:(j:Int)<vl) (T:w6.cell? ⟨ri,j,none⟩=some (Iv ya)) (x2:w6.cell? ⟨X,2,none⟩=some (Iv (q:Int))) (hq:(q:Int)<vl) (R:w6.cell? ⟨ri,q,none⟩=some (Iv yb)) (CT:Hid (∀ wx,Below w6.heap.size w6 wx->Calls prog 173 #[Pv b 0,Iv ya,Iv yb] wx fun e w'=>(e=.returned (Iv D)/\z w'/\Zk w6 wx w')\/(∃ ch,e=.panicked ch/\y ch w')))  (hP:∀ w w',(fun w=>∃ w5,z w5/\Below w5.heap.size w5 w) w->Below w.heap.size w w'->(fun w=>∃ w5,z w5/\Below w5.heap.size w5 w) w'){Q:Exit->Act->World->Prop}
 (a:Act) (m:Nat) (W:a.tmps.size=m) (I:148<=m) (h0:a.tmps.getD 0 undef=Pv b 0) (M:a.tmps.getD 1 undef=Pv c 0) (E:a.tmps.getD 5 undef=Pv X 0)
 (U:∀ ch a' w',a'.defers=a.defers->(fun ch w=>y ch w) ch w'->Q (.panic ch) a' w')
 (hend:∀ ops vs w',vs 102=Pv c 0->(QjP w6 D) (vs 121) w'->(fun w=>∃ w5,z w5/\Below w5.heap.size w5 w) w'->wpList prog ops Q (Qao 20 ((Tryz.f114.body.bind (Qi 18)).getD .skip)) (QN a vs [102,103,104,105,106,107,108,109,110,111,112,113,114,115,116,117,118,119,120,121]) w') :
 Code.wp prog ((Tryz.f114.body.bind (Qi 18)).getD .skip) Q a w6:=by
 conv=>arg 2;whnf
 refine Zs 20 (QkC w6 b c X ri vl cc j q ya yb D) (WY w6 (fun w=>∃ w5,z w5/\Below w5.heap.size w5 w) 18) (fun ch w=>y ch w) U (outs:=[0,1,5]) (gs:=[]) (bs:=[true,true,true,true,true,true,true,true,true,true,true,true,true,true,true,true,true,true,true,true]) (by kernel_rfl) (n:=148) W I (by kernel_rfl) (by kernel_rfl) ?hG (.inl ⟨Z,QI Zr 1⟩) ⟨h0,M,E,Y⟩ ?hA ?hend
 case hG=>exact fun S=>trivial
 case hend=>exact fun ops vs S w' C f g=>hend ops vs w' (g 102 (by kernel_rfl)) (g 121 (by kernel_rfl)) (f.fin (C 18 (by decide)))
 case hA =>
  refine⟨fun S a w o s p f g K l=>?_,?_⟩
  ·obtain⟨d,-⟩:=g
   have d:a.tmps.getD 1 undef=Pv c 0:=d;go_simp;exact l _ _ (fun t _ k=>Qar (i:=0) (Zk.refl _ _) k) (f.onS (i:=0) (by decide)) Z
  refine⟨fun S a w o s p f g K l=>?_,?_⟩
  ·obtain⟨d,-⟩:=g
   have d:a.tmps.getD 0 undef=Pv b 0:=d;go_simp;exact l _ _ (fun t _ k=>Qar (i:=1) (Zk.refl _ _) k) (f.onS (i:=1) (by decide)) Z
  refine⟨fun S a w o s p f g K l=>?_,?_⟩
  ·obtain⟨d,-⟩:=g
   have d:a.tmps.getD 1 undef=Pv c 0:=d;go_simp;exact l _ _ (fun t _ k=>Qar (i:=2) (Zk.refl _ _) k) (f.onS (i:=2) (by decide)) Z
  refine⟨fun S a w o s p f g K l=>?_,?_⟩
  ·obtain⟨d,-⟩:=g
   have d:a.tmps.getD 104 undef=Pv c 0:=d;go_simp;exact l _ _ (fun t _ k=>Qar (i:=3) (Zk.refl _ _) k) (f.onS (i:=3) (by decide)) Z
  refine⟨fun S a w o s p f g K l=>?_,?_⟩
  ·obtain⟨d,-⟩:=g
   have d:a.tmps.getD 105 undef=Pv c 0:=d;go_simp;exact l _ _ (fun t _ k=>Qar (i:=4) (Zk.refl _ _) k) (f.onS (i:=4) (by decide)) Z
  refine⟨fun S a w o s p f g K l=>?_,?_⟩
  ·obtain⟨d,-⟩:=g
   have r:S 18=false:=Qfr p (q:=18) Z (by kernel_rfl) o;have u:=f.pre r;have d:a.tmps.getD 106 undef=Pv c 3:=d;have B:=Qk L u;go_simp;exact l _ _ (fun t _ k=>Qar (i:=5) (Zk.refl _ _) k) (f.onS (i:=5) (by decide)) Z
  refine⟨fun S a w o s p f g K l=>?_,?_⟩
  ·obtain⟨d,-⟩:=g
   have d:a.tmps.getD 5 undef=Pv X 0:=d;go_simp;exact l _ _ (fun t _ k=>Qar (i:=6) (Zk.refl _ _) k) (f.onS (i:=6) (by decide)) Z
  refine⟨fun S a w o s p f g K l=>?_,?_⟩
  ·obtain⟨d,-⟩:=g
   have r:S 18=false:=Qfr p (q:=18) Z (by kernel_rfl) o;have u:=f.pre r;have d:a.tmps.getD 108 undef=Pv X 1:=d;have B:=Qk O u;go_simp;exact l _ _ (fun t _ k=>Qar (i:=7) (Zk.refl _ _) k) (f.onS (i:=7) (by decide)) Z
  refine⟨fun S a w o s p f g K l=>?_,?_⟩
  ·obtain⟨d,x,-⟩:=g
   have d:a.tmps.getD 107 undef=.slice (some ⟨ri,0,none⟩) vl cc:=d;have x:a.tmps.getD 109 undef=Iv (j:Int):=x;go_simp;exact l _ _ (fun t _ k=>Qar (i:=8) (Zk.refl _ _) k) (f.onS (i:=8) (by decide)) Z
  refine⟨fun S a w o s p f g K l=>?_,?_⟩
  ·obtain⟨d,-⟩:=g
   have r:S 18=false:=Qfr p (q:=18) Z (by kernel_rfl) o;have u:=f.pre r;have d:a.tmps.getD 110 undef=Pv ri j:=d;have B:=Qk T u;go_simp;exact l _ _ (fun t _ k=>Qar (i:=9) (Zk.refl _ _) k) (f.onS (i:=9) (by decide)) Z
  refine⟨fun S a w o s p f g K l=>?_,?_⟩
  ·obtain⟨d,-⟩:=g
   have d:a.tmps.getD 1 undef=Pv c 0:=d;go_simp;exact l _ _ (fun t _ k=>Qar (i:=10) (Zk.refl _ _) k) (f.onS (i:=10) (by decide)) Z
  refine⟨fun S a w o s p f g K l=>?_,?_⟩
  ·obtain⟨d,-⟩:=g
   have d:a.tmps.getD 112 undef=Pv c 0:=d;go_simp;exact l _ _ (fun t _ k=>Qar (i:=11) (Zk.refl _ _) k) (f.onS (i:=11) (by decide)) Z
  refine⟨fun S a w o s p f g K l=>?_,?_⟩
  ·obtain⟨d,-⟩:=g
   have d:a.tmps.getD 113 undef=Pv c 0:=d;go_simp;exact l _ _ (fun t _ k=>Qar (i:=12) (Zk.refl _ _) k) (f.onS (i:=12) (by decide)) Z
  refine⟨fun S a w o s p f g K l=>?_,?_⟩
  ·obtain⟨d,-⟩:=g
   have r:S 18=false:=Qfr p (q:=18) Z (by kernel_rfl) o;have u:=f.pre r;have d:a.tmps.getD 114 undef=Pv c 3:=d;have B:=Qk L u;go_simp;exact l _ _ (fun t _ k=>Qar (i:=13) (Zk.refl _ _) k) (f.onS (i:=13) (by decide)) Z
  refine⟨fun S a w o s p f g K l=>?_,?_⟩
  ·obtain⟨d,-⟩:=g
   have d:a.tmps.getD 5 undef=Pv X 0:=d;go_simp;exact l _ _ (fun t _ k=>Qar (i:=14) (Zk.refl _ _) k) (f.onS (i:=14) (by decide)) Z
  refine⟨fun S a w o s p f g K l=>?_,?_⟩
  ·obtain⟨d,-⟩:=g
   have r:S 18=false:=Qfr p (q:=18) Z (by kernel_rfl) o;have u:=f.pre r;have d:a.tmps.getD 116 undef=Pv X 2:=d;have B:=Qk x2 u;go_simp;exact l _ _ (fun t _ k=>Qar (i:=15) (Zk.refl _ _) k) (f.onS (i:=15) (by decide)) Z
  refine⟨fun S a w o s p f g K l=>?_,?_⟩
  ·obtain⟨d,x,-⟩:=g
   have d:a.tmps.getD 115 undef=.slice (some ⟨ri,0,none⟩) vl cc:=d;have x:a.tmps.getD 117 undef=Iv (q:Int):=x;go_simp;exact l _ _ (fun t _ k=>Qar (i:=16) (Zk.refl _ _) k) (f.onS (i:=16) (by decide)) Z
  refine⟨fun S a w o s p f g K l=>?_,?_⟩
  ·obtain⟨d,-⟩:=g
   have r:S 18=false:=Qfr p (q:=18) Z (by kernel_rfl) o;have u:=f.pre r;have d:a.tmps.getD 118 undef=Pv ri q:=d;have B:=Qk R u;go_simp;exact l _ _ (fun t _ k=>Qar (i:=17) (Zk.refl _ _) k) (f.onS (i:=17) (by decide)) Z
  refine⟨fun S a w o s p f g K l=>?_,?_⟩
  ·obtain⟨d,x,J,-⟩:=g
   have u:=f.pre o;have d:a.tmps.getD 103 undef=Pv b 0:=d;have x:a.tmps.getD 111 undef=Iv ya:=x;have J:a.tmps.getD 119 undef=Iv yb:=J;go_simp;refine Xm (CT.out w u) ?_;rintro r7 w7 (⟨rfl,F,N⟩|⟨ch,rfl,F⟩)
   rotate_left
   ·exact⟨_,Z,F⟩
   go_simp;exact l _ _ (fun t _ k=>Qar (i:=18) N k) (WY.did ⟨_,F,Zr⟩) Z
  refine⟨fun S a w o s p f g K l=>?_,?_⟩
  ·obtain⟨d,-⟩:=g
   have d:(fun v=>v=Iv D) (a.tmps.getD 120 undef):=d;generalize H:a.tmps.getD 120 undef=P at d;rw[Za] at H
   subst d;go_simp;have G:=f.lowB (fun w h=>by obtain⟨w5,E,V⟩:=h;exact Zt (A _ E) V.size);exact l _ _ (fun t _ k=>Qar (i:=19) (Zk.below (ZO _ _)) k) (f.onB hP (i:=19) (by decide) (ZO _ _)) ⟨_,Z,G,Qb (Qe _ _ _) 0 _ Z⟩
  trivial
def Qnk (w6:World) (fr:RFr) (gc nc:Nat) (vs0:List Value) (v:Value) (w:World):Prop:=∃ w5 c5 x5 n5,Below w6.heap.size w6 w5/\w6.heap.size<=c5/\w6.heap.size<=x5/\WFr w5 c5 fr (.slice (some ⟨x5,0,none⟩) n5 n5)/\w.ownsRow 0 130 1 v (nc+1) (vs0++[Pv c5 0])/\w5.grownBy w (some gc)/\∀ k,v.ownBlock=some k->k=gc\/k=w5.heap.size
theorem wInfoF:∃ i,prog.info? 130=some i/\i.zero=some (.pointer none)/\i.size=1/\i.bytes=8:=by
 have a:(prog.info? 130).map (fun i=>(i.zero,i.size,i.bytes))=some (some (.pointer none),1,8):=by kernel_rfl
 cases h2:prog.info? 130 with
 | none=>rw[h2] at a;cases a
 | some i =>
   rw[h2] at a
   simp at a
   exact⟨i,Z,a.1,a.2.1,a.2.2⟩
theorem wUnderF:prog.underlying 66=some (.slice 130):=by kernel_rfl
def Qmb (w6:World) (fr:RFr) (b c X fi gc nc dc na ca:Nat) (pa:Option Addr) (vs0:List Value) (S:Nat->Bool) (t:Tmp) (v:Value) (w:World):Prop :=
 match ([(23,fun _ v w=>(Qhg w6 fr) v w),(24,fun _ v w=>(Qmj w6 fr) v w),(25,fun S v w=>S 12=true->(Qnk w6 fr gc nc vs0) v w)]:List (Tmp × ((Nat->Bool)->Value->World->Prop))).lookup t with
 | some p=>p S v w
 | none=>v=(([(0,.pointer (some ⟨b,0,none⟩)),(1,.pointer (some ⟨c,0,none⟩)),(5,.pointer (some ⟨X,0,none⟩)),(13,.pointer (some ⟨b,0,none⟩)),(14,.pointer (some ⟨b,0,none⟩)),(15,.pointer (some ⟨b,0,none⟩)),(16,.pointer (some ⟨b,4,none⟩)),(17,.slice (some ⟨gc,0,none⟩) nc dc),(18,.pointer (some ⟨c,0,none⟩)),(19,.pointer (some ⟨X,4,none⟩)),(20,.int .i64 (fi:Int)),(21,.pointer (some ⟨X,7,none⟩)),(22,.slice pa na ca),(26,.pointer (some ⟨b,0,none⟩)),(27,.pointer (some ⟨b,4,none⟩))]:List (Tmp × Value)).lookup t).getD undef
theorem Qgd {fr:RFr}{k f l g:Nat}{a:List Value}{S:Nat->Bool}{t:Tmp}{u:Value}(hi:i≠12) (j:Zk w6 w w') (n:S 12=true->w'=w) (d:Qmb w6 fr b c X fi k f l g ca pa a S t u w):Qmb w6 fr b c X fi k f l g ca pa a (Qcr i S) t u w':=by
 unfold Qmb at d |-;refine Qm0 ?_ d;exact⟨fun _ h=>h.z j,fun _ h=>h.z j,fun _ h e=>(by rw[Qnl (fun e=>hi e.symm)] at e;have m:=n e;subst m;exact h e),Y⟩
theorem QnV {fr:RFr}{i f k g:Nat}{a:List Value}{S:Nat->Bool}{t:Tmp}{u:Value}(l:t≠25) (j:Zk w6 w w') (d:Qmb w6 fr b c X fi i f k g ca pa a S t u w):Qmb w6 fr b c X fi i f k g ca pa a (Qcr 12 S) t u w':=by
 unfold Qmb at d |-;refine Qm0 ?_ d;exact⟨fun _ h=>h.z j,fun _ h=>h.z j,fun e _=>absurd e l,Y⟩
theorem wc2 {fr:RFr}{y x D H:Nat}{v:List Value}(hR:Hid (∀ wx,Below w6.heap.size w6 wx->wx.ownsRow 0 130 1 (.slice (some ⟨y,0,none⟩) x D) x v)) (ad:y<w6.heap.size) (aa:x<=100) (q4:w6.cell? ⟨b,4,none⟩=some (.slice (some ⟨y,0,none⟩) x D)) (x4:w6.cell? ⟨X,4,none⟩=some (Iv (fi:Int))) (C:w6.cell? ⟨X,7,none⟩=some (.slice pa H ca)) (CB:Hid (∀ wx,Below w6.heap.size w6 wx->Calls prog 216 #[Pv c 0,Iv (fi:Int),Iv 0,.slice pa H ca] wx fun e w'=>QmR wx fr e w'))  (hP:∀ w w',(fun w=>w6.heap.size<=w.heap.size) w->Below w.heap.size w w'->(fun w=>w6.heap.size<=w.heap.size) w'){Q:Exit->Act->World->Prop}
 (a:Act) (m:Nat) (hn:a.tmps.size=m) (R:28<=m) (h0:a.tmps.getD 0 undef=Pv b 0) (I:a.tmps.getD 1 undef=Pv c 0) (h5:a.tmps.getD 5 undef=Pv X 0)
 (hX:∀ ch a' w',a'.defers=a.defers->(fun ch w=>False) ch w'->Q (.panic ch) a' w')
 (hend:∀ ops vs w',(Qnk w6 fr y x v) (vs 25) w'->vs 27=Pv b 4->(fun w=>w6.heap.size<=w.heap.size) w'->wpList prog ops Q (Qao 15 ((Tryz.f176.body.bind (Qi 2)).getD .skip)) (QN a vs [13,14,15,16,17,18,19,20,21,22,23,24,25,26,27]) w') :
 Code.wp prog ((Tryz.f176.body.bind (Qi 2)).getD .skip) Q a w6:=by
 conv=>arg 2;whnf
 refine Zs 15 (Qmb w6 fr b c X fi y x D H ca pa v) (WY w6 (fun w=>w6.heap.size<=w.heap.size) 12) (fun ch w=>False) hX (outs:=[0,1,5]) (gs:=[]) (bs:=[true,true,true,true,true,true,true,true,true,true,true,true,true,true,true]) (by kernel_rfl) (n:=28) hn R (by kernel_rfl) (by kernel_rfl) ?hG (.inl ⟨Yz,QI Zr 1⟩) ⟨h0,I,h5,Y⟩ ?hA ?hend
 case hG=>exact fun S=>trivial
 case hend=>exact fun ops vs S w' A f g=>hend ops vs w' ((show S 12=true->(Qnk w6 fr y x v) (vs 25) w' from g 25 (by kernel_rfl)) (A 12 (by decide))) (g 27 (by kernel_rfl)) (f.fin (A 12 (by decide)))
 case hA =>
  refine⟨fun S a w o s p f g K j=>?_,?_⟩
  ·obtain⟨d,-⟩:=g
   have d:a.tmps.getD 0 undef=Pv b 0:=d;go_simp;exact j _ _ (fun t _ h=>Qgd (by decide) (i:=0) (Zk.refl _ _) (fun _=>rfl) h) (f.onS (i:=0) (by decide)) Yz
  refine⟨fun S a w o s p f g K j=>?_,?_⟩
  ·obtain⟨d,-⟩:=g
   have d:a.tmps.getD 0 undef=Pv b 0:=d;go_simp;exact j _ _ (fun t _ h=>Qgd (by decide) (i:=1) (Zk.refl _ _) (fun _=>rfl) h) (f.onS (i:=1) (by decide)) Yz
  refine⟨fun S a w o s p f g K j=>?_,?_⟩
  ·obtain⟨d,-⟩:=g
   have d:a.tmps.getD 14 undef=Pv b 0:=d;go_simp;exact j _ _ (fun t _ h=>Qgd (by decide) (i:=2) (Zk.refl _ _) (fun _=>rfl) h) (f.onS (i:=2) (by decide)) Yz
  refine⟨fun S a w o s p f g K j=>?_,?_⟩
  ·obtain⟨d,-⟩:=g
   have d:a.tmps.getD 15 undef=Pv b 0:=d;go_simp;exact j _ _ (fun t _ h=>Qgd (by decide) (i:=3) (Zk.refl _ _) (fun _=>rfl) h) (f.onS (i:=3) (by decide)) Yz
  refine⟨fun S a w o s p f g K j=>?_,?_⟩
  ·obtain⟨d,-⟩:=g
   have l:S 12=false:=Qfr p (q:=12) Yz (by kernel_rfl) o;have r:=f.pre l;have d:a.tmps.getD 16 undef=Pv b 4:=d;have c0:=Qk q4 r;go_simp;exact j _ _ (fun t _ h=>Qgd (by decide) (i:=4) (Zk.refl _ _) (fun _=>rfl) h) (f.onS (i:=4) (by decide)) Yz
  refine⟨fun S a w o s p f g K j=>?_,?_⟩
  ·obtain⟨d,-⟩:=g
   have d:a.tmps.getD 1 undef=Pv c 0:=d;go_simp;exact j _ _ (fun t _ h=>Qgd (by decide) (i:=5) (Zk.refl _ _) (fun _=>rfl) h) (f.onS (i:=5) (by decide)) Yz
  refine⟨fun S a w o s p f g K j=>?_,?_⟩
  ·obtain⟨d,-⟩:=g
   have d:a.tmps.getD 5 undef=Pv X 0:=d;go_simp;exact j _ _ (fun t _ h=>Qgd (by decide) (i:=6) (Zk.refl _ _) (fun _=>rfl) h) (f.onS (i:=6) (by decide)) Yz
  refine⟨fun S a w o s p f g K j=>?_,?_⟩
  ·obtain⟨d,-⟩:=g
   have l:S 12=false:=Qfr p (q:=12) Yz (by kernel_rfl) o;have r:=f.pre l;have d:a.tmps.getD 19 undef=Pv X 4:=d;have c0:=Qk x4 r;go_simp;exact j _ _ (fun t _ h=>Qgd (by decide) (i:=7) (Zk.refl _ _) (fun _=>rfl) h) (f.onS (i:=7) (by decide)) Yz
  refine⟨fun S a w o s p f g K j=>?_,?_⟩
  ·obtain⟨d,-⟩:=g
   have d:a.tmps.getD 5 undef=Pv X 0:=d;go_simp;exact j _ _ (fun t _ h=>Qgd (by decide) (i:=8) (Zk.refl _ _) (fun _=>rfl) h) (f.onS (i:=8) (by decide)) Yz
  refine⟨fun S a w o s p f g K j=>?_,?_⟩
  ·obtain⟨d,-⟩:=g
   have l:S 12=false:=Qfr p (q:=12) Yz (by kernel_rfl) o;have r:=f.pre l;have d:a.tmps.getD 21 undef=Pv X 7:=d;have c0:=Qk C r;go_simp;exact j _ _ (fun t _ h=>Qgd (by decide) (i:=9) (Zk.refl _ _) (fun _=>rfl) h) (f.onS (i:=9) (by decide)) Yz
  refine⟨fun S a w o s p f g K j=>?_,?_⟩
  ·obtain⟨d,B,V,-⟩:=g
   have l:S 12=false:=Qfr p (q:=12) Yz (by kernel_rfl) o;have r:=f.pre l;have d:a.tmps.getD 18 undef=Pv c 0:=d;have B:a.tmps.getD 20 undef=Iv (fi:Int):=B;have V:a.tmps.getD 22 undef=.slice pa H ca:=V;go_simp;refine Xm (CB.out w r) ?_;rintro r7 w7 ⟨k7,C,G,rfl,I,h2,h3,b7⟩;go_simp;exact j _ _ (fun t _ h=>Qgd (by decide) (i:=10) (Zk.below b7) (fun e=>by rw[l] at e;cases e) h) (f.onB hP (i:=10) (by decide) b7) ⟨k7,C,G,Yz,Zt r.size I,Zt r.size h2,h3⟩
  refine⟨fun S a w o s p f g K j=>?_,?_⟩
  ·obtain⟨d,-⟩:=g
   have l:S 12=false:=Qfr p (q:=12) Yz (by kernel_rfl) o;have r:=f.pre l;have d:(Qhg w6 fr) (a.tmps.getD 23 undef) w:=d;generalize M:a.tmps.getD 23 undef=ab at d;rw[Za] at M
   have k9:=d;obtain⟨P,C,G,rfl,W,E,F⟩:=d
   go_simp;exact j _ _ (fun t _ h=>Qgd (by decide) (i:=11) (Zk.below (ZO _ _)) (fun e=>by rw[l] at e;cases e) h) (f.onB hP (i:=11) (by decide) (ZO _ _)) ⟨_,_,Yz,r.size,Qb (Qe _ _ _) 0 _ Yz,k9.z (Zk.below (ZO _ _))⟩
  refine⟨fun S a w o s p f g K j=>?_,?_⟩
  ·obtain⟨d,B,-⟩:=g
   have r:=f.pre o;have d:a.tmps.getD 17 undef=.slice (some ⟨y,0,none⟩) x D:=d;have B:(Qmj w6 fr) (a.tmps.getD 24 undef) w:=B;generalize J:a.tmps.getD 24 undef=ac at B;obtain⟨kx,u7,rfl,h7,h8,P,C,G,rfl,W,E,F⟩:=B
   obtain⟨i0,N,L,O,T⟩:=wInfoF
   refine QeE w _ _ 66 Yz 130 i0 (.pointer none) 1 8 wUnderF N L O T Yz (by decide) (.slice (some ⟨y,0,none⟩) x D) x v d (hR.out w r) ⟨kx,0,none⟩ 1 1 [Pv P 0] J Yz (QgE h8) (by intro u hu;simp at hu;subst hu;rfl) (by unfold maxLen;omega) (by omega) ?_;intro v9 w9 r1 U r3;have hz:Zk w6 w w9:=fun Z hZ hl=>U.block Z hl (fun e=>by have:Z=y:=(by simpa[Value.ownBlock] using e);omega);refine j _ _ (fun t hL h=>QnV (fun e=>by subst e;have:=QkZ hL (by kernel_rfl) (i:=12) (by kernel_rfl);rw[o] at this;cases this) hz h) (WY.did (Zt r.size U.size)) (fun _=>⟨w,P,C,G,r,W,E,F,r1,U,fun k g=>(r3 k g).imp (fun e=>by simpa[Value.ownBlock] using e.symm) id⟩)
  refine⟨fun S a w o s p f g K j=>?_,?_⟩
  ·obtain⟨d,-⟩:=g
   have d:a.tmps.getD 13 undef=Pv b 0:=d;go_simp;exact j _ _ (fun t _ h=>Qgd (by decide) (i:=13) (Zk.refl _ _) (fun _=>rfl) h) (f.onS (i:=13) (by decide)) Yz
  refine⟨fun S a w o s p f g K j=>?_,?_⟩
  ·obtain⟨d,-⟩:=g
   have d:a.tmps.getD 26 undef=Pv b 0:=d;go_simp;exact j _ _ (fun t _ h=>Qgd (by decide) (i:=14) (Zk.refl _ _) (fun _=>rfl) h) (f.onS (i:=14) (by decide)) Yz
  trivial
def RM.nx (R:RM):RM:={ R with top:={ R.top with i:=R.top.i+1 } }
def Qdj (g:WG) (w:World) (b most:Nat) (m:List (MFunc 6)) (r:RM) (e:Ending) (w':World):Prop :=
 (∃ N,r=N.nx/\e=.returned (.tuple #[])/\WTo g w w' b most m N)\/(∃ N k,r=N.over k/\e=.panicked (QdT k)/\WTo g w w' b most m N)
section
variable {w w' w2:World}{b most n:Nat}{m:List (MFunc 6)}{R R' r:RM}{g g1:WG}
theorem Qdj.then {e:Ending}(T:WSt g g1 w w2) (f:g1.t.c=g.t.c) (h:g1.fs=g.fs) (H:Qdj g1 w2 b most m r e w'):Qdj g w b most m r e w':=by
 rcases H with ⟨N,a,c,d⟩|⟨N,k,a,c,d⟩
 ·exact .inl ⟨N,a,c,WTo.then T f h d⟩
 ·exact .inr ⟨N,k,a,c,WTo.then T f h d⟩
theorem Qdj.cases {e:Ending}(h:Qdj g w b most m r e w'):(e=.returned (.tuple #[])\/∃ ch,e=.panicked ch):=by
 rcases h with ⟨N,a,c,d⟩|⟨N,k,a,c,d⟩
 ·exact .inl c
 ·exact .inr ⟨_,c⟩
theorem WAt.wordAt (S:WAt w b most m R g){k a:Int}(h:iAt R.top.v k=some a):∃ (j i o:Nat) (c:Nat),k=(j:Int)/\(j:Int)<(R.top.v.length:Nat)/\w.cell? ⟨g.t.c,3,none⟩=some (.slice (some ⟨i,0,none⟩) R.top.v.length c)/\w.cell? ⟨i,j,none⟩=some (Iv a):=by
 obtain⟨j,rfl,p,d⟩:=Qld h
 have F:=S.top;obtain⟨q,l,e,n⟩:=F.2.cell
 obtain⟨i,rfl,-,f⟩:=n j p
 refine⟨j,i,0,l,Z,by omega,?_,by rw[d];exact f⟩
 rw[<-e];exact Qb F.1 3 _ Z
theorem WAt.makesC (S:WAt w b most m R g)(h:w.cell? ⟨k,0,none⟩=some (Iv x)) (a:R.top.v.length+1<=1000000) :
 Calls prog 169 #[Pv g.t.c 0,.slice (some ⟨k,0,none⟩) 1 1] w fun e w'=>e=.returned (.tuple #[])/\WTo g w w' b most m (R.push [x]) :=
 Qb6 S (l:=[x]) Z (QgE h) a
theorem Qz.zk {w w':World}(h:Qz O O' w w') (b:∀ x,O x->x<w6.heap.size):Zk w6 w w':=fun Z c a=>h.block Z a (fun e=>by have:=b Z e;omega)
theorem Qm9 (S:WAt w b most m R g) (I:ROk m n R) (J:n<=900000){x:Qs}(a:IP) (h:x.op=1) (d:RM.ins aOp R x=some r) :
 Calls prog 114 #[Pv b 0,Pv g.t.c 0,.agg (Zq x a)] w fun e w'=>Qdj g w b most m r e w':=by
 have i:=Qc (ZO w (.cells (Zq x a) 78));have f:=Qc (Qe w (Zq x a) 78);have k:=Qc (S.below i.out);have p:=Qc (S.stepB i.out);have D:R.top.v.length+1<=1000000:=by have:=(I.fr R.top (by simp)).1;omega
 have l:=I.out.1;have q:=I.inp;clear S I;go_enter func114,ntmps114
 go_upto_region 1 with fail
 generalize w.alloc (.cells (Zq x a) 78)=K at i f k p |-;generalize w.heap.size=X at f |-;obtain⟨o,u,B,F,y,z,s,A⟩:=Q6 f.out
 rw[h] at o
 have E:Hid (r=(R.push [x.n]).nx):=by show _=_;unfold RM.ins at d;simp only[h,if_true] at d;cases d;rfl
 have C:=Qc (Qb4 k.out x.n D);clear u B F y s A d h;go_wp2_with fail
 refine C.out.mono ?_;rintro H G ⟨rfl,j⟩;have Z:=Qc (WTo.then p.out Yz Yz j);clear j C z o;go_wp2
 exact Xz (v:=.tuple #[]) (by simp[results,results114,go_sem]) Yz (.inl ⟨_,E.out,Yz,Z.out⟩)
theorem Qnd (S:WAt w b most m R g) (I:ROk m n R) (hn:n<=900000){x:Qs}(o:IP) (h:x.op=3) (L:RM.ins aOp R x=some r) :
 Calls prog 114 #[Pv b 0,Pv g.t.c 0,.agg (Zq x o)] w fun e w'=>Qdj g w b most m r e w':=by
 have z:=Qc (ZO w (.cells (Zq x o) 78));have s:=Qc (Qe w (Zq x o) 78);have p:=Qc (S.below z.out);have y:=Qc (S.stepB z.out);have hl:R.top.v.length+1<=1000000:=by have:=(I.fr R.top (by simp)).1;omega
 have H:=I.out.1;have M:=I.inp;clear S I;go_enter func114,ntmps114
 go_upto_region 1 with fail
 generalize w.alloc (.cells (Zq x o) 78)=w1 at z s p y |-;generalize w.heap.size=X at s |-;obtain⟨J,O,x2,x3,P,T,N,U⟩:=Q6 s.out
 rw[h] at J
 have E:Hid (some r=if 0<=R.e.openK then some (({ R with e:=R.e.opened }:RM).on [R.e.openK]) else some (R.over 6)):=by show _=_;rw[<-L];unfold RM.ins;simp[h]
 have C:=Qc p.out.openC;have W:=p.out.cellE;clear O x2 x3 P T N U L h;by_cases f:0<=R.e.openK
 ·have j:Hid (r=(RM.push { R with e:=R.e.opened } [R.e.openK]).nx):=by show _=_;have:=E.out;rw[Xs f] at this;cases this;rfl
  have q:decide (R.e.openK>=0)=true:=by simpa using f
  clear E f;obtain⟨d,a⟩:∃ d,R.e.openK=d:=⟨_,Yz⟩
  rw[a] at C j q
  clear a;go_upto_region 12 with (first | (go_at_call 170;refine C.out.mono ?_;rintro l Q ⟨rfl,k⟩) | (go_at_call 111;refine(QaF _ _).mono ?_;rintro l w' ⟨rfl,i⟩;have i:=i.symm;subst i))
  obtain⟨g2,F,K,u,G⟩:=k
  have B:=Qc (Qb4 F d hl);rw[u] at B
  have A:=Qc (Xh (y.out.trans K) (Xh u G));clear F K u G C W;go_wp2_with fail
  refine B.out.mono ?_;rintro l w5 ⟨rfl,D⟩;have Z:=Qc (WTo.then A.out.1 A.out.2.1 A.out.2.2 D);clear D B J;go_wp2
  exact Xz (v:=.tuple #[]) (by simp[results,results114,go_sem]) Yz (.inl ⟨_,j.out,Yz,Z.out⟩)
 ·have j:Hid (r=R.over 6):=by show _=_;have:=E.out;rw[Xr f] at this;cases this;rfl
  have q:decide (R.e.openK>=0)=false:=by simpa using f
  have V:Hid (R.e.opened=R.e):=by
   show _=_;unfold Est.opened;rw[Xs (by omega)]
  clear E f;obtain⟨d,a⟩:∃ d,R.e.openK=d:=⟨_,Yz⟩
  rw[a] at C q
  clear a;go_wp2_with (go_at_call 170;refine C.out.mono ?_;rintro l Q ⟨rfl,k⟩)
  refine(Z4 _ _).mono ?_
  rintro l w' ⟨rfl,i⟩;subst i;rw[V.out] at k
  exact⟨Yz,.inr ⟨R,6,j.out,Yz,WTo.then y.out Yz Yz k⟩⟩
theorem Qmt (S:WAt w b most m R g) (I:ROk m n R) (W:n<=900000){x:Qs}(f:IP) (h:x.op=12) (a:RM.ins aOp R x=some r) :
 Calls prog 114 #[Pv b 0,Pv g.t.c 0,.agg (Zq x f)] w fun e w'=>Qdj g w b most m r e w':=by
 have q:=Qc (ZO w (.cells (Zq x f) 78));have j:=Qc (Qe w (Zq x f) 78);have y:=Qc (S.below q.out);have p:=Qc (S.stepB q.out);have T:R.top.v.length+1<=1000000:=by have:=(I.fr R.top (by simp)).1;omega
 have F:=I.out.1;have N:=I.inp;clear S I;go_enter func114,ntmps114
 go_upto_region 1 with fail
 generalize w.alloc (.cells (Zq x f) 78)=w1 at q j y p |-;generalize w.heap.size=X at j |-;obtain⟨G,D,M,O,E,J,z,L⟩:=Q6 j.out
 rw[h] at G
 have C:=Qc (Qf2 y.out (by omega));unfold Qnq at C
 cases hi:R.inp with
 | nil =>
   rw[hi] at C
   have i:Hid (r=R.over 4):=by show _=_;unfold RM.ins at a;simp[h,hi] at a;exact a.symm
   clear D M O E J z L a h hi;go_wp2_with fail
   refine C.out.mono ?_;rintro H P ⟨rfl,d⟩;exact⟨Yz,.inr ⟨R,4,i.out,Yz,WTo.then p.out Yz Yz d⟩⟩
 | cons k l =>
   rw[hi] at C
   have i:Hid (r=(RM.push { R with inp:=l } [k]).nx):=by show _=_;unfold RM.ins at a;simp[h,hi] at a;exact a.symm
   clear D M O E J z L a h hi;go_wp2_with (go_at_call 174;refine C.out.mono ?_;rintro H V ⟨rfl,Q⟩)
   obtain⟨U,A,K,o,B⟩:=Q
   have u:=Qc (Qb4 A k T);rw[o] at u
   have s:=Qc (Xh (p.out.trans K) (Xh o B));clear A K o B C;refine u.out.mono ?_;rintro H P ⟨rfl,d⟩;have Z:=Qc (WTo.then s.out.1 s.out.2.1 s.out.2.2 d);clear d u G;go_wp2
   exact Xz (v:=.tuple #[]) (by simp[results,results114,go_sem]) Yz (.inl ⟨_,i.out,Yz,Z.out⟩)
end
section
variable {w w' w2:World}{b most n:Nat}{m:List (MFunc 6)}{R R' r:RM}{g g1:WG}
theorem Qno (S:WAt w b most m R g) (I:ROk m n R) (hn:n<=900000){x:Qs}(o:IP) (h:x.op=4) (k:RM.ins aOp R x=some r) :
 Calls prog 114 #[Pv b 0,Pv g.t.c 0,.agg (Zq x o)] w fun e w'=>Qdj g w b most m r e w':=by
 have p:=Qc (ZO w (.cells (Zq x o) 78));have s:=Qc (Qe w (Zq x o) 78);have i:=Qc (S.below p.out);have u:=Qc (S.stepB p.out);have hl:R.top.v.length+1<=1000000:=by have:=(I.fr R.top (by simp)).1;omega
 have B:=I.out.1;have E:=I.inp;clear S I;go_enter func114,ntmps114
 go_upto_region 1 with fail
 generalize w.alloc (.cells (Zq x o) 78)=w1 at p s i u |-;generalize w.heap.size=X at s |-;obtain⟨N,A,W,x3,L,O,H,Q⟩:=Q6 s.out
 rw[h] at N
 obtain⟨a,l⟩:∃ a,iAt R.top.v x.a=some a:=by
  unfold RM.ins at k
  cases l:iAt R.top.v x.a with
  | none=>simp[h,l] at k
  | some a=>exact⟨a,Yz⟩
 have F:Hid (r=RM.nx { R with e:=R.e.shut a }):=by show _=_;unfold RM.ins at k;simp[h,l] at k;rw[<-k];simp[RM.on,RM.nx]
 obtain⟨j,ri,-,c,D,M,T,J⟩:=i.out.wordAt l
 rw[D] at A
 have U:=i.out.cellE;clear W x3 L O H Q k h l D;go_upto_region 14 with fail
 refine Qoj U T A M J _ _ Yz (Xg (by kernel_rfl)) Yz Yz Yz ?_;rintro q K G d f y;show wpList _ q _ [_] (QN _ K [68,69,70,71,72,73,74,75,76,77,78,79]) G;simp only[QN,Act.put,List.setIfInBounds_toArray,List.set_cons_zero,List.set_cons_succ,d,f]
 have P:=Qc (i.out.below y);have V:=Qc (u.out.trans (i.out.stepB y));clear d f y i u p;have C:=Qc (P.out.shutC a);go_wp2_with (go_at_call 171;refine C.out.mono ?_;rintro e' w2 ⟨rfl,z⟩;have Z:=Qc (WTo.then V.out Yz Yz z);clear z C)
 exact Xz (v:=.tuple #[]) (by simp[results,results114,go_sem]) Yz (.inl ⟨_,F.out,Yz,Z.out⟩)
theorem QmK (S:WAt w b most m R g) (I:ROk m n R) (hn:n<=900000){x:Qs}(s:IP) (h:x.op=13) (i:RM.ins aOp R x=some r) :
 Calls prog 114 #[Pv b 0,Pv g.t.c 0,.agg (Zq x s)] w fun e w'=>Qdj g w b most m r e w':=by
 have u:=Qc (ZO w (.cells (Zq x s) 78));have B:=Qc (Qe w (Zq x s) 78);have l:=Qc (S.below u.out);have D:=Qc (S.stepB u.out);have hl:R.top.v.length+1<=1000000:=by have:=(I.fr R.top (by simp)).1;omega
 have o:=I.out.1;have J:=I.inp;clear S I;go_enter func114,ntmps114
 go_upto_region 1 with fail
 generalize w.alloc (.cells (Zq x s) 78)=w1 at u B l D |-;generalize w.heap.size=X at B |-;obtain⟨Q,F,x2,x3,O,U,L,W⟩:=Q6 B.out
 rw[h] at Q
 obtain⟨a,k⟩:∃ a,iAt R.top.v x.a=some a:=by
  unfold RM.ins at i
  cases k:iAt R.top.v x.a with
  | none=>simp[h,k] at i
  | some a=>exact⟨a,Yz⟩
 have A:Hid (r=if R.out.length<2000 then RM.nx { R with out:=R.out++[a] } else R.over 8):=by
  show _=_;unfold RM.ins at i;by_cases y:R.out.length<2000
  ·simp[h,k,y] at i;rw[Xs y,<-i];simp[RM.on,RM.nx]
  ·simp[h,k,y] at i;rw[Xr y];exact i.symm
 obtain⟨j,ri,-,c,G,P,c3,M⟩:=l.out.wordAt k
 rw[G] at F
 clear x2 x3 O U L W i h k G;go_upto_region 22 with fail
 refine Qn5 c3 F P M _ _ Yz (Xg (by kernel_rfl)) Yz Yz Yz ?_;rintro z N K f d E;show wpList _ z _ [_] (QN _ N [132,133,134,135,136,137,138,139,140]) K;simp only[QN,Act.put,List.setIfInBounds_toArray,List.set_cons_zero,List.set_cons_succ,f,d]
 have V:=Qc (l.out.below E);have H:=Qc (D.out.trans (l.out.stepB E));clear f d E l D u;have C:=Qc (Qfz V.out a o);go_wp2_with fail
 refine C.out.mono ?_;rintro e' w2 (⟨p,rfl,q⟩|⟨p,rfl,q⟩)
 ·have T:Hid (r=RM.nx { R with out:=R.out++[a] }):=by show _=_;rw[A.out,Xs p]
  have Z:=Qc (WTo.then H.out Yz Yz q);clear p q C A;go_wp2
  exact Xz (v:=.tuple #[]) (by simp[results,results114,go_sem]) Yz (.inl ⟨_,T.out,Yz,Z.out⟩)
 ·exact⟨Yz,.inr ⟨R,8,by rw[A.out,Xr p],Yz,WTo.then H.out Yz Yz q⟩⟩
theorem Qnt (S:WAt w b most m R g) (I:ROk m n R) (hn:n<=900000){x:Qs}(A:IP) (h:x.op=2) (i:RM.ins aOp R x=some r) :
 Calls prog 114 #[Pv b 0,Pv g.t.c 0,.agg (Zq x A)] w fun e w'=>Qdj g w b most m r e w':=by
 have H:=Qc (ZO w (.cells (Zq x A) 78));have B:=Qc (Qe w (Zq x A) 78);have d:=Qc (S.below H.out);have F:=Qc (S.stepB H.out);have hl:R.top.v.length+1<=1000000:=by have:=(I.fr R.top (by simp)).1;omega
 have P:=I.out.1;have aa:=I.inp;clear S I;go_enter func114,ntmps114
 go_upto_region 1 with fail
 generalize w.alloc (.cells (Zq x A) 78)=w1 at H B d F |-;generalize w.heap.size=X at B |-;obtain⟨Q,M,W,x3,x4,x5,x6,x7⟩:=Q6 B.out
 rw[h] at Q
 obtain⟨a,l⟩:∃ a,iAt R.top.v x.a=some a:=by
  unfold RM.ins at i
  cases l:iAt R.top.v x.a with
  | none=>simp[h,l] at i
  | some a=>exact⟨a,Yz⟩
 obtain⟨y,u⟩:∃ y,iAt R.top.v x.b=some y:=by
  unfold RM.ins at i
  cases u:iAt R.top.v x.b with
  | none=>simp[h,l,u] at i
  | some y=>exact⟨y,Yz⟩
 have f:Hid (some r=match aOp x.k a y with | none=>some (R.over 1) | some n=>some (R.on [n])):=by show _=_;rw[<-i];unfold RM.ins;simp[h,l,u];cases aOp x.k a y<;>rfl
 obtain⟨j,ri,-,c,V,N,G,ck⟩:=d.out.wordAt l
 obtain⟨q,ab,-,c',U,O,s,C⟩:=d.out.wordAt u
 rw[G] at s
 cases s
 rw[V] at M
 rw[U] at W
 have o:=Qc (fun E=>QlC x.k a y E);generalize x.k=xk at *;have J:=Qc hl;clear x3 x5 x6 x7 i h l u V U hl;obtain⟨K,p⟩:∃ K,R.top.v.length=K:=⟨_,Yz⟩
 rw[p] at G N O
 clear p
 cases ho:aOp xk a y with
 | none =>
   rw[ho] at o f
   have D:Hid (r=R.over 1):=by show _=_;have:=f.out;simpa using this
   clear ho f;go_upto_region 6 with fail
   go_quiet ((go_at_call 136;exact Calls.quiet_of_same (o.out _)))
   go_wp2_with fail
   refine(Z4 _ _).mono ?_
   rintro T w' ⟨rfl,z⟩;subst z;exact⟨Yz,.inr ⟨R,1,D.out,Yz,WTo.then F.out Yz Yz (WTo.same d.out (Qai Zr _))⟩⟩
 | some n =>
   rw[ho] at o f
   have D:Hid (r=(R.push [n]).nx):=by show _=_;have:=f.out;simp at this;rw[this];rfl
   have CM:=Qc (fun E (bx:Below w1.heap.size w1 E)=>Qb4 (d.out.below bx) n J.out);clear ho f;go_upto_region 6 with fail
   go_quiet ((go_at_call 136;exact Calls.quiet_of_same (o.out _)))
   go_upto_region 8 with (go_at_call 111;refine(QaF _ _).mono ?_;rintro T w' ⟨rfl,z⟩;have z:=z.symm;subst z)
   clear o M W x4 ck C G N O;go_wp2_with fail
   refine(CM.out _ (Qai Zr _)).mono ?_
   rintro T w5 ⟨rfl,L⟩;have Z:=Qc (WTo.then (F.out.trans (d.out.stepB (Qai Zr _))) Yz Yz L);clear L CM Q;go_wp2
   exact Xz (v:=.tuple #[]) (by simp[results,results114,go_sem]) Yz (.inl ⟨_,D.out,Yz,Z.out⟩)
end
section
variable {w w' w2:World}{b most n:Nat}{m:List (MFunc 6)}{R R' r:RM}{g g1:WG}
theorem Qnj (S:WAt w b most m R g) (I:ROk m n R) (hn:n<=900000){x:Qs}(B:IP) (h:x.op=5){Q2:Nat->Prop}(hi:IIn w Q2 x B) (h8:x.args.length<=8) (q:RM.ins aOp R x=some r) :
 Calls prog 114 #[Pv b 0,Pv g.t.c 0,.agg (Zq x B)] w fun e w'=>Qdj g w b most m r e w':=by
 have Q:=Qc (ZO w (.cells (Zq x B) 78));have BX:=Qc (Qe w (Zq x B) 78);have u:=Qc (S.below Q.out);have T1:=Qc (S.stepB Q.out);have hl:R.top.v.length+1<=1000000:=by have:=(I.fr R.top (by simp)).1;omega
 have ac:=I.out.1;have ad:=I.inp;clear S I;go_enter func114,ntmps114
 go_upto_region 1 with fail
 generalize w.alloc (.cells (Zq x B) 78)=i at Q BX u T1 |-;generalize w.heap.size=X at BX |-;obtain⟨x0,U,x2,x3,x4,x5,x6,x7⟩:=Q6 BX.out
 rw[h] at x0
 obtain⟨a,C⟩:∃ a,iAt R.top.v x.a=some a:=by
  unfold RM.ins at q
  cases C:iAt R.top.v x.a with
  | none=>simp[h,C] at q
  | some a=>exact⟨a,Yz⟩
 obtain⟨d,D⟩:∃ d,QaA R.top.v x.args=some d:=by
  unfold RM.ins at q
  cases D:QaA R.top.v x.args with
  | none=>simp[h,C,D] at q
  | some d=>exact⟨d,Yz⟩
 have N:Hid (r=R.thing a (if d.length=0 then 1 else (d.length:Int)) d):=by show _=_;unfold RM.ins at q;simp[h,C,D] at q;rw[<-q];congr 1;split<;>simp_all
 have ab:Hid (d.length=x.args.length):=Qaj D;obtain⟨p,y⟩:∃ p,(if d.length=0 then 1 else (d.length:Int))=p:=⟨_,Yz⟩
 rw[y] at N
 have W:=Qc y;obtain⟨j,ri,-,c,ej,hj,c3,ck⟩:=u.out.wordAt C
 rw[ej] at U
 have H8:=Qc h8;have CA:Hid (∀ f,Below i.heap.size i f->Calls prog 167 #[Pv g.t.c 0,.slice B.pA x.args.length B.cA] f fun e w'=>Qm7 f d x.args.length e w'):=fun f E=>Qem (u.out.top.below E) (by omega) Yz (by have:=H8.out;omega) (Ya (Ya hi.args Q.out) E) D;have H:∀ x,g.A x->x<i.heap.size:=u.out.lt
 have CT:Hid (∀ f k,Below i.heap.size i f->i.heap.size<=k->QbC f (.slice (some ⟨k,0,none⟩) x.args.length x.args.length) d->Calls prog 172 #[Pv b 0,Iv a,.slice (some ⟨k,0,none⟩) x.args.length x.args.length] f fun e w'=>(e=.returned (Iv (R.e.getAt a p))/\(R.e.getCode a p=0/\WTo g i w' b most m (R.thinged a p d))/\Zk i f w')\/(∃ ch,e=.panicked ch/\(ch=QdT 6/\R.e.getCode a p≠0/\WTo g i w' b most m R))):=fun f k E hk hR=>by
  have aa:g.ow k=0:=Xq.1 fun e=>by have:=H k e;omega
  have S6:=u.out.below E
  have HW:=hR.lin (O:=fun x=>g.ow x=0) (fun z hz=>by
   have:z=k:=by simpa[Value.ownBlock] using hz.symm
   rw[this];exact aa)
  have:=Qhc S6 a ab.out (by have:=H8.out;omega) HW
  rw[W.out] at this
  refine this.mono ?_;rintro e' w' (⟨l,rfl,g2,F,K,J,P⟩|⟨l,rfl,G⟩)
  ·exact .inl ⟨Yz,⟨l,WTo.then (u.out.stepB E) Yz Yz ⟨g2,F,K,J,P⟩⟩,K.zk H⟩
  ·exact .inr ⟨_,Yz,Yz,l,WTo.then (u.out.stepB E) Yz Yz G⟩
 have HL:=Qc hl;clear x2 x3 x4 x5 x6 q h C ej D hi h8 y hl;go_upto_region 16 with fail
 refine Qn2 (fun w h=>h.2.choose_spec.2.1.size) c3 U hj ck x7 CA CT (fun w w' h b=>by obtain⟨w5,M,h6⟩:=h;exact⟨w5,M,h6.trans (b.mono h6.size)⟩) _ _ Yz (Xg (by kernel_rfl)) Yz Yz Yz ?_ ?_
 ·rintro ch a' w9 V ⟨rfl,l,G⟩;exact⟨V,.inr ⟨R,6,by rw[N.out];unfold RM.thing;rw[Xr l],Yz,WTo.then T1.out Yz Yz G⟩⟩
 ·rintro T vs w9 s ⟨k,o,hk,L⟩ ⟨w5,⟨l,G⟩,h3⟩;show wpList _ T _ [_] (QN _ vs [83,84,85,86,87,88,89,90,91,92,93,94,95,96,97,98]) w9;simp only[QN,Act.put,List.setIfInBounds_toArray,List.set_cons_zero,List.set_cons_succ,s,o]
  have E3:Hid (r=((R.thinged a p d).push [R.e.getAt a p]).nx):=by show _=_;rw[N.out];unfold RM.thing;rw[Xs l];rfl
  obtain⟨g2,F,K,J,P⟩:=G
  have C5:=Qc ((F.below h3).makesC L HL.out);rw[J] at C5
  have T5:=Qc (Xh (T1.out.trans (K.trans (F.stepB h3))) (Xh J P));clear l s o L hk F K J P h3 CA CT c3 ck U x7 N;go_wp2_with fail
  refine C5.out.mono ?_;rintro e' w7 ⟨rfl,M⟩;have Z:=Qc (WTo.then T5.out.1 T5.out.2.1 T5.out.2.2 M);clear M C5 x0;go_wp2
  exact Xz (v:=.tuple #[]) (by simp[results,results114,go_sem]) Yz (.inl ⟨_,E3.out,Yz,Z.out⟩)
theorem Qnn (S:WAt w b most m R g) (I:ROk m n R) (hn:n<=900000){x:Qs}(N:IP) (h:x.op=8) (f:RM.ins aOp R x=some r) :
 Calls prog 114 #[Pv b 0,Pv g.t.c 0,.agg (Zq x N)] w fun e w'=>Qdj g w b most m r e w':=by
 have B1:=Qc (ZO w (.cells (Zq x N) 78));have BX:=Qc (Qe w (Zq x N) 78);have l:=Qc (S.below B1.out);have T1:=Qc (S.stepB B1.out);have hl:R.top.v.length+1<=1000000:=by have:=(I.fr R.top (by simp)).1;omega
 have aa:=I.out.1;have ab:=I.inp;clear S I;go_enter func114,ntmps114
 go_upto_region 1 with fail
 generalize w.alloc (.cells (Zq x N) 78)=B at B1 BX l T1 |-;generalize w.heap.size=X at BX |-;obtain⟨x0,V,x2,x3,x4,x5,x6,x7⟩:=Q6 BX.out
 rw[h] at x0
 obtain⟨a,u⟩:∃ a,iAt R.top.v x.a=some a:=by
  unfold RM.ins at f
  cases u:iAt R.top.v x.a with
  | none=>simp[h,u] at f
  | some a=>exact⟨a,Yz⟩
 obtain⟨y,z⟩:∃ y,iAt R.top.v x.b=some y:=by
  unfold RM.ins at f
  cases z:iAt R.top.v x.b with
  | none=>simp[h,u,z] at f
  | some y=>exact⟨y,Yz⟩
 have K:Hid (r=if 0<=y/\y<=15 then R.thing a (y+1) [y] else R.over 3):=by
  show _=_;unfold RM.ins at f;by_cases O:0<=y/\y<=15
  ·simp[h,u,z,O] at f;rw[Xs O];exact f.symm
  ·simp only[h,u,z] at f;simp[O] at f;rw[Xr O];exact f.symm
 obtain⟨j,ri,-,c,ej,hj,c3,ck⟩:=l.out.wordAt u
 obtain⟨q,ac,-,c',eq,hq,E,D⟩:=l.out.wordAt z
 rw[c3] at E
 cases E
 rw[ej] at V
 rw[eq] at x2
 have U:∀ x,g.A x->x<B.heap.size:=l.out.lt
 have CT:Hid (∀ M,Below B.heap.size B M->Calls prog 173 #[Pv b 0,Iv a,Iv y] M fun e w'=>(e=.returned (Iv (R.e.getAt a (y+1)))/\(r=((R.thinged a (y+1) [y]).push [R.e.getAt a (y+1)]).nx/\WTo g B w' b most m (R.thinged a (y+1) [y]))/\Zk B M w')\/(∃ ch,e=.panicked ch/\(∃ k,ch=QdT k/\r=R.over k/\WTo g B w' b most m R))):=fun M Q=>by
  refine(Qhn (l.out.below Q) a y).mono ?_
  rintro e' w' (⟨P,p,⟨o,rfl,g2,C,G,F,L⟩|⟨o,rfl,s⟩⟩|⟨P,rfl,s⟩)
  ·exact .inl ⟨Yz,⟨by rw[K.out,Xs ⟨P,p⟩];unfold RM.thing;rw[Xs o];rfl,WTo.then (l.out.stepB Q) Yz Yz ⟨g2,C,G,F,L⟩⟩,G.zk U⟩
  ·exact .inr ⟨_,Yz,6,Yz,by rw[K.out,Xs ⟨P,p⟩];unfold RM.thing;rw[Xr o],WTo.then (l.out.stepB Q) Yz Yz s⟩
  ·exact .inr ⟨_,Yz,3,Yz,by rw[K.out,Xr P],WTo.then (l.out.stepB Q) Yz Yz s⟩
 have HL:=Qc hl;clear x3 x4 x5 x6 x7 f h u z ej eq hl;go_upto_region 18 with fail
 refine Qoa (fun w h=>h.2.choose_spec.2.1.size) c3 V hj ck x2 hq D CT (fun w w' h b=>by obtain⟨w5,J,h6⟩:=h;exact⟨w5,J,h6.trans (b.mono h6.size)⟩) _ _ Yz (Xg (by kernel_rfl)) Yz Yz Yz ?_ ?_
 ·rintro ch a' w9 W ⟨k,rfl,p,o⟩;exact⟨W,.inr ⟨R,k,p,Yz,WTo.then T1.out Yz Yz o⟩⟩
 ·rintro T vs w9 d ⟨k,i,hk,H⟩ ⟨w5,⟨p,o⟩,s⟩;show wpList _ T _ [_] (QN _ vs [102,103,104,105,106,107,108,109,110,111,112,113,114,115,116,117,118,119,120,121]) w9;simp only[QN,Act.put,List.setIfInBounds_toArray,List.set_cons_zero,List.set_cons_succ,d,i]
  have E3:=Qc p;obtain⟨g2,C,G,F,L⟩:=o
  have C5:=Qc ((C.below s).makesC H HL.out);rw[F] at C5
  have T5:=Qc (Xh (T1.out.trans (G.trans (C.stepB s))) (Xh F L));clear p d i H hk C G F L s CT c3 ck D V x2 K;go_wp2_with fail
  refine C5.out.mono ?_;rintro e' w7 ⟨rfl,J⟩;have Z:=Qc (WTo.then T5.out.1 T5.out.2.1 T5.out.2.2 J);clear J C5 x0;go_wp2
  exact Xz (v:=.tuple #[]) (by simp[results,results114,go_sem]) Yz (.inl ⟨_,E3.out,Yz,Z.out⟩)
end
section
variable {w w' w2:World}{b most n:Nat}{m:List (MFunc 6)}{R R' r:RM}{g g1:WG}
theorem Qms (S:WAt w b most m R g) (I:ROk m n R) (hn:n<=900000){x:Qs}(s:IP) (h:x.op=6) (f:R.part x=some r) :
 Calls prog 177 #[Pv b 0,Pv g.t.c 0,.agg (Zq x s)] w fun e w'=>Qdj g w b most m r e w':=by
 obtain⟨a,o⟩:∃ a,iAt R.top.v x.a=some a:=by
  unfold RM.part at f
  cases o:iAt R.top.v x.a with
  | none=>simp[o] at f
  | some a=>exact⟨a,Yz⟩
 have u:=Qc (ZO w (.cells (Zq x s) 78));have p:=Qc (Qe w (Zq x s) 78);have i:=Qc (S.below u.out);have z:=Qc (S.stepB u.out);have J:R.top.v.length+1<=1000000:=by have:=(I.fr R.top (by simp)).1;omega
 clear S I;go_enter func177,ntmps177
 go_upto_region 1 with fail
 generalize w.alloc (.cells (Zq x s) 78)=B at u p i z |-;generalize w.heap.size=X at p |-;obtain⟨q,G,x2,x3,y,Q,M,U⟩:=Q6 p.out
 rw[h] at q
 obtain⟨j,ri,-,c,H,O,V,N⟩:=i.out.wordAt o
 rw[H] at G
 have K:Hid (r=(R.push [R.load (wrap64 (a+x.k))]).nx):=by show _=_;unfold RM.part at f;simp[h,o] at f;rw[<-f];rfl
 have W:=Qc J;clear f h o H J x2 x3 Q M U;obtain⟨D,d⟩:∃ D,R.top.v.length=D:=⟨_,Yz⟩
 rw[d] at *
 have L:=Qc d;clear d;go_quiet (fail)
 have l:=Qai (Below.refl B.heap.size B) nq;have F:=Qc (i.out.below l);have T:=Qc (z.out.trans (i.out.stepB l));replace q:=Qk q l;replace y:=Qk y l;clear G V O N i z u p;generalize B.drewN nq=w2 at *;clear l;have C:=Qc (QbQ F.out (wrap64 (a+x.k)));go_wp2_with (go_at_call 220;refine C.out.mono ?_;rintro P w' ⟨rfl,A⟩;have A:=A.symm;subst A)
 refine(Qb4 F.out _ W.out).mono ?_
 rintro P w5 ⟨rfl,E⟩;have Z:=Qc (WTo.then T.out Yz Yz E);clear E C q y;go_wp2
 exact Xz (v:=.tuple #[]) (by simp[results,results177,go_sem]) Yz (.inl ⟨_,K.out,Yz,Z.out⟩)
theorem QlG (S:WAt w b most m R g) (I:ROk m n R) (hn:n<=900000){x:Qs}(q:IP) (h:x.op=11) (f:R.part x=some r) :
 Calls prog 177 #[Pv b 0,Pv g.t.c 0,.agg (Zq x q)] w fun e w'=>Qdj g w b most m r e w':=by
 obtain⟨a,k⟩:∃ a,iAt R.top.v x.a=some a:=by
  unfold RM.part at f
  cases k:iAt R.top.v x.a with
  | none=>simp[k] at f
  | some a=>exact⟨a,Yz⟩
 have s:=Qc (ZO w (.cells (Zq x q) 78));have o:=Qc (Qe w (Zq x q) 78);have i:=Qc (S.below s.out);have u:=Qc (S.stepB s.out);have G:R.top.v.length+1<=1000000:=by have:=(I.fr R.top (by simp)).1;omega
 clear S I;go_enter func177,ntmps177
 go_upto_region 1 with fail
 generalize w.alloc (.cells (Zq x q) 78)=z at s o i u |-;generalize w.heap.size=X at o |-;obtain⟨p,E,W,x3,M,P,K,T⟩:=Q6 o.out
 rw[h] at p
 obtain⟨j,ri,-,c,F,N,U,L⟩:=i.out.wordAt k
 rw[F] at E
 have H:Hid (r=(R.push [R.load a]).nx):=by show _=_;unfold RM.part at f;simp[h,k] at f;rw[<-f];rfl
 have V:=Qc G;clear f h k F G W x3 M P K T;obtain⟨A,d⟩:∃ A,R.top.v.length=A:=⟨_,Yz⟩
 rw[d] at *
 have J:=Qc d;clear d;go_quiet (fail)
 have l:=Qai (Below.refl z.heap.size z) nq;have D:=Qc (i.out.below l);have Q:=Qc (u.out.trans (i.out.stepB l));replace p:=Qk p l;clear E U N L i u s o;generalize z.drewN nq=w2 at *;clear l;have C:=Qc (QbQ D.out a);go_wp2_with (go_at_call 220;refine C.out.mono ?_;rintro O w' ⟨rfl,y⟩;have y:=y.symm;subst y)
 refine(Qb4 D.out _ V.out).mono ?_
 rintro O w5 ⟨rfl,B⟩;have Z:=Qc (WTo.then Q.out Yz Yz B);clear B C p;go_wp2
 exact Xz (v:=.tuple #[]) (by simp[results,results177,go_sem]) Yz (.inl ⟨_,H.out,Yz,Z.out⟩)
theorem Qmm (S:WAt w b most m R g) (I:ROk m n R) (hn:n<=900000){x:Qs}(F:IP) (h:x.op=7) (l:R.part x=some r) :
 Calls prog 177 #[Pv b 0,Pv g.t.c 0,.agg (Zq x F)] w fun e w'=>Qdj g w b most m r e w':=by
 obtain⟨a,z⟩:∃ a,iAt R.top.v x.a=some a:=by
  unfold RM.part at l
  cases z:iAt R.top.v x.a with
  | none=>simp[z] at l
  | some a=>exact⟨a,Yz⟩
 have H:=Qc (ZO w (.cells (Zq x F) 78));have E:=Qc (Qe w (Zq x F) 78);have u:=Qc (S.below H.out);have N:=Qc (S.stepB H.out);have hl:R.top.v.length+1<=1000000:=by have:=(I.fr R.top (by simp)).1;omega
 clear S I;go_enter func177,ntmps177
 go_upto_region 1 with fail
 generalize w.alloc (.cells (Zq x F) 78)=O at H E u N |-;generalize w.heap.size=X at E |-;obtain⟨M,U,J,x3,L,x5,x6,x7⟩:=Q6 E.out
 rw[h] at M
 obtain⟨j,ri,-,c,ej,hj,G,ck⟩:=u.out.wordAt z
 rw[ej] at U
 obtain⟨y,D⟩:∃ y,iAt R.top.v x.b=some y:=by
  unfold RM.part at l
  cases D:iAt R.top.v x.b with
  | none=>simp[h,z, D] at l
  | some y=>exact⟨y,Yz⟩
 obtain⟨q,ab,-,cq,W,hq,B,d⟩:=u.out.wordAt D
 rw[G] at B
 cases B
 rw[W] at J
 have E2:Hid (r=(R.stored (wrap64 (a+x.k)) y).nx):=by show _=_;unfold RM.part at l;simp[h,z,D] at l;rw[<-l];simp[RM.on,RM.nx]
 have ac:=Qc d;clear D W;have HL:=Qc hl;clear l h z ej hl x3 x5 x6 x7;obtain⟨Q,s⟩:∃ Q,R.top.v.length=Q:=⟨_,Yz⟩
 rw[s] at *
 have aa:=Qc s;clear s;go_quiet (fail)
 have i:=Qai (Below.refl O.heap.size O) nq;have A:=Qc (u.out.below i);have T2:=Qc (N.out.trans (u.out.stepB i));replace M:=Qk M i;replace J:=Qk J i;replace L:=Qk L i;replace G:=Qk G i;replace d:=Qk d i;clear U ck u N H E;generalize O.drewN nq=w2 at *;clear i;have q0:=A.out.cellE;have V:=A.out.cellP;go_upto_region 6 with fail
 refine wp6 q0 V G L J hq d _ _ Yz (Xg (by kernel_rfl)) Yz Yz Yz Yz ?_;rintro K vs w5 o f p P;show wpList _ K _ [_] (QN _ vs [30,31,32,33,34,35,36,37,38,39,40,41,42,43,44,45,46,47,48]) w5;simp only[QN,Act.put,List.setIfInBounds_toArray,List.set_cons_zero,List.set_cons_succ,o,f,p]
 have S5:=Qc (A.out.below P);have T5:=Qc (T2.out.trans (A.out.stepB P));clear o f p P A T2;have C:=Qc (S5.out.storeC (wrap64 (a+x.k)) y);clear S5 q0 V;go_wp2_with (go_at_call 221;refine C.out.mono ?_;rintro e' w7 ⟨rfl,T⟩;have Z:=Qc (WTo.then T5.out Yz Yz T);clear T C)
 exact Xz (v:=.tuple #[]) (by simp[results,results177,go_sem]) Yz (.inl ⟨_,E2.out,Yz,Z.out⟩)
theorem QmY (S:WAt w b most m R g) (I:ROk m n R) (hn:n<=900000){x:Qs}(P:IP) (h:x.op=9) (f:R.part x=some r) :
 Calls prog 177 #[Pv b 0,Pv g.t.c 0,.agg (Zq x P)] w fun e w'=>Qdj g w b most m r e w':=by
 obtain⟨a,A⟩:∃ a,iAt R.top.v x.a=some a:=by
  unfold RM.part at f
  cases A:iAt R.top.v x.a with
  | none=>simp[A] at f
  | some a=>exact⟨a,Yz⟩
 have Q:=Qc (ZO w (.cells (Zq x P) 78));have M:=Qc (Qe w (Zq x P) 78);have B:=Qc (S.below Q.out);have W:=Qc (S.stepB Q.out);have hl:R.top.v.length+1<=1000000:=by have:=(I.fr R.top (by simp)).1;omega
 clear S I;go_enter func177,ntmps177
 go_upto_region 1 with fail
 generalize w.alloc (.cells (Zq x P) 78)=w1 at Q M B W |-;generalize w.heap.size=X at M |-;obtain⟨O,x1,E,x3,x4,x5,x6,x7⟩:=Q6 M.out
 rw[h] at O
 obtain⟨j,ri,-,c,ej,hj,D,ck⟩:=B.out.wordAt A
 rw[ej] at x1
 obtain⟨y,C⟩:∃ y,iAt R.top.v x.b=some y:=by
  unfold RM.part at f
  cases C:iAt R.top.v x.b with
  | none=>simp[h,A, C] at f
  | some y=>exact⟨y,Yz⟩
 obtain⟨q,ab,-,cq,eq,U,J,d⟩:=B.out.wordAt C
 rw[D] at J
 cases J
 rw[eq] at E
 have K:Hid (r=if 0<=y/\y<R.load a then (R.push [R.load (wrap64 (wrap64 (a+1)+y))]).nx else R.over 2):=by
  show _=_;unfold RM.part at f;by_cases i:0<=y/\y<R.load a
  ·simp[h,A,C,i] at f;rw[Xs i,<-f];rfl
  ·simp only[h,A,C] at f;simp[i] at f;rw[Xr i];exact f.symm
 clear C eq;have HL:=Qc hl;clear f h A ej hl x3 x4 x5 x6 x7;obtain⟨vl,u⟩:∃ vl,R.top.v.length=vl:=⟨_,Yz⟩
 rw[u] at *
 have aa:=Qc u;clear u;go_quiet (fail)
 have z:=Qai (Below.refl w1.heap.size w1) nq;have p:=Qc (B.out.below z);have T2:=Qc (W.out.trans (B.out.stepB z));replace O:=Qk O z;replace E:=Qk E z;replace D:=Qk D z;replace d:=Qk d z;clear x1 ck B W Q M;generalize w1.drewN nq=N at *;clear z;have q0:=p.out.cellE;have qp:=p.out.cellP;have CE:Hid (∀ o,Below N.heap.size N o->Calls prog 222 #[Pv b 0,Iv a,Iv y] o fun e w'=>Qlg R a y e/\w'=o):=fun o bx=>Qcp (p.out.below bx) a y;have CW:Hid (∀ o k,Below N.heap.size N o->Calls prog 220 #[Pv b 0,Iv k] o fun e w'=>e=.returned (Iv (R.load k))/\w'=o):=fun o k bx=>QbQ (p.out.below bx) k;clear q0 qp;by_cases i:0<=y/\y<R.load a
 ·have V:Hid (r=(R.push [R.load (wrap64 (wrap64 (a+1)+y))]).nx):=by show _=_;rw[K.out,Xs i]
  have HC:=Qc i;clear i K;go_upto_region 8 with fail
  refine wp8 D E U d CE CW _ _ Yz (Xg (by kernel_rfl)) Yz Yz Yz Yz ?_ ?_
  ·rintro ch a' w9 G ⟨-,L,-⟩;exact absurd HC.out L
  ·rintro F vs w5 l - ⟨k,s,hk,H⟩ T;show wpList _ F _ [_] (QN _ vs [52,53,54,55,56,57,58,59,60,61,62,63,64,65,66]) w5;simp only[QN,Act.put,List.setIfInBounds_toArray,List.set_cons_zero,List.set_cons_succ,l,s]
   have C5:=Qc ((p.out.below T).makesC H HL.out);have T5:=Qc (T2.out.trans (p.out.stepB T));clear l s T p T2 CE CW D E d H hk U;go_wp2_with fail
   refine C5.out.mono ?_;rintro e' w7 ⟨rfl,h7⟩;have Z:=Qc (WTo.then T5.out Yz Yz h7);clear h7 C5 O;go_wp2
   exact Xz (v:=.tuple #[]) (by simp[results,results177,go_sem]) Yz (.inl ⟨_,V.out,Yz,Z.out⟩)
 ·have V:Hid (r=R.over 2):=by show _=_;rw[K.out,Xr i]
  have HC:Hid (¬ (0<=y/\y<R.load a)):=i;clear i K;go_upto_region 8 with fail
  refine wp8 D E U d CE CW _ _ Yz (Xg (by kernel_rfl)) Yz Yz Yz Yz ?_ ?_
  ·rintro ch a' w9 G ⟨rfl,L,b9⟩;exact⟨G,.inr ⟨R,2,V.out,Yz,WTo.then T2.out Yz Yz (WTo.same p.out b9)⟩⟩
  ·rintro F vs w5 l ⟨L,-⟩ _ T;exact absurd L HC.out
theorem QlD (S:WAt w b most m R g) (I:ROk m n R) (hn:n<=900000){x:Qs}(V:IP) (h:x.op=10) (d:R.part x=some r) :
 Calls prog 177 #[Pv b 0,Pv g.t.c 0,.agg (Zq x V)] w fun e w'=>Qdj g w b most m r e w':=by
 obtain⟨a,u⟩:∃ a,iAt R.top.v x.a=some a:=by
  unfold RM.part at d
  cases u:iAt R.top.v x.a with
  | none=>simp[u] at d
  | some a=>exact⟨a,Yz⟩
 have W:=Qc (ZO w (.cells (Zq x V) 78));have T:=Qc (Qe w (Zq x V) 78);have B:=Qc (S.below W.out);have T1:=Qc (S.stepB W.out);have hl:R.top.v.length+1<=1000000:=by have:=(I.fr R.top (by simp)).1;omega
 clear S I;go_enter func177,ntmps177
 go_upto_region 1 with fail
 generalize w.alloc (.cells (Zq x V) 78)=w1 at W T B T1 |-;generalize w.heap.size=X at T |-;obtain⟨x0,x1,J,K,x4,x5,x6,x7⟩:=Q6 T.out
 rw[h] at x0
 obtain⟨j,ri,-,c,ej,hj,G,ck⟩:=B.out.wordAt u
 rw[ej] at x1
 obtain⟨y,F⟩:∃ y,iAt R.top.v x.b=some y:=by
  unfold RM.part at d
  cases F:iAt R.top.v x.b with
  | none=>simp[h,u, F] at d
  | some y=>exact⟨y,Yz⟩
 obtain⟨q,ab,-,cq,eq,hq,N,f⟩:=B.out.wordAt F
 rw[G] at N
 cases N
 rw[eq] at J
 obtain⟨z,H⟩:∃ z,iAt R.top.v x.c=some z:=by
  unfold RM.part at d
  cases H:iAt R.top.v x.c with
  | none=>simp[h,u,F,H] at d
  | some z=>exact⟨z,Yz⟩
 obtain⟨s,ac,-,cs,es,hs,O,i⟩:=B.out.wordAt H
 rw[G] at O
 cases O
 rw[es] at K
 have P:Hid (r=if 0<=y/\y<R.load a then (R.stored (wrap64 (wrap64 (a+1)+y)) z).nx else R.over 2):=by
  show _=_;unfold RM.part at d;by_cases k:0<=y/\y<R.load a
  ·simp[h,u,F,H,k] at d;rw[Xs k,<-d];simp[RM.on,RM.nx]
  ·simp only[h,u,F,H] at d;simp[k] at d;rw[Xr k];exact d.symm
 clear F eq H es;have HL:=Qc hl;clear d h u ej hl x4 x5 x6 x7;obtain⟨vl,E⟩:∃ vl,R.top.v.length=vl:=⟨_,Yz⟩
 rw[E] at *
 have aa:=Qc E;clear E;go_quiet (fail)
 have o:=Qai (Below.refl w1.heap.size w1) nq;have D:=Qc (B.out.below o);have T2:=Qc (T1.out.trans (B.out.stepB o));replace x0:=Qk x0 o;replace J:=Qk J o;replace K:=Qk K o;replace G:=Qk G o;replace f:=Qk f o;replace i:=Qk i o;clear x1 ck B T1 W T;generalize w1.drewN nq=w2 at *;clear o;have q0:=D.out.cellE;have qp:=D.out.cellP;have CE:Hid (∀ U,Below w2.heap.size w2 U->Calls prog 222 #[Pv b 0,Iv a,Iv y] U fun e w'=>Qlg R a y e/\w'=U):=fun U bx=>Qcp (D.out.below bx) a y;by_cases k:0<=y/\y<R.load a
 ·have E3:Hid (r=(R.stored (wrap64 (wrap64 (a+1)+y)) z).nx):=by show _=_;rw[P.out,Xs k]
  have HC:=Qc k;clear k P;go_upto_region 10 with fail
  refine QnP q0 qp G J hq f K hs i CE _ _ Yz (Xg (by kernel_rfl)) Yz Yz Yz Yz ?_ ?_
  ·rintro ch a' w9 M ⟨-,Q,-⟩;exact absurd HC.out Q
  ·rintro L vs w5 l ⟨-,A⟩ p b5;show wpList _ L _ [_] (QN _ vs [70,71,72,73,74,75,76,77,78,79,80,81,82,83,84,85,86,87,88,89,90,91,92,93,94,95]) w5;simp only[QN,Act.put,List.setIfInBounds_toArray,List.set_cons_zero,List.set_cons_succ,l,A,p]
   have S5:=Qc (D.out.below b5);have T5:=Qc (T2.out.trans (D.out.stepB b5));clear l A p b5 D T2 CE G J K f i hq hs;have C:=Qc (S5.out.storeC (wrap64 (wrap64 (a+1)+y)) z);clear S5 q0 qp;go_wp2_with (go_at_call 221;refine C.out.mono ?_;rintro e' w7 ⟨rfl,h7⟩;have Z:=Qc (WTo.then T5.out Yz Yz h7);clear h7 C)
   exact Xz (v:=.tuple #[]) (by simp[results,results177,go_sem]) Yz (.inl ⟨_,E3.out,Yz,Z.out⟩)
 ·have E3:Hid (r=R.over 2):=by show _=_;rw[P.out,Xr k]
  have HC:Hid (¬ (0<=y/\y<R.load a)):=k;clear k P;go_upto_region 10 with fail
  refine QnP q0 qp G J hq f K hs i CE _ _ Yz (Xg (by kernel_rfl)) Yz Yz Yz Yz ?_ ?_
  ·rintro ch a' w9 M ⟨rfl,Q,b9⟩;exact⟨M,.inr ⟨R,2,E3.out,Yz,WTo.then T2.out Yz Yz (WTo.same D.out b9)⟩⟩
  ·rintro L vs w5 l ⟨Q,-⟩ _ b5;exact absurd Q HC.out
end
section
variable {w w' w2:World}{b most n:Nat}{m:List (MFunc 6)}{R R' r:RM}{g g1:WG}
def Qm2 (g:WG) (w:World) (b most:Nat) (m:List (MFunc 6)) (R:RM) (f:Nat) (xs:List Int) (e:Ending) (w':World):Prop :=
 (R.rest.length+1<40/\e=.returned (.tuple #[])/\∃ g',WAt w' b most m { R with top:=⟨f,0,0,xs⟩,rest:=R.top::R.rest } g'/\WSt g g' w w'/\g'.fs=g.t::g.fs)\/(¬ R.rest.length+1<40/\e=.panicked (QdT 5)/\WTo g w w' b most m R)
theorem Qib (S:WAt w b most m R g) (I:ROk m n R) (hn:n<=900000){x:Qs}(r:IP){Q2:Nat->Prop}(hi:IIn w Q2 x r) (h8:x.args.length<=8)(hf:x.k=(f:Int))(Q:R.rest.length+1<40->QaA R.top.v x.args=some xs) :
 Calls prog 176 #[Pv b 0,Pv g.t.c 0,.agg (Zq x r)] w fun e w'=>Qm2 g w b most m R f xs e w':=by
 have O:=Qc (ZO w (.cells (Zq x r) 78));have BX:=Qc (Qe w (Zq x r) 78);have d:=Qc (S.below O.out);have N:=Qc (S.stepB O.out);have hl:R.top.v.length+1<=1000000:=by have:=(I.fr R.top (by simp)).1;omega
 have F:=I.deep;have M:=Qc (Ya hi.args O.out);clear S I hi;go_enter func176,ntmps176
 go_upto_region 1 with fail
 generalize w.alloc (.cells (Zq x r) 78)=B at O BX d N M |-;generalize w.heap.size=X at BX |-;obtain⟨x0,x1,x2,x3,W,x5,x6,x7⟩:=Q6 BX.out
 rw[hf] at W
 clear x0 x1 x2 x3 x5 x6;obtain⟨z,dc,A,l,-⟩:=d.out.callsForm
 have J:B.cell? ⟨b,4,none⟩=some g.vc:=Qb d.out.box 4 _ Z;rw[A] at J
 by_cases i:R.rest.length+1<40
 ·have d0:decide (((R.rest.length+1:Nat):Int)<40)=true:=Xt (by omega);have Q:=Q i;have y:=Qc i
  have HR:Hid (∀ o,Below B.heap.size B o->o.ownsRow 0 130 1 (.slice (some ⟨z,0,none⟩) (R.rest.length+1) dc) (R.rest.length+1) (Qas (g.t::g.fs))):=fun o T=>by
   have:=(d.out.below T).calls
   rwa [A] at this
  have CB:Hid (∀ o,Below B.heap.size B o->Calls prog 216 #[Pv g.t.c 0,Iv (f:Int),Iv 0,.slice r.pA x.args.length r.cA] o fun e w'=>QmR o ⟨f,0,0,xs⟩ e w'):=fun o T=>QdO (d.out.top.below T) (by omega) Z (by omega) (Ya M.out T) Q f 0;have ab:z<B.heap.size:=XC (ZR d.out.calls (x:=z) (by rw[A];rfl)).choose_spec;have q:Hid (g.vc.ownBlock=some z):=by show _=_;rw[A];rfl
  have D:R.rest.length+1<=100:=by omega
  obtain⟨H,a⟩:∃ H,R.rest.length+1=H:=⟨_,Z⟩
  have aa:=Qc a;rw[a] at J d0 HR D
  clear Q i M A l F hl a h8;go_upto_region 2 with (go_at_call 111;refine(QaF _ _).mono ?_;rintro e' w' ⟨rfl,K⟩;have K:=K.symm;subst K)
  refine wc2 HR ab D J W x7 CB (fun w w' h b=>Zt h b.size) _ _ Z (Xg (by kernel_rfl)) Z Z Z ?_ ?_
  ·rintro ch a' w9 ac ⟨⟩
  ·rintro V vs w9 ⟨w5,c5,x5,n5,U,E,C,F5,P,r2,r3⟩ p G;obtain⟨v9,j⟩:∃ v9,vs 25=v9:=⟨_,Z⟩
   rw[j] at P r3
   show wpList _ V _ [_] (QN _ vs [13,14,15,16,17,18,19,20,21,22,23,24,25,26,27]) w9;simp only[QN,Act.put,List.setIfInBounds_toArray,List.set_cons_zero,List.set_cons_succ,j,p]
   have u:=d.out.pushFr U F5 E C (v9:=v9) (w9:=w9) (by rw[aa.out];exact P) (by rw[q.out];exact r2) (fun k hk=>by rw[q.out];exact(r3 k hk).imp (fun e=>by rw[e]) id)
   have u:Hid (Qm2 g w b most m R f xs (.returned (.tuple #[])) (w9.setCell ⟨b,4,none⟩ v9)):=by
    obtain⟨g',A',S',E'⟩:=u
    exact .inl ⟨y.out,Z,g',A',N.out.trans S',E'⟩
   have L:z≠b:=fun e=>by
    have h1:=d.out.oc z q.out;rw[e,d.out.ob] at h1
    omega
   have s:w9.heap[b]?=_:=(r2.block b (by have:=XC d.out.box;have:=U.size;omega) (fun e=>L (by simpa using e.symm))).trans ((U.block b (XC d.out.box)).trans d.out.box);have c9:w9.cell? ⟨b,4,none⟩=some g.vc:=Qb s 4 _ Z;have z9:=Qj s 4;obtain⟨a9,d9,rfl⟩:=QaS P
   clear j p P r2 r3 s L F5 U E C CB HR J W x7 d N G;go_wp2
   exact Xz (v:=.tuple #[]) (by simp[results,results176,go_sem]) Z u.out
 ·have d0:decide (((R.rest.length+1:Nat):Int)<40)=false:=Xu (by omega);have y:Hid (¬ R.rest.length+1<40):=i;clear i M l F hl A h8;obtain⟨H,a⟩:∃ H,R.rest.length+1=H:=⟨_,Z⟩
  rw[a] at J d0
  clear a;go_wp2_with fail
  refine(Z4 _ _).mono ?_
  rintro e' w' ⟨rfl,K⟩;subst K;exact⟨Z,.inr ⟨y.out,Z,WTo.then N.out Z Z (WTo.same d.out Zr)⟩⟩
end
def QnZ (b gc k cap:Nat) (t:Tmp) (v:Value) (w:World):Prop :=
 v=(([(0,Pv b 0),(13,Pv b 0),(14,Pv b 0),(15,Pv b 0),(16,Pv b 4),(17,.slice (some ⟨gc,0,none⟩) (k+1) cap),(18,Pv b 0),(19,Pv b 0),(20,Pv b 4),(21,.slice (some ⟨gc,0,none⟩) (k+1) cap),(22,Iv ((k:Int)+1)),(23,Iv (k:Int)),(24,.slice (some ⟨gc,0,none⟩) k cap),(25,Pv b 0),(26,Pv b 4)]:List (Tmp × Value)).lookup t).getD undef
theorem wg2 {b g:Nat}(j:w6.cell? ⟨b,4,none⟩=some (.slice (some ⟨g,0,none⟩) (k+1) cap)) (e:k+1<=cap) (u:k<=1000){Q:Exit->Act->World->Prop}
 (a:Act) (m:Nat) (o:a.tmps.size=m) (i:31<=m) (r:a.tmps.getD 0 undef=Pv b 0)
 (hend:∀ ops vs w',vs 24=.slice (some ⟨g,0,none⟩) k cap->vs 26=Pv b 4->Below w6.heap.size w6 w'->wpList prog ops Q (Qao 14 ((Tryz.f166.body.bind (Qi 2)).getD .skip)) (QN a vs [13,14,15,16,17,18,19,20,21,22,23,24,25,26]) w') :
 Code.wp prog ((Tryz.f166.body.bind (Qi 2)).getD .skip) Q a w6:=by
 conv=>arg 2;whnf
 refine Qg 14 (QnZ b g k cap) (fun w=>Below w6.heap.size w6 w) (fun w w'=>Below w.heap.size w w') (outs:=[0]) (gs:=[]) (bs:=[true,true,true,true,true,true,true,true,true,true,true,true,true,true]) (by kernel_rfl) (n:=31) o i (by kernel_rfl) (by kernel_rfl) ?hR ?hG (QI Zr 1) ⟨r,Y⟩ ?hA ?hend
 case hR=>exact fun t v w w' _ h=>h
 case hG=>exact Y
 case hend=>exact fun ops vs w' d e=>hend ops vs w' (e 24 (by kernel_rfl)) (e 26 (by kernel_rfl)) d
 case hA =>
  refine⟨fun a w d e K f=>?_,?_⟩
  ·obtain⟨c,-⟩:=e
   have c:a.tmps.getD 0 undef=Pv b 0:=c;go_simp;exact f _ _ Zr d Z
  refine⟨fun a w d e K f=>?_,?_⟩
  ·obtain⟨c,-⟩:=e
   have c:a.tmps.getD 0 undef=Pv b 0:=c;go_simp;exact f _ _ Zr d Z
  refine⟨fun a w d e K f=>?_,?_⟩
  ·obtain⟨c,-⟩:=e
   have c:a.tmps.getD 14 undef=Pv b 0:=c;go_simp;exact f _ _ Zr d Z
  refine⟨fun a w d e K f=>?_,?_⟩
  ·obtain⟨c,-⟩:=e
   have c:a.tmps.getD 15 undef=Pv b 0:=c;go_simp;exact f _ _ Zr d Z
  refine⟨fun a w d e K f=>?_,?_⟩
  ·obtain⟨c,-⟩:=e
   have c:a.tmps.getD 16 undef=Pv b 4:=c;have p:=Qk j d;go_simp;exact f _ _ Zr d Z
  refine⟨fun a w d e K f=>?_,?_⟩
  ·obtain⟨c,-⟩:=e
   have c:a.tmps.getD 0 undef=Pv b 0:=c;go_simp;exact f _ _ Zr d Z
  refine⟨fun a w d e K f=>?_,?_⟩
  ·obtain⟨c,-⟩:=e
   have c:a.tmps.getD 18 undef=Pv b 0:=c;go_simp;exact f _ _ Zr d Z
  refine⟨fun a w d e K f=>?_,?_⟩
  ·obtain⟨c,-⟩:=e
   have c:a.tmps.getD 19 undef=Pv b 0:=c;go_simp;exact f _ _ Zr d Z
  refine⟨fun a w d e K f=>?_,?_⟩
  ·obtain⟨c,-⟩:=e
   have c:a.tmps.getD 20 undef=Pv b 4:=c;have p:=Qk j d;go_simp;exact f _ _ Zr d Z
  refine⟨fun a w d e K f=>?_,?_⟩
  ·obtain⟨c,-⟩:=e
   have c:a.tmps.getD 21 undef=.slice (some ⟨g,0,none⟩) (k+1) cap:=c;go_simp;exact f _ _ Zr d Z
  refine⟨fun a w d e K f=>?_,?_⟩
  ·obtain⟨c,-⟩:=e
   have c:a.tmps.getD 22 undef=Iv ((k:Int)+1):=c;have x:(k:Int)+1 - 1=k:=by omega
   go_simp;refine f _ _ Zr d ?_;show Value.int _ _=Value.int _ _;congr 1
   rw[IntKind.wrap_i64]
   omega
  refine⟨fun a w d e K f=>?_,?_⟩
  ·obtain⟨c,l,-⟩:=e
   have c:a.tmps.getD 17 undef=.slice (some ⟨g,0,none⟩) (k+1) cap:=c;have l:a.tmps.getD 23 undef=Iv (k:Int):=l;have q:(0:Int)<=k:=by omega
   have s:(k:Int)<=cap:=by omega
   go_simp;exact f _ _ Zr d Z
  refine⟨fun a w d e K f=>?_,?_⟩
  ·obtain⟨c,-⟩:=e
   have c:a.tmps.getD 13 undef=Pv b 0:=c;go_simp;exact f _ _ Zr d Z
  refine⟨fun a w d e K f=>?_,?_⟩
  ·obtain⟨c,-⟩:=e
   have c:a.tmps.getD 25 undef=Pv b 0:=c;go_simp;exact f _ _ Zr d Z
  trivial
def QjI (g:WG) (w:World) (b most:Nat) (m:List (MFunc 6)) (r:RM) (e:Ending) (w':World):Prop :=
 (e=.returned (.tuple #[])/\WGo g w w' b most m r)\/(∃ N k,r=N.over k/\e=.panicked (QdT k)/\WTo g w w' b most m N)
def RM.gave (R:RM) (l:List Int):RM:=match R.rest with
 | []=>{ R with done:=true,fin:=0,back:=l }
 | d::rest=>{ R with top:={ d with v:=d.v++l },rest:=rest }
section
variable {w w' w2:World}{b most n:Nat}{m:List (MFunc 6)}{R R' r:RM}{g g1:WG}
theorem QjI.then {e:Ending}(T:WSt g g1 w w2) (f:g1.t.c=g.t.c) (h:g1.fs=g.fs) (H:QjI g1 w2 b most m r e w'):QjI g w b most m r e w':=by
 rcases H with ⟨a,d⟩|⟨N,k,a,c,d⟩
 ·exact .inl ⟨a,WGo.then T d⟩
 ·exact .inr ⟨N,k,a,c,WTo.then T f h d⟩
theorem QbC.news {n:Nat}(h:QbC w (.slice (some ⟨k,0,none⟩) n c) xs):∀ (j:Nat) (u:Value),(xs.map (Value.int .i64))[j]?=some u->w.cell? ((⟨k,0,none⟩:Addr).add j)=some u:=fun j u b=>by
 rw[XS] at b
 obtain⟨y,d,rfl⟩:=Option.map_eq_some_iff.1 b
 have m:=(Zi d).1;obtain⟨a,o,e,g⟩:=h.cell
 obtain⟨l,i,-,f⟩:=g j m
 rw[Value.slice.injEq] at e
 have:l=k:=by have:=e.1.trans i;simpa using this.symm
 subst this;rw[Addr.add_lit,XK,f]
 simp[List.getD,d]
theorem QhE (S:WAt w b most m R g){n:Nat}(i:xs.length=n) (d:QbC w (.slice (some ⟨k,0,none⟩) n n) xs) (a:g.ow k=0/\g.lo<=k) :
 Calls prog 215 #[Pv b 0,.slice (some ⟨k,0,none⟩) n n] w fun e w'=>e=.panicked (QdT 0)/\WTo g w w' b most m { R with back:=xs }:=by
 have j:w.cell? ⟨b,6,none⟩=some g.vb:=Qb S.box 6 _ Yz;have l:=Qj S.box 6;obtain⟨o,p,c,-⟩:=S.back
 have Z:Hid (WTo g w (w.setCell ⟨b,6,none⟩ (.slice (some ⟨k,0,none⟩) n n)) b most m { R with back:=xs }):=by
  subst i;refine S.reBox (R':={ R with back:=xs }) Yz Yz Yz (by simp) (fun k a h=>Xd _ _ _ _ h) ⟨Yz,Yz,Yz,Yz⟩ (pi:=g.pi) (ci:=g.ci) (vb:=.slice (some ⟨k,0,none⟩) xs.length xs.length) ⟨S.inp,S.inpC⟩ (d.lin (fun x f=>?_)) ?_
  ·have:x=k:=by simpa[Value.ownBlock] using f.symm
   rw[this];exact a
  ·rw[Qh S.box 6 _]
   simp
 rw[c] at j
 clear S d a c;go_enter func215,ntmps215
 go_wp2
 exact⟨Yz,Yz,Z.out⟩
theorem QhO (S:WAt w b most m R g) (hd:R.rest.length<=39) (B:∀ d∈R.rest,d.v.length+8<=1000000){n:Nat}(hn:xs.length=n) (h8:n<=8) (G:QbC w (.slice (some ⟨k,0,none⟩) n n) xs) (P:g.ow k=0/\g.lo<=k) :
 Calls prog 166 #[Pv b 0,.slice (some ⟨k,0,none⟩) n n] w fun e w'=>QjI g w b most m (R.gave xs) e w':=by
 obtain⟨V,cap,K,f,-⟩:=S.callsForm
 have A:w.cell? ⟨b,4,none⟩=some g.vc:=Qb S.box 4 _ Yz;rw[K] at A
 have M:=Qc S
 cases hrest:R.rest with
 | nil =>
   have C:=Qc (QhE S hn G P);have T:Hid (R.gave xs=RM.over { R with back:=xs } 0):=by show _=_;unfold RM.gave RM.over;rw[hrest]
   rw[hrest] at A
   clear S G P hrest f K;go_enter func166,ntmps166
   go_wp2_with fail
   refine C.out.mono ?_;rintro e' w5 ⟨rfl,h5⟩;exact⟨Yz,.inr ⟨_,0,T.out,Yz,h5⟩⟩
 | cons d rest =>
   have T:Hid (R.gave xs=RM.push { R with top:=d,rest:=rest } xs):=by show _=_;unfold RM.gave RM.push;rw[hrest]
   have q:R.rest.length=rest.length+1:=by rw[hrest];simp
   have u:(((R.rest.length+1:Nat):Int)==1)=false:=by simp;omega
   have ab:=B d (by rw[hrest];simp);have D:=Qc hrest;have r:=Qc K;have HR:=Qc G;have HK:=Qc P;clear hrest S G P B K;obtain⟨F,o⟩:∃ F,R.rest.length=F:=⟨_,Yz⟩
   rw[o] at A f u hd
   have s:=Qc o;have aa:=Qc q;clear q o;go_enter func166,ntmps166
   go_upto_region 2 with fail
   refine wg2 A f (by omega) _ _ Yz (Xg (by kernel_rfl)) Yz ?_;rintro Q W H j l L;show wpList _ Q _ [_] (QN _ W [13,14,15,16,17,18,19,20,21,22,23,24,25,26]) H;simp only[QN,Act.put,List.setIfInBounds_toArray,List.set_cons_zero,List.set_cons_succ,j,l]
   have E:=Qc (M.out.below L);have c4:H.cell? ⟨b,4,none⟩=some g.vc:=Qb E.out.box 4 _ Yz;have z4:=Qj E.out.box 4;rw[r.out] at c4
   have i:∃ y I,g.fs=y::I:=by
    have:=M.out.rows
    rw[D.out] at this
    cases hh:g.fs with
    | nil=>rw[hh] at this;simp at this
    | cons y I=>exact⟨y,I,Yz⟩
   obtain⟨y,I,i⟩:=i
   have PP:=E.out.pop i D.out (a:=some ⟨V,0,none⟩) (cap:=cap) r.out;rw[s.out] at PP
   obtain⟨g8,p,O,t8⟩:=PP
   have p:=Qc p;have O:=Qc ((M.out.stepB L).trans O)
   have h:Hid (QbC (H.setCell ⟨b,4,none⟩ (.slice (some ⟨V,0,none⟩) F cap)) (.slice (some ⟨k,0,none⟩) n n) xs):=Q0 HR.out (fun x N=>by
    have e:x=k:=by simpa[Value.ownBlock] using N.symm
    rw[Xd _ _ _ _ (fun (e2:x=b)=>by have h1:=M.out.ob;rw[<-e2,e,HK.out.1] at h1;omega)]
    exact L.block x (HR.out.lt N))
   clear j l L E A t8 i;go_upto_region 3 with fail
   generalize H.setCell ⟨b,4,none⟩ (.slice (some ⟨V,0,none⟩) F cap)=w8 at p O h |-;have CT:=Qc (Qgx p.out (by show rest.length<=1000;have:=aa.out;have:=s.out;omega))
   have CM:Hid (∀ J,Below w8.heap.size w8 J->Calls prog 169 #[Pv g8.t.c 0,.slice (some ⟨k,0,none⟩) n n] J fun e w'=>e=.returned (.tuple #[])/\WTo g8 J w' b most m (RM.push { R with top:=d,rest:=rest } xs)):=fun J bx =>
    Qb6 (p.out.below bx) hn (QbC.news (Q0 h.out (fun x N=>bx.block x (QbC.lt h.out N)))) (by show d.v.length+n<=1000000;omega)
   clear c4 z4;go_wp2_with (go_at_call 112;refine CT.out.mono ?_;rintro e' w9 ⟨rfl,U⟩)
   refine(CM.out w9 U).mono ?_
   rintro e' X ⟨rfl,z⟩;have Z:Hid (WGo g w X b most m (RM.push { R with top:=d,rest:=rest } xs)):=WGo.then (O.out.trans (p.out.stepB U)) z.go;clear z CM CT U;go_wp2
   exact Xz (v:=.tuple #[]) (by simp[results,results166,go_sem]) Yz (by rw[T.out];exact .inl ⟨Yz,Z.out⟩)
end
section
variable {w w' w2:World}{b most n:Nat}{m:List (MFunc 6)}{R R' r:RM}{g g1:WG}
theorem QlK {t:MTo}(h:R.to t=some r):∃ l,QaA R.top.v t.args=some l/\r={ R with top:=⟨R.top.f,t.block.toNat,0,l⟩ }:=by
 unfold RM.to at h
 cases hl:QaA R.top.v t.args with
 | none=>rw[hl] at h;cases h
 | some l=>rw[hl] at h;cases h;exact⟨l,Z,Z⟩
theorem Qj7 (S:WAt w b most m R g) (I:ROk m n R) (hn:n<=900000){q:Nat}{x:ZC}{i:EP}{Q2:Nat->Prop}(EI:EIn w Q2 x i) (hx:x.form q=0) (f:R.endd x=some r) :
 Calls prog 113 #[Pv b 0,Pv g.t.c 0,.agg (QbV x i)] w fun e w'=>QjI g w b most m r e w':=by
 obtain⟨ag,ab,J,W⟩:=Qfo hx
 have P:=Qc (ZO w (.cells (QbV x i) 84));have z:=Qc (Qe w (QbV x i) 84);have Q:=Qc (S.below P.out);have T1:=Qc (S.stepB P.out);have hl:R.top.v.length+1<=1000000:=by have:=(I.fr R.top (by simp)).1;omega
 have ac:=I.deep;have ad:Hid (∀ d∈R.rest,d.v.length+8<=1000000):=fun d hd=>by have:=(I.fr d (List.mem_cons_of_mem _ hd)).1;omega
 have O:Hid (∀ (t:MTo) (pr pa:Option Addr) (cr ca:Nat) (r':RM) p,t.form q true=0->QhA w Q2 t pr cr pa ca->Below w.heap.size w p->R.to t=some r'->Calls prog 168 #[Pv g.t.c 0,.agg #[Iv t.block,.slice pr t.regs.length cr,.slice pa t.args.length ca]] p fun e w'=>e=.returned (.tuple #[])/\QjI g w b most m r' (.returned (.tuple #[])) w'):=fun t pr pa cr ca r' p ht hi s he=>by
  obtain⟨l,T,rfl⟩:=QlK he
  obtain⟨K,D,h4,B⟩:=Qei ht
  obtain⟨bi,ae⟩:=Xc K
  refine(Qix (S.below s) (by omega) ae (Ya hi.args s) (by omega) T).mono ?_
  rintro e w' ⟨rfl,h⟩;exact⟨Yz,.inl ⟨Yz,(WTo.then (S.stepB s) Yz Yz h).go⟩⟩
 have o:=Qc EI;have L:=Qc (Xh J W);have CA:Hid (∀ p G,QaA R.top.v x.args=some G->Below w.heap.size w p->Calls prog 167 #[Pv g.t.c 0,.slice i.pA x.args.length i.cA] p fun e w'=>Qm7 p G x.args.length e w'):=fun p G h s=>Qem (S.top.below s) (by omega) Yz (by omega) (Ya EI.args s) h;have HS:=Qc S;clear S I EI hx J W;go_enter func113,ntmps113
 go_upto_region 2 with fail
 generalize w.alloc (.cells (QbV x i) 84)=A at P z Q T1 |-;generalize w.heap.size=X at z |-;have M:A.cell? ⟨X,0,none⟩=some (Iv x.op):=Qb z.out 0 _ Yz;have U:A.cell? ⟨X,1,none⟩=some (Iv x.a):=Qb z.out 1 _ Yz;have x2:A.cell? ⟨X,2,none⟩=some (Iv x.yes.block):=Qb z.out 2 _ Yz;have x3:A.cell? ⟨X,3,none⟩=some (.slice i.pYR x.yes.regs.length i.cYR):=Qb z.out 3 _ Yz;have x4:A.cell? ⟨X,4,none⟩=some (.slice i.pYA x.yes.args.length i.cYA):=Qb z.out 4 _ Yz;have x5:A.cell? ⟨X,5,none⟩=some (Iv x.no.block):=Qb z.out 5 _ Yz;have x6:A.cell? ⟨X,6,none⟩=some (.slice i.pNR x.no.regs.length i.cNR):=Qb z.out 6 _ Yz;have x7:A.cell? ⟨X,7,none⟩=some (.slice i.pNA x.no.args.length i.cNA):=Qb z.out 7 _ Yz;have x8:A.cell? ⟨X,8,none⟩=some (.slice i.pA x.args.length i.cA):=Qb z.out 8 _ Yz;by_cases E:x.op=3
 ·obtain⟨G,H⟩:∃ G,QaA R.top.v x.args=some G:=by
   unfold RM.endd at f
   cases hl:QaA R.top.v x.args with
   | none=>simp[E,hl] at f
   | some l=>exact⟨l,Yz⟩
  have u:Hid (r=R.gave G):=by
   show _=_;unfold RM.endd at f;simp[E,H] at f
   unfold RM.gave
   cases hrest:R.rest with
   | nil=>rw[hrest] at f;simp at f;rw[<-f]
   | cons d rest=>rw[hrest] at f;simp at f;rw[<-f]
  have C:=Qc (CA.out A G H P.out);have af:Hid (G.length=x.args.length):=Qaj H;rw[E] at M
  clear O CA U x2 x3 x4 x5 x6 x7 f E H o L;go_wp2_with (go_at_call 167;refine C.out.mono ?_;rintro e' w5 ⟨k,rfl,hk,hR,b5⟩)
  have S5:=Q.out.below b5;have aa:g.ow k=0/\g.lo<=k:=⟨Xq.1 fun e=>by have:=Q.out.lt _ e;omega,Zt Q.out.low hk⟩;refine(QhO S5 ac ad.out af.out ab hR aa).mono ?_
  rintro e' w6 hE;have F:=Qc (QjI.then (T1.out.trans (Q.out.stepB b5)) Yz Yz hE);rcases hE with ⟨rfl,-⟩|⟨N,k',-,rfl,-⟩
  ·clear C M x8 S5 hR b5 aa hk;go_wp2
   exact Xz (v:=.tuple #[]) (by simp[results,results113,go_sem]) Yz (by rw[u.out];exact F.out)
  ·exact⟨Yz,by rw[u.out];exact F.out⟩
 by_cases D:x.op=2
 ·obtain⟨y,V⟩:∃ y,iAt R.top.v x.a=some y:=by
   unfold RM.endd at f
   cases hl:iAt R.top.v x.a with
   | none=>simp[D,hl] at f
   | some l=>exact⟨l,Yz⟩
  obtain⟨j,ri,-,c,ej,hj,c3,ck⟩:=Q.out.wordAt V
  rw[ej] at U
  rw[D] at M
  by_cases K:y=0
  ·have u:R.to x.no=some r:=by unfold RM.endd at f;simp[D,V,K] at f;exact f
   have d0:(y==0)=true:=by simpa using K
   have C:=Qc (fun p s=>O.out x.no _ _ _ _ r p (L.out.2 D) o.out.no s u);clear O CA x2 x3 x4 x8 f E V D u o L ej K;generalize R.top.v.length=vl at *;go_upto_region 4 with fail
   go_quiet (fail)
   go_wp2_with fail
   refine(C.out _ (Qai P.out _)).mono ?_
   rintro e' w5 ⟨rfl,B⟩;have Z:=Qc B;clear B C M U x5 x6 x7 c3 ck;go_wp2
   exact Xz (v:=.tuple #[]) (by simp[results,results113,go_sem]) Yz Z.out
  ·have u:R.to x.yes=some r:=by unfold RM.endd at f;simp[D,V,K] at f;exact f
   have d0:(y==0)=false:=by simpa using K
   have C:=Qc (fun p s=>O.out x.yes _ _ _ _ r p (L.out.1 E) o.out.yes s u);clear O CA x5 x6 x7 x8 f E V D u o L ej K;generalize R.top.v.length=vl at *;go_upto_region 4 with fail
   go_quiet (fail)
   go_wp2_with fail
   refine(C.out _ (Qai P.out _)).mono ?_
   rintro e' w5 ⟨rfl,B⟩;have Z:=Qc B;clear B C M U x2 x3 x4 c3 ck;go_wp2
   exact Xz (v:=.tuple #[]) (by simp[results,results113,go_sem]) Yz Z.out
 ·have T:x.op=1:=by omega
  have u:R.to x.yes=some r:=by unfold RM.endd at f;simp[T] at f;exact f
  have C:=Qc (fun p s=>O.out x.yes _ _ _ _ r p (L.out.1 E) o.out.yes s u);rw[T] at M
  clear O CA U x5 x6 x7 x8 f E D T u o L;go_upto_region 4 with fail
  go_quiet (fail)
  go_wp2_with fail
  refine(C.out _ (Qai P.out _)).mono ?_
  rintro e' w5 ⟨rfl,B⟩;have Z:=Qc B;clear B C M x2 x3 x4;go_wp2
  exact Xz (v:=.tuple #[]) (by simp[results,results113,go_sem]) Yz Z.out
end
section
variable {w w' w2:World}{b most n:Nat}{m:List (MFunc 6)}{M M' N:IM}{sc sa:Int}{g g1:MG}{e:Ending}
theorem vsizeE:(prog.info? 84).map (·.size)=some 9:=by kernel_rfl
end
def Qn1 (b fu most:Nat) (t:Tmp) (v:Value) (w:World):Prop :=
 v=(([(0,Pv b 0),(4,Pv b 0),(5,Pv b 0),(6,Pv b 5),(7,Pv b 8),(8,Iv (fu:Int)),(9,Pv b 0),(10,Pv b 0),(11,Pv b 3),(12,Iv (most:Int)),(13,.bool (decide ((fu:Int)<most)))]:List (Tmp × Value)).lookup t).getD undef
theorem ws0 {b fu most:Nat}(l:w6.cell? ⟨b,8,none⟩=some (Iv (fu:Int))) (p:w6.cell? ⟨b,3,none⟩=some (Iv (most:Int))){Q:Exit->Act->World->Prop}
 (a:Act) (m:Nat) (j:a.tmps.size=m) (g:75<=m) (o:a.tmps.getD 0 undef=Pv b 0)
 (hend:∀ ops vs w',vs 13=.bool (decide ((fu:Int)<most))->Below w6.heap.size w6 w'->wpList prog ops Q (Qao 10 ((Tryz.f69.body.bind (Qi 0)).getD .skip)) (QN a vs [4,5,6,7,8,9,10,11,12,13]) w') :
 Code.wp prog ((Tryz.f69.body.bind (Qi 0)).getD .skip) Q a w6:=by
 conv=>arg 2;whnf
 refine Qg 10 (Qn1 b fu most) (fun w=>Below w6.heap.size w6 w) (fun w w'=>Below w.heap.size w w') (outs:=[0]) (gs:=[]) (bs:=[true,true,true,true,true,true,true,true,true,true]) (by kernel_rfl) (n:=75) j g (by kernel_rfl) (by kernel_rfl) ?hR ?hG (QI Zr 1) ⟨o,Y⟩ ?hA ?hend
 case hR=>exact fun t v w w' _ h=>h
 case hG=>exact Y
 case hend=>exact fun ops vs w' d e=>hend ops vs w' (e 13 (by kernel_rfl)) d
 case hA =>
  refine⟨fun a w d e K f=>?_,?_⟩
  ·obtain⟨c,-⟩:=e
   have c:a.tmps.getD 0 undef=Pv b 0:=c;go_simp;exact f _ _ Zr d Z
  refine⟨fun a w d e K f=>?_,?_⟩
  ·obtain⟨c,-⟩:=e
   have c:a.tmps.getD 4 undef=Pv b 0:=c;go_simp;exact f _ _ Zr d Z
  refine⟨fun a w d e K f=>?_,?_⟩
  ·obtain⟨c,-⟩:=e
   have c:a.tmps.getD 5 undef=Pv b 0:=c;go_simp;exact f _ _ Zr d Z
  refine⟨fun a w d e K f=>?_,?_⟩
  ·obtain⟨c,-⟩:=e
   have c:a.tmps.getD 6 undef=Pv b 5:=c;go_simp;exact f _ _ Zr d Z
  refine⟨fun a w d e K f=>?_,?_⟩
  ·obtain⟨c,-⟩:=e
   have c:a.tmps.getD 7 undef=Pv b 8:=c;have k:=Qk l d;go_simp;exact f _ _ Zr d Z
  refine⟨fun a w d e K f=>?_,?_⟩
  ·obtain⟨c,-⟩:=e
   have c:a.tmps.getD 0 undef=Pv b 0:=c;go_simp;exact f _ _ Zr d Z
  refine⟨fun a w d e K f=>?_,?_⟩
  ·obtain⟨c,-⟩:=e
   have c:a.tmps.getD 9 undef=Pv b 0:=c;go_simp;exact f _ _ Zr d Z
  refine⟨fun a w d e K f=>?_,?_⟩
  ·obtain⟨c,-⟩:=e
   have c:a.tmps.getD 10 undef=Pv b 0:=c;go_simp;exact f _ _ Zr d Z
  refine⟨fun a w d e K f=>?_,?_⟩
  ·obtain⟨c,-⟩:=e
   have c:a.tmps.getD 11 undef=Pv b 3:=c;have k:=Qk p d;go_simp;exact f _ _ Zr d Z
  refine⟨fun a w d e K f=>?_,?_⟩
  ·obtain⟨c,i,-⟩:=e
   have c:a.tmps.getD 8 undef=Iv (fu:Int):=c;have i:a.tmps.getD 12 undef=Iv (most:Int):=i;go_simp;refine f _ _ Zr d ?_;show Value.bool _=Value.bool _;congr 1
   first | rfl | (rw[decide_eq_decide];omega)
  trivial
def QnL (w6:World) (b c g1 o1 nm cm fi g2 o2 nb cb bi:Nat) (bl:MBlock 6) (p:BP) (t:Tmp) (v:Value) (w:World):Prop :=
 match ([(3,fun v w=>∃ Z,v=.pointer (some ⟨Z,0,none⟩)/\w6.heap.size<=Z/\Blk w Z zeroB 86)]:List (Tmp × (Value->World->Prop))).lookup t with
 | some p=>p v w
 | none=>v=(([(0,.pointer (some ⟨b,0,none⟩)),(2,.pointer (some ⟨c,0,none⟩)),(26,.pointer (some ⟨b,0,none⟩)),(27,.pointer (some ⟨b,0,none⟩)),(28,.pointer (some ⟨b,1,none⟩)),(29,.pointer (some ⟨b,1,none⟩)),(30,.slice (some ⟨g1,o1,none⟩) nm cm),(31,.pointer (some ⟨c,0,none⟩)),(32,.pointer (some ⟨c,0,none⟩)),(33,.pointer (some ⟨c,0,none⟩)),(34,.int .i64 (fi:Int)),(35,.pointer (some ⟨g1,o1+fi*4,none⟩)),(36,.pointer (some ⟨g1,o1+fi*4+3,none⟩)),(37,.slice (some ⟨g2,o2,none⟩) nb cb),(38,.pointer (some ⟨c,0,none⟩)),(39,.pointer (some ⟨c,0,none⟩)),(40,.pointer (some ⟨c,1,none⟩)),(41,.int .i64 (bi:Int)),(42,.pointer (some ⟨g2,o2+bi*12,none⟩)),(43,.agg (Qgt bl p))]:List (Tmp × Value)).lookup t).getD undef
theorem ws3 {b k l r i o s B:Nat}{u:MBlock 6}{p:BP}(I:w6.cell? ⟨b,1,none⟩=some (.slice (some ⟨k,l,none⟩) r cm)) (J:w6.cell? ⟨c,0,none⟩=some (Iv (fi:Int))) (F:w6.cell? ⟨c,1,none⟩=some (Iv (bi:Int))) (O:w6.cell? ⟨k,l+fi*4+3,none⟩=some (.slice (some ⟨i,o,none⟩) s B)) (P:Hid (w6.rangeAt i (o+bi*12) (Qgt u p).toList)) (L:(fi:Int)<r) (H:(bi:Int)<s){Q:Exit->Act->World->Prop}
 (a:Act) (m:Nat) (M:a.tmps.size=m) (A:75<=m) (N:a.tmps.getD 0 undef=Pv b 0) (y:a.tmps.getD 2 undef=Pv c 0)
 (hend:∀ ops vs w',(fun v w=>∃ Z,v=Pv Z 0/\w6.heap.size<=Z/\Blk w Z zeroB 86) (vs 3) w'->vs 43=.agg (Qgt u p)->Below w6.heap.size w6 w'->wpList prog ops Q (Qao 19 ((Tryz.f69.body.bind (Qi 3)).getD .skip)) (QN a vs [26,27,28,29,30,31,32,33,34,35,36,37,38,39,40,41,42,43,3]) w') :
 Code.wp prog ((Tryz.f69.body.bind (Qi 3)).getD .skip) Q a w6:=by
 conv=>arg 2;whnf
 refine Qg 19 (QnL w6 b c k l r cm fi i o s B bi u p) (fun w=>Below w6.heap.size w6 w) (fun w w'=>Below w.heap.size w w') (outs:=[0,2]) (gs:=[]) (bs:=[true,true,true,true,true,true,true,true,true,true,true,true,true,true,true,true,true,true,true]) (by kernel_rfl) (n:=75) M A (by kernel_rfl) (by kernel_rfl) ?hR ?hG (QI Zr 1) ⟨N,y,Y⟩ ?hA ?hend
 case hR =>
  intro t v w w' G h;unfold QnL at h |-;split at h
  ·rename_i p x
   simp only[List.lookup_cons,List.lookup_nil] at x
   split at x
   ·cases x;exact(by obtain⟨Z,C,y,E⟩:=h;exact⟨Z,C,y,Blk.below E G⟩)
   ·cases x
  ·exact h
 case hG=>exact Y
 case hend=>exact fun ops vs w' e f=>hend ops vs w' (f 3 (by kernel_rfl)) (f 43 (by kernel_rfl)) e
 case hA =>
  refine⟨fun a w e f K g=>?_,?_⟩
  ·obtain⟨d,-⟩:=f
   have d:a.tmps.getD 0 undef=Pv b 0:=d;go_simp;exact g _ _ Zr e Yz
  refine⟨fun a w e f K g=>?_,?_⟩
  ·obtain⟨d,-⟩:=f
   have d:a.tmps.getD 26 undef=Pv b 0:=d;go_simp;exact g _ _ Zr e Yz
  refine⟨fun a w e f K g=>?_,?_⟩
  ·obtain⟨d,-⟩:=f
   have d:a.tmps.getD 27 undef=Pv b 0:=d;go_simp;exact g _ _ Zr e Yz
  refine⟨fun a w e f K g=>?_,?_⟩
  ·obtain⟨d,-⟩:=f
   have d:a.tmps.getD 28 undef=Pv b 1:=d;go_simp;exact g _ _ Zr e Yz
  refine⟨fun a w e f K g=>?_,?_⟩
  ·obtain⟨d,-⟩:=f
   have d:a.tmps.getD 29 undef=Pv b 1:=d;have z:=Qk I e;go_simp;exact g _ _ Zr e Yz
  refine⟨fun a w e f K g=>?_,?_⟩
  ·obtain⟨d,-⟩:=f
   have d:a.tmps.getD 2 undef=Pv c 0:=d;go_simp;exact g _ _ Zr e Yz
  refine⟨fun a w e f K g=>?_,?_⟩
  ·obtain⟨d,-⟩:=f
   have d:a.tmps.getD 31 undef=Pv c 0:=d;go_simp;exact g _ _ Zr e Yz
  refine⟨fun a w e f K g=>?_,?_⟩
  ·obtain⟨d,-⟩:=f
   have d:a.tmps.getD 32 undef=Pv c 0:=d;go_simp;exact g _ _ Zr e Yz
  refine⟨fun a w e f K g=>?_,?_⟩
  ·obtain⟨d,-⟩:=f
   have d:a.tmps.getD 33 undef=Pv c 0:=d;have z:=Qk J e;go_simp;exact g _ _ Zr e Yz
  refine⟨fun a w e f K g=>?_,?_⟩
  ·obtain⟨d,q,-⟩:=f
   have d:a.tmps.getD 30 undef=.slice (some ⟨k,l,none⟩) r cm:=d;have q:a.tmps.getD 34 undef=Iv (fi:Int):=q;go_simp;exact g _ _ Zr e Yz
  refine⟨fun a w e f K g=>?_,?_⟩
  ·obtain⟨d,-⟩:=f
   have d:a.tmps.getD 35 undef=Pv k (l+fi*4):=d;go_simp;exact g _ _ Zr e Yz
  refine⟨fun a w e f K g=>?_,?_⟩
  ·obtain⟨d,-⟩:=f
   have d:a.tmps.getD 36 undef=Pv k (l+fi*4+3):=d;have z:=Qk O e;go_simp;exact g _ _ Zr e Yz
  refine⟨fun a w e f K g=>?_,?_⟩
  ·obtain⟨d,-⟩:=f
   have d:a.tmps.getD 2 undef=Pv c 0:=d;go_simp;exact g _ _ Zr e Yz
  refine⟨fun a w e f K g=>?_,?_⟩
  ·obtain⟨d,-⟩:=f
   have d:a.tmps.getD 38 undef=Pv c 0:=d;go_simp;exact g _ _ Zr e Yz
  refine⟨fun a w e f K g=>?_,?_⟩
  ·obtain⟨d,-⟩:=f
   have d:a.tmps.getD 39 undef=Pv c 0:=d;go_simp;exact g _ _ Zr e Yz
  refine⟨fun a w e f K g=>?_,?_⟩
  ·obtain⟨d,-⟩:=f
   have d:a.tmps.getD 40 undef=Pv c 1:=d;have z:=Qk F e;go_simp;exact g _ _ Zr e Yz
  refine⟨fun a w e f K g=>?_,?_⟩
  ·obtain⟨d,q,-⟩:=f
   have d:a.tmps.getD 37 undef=.slice (some ⟨i,o,none⟩) s B:=d;have q:a.tmps.getD 41 undef=Iv (bi:Int):=q;go_simp;exact g _ _ Zr e Yz
  refine⟨fun a w e f K g=>?_,?_⟩
  ·obtain⟨d,-⟩:=f
   have d:a.tmps.getD 42 undef=Pv i (o+bi*12):=d;refine wp_load_mid 86 (.tmp 42) Yz i (o+bi*12) d (Qgt u p).toList _ (fun j v D=>Qk (P.out j v D) e) underlying86 Yz pSizeB ?_;exact g _ _ Zr e Yz
  refine⟨fun a w e f K g=>?_,?_⟩
  ·clear f;go_simp;exact g _ _ (ZO _ _) (e.trans ((ZO _ _).mono e.size)) ⟨_,Yz,e.size,Qe _ _ _⟩
  trivial
def Qob (b c Z gc oc nc cc i:Nat) (x:Qs) (ip:IP) (t:Tmp) (v:Value) (w:World):Prop :=
 v=(([(0,Pv b 0),(2,Pv c 0),(3,Pv Z 0),(57,Pv b 0),(58,Pv c 0),(59,Pv Z 2),(60,.slice (some ⟨gc,oc,none⟩) nc cc),(61,Pv c 0),(62,Pv c 0),(63,Pv c 2),(64,Iv (i:Int)),(65,Pv gc (oc+i*8)),(66,.agg (Zq x ip))]:List (Tmp × Value)).lookup t).getD undef
theorem ws6 {b Z k l o:Nat}{x:Qs}{p:IP}(y:w6.cell? ⟨Z,2,none⟩=some (.slice (some ⟨k,l,none⟩) o cc)) (s:w6.cell? ⟨c,2,none⟩=some (Iv (i:Int))) (E:Hid (w6.rangeAt k (l+i*8) (Zq x p).toList)) (hi:(i:Int)<o){Q:Exit->Act->World->Prop}
 (a:Act) (m:Nat) (C:a.tmps.size=m) (q:75<=m) (D:a.tmps.getD 0 undef=Pv b 0) (u:a.tmps.getD 2 undef=Pv c 0) (B:a.tmps.getD 3 undef=Pv Z 0)
 (hend:∀ ops vs w',vs 57=Pv b 0->vs 58=Pv c 0->vs 66=.agg (Zq x p)->Below w6.heap.size w6 w'->wpList prog ops Q (Qao 10 ((Tryz.f69.body.bind (Qi 6)).getD .skip)) (QN a vs [57,58,59,60,61,62,63,64,65,66]) w') :
 Code.wp prog ((Tryz.f69.body.bind (Qi 6)).getD .skip) Q a w6:=by
 conv=>arg 2;whnf
 refine Qg 10 (Qob b c Z k l o cc i x p) (fun w=>Below w6.heap.size w6 w) (fun w w'=>Below w.heap.size w w') (outs:=[0,2,3]) (gs:=[]) (bs:=[true,true,true,true,true,true,true,true,true,true]) (by kernel_rfl) (n:=75) C q (by kernel_rfl) (by kernel_rfl) ?hR ?hG (QI Zr 1) ⟨D,u,B,Y⟩ ?hA ?hend
 case hR=>exact fun t v w w' _ h=>h
 case hG=>exact Y
 case hend=>exact fun ops vs w' e f=>hend ops vs w' (f 57 (by kernel_rfl)) (f 58 (by kernel_rfl)) (f 66 (by kernel_rfl)) e
 case hA =>
  refine⟨fun a w e f K g=>?_,?_⟩
  ·obtain⟨d,-⟩:=f
   have d:a.tmps.getD 0 undef=Pv b 0:=d;go_simp;exact g _ _ Zr e Yz
  refine⟨fun a w e f K g=>?_,?_⟩
  ·obtain⟨d,-⟩:=f
   have d:a.tmps.getD 2 undef=Pv c 0:=d;go_simp;exact g _ _ Zr e Yz
  refine⟨fun a w e f K g=>?_,?_⟩
  ·obtain⟨d,-⟩:=f
   have d:a.tmps.getD 3 undef=Pv Z 0:=d;go_simp;exact g _ _ Zr e Yz
  refine⟨fun a w e f K g=>?_,?_⟩
  ·obtain⟨d,-⟩:=f
   have d:a.tmps.getD 59 undef=Pv Z 2:=d;have A:=Qk y e;go_simp;exact g _ _ Zr e Yz
  refine⟨fun a w e f K g=>?_,?_⟩
  ·obtain⟨d,-⟩:=f
   have d:a.tmps.getD 2 undef=Pv c 0:=d;go_simp;exact g _ _ Zr e Yz
  refine⟨fun a w e f K g=>?_,?_⟩
  ·obtain⟨d,-⟩:=f
   have d:a.tmps.getD 61 undef=Pv c 0:=d;go_simp;exact g _ _ Zr e Yz
  refine⟨fun a w e f K g=>?_,?_⟩
  ·obtain⟨d,-⟩:=f
   have d:a.tmps.getD 62 undef=Pv c 0:=d;go_simp;exact g _ _ Zr e Yz
  refine⟨fun a w e f K g=>?_,?_⟩
  ·obtain⟨d,-⟩:=f
   have d:a.tmps.getD 63 undef=Pv c 2:=d;have A:=Qk s e;go_simp;exact g _ _ Zr e Yz
  refine⟨fun a w e f K g=>?_,?_⟩
  ·obtain⟨d,r,-⟩:=f
   have d:a.tmps.getD 60 undef=.slice (some ⟨k,l,none⟩) o cc:=d;have r:a.tmps.getD 64 undef=Iv (i:Int):=r;go_simp;exact g _ _ Zr e Yz
  refine⟨fun a w e f K g=>?_,?_⟩
  ·obtain⟨d,-⟩:=f
   have d:a.tmps.getD 65 undef=Pv k (l+i*8):=d;refine wp_load_mid 78 (.tmp 65) Yz k (l+i*8) d (Zq x p).toList _ (fun j v z=>Qk (E.out j v z) e) underlying78 Yz pSizeN ?_;exact g _ _ Zr e Yz
  trivial
section
variable {w w' w2:World}{b most n:Nat}{m:List (MFunc 6)}{R R' r:RM}{g g1:WG}
theorem WAt.fuelC (S:WAt w b most m R g):WTo g w (w.setCell ⟨b,8,none⟩ (Iv ((R.fuel:Int)+1))) b most m { R with fuel:=R.fuel+1 }:=by
 refine S.reBox (R':={ R with fuel:=R.fuel+1 }) Z Z Z (by simp) (fun k c a=>Xd _ _ _ _ a) ⟨Z,Z,Z,Z⟩ (pi:=g.pi) (ci:=g.ci) (vb:=g.vb) ⟨S.inp,S.inpC⟩ S.back ?_;rw[Qh S.box 8 _]
 simp
theorem Qh4 (S:WAt w b most m R g) (I:ROk m n R) (i:n<=900000){x:Qs}(a:IP) (h:x.op=6\/x.op=7\/x.op=9\/x.op=10\/x.op=11) (p:RM.ins aOp R x=some r) :
 Calls prog 114 #[Pv b 0,Pv g.t.c 0,.agg (Zq x a)] w fun e w'=>Qdj g w b most m r e w':=by
 have l:=Qc (ZO w (.cells (Zq x a) 78));have k:=Qc (Qe w (Zq x a) 78);have d:=Qc (S.below l.out);have o:=Qc (S.stepB l.out);have f:R.part x=some r:=by rw[<-p,Qaw h]
 have C:Hid (Calls prog 177 #[Pv b 0,Pv g.t.c 0,.agg (Zq x a)] (w.alloc (.cells (Zq x a) 78)) fun e w'=>Qdj g (w.alloc (.cells (Zq x a) 78)) b most m r e w'):=by
  rcases h with h | h | h | h | h
  ·exact Qms d.out I i a h f
  ·exact Qmm d.out I i a h f
  ·exact QmY d.out I i a h f
  ·exact QlD d.out I i a h f
  ·exact QlG d.out I i a h f
 have L:(x.op==1)=false:=by simp;omega
 have K:(x.op==2)=false:=by simp;omega
 have P:(x.op==3)=false:=by simp;omega
 have Q:(x.op==4)=false:=by simp;omega
 have J:(x.op==5)=false:=by simp;omega
 have N:(x.op==8)=false:=by simp;omega
 have E:(x.op==12)=false:=by simp;omega
 have y:(x.op==13)=false:=by simp;omega
 have B:(x.op==14)=false:=by simp;omega
 clear S I f p h;go_enter func114,ntmps114
 go_upto_region 1 with fail
 generalize w.alloc (.cells (Zq x a) 78)=T at l k d o C |-;generalize w.heap.size=X at k |-;obtain⟨z,s,F,G,u,A,q,D⟩:=Q6 k.out
 go_wp2_with fail
 refine C.out.mono ?_;rintro M H j;have Z:=Qc (Qdj.then o.out Yz Yz j);rcases j.cases with rfl | ⟨O,rfl⟩
 ·clear j C z s F G u A q D;go_wp2
  exact Xz (v:=.tuple #[]) (by simp[results,results114,go_sem]) Yz Z.out
 ·exact⟨Yz,Z.out⟩
theorem Qml (S:WAt w b most m R g) (I:ROk m n R) (N:n<=900000){x:Qs}(a:IP){B:Nat->Prop}(hi:IIn w B x a) (u:x.args.length<=8) (h:x.op=14)(p:x.k=(f:Int))(y:R.rest.length+1<40->QaA R.top.v x.args=some xs) :
 Calls prog 114 #[Pv b 0,Pv g.t.c 0,.agg (Zq x a)] w fun e w'=>Qm2 g w b most m R f xs e w':=by
 have j:=Qc (ZO w (.cells (Zq x a) 78));have l:=Qc (Qe w (Zq x a) 78);have q:=Qc (S.below j.out);have o:=Qc (S.stepB j.out);have C:=Qc (Qib q.out I N a (hi.below j.out) u p y);have U:(x.op==1)=false:=by simp;omega
 have T:(x.op==2)=false:=by simp;omega
 have d3:(x.op==3)=false:=by simp;omega
 have d4:(x.op==4)=false:=by simp;omega
 have Q:(x.op==5)=false:=by simp;omega
 have W:(x.op==8)=false:=by simp;omega
 have M:(x.op==12)=false:=by simp;omega
 have F:(x.op==13)=false:=by simp;omega
 have J:(x.op==14)=true:=by simp;omega
 clear S I y hi u p h;go_enter func114,ntmps114
 go_upto_region 1 with fail
 generalize w.alloc (.cells (Zq x a) 78)=w1 at j l q o C |-;generalize w.heap.size=X at l |-;obtain⟨G,D,O,P,E,H,z,K⟩:=Q6 l.out
 go_wp2_with fail
 refine C.out.mono ?_;rintro V A (⟨d,rfl,L,i,s,r⟩|⟨d,rfl,i⟩)
 ·have Z:Hid (Qm2 g w b most m R f xs (.returned (.tuple #[])) A):=.inl ⟨d,Yz,L,i,o.out.trans s,r⟩;clear d i s r C G D O P E H z K;go_wp2
  exact Xz (v:=.tuple #[]) (by simp[results,results114,go_sem]) Yz Z.out
 ·exact⟨Yz,.inr ⟨d,Yz,WTo.then o.out Yz Yz i⟩⟩
theorem QkM (S:WAt w b most m R g) (I:ROk m n R) (d:n<=900000){x:Qs}(a:IP){k:Nat->Prop}(hi:IIn w k x a) (j:x.form m.length=0) (o:x.op≠14) (f:RM.ins aOp R x=some r) :
 Calls prog 114 #[Pv b 0,Pv g.t.c 0,.agg (Zq x a)] w fun e w'=>Qdj g w b most m r e w':=by
 obtain⟨p,i,-⟩:=Qdf j
 have l:x.op=1\/x.op=2\/x.op=3\/x.op=4\/x.op=5\/x.op=8\/x.op=12\/x.op=13\/(x.op=6\/x.op=7\/x.op=9\/x.op=10\/x.op=11):=by omega
 rcases l with h | h | h | h | h | h | h | h | h
 ·exact Qm9 S I d a h f
 ·exact Qnt S I d a h f
 ·exact Qnd S I d a h f
 ·exact Qno S I d a h f
 ·exact Qnj S I d a h hi (i h) f
 ·exact Qnn S I d a h f
 ·exact Qmt S I d a h f
 ·exact QmK S I d a h f
 ·exact Qh4 S I d a h f
end
section
variable {w w' w2:World}{b most n:Nat}{m:List (MFunc 6)}{R R' r:RM}{g g1:WG}
def QnH (g:WG) (w:World) (b most:Nat) (m:List (MFunc 6)) (r:RM) (e:Ending) (w':World):Prop :=
 (e=.returned (.tuple #[])/\WGo g w w' b most m r)\/(∃ N k,r=N.over k/\e=.panicked (QdT k)/\WTo g w w' b most m N)
theorem QjI.stp {e:Ending}(T:WSt g g1 w w2) (a:g1.t.c=g.t.c) (d:g1.fs=g.fs) (H:QjI g1 w2 b most m r e w'):QnH g w b most m r e w':=H.then T a d
theorem Qis (S:WAt w b most m R g) (I:ROk m n R) (hn:n<=800000) (hm:(modFault m).1=0) (bf:R.fuel<=most) (bj:most<=100000) (hr:RM.step m aOp most R=some r) :
 Calls prog 69 #[Pv b 0] w fun e w'=>QnH g w b most m r e w':=by
 obtain⟨-,fn,o,hf,hb,hi⟩:=I.fr R.top (by simp)
 have hR:=(Zo hm).2 fn (Zm hf);have hB:=hR.blocks o (Zm hb);have ak:=(Zo hm).1.2
 have E:Hid (some r=if R.fuel=most then some (R.over 7) else match o.code[R.top.i]? with | some x=>RM.ins aOp { R with fuel:=R.fuel+1 } x | none=>RM.endd { R with fuel:=R.fuel+1 } o.fin):=by
  show _=_;rw[<-hr]
  unfold RM.step;rw[hf]
  simp only
  rw[hb]
  rfl
 have I1:ROk m n { R with fuel:=R.fuel+1 }:=⟨I.est,I.fr,I.inp,I.out,I.deep⟩;have q8:w.cell? ⟨b,8,none⟩=some (Iv R.fuel):=Qb S.box 8 _ Yz;have q3:w.cell? ⟨b,3,none⟩=some (Iv most):=Qb S.box 3 _ Yz;have HS:=Qc S;have HK:=Qc I1;have z:=Qc (Xh hf hb);have V:=Qc (Xh hR hB);have HM:=Qc hm;have HI:=Qc hi;have HN:=Qc (Xh hn ak);clear S I I1 hf hb hR hB hm hi hn ak hr;go_enter func69,ntmps69
 go_upto_region 0 with fail
 refine ws0 q8 q3 _ _ Yz (Xg (by kernel_rfl)) Yz ?_;rintro A vs w5 J b5;show wpList _ A _ [_] (QN _ vs [4,5,6,7,8,9,10,11,12,13]) w5;simp only[QN,Act.put,List.setIfInBounds_toArray,List.set_cons_zero,List.set_cons_succ,J]
 have B5:=Qc b5;clear J b5 q8 q3;by_cases G:R.fuel=most
 ·have d1:decide ((R.fuel:Int)<most)=false:=Xu (by omega);have E2:Hid (r=R.over 7):=by show _=_;have:=E.out;rw[Xs G] at this;cases this;rfl
  rw[d1]
  clear E d1 G;go_wp2_with fail
  refine(Z4 _ _).mono ?_
  rintro e' w' ⟨rfl,hw⟩;subst hw;exact⟨Yz,.inr ⟨R,7,E2.out,Yz,WTo.same HS.out B5.out⟩⟩
 have d1:decide ((R.fuel:Int)<most)=true:=Xt (by omega);have E2:Hid (some r=match o.code[R.top.i]? with | some x=>RM.ins aOp { R with fuel:=R.fuel+1 } x | none=>RM.endd { R with fuel:=R.fuel+1 } o.fin):=by show _=_;have:=E.out;rw[Xr G] at this;exact this
 rw[d1]
 clear E d1 G;have S5:=Qc (HS.out.below B5.out);have q8:w5.cell? ⟨b,8,none⟩=some (Iv R.fuel):=Qb S5.out.box 8 _ Yz;have z8:=Qj S5.out.box 8;obtain⟨M,O,T6,c6,f6⟩:=S5.out.fuelC
 have O:=Qc O;have T6:=Qc ((HS.out.stepB B5.out).trans T6);have u:=Qc (Xh c6 f6);have bg:R.fuel<=100000:=by omega
 clear S5 c6 f6 B5;generalize aq:({ R with fuel:=R.fuel+1 }:RM)=q at O E2 HK;have d:Hid (q.top=R.top/\q.rest=R.rest):=by subst aq;exact⟨Yz,Yz⟩
 clear aq;generalize R.fuel=fu at *;go_upto_region 2 with (go_at_call 111;refine(QaF _ _).mono ?_;rintro e' w' ⟨rfl,hw⟩;have hw:=hw.symm;subst hw)
 generalize w5.setCell ⟨b,8,none⟩ (Iv ((fu:Int)+1))=w6 at O T6 |-;clear q8 z8;have bk:q.rest.length<=39:=HK.out.deep;have CT:=Qc (Qgx O.out (by omega));go_upto_region 3 with (go_at_call 112;refine CT.out.mono ?_;rintro e' w7 ⟨rfl,b7⟩)
 have U:=Qc (O.out.below b7);have T7:=Qc (T6.out.trans (O.out.stepB b7));clear b7 CT O T6;obtain⟨bc,o1,fA,e1,E1,ap⟩:=Qf7 U.out.mod (by exact z.out.1)
 obtain⟨a8,o2,p,e2,a3,az⟩:=Qep ap.blocks (by exact z.out.2)
 have r3:w7.cell? ⟨bc,o1+R.top.f*4+3,none⟩=some (.slice fA.pB fn.blocks.length fA.cB):=E1 3 _ Yz;rw[e2] at r3
 have q1:w7.cell? ⟨b,1,none⟩=some (.slice M.pm m.length M.cm):=Qb U.out.box 1 _ Yz;rw[e1] at q1
 have f0:w7.cell? ⟨M.t.c,0,none⟩=some (Iv R.top.f):=by have:=Qb U.out.top.1 0 _ Yz;rw[d.out.1] at this;exact this
 have f1:w7.cell? ⟨M.t.c,1,none⟩=some (Iv R.top.b):=by have:=Qb U.out.top.1 1 _ Yz;rw[d.out.1] at this;exact this
 have a2:(R.top.f:Int)<m.length:=by have:=(Zi z.out.1).1;omega
 have an:(R.top.b:Int)<fn.blocks.length:=by have:=(Zi z.out.2).1;omega
 have al:=Qc az;have ar:Hid (w7.rangeAt a8 (o2+R.top.b*12) (Qgt o p).toList):=a3;clear E1 ap a3 az e1 e2;refine ws3 q1 f0 f1 r3 ar a2 an _ _ Yz (Xg (by kernel_rfl)) Yz Yz ?_;rintro A vs w8 ⟨Z,ae,hZ,aa⟩ K b8;show wpList _ A _ [_] (QN _ vs [26,27,28,29,30,31,32,33,34,35,36,37,38,39,40,41,42,43,3]) w8;simp only[QN,Act.put,List.setIfInBounds_toArray,List.set_cons_zero,List.set_cons_succ,ae,K]
 have BZ:=Qc (Qmp aa o p);have B9:=Qc (QeN hZ (Qgt o p).toList 0 b8);have TH:=Qc (QkQ aa Yz o p);have SZ:=Qc (show (prog.info? 86).map (·.size)=some (Qgt o p).size from pSizeB);have ON:=Qc (Qmv o p);obtain⟨cs,X⟩:∃ cs,Qgt o p=cs:=⟨_,Yz⟩
 rw[X] at BZ B9 TH SZ ON |-
 have EC:=Qc X;clear X ae K b8 aa q1 f0 f1 r3 ar a2 an;go_upto_region 4 with (refine wpList_store_mid Yz 86 (.tmp 3) (.tmp 43) Yz Z 0 cs Yz Yz TH.out SZ.out ON.out ?_)
 generalize w8.setCells Z 0 cs.toList=D at BZ B9 |-;obtain rfl:=EC.out;have S9:=Qc (U.out.below B9.out);have T9:=Qc (T7.out.trans (U.out.stepB B9.out));have y:=Qc (al.out.below B9.out);clear TH SZ ON EC B9 al U T7 hZ;have f2:D.cell? ⟨M.t.c,2,none⟩=some (Iv R.top.i):=by have:=Qb S9.out.top.1 2 _ Yz;rw[d.out.1] at this;exact this
 have z2:D.cell? ⟨Z,2,none⟩=some (.slice p.pC o.code.length p.cC):=Qb BZ.out 2 _ Yz;have Ka:Hid (ROk m n q):=HK.out;have ai:=HI.out;by_cases W:R.top.i=o.code.length
 ·have hc:((R.top.i:Int)==(o.code.length:Int))=true:=by simp[W]
  have P:q.endd o.fin=some r:=by have:=E2.out;rw[Xk (by omega)] at this;exact this.symm
  go_quiet (fail)
  have a:=Qai (Below.refl D.heap.size D) nq;have Sa:=S9.out.below a;have Ta:=Qc (T9.out.trans (S9.out.stepB a));have a1:=Blk.below BZ.out a;have CE:=Qc (Qj7 Sa Ka.out (by have:=HN.out.1;omega) (y.out.below a).fin V.out.2.fin P)
  have RE:Hid ((D.drewN nq).rangeAt Z 3 (QbV o.fin p.e).toList):=fun j v hj=>by
   have:(Qgt o p)[3+j]?=some v:=by
    rw[<-Array.getElem?_toList,Nat.add_comm]
    exact hj
   exact Qb a1 (3+j) v this
  clear W hc E2 ai a Sa a1 f2 z2 S9 T9 BZ y P;generalize D.drewN nq=wa at *;go_wp2_with (refine wpList_load_mid Yz 84 (.tmp 54) Yz Z 3 Yz (QbV o.fin p.e).toList _ RE.out underlying84 Yz vsizeE ?_)
  refine CE.out.mono ?_;rintro e' wb H;have F:=Qc (QjI.stp Ta.out u.out.1 u.out.2 H);rcases H with ⟨rfl,-⟩|⟨N,k,-,rfl,-⟩
  ·clear CE RE;go_wp2
   exact Xz (v:=.tuple #[]) (by simp[results,results69,go_sem]) Yz F.out
  ·exact⟨Yz,F.out⟩
 have hc:((R.top.i:Int)==(o.code.length:Int))=false:=by simp;omega
 have aj:R.top.i<o.code.length:=by omega
 obtain⟨x,hx⟩:∃ x,o.code[R.top.i]?=some x:=⟨_,Zg aj⟩
 have P:Hid (RM.ins aOp q x=some r):=by show _=_;have:=E2.out;rw[hx] at this;exact this.symm
 have ad:=V.out.2.code x (Zm hx);have bh:=V.out.2.codes;go_quiet (fail)
 have a:=Qai (Below.refl D.heap.size D) nq;have Sa:=Qc (S9.out.below a);have Ta:=Qc (T9.out.trans (S9.out.stepB a));have ao:=y.out.below a;replace z2:=Qk z2 a;replace f2:=Qk f2 a;clear S9 T9 BZ y a;generalize D.drewN nq=wa at *;obtain⟨gc,oc,ip,ec,av,aw⟩:=QhI ao.code hx
 rw[ec] at z2
 have ah:Hid (wa.rangeAt gc (oc+R.top.i*8) (Zq x ip).toList):=av;have am:=Qc aw;have HX:=Qc ad;have ay:=Qc aj;clear hc W E2 hx av aw ad ai ec ao;go_upto_region 6 with fail
 refine ws6 z2 f2 ah (by omega) _ _ Yz (Xg (by kernel_rfl)) Yz Yz Yz ?_;rintro A a6 wb Q T L bb;show wpList _ A _ [_] (QN _ a6 [57,58,59,60,61,62,63,64,65,66]) wb;simp only[QN,Act.put,List.setIfInBounds_toArray,List.set_cons_zero,List.set_cons_succ,Q,T,L]
 have Sb:=Qc (Sa.out.below bb);have Tb:=Qc (Ta.out.trans (Sa.out.stepB bb));have af:=Qc (am.out.below bb);clear Q T L bb z2 f2 ah Sa Ta am;by_cases s:x.op=14
 ·obtain⟨-,-,ac⟩:=Qdf HX.out
  obtain⟨au,a5,a7,ag⟩:=ac s
  obtain⟨k,hk⟩:=Xc au
  obtain⟨xs,ab⟩:∃ xs:List Int,(q.rest.length+1<40->QaA q.top.v x.args=some xs)/\r=if q.rest.length+1<40 then { q with top:=⟨k,0,0,xs⟩,rest:={ q.top with i:=q.top.i+1 }::q.rest } else q.over 5:=by
   have H:=P.out;unfold RM.ins at H;by_cases h:q.rest.length+1<40
   ·cases hv:QaA q.top.v x.args with
    | none=>simp[s,h,hv] at H
    | some l =>
      simp[s,h,hv] at H
      refine⟨l,fun _=>rfl,?_⟩
      rw[Xs h,<-H,hk]
      rfl
   ·simp[s,h] at H
    exact⟨[],fun h'=>absurd h' h,by rw[Xr h];exact H.symm⟩
  have CI:=Qc (Qml Sb.out Ka.out (by have:=HN.out.1;omega) ip af.out ag s hk ab.1);have E4:=Qc ab.2;have ax:q.top.i<=100:=by rw[d.out.1];have:=ay.out;omega
  clear hk au a5 a7 ag ac s P ab;go_wp2_with fail
  refine CI.out.mono ?_;rintro e' wc (⟨C,rfl,g',B,h3,h4⟩|⟨C,rfl,B⟩)
  ·have F2:=B.frs;rw[h4] at F2
   have fc:=F2.2.1.1;have y2:wc.cell? ⟨M.t.c,2,none⟩=some (Iv q.top.i):=Qb fc.1 2 _ Yz;have a0:=Qj fc.1 2;obtain⟨g8,S8,T8⟩:=B.next2 h4 Yz
   have Z8:Hid (WGo g w (wc.setCell ⟨M.t.c,2,none⟩ (Iv ((q.top.i:Int)+1))) b most m r):=by
    refine⟨g8,?_,(Tb.out.trans h3).trans T8⟩
    rw[E4.out,Xs C]
    exact S8
   clear CI C B h3 h4 F2 fc S8 T8 E4;generalize q.top.i=ii at *;go_wp2
   exact Xz (v:=.tuple #[]) (by simp[results,results69,go_sem]) Yz (.inl ⟨Yz,Z8.out⟩)
  ·exact⟨Yz,.inr ⟨q,5,by rw[E4.out,Xr C],Yz,WTo.then Tb.out u.out.1 u.out.2 B⟩⟩
 ·have CI:=Qc (QkM Sb.out Ka.out (by have:=HN.out.1;omega) ip af.out HX.out s P.out);have KI:=Qc (Qih Ka.out ⟨fn,o,by rw[d.out.1];exact z.out.1,by rw[d.out.1];exact z.out.2,by rw[d.out.1];exact ay.out⟩ HM.out HX.out r P.out);clear s P;go_wp2_with fail
  refine CI.out.mono ?_;rintro e' wc (⟨N,C,rfl,g',B,h3,h4,h5⟩|⟨N,kk,C,rfl,h3⟩)
  ·have ax:N.top.i<=100:=by
    obtain⟨-,a4,a9,ba,bd,bi⟩:=KI.out.fr r.top (by simp)
    have be:=(((Zo HM.out).2 a4 (Zm ba)).blocks a9 (Zm bd)).codes
    have:r.top.i=N.top.i+1:=by rw[C];rfl
    omega
   have y2:wc.cell? ⟨g'.t.c,2,none⟩=some (Iv N.top.i):=Qb B.top.1 2 _ Yz;have a0:=Qj B.top.1 2;have NX:=WTo.then (Tb.out.trans h3) (h4.trans u.out.1) (h5.trans u.out.2) B.next
   rw[h4] at y2 a0 NX
   have Z8:Hid (WTo g w (wc.setCell ⟨M.t.c,2,none⟩ (Iv ((N.top.i:Int)+1))) b most m r):=by rw[C];exact NX
   clear CI C B h3 h4 h5 KI NX;generalize N.top.i=ii at *;go_wp2
   exact Xz (v:=.tuple #[]) (by simp[results,results69,go_sem]) Yz (.inl ⟨Yz,Z8.out.go⟩)
  ·exact⟨Yz,.inr ⟨N,kk,C,Yz,WTo.then Tb.out u.out.1 u.out.2 h3⟩⟩
end
section
variable {w w' w2:World}{b most n:Nat}{m:List (MFunc 6)}{R R' r:RM}{g g1:WG}
theorem WAt.endC (S:WAt w b most m R g) (k:Int):WTo g w ((w.setCell ⟨b,9,none⟩ (.bool true)).setCell ⟨b,5,none⟩ (Iv k)) b most m (R.over k):=by
 have d:∀ x,x≠b->((w.setCell ⟨b,9,none⟩ (.bool true)).setCell ⟨b,5,none⟩ (Iv k)).heap[x]?=w.heap[x]?:=fun x a=>by rw[Xd _ _ _ _ a,Xd _ _ _ _ a]
 refine S.reBox (R':=R.over k) Z Z Z (by simp) (fun x a c=>d x c) ⟨Z,Z,Z,Z⟩ (pi:=g.pi) (ci:=g.ci) (vb:=g.vb) ⟨S.inp,S.inpC⟩ S.back ?_;rw[Qh (Qh S.box 9 _) 5 _]
 simp[RM.over]
theorem QfS {w:World}(X:Nat) :
 CallsD prog 110 #[Qfq X] .returning w fun e u' w'=>e=.returned (.tuple #[])/\u'=.returning/\w'=w:=by
 refine callsD_of_wpS func110 Z fun a c b=>?_;apply wpS_seq
 apply wpS_region
 simp[wpOpsS,go_sem,recoverD,b,ntmps110,Exit.thenS]
 rw[show (#[Qfq X]++((Array.replicate 22 undef).setIfInBounds 3 (Value.nilIface)).setIfInBounds 0 (Value.nilIface):Array Value)=#[Qfq X,Value.nilIface,undef,undef,Value.nilIface,undef,undef,undef,undef,undef,undef,undef,undef,undef,undef,undef,undef,undef,undef,undef,undef,undef,undef] from by kernel_rfl]
 refine wpS_of_wp ?_;go_wp2_with fail
 cases a
 simp_all [bodyPostS,results,results110]
theorem Qg8 {w:World}(k:Int) (a:Blk w X #[Pv b 0] 62) (S:WAt w b most m R g) :
 CallsD prog 110 #[Qfq X] (.panicking (QdT k)) w fun e u' w' =>
  e=.returned (.tuple #[])/\u'=.panicking [{ v:=.iface 187 (Iv k),recovered:=true }]/\WTo g w w' b most m (R.over k):=by
 have p:=Qb a 0 _ Yz;have l:w.cell? ⟨b,9,none⟩=some (.bool R.done):=Qb S.box 9 _ Yz;have n:w.cell? ⟨b,5,none⟩=some (Iv R.fin):=Qb S.box 5 _ Yz;have o:=Qj S.box 9;have i:=Qj S.box 5;have Z:=Qc (S.endC k);have f:¬ X=b:=fun e=>Q8 a S.box (by decide) e;clear S a;refine callsD_of_wpS func110 Yz fun h j d=>?_;apply wpS_seq
 apply wpS_region
 simp[wpOpsS,go_sem,recoverD,d,ntmps110,Exit.thenS]
 rw[show (#[Qfq X]++((Array.replicate 22 undef).setIfInBounds 3 (Value.iface 187 (Iv k))).setIfInBounds 0 (Value.iface 187 (Iv k)):Array Value)=#[Qfq X,Value.iface 187 (Iv k),undef,undef,Value.iface 187 (Iv k),undef,undef,undef,undef,undef,undef,undef,undef,undef,undef,undef,undef,undef,undef,undef,undef,undef,undef] from by kernel_rfl]
 refine wpS_of_wp ?_;have c:∀ w:World,(Instr.typeAssert (.iface 187 (Iv k)) 20 187 true).run prog w=.ok (.tuple #[Iv k,.bool true]) w:=fun _=>by kernel_rfl
 go_wp2
 exact(show bodyPostS _ _ _ _ _ _ _ _ _ from ⟨Yz,_,Yz,.tuple #[],by simp[results,results110,go_sem],Yz,Yz,Z.out⟩)
theorem wenters_step:Qak 69:=fun _ _=>by kernel_rfl
theorem Qe4 (S:WAt w b most m R g) (I:ROk m n R) (x:n<=800000) (q:(modFault m).1=0) (a:R.fuel<=most) (c:most<=100000) (u:RM.step m aOp most R=some r) :
 Calls prog 68 #[Pv b 0,.func (.func 69) #[Pv b 0] #[]] w fun e w'=>e=.returned (.tuple #[])/\WGo g w w' b most m r:=by
 have z:∀ (fn:Fn) (first cap:Array Value) (w:World),(Instr.makeFunc fn first cap).run prog w=.ok (.func fn first cap) w:=fun _ _ _ _=>rfl;have o:=wenters_step;unfold Qak at o;have v:=Qc (ZO w (.cells #[Pv b 0] 62));have F:=Qc (Qe w #[Pv b 0] 62);have B:=Qc (S.below v.out);have s:=Qc (S.stepB v.out);have y:=Qc (Qis B.out I x q a c u);have j:=Qc S.lt;clear S I x q a c u;go_enter_defers func68,ntmps68
 go_wp2_with fail
 refine y.out.mono ?_;rintro O G J;have h:¬ g.A w.heap.size:=fun e=>by have:=j.out _ e;omega
 have d:w.heap.size<(w.alloc (.cells #[Pv b 0] 62)).heap.size:=by simp
 rcases J with ⟨rfl,p⟩|⟨N,k,i,rfl,⟨M,D,t,Q,L⟩⟩
 ·have Z:=Qc (WGo.then s.out p);clear p y o;go_wp2
  refine leaves_cons (f:=110) (args:=#[Qfq w.heap.size]) (by simp) (by simp[go_sem]) ?_;refine(QfS w.heap.size).mono ?_
  rintro H E P ⟨rfl,rfl,rfl⟩;exact⟨.tuple #[],by simp[results,results68,go_sem],Yz,Z.out⟩
 ·have l:Blk G w.heap.size #[Pv b 0] 62:=(t.block _ d h).trans F.out;show bodyPostD _ _ _ _ _ _;refine leaves_cons (f:=110) (args:=#[Qfq w.heap.size]) (by simp) (by simp[go_sem]) ?_;refine(Qg8 k l D).mono ?_
  rintro H E K ⟨rfl,rfl,C⟩;subst i;exact⟨.tuple #[],by simp[results,results68,go_sem],Yz,WGo.then (s.out.trans t) C.go⟩
theorem Qjw (S:WAt w b most m R g) (I:ROk m n R) (f:n<=800000) (i:(modFault m).1=0) (d:R.fuel<=most) (c:most<=100000) (a:R.done=false) (k:RM.step m aOp most R=some r) :
 Calls prog 34 #[Pv b 0] w fun e w'=>e=.returned (.tuple #[])/\WGo g w w' b most m r:=by
 have o:∀ (fn:Fn) (first cap:Array Value) (w:World),(Instr.makeFunc fn first cap).run prog w=.ok (.func fn first cap) w:=fun _ _ _ _=>rfl;have j:=Qc (Qe4 S I f i d c k);have l:w.cell? ⟨b,9,none⟩=some (.bool R.done):=Qb S.box 9 _ Yz;rw[a] at l
 clear S I f i d c k a;go_enter func34,ntmps34
 go_wp2_with (go_at_call 68;refine j.out.mono ?_;rintro q p ⟨rfl,h⟩;have Z:=Qc h;clear h j)
 exact Xz (v:=.tuple #[]) (by simp[results,results34,go_sem]) Yz ⟨Yz,Z.out⟩
theorem QgQ (S:WAt w b most m R g) (a:R.done=true) :
 Calls prog 34 #[Pv b 0] w fun e w'=>e=.returned (.tuple #[])/\w'=w:=by
 have c:w.cell? ⟨b,9,none⟩=some (.bool R.done):=Qb S.box 9 _ Z;rw[a] at c
 clear S a;go_enter func34,ntmps34
 go_wp2
 exact Xz (v:=.tuple #[]) (by simp[results,results34,go_sem]) Z ⟨Z,Z⟩
theorem QeR (S:WAt w b most m R g):Calls prog 33 #[Pv b 0] w fun e w'=>e=.returned (.bool R.done)/\w'=w:=by
 have a:w.cell? ⟨b,9,none⟩=some (.bool R.done):=Qb S.box 9 _ Z;clear S;generalize R.done=c at *;go_enter func33,ntmps33
 go_wp2
 go_ret;exact⟨Z,Z⟩
end
section
variable {w w' w2:World}{b most n:Nat}{m:List (MFunc 6)}{M M' N:IM}{sc sa:Int}{g g1:MG}{e:Ending}
abbrev Qbw (c a:Int):Value:=.agg #[Iv c,Iv a]
end
def Qcl (w:World) (l:List Int) (e:Ending) (w':World):Prop:=∃ a cap,e=.returned (.slice a l.length cap)/\l.length<=cap/\w'.ownsRow 0 2 1 (.slice a l.length cap) l.length (l.map (Value.int .i64))/\(∀ x,(Value.slice a l.length cap).ownBlock=some x->w.heap.size<=x)/\Below w.heap.size w w'
theorem QjZ (h:w.ownsRow 0 2 1 (.slice a l.length cap) l.length (l.map (Value.int .i64))) (c:∀ x∈l,Qni x) (o:∀ x,(Value.slice a l.length cap).ownBlock=some x->O x):intsL.In w O l [.slice a l.length cap]:=by
 refine⟨a,cap,Z,fun i x b=>?_⟩
 have s:=(Zi b).1;rcases h.2 with ⟨e,p⟩|⟨g,r,n,e,_,k,q,t,u,m⟩
 ·omega
 ·rw[Value.slice.injEq] at e
  obtain⟨rfl,-,rfl⟩:=e
  refine⟨g,0,[Iv x],Z,o g Z,XC k,fun j d=>?_,Z,c x (Zm b)⟩
  have d:j<1:=d
  have:j=0:=by omega
  subst this;show w.cell? ⟨g,0+i*1+0,none⟩=_;rw[XK,XL,Nat.add_zero]
  have f:(l.map (Value.int .i64))[i]?=some (Iv x):=by rw[XS,b];rfl
  rw[<-m,XR,Xs (by omega),Array.getElem?_toList] at f
  exact Qb k _ _ f
theorem QcF (h:∀ i,i<l.length->∃ g o,p=some ⟨g,o,none⟩/\w.cell? ⟨g,o+i,none⟩=some (Iv (l.getD i 0))) (hn:l.length<=1000000) :
 Calls prog 48 #[.slice p l.length c] w fun e w'=>Qcl w l e w':=by
 obtain⟨U,hi,A,B,D⟩:=iInfo64
 have q:∀ (w:World) (a:Option Addr) (n c z I:Nat),(binOp .eql 25 (.slice a n c) (.slice none z I)).run prog w=.ok (.bool a.isNone) w:=fun w a n c z I=>Lib.run_eql_slice_nil w _ _ a n c z I iUnder64
 cases p with
 | none =>
   have v:l=[]:=by
    cases l with
    | nil=>rfl
    | cons y K =>
      obtain⟨g,o,e,-⟩:=h 0 (by simp)
      cases e
   subst v;clear h;go_enter func48,ntmps48
   go_wp2
   go_ret;exact⟨none,0,Z,Ze,⟨Z,.inl ⟨Z,Z⟩⟩,fun x H=>by simp[Value.ownBlock] at H,Zr⟩
 | some ad =>
   have Q:Hid (∀ (j:Nat) (u:Value),(l.map (Value.int .i64))[j]?=some u->(w.alloc (.cells #[] 2)).cell? (ad.add j)=some u):=by
    intro j u t;rw[XS] at t
    obtain⟨y,M,rfl⟩:=Option.map_eq_some_iff.1 t
    have V:=(Zi M).1;obtain⟨g,o,e,hc⟩:=h j V
    cases e
    rw[Addr.add_lit]
    refine Lib.cell?_alloc_some _ ?_;rw[hc]
    simp[List.getD,M]
   have O:Hid (∀ u∈l.map (Value.int .i64),u.oneCell'=true):=by intro u t;obtain⟨x,_,rfl⟩:=List.mem_map.1 t;rfl
   have P:Hid ((l.map (Value.int .i64)).length=l.length*1):=by show _=_;simp
   have d:=Qc (ZO w (.cells #[] 2));have S:Hid ((w.alloc (.cells #[] 2)).heap.size=w.heap.size+1):=by show _=_;simp
   clear h;generalize s:l.map (Value.int .i64)=K at *;have C:=Qc s;generalize r:l.length=W at *;have G:=Qc r;clear s r;go_enter func48,ntmps48
   go_wp2_with (at_builtin;refine ZP _ Z _ _ 25 Z 2 U (Iv 0) 1 8 iUnder64 hi A B D Z (by decide) _ _ _ Z (World.ownsRow_made w #[] 0 (Xb _) (Xb _) Z) ad W c K Z P.out Q.out O.out (by unfold maxLen;omega) (by omega) ?_)
   intro J L E f T
   have R:Hid (Qcl w l (.returned J) L):=by
    have b:L.ownsRow 0 2 1 J l.length (l.map (Value.int .i64)):=by rw[C.out,G.out];simpa using E
    obtain⟨N,F,rfl⟩:=QaS b
    have m:l.length<=F:=by
     rcases b.2 with ⟨e,e0⟩|⟨g,cp,ab,e,_,hh,aa,_⟩
     ·rw[Value.slice.injEq] at e;omega
     ·rw[Value.slice.injEq] at e;omega
    refine⟨N,F,Z,m,b,fun x H=>?_,?_⟩
    ·rcases T x H with e | e
     ·simp[Value.ownBlock] at e;omega
     ·have:=S.out;omega
    ·refine⟨f.os.trans d.out.os,f.tape.trans d.out.tape,f.output.trans d.out.output,Zt d.out.size f.size,fun k X=>(f.block k (by have:=S.out;omega) (fun e=>by simp[Value.ownBlock] at e;omega)).trans (d.out.block k X)⟩
   obtain⟨N,F,rfl⟩:=QaS E
   clear E f T Q O P d;go_wp2
   go_ret;exact R.out
theorem Qho (h:intsL.In w Q l [.slice p l.length c]) (d:l.length<=1000000) :
 Calls prog 48 #[.slice p l.length c] w fun e w'=>Qcl w l e w' :=
 QcF (fun i b=>by obtain⟨g,o,e,-,-,a⟩:=ZH h b;exact⟨g,o,e,a⟩) d
def Qi2 (lo:Nat) (l:List Int) (v:Value) (w:World):Prop:=∃ a cap,v=.slice a l.length cap/\l.length<=cap/\w.ownsRow 0 2 1 (.slice a l.length cap) l.length (l.map (Value.int .i64))/\∀ x,(Value.slice a l.length cap).ownBlock=some x->lo<=x
theorem Qi2.below {lo:Nat}{w w':World}(h:Qi2 lo l v w) (b:Below w.heap.size w w'):Qi2 lo l v w':=by
 obtain⟨a,c,f,g,d,i⟩:=h
 exact⟨a,c,f,g,Q0 d (fun x e=>b.block x (XC (ZR d e).choose_spec)),i⟩
section
variable {w w' w2:World}{b most n:Nat}{m:List (MFunc 6)}{M M' N:IM}{sc sa:Int}{g g1:MG}{e:Ending}
theorem QhK {w:World}{a0 f g e:Value}(h:w.heap[R]?=some (.cells #[a0,f,g,e] 44 (0,0))) (b c a d:Value) :
 ((((w.setCell ⟨R,0,none⟩ b).setCell ⟨R,1,none⟩ c).setCell ⟨R,2,none⟩ a).setCell ⟨R,3,none⟩ d).heap[R]?=some (.cells #[b,c,a,d] 44 (0,0)):=by
 have:=Qh (Qh (Qh (Qh h 0 b) 1 c) 2 a) 3 d
 simpa using this
end
end Go.Proofs.YtjhdpajpibdnaafGreat
