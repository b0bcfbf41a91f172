import Derived.Test.YtjhdpajpibdnaafGreatP2
import Derived.Defers
import Derived.Recover
set_option maxHeartbeats 16000000
set_option maxRecDepth 100000
namespace Go.Proofs.YtjhdpajpibdnaafGreat
open Go.ChangeShapes Go.WideShapes Go.ChangeAt Go.RowKit _root_.Go.Proofs.Tryz
set_option linter.unusedSimpArgs false
set_option linter.unusedVariables false
variable {w w' w6 w1 w2:World}{n b c k m rc ac X j B i cm g N d f fi cap bp q R pages id bi cc funcs s ci rl al ca ri vl most cR cA G:Nat}{O Q O':Nat→Prop}{l xs regs inp:List Int}{p a rg ag pm pi pa pR pA ra aa:Option Addr}{t e:TypeId}{v:Value}{P:Program}{L bs:List Bool}{x ya xc xk fr xa xb xn yb:Int}{ds cs:List Value}{ops:Array Oper}
structure ROk (m:List (MFunc 6)) (n:Nat) (R:RM):Prop where
 est:R.e.Ok
 fr:∀ d∈R.top::R.rest,d.v.length<=n+8/\∃ fn bl,m[d.f]?=some fn/\fn.blocks[d.b]?=some bl/\d.i<=bl.code.length
 inp:R.inp.length<=1000
 out:R.out.length<=2000/\R.back.length<=8
 deep:R.rest.length<=39
def OkW (m:List (MFunc 6)) (n:Nat) (o:Option RM):Prop:=∀ N,o=some N->ROk m n N
section
variable {m:List (MFunc 6)}{n n':Nat}{R R':RM}{x:Qs}{fn:MFunc 6}{bl:MBlock 6}{op:Int->Int->Int->Option Int}
theorem OkW.no:OkW m n none:=fun N h=>by cases h
theorem OkW.some (I:ROk m n R):OkW m n (some R):=fun N h=>by cases h;exact I
theorem OkW.ite {c:Prop}[Decidable c] {a b:Option RM}(d:c->OkW m n a) (e:¬ c->OkW m n b):OkW m n (if c then a else b):=by
 by_cases h:c
 ·rw[Xs h];exact d h
 ·rw[Xr h];exact e h
theorem ROk.mono (I:ROk m n R) (h:n<=n'):ROk m n' R:=⟨I.est,fun d a=>⟨by have:=(I.fr d a).1;omega,(I.fr d a).2⟩,I.inp,I.out,I.deep⟩
theorem ROk.over (I:ROk m n R) (k:Int):ROk m n (R.over k):=⟨I.est,I.fr,I.inp,I.out,I.deep⟩
def Now (m:List (MFunc 6)) (R:RM):Prop:=∃ fn bl,m[R.top.f]?=some fn/\fn.blocks[R.top.b]?=some bl/\R.top.i<bl.code.length
theorem ROk.on (I:ROk m n R) (H:Now m R)(j:l.length<=8):ROk m (n+8) (R.on l):=by
 refine⟨I.est,fun d a=>?_,I.inp,I.out,I.deep⟩
 rcases List.mem_cons.1 a with rfl | a
 ·obtain⟨b,-⟩:=I.fr R.top (by simp)
  obtain⟨h,g,i,e,f⟩:=H
  exact⟨by show (R.top.v++l).length<=_;rw[List.length_append];omega,h,g,i,e,f⟩
 ·obtain⟨b,c⟩:=I.fr d (List.mem_cons_of_mem _ a)
  exact⟨by omega,c⟩
theorem Qai {v:List Int}:∀ {l xs:List Int},QaA v l=some xs->xs.length=l.length
 | [],xs,h=>by simp[QaA] at h;subst h;simp
 | k::l,xs,h=>by
   simp only[QaA] at h
   cases hk:iAt v k with
   | none=>rw[hk] at h;cases h
   | some y =>
     rw[hk] at h
     simp only at h
     cases hl:QaA v l with
     | none=>rw[hl] at h;cases h
     | some ys =>
       rw[hl] at h
       simp at h
       subst h;simp[Qai hl]
theorem last_of :l=[]\/l.getLastD 0∈l:=by
 rcases List.eq_nil_or_concat l with a | ⟨b,k,a⟩
 ·exact .inl a
 ·right;rw[a];simp
theorem QhI {e:Est}(h:e.Ok) (k n:Int):0<=e.getAt k n/\e.getAt k n<=1040:=by
 have a:=h.ok
 have f:e.p.nextK<64/\-1<=e.p.nextK:=by
  unfold PSt.nextK
  cases hg:e.p.given.getLast? with
  | none =>
    simp only
    have:=a.high
    have:=a.most
    have:=a.low
    split<;>omega
  | some y =>
    have:=a.mem y (List.mem_of_getLast? hg)
    have:=a.high
    have:=a.most
    simp only
    omega
 unfold Est.getAt;split
 ·rename_i b
  unfold Est.getCode at b;split at b
  ·split at b
   ·omega
   ·cases hr:e.reg k.toNat with
    | none=>simp only;omega
    | some r =>
      rw[hr] at b
      simp only at b |-
      split at b
      ·omega
      ·rename_i g
       split
       ·rename_i c
        have:¬ e.p.nextK<0:=fun d=>g ⟨c,d⟩
        omega
       ·have i:=h.used _ _ hr
        have j:0<=r.pages.getLastD 0/\r.pages.getLastD 0<64:=by
         rcases last_of (l:=r.pages) with c | c
         ·rw[c];simp
         ·have:=h.low (k:=k.toNat) (x:=r.pages.getLastD 0) (by rw[Est.at_some hr];exact c)
          have:=a.most
          omega
        omega
  ·omega
 ·exact⟨by decide,by decide⟩
theorem Qlt {e:Est}{k n:Int}(h:e.getCode k n≠0):e.got k n=e:=by unfold Est.got;rw[Xr h]
theorem QeV (I:ROk m n R) (H:Now m R){h size:Int}:OkW m (n+8) (some (R.thing h size l)):=by
 refine OkW.some ?_;unfold RM.thing;split
 ·have J:ROk m n { R with e:=(R.e.got h size).withP ((R.e.got h size).p.puts (R.e.getAt h size) l) }:=⟨Est.Ok.puts l _ (I.est.got h size),I.fr,I.inp,I.out,I.deep⟩;exact J.on H (by simp)
 ·exact(I.over 6).mono (by omega)
theorem Qj9 (I:ROk m n R) (H:Now m R):OkW m (n+8) (R.part x):=by
 have d:∀ {v:Int},OkW m (n+8) (some (R.on [v])):=OkW.some (I.on H (by simp));have e:∀ {k v:Int},OkW m (n+8) (some ((R.stored k v).on [])):=fun {k v}=>OkW.some (ROk.on (R:=R.stored k v) ⟨I.est.store k v,I.fr,I.inp,I.out,I.deep⟩ H (by simp));have f:∀ k,OkW m (n+8) (some (R.over k)):=fun k=>OkW.some ((I.over k).mono (by omega));unfold RM.part
 cases ha:iAt R.top.v x.a with
 | none=>exact OkW.no
 | some a =>
   refine OkW.ite (fun _=>d) fun _=>OkW.ite (fun _=>?_) fun _=>OkW.ite (fun _=>?_) fun _=>OkW.ite (fun _=>?_) fun _=>OkW.ite (fun _=>d) fun _=>OkW.some (I.on H (by simp))
   ·cases hb:iAt R.top.v x.b with
    | none=>exact OkW.no
    | some y=>exact e
   ·cases hb:iAt R.top.v x.b with
    | none=>exact OkW.no
    | some y=>exact OkW.ite (fun _=>d) (fun _=>f 2)
   ·cases hb:iAt R.top.v x.b with
    | none=>exact OkW.no
    | some y =>
      cases hc:iAt R.top.v x.c with
      | none=>exact OkW.no
      | some z=>exact OkW.ite (fun _=>e) (fun _=>f 2)
theorem Qi8 (I:ROk m n R) (H:Now m R) (A:(modFault m).1=0) (B:x.form m.length=0):OkW m (n+8) (RM.ins op R x):=by
 obtain⟨-,C,r⟩:=Qdc B
 have i:∀ {v:Int},OkW m (n+8) (some (R.on [v])):=OkW.some (I.on H (by simp));have g:∀ k,OkW m (n+8) (some (R.over k)):=fun k=>OkW.some ((I.over k).mono (by omega));unfold RM.ins;refine OkW.ite (fun _=>i) fun _=>OkW.ite (fun _=>?_) fun _=>OkW.ite (fun _=>OkW.ite (fun _=>OkW.some ?_) (fun _=>g 6)) fun _=>OkW.ite (fun _=>?_) fun _=>OkW.ite (fun _=>?_) fun _=>OkW.ite (fun _=>?_) fun _=>OkW.ite (fun _=>?_) fun _=>OkW.ite (fun _=>?_) fun _=>OkW.ite (fun e=>OkW.ite (fun y=>?_) (fun _=>g 5)) (fun _=>Qj9 I H)
 ·cases ha:iAt R.top.v x.a with
  | none=>exact OkW.no
  | some a =>
    cases p:iAt R.top.v x.b with
    | none=>exact OkW.no
    | some b =>
      simp only
      cases ho:op x.k a b with
      | none=>exact g 1
      | some c=>exact i
 ·exact ROk.on (R:={ R with e:=R.e.opened }) ⟨I.est.opened,I.fr,I.inp,I.out,I.deep⟩ H (by simp)
 ·cases ha:iAt R.top.v x.a with
  | none=>exact OkW.no
  | some a=>exact OkW.some (ROk.on (R:={ R with e:=R.e.shut a }) ⟨I.est.shut a,I.fr,I.inp,I.out,I.deep⟩ H (by simp))
 ·cases ha:iAt R.top.v x.a with
  | none=>exact OkW.no
  | some a=>cases hv:QaA R.top.v x.args with
    | none=>exact OkW.no
    | some l=>exact QeV I H
 ·cases ha:iAt R.top.v x.a with
  | none=>exact OkW.no
  | some a=>cases p:iAt R.top.v x.b with
    | none=>exact OkW.no
    | some k=>exact OkW.ite (fun _=>QeV I H) (fun _=>g 3)
 ·cases s:R.inp with
  | nil=>exact g 4
  | cons k l =>
    have t:=I.inp;rw[s] at t
    exact OkW.some (ROk.on (R:={ R with inp:=l }) ⟨I.est,I.fr,by simp at t;show l.length<=1000;omega,I.out,I.deep⟩ H (by simp))
 ·cases ha:iAt R.top.v x.a with
  | none=>exact OkW.no
  | some a=>exact OkW.ite (fun h=>OkW.some (ROk.on (R:={ R with out:=R.out++[a] }) ⟨I.est,I.fr,I.inp,⟨by show (R.out++[a]).length<=2000;simp;omega,I.out.2⟩,I.deep⟩ H (by simp))) (fun _=>g 8)
 ·cases hv:QaA R.top.v x.args with
  | none=>exact OkW.no
  | some l =>
    refine OkW.some ?_;obtain⟨J,D,-,E⟩:=r e
    obtain⟨f,j⟩:∃ f,m[x.k.toNat]?=some f:=⟨_,Zg (by omega)⟩
    obtain⟨z,q,-⟩:=Qac A j
    have F:=Qai hv;refine⟨I.est,fun d o=>?_,I.inp,I.out,by show (_::R.rest).length<=39;simp;omega⟩
    simp only[List.mem_cons] at o
    rcases o with rfl | rfl | o
    ·exact⟨by show l.length<=_;omega,f,z,j,q,Xb _⟩
    ·obtain⟨G,-⟩:=I.fr R.top (by simp)
     obtain⟨w,u,j,p,s⟩:=H
     exact⟨by show R.top.v.length<=_;omega,w,u,j,p,s⟩
    ·have h:=I.fr d (List.mem_cons_of_mem _ o);exact⟨by omega,h.2⟩
theorem Qle (I:ROk m n R) (e:m[R.top.f]?=some fn){t:MTo}(g:t.args.length<=8/\0<=t.block/\t.block<(fn.blocks.length:Int)):OkW m n (R.to t):=by
 unfold RM.to
 cases hv:QaA R.top.v t.args with
 | none=>exact OkW.no
 | some l =>
   obtain⟨b,c⟩:∃ b,fn.blocks[t.block.toNat]?=some b:=⟨_,Zg (by omega)⟩
   have h:=Qai hv;refine OkW.some ⟨I.est,fun d a=>?_,I.inp,I.out,I.deep⟩;rcases List.mem_cons.1 a with rfl | a
   ·exact⟨by show l.length<=_;omega,fn,b,e,c,Xb _⟩
   ·exact I.fr d (List.mem_cons_of_mem _ a)
theorem QkQ (I:ROk m n R) (o:m[R.top.f]?=some fn){e:ZC}(u:e.form fn.blocks.length=0):OkW m (n+8) (R.endd e):=by
 obtain⟨w,x,s,i⟩:=QeE u
 have Y:e.op≠3->OkW m (n+8) (R.to e.yes):=fun r N h=>(Qle I o (by have:=Qek (s r);omega) N h).mono (by omega);unfold RM.endd;refine OkW.ite (fun g=>?_) fun g=>OkW.ite (fun t=>?_) fun _=>Y g
 ·cases hv:QaA R.top.v e.args with
  | none=>exact OkW.no
  | some l =>
    have y:=Qai hv
    cases hr:R.rest with
    | nil =>
      simp only
      have b:=I.fr;rw[hr] at b
      exact OkW.some (ROk.mono (n:=n) ⟨I.est,fun d q=>b d q,I.inp,⟨I.out.1,by show l.length<=8;omega⟩,by have:=I.deep;rw[hr] at this;exact this⟩ (by omega))
    | cons d rest =>
      simp only
      refine OkW.some ⟨I.est,fun c j=>?_,I.inp,I.out,by have:=I.deep;rw[hr] at this;simp at this;show rest.length<=39;omega⟩;rcases List.mem_cons.1 j with rfl | j
      ·obtain⟨z,p⟩:=I.fr d (by rw[hr];simp)
       exact⟨by show (d.v++l).length<=_;rw[List.length_append];omega,p⟩
      ·have h:=I.fr c (by rw[hr];simp[j]);exact⟨by omega,h.2⟩
 ·cases iAt R.top.v e.a with
  | none=>exact OkW.no
  | some k=>exact OkW.ite (fun _=>fun N h=>(Qle I o (by have:=Qek (i t);omega) N h).mono (by omega)) (fun _=>Y g)
theorem QjZ (I:ROk m n R) (f:(modFault m).1=0):OkW m (n+8) (RM.step m op most R):=by
 unfold RM.step;refine OkW.ite (fun _=>OkW.some ((I.over 7).mono (by omega))) fun _=>?_;obtain⟨-,e,c,a,b,h⟩:=I.fr R.top (by simp)
 rw[a]
 simp only
 rw[b]
 simp only
 have g:=(Zo f).2 e (Zm a);have d:=g.blocks c (Zm b);have J:ROk m n { R with fuel:=R.fuel+1 }:=⟨I.est,I.fr,I.inp,I.out,I.deep⟩
 cases hx:c.code[R.top.i]? with
 | none=>exact QkQ J a d.fin
 | some x=>exact Qi8 J ⟨e,c,a,b,(Zi hx).1⟩ f (d.code x (Zm hx))
theorem Qdg (f:(modFault m).1=0)(hi:inp.length<=1000)(g:pages<=64):ROk m 0 (RM.start inp pages):=by
 have i:=(Zo f).1.1;obtain⟨a,e⟩:∃ a,m[0]?=some a:=⟨_,Zg i⟩
 obtain⟨h,b,-⟩:=Qac f e
 refine⟨Est.ok_new pages g,fun d c=>?_,hi,⟨by simp[RM.start],by simp[RM.start]⟩,by simp[RM.start]⟩
 simp only[RM.start,List.mem_cons,List.not_mem_nil,or_false] at c
 subst c;exact⟨by simp,a,h,e,b,Xb _⟩
theorem Qc8 (b:(modFault m).1=0)(I:ROk m 0 R):∀ (k:Nat){N:RM},RM.steps m op most k R=some N->ROk m (8*k) N:=by
 intro k
 have a:∀ (k:Nat) (n:Nat) (Q N:RM),ROk m n Q->RM.steps m op most k Q=some N->ROk m (n+8*k) N:=by
  intro k
  induction k with
  | zero=>intro n Q N J h;simp only[RM.steps] at h;cases h;exact J
  | succ k ih =>
    intro n Q N J h;simp only[RM.steps] at h
    split at h
    ·cases h;exact J.mono (by omega)
    ·cases hs:RM.step m op most Q with
     | none=>rw[hs] at h;cases h
     | some Q' =>
       rw[hs] at h
       exact(ih (n+8) Q' N (QjZ J b Q' hs) h).mono (by omega)
 intro N h
 have:=a k 0 R N I h
 rwa [XK] at this
end
theorem Xz:type_of% @bodyPost_end:=@bodyPost_end
abbrev QdF (c:Int):List PanicEntry:=[{ v:=.iface 187 (Iv c),recovered:=false }]
theorem QaJ (w:World) (c:Int):Calls prog 111 #[.bool true,Iv c] w fun e w'=>e=.returned (.tuple #[])/\w'=w:=by
 go_enter func111,ntmps111
 go_wp2
 exact Xz (v:=.tuple #[]) (by simp[results,results111,go_sem]) Z ⟨Z,Z⟩
theorem Qab (w:World) (c:Int):Calls prog 111 #[.bool false,Iv c] w fun e w'=>e=.panicked (QdF c)/\w'=w:=by
 go_enter func111,ntmps111
 go_wp2
 exact⟨Z,Z,Z⟩
def RM.push (R:RM) (l:List Int):RM:={ R with top:={ R.top with v:=R.top.v++l } }
theorem Qns (n:Nat) (f:n<=1099511627776) (w:World):(Instr.makeSlice 25 (Iv (n:Int)) (Iv (n:Int))).run prog w=.ok (.slice (some ⟨w.heap.size,0,none⟩) n n) (w.alloc (.cells (madeCells (#[Iv 0]:Array Value) n) 2)):=by
 obtain⟨e,d,c,a,b⟩:=iInfo64
 exact run_make_row (P:=prog) 25 2 e (Iv 0) iUnder64 d c a Z .i64 .i64 n (by rw[b];omega) (by omega) w
theorem QbF.of {w:World}(b:l.length=n) (g:n<=1099511627776) (h:w.rowIs k 2 n (fun i=>Iv (l.getD i 0))):QbF w (.slice (some ⟨k,0,none⟩) n n) l:=by
 subst b;obtain⟨c,f,d,e⟩:=h
 refine⟨by simp,.inr ⟨k,l.length,c,Z,Xb _,f,Ze,by unfold maxLen;omega,by simpa using d,?_⟩⟩
 refine List.ext_getElem? (fun i=>?_);rw[XR,Array.getElem?_toList,XS,XL]
 by_cases a:i<l.length
 ·rw[Xs a,e i a,Zg a];simp[List.getD,a]
 ·rw[Xr a,Xk (by omega)];rfl
theorem QbF.cell {w:World}{v:Value}(h:QbF w v l):∃ a c,v=.slice a l.length c/\∀ i,i<l.length->∃ k,a=some ⟨k,0,none⟩/\v.ownBlock=some k/\w.cell? ⟨k,i,none⟩=some (Iv (l.getD i 0)):=by
 rcases h.2 with ⟨e,n⟩|⟨k,b,m,e,_,g,o,q,p,j⟩
 ·exact⟨none,0,by rw[e,n],fun i d=>by omega⟩
 ·refine⟨_,b,e,fun i d=>⟨k,Z,by rw[e];rfl,?_⟩⟩
  have f:(l.map (Value.int .i64))[i]?=some (Iv (l.getD i 0)):=by rw[XS,Zg d];simp[List.getD,d]
  rw[<-j,XR,Xs (by omega),Array.getElem?_toList] at f
  exact Qb g _ _ f
theorem Qli {v:List Int}{a:Int}(h:iAt v a=some x):∃ j:Nat,a=j/\j<v.length/\x=v.getD j 0:=by
 unfold iAt at h;split at h
 ·cases h
 ·rename_i b
  refine⟨a.toNat,by omega,(Zi h).1,?_⟩
  simp[List.getD,h]
theorem Qh6 {v:List Int}:∀ {l xs:List Int},QaA v l=some xs->∀ (q:Nat) (a:Int),l[q]?=some a->iAt v a=some (xs.getD q 0)/\q<xs.length
 | [],xs,h,q,a,ha=>by simp at ha
 | k::l,xs,h,q,a,ha=>by
   simp only[QaA] at h
   cases hk:iAt v k with
   | none=>rw[hk] at h;cases h
   | some y =>
     rw[hk] at h
     simp only at h
     cases hl:QaA v l with
     | none=>rw[hl] at h;cases h
     | some ys =>
       rw[hl] at h
       simp at h
       subst h
       cases q with
       | zero=>simp at ha;subst ha;exact⟨by simpa using hk,by simp⟩
       | succ q =>
         obtain⟨b,c⟩:=Qh6 hl q a (by simpa using ha)
         exact⟨by simpa[List.getD] using b,by simp;omega⟩
def Qm2 (w:World) (xs:List Int) (n:Nat) (e:Ending) (w':World):Prop:=∃ k,e=.returned (.slice (some ⟨k,0,none⟩) n n)/\w.heap.size<=k/\QbF w' (.slice (some ⟨k,0,none⟩) n n) xs/\Below w.heap.size w w'
section
variable {w:World}{c:Nat}{fr:RFr}{v:Value}
theorem Qec (F:WFr w c fr v) (hl:fr.v.length<=1000000){S:Nat}(r:l.length=n) (hb:n<=1000000) (P:intsL.In w Q l [.slice p n S]) (J:QaA fr.v l=some xs) :
 Calls prog 167 #[Pv c 0,.slice p n S] w fun e w'=>Qm2 w xs n e w':=by
 have I:=Qns n (by omega) w;have G:=Qc (World.rowIs_made w (Iv 0) n 2);have R:=Qc (ZP w (.cells (madeCells (#[Iv 0]:Array Value) n) 2));have E:=Qc P;have T:=Qc r;have z:=Qc J;have B:Hid (xs.length=n):=(Qai J).trans r;obtain⟨va,vc,ev,K⟩:=F.2.cell
 have u:w.cell? ⟨c,3,none⟩=some v:=Qb F.1 3 _ Z;rw[ev] at u
 have x:=Qc K;have Q3:=Qc u;clear P r F J K u;go_enter func167,ntmps167
 go_upto_region 2 with fail
 generalize w.alloc (.cells (madeCells (#[Iv 0]:Array Value) n) 2)=w1 at G R |-;clear I;obtain⟨g,U⟩:∃ g,g=w.heap.size:=⟨_,Z⟩
 have L:Hid (w.heap.size<=g):=by show _<=_;omega
 rw[<-U] at G |-
 clear U;go_wp2_with fail
 go_loopw [13] (fun i wr=>∃ q:Nat,q<=n/\i=Iv q/\wr.rowIs g 2 n (fun i=>if i<q then Iv (xs.getD i 0) else Iv 0)/\Below w.heap.size w wr) (fun i _=>n - (intOf i).toNat)
 case atStart=>exact⟨0,Xb _,Z,G.out.congr (fun i _=>by rw[Xr (by omega)]),R.out⟩
 case round =>
  obtain⟨q,hq,rfl,M,N⟩:=hrel
  have h:=Qc M;have d:=Qc N;clear M N;by_cases b:q<n
  ·have V:(q:Int)<n:=by omega
   obtain⟨a,A⟩:∃ a,l[q]?=some a:=⟨_,Zg (by rw[T.out];exact b)⟩
   have f:q<l.length:=by rw[T.out];exact b
   obtain⟨o,t⟩:=Qh6 z.out q a A
   obtain⟨j,rfl,hj,m⟩:=Qli o
   obtain⟨g1,o1,rfl,-,s,y⟩:=ZH E.out f
   rw[show l.getD q 0=(j:Int) by rw[List.getD_eq_getElem?_getD,A];rfl] at y
   have y:=Qk y d.out;obtain⟨k,rfl,-,H⟩:=x.out j hj
   rw[<-m] at H
   have H:=Qk H d.out;have c3:=Qk Q3.out d.out;have aa:(j:Int)<fr.v.length:=by omega
   have X:=h.out.cell b;rw[Xr (by omega)] at X
   have f0:=h.out.frozen q
   have PR:Hid ((wr.setCell ⟨g,q,none⟩ (Iv (xs.getD q 0))).rowIs g 2 n (fun i=>if i<q+1 then Iv (xs.getD i 0) else Iv 0)):=(h.out.set q (Iv (xs.getD q 0))).congr (fun i W=>by
    by_cases e:i=q
    ·subst e;rw[Xs Z,Xs (by omega)]
    ·rw[Xr e]
     by_cases O:i<q
     ·rw[Xs O,Xs (by omega)]
     ·rw[Xr O,Xr (by omega)])
   have PB:Hid (Below w.heap.size w (wr.setCell ⟨g,q,none⟩ (Iv (xs.getD q 0)))):=d.out.setCell (p:=⟨g,q,none⟩) L.out _;clear f s A o t m;generalize xs.getD q 0=xq at *;generalize fr.v.length=vl at *;clear h d x E z;go_wp2
   go_roundw
   case rel=>exact⟨q+1,by omega,by go_num,PR.out,PB.out⟩
   case measure=>simp[intOf];omega
  ·have D:q=n:=by omega
   subst D;have C:=Qc (QbF.of B.out (by omega) (h.out.congr (fun i W=>by rw[Xs W])));clear x E z;go_wp2
   go_ret;exact⟨g,Z,L.out,C.out,d.out⟩
end
section
variable {w w' w2:World}{b most:Nat}{m:List (MFunc 6)}{R R':RM}{g g1:WG}{c:Nat}{fr:RFr}{v:Value}
theorem WAt.pushed (S:WAt w b most m R g){v9:Value}{w9:World}(u:w9.ownsRow 0 2 1 v9 (R.top.v.length+l.length) (R.top.v.map (Value.int .i64)++l.map (Value.int .i64))) (a:w.grownBy w9 g.t.v.ownBlock) (q:∀ k,v9.ownBlock=some k->g.t.v.ownBlock=some k\/k=w.heap.size) :
 WTo g w (w9.setCell ⟨g.t.c,3,none⟩ v9) b most m (R.push l):=by
 obtain⟨⟨F,j,s⟩,-⟩:=S.frs
 have o:=XC F.1;have d:∀ x,g.t.v.ownBlock=some x->x≠g.t.c:=fun x p e=>by have:=s x p;rw[e,j] at this;omega
 have n:w9.heap[g.t.c]?=_:=(a.block g.t.c o (fun e=>d _ e.symm Z)).trans F.1
 have f:∀ k,v9.ownBlock=some k->k≠g.t.c:=fun k i e=>by
  rcases q k i with h | h
  ·exact d k h e
  ·omega
 refine S.setTop a.os a.tape a.output (by simpa using a.size) (fun k i r j=>?_) ⟨?_,?_⟩ (fun k i=>(q k i).imp id (fun e=>by omega))
 ·rw[Xd _ _ _ _ r]
  exact a.block k i (fun e=>j e.symm)
 ·have:=Qh n 3 v9
  simpa using this
 ·show World.ownsRow _ 0 _ 1 v9 (R.top.v++l).length ((R.top.v++l).map (Value.int .i64));rw[List.length_append,List.map_append]
  exact Q0 u (fun x p=>Xd _ _ _ _ (f x p))
theorem QbZ (S:WAt w b most m R g){B:Nat}{a:Addr}(E:l.length=n) (d:∀ (j:Nat) (u:Value),(l.map (Value.int .i64))[j]?=some u->w.cell? (a.add j)=some u) (M:R.top.v.length+n<=1000000) :
 Calls prog 169 #[Pv g.t.c 0,.slice (some a) n B] w fun e w'=>e=.returned (.tuple #[])/\WTo g w w' b most m (R.push l):=by
 obtain⟨G,K,q,o,y⟩:=iInfo64
 subst E;obtain⟨⟨F,C,z⟩,-⟩:=S.frs
 obtain⟨L,Q,J⟩:=QaZ F.2
 have D:=Qb F.1 3 _ Z;have h:Hid (g.t.v.ownBlock≠some g.t.c):=fun e=>by have:=z _ e;rw[C] at this;omega
 have i:=Qc F.2;have k:=Qc F.1;have H:=Qc d;have s:=Qc (fun v9 w9=>S.pushed (l:=l) (v9:=v9) (w9:=w9));clear S F d C z;go_enter func169,ntmps169
 unfold QbF at i;rw[J] at D i s k h
 go_wp2_with (at_builtin;refine ZO _ Z _ _ 25 Z 2 G (Iv 0) 1 8 iUnder64 K q o y Z (by decide) _ _ _ Z i.out a l.length B (l.map (Value.int .i64)) Z (by simp) H.out (by intro u I;obtain⟨x,_,rfl⟩:=List.mem_map.1 I;rfl) (by unfold maxLen;omega) (by omega) ?_)
 intro v9 w9 r p A;have R:=Qc (s.out v9 w9 r p A);have f:=(p.block g.t.c (XC k.out) (fun e=>h.out e.symm)).trans k.out;have T:=Qb f 3 _ Z;have P:=Qj f 3;obtain⟨O,N,rfl⟩:=QaZ r
 clear r p A s f k i D;go_wp2
 exact Xz (v:=.tuple #[]) (by simp[results,results169,go_sem]) Z ⟨Z,R.out⟩
theorem Qmk (w:World) (n:Int):∀ (j:Nat) (u:Value),([n].map (Value.int .i64))[j]?=some u->(w.alloc (.cells #[Iv n] 2)).cell? ((⟨w.heap.size,0,none⟩:Addr).add j)=some u:=QmW w [Iv n] 2
theorem Qb8 (S:WAt w b most m R g) (n:Int) (d:R.top.v.length+1<=1000000) :
 Calls prog 169 #[Pv g.t.c 0,.slice (some ⟨w.heap.size,0,none⟩) 1 1] (w.alloc (.cells #[Iv n] 2)) fun e w'=>e=.returned (.tuple #[])/\WTo g w w' b most m (R.push [n]):=by
 have a:=ZP w (.cells #[Iv n] 2);refine(QbZ (S.below a) (l:=[n]) Z (Qmk w n) d).mono ?_
 rintro e w' ⟨rfl,h⟩;exact⟨Z,WTo.then (S.stepB a) Z Z h⟩
def Qmf (w:World) (fr:RFr) (e:Ending) (w':World):Prop:=∃ k x n,e=.returned (Pv k 0)/\w.heap.size<=k/\w.heap.size<=x/\WFr w' k fr (.slice (some ⟨x,0,none⟩) n n)/\Below w.heap.size w w'
theorem QdB (F:WFr w c fr v) (q:fr.v.length<=1000000){o:Nat}(b:l.length=n) (g:n<=1000000) (f:intsL.In w Q l [.slice p n o]) (a:QaA fr.v l=some xs) (j i:Nat) :
 Calls prog 216 #[Pv c 0,Iv j,Iv i,.slice p n o] w fun e w'=>Qmf w ⟨j,i,0,xs⟩ e w':=by
 have C:=Qc (Qec F q b g f a);have s:Hid (xs.length=n):=(Qai a).trans b;clear F b g f a;go_enter func216,ntmps216
 go_wp2_with (go_at_call 167;refine C.out.mono ?_;rintro t h ⟨k,rfl,r,m,d⟩)
 go_ret;exact⟨h.heap.size,k,n,Z,d.size,r,⟨Qe _ _ _,Q0 m (fun x a=>Below.heap_alloc _ _ _ (QbF.lt m a))⟩,d.trans ((ZP h _).mono d.size)⟩
theorem WAt.callsForm (S:WAt w b most m R g):∃ gc cap,g.vc=.slice (some ⟨gc,0,none⟩) (R.rest.length+1) cap/\R.rest.length+1<=cap/\w.cell? ⟨gc,R.rest.length,none⟩=some (Pv g.t.c 0):=by
 rcases S.calls.2 with ⟨_,l⟩|⟨gc,cap,j,e,_,h,f,n,k,i⟩
 ·omega
 ·refine⟨gc,cap,e,f,?_⟩
  have d:=S.rows
  have a:(Qat (g.t::g.fs))[R.rest.length]?=some (Pv g.t.c 0):=by
   simp[Qat,<-d]
  rw[<-i,XR,Xs (by omega),Array.getElem?_toList] at a
  exact Qb h _ _ a
theorem QgF (S:WAt w b most m R g) (j:R.rest.length<=1000) :
 Calls prog 112 #[Pv b 0] w fun e w'=>e=.returned (Pv g.t.c 0)/\Below w.heap.size w w':=by
 obtain⟨k,f,a,d,l⟩:=S.callsForm
 have i:w.cell? ⟨b,4,none⟩=some g.vc:=Qb S.box 4 _ Z;rw[a] at i
 clear a S;generalize R.rest.length=n at *;have o:(↑(n+1):Int) - 1=n:=by omega
 have h:(n:Int)<(n:Int)+1:=by omega
 go_enter func112,ntmps112
 go_upto_region 1 with fail
 go_quiet (fail)
 go_wp2
 go_ret;exact⟨Z,Qah Zr _⟩
end
theorem Zv.cellAt {e:Est}{L g:Nat->Nat}(h:Zv w b O e L bp g) (k:Nat) (a:k<16):w.cell? ⟨b,1+k,none⟩=some (QaP (e.reg k) (g k)):=by
 have:=h.row.cell (i:=1+k) (by omega)
 rw[this]
 simp[Qmd]
theorem Zv.cell0 {e:Est}{L g:Nat->Nat}(h:Zv w b O e L bp g):w.cell? ⟨b,0,none⟩=some (Pv bp 0):=by
 have:=h.row.cell (i:=0) (by omega)
 rw[this];rfl
theorem QhG (w:World) (b a:Nat) (O:Nat->Prop) (e:Est) (k:Int) (h:QX w b a O e) :
 Calls prog 217 #[Pv b 0,Iv k] w fun e' w'=>e'=.returned (.bool (e.has k))/\w'=w:=by
 obtain⟨L,g,h⟩:=h
 by_cases d:0<=k
 ·by_cases f:k<16
  ·obtain⟨j,rfl⟩:=Xc d
   have c:=h.cellAt j (by omega)
   cases hr:e.reg j with
   | none =>
     rw[hr] at c
     have E:Hid (e.has j=false):=Est.has_none hr;simp only[QaP] at c
     clear h hr;go_enter func217,ntmps217
     go_wp2
     go_ret;exact⟨by rw[E.out];rfl,Z⟩
   | some r =>
     rw[hr] at c
     have E:Hid (e.has j=true):=Est.has_of (by omega) hr;simp only[QaP] at c
     clear h hr;go_enter func217,ntmps217
     go_wp2
     go_ret;exact⟨by rw[E.out];rfl,Z⟩
  ·have E:Hid (e.has k=false):=Est.has_out (by omega);clear h;go_enter func217,ntmps217
   go_wp2
   go_ret;exact⟨by rw[E.out];rfl,Z⟩
 ·have E:Hid (e.has k=false):=Est.has_out (by omega);clear h;go_enter func217,ntmps217
  go_wp2
  go_ret;exact⟨by rw[E.out];rfl,Z⟩
def Qbj (e:Est) (g:Nat->Nat):List Value:=(List.range 16).map fun k=>QaP (e.reg k) (g k)
theorem Zv.range {e:Est}{L g:Nat->Nat}(h:Zv w b O e L bp g):w.rangeAt b 1 (Qbj e g):=by
 intro j v c
 have a:j<16:=by
  have:=(Zi c).1
  simpa[Qbj] using this
 rw[h.cellAt j a,<-c]
 simp[Qbj,a]
theorem QdI (w:World) (e:Est) (g:Nat->Nat) (k:Nat) (a:k<16) :
 (Instr.index 71 (.agg (Qbj e g).toArray) (Iv k)).run prog w=.ok (QaP (e.reg k) (g k)) w:=by
 have b:(Qbj e g)[k]?=some (QaP (e.reg k) (g k)):=by simp[Qbj,a]
 have c:(sizeOf 70).run prog w=.ok 1 w:=by kernel_rfl
 simp[Instr.index,run_underlying underlying71,asIntOf,c,part,a,b]
theorem Qmr (w:World) (b j:Nat) (O:Nat->Prop) (e:Est) (h:QX w b j O e) :
 Calls prog 36 #[Pv b 0] w fun e' w'=>e'=.returned (Iv e.count)/\w'=w:=by
 obtain⟨L,g,h⟩:=h
 have f:Hid (w.rangeAt b 1 (Qbj e g)):=h.range;clear h;go_enter func36,ntmps36
 go_wp2_with (refine wpList_load_mid Z 71 (.tmp 8) Z b 1 Z (Qbj e g) _ f.out underlying71 Z (by kernel_rfl) ?_)
 go_loop [3,10] (fun n i=>∃ k:Nat,k<=16/\i=Iv k/\n=Iv (Q9 e.reg k)) (fun _ i=>16 - (intOf i).toNat)
 case atStart=>exact⟨0,by omega,Z,Z⟩
 case round =>
  obtain⟨k,m,rfl,rfl⟩:=hrel
  have l:=Qa3 e.reg k;by_cases d:k<16
  ·have a:=fun w=>QdI w e g k d
   cases hr:e.reg k with
   | none =>
     have E:Hid (Q9 e.reg (k+1)=Q9 e.reg k):=by show _=_;simp[Q9,hr]
     rw[hr] at a
     simp only[QaP] at a
     clear hr;go_wp2
     go_round
     case rel=>exact⟨k+1,by omega,by go_num,by rw[E.out]⟩
     case measure=>simp[intOf];omega
   | some r =>
     have E:Hid (Q9 e.reg (k+1)=Q9 e.reg k+1):=by show _=_;simp[Q9,hr]
     rw[hr] at a
     simp only[QaP] at a
     clear hr;go_wp2
     go_round
     case rel=>exact⟨k+1,by omega,by go_num,by rw[E.out]⟩
     case measure=>simp[intOf];omega
  ·have c:k=16:=by omega
   subst c;have E:Hid (Q9 e.reg 16=e.count):=rfl;go_wp2
   go_ret;exact⟨by rw[E.out];rfl,Z⟩
def newReg:Obj:=.cells #[Nv,Iv 0] 285
theorem Zv.mono {e:Est}{L g:Nat->Nat}(h:Zv w b O e L bp g) (c:∀ x,O x->x<w.heap.size->O' x):Zv w b O' e L bp g :=
 ⟨h.row,h.own,h.pool,h.reg,fun x a=>⟨c x (h.all x a).1 (h.all x a).2,(h.all x a).2⟩⟩
theorem Zv.opened {e:Est}{L g:Nat->Nat}(h:Zv w b O e L bp g) (k:Nat) (B:k<16) (z:e.reg k=none) :
 QX ((w.alloc newReg).setCell ⟨b,1+k,none⟩ (Pv w.heap.size 0)) b bp (Q1 O w ((w.alloc newReg).setCell ⟨b,1+k,none⟩ (Pv w.heap.size 0))) (e.set k (some ⟨[],0⟩)) /\
 Qz O (Q1 O w ((w.alloc newReg).setCell ⟨b,1+k,none⟩ (Pv w.heap.size 0))) w ((w.alloc newReg).setCell ⟨b,1+k,none⟩ (Pv w.heap.size 0)):=by
 have m:Qz (fun x=>L x=1) (fun x=>L x=1) w ((w.alloc newReg).setCell ⟨b,1+k,none⟩ (Pv w.heap.size 0)):=((Qz.refl _ w).alloc newReg).setCell (p:=⟨b,1+k,none⟩) h.own _;have v:=h.row.lt;have c:=(h.row.alloc newReg).set (1+k) (Pv w.heap.size 0)
 have d:((w.alloc newReg).setCell ⟨b,1+k,none⟩ (Pv w.heap.size 0)).heap[w.heap.size]?=some (.cells #[Nv,Iv 0] 285 (0,0)):=by
  rw[Xd _ _ _ _ (show w.heap.size≠b by omega)];exact Qe w _ _
 have l:((w.alloc newReg).setCell ⟨b,1+k,none⟩ (Pv w.heap.size 0)).heap.size=w.heap.size+1:=by simp
 generalize (w.alloc newReg).setCell ⟨b,1+k,none⟩ (Pv w.heap.size 0)=o at *;refine⟨⟨QbA L (k+3) w o,fun j=>if j=k then w.heap.size else g j,?_,?_,?_,?_,?_⟩,Qdh h.all (by decide) m⟩
 ·refine c.congr fun i A=>?_;unfold Qmd QaP Est.set;by_cases s:i=0
  ·subst s;rw[Xr (by omega)];rfl
  ·by_cases a:i=1+k
   ·subst a;simp
   ·have y:¬ (i - 1=k):=by omega
    simp[s,a,y]
 ·exact(Zj h.all (by omega) (by decide) b).2 h.own
 ·exact(h.pool.step m (fun x t u=>by omega)).mono (fun x n _=>(Zj h.all (by omega) (by decide) x).2 n)
 ·intro j q r;by_cases a:j=k
  ·subst a
   have:q=⟨[],0⟩:=by simpa[Est.set] using r.symm
   subst this;refine⟨Nv,?_,Row.nil _ _ _,?_⟩
   ·simpa[Reg.left] using d
   ·simp[QbA,l]
  ·have f:e.reg j=some q:=by simpa[Est.set,a] using r
   have:=((h.reg j q f).step m (fun x t u=>by omega)).mono (O':=fun x=>QbA L (k+3) w o x=j+3) (fun x n _=>(Zj h.all (by omega) (by omega) x).2 n)
   simpa[a] using this
 ·exact QcR h.all (by omega) (by omega)
theorem QX.refl_grow {e:Est}(h:QX w b bp O e):QX w b bp (Q1 O w w) e:=h.mono Qe0
theorem Qkz (w:World) (b f:Nat) (O:Nat->Prop) (e:Est) (h:QX w b f O e) :
 Calls prog 170 #[Pv b 0] w fun e' w'=>e'=.returned (Iv e.openK)/\QX w' b f (Q1 O w w') e.opened/\Qz O (Q1 O w w') w w':=by
 have p:=h;obtain⟨L,g,h⟩:=h
 have o:Hid (w.rangeAt b 1 (Qbj e g)):=h.range;have l:Hid (Zv w b O e L f g):=h;have s:=h.row.lt;clear h;have t:Hid (QX w b f O e):=p;clear p;go_enter func170,ntmps170
 go_wp2_with (refine wpList_load_mid Z 71 (.tmp 7) Z b 1 Z (Qbj e g) _ o.out underlying71 Z (by kernel_rfl) ?_)
 go_loop [9] (fun i=>∃ k:Nat,k<=16/\i=Iv k/\∀ j,j<k->e.reg j≠none) (fun i=>16 - (intOf i).toNat)
 case atStart=>exact⟨0,by omega,Z,fun j n=>by omega⟩
 case round =>
  obtain⟨k,v,rfl,a⟩:=hrel
  by_cases c:k<16
  ·have d:=fun w=>QdI w e g k c
   cases hr:e.reg k with
   | none =>
     have E:Hid (e.openK=k/\e.opened=e.set k (some ⟨[],0⟩)):=Est.open_yes a c hr;have Q:=l.out.opened k c hr
     have D:Hid (QX ((w.alloc newReg).setCell ⟨b,1+k,none⟩ (Pv w.heap.size 0)) b f (Q1 O w ((w.alloc newReg).setCell ⟨b,1+k,none⟩ (Pv w.heap.size 0))) (e.set k (some ⟨[],0⟩)) /\
      Qz O (Q1 O w ((w.alloc newReg).setCell ⟨b,1+k,none⟩ (Pv w.heap.size 0))) w ((w.alloc newReg).setCell ⟨b,1+k,none⟩ (Pv w.heap.size 0))):=Q
     have q:=l.out.cellAt k c;have u:=l.out.row.frozen (1+k);rw[hr] at d q
     simp only[QaP] at d q
     clear hr a Q;go_wp2
     go_ret;rw[E.out.1,E.out.2,<-World.setCell_alloc_past _ _ _ _ s]
     exact⟨Z,D.out⟩
   | some r =>
     have N:Hid (∀ j,j<k+1->e.reg j≠none):=fun j n=>by
      rcases Nat.lt_succ_iff_lt_or_eq.1 n with m | m
      ·exact a j m
      ·subst m;rw[hr];simp
     rw[hr] at d
     simp only[QaP] at d
     clear hr a;go_wp2
     go_round
     case rel=>exact⟨k+1,by omega,by go_num,N.out⟩
     case measure=>simp[intOf];omega
  ·have E:Hid (e.openK=-1/\e.opened=e):=Est.open_no (fun j n=>a j (by omega));clear a;go_wp2
   go_ret;rw[E.out.1,E.out.2]
   exact⟨Z,t.out.refl_grow,Qz.refl_grow O w⟩
theorem Zv.closed {e:Est}{L g:Nat->Nat}(h:Zv w b O e L bp g) (k:Nat) (u:k<16) :
 Zv (w.setCell ⟨b,1+k,none⟩ (.pointer none)) b O (e.set k none) L bp g/\Qz O O w (w.setCell ⟨b,1+k,none⟩ (.pointer none)):=by
 have l:Qz (fun x=>L x=1) (fun x=>L x=1) w (w.setCell ⟨b,1+k,none⟩ (.pointer none)):=(Qz.refl _ w).setCell (p:=⟨b,1+k,none⟩) h.own _;have o:O b:=(h.all b (by rw[h.own];decide)).1;refine⟨⟨?_,h.own,h.pool.step l (fun x m n=>by omega),?_,?_⟩,(Qz.refl O w).setCell (p:=⟨b,1+k,none⟩) o _⟩
 ·refine(h.row.set (1+k) (.pointer none)).congr fun i t=>?_
  unfold Qmd QaP Est.set;by_cases d:i=0
  ·subst d;rw[Xr (by omega)];rfl
  ·by_cases a:i=1+k
   ·subst a;simp
   ·have r:¬ (i - 1=k):=by omega
    simp[d,a,r]
 ·intro j q f
  have c:e.reg j=some q:=by
   by_cases a:j=k
   ·subst a;simp[Est.set] at f
   ·simpa[Est.set,a] using f
  exact(h.reg j q c).step l (fun x m n=>by omega)
 ·intro x s
  have:=h.all x s
  simpa using this
theorem Qje (l:List Int) (j:Nat) (a:j<l.length):l.take (j+1)=l.take j++[l.getD j 0]:=by
 rw[List.take_succ_eq_append_getElem a];simp[List.getD,a]
theorem Qk8 (w:World) (b o:Nat) (O:Nat->Prop) (e:Est) (k:Int) (h:Qdu w b o O e) :
 Calls prog 171 #[Pv b 0,Iv k] w fun e' w'=>e'=.returned (.bool (e.has k))/\QX w' b o (Q1 O w w') (e.shut k)/\Qz O (Q1 O w w') w w':=by
 have C:Hid (Calls prog 217 #[Pv b 0,Iv k] w fun e' w'=>e'=.returned (.bool (e.has k))/\w'=w):=QhG w b o O e k h.1
 cases hh:e.has k with
 | false =>
   have E:Hid (e.shut k=e):=Est.shut_no hh;have HH:Hid (QX w b o O e):=h.1;rw[hh] at C
   clear h hh;go_enter func171,ntmps171
   go_wp2_with (go_at_call 217;refine(C.out).mono ?_;rintro e w' ⟨rfl,rfl⟩)
   go_ret;rw[E.out]
   exact⟨Z,HH.out.refl_grow,Qz.refl_grow O _⟩
 | true =>
   rw[hh] at C
   obtain⟨j,r,rfl,Q,I⟩:=Est.has_true hh
   have E:Hid (e.shut j=(e.set j none).withP (e.p.giveAll r.pages)):=Est.shut_yes Q I;have J:=h.2.lenR I;obtain⟨⟨L,g,l⟩,W⟩:=h
   have c:=l.cellAt j Q;rw[I] at c
   simp only[QaP] at c
   obtain⟨v,H,z,ab⟩:=l.reg j r I
   have T:w.cell? ⟨g j,0,none⟩=some v:=Qb H 0 _ Z;obtain⟨a,u,rfl,-,-⟩:=z.form
   have U:Hid (∃ s,Zv w b (Q1 O w w) (e.withP (e.p.giveAll (r.pages.take 0))) s o g/\Row w (fun x=>s x=j+3) 3 (.slice a r.pages.length u) r.pages/\Qz O (Q1 O w w) w w) :=
    ⟨L,l.mono Qe0,z,Qz.refl_grow O w⟩
   obtain⟨gj,M⟩:∃ gj,g j=gj:=⟨_,Z⟩
   rw[M] at c T
   obtain⟨d,X⟩:∃ d,r.pages.length=d:=⟨_,Z⟩
   have R:Hid (r.pages.length=d):=X;rw[X] at T J U
   clear l W H z ab I hh X M;have ae:(j:Int)<16:=by omega
   go_enter func171,ntmps171
   go_wp2_with (go_at_call 217;refine(C.out).mono ?_;rintro e w' ⟨rfl,V⟩;have V:=V.symm;subst V)
   go_loopw [21] (fun i wr=>∃ m:Nat,m<=d/\i=Iv m/\∃ s,Zv wr b (Q1 O w wr) (e.withP (e.p.giveAll (r.pages.take m))) s o g/\Row wr (fun x=>s x=j+3) 3 (.slice a d u) r.pages/\Qz O (Q1 O w wr) w wr) (fun i _=>d - (intOf i).toNat)
   case atStart=>exact⟨0,by omega,Z,U.out⟩
   case round =>
    clear U c T C;obtain⟨m,hm,rfl,s,l,f,n⟩:=hrel
    have c0:=l.cell0;by_cases ad:m<d
    ·obtain⟨ga,rfl,-,-,-,-⟩:=f.head (by have:=R.out;omega)
     have cm:=f.cell m (by have:=R.out;omega);have y:=Qje r.pages m (by have:=R.out;omega);obtain⟨q,hq⟩:∃ q,r.pages.getD m 0=q:=⟨_,Z⟩
     rw[hq] at cm y
     have G:Hid (Calls prog 218 #[Pv o 0,Iv q] wr fun e' w'=>(∃ t,e'=.returned (.bool t))/\∃ L'',Zv w' b (Q1 O w w') (e.withP (e.p.giveAll (r.pages.take (m+1)))) L'' o g/\Row w' (fun x=>L'' x=j+3) 3 (.slice (some ⟨ga,0,none⟩) d u) r.pages/\Qz O (Q1 O w w') w w'):=by
      refine(QkS wr o (fun x=>s x=2) _ q l.pool).mono ?_
      rintro e' w' ⟨rfl,k1,k2⟩;refine⟨⟨_,Z⟩,QbA s 2 wr w',?_⟩
      obtain⟨N,P⟩:=l.stepPool k1 k2
      refine⟨?_,?_,n.trans_grow P⟩
      ·rw[y,PSt.giveAll_snoc]
       exact N.mono (fun x hx _=>Qb0 n.size x hx)
      ·exact(f.step k2 (fun x h1 h2=>by omega)).mono (fun x hx _=>(Zj l.all (by omega) (by omega) x).2 hx)
     have ac:(0:Int)<=m:=by omega
     have aa:(m:Int)<d:=by omega
     clear l f n hq y;go_wp2_with (go_at_call 218;refine(G.out).mono ?_;rintro e' F ⟨⟨t,rfl⟩,B⟩)
     have W5:Hid (∃ L'',Zv F b (Q1 O w F) (e.withP (e.p.giveAll (r.pages.take (m+1)))) L'' o g/\Row F (fun x=>L'' x=j+3) 3 (.slice (some ⟨ga,0,none⟩) d u) r.pages/\Qz O (Q1 O w F) w F):=B;clear B;go_wp2
     go_roundw
     case rel=>exact⟨m+1,by omega,by go_num,W5.out⟩
     case measure=>simp[intOf];omega
    ·have A:m=d:=by omega
     have K:r.pages.take m=r.pages:=by rw[A,<-R.out];simp
     rw[K] at l
     obtain⟨N,P⟩:=l.closed j Q
     have D:Hid (Zv (wr.setCell ⟨b,1+j,none⟩ (.pointer none)) b (Q1 O w wr) ((e.set j none).withP (e.p.giveAll r.pages)) s o g/\Qz (Q1 O w wr) (Q1 O w wr) wr (wr.setCell ⟨b,1+j,none⟩ (.pointer none))):=⟨N,P⟩;have S:Hid (Qz O (Q1 O w wr) w wr):=n;have cj:=l.cellAt j Q;have fj:=l.row.frozen (1+j);simp only[QaP] at cj
     have aa:¬ (m:Int)<d:=by omega
     clear N P n l f A K;go_wp2
     go_ret;rw[E.out]
     have eg:Q1 O w (wr.setCell ⟨b,1+j,none⟩ (.pointer none))=Q1 O w wr:=by unfold Q1;simp
     rw[eg]
     exact⟨Z,⟨_,_,D.out.1⟩,S.out.trans D.out.2⟩
set_option maxRecDepth 100000
theorem Qfs (l:List Int) (h:l≠[]):l.getD (l.length - 1) 0=l.getLastD 0:=by
 rcases List.eq_nil_or_concat l with a | ⟨b,k,a⟩
 ·exact absurd a h
 ·rw[a];simp[List.getD]
theorem QhU (w:World) (e:Nat) (O:Nat->Prop) (r:Reg) (n:Int) (h:QaL w e O r) (j:r.pages≠[]) (H:r.pages.length<=64) (o:0<=r.pages.getLastD 0) (y:r.pages.getLastD 0<64) (L:0<=r.used) (F:r.used<=16) (N:1<=n) (t:n<=16 - r.used) :
 Calls prog 281 #[Pv e 0,Iv n] w fun e' w'=>e'=.returned (Iv (16*r.pages.getLastD 0+r.used))/\QaL w' e O ⟨r.pages,r.used+n⟩/\Qz O O w w':=by
 obtain⟨v,b,d,g⟩:=h
 have i:r.left=16 - r.used:=by simp[Reg.left,j]
 have f:0<r.pages.length:=List.length_pos_iff.2 j;obtain⟨a,k,rfl,-,-⟩:=d.form
 obtain⟨z,rfl,-,-,-,-⟩:=d.head f
 have l:=d.cell (r.pages.length - 1) (by omega);rw[Qfs _ j] at l
 rw[i] at b
 have G:w.cell? ⟨e,0,none⟩=some (.slice (some ⟨z,0,none⟩) r.pages.length k):=Qb b 0 _ Z;have K:w.cell? ⟨e,1,none⟩=some (Iv (16 - r.used)):=Qb b 1 _ Z;have P:=Qj b 1
 have D:Hid (QaL (w.setCell ⟨e,1,none⟩ (Iv (16 - r.used - n))) e O ⟨r.pages,r.used+n⟩/\Qz O O w (w.setCell ⟨e,1,none⟩ (Iv (16 - r.used - n)))):=by
  refine⟨⟨.slice (some ⟨z,0,none⟩) r.pages.length k,?_,?_,g⟩,(Qz.refl O w).setCell (p:=⟨e,1,none⟩) g _⟩
  ·rw[Qh b]
   have:(Reg.mk r.pages (r.used+n)).left=16 - r.used - n:=by simp[Reg.left,j];omega
   rw[this];rfl
  ·refine d.keep (fun x M=>?_) d.2;obtain⟨c,J⟩:=d.block M
   exact Xd _ _ _ _ (Q8 J b (by decide))
 obtain⟨m,B⟩:∃ m,r.pages.length=m+1:=⟨r.pages.length - 1,by omega⟩
 rw[B] at G l H
 rw[show m+1 - 1=m by omega] at l
 obtain⟨q,A⟩:∃ q,r.pages.getLastD 0=q:=⟨_,Z⟩
 obtain⟨u,s⟩:∃ u,r.used=u:=⟨_,Z⟩
 have E:Hid (r.used=u):=s;rw[A] at l o y |-
 rw[s] at K L F t
 have C:(0:Int)<=m:=by omega
 have I:(m:Int)<(m+1:Nat):=by omega
 clear b d B A i f j s;go_enter func281,ntmps281
 go_wp2_with fail
 go_quiet (fail)
 go_wp2
 go_ret;rw[E.out] at D |-
 refine⟨?_,D.out.1,((Qz.refl O _).drewN _).setCell (p:=⟨e,1,none⟩) g _⟩
 show Ending.returned (Value.int .i64 ((q+1)*16 - (16 - u)))=_;rw[show (q+1)*16 - (16 - u)=16*q+u by omega]
theorem Qhz {b:Nat}{r:Reg}{q:Int}{i:Nat}{o:Obj}{B:Value}(u:w.heap[b]?=some (.cells #[v,B] 285 (0,0))) (t:Row w O 3 v r.pages) (E:O b)
 (F:w1.ownsRow 0 3 1 (.slice (some ⟨i,0,none⟩) (r.pages.length+1) cap) (r.pages.length+1) (r.pages.map (Value.int .i64)++[Iv q]))
 (a:(w.alloc o).grownBy w1 v.ownBlock) (k:v.ownBlock=some i\/i=w.heap.size+1) (y:i<w1.heap.size) :
 w1.cell? ⟨b,0,none⟩=some v/\w1.cell? ⟨b,1,none⟩=some B/\w1.frozen? ⟨b,0,none⟩=false/\w1.frozen? ⟨b,1,none⟩=false /\
 QaL ((w1.setCell ⟨b,0,none⟩ (.slice (some ⟨i,0,none⟩) (r.pages.length+1) cap)).setCell ⟨b,1,none⟩ (Iv 16)) b (Q1 O w w1) ⟨r.pages++[q],0⟩ /\
 Qz O (Q1 O w w1) w ((w1.setCell ⟨b,0,none⟩ (.slice (some ⟨i,0,none⟩) (r.pages.length+1) cap)).setCell ⟨b,1,none⟩ (Iv 16)):=by
 have l:=XC u
 have n:v.ownBlock≠some b:=fun e=>by
  obtain⟨c,H⟩:=t.block e
  exact absurd Z (Q8 H u (by decide))
 have f:∀ x,x<w.heap.size->v.ownBlock≠some x->w1.heap[x]?=w.heap[x]?:=fun x j z =>
  (a.block x (by simp;omega) (fun e=>z e.symm)).trans (Below.heap_alloc _ _ _ j)
 have d:=(f b l n).trans u;have I:w.heap.size+1<=w1.heap.size:=by have:=a.size;simpa using this
 have C:∀ x,O x\/w.heap.size<=x->x<w1.heap.size->Q1 O w w1 x:=fun x h s=>⟨h,s⟩;have g:=t.pushed (o:=o) F k y (Q1 O w w1) C
 have m:b≠i:=by
  intro e;subst e;rcases k with s | s
  ·exact n s
  ·omega
 have A:Q1 O w w1 b:=C b (Or.inl E) (by omega);refine⟨Qb d 0 _ Z,Qb d 1 _ Z,Qj d 0,Qj d 1,⟨.slice (some ⟨i,0,none⟩) (r.pages.length+1) cap,?_,?_,A⟩,?_⟩
 ·rw[Qh (Qh d 0 _) 1]
  have:(Reg.mk (r.pages++[q]) 0).left=16:=by simp[Reg.left]
  rw[this];rfl
 ·refine g.keep (fun x j=>?_) g.2;simp[Value.ownBlock] at j;subst j
  rw[Xd _ _ _ _ (Ne.symm m),Xd _ _ _ _ (Ne.symm m)]
 ·have G:Qz O (Q1 O w w1) w w1:=by
   refine⟨a.os,a.tape,a.output,by omega,fun x j D=>?_,fun x j=>j.1⟩
   exact f x j (fun e=>D (t.2 x e))
  exact(G.setCell (p:=⟨b,0,none⟩) A _).setCell (p:=⟨b,1,none⟩) A _
theorem Qlr (w:World) (b:Nat) (O:Nat->Prop) (e:Est) (L g:Nat->Nat) (a l:Nat) (h:Zv w b O e L a g) (j:e.p.nextK<0) :
 Calls prog 280 #[Pv b 0,Pv l 0] w fun e' w'=>e'=.returned (.bool false)/\QX w' b a (Q1 O w w') e/\Qz O (Q1 O w w') w w':=by
 have c:e.p.Ok:=h.pool.ok;have r:=h.cell0
 have G:Hid (Calls prog 289 #[Pv a 0] w fun e' w'=>e'=.returned (Iv e.p.nextK)/\QX w' b a (Q1 O w w') e/\Qz O (Q1 O w w') w w'):=by
  refine(Qgq w a (fun x=>L x=2) _ h.pool).mono ?_
  rintro e' w' ⟨rfl,n,m⟩;obtain⟨f,k⟩:=h.stepPool n m
  rw[PSt.take_none c j] at f
  exact⟨Z,⟨_,_,f⟩,k⟩
 obtain⟨q,i⟩:∃ q,e.p.nextK=q:=⟨_,Z⟩
 rw[i] at j G
 clear h i;go_enter func280,ntmps280
 go_wp2_with (go_at_call 289;refine(G.out).mono ?_;rintro e' o ⟨rfl,d⟩)
 go_ret;exact⟨Z,d⟩
theorem Qkd (w:World) (b:Nat) (O:Nat->Prop) (e:Est) (L g:Nat->Nat) (u j:Nat) (r:Reg) (h:Zv w b O e L u g) (hr:e.reg j=some r) (hl:r.pages.length<=64) (hk:0<=e.p.nextK) :
 Calls prog 280 #[Pv b 0,Pv (g j) 0] w fun e' w'=>e'=.returned (.bool true)/\∃ L',Zv w' b (Q1 O w w') ((e.set j (some ⟨r.pages++[e.p.nextK],0⟩)).withP e.p.take) L' u g/\Qz O (Q1 O w w') w w':=by
 have c0:=h.cell0;have B:=(PSt.nextK_lt h.pool.ok).2;have aa:=h.pool.ok.most
 have G:Hid (Calls prog 289 #[Pv u 0] w fun e' w'=>e'=.returned (Iv e.p.nextK)/\Zv w' b (Q1 O w w') (e.withP e.p.take) (QbA L 2 w w') u g/\Qz O (Q1 O w w') w w'):=by
  refine(Qgq w u (fun x=>L x=2) _ h.pool).mono ?_
  rintro e' w' ⟨rfl,k1,k2⟩;obtain⟨M,N⟩:=h.stepPool k1 k2
  exact⟨Z,M,N⟩
 obtain⟨q,hq⟩:∃ q,e.p.nextK=q:=⟨_,Z⟩
 rw[hq] at hk B G |-
 clear h hq;obtain⟨d,t⟩:∃ d,g j=d:=⟨_,Z⟩
 have K:Hid (g j=d):=t;rw[t]
 clear t;go_enter func280,ntmps280
 go_wp2_with fail
 refine(G.out).mono ?_
 rintro e' A ⟨rfl,R,T⟩;have y:(e.withP e.p.take).reg j=some r:=hr;obtain⟨v,C,E,I⟩:=R.reg j r y
 rw[K.out] at C I
 have cv:A.cell? ⟨d,0,none⟩=some v:=Qb C 0 _ Z;obtain⟨a,z,rfl,-,-⟩:=E.form
 have m:=E.1;obtain⟨i0,hi,Q,J,U⟩:=info_parts info_int
 have P:Hid (∀ k c i,i.ownsRow 0 3 1 (.slice (some ⟨k,0,none⟩) (r.pages.length+1) c) (r.pages.length+1) (r.pages.map (Value.int .i64)++[Iv q]) ->
  (A.alloc (.cells #[Iv q] 3)).grownBy i (Value.slice a r.pages.length z).ownBlock->((Value.slice a r.pages.length z).ownBlock=some k\/k=A.heap.size+1)->k<i.heap.size ->
  i.cell? ⟨d,0,none⟩=some (.slice a r.pages.length z)/\i.cell? ⟨d,1,none⟩=some (Iv r.left)/\i.frozen? ⟨d,0,none⟩=false/\i.frozen? ⟨d,1,none⟩=false /\
  ∃ L',Zv ((i.setCell ⟨d,0,none⟩ (.slice (some ⟨k,0,none⟩) (r.pages.length+1) c)).setCell ⟨d,1,none⟩ (Iv 16)) b (Q1 O w ((i.setCell ⟨d,0,none⟩ (.slice (some ⟨k,0,none⟩) (r.pages.length+1) c)).setCell ⟨d,1,none⟩ (Iv 16))) ((e.set j (some ⟨r.pages++[q],0⟩)).withP e.p.take) L' u g /\
   Qz O (Q1 O w ((i.setCell ⟨d,0,none⟩ (.slice (some ⟨k,0,none⟩) (r.pages.length+1) c)).setCell ⟨d,1,none⟩ (Iv 16))) w ((i.setCell ⟨d,0,none⟩ (.slice (some ⟨k,0,none⟩) (r.pages.length+1) c)).setCell ⟨d,1,none⟩ (Iv 16))):=by
  intro k c i F f n o;have S:=K.out;clear K;subst S;obtain⟨W,X,V,d4,H,d6⟩:=Qhz (r:=r) C E I F f n o
  refine⟨W,X,V,d4,?_⟩
  obtain⟨M,N⟩:=R.stepReg y H d6
  exact⟨_,M.mono (fun x hx _=>Qb0 T.size x hx),T.trans_grow N⟩
 obtain⟨l,s⟩:∃ l,r.pages.length=l:=⟨_,Z⟩
 rw[s] at cv m hl P
 clear C E I R T y s G c0;go_wp2_with (at_builtin;refine wpList_append_lies _ Z (.tmp 17) (.tmp 19) 76 Z 0 3 i0 (Iv 0) 1 8 under_ints hi Q J U Z (by decide) _ _ _ Z (m.alloc _) ⟨A.heap.size,0,none⟩ 1 1 [Iv q] Z Z (Qgh _ _ _) (QcY _) (by decide) (by unfold maxLen;omega) (by omega) (Xb _) (A.heap.size+1) (by simp) ?_)
 intro k c i F f n o;obtain⟨W,X,V,d4,H⟩:=P.out k c i F f n o
 have D:Hid (∃ L',Zv ((i.setCell ⟨d,0,none⟩ (.slice (some ⟨k,0,none⟩) (l+1) c)).setCell ⟨d,1,none⟩ (Iv 16)) b (Q1 O w ((i.setCell ⟨d,0,none⟩ (.slice (some ⟨k,0,none⟩) (l+1) c)).setCell ⟨d,1,none⟩ (Iv 16))) ((e.set j (some ⟨r.pages++[q],0⟩)).withP e.p.take) L' u g /\
  Qz O (Q1 O w ((i.setCell ⟨d,0,none⟩ (.slice (some ⟨k,0,none⟩) (l+1) c)).setCell ⟨d,1,none⟩ (Iv 16))) w ((i.setCell ⟨d,0,none⟩ (.slice (some ⟨k,0,none⟩) (l+1) c)).setCell ⟨d,1,none⟩ (Iv 16))):=H
 clear H F f n o m P;go_wp2
 go_ret;exact⟨Z,D.out⟩
theorem Qe1 (l:List Int) (h:l≠[]):l.getLastD 0∈l:=by
 rcases List.eq_nil_or_concat l with a | ⟨b,k,a⟩
 ·exact absurd a h
 ·rw[a];simp
theorem QlO (w:World) (b B:Nat) (O:Nat->Prop) (e:Est) (k n:Int) (h:Qdu w b B O e) :
 Calls prog 254 #[Pv b 0,Iv k,Iv n] w fun e' w'=>e'=.returned (.tuple #[Iv (e.getAt k n),Iv (e.getCode k n)])/\QX w' b B (Q1 O w w') (e.got k n)/\Qz O (Q1 O w w') w w':=by
 have C:Hid (Calls prog 217 #[Pv b 0,Iv k] w fun e' w'=>e'=.returned (.bool (e.has k))/\w'=w):=QhG w b B O e k h.1;have W:Hid (QX w b B O e):=h.1
 cases hh:e.has k with
 | false =>
   have E:Hid (e.getCode k n=15/\e.getAt k n=0/\e.got k n=e):=Est.get_none hh;rw[hh] at C
   clear h hh;go_enter func254,ntmps254
   go_wp2_with (go_at_call 217;refine(C.out).mono ?_;rintro e w' ⟨rfl,rfl⟩)
   go_ret2;rw[E.out.1,E.out.2.1,E.out.2.2]
   exact⟨Z,W.out.refl_grow,Qz.refl_grow O _⟩
 | true =>
   rw[hh] at C
   by_cases u:n<1\/16<n
   ·have E:Hid (e.getCode k n=1/\e.getAt k n=0/\e.got k n=e):=Est.get_range hh u;clear h hh;by_cases V:n<1
    ·clear u;go_enter func254,ntmps254
     go_wp2_with (go_at_call 217;refine(C.out).mono ?_;rintro e w' ⟨rfl,rfl⟩)
     go_ret2;rw[E.out.1,E.out.2.1,E.out.2.2]
     exact⟨Z,W.out.refl_grow,Qz.refl_grow O _⟩
    ·have X:16<n:=by omega
     clear u;go_enter func254,ntmps254
     go_wp2_with (go_at_call 217;refine(C.out).mono ?_;rintro e w' ⟨rfl,rfl⟩)
     go_ret2;rw[E.out.1,E.out.2.1,E.out.2.2]
     exact⟨Z,W.out.refl_grow,Qz.refl_grow O _⟩
   ·obtain⟨j,r,rfl,M,f⟩:=Est.has_true hh
    have F:=h.2.lenR f;have s:=h.2.used j r f;have V:¬ n<1:=by omega
    have X:¬ 16<n:=by omega
    obtain⟨⟨L,g,D⟩,d⟩:=h
    have c:=D.cellAt j M;rw[f] at c
    simp only[QaP] at c
    have I:w.cell? ⟨g j,1,none⟩=some (Iv r.left):=by
     obtain⟨v,P,ac,ad⟩:=D.reg j r f
     exact Qb P 1 _ Z
    have ae:(j:Int)<16:=by omega
    have a:r.pages≠[]->0<=r.pages.getLastD 0/\r.pages.getLastD 0<64:=fun h=>by
     have:=d.low (k:=j) (x:=r.pages.getLastD 0) (by rw[Est.at_some f];exact Qe1 _ h)
     have:=d.ok.most
     omega
    cases hm:r.more n with
    | false =>
      have E:Hid (e.getCode j n=0/\e.getAt j n=16*r.pages.getLastD 0+r.used/\e.got j n=e.set j (some ⟨r.pages,r.used+n⟩)):=Est.get_room M f u hm;obtain⟨A,K⟩:=Reg.room hm (by omega)
      have G:Hid (Calls prog 281 #[Pv (g j) 0,Iv n] w fun e' w'=>e'=.returned (Iv (16*r.pages.getLastD 0+r.used))/\QX w' b B (Q1 O w w') (e.set j (some ⟨r.pages,r.used+n⟩))/\Qz O (Q1 O w w') w w'):=by
       refine(QhU w (g j) _ r n (D.reg j r f) A F (a A).1 (a A).2 s.1 s.2 (by omega) K).mono ?_
       rintro e' w' ⟨rfl,S,T⟩;obtain⟨Q,R⟩:=D.stepReg f S T
       exact⟨Z,⟨_,_,Q⟩,R⟩
      have y:¬ r.left<n:=by simpa[Reg.more] using hm
      generalize 16*r.pages.getLastD 0+r.used=z at E G;generalize r.left=lf at I y;generalize g j=gk at c I G;clear D d f hh hm u a K A s;go_enter func254,ntmps254
      go_wp2_with (first | (go_at_call 217;refine(C.out).mono ?_;rintro e' w' ⟨rfl,o⟩;have o:=o.symm;subst o) | (go_at_call 281;refine(G.out).mono ?_;rintro e' w5 ⟨rfl,m⟩))
      go_ret2;rw[E.out.1,E.out.2.1,E.out.2.2]
      exact⟨Z,m⟩
    | true =>
      have y:r.left<n:=by simpa[Reg.more] using hm
      by_cases N:e.p.nextK<0
      ·have E:Hid (e.getCode j n=14/\e.getAt j n=0/\e.got j n=e):=Est.get_full M f u hm N;have G:Hid (Calls prog 280 #[Pv b 0,Pv (g j) 0] w fun e' w'=>e'=.returned (.bool false)/\QX w' b B (Q1 O w w') e/\Qz O (Q1 O w w') w w'):=Qlr w b O e L g B _ D N;generalize r.left=lf at I y;generalize g j=gk at c I G;clear D d f hh hm u a s N;go_enter func254,ntmps254
       go_wp2_with (first | (go_at_call 217;refine(C.out).mono ?_;rintro e' w' ⟨rfl,o⟩;have o:=o.symm;subst o) | (go_at_call 280;refine(G.out).mono ?_;rintro e' w5 ⟨rfl,m⟩))
       go_ret2;rw[E.out.1,E.out.2.1,E.out.2.2]
       exact⟨Z,m⟩
      ·have E:Hid (e.getCode j n=0/\e.getAt j n=16*e.p.nextK/\e.got j n=(e.set j (some ⟨r.pages++[e.p.nextK],n⟩)).withP e.p.take):=Est.get_more M f u hm N;have aa:=(PSt.nextK_lt d.ok).2;have ab:=d.ok.most;have H:=d.moreSet f (n:=0) (by omega) (by omega) (by omega);have t:((e.set j (some ⟨r.pages++[e.p.nextK],0⟩)).withP e.p.take).reg j=some ⟨r.pages++[e.p.nextK],0⟩:=by simp[Est.withP,Est.set]
       have q:=H.lenR t
       have G:Hid (Calls prog 280 #[Pv b 0,Pv (g j) 0] w fun e' w'=>e'=.returned (.bool true) /\
        Calls prog 281 #[Pv (g j) 0,Iv n] w' fun J l=>J=.returned (Iv (16*e.p.nextK))/\QX l b B (Q1 O w l) ((e.set j (some ⟨r.pages++[e.p.nextK],n⟩)).withP e.p.take)/\Qz O (Q1 O w l) w l):=by
        refine(Qkd w b O e L g B j r D f F (by omega)).mono ?_
        rintro e' w' ⟨rfl,L',p1,p2⟩;refine⟨Z,?_⟩
        refine(QhU w' (g j) _ _ n (p1.reg j _ t) (by simp) q (by simp;omega) (by simp;omega) (by simp) (by simp) (by omega) (by simp;omega)).mono ?_
        rintro J l ⟨rfl,S,T⟩;obtain⟨Q,R⟩:=p1.stepReg t S T
        refine⟨by simp,⟨QbA L' (j+3) w' l,g,?_⟩,p2.trans_grow R⟩
        have e1:((e.set j (some ⟨r.pages++[e.p.nextK],0⟩)).withP e.p.take).set j (some ⟨r.pages++[e.p.nextK],0+n⟩)=(e.set j (some ⟨r.pages++[e.p.nextK],n⟩)).withP e.p.take:=by
         simp only[Est.withP,Est.set]
         congr 1
         funext i
         by_cases hi:i=j<;>simp[hi]
        rw[<-e1]
        exact Q.mono (fun x hx _=>Qb0 p2.size x hx)
       generalize r.left=lf at I y;generalize g j=gk at c I G;clear D d f hh hm u a s H t q;go_enter func254,ntmps254
       go_wp2_with (first | (go_at_call 217;refine(C.out).mono ?_;rintro e' w' ⟨rfl,o⟩;have o:=o.symm;subst o) | (go_at_call 280;refine(G.out).mono ?_;rintro e' w5 ⟨rfl,m⟩) | (go_at_call 281;refine m.mono ?_;rintro e' w6 ⟨rfl,U⟩))
       go_ret2;rw[E.out.1,E.out.2.1,E.out.2.2]
       exact⟨Z,U⟩
set_option maxRecDepth 100000
theorem QlJ (w:World) (n:Int) (h:n<0\/64<n) :
 Calls prog 67 #[Iv n] w fun e w'=>e=.returned (.tuple #[.pointer none,.agg #[Iv 1,Iv (-1)]])/\Below w.heap.size w w':=by
 have C:Hid (∀ w,Calls prog 109 #[Iv n] w fun e w'=>e=.returned (.tuple #[.pointer none,.agg #[Iv 1,Iv (-1)]])/\Below w.heap.size w w'):=fun w=>QmI w n h;clear h;go_enter func67,ntmps67
 go_wp2_with fail
 refine(C.out _).mono ?_
 rintro e b ⟨rfl,c⟩;have a:b.heap[w.heap.size]?=some (.cells #[Iv 0,Iv 0] 32 (0,0)):=(c.block w.heap.size (by simp)).trans (Qe w _ _);have B:Hid (Below w.heap.size w b):=((Below.refl _ w).alloc Ze _).trans (c.mono (by simp));have d:=XC a;have g:b.cell? ⟨w.heap.size,0,none⟩=some (Iv 0):=Qb a 0 _ Z;have i:b.cell? ⟨w.heap.size,1,none⟩=some (Iv 0):=Qb a 1 _ Z;have l:=Qj a 0;have m:=Qj a 1;have j:w.heap.size<=w.heap.size:=Ze;generalize f:w.heap.size=X at *;clear a c;go_wp2
 go_region;go_wp2
 refine Xy (v:=.tuple #[.pointer none,.agg #[Iv 1,Iv (-1)]]) (by simp[results,results67,go_sem,g,i,d]) Z ⟨Z,?_⟩;have k:=((B.out.setCell (p:=⟨X,0,none⟩) (Nat.le_refl X) (Iv 1)).setCell (p:=⟨X,1,none⟩) (Nat.le_refl X) (Iv (-1)));rw[f]
 exact((k.alloc (by simp;omega) _)).drew
def Qfk (bp:Nat):Array Value:=#[Pv bp 0,.pointer none,.pointer none,.pointer none,.pointer none,.pointer none,.pointer none,.pointer none,.pointer none,.pointer none,.pointer none,.pointer none,.pointer none,.pointer none,.pointer none,.pointer none,.pointer none]
theorem QiD (a:Nat):∀ i,i<17->(Qfk a)[i]?=some (Qmd a (fun _=>none) (fun _=>0) i):=by
 intro i b
 have:i=0\/i=1\/i=2\/i=3\/i=4\/i=5\/i=6\/i=7\/i=8\/i=9\/i=10\/i=11\/i=12\/i=13\/i=14\/i=15\/i=16:=by omega
 rcases this with h | h | h | h | h | h | h | h | h | h | h | h | h | h | h | h | h<;>subst h<;>rfl
theorem Qmb (w:World) (n:Nat) (h:n<=64) (a X Y:Nat) (f:Qn w a (fun x=>X+1<=x/\x<Y) (PSt.new n)) (g:X<w.heap.size) (i:Y<=w.heap.size) :
 Qdu (w.alloc (.cells (Qfk a) 73)) w.heap.size a (fun x=>X<=x/\x<(w.alloc (.cells (Qfk a) 73)).heap.size) (Est.new n):=by
 refine⟨⟨fun x=>if x=w.heap.size then 1 else if X+1<=x/\x<Y then 2 else 0,fun _=>0,?_,?_,?_,?_,?_⟩,Est.ok_new n h⟩
 ·exact⟨Qfk a,Qe w _ _,Z,QiD a⟩
 ·simp
 ·refine(f.step (Qz.of_alloc (fun _=>False) w _) (fun _ _ h=>h)).mono (fun x b _=>?_)
  have:¬ x=w.heap.size:=by omega
  simp[this,b]
 ·intro k r d;simp[Est.new] at d
 ·intro x b;by_cases c:x=w.heap.size
  ·subst c;simp;omega
  ·by_cases e:X+1<=x/\x<Y
   ·simp;omega
   ·simp[c,e] at b
theorem Qko (w:World) (n:Nat) (h:n<=64) :
 Calls prog 67 #[Iv n] w fun e w'=>∃ b bp,e=.returned (.tuple #[Pv b 0,.agg #[Iv 0,Iv 0]])/\Qdu w' b bp (fun x=>w.heap.size<=x/\x<w'.heap.size) (Est.new n)/\Below w.heap.size w w':=by
 have C:Hid (∀ w,Calls prog 109 #[Iv n] w fun e w'=>∃ b,e=.returned (.tuple #[Pv b 0,.agg #[Iv 0,Iv 0]])/\Qn w' b (fun x=>w.heap.size<=x/\x<w'.heap.size) (PSt.new n)/\Below w.heap.size w w'):=fun w=>QlI w n h;go_enter func67,ntmps67
 go_wp2_with fail
 refine(C.out _).mono ?_
 rintro e a ⟨bp,rfl,i,f⟩;have c:a.heap[w.heap.size]?=some (.cells #[Iv 0,Iv 0] 32 (0,0)):=(f.block w.heap.size (by simp)).trans (Qe w _ _);have B:Hid (Below w.heap.size w a/\Qn a bp (fun x=>w.heap.size+1<=x/\x<a.heap.size) (PSt.new n)):=⟨((Below.refl _ w).alloc Ze _).trans (f.mono (by simp)),i.mono (fun x j _=>⟨by have:=j.1;simp at this;omega,j.2⟩)⟩;have g:=XC c;have k:a.cell? ⟨w.heap.size,0,none⟩=some (Iv 0):=Qb c 0 _ Z;have l:a.cell? ⟨w.heap.size,1,none⟩=some (Iv 0):=Qb c 1 _ Z;have o:=Qj c 0;have s:=Qj c 1;generalize d:w.heap.size=X at *;clear c f i;go_wp2
 refine Xy (v:=.tuple #[Pv (a.heap.size+1) 0,.agg #[Iv 0,Iv 0]]) (by simp[results,results67,go_sem,k,l,g]) Z ⟨a.heap.size+1,bp,Z,?_,?_⟩
 ·rw[d]
  have S:Qz (fun x=>x=X) (fun x=>x=X) a (((a.setCell ⟨X,0,none⟩ (Iv 0)).setCell ⟨X,1,none⟩ (Iv 0)).alloc (.cells #[Iv 0,Iv 0] 32)) :=
   (((Qz.refl (fun x=>x=X) a).setCell (p:=⟨X,0,none⟩) Z _).setCell (p:=⟨X,1,none⟩) Z _).alloc _
  have:=Qmb _ n h bp X a.heap.size (B.out.2.step S (fun x q r=>by omega)) (by simp;omega) (by simp)
  simpa[Qfk] using this
 ·rw[d]
  have m:=((B.out.1.setCell (p:=⟨X,0,none⟩) (Nat.le_refl X) (Iv 0)).setCell (p:=⟨X,1,none⟩) (Nat.le_refl X) (Iv 0));exact(m.alloc (by simp;omega) _).alloc (by simp;omega) _
theorem QX.cell0 {e:Est}(h:QX w b bp O e):w.cell? ⟨b,0,none⟩=some (Pv bp 0):=by
 obtain⟨L,g,h⟩:=h
 exact h.cell0
theorem PSt.place_true {s:PSt}{k:Int}(h:s.place k=true):0<=k/\k<16*s.pages:=by simpa[PSt.place] using h
theorem QcI (w:World) (b:Nat) (O:Nat->Prop) (s:PSt) (k:Int) (h:Qn w b O s) :
 Calls prog 256 #[Pv b 0,Iv k] w fun e w'=>e=.returned (.bool (s.place k))/\w'=w:=by
 obtain⟨d,n,i,f,j,r,o,g,a,c⟩:=h
 have q:w.cell? ⟨b,0,none⟩=some (.slice (some ⟨d,0,none⟩) n n):=Qb f 0 _ Z;have p:=c.most;by_cases l:0<=k
 ·by_cases m:k<(n:Int)
  ·have E:Hid (s.place k=true):=by show s.place k=true;simp[PSt.place];omega
   clear a;go_enter func256,ntmps256
   go_wp2
   go_ret;exact⟨by rw[E.out];rfl,Z⟩
  ·have E:Hid (s.place k=false):=by show s.place k=false;simp[PSt.place];omega
   clear a;go_enter func256,ntmps256
   go_wp2
   go_ret;exact⟨by rw[E.out];rfl,Z⟩
 ·have E:Hid (s.place k=false):=by show s.place k=false;simp[PSt.place];omega
  clear a;go_enter func256,ntmps256
  go_wp2
  go_ret;exact⟨by rw[E.out];rfl,Z⟩
theorem Qky (w:World) (b:Nat) (O:Nat->Prop) (s:PSt) (k:Int) (h:Qn w b O s) :
 Calls prog 255 #[Pv b 0,Iv k] w fun e w'=>e=.returned (.tuple #[Iv (s.load k),.bool (s.place k)])/\w'=w:=by
 have c:=QcI w b O s k h;obtain⟨f,n,q,l,g,v,t,p,d,m⟩:=h
 have u:w.cell? ⟨b,0,none⟩=some (.slice (some ⟨f,0,none⟩) n n):=Qb l 0 _ Z
 cases hpl:s.place k with
 | true =>
   rw[hpl] at c
   have E:Hid (s.load k=s.ws k.toNat):=by show _=_;simp[PSt.load,hpl]
   obtain⟨a,j⟩:=PSt.place_true hpl
   obtain⟨i,rfl⟩:=Xc a
   have o:i<n:=by omega
   have r:w.cell? ⟨f,i,none⟩=some (Iv (s.ws i)):=g.cell o;have C:Hid (Calls prog 256 #[Pv b 0,Iv i] w fun e w'=>e=.returned (.bool true)/\w'=w):=c;clear c d a j hpl;go_enter func255,ntmps255
   go_wp2_with (go_at_call 256;refine(C.out).mono ?_;rintro e w' ⟨rfl,rfl⟩)
   go_ret2;exact⟨by rw[E.out];rfl,Z⟩
 | false =>
   rw[hpl] at c
   have E:Hid (s.load k=0):=by show _=_;simp[PSt.load,hpl]
   have C:Hid (Calls prog 256 #[Pv b 0,Iv k] w fun e w'=>e=.returned (.bool false)/\w'=w):=c;clear c d hpl;go_enter func255,ntmps255
   go_wp2_with (go_at_call 256;refine(C.out).mono ?_;rintro e w' ⟨rfl,rfl⟩)
   go_ret2;exact⟨by rw[E.out];rfl,Z⟩
theorem Qn.stored {s:PSt}{a:Nat}{f:Value}(t:w.heap[b]?=some (.cells #[.slice (some ⟨a,0,none⟩) n n,f,Iv s.fresh] 134 (0,0)))
 (r:w.rowIs a 2 n (fun i=>Iv (s.ws i))) (q:Row w O 3 f s.given) (v:O b) (p:O a) (u:n=16*s.pages) (o:s.Ok) (i:Nat) (hi:i<n) (x:Int) :
 Qn (w.setCell ⟨a,i,none⟩ (Iv x)) b O (s.store i x):=by
 have m:s.place i=true:=by simp[PSt.place];omega
 have e:s.store i x={ s with ws:=fun j=>if (j:Int)=i then x else s.ws j }:=by simp[PSt.store,m]
 rw[e]
 obtain⟨z,d,_,_⟩:=id r
 have k:b≠a:=Q8 t d (by decide);refine⟨a,n,f,?_,?_,?_,v,p,u,?_⟩
 ·rw[Xd _ _ _ _ k];exact t
 ·refine(r.set i (Iv x)).congr fun j A=>?_
  by_cases e:j=i
  ·subst e;simp
  ·simp[e];intro h;omega
 ·refine q.keep (fun g l=>?_) q.2;obtain⟨c,y⟩:=q.block l
  exact Xd _ _ _ _ (Q8 y d (by decide))
 ·have:=PSt.ok_store o i x;rw[e] at this;exact this
theorem QiY (w:World) (b:Nat) (O:Nat->Prop) (s:PSt) (k x:Int) (h:Qn w b O s) :
 Calls prog 221 #[Pv b 0,Iv k,Iv x] w fun e w'=>e=.returned (.bool (s.place k))/\Qn w' b O (s.store k x)/\Qz O O w w':=by
 have c:=QcI w b O s k h;have f:=h;obtain⟨d,n,u,o,g,t,r,a,j,l⟩:=h
 have y:w.cell? ⟨b,0,none⟩=some (.slice (some ⟨d,0,none⟩) n n):=Qb o 0 _ Z
 cases hpl:s.place k with
 | true =>
   rw[hpl] at c
   obtain⟨m,q⟩:=PSt.place_true hpl
   obtain⟨i,rfl⟩:=Xc m
   have p:i<n:=by omega
   have v:w.cell? ⟨d,i,none⟩=some (Iv (s.ws i)):=g.cell p;have z:w.frozen? ⟨d,i,none⟩=false:=g.frozen i;have E:Hid (Qn (w.setCell ⟨d,i,none⟩ (Iv x)) b O (s.store i x)):=Qn.stored o g t r a j l i p x;have C:Hid (Calls prog 256 #[Pv b 0,Iv i] w fun e w'=>e=.returned (.bool true)/\w'=w):=c;clear c j m q hpl f;go_enter func221,ntmps221
   go_wp2_with (go_at_call 256;refine(C.out).mono ?_;rintro e w' ⟨rfl,rfl⟩)
   go_ret;exact⟨Z,E.out,(Qz.refl O _).setCell a _⟩
 | false =>
   rw[hpl] at c
   have E:Hid (s.store k x=s):=by show _=_;simp[PSt.store,hpl]
   have H:Hid (Qn w b O s):=f;have C:Hid (Calls prog 256 #[Pv b 0,Iv k] w fun e w'=>e=.returned (.bool false)/\w'=w):=c;clear c j hpl f;go_enter func221,ntmps221
   go_wp2_with (go_at_call 256;refine(C.out).mono ?_;rintro e w' ⟨rfl,rfl⟩)
   go_ret;exact⟨Z,by rw[E.out];exact H.out,Qz.refl O _⟩
theorem Xh:type_of% @And.intro:=@And.intro
section
variable {w w' w2:World}{b most:Nat}{m:List (MFunc 6)}{R R':RM}{g g1:WG}
theorem WAt.cellE (S:WAt w b most m R g):w.cell? ⟨b,0,none⟩=some (Pv g.be 0):=Qb S.box 0 _ Z
theorem WAt.cellP (S:WAt w b most m R g):w.cell? ⟨g.be,0,none⟩=some (Pv g.bp 0):=S.est.1.cell0
theorem WAt.loadC (S:WAt w b most m R g) (k:Int):Calls prog 255 #[Pv g.bp 0,Iv k] w fun e w'=>e=.returned (.tuple #[Iv (R.load k),.bool (R.e.p.place k)])/\w'=w:=by
 obtain⟨⟨L,a,h⟩,-⟩:=S.est
 exact Qky w g.bp _ R.e.p k h.pool
theorem WAt.storeC (S:WAt w b most m R g) (k n:Int):Calls prog 221 #[Pv g.bp 0,Iv k,Iv n] w fun e w'=>e=.returned (.bool (R.e.p.place k))/\WTo g w w' b most m (R.stored k n):=by
 obtain⟨⟨L,j,h⟩,a⟩:=S.est
 refine(QiY w g.bp _ R.e.p k n h.pool).mono ?_
 rintro e w' ⟨rfl,c,d⟩;obtain⟨f,i⟩:=h.stepPool c d
 exact⟨Z,S.toEst ⟨_,j,f⟩ i (a.store k n)⟩
theorem WAt.getC (S:WAt w b most m R g) (h n:Int):Calls prog 254 #[Pv g.be 0,Iv h,Iv n] w fun e w'=>e=.returned (.tuple #[Iv (R.e.getAt h n),Iv (R.e.getCode h n)])/\WTo g w w' b most m { R with e:=R.e.got h n }:=by
 refine(QlO w g.be g.bp _ R.e h n S.est).mono ?_
 rintro e w' ⟨rfl,a,c⟩;exact⟨Z,S.toEst a c (S.est.2.got h n)⟩
theorem WAt.openC (S:WAt w b most m R g):Calls prog 170 #[Pv g.be 0] w fun e w'=>e=.returned (Iv R.e.openK)/\WTo g w w' b most m { R with e:=R.e.opened }:=by
 refine(Qkz w g.be g.bp _ R.e S.est.1).mono ?_
 rintro e w' ⟨rfl,a,c⟩;exact⟨Z,S.toEst a c S.est.2.opened⟩
theorem WAt.shutC (S:WAt w b most m R g) (h:Int):Calls prog 171 #[Pv g.be 0,Iv h] w fun e w'=>e=.returned (.bool (R.e.has h))/\WTo g w w' b most m { R with e:=R.e.shut h }:=by
 refine(Qk8 w g.be g.bp _ R.e h S.est).mono ?_
 rintro e w' ⟨rfl,a,c⟩;exact⟨Z,S.toEst a c (S.est.2.shut h)⟩
theorem QbK (S:WAt w b most m R g) (k:Int):Calls prog 220 #[Pv b 0,Iv k] w fun e w'=>e=.returned (Iv (R.load k))/\w'=w:=by
 have C:=Qc (S.loadC k);have d:=S.cellE;have c:=S.cellP;clear S;generalize R.load k=x at *;generalize R.e.p.place k=y at *;go_enter func220,ntmps220
 go_wp2_with (go_at_call 255;refine C.out.mono ?_;rintro f w' ⟨rfl,a⟩;have a:=a.symm;subst a)
 go_ret;exact⟨Z,Z⟩
def Qlh (R:RM) (a k:Int) (e:Ending):Prop:=(0<=k/\k<R.load a/\e=.returned (Iv (wrap64 (wrap64 (a+1)+k))))\/(¬ (0<=k/\k<R.load a)/\e=.panicked (QdF 2))
theorem Qco (S:WAt w b most m R g) (a k:Int):Calls prog 222 #[Pv b 0,Iv a,Iv k] w fun e w'=>Qlh R a k e/\w'=w:=by
 have C:=Qc (QbK S a);clear S;by_cases d:0<=k
 ·have j:decide (k>=0)=true:=by simpa using d
  by_cases f:k<R.load a
  ·have l:decide (k<R.load a)=true:=by simpa using f
   have E:Hid (Qlh R a k (.returned (Iv (wrap64 (wrap64 (a+1)+k))))):=.inl ⟨d,f,Z⟩;clear d f;go_enter func222,ntmps222
   go_wp2_with (first | (go_at_call 220;refine C.out.mono ?_;rintro i w' ⟨rfl,c⟩;have c:=c.symm;subst c) | (go_at_call 111;refine(QaJ _ _).mono ?_;rintro i w' ⟨rfl,c⟩;have c:=c.symm;subst c))
   go_ret;exact⟨E.out,Z⟩
  ·have l:decide (k<R.load a)=false:=by simpa using f
   have E:Hid (Qlh R a k (.panicked (QdF 2))):=.inr ⟨fun h=>f h.2,Z⟩;clear d f;go_enter func222,ntmps222
   go_wp2_with (go_at_call 220;refine C.out.mono ?_;rintro i w' ⟨rfl,c⟩;have c:=c.symm;subst c)
   refine(Qab _ _).mono ?_
   rintro i w' ⟨rfl,c⟩;subst c;exact⟨Z,E.out,Z⟩
 ·have j:decide (k>=0)=false:=by simpa using d
  have E:Hid (Qlh R a k (.panicked (QdF 2))):=.inr ⟨fun h=>d h.1,Z⟩;clear d;go_enter func222,ntmps222
  go_wp2_with fail
  refine(Qab _ _).mono ?_
  rintro i w' ⟨rfl,c⟩;subst c;exact⟨Z,E.out,Z⟩
def RM.thinged (R:RM) (h size:Int) (l:List Int):RM:={ R with e:=(R.e.got h size).withP ((R.e.got h size).p.puts (R.e.getAt h size) l) }
def ThW (g:WG) (w:World) (b most:Nat) (m:List (MFunc 6)) (R:RM) (h size:Int) (l:List Int) (e:Ending) (w':World):Prop :=
 (R.e.getCode h size=0/\e=.returned (Iv (R.e.getAt h size))/\WTo g w w' b most m (R.thinged h size l))\/(R.e.getCode h size≠0/\e=.panicked (QdF 6)/\WTo g w w' b most m R)
theorem Qey (x:Int):∀ (l:List Int) (s:PSt) (k:Int),s.puts k (l++[x])=(s.puts k l).store (k+l.length) x
 | [],s,k=>by simp[PSt.puts]
 | y::l,s,k=>by
   have:=Qey x l (s.store k y) (k+1)
   simp only[List.cons_append,PSt.puts,this,List.length_cons]
   congr 1
   omega
theorem WIn.at (h:WIn w O l (.slice a n c)) (b:l[i]?=some x):∃ k o,a=some ⟨k,o,none⟩/\O k/\w.cell? ⟨k,o+i,none⟩=some (Iv x):=by
 obtain⟨p,d,e,h⟩:=h
 cases e
 have j:=(Zi b).1;obtain⟨k,o,m,f,-,g⟩:=h i j
 refine⟨k,o,m,f,?_⟩
 rw[g]
 simp[List.getD,b]
theorem QdC (S:WAt w b most m R g) (h size:Int)(X:l.length=n) (hb:n<=1000) (B:WIn w (fun x=>g.ow x=0) l (.slice a n c)) :
 Calls prog 219 #[Pv b 0,Iv h,Iv size,.slice a n c] w fun e w'=>ThW g w b most m R h size l e w':=by
 have C:=Qc (S.getC h size);have N:=Qc (QhI S.est.2 h size);have Q:=S.cellE;have HS:=Qc S;have HL:=Qc B;have T:=Qc X;clear S B X;by_cases f:R.e.getCode h size=0
 ·have F:=Qc f;rw[f] at C
  clear f;obtain⟨A,P⟩:∃ A,R.e.getAt h size=A:=⟨_,Z⟩
  have EA:=Qc P;rw[P] at C N
  clear P;go_enter func219,ntmps219
  go_upto_region 2 with (go_at_call 254;refine C.out.mono ?_;rintro G r ⟨rfl,L⟩)
  obtain⟨H,K,s,c2,f2⟩:=L
  have K:=Qc K;have s:=Qc s;have CF:=Qc (Xh c2 f2)
  have u:Hid (WIn r (fun x=>H.ow x=0) l (.slice a n c)):=by
   refine WIn.keep (fun k t B=>s.out.block k B (fun e=>e t)) (fun k t B=>?_) HL.out;refine Xq.1 fun O=>?_;rcases s.out.own k O with h | h
   ·exact h t
   ·omega
  clear c2 f2 Q C HL;go_wp2_with (go_at_call 111;refine(QaJ _ _).mono ?_;rintro G w' ⟨rfl,y⟩;have y:=y.symm;subst y)
  go_loopw [28] (fun i wr=>∃ q:Nat,q<=n/\i=Iv q/\WTo H r wr b most m { R with e:=(R.e.got h size).withP ((R.e.got h size).p.puts A (l.take q)) }) (fun i _=>n - (intOf i).toNat)
  case atStart=>exact⟨0,Xb _,Z,⟨H,by simpa[PSt.puts,Est.withP] using K.out,⟨Qz.refl _ _,Z,Z⟩,Z,Z⟩⟩
  case round =>
   obtain⟨q,hq,rfl,g3,d,z,I,D⟩:=hrel
   by_cases M:q<n
   ·have aa:(q:Int)<n:=by omega
    obtain⟨x,W⟩:∃ x,l[q]?=some x:=⟨_,Zg (by rw[T.out];exact M)⟩
    obtain⟨k,o,rfl,t,J⟩:=u.out.at W
    have J:wr.cell? ⟨k,o+q,none⟩=some (Iv x):=(XU (w:=r) (a:=⟨k,o+q,none⟩) (z.block k (Xi r _ J) (fun e=>e t))).trans J;have Q:=d.cellE;have q1:=d.cellP;have C3:=Qc (d.storeC (A+q) x);have EW:Hid (wrap64 (A+(q:Int))=A+q):=by show _=_;have:=N.out;unfold wrap64;omega
    have R3:Hid (∀ E,WTo g3 wr E b most m (RM.stored { R with e:=(R.e.got h size).withP ((R.e.got h size).p.puts A (l.take q)) } (A+q) x)->WTo H r E b most m { R with e:=(R.e.got h size).withP ((R.e.got h size).p.puts A (l.take (q+1))) }):=by
     intro E j;have j:=WTo.then z I D j;have e1:l.take (q+1)=l.take q++[x]:=by rw[XV,W];rfl
     have e2:(l.take q).length=q:=by rw[List.length_take,T.out];omega
     rw[e1,Qey,e2]
     exact j
    clear d z I D W t K u s F N;generalize (R.e.got h size).p.puts A (l.take q)=st at *;go_wp2_with (rw[EW.out];go_at_call 221;refine C3.out.mono ?_;rintro G E ⟨rfl,j⟩)
    have R5:=Qc (R3.out _ j);clear j R3 C3 J Q q1;go_wp2
    go_roundw
    case rel=>exact⟨q+1,by omega,by go_num,R5.out⟩
    case measure=>simp[intOf];omega
   ·have U:q=n:=by omega
    subst U
    have V:Hid (ThW g w b most m R h size l (.returned (Iv A)) wr):=by
     refine .inl ⟨F.out,by rw[EA.out],WTo.then s.out CF.out.1 CF.out.2 ?_⟩;unfold RM.thinged;rw[EA.out]
     have e:l.take q=l:=XO (by rw[T.out];exact Ze);rw[e] at d
     exact⟨g3,d,z,I,D⟩
    clear d z I D;go_wp2
    go_ret;exact V.out
 ·have d0:(R.e.getCode h size==0)=false:=by simpa using f
  have F:=Qc f;have EG:=Qc (Qlt f);clear f;obtain⟨cd,v⟩:∃ cd,R.e.getCode h size=cd:=⟨_,Z⟩
  rw[v] at C d0
  clear v;go_enter func219,ntmps219
  go_wp2_with (go_at_call 254;refine C.out.mono ?_;rintro G r ⟨rfl,L⟩)
  refine(Qab _ _).mono ?_
  rintro G w' ⟨rfl,y⟩;subst y;rw[EG.out] at L
  exact⟨Z,.inr ⟨F.out,Z,L⟩⟩
end
section
variable {w w' w2:World}{b most:Nat}{m:List (MFunc 6)}{R R':RM}{g g1:WG}
theorem ThW.then {h size:Int}{e:Ending}(T:WSt g g1 w w2) (f:g1.t.c=g.t.c) (i:g1.fs=g.fs) (H:ThW g1 w2 b most m R h size l e w'):ThW g w b most m R h size l e w':=by
 rcases H with ⟨a,c,d⟩|⟨a,c,d⟩
 ·exact .inl ⟨a,c,WTo.then T f i d⟩
 ·exact .inr ⟨a,c,WTo.then T f i d⟩
theorem QgY (S:WAt w b most m R g) (h:Int)(k:l.length=n) (o:n<=1000) (q:WIn w (fun x=>g.ow x=0) l (.slice a n c)) :
 Calls prog 172 #[Pv b 0,Iv h,.slice a n c] w fun e w'=>ThW g w b most m R h (if l.length=0 then 1 else (l.length:Int)) l e w':=by
 have C:=Qc (QdC S h (if l.length=0 then 1 else (l.length:Int)) k o q)
 have E:(if l.length=0 then 1 else (l.length:Int))=if (1:Int)<=n then (n:Int) else 1:=by
  rw[k]
  split<;>split<;>omega
 rw[E] at C |-
 have p:∀ (x y:Int),max x y=if y<=x then x else y:=fun x y=>by omega
 clear S k o q E;go_enter func172,ntmps172
 by_cases j:(1:Int)<=n
 ·rw[Xs j] at C |-
  have i:max (n:Int) 1=n:=by omega
  clear j p;go_wp2_with fail
  try rw[i]
  refine C.out.mono ?_;rintro s r (⟨f,rfl,d⟩|⟨f,rfl,d⟩)
  ·have R:=Qc (Xh f d);clear f d C i;go_wp2
   go_ret;exact .inl ⟨R.out.1,Z,R.out.2⟩
  ·exact⟨Z,.inr ⟨f,Z,d⟩⟩
 ·rw[Xr j] at C |-
  have i:max (n:Int) 1=1:=by omega
  clear j p;go_wp2_with fail
  try rw[i]
  refine C.out.mono ?_;rintro s r (⟨f,rfl,d⟩|⟨f,rfl,d⟩)
  ·have R:=Qc (Xh f d);clear f d C i;go_wp2
   go_ret;exact .inl ⟨R.out.1,Z,R.out.2⟩
  ·exact⟨Z,.inr ⟨f,Z,d⟩⟩
def QnZ (g:WG) (w:World) (b most:Nat) (m:List (MFunc 6)) (R:RM) (h n:Int) (e:Ending) (w':World):Prop :=
 (0<=n/\n<=15/\ThW g w b most m R h (n+1) [n] e w')\/(¬ (0<=n/\n<=15)/\e=.panicked (QdF 3)/\WTo g w w' b most m R)
theorem Qhb (S:WAt w b most m R g) (h n:Int) :
 Calls prog 173 #[Pv b 0,Iv h,Iv n] w fun e w'=>QnZ g w b most m R h n e w':=by
 by_cases k:0<=n
 ·have x:decide (n>=0)=true:=by simpa using k
  by_cases o:n<=15
  ·have z:decide (n<=15)=true:=by simpa using o
   have r:=ZP w (.cells #[Iv n] 2);have t:=S.below r;have A:=Qc (S.stepB r);have u:g.ow w.heap.size=0:=Xq.1 fun e=>by have:=S.lt _ e;omega
   have C:=Qc (QdC t h (n+1) (l:=[n]) (a:=some ⟨w.heap.size,0,none⟩) (n:=1) (c:=1) Z (by omega) ⟨_,1,Z,fun i y=>by
    have:i=0:=by simpa using y
    subst this;exact⟨w.heap.size,0,Z,u,by simp,Qb (Qe w #[Iv n] 2) 0 _ Z⟩⟩)
   have v:wrap64 (n+1)=n+1:=by unfold wrap64;omega
   have f:=Qc (Xh k o);clear S t r u k o;go_enter func173,ntmps173
   go_wp2_with (go_at_call 111;refine(QaJ _ _).mono ?_;rintro s w' ⟨rfl,j⟩;have j:=j.symm;subst j)
   try rw[v]
   refine C.out.mono ?_;rintro s B d;replace d:=d.then A.out Z Z;rcases d with ⟨p,rfl,d⟩|⟨p,rfl,d⟩
   ·have R:=Qc (Xh p d);clear p d C v;go_wp2
    go_ret;exact .inl ⟨f.out.1,f.out.2,.inl ⟨R.out.1,Z,R.out.2⟩⟩
   ·exact⟨Z,.inl ⟨f.out.1,f.out.2,.inr ⟨p,Z,d⟩⟩⟩
  ·have z:decide (n<=15)=false:=by simpa using o
   have q:=Qc S;have f:Hid (¬ n<=15):=o;clear S k o;go_enter func173,ntmps173
   go_wp2_with fail
   refine(Qab _ _).mono ?_
   rintro s w' ⟨rfl,j⟩;subst j;exact⟨Z,.inr ⟨fun h=>by have:=f.out;omega,Z,WTo.same q.out Zr⟩⟩
 ·have x:decide (n>=0)=false:=by simpa using k
  have q:=Qc S;have f:Hid (¬ 0<=n):=k;clear S k;go_enter func173,ntmps173
  go_wp2_with fail
  refine(Qab _ _).mono ?_
  rintro s w' ⟨rfl,j⟩;subst j;exact⟨Z,.inr ⟨fun h=>by have:=f.out;omega,Z,WTo.same q.out Zr⟩⟩
end
theorem Xu:type_of% @decide_eq_false:=@decide_eq_false
section
variable {w w' w2:World}{b most:Nat}{m:List (MFunc 6)}{R R':RM}{g g1:WG}
theorem WAt.setOut (S:WAt w b most m R g){n:Int}{v9:Value}{w9:World}(s:w9.ownsRow 0 2 1 v9 (R.out.length+1) (R.out.map (Value.int .i64)++[Iv n])) (c:w.grownBy w9 g.vo.ownBlock) (p:∀ k,v9.ownBlock=some k->g.vo.ownBlock=some k\/k=w.heap.size) :
 WTo g w (w9.setCell ⟨b,7,none⟩ v9) b most m { R with out:=R.out++[n] }:=by
 have j:=XC S.box;have d:∀ x,g.vo.ownBlock=some x->x≠b:=fun x a e=>by have:=S.oo x a;rw[e,S.ob] at this;omega
 have i:w9.heap[b]?=_:=(c.block b j (fun e=>d _ e.symm Z)).trans S.box
 have f:∀ k,v9.ownBlock=some k->k≠b:=fun k r e=>by
  rcases p k r with h | h
  ·exact d k h e
  ·omega
 have q:w.heap.size<=(w9.setCell ⟨b,7,none⟩ v9).heap.size:=by simpa using c.size
 have k:Wc g.ow (QcL g.ow 4 w (w9.setCell ⟨b,7,none⟩ v9)) (fun x=>x=1\/x=4) w (w9.setCell ⟨b,7,none⟩ v9):=Wc.marks S (by omega) c.os c.tape c.output q (fun x a o=>by
  rw[Xd _ _ _ _ (fun (e:x=b)=>o (.inl (e ▸ S.ob)))]
  exact c.block x a (fun e=>o (.inr (S.oo x e.symm))))
 have l:QbF (w9.setCell ⟨b,7,none⟩ v9) v9 (R.out++[n]):=by
  show World.ownsRow _ 0 _ 1 v9 (R.out++[n]).length ((R.out++[n]).map (Value.int .i64));rw[List.length_append,List.map_append]
  exact Q0 s (fun x a=>Xd _ _ _ _ (f x a))
 refine⟨{ g with vo:=v9,ow:=QcL g.ow 4 w (w9.setCell ⟨b,7,none⟩ v9) },⟨?_,S.kEst k (by omega),S.kMod k,S.kInp k,S.inpC,S.kCalls k (by omega),S.kBack k,l,S.kFrs k (fun x h e=>by omega),S.kob k,S.koc k,fun x a=>?_,k.lt,S.klow k⟩,⟨k.step,Z,Z⟩,Z,Z⟩
 ·have:=Qh i 7 v9
  simpa using this
 ·rcases p x a with h | h
  ·exact(QaU (S.out.lt h)).trans (S.oo x h)
  ·exact Qc7 (by omega) (l.lt a)
theorem Qf7 (S:WAt w b most m R g) (n:Int) (Q:R.out.length<=2000) :
 Calls prog 175 #[Pv b 0,Iv n] w fun e w'=>(R.out.length<2000/\e=.returned (.tuple #[])/\WTo g w w' b most m { R with out:=R.out++[n] })\/(¬ R.out.length<2000/\e=.panicked (QdF 8)/\WTo g w w' b most m R):=by
 obtain⟨L,M,t,p,z⟩:=iInfo64
 obtain⟨O,V,l⟩:=QaZ S.out
 have B:w.cell? ⟨b,7,none⟩=some g.vo:=Qb S.box 7 _ Z;rw[l] at B
 have G:=Qc S;have q:=Qc l;by_cases j:R.out.length<2000
 ·have K:decide ((R.out.length:Int)<2000)=true:=Xt (by omega);have s:=ZP w (.cells #[Iv n] 2);have i:=Qc (S.below s);have C:=Qc (S.stepB s);have o:=Qc i.out.out;have D:=Qc (QmW w [Iv n] 2);have H:Hid ((w.alloc (.cells #[Iv n] 2)).heap.size=w.heap.size+1):=by show _=_;simp
  have a:=Qc (fun v9 w9=>i.out.setOut (v9:=v9) (w9:=w9) (n:=n));have f:=Qc i.out.box;have d:Hid (∀ x,g.vo.ownBlock=some x->x≠b):=fun x N e=>by have:=S.oo x N;rw[e,S.ob] at this;omega
  have r:Hid (R.out.length<2000):=j;clear S l j s G;unfold QbF at o;rw[q.out] at o a d
  go_enter func175,ntmps175
  go_upto_region 1 with (go_at_call 111;refine(QaJ _ _).mono ?_;rintro J w' ⟨rfl,h⟩;have h:=h.symm;subst h)
  go_wp2_with (at_builtin;refine ZO _ Z _ _ 25 Z 2 L (Iv 0) 1 8 iUnder64 M t p z Z (by decide) _ _ _ Z o.out ⟨w.heap.size,0,none⟩ 1 1 [Iv n] Z Z D.out (by intro u E;simp at E;subst E;rfl) (by unfold maxLen;omega) (by omega) ?_)
  intro v9 w9 y A F;have R:=Qc (WTo.then C.out Z Z (a.out v9 w9 y A (fun k I=>(F k I).imp id (fun e=>by rw[H.out];exact e))));have c:=(A.block b (XC f.out) (fun e=>d.out b e.symm Z)).trans f.out;have W:w9.cell? ⟨b,7,none⟩=some g.vo:=Qb c 7 _ Z;have U:=Qj c 7;obtain⟨T,P,rfl⟩:=QaZ y
  clear y A F a c f o B D C i d;go_wp2
  exact Xz (v:=.tuple #[]) (by simp[results,results175,go_sem]) Z (.inl ⟨r.out,Z,R.out⟩)
 ·have K:decide ((R.out.length:Int)<2000)=false:=Xu (by omega);have r:Hid (¬ R.out.length<2000):=j;clear S l j;go_enter func175,ntmps175
  go_wp2_with fail
  refine(Qab _ _).mono ?_
  rintro J w' ⟨rfl,h⟩;subst h;exact⟨Z,.inr ⟨r.out,Z,WTo.same G.out Zr⟩⟩
def Qm7 (g:WG) (w:World) (b most:Nat) (m:List (MFunc 6)) (R:RM) (e:Ending) (w':World):Prop:=match R.inp with
 | []=>e=.panicked (QdF 4)/\WTo g w w' b most m R
 | n::l=>e=.returned (.int .i64 n)/\WTo g w w' b most m { R with inp:=l }
theorem QfF (S:WAt w b most m R g) (r:R.inp.length<=1000000) :
 Calls prog 174 #[Pv b 0] w fun e w'=>Qm7 g w b most m R e w':=by
 have o:w.cell? ⟨b,2,none⟩=some (.slice g.pi R.inp.length g.ci):=Qb S.box 2 _ Z;have y:=Qc S;unfold Qm7
 cases hi:R.inp with
 | nil =>
   rw[hi] at o
   clear S;go_enter func174,ntmps174
   go_wp2_with fail
   refine(Qab _ _).mono ?_
   rintro D w' ⟨rfl,a⟩;subst a;exact⟨Z,Z,WTo.same y.out Zr⟩
 | cons n l =>
   have c:=S.inp;have d:=S.inpC;rw[hi] at o c d
   obtain⟨K,s,z,-,u,H⟩:=ZH c (i:=0) (by simp)
   simp only[List.getD_cons_zero,Nat.add_zero] at H
   rw[z] at o c
   simp only[List.length_cons] at o d
   have P:=Qj S.box 2
   have v:intsL.In w (fun x=>g.ow x=0/\g.lk<=x/\x<b) l [.slice (some ⟨K,s+1,none⟩) l.length (g.ci - 1)]:=by
    refine⟨_,_,Z,fun i x M=>?_⟩
    obtain⟨N,O,A,f,p,t,E,G⟩:=Yf c (i:=i+1) (x:=x) (by simpa using M)
    injection f with f
    injection f with f e10
    subst f;subst e10;refine⟨_,_,A,Z,p,t,fun j J=>?_,G⟩
    have:=E j J
    rw[show s+1+i*Lay.int.size+j=s+(i+1)*Lay.int.size+j by simp[Lay.int];omega]
    exact this
   have q:∀ (pi:Option Addr) (ci:Nat),intsL.In w (fun x=>g.ow x=0/\g.lk<=x/\x<b) l [.slice pi l.length ci]->l.length<=ci->WTo g w (w.setCell ⟨b,2,none⟩ (.slice pi l.length ci)) b most m { R with inp:=l }:=fun pi ci p t=>by
    refine S.reBox (R':={ R with inp:=l }) Z Z Z (by simp) (fun k Q h=>Xd _ _ _ _ h) ⟨Z,Z,Z,Z⟩ (pi:=pi) (ci:=ci) (vb:=g.vb) ⟨p,t⟩ S.back ?_;rw[Qh S.box 2 _]
    simp
   have B:=Qc (q _ _ v (by omega))
   have F:Hid (l.length=0->∀ pi ci,WTo g w (w.setCell ⟨b,2,none⟩ (.slice pi l.length ci)) b most m { R with inp:=l }):=fun e pi ci=>q pi ci (by
    have:l=[]:=Xf.1 e
    subst this;exact Yg _ _ _ _ _) (by omega)
   have C:((g.ci:Int) - 1)=((g.ci - 1:Nat):Int):=by omega
   have L:l.length+1<=1000000:=by rw[hi] at r;simpa using r
   clear S c v y z hi r u q;generalize g.ci=ci at *;go_enter func174,ntmps174
   have I:decide (((l.length+1:Nat):Int)>0)=true:=Xt (by omega);go_upto_region 2 with (go_at_call 111;refine(QaJ _ _).mono ?_;rintro D w' ⟨rfl,a⟩;have a:=a.symm;subst a)
   clear I;go_wp2
   ·go_ret;exact⟨Z,F.out (by omega) _ _⟩
   ·go_ret;exact⟨Z,B.out⟩
end
theorem Xg:type_of% @Nat.le_of_ble_eq_true:=@Nat.le_of_ble_eq_true
def Qhy (w6:World) (fr:RFr) (v:Value) (w:World):Prop:=∃ k x n,v=Pv k 0/\w6.heap.size<=k/\w6.heap.size<=x/\WFr w k fr (.slice (some ⟨x,0,none⟩) n n)
def Qmw (w6:World) (fr:RFr) (v:Value) (w:World):Prop:=∃ x n,v=.agg (frA fr (.slice (some ⟨x,0,none⟩) n n))/\w6.heap.size<=x/\QbF w (.slice (some ⟨x,0,none⟩) n n) fr.v
theorem Qhy.below {w w':World}{fr:RFr}{v:Value}(h:Qhy w6 fr v w) (b:Below w.heap.size w w'):Qhy w6 fr v w':=by
 obtain⟨k,x,n,c,d,a,e⟩:=h
 exact⟨k,x,n,c,d,a,e.below b⟩
theorem Qmw.below {w w':World}{fr:RFr}{v:Value}(h:Qmw w6 fr v w) (b:Below w.heap.size w w'):Qmw w6 fr v w':=by
 obtain⟨x,n,d,e,a⟩:=h
 exact⟨x,n,d,e,Q0 a (fun y c=>b.block y (a.lt c))⟩
def QnN (w6:World) (fr:RFr) (c X fi bi na ca:Nat) (pa:Option Addr) (t:Tmp) (v:Value) (w:World):Prop :=
 match ([(14,Qhy w6 fr),(15,Qhy w6 fr),(16,Qmw w6 fr)]:List (Tmp × (Value->World->Prop))).lookup t with
 | some p=>p v w
 | none=>v=(([(0,.pointer (some ⟨c,0,none⟩)),(3,.pointer (some ⟨X,0,none⟩)),(4,.pointer (some ⟨c,0,none⟩)),(5,.pointer (some ⟨c,0,none⟩)),(6,.pointer (some ⟨c,0,none⟩)),(7,.pointer (some ⟨c,0,none⟩)),(8,.pointer (some ⟨c,0,none⟩)),(9,.int .i64 (fi:Int)),(10,.pointer (some ⟨X,0,none⟩)),(11,.int .i64 (bi:Int)),(12,.pointer (some ⟨X,2,none⟩)),(13,.slice pa na ca),(17,.pointer (some ⟨c,0,none⟩))]:List (Tmp × Value)).lookup t).getD undef
theorem wj1 {fr:RFr}{c s:Nat}(F:w6.cell? ⟨c,0,none⟩=some (Iv (fi:Int))) (J:w6.cell? ⟨X,0,none⟩=some (Iv (bi:Int))) (L:w6.cell? ⟨X,2,none⟩=some (.slice pa s ca)) (H:Hid (∀ wx,Below w6.heap.size w6 wx->Calls prog 216 #[Pv c 0,Iv (fi:Int),Iv (bi:Int),.slice pa s ca] wx fun e w'=>Qmf wx fr e w')){Q:Exit->Act->World->Prop}
 (a:Act) (m:Nat) (G:a.tmps.size=m) (y:18<=m) (I:a.tmps.getD 0 undef=Pv c 0) (i:a.tmps.getD 3 undef=Pv X 0)
 (hend:∀ ops vs w',(Qmw w6 fr) (vs 16) w'->vs 17=Pv c 0->Below w6.heap.size w6 w'->wpList prog ops Q (Qan 14 ((Tryz.f168.body.bind (Qi 1)).getD .skip)) (QM a vs [4,5,6,7,8,9,10,11,12,13,14,15,16,17]) w') :
 Code.wp prog ((Tryz.f168.body.bind (Qi 1)).getD .skip) Q a w6:=by
 conv=>arg 2;whnf
 refine Qg 14 (QnN w6 fr c X fi bi s ca pa) (fun w=>Below w6.heap.size w6 w) (fun w w'=>Below w.heap.size w w') (outs:=[0,3]) (gs:=[]) (bs:=[true,true,true,true,true,true,true,true,true,true,true,true,true,true]) (by kernel_rfl) (n:=18) G y (by kernel_rfl) (by kernel_rfl) ?hR ?hG (QI Zr 1) ⟨I,i,Y⟩ ?hA ?hend
 case hR =>
  intro t v w w' x h;unfold QnN at h |-;split at h
  ·rename_i p j
   simp only[List.lookup_cons,List.lookup_nil] at j
   split at j
   ·cases j;exact h.below x
   ·split at j
    ·cases j;exact h.below x
    ·split at j
     ·cases j;exact h.below x
     ·cases j
  ·exact h
 case hG=>exact Y
 case hend=>exact fun ops vs w' d f=>hend ops vs w' (f 16 (by kernel_rfl)) (f 17 (by kernel_rfl)) d
 case hA =>
  refine⟨fun a w d f K g=>?_,?_⟩
  ·obtain⟨b,-⟩:=f
   have b:a.tmps.getD 0 undef=Pv c 0:=b;go_simp;exact g _ _ Zr d Z
  refine⟨fun a w d f K g=>?_,?_⟩
  ·obtain⟨b,-⟩:=f
   have b:a.tmps.getD 0 undef=Pv c 0:=b;go_simp;exact g _ _ Zr d Z
  refine⟨fun a w d f K g=>?_,?_⟩
  ·obtain⟨b,-⟩:=f
   have b:a.tmps.getD 0 undef=Pv c 0:=b;go_simp;exact g _ _ Zr d Z
  refine⟨fun a w d f K g=>?_,?_⟩
  ·obtain⟨b,-⟩:=f
   have b:a.tmps.getD 6 undef=Pv c 0:=b;go_simp;exact g _ _ Zr d Z
  refine⟨fun a w d f K g=>?_,?_⟩
  ·obtain⟨b,-⟩:=f
   have b:a.tmps.getD 7 undef=Pv c 0:=b;go_simp;exact g _ _ Zr d Z
  refine⟨fun a w d f K g=>?_,?_⟩
  ·obtain⟨b,-⟩:=f
   have b:a.tmps.getD 8 undef=Pv c 0:=b;have C:=Qk F d;go_simp;exact g _ _ Zr d Z
  refine⟨fun a w d f K g=>?_,?_⟩
  ·obtain⟨b,-⟩:=f
   have b:a.tmps.getD 3 undef=Pv X 0:=b;go_simp;exact g _ _ Zr d Z
  refine⟨fun a w d f K g=>?_,?_⟩
  ·obtain⟨b,-⟩:=f
   have b:a.tmps.getD 10 undef=Pv X 0:=b;have C:=Qk J d;go_simp;exact g _ _ Zr d Z
  refine⟨fun a w d f K g=>?_,?_⟩
  ·obtain⟨b,-⟩:=f
   have b:a.tmps.getD 3 undef=Pv X 0:=b;go_simp;exact g _ _ Zr d Z
  refine⟨fun a w d f K g=>?_,?_⟩
  ·obtain⟨b,-⟩:=f
   have b:a.tmps.getD 12 undef=Pv X 2:=b;have C:=Qk L d;go_simp;exact g _ _ Zr d Z
  refine⟨fun a w d f K g=>?_,?_⟩
  ·obtain⟨b,A,D,B,-⟩:=f
   have b:a.tmps.getD 5 undef=Pv c 0:=b;have A:a.tmps.getD 9 undef=Iv (fi:Int):=A;have D:a.tmps.getD 11 undef=Iv (bi:Int):=D;have B:a.tmps.getD 13 undef=.slice pa s ca:=B;go_simp;refine Xm (H.out w d) ?_;rintro N S ⟨r,k,l,rfl,q,o,i,E⟩;go_simp;exact g _ _ E (d.trans (E.mono d.size)) ⟨r,k,l,Z,Zt d.size q,Zt d.size o,i⟩
  refine⟨fun a w d f K g=>?_,?_⟩
  ·obtain⟨b,-⟩:=f
   have b:(Qhy w6 fr) (a.tmps.getD 14 undef) w:=b;generalize u:a.tmps.getD 14 undef=z at b;obtain⟨r,k,l,rfl,q,o,i⟩:=b
   go_simp;exact g _ _ Zr d ⟨r,k,l,Z,q,o,i⟩
  refine⟨fun a w d f K g=>?_,?_⟩
  ·obtain⟨b,-⟩:=f
   have b:(Qhy w6 fr) (a.tmps.getD 15 undef) w:=b;generalize u:a.tmps.getD 15 undef=z at b;obtain⟨r,k,l,rfl,q,o,i⟩:=b
   have P:=Qb i.1 0 _ Z;have R:=Qb i.1 1 _ Z;have O:=Qb i.1 2 _ Z;have M:=Qb i.1 3 _ Z;go_simp;exact g _ _ Zr d ⟨k,l,Z,o,i.2⟩
  refine⟨fun a w d f K g=>?_,?_⟩
  ·obtain⟨b,-⟩:=f
   have b:a.tmps.getD 4 undef=Pv c 0:=b;go_simp;exact g _ _ Zr d Z
  trivial
section
variable {w w' w2:World}{b most:Nat}{m:List (MFunc 6)}{R R':RM}{g g1:WG}{c:Nat}{fr:RFr}{v:Value}
theorem QlL {w:World}{c:Nat}{a0 f i g:Value}(h:w.heap[c]?=some (.cells #[a0,f,i,g] 132 (0,0))) (a d e b:Value) :
 ((((w.setCell ⟨c,0,none⟩ a).setCell ⟨c,1,none⟩ d).setCell ⟨c,2,none⟩ e).setCell ⟨c,3,none⟩ b).heap[c]?=some (.cells #[a,d,e,b] 132 (0,0)):=by
 have:=Qh (Qh (Qh (Qh h 0 a) 1 d) 2 e) 3 b
 simpa using this
theorem WAt.newTop (S:WAt w b most m R g) (B:Below w.heap.size w w'){fr:RFr}{x:Nat}(p:w.heap.size<=x) (o:QbF w' (.slice (some ⟨x,0,none⟩) n n) fr.v) :
 WTo g w ((((w'.setCell ⟨g.t.c,0,none⟩ (Iv fr.f)).setCell ⟨g.t.c,1,none⟩ (Iv fr.b)).setCell ⟨g.t.c,2,none⟩ (Iv fr.i)).setCell ⟨g.t.c,3,none⟩ (.slice (some ⟨x,0,none⟩) n n)) b most m { R with top:=fr }:=by
 have F:=S.top;have d:=XC F.1;have j:w'.heap[g.t.c]?=_:=(B.block _ d).trans F.1
 have e:∀ k,k≠g.t.c->((((w'.setCell ⟨g.t.c,0,none⟩ (Iv fr.f)).setCell ⟨g.t.c,1,none⟩ (Iv fr.b)).setCell ⟨g.t.c,2,none⟩ (Iv fr.i)).setCell ⟨g.t.c,3,none⟩ (.slice (some ⟨x,0,none⟩) n n)).heap[k]?=w'.heap[k]?:=fun k a=>by
  rw[Xd _ _ _ _ a,Xd _ _ _ _ a,Xd _ _ _ _ a,Xd _ _ _ _ a]
 refine S.setTop B.os B.tape B.output (by simpa using B.size) (fun k a h _=>(e k h).trans (B.block k a)) ⟨QlL j _ _ _ _,Q0 o (fun y l=>?_)⟩ (fun k a=>.inr ?_)
 ·have:y=x:=by simpa[Value.ownBlock] using l.symm
  exact e y (by omega)
 ·have:k=x:=by simpa[Value.ownBlock] using a.symm
  omega
theorem Qi0 (S:WAt w b most m R g) (O:R.top.v.length<=1000000){t:MTo}(u:t.block=(bi:Int)){Q:Nat->Prop}{l:Option Addr}{k q:Nat}(J:intsL.In w Q t.args [.slice pa t.args.length ca]) (E:t.args.length<=1000) (r:QaA R.top.v t.args=some xs) :
 Calls prog 168 #[Pv g.t.c 0,.agg #[Iv t.block,.slice l k q,.slice pa t.args.length ca]] w fun e w'=>e=.returned (.tuple #[])/\WTo g w w' b most m { R with top:=⟨R.top.f,t.block.toNat,0,xs⟩ }:=by
 rw[u,XT]
 have o:=Qc (ZP w (.cells #[Iv (bi:Int),.slice l k q,.slice pa t.args.length ca] 82));have p:=Qc (Qe w #[Iv (bi:Int),.slice l k q,.slice pa t.args.length ca] 82);have i:=Qc (S.below o.out);have y:=Qc (S.stepB o.out);have z:=Qc (Ya J o.out);have K:=Qc r;have P:=Qc E;clear S J r E;go_enter func168,ntmps168
 go_upto_region 1 with fail
 generalize w.alloc (.cells #[Iv (bi:Int),.slice l k q,.slice pa t.args.length ca] 82)=s at o p i y z |-;generalize w.heap.size=X at p |-;have I:Hid (∀ j,Below s.heap.size s j->Calls prog 216 #[Pv g.t.c 0,Iv (R.top.f:Int),Iv (bi:Int),.slice pa t.args.length ca] j fun e w'=>Qmf j ⟨R.top.f,bi,0,xs⟩ e w'):=fun j H=>QdB (i.out.top.below H) O Z (by have:=P.out;omega) (Ya z.out H) K.out R.top.f bi;have D:s.cell? ⟨g.t.c,0,none⟩=some (Iv R.top.f):=Qb i.out.top.1 0 _ Z;have L:=Qb p.out 0 _ Z;have M:=Qb p.out 2 _ Z;refine wj1 D L M I _ _ Z (Xg (by kernel_rfl)) Z Z ?_;rintro B N F ⟨x,n,d,r,G⟩ h A;show wpList _ B _ [_] (QM _ N [4,5,6,7,8,9,10,11,12,13,14,15,16,17]) F;simp only[QM,Act.put,List.setIfInBounds_toArray,List.set_cons_zero,List.set_cons_succ,d,h]
 have C:=Qc (WTo.then y.out Z Z (i.out.newTop A r (fr:=⟨R.top.f,bi,0,xs⟩) G));have a:F.heap[g.t.c]?=_:=(A.block _ (XC i.out.top.1)).trans i.out.top.1;have V:=Qb a 0 _ Z;have c1:=Qb a 1 _ Z;have T:=Qb a 2 _ Z;have W:=Qb a 3 _ Z;have z0:=Qj a 0;have U:=Qj a 1;have z2:=Qj a 2;have z3:=Qj a 3;clear d h A D L M I G a i y K z;go_wp2
 exact Xz (v:=.tuple #[]) (by simp[results,results168,go_sem]) Z ⟨Z,C.out⟩
end
section
variable {w w' w5 w9:World}{b most:Nat}{m:List (MFunc 6)}{R R':RM}{g g1:WG}
theorem WAt.next (S:WAt w b most m R g):WTo g w (w.setCell ⟨g.t.c,2,none⟩ (Iv ((R.top.i:Int)+1))) b most m { R with top:={ R.top with i:=R.top.i+1 } }:=by
 obtain⟨⟨F,f,d⟩,-⟩:=S.frs
 refine S.setTop Z Z Z (by simp) (fun x a h _=>Xd _ _ _ _ h) (v:=g.t.v) ⟨?_,?_⟩ (fun x a=>.inl a)
 ·rw[Qh F.1 2 (Iv ((R.top.i:Int)+1))]
  simp
 ·exact Q0 F.2 (fun x a=>Xd _ _ _ _ (fun (e:x=g.t.c)=>by have:=d x a;rw[e,f] at this;omega))
theorem WAt.pushFr (S:WAt w b most m R g) (n:Below w.heap.size w w5){c i j:Nat}{fr:RFr}(F:WFr w5 c fr (.slice (some ⟨i,0,none⟩) j j)) (I:w.heap.size<=c) (E:w.heap.size<=i)
 {v9:Value} (C:w9.ownsRow 0 130 1 v9 (R.rest.length+1+1) (Qat (g.t::g.fs)++[Pv c 0])) (l:w5.grownBy w9 g.vc.ownBlock) (B:∀ k,v9.ownBlock=some k->g.vc.ownBlock=some k\/k=w5.heap.size) :
 ∃ g',WAt (w9.setCell ⟨b,4,none⟩ v9) b most m { R with top:=fr,rest:=R.top::R.rest } g'/\WSt g g' w (w9.setCell ⟨b,4,none⟩ v9)/\g'.fs=g.t::g.fs:=by
 have r:=XC S.box;have J:=n.size;have D:=l.size;have u:=XC F.1;have y:=F.2.lt (x:=i) Z
 have s:i≠c:=fun e=>by
  obtain⟨q,H⟩:=ZQ F.2 (x:=i) Z
  exact Q8 H F.1 (by decide) e
 have L:w.heap.size<=(w9.setCell ⟨b,4,none⟩ v9).heap.size:=by simp;omega
 have o:∀ x,g.vc.ownBlock=some x->x≠b:=fun x a e=>by have:=S.oc x a;rw[e,S.ob] at this;omega
 have p:w9.heap[b]?=_:=(l.block b (by omega) (fun e=>o _ e.symm Z)).trans ((n.block b r).trans S.box)
 have v:∀ k,v9.ownBlock=some k->k≠b:=fun k M e=>by
  rcases B k M with h | h
  ·exact o k h e
  ·omega
 have f:∀ k,w.heap.size<=k->k<w5.heap.size->(w9.setCell ⟨b,4,none⟩ v9).heap[k]?=w5.heap[k]?:=fun k N K=>by
  rw[Xd _ _ _ _ (fun (e:k=b)=>by omega)]
  exact l.block k K (fun e=>by have:=XC (ZQ S.calls e.symm).choose_spec;omega)
 let ow':Nat->Nat:=fun x=>if x<w.heap.size then g.ow x else if x<w9.heap.size then (if x=c then 5+2*(R.rest.length+1) else if x=i then 6+2*(R.rest.length+1) else 3) else 0
 have d:∀ x,x<w.heap.size->ow' x=g.ow x:=fun x a=>Xs a
 have k:Wc g.ow ow' (fun x=>x=1\/x=3) w (w9.setCell ⟨b,4,none⟩ v9):=⟨l.os.trans n.os,l.tape.trans n.tape,l.output.trans n.output,L,d,fun x a A=>by
  rw[Xd _ _ _ _ (fun (e:x=b)=>A (.inl (e ▸ S.ob)))]
  exact(l.block x (by omega) (fun e=>A (.inr (S.oc x e.symm)))).trans (n.block x a),by omega,fun x a=>by
  have:x<w9.heap.size:=by
   refine Xq.1 fun h=>a ?_;show (if x<w.heap.size then _ else if x<w9.heap.size then _ else 0)=0;rw[Xr (by omega),Xr h]
  simpa using this⟩
 have G:(w9.setCell ⟨b,4,none⟩ v9).ownsRow 0 130 1 v9 (R.rest.length+1+1) (Qat (⟨c,.slice (some ⟨i,0,none⟩) j j⟩::g.t::g.fs)):=by
  have e:Qat (⟨c,.slice (some ⟨i,0,none⟩) j j⟩::g.t::g.fs)=Qat (g.t::g.fs)++[Pv c 0]:=by simp[Qat]
  rw[e]
  exact Q0 C (fun x a=>Xd _ _ _ _ (v x a))
 refine⟨{ g with vc:=v9,t:=⟨c,.slice (some ⟨i,0,none⟩) j j⟩,fs:=g.t::g.fs,ow:=ow' },⟨?_,S.kEst k (by omega),S.kMod k,S.kInp k,S.inpC,G,S.kBack k,S.kOut k (by omega),⟨⟨F.keep (f c I u) (fun x a=>?_),?_,fun x a=>?_⟩,S.kFrs k (fun x h e=>by omega)⟩,S.kob k,fun x a=>?_,S.koo k,k.lt,S.klow k⟩,⟨k.step,Z,Z⟩,Z⟩
 ·have:=Qh p 4 v9
  simpa using this
 ·have:x=i:=by simpa[Value.ownBlock] using a.symm
  subst this;exact f x E y
 ·show (if c<w.heap.size then _ else if c<w9.heap.size then _ else 0)=_;rw[Xr (by omega),Xs (by omega),Xs Z]
  simp
 ·have:x=i:=by simpa[Value.ownBlock] using a.symm
  subst this;show (if x<w.heap.size then _ else if x<w9.heap.size then _ else 0)=_;rw[Xr (by omega),Xs (by omega),Xr s,Xs Z]
  simp
 ·rcases B x a with h | h
  ·exact(d x (XC (ZQ S.calls h).choose_spec)).trans (S.oc x h)
  ·have z:=XC (ZQ C a).choose_spec;show (if x<w.heap.size then _ else if x<w9.heap.size then _ else 0)=_;rw[Xr (by omega),Xs z,Xr (by omega),Xr (by omega)]
theorem WAt.next2 (S:WAt w b most m R g){y:WB}{t:List WB}{fr:RFr}{rest:List RFr}(o:g.fs=y::t) (l:R.rest=fr::rest) :
 WGo g w (w.setCell ⟨y.c,2,none⟩ (Iv ((fr.i:Int)+1))) b most m { R with rest:={ fr with i:=fr.i+1 }::rest }:=by
 have n:=S.frs;rw[o,l] at n
 obtain⟨⟨r,f,h⟩,⟨q,p,j⟩,u⟩:=n
 have d:∀ x,x≠y.c->(w.setCell ⟨y.c,2,none⟩ (Iv ((fr.i:Int)+1))).heap[x]?=w.heap[x]?:=fun x a=>Xd _ _ _ _ a;have k:Wc g.ow g.ow (fun x=>x=5+2*rest.length) w (w.setCell ⟨y.c,2,none⟩ (Iv ((fr.i:Int)+1))):=⟨Z,Z,Z,by simp,fun _ _=>rfl,fun x a s=>d x (fun e=>s (by rw[e];exact p)),by omega,fun x a=>by simpa using S.lt x a⟩;simp only[List.length_cons] at f h
 refine⟨g,⟨(S.kBox k (by omega)).trans S.box,S.kEst k (by omega),S.kMod k,S.kInp k,S.inpC,?_,S.kBack k,S.kOut k (by omega),?_,S.ob,S.oc,S.oo,k.lt,S.klow k⟩,⟨k.step,Z,Z⟩⟩
 ·have:=S.kCalls k (by omega)
  rw[l] at this
  exact this
 ·rw[o]
  refine⟨⟨r.keep (d _ (fun e=>?_)) (fun x a=>d x (fun e=>?_)),f,h⟩,⟨⟨?_,?_⟩,p,j⟩,u.keep (fun _ _=>rfl) (fun x a v z=>k.keep x a (by omega))⟩
  ·rw[e] at f;omega
  ·have:=h x a;rw[e] at this;omega
  ·rw[Qh q.1 2 (Iv ((fr.i:Int)+1))]
   simp
  ·exact Q0 q.2 (fun x a=>d x (fun e=>by have:=j x a;rw[e] at this;omega))
theorem WAt.pop (S:WAt w b most m R g){y:WB}{i:List WB}{d:RFr}{rest:List RFr}(p:g.fs=y::i) (u:R.rest=d::rest)(r:g.vc=.slice a (R.rest.length+1) cap) :
 ∃ g',WAt (w.setCell ⟨b,4,none⟩ (.slice a R.rest.length cap)) b most m { R with top:=d,rest:=rest } g'/\WSt g g' w (w.setCell ⟨b,4,none⟩ (.slice a R.rest.length cap))/\g'.t=y:=by
 have s:=S.frs;rw[p,u] at s
 have n:∀ x,g.vc.ownBlock=some x->x≠b:=fun x f e=>by have:=S.oc x f;rw[e,S.ob] at this;omega
 have k:Wc g.ow g.ow (fun x=>x=1) w (w.setCell ⟨b,4,none⟩ (.slice a R.rest.length cap)):=⟨Z,Z,Z,by simp,fun _ _=>rfl,fun x f z=>Xd _ _ _ _ (fun (e:x=b)=>z (e ▸ S.ob)),by omega,fun x f=>by simpa using S.lt x f⟩;have H:(Value.slice a R.rest.length cap).ownBlock=g.vc.ownBlock:=by rw[r];cases a<;>rfl
 refine⟨{ g with vc:=.slice a R.rest.length cap,t:=y,fs:=i },⟨?_,S.kEst k (by omega),S.kMod k,S.kInp k,S.inpC,?_,S.kBack k,S.kOut k (by omega),s.2.keep (fun _ _=>rfl) (fun x f K J=>k.keep x f (by omega)),S.ob,fun x f=>S.oc x (by rw[<-H];exact f),S.oo,k.lt,S.klow k⟩,⟨k.step,Z,Z⟩,Z⟩
 ·rw[Qh S.box 4 (.slice a R.rest.length cap)]
  simp
 ·obtain⟨I,A⟩:=S.calls
  have B:Qat (g.t::g.fs)=Qat (y::i)++[Pv g.t.c 0]:=by rw[p];simp[Qat]
  have q:(Qat (y::i)).length=R.rest.length:=by have:=S.rows;rw[p] at this;simpa[Qat] using this
  show World.ownsRow _ 0 _ 1 (.slice a R.rest.length cap) (rest.length+1) (Qat (y::i));have l:rest.length+1=R.rest.length:=by rw[u];simp
  rw[l]
  refine⟨by rw[q];simp,?_⟩
  rcases A with ⟨j,F⟩|⟨v,L,h,j,F,D,M,E,C,G⟩
  ·omega
  ·have o:=n v (by rw[j];rfl);rw[r] at j
   cases j
   refine .inr ⟨v,cap,h,Z,Xb _,(Xd _ _ _ _ o).trans D,by omega,E,C,?_⟩
   have:h.toList.take (R.rest.length*1)=(h.toList.take ((R.rest.length+1)*1)).take (R.rest.length*1):=by rw[List.take_take,Nat.min_eq_left (by omega)]
   rw[this,G,B,List.take_append_of_le_length (by omega),XO (by omega)]
end
theorem Qga {l l2:List Oper}{outs:List Tmp}{gs:List (Nat × Option Bool)}{a:Act}{w:World}{Q:Exit->Act->World->Prop}
 (E:(Nat->Bool)->Tmp->Value->World->Prop) (W:(Nat->Bool)->World->Prop) (PX:List PanicEntry->World->Prop) (F:∀ ch a' w',a'.defers=a.defers->PX ch w'->Q (.panic ch) a' w')
 (H:P.follows .mixedOrders=true)  (u:a.tmps.size=m) (c:n<=m) (x:QaY l n outs gs bs=true)
 (r:(Qcu 0 (l++l2)&&(Qbp l.length l&&QaK (l++l2) l.length l2))=true)
 (s:∀ S,ZJ (E S) l.toArray gs) (d:W (fun _=>false) w.drew) (y:Qak (E (fun _=>false)) a w.drew outs)
 (B:AllOkY E W PX P l 0 l bs)
 (b:∀ (vs:Tmp->Value) (S:Nat->Bool) w',(∀ j,j<l.length->S j=true)->W S w'->(∀ t,(Qt l).contains t=true->E S t (vs t) w')->wpList P (l++l2).toArray Q l2 (QM a vs (Qt l)) w') :
 (Code.region id (l++l2).toArray true).wp P Q a w:=by
 simp only[Bool.and_eq_true] at r
 obtain⟨i,p,f⟩:=r
 refine wp_region_any H ?_
 have k:wpAny P .any l.toArray (Exit.then (fun a w=>wpList P (l++l2).toArray Q l2 a w) Q) l.length (Array.replicate l.length false) a w.drew:=by
  have g:(fun j=>(Array.replicate l.length false).getD j false)=fun _=>false:=by
   funext j
   rw[Za,Array.getElem?_replicate]
   split<;>rfl
  refine Qbq (PX:=PX) (Q:=Exit.then (fun a w=>wpList P (l++l2).toArray Q l2 a w) Q) (a0:=a) (outs:=outs) (gs:=gs) (bs:=bs) (fun ch a' w' v G=>F ch a' w' v G) (Qay (u ▸ c) x) s B (fun vs S w' h d I=>b vs S w' h d I) _ _ _ _ (by simp) ?_ ⟨by rw[g];exact d,(by rw[g];intro j o _ h;cases h),Z,Z,fun _ _=>rfl,(fun t D _=>by rw[g];exact Qa6 outs y t D),?_⟩
  ·simp only[Array.toList_replicate]
   exact Zt (List.length_filter_le _ _) (by simp)
  ·intro j o t J L C;simp[Array.getD] at C
 have:=Qbu (Q:=Q) i p f l.length (Array.replicate l.length false) a w.drew (by simp) (fun q o K z=>by simp[Array.getD] at z) k
 have e:(Array.replicate l.length false++Array.replicate l2.length false:Array Bool)=Array.replicate (l++l2).toArray.size false:=by
  simp
 have A:l.length+l2.length=(l++l2).toArray.size:=by simp
 rw[e,A] at this
 exact this
theorem Zs {lo:List Oper}{outs:List Tmp}{gs:List (Nat × Option Bool)}{a:Act}{w:World}{Q:Exit->Act->World->Prop}
 (k:Nat) (E:(Nat->Bool)->Tmp->Value->World->Prop) (W:(Nat->Bool)->World->Prop) (PX:List PanicEntry->World->Prop) (o:∀ ch a' w',a'.defers=a.defers->PX ch w'->Q (.panic ch) a' w')
 (r:P.follows .mixedOrders=true)  (d:a.tmps.size=m) (c:n<=m) (g:QaY (lo.take k) n outs gs bs=true)
 (f:(Qcu 0 lo&&(Qbp (lo.take k).length (lo.take k)&&QaK lo (lo.take k).length (lo.drop k)))=true)
 (e:∀ S,ZJ (E S) (lo.take k).toArray gs) (q:W (fun _=>false) w.drew) (i:Qak (E (fun _=>false)) a w.drew outs)
 (p:AllOkY E W PX P (lo.take k) 0 (lo.take k) bs)
 (b:∀ ops (vs:Tmp->Value) (S:Nat->Bool) w',(∀ j,j<(lo.take k).length->S j=true)->W S w'->(∀ t,(Qt (lo.take k)).contains t=true->E S t (vs t) w')->wpList P ops Q (lo.drop k) (QM a vs (Qt (lo.take k))) w') :
 (Code.region id lo.toArray true).wp P Q a w:=by
 have h:=Qga (id:=id) (l:=lo.take k) (l2:=lo.drop k) (Q:=Q) E W PX o r d c g (by rw[List.take_append_drop];exact f) e q i p (b _);rwa [List.take_append_drop] at h
def Qnk (l:List Oper) (t:Tmp) (i:Nat):Bool:=(List.range l.length).all fun j=>match l[j]? with
 | some o=>(match o.dst with | some u=>u != t | none=>true)||j==i
 | none=>true
theorem Qkx {l:List Oper}{S:Nat->Bool}{t i:Nat}(k:Qm0 l S t) (d:(Qt l).contains t=true) (e:Qnk l t i=true):S i=true:=by
 obtain⟨j,o,c,f,g⟩:=k (by simpa using d)
 have b:=(Zi c).1;have a:=Xe.1 e j (by simpa using b);rw[c] at a
 simp only[f] at a
 have:j=i:=by
  rw[Bool.or_eq_true] at a
  rcases a with h | h
  ·simp at h
  ·simpa using h
 rw[<-this];exact g
def Zk (w6 w w':World):Prop:=∀ Z,w6.heap.size<=Z->Z<w.heap.size->w'.heap[Z]?=w.heap[Z]?
theorem Zk.refl (a w:World):Zk a w w:=fun _ _ _=>rfl
theorem Zk.below {a w w':World}(b:Below w.heap.size w w'):Zk a w w':=fun Z _ h=>b.block Z h
section
variable {w6 w w':World}{HP:World->Prop}{hk i:Nat}{S:Nat->Bool}
theorem WY.onB (h:WY w6 HP hk S w) (d:∀ w w',HP w->Below w.heap.size w w'->HP w') (hi:i≠hk) (b:Below w.heap.size w w'):WY w6 HP hk (Qcv i S) w':=by
 have e:Qcv i S hk=S hk:=Qnh (fun e=>hi e.symm);rcases h with ⟨c,a⟩|⟨c,a⟩
 ·exact .inl ⟨by rw[e];exact c,a.trans (b.mono a.size)⟩
 ·exact .inr ⟨by rw[e];exact c,d _ _ a b⟩
theorem WY.lowB (h:WY w6 HP hk S w) (a:∀ w,HP w->w6.heap.size<=w.heap.size):w6.heap.size<=w.heap.size:=by
 rcases h with h | h
 ·exact h.2.size
 ·exact a _ h.2
theorem WY.onS (h:WY w6 HP hk S w) (hi:i≠hk):WY w6 HP hk (Qcv i S) w:=by
 have e:Qcv i S hk=S hk:=Qnh (fun e=>hi e.symm);unfold WY;rw[e];exact h
end
def Qmq (w6:World) (xs:List Int) (n:Nat) (v:Value) (w:World):Prop:=∃ k,v=.slice (some ⟨k,0,none⟩) n n/\w6.heap.size<=k/\QbF w (.slice (some ⟨k,0,none⟩) n n) xs
def Qj7 (w6:World) (x:Int) (v:Value) (w:World):Prop:=∃ k,v=.slice (some ⟨k,0,none⟩) 1 1/\w6.heap.size<=k/\w.cell? ⟨k,0,none⟩=some (Iv x)
theorem Qmq.z (h:Qmq w6 xs n v w) (z:Zk w6 w w'):Qmq w6 xs n v w':=by
 obtain⟨k,d,b,c⟩:=h
 exact⟨k,d,b,Q0 c (fun y a=>by
  have:y=k:=by simpa[Value.ownBlock] using a.symm
  subst this;exact z y b (c.lt a))⟩
theorem Qj7.z (h:Qj7 w6 x v w) (z:Zk w6 w w'):Qj7 w6 x v w':=by
 obtain⟨k,d,b,c⟩:=h
 exact⟨k,d,b,(XU (w:=w) (a:=⟨k,0,none⟩) (z k b (Xi w _ c))).trans c⟩
theorem Qhy.z {fr:RFr}(h:Qhy w6 fr v w) (z:Zk w6 w w'):Qhy w6 fr v w':=by
 obtain⟨k,x,n,e,b,c,a⟩:=h
 exact⟨k,x,n,e,b,c,a.keep (z k b (XC a.1)) (fun y d=>by
  have:y=x:=by simpa[Value.ownBlock] using d.symm
  subst this;exact z y c (a.2.lt d))⟩
def QmM (w6:World) (fr:RFr) (v:Value) (w:World):Prop:=∃ k u,v=.slice (some ⟨k,0,none⟩) 1 1/\w6.heap.size<=k/\w.cell? ⟨k,0,none⟩=some u/\Qhy w6 fr u w
theorem QmM.z {fr:RFr}(h:QmM w6 fr v w) (z:Zk w6 w w'):QmM w6 fr v w':=by
 obtain⟨k,u,d,c,b,e⟩:=h
 exact⟨k,u,d,c,(XU (w:=w) (a:=⟨k,0,none⟩) (z k c (Xi w _ b))).trans b,e.z z⟩
theorem QgK {u:Value}(h:w.cell? ⟨k,0,none⟩=some u):∀ (j:Nat) (v:Value),[u][j]?=some v->w.cell? ((⟨k,0,none⟩:Addr).add j)=some v
 | 0,v,hv=>by simp at hv;subst hv;exact h
 | j+1,v,hv=>by simp at hv
theorem Qfb (w:World){o:Oper}{a:Act}{K:Act->World->Prop}{Q:Exit->Act->World->Prop}(s x:Operand) (t:TypeId)
 (E:o.op=.call { callee:=.builtin .append,args:=#[s,x],argTypes:=#[t,t] })
 (e:TypeId) (i:TypeInfo) (z:Value) (size d:Nat) (L:P.underlying t=some (.slice e)) (hi:P.info? e=some i) (J:i.zero=some z)
 (l:i.size=size) (y:i.bytes=d) (B:z.cells.size=size) (D:0<size)
 (v:Value) (n:Nat) (xs:List Value) (N:a.eval s=v) (q:w.ownsRow 0 e size v n xs)
 (C:Addr) (m c:Nat) (b:List Value) (O:a.eval x=.slice (some C) m c) (I:b.length=m*size) (g:∀ j u,b[j]?=some u->w.cell? (C.add j)=some u) (G:∀ u∈b,u.oneCell'=true)
 (A:n+m<=maxLen) (f:(n+m)*d<=140737488355328)
 (h:∀ v' w',w'.ownsRow 0 e size v' (n+m) (xs++b)->w.grownBy w' v.ownBlock->(∀ k,v'.ownBlock=some k->v.ownBlock=some k\/k=w.heap.size)->K (a.put o.dst v') w'):o.wp P a w K Q:=by
 obtain⟨v',w',F,M,H,_,p⟩:=run_append_own_at (P:=P) w 0 t o.type e i z size d L hi J l y B D v n xs q C m c b I g G A f (Xb _)
 unfold Oper.wp execOp;simp only[E,resolve,invoke,builtin,Sem.run_bind,Sem.run_pure,Result.andThen_ok,List.map_toArray,List.map_cons,List.map_nil,N,O,F]
 refine h _ _ M H (fun k r=>?_);rcases p with p | p
 ·rw[p] at r;exact .inl r
 ·rw[p] at r;exact .inr (by simpa using r.symm)
def Qm6 (b c X be ri vl cc j:Nat) (ya:Int) (t:Tmp) (v:Value) (w:World):Prop :=
 v=(([(0,Pv b 0),(1,Pv c 0),(5,Pv X 0),(68,Pv b 0),(69,Pv b 0),(70,Pv b 0),(71,Pv be 0),(72,Pv c 0),(73,Pv c 0),(74,Pv c 3),(75,.slice (some ⟨ri,0,none⟩) vl cc),(76,Pv X 1),(77,Iv (j:Int)),(78,Pv ri j),(79,Iv ya)]:List (Tmp × Value)).lookup t).getD undef
theorem Qoj {i:Nat}(y:w6.cell? ⟨b,0,none⟩=some (Pv i 0)) (p:w6.cell? ⟨c,3,none⟩=some (.slice (some ⟨ri,0,none⟩) vl cc)) (x:w6.cell? ⟨X,1,none⟩=some (Iv (j:Int))) (A:(j:Int)<vl) (u:w6.cell? ⟨ri,j,none⟩=some (Iv ya))  {Q:Exit->Act->World->Prop}
 (a:Act) (m:Nat) (r:a.tmps.size=m) (k:148<=m) (z:a.tmps.getD 0 undef=Pv b 0) (q:a.tmps.getD 1 undef=Pv c 0) (s:a.tmps.getD 5 undef=Pv X 0)
 (hend:∀ ops vs w',vs 71=Pv i 0->vs 79=Iv ya->Below w6.heap.size w6 w'->wpList prog ops Q (Qan 12 ((Tryz.f114.body.bind (Qi 14)).getD .skip)) (QM a vs [68,69,70,71,72,73,74,75,76,77,78,79]) w') :
 Code.wp prog ((Tryz.f114.body.bind (Qi 14)).getD .skip) Q a w6:=by
 conv=>arg 2;whnf
 refine Qg 12 (Qm6 b c X i ri vl cc j ya) (fun w=>Below w6.heap.size w6 w) (fun w w'=>Below w.heap.size w w') (outs:=[0,1,5]) (gs:=[]) (bs:=[true,true,true,true,true,true,true,true,true,true,true,true]) (by kernel_rfl) (n:=148) r k (by kernel_rfl) (by kernel_rfl) ?hR ?hG (QI Zr 1) ⟨z,q,s,Y⟩ ?hA ?hend
 case hR=>exact fun t v w w' _ h=>h
 case hG=>exact Y
 case hend=>exact fun ops vs w' e f=>hend ops vs w' (f 71 (by kernel_rfl)) (f 79 (by kernel_rfl)) e
 case hA =>
  refine⟨fun a w e f K g=>?_,?_⟩
  ·obtain⟨d,-⟩:=f
   have d:a.tmps.getD 0 undef=Pv b 0:=d;go_simp;exact g _ _ Zr e Z
  refine⟨fun a w e f K g=>?_,?_⟩
  ·obtain⟨d,-⟩:=f
   have d:a.tmps.getD 68 undef=Pv b 0:=d;go_simp;exact g _ _ Zr e Z
  refine⟨fun a w e f K g=>?_,?_⟩
  ·obtain⟨d,-⟩:=f
   have d:a.tmps.getD 69 undef=Pv b 0:=d;go_simp;exact g _ _ Zr e Z
  refine⟨fun a w e f K g=>?_,?_⟩
  ·obtain⟨d,-⟩:=f
   have d:a.tmps.getD 70 undef=Pv b 0:=d;have l:=Qk y e;go_simp;exact g _ _ Zr e Z
  refine⟨fun a w e f K g=>?_,?_⟩
  ·obtain⟨d,-⟩:=f
   have d:a.tmps.getD 1 undef=Pv c 0:=d;go_simp;exact g _ _ Zr e Z
  refine⟨fun a w e f K g=>?_,?_⟩
  ·obtain⟨d,-⟩:=f
   have d:a.tmps.getD 72 undef=Pv c 0:=d;go_simp;exact g _ _ Zr e Z
  refine⟨fun a w e f K g=>?_,?_⟩
  ·obtain⟨d,-⟩:=f
   have d:a.tmps.getD 73 undef=Pv c 0:=d;go_simp;exact g _ _ Zr e Z
  refine⟨fun a w e f K g=>?_,?_⟩
  ·obtain⟨d,-⟩:=f
   have d:a.tmps.getD 74 undef=Pv c 3:=d;have l:=Qk p e;go_simp;exact g _ _ Zr e Z
  refine⟨fun a w e f K g=>?_,?_⟩
  ·obtain⟨d,-⟩:=f
   have d:a.tmps.getD 5 undef=Pv X 0:=d;go_simp;exact g _ _ Zr e Z
  refine⟨fun a w e f K g=>?_,?_⟩
  ·obtain⟨d,-⟩:=f
   have d:a.tmps.getD 76 undef=Pv X 1:=d;have l:=Qk x e;go_simp;exact g _ _ Zr e Z
  refine⟨fun a w e f K g=>?_,?_⟩
  ·obtain⟨d,o,-⟩:=f
   have d:a.tmps.getD 75 undef=.slice (some ⟨ri,0,none⟩) vl cc:=d;have o:a.tmps.getD 77 undef=Iv (j:Int):=o;go_simp;exact g _ _ Zr e Z
  refine⟨fun a w e f K g=>?_,?_⟩
  ·obtain⟨d,-⟩:=f
   have d:a.tmps.getD 78 undef=Pv ri j:=d;have l:=Qk u e;go_simp;exact g _ _ Zr e Z
  trivial
def Qnu (b c X ri vl cc j:Nat) (ya:Int) (t:Tmp) (v:Value) (w:World):Prop :=
 v=(([(0,Pv b 0),(1,Pv c 0),(5,Pv X 0),(132,Pv b 0),(133,Pv c 0),(134,Pv c 0),(135,Pv c 3),(136,.slice (some ⟨ri,0,none⟩) vl cc),(137,Pv X 1),(138,Iv (j:Int)),(139,Pv ri j),(140,Iv ya)]:List (Tmp × Value)).lookup t).getD undef
theorem QnR (o:w6.cell? ⟨c,3,none⟩=some (.slice (some ⟨ri,0,none⟩) vl cc)) (u:w6.cell? ⟨X,1,none⟩=some (Iv (j:Int))) (y:(j:Int)<vl) (s:w6.cell? ⟨ri,j,none⟩=some (Iv ya))  {Q:Exit->Act->World->Prop}
 (a:Act) (m:Nat) (q:a.tmps.size=m) (i:148<=m) (x:a.tmps.getD 0 undef=Pv b 0) (p:a.tmps.getD 1 undef=Pv c 0) (r:a.tmps.getD 5 undef=Pv X 0)
 (hend:∀ ops vs w',vs 132=Pv b 0->vs 140=Iv ya->Below w6.heap.size w6 w'->wpList prog ops Q (Qan 9 ((Tryz.f114.body.bind (Qi 22)).getD .skip)) (QM a vs [132,133,134,135,136,137,138,139,140]) w') :
 Code.wp prog ((Tryz.f114.body.bind (Qi 22)).getD .skip) Q a w6:=by
 conv=>arg 2;whnf
 refine Qg 9 (Qnu b c X ri vl cc j ya) (fun w=>Below w6.heap.size w6 w) (fun w w'=>Below w.heap.size w w') (outs:=[0,1,5]) (gs:=[]) (bs:=[true,true,true,true,true,true,true,true,true]) (by kernel_rfl) (n:=148) q i (by kernel_rfl) (by kernel_rfl) ?hR ?hG (QI Zr 1) ⟨x,p,r,Y⟩ ?hA ?hend
 case hR=>exact fun t v w w' _ h=>h
 case hG=>exact Y
 case hend=>exact fun ops vs w' e f=>hend ops vs w' (f 132 (by kernel_rfl)) (f 140 (by kernel_rfl)) e
 case hA =>
  refine⟨fun a w e f K g=>?_,?_⟩
  ·obtain⟨d,-⟩:=f
   have d:a.tmps.getD 0 undef=Pv b 0:=d;go_simp;exact g _ _ Zr e Z
  refine⟨fun a w e f K g=>?_,?_⟩
  ·obtain⟨d,-⟩:=f
   have d:a.tmps.getD 1 undef=Pv c 0:=d;go_simp;exact g _ _ Zr e Z
  refine⟨fun a w e f K g=>?_,?_⟩
  ·obtain⟨d,-⟩:=f
   have d:a.tmps.getD 133 undef=Pv c 0:=d;go_simp;exact g _ _ Zr e Z
  refine⟨fun a w e f K g=>?_,?_⟩
  ·obtain⟨d,-⟩:=f
   have d:a.tmps.getD 134 undef=Pv c 0:=d;go_simp;exact g _ _ Zr e Z
  refine⟨fun a w e f K g=>?_,?_⟩
  ·obtain⟨d,-⟩:=f
   have d:a.tmps.getD 135 undef=Pv c 3:=d;have k:=Qk o e;go_simp;exact g _ _ Zr e Z
  refine⟨fun a w e f K g=>?_,?_⟩
  ·obtain⟨d,-⟩:=f
   have d:a.tmps.getD 5 undef=Pv X 0:=d;go_simp;exact g _ _ Zr e Z
  refine⟨fun a w e f K g=>?_,?_⟩
  ·obtain⟨d,-⟩:=f
   have d:a.tmps.getD 137 undef=Pv X 1:=d;have k:=Qk u e;go_simp;exact g _ _ Zr e Z
  refine⟨fun a w e f K g=>?_,?_⟩
  ·obtain⟨d,l,-⟩:=f
   have d:a.tmps.getD 136 undef=.slice (some ⟨ri,0,none⟩) vl cc:=d;have l:a.tmps.getD 138 undef=Iv (j:Int):=l;go_simp;exact g _ _ Zr e Z
  refine⟨fun a w e f K g=>?_,?_⟩
  ·obtain⟨d,-⟩:=f
   have d:a.tmps.getD 139 undef=Pv ri j:=d;have k:=Qk s e;go_simp;exact g _ _ Zr e Z
  trivial
def Qn0 (b c X be bp ri vl cc j:Nat) (ya yb xk:Int) (t:Tmp) (v:Value) (w:World):Prop :=
 v=(([(0,Pv b 0),(1,Pv c 0),(5,Pv X 0),(6,Iv ya),(30,Pv b 0),(31,Pv b 0),(32,Pv b 0),(33,Pv be 0),(34,Pv be 0),(35,Pv be 0),(36,Pv bp 0),(37,Iv ya),(38,Pv X 4),(39,Iv xk),(40,Iv (wrap64 (ya+xk))),(41,Pv c 0),(42,Pv c 0),(43,Pv c 3),(44,.slice (some ⟨ri,0,none⟩) vl cc),(45,Pv X 2),(46,Iv (j:Int)),(47,Pv ri j),(48,Iv yb)]:List (Tmp × Value)).lookup t).getD undef
theorem wp6 {i:Nat}(x:w6.cell? ⟨b,0,none⟩=some (Pv i 0)) (A:w6.cell? ⟨i,0,none⟩=some (Pv bp 0)) (y:w6.cell? ⟨c,3,none⟩=some (.slice (some ⟨ri,0,none⟩) vl cc)) (s:w6.cell? ⟨X,4,none⟩=some (Iv xk)) (C:w6.cell? ⟨X,2,none⟩=some (Iv (j:Int))) (D:(j:Int)<vl) (B:w6.cell? ⟨ri,j,none⟩=some (Iv yb))  {Q:Exit->Act->World->Prop}
 (a:Act) (m:Nat) (p:a.tmps.size=m) (o:105<=m) (z:a.tmps.getD 0 undef=Pv b 0) (u:a.tmps.getD 1 undef=Pv c 0) (q:a.tmps.getD 5 undef=Pv X 0) (r:a.tmps.getD 6 undef=Iv ya)
 (hend:∀ ops vs w',vs 36=Pv bp 0->vs 40=Iv (wrap64 (ya+xk))->vs 48=Iv yb->Below w6.heap.size w6 w'->wpList prog ops Q (Qan 19 ((Tryz.f177.body.bind (Qi 6)).getD .skip)) (QM a vs [30,31,32,33,34,35,36,37,38,39,40,41,42,43,44,45,46,47,48]) w') :
 Code.wp prog ((Tryz.f177.body.bind (Qi 6)).getD .skip) Q a w6:=by
 conv=>arg 2;whnf
 refine Qg 19 (Qn0 b c X i bp ri vl cc j ya yb xk) (fun w=>Below w6.heap.size w6 w) (fun w w'=>Below w.heap.size w w') (outs:=[0,1,5,6]) (gs:=[]) (bs:=[true,true,true,true,true,true,true,true,true,true,true,true,true,true,true,true,true,true,true]) (by kernel_rfl) (n:=105) p o (by kernel_rfl) (by kernel_rfl) ?hR ?hG (QI Zr 1) ⟨z,u,q,r,Y⟩ ?hA ?hend
 case hR=>exact fun t v w w' _ h=>h
 case hG=>exact Y
 case hend=>exact fun ops vs w' e f=>hend ops vs w' (f 36 (by kernel_rfl)) (f 40 (by kernel_rfl)) (f 48 (by kernel_rfl)) e
 case hA =>
  refine⟨fun a w e f K g=>?_,?_⟩
  ·obtain⟨d,-⟩:=f
   have d:a.tmps.getD 0 undef=Pv b 0:=d;go_simp;exact g _ _ Zr e Z
  refine⟨fun a w e f K g=>?_,?_⟩
  ·obtain⟨d,-⟩:=f
   have d:a.tmps.getD 30 undef=Pv b 0:=d;go_simp;exact g _ _ Zr e Z
  refine⟨fun a w e f K g=>?_,?_⟩
  ·obtain⟨d,-⟩:=f
   have d:a.tmps.getD 31 undef=Pv b 0:=d;go_simp;exact g _ _ Zr e Z
  refine⟨fun a w e f K g=>?_,?_⟩
  ·obtain⟨d,-⟩:=f
   have d:a.tmps.getD 32 undef=Pv b 0:=d;have l:=Qk x e;go_simp;exact g _ _ Zr e Z
  refine⟨fun a w e f K g=>?_,?_⟩
  ·obtain⟨d,-⟩:=f
   have d:a.tmps.getD 33 undef=Pv i 0:=d;go_simp;exact g _ _ Zr e Z
  refine⟨fun a w e f K g=>?_,?_⟩
  ·obtain⟨d,-⟩:=f
   have d:a.tmps.getD 34 undef=Pv i 0:=d;go_simp;exact g _ _ Zr e Z
  refine⟨fun a w e f K g=>?_,?_⟩
  ·obtain⟨d,-⟩:=f
   have d:a.tmps.getD 35 undef=Pv i 0:=d;have l:=Qk A e;go_simp;exact g _ _ Zr e Z
  refine⟨fun a w e f K g=>?_,?_⟩
  ·obtain⟨d,-⟩:=f
   have d:a.tmps.getD 6 undef=Iv ya:=d;go_simp;exact g _ _ Zr e Z
  refine⟨fun a w e f K g=>?_,?_⟩
  ·obtain⟨d,-⟩:=f
   have d:a.tmps.getD 5 undef=Pv X 0:=d;go_simp;exact g _ _ Zr e Z
  refine⟨fun a w e f K g=>?_,?_⟩
  ·obtain⟨d,-⟩:=f
   have d:a.tmps.getD 38 undef=Pv X 4:=d;have l:=Qk s e;go_simp;exact g _ _ Zr e Z
  refine⟨fun a w e f K g=>?_,?_⟩
  ·obtain⟨d,k,-⟩:=f
   have d:a.tmps.getD 37 undef=Iv ya:=d;have k:a.tmps.getD 39 undef=Iv xk:=k;go_simp;exact g _ _ Zr e (by show Value.int .i64 _=Value.int .i64 (wrap64 (ya+xk));rw[IntKind.wrap_i64];unfold wrap64;rfl)
  refine⟨fun a w e f K g=>?_,?_⟩
  ·obtain⟨d,-⟩:=f
   have d:a.tmps.getD 1 undef=Pv c 0:=d;go_simp;exact g _ _ Zr e Z
  refine⟨fun a w e f K g=>?_,?_⟩
  ·obtain⟨d,-⟩:=f
   have d:a.tmps.getD 41 undef=Pv c 0:=d;go_simp;exact g _ _ Zr e Z
  refine⟨fun a w e f K g=>?_,?_⟩
  ·obtain⟨d,-⟩:=f
   have d:a.tmps.getD 42 undef=Pv c 0:=d;go_simp;exact g _ _ Zr e Z
  refine⟨fun a w e f K g=>?_,?_⟩
  ·obtain⟨d,-⟩:=f
   have d:a.tmps.getD 43 undef=Pv c 3:=d;have l:=Qk y e;go_simp;exact g _ _ Zr e Z
  refine⟨fun a w e f K g=>?_,?_⟩
  ·obtain⟨d,-⟩:=f
   have d:a.tmps.getD 5 undef=Pv X 0:=d;go_simp;exact g _ _ Zr e Z
  refine⟨fun a w e f K g=>?_,?_⟩
  ·obtain⟨d,-⟩:=f
   have d:a.tmps.getD 45 undef=Pv X 2:=d;have l:=Qk C e;go_simp;exact g _ _ Zr e Z
  refine⟨fun a w e f K g=>?_,?_⟩
  ·obtain⟨d,k,-⟩:=f
   have d:a.tmps.getD 44 undef=.slice (some ⟨ri,0,none⟩) vl cc:=d;have k:a.tmps.getD 46 undef=Iv (j:Int):=k;go_simp;exact g _ _ Zr e Z
  refine⟨fun a w e f K g=>?_,?_⟩
  ·obtain⟨d,-⟩:=f
   have d:a.tmps.getD 47 undef=Pv ri j:=d;have l:=Qk B e;go_simp;exact g _ _ Zr e Z
  trivial
def QnK (w6:World) (R:RM) (b c X ri vl cc j:Nat) (ya yb:Int) (t:Tmp) (v:Value) (w:World):Prop :=
 match ([(64,fun v w=>(0<=yb/\yb<R.load ya)/\v=.int .i64 (wrap64 (wrap64 (ya+1)+yb))),(66,Qj7 w6 (R.load (wrap64 (wrap64 (ya+1)+yb))))]:List (Tmp × (Value->World->Prop))).lookup t with
 | some p=>p v w
 | none=>v=(([(0,.pointer (some ⟨b,0,none⟩)),(1,.pointer (some ⟨c,0,none⟩)),(5,.pointer (some ⟨X,0,none⟩)),(6,.int .i64 ya),(52,.pointer (some ⟨c,0,none⟩)),(53,.pointer (some ⟨b,0,none⟩)),(54,.pointer (some ⟨b,0,none⟩)),(55,.int .i64 ya),(56,.pointer (some ⟨c,0,none⟩)),(57,.pointer (some ⟨c,0,none⟩)),(58,.pointer (some ⟨c,3,none⟩)),(59,.slice (some ⟨ri,0,none⟩) vl cc),(60,.pointer (some ⟨X,2,none⟩)),(61,.int .i64 (j:Int)),(62,.pointer (some ⟨ri,j,none⟩)),(63,.int .i64 yb),(65,.int .i64 (R.load (wrap64 (wrap64 (ya+1)+yb))))]:List (Tmp × Value)).lookup t).getD undef
theorem wp8 {R:RM}(H:w6.cell? ⟨c,3,none⟩=some (.slice (some ⟨ri,0,none⟩) vl cc)) (S:w6.cell? ⟨X,2,none⟩=some (Iv (j:Int))) (U:(j:Int)<vl) (O:w6.cell? ⟨ri,j,none⟩=some (Iv yb)) (y:Hid (∀ wx,Below w6.heap.size w6 wx->Calls prog 222 #[Pv b 0,Iv ya,Iv yb] wx fun e w'=>Qlh R ya yb e/\w'=wx)) (P:Hid (∀ wx k,Below w6.heap.size w6 wx->Calls prog 220 #[Pv b 0,Iv k] wx fun e w'=>e=.returned (Iv (R.load k))/\w'=wx))  {Q:Exit->Act->World->Prop}
 (a:Act) (m:Nat) (A:a.tmps.size=m) (s:105<=m) (L:a.tmps.getD 0 undef=Pv b 0) (r:a.tmps.getD 1 undef=Pv c 0) (C:a.tmps.getD 5 undef=Pv X 0) (D:a.tmps.getD 6 undef=Iv ya)
 (I:∀ ch a' w',a'.defers=a.defers->(fun ch w=>ch=QdF 2/\¬ (0<=yb/\yb<R.load ya)/\Below w6.heap.size w6 w) ch w'->Q (.panic ch) a' w')
 (hend:∀ ops vs w',vs 52=Pv c 0->(fun v w=>(0<=yb/\yb<R.load ya)/\v=Iv (wrap64 (wrap64 (ya+1)+yb))) (vs 64) w'->(Qj7 w6 (R.load (wrap64 (wrap64 (ya+1)+yb)))) (vs 66) w'->Below w6.heap.size w6 w'->wpList prog ops Q (Qan 15 ((Tryz.f177.body.bind (Qi 8)).getD .skip)) (QM a vs [52,53,54,55,56,57,58,59,60,61,62,63,64,65,66]) w') :
 Code.wp prog ((Tryz.f177.body.bind (Qi 8)).getD .skip) Q a w6:=by
 conv=>arg 2;whnf
 refine ZN 15 (QnK w6 R b c X ri vl cc j ya yb) (fun w=>Below w6.heap.size w6 w) (fun w w'=>Below w.heap.size w w') (fun ch w=>ch=QdF 2/\¬ (0<=yb/\yb<R.load ya)/\Below w6.heap.size w6 w) I (outs:=[0,1,5,6]) (gs:=[]) (bs:=[true,true,true,true,true,true,true,true,true,true,true,true,true,true,true]) (by kernel_rfl) (n:=105) A s (by kernel_rfl) (by kernel_rfl) ?hR ?hG (QI Zr 1) ⟨L,r,C,D,Y⟩ ?hA ?hend
 case hR =>
  intro t v w w' E h;unfold QnK at h |-;split at h
  ·rename_i p q
   simp only[List.lookup_cons,List.lookup_nil] at q
   split at q
   ·cases q;exact h
   ·split at q
    ·cases q;exact h.z (Zk.below E)
    ·cases q
  ·exact h
 case hG=>exact Y
 case hend=>exact fun ops vs w' f g=>hend ops vs w' (g 52 (by kernel_rfl)) (g 64 (by kernel_rfl)) (g 66 (by kernel_rfl)) f
 case hA =>
  refine⟨fun a w f g K i=>?_,?_⟩
  ·obtain⟨d,-⟩:=g
   have d:a.tmps.getD 1 undef=Pv c 0:=d;go_simp;exact i _ _ Zr f Z
  refine⟨fun a w f g K i=>?_,?_⟩
  ·obtain⟨d,-⟩:=g
   have d:a.tmps.getD 0 undef=Pv b 0:=d;go_simp;exact i _ _ Zr f Z
  refine⟨fun a w f g K i=>?_,?_⟩
  ·obtain⟨d,-⟩:=g
   have d:a.tmps.getD 0 undef=Pv b 0:=d;go_simp;exact i _ _ Zr f Z
  refine⟨fun a w f g K i=>?_,?_⟩
  ·obtain⟨d,-⟩:=g
   have d:a.tmps.getD 6 undef=Iv ya:=d;go_simp;exact i _ _ Zr f Z
  refine⟨fun a w f g K i=>?_,?_⟩
  ·obtain⟨d,-⟩:=g
   have d:a.tmps.getD 1 undef=Pv c 0:=d;go_simp;exact i _ _ Zr f Z
  refine⟨fun a w f g K i=>?_,?_⟩
  ·obtain⟨d,-⟩:=g
   have d:a.tmps.getD 56 undef=Pv c 0:=d;go_simp;exact i _ _ Zr f Z
  refine⟨fun a w f g K i=>?_,?_⟩
  ·obtain⟨d,-⟩:=g
   have d:a.tmps.getD 57 undef=Pv c 0:=d;go_simp;exact i _ _ Zr f Z
  refine⟨fun a w f g K i=>?_,?_⟩
  ·obtain⟨d,-⟩:=g
   have d:a.tmps.getD 58 undef=Pv c 3:=d;have u:=Qk H f;go_simp;exact i _ _ Zr f Z
  refine⟨fun a w f g K i=>?_,?_⟩
  ·obtain⟨d,-⟩:=g
   have d:a.tmps.getD 5 undef=Pv X 0:=d;go_simp;exact i _ _ Zr f Z
  refine⟨fun a w f g K i=>?_,?_⟩
  ·obtain⟨d,-⟩:=g
   have d:a.tmps.getD 60 undef=Pv X 2:=d;have u:=Qk S f;go_simp;exact i _ _ Zr f Z
  refine⟨fun a w f g K i=>?_,?_⟩
  ·obtain⟨d,l,-⟩:=g
   have d:a.tmps.getD 59 undef=.slice (some ⟨ri,0,none⟩) vl cc:=d;have l:a.tmps.getD 61 undef=Iv (j:Int):=l;go_simp;exact i _ _ Zr f Z
  refine⟨fun a w f g K i=>?_,?_⟩
  ·obtain⟨d,-⟩:=g
   have d:a.tmps.getD 62 undef=Pv ri j:=d;have u:=Qk O f;go_simp;exact i _ _ Zr f Z
  refine⟨fun a w f g K i=>?_,?_⟩
  ·obtain⟨d,l,x,-⟩:=g
   have d:a.tmps.getD 54 undef=Pv b 0:=d;have l:a.tmps.getD 55 undef=Iv ya:=l;have x:a.tmps.getD 63 undef=Iv yb:=x;go_simp;refine Xm (y.out w f) ?_;rintro F N ⟨J,o⟩;have o:=o.symm;subst o;rcases J with ⟨r,M,rfl⟩|⟨r,rfl⟩
   rotate_left
   ·exact⟨_,Z,Z,(fun h=>Int.not_lt.1 (fun T=>r ⟨h,T⟩)),f⟩
   go_simp;exact i _ _ Zr f ⟨⟨r,M⟩,Z⟩
  refine⟨fun a w f g K i=>?_,?_⟩
  ·obtain⟨d,l,-⟩:=g
   have d:a.tmps.getD 53 undef=Pv b 0:=d;have l:(fun v w=>(0<=yb/\yb<R.load ya)/\v=Iv (wrap64 (wrap64 (ya+1)+yb))) (a.tmps.getD 64 undef) w:=l;generalize G:a.tmps.getD 64 undef=B at l;obtain⟨-,rfl⟩:=l
   go_simp;refine Xm (P.out w _ f) ?_;rintro F N ⟨rfl,o⟩;have o:=o.symm;subst o;go_simp;exact i _ _ Zr f Z
  refine⟨fun a w f g K i=>?_,?_⟩
  ·obtain⟨d,-⟩:=g
   have d:a.tmps.getD 65 undef=Iv (R.load (wrap64 (wrap64 (ya+1)+yb))):=d;rw[Za] at d
   go_simp;exact i _ _ (ZP _ _) (f.trans ((ZP _ _).mono f.size)) ⟨_,Z,f.size,Qb (Qe _ _ _) 0 _ Z⟩
  trivial
def QmG (R:RM) (b c X be bp ri vl cc j q:Nat) (ya yb yc:Int) (t:Tmp) (v:Value) (w:World):Prop :=
 match ([(87,fun v w=>(0<=yb/\yb<R.load ya)/\v=.int .i64 (wrap64 (wrap64 (ya+1)+yb)))]:List (Tmp × (Value->World->Prop))).lookup t with
 | some p=>p v w
 | none=>v=(([(0,.pointer (some ⟨b,0,none⟩)),(1,.pointer (some ⟨c,0,none⟩)),(5,.pointer (some ⟨X,0,none⟩)),(6,.int .i64 ya),(70,.pointer (some ⟨b,0,none⟩)),(71,.pointer (some ⟨b,0,none⟩)),(72,.pointer (some ⟨b,0,none⟩)),(73,.pointer (some ⟨be,0,none⟩)),(74,.pointer (some ⟨be,0,none⟩)),(75,.pointer (some ⟨be,0,none⟩)),(76,.pointer (some ⟨bp,0,none⟩)),(77,.pointer (some ⟨b,0,none⟩)),(78,.int .i64 ya),(79,.pointer (some ⟨c,0,none⟩)),(80,.pointer (some ⟨c,0,none⟩)),(81,.pointer (some ⟨c,3,none⟩)),(82,.slice (some ⟨ri,0,none⟩) vl cc),(83,.pointer (some ⟨X,2,none⟩)),(84,.int .i64 (j:Int)),(85,.pointer (some ⟨ri,j,none⟩)),(86,.int .i64 yb),(88,.pointer (some ⟨c,0,none⟩)),(89,.pointer (some ⟨c,0,none⟩)),(90,.pointer (some ⟨c,3,none⟩)),(91,.slice (some ⟨ri,0,none⟩) vl cc),(92,.pointer (some ⟨X,3,none⟩)),(93,.int .i64 (q:Int)),(94,.pointer (some ⟨ri,q,none⟩)),(95,.int .i64 yc)]:List (Tmp × Value)).lookup t).getD undef
theorem QnI {R:RM}{o:Nat}{y:Int}(G:w6.cell? ⟨b,0,none⟩=some (Pv o 0)) (N:w6.cell? ⟨o,0,none⟩=some (Pv bp 0)) (A:w6.cell? ⟨c,3,none⟩=some (.slice (some ⟨ri,0,none⟩) vl cc)) (P:w6.cell? ⟨X,2,none⟩=some (Iv (j:Int))) (V:(j:Int)<vl) (O:w6.cell? ⟨ri,j,none⟩=some (Iv yb)) (F:w6.cell? ⟨X,3,none⟩=some (Iv (q:Int))) (W:(q:Int)<vl) (J:w6.cell? ⟨ri,q,none⟩=some (Iv y)) (B:Hid (∀ wx,Below w6.heap.size w6 wx->Calls prog 222 #[Pv b 0,Iv ya,Iv yb] wx fun e w'=>Qlh R ya yb e/\w'=wx))  {Q:Exit->Act->World->Prop}
 (a:Act) (m:Nat) (C:a.tmps.size=m) (x:105<=m) (L:a.tmps.getD 0 undef=Pv b 0) (r:a.tmps.getD 1 undef=Pv c 0) (D:a.tmps.getD 5 undef=Pv X 0) (E:a.tmps.getD 6 undef=Iv ya)
 (H:∀ ch a' w',a'.defers=a.defers->(fun ch w=>ch=QdF 2/\¬ (0<=yb/\yb<R.load ya)/\Below w6.heap.size w6 w) ch w'->Q (.panic ch) a' w')
 (hend:∀ ops vs w',vs 76=Pv bp 0->(fun v w=>(0<=yb/\yb<R.load ya)/\v=Iv (wrap64 (wrap64 (ya+1)+yb))) (vs 87) w'->vs 95=Iv y->Below w6.heap.size w6 w'->wpList prog ops Q (Qan 26 ((Tryz.f177.body.bind (Qi 10)).getD .skip)) (QM a vs [70,71,72,73,74,75,76,77,78,79,80,81,82,83,84,85,86,87,88,89,90,91,92,93,94,95]) w') :
 Code.wp prog ((Tryz.f177.body.bind (Qi 10)).getD .skip) Q a w6:=by
 conv=>arg 2;whnf
 refine ZN 26 (QmG R b c X o bp ri vl cc j q ya yb y) (fun w=>Below w6.heap.size w6 w) (fun w w'=>Below w.heap.size w w') (fun ch w=>ch=QdF 2/\¬ (0<=yb/\yb<R.load ya)/\Below w6.heap.size w6 w) H (outs:=[0,1,5,6]) (gs:=[]) (bs:=[true,true,true,true,true,true,true,true,true,true,true,true,true,true,true,true,true,true,true,true,true,true,true,true,true,true]) (by kernel_rfl) (n:=105) C x (by kernel_rfl) (by kernel_rfl) ?hR ?hG (QI Zr 1) ⟨L,r,D,E,Y⟩ ?hA ?hend
 case hR =>
  intro t v w w' T h;unfold QmG at h |-;split at h
  ·rename_i p s
   simp only[List.lookup_cons,List.lookup_nil] at s
   split at s
   ·cases s;exact h
   ·cases s
  ·exact h
 case hG=>exact Y
 case hend=>exact fun ops vs w' f g=>hend ops vs w' (g 76 (by kernel_rfl)) (g 87 (by kernel_rfl)) (g 95 (by kernel_rfl)) f
 case hA =>
  refine⟨fun a w f g K i=>?_,?_⟩
  ·obtain⟨d,-⟩:=g
   have d:a.tmps.getD 0 undef=Pv b 0:=d;go_simp;exact i _ _ Zr f Z
  refine⟨fun a w f g K i=>?_,?_⟩
  ·obtain⟨d,-⟩:=g
   have d:a.tmps.getD 70 undef=Pv b 0:=d;go_simp;exact i _ _ Zr f Z
  refine⟨fun a w f g K i=>?_,?_⟩
  ·obtain⟨d,-⟩:=g
   have d:a.tmps.getD 71 undef=Pv b 0:=d;go_simp;exact i _ _ Zr f Z
  refine⟨fun a w f g K i=>?_,?_⟩
  ·obtain⟨d,-⟩:=g
   have d:a.tmps.getD 72 undef=Pv b 0:=d;have l:=Qk G f;go_simp;exact i _ _ Zr f Z
  refine⟨fun a w f g K i=>?_,?_⟩
  ·obtain⟨d,-⟩:=g
   have d:a.tmps.getD 73 undef=Pv o 0:=d;go_simp;exact i _ _ Zr f Z
  refine⟨fun a w f g K i=>?_,?_⟩
  ·obtain⟨d,-⟩:=g
   have d:a.tmps.getD 74 undef=Pv o 0:=d;go_simp;exact i _ _ Zr f Z
  refine⟨fun a w f g K i=>?_,?_⟩
  ·obtain⟨d,-⟩:=g
   have d:a.tmps.getD 75 undef=Pv o 0:=d;have l:=Qk N f;go_simp;exact i _ _ Zr f Z
  refine⟨fun a w f g K i=>?_,?_⟩
  ·obtain⟨d,-⟩:=g
   have d:a.tmps.getD 0 undef=Pv b 0:=d;go_simp;exact i _ _ Zr f Z
  refine⟨fun a w f g K i=>?_,?_⟩
  ·obtain⟨d,-⟩:=g
   have d:a.tmps.getD 6 undef=Iv ya:=d;go_simp;exact i _ _ Zr f Z
  refine⟨fun a w f g K i=>?_,?_⟩
  ·obtain⟨d,-⟩:=g
   have d:a.tmps.getD 1 undef=Pv c 0:=d;go_simp;exact i _ _ Zr f Z
  refine⟨fun a w f g K i=>?_,?_⟩
  ·obtain⟨d,-⟩:=g
   have d:a.tmps.getD 79 undef=Pv c 0:=d;go_simp;exact i _ _ Zr f Z
  refine⟨fun a w f g K i=>?_,?_⟩
  ·obtain⟨d,-⟩:=g
   have d:a.tmps.getD 80 undef=Pv c 0:=d;go_simp;exact i _ _ Zr f Z
  refine⟨fun a w f g K i=>?_,?_⟩
  ·obtain⟨d,-⟩:=g
   have d:a.tmps.getD 81 undef=Pv c 3:=d;have l:=Qk A f;go_simp;exact i _ _ Zr f Z
  refine⟨fun a w f g K i=>?_,?_⟩
  ·obtain⟨d,-⟩:=g
   have d:a.tmps.getD 5 undef=Pv X 0:=d;go_simp;exact i _ _ Zr f Z
  refine⟨fun a w f g K i=>?_,?_⟩
  ·obtain⟨d,-⟩:=g
   have d:a.tmps.getD 83 undef=Pv X 2:=d;have l:=Qk P f;go_simp;exact i _ _ Zr f Z
  refine⟨fun a w f g K i=>?_,?_⟩
  ·obtain⟨d,k,-⟩:=g
   have d:a.tmps.getD 82 undef=.slice (some ⟨ri,0,none⟩) vl cc:=d;have k:a.tmps.getD 84 undef=Iv (j:Int):=k;go_simp;exact i _ _ Zr f Z
  refine⟨fun a w f g K i=>?_,?_⟩
  ·obtain⟨d,-⟩:=g
   have d:a.tmps.getD 85 undef=Pv ri j:=d;have l:=Qk O f;go_simp;exact i _ _ Zr f Z
  refine⟨fun a w f g K i=>?_,?_⟩
  ·obtain⟨d,k,z,-⟩:=g
   have d:a.tmps.getD 77 undef=Pv b 0:=d;have k:a.tmps.getD 78 undef=Iv ya:=k;have z:a.tmps.getD 86 undef=Iv yb:=z;go_simp;refine Xm (B.out w f) ?_;rintro U w7 ⟨I,u⟩;have u:=u.symm;subst u;rcases I with ⟨r,M,rfl⟩|⟨r,rfl⟩
   rotate_left
   ·exact⟨_,Z,Z,(fun h=>Int.not_lt.1 (fun S=>r ⟨h,S⟩)),f⟩
   go_simp;exact i _ _ Zr f ⟨⟨r,M⟩,Z⟩
  refine⟨fun a w f g K i=>?_,?_⟩
  ·obtain⟨d,-⟩:=g
   have d:a.tmps.getD 1 undef=Pv c 0:=d;go_simp;exact i _ _ Zr f Z
  refine⟨fun a w f g K i=>?_,?_⟩
  ·obtain⟨d,-⟩:=g
   have d:a.tmps.getD 88 undef=Pv c 0:=d;go_simp;exact i _ _ Zr f Z
  refine⟨fun a w f g K i=>?_,?_⟩
  ·obtain⟨d,-⟩:=g
   have d:a.tmps.getD 89 undef=Pv c 0:=d;go_simp;exact i _ _ Zr f Z
  refine⟨fun a w f g K i=>?_,?_⟩
  ·obtain⟨d,-⟩:=g
   have d:a.tmps.getD 90 undef=Pv c 3:=d;have l:=Qk A f;go_simp;exact i _ _ Zr f Z
  refine⟨fun a w f g K i=>?_,?_⟩
  ·obtain⟨d,-⟩:=g
   have d:a.tmps.getD 5 undef=Pv X 0:=d;go_simp;exact i _ _ Zr f Z
  refine⟨fun a w f g K i=>?_,?_⟩
  ·obtain⟨d,-⟩:=g
   have d:a.tmps.getD 92 undef=Pv X 3:=d;have l:=Qk F f;go_simp;exact i _ _ Zr f Z
  refine⟨fun a w f g K i=>?_,?_⟩
  ·obtain⟨d,k,-⟩:=g
   have d:a.tmps.getD 91 undef=.slice (some ⟨ri,0,none⟩) vl cc:=d;have k:a.tmps.getD 93 undef=Iv (q:Int):=k;go_simp;exact i _ _ Zr f Z
  refine⟨fun a w f g K i=>?_,?_⟩
  ·obtain⟨d,-⟩:=g
   have d:a.tmps.getD 94 undef=Pv ri q:=d;have l:=Qk J f;go_simp;exact i _ _ Zr f Z
  trivial
def QjX (w6:World) (b c X ri vl cc j na ca:Nat) (pa:Option Addr) (xs:List Int) (ya ta:Int) (S:Nat->Bool) (t:Tmp) (v:Value) (w:World):Prop :=
 match ([(97,fun _ v _=>(fun v=>v=.int .i64 ta) v),(96,fun _ v w=>(Qmq w6 xs na) v w),(98,fun _ v w=>(Qj7 w6 ta) v w)]:List (Tmp × ((Nat->Bool)->Value->World->Prop))).lookup t with
 | some p=>p S v w
 | none=>v=(([(0,.pointer (some ⟨b,0,none⟩)),(1,.pointer (some ⟨c,0,none⟩)),(5,.pointer (some ⟨X,0,none⟩)),(83,.pointer (some ⟨c,0,none⟩)),(84,.pointer (some ⟨b,0,none⟩)),(85,.pointer (some ⟨c,0,none⟩)),(86,.pointer (some ⟨c,0,none⟩)),(87,.pointer (some ⟨c,3,none⟩)),(88,.slice (some ⟨ri,0,none⟩) vl cc),(89,.pointer (some ⟨X,1,none⟩)),(90,.int .i64 (j:Int)),(91,.pointer (some ⟨ri,j,none⟩)),(92,.int .i64 ya),(93,.pointer (some ⟨c,0,none⟩)),(94,.pointer (some ⟨X,7,none⟩)),(95,.slice pa na ca)]:List (Tmp × Value)).lookup t).getD undef
theorem Qbc {f:Nat}{d:Int}{S:Nat->Bool}{t:Tmp}{u:Value}(e:Zk w6 w w') (a:QjX w6 b c X ri vl cc j f ca pa xs ya d S t u w):QjX w6 b c X ri vl cc j f ca pa xs ya d (Qcv i S) t u w':=by
 unfold QjX at a |-;refine QmV ?_ a;exact⟨fun _ h=>h,fun _ h=>h.z e,fun _ h=>h.z e,Y⟩
theorem Qn4 {y:Nat}{F:Int}{B:World->Prop}{A:List PanicEntry->World->Prop}(D:∀ w,B w->w6.heap.size<=w.heap.size) (c3:w6.cell? ⟨c,3,none⟩=some (.slice (some ⟨ri,0,none⟩) vl cc)) (x1:w6.cell? ⟨X,1,none⟩=some (Iv (j:Int))) (hj:(j:Int)<vl) (ej:w6.cell? ⟨ri,j,none⟩=some (Iv ya)) (x7:w6.cell? ⟨X,7,none⟩=some (.slice pa y ca)) (CA:Hid (∀ wx,Below w6.heap.size w6 wx->Calls prog 167 #[Pv c 0,.slice pa y ca] wx fun e w'=>Qm2 wx xs y e w')) (U:Hid (∀ wx k,Below w6.heap.size w6 wx->w6.heap.size<=k->QbF wx (.slice (some ⟨k,0,none⟩) y y) xs->Calls prog 172 #[Pv b 0,Iv ya,.slice (some ⟨k,0,none⟩) y y] wx fun e w'=>(e=.returned (Iv F)/\B w'/\Zk w6 wx w')\/(∃ ch,e=.panicked ch/\A ch w')))  (P:∀ w w',(fun w=>∃ w5,B w5/\Below w5.heap.size w5 w) w->Below w.heap.size w w'->(fun w=>∃ w5,B w5/\Below w5.heap.size w5 w) w'){Q:Exit->Act->World->Prop}
 (a:Act) (m:Nat) (T:a.tmps.size=m) (L:148<=m) (h0:a.tmps.getD 0 undef=Pv b 0) (I:a.tmps.getD 1 undef=Pv c 0) (G:a.tmps.getD 5 undef=Pv X 0)
 (hX:∀ ch a' w',a'.defers=a.defers->(fun ch w=>A ch w) ch w'->Q (.panic ch) a' w')
 (hend:∀ ops vs w',vs 83=Pv c 0->(Qj7 w6 F) (vs 98) w'->(fun w=>∃ w5,B w5/\Below w5.heap.size w5 w) w'->wpList prog ops Q (Qan 16 ((Tryz.f114.body.bind (Qi 16)).getD .skip)) (QM a vs [83,84,85,86,87,88,89,90,91,92,93,94,95,96,97,98]) w') :
 Code.wp prog ((Tryz.f114.body.bind (Qi 16)).getD .skip) Q a w6:=by
 conv=>arg 2;whnf
 refine Zs 16 (QjX w6 b c X ri vl cc j y ca pa xs ya F) (WY w6 (fun w=>∃ w5,B w5/\Below w5.heap.size w5 w) 14) (fun ch w=>A ch w) hX (outs:=[0,1,5]) (gs:=[]) (bs:=[true,true,true,true,true,true,true,true,true,true,true,true,true,true,true,true]) (by kernel_rfl) (n:=148) T L (by kernel_rfl) (by kernel_rfl) ?hG (.inl ⟨Z,QI Zr 1⟩) ⟨h0,I,G,Y⟩ ?hA ?hend
 case hG=>exact fun S=>trivial
 case hend=>exact fun ops vs S w' C f g=>hend ops vs w' (g 83 (by kernel_rfl)) (g 98 (by kernel_rfl)) (f.fin (C 14 (by decide)))
 case hA =>
  refine⟨fun S a w p u r f g K o=>?_,?_⟩
  ·obtain⟨d,-⟩:=g
   have d:a.tmps.getD 1 undef=Pv c 0:=d;go_simp;exact o _ _ (fun t _ l=>Qbc (i:=0) (Zk.refl _ _) l) (f.onS (i:=0) (by decide)) Z
  refine⟨fun S a w p u r f g K o=>?_,?_⟩
  ·obtain⟨d,-⟩:=g
   have d:a.tmps.getD 0 undef=Pv b 0:=d;go_simp;exact o _ _ (fun t _ l=>Qbc (i:=1) (Zk.refl _ _) l) (f.onS (i:=1) (by decide)) Z
  refine⟨fun S a w p u r f g K o=>?_,?_⟩
  ·obtain⟨d,-⟩:=g
   have d:a.tmps.getD 1 undef=Pv c 0:=d;go_simp;exact o _ _ (fun t _ l=>Qbc (i:=2) (Zk.refl _ _) l) (f.onS (i:=2) (by decide)) Z
  refine⟨fun S a w p u r f g K o=>?_,?_⟩
  ·obtain⟨d,-⟩:=g
   have d:a.tmps.getD 85 undef=Pv c 0:=d;go_simp;exact o _ _ (fun t _ l=>Qbc (i:=3) (Zk.refl _ _) l) (f.onS (i:=3) (by decide)) Z
  refine⟨fun S a w p u r f g K o=>?_,?_⟩
  ·obtain⟨d,-⟩:=g
   have d:a.tmps.getD 86 undef=Pv c 0:=d;go_simp;exact o _ _ (fun t _ l=>Qbc (i:=4) (Zk.refl _ _) l) (f.onS (i:=4) (by decide)) Z
  refine⟨fun S a w p u r f g K o=>?_,?_⟩
  ·obtain⟨d,-⟩:=g
   have s:S 14=false:=Qfq r (q:=14) Z (by kernel_rfl) p;have x:=f.pre s;have d:a.tmps.getD 87 undef=Pv c 3:=d;have J:=Qk c3 x;go_simp;exact o _ _ (fun t _ l=>Qbc (i:=5) (Zk.refl _ _) l) (f.onS (i:=5) (by decide)) Z
  refine⟨fun S a w p u r f g K o=>?_,?_⟩
  ·obtain⟨d,-⟩:=g
   have d:a.tmps.getD 5 undef=Pv X 0:=d;go_simp;exact o _ _ (fun t _ l=>Qbc (i:=6) (Zk.refl _ _) l) (f.onS (i:=6) (by decide)) Z
  refine⟨fun S a w p u r f g K o=>?_,?_⟩
  ·obtain⟨d,-⟩:=g
   have s:S 14=false:=Qfq r (q:=14) Z (by kernel_rfl) p;have x:=f.pre s;have d:a.tmps.getD 89 undef=Pv X 1:=d;have J:=Qk x1 x;go_simp;exact o _ _ (fun t _ l=>Qbc (i:=7) (Zk.refl _ _) l) (f.onS (i:=7) (by decide)) Z
  refine⟨fun S a w p u r f g K o=>?_,?_⟩
  ·obtain⟨d,z,-⟩:=g
   have d:a.tmps.getD 88 undef=.slice (some ⟨ri,0,none⟩) vl cc:=d;have z:a.tmps.getD 90 undef=Iv (j:Int):=z;go_simp;exact o _ _ (fun t _ l=>Qbc (i:=8) (Zk.refl _ _) l) (f.onS (i:=8) (by decide)) Z
  refine⟨fun S a w p u r f g K o=>?_,?_⟩
  ·obtain⟨d,-⟩:=g
   have s:S 14=false:=Qfq r (q:=14) Z (by kernel_rfl) p;have x:=f.pre s;have d:a.tmps.getD 91 undef=Pv ri j:=d;have J:=Qk ej x;go_simp;exact o _ _ (fun t _ l=>Qbc (i:=9) (Zk.refl _ _) l) (f.onS (i:=9) (by decide)) Z
  refine⟨fun S a w p u r f g K o=>?_,?_⟩
  ·obtain⟨d,-⟩:=g
   have d:a.tmps.getD 1 undef=Pv c 0:=d;go_simp;exact o _ _ (fun t _ l=>Qbc (i:=10) (Zk.refl _ _) l) (f.onS (i:=10) (by decide)) Z
  refine⟨fun S a w p u r f g K o=>?_,?_⟩
  ·obtain⟨d,-⟩:=g
   have d:a.tmps.getD 5 undef=Pv X 0:=d;go_simp;exact o _ _ (fun t _ l=>Qbc (i:=11) (Zk.refl _ _) l) (f.onS (i:=11) (by decide)) Z
  refine⟨fun S a w p u r f g K o=>?_,?_⟩
  ·obtain⟨d,-⟩:=g
   have s:S 14=false:=Qfq r (q:=14) Z (by kernel_rfl) p;have x:=f.pre s;have d:a.tmps.getD 94 undef=Pv X 7:=d;have J:=Qk x7 x;go_simp;exact o _ _ (fun t _ l=>Qbc (i:=12) (Zk.refl _ _) l) (f.onS (i:=12) (by decide)) Z
  refine⟨fun S a w p u r f g K o=>?_,?_⟩
  ·obtain⟨d,z,-⟩:=g
   have s:S 14=false:=Qfq r (q:=14) Z (by kernel_rfl) p;have x:=f.pre s;have d:a.tmps.getD 93 undef=Pv c 0:=d;have z:a.tmps.getD 95 undef=.slice pa y ca:=z;go_simp;refine Xm (CA.out w x) ?_;rintro W w7 ⟨M,rfl,I,h2,R⟩;go_simp;exact o _ _ (fun t _ l=>Qbc (i:=13) (Zk.below R) l) (f.onB P (i:=13) (by decide) R) ⟨M,Z,Zt x.size I,h2⟩
  refine⟨fun S a w p u r f g K o=>?_,?_⟩
  ·obtain⟨d,z,E,-⟩:=g
   have x:=f.pre p;have d:a.tmps.getD 84 undef=Pv b 0:=d;have z:a.tmps.getD 92 undef=Iv ya:=z;have E:(Qmq w6 xs y) (a.tmps.getD 96 undef) w:=E;generalize ac:a.tmps.getD 96 undef=ab at E;obtain⟨M,rfl,h7,h8⟩:=E
   go_simp;refine Xm (U.out w M x h7 h8) ?_;rintro W w7 (⟨rfl,O,hz⟩|⟨ch,rfl,O⟩)
   rotate_left
   ·exact⟨_,Z,O⟩
   go_simp;exact o _ _ (fun t _ l=>Qbc (i:=14) hz l) (WY.did ⟨_,O,Zr⟩) Z
  refine⟨fun S a w p u r f g K o=>?_,?_⟩
  ·obtain⟨d,-⟩:=g
   have d:(fun v=>v=Iv F) (a.tmps.getD 97 undef):=d;generalize H:a.tmps.getD 97 undef=aa at d;rw[Za] at H
   subst d;go_simp;have N:=f.lowB (fun w h=>by obtain⟨w5,G,V⟩:=h;exact Zt (D _ G) V.size);exact o _ _ (fun t _ l=>Qbc (i:=15) (Zk.below (ZP _ _)) l) (f.onB P (i:=15) (by decide) (ZP _ _)) ⟨_,Z,N,Qb (Qe _ _ _) 0 _ Z⟩
  trivial
def QkG (w6:World) (b c X ri vl cc j q:Nat) (ya yb ta:Int) (S:Nat->Bool) (t:Tmp) (v:Value) (w:World):Prop :=
 match ([(120,fun _ v _=>(fun v=>v=.int .i64 ta) v),(121,fun _ v w=>(Qj7 w6 ta) v w)]:List (Tmp × ((Nat->Bool)->Value->World->Prop))).lookup t with
 | some p=>p S v w
 | none=>v=(([(0,.pointer (some ⟨b,0,none⟩)),(1,.pointer (some ⟨c,0,none⟩)),(5,.pointer (some ⟨X,0,none⟩)),(102,.pointer (some ⟨c,0,none⟩)),(103,.pointer (some ⟨b,0,none⟩)),(104,.pointer (some ⟨c,0,none⟩)),(105,.pointer (some ⟨c,0,none⟩)),(106,.pointer (some ⟨c,3,none⟩)),(107,.slice (some ⟨ri,0,none⟩) vl cc),(108,.pointer (some ⟨X,1,none⟩)),(109,.int .i64 (j:Int)),(110,.pointer (some ⟨ri,j,none⟩)),(111,.int .i64 ya),(112,.pointer (some ⟨c,0,none⟩)),(113,.pointer (some ⟨c,0,none⟩)),(114,.pointer (some ⟨c,3,none⟩)),(115,.slice (some ⟨ri,0,none⟩) vl cc),(116,.pointer (some ⟨X,2,none⟩)),(117,.int .i64 (q:Int)),(118,.pointer (some ⟨ri,q,none⟩)),(119,.int .i64 yb)]:List (Tmp × Value)).lookup t).getD undef
theorem Qas {d:Int}{S:Nat->Bool}{t:Tmp}{u:Value}(e:Zk w6 w w') (a:QkG w6 b c X ri vl cc j q ya yb d S t u w):QkG w6 b c X ri vl cc j q ya yb d (Qcv i S) t u w':=by
 unfold QkG at a |-;refine QmV ?_ a;exact⟨fun _ h=>h,fun _ h=>h.z e,Y⟩
theorem QnV {D:Int}{z:World->Prop}{y:List PanicEntry->World->Prop}(C:∀ w,z w->w6.heap.size<=w.heap.size) (L:w6.cell? ⟨c,3,none⟩=some (.slice (some ⟨ri,0,none⟩) vl cc)) (W:w6.cell? ⟨X,1,none⟩=some (Iv (j:Int))) (hj:(j:Int)<vl) (ej:w6.cell? ⟨ri,j,none⟩=some (Iv ya)) (x2:w6.cell? ⟨X,2,none⟩=some (Iv (q:Int))) (hq:(q:Int)<vl) (eq:w6.cell? ⟨ri,q,none⟩=some (Iv yb)) (N:Hid (∀ wx,Below w6.heap.size w6 wx->Calls prog 173 #[Pv b 0,Iv ya,Iv yb] wx fun e w'=>(e=.returned (Iv D)/\z w'/\Zk w6 wx w')\/(∃ ch,e=.panicked ch/\y ch w')))  (T:∀ w w',(fun w=>∃ w5,z w5/\Below w5.heap.size w5 w) w->Below w.heap.size w w'->(fun w=>∃ w5,z w5/\Below w5.heap.size w5 w) w'){Q:Exit->Act->World->Prop}
 (a:Act) (m:Nat) (M:a.tmps.size=m) (G:148<=m) (h0:a.tmps.getD 0 undef=Pv b 0) (P:a.tmps.getD 1 undef=Pv c 0) (E:a.tmps.getD 5 undef=Pv X 0)
 (V:∀ ch a' w',a'.defers=a.defers->(fun ch w=>y ch w) ch w'->Q (.panic ch) a' w')
 (hend:∀ ops vs w',vs 102=Pv c 0->(Qj7 w6 D) (vs 121) w'->(fun w=>∃ w5,z w5/\Below w5.heap.size w5 w) w'->wpList prog ops Q (Qan 20 ((Tryz.f114.body.bind (Qi 18)).getD .skip)) (QM a vs [102,103,104,105,106,107,108,109,110,111,112,113,114,115,116,117,118,119,120,121]) w') :
 Code.wp prog ((Tryz.f114.body.bind (Qi 18)).getD .skip) Q a w6:=by
 conv=>arg 2;whnf
 refine Zs 20 (QkG w6 b c X ri vl cc j q ya yb D) (WY w6 (fun w=>∃ w5,z w5/\Below w5.heap.size w5 w) 18) (fun ch w=>y ch w) V (outs:=[0,1,5]) (gs:=[]) (bs:=[true,true,true,true,true,true,true,true,true,true,true,true,true,true,true,true,true,true,true,true]) (by kernel_rfl) (n:=148) M G (by kernel_rfl) (by kernel_rfl) ?hG (.inl ⟨Z,QI Zr 1⟩) ⟨h0,P,E,Y⟩ ?hA ?hend
 case hG=>exact fun S=>trivial
 case hend=>exact fun ops vs S w' A f g=>hend ops vs w' (g 102 (by kernel_rfl)) (g 121 (by kernel_rfl)) (f.fin (A 18 (by decide)))
 case hA =>
  refine⟨fun S a w o s p f g K l=>?_,?_⟩
  ·obtain⟨d,-⟩:=g
   have d:a.tmps.getD 1 undef=Pv c 0:=d;go_simp;exact l _ _ (fun t _ k=>Qas (i:=0) (Zk.refl _ _) k) (f.onS (i:=0) (by decide)) Z
  refine⟨fun S a w o s p f g K l=>?_,?_⟩
  ·obtain⟨d,-⟩:=g
   have d:a.tmps.getD 0 undef=Pv b 0:=d;go_simp;exact l _ _ (fun t _ k=>Qas (i:=1) (Zk.refl _ _) k) (f.onS (i:=1) (by decide)) Z
  refine⟨fun S a w o s p f g K l=>?_,?_⟩
  ·obtain⟨d,-⟩:=g
   have d:a.tmps.getD 1 undef=Pv c 0:=d;go_simp;exact l _ _ (fun t _ k=>Qas (i:=2) (Zk.refl _ _) k) (f.onS (i:=2) (by decide)) Z
  refine⟨fun S a w o s p f g K l=>?_,?_⟩
  ·obtain⟨d,-⟩:=g
   have d:a.tmps.getD 104 undef=Pv c 0:=d;go_simp;exact l _ _ (fun t _ k=>Qas (i:=3) (Zk.refl _ _) k) (f.onS (i:=3) (by decide)) Z
  refine⟨fun S a w o s p f g K l=>?_,?_⟩
  ·obtain⟨d,-⟩:=g
   have d:a.tmps.getD 105 undef=Pv c 0:=d;go_simp;exact l _ _ (fun t _ k=>Qas (i:=4) (Zk.refl _ _) k) (f.onS (i:=4) (by decide)) Z
  refine⟨fun S a w o s p f g K l=>?_,?_⟩
  ·obtain⟨d,-⟩:=g
   have r:S 18=false:=Qfq p (q:=18) Z (by kernel_rfl) o;have u:=f.pre r;have d:a.tmps.getD 106 undef=Pv c 3:=d;have B:=Qk L u;go_simp;exact l _ _ (fun t _ k=>Qas (i:=5) (Zk.refl _ _) k) (f.onS (i:=5) (by decide)) Z
  refine⟨fun S a w o s p f g K l=>?_,?_⟩
  ·obtain⟨d,-⟩:=g
   have d:a.tmps.getD 5 undef=Pv X 0:=d;go_simp;exact l _ _ (fun t _ k=>Qas (i:=6) (Zk.refl _ _) k) (f.onS (i:=6) (by decide)) Z
  refine⟨fun S a w o s p f g K l=>?_,?_⟩
  ·obtain⟨d,-⟩:=g
   have r:S 18=false:=Qfq p (q:=18) Z (by kernel_rfl) o;have u:=f.pre r;have d:a.tmps.getD 108 undef=Pv X 1:=d;have B:=Qk W u;go_simp;exact l _ _ (fun t _ k=>Qas (i:=7) (Zk.refl _ _) k) (f.onS (i:=7) (by decide)) Z
  refine⟨fun S a w o s p f g K l=>?_,?_⟩
  ·obtain⟨d,x,-⟩:=g
   have d:a.tmps.getD 107 undef=.slice (some ⟨ri,0,none⟩) vl cc:=d;have x:a.tmps.getD 109 undef=Iv (j:Int):=x;go_simp;exact l _ _ (fun t _ k=>Qas (i:=8) (Zk.refl _ _) k) (f.onS (i:=8) (by decide)) Z
  refine⟨fun S a w o s p f g K l=>?_,?_⟩
  ·obtain⟨d,-⟩:=g
   have r:S 18=false:=Qfq p (q:=18) Z (by kernel_rfl) o;have u:=f.pre r;have d:a.tmps.getD 110 undef=Pv ri j:=d;have B:=Qk ej u;go_simp;exact l _ _ (fun t _ k=>Qas (i:=9) (Zk.refl _ _) k) (f.onS (i:=9) (by decide)) Z
  refine⟨fun S a w o s p f g K l=>?_,?_⟩
  ·obtain⟨d,-⟩:=g
   have d:a.tmps.getD 1 undef=Pv c 0:=d;go_simp;exact l _ _ (fun t _ k=>Qas (i:=10) (Zk.refl _ _) k) (f.onS (i:=10) (by decide)) Z
  refine⟨fun S a w o s p f g K l=>?_,?_⟩
  ·obtain⟨d,-⟩:=g
   have d:a.tmps.getD 112 undef=Pv c 0:=d;go_simp;exact l _ _ (fun t _ k=>Qas (i:=11) (Zk.refl _ _) k) (f.onS (i:=11) (by decide)) Z
  refine⟨fun S a w o s p f g K l=>?_,?_⟩
  ·obtain⟨d,-⟩:=g
   have d:a.tmps.getD 113 undef=Pv c 0:=d;go_simp;exact l _ _ (fun t _ k=>Qas (i:=12) (Zk.refl _ _) k) (f.onS (i:=12) (by decide)) Z
  refine⟨fun S a w o s p f g K l=>?_,?_⟩
  ·obtain⟨d,-⟩:=g
   have r:S 18=false:=Qfq p (q:=18) Z (by kernel_rfl) o;have u:=f.pre r;have d:a.tmps.getD 114 undef=Pv c 3:=d;have B:=Qk L u;go_simp;exact l _ _ (fun t _ k=>Qas (i:=13) (Zk.refl _ _) k) (f.onS (i:=13) (by decide)) Z
  refine⟨fun S a w o s p f g K l=>?_,?_⟩
  ·obtain⟨d,-⟩:=g
   have d:a.tmps.getD 5 undef=Pv X 0:=d;go_simp;exact l _ _ (fun t _ k=>Qas (i:=14) (Zk.refl _ _) k) (f.onS (i:=14) (by decide)) Z
  refine⟨fun S a w o s p f g K l=>?_,?_⟩
  ·obtain⟨d,-⟩:=g
   have r:S 18=false:=Qfq p (q:=18) Z (by kernel_rfl) o;have u:=f.pre r;have d:a.tmps.getD 116 undef=Pv X 2:=d;have B:=Qk x2 u;go_simp;exact l _ _ (fun t _ k=>Qas (i:=15) (Zk.refl _ _) k) (f.onS (i:=15) (by decide)) Z
  refine⟨fun S a w o s p f g K l=>?_,?_⟩
  ·obtain⟨d,x,-⟩:=g
   have d:a.tmps.getD 115 undef=.slice (some ⟨ri,0,none⟩) vl cc:=d;have x:a.tmps.getD 117 undef=Iv (q:Int):=x;go_simp;exact l _ _ (fun t _ k=>Qas (i:=16) (Zk.refl _ _) k) (f.onS (i:=16) (by decide)) Z
  refine⟨fun S a w o s p f g K l=>?_,?_⟩
  ·obtain⟨d,-⟩:=g
   have r:S 18=false:=Qfq p (q:=18) Z (by kernel_rfl) o;have u:=f.pre r;have d:a.tmps.getD 118 undef=Pv ri q:=d;have B:=Qk eq u;go_simp;exact l _ _ (fun t _ k=>Qas (i:=17) (Zk.refl _ _) k) (f.onS (i:=17) (by decide)) Z
  refine⟨fun S a w o s p f g K l=>?_,?_⟩
  ·obtain⟨d,x,J,-⟩:=g
   have u:=f.pre o;have d:a.tmps.getD 103 undef=Pv b 0:=d;have x:a.tmps.getD 111 undef=Iv ya:=x;have J:a.tmps.getD 119 undef=Iv yb:=J;go_simp;refine Xm (N.out w u) ?_;rintro r7 w7 (⟨rfl,I,R⟩|⟨ch,rfl,I⟩)
   rotate_left
   ·exact⟨_,Z,I⟩
   go_simp;exact l _ _ (fun t _ k=>Qas (i:=18) R k) (WY.did ⟨_,I,Zr⟩) Z
  refine⟨fun S a w o s p f g K l=>?_,?_⟩
  ·obtain⟨d,-⟩:=g
   have d:(fun v=>v=Iv D) (a.tmps.getD 120 undef):=d;generalize F:a.tmps.getD 120 undef=U at d;rw[Za] at F
   subst d;go_simp;have H:=f.lowB (fun w h=>by obtain⟨w5,E,O⟩:=h;exact Zt (C _ E) O.size);exact l _ _ (fun t _ k=>Qas (i:=19) (Zk.below (ZP _ _)) k) (f.onB T (i:=19) (by decide) (ZP _ _)) ⟨_,Z,H,Qb (Qe _ _ _) 0 _ Z⟩
  trivial
def Qnr (w6:World) (fr:RFr) (gc nc:Nat) (vs0:List Value) (v:Value) (w:World):Prop:=∃ w5 c5 x5 n5,Below w6.heap.size w6 w5/\w6.heap.size<=c5/\w6.heap.size<=x5/\WFr w5 c5 fr (.slice (some ⟨x5,0,none⟩) n5 n5)/\w.ownsRow 0 130 1 v (nc+1) (vs0++[Pv c5 0])/\w5.grownBy w (some gc)/\∀ k,v.ownBlock=some k->k=gc\/k=w5.heap.size
theorem wInfoF:∃ i,prog.info? 130=some i/\i.zero=some (.pointer none)/\i.size=1/\i.bytes=8:=by
 have a:(prog.info? 130).map (fun i=>(i.zero,i.size,i.bytes))=some (some (.pointer none),1,8):=by kernel_rfl
 cases h2:prog.info? 130 with
 | none=>rw[h2] at a;cases a
 | some i =>
   rw[h2] at a
   simp at a
   exact⟨i,Z,a.1,a.2.1,a.2.2⟩
theorem wUnderF:prog.underlying 66=some (.slice 130):=by kernel_rfl
def QlE (w6:World) (fr:RFr) (b c X fi gc nc dc na ca:Nat) (pa:Option Addr) (vs0:List Value) (S:Nat->Bool) (t:Tmp) (v:Value) (w:World):Prop :=
 match ([(23,fun _ v w=>(Qhy w6 fr) v w),(24,fun _ v w=>(QmM w6 fr) v w),(25,fun S v w=>S 12=true->(Qnr w6 fr gc nc vs0) v w)]:List (Tmp × ((Nat->Bool)->Value->World->Prop))).lookup t with
 | some p=>p S v w
 | none=>v=(([(0,.pointer (some ⟨b,0,none⟩)),(1,.pointer (some ⟨c,0,none⟩)),(5,.pointer (some ⟨X,0,none⟩)),(13,.pointer (some ⟨b,0,none⟩)),(14,.pointer (some ⟨b,0,none⟩)),(15,.pointer (some ⟨b,0,none⟩)),(16,.pointer (some ⟨b,4,none⟩)),(17,.slice (some ⟨gc,0,none⟩) nc dc),(18,.pointer (some ⟨c,0,none⟩)),(19,.pointer (some ⟨X,4,none⟩)),(20,.int .i64 (fi:Int)),(21,.pointer (some ⟨X,7,none⟩)),(22,.slice pa na ca),(26,.pointer (some ⟨b,0,none⟩)),(27,.pointer (some ⟨b,4,none⟩))]:List (Tmp × Value)).lookup t).getD undef
theorem Qgo {fr:RFr}{g k f l:Nat}{a:List Value}{S:Nat->Bool}{t:Tmp}{u:Value}(hi:i≠12) (j:Zk w6 w w') (m:S 12=true->w'=w) (d:QlE w6 fr b c X fi g k f l ca pa a S t u w):QlE w6 fr b c X fi g k f l ca pa a (Qcv i S) t u w':=by
 unfold QlE at d |-;refine QmV ?_ d;exact⟨fun _ h=>h.z j,fun _ h=>h.z j,fun _ h e=>(by rw[Qnh (fun e=>hi e.symm)] at e;have n:=m e;subst n;exact h e),Y⟩
theorem Qn2 {fr:RFr}{g j f k:Nat}{a:List Value}{S:Nat->Bool}{t:Tmp}{u:Value}(l:t≠25) (i:Zk w6 w w') (d:QlE w6 fr b c X fi g j f k ca pa a S t u w):QlE w6 fr b c X fi g j f k ca pa a (Qcv 12 S) t u w':=by
 unfold QlE at d |-;refine QmV ?_ d;exact⟨fun _ h=>h.z i,fun _ h=>h.z i,fun e _=>absurd e l,Y⟩
theorem wc2 {fr:RFr}{y x E H:Nat}{v:List Value}(hR:Hid (∀ wx,Below w6.heap.size w6 wx->wx.ownsRow 0 130 1 (.slice (some ⟨y,0,none⟩) x E) x v)) (ac:y<w6.heap.size) (ab:x<=100) (q4:w6.cell? ⟨b,4,none⟩=some (.slice (some ⟨y,0,none⟩) x E)) (x4:w6.cell? ⟨X,4,none⟩=some (Iv (fi:Int))) (C:w6.cell? ⟨X,7,none⟩=some (.slice pa H ca)) (CB:Hid (∀ wx,Below w6.heap.size w6 wx->Calls prog 216 #[Pv c 0,Iv (fi:Int),Iv 0,.slice pa H ca] wx fun e w'=>Qmf wx fr e w'))  (hP:∀ w w',(fun w=>w6.heap.size<=w.heap.size) w->Below w.heap.size w w'->(fun w=>w6.heap.size<=w.heap.size) w'){Q:Exit->Act->World->Prop}
 (a:Act) (m:Nat) (hn:a.tmps.size=m) (P:28<=m) (h0:a.tmps.getD 0 undef=Pv b 0) (M:a.tmps.getD 1 undef=Pv c 0) (h5:a.tmps.getD 5 undef=Pv X 0)
 (hX:∀ ch a' w',a'.defers=a.defers->(fun ch w=>False) ch w'->Q (.panic ch) a' w')
 (hend:∀ ops vs w',(Qnr w6 fr y x v) (vs 25) w'->vs 27=Pv b 4->(fun w=>w6.heap.size<=w.heap.size) w'->wpList prog ops Q (Qan 15 ((Tryz.f176.body.bind (Qi 2)).getD .skip)) (QM a vs [13,14,15,16,17,18,19,20,21,22,23,24,25,26,27]) w') :
 Code.wp prog ((Tryz.f176.body.bind (Qi 2)).getD .skip) Q a w6:=by
 conv=>arg 2;whnf
 refine Zs 15 (QlE w6 fr b c X fi y x E H ca pa v) (WY w6 (fun w=>w6.heap.size<=w.heap.size) 12) (fun ch w=>False) hX (outs:=[0,1,5]) (gs:=[]) (bs:=[true,true,true,true,true,true,true,true,true,true,true,true,true,true,true]) (by kernel_rfl) (n:=28) hn P (by kernel_rfl) (by kernel_rfl) ?hG (.inl ⟨Yz,QI Zr 1⟩) ⟨h0,M,h5,Y⟩ ?hA ?hend
 case hG=>exact fun S=>trivial
 case hend=>exact fun ops vs S w' A f g=>hend ops vs w' ((show S 12=true->(Qnr w6 fr y x v) (vs 25) w' from g 25 (by kernel_rfl)) (A 12 (by decide))) (g 27 (by kernel_rfl)) (f.fin (A 12 (by decide)))
 case hA =>
  refine⟨fun S a w o s p f g K j=>?_,?_⟩
  ·obtain⟨d,-⟩:=g
   have d:a.tmps.getD 0 undef=Pv b 0:=d;go_simp;exact j _ _ (fun t _ h=>Qgo (by decide) (i:=0) (Zk.refl _ _) (fun _=>rfl) h) (f.onS (i:=0) (by decide)) Yz
  refine⟨fun S a w o s p f g K j=>?_,?_⟩
  ·obtain⟨d,-⟩:=g
   have d:a.tmps.getD 0 undef=Pv b 0:=d;go_simp;exact j _ _ (fun t _ h=>Qgo (by decide) (i:=1) (Zk.refl _ _) (fun _=>rfl) h) (f.onS (i:=1) (by decide)) Yz
  refine⟨fun S a w o s p f g K j=>?_,?_⟩
  ·obtain⟨d,-⟩:=g
   have d:a.tmps.getD 14 undef=Pv b 0:=d;go_simp;exact j _ _ (fun t _ h=>Qgo (by decide) (i:=2) (Zk.refl _ _) (fun _=>rfl) h) (f.onS (i:=2) (by decide)) Yz
  refine⟨fun S a w o s p f g K j=>?_,?_⟩
  ·obtain⟨d,-⟩:=g
   have d:a.tmps.getD 15 undef=Pv b 0:=d;go_simp;exact j _ _ (fun t _ h=>Qgo (by decide) (i:=3) (Zk.refl _ _) (fun _=>rfl) h) (f.onS (i:=3) (by decide)) Yz
  refine⟨fun S a w o s p f g K j=>?_,?_⟩
  ·obtain⟨d,-⟩:=g
   have l:S 12=false:=Qfq p (q:=12) Yz (by kernel_rfl) o;have r:=f.pre l;have d:a.tmps.getD 16 undef=Pv b 4:=d;have V:=Qk q4 r;go_simp;exact j _ _ (fun t _ h=>Qgo (by decide) (i:=4) (Zk.refl _ _) (fun _=>rfl) h) (f.onS (i:=4) (by decide)) Yz
  refine⟨fun S a w o s p f g K j=>?_,?_⟩
  ·obtain⟨d,-⟩:=g
   have d:a.tmps.getD 1 undef=Pv c 0:=d;go_simp;exact j _ _ (fun t _ h=>Qgo (by decide) (i:=5) (Zk.refl _ _) (fun _=>rfl) h) (f.onS (i:=5) (by decide)) Yz
  refine⟨fun S a w o s p f g K j=>?_,?_⟩
  ·obtain⟨d,-⟩:=g
   have d:a.tmps.getD 5 undef=Pv X 0:=d;go_simp;exact j _ _ (fun t _ h=>Qgo (by decide) (i:=6) (Zk.refl _ _) (fun _=>rfl) h) (f.onS (i:=6) (by decide)) Yz
  refine⟨fun S a w o s p f g K j=>?_,?_⟩
  ·obtain⟨d,-⟩:=g
   have l:S 12=false:=Qfq p (q:=12) Yz (by kernel_rfl) o;have r:=f.pre l;have d:a.tmps.getD 19 undef=Pv X 4:=d;have V:=Qk x4 r;go_simp;exact j _ _ (fun t _ h=>Qgo (by decide) (i:=7) (Zk.refl _ _) (fun _=>rfl) h) (f.onS (i:=7) (by decide)) Yz
  refine⟨fun S a w o s p f g K j=>?_,?_⟩
  ·obtain⟨d,-⟩:=g
   have d:a.tmps.getD 5 undef=Pv X 0:=d;go_simp;exact j _ _ (fun t _ h=>Qgo (by decide) (i:=8) (Zk.refl _ _) (fun _=>rfl) h) (f.onS (i:=8) (by decide)) Yz
  refine⟨fun S a w o s p f g K j=>?_,?_⟩
  ·obtain⟨d,-⟩:=g
   have l:S 12=false:=Qfq p (q:=12) Yz (by kernel_rfl) o;have r:=f.pre l;have d:a.tmps.getD 21 undef=Pv X 7:=d;have V:=Qk C r;go_simp;exact j _ _ (fun t _ h=>Qgo (by decide) (i:=9) (Zk.refl _ _) (fun _=>rfl) h) (f.onS (i:=9) (by decide)) Yz
  refine⟨fun S a w o s p f g K j=>?_,?_⟩
  ·obtain⟨d,B,W,-⟩:=g
   have l:S 12=false:=Qfq p (q:=12) Yz (by kernel_rfl) o;have r:=f.pre l;have d:a.tmps.getD 18 undef=Pv c 0:=d;have B:a.tmps.getD 20 undef=Iv (fi:Int):=B;have W:a.tmps.getD 22 undef=.slice pa H ca:=W;go_simp;refine Xm (CB.out w r) ?_;rintro r7 w7 ⟨k7,C,G,rfl,M,h2,h3,b7⟩;go_simp;exact j _ _ (fun t _ h=>Qgo (by decide) (i:=10) (Zk.below b7) (fun e=>by rw[l] at e;cases e) h) (f.onB hP (i:=10) (by decide) b7) ⟨k7,C,G,Yz,Zt r.size M,Zt r.size h2,h3⟩
  refine⟨fun S a w o s p f g K j=>?_,?_⟩
  ·obtain⟨d,-⟩:=g
   have l:S 12=false:=Qfq p (q:=12) Yz (by kernel_rfl) o;have r:=f.pre l;have d:(Qhy w6 fr) (a.tmps.getD 23 undef) w:=d;generalize J:a.tmps.getD 23 undef=ad at d;rw[Za] at J
   have k9:=d;obtain⟨O,C,G,rfl,h9,F,D⟩:=d
   go_simp;exact j _ _ (fun t _ h=>Qgo (by decide) (i:=11) (Zk.below (ZP _ _)) (fun e=>by rw[l] at e;cases e) h) (f.onB hP (i:=11) (by decide) (ZP _ _)) ⟨_,_,Yz,r.size,Qb (Qe _ _ _) 0 _ Yz,k9.z (Zk.below (ZP _ _))⟩
  refine⟨fun S a w o s p f g K j=>?_,?_⟩
  ·obtain⟨d,B,-⟩:=g
   have r:=f.pre o;have d:a.tmps.getD 17 undef=.slice (some ⟨y,0,none⟩) x E:=d;have B:(QmM w6 fr) (a.tmps.getD 24 undef) w:=B;generalize N:a.tmps.getD 24 undef=aa at B;obtain⟨kx,u7,rfl,h7,h8,O,C,G,rfl,h9,F,D⟩:=B
   obtain⟨i0,L,R,I,T⟩:=wInfoF
   refine Qfb w _ _ 66 Yz 130 i0 (.pointer none) 1 8 wUnderF L R I T Yz (by decide) (.slice (some ⟨y,0,none⟩) x E) x v d (hR.out w r) ⟨kx,0,none⟩ 1 1 [Pv O 0] N Yz (QgK h8) (by intro u hu;simp at hu;subst hu;rfl) (by unfold maxLen;omega) (by omega) ?_;intro v9 w9 r1 U r3;have hz:Zk w6 w w9:=fun Z hZ hl=>U.block Z hl (fun e=>by have:Z=y:=(by simpa[Value.ownBlock] using e);omega);refine j _ _ (fun t hL h=>Qn2 (fun e=>by subst e;have:=Qkx hL (by kernel_rfl) (i:=12) (by kernel_rfl);rw[o] at this;cases this) hz h) (WY.did (Zt r.size U.size)) (fun _=>⟨w,O,C,G,r,h9,F,D,r1,U,fun k g=>(r3 k g).imp (fun e=>by simpa[Value.ownBlock] using e.symm) id⟩)
  refine⟨fun S a w o s p f g K j=>?_,?_⟩
  ·obtain⟨d,-⟩:=g
   have d:a.tmps.getD 13 undef=Pv b 0:=d;go_simp;exact j _ _ (fun t _ h=>Qgo (by decide) (i:=13) (Zk.refl _ _) (fun _=>rfl) h) (f.onS (i:=13) (by decide)) Yz
  refine⟨fun S a w o s p f g K j=>?_,?_⟩
  ·obtain⟨d,-⟩:=g
   have d:a.tmps.getD 26 undef=Pv b 0:=d;go_simp;exact j _ _ (fun t _ h=>Qgo (by decide) (i:=14) (Zk.refl _ _) (fun _=>rfl) h) (f.onS (i:=14) (by decide)) Yz
  trivial
def RM.nx (R:RM):RM:={ R with top:={ R.top with i:=R.top.i+1 } }
def Qdj (g:WG) (w:World) (b most:Nat) (m:List (MFunc 6)) (r:RM) (e:Ending) (w':World):Prop :=
 (∃ N,r=N.nx/\e=.returned (.tuple #[])/\WTo g w w' b most m N)\/(∃ N k,r=N.over k/\e=.panicked (QdF k)/\WTo g w w' b most m N)
section
variable {w w' w2:World}{b most n:Nat}{m:List (MFunc 6)}{R R' r:RM}{g g1:WG}
theorem Qdj.then {e:Ending}(T:WSt g g1 w w2) (f:g1.t.c=g.t.c) (h:g1.fs=g.fs) (H:Qdj g1 w2 b most m r e w'):Qdj g w b most m r e w':=by
 rcases H with ⟨N,a,c,d⟩|⟨N,k,a,c,d⟩
 ·exact .inl ⟨N,a,c,WTo.then T f h d⟩
 ·exact .inr ⟨N,k,a,c,WTo.then T f h d⟩
theorem Qdj.cases {e:Ending}(h:Qdj g w b most m r e w'):(e=.returned (.tuple #[])\/∃ ch,e=.panicked ch):=by
 rcases h with ⟨N,a,c,d⟩|⟨N,k,a,c,d⟩
 ·exact .inl c
 ·exact .inr ⟨_,c⟩
theorem WAt.wordAt (S:WAt w b most m R g){k a:Int}(h:iAt R.top.v k=some a):∃ (j i o:Nat) (c:Nat),k=(j:Int)/\(j:Int)<(R.top.v.length:Nat)/\w.cell? ⟨g.t.c,3,none⟩=some (.slice (some ⟨i,0,none⟩) R.top.v.length c)/\w.cell? ⟨i,j,none⟩=some (Iv a):=by
 obtain⟨j,rfl,n,p⟩:=Qli h
 have F:=S.top;obtain⟨q,l,e,d⟩:=F.2.cell
 obtain⟨i,rfl,-,f⟩:=d j n
 refine⟨j,i,0,l,Z,by omega,?_,by rw[p];exact f⟩
 rw[<-e];exact Qb F.1 3 _ Z
theorem WAt.makesC (S:WAt w b most m R g)(h:w.cell? ⟨k,0,none⟩=some (Iv x)) (a:R.top.v.length+1<=1000000) :
 Calls prog 169 #[Pv g.t.c 0,.slice (some ⟨k,0,none⟩) 1 1] w fun e w'=>e=.returned (.tuple #[])/\WTo g w w' b most m (R.push [x]) :=
 QbZ S (l:=[x]) Z (QgK h) a
theorem Qz.zk {w w':World}(h:Qz O O' w w') (b:∀ x,O x->x<w6.heap.size):Zk w6 w w':=fun Z c a=>h.block Z a (fun e=>by have:=b Z e;omega)
theorem Qni (S:WAt w b most m R g) (I:ROk m n R) (G:n<=900000){x:Qs}(d:IP) (h:x.op=1) (a:RM.ins aOp R x=some r) :
 Calls prog 114 #[Pv b 0,Pv g.t.c 0,.agg (Zq x d)] w fun e w'=>Qdj g w b most m r e w':=by
 have f:=Qc (ZP w (.cells (Zq x d) 78));have i:=Qc (Qe w (Zq x d) 78);have o:=Qc (S.below f.out);have l:=Qc (S.stepB f.out);have z:R.top.v.length+1<=1000000:=by have:=(I.fr R.top (by simp)).1;omega
 have k:=I.out.1;have p:=I.inp;clear S I;go_enter func114,ntmps114
 go_upto_region 1 with fail
 generalize w.alloc (.cells (Zq x d) 78)=H at f i o l |-;generalize w.heap.size=X at i |-;obtain⟨q,B,F,y,s,D,A,u⟩:=Q5 i.out
 rw[h] at q
 have E:Hid (r=(R.push [x.n]).nx):=by show _=_;unfold RM.ins at a;simp only[h,if_true] at a;cases a;rfl
 have C:=Qc (Qb8 o.out x.n z);clear B F y s A u a h;go_wp2_with fail
 refine C.out.mono ?_;rintro K J ⟨rfl,j⟩;have Z:=Qc (WTo.then l.out Yz Yz j);clear j C D q;go_wp2
 exact Xz (v:=.tuple #[]) (by simp[results,results114,go_sem]) Yz (.inl ⟨_,E.out,Yz,Z.out⟩)
theorem Qnm (S:WAt w b most m R g) (I:ROk m n R) (hn:n<=900000){x:Qs}(o:IP) (h:x.op=3) (G:RM.ins aOp R x=some r) :
 Calls prog 114 #[Pv b 0,Pv g.t.c 0,.agg (Zq x o)] w fun e w'=>Qdj g w b most m r e w':=by
 have z:=Qc (ZP w (.cells (Zq x o) 78));have B:=Qc (Qe w (Zq x o) 78);have u:=Qc (S.below z.out);have q:=Qc (S.stepB z.out);have T:R.top.v.length+1<=1000000:=by have:=(I.fr R.top (by simp)).1;omega
 have F:=I.out.1;have H:=I.inp;clear S I;go_enter func114,ntmps114
 go_upto_region 1 with fail
 generalize w.alloc (.cells (Zq x o) 78)=w1 at z B u q |-;generalize w.heap.size=X at B |-;obtain⟨M,x1,x2,P,N,x5,W,O⟩:=Q5 B.out
 rw[h] at M
 have E:Hid (some r=if 0<=R.e.openK then some (({ R with e:=R.e.opened }:RM).on [R.e.openK]) else some (R.over 6)):=by show _=_;rw[<-G];unfold RM.ins;simp[h]
 have C:=Qc u.out.openC;have U:=u.out.cellE;clear x1 x2 P N x5 W O G h;by_cases f:0<=R.e.openK
 ·have k:Hid (r=(RM.push { R with e:=R.e.opened } [R.e.openK]).nx):=by show _=_;have:=E.out;rw[Xs f] at this;cases this;rfl
  have s:decide (R.e.openK>=0)=true:=by simpa using f
  clear E f;obtain⟨d,a⟩:∃ d,R.e.openK=d:=⟨_,Yz⟩
  rw[a] at C k s
  clear a;go_upto_region 12 with (first | (go_at_call 170;refine C.out.mono ?_;rintro j Q ⟨rfl,l⟩) | (go_at_call 111;refine(QaJ _ _).mono ?_;rintro j w' ⟨rfl,i⟩;have i:=i.symm;subst i))
  obtain⟨g2,L,K,p,J⟩:=l
  have A:=Qc (Qb8 L d T);rw[p] at A
  have y:=Qc (Xh (q.out.trans K) (Xh p J));clear L K p J C U;go_wp2_with fail
  refine A.out.mono ?_;rintro j w5 ⟨rfl,D⟩;have Z:=Qc (WTo.then y.out.1 y.out.2.1 y.out.2.2 D);clear D A M;go_wp2
  exact Xz (v:=.tuple #[]) (by simp[results,results114,go_sem]) Yz (.inl ⟨_,k.out,Yz,Z.out⟩)
 ·have k:Hid (r=R.over 6):=by show _=_;have:=E.out;rw[Xr f] at this;cases this;rfl
  have s:decide (R.e.openK>=0)=false:=by simpa using f
  have V:Hid (R.e.opened=R.e):=by
   show _=_;unfold Est.opened;rw[Xs (by omega)]
  clear E f;obtain⟨d,a⟩:∃ d,R.e.openK=d:=⟨_,Yz⟩
  rw[a] at C s
  clear a;go_wp2_with (go_at_call 170;refine C.out.mono ?_;rintro j Q ⟨rfl,l⟩)
  refine(Qab _ _).mono ?_
  rintro j w' ⟨rfl,i⟩;subst i;rw[V.out] at l
  exact⟨Yz,.inr ⟨R,6,k.out,Yz,WTo.then q.out Yz Yz l⟩⟩
theorem Qmh (S:WAt w b most m R g) (I:ROk m n R) (U:n<=900000){x:Qs}(f:IP) (h:x.op=12) (a:RM.ins aOp R x=some r) :
 Calls prog 114 #[Pv b 0,Pv g.t.c 0,.agg (Zq x f)] w fun e w'=>Qdj g w b most m r e w':=by
 have q:=Qc (ZP w (.cells (Zq x f) 78));have u:=Qc (Qe w (Zq x f) 78);have D:=Qc (S.below q.out);have j:=Qc (S.stepB q.out);have Q:R.top.v.length+1<=1000000:=by have:=(I.fr R.top (by simp)).1;omega
 have y:=I.out.1;have G:=I.inp;clear S I;go_enter func114,ntmps114
 go_upto_region 1 with fail
 generalize w.alloc (.cells (Zq x f) 78)=V at q u D j |-;generalize w.heap.size=X at u |-;obtain⟨N,L,O,E,A,M,J,B⟩:=Q5 u.out
 rw[h] at N
 have C:=Qc (QfF D.out (by omega));unfold Qm7 at C
 cases hi:R.inp with
 | nil =>
   rw[hi] at C
   have o:Hid (r=R.over 4):=by show _=_;unfold RM.ins at a;simp[h,hi] at a;exact a.symm
   clear L O E A M J B a h hi;go_wp2_with fail
   refine C.out.mono ?_;rintro z P ⟨rfl,d⟩;exact⟨Yz,.inr ⟨R,4,o.out,Yz,WTo.then j.out Yz Yz d⟩⟩
 | cons k l =>
   rw[hi] at C
   have o:Hid (r=(RM.push { R with inp:=l } [k]).nx):=by show _=_;unfold RM.ins at a;simp[h,hi] at a;exact a.symm
   clear L O E A M J B a h hi;go_wp2_with (go_at_call 174;refine C.out.mono ?_;rintro z W ⟨rfl,T⟩)
   obtain⟨g2,K,H,i,F⟩:=T
   have s:=Qc (Qb8 K k Q);rw[i] at s
   have p:=Qc (Xh (j.out.trans H) (Xh i F));clear K H i F C;refine s.out.mono ?_;rintro z P ⟨rfl,d⟩;have Z:=Qc (WTo.then p.out.1 p.out.2.1 p.out.2.2 d);clear d s N;go_wp2
   exact Xz (v:=.tuple #[]) (by simp[results,results114,go_sem]) Yz (.inl ⟨_,o.out,Yz,Z.out⟩)
end
section
variable {w w' w2:World}{b most n:Nat}{m:List (MFunc 6)}{R R' r:RM}{g g1:WG}
theorem Qnp (S:WAt w b most m R g) (I:ROk m n R) (hn:n<=900000){x:Qs}(p:IP) (h:x.op=4) (i:RM.ins aOp R x=some r) :
 Calls prog 114 #[Pv b 0,Pv g.t.c 0,.agg (Zq x p)] w fun e w'=>Qdj g w b most m r e w':=by
 have o:=Qc (ZP w (.cells (Zq x p) 78));have y:=Qc (Qe w (Zq x p) 78);have k:=Qc (S.below o.out);have q:=Qc (S.stepB o.out);have hl:R.top.v.length+1<=1000000:=by have:=(I.fr R.top (by simp)).1;omega
 have z:=I.out.1;have A:=I.inp;clear S I;go_enter func114,ntmps114
 go_upto_region 1 with fail
 generalize w.alloc (.cells (Zq x p) 78)=w1 at o y k q |-;generalize w.heap.size=X at y |-;obtain⟨V,B,x2,M,J,U,T,K⟩:=Q5 y.out
 rw[h] at V
 obtain⟨a,l⟩:∃ a,iAt R.top.v x.a=some a:=by
  unfold RM.ins at i
  cases l:iAt R.top.v x.a with
  | none=>simp[h,l] at i
  | some a=>exact⟨a,Yz⟩
 have L:Hid (r=RM.nx { R with e:=R.e.shut a }):=by show _=_;unfold RM.ins at i;simp[h,l] at i;rw[<-i];simp[RM.on,RM.nx]
 obtain⟨j,ri,-,c,E,N,Q,W⟩:=k.out.wordAt l
 rw[E] at B
 have O:=k.out.cellE;clear x2 M J U T K i h l E;go_upto_region 14 with fail
 refine Qoj O Q B N W _ _ Yz (Xg (by kernel_rfl)) Yz Yz Yz ?_;rintro u G F d f s;show wpList _ u _ [_] (QM _ G [68,69,70,71,72,73,74,75,76,77,78,79]) F;simp only[QM,Act.put,List.setIfInBounds_toArray,List.set_cons_zero,List.set_cons_succ,d,f]
 have H:=Qc (k.out.below s);have P:=Qc (q.out.trans (k.out.stepB s));clear d f s k q o;have C:=Qc (H.out.shutC a);go_wp2_with (go_at_call 171;refine C.out.mono ?_;rintro e' w2 ⟨rfl,D⟩;have Z:=Qc (WTo.then P.out Yz Yz D);clear D C)
 exact Xz (v:=.tuple #[]) (by simp[results,results114,go_sem]) Yz (.inl ⟨_,L.out,Yz,Z.out⟩)
theorem QmF (S:WAt w b most m R g) (I:ROk m n R) (hn:n<=900000){x:Qs}(y:IP) (h:x.op=13) (i:RM.ins aOp R x=some r) :
 Calls prog 114 #[Pv b 0,Pv g.t.c 0,.agg (Zq x y)] w fun e w'=>Qdj g w b most m r e w':=by
 have s:=Qc (ZP w (.cells (Zq x y) 78));have E:=Qc (Qe w (Zq x y) 78);have o:=Qc (S.below s.out);have z:=Qc (S.stepB s.out);have hl:R.top.v.length+1<=1000000:=by have:=(I.fr R.top (by simp)).1;omega
 have l:=I.out.1;have F:=I.inp;clear S I;go_enter func114,ntmps114
 go_upto_region 1 with fail
 generalize w.alloc (.cells (Zq x y) 78)=w1 at s E o z |-;generalize w.heap.size=X at E |-;obtain⟨W,H,x2,P,N,V,U,O⟩:=Q5 E.out
 rw[h] at W
 obtain⟨a,k⟩:∃ a,iAt R.top.v x.a=some a:=by
  unfold RM.ins at i
  cases k:iAt R.top.v x.a with
  | none=>simp[h,k] at i
  | some a=>exact⟨a,Yz⟩
 have B:Hid (r=if R.out.length<2000 then RM.nx { R with out:=R.out++[a] } else R.over 8):=by
  show _=_;unfold RM.ins at i;by_cases p:R.out.length<2000
  ·simp[h,k,p] at i;rw[Xs p,<-i];simp[RM.on,RM.nx]
  ·simp[h,k,p] at i;rw[Xr p];exact i.symm
 obtain⟨j,ri,-,c,J,Q,T,ck⟩:=o.out.wordAt k
 rw[J] at H
 clear x2 P N V U O i h k J;go_upto_region 22 with fail
 refine QnR T H Q ck _ _ Yz (Xg (by kernel_rfl)) Yz Yz Yz ?_;rintro D L K d f A;show wpList _ D _ [_] (QM _ L [132,133,134,135,136,137,138,139,140]) K;simp only[QM,Act.put,List.setIfInBounds_toArray,List.set_cons_zero,List.set_cons_succ,d,f]
 have M:=Qc (o.out.below A);have G:=Qc (z.out.trans (o.out.stepB A));clear d f A o z s;have C:=Qc (Qf7 M.out a l);go_wp2_with fail
 refine C.out.mono ?_;rintro e' w2 (⟨q,rfl,u⟩|⟨q,rfl,u⟩)
 ·have E3:Hid (r=RM.nx { R with out:=R.out++[a] }):=by show _=_;rw[B.out,Xs q]
  have Z:=Qc (WTo.then G.out Yz Yz u);clear q u C B;go_wp2
  exact Xz (v:=.tuple #[]) (by simp[results,results114,go_sem]) Yz (.inl ⟨_,E3.out,Yz,Z.out⟩)
 ·exact⟨Yz,.inr ⟨R,8,by rw[B.out,Xr q],Yz,WTo.then G.out Yz Yz u⟩⟩
theorem Qnq (S:WAt w b most m R g) (I:ROk m n R) (hn:n<=900000){x:Qs}(A:IP) (h:x.op=2) (d:RM.ins aOp R x=some r) :
 Calls prog 114 #[Pv b 0,Pv g.t.c 0,.agg (Zq x A)] w fun e w'=>Qdj g w b most m r e w':=by
 have E:=Qc (ZP w (.cells (Zq x A) 78));have F:=Qc (Qe w (Zq x A) 78);have f:=Qc (S.below E.out);have C:=Qc (S.stepB E.out);have T:R.top.v.length+1<=1000000:=by have:=(I.fr R.top (by simp)).1;omega
 have N:=I.out.1;have Q:=I.inp;clear S I;go_enter func114,ntmps114
 go_upto_region 1 with fail
 generalize w.alloc (.cells (Zq x A) 78)=K at E F f C |-;generalize w.heap.size=X at F |-;obtain⟨x0,V,x2,x3,x4,x5,x6,x7⟩:=Q5 F.out
 rw[h] at x0
 obtain⟨a,l⟩:∃ a,iAt R.top.v x.a=some a:=by
  unfold RM.ins at d
  cases l:iAt R.top.v x.a with
  | none=>simp[h,l] at d
  | some a=>exact⟨a,Yz⟩
 obtain⟨y,o⟩:∃ y,iAt R.top.v x.b=some y:=by
  unfold RM.ins at d
  cases o:iAt R.top.v x.b with
  | none=>simp[h,l,o] at d
  | some y=>exact⟨y,Yz⟩
 have i:Hid (some r=match aOp x.k a y with | none=>some (R.over 1) | some n=>some (R.on [n])):=by show _=_;rw[<-d];unfold RM.ins;simp[h,l,o];cases aOp x.k a y<;>rfl
 obtain⟨j,ri,-,c,ej,U,D,ck⟩:=f.out.wordAt l
 obtain⟨q,aa,-,c',eq,W,z,J⟩:=f.out.wordAt o
 rw[D] at z
 cases z
 rw[ej] at V
 rw[eq] at x2
 have u:=Qc (fun B=>Ql4 x.k a y B);generalize x.k=xk at *;have G:=Qc T;clear x3 x5 x6 x7 d h l o ej eq T;obtain⟨L,s⟩:∃ L,R.top.v.length=L:=⟨_,Yz⟩
 rw[s] at D U W
 clear s
 cases ho:aOp xk a y with
 | none =>
   rw[ho] at u i
   have H:Hid (r=R.over 1):=by show _=_;have:=i.out;simpa using this
   clear ho i;go_upto_region 6 with fail
   go_quiet ((go_at_call 136;exact Calls.quiet_of_same (u.out _)))
   go_wp2_with fail
   refine(Qab _ _).mono ?_
   rintro P w' ⟨rfl,p⟩;subst p;exact⟨Yz,.inr ⟨R,1,H.out,Yz,WTo.then C.out Yz Yz (WTo.same f.out (Qah Zr _))⟩⟩
 | some n =>
   rw[ho] at u i
   have H:Hid (r=(R.push [n]).nx):=by show _=_;have:=i.out;simp at this;rw[this];rfl
   have O:=Qc (fun B (bx:Below K.heap.size K B)=>Qb8 (f.out.below bx) n G.out);clear ho i;go_upto_region 6 with fail
   go_quiet ((go_at_call 136;exact Calls.quiet_of_same (u.out _)))
   go_upto_region 8 with (go_at_call 111;refine(QaJ _ _).mono ?_;rintro P w' ⟨rfl,p⟩;have p:=p.symm;subst p)
   clear u V x2 x4 ck J D U W;go_wp2_with fail
   refine(O.out _ (Qah Zr _)).mono ?_
   rintro P w5 ⟨rfl,M⟩;have Z:=Qc (WTo.then (C.out.trans (f.out.stepB (Qah Zr _))) Yz Yz M);clear M O x0;go_wp2
   exact Xz (v:=.tuple #[]) (by simp[results,results114,go_sem]) Yz (.inl ⟨_,H.out,Yz,Z.out⟩)
end
section
variable {w w' w2:World}{b most n:Nat}{m:List (MFunc 6)}{R R' r:RM}{g g1:WG}
theorem Qne (S:WAt w b most m R g) (I:ROk m n R) (hn:n<=900000){x:Qs}(y:IP) (h:x.op=5){Q2:Nat->Prop}(hi:IIn w Q2 x y) (h8:x.args.length<=8) (l:RM.ins aOp R x=some r) :
 Calls prog 114 #[Pv b 0,Pv g.t.c 0,.agg (Zq x y)] w fun e w'=>Qdj g w b most m r e w':=by
 have Q:=Qc (ZP w (.cells (Zq x y) 78));have BX:=Qc (Qe w (Zq x y) 78);have u:=Qc (S.below Q.out);have U:=Qc (S.stepB Q.out);have hl:R.top.v.length+1<=1000000:=by have:=(I.fr R.top (by simp)).1;omega
 have ad:=I.out.1;have ae:=I.inp;clear S I;go_enter func114,ntmps114
 go_upto_region 1 with fail
 generalize w.alloc (.cells (Zq x y) 78)=i at Q BX u U |-;generalize w.heap.size=X at BX |-;obtain⟨x0,x1,x2,x3,x4,x5,x6,x7⟩:=Q5 BX.out
 rw[h] at x0
 obtain⟨a,D⟩:∃ a,iAt R.top.v x.a=some a:=by
  unfold RM.ins at l
  cases D:iAt R.top.v x.a with
  | none=>simp[h,D] at l
  | some a=>exact⟨a,Yz⟩
 obtain⟨d,E⟩:∃ d,QaA R.top.v x.args=some d:=by
  unfold RM.ins at l
  cases E:QaA R.top.v x.args with
  | none=>simp[h,D,E] at l
  | some d=>exact⟨d,Yz⟩
 have N:Hid (r=R.thing a (if d.length=0 then 1 else (d.length:Int)) d):=by show _=_;unfold RM.ins at l;simp[h,D,E] at l;rw[<-l];congr 1;split<;>simp_all
 have aa:Hid (d.length=x.args.length):=Qai E;obtain⟨p,B⟩:∃ p,(if d.length=0 then 1 else (d.length:Int))=p:=⟨_,Yz⟩
 rw[B] at N
 have T:=Qc B;obtain⟨j,ri,-,c,ej,hj,c3,ck⟩:=u.out.wordAt D
 rw[ej] at x1
 have H8:=Qc h8;have CA:Hid (∀ f,Below i.heap.size i f->Calls prog 167 #[Pv g.t.c 0,.slice y.pA x.args.length y.cA] f fun e w'=>Qm2 f d x.args.length e w'):=fun f C=>Qec (u.out.top.below C) (by omega) Yz (by have:=H8.out;omega) (Ya (Ya hi.args Q.out) C) E;have F:∀ x,g.A x->x<i.heap.size:=u.out.lt
 have CT:Hid (∀ f k,Below i.heap.size i f->i.heap.size<=k->QbF f (.slice (some ⟨k,0,none⟩) x.args.length x.args.length) d->Calls prog 172 #[Pv b 0,Iv a,.slice (some ⟨k,0,none⟩) x.args.length x.args.length] f fun e w'=>(e=.returned (Iv (R.e.getAt a p))/\(R.e.getCode a p=0/\WTo g i w' b most m (R.thinged a p d))/\Zk i f w')\/(∃ ch,e=.panicked ch/\(ch=QdF 6/\R.e.getCode a p≠0/\WTo g i w' b most m R))):=fun f k C hk hR=>by
  have ac:g.ow k=0:=Xq.1 fun e=>by have:=F k e;omega
  have S6:=u.out.below C
  have HW:=hR.lin (O:=fun x=>g.ow x=0) (fun z hz=>by
   have:z=k:=by simpa[Value.ownBlock] using hz.symm
   rw[this];exact ac)
  have:=QgY S6 a aa.out (by have:=H8.out;omega) HW
  rw[T.out] at this
  refine this.mono ?_;rintro e' w' (⟨o,rfl,g2,J,H,G,P⟩|⟨o,rfl,L⟩)
  ·exact .inl ⟨Yz,⟨o,WTo.then (u.out.stepB C) Yz Yz ⟨g2,J,H,G,P⟩⟩,H.zk F⟩
  ·exact .inr ⟨_,Yz,Yz,o,WTo.then (u.out.stepB C) Yz Yz L⟩
 have HL:=Qc hl;clear x2 x3 x4 x5 x6 l h D ej E hi h8 B hl;go_upto_region 16 with fail
 refine Qn4 (fun w h=>h.2.choose_spec.2.1.size) c3 x1 hj ck x7 CA CT (fun w w' h b=>by obtain⟨w5,M,h6⟩:=h;exact⟨w5,M,h6.trans (b.mono h6.size)⟩) _ _ Yz (Xg (by kernel_rfl)) Yz Yz Yz ?_ ?_
 ·rintro ch a' w9 W ⟨rfl,o,L⟩;exact⟨W,.inr ⟨R,6,by rw[N.out];unfold RM.thing;rw[Xr o],Yz,WTo.then U.out Yz Yz L⟩⟩
 ·rintro ab vs w9 q ⟨k,s,hk,K⟩ ⟨w5,⟨o,L⟩,V⟩;show wpList _ ab _ [_] (QM _ vs [83,84,85,86,87,88,89,90,91,92,93,94,95,96,97,98]) w9;simp only[QM,Act.put,List.setIfInBounds_toArray,List.set_cons_zero,List.set_cons_succ,q,s]
  have E3:Hid (r=((R.thinged a p d).push [R.e.getAt a p]).nx):=by show _=_;rw[N.out];unfold RM.thing;rw[Xs o];rfl
  obtain⟨g2,J,H,G,P⟩:=L
  have C5:=Qc ((J.below V).makesC K HL.out);rw[G] at C5
  have T5:=Qc (Xh (U.out.trans (H.trans (J.stepB V))) (Xh G P));clear o q s K hk J H G P V CA CT c3 ck x1 x7 N;go_wp2_with fail
  refine C5.out.mono ?_;rintro e' w7 ⟨rfl,M⟩;have Z:=Qc (WTo.then T5.out.1 T5.out.2.1 T5.out.2.2 M);clear M C5 x0;go_wp2
  exact Xz (v:=.tuple #[]) (by simp[results,results114,go_sem]) Yz (.inl ⟨_,E3.out,Yz,Z.out⟩)
theorem Qng (S:WAt w b most m R g) (I:ROk m n R) (hn:n<=900000){x:Qs}(Q:IP) (h:x.op=8) (d:RM.ins aOp R x=some r) :
 Calls prog 114 #[Pv b 0,Pv g.t.c 0,.agg (Zq x Q)] w fun e w'=>Qdj g w b most m r e w':=by
 have B1:=Qc (ZP w (.cells (Zq x Q) 78));have BX:=Qc (Qe w (Zq x Q) 78);have l:=Qc (S.below B1.out);have U:=Qc (S.stepB B1.out);have hl:R.top.v.length+1<=1000000:=by have:=(I.fr R.top (by simp)).1;omega
 have ab:=I.out.1;have ac:=I.inp;clear S I;go_enter func114,ntmps114
 go_upto_region 1 with fail
 generalize w.alloc (.cells (Zq x Q) 78)=z at B1 BX l U |-;generalize w.heap.size=X at BX |-;obtain⟨x0,x1,x2,x3,x4,x5,x6,x7⟩:=Q5 BX.out
 rw[h] at x0
 obtain⟨a,s⟩:∃ a,iAt R.top.v x.a=some a:=by
  unfold RM.ins at d
  cases s:iAt R.top.v x.a with
  | none=>simp[h,s] at d
  | some a=>exact⟨a,Yz⟩
 obtain⟨y,B⟩:∃ y,iAt R.top.v x.b=some y:=by
  unfold RM.ins at d
  cases B:iAt R.top.v x.b with
  | none=>simp[h,s,B] at d
  | some y=>exact⟨y,Yz⟩
 have M:Hid (r=if 0<=y/\y<=15 then R.thing a (y+1) [y] else R.over 3):=by
  show _=_;unfold RM.ins at d;by_cases O:0<=y/\y<=15
  ·simp[h,s,B,O] at d;rw[Xs O];exact d.symm
  ·simp only[h,s,B] at d;simp[O] at d;rw[Xr O];exact d.symm
 obtain⟨j,ri,-,c,ej,hj,c3,ck⟩:=l.out.wordAt s
 obtain⟨q,ad,-,c',eq,hq,F,H⟩:=l.out.wordAt B
 rw[c3] at F
 cases F
 rw[ej] at x1
 rw[eq] at x2
 have T:∀ x,g.A x->x<z.heap.size:=l.out.lt
 have CT:Hid (∀ J,Below z.heap.size z J->Calls prog 173 #[Pv b 0,Iv a,Iv y] J fun e w'=>(e=.returned (Iv (R.e.getAt a (y+1)))/\(r=((R.thinged a (y+1) [y]).push [R.e.getAt a (y+1)]).nx/\WTo g z w' b most m (R.thinged a (y+1) [y]))/\Zk z J w')\/(∃ ch,e=.panicked ch/\(∃ k,ch=QdF k/\r=R.over k/\WTo g z w' b most m R))):=fun J L=>by
  refine(Qhb (l.out.below L) a y).mono ?_
  rintro e' w' (⟨P,o,⟨u,rfl,g2,E,D,C,N⟩|⟨u,rfl,p⟩⟩|⟨P,rfl,p⟩)
  ·exact .inl ⟨Yz,⟨by rw[M.out,Xs ⟨P,o⟩];unfold RM.thing;rw[Xs u];rfl,WTo.then (l.out.stepB L) Yz Yz ⟨g2,E,D,C,N⟩⟩,D.zk T⟩
  ·exact .inr ⟨_,Yz,6,Yz,by rw[M.out,Xs ⟨P,o⟩];unfold RM.thing;rw[Xr u],WTo.then (l.out.stepB L) Yz Yz p⟩
  ·exact .inr ⟨_,Yz,3,Yz,by rw[M.out,Xr P],WTo.then (l.out.stepB L) Yz Yz p⟩
 have HL:=Qc hl;clear x3 x4 x5 x6 x7 d h s B ej eq hl;go_upto_region 18 with fail
 refine QnV (fun w h=>h.2.choose_spec.2.1.size) c3 x1 hj ck x2 hq H CT (fun w w' h b=>by obtain⟨w5,K,h6⟩:=h;exact⟨w5,K,h6.trans (b.mono h6.size)⟩) _ _ Yz (Xg (by kernel_rfl)) Yz Yz Yz ?_ ?_
 ·rintro ch a' w9 V ⟨k,rfl,o,u⟩;exact⟨V,.inr ⟨R,k,o,Yz,WTo.then U.out Yz Yz u⟩⟩
 ·rintro aa vs w9 f ⟨k,i,hk,G⟩ ⟨w5,⟨o,u⟩,p⟩;show wpList _ aa _ [_] (QM _ vs [102,103,104,105,106,107,108,109,110,111,112,113,114,115,116,117,118,119,120,121]) w9;simp only[QM,Act.put,List.setIfInBounds_toArray,List.set_cons_zero,List.set_cons_succ,f,i]
  have E3:=Qc o;obtain⟨g2,E,D,C,N⟩:=u
  have C5:=Qc ((E.below p).makesC G HL.out);rw[C] at C5
  have W:=Qc (Xh (U.out.trans (D.trans (E.stepB p))) (Xh C N));clear o f i G hk E D C N p CT c3 ck H x1 x2 M;go_wp2_with fail
  refine C5.out.mono ?_;rintro e' w7 ⟨rfl,K⟩;have Z:=Qc (WTo.then W.out.1 W.out.2.1 W.out.2.2 K);clear K C5 x0;go_wp2
  exact Xz (v:=.tuple #[]) (by simp[results,results114,go_sem]) Yz (.inl ⟨_,E3.out,Yz,Z.out⟩)
end
section
variable {w w' w2:World}{b most n:Nat}{m:List (MFunc 6)}{R R' r:RM}{g g1:WG}
theorem Qmu (S:WAt w b most m R g) (I:ROk m n R) (hn:n<=900000){x:Qs}(u:IP) (h:x.op=6) (f:R.part x=some r) :
 Calls prog 177 #[Pv b 0,Pv g.t.c 0,.agg (Zq x u)] w fun e w'=>Qdj g w b most m r e w':=by
 obtain⟨a,o⟩:∃ a,iAt R.top.v x.a=some a:=by
  unfold RM.part at f
  cases o:iAt R.top.v x.a with
  | none=>simp[o] at f
  | some a=>exact⟨a,Yz⟩
 have p:=Qc (ZP w (.cells (Zq x u) 78));have q:=Qc (Qe w (Zq x u) 78);have i:=Qc (S.below p.out);have z:=Qc (S.stepB p.out);have F:R.top.v.length+1<=1000000:=by have:=(I.fr R.top (by simp)).1;omega
 clear S I;go_enter func177,ntmps177
 go_upto_region 1 with fail
 generalize w.alloc (.cells (Zq x u) 78)=y at p q i z |-;generalize w.heap.size=X at q |-;obtain⟨s,H,x2,N,A,U,T,L⟩:=Q5 q.out
 rw[h] at s
 obtain⟨j,ri,-,c,J,O,Q,W⟩:=i.out.wordAt o
 rw[J] at H
 have M:Hid (r=(R.push [R.load (wrap64 (a+x.k))]).nx):=by show _=_;unfold RM.part at f;simp[h,o] at f;rw[<-f];rfl
 have V:=Qc F;clear f h o J F x2 N U T L;obtain⟨D,d⟩:∃ D,R.top.v.length=D:=⟨_,Yz⟩
 rw[d] at *
 have aa:=Qc d;clear d;go_quiet (fail)
 have l:=Qah (Below.refl y.heap.size y) nq;have G:=Qc (i.out.below l);have P:=Qc (z.out.trans (i.out.stepB l));replace s:=Qk s l;replace A:=Qk A l;clear H Q O W i z p q;generalize y.drewN nq=w2 at *;clear l;have C:=Qc (QbK G.out (wrap64 (a+x.k)));go_wp2_with (go_at_call 220;refine C.out.mono ?_;rintro K w' ⟨rfl,B⟩;have B:=B.symm;subst B)
 refine(Qb8 G.out _ V.out).mono ?_
 rintro K w5 ⟨rfl,E⟩;have Z:=Qc (WTo.then P.out Yz Yz E);clear E C s A;go_wp2
 exact Xz (v:=.tuple #[]) (by simp[results,results177,go_sem]) Yz (.inl ⟨_,M.out,Yz,Z.out⟩)
theorem QlV (S:WAt w b most m R g) (I:ROk m n R) (hn:n<=900000){x:Qs}(s:IP) (h:x.op=11) (f:R.part x=some r) :
 Calls prog 177 #[Pv b 0,Pv g.t.c 0,.agg (Zq x s)] w fun e w'=>Qdj g w b most m r e w':=by
 obtain⟨a,k⟩:∃ a,iAt R.top.v x.a=some a:=by
  unfold RM.part at f
  cases k:iAt R.top.v x.a with
  | none=>simp[k] at f
  | some a=>exact⟨a,Yz⟩
 have o:=Qc (ZP w (.cells (Zq x s) 78));have p:=Qc (Qe w (Zq x s) 78);have i:=Qc (S.below o.out);have y:=Qc (S.stepB o.out);have D:R.top.v.length+1<=1000000:=by have:=(I.fr R.top (by simp)).1;omega
 clear S I;go_enter func177,ntmps177
 go_upto_region 1 with fail
 generalize w.alloc (.cells (Zq x s) 78)=u at o p i y |-;generalize w.heap.size=X at p |-;obtain⟨q,F,x2,M,J,T,Q,K⟩:=Q5 p.out
 rw[h] at q
 obtain⟨j,ri,-,c,G,N,P,V⟩:=i.out.wordAt k
 rw[G] at F
 have L:Hid (r=(R.push [R.load a]).nx):=by show _=_;unfold RM.part at f;simp[h,k] at f;rw[<-f];rfl
 have U:=Qc D;clear f h k G D x2 M J T Q K;obtain⟨A,d⟩:∃ A,R.top.v.length=A:=⟨_,Yz⟩
 rw[d] at *
 have W:=Qc d;clear d;go_quiet (fail)
 have l:=Qah (Below.refl u.heap.size u) nq;have E:=Qc (i.out.below l);have O:=Qc (y.out.trans (i.out.stepB l));replace q:=Qk q l;clear F P N V i y o p;generalize u.drewN nq=w2 at *;clear l;have C:=Qc (QbK E.out a);go_wp2_with (go_at_call 220;refine C.out.mono ?_;rintro H w' ⟨rfl,z⟩;have z:=z.symm;subst z)
 refine(Qb8 E.out _ U.out).mono ?_
 rintro H w5 ⟨rfl,B⟩;have Z:=Qc (WTo.then O.out Yz Yz B);clear B C q;go_wp2
 exact Xz (v:=.tuple #[]) (by simp[results,results177,go_sem]) Yz (.inl ⟨_,L.out,Yz,Z.out⟩)
theorem Qmy (S:WAt w b most m R g) (I:ROk m n R) (hn:n<=900000){x:Qs}(H:IP) (h:x.op=7) (f:R.part x=some r) :
 Calls prog 177 #[Pv b 0,Pv g.t.c 0,.agg (Zq x H)] w fun e w'=>Qdj g w b most m r e w':=by
 obtain⟨a,z⟩:∃ a,iAt R.top.v x.a=some a:=by
  unfold RM.part at f
  cases z:iAt R.top.v x.a with
  | none=>simp[z] at f
  | some a=>exact⟨a,Yz⟩
 have F:=Qc (ZP w (.cells (Zq x H) 78));have G:=Qc (Qe w (Zq x H) 78);have u:=Qc (S.below F.out);have L:=Qc (S.stepB F.out);have U:R.top.v.length+1<=1000000:=by have:=(I.fr R.top (by simp)).1;omega
 clear S I;go_enter func177,ntmps177
 go_upto_region 1 with fail
 generalize w.alloc (.cells (Zq x H) 78)=K at F G u L |-;generalize w.heap.size=X at G |-;obtain⟨P,x1,J,x3,N,x5,x6,x7⟩:=Q5 G.out
 rw[h] at P
 obtain⟨j,ri,-,c,ej,hj,E,ck⟩:=u.out.wordAt z
 rw[ej] at x1
 obtain⟨y,B⟩:∃ y,iAt R.top.v x.b=some y:=by
  unfold RM.part at f
  cases B:iAt R.top.v x.b with
  | none=>simp[h,z, B] at f
  | some y=>exact⟨y,Yz⟩
 obtain⟨q,ac,-,cq,eq,hq,A,d⟩:=u.out.wordAt B
 rw[E] at A
 cases A
 rw[eq] at J
 have E2:Hid (r=(R.stored (wrap64 (a+x.k)) y).nx):=by show _=_;unfold RM.part at f;simp[h,z,B] at f;rw[<-f];simp[RM.on,RM.nx]
 have aa:=Qc d;clear B eq;have HL:=Qc U;clear f h z ej U x3 x5 x6 x7;obtain⟨T,s⟩:∃ T,R.top.v.length=T:=⟨_,Yz⟩
 rw[s] at *
 have ab:=Qc s;clear s;go_quiet (fail)
 have i:=Qah (Below.refl K.heap.size K) nq;have D:=Qc (u.out.below i);have W:=Qc (L.out.trans (u.out.stepB i));replace P:=Qk P i;replace J:=Qk J i;replace N:=Qk N i;replace E:=Qk E i;replace d:=Qk d i;clear x1 ck u L F G;generalize K.drewN nq=w2 at *;clear i;have V:=D.out.cellE;have qp:=D.out.cellP;go_upto_region 6 with fail
 refine wp6 V qp E N J hq d _ _ Yz (Xg (by kernel_rfl)) Yz Yz Yz Yz ?_;rintro O vs w5 p l o M;show wpList _ O _ [_] (QM _ vs [30,31,32,33,34,35,36,37,38,39,40,41,42,43,44,45,46,47,48]) w5;simp only[QM,Act.put,List.setIfInBounds_toArray,List.set_cons_zero,List.set_cons_succ,p,l,o]
 have Q:=Qc (D.out.below M);have T5:=Qc (W.out.trans (D.out.stepB M));clear p l o M D W;have C:=Qc (Q.out.storeC (wrap64 (a+x.k)) y);clear Q V qp;go_wp2_with (go_at_call 221;refine C.out.mono ?_;rintro e' w7 ⟨rfl,h7⟩;have Z:=Qc (WTo.then T5.out Yz Yz h7);clear h7 C)
 exact Xz (v:=.tuple #[]) (by simp[results,results177,go_sem]) Yz (.inl ⟨_,E2.out,Yz,Z.out⟩)
theorem QmO (S:WAt w b most m R g) (I:ROk m n R) (hn:n<=900000){x:Qs}(T:IP) (h:x.op=9) (d:R.part x=some r) :
 Calls prog 177 #[Pv b 0,Pv g.t.c 0,.agg (Zq x T)] w fun e w'=>Qdj g w b most m r e w':=by
 obtain⟨a,A⟩:∃ a,iAt R.top.v x.a=some a:=by
  unfold RM.part at d
  cases A:iAt R.top.v x.a with
  | none=>simp[A] at d
  | some a=>exact⟨a,Yz⟩
 have O:=Qc (ZP w (.cells (Zq x T) 78));have P:=Qc (Qe w (Zq x T) 78);have C:=Qc (S.below O.out);have W:=Qc (S.stepB O.out);have hl:R.top.v.length+1<=1000000:=by have:=(I.fr R.top (by simp)).1;omega
 clear S I;go_enter func177,ntmps177
 go_upto_region 1 with fail
 generalize w.alloc (.cells (Zq x T) 78)=V at O P C W |-;generalize w.heap.size=X at P |-;obtain⟨Q,x1,E,x3,x4,x5,x6,x7⟩:=Q5 P.out
 rw[h] at Q
 obtain⟨j,ri,-,c,ej,hj,D,ck⟩:=C.out.wordAt A
 rw[ej] at x1
 obtain⟨y,B⟩:∃ y,iAt R.top.v x.b=some y:=by
  unfold RM.part at d
  cases B:iAt R.top.v x.b with
  | none=>simp[h,A, B] at d
  | some y=>exact⟨y,Yz⟩
 obtain⟨q,ab,-,cq,eq,hq,F,f⟩:=C.out.wordAt B
 rw[D] at F
 cases F
 rw[eq] at E
 have M:Hid (r=if 0<=y/\y<R.load a then (R.push [R.load (wrap64 (wrap64 (a+1)+y))]).nx else R.over 2):=by
  show _=_;unfold RM.part at d;by_cases i:0<=y/\y<R.load a
  ·simp[h,A,B,i] at d;rw[Xs i,<-d];rfl
  ·simp only[h,A,B] at d;simp[i] at d;rw[Xr i];exact d.symm
 clear B eq;have HL:=Qc hl;clear d h A ej hl x3 x4 x5 x6 x7;obtain⟨vl,u⟩:∃ vl,R.top.v.length=vl:=⟨_,Yz⟩
 rw[u] at *
 have aa:=Qc u;clear u;go_quiet (fail)
 have z:=Qah (Below.refl V.heap.size V) nq;have s:=Qc (C.out.below z);have T2:=Qc (W.out.trans (C.out.stepB z));replace Q:=Qk Q z;replace E:=Qk E z;replace D:=Qk D z;replace f:=Qk f z;clear x1 ck C W O P;generalize V.drewN nq=N at *;clear z;have q0:=s.out.cellE;have qp:=s.out.cellP;have U:Hid (∀ o,Below N.heap.size N o->Calls prog 222 #[Pv b 0,Iv a,Iv y] o fun e w'=>Qlh R a y e/\w'=o):=fun o bx=>Qco (s.out.below bx) a y;have CW:Hid (∀ o k,Below N.heap.size N o->Calls prog 220 #[Pv b 0,Iv k] o fun e w'=>e=.returned (Iv (R.load k))/\w'=o):=fun o k bx=>QbK (s.out.below bx) k;clear q0 qp;by_cases i:0<=y/\y<R.load a
 ·have E3:Hid (r=(R.push [R.load (wrap64 (wrap64 (a+1)+y))]).nx):=by show _=_;rw[M.out,Xs i]
  have HC:=Qc i;clear i M;go_upto_region 8 with fail
  refine wp8 D E hq f U CW _ _ Yz (Xg (by kernel_rfl)) Yz Yz Yz Yz ?_ ?_
  ·rintro ch a' w9 G ⟨-,L,-⟩;exact absurd HC.out L
  ·rintro H vs w5 l - ⟨k,p,hk,J⟩ K;show wpList _ H _ [_] (QM _ vs [52,53,54,55,56,57,58,59,60,61,62,63,64,65,66]) w5;simp only[QM,Act.put,List.setIfInBounds_toArray,List.set_cons_zero,List.set_cons_succ,l,p]
   have C5:=Qc ((s.out.below K).makesC J HL.out);have T5:=Qc (T2.out.trans (s.out.stepB K));clear l p K s T2 U CW D E f J hk hq;go_wp2_with fail
   refine C5.out.mono ?_;rintro e' w7 ⟨rfl,h7⟩;have Z:=Qc (WTo.then T5.out Yz Yz h7);clear h7 C5 Q;go_wp2
   exact Xz (v:=.tuple #[]) (by simp[results,results177,go_sem]) Yz (.inl ⟨_,E3.out,Yz,Z.out⟩)
 ·have E3:Hid (r=R.over 2):=by show _=_;rw[M.out,Xr i]
  have HC:Hid (¬ (0<=y/\y<R.load a)):=i;clear i M;go_upto_region 8 with fail
  refine wp8 D E hq f U CW _ _ Yz (Xg (by kernel_rfl)) Yz Yz Yz Yz ?_ ?_
  ·rintro ch a' w9 G ⟨rfl,L,b9⟩;exact⟨G,.inr ⟨R,2,E3.out,Yz,WTo.then T2.out Yz Yz (WTo.same s.out b9)⟩⟩
  ·rintro H vs w5 l ⟨L,-⟩ _ K;exact absurd L HC.out
theorem Qlv (S:WAt w b most m R g) (I:ROk m n R) (hn:n<=900000){x:Qs}(ip:IP) (h:x.op=10) (d:R.part x=some r) :
 Calls prog 177 #[Pv b 0,Pv g.t.c 0,.agg (Zq x ip)] w fun e w'=>Qdj g w b most m r e w':=by
 obtain⟨a,u⟩:∃ a,iAt R.top.v x.a=some a:=by
  unfold RM.part at d
  cases u:iAt R.top.v x.a with
  | none=>simp[u] at d
  | some a=>exact⟨a,Yz⟩
 have V:=Qc (ZP w (.cells (Zq x ip) 78));have W:=Qc (Qe w (Zq x ip) 78);have D:=Qc (S.below V.out);have T1:=Qc (S.stepB V.out);have hl:R.top.v.length+1<=1000000:=by have:=(I.fr R.top (by simp)).1;omega
 clear S I;go_enter func177,ntmps177
 go_upto_region 1 with fail
 generalize w.alloc (.cells (Zq x ip) 78)=w1 at V W D T1 |-;generalize w.heap.size=X at W |-;obtain⟨x0,x1,K,H,x4,x5,x6,x7⟩:=Q5 W.out
 rw[h] at x0
 obtain⟨j,ri,-,c,ej,hj,F,ck⟩:=D.out.wordAt u
 rw[ej] at x1
 obtain⟨y,B⟩:∃ y,iAt R.top.v x.b=some y:=by
  unfold RM.part at d
  cases B:iAt R.top.v x.b with
  | none=>simp[h,u, B] at d
  | some y=>exact⟨y,Yz⟩
 obtain⟨q,ac,-,cq,eq,hq,L,f⟩:=D.out.wordAt B
 rw[F] at L
 cases L
 rw[eq] at K
 obtain⟨z,J⟩:∃ z,iAt R.top.v x.c=some z:=by
  unfold RM.part at d
  cases J:iAt R.top.v x.c with
  | none=>simp[h,u,B,J] at d
  | some z=>exact⟨z,Yz⟩
 obtain⟨s,aa,-,cs,es,hs,N,i⟩:=D.out.wordAt J
 rw[F] at N
 cases N
 rw[es] at H
 have U:Hid (r=if 0<=y/\y<R.load a then (R.stored (wrap64 (wrap64 (a+1)+y)) z).nx else R.over 2):=by
  show _=_;unfold RM.part at d;by_cases l:0<=y/\y<R.load a
  ·simp[h,u,B,J,l] at d;rw[Xs l,<-d];simp[RM.on,RM.nx]
  ·simp only[h,u,B,J] at d;simp[l] at d;rw[Xr l];exact d.symm
 clear B eq J es;have HL:=Qc hl;clear d h u ej hl x4 x5 x6 x7;obtain⟨vl,E⟩:∃ vl,R.top.v.length=vl:=⟨_,Yz⟩
 rw[E] at *
 have ab:=Qc E;clear E;go_quiet (fail)
 have o:=Qah (Below.refl w1.heap.size w1) nq;have G:=Qc (D.out.below o);have T2:=Qc (T1.out.trans (D.out.stepB o));replace x0:=Qk x0 o;replace K:=Qk K o;replace H:=Qk H o;replace F:=Qk F o;replace f:=Qk f o;replace i:=Qk i o;clear x1 ck D T1 V W;generalize w1.drewN nq=w2 at *;clear o;have q0:=G.out.cellE;have qp:=G.out.cellP;have CE:Hid (∀ P,Below w2.heap.size w2 P->Calls prog 222 #[Pv b 0,Iv a,Iv y] P fun e w'=>Qlh R a y e/\w'=P):=fun P bx=>Qco (G.out.below bx) a y;by_cases l:0<=y/\y<R.load a
 ·have E3:Hid (r=(R.stored (wrap64 (wrap64 (a+1)+y)) z).nx):=by show _=_;rw[U.out,Xs l]
  have HC:=Qc l;clear l U;go_upto_region 10 with fail
  refine QnI q0 qp F K hq f H hs i CE _ _ Yz (Xg (by kernel_rfl)) Yz Yz Yz Yz ?_ ?_
  ·rintro ch a' w9 M ⟨-,T,-⟩;exact absurd HC.out T
  ·rintro O vs w5 k ⟨-,A⟩ p Q;show wpList _ O _ [_] (QM _ vs [70,71,72,73,74,75,76,77,78,79,80,81,82,83,84,85,86,87,88,89,90,91,92,93,94,95]) w5;simp only[QM,Act.put,List.setIfInBounds_toArray,List.set_cons_zero,List.set_cons_succ,k,A,p]
   have S5:=Qc (G.out.below Q);have T5:=Qc (T2.out.trans (G.out.stepB Q));clear k A p Q G T2 CE F K H f i hq hs;have C:=Qc (S5.out.storeC (wrap64 (wrap64 (a+1)+y)) z);clear S5 q0 qp;go_wp2_with (go_at_call 221;refine C.out.mono ?_;rintro e' w7 ⟨rfl,h7⟩;have Z:=Qc (WTo.then T5.out Yz Yz h7);clear h7 C)
   exact Xz (v:=.tuple #[]) (by simp[results,results177,go_sem]) Yz (.inl ⟨_,E3.out,Yz,Z.out⟩)
 ·have E3:Hid (r=R.over 2):=by show _=_;rw[U.out,Xr l]
  have HC:Hid (¬ (0<=y/\y<R.load a)):=l;clear l U;go_upto_region 10 with fail
  refine QnI q0 qp F K hq f H hs i CE _ _ Yz (Xg (by kernel_rfl)) Yz Yz Yz Yz ?_ ?_
  ·rintro ch a' w9 M ⟨rfl,T,b9⟩;exact⟨M,.inr ⟨R,2,E3.out,Yz,WTo.then T2.out Yz Yz (WTo.same G.out b9)⟩⟩
  ·rintro O vs w5 k ⟨T,-⟩ _ Q;exact absurd T HC.out
end
section
variable {w w' w2:World}{b most n:Nat}{m:List (MFunc 6)}{R R' r:RM}{g g1:WG}
def Qm4 (g:WG) (w:World) (b most:Nat) (m:List (MFunc 6)) (R:RM) (f:Nat) (xs:List Int) (e:Ending) (w':World):Prop :=
 (R.rest.length+1<40/\e=.returned (.tuple #[])/\∃ g',WAt w' b most m { R with top:=⟨f,0,0,xs⟩,rest:=R.top::R.rest } g'/\WSt g g' w w'/\g'.fs=g.t::g.fs)\/(¬ R.rest.length+1<40/\e=.panicked (QdF 5)/\WTo g w w' b most m R)
theorem QiZ (S:WAt w b most m R g) (I:ROk m n R) (hn:n<=900000){x:Qs}(u:IP){Q2:Nat->Prop}(hi:IIn w Q2 x u) (h8:x.args.length<=8)(hf:x.k=(f:Int))(U:R.rest.length+1<40->QaA R.top.v x.args=some xs) :
 Calls prog 176 #[Pv b 0,Pv g.t.c 0,.agg (Zq x u)] w fun e w'=>Qm4 g w b most m R f xs e w':=by
 have Q:=Qc (ZP w (.cells (Zq x u) 78));have BX:=Qc (Qe w (Zq x u) 78);have d:=Qc (S.below Q.out);have M:=Qc (S.stepB Q.out);have hl:R.top.v.length+1<=1000000:=by have:=(I.fr R.top (by simp)).1;omega
 have J:=I.deep;have N:=Qc (Ya hi.args Q.out);clear S I hi;go_enter func176,ntmps176
 go_upto_region 1 with fail
 generalize w.alloc (.cells (Zq x u) 78)=z at Q BX d M N |-;generalize w.heap.size=X at BX |-;obtain⟨x0,x1,x2,x3,V,x5,x6,x7⟩:=Q5 BX.out
 rw[hf] at V
 clear x0 x1 x2 x3 x5 x6;obtain⟨A,dc,B,o,-⟩:=d.out.callsForm
 have K:z.cell? ⟨b,4,none⟩=some g.vc:=Qb d.out.box 4 _ Z;rw[B] at K
 by_cases j:R.rest.length+1<40
 ·have W:decide (((R.rest.length+1:Nat):Int)<40)=true:=Xt (by omega);have U:=U j;have q:=Qc j
  have HR:Hid (∀ l,Below z.heap.size z l->l.ownsRow 0 130 1 (.slice (some ⟨A,0,none⟩) (R.rest.length+1) dc) (R.rest.length+1) (Qat (g.t::g.fs))):=fun l O=>by
   have:=(d.out.below O).calls
   rwa [B] at this
  have CB:Hid (∀ l,Below z.heap.size z l->Calls prog 216 #[Pv g.t.c 0,Iv (f:Int),Iv 0,.slice u.pA x.args.length u.cA] l fun e w'=>Qmf l ⟨f,0,0,xs⟩ e w'):=fun l O=>QdB (d.out.top.below O) (by omega) Z (by omega) (Ya N.out O) U f 0;have aa:A<z.heap.size:=XC (ZQ d.out.calls (x:=A) (by rw[B];rfl)).choose_spec;have r:Hid (g.vc.ownBlock=some A):=by show _=_;rw[B];rfl
  have D:R.rest.length+1<=100:=by omega
  obtain⟨H,a⟩:∃ H,R.rest.length+1=H:=⟨_,Z⟩
  have ab:=Qc a;rw[a] at K W HR D
  clear U j N B o J hl a h8;go_upto_region 2 with (go_at_call 111;refine(QaJ _ _).mono ?_;rintro e' w' ⟨rfl,E⟩;have E:=E.symm;subst E)
  refine wc2 HR aa D K V x7 CB (fun w w' h b=>Zt h b.size) _ _ Z (Xg (by kernel_rfl)) Z Z Z ?_ ?_
  ·rintro ch a' w9 ad ⟨⟩
  ·rintro ac vs w9 ⟨w5,c5,x5,n5,P,C,G,F5,T,r2,r3⟩ p L;obtain⟨v9,i⟩:∃ v9,vs 25=v9:=⟨_,Z⟩
   rw[i] at T r3
   show wpList _ ac _ [_] (QM _ vs [13,14,15,16,17,18,19,20,21,22,23,24,25,26,27]) w9;simp only[QM,Act.put,List.setIfInBounds_toArray,List.set_cons_zero,List.set_cons_succ,i,p]
   have y:=d.out.pushFr P F5 C G (v9:=v9) (w9:=w9) (by rw[ab.out];exact T) (by rw[r.out];exact r2) (fun k hk=>by rw[r.out];exact(r3 k hk).imp (fun e=>by rw[e]) id)
   have y:Hid (Qm4 g w b most m R f xs (.returned (.tuple #[])) (w9.setCell ⟨b,4,none⟩ v9)):=by
    obtain⟨g',A',S',E'⟩:=y
    exact .inl ⟨q.out,Z,g',A',M.out.trans S',E'⟩
   have F:A≠b:=fun e=>by
    have h1:=d.out.oc A r.out;rw[e,d.out.ob] at h1
    omega
   have s:w9.heap[b]?=_:=(r2.block b (by have:=XC d.out.box;have:=P.size;omega) (fun e=>F (by simpa using e.symm))).trans ((P.block b (XC d.out.box)).trans d.out.box);have c9:w9.cell? ⟨b,4,none⟩=some g.vc:=Qb s 4 _ Z;have z9:=Qj s 4;obtain⟨a9,d9,rfl⟩:=QaZ T
   clear i p T r2 r3 s F F5 P C G CB HR K V x7 d M L;go_wp2
   exact Xz (v:=.tuple #[]) (by simp[results,results176,go_sem]) Z y.out
 ·have W:decide (((R.rest.length+1:Nat):Int)<40)=false:=Xu (by omega);have q:Hid (¬ R.rest.length+1<40):=j;clear j N o J hl B h8;obtain⟨H,a⟩:∃ H,R.rest.length+1=H:=⟨_,Z⟩
  rw[a] at K W
  clear a;go_wp2_with fail
  refine(Qab _ _).mono ?_
  rintro e' w' ⟨rfl,E⟩;subst E;exact⟨Z,.inr ⟨q.out,Z,WTo.then M.out Z Z (WTo.same d.out Zr)⟩⟩
end
def Qok (b gc k cap:Nat) (t:Tmp) (v:Value) (w:World):Prop :=
 v=(([(0,Pv b 0),(13,Pv b 0),(14,Pv b 0),(15,Pv b 0),(16,Pv b 4),(17,.slice (some ⟨gc,0,none⟩) (k+1) cap),(18,Pv b 0),(19,Pv b 0),(20,Pv b 4),(21,.slice (some ⟨gc,0,none⟩) (k+1) cap),(22,Iv ((k:Int)+1)),(23,Iv (k:Int)),(24,.slice (some ⟨gc,0,none⟩) k cap),(25,Pv b 0),(26,Pv b 4)]:List (Tmp × Value)).lookup t).getD undef
theorem wg2 {b g:Nat}(j:w6.cell? ⟨b,4,none⟩=some (.slice (some ⟨g,0,none⟩) (k+1) cap)) (e:k+1<=cap) (p:k<=1000){Q:Exit->Act->World->Prop}
 (a:Act) (m:Nat) (o:a.tmps.size=m) (i:31<=m) (u:a.tmps.getD 0 undef=Pv b 0)
 (hend:∀ ops vs w',vs 24=.slice (some ⟨g,0,none⟩) k cap->vs 26=Pv b 4->Below w6.heap.size w6 w'->wpList prog ops Q (Qan 14 ((Tryz.f166.body.bind (Qi 2)).getD .skip)) (QM a vs [13,14,15,16,17,18,19,20,21,22,23,24,25,26]) w') :
 Code.wp prog ((Tryz.f166.body.bind (Qi 2)).getD .skip) Q a w6:=by
 conv=>arg 2;whnf
 refine Qg 14 (Qok b g k cap) (fun w=>Below w6.heap.size w6 w) (fun w w'=>Below w.heap.size w w') (outs:=[0]) (gs:=[]) (bs:=[true,true,true,true,true,true,true,true,true,true,true,true,true,true]) (by kernel_rfl) (n:=31) o i (by kernel_rfl) (by kernel_rfl) ?hR ?hG (QI Zr 1) ⟨u,Y⟩ ?hA ?hend
 case hR=>exact fun t v w w' _ h=>h
 case hG=>exact Y
 case hend=>exact fun ops vs w' d e=>hend ops vs w' (e 24 (by kernel_rfl)) (e 26 (by kernel_rfl)) d
 case hA =>
  refine⟨fun a w d e K f=>?_,?_⟩
  ·obtain⟨c,-⟩:=e
   have c:a.tmps.getD 0 undef=Pv b 0:=c;go_simp;exact f _ _ Zr d Z
  refine⟨fun a w d e K f=>?_,?_⟩
  ·obtain⟨c,-⟩:=e
   have c:a.tmps.getD 0 undef=Pv b 0:=c;go_simp;exact f _ _ Zr d Z
  refine⟨fun a w d e K f=>?_,?_⟩
  ·obtain⟨c,-⟩:=e
   have c:a.tmps.getD 14 undef=Pv b 0:=c;go_simp;exact f _ _ Zr d Z
  refine⟨fun a w d e K f=>?_,?_⟩
  ·obtain⟨c,-⟩:=e
   have c:a.tmps.getD 15 undef=Pv b 0:=c;go_simp;exact f _ _ Zr d Z
  refine⟨fun a w d e K f=>?_,?_⟩
  ·obtain⟨c,-⟩:=e
   have c:a.tmps.getD 16 undef=Pv b 4:=c;have r:=Qk j d;go_simp;exact f _ _ Zr d Z
  refine⟨fun a w d e K f=>?_,?_⟩
  ·obtain⟨c,-⟩:=e
   have c:a.tmps.getD 0 undef=Pv b 0:=c;go_simp;exact f _ _ Zr d Z
  refine⟨fun a w d e K f=>?_,?_⟩
  ·obtain⟨c,-⟩:=e
   have c:a.tmps.getD 18 undef=Pv b 0:=c;go_simp;exact f _ _ Zr d Z
  refine⟨fun a w d e K f=>?_,?_⟩
  ·obtain⟨c,-⟩:=e
   have c:a.tmps.getD 19 undef=Pv b 0:=c;go_simp;exact f _ _ Zr d Z
  refine⟨fun a w d e K f=>?_,?_⟩
  ·obtain⟨c,-⟩:=e
   have c:a.tmps.getD 20 undef=Pv b 4:=c;have r:=Qk j d;go_simp;exact f _ _ Zr d Z
  refine⟨fun a w d e K f=>?_,?_⟩
  ·obtain⟨c,-⟩:=e
   have c:a.tmps.getD 21 undef=.slice (some ⟨g,0,none⟩) (k+1) cap:=c;go_simp;exact f _ _ Zr d Z
  refine⟨fun a w d e K f=>?_,?_⟩
  ·obtain⟨c,-⟩:=e
   have c:a.tmps.getD 22 undef=Iv ((k:Int)+1):=c;have x:(k:Int)+1 - 1=k:=by omega
   go_simp;refine f _ _ Zr d ?_;show Value.int _ _=Value.int _ _;congr 1
   rw[IntKind.wrap_i64]
   omega
  refine⟨fun a w d e K f=>?_,?_⟩
  ·obtain⟨c,l,-⟩:=e
   have c:a.tmps.getD 17 undef=.slice (some ⟨g,0,none⟩) (k+1) cap:=c;have l:a.tmps.getD 23 undef=Iv (k:Int):=l;have s:(0:Int)<=k:=by omega
   have q:(k:Int)<=cap:=by omega
   go_simp;exact f _ _ Zr d Z
  refine⟨fun a w d e K f=>?_,?_⟩
  ·obtain⟨c,-⟩:=e
   have c:a.tmps.getD 13 undef=Pv b 0:=c;go_simp;exact f _ _ Zr d Z
  refine⟨fun a w d e K f=>?_,?_⟩
  ·obtain⟨c,-⟩:=e
   have c:a.tmps.getD 25 undef=Pv b 0:=c;go_simp;exact f _ _ Zr d Z
  trivial
def QjH (g:WG) (w:World) (b most:Nat) (m:List (MFunc 6)) (r:RM) (e:Ending) (w':World):Prop :=
 (e=.returned (.tuple #[])/\WGo g w w' b most m r)\/(∃ N k,r=N.over k/\e=.panicked (QdF k)/\WTo g w w' b most m N)
def RM.gave (R:RM) (l:List Int):RM:=match R.rest with
 | []=>{ R with done:=true,fin:=0,back:=l }
 | d::rest=>{ R with top:={ d with v:=d.v++l },rest:=rest }
section
variable {w w' w2:World}{b most n:Nat}{m:List (MFunc 6)}{R R' r:RM}{g g1:WG}
theorem QjH.then {e:Ending}(T:WSt g g1 w w2) (f:g1.t.c=g.t.c) (h:g1.fs=g.fs) (H:QjH g1 w2 b most m r e w'):QjH g w b most m r e w':=by
 rcases H with ⟨a,d⟩|⟨N,k,a,c,d⟩
 ·exact .inl ⟨a,WGo.then T d⟩
 ·exact .inr ⟨N,k,a,c,WTo.then T f h d⟩
theorem QbF.news {n:Nat}(h:QbF w (.slice (some ⟨k,0,none⟩) n c) xs):∀ (j:Nat) (u:Value),(xs.map (Value.int .i64))[j]?=some u->w.cell? ((⟨k,0,none⟩:Addr).add j)=some u:=fun j u d=>by
 rw[XS] at d
 obtain⟨y,b,rfl⟩:=Option.map_eq_some_iff.1 d
 have m:=(Zi b).1;obtain⟨a,o,e,l⟩:=h.cell
 obtain⟨i,g,-,f⟩:=l j m
 rw[Value.slice.injEq] at e
 have:i=k:=by have:=e.1.trans g;simpa using this.symm
 subst this;rw[Addr.add_lit,XK,f]
 simp[List.getD,b]
theorem QiW (S:WAt w b most m R g){n:Nat}(f:xs.length=n) (d:QbF w (.slice (some ⟨k,0,none⟩) n n) xs) (a:g.ow k=0/\g.lo<=k) :
 Calls prog 215 #[Pv b 0,.slice (some ⟨k,0,none⟩) n n] w fun e w'=>e=.panicked (QdF 0)/\WTo g w w' b most m { R with back:=xs }:=by
 have i:w.cell? ⟨b,6,none⟩=some g.vb:=Qb S.box 6 _ Yz;have o:=Qj S.box 6;obtain⟨p,l,c,-⟩:=S.back
 have Z:Hid (WTo g w (w.setCell ⟨b,6,none⟩ (.slice (some ⟨k,0,none⟩) n n)) b most m { R with back:=xs }):=by
  subst f;refine S.reBox (R':={ R with back:=xs }) Yz Yz Yz (by simp) (fun k a h=>Xd _ _ _ _ h) ⟨Yz,Yz,Yz,Yz⟩ (pi:=g.pi) (ci:=g.ci) (vb:=.slice (some ⟨k,0,none⟩) xs.length xs.length) ⟨S.inp,S.inpC⟩ (d.lin (fun x j=>?_)) ?_
  ·have:x=k:=by simpa[Value.ownBlock] using j.symm
   rw[this];exact a
  ·rw[Qh S.box 6 _]
   simp
 rw[c] at i
 clear S d a c;go_enter func215,ntmps215
 go_wp2
 exact⟨Yz,Yz,Z.out⟩
theorem Qin (S:WAt w b most m R g) (hd:R.rest.length<=39) (A:∀ d∈R.rest,d.v.length+8<=1000000){n:Nat}(hn:xs.length=n) (h8:n<=8) (G:QbF w (.slice (some ⟨k,0,none⟩) n n) xs) (O:g.ow k=0/\g.lo<=k) :
 Calls prog 166 #[Pv b 0,.slice (some ⟨k,0,none⟩) n n] w fun e w'=>QjH g w b most m (R.gave xs) e w':=by
 obtain⟨V,cap,M,h,-⟩:=S.callsForm
 have D:w.cell? ⟨b,4,none⟩=some g.vc:=Qb S.box 4 _ Yz;rw[M] at D
 have J:=Qc S
 cases hrest:R.rest with
 | nil =>
   have C:=Qc (QiW S hn G O);have U:Hid (R.gave xs=RM.over { R with back:=xs } 0):=by show _=_;unfold RM.gave RM.over;rw[hrest]
   rw[hrest] at D
   clear S G O hrest h M;go_enter func166,ntmps166
   go_wp2_with fail
   refine C.out.mono ?_;rintro e' w5 ⟨rfl,h5⟩;exact⟨Yz,.inr ⟨_,0,U.out,Yz,h5⟩⟩
 | cons d rest =>
   have U:Hid (R.gave xs=RM.push { R with top:=d,rest:=rest } xs):=by show _=_;unfold RM.gave RM.push;rw[hrest]
   have z:R.rest.length=rest.length+1:=by rw[hrest];simp
   have s:(((R.rest.length+1:Nat):Int)==1)=false:=by simp;omega
   have ab:=A d (by rw[hrest];simp);have B:=Qc hrest;have q:=Qc M;have HR:=Qc G;have HK:=Qc O;clear hrest S G O A M;obtain⟨H,o⟩:∃ H,R.rest.length=H:=⟨_,Yz⟩
   rw[o] at D h s hd
   have r:=Qc o;have W:=Qc z;clear z o;go_enter func166,ntmps166
   go_upto_region 2 with fail
   refine wg2 D h (by omega) _ _ Yz (Xg (by kernel_rfl)) Yz ?_;rintro X Q K j l I;show wpList _ X _ [_] (QM _ Q [13,14,15,16,17,18,19,20,21,22,23,24,25,26]) K;simp only[QM,Act.put,List.setIfInBounds_toArray,List.set_cons_zero,List.set_cons_succ,j,l]
   have N:=Qc (J.out.below I);have c4:K.cell? ⟨b,4,none⟩=some g.vc:=Qb N.out.box 4 _ Yz;have z4:=Qj N.out.box 4;rw[q.out] at c4
   have i:∃ y F,g.fs=y::F:=by
    have:=J.out.rows
    rw[B.out] at this
    cases hh:g.fs with
    | nil=>rw[hh] at this;simp at this
    | cons y F=>exact⟨y,F,Yz⟩
   obtain⟨y,F,i⟩:=i
   have PP:=N.out.pop i B.out (a:=some ⟨V,0,none⟩) (cap:=cap) q.out;rw[r.out] at PP
   obtain⟨g8,p,L,t8⟩:=PP
   have p:=Qc p;have L:=Qc ((J.out.stepB I).trans L)
   have f:Hid (QbF (K.setCell ⟨b,4,none⟩ (.slice (some ⟨V,0,none⟩) H cap)) (.slice (some ⟨k,0,none⟩) n n) xs):=Q0 HR.out (fun x P=>by
    have e:x=k:=by simpa[Value.ownBlock] using P.symm
    rw[Xd _ _ _ _ (fun (e2:x=b)=>by have h1:=J.out.ob;rw[<-e2,e,HK.out.1] at h1;omega)]
    exact I.block x (HR.out.lt P))
   clear j l I N D t8 i;go_upto_region 3 with fail
   generalize K.setCell ⟨b,4,none⟩ (.slice (some ⟨V,0,none⟩) H cap)=w8 at p L f |-;have CT:=Qc (QgF p.out (by show rest.length<=1000;have:=W.out;have:=r.out;omega))
   have CM:Hid (∀ E,Below w8.heap.size w8 E->Calls prog 169 #[Pv g8.t.c 0,.slice (some ⟨k,0,none⟩) n n] E fun e w'=>e=.returned (.tuple #[])/\WTo g8 E w' b most m (RM.push { R with top:=d,rest:=rest } xs)):=fun E bx =>
    QbZ (p.out.below bx) hn (QbF.news (Q0 f.out (fun x P=>bx.block x (QbF.lt f.out P)))) (by show d.v.length+n<=1000000;omega)
   clear c4 z4;go_wp2_with (go_at_call 112;refine CT.out.mono ?_;rintro e' w9 ⟨rfl,T⟩)
   refine(CM.out w9 T).mono ?_
   rintro e' aa ⟨rfl,u⟩;have Z:Hid (WGo g w aa b most m (RM.push { R with top:=d,rest:=rest } xs)):=WGo.then (L.out.trans (p.out.stepB T)) u.go;clear u CM CT T;go_wp2
   exact Xz (v:=.tuple #[]) (by simp[results,results166,go_sem]) Yz (by rw[U.out];exact .inl ⟨Yz,Z.out⟩)
end
section
variable {w w' w2:World}{b most n:Nat}{m:List (MFunc 6)}{R R' r:RM}{g g1:WG}
theorem QlP {t:MTo}(h:R.to t=some r):∃ l,QaA R.top.v t.args=some l/\r={ R with top:=⟨R.top.f,t.block.toNat,0,l⟩ }:=by
 unfold RM.to at h
 cases hl:QaA R.top.v t.args with
 | none=>rw[hl] at h;cases h
 | some l=>rw[hl] at h;cases h;exact⟨l,Z,Z⟩
theorem Qkn (S:WAt w b most m R g) (I:ROk m n R) (hn:n<=900000){q:Nat}{x:ZC}{i:EP}{Q2:Nat->Prop}(EI:EIn w Q2 x i) (hx:x.form q=0) (f:R.endd x=some r) :
 Calls prog 113 #[Pv b 0,Pv g.t.c 0,.agg (QbW x i)] w fun e w'=>QjH g w b most m r e w':=by
 obtain⟨ag,ab,J,W⟩:=QeE hx
 have L:=Qc (ZP w (.cells (QbW x i) 84));have z:=Qc (Qe w (QbW x i) 84);have Q:=Qc (S.below L.out);have T1:=Qc (S.stepB L.out);have hl:R.top.v.length+1<=1000000:=by have:=(I.fr R.top (by simp)).1;omega
 have af:=I.deep;have ae:Hid (∀ d∈R.rest,d.v.length+8<=1000000):=fun d hd=>by have:=(I.fr d (List.mem_cons_of_mem _ hd)).1;omega
 have M:Hid (∀ (t:MTo) (pr pa:Option Addr) (cr ca:Nat) (r':RM) p,t.form q true=0->QhA w Q2 t pr cr pa ca->Below w.heap.size w p->R.to t=some r'->Calls prog 168 #[Pv g.t.c 0,.agg #[Iv t.block,.slice pr t.regs.length cr,.slice pa t.args.length ca]] p fun e w'=>e=.returned (.tuple #[])/\QjH g w b most m r' (.returned (.tuple #[])) w'):=fun t pr pa cr ca r' p ht hi s he=>by
  obtain⟨l,U,rfl⟩:=QlP he
  obtain⟨K,G,h4,B⟩:=Qek ht
  obtain⟨bi,ac⟩:=Xc K
  refine(Qi0 (S.below s) (by omega) ac (Ya hi.args s) (by omega) U).mono ?_
  rintro e w' ⟨rfl,h⟩;exact⟨Yz,.inl ⟨Yz,(WTo.then (S.stepB s) Yz Yz h).go⟩⟩
 have o:=Qc EI;have P:=Qc (Xh J W);have CA:Hid (∀ p D,QaA R.top.v x.args=some D->Below w.heap.size w p->Calls prog 167 #[Pv g.t.c 0,.slice i.pA x.args.length i.cA] p fun e w'=>Qm2 p D x.args.length e w'):=fun p D h s=>Qec (S.top.below s) (by omega) Yz (by omega) (Ya EI.args s) h;have HS:=Qc S;clear S I EI hx J W;go_enter func113,ntmps113
 go_upto_region 2 with fail
 generalize w.alloc (.cells (QbW x i) 84)=A at L z Q T1 |-;generalize w.heap.size=X at z |-;have O:A.cell? ⟨X,0,none⟩=some (Iv x.op):=Qb z.out 0 _ Yz;have V:A.cell? ⟨X,1,none⟩=some (Iv x.a):=Qb z.out 1 _ Yz;have x2:A.cell? ⟨X,2,none⟩=some (Iv x.yes.block):=Qb z.out 2 _ Yz;have x3:A.cell? ⟨X,3,none⟩=some (.slice i.pYR x.yes.regs.length i.cYR):=Qb z.out 3 _ Yz;have x4:A.cell? ⟨X,4,none⟩=some (.slice i.pYA x.yes.args.length i.cYA):=Qb z.out 4 _ Yz;have x5:A.cell? ⟨X,5,none⟩=some (Iv x.no.block):=Qb z.out 5 _ Yz;have x6:A.cell? ⟨X,6,none⟩=some (.slice i.pNR x.no.regs.length i.cNR):=Qb z.out 6 _ Yz;have x7:A.cell? ⟨X,7,none⟩=some (.slice i.pNA x.no.args.length i.cNA):=Qb z.out 7 _ Yz;have x8:A.cell? ⟨X,8,none⟩=some (.slice i.pA x.args.length i.cA):=Qb z.out 8 _ Yz;by_cases E:x.op=3
 ·obtain⟨D,H⟩:∃ D,QaA R.top.v x.args=some D:=by
   unfold RM.endd at f
   cases hl:QaA R.top.v x.args with
   | none=>simp[E,hl] at f
   | some l=>exact⟨l,Yz⟩
  have u:Hid (r=R.gave D):=by
   show _=_;unfold RM.endd at f;simp[E,H] at f
   unfold RM.gave
   cases hrest:R.rest with
   | nil=>rw[hrest] at f;simp at f;rw[<-f]
   | cons d rest=>rw[hrest] at f;simp at f;rw[<-f]
  have C:=Qc (CA.out A D H L.out);have ad:Hid (D.length=x.args.length):=Qai H;rw[E] at O
  clear M CA V x2 x3 x4 x5 x6 x7 f E H o P;go_wp2_with (go_at_call 167;refine C.out.mono ?_;rintro e' w5 ⟨k,rfl,hk,hR,b5⟩)
  have S5:=Q.out.below b5;have aa:g.ow k=0/\g.lo<=k:=⟨Xq.1 fun e=>by have:=Q.out.lt _ e;omega,Zt Q.out.low hk⟩;refine(Qin S5 af ae.out ad.out ab hR aa).mono ?_
  rintro e' w6 hE;have F:=Qc (QjH.then (T1.out.trans (Q.out.stepB b5)) Yz Yz hE);rcases hE with ⟨rfl,-⟩|⟨N,k',-,rfl,-⟩
  ·clear C O x8 S5 hR b5 aa hk;go_wp2
   exact Xz (v:=.tuple #[]) (by simp[results,results113,go_sem]) Yz (by rw[u.out];exact F.out)
  ·exact⟨Yz,by rw[u.out];exact F.out⟩
 by_cases G:x.op=2
 ·obtain⟨y,T⟩:∃ y,iAt R.top.v x.a=some y:=by
   unfold RM.endd at f
   cases hl:iAt R.top.v x.a with
   | none=>simp[G,hl] at f
   | some l=>exact⟨l,Yz⟩
  obtain⟨j,ri,-,c,ej,hj,c3,ck⟩:=Q.out.wordAt T
  rw[ej] at V
  rw[G] at O
  by_cases K:y=0
  ·have u:R.to x.no=some r:=by unfold RM.endd at f;simp[G,T,K] at f;exact f
   have d0:(y==0)=true:=by simpa using K
   have C:=Qc (fun p s=>M.out x.no _ _ _ _ r p (P.out.2 G) o.out.no s u);clear M CA x2 x3 x4 x8 f E T G u o P ej K;generalize R.top.v.length=vl at *;go_upto_region 4 with fail
   go_quiet (fail)
   go_wp2_with fail
   refine(C.out _ (Qah L.out _)).mono ?_
   rintro e' w5 ⟨rfl,B⟩;have Z:=Qc B;clear B C O V x5 x6 x7 c3 ck;go_wp2
   exact Xz (v:=.tuple #[]) (by simp[results,results113,go_sem]) Yz Z.out
  ·have u:R.to x.yes=some r:=by unfold RM.endd at f;simp[G,T,K] at f;exact f
   have d0:(y==0)=false:=by simpa using K
   have C:=Qc (fun p s=>M.out x.yes _ _ _ _ r p (P.out.1 E) o.out.yes s u);clear M CA x5 x6 x7 x8 f E T G u o P ej K;generalize R.top.v.length=vl at *;go_upto_region 4 with fail
   go_quiet (fail)
   go_wp2_with fail
   refine(C.out _ (Qah L.out _)).mono ?_
   rintro e' w5 ⟨rfl,B⟩;have Z:=Qc B;clear B C O V x2 x3 x4 c3 ck;go_wp2
   exact Xz (v:=.tuple #[]) (by simp[results,results113,go_sem]) Yz Z.out
 ·have U:x.op=1:=by omega
  have u:R.to x.yes=some r:=by unfold RM.endd at f;simp[U] at f;exact f
  have C:=Qc (fun p s=>M.out x.yes _ _ _ _ r p (P.out.1 E) o.out.yes s u);rw[U] at O
  clear M CA V x5 x6 x7 x8 f E G U u o P;go_upto_region 4 with fail
  go_quiet (fail)
  go_wp2_with fail
  refine(C.out _ (Qah L.out _)).mono ?_
  rintro e' w5 ⟨rfl,B⟩;have Z:=Qc B;clear B C O x2 x3 x4;go_wp2
  exact Xz (v:=.tuple #[]) (by simp[results,results113,go_sem]) Yz Z.out
end
section
variable {w w' w2:World}{b most n:Nat}{m:List (MFunc 6)}{M M' N:IM}{sc sa:Int}{g g1:MG}{e:Ending}
theorem vsizeE:(prog.info? 84).map (·.size)=some 9:=by kernel_rfl
end
def Qoe (b fu most:Nat) (t:Tmp) (v:Value) (w:World):Prop :=
 v=(([(0,Pv b 0),(4,Pv b 0),(5,Pv b 0),(6,Pv b 5),(7,Pv b 8),(8,Iv (fu:Int)),(9,Pv b 0),(10,Pv b 0),(11,Pv b 3),(12,Iv (most:Int)),(13,.bool (decide ((fu:Int)<most)))]:List (Tmp × Value)).lookup t).getD undef
theorem ws0 {b fu most:Nat}(o:w6.cell? ⟨b,8,none⟩=some (Iv (fu:Int))) (k:w6.cell? ⟨b,3,none⟩=some (Iv (most:Int))){Q:Exit->Act->World->Prop}
 (a:Act) (m:Nat) (j:a.tmps.size=m) (g:75<=m) (p:a.tmps.getD 0 undef=Pv b 0)
 (hend:∀ ops vs w',vs 13=.bool (decide ((fu:Int)<most))->Below w6.heap.size w6 w'->wpList prog ops Q (Qan 10 ((Tryz.f69.body.bind (Qi 0)).getD .skip)) (QM a vs [4,5,6,7,8,9,10,11,12,13]) w') :
 Code.wp prog ((Tryz.f69.body.bind (Qi 0)).getD .skip) Q a w6:=by
 conv=>arg 2;whnf
 refine Qg 10 (Qoe b fu most) (fun w=>Below w6.heap.size w6 w) (fun w w'=>Below w.heap.size w w') (outs:=[0]) (gs:=[]) (bs:=[true,true,true,true,true,true,true,true,true,true]) (by kernel_rfl) (n:=75) j g (by kernel_rfl) (by kernel_rfl) ?hR ?hG (QI Zr 1) ⟨p,Y⟩ ?hA ?hend
 case hR=>exact fun t v w w' _ h=>h
 case hG=>exact Y
 case hend=>exact fun ops vs w' d e=>hend ops vs w' (e 13 (by kernel_rfl)) d
 case hA =>
  refine⟨fun a w d e K f=>?_,?_⟩
  ·obtain⟨c,-⟩:=e
   have c:a.tmps.getD 0 undef=Pv b 0:=c;go_simp;exact f _ _ Zr d Z
  refine⟨fun a w d e K f=>?_,?_⟩
  ·obtain⟨c,-⟩:=e
   have c:a.tmps.getD 4 undef=Pv b 0:=c;go_simp;exact f _ _ Zr d Z
  refine⟨fun a w d e K f=>?_,?_⟩
  ·obtain⟨c,-⟩:=e
   have c:a.tmps.getD 5 undef=Pv b 0:=c;go_simp;exact f _ _ Zr d Z
  refine⟨fun a w d e K f=>?_,?_⟩
  ·obtain⟨c,-⟩:=e
   have c:a.tmps.getD 6 undef=Pv b 5:=c;go_simp;exact f _ _ Zr d Z
  refine⟨fun a w d e K f=>?_,?_⟩
  ·obtain⟨c,-⟩:=e
   have c:a.tmps.getD 7 undef=Pv b 8:=c;have l:=Qk o d;go_simp;exact f _ _ Zr d Z
  refine⟨fun a w d e K f=>?_,?_⟩
  ·obtain⟨c,-⟩:=e
   have c:a.tmps.getD 0 undef=Pv b 0:=c;go_simp;exact f _ _ Zr d Z
  refine⟨fun a w d e K f=>?_,?_⟩
  ·obtain⟨c,-⟩:=e
   have c:a.tmps.getD 9 undef=Pv b 0:=c;go_simp;exact f _ _ Zr d Z
  refine⟨fun a w d e K f=>?_,?_⟩
  ·obtain⟨c,-⟩:=e
   have c:a.tmps.getD 10 undef=Pv b 0:=c;go_simp;exact f _ _ Zr d Z
  refine⟨fun a w d e K f=>?_,?_⟩
  ·obtain⟨c,-⟩:=e
   have c:a.tmps.getD 11 undef=Pv b 3:=c;have l:=Qk k d;go_simp;exact f _ _ Zr d Z
  refine⟨fun a w d e K f=>?_,?_⟩
  ·obtain⟨c,i,-⟩:=e
   have c:a.tmps.getD 8 undef=Iv (fu:Int):=c;have i:a.tmps.getD 12 undef=Iv (most:Int):=i;go_simp;refine f _ _ Zr d ?_;show Value.bool _=Value.bool _;congr 1
   first | rfl | (rw[decide_eq_decide];omega)
  trivial
def QnL (w6:World) (b c g1 o1 nm cm fi g2 o2 nb cb bi:Nat) (bl:MBlock 6) (p:BP) (t:Tmp) (v:Value) (w:World):Prop :=
 match ([(3,fun v w=>∃ Z,v=.pointer (some ⟨Z,0,none⟩)/\w6.heap.size<=Z/\Blk w Z zeroB 86)]:List (Tmp × (Value->World->Prop))).lookup t with
 | some p=>p v w
 | none=>v=(([(0,.pointer (some ⟨b,0,none⟩)),(2,.pointer (some ⟨c,0,none⟩)),(26,.pointer (some ⟨b,0,none⟩)),(27,.pointer (some ⟨b,0,none⟩)),(28,.pointer (some ⟨b,1,none⟩)),(29,.pointer (some ⟨b,1,none⟩)),(30,.slice (some ⟨g1,o1,none⟩) nm cm),(31,.pointer (some ⟨c,0,none⟩)),(32,.pointer (some ⟨c,0,none⟩)),(33,.pointer (some ⟨c,0,none⟩)),(34,.int .i64 (fi:Int)),(35,.pointer (some ⟨g1,o1+fi*4,none⟩)),(36,.pointer (some ⟨g1,o1+fi*4+3,none⟩)),(37,.slice (some ⟨g2,o2,none⟩) nb cb),(38,.pointer (some ⟨c,0,none⟩)),(39,.pointer (some ⟨c,0,none⟩)),(40,.pointer (some ⟨c,1,none⟩)),(41,.int .i64 (bi:Int)),(42,.pointer (some ⟨g2,o2+bi*12,none⟩)),(43,.agg (Qgf bl p))]:List (Tmp × Value)).lookup t).getD undef
theorem ws3 {b i l x o k u z:Nat}{r:MBlock 6}{p:BP}(E:w6.cell? ⟨b,1,none⟩=some (.slice (some ⟨i,l,none⟩) x cm)) (C:w6.cell? ⟨c,0,none⟩=some (Iv (fi:Int))) (O:w6.cell? ⟨c,1,none⟩=some (Iv (bi:Int))) (N:w6.cell? ⟨i,l+fi*4+3,none⟩=some (.slice (some ⟨o,k,none⟩) u z)) (L:Hid (w6.rangeAt o (k+bi*12) (Qgf r p).toList)) (F:(fi:Int)<x) (G:(bi:Int)<u){Q:Exit->Act->World->Prop}
 (a:Act) (m:Nat) (D:a.tmps.size=m) (A:75<=m) (P:a.tmps.getD 0 undef=Pv b 0) (B:a.tmps.getD 2 undef=Pv c 0)
 (hend:∀ ops vs w',(fun v w=>∃ Z,v=Pv Z 0/\w6.heap.size<=Z/\Blk w Z zeroB 86) (vs 3) w'->vs 43=.agg (Qgf r p)->Below w6.heap.size w6 w'->wpList prog ops Q (Qan 19 ((Tryz.f69.body.bind (Qi 3)).getD .skip)) (QM a vs [26,27,28,29,30,31,32,33,34,35,36,37,38,39,40,41,42,43,3]) w') :
 Code.wp prog ((Tryz.f69.body.bind (Qi 3)).getD .skip) Q a w6:=by
 conv=>arg 2;whnf
 refine Qg 19 (QnL w6 b c i l x cm fi o k u z bi r p) (fun w=>Below w6.heap.size w6 w) (fun w w'=>Below w.heap.size w w') (outs:=[0,2]) (gs:=[]) (bs:=[true,true,true,true,true,true,true,true,true,true,true,true,true,true,true,true,true,true,true]) (by kernel_rfl) (n:=75) D A (by kernel_rfl) (by kernel_rfl) ?hR ?hG (QI Zr 1) ⟨P,B,Y⟩ ?hA ?hend
 case hR =>
  intro t v w w' H h;unfold QnL at h |-;split at h
  ·rename_i p s
   simp only[List.lookup_cons,List.lookup_nil] at s
   split at s
   ·cases s;exact(by obtain⟨Z,I,B,J⟩:=h;exact⟨Z,I,B,Blk.below J H⟩)
   ·cases s
  ·exact h
 case hG=>exact Y
 case hend=>exact fun ops vs w' e f=>hend ops vs w' (f 3 (by kernel_rfl)) (f 43 (by kernel_rfl)) e
 case hA =>
  refine⟨fun a w e f K g=>?_,?_⟩
  ·obtain⟨d,-⟩:=f
   have d:a.tmps.getD 0 undef=Pv b 0:=d;go_simp;exact g _ _ Zr e Yz
  refine⟨fun a w e f K g=>?_,?_⟩
  ·obtain⟨d,-⟩:=f
   have d:a.tmps.getD 26 undef=Pv b 0:=d;go_simp;exact g _ _ Zr e Yz
  refine⟨fun a w e f K g=>?_,?_⟩
  ·obtain⟨d,-⟩:=f
   have d:a.tmps.getD 27 undef=Pv b 0:=d;go_simp;exact g _ _ Zr e Yz
  refine⟨fun a w e f K g=>?_,?_⟩
  ·obtain⟨d,-⟩:=f
   have d:a.tmps.getD 28 undef=Pv b 1:=d;go_simp;exact g _ _ Zr e Yz
  refine⟨fun a w e f K g=>?_,?_⟩
  ·obtain⟨d,-⟩:=f
   have d:a.tmps.getD 29 undef=Pv b 1:=d;have y:=Qk E e;go_simp;exact g _ _ Zr e Yz
  refine⟨fun a w e f K g=>?_,?_⟩
  ·obtain⟨d,-⟩:=f
   have d:a.tmps.getD 2 undef=Pv c 0:=d;go_simp;exact g _ _ Zr e Yz
  refine⟨fun a w e f K g=>?_,?_⟩
  ·obtain⟨d,-⟩:=f
   have d:a.tmps.getD 31 undef=Pv c 0:=d;go_simp;exact g _ _ Zr e Yz
  refine⟨fun a w e f K g=>?_,?_⟩
  ·obtain⟨d,-⟩:=f
   have d:a.tmps.getD 32 undef=Pv c 0:=d;go_simp;exact g _ _ Zr e Yz
  refine⟨fun a w e f K g=>?_,?_⟩
  ·obtain⟨d,-⟩:=f
   have d:a.tmps.getD 33 undef=Pv c 0:=d;have y:=Qk C e;go_simp;exact g _ _ Zr e Yz
  refine⟨fun a w e f K g=>?_,?_⟩
  ·obtain⟨d,q,-⟩:=f
   have d:a.tmps.getD 30 undef=.slice (some ⟨i,l,none⟩) x cm:=d;have q:a.tmps.getD 34 undef=Iv (fi:Int):=q;go_simp;exact g _ _ Zr e Yz
  refine⟨fun a w e f K g=>?_,?_⟩
  ·obtain⟨d,-⟩:=f
   have d:a.tmps.getD 35 undef=Pv i (l+fi*4):=d;go_simp;exact g _ _ Zr e Yz
  refine⟨fun a w e f K g=>?_,?_⟩
  ·obtain⟨d,-⟩:=f
   have d:a.tmps.getD 36 undef=Pv i (l+fi*4+3):=d;have y:=Qk N e;go_simp;exact g _ _ Zr e Yz
  refine⟨fun a w e f K g=>?_,?_⟩
  ·obtain⟨d,-⟩:=f
   have d:a.tmps.getD 2 undef=Pv c 0:=d;go_simp;exact g _ _ Zr e Yz
  refine⟨fun a w e f K g=>?_,?_⟩
  ·obtain⟨d,-⟩:=f
   have d:a.tmps.getD 38 undef=Pv c 0:=d;go_simp;exact g _ _ Zr e Yz
  refine⟨fun a w e f K g=>?_,?_⟩
  ·obtain⟨d,-⟩:=f
   have d:a.tmps.getD 39 undef=Pv c 0:=d;go_simp;exact g _ _ Zr e Yz
  refine⟨fun a w e f K g=>?_,?_⟩
  ·obtain⟨d,-⟩:=f
   have d:a.tmps.getD 40 undef=Pv c 1:=d;have y:=Qk O e;go_simp;exact g _ _ Zr e Yz
  refine⟨fun a w e f K g=>?_,?_⟩
  ·obtain⟨d,q,-⟩:=f
   have d:a.tmps.getD 37 undef=.slice (some ⟨o,k,none⟩) u z:=d;have q:a.tmps.getD 41 undef=Iv (bi:Int):=q;go_simp;exact g _ _ Zr e Yz
  refine⟨fun a w e f K g=>?_,?_⟩
  ·obtain⟨d,-⟩:=f
   have d:a.tmps.getD 42 undef=Pv o (k+bi*12):=d;refine wp_load_mid 86 (.tmp 42) Yz o (k+bi*12) d (Qgf r p).toList _ (fun j v M=>Qk (L.out j v M) e) underlying86 Yz pSizeB ?_;exact g _ _ Zr e Yz
  refine⟨fun a w e f K g=>?_,?_⟩
  ·clear f;go_simp;exact g _ _ (ZP _ _) (e.trans ((ZP _ _).mono e.size)) ⟨_,Yz,e.size,Qe _ _ _⟩
  trivial
def Qn5 (b c Z gc oc nc cc i:Nat) (x:Qs) (ip:IP) (t:Tmp) (v:Value) (w:World):Prop :=
 v=(([(0,Pv b 0),(2,Pv c 0),(3,Pv Z 0),(57,Pv b 0),(58,Pv c 0),(59,Pv Z 2),(60,.slice (some ⟨gc,oc,none⟩) nc cc),(61,Pv c 0),(62,Pv c 0),(63,Pv c 2),(64,Iv (i:Int)),(65,Pv gc (oc+i*8)),(66,.agg (Zq x ip))]:List (Tmp × Value)).lookup t).getD undef
theorem ws6 {b Z l k o:Nat}{x:Qs}{p:IP}(C:w6.cell? ⟨Z,2,none⟩=some (.slice (some ⟨l,k,none⟩) o cc)) (z:w6.cell? ⟨c,2,none⟩=some (Iv (i:Int))) (y:Hid (w6.rangeAt l (k+i*8) (Zq x p).toList)) (hi:(i:Int)<o){Q:Exit->Act->World->Prop}
 (a:Act) (m:Nat) (s:a.tmps.size=m) (q:75<=m) (D:a.tmps.getD 0 undef=Pv b 0) (E:a.tmps.getD 2 undef=Pv c 0) (u:a.tmps.getD 3 undef=Pv Z 0)
 (hend:∀ ops vs w',vs 57=Pv b 0->vs 58=Pv c 0->vs 66=.agg (Zq x p)->Below w6.heap.size w6 w'->wpList prog ops Q (Qan 10 ((Tryz.f69.body.bind (Qi 6)).getD .skip)) (QM a vs [57,58,59,60,61,62,63,64,65,66]) w') :
 Code.wp prog ((Tryz.f69.body.bind (Qi 6)).getD .skip) Q a w6:=by
 conv=>arg 2;whnf
 refine Qg 10 (Qn5 b c Z l k o cc i x p) (fun w=>Below w6.heap.size w6 w) (fun w w'=>Below w.heap.size w w') (outs:=[0,2,3]) (gs:=[]) (bs:=[true,true,true,true,true,true,true,true,true,true]) (by kernel_rfl) (n:=75) s q (by kernel_rfl) (by kernel_rfl) ?hR ?hG (QI Zr 1) ⟨D,E,u,Y⟩ ?hA ?hend
 case hR=>exact fun t v w w' _ h=>h
 case hG=>exact Y
 case hend=>exact fun ops vs w' e f=>hend ops vs w' (f 57 (by kernel_rfl)) (f 58 (by kernel_rfl)) (f 66 (by kernel_rfl)) e
 case hA =>
  refine⟨fun a w e f K g=>?_,?_⟩
  ·obtain⟨d,-⟩:=f
   have d:a.tmps.getD 0 undef=Pv b 0:=d;go_simp;exact g _ _ Zr e Yz
  refine⟨fun a w e f K g=>?_,?_⟩
  ·obtain⟨d,-⟩:=f
   have d:a.tmps.getD 2 undef=Pv c 0:=d;go_simp;exact g _ _ Zr e Yz
  refine⟨fun a w e f K g=>?_,?_⟩
  ·obtain⟨d,-⟩:=f
   have d:a.tmps.getD 3 undef=Pv Z 0:=d;go_simp;exact g _ _ Zr e Yz
  refine⟨fun a w e f K g=>?_,?_⟩
  ·obtain⟨d,-⟩:=f
   have d:a.tmps.getD 59 undef=Pv Z 2:=d;have A:=Qk C e;go_simp;exact g _ _ Zr e Yz
  refine⟨fun a w e f K g=>?_,?_⟩
  ·obtain⟨d,-⟩:=f
   have d:a.tmps.getD 2 undef=Pv c 0:=d;go_simp;exact g _ _ Zr e Yz
  refine⟨fun a w e f K g=>?_,?_⟩
  ·obtain⟨d,-⟩:=f
   have d:a.tmps.getD 61 undef=Pv c 0:=d;go_simp;exact g _ _ Zr e Yz
  refine⟨fun a w e f K g=>?_,?_⟩
  ·obtain⟨d,-⟩:=f
   have d:a.tmps.getD 62 undef=Pv c 0:=d;go_simp;exact g _ _ Zr e Yz
  refine⟨fun a w e f K g=>?_,?_⟩
  ·obtain⟨d,-⟩:=f
   have d:a.tmps.getD 63 undef=Pv c 2:=d;have A:=Qk z e;go_simp;exact g _ _ Zr e Yz
  refine⟨fun a w e f K g=>?_,?_⟩
  ·obtain⟨d,r,-⟩:=f
   have d:a.tmps.getD 60 undef=.slice (some ⟨l,k,none⟩) o cc:=d;have r:a.tmps.getD 64 undef=Iv (i:Int):=r;go_simp;exact g _ _ Zr e Yz
  refine⟨fun a w e f K g=>?_,?_⟩
  ·obtain⟨d,-⟩:=f
   have d:a.tmps.getD 65 undef=Pv l (k+i*8):=d;refine wp_load_mid 78 (.tmp 65) Yz l (k+i*8) d (Zq x p).toList _ (fun j v B=>Qk (y.out j v B) e) underlying78 Yz pSizeN ?_;exact g _ _ Zr e Yz
  trivial
section
variable {w w' w2:World}{b most n:Nat}{m:List (MFunc 6)}{R R' r:RM}{g g1:WG}
theorem WAt.fuelC (S:WAt w b most m R g):WTo g w (w.setCell ⟨b,8,none⟩ (Iv ((R.fuel:Int)+1))) b most m { R with fuel:=R.fuel+1 }:=by
 refine S.reBox (R':={ R with fuel:=R.fuel+1 }) Z Z Z (by simp) (fun k c a=>Xd _ _ _ _ a) ⟨Z,Z,Z,Z⟩ (pi:=g.pi) (ci:=g.ci) (vb:=g.vb) ⟨S.inp,S.inpC⟩ S.back ?_;rw[Qh S.box 8 _]
 simp
theorem Qjz (S:WAt w b most m R g) (I:ROk m n R) (i:n<=900000){x:Qs}(a:IP) (h:x.op=6\/x.op=7\/x.op=9\/x.op=10\/x.op=11) (p:RM.ins aOp R x=some r) :
 Calls prog 114 #[Pv b 0,Pv g.t.c 0,.agg (Zq x a)] w fun e w'=>Qdj g w b most m r e w':=by
 have k:=Qc (ZP w (.cells (Zq x a) 78));have l:=Qc (Qe w (Zq x a) 78);have d:=Qc (S.below k.out);have o:=Qc (S.stepB k.out);have f:R.part x=some r:=by rw[<-p,Qaw h]
 have C:Hid (Calls prog 177 #[Pv b 0,Pv g.t.c 0,.agg (Zq x a)] (w.alloc (.cells (Zq x a) 78)) fun e w'=>Qdj g (w.alloc (.cells (Zq x a) 78)) b most m r e w'):=by
  rcases h with h | h | h | h | h
  ·exact Qmu d.out I i a h f
  ·exact Qmy d.out I i a h f
  ·exact QmO d.out I i a h f
  ·exact Qlv d.out I i a h f
  ·exact QlV d.out I i a h f
 have N:(x.op==1)=false:=by simp;omega
 have O:(x.op==2)=false:=by simp;omega
 have K:(x.op==3)=false:=by simp;omega
 have Q:(x.op==4)=false:=by simp;omega
 have M:(x.op==5)=false:=by simp;omega
 have P:(x.op==8)=false:=by simp;omega
 have z:(x.op==12)=false:=by simp;omega
 have A:(x.op==13)=false:=by simp;omega
 have q:(x.op==14)=false:=by simp;omega
 clear S I f p h;go_enter func114,ntmps114
 go_upto_region 1 with fail
 generalize w.alloc (.cells (Zq x a) 78)=H at k l d o C |-;generalize w.heap.size=X at l |-;obtain⟨F,D,G,y,s,E,B,u⟩:=Q5 l.out
 go_wp2_with fail
 refine C.out.mono ?_;rintro L J j;have Z:=Qc (Qdj.then o.out Yz Yz j);rcases j.cases with rfl | ⟨T,rfl⟩
 ·clear j C F D G y s E B u;go_wp2
  exact Xz (v:=.tuple #[]) (by simp[results,results114,go_sem]) Yz Z.out
 ·exact⟨Yz,Z.out⟩
theorem QmN (S:WAt w b most m R g) (I:ROk m n R) (z:n<=900000){x:Qs}(a:IP){O:Nat->Prop}(hi:IIn w O x a) (u:x.args.length<=8) (h:x.op=14)(s:x.k=(f:Int))(y:R.rest.length+1<40->QaA R.top.v x.args=some xs) :
 Calls prog 114 #[Pv b 0,Pv g.t.c 0,.agg (Zq x a)] w fun e w'=>Qm4 g w b most m R f xs e w':=by
 have i:=Qc (ZP w (.cells (Zq x a) 78));have o:=Qc (Qe w (Zq x a) 78);have q:=Qc (S.below i.out);have l:=Qc (S.stepB i.out);have C:=Qc (QiZ q.out I z a (hi.below i.out) u s y);have W:(x.op==1)=false:=by simp;omega
 have d2:(x.op==2)=false:=by simp;omega
 have T:(x.op==3)=false:=by simp;omega
 have d4:(x.op==4)=false:=by simp;omega
 have V:(x.op==5)=false:=by simp;omega
 have d8:(x.op==8)=false:=by simp;omega
 have H:(x.op==12)=false:=by simp;omega
 have J:(x.op==13)=false:=by simp;omega
 have B:(x.op==14)=true:=by simp;omega
 clear S I y hi u s h;go_enter func114,ntmps114
 go_upto_region 1 with fail
 generalize w.alloc (.cells (Zq x a) 78)=Q at i o q l C |-;generalize w.heap.size=X at o |-;obtain⟨N,L,P,F,D,M,K,E⟩:=Q5 o.out
 go_wp2_with fail
 refine C.out.mono ?_;rintro U A (⟨d,rfl,G,j,p,r⟩|⟨d,rfl,j⟩)
 ·have Z:Hid (Qm4 g w b most m R f xs (.returned (.tuple #[])) A):=.inl ⟨d,Yz,G,j,l.out.trans p,r⟩;clear d j p r C N L P F D M K E;go_wp2
  exact Xz (v:=.tuple #[]) (by simp[results,results114,go_sem]) Yz Z.out
 ·exact⟨Yz,.inr ⟨d,Yz,WTo.then l.out Yz Yz j⟩⟩
theorem QkE (S:WAt w b most m R g) (I:ROk m n R) (f:n<=900000){x:Qs}(a:IP){j:Nat->Prop}(hi:IIn w j x a) (o:x.form m.length=0) (l:x.op≠14) (d:RM.ins aOp R x=some r) :
 Calls prog 114 #[Pv b 0,Pv g.t.c 0,.agg (Zq x a)] w fun e w'=>Qdj g w b most m r e w':=by
 obtain⟨p,i,-⟩:=Qdc o
 have k:x.op=1\/x.op=2\/x.op=3\/x.op=4\/x.op=5\/x.op=8\/x.op=12\/x.op=13\/(x.op=6\/x.op=7\/x.op=9\/x.op=10\/x.op=11):=by omega
 rcases k with h | h | h | h | h | h | h | h | h
 ·exact Qni S I f a h d
 ·exact Qnq S I f a h d
 ·exact Qnm S I f a h d
 ·exact Qnp S I f a h d
 ·exact Qne S I f a h hi (i h) d
 ·exact Qng S I f a h d
 ·exact Qmh S I f a h d
 ·exact QmF S I f a h d
 ·exact Qjz S I f a h d
end
section
variable {w w' w2:World}{b most n:Nat}{m:List (MFunc 6)}{R R' r:RM}{g g1:WG}
def QnP (g:WG) (w:World) (b most:Nat) (m:List (MFunc 6)) (r:RM) (e:Ending) (w':World):Prop :=
 (e=.returned (.tuple #[])/\WGo g w w' b most m r)\/(∃ N k,r=N.over k/\e=.panicked (QdF k)/\WTo g w w' b most m N)
theorem QjH.stp {e:Ending}(T:WSt g g1 w w2) (a:g1.t.c=g.t.c) (d:g1.fs=g.fs) (H:QjH g1 w2 b most m r e w'):QnP g w b most m r e w':=H.then T a d
theorem QiG (S:WAt w b most m R g) (I:ROk m n R) (hn:n<=800000) (hm:(modFault m).1=0) (bg:R.fuel<=most) (bi:most<=100000) (hr:RM.step m aOp most R=some r) :
 Calls prog 69 #[Pv b 0] w fun e w'=>QnP g w b most m r e w':=by
 obtain⟨-,fn,d,hf,hb,hi⟩:=I.fr R.top (by simp)
 have hR:=(Zo hm).2 fn (Zm hf);have hB:=hR.blocks d (Zm hb);have ay:=(Zo hm).1.2
 have E:Hid (some r=if R.fuel=most then some (R.over 7) else match d.code[R.top.i]? with | some x=>RM.ins aOp { R with fuel:=R.fuel+1 } x | none=>RM.endd { R with fuel:=R.fuel+1 } d.fin):=by
  show _=_;rw[<-hr]
  unfold RM.step;rw[hf]
  simp only
  rw[hb]
  rfl
 have I1:ROk m n { R with fuel:=R.fuel+1 }:=⟨I.est,I.fr,I.inp,I.out,I.deep⟩;have q8:w.cell? ⟨b,8,none⟩=some (Iv R.fuel):=Qb S.box 8 _ Yz;have q3:w.cell? ⟨b,3,none⟩=some (Iv most):=Qb S.box 3 _ Yz;have HS:=Qc S;have HK:=Qc I1;have z:=Qc (Xh hf hb);have aa:=Qc (Xh hR hB);have HM:=Qc hm;have HI:=Qc hi;have HN:=Qc (Xh hn ay);clear S I I1 hf hb hR hB hm hi hn ay hr;go_enter func69,ntmps69
 go_upto_region 0 with fail
 refine ws0 q8 q3 _ _ Yz (Xg (by kernel_rfl)) Yz ?_;rintro A vs w5 O b5;show wpList _ A _ [_] (QM _ vs [4,5,6,7,8,9,10,11,12,13]) w5;simp only[QM,Act.put,List.setIfInBounds_toArray,List.set_cons_zero,List.set_cons_succ,O]
 have B5:=Qc b5;clear O b5 q8 q3;by_cases D:R.fuel=most
 ·have d1:decide ((R.fuel:Int)<most)=false:=Xu (by omega);have V:Hid (r=R.over 7):=by show _=_;have:=E.out;rw[Xs D] at this;cases this;rfl
  rw[d1]
  clear E d1 D;go_wp2_with fail
  refine(Qab _ _).mono ?_
  rintro e' w' ⟨rfl,hw⟩;subst hw;exact⟨Yz,.inr ⟨R,7,V.out,Yz,WTo.same HS.out B5.out⟩⟩
 have d1:decide ((R.fuel:Int)<most)=true:=Xt (by omega);have V:Hid (some r=match d.code[R.top.i]? with | some x=>RM.ins aOp { R with fuel:=R.fuel+1 } x | none=>RM.endd { R with fuel:=R.fuel+1 } d.fin):=by show _=_;have:=E.out;rw[Xr D] at this;exact this
 rw[d1]
 clear E d1 D;have S5:=Qc (HS.out.below B5.out);have q8:w5.cell? ⟨b,8,none⟩=some (Iv R.fuel):=Qb S5.out.box 8 _ Yz;have z8:=Qj S5.out.box 8;obtain⟨M,J,T6,c6,f6⟩:=S5.out.fuelC
 have J:=Qc J;have T6:=Qc ((HS.out.stepB B5.out).trans T6);have s:=Qc (Xh c6 f6);have bk:R.fuel<=100000:=by omega
 clear S5 c6 f6 B5;generalize a1:({ R with fuel:=R.fuel+1 }:RM)=q at J V HK;have o:Hid (q.top=R.top/\q.rest=R.rest):=by subst a1;exact⟨Yz,Yz⟩
 clear a1;generalize R.fuel=fu at *;go_upto_region 2 with (go_at_call 111;refine(QaJ _ _).mono ?_;rintro e' w' ⟨rfl,hw⟩;have hw:=hw.symm;subst hw)
 generalize w5.setCell ⟨b,8,none⟩ (Iv ((fu:Int)+1))=w6 at J T6 |-;clear q8 z8;have bm:q.rest.length<=39:=HK.out.deep;have CT:=Qc (QgF J.out (by omega));go_upto_region 3 with (go_at_call 112;refine CT.out.mono ?_;rintro e' w7 ⟨rfl,b7⟩)
 have S7:=Qc (J.out.below b7);have T7:=Qc (T6.out.trans (J.out.stepB b7));clear b7 CT J T6;obtain⟨a9,o1,fA,e1,E1,af⟩:=QfC S7.out.mod (by exact z.out.1)
 obtain⟨bc,o2,p,e2,ao,aw⟩:=Qei af.blocks (by exact z.out.2)
 have r3:w7.cell? ⟨a9,o1+R.top.f*4+3,none⟩=some (.slice fA.pB fn.blocks.length fA.cB):=E1 3 _ Yz;rw[e2] at r3
 have q1:w7.cell? ⟨b,1,none⟩=some (.slice M.pm m.length M.cm):=Qb S7.out.box 1 _ Yz;rw[e1] at q1
 have f0:w7.cell? ⟨M.t.c,0,none⟩=some (Iv R.top.f):=by have:=Qb S7.out.top.1 0 _ Yz;rw[o.out.1] at this;exact this
 have f1:w7.cell? ⟨M.t.c,1,none⟩=some (Iv R.top.b):=by have:=Qb S7.out.top.1 1 _ Yz;rw[o.out.1] at this;exact this
 have ar:(R.top.f:Int)<m.length:=by have:=(Zi z.out.1).1;omega
 have an:(R.top.b:Int)<fn.blocks.length:=by have:=(Zi z.out.2).1;omega
 have a3:=Qc aw;have al:Hid (w7.rangeAt bc (o2+R.top.b*12) (Qgf d p).toList):=ao;clear E1 af ao aw e1 e2;refine ws3 q1 f0 f1 r3 al ar an _ _ Yz (Xg (by kernel_rfl)) Yz Yz ?_;rintro A vs w8 ⟨Z,aj,hZ,X⟩ K b8;show wpList _ A _ [_] (QM _ vs [26,27,28,29,30,31,32,33,34,35,36,37,38,39,40,41,42,43,3]) w8;simp only[QM,Act.put,List.setIfInBounds_toArray,List.set_cons_zero,List.set_cons_succ,aj,K]
 have BZ:=Qc (QmQ X d p);have B9:=Qc (QeZ hZ (Qgf d p).toList 0 b8);have TH:=Qc (QkN X Yz d p);have SZ:=Qc (show (prog.info? 86).map (·.size)=some (Qgf d p).size from pSizeB);have ON:=Qc (QmB d p);obtain⟨cs,ab⟩:∃ cs,Qgf d p=cs:=⟨_,Yz⟩
 rw[ab] at BZ B9 TH SZ ON |-
 have EC:=Qc ab;clear ab aj K b8 X q1 f0 f1 r3 al ar an;go_upto_region 4 with (refine wpList_store_mid Yz 86 (.tmp 3) (.tmp 43) Yz Z 0 cs Yz Yz TH.out SZ.out ON.out ?_)
 generalize w8.setCells Z 0 cs.toList=G at BZ B9 |-;obtain rfl:=EC.out;have S9:=Qc (S7.out.below B9.out);have T9:=Qc (T7.out.trans (S7.out.stepB B9.out));have y:=Qc (a3.out.below B9.out);clear TH SZ ON EC B9 a3 S7 T7 hZ;have f2:G.cell? ⟨M.t.c,2,none⟩=some (Iv R.top.i):=by have:=Qb S9.out.top.1 2 _ Yz;rw[o.out.1] at this;exact this
 have z2:G.cell? ⟨Z,2,none⟩=some (.slice p.pC d.code.length p.cC):=Qb BZ.out 2 _ Yz;have Ka:Hid (ROk m n q):=HK.out;have ah:=HI.out;by_cases W:R.top.i=d.code.length
 ·have hc:((R.top.i:Int)==(d.code.length:Int))=true:=by simp[W]
  have T:q.endd d.fin=some r:=by have:=V.out;rw[Xk (by omega)] at this;exact this.symm
  go_quiet (fail)
  have a:=Qah (Below.refl G.heap.size G) nq;have Sa:=S9.out.below a;have Ta:=Qc (T9.out.trans (S9.out.stepB a));have ad:=Blk.below BZ.out a;have CE:=Qc (Qkn Sa Ka.out (by have:=HN.out.1;omega) (y.out.below a).fin aa.out.2.fin T)
  have RE:Hid ((G.drewN nq).rangeAt Z 3 (QbW d.fin p.e).toList):=fun j v hj=>by
   have:(Qgf d p)[3+j]?=some v:=by
    rw[<-Array.getElem?_toList,Nat.add_comm]
    exact hj
   exact Qb ad (3+j) v this
  clear W hc V ah a Sa ad f2 z2 S9 T9 BZ y T;generalize G.drewN nq=wa at *;go_wp2_with (refine wpList_load_mid Yz 84 (.tmp 54) Yz Z 3 Yz (QbW d.fin p.e).toList _ RE.out underlying84 Yz vsizeE ?_)
  refine CE.out.mono ?_;rintro e' wb H;have F:=Qc (QjH.stp Ta.out s.out.1 s.out.2 H);rcases H with ⟨rfl,-⟩|⟨N,k,-,rfl,-⟩
  ·clear CE RE;go_wp2
   exact Xz (v:=.tuple #[]) (by simp[results,results69,go_sem]) Yz F.out
  ·exact⟨Yz,F.out⟩
 have hc:((R.top.i:Int)==(d.code.length:Int))=false:=by simp;omega
 have ai:R.top.i<d.code.length:=by omega
 obtain⟨x,hx⟩:∃ x,d.code[R.top.i]?=some x:=⟨_,Zg ai⟩
 have T:Hid (RM.ins aOp q x=some r):=by show _=_;have:=V.out;rw[hx] at this;exact this.symm
 have ap:=aa.out.2.code x (Zm hx);have bh:=aa.out.2.codes;go_quiet (fail)
 have a:=Qah (Below.refl G.heap.size G) nq;have Sa:=Qc (S9.out.below a);have Ta:=Qc (T9.out.trans (S9.out.stepB a));have ax:=y.out.below a;replace z2:=Qk z2 a;replace f2:=Qk f2 a;clear S9 T9 BZ y a;generalize G.drewN nq=wa at *;obtain⟨gc,oc,ip,ec,ak,az⟩:=QhT ax.code hx
 rw[ec] at z2
 have a2:Hid (wa.rangeAt gc (oc+R.top.i*8) (Zq x ip).toList):=ak;have au:=Qc az;have HX:=Qc ap;have ae:=Qc ai;clear hc W V hx ak az ap ah ec ax;go_upto_region 6 with fail
 refine ws6 z2 f2 a2 (by omega) _ _ Yz (Xg (by kernel_rfl)) Yz Yz Yz ?_;rintro A a8 wb P L Q bb;show wpList _ A _ [_] (QM _ a8 [57,58,59,60,61,62,63,64,65,66]) wb;simp only[QM,Act.put,List.setIfInBounds_toArray,List.set_cons_zero,List.set_cons_succ,P,L,Q]
 have Sb:=Qc (Sa.out.below bb);have Tb:=Qc (Ta.out.trans (Sa.out.stepB bb));have aq:=Qc (au.out.below bb);clear P L Q bb z2 f2 a2 Sa Ta au;by_cases u:x.op=14
 ·obtain⟨-,-,ag⟩:=Qdc HX.out
  obtain⟨a4,a6,a5,am⟩:=ag u
  obtain⟨k,hk⟩:=Xc a4
  obtain⟨xs,ac⟩:∃ xs:List Int,(q.rest.length+1<40->QaA q.top.v x.args=some xs)/\r=if q.rest.length+1<40 then { q with top:=⟨k,0,0,xs⟩,rest:={ q.top with i:=q.top.i+1 }::q.rest } else q.over 5:=by
   have H:=T.out;unfold RM.ins at H;by_cases h:q.rest.length+1<40
   ·cases hv:QaA q.top.v x.args with
    | none=>simp[u,h,hv] at H
    | some l =>
      simp[u,h,hv] at H
      refine⟨l,fun _=>rfl,?_⟩
      rw[Xs h,<-H,hk]
      rfl
   ·simp[u,h] at H
    exact⟨[],fun h'=>absurd h' h,by rw[Xr h];exact H.symm⟩
  have CI:=Qc (QmN Sb.out Ka.out (by have:=HN.out.1;omega) ip aq.out am u hk ac.1);have E4:=Qc ac.2;have av:q.top.i<=100:=by rw[o.out.1];have:=ae.out;omega
  clear hk a4 a6 a5 am ag u T ac;go_wp2_with fail
  refine CI.out.mono ?_;rintro e' wc (⟨C,rfl,g',B,U,h4⟩|⟨C,rfl,B⟩)
  ·have F2:=B.frs;rw[h4] at F2
   have fc:=F2.2.1.1;have y2:wc.cell? ⟨M.t.c,2,none⟩=some (Iv q.top.i):=Qb fc.1 2 _ Yz;have a0:=Qj fc.1 2;obtain⟨g8,S8,T8⟩:=B.next2 h4 Yz
   have Z8:Hid (WGo g w (wc.setCell ⟨M.t.c,2,none⟩ (Iv ((q.top.i:Int)+1))) b most m r):=by
    refine⟨g8,?_,(Tb.out.trans U).trans T8⟩
    rw[E4.out,Xs C]
    exact S8
   clear CI C B U h4 F2 fc S8 T8 E4;generalize q.top.i=ii at *;go_wp2
   exact Xz (v:=.tuple #[]) (by simp[results,results69,go_sem]) Yz (.inl ⟨Yz,Z8.out⟩)
  ·exact⟨Yz,.inr ⟨q,5,by rw[E4.out,Xr C],Yz,WTo.then Tb.out s.out.1 s.out.2 B⟩⟩
 ·have CI:=Qc (QkE Sb.out Ka.out (by have:=HN.out.1;omega) ip aq.out HX.out u T.out);have KI:=Qc (Qi8 Ka.out ⟨fn,d,by rw[o.out.1];exact z.out.1,by rw[o.out.1];exact z.out.2,by rw[o.out.1];exact ae.out⟩ HM.out HX.out r T.out);clear u T;go_wp2_with fail
  refine CI.out.mono ?_;rintro e' wc (⟨N,C,rfl,g',B,U,h4,h5⟩|⟨N,kk,C,rfl,U⟩)
  ·have av:N.top.i<=100:=by
    obtain⟨-,a7,be,bd,ba,bj⟩:=KI.out.fr r.top (by simp)
    have bf:=(((Zo HM.out).2 a7 (Zm bd)).blocks be (Zm ba)).codes
    have:r.top.i=N.top.i+1:=by rw[C];rfl
    omega
   have y2:wc.cell? ⟨g'.t.c,2,none⟩=some (Iv N.top.i):=Qb B.top.1 2 _ Yz;have a0:=Qj B.top.1 2;have NX:=WTo.then (Tb.out.trans U) (h4.trans s.out.1) (h5.trans s.out.2) B.next
   rw[h4] at y2 a0 NX
   have Z8:Hid (WTo g w (wc.setCell ⟨M.t.c,2,none⟩ (Iv ((N.top.i:Int)+1))) b most m r):=by rw[C];exact NX
   clear CI C B U h4 h5 KI NX;generalize N.top.i=ii at *;go_wp2
   exact Xz (v:=.tuple #[]) (by simp[results,results69,go_sem]) Yz (.inl ⟨Yz,Z8.out.go⟩)
  ·exact⟨Yz,.inr ⟨N,kk,C,Yz,WTo.then Tb.out s.out.1 s.out.2 U⟩⟩
end
section
variable {w w' w2:World}{b most n:Nat}{m:List (MFunc 6)}{R R' r:RM}{g g1:WG}
theorem WAt.endC (S:WAt w b most m R g) (k:Int):WTo g w ((w.setCell ⟨b,9,none⟩ (.bool true)).setCell ⟨b,5,none⟩ (Iv k)) b most m (R.over k):=by
 have c:∀ x,x≠b->((w.setCell ⟨b,9,none⟩ (.bool true)).setCell ⟨b,5,none⟩ (Iv k)).heap[x]?=w.heap[x]?:=fun x a=>by rw[Xd _ _ _ _ a,Xd _ _ _ _ a]
 refine S.reBox (R':=R.over k) Z Z Z (by simp) (fun x a d=>c x d) ⟨Z,Z,Z,Z⟩ (pi:=g.pi) (ci:=g.ci) (vb:=g.vb) ⟨S.inp,S.inpC⟩ S.back ?_;rw[Qh (Qh S.box 9 _) 5 _]
 simp[RM.over]
theorem QfV {w:World}(X:Nat) :
 CallsD prog 110 #[Qfr X] .returning w fun e u' w'=>e=.returned (.tuple #[])/\u'=.returning/\w'=w:=by
 refine callsD_of_wpS func110 Z fun b c a=>?_;apply wpS_seq
 apply wpS_region
 simp[wpOpsS,go_sem,recoverD,a,ntmps110,Exit.thenS]
 rw[show (#[Qfr X]++((Array.replicate 22 undef).setIfInBounds 3 (Value.nilIface)).setIfInBounds 0 (Value.nilIface):Array Value)=#[Qfr X,Value.nilIface,undef,undef,Value.nilIface,undef,undef,undef,undef,undef,undef,undef,undef,undef,undef,undef,undef,undef,undef,undef,undef,undef,undef] from by kernel_rfl]
 refine wpS_of_wp ?_;go_wp2_with fail
 cases b
 simp_all [bodyPostS,results,results110]
theorem Qhd {w:World}(k:Int) (a:Blk w X #[Pv b 0] 62) (S:WAt w b most m R g) :
 CallsD prog 110 #[Qfr X] (.panicking (QdF k)) w fun e u' w' =>
  e=.returned (.tuple #[])/\u'=.panicking [{ v:=.iface 187 (Iv k),recovered:=true }]/\WTo g w w' b most m (R.over k):=by
 have j:=Qb a 0 _ Yz;have n:w.cell? ⟨b,9,none⟩=some (.bool R.done):=Qb S.box 9 _ Yz;have l:w.cell? ⟨b,5,none⟩=some (Iv R.fin):=Qb S.box 5 _ Yz;have p:=Qj S.box 9;have h:=Qj S.box 5;have Z:=Qc (S.endC k);have c:¬ X=b:=fun e=>Q8 a S.box (by decide) e;clear S a;refine callsD_of_wpS func110 Yz fun o i d=>?_;apply wpS_seq
 apply wpS_region
 simp[wpOpsS,go_sem,recoverD,d,ntmps110,Exit.thenS]
 rw[show (#[Qfr X]++((Array.replicate 22 undef).setIfInBounds 3 (Value.iface 187 (Iv k))).setIfInBounds 0 (Value.iface 187 (Iv k)):Array Value)=#[Qfr X,Value.iface 187 (Iv k),undef,undef,Value.iface 187 (Iv k),undef,undef,undef,undef,undef,undef,undef,undef,undef,undef,undef,undef,undef,undef,undef,undef,undef,undef] from by kernel_rfl]
 refine wpS_of_wp ?_;have f:∀ w:World,(Instr.typeAssert (.iface 187 (Iv k)) 20 187 true).run prog w=.ok (.tuple #[Iv k,.bool true]) w:=fun _=>by kernel_rfl
 go_wp2
 exact(show bodyPostS _ _ _ _ _ _ _ _ _ from ⟨Yz,_,Yz,.tuple #[],by simp[results,results110,go_sem],Yz,Yz,Z.out⟩)
theorem wenters_step:Qag 69:=fun _ _=>by kernel_rfl
theorem QeP (S:WAt w b most m R g) (I:ROk m n R) (o:n<=800000) (y:(modFault m).1=0) (c:R.fuel<=most) (a:most<=100000) (q:RM.step m aOp most R=some r) :
 Calls prog 68 #[Pv b 0,.func (.func 69) #[Pv b 0] #[]] w fun e w'=>e=.returned (.tuple #[])/\WGo g w w' b most m r:=by
 have J:∀ (fn:Fn) (first cap:Array Value) (w:World),(Instr.makeFunc fn first cap).run prog w=.ok (.func fn first cap) w:=fun _ _ _ _=>rfl;have s:=wenters_step;unfold Qag at s;have u:=Qc (ZP w (.cells #[Pv b 0] 62));have H:=Qc (Qe w #[Pv b 0] 62);have C:=Qc (S.below u.out);have p:=Qc (S.stepB u.out);have x:=Qc (QiG C.out I o y c a q);have i:=Qc S.lt;clear S I o y c a q;go_enter_defers func68,ntmps68
 go_wp2_with fail
 refine x.out.mono ?_;rintro M E D;have d:¬ g.A w.heap.size:=fun e=>by have:=i.out _ e;omega
 have l:w.heap.size<(w.alloc (.cells #[Pv b 0] 62)).heap.size:=by simp
 rcases D with ⟨rfl,v⟩|⟨N,k,h,rfl,⟨P,G,t,L,O⟩⟩
 ·have Z:=Qc (WGo.then p.out v);clear v x s;go_wp2
  refine leaves_cons (f:=110) (args:=#[Qfr w.heap.size]) (by simp) (by simp[go_sem]) ?_;refine(QfV w.heap.size).mono ?_
  rintro F z Q ⟨rfl,rfl,rfl⟩;exact⟨.tuple #[],by simp[results,results68,go_sem],Yz,Z.out⟩
 ·have j:Blk E w.heap.size #[Pv b 0] 62:=(t.block _ l d).trans H.out;show bodyPostD _ _ _ _ _ _;refine leaves_cons (f:=110) (args:=#[Qfr w.heap.size]) (by simp) (by simp[go_sem]) ?_;refine(Qhd k j G).mono ?_
  rintro F z K ⟨rfl,rfl,B⟩;subst h;exact⟨.tuple #[],by simp[results,results68,go_sem],Yz,WGo.then (p.out.trans t) B.go⟩
theorem Qjy (S:WAt w b most m R g) (I:ROk m n R) (h:n<=800000) (k:(modFault m).1=0) (c:R.fuel<=most) (a:most<=100000) (d:R.done=false) (i:RM.step m aOp most R=some r) :
 Calls prog 34 #[Pv b 0] w fun e w'=>e=.returned (.tuple #[])/\WGo g w w' b most m r:=by
 have l:∀ (fn:Fn) (first cap:Array Value) (w:World),(Instr.makeFunc fn first cap).run prog w=.ok (.func fn first cap) w:=fun _ _ _ _=>rfl;have j:=Qc (QeP S I h k c a i);have o:w.cell? ⟨b,9,none⟩=some (.bool R.done):=Qb S.box 9 _ Yz;rw[d] at o
 clear S I h k c a i d;go_enter func34,ntmps34
 go_wp2_with (go_at_call 68;refine j.out.mono ?_;rintro q p ⟨rfl,f⟩;have Z:=Qc f;clear f j)
 exact Xz (v:=.tuple #[]) (by simp[results,results34,go_sem]) Yz ⟨Yz,Z.out⟩
theorem QgU (S:WAt w b most m R g) (a:R.done=true) :
 Calls prog 34 #[Pv b 0] w fun e w'=>e=.returned (.tuple #[])/\w'=w:=by
 have c:w.cell? ⟨b,9,none⟩=some (.bool R.done):=Qb S.box 9 _ Z;rw[a] at c
 clear S a;go_enter func34,ntmps34
 go_wp2
 exact Xz (v:=.tuple #[]) (by simp[results,results34,go_sem]) Z ⟨Z,Z⟩
theorem Qff (S:WAt w b most m R g):Calls prog 33 #[Pv b 0] w fun e w'=>e=.returned (.bool R.done)/\w'=w:=by
 have a:w.cell? ⟨b,9,none⟩=some (.bool R.done):=Qb S.box 9 _ Z;clear S;generalize R.done=c at *;go_enter func33,ntmps33
 go_wp2
 go_ret;exact⟨Z,Z⟩
end
section
variable {w w' w2:World}{b most n:Nat}{m:List (MFunc 6)}{M M' N:IM}{sc sa:Int}{g g1:MG}{e:Ending}
abbrev Qbw (c a:Int):Value:=.agg #[Iv c,Iv a]
end
def Qcn (w:World) (l:List Int) (e:Ending) (w':World):Prop:=∃ a cap,e=.returned (.slice a l.length cap)/\l.length<=cap/\w'.ownsRow 0 2 1 (.slice a l.length cap) l.length (l.map (Value.int .i64))/\(∀ x,(Value.slice a l.length cap).ownBlock=some x->w.heap.size<=x)/\Below w.heap.size w w'
theorem QjW (h:w.ownsRow 0 2 1 (.slice a l.length cap) l.length (l.map (Value.int .i64))) (b:∀ x∈l,Qna x) (n:∀ x,(Value.slice a l.length cap).ownBlock=some x->O x):intsL.In w O l [.slice a l.length cap]:=by
 refine⟨a,cap,Z,fun i x c=>?_⟩
 have s:=(Zi c).1;rcases h.2 with ⟨e,q⟩|⟨g,u,o,e,_,d,p,t,r,m⟩
 ·omega
 ·rw[Value.slice.injEq] at e
  obtain⟨rfl,-,rfl⟩:=e
  refine⟨g,0,[Iv x],Z,n g Z,XC d,fun j k=>?_,Z,b x (Zm c)⟩
  have k:j<1:=k
  have:j=0:=by omega
  subst this;show w.cell? ⟨g,0+i*1+0,none⟩=_;rw[XK,XL,Nat.add_zero]
  have f:(l.map (Value.int .i64))[i]?=some (Iv x):=by rw[XS,c];rfl
  rw[<-m,XR,Xs (by omega),Array.getElem?_toList] at f
  exact Qb d _ _ f
theorem QcH (h:∀ i,i<l.length->∃ g o,p=some ⟨g,o,none⟩/\w.cell? ⟨g,o+i,none⟩=some (Iv (l.getD i 0))) (hn:l.length<=1000000) :
 Calls prog 48 #[.slice p l.length c] w fun e w'=>Qcn w l e w':=by
 obtain⟨W,hi,E,v,H⟩:=iInfo64
 have q:∀ (w:World) (a:Option Addr) (n c z D:Nat),(binOp .eql 25 (.slice a n c) (.slice none z D)).run prog w=.ok (.bool a.isNone) w:=fun w a n c z D=>Lib.run_eql_slice_nil w _ _ a n c z D iUnder64
 cases p with
 | none =>
   have A:l=[]:=by
    cases l with
    | nil=>rfl
    | cons y L =>
      obtain⟨g,o,e,-⟩:=h 0 (by simp)
      cases e
   subst A;clear h;go_enter func48,ntmps48
   go_wp2
   go_ret;exact⟨none,0,Z,Ze,⟨Z,.inl ⟨Z,Z⟩⟩,fun x I=>by simp[Value.ownBlock] at I,Zr⟩
 | some ad =>
   have N:Hid (∀ (j:Nat) (u:Value),(l.map (Value.int .i64))[j]?=some u->(w.alloc (.cells #[] 2)).cell? (ad.add j)=some u):=by
    intro j u t;rw[XS] at t
    obtain⟨y,J,rfl⟩:=Option.map_eq_some_iff.1 t
    have V:=(Zi J).1;obtain⟨g,o,e,hc⟩:=h j V
    cases e
    rw[Addr.add_lit]
    refine Lib.cell?_alloc_some _ ?_;rw[hc]
    simp[List.getD,J]
   have T:Hid (∀ u∈l.map (Value.int .i64),u.oneCell'=true):=by intro u t;obtain⟨x,_,rfl⟩:=List.mem_map.1 t;rfl
   have S:Hid ((l.map (Value.int .i64)).length=l.length*1):=by show _=_;simp
   have f:=Qc (ZP w (.cells #[] 2));have M:Hid ((w.alloc (.cells #[] 2)).heap.size=w.heap.size+1):=by show _=_;simp
   clear h;generalize m:l.map (Value.int .i64)=L at *;have G:=Qc m;generalize s:l.length=U at *;have C:=Qc s;clear m s;go_enter func48,ntmps48
   go_wp2_with (at_builtin;refine ZO _ Z _ _ 25 Z 2 W (Iv 0) 1 8 iUnder64 hi E v H Z (by decide) _ _ _ Z (World.ownsRow_made w #[] 0 (Xb _) (Xb _) Z) ad U c L Z S.out N.out T.out (by unfold maxLen;omega) (by omega) ?_)
   intro Q K F d P
   have R:Hid (Qcn w l (.returned Q) K):=by
    have b:K.ownsRow 0 2 1 Q l.length (l.map (Value.int .i64)):=by rw[G.out,C.out];simpa using F
    obtain⟨O,B,rfl⟩:=QaZ b
    have r:l.length<=B:=by
     rcases b.2 with ⟨e,e0⟩|⟨g,cp,aa,e,_,hh,X,_⟩
     ·rw[Value.slice.injEq] at e;omega
     ·rw[Value.slice.injEq] at e;omega
    refine⟨O,B,Z,r,b,fun x I=>?_,?_⟩
    ·rcases P x I with e | e
     ·simp[Value.ownBlock] at e;omega
     ·have:=M.out;omega
    ·refine⟨d.os.trans f.out.os,d.tape.trans f.out.tape,d.output.trans f.out.output,Zt f.out.size d.size,fun k hk=>(d.block k (by have:=M.out;omega) (fun e=>by simp[Value.ownBlock] at e;omega)).trans (f.out.block k hk)⟩
   obtain⟨O,B,rfl⟩:=QaZ F
   clear F d P N T S f;go_wp2
   go_ret;exact R.out
theorem Qhi (h:intsL.In w Q l [.slice p l.length c]) (b:l.length<=1000000) :
 Calls prog 48 #[.slice p l.length c] w fun e w'=>Qcn w l e w' :=
 QcH (fun i d=>by obtain⟨g,o,e,-,-,a⟩:=ZH h d;exact⟨g,o,e,a⟩) b
def Qjf (lo:Nat) (l:List Int) (v:Value) (w:World):Prop:=∃ a cap,v=.slice a l.length cap/\l.length<=cap/\w.ownsRow 0 2 1 (.slice a l.length cap) l.length (l.map (Value.int .i64))/\∀ x,(Value.slice a l.length cap).ownBlock=some x->lo<=x
theorem Qjf.below {lo:Nat}{w w':World}(h:Qjf lo l v w) (b:Below w.heap.size w w'):Qjf lo l v w':=by
 obtain⟨a,c,e,f,d,g⟩:=h
 exact⟨a,c,e,f,Q0 d (fun x i=>b.block x (XC (ZQ d i).choose_spec)),g⟩
section
variable {w w' w2:World}{b most n:Nat}{m:List (MFunc 6)}{M M' N:IM}{sc sa:Int}{g g1:MG}{e:Ending}
theorem Qjq {w:World}{a0 e g f:Value}(h:w.heap[R]?=some (.cells #[a0,e,g,f] 44 (0,0))) (a c d b:Value) :
 ((((w.setCell ⟨R,0,none⟩ a).setCell ⟨R,1,none⟩ c).setCell ⟨R,2,none⟩ d).setCell ⟨R,3,none⟩ b).heap[R]?=some (.cells #[a,c,d,b] 44 (0,0)):=by
 have:=Qh (Qh (Qh (Qh h 0 a) 1 c) 2 d) 3 b
 simpa using this
end
end Go.Proofs.YtjhdpajpibdnaafGreat
