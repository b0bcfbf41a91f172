import Derived.Test.YtjhdpajpibdnaafGreatP2
import Derived.Defers
import Derived.Recover
set_option maxHeartbeats 16000000
set_option maxRecDepth 100000
namespace Go.Proofs.YtjhdpajpibdnaafGreat
open Go.ChangeShapes Go.WideShapes Go.ChangeAt Go.RowKit _root_.Go.Proofs.Tryz
set_option linter.unusedSimpArgs false
set_option linter.unusedVariables false
variable {w w' w6 w1 w2:World}{n b c k m rc ac X j B i cm g N d f fi cap bp q R pages id bi cc funcs s ci rl al ca ri vl most cR cA G:Nat}{O Q O':Nat→Prop}{l xs regs inp:List Int}{p a rg ag pm pi pa pR pA ra aa:Option Addr}{t e:TypeId}{v:Value}{P:Program}{L bs:List Bool}{x ya xc xk fr xa xb xn yb:Int}{ds cs:List Value}{ops:Array Oper}
structure ROk (m:List (MFunc 6)) (n:Nat) (R:RM):Prop where
 est:R.e.Ok
 fr:∀ d∈R.top::R.rest,d.v.length<=n+8/\∃ fn bl,m[d.f]?=some fn/\fn.blocks[d.b]?=some bl/\d.i<=bl.code.length
 inp:R.inp.length<=1000
 out:R.out.length<=2000/\R.back.length<=8
 deep:R.rest.length<=39
def OkW (m:List (MFunc 6)) (n:Nat) (o:Option RM):Prop:=∀ N,o=some N->ROk m n N
section
variable {m:List (MFunc 6)}{n n':Nat}{R R':RM}{x:Qt}{fn:MFunc 6}{bl:MBlock 6}{op:Int->Int->Int->Option Int}
theorem OkW.no:OkW m n none:=fun N h=>by cases h
theorem OkW.some (I:ROk m n R):OkW m n (some R):=fun N h=>by cases h;exact I
theorem OkW.ite {c:Prop}[Decidable c] {a b:Option RM}(e:c->OkW m n a) (d:¬ c->OkW m n b):OkW m n (if c then a else b):=by
 by_cases h:c
 ·rw[Xs h];exact e h
 ·rw[Xr h];exact d h
theorem ROk.mono (I:ROk m n R) (h:n<=n'):ROk m n' R:=⟨I.est,fun d a=>⟨by have:=(I.fr d a).1;omega,(I.fr d a).2⟩,I.inp,I.out,I.deep⟩
theorem ROk.over (I:ROk m n R) (k:Int):ROk m n (R.over k):=⟨I.est,I.fr,I.inp,I.out,I.deep⟩
def Now (m:List (MFunc 6)) (R:RM):Prop:=∃ fn bl,m[R.top.f]?=some fn/\fn.blocks[R.top.b]?=some bl/\R.top.i<bl.code.length
theorem ROk.on (I:ROk m n R) (H:Now m R)(j:l.length<=8):ROk m (n+8) (R.on l):=by
 refine⟨I.est,fun d a=>?_,I.inp,I.out,I.deep⟩
 rcases List.mem_cons.1 a with rfl | a
 ·obtain⟨g,-⟩:=I.fr R.top (by simp)
  obtain⟨i,f,e,h,c⟩:=H
  exact⟨by show (R.top.v++l).length<=_;rw[List.length_append];omega,i,f,e,h,c⟩
 ·obtain⟨g,b⟩:=I.fr d (List.mem_cons_of_mem _ a)
  exact⟨by omega,b⟩
theorem Qai {v:List Int}:∀ {l xs:List Int},Qaz v l=some xs->xs.length=l.length
 | [],xs,h=>by simp[Qaz] at h;subst h;simp
 | k::l,xs,h=>by
   simp only[Qaz] at h
   cases hk:iAt v k with
   | none=>rw[hk] at h;cases h
   | some y =>
     rw[hk] at h
     simp only at h
     cases hl:Qaz v l with
     | none=>rw[hl] at h;cases h
     | some ys =>
       rw[hl] at h
       simp at h
       subst h;simp[Qai hl]
theorem last_of :l=[]\/l.getLastD 0∈l:=by
 rcases List.eq_nil_or_concat l with a | ⟨b,k,a⟩
 ·exact .inl a
 ·right;rw[a];simp
theorem QhT {e:Est}(h:e.Ok) (k n:Int):0<=e.getAt k n/\e.getAt k n<=1040:=by
 have a:=h.ok
 have f:e.p.nextK<64/\-1<=e.p.nextK:=by
  unfold PSt.nextK
  cases hg:e.p.given.getLast? with
  | none =>
    simp only
    have:=a.high
    have:=a.most
    have:=a.low
    split<;>omega
  | some y =>
    have:=a.mem y (List.mem_of_getLast? hg)
    have:=a.high
    have:=a.most
    simp only
    omega
 unfold Est.getAt;split
 ·rename_i b
  unfold Est.getCode at b;split at b
  ·split at b
   ·omega
   ·cases hr:e.reg k.toNat with
    | none=>simp only;omega
    | some r =>
      rw[hr] at b
      simp only at b |-
      split at b
      ·omega
      ·rename_i d
       split
       ·rename_i c
        have:¬ e.p.nextK<0:=fun g=>d ⟨c,g⟩
        omega
       ·have j:=h.used _ _ hr
        have i:0<=r.pages.getLastD 0/\r.pages.getLastD 0<64:=by
         rcases last_of (l:=r.pages) with c | c
         ·rw[c];simp
         ·have:=h.low (k:=k.toNat) (x:=r.pages.getLastD 0) (by rw[Est.at_some hr];exact c)
          have:=a.most
          omega
        omega
  ·omega
 ·exact⟨by decide,by decide⟩
theorem Ql5 {e:Est}{k n:Int}(h:e.getCode k n≠0):e.got k n=e:=by unfold Est.got;rw[Xr h]
theorem Qe3 (I:ROk m n R) (H:Now m R){h size:Int}:OkW m (n+8) (some (R.thing h size l)):=by
 refine OkW.some ?_;unfold RM.thing;split
 ·have J:ROk m n { R with e:=(R.e.got h size).withP ((R.e.got h size).p.puts (R.e.getAt h size) l) }:=⟨Est.Ok.puts l _ (I.est.got h size),I.fr,I.inp,I.out,I.deep⟩;exact J.on H (by simp)
 ·exact(I.over 6).mono (by omega)
theorem QkG (I:ROk m n R) (H:Now m R):OkW m (n+8) (R.part x):=by
 have d:∀ {v:Int},OkW m (n+8) (some (R.on [v])):=OkW.some (I.on H (by simp));have e:∀ {k v:Int},OkW m (n+8) (some ((R.stored k v).on [])):=fun {k v}=>OkW.some (ROk.on (R:=R.stored k v) ⟨I.est.store k v,I.fr,I.inp,I.out,I.deep⟩ H (by simp));have f:∀ k,OkW m (n+8) (some (R.over k)):=fun k=>OkW.some ((I.over k).mono (by omega));unfold RM.part
 cases ha:iAt R.top.v x.a with
 | none=>exact OkW.no
 | some a =>
   refine OkW.ite (fun _=>d) fun _=>OkW.ite (fun _=>?_) fun _=>OkW.ite (fun _=>?_) fun _=>OkW.ite (fun _=>?_) fun _=>OkW.ite (fun _=>d) fun _=>OkW.some (I.on H (by simp))
   ·cases hb:iAt R.top.v x.b with
    | none=>exact OkW.no
    | some y=>exact e
   ·cases hb:iAt R.top.v x.b with
    | none=>exact OkW.no
    | some y=>exact OkW.ite (fun _=>d) (fun _=>f 2)
   ·cases hb:iAt R.top.v x.b with
    | none=>exact OkW.no
    | some y =>
      cases hc:iAt R.top.v x.c with
      | none=>exact OkW.no
      | some z=>exact OkW.ite (fun _=>e) (fun _=>f 2)
theorem Qjl (I:ROk m n R) (H:Now m R) (w:(modFault m).1=0) (u:x.form m.length=0):OkW m (n+8) (RM.ins op R x):=by
 obtain⟨-,D,s⟩:=QcD u
 have i:∀ {v:Int},OkW m (n+8) (some (R.on [v])):=OkW.some (I.on H (by simp));have g:∀ k,OkW m (n+8) (some (R.over k)):=fun k=>OkW.some ((I.over k).mono (by omega));unfold RM.ins;refine OkW.ite (fun _=>i) fun _=>OkW.ite (fun _=>?_) fun _=>OkW.ite (fun _=>OkW.ite (fun _=>OkW.some ?_) (fun _=>g 6)) fun _=>OkW.ite (fun _=>?_) fun _=>OkW.ite (fun _=>?_) fun _=>OkW.ite (fun _=>?_) fun _=>OkW.ite (fun _=>?_) fun _=>OkW.ite (fun _=>?_) fun _=>OkW.ite (fun e=>OkW.ite (fun B=>?_) (fun _=>g 5)) (fun _=>QkG I H)
 ·cases ha:iAt R.top.v x.a with
  | none=>exact OkW.no
  | some a =>
    cases q:iAt R.top.v x.b with
    | none=>exact OkW.no
    | some b =>
      simp only
      cases ho:op x.k a b with
      | none=>exact g 1
      | some c=>exact i
 ·exact ROk.on (R:={ R with e:=R.e.opened }) ⟨I.est.opened,I.fr,I.inp,I.out,I.deep⟩ H (by simp)
 ·cases ha:iAt R.top.v x.a with
  | none=>exact OkW.no
  | some a=>exact OkW.some (ROk.on (R:={ R with e:=R.e.shut a }) ⟨I.est.shut a,I.fr,I.inp,I.out,I.deep⟩ H (by simp))
 ·cases ha:iAt R.top.v x.a with
  | none=>exact OkW.no
  | some a=>cases hv:Qaz R.top.v x.args with
    | none=>exact OkW.no
    | some l=>exact Qe3 I H
 ·cases ha:iAt R.top.v x.a with
  | none=>exact OkW.no
  | some a=>cases q:iAt R.top.v x.b with
    | none=>exact OkW.no
    | some k=>exact OkW.ite (fun _=>Qe3 I H) (fun _=>g 3)
 ·cases r:R.inp with
  | nil=>exact g 4
  | cons k l =>
    have t:=I.inp;rw[r] at t
    exact OkW.some (ROk.on (R:={ R with inp:=l }) ⟨I.est,I.fr,by simp at t;show l.length<=1000;omega,I.out,I.deep⟩ H (by simp))
 ·cases ha:iAt R.top.v x.a with
  | none=>exact OkW.no
  | some a=>exact OkW.ite (fun h=>OkW.some (ROk.on (R:={ R with out:=R.out++[a] }) ⟨I.est,I.fr,I.inp,⟨by show (R.out++[a]).length<=2000;simp;omega,I.out.2⟩,I.deep⟩ H (by simp))) (fun _=>g 8)
 ·cases hv:Qaz R.top.v x.args with
  | none=>exact OkW.no
  | some l =>
    refine OkW.some ?_;obtain⟨E,C,-,F⟩:=s e
    obtain⟨f,j⟩:∃ f,m[x.k.toNat]?=some f:=⟨_,Zg (by omega)⟩
    obtain⟨z,p,-⟩:=Z4 w j
    have J:=Qai hv;refine⟨I.est,fun d o=>?_,I.inp,I.out,by show (_::R.rest).length<=39;simp;omega⟩
    simp only[List.mem_cons] at o
    rcases o with rfl | rfl | o
    ·exact⟨by show l.length<=_;omega,f,z,j,p,Xb _⟩
    ·obtain⟨G,-⟩:=I.fr R.top (by simp)
     obtain⟨y,A,j,q,r⟩:=H
     exact⟨by show R.top.v.length<=_;omega,y,A,j,q,r⟩
    ·have h:=I.fr d (List.mem_cons_of_mem _ o);exact⟨by omega,h.2⟩
theorem Qli (I:ROk m n R) (c:m[R.top.f]?=some fn){t:MTo}(h:t.args.length<=8/\0<=t.block/\t.block<(fn.blocks.length:Int)):OkW m n (R.to t):=by
 unfold RM.to
 cases hv:Qaz R.top.v t.args with
 | none=>exact OkW.no
 | some l =>
   obtain⟨b,e⟩:∃ b,fn.blocks[t.block.toNat]?=some b:=⟨_,Zg (by omega)⟩
   have g:=Qai hv;refine OkW.some ⟨I.est,fun d a=>?_,I.inp,I.out,I.deep⟩;rcases List.mem_cons.1 a with rfl | a
   ·exact⟨by show l.length<=_;omega,fn,b,c,e,Xb _⟩
   ·exact I.fr d (List.mem_cons_of_mem _ a)
theorem Qkk (I:ROk m n R) (o:m[R.top.f]?=some fn){e:ZA}(t:e.form fn.blocks.length=0):OkW m (n+8) (R.endd e):=by
 obtain⟨w,z,s,i⟩:=Qfg t
 have Y:e.op≠3->OkW m (n+8) (R.to e.yes):=fun q N h=>(Qli I o (by have:=Qd7 (s q);omega) N h).mono (by omega);unfold RM.endd;refine OkW.ite (fun g=>?_) fun g=>OkW.ite (fun p=>?_) fun _=>Y g
 ·cases hv:Qaz R.top.v e.args with
  | none=>exact OkW.no
  | some l =>
    have y:=Qai hv
    cases hr:R.rest with
    | nil =>
      simp only
      have b:=I.fr;rw[hr] at b
      exact OkW.some (ROk.mono (n:=n) ⟨I.est,fun d r=>b d r,I.inp,⟨I.out.1,by show l.length<=8;omega⟩,by have:=I.deep;rw[hr] at this;exact this⟩ (by omega))
    | cons d rest =>
      simp only
      refine OkW.some ⟨I.est,fun c j=>?_,I.inp,I.out,by have:=I.deep;rw[hr] at this;simp at this;show rest.length<=39;omega⟩;rcases List.mem_cons.1 j with rfl | j
      ·obtain⟨x,u⟩:=I.fr d (by rw[hr];simp)
       exact⟨by show (d.v++l).length<=_;rw[List.length_append];omega,u⟩
      ·have h:=I.fr c (by rw[hr];simp[j]);exact⟨by omega,h.2⟩
 ·cases iAt R.top.v e.a with
  | none=>exact OkW.no
  | some k=>exact OkW.ite (fun _=>fun N h=>(Qli I o (by have:=Qd7 (i p);omega) N h).mono (by omega)) (fun _=>Y g)
theorem Qk7 (I:ROk m n R) (d:(modFault m).1=0):OkW m (n+8) (RM.step m op most R):=by
 unfold RM.step;refine OkW.ite (fun _=>OkW.some ((I.over 7).mono (by omega))) fun _=>?_;obtain⟨-,f,b,a,c,h⟩:=I.fr R.top (by simp)
 rw[a]
 simp only
 rw[c]
 simp only
 have g:=(Zn d).2 f (Zm a);have e:=g.blocks b (Zm c);have J:ROk m n { R with fuel:=R.fuel+1 }:=⟨I.est,I.fr,I.inp,I.out,I.deep⟩
 cases hx:b.code[R.top.i]? with
 | none=>exact Qkk J a e.fin
 | some x=>exact Qjl J ⟨f,b,a,c,(Zi hx).1⟩ d (e.code x (Zm hx))
theorem QcM (c:(modFault m).1=0)(hi:inp.length<=1000)(i:pages<=64):ROk m 0 (RM.start inp pages):=by
 have g:=(Zn c).1.1;obtain⟨b,f⟩:∃ b,m[0]?=some b:=⟨_,Zg g⟩
 obtain⟨h,a,-⟩:=Z4 c f
 refine⟨Est.ok_new pages i,fun d e=>?_,hi,⟨by simp[RM.start],by simp[RM.start]⟩,by simp[RM.start]⟩
 simp only[RM.start,List.mem_cons,List.not_mem_nil,or_false] at e
 subst e;exact⟨by simp,b,h,f,a,Xb _⟩
theorem QcR (b:(modFault m).1=0)(I:ROk m 0 R):∀ (k:Nat){N:RM},RM.steps m op most k R=some N->ROk m (8*k) N:=by
 intro k
 have a:∀ (k:Nat) (n:Nat) (Q N:RM),ROk m n Q->RM.steps m op most k Q=some N->ROk m (n+8*k) N:=by
  intro k
  induction k with
  | zero=>intro n Q N J h;simp only[RM.steps] at h;cases h;exact J
  | succ k ih =>
    intro n Q N J h;simp only[RM.steps] at h
    split at h
    ·cases h;exact J.mono (by omega)
    ·cases hs:RM.step m op most Q with
     | none=>rw[hs] at h;cases h
     | some Q' =>
       rw[hs] at h
       exact(ih (n+8) Q' N (Qk7 J b Q' hs) h).mono (by omega)
 intro N h
 have:=a k 0 R N I h
 rwa [XK] at this
end
theorem Xz:type_of% @bodyPost_end:=@bodyPost_end
abbrev QdR (c:Int):List PanicEntry:=[{ v:=.iface 187 (Iv c),recovered:=false }]
theorem QaF (w:World) (c:Int):Calls prog 111 #[.bool true,Iv c] w fun e w'=>e=.returned (.tuple #[])/\w'=w:=by
 go_enter func111,ntmps111
 go_wp2
 exact Xz (v:=.tuple #[]) (by simp[results,results111,go_sem]) Z ⟨Z,Z⟩
theorem Qab (w:World) (c:Int):Calls prog 111 #[.bool false,Iv c] w fun e w'=>e=.panicked (QdR c)/\w'=w:=by
 go_enter func111,ntmps111
 go_wp2
 exact⟨Z,Z,Z⟩
def RM.push (R:RM) (l:List Int):RM:={ R with top:={ R.top with v:=R.top.v++l } }
theorem Qna (n:Nat) (f:n<=1099511627776) (w:World):(Instr.makeSlice 25 (Iv (n:Int)) (Iv (n:Int))).run prog w=.ok (.slice (some ⟨w.heap.size,0,none⟩) n n) (w.alloc (.cells (madeCells (#[Iv 0]:Array Value) n) 2)):=by
 obtain⟨e,d,a,c,b⟩:=iInfo64
 exact run_make_row (P:=prog) 25 2 e (Iv 0) iUnder64 d a c Z .i64 .i64 n (by rw[b];omega) (by omega) w
theorem QbE.of {w:World}(d:l.length=n) (g:n<=1099511627776) (h:w.rowIs k 2 n (fun i=>Iv (l.getD i 0))):QbE w (.slice (some ⟨k,0,none⟩) n n) l:=by
 subst d;obtain⟨c,f,e,b⟩:=h
 refine⟨by simp,.inr ⟨k,l.length,c,Z,Xb _,f,Ze,by unfold maxLen;omega,by simpa using e,?_⟩⟩
 refine List.ext_getElem? (fun i=>?_);rw[XR,Array.getElem?_toList,XS,XL]
 by_cases a:i<l.length
 ·rw[Xs a,b i a,Zg a];simp[List.getD,a]
 ·rw[Xr a,Xk (by omega)];rfl
theorem QbE.cell {w:World}{v:Value}(h:QbE w v l):∃ a c,v=.slice a l.length c/\∀ i,i<l.length->∃ k,a=some ⟨k,0,none⟩/\v.ownBlock=some k/\w.cell? ⟨k,i,none⟩=some (Iv (l.getD i 0)):=by
 rcases h.2 with ⟨e,m⟩|⟨k,d,j,e,_,g,p,o,q,n⟩
 ·exact⟨none,0,by rw[e,m],fun i b=>by omega⟩
 ·refine⟨_,d,e,fun i b=>⟨k,Z,by rw[e];rfl,?_⟩⟩
  have f:(l.map (Value.int .i64))[i]?=some (Iv (l.getD i 0)):=by rw[XS,Zg b];simp[List.getD,b]
  rw[<-n,XR,Xs (by omega),Array.getElem?_toList] at f
  exact Qb g _ _ f
theorem Qlc {v:List Int}{a:Int}(h:iAt v a=some x):∃ j:Nat,a=j/\j<v.length/\x=v.getD j 0:=by
 unfold iAt at h;split at h
 ·cases h
 ·rename_i b
  refine⟨a.toNat,by omega,(Zi h).1,?_⟩
  simp[List.getD,h]
theorem QhH {v:List Int}:∀ {l xs:List Int},Qaz v l=some xs->∀ (q:Nat) (a:Int),l[q]?=some a->iAt v a=some (xs.getD q 0)/\q<xs.length
 | [],xs,h,q,a,ha=>by simp at ha
 | k::l,xs,h,q,a,ha=>by
   simp only[Qaz] at h
   cases hk:iAt v k with
   | none=>rw[hk] at h;cases h
   | some y =>
     rw[hk] at h
     simp only at h
     cases hl:Qaz v l with
     | none=>rw[hl] at h;cases h
     | some ys =>
       rw[hl] at h
       simp at h
       subst h
       cases q with
       | zero=>simp at ha;subst ha;exact⟨by simpa using hk,by simp⟩
       | succ q =>
         obtain⟨b,c⟩:=QhH hl q a (by simpa using ha)
         exact⟨by simpa[List.getD] using b,by simp;omega⟩
def Qm4 (w:World) (xs:List Int) (n:Nat) (e:Ending) (w':World):Prop:=∃ k,e=.returned (.slice (some ⟨k,0,none⟩) n n)/\w.heap.size<=k/\QbE w' (.slice (some ⟨k,0,none⟩) n n) xs/\Below w.heap.size w w'
section
variable {w:World}{c:Nat}{fr:RFr}{v:Value}
theorem Qeb (F:WFr w c fr v) (hl:fr.v.length<=1000000){N:Nat}(E:l.length=n) (hb:n<=1000000) (W:intsL.In w Q l [.slice p n N]) (r:Qaz fr.v l=some xs) :
 Calls prog 167 #[Pv c 0,.slice p n N] w fun e w'=>Qm4 w xs n e w':=by
 have G:=Qna n (by omega) w;have C:=Qc (World.rowIs_made w (Iv 0) n 2);have M:=Qc (ZP w (.cells (madeCells (#[Iv 0]:Array Value) n) 2));have A:=Qc W;have R:=Qc E;have B:=Qc r;have s:Hid (xs.length=n):=(Qai r).trans E;obtain⟨va,vc,ev,U⟩:=F.2.cell
 have t:w.cell? ⟨c,3,none⟩=some v:=Qb F.1 3 _ Z;rw[ev] at t
 have J:=Qc U;have Q3:=Qc t;clear W E F r U t;go_enter func167,ntmps167
 go_upto_region 2 with fail
 generalize w.alloc (.cells (madeCells (#[Iv 0]:Array Value) n) 2)=w1 at C M |-;clear G;obtain⟨g,V⟩:∃ g,g=w.heap.size:=⟨_,Z⟩
 have T:Hid (w.heap.size<=g):=by show _<=_;omega
 rw[<-V] at C |-
 clear V;go_wp2_with fail
 go_loopw [13] (fun i wr=>∃ q:Nat,q<=n/\i=Iv q/\wr.rowIs g 2 n (fun i=>if i<q then Iv (xs.getD i 0) else Iv 0)/\Below w.heap.size w wr) (fun i _=>n - (intOf i).toNat)
 case atStart=>exact⟨0,Xb _,Z,C.out.congr (fun i _=>by rw[Xr (by omega)]),M.out⟩
 case round =>
  obtain⟨q,hq,rfl,K,L⟩:=hrel
  have o:=Qc K;have d:=Qc L;clear K L;by_cases b:q<n
  ·have S:(q:Int)<n:=by omega
   obtain⟨a,H⟩:∃ a,l[q]?=some a:=⟨_,Zg (by rw[R.out];exact b)⟩
   have m:q<l.length:=by rw[R.out];exact b
   obtain⟨f,z⟩:=QhH B.out q a H
   obtain⟨j,rfl,X,h⟩:=Qlc f
   obtain⟨g1,o1,rfl,-,y,I⟩:=ZI A.out m
   rw[show l.getD q 0=(j:Int) by rw[List.getD_eq_getElem?_getD,H];rfl] at I
   have I:=Qk I d.out;obtain⟨k,rfl,-,u⟩:=J.out j X
   rw[<-h] at u
   have u:=Qk u d.out;have c3:=Qk Q3.out d.out;have aa:(j:Int)<fr.v.length:=by omega
   have p0:=o.out.cell b;rw[Xr (by omega)] at p0
   have f0:=o.out.frozen q
   have PR:Hid ((wr.setCell ⟨g,q,none⟩ (Iv (xs.getD q 0))).rowIs g 2 n (fun i=>if i<q+1 then Iv (xs.getD i 0) else Iv 0)):=(o.out.set q (Iv (xs.getD q 0))).congr (fun i P=>by
    by_cases e:i=q
    ·subst e;rw[Xs Z,Xs (by omega)]
    ·rw[Xr e]
     by_cases O:i<q
     ·rw[Xs O,Xs (by omega)]
     ·rw[Xr O,Xr (by omega)])
   have PB:Hid (Below w.heap.size w (wr.setCell ⟨g,q,none⟩ (Iv (xs.getD q 0)))):=d.out.setCell (p:=⟨g,q,none⟩) T.out _;clear m y H f z h;generalize xs.getD q 0=xq at *;generalize fr.v.length=vl at *;clear o d J A B;go_wp2
   go_roundw
   case rel=>exact⟨q+1,by omega,by go_num,PR.out,PB.out⟩
   case measure=>simp[intOf];omega
  ·have D:q=n:=by omega
   subst D;have x:=Qc (QbE.of s.out (by omega) (o.out.congr (fun i P=>by rw[Xs P])));clear J A B;go_wp2
   go_ret;exact⟨g,Z,T.out,x.out,d.out⟩
end
section
variable {w w' w2:World}{b most:Nat}{m:List (MFunc 6)}{R R':RM}{g g1:WG}{c:Nat}{fr:RFr}{v:Value}
theorem WAt.pushed (S:WAt w b most m R g){v9:Value}{w9:World}(u:w9.ownsRow 0 2 1 v9 (R.top.v.length+l.length) (R.top.v.map (Value.int .i64)++l.map (Value.int .i64))) (a:w.grownBy w9 g.t.v.ownBlock) (q:∀ k,v9.ownBlock=some k->g.t.v.ownBlock=some k\/k=w.heap.size) :
 WTo g w (w9.setCell ⟨g.t.c,3,none⟩ v9) b most m (R.push l):=by
 obtain⟨⟨F,p,r⟩,-⟩:=S.frs
 have n:=XC F.1;have i:∀ x,g.t.v.ownBlock=some x->x≠g.t.c:=fun x o e=>by have:=r x o;rw[e,p] at this;omega
 have j:w9.heap[g.t.c]?=_:=(a.block g.t.c n (fun e=>i _ e.symm Z)).trans F.1
 have f:∀ k,v9.ownBlock=some k->k≠g.t.c:=fun k d e=>by
  rcases q k d with h | h
  ·exact i k h e
  ·omega
 refine S.setTop a.os a.tape a.output (by simpa using a.size) (fun k d s p=>?_) ⟨?_,?_⟩ (fun k d=>(q k d).imp id (fun e=>by omega))
 ·rw[Xd _ _ _ _ s]
  exact a.block k d (fun e=>p e.symm)
 ·have:=Qh j 3 v9
  simpa using this
 ·show World.ownsRow _ 0 _ 1 v9 (R.top.v++l).length ((R.top.v++l).map (Value.int .i64));rw[List.length_append,List.map_append]
  exact QY u (fun x o=>Xd _ _ _ _ (f x o))
theorem Qb5 (S:WAt w b most m R g){z:Nat}{a:Addr}(K:l.length=n) (d:∀ (j:Nat) (u:Value),(l.map (Value.int .i64))[j]?=some u->w.cell? (a.add j)=some u) (M:R.top.v.length+n<=1000000) :
 Calls prog 169 #[Pv g.t.c 0,.slice (some a) n z] w fun e w'=>e=.returned (.tuple #[])/\WTo g w w' b most m (R.push l):=by
 obtain⟨E,G,p,y,o⟩:=iInfo64
 subst K;obtain⟨⟨F,C,D⟩,-⟩:=S.frs
 obtain⟨N,O,J⟩:=QaR F.2
 have B:=Qb F.1 3 _ Z;have h:Hid (g.t.v.ownBlock≠some g.t.c):=fun e=>by have:=D _ e;rw[C] at this;omega
 have k:=Qc F.2;have i:=Qc F.1;have H:=Qc d;have r:=Qc (fun v9 w9=>S.pushed (l:=l) (v9:=v9) (w9:=w9));clear S F d C D;go_enter func169,ntmps169
 unfold QbE at k;rw[J] at B k r i h
 go_wp2_with (at_builtin;refine ZO _ Z _ _ 25 Z 2 E (Iv 0) 1 8 iUnder64 G p y o Z (by decide) _ _ _ Z k.out a l.length z (l.map (Value.int .i64)) Z (by simp) H.out (by intro u I;obtain⟨x,_,rfl⟩:=List.mem_map.1 I;rfl) (by unfold maxLen;omega) (by omega) ?_)
 intro v9 w9 s q A;have R:=Qc (r.out v9 w9 s q A);have f:=(q.block g.t.c (XC i.out) (fun e=>h.out e.symm)).trans i.out;have L:=Qb f 3 _ Z;have T:=Qj f 3;obtain⟨P,Q,rfl⟩:=QaR s
 clear s q A r f i k B;go_wp2
 exact Xz (v:=.tuple #[]) (by simp[results,results169,go_sem]) Z ⟨Z,R.out⟩
theorem Qmf (w:World) (n:Int):∀ (j:Nat) (u:Value),([n].map (Value.int .i64))[j]?=some u->(w.alloc (.cells #[Iv n] 2)).cell? ((⟨w.heap.size,0,none⟩:Addr).add j)=some u:=QmL w [Iv n] 2
theorem Qcb (S:WAt w b most m R g) (n:Int) (d:R.top.v.length+1<=1000000) :
 Calls prog 169 #[Pv g.t.c 0,.slice (some ⟨w.heap.size,0,none⟩) 1 1] (w.alloc (.cells #[Iv n] 2)) fun e w'=>e=.returned (.tuple #[])/\WTo g w w' b most m (R.push [n]):=by
 have a:=ZP w (.cells #[Iv n] 2);refine(Qb5 (S.below a) (l:=[n]) Z (Qmf w n) d).mono ?_
 rintro e w' ⟨rfl,h⟩;exact⟨Z,WTo.then (S.stepB a) Z Z h⟩
def QmQ (w:World) (fr:RFr) (e:Ending) (w':World):Prop:=∃ k x n,e=.returned (Pv k 0)/\w.heap.size<=k/\w.heap.size<=x/\WFr w' k fr (.slice (some ⟨x,0,none⟩) n n)/\Below w.heap.size w w'
theorem QdU (F:WFr w c fr v) (r:fr.v.length<=1000000){j:Nat}(d:l.length=n) (m:n<=1000000) (o:intsL.In w Q l [.slice p n j]) (a:Qaz fr.v l=some xs) (h g:Nat) :
 Calls prog 216 #[Pv c 0,Iv h,Iv g,.slice p n j] w fun e w'=>QmQ w ⟨h,g,0,xs⟩ e w':=by
 have C:=Qc (Qeb F r d m o a);have s:Hid (xs.length=n):=(Qai a).trans d;clear F d m o a;go_enter func216,ntmps216
 go_wp2_with (go_at_call 167;refine C.out.mono ?_;rintro t i ⟨k,rfl,q,f,b⟩)
 go_ret;exact⟨i.heap.size,k,n,Z,b.size,q,⟨Qe _ _ _,QY f (fun x a=>Below.heap_alloc _ _ _ (QbE.lt f a))⟩,b.trans ((ZP i _).mono b.size)⟩
theorem WAt.callsForm (S:WAt w b most m R g):∃ gc cap,g.vc=.slice (some ⟨gc,0,none⟩) (R.rest.length+1) cap/\R.rest.length+1<=cap/\w.cell? ⟨gc,R.rest.length,none⟩=some (Pv g.t.c 0):=by
 rcases S.calls.2 with ⟨_,l⟩|⟨gc,cap,f,e,_,d,h,k,n,i⟩
 ·omega
 ·refine⟨gc,cap,e,h,?_⟩
  have j:=S.rows
  have a:(Qaw (g.t::g.fs))[R.rest.length]?=some (Pv g.t.c 0):=by
   simp[Qaw,<-j]
  rw[<-i,XR,Xs (by omega),Array.getElem?_toList] at a
  exact Qb d _ _ a
theorem QgD (S:WAt w b most m R g) (k:R.rest.length<=1000) :
 Calls prog 112 #[Pv b 0] w fun e w'=>e=.returned (Pv g.t.c 0)/\Below w.heap.size w w':=by
 obtain⟨j,i,d,a,l⟩:=S.callsForm
 have h:w.cell? ⟨b,4,none⟩=some g.vc:=Qb S.box 4 _ Z;rw[d] at h
 clear d S;generalize R.rest.length=n at *;have o:(↑(n+1):Int) - 1=n:=by omega
 have f:(n:Int)<(n:Int)+1:=by omega
 go_enter func112,ntmps112
 go_upto_region 1 with fail
 go_quiet (fail)
 go_wp2
 go_ret;exact⟨Z,Qag Zr _⟩
end
theorem Zw.cellAt {e:Est}{L g:Nat->Nat}(h:Zw w b O e L bp g) (k:Nat) (a:k<16):w.cell? ⟨b,1+k,none⟩=some (QaS (e.reg k) (g k)):=by
 have:=h.row.cell (i:=1+k) (by omega)
 rw[this]
 simp[Qmc]
theorem Zw.cell0 {e:Est}{L g:Nat->Nat}(h:Zw w b O e L bp g):w.cell? ⟨b,0,none⟩=some (Pv bp 0):=by
 have:=h.row.cell (i:=0) (by omega)
 rw[this];rfl
theorem Qie (w:World) (b a:Nat) (O:Nat->Prop) (e:Est) (k:Int) (h:QV w b a O e) :
 Calls prog 217 #[Pv b 0,Iv k] w fun e' w'=>e'=.returned (.bool (e.has k))/\w'=w:=by
 obtain⟨L,g,h⟩:=h
 by_cases d:0<=k
 ·by_cases f:k<16
  ·obtain⟨j,rfl⟩:=Xc d
   have c:=h.cellAt j (by omega)
   cases hr:e.reg j with
   | none =>
     rw[hr] at c
     have E:Hid (e.has j=false):=Est.has_none hr;simp only[QaS] at c
     clear h hr;go_enter func217,ntmps217
     go_wp2
     go_ret;exact⟨by rw[E.out];rfl,Z⟩
   | some r =>
     rw[hr] at c
     have E:Hid (e.has j=true):=Est.has_of (by omega) hr;simp only[QaS] at c
     clear h hr;go_enter func217,ntmps217
     go_wp2
     go_ret;exact⟨by rw[E.out];rfl,Z⟩
  ·have E:Hid (e.has k=false):=Est.has_out (by omega);clear h;go_enter func217,ntmps217
   go_wp2
   go_ret;exact⟨by rw[E.out];rfl,Z⟩
 ·have E:Hid (e.has k=false):=Est.has_out (by omega);clear h;go_enter func217,ntmps217
  go_wp2
  go_ret;exact⟨by rw[E.out];rfl,Z⟩
def Qbg (e:Est) (g:Nat->Nat):List Value:=(List.range 16).map fun k=>QaS (e.reg k) (g k)
theorem Zw.range {e:Est}{L g:Nat->Nat}(h:Zw w b O e L bp g):w.rangeAt b 1 (Qbg e g):=by
 intro j v a
 have c:j<16:=by
  have:=(Zi a).1
  simpa[Qbg] using this
 rw[h.cellAt j c,<-a]
 simp[Qbg,c]
theorem Qdy (w:World) (e:Est) (g:Nat->Nat) (k:Nat) (a:k<16) :
 (Instr.index 71 (.agg (Qbg e g).toArray) (Iv k)).run prog w=.ok (QaS (e.reg k) (g k)) w:=by
 have c:(Qbg e g)[k]?=some (QaS (e.reg k) (g k)):=by simp[Qbg,a]
 have b:(sizeOf 70).run prog w=.ok 1 w:=by kernel_rfl
 simp[Instr.index,run_underlying underlying71,asIntOf,b,part,a,c]
theorem QmP (w:World) (b j:Nat) (O:Nat->Prop) (e:Est) (h:QV w b j O e) :
 Calls prog 36 #[Pv b 0] w fun e' w'=>e'=.returned (Iv e.count)/\w'=w:=by
 obtain⟨L,g,h⟩:=h
 have d:Hid (w.rangeAt b 1 (Qbg e g)):=h.range;clear h;go_enter func36,ntmps36
 go_wp2_with (refine wpList_load_mid Z 71 (.tmp 8) Z b 1 Z (Qbg e g) _ d.out underlying71 Z (by kernel_rfl) ?_)
 go_loop [3,10] (fun n i=>∃ k:Nat,k<=16/\i=Iv k/\n=Iv (Zb e.reg k)) (fun _ i=>16 - (intOf i).toNat)
 case atStart=>exact⟨0,by omega,Z,Z⟩
 case round =>
  obtain⟨k,l,rfl,rfl⟩:=hrel
  have m:=Qa7 e.reg k;by_cases f:k<16
  ·have a:=fun w=>Qdy w e g k f
   cases hr:e.reg k with
   | none =>
     have E:Hid (Zb e.reg (k+1)=Zb e.reg k):=by show _=_;simp[Zb,hr]
     rw[hr] at a
     simp only[QaS] at a
     clear hr;go_wp2
     go_round
     case rel=>exact⟨k+1,by omega,by go_num,by rw[E.out]⟩
     case measure=>simp[intOf];omega
   | some r =>
     have E:Hid (Zb e.reg (k+1)=Zb e.reg k+1):=by show _=_;simp[Zb,hr]
     rw[hr] at a
     simp only[QaS] at a
     clear hr;go_wp2
     go_round
     case rel=>exact⟨k+1,by omega,by go_num,by rw[E.out]⟩
     case measure=>simp[intOf];omega
  ·have c:k=16:=by omega
   subst c;have E:Hid (Zb e.reg 16=e.count):=rfl;go_wp2
   go_ret;exact⟨by rw[E.out];rfl,Z⟩
def newReg:Obj:=.cells #[Nv,Iv 0] 285
theorem Zw.mono {e:Est}{L g:Nat->Nat}(h:Zw w b O e L bp g) (c:∀ x,O x->x<w.heap.size->O' x):Zw w b O' e L bp g :=
 ⟨h.row,h.own,h.pool,h.reg,fun x a=>⟨c x (h.all x a).1 (h.all x a).2,(h.all x a).2⟩⟩
theorem Zw.opened {e:Est}{L g:Nat->Nat}(h:Zw w b O e L bp g) (k:Nat) (z:k<16) (B:e.reg k=none) :
 QV ((w.alloc newReg).setCell ⟨b,1+k,none⟩ (Pv w.heap.size 0)) b bp (Q1 O w ((w.alloc newReg).setCell ⟨b,1+k,none⟩ (Pv w.heap.size 0))) (e.set k (some ⟨[],0⟩)) /\
 Qz O (Q1 O w ((w.alloc newReg).setCell ⟨b,1+k,none⟩ (Pv w.heap.size 0))) w ((w.alloc newReg).setCell ⟨b,1+k,none⟩ (Pv w.heap.size 0)):=by
 have l:Qz (fun x=>L x=1) (fun x=>L x=1) w ((w.alloc newReg).setCell ⟨b,1+k,none⟩ (Pv w.heap.size 0)):=((Qz.refl _ w).alloc newReg).setCell (p:=⟨b,1+k,none⟩) h.own _;have v:=h.row.lt;have d:=(h.row.alloc newReg).set (1+k) (Pv w.heap.size 0)
 have c:((w.alloc newReg).setCell ⟨b,1+k,none⟩ (Pv w.heap.size 0)).heap[w.heap.size]?=some (.cells #[Nv,Iv 0] 285 (0,0)):=by
  rw[Xd _ _ _ _ (show w.heap.size≠b by omega)];exact Qe w _ _
 have f:((w.alloc newReg).setCell ⟨b,1+k,none⟩ (Pv w.heap.size 0)).heap.size=w.heap.size+1:=by simp
 generalize (w.alloc newReg).setCell ⟨b,1+k,none⟩ (Pv w.heap.size 0)=s at *;refine⟨⟨QbT L (k+3) w s,fun j=>if j=k then w.heap.size else g j,?_,?_,?_,?_,?_⟩,QcV h.all (by decide) l⟩
 ·refine d.congr fun i A=>?_;unfold Qmc QaS Est.set;by_cases o:i=0
  ·subst o;rw[Xr (by omega)];rfl
  ·by_cases a:i=1+k
   ·subst a;simp
   ·have t:¬ (i - 1=k):=by omega
    simp[o,a,t]
 ·exact(Zj h.all (by omega) (by decide) b).2 h.own
 ·exact(h.pool.step l (fun x u y=>by omega)).mono (fun x m _=>(Zj h.all (by omega) (by decide) x).2 m)
 ·intro j q r;by_cases a:j=k
  ·subst a
   have:q=⟨[],0⟩:=by simpa[Est.set] using r.symm
   subst this;refine⟨Nv,?_,Row.nil _ _ _,?_⟩
   ·simpa[Reg.left] using c
   ·simp[QbT,f]
  ·have n:e.reg j=some q:=by simpa[Est.set,a] using r
   have:=((h.reg j q n).step l (fun x u y=>by omega)).mono (O':=fun x=>QbT L (k+3) w s x=j+3) (fun x m _=>(Zj h.all (by omega) (by omega) x).2 m)
   simpa[a] using this
 ·exact QcZ h.all (by omega) (by omega)
theorem QV.refl_grow {e:Est}(h:QV w b bp O e):QV w b bp (Q1 O w w) e:=h.mono QeC
theorem QkY (w:World) (b f:Nat) (O:Nat->Prop) (e:Est) (h:QV w b f O e) :
 Calls prog 170 #[Pv b 0] w fun e' w'=>e'=.returned (Iv e.openK)/\QV w' b f (Q1 O w w') e.opened/\Qz O (Q1 O w w') w w':=by
 have p:=h;obtain⟨L,g,h⟩:=h
 have m:Hid (w.rangeAt b 1 (Qbg e g)):=h.range;have l:Hid (Zw w b O e L f g):=h;have t:=h.row.lt;clear h;have s:Hid (QV w b f O e):=p;clear p;go_enter func170,ntmps170
 go_wp2_with (refine wpList_load_mid Z 71 (.tmp 7) Z b 1 Z (Qbg e g) _ m.out underlying71 Z (by kernel_rfl) ?_)
 go_loop [9] (fun i=>∃ k:Nat,k<=16/\i=Iv k/\∀ j,j<k->e.reg j≠none) (fun i=>16 - (intOf i).toNat)
 case atStart=>exact⟨0,by omega,Z,fun j n=>by omega⟩
 case round =>
  obtain⟨k,u,rfl,a⟩:=hrel
  by_cases d:k<16
  ·have c:=fun w=>Qdy w e g k d
   cases hr:e.reg k with
   | none =>
     have E:Hid (e.openK=k/\e.opened=e.set k (some ⟨[],0⟩)):=Est.open_yes a d hr;have Q:=l.out.opened k d hr
     have D:Hid (QV ((w.alloc newReg).setCell ⟨b,1+k,none⟩ (Pv w.heap.size 0)) b f (Q1 O w ((w.alloc newReg).setCell ⟨b,1+k,none⟩ (Pv w.heap.size 0))) (e.set k (some ⟨[],0⟩)) /\
      Qz O (Q1 O w ((w.alloc newReg).setCell ⟨b,1+k,none⟩ (Pv w.heap.size 0))) w ((w.alloc newReg).setCell ⟨b,1+k,none⟩ (Pv w.heap.size 0))):=Q
     have q:=l.out.cellAt k d;have v:=l.out.row.frozen (1+k);rw[hr] at c q
     simp only[QaS] at c q
     clear hr a Q;go_wp2
     go_ret;rw[E.out.1,E.out.2,<-World.setCell_alloc_past _ _ _ _ t]
     exact⟨Z,D.out⟩
   | some r =>
     have N:Hid (∀ j,j<k+1->e.reg j≠none):=fun j n=>by
      rcases Nat.lt_succ_iff_lt_or_eq.1 n with o | o
      ·exact a j o
      ·subst o;rw[hr];simp
     rw[hr] at c
     simp only[QaS] at c
     clear hr a;go_wp2
     go_round
     case rel=>exact⟨k+1,by omega,by go_num,N.out⟩
     case measure=>simp[intOf];omega
  ·have E:Hid (e.openK=-1/\e.opened=e):=Est.open_no (fun j n=>a j (by omega));clear a;go_wp2
   go_ret;rw[E.out.1,E.out.2]
   exact⟨Z,s.out.refl_grow,Qz.refl_grow O w⟩
theorem Zw.closed {e:Est}{L g:Nat->Nat}(h:Zw w b O e L bp g) (k:Nat) (t:k<16) :
 Zw (w.setCell ⟨b,1+k,none⟩ (.pointer none)) b O (e.set k none) L bp g/\Qz O O w (w.setCell ⟨b,1+k,none⟩ (.pointer none)):=by
 have d:Qz (fun x=>L x=1) (fun x=>L x=1) w (w.setCell ⟨b,1+k,none⟩ (.pointer none)):=(Qz.refl _ w).setCell (p:=⟨b,1+k,none⟩) h.own _;have r:O b:=(h.all b (by rw[h.own];decide)).1;refine⟨⟨?_,h.own,h.pool.step d (fun x o s=>by omega),?_,?_⟩,(Qz.refl O w).setCell (p:=⟨b,1+k,none⟩) r _⟩
 ·refine(h.row.set (1+k) (.pointer none)).congr fun i u=>?_
  unfold Qmc QaS Est.set;by_cases f:i=0
  ·subst f;rw[Xr (by omega)];rfl
  ·by_cases a:i=1+k
   ·subst a;simp
   ·have m:¬ (i - 1=k):=by omega
    simp[f,a,m]
 ·intro j q l
  have c:e.reg j=some q:=by
   by_cases a:j=k
   ·subst a;simp[Est.set] at l
   ·simpa[Est.set,a] using l
  exact(h.reg j q c).step d (fun x o s=>by omega)
 ·intro x n
  have:=h.all x n
  simpa using this
theorem Qia (l:List Int) (j:Nat) (a:j<l.length):l.take (j+1)=l.take j++[l.getD j 0]:=by
 rw[List.take_succ_eq_append_getElem a];simp[List.getD,a]
theorem Qkz (w:World) (b n:Nat) (O:Nat->Prop) (e:Est) (k:Int) (h:Qdt w b n O e) :
 Calls prog 171 #[Pv b 0,Iv k] w fun e' w'=>e'=.returned (.bool (e.has k))/\QV w' b n (Q1 O w w') (e.shut k)/\Qz O (Q1 O w w') w w':=by
 have C:Hid (Calls prog 217 #[Pv b 0,Iv k] w fun e' w'=>e'=.returned (.bool (e.has k))/\w'=w):=Qie w b n O e k h.1
 cases hh:e.has k with
 | false =>
   have E:Hid (e.shut k=e):=Est.shut_no hh;have HH:Hid (QV w b n O e):=h.1;rw[hh] at C
   clear h hh;go_enter func171,ntmps171
   go_wp2_with (go_at_call 217;refine(C.out).mono ?_;rintro e w' ⟨rfl,rfl⟩)
   go_ret;rw[E.out]
   exact⟨Z,HH.out.refl_grow,Qz.refl_grow O _⟩
 | true =>
   rw[hh] at C
   obtain⟨j,r,rfl,N,J⟩:=Est.has_true hh
   have E:Hid (e.shut j=(e.set j none).withP (e.p.giveAll r.pages)):=Est.shut_yes N J;have A:=h.2.lenR J;obtain⟨⟨L,g,l⟩,U⟩:=h
   have c:=l.cellAt j N;rw[J] at c
   simp only[QaS] at c
   obtain⟨v,M,y,aa⟩:=l.reg j r J
   have V:w.cell? ⟨g j,0,none⟩=some v:=Qb M 0 _ Z;obtain⟨a,u,rfl,-,-⟩:=y.form
   have P0:Hid (∃ s,Zw w b (Q1 O w w) (e.withP (e.p.giveAll (r.pages.take 0))) s n g/\Row w (fun x=>s x=j+3) 3 (.slice a r.pages.length u) r.pages/\Qz O (Q1 O w w) w w) :=
    ⟨L,l.mono QeC,y,Qz.refl_grow O w⟩
   obtain⟨gj,K⟩:∃ gj,g j=gj:=⟨_,Z⟩
   rw[K] at c V
   obtain⟨d,hl⟩:∃ d,r.pages.length=d:=⟨_,Z⟩
   have Q:Hid (r.pages.length=d):=hl;rw[hl] at V A P0
   clear l U M y aa J hh hl K;have ad:(j:Int)<16:=by omega
   go_enter func171,ntmps171
   go_wp2_with (go_at_call 217;refine(C.out).mono ?_;rintro e w' ⟨rfl,X⟩;have X:=X.symm;subst X)
   go_loopw [21] (fun i wr=>∃ m:Nat,m<=d/\i=Iv m/\∃ s,Zw wr b (Q1 O w wr) (e.withP (e.p.giveAll (r.pages.take m))) s n g/\Row wr (fun x=>s x=j+3) 3 (.slice a d u) r.pages/\Qz O (Q1 O w wr) w wr) (fun i _=>d - (intOf i).toNat)
   case atStart=>exact⟨0,by omega,Z,P0.out⟩
   case round =>
    clear P0 c V C;obtain⟨m,hm,rfl,s,l,f,o⟩:=hrel
    have c0:=l.cell0;by_cases ac:m<d
    ·obtain⟨ga,rfl,-,-,-,-⟩:=f.head (by have:=Q.out;omega)
     have cm:=f.cell m (by have:=Q.out;omega);have z:=Qia r.pages m (by have:=Q.out;omega);obtain⟨q,hq⟩:∃ q,r.pages.getD m 0=q:=⟨_,Z⟩
     rw[hq] at cm z
     have G:Hid (Calls prog 218 #[Pv n 0,Iv q] wr fun e' w'=>(∃ t,e'=.returned (.bool t))/\∃ L'',Zw w' b (Q1 O w w') (e.withP (e.p.giveAll (r.pages.take (m+1)))) L'' n g/\Row w' (fun x=>L'' x=j+3) 3 (.slice (some ⟨ga,0,none⟩) d u) r.pages/\Qz O (Q1 O w w') w w'):=by
      refine(Qk0 wr n (fun x=>s x=2) _ q l.pool).mono ?_
      rintro e' w' ⟨rfl,k1,k2⟩;refine⟨⟨_,Z⟩,QbT s 2 wr w',?_⟩
      obtain⟨R,P⟩:=l.stepPool k1 k2
      refine⟨?_,?_,o.trans_grow P⟩
      ·rw[z,PSt.giveAll_snoc]
       exact R.mono (fun x T _=>Qb8 o.size x T)
      ·exact(f.step k2 (fun x h1 h2=>by omega)).mono (fun x T _=>(Zj l.all (by omega) (by omega) x).2 T)
     have ab:(0:Int)<=m:=by omega
     have W:(m:Int)<d:=by omega
     clear l f o hq z;go_wp2_with (go_at_call 218;refine(G.out).mono ?_;rintro e' I ⟨⟨t,rfl⟩,H⟩)
     have W5:Hid (∃ L'',Zw I b (Q1 O w I) (e.withP (e.p.giveAll (r.pages.take (m+1)))) L'' n g/\Row I (fun x=>L'' x=j+3) 3 (.slice (some ⟨ga,0,none⟩) d u) r.pages/\Qz O (Q1 O w I) w I):=H;clear H;go_wp2
     go_roundw
     case rel=>exact⟨m+1,by omega,by go_num,W5.out⟩
     case measure=>simp[intOf];omega
    ·have F:m=d:=by omega
     have B:r.pages.take m=r.pages:=by rw[F,<-Q.out];simp
     rw[B] at l
     obtain⟨R,P⟩:=l.closed j N
     have D:Hid (Zw (wr.setCell ⟨b,1+j,none⟩ (.pointer none)) b (Q1 O w wr) ((e.set j none).withP (e.p.giveAll r.pages)) s n g/\Qz (Q1 O w wr) (Q1 O w wr) wr (wr.setCell ⟨b,1+j,none⟩ (.pointer none))):=⟨R,P⟩;have S:Hid (Qz O (Q1 O w wr) w wr):=o;have cj:=l.cellAt j N;have fj:=l.row.frozen (1+j);simp only[QaS] at cj
     have W:¬ (m:Int)<d:=by omega
     clear R P o l f F B;go_wp2
     go_ret;rw[E.out]
     have eg:Q1 O w (wr.setCell ⟨b,1+j,none⟩ (.pointer none))=Q1 O w wr:=by unfold Q1;simp
     rw[eg]
     exact⟨Z,⟨_,_,D.out.1⟩,S.out.trans D.out.2⟩
set_option maxRecDepth 100000
theorem QfF (l:List Int) (h:l≠[]):l.getD (l.length - 1) 0=l.getLastD 0:=by
 rcases List.eq_nil_or_concat l with a | ⟨b,k,a⟩
 ·exact absurd a h
 ·rw[a];simp[List.getD]
theorem Qir (w:World) (e:Nat) (O:Nat->Prop) (r:Reg) (n:Int) (h:QaJ w e O r) (j:r.pages≠[]) (K:r.pages.length<=64) (s:0<=r.pages.getLastD 0) (o:r.pages.getLastD 0<64) (C:0<=r.used) (J:r.used<=16) (P:1<=n) (t:n<=16 - r.used) :
 Calls prog 281 #[Pv e 0,Iv n] w fun e' w'=>e'=.returned (Iv (16*r.pages.getLastD 0+r.used))/\QaJ w' e O ⟨r.pages,r.used+n⟩/\Qz O O w w':=by
 obtain⟨v,d,b,g⟩:=h
 have i:r.left=16 - r.used:=by simp[Reg.left,j]
 have f:0<r.pages.length:=List.length_pos_iff.2 j;obtain⟨a,k,rfl,-,-⟩:=b.form
 obtain⟨z,rfl,-,-,-,-⟩:=b.head f
 have l:=b.cell (r.pages.length - 1) (by omega);rw[QfF _ j] at l
 rw[i] at d
 have L:w.cell? ⟨e,0,none⟩=some (.slice (some ⟨z,0,none⟩) r.pages.length k):=Qb d 0 _ Z;have G:w.cell? ⟨e,1,none⟩=some (Iv (16 - r.used)):=Qb d 1 _ Z;have N:=Qj d 1
 have D:Hid (QaJ (w.setCell ⟨e,1,none⟩ (Iv (16 - r.used - n))) e O ⟨r.pages,r.used+n⟩/\Qz O O w (w.setCell ⟨e,1,none⟩ (Iv (16 - r.used - n)))):=by
  refine⟨⟨.slice (some ⟨z,0,none⟩) r.pages.length k,?_,?_,g⟩,(Qz.refl O w).setCell (p:=⟨e,1,none⟩) g _⟩
  ·rw[Qh d]
   have:(Reg.mk r.pages (r.used+n)).left=16 - r.used - n:=by simp[Reg.left,j];omega
   rw[this];rfl
  ·refine b.keep (fun x E=>?_) b.2;obtain⟨c,M⟩:=b.block E
   exact Xd _ _ _ _ (Zc M d (by decide))
 obtain⟨m,A⟩:∃ m,r.pages.length=m+1:=⟨r.pages.length - 1,by omega⟩
 rw[A] at L l K
 rw[show m+1 - 1=m by omega] at l
 obtain⟨q,B⟩:∃ q,r.pages.getLastD 0=q:=⟨_,Z⟩
 obtain⟨u,y⟩:∃ u,r.used=u:=⟨_,Z⟩
 have I:Hid (r.used=u):=y;rw[B] at l s o |-
 rw[y] at G C J t
 have F:(0:Int)<=m:=by omega
 have H:(m:Int)<(m+1:Nat):=by omega
 clear d b A B i f j y;go_enter func281,ntmps281
 go_wp2_with fail
 go_quiet (fail)
 go_wp2
 go_ret;rw[I.out] at D |-
 refine⟨?_,D.out.1,((Qz.refl O _).drewN _).setCell (p:=⟨e,1,none⟩) g _⟩
 show Ending.returned (Value.int .i64 ((q+1)*16 - (16 - u)))=_;rw[show (q+1)*16 - (16 - u)=16*q+u by omega]
theorem QgV {b:Nat}{r:Reg}{q:Int}{f:Nat}{o:Obj}{C:Value}(u:w.heap[b]?=some (.cells #[v,C] 285 (0,0))) (A:Row w O 3 v r.pages) (E:O b)
 (G:w1.ownsRow 0 3 1 (.slice (some ⟨f,0,none⟩) (r.pages.length+1) cap) (r.pages.length+1) (r.pages.map (Value.int .i64)++[Iv q]))
 (a:(w.alloc o).grownBy w1 v.ownBlock) (l:v.ownBlock=some f\/f=w.heap.size+1) (y:f<w1.heap.size) :
 w1.cell? ⟨b,0,none⟩=some v/\w1.cell? ⟨b,1,none⟩=some C/\w1.frozen? ⟨b,0,none⟩=false/\w1.frozen? ⟨b,1,none⟩=false /\
 QaJ ((w1.setCell ⟨b,0,none⟩ (.slice (some ⟨f,0,none⟩) (r.pages.length+1) cap)).setCell ⟨b,1,none⟩ (Iv 16)) b (Q1 O w w1) ⟨r.pages++[q],0⟩ /\
 Qz O (Q1 O w w1) w ((w1.setCell ⟨b,0,none⟩ (.slice (some ⟨f,0,none⟩) (r.pages.length+1) cap)).setCell ⟨b,1,none⟩ (Iv 16)):=by
 have n:=XC u
 have m:v.ownBlock≠some b:=fun e=>by
  obtain⟨c,I⟩:=A.block e
  exact absurd Z (Zc I u (by decide))
 have i:∀ x,x<w.heap.size->v.ownBlock≠some x->w1.heap[x]?=w.heap[x]?:=fun x g t =>
  (a.block x (by simp;omega) (fun e=>t e.symm)).trans (Below.heap_alloc _ _ _ g)
 have d:=(i b n m).trans u;have F:w.heap.size+1<=w1.heap.size:=by have:=a.size;simpa using this
 have B:∀ x,O x\/w.heap.size<=x->x<w1.heap.size->Q1 O w w1 x:=fun x h s=>⟨h,s⟩;have j:=A.pushed (o:=o) G l y (Q1 O w w1) B
 have k:b≠f:=by
  intro e;subst e;rcases l with s | s
  ·exact m s
  ·omega
 have z:Q1 O w w1 b:=B b (Or.inl E) (by omega);refine⟨Qb d 0 _ Z,Qb d 1 _ Z,Qj d 0,Qj d 1,⟨.slice (some ⟨f,0,none⟩) (r.pages.length+1) cap,?_,?_,z⟩,?_⟩
 ·rw[Qh (Qh d 0 _) 1]
  have:(Reg.mk (r.pages++[q]) 0).left=16:=by simp[Reg.left]
  rw[this];rfl
 ·refine j.keep (fun x g=>?_) j.2;simp[Value.ownBlock] at g;subst g
  rw[Xd _ _ _ _ (Ne.symm k),Xd _ _ _ _ (Ne.symm k)]
 ·have D:Qz O (Q1 O w w1) w w1:=by
   refine⟨a.os,a.tape,a.output,by omega,fun x g H=>?_,fun x g=>g.1⟩
   exact i x g (fun e=>H (A.2 x e))
  exact(D.setCell (p:=⟨b,0,none⟩) z _).setCell (p:=⟨b,1,none⟩) z _
theorem Ql2 (w:World) (b:Nat) (O:Nat->Prop) (e:Est) (L g:Nat->Nat) (a k:Nat) (h:Zw w b O e L a g) (f:e.p.nextK<0) :
 Calls prog 280 #[Pv b 0,Pv k 0] w fun e' w'=>e'=.returned (.bool false)/\QV w' b a (Q1 O w w') e/\Qz O (Q1 O w w') w w':=by
 have c:e.p.Ok:=h.pool.ok;have r:=h.cell0
 have G:Hid (Calls prog 289 #[Pv a 0] w fun e' w'=>e'=.returned (Iv e.p.nextK)/\QV w' b a (Q1 O w w') e/\Qz O (Q1 O w w') w w'):=by
  refine(QgF w a (fun x=>L x=2) _ h.pool).mono ?_
  rintro e' w' ⟨rfl,n,m⟩;obtain⟨i,l⟩:=h.stepPool n m
  rw[PSt.take_none c f] at i
  exact⟨Z,⟨_,_,i⟩,l⟩
 obtain⟨q,j⟩:∃ q,e.p.nextK=q:=⟨_,Z⟩
 rw[j] at f G
 clear h j;go_enter func280,ntmps280
 go_wp2_with (go_at_call 289;refine(G.out).mono ?_;rintro e' o ⟨rfl,d⟩)
 go_ret;exact⟨Z,d⟩
theorem QjZ (w:World) (b:Nat) (O:Nat->Prop) (e:Est) (L g:Nat->Nat) (u j:Nat) (r:Reg) (h:Zw w b O e L u g) (hr:e.reg j=some r) (hl:r.pages.length<=64) (hk:0<=e.p.nextK) :
 Calls prog 280 #[Pv b 0,Pv (g j) 0] w fun e' w'=>e'=.returned (.bool true)/\∃ L',Zw w' b (Q1 O w w') ((e.set j (some ⟨r.pages++[e.p.nextK],0⟩)).withP e.p.take) L' u g/\Qz O (Q1 O w w') w w':=by
 have c0:=h.cell0;have A:=(PSt.nextK_lt h.pool.ok).2;have aa:=h.pool.ok.most
 have G:Hid (Calls prog 289 #[Pv u 0] w fun e' w'=>e'=.returned (Iv e.p.nextK)/\Zw w' b (Q1 O w w') (e.withP e.p.take) (QbT L 2 w w') u g/\Qz O (Q1 O w w') w w'):=by
  refine(QgF w u (fun x=>L x=2) _ h.pool).mono ?_
  rintro e' w' ⟨rfl,k1,k2⟩;obtain⟨T,Q⟩:=h.stepPool k1 k2
  exact⟨Z,T,Q⟩
 obtain⟨q,W⟩:∃ q,e.p.nextK=q:=⟨_,Z⟩
 rw[W] at hk A G |-
 clear h W;obtain⟨d,t⟩:∃ d,g j=d:=⟨_,Z⟩
 have P:Hid (g j=d):=t;rw[t]
 clear t;go_enter func280,ntmps280
 go_wp2_with fail
 refine(G.out).mono ?_
 rintro e' B ⟨rfl,S,U⟩;have y:(e.withP e.p.take).reg j=some r:=hr;obtain⟨v,C,F,M⟩:=S.reg j r y
 rw[P.out] at C M
 have cv:B.cell? ⟨d,0,none⟩=some v:=Qb C 0 _ Z;obtain⟨a,z,rfl,-,-⟩:=F.form
 have m:=F.1;obtain⟨i0,hi,N,R,K⟩:=info_parts info_int
 have I:Hid (∀ k c i,i.ownsRow 0 3 1 (.slice (some ⟨k,0,none⟩) (r.pages.length+1) c) (r.pages.length+1) (r.pages.map (Value.int .i64)++[Iv q]) ->
  (B.alloc (.cells #[Iv q] 3)).grownBy i (Value.slice a r.pages.length z).ownBlock->((Value.slice a r.pages.length z).ownBlock=some k\/k=B.heap.size+1)->k<i.heap.size ->
  i.cell? ⟨d,0,none⟩=some (.slice a r.pages.length z)/\i.cell? ⟨d,1,none⟩=some (Iv r.left)/\i.frozen? ⟨d,0,none⟩=false/\i.frozen? ⟨d,1,none⟩=false /\
  ∃ L',Zw ((i.setCell ⟨d,0,none⟩ (.slice (some ⟨k,0,none⟩) (r.pages.length+1) c)).setCell ⟨d,1,none⟩ (Iv 16)) b (Q1 O w ((i.setCell ⟨d,0,none⟩ (.slice (some ⟨k,0,none⟩) (r.pages.length+1) c)).setCell ⟨d,1,none⟩ (Iv 16))) ((e.set j (some ⟨r.pages++[q],0⟩)).withP e.p.take) L' u g /\
   Qz O (Q1 O w ((i.setCell ⟨d,0,none⟩ (.slice (some ⟨k,0,none⟩) (r.pages.length+1) c)).setCell ⟨d,1,none⟩ (Iv 16))) w ((i.setCell ⟨d,0,none⟩ (.slice (some ⟨k,0,none⟩) (r.pages.length+1) c)).setCell ⟨d,1,none⟩ (Iv 16))):=by
  intro k c i H f o n;have J:=P.out;clear P;subst J;obtain⟨X,d2,V,d4,E,d6⟩:=QgV (r:=r) C F M H f o n
  refine⟨X,d2,V,d4,?_⟩
  obtain⟨T,Q⟩:=S.stepReg y E d6
  exact⟨_,T.mono (fun x hx _=>Qb8 U.size x hx),U.trans_grow Q⟩
 obtain⟨l,s⟩:∃ l,r.pages.length=l:=⟨_,Z⟩
 rw[s] at cv m hl I
 clear C F M S U y s G c0;go_wp2_with (at_builtin;refine wpList_append_lies _ Z (.tmp 17) (.tmp 19) 76 Z 0 3 i0 (Iv 0) 1 8 under_ints hi N R K Z (by decide) _ _ _ Z (m.alloc _) ⟨B.heap.size,0,none⟩ 1 1 [Iv q] Z Z (Qgz _ _ _) (Qdc _) (by decide) (by unfold maxLen;omega) (by omega) (Xb _) (B.heap.size+1) (by simp) ?_)
 intro k c i H f o n;obtain⟨X,d2,V,d4,E⟩:=I.out k c i H f o n
 have D:Hid (∃ L',Zw ((i.setCell ⟨d,0,none⟩ (.slice (some ⟨k,0,none⟩) (l+1) c)).setCell ⟨d,1,none⟩ (Iv 16)) b (Q1 O w ((i.setCell ⟨d,0,none⟩ (.slice (some ⟨k,0,none⟩) (l+1) c)).setCell ⟨d,1,none⟩ (Iv 16))) ((e.set j (some ⟨r.pages++[q],0⟩)).withP e.p.take) L' u g /\
  Qz O (Q1 O w ((i.setCell ⟨d,0,none⟩ (.slice (some ⟨k,0,none⟩) (l+1) c)).setCell ⟨d,1,none⟩ (Iv 16))) w ((i.setCell ⟨d,0,none⟩ (.slice (some ⟨k,0,none⟩) (l+1) c)).setCell ⟨d,1,none⟩ (Iv 16))):=E
 clear E H f o n m I;go_wp2
 go_ret;exact⟨Z,D.out⟩
theorem QeS (l:List Int) (h:l≠[]):l.getLastD 0∈l:=by
 rcases List.eq_nil_or_concat l with a | ⟨b,k,a⟩
 ·exact absurd a h
 ·rw[a];simp
theorem Qlq (w:World) (b y:Nat) (O:Nat->Prop) (e:Est) (k n:Int) (h:Qdt w b y O e) :
 Calls prog 254 #[Pv b 0,Iv k,Iv n] w fun e' w'=>e'=.returned (.tuple #[Iv (e.getAt k n),Iv (e.getCode k n)])/\QV w' b y (Q1 O w w') (e.got k n)/\Qz O (Q1 O w w') w w':=by
 have C:Hid (Calls prog 217 #[Pv b 0,Iv k] w fun e' w'=>e'=.returned (.bool (e.has k))/\w'=w):=Qie w b y O e k h.1;have U:Hid (QV w b y O e):=h.1
 cases hh:e.has k with
 | false =>
   have E:Hid (e.getCode k n=15/\e.getAt k n=0/\e.got k n=e):=Est.get_none hh;rw[hh] at C
   clear h hh;go_enter func254,ntmps254
   go_wp2_with (go_at_call 217;refine(C.out).mono ?_;rintro e w' ⟨rfl,rfl⟩)
   go_ret2;rw[E.out.1,E.out.2.1,E.out.2.2]
   exact⟨Z,U.out.refl_grow,Qz.refl_grow O _⟩
 | true =>
   rw[hh] at C
   by_cases D:n<1\/16<n
   ·have E:Hid (e.getCode k n=1/\e.getAt k n=0/\e.got k n=e):=Est.get_range hh D;clear h hh;by_cases W:n<1
    ·clear D;go_enter func254,ntmps254
     go_wp2_with (go_at_call 217;refine(C.out).mono ?_;rintro e w' ⟨rfl,rfl⟩)
     go_ret2;rw[E.out.1,E.out.2.1,E.out.2.2]
     exact⟨Z,U.out.refl_grow,Qz.refl_grow O _⟩
    ·have T:16<n:=by omega
     clear D;go_enter func254,ntmps254
     go_wp2_with (go_at_call 217;refine(C.out).mono ?_;rintro e w' ⟨rfl,rfl⟩)
     go_ret2;rw[E.out.1,E.out.2.1,E.out.2.2]
     exact⟨Z,U.out.refl_grow,Qz.refl_grow O _⟩
   ·obtain⟨j,r,rfl,M,f⟩:=Est.has_true hh
    have F:=h.2.lenR f;have m:=h.2.used j r f;have W:¬ n<1:=by omega
    have T:¬ 16<n:=by omega
    obtain⟨⟨L,g,B⟩,d⟩:=h
    have c:=B.cellAt j M;rw[f] at c
    simp only[QaS] at c
    have I:w.cell? ⟨g j,1,none⟩=some (Iv r.left):=by
     obtain⟨v,X,ab,ae⟩:=B.reg j r f
     exact Qb X 1 _ Z
    have ad:(j:Int)<16:=by omega
    have a:r.pages≠[]->0<=r.pages.getLastD 0/\r.pages.getLastD 0<64:=fun h=>by
     have:=d.low (k:=j) (x:=r.pages.getLastD 0) (by rw[Est.at_some f];exact QeS _ h)
     have:=d.ok.most
     omega
    cases hm:r.more n with
    | false =>
      have E:Hid (e.getCode j n=0/\e.getAt j n=16*r.pages.getLastD 0+r.used/\e.got j n=e.set j (some ⟨r.pages,r.used+n⟩)):=Est.get_room M f D hm;obtain⟨t,J⟩:=Reg.room hm (by omega)
      have G:Hid (Calls prog 281 #[Pv (g j) 0,Iv n] w fun e' w'=>e'=.returned (Iv (16*r.pages.getLastD 0+r.used))/\QV w' b y (Q1 O w w') (e.set j (some ⟨r.pages,r.used+n⟩))/\Qz O (Q1 O w w') w w'):=by
       refine(Qir w (g j) _ r n (B.reg j r f) t F (a t).1 (a t).2 m.1 m.2 (by omega) J).mono ?_
       rintro e' w' ⟨rfl,P,Q⟩;obtain⟨V,R⟩:=B.stepReg f P Q
       exact⟨Z,⟨_,_,V⟩,R⟩
      have A:¬ r.left<n:=by simpa[Reg.more] using hm
      generalize 16*r.pages.getLastD 0+r.used=z at E G;generalize r.left=lf at I A;generalize g j=gk at c I G;clear B d f hh hm D a J t m;go_enter func254,ntmps254
      go_wp2_with (first | (go_at_call 217;refine(C.out).mono ?_;rintro e' w' ⟨rfl,s⟩;have s:=s.symm;subst s) | (go_at_call 281;refine(G.out).mono ?_;rintro e' w5 ⟨rfl,q⟩))
      go_ret2;rw[E.out.1,E.out.2.1,E.out.2.2]
      exact⟨Z,q⟩
    | true =>
      have A:r.left<n:=by simpa[Reg.more] using hm
      by_cases N:e.p.nextK<0
      ·have E:Hid (e.getCode j n=14/\e.getAt j n=0/\e.got j n=e):=Est.get_full M f D hm N;have G:Hid (Calls prog 280 #[Pv b 0,Pv (g j) 0] w fun e' w'=>e'=.returned (.bool false)/\QV w' b y (Q1 O w w') e/\Qz O (Q1 O w w') w w'):=Ql2 w b O e L g y _ B N;generalize r.left=lf at I A;generalize g j=gk at c I G;clear B d f hh hm D a m N;go_enter func254,ntmps254
       go_wp2_with (first | (go_at_call 217;refine(C.out).mono ?_;rintro e' w' ⟨rfl,s⟩;have s:=s.symm;subst s) | (go_at_call 280;refine(G.out).mono ?_;rintro e' w5 ⟨rfl,q⟩))
       go_ret2;rw[E.out.1,E.out.2.1,E.out.2.2]
       exact⟨Z,q⟩
      ·have E:Hid (e.getCode j n=0/\e.getAt j n=16*e.p.nextK/\e.got j n=(e.set j (some ⟨r.pages++[e.p.nextK],n⟩)).withP e.p.take):=Est.get_more M f D hm N;have aa:=(PSt.nextK_lt d.ok).2;have ac:=d.ok.most;have H:=d.moreSet f (n:=0) (by omega) (by omega) (by omega);have u:((e.set j (some ⟨r.pages++[e.p.nextK],0⟩)).withP e.p.take).reg j=some ⟨r.pages++[e.p.nextK],0⟩:=by simp[Est.withP,Est.set]
       have o:=H.lenR u
       have G:Hid (Calls prog 280 #[Pv b 0,Pv (g j) 0] w fun e' w'=>e'=.returned (.bool true) /\
        Calls prog 281 #[Pv (g j) 0,Iv n] w' fun K l=>K=.returned (Iv (16*e.p.nextK))/\QV l b y (Q1 O w l) ((e.set j (some ⟨r.pages++[e.p.nextK],n⟩)).withP e.p.take)/\Qz O (Q1 O w l) w l):=by
        refine(QjZ w b O e L g y j r B f F (by omega)).mono ?_
        rintro e' w' ⟨rfl,L',p1,p2⟩;refine⟨Z,?_⟩
        refine(Qir w' (g j) _ _ n (p1.reg j _ u) (by simp) o (by simp;omega) (by simp;omega) (by simp) (by simp) (by omega) (by simp;omega)).mono ?_
        rintro K l ⟨rfl,P,Q⟩;obtain⟨V,R⟩:=p1.stepReg u P Q
        refine⟨by simp,⟨QbT L' (j+3) w' l,g,?_⟩,p2.trans_grow R⟩
        have e1:((e.set j (some ⟨r.pages++[e.p.nextK],0⟩)).withP e.p.take).set j (some ⟨r.pages++[e.p.nextK],0+n⟩)=(e.set j (some ⟨r.pages++[e.p.nextK],n⟩)).withP e.p.take:=by
         simp only[Est.withP,Est.set]
         congr 1
         funext i
         by_cases hi:i=j<;>simp[hi]
        rw[<-e1]
        exact V.mono (fun x hx _=>Qb8 p2.size x hx)
       generalize r.left=lf at I A;generalize g j=gk at c I G;clear B d f hh hm D a m H u o;go_enter func254,ntmps254
       go_wp2_with (first | (go_at_call 217;refine(C.out).mono ?_;rintro e' w' ⟨rfl,s⟩;have s:=s.symm;subst s) | (go_at_call 280;refine(G.out).mono ?_;rintro e' w5 ⟨rfl,q⟩) | (go_at_call 281;refine q.mono ?_;rintro e' w6 ⟨rfl,S⟩))
       go_ret2;rw[E.out.1,E.out.2.1,E.out.2.2]
       exact⟨Z,S⟩
set_option maxRecDepth 100000
theorem Qlz (w:World) (n:Int) (h:n<0\/64<n) :
 Calls prog 67 #[Iv n] w fun e w'=>e=.returned (.tuple #[.pointer none,.agg #[Iv 1,Iv (-1)]])/\Below w.heap.size w w':=by
 have C:Hid (∀ w,Calls prog 109 #[Iv n] w fun e w'=>e=.returned (.tuple #[.pointer none,.agg #[Iv 1,Iv (-1)]])/\Below w.heap.size w w'):=fun w=>QmJ w n h;clear h;go_enter func67,ntmps67
 go_wp2_with fail
 refine(C.out _).mono ?_
 rintro e b ⟨rfl,f⟩;have a:b.heap[w.heap.size]?=some (.cells #[Iv 0,Iv 0] 32 (0,0)):=(f.block w.heap.size (by simp)).trans (Qe w _ _);have B:Hid (Below w.heap.size w b):=((Below.refl _ w).alloc Ze _).trans (f.mono (by simp));have d:=XC a;have i:b.cell? ⟨w.heap.size,0,none⟩=some (Iv 0):=Qb a 0 _ Z;have j:b.cell? ⟨w.heap.size,1,none⟩=some (Iv 0):=Qb a 1 _ Z;have l:=Qj a 0;have m:=Qj a 1;have k:w.heap.size<=w.heap.size:=Ze;generalize c:w.heap.size=X at *;clear a f;go_wp2
 go_region;go_wp2
 refine Xy (v:=.tuple #[.pointer none,.agg #[Iv 1,Iv (-1)]]) (by simp[results,results67,go_sem,i,j,d]) Z ⟨Z,?_⟩;have g:=((B.out.setCell (p:=⟨X,0,none⟩) (Nat.le_refl X) (Iv 1)).setCell (p:=⟨X,1,none⟩) (Nat.le_refl X) (Iv (-1)));rw[c]
 exact((g.alloc (by simp;omega) _)).drew
def QeW (bp:Nat):Array Value:=#[Pv bp 0,.pointer none,.pointer none,.pointer none,.pointer none,.pointer none,.pointer none,.pointer none,.pointer none,.pointer none,.pointer none,.pointer none,.pointer none,.pointer none,.pointer none,.pointer none,.pointer none]
theorem QiR (a:Nat):∀ i,i<17->(QeW a)[i]?=some (Qmc a (fun _=>none) (fun _=>0) i):=by
 intro i b
 have:i=0\/i=1\/i=2\/i=3\/i=4\/i=5\/i=6\/i=7\/i=8\/i=9\/i=10\/i=11\/i=12\/i=13\/i=14\/i=15\/i=16:=by omega
 rcases this with h | h | h | h | h | h | h | h | h | h | h | h | h | h | h | h | h<;>subst h<;>rfl
theorem QlJ (w:World) (n:Nat) (h:n<=64) (a X Y:Nat) (e:Qn w a (fun x=>X+1<=x/\x<Y) (PSt.new n)) (i:X<w.heap.size) (g:Y<=w.heap.size) :
 Qdt (w.alloc (.cells (QeW a) 73)) w.heap.size a (fun x=>X<=x/\x<(w.alloc (.cells (QeW a) 73)).heap.size) (Est.new n):=by
 refine⟨⟨fun x=>if x=w.heap.size then 1 else if X+1<=x/\x<Y then 2 else 0,fun _=>0,?_,?_,?_,?_,?_⟩,Est.ok_new n h⟩
 ·exact⟨QeW a,Qe w _ _,Z,QiR a⟩
 ·simp
 ·refine(e.step (Qz.of_alloc (fun _=>False) w _) (fun _ _ h=>h)).mono (fun x b _=>?_)
  have:¬ x=w.heap.size:=by omega
  simp[this,b]
 ·intro k r f;simp[Est.new] at f
 ·intro x b;by_cases c:x=w.heap.size
  ·subst c;simp;omega
  ·by_cases d:X+1<=x/\x<Y
   ·simp;omega
   ·simp[c,d] at b
theorem QkC (w:World) (n:Nat) (h:n<=64) :
 Calls prog 67 #[Iv n] w fun e w'=>∃ b bp,e=.returned (.tuple #[Pv b 0,.agg #[Iv 0,Iv 0]])/\Qdt w' b bp (fun x=>w.heap.size<=x/\x<w'.heap.size) (Est.new n)/\Below w.heap.size w w':=by
 have C:Hid (∀ w,Calls prog 109 #[Iv n] w fun e w'=>∃ b,e=.returned (.tuple #[Pv b 0,.agg #[Iv 0,Iv 0]])/\Qn w' b (fun x=>w.heap.size<=x/\x<w'.heap.size) (PSt.new n)/\Below w.heap.size w w'):=fun w=>QlC w n h;go_enter func67,ntmps67
 go_wp2_with fail
 refine(C.out _).mono ?_
 rintro e a ⟨bp,rfl,i,g⟩;have c:a.heap[w.heap.size]?=some (.cells #[Iv 0,Iv 0] 32 (0,0)):=(g.block w.heap.size (by simp)).trans (Qe w _ _);have B:Hid (Below w.heap.size w a/\Qn a bp (fun x=>w.heap.size+1<=x/\x<a.heap.size) (PSt.new n)):=⟨((Below.refl _ w).alloc Ze _).trans (g.mono (by simp)),i.mono (fun x j _=>⟨by have:=j.1;simp at this;omega,j.2⟩)⟩;have f:=XC c;have l:a.cell? ⟨w.heap.size,0,none⟩=some (Iv 0):=Qb c 0 _ Z;have m:a.cell? ⟨w.heap.size,1,none⟩=some (Iv 0):=Qb c 1 _ Z;have o:=Qj c 0;have r:=Qj c 1;generalize d:w.heap.size=X at *;clear c g i;go_wp2
 refine Xy (v:=.tuple #[Pv (a.heap.size+1) 0,.agg #[Iv 0,Iv 0]]) (by simp[results,results67,go_sem,l,m,f]) Z ⟨a.heap.size+1,bp,Z,?_,?_⟩
 ·rw[d]
  have S:Qz (fun x=>x=X) (fun x=>x=X) a (((a.setCell ⟨X,0,none⟩ (Iv 0)).setCell ⟨X,1,none⟩ (Iv 0)).alloc (.cells #[Iv 0,Iv 0] 32)) :=
   (((Qz.refl (fun x=>x=X) a).setCell (p:=⟨X,0,none⟩) Z _).setCell (p:=⟨X,1,none⟩) Z _).alloc _
  have:=QlJ _ n h bp X a.heap.size (B.out.2.step S (fun x q s=>by omega)) (by simp;omega) (by simp)
  simpa[QeW] using this
 ·rw[d]
  have k:=((B.out.1.setCell (p:=⟨X,0,none⟩) (Nat.le_refl X) (Iv 0)).setCell (p:=⟨X,1,none⟩) (Nat.le_refl X) (Iv 0));exact(k.alloc (by simp;omega) _).alloc (by simp;omega) _
theorem QV.cell0 {e:Est}(h:QV w b bp O e):w.cell? ⟨b,0,none⟩=some (Pv bp 0):=by
 obtain⟨L,g,h⟩:=h
 exact h.cell0
theorem PSt.place_true {s:PSt}{k:Int}(h:s.place k=true):0<=k/\k<16*s.pages:=by simpa[PSt.place] using h
theorem Qdg (w:World) (b:Nat) (O:Nat->Prop) (s:PSt) (k:Int) (h:Qn w b O s) :
 Calls prog 256 #[Pv b 0,Iv k] w fun e w'=>e=.returned (.bool (s.place k))/\w'=w:=by
 obtain⟨g,n,q,f,r,l,i,d,a,c⟩:=h
 have p:w.cell? ⟨b,0,none⟩=some (.slice (some ⟨g,0,none⟩) n n):=Qb f 0 _ Z;have o:=c.most;by_cases j:0<=k
 ·by_cases m:k<(n:Int)
  ·have E:Hid (s.place k=true):=by show s.place k=true;simp[PSt.place];omega
   clear a;go_enter func256,ntmps256
   go_wp2
   go_ret;exact⟨by rw[E.out];rfl,Z⟩
  ·have E:Hid (s.place k=false):=by show s.place k=false;simp[PSt.place];omega
   clear a;go_enter func256,ntmps256
   go_wp2
   go_ret;exact⟨by rw[E.out];rfl,Z⟩
 ·have E:Hid (s.place k=false):=by show s.place k=false;simp[PSt.place];omega
  clear a;go_enter func256,ntmps256
  go_wp2
  go_ret;exact⟨by rw[E.out];rfl,Z⟩
theorem QjY (w:World) (b:Nat) (O:Nat->Prop) (s:PSt) (k:Int) (h:Qn w b O s) :
 Calls prog 255 #[Pv b 0,Iv k] w fun e w'=>e=.returned (.tuple #[Iv (s.load k),.bool (s.place k)])/\w'=w:=by
 have c:=Qdg w b O s k h;obtain⟨f,n,v,m,o,r,q,j,d,p⟩:=h
 have t:w.cell? ⟨b,0,none⟩=some (.slice (some ⟨f,0,none⟩) n n):=Qb m 0 _ Z
 cases hpl:s.place k with
 | true =>
   rw[hpl] at c
   have E:Hid (s.load k=s.ws k.toNat):=by show _=_;simp[PSt.load,hpl]
   obtain⟨a,l⟩:=PSt.place_true hpl
   obtain⟨i,rfl⟩:=Xc a
   have g:i<n:=by omega
   have u:w.cell? ⟨f,i,none⟩=some (Iv (s.ws i)):=o.cell g;have C:Hid (Calls prog 256 #[Pv b 0,Iv i] w fun e w'=>e=.returned (.bool true)/\w'=w):=c;clear c d a l hpl;go_enter func255,ntmps255
   go_wp2_with (go_at_call 256;refine(C.out).mono ?_;rintro e w' ⟨rfl,rfl⟩)
   go_ret2;exact⟨by rw[E.out];rfl,Z⟩
 | false =>
   rw[hpl] at c
   have E:Hid (s.load k=0):=by show _=_;simp[PSt.load,hpl]
   have C:Hid (Calls prog 256 #[Pv b 0,Iv k] w fun e w'=>e=.returned (.bool false)/\w'=w):=c;clear c d hpl;go_enter func255,ntmps255
   go_wp2_with (go_at_call 256;refine(C.out).mono ?_;rintro e w' ⟨rfl,rfl⟩)
   go_ret2;exact⟨by rw[E.out];rfl,Z⟩
theorem Qn.stored {s:PSt}{a:Nat}{p:Value}(r:w.heap[b]?=some (.cells #[.slice (some ⟨a,0,none⟩) n n,p,Iv s.fresh] 134 (0,0)))
 (t:w.rowIs a 2 n (fun i=>Iv (s.ws i))) (l:Row w O 3 p s.given) (u:O b) (m:O a) (v:n=16*s.pages) (f:s.Ok) (i:Nat) (hi:i<n) (x:Int) :
 Qn (w.setCell ⟨a,i,none⟩ (Iv x)) b O (s.store i x):=by
 have k:s.place i=true:=by simp[PSt.place];omega
 have e:s.store i x={ s with ws:=fun j=>if (j:Int)=i then x else s.ws j }:=by simp[PSt.store,k]
 rw[e]
 obtain⟨A,d,_,_⟩:=id t
 have o:b≠a:=Zc r d (by decide);refine⟨a,n,p,?_,?_,?_,u,m,v,?_⟩
 ·rw[Xd _ _ _ _ o];exact r
 ·refine(t.set i (Iv x)).congr fun j z=>?_
  by_cases e:j=i
  ·subst e;simp
  ·simp[e];intro h;omega
 ·refine l.keep (fun g q=>?_) l.2;obtain⟨c,y⟩:=l.block q
  exact Xd _ _ _ _ (Zc y d (by decide))
 ·have:=PSt.ok_store f i x;rw[e] at this;exact this
theorem Qh3 (w:World) (b:Nat) (O:Nat->Prop) (s:PSt) (k x:Int) (h:Qn w b O s) :
 Calls prog 221 #[Pv b 0,Iv k,Iv x] w fun e w'=>e=.returned (.bool (s.place k))/\Qn w' b O (s.store k x)/\Qz O O w w':=by
 have c:=Qdg w b O s k h;have f:=h;obtain⟨d,n,z,p,j,r,q,a,g,l⟩:=h
 have v:w.cell? ⟨b,0,none⟩=some (.slice (some ⟨d,0,none⟩) n n):=Qb p 0 _ Z
 cases hpl:s.place k with
 | true =>
   rw[hpl] at c
   obtain⟨o,t⟩:=PSt.place_true hpl
   obtain⟨i,rfl⟩:=Xc o
   have m:i<n:=by omega
   have y:w.cell? ⟨d,i,none⟩=some (Iv (s.ws i)):=j.cell m;have u:w.frozen? ⟨d,i,none⟩=false:=j.frozen i;have E:Hid (Qn (w.setCell ⟨d,i,none⟩ (Iv x)) b O (s.store i x)):=Qn.stored p j r q a g l i m x;have C:Hid (Calls prog 256 #[Pv b 0,Iv i] w fun e w'=>e=.returned (.bool true)/\w'=w):=c;clear c g o t hpl f;go_enter func221,ntmps221
   go_wp2_with (go_at_call 256;refine(C.out).mono ?_;rintro e w' ⟨rfl,rfl⟩)
   go_ret;exact⟨Z,E.out,(Qz.refl O _).setCell a _⟩
 | false =>
   rw[hpl] at c
   have E:Hid (s.store k x=s):=by show _=_;simp[PSt.store,hpl]
   have H:Hid (Qn w b O s):=f;have C:Hid (Calls prog 256 #[Pv b 0,Iv k] w fun e w'=>e=.returned (.bool false)/\w'=w):=c;clear c g hpl f;go_enter func221,ntmps221
   go_wp2_with (go_at_call 256;refine(C.out).mono ?_;rintro e w' ⟨rfl,rfl⟩)
   go_ret;exact⟨Z,by rw[E.out];exact H.out,Qz.refl O _⟩
theorem Xh:type_of% @And.intro:=@And.intro
section
variable {w w' w2:World}{b most:Nat}{m:List (MFunc 6)}{R R':RM}{g g1:WG}
theorem WAt.cellE (S:WAt w b most m R g):w.cell? ⟨b,0,none⟩=some (Pv g.be 0):=Qb S.box 0 _ Z
theorem WAt.cellP (S:WAt w b most m R g):w.cell? ⟨g.be,0,none⟩=some (Pv g.bp 0):=S.est.1.cell0
theorem WAt.loadC (S:WAt w b most m R g) (k:Int):Calls prog 255 #[Pv g.bp 0,Iv k] w fun e w'=>e=.returned (.tuple #[Iv (R.load k),.bool (R.e.p.place k)])/\w'=w:=by
 obtain⟨⟨L,a,h⟩,-⟩:=S.est
 exact QjY w g.bp _ R.e.p k h.pool
theorem WAt.storeC (S:WAt w b most m R g) (k n:Int):Calls prog 221 #[Pv g.bp 0,Iv k,Iv n] w fun e w'=>e=.returned (.bool (R.e.p.place k))/\WTo g w w' b most m (R.stored k n):=by
 obtain⟨⟨L,d,h⟩,a⟩:=S.est
 refine(Qh3 w g.bp _ R.e.p k n h.pool).mono ?_
 rintro e w' ⟨rfl,f,j⟩;obtain⟨c,i⟩:=h.stepPool f j
 exact⟨Z,S.toEst ⟨_,d,c⟩ i (a.store k n)⟩
theorem WAt.getC (S:WAt w b most m R g) (h n:Int):Calls prog 254 #[Pv g.be 0,Iv h,Iv n] w fun e w'=>e=.returned (.tuple #[Iv (R.e.getAt h n),Iv (R.e.getCode h n)])/\WTo g w w' b most m { R with e:=R.e.got h n }:=by
 refine(Qlq w g.be g.bp _ R.e h n S.est).mono ?_
 rintro e w' ⟨rfl,c,a⟩;exact⟨Z,S.toEst c a (S.est.2.got h n)⟩
theorem WAt.openC (S:WAt w b most m R g):Calls prog 170 #[Pv g.be 0] w fun e w'=>e=.returned (Iv R.e.openK)/\WTo g w w' b most m { R with e:=R.e.opened }:=by
 refine(QkY w g.be g.bp _ R.e S.est.1).mono ?_
 rintro e w' ⟨rfl,c,a⟩;exact⟨Z,S.toEst c a S.est.2.opened⟩
theorem WAt.shutC (S:WAt w b most m R g) (h:Int):Calls prog 171 #[Pv g.be 0,Iv h] w fun e w'=>e=.returned (.bool (R.e.has h))/\WTo g w w' b most m { R with e:=R.e.shut h }:=by
 refine(Qkz w g.be g.bp _ R.e h S.est).mono ?_
 rintro e w' ⟨rfl,c,a⟩;exact⟨Z,S.toEst c a (S.est.2.shut h)⟩
theorem QbO (S:WAt w b most m R g) (k:Int):Calls prog 220 #[Pv b 0,Iv k] w fun e w'=>e=.returned (Iv (R.load k))/\w'=w:=by
 have C:=Qc (S.loadC k);have c:=S.cellE;have d:=S.cellP;clear S;generalize R.load k=x at *;generalize R.e.p.place k=y at *;go_enter func220,ntmps220
 go_wp2_with (go_at_call 255;refine C.out.mono ?_;rintro f w' ⟨rfl,a⟩;have a:=a.symm;subst a)
 go_ret;exact⟨Z,Z⟩
def Qlj (R:RM) (a k:Int) (e:Ending):Prop:=(0<=k/\k<R.load a/\e=.returned (Iv (wrap64 (wrap64 (a+1)+k))))\/(¬ (0<=k/\k<R.load a)/\e=.panicked (QdR 2))
theorem Qcm (S:WAt w b most m R g) (a k:Int):Calls prog 222 #[Pv b 0,Iv a,Iv k] w fun e w'=>Qlj R a k e/\w'=w:=by
 have C:=Qc (QbO S a);clear S;by_cases d:0<=k
 ·have j:decide (k>=0)=true:=by simpa using d
  by_cases f:k<R.load a
  ·have l:decide (k<R.load a)=true:=by simpa using f
   have E:Hid (Qlj R a k (.returned (Iv (wrap64 (wrap64 (a+1)+k))))):=.inl ⟨d,f,Z⟩;clear d f;go_enter func222,ntmps222
   go_wp2_with (first | (go_at_call 220;refine C.out.mono ?_;rintro i w' ⟨rfl,c⟩;have c:=c.symm;subst c) | (go_at_call 111;refine(QaF _ _).mono ?_;rintro i w' ⟨rfl,c⟩;have c:=c.symm;subst c))
   go_ret;exact⟨E.out,Z⟩
  ·have l:decide (k<R.load a)=false:=by simpa using f
   have E:Hid (Qlj R a k (.panicked (QdR 2))):=.inr ⟨fun h=>f h.2,Z⟩;clear d f;go_enter func222,ntmps222
   go_wp2_with (go_at_call 220;refine C.out.mono ?_;rintro i w' ⟨rfl,c⟩;have c:=c.symm;subst c)
   refine(Qab _ _).mono ?_
   rintro i w' ⟨rfl,c⟩;subst c;exact⟨Z,E.out,Z⟩
 ·have j:decide (k>=0)=false:=by simpa using d
  have E:Hid (Qlj R a k (.panicked (QdR 2))):=.inr ⟨fun h=>d h.1,Z⟩;clear d;go_enter func222,ntmps222
  go_wp2_with fail
  refine(Qab _ _).mono ?_
  rintro i w' ⟨rfl,c⟩;subst c;exact⟨Z,E.out,Z⟩
def RM.thinged (R:RM) (h size:Int) (l:List Int):RM:={ R with e:=(R.e.got h size).withP ((R.e.got h size).p.puts (R.e.getAt h size) l) }
def ThW (g:WG) (w:World) (b most:Nat) (m:List (MFunc 6)) (R:RM) (h size:Int) (l:List Int) (e:Ending) (w':World):Prop :=
 (R.e.getCode h size=0/\e=.returned (Iv (R.e.getAt h size))/\WTo g w w' b most m (R.thinged h size l))\/(R.e.getCode h size≠0/\e=.panicked (QdR 6)/\WTo g w w' b most m R)
theorem QeK (x:Int):∀ (l:List Int) (s:PSt) (k:Int),s.puts k (l++[x])=(s.puts k l).store (k+l.length) x
 | [],s,k=>by simp[PSt.puts]
 | y::l,s,k=>by
   have:=QeK x l (s.store k y) (k+1)
   simp only[List.cons_append,PSt.puts,this,List.length_cons]
   congr 1
   omega
theorem WIn.at (h:WIn w O l (.slice a n c)) (b:l[i]?=some x):∃ k o,a=some ⟨k,o,none⟩/\O k/\w.cell? ⟨k,o+i,none⟩=some (Iv x):=by
 obtain⟨p,d,e,h⟩:=h
 cases e
 have g:=(Zi b).1;obtain⟨k,o,m,j,-,f⟩:=h i g
 refine⟨k,o,m,j,?_⟩
 rw[f]
 simp[List.getD,b]
theorem QdV (S:WAt w b most m R g) (h size:Int)(hn:l.length=n) (hb:n<=1000) (B:WIn w (fun x=>g.ow x=0) l (.slice a n c)) :
 Calls prog 219 #[Pv b 0,Iv h,Iv size,.slice a n c] w fun e w'=>ThW g w b most m R h size l e w':=by
 have C:=Qc (S.getC h size);have V:=Qc (QhT S.est.2 h size);have U:=S.cellE;have HS:=Qc S;have HL:=Qc B;have Q:=Qc hn;clear S B hn;by_cases f:R.e.getCode h size=0
 ·have E:=Qc f;rw[f] at C
  clear f;obtain⟨A,T⟩:∃ A,R.e.getAt h size=A:=⟨_,Z⟩
  have X:=Qc T;rw[T] at C V
  clear T;go_enter func219,ntmps219
  go_upto_region 2 with (go_at_call 254;refine C.out.mono ?_;rintro J t ⟨rfl,I⟩)
  obtain⟨D,L,r,c2,f2⟩:=I
  have L:=Qc L;have r:=Qc r;have CF:=Qc (Xh c2 f2)
  have z:Hid (WIn t (fun x=>D.ow x=0) l (.slice a n c)):=by
   refine WIn.keep (fun k s B=>r.out.block k B (fun e=>e s)) (fun k s B=>?_) HL.out;refine Xq.1 fun N=>?_;rcases r.out.own k N with h | h
   ·exact h s
   ·omega
  clear c2 f2 U C HL;go_wp2_with (go_at_call 111;refine(QaF _ _).mono ?_;rintro J w' ⟨rfl,y⟩;have y:=y.symm;subst y)
  go_loopw [28] (fun i wr=>∃ q:Nat,q<=n/\i=Iv q/\WTo D t wr b most m { R with e:=(R.e.got h size).withP ((R.e.got h size).p.puts A (l.take q)) }) (fun i _=>n - (intOf i).toNat)
  case atStart=>exact⟨0,Xb _,Z,⟨D,by simpa[PSt.puts,Est.withP] using L.out,⟨Qz.refl _ _,Z,Z⟩,Z,Z⟩⟩
  case round =>
   obtain⟨q,hq,rfl,g3,d,v,K,G⟩:=hrel
   by_cases P:q<n
   ·have aa:(q:Int)<n:=by omega
    obtain⟨x,M⟩:∃ x,l[q]?=some x:=⟨_,Zg (by rw[Q.out];exact P)⟩
    obtain⟨k,o,rfl,s,F⟩:=z.out.at M
    have F:wr.cell? ⟨k,o+q,none⟩=some (Iv x):=(XU (w:=t) (a:=⟨k,o+q,none⟩) (v.block k (Xi t _ F) (fun e=>e s))).trans F;have U:=d.cellE;have q1:=d.cellP;have C3:=Qc (d.storeC (A+q) x);have EW:Hid (wrap64 (A+(q:Int))=A+q):=by show _=_;have:=V.out;unfold wrap64;omega
    have R3:Hid (∀ H,WTo g3 wr H b most m (RM.stored { R with e:=(R.e.got h size).withP ((R.e.got h size).p.puts A (l.take q)) } (A+q) x)->WTo D t H b most m { R with e:=(R.e.got h size).withP ((R.e.got h size).p.puts A (l.take (q+1))) }):=by
     intro H j;have j:=WTo.then v K G j;have e1:l.take (q+1)=l.take q++[x]:=by rw[XV,M];rfl
     have e2:(l.take q).length=q:=by rw[List.length_take,Q.out];omega
     rw[e1,QeK,e2]
     exact j
    clear d v K G M s L z r E V;generalize (R.e.got h size).p.puts A (l.take q)=st at *;go_wp2_with (rw[EW.out];go_at_call 221;refine C3.out.mono ?_;rintro J H ⟨rfl,j⟩)
    have R5:=Qc (R3.out _ j);clear j R3 C3 F U q1;go_wp2
    go_roundw
    case rel=>exact⟨q+1,by omega,by go_num,R5.out⟩
    case measure=>simp[intOf];omega
   ·have W:q=n:=by omega
    subst W
    have O:Hid (ThW g w b most m R h size l (.returned (Iv A)) wr):=by
     refine .inl ⟨E.out,by rw[X.out],WTo.then r.out CF.out.1 CF.out.2 ?_⟩;unfold RM.thinged;rw[X.out]
     have e:l.take q=l:=XO (by rw[Q.out];exact Ze);rw[e] at d
     exact⟨g3,d,v,K,G⟩
    clear d v K G;go_wp2
    go_ret;exact O.out
 ·have d0:(R.e.getCode h size==0)=false:=by simpa using f
  have E:=Qc f;have EG:=Qc (Ql5 f);clear f;obtain⟨cd,u⟩:∃ cd,R.e.getCode h size=cd:=⟨_,Z⟩
  rw[u] at C d0
  clear u;go_enter func219,ntmps219
  go_wp2_with (go_at_call 254;refine C.out.mono ?_;rintro J t ⟨rfl,I⟩)
  refine(Qab _ _).mono ?_
  rintro J w' ⟨rfl,y⟩;subst y;rw[EG.out] at I
  exact⟨Z,.inr ⟨E.out,Z,I⟩⟩
end
section
variable {w w' w2:World}{b most:Nat}{m:List (MFunc 6)}{R R':RM}{g g1:WG}
theorem ThW.then {h size:Int}{e:Ending}(T:WSt g g1 w w2) (i:g1.t.c=g.t.c) (f:g1.fs=g.fs) (H:ThW g1 w2 b most m R h size l e w'):ThW g w b most m R h size l e w':=by
 rcases H with ⟨a,c,d⟩|⟨a,c,d⟩
 ·exact .inl ⟨a,c,WTo.then T i f d⟩
 ·exact .inr ⟨a,c,WTo.then T i f d⟩
theorem Qhv (S:WAt w b most m R g) (h:Int)(k:l.length=n) (q:n<=1000) (p:WIn w (fun x=>g.ow x=0) l (.slice a n c)) :
 Calls prog 172 #[Pv b 0,Iv h,.slice a n c] w fun e w'=>ThW g w b most m R h (if l.length=0 then 1 else (l.length:Int)) l e w':=by
 have C:=Qc (QdV S h (if l.length=0 then 1 else (l.length:Int)) k q p)
 have E:(if l.length=0 then 1 else (l.length:Int))=if (1:Int)<=n then (n:Int) else 1:=by
  rw[k]
  split<;>split<;>omega
 rw[E] at C |-
 have o:∀ (x y:Int),max x y=if y<=x then x else y:=fun x y=>by omega
 clear S k q p E;go_enter func172,ntmps172
 by_cases j:(1:Int)<=n
 ·rw[Xs j] at C |-
  have i:max (n:Int) 1=n:=by omega
  clear j o;go_wp2_with fail
  try rw[i]
  refine C.out.mono ?_;rintro s r (⟨f,rfl,d⟩|⟨f,rfl,d⟩)
  ·have R:=Qc (Xh f d);clear f d C i;go_wp2
   go_ret;exact .inl ⟨R.out.1,Z,R.out.2⟩
  ·exact⟨Z,.inr ⟨f,Z,d⟩⟩
 ·rw[Xr j] at C |-
  have i:max (n:Int) 1=1:=by omega
  clear j o;go_wp2_with fail
  try rw[i]
  refine C.out.mono ?_;rintro s r (⟨f,rfl,d⟩|⟨f,rfl,d⟩)
  ·have R:=Qc (Xh f d);clear f d C i;go_wp2
   go_ret;exact .inl ⟨R.out.1,Z,R.out.2⟩
  ·exact⟨Z,.inr ⟨f,Z,d⟩⟩
def QnU (g:WG) (w:World) (b most:Nat) (m:List (MFunc 6)) (R:RM) (h n:Int) (e:Ending) (w':World):Prop :=
 (0<=n/\n<=15/\ThW g w b most m R h (n+1) [n] e w')\/(¬ (0<=n/\n<=15)/\e=.panicked (QdR 3)/\WTo g w w' b most m R)
theorem Qhr (S:WAt w b most m R g) (h n:Int) :
 Calls prog 173 #[Pv b 0,Iv h,Iv n] w fun e w'=>QnU g w b most m R h n e w':=by
 by_cases k:0<=n
 ·have x:decide (n>=0)=true:=by simpa using k
  by_cases o:n<=15
  ·have A:decide (n<=15)=true:=by simpa using o
   have q:=ZP w (.cells #[Iv n] 2);have t:=S.below q;have z:=Qc (S.stepB q);have v:g.ow w.heap.size=0:=Xq.1 fun e=>by have:=S.lt _ e;omega
   have C:=Qc (QdV t h (n+1) (l:=[n]) (a:=some ⟨w.heap.size,0,none⟩) (n:=1) (c:=1) Z (by omega) ⟨_,1,Z,fun i y=>by
    have:i=0:=by simpa using y
    subst this;exact⟨w.heap.size,0,Z,v,by simp,Qb (Qe w #[Iv n] 2) 0 _ Z⟩⟩)
   have u:wrap64 (n+1)=n+1:=by unfold wrap64;omega
   have d:=Qc (Xh k o);clear S t q v k o;go_enter func173,ntmps173
   go_wp2_with (go_at_call 111;refine(QaF _ _).mono ?_;rintro s w' ⟨rfl,j⟩;have j:=j.symm;subst j)
   try rw[u]
   refine C.out.mono ?_;rintro s B f;replace f:=f.then z.out Z Z;rcases f with ⟨p,rfl,f⟩|⟨p,rfl,f⟩
   ·have R:=Qc (Xh p f);clear p f C u;go_wp2
    go_ret;exact .inl ⟨d.out.1,d.out.2,.inl ⟨R.out.1,Z,R.out.2⟩⟩
   ·exact⟨Z,.inl ⟨d.out.1,d.out.2,.inr ⟨p,Z,f⟩⟩⟩
  ·have A:decide (n<=15)=false:=by simpa using o
   have r:=Qc S;have d:Hid (¬ n<=15):=o;clear S k o;go_enter func173,ntmps173
   go_wp2_with fail
   refine(Qab _ _).mono ?_
   rintro s w' ⟨rfl,j⟩;subst j;exact⟨Z,.inr ⟨fun h=>by have:=d.out;omega,Z,WTo.same r.out Zr⟩⟩
 ·have x:decide (n>=0)=false:=by simpa using k
  have r:=Qc S;have d:Hid (¬ 0<=n):=k;clear S k;go_enter func173,ntmps173
  go_wp2_with fail
  refine(Qab _ _).mono ?_
  rintro s w' ⟨rfl,j⟩;subst j;exact⟨Z,.inr ⟨fun h=>by have:=d.out;omega,Z,WTo.same r.out Zr⟩⟩
end
theorem Xu:type_of% @decide_eq_false:=@decide_eq_false
section
variable {w w' w2:World}{b most:Nat}{m:List (MFunc 6)}{R R':RM}{g g1:WG}
theorem WAt.setOut (S:WAt w b most m R g){n:Int}{v9:Value}{w9:World}(r:w9.ownsRow 0 2 1 v9 (R.out.length+1) (R.out.map (Value.int .i64)++[Iv n])) (c:w.grownBy w9 g.vo.ownBlock) (l:∀ k,v9.ownBlock=some k->g.vo.ownBlock=some k\/k=w.heap.size) :
 WTo g w (w9.setCell ⟨b,7,none⟩ v9) b most m { R with out:=R.out++[n] }:=by
 have j:=XC S.box;have f:∀ x,g.vo.ownBlock=some x->x≠b:=fun x a e=>by have:=S.oo x a;rw[e,S.ob] at this;omega
 have i:w9.heap[b]?=_:=(c.block b j (fun e=>f _ e.symm Z)).trans S.box
 have d:∀ k,v9.ownBlock=some k->k≠b:=fun k q e=>by
  rcases l k q with h | h
  ·exact f k h e
  ·omega
 have s:w.heap.size<=(w9.setCell ⟨b,7,none⟩ v9).heap.size:=by simpa using c.size
 have k:Wc g.ow (Qdd g.ow 4 w (w9.setCell ⟨b,7,none⟩ v9)) (fun x=>x=1\/x=4) w (w9.setCell ⟨b,7,none⟩ v9):=Wc.marks S (by omega) c.os c.tape c.output s (fun x a o=>by
  rw[Xd _ _ _ _ (fun (e:x=b)=>o (.inl (e ▸ S.ob)))]
  exact c.block x a (fun e=>o (.inr (S.oo x e.symm))))
 have p:QbE (w9.setCell ⟨b,7,none⟩ v9) v9 (R.out++[n]):=by
  show World.ownsRow _ 0 _ 1 v9 (R.out++[n]).length ((R.out++[n]).map (Value.int .i64));rw[List.length_append,List.map_append]
  exact QY r (fun x a=>Xd _ _ _ _ (d x a))
 refine⟨{ g with vo:=v9,ow:=Qdd g.ow 4 w (w9.setCell ⟨b,7,none⟩ v9) },⟨?_,S.kEst k (by omega),S.kMod k,S.kInp k,S.inpC,S.kCalls k (by omega),S.kBack k,p,S.kFrs k (fun x h e=>by omega),S.kob k,S.koc k,fun x a=>?_,k.lt,S.klow k⟩,⟨k.step,Z,Z⟩,Z,Z⟩
 ·have:=Qh i 7 v9
  simpa using this
 ·rcases l x a with h | h
  ·exact(QaQ (S.out.lt h)).trans (S.oo x h)
  ·exact Qc5 (by omega) (p.lt a)
theorem QfH (S:WAt w b most m R g) (n:Int) (U:R.out.length<=2000) :
 Calls prog 175 #[Pv b 0,Iv n] w fun e w'=>(R.out.length<2000/\e=.returned (.tuple #[])/\WTo g w w' b most m { R with out:=R.out++[n] })\/(¬ R.out.length<2000/\e=.panicked (QdR 8)/\WTo g w w' b most m R):=by
 obtain⟨I,J,r,A,p⟩:=iInfo64
 obtain⟨Q,O,l⟩:=QaR S.out
 have B:w.cell? ⟨b,7,none⟩=some g.vo:=Qb S.box 7 _ Z;rw[l] at B
 have G:=Qc S;have t:=Qc l;by_cases j:R.out.length<2000
 ·have K:decide ((R.out.length:Int)<2000)=true:=Xt (by omega);have q:=ZP w (.cells #[Iv n] 2);have i:=Qc (S.below q);have C:=Qc (S.stepB q);have o:=Qc i.out.out;have E:=Qc (QmL w [Iv n] 2);have L:Hid ((w.alloc (.cells #[Iv n] 2)).heap.size=w.heap.size+1):=by show _=_;simp
  have c:=Qc (fun v9 w9=>i.out.setOut (v9:=v9) (w9:=w9) (n:=n));have d:=Qc i.out.box;have f:Hid (∀ x,g.vo.ownBlock=some x->x≠b):=fun x H e=>by have:=S.oo x H;rw[e,S.ob] at this;omega
  have y:Hid (R.out.length<2000):=j;clear S l j q G;unfold QbE at o;rw[t.out] at o c f
  go_enter func175,ntmps175
  go_upto_region 1 with (go_at_call 111;refine(QaF _ _).mono ?_;rintro M w' ⟨rfl,h⟩;have h:=h.symm;subst h)
  go_wp2_with (at_builtin;refine ZO _ Z _ _ 25 Z 2 I (Iv 0) 1 8 iUnder64 J r A p Z (by decide) _ _ _ Z o.out ⟨w.heap.size,0,none⟩ 1 1 [Iv n] Z Z E.out (by intro u F;simp at F;subst F;rfl) (by unfold maxLen;omega) (by omega) ?_)
  intro v9 w9 z s D;have R:=Qc (WTo.then C.out Z Z (c.out v9 w9 z s (fun k N=>(D k N).imp id (fun e=>by rw[L.out];exact e))));have a:=(s.block b (XC d.out) (fun e=>f.out b e.symm Z)).trans d.out;have P:w9.cell? ⟨b,7,none⟩=some g.vo:=Qb a 7 _ Z;have W:=Qj a 7;obtain⟨T,V,rfl⟩:=QaR z
  clear z s D c a d o B E C i f;go_wp2
  exact Xz (v:=.tuple #[]) (by simp[results,results175,go_sem]) Z (.inl ⟨y.out,Z,R.out⟩)
 ·have K:decide ((R.out.length:Int)<2000)=false:=Xu (by omega);have y:Hid (¬ R.out.length<2000):=j;clear S l j;go_enter func175,ntmps175
  go_wp2_with fail
  refine(Qab _ _).mono ?_
  rintro M w' ⟨rfl,h⟩;subst h;exact⟨Z,.inr ⟨y.out,Z,WTo.same G.out Zr⟩⟩
def Qnt (g:WG) (w:World) (b most:Nat) (m:List (MFunc 6)) (R:RM) (e:Ending) (w':World):Prop:=match R.inp with
 | []=>e=.panicked (QdR 4)/\WTo g w w' b most m R
 | n::l=>e=.returned (.int .i64 n)/\WTo g w w' b most m { R with inp:=l }
theorem QfZ (S:WAt w b most m R g) (u:R.inp.length<=1000000) :
 Calls prog 174 #[Pv b 0] w fun e w'=>Qnt g w b most m R e w':=by
 have o:w.cell? ⟨b,2,none⟩=some (.slice g.pi R.inp.length g.ci):=Qb S.box 2 _ Z;have z:=Qc S;unfold Qnt
 cases hi:R.inp with
 | nil =>
   rw[hi] at o
   clear S;go_enter func174,ntmps174
   go_wp2_with fail
   refine(Qab _ _).mono ?_
   rintro J w' ⟨rfl,a⟩;subst a;exact⟨Z,Z,WTo.same z.out Zr⟩
 | cons n l =>
   have d:=S.inp;have f:=S.inpC;rw[hi] at o d f
   obtain⟨F,r,y,-,q,M⟩:=ZI d (i:=0) (by simp)
   simp only[List.getD_cons_zero,Nat.add_zero] at M
   rw[y] at o d
   simp only[List.length_cons] at o f
   have N:=Qj S.box 2
   have v:intsL.In w (fun x=>g.ow x=0/\g.lk<=x/\x<b) l [.slice (some ⟨F,r+1,none⟩) l.length (g.ci - 1)]:=by
    refine⟨_,_,Z,fun i x A=>?_⟩
    obtain⟨P,O,L,c,t,s,K,C⟩:=Yf d (i:=i+1) (x:=x) (by simpa using A)
    injection c with c
    injection c with c e10
    subst c;subst e10;refine⟨_,_,L,Z,t,s,fun j B=>?_,C⟩
    have:=K j B
    rw[show r+1+i*Lay.int.size+j=r+(i+1)*Lay.int.size+j by simp[Lay.int];omega]
    exact this
   have p:∀ (pi:Option Addr) (ci:Nat),intsL.In w (fun x=>g.ow x=0/\g.lk<=x/\x<b) l [.slice pi l.length ci]->l.length<=ci->WTo g w (w.setCell ⟨b,2,none⟩ (.slice pi l.length ci)) b most m { R with inp:=l }:=fun pi ci t s=>by
    refine S.reBox (R':={ R with inp:=l }) Z Z Z (by simp) (fun k Q h=>Xd _ _ _ _ h) ⟨Z,Z,Z,Z⟩ (pi:=pi) (ci:=ci) (vb:=g.vb) ⟨t,s⟩ S.back ?_;rw[Qh S.box 2 _]
    simp
   have E:=Qc (p _ _ v (by omega))
   have D:Hid (l.length=0->∀ pi ci,WTo g w (w.setCell ⟨b,2,none⟩ (.slice pi l.length ci)) b most m { R with inp:=l }):=fun e pi ci=>p pi ci (by
    have:l=[]:=Xf.1 e
    subst this;exact Yg _ _ _ _ _) (by omega)
   have I:((g.ci:Int) - 1)=((g.ci - 1:Nat):Int):=by omega
   have G:l.length+1<=1000000:=by rw[hi] at u;simpa using u
   clear S d v z y hi u q p;generalize g.ci=ci at *;go_enter func174,ntmps174
   have H:decide (((l.length+1:Nat):Int)>0)=true:=Xt (by omega);go_upto_region 2 with (go_at_call 111;refine(QaF _ _).mono ?_;rintro J w' ⟨rfl,a⟩;have a:=a.symm;subst a)
   clear H;go_wp2
   ·go_ret;exact⟨Z,D.out (by omega) _ _⟩
   ·go_ret;exact⟨Z,E.out⟩
end
theorem Xg:type_of% @Nat.le_of_ble_eq_true:=@Nat.le_of_ble_eq_true
def Qho (w6:World) (fr:RFr) (v:Value) (w:World):Prop:=∃ k x n,v=Pv k 0/\w6.heap.size<=k/\w6.heap.size<=x/\WFr w k fr (.slice (some ⟨x,0,none⟩) n n)
def QmC (w6:World) (fr:RFr) (v:Value) (w:World):Prop:=∃ x n,v=.agg (frA fr (.slice (some ⟨x,0,none⟩) n n))/\w6.heap.size<=x/\QbE w (.slice (some ⟨x,0,none⟩) n n) fr.v
theorem Qho.below {w w':World}{fr:RFr}{v:Value}(h:Qho w6 fr v w) (b:Below w.heap.size w w'):Qho w6 fr v w':=by
 obtain⟨k,x,n,e,d,a,c⟩:=h
 exact⟨k,x,n,e,d,a,c.below b⟩
theorem QmC.below {w w':World}{fr:RFr}{v:Value}(h:QmC w6 fr v w) (b:Below w.heap.size w w'):QmC w6 fr v w':=by
 obtain⟨x,n,e,d,a⟩:=h
 exact⟨x,n,e,d,QY a (fun y c=>b.block y (a.lt c))⟩
def QnA (w6:World) (fr:RFr) (c X fi bi na ca:Nat) (pa:Option Addr) (t:Tmp) (v:Value) (w:World):Prop :=
 match ([(14,Qho w6 fr),(15,Qho w6 fr),(16,QmC w6 fr)]:List (Tmp × (Value->World->Prop))).lookup t with
 | some p=>p v w
 | none=>v=(([(0,.pointer (some ⟨c,0,none⟩)),(3,.pointer (some ⟨X,0,none⟩)),(4,.pointer (some ⟨c,0,none⟩)),(5,.pointer (some ⟨c,0,none⟩)),(6,.pointer (some ⟨c,0,none⟩)),(7,.pointer (some ⟨c,0,none⟩)),(8,.pointer (some ⟨c,0,none⟩)),(9,.int .i64 (fi:Int)),(10,.pointer (some ⟨X,0,none⟩)),(11,.int .i64 (bi:Int)),(12,.pointer (some ⟨X,2,none⟩)),(13,.slice pa na ca),(17,.pointer (some ⟨c,0,none⟩))]:List (Tmp × Value)).lookup t).getD undef
theorem wj1 {fr:RFr}{c r:Nat}(I:w6.cell? ⟨c,0,none⟩=some (Iv (fi:Int))) (G:w6.cell? ⟨X,0,none⟩=some (Iv (bi:Int))) (J:w6.cell? ⟨X,2,none⟩=some (.slice pa r ca)) (H:Hid (∀ wx,Below w6.heap.size w6 wx->Calls prog 216 #[Pv c 0,Iv (fi:Int),Iv (bi:Int),.slice pa r ca] wx fun e w'=>QmQ wx fr e w')){Q:Exit->Act->World->Prop}
 (a:Act) (m:Nat) (L:a.tmps.size=m) (y:18<=m) (F:a.tmps.getD 0 undef=Pv c 0) (i:a.tmps.getD 3 undef=Pv X 0)
 (hend:∀ ops vs w',(QmC w6 fr) (vs 16) w'->vs 17=Pv c 0->Below w6.heap.size w6 w'->wpList prog ops Q (Qal 14 ((Tryz.f168.body.bind (Qi 1)).getD .skip)) (QM a vs [4,5,6,7,8,9,10,11,12,13,14,15,16,17]) w') :
 Code.wp prog ((Tryz.f168.body.bind (Qi 1)).getD .skip) Q a w6:=by
 conv=>arg 2;whnf
 refine Qg 14 (QnA w6 fr c X fi bi r ca pa) (fun w=>Below w6.heap.size w6 w) (fun w w'=>Below w.heap.size w w') (outs:=[0,3]) (gs:=[]) (bs:=[true,true,true,true,true,true,true,true,true,true,true,true,true,true]) (by kernel_rfl) (n:=18) L y (by kernel_rfl) (by kernel_rfl) ?hR ?hG (QI Zr 1) ⟨F,i,Y⟩ ?hA ?hend
 case hR =>
  intro t v w w' z h;unfold QnA at h |-;split at h
  ·rename_i p j
   simp only[List.lookup_cons,List.lookup_nil] at j
   split at j
   ·cases j;exact h.below z
   ·split at j
    ·cases j;exact h.below z
    ·split at j
     ·cases j;exact h.below z
     ·cases j
  ·exact h
 case hG=>exact Y
 case hend=>exact fun ops vs w' d f=>hend ops vs w' (f 16 (by kernel_rfl)) (f 17 (by kernel_rfl)) d
 case hA =>
  refine⟨fun a w d f K g=>?_,?_⟩
  ·obtain⟨b,-⟩:=f
   have b:a.tmps.getD 0 undef=Pv c 0:=b;go_simp;exact g _ _ Zr d Z
  refine⟨fun a w d f K g=>?_,?_⟩
  ·obtain⟨b,-⟩:=f
   have b:a.tmps.getD 0 undef=Pv c 0:=b;go_simp;exact g _ _ Zr d Z
  refine⟨fun a w d f K g=>?_,?_⟩
  ·obtain⟨b,-⟩:=f
   have b:a.tmps.getD 0 undef=Pv c 0:=b;go_simp;exact g _ _ Zr d Z
  refine⟨fun a w d f K g=>?_,?_⟩
  ·obtain⟨b,-⟩:=f
   have b:a.tmps.getD 6 undef=Pv c 0:=b;go_simp;exact g _ _ Zr d Z
  refine⟨fun a w d f K g=>?_,?_⟩
  ·obtain⟨b,-⟩:=f
   have b:a.tmps.getD 7 undef=Pv c 0:=b;go_simp;exact g _ _ Zr d Z
  refine⟨fun a w d f K g=>?_,?_⟩
  ·obtain⟨b,-⟩:=f
   have b:a.tmps.getD 8 undef=Pv c 0:=b;have D:=Qk I d;go_simp;exact g _ _ Zr d Z
  refine⟨fun a w d f K g=>?_,?_⟩
  ·obtain⟨b,-⟩:=f
   have b:a.tmps.getD 3 undef=Pv X 0:=b;go_simp;exact g _ _ Zr d Z
  refine⟨fun a w d f K g=>?_,?_⟩
  ·obtain⟨b,-⟩:=f
   have b:a.tmps.getD 10 undef=Pv X 0:=b;have D:=Qk G d;go_simp;exact g _ _ Zr d Z
  refine⟨fun a w d f K g=>?_,?_⟩
  ·obtain⟨b,-⟩:=f
   have b:a.tmps.getD 3 undef=Pv X 0:=b;go_simp;exact g _ _ Zr d Z
  refine⟨fun a w d f K g=>?_,?_⟩
  ·obtain⟨b,-⟩:=f
   have b:a.tmps.getD 12 undef=Pv X 2:=b;have D:=Qk J d;go_simp;exact g _ _ Zr d Z
  refine⟨fun a w d f K g=>?_,?_⟩
  ·obtain⟨b,A,C,B,-⟩:=f
   have b:a.tmps.getD 5 undef=Pv c 0:=b;have A:a.tmps.getD 9 undef=Iv (fi:Int):=A;have C:a.tmps.getD 11 undef=Iv (bi:Int):=C;have B:a.tmps.getD 13 undef=.slice pa r ca:=B;go_simp;refine Xm (H.out w d) ?_;rintro M P ⟨q,o,k,rfl,s,l,i,E⟩;go_simp;exact g _ _ E (d.trans (E.mono d.size)) ⟨q,o,k,Z,Zt d.size s,Zt d.size l,i⟩
  refine⟨fun a w d f K g=>?_,?_⟩
  ·obtain⟨b,-⟩:=f
   have b:(Qho w6 fr) (a.tmps.getD 14 undef) w:=b;generalize u:a.tmps.getD 14 undef=x at b;obtain⟨q,o,k,rfl,s,l,i⟩:=b
   go_simp;exact g _ _ Zr d ⟨q,o,k,Z,s,l,i⟩
  refine⟨fun a w d f K g=>?_,?_⟩
  ·obtain⟨b,-⟩:=f
   have b:(Qho w6 fr) (a.tmps.getD 15 undef) w:=b;generalize u:a.tmps.getD 15 undef=x at b;obtain⟨q,o,k,rfl,s,l,i⟩:=b
   have O:=Qb i.1 0 _ Z;have S:=Qb i.1 1 _ Z;have N:=Qb i.1 2 _ Z;have R:=Qb i.1 3 _ Z;go_simp;exact g _ _ Zr d ⟨o,k,Z,l,i.2⟩
  refine⟨fun a w d f K g=>?_,?_⟩
  ·obtain⟨b,-⟩:=f
   have b:a.tmps.getD 4 undef=Pv c 0:=b;go_simp;exact g _ _ Zr d Z
  trivial
section
variable {w w' w2:World}{b most:Nat}{m:List (MFunc 6)}{R R':RM}{g g1:WG}{c:Nat}{fr:RFr}{v:Value}
theorem Ql9 {w:World}{c:Nat}{a0 g i f:Value}(h:w.heap[c]?=some (.cells #[a0,g,i,f] 132 (0,0))) (a e b d:Value) :
 ((((w.setCell ⟨c,0,none⟩ a).setCell ⟨c,1,none⟩ e).setCell ⟨c,2,none⟩ b).setCell ⟨c,3,none⟩ d).heap[c]?=some (.cells #[a,e,b,d] 132 (0,0)):=by
 have:=Qh (Qh (Qh (Qh h 0 a) 1 e) 2 b) 3 d
 simpa using this
theorem WAt.newTop (S:WAt w b most m R g) (B:Below w.heap.size w w'){fr:RFr}{x:Nat}(p:w.heap.size<=x) (h:QbE w' (.slice (some ⟨x,0,none⟩) n n) fr.v) :
 WTo g w ((((w'.setCell ⟨g.t.c,0,none⟩ (Iv fr.f)).setCell ⟨g.t.c,1,none⟩ (Iv fr.b)).setCell ⟨g.t.c,2,none⟩ (Iv fr.i)).setCell ⟨g.t.c,3,none⟩ (.slice (some ⟨x,0,none⟩) n n)) b most m { R with top:=fr }:=by
 have F:=S.top;have d:=XC F.1;have o:w'.heap[g.t.c]?=_:=(B.block _ d).trans F.1
 have e:∀ k,k≠g.t.c->((((w'.setCell ⟨g.t.c,0,none⟩ (Iv fr.f)).setCell ⟨g.t.c,1,none⟩ (Iv fr.b)).setCell ⟨g.t.c,2,none⟩ (Iv fr.i)).setCell ⟨g.t.c,3,none⟩ (.slice (some ⟨x,0,none⟩) n n)).heap[k]?=w'.heap[k]?:=fun k a=>by
  rw[Xd _ _ _ _ a,Xd _ _ _ _ a,Xd _ _ _ _ a,Xd _ _ _ _ a]
 refine S.setTop B.os B.tape B.output (by simpa using B.size) (fun k a j _=>(e k j).trans (B.block k a)) ⟨Ql9 o _ _ _ _,QY h (fun y l=>?_)⟩ (fun k a=>.inr ?_)
 ·have:y=x:=by simpa[Value.ownBlock] using l.symm
  exact e y (by omega)
 ·have:k=x:=by simpa[Value.ownBlock] using a.symm
  omega
theorem Qju (S:WAt w b most m R g) (Q:R.top.v.length<=1000000){t:MTo}(A:t.block=(bi:Int)){N:Nat->Prop}{k:Option Addr}{o r:Nat}(I:intsL.In w N t.args [.slice pa t.args.length ca]) (L:t.args.length<=1000) (j:Qaz R.top.v t.args=some xs) :
 Calls prog 168 #[Pv g.t.c 0,.agg #[Iv t.block,.slice k o r,.slice pa t.args.length ca]] w fun e w'=>e=.returned (.tuple #[])/\WTo g w w' b most m { R with top:=⟨R.top.f,t.block.toNat,0,xs⟩ }:=by
 rw[A,XT]
 have q:=Qc (ZP w (.cells #[Iv (bi:Int),.slice k o r,.slice pa t.args.length ca] 82));have p:=Qc (Qe w #[Iv (bi:Int),.slice k o r,.slice pa t.args.length ca] 82);have i:=Qc (S.below q.out);have y:=Qc (S.stepB q.out);have B:=Qc (Ya I q.out);have K:=Qc j;have O:=Qc L;clear S I j L;go_enter func168,ntmps168
 go_upto_region 1 with fail
 generalize w.alloc (.cells #[Iv (bi:Int),.slice k o r,.slice pa t.args.length ca] 82)=C at q p i y B |-;generalize w.heap.size=X at p |-;have F:Hid (∀ l,Below C.heap.size C l->Calls prog 216 #[Pv g.t.c 0,Iv (R.top.f:Int),Iv (bi:Int),.slice pa t.args.length ca] l fun e w'=>QmQ l ⟨R.top.f,bi,0,xs⟩ e w'):=fun l M=>QdU (i.out.top.below M) Q Z (by have:=O.out;omega) (Ya B.out M) K.out R.top.f bi;have G:C.cell? ⟨g.t.c,0,none⟩=some (Iv R.top.f):=Qb i.out.top.1 0 _ Z;have E:=Qb p.out 0 _ Z;have H:=Qb p.out 2 _ Z;refine wj1 G E H F _ _ Z (Xg (by kernel_rfl)) Z Z ?_;rintro u P J ⟨x,n,d,j,D⟩ h z;show wpList _ u _ [_] (QM _ P [4,5,6,7,8,9,10,11,12,13,14,15,16,17]) J;simp only[QM,Act.put,List.setIfInBounds_toArray,List.set_cons_zero,List.set_cons_succ,d,h]
 have s:=Qc (WTo.then y.out Z Z (i.out.newTop z j (fr:=⟨R.top.f,bi,0,xs⟩) D));have a:J.heap[g.t.c]?=_:=(z.block _ (XC i.out.top.1)).trans i.out.top.1;have c0:=Qb a 0 _ Z;have V:=Qb a 1 _ Z;have c2:=Qb a 2 _ Z;have c3:=Qb a 3 _ Z;have z0:=Qj a 0;have T:=Qj a 1;have U:=Qj a 2;have W:=Qj a 3;clear d h z G E H F D a i y K B;go_wp2
 exact Xz (v:=.tuple #[]) (by simp[results,results168,go_sem]) Z ⟨Z,s.out⟩
end
section
variable {w w' w5 w9:World}{b most:Nat}{m:List (MFunc 6)}{R R':RM}{g g1:WG}
theorem WAt.next (S:WAt w b most m R g):WTo g w (w.setCell ⟨g.t.c,2,none⟩ (Iv ((R.top.i:Int)+1))) b most m { R with top:={ R.top with i:=R.top.i+1 } }:=by
 obtain⟨⟨F,f,d⟩,-⟩:=S.frs
 refine S.setTop Z Z Z (by simp) (fun x a h _=>Xd _ _ _ _ h) (v:=g.t.v) ⟨?_,?_⟩ (fun x a=>.inl a)
 ·rw[Qh F.1 2 (Iv ((R.top.i:Int)+1))]
  simp
 ·exact QY F.2 (fun x a=>Xd _ _ _ _ (fun (e:x=g.t.c)=>by have:=d x a;rw[e,f] at this;omega))
theorem WAt.pushFr (S:WAt w b most m R g) (n:Below w.heap.size w w5){c i j:Nat}{fr:RFr}(F:WFr w5 c fr (.slice (some ⟨i,0,none⟩) j j)) (M:w.heap.size<=c) (L:w.heap.size<=i)
 {v9:Value} (C:w9.ownsRow 0 130 1 v9 (R.rest.length+1+1) (Qaw (g.t::g.fs)++[Pv c 0])) (l:w5.grownBy w9 g.vc.ownBlock) (A:∀ k,v9.ownBlock=some k->g.vc.ownBlock=some k\/k=w5.heap.size) :
 ∃ g',WAt (w9.setCell ⟨b,4,none⟩ v9) b most m { R with top:=fr,rest:=R.top::R.rest } g'/\WSt g g' w (w9.setCell ⟨b,4,none⟩ v9)/\g'.fs=g.t::g.fs:=by
 have v:=XC S.box;have I:=n.size;have H:=l.size;have y:=XC F.1;have u:=F.2.lt (x:=i) Z
 have z:i≠c:=fun e=>by
  obtain⟨q,G⟩:=ZQ F.2 (x:=i) Z
  exact Zc G F.1 (by decide) e
 have D:w.heap.size<=(w9.setCell ⟨b,4,none⟩ v9).heap.size:=by simp;omega
 have o:∀ x,g.vc.ownBlock=some x->x≠b:=fun x a e=>by have:=S.oc x a;rw[e,S.ob] at this;omega
 have p:w9.heap[b]?=_:=(l.block b (by omega) (fun e=>o _ e.symm Z)).trans ((n.block b v).trans S.box)
 have r:∀ k,v9.ownBlock=some k->k≠b:=fun k K e=>by
  rcases A k K with h | h
  ·exact o k h e
  ·omega
 have f:∀ k,w.heap.size<=k->k<w5.heap.size->(w9.setCell ⟨b,4,none⟩ v9).heap[k]?=w5.heap[k]?:=fun k N J=>by
  rw[Xd _ _ _ _ (fun (e:k=b)=>by omega)]
  exact l.block k J (fun e=>by have:=XC (ZQ S.calls e.symm).choose_spec;omega)
 let ow':Nat->Nat:=fun x=>if x<w.heap.size then g.ow x else if x<w9.heap.size then (if x=c then 5+2*(R.rest.length+1) else if x=i then 6+2*(R.rest.length+1) else 3) else 0
 have d:∀ x,x<w.heap.size->ow' x=g.ow x:=fun x a=>Xs a
 have k:Wc g.ow ow' (fun x=>x=1\/x=3) w (w9.setCell ⟨b,4,none⟩ v9):=⟨l.os.trans n.os,l.tape.trans n.tape,l.output.trans n.output,D,d,fun x a B=>by
  rw[Xd _ _ _ _ (fun (e:x=b)=>B (.inl (e ▸ S.ob)))]
  exact(l.block x (by omega) (fun e=>B (.inr (S.oc x e.symm)))).trans (n.block x a),by omega,fun x a=>by
  have:x<w9.heap.size:=by
   refine Xq.1 fun h=>a ?_;show (if x<w.heap.size then _ else if x<w9.heap.size then _ else 0)=0;rw[Xr (by omega),Xr h]
  simpa using this⟩
 have E:(w9.setCell ⟨b,4,none⟩ v9).ownsRow 0 130 1 v9 (R.rest.length+1+1) (Qaw (⟨c,.slice (some ⟨i,0,none⟩) j j⟩::g.t::g.fs)):=by
  have e:Qaw (⟨c,.slice (some ⟨i,0,none⟩) j j⟩::g.t::g.fs)=Qaw (g.t::g.fs)++[Pv c 0]:=by simp[Qaw]
  rw[e]
  exact QY C (fun x a=>Xd _ _ _ _ (r x a))
 refine⟨{ g with vc:=v9,t:=⟨c,.slice (some ⟨i,0,none⟩) j j⟩,fs:=g.t::g.fs,ow:=ow' },⟨?_,S.kEst k (by omega),S.kMod k,S.kInp k,S.inpC,E,S.kBack k,S.kOut k (by omega),⟨⟨F.keep (f c M y) (fun x a=>?_),?_,fun x a=>?_⟩,S.kFrs k (fun x h e=>by omega)⟩,S.kob k,fun x a=>?_,S.koo k,k.lt,S.klow k⟩,⟨k.step,Z,Z⟩,Z⟩
 ·have:=Qh p 4 v9
  simpa using this
 ·have:x=i:=by simpa[Value.ownBlock] using a.symm
  subst this;exact f x L u
 ·show (if c<w.heap.size then _ else if c<w9.heap.size then _ else 0)=_;rw[Xr (by omega),Xs (by omega),Xs Z]
  simp
 ·have:x=i:=by simpa[Value.ownBlock] using a.symm
  subst this;show (if x<w.heap.size then _ else if x<w9.heap.size then _ else 0)=_;rw[Xr (by omega),Xs (by omega),Xr z,Xs Z]
  simp
 ·rcases A x a with h | h
  ·exact(d x (XC (ZQ S.calls h).choose_spec)).trans (S.oc x h)
  ·have s:=XC (ZQ C a).choose_spec;show (if x<w.heap.size then _ else if x<w9.heap.size then _ else 0)=_;rw[Xr (by omega),Xs s,Xr (by omega),Xr (by omega)]
theorem WAt.next2 (S:WAt w b most m R g){y:WB}{t:List WB}{fr:RFr}{rest:List RFr}(l:g.fs=y::t) (p:R.rest=fr::rest) :
 WGo g w (w.setCell ⟨y.c,2,none⟩ (Iv ((fr.i:Int)+1))) b most m { R with rest:={ fr with i:=fr.i+1 }::rest }:=by
 have n:=S.frs;rw[l,p] at n
 obtain⟨⟨r,h,f⟩,⟨o,j,q⟩,u⟩:=n
 have d:∀ x,x≠y.c->(w.setCell ⟨y.c,2,none⟩ (Iv ((fr.i:Int)+1))).heap[x]?=w.heap[x]?:=fun x a=>Xd _ _ _ _ a;have k:Wc g.ow g.ow (fun x=>x=5+2*rest.length) w (w.setCell ⟨y.c,2,none⟩ (Iv ((fr.i:Int)+1))):=⟨Z,Z,Z,by simp,fun _ _=>rfl,fun x a s=>d x (fun e=>s (by rw[e];exact j)),by omega,fun x a=>by simpa using S.lt x a⟩;simp only[List.length_cons] at h f
 refine⟨g,⟨(S.kBox k (by omega)).trans S.box,S.kEst k (by omega),S.kMod k,S.kInp k,S.inpC,?_,S.kBack k,S.kOut k (by omega),?_,S.ob,S.oc,S.oo,k.lt,S.klow k⟩,⟨k.step,Z,Z⟩⟩
 ·have:=S.kCalls k (by omega)
  rw[p] at this
  exact this
 ·rw[l]
  refine⟨⟨r.keep (d _ (fun e=>?_)) (fun x a=>d x (fun e=>?_)),h,f⟩,⟨⟨?_,?_⟩,j,q⟩,u.keep (fun _ _=>rfl) (fun x a z v=>k.keep x a (by omega))⟩
  ·rw[e] at h;omega
  ·have:=f x a;rw[e] at this;omega
  ·rw[Qh o.1 2 (Iv ((fr.i:Int)+1))]
   simp
  ·exact QY o.2 (fun x a=>d x (fun e=>by have:=q x a;rw[e] at this;omega))
theorem WAt.pop (S:WAt w b most m R g){y:WB}{i:List WB}{d:RFr}{rest:List RFr}(o:g.fs=y::i) (s:R.rest=d::rest)(u:g.vc=.slice a (R.rest.length+1) cap) :
 ∃ g',WAt (w.setCell ⟨b,4,none⟩ (.slice a R.rest.length cap)) b most m { R with top:=d,rest:=rest } g'/\WSt g g' w (w.setCell ⟨b,4,none⟩ (.slice a R.rest.length cap))/\g'.t=y:=by
 have r:=S.frs;rw[o,s] at r
 have l:∀ x,g.vc.ownBlock=some x->x≠b:=fun x f e=>by have:=S.oc x f;rw[e,S.ob] at this;omega
 have k:Wc g.ow g.ow (fun x=>x=1) w (w.setCell ⟨b,4,none⟩ (.slice a R.rest.length cap)):=⟨Z,Z,Z,by simp,fun _ _=>rfl,fun x f H=>Xd _ _ _ _ (fun (e:x=b)=>H (e ▸ S.ob)),by omega,fun x f=>by simpa using S.lt x f⟩;have G:(Value.slice a R.rest.length cap).ownBlock=g.vc.ownBlock:=by rw[u];cases a<;>rfl
 refine⟨{ g with vc:=.slice a R.rest.length cap,t:=y,fs:=i },⟨?_,S.kEst k (by omega),S.kMod k,S.kInp k,S.inpC,?_,S.kBack k,S.kOut k (by omega),r.2.keep (fun _ _=>rfl) (fun x f M J=>k.keep x f (by omega)),S.ob,fun x f=>S.oc x (by rw[<-G];exact f),S.oo,k.lt,S.klow k⟩,⟨k.step,Z,Z⟩,Z⟩
 ·rw[Qh S.box 4 (.slice a R.rest.length cap)]
  simp
 ·obtain⟨L,B⟩:=S.calls
  have D:Qaw (g.t::g.fs)=Qaw (y::i)++[Pv g.t.c 0]:=by rw[o];simp[Qaw]
  have p:(Qaw (y::i)).length=R.rest.length:=by have:=S.rows;rw[o] at this;simpa[Qaw] using this
  show World.ownsRow _ 0 _ 1 (.slice a R.rest.length cap) (rest.length+1) (Qaw (y::i));have q:rest.length+1=R.rest.length:=by rw[s];simp
  rw[q]
  refine⟨by rw[p];simp,?_⟩
  rcases B with ⟨j,z⟩|⟨v,I,h,j,z,C,K,E,A,F⟩
  ·omega
  ·have n:=l v (by rw[j];rfl);rw[u] at j
   cases j
   refine .inr ⟨v,cap,h,Z,Xb _,(Xd _ _ _ _ n).trans C,by omega,E,A,?_⟩
   have:h.toList.take (R.rest.length*1)=(h.toList.take ((R.rest.length+1)*1)).take (R.rest.length*1):=by rw[List.take_take,Nat.min_eq_left (by omega)]
   rw[this,F,D,List.take_append_of_le_length (by omega),XO (by omega)]
end
theorem QfY {l l2:List Oper}{outs:List Tmp}{gs:List (Nat × Option Bool)}{a:Act}{w:World}{Q:Exit->Act->World->Prop}
 (E:(Nat->Bool)->Tmp->Value->World->Prop) (W:(Nat->Bool)->World->Prop) (PX:List PanicEntry->World->Prop) (C:∀ ch a' w',a'.defers=a.defers->PX ch w'->Q (.panic ch) a' w')
 (s:P.follows .mixedOrders=true)  (H:a.tmps.size=m) (i:n<=m) (u:QaP l n outs gs bs=true)
 (r:(Qcq 0 (l++l2)&&(Qbp l.length l&&QaK (l++l2) l.length l2))=true)
 (y:∀ S,ZK (E S) l.toArray gs) (k:W (fun _=>false) w.drew) (v:Qaf (E (fun _=>false)) a w.drew outs)
 (A:AllOkY E W PX P l 0 l bs)
 (b:∀ (vs:Tmp->Value) (S:Nat->Bool) w',(∀ j,j<l.length->S j=true)->W S w'->(∀ t,(Qs l).contains t=true->E S t (vs t) w')->wpList P (l++l2).toArray Q l2 (QM a vs (Qs l)) w') :
 (Code.region id (l++l2).toArray true).wp P Q a w:=by
 simp only[Bool.and_eq_true] at r
 obtain⟨f,g,p⟩:=r
 refine wp_region_any s ?_
 have c:wpAny P .any l.toArray (Exit.then (fun a w=>wpList P (l++l2).toArray Q l2 a w) Q) l.length (Array.replicate l.length false) a w.drew:=by
  have d:(fun j=>(Array.replicate l.length false).getD j false)=fun _=>false:=by
   funext j
   rw[Za,Array.getElem?_replicate]
   split<;>rfl
  refine Qbq (PX:=PX) (Q:=Exit.then (fun a w=>wpList P (l++l2).toArray Q l2 a w) Q) (a0:=a) (outs:=outs) (gs:=gs) (bs:=bs) (fun ch a' w' F B=>C ch a' w' F B) (Qas (H ▸ i) u) y A (fun vs S w' h k D=>b vs S w' h k D) _ _ _ _ (by simp) ?_ ⟨by rw[d];exact k,(by rw[d];intro j o _ h;cases h),Z,Z,fun _ _=>rfl,(fun t I _=>by rw[d];exact Qa4 outs v t I),?_⟩
  ·simp only[Array.toList_replicate]
   exact Zt (List.length_filter_le _ _) (by simp)
  ·intro j o t J L G;simp[Array.getD] at G
 have:=Qbo (Q:=Q) f g p l.length (Array.replicate l.length false) a w.drew (by simp) (fun q o K z=>by simp[Array.getD] at z) c
 have e:(Array.replicate l.length false++Array.replicate l2.length false:Array Bool)=Array.replicate (l++l2).toArray.size false:=by
  simp
 have x:l.length+l2.length=(l++l2).toArray.size:=by simp
 rw[e,x] at this
 exact this
theorem Zs {lo:List Oper}{outs:List Tmp}{gs:List (Nat × Option Bool)}{a:Act}{w:World}{Q:Exit->Act->World->Prop}
 (k:Nat) (E:(Nat->Bool)->Tmp->Value->World->Prop) (W:(Nat->Bool)->World->Prop) (PX:List PanicEntry->World->Prop) (g:∀ ch a' w',a'.defers=a.defers->PX ch w'->Q (.panic ch) a' w')
 (d:P.follows .mixedOrders=true)  (o:a.tmps.size=m) (c:n<=m) (i:QaP (lo.take k) n outs gs bs=true)
 (q:(Qcq 0 lo&&(Qbp (lo.take k).length (lo.take k)&&QaK lo (lo.take k).length (lo.drop k)))=true)
 (e:∀ S,ZK (E S) (lo.take k).toArray gs) (f:W (fun _=>false) w.drew) (p:Qaf (E (fun _=>false)) a w.drew outs)
 (r:AllOkY E W PX P (lo.take k) 0 (lo.take k) bs)
 (b:∀ ops (vs:Tmp->Value) (S:Nat->Bool) w',(∀ j,j<(lo.take k).length->S j=true)->W S w'->(∀ t,(Qs (lo.take k)).contains t=true->E S t (vs t) w')->wpList P ops Q (lo.drop k) (QM a vs (Qs (lo.take k))) w') :
 (Code.region id lo.toArray true).wp P Q a w:=by
 have h:=QfY (id:=id) (l:=lo.take k) (l2:=lo.drop k) (Q:=Q) E W PX g d o c i (by rw[List.take_append_drop];exact q) e f p r (b _);rwa [List.take_append_drop] at h
def Qnl (l:List Oper) (t:Tmp) (i:Nat):Bool:=(List.range l.length).all fun j=>match l[j]? with
 | some o=>(match o.dst with | some u=>u != t | none=>true)||j==i
 | none=>true
theorem QjT {l:List Oper}{S:Nat->Bool}{t i:Nat}(k:Qm0 l S t) (e:(Qs l).contains t=true) (g:Qnl l t i=true):S i=true:=by
 obtain⟨j,o,c,d,f⟩:=k (by simpa using e)
 have b:=(Zi c).1;have a:=Xe.1 g j (by simpa using b);rw[c] at a
 simp only[d] at a
 have:j=i:=by
  rw[Bool.or_eq_true] at a
  rcases a with h | h
  ·simp at h
  ·simpa using h
 rw[<-this];exact f
def Zk (w6 w w':World):Prop:=∀ Z,w6.heap.size<=Z->Z<w.heap.size->w'.heap[Z]?=w.heap[Z]?
theorem Zk.refl (a w:World):Zk a w w:=fun _ _ _=>rfl
theorem Zk.below {a w w':World}(b:Below w.heap.size w w'):Zk a w w':=fun Z _ h=>b.block Z h
section
variable {w6 w w':World}{HP:World->Prop}{hk i:Nat}{S:Nat->Bool}
theorem WY.onB (h:WY w6 HP hk S w) (d:∀ w w',HP w->Below w.heap.size w w'->HP w') (hi:i≠hk) (b:Below w.heap.size w w'):WY w6 HP hk (Qct i S) w':=by
 have e:Qct i S hk=S hk:=Qnc (fun e=>hi e.symm);rcases h with ⟨c,a⟩|⟨c,a⟩
 ·exact .inl ⟨by rw[e];exact c,a.trans (b.mono a.size)⟩
 ·exact .inr ⟨by rw[e];exact c,d _ _ a b⟩
theorem WY.lowB (h:WY w6 HP hk S w) (a:∀ w,HP w->w6.heap.size<=w.heap.size):w6.heap.size<=w.heap.size:=by
 rcases h with h | h
 ·exact h.2.size
 ·exact a _ h.2
theorem WY.onS (h:WY w6 HP hk S w) (hi:i≠hk):WY w6 HP hk (Qct i S) w:=by
 have e:Qct i S hk=S hk:=Qnc (fun e=>hi e.symm);unfold WY;rw[e];exact h
end
def Qmi (w6:World) (xs:List Int) (n:Nat) (v:Value) (w:World):Prop:=∃ k,v=.slice (some ⟨k,0,none⟩) n n/\w6.heap.size<=k/\QbE w (.slice (some ⟨k,0,none⟩) n n) xs
def Qkj (w6:World) (x:Int) (v:Value) (w:World):Prop:=∃ k,v=.slice (some ⟨k,0,none⟩) 1 1/\w6.heap.size<=k/\w.cell? ⟨k,0,none⟩=some (Iv x)
theorem Qmi.z (h:Qmi w6 xs n v w) (z:Zk w6 w w'):Qmi w6 xs n v w':=by
 obtain⟨k,d,c,b⟩:=h
 exact⟨k,d,c,QY b (fun y a=>by
  have:y=k:=by simpa[Value.ownBlock] using a.symm
  subst this;exact z y c (b.lt a))⟩
theorem Qkj.z (h:Qkj w6 x v w) (z:Zk w6 w w'):Qkj w6 x v w':=by
 obtain⟨k,d,c,b⟩:=h
 exact⟨k,d,c,(XU (w:=w) (a:=⟨k,0,none⟩) (z k c (Xi w _ b))).trans b⟩
theorem Qho.z {fr:RFr}(h:Qho w6 fr v w) (z:Zk w6 w w'):Qho w6 fr v w':=by
 obtain⟨k,x,n,e,d,b,a⟩:=h
 exact⟨k,x,n,e,d,b,a.keep (z k d (XC a.1)) (fun y c=>by
  have:y=x:=by simpa[Value.ownBlock] using c.symm
  subst this;exact z y b (a.2.lt c))⟩
def QmU (w6:World) (fr:RFr) (v:Value) (w:World):Prop:=∃ k u,v=.slice (some ⟨k,0,none⟩) 1 1/\w6.heap.size<=k/\w.cell? ⟨k,0,none⟩=some u/\Qho w6 fr u w
theorem QmU.z {fr:RFr}(h:QmU w6 fr v w) (z:Zk w6 w w'):QmU w6 fr v w':=by
 obtain⟨k,u,e,c,b,d⟩:=h
 exact⟨k,u,e,c,(XU (w:=w) (a:=⟨k,0,none⟩) (z k c (Xi w _ b))).trans b,d.z z⟩
theorem Qgl {u:Value}(h:w.cell? ⟨k,0,none⟩=some u):∀ (j:Nat) (v:Value),[u][j]?=some v->w.cell? ((⟨k,0,none⟩:Addr).add j)=some v
 | 0,v,hv=>by simp at hv;subst hv;exact h
 | j+1,v,hv=>by simp at hv
theorem QeG (w:World){o:Oper}{a:Act}{K:Act->World->Prop}{Q:Exit->Act->World->Prop}(s x:Operand) (t:TypeId)
 (G:o.op=.call { callee:=.builtin .append,args:=#[s,x],argTypes:=#[t,t] })
 (e:TypeId) (i:TypeInfo) (z:Value) (size d:Nat) (O:P.underlying t=some (.slice e)) (hi:P.info? e=some i) (H:i.zero=some z)
 (l:i.size=size) (A:i.bytes=d) (B:z.cells.size=size) (C:0<size)
 (v:Value) (n:Nat) (xs:List Value) (F:a.eval s=v) (q:w.ownsRow 0 e size v n xs)
 (y:Addr) (m c:Nat) (b:List Value) (E:a.eval x=.slice (some y) m c) (N:b.length=m*size) (g:∀ j u,b[j]?=some u->w.cell? (y.add j)=some u) (M:∀ u∈b,u.oneCell'=true)
 (D:n+m<=maxLen) (f:(n+m)*d<=140737488355328)
 (h:∀ v' w',w'.ownsRow 0 e size v' (n+m) (xs++b)->w.grownBy w' v.ownBlock->(∀ k,v'.ownBlock=some k->v.ownBlock=some k\/k=w.heap.size)->K (a.put o.dst v') w'):o.wp P a w K Q:=by
 obtain⟨v',w',J,I,L,_,p⟩:=run_append_own_at (P:=P) w 0 t o.type e i z size d O hi H l A B C v n xs q y m c b N g M D f (Xb _)
 unfold Oper.wp execOp;simp only[G,resolve,invoke,builtin,Sem.run_bind,Sem.run_pure,Result.andThen_ok,List.map_toArray,List.map_cons,List.map_nil,F,E,J]
 refine h _ _ I L (fun k r=>?_);rcases p with p | p
 ·rw[p] at r;exact .inl r
 ·rw[p] at r;exact .inr (by simpa using r.symm)
def Qnn (b c X be ri vl cc j:Nat) (ya:Int) (t:Tmp) (v:Value) (w:World):Prop :=
 v=(([(0,Pv b 0),(1,Pv c 0),(5,Pv X 0),(68,Pv b 0),(69,Pv b 0),(70,Pv b 0),(71,Pv be 0),(72,Pv c 0),(73,Pv c 0),(74,Pv c 3),(75,.slice (some ⟨ri,0,none⟩) vl cc),(76,Pv X 1),(77,Iv (j:Int)),(78,Pv ri j),(79,Iv ya)]:List (Tmp × Value)).lookup t).getD undef
theorem QnX {k:Nat}(u:w6.cell? ⟨b,0,none⟩=some (Pv k 0)) (p:w6.cell? ⟨c,3,none⟩=some (.slice (some ⟨ri,0,none⟩) vl cc)) (z:w6.cell? ⟨X,1,none⟩=some (Iv (j:Int))) (A:(j:Int)<vl) (y:w6.cell? ⟨ri,j,none⟩=some (Iv ya))  {Q:Exit->Act->World->Prop}
 (a:Act) (m:Nat) (x:a.tmps.size=m) (i:148<=m) (q:a.tmps.getD 0 undef=Pv b 0) (r:a.tmps.getD 1 undef=Pv c 0) (s:a.tmps.getD 5 undef=Pv X 0)
 (hend:∀ ops vs w',vs 71=Pv k 0->vs 79=Iv ya->Below w6.heap.size w6 w'->wpList prog ops Q (Qal 12 ((Tryz.f114.body.bind (Qi 14)).getD .skip)) (QM a vs [68,69,70,71,72,73,74,75,76,77,78,79]) w') :
 Code.wp prog ((Tryz.f114.body.bind (Qi 14)).getD .skip) Q a w6:=by
 conv=>arg 2;whnf
 refine Qg 12 (Qnn b c X k ri vl cc j ya) (fun w=>Below w6.heap.size w6 w) (fun w w'=>Below w.heap.size w w') (outs:=[0,1,5]) (gs:=[]) (bs:=[true,true,true,true,true,true,true,true,true,true,true,true]) (by kernel_rfl) (n:=148) x i (by kernel_rfl) (by kernel_rfl) ?hR ?hG (QI Zr 1) ⟨q,r,s,Y⟩ ?hA ?hend
 case hR=>exact fun t v w w' _ h=>h
 case hG=>exact Y
 case hend=>exact fun ops vs w' e f=>hend ops vs w' (f 71 (by kernel_rfl)) (f 79 (by kernel_rfl)) e
 case hA =>
  refine⟨fun a w e f K g=>?_,?_⟩
  ·obtain⟨d,-⟩:=f
   have d:a.tmps.getD 0 undef=Pv b 0:=d;go_simp;exact g _ _ Zr e Z
  refine⟨fun a w e f K g=>?_,?_⟩
  ·obtain⟨d,-⟩:=f
   have d:a.tmps.getD 68 undef=Pv b 0:=d;go_simp;exact g _ _ Zr e Z
  refine⟨fun a w e f K g=>?_,?_⟩
  ·obtain⟨d,-⟩:=f
   have d:a.tmps.getD 69 undef=Pv b 0:=d;go_simp;exact g _ _ Zr e Z
  refine⟨fun a w e f K g=>?_,?_⟩
  ·obtain⟨d,-⟩:=f
   have d:a.tmps.getD 70 undef=Pv b 0:=d;have l:=Qk u e;go_simp;exact g _ _ Zr e Z
  refine⟨fun a w e f K g=>?_,?_⟩
  ·obtain⟨d,-⟩:=f
   have d:a.tmps.getD 1 undef=Pv c 0:=d;go_simp;exact g _ _ Zr e Z
  refine⟨fun a w e f K g=>?_,?_⟩
  ·obtain⟨d,-⟩:=f
   have d:a.tmps.getD 72 undef=Pv c 0:=d;go_simp;exact g _ _ Zr e Z
  refine⟨fun a w e f K g=>?_,?_⟩
  ·obtain⟨d,-⟩:=f
   have d:a.tmps.getD 73 undef=Pv c 0:=d;go_simp;exact g _ _ Zr e Z
  refine⟨fun a w e f K g=>?_,?_⟩
  ·obtain⟨d,-⟩:=f
   have d:a.tmps.getD 74 undef=Pv c 3:=d;have l:=Qk p e;go_simp;exact g _ _ Zr e Z
  refine⟨fun a w e f K g=>?_,?_⟩
  ·obtain⟨d,-⟩:=f
   have d:a.tmps.getD 5 undef=Pv X 0:=d;go_simp;exact g _ _ Zr e Z
  refine⟨fun a w e f K g=>?_,?_⟩
  ·obtain⟨d,-⟩:=f
   have d:a.tmps.getD 76 undef=Pv X 1:=d;have l:=Qk z e;go_simp;exact g _ _ Zr e Z
  refine⟨fun a w e f K g=>?_,?_⟩
  ·obtain⟨d,o,-⟩:=f
   have d:a.tmps.getD 75 undef=.slice (some ⟨ri,0,none⟩) vl cc:=d;have o:a.tmps.getD 77 undef=Iv (j:Int):=o;go_simp;exact g _ _ Zr e Z
  refine⟨fun a w e f K g=>?_,?_⟩
  ·obtain⟨d,-⟩:=f
   have d:a.tmps.getD 78 undef=Pv ri j:=d;have l:=Qk y e;go_simp;exact g _ _ Zr e Z
  trivial
def Qnq (b c X ri vl cc j:Nat) (ya:Int) (t:Tmp) (v:Value) (w:World):Prop :=
 v=(([(0,Pv b 0),(1,Pv c 0),(5,Pv X 0),(132,Pv b 0),(133,Pv c 0),(134,Pv c 0),(135,Pv c 3),(136,.slice (some ⟨ri,0,none⟩) vl cc),(137,Pv X 1),(138,Iv (j:Int)),(139,Pv ri j),(140,Iv ya)]:List (Tmp × Value)).lookup t).getD undef
theorem Qoc (o:w6.cell? ⟨c,3,none⟩=some (.slice (some ⟨ri,0,none⟩) vl cc)) (x:w6.cell? ⟨X,1,none⟩=some (Iv (j:Int))) (y:(j:Int)<vl) (u:w6.cell? ⟨ri,j,none⟩=some (Iv ya))  {Q:Exit->Act->World->Prop}
 (a:Act) (m:Nat) (s:a.tmps.size=m) (i:148<=m) (p:a.tmps.getD 0 undef=Pv b 0) (q:a.tmps.getD 1 undef=Pv c 0) (r:a.tmps.getD 5 undef=Pv X 0)
 (hend:∀ ops vs w',vs 132=Pv b 0->vs 140=Iv ya->Below w6.heap.size w6 w'->wpList prog ops Q (Qal 9 ((Tryz.f114.body.bind (Qi 22)).getD .skip)) (QM a vs [132,133,134,135,136,137,138,139,140]) w') :
 Code.wp prog ((Tryz.f114.body.bind (Qi 22)).getD .skip) Q a w6:=by
 conv=>arg 2;whnf
 refine Qg 9 (Qnq b c X ri vl cc j ya) (fun w=>Below w6.heap.size w6 w) (fun w w'=>Below w.heap.size w w') (outs:=[0,1,5]) (gs:=[]) (bs:=[true,true,true,true,true,true,true,true,true]) (by kernel_rfl) (n:=148) s i (by kernel_rfl) (by kernel_rfl) ?hR ?hG (QI Zr 1) ⟨p,q,r,Y⟩ ?hA ?hend
 case hR=>exact fun t v w w' _ h=>h
 case hG=>exact Y
 case hend=>exact fun ops vs w' e f=>hend ops vs w' (f 132 (by kernel_rfl)) (f 140 (by kernel_rfl)) e
 case hA =>
  refine⟨fun a w e f K g=>?_,?_⟩
  ·obtain⟨d,-⟩:=f
   have d:a.tmps.getD 0 undef=Pv b 0:=d;go_simp;exact g _ _ Zr e Z
  refine⟨fun a w e f K g=>?_,?_⟩
  ·obtain⟨d,-⟩:=f
   have d:a.tmps.getD 1 undef=Pv c 0:=d;go_simp;exact g _ _ Zr e Z
  refine⟨fun a w e f K g=>?_,?_⟩
  ·obtain⟨d,-⟩:=f
   have d:a.tmps.getD 133 undef=Pv c 0:=d;go_simp;exact g _ _ Zr e Z
  refine⟨fun a w e f K g=>?_,?_⟩
  ·obtain⟨d,-⟩:=f
   have d:a.tmps.getD 134 undef=Pv c 0:=d;go_simp;exact g _ _ Zr e Z
  refine⟨fun a w e f K g=>?_,?_⟩
  ·obtain⟨d,-⟩:=f
   have d:a.tmps.getD 135 undef=Pv c 3:=d;have l:=Qk o e;go_simp;exact g _ _ Zr e Z
  refine⟨fun a w e f K g=>?_,?_⟩
  ·obtain⟨d,-⟩:=f
   have d:a.tmps.getD 5 undef=Pv X 0:=d;go_simp;exact g _ _ Zr e Z
  refine⟨fun a w e f K g=>?_,?_⟩
  ·obtain⟨d,-⟩:=f
   have d:a.tmps.getD 137 undef=Pv X 1:=d;have l:=Qk x e;go_simp;exact g _ _ Zr e Z
  refine⟨fun a w e f K g=>?_,?_⟩
  ·obtain⟨d,k,-⟩:=f
   have d:a.tmps.getD 136 undef=.slice (some ⟨ri,0,none⟩) vl cc:=d;have k:a.tmps.getD 138 undef=Iv (j:Int):=k;go_simp;exact g _ _ Zr e Z
  refine⟨fun a w e f K g=>?_,?_⟩
  ·obtain⟨d,-⟩:=f
   have d:a.tmps.getD 139 undef=Pv ri j:=d;have l:=Qk u e;go_simp;exact g _ _ Zr e Z
  trivial
def QnT (b c X be bp ri vl cc j:Nat) (ya yb xk:Int) (t:Tmp) (v:Value) (w:World):Prop :=
 v=(([(0,Pv b 0),(1,Pv c 0),(5,Pv X 0),(6,Iv ya),(30,Pv b 0),(31,Pv b 0),(32,Pv b 0),(33,Pv be 0),(34,Pv be 0),(35,Pv be 0),(36,Pv bp 0),(37,Iv ya),(38,Pv X 4),(39,Iv xk),(40,Iv (wrap64 (ya+xk))),(41,Pv c 0),(42,Pv c 0),(43,Pv c 3),(44,.slice (some ⟨ri,0,none⟩) vl cc),(45,Pv X 2),(46,Iv (j:Int)),(47,Pv ri j),(48,Iv yb)]:List (Tmp × Value)).lookup t).getD undef
theorem wp6 {i:Nat}(x:w6.cell? ⟨b,0,none⟩=some (Pv i 0)) (y:w6.cell? ⟨i,0,none⟩=some (Pv bp 0)) (A:w6.cell? ⟨c,3,none⟩=some (.slice (some ⟨ri,0,none⟩) vl cc)) (z:w6.cell? ⟨X,4,none⟩=some (Iv xk)) (r:w6.cell? ⟨X,2,none⟩=some (Iv (j:Int))) (D:(j:Int)<vl) (s:w6.cell? ⟨ri,j,none⟩=some (Iv yb))  {Q:Exit->Act->World->Prop}
 (a:Act) (m:Nat) (C:a.tmps.size=m) (o:105<=m) (p:a.tmps.getD 0 undef=Pv b 0) (B:a.tmps.getD 1 undef=Pv c 0) (q:a.tmps.getD 5 undef=Pv X 0) (u:a.tmps.getD 6 undef=Iv ya)
 (hend:∀ ops vs w',vs 36=Pv bp 0->vs 40=Iv (wrap64 (ya+xk))->vs 48=Iv yb->Below w6.heap.size w6 w'->wpList prog ops Q (Qal 19 ((Tryz.f177.body.bind (Qi 6)).getD .skip)) (QM a vs [30,31,32,33,34,35,36,37,38,39,40,41,42,43,44,45,46,47,48]) w') :
 Code.wp prog ((Tryz.f177.body.bind (Qi 6)).getD .skip) Q a w6:=by
 conv=>arg 2;whnf
 refine Qg 19 (QnT b c X i bp ri vl cc j ya yb xk) (fun w=>Below w6.heap.size w6 w) (fun w w'=>Below w.heap.size w w') (outs:=[0,1,5,6]) (gs:=[]) (bs:=[true,true,true,true,true,true,true,true,true,true,true,true,true,true,true,true,true,true,true]) (by kernel_rfl) (n:=105) C o (by kernel_rfl) (by kernel_rfl) ?hR ?hG (QI Zr 1) ⟨p,B,q,u,Y⟩ ?hA ?hend
 case hR=>exact fun t v w w' _ h=>h
 case hG=>exact Y
 case hend=>exact fun ops vs w' e f=>hend ops vs w' (f 36 (by kernel_rfl)) (f 40 (by kernel_rfl)) (f 48 (by kernel_rfl)) e
 case hA =>
  refine⟨fun a w e f K g=>?_,?_⟩
  ·obtain⟨d,-⟩:=f
   have d:a.tmps.getD 0 undef=Pv b 0:=d;go_simp;exact g _ _ Zr e Z
  refine⟨fun a w e f K g=>?_,?_⟩
  ·obtain⟨d,-⟩:=f
   have d:a.tmps.getD 30 undef=Pv b 0:=d;go_simp;exact g _ _ Zr e Z
  refine⟨fun a w e f K g=>?_,?_⟩
  ·obtain⟨d,-⟩:=f
   have d:a.tmps.getD 31 undef=Pv b 0:=d;go_simp;exact g _ _ Zr e Z
  refine⟨fun a w e f K g=>?_,?_⟩
  ·obtain⟨d,-⟩:=f
   have d:a.tmps.getD 32 undef=Pv b 0:=d;have l:=Qk x e;go_simp;exact g _ _ Zr e Z
  refine⟨fun a w e f K g=>?_,?_⟩
  ·obtain⟨d,-⟩:=f
   have d:a.tmps.getD 33 undef=Pv i 0:=d;go_simp;exact g _ _ Zr e Z
  refine⟨fun a w e f K g=>?_,?_⟩
  ·obtain⟨d,-⟩:=f
   have d:a.tmps.getD 34 undef=Pv i 0:=d;go_simp;exact g _ _ Zr e Z
  refine⟨fun a w e f K g=>?_,?_⟩
  ·obtain⟨d,-⟩:=f
   have d:a.tmps.getD 35 undef=Pv i 0:=d;have l:=Qk y e;go_simp;exact g _ _ Zr e Z
  refine⟨fun a w e f K g=>?_,?_⟩
  ·obtain⟨d,-⟩:=f
   have d:a.tmps.getD 6 undef=Iv ya:=d;go_simp;exact g _ _ Zr e Z
  refine⟨fun a w e f K g=>?_,?_⟩
  ·obtain⟨d,-⟩:=f
   have d:a.tmps.getD 5 undef=Pv X 0:=d;go_simp;exact g _ _ Zr e Z
  refine⟨fun a w e f K g=>?_,?_⟩
  ·obtain⟨d,-⟩:=f
   have d:a.tmps.getD 38 undef=Pv X 4:=d;have l:=Qk z e;go_simp;exact g _ _ Zr e Z
  refine⟨fun a w e f K g=>?_,?_⟩
  ·obtain⟨d,k,-⟩:=f
   have d:a.tmps.getD 37 undef=Iv ya:=d;have k:a.tmps.getD 39 undef=Iv xk:=k;go_simp;exact g _ _ Zr e (by show Value.int .i64 _=Value.int .i64 (wrap64 (ya+xk));rw[IntKind.wrap_i64];unfold wrap64;rfl)
  refine⟨fun a w e f K g=>?_,?_⟩
  ·obtain⟨d,-⟩:=f
   have d:a.tmps.getD 1 undef=Pv c 0:=d;go_simp;exact g _ _ Zr e Z
  refine⟨fun a w e f K g=>?_,?_⟩
  ·obtain⟨d,-⟩:=f
   have d:a.tmps.getD 41 undef=Pv c 0:=d;go_simp;exact g _ _ Zr e Z
  refine⟨fun a w e f K g=>?_,?_⟩
  ·obtain⟨d,-⟩:=f
   have d:a.tmps.getD 42 undef=Pv c 0:=d;go_simp;exact g _ _ Zr e Z
  refine⟨fun a w e f K g=>?_,?_⟩
  ·obtain⟨d,-⟩:=f
   have d:a.tmps.getD 43 undef=Pv c 3:=d;have l:=Qk A e;go_simp;exact g _ _ Zr e Z
  refine⟨fun a w e f K g=>?_,?_⟩
  ·obtain⟨d,-⟩:=f
   have d:a.tmps.getD 5 undef=Pv X 0:=d;go_simp;exact g _ _ Zr e Z
  refine⟨fun a w e f K g=>?_,?_⟩
  ·obtain⟨d,-⟩:=f
   have d:a.tmps.getD 45 undef=Pv X 2:=d;have l:=Qk r e;go_simp;exact g _ _ Zr e Z
  refine⟨fun a w e f K g=>?_,?_⟩
  ·obtain⟨d,k,-⟩:=f
   have d:a.tmps.getD 44 undef=.slice (some ⟨ri,0,none⟩) vl cc:=d;have k:a.tmps.getD 46 undef=Iv (j:Int):=k;go_simp;exact g _ _ Zr e Z
  refine⟨fun a w e f K g=>?_,?_⟩
  ·obtain⟨d,-⟩:=f
   have d:a.tmps.getD 47 undef=Pv ri j:=d;have l:=Qk s e;go_simp;exact g _ _ Zr e Z
  trivial
def QnB (w6:World) (R:RM) (b c X ri vl cc j:Nat) (ya yb:Int) (t:Tmp) (v:Value) (w:World):Prop :=
 match ([(64,fun v w=>(0<=yb/\yb<R.load ya)/\v=.int .i64 (wrap64 (wrap64 (ya+1)+yb))),(66,Qkj w6 (R.load (wrap64 (wrap64 (ya+1)+yb))))]:List (Tmp × (Value->World->Prop))).lookup t with
 | some p=>p v w
 | none=>v=(([(0,.pointer (some ⟨b,0,none⟩)),(1,.pointer (some ⟨c,0,none⟩)),(5,.pointer (some ⟨X,0,none⟩)),(6,.int .i64 ya),(52,.pointer (some ⟨c,0,none⟩)),(53,.pointer (some ⟨b,0,none⟩)),(54,.pointer (some ⟨b,0,none⟩)),(55,.int .i64 ya),(56,.pointer (some ⟨c,0,none⟩)),(57,.pointer (some ⟨c,0,none⟩)),(58,.pointer (some ⟨c,3,none⟩)),(59,.slice (some ⟨ri,0,none⟩) vl cc),(60,.pointer (some ⟨X,2,none⟩)),(61,.int .i64 (j:Int)),(62,.pointer (some ⟨ri,j,none⟩)),(63,.int .i64 yb),(65,.int .i64 (R.load (wrap64 (wrap64 (ya+1)+yb))))]:List (Tmp × Value)).lookup t).getD undef
theorem wp8 {R:RM}(P:w6.cell? ⟨c,3,none⟩=some (.slice (some ⟨ri,0,none⟩) vl cc)) (F:w6.cell? ⟨X,2,none⟩=some (Iv (j:Int))) (U:(j:Int)<vl) (G:w6.cell? ⟨ri,j,none⟩=some (Iv yb)) (C:Hid (∀ wx,Below w6.heap.size w6 wx->Calls prog 222 #[Pv b 0,Iv ya,Iv yb] wx fun e w'=>Qlj R ya yb e/\w'=wx)) (T:Hid (∀ wx k,Below w6.heap.size w6 wx->Calls prog 220 #[Pv b 0,Iv k] wx fun e w'=>e=.returned (Iv (R.load k))/\w'=wx))  {Q:Exit->Act->World->Prop}
 (a:Act) (m:Nat) (S:a.tmps.size=m) (s:105<=m) (B:a.tmps.getD 0 undef=Pv b 0) (r:a.tmps.getD 1 undef=Pv c 0) (E:a.tmps.getD 5 undef=Pv X 0) (I:a.tmps.getD 6 undef=Iv ya)
 (N:∀ ch a' w',a'.defers=a.defers->(fun ch w=>ch=QdR 2/\¬ (0<=yb/\yb<R.load ya)/\Below w6.heap.size w6 w) ch w'->Q (.panic ch) a' w')
 (hend:∀ ops vs w',vs 52=Pv c 0->(fun v w=>(0<=yb/\yb<R.load ya)/\v=Iv (wrap64 (wrap64 (ya+1)+yb))) (vs 64) w'->(Qkj w6 (R.load (wrap64 (wrap64 (ya+1)+yb)))) (vs 66) w'->Below w6.heap.size w6 w'->wpList prog ops Q (Qal 15 ((Tryz.f177.body.bind (Qi 8)).getD .skip)) (QM a vs [52,53,54,55,56,57,58,59,60,61,62,63,64,65,66]) w') :
 Code.wp prog ((Tryz.f177.body.bind (Qi 8)).getD .skip) Q a w6:=by
 conv=>arg 2;whnf
 refine ZM 15 (QnB w6 R b c X ri vl cc j ya yb) (fun w=>Below w6.heap.size w6 w) (fun w w'=>Below w.heap.size w w') (fun ch w=>ch=QdR 2/\¬ (0<=yb/\yb<R.load ya)/\Below w6.heap.size w6 w) N (outs:=[0,1,5,6]) (gs:=[]) (bs:=[true,true,true,true,true,true,true,true,true,true,true,true,true,true,true]) (by kernel_rfl) (n:=105) S s (by kernel_rfl) (by kernel_rfl) ?hR ?hG (QI Zr 1) ⟨B,r,E,I,Y⟩ ?hA ?hend
 case hR =>
  intro t v w w' O h;unfold QnB at h |-;split at h
  ·rename_i p q
   simp only[List.lookup_cons,List.lookup_nil] at q
   split at q
   ·cases q;exact h
   ·split at q
    ·cases q;exact h.z (Zk.below O)
    ·cases q
  ·exact h
 case hG=>exact Y
 case hend=>exact fun ops vs w' f g=>hend ops vs w' (g 52 (by kernel_rfl)) (g 64 (by kernel_rfl)) (g 66 (by kernel_rfl)) f
 case hA =>
  refine⟨fun a w f g K i=>?_,?_⟩
  ·obtain⟨d,-⟩:=g
   have d:a.tmps.getD 1 undef=Pv c 0:=d;go_simp;exact i _ _ Zr f Z
  refine⟨fun a w f g K i=>?_,?_⟩
  ·obtain⟨d,-⟩:=g
   have d:a.tmps.getD 0 undef=Pv b 0:=d;go_simp;exact i _ _ Zr f Z
  refine⟨fun a w f g K i=>?_,?_⟩
  ·obtain⟨d,-⟩:=g
   have d:a.tmps.getD 0 undef=Pv b 0:=d;go_simp;exact i _ _ Zr f Z
  refine⟨fun a w f g K i=>?_,?_⟩
  ·obtain⟨d,-⟩:=g
   have d:a.tmps.getD 6 undef=Iv ya:=d;go_simp;exact i _ _ Zr f Z
  refine⟨fun a w f g K i=>?_,?_⟩
  ·obtain⟨d,-⟩:=g
   have d:a.tmps.getD 1 undef=Pv c 0:=d;go_simp;exact i _ _ Zr f Z
  refine⟨fun a w f g K i=>?_,?_⟩
  ·obtain⟨d,-⟩:=g
   have d:a.tmps.getD 56 undef=Pv c 0:=d;go_simp;exact i _ _ Zr f Z
  refine⟨fun a w f g K i=>?_,?_⟩
  ·obtain⟨d,-⟩:=g
   have d:a.tmps.getD 57 undef=Pv c 0:=d;go_simp;exact i _ _ Zr f Z
  refine⟨fun a w f g K i=>?_,?_⟩
  ·obtain⟨d,-⟩:=g
   have d:a.tmps.getD 58 undef=Pv c 3:=d;have x:=Qk P f;go_simp;exact i _ _ Zr f Z
  refine⟨fun a w f g K i=>?_,?_⟩
  ·obtain⟨d,-⟩:=g
   have d:a.tmps.getD 5 undef=Pv X 0:=d;go_simp;exact i _ _ Zr f Z
  refine⟨fun a w f g K i=>?_,?_⟩
  ·obtain⟨d,-⟩:=g
   have d:a.tmps.getD 60 undef=Pv X 2:=d;have x:=Qk F f;go_simp;exact i _ _ Zr f Z
  refine⟨fun a w f g K i=>?_,?_⟩
  ·obtain⟨d,l,-⟩:=g
   have d:a.tmps.getD 59 undef=.slice (some ⟨ri,0,none⟩) vl cc:=d;have l:a.tmps.getD 61 undef=Iv (j:Int):=l;go_simp;exact i _ _ Zr f Z
  refine⟨fun a w f g K i=>?_,?_⟩
  ·obtain⟨d,-⟩:=g
   have d:a.tmps.getD 62 undef=Pv ri j:=d;have x:=Qk G f;go_simp;exact i _ _ Zr f Z
  refine⟨fun a w f g K i=>?_,?_⟩
  ·obtain⟨d,l,u,-⟩:=g
   have d:a.tmps.getD 54 undef=Pv b 0:=d;have l:a.tmps.getD 55 undef=Iv ya:=l;have u:a.tmps.getD 63 undef=Iv yb:=u;go_simp;refine Xm (C.out w f) ?_;rintro y H ⟨D,o⟩;have o:=o.symm;subst o;rcases D with ⟨r,M,rfl⟩|⟨r,rfl⟩
   rotate_left
   ·exact⟨_,Z,Z,(fun h=>Int.not_lt.1 (fun A=>r ⟨h,A⟩)),f⟩
   go_simp;exact i _ _ Zr f ⟨⟨r,M⟩,Z⟩
  refine⟨fun a w f g K i=>?_,?_⟩
  ·obtain⟨d,l,-⟩:=g
   have d:a.tmps.getD 53 undef=Pv b 0:=d;have l:(fun v w=>(0<=yb/\yb<R.load ya)/\v=Iv (wrap64 (wrap64 (ya+1)+yb))) (a.tmps.getD 64 undef) w:=l;generalize J:a.tmps.getD 64 undef=L at l;obtain⟨-,rfl⟩:=l
   go_simp;refine Xm (T.out w _ f) ?_;rintro y H ⟨rfl,o⟩;have o:=o.symm;subst o;go_simp;exact i _ _ Zr f Z
  refine⟨fun a w f g K i=>?_,?_⟩
  ·obtain⟨d,-⟩:=g
   have d:a.tmps.getD 65 undef=Iv (R.load (wrap64 (wrap64 (ya+1)+yb))):=d;rw[Za] at d
   go_simp;exact i _ _ (ZP _ _) (f.trans ((ZP _ _).mono f.size)) ⟨_,Z,f.size,Qb (Qe _ _ _) 0 _ Z⟩
  trivial
def QmF (R:RM) (b c X be bp ri vl cc j q:Nat) (ya yb yc:Int) (t:Tmp) (v:Value) (w:World):Prop :=
 match ([(87,fun v w=>(0<=yb/\yb<R.load ya)/\v=.int .i64 (wrap64 (wrap64 (ya+1)+yb)))]:List (Tmp × (Value->World->Prop))).lookup t with
 | some p=>p v w
 | none=>v=(([(0,.pointer (some ⟨b,0,none⟩)),(1,.pointer (some ⟨c,0,none⟩)),(5,.pointer (some ⟨X,0,none⟩)),(6,.int .i64 ya),(70,.pointer (some ⟨b,0,none⟩)),(71,.pointer (some ⟨b,0,none⟩)),(72,.pointer (some ⟨b,0,none⟩)),(73,.pointer (some ⟨be,0,none⟩)),(74,.pointer (some ⟨be,0,none⟩)),(75,.pointer (some ⟨be,0,none⟩)),(76,.pointer (some ⟨bp,0,none⟩)),(77,.pointer (some ⟨b,0,none⟩)),(78,.int .i64 ya),(79,.pointer (some ⟨c,0,none⟩)),(80,.pointer (some ⟨c,0,none⟩)),(81,.pointer (some ⟨c,3,none⟩)),(82,.slice (some ⟨ri,0,none⟩) vl cc),(83,.pointer (some ⟨X,2,none⟩)),(84,.int .i64 (j:Int)),(85,.pointer (some ⟨ri,j,none⟩)),(86,.int .i64 yb),(88,.pointer (some ⟨c,0,none⟩)),(89,.pointer (some ⟨c,0,none⟩)),(90,.pointer (some ⟨c,3,none⟩)),(91,.slice (some ⟨ri,0,none⟩) vl cc),(92,.pointer (some ⟨X,3,none⟩)),(93,.int .i64 (q:Int)),(94,.pointer (some ⟨ri,q,none⟩)),(95,.int .i64 yc)]:List (Tmp × Value)).lookup t).getD undef
theorem QnH {R:RM}{o:Nat}{y:Int}(L:w6.cell? ⟨b,0,none⟩=some (Pv o 0)) (N:w6.cell? ⟨o,0,none⟩=some (Pv bp 0)) (A:w6.cell? ⟨c,3,none⟩=some (.slice (some ⟨ri,0,none⟩) vl cc)) (G:w6.cell? ⟨X,2,none⟩=some (Iv (j:Int))) (U:(j:Int)<vl) (H:w6.cell? ⟨ri,j,none⟩=some (Iv yb)) (M:w6.cell? ⟨X,3,none⟩=some (Iv (q:Int))) (V:(q:Int)<vl) (I:w6.cell? ⟨ri,q,none⟩=some (Iv y)) (D:Hid (∀ wx,Below w6.heap.size w6 wx->Calls prog 222 #[Pv b 0,Iv ya,Iv yb] wx fun e w'=>Qlj R ya yb e/\w'=wx))  {Q:Exit->Act->World->Prop}
 (a:Act) (m:Nat) (S:a.tmps.size=m) (u:105<=m) (C:a.tmps.getD 0 undef=Pv b 0) (r:a.tmps.getD 1 undef=Pv c 0) (F:a.tmps.getD 5 undef=Pv X 0) (J:a.tmps.getD 6 undef=Iv ya)
 (P:∀ ch a' w',a'.defers=a.defers->(fun ch w=>ch=QdR 2/\¬ (0<=yb/\yb<R.load ya)/\Below w6.heap.size w6 w) ch w'->Q (.panic ch) a' w')
 (hend:∀ ops vs w',vs 76=Pv bp 0->(fun v w=>(0<=yb/\yb<R.load ya)/\v=Iv (wrap64 (wrap64 (ya+1)+yb))) (vs 87) w'->vs 95=Iv y->Below w6.heap.size w6 w'->wpList prog ops Q (Qal 26 ((Tryz.f177.body.bind (Qi 10)).getD .skip)) (QM a vs [70,71,72,73,74,75,76,77,78,79,80,81,82,83,84,85,86,87,88,89,90,91,92,93,94,95]) w') :
 Code.wp prog ((Tryz.f177.body.bind (Qi 10)).getD .skip) Q a w6:=by
 conv=>arg 2;whnf
 refine ZM 26 (QmF R b c X o bp ri vl cc j q ya yb y) (fun w=>Below w6.heap.size w6 w) (fun w w'=>Below w.heap.size w w') (fun ch w=>ch=QdR 2/\¬ (0<=yb/\yb<R.load ya)/\Below w6.heap.size w6 w) P (outs:=[0,1,5,6]) (gs:=[]) (bs:=[true,true,true,true,true,true,true,true,true,true,true,true,true,true,true,true,true,true,true,true,true,true,true,true,true,true]) (by kernel_rfl) (n:=105) S u (by kernel_rfl) (by kernel_rfl) ?hR ?hG (QI Zr 1) ⟨C,r,F,J,Y⟩ ?hA ?hend
 case hR =>
  intro t v w w' hr h;unfold QmF at h |-;split at h
  ·rename_i p s
   simp only[List.lookup_cons,List.lookup_nil] at s
   split at s
   ·cases s;exact h
   ·cases s
  ·exact h
 case hG=>exact Y
 case hend=>exact fun ops vs w' f g=>hend ops vs w' (g 76 (by kernel_rfl)) (g 87 (by kernel_rfl)) (g 95 (by kernel_rfl)) f
 case hA =>
  refine⟨fun a w f g K i=>?_,?_⟩
  ·obtain⟨d,-⟩:=g
   have d:a.tmps.getD 0 undef=Pv b 0:=d;go_simp;exact i _ _ Zr f Z
  refine⟨fun a w f g K i=>?_,?_⟩
  ·obtain⟨d,-⟩:=g
   have d:a.tmps.getD 70 undef=Pv b 0:=d;go_simp;exact i _ _ Zr f Z
  refine⟨fun a w f g K i=>?_,?_⟩
  ·obtain⟨d,-⟩:=g
   have d:a.tmps.getD 71 undef=Pv b 0:=d;go_simp;exact i _ _ Zr f Z
  refine⟨fun a w f g K i=>?_,?_⟩
  ·obtain⟨d,-⟩:=g
   have d:a.tmps.getD 72 undef=Pv b 0:=d;have l:=Qk L f;go_simp;exact i _ _ Zr f Z
  refine⟨fun a w f g K i=>?_,?_⟩
  ·obtain⟨d,-⟩:=g
   have d:a.tmps.getD 73 undef=Pv o 0:=d;go_simp;exact i _ _ Zr f Z
  refine⟨fun a w f g K i=>?_,?_⟩
  ·obtain⟨d,-⟩:=g
   have d:a.tmps.getD 74 undef=Pv o 0:=d;go_simp;exact i _ _ Zr f Z
  refine⟨fun a w f g K i=>?_,?_⟩
  ·obtain⟨d,-⟩:=g
   have d:a.tmps.getD 75 undef=Pv o 0:=d;have l:=Qk N f;go_simp;exact i _ _ Zr f Z
  refine⟨fun a w f g K i=>?_,?_⟩
  ·obtain⟨d,-⟩:=g
   have d:a.tmps.getD 0 undef=Pv b 0:=d;go_simp;exact i _ _ Zr f Z
  refine⟨fun a w f g K i=>?_,?_⟩
  ·obtain⟨d,-⟩:=g
   have d:a.tmps.getD 6 undef=Iv ya:=d;go_simp;exact i _ _ Zr f Z
  refine⟨fun a w f g K i=>?_,?_⟩
  ·obtain⟨d,-⟩:=g
   have d:a.tmps.getD 1 undef=Pv c 0:=d;go_simp;exact i _ _ Zr f Z
  refine⟨fun a w f g K i=>?_,?_⟩
  ·obtain⟨d,-⟩:=g
   have d:a.tmps.getD 79 undef=Pv c 0:=d;go_simp;exact i _ _ Zr f Z
  refine⟨fun a w f g K i=>?_,?_⟩
  ·obtain⟨d,-⟩:=g
   have d:a.tmps.getD 80 undef=Pv c 0:=d;go_simp;exact i _ _ Zr f Z
  refine⟨fun a w f g K i=>?_,?_⟩
  ·obtain⟨d,-⟩:=g
   have d:a.tmps.getD 81 undef=Pv c 3:=d;have l:=Qk A f;go_simp;exact i _ _ Zr f Z
  refine⟨fun a w f g K i=>?_,?_⟩
  ·obtain⟨d,-⟩:=g
   have d:a.tmps.getD 5 undef=Pv X 0:=d;go_simp;exact i _ _ Zr f Z
  refine⟨fun a w f g K i=>?_,?_⟩
  ·obtain⟨d,-⟩:=g
   have d:a.tmps.getD 83 undef=Pv X 2:=d;have l:=Qk G f;go_simp;exact i _ _ Zr f Z
  refine⟨fun a w f g K i=>?_,?_⟩
  ·obtain⟨d,k,-⟩:=g
   have d:a.tmps.getD 82 undef=.slice (some ⟨ri,0,none⟩) vl cc:=d;have k:a.tmps.getD 84 undef=Iv (j:Int):=k;go_simp;exact i _ _ Zr f Z
  refine⟨fun a w f g K i=>?_,?_⟩
  ·obtain⟨d,-⟩:=g
   have d:a.tmps.getD 85 undef=Pv ri j:=d;have l:=Qk H f;go_simp;exact i _ _ Zr f Z
  refine⟨fun a w f g K i=>?_,?_⟩
  ·obtain⟨d,k,z,-⟩:=g
   have d:a.tmps.getD 77 undef=Pv b 0:=d;have k:a.tmps.getD 78 undef=Iv ya:=k;have z:a.tmps.getD 86 undef=Iv yb:=z;go_simp;refine Xm (D.out w f) ?_;rintro T W ⟨E,x⟩;have x:=x.symm;subst x;rcases E with ⟨r,O,rfl⟩|⟨r,rfl⟩
   rotate_left
   ·exact⟨_,Z,Z,(fun h=>Int.not_lt.1 (fun B=>r ⟨h,B⟩)),f⟩
   go_simp;exact i _ _ Zr f ⟨⟨r,O⟩,Z⟩
  refine⟨fun a w f g K i=>?_,?_⟩
  ·obtain⟨d,-⟩:=g
   have d:a.tmps.getD 1 undef=Pv c 0:=d;go_simp;exact i _ _ Zr f Z
  refine⟨fun a w f g K i=>?_,?_⟩
  ·obtain⟨d,-⟩:=g
   have d:a.tmps.getD 88 undef=Pv c 0:=d;go_simp;exact i _ _ Zr f Z
  refine⟨fun a w f g K i=>?_,?_⟩
  ·obtain⟨d,-⟩:=g
   have d:a.tmps.getD 89 undef=Pv c 0:=d;go_simp;exact i _ _ Zr f Z
  refine⟨fun a w f g K i=>?_,?_⟩
  ·obtain⟨d,-⟩:=g
   have d:a.tmps.getD 90 undef=Pv c 3:=d;have l:=Qk A f;go_simp;exact i _ _ Zr f Z
  refine⟨fun a w f g K i=>?_,?_⟩
  ·obtain⟨d,-⟩:=g
   have d:a.tmps.getD 5 undef=Pv X 0:=d;go_simp;exact i _ _ Zr f Z
  refine⟨fun a w f g K i=>?_,?_⟩
  ·obtain⟨d,-⟩:=g
   have d:a.tmps.getD 92 undef=Pv X 3:=d;have l:=Qk M f;go_simp;exact i _ _ Zr f Z
  refine⟨fun a w f g K i=>?_,?_⟩
  ·obtain⟨d,k,-⟩:=g
   have d:a.tmps.getD 91 undef=.slice (some ⟨ri,0,none⟩) vl cc:=d;have k:a.tmps.getD 93 undef=Iv (q:Int):=k;go_simp;exact i _ _ Zr f Z
  refine⟨fun a w f g K i=>?_,?_⟩
  ·obtain⟨d,-⟩:=g
   have d:a.tmps.getD 94 undef=Pv ri q:=d;have l:=Qk I f;go_simp;exact i _ _ Zr f Z
  trivial
def QkX (w6:World) (b c X ri vl cc j na ca:Nat) (pa:Option Addr) (xs:List Int) (ya ta:Int) (S:Nat->Bool) (t:Tmp) (v:Value) (w:World):Prop :=
 match ([(97,fun _ v _=>(fun v=>v=.int .i64 ta) v),(96,fun _ v w=>(Qmi w6 xs na) v w),(98,fun _ v w=>(Qkj w6 ta) v w)]:List (Tmp × ((Nat->Bool)->Value->World->Prop))).lookup t with
 | some p=>p S v w
 | none=>v=(([(0,.pointer (some ⟨b,0,none⟩)),(1,.pointer (some ⟨c,0,none⟩)),(5,.pointer (some ⟨X,0,none⟩)),(83,.pointer (some ⟨c,0,none⟩)),(84,.pointer (some ⟨b,0,none⟩)),(85,.pointer (some ⟨c,0,none⟩)),(86,.pointer (some ⟨c,0,none⟩)),(87,.pointer (some ⟨c,3,none⟩)),(88,.slice (some ⟨ri,0,none⟩) vl cc),(89,.pointer (some ⟨X,1,none⟩)),(90,.int .i64 (j:Int)),(91,.pointer (some ⟨ri,j,none⟩)),(92,.int .i64 ya),(93,.pointer (some ⟨c,0,none⟩)),(94,.pointer (some ⟨X,7,none⟩)),(95,.slice pa na ca)]:List (Tmp × Value)).lookup t).getD undef
theorem Qbb {e:Nat}{a:Int}{S:Nat->Bool}{t:Tmp}{u:Value}(f:Zk w6 w w') (d:QkX w6 b c X ri vl cc j e ca pa xs ya a S t u w):QkX w6 b c X ri vl cc j e ca pa xs ya a (Qct i S) t u w':=by
 unfold QkX at d |-;refine QmV ?_ d;exact⟨fun _ h=>h,fun _ h=>h.z f,fun _ h=>h.z f,Y⟩
theorem Qoh {y:Nat}{E:Int}{B:World->Prop}{A:List PanicEntry->World->Prop}(D:∀ w,B w->w6.heap.size<=w.heap.size) (c3:w6.cell? ⟨c,3,none⟩=some (.slice (some ⟨ri,0,none⟩) vl cc)) (x1:w6.cell? ⟨X,1,none⟩=some (Iv (j:Int))) (hj:(j:Int)<vl) (ej:w6.cell? ⟨ri,j,none⟩=some (Iv ya)) (x7:w6.cell? ⟨X,7,none⟩=some (.slice pa y ca)) (CA:Hid (∀ wx,Below w6.heap.size w6 wx->Calls prog 167 #[Pv c 0,.slice pa y ca] wx fun e w'=>Qm4 wx xs y e w')) (CT:Hid (∀ wx k,Below w6.heap.size w6 wx->w6.heap.size<=k->QbE wx (.slice (some ⟨k,0,none⟩) y y) xs->Calls prog 172 #[Pv b 0,Iv ya,.slice (some ⟨k,0,none⟩) y y] wx fun e w'=>(e=.returned (Iv E)/\B w'/\Zk w6 wx w')\/(∃ ch,e=.panicked ch/\A ch w')))  (P:∀ w w',(fun w=>∃ w5,B w5/\Below w5.heap.size w5 w) w->Below w.heap.size w w'->(fun w=>∃ w5,B w5/\Below w5.heap.size w5 w) w'){Q:Exit->Act->World->Prop}
 (a:Act) (m:Nat) (hn:a.tmps.size=m) (J:148<=m) (U:a.tmps.getD 0 undef=Pv b 0) (N:a.tmps.getD 1 undef=Pv c 0) (L:a.tmps.getD 5 undef=Pv X 0)
 (hX:∀ ch a' w',a'.defers=a.defers->(fun ch w=>A ch w) ch w'->Q (.panic ch) a' w')
 (hend:∀ ops vs w',vs 83=Pv c 0->(Qkj w6 E) (vs 98) w'->(fun w=>∃ w5,B w5/\Below w5.heap.size w5 w) w'->wpList prog ops Q (Qal 16 ((Tryz.f114.body.bind (Qi 16)).getD .skip)) (QM a vs [83,84,85,86,87,88,89,90,91,92,93,94,95,96,97,98]) w') :
 Code.wp prog ((Tryz.f114.body.bind (Qi 16)).getD .skip) Q a w6:=by
 conv=>arg 2;whnf
 refine Zs 16 (QkX w6 b c X ri vl cc j y ca pa xs ya E) (WY w6 (fun w=>∃ w5,B w5/\Below w5.heap.size w5 w) 14) (fun ch w=>A ch w) hX (outs:=[0,1,5]) (gs:=[]) (bs:=[true,true,true,true,true,true,true,true,true,true,true,true,true,true,true,true]) (by kernel_rfl) (n:=148) hn J (by kernel_rfl) (by kernel_rfl) ?hG (.inl ⟨Z,QI Zr 1⟩) ⟨U,N,L,Y⟩ ?hA ?hend
 case hG=>exact fun S=>trivial
 case hend=>exact fun ops vs S w' C f g=>hend ops vs w' (g 83 (by kernel_rfl)) (g 98 (by kernel_rfl)) (f.fin (C 14 (by decide)))
 case hA =>
  refine⟨fun S a w p u r f g K o=>?_,?_⟩
  ·obtain⟨d,-⟩:=g
   have d:a.tmps.getD 1 undef=Pv c 0:=d;go_simp;exact o _ _ (fun t _ l=>Qbb (i:=0) (Zk.refl _ _) l) (f.onS (i:=0) (by decide)) Z
  refine⟨fun S a w p u r f g K o=>?_,?_⟩
  ·obtain⟨d,-⟩:=g
   have d:a.tmps.getD 0 undef=Pv b 0:=d;go_simp;exact o _ _ (fun t _ l=>Qbb (i:=1) (Zk.refl _ _) l) (f.onS (i:=1) (by decide)) Z
  refine⟨fun S a w p u r f g K o=>?_,?_⟩
  ·obtain⟨d,-⟩:=g
   have d:a.tmps.getD 1 undef=Pv c 0:=d;go_simp;exact o _ _ (fun t _ l=>Qbb (i:=2) (Zk.refl _ _) l) (f.onS (i:=2) (by decide)) Z
  refine⟨fun S a w p u r f g K o=>?_,?_⟩
  ·obtain⟨d,-⟩:=g
   have d:a.tmps.getD 85 undef=Pv c 0:=d;go_simp;exact o _ _ (fun t _ l=>Qbb (i:=3) (Zk.refl _ _) l) (f.onS (i:=3) (by decide)) Z
  refine⟨fun S a w p u r f g K o=>?_,?_⟩
  ·obtain⟨d,-⟩:=g
   have d:a.tmps.getD 86 undef=Pv c 0:=d;go_simp;exact o _ _ (fun t _ l=>Qbb (i:=4) (Zk.refl _ _) l) (f.onS (i:=4) (by decide)) Z
  refine⟨fun S a w p u r f g K o=>?_,?_⟩
  ·obtain⟨d,-⟩:=g
   have s:S 14=false:=Qfp r (q:=14) Z (by kernel_rfl) p;have x:=f.pre s;have d:a.tmps.getD 87 undef=Pv c 3:=d;have O:=Qk c3 x;go_simp;exact o _ _ (fun t _ l=>Qbb (i:=5) (Zk.refl _ _) l) (f.onS (i:=5) (by decide)) Z
  refine⟨fun S a w p u r f g K o=>?_,?_⟩
  ·obtain⟨d,-⟩:=g
   have d:a.tmps.getD 5 undef=Pv X 0:=d;go_simp;exact o _ _ (fun t _ l=>Qbb (i:=6) (Zk.refl _ _) l) (f.onS (i:=6) (by decide)) Z
  refine⟨fun S a w p u r f g K o=>?_,?_⟩
  ·obtain⟨d,-⟩:=g
   have s:S 14=false:=Qfp r (q:=14) Z (by kernel_rfl) p;have x:=f.pre s;have d:a.tmps.getD 89 undef=Pv X 1:=d;have O:=Qk x1 x;go_simp;exact o _ _ (fun t _ l=>Qbb (i:=7) (Zk.refl _ _) l) (f.onS (i:=7) (by decide)) Z
  refine⟨fun S a w p u r f g K o=>?_,?_⟩
  ·obtain⟨d,z,-⟩:=g
   have d:a.tmps.getD 88 undef=.slice (some ⟨ri,0,none⟩) vl cc:=d;have z:a.tmps.getD 90 undef=Iv (j:Int):=z;go_simp;exact o _ _ (fun t _ l=>Qbb (i:=8) (Zk.refl _ _) l) (f.onS (i:=8) (by decide)) Z
  refine⟨fun S a w p u r f g K o=>?_,?_⟩
  ·obtain⟨d,-⟩:=g
   have s:S 14=false:=Qfp r (q:=14) Z (by kernel_rfl) p;have x:=f.pre s;have d:a.tmps.getD 91 undef=Pv ri j:=d;have O:=Qk ej x;go_simp;exact o _ _ (fun t _ l=>Qbb (i:=9) (Zk.refl _ _) l) (f.onS (i:=9) (by decide)) Z
  refine⟨fun S a w p u r f g K o=>?_,?_⟩
  ·obtain⟨d,-⟩:=g
   have d:a.tmps.getD 1 undef=Pv c 0:=d;go_simp;exact o _ _ (fun t _ l=>Qbb (i:=10) (Zk.refl _ _) l) (f.onS (i:=10) (by decide)) Z
  refine⟨fun S a w p u r f g K o=>?_,?_⟩
  ·obtain⟨d,-⟩:=g
   have d:a.tmps.getD 5 undef=Pv X 0:=d;go_simp;exact o _ _ (fun t _ l=>Qbb (i:=11) (Zk.refl _ _) l) (f.onS (i:=11) (by decide)) Z
  refine⟨fun S a w p u r f g K o=>?_,?_⟩
  ·obtain⟨d,-⟩:=g
   have s:S 14=false:=Qfp r (q:=14) Z (by kernel_rfl) p;have x:=f.pre s;have d:a.tmps.getD 94 undef=Pv X 7:=d;have O:=Qk x7 x;go_simp;exact o _ _ (fun t _ l=>Qbb (i:=12) (Zk.refl _ _) l) (f.onS (i:=12) (by decide)) Z
  refine⟨fun S a w p u r f g K o=>?_,?_⟩
  ·obtain⟨d,z,-⟩:=g
   have s:S 14=false:=Qfp r (q:=14) Z (by kernel_rfl) p;have x:=f.pre s;have d:a.tmps.getD 93 undef=Pv c 0:=d;have z:a.tmps.getD 95 undef=.slice pa y ca:=z;go_simp;refine Xm (CA.out w x) ?_;rintro T w7 ⟨H,rfl,N,h2,R⟩;go_simp;exact o _ _ (fun t _ l=>Qbb (i:=13) (Zk.below R) l) (f.onB P (i:=13) (by decide) R) ⟨H,Z,Zt x.size N,h2⟩
  refine⟨fun S a w p u r f g K o=>?_,?_⟩
  ·obtain⟨d,z,F,-⟩:=g
   have x:=f.pre p;have d:a.tmps.getD 84 undef=Pv b 0:=d;have z:a.tmps.getD 92 undef=Iv ya:=z;have F:(Qmi w6 xs y) (a.tmps.getD 96 undef) w:=F;generalize aa:a.tmps.getD 96 undef=V at F;obtain⟨H,rfl,h7,h8⟩:=F
   go_simp;refine Xm (CT.out w H x h7 h8) ?_;rintro T w7 (⟨rfl,G,hz⟩|⟨ch,rfl,G⟩)
   rotate_left
   ·exact⟨_,Z,G⟩
   go_simp;exact o _ _ (fun t _ l=>Qbb (i:=14) hz l) (WY.did ⟨_,G,Zr⟩) Z
  refine⟨fun S a w p u r f g K o=>?_,?_⟩
  ·obtain⟨d,-⟩:=g
   have d:(fun v=>v=Iv E) (a.tmps.getD 97 undef):=d;generalize I:a.tmps.getD 97 undef=W at d;rw[Za] at I
   subst d;go_simp;have M:=f.lowB (fun w h=>by obtain⟨w5,L,h6⟩:=h;exact Zt (D _ L) h6.size);exact o _ _ (fun t _ l=>Qbb (i:=15) (Zk.below (ZP _ _)) l) (f.onB P (i:=15) (by decide) (ZP _ _)) ⟨_,Z,M,Qb (Qe _ _ _) 0 _ Z⟩
  trivial
def Qkx (w6:World) (b c X ri vl cc j q:Nat) (ya yb ta:Int) (S:Nat->Bool) (t:Tmp) (v:Value) (w:World):Prop :=
 match ([(120,fun _ v _=>(fun v=>v=.int .i64 ta) v),(121,fun _ v w=>(Qkj w6 ta) v w)]:List (Tmp × ((Nat->Bool)->Value->World->Prop))).lookup t with
 | some p=>p S v w
 | none=>v=(([(0,.pointer (some ⟨b,0,none⟩)),(1,.pointer (some ⟨c,0,none⟩)),(5,.pointer (some ⟨X,0,none⟩)),(102,.pointer (some ⟨c,0,none⟩)),(103,.pointer (some ⟨b,0,none⟩)),(104,.pointer (some ⟨c,0,none⟩)),(105,.pointer (some ⟨c,0,none⟩)),(106,.pointer (some ⟨c,3,none⟩)),(107,.slice (some ⟨ri,0,none⟩) vl cc),(108,.pointer (some ⟨X,1,none⟩)),(109,.int .i64 (j:Int)),(110,.pointer (some ⟨ri,j,none⟩)),(111,.int .i64 ya),(112,.pointer (some ⟨c,0,none⟩)),(113,.pointer (some ⟨c,0,none⟩)),(114,.pointer (some ⟨c,3,none⟩)),(115,.slice (some ⟨ri,0,none⟩) vl cc),(116,.pointer (some ⟨X,2,none⟩)),(117,.int .i64 (q:Int)),(118,.pointer (some ⟨ri,q,none⟩)),(119,.int .i64 yb)]:List (Tmp × Value)).lookup t).getD undef
theorem Qav {a:Int}{S:Nat->Bool}{t:Tmp}{u:Value}(e:Zk w6 w w') (d:Qkx w6 b c X ri vl cc j q ya yb a S t u w):Qkx w6 b c X ri vl cc j q ya yb a (Qct i S) t u w':=by
 unfold Qkx at d |-;refine QmV ?_ d;exact⟨fun _ h=>h,fun _ h=>h.z e,Y⟩
theorem Qof {D:Int}{z:World->Prop}{y:List PanicEntry->World->Prop}(B:∀ w,z w->w6.heap.size<=w.heap.size) (L:w6.cell? ⟨c,3,none⟩=some (.slice (some ⟨ri,0,none⟩) vl cc)) (x1:w6.cell? ⟨X,1,none⟩=some (Iv (j:Int))) (hj:(j:Int)<vl) (P:w6.cell? ⟨ri,j,none⟩=some (Iv ya)) (O:w6.cell? ⟨X,2,none⟩=some (Iv (q:Int))) (hq:(q:Int)<vl) (T:w6.cell? ⟨ri,q,none⟩=some (Iv yb)) (CT:Hid (∀ wx,Below w6.heap.size w6 wx->Calls prog 173 #[Pv b 0,Iv ya,Iv yb] wx fun e w'=>(e=.returned (Iv D)/\z w'/\Zk w6 wx w')\/(∃ ch,e=.panicked ch/\y ch w')))  (W:∀ w w',(fun w=>∃ w5,z w5/\Below w5.heap.size w5 w) w->Below w.heap.size w w'->(fun w=>∃ w5,z w5/\Below w5.heap.size w5 w) w'){Q:Exit->Act->World->Prop}
 (a:Act) (m:Nat) (hn:a.tmps.size=m) (G:148<=m) (M:a.tmps.getD 0 undef=Pv b 0) (h1:a.tmps.getD 1 undef=Pv c 0) (H:a.tmps.getD 5 undef=Pv X 0)
 (V:∀ ch a' w',a'.defers=a.defers->(fun ch w=>y ch w) ch w'->Q (.panic ch) a' w')
 (hend:∀ ops vs w',vs 102=Pv c 0->(Qkj w6 D) (vs 121) w'->(fun w=>∃ w5,z w5/\Below w5.heap.size w5 w) w'->wpList prog ops Q (Qal 20 ((Tryz.f114.body.bind (Qi 18)).getD .skip)) (QM a vs [102,103,104,105,106,107,108,109,110,111,112,113,114,115,116,117,118,119,120,121]) w') :
 Code.wp prog ((Tryz.f114.body.bind (Qi 18)).getD .skip) Q a w6:=by
 conv=>arg 2;whnf
 refine Zs 20 (Qkx w6 b c X ri vl cc j q ya yb D) (WY w6 (fun w=>∃ w5,z w5/\Below w5.heap.size w5 w) 18) (fun ch w=>y ch w) V (outs:=[0,1,5]) (gs:=[]) (bs:=[true,true,true,true,true,true,true,true,true,true,true,true,true,true,true,true,true,true,true,true]) (by kernel_rfl) (n:=148) hn G (by kernel_rfl) (by kernel_rfl) ?hG (.inl ⟨Z,QI Zr 1⟩) ⟨M,h1,H,Y⟩ ?hA ?hend
 case hG=>exact fun S=>trivial
 case hend=>exact fun ops vs S w' A f g=>hend ops vs w' (g 102 (by kernel_rfl)) (g 121 (by kernel_rfl)) (f.fin (A 18 (by decide)))
 case hA =>
  refine⟨fun S a w o s p f g K l=>?_,?_⟩
  ·obtain⟨d,-⟩:=g
   have d:a.tmps.getD 1 undef=Pv c 0:=d;go_simp;exact l _ _ (fun t _ k=>Qav (i:=0) (Zk.refl _ _) k) (f.onS (i:=0) (by decide)) Z
  refine⟨fun S a w o s p f g K l=>?_,?_⟩
  ·obtain⟨d,-⟩:=g
   have d:a.tmps.getD 0 undef=Pv b 0:=d;go_simp;exact l _ _ (fun t _ k=>Qav (i:=1) (Zk.refl _ _) k) (f.onS (i:=1) (by decide)) Z
  refine⟨fun S a w o s p f g K l=>?_,?_⟩
  ·obtain⟨d,-⟩:=g
   have d:a.tmps.getD 1 undef=Pv c 0:=d;go_simp;exact l _ _ (fun t _ k=>Qav (i:=2) (Zk.refl _ _) k) (f.onS (i:=2) (by decide)) Z
  refine⟨fun S a w o s p f g K l=>?_,?_⟩
  ·obtain⟨d,-⟩:=g
   have d:a.tmps.getD 104 undef=Pv c 0:=d;go_simp;exact l _ _ (fun t _ k=>Qav (i:=3) (Zk.refl _ _) k) (f.onS (i:=3) (by decide)) Z
  refine⟨fun S a w o s p f g K l=>?_,?_⟩
  ·obtain⟨d,-⟩:=g
   have d:a.tmps.getD 105 undef=Pv c 0:=d;go_simp;exact l _ _ (fun t _ k=>Qav (i:=4) (Zk.refl _ _) k) (f.onS (i:=4) (by decide)) Z
  refine⟨fun S a w o s p f g K l=>?_,?_⟩
  ·obtain⟨d,-⟩:=g
   have r:S 18=false:=Qfp p (q:=18) Z (by kernel_rfl) o;have u:=f.pre r;have d:a.tmps.getD 106 undef=Pv c 3:=d;have C:=Qk L u;go_simp;exact l _ _ (fun t _ k=>Qav (i:=5) (Zk.refl _ _) k) (f.onS (i:=5) (by decide)) Z
  refine⟨fun S a w o s p f g K l=>?_,?_⟩
  ·obtain⟨d,-⟩:=g
   have d:a.tmps.getD 5 undef=Pv X 0:=d;go_simp;exact l _ _ (fun t _ k=>Qav (i:=6) (Zk.refl _ _) k) (f.onS (i:=6) (by decide)) Z
  refine⟨fun S a w o s p f g K l=>?_,?_⟩
  ·obtain⟨d,-⟩:=g
   have r:S 18=false:=Qfp p (q:=18) Z (by kernel_rfl) o;have u:=f.pre r;have d:a.tmps.getD 108 undef=Pv X 1:=d;have C:=Qk x1 u;go_simp;exact l _ _ (fun t _ k=>Qav (i:=7) (Zk.refl _ _) k) (f.onS (i:=7) (by decide)) Z
  refine⟨fun S a w o s p f g K l=>?_,?_⟩
  ·obtain⟨d,x,-⟩:=g
   have d:a.tmps.getD 107 undef=.slice (some ⟨ri,0,none⟩) vl cc:=d;have x:a.tmps.getD 109 undef=Iv (j:Int):=x;go_simp;exact l _ _ (fun t _ k=>Qav (i:=8) (Zk.refl _ _) k) (f.onS (i:=8) (by decide)) Z
  refine⟨fun S a w o s p f g K l=>?_,?_⟩
  ·obtain⟨d,-⟩:=g
   have r:S 18=false:=Qfp p (q:=18) Z (by kernel_rfl) o;have u:=f.pre r;have d:a.tmps.getD 110 undef=Pv ri j:=d;have C:=Qk P u;go_simp;exact l _ _ (fun t _ k=>Qav (i:=9) (Zk.refl _ _) k) (f.onS (i:=9) (by decide)) Z
  refine⟨fun S a w o s p f g K l=>?_,?_⟩
  ·obtain⟨d,-⟩:=g
   have d:a.tmps.getD 1 undef=Pv c 0:=d;go_simp;exact l _ _ (fun t _ k=>Qav (i:=10) (Zk.refl _ _) k) (f.onS (i:=10) (by decide)) Z
  refine⟨fun S a w o s p f g K l=>?_,?_⟩
  ·obtain⟨d,-⟩:=g
   have d:a.tmps.getD 112 undef=Pv c 0:=d;go_simp;exact l _ _ (fun t _ k=>Qav (i:=11) (Zk.refl _ _) k) (f.onS (i:=11) (by decide)) Z
  refine⟨fun S a w o s p f g K l=>?_,?_⟩
  ·obtain⟨d,-⟩:=g
   have d:a.tmps.getD 113 undef=Pv c 0:=d;go_simp;exact l _ _ (fun t _ k=>Qav (i:=12) (Zk.refl _ _) k) (f.onS (i:=12) (by decide)) Z
  refine⟨fun S a w o s p f g K l=>?_,?_⟩
  ·obtain⟨d,-⟩:=g
   have r:S 18=false:=Qfp p (q:=18) Z (by kernel_rfl) o;have u:=f.pre r;have d:a.tmps.getD 114 undef=Pv c 3:=d;have C:=Qk L u;go_simp;exact l _ _ (fun t _ k=>Qav (i:=13) (Zk.refl _ _) k) (f.onS (i:=13) (by decide)) Z
  refine⟨fun S a w o s p f g K l=>?_,?_⟩
  ·obtain⟨d,-⟩:=g
   have d:a.tmps.getD 5 undef=Pv X 0:=d;go_simp;exact l _ _ (fun t _ k=>Qav (i:=14) (Zk.refl _ _) k) (f.onS (i:=14) (by decide)) Z
  refine⟨fun S a w o s p f g K l=>?_,?_⟩
  ·obtain⟨d,-⟩:=g
   have r:S 18=false:=Qfp p (q:=18) Z (by kernel_rfl) o;have u:=f.pre r;have d:a.tmps.getD 116 undef=Pv X 2:=d;have C:=Qk O u;go_simp;exact l _ _ (fun t _ k=>Qav (i:=15) (Zk.refl _ _) k) (f.onS (i:=15) (by decide)) Z
  refine⟨fun S a w o s p f g K l=>?_,?_⟩
  ·obtain⟨d,x,-⟩:=g
   have d:a.tmps.getD 115 undef=.slice (some ⟨ri,0,none⟩) vl cc:=d;have x:a.tmps.getD 117 undef=Iv (q:Int):=x;go_simp;exact l _ _ (fun t _ k=>Qav (i:=16) (Zk.refl _ _) k) (f.onS (i:=16) (by decide)) Z
  refine⟨fun S a w o s p f g K l=>?_,?_⟩
  ·obtain⟨d,-⟩:=g
   have r:S 18=false:=Qfp p (q:=18) Z (by kernel_rfl) o;have u:=f.pre r;have d:a.tmps.getD 118 undef=Pv ri q:=d;have C:=Qk T u;go_simp;exact l _ _ (fun t _ k=>Qav (i:=17) (Zk.refl _ _) k) (f.onS (i:=17) (by decide)) Z
  refine⟨fun S a w o s p f g K l=>?_,?_⟩
  ·obtain⟨d,x,J,-⟩:=g
   have u:=f.pre o;have d:a.tmps.getD 103 undef=Pv b 0:=d;have x:a.tmps.getD 111 undef=Iv ya:=x;have J:a.tmps.getD 119 undef=Iv yb:=J;go_simp;refine Xm (CT.out w u) ?_;rintro r7 w7 (⟨rfl,E,R⟩|⟨ch,rfl,E⟩)
   rotate_left
   ·exact⟨_,Z,E⟩
   go_simp;exact l _ _ (fun t _ k=>Qav (i:=18) R k) (WY.did ⟨_,E,Zr⟩) Z
  refine⟨fun S a w o s p f g K l=>?_,?_⟩
  ·obtain⟨d,-⟩:=g
   have d:(fun v=>v=Iv D) (a.tmps.getD 120 undef):=d;generalize F:a.tmps.getD 120 undef=N at d;rw[Za] at F
   subst d;go_simp;have I:=f.lowB (fun w h=>by obtain⟨w5,H,U⟩:=h;exact Zt (B _ H) U.size);exact l _ _ (fun t _ k=>Qav (i:=19) (Zk.below (ZP _ _)) k) (f.onB W (i:=19) (by decide) (ZP _ _)) ⟨_,Z,I,Qb (Qe _ _ _) 0 _ Z⟩
  trivial
def Qnb (w6:World) (fr:RFr) (gc nc:Nat) (vs0:List Value) (v:Value) (w:World):Prop:=∃ w5 c5 x5 n5,Below w6.heap.size w6 w5/\w6.heap.size<=c5/\w6.heap.size<=x5/\WFr w5 c5 fr (.slice (some ⟨x5,0,none⟩) n5 n5)/\w.ownsRow 0 130 1 v (nc+1) (vs0++[Pv c5 0])/\w5.grownBy w (some gc)/\∀ k,v.ownBlock=some k->k=gc\/k=w5.heap.size
theorem wInfoF:∃ i,prog.info? 130=some i/\i.zero=some (.pointer none)/\i.size=1/\i.bytes=8:=by
 have a:(prog.info? 130).map (fun i=>(i.zero,i.size,i.bytes))=some (some (.pointer none),1,8):=by kernel_rfl
 cases h2:prog.info? 130 with
 | none=>rw[h2] at a;cases a
 | some i =>
   rw[h2] at a
   simp at a
   exact⟨i,Z,a.1,a.2.1,a.2.2⟩
theorem wUnderF:prog.underlying 66=some (.slice 130):=by kernel_rfl
def Ql1 (w6:World) (fr:RFr) (b c X fi gc nc dc na ca:Nat) (pa:Option Addr) (vs0:List Value) (S:Nat->Bool) (t:Tmp) (v:Value) (w:World):Prop :=
 match ([(23,fun _ v w=>(Qho w6 fr) v w),(24,fun _ v w=>(QmU w6 fr) v w),(25,fun S v w=>S 12=true->(Qnb w6 fr gc nc vs0) v w)]:List (Tmp × ((Nat->Bool)->Value->World->Prop))).lookup t with
 | some p=>p S v w
 | none=>v=(([(0,.pointer (some ⟨b,0,none⟩)),(1,.pointer (some ⟨c,0,none⟩)),(5,.pointer (some ⟨X,0,none⟩)),(13,.pointer (some ⟨b,0,none⟩)),(14,.pointer (some ⟨b,0,none⟩)),(15,.pointer (some ⟨b,0,none⟩)),(16,.pointer (some ⟨b,4,none⟩)),(17,.slice (some ⟨gc,0,none⟩) nc dc),(18,.pointer (some ⟨c,0,none⟩)),(19,.pointer (some ⟨X,4,none⟩)),(20,.int .i64 (fi:Int)),(21,.pointer (some ⟨X,7,none⟩)),(22,.slice pa na ca),(26,.pointer (some ⟨b,0,none⟩)),(27,.pointer (some ⟨b,4,none⟩))]:List (Tmp × Value)).lookup t).getD undef
theorem Qgu {fr:RFr}{g k f j:Nat}{a:List Value}{S:Nat->Bool}{t:Tmp}{u:Value}(hi:i≠12) (l:Zk w6 w w') (n:S 12=true->w'=w) (d:Ql1 w6 fr b c X fi g k f j ca pa a S t u w):Ql1 w6 fr b c X fi g k f j ca pa a (Qct i S) t u w':=by
 unfold Ql1 at d |-;refine QmV ?_ d;exact⟨fun _ h=>h.z l,fun _ h=>h.z l,fun _ h e=>(by rw[Qnc (fun e=>hi e.symm)] at e;have m:=n e;subst m;exact h e),Y⟩
theorem Qn3 {fr:RFr}{g j f i:Nat}{a:List Value}{S:Nat->Bool}{t:Tmp}{u:Value}(l:t≠25) (k:Zk w6 w w') (d:Ql1 w6 fr b c X fi g j f i ca pa a S t u w):Ql1 w6 fr b c X fi g j f i ca pa a (Qct 12 S) t u w':=by
 unfold Ql1 at d |-;refine QmV ?_ d;exact⟨fun _ h=>h.z k,fun _ h=>h.z k,fun e _=>absurd e l,Y⟩
theorem wc2 {fr:RFr}{y x D G:Nat}{v:List Value}(hR:Hid (∀ wx,Below w6.heap.size w6 wx->wx.ownsRow 0 130 1 (.slice (some ⟨y,0,none⟩) x D) x v)) (ad:y<w6.heap.size) (ab:x<=100) (q4:w6.cell? ⟨b,4,none⟩=some (.slice (some ⟨y,0,none⟩) x D)) (x4:w6.cell? ⟨X,4,none⟩=some (Iv (fi:Int))) (C:w6.cell? ⟨X,7,none⟩=some (.slice pa G ca)) (CB:Hid (∀ wx,Below w6.heap.size w6 wx->Calls prog 216 #[Pv c 0,Iv (fi:Int),Iv 0,.slice pa G ca] wx fun e w'=>QmQ wx fr e w'))  (hP:∀ w w',(fun w=>w6.heap.size<=w.heap.size) w->Below w.heap.size w w'->(fun w=>w6.heap.size<=w.heap.size) w'){Q:Exit->Act->World->Prop}
 (a:Act) (m:Nat) (hn:a.tmps.size=m) (M:28<=m) (h0:a.tmps.getD 0 undef=Pv b 0) (T:a.tmps.getD 1 undef=Pv c 0) (h5:a.tmps.getD 5 undef=Pv X 0)
 (hX:∀ ch a' w',a'.defers=a.defers->(fun ch w=>False) ch w'->Q (.panic ch) a' w')
 (hend:∀ ops vs w',(Qnb w6 fr y x v) (vs 25) w'->vs 27=Pv b 4->(fun w=>w6.heap.size<=w.heap.size) w'->wpList prog ops Q (Qal 15 ((Tryz.f176.body.bind (Qi 2)).getD .skip)) (QM a vs [13,14,15,16,17,18,19,20,21,22,23,24,25,26,27]) w') :
 Code.wp prog ((Tryz.f176.body.bind (Qi 2)).getD .skip) Q a w6:=by
 conv=>arg 2;whnf
 refine Zs 15 (Ql1 w6 fr b c X fi y x D G ca pa v) (WY w6 (fun w=>w6.heap.size<=w.heap.size) 12) (fun ch w=>False) hX (outs:=[0,1,5]) (gs:=[]) (bs:=[true,true,true,true,true,true,true,true,true,true,true,true,true,true,true]) (by kernel_rfl) (n:=28) hn M (by kernel_rfl) (by kernel_rfl) ?hG (.inl ⟨Yz,QI Zr 1⟩) ⟨h0,T,h5,Y⟩ ?hA ?hend
 case hG=>exact fun S=>trivial
 case hend=>exact fun ops vs S w' A f g=>hend ops vs w' ((show S 12=true->(Qnb w6 fr y x v) (vs 25) w' from g 25 (by kernel_rfl)) (A 12 (by decide))) (g 27 (by kernel_rfl)) (f.fin (A 12 (by decide)))
 case hA =>
  refine⟨fun S a w o s p f g K j=>?_,?_⟩
  ·obtain⟨d,-⟩:=g
   have d:a.tmps.getD 0 undef=Pv b 0:=d;go_simp;exact j _ _ (fun t _ h=>Qgu (by decide) (i:=0) (Zk.refl _ _) (fun _=>rfl) h) (f.onS (i:=0) (by decide)) Yz
  refine⟨fun S a w o s p f g K j=>?_,?_⟩
  ·obtain⟨d,-⟩:=g
   have d:a.tmps.getD 0 undef=Pv b 0:=d;go_simp;exact j _ _ (fun t _ h=>Qgu (by decide) (i:=1) (Zk.refl _ _) (fun _=>rfl) h) (f.onS (i:=1) (by decide)) Yz
  refine⟨fun S a w o s p f g K j=>?_,?_⟩
  ·obtain⟨d,-⟩:=g
   have d:a.tmps.getD 14 undef=Pv b 0:=d;go_simp;exact j _ _ (fun t _ h=>Qgu (by decide) (i:=2) (Zk.refl _ _) (fun _=>rfl) h) (f.onS (i:=2) (by decide)) Yz
  refine⟨fun S a w o s p f g K j=>?_,?_⟩
  ·obtain⟨d,-⟩:=g
   have d:a.tmps.getD 15 undef=Pv b 0:=d;go_simp;exact j _ _ (fun t _ h=>Qgu (by decide) (i:=3) (Zk.refl _ _) (fun _=>rfl) h) (f.onS (i:=3) (by decide)) Yz
  refine⟨fun S a w o s p f g K j=>?_,?_⟩
  ·obtain⟨d,-⟩:=g
   have l:S 12=false:=Qfp p (q:=12) Yz (by kernel_rfl) o;have r:=f.pre l;have d:a.tmps.getD 16 undef=Pv b 4:=d;have c0:=Qk q4 r;go_simp;exact j _ _ (fun t _ h=>Qgu (by decide) (i:=4) (Zk.refl _ _) (fun _=>rfl) h) (f.onS (i:=4) (by decide)) Yz
  refine⟨fun S a w o s p f g K j=>?_,?_⟩
  ·obtain⟨d,-⟩:=g
   have d:a.tmps.getD 1 undef=Pv c 0:=d;go_simp;exact j _ _ (fun t _ h=>Qgu (by decide) (i:=5) (Zk.refl _ _) (fun _=>rfl) h) (f.onS (i:=5) (by decide)) Yz
  refine⟨fun S a w o s p f g K j=>?_,?_⟩
  ·obtain⟨d,-⟩:=g
   have d:a.tmps.getD 5 undef=Pv X 0:=d;go_simp;exact j _ _ (fun t _ h=>Qgu (by decide) (i:=6) (Zk.refl _ _) (fun _=>rfl) h) (f.onS (i:=6) (by decide)) Yz
  refine⟨fun S a w o s p f g K j=>?_,?_⟩
  ·obtain⟨d,-⟩:=g
   have l:S 12=false:=Qfp p (q:=12) Yz (by kernel_rfl) o;have r:=f.pre l;have d:a.tmps.getD 19 undef=Pv X 4:=d;have c0:=Qk x4 r;go_simp;exact j _ _ (fun t _ h=>Qgu (by decide) (i:=7) (Zk.refl _ _) (fun _=>rfl) h) (f.onS (i:=7) (by decide)) Yz
  refine⟨fun S a w o s p f g K j=>?_,?_⟩
  ·obtain⟨d,-⟩:=g
   have d:a.tmps.getD 5 undef=Pv X 0:=d;go_simp;exact j _ _ (fun t _ h=>Qgu (by decide) (i:=8) (Zk.refl _ _) (fun _=>rfl) h) (f.onS (i:=8) (by decide)) Yz
  refine⟨fun S a w o s p f g K j=>?_,?_⟩
  ·obtain⟨d,-⟩:=g
   have l:S 12=false:=Qfp p (q:=12) Yz (by kernel_rfl) o;have r:=f.pre l;have d:a.tmps.getD 21 undef=Pv X 7:=d;have c0:=Qk C r;go_simp;exact j _ _ (fun t _ h=>Qgu (by decide) (i:=9) (Zk.refl _ _) (fun _=>rfl) h) (f.onS (i:=9) (by decide)) Yz
  refine⟨fun S a w o s p f g K j=>?_,?_⟩
  ·obtain⟨d,B,W,-⟩:=g
   have l:S 12=false:=Qfp p (q:=12) Yz (by kernel_rfl) o;have r:=f.pre l;have d:a.tmps.getD 18 undef=Pv c 0:=d;have B:a.tmps.getD 20 undef=Iv (fi:Int):=B;have W:a.tmps.getD 22 undef=.slice pa G ca:=W;go_simp;refine Xm (CB.out w r) ?_;rintro r7 w7 ⟨k7,C,H,rfl,T,h2,h3,b7⟩;go_simp;exact j _ _ (fun t _ h=>Qgu (by decide) (i:=10) (Zk.below b7) (fun e=>by rw[l] at e;cases e) h) (f.onB hP (i:=10) (by decide) b7) ⟨k7,C,H,Yz,Zt r.size T,Zt r.size h2,h3⟩
  refine⟨fun S a w o s p f g K j=>?_,?_⟩
  ·obtain⟨d,-⟩:=g
   have l:S 12=false:=Qfp p (q:=12) Yz (by kernel_rfl) o;have r:=f.pre l;have d:(Qho w6 fr) (a.tmps.getD 23 undef) w:=d;generalize J:a.tmps.getD 23 undef=aa at d;rw[Za] at J
   have k9:=d;obtain⟨I,C,H,rfl,V,F,E⟩:=d
   go_simp;exact j _ _ (fun t _ h=>Qgu (by decide) (i:=11) (Zk.below (ZP _ _)) (fun e=>by rw[l] at e;cases e) h) (f.onB hP (i:=11) (by decide) (ZP _ _)) ⟨_,_,Yz,r.size,Qb (Qe _ _ _) 0 _ Yz,k9.z (Zk.below (ZP _ _))⟩
  refine⟨fun S a w o s p f g K j=>?_,?_⟩
  ·obtain⟨d,B,-⟩:=g
   have r:=f.pre o;have d:a.tmps.getD 17 undef=.slice (some ⟨y,0,none⟩) x D:=d;have B:(QmU w6 fr) (a.tmps.getD 24 undef) w:=B;generalize R:a.tmps.getD 24 undef=ac at B;obtain⟨kx,u7,rfl,h7,h8,I,C,H,rfl,V,F,E⟩:=B
   obtain⟨i0,P,N,U,L⟩:=wInfoF
   refine QeG w _ _ 66 Yz 130 i0 (.pointer none) 1 8 wUnderF P N U L Yz (by decide) (.slice (some ⟨y,0,none⟩) x D) x v d (hR.out w r) ⟨kx,0,none⟩ 1 1 [Pv I 0] R Yz (Qgl h8) (by intro u hu;simp at hu;subst hu;rfl) (by unfold maxLen;omega) (by omega) ?_;intro v9 w9 r1 O r3;have hz:Zk w6 w w9:=fun Z hZ hl=>O.block Z hl (fun e=>by have:Z=y:=(by simpa[Value.ownBlock] using e);omega);refine j _ _ (fun t hL h=>Qn3 (fun e=>by subst e;have:=QjT hL (by kernel_rfl) (i:=12) (by kernel_rfl);rw[o] at this;cases this) hz h) (WY.did (Zt r.size O.size)) (fun _=>⟨w,I,C,H,r,V,F,E,r1,O,fun k g=>(r3 k g).imp (fun e=>by simpa[Value.ownBlock] using e.symm) id⟩)
  refine⟨fun S a w o s p f g K j=>?_,?_⟩
  ·obtain⟨d,-⟩:=g
   have d:a.tmps.getD 13 undef=Pv b 0:=d;go_simp;exact j _ _ (fun t _ h=>Qgu (by decide) (i:=13) (Zk.refl _ _) (fun _=>rfl) h) (f.onS (i:=13) (by decide)) Yz
  refine⟨fun S a w o s p f g K j=>?_,?_⟩
  ·obtain⟨d,-⟩:=g
   have d:a.tmps.getD 26 undef=Pv b 0:=d;go_simp;exact j _ _ (fun t _ h=>Qgu (by decide) (i:=14) (Zk.refl _ _) (fun _=>rfl) h) (f.onS (i:=14) (by decide)) Yz
  trivial
def RM.nx (R:RM):RM:={ R with top:={ R.top with i:=R.top.i+1 } }
def Qdi (g:WG) (w:World) (b most:Nat) (m:List (MFunc 6)) (r:RM) (e:Ending) (w':World):Prop :=
 (∃ N,r=N.nx/\e=.returned (.tuple #[])/\WTo g w w' b most m N)\/(∃ N k,r=N.over k/\e=.panicked (QdR k)/\WTo g w w' b most m N)
section
variable {w w' w2:World}{b most n:Nat}{m:List (MFunc 6)}{R R' r:RM}{g g1:WG}
theorem Qdi.then {e:Ending}(T:WSt g g1 w w2) (h:g1.t.c=g.t.c) (f:g1.fs=g.fs) (H:Qdi g1 w2 b most m r e w'):Qdi g w b most m r e w':=by
 rcases H with ⟨N,a,c,d⟩|⟨N,k,a,c,d⟩
 ·exact .inl ⟨N,a,c,WTo.then T h f d⟩
 ·exact .inr ⟨N,k,a,c,WTo.then T h f d⟩
theorem Qdi.cases {e:Ending}(h:Qdi g w b most m r e w'):(e=.returned (.tuple #[])\/∃ ch,e=.panicked ch):=by
 rcases h with ⟨N,a,c,d⟩|⟨N,k,a,c,d⟩
 ·exact .inl c
 ·exact .inr ⟨_,c⟩
theorem WAt.wordAt (S:WAt w b most m R g){k a:Int}(h:iAt R.top.v k=some a):∃ (j i o:Nat) (c:Nat),k=(j:Int)/\(j:Int)<(R.top.v.length:Nat)/\w.cell? ⟨g.t.c,3,none⟩=some (.slice (some ⟨i,0,none⟩) R.top.v.length c)/\w.cell? ⟨i,j,none⟩=some (Iv a):=by
 obtain⟨j,rfl,l,f⟩:=Qlc h
 have F:=S.top;obtain⟨q,e,n,d⟩:=F.2.cell
 obtain⟨i,rfl,-,p⟩:=d j l
 refine⟨j,i,0,e,Z,by omega,?_,by rw[f];exact p⟩
 rw[<-n];exact Qb F.1 3 _ Z
theorem WAt.makesC (S:WAt w b most m R g)(h:w.cell? ⟨k,0,none⟩=some (Iv x)) (a:R.top.v.length+1<=1000000) :
 Calls prog 169 #[Pv g.t.c 0,.slice (some ⟨k,0,none⟩) 1 1] w fun e w'=>e=.returned (.tuple #[])/\WTo g w w' b most m (R.push [x]) :=
 Qb5 S (l:=[x]) Z (Qgl h) a
theorem Qz.zk {w w':World}(h:Qz O O' w w') (a:∀ x,O x->x<w6.heap.size):Zk w6 w w':=fun Z c b=>h.block Z b (fun e=>by have:=a Z e;omega)
theorem Qm6 (S:WAt w b most m R g) (I:ROk m n R) (J:n<=900000){x:Qt}(d:IP) (h:x.op=1) (a:RM.ins aOp R x=some r) :
 Calls prog 114 #[Pv b 0,Pv g.t.c 0,.agg (Zq x d)] w fun e w'=>Qdi g w b most m r e w':=by
 have i:=Qc (ZP w (.cells (Zq x d) 78));have f:=Qc (Qe w (Zq x d) 78);have k:=Qc (S.below i.out);have l:=Qc (S.stepB i.out);have A:R.top.v.length+1<=1000000:=by have:=(I.fr R.top (by simp)).1;omega
 have q:=I.out.1;have p:=I.inp;clear S I;go_enter func114,ntmps114
 go_upto_region 1 with fail
 generalize w.alloc (.cells (Zq x d) 78)=K at i f k l |-;generalize w.heap.size=X at f |-;obtain⟨j,D,u,y,z,B,s,F⟩:=Q5 f.out
 rw[h] at j
 have E:Hid (r=(R.push [x.n]).nx):=by show _=_;unfold RM.ins at a;simp only[h,if_true] at a;cases a;rfl
 have C:=Qc (Qcb k.out x.n A);clear D u y z s F a h;go_wp2_with fail
 refine C.out.mono ?_;rintro H G ⟨rfl,o⟩;have Z:=Qc (WTo.then l.out Yz Yz o);clear o C B j;go_wp2
 exact Xz (v:=.tuple #[]) (by simp[results,results114,go_sem]) Yz (.inl ⟨_,E.out,Yz,Z.out⟩)
theorem Qnf (S:WAt w b most m R g) (I:ROk m n R) (hn:n<=900000){x:Qt}(o:IP) (h:x.op=3) (L:RM.ins aOp R x=some r) :
 Calls prog 114 #[Pv b 0,Pv g.t.c 0,.agg (Zq x o)] w fun e w'=>Qdi g w b most m r e w':=by
 have A:=Qc (ZP w (.cells (Zq x o) 78));have z:=Qc (Qe w (Zq x o) 78);have s:=Qc (S.below A.out);have u:=Qc (S.stepB A.out);have V:R.top.v.length+1<=1000000:=by have:=(I.fr R.top (by simp)).1;omega
 have J:=I.out.1;have H:=I.inp;clear S I;go_enter func114,ntmps114
 go_upto_region 1 with fail
 generalize w.alloc (.cells (Zq x o) 78)=w1 at A z s u |-;generalize w.heap.size=X at z |-;obtain⟨D,x1,O,T,U,W,N,x7⟩:=Q5 z.out
 rw[h] at D
 have E:Hid (some r=if 0<=R.e.openK then some (({ R with e:=R.e.opened }:RM).on [R.e.openK]) else some (R.over 6)):=by show _=_;rw[<-L];unfold RM.ins;simp[h]
 have C:=Qc s.out.openC;have Q:=s.out.cellE;clear x1 O T U W N x7 L h;by_cases d:0<=R.e.openK
 ·have j:Hid (r=(RM.push { R with e:=R.e.opened } [R.e.openK]).nx):=by show _=_;have:=E.out;rw[Xs d] at this;cases this;rfl
  have y:decide (R.e.openK>=0)=true:=by simpa using d
  clear E d;obtain⟨f,a⟩:∃ f,R.e.openK=f:=⟨_,Yz⟩
  rw[a] at C j y
  clear a;go_upto_region 12 with (first | (go_at_call 170;refine C.out.mono ?_;rintro l w2 ⟨rfl,k⟩) | (go_at_call 111;refine(QaF _ _).mono ?_;rintro l w' ⟨rfl,i⟩;have i:=i.symm;subst i))
  obtain⟨g2,M,K,B,F⟩:=k
  have p:=Qc (Qcb M f V);rw[B] at p
  have q:=Qc (Xh (u.out.trans K) (Xh B F));clear M K B F C Q;go_wp2_with fail
  refine p.out.mono ?_;rintro l w5 ⟨rfl,G⟩;have Z:=Qc (WTo.then q.out.1 q.out.2.1 q.out.2.2 G);clear G p D;go_wp2
  exact Xz (v:=.tuple #[]) (by simp[results,results114,go_sem]) Yz (.inl ⟨_,j.out,Yz,Z.out⟩)
 ·have j:Hid (r=R.over 6):=by show _=_;have:=E.out;rw[Xr d] at this;cases this;rfl
  have y:decide (R.e.openK>=0)=false:=by simpa using d
  have P:Hid (R.e.opened=R.e):=by
   show _=_;unfold Est.opened;rw[Xs (by omega)]
  clear E d;obtain⟨f,a⟩:∃ f,R.e.openK=f:=⟨_,Yz⟩
  rw[a] at C y
  clear a;go_wp2_with (go_at_call 170;refine C.out.mono ?_;rintro l w2 ⟨rfl,k⟩)
  refine(Qab _ _).mono ?_
  rintro l w' ⟨rfl,i⟩;subst i;rw[P.out] at k
  exact⟨Yz,.inr ⟨R,6,j.out,Yz,WTo.then u.out Yz Yz k⟩⟩
theorem QmG (S:WAt w b most m R g) (I:ROk m n R) (V:n<=900000){x:Qt}(f:IP) (h:x.op=12) (a:RM.ins aOp R x=some r) :
 Calls prog 114 #[Pv b 0,Pv g.t.c 0,.agg (Zq x f)] w fun e w'=>Qdi g w b most m r e w':=by
 have s:=Qc (ZP w (.cells (Zq x f) 78));have q:=Qc (Qe w (Zq x f) 78);have A:=Qc (S.below s.out);have p:=Qc (S.stepB s.out);have T:R.top.v.length+1<=1000000:=by have:=(I.fr R.top (by simp)).1;omega
 have F:=I.out.1;have E:=I.inp;clear S I;go_enter func114,ntmps114
 go_upto_region 1 with fail
 generalize w.alloc (.cells (Zq x f) 78)=w1 at s q A p |-;generalize w.heap.size=X at q |-;obtain⟨y,M,D,H,J,L,B,O⟩:=Q5 q.out
 rw[h] at y
 have C:=Qc (QfZ A.out (by omega));unfold Qnt at C
 cases hi:R.inp with
 | nil =>
   rw[hi] at C
   have i:Hid (r=R.over 4):=by show _=_;unfold RM.ins at a;simp[h,hi] at a;exact a.symm
   clear M D H J L B O a h hi;go_wp2_with fail
   refine C.out.mono ?_;rintro K P ⟨rfl,d⟩;exact⟨Yz,.inr ⟨R,4,i.out,Yz,WTo.then p.out Yz Yz d⟩⟩
 | cons k l =>
   rw[hi] at C
   have i:Hid (r=(RM.push { R with inp:=l } [k]).nx):=by show _=_;unfold RM.ins at a;simp[h,hi] at a;exact a.symm
   clear M D H J L B O a h hi;go_wp2_with (go_at_call 174;refine C.out.mono ?_;rintro K W ⟨rfl,Q⟩)
   obtain⟨U,N,G,u,z⟩:=Q
   have j:=Qc (Qcb N k T);rw[u] at j
   have o:=Qc (Xh (p.out.trans G) (Xh u z));clear N G u z C;refine j.out.mono ?_;rintro K P ⟨rfl,d⟩;have Z:=Qc (WTo.then o.out.1 o.out.2.1 o.out.2.2 d);clear d j y;go_wp2
   exact Xz (v:=.tuple #[]) (by simp[results,results114,go_sem]) Yz (.inl ⟨_,i.out,Yz,Z.out⟩)
end
section
variable {w w' w2:World}{b most n:Nat}{m:List (MFunc 6)}{R R' r:RM}{g g1:WG}
theorem Qns (S:WAt w b most m R g) (I:ROk m n R) (hn:n<=900000){x:Qt}(p:IP) (h:x.op=4) (k:RM.ins aOp R x=some r) :
 Calls prog 114 #[Pv b 0,Pv g.t.c 0,.agg (Zq x p)] w fun e w'=>Qdi g w b most m r e w':=by
 have o:=Qc (ZP w (.cells (Zq x p) 78));have u:=Qc (Qe w (Zq x p) 78);have i:=Qc (S.below o.out);have s:=Qc (S.stepB o.out);have hl:R.top.v.length+1<=1000000:=by have:=(I.fr R.top (by simp)).1;omega
 have B:=I.out.1;have A:=I.inp;clear S I;go_enter func114,ntmps114
 go_upto_region 1 with fail
 generalize w.alloc (.cells (Zq x p) 78)=w1 at o u i s |-;generalize w.heap.size=X at u |-;obtain⟨G,E,M,O,T,W,L,x7⟩:=Q5 u.out
 rw[h] at G
 obtain⟨a,l⟩:∃ a,iAt R.top.v x.a=some a:=by
  unfold RM.ins at k
  cases l:iAt R.top.v x.a with
  | none=>simp[h,l] at k
  | some a=>exact⟨a,Yz⟩
 have F:Hid (r=RM.nx { R with e:=R.e.shut a }):=by show _=_;unfold RM.ins at k;simp[h,l] at k;rw[<-k];simp[RM.on,RM.nx]
 obtain⟨j,ri,-,c,z,H,U,J⟩:=i.out.wordAt l
 rw[z] at E
 have N:=i.out.cellE;clear M O T W L x7 k h l z;go_upto_region 14 with fail
 refine QnX N U E H J _ _ Yz (Xg (by kernel_rfl)) Yz Yz Yz ?_;rintro q Q P f d y;show wpList _ q _ [_] (QM _ Q [68,69,70,71,72,73,74,75,76,77,78,79]) P;simp only[QM,Act.put,List.setIfInBounds_toArray,List.set_cons_zero,List.set_cons_succ,f,d]
 have V:=Qc (i.out.below y);have K:=Qc (s.out.trans (i.out.stepB y));clear f d y i s o;have C:=Qc (V.out.shutC a);go_wp2_with (go_at_call 171;refine C.out.mono ?_;rintro e' w2 ⟨rfl,D⟩;have Z:=Qc (WTo.then K.out Yz Yz D);clear D C)
 exact Xz (v:=.tuple #[]) (by simp[results,results114,go_sem]) Yz (.inl ⟨_,F.out,Yz,Z.out⟩)
theorem Qml (S:WAt w b most m R g) (I:ROk m n R) (hn:n<=900000){x:Qt}(y:IP) (h:x.op=13) (i:RM.ins aOp R x=some r) :
 Calls prog 114 #[Pv b 0,Pv g.t.c 0,.agg (Zq x y)] w fun e w'=>Qdi g w b most m r e w':=by
 have q:=Qc (ZP w (.cells (Zq x y) 78));have D:=Qc (Qe w (Zq x y) 78);have l:=Qc (S.below q.out);have B:=Qc (S.stepB q.out);have hl:R.top.v.length+1<=1000000:=by have:=(I.fr R.top (by simp)).1;omega
 have o:=I.out.1;have H:=I.inp;clear S I;go_enter func114,ntmps114
 go_upto_region 1 with fail
 generalize w.alloc (.cells (Zq x y) 78)=w1 at q D l B |-;generalize w.heap.size=X at D |-;obtain⟨K,J,O,Q,V,x5,N,x7⟩:=Q5 D.out
 rw[h] at K
 obtain⟨a,k⟩:∃ a,iAt R.top.v x.a=some a:=by
  unfold RM.ins at i
  cases k:iAt R.top.v x.a with
  | none=>simp[h,k] at i
  | some a=>exact⟨a,Yz⟩
 have z:Hid (r=if R.out.length<2000 then RM.nx { R with out:=R.out++[a] } else R.over 8):=by
  show _=_;unfold RM.ins at i;by_cases p:R.out.length<2000
  ·simp[h,k,p] at i;rw[Xs p,<-i];simp[RM.on,RM.nx]
  ·simp[h,k,p] at i;rw[Xr p];exact i.symm
 obtain⟨j,ri,-,c,G,L,W,M⟩:=l.out.wordAt k
 rw[G] at J
 clear O Q V x5 N x7 i h k G;go_upto_region 22 with fail
 refine Qoc W J L M _ _ Yz (Xg (by kernel_rfl)) Yz Yz Yz ?_;rintro A U T d f E;show wpList _ A _ [_] (QM _ U [132,133,134,135,136,137,138,139,140]) T;simp only[QM,Act.put,List.setIfInBounds_toArray,List.set_cons_zero,List.set_cons_succ,d,f]
 have S5:=Qc (l.out.below E);have F:=Qc (B.out.trans (l.out.stepB E));clear d f E l B q;have C:=Qc (QfH S5.out a o);go_wp2_with fail
 refine C.out.mono ?_;rintro e' w2 (⟨u,rfl,s⟩|⟨u,rfl,s⟩)
 ·have P:Hid (r=RM.nx { R with out:=R.out++[a] }):=by show _=_;rw[z.out,Xs u]
  have Z:=Qc (WTo.then F.out Yz Yz s);clear u s C z;go_wp2
  exact Xz (v:=.tuple #[]) (by simp[results,results114,go_sem]) Yz (.inl ⟨_,P.out,Yz,Z.out⟩)
 ·exact⟨Yz,.inr ⟨R,8,by rw[z.out,Xr u],Yz,WTo.then F.out Yz Yz s⟩⟩
theorem Qnp (S:WAt w b most m R g) (I:ROk m n R) (hn:n<=900000){x:Qt}(A:IP) (h:x.op=2) (i:RM.ins aOp R x=some r) :
 Calls prog 114 #[Pv b 0,Pv g.t.c 0,.agg (Zq x A)] w fun e w'=>Qdi g w b most m r e w':=by
 have F:=Qc (ZP w (.cells (Zq x A) 78));have D:=Qc (Qe w (Zq x A) 78);have f:=Qc (S.below F.out);have C:=Qc (S.stepB F.out);have hl:R.top.v.length+1<=1000000:=by have:=(I.fr R.top (by simp)).1;omega
 have U:=I.out.1;have Q:=I.inp;clear S I;go_enter func114,ntmps114
 go_upto_region 1 with fail
 generalize w.alloc (.cells (Zq x A) 78)=w1 at F D f C |-;generalize w.heap.size=X at D |-;obtain⟨K,x1,N,x3,x4,x5,x6,x7⟩:=Q5 D.out
 rw[h] at K
 obtain⟨a,l⟩:∃ a,iAt R.top.v x.a=some a:=by
  unfold RM.ins at i
  cases l:iAt R.top.v x.a with
  | none=>simp[h,l] at i
  | some a=>exact⟨a,Yz⟩
 obtain⟨y,o⟩:∃ y,iAt R.top.v x.b=some y:=by
  unfold RM.ins at i
  cases o:iAt R.top.v x.b with
  | none=>simp[h,l,o] at i
  | some y=>exact⟨y,Yz⟩
 have d:Hid (some r=match aOp x.k a y with | none=>some (R.over 1) | some n=>some (R.on [n])):=by show _=_;rw[<-i];unfold RM.ins;simp[h,l,o];cases aOp x.k a y<;>rfl
 obtain⟨j,ri,-,c,O,L,H,ck⟩:=f.out.wordAt l
 obtain⟨q,aa,-,c',T,P,p,J⟩:=f.out.wordAt o
 rw[H] at p
 cases p
 rw[O] at x1
 rw[T] at N
 have u:=Qc (fun B=>QlZ x.k a y B);generalize x.k=xk at *;have G:=Qc hl;clear x3 x5 x6 x7 i h l o O T hl;obtain⟨W,z⟩:∃ W,R.top.v.length=W:=⟨_,Yz⟩
 rw[z] at H L P
 clear z
 cases ho:aOp xk a y with
 | none =>
   rw[ho] at u d
   have E:Hid (r=R.over 1):=by show _=_;have:=d.out;simpa using this
   clear ho d;go_upto_region 6 with fail
   go_quiet ((go_at_call 136;exact Calls.quiet_of_same (u.out _)))
   go_wp2_with fail
   refine(Qab _ _).mono ?_
   rintro e' w' ⟨rfl,s⟩;subst s;exact⟨Yz,.inr ⟨R,1,E.out,Yz,WTo.then C.out Yz Yz (WTo.same f.out (Qag Zr _))⟩⟩
 | some n =>
   rw[ho] at u d
   have E:Hid (r=(R.push [n]).nx):=by show _=_;have:=d.out;simp at this;rw[this];rfl
   have V:=Qc (fun B (bx:Below w1.heap.size w1 B)=>Qcb (f.out.below bx) n G.out);clear ho d;go_upto_region 6 with fail
   go_quiet ((go_at_call 136;exact Calls.quiet_of_same (u.out _)))
   go_upto_region 8 with (go_at_call 111;refine(QaF _ _).mono ?_;rintro e' w' ⟨rfl,s⟩;have s:=s.symm;subst s)
   clear u x1 N x4 ck J H L P;go_wp2_with fail
   refine(V.out _ (Qag Zr _)).mono ?_
   rintro e' w5 ⟨rfl,M⟩;have Z:=Qc (WTo.then (C.out.trans (f.out.stepB (Qag Zr _))) Yz Yz M);clear M V K;go_wp2
   exact Xz (v:=.tuple #[]) (by simp[results,results114,go_sem]) Yz (.inl ⟨_,E.out,Yz,Z.out⟩)
end
section
variable {w w' w2:World}{b most n:Nat}{m:List (MFunc 6)}{R R' r:RM}{g g1:WG}
theorem Qne (S:WAt w b most m R g) (I:ROk m n R) (hn:n<=900000){x:Qt}(B:IP) (h:x.op=5){Q2:Nat->Prop}(hi:IIn w Q2 x B) (h8:x.args.length<=8) (p:RM.ins aOp R x=some r) :
 Calls prog 114 #[Pv b 0,Pv g.t.c 0,.agg (Zq x B)] w fun e w'=>Qdi g w b most m r e w':=by
 have Q:=Qc (ZP w (.cells (Zq x B) 78));have BX:=Qc (Qe w (Zq x B) 78);have u:=Qc (S.below Q.out);have T1:=Qc (S.stepB Q.out);have hl:R.top.v.length+1<=1000000:=by have:=(I.fr R.top (by simp)).1;omega
 have ad:=I.out.1;have ac:=I.inp;clear S I;go_enter func114,ntmps114
 go_upto_region 1 with fail
 generalize w.alloc (.cells (Zq x B) 78)=i at Q BX u T1 |-;generalize w.heap.size=X at BX |-;obtain⟨x0,x1,x2,x3,x4,x5,x6,x7⟩:=Q5 BX.out
 rw[h] at x0
 obtain⟨a,E⟩:∃ a,iAt R.top.v x.a=some a:=by
  unfold RM.ins at p
  cases E:iAt R.top.v x.a with
  | none=>simp[h,E] at p
  | some a=>exact⟨a,Yz⟩
 obtain⟨d,C⟩:∃ d,Qaz R.top.v x.args=some d:=by
  unfold RM.ins at p
  cases C:Qaz R.top.v x.args with
  | none=>simp[h,E,C] at p
  | some d=>exact⟨d,Yz⟩
 have M:Hid (r=R.thing a (if d.length=0 then 1 else (d.length:Int)) d):=by show _=_;unfold RM.ins at p;simp[h,E,C] at p;rw[<-p];congr 1;split<;>simp_all
 have W:Hid (d.length=x.args.length):=Qai C;obtain⟨l,y⟩:∃ l,(if d.length=0 then 1 else (d.length:Int))=l:=⟨_,Yz⟩
 rw[y] at M
 have ab:=Qc y;obtain⟨j,ri,-,c,ej,hj,c3,ck⟩:=u.out.wordAt E
 rw[ej] at x1
 have H8:=Qc h8;have CA:Hid (∀ f,Below i.heap.size i f->Calls prog 167 #[Pv g.t.c 0,.slice B.pA x.args.length B.cA] f fun e w'=>Qm4 f d x.args.length e w'):=fun f D=>Qeb (u.out.top.below D) (by omega) Yz (by have:=H8.out;omega) (Ya (Ya hi.args Q.out) D) C;have F:∀ x,g.A x->x<i.heap.size:=u.out.lt
 have CT:Hid (∀ f k,Below i.heap.size i f->i.heap.size<=k->QbE f (.slice (some ⟨k,0,none⟩) x.args.length x.args.length) d->Calls prog 172 #[Pv b 0,Iv a,.slice (some ⟨k,0,none⟩) x.args.length x.args.length] f fun e w'=>(e=.returned (Iv (R.e.getAt a l))/\(R.e.getCode a l=0/\WTo g i w' b most m (R.thinged a l d))/\Zk i f w')\/(∃ ch,e=.panicked ch/\(ch=QdR 6/\R.e.getCode a l≠0/\WTo g i w' b most m R))):=fun f k D hk hR=>by
  have aa:g.ow k=0:=Xq.1 fun e=>by have:=F k e;omega
  have S6:=u.out.below D
  have HW:=hR.lin (O:=fun x=>g.ow x=0) (fun z hz=>by
   have:z=k:=by simpa[Value.ownBlock] using hz.symm
   rw[this];exact aa)
  have:=Qhv S6 a W.out (by have:=H8.out;omega) HW
  rw[ab.out] at this
  refine this.mono ?_;rintro e' w' (⟨q,rfl,g2,L,G,J,N⟩|⟨q,rfl,H⟩)
  ·exact .inl ⟨Yz,⟨q,WTo.then (u.out.stepB D) Yz Yz ⟨g2,L,G,J,N⟩⟩,G.zk F⟩
  ·exact .inr ⟨_,Yz,Yz,q,WTo.then (u.out.stepB D) Yz Yz H⟩
 have HL:=Qc hl;clear x2 x3 x4 x5 x6 p h E ej C hi h8 y hl;go_upto_region 16 with fail
 refine Qoh (fun w h=>h.2.choose_spec.2.1.size) c3 x1 hj ck x7 CA CT (fun w w' h b=>by obtain⟨w5,P,h6⟩:=h;exact⟨w5,P,h6.trans (b.mono h6.size)⟩) _ _ Yz (Xg (by kernel_rfl)) Yz Yz Yz ?_ ?_
 ·rintro ch a' w9 U ⟨rfl,q,H⟩;exact⟨U,.inr ⟨R,6,by rw[M.out];unfold RM.thing;rw[Xr q],Yz,WTo.then T1.out Yz Yz H⟩⟩
 ·rintro V vs w9 s ⟨k,o,hk,K⟩ ⟨w5,⟨q,H⟩,h3⟩;show wpList _ V _ [_] (QM _ vs [83,84,85,86,87,88,89,90,91,92,93,94,95,96,97,98]) w9;simp only[QM,Act.put,List.setIfInBounds_toArray,List.set_cons_zero,List.set_cons_succ,s,o]
  have E3:Hid (r=((R.thinged a l d).push [R.e.getAt a l]).nx):=by show _=_;rw[M.out];unfold RM.thing;rw[Xs q];rfl
  obtain⟨g2,L,G,J,N⟩:=H
  have T:=Qc ((L.below h3).makesC K HL.out);rw[J] at T
  have T5:=Qc (Xh (T1.out.trans (G.trans (L.stepB h3))) (Xh J N));clear q s o K hk L G J N h3 CA CT c3 ck x1 x7 M;go_wp2_with fail
  refine T.out.mono ?_;rintro e' w7 ⟨rfl,P⟩;have Z:=Qc (WTo.then T5.out.1 T5.out.2.1 T5.out.2.2 P);clear P T x0;go_wp2
  exact Xz (v:=.tuple #[]) (by simp[results,results114,go_sem]) Yz (.inl ⟨_,E3.out,Yz,Z.out⟩)
theorem Qnr (S:WAt w b most m R g) (I:ROk m n R) (hn:n<=900000){x:Qt}(P:IP) (h:x.op=8) (f:RM.ins aOp R x=some r) :
 Calls prog 114 #[Pv b 0,Pv g.t.c 0,.agg (Zq x P)] w fun e w'=>Qdi g w b most m r e w':=by
 have B1:=Qc (ZP w (.cells (Zq x P) 78));have BX:=Qc (Qe w (Zq x P) 78);have l:=Qc (S.below B1.out);have T1:=Qc (S.stepB B1.out);have hl:R.top.v.length+1<=1000000:=by have:=(I.fr R.top (by simp)).1;omega
 have ac:=I.out.1;have ab:=I.inp;clear S I;go_enter func114,ntmps114
 go_upto_region 1 with fail
 generalize w.alloc (.cells (Zq x P) 78)=B at B1 BX l T1 |-;generalize w.heap.size=X at BX |-;obtain⟨x0,x1,x2,x3,x4,x5,x6,x7⟩:=Q5 BX.out
 rw[h] at x0
 obtain⟨a,u⟩:∃ a,iAt R.top.v x.a=some a:=by
  unfold RM.ins at f
  cases u:iAt R.top.v x.a with
  | none=>simp[h,u] at f
  | some a=>exact⟨a,Yz⟩
 obtain⟨y,z⟩:∃ y,iAt R.top.v x.b=some y:=by
  unfold RM.ins at f
  cases z:iAt R.top.v x.b with
  | none=>simp[h,u,z] at f
  | some y=>exact⟨y,Yz⟩
 have J:Hid (r=if 0<=y/\y<=15 then R.thing a (y+1) [y] else R.over 3):=by
  show _=_;unfold RM.ins at f;by_cases O:0<=y/\y<=15
  ·simp[h,u,z,O] at f;rw[Xs O];exact f.symm
  ·simp only[h,u,z] at f;simp[O] at f;rw[Xr O];exact f.symm
 obtain⟨j,ri,-,c,ej,hj,c3,ck⟩:=l.out.wordAt u
 obtain⟨q,ad,-,c',eq,hq,C,H⟩:=l.out.wordAt z
 rw[c3] at C
 cases C
 rw[ej] at x1
 rw[eq] at x2
 have aa:∀ x,g.A x->x<B.heap.size:=l.out.lt
 have CT:Hid (∀ M,Below B.heap.size B M->Calls prog 173 #[Pv b 0,Iv a,Iv y] M fun e w'=>(e=.returned (Iv (R.e.getAt a (y+1)))/\(r=((R.thinged a (y+1) [y]).push [R.e.getAt a (y+1)]).nx/\WTo g B w' b most m (R.thinged a (y+1) [y]))/\Zk B M w')\/(∃ ch,e=.panicked ch/\(∃ k,ch=QdR k/\r=R.over k/\WTo g B w' b most m R))):=fun M Q=>by
  refine(Qhr (l.out.below Q) a y).mono ?_
  rintro e' w' (⟨K,s,⟨o,rfl,g2,G,D,E,L⟩|⟨o,rfl,p⟩⟩|⟨K,rfl,p⟩)
  ·exact .inl ⟨Yz,⟨by rw[J.out,Xs ⟨K,s⟩];unfold RM.thing;rw[Xs o];rfl,WTo.then (l.out.stepB Q) Yz Yz ⟨g2,G,D,E,L⟩⟩,D.zk aa⟩
  ·exact .inr ⟨_,Yz,6,Yz,by rw[J.out,Xs ⟨K,s⟩];unfold RM.thing;rw[Xr o],WTo.then (l.out.stepB Q) Yz Yz p⟩
  ·exact .inr ⟨_,Yz,3,Yz,by rw[J.out,Xr K],WTo.then (l.out.stepB Q) Yz Yz p⟩
 have HL:=Qc hl;clear x3 x4 x5 x6 x7 f h u z ej eq hl;go_upto_region 18 with fail
 refine Qof (fun w h=>h.2.choose_spec.2.1.size) c3 x1 hj ck x2 hq H CT (fun w w' h b=>by obtain⟨w5,N,h6⟩:=h;exact⟨w5,N,h6.trans (b.mono h6.size)⟩) _ _ Yz (Xg (by kernel_rfl)) Yz Yz Yz ?_ ?_
 ·rintro ch a' w9 U ⟨k,rfl,s,o⟩;exact⟨U,.inr ⟨R,k,s,Yz,WTo.then T1.out Yz Yz o⟩⟩
 ·rintro V vs w9 d ⟨k,i,hk,F⟩ ⟨w5,⟨s,o⟩,p⟩;show wpList _ V _ [_] (QM _ vs [102,103,104,105,106,107,108,109,110,111,112,113,114,115,116,117,118,119,120,121]) w9;simp only[QM,Act.put,List.setIfInBounds_toArray,List.set_cons_zero,List.set_cons_succ,d,i]
  have E3:=Qc s;obtain⟨g2,G,D,E,L⟩:=o
  have T:=Qc ((G.below p).makesC F HL.out);rw[E] at T
  have W:=Qc (Xh (T1.out.trans (D.trans (G.stepB p))) (Xh E L));clear s d i F hk G D E L p CT c3 ck H x1 x2 J;go_wp2_with fail
  refine T.out.mono ?_;rintro e' w7 ⟨rfl,N⟩;have Z:=Qc (WTo.then W.out.1 W.out.2.1 W.out.2.2 N);clear N T x0;go_wp2
  exact Xz (v:=.tuple #[]) (by simp[results,results114,go_sem]) Yz (.inl ⟨_,E3.out,Yz,Z.out⟩)
end
section
variable {w w' w2:World}{b most n:Nat}{m:List (MFunc 6)}{R R' r:RM}{g g1:WG}
theorem QmR (S:WAt w b most m R g) (I:ROk m n R) (hn:n<=900000){x:Qt}(u:IP) (h:x.op=6) (f:R.part x=some r) :
 Calls prog 177 #[Pv b 0,Pv g.t.c 0,.agg (Zq x u)] w fun e w'=>Qdi g w b most m r e w':=by
 obtain⟨a,o⟩:∃ a,iAt R.top.v x.a=some a:=by
  unfold RM.part at f
  cases o:iAt R.top.v x.a with
  | none=>simp[o] at f
  | some a=>exact⟨a,Yz⟩
 have s:=Qc (ZP w (.cells (Zq x u) 78));have q:=Qc (Qe w (Zq x u) 78);have i:=Qc (S.below s.out);have y:=Qc (S.stepB s.out);have G:R.top.v.length+1<=1000000:=by have:=(I.fr R.top (by simp)).1;omega
 clear S I;go_enter func177,ntmps177
 go_upto_region 1 with fail
 generalize w.alloc (.cells (Zq x u) 78)=B at s q i y |-;generalize w.heap.size=X at q |-;obtain⟨p,J,P,T,A,x5,N,x7⟩:=Q5 q.out
 rw[h] at p
 obtain⟨j,ri,-,c,E,L,W,M⟩:=i.out.wordAt o
 rw[E] at J
 have K:Hid (r=(R.push [R.load (wrap64 (a+x.k))]).nx):=by show _=_;unfold RM.part at f;simp[h,o] at f;rw[<-f];rfl
 have U:=Qc G;clear f h o E G P T x5 N x7;obtain⟨F,d⟩:∃ F,R.top.v.length=F:=⟨_,Yz⟩
 rw[d] at *
 have O:=Qc d;clear d;go_quiet (fail)
 have l:=Qag (Below.refl B.heap.size B) nq;have H:=Qc (i.out.below l);have Q:=Qc (y.out.trans (i.out.stepB l));replace p:=Qk p l;replace A:=Qk A l;clear J W L M i y s q;generalize B.drewN nq=w2 at *;clear l;have C:=Qc (QbO H.out (wrap64 (a+x.k)));go_wp2_with (go_at_call 220;refine C.out.mono ?_;rintro V w' ⟨rfl,z⟩;have z:=z.symm;subst z)
 refine(Qcb H.out _ U.out).mono ?_
 rintro V w5 ⟨rfl,D⟩;have Z:=Qc (WTo.then Q.out Yz Yz D);clear D C p A;go_wp2
 exact Xz (v:=.tuple #[]) (by simp[results,results177,go_sem]) Yz (.inl ⟨_,K.out,Yz,Z.out⟩)
theorem QlV (S:WAt w b most m R g) (I:ROk m n R) (hn:n<=900000){x:Qt}(s:IP) (h:x.op=11) (f:R.part x=some r) :
 Calls prog 177 #[Pv b 0,Pv g.t.c 0,.agg (Zq x s)] w fun e w'=>Qdi g w b most m r e w':=by
 obtain⟨a,k⟩:∃ a,iAt R.top.v x.a=some a:=by
  unfold RM.part at f
  cases k:iAt R.top.v x.a with
  | none=>simp[k] at f
  | some a=>exact⟨a,Yz⟩
 have p:=Qc (ZP w (.cells (Zq x s) 78));have o:=Qc (Qe w (Zq x s) 78);have i:=Qc (S.below p.out);have u:=Qc (S.stepB p.out);have E:R.top.v.length+1<=1000000:=by have:=(I.fr R.top (by simp)).1;omega
 clear S I;go_enter func177,ntmps177
 go_upto_region 1 with fail
 generalize w.alloc (.cells (Zq x s) 78)=z at p o i u |-;generalize w.heap.size=X at o |-;obtain⟨l,G,N,P,T,W,L,x7⟩:=Q5 o.out
 rw[h] at l
 obtain⟨j,ri,-,c,B,J,V,K⟩:=i.out.wordAt k
 rw[B] at G
 have H:Hid (r=(R.push [R.load a]).nx):=by show _=_;unfold RM.part at f;simp[h,k] at f;rw[<-f];rfl
 have Q:=Qc E;clear f h k B E N P T W L x7;obtain⟨D,d⟩:∃ D,R.top.v.length=D:=⟨_,Yz⟩
 rw[d] at *
 have M:=Qc d;clear d;go_quiet (fail)
 have q:=Qag (Below.refl z.heap.size z) nq;have F:=Qc (i.out.below q);have O:=Qc (u.out.trans (i.out.stepB q));replace l:=Qk l q;clear G V J K i u p o;generalize z.drewN nq=w2 at *;clear q;have C:=Qc (QbO F.out a);go_wp2_with (go_at_call 220;refine C.out.mono ?_;rintro U w' ⟨rfl,y⟩;have y:=y.symm;subst y)
 refine(Qcb F.out _ Q.out).mono ?_
 rintro U w5 ⟨rfl,A⟩;have Z:=Qc (WTo.then O.out Yz Yz A);clear A C l;go_wp2
 exact Xz (v:=.tuple #[]) (by simp[results,results177,go_sem]) Yz (.inl ⟨_,H.out,Yz,Z.out⟩)
theorem Qmp (S:WAt w b most m R g) (I:ROk m n R) (hn:n<=900000){x:Qt}(J:IP) (h:x.op=7) (p:R.part x=some r) :
 Calls prog 177 #[Pv b 0,Pv g.t.c 0,.agg (Zq x J)] w fun e w'=>Qdi g w b most m r e w':=by
 obtain⟨a,z⟩:∃ a,iAt R.top.v x.a=some a:=by
  unfold RM.part at p
  cases z:iAt R.top.v x.a with
  | none=>simp[z] at p
  | some a=>exact⟨a,Yz⟩
 have G:=Qc (ZP w (.cells (Zq x J) 78));have F:=Qc (Qe w (Zq x J) 78);have u:=Qc (S.below G.out);have M:=Qc (S.stepB G.out);have hl:R.top.v.length+1<=1000000:=by have:=(I.fr R.top (by simp)).1;omega
 clear S I;go_enter func177,ntmps177
 go_upto_region 1 with fail
 generalize w.alloc (.cells (Zq x J) 78)=P at G F u M |-;generalize w.heap.size=X at F |-;obtain⟨K,x1,E,x3,O,x5,x6,x7⟩:=Q5 F.out
 rw[h] at K
 obtain⟨j,ri,-,c,T,hj,H,ck⟩:=u.out.wordAt z
 rw[T] at x1
 obtain⟨y,A⟩:∃ y,iAt R.top.v x.b=some y:=by
  unfold RM.part at p
  cases A:iAt R.top.v x.b with
  | none=>simp[h,z, A] at p
  | some y=>exact⟨y,Yz⟩
 obtain⟨q,ab,-,cq,U,hq,D,d⟩:=u.out.wordAt A
 rw[H] at D
 cases D
 rw[U] at E
 have E2:Hid (r=(R.stored (wrap64 (a+x.k)) y).nx):=by show _=_;unfold RM.part at p;simp[h,z,A] at p;rw[<-p];simp[RM.on,RM.nx]
 have aa:=Qc d;clear A U;have HL:=Qc hl;clear p h z T hl x3 x5 x6 x7;obtain⟨vl,s⟩:∃ vl,R.top.v.length=vl:=⟨_,Yz⟩
 rw[s] at *
 have ac:=Qc s;clear s;go_quiet (fail)
 have o:=Qag (Below.refl P.heap.size P) nq;have B:=Qc (u.out.below o);have V:=Qc (M.out.trans (u.out.stepB o));replace K:=Qk K o;replace E:=Qk E o;replace O:=Qk O o;replace H:=Qk H o;replace d:=Qk d o;clear x1 ck u M G F;generalize P.drewN nq=w2 at *;clear o;have W:=B.out.cellE;have qp:=B.out.cellP;go_upto_region 6 with fail
 refine wp6 W qp H O E hq d _ _ Yz (Xg (by kernel_rfl)) Yz Yz Yz Yz ?_;rintro L vs w5 i f l N;show wpList _ L _ [_] (QM _ vs [30,31,32,33,34,35,36,37,38,39,40,41,42,43,44,45,46,47,48]) w5;simp only[QM,Act.put,List.setIfInBounds_toArray,List.set_cons_zero,List.set_cons_succ,i,f,l]
 have S5:=Qc (B.out.below N);have T5:=Qc (V.out.trans (B.out.stepB N));clear i f l N B V;have C:=Qc (S5.out.storeC (wrap64 (a+x.k)) y);clear S5 W qp;go_wp2_with (go_at_call 221;refine C.out.mono ?_;rintro e' w7 ⟨rfl,Q⟩;have Z:=Qc (WTo.then T5.out Yz Yz Q);clear Q C)
 exact Xz (v:=.tuple #[]) (by simp[results,results177,go_sem]) Yz (.inl ⟨_,E2.out,Yz,Z.out⟩)
theorem Qmt (S:WAt w b most m R g) (I:ROk m n R) (hn:n<=900000){x:Qt}(Q:IP) (h:x.op=9) (l:R.part x=some r) :
 Calls prog 177 #[Pv b 0,Pv g.t.c 0,.agg (Zq x Q)] w fun e w'=>Qdi g w b most m r e w':=by
 obtain⟨a,u⟩:∃ a,iAt R.top.v x.a=some a:=by
  unfold RM.part at l
  cases u:iAt R.top.v x.a with
  | none=>simp[u] at l
  | some a=>exact⟨a,Yz⟩
 have N:=Qc (ZP w (.cells (Zq x Q) 78));have M:=Qc (Qe w (Zq x Q) 78);have B:=Qc (S.below N.out);have W:=Qc (S.stepB N.out);have hl:R.top.v.length+1<=1000000:=by have:=(I.fr R.top (by simp)).1;omega
 clear S I;go_enter func177,ntmps177
 go_upto_region 1 with fail
 generalize w.alloc (.cells (Zq x Q) 78)=w1 at N M B W |-;generalize w.heap.size=X at M |-;obtain⟨L,x1,C,x3,x4,x5,x6,x7⟩:=Q5 M.out
 rw[h] at L
 obtain⟨j,ri,-,c,ej,hj,E,ck⟩:=B.out.wordAt u
 rw[ej] at x1
 obtain⟨y,D⟩:∃ y,iAt R.top.v x.b=some y:=by
  unfold RM.part at l
  cases D:iAt R.top.v x.b with
  | none=>simp[h,u, D] at l
  | some y=>exact⟨y,Yz⟩
 obtain⟨q,aa,-,cq,eq,hq,J,f⟩:=B.out.wordAt D
 rw[E] at J
 cases J
 rw[eq] at C
 have K:Hid (r=if 0<=y/\y<R.load a then (R.push [R.load (wrap64 (wrap64 (a+1)+y))]).nx else R.over 2):=by
  show _=_;unfold RM.part at l;by_cases d:0<=y/\y<R.load a
  ·simp[h,u,D,d] at l;rw[Xs d,<-l];rfl
  ·simp only[h,u,D] at l;simp[d] at l;rw[Xr d];exact l.symm
 clear D eq;have HL:=Qc hl;clear l h u ej hl x3 x4 x5 x6 x7;obtain⟨vl,A⟩:∃ vl,R.top.v.length=vl:=⟨_,Yz⟩
 rw[A] at *
 have ab:=Qc A;clear A;go_quiet (fail)
 have z:=Qag (Below.refl w1.heap.size w1) nq;have p:=Qc (B.out.below z);have T2:=Qc (W.out.trans (B.out.stepB z));replace L:=Qk L z;replace C:=Qk C z;replace E:=Qk E z;replace f:=Qk f z;clear x1 ck B W N M;generalize w1.drewN nq=T at *;clear z;have q0:=p.out.cellE;have qp:=p.out.cellP;have U:Hid (∀ o,Below T.heap.size T o->Calls prog 222 #[Pv b 0,Iv a,Iv y] o fun e w'=>Qlj R a y e/\w'=o):=fun o bx=>Qcm (p.out.below bx) a y;have CW:Hid (∀ o k,Below T.heap.size T o->Calls prog 220 #[Pv b 0,Iv k] o fun e w'=>e=.returned (Iv (R.load k))/\w'=o):=fun o k bx=>QbO (p.out.below bx) k;clear q0 qp;by_cases d:0<=y/\y<R.load a
 ·have E3:Hid (r=(R.push [R.load (wrap64 (wrap64 (a+1)+y))]).nx):=by show _=_;rw[K.out,Xs d]
  have V:=Qc d;clear d K;go_upto_region 8 with fail
  refine wp8 E C hq f U CW _ _ Yz (Xg (by kernel_rfl)) Yz Yz Yz Yz ?_ ?_
  ·rintro ch a' w9 F ⟨-,P,-⟩;exact absurd V.out P
  ·rintro G vs w5 i - ⟨k,s,hk,H⟩ O;show wpList _ G _ [_] (QM _ vs [52,53,54,55,56,57,58,59,60,61,62,63,64,65,66]) w5;simp only[QM,Act.put,List.setIfInBounds_toArray,List.set_cons_zero,List.set_cons_succ,i,s]
   have C5:=Qc ((p.out.below O).makesC H HL.out);have T5:=Qc (T2.out.trans (p.out.stepB O));clear i s O p T2 U CW E C f H hk hq;go_wp2_with fail
   refine C5.out.mono ?_;rintro e' w7 ⟨rfl,h7⟩;have Z:=Qc (WTo.then T5.out Yz Yz h7);clear h7 C5 L;go_wp2
   exact Xz (v:=.tuple #[]) (by simp[results,results177,go_sem]) Yz (.inl ⟨_,E3.out,Yz,Z.out⟩)
 ·have E3:Hid (r=R.over 2):=by show _=_;rw[K.out,Xr d]
  have V:Hid (¬ (0<=y/\y<R.load a)):=d;clear d K;go_upto_region 8 with fail
  refine wp8 E C hq f U CW _ _ Yz (Xg (by kernel_rfl)) Yz Yz Yz Yz ?_ ?_
  ·rintro ch a' w9 F ⟨rfl,P,b9⟩;exact⟨F,.inr ⟨R,2,E3.out,Yz,WTo.then T2.out Yz Yz (WTo.same p.out b9)⟩⟩
  ·rintro G vs w5 i ⟨P,-⟩ _ O;exact absurd P V.out
theorem QlA (S:WAt w b most m R g) (I:ROk m n R) (hn:n<=900000){x:Qt}(ip:IP) (h:x.op=10) (d:R.part x=some r) :
 Calls prog 177 #[Pv b 0,Pv g.t.c 0,.agg (Zq x ip)] w fun e w'=>Qdi g w b most m r e w':=by
 obtain⟨a,A⟩:∃ a,iAt R.top.v x.a=some a:=by
  unfold RM.part at d
  cases A:iAt R.top.v x.a with
  | none=>simp[A] at d
  | some a=>exact⟨a,Yz⟩
 have U:=Qc (ZP w (.cells (Zq x ip) 78));have T:=Qc (Qe w (Zq x ip) 78);have B:=Qc (S.below U.out);have T1:=Qc (S.stepB U.out);have hl:R.top.v.length+1<=1000000:=by have:=(I.fr R.top (by simp)).1;omega
 clear S I;go_enter func177,ntmps177
 go_upto_region 1 with fail
 generalize w.alloc (.cells (Zq x ip) 78)=w1 at U T B T1 |-;generalize w.heap.size=X at T |-;obtain⟨x0,x1,H,K,x4,x5,x6,x7⟩:=Q5 T.out
 rw[h] at x0
 obtain⟨j,ri,-,c,ej,hj,E,ck⟩:=B.out.wordAt A
 rw[ej] at x1
 obtain⟨y,D⟩:∃ y,iAt R.top.v x.b=some y:=by
  unfold RM.part at d
  cases D:iAt R.top.v x.b with
  | none=>simp[h,A, D] at d
  | some y=>exact⟨y,Yz⟩
 obtain⟨q,aa,-,cq,eq,hq,O,k⟩:=B.out.wordAt D
 rw[E] at O
 cases O
 rw[eq] at H
 obtain⟨z,J⟩:∃ z,iAt R.top.v x.c=some z:=by
  unfold RM.part at d
  cases J:iAt R.top.v x.c with
  | none=>simp[h,A,D,J] at d
  | some z=>exact⟨z,Yz⟩
 obtain⟨s,ac,-,cs,es,hs,N,f⟩:=B.out.wordAt J
 rw[E] at N
 cases N
 rw[es] at K
 have P:Hid (r=if 0<=y/\y<R.load a then (R.stored (wrap64 (wrap64 (a+1)+y)) z).nx else R.over 2):=by
  show _=_;unfold RM.part at d;by_cases i:0<=y/\y<R.load a
  ·simp[h,A,D,J,i] at d;rw[Xs i,<-d];simp[RM.on,RM.nx]
  ·simp only[h,A,D,J] at d;simp[i] at d;rw[Xr i];exact d.symm
 clear D eq J es;have HL:=Qc hl;clear d h A ej hl x4 x5 x6 x7;obtain⟨vl,F⟩:∃ vl,R.top.v.length=vl:=⟨_,Yz⟩
 rw[F] at *
 have ab:=Qc F;clear F;go_quiet (fail)
 have o:=Qag (Below.refl w1.heap.size w1) nq;have G:=Qc (B.out.below o);have T2:=Qc (T1.out.trans (B.out.stepB o));replace x0:=Qk x0 o;replace H:=Qk H o;replace K:=Qk K o;replace E:=Qk E o;replace k:=Qk k o;replace f:=Qk f o;clear x1 ck B T1 U T;generalize w1.drewN nq=w2 at *;clear o;have q0:=G.out.cellE;have qp:=G.out.cellP;have CE:Hid (∀ Q,Below w2.heap.size w2 Q->Calls prog 222 #[Pv b 0,Iv a,Iv y] Q fun e w'=>Qlj R a y e/\w'=Q):=fun Q bx=>Qcm (G.out.below bx) a y;by_cases i:0<=y/\y<R.load a
 ·have E3:Hid (r=(R.stored (wrap64 (wrap64 (a+1)+y)) z).nx):=by show _=_;rw[P.out,Xs i]
  have HC:=Qc i;clear i P;go_upto_region 10 with fail
  refine QnH q0 qp E H hq k K hs f CE _ _ Yz (Xg (by kernel_rfl)) Yz Yz Yz Yz ?_ ?_
  ·rintro ch a' w9 L ⟨-,W,-⟩;exact absurd HC.out W
  ·rintro M vs w5 l ⟨-,p⟩ u V;show wpList _ M _ [_] (QM _ vs [70,71,72,73,74,75,76,77,78,79,80,81,82,83,84,85,86,87,88,89,90,91,92,93,94,95]) w5;simp only[QM,Act.put,List.setIfInBounds_toArray,List.set_cons_zero,List.set_cons_succ,l,p,u]
   have S5:=Qc (G.out.below V);have T5:=Qc (T2.out.trans (G.out.stepB V));clear l p u V G T2 CE E H K k f hq hs;have C:=Qc (S5.out.storeC (wrap64 (wrap64 (a+1)+y)) z);clear S5 q0 qp;go_wp2_with (go_at_call 221;refine C.out.mono ?_;rintro e' w7 ⟨rfl,h7⟩;have Z:=Qc (WTo.then T5.out Yz Yz h7);clear h7 C)
   exact Xz (v:=.tuple #[]) (by simp[results,results177,go_sem]) Yz (.inl ⟨_,E3.out,Yz,Z.out⟩)
 ·have E3:Hid (r=R.over 2):=by show _=_;rw[P.out,Xr i]
  have HC:Hid (¬ (0<=y/\y<R.load a)):=i;clear i P;go_upto_region 10 with fail
  refine QnH q0 qp E H hq k K hs f CE _ _ Yz (Xg (by kernel_rfl)) Yz Yz Yz Yz ?_ ?_
  ·rintro ch a' w9 L ⟨rfl,W,b9⟩;exact⟨L,.inr ⟨R,2,E3.out,Yz,WTo.then T2.out Yz Yz (WTo.same G.out b9)⟩⟩
  ·rintro M vs w5 l ⟨W,-⟩ _ V;exact absurd W HC.out
end
section
variable {w w' w2:World}{b most n:Nat}{m:List (MFunc 6)}{R R' r:RM}{g g1:WG}
def QmZ (g:WG) (w:World) (b most:Nat) (m:List (MFunc 6)) (R:RM) (f:Nat) (xs:List Int) (e:Ending) (w':World):Prop :=
 (R.rest.length+1<40/\e=.returned (.tuple #[])/\∃ g',WAt w' b most m { R with top:=⟨f,0,0,xs⟩,rest:=R.top::R.rest } g'/\WSt g g' w w'/\g'.fs=g.t::g.fs)\/(¬ R.rest.length+1<40/\e=.panicked (QdR 5)/\WTo g w w' b most m R)
theorem Qi5 (S:WAt w b most m R g) (I:ROk m n R) (hn:n<=900000){x:Qt}(y:IP){Q2:Nat->Prop}(hi:IIn w Q2 x y) (h8:x.args.length<=8)(hf:x.k=(f:Int))(M:R.rest.length+1<40->Qaz R.top.v x.args=some xs) :
 Calls prog 176 #[Pv b 0,Pv g.t.c 0,.agg (Zq x y)] w fun e w'=>QmZ g w b most m R f xs e w':=by
 have P:=Qc (ZP w (.cells (Zq x y) 78));have BX:=Qc (Qe w (Zq x y) 78);have d:=Qc (S.below P.out);have O:=Qc (S.stepB P.out);have hl:R.top.v.length+1<=1000000:=by have:=(I.fr R.top (by simp)).1;omega
 have L:=I.deep;have T:=Qc (Ya hi.args P.out);clear S I hi;go_enter func176,ntmps176
 go_upto_region 1 with fail
 generalize w.alloc (.cells (Zq x y) 78)=B at P BX d O T |-;generalize w.heap.size=X at BX |-;obtain⟨x0,x1,x2,x3,x4,x5,x6,x7⟩:=Q5 BX.out
 rw[hf] at x4
 clear x0 x1 x2 x3 x5 x6;obtain⟨A,dc,z,l,-⟩:=d.out.callsForm
 have H:B.cell? ⟨b,4,none⟩=some g.vc:=Qb d.out.box 4 _ Z;rw[z] at H
 by_cases j:R.rest.length+1<40
 ·have W:decide (((R.rest.length+1:Nat):Int)<40)=true:=Xt (by omega);have M:=M j;have s:=Qc j
  have HR:Hid (∀ o,Below B.heap.size B o->o.ownsRow 0 130 1 (.slice (some ⟨A,0,none⟩) (R.rest.length+1) dc) (R.rest.length+1) (Qaw (g.t::g.fs))):=fun o N=>by
   have:=(d.out.below N).calls
   rwa [z] at this
  have CB:Hid (∀ o,Below B.heap.size B o->Calls prog 216 #[Pv g.t.c 0,Iv (f:Int),Iv 0,.slice y.pA x.args.length y.cA] o fun e w'=>QmQ o ⟨f,0,0,xs⟩ e w'):=fun o N=>QdU (d.out.top.below N) (by omega) Z (by omega) (Ya T.out N) M f 0;have ab:A<B.heap.size:=XC (ZQ d.out.calls (x:=A) (by rw[z];rfl)).choose_spec;have u:Hid (g.vc.ownBlock=some A):=by show _=_;rw[z];rfl
  have K:R.rest.length+1<=100:=by omega
  obtain⟨F,a⟩:∃ F,R.rest.length+1=F:=⟨_,Z⟩
  have aa:=Qc a;rw[a] at H W HR K
  clear M j T z l L hl a h8;go_upto_region 2 with (go_at_call 111;refine(QaF _ _).mono ?_;rintro e' w' ⟨rfl,G⟩;have G:=G.symm;subst G)
  refine wc2 HR ab K H x4 x7 CB (fun w w' h b=>Zt h b.size) _ _ Z (Xg (by kernel_rfl)) Z Z Z ?_ ?_
  ·rintro ch a' w9 ac ⟨⟩
  ·rintro V vs w9 ⟨w5,c5,x5,n5,Q,D,J,F5,U,r2,r3⟩ p C;obtain⟨v9,i⟩:∃ v9,vs 25=v9:=⟨_,Z⟩
   rw[i] at U r3
   show wpList _ V _ [_] (QM _ vs [13,14,15,16,17,18,19,20,21,22,23,24,25,26,27]) w9;simp only[QM,Act.put,List.setIfInBounds_toArray,List.set_cons_zero,List.set_cons_succ,i,p]
   have r:=d.out.pushFr Q F5 D J (v9:=v9) (w9:=w9) (by rw[aa.out];exact U) (by rw[u.out];exact r2) (fun k hk=>by rw[u.out];exact(r3 k hk).imp (fun e=>by rw[e]) id)
   have r:Hid (QmZ g w b most m R f xs (.returned (.tuple #[])) (w9.setCell ⟨b,4,none⟩ v9)):=by
    obtain⟨g',A',S',E'⟩:=r
    exact .inl ⟨s.out,Z,g',A',O.out.trans S',E'⟩
   have E:A≠b:=fun e=>by
    have h1:=d.out.oc A u.out;rw[e,d.out.ob] at h1
    omega
   have q:w9.heap[b]?=_:=(r2.block b (by have:=XC d.out.box;have:=Q.size;omega) (fun e=>E (by simpa using e.symm))).trans ((Q.block b (XC d.out.box)).trans d.out.box);have c9:w9.cell? ⟨b,4,none⟩=some g.vc:=Qb q 4 _ Z;have z9:=Qj q 4;obtain⟨a9,d9,rfl⟩:=QaR U
   clear i p U r2 r3 q E F5 Q D J CB HR H x4 x7 d O C;go_wp2
   exact Xz (v:=.tuple #[]) (by simp[results,results176,go_sem]) Z r.out
 ·have W:decide (((R.rest.length+1:Nat):Int)<40)=false:=Xu (by omega);have s:Hid (¬ R.rest.length+1<40):=j;clear j T l L hl z h8;obtain⟨F,a⟩:∃ F,R.rest.length+1=F:=⟨_,Z⟩
  rw[a] at H W
  clear a;go_wp2_with fail
  refine(Qab _ _).mono ?_
  rintro e' w' ⟨rfl,G⟩;subst G;exact⟨Z,.inr ⟨s.out,Z,WTo.then O.out Z Z (WTo.same d.out Zr)⟩⟩
end
def Qoj (b gc k cap:Nat) (t:Tmp) (v:Value) (w:World):Prop :=
 v=(([(0,Pv b 0),(13,Pv b 0),(14,Pv b 0),(15,Pv b 0),(16,Pv b 4),(17,.slice (some ⟨gc,0,none⟩) (k+1) cap),(18,Pv b 0),(19,Pv b 0),(20,Pv b 4),(21,.slice (some ⟨gc,0,none⟩) (k+1) cap),(22,Iv ((k:Int)+1)),(23,Iv (k:Int)),(24,.slice (some ⟨gc,0,none⟩) k cap),(25,Pv b 0),(26,Pv b 4)]:List (Tmp × Value)).lookup t).getD undef
theorem wg2 {b g:Nat}(j:w6.cell? ⟨b,4,none⟩=some (.slice (some ⟨g,0,none⟩) (k+1) cap)) (d:k+1<=cap) (r:k<=1000){Q:Exit->Act->World->Prop}
 (a:Act) (m:Nat) (s:a.tmps.size=m) (i:31<=m) (o:a.tmps.getD 0 undef=Pv b 0)
 (hend:∀ ops vs w',vs 24=.slice (some ⟨g,0,none⟩) k cap->vs 26=Pv b 4->Below w6.heap.size w6 w'->wpList prog ops Q (Qal 14 ((Tryz.f166.body.bind (Qi 2)).getD .skip)) (QM a vs [13,14,15,16,17,18,19,20,21,22,23,24,25,26]) w') :
 Code.wp prog ((Tryz.f166.body.bind (Qi 2)).getD .skip) Q a w6:=by
 conv=>arg 2;whnf
 refine Qg 14 (Qoj b g k cap) (fun w=>Below w6.heap.size w6 w) (fun w w'=>Below w.heap.size w w') (outs:=[0]) (gs:=[]) (bs:=[true,true,true,true,true,true,true,true,true,true,true,true,true,true]) (by kernel_rfl) (n:=31) s i (by kernel_rfl) (by kernel_rfl) ?hR ?hG (QI Zr 1) ⟨o,Y⟩ ?hA ?hend
 case hR=>exact fun t v w w' _ h=>h
 case hG=>exact Y
 case hend=>exact fun ops vs w' e d=>hend ops vs w' (d 24 (by kernel_rfl)) (d 26 (by kernel_rfl)) e
 case hA =>
  refine⟨fun a w e d K f=>?_,?_⟩
  ·obtain⟨c,-⟩:=d
   have c:a.tmps.getD 0 undef=Pv b 0:=c;go_simp;exact f _ _ Zr e Z
  refine⟨fun a w e d K f=>?_,?_⟩
  ·obtain⟨c,-⟩:=d
   have c:a.tmps.getD 0 undef=Pv b 0:=c;go_simp;exact f _ _ Zr e Z
  refine⟨fun a w e d K f=>?_,?_⟩
  ·obtain⟨c,-⟩:=d
   have c:a.tmps.getD 14 undef=Pv b 0:=c;go_simp;exact f _ _ Zr e Z
  refine⟨fun a w e d K f=>?_,?_⟩
  ·obtain⟨c,-⟩:=d
   have c:a.tmps.getD 15 undef=Pv b 0:=c;go_simp;exact f _ _ Zr e Z
  refine⟨fun a w e d K f=>?_,?_⟩
  ·obtain⟨c,-⟩:=d
   have c:a.tmps.getD 16 undef=Pv b 4:=c;have u:=Qk j e;go_simp;exact f _ _ Zr e Z
  refine⟨fun a w e d K f=>?_,?_⟩
  ·obtain⟨c,-⟩:=d
   have c:a.tmps.getD 0 undef=Pv b 0:=c;go_simp;exact f _ _ Zr e Z
  refine⟨fun a w e d K f=>?_,?_⟩
  ·obtain⟨c,-⟩:=d
   have c:a.tmps.getD 18 undef=Pv b 0:=c;go_simp;exact f _ _ Zr e Z
  refine⟨fun a w e d K f=>?_,?_⟩
  ·obtain⟨c,-⟩:=d
   have c:a.tmps.getD 19 undef=Pv b 0:=c;go_simp;exact f _ _ Zr e Z
  refine⟨fun a w e d K f=>?_,?_⟩
  ·obtain⟨c,-⟩:=d
   have c:a.tmps.getD 20 undef=Pv b 4:=c;have u:=Qk j e;go_simp;exact f _ _ Zr e Z
  refine⟨fun a w e d K f=>?_,?_⟩
  ·obtain⟨c,-⟩:=d
   have c:a.tmps.getD 21 undef=.slice (some ⟨g,0,none⟩) (k+1) cap:=c;go_simp;exact f _ _ Zr e Z
  refine⟨fun a w e d K f=>?_,?_⟩
  ·obtain⟨c,-⟩:=d
   have c:a.tmps.getD 22 undef=Iv ((k:Int)+1):=c;have x:(k:Int)+1 - 1=k:=by omega
   go_simp;refine f _ _ Zr e ?_;show Value.int _ _=Value.int _ _;congr 1
   rw[IntKind.wrap_i64]
   omega
  refine⟨fun a w e d K f=>?_,?_⟩
  ·obtain⟨c,l,-⟩:=d
   have c:a.tmps.getD 17 undef=.slice (some ⟨g,0,none⟩) (k+1) cap:=c;have l:a.tmps.getD 23 undef=Iv (k:Int):=l;have q:(0:Int)<=k:=by omega
   have p:(k:Int)<=cap:=by omega
   go_simp;exact f _ _ Zr e Z
  refine⟨fun a w e d K f=>?_,?_⟩
  ·obtain⟨c,-⟩:=d
   have c:a.tmps.getD 13 undef=Pv b 0:=c;go_simp;exact f _ _ Zr e Z
  refine⟨fun a w e d K f=>?_,?_⟩
  ·obtain⟨c,-⟩:=d
   have c:a.tmps.getD 25 undef=Pv b 0:=c;go_simp;exact f _ _ Zr e Z
  trivial
def QjG (g:WG) (w:World) (b most:Nat) (m:List (MFunc 6)) (r:RM) (e:Ending) (w':World):Prop :=
 (e=.returned (.tuple #[])/\WGo g w w' b most m r)\/(∃ N k,r=N.over k/\e=.panicked (QdR k)/\WTo g w w' b most m N)
def RM.gave (R:RM) (l:List Int):RM:=match R.rest with
 | []=>{ R with done:=true,fin:=0,back:=l }
 | d::rest=>{ R with top:={ d with v:=d.v++l },rest:=rest }
section
variable {w w' w2:World}{b most n:Nat}{m:List (MFunc 6)}{R R' r:RM}{g g1:WG}
theorem QjG.then {e:Ending}(T:WSt g g1 w w2) (h:g1.t.c=g.t.c) (f:g1.fs=g.fs) (H:QjG g1 w2 b most m r e w'):QjG g w b most m r e w':=by
 rcases H with ⟨a,d⟩|⟨N,k,a,c,d⟩
 ·exact .inl ⟨a,WGo.then T d⟩
 ·exact .inr ⟨N,k,a,c,WTo.then T h f d⟩
theorem QbE.news {n:Nat}(h:QbE w (.slice (some ⟨k,0,none⟩) n c) xs):∀ (j:Nat) (u:Value),(xs.map (Value.int .i64))[j]?=some u->w.cell? ((⟨k,0,none⟩:Addr).add j)=some u:=fun j u d=>by
 rw[XS] at d
 obtain⟨y,b,rfl⟩:=Option.map_eq_some_iff.1 d
 have l:=(Zi b).1;obtain⟨a,o,e,m⟩:=h.cell
 obtain⟨i,f,-,g⟩:=m j l
 rw[Value.slice.injEq] at e
 have:i=k:=by have:=e.1.trans f;simpa using this.symm
 subst this;rw[Addr.add_lit,XK,g]
 simp[List.getD,b]
theorem QiM (S:WAt w b most m R g){n:Nat}(i:xs.length=n) (c:QbE w (.slice (some ⟨k,0,none⟩) n n) xs) (a:g.ow k=0/\g.lo<=k) :
 Calls prog 215 #[Pv b 0,.slice (some ⟨k,0,none⟩) n n] w fun e w'=>e=.panicked (QdR 0)/\WTo g w w' b most m { R with back:=xs }:=by
 have j:w.cell? ⟨b,6,none⟩=some g.vb:=Qb S.box 6 _ Yz;have o:=Qj S.box 6;obtain⟨p,l,d,-⟩:=S.back
 have Z:Hid (WTo g w (w.setCell ⟨b,6,none⟩ (.slice (some ⟨k,0,none⟩) n n)) b most m { R with back:=xs }):=by
  subst i;refine S.reBox (R':={ R with back:=xs }) Yz Yz Yz (by simp) (fun k a h=>Xd _ _ _ _ h) ⟨Yz,Yz,Yz,Yz⟩ (pi:=g.pi) (ci:=g.ci) (vb:=.slice (some ⟨k,0,none⟩) xs.length xs.length) ⟨S.inp,S.inpC⟩ (c.lin (fun x f=>?_)) ?_
  ·have:x=k:=by simpa[Value.ownBlock] using f.symm
   rw[this];exact a
  ·rw[Qh S.box 6 _]
   simp
 rw[d] at j
 clear S c a d;go_enter func215,ntmps215
 go_wp2
 exact⟨Yz,Yz,Z.out⟩
theorem QjF (S:WAt w b most m R g) (hd:R.rest.length<=39) (u:∀ d∈R.rest,d.v.length+8<=1000000){n:Nat}(hn:xs.length=n) (h8:n<=8) (E:QbE w (.slice (some ⟨k,0,none⟩) n n) xs) (O:g.ow k=0/\g.lo<=k) :
 Calls prog 166 #[Pv b 0,.slice (some ⟨k,0,none⟩) n n] w fun e w'=>QjG g w b most m (R.gave xs) e w':=by
 obtain⟨gc,cap,N,f,-⟩:=S.callsForm
 have B:w.cell? ⟨b,4,none⟩=some g.vc:=Qb S.box 4 _ Yz;rw[N] at B
 have L:=Qc S
 cases hrest:R.rest with
 | nil =>
   have C:=Qc (QiM S hn E O);have Q:Hid (R.gave xs=RM.over { R with back:=xs } 0):=by show _=_;unfold RM.gave RM.over;rw[hrest]
   rw[hrest] at B
   clear S E O hrest f N;go_enter func166,ntmps166
   go_wp2_with fail
   refine C.out.mono ?_;rintro e' w5 ⟨rfl,h5⟩;exact⟨Yz,.inr ⟨_,0,Q.out,Yz,h5⟩⟩
 | cons d rest =>
   have Q:Hid (R.gave xs=RM.push { R with top:=d,rest:=rest } xs):=by show _=_;unfold RM.gave RM.push;rw[hrest]
   have r:R.rest.length=rest.length+1:=by rw[hrest];simp
   have z:(((R.rest.length+1:Nat):Int)==1)=false:=by simp;omega
   have aa:=u d (by rw[hrest];simp);have q:=Qc hrest;have A:=Qc N;have HR:=Qc E;have HK:=Qc O;clear hrest S E O u N;obtain⟨M,o⟩:∃ M,R.rest.length=M:=⟨_,Yz⟩
   rw[o] at B f z hd
   have s:=Qc o;have U:=Qc r;clear r o;go_enter func166,ntmps166
   go_upto_region 2 with fail
   refine wg2 B f (by omega) _ _ Yz (Xg (by kernel_rfl)) Yz ?_;rintro T V I j l K;show wpList _ T _ [_] (QM _ V [13,14,15,16,17,18,19,20,21,22,23,24,25,26]) I;simp only[QM,Act.put,List.setIfInBounds_toArray,List.set_cons_zero,List.set_cons_succ,j,l]
   have P:=Qc (L.out.below K);have c4:I.cell? ⟨b,4,none⟩=some g.vc:=Qb P.out.box 4 _ Yz;have z4:=Qj P.out.box 4;rw[A.out] at c4
   have i:∃ y H,g.fs=y::H:=by
    have:=L.out.rows
    rw[q.out] at this
    cases hh:g.fs with
    | nil=>rw[hh] at this;simp at this
    | cons y H=>exact⟨y,H,Yz⟩
   obtain⟨y,H,i⟩:=i
   have PP:=P.out.pop i q.out (a:=some ⟨gc,0,none⟩) (cap:=cap) A.out;rw[s.out] at PP
   obtain⟨g8,p,J,t8⟩:=PP
   have p:=Qc p;have J:=Qc ((L.out.stepB K).trans J)
   have h:Hid (QbE (I.setCell ⟨b,4,none⟩ (.slice (some ⟨gc,0,none⟩) M cap)) (.slice (some ⟨k,0,none⟩) n n) xs):=QY HR.out (fun x F=>by
    have e:x=k:=by simpa[Value.ownBlock] using F.symm
    rw[Xd _ _ _ _ (fun (e2:x=b)=>by have h1:=L.out.ob;rw[<-e2,e,HK.out.1] at h1;omega)]
    exact K.block x (HR.out.lt F))
   clear j l K P B t8 i;go_upto_region 3 with fail
   generalize I.setCell ⟨b,4,none⟩ (.slice (some ⟨gc,0,none⟩) M cap)=w8 at p J h |-;have CT:=Qc (QgD p.out (by show rest.length<=1000;have:=U.out;have:=s.out;omega))
   have CM:Hid (∀ G,Below w8.heap.size w8 G->Calls prog 169 #[Pv g8.t.c 0,.slice (some ⟨k,0,none⟩) n n] G fun e w'=>e=.returned (.tuple #[])/\WTo g8 G w' b most m (RM.push { R with top:=d,rest:=rest } xs)):=fun G bx =>
    Qb5 (p.out.below bx) hn (QbE.news (QY h.out (fun x F=>bx.block x (QbE.lt h.out F)))) (by show d.v.length+n<=1000000;omega)
   clear c4 z4;go_wp2_with (go_at_call 112;refine CT.out.mono ?_;rintro e' w9 ⟨rfl,W⟩)
   refine(CM.out w9 W).mono ?_
   rintro e' X ⟨rfl,D⟩;have Z:Hid (WGo g w X b most m (RM.push { R with top:=d,rest:=rest } xs)):=WGo.then (J.out.trans (p.out.stepB W)) D.go;clear D CM CT W;go_wp2
   exact Xz (v:=.tuple #[]) (by simp[results,results166,go_sem]) Yz (by rw[Q.out];exact .inl ⟨Yz,Z.out⟩)
end
section
variable {w w' w2:World}{b most n:Nat}{m:List (MFunc 6)}{R R' r:RM}{g g1:WG}
theorem QlO {t:MTo}(h:R.to t=some r):∃ l,Qaz R.top.v t.args=some l/\r={ R with top:=⟨R.top.f,t.block.toNat,0,l⟩ }:=by
 unfold RM.to at h
 cases hl:Qaz R.top.v t.args with
 | none=>rw[hl] at h;cases h
 | some l=>rw[hl] at h;cases h;exact⟨l,Z,Z⟩
theorem QkH (S:WAt w b most m R g) (I:ROk m n R) (hn:n<=900000){q:Nat}{x:ZA}{i:EP}{Q2:Nat->Prop}(EI:EIn w Q2 x i) (hx:x.form q=0) (f:R.endd x=some r) :
 Calls prog 113 #[Pv b 0,Pv g.t.c 0,.agg (QbW x i)] w fun e w'=>QjG g w b most m r e w':=by
 obtain⟨af,ad,K,T⟩:=Qfg hx
 have O:=Qc (ZP w (.cells (QbW x i) 84));have z:=Qc (Qe w (QbW x i) 84);have Q:=Qc (S.below O.out);have T1:=Qc (S.stepB O.out);have hl:R.top.v.length+1<=1000000:=by have:=(I.fr R.top (by simp)).1;omega
 have ae:=I.deep;have ac:Hid (∀ d∈R.rest,d.v.length+8<=1000000):=fun d hd=>by have:=(I.fr d (List.mem_cons_of_mem _ hd)).1;omega
 have P:Hid (∀ (t:MTo) (pr pa:Option Addr) (cr ca:Nat) (r':RM) p,t.form q true=0->QhB w Q2 t pr cr pa ca->Below w.heap.size w p->R.to t=some r'->Calls prog 168 #[Pv g.t.c 0,.agg #[Iv t.block,.slice pr t.regs.length cr,.slice pa t.args.length ca]] p fun e w'=>e=.returned (.tuple #[])/\QjG g w b most m r' (.returned (.tuple #[])) w'):=fun t pr pa cr ca r' p ht hi s he=>by
  obtain⟨l,W,rfl⟩:=QlO he
  obtain⟨J,E,h4,D⟩:=Qd7 ht
  obtain⟨bi,ab⟩:=Xc J
  refine(Qju (S.below s) (by omega) ab (Ya hi.args s) (by omega) W).mono ?_
  rintro e w' ⟨rfl,h⟩;exact⟨Yz,.inl ⟨Yz,(WTo.then (S.stepB s) Yz Yz h).go⟩⟩
 have o:=Qc EI;have M:=Qc (Xh K T);have CA:Hid (∀ p B,Qaz R.top.v x.args=some B->Below w.heap.size w p->Calls prog 167 #[Pv g.t.c 0,.slice i.pA x.args.length i.cA] p fun e w'=>Qm4 p B x.args.length e w'):=fun p B h s=>Qeb (S.top.below s) (by omega) Yz (by omega) (Ya EI.args s) h;have HS:=Qc S;clear S I EI hx K T;go_enter func113,ntmps113
 go_upto_region 2 with fail
 generalize w.alloc (.cells (QbW x i) 84)=A at O z Q T1 |-;generalize w.heap.size=X at z |-;have L:A.cell? ⟨X,0,none⟩=some (Iv x.op):=Qb z.out 0 _ Yz;have x1:A.cell? ⟨X,1,none⟩=some (Iv x.a):=Qb z.out 1 _ Yz;have x2:A.cell? ⟨X,2,none⟩=some (Iv x.yes.block):=Qb z.out 2 _ Yz;have x3:A.cell? ⟨X,3,none⟩=some (.slice i.pYR x.yes.regs.length i.cYR):=Qb z.out 3 _ Yz;have x4:A.cell? ⟨X,4,none⟩=some (.slice i.pYA x.yes.args.length i.cYA):=Qb z.out 4 _ Yz;have x5:A.cell? ⟨X,5,none⟩=some (Iv x.no.block):=Qb z.out 5 _ Yz;have x6:A.cell? ⟨X,6,none⟩=some (.slice i.pNR x.no.regs.length i.cNR):=Qb z.out 6 _ Yz;have x7:A.cell? ⟨X,7,none⟩=some (.slice i.pNA x.no.args.length i.cNA):=Qb z.out 7 _ Yz;have x8:A.cell? ⟨X,8,none⟩=some (.slice i.pA x.args.length i.cA):=Qb z.out 8 _ Yz;by_cases G:x.op=3
 ·obtain⟨B,H⟩:∃ B,Qaz R.top.v x.args=some B:=by
   unfold RM.endd at f
   cases hl:Qaz R.top.v x.args with
   | none=>simp[G,hl] at f
   | some l=>exact⟨l,Yz⟩
  have u:Hid (r=R.gave B):=by
   show _=_;unfold RM.endd at f;simp[G,H] at f
   unfold RM.gave
   cases hrest:R.rest with
   | nil=>rw[hrest] at f;simp at f;rw[<-f]
   | cons d rest=>rw[hrest] at f;simp at f;rw[<-f]
  have C:=Qc (CA.out A B H O.out);have aa:Hid (B.length=x.args.length):=Qai H;rw[G] at L
  clear P CA x1 x2 x3 x4 x5 x6 x7 f G H o M;go_wp2_with (go_at_call 167;refine C.out.mono ?_;rintro e' w5 ⟨k,rfl,hk,hR,b5⟩)
  have S5:=Q.out.below b5;have V:g.ow k=0/\g.lo<=k:=⟨Xq.1 fun e=>by have:=Q.out.lt _ e;omega,Zt Q.out.low hk⟩;refine(QjF S5 ae ac.out aa.out ad hR V).mono ?_
  rintro e' w6 hE;have F:=Qc (QjG.then (T1.out.trans (Q.out.stepB b5)) Yz Yz hE);rcases hE with ⟨rfl,-⟩|⟨N,k',-,rfl,-⟩
  ·clear C L x8 S5 hR b5 V hk;go_wp2
   exact Xz (v:=.tuple #[]) (by simp[results,results113,go_sem]) Yz (by rw[u.out];exact F.out)
  ·exact⟨Yz,by rw[u.out];exact F.out⟩
 by_cases E:x.op=2
 ·obtain⟨y,U⟩:∃ y,iAt R.top.v x.a=some y:=by
   unfold RM.endd at f
   cases hl:iAt R.top.v x.a with
   | none=>simp[E,hl] at f
   | some l=>exact⟨l,Yz⟩
  obtain⟨j,ri,-,c,ej,hj,c3,ck⟩:=Q.out.wordAt U
  rw[ej] at x1
  rw[E] at L
  by_cases J:y=0
  ·have u:R.to x.no=some r:=by unfold RM.endd at f;simp[E,U,J] at f;exact f
   have d0:(y==0)=true:=by simpa using J
   have C:=Qc (fun p s=>P.out x.no _ _ _ _ r p (M.out.2 E) o.out.no s u);clear P CA x2 x3 x4 x8 f G U E u o M ej J;generalize R.top.v.length=vl at *;go_upto_region 4 with fail
   go_quiet (fail)
   go_wp2_with fail
   refine(C.out _ (Qag O.out _)).mono ?_
   rintro e' w5 ⟨rfl,D⟩;have Z:=Qc D;clear D C L x1 x5 x6 x7 c3 ck;go_wp2
   exact Xz (v:=.tuple #[]) (by simp[results,results113,go_sem]) Yz Z.out
  ·have u:R.to x.yes=some r:=by unfold RM.endd at f;simp[E,U,J] at f;exact f
   have d0:(y==0)=false:=by simpa using J
   have C:=Qc (fun p s=>P.out x.yes _ _ _ _ r p (M.out.1 G) o.out.yes s u);clear P CA x5 x6 x7 x8 f G U E u o M ej J;generalize R.top.v.length=vl at *;go_upto_region 4 with fail
   go_quiet (fail)
   go_wp2_with fail
   refine(C.out _ (Qag O.out _)).mono ?_
   rintro e' w5 ⟨rfl,D⟩;have Z:=Qc D;clear D C L x1 x2 x3 x4 c3 ck;go_wp2
   exact Xz (v:=.tuple #[]) (by simp[results,results113,go_sem]) Yz Z.out
 ·have W:x.op=1:=by omega
  have u:R.to x.yes=some r:=by unfold RM.endd at f;simp[W] at f;exact f
  have C:=Qc (fun p s=>P.out x.yes _ _ _ _ r p (M.out.1 G) o.out.yes s u);rw[W] at L
  clear P CA x1 x5 x6 x7 x8 f G E W u o M;go_upto_region 4 with fail
  go_quiet (fail)
  go_wp2_with fail
  refine(C.out _ (Qag O.out _)).mono ?_
  rintro e' w5 ⟨rfl,D⟩;have Z:=Qc D;clear D C L x2 x3 x4;go_wp2
  exact Xz (v:=.tuple #[]) (by simp[results,results113,go_sem]) Yz Z.out
end
section
variable {w w' w2:World}{b most n:Nat}{m:List (MFunc 6)}{M M' N:IM}{sc sa:Int}{g g1:MG}{e:Ending}
theorem vsizeE:(prog.info? 84).map (·.size)=some 9:=by kernel_rfl
end
def Qn5 (b fu most:Nat) (t:Tmp) (v:Value) (w:World):Prop :=
 v=(([(0,Pv b 0),(4,Pv b 0),(5,Pv b 0),(6,Pv b 5),(7,Pv b 8),(8,Iv (fu:Int)),(9,Pv b 0),(10,Pv b 0),(11,Pv b 3),(12,Iv (most:Int)),(13,.bool (decide ((fu:Int)<most)))]:List (Tmp × Value)).lookup t).getD undef
theorem ws0 {b fu most:Nat}(k:w6.cell? ⟨b,8,none⟩=some (Iv (fu:Int))) (o:w6.cell? ⟨b,3,none⟩=some (Iv (most:Int))){Q:Exit->Act->World->Prop}
 (a:Act) (m:Nat) (l:a.tmps.size=m) (g:75<=m) (j:a.tmps.getD 0 undef=Pv b 0)
 (hend:∀ ops vs w',vs 13=.bool (decide ((fu:Int)<most))->Below w6.heap.size w6 w'->wpList prog ops Q (Qal 10 ((Tryz.f69.body.bind (Qi 0)).getD .skip)) (QM a vs [4,5,6,7,8,9,10,11,12,13]) w') :
 Code.wp prog ((Tryz.f69.body.bind (Qi 0)).getD .skip) Q a w6:=by
 conv=>arg 2;whnf
 refine Qg 10 (Qn5 b fu most) (fun w=>Below w6.heap.size w6 w) (fun w w'=>Below w.heap.size w w') (outs:=[0]) (gs:=[]) (bs:=[true,true,true,true,true,true,true,true,true,true]) (by kernel_rfl) (n:=75) l g (by kernel_rfl) (by kernel_rfl) ?hR ?hG (QI Zr 1) ⟨j,Y⟩ ?hA ?hend
 case hR=>exact fun t v w w' _ h=>h
 case hG=>exact Y
 case hend=>exact fun ops vs w' d e=>hend ops vs w' (e 13 (by kernel_rfl)) d
 case hA =>
  refine⟨fun a w d e K f=>?_,?_⟩
  ·obtain⟨c,-⟩:=e
   have c:a.tmps.getD 0 undef=Pv b 0:=c;go_simp;exact f _ _ Zr d Z
  refine⟨fun a w d e K f=>?_,?_⟩
  ·obtain⟨c,-⟩:=e
   have c:a.tmps.getD 4 undef=Pv b 0:=c;go_simp;exact f _ _ Zr d Z
  refine⟨fun a w d e K f=>?_,?_⟩
  ·obtain⟨c,-⟩:=e
   have c:a.tmps.getD 5 undef=Pv b 0:=c;go_simp;exact f _ _ Zr d Z
  refine⟨fun a w d e K f=>?_,?_⟩
  ·obtain⟨c,-⟩:=e
   have c:a.tmps.getD 6 undef=Pv b 5:=c;go_simp;exact f _ _ Zr d Z
  refine⟨fun a w d e K f=>?_,?_⟩
  ·obtain⟨c,-⟩:=e
   have c:a.tmps.getD 7 undef=Pv b 8:=c;have p:=Qk k d;go_simp;exact f _ _ Zr d Z
  refine⟨fun a w d e K f=>?_,?_⟩
  ·obtain⟨c,-⟩:=e
   have c:a.tmps.getD 0 undef=Pv b 0:=c;go_simp;exact f _ _ Zr d Z
  refine⟨fun a w d e K f=>?_,?_⟩
  ·obtain⟨c,-⟩:=e
   have c:a.tmps.getD 9 undef=Pv b 0:=c;go_simp;exact f _ _ Zr d Z
  refine⟨fun a w d e K f=>?_,?_⟩
  ·obtain⟨c,-⟩:=e
   have c:a.tmps.getD 10 undef=Pv b 0:=c;go_simp;exact f _ _ Zr d Z
  refine⟨fun a w d e K f=>?_,?_⟩
  ·obtain⟨c,-⟩:=e
   have c:a.tmps.getD 11 undef=Pv b 3:=c;have p:=Qk o d;go_simp;exact f _ _ Zr d Z
  refine⟨fun a w d e K f=>?_,?_⟩
  ·obtain⟨c,i,-⟩:=e
   have c:a.tmps.getD 8 undef=Iv (fu:Int):=c;have i:a.tmps.getD 12 undef=Iv (most:Int):=i;go_simp;refine f _ _ Zr d ?_;show Value.bool _=Value.bool _;congr 1
   first | rfl | (rw[decide_eq_decide];omega)
  trivial
def Qnx (w6:World) (b c g1 o1 nm cm fi g2 o2 nb cb bi:Nat) (bl:MBlock 6) (p:BP) (t:Tmp) (v:Value) (w:World):Prop :=
 match ([(3,fun v w=>∃ Z,v=.pointer (some ⟨Z,0,none⟩)/\w6.heap.size<=Z/\Blk w Z zeroB 86)]:List (Tmp × (Value->World->Prop))).lookup t with
 | some p=>p v w
 | none=>v=(([(0,.pointer (some ⟨b,0,none⟩)),(2,.pointer (some ⟨c,0,none⟩)),(26,.pointer (some ⟨b,0,none⟩)),(27,.pointer (some ⟨b,0,none⟩)),(28,.pointer (some ⟨b,1,none⟩)),(29,.pointer (some ⟨b,1,none⟩)),(30,.slice (some ⟨g1,o1,none⟩) nm cm),(31,.pointer (some ⟨c,0,none⟩)),(32,.pointer (some ⟨c,0,none⟩)),(33,.pointer (some ⟨c,0,none⟩)),(34,.int .i64 (fi:Int)),(35,.pointer (some ⟨g1,o1+fi*4,none⟩)),(36,.pointer (some ⟨g1,o1+fi*4+3,none⟩)),(37,.slice (some ⟨g2,o2,none⟩) nb cb),(38,.pointer (some ⟨c,0,none⟩)),(39,.pointer (some ⟨c,0,none⟩)),(40,.pointer (some ⟨c,1,none⟩)),(41,.int .i64 (bi:Int)),(42,.pointer (some ⟨g2,o2+bi*12,none⟩)),(43,.agg (Qgg bl p))]:List (Tmp × Value)).lookup t).getD undef
theorem ws3 {b l i u k o r A:Nat}{s:MBlock 6}{p:BP}(M:w6.cell? ⟨b,1,none⟩=some (.slice (some ⟨l,i,none⟩) u cm)) (F:w6.cell? ⟨c,0,none⟩=some (Iv (fi:Int))) (O:w6.cell? ⟨c,1,none⟩=some (Iv (bi:Int))) (G:w6.cell? ⟨l,i+fi*4+3,none⟩=some (.slice (some ⟨k,o,none⟩) r A)) (H:Hid (w6.rangeAt k (o+bi*12) (Qgg s p).toList)) (D:(fi:Int)<u) (I:(bi:Int)<r){Q:Exit->Act->World->Prop}
 (a:Act) (m:Nat) (P:a.tmps.size=m) (y:75<=m) (C:a.tmps.getD 0 undef=Pv b 0) (z:a.tmps.getD 2 undef=Pv c 0)
 (hend:∀ ops vs w',(fun v w=>∃ Z,v=Pv Z 0/\w6.heap.size<=Z/\Blk w Z zeroB 86) (vs 3) w'->vs 43=.agg (Qgg s p)->Below w6.heap.size w6 w'->wpList prog ops Q (Qal 19 ((Tryz.f69.body.bind (Qi 3)).getD .skip)) (QM a vs [26,27,28,29,30,31,32,33,34,35,36,37,38,39,40,41,42,43,3]) w') :
 Code.wp prog ((Tryz.f69.body.bind (Qi 3)).getD .skip) Q a w6:=by
 conv=>arg 2;whnf
 refine Qg 19 (Qnx w6 b c l i u cm fi k o r A bi s p) (fun w=>Below w6.heap.size w6 w) (fun w w'=>Below w.heap.size w w') (outs:=[0,2]) (gs:=[]) (bs:=[true,true,true,true,true,true,true,true,true,true,true,true,true,true,true,true,true,true,true]) (by kernel_rfl) (n:=75) P y (by kernel_rfl) (by kernel_rfl) ?hR ?hG (QI Zr 1) ⟨C,z,Y⟩ ?hA ?hend
 case hR =>
  intro t v w w' J h;unfold Qnx at h |-;split at h
  ·rename_i p x
   simp only[List.lookup_cons,List.lookup_nil] at x
   split at x
   ·cases x;exact(by obtain⟨Z,N,z,L⟩:=h;exact⟨Z,N,z,Blk.below L J⟩)
   ·cases x
  ·exact h
 case hG=>exact Y
 case hend=>exact fun ops vs w' e f=>hend ops vs w' (f 3 (by kernel_rfl)) (f 43 (by kernel_rfl)) e
 case hA =>
  refine⟨fun a w e f K g=>?_,?_⟩
  ·obtain⟨d,-⟩:=f
   have d:a.tmps.getD 0 undef=Pv b 0:=d;go_simp;exact g _ _ Zr e Yz
  refine⟨fun a w e f K g=>?_,?_⟩
  ·obtain⟨d,-⟩:=f
   have d:a.tmps.getD 26 undef=Pv b 0:=d;go_simp;exact g _ _ Zr e Yz
  refine⟨fun a w e f K g=>?_,?_⟩
  ·obtain⟨d,-⟩:=f
   have d:a.tmps.getD 27 undef=Pv b 0:=d;go_simp;exact g _ _ Zr e Yz
  refine⟨fun a w e f K g=>?_,?_⟩
  ·obtain⟨d,-⟩:=f
   have d:a.tmps.getD 28 undef=Pv b 1:=d;go_simp;exact g _ _ Zr e Yz
  refine⟨fun a w e f K g=>?_,?_⟩
  ·obtain⟨d,-⟩:=f
   have d:a.tmps.getD 29 undef=Pv b 1:=d;have B:=Qk M e;go_simp;exact g _ _ Zr e Yz
  refine⟨fun a w e f K g=>?_,?_⟩
  ·obtain⟨d,-⟩:=f
   have d:a.tmps.getD 2 undef=Pv c 0:=d;go_simp;exact g _ _ Zr e Yz
  refine⟨fun a w e f K g=>?_,?_⟩
  ·obtain⟨d,-⟩:=f
   have d:a.tmps.getD 31 undef=Pv c 0:=d;go_simp;exact g _ _ Zr e Yz
  refine⟨fun a w e f K g=>?_,?_⟩
  ·obtain⟨d,-⟩:=f
   have d:a.tmps.getD 32 undef=Pv c 0:=d;go_simp;exact g _ _ Zr e Yz
  refine⟨fun a w e f K g=>?_,?_⟩
  ·obtain⟨d,-⟩:=f
   have d:a.tmps.getD 33 undef=Pv c 0:=d;have B:=Qk F e;go_simp;exact g _ _ Zr e Yz
  refine⟨fun a w e f K g=>?_,?_⟩
  ·obtain⟨d,q,-⟩:=f
   have d:a.tmps.getD 30 undef=.slice (some ⟨l,i,none⟩) u cm:=d;have q:a.tmps.getD 34 undef=Iv (fi:Int):=q;go_simp;exact g _ _ Zr e Yz
  refine⟨fun a w e f K g=>?_,?_⟩
  ·obtain⟨d,-⟩:=f
   have d:a.tmps.getD 35 undef=Pv l (i+fi*4):=d;go_simp;exact g _ _ Zr e Yz
  refine⟨fun a w e f K g=>?_,?_⟩
  ·obtain⟨d,-⟩:=f
   have d:a.tmps.getD 36 undef=Pv l (i+fi*4+3):=d;have B:=Qk G e;go_simp;exact g _ _ Zr e Yz
  refine⟨fun a w e f K g=>?_,?_⟩
  ·obtain⟨d,-⟩:=f
   have d:a.tmps.getD 2 undef=Pv c 0:=d;go_simp;exact g _ _ Zr e Yz
  refine⟨fun a w e f K g=>?_,?_⟩
  ·obtain⟨d,-⟩:=f
   have d:a.tmps.getD 38 undef=Pv c 0:=d;go_simp;exact g _ _ Zr e Yz
  refine⟨fun a w e f K g=>?_,?_⟩
  ·obtain⟨d,-⟩:=f
   have d:a.tmps.getD 39 undef=Pv c 0:=d;go_simp;exact g _ _ Zr e Yz
  refine⟨fun a w e f K g=>?_,?_⟩
  ·obtain⟨d,-⟩:=f
   have d:a.tmps.getD 40 undef=Pv c 1:=d;have B:=Qk O e;go_simp;exact g _ _ Zr e Yz
  refine⟨fun a w e f K g=>?_,?_⟩
  ·obtain⟨d,q,-⟩:=f
   have d:a.tmps.getD 37 undef=.slice (some ⟨k,o,none⟩) r A:=d;have q:a.tmps.getD 41 undef=Iv (bi:Int):=q;go_simp;exact g _ _ Zr e Yz
  refine⟨fun a w e f K g=>?_,?_⟩
  ·obtain⟨d,-⟩:=f
   have d:a.tmps.getD 42 undef=Pv k (o+bi*12):=d;refine wp_load_mid 86 (.tmp 42) Yz k (o+bi*12) d (Qgg s p).toList _ (fun j v E=>Qk (H.out j v E) e) underlying86 Yz pSizeB ?_;exact g _ _ Zr e Yz
  refine⟨fun a w e f K g=>?_,?_⟩
  ·clear f;go_simp;exact g _ _ (ZP _ _) (e.trans ((ZP _ _).mono e.size)) ⟨_,Yz,e.size,Qe _ _ _⟩
  trivial
def QnZ (b c Z gc oc nc cc i:Nat) (x:Qt) (ip:IP) (t:Tmp) (v:Value) (w:World):Prop :=
 v=(([(0,Pv b 0),(2,Pv c 0),(3,Pv Z 0),(57,Pv b 0),(58,Pv c 0),(59,Pv Z 2),(60,.slice (some ⟨gc,oc,none⟩) nc cc),(61,Pv c 0),(62,Pv c 0),(63,Pv c 2),(64,Iv (i:Int)),(65,Pv gc (oc+i*8)),(66,.agg (Zq x ip))]:List (Tmp × Value)).lookup t).getD undef
theorem ws6 {b Z l k o:Nat}{x:Qt}{p:IP}(y:w6.cell? ⟨Z,2,none⟩=some (.slice (some ⟨l,k,none⟩) o cc)) (u:w6.cell? ⟨c,2,none⟩=some (Iv (i:Int))) (A:Hid (w6.rangeAt l (k+i*8) (Zq x p).toList)) (hi:(i:Int)<o){Q:Exit->Act->World->Prop}
 (a:Act) (m:Nat) (D:a.tmps.size=m) (q:75<=m) (s:a.tmps.getD 0 undef=Pv b 0) (B:a.tmps.getD 2 undef=Pv c 0) (C:a.tmps.getD 3 undef=Pv Z 0)
 (hend:∀ ops vs w',vs 57=Pv b 0->vs 58=Pv c 0->vs 66=.agg (Zq x p)->Below w6.heap.size w6 w'->wpList prog ops Q (Qal 10 ((Tryz.f69.body.bind (Qi 6)).getD .skip)) (QM a vs [57,58,59,60,61,62,63,64,65,66]) w') :
 Code.wp prog ((Tryz.f69.body.bind (Qi 6)).getD .skip) Q a w6:=by
 conv=>arg 2;whnf
 refine Qg 10 (QnZ b c Z l k o cc i x p) (fun w=>Below w6.heap.size w6 w) (fun w w'=>Below w.heap.size w w') (outs:=[0,2,3]) (gs:=[]) (bs:=[true,true,true,true,true,true,true,true,true,true]) (by kernel_rfl) (n:=75) D q (by kernel_rfl) (by kernel_rfl) ?hR ?hG (QI Zr 1) ⟨s,B,C,Y⟩ ?hA ?hend
 case hR=>exact fun t v w w' _ h=>h
 case hG=>exact Y
 case hend=>exact fun ops vs w' e f=>hend ops vs w' (f 57 (by kernel_rfl)) (f 58 (by kernel_rfl)) (f 66 (by kernel_rfl)) e
 case hA =>
  refine⟨fun a w e f K g=>?_,?_⟩
  ·obtain⟨d,-⟩:=f
   have d:a.tmps.getD 0 undef=Pv b 0:=d;go_simp;exact g _ _ Zr e Yz
  refine⟨fun a w e f K g=>?_,?_⟩
  ·obtain⟨d,-⟩:=f
   have d:a.tmps.getD 2 undef=Pv c 0:=d;go_simp;exact g _ _ Zr e Yz
  refine⟨fun a w e f K g=>?_,?_⟩
  ·obtain⟨d,-⟩:=f
   have d:a.tmps.getD 3 undef=Pv Z 0:=d;go_simp;exact g _ _ Zr e Yz
  refine⟨fun a w e f K g=>?_,?_⟩
  ·obtain⟨d,-⟩:=f
   have d:a.tmps.getD 59 undef=Pv Z 2:=d;have E:=Qk y e;go_simp;exact g _ _ Zr e Yz
  refine⟨fun a w e f K g=>?_,?_⟩
  ·obtain⟨d,-⟩:=f
   have d:a.tmps.getD 2 undef=Pv c 0:=d;go_simp;exact g _ _ Zr e Yz
  refine⟨fun a w e f K g=>?_,?_⟩
  ·obtain⟨d,-⟩:=f
   have d:a.tmps.getD 61 undef=Pv c 0:=d;go_simp;exact g _ _ Zr e Yz
  refine⟨fun a w e f K g=>?_,?_⟩
  ·obtain⟨d,-⟩:=f
   have d:a.tmps.getD 62 undef=Pv c 0:=d;go_simp;exact g _ _ Zr e Yz
  refine⟨fun a w e f K g=>?_,?_⟩
  ·obtain⟨d,-⟩:=f
   have d:a.tmps.getD 63 undef=Pv c 2:=d;have E:=Qk u e;go_simp;exact g _ _ Zr e Yz
  refine⟨fun a w e f K g=>?_,?_⟩
  ·obtain⟨d,r,-⟩:=f
   have d:a.tmps.getD 60 undef=.slice (some ⟨l,k,none⟩) o cc:=d;have r:a.tmps.getD 64 undef=Iv (i:Int):=r;go_simp;exact g _ _ Zr e Yz
  refine⟨fun a w e f K g=>?_,?_⟩
  ·obtain⟨d,-⟩:=f
   have d:a.tmps.getD 65 undef=Pv l (k+i*8):=d;refine wp_load_mid 78 (.tmp 65) Yz l (k+i*8) d (Zq x p).toList _ (fun j v z=>Qk (A.out j v z) e) underlying78 Yz pSizeN ?_;exact g _ _ Zr e Yz
  trivial
section
variable {w w' w2:World}{b most n:Nat}{m:List (MFunc 6)}{R R' r:RM}{g g1:WG}
theorem WAt.fuelC (S:WAt w b most m R g):WTo g w (w.setCell ⟨b,8,none⟩ (Iv ((R.fuel:Int)+1))) b most m { R with fuel:=R.fuel+1 }:=by
 refine S.reBox (R':={ R with fuel:=R.fuel+1 }) Z Z Z (by simp) (fun k c a=>Xd _ _ _ _ a) ⟨Z,Z,Z,Z⟩ (pi:=g.pi) (ci:=g.ci) (vb:=g.vb) ⟨S.inp,S.inpC⟩ S.back ?_;rw[Qh S.box 8 _]
 simp
theorem Qi7 (S:WAt w b most m R g) (I:ROk m n R) (i:n<=900000){x:Qt}(a:IP) (h:x.op=6\/x.op=7\/x.op=9\/x.op=10\/x.op=11) (p:RM.ins aOp R x=some r) :
 Calls prog 114 #[Pv b 0,Pv g.t.c 0,.agg (Zq x a)] w fun e w'=>Qdi g w b most m r e w':=by
 have l:=Qc (ZP w (.cells (Zq x a) 78));have k:=Qc (Qe w (Zq x a) 78);have d:=Qc (S.below l.out);have o:=Qc (S.stepB l.out);have f:R.part x=some r:=by rw[<-p,Qax h]
 have C:Hid (Calls prog 177 #[Pv b 0,Pv g.t.c 0,.agg (Zq x a)] (w.alloc (.cells (Zq x a) 78)) fun e w'=>Qdi g (w.alloc (.cells (Zq x a) 78)) b most m r e w'):=by
  rcases h with h | h | h | h | h
  ·exact QmR d.out I i a h f
  ·exact Qmp d.out I i a h f
  ·exact Qmt d.out I i a h f
  ·exact QlA d.out I i a h f
  ·exact QlV d.out I i a h f
 have K:(x.op==1)=false:=by simp;omega
 have N:(x.op==2)=false:=by simp;omega
 have H:(x.op==3)=false:=by simp;omega
 have P:(x.op==4)=false:=by simp;omega
 have L:(x.op==5)=false:=by simp;omega
 have Q:(x.op==8)=false:=by simp;omega
 have s:(x.op==12)=false:=by simp;omega
 have y:(x.op==13)=false:=by simp;omega
 have B:(x.op==14)=false:=by simp;omega
 clear S I f p h;go_enter func114,ntmps114
 go_upto_region 1 with fail
 generalize w.alloc (.cells (Zq x a) 78)=T at l k d o C |-;generalize w.heap.size=X at k |-;obtain⟨q,F,z,A,D,E,u,G⟩:=Q5 k.out
 go_wp2_with fail
 refine C.out.mono ?_;rintro O M j;have Z:=Qc (Qdi.then o.out Yz Yz j);rcases j.cases with rfl | ⟨J,rfl⟩
 ·clear j C q F z A D E u G;go_wp2
  exact Xz (v:=.tuple #[]) (by simp[results,results114,go_sem]) Yz Z.out
 ·exact⟨Yz,Z.out⟩
theorem QmM (S:WAt w b most m R g) (I:ROk m n R) (N:n<=900000){x:Qt}(a:IP){F:Nat->Prop}(hi:IIn w F x a) (u:x.args.length<=8) (h:x.op=14)(s:x.k=(f:Int))(p:R.rest.length+1<40->Qaz R.top.v x.args=some xs) :
 Calls prog 114 #[Pv b 0,Pv g.t.c 0,.agg (Zq x a)] w fun e w'=>QmZ g w b most m R f xs e w':=by
 have d:=Qc (ZP w (.cells (Zq x a) 78));have o:=Qc (Qe w (Zq x a) 78);have r:=Qc (S.below d.out);have l:=Qc (S.stepB d.out);have C:=Qc (Qi5 r.out I N a (hi.below d.out) u s p);have T:(x.op==1)=false:=by simp;omega
 have V:(x.op==2)=false:=by simp;omega
 have Q:(x.op==3)=false:=by simp;omega
 have d4:(x.op==4)=false:=by simp;omega
 have U:(x.op==5)=false:=by simp;omega
 have d8:(x.op==8)=false:=by simp;omega
 have B:(x.op==12)=false:=by simp;omega
 have E:(x.op==13)=false:=by simp;omega
 have K:(x.op==14)=true:=by simp;omega
 clear S I p hi u s h;go_enter func114,ntmps114
 go_upto_region 1 with fail
 generalize w.alloc (.cells (Zq x a) 78)=w1 at d o r l C |-;generalize w.heap.size=X at o |-;obtain⟨A,O,G,H,L,M,D,P⟩:=Q5 o.out
 go_wp2_with fail
 refine C.out.mono ?_;rintro W J (⟨j,rfl,z,i,y,q⟩|⟨j,rfl,i⟩)
 ·have Z:Hid (QmZ g w b most m R f xs (.returned (.tuple #[])) J):=.inl ⟨j,Yz,z,i,l.out.trans y,q⟩;clear j i y q C A O G H L M D P;go_wp2
  exact Xz (v:=.tuple #[]) (by simp[results,results114,go_sem]) Yz Z.out
 ·exact⟨Yz,.inr ⟨j,Yz,WTo.then l.out Yz Yz i⟩⟩
theorem QkO (S:WAt w b most m R g) (I:ROk m n R) (d:n<=900000){x:Qt}(a:IP){i:Nat->Prop}(hi:IIn w i x a) (j:x.form m.length=0) (l:x.op≠14) (f:RM.ins aOp R x=some r) :
 Calls prog 114 #[Pv b 0,Pv g.t.c 0,.agg (Zq x a)] w fun e w'=>Qdi g w b most m r e w':=by
 obtain⟨p,k,-⟩:=QcD j
 have o:x.op=1\/x.op=2\/x.op=3\/x.op=4\/x.op=5\/x.op=8\/x.op=12\/x.op=13\/(x.op=6\/x.op=7\/x.op=9\/x.op=10\/x.op=11):=by omega
 rcases o with h | h | h | h | h | h | h | h | h
 ·exact Qm6 S I d a h f
 ·exact Qnp S I d a h f
 ·exact Qnf S I d a h f
 ·exact Qns S I d a h f
 ·exact Qne S I d a h hi (k h) f
 ·exact Qnr S I d a h f
 ·exact QmG S I d a h f
 ·exact Qml S I d a h f
 ·exact Qi7 S I d a h f
end
section
variable {w w' w2:World}{b most n:Nat}{m:List (MFunc 6)}{R R' r:RM}{g g1:WG}
def QnC (g:WG) (w:World) (b most:Nat) (m:List (MFunc 6)) (r:RM) (e:Ending) (w':World):Prop :=
 (e=.returned (.tuple #[])/\WGo g w w' b most m r)\/(∃ N k,r=N.over k/\e=.panicked (QdR k)/\WTo g w w' b most m N)
theorem QjG.stp {e:Ending}(T:WSt g g1 w w2) (d:g1.t.c=g.t.c) (a:g1.fs=g.fs) (H:QjG g1 w2 b most m r e w'):QnC g w b most m r e w':=H.then T d a
theorem Qja (S:WAt w b most m R g) (I:ROk m n R) (hn:n<=800000) (hm:(modFault m).1=0) (bi:R.fuel<=most) (bk:most<=100000) (hr:RM.step m aOp most R=some r) :
 Calls prog 69 #[Pv b 0] w fun e w'=>QnC g w b most m r e w':=by
 obtain⟨-,fn,d,hf,hb,hi⟩:=I.fr R.top (by simp)
 have hR:=(Zn hm).2 fn (Zm hf);have hB:=hR.blocks d (Zm hb);have ar:=(Zn hm).1.2
 have E:Hid (some r=if R.fuel=most then some (R.over 7) else match d.code[R.top.i]? with | some x=>RM.ins aOp { R with fuel:=R.fuel+1 } x | none=>RM.endd { R with fuel:=R.fuel+1 } d.fin):=by
  show _=_;rw[<-hr]
  unfold RM.step;rw[hf]
  simp only
  rw[hb]
  rfl
 have I1:ROk m n { R with fuel:=R.fuel+1 }:=⟨I.est,I.fr,I.inp,I.out,I.deep⟩;have q8:w.cell? ⟨b,8,none⟩=some (Iv R.fuel):=Qb S.box 8 _ Yz;have q3:w.cell? ⟨b,3,none⟩=some (Iv most):=Qb S.box 3 _ Yz;have HS:=Qc S;have HK:=Qc I1;have z:=Qc (Xh hf hb);have ab:=Qc (Xh hR hB);have HM:=Qc hm;have HI:=Qc hi;have HN:=Qc (Xh hn ar);clear S I I1 hf hb hR hB hm hi hn ar hr;go_enter func69,ntmps69
 go_upto_region 0 with fail
 refine ws0 q8 q3 _ _ Yz (Xg (by kernel_rfl)) Yz ?_;rintro A vs w5 P b5;show wpList _ A _ [_] (QM _ vs [4,5,6,7,8,9,10,11,12,13]) w5;simp only[QM,Act.put,List.setIfInBounds_toArray,List.set_cons_zero,List.set_cons_succ,P]
 have B5:=Qc b5;clear P b5 q8 q3;by_cases G:R.fuel=most
 ·have d1:decide ((R.fuel:Int)<most)=false:=Xu (by omega);have U:Hid (r=R.over 7):=by show _=_;have:=E.out;rw[Xs G] at this;cases this;rfl
  rw[d1]
  clear E d1 G;go_wp2_with fail
  refine(Qab _ _).mono ?_
  rintro e' w' ⟨rfl,hw⟩;subst hw;exact⟨Yz,.inr ⟨R,7,U.out,Yz,WTo.same HS.out B5.out⟩⟩
 have d1:decide ((R.fuel:Int)<most)=true:=Xt (by omega);have U:Hid (some r=match d.code[R.top.i]? with | some x=>RM.ins aOp { R with fuel:=R.fuel+1 } x | none=>RM.endd { R with fuel:=R.fuel+1 } d.fin):=by show _=_;have:=E.out;rw[Xr G] at this;exact this
 rw[d1]
 clear E d1 G;have S5:=Qc (HS.out.below B5.out);have q8:w5.cell? ⟨b,8,none⟩=some (Iv R.fuel):=Qb S5.out.box 8 _ Yz;have z8:=Qj S5.out.box 8;obtain⟨O,K,T6,c6,f6⟩:=S5.out.fuelC
 have K:=Qc K;have T6:=Qc ((HS.out.stepB B5.out).trans T6);have s:=Qc (Xh c6 f6);have bh:R.fuel<=100000:=by omega
 clear S5 c6 f6 B5;generalize ae:({ R with fuel:=R.fuel+1 }:RM)=q at K U HK;have o:Hid (q.top=R.top/\q.rest=R.rest):=by subst ae;exact⟨Yz,Yz⟩
 clear ae;generalize R.fuel=fu at *;go_upto_region 2 with (go_at_call 111;refine(QaF _ _).mono ?_;rintro e' w' ⟨rfl,hw⟩;have hw:=hw.symm;subst hw)
 generalize w5.setCell ⟨b,8,none⟩ (Iv ((fu:Int)+1))=w6 at K T6 |-;clear q8 z8;have bm:q.rest.length<=39:=HK.out.deep;have CT:=Qc (QgD K.out (by omega));go_upto_region 3 with (go_at_call 112;refine CT.out.mono ?_;rintro e' w7 ⟨rfl,b7⟩)
 have X:=Qc (K.out.below b7);have T7:=Qc (T6.out.trans (K.out.stepB b7));clear b7 CT K T6;obtain⟨bf,o1,fA,e1,E1,ag⟩:=Qfy X.out.mod (by exact z.out.1)
 obtain⟨a9,o2,p,e2,az,a0⟩:=Qd6 ag.blocks (by exact z.out.2)
 have r3:w7.cell? ⟨bf,o1+R.top.f*4+3,none⟩=some (.slice fA.pB fn.blocks.length fA.cB):=E1 3 _ Yz;rw[e2] at r3
 have q1:w7.cell? ⟨b,1,none⟩=some (.slice O.pm m.length O.cm):=Qb X.out.box 1 _ Yz;rw[e1] at q1
 have f0:w7.cell? ⟨O.t.c,0,none⟩=some (Iv R.top.f):=by have:=Qb X.out.top.1 0 _ Yz;rw[o.out.1] at this;exact this
 have f1:w7.cell? ⟨O.t.c,1,none⟩=some (Iv R.top.b):=by have:=Qb X.out.top.1 1 _ Yz;rw[o.out.1] at this;exact this
 have af:(R.top.f:Int)<m.length:=by have:=(Zi z.out.1).1;omega
 have aw:(R.top.b:Int)<fn.blocks.length:=by have:=(Zi z.out.2).1;omega
 have au:=Qc a0;have ah:Hid (w7.rangeAt a9 (o2+R.top.b*12) (Qgg d p).toList):=az;clear E1 ag az a0 e1 e2;refine ws3 q1 f0 f1 r3 ah af aw _ _ Yz (Xg (by kernel_rfl)) Yz Yz ?_;rintro A vs w8 ⟨Z,ay,hZ,aa⟩ T b8;show wpList _ A _ [_] (QM _ vs [26,27,28,29,30,31,32,33,34,35,36,37,38,39,40,41,42,43,3]) w8;simp only[QM,Act.put,List.setIfInBounds_toArray,List.set_cons_zero,List.set_cons_succ,ay,T]
 have BZ:=Qc (QmB aa d p);have B9:=Qc (Qfk hZ (Qgg d p).toList 0 b8);have TH:=Qc (QjK aa Yz d p);have SZ:=Qc (show (prog.info? 86).map (·.size)=some (Qgg d p).size from pSizeB);have ON:=Qc (QmN d p);obtain⟨cs,ac⟩:∃ cs,Qgg d p=cs:=⟨_,Yz⟩
 rw[ac] at BZ B9 TH SZ ON |-
 have EC:=Qc ac;clear ac ay T b8 aa q1 f0 f1 r3 ah af aw;go_upto_region 4 with (refine wpList_store_mid Yz 86 (.tmp 3) (.tmp 43) Yz Z 0 cs Yz Yz TH.out SZ.out ON.out ?_)
 generalize w8.setCells Z 0 cs.toList=D at BZ B9 |-;obtain rfl:=EC.out;have V:=Qc (X.out.below B9.out);have T9:=Qc (T7.out.trans (X.out.stepB B9.out));have y:=Qc (au.out.below B9.out);clear TH SZ ON EC B9 au X T7 hZ;have f2:D.cell? ⟨O.t.c,2,none⟩=some (Iv R.top.i):=by have:=Qb V.out.top.1 2 _ Yz;rw[o.out.1] at this;exact this
 have z2:D.cell? ⟨Z,2,none⟩=some (.slice p.pC d.code.length p.cC):=Qb BZ.out 2 _ Yz;have Ka:Hid (ROk m n q):=HK.out;have aj:=HI.out;by_cases W:R.top.i=d.code.length
 ·have hc:((R.top.i:Int)==(d.code.length:Int))=true:=by simp[W]
  have J:q.endd d.fin=some r:=by have:=U.out;rw[Xk (by omega)] at this;exact this.symm
  go_quiet (fail)
  have a:=Qag (Below.refl D.heap.size D) nq;have Sa:=V.out.below a;have Ta:=Qc (T9.out.trans (V.out.stepB a));have ax:=Blk.below BZ.out a;have CE:=Qc (QkH Sa Ka.out (by have:=HN.out.1;omega) (y.out.below a).fin ab.out.2.fin J)
  have RE:Hid ((D.drewN nq).rangeAt Z 3 (QbW d.fin p.e).toList):=fun j v hj=>by
   have:(Qgg d p)[3+j]?=some v:=by
    rw[<-Array.getElem?_toList,Nat.add_comm]
    exact hj
   exact Qb ax (3+j) v this
  clear W hc U aj a Sa ax f2 z2 V T9 BZ y J;generalize D.drewN nq=wa at *;go_wp2_with (refine wpList_load_mid Yz 84 (.tmp 54) Yz Z 3 Yz (QbW d.fin p.e).toList _ RE.out underlying84 Yz vsizeE ?_)
  refine CE.out.mono ?_;rintro e' wb H;have F:=Qc (QjG.stp Ta.out s.out.1 s.out.2 H);rcases H with ⟨rfl,-⟩|⟨N,k,-,rfl,-⟩
  ·clear CE RE;go_wp2
   exact Xz (v:=.tuple #[]) (by simp[results,results69,go_sem]) Yz F.out
  ·exact⟨Yz,F.out⟩
 have hc:((R.top.i:Int)==(d.code.length:Int))=false:=by simp;omega
 have a5:R.top.i<d.code.length:=by omega
 obtain⟨x,hx⟩:∃ x,d.code[R.top.i]?=some x:=⟨_,Zg a5⟩
 have J:Hid (RM.ins aOp q x=some r):=by show _=_;have:=U.out;rw[hx] at this;exact this.symm
 have an:=ab.out.2.code x (Zm hx);have bn:=ab.out.2.codes;go_quiet (fail)
 have a:=Qag (Below.refl D.heap.size D) nq;have Sa:=Qc (V.out.below a);have Ta:=Qc (T9.out.trans (V.out.stepB a));have ao:=y.out.below a;replace z2:=Qk z2 a;replace f2:=Qk f2 a;clear V T9 BZ y a;generalize D.drewN nq=wa at *;obtain⟨gc,oc,ip,ec,a3,am⟩:=Qib ao.code hx
 rw[ec] at z2
 have ai:Hid (wa.rangeAt gc (oc+R.top.i*8) (Zq x ip).toList):=a3;have aq:=Qc am;have HX:=Qc an;have av:=Qc a5;clear hc W U hx a3 am an aj ec ao;go_upto_region 6 with fail
 refine ws6 z2 f2 ai (by omega) _ _ Yz (Xg (by kernel_rfl)) Yz Yz Yz ?_;rintro A be wb M Q L bb;show wpList _ A _ [_] (QM _ be [57,58,59,60,61,62,63,64,65,66]) wb;simp only[QM,Act.put,List.setIfInBounds_toArray,List.set_cons_zero,List.set_cons_succ,M,Q,L]
 have Sb:=Qc (Sa.out.below bb);have Tb:=Qc (Ta.out.trans (Sa.out.stepB bb));have a1:=Qc (aq.out.below bb);clear M Q L bb z2 f2 ai Sa Ta aq;by_cases u:x.op=14
 ·obtain⟨-,-,al⟩:=QcD HX.out
  obtain⟨a4,bc,a8,ak⟩:=al u
  obtain⟨k,hk⟩:=Xc a4
  obtain⟨xs,ad⟩:∃ xs:List Int,(q.rest.length+1<40->Qaz q.top.v x.args=some xs)/\r=if q.rest.length+1<40 then { q with top:=⟨k,0,0,xs⟩,rest:={ q.top with i:=q.top.i+1 }::q.rest } else q.over 5:=by
   have H:=J.out;unfold RM.ins at H;by_cases h:q.rest.length+1<40
   ·cases hv:Qaz q.top.v x.args with
    | none=>simp[u,h,hv] at H
    | some l =>
      simp[u,h,hv] at H
      refine⟨l,fun _=>rfl,?_⟩
      rw[Xs h,<-H,hk]
      rfl
   ·simp[u,h] at H
    exact⟨[],fun h'=>absurd h' h,by rw[Xr h];exact H.symm⟩
  have CI:=Qc (QmM Sb.out Ka.out (by have:=HN.out.1;omega) ip a1.out ak u hk ad.1);have E4:=Qc ad.2;have ap:q.top.i<=100:=by rw[o.out.1];have:=av.out;omega
  clear hk a4 bc a8 ak al u J ad;go_wp2_with fail
  refine CI.out.mono ?_;rintro e' wc (⟨B,rfl,g',C,h3,h4⟩|⟨B,rfl,C⟩)
  ·have F2:=C.frs;rw[h4] at F2
   have fc:=F2.2.1.1;have y2:wc.cell? ⟨O.t.c,2,none⟩=some (Iv q.top.i):=Qb fc.1 2 _ Yz;have a2:=Qj fc.1 2;obtain⟨g8,S8,T8⟩:=C.next2 h4 Yz
   have Z8:Hid (WGo g w (wc.setCell ⟨O.t.c,2,none⟩ (Iv ((q.top.i:Int)+1))) b most m r):=by
    refine⟨g8,?_,(Tb.out.trans h3).trans T8⟩
    rw[E4.out,Xs B]
    exact S8
   clear CI B C h3 h4 F2 fc S8 T8 E4;generalize q.top.i=ii at *;go_wp2
   exact Xz (v:=.tuple #[]) (by simp[results,results69,go_sem]) Yz (.inl ⟨Yz,Z8.out⟩)
  ·exact⟨Yz,.inr ⟨q,5,by rw[E4.out,Xr B],Yz,WTo.then Tb.out s.out.1 s.out.2 C⟩⟩
 ·have CI:=Qc (QkO Sb.out Ka.out (by have:=HN.out.1;omega) ip a1.out HX.out u J.out);have KI:=Qc (Qjl Ka.out ⟨fn,d,by rw[o.out.1];exact z.out.1,by rw[o.out.1];exact z.out.2,by rw[o.out.1];exact av.out⟩ HM.out HX.out r J.out);clear u J;go_wp2_with fail
  refine CI.out.mono ?_;rintro e' wc (⟨N,B,rfl,g',C,h3,h4,h5⟩|⟨N,kk,B,rfl,h3⟩)
  ·have ap:N.top.i<=100:=by
    obtain⟨-,a7,bd,ba,a6,bj⟩:=KI.out.fr r.top (by simp)
    have bg:=(((Zn HM.out).2 a7 (Zm ba)).blocks bd (Zm a6)).codes
    have:r.top.i=N.top.i+1:=by rw[B];rfl
    omega
   have y2:wc.cell? ⟨g'.t.c,2,none⟩=some (Iv N.top.i):=Qb C.top.1 2 _ Yz;have a2:=Qj C.top.1 2;have NX:=WTo.then (Tb.out.trans h3) (h4.trans s.out.1) (h5.trans s.out.2) C.next
   rw[h4] at y2 a2 NX
   have Z8:Hid (WTo g w (wc.setCell ⟨O.t.c,2,none⟩ (Iv ((N.top.i:Int)+1))) b most m r):=by rw[B];exact NX
   clear CI B C h3 h4 h5 KI NX;generalize N.top.i=ii at *;go_wp2
   exact Xz (v:=.tuple #[]) (by simp[results,results69,go_sem]) Yz (.inl ⟨Yz,Z8.out.go⟩)
  ·exact⟨Yz,.inr ⟨N,kk,B,Yz,WTo.then Tb.out s.out.1 s.out.2 h3⟩⟩
end
section
variable {w w' w2:World}{b most n:Nat}{m:List (MFunc 6)}{R R' r:RM}{g g1:WG}
theorem WAt.endC (S:WAt w b most m R g) (k:Int):WTo g w ((w.setCell ⟨b,9,none⟩ (.bool true)).setCell ⟨b,5,none⟩ (Iv k)) b most m (R.over k):=by
 have c:∀ x,x≠b->((w.setCell ⟨b,9,none⟩ (.bool true)).setCell ⟨b,5,none⟩ (Iv k)).heap[x]?=w.heap[x]?:=fun x a=>by rw[Xd _ _ _ _ a,Xd _ _ _ _ a]
 refine S.reBox (R':=R.over k) Z Z Z (by simp) (fun x a d=>c x d) ⟨Z,Z,Z,Z⟩ (pi:=g.pi) (ci:=g.ci) (vb:=g.vb) ⟨S.inp,S.inpC⟩ S.back ?_;rw[Qh (Qh S.box 9 _) 5 _]
 simp[RM.over]
theorem Qfv {w:World}(X:Nat) :
 CallsD prog 110 #[Qfq X] .returning w fun e u' w'=>e=.returned (.tuple #[])/\u'=.returning/\w'=w:=by
 refine callsD_of_wpS func110 Z fun b c a=>?_;apply wpS_seq
 apply wpS_region
 simp[wpOpsS,go_sem,recoverD,a,ntmps110,Exit.thenS]
 rw[show (#[Qfq X]++((Array.replicate 22 undef).setIfInBounds 3 (Value.nilIface)).setIfInBounds 0 (Value.nilIface):Array Value)=#[Qfq X,Value.nilIface,undef,undef,Value.nilIface,undef,undef,undef,undef,undef,undef,undef,undef,undef,undef,undef,undef,undef,undef,undef,undef,undef,undef] from by kernel_rfl]
 refine wpS_of_wp ?_;go_wp2_with fail
 cases b
 simp_all [bodyPostS,results,results110]
theorem Qhk {w:World}(k:Int) (a:Blk w X #[Pv b 0] 62) (S:WAt w b most m R g) :
 CallsD prog 110 #[Qfq X] (.panicking (QdR k)) w fun e u' w' =>
  e=.returned (.tuple #[])/\u'=.panicking [{ v:=.iface 187 (Iv k),recovered:=true }]/\WTo g w w' b most m (R.over k):=by
 have n:=Qb a 0 _ Yz;have o:w.cell? ⟨b,9,none⟩=some (.bool R.done):=Qb S.box 9 _ Yz;have i:w.cell? ⟨b,5,none⟩=some (Iv R.fin):=Qb S.box 5 _ Yz;have p:=Qj S.box 9;have l:=Qj S.box 5;have Z:=Qc (S.endC k);have c:¬ X=b:=fun e=>Zc a S.box (by decide) e;clear S a;refine callsD_of_wpS func110 Yz fun j h d=>?_;apply wpS_seq
 apply wpS_region
 simp[wpOpsS,go_sem,recoverD,d,ntmps110,Exit.thenS]
 rw[show (#[Qfq X]++((Array.replicate 22 undef).setIfInBounds 3 (Value.iface 187 (Iv k))).setIfInBounds 0 (Value.iface 187 (Iv k)):Array Value)=#[Qfq X,Value.iface 187 (Iv k),undef,undef,Value.iface 187 (Iv k),undef,undef,undef,undef,undef,undef,undef,undef,undef,undef,undef,undef,undef,undef,undef,undef,undef,undef] from by kernel_rfl]
 refine wpS_of_wp ?_;have f:∀ w:World,(Instr.typeAssert (.iface 187 (Iv k)) 20 187 true).run prog w=.ok (.tuple #[Iv k,.bool true]) w:=fun _=>by kernel_rfl
 go_wp2
 exact(show bodyPostS _ _ _ _ _ _ _ _ _ from ⟨Yz,_,Yz,.tuple #[],by simp[results,results110,go_sem],Yz,Yz,Z.out⟩)
theorem wenters_step:Qah 69:=fun _ _=>by kernel_rfl
theorem QeZ (S:WAt w b most m R g) (I:ROk m n R) (y:n<=800000) (o:(modFault m).1=0) (c:R.fuel<=most) (a:most<=100000) (x:RM.step m aOp most R=some r) :
 Calls prog 68 #[Pv b 0,.func (.func 69) #[Pv b 0] #[]] w fun e w'=>e=.returned (.tuple #[])/\WGo g w w' b most m r:=by
 have z:∀ (fn:Fn) (first cap:Array Value) (w:World),(Instr.makeFunc fn first cap).run prog w=.ok (.func fn first cap) w:=fun _ _ _ _=>rfl;have q:=wenters_step;unfold Qah at q;have s:=Qc (ZP w (.cells #[Pv b 0] 62));have D:=Qc (Qe w #[Pv b 0] 62);have B:=Qc (S.below s.out);have p:=Qc (S.stepB s.out);have t:=Qc (Qja B.out I y o c a x);have l:=Qc S.lt;clear S I y o c a x;go_enter_defers func68,ntmps68
 go_wp2_with fail
 refine t.out.mono ?_;rintro O H E;have i:¬ g.A w.heap.size:=fun e=>by have:=l.out _ e;omega
 have h:w.heap.size<(w.alloc (.cells #[Pv b 0] 62)).heap.size:=by simp
 rcases E with ⟨rfl,v⟩|⟨N,k,j,rfl,⟨K,J,u,P,L⟩⟩
 ·have Z:=Qc (WGo.then p.out v);clear v t q;go_wp2
  refine leaves_cons (f:=110) (args:=#[Qfq w.heap.size]) (by simp) (by simp[go_sem]) ?_;refine(Qfv w.heap.size).mono ?_
  rintro F G Q ⟨rfl,rfl,rfl⟩;exact⟨.tuple #[],by simp[results,results68,go_sem],Yz,Z.out⟩
 ·have d:Blk H w.heap.size #[Pv b 0] 62:=(u.block _ h i).trans D.out;show bodyPostD _ _ _ _ _ _;refine leaves_cons (f:=110) (args:=#[Qfq w.heap.size]) (by simp) (by simp[go_sem]) ?_;refine(Qhk k d J).mono ?_
  rintro F G M ⟨rfl,rfl,C⟩;subst j;exact⟨.tuple #[],by simp[results,results68,go_sem],Yz,WGo.then (p.out.trans u) C.go⟩
theorem QiC (S:WAt w b most m R g) (I:ROk m n R) (h:n<=800000) (f:(modFault m).1=0) (d:R.fuel<=most) (a:most<=100000) (c:R.done=false) (k:RM.step m aOp most R=some r) :
 Calls prog 34 #[Pv b 0] w fun e w'=>e=.returned (.tuple #[])/\WGo g w w' b most m r:=by
 have o:∀ (fn:Fn) (first cap:Array Value) (w:World),(Instr.makeFunc fn first cap).run prog w=.ok (.func fn first cap) w:=fun _ _ _ _=>rfl;have i:=Qc (QeZ S I h f d a k);have l:w.cell? ⟨b,9,none⟩=some (.bool R.done):=Qb S.box 9 _ Yz;rw[c] at l
 clear S I h f d a k c;go_enter func34,ntmps34
 go_wp2_with (go_at_call 68;refine i.out.mono ?_;rintro q p ⟨rfl,j⟩;have Z:=Qc j;clear j i)
 exact Xz (v:=.tuple #[]) (by simp[results,results34,go_sem]) Yz ⟨Yz,Z.out⟩
theorem Qg4 (S:WAt w b most m R g) (a:R.done=true) :
 Calls prog 34 #[Pv b 0] w fun e w'=>e=.returned (.tuple #[])/\w'=w:=by
 have c:w.cell? ⟨b,9,none⟩=some (.bool R.done):=Qb S.box 9 _ Z;rw[a] at c
 clear S a;go_enter func34,ntmps34
 go_wp2
 exact Xz (v:=.tuple #[]) (by simp[results,results34,go_sem]) Z ⟨Z,Z⟩
theorem QeN (S:WAt w b most m R g):Calls prog 33 #[Pv b 0] w fun e w'=>e=.returned (.bool R.done)/\w'=w:=by
 have c:w.cell? ⟨b,9,none⟩=some (.bool R.done):=Qb S.box 9 _ Z;clear S;generalize R.done=a at *;go_enter func33,ntmps33
 go_wp2
 go_ret;exact⟨Z,Z⟩
end
section
variable {w w' w2:World}{b most n:Nat}{m:List (MFunc 6)}{M M' N:IM}{sc sa:Int}{g g1:MG}{e:Ending}
abbrev Qbv (c a:Int):Value:=.agg #[Iv c,Iv a]
end
def Qco (w:World) (l:List Int) (e:Ending) (w':World):Prop:=∃ a cap,e=.returned (.slice a l.length cap)/\l.length<=cap/\w'.ownsRow 0 2 1 (.slice a l.length cap) l.length (l.map (Value.int .i64))/\(∀ x,(Value.slice a l.length cap).ownBlock=some x->w.heap.size<=x)/\Below w.heap.size w w'
theorem QkK (h:w.ownsRow 0 2 1 (.slice a l.length cap) l.length (l.map (Value.int .i64))) (c:∀ x∈l,Qnk x) (n:∀ x,(Value.slice a l.length cap).ownBlock=some x->O x):intsL.In w O l [.slice a l.length cap]:=by
 refine⟨a,cap,Z,fun i x b=>?_⟩
 have p:=(Zi b).1;rcases h.2 with ⟨e,r⟩|⟨g,u,m,e,_,d,s,q,t,o⟩
 ·omega
 ·rw[Value.slice.injEq] at e
  obtain⟨rfl,-,rfl⟩:=e
  refine⟨g,0,[Iv x],Z,n g Z,XC d,fun j k=>?_,Z,c x (Zm b)⟩
  have k:j<1:=k
  have:j=0:=by omega
  subst this;show w.cell? ⟨g,0+i*1+0,none⟩=_;rw[XK,XL,Nat.add_zero]
  have f:(l.map (Value.int .i64))[i]?=some (Iv x):=by rw[XS,b];rfl
  rw[<-o,XR,Xs (by omega),Array.getElem?_toList] at f
  exact Qb d _ _ f
theorem Qda (h:∀ i,i<l.length->∃ g o,p=some ⟨g,o,none⟩/\w.cell? ⟨g,o+i,none⟩=some (Iv (l.getD i 0))) (hn:l.length<=1000000) :
 Calls prog 48 #[.slice p l.length c] w fun e w'=>Qco w l e w':=by
 obtain⟨V,W,D,H,B⟩:=iInfo64
 have q:∀ (w:World) (a:Option Addr) (n c E v:Nat),(binOp .eql 25 (.slice a n c) (.slice none E v)).run prog w=.ok (.bool a.isNone) w:=fun w a n c E v=>Lib.run_eql_slice_nil w _ _ a n c E v iUnder64
 cases p with
 | none =>
   have C:l=[]:=by
    cases l with
    | nil=>rfl
    | cons y K =>
      obtain⟨g,o,e,-⟩:=h 0 (by simp)
      cases e
   subst C;clear h;go_enter func48,ntmps48
   go_wp2
   go_ret;exact⟨none,0,Z,Ze,⟨Z,.inl ⟨Z,Z⟩⟩,fun x z=>by simp[Value.ownBlock] at z,Zr⟩
 | some ad =>
   have N:Hid (∀ (j:Nat) (u:Value),(l.map (Value.int .i64))[j]?=some u->(w.alloc (.cells #[] 2)).cell? (ad.add j)=some u):=by
    intro j u t;rw[XS] at t
    obtain⟨y,M,rfl⟩:=Option.map_eq_some_iff.1 t
    have U:=(Zi M).1;obtain⟨g,o,e,hc⟩:=h j U
    cases e
    rw[Addr.add_lit]
    refine Lib.cell?_alloc_some _ ?_;rw[hc]
    simp[List.getD,M]
   have T:Hid (∀ u∈l.map (Value.int .i64),u.oneCell'=true):=by intro u t;obtain⟨x,_,rfl⟩:=List.mem_map.1 t;rfl
   have P:Hid ((l.map (Value.int .i64)).length=l.length*1):=by show _=_;simp
   have d:=Qc (ZP w (.cells #[] 2));have Q:Hid ((w.alloc (.cells #[] 2)).heap.size=w.heap.size+1):=by show _=_;simp
   clear h;generalize r:l.map (Value.int .i64)=K at *;have A:=Qc r;generalize s:l.length=nn at *;have I:=Qc s;clear r s;go_enter func48,ntmps48
   go_wp2_with (at_builtin;refine ZO _ Z _ _ 25 Z 2 V (Iv 0) 1 8 iUnder64 W D H B Z (by decide) _ _ _ Z (World.ownsRow_made w #[] 0 (Xb _) (Xb _) Z) ad nn c K Z P.out N.out T.out (by unfold maxLen;omega) (by omega) ?_)
   intro S J F f L
   have R:Hid (Qco w l (.returned S) J):=by
    have b:J.ownsRow 0 2 1 S l.length (l.map (Value.int .i64)):=by rw[A.out,I.out];simpa using F
    obtain⟨O,G,rfl⟩:=QaR b
    have m:l.length<=G:=by
     rcases b.2 with ⟨e,e0⟩|⟨g,cp,aa,e,_,hh,X,_⟩
     ·rw[Value.slice.injEq] at e;omega
     ·rw[Value.slice.injEq] at e;omega
    refine⟨O,G,Z,m,b,fun x z=>?_,?_⟩
    ·rcases L x z with e | e
     ·simp[Value.ownBlock] at e;omega
     ·have:=Q.out;omega
    ·refine⟨f.os.trans d.out.os,f.tape.trans d.out.tape,f.output.trans d.out.output,Zt d.out.size f.size,fun k hk=>(f.block k (by have:=Q.out;omega) (fun e=>by simp[Value.ownBlock] at e;omega)).trans (d.out.block k hk)⟩
   obtain⟨O,G,rfl⟩:=QaR F
   clear F f L N T P d;go_wp2
   go_ret;exact R.out
theorem Qht (h:intsL.In w Q l [.slice p l.length c]) (a:l.length<=1000000) :
 Calls prog 48 #[.slice p l.length c] w fun e w'=>Qco w l e w' :=
 Qda (fun i d=>by obtain⟨g,o,e,-,-,b⟩:=ZI h d;exact⟨g,o,e,b⟩) a
def QhF (lo:Nat) (l:List Int) (v:Value) (w:World):Prop:=∃ a cap,v=.slice a l.length cap/\l.length<=cap/\w.ownsRow 0 2 1 (.slice a l.length cap) l.length (l.map (Value.int .i64))/\∀ x,(Value.slice a l.length cap).ownBlock=some x->lo<=x
theorem QhF.below {lo:Nat}{w w':World}(h:QhF lo l v w) (b:Below w.heap.size w w'):QhF lo l v w':=by
 obtain⟨a,c,f,i,d,g⟩:=h
 exact⟨a,c,f,i,QY d (fun x e=>b.block x (XC (ZQ d e).choose_spec)),g⟩
section
variable {w w' w2:World}{b most n:Nat}{m:List (MFunc 6)}{M M' N:IM}{sc sa:Int}{g g1:MG}{e:Ending}
theorem QiA {w:World}{a0 f g e:Value}(h:w.heap[R]?=some (.cells #[a0,f,g,e] 44 (0,0))) (a d b c:Value) :
 ((((w.setCell ⟨R,0,none⟩ a).setCell ⟨R,1,none⟩ d).setCell ⟨R,2,none⟩ b).setCell ⟨R,3,none⟩ c).heap[R]?=some (.cells #[a,d,b,c] 44 (0,0)):=by
 have:=Qh (Qh (Qh (Qh h 0 a) 1 d) 2 b) 3 c
 simpa using this
end
end Go.Proofs.YtjhdpajpibdnaafGreat
