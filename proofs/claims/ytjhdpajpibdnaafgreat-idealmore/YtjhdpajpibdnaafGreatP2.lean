import Derived.Test.YtjhdpajpibdnaafGreatP1
import Derived.Maps.OwnSet
import Derived.BigQuiet
import Derived.RegionTactic
import Derived.Deep.Cut
import Derived.Lib.MinMax
import Derived.Laws.CopyRow
import Derived.Laws.CopyOwn
import Derived.Deep.RegionLaw
import Derived.Maps.AppendAt
set_option maxHeartbeats 16000000
set_option maxRecDepth 100000
namespace Go.Proofs.YtjhdpajpibdnaafGreat
open Go.ChangeShapes Go.WideShapes Go.ChangeAt Go.RowKit _root_.Go.Proofs.Tryz
set_option linter.unusedSimpArgs false
set_option linter.unusedVariables false
variable {w w' w6 wc wr w1 w2 w9:World}{b n c k X g m B i N rc ac cm fi bh R bi d j cap most q ca x ci na id f s cR cA rl al G o pages fl fm:Nat}{O A Q O' Q2 OO:Nat→Prop}{v u:Value}{a p ag pm pa pi pR pA ra aa:Option Addr}{t e:TypeId}{l inp:List Int}{P:Program}{xa xb xc xk words fu fr xn pg:Int}{L bs:List Bool}{cs xs ds:List Value}{ops:Array Oper}
theorem Qc {p:Prop}(h:p):Hid p:=h
def vAt (v:Qj):Nat->Value
 | 0=>.int .i64 v.kind
 | 1=>.int .i64 v.region
 | 2=>.int .i64 v.thing
 | _=>.int .i64 v.n
def Zc (l:List Qj) (j:Nat):Value:=vAt (l.getD (j / 4) noV) (j%4)
abbrev QL (v:Qj):Value:=.agg #[.int .i64 v.kind,.int .i64 v.region,.int .i64 v.thing,.int .i64 v.n]
def ZI (w:World) (v:Value) (l:List Qj):Prop :=
 (∃ a c,v=.slice a l.length c)/\(l≠[]->∃ g c,v=.slice (some ⟨g,0,none⟩) l.length c/\w.rowIs g 211 (l.length*4) (Zc l))
def Qcn (v:Value) (t:Qq) (x:Nat):Prop:=t.l≠[]/\v.ownBlock=some x
theorem ZI.keep {w w':World}{t:Qq}(h:ZI w v t.l) (hb:∀ x,Qcn v t x->w'.heap[x]?=w.heap[x]?):ZI w' v t.l:=by
 refine⟨h.1,fun a=>?_⟩
 obtain⟨g,c,e,b⟩:=h.2 a
 exact⟨g,c,e,b.of_block (hb g ⟨a,by rw[e];rfl⟩)⟩
theorem ZI.lt {w:World}{t:Qq}(h:ZI w v t.l)(a:Qcn v t x):x<w.heap.size:=by
 obtain⟨g,c,e,b⟩:=h.2 a.1
 have:g=x:=by have:=a.2;rw[e] at this;simpa[Value.ownBlock] using this
 subst this;exact b.lt
theorem ZI.type {w:World}{t:Qq}(h:ZI w v t.l)(a:Qcn v t x):∃ c,w.heap[x]?=some (.cells c 211 (0,0)):=by
 obtain⟨g,c,e,b⟩:=h.2 a.1
 have:g=x:=by have:=a.2;rw[e] at this;simpa[Value.ownBlock] using this
 subst this;obtain⟨f,d,_⟩:=b;exact⟨f,d⟩
def Z8 (pv:Nat->Value):List Qq->Nat->List Value
 | [],_=>[]
 | t::r,s=>.int .i64 t.knd::pv s::Z8 pv r (s+1)
theorem QgC (pv:Nat->Value):∀ (l:List Qq) (s i:Nat) (t:Qq),l[i]?=some t->(Z8 pv l s)[i*2]?=some (.int .i64 t.knd)/\(Z8 pv l s)[i*2+1]?=some (pv (s+i))
 | [],_,_,_,h=>by simp at h
 | t::r,s,0,u,h=>by simp at h;subst h;simp[Z8]
 | t::r,s,i+1,u,h=>by
   have a:=QgC pv r (s+1) i u (by simpa using h);rw[show (i+1)*2=i*2+2 by omega,show s+(i+1)=s+1+i by omega]
   simpa[Z8] using a
theorem Qd7 (pv:Nat->Value) (t:Qq):∀ (l:List Qq) (s:Nat),Z8 pv (l++[t]) s=Z8 pv l s++[.int .i64 t.knd,pv (s+l.length)]
 | [],s=>rfl
 | u::r,s=>by simp[Z8,Qd7 pv t r,Nat.add_comm,Nat.add_left_comm]
theorem QcF {pv qv:Nat->Value}:∀ (l:List Qq) (s:Nat),(∀ i,i<l.length->pv (s+i)=qv (s+i))->Z8 pv l s=Z8 qv l s
 | [],_,_=>rfl
 | t::r,s,h=>by
   have b:pv s=qv s:=by simpa using h 0 (by simp)
   have c:=QcF (pv:=pv) (qv:=qv) r (s+1) (fun i a=>by have:=h (i+1) (by simpa using a);rwa [show s+(i+1)=s+1+i by omega] at this);simp only[Z8]
   rw[b,c]
theorem Qfj (pv:Nat->Value) (t u:Qq) (e:u.knd=t.knd):∀ (l:List Qq) (s i:Nat),l[i]?=some t->Z8 pv (l.set i u) s=Z8 pv l s
 | [],_,_,h=>by simp at h
 | t'::r,s,0,h=>by simp at h;subst h;simp[Z8,e]
 | t'::r,s,i+1,h=>by simp only[List.set_cons_succ,Z8];rw[Qfj pv t u e r (s+1) i (by simpa using h)]
structure Z1 (w:World) (b k:Nat) (p:Qi) (S:Nat->Prop) (tv:Value) (pv:Nat->Value):Prop where
 box:w.heap[b]?=some (.cells #[.int .i64 k,.int .i64 p.pages,.int .i64 p.used,tv] 261 (0,0))
 row:w.ownsRow 0 294 2 tv p.l.length (Z8 pv p.l 0)
 part:∀ i t,p.l[i]?=some t->ZI w (pv i) t.l
 inj:∀ i j t u x,p.l[i]?=some t->p.l[j]?=some u->Qcn (pv i) t x->Qcn (pv j) u x->i=j
 ob:S b
 ot:∀ x,tv.ownBlock=some x->S x
 op:∀ i t x,p.l[i]?=some t->Qcn (pv i) t x->S x
def Qdp (w:World) (b k:Nat) (p:Qi) (S:Nat->Prop):Prop:=∃ tv pv,Z1 w b k p S tv pv
theorem QJ {w:World}{z:Nat}(h:w.ownsRow 0 e z v n xs)(a:v.ownBlock=some x):∃ c,w.heap[x]?=some (.cells c e (0,0)):=by
 rcases h.2 with ⟨rfl,_⟩|⟨g,f,b,rfl,_,d,_⟩
 ·simp[Value.ownBlock] at a
 ·simp[Value.ownBlock] at a;subst a;exact⟨b,d⟩
theorem QH {w w':World}{z:Nat}(h:w.ownsRow 0 e z v n xs) (hb:∀ x,v.ownBlock=some x->w'.heap[x]?=w.heap[x]?):w'.ownsRow 0 e z v n xs:=by
 refine⟨h.1,?_⟩
 rcases h.2 with f | ⟨g,b,a,rfl,d,c,r⟩
 ·exact .inl f
 ·exact .inr ⟨g,b,a,Z,d,(hb g Z).trans c,r⟩
section
variable {w w':World}{b k:Nat}{p:Qi}{S S':Nat->Prop}{tv:Value}{pv:Nat->Value}
theorem Z1.keep (h:Z1 w b k p S tv pv) (hb:∀ x,S x->x<w.heap.size->w'.heap[x]?=w.heap[x]?):Z1 w' b k p S tv pv :=
 ⟨(hb b h.ob (XC h.box)).trans h.box,QH h.row (fun x a=>hb x (h.ot x a) (XC (QJ h.row a).choose_spec)),fun i t c=>(h.part i t c).keep (fun x a=>hb x (h.op i t x c a) ((h.part i t c).lt a)),h.inj,h.ob,h.ot,h.op⟩
theorem Qdp.keep (h:Qdp w b k p S) (hb:∀ x,S x->x<w.heap.size->w'.heap[x]?=w.heap[x]?):Qdp w' b k p S:=by
 obtain⟨c,a,h⟩:=h
 exact⟨c,a,h.keep hb⟩
end
def pelem:Value->Option (DataW Unit × List MemPlace)
 | .pointer none=>some (.nil,[])
 | .pointer (some ⟨g,0,none⟩)=>some (.lit (.int .i64 g),[])
 | _=>none
theorem QiG {a:List MemPlace}(h:pelem v=some (.lit (.int .i64 (g:Int)),a)):v=.pointer (some ⟨g,0,none⟩):=by
 unfold pelem at h;split at h
 ·simp at h
 ·rename_i b
  simp at h
  obtain⟨h,_⟩:=h
  have:b=g:=by omega
  rw[this]
 ·cases h
theorem QiA {a:List MemPlace}(h:pelem v=some (.nil,a)):v=.pointer none:=by
 unfold pelem at h;split at h
 ·rfl
 ·simp at h
 ·cases h
theorem hKeyed:Maps.Keyed prog 3:=Maps.int_keyed underlying3
theorem Qm4 {x:Int}(h:Zp x):(Lit.int .i64 x).wf=true:=WalkArith.wf_i64 h
abbrev Qg5 (x:Int):Lit:=.int .i64 x
structure HG where
 bm:Nat
 D:DataW Unit
 g:Nat->Nat
 S:Nat->Nat->Prop
structure HIn (w:World) (b:Nat) (O:Nat->Prop) (h:Qd) (G:HG):Prop where
 top:w.heap[b]?=some (.cells #[.int .i64 h.left,.int .i64 h.L.length,.map (some G.bm)] 119 (0,0))
 map:w.ownsMap prog 3 pelem G.bm (Maps.size G.D) G.D
 size:Maps.size G.D=h.live
 has:∀ k,Zp k->Maps.has G.D (Qg5 k)=(h.place k).isSome
 at_:∀ k p,Zp k->h.place k=some p->G.D.atKey (Qg5 k) .nil=.lit (.int .i64 (G.g k.toNat:Int))
 reg:∀ k p,h.L[k]?=some p->p.there=true->Qdp w (G.g k) k p (G.S k)
 dis:∀ j k x,G.S j x->G.S k x->j=k
 ob:O b
 om:O G.bm
 os:∀ k x,G.S k x->O x/\x≠b/\x≠G.bm
 lt:∀ x,O x->x<w.heap.size
def Qd9 (w:World) (b:Nat) (O:Nat->Prop) (h:Qd):Prop:=∃ G,HIn w b O h G
theorem Qae {w w':World}{k:TypeId}{R:Value->Option (DataW Unit × List MemPlace)}{b:Nat}{D:DataW Unit}(h:w.ownsMap P k R b n D) (hb:w'.heap[b]?=w.heap[b]?):w'.ownsMap P k R b n D:=by
 obtain⟨d,c,a,r⟩:=h
 exact⟨d,c,hb.trans a,r⟩
theorem Qbu {w:World}{k:TypeId}{R:Value->Option (DataW Unit × List MemPlace)}{b:Nat}{D:DataW Unit}(h:w.ownsMap P k R b n D):w.ownsMap P k R b (Maps.size D) D:=by
 obtain⟨f,c,e,d,g,a⟩:=h
 exact⟨f,c,e,d,by rw[a];simp[Maps.size,length_sorted],a⟩
section
variable {w w':World}{b:Nat}{O O':Nat->Prop}{h:Qd}{G:HG}
theorem HIn.keep (H:HIn w b O h G) (c:w.heap.size<=w'.heap.size) (hb:∀ x,O x->x<w.heap.size->w'.heap[x]?=w.heap[x]?):HIn w' b O h G :=
 ⟨(hb b H.ob (XC H.top)).trans H.top,Qae H.map (hb _ H.om H.map.lt),H.size,H.has,H.at_,fun k p f d=>(H.reg k p f d).keep (fun x a e=>hb x (H.os k x a).1 e),H.dis,H.ob,H.om,H.os,fun x a=>Zl (H.lt x a) c⟩
theorem HIn.below (H:HIn w b O h G) (hb:Below w.heap.size w w'):HIn w' b O h G:=H.keep hb.size (fun x _ a=>hb.block x a)
theorem HIn.bne (H:HIn w b O h G):b≠G.bm:=by
 intro e;obtain⟨d,c,a,_⟩:=H.map
 have:=H.top
 rw[e,a] at this
 cases this
theorem Qd9.keep (H:Qd9 w b O h) (a:w.heap.size<=w'.heap.size) (hb:∀ x,O x->x<w.heap.size->w'.heap[x]?=w.heap[x]?):Qd9 w' b O h:=by
 obtain⟨G,H⟩:=H
 exact⟨G,H.keep a hb⟩
theorem Qd9.below (H:Qd9 w b O h) (hb:Below w.heap.size w w'):Qd9 w' b O h:=H.keep hb.size (fun x _ a=>hb.block x a)
theorem HIn.drewN (H:HIn w b O h G) (n:Nat):HIn (w.drewN n) b O h G:=H.keep (w':=w.drewN n) Ze (fun _ _ _=>rfl)
theorem HIn.drew (H:HIn w b O h G):HIn w.drew b O h G:=H.keep (w':=w.drew) Ze (fun _ _ _=>rfl)
def hptr (h:Qd) (G:HG) (k:Int):Option Addr:=if (h.place k).isSome then some ⟨G.g k.toNat,0,none⟩ else none
theorem HIn.look (H:HIn w b O h G){k:Int}(c:Zp k):(Instr.lookup 117 (.map (some G.bm)) (.int .i64 k) true).run prog w=.ok (.tuple #[.pointer (hptr h G k),.bool (h.place k).isSome]) w:=by
 obtain⟨v,f,e,a⟩:=H.map.look_ok hKeyed underlying117 (z:=.pointer none) (by kernel_rfl) (zd:=.nil) (zp:=[]) Z (Maps.keyOf_int_mk underlying3 (Qm4 c))
 rw[e,H.has k c]
 have d:=H.has k c;unfold hptr
 cases hp:h.place k with
 | none =>
   rw[hp] at d
   rw[Maps.atKey_of_not_has d] at a
   rw[QiA a];rfl
 | some p =>
   rw[H.at_ k p c hp] at a
   rw[QiG a];rfl
theorem HIn.lookN (H:HIn w b O h G){k:Int}(a:Zp k) (n:Nat):(Instr.lookup 117 (.map (some G.bm)) (.int .i64 k) true).run prog (w.drewN n)=.ok (.tuple #[.pointer (hptr h G k),.bool (h.place k).isSome]) (w.drewN n):=(H.drewN n).look a
end
section
variable {w w':World}{b k:Nat}{p:Qi}{S S':Nat->Prop}{tv:Value}{pv:Nat->Value}
theorem Z1.rowNe (h:Z1 w b k p S tv pv)(d:tv.ownBlock=some x):x≠b:=by
 obtain⟨c,a⟩:=QJ h.row d
 exact QK a h.box (by decide)
theorem Z1.partNe (h:Z1 w b k p S tv pv){t:Qq}(a:p.l[i]?=some t)(d:Qcn (pv i) t x):x≠b:=by
 obtain⟨c,e⟩:=(h.part i t a).type d
 exact QK e h.box (by decide)
theorem Z1.partRow (h:Z1 w b k p S tv pv){t:Qq}(f:p.l[i]?=some t)(g:Qcn (pv i) t x):tv.ownBlock≠some x:=by
 intro e;obtain⟨c,j⟩:=(h.part i t f).type g
 obtain⟨d,a⟩:=QJ h.row e
 exact QK j a (by decide) Z
theorem Z1.nums (h:Z1 w b k p S tv pv) (p':Qi) (c:p'.l=p.l) (hb:w'.heap[b]?=some (.cells #[.int .i64 k,.int .i64 p'.pages,.int .i64 p'.used,tv] 261 (0,0))) (e:∀ x,S x->x≠b->x<w.heap.size->w'.heap[x]?=w.heap[x]?):Z1 w' b k p' S tv pv :=
 ⟨hb,by rw[c];exact QH h.row (fun x a=>e x (h.ot x a) (h.rowNe a) (XC (QJ h.row a).choose_spec)),
  by rw[c];exact fun i t d=>(h.part i t d).keep (fun x a=>e x (h.op i t x d a) (h.partNe d a) ((h.part i t d).lt a)),by rw[c];exact h.inj,h.ob,h.ot,by rw[c];exact h.op⟩
theorem ownBlock_slice :(Value.slice (some ⟨g,0,none⟩) n c).ownBlock=some x↔g=x:=by simp[Value.ownBlock]
theorem Z1.add (h:Z1 w b k p S tv pv){t:Qq}(F:ZI w v t.l) (hn:∀ x,Qcn v t x->¬ S x)
 (H:w1.ownsRow 0 294 2 (.slice (some ⟨g,0,none⟩) (p.l.length+1) c) (p.l.length+1) (Z8 pv p.l 0++[.int .i64 t.knd,v])) (y:w.grownBy w1 tv.ownBlock) (J:tv.ownBlock=some g\/w.heap.size<=g) :
 Z1 (w1.setCell ⟨b,3,none⟩ (.slice (some ⟨g,0,none⟩) (p.l.length+1) c)) b k { p with l:=p.l++[t] } (fun x=>S x\/x=g\/Qcn v t x) (.slice (some ⟨g,0,none⟩) (p.l.length+1) c) (fun i=>if i=p.l.length then v else pv i):=by
 have A:=XC h.box;have E:w1.heap[b]?=some (.cells #[.int .i64 k,.int .i64 p.pages,.int .i64 p.used,tv] 261 (0,0)):=(y.block b A (fun e=>h.rowNe e.symm Z)).trans h.box
 have I:g≠b:=by
  rcases J with e | e
  ·exact h.rowNe e
  ·omega
 have m:∀ x,x≠b->(w1.setCell ⟨b,3,none⟩ (.slice (some ⟨g,0,none⟩) (p.l.length+1) c)).heap[x]?=w1.heap[x]?:=fun x a=>Xd _ _ _ _ a;have C:∀ i u,p.l[i]?=some u->(if i=p.l.length then v else pv i)=pv i:=fun i u f=>Xr (by have:=(Zi f).1;omega)
 have s:∀ i u,(p.l++[t])[i]?=some u->(p.l[i]?=some u/\(if i=p.l.length then v else pv i)=pv i)\/(i=p.l.length/\u=t):=by
  intro i u f;rcases Nat.lt_or_ge i p.l.length with d | d
  ·rw[XP d] at f;exact .inl ⟨f,C i u f⟩
  ·rw[XQ d] at f
   have z:=(Zi f).1
   have:i - p.l.length=0:=by simp at z;omega
   rw[this] at f;simp at f
   exact .inr ⟨by omega,f.symm⟩
 have G:∀ x,Qcn v t x->x≠b/\some x≠tv.ownBlock:=fun x a=>⟨fun e=>hn x a (e ▸ h.ob),fun e=>hn x a (h.ot x e.symm)⟩;refine⟨?_,?_,?_,?_,.inl h.ob,fun x a=>.inr (.inl (ownBlock_slice.1 a).symm),?_⟩
 ·have:=Qh E 3 (.slice (some ⟨g,0,none⟩) (p.l.length+1) c)
  simpa using this
 ·have e:Z8 (fun i=>if i=p.l.length then v else pv i) (p.l++[t]) 0=Z8 pv p.l 0++[.int .i64 t.knd,v]:=by
   rw[Qd7,QcF (qv:=pv) p.l 0 (fun i K=>Xr (by omega))]
   simp
  rw[e]
  have:=QH (w':=w1.setCell ⟨b,3,none⟩ (.slice (some ⟨g,0,none⟩) (p.l.length+1) c)) H (fun x a=>m x (by rw[ownBlock_slice] at a;omega))
  simpa using this
 ·intro i u f;rcases s i u f with ⟨d,o⟩|⟨d,o⟩
  ·rw[o]
   refine(h.part i u d).keep (fun x a=>(m x (h.partNe d a)).trans (y.block x ((h.part i u d).lt a) (fun e=>h.partRow d a e.symm)))
  ·subst o;rw[Xs d];exact F.keep (fun x a=>(m x (G x a).1).trans (y.block x (F.lt a) (G x a).2))
 ·intro i j u D x f B a n;rcases s i u f with ⟨d,o⟩|⟨d,o⟩<;>rcases s j D B with ⟨r,q⟩|⟨r,q⟩
  ·rw[o] at a;rw[q] at n;exact h.inj i j u D x d r a n
  ·rw[o] at a;rw[Xs r,q] at n;exact absurd (h.op i u x d a) (hn x n)
  ·rw[q] at n;rw[Xs d,o] at a;exact absurd (h.op j D x r n) (hn x a)
  ·omega
 ·intro i u x f a;rcases s i u f with ⟨d,o⟩|⟨d,o⟩
  ·rw[o] at a;exact .inl (h.op i u x d a)
  ·rw[Xs d,o] at a;exact .inr (.inr a)
theorem Z1.put (h:Z1 w b k p S tv pv){t:Qq}(m:p.l[i]?=some t)(q:Qcn (pv i) t g){l:List Qj}(v:l.length=t.l.length) (H:w'.rowIs g 211 (l.length*4) (Zc l)) (D:∀ x,S x->x≠g->x<w.heap.size->w'.heap[x]?=w.heap[x]?) :
 Z1 w' b k { p with l:=p.l.set i { t with l:=l } } S tv pv:=by
 have J:=(Zi m).1
 have r:∀ j u,(p.l.set i { t with l:=l })[j]?=some u->(j≠i/\p.l[j]?=some u)\/(j=i/\u={ t with l:=l }):=by
  intro j u f;by_cases e:j=i
  ·subst e;simp[J] at f;exact .inr ⟨Z,f.symm⟩
  ·rw[List.getElem?_set_ne (Ne.symm e)] at f;exact .inl ⟨e,f⟩
 have B:t.l≠[]:=q.1;have K:l≠[]:=fun e=>B (Xf.1 (by rw[<-v,e];rfl));have C:∀ x,Qcn (pv i) { t with l:=l } x->Qcn (pv i) t x:=fun x d=>⟨B,d.2⟩;refine⟨(D b h.ob (Ne.symm (h.partNe m q)) (XC h.box)).trans h.box,?_,?_,?_,h.ob,h.ot,?_⟩
 ·show w'.ownsRow 0 _ 2 tv (p.l.set i _).length (Z8 pv (p.l.set i _) 0);rw[Qfj pv t { t with l:=l } Z p.l 0 i m,List.length_set]
  exact QH h.row (fun x d=>D x (h.ot x d) (fun e=>h.partRow m q (e ▸ d)) (XC (QJ h.row d).choose_spec))
 ·intro j u f;rcases r j u f with ⟨A,n⟩|⟨rfl,rfl⟩
  ·exact(h.part j u n).keep (fun x d=>D x (h.op j u x n d) (fun e=>A (h.inj j i u t x n m d (e ▸ q))) ((h.part j u n).lt d))
  ·obtain⟨⟨a,c,e⟩,-⟩:=h.part j t m
   refine⟨⟨a,c,by rw[e,v]⟩,fun _=>?_⟩
   obtain⟨F,I,G,-⟩:=(h.part j t m).2 B
   have:F=g:=by have:=q.2;rw[G] at this;exact ownBlock_slice.1 this
   subst this;exact⟨F,I,by rw[G,v],H⟩
 ·intro j s u z x f y d o;rcases r j u f with ⟨A,n⟩|⟨rfl,rfl⟩<;>rcases r s z y with ⟨L,E⟩|⟨rfl,rfl⟩
  ·exact h.inj j s u z x n E d o
  ·exact h.inj j _ u t x n m d (C x o)
  ·exact h.inj _ s t z x m E (C x d) o
  ·rfl
 ·intro j u x f d;rcases r j u f with ⟨A,n⟩|⟨rfl,rfl⟩
  ·exact h.op j u x n d
  ·exact h.op j t x m (C x d)
end
section
variable {w w':World}{b:Nat}{O O':Nat->Prop}{h:Qd}{G:HG}
theorem HIn.regTo (H:HIn w b O h G){k:Nat}{p p':Qi}(y:h.L[k]?=some p) (D:p.there=true) (r:p'.there=true){m:Nat->Prop}(K:Qdp w' (G.g k) k p' m) (v:∀ x,m x->x<w'.heap.size) (t:QE (G.S k) m w w') :
 HIn w' b (fun x=>O x\/m x) { h with L:=h.L.set k p' } { G with S:=fun j=>if j=k then m else G.S j }:=by
 have F:=(Zi y).1;have l:∀ x,m x->G.S k x\/w.heap.size<=x:=t.own;have d:∀ x,¬ G.S k x->x<w.heap.size->w'.heap[x]?=w.heap[x]?:=fun x c C=>t.block x C c
 have E:∀ j:Int,(Qd.place { h with L:=h.L.set k p' } j).isSome=(h.place j).isSome:=by
  intro j;rw[Qd.place_set F]
  by_cases e:j=k
  ·subst e;rw[Xs Z,Xs r,Qd.place_of y D];rfl
  ·rw[Xr e]
 refine⟨?_,Qae H.map (d _ (fun e=>(H.os k _ e).2.2 Z) H.map.lt),?_,?_,?_,?_,?_,.inl H.ob,.inl H.om,?_,?_⟩
 ·rw[d b (fun e=>(H.os k _ e).2.1 Z) (XC H.top),H.top];simp
 ·have:=Qd.live_set (h:=h) (q:=p') y h.left
  rw[D,r] at this
  rw[H.size]
  simpa using this.symm
 ·intro j a;rw[H.has j a,E j]
 ·intro j q a u
  have:(h.place j).isSome=true:=by rw[<-E j,u];rfl
  obtain⟨J,A⟩:=Option.isSome_iff_exists.1 this
  exact H.at_ j J a A
 ·intro j q a u;by_cases e:j=k
  ·subst e
   have:q=p':=by simpa[F] using a.symm
   subst this;simpa using K
  ·simp only[e,if_false]
   have B:h.L[j]?=some q:=by simpa[List.getElem?_set_ne (Ne.symm e)] using a
   exact(H.reg j q B u).keep (fun x o I=>d x (fun z=>e (H.dis j k x o z)) I)
 ·intro i j x f a;by_cases s:i=k<;>by_cases n:j=k
  ·rw[s,n]
  ·simp only[s,if_pos,n,if_false] at f a
   rcases l x f with c | c
   ·exact absurd (H.dis k j x c a).symm n
   ·have:=H.lt x (H.os j x a).1;omega
  ·simp only[s,if_pos,n,if_false] at f a
   rcases l x a with c | c
   ·exact absurd (H.dis i k x f c) s
   ·have:=H.lt x (H.os i x f).1;omega
  ·simp only[s,n,if_false] at f a
   exact H.dis i j x f a
 ·intro j x a;by_cases e:j=k
  ·simp only[e,if_pos] at a
   rcases l x a with c | c
   ·exact⟨.inl (H.os k x c).1,(H.os k x c).2⟩
   ·have C:=XC H.top;have M:=H.map.lt;exact⟨.inr a,by omega,by show x≠G.bm;omega⟩
  ·simp only[e,if_false] at a
   exact⟨.inl (H.os j x a).1,(H.os j x a).2⟩
 ·rintro x (o | o)
  ·exact Zl (H.lt x o) t.size
  ·exact v x o
theorem HIn.toLeft (H:HIn w b O h G) (n:Nat):HIn (w.setCell ⟨b,0,none⟩ (.int .i64 n)) b O { h with left:=n } G:=by
 have c:∀ x,x≠b->(w.setCell ⟨b,0,none⟩ (.int .i64 n)).heap[x]?=w.heap[x]?:=fun x a=>Xd _ _ _ _ a;refine⟨?_,Qae H.map (c _ (Ne.symm H.bne)),H.size,H.has,H.at_,fun k p e d=>(H.reg k p e d).keep (fun x a _=>c x (H.os k x a).2.1),H.dis,H.ob,H.om,H.os,fun x a=>by simpa using H.lt x a⟩
 have:=Qh H.top 0 (.int .i64 n)
 simpa using this
theorem HIn.gone (H:HIn w b O h G){k:Nat}{p:Qi}(o:h.L[k]?=some p) (A:p.there=true) (g:Zp k)(E:w1.ownsMap prog 3 pelem G.bm n (G.D.del (Qg5 k))) (C:w.mapTurned w1 G.bm) :
 HIn w1 b O { h with L:=h.L.set k noP } { G with D:=G.D.del (Qg5 k),S:=fun j x=>j≠k/\G.S j x }:=by
 have v:=(Zi o).1;have y:=C.grown;have c:∀ x,x≠G.bm->x<w.heap.size->w1.heap[x]?=w.heap[x]?:=fun x m l=>y.block x l (fun e=>m (by simpa using e));have z:∀ j:Int,j≠k->Qg5 j≠Qg5 (k:Int):=fun j a e=>a (by cases e;rfl);refine⟨?_,Qbu E,?_,?_,?_,?_,fun i j x s a=>H.dis i j x s.2 a.2,H.ob,H.om,fun j x a=>H.os j x a.2,fun x f=>Zl (H.lt x f) y.size⟩
 ·rw[c b H.bne (XC H.top),H.top];simp
 ·have m:=Maps.size_del (k:=Qg5 (k:Int)) (H.map.tidy hKeyed);have l:=Qd.live_set (h:=h) (q:=noP) o h.left;rw[H.has k g,Qd.place_of o A,H.size] at m
  rw[A] at l
  simp[noP] at m l |-
  omega
 ·intro j a;rw[Qd.place_set v]
  by_cases e:j=k
  ·subst e;rw[Maps.has_del_same,Xs Z];rfl
  ·rw[Xr e,Maps.has_del_other (z j e),H.has j a]
 ·intro j q a d;rw[Qd.place_set v] at d
  by_cases e:j=k
  ·subst e;simp[noP] at d
  ·rw[Xr e] at d
   rw[Maps.atKey_del_other (z j e)];exact H.at_ j q a d
 ·intro j q a d;by_cases e:j=k
  ·subst e
   have:q=noP:=by simpa[v] using a.symm
   subst this;cases d
  ·have u:h.L[j]?=some q:=by simpa[List.getElem?_set_ne (Ne.symm e)] using a
   have R:=(H.reg j q u d).keep (w':=w1) (fun x f B=>c x (H.os j x f).2.2 B);obtain⟨I,F,r⟩:=R
   exact⟨I,F,r.box,r.row,r.part,r.inj,⟨e,r.ob⟩,fun x f=>⟨e,r.ot x f⟩,fun i t x s f=>⟨e,r.op i t x s f⟩⟩
theorem HIn.more (H:HIn w b O h G) (o:Zp h.L.length)(T:w.heap.size<=g) (s:w1.heap[g]?=some (.cells #[.int .i64 h.L.length,.int .i64 0,.int .i64 0,.slice none 0 0] 261 (0,0)))
 (I:w1.ownsMap prog 3 pelem G.bm n (G.D.put (Qg5 h.L.length) (.lit (.int .i64 (g:Int))))) (E:∀ x,x<w.heap.size->x≠G.bm->w1.heap[x]?=w.heap[x]?) (Q:w.heap.size<=w1.heap.size) :
 HIn (w1.setCell ⟨b,1,none⟩ (.int .i64 (h.L.length+1:Nat))) b (fun x=>O x\/x=g) { h with L:=h.L++[newP] } { G with D:=G.D.put (Qg5 h.L.length) (.lit (.int .i64 (g:Int))),g:=fun j=>if j=h.L.length then g else G.g j,S:=fun j x=>if j=h.L.length then x=g else j<h.L.length/\G.S j x }:=by
 have A:∀ x,x≠b->(w1.setCell ⟨b,1,none⟩ (.int .i64 (h.L.length+1:Nat))).heap[x]?=w1.heap[x]?:=fun x c=>Xd _ _ _ _ c;have B:=XC H.top;have K:=H.map.lt;have l:h.place h.L.length=none:=by rw[Qd.place_nat];simp
 have C:∀ j:Int,j≠h.L.length->Qg5 j≠Qg5 (h.L.length:Int):=fun j a e=>a (by cases e;rfl);have p:WideAt.IsKeyLit (Qg5 (h.L.length:Int)):=hKeyed.key (Maps.keyOf_int_mk underlying3 (Qm4 o));refine⟨?_,Qbu (Qae I (A _ (Ne.symm H.bne))),?_,?_,?_,?_,?_,.inl H.ob,.inl H.om,?_,?_⟩
 ·have y:w1.heap[b]?=_:=(E b B H.bne).trans H.top
  have:=Qh y 1 (.int .i64 (h.L.length+1:Nat))
  simpa using this
 ·have y:=Maps.size_put (k:=Qg5 (h.L.length:Int)) (H.map.tidy hKeyed) (.lit (.int .i64 (g:Int)));rw[H.has _ o,l,H.size] at y
  show Maps.size (G.D.put (Qg5 (h.L.length:Int)) (.lit (.int .i64 (g:Int))))=_;rw[y,Qd.live_push]
  rfl
 ·intro j a;rw[Qd.place_push]
  by_cases e:j=h.L.length
  ·subst e;rw[Maps.has_put_same H.map.isMap p,Xs Z];rfl
  ·rw[Xr e,Maps.has_put_other (C j e),H.has j a]
 ·intro j q a m;rw[Qd.place_push] at m
  by_cases e:j=h.L.length
  ·subst e;show (G.D.put _ _).atKey _ _=_;rw[Maps.atKey_put_same H.map.isMap p];simp
  ·rw[Xr e] at m
   show (G.D.put _ _).atKey _ _=_;have U:=(Qd.place_some m).1;have P:¬ j.toNat=h.L.length:=by omega
   rw[Maps.atKey_put_other (C j e),H.at_ j q a m]
   simp only[P,if_false]
 ·intro j q a m;by_cases e:j=h.L.length
  ·subst e
   have:q=newP:=by simpa using a.symm
   subst this;simp only[if_pos]
   refine⟨.slice none 0 0,fun _=>.slice none 0 0,?_,⟨Z,.inl ⟨Z,Z⟩⟩,fun i t J=>by simp[newP] at J,fun i j t u x d=>by simp[newP] at d,Z,fun x c=>by simp[Value.ownBlock] at c,fun i t x d=>by simp[newP] at d⟩
   rw[A g (by omega)];exact s
  ·have f:j<h.L.length:=by have:=(Zi a).1;simp at this;omega
   rw[XP f] at a
   simp only[e,if_false]
   have R:=(H.reg j q a m).keep (w':=w1.setCell ⟨b,1,none⟩ (.int .i64 (h.L.length+1:Nat))) (fun x c F=>(A x (H.os j x c).2.1).trans (E x F (H.os j x c).2.2));obtain⟨N,M,r⟩:=R
   exact⟨N,M,r.box,r.row,r.part,r.inj,⟨f,r.ob⟩,fun x c=>⟨f,r.ot x c⟩,fun i t x d c=>⟨f,r.op i t x d c⟩⟩
 ·intro i j x d a;by_cases z:i=h.L.length<;>by_cases v:j=h.L.length
  ·rw[z,v]
  ·simp only[z,if_pos,v,if_false] at d a
   have:=H.lt x (H.os j x a.2).1;omega
  ·simp only[z,if_pos,v,if_false] at d a
   have:=H.lt x (H.os i x d.2).1;omega
  ·simp only[z,v,if_false] at d a
   exact H.dis i j x d.2 a.2
 ·intro j x a;by_cases e:j=h.L.length
  ·simp only[e,if_pos] at a
   exact⟨.inr a,by omega,by show x≠G.bm;omega⟩
  ·simp only[e,if_false] at a
   exact⟨.inl (H.os j x a.2).1,(H.os j x a.2).2⟩
 ·rintro x (c | c)
  ·have:=H.lt x c;simp;omega
  ·subst c;have:=XC s;simpa using this
end
theorem Xt:type_of% @decide_eq_true:=@decide_eq_true
theorem Xu:type_of% @decide_eq_false:=@decide_eq_false
theorem Xy:type_of% @bodyPost_ret:=@bodyPost_ret
theorem QW (w:World) (o:Obj):Below w.heap.size w (w.alloc o):=(Below.refl _ w).alloc Ze _
theorem Qag (h:Below B w w1) (n:Nat):Below B w (w1.drewN n):=⟨h.os,h.tape,h.output,h.size,h.block⟩
theorem Qak (w:World) (o a:Obj):Below w.heap.size w ((w.alloc o).alloc a):=(QW w o).alloc (by simp) _
theorem QhC (w:World) (c:Array Value) (t:TypeId) (a:Obj):((w.alloc (.cells c t)).alloc a).heap[w.heap.size]?=some (.cells c t (0,0)):=by
 rw[Below.heap_alloc _ _ _ (by simp)];exact Qf w c t
theorem Qb7 (w:World) (o:Obj) (c:Array Value) (t:TypeId):((w.alloc o).alloc (.cells c t)).heap[w.heap.size+1]?=some (.cells c t (0,0)):=by
 have:=Qf (w.alloc o) c t
 simpa using this
theorem ZY {a0 e k g:Value}(h:w.heap[R]?=some (.cells #[a0,e,k,g] 211 (0,0))) (b d a c:Int) :
 ((((w.setCell ⟨R,0,none⟩ (Iv b)).setCell ⟨R,1,none⟩ (Iv d)).setCell ⟨R,2,none⟩ (Iv a)).setCell ⟨R,3,none⟩ (Iv c)).heap[R]?=some (.cells #[Iv b,Iv d,Iv a,Iv c] 211 (0,0)):=by
 have j:=Qh h 0 (Iv b);have f:=Qh j 1 (Iv d);have l:=Qh f 2 (Iv a);have i:=Qh l 3 (Iv c);simpa using i
theorem Qby (a:k≠R) (c e b d:Int):((((w.setCell ⟨R,0,none⟩ (Iv c)).setCell ⟨R,1,none⟩ (Iv e)).setCell ⟨R,2,none⟩ (Iv b)).setCell ⟨R,3,none⟩ (Iv d)).heap[k]?=w.heap[k]?:=by
 rw[Xd _ _ _ _ a,Xd _ _ _ _ a,Xd _ _ _ _ a,Xd _ _ _ _ a]
theorem QbF {b:World}(h:Below B b w) (a:B<=R) (d f c e:Int):Below B b ((((w.setCell ⟨R,0,none⟩ (Iv d)).setCell ⟨R,1,none⟩ (Iv f)).setCell ⟨R,2,none⟩ (Iv c)).setCell ⟨R,3,none⟩ (Iv e)) :=
 (((h.setCell (p:=⟨R,0,none⟩) a _).setCell (p:=⟨R,1,none⟩) a _).setCell (p:=⟨R,2,none⟩) a _).setCell (p:=⟨R,3,none⟩) a _
theorem QeB {a:World}(h:QE O O' a w) (i:a.heap.size<=R) (c e b d:Int):QE O O' a ((((w.setCell ⟨R,0,none⟩ (Iv c)).setCell ⟨R,1,none⟩ (Iv e)).setCell ⟨R,2,none⟩ (Iv b)).setCell ⟨R,3,none⟩ (Iv d)) :=
 ⟨h.os,h.tape,h.output,by simpa using h.size,fun k f g=>(Qby (by omega) c e b d).trans (h.block k f g),h.own⟩
theorem Qi3 (v:Qj):v.bare.kind=v.kind:=by
 unfold Qj.bare;split
 ·rename_i h;exact h.symm
 ·split
  ·rename_i h;exact h.symm
  ·split<;>rfl
theorem QjB (w:World) (a b n:Int):Calls prog 233 #[.agg #[Iv 1,Iv a,Iv b,Iv n]] w fun e w'=>e=.returned (.agg #[Iv 1,Iv 0,Iv 0,Iv n])/\Below w.heap.size w w':=by
 go_enter func233,ntmps233
 go_wp2
 exact Xy (v:=.agg #[Iv 1,Iv 0,Iv 0,Iv n]) (by simp[results,results233,go_sem]) Z ⟨Z,Qak _ _ _⟩
theorem Qjw (w:World) (a b n:Int):Calls prog 233 #[.agg #[Iv 2,Iv a,Iv b,Iv n]] w fun e w'=>e=.returned (.agg #[Iv 2,Iv a,Iv 0,Iv 0])/\Below w.heap.size w w':=by
 go_enter func233,ntmps233
 go_wp2
 exact Xy (v:=.agg #[Iv 2,Iv a,Iv 0,Iv 0]) (by simp[results,results233,go_sem]) Z ⟨Z,Qak _ _ _⟩
theorem Qia (w:World) (a b n:Int):Calls prog 233 #[.agg #[Iv 3,Iv a,Iv b,Iv n]] w fun e w'=>e=.returned (.agg #[Iv 3,Iv a,Iv b,Iv 0])/\Below w.heap.size w w':=by
 go_enter func233,ntmps233
 go_wp2
 exact Xy (v:=.agg #[Iv 3,Iv a,Iv b,Iv 0]) (by simp[results,results233,go_sem]) Z ⟨Z,Qak _ _ _⟩
theorem QiE (w:World) (a b n:Int):Calls prog 233 #[.agg #[Iv 4,Iv a,Iv b,Iv n]] w fun e w'=>e=.returned (.agg #[Iv 4,Iv a,Iv b,Iv 0])/\Below w.heap.size w w':=by
 go_enter func233,ntmps233
 go_wp2
 exact Xy (v:=.agg #[Iv 4,Iv a,Iv b,Iv 0]) (by simp[results,results233,go_sem]) Z ⟨Z,Qak _ _ _⟩
theorem Qjr (w:World) (a b c n:Int) (g:(a==1)=false) (d:(a==2)=false) (h:(a==3)=false) (f:(a==4)=false):Calls prog 233 #[.agg #[Iv a,Iv b,Iv c,Iv n]] w fun e w'=>e=.returned (.agg #[Iv a,Iv 0,Iv 0,Iv 0])/\Below w.heap.size w w':=by
 go_enter func233,ntmps233
 go_wp2
 exact Xy (v:=.agg #[Iv a,Iv 0,Iv 0,Iv 0]) (by simp[results,results233,go_sem]) Z ⟨Z,Qak _ _ _⟩
theorem Qfz (w:World) (v:Qj):Calls prog 233 #[QL v] w fun e w'=>e=.returned (QL v.bare)/\Below w.heap.size w w':=by
 obtain⟨a,b,c,n⟩:=v
 by_cases g:a=1
 ·subst g;exact QjB w b c n
 by_cases d:a=2
 ·subst d;exact Qjw w b c n
 by_cases h:a=3
 ·subst h;exact Qia w b c n
 by_cases f:a=4
 ·subst f;exact QiE w b c n
 have:=Qjr w a b c n (by simpa using g) (by simpa using d) (by simpa using h) (by simpa using f)
 rw[show Qj.bare ⟨a,b,c,n⟩=⟨a,0,0,0⟩ by unfold Qj.bare;simp[g,d,h,f]]
 exact this
theorem Qdi (w:World) (a:Option Addr) (n c:Nat) (k:Int) (hn:n<=4611686018427387904):Calls prog 236 #[.slice a n c,Iv k] w fun e w'=>e=.returned (.bool (decide (0<=k)&&decide (k<(n:Int))))/\w'=w:=by
 by_cases d:0<=k
 ·have b:decide (0<=k)=true:=Xt d;have f:decide (k>=0)=true:=Xt d;rw[b]
  clear d;go_enter func236,ntmps236
  go_wp2
  go_ret;simp
 ·have b:decide (0<=k)=false:=Xu d;have f:decide (k>=0)=false:=Xu d;rw[b]
  clear d;go_enter func236,ntmps236
  go_wp2
  go_ret;simp
theorem QmR (h:Qd) (v:Qj):(h.at v).isSome=((h.place v.region).isSome&&(v.kind==2)):=by
 unfold Qd.at;by_cases e:v.kind=2
 ·rw[Xs e,e];simp
 ·rw[Xr e];simp[e]
theorem QaE {h:Qd}{G:HG}(H:HIn w b O h G) (v:Qj) (k:v.ok) :
 Calls prog 196 #[Pv b 0,QL v] w fun e w'=>e=.returned (.tuple #[.pointer (hptr h G v.region),.bool (h.at v).isSome])/\Below w.heap.size w w':=by
 have f:=Qc (QW w (.cells #[Iv v.kind,Iv v.region,Iv v.thing,Iv v.n] 211));have c:=Qc (Qf w #[Iv v.kind,Iv v.region,Iv v.thing,Iv v.n] 211);have g:=H.below f.out;have d:=g.lookN k.2.1;have j:=Qa g.top 2 _ Z;rw[QmR h v]
 clear H g k;obtain⟨l,i,m,n⟩:=v
 simp only at *
 generalize hptr h G i=a at d |-;generalize (h.place i).isSome=ok at d |-;generalize G.bm=q at d j;go_enter func196,ntmps196
 go_upto_region 1 with fail
 generalize w.alloc (.cells #[Iv l,Iv i,Iv m,Iv n] 211)=o at f c d j |-;generalize w.heap.size=X at c |-;have p:=Qa c.out 0 _ Z;have r:=Qa c.out 1 _ Z;go_quiet (fail)
 go_wp2
 cases ok with
 | true =>
   go_quiet (fail)
   go_wp2
   go_ret2;exact⟨by simp,Qag (Qag f.out _) _⟩
 | false =>
   go_quiet (fail)
   go_wp2
   go_ret2;exact⟨by simp,Qag (Qag f.out _) _⟩
theorem Qk5 {a:Addr}{o:Obj}(h:w.cell? a=some v):((w.drewN m).alloc o).cell? a=some v:=by
 have c:a.block<w.heap.size:=by
  rcases Nat.lt_or_ge a.block w.heap.size with b | b
  ·exact b
  ·simp[World.cell?,Array.getElem?_eq_none b] at h
 rw[<-h]
 exact XU (w:=w) (Below.heap_alloc (w.drewN m) o _ c)
theorem QkP (h:Below B w w1):Below B w w1.drew:=⟨h.os,h.tape,h.output,h.size,h.block⟩
theorem QcW {a:Addr}{o:Obj}(h:w.cell? a=some v):(w.alloc o).cell? a=some v:=Qk5 (m:=0) h
theorem Ql5 {l:List Qq}{pv:Nat->Value}{t:Qq}(h:w.ownsRow 0 294 2 (.slice (some ⟨g,0,none⟩) n c) l.length (Z8 pv l 0)) (f:l[i]?=some t) :
 w.cell? ⟨g,i*2,none⟩=some (Iv t.knd)/\w.cell? ⟨g,i*2+1,none⟩=some (pv i):=by
 have o:=(Zi f).1;obtain⟨b,a⟩:=QgC pv l 0 i t f
 rw[XK] at a
 rcases h.2 with ⟨e,-⟩|⟨p,k,j,e,-,d,-,-,-,m⟩
 ·cases e
 ·cases e
  rw[<-m] at b a
  rw[XR,Xs (by omega)] at b a
  exact⟨Qa d _ _ (by simpa using b),Qa d _ _ (by simpa using a)⟩
theorem QfR {h:Qd}{G:HG}(H:HIn w b O h G) (i c j n:Int) (d:Zp c) (o:h.place c=none) :
 Calls prog 235 #[Pv b 0,.agg #[Iv i,Iv c,Iv j,Iv n]] w fun e w'=>e=.returned (.tuple #[Nv,.bool false])/\Below w.heap.size w w':=by
 have l:=Qc (QW w (.cells #[Iv i,Iv c,Iv j,Iv n] 211));have f:=Qc (Qf w #[Iv i,Iv c,Iv j,Iv n] 211);have k:=H.below l.out;have g:=k.lookN d;have m:=Qa k.top 2 _ Z;rw[o] at g
 clear H k d o;generalize hptr h G c=a at g |-;simp only[Option.isSome_none] at g
 generalize G.bm=s at g m;go_enter func235,ntmps235
 go_upto_region 1 with fail
 generalize w.alloc (.cells #[Iv i,Iv c,Iv j,Iv n] 211)=q at l f g m |-;generalize w.heap.size=X at f |-;have r:=Qa f.out 0 _ Z;have t:=Qa f.out 1 _ Z;have p:=Qa f.out 2 _ Z;go_quiet (fail)
 go_wp2
 go_quiet (fail)
 go_wp2
 go_ret2;exact⟨Z,Qag (Qag l.out _) _⟩
theorem Qhy {h:Qd}{G:HG}(H:HIn w b O h G) (o d i n:Int) (j:Zp d){p:Qi}(s:h.place d=some p) (q:i<0) (A:p.l.length<=4611686018427387904){y:Value}{pv:Nat->Value}(R:Z1 w (G.g d.toNat) d.toNat p (G.S d.toNat) y pv) :
 Calls prog 235 #[Pv b 0,.agg #[Iv o,Iv d,Iv i,Iv n]] w fun e w'=>e=.returned (.tuple #[Nv,.bool false])/\Below w.heap.size w w':=by
 have m:=Qc (QW w (.cells #[Iv o,Iv d,Iv i,Iv n] 211));have k:=Qc (Qf w #[Iv o,Iv d,Iv i,Iv n] 211);have r:=H.below m.out;have f:=r.lookN j;have v:=Qa r.top 2 _ Z;have t:=R.keep (fun x _ D=>m.out.block x D)
 obtain⟨E,I,rfl⟩:∃ a c,y=.slice a p.l.length c:=by
  rcases R.row.2 with ⟨e,C⟩|⟨g,B,z,e,_⟩
  ·exact⟨none,0,by rw[e,C]⟩
  ·exact⟨_,_,e⟩
 have u:=Qa t.box 3 _ Z;unfold hptr at f;rw[s] at f
 clear H r j s R t;simp only[Option.isSome_some,if_true] at f
 generalize G.bm=F at f v;generalize G.g d.toNat=P at f u;generalize p.l.length=N at *;have M:decide (i<0)=true:=Xt q;go_enter func235,ntmps235
 go_upto_region 1 with fail
 generalize w.alloc (.cells #[Iv o,Iv d,Iv i,Iv n] 211)=K at m k f v u |-;generalize w.heap.size=X at k |-;have L:=Qa k.out 0 _ Z;have Q:=Qa k.out 1 _ Z;have J:=Qa k.out 2 _ Z;go_quiet (fail)
 go_wp2
 go_quiet (fail)
 go_wp2
 go_ret2;exact⟨Z,Qag (Qag m.out _) _⟩
theorem QhG {h:Qd}{G:HG}(H:HIn w b O h G) (o d f n:Int) (j:Zp d){p:Qi}(s:h.place d=some p) (q:(p.l.length:Int)<=f) (B:p.l.length<=4611686018427387904){y:Value}{pv:Nat->Value}(R:Z1 w (G.g d.toNat) d.toNat p (G.S d.toNat) y pv) :
 Calls prog 235 #[Pv b 0,.agg #[Iv o,Iv d,Iv f,Iv n]] w fun e w'=>e=.returned (.tuple #[Nv,.bool false])/\Below w.heap.size w w':=by
 have m:=Qc (QW w (.cells #[Iv o,Iv d,Iv f,Iv n] 211));have k:=Qc (Qf w #[Iv o,Iv d,Iv f,Iv n] 211);have r:=H.below m.out;have i:=r.lookN j;have v:=Qa r.top 2 _ Z;have t:=R.keep (fun x _ F=>m.out.block x F)
 obtain⟨I,K,rfl⟩:∃ a c,y=.slice a p.l.length c:=by
  rcases R.row.2 with ⟨e,E⟩|⟨g,D,z,e,_⟩
  ·exact⟨none,0,by rw[e,E]⟩
  ·exact⟨_,_,e⟩
 have u:=Qa t.box 3 _ Z;unfold hptr at i;rw[s] at i
 clear H r j s R t;simp only[Option.isSome_some,if_true] at i
 generalize G.bm=J at i v;generalize G.g d.toNat=Q at i u;generalize p.l.length=C at *;have P:decide (f<0)=false:=Xu (by omega);have A:decide (f>=(C:Int))=true:=Xt q;go_enter func235,ntmps235
 go_upto_region 1 with fail
 generalize w.alloc (.cells #[Iv o,Iv d,Iv f,Iv n] 211)=M at m k i v u |-;generalize w.heap.size=X at k |-;have N:=Qa k.out 0 _ Z;have T:=Qa k.out 1 _ Z;have L:=Qa k.out 2 _ Z;go_quiet (fail)
 go_wp2
 go_quiet (fail)
 go_wp2
 go_ret2;exact⟨Z,Qag (Qag m.out _) _⟩
theorem Qgj {h:Qd}{G:HG}(H:HIn w b O h G) (u f n:Int) (i:Nat) (q:Zp f){p:Qi}(hp:h.place f=some p){t:Qq}(D:p.l[i]?=some t) (ad:p.l.length<=4611686018427387904){tv:Value}{pv:Nat->Value}(R:Z1 w (G.g f.toNat) f.toNat p (G.S f.toNat) tv pv) :
 Calls prog 235 #[Pv b 0,.agg #[Iv u,Iv f,Iv (i:Int),Iv n]] w fun e w'=>e=.returned (.tuple #[pv i,.bool (t.knd==u)])/\Below w.heap.size w w':=by
 have r:=Qc (QW w (.cells #[Iv u,Iv f,Iv (i:Int),Iv n] 211));have k:=Qc (Qf w #[Iv u,Iv f,Iv (i:Int),Iv n] 211);have K:=H.below r.out;have j:=K.lookN q;have Q:=Qa K.top 2 _ Z;have L:=R.keep (fun x _ hx=>r.out.block x hx);have hi:=(Zi D).1
 obtain⟨tg,tc,rfl⟩:∃ g c,tv=.slice (some ⟨g,0,none⟩) p.l.length c:=by
  rcases R.row.2 with ⟨e,e0⟩|⟨g,ae,ab,e,_⟩
  ·omega
  ·exact⟨_,_,e⟩
 obtain⟨M,F⟩:=Ql5 L.row D
 obtain⟨y,C,z,s⟩:∃ a n c,pv i=.slice a n c:=by
  obtain⟨⟨a,c,e⟩,-⟩:=R.part i t D
  exact⟨a,_,c,e⟩
 rw[s] at F |-
 have A:=Qa L.box 3 _ Z;unfold hptr at j;rw[hp] at j
 clear H K q hp R L D s;simp only[Option.isSome_some,if_true] at j
 generalize G.bm=bm at j Q;generalize G.g f.toNat=gk at j A;generalize p.l.length=tn at *;generalize t.knd=B at *;have hd:decide ((i:Int)<0)=false:=Xu (by omega);have ac:decide ((i:Int)>=(tn:Int))=false:=Xu (by omega);go_enter func235,ntmps235
 go_upto_region 1 with fail
 generalize w.alloc (.cells #[Iv u,Iv f,Iv (i:Int),Iv n] 211)=m at r k j Q A M F |-;generalize w.heap.size=X at k |-;have x0:=Qa k.out 0 _ Z;have x1:=Qa k.out 1 _ Z;have x2:=Qa k.out 2 _ Z;go_quiet (fail)
 go_wp2
 revert nq
 intro d;go_quiet (fail)
 go_wp2_with fail
 have v:=Qc (Qag (Qag r.out d) nq);have W:((m.drewN d).drewN nq).cell? ⟨X,0,none⟩=_:=x0;have y2:((m.drewN d).drewN nq).cell? ⟨X,2,none⟩=_:=x2;have s3:((m.drewN d).drewN nq).cell? ⟨gk,3,none⟩=_:=A;have U:((m.drewN d).drewN nq).cell? ⟨tg,i*2,none⟩=_:=M;have I:((m.drewN d).drewN nq).cell? ⟨tg,i*2+1,none⟩=_:=F;generalize (m.drewN d).drewN nq=P at v W y2 s3 U I |-;clear x0 x1 x2 A M F j Q k r;have J:=QcW (o:=.cells #[Iv 0,Nv] 294) y2;have aa:=QcW (o:=.cells #[Iv 0,Nv] 294) s3;have V:=QcW (o:=.cells #[Iv 0,Nv] 294) U;have N:=QcW (o:=.cells #[Iv 0,Nv] 294) I;have E:=Qc (Qf P #[Iv B,.slice y C z] 294);have B3:=Qc ((v.out.alloc v.out.size (.cells #[Iv B,.slice y C z] 294)));have T:=QcW (o:=.cells #[Iv B,.slice y C z] 294) W;go_region;go_wp2_with fail
 generalize P.alloc (.cells #[Iv B,.slice y C z] 294)=w3 at E B3 T |-;generalize P.heap.size=Y at E |-;have n0:=Qa E.out 0 _ Z;have n1:=Qa E.out 1 _ Z;clear v W y2 s3 U I J aa V N;go_quiet (fail)
 go_wp2
 go_ret2;exact⟨Z,Qag (QkP B3.out) _⟩
def Qgt (w:World) (h:Qd) (G:HG) (v:Qj) (a:Option Addr) (n c:Nat):Prop :=
 ∀ t,h.thing v=some t->n=t.l.length/\∃ p tv pv,0<=v.thing/\h.place v.region=some p/\p.l[v.thing.toNat]?=some t/\Z1 w (G.g v.region.toNat) v.region.toNat p (G.S v.region.toNat) tv pv/\pv v.thing.toNat=.slice a n c
theorem QmW (t:Qq) (a:Int):(t.knd==a)=(decide (a=3\/a=4)&&(t.arr==decide (a=4))):=by
 unfold Qq.knd;by_cases b:a=3
 ·subst b;cases t.arr<;>rfl
 ·by_cases c:a=4
  ·subst c;cases t.arr<;>rfl
  ·cases t.arr<;>simp[b,c]<;>omega
theorem Qcg {h:Qd}{G:HG}(H:HIn w b O h G) (v:Qj) (x:v.ok) (C:∀ (k:Nat) (p:Qi),h.L[k]?=some p->p.l.length<=4611686018427387904) :
 Calls prog 235 #[Pv b 0,QL v] w fun e w'=>(∃ a n c,e=.returned (.tuple #[.slice a n c,.bool (h.thing v).isSome])/\Qgt w h G v a n c)/\Below w.heap.size w w':=by
 obtain⟨g,o,m,n⟩:=v
 have A:∀ (B:h.thing ⟨g,o,m,n⟩=none) (e:Ending) (w':World),(e=.returned (.tuple #[Nv,.bool false])/\Below w.heap.size w w')->(∃ a n' c,e=.returned (.tuple #[.slice a n' c,.bool (h.thing ⟨g,o,m,n⟩).isSome])/\Qgt w h G ⟨g,o,m,n⟩ a n' c)/\Below w.heap.size w w':=by
  rintro B e w' ⟨rfl,z⟩;exact⟨⟨none,0,0,by rw[B];rfl,fun t q=>by rw[B] at q;cases q⟩,z⟩
 cases hp:h.place o with
 | none=>exact(QfR H g o m n x.2.1 hp).mono (A (by unfold Qd.thing;simp[hp]))
 | some p =>
   obtain⟨Q,E,K⟩:=Qd.place_some hp
   obtain⟨N,M,R⟩:=H.reg _ p E K
   have j:=C _ p E;by_cases d:m<0
   ·exact(Qhy H g o m n x.2.1 hp d j R).mono (A (by unfold Qd.thing;simp[hp,d]))
   by_cases r:(p.l.length:Int)<=m
   ·exact(QhG H g o m n x.2.1 hp r j R).mono (A (by unfold Qd.thing;simp[hp,d,List.getElem?_eq_none (show p.l.length<=m.toNat by omega)]))
   obtain⟨i,rfl⟩:=Xc (show 0<=m by omega)
   obtain⟨t,q⟩:∃ t,p.l[i]?=some t:=⟨_,Zg (show i<p.l.length by omega)⟩
   obtain⟨⟨I,J,s⟩,-⟩:=R.part i t q
   refine(Qgj H g o n i x.2.1 hp q j R).mono ?_
   rintro e w' ⟨rfl,z⟩
   have F:(h.thing ⟨g,o,(i:Int),n⟩).isSome=(t.knd==g):=by
    rw[QmW]
    unfold Qd.thing;simp only[hp,Int.toNat_natCast,q,if_neg d]
    by_cases y:g=3\/g=4
    ·rw[Xs y,Xt y]
     by_cases u:t.arr=decide (g=4)
     ·rw[Xs u,u];simp
     ·have D:(t.arr==decide (g=4))=false:=beq_false_of_ne u;rw[Xr u,D];rfl
    ·rw[Xr y,Xu y];rfl
   refine⟨⟨I,t.l.length,J,by rw[F,s],fun P f=>?_⟩,z⟩
   have:P=t:=by
    unfold Qd.thing at f;simp only[hp,Int.toNat_natCast,q,if_neg d] at f
    split at f
    ·split at f
     ·cases f;rfl
     ·cases f
    ·cases f
   subst this;exact⟨Z,p,N,M,Int.natCast_nonneg i,hp,by simpa using q,R,by simpa using s⟩
theorem Qj8 {h:Qd}{G:HG}(H:HIn w b O h G) (v:Qj) (s:v.ok) (f:∀ (k:Nat) (p:Qi),h.L[k]?=some p->p.l.length<=4611686018427387904) :
 Calls prog 203 #[Pv b 0,QL v] w fun e w'=>e=.returned (.tuple #[Iv (h.len v).1,Iv (h.len v).2])/\Below w.heap.size w w':=by
 have g:=Qc (QW w (.cells #[Iv v.kind,Iv v.region,Iv v.thing,Iv v.n] 211));have d:=Qc (Qf w #[Iv v.kind,Iv v.region,Iv v.thing,Iv v.n] 211);have C:=Qc (Qcg (H.below g.out) v s f);have E:=Qc (show h.len v=match h.thing v with | none=>(0,20) | some t=>(t.l.length,0) from Z);clear H s f;generalize j:h.len v=y at E |-;clear j;go_enter func203,ntmps203
 go_upto_region 1 with fail
 generalize w.alloc (.cells #[Iv v.kind,Iv v.region,Iv v.thing,Iv v.n] 211)=B at g d C |-;have i:=g;generalize w.heap.size=X at d |-;have r:=Qa d.out 0 _ Z;have x:=Qa d.out 1 _ Z;have q:=Qa d.out 2 _ Z;have u:=Qa d.out 3 _ Z;go_wp2_with fail
 refine C.out.mono ?_;rintro e D ⟨⟨a,n,c,rfl,P⟩,m⟩;have z:=Qc (i.out.trans (m.mono i.out.size))
 cases ht:h.thing v with
 | none =>
   have o:Hid (y=(0,20)):=by show _=_;rw[E.out,ht]
   simp only[Option.isSome_none]
   clear E C P ht r x q u d g i m;go_wp2
   go_ret2;exact⟨by rw[o.out];rfl,z.out⟩
 | some t =>
   have A:=(P t ht).1;have o:Hid (y=((n:Int),0)):=by show _=_;rw[E.out,ht,A]
   simp only[Option.isSome_some]
   clear E C P ht r x q u d g i m A;go_wp2
   go_ret2;exact⟨by rw[o.out];rfl,z.out⟩
theorem QgS {l:List Qj}{x:Qj}(a:l[k]?=some x) (b:j<4):Zc l (k*4+j)=vAt x j:=by
 unfold Zc;rw[show (k*4+j) / 4=k by omega,show (k*4+j)%4=j by omega]
 simp[List.getD,a]
theorem Qan {l:List Qj}(h:w.rowIs g 211 (l.length*4) (Zc l)){x:Qj}(a:l[k]?=some x):w.cell? ⟨g,k*4,none⟩=some (Iv x.kind)/\w.cell? ⟨g,k*4+1,none⟩=some (Iv x.region)/\w.cell? ⟨g,k*4+2,none⟩=some (Iv x.thing)/\w.cell? ⟨g,k*4+3,none⟩=some (Iv x.n):=by
 have d:=(Zi a).1;have c:∀ j,j<4->w.cell? ⟨g,k*4+j,none⟩=some (vAt x j):=fun j b=>by rw[<-QgS a b];exact h.cell (by omega)
 exact⟨c 0 (by omega),c 1 (by omega),c 2 (by omega),c 3 (by omega)⟩
theorem QkA {h:Qd}{G:HG}(H:HIn w b O h G) (v:Qj) (hv:v.ok) (k:Int) (Q:∀ (k:Nat) (p:Qi),h.L[k]?=some p->p.l.length<=4611686018427387904) (J:∀ t,h.thing v=some t->t.l.length<=4611686018427387904) :
 Calls prog 201 #[Pv b 0,QL v,Iv k] w fun e w'=>e=.returned (.tuple #[QL (h.get v k).1,Iv (h.get v k).2])/\Below w.heap.size w w':=by
 have D:=Qc (Qak w (.cells #[Iv v.kind,Iv v.region,Iv v.thing,Iv v.n] 211) (.cells #[Iv 0,Iv 0,Iv 0,Iv 0] 211));have o:=Qc (QhC w #[Iv v.kind,Iv v.region,Iv v.thing,Iv v.n] 211 (.cells #[Iv 0,Iv 0,Iv 0,Iv 0] 211));have m:=Qc (Qb7 w (.cells #[Iv v.kind,Iv v.region,Iv v.thing,Iv v.n] 211) #[Iv 0,Iv 0,Iv 0,Iv 0] 211);have W:=Qc (H.below D.out);have C:=Qc (Qcg W.out v hv Q);have E:=Qc (show h.get v k=match h.thing v with | none=>(noV,20) | some t=>if k<0 then (noV,1) else match t.l[k.toNat]? with | none=>(noV,1) | some x=>(x,0) from Z);have HT:=Qc J;clear H hv Q J;generalize ab:h.get v k=lv at E |-;clear ab;go_enter func201,ntmps201
 go_upto_region 1 with fail
 generalize (w.alloc (.cells #[Iv v.kind,Iv v.region,Iv v.thing,Iv v.n] 211)).alloc (.cells #[Iv 0,Iv 0,Iv 0,Iv 0] 211)=w1 at D o m C W |-;obtain⟨X,hX⟩:∃ X,X=w.heap.size:=⟨_,Z⟩
 obtain⟨R,hR⟩:∃ R,R=X+1:=⟨_,Z⟩
 have HR:Hid (w.heap.size<=R):=by show _<=_;omega
 rw[<-hX] at o m |-
 rw[<-hR] at m |-
 clear hX hR;have z:=Qa o.out 0 _ Z;have A:=Qa o.out 1 _ Z;have u:=Qa o.out 2 _ Z;have y:=Qa o.out 3 _ Z;go_wp2_with fail
 refine C.out.mono ?_;rintro e q ⟨⟨a,n,c,rfl,P⟩,F⟩;have BL:=Qc (D.out.trans (F.mono D.out.size));have d:=Qc ((F.block R (XC m.out)).trans m.out);clear z A u y C o D;have r0:=Qa d.out 0 _ Z;have r1:=Qa d.out 1 _ Z;have r2:=Qa d.out 2 _ Z;have r3:=Qa d.out 3 _ Z;have f0:=Qe d.out 0;have f1:=Qe d.out 1;have f2:=Qe d.out 2;have f3:=Qe d.out 3;have r:Hid (∀ z A u y:Int,Below w.heap.size w ((((q.setCell ⟨R,0,none⟩ (Iv z)).setCell ⟨R,1,none⟩ (Iv A)).setCell ⟨R,2,none⟩ (Iv u)).setCell ⟨R,3,none⟩ (Iv y))/\((((q.setCell ⟨R,0,none⟩ (Iv z)).setCell ⟨R,1,none⟩ (Iv A)).setCell ⟨R,2,none⟩ (Iv u)).setCell ⟨R,3,none⟩ (Iv y)).heap[R]?=some (.cells #[Iv z,Iv A,Iv u,Iv y] 211 (0,0))):=fun z A u y=>⟨QbF BL.out HR.out _ _ _ _,ZY d.out _ _ _ _⟩
 cases ht:h.thing v with
 | none =>
   have K:Hid (lv=(noV,20)):=by show _=_;rw[E.out,ht]
   simp only[Option.isSome_none]
   clear E P ht F m d BL HR W HT;go_wp2
   have f:=r.out 0 0 0 0;generalize ((((q.setCell ⟨R,0,none⟩ (Iv 0)).setCell ⟨R,1,none⟩ (Iv 0)).setCell ⟨R,2,none⟩ (Iv 0)).setCell ⟨R,3,none⟩ (Iv 0))=M at f |-;have S:=Qa f.2 0 _ Z;have s:=Qa f.2 1 _ Z;have B:=Qa f.2 2 _ Z;have I:=Qa f.2 3 _ Z;exact Xy (v:=.tuple #[.agg #[Iv 0,Iv 0,Iv 0,Iv 0],Iv 20]) (by simp[results,results201,go_sem,S,s,B,I]) Z ⟨by rw[K.out]<;>rfl,f.1⟩
 | some t =>
   obtain⟨hn,p,tv,pv,h0,hp,hi,RI,hs⟩:=P t ht
   have V:=RI.keep (w':=q) (fun x _ U=>F.block x U);have aa:n<=4611686018427387904:=by rw[hn];exact HT.out t ht
   have CP:=Qc (fun wx=>Qdi wx a n c k aa);have E1:Hid (lv=(if k<0 then (noV,1) else match t.l[k.toNat]? with | none=>(noV,1) | some x=>(x,0):Qj × Int)):=by show _=_;rw[E.out,ht]
   have PA:Hid (ZI q (.slice a n c) t.l):=by show ZI _ _ _;rw[<-hs];exact V.part _ t hi
   have HN:=Qc hn;simp only[Option.isSome_some]
   clear E P ht F m d BL HR W HT RI V hs hi hp h0 hn;by_cases T:0<=k/\k<(n:Int)
   ·have N:(decide (0<=k)&&decide (k<(n:Int)))=true:=by simp[T.1,T.2]
    rw[N] at CP
    clear N;obtain⟨kn,rfl⟩:=Xc T.1
    have i:kn<t.l.length:=by rw[<-HN.out];omega
    obtain⟨x,U⟩:∃ x,t.l[kn]?=some x:=⟨_,Zg i⟩
    have K:Hid (lv=(x,0)):=by show _=_;rw[E1.out,Xr (by omega),XT,U]
    obtain⟨g,c',e',hr⟩:=PA.out.2 (fun e=>by rw[e] at i;simp at i)
    simp only[Value.slice.injEq] at e'
    obtain⟨rfl,s,rfl⟩:=e'
    obtain⟨q0,q1,q2,q3⟩:=Qan hr U
    have ac:kn<n:=by omega
    have ad:(kn:Int)<n:=by omega
    clear T i hr U E1 PA HN s;obtain⟨xk,xr,xt,xn⟩:=x
    simp only at q0 q1 q2 q3
    go_wp2_with (go_at_call 236;refine(CP.out _).mono ?_;rintro e w' ⟨rfl,j⟩;have j:=j.symm;subst j)
    have f:=r.out xk xr xt xn;generalize ((((q.setCell ⟨R,0,none⟩ (Iv xk)).setCell ⟨R,1,none⟩ (Iv xr)).setCell ⟨R,2,none⟩ (Iv xt)).setCell ⟨R,3,none⟩ (Iv xn))=M at f |-;have S:=Qa f.2 0 _ Z;have s:=Qa f.2 1 _ Z;have B:=Qa f.2 2 _ Z;have I:=Qa f.2 3 _ Z;exact Xy (v:=.tuple #[.agg #[Iv xk,Iv xr,Iv xt,Iv xn],Iv 0]) (by simp[results,results201,go_sem,S,s,B,I]) Z ⟨by rw[K.out]<;>rfl,f.1⟩
   ·have N:(decide (0<=k)&&decide (k<(n:Int)))=false:=by
     by_cases h1:0<=k
     ·rw[Xu (show ¬ k<(n:Int) by omega)];simp
     ·rw[Xu h1];rfl
    rw[N] at CP
    have K:Hid (lv=(noV,1)):=by
     show _=_;rw[E1.out]
     by_cases h1:k<0
     ·rw[Xs h1]
     ·rw[Xr h1,Xk (by rw[<-HN.out];omega)]
    clear T N E1 PA HN;go_wp2_with (go_at_call 236;refine(CP.out _).mono ?_;rintro e w' ⟨rfl,j⟩;have j:=j.symm;subst j)
    have f:=r.out 0 0 0 0;generalize ((((q.setCell ⟨R,0,none⟩ (Iv 0)).setCell ⟨R,1,none⟩ (Iv 0)).setCell ⟨R,2,none⟩ (Iv 0)).setCell ⟨R,3,none⟩ (Iv 0))=M at f |-;have S:=Qa f.2 0 _ Z;have s:=Qa f.2 1 _ Z;have B:=Qa f.2 2 _ Z;have I:=Qa f.2 3 _ Z;exact Xy (v:=.tuple #[.agg #[Iv 0,Iv 0,Iv 0,Iv 0],Iv 1]) (by simp[results,results201,go_sem,S,s,B,I]) Z ⟨by rw[K.out]<;>rfl,f.1⟩
theorem Xv:type_of% @of_decide_eq_true:=@of_decide_eq_true
theorem HIn.regSame {h:Qd}{G:HG}(H:HIn w b O h G){p p':Qi}(f:h.L[k]?=some p) (i:p.there=true) (a:p'.there=true) (l:Qdp w' (G.g k) k p' (G.S k)) (c:QE (G.S k) (G.S k) w w') :
 HIn w' b O { h with L:=h.L.set k p' } G:=by
 have R:=H.regTo f i a l (fun x d=>Zl (H.lt x (H.os k x d).1) c.size) c;have m:(fun x=>O x\/G.S k x)=O:=funext fun x=>propext ⟨fun h=>h.elim id (fun h=>(H.os k x h).1),Or.inl⟩
 have n:({ G with S:=fun j=>if j=k then G.S k else G.S j }:HG)=G:=by
  have:(fun j=>if j=k then G.S k else G.S j)=G.S:=funext fun j=>by
   by_cases e:j=k
   ·rw[Xs e,e]
   ·rw[Xr e]
  rw[this]
 rwa [m,n] at R
theorem Qdh {l:List Qj}(h:w.rowIs g 211 (l.length*4) (Zc l))(n:k<l.length) (b d a c:Int) :
 ((((w.setCell ⟨g,k*4,none⟩ (Iv b)).setCell ⟨g,k*4+1,none⟩ (Iv d)).setCell ⟨g,k*4+2,none⟩ (Iv a)).setCell ⟨g,k*4+3,none⟩ (Iv c)).rowIs g 211 ((l.set k ⟨b,d,a,c⟩).length*4) (Zc (l.set k ⟨b,d,a,c⟩)):=by
 rw[List.length_set]
 refine((((h.set (k*4) (Iv b)).set (k*4+1) (Iv d)).set (k*4+2) (Iv a)).set (k*4+3) (Iv c)).congr fun i p=>?_
 by_cases e:i / 4=k
 ·have m:(l.set k ⟨b,d,a,c⟩)[k]?=some ⟨b,d,a,c⟩:=by simp[n]
  obtain⟨j,f,rfl⟩:∃ j,j<4/\i=k*4+j:=⟨i%4,by omega,by omega⟩
  rw[QgS m f]
  match j,f with
  | 0,_=>simp[vAt]
  | 1,_=>simp[vAt]
  | 2,_=>simp[vAt]
  | 3,_=>simp[vAt]
  | j+4,f=>omega
 ·rw[Xr (by omega),Xr (by omega),Xr (by omega),Xr (by omega)]
  unfold Zc;simp[List.getD,List.getElem?_set_ne (show k≠i / 4 from fun o=>e o.symm)]
theorem Qhn (hi:i≠g) (b a d c:Int):((((w.setCell ⟨g,k*4,none⟩ (Iv b)).setCell ⟨g,k*4+1,none⟩ (Iv a)).setCell ⟨g,k*4+2,none⟩ (Iv d)).setCell ⟨g,k*4+3,none⟩ (Iv c)).heap[i]?=w.heap[i]?:=by
 rw[Xd _ _ _ _ hi,Xd _ _ _ _ hi,Xd _ _ _ _ hi,Xd _ _ _ _ hi]
theorem QfV {h:Qd}{v:Qj}{t:Qq}(a:h.thing v=some t):v.kind=t.knd/\(v.kind=3\/v.kind=4)/\(t.arr=decide (v.kind=4)):=by
 unfold Qd.thing at a;split at a
 ·rename_i b
  split at a
  ·cases a
  ·split at a
   ·cases a
   ·split at a
    ·cases a
    ·split at a
     ·rename_i c
      cases a
      refine⟨?_,b,c⟩
      unfold Qq.knd;rw[c]
      rcases b with e | e<;>rw[e]<;>rfl
     ·cases a
 ·cases a
theorem QjU {h:Qd}{G:HG}(H:HIn w b O h G) (v:Qj) (hv:v.ok) (k:Int) (x:Qj) (af:∀ (k:Nat) (p:Qi),h.L[k]?=some p→p.l.length≤4611686018427387904) (aa:∀ t,h.thing v=some t→t.l.length≤4611686018427387904) :
 Calls prog 202 #[Pv b 0,QL v,Iv k,QL x] w fun e w'=>e=.returned (Iv (h.set v k x.bare).1)∧HIn w' b O (h.set v k x.bare).2 G∧QE O O w w':=by
 have B0:=Qc (Qak w (.cells #[Iv v.kind,Iv v.region,Iv v.thing,Iv v.n] 211) (.cells #[Iv x.kind,Iv x.region,Iv x.thing,Iv x.n] 211));have J:=Qc (QhC w #[Iv v.kind,Iv v.region,Iv v.thing,Iv v.n] 211 (.cells #[Iv x.kind,Iv x.region,Iv x.thing,Iv x.n] 211));have BR:=Qc (Qb7 w (.cells #[Iv v.kind,Iv v.region,Iv v.thing,Iv v.n] 211) #[Iv x.kind,Iv x.region,Iv x.thing,Iv x.n] 211);have H1:=Qc (H.below B0.out);have H0:=Qc H;have C:=Qc (Qcg H1.out v hv af);have HT:=Qc aa;clear H hv af aa;go_enter func202,ntmps202
 go_upto_region 1 with fail
 generalize ((w.alloc (.cells #[Iv v.kind,Iv v.region,Iv v.thing,Iv v.n] 211)).alloc (.cells #[Iv x.kind,Iv x.region,Iv x.thing,Iv x.n] 211))=w1 at B0 J BR C H1 ⊢;obtain⟨X,hX⟩:∃ X,X=w.heap.size:=⟨_,Z⟩
 obtain⟨R,hR⟩:∃ R,R=X+1:=⟨_,Z⟩
 rw[← hX] at J BR ⊢
 rw[← hR] at BR ⊢
 clear hX hR;have x0:=Qa J.out 0 _ Z;have x1:=Qa J.out 1 _ Z;have x2:=Qa J.out 2 _ Z;have x3:=Qa J.out 3 _ Z;go_wp2_with fail
 refine C.out.mono ?_;rintro e w2 ⟨⟨a,n,c,rfl,P⟩,T⟩;have BL:=Qc (B0.out.trans (T.mono B0.out.size));have r:=Qc ((T.block X (XC J.out)).trans J.out);have j:=Qc ((T.block R (XC BR.out)).trans BR.out);have N:Hid (HIn w2 b O h G∧QE O O w w2):=⟨H1.out.below T,QE.of_below BL.out (fun k F=>.inl F)⟩;clear x0 x1 x2 x3 C J BR B0;have x0:=Qa r.out 0 _ Z;have r0:=Qa j.out 0 _ Z;have r1:=Qa j.out 1 _ Z;have r2:=Qa j.out 2 _ Z;have r3:=Qa j.out 3 _ Z
 cases ht:h.thing v with
 | none =>
   have E:Hid (h.set v k x.bare=(20,h)):=by show _=_;unfold Qd.set;rw[ht]
   simp only[Option.isSome_none]
   clear ht P T H1 HT r j;go_wp2
   go_ret;rw[E.out]
   exact⟨Z,N.out⟩
 | some t =>
   obtain⟨hn,p,tv,pv,h0,hp,hi,RI,hs⟩:=P t ht
   have W:=Qc (RI.keep (w':=w2) (fun x _ u=>T.block x u));have ag:n≤4611686018427387904:=by rw[hn];exact HT.out t ht
   have CP:=Qc (fun wx=>Qdi wx a n c k ag);have CB:=Qc (fun wx=>Qfz wx x);obtain⟨ab,ae,I⟩:=QfV ht
   have E:Hid (h.set v k x.bare=if t.arr=true∧x.kind≠1 then (20,h) else if k<0∨n≤k.toNat then (1,h) else (0,{ h with L:=h.L.set v.region.toNat { p with l:=p.l.set v.thing.toNat { t with l:=t.l.set k.toNat x.bare } } })):=by
    show _=_;unfold Qd.set;rw[ht,hp,Qi3,hn]
   have HP:=Qc hp;have HI:=Qc hi;have HS:=Qc hs;have HN:=Qc hn;clear ht P T H1 HT RI hp hi hs hn;simp only[Option.isSome_some]
   -- x may not stand in an array
   by_cases Q:t.arr=true∧x.kind≠1
   ·have ad:v.kind=4:=by
     have:=I;rw[Q.1] at this;exact Xv this.symm
    rw[Xs Q] at E
    rw[ad] at x0
    have aj:(x.kind != 1)=true:=by simpa using Q.2
    clear ab ae I Q ad r j;go_wp2
    go_ret;rw[E.out]
    exact⟨Z,N.out⟩
   rw[Xr Q] at E
   -- what the guard comes to
   have gd:Hid ((v.kind==4)=false∨((v.kind==4)=true∧(x.kind != 1)=false)):=by
    by_cases h4:v.kind=4
    ·right
     refine⟨by simpa using h4,?_⟩
     have:t.arr=true:=by rw[I];simpa using h4
     have:x.kind=1:=Classical.byContradiction fun e=>Q ⟨this,e⟩
     simpa using this
    ·left;simpa using h4
   clear Q ab ae I;by_cases F:0≤k∧k<(n:Int)
   ·have hd:(decide (0≤k)&&decide (k<(n:Int)))=true:=by simp[F.1,F.2]
    rw[hd] at CP
    clear hd;obtain⟨d,rfl⟩:=Xc F.1
    have K:d<t.l.length:=by rw[← HN.out];omega
    rw[Xr (by omega),XT] at E
    have PA:ZI w2 (.slice a n c) t.l:=by rw[← HS.out];exact W.out.part _ t HI.out
    have V:t.l≠[]:=fun e=>by rw[e] at K;simp at K
    obtain⟨g,c',e',hr⟩:=PA.2 V
    simp only[Value.slice.injEq] at e'
    obtain⟨rfl,e1,rfl⟩:=e'
    have HG:Hid (Qcn (pv v.thing.toNat) t g):=⟨V,by rw[HS.out];rfl⟩;have ai:d<n:=by omega
    have ah:(d:Int)<n:=by omega
    have HR:=Qc hr;have HK:=Qc K
    have HM:Hid (∀ f:World,Below w2.heap.size w2 f→(∀ B A s o:Int,x.bare=⟨B,A,s,o⟩→HIn ((((f.setCell ⟨g,d*4,none⟩ (Iv B)).setCell ⟨g,d*4+1,none⟩ (Iv A)).setCell ⟨g,d*4+2,none⟩ (Iv s)).setCell ⟨g,d*4+3,none⟩ (Iv o)) b O (h.set v (d:Int) x.bare).2 G∧QE O O w ((((f.setCell ⟨g,d*4,none⟩ (Iv B)).setCell ⟨g,d*4+1,none⟩ (Iv A)).setCell ⟨g,d*4+2,none⟩ (Iv s)).setCell ⟨g,d*4+3,none⟩ (Iv o)))∧(∃ z:Qj,f.cell? ⟨g,d*4,none⟩=some (Iv z.kind)∧f.cell? ⟨g,d*4+1,none⟩=some (Iv z.region)∧f.cell? ⟨g,d*4+2,none⟩=some (Iv z.thing)∧f.cell? ⟨g,d*4+3,none⟩=some (Iv z.n))∧(∀ i,f.frozen? ⟨g,i,none⟩=false)):=by
     intro f D;have U:f.rowIs g 211 (t.l.length*4) (Zc t.l):=HR.out.of_block (D.block g HR.out.lt);refine⟨fun B A s o hy=>?_,⟨_,Qan U (Zg HK.out)⟩,U.frozen⟩
     obtain⟨q1,q2,q3⟩:=Qd.place_some HP.out
     have ac:=W.out.keep (fun x _ u=>D.block x u);have H3:=N.out.1.below D;have gS:G.S v.region.toNat g:=ac.op _ t g HI.out HG.out;have st:QE (G.S v.region.toNat) (G.S v.region.toNat) f ((((f.setCell ⟨g,d*4,none⟩ (Iv B)).setCell ⟨g,d*4+1,none⟩ (Iv A)).setCell ⟨g,d*4+2,none⟩ (Iv s)).setCell ⟨g,d*4+3,none⟩ (Iv o)):=(((QE.refl _ f).setCell (p:=⟨g,d*4,none⟩) gS _).setCell (p:=⟨g,d*4+1,none⟩) gS _).setCell (p:=⟨g,d*4+2,none⟩) gS _ |>.setCell (p:=⟨g,d*4+3,none⟩) gS _
     refine⟨?_,(N.out.2.trans (QE.of_below D (fun k F=>.inl F))).trans ((st.mono (P:=O) (fun x u=>(H3.os _ x u).1)).sub (P:=G.S v.region.toNat) (fun x u=>u) |> fun q=>⟨q.os,q.tape,q.output,q.size,q.block,fun x u=>.inl u⟩)⟩
     rw[E.out,hy]
     refine H3.regSame q2 q3 q3 ⟨tv,pv,?_⟩ st;exact ac.put HI.out HG.out (by simp) (Qdh U HK.out B A s o) (fun x _ u _=>Qhn u _ _ _ _)
    obtain⟨B,A,s,o,hy⟩:∃ B A s o,x.bare=(⟨B,A,s,o⟩:Qj):=⟨_,_,_,_,Z⟩
    have HY:=Qc hy;rw[hy] at CB
    have E0:Hid ((h.set v (d:Int) x.bare).1=0):=by show _=_;rw[E.out]
    clear F K hr PA V e1 hy HK HR HG E N HS HI HP HN W r j;rcases gd.out with g1 | ⟨g1,g2⟩
    ·go_wp2_with (go_at_call 236;refine(CP.out _).mono ?_;rintro e w' ⟨rfl,m⟩;have m:=m.symm;subst m)
     refine(CB.out _).mono ?_
     rintro e f ⟨rfl,D⟩;obtain⟨M1,⟨z,c0,c1,c2,c3⟩,y⟩:=HM.out f D
     have M:=Qc (M1 B A s o HY.out);have f0:=y (d*4);have f1:=y (d*4+1);have f2:=y (d*4+2);have f3:=y (d*4+3);clear M1 y D HM x0 r0 r1 r2 r3 gd;go_wp2
     go_ret;exact⟨by rw[E0.out];rfl,M.out⟩
    ·go_wp2_with (go_at_call 236;refine(CP.out _).mono ?_;rintro e w' ⟨rfl,m⟩;have m:=m.symm;subst m)
     refine(CB.out _).mono ?_
     rintro e f ⟨rfl,D⟩;obtain⟨M1,⟨z,c0,c1,c2,c3⟩,y⟩:=HM.out f D
     have M:=Qc (M1 B A s o HY.out);have f0:=y (d*4);have f1:=y (d*4+1);have f2:=y (d*4+2);have f3:=y (d*4+3);clear M1 y D HM x0 r0 r1 r2 r3 gd;go_wp2
     go_ret;exact⟨by rw[E0.out];rfl,M.out⟩
   ·have hd:(decide (0≤k)&&decide (k<(n:Int)))=false:=by
     by_cases h1:0≤k
     ·rw[Xu (show ¬ k<(n:Int) by omega)];simp
     ·rw[Xu h1];rfl
    rw[hd] at CP
    rw[Xs (by omega)] at E
    clear F hd r j;rcases gd.out with g1 | ⟨g1,g2⟩
    ·go_wp2_with (go_at_call 236;refine(CP.out _).mono ?_;rintro e w' ⟨rfl,m⟩;have m:=m.symm;subst m)
     go_ret;rw[E.out]
     exact⟨Z,N.out⟩
    ·go_wp2_with (go_at_call 236;refine(CP.out _).mono ?_;rintro e w' ⟨rfl,m⟩;have m:=m.symm;subst m)
     go_ret;rw[E.out]
     exact⟨Z,N.out⟩
theorem Qkk (w:World) (n:Nat):Calls prog 46 #[.int .i64 n] w fun e w'=>e=.returned (.pointer (some ⟨w.heap.size+1,0,none⟩))/\HIn w' (w.heap.size+1) (fun x=>x=w.heap.size\/x=w.heap.size+1) (Qd.new n) ⟨w.heap.size,.map [],fun _=>0,fun _ _=>False⟩/\Below w.heap.size w w':=by
 have d:=@run_makeMap prog
 have Q:Hid (HIn ((w.alloc (.map #[] 0)).alloc (.cells #[.int .i64 n,.int .i64 0,.map (some w.heap.size)] 119)) (w.heap.size+1) (fun x=>x=w.heap.size\/x=w.heap.size+1) (Qd.new n) ⟨w.heap.size,.map [],fun _=>0,fun _ _=>False⟩):=by
  refine⟨Qb7 w _ _ _,(World.ownsMap_made w _ _ _).alloc _,Z,fun k a=>?_,fun k p a b=>?_,fun k p a=>by simp[Qd.new] at a,fun _ _ _ h=>h.elim,.inr Z,.inl Z,fun _ _ h=>h.elim,fun x f=>by simp;omega⟩
  ·unfold Qd.place;simp[Qd.new,Maps.has]
  ·unfold Qd.place at b;simp[Qd.new] at b
 have c:=Qc (Qak w (.map #[] 0) (.cells #[.int .i64 n,.int .i64 0,.map (some w.heap.size)] 119));go_enter func46,ntmps46
 go_wp2
 go_ret;exact⟨Z,Q.out,c.out⟩
def HTo (w w':World) (b:Nat) (O:Nat->Prop) (h':Qd):Prop:=∃ O' G',HIn w' b O' h' G'/\QE O O' w w'/\∀ x,O x->O' x
theorem HTo.same {h:Qd}{G:HG}(H:HIn w' b O h G) (hb:Below w.heap.size w w'):HTo w w' b O h:=⟨O,G,H,QE.of_below hb (fun k a=>.inl a),fun _ h=>h⟩
theorem HTo.st4 {h:Qd}{G:HG}(H:HIn w' b O' h G) (k:QE O O' w w') (i:∀ x,O x->O' x) (j:w.heap.size<=R) (hn:¬ O' R) (c f a d:Int):HTo w ((((w'.setCell ⟨R,0,none⟩ (.int .i64 c)).setCell ⟨R,1,none⟩ (.int .i64 f)).setCell ⟨R,2,none⟩ (.int .i64 a)).setCell ⟨R,3,none⟩ (.int .i64 d)) b O h :=
 ⟨O',G,H.keep (by simp) (fun x g _=>Qby (fun (e:x=R)=>hn (by rw[<-e];exact g)) c f a d),QeB k j c f a d,i⟩
theorem Qh2 {h:Qd}{G:HG}(H:HIn w b O h G) (hL:h.L.length<=4611686018427387904) (a:h.live<=16) :
 Calls prog 195 #[.pointer (some ⟨b,0,none⟩)] w fun e w'=>e=.returned (.tuple #[QL h.open_.1,.bool h.open_.2.1])/\HTo w w' b O h.open_.2.2:=by
 have m:=Qc (QW w (.cells #[.int .i64 0,.int .i64 0,.int .i64 0,.int .i64 0] 211));have i:=Qc (H.below m.out);have u:=fun ty=>i.out.map.len underlying117 ty;rw[i.out.size] at u
 have q:=Qa i.out.top 1 _ Z;have A:=Qa i.out.top 2 _ Z;by_cases p:h.live=16
 ·have E:Hid (h.open_=(noV,false,h)):=by show _=_;unfold Qd.open_;rw[Xs (by omega)]
  have Q:=Qc (HTo.same i.out m.out);rw[p] at u
  clear H i m a p hL q;generalize G.bm=bm at u A;go_enter func195,ntmps195
  go_wp2
  exact Xy (v:=.tuple #[.agg #[.int .i64 0,.int .i64 0,.int .i64 0,.int .i64 0],.bool false]) (by simp[results,results195,go_sem]) Z ⟨by rw[E.out];rfl,by rw[E.out];exact Q.out⟩
 ·have E:Hid (h.open_=(⟨2,h.L.length,0,0⟩,true,{ h with L:=h.L++[newP] })):=by show _=_;unfold Qd.open_;rw[Xr (by omega)]
  have r:=Qc (Qf w #[.int .i64 0,.int .i64 0,.int .i64 0,.int .i64 0] 211);have hd:((h.live:Int)==16)=false:=by simp;omega
  have n:=Qc H;have ab:=Qc a;clear H a p;go_enter func195,ntmps195
  go_upto_region 1 with fail
  generalize w.alloc (.cells #[.int .i64 0,.int .i64 0,.int .i64 0,.int .i64 0] 211)=w1 at m i u q A r |-;obtain⟨R,hR⟩:∃ R,R=w.heap.size:=⟨_,Z⟩
  have HR:Hid (w.heap.size<=R):=by show _<=_;omega
  rw[<-hR] at r |-
  clear hR;have T1:=Qc q;go_upto_region 4 with fail
  have d:=Qc (m.out.alloc m.out.size (.cells #[.int .i64 (h.L.length:Int),.int .i64 0,.int .i64 0,.slice none 0 0] 261));have W:=QW w1 (.cells #[.int .i64 (h.L.length:Int),.int .i64 0,.int .i64 0,.slice none 0 0] 261);have f:=Qc (i.out.below W);have s:=Qc (Qf w1 #[.int .i64 (h.L.length:Int),.int .i64 0,.int .i64 0,.slice none 0 0] 261);have l:=Qc ((W.block R (XC r.out)).trans r.out);have HG:Hid (w.heap.size<=w1.heap.size):=m.out.size;have z:Hid (R<w1.heap.size):=XC r.out;generalize w1.alloc (.cells #[.int .i64 (h.L.length:Int),.int .i64 0,.int .i64 0,.slice none 0 0] 261)=w2 at d f s l |-;generalize w1.heap.size=g at s HG z |-;clear q A u T1 r i m W;have q:=Qa f.out.top 1 _ Z;have A:=Qa f.out.top 2 _ Z;have g0:=Qa s.out 0 _ Z;have o:Zp h.L.length:=⟨by omega,by omega⟩;obtain⟨c,y,m1,m2⟩:=f.out.drew.map.store (val:=.pointer (some ⟨g,0,none⟩)) hKeyed underlying117 (by rw[f.out.size];have:=ab.out;unfold maxLen;omega) (Maps.keyOf_int_mk underlying3 (Qm4 o)) (show pelem _=some (.lit (.int .i64 (g:Int)),[]) from Z)
  have M1:=Qc m1;have M2:=Qc m2;have HL:=Qc hL;have T:=Qc o;clear m1 m2
  have C:Hid (c.cell? ⟨b,1,none⟩=some (.int .i64 (h.L.length:Int))/\c.frozen? ⟨b,1,none⟩=false/\c.cell? ⟨g,0,none⟩=some (.int .i64 (h.L.length:Int))/\c.heap[R]?=some (.cells #[.int .i64 0,.int .i64 0,.int .i64 0,.int .i64 0] 211 (0,0))/\HTo w (((((c.setCell ⟨b,1,none⟩ (.int .i64 ((h.L.length:Int)+1))).setCell ⟨R,0,none⟩ (.int .i64 2)).setCell ⟨R,1,none⟩ (.int .i64 (h.L.length:Int))).setCell ⟨R,2,none⟩ (.int .i64 0)).setCell ⟨R,3,none⟩ (.int .i64 0)) b O { h with L:=h.L++[newP] }/\R≠b/\g≠b/\(((((c.setCell ⟨b,1,none⟩ (.int .i64 ((h.L.length:Int)+1))).setCell ⟨R,0,none⟩ (.int .i64 2)).setCell ⟨R,1,none⟩ (.int .i64 (h.L.length:Int))).setCell ⟨R,2,none⟩ (.int .i64 0)).setCell ⟨R,3,none⟩ (.int .i64 0)).heap[R]?=some (.cells #[.int .i64 2,.int .i64 (h.L.length:Int),.int .i64 0,.int .i64 0] 211 (0,0))):=by
   have t:=M2.out.grown;have D:∀ x,x<w2.heap.size->x≠G.bm->c.heap[x]?=w2.heap[x]?:=fun x X V=>t.block x X (fun e=>V (by simpa using e));have ah:=f.out.map.lt;have S:=XC f.out.top;have ac:=n.out.map.lt;have ae:=XC n.out.top;have N:c.heap[b]?=_:=(D b S f.out.bne).trans f.out.top;have ag:=HG.out;have P:=HR.out;have ad:=z.out;have F:c.heap[g]?=_:=(D g (XC s.out) (by omega)).trans s.out;have I:c.heap[R]?=_:=(D R (XC l.out) (by omega)).trans l.out;have Q:=n.out.more (w1:=c) T.out HG.out F M1.out (fun x M J=>(D x (Zl M d.out.size) J).trans (d.out.block x M)) (Zt d.out.size t.size);rw[show ((h.L.length+1:Nat):Int)=(h.L.length:Int)+1 by omega] at Q
   refine⟨Qa N 1 _ Z,Qe N 1,Qa F 0 _ Z,I,?_,by omega,by omega,ZY ((Xd _ _ _ _ (show R≠b by omega)).trans I) _ _ _ _⟩
   refine HTo.st4 Q ⟨t.os.trans d.out.os,t.tape.trans d.out.tape,t.output.trans d.out.output,by have X:=t.size;have V:=d.out.size;exact Zt (Zt V X) (by simp),fun k K J=>?_,fun k K=>K.elim .inl (fun e=>.inr (by omega))⟩ (fun x M=>.inl M) P (fun e=>e.elim (fun e=>by have:=n.out.lt R e;omega) (fun e=>by omega)) _ _ _ _;have U:k≠b:=fun e=>J (e ▸ n.out.ob);have aa:k≠G.bm:=fun e=>J (e ▸ n.out.om);rw[Xd _ _ _ _ U]
   exact(D k (Zl K d.out.size) aa).trans (d.out.block k K)
  clear M1 M2 f d n s l o hd;generalize G.bm=bm at *;go_region;clear y q A g0;obtain⟨k1,k2,k3,j,k6,k7,k8,k9⟩:=C.out
  have K6:=Qc k6;have B:=Qc k9;have r0:=Qa j 0 _ Z;have r1:=Qa j 1 _ Z;have r2:=Qa j 2 _ Z;have r3:=Qa j 3 _ Z;have f0:=Qe j 0;have f1:=Qe j 1;have f2:=Qe j 2;have f3:=Qe j 3;clear j k6 k9 C;go_wp2
  generalize (((((c.setCell ⟨b,1,none⟩ (.int .i64 ((h.L.length:Int)+1))).setCell ⟨R,0,none⟩ (.int .i64 2)).setCell ⟨R,1,none⟩ (.int .i64 (h.L.length:Int))).setCell ⟨R,2,none⟩ (.int .i64 0)).setCell ⟨R,3,none⟩ (.int .i64 0))=af at K6 B |-;have e0:=Qa B.out 0 _ Z;have N:=Qa B.out 1 _ Z;have F:=Qa B.out 2 _ Z;have I:=Qa B.out 3 _ Z;exact Xy (v:=.tuple #[.agg #[.int .i64 2,.int .i64 (h.L.length:Int),.int .i64 0,.int .i64 0],.bool true]) (by simp[results,results195,go_sem,e0,N,F,I]) Z ⟨by rw[E.out],by rw[E.out];exact K6.out⟩
theorem Qja {h:Qd}{G:HG}(H:HIn w b O h G) (v:Qj) (A:v.ok) (s:∀ p,h.at v=some p->h.left+p.pages<=4611686018427387904) :
 Calls prog 139 #[Pv b 0,QL v] w fun e w'=>e=.returned (.bool (h.shut v).1)/\HTo w w' b O (h.shut v).2:=by
 have q:=Qc (QW w (.cells #[Iv v.kind,Iv v.region,Iv v.thing,Iv v.n] 211));have j:=Qc (Qf w #[Iv v.kind,Iv v.region,Iv v.thing,Iv v.n] 211);have u:=Qc (H.below q.out);have C:=Qc (QaE u.out v A);have HT:=Qc s;have W:=Qc A;clear H A s;go_enter func139,ntmps139
 go_upto_region 1 with fail
 generalize w.alloc (.cells #[Iv v.kind,Iv v.region,Iv v.thing,Iv v.n] 211)=w1 at q j C u |-;generalize w.heap.size=X at j |-;have x0:=Qa j.out 0 _ Z;have x1:=Qa j.out 1 _ Z;have x2:=Qa j.out 2 _ Z;have x3:=Qa j.out 3 _ Z;go_wp2_with fail
 refine C.out.mono ?_;rintro e K ⟨rfl,I⟩;have J:=Qc (q.out.trans (I.mono q.out.size));have m:=Qc (u.out.below I);clear x0 x1 x2 x3 j q I C u
 cases ht:h.at v with
 | none =>
   have E:Hid (h.shut v=(false,h)):=by show _=_;unfold Qd.shut;rw[ht]
   simp only[Option.isSome_none]
   clear ht;go_wp2
   go_ret;rw[E.out]
   exact⟨Z,HTo.same m.out J.out⟩
 | some p =>
   obtain⟨N,R,k,f,F,i⟩:=Qd.at_some ht
   have E:Hid (h.shut v=(true,⟨h.L.set k noP,h.left+p.pages⟩)):=by show _=_;unfold Qd.shut;rw[ht,f,XT]
   have s:=HT.out p ht;have T:hptr h G v.region=some ⟨G.g k,0,none⟩:=by unfold hptr;rw[R,f];rfl
   have d:Hid (Zp k):=by show Zp k;rw[<-f];exact W.out.2.1
   rw[T]
   obtain⟨tv,pv,RI⟩:=m.out.reg k p F i
   have t0:=Qa m.out.top 0 _ Z;have f0:=Qe m.out.top 0;have g1:=Qa RI.box 1 _ Z;have l:=Qc F;have o:=Qc i;have z:=Qc s;have M:(h.left:Int)+(p.pages:Int)<=4611686018427387904:=by omega
   have B:0<=(h.left:Int)+(p.pages:Int):=by omega
   have H3:Hid (HIn (K.setCell ⟨b,0,none⟩ (Iv ((h.left:Int)+(p.pages:Int)))) b O { h with left:=h.left+p.pages } G):=by
    have:=m.out.toLeft (h.left+p.pages)
    rw[show ((h.left+p.pages:Nat):Int)=(h.left:Int)+(p.pages:Int) by omega] at this
    exact this
   have P:Hid (QE O O w (K.setCell ⟨b,0,none⟩ (Iv ((h.left:Int)+(p.pages:Int))))):=(QE.of_below J.out (fun k N=>.inl N)).setCell (p:=⟨b,0,none⟩) m.out.ob _;simp only[Option.isSome_some]
   clear ht N R f F i T RI HT W m J s;have c:=Qc H3.out.drew;have a:=Qc P.out.drew;clear H3 P;go_wp2_with fail
   go_region;generalize (K.setCell ⟨b,0,none⟩ (Iv ((h.left:Int)+(p.pages:Int)))).drew=w3 at c a |-;clear t0 f0 g1;obtain⟨ab,aa,t⟩:=c.out.reg k p l.out o.out
   have u0:=Qa t.box 0 _ Z;have u2:=Qa c.out.top 2 _ Z;obtain⟨w4,S,V,D⟩:=c.out.drew.map.drop hKeyed underlying117 (Maps.keyOf_int_mk underlying3 (Qm4 d.out)) 0
   have Q:Hid (HTo w w4 b O ⟨h.L.set k noP,h.left+p.pages⟩):=by
    have r:=D.grown;refine⟨O,_,c.out.drew.gone l.out o.out d.out V D,⟨r.os.trans a.out.os,r.tape.trans a.out.drew.tape,r.output.trans a.out.output,Zt a.out.size r.size,fun x y U=>?_,fun x y=>.inl y⟩,fun _ h=>h⟩
    exact(r.block x (Zl y a.out.size) (fun e=>U (by have e9:x=G.bm:=(by simpa using e);rw[e9];exact c.out.om))).trans (a.out.block x y U)
   clear V D t c a l o z d M B;generalize G.g k=gk at *;generalize G.bm=bm at *;go_wp2_with fail
   go_region;go_wp2
   go_ret;rw[E.out]
   exact⟨Z,Q.out⟩
theorem QdN {h:Qd}{G:HG}(H:HIn w b O h G) (v:Qj) (g:v.ok) (words:Int) (o:h.at v=none) :
 Calls prog 197 #[Pv b 0,QL v,Iv words] w fun e w'=>e=.returned (.tuple #[.pointer none,Iv 20])/\Below w.heap.size w w':=by
 have c:=Qc (QW w (.cells #[Iv v.kind,Iv v.region,Iv v.thing,Iv v.n] 211));have a:=Qc (Qf w #[Iv v.kind,Iv v.region,Iv v.thing,Iv v.n] 211);have d:=Qc (H.below c.out);have C:=Qc (QaE d.out v g);clear H g;rw[o] at C
 simp only[Option.isSome_none] at C
 go_enter func197,ntmps197
 go_upto_region 1 with fail
 generalize w.alloc (.cells #[Iv v.kind,Iv v.region,Iv v.thing,Iv v.n] 211)=p at c a C d |-;generalize w.heap.size=X at a |-;have j:=Qa a.out 0 _ Z;have l:=Qa a.out 1 _ Z;have i:=Qa a.out 2 _ Z;have k:=Qa a.out 3 _ Z;go_wp2_with fail
 refine C.out.mono ?_;rintro e r ⟨rfl,f⟩;have m:=Qc (c.out.trans (f.mono c.out.size));have q:=Qc (d.out.below f);clear j l i k a c f C d;go_wp2
 go_ret2;exact⟨Z,m.out⟩
theorem QdH {h:Qd}{G:HG}(H:HIn w b O h G) (v:Qj) (A:v.ok) (words:Int){p:Qi}(q:h.at v=some p) (F:p.tight words=true) (y:h.left=0) (U:0<=words/\words<=1099511627776) (hu:0<=p.used/\p.used<=1099511627776) :
 Calls prog 197 #[Pv b 0,QL v,Iv words] w fun e w'=>e=.returned (.tuple #[.pointer none,Iv 14])/\Below w.heap.size w w':=by
 obtain⟨k,s⟩:∃ k:Nat,v.region=k:=by obtain⟨_,_,k,h,_⟩:=Qd.at_some q;exact⟨k,h⟩
 have i:=Qc (QW w (.cells #[Iv v.kind,Iv v.region,Iv v.thing,Iv v.n] 211));have c:=Qc (Qf w #[Iv v.kind,Iv v.region,Iv v.thing,Iv v.n] 211);have m:=Qc (H.below i.out);have C:=Qc (QaE m.out v A);clear H A;obtain⟨T,z,o,d,B,f⟩:=Qd.at_some q
 have Q:o=k:=by have:=d;omega
 subst Q;have D:hptr h G v.region=some ⟨G.g o,0,none⟩:=by unfold hptr;rw[z,d];rfl
 rw[q,D] at C
 simp only[Option.isSome_some] at C
 have j:=Qc B;have l:=Qc f;clear T z d B f D q s;have u:=Qc F;clear F;go_enter func197,ntmps197
 go_upto_region 1 with fail
 generalize w.alloc (.cells #[Iv v.kind,Iv v.region,Iv v.thing,Iv v.n] 211)=w1 at i c C m |-;generalize w.heap.size=X at c |-;have N:=Qa c.out 0 _ Z;have S:=Qa c.out 1 _ Z;have J:=Qa c.out 2 _ Z;have K:=Qa c.out 3 _ Z;go_wp2_with fail
 refine C.out.mono ?_;rintro e W ⟨rfl,r⟩;have E:=Qc (i.out.trans (r.mono i.out.size));have x:=Qc (m.out.below r);clear N S J K c i r C m;obtain⟨tv,pv,t⟩:=x.out.reg o p j.out l.out
 have L:=Qa x.out.top 0 _ Z;rw[y] at L
 have M:=Qa t.box 1 _ Z;have V:=Qa t.box 2 _ Z;clear t x j l;generalize G.g o=gk at *;by_cases a:p.pages=0
 ·rw[a] at M
  clear u a;go_wp2
  go_ret2;exact⟨Z,E.out⟩
 ·have I:decide (0<(p.pages:Int))=true:=Xt (by omega)
  have R:decide (p.used+words<=16)=false:=by
   have:=u.out
   unfold Qi.tight at this;rw[Xu a,Bool.false_or] at this
   have:=Xv this
   exact Xu (by omega)
  have P:0<p.pages:=by omega
  clear u a;go_wp2
  go_ret2;exact⟨Z,E.out⟩
theorem QgF {h:Qd}{G:HG}(H:HIn w b O h G) (v:Qj) (W:v.ok) (words:Int){p:Qi}(S:h.at v=some p)(N:v.region=k) (y:¬ (p.tight words=true/\h.left=0)) (hw:0<=words/\words<=1099511627776) (hu:0<=p.used/\p.used<=1099511627776) (ab:p.pages<=1099511627776) (ad:h.left<=1099511627776) :
 Calls prog 197 #[Pv b 0,QL v,Iv words] w fun e w'=>e=.returned (.tuple #[Pv (G.g k) 0,Iv 0])/\HIn w' b O ⟨h.L.set k (p.roomed words),h.roomLeft p words⟩ G/\QE O O w w':=by
 have A:=Qc (QW w (.cells #[Iv v.kind,Iv v.region,Iv v.thing,Iv v.n] 211));have m:=Qc (Qf w #[Iv v.kind,Iv v.region,Iv v.thing,Iv v.n] 211);have F:=Qc (H.below A.out);have C:=Qc (QaE F.out v W);clear H W;obtain⟨P,V,a,o,hL,u⟩:=Qd.at_some S
 have e0:a=k:=by have:=o;omega
 subst e0;have ea:hptr h G v.region=some ⟨G.g a,0,none⟩:=by unfold hptr;rw[V,o];rfl
 rw[S,ea] at C
 simp only[Option.isSome_some] at C
 have d:=Qc hL;have c:=Qc u;clear P V o hL u ea S N;have D:=Qc y;clear y;go_enter func197,ntmps197
 go_upto_region 1 with fail
 generalize w.alloc (.cells #[Iv v.kind,Iv v.region,Iv v.thing,Iv v.n] 211)=w1 at A m C F |-;generalize w.heap.size=X at m |-;have x0:=Qa m.out 0 _ Z;have x1:=Qa m.out 1 _ Z;have x2:=Qa m.out 2 _ Z;have x3:=Qa m.out 3 _ Z;go_wp2_with fail
 refine C.out.mono ?_;rintro e s ⟨rfl,K⟩;have BL:=Qc (A.out.trans (K.mono A.out.size));have f:=Qc (F.out.below K);clear x0 x1 x2 x3 m A K C F;obtain⟨tv,pv,q⟩:=f.out.reg a p d.out c.out
 have t0:=Qa f.out.top 0 _ Z;have f0:=Qe f.out.top 0;have g1:=Qa q.box 1 _ Z;have g2:=Qa q.box 2 _ Z;have z1:=Qe q.box 1;have z2:=Qe q.box 2;have J:G.g a≠b:=(f.out.os a _ q.ob).2.1;have i:=Qc q;have z:=Qc (QE.of_below (O:=O) (O':=O) BL.out (fun k P=>.inl P));clear q BL;have r:=Qc (f.out.os a _ i.out.ob).1
 cases htt:p.tight words with
 | false =>
   have j:p.pages≠0/\p.used+words<=16:=by
    unfold Qi.tight at htt;simp at htt
    omega
   have I:decide (0<(p.pages:Int))=true:=Xt (by omega);have R:decide (p.used+words<=16)=true:=Xt j.2;have E:Hid (p.roomed words={ p with used:=p.used+words }/\h.roomLeft p words=h.left):=by show _/\_;unfold Qi.roomed Qd.roomLeft;rw[htt];exact⟨Z,Z⟩
   have Q:Hid (HIn (s.setCell ⟨G.g a,2,none⟩ (Iv (p.used+words))) b O ⟨h.L.set a { p with used:=p.used+words },h.left⟩ G/\QE O O w (s.setCell ⟨G.g a,2,none⟩ (Iv (p.used+words)))):=by
    refine⟨f.out.regSame d.out c.out c.out ⟨tv,pv,i.out.nums _ Z ?_ (fun x _ t _=>Xd _ _ _ _ t)⟩ ((QE.refl _ _).setCell (p:=⟨G.g a,2,none⟩) i.out.ob _),z.out.setCell (p:=⟨G.g a,2,none⟩) r.out _⟩
    have:=Qh i.out.box 2 (Iv (p.used+words))
    simpa using this
   have M:0<p.pages:=by omega
   clear htt j i f d c z r D J;go_wp2
   go_ret2;rw[E.out.1,E.out.2]
   exact⟨Z,Q.out⟩
 | true =>
   have ac:h.left≠0:=fun e=>D.out ⟨htt,e⟩;have E:Hid (p.roomed words={ p with pages:=p.pages+1,used:=words }/\h.roomLeft p words=h.left - 1):=by show _/\_;unfold Qi.roomed Qd.roomLeft;rw[htt];exact⟨Z,Z⟩
   have aa:decide ((h.left:Int)<=0)=false:=Xu (by omega)
   have Q:Hid (HIn (((s.setCell ⟨b,0,none⟩ (Iv ((h.left:Int) - 1))).setCell ⟨G.g a,1,none⟩ (Iv ((p.pages:Int)+1))).setCell ⟨G.g a,2,none⟩ (Iv words)) b O ⟨h.L.set a { p with pages:=p.pages+1,used:=words },h.left - 1⟩ G/\QE O O w (((s.setCell ⟨b,0,none⟩ (Iv ((h.left:Int) - 1))).setCell ⟨G.g a,1,none⟩ (Iv ((p.pages:Int)+1))).setCell ⟨G.g a,2,none⟩ (Iv words))):=by
    have T:=f.out.toLeft (h.left - 1);rw[show ((h.left - 1:Nat):Int)=(h.left:Int) - 1 by omega] at T
    have U:=z.out.setCell (p:=⟨b,0,none⟩) f.out.ob (Iv ((h.left:Int) - 1));have B:=i.out.keep (w':=s.setCell ⟨b,0,none⟩ (Iv ((h.left:Int) - 1))) (fun x t _=>Xd _ _ _ _ (f.out.os a x t).2.1);generalize s.setCell ⟨b,0,none⟩ (Iv ((h.left:Int) - 1))=w3 at T U B |-;refine⟨T.regSame d.out c.out c.out ⟨tv,pv,B.nums _ Z ?_ (fun x _ t _=>(Xd _ _ _ _ t).trans (Xd _ _ _ _ t))⟩ (((QE.refl _ _).setCell (p:=⟨G.g a,1,none⟩) B.ob _).setCell (p:=⟨G.g a,2,none⟩) B.ob _),(U.setCell (p:=⟨G.g a,1,none⟩) r.out _).setCell (p:=⟨G.g a,2,none⟩) r.out _⟩
    have:=Qh (Qh B.box 1 (Iv ((p.pages:Int)+1))) 2 (Iv words)
    simpa using this
   by_cases l:p.pages=0
   ·rw[l] at g1 Q E
    have e9:((0:Nat):Int)=0:=rfl;rw[e9] at g1 Q
    simp only[Int.zero_add] at Q
    clear i f d c z r D e9;go_wp2
    go_ret2;rw[E.out.1,E.out.2]
    exact⟨Z,Q.out⟩
   ·have I:decide (0<(p.pages:Int))=true:=Xt (by omega)
    have R:decide (p.used+words<=16)=false:=by
     have:=htt
     unfold Qi.tight at this;rw[Xu l,Bool.false_or] at this
     have:=Xv this
     exact Xu (by omega)
    have M:0<p.pages:=by omega
    clear htt i f d c z r D l;go_wp2
    go_ret2;rw[E.out.1,E.out.2]
    exact⟨Z,Q.out⟩
theorem hInfoT:∃ i,prog.info? 294=some i/\i.zero=some (.agg #[Iv 0,Nv])/\i.size=2/\i.bytes=32:=by
 have h:(prog.info? 294).map (fun i=>(i.zero,i.size,i.bytes))=some (some (.agg #[Iv 0,Nv]),2,32):=by kernel_rfl
 obtain⟨i,a,e⟩:=Option.map_eq_some_iff.1 h
 simp only[Prod.mk.injEq] at e
 exact⟨i,a,e⟩
theorem hInfoV:∃ i,prog.info? 211=some i/\i.zero=some (.agg #[Iv 0,Iv 0,Iv 0,Iv 0])/\i.size=4/\i.bytes=32:=by
 have h:(prog.info? 211).map (fun i=>(i.zero,i.size,i.bytes))=some (some (.agg #[Iv 0,Iv 0,Iv 0,Iv 0]),4,32):=by kernel_rfl
 obtain⟨i,a,e⟩:=Option.map_eq_some_iff.1 h
 simp only[Prod.mk.injEq] at e
 exact⟨i,a,e⟩
theorem hUnderTs:prog.underlying 259=some (.slice 294):=by kernel_rfl
theorem hUnderVs:prog.underlying 98=some (.slice 211):=by kernel_rfl
theorem QkF (w:World) (c:List Value) (t:TypeId):∀ (j:Nat) (u:Value),c[j]?=some u->(w.alloc (.cells c.toArray t)).cell? ((⟨w.heap.size,0,none⟩:Addr).add j)=some u:=by
 intro j u h;have a:c.toArray[j]?=some u:=by simpa using h
 rw[Go.WideShapes.add_plain,XK]
 exact Qa (Qf w c.toArray t) j u a
theorem Qnv (k:Int) (a:Option Addr) (n c:Nat):∀ u∈[Value.int .i64 k,.slice a n c],u.oneCell'=true:=by
 intro u b;simp at b
 rcases b with rfl | rfl<;>rfl
theorem QgY {f:Nat}{p:Qi}{S:Nat->Prop}{tv:Value}{pv:Nat->Value}(R:Z1 w f k p S tv pv){t:Qq}{va:Option Addr}{vc:Nat}(hv:ZI w (.slice va t.l.length vc) t.l) (hn:∀ x,Qcn (.slice va t.l.length vc) t x->¬ S x) (hS:∀ x,S x->x<w.heap.size) (af:p.l.length<=1099511627776) :
 Calls prog 198 #[Pv f 0,Iv t.knd,.slice va t.l.length vc] w fun e w'=>e=.returned (QL ⟨t.knd,k,p.l.length,0⟩)/\∃ S',Qdp w' f k { p with l:=p.l++[t] } S'/\(∀ x,S x->S' x)/\(∀ x,S' x->S x\/w.heap.size<=x\/Qcn (.slice va t.l.length vc) t x)/\(∀ x,S' x->x<w'.heap.size)/\QE S S w w':=by
 obtain⟨i0,hi,ac,ai,ah⟩:=hInfoT
 obtain⟨W,T,rfl⟩:∃ a c,tv=.slice a p.l.length c:=by
  rcases R.row.2 with ⟨e,e0⟩|⟨g,ao,aq,e,_⟩
  ·exact⟨none,0,by rw[e,e0]⟩
  ·exact⟨_,_,e⟩
 have B0:=Qc (QW w (.cells #[Iv 0,Iv 0,Iv 0,Iv 0] 211));have BR:=Qc (Qf w #[Iv 0,Iv 0,Iv 0,Iv 0] 211);have HR:=Qc R;have F:=Qc (R.keep (w':=w.alloc (.cells #[Iv 0,Iv 0,Iv 0,Iv 0] 211)) (fun x _ d=>B0.out.block x d));have Q:=Qc hv;have HN:=Qc hn;have P:=Qc hS
 have H:Hid (∀ i j b,i.ownsRow 0 294 2 (.slice (some ⟨j,0,none⟩) (p.l.length+1) b) (p.l.length+1) (Z8 pv p.l 0++[Iv t.knd,.slice va t.l.length vc])->((w.alloc (.cells #[Iv 0,Iv 0,Iv 0,Iv 0] 211)).alloc (.cells #[Iv t.knd,.slice va t.l.length vc] 294)).grownBy i (Value.slice W p.l.length T).ownBlock->((Value.slice W p.l.length T).ownBlock=some j\/j=w.heap.size+2)->j<i.heap.size ->
  (i.heap[f]?=some (.cells #[Iv k,Iv p.pages,Iv p.used,.slice W p.l.length T] 261 (0,0)))/\(i.setCell ⟨f,3,none⟩ (.slice (some ⟨j,0,none⟩) (p.l.length+1) b)).heap[f]?=some (.cells #[Iv k,Iv p.pages,Iv p.used,.slice (some ⟨j,0,none⟩) (p.l.length+1) b] 261 (0,0))/\i.heap[w.heap.size]?=some (.cells #[Iv 0,Iv 0,Iv 0,Iv 0] 211 (0,0))/\f≠w.heap.size /\
  ∃ S',Qdp (i.setCell ⟨f,3,none⟩ (.slice (some ⟨j,0,none⟩) (p.l.length+1) b)) f k { p with l:=p.l++[t] } S'/\(∀ x,S x->S' x)/\(∀ x,S' x->S x\/w.heap.size<x\/Qcn (.slice va t.l.length vc) t x)/\(∀ x,S' x->x<i.heap.size)/\QE S S w (i.setCell ⟨f,3,none⟩ (.slice (some ⟨j,0,none⟩) (p.l.length+1) b))):=by
  intro i j b V m K r4;have D:=Qak w (.cells #[Iv 0,Iv 0,Iv 0,Iv 0] 211) (.cells #[Iv t.knd,.slice va t.l.length vc] 294);have u:=QhC w #[Iv 0,Iv 0,Iv 0,Iv 0] 211 (.cells #[Iv t.knd,.slice va t.l.length vc] 294);have aa:((w.alloc (.cells #[Iv 0,Iv 0,Iv 0,Iv 0] 211)).alloc (.cells #[Iv t.knd,.slice va t.l.length vc] 294)).heap.size=w.heap.size+2:=by simp
  generalize (w.alloc (.cells #[Iv 0,Iv 0,Iv 0,Iv 0] 211)).alloc (.cells #[Iv t.knd,.slice va t.l.length vc] 294)=w2 at m D u aa;have y:=HR.out.keep (fun x _ d=>D.block x d);have V2:=Q.out.keep (w':=w2) (fun x d=>D.block x (Q.out.lt d));have g3:(Value.slice W p.l.length T).ownBlock=some j\/w2.heap.size<=j:=K.imp id (fun e=>by omega);have A:=y.add V2 HN.out V m g3;have ar:f<w.heap.size:=P.out f y.ob;have C:i.heap[f]?=_:=(m.block f (XC y.box) (fun e=>y.rowNe e.symm Z)).trans y.box;refine⟨C,A.box,?_,by omega,_,⟨_,_,A⟩,fun x d=>.inl d,?_,?_,?_⟩
  ·refine(m.block w.heap.size (XC u) (fun e=>?_)).trans u
   have:=P.out _ (y.ot _ e.symm)
   omega
  ·rintro x (d | rfl | d)
   ·exact .inl d
   ·rcases K with e | e
    ·exact .inl (y.ot _ e)
    ·exact .inr (.inl (by omega))
   ·exact .inr (.inr d)
  ·have ak:=m.size;rintro x (d | rfl | d)
   ·have:=P.out x d;omega
   ·exact r4
   ·have:=Q.out.lt d;omega
  ·refine⟨m.os.trans D.os,m.tape.trans D.tape,m.output.trans D.output,Zt D.size (Zt m.size (by simp)),fun x d J=>?_,fun x d=>.inl d⟩
   have ae:x≠f:=fun e=>J (e ▸ y.ob);rw[Xd _ _ _ _ ae]
   exact(m.block x (by omega) (fun e=>J (y.ot x e.symm))).trans (D.block x d)
 have M:=Qc (F.out.row.alloc (.cells #[Iv t.knd,.slice va t.l.length vc] 294));have E:=Qa F.out.box 3 _ Z;have z:Hid (∀ x,Qcn (.slice va t.l.length vc) t x->x<w.heap.size):=fun x d=>Q.out.lt d;clear R hv hn hS;have G:=Qc P.out;clear HR F Q HN P;have HX:Hid (w.heap.size+1=(w.alloc (.cells #[Iv 0,Iv 0,Iv 0,Iv 0] 211)).heap.size):=by show _=_;simp
 generalize au:t.knd=B at *;generalize ap:t.l.length=tl at *;generalize am:p.l.length=o at *;generalize al:Z8 pv p.l 0=xs at *;go_enter func198,ntmps198
 go_upto_region 1 with fail
 generalize w.alloc (.cells #[Iv 0,Iv 0,Iv 0,Iv 0] 211)=w1 at *;have an:o<=1099511627776:=af;go_wp2_with (at_builtin;refine wpList_append_lies _ Z (.tmp 11) (.tmp 15) 259 Z 0 294 i0 (.agg #[Iv 0,Nv]) 2 32 hUnderTs hi ac ai ah Z (by decide) _ _ _ Z M.out ⟨w1.heap.size,0,none⟩ 1 1 [Iv B,.slice va tl vc] Z Z (QkF _ [_,_] _) (Qnv _ _ _ _) (by decide) (by unfold maxLen;omega) (by omega) (Xb _) (w.heap.size+2) (by have:=HX.out;simp;omega) ?_)
 intro j b i V m K r4;obtain⟨C,X,e3,N,QQ⟩:=H.out i j b V m K r4
 have E1:=Qc C;have E2:=Qc X;have s:Hid ((i.setCell ⟨f,3,none⟩ (.slice (some ⟨j,0,none⟩) (o+1) b)).heap[w.heap.size]?=some (.cells #[Iv 0,Iv 0,Iv 0,Iv 0] 211 (0,0))):=(Xd _ _ _ _ (Ne.symm N)).trans e3;have HQ:=Qc QQ;have c9:=Qa C 3 _ Z;have z9:=Qe C 3;have O:Hid (∀ x,Qcn (.slice va tl vc) t x->x<w.heap.size):=z.out;clear V m K r4 C X e3 QQ H M E N z;go_wp2_with fail
 have r:Hid (i.heap.size=(i.setCell ⟨f,3,none⟩ (.slice (some ⟨j,0,none⟩) (o+1) b)).heap.size):=by show _=_;simp
 generalize i.setCell ⟨f,3,none⟩ (.slice (some ⟨j,0,none⟩) (o+1) b)=n at E2 s HQ r |-;obtain⟨R,u⟩:∃ R,R=w.heap.size:=⟨_,Z⟩
 have q:=Qc u;rw[<-u] at s
 have ad:=Qc u.symm;rw[<-u]
 clear u c9 z9 E1 HX;have k0:=Qa E2.out 0 _ Z;have k3:=Qa E2.out 3 _ Z;have s0:=Qa s.out 0 _ Z;have s1:=Qa s.out 1 _ Z;have s2:=Qa s.out 2 _ Z;have s3:=Qa s.out 3 _ Z;have f0:=Qe s.out 0;have f1:=Qe s.out 1;have f2:=Qe s.out 2;have f3:=Qe s.out 3;have L:=Qc (ZY s.out B (k:Int) (o:Int) 0);obtain⟨S',q1,q2,E,q4,U⟩:=HQ.out
 have I:Hid (∃ S',Qdp ((((n.setCell ⟨R,0,none⟩ (Iv B)).setCell ⟨R,1,none⟩ (Iv (k:Int))).setCell ⟨R,2,none⟩ (Iv (o:Int))).setCell ⟨R,3,none⟩ (Iv 0)) f k { p with l:=p.l++[t] } S'/\(∀ x,S x->S' x)/\(∀ x,S' x->S x\/w.heap.size<=x\/Qcn (.slice va tl vc) t x)/\(∀ x,S' x->x<((((n.setCell ⟨R,0,none⟩ (Iv B)).setCell ⟨R,1,none⟩ (Iv (k:Int))).setCell ⟨R,2,none⟩ (Iv (o:Int))).setCell ⟨R,3,none⟩ (Iv 0)).heap.size)/\QE S S w ((((n.setCell ⟨R,0,none⟩ (Iv B)).setCell ⟨R,1,none⟩ (Iv (k:Int))).setCell ⟨R,2,none⟩ (Iv (o:Int))).setCell ⟨R,3,none⟩ (Iv 0))):=by
  have ag:∀ x,S' x->x≠R:=fun x d e=>by
   subst e;rcases E _ d with h | h | h
   ·have:=G.out _ h;have:=q.out;omega
   ·have:=q.out;omega
   ·have:=O.out _ h;have:=q.out;omega
  refine⟨S',q1.keep (fun x d _=>Qby (ag x d) _ _ _ _),q2,fun x d=>(E x d).imp id (fun h=>h.imp Nat.le_of_lt id),fun x d=>?_,QeB U (by have:=q.out;omega) _ _ _ _⟩
  have:((((n.setCell ⟨R,0,none⟩ (Iv B)).setCell ⟨R,1,none⟩ (Iv (k:Int))).setCell ⟨R,2,none⟩ (Iv (o:Int))).setCell ⟨R,3,none⟩ (Iv 0)).heap.size=n.heap.size:=by simp
  rw[this]
  have h9:=q4 x d
  have:=r.out
  omega
 clear HQ q1 q2 E q4 U q ad G O r;go_region;have aj:((o:Int)+1 - 1)=(o:Int):=by omega
 go_wp2_with fail
 generalize ((((n.setCell ⟨R,0,none⟩ (Iv B)).setCell ⟨R,1,none⟩ (Iv (k:Int))).setCell ⟨R,2,none⟩ (Iv (o:Int))).setCell ⟨R,3,none⟩ (Iv 0))=ab at L I |-;have e0:=Qa L.out 0 _ Z;have C:=Qa L.out 1 _ Z;have X:=Qa L.out 2 _ Z;have e3:=Qa L.out 3 _ Z;exact Xy (v:=.agg #[Iv B,Iv k,Iv o,Iv 0]) (by simp[results,results198,go_sem,e0,C,X,e3]) Z ⟨Z,by obtain⟨S',q1,q2,E,q4,U⟩:=I.out;exact⟨S',q1.keep (w':=ab.drew) (fun _ _ _=>rfl),q2,E,q4,U.drew⟩⟩
def VIn (w:World) (a:Option Addr) (l:List Qj):Prop:=∀ i x,l[i]?=some x->∃ g o,a=some ⟨g,o,none⟩/\g<w.heap.size/\w.cell? ⟨g,o+i*4,none⟩=some (Iv x.kind)/\w.cell? ⟨g,o+i*4+1,none⟩=some (Iv x.region)/\w.cell? ⟨g,o+i*4+2,none⟩=some (Iv x.thing)/\w.cell? ⟨g,o+i*4+3,none⟩=some (Iv x.n)
theorem VIn.below {l:List Qj}(h:VIn w a l) (b:Below w.heap.size w w'):VIn w' a l:=fun i x f=>by
 obtain⟨g,o,e,d,m,j,n,k⟩:=h i x f
 have c:=b.block g d;exact⟨g,o,e,Zl d b.size,(XU (w:=w) (a:=⟨g,o+i*4,none⟩) c).trans m,(XU (w:=w) (a:=⟨g,o+i*4+1,none⟩) c).trans j,(XU (w:=w) (a:=⟨g,o+i*4+2,none⟩) c).trans n,(XU (w:=w) (a:=⟨g,o+i*4+3,none⟩) c).trans k⟩
theorem VIn.drew {l:List Qj}(h:VIn w a l):VIn w.drew a l:=h
theorem VIn.drewN {l:List Qj}(h:VIn w a l) (n:Nat):VIn (w.drewN n) a l:=h
def Zv (l:List Qj) (q:Nat):List Qj:=l.take q++List.replicate (l.length - q) noV
theorem Qhs (l:List Qj)(a:q<=l.length):(Zv l q).length=l.length:=by simp[Zv];omega
theorem QfG (l:List Qj){x:Qj}(b:l[q]?=some x):Zv l (q+1)=(Zv l q).set q x:=by
 have c:=(Zi b).1;have a:(l.take q).length=q:=by simp;omega
 unfold Zv;rw[XV,b,List.set_append_right _ _ (by omega),a,Nat.sub_self,show l.length - q=(l.length - (q+1))+1 by omega,List.replicate_succ,List.set_cons_zero]
 simp
theorem Qd8 (l:List Qj):Zv l l.length=l:=by simp[Zv]
theorem QcM (l:List Qj):Zv l 0=List.replicate l.length noV:=by simp[Zv]
theorem QcJ (w:World) (n:Nat):(w.alloc (.cells (madeCells (#[Iv 0,Iv 0,Iv 0,Iv 0]:Array Value) (n*4)) 211)).rowIs w.heap.size 211 ((List.replicate n noV).length*4) (Zc (List.replicate n noV)):=by
 refine⟨_,Qf _ _ _,by simp[size_madeCells],fun i b=>?_⟩
 have a:i<n*4:=by simpa using b
 have e:Zc (List.replicate n noV) i=Iv 0:=by
  unfold Zc;rw[show (List.replicate n noV).getD (i / 4) noV=noV by simp[List.getD,List.getElem?_replicate];split<;>rfl]
  have:i%4=0\/i%4=1\/i%4=2\/i%4=3:=by omega
  rcases this with h | h | h | h<;>rw[h]<;>rfl
 rw[e]
 have:i%4<4:=by omega
 simp[madeCells,a]
 have:i%4=0\/i%4=1\/i%4=2\/i%4=3:=by omega
 rcases this with h | h | h | h<;>simp[h]
theorem Qb6 (n:Nat) (hn:n<=1099511627776) (w:World):(Instr.makeSlice 98 (Iv (n:Int)) (Iv (n:Int))).run prog w=.ok (.slice (some ⟨w.heap.size,0,none⟩) n n) (w.alloc (.cells (madeCells (#[Iv 0,Iv 0,Iv 0,Iv 0]:Array Value) (n*4)) 211)):=by
 obtain⟨i,a,d,c,b⟩:=hInfoV
 have:=run_make (P:=prog) w 98 211 i _ hUnderVs a d .i64 .i64 n n (by omega) (Int.le_refl _) (by rw[b];omega) (by omega)
 rw[c] at this
 simpa[Value.cells] using this
theorem Qe6 {l:List Qj}(hn:l.length=n) (hb:n<=1099511627776) (P:VIn w a l) :
 Calls prog 199 #[.slice a n c] w fun e w'=>∃ g,e=.returned (.slice (some ⟨g,0,none⟩) n n)/\w.heap.size<=g/\w'.rowIs g 211 (n*4) (Zc (l.map Qj.bare))/\Below w.heap.size w w':=by
 have J:=Qb6 n hb w;have D:=Qc (QcJ w n);have X:=Qc (QW w (.cells (madeCells (#[Iv 0,Iv 0,Iv 0,Iv 0]:Array Value) (n*4)) 211));have HL:=Qc P;have B:=Qc hn;clear P hn;go_enter func199,ntmps199
 go_upto_region 2 with fail
 generalize w.alloc (.cells (madeCells (#[Iv 0,Iv 0,Iv 0,Iv 0]:Array Value) (n*4)) 211)=w1 at D X |-;clear J;obtain⟨g,V⟩:∃ g,g=w.heap.size:=⟨_,Z⟩
 have s:Hid (w.heap.size<=g):=by show _<=_;omega
 rw[<-V] at D |-
 clear V;go_wp2_with fail
 go_loopw [11] (fun i wr=>∃ q:Nat,q<=n/\i=Iv q/\wr.rowIs g 211 ((Zv (l.map Qj.bare) q).length*4) (Zc (Zv (l.map Qj.bare) q))/\Below w.heap.size w wr) (fun i _=>n - (intOf i).toNat)
 case atStart =>
  refine⟨0,Xb _,Z,?_,X.out⟩
  rw[QcM,XN,B.out]
  exact D.out
 case round =>
  obtain⟨q,hq,rfl,hR,T⟩:=hrel
  have A:=Qc hR;have v:=Qc T;clear hR T;by_cases o:q<n
  ·have aa:(q:Int)<n:=by omega
   obtain⟨x,I⟩:∃ x,l[q]?=some x:=⟨_,Zg (by rw[B.out];exact o)⟩
   obtain⟨g1,o1,rfl,K,L,N,R,Q⟩:=(VIn.below HL.out v.out) q x I
   have E:=Qc (fun wx=>Qfz wx x);have HX:=Qc I;obtain⟨k,h,m,j,C⟩:∃ k h m j,x.bare=(⟨k,h,m,j⟩:Qj):=⟨_,_,_,_,Z⟩
   have S:=Qc C;rw[C] at E
   obtain⟨xk,xr,xt,xn⟩:=x
   simp only at L N R Q
   have y:Hid (∀ d,Below wr.heap.size wr d->(d.cell? ⟨g,q*4,none⟩).isSome=true/\(d.cell? ⟨g,q*4+1,none⟩).isSome=true/\(d.cell? ⟨g,q*4+2,none⟩).isSome=true/\(d.cell? ⟨g,q*4+3,none⟩).isSome=true/\(∀ i,d.frozen? ⟨g,i,none⟩=false)/\((((d.setCell ⟨g,q*4,none⟩ (Iv k)).setCell ⟨g,q*4+1,none⟩ (Iv h)).setCell ⟨g,q*4+2,none⟩ (Iv m)).setCell ⟨g,q*4+3,none⟩ (Iv j)).rowIs g 211 ((Zv (l.map Qj.bare) (q+1)).length*4) (Zc (Zv (l.map Qj.bare) (q+1)))/\Below w.heap.size w ((((d.setCell ⟨g,q*4,none⟩ (Iv k)).setCell ⟨g,q*4+1,none⟩ (Iv h)).setCell ⟨g,q*4+2,none⟩ (Iv m)).setCell ⟨g,q*4+3,none⟩ (Iv j))):=by
    intro d t;have G:=A.out.of_block (t.block g A.out.lt);have f:(l.map Qj.bare).length=n:=by rw[XN,B.out]
    have z:q<(Zv (l.map Qj.bare) q).length:=by rw[Qhs _ (by omega),f];exact o
    have H:(l.map Qj.bare)[q]?=some ⟨k,h,m,j⟩:=by rw[XS,HX.out,<-S.out];rfl
    obtain⟨U,z1,z2,O⟩:=Qan G (Zg z)
    refine⟨by rw[U];rfl,by rw[z1];rfl,by rw[z2];rfl,by rw[O];rfl,G.frozen,?_,?_⟩
    ·rw[QfG _ H]
     exact Qdh G z k h m j
    ·have b:=v.out.trans (t.mono v.out.size);exact(((b.setCell (p:=⟨g,q*4,none⟩) s.out _).setCell (p:=⟨g,q*4+1,none⟩) s.out _).setCell (p:=⟨g,q*4+2,none⟩) s.out _).setCell (p:=⟨g,q*4+3,none⟩) s.out _
   clear I C K;go_wp2_with fail
   refine(E.out _).mono ?_
   rintro e d ⟨rfl,t⟩;have r:Below wr.heap.size wr d:=(QW wr _).trans (t.mono (by simp));obtain⟨p0,M,W,p3,u,pr,pb⟩:=y.out d r
   obtain⟨U,p0⟩:=Option.isSome_iff_exists.1 p0
   obtain⟨z1,M⟩:=Option.isSome_iff_exists.1 M
   obtain⟨z2,W⟩:=Option.isSome_iff_exists.1 W
   obtain⟨O,p3⟩:=Option.isSome_iff_exists.1 p3
   have f0:=u (q*4);have f1:=u (q*4+1);have f2:=u (q*4+2);have f3:=u (q*4+3);have PR:=Qc pr;have PB:=Qc pb;clear u pr pb y E t r HX S A v L N R Q;go_wp2
   go_roundw
   case rel=>exact⟨q+1,by omega,by go_num,PR.out,PB.out⟩
   case measure=>simp[intOf];omega
  ·have F:q=n:=by omega
   subst F;go_wp2
   go_ret;refine⟨g,Z,s.out,?_,v.out⟩
   have:=A.out
   have f:(l.map Qj.bare).length=q:=by rw[XN,B.out]
   rw[show Zv (l.map Qj.bare) q=l.map Qj.bare by rw[<-f];exact Qd8 _,f] at this
   exact this
theorem HIn.added {m w4:World}{i:Qd}{G:HG}(j:HIn w2 b O i G) (c:Below w2.heap.size w2 m){p:Qi}{t:Qq}(y:i.L[k]?=some p) (o:p.there=true){va:Option Addr}{vc:Nat}(r:∀ x,Qcn (.slice va t.l.length vc) t x->w2.heap.size<=x)
 (v:∃ S',Qdp w4 (G.g k) k { p with l:=p.l++[t] } S'/\(∀ x,G.S k x->S' x)/\(∀ x,S' x->G.S k x\/m.heap.size<=x\/Qcn (.slice va t.l.length vc) t x)/\(∀ x,S' x->x<w4.heap.size)/\QE (G.S k) (G.S k) m w4) :
 ∃ O' G',HIn w4 b O' { i with L:=i.L.set k { p with l:=p.l++[t] } } G'/\QE O O' w2 w4/\(∀ x,O x->O' x)/\(∀ x,O' x->O x\/w2.heap.size<=x):=by
 obtain⟨S',u,z,w,s,e⟩:=v
 have f:∀ x,S' x->G.S k x\/w2.heap.size<=x:=fun x a=>by
  rcases w x a with h | h | h
  ·exact .inl h
  ·exact .inr (Zt c.size h)
  ·exact .inr (r x h)
 have d:QE (G.S k) S' w2 w4:=⟨e.os.trans c.os,e.tape.trans c.tape,e.output.trans c.output,Zt c.size e.size,fun x a n=>(e.block x (Zl a c.size) n).trans (c.block x a),f⟩;have R:=j.regTo y o (p':={ p with l:=p.l++[t] }) o u s d;have q:∀ x,(O x\/S' x)->O x\/w2.heap.size<=x:=fun x a=>a.elim .inl (fun h=>(f x h).imp (fun h=>(j.os k x h).1) id);exact⟨_,_,R,⟨d.os,d.tape,d.output,d.size,fun x a n=>d.block x a (fun h=>n (j.os k x h).1),q⟩,fun x a=>.inl a,q⟩
def QeF (n:Nat):Int:=if n=0 then 1 else n
theorem Qeq (n:Nat) (a:Array TypeId) (t:TypeId) (w:World):(Builtin.max_ a t #[Iv (n:Int),Iv 1]).run prog w=.ok (Iv (QeF n)) w:=by
 rw[Lib.run_max_ints]
 congr 2
 unfold QeF;split<;>omega
theorem VIn.step {l:List Qj}(h:VIn w a l) (s:QE O O' w w') (j:∀ g o,a=some ⟨g,o,none⟩->¬ O g):VIn w' a l:=fun i x d=>by
 obtain⟨g,o,e,c,m,f,n,k⟩:=h i x d
 have b:=s.block g c (j g o e);exact⟨g,o,e,Zl c s.size,(XU (w:=w) (a:=⟨g,o+i*4,none⟩) b).trans m,(XU (w:=w) (a:=⟨g,o+i*4+1,none⟩) b).trans f,(XU (w:=w) (a:=⟨g,o+i*4+2,none⟩) b).trans n,(XU (w:=w) (a:=⟨g,o+i*4+3,none⟩) b).trans k⟩
theorem Qiq {h:Qd}{G:HG}(H:HIn w b O h G) (v:Qj) (s:v.ok){l:List Qj}(hn:l.length=n) (hb:n<=1099511627776) (q:VIn w a l) (z:h.at v=none) :
 Calls prog 141 #[Pv b 0,QL v,.slice a n c] w fun e w'=>e=.returned (.tuple #[QL (h.tuple v (l.map Qj.bare)).1,Iv (h.tuple v (l.map Qj.bare)).2.1])/\HTo w w' b O (h.tuple v (l.map Qj.bare)).2.2:=by
 have i:=Qc (Qak w (.cells #[Iv v.kind,Iv v.region,Iv v.thing,Iv v.n] 211) (.cells #[Iv 0,Iv 0,Iv 0,Iv 0] 211));have g:=Qc (QhC w #[Iv v.kind,Iv v.region,Iv v.thing,Iv v.n] 211 (.cells #[Iv 0,Iv 0,Iv 0,Iv 0] 211));have f:=Qc (Qb7 w (.cells #[Iv v.kind,Iv v.region,Iv v.thing,Iv v.n] 211) #[Iv 0,Iv 0,Iv 0,Iv 0] 211);have r:=Qc H;have m:=Qc (H.below i.out);have p:=Qc (q.below i.out)
 have E:Hid (h.tuple v (l.map Qj.bare)=(noV,20,h)):=by
  show _=_;exact Qd.tuple_none _ z
 have C:=Qc (QdN m.out v s (QeF n) z);have Q:=Qeq n;clear H s q;go_enter func141,ntmps141
 go_upto_region 1 with fail
 generalize ((w.alloc (.cells #[Iv v.kind,Iv v.region,Iv v.thing,Iv v.n] 211)).alloc (.cells #[Iv 0,Iv 0,Iv 0,Iv 0] 211))=w1 at i g f m C p |-;obtain⟨X,x⟩:∃ X,X=w.heap.size:=⟨_,Z⟩
 obtain⟨R,u⟩:∃ R,R=X+1:=⟨_,Z⟩
 have L:Hid (w.heap.size<=R):=by show _<=_;omega
 have I:Hid (¬ O R):=fun e=>by have:=r.out.lt R e;omega
 rw[<-x] at g f |-
 rw[<-u] at f |-
 clear x u;have M:=Qa g.out 0 _ Z;have S:=Qa g.out 1 _ Z;have F:=Qa g.out 2 _ Z;have J:=Qa g.out 3 _ Z;have T:=Qc f.out;go_wp2_with fail
 refine C.out.mono ?_;rintro e t ⟨rfl,o⟩;have A:=Qc (m.out.below o);have B:Hid (QE O O w t):=QE.of_below (i.out.trans (o.mono i.out.size)) (fun k U=>.inl U);have d:=Qc ((o.block R (XC f.out)).trans f.out);clear M S F J T C o g f i m p r;have s0:=Qa d.out 0 _ Z;have s1:=Qa d.out 1 _ Z;have s2:=Qa d.out 2 _ Z;have s3:=Qa d.out 3 _ Z;have W:=Qe d.out 0;have f1:=Qe d.out 1;have f2:=Qe d.out 2;have f3:=Qe d.out 3;have y:=Qc (HTo.st4 (w:=w) A.out B.out (fun _ h=>h) L.out I.out 0 0 0 0);have j:=Qc (ZY d.out 0 0 0 0);go_wp2
 generalize ((((t.setCell ⟨R,0,none⟩ (Iv 0)).setCell ⟨R,1,none⟩ (Iv 0)).setCell ⟨R,2,none⟩ (Iv 0)).setCell ⟨R,3,none⟩ (Iv 0))=N at y j |-;have P:=Qa j.out 0 _ Z;have V:=Qa j.out 1 _ Z;have D:=Qa j.out 2 _ Z;have K:=Qa j.out 3 _ Z;exact Xy (v:=.tuple #[.agg #[Iv 0,Iv 0,Iv 0,Iv 0],Iv 20]) (by simp[results,results141,go_sem,P,V,D,K]) Z ⟨by rw[E.out]<;>rfl,by rw[E.out];exact y.out⟩
theorem QhY {h:Qd}{G:HG}(H:HIn w b O h G) (v:Qj) (x:v.ok){l:List Qj}(hn:l.length=n) (hb:n<=1099511627776) (t:VIn w a l){p:Qi}(D:h.at v=some p) (r:p.tight (QeF n)=true) (m:h.left=0) (U:0<=p.used/\p.used<=1099511627776) :
 Calls prog 141 #[Pv b 0,QL v,.slice a n c] w fun e w'=>e=.returned (.tuple #[QL (h.tuple v (l.map Qj.bare)).1,Iv (h.tuple v (l.map Qj.bare)).2.1])/\HTo w w' b O (h.tuple v (l.map Qj.bare)).2.2:=by
 have i:=Qc (Qak w (.cells #[Iv v.kind,Iv v.region,Iv v.thing,Iv v.n] 211) (.cells #[Iv 0,Iv 0,Iv 0,Iv 0] 211));have g:=Qc (QhC w #[Iv v.kind,Iv v.region,Iv v.thing,Iv v.n] 211 (.cells #[Iv 0,Iv 0,Iv 0,Iv 0] 211));have f:=Qc (Qb7 w (.cells #[Iv v.kind,Iv v.region,Iv v.thing,Iv v.n] 211) #[Iv 0,Iv 0,Iv 0,Iv 0] 211);have u:=Qc H;have o:=Qc (H.below i.out);have s:=Qc (t.below i.out)
 have E:Hid (h.tuple v (l.map Qj.bare)=(noV,14,h)):=by
  show _=_;unfold Qd.tuple;rw[XN,hn];exact Qd.put_full _ _ D r m
 have C:=Qc (QdH o.out v x (QeF n) D r m (by unfold QeF;split<;>omega) U);have W:=Qeq n;clear H x t;have F:=Qc r;clear r;go_enter func141,ntmps141
 go_upto_region 1 with fail
 generalize ((w.alloc (.cells #[Iv v.kind,Iv v.region,Iv v.thing,Iv v.n] 211)).alloc (.cells #[Iv 0,Iv 0,Iv 0,Iv 0] 211))=w1 at i g f o C s |-;obtain⟨X,A⟩:∃ X,X=w.heap.size:=⟨_,Z⟩
 obtain⟨R,z⟩:∃ R,R=X+1:=⟨_,Z⟩
 have Q:Hid (w.heap.size<=R):=by show _<=_;omega
 have M:Hid (¬ O R):=fun e=>by have:=u.out.lt R e;omega
 rw[<-A] at g f |-
 rw[<-z] at f |-
 clear A z;have S:=Qa g.out 0 _ Z;have x1:=Qa g.out 1 _ Z;have L:=Qa g.out 2 _ Z;have N:=Qa g.out 3 _ Z;have r0:=Qc f.out;go_wp2_with fail
 refine C.out.mono ?_;rintro e y ⟨rfl,q⟩;have I:=Qc (o.out.below q);have J:Hid (QE O O w y):=QE.of_below (i.out.trans (q.mono i.out.size)) (fun k hk=>.inl hk);have d:=Qc ((q.block R (XC f.out)).trans f.out);clear S x1 L N r0 C q g f i o s u;have s0:=Qa d.out 0 _ Z;have s1:=Qa d.out 1 _ Z;have s2:=Qa d.out 2 _ Z;have s3:=Qa d.out 3 _ Z;have f0:=Qe d.out 0;have f1:=Qe d.out 1;have f2:=Qe d.out 2;have f3:=Qe d.out 3;have B:=Qc (HTo.st4 (w:=w) I.out J.out (fun _ h=>h) Q.out M.out 0 0 0 0);have j:=Qc (ZY d.out 0 0 0 0);go_wp2
 generalize ((((y.setCell ⟨R,0,none⟩ (Iv 0)).setCell ⟨R,1,none⟩ (Iv 0)).setCell ⟨R,2,none⟩ (Iv 0)).setCell ⟨R,3,none⟩ (Iv 0))=T at B j |-;have V:=Qa j.out 0 _ Z;have e1:=Qa j.out 1 _ Z;have K:=Qa j.out 2 _ Z;have P:=Qa j.out 3 _ Z;exact Xy (v:=.tuple #[.agg #[Iv 0,Iv 0,Iv 0,Iv 0],Iv 14]) (by simp[results,results141,go_sem,V,e1,K,P]) Z ⟨by rw[E.out]<;>rfl,by rw[E.out];exact B.out⟩
theorem QlS {h:Qd}{G:HG}(H:HIn w b O h G) (v:Qj) (hv:v.ok){l:List Qj}(hn:l.length=n) (hb:n<=1099511627776) (hl:VIn w a l){p:Qi}(ha:h.at v=some p)(j:v.region=k) (s:¬ (p.tight (QeF n)=true/\h.left=0)) (hu:0<=p.used/\p.used<=1099511627776) (aj:p.pages<=1099511627776) (S:h.left<=1099511627776) (ad:p.l.length<=1099511627776) (V:∀ g o,a=some ⟨g,o,none⟩->¬ O g) :
 Calls prog 141 #[Pv b 0,QL v,.slice a n c] w fun e w'=>e=.returned (.tuple #[QL (h.tuple v (l.map Qj.bare)).1,Iv (h.tuple v (l.map Qj.bare)).2.1])/\HTo w w' b O (h.tuple v (l.map Qj.bare)).2.2:=by
 have M:=Qc (Qak w (.cells #[Iv v.kind,Iv v.region,Iv v.thing,Iv v.n] 211) (.cells #[Iv 0,Iv 0,Iv 0,Iv 0] 211));have D:=Qc (QhC w #[Iv v.kind,Iv v.region,Iv v.thing,Iv v.n] 211 (.cells #[Iv 0,Iv 0,Iv 0,Iv 0] 211));have m:=Qc (Qb7 w (.cells #[Iv v.kind,Iv v.region,Iv v.thing,Iv v.n] 211) #[Iv 0,Iv 0,Iv 0,Iv 0] 211);have H0:=Qc H;have H1:=Qc (H.below M.out);have HL:=Qc (hl.below M.out)
 have E:Hid (h.tuple v (l.map Qj.bare)=(⟨3,k,p.l.length,0⟩,0,⟨h.L.set k { p.roomed (QeF n) with l:=p.l++[⟨false,l.map Qj.bare⟩] },h.roomLeft p (QeF n)⟩)):=by
  show _=_;unfold Qd.tuple;rw[XN,hn]
  exact Qd.put_ok _ _ ha j s
 have C:=Qc (QgF H1.out v hv (QeF n) ha j s (by unfold QeF;split<;>omega) hu aj S);have ao:=Qeq n;obtain⟨-,-,f,al,ac,T⟩:=Qd.at_some ha
 have ek:f=k:=by omega
 subst ek;have ab:=Qc ac;have ag:=Qc T;have W:=Qc hn;have ak:=Qc j;have ai:=Qc V;clear V;clear H hv hl ha s al ac T hn j;go_enter func141,ntmps141
 go_upto_region 1 with fail
 generalize ((w.alloc (.cells #[Iv v.kind,Iv v.region,Iv v.thing,Iv v.n] 211)).alloc (.cells #[Iv 0,Iv 0,Iv 0,Iv 0] 211))=w1 at M D m H1 C HL |-;obtain⟨X,hX⟩:∃ X,X=w.heap.size:=⟨_,Z⟩
 obtain⟨R,hR⟩:∃ R,R=X+1:=⟨_,Z⟩
 have HR:Hid (w.heap.size<=R):=by show _<=_;omega
 have NR:Hid (¬ O R):=fun e=>by have:=H0.out.lt R e;omega
 rw[<-hX] at D m |-
 rw[<-hR] at m |-
 clear hX hR;have x0:=Qa D.out 0 _ Z;have x1:=Qa D.out 1 _ Z;have x2:=Qa D.out 2 _ Z;have x3:=Qa D.out 3 _ Z;have r0:=Qc m.out;go_wp2_with fail
 refine C.out.mono ?_;rintro e N ⟨rfl,h2,y⟩;have A:=Qc h2;have SZ:Hid (QE O O w N):=(QE.of_below (O:=O) M.out (fun k hk=>.inl hk)).trans y;have B:Hid (R<w1.heap.size):=XC m.out;have U:Hid (¬ O R):=NR.out;have J:=Qc ((y.block R (XC m.out) NR.out).trans m.out);have VI:=Qc (VIn.step HL.out y ai.out);clear x0 x1 x2 x3 r0 C h2 D m H1 HL;go_wp2_with fail
 refine(Qe6 W.out hb VI.out).mono ?_
 rintro e w3 ⟨g,rfl,hg,r,b3⟩;have q:=Qc r;have F:=Qc b3;have HG:=Qc hg
 have I:(⟨h.L.set f (p.roomed (QeF n)),h.roomLeft p (QeF n)⟩:Qd).L[f]?=some (p.roomed (QeF n)):=by
  have:=(Zi ab.out).1
  simp[this]
 have z:(p.roomed (QeF n)).there=true:=by rw[Qi.roomed_there];exact ag.out
 obtain⟨tv,pv,RI⟩:=(A.out.below b3).reg f _ I z
 have PA:ZI w3 (.slice (some ⟨g,0,none⟩) (⟨false,l.map Qj.bare⟩:Qq).l.length n) (⟨false,l.map Qj.bare⟩:Qq).l:=by
  have i:(l.map Qj.bare).length=n:=by rw[XN,W.out]
  refine⟨⟨_,_,Z⟩,fun _=>⟨g,n,Z,?_⟩⟩
  show w3.rowIs g _ ((l.map Qj.bare).length*4) _;rw[i];exact q.out
 have pb:∀ x,Qcn (.slice (some ⟨g,0,none⟩) (⟨false,l.map Qj.bare⟩:Qq).l.length n) ⟨false,l.map Qj.bare⟩ x->N.heap.size<=x:=fun x u=>by
  have:=ownBlock_slice.1 u.2
  have:=HG.out
  omega
 have CA:=QgY RI PA (fun x u hS=>by have:=A.out.lt x (A.out.os f x hS).1;have:=pb x u;omega) (fun x u=>Zl (A.out.lt x (A.out.os f x u).1) F.out.size) (by rw[Qi.roomed_l];exact ad);rw[show (⟨false,l.map Qj.bare⟩:Qq).l.length=n by show (l.map Qj.bare).length=n;rw[XN,W.out],Qi.roomed_l] at CA
 have aa:Hid (Calls prog 198 #[Pv (G.g f) 0,Iv 3,.slice (some ⟨g,0,none⟩) n n] w3 fun e w'=>e=.returned (.agg #[Iv 3,Iv f,Iv p.l.length,Iv 0])/\∃ K G',HIn w' b K ⟨h.L.set f { p.roomed (QeF n) with l:=p.l++[⟨false,l.map Qj.bare⟩] },h.roomLeft p (QeF n)⟩ G'/\QE O K N w'/\(∀ x,O x->K x)/\(∀ x,K x->O x\/N.heap.size<=x)):=by
  refine CA.mono ?_;rintro e w4 ⟨rfl,ah⟩;refine⟨Z,?_⟩
  have i:(⟨false,l.map Qj.bare⟩:Qq).l.length=n:=by show (l.map Qj.bare).length=n;rw[XN,W.out]
  have AD:=A.out.added (w4:=w4) F.out I z (t:=⟨false,l.map Qj.bare⟩) (va:=some ⟨g,0,none⟩) (vc:=n) pb (by rw[i,Qi.roomed_l];exact ah);rw[Qi.roomed_l] at AD
  simpa only [List.set_set] using AD
 have P:=Qc J.out;have am:=Qc ((b3.block R (by have:=B.out;have:=y.size;omega)).trans J.out);have ae:Hid (R<N.heap.size):=Zl B.out y.size;clear r hg b3 RI PA pb CA I z q HG J VI ab ag W ak ai y A M H0 B hb hu aj S ad;go_wp2_with fail
 refine aa.out.mono ?_;rintro e w4 ⟨rfl,K,G',h4,s4,o4,n4⟩
 have af:¬ K R:=fun e=>by
  rcases n4 R e with h | h
  ·exact U.out h
  ·have:=ae.out;omega
 have d:=Qc ((s4.block R ae.out U.out).trans P.out);have K1:=Qc (HTo.st4 h4 (SZ.out.trans s4) (fun x u=>o4 x u) HR.out af 3 (f:Int) (p.l.length:Int) 0);have Q:=Qc (ZY d.out 3 (f:Int) (p.l.length:Int) 0);have s0:=Qa d.out 0 _ Z;have s1:=Qa d.out 1 _ Z;have y:=Qa d.out 2 _ Z;have s3:=Qa d.out 3 _ Z;have f0:=Qe d.out 0;have f1:=Qe d.out 1;have f2:=Qe d.out 2;have f3:=Qe d.out 3;clear h4 s4 o4 n4 af aa F am;go_wp2
 generalize ((((w4.setCell ⟨R,0,none⟩ (Iv 3)).setCell ⟨R,1,none⟩ (Iv (f:Int))).setCell ⟨R,2,none⟩ (Iv (p.l.length:Int))).setCell ⟨R,3,none⟩ (Iv 0))=an at K1 Q |-;have e0:=Qa Q.out 0 _ Z;have e1:=Qa Q.out 1 _ Z;have e2:=Qa Q.out 2 _ Z;have e3:=Qa Q.out 3 _ Z;exact Xy (v:=.tuple #[.agg #[Iv 3,Iv f,Iv p.l.length,Iv 0],Iv 0]) (by simp[results,results141,go_sem,e0,e1,e2,e3]) Z ⟨by rw[E.out]<;>rfl,by rw[E.out];exact K1.out⟩
theorem Qei (w:World) (m x u d:TypeId) (s g o b dCap:Nat) (a:Addr) (sLen sCap:Nat) (c:Array Value) (t:TypeId) (cs:List Value)
 (n:P.underlying m=some (.slice d)) (k:(P.info? d).map (·.size)=some s)
 (p:w.heap[g]?=some (.cells c t (0,0))) (hn:cs.length=Nat.min sLen b*s)
 (e:∀ j v,cs[j]?=some v->w.cell? (a.add j)=some v) (f:o+cs.length<=c.size) (r:∀ v∈cs,v.oneCell'=true) :
 (Builtin.copy_ #[m,x] u #[.slice (some ⟨g,o,none⟩) b dCap,.slice (some a) sLen sCap]).run P w =
  .ok (goInt (Nat.min sLen b)) (w.setRow g (c.toList.take o++cs++c.toList.drop (o+cs.length)).toArray):=by
 have l:=run_loadCells_list (P:=P) w a cs e;have h:=run_storeCells_at P g o t cs 0 c w p (by simpa using f) r;rw[hn] at l
 cases hq:P.info? d with
 | none=>simp[hq] at k
 | some i =>
   have q:i.size=s:=by simpa[hq] using k
   simp[Builtin.copy_,run_underlying n,Builtin.lenOf,Builtin.firstCells,sizeOf,typeInfo,hq,q,l,h]
theorem Qhe {f:Nat->Value}{c:Array Value}(d:w.heap[g]?=some (.cells c t (0,0))) (n:c.size=N) (h:∀ i,i<N->c[i]?=some (f i)) (l:o+cs.length<=N) :
 (w.setRow g (c.toList.take o++cs++c.toList.drop (o+cs.length)).toArray).rowIs g t N (fun j=>if o<=j/\j<o+cs.length then cs.getD (j - o) undef else f j):=by
 refine⟨_,setRow_heap w g c _ t _ d,by simp;omega,fun i e=>?_⟩
 have a:(c.toList.take o).length=o:=by simp;omega
 have b:=h i e;rw[List.getElem?_toArray]
 show _=some (if o<=i/\i<o+cs.length then cs.getD (i - o) undef else f i);by_cases k:i<o
 ·rw[Xr (by omega),List.append_assoc,XP (by omega),XR,Xs k]
  simpa using b
 ·by_cases m:i<o+cs.length
  ·rw[Xs (by omega),XP (by simp;omega),XQ (by omega),a]
   simp[List.getD,show i - o<cs.length by omega]
  ·rw[Xr (by omega),XQ (by simp;omega)]
   simp only[List.length_append,a]
   rw[List.getElem?_drop,show o+cs.length+(i - (o+cs.length))=i by omega]
   simpa using b
def Qaj (k:Nat):List Value:=(List.range (k*4)).map fun j=>vAt (Qa9 0) (j%4)
theorem ZS (k:Nat):(Qaj k).length=k*4:=by simp[Qaj]
theorem Qb5 (k j:Nat) (v:Value) (h:(Qaj k)[j]?=some v):j<k*4/\v=vAt (Qa9 0) (j%4):=by
 have a:=(Zi h).1;rw[ZS] at a
 refine⟨a,?_⟩
 simp[Qaj,a] at h
 exact h.symm
theorem QfP (k:Nat):∀ v∈Qaj k,v.oneCell'=true:=by
 intro v a;obtain⟨j,b,rfl⟩:=List.mem_map.1 a
 have:j%4=0\/j%4=1\/j%4=2\/j%4=3:=by omega
 rcases this with h | h | h | h<;>rw[h]<;>rfl
abbrev Qco (n:Nat):List Qj:=List.replicate n (Qa9 0)
theorem Qep (a:m<=n) (b:j<n*4):Zc (Zv (Qco n) m) j=if j<m*4 then vAt (Qa9 0) (j%4) else Iv 0:=by
 unfold Zc Zv;simp only[List.getD,List.length_replicate]
 by_cases h:j<m*4
 ·rw[Xs h,XP (by simp;omega)]
  rw[XR,Xs (by omega),List.getElem?_replicate,Xs (by omega)];rfl
 ·rw[Xr h,XQ (by simp;omega)]
  have e:((List.replicate (n - m) noV)[j / 4 - (List.take m (Qco n)).length]?.getD noV)=noV:=by
   rw[List.getElem?_replicate];split<;>rfl
  rw[e]
  have:j%4=0\/j%4=1\/j%4=2\/j%4=3:=by omega
  rcases this with h | h | h | h<;>rw[h]<;>rfl
theorem Qe9 {sLen sCap dCap:Nat}{a:Addr}(s:m<=n) (x:w.rowIs g 211 (n*4) (Zc (Zv (Qco n) m))) (r:Nat.min sLen (n - m)=k) (e:∀ j v,(Qaj k)[j]?=some v->w.cell? (a.add j)=some v) (q:TypeId) :
 ∃ w',(Builtin.copy_ #[98,98] q #[.slice (some ⟨g,m*4,none⟩) (n - m) dCap,.slice (some a) sLen sCap]).run prog w=.ok (Iv k) w'/\w'.rowIs g 211 (n*4) (Zc (Zv (Qco n) (m+k)))/\∀ B w0,Below B w0 w->B<=g->Below B w0 w':=by
 obtain⟨c,l,u,t⟩:=x
 have f:m+k<=n:=by have:Nat.min sLen (n - m)<=n - m:=Nat.min_le_right _ _;omega
 have h:(prog.info? 211).map (·.size)=some 4:=by kernel_rfl
 have b:=Qei (P:=prog) w 98 98 q 211 4 g (m*4) (n - m) dCap a sLen sCap c 211 (Qaj k) hUnderVs h l (by rw[ZS,r]) e (by rw[ZS];omega) (QfP k);rw[r] at b
 refine⟨_,b,(Qhe l u t (by rw[ZS];omega)).congr fun j i=>?_,fun B w0 y z=>below_setRow y z _⟩
 rw[ZS,Qep f i,Qep s i]
 by_cases p:j<m*4
 ·rw[Xr (by omega),Xs p,Xs (by omega)]
 ·by_cases o:j<(m+k)*4
  ·rw[Xs (by omega),Xs o]
   have d:j - m*4<(Qaj k).length:=by rw[ZS];omega
   rw[List.getD,Zg d,Option.getD_some]
   rw[(Qb5 k (j - m*4) _ (Zg d)).2,show (j - m*4)%4=j%4 by omega]
  ·rw[Xr (by omega),Xr p,Xr o]
theorem QmZ (w:World) (n:Nat) (hn:n<=15):Calls prog 284 #[.int .u64 1,.int .u64 (n:Int)] w fun e w'=>e=.returned (.tuple #[.int .u64 0,.int .u64 (n:Int)])/\w'=w:=by
 match n,hn with
 | 0,_ | 1,_ | 2,_ | 3,_ | 4,_ | 5,_ | 6,_ | 7,_ | 8,_ | 9,_ | 10,_ | 11,_ | 12,_ | 13,_ | 14,_ | 15,_ =>
   go_enter func284,ntmps284
   go_wp2
   go_ret2;exact⟨Z,Z⟩
 | n+16,h=>omega
theorem Qn7 (w:World) (n:Nat) (hn:n<=15):Calls prog 265 #[.int .u64 1,.int .u64 (n:Int)] w fun e w'=>e=.returned (.tuple #[.int .u64 0,.int .u64 (n:Int)])/\w'=w:=by
 have C:=Qc (QmZ w n hn);go_enter func265,ntmps265
 go_wp2_with (go_at_call 284;refine(C.out).mono ?_;rintro e w' ⟨rfl,a⟩;have a:=a.symm;subst a)
 go_ret2;exact⟨Z,Z⟩
theorem Qfa (g o j:Nat):(⟨g,o,none⟩:Addr).add j=⟨g,o+j,none⟩:=Go.WideShapes.add_plain g o j
theorem Qga {s:Nat}(F:w.heap[s]?=some (.cells #[Iv 1,Iv 0,Iv 0,Iv 0] 211 (0,0))) (xc n:Nat) (hn:n<=15) :
 Calls prog 234 #[.slice (some ⟨s,0,none⟩) 1 xc,Iv (n:Int)] w fun e w'=>∃ g,e=.returned (.slice (some ⟨g,0,none⟩) n n)/\w.heap.size<=g/\w'.rowIs g 211 (n*4) (Zc (Qco n))/\Below w.heap.size w w':=by
 have C:=Qc (Qn7 w n hn);have ae:=Qb6 n (by omega) w
 have M:Hid ((w.alloc (.cells (madeCells (#[Iv 0,Iv 0,Iv 0,Iv 0]:Array Value) (n*4)) 211)).rowIs w.heap.size 211 (n*4) (Zc (Zv (Qco n) 0))):=by
  have:=QcJ w n
  rw[QcM,List.length_replicate]
  rw[List.length_replicate] at this
  exact this
 have D:=Qc (QW w (.cells (madeCells (#[Iv 0,Iv 0,Iv 0,Iv 0]:Array Value) (n*4)) 211))
 have a:∀ j v,(Qaj (Nat.min 1 (n - 0)))[j]?=some v->(w.alloc (.cells (madeCells (#[Iv 0,Iv 0,Iv 0,Iv 0]:Array Value) (n*4)) 211)).cell? ((⟨s,0,none⟩:Addr).add j)=some v:=fun j v x=>by
  obtain⟨U,l⟩:=Qb5 _ j v x
  have B:j<4:=by have:Nat.min 1 (n - 0)<=1:=Nat.min_le_left _ _;omega
  rw[Qfa,XK,l]
  have q:=(D.out.block s (XC F)).trans F;match j,B with
  | 0,_=>exact Qa q 0 _ Z
  | 1,_=>exact Qa q 1 _ Z
  | 2,_=>exact Qa q 2 _ Z
  | 3,_=>exact Qa q 3 _ Z
  | j+4,h=>omega
 obtain⟨w2,c,P,S⟩:=Qe9 (sLen:=1) (sCap:=xc) (dCap:=n) (Xb n) M.out Z a 3
 have d:=Qc P;have B2:=Qc (S _ _ D.out Ze);have HN:=Qc hn;have ab:0<=(n:Int):=by omega
 have X:(n:Int)<=15:=by omega
 have af:IntKind.u64.wrap (n:Int)=(n:Int):=by rw[IntKind.wrap_u64];omega
 have ad:IntKind.i64.wrap (n:Int)=(n:Int):=by rw[IntKind.wrap_i64];omega
 have ac:decide ((n:Int)>9223372036854775807)=false:=Xu (by omega);simp only[Nat.zero_mul,Nat.sub_zero] at c d
 rw[XK] at d
 generalize o:Nat.min 1 n=z at c d
 have k:Hid (z<=n/\(z=0->n=0)):=by
  rw[<-o]
  refine⟨Nat.min_le_right _ _,fun h=>?_⟩
  show n=0
  have:min 1 n=0:=h
  omega
 clear F P S M D a o;go_enter func234,ntmps234
 go_wp2_with (go_at_call 265;refine(C.out).mono ?_;rintro e w' ⟨rfl,u⟩;have u:=u.symm;subst u)
 obtain⟨g,Q⟩:∃ g,g=w.heap.size:=⟨_,Z⟩
 have I:Hid (w.heap.size<=g):=by show _<=_;omega
 rw[<-Q] at d |-
 clear Q;go_loopw [8] (fun i wr=>∃ m:Nat,m<=n/\(m=0->n=0)/\i=Iv m/\wr.rowIs g 211 (n*4) (Zc (Zv (Qco n) m))/\Below w.heap.size w wr) (fun i _=>n - (intOf i).toNat)
 case atStart=>exact⟨z,k.out.1,k.out.2,Z,d.out,B2.out⟩
 case round =>
  obtain⟨m,H,p,rfl,T,N⟩:=hrel
  have r:=Qc T;have L:=Qc N;have y:=Qc p;clear T N p;by_cases aa:m<n
  ·have W:(m:Int)<n:=by omega
   have G:0<m:=by have:=y.out;omega
   have a:∀ j v,(Qaj (Nat.min m (n - m)))[j]?=some v->wr.drew.cell? ((⟨g,0,none⟩:Addr).add j)=some v:=fun j v x=>by
    obtain⟨U,l⟩:=Qb5 _ j v x
    have hl:Nat.min m (n - m)<=m:=Nat.min_le_left _ _;have O:wr.cell? ⟨g,j,none⟩=some (Zc (Zv (Qco n) m) j):=r.out.cell (by omega);rw[Qep H (by omega),Xs (by omega)] at O
    rw[Qfa,XK,l]
    exact O
   obtain⟨w3,E,R,K⟩:=Qe9 (w:=wr.drew) (sLen:=m) (sCap:=n) (dCap:=n - m) H r.out Z a 3
   have V:=Qc R;have B3:=Qc (K _ _ (QkP L.out) I.out);generalize f:Nat.min m (n - m)=t at E V
   have b:Hid (0<t/\m+t<=n):=by
    rw[<-f]
    have U:Nat.min m (n - m)<=n - m:=Nat.min_le_right _ _;have l:0<Nat.min m (n - m):=Nat.lt_min.2 ⟨G,by omega⟩;exact⟨l,by omega⟩
   have J:t<=n:=by have:=b.out;omega
   clear R K a f r;go_wp2_with fail
   go_region;go_wp2
   go_roundw
   case rel=>exact⟨m+t,b.out.2,fun e=>by have:=b.out;omega,by go_num,V.out,B3.out⟩
   case measure=>have:=b.out;simp[intOf];omega
  ·have A:m=n:=by omega
   subst A;go_wp2
   go_ret;refine⟨g,Z,I.out,?_,L.out⟩
   have:=r.out
   rw[show Zv (Qco m) m=Qco m by have:=Qd8 (Qco m);rwa [List.length_replicate] at this] at this
   exact this
theorem Qd.array_eq {h:Qd}{v:Qj}(hb:n<=15):h.array v (n:Int)=h.put v ⟨true,Qco n⟩ ((n:Int)+1):=by unfold Qd.array;rw[Xr (by omega),XT]
theorem Qd.array_none {h:Qd}{v:Qj}(hb:n<=15) (a:h.at v=none):h.array v (n:Int)=(noV,20,h):=by rw[Qd.array_eq hb];unfold Qd.put;rw[a]
theorem QiL {h:Qd}{G:HG}(H:HIn w b O h G) (v:Qj) (m:v.ok)(hb:n<=15) (s:h.at v=none) :
 Calls prog 200 #[Pv b 0,QL v,Iv (n:Int)] w fun e w'=>e=.returned (.tuple #[QL (h.array v (n:Int)).1,Iv (h.array v (n:Int)).2.1])/\HTo w w' b O (h.array v (n:Int)).2.2:=by
 have f:=Qc (Qak w (.cells #[Iv v.kind,Iv v.region,Iv v.thing,Iv v.n] 211) (.cells #[Iv 0,Iv 0,Iv 0,Iv 0] 211));have d:=Qc (QhC w #[Iv v.kind,Iv v.region,Iv v.thing,Iv v.n] 211 (.cells #[Iv 0,Iv 0,Iv 0,Iv 0] 211));have c:=Qc (Qb7 w (.cells #[Iv v.kind,Iv v.region,Iv v.thing,Iv v.n] 211) #[Iv 0,Iv 0,Iv 0,Iv 0] 211);have l:=Qc H;have i:=Qc (H.below f.out)
 have E:Hid (h.array v (n:Int)=(noV,20,h)):=by
  show _=_;exact Qd.array_none hb s
 have C:=Qc (QdN i.out v m ((n:Int)+1) s);have D:(n:Int)<=15:=by omega
 have t:decide ((n:Int)>15)=false:=Xu (by omega);have N:decide ((n:Int)<0)=false:=Xu (by omega);clear H m;go_enter func200,ntmps200
 go_upto_region 1 with fail
 generalize ((w.alloc (.cells #[Iv v.kind,Iv v.region,Iv v.thing,Iv v.n] 211)).alloc (.cells #[Iv 0,Iv 0,Iv 0,Iv 0] 211))=U at f d c i C |-;obtain⟨X,q⟩:∃ X,X=w.heap.size:=⟨_,Z⟩
 obtain⟨R,p⟩:∃ R,R=X+1:=⟨_,Z⟩
 have I:Hid (w.heap.size<=R):=by show _<=_;omega
 have A:Hid (¬ O R):=fun e=>by have:=l.out.lt R e;omega
 rw[<-q] at d c |-
 rw[<-p] at c |-
 clear q p;have J:=Qa d.out 0 _ Z;have M:=Qa d.out 1 _ Z;have z:=Qa d.out 2 _ Z;have B:=Qa d.out 3 _ Z;have P:=Qc c.out;go_wp2_with fail
 refine C.out.mono ?_;rintro e o ⟨rfl,j⟩;have u:=Qc (i.out.below j);have x:Hid (QE O O w o):=QE.of_below (f.out.trans (j.mono f.out.size)) (fun k Q=>.inl Q);have a:=Qc ((j.block R (XC c.out)).trans c.out);clear J M z B P C j d c f i l;have s0:=Qa a.out 0 _ Z;have V:=Qa a.out 1 _ Z;have W:=Qa a.out 2 _ Z;have s3:=Qa a.out 3 _ Z;have T:=Qe a.out 0;have f1:=Qe a.out 1;have f2:=Qe a.out 2;have f3:=Qe a.out 3;have r:=Qc (HTo.st4 (w:=w) u.out x.out (fun _ h=>h) I.out A.out 0 0 0 0);have g:=Qc (ZY a.out 0 0 0 0);go_wp2
 generalize ((((o.setCell ⟨R,0,none⟩ (Iv 0)).setCell ⟨R,1,none⟩ (Iv 0)).setCell ⟨R,2,none⟩ (Iv 0)).setCell ⟨R,3,none⟩ (Iv 0))=K at r g |-;have L:=Qa g.out 0 _ Z;have S:=Qa g.out 1 _ Z;have y:=Qa g.out 2 _ Z;have F:=Qa g.out 3 _ Z;exact Xy (v:=.tuple #[.agg #[Iv 0,Iv 0,Iv 0,Iv 0],Iv 20]) (by simp[results,results200,go_sem,L,S,y,F]) Z ⟨by rw[E.out]<;>rfl,by rw[E.out];exact r.out⟩
theorem Qjz {h:Qd}{G:HG}(H:HIn w b O h G) (v:Qj) (o:v.ok)(hb:n<=15){p:Qi}(x:h.at v=some p) (t:p.tight ((n:Int)+1)=true) (i:h.left=0) (P:0<=p.used/\p.used<=1099511627776) :
 Calls prog 200 #[Pv b 0,QL v,Iv (n:Int)] w fun e w'=>e=.returned (.tuple #[QL (h.array v (n:Int)).1,Iv (h.array v (n:Int)).2.1])/\HTo w w' b O (h.array v (n:Int)).2.2:=by
 have f:=Qc (Qak w (.cells #[Iv v.kind,Iv v.region,Iv v.thing,Iv v.n] 211) (.cells #[Iv 0,Iv 0,Iv 0,Iv 0] 211));have d:=Qc (QhC w #[Iv v.kind,Iv v.region,Iv v.thing,Iv v.n] 211 (.cells #[Iv 0,Iv 0,Iv 0,Iv 0] 211));have c:=Qc (Qb7 w (.cells #[Iv v.kind,Iv v.region,Iv v.thing,Iv v.n] 211) #[Iv 0,Iv 0,Iv 0,Iv 0] 211);have m:=Qc H;have j:=Qc (H.below f.out)
 have E:Hid (h.array v (n:Int)=(noV,14,h)):=by
  show _=_;rw[Qd.array_eq hb];exact Qd.put_full _ _ x t i
 have C:=Qc (QdH j.out v o ((n:Int)+1) x t i (by omega) P);have J:(n:Int)<=15:=by omega
 have y:decide ((n:Int)>15)=false:=Xu (by omega);have T:decide ((n:Int)<0)=false:=Xu (by omega);clear H o;go_enter func200,ntmps200
 go_upto_region 1 with fail
 generalize ((w.alloc (.cells #[Iv v.kind,Iv v.region,Iv v.thing,Iv v.n] 211)).alloc (.cells #[Iv 0,Iv 0,Iv 0,Iv 0] 211))=w1 at f d c j C |-;obtain⟨X,s⟩:∃ X,X=w.heap.size:=⟨_,Z⟩
 obtain⟨R,r⟩:∃ R,R=X+1:=⟨_,Z⟩
 have L:Hid (w.heap.size<=R):=by show _<=_;omega
 have F:Hid (¬ O R):=fun e=>by have:=m.out.lt R e;omega
 rw[<-s] at d c |-
 rw[<-r] at c |-
 clear s r;have M:=Qa d.out 0 _ Z;have S:=Qa d.out 1 _ Z;have D:=Qa d.out 2 _ Z;have I:=Qa d.out 3 _ Z;have U:=Qc c.out;go_wp2_with fail
 refine C.out.mono ?_;rintro e q ⟨rfl,l⟩;have z:=Qc (j.out.below l);have A:Hid (QE O O w q):=QE.of_below (f.out.trans (l.mono f.out.size)) (fun k V=>.inl V);have a:=Qc ((l.block R (XC c.out)).trans c.out);clear M S D I U C l d c f j m;have s0:=Qa a.out 0 _ Z;have s1:=Qa a.out 1 _ Z;have s2:=Qa a.out 2 _ Z;have s3:=Qa a.out 3 _ Z;have f0:=Qe a.out 0;have f1:=Qe a.out 1;have f2:=Qe a.out 2;have f3:=Qe a.out 3;have u:=Qc (HTo.st4 (w:=w) z.out A.out (fun _ h=>h) L.out F.out 0 0 0 0);have g:=Qc (ZY a.out 0 0 0 0);go_wp2
 generalize ((((q.setCell ⟨R,0,none⟩ (Iv 0)).setCell ⟨R,1,none⟩ (Iv 0)).setCell ⟨R,2,none⟩ (Iv 0)).setCell ⟨R,3,none⟩ (Iv 0))=N at u g |-;have Q:=Qa g.out 0 _ Z;have W:=Qa g.out 1 _ Z;have B:=Qa g.out 2 _ Z;have K:=Qa g.out 3 _ Z;exact Xy (v:=.tuple #[.agg #[Iv 0,Iv 0,Iv 0,Iv 0],Iv 14]) (by simp[results,results200,go_sem,Q,W,B,K]) Z ⟨by rw[E.out]<;>rfl,by rw[E.out];exact u.out⟩
theorem Qlj {h:Qd}{G:HG}(H:HIn w b O h G) (v:Qj) (hv:v.ok)(hb:n<=15){p:Qi}(ha:h.at v=some p)(i:v.region=k) (q:¬ (p.tight ((n:Int)+1)=true/\h.left=0)) (hu:0<=p.used/\p.used<=1099511627776) (ae:p.pages<=1099511627776) (N:h.left<=1099511627776) (W:p.l.length<=1099511627776) :
 Calls prog 200 #[Pv b 0,QL v,Iv (n:Int)] w fun e w'=>e=.returned (.tuple #[QL (h.array v (n:Int)).1,Iv (h.array v (n:Int)).2.1])/\HTo w w' b O (h.array v (n:Int)).2.2:=by
 have B0:=Qc (Qak w (.cells #[Iv v.kind,Iv v.region,Iv v.thing,Iv v.n] 211) (.cells #[Iv 0,Iv 0,Iv 0,Iv 0] 211));have z:=Qc (QhC w #[Iv v.kind,Iv v.region,Iv v.thing,Iv v.n] 211 (.cells #[Iv 0,Iv 0,Iv 0,Iv 0] 211));have j:=Qc (Qb7 w (.cells #[Iv v.kind,Iv v.region,Iv v.thing,Iv v.n] 211) #[Iv 0,Iv 0,Iv 0,Iv 0] 211);have H0:=Qc H;have H1:=Qc (H.below B0.out)
 have E:Hid (h.array v (n:Int)=(⟨4,k,p.l.length,0⟩,0,⟨h.L.set k { p.roomed ((n:Int)+1) with l:=p.l++[⟨true,Qco n⟩] },h.roomLeft p ((n:Int)+1)⟩)):=by
  show _=_;rw[Qd.array_eq hb]
  exact Qd.put_ok _ _ ha i q
 have C:=Qc (QgF H1.out v hv ((n:Int)+1) ha i q (by omega) hu ae N);have aj:(n:Int)<=15:=by omega
 have ai:decide ((n:Int)>15)=false:=Xu (by omega);have al:decide ((n:Int)<0)=false:=Xu (by omega);obtain⟨-,-,c,ag,V,Q⟩:=Qd.at_some ha
 have ek:c=k:=by omega
 subst ek;have U:=Qc V;have ac:=Qc Q;have af:=Qc i;clear H hv ha q ag V Q i;go_enter func200,ntmps200
 go_upto_region 1 with fail
 generalize ((w.alloc (.cells #[Iv v.kind,Iv v.region,Iv v.thing,Iv v.n] 211)).alloc (.cells #[Iv 0,Iv 0,Iv 0,Iv 0] 211))=w1 at B0 z j H1 C |-;obtain⟨X,hX⟩:∃ X,X=w.heap.size:=⟨_,Z⟩
 obtain⟨R,hR⟩:∃ R,R=X+1:=⟨_,Z⟩
 have HR:Hid (w.heap.size<=R):=by show _<=_;omega
 have NR:Hid (¬ O R):=fun e=>by have:=H0.out.lt R e;omega
 rw[<-hX] at z j |-
 rw[<-hR] at j |-
 clear hX hR;have x0:=Qa z.out 0 _ Z;have x1:=Qa z.out 1 _ Z;have x2:=Qa z.out 2 _ Z;have x3:=Qa z.out 3 _ Z;have r0:=Qc j.out;go_wp2_with fail
 refine C.out.mono ?_;rintro e f ⟨rfl,h2,F⟩;have u:=Qc h2;have SZ:Hid (QE O O w f):=(QE.of_below (O:=O) B0.out (fun k hk=>.inl hk)).trans F;have y:Hid (R<w1.heap.size):=XC j.out;have S:Hid (¬ O R):=NR.out;have D:=Qc ((F.block R (XC j.out) NR.out).trans j.out);clear x0 x1 x2 x3 r0 C h2 z j H1;go_wp2_with fail
 refine(Qga (Qf f #[Iv 1,Iv 0,Iv 0,Iv 0] 211) 1 n hb).mono ?_
 rintro e w3 ⟨g,rfl,P,o,J⟩;have b3:Below f.heap.size f w3:=(QW f _).trans (J.mono (by simp));have hg:f.heap.size<=g:=Zt (by simp) P;clear P J;have m:=Qc o;have A:=Qc b3;have HG:=Qc hg
 have B:(⟨h.L.set c (p.roomed ((n:Int)+1)),h.roomLeft p ((n:Int)+1)⟩:Qd).L[c]?=some (p.roomed ((n:Int)+1)):=by
  have:=(Zi U.out).1
  simp[this]
 have s:(p.roomed ((n:Int)+1)).there=true:=by rw[Qi.roomed_there];exact ac.out
 obtain⟨tv,pv,RI⟩:=(u.out.below b3).reg c _ B s
 have PA:ZI w3 (.slice (some ⟨g,0,none⟩) (⟨true,Qco n⟩:Qq).l.length n) (⟨true,Qco n⟩:Qq).l:=by
  have d:(Qco n).length=n:=by simp
  refine⟨⟨_,_,Z⟩,fun _=>⟨g,n,Z,?_⟩⟩
  show w3.rowIs g _ ((Qco n).length*4) _;rw[d];exact m.out
 have pb:∀ x,Qcn (.slice (some ⟨g,0,none⟩) (⟨true,Qco n⟩:Qq).l.length n) ⟨true,Qco n⟩ x->f.heap.size<=x:=fun x r=>by
  have:=ownBlock_slice.1 r.2
  have:=HG.out
  omega
 have CA:=QgY RI PA (fun x r hS=>by have:=u.out.lt x (u.out.os c x hS).1;have:=pb x r;omega) (fun x r=>Zl (u.out.lt x (u.out.os c x r).1) A.out.size) (by rw[Qi.roomed_l];exact W);rw[show (⟨true,Qco n⟩:Qq).l.length=n by show (Qco n).length=n;simp,Qi.roomed_l] at CA
 have T:Hid (Calls prog 198 #[Pv (G.g c) 0,Iv 4,.slice (some ⟨g,0,none⟩) n n] w3 fun e w'=>e=.returned (.agg #[Iv 4,Iv c,Iv p.l.length,Iv 0])/\∃ I G',HIn w' b I ⟨h.L.set c { p.roomed ((n:Int)+1) with l:=p.l++[⟨true,Qco n⟩] },h.roomLeft p ((n:Int)+1)⟩ G'/\QE O I f w'/\(∀ x,O x->I x)/\(∀ x,I x->O x\/f.heap.size<=x)):=by
  refine CA.mono ?_;rintro e w4 ⟨rfl,ad⟩;refine⟨Z,?_⟩
  have d:(⟨true,Qco n⟩:Qq).l.length=n:=by show (Qco n).length=n;simp
  have AD:=u.out.added (w4:=w4) A.out B s (t:=⟨true,Qco n⟩) (va:=some ⟨g,0,none⟩) (vc:=n) pb (by rw[d,Qi.roomed_l];exact ad);rw[Qi.roomed_l] at AD
  simpa only [List.set_set] using AD
 have K:=Qc D.out;have ah:=Qc ((b3.block R (by have:=y.out;have:=F.size;omega)).trans D.out);have aa:Hid (R<f.heap.size):=Zl y.out F.size;clear o hg b3 RI PA pb CA B s m HG D U ac af F u B0 H0 y hb hu ae N W;go_wp2_with fail
 refine T.out.mono ?_;rintro e w4 ⟨rfl,I,G',h4,s4,o4,n4⟩
 have ab:¬ I R:=fun e=>by
  rcases n4 R e with h | h
  ·exact S.out h
  ·have:=aa.out;omega
 have a:=Qc ((s4.block R aa.out S.out).trans K.out);have K1:=Qc (HTo.st4 h4 (SZ.out.trans s4) (fun x r=>o4 x r) HR.out ab 4 (c:Int) (p.l.length:Int) 0);have M:=Qc (ZY a.out 4 (c:Int) (p.l.length:Int) 0);have s0:=Qa a.out 0 _ Z;have s1:=Qa a.out 1 _ Z;have F:=Qa a.out 2 _ Z;have s3:=Qa a.out 3 _ Z;have f0:=Qe a.out 0;have f1:=Qe a.out 1;have f2:=Qe a.out 2;have f3:=Qe a.out 3;clear h4 s4 o4 n4 ab T A ah;go_wp2
 generalize ((((w4.setCell ⟨R,0,none⟩ (Iv 4)).setCell ⟨R,1,none⟩ (Iv (c:Int))).setCell ⟨R,2,none⟩ (Iv (p.l.length:Int))).setCell ⟨R,3,none⟩ (Iv 0))=ak at K1 M |-;have e0:=Qa M.out 0 _ Z;have e1:=Qa M.out 1 _ Z;have e2:=Qa M.out 2 _ Z;have e3:=Qa M.out 3 _ Z;exact Xy (v:=.tuple #[.agg #[Iv 4,Iv c,Iv p.l.length,Iv 0],Iv 0]) (by simp[results,results200,go_sem,e0,e1,e2,e3]) Z ⟨by rw[E.out]<;>rfl,by rw[E.out];exact K1.out⟩
def HS (w0 w:World) (b:Nat) (h:Qd) (K:Nat->Prop):Prop:=∃ O G,HIn w b O h G/\(∀ x,O x->w0.heap.size<=x/\¬ K x)/\Below w0.heap.size w0 w
structure Qit (w0 w w':World) (b:Nat) (h':Qd) (K:Nat->Prop):Prop where
 st:HS w0 w' b h' K
 keep:∀ x,K x->w'.heap[x]?=w.heap[x]?
 size:w.heap.size<=w'.heap.size
structure HB (N:Nat) (h:Qd):Prop where
 ok:HOk N 1000000 h
 len:QdA N h
 live:h.live<=16
theorem HB.mono {N b:Nat}{h:Qd}(B:HB N h) (a:N<=b):HB b h:=⟨B.ok.mono a,B.len.mono a,B.live⟩
section
variable {w0 w w':World}{b N:Nat}{h h':Qd}{K K':Nat->Prop}
theorem HS.below (S:HS w0 w b h K):Below w0.heap.size w0 w:=by obtain⟨_,_,_,_,b⟩:=S;exact b
theorem Qit.of (d:∀ x,O x->w0.heap.size<=x/\¬ K x) (hb:Below w0.heap.size w0 w) (f:∀ x,K x->x<w.heap.size) (T:HTo w w' b O h'):Qit w0 w w' b h' K:=by
 obtain⟨i,h,l,a,m⟩:=T
 have g:=hb.size;refine⟨⟨i,h,l,fun x c=>?_,a.os.trans hb.os,a.tape.trans hb.tape,a.output.trans hb.output,Zt g a.size,fun k j=>(a.block k (by omega) (fun e=>by have:=(d k e).1;omega)).trans (hb.block k j)⟩,fun x c=>a.block x (f x c) (fun e=>(d x e).2 c),a.size⟩
 rcases a.own x c with e | e
 ·exact d x e
 ·exact⟨by omega,fun k=>by have:=f x k;omega⟩
theorem Qit.same (S:HS w0 w b h K) (d:∀ x,K x->x<w.heap.size) (c:Below w.heap.size w w'):Qit w0 w w' b h K:=by
 obtain⟨O,G,H,a,e⟩:=S
 exact Qit.of a e d (HTo.same (H.below c) c)
theorem HS.alloc (S:HS w0 w b h K) (o:Obj):HS w0 (w.alloc o) b h (fun x=>K x\/x=w.heap.size):=by
 obtain⟨O,G,H,d,f⟩:=S
 have c:=QW w o;refine⟨O,G,H.below c,fun x a=>⟨(d x a).1,fun e=>?_⟩,f.trans (c.mono f.size)⟩
 rcases e with e | e
 ·exact(d x a).2 e
 ·have:=H.lt x a;omega
theorem HS.set (S:HS w0 w b h K)(d:K X) (f:w0.heap.size<=X) (i:Nat) (v:Value):HS w0 (w.setCell ⟨X,i,none⟩ v) b h K:=by
 obtain⟨O,G,H,a,g⟩:=S
 exact⟨O,G,H.keep (by simp) (fun x c _=>Xd _ _ _ _ (fun e=>(a x c).2 (e ▸ d))),a,g.setCell (p:=⟨X,i,none⟩) f _⟩
theorem HS.grown (S:HS w0 w b h K){d:Option Nat}(g:w.grownBy w' d) (j:∀ x,d=some x->K x/\w0.heap.size<=x) (i:∀ x,K' x->K x\/w.heap.size<=x):HS w0 w' b h K':=by
 obtain⟨O,G,H,f,a⟩:=S
 refine⟨O,G,H.keep g.size (fun x c l=>g.block x l (fun e=>(f x c).2 (j x e.symm).1)),fun x c=>⟨(f x c).1,fun e=>?_⟩,g.os.trans a.os,g.tape.trans a.tape,g.output.trans a.output,Zt a.size g.size,fun k m=>(g.block k (by have:=a.size;omega) (fun e=>by have:=(j k e.symm).2;omega)).trans (a.block k m)⟩
 rcases i x e with e | e
 ·exact(f x c).2 e
 ·have:=H.lt x c;omega
theorem HS.mono (S:HS w0 w b h K) (a:∀ x,K' x->K x):HS w0 w b h K':=by
 obtain⟨O,G,H,c,f⟩:=S
 exact⟨O,G,H,fun x d=>⟨(c x d).1,fun e=>(c x d).2 (a x e)⟩,f⟩
theorem HB.pl (B:HB N h) (b:N<=1000000):∀ (k:Nat) (p:Qi),h.L[k]?=some p->p.l.length<=4611686018427387904:=fun k p a=>by have:=B.ok.things k p a;omega
theorem HB.open (B:HB N h):HB (N+1) h.open_.2.2:=⟨B.ok.open,B.len.open.mono (Nat.le_succ _),Qk1 B.live⟩
theorem HB.shut (B:HB N h) (v:Qj):HB N (h.shut v).2:=by
 refine⟨B.ok.shut v,B.len.shut v,?_⟩
 unfold Qd.shut
 cases ha:h.at v with
 | none=>exact B.live
 | some p =>
   obtain⟨_,_,j,c,a,b⟩:=Qd.at_some ha
   have:=Qd.live_set (h:=h) (q:=noP) a (h.left+p.pages)
   have d:=B.live;rw[b] at this
   simp only[c,Int.toNat_natCast]
   simp[noP] at this |-
   omega
theorem HB.tuple (B:HB N h) (v:Qj) (l:List Qj){M:Nat}(a:l.length<=M):HB (N+M+2) (h.tuple v l).2.2:=by
 refine⟨?_,(QdA.put (B.len.mono (show N<=N+M+2 by omega)) v ⟨false,l⟩ _ (by show l.length<=_;omega)),by rw[show h.tuple v l=h.put v ⟨false,l⟩ (if l.length=0 then 1 else l.length) from Z,QgG];exact B.live⟩
 exact(B.ok.put v ⟨false,l⟩ (words:=if l.length=0 then 1 else l.length) (M:=M+1) (by split<;>omega)).mono (by omega)
theorem HB.new (n:Nat) (hn:n<=1000000):HB 0 (Qd.new n):=⟨⟨(HOk.new n).len,(HOk.new n).things,(HOk.new n).used,by have:=(HOk.new n).pages;omega⟩,QdA.new 0 n,by simp[Qd.new,Qd.live]⟩
end
theorem QcS {l:List Qi}{r:Nat}{p:Qi}{t:Qq}{x:List Qj}(c:l[r]?=some p){q:Qi}(e:(l.set r { p with l:=p.l.set i { t with l:=x } })[k]?=some q):∃ q0,l[k]?=some q0/\q.used=q0.used/\q.l.length=q0.l.length/\(q=q0\/q={ p with l:=p.l.set i { t with l:=x } }/\q0=p):=by
 rcases Qbf e with a | a
 ·by_cases b:k=r
  ·subst b;exact⟨p,c,by rw[a],by rw[a];simp,.inr ⟨a,Z⟩⟩
  ·rw[List.getElem?_set_ne (Ne.symm b)] at e
   exact⟨q,e,Z,Z,.inl Z⟩
 ·exact⟨q,a,Z,Z,.inl Z⟩
theorem HB.set {h:Qd}(B:HB N h) (v:Qj) (k:Int) (x:Qj):HB N (h.set v k x).2:=by
 unfold Qd.set
 cases ht:h.thing v with
 | none=>exact B
 | some t =>
   cases hp:h.place v.region with
   | none=>exact B
   | some p =>
     simp only
     split
     ·exact B
     split
     ·exact B
     obtain⟨-,F,e,D,s,-⟩:=Qd.thing_iff.1 ht
     rw[hp] at e
     cases e
     obtain⟨C,b,A⟩:=Qd.place_some hp
     refine⟨⟨by simpa using B.ok.len,fun j q c=>?_,fun j q c=>?_,?_⟩,fun j q w u c a=>?_,?_⟩
     ·obtain⟨g,f,i,n,-⟩:=QcS b c
      rw[n];exact B.ok.things j g f
     ·obtain⟨g,f,i,n,-⟩:=QcS b c
      rw[i];exact B.ok.used j g f
     ·have z:=sum_set h.L v.region.toNat p { p with l:=p.l.set v.thing.toNat { t with l:=t.l.set k.toNat x } } b;have y:=B.ok.pages;have o:((h.L.set v.region.toNat { p with l:=p.l.set v.thing.toNat { t with l:=t.l.set k.toNat x } }).map (·.pages)).sum+p.pages=(h.L.map (·.pages)).sum+p.pages:=z;have m:=Nat.add_right_cancel o;show h.left+((h.L.set v.region.toNat { p with l:=p.l.set v.thing.toNat { t with l:=t.l.set k.toNat x } }).map (·.pages)).sum<=1000000;rw[m];exact y
     ·obtain⟨g,f,i,n,d⟩:=QcS b c
      rcases d with d | ⟨d,E⟩
      ·subst d;exact B.len j q w u f a
      ·subst d;simp only at a
       by_cases r:w=v.thing.toNat
       ·subst r
        have:=(Zi s).1
        simp[this] at a
        subst a
        have:=B.len _ p _ t b s
        simpa using this
       ·rw[List.getElem?_set_ne (Ne.symm r)] at a
        exact B.len _ p _ u b a
     ·have:=Qd.live_set (h:=h) (q:={ p with l:=p.l.set v.thing.toNat { t with l:=t.l.set k.toNat x } }) b h.left
      have o:Qd.live ⟨h.L.set v.region.toNat { p with l:=p.l.set v.thing.toNat { t with l:=t.l.set k.toNat x } },h.left⟩+(if p.there then 1 else 0)=h.live+(if p.there then 1 else 0):=this;have m:=Nat.add_right_cancel o;show Qd.live ⟨h.L.set v.region.toNat { p with l:=p.l.set v.thing.toNat { t with l:=t.l.set k.toNat x } },h.left⟩<=16;rw[m];exact B.live
abbrev QdJ (b:Nat):Value:=Pv b 0
abbrev Chg (b:Nat) (w w':World):Prop:=QE (fun k=>k=b) (fun k=>k=b) w w'
section
variable {b:Nat}{w w' w1 w2:World}
theorem Chg.refl (b:Nat) (w:World):Chg b w w:=QE.refl _ _
theorem Chg.below (h:Below w.heap.size w w'):Chg b w w':=⟨h.os,h.tape,h.output,h.size,fun k a _=>h.block k a,fun k a=>.inl a⟩
theorem Chg.set (w:World) (o:Nat) (v:Value) (h:b<w.heap.size):Chg b w (w.setCell ⟨b,o,none⟩ v) :=
 ⟨Z,Z,Z,by simp,fun k _ a=>Xd _ _ _ _ a,fun k a=>.inl a⟩
theorem Chg.keep {α:Type}{A:Lay α}{x:α}{cs:List Value}(h:A.In w O x cs) (c:Chg b w w') (e:∀ k,O k->k≠b):A.In w' O x cs :=
 A.keep (fun k d a=>c.block k a (e k d)) (fun _ h _=>h) h
theorem Chg.last (h:Below s w w1) (c:Chg b w1 w2) (e:s<=b) (d:s<=w1.heap.size):Below s w w2 :=
 ⟨c.os.trans h.os,c.tape.trans h.tape,c.output.trans h.output,Zt h.size c.size,fun k a=>(c.block k (by omega) (by omega)).trans (h.block k a)⟩
end
abbrev QjJ (b B:Nat) (w w':World):Prop:=QE (fun k=>k=b\/k=B) (fun k=>k=b\/k=B) w w'
section
variable {b B:Nat}{w w' w0:World}
theorem QjJ.refl (b B:Nat) (w:World):QjJ b B w w:=QE.refl _ _
theorem QjJ.of (h:Chg b w w'):QjJ b B w w':=⟨h.os,h.tape,h.output,h.size,fun k a c=>h.block k a (fun e=>c (.inl e)),fun k a=>.inl a⟩
theorem QjJ.set (w:World) (o:Nat) (v:Value):QjJ b B w (w.setCell ⟨B,o,none⟩ v) :=
 ⟨Z,Z,Z,by simp,fun k _ a=>Xd _ _ _ _ (fun e=>a (.inr e)),fun k a=>.inl a⟩
theorem QjJ.new (h:Chg b w0 w) (a:QjJ b B w w') (f:w0.heap.size<=B):Chg b w0 w' :=
 ⟨a.os.trans h.os,a.tape.trans h.tape,a.output.trans h.output,Zt h.size a.size,fun k c d=>(a.block k (Zl c h.size) (fun e=>by rcases e with e | e;exact d e;omega)).trans (h.block k c d),fun k c=>.inl c⟩
theorem QjJ.keep {α:Type}{A:Lay α}{x:α}{cs:List Value}(h:A.In w O x cs) (c:QjJ b B w w') (f:∀ k,O k->k<w.heap.size->k≠b/\k≠B):A.In w' O x cs :=
 A.keep (fun k d a=>c.block k a (fun e=>by rcases e with e | e;exact(f k d a).1 e;exact(f k d a).2 e)) (fun _ h _=>h) h
end
theorem Qac.formP {α:Type}{A:Lay α}{w:World}{lo:Nat}{l:List α}(h:Qac A t w lo v l xs):∃ a c,v=.slice a l.length c:=by
 obtain⟨a,c,e,_⟩:=h.lay
 simp at e
 exact⟨a,c,e⟩
theorem pUnderI:prog.underlying 76=some (.slice 3):=by kernel_rfl
theorem pInfoI0:(prog.info? 3).map (fun i=>(i.zero,i.size,i.bytes))=some (some (Iv 0),1,8):=by kernel_rfl
theorem pInfoI:∃ i,prog.info? 3=some i/\i.zero=some (Iv 0)/\i.size=1/\i.bytes=8:=by
 have h:=pInfoI0
 cases e:prog.info? 3 with
 | none=>rw[e] at h;cases h
 | some i =>
   rw[e] at h
   simp only[Option.map_some,Option.some.injEq,Prod.mk.injEq] at h
   exact⟨i,Z,h.1,h.2.1,h.2.2⟩
theorem pUnderT:prog.underlying 80=some (.slice 105):=by kernel_rfl
theorem pInfoT0:(prog.info? 105).map (fun i=>(i.zero,i.size,i.bytes))=some (some (.agg #[Iv 0,Iv 0,Nv]),3,40):=by kernel_rfl
theorem pInfoT:∃ i,prog.info? 105=some i/\i.zero=some (.agg #[Iv 0,Iv 0,Nv])/\i.size=3/\i.bytes=40:=by
 have h:=pInfoT0
 cases e:prog.info? 105 with
 | none=>rw[e] at h;cases h
 | some i =>
   rw[e] at h
   simp only[Option.map_some,Option.some.injEq,Prod.mk.injEq] at h
   exact⟨i,Z,h.1,h.2.1,h.2.2⟩
theorem Qmh (w:World) (c:List Value) (t:TypeId):∀ (j:Nat) (u:Value),c[j]?=some u->(w.alloc (.cells c.toArray t)).cell? ((⟨w.heap.size,0,none⟩:Addr).add j)=some u:=by
 intro j u h;have a:c.toArray[j]?=some u:=by simpa using h
 rw[Go.WideShapes.add_plain,XK]
 exact Qa (Qf w c.toArray t) j u a
theorem Qnm (n:Int):∀ u∈[Value.int .i64 n],u.oneCell'=true:=by
 intro u h;simp at h
 subst h;rfl
theorem QmS (k r:Int) (a:Option Addr) (l c:Nat):∀ u∈[Value.int .i64 k,Value.int .i64 r,Value.slice a l c],u.oneCell'=true:=by
 intro u h;simp at h
 rcases h with rfl | rfl | rfl<;>rfl
theorem Blk.set3 {w:World}{R:Nat}{f e d:Value}(h:Blk w R #[f,e,d] t) (a b c:Value):Blk (((w.setCell ⟨R,0,none⟩ a).setCell ⟨R,1,none⟩ b).setCell ⟨R,2,none⟩ c) R #[a,b,c] t:=by
 have g:=Qh (Qh (Qh h 0 a) 1 b) 2 c;simpa using g
section
variable {w0 w w':World}{b R B:Nat}{α:Type}{A:Lay α}{x:α}{cs:List Value}
def Kid {α:Type}(A:Lay α) (B:Nat) (w:World) (x:α) (cs:List Value):Prop:=A.In w (fun g=>B<g) x cs
theorem Kid.mk (h:A.In w (fun g=>w'.heap.size<=g) x cs) (b:B<w'.heap.size):Kid A B w x cs:=Yc h (fun k a _=>by omega)
theorem Kid.set (h:Kid A B w x cs){q:Addr}(a:q.block<=B) (v:Value):Kid A B (w.setCell q v) x cs:=Lay.setCell h (by omega) v
theorem Kid.alloc (h:Kid A B w x cs) (o:Obj):Kid A B (w.alloc o) x cs:=Lay.alloc h o
theorem Kid.sets (h:Kid A B w x cs){R:Nat}(b:R<=B):∀ (vs:List Value) (o:Nat),Kid A B (w.setCells R o vs) x cs:=fun vs o=>A.keep (fun k a _=>QD (by omega) vs o w) (fun _ h _=>h) h
theorem Kid.out (h:Kid A B w x cs) (b:w0.heap.size<=B):A.In w (fun g=>w0.heap.size<=g) x cs:=Yc h (fun k a _=>by omega)
end
theorem Blk.sets {R:Nat}{T:TypeId}:∀ (vs us zs:List Value) (w:World),vs.length=zs.length->Blk w R (us++zs).toArray T->Blk (w.setCells R us.length vs) R (us++vs).toArray T
 | [],us,zs,w,hl,h=>by
   have:zs=[]:=Xf.1 hl.symm
   subst this;exact h
 | v::vs,us,zs,w,hl,h=>by
   cases zs with
   | nil=>simp at hl
   | cons z zs =>
     have a:=Qh h us.length v
     have b:((us++z::zs).toArray.setIfInBounds us.length v)=((us++[v])++zs).toArray:=by
      apply Array.ext'
      simp[List.set_append]
     rw[b] at a
     have:=Blk.sets vs (us++[v]) zs (w.setCell ⟨R,us.length,none⟩ v) (by simpa using hl) a
     simpa[World.setCells] using this
theorem QkS {w:World}{B:Nat}{c b a:Value}(h:Blk w B #[c,b,a] t):w.cell? ⟨B,0,none⟩=some c/\w.cell? ⟨B,1,none⟩=some b/\w.cell? ⟨B,2,none⟩=some a:=⟨Qa h 0 _ Z,Qa h 1 _ Z,Qa h 2 _ Z⟩
theorem QmG {w:World}{B:Nat}{d c b a:Value}(h:Blk w B #[d,c,b,a] t):w.cell? ⟨B,0,none⟩=some d/\w.cell? ⟨B,1,none⟩=some c/\w.cell? ⟨B,2,none⟩=some b/\w.cell? ⟨B,3,none⟩=some a:=⟨Qa h 0 _ Z,Qa h 1 _ Z,Qa h 2 _ Z,Qa h 3 _ Z⟩
theorem pSizeN:(prog.info? 78).map (·.size)=some 8:=by kernel_rfl
theorem Blk.range {w:World}{T:TypeId}{c:List Value}(h:Blk w g c.toArray T):w.rangeAt g 0 c:=fun j v a=>by
 rw[XK]
 exact Qa h j v (by simpa using a)
theorem Blk.there {w:World}{T:TypeId}{c:Array Value}(h:Blk w g c T) (hn:o+n<=c.size):w.there g o n:=fun j a =>
 ⟨by rw[Qa h (o+j) _ (Xj (by omega))];rfl,Qe h (o+j)⟩
section
variable {w0 w w':World}{b R B:Nat}{α:Type}{A:Lay α}{x:α}{cs:List Value}{lo:Nat}
def Mid {α:Type}(A:Lay α) (B lo:Nat) (w:World) (x:α) (cs:List Value):Prop:=A.In w (fun g=>B<g/\g<lo) x cs
theorem Mid.below (h:Mid A B lo w x cs) (k:Below w.heap.size w w'):Mid A B lo w' x cs:=Ya h k
theorem Mid.set (h:Mid A B lo w x cs){q:Addr}(a:q.block<=B) (v:Value):Mid A B lo (w.setCell q v) x cs:=Lay.setCell h (by omega) v
theorem Mid.grown {a:Option Nat}(h:Mid A B lo w x cs) (g:w.grownBy w' a) (b:∀ k,a=some k->lo<=k):Mid A B lo w' x cs :=
 A.keep (fun k d c=>g.block k c (fun e=>by have:=b k e.symm;omega)) (fun _ h _=>h) h
end
theorem pSizeB:(prog.info? 86).map (·.size)=some 12:=by kernel_rfl
def QnL (K:Act->World->Prop) (Q:Exit->Act->World->Prop) (o:Oper) (a:Act):Ending->World->Prop
 | .returned u,w=>K (a.put o.dst u) w
 | .panicked chain,w=>Q (.panic chain) a w
 | .outgrown,_=>LetsOut Q
def Qaf (F:Nat):Prop:=∀ (args:Array Value) (w:World),(callFunc F args).run prog w=.ok (.enter F args) w
def vFlat:List Qj->List Value
 | []=>[]
 | v::r=>.int .i64 v.kind::.int .i64 v.region::.int .i64 v.thing::.int .i64 v.n::vFlat r
theorem vFlat_len:∀ l:List Qj,(vFlat l).length=l.length*4
 | []=>rfl
 | v::r=>by simp[vFlat,vFlat_len r];omega
theorem vFlat_app:∀ l k:List Qj,vFlat (l++k)=vFlat l++vFlat k
 | [],k=>rfl
 | v::r,k=>by simp[vFlat,vFlat_app r k]
theorem vFlat_at:∀ (l:List Qj) (i j:Nat) (x:Qj),l[i]?=some x->j<4->(vFlat l)[i*4+j]?=some (vAt x j)
 | [],_,_,_,h,_=>by simp at h
 | v::r,0,j,x,h,hj=>by
   simp at h;subst h
   match j,hj with
   | 0,_=>rfl
   | 1,_=>rfl
   | 2,_=>rfl
   | 3,_=>rfl
   | j+4,h=>omega
 | v::r,i+1,j,x,h,hj=>by
   have a:=vFlat_at r i j x (by simpa using h) hj;rw[show (i+1)*4+j=i*4+j+4 by omega]
   simpa[vFlat] using a
theorem vFlat_one:∀ (l:List Qj) (u:Value),u∈vFlat l->u.oneCell'=true
 | [],_,h=>by simp[vFlat] at h
 | v::r,u,h=>by
   simp only[vFlat,List.mem_cons] at h
   rcases h with rfl | rfl | rfl | rfl | h
   ·rfl
   ·rfl
   ·rfl
   ·rfl
   ·exact vFlat_one r u h
def Qhf (w:World) (v:Value) (l:List Qj):Prop:=w.ownsRow 0 211 4 v l.length (vFlat l)
theorem Qhf.form {w:World}{l:List Qj}(h:Qhf w v l):∃ a c,v=.slice a l.length c/\VIn w a l:=by
 rcases h.2 with ⟨e,r⟩|⟨g,f,p,e,_,k,u,s,t,q⟩
 ·refine⟨none,0,by rw[e,r],fun i x d=>?_⟩
  have:=(Zi d).1
  omega
 ·refine⟨some ⟨g,0,none⟩,f,e,fun i x d=>?_⟩
  have o:=(Zi d).1
  have b:∀ j,j<4->w.cell? ⟨g,0+i*4+j,none⟩=some (vAt x j):=fun j n=>by
   have m:=vFlat_at l i j x d n;rw[<-q,XR,Xs (by omega),Array.getElem?_toList] at m
   rw[XK]
   exact Qa k _ _ m
  exact⟨g,0,Z,XC k,b 0 (by omega),b 1 (by omega),b 2 (by omega),b 3 (by omega)⟩
theorem Qhf.keep {w w':World}{l:List Qj}(h:Qhf w v l) (hb:∀ x,v.ownBlock=some x->w'.heap[x]?=w.heap[x]?):Qhf w' v l:=QH h hb
theorem Qhf.lt {w:World}{l:List Qj}(h:Qhf w v l)(a:v.ownBlock=some x):x<w.heap.size:=XC (QJ h a).choose_spec
theorem Qhf.of {w:World}{g:Nat}{l:List Qj}(hn:l.length=n) (j:n<=1099511627776) (h:w.rowIs g 211 (n*4) (Zc l)):Qhf w (.slice (some ⟨g,0,none⟩) n n) l:=by
 subst hn;obtain⟨c,e,b,f⟩:=h
 refine⟨vFlat_len l,.inr ⟨g,l.length,c,Z,Xb _,e,Ze,by unfold maxLen;omega,b,?_⟩⟩
 rw[XO (by simp[b])]
 refine List.ext_getElem? (fun i=>?_);rw[Array.getElem?_toList]
 rcases Nat.lt_or_ge i (l.length*4) with d | d
 ·rw[f i d]
  have a:l[i / 4]?=some l[i / 4]:=Zg (by omega)
  have:=vFlat_at l (i / 4) (i%4) _ a (by omega)
  rw[show i / 4*4+i%4=i by omega] at this
  rw[this]
  unfold Zc;simp[List.getD,a]
 ·rw[Array.getElem?_eq_none (by omega),Xk (by rw[vFlat_len];omega)]
def Qdk (w:World) (c:Nat) (fr:IFr) (v:Value):Prop :=
 w.heap[c]?=some (.cells #[Iv fr.f,Iv fr.b,Iv fr.i,Iv fr.r.length,v] 100 (0,0))/\Qhf w v fr.v
theorem Qdk.keep {w w':World}{a:IFr}(h:Qdk w c a v) (b:w'.heap[c]?=w.heap[c]?) (d:∀ x,v.ownBlock=some x->w'.heap[x]?=w.heap[x]?):Qdk w' c a v:=⟨b.trans h.1,h.2.keep d⟩
theorem Qdk.below {w w':World}{a:IFr}(h:Qdk w c a v) (b:Below w.heap.size w w'):Qdk w' c a v:=h.keep (b.block c (XC h.1)) (fun x d=>b.block x (h.2.lt d))
theorem Qdk.ne {w:World}{a:IFr}(h:Qdk w c a v):v.ownBlock≠some c:=fun e=>by
 obtain⟨d,b⟩:=QJ h.2 e
 exact QK b h.1 (by decide) Z
structure FB where
 c:Nat
 v:Value
def QaI (w:World) (A O:Nat->Prop):List FB->List IFr->Prop
 | [],[]=>True
 | x::xs,fr::frs=>(Qdk w x.c fr x.v/\(A x.c/\¬ O x.c)/\∀ g,x.v.ownBlock=some g->A g/\¬ O g)/\(∀ y∈xs,y.c≠x.c/\∀ g,x.v.ownBlock=some g->y.v.ownBlock≠some g)/\QaI w A O xs frs
 | _,_=>False
section
variable {w w':World}{A A' O O':Nat->Prop}
theorem QaI.mem:∀ {xs:List FB}{frs:List IFr},QaI w A O xs frs->∀ y∈xs,∃ fr,Qdk w y.c fr y.v/\(A y.c/\¬ O y.c)/\∀ g,y.v.ownBlock=some g->A g/\¬ O g
 | [],_,_,y,a=>by simp at a
 | x::xs,[],h,_,_=>h.elim
 | x::xs,fr::frs,h,y,a=>by
   rcases List.mem_cons.1 a with rfl | a
   ·exact⟨fr,h.1⟩
   ·exact QaI.mem h.2.2 y a
theorem QaI.keep (b:∀ k,k<w.heap.size->A k->¬ O k->A' k/\¬ O' k):∀ {xs:List FB}{frs:List IFr},QaI w A O xs frs->(∀ y∈xs,w'.heap[y.c]?=w.heap[y.c]?/\∀ g,y.v.ownBlock=some g->w'.heap[g]?=w.heap[g]?)->QaI w' A' O' xs frs
 | [],[],_,_=>trivial
 | [],_::_,h,_=>h.elim
 | x::xs,[],h,_=>h.elim
 | x::xs,fr::frs,h,hb=>by
   obtain⟨⟨d,f,i⟩,l,m⟩:=h
   have e:=hb x (by simp);exact⟨⟨d.keep e.1 e.2,b _ (XC d.1) f.1 f.2,fun g a=>b g (d.2.lt a) (i g a).1 (i g a).2⟩,l,QaI.keep b m (fun y j=>hb y (by simp[j]))⟩
theorem QaI.len:∀ {xs:List FB}{frs:List IFr},QaI w A O xs frs->xs.length=frs.length
 | [],[],_=>rfl
 | [],_::_,h=>h.elim
 | x::xs,[],h=>h.elim
 | x::xs,fr::frs,h=>by simp[QaI.len h.2.2]
end
def Imm (A:Nat->Prop) (b:Nat) (x:Nat):Prop:=¬ A x/\x<b
def Ql8 (w:World) (A:Nat->Prop) (lo:Nat) (x:Nat):Prop:=(¬ A x/\lo<=x)/\∃ c,w.heap[x]?=some (.cells c 2 (0,0))
theorem Zf {α:Type}(L:Lay α){w w':World}{A d:Nat->Prop}{b:Nat}{x:α}(hb:∀ k,¬ A k->k<w.heap.size->w'.heap[k]?=w.heap[k]?) (e:∀ k,¬ A k->k<w.heap.size->¬ d k) (h:L.In w (Imm A b) x cs):L.In w' (Imm d b) x cs:=L.keep (fun k a c=>hb k a.1 c) (fun k a c=>⟨e k a.1 c,a.2⟩) h
theorem Zw {w w':World}{A d:Nat->Prop}{lo:Nat}(hb:∀ k,¬ A k->k<w.heap.size->w'.heap[k]?=w.heap[k]?) (f:∀ k,¬ A k->k<w.heap.size->¬ d k) (h:intsL.In w (Ql8 w A lo) l cs):intsL.In w' (Ql8 w' d lo) l cs:=intsL.keep (fun k a b=>hb k a.1.1 b) (fun k a b=>⟨⟨f k a.1.1 b,a.1.2⟩,by obtain⟨c,e⟩:=a.2;exact⟨c,(hb k a.1.1 b).trans e⟩⟩) h
structure MG where
 bh:Nat
 O:Nat->Prop
 G:HG
 A:Nat->Prop
 pm:Option Addr
 cm:Nat
 pi:Option Addr
 ci:Nat
 vc:Value
 vb:Value
 vo:Value
 t:FB
 fs:List FB
 lo:Nat
abbrev QnS (most:Nat) (ml:Nat) (M:IM) (sc sa:Int) (g:MG):Array Value :=
 #[Pv g.bh 0,.slice g.pm ml g.cm,.slice g.pi M.inp.length g.ci,Iv most,g.vc,Iv M.fin,g.vb,g.vo,Iv M.fuel,.bool M.done,Iv sc,Iv sa]
abbrev QaN (l:List FB):List Value:=l.reverse.map fun x=>Pv x.c 0
structure MAt (w:World) (b:Nat) (most:Nat) (m:List (MFunc 6)) (M:IM) (sc sa:Int) (g:MG):Prop where
 box:w.heap[b]?=some (.cells (QnS most m.length M sc sa g) 52 (0,0))
 heap:HIn w g.bh g.O M.h g.G
 mod:(ZZ 6).In w (Imm g.A b) m [.slice g.pm m.length g.cm]
 inp:intsL.In w (Imm g.A b) M.inp [.slice g.pi M.inp.length g.ci]
 inpC:M.inp.length<=g.ci
 calls:w.ownsRow 0 97 1 g.vc (M.rest.length+1) (QaN (g.t::g.fs))
 back:intsL.In w (Ql8 w g.A g.lo) M.back [g.vb]
 out:w.ownsRow 0 2 1 g.vo M.out.length (M.out.map (Value.int .i64))
 frs:QaI w g.A g.O (g.t::g.fs) (M.top::M.rest)
 ob:g.A b/\¬ g.O b
 oc:∀ x,g.vc.ownBlock=some x->g.A x/\¬ g.O x
 oo:∀ x,g.vo.ownBlock=some x->g.A x/\¬ g.O x
 oa:∀ x,g.O x->g.A x
 lt:∀ x,g.A x->x<w.heap.size
 low:g.lo<=w.heap.size
def XTo (g:MG) (w w':World) (b most:Nat) (m:List (MFunc 6)) (M:IM) (sc sa:Int):Prop:=∃ g',MAt w' b most m M sc sa g'/\QE g.A g'.A w w'/\g'.t.c=g.t.c/\g'.fs=g.fs
def XGo (g:MG) (w w':World) (b most:Nat) (m:List (MFunc 6)) (M:IM) (sc sa:Int):Prop:=∃ g',MAt w' b most m M sc sa g'/\QE g.A g'.A w w'
section
variable {w w' w2:World}{b most:Nat}{m:List (MFunc 6)}{M M':IM}{sc sa:Int}{g g1:MG}
theorem XTo.go (h:XTo g w w' b most m M sc sa):XGo g w w' b most m M sc sa:=by obtain⟨c,a,s,_⟩:=h;exact⟨c,a,s⟩
theorem XTo.then (s:QE g.A g1.A w w') (e:g1.t.c=g.t.c) (d:g1.fs=g.fs) (h:XTo g1 w' w2 b most m M sc sa):XTo g w w2 b most m M sc sa:=by
 obtain⟨f,a,k,i,j⟩:=h
 exact⟨f,a,s.trans k,i.trans e,j.trans d⟩
theorem XGo.then (s:QE g.A g1.A w w') (h:XGo g1 w' w2 b most m M sc sa):XGo g w w2 b most m M sc sa:=by
 obtain⟨c,a,k⟩:=h
 exact⟨c,a,s.trans k⟩
theorem MAt.below (S:MAt w b most m M sc sa g) (k:Below w.heap.size w w'):MAt w' b most m M sc sa g where
 box:=(k.block b (XC S.box)).trans S.box
 heap:=S.heap.below k
 mod:=Ya S.mod k
 inp:=Ya S.inp k
 inpC:=S.inpC
 calls:=QH S.calls (fun x a=>k.block x (S.lt x (S.oc x a).1))
 back:=Zw (fun x _ a=>k.block x a) (fun _ h _=>h) S.back
 out:=QH S.out (fun x a=>k.block x (S.lt x (S.oo x a).1))
 frs:=S.frs.keep (fun _ _ c d=>⟨c,d⟩) (fun y e=>by
  obtain⟨i,c,d,f⟩:=S.frs.mem y e
  exact⟨k.block _ (XC c.1),fun x a=>k.block x (c.2.lt a)⟩)
 ob:=S.ob
 oc:=S.oc
 oo:=S.oo
 oa:=S.oa
 lt:=fun x a=>Zl (S.lt x a) k.size
 low:=Zt S.low k.size
theorem XTo.same (S:MAt w b most m M sc sa g) (k:Below w.heap.size w w'):XTo g w w' b most m M sc sa:=⟨g,S.below k,QE.of_below k (fun _ h=>.inl h),Z,Z⟩
theorem MAt.stepB (S:MAt w b most m M sc sa g) (k:Below w.heap.size w w'):QE g.A g.A w w':=QE.of_below k (fun _ h=>.inl h)
theorem MAt.top (S:MAt w b most m M sc sa g):Qdk w g.t.c M.top g.t.v:=S.frs.1.1
theorem MAt.rows (S:MAt w b most m M sc sa g):g.fs.length=M.rest.length:=by have:=S.frs.len;simpa using this
theorem MAt.toHeap (S:MAt w b most m M sc sa g){h':Qd}(T:HTo w w' g.bh g.O h'):XTo g w w' b most m { M with h:=h' } sc sa:=by
 obtain⟨p,u,s,j,v⟩:=T
 have o:∀ x,x<w.heap.size->¬ g.O x->¬ p x:=fun x a c f=>by rcases j.own x f with e | e;exact c e;omega
 have i:∀ x,x<w.heap.size->¬ g.O x->w'.heap[x]?=w.heap[x]?:=fun x a c=>j.block x a c;have n:∀ x,¬ g.A x->¬ g.O x:=fun x c f=>c (S.oa x f);have q:∀ k,¬ g.A k->k<w.heap.size->¬ (g.A k\/p k):=fun k c f r=>by rcases r with e | e;exact c e;exact o k f (n k c) e
 refine⟨{ g with O:=p,G:=u,A:=fun x=>g.A x\/p x },⟨?_,s,?_,?_,S.inpC,?_,?_,?_,?_,?_,?_,?_,fun x a=>.inr a,?_,Zt S.low j.size⟩,?_,Z,Z⟩
 ·exact(i b (XC S.box) S.ob.2).trans S.box
 ·exact Zf (ZZ 6) (fun k d l=>i k l (n k d)) q S.mod
 ·exact Zf intsL (fun k d l=>i k l (n k d)) q S.inp
 ·exact QH S.calls (fun x a=>i x (S.lt x (S.oc x a).1) (S.oc x a).2)
 ·exact Zw (fun k d l=>i k l (n k d)) q S.back
 ·exact QH S.out (fun x a=>i x (S.lt x (S.oo x a).1) (S.oo x a).2)
 ·refine S.frs.keep (fun k d c f=>⟨.inl c,o k d f⟩) (fun y t=>?_);obtain⟨z,c,f,r⟩:=S.frs.mem y t
  exact⟨i _ (XC c.1) f.2,fun x a=>i x (c.2.lt a) (r x a).2⟩
 ·exact⟨.inl S.ob.1,o b (XC S.box) S.ob.2⟩
 ·exact fun x a=>⟨.inl (S.oc x a).1,o x (S.lt x (S.oc x a).1) (S.oc x a).2⟩
 ·exact fun x a=>⟨.inl (S.oo x a).1,o x (S.lt x (S.oo x a).1) (S.oo x a).2⟩
 ·rintro x (a | a)
  ·exact Zl (S.lt x a) j.size
  ·exact s.lt x a
 ·refine⟨j.os,j.tape,j.output,j.size,fun k d c=>i k d (n k c),?_⟩
  rintro k (d | d)
  ·exact .inl d
  ·exact(j.own k d).imp (S.oa k) id
theorem MAt.frNe (S:MAt w b most m M sc sa g){y:FB}(k:y∈g.t::g.fs):y.c≠b/\y.v.ownBlock≠some b/\(∀ x,g.vc.ownBlock=some x->y.c≠x/\y.v.ownBlock≠some x)/\∀ x,g.vo.ownBlock=some x->y.c≠x/\y.v.ownBlock≠some x:=by
 obtain⟨o,h,l,n⟩:=S.frs.mem y k
 have j:∀ {x:Nat},y.v.ownBlock=some x->∃ c,w.heap[x]?=some (.cells c 211 (0,0)):=fun e=>QJ h.2 e;refine⟨QK h.1 S.box (by decide),fun e=>?_,fun x f=>⟨?_,fun e=>?_⟩,fun x f=>⟨?_,fun e=>?_⟩⟩
 ·obtain⟨c,a⟩:=j e
  exact QK a S.box (by decide) Z
 ·obtain⟨c,a⟩:=QJ S.calls f
  exact QK h.1 a (by decide)
 ·obtain⟨c,a⟩:=j e
  obtain⟨d,i⟩:=QJ S.calls f
  exact QK a i (by decide) Z
 ·obtain⟨c,a⟩:=QJ S.out f
  exact QK h.1 a (by decide)
 ·obtain⟨c,a⟩:=j e
  obtain⟨d,i⟩:=QJ S.out f
  exact QK a i (by decide) Z
theorem MAt.callsNe (S:MAt w b most m M sc sa g)(h:g.vc.ownBlock=some x):x≠b/\g.vo.ownBlock≠some x:=by
 obtain⟨c,a⟩:=QJ S.calls h
 refine⟨QK a S.box (by decide),fun e=>?_⟩
 obtain⟨d,f⟩:=QJ S.out e
 exact QK a f (by decide) Z
theorem MAt.outNe (S:MAt w b most m M sc sa g)(d:g.vo.ownBlock=some x):x≠b:=by
 obtain⟨c,a⟩:=QJ S.out d
 exact QK a S.box (by decide)
theorem MAt.setTop (S:MAt w b most m M sc sa g){G:IFr}(P:w'.os=w.os) (J:w'.tape=w.tape) (K:w'.output=w.output) (p:w.heap.size<=w'.heap.size)
 (l:∀ k,k<w.heap.size->k≠g.t.c->g.t.v.ownBlock≠some k->w'.heap[k]?=w.heap[k]?) (H:Qdk w' g.t.c G v) (z:∀ k,v.ownBlock=some k->g.t.v.ownBlock=some k\/w.heap.size<=k):XTo g w w' b most m { M with top:=G } sc sa:=by
 have o:∀ k,v.ownBlock=some k->k<w.heap.size->g.A k/\¬ g.O k:=fun k d D=>by
  rcases z k d with e | e
  ·exact S.frs.1.2.2 k e
  ·omega
 have E:∀ k,g.O k->k≠g.t.c/\g.t.v.ownBlock≠some k:=fun k d=>⟨fun e=>S.frs.1.2.1.2 (e ▸ d),fun e=>(S.frs.1.2.2 k e).2 d⟩;have s:∀ k,¬ g.A k->k<w.heap.size->¬ (g.A k\/v.ownBlock=some k):=fun k h i F=>by rcases F with e | e;exact h e;exact h (o k e i).1
 have r:∀ k,¬ g.A k->k<w.heap.size->w'.heap[k]?=w.heap[k]?:=fun k h i=>l k i (fun e=>h (e ▸ S.frs.1.2.1.1)) (fun e=>h (S.frs.1.2.2 k e).1);have f:=S.frNe (y:=g.t) (by simp);refine⟨{ g with t:=⟨g.t.c,v⟩,A:=fun x=>g.A x\/v.ownBlock=some x },⟨?_,?_,?_,?_,S.inpC,?_,?_,?_,?_,⟨.inl S.ob.1,S.ob.2⟩,fun x a=>⟨.inl (S.oc x a).1,(S.oc x a).2⟩,fun x a=>⟨.inl (S.oo x a).1,(S.oo x a).2⟩,fun x a=>.inl (S.oa x a),?_,Zt S.low p⟩,?_,Z,Z⟩
 ·exact(l b (XC S.box) (Ne.symm f.1) f.2.1).trans S.box
 ·exact S.heap.keep p (fun x a D=>l x D (E x a).1 (E x a).2)
 ·exact Zf (ZZ 6) r s S.mod
 ·exact Zf intsL r s S.inp
 ·have e:QaN (⟨g.t.c,v⟩::g.fs)=QaN (g.t::g.fs):=by simp[QaN]
  show w'.ownsRow 0 _ 1 g.vc _ (QaN (⟨g.t.c,v⟩::g.fs));rw[e]
  exact QH S.calls (fun x a=>l x (S.lt x (S.oc x a).1) (Ne.symm (f.2.2.1 x a).1) (f.2.2.1 x a).2)
 ·exact Zw r s S.back
 ·exact QH S.out (fun x a=>l x (S.lt x (S.oo x a).1) (Ne.symm (f.2.2.2 x a).1) (f.2.2.2 x a).2)
 ·obtain⟨⟨h,i,F⟩,q,u⟩:=S.frs
  refine⟨⟨H,⟨.inl i.1,i.2⟩,fun k d=>⟨.inr d,fun e=>?_⟩⟩,fun y j=>⟨(q y j).1,fun k d e=>?_⟩,?_⟩
  ·exact(o k d (S.heap.lt k e)).2 e
  ·obtain⟨C,n,L,N⟩:=QaI.mem u y j
   rcases z k d with I | I
   ·exact(q y j).2 k I e
   ·have:=n.2.lt e;omega
  ·refine QaI.keep (fun k d h i=>⟨.inl h,i⟩) u (fun y j=>?_);obtain⟨C,n,L,N⟩:=QaI.mem u y j
   refine⟨l _ (XC n.1) (q y j).1 (fun e=>?_),fun k d=>l k (n.2.lt d) (fun e=>?_) (fun e=>(q y j).2 k e d)⟩
   ·obtain⟨c,B⟩:=QJ h.2 e
    exact QK B n.1 (by decide) Z
   ·obtain⟨c,B⟩:=QJ n.2 d
    subst e;exact QK B h.1 (by decide) Z
 ·rintro x (a | a)
  ·exact Zl (S.lt x a) p
  ·exact H.2.lt a
 ·refine⟨P,J,K,p,fun k d h=>r k h d,?_⟩
  rintro k (d | d)
  ·exact .inl d
  ·rcases z k d with e | e
   ·exact .inl (S.frs.1.2.2 k e).1
   ·exact .inr e
theorem MAt.reBox (S:MAt w b most m M sc sa g){sc' sa':Int}(D:w'.os=w.os) (t:w'.tape=w.tape) (v:w'.output=w.output) (j:w.heap.size<=w'.heap.size)
 (d:∀ k,k<w.heap.size->k≠b->w'.heap[k]?=w.heap[k]?) (C:M'.h=M.h/\M'.top=M.top/\M'.rest=M.rest/\M'.out=M.out)   {vb:Value} (hi:intsL.In w (Imm g.A b) M'.inp [.slice pi M'.inp.length ci]/\M'.inp.length<=ci) (c:intsL.In w' (Ql8 w' g.A g.lo) M'.back [vb])
 (hb:w'.heap[b]?=some (.cells (QnS most m.length M' sc' sa' { g with pi:=pi,ci:=ci,vb:=vb }) 52 (0,0))):XTo g w w' b most m M' sc' sa':=by
 have n:∀ k,¬ g.A k->k<w.heap.size->w'.heap[k]?=w.heap[k]?:=fun k i l=>d k l (fun e=>i (e ▸ S.ob.1));obtain⟨z,u,p,s⟩:=C
 refine⟨{ g with pi:=pi,ci:=ci,vb:=vb },⟨hb,?_,?_,?_,hi.2,?_,c,?_,?_,S.ob,S.oc,S.oo,S.oa,fun x a=>Zl (S.lt x a) j,Zt S.low j⟩,⟨D,t,v,j,fun k c i=>n k i c,fun k c=>.inl c⟩,Z,Z⟩
 ·rw[z];exact S.heap.keep j (fun x a r=>d x r (fun e=>S.ob.2 (e ▸ a)))
 ·exact Zf (ZZ 6) n (fun k h _=>h) S.mod
 ·exact Zf intsL n (fun k h _=>h) hi.1
 ·rw[p];exact QH S.calls (fun x a=>d x (S.lt x (S.oc x a).1) (S.callsNe a).1)
 ·rw[s];exact QH S.out (fun x a=>d x (S.lt x (S.oo x a).1) (S.outNe a))
 ·rw[u,p]
  refine S.frs.keep (fun k c i l=>⟨i,l⟩) (fun y o=>?_);obtain⟨B,q,E,F⟩:=S.frs.mem y o
  have f:=S.frNe o;exact⟨d _ (XC q.1) f.1,fun x a=>d x (q.2.lt a) (fun e=>f.2.1 (e ▸ a))⟩
end
def Qg (i:Nat):Code->Option Code
 | .region k ops d=>if k=i then some (.region k ops d) else none
 | .loop c=>Qg i c
 | .seq a b=>match Qg i a with
   | some c=>some c
   | none=>Qg i b
 | .block _ c=>Qg i c
 | .scope c=>Qg i c
 | .cond _ a b=>match Qg i a with
   | some c=>some c
   | none=>Qg i b
 | _=>none
def QaR (k:Nat):Code->List Oper
 | .region _ ops _=>ops.toList.drop k
 | _=>[]
theorem Qo {p:Addr}(h:w.cell? p=some v) (b:Below w.heap.size w w'):w'.cell? p=some v:=(b.cell (Xi w p h)).trans h
theorem Xh:type_of% @And.intro:=@And.intro
theorem Xz:type_of% @bodyPost_end:=@bodyPost_end
abbrev stuckP:List PanicEntry:=[{ v:=.iface 147 (.agg #[]),recovered:=false }]
abbrev QkR (c:Int):List PanicEntry:=[{ v:=.iface 148 (Iv c),recovered:=false }]
theorem ZF (w:World):Calls prog 138 #[.bool true] w fun e w'=>e=.returned (.tuple #[])/\w'=w:=by
 go_enter func138,ntmps138
 go_wp2
 exact Xz (v:=.tuple #[]) (by simp[results,results138,go_sem]) Z ⟨Z,Z⟩
theorem Zj (w:World):Calls prog 138 #[.bool false] w fun e w'=>e=.panicked stuckP/\w'=w:=by
 go_enter func138,ntmps138
 go_wp2
 exact⟨Z,Z,Z⟩
theorem Qa0 (w:World) (c:Int):Calls prog 84 #[.bool true,Iv c] w fun e w'=>e=.returned (.tuple #[])/\w'=w:=by
 go_enter func84,ntmps84
 go_wp2
 exact Xz (v:=.tuple #[]) (by simp[results,results84,go_sem]) Z ⟨Z,Z⟩
theorem QaK (w:World) (c:Int):Calls prog 84 #[.bool false,Iv c] w fun e w'=>e=.panicked (QkR c)/\w'=w:=by
 go_enter func84,ntmps84
 go_wp2
 exact⟨Z,Z,Z⟩
def Qon (k ec en:Int) (e:Ending):Prop:=(k=0/\e=.returned (.tuple #[]))\/(k≠0/\k=ec/\e=.panicked (QkR en))\/(k≠0/\k≠ec/\e=.panicked stuckP)
theorem QaA (w:World) (k d i:Int):Calls prog 143 #[Iv k,Iv d,Iv i] w fun e w'=>w'=w/\Qon k d i e:=by
 by_cases b:k=0
 ·subst b;go_enter func143,ntmps143
  go_wp2_with (first | (go_at_call 138;refine(ZF _).mono ?_;rintro g w' ⟨rfl,a⟩;have a:=a.symm;subst a) | (go_at_call 84;refine(Qa0 _ _).mono ?_;rintro g w' ⟨rfl,a⟩;have a:=a.symm;subst a))
  exact Xz (v:=.tuple #[]) (by simp[results,results143,go_sem]) Z ⟨Z,.inl ⟨Z,Z⟩⟩
 ·have j:(k==0)=false:=by simpa using b
  by_cases c:k=d
  ·subst c;have h:(k==k)=true:=by simp
   have f:=Qc b;clear b;go_enter func143,ntmps143
   go_wp2_with (go_at_call 138;refine(ZF _).mono ?_;rintro g w' ⟨rfl,a⟩;have a:=a.symm;subst a)
   refine(QaK _ _).mono ?_
   rintro g w' ⟨rfl,a⟩;subst a;exact⟨Z,Z,.inr (.inl ⟨f.out,Z,Z⟩)⟩
  ·have h:(k==d)=false:=by simpa using c
   have f:=Qc (Xh b c);clear b c;go_enter func143,ntmps143
   go_wp2_with fail
   refine(Zj _).mono ?_
   rintro g w' ⟨rfl,a⟩;subst a;exact⟨Z,Z,.inr (.inr ⟨f.out.1,f.out.2,Z⟩)⟩
def Ask {α:Type}(o:Option α) (V:α->Value) (e:Ending):Prop:=match o with
 | none=>e=.panicked stuckP
 | some x=>e=.returned (V x)
section
variable {w:World}{c:Nat}{fr:IFr}{v:Value}
theorem ZU (F:Qdk w c fr v) (y:fr.v.length<=1000000) (a:Int) :
 Calls prog 140 #[Pv c 0,Iv a] w fun e w'=>Ask (Qz fr.v a) QL e/\Below w.heap.size w w':=by
 have h:=Qc (QW w (.cells #[Iv 0,Iv 0,Iv 0,Iv 0] 211));have b:=Qc (Qf w #[Iv 0,Iv 0,Iv 0,Iv 0] 211);have D:=F.below h.out;obtain⟨va,vc,rfl,t⟩:=F.2.form
 have m:=Qa D.1 4 _ Z;have k:=Qc t;have z:=Qc (t.below h.out);clear F D t;go_enter func140,ntmps140
 go_upto_region 1 with fail
 generalize w.alloc (.cells #[Iv 0,Iv 0,Iv 0,Iv 0] 211)=O at m z h b |-;by_cases B:0<=a
 rotate_left
 ·have H:decide (a>=0)=false:=by simpa using B
  have E:Hid (Qz fr.v a=none):=by show _=_;unfold Qz;rw[Xs (by omega)]
  generalize fr.v.length=C at m y;go_wp2_with fail
  refine(Zj _).mono ?_
  rintro f w' ⟨rfl,d⟩;subst d;exact⟨Z,by rw[E.out];rfl,h.out⟩
 obtain⟨i,rfl⟩:=Xc B
 by_cases A:i<fr.v.length
 rotate_left
 ·have E:Hid (Qz fr.v (i:Int)=none):=by
   show _=_;unfold Qz;rw[Xr (by omega),XT,Xk (by omega)]
  have s:¬ (i:Int)<fr.v.length:=by omega
  generalize fr.v.length=C at m s A y;go_wp2_with fail
  refine(Zj _).mono ?_
  rintro f w' ⟨rfl,d⟩;subst d;exact⟨Z,by rw[E.out];rfl,h.out⟩
 obtain⟨x,r⟩:∃ x,fr.v[i]?=some x:=⟨_,Zg A⟩
 have E:Hid (Qz fr.v (i:Int)=some x):=by show _=_;unfold Qz;rw[Xr (by omega),XT,r]
 obtain⟨g,o,rfl,hg,R,L,N,K⟩:=z.out i x r
 have I:¬ w.heap.size=g:=fun e=>by
  obtain⟨g',W,f,G,-⟩:=k.out i x r
  injection f with f
  injection f with f
  omega
 have u:(i:Int)<fr.v.length:=by omega
 clear r z k;obtain⟨q,p,n,l⟩:=x
 simp only at R L N K
 have y0:=Qa b.out 0 _ Z;have U:=Qa b.out 1 _ Z;have y2:=Qa b.out 2 _ Z;have y3:=Qa b.out 3 _ Z;have X:=Qe b.out 0;have z1:=Qe b.out 1;have z2:=Qe b.out 2;have V:=Qe b.out 3;generalize P:fr.v.length=C at m A u y;go_wp2_with (go_at_call 138;refine(ZF _).mono ?_;rintro f w' ⟨rfl,d⟩;have d:=d.symm;subst d)
 have j:=Xh (QbF h.out Ze q p n l) (ZY b.out q p n l);generalize ((((O.setCell ⟨w.heap.size,0,none⟩ (Iv q)).setCell ⟨w.heap.size,1,none⟩ (Iv p)).setCell ⟨w.heap.size,2,none⟩ (Iv n)).setCell ⟨w.heap.size,3,none⟩ (Iv l))=Q at j |-;have S:=Qa j.2 0 _ Z;have T:=Qa j.2 1 _ Z;have J:=Qa j.2 2 _ Z;have M:=Qa j.2 3 _ Z;exact Xy (v:=.agg #[Iv q,Iv p,Iv n,Iv l]) (by simp[results,results140,go_sem,S,T,J,M]) Z ⟨by rw[E.out];rfl,j.1⟩
def QR (v:List Qj) (a k:Int):Option Qj:=match Qz v a with
 | none=>none
 | some x=>if x.kind=k then some x else none
theorem Qhj (v:List Qj) (a:Int):Qu v a=(QR v a 1).map (·.n):=by
 unfold Qu QR
 cases Qz v a with
 | none=>rfl
 | some x=>simp only;split<;>rfl
theorem Qaq (F:Qdk w c fr v) (H:fr.v.length<=1000000) (a k:Int) :
 Calls prog 190 #[Pv c 0,Iv a,Iv k] w fun e w'=>Ask (QR fr.v a k) QL e/\Below w.heap.size w w':=by
 have m:=Qc (QW w (.cells #[Iv 0,Iv 0,Iv 0,Iv 0] 211));have t:=Qc (Qf w #[Iv 0,Iv 0,Iv 0,Iv 0] 211);have C:=Qc (ZU (F.below m.out) H a);have E:=Qc (show QR fr.v a k=match Qz fr.v a with | none=>none | some x=>if x.kind=k then some x else none from Z);clear F;go_enter func190,ntmps190
 go_upto_region 1 with fail
 generalize w.alloc (.cells #[Iv 0,Iv 0,Iv 0,Iv 0] 211)=U at C m t |-
 cases hv:Qz fr.v a with
 | none =>
   rw[hv] at C E
   go_wp2_with fail
   refine C.out.mono ?_;rintro s j ⟨l,r⟩;have l:s=.panicked stuckP:=l;subst l;exact⟨Z,by rw[E.out];rfl,m.out.trans (r.mono m.out.size)⟩
 | some x =>
   rw[hv] at C E
   clear hv;obtain⟨d,h,g,f⟩:=x
   have G:Hid (QR fr.v a k=if d=k then some ⟨d,h,g,f⟩ else none):=E.out;clear E;go_wp2_with fail
   refine C.out.mono ?_;rintro s j ⟨l,r⟩;have l:s=.returned (.agg #[Iv d,Iv h,Iv g,Iv f]):=l;subst l;have B:=Qc (m.out.trans (r.mono m.out.size));have i:=Qc ((r.block _ (XC t.out)).trans t.out);have q:Hid (w.heap.size<j.heap.size):=XC i.out;clear r t m C;obtain⟨R,z⟩:∃ R,R=w.heap.size:=⟨_,Z⟩
   have o:Hid (w.heap.size<=R):=by show _<=_;omega
   rw[<-z] at i q
   have Y:=Qc (Qf j #[Iv d,Iv h,Iv g,Iv f] 211);have b:=Qc ((QW j (.cells #[Iv d,Iv h,Iv g,Iv f] 211)).block R (XC i.out) |>.trans i.out);have D:=Qc (B.out.trans ((QW j (.cells #[Iv d,Iv h,Iv g,Iv f] 211)).mono B.out.size));have W:=Qa Y.out 0 _ Z;have O:=Qa Y.out 1 _ Z;have y2:=Qa Y.out 2 _ Z;have T:=Qa Y.out 3 _ Z;have S:=Qe b.out 0;have z1:=Qe b.out 1;have X:=Qe b.out 2;have P:=Qe b.out 3;have u0:=Qa b.out 0 _ Z;have Q:=Qa b.out 1 _ Z;have u2:=Qa b.out 2 _ Z;have V:=Qa b.out 3 _ Z;have I:¬ R=j.heap.size:=by have:=q.out;omega
   rw[<-z]
   clear z;by_cases u:d=k
   ·subst u;have A:(d==d)=true:=by simp
    have y:Hid (QR fr.v a d=some ⟨d,h,g,f⟩):=by show _=_;rw[G.out,Xs Z]
    go_wp2_with (go_at_call 138;refine(ZF _).mono ?_;rintro s w' ⟨rfl,p⟩;have p:=p.symm;subst p)
    have n:=Xh (QbF D.out o.out d h g f) (ZY b.out d h g f);generalize (((((j.alloc (.cells #[Iv d,Iv h,Iv g,Iv f] 211)).setCell ⟨R,0,none⟩ (Iv d)).setCell ⟨R,1,none⟩ (Iv h)).setCell ⟨R,2,none⟩ (Iv g)).setCell ⟨R,3,none⟩ (Iv f))=L at n |-;have M:=Qa n.2 0 _ Z;have N:=Qa n.2 1 _ Z;have J:=Qa n.2 2 _ Z;have K:=Qa n.2 3 _ Z;exact Xy (v:=.agg #[Iv d,Iv h,Iv g,Iv f]) (by simp[results,results190,go_sem,M,N,J,K]) Z ⟨by rw[y.out];rfl,n.1⟩
   ·have A:(d==k)=false:=by simpa using u
    have y:Hid (QR fr.v a k=none):=by show _=_;rw[G.out,Xr u]
    clear u;go_wp2_with fail
    refine(Zj _).mono ?_
    rintro s w' ⟨rfl,p⟩;subst p;exact⟨Z,by rw[y.out];rfl,D.out⟩
theorem ZH (F:Qdk w c fr v) (j:fr.v.length<=1000000) (a:Int) :
 Calls prog 133 #[Pv c 0,Iv a] w fun e w'=>Ask (Qu fr.v a) (.int .i64) e/\Below w.heap.size w w':=by
 have C:=Qc (Qaq F j a 1);have h:∀ (k r t n:Int) (w:World),(Instr.field 211 (.agg #[Iv k,Iv r,Iv t,Iv n]) 3).run prog w=.ok (Iv n) w:=fun _ _ _ _ _=>by kernel_rfl
 rw[Qhj]
 clear F;go_enter func133,ntmps133
 cases hv:QR fr.v a 1 with
 | none =>
   rw[hv] at C
   go_wp2_with fail
   refine C.out.mono ?_;rintro f m ⟨b,d⟩;have b:f=.panicked stuckP:=b;subst b;exact⟨Z,Z,d⟩
 | some x =>
   rw[hv] at C
   obtain⟨o,l,p,i⟩:=x
   go_wp2_with fail
   refine C.out.mono ?_;rintro f m ⟨b,d⟩;have b:f=.returned (.agg #[Iv o,Iv l,Iv p,Iv i]):=b;subst b;have g:=Qc d;clear d C;go_wp2
   go_ret;exact⟨Z,g.out⟩
end
theorem Qbn (v:List Qj) (a:Int):∀ l:List Int,Qp v (l++[a])=(match Qp v l with
 | none=>none
 | some ys=>match Qz v a with
   | none=>none
   | some x=>some (ys++[x]))
 | []=>by
   simp only[List.nil_append,Qp]
   cases Qz v a<;>rfl
 | k::l=>by
   simp only[List.cons_append,Qp]
   cases Qz v k with
   | none=>rfl
   | some x =>
     simp only
     rw[Qbn v a l]
     cases Qp v l with
     | none=>rfl
     | some ys =>
       simp only
       cases Qz v a<;>rfl
theorem Qc5 (v:List Qj) (r:List Int):∀ l:List Int,Qp v l=none->Qp v (l++r)=none
 | [],h=>by simp[Qp] at h
 | k::l,h=>by
   simp only[List.cons_append,Qp] at h |-
   cases hk:Qz v k with
   | none=>rfl
   | some x =>
     rw[hk] at h
     simp only at h |-
     cases hl:Qp v l with
     | none=>rw[Qc5 v r l hl]
     | some ys=>rw[hl] at h;simp at h
theorem Q8 (v:List Qj):∀ (l:List Int){ys:List Qj},Qp v l=some ys->ys.length=l.length
 | [],ys,h=>by simp[Qp] at h;subst h;rfl
 | k::l,ys,h=>by
   simp only[Qp] at h
   cases hk:Qz v k with
   | none=>rw[hk] at h;cases h
   | some x =>
     rw[hk] at h
     simp only at h
     cases hl:Qp v l with
     | none=>rw[hl] at h;cases h
     | some zs=>rw[hl] at h;simp at h;subst h;simp[Q8 v l hl]
theorem Qfk {α:Type}{l:List α}{a:α}(h:l[q]?=some a):l.take (q+1)=l.take q++[a]:=by
 rw[XV,h];rfl
theorem QfU {v:List Qj}{a:Int}(h:l[q]?=some a) (b:Qz v a=none):Qp v l=none:=by
 rw[<-List.take_append_drop (q+1) l]
 refine Qc5 v _ _ ?_;rw[Qfk h,Qbn,b]
 cases Qp v (l.take q)<;>rfl
def QhF (ys:List Qj) (n:Nat):List Qj:=ys++List.replicate (n - ys.length) noV
theorem QjX {a:List Qj}(h:a.length<=n):(QhF a n).length=n:=by simp[QhF];omega
theorem Qkq {a:List Qj}(x:Qj) (h:a.length<n):(QhF a n).set a.length x=QhF (a++[x]) n:=by
 unfold QhF;rw[show n - a.length=(n - a.length - 1)+1 by omega,List.replicate_succ,List.set_append_right _ _ Ze,Nat.sub_self]
 simp
 rw[show n - (a.length+1)=n - a.length - 1 by omega]
theorem Qko (a:List Qj):QhF a a.length=a:=by simp[QhF]
def Qcj (w:World) (o:Option (List Qj)) (n:Nat) (e:Ending) (w':World):Prop:=Below w.heap.size w w'/\match o with
 | none=>e=.panicked stuckP
 | some xs=>∃ g,e=.returned (.slice (some ⟨g,0,none⟩) n n)/\w.heap.size<=g/\w'.rowIs g 211 (n*4) (Zc xs)
theorem Qcj.split {w:World}{o:Option (List Qj)}{e:Ending}(h:Qcj w o n e w'):Below w.heap.size w w'/\((∃ xs g,o=some xs/\e=.returned (.slice (some ⟨g,0,none⟩) n n)/\w.heap.size<=g/\w'.rowIs g 211 (n*4) (Zc xs))\/(o=none/\e=.panicked stuckP)):=by
 obtain⟨b,h⟩:=h
 refine⟨b,?_⟩
 cases o with
 | none=>exact .inr ⟨Z,h⟩
 | some xs =>
   obtain⟨g,c,a,d⟩:=h
   exact .inl ⟨xs,g,Z,c,a,d⟩
section
variable {w:World}{c:Nat}{fr:IFr}{v:Value}
theorem Qeh (F:Qdk w c fr v) (T:fr.v.length<=1000000){cp:Nat}(hn:l.length=n) (hb:n<=1000000) (hI:intsL.In w Q l [.slice p n cp]) :
 Calls prog 142 #[Pv c 0,.slice p n cp] w fun e w'=>Qcj w (Qp fr.v l) n e w':=by
 have P:=Qb6 n (by omega) w;have L:=Qc (QcJ w n);have B0:=Qc (QW w (.cells (madeCells (#[Iv 0,Iv 0,Iv 0,Iv 0]:Array Value) (n*4)) 211));have HL:=Qc hI;have H:=Qc hn;have HF:=Qc F;have HH:=Qc T;clear hI hn F T;go_enter func142,ntmps142
 go_upto_region 2 with fail
 generalize w.alloc (.cells (madeCells (#[Iv 0,Iv 0,Iv 0,Iv 0]:Array Value) (n*4)) 211)=w1 at L B0 |-;clear P;obtain⟨g,X⟩:∃ g,g=w.heap.size:=⟨_,Z⟩
 have t:Hid (w.heap.size<=g):=by show _<=_;omega
 rw[<-X] at L |-
 clear X;go_wp2_with fail
 go_loopw [13] (fun i wr=>∃ (q:Nat) (f:List Qj),q<=n/\i=Iv q/\Qp fr.v (l.take q)=some f/\wr.rowIs g 211 ((QhF f n).length*4) (Zc (QhF f n))/\Below w.heap.size w wr) (fun i _=>n - (intOf i).toNat)
 case atStart =>
  refine⟨0,[],Xb _,Z,by simp[Qp],?_,B0.out⟩
  have:=L.out
  simpa[QhF] using this
 case round =>
  obtain⟨q,f,hq,rfl,I,hR,U⟩:=hrel
  have G:=Qc hR;have j:=Qc U;have K:=Qc I;have y:Hid (f.length=q):=by show _=_;rw[Q8 _ _ I,List.length_take,H.out];omega
  clear hR U I;by_cases k:q<n
  ·have aa:(q:Int)<n:=by omega
   obtain⟨a,A⟩:∃ a,l[q]?=some a:=⟨_,Zg (by rw[H.out];exact k)⟩
   have m:q<l.length:=by rw[H.out];exact k
   obtain⟨g1,o1,rfl,-,B,D⟩:=ZJ HL.out m
   rw[show l.getD q 0=a by rw[List.getD_eq_getElem?_getD,A];rfl] at D
   have D:=Qo D j.out;have C:=Qc (ZU (HF.out.below j.out) HH.out a)
   cases hv:Qz fr.v a with
   | none =>
     rw[hv] at C
     have E:Hid (Qp fr.v l=none):=QfU A hv;clear m B A hv;go_wp2_with fail
     refine C.out.mono ?_;rintro e d ⟨r,o⟩;have r:e=.panicked stuckP:=r;subst r;exact⟨Z,j.out.trans (o.mono j.out.size),by rw[E.out]⟩
   | some x =>
     rw[hv] at C
     have J:Hid (Qp fr.v (l.take (q+1))=some (f++[x])):=by show _=_;rw[Qfk A,Qbn,K.out,hv]
     have s:Hid (∀ d,Below wr.heap.size wr d->(d.cell? ⟨g,q*4,none⟩).isSome=true/\(d.cell? ⟨g,q*4+1,none⟩).isSome=true/\(d.cell? ⟨g,q*4+2,none⟩).isSome=true/\(d.cell? ⟨g,q*4+3,none⟩).isSome=true/\(∀ i,d.frozen? ⟨g,i,none⟩=false)/\((((d.setCell ⟨g,q*4,none⟩ (Iv x.kind)).setCell ⟨g,q*4+1,none⟩ (Iv x.region)).setCell ⟨g,q*4+2,none⟩ (Iv x.thing)).setCell ⟨g,q*4+3,none⟩ (Iv x.n)).rowIs g 211 ((QhF (f++[x]) n).length*4) (Zc (QhF (f++[x]) n))/\Below w.heap.size w ((((d.setCell ⟨g,q*4,none⟩ (Iv x.kind)).setCell ⟨g,q*4+1,none⟩ (Iv x.region)).setCell ⟨g,q*4+2,none⟩ (Iv x.thing)).setCell ⟨g,q*4+3,none⟩ (Iv x.n))):=by
      intro d o;have O:=G.out.of_block (o.block g G.out.lt);have h:=y.out;have z:q<(QhF f n).length:=by rw[QjX (by omega)];exact k
      obtain⟨V,z1,z2,S⟩:=Qan O (Zg z)
      refine⟨by rw[V];rfl,by rw[z1];rfl,by rw[z2];rfl,by rw[S];rfl,O.frozen,?_,?_⟩
      ·rw[<-Qkq x (by omega),h]
       exact Qdh O z x.kind x.region x.thing x.n
      ·have b:=j.out.trans (o.mono j.out.size);exact(((b.setCell (p:=⟨g,q*4,none⟩) t.out _).setCell (p:=⟨g,q*4+1,none⟩) t.out _).setCell (p:=⟨g,q*4+2,none⟩) t.out _).setCell (p:=⟨g,q*4+3,none⟩) t.out _
     clear m B A hv;obtain⟨xk,xr,xt,W⟩:=x
     simp only at s
     go_wp2_with fail
     refine C.out.mono ?_;rintro e d ⟨r,o⟩;have r:e=.returned (.agg #[Iv xk,Iv xr,Iv xt,Iv W]):=r;subst r;obtain⟨p0,R,p2,p3,u,pr,pb⟩:=s.out d o
     obtain⟨V,p0⟩:=Option.isSome_iff_exists.1 p0
     obtain⟨z1,R⟩:=Option.isSome_iff_exists.1 R
     obtain⟨z2,p2⟩:=Option.isSome_iff_exists.1 p2
     obtain⟨S,p3⟩:=Option.isSome_iff_exists.1 p3
     have f0:=u (q*4);have f1:=u (q*4+1);have f2:=u (q*4+2);have f3:=u (q*4+3);have PR:=Qc pr;have PB:=Qc pb;clear u pr pb s C o G j D K;go_wp2
     go_roundw
     case rel=>exact⟨q+1,f++[⟨xk,xr,xt,W⟩],by omega,by go_num,J.out,PR.out,PB.out⟩
     case measure=>simp[intOf];omega
  ·have M:q=n:=by omega
   subst M
   have EV:Hid (Qp fr.v l=some f):=by
    have:=K.out
    rwa [XO (by rw[H.out];exact Ze)] at this
   have h:=y.out
   have N:Hid (wr.rowIs g 211 (q*4) (Zc f)):=by
    have:=G.out
    rw[<-h,Qko,h] at this
    exact this
   clear h;go_wp2
   go_ret;exact⟨j.out,by rw[EV.out];exact⟨g,Z,t.out,N.out⟩⟩
end
theorem ZD (w:World){rest:List Oper}{o:Oper}{a:Act}{Q:Exit->Act->World->Prop}(D:o.guard=none) (s x:Operand) (t:TypeId)
 (S:o.op=.call { callee:=.builtin .append,args:=#[s,x],argTypes:=#[t,t] })
 (e:TypeId) (i:TypeInfo) (z:Value) (size d:Nat) (L:P.underlying t=some (.slice e)) (hi:P.info? e=some i) (N:i.zero=some z)
 (g:i.size=size) (C:i.bytes=d) (B:z.cells.size=size) (E:0<size)
 (v:Value) (n:Nat) (xs:List Value) (F:a.eval s=v) (q:w.ownsRow 0 e size v n xs)
 (y:Addr) (m c:Nat) (b:List Value) (O:a.eval x=.slice (some y) m c) (G:b.length=m*size) (l:∀ j u,b[j]?=some u->w.cell? (y.add j)=some u) (J:∀ u∈b,u.oneCell'=true)
 (A:n+m<=maxLen) (f:(n+m)*d<=140737488355328)
 (h:∀ v' w',w'.ownsRow 0 e size v' (n+m) (xs++b)->w.grownBy w' v.ownBlock->(∀ k,v'.ownBlock=some k->v.ownBlock=some k\/k=w.heap.size)->wpList P ops Q rest (a.put o.dst v') w'):wpList P ops Q (o::rest) a w:=by
 obtain⟨v',w',H,I,M,_,p⟩:=run_append_own_at (P:=P) w 0 t o.type e i z size d L hi N g C B E v n xs q y m c b G l J A f (Xb _)
 refine wpList_plain D fun K R=>?_;unfold Oper.wp execOp;simp only[S,resolve,invoke,builtin,Sem.run_bind,Sem.run_pure,Result.andThen_ok,List.map_toArray,List.map_cons,List.map_nil,F,O,H]
 refine R _ _ (h v' w' I M (fun k r=>?_));rcases p with p | p
 ·rw[p] at r;exact .inl r
 ·rw[p] at r;exact .inr (by simpa using r.symm)
theorem Qa1 {w:World}{z:Nat}(h:w.ownsRow 0 e z v n xs):∃ a c,v=.slice a n c:=by
 rcases h.2 with ⟨e,b⟩|⟨g,f,d,e,_⟩
 ·exact⟨none,0,by rw[e,b]⟩
 ·exact⟨_,_,e⟩
section
variable {w w' w2:World}{b most:Nat}{m:List (MFunc 6)}{M M':IM}{sc sa:Int}{g g1:MG}
theorem MAt.pushed (S:MAt w b most m M sc sa g){l:List Qj}{v9:Value}(o:w9.ownsRow 0 211 4 v9 (M.top.v.length+l.length) (vFlat M.top.v++vFlat l)) (a:w.grownBy w9 g.t.v.ownBlock) (n:∀ k,v9.ownBlock=some k->g.t.v.ownBlock=some k\/k=w.heap.size) :
 XTo g w (w9.setCell ⟨g.t.c,4,none⟩ v9) b most m (M.push l) sc sa:=by
 have F:=S.top;have j:=XC F.1;have i:w9.heap[g.t.c]?=_:=(a.block g.t.c j (fun e=>F.ne e.symm)).trans F.1
 have d:∀ k,v9.ownBlock=some k->k≠g.t.c:=fun k f e=>by
  rcases n k f with h | h
  ·exact F.ne (e ▸ h)
  ·omega
 refine S.setTop a.os a.tape a.output (by simpa using a.size) (fun k f r q=>?_) ⟨?_,?_⟩ (fun k f=>(n k f).imp id (fun e=>by omega))
 ·rw[Xd _ _ _ _ r]
  exact a.block k f (fun e=>q e.symm)
 ·have:=Qh i 4 v9
  simpa using this
 ·show World.ownsRow _ 0 _ 4 v9 (M.top.v++l).length (vFlat (M.top.v++l));rw[List.length_append,vFlat_app]
  exact QH o (fun x p=>Xd _ _ _ _ (d x p))
theorem ZR (S:MAt w b most m M sc sa g){l:List Qj}{cp:Nat}{a:Addr}(hn:l.length=n) (d:∀ (j:Nat) (u:Value),(vFlat l)[j]?=some u->w.cell? (a.add j)=some u) (hb:M.top.v.length+n<=1000000) :
 Calls prog 144 #[Pv g.t.c 0,.slice (some a) n cp] w fun e w'=>e=.returned (.tuple #[])/\XTo g w w' b most m (M.push l) sc sa:=by
 obtain⟨B,C,o,s,q⟩:=hInfoV
 subst hn;have F:=S.top;obtain⟨I,H,z,-⟩:=F.2.form
 have x:=Qa F.1 4 _ Z;have r:=Qc F.2;have h:=Qc F;have A:=Qc d;have p:=Qc (fun v9 w9=>S.pushed (l:=l) (v9:=v9) (w9:=w9));clear S F d;go_enter func144,ntmps144
 rw[z] at x r p h
 go_wp2_with (at_builtin;refine ZD _ Z _ _ 98 Z 211 B (.agg #[Iv 0,Iv 0,Iv 0,Iv 0]) 4 32 hUnderVs C o s q Z (by decide) _ _ _ Z r.out a l.length cp (vFlat l) Z (vFlat_len l) A.out (vFlat_one l) (by unfold maxLen;omega) (by omega) ?_)
 intro v9 w9 i k y;have R:=Qc (p.out v9 w9 i k y);have f:=(k.block g.t.c (XC h.out.1) (fun e=>h.out.ne e.symm)).trans h.out.1;have G:=Qa f 4 _ Z;have J:=Qe f 4;obtain⟨D,E,rfl⟩:=Qa1 i
 clear i k y p f h r x;go_wp2
 exact Xz (v:=.tuple #[]) (by simp[results,results144,go_sem]) Z ⟨Z,R.out⟩
theorem Qhk (w:World) (k r t n:Int):∀ (j:Nat) (u:Value),(vFlat [⟨k,r,t,n⟩])[j]?=some u->(w.alloc (.cells #[Iv k,Iv r,Iv t,Iv n] 211)).cell? ((⟨w.heap.size,0,none⟩:Addr).add j)=some u:=QkF w [Iv k,Iv r,Iv t,Iv n] 211
theorem Z2 (S:MAt w b most m M sc sa g) (n:Int) (hb:M.top.v.length+1<=1000000) :
 Calls prog 135 #[Pv g.t.c 0,Iv n] w fun e w'=>e=.returned (.tuple #[])/\XTo g w w' b most m (M.push [Qa9 n]) sc sa:=by
 have a:=QW w (.cells #[Iv 1,Iv 0,Iv 0,Iv n] 211);have C:=Qc (fun cp=>ZR (S.below a) (l:=[Qa9 n]) (cp:=cp) Z (Qhk w 1 0 0 n) hb);have T:=Qc (S.stepB a);clear S a;go_enter func135,ntmps135
 go_wp2_with fail
 refine(C.out _).mono ?_
 rintro h f ⟨rfl,d⟩;have R:=Qc (XTo.then T.out Z Z d);clear d C T;go_wp2
 exact Xz (v:=.tuple #[]) (by simp[results,results135,go_sem]) Z ⟨Z,R.out⟩
end
abbrev I64 (x:Int):Prop:=-9223372036854775808<=x/\x<=9223372036854775807
structure IP where
 pR:Option Addr
 cR:Nat
 pA:Option Addr
 cA:Nat
structure EP where
 pYR:Option Addr
 cYR:Nat
 pYA:Option Addr
 cYA:Nat
 pNR:Option Addr
 cNR:Nat
 pNA:Option Addr
 cNA:Nat
 pA:Option Addr
 cA:Nat
structure BP where
 pP:Option Addr
 cP:Nat
 pC:Option Addr
 cC:Nat
 e:EP
structure FP where
 pP:Option Addr
 cP:Nat
 pR:Option Addr
 cR:Nat
 pB:Option Addr
 cB:Nat
structure Qgm (w:World) (O:Nat->Prop) (x:MTo) (pR:Option Addr) (cR:Nat) (pA:Option Addr) (cA:Nat):Prop where
 regs:intsL.In w O x.regs [.slice pR x.regs.length cR]
 args:intsL.In w O x.args [.slice pA x.args.length cA]
 bnd:I64 x.block
structure IIn (w:World) (O:Nat->Prop) (x:Qv) (i:IP):Prop where
 regs:intsL.In w O x.regs [.slice i.pR x.regs.length i.cR]
 args:intsL.In w O x.args [.slice i.pA x.args.length i.cA]
 bnd:I64 x.op/\I64 x.a/\I64 x.b/\I64 x.c/\I64 x.k/\I64 x.n
structure EIn (w:World) (O:Nat->Prop) (x:Z0) (e:EP):Prop where
 yes:Qgm w O x.yes e.pYR e.cYR e.pYA e.cYA
 no:Qgm w O x.no e.pNR e.cNR e.pNA e.cNA
 args:intsL.In w O x.args [.slice e.pA x.args.length e.cA]
 bnd:I64 x.op/\I64 x.a
structure BIn (w:World) (O:Nat->Prop){n:Nat}(x:MBlock n) (b:BP):Prop where
 params:(Qx n).In w O x.params [.slice b.pP x.params.length b.cP]
 code:insL.list.In w O x.code [.slice b.pC x.code.length b.cC]
 fin:EIn w O x.fin b.e
 bnd:I64 x.regs
structure FIn (w:World) (O:Nat->Prop){n:Nat}(x:MFunc n) (f:FP):Prop where
 params:(Qx n).In w O x.params [.slice f.pP x.params.length f.cP]
 results:(Qx n).In w O x.results [.slice f.pR x.results.length f.cR]
 blocks:(Zq n).list.In w O x.blocks [.slice f.pB x.blocks.length f.cB]
 bnd:I64 x.regs
section
variable {w w':World}{O O':Nat->Prop}{n:Nat}{cs:List Value}
theorem Qgm.keep {x:MTo}(hb:∀ k,O k->k<w.heap.size->w'.heap[k]?=w.heap[k]?) (a:∀ k,O k->k<w.heap.size->O' k) (h:Qgm w O x pR cR pA cA):Qgm w' O' x pR cR pA cA:=⟨Lay.keep _ hb a h.regs,Lay.keep _ hb a h.args,h.bnd⟩
theorem Qgm.below {x:MTo}(h:Qgm w O x pR cR pA cA) (a:Below w.heap.size w w'):Qgm w' O x pR cR pA cA:=h.keep (fun k _ b=>a.block k b) (fun _ h _=>h)
theorem Qgm.mono {x:MTo}(h:Qgm w O x pR cR pA cA) (a:∀ k,O k->k<w.heap.size->O' k):Qgm w O' x pR cR pA cA:=h.keep (fun k _ _=>rfl) a
theorem IIn.keep {x:Qv}{i:IP}(hb:∀ k,O k->k<w.heap.size->w'.heap[k]?=w.heap[k]?) (a:∀ k,O k->k<w.heap.size->O' k) (h:IIn w O x i):IIn w' O' x i:=⟨Lay.keep _ hb a h.regs,Lay.keep _ hb a h.args,h.bnd⟩
theorem IIn.below {x:Qv}{i:IP}(h:IIn w O x i) (a:Below w.heap.size w w'):IIn w' O x i:=h.keep (fun k _ b=>a.block k b) (fun _ h _=>h)
theorem IIn.mono {x:Qv}{i:IP}(h:IIn w O x i) (a:∀ k,O k->k<w.heap.size->O' k):IIn w O' x i:=h.keep (fun k _ _=>rfl) a
theorem EIn.keep {x:Z0}{e:EP}(hb:∀ k,O k->k<w.heap.size->w'.heap[k]?=w.heap[k]?) (a:∀ k,O k->k<w.heap.size->O' k) (h:EIn w O x e):EIn w' O' x e:=⟨h.yes.keep hb a,h.no.keep hb a,Lay.keep _ hb a h.args,h.bnd⟩
theorem EIn.below {x:Z0}{e:EP}(h:EIn w O x e) (a:Below w.heap.size w w'):EIn w' O x e:=h.keep (fun k _ b=>a.block k b) (fun _ h _=>h)
theorem EIn.mono {x:Z0}{e:EP}(h:EIn w O x e) (a:∀ k,O k->k<w.heap.size->O' k):EIn w O' x e:=h.keep (fun k _ _=>rfl) a
theorem BIn.keep {x:MBlock n}{b:BP}(hb:∀ k,O k->k<w.heap.size->w'.heap[k]?=w.heap[k]?) (a:∀ k,O k->k<w.heap.size->O' k) (h:BIn w O x b):BIn w' O' x b:=⟨Lay.keep _ hb a h.params,Lay.keep _ hb a h.code,h.fin.keep hb a,h.bnd⟩
theorem BIn.below {x:MBlock n}{b:BP}(h:BIn w O x b) (a:Below w.heap.size w w'):BIn w' O x b:=h.keep (fun k _ c=>a.block k c) (fun _ h _=>h)
theorem BIn.mono {x:MBlock n}{b:BP}(h:BIn w O x b) (a:∀ k,O k->k<w.heap.size->O' k):BIn w O' x b:=h.keep (fun k _ _=>rfl) a
theorem FIn.keep {x:MFunc n}{f:FP}(hb:∀ k,O k->k<w.heap.size->w'.heap[k]?=w.heap[k]?) (a:∀ k,O k->k<w.heap.size->O' k) (h:FIn w O x f):FIn w' O' x f:=⟨Lay.keep _ hb a h.params,Lay.keep _ hb a h.results,Lay.keep _ hb a h.blocks,h.bnd⟩
theorem FIn.below {x:MFunc n}{f:FP}(h:FIn w O x f) (a:Below w.heap.size w w'):FIn w' O x f:=h.keep (fun k _ b=>a.block k b) (fun _ h _=>h)
theorem FIn.mono {x:MFunc n}{f:FP}(h:FIn w O x f) (a:∀ k,O k->k<w.heap.size->O' k):FIn w O' x f:=h.keep (fun k _ _=>rfl) a
theorem Qih {x:MTo}(h:toL.In w O x cs):∃ pR cR pA cA,cs=[Iv x.block,.slice pR x.regs.length cR,.slice pA x.args.length cA]/\Qgm w O x pR cR pA cA:=by
 obtain⟨a,c,b,d,rfl,f,e,g⟩:=QfM h
 exact⟨a,c,b,d,Z,f,e,g⟩
theorem Qjo {x:MTo}(h:Qgm w O x pR cR pA cA):toL.In w O x [Iv x.block,.slice pR x.regs.length cR,.slice pA x.args.length cA]:=QnD h.regs h.args h.bnd
theorem Qeo {x:Qv}(h:insL.In w O x cs):∃ i:IP,cs=[Iv x.op,Iv x.a,Iv x.b,Iv x.c,Iv x.k,Iv x.n,.slice i.pR x.regs.length i.cR,.slice i.pA x.args.length i.cA]/\IIn w O x i:=by
 obtain⟨a,c,b,d,rfl,f,e,g⟩:=QgW h
 exact⟨⟨a,c,b,d⟩,Z,f,e,g⟩
theorem QgP {x:Z0}(h:endL.In w O x cs):∃ e:EP,cs=[Iv x.op,Iv x.a,Iv x.yes.block,.slice e.pYR x.yes.regs.length e.cYR,.slice e.pYA x.yes.args.length e.cYA,Iv x.no.block,.slice e.pNR x.no.regs.length e.cNR,.slice e.pNA x.no.args.length e.cNA,.slice e.pA x.args.length e.cA]/\EIn w O x e:=by
 obtain⟨q,r,a,c,rfl,k,d,m,g⟩:=QgZ h
 obtain⟨f,j,pA,cA,rfl,p⟩:=Qih k
 obtain⟨b,o,i,n,rfl,l⟩:=Qih d
 exact⟨⟨f,j,pA,cA,b,o,i,n,a,c⟩,Z,p,l,m,g⟩
theorem QgQ {x:Z0}{e:EP}(h:EIn w O x e):endL.In w O x [Iv x.op,Iv x.a,Iv x.yes.block,.slice e.pYR x.yes.regs.length e.cYR,.slice e.pYA x.yes.args.length e.cYA,Iv x.no.block,.slice e.pNR x.no.regs.length e.cNR,.slice e.pNA x.no.args.length e.cNA,.slice e.pA x.args.length e.cA]:=QmD (Qjo h.yes) (Qjo h.no) h.args h.bnd
theorem Qb8 {x:MBlock n}(h:(Zq n).In w O x cs):∃ b:BP,cs=[Iv x.regs,.slice b.pP x.params.length b.cP,.slice b.pC x.code.length b.cC,Iv x.fin.op,Iv x.fin.a,Iv x.fin.yes.block,.slice b.e.pYR x.fin.yes.regs.length b.e.cYR,.slice b.e.pYA x.fin.yes.args.length b.e.cYA,Iv x.fin.no.block,.slice b.e.pNR x.fin.no.regs.length b.e.cNR,.slice b.e.pNA x.fin.no.args.length b.e.cNA,.slice b.e.pA x.fin.args.length b.e.cA]/\BIn w O x b:=by
 obtain⟨a,c,b,d,l,rfl,j,f,k,g⟩:=Qcb h
 obtain⟨e,rfl,i⟩:=QgP k
 exact⟨⟨a,c,b,d,e⟩,Z,j,f,i,g⟩
theorem Qd5 {x:MBlock n}{b:BP}(h:BIn w O x b):(Zq n).In w O x [Iv x.regs,.slice b.pP x.params.length b.cP,.slice b.pC x.code.length b.cC,Iv x.fin.op,Iv x.fin.a,Iv x.fin.yes.block,.slice b.e.pYR x.fin.yes.regs.length b.e.cYR,.slice b.e.pYA x.fin.yes.args.length b.e.cYA,Iv x.fin.no.block,.slice b.e.pNR x.fin.no.regs.length b.e.cNR,.slice b.e.pNA x.fin.no.args.length b.e.cNA,.slice b.e.pA x.fin.args.length b.e.cA]:=QgD h.params h.code (QgQ h.fin) h.bnd
theorem Qc4 {x:MFunc n}(h:(ZW n).In w O x cs):∃ f:FP,cs=[Iv x.regs,.slice f.pP x.params.length f.cP,.slice f.pR x.results.length f.cR,.slice f.pB x.blocks.length f.cB]/\FIn w O x f:=by
 obtain⟨a,c,b,d,e,f,rfl,i,g,k,j⟩:=QaY h
 exact⟨⟨a,c,b,d,e,f⟩,Z,i,g,k,j⟩
theorem QeT {x:MFunc n}{f:FP}(h:FIn w O x f):(ZW n).In w O x [Iv x.regs,.slice f.pP x.params.length f.cP,.slice f.pR x.results.length f.cR,.slice f.pB x.blocks.length f.cB]:=Qjk h.params h.results h.blocks h.bnd
theorem Qh1 {l:List Qv}(h:(insL).list.In w O l [.slice p m c]){x:Qv}(q:l[i]?=some x) :
 ∃ (g o:Nat) (i':IP),p=some ⟨g,o,none⟩/\w.rangeAt g (o+i*8) [Iv x.op,Iv x.a,Iv x.b,Iv x.c,Iv x.k,Iv x.n,.slice i'.pR x.regs.length i'.cR,.slice i'.pA x.args.length i'.cA]/\IIn w O x i':=by
 obtain⟨g,o,z,e,y,u,f,s⟩:=Yf h q
 obtain⟨i',rfl,t⟩:=Qeo s
 have r:(insL).size=8:=rfl;rw[r] at f
 exact⟨g,o,i',e,fun j v d=>(f j (by have:=(Zi d).1;simpa using this)).trans d,t⟩
theorem Qcz {l:List (MBlock n)}(h:(Zq n).list.In w O l [.slice p m c]){x:MBlock n}(k:l[i]?=some x) :
 ∃ (g o:Nat) (b:BP),p=some ⟨g,o,none⟩/\w.rangeAt g (o+i*12) [Iv x.regs,.slice b.pP x.params.length b.cP,.slice b.pC x.code.length b.cC,Iv x.fin.op,Iv x.fin.a,Iv x.fin.yes.block,.slice b.e.pYR x.fin.yes.regs.length b.e.cYR,.slice b.e.pYA x.fin.yes.args.length b.e.cYA,Iv x.fin.no.block,.slice b.e.pNR x.fin.no.regs.length b.e.cNR,.slice b.e.pNA x.fin.no.args.length b.e.cNA,.slice b.e.pA x.fin.args.length b.e.cA]/\BIn w O x b:=by
 obtain⟨g,o,y,e,u,t,f,r⟩:=Yf h k
 obtain⟨b,rfl,s⟩:=Qb8 r
 have q:(Zq n).size=12:=rfl;rw[q] at f
 exact⟨g,o,b,e,fun j v d=>(f j (by have:=(Zi d).1;simpa using this)).trans d,s⟩
theorem Qdj {l:List (MFunc n)}(h:(ZW n).list.In w O l [.slice p m c]){x:MFunc n}(d:l[i]?=some x) :
 ∃ (g o:Nat) (f:FP),p=some ⟨g,o,none⟩/\w.rangeAt g (o+i*4) [Iv x.regs,.slice f.pP x.params.length f.cP,.slice f.pR x.results.length f.cR,.slice f.pB x.blocks.length f.cB]/\FIn w O x f:=by
 obtain⟨g,o,u,e,t,s,b,q⟩:=Yf h d
 obtain⟨f,rfl,r⟩:=Qc4 q
 have k:(ZW n).size=4:=rfl;rw[k] at b
 exact⟨g,o,f,e,fun j v a=>(b j (by have:=(Zi a).1;simpa using this)).trans a,r⟩
end
theorem Qkn (op:Int):op=1\/op=2\/op=3\/op=4\/op=5\/op=6\/op=7\/op=8\/op=9\/op=10\/op=11\/op=12\/op=13\/op=14\/(op≠1/\op≠2/\op≠3/\op≠4/\op≠5/\op≠6/\op≠7/\op≠8/\op≠9/\op≠10/\op≠11/\op≠12/\op≠13/\op≠14):=by omega
def Qb3 (funcs:Nat) (op a b c k n:Int) (rl al:Nat):Int :=
 match Zo op with
 | none=>3
 | some (fa,fb,fc,fk,fn,fr,fs) =>
   if (!fa&&a != 0)||(!fb&&b != 0)||(!fc&&c != 0)||(!fk&&k != 0)||(!fn&&n != 0)||(!fr&&decide (0<rl))||(!fs&&decide (0<al)) then 4
   else if op=2/\(k<1\/9<k) then 1
   else if op=5/\8<al then 2
   else if (op=6\/op=7)/\(k<0\/7<k) then 1
   else if op=14/\(k<0\/(funcs:Int)<=k) then 1
   else if op=14/\(6<rl\/8<al) then 2
   else 0
theorem Qv.form_eq (d:Nat) (x:Qv):x.form d=Qb3 d x.op x.a x.b x.c x.k x.n x.regs.length x.args.length:=by
 unfold Qv.form Qv.formless Qb3
 cases Zo x.op with
 | none=>rfl
 | some p=>obtain⟨a,b,c,k,n,r,s⟩:=p;rfl
def rangeC (x l m:Int):Int:=if x<l\/m<x then 1 else 0
def manyC (len:Nat) (m:Int):Int:=if m<len then 2 else 0
def handedC (r:Nat) (m:Int) (s:Nat):Int:=if manyC r m≠0 then manyC r m else manyC s 8
def Qj5 (a b c k n:Int) (rl al:Nat):Bool:=a==0&&b==0&&c==0&&k==0&&n==0&&(rl:Int)==0&&(al:Int)==0
def ZT (funcs:Nat) (op k:Int) (rl al:Nat):Int :=
 if op=2 then rangeC k 1 9 else if op=6\/op=7 then rangeC k 0 7 else if op=5 then manyC al 8
 else if op=14 then (if rangeC k 0 ((funcs:Int) - 1)=0 then handedC rl 6 al else rangeC k 0 ((funcs:Int) - 1)) else 0
theorem fb (f:Bool) (a:Int):(!f&&a != 0)=!((bif f then 0 else a)==0):=by cases f<;>simp[bne]
theorem fbn (f:Bool) (l:Nat):(!f&&decide (0<l))=!(((bif f then 0 else l:Nat):Int)==0):=by
 cases f
 ·by_cases h:l=0
  ·simp[h]
  ·have:0<l:=by omega
   simp[this,h]
 ·simp
theorem Qis (d:Nat) (op k:Int) (rl al:Nat):(if op=2/\(k<1\/9<k) then 1
 else if op=5/\8<al then 2
 else if (op=6\/op=7)/\(k<0\/7<k) then 1
 else if op=14/\(k<0\/(d:Int)<=k) then 1
 else if op=14/\(6<rl\/8<al) then 2
 else 0)=ZT d op k rl al:=by
 unfold ZT;by_cases c:op=2
 ·subst c;simp[rangeC]
 ·by_cases e:op=6\/op=7
  ·have b:¬ op=5:=by omega
   have a:¬ op=14:=by omega
   simp[c,b,e,a,rangeC]
  ·by_cases b:op=5
   ·subst b;simp[manyC];split<;>split<;>omega
   ·by_cases a:op=14
    ·subst a;simp[rangeC,handedC,manyC]
     repeat' split
     all_goals omega
    ·simp[c,b,e,a]
theorem Qfp {j:Nat}{op a b c k n:Int}{g d h f fn i fs:Bool}(e:Zo op=some (g,d,h,f,fn,i,fs)) :
 Qb3 j op a b c k n rl al=if Qj5 (bif g then 0 else a) (bif d then 0 else b) (bif h then 0 else c) (bif f then 0 else k) (bif fn then 0 else n) (bif i then 0 else rl) (bif fs then 0 else al)=true then ZT j op k rl al else 4:=by
 simp only[Qb3,e,Qis]
 rw[fb,fb,fb,fb,fb,fbn,fbn]
 unfold Qj5;generalize ((bif g then 0 else a)==0)=q;generalize ((bif d then 0 else b)==0)=p;generalize ((bif h then 0 else c)==0)=r;generalize ((bif f then 0 else k)==0)=o;generalize ((bif fn then 0 else n)==0)=m;generalize (((bif i then 0 else rl:Nat):Int)==0)=l;generalize (((bif fs then 0 else al:Nat):Int)==0)=s
 cases q<;>cases p<;>cases r<;>cases o<;>cases m<;>cases l<;>cases s<;>rfl
theorem Qgk (h:f<1000000):Rd prog 118 #[Iv (f:Int)] w (Iv (10000*(f:Int)+9999)):=by
 unfold Rd;skip
 skip
 go_enter func118,ntmps118
 go_wp2
 go_ret;refine⟨?_,Zr⟩
 show Ending.returned (Iv ((f:Int)*10000+9999))=_;congr 2
 omega
theorem Qfm (h:f<1000000/\b<1000000):Rd prog 181 #[Iv (f:Int),Iv (b:Int)] w (Iv (10000*(f:Int)+100*(b:Int)+90)):=by
 unfold Rd;have c:=h.1;have a:=h.2;skip
 go_enter func181,ntmps181
 go_wp2
 go_ret;refine⟨?_,Zr⟩
 show Ending.returned (Iv ((f:Int)*10000+(b:Int)*100+90))=_;congr 2
 omega
theorem QdK (h:f<1000000/\b<1000000):Rd prog 131 #[Iv (f:Int),Iv (b:Int)] w (Iv (10000*(f:Int)+100*(b:Int)+91)):=by
 unfold Rd;have c:=h.1;have a:=h.2;skip
 go_enter func131,ntmps131
 go_wp2
 go_ret;refine⟨?_,Zr⟩
 show Ending.returned (Iv ((f:Int)*10000+(b:Int)*100+91))=_;congr 2
 omega
theorem QdU (h:f<1000000/\b<1000000/\i<1000000):Rd prog 130 #[Iv (f:Int),Iv (b:Int),Iv (i:Int)] w (Iv (10000*(f:Int)+100*(b:Int)+(i:Int))):=by
 unfold Rd;have c:=h.1;have a:=h.2;have d:=h.2.1;have e:=h.2.2;go_enter func130,ntmps130
 go_wp2
 go_ret;refine⟨?_,Zr⟩
 show Ending.returned (Iv ((f:Int)*10000+(b:Int)*100+(i:Int)))=_;congr 2
 omega
theorem QaL {x l m:Int}:Rd prog 262 #[Iv x,Iv l,Iv m] w (Iv (rangeC x l m)):=by
 unfold Rd rangeC;by_cases b:x<l
 ·rw[Xs (.inl b)]
  go_enter func262,ntmps262
  go_wp2
  go_ret;exact⟨Z,Zr⟩
 ·by_cases a:m<x
  ·rw[Xs (.inr a)]
   go_enter func262,ntmps262
   go_wp2
   go_ret;exact⟨Z,Zr⟩
  ·rw[Xr (by omega)]
   go_enter func262,ntmps262
   go_wp2
   go_ret;exact⟨Z,Zr⟩
theorem QaX {len:Nat}{m:Int}:Rd prog 263 #[.slice p len c,Iv m] w (Iv (manyC len m)):=by
 unfold Rd manyC;by_cases a:m<len
 ·rw[Xs a]
  go_enter func263,ntmps263
  go_wp2
  go_ret;exact⟨Z,Zr⟩
 ·rw[Xr a]
  go_enter func263,ntmps263
  go_wp2
  go_ret;exact⟨Z,Zr⟩
theorem Qbj {q:Option Addr}{r:Nat}{m:Int}:Rd prog 264 #[.slice p r c,Iv m,.slice q s d] w (Iv (handedC r m s)):=by
 have b:Hid (∀ a:World,Calls prog 263 #[.slice p r c,Iv m] a fun e k=>e=.returned (Iv (manyC r m))/\Below a.heap.size a k):=fun a=>QaX;have j:Hid (∀ a:World,Calls prog 263 #[.slice q s d,Iv 8] a fun e k=>e=.returned (Iv (manyC s 8))/\Below a.heap.size a k):=fun a=>QaX;unfold Rd handedC;by_cases h:manyC r m=0
 ·rw[Xr (by simpa using h)]
  rw[h] at b
  go_enter func264,ntmps264
  go_wp2_with fail
  refine(b.out w).mono ?_
  rintro e i ⟨rfl,g⟩;have f:Hid (Below w.heap.size w i):=g;clear g b;go_wp2_with fail
  refine(j.out i).mono ?_
  rintro e t ⟨rfl,l⟩;have n:Hid (Below w.heap.size w t):=f.out.trans (l.mono f.out.size);clear l j f;go_wp2
  go_ret;exact⟨Z,n.out⟩
 ·rw[Xs h]
  have o:(manyC r m==0)=false:=by simpa using h
  generalize manyC r m=v at b o h |-;go_enter func264,ntmps264
  go_wp2_with fail
  refine(b.out w).mono ?_
  rintro e i ⟨rfl,g⟩;have f:Hid (Below w.heap.size w i):=g;clear g b j;go_wp2
  go_ret;exact⟨Z,f.out⟩
theorem QdY {xop:Int}:Rd prog 228 #[.agg #[Iv xop,Iv xa,Iv xb,Iv xc,Iv xk,Iv xn,.slice ra rl rc,.slice aa al ac]] w (.bool (Qj5 xa xb xc xk xn rl al)):=by
 have D:(xa==0)=false\/xa=0/\((xb==0)=false\/xb=0/\((xc==0)=false\/xc=0/\((xk==0)=false\/xk=0/\((xn==0)=false\/xn=0/\(((rl:Int)==0)=false\/rl=0/\(((al:Int)==0)=false\/al=0)))))):=by
  simp only[beq_eq_false_iff_ne];omega
 unfold Rd;rcases D with g | ⟨rfl,g | ⟨rfl,g | ⟨rfl,g | ⟨rfl,g | ⟨rfl,g | ⟨rfl,g | rfl⟩⟩⟩⟩⟩⟩
 all_goals
  go_enter func228,ntmps228
  go_wp2
  go_ret;exact⟨by first | rfl | simp[Qj5,g],ZO _ _⟩
def wfV (xop xa xb xc xk xn:Int) (ra aa:Option Addr) (rl rc al ac:Nat):Value:=match Zo xop with
 | some (fa,fb,fc,fk,fn,fr,fs)=>.tuple #[.agg #[.int .i64 xop,.int .i64 (bif fa then 0 else xa),.int .i64 (bif fb then 0 else xb),.int .i64 (bif fc then 0 else xc),.int .i64 (bif fk then 0 else xk),.int .i64 (bif fn then 0 else xn),.slice (bif fr then none else ra) (bif fr then 0 else rl) (bif fr then 0 else rc),.slice (bif fs then none else aa) (bif fs then 0 else al) (bif fs then 0 else ac)],.bool true]
 | none=>.tuple #[.agg #[.int .i64 xop,.int .i64 xa,.int .i64 xb,.int .i64 xc,.int .i64 xk,.int .i64 xn,.slice ra rl rc,.slice aa al ac],.bool false]
theorem Qme {xop:Int}:Rd prog 227 #[.agg #[Iv xop,Iv xa,Iv xb,Iv xc,Iv xk,Iv xn,.slice ra rl rc,.slice aa al ac]] w (wfV xop xa xb xc xk xn ra aa rl rc al ac):=by
 rcases Qkn xop with rfl | rfl | rfl | rfl | rfl | rfl | rfl | rfl | rfl | rfl | rfl | rfl | rfl | rfl | n
 rotate_right
 obtain⟨k,l,o,g,m,f,i,h,j,d,b,a,e,c⟩:=n
 have E:Zo xop=none:=by simp[Zo, *]
 rw[<-beq_eq_false_iff_ne] at k l o g m f i h j d b a e c
 all_goals
  unfold Rd;go_enter func227,ntmps227
  go_wp2
  exact Xy (v:=wfV _ xa xb xc xk xn ra aa rl rc al ac) (by simp[results,results227,go_sem,wfV];first | (simp[Zo];done) | rw[E]) Z ⟨Z,QhN _ _ _⟩
theorem Qjp {xop lo hi:Int}{g:Option Addr}{a:Nat}(h:xop=2/\lo=1/\hi=9\/xop=6/\lo=0/\hi=7\/xop=7/\lo=0/\hi=7):Rd prog 229 #[.agg #[.slice g a cm],.agg #[Iv xop,Iv xa,Iv xb,Iv xc,Iv xk,Iv xn,.slice ra rl rc,.slice aa al ac]] w (Iv (ZT a xop xk rl al)):=by
 have C:Hid (∀ c:World,Rd prog 262 #[Iv xk,Iv lo,Iv hi] c (Iv (rangeC xk lo hi))):=fun c=>QaL;unfold Rd;rw[show ZT a xop xk rl al=rangeC xk lo hi by rcases h with ⟨rfl,rfl,rfl⟩|⟨rfl,rfl,rfl⟩|⟨rfl,rfl,rfl⟩<;>rfl]
 generalize rangeC xk lo hi=v at C |-;rcases h with ⟨rfl,rfl,rfl⟩|⟨rfl,rfl,rfl⟩|⟨rfl,rfl,rfl⟩
 all_goals
  go_enter func229,ntmps229
  go_wp2_with fail
  refine(C.out _).mono ?_
  rintro e f ⟨rfl,b⟩;have d:Hid (Below w.heap.size w f):=(QhN _ _ _).trans (b.mono (QhN w _ _).size);clear b C;go_wp2
  go_ret;exact⟨Z,d.out⟩
theorem QlP {g:Option Addr}{b:Nat}:Rd prog 229 #[.agg #[.slice g b cm],.agg #[Iv 5,Iv xa,Iv xb,Iv xc,Iv xk,Iv xn,.slice ra rl rc,.slice aa al ac]] w (Iv (ZT b 5 xk rl al)):=by
 have C:Hid (∀ a:World,Calls prog 263 #[.slice aa al ac,Iv 8] a fun e h=>e=.returned (Iv (manyC al 8))/\Below a.heap.size a h):=fun a=>QaX;rw[show ZT b 5 xk rl al=manyC al 8 from Z]
 generalize manyC al 8=v at C |-;unfold Rd;go_enter func229,ntmps229
 go_wp2_with fail
 refine(C.out _).mono ?_
 rintro e f ⟨rfl,c⟩;have d:Hid (Below w.heap.size w f):=(QhN _ _ _).trans (c.mono (QhN w _ _).size);clear c C;go_wp2
 go_ret;exact⟨Z,d.out⟩
theorem QjS {h:Option Addr}{a:Nat}(o:a<2305843009213693952):Rd prog 229 #[.agg #[.slice h a cm],.agg #[Iv 14,Iv xa,Iv xb,Iv xc,Iv xk,Iv xn,.slice ra rl rc,.slice aa al ac]] w (Iv (ZT a 14 xk rl al)):=by
 have C:Hid (∀ b:World,Calls prog 262 #[Iv xk,Iv 0,Iv ((a:Int) - 1)] b fun e m=>e=.returned (Iv (rangeC xk 0 ((a:Int) - 1)))/\Below b.heap.size b m):=fun b=>QaL;have i:Hid (∀ b:World,Calls prog 264 #[.slice ra rl rc,Iv 6,.slice aa al ac] b fun e m=>e=.returned (Iv (handedC rl 6 al))/\Below b.heap.size b m):=fun b=>Qbj;rw[show ZT a 14 xk rl al=if rangeC xk 0 ((a:Int) - 1)=0 then handedC rl 6 al else rangeC xk 0 ((a:Int) - 1) from Z]
 generalize rangeC xk 0 ((a:Int) - 1)=v at C |-;generalize handedC rl 6 al=u at i |-;have f:Blk ((w.alloc (.cells #[.slice h a cm] 24)).alloc (.cells #[Iv 14,Iv xa,Iv xb,Iv xc,Iv xk,Iv xn,.slice ra rl rc,.slice aa al ac] 78)) (w.heap.size+1) #[Iv 14,Iv xa,Iv xb,Iv xc,Iv xk,Iv xn,.slice ra rl rc,.slice aa al ac] 78:=Blk.new2 _ _ _ _;have c:Hid (Below w.heap.size w ((w.alloc (.cells #[.slice h a cm] 24)).alloc (.cells #[Iv 14,Iv xa,Iv xb,Iv xc,Iv xk,Iv xn,.slice ra rl rc,.slice aa al ac] 78))):=QhN _ _ _;unfold Rd;by_cases j:v=0
 ·subst j;rw[Xs Z]
  go_enter func229,ntmps229
  go_wp2_with fail
  generalize ((w.alloc (.cells #[.slice h a cm] 24)).alloc (.cells #[Iv 14,Iv xa,Iv xb,Iv xc,Iv xk,Iv xn,.slice ra rl rc,.slice aa al ac] 78))=s at f c |-;refine(C.out _).mono ?_
  rintro e l ⟨rfl,d⟩;have k:=(d.block _ (XC f)).trans f;have g:Hid (Below w.heap.size w l):=c.out.trans (d.mono c.out.size);have t:=Qa k 6 _ Z;have x:=Qa k 7 _ Z;clear d C f c k;go_wp2_with fail
  refine(i.out _).mono ?_
  rintro e q ⟨rfl,n⟩;have r:Hid (Below w.heap.size w q):=g.out.trans (n.mono g.out.size);clear n i g;go_wp2
  go_ret;exact⟨Z,r.out⟩
 ·rw[Xr j]
  have p:(v==0)=false:=by simpa using j
  go_enter func229,ntmps229
  go_wp2_with fail
  generalize ((w.alloc (.cells #[.slice h a cm] 24)).alloc (.cells #[Iv 14,Iv xa,Iv xb,Iv xc,Iv xk,Iv xn,.slice ra rl rc,.slice aa al ac] 78))=s at f c |-;refine(C.out _).mono ?_
  rintro e l ⟨rfl,d⟩;have g:Hid (Below w.heap.size w l):=c.out.trans (d.mono c.out.size);clear d C i f c;go_wp2
  go_ret;exact⟨Z,g.out⟩
theorem Qj2 {xop:Int}{i:Option Addr}{b:Nat}(h:xop≠2/\xop≠6/\xop≠7/\xop≠5/\xop≠14):Rd prog 229 #[.agg #[.slice i b cm],.agg #[Iv xop,Iv xa,Iv xb,Iv xc,Iv xk,Iv xn,.slice ra rl rc,.slice aa al ac]] w (Iv (ZT b xop xk rl al)):=by
 obtain⟨d,f,c,e,a⟩:=h
 rw[show ZT b xop xk rl al=0 by simp[ZT,d,f,c,e,a]]
 have k:(xop==2)=false:=by simpa using d
 have j:(xop==6)=false:=by simpa using f
 have l:(xop==7)=false:=by simpa using c
 have m:(xop==5)=false:=by simpa using e
 have g:(xop==14)=false:=by simpa using a
 unfold Rd;go_enter func229,ntmps229
 go_wp2
 go_ret;exact⟨Z,QhN _ _ _⟩
theorem QdV {xop:Int}{e:Option Addr}{b:Nat}(a:b<2305843009213693952):Rd prog 229 #[.agg #[.slice e b cm],.agg #[Iv xop,Iv xa,Iv xb,Iv xc,Iv xk,Iv xn,.slice ra rl rc,.slice aa al ac]] w (Iv (ZT b xop xk rl al)):=by
 by_cases d:xop=5
 ·subst d;exact QlP
 by_cases c:xop=14
 ·subst c;exact QjS a
 by_cases h:xop=2\/xop=6\/xop=7
 ·rcases h with rfl | rfl | rfl
  ·exact Qjp (.inl ⟨Z,Z,Z⟩)
  all_goals exact Qjp (lo:=0) (hi:=7) (by simp)
 ·exact Qj2 (by omega)
theorem Qg7 {xop:Int}{n l q r o:Int}{f c:Option Addr}{h i j b:Nat}{p:Option Addr}{m:Nat}{ok k:Bool}{v:Int}
 (E:Hid (∀ wx:World,Calls prog 227 #[.agg #[Iv xop,Iv xa,Iv xb,Iv xc,Iv xk,Iv xn,.slice ra rl rc,.slice aa al ac]] wx fun e w'=>e=.returned (.tuple #[.agg #[Iv xop,Iv n,Iv l,Iv q,Iv r,Iv o,.slice f h i,.slice c j b],.bool ok])/\Below wx.heap.size wx w'))
 (C:Hid (∀ wx:World,Calls prog 228 #[.agg #[Iv xop,Iv n,Iv l,Iv q,Iv r,Iv o,.slice f h i,.slice c j b]] wx fun e w'=>e=.returned (.bool k)/\Below wx.heap.size wx w'))
 (x:Hid (∀ wx:World,Calls prog 229 #[.agg #[.slice p m cm],.agg #[Iv xop,Iv xa,Iv xb,Iv xc,Iv xk,Iv xn,.slice ra rl rc,.slice aa al ac]] wx fun e w'=>e=.returned (Iv v)/\Below wx.heap.size wx w')) :
 Rd prog 184 #[.agg #[.slice p m cm],.agg #[Iv xop,Iv xa,Iv xb,Iv xc,Iv xk,Iv xn,.slice ra rl rc,.slice aa al ac]] w (Iv (if ok=false then 3 else if k=true then v else 4)):=by
 have g:Blk ((w.alloc (.cells #[.slice p m cm] 24)).alloc (.cells #[Iv xop,Iv xa,Iv xb,Iv xc,Iv xk,Iv xn,.slice ra rl rc,.slice aa al ac] 78)) w.heap.size #[.slice p m cm] 24:=Blk.new1 _ _ _ _ _;have a:Blk ((w.alloc (.cells #[.slice p m cm] 24)).alloc (.cells #[Iv xop,Iv xa,Iv xb,Iv xc,Iv xk,Iv xn,.slice ra rl rc,.slice aa al ac] 78)) (w.heap.size+1) #[Iv xop,Iv xa,Iv xb,Iv xc,Iv xk,Iv xn,.slice ra rl rc,.slice aa al ac] 78:=Blk.new2 _ _ _ _;have A:Hid (Below w.heap.size w ((w.alloc (.cells #[.slice p m cm] 24)).alloc (.cells #[Iv xop,Iv xa,Iv xb,Iv xc,Iv xk,Iv xn,.slice ra rl rc,.slice aa al ac] 78))):=QhN _ _ _;unfold Rd;go_enter func184,ntmps184
 go_wp2_with fail
 generalize ((w.alloc (.cells #[.slice p m cm] 24)).alloc (.cells #[Iv xop,Iv xa,Iv xb,Iv xc,Iv xk,Iv xn,.slice ra rl rc,.slice aa al ac] 78))=O at g a A |-;refine(E.out _).mono ?_
 rintro e u ⟨rfl,y⟩;replace g:=(y.block _ (XC g)).trans g;replace a:=(y.block _ (XC a)).trans a;have s:Hid (Below w.heap.size w u):=A.out.trans (y.mono A.out.size);clear y A E
 cases ok with
 | false =>
   have t:Hid (Below w.heap.size w (u.alloc (.cells #[Iv xop,Iv n,Iv l,Iv q,Iv r,Iv o,.slice f h i,.slice c j b] 78))):=s.out.trans ((ZO _ _).mono s.out.size);clear C x g a s;go_wp2
   go_ret;exact⟨Z,t.out⟩
 | true =>
   replace g:=((ZO u (.cells #[Iv xop,Iv n,Iv l,Iv q,Iv r,Iv o,.slice f h i,.slice c j b] 78)).block _ (XC g)).trans g;replace a:=((ZO u (.cells #[Iv xop,Iv n,Iv l,Iv q,Iv r,Iv o,.slice f h i,.slice c j b] 78)).block _ (XC a)).trans a;have t:Hid (Below w.heap.size w (u.alloc (.cells #[Iv xop,Iv n,Iv l,Iv q,Iv r,Iv o,.slice f h i,.slice c j b] 78))):=s.out.trans ((ZO _ _).mono s.out.size);go_wp2_with fail
   clear s;generalize u.alloc (.cells #[Iv xop,Iv n,Iv l,Iv q,Iv r,Iv o,.slice f h i,.slice c j b] 78)=K at g a t |-;refine(C.out _).mono ?_
   rintro e F ⟨rfl,B⟩;replace g:=(B.block _ (XC g)).trans g;replace a:=(B.block _ (XC a)).trans a;have z:Hid (Below w.heap.size w F):=t.out.trans (B.mono t.out.size);clear B t C
   cases k with
   | false =>
     clear x g a;go_wp2
     go_ret;exact⟨Z,z.out⟩
   | true =>
     have d:=Qa g 0 _ Z;have Q:=Qa a 0 _ Z;have M:=Qa a 1 _ Z;have N:=Qa a 2 _ Z;have L:=Qa a 3 _ Z;have P:=Qa a 4 _ Z;have I:=Qa a 5 _ Z;have J:=Qa a 6 _ Z;have R:=Qa a 7 _ Z;clear g a;go_wp2_with fail
     refine(x.out _).mono ?_
     rintro e H ⟨rfl,D⟩;have G:Hid (Below w.heap.size w H):=z.out.trans (D.mono z.out.size);clear D z x;go_wp2
     go_ret;exact⟨Z,G.out⟩
theorem QgV (d:Nat) (x:Qv) (i:IP) (m:Option Addr) (h:Nat) (w:World) (g:d<2305843009213693952) :
 Rd prog 184 #[.agg #[.slice m d h],.agg #[Iv x.op,Iv x.a,Iv x.b,Iv x.c,Iv x.k,Iv x.n,.slice i.pR x.regs.length i.cR,.slice i.pA x.args.length i.cA]] w (Iv (x.form d)):=by
 rw[Qv.form_eq]
 have f:=fun l=>Qme (xop:=x.op) (xa:=x.a) (xb:=x.b) (xc:=x.c) (xk:=x.k) (xn:=x.n) (ra:=i.pR) (aa:=i.pA) (rl:=x.regs.length) (rc:=i.cR) (al:=x.args.length) (ac:=i.cA) (w:=l)
 cases e:Zo x.op with
 | none =>
   simp only[wfV,e] at f
   rw[show Qb3 d x.op x.a x.b x.c x.k x.n x.regs.length x.args.length=3 by unfold Qb3;rw[e]]
   exact Qg7 (ok:=false) f (fun _=>QdY) (fun _=>QdV g)
 | some p =>
   obtain⟨s,j,t,o,r,u,q⟩:=p
   simp only[wfV,e] at f
   rw[Qfp e]
   exact Qg7 (ok:=true) f (fun _=>QdY) (fun _=>QdV g)
def Qi8 (L:List Bool) (i:Nat):Value:=if i=16 then Iv (L.length:Int) else .bool (L.getD i false)
def QC (w:World) (b:Nat) (L:List Bool):Prop:=L.length<=16/\w.rowIs b 303 17 (Qi8 L)
theorem QC.mark (h:QC w b L)(a:k<16):w.cell? ⟨b,k,none⟩=some (.bool (L.getD k false)):=by
 have:=h.2.cell (i:=k) (by omega)
 rwa [Qi8,Xr (by omega)] at this
theorem QC.count (h:QC w b L):w.cell? ⟨b,16,none⟩=some (Iv (L.length:Int)):=by
 have:=h.2.cell (i:=16) (by omega)
 rwa [Qi8,Xs Z] at this
theorem QC.keep (h:QC w b L) (e:w'.heap[b]?=w.heap[b]?):QC w' b L:=⟨h.1,h.2.of_block e⟩
theorem QC.below (h:QC w b L) (k:Below w.heap.size w w'):QC w' b L:=h.keep (k.block b h.2.lt)
theorem QC.step (h:QC w b L) (k:QE O O' w w') (hn:¬ O b):QC w' b L:=h.keep (k.block b h.2.lt hn)
theorem QC.lt (h:QC w b L):b<w.heap.size:=h.2.lt
theorem QC.setMark (h:QC w b L)(f:k<L.length) (v:Bool):QC (w.setCell ⟨b,k,none⟩ (.bool v)) b (L.set k v):=by
 refine⟨by simpa using h.1,(h.2.set k (.bool v)).congr fun i g=>?_⟩
 have d:=h.1;unfold Qi8;by_cases c:i=16
 ·subst c;simp;omega
 ·rw[Xr c,Xr c]
  by_cases a:i=k
  ·subst a;simp[List.getD,f]
  ·have:¬ k=i:=fun e=>a e.symm
   simp[a,List.getD,this]
theorem QC.push (h:QC w b L) (f:L.length<16):QC ((w.setCell ⟨b,L.length,none⟩ (.bool true)).setCell ⟨b,16,none⟩ (Iv ((L.length:Int)+1))) b (L++[true]):=by
 refine⟨by simp;omega,((h.2.set L.length (.bool true)).set 16 _).congr fun i e=>?_⟩
 unfold Qi8;by_cases a:i=16
 ·subst a;simp
 ·rw[Xr a,Xr a,Xr a]
  by_cases d:i=L.length
  ·subst d;simp[List.getD]
  ·rw[Xr d]
   rcases Nat.lt_or_ge i L.length with c | c
   ·simp[List.getD,List.getElem?_append,c]
   ·rw[Qcc L c,Qcc (L++[true]) (by simp;omega)]
theorem Qcs (r:Int) (h:QC w b L) :
 Calls prog 272 #[Pv b 0,Iv r] w fun e w'=>e=.returned (.bool (hHas L r))/\w'=w:=by
 by_cases a:0<=r
 ·by_cases d:r<16
  ·obtain⟨k,rfl⟩:=Xc a
   have c:=h.mark (k:=k) (by omega);have E:Hid (hHas L (k:Int)=L.getD k false):=Qc2 L k;have i:k<16:=by omega
   clear h;generalize L.getD k false=q at c E;go_enter func272,ntmps272
   go_wp2
   go_ret;exact⟨by rw[E.out];rfl,Z⟩
  ·have E:Hid (hHas L r=false):=by
    show _=_;obtain⟨k,rfl⟩:=Xc a
    rw[Qc2,Qcc L (by have:=h.1;omega)]
   have f:decide (r<16)=false:=by simpa using d
   clear h;go_enter func272,ntmps272
   go_wp2
   go_ret;exact⟨by rw[E.out];rfl,Z⟩
 ·have E:Hid (hHas L r=false):=by show _=_;simp[hHas,a]
  have g:decide (0<=r)=false:=by simpa using a
  clear h;go_enter func272,ntmps272
  go_wp2
  go_ret;exact⟨by rw[E.out];rfl,Z⟩
theorem Qky (h:QC w b L) :
 Calls prog 271 #[Pv b 0] w fun e w'=>e=.returned (Iv (L.length:Int))/\w'=w:=by
 have c:=h.count;clear h;generalize L.length=n at c;go_enter func271,ntmps271
 go_wp2
 go_ret;exact⟨Z,Z⟩
theorem Qf9 {a:World}(h:QE (fun k=>k=b) (fun k=>k=b) a w) (i:Nat) (v:Value):QE (fun k=>k=b) (fun k=>k=b) a (w.setCell ⟨b,i,none⟩ v):=h.setCell (p:=⟨b,i,none⟩) Z v
theorem Qi6 (h:QC w b L) :
 Calls prog 237 #[Pv b 0] w fun e w'=>e=.returned (Iv (QbG L))/\QC w' b (Qek L)/\QE (fun k=>k=b) (fun k=>k=b) w w':=by
 have c:=h.count;have j:=h.1;by_cases d:L.length<16
 ·have E:Hid (QbG L=(L.length:Int)/\Qek L=L++[true]):=by show _/\_;simp[QbG,Qek,d]
  have m:=h.mark d;have f:∀ i,w.frozen? ⟨b,i,none⟩=false:=h.2.frozen;have g:Hid (QC ((w.setCell ⟨b,L.length,none⟩ (.bool true)).setCell ⟨b,16,none⟩ (Iv ((L.length:Int)+1))) b (L++[true])):=h.push d;have l:Hid (QE (fun k=>k=b) (fun k=>k=b) w ((w.setCell ⟨b,L.length,none⟩ (.bool true)).setCell ⟨b,16,none⟩ (Iv ((L.length:Int)+1)))):=Qf9 (Qf9 (QE.refl _ _) _ _) _ _;have a:((L.length:Int)==16)=false:=by simp;omega
  clear h;generalize o:L.length=n at c m g l E d a j;generalize L.getD n false=q at m;go_enter func237,ntmps237
  go_wp2_with fail
  go_region;go_wp2
  go_ret;rw[E.out.1,E.out.2]
  exact⟨Z,g.out,l.out.drew⟩
 ·have a:L.length=16:=by omega
  have E:Hid (QbG L=-1/\Qek L=L):=by show _/\_;simp[QbG,Qek,d]
  have g:Hid (QC w b L):=h;rw[a] at c
  clear h d a j;go_enter func237,ntmps237
  go_wp2
  go_ret;rw[E.out.1,E.out.2]
  exact⟨Z,g.out,QE.refl _ _⟩
theorem Qi7 (r:Int) (h:QC w b L) :
 Calls prog 269 #[Pv b 0,Iv r] w fun e w'=>e=.returned (.bool (hHas L r))/\QC w' b (QfT L r)/\QE (fun k=>k=b) (fun k=>k=b) w w':=by
 have C:Hid (Calls prog 272 #[Pv b 0,Iv r] w fun e w'=>e=.returned (.bool (hHas L r))/\w'=w):=Qcs r h
 cases hh:hHas L r with
 | false =>
   have E:Hid (QfT L r=L):=by show _=_;simp[QfT,hh]
   have g:Hid (QC w b L):=h;rw[hh] at C
   clear h hh;go_enter func269,ntmps269
   go_wp2_with (go_at_call 272;refine(C.out).mono ?_;rintro e w' ⟨rfl,a⟩;have a:=a.symm;subst a)
   go_ret;rw[E.out]
   exact⟨Z,g.out,QE.refl _ _⟩
 | true =>
   obtain⟨k,rfl,n,j⟩:=QbN hh
   have E:Hid (QfT L (k:Int)=L.set k false):=by show _=_;simp[QfT,hh]
   have g:Hid (QC (w.setCell ⟨b,k,none⟩ (.bool false)) b (L.set k false)):=h.setMark n false;have l:Hid (QE (fun k=>k=b) (fun k=>k=b) w (w.setCell ⟨b,k,none⟩ (.bool false))):=Qf9 (QE.refl _ _) _ _;have c:k<16:=by have:=h.1;omega
   have d:(k:Int)<16:=by omega
   have m:=h.mark c;have f:∀ i,w.frozen? ⟨b,i,none⟩=false:=h.2.frozen;rw[hh] at C
   generalize L.getD k false=q at m;clear h hh j;go_enter func269,ntmps269
   go_wp2_with (go_at_call 272;refine(C.out).mono ?_;rintro e w' ⟨rfl,a⟩;have a:=a.symm;subst a)
   go_ret;rw[E.out]
   exact⟨Z,g.out,l.out⟩
theorem under16:prog.underlying 301=some (.array 16 4):=by kernel_rfl
theorem underB:prog.underlying 4=some .bool:=by kernel_rfl
theorem sizeB:(prog.info? 4).map (·.size)=some 1:=by kernel_rfl
theorem size16:(prog.info? 301).map (·.size)=some 16:=by kernel_rfl
theorem QfJ {w4:World}{lo:Nat}{xs:List Int}{x:Int}(i:Qac Lay.int 3 w4 lo (.slice a xs.length c) xs cs) (f:-9223372036854775808<=x/\x<=9223372036854775807){o:Obj}(b:lo<=w4.heap.size)
 (j:w9.ownsRow lo 3 1 (.slice (some ⟨g,0,none⟩) (xs.length+1) cap) (xs.length+1) (cs++[Iv x])) (e:(w4.alloc o).grownBy w9 (Value.slice a xs.length c).ownBlock) (l:(Value.slice a xs.length c).ownBlock=some g\/g=w4.heap.size+1) :
 Qac Lay.int 3 w9 lo (.slice (some ⟨g,0,none⟩) (xs.length+1) cap) (xs++[x]) (cs++[Iv x])/\∀ w,Below lo w w4->Below lo w w9:=by
 have d:=i.below (ZO w4 o);have h:Lay.int.In (w4.alloc o) (fun g=>lo<=g/\(Value.slice a xs.length c).ownBlock≠some g) x [Iv x]:=Lay.int_mk _ _ f;refine⟨Qac.push d h e (by simpa using l) j,fun w n=>(n.alloc b _).grown e (by simp;omega) (fun k m=>(d.lo_le m).1)⟩
def QiR (w:World) (l:List Int) (e:Ending) (w':World):Prop:=∃ a c,e=.returned (.slice a l.length c)/\intsL.In w' (fun g=>w.heap.size<=g) l [.slice a l.length c]/\Below w.heap.size w w'
theorem QiD (h:QC w b L) :
 Calls prog 278 #[Pv b 0] w fun e w'=>QiR w (Qas L) e w':=by
 obtain⟨i0,hi,O,V,P⟩:=pInfoI
 have Q:w.rangeAt b 0 ((List.range 16).map fun i=>Value.bool (L.getD i false)):=fun j v z=>by
  rw[XS] at z
  cases hj:(List.range 16)[j]? with
  | none=>rw[hj] at z;cases z
  | some k =>
    have t:j<16:=by have:=(Zi hj).1;simpa using this
    rw[List.getElem?_range t] at hj
    cases hj
    rw[List.getElem?_range t] at z
    simp only[Option.map_some,Option.some.injEq] at z
    rw[<-z,XK]
    exact h.mark t
 have E:Hid (hTo L 16=Qas L):=Ql9 L 16 h.1
 have l:∀ (k:Nat) (m:World),k<16->(Instr.index 301 (.agg ((List.range 16).map fun i=>Value.bool (L.getD i false)).toArray) (Iv (k:Int))).run prog m=.ok (.bool (L.getD k false)) m:=fun k m hk=>by
  have hp:(part 4 ((List.range 16).map fun i=>Value.bool (L.getD i false)).toArray (k*1)).run prog m=.ok (.bool (L.getD k false)) m:=by
   have hc:((List.range 16).map fun i=>Value.bool (L.getD i false)).toArray[k*1]?=some (.bool (L.getD k false)):=by
    simp[hk]
   simp only[part,isAgg,Sem.run_bind,run_underlying underB,Result.andThen_ok,Sem.run_pure,Bool.false_eq_true,if_false,hc]
  have x:(sizeOf 4).run prog m=.ok 1 m:=by
   have K:=sizeB
   cases hq:prog.info? 4 with
   | none=>simp[hq] at K
   | some i=>simp[hq] at K;simp[sizeOf,typeInfo,hq,K]
  have R:(0:Int)<=(k:Int)/\(k:Int)<(16:Nat):=by omega
  simp only[Instr.index,asIntOf,Sem.run_bind,Sem.run_pure,run_underlying under16,Result.andThen_ok,R,and_self,if_true,x,Int.toNat_natCast,hp]
 have X:Hid ((prog.info? 301).map (·.size)=some ((List.range 16).map fun i=>Value.bool (L.getD i false)).length):=by show _=_;rw[XN,List.length_range];exact size16
 have HR:Hid (w.rangeAt b 0 ((List.range 16).map fun i=>Value.bool (L.getD i false))):=Q;generalize ((List.range 16).map fun i=>Value.bool (L.getD i false))=T at Q l HR X;clear Q;clear h;go_enter func278,ntmps278
 go_wp2_with (refine wpList_load_mid Yz 301 (.tmp 8) Yz b 0 Yz T _ HR.out under16 Yz X.out ?_)
 go_loopw [3,10] (fun v u wr=>∃ k s,u=Iv (k:Nat)/\k<=16/\Qac Lay.int 3 wr w.heap.size v (hTo L k) s/\Below w.heap.size w wr) (fun _ u _=>16 - (intOf u).toNat)
 case atStart=>exact⟨0,[],Yz,by omega,Qac.nil _ _ _ _,Zr⟩
 case round =>
  obtain⟨k,s,rfl,hk,S,N⟩:=hrel
  obtain⟨a,c,rfl⟩:=S.formP
  have A:Hid (Qac Lay.int 3 wr w.heap.size (.slice a (hTo L k).length c) (hTo L k) s):=S;have B:Hid (Below w.heap.size w wr):=N;have r:=QiJ L k;have x:w.heap.size<=wr.heap.size:=N.size;clear S N;by_cases M:k<16
  ·have aa:(k:Int)<16:=by omega
   have q:=fun m=>l k m M;clear l
   cases hm:L.getD k false with
   | false =>
     have F:Hid (hTo L (k+1)=hTo L k):=by show _=_;rw[hTo,hm];simp
     rw[hm] at q
     clear hm;go_wp2
     go_roundw
     case rel=>exact⟨k+1,s,by go_num,by omega,by rw[F.out];exact A.out,B.out⟩
     case measure=>simp[intOf];omega
   | true =>
     have F:Hid (hTo L (k+1)=hTo L k++[(k:Int)]):=by show _=_;rw[hTo,hm];simp
     rw[hm] at q
     have f:Hid (wr.ownsRow w.heap.size 3 1 (.slice a (hTo L k).length c) (hTo L k).length s):=A.out.own
     have U:Hid (∀ g y o,o.ownsRow w.heap.size 3 1 (.slice (some ⟨g,0,none⟩) ((hTo L k).length+1) y) ((hTo L k).length+1) (s++[Iv (k:Int)])->(wr.alloc (.cells #[Iv (k:Int)] 3)).grownBy o (Value.slice a (hTo L k).length c).ownBlock->((Value.slice a (hTo L k).length c).ownBlock=some g\/g=wr.heap.size+1) ->
      Qac Lay.int 3 o w.heap.size (.slice (some ⟨g,0,none⟩) ((hTo L k).length+1) y) (hTo L (k+1)) (s++[Iv (k:Int)])/\Below w.heap.size w o):=by
      intro g y o I h2 h3;obtain⟨J,H⟩:=QfJ A.out (by omega) x I h2 h3
      rw[F.out]
      exact⟨J,H w B.out⟩
     have EL:Hid ((hTo L (k+1)).length=(hTo L k).length+1):=by show _=_;rw[F.out];simp
     clear hm A B F;generalize (hTo L k).length=n at f U EL r |-;go_wp2_with (at_builtin;refine wpList_append_lies _ Yz (.tmp 15) (.tmp 17) 76 Yz w.heap.size 3 i0 (Iv 0) 1 8 pUnderI hi O V P Yz (by decide) _ _ _ Yz (f.out.alloc _) ⟨wr.heap.size,0,none⟩ 1 1 [Iv (k:Int)] Yz Yz (Qmh _ [_] _) (Qnm _) (by decide) (by unfold maxLen;omega) (by omega) (by simp;omega) (wr.heap.size+1) (by simp) ?_)
     intro W p o I d G C;obtain⟨J,H⟩:=U.out W p o I d G
     have A9:Hid (Qac Lay.int 3 o w.heap.size (.slice (some ⟨W,0,none⟩) (n+1) p) (hTo L (k+1)) (s++[Iv (k:Int)])):=J;have B9:Hid (Below w.heap.size w o):=H;clear I d G C f U J H;go_wp2
     go_roundw
     case rel=>exact⟨k+1,_,by go_num,by omega,A9.out,B9.out⟩
     case measure=>simp[intOf];omega
  ·have D:k=16:=by omega
   subst D
   have Z:Hid (QiR w (Qas L) (.returned (.slice a (hTo L 16).length c)) wr):=by
    rw[E.out]
    refine⟨a,c,Yz,?_,B.out⟩
    have:=A.out.lay
    rw[E.out] at this
    exact this
   clear A B l r;generalize (hTo L 16).length=n at Z;go_wp2
   go_ret;exact Z.out
theorem eqGuard16:prog.eqGuardType prog.depth 301=false:=by kernel_rfl
theorem Qiw (f:Nat->Bool){c:Array Value}(b:c.size=16):((w.alloc (.cells c t)).setCells w.heap.size 0 ((List.range 16).map fun i=>Value.bool (f i)).toArray.toList).rowIs w.heap.size t 16 (fun i=>.bool (f i)):=by
 have d:Blk (w.alloc (.cells c t)) w.heap.size ([]++c.toList).toArray t:=by rw[List.nil_append,Array.toArray_toList];exact Qf w c t
 have a:=Blk.sets ((List.range 16).map fun i=>Value.bool (f i)) [] c.toList (w.alloc (.cells c t)) (by simp[b]) d;refine⟨_,a,by simp,fun i e=>?_⟩
 simp[e]
theorem QfW {f:Nat->Bool}(h:w.rowIs b t 16 (fun i=>.bool (f i))):w.rangeAt b 0 ((List.range 16).map fun i=>Value.bool (f i)):=fun j v c=>by
 rw[XS] at c
 cases hj:(List.range 16)[j]? with
 | none=>rw[hj] at c;cases c
 | some k =>
   have a:j<16:=by have:=(Zi hj).1;simpa using this
   rw[List.getElem?_range a] at hj
   cases hj
   rw[List.getElem?_range a] at c
   simp only[Option.map_some,Option.some.injEq] at c
   rw[<-c,XK]
   exact h.cell a
theorem QC.marks (h:QC w b L):w.rangeAt b 0 ((List.range 16).map fun i=>Value.bool (L.getD i false)):=fun j v c=>by
 rw[XS] at c
 cases hj:(List.range 16)[j]? with
 | none=>rw[hj] at c;cases c
 | some k =>
   have a:j<16:=by have:=(Zi hj).1;simpa using this
   rw[List.getElem?_range a] at hj
   cases hj
   rw[List.getElem?_range a] at c
   simp only[Option.map_some,Option.some.injEq] at c
   rw[<-c,XK]
   exact h.mark a
theorem QjD (f:Nat->Bool):((List.range 16).map fun i=>Value.bool (f i)).toArray.all (·.oneCell')=true :=
 all_oneCell_toArray fun v a=>by obtain⟨i,_,rfl⟩:=List.mem_map.1 a;rfl
theorem QiI (w:World) (t:TypeId) (c:Array Value) (n:Nat) (hn:n<=c.size):(w.alloc (.cells c t)).there w.heap.size 0 n:=fun j a=>by
 have h:=Qf w c t;rw[XK]
 refine⟨?_,Qe h j⟩
 rw[Qa h j c[j] (by simp)];rfl
theorem Qif (hN:l.length=N) (ac:N<=100000) (hl:intsL.In w Q l [.slice a N c]) (h:QC w b L) :
 Calls prog 286 #[Pv b 0,.slice a N c] w fun e w'=>e=.returned (Iv (hPass L [] l))/\Below w.heap.size w w':=by
 have HX:Hid (∀ i x,l[i]?=some x->∃ g o,a=some ⟨g,o,none⟩/\g<w.heap.size/\w.cell? ⟨g,o+i,none⟩=some (Iv x)):=fun i x A=>by
  obtain⟨g,o,ds,e1,e2,e3,hc,hd,U⟩:=Yf hl A
  have T:ds=[Iv x]:=hd;subst T;refine⟨g,o,e1,e3,?_⟩
  have:=hc 0 (by decide)
  simpa[Lay.int] using this
 have HN:Hid (l.length=N):=hN;have HL:Hid (L.length<=16):=h.1;have HH:Hid (QC w b L):=h
 have t:Hid (w.rangeAt b 0 ((List.range 16).map fun i=>Value.bool (ZL L [] i))):=by
  have:=h.marks
  simp only[<-QjC] at this
  exact this
 have z:Hid ((prog.info? 301).map (·.size)=some ((List.range 16).map fun i=>Value.bool (ZL L [] i)).length):=by show _=_;rw[XN,List.length_range];exact size16
 have HT:Hid ((prog.info? 301).map (·.size)=some ((List.range 16).map fun i=>Value.bool (ZL L [] i)).toArray.size):=by show _=_;rw[List.size_toArray,XN,List.length_range];exact size16
 have P:Hid (((List.range 16).map fun i=>Value.bool (ZL L [] i)).toArray.all (·.oneCell')=true):=QjD _
 have V:Hid ((w.alloc (.cells #[.bool false,.bool false,.bool false,.bool false,.bool false,.bool false,.bool false,.bool false,.bool false,.bool false,.bool false,.bool false,.bool false,.bool false,.bool false,.bool false] 301)).there w.heap.size 0 ((List.range 16).map fun i=>Value.bool (ZL L [] i)).toArray.size):=by
  refine QiI w _ _ _ ?_;rw[List.size_toArray,XN,List.length_range]
  exact Ze
 have X:Hid (((w.alloc (.cells #[.bool false,.bool false,.bool false,.bool false,.bool false,.bool false,.bool false,.bool false,.bool false,.bool false,.bool false,.bool false,.bool false,.bool false,.bool false,.bool false] 301)).setCells w.heap.size 0 ((List.range 16).map fun i=>Value.bool (ZL L [] i)).toArray.toList).rowIs w.heap.size 301 16 (fun i=>.bool (ZL L [] i))):=Qiw _ Z
 have W:Hid (Below w.heap.size w ((w.alloc (.cells #[.bool false,.bool false,.bool false,.bool false,.bool false,.bool false,.bool false,.bool false,.bool false,.bool false,.bool false,.bool false,.bool false,.bool false,.bool false,.bool false] 301)).setCells w.heap.size 0 ((List.range 16).map fun i=>Value.bool (ZL L [] i)).toArray.toList)):=by
  have:=QE.setCells (O:=fun k=>k=w.heap.size) (O':=fun k=>k=w.heap.size) (b:=w.heap.size) Z ((List.range 16).map fun i=>Value.bool (ZL L [] i)).toArray.toList 0 _ ((QE.refl _ w).alloc (.cells #[.bool false,.bool false,.bool false,.bool false,.bool false,.bool false,.bool false,.bool false,.bool false,.bool false,.bool false,.bool false,.bool false,.bool false,.bool false,.bool false] 301))
  exact this.below Ze (fun k hk=>by omega)
 clear h hl hN;generalize ((List.range 16).map fun i=>Value.bool (ZL L [] i))=q at t z HT P V X W;go_enter func286,ntmps286
 go_wp2_with (first | (refine wpList_load_mid Z 301 (.tmp 10) Z b 0 Z q _ t.out under16 Z z.out ?_) | (refine wpList_store_mid Z 301 (.tmp 5) (.tmp 11) Z w.heap.size 0 q.toArray Z Z V.out HT.out P.out ?_))
 go_loopw [14] (fun u wr=>∃ k,u=Iv (k:Nat)/\k<=N/\wr.rowIs w.heap.size 301 16 (fun i=>.bool (ZL L (l.take k) i))/\Below w.heap.size w wr/\hPass L [] l=hPass L (l.take k) (l.drop k)) (fun u _=>N - (intOf u).toNat)
 case atStart=>exact⟨0,Z,Xb _,X.out,W.out,Z⟩
 case round =>
  obtain⟨k,rfl,hk,U,hB,hp⟩:=hrel
  have D:Hid (wr.rowIs w.heap.size 301 16 (fun i=>.bool (ZL L (l.take k) i))):=U;have s:Hid (Below w.heap.size w wr):=hB;have J:Hid (hPass L [] l=hPass L (l.take k) (l.drop k)):=hp;clear U hB hp X W t z HT P V;by_cases F:k<N
  ·have f:l[k]?=some (l[k]'(by rw[HN.out];exact F)):=Zg _;generalize l[k]'(by rw[HN.out];exact F)=x at f;obtain⟨g,o,rfl,hg,K⟩:=HX.out k x f
   have ab:wr.cell? ⟨g,o+k,none⟩=some (Iv x):=(s.out.cell (p:=⟨g,o+k,none⟩) hg).trans K;have H:(k:Int)<N:=by omega
   have n:=QhK L l f;rw[<-J.out] at n
   have C:Hid (Calls prog 272 #[Pv b 0,Iv x] wr fun e w'=>e=.returned (.bool (hHas L x))/\w'=wr):=Qcs x (HH.out.below s.out)
   cases hh:hHas L x with
   | false =>
     rw[hh] at C n
     have E:Hid (hPass L [] l=10):=by show _=_;simpa using n
     clear n hh K f;go_wp2_with (go_at_call 272;refine(C.out).mono ?_;rintro e w' ⟨rfl,m⟩;have m:=m.symm;subst m)
     go_ret;exact⟨by rw[E.out];rfl,s.out⟩
   | true =>
     obtain⟨j,rfl,hj,M⟩:=QbN hh
     rw[hh] at C n
     have G:j<16:=by have:=HL.out;omega
     have R:(j:Int)<16:=by omega
     have cj:wr.cell? ⟨w.heap.size,j,none⟩=some (.bool (ZL L (l.take k) j)):=D.out.cell G;have fj:∀ i,wr.frozen? ⟨w.heap.size,i,none⟩=false:=D.out.frozen;have S:ZL L (l.take k) j=!inB (l.take k) (j:Int):=by rw[ZL,M,Bool.true_and]
     rw[S] at cj
     cases A:inB (l.take k) (j:Int) with
     | true =>
       rw[A] at n cj
       have E:Hid (hPass L [] l=13):=by show _=_;simpa using n
       clear n hh K f S A M;go_wp2_with (go_at_call 272;refine(C.out).mono ?_;rintro e w' ⟨rfl,m⟩;have m:=m.symm;subst m)
       go_ret;exact⟨by rw[E.out];rfl,s.out⟩
     | false =>
       rw[A] at n cj
       have E:Hid (hPass L [] l=hPass L (l.take (k+1)) (l.drop (k+1))):=by show _=_;simpa using n
       have ET:l.take (k+1)=l.take k++[(j:Int)]:=by rw[XV,f];rfl
       have RN:Hid ((wr.setCell ⟨w.heap.size,j,none⟩ (.bool false)).rowIs w.heap.size 301 16 (fun i=>.bool (ZL L (l.take (k+1)) i))):=by
        refine(D.out.set j (.bool false)).congr fun i A=>?_
        rw[ET,Qht]
        by_cases e:i=j
        ·rw[Xs e,Xs e]
        ·rw[Xr e,Xr e]
       have BN:Hid (Below w.heap.size w (wr.setCell ⟨w.heap.size,j,none⟩ (.bool false))):=s.out.setCell (p:=⟨w.heap.size,j,none⟩) Ze _;clear n hh K f S A M ET D s J;go_wp2_with (go_at_call 272;refine(C.out).mono ?_;rintro e w' ⟨rfl,m⟩;have m:=m.symm;subst m)
       go_roundw
       case rel=>exact⟨k+1,by go_num,by omega,RN.out,BN.out,E.out⟩
       case measure=>simp[intOf];omega
  ·have H:¬ (k:Int)<N:=by omega
   have y:l.length<=k:=by rw[HN.out];omega
   have v:=QhU L l y;rw[<-J.out] at v
   have t:Hid (wr.rangeAt w.heap.size 0 ((List.range 16).map fun i=>Value.bool (ZL L (l.take k) i))):=QfW D.out;rw[XO y] at t
   have z:Hid ((prog.info? 301).map (·.size)=some ((List.range 16).map fun i=>Value.bool (ZL L l i)).length):=by show _=_;rw[XN,List.length_range];exact size16
   have B:∀ I,(Op.equalIn 10000 301 (.agg ((List.range 16).map fun i=>Value.bool (ZL L l i)).toArray) (.agg #[.bool false,.bool false,.bool false,.bool false,.bool false,.bool false,.bool false,.bool false,.bool false,.bool false,.bool false,.bool false,.bool false,.bool false,.bool false,.bool false])).run prog I=.ok ((Qas L).all (fun r=>inB l r)) I:=fun I=>by
    have:=QbY (d:=9998) under16 underB sizeB I ((List.range 16).map (ZL L l)) (List.replicate 16 false) (by simp) (by simp)
    rw[List.map_map] at this
    refine Eq.trans this ?_;congr 1
    rw[Bool.eq_iff_iff,beq_iff_eq]
    exact Qhc HL.out
   generalize ((List.range 16).map fun i=>Value.bool (ZL L l i))=q at t z B;have aa:=eqGuard16;clear J D HX y
   cases hq:(Qas L).all (fun r=>inB l r) with
   | true =>
     rw[hq] at B v
     have E:Hid (hPass L [] l=0):=by show _=_;simpa using v
     clear v hq;go_wp2_with (refine wpList_load_mid Z 301 (.tmp 5) Z w.heap.size 0 Z q _ t.out under16 Z z.out ?_)
     go_ret;exact⟨by rw[E.out];rfl,s.out⟩
   | false =>
     rw[hq] at B v
     have E:Hid (hPass L [] l=12):=by show _=_;simpa using v
     clear v hq;go_wp2_with (refine wpList_load_mid Z 301 (.tmp 5) Z w.heap.size 0 Z q _ t.out under16 Z z.out ?_)
     go_ret;exact⟨by rw[E.out];rfl,s.out⟩
theorem Qs {a w:World}(h:Below B a w) (n:Nat):Below B a (w.drewN n):=⟨h.os,h.tape,h.output,h.size,h.block⟩
theorem Qb {p:Prop}(h:p):Hid p:=h
def QfC (w:World) (O:Nat->Prop) (t:TypeId) (v:Value) (vs:List Value):Prop:=w.ownsRow 0 t 1 v vs.length vs/\∀ g,v.ownBlock=some g->O g
section
variable {w w':World}{O O':Nat->Prop}{t:TypeId}{v:Value}{vs:List Value}
theorem QfC.nil (w:World) (O:Nat->Prop) (t:TypeId):QfC w O t (Nv) []:=⟨⟨Z,Or.inl ⟨Z,Z⟩⟩,by simp[Value.ownBlock]⟩
theorem QfC.form (h:QfC w O t v vs):∃ a cap,v=.slice a vs.length cap/\(∀ i,i<vs.length->∃ g,a=some ⟨g,0,none⟩/\O g/\w.cell? ⟨g,i,none⟩=vs[i]?/\w.frozen? ⟨g,i,none⟩=false):=by
 obtain⟨⟨o,e⟩,l⟩:=h
 rcases e with ⟨rfl,j⟩|⟨g,cap,b,rfl,_,c,p,m,n,k⟩
 ·rw[j]
  exact⟨none,0,Z,fun i f=>by omega⟩
 ·refine⟨some ⟨g,0,none⟩,cap,Z,fun i f=>⟨g,Z,l g Z,?_,Qe c i⟩⟩
  have d:i<b.size:=by omega
  rw[Qa c i b[i] (by simp),<-k,XR,Xs (by omega),Array.getElem?_toList,Xj d]
theorem QfC.keep (h:QfC w O t v vs) (hb:∀ g,v.ownBlock=some g->w'.heap[g]?=w.heap[g]?) (d:∀ g,v.ownBlock=some g->O' g):QfC w' O' t v vs:=by
 obtain⟨⟨j,f⟩,k⟩:=h
 refine⟨⟨j,?_⟩,d⟩
 rcases f with i | ⟨g,b,a,rfl,e,c,r⟩
 ·exact Or.inl i
 ·exact Or.inr ⟨g,b,a,Z,e,(hb g Z).trans c,r⟩
theorem QfC.block (h:QfC w O t v vs)(a:v.ownBlock=some g):∃ c,w.heap[g]?=some (.cells c t (0,0)):=by
 obtain⟨⟨i,e⟩,k⟩:=h
 rcases e with ⟨rfl,_⟩|⟨j,f,b,rfl,_,d,r⟩
 ·simp[Value.ownBlock] at a
 ·simp[Value.ownBlock] at a;subst a;exact⟨b,d⟩
theorem QfC.lt (h:QfC w O t v vs)(b:v.ownBlock=some g):g<w.heap.size:=by
 obtain⟨c,a⟩:=h.block b
 exact XC a
theorem QfC.set (h:QfC w O t (.slice (some ⟨g,0,none⟩) n cap) vs) (i:Nat) (u:Value):QfC (w.setCell ⟨g,i,none⟩ u) O t (.slice (some ⟨g,0,none⟩) n cap) (vs.set i u):=by
 obtain⟨⟨p,j⟩,l⟩:=h
 rcases j with ⟨e,_⟩|⟨q,b,a,e,o,c,m,d,f,k⟩
 ·cases e
 ·cases e
  refine⟨⟨by simp,Or.inr ⟨g,cap,a.setIfInBounds i u,by simp,Xb _,Qh c i u,by simpa using m,d,by simpa using f,?_⟩⟩,l⟩
  rw[Array.toList_setIfInBounds,List.length_set,List.take_set,k]
end
def QN (w:World) (b:Nat) (O:Nat->Prop) (L:List Bool):Prop :=
 ∃ v,w.heap[b]?=some (.cells #[v] 180 (0,0))/\QfC w O 4 v (L.map Value.bool)/\O b
section
variable {w w':World}{b:Nat}{O O' P P':Nat->Prop}{L:List Bool}
theorem QN.keep (h:QN w b O L) (hb:∀ g,O g->g<w.heap.size->w'.heap[g]?=w.heap[g]?) (e:∀ g,O g->g<w.heap.size->O' g):QN w' b O' L:=by
 obtain⟨v,d,c,f⟩:=h
 exact⟨v,(hb b f (XC d)).trans d,c.keep (fun g a=>hb g (c.2 g a) (c.lt a)) (fun g a=>e g (c.2 g a) (c.lt a)),e b f (XC d)⟩
theorem QN.below (h:QN w b O L) (k:Below w.heap.size w w'):QN w' b O L:=h.keep (fun g _ a=>k.block g a) (fun g a _=>a)
theorem QN.step (h:QN w b O L) (k:QE P P' w w') (c:∀ x,O x->¬ P x):QN w' b O L:=h.keep (fun g d a=>k.block g a (c g d)) (fun g a _=>a)
theorem QN.mono (h:QN w b O L) (a:∀ g,O g->O' g):QN w b O' L:=h.keep (fun _ _ _=>rfl) (fun g c _=>a g c)
theorem QN.lt (h:QN w b O L):b<w.heap.size:=by obtain⟨v,a,c,d⟩:=h;exact XC a
theorem QN.cells (h:QN w b O L):∃ a cap,w.cell? ⟨b,0,none⟩=some (.slice a L.length cap)/\w.frozen? ⟨b,0,none⟩=false/\w.ownsRow 0 4 1 (.slice a L.length cap) L.length (L.map Value.bool) /\
 ∀ i,i<L.length->∃ g,a=some ⟨g,0,none⟩/\O g/\w.cell? ⟨g,i,none⟩=some (.bool (L.getD i false))/\w.frozen? ⟨g,i,none⟩=false/\∀ u,QN (w.setCell ⟨g,i,none⟩ (.bool u)) b O (L.set i u):=by
 obtain⟨v,e,d,p⟩:=h
 obtain⟨a,cap,rfl,k⟩:=d.form
 rw[XN] at e d k
 have l:=d.1;rw[XN] at l
 refine⟨a,cap,Qa e 0 _ Z,Qe e 0,l,fun i j=>?_⟩
 obtain⟨g,rfl,n,m,o⟩:=k i j
 refine⟨g,Z,n,?_,o,fun u=>⟨.slice (some ⟨g,0,none⟩) L.length cap,?_,?_,p⟩⟩
 ·rw[m,XS,Zg j];simp[List.getD,j]
 ·obtain⟨c,f⟩:=d.block (g:=g) Z
  rw[Xd _ _ _ _ (QK e f (by decide))];exact e
 ·rw[List.map_set];exact d.set i (.bool u)
theorem QN.push (h:QN w b O L){d:Nat}{o:Obj}(A:w.cell? ⟨b,0,none⟩=some (.slice a L.length cap))
 (D:w9.ownsRow 0 4 1 (.slice (some ⟨g,0,none⟩) (L.length+1) d) (L.length+1) (L.map Value.bool++[.bool true])) (i:(w.alloc o).grownBy w9 (Value.slice a L.length cap).ownBlock) (y:(Value.slice a L.length cap).ownBlock=some g\/g=w.heap.size+1) (C:g<w9.heap.size) :
 w9.cell? ⟨b,0,none⟩=some (.slice a L.length cap)/\w9.frozen? ⟨b,0,none⟩=false /\
 QN (w9.setCell ⟨b,0,none⟩ (.slice (some ⟨g,0,none⟩) (L.length+1) d)) b (fun x=>O x\/(w.heap.size<=x/\x<w9.heap.size)) (L++[true])/\QE O (fun x=>O x\/(w.heap.size<=x/\x<w9.heap.size)) w (w9.setCell ⟨b,0,none⟩ (.slice (some ⟨g,0,none⟩) (L.length+1) d)):=by
 obtain⟨v,m,s,z⟩:=h
 have e:=Qa m 0 _ Z;rw[A] at e
 simp only[Option.some.injEq] at e
 subst e;have n:b<w.heap.size:=XC m
 have j:∀ l,(Value.slice a L.length cap).ownBlock=some l->b≠l:=fun l f=>by
  obtain⟨c,B⟩:=s.block f
  exact QK m B (by decide)
 have r:w9.heap[b]?=some (.cells #[.slice a L.length cap] 180 (0,0)):=by
  have:=i.block b (by simp;omega) (fun e=>j b e.symm Z)
  rw[this,Below.heap_alloc _ _ _ n];exact m
 have p:b≠g:=by
  rcases y with h | h
  ·exact j g h
  ·omega
 have q:=i.size;simp only[World.size_alloc] at q
 refine⟨Qa r 0 _ Z,Qe r 0,⟨.slice (some ⟨g,0,none⟩) (L.length+1) d,?_,⟨?_,fun l f=>?_⟩,.inl z⟩,?_⟩
 ·rw[Qh r];rfl
 ·have:QfC w9 (fun _=>True) 4 (.slice (some ⟨g,0,none⟩) (L.length+1) d) ((L++[true]).map Value.bool):=⟨by simpa using D,fun _ _=>trivial⟩
  exact(this.keep (w':=w9.setCell ⟨b,0,none⟩ (.slice (some ⟨g,0,none⟩) (L.length+1) d)) (O':=fun _=>True) (fun l f=>Xd _ _ _ _ (by simp[Value.ownBlock] at f;subst f;exact fun e=>p e.symm)) (fun _ _=>trivial)).1
 ·simp[Value.ownBlock] at f
  subst f;rcases y with h | h
  ·exact .inl (s.2 _ h)
  ·exact .inr ⟨by omega,C⟩
 ·refine⟨i.os,i.tape,i.output,by simp;omega,fun k t u=>?_,fun k t=>t.imp id fun h=>h.1⟩
  rw[Xd _ _ _ _ (fun e=>u (by subst e;exact z)),i.block k (by simp;omega) (fun e=>u (s.2 k e.symm)),Below.heap_alloc _ _ _ t]
end
theorem QhT {w:World}(h:intsL.In w Q l [.slice a N c])(hi:i<=l.length) (c':Nat):intsL.In w Q (l.take i) [.slice a i c']:=by
 obtain⟨g,d,e,f⟩:=h
 simp only[List.cons.injEq,Value.slice.injEq,and_true] at e
 obtain⟨rfl,_,rfl⟩:=e
 refine⟨a,c',by simp[Nat.min_eq_left hi],fun j x b=>f j x ?_⟩
 rw[XR] at b
 split at b
 ·exact b
 ·cases b
end Go.Proofs.YtjhdpajpibdnaafGreat
