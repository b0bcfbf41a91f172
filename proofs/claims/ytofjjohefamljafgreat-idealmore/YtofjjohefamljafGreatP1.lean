import Derived.Test.YtofjjohefamljafGreatRows
import Derived.WalkKit
import Derived.WalkLawsBesides
import Derived.ProofKit
import Derived.OpenShut
import Derived.Deep.OwnRows
import Derived.Deep.AppendLies
import Derived.Deep.Draws
import Derived.Deep.Slices
import Derived.Deep.Strs
import Derived.Below
import Derived.ChangeOld
import Derived.Deep.MidRow
import Derived.Laws.StructEq
import Derived.ChangeKeysEq
import Derived.RowKit
import Derived.Maps.OwnSet
import Derived.Deep.QuietTactic
import Derived.BigQuiet
import Derived.RegionTactic
import Derived.Deep.Cut
set_option maxHeartbeats 16000000
set_option maxRecDepth 100000
namespace Go.Proofs.YtofjjohefamljafGreat
open Go.ChangeShapes Go.WideShapes Go.ChangeAt Go.RowKit _root_.Go.Proofs.Tryz
set_option linter.unusedSimpArgs false
set_option linter.unusedVariables false
variable {w w' w6 wr wc w1:World}{n c b B g m k i j X cm rc ac rl al fi N bh q R bi cap most lo id d f x ci na ca o lm G pages:Nat}{O O' Q2 OO:Nat→Prop}{a p ra aa pm pi pa:Option Addr}{v u v0:Value}{t bt e:TypeId}{xa xb xc xk xn words fu pg:Int}{Q:Exit→Act→World→Prop}{P:Program}{l:List Oper}{bs:List Bool}{cs xs:List Value}{inp:List Int}{x0:Operand}
theorem Zr {n:Nat}{w:World}:Below n w w:=Below.refl _ _
theorem Zg {α:Type _}{l:List α}{i:Nat}(h:i<l.length):l[i]?=some l[i]:=List.getElem?_eq_getElem h
theorem Zi {α:Type _}{i:Nat}{a:α}{l:List α}(h:l[i]?=some a):∃ h,l[i]=a:=List.getElem?_eq_some_iff.1 h
theorem Za {α:Type _}{xs:Array α}{i:Nat}{d:α}:xs.getD i d=xs[i]?.getD d:=Array.getD_eq_getD_getElem?
theorem Zl {n m k:Nat}:n<m→m≤k→n<k:=Nat.lt_of_lt_of_le
theorem Zm {α:Type _}{l:List α}{i:Nat}{a:α}(h:l[i]?=some a):a∈l:=List.mem_of_getElem? h
theorem Zt {n m k:Nat}:n≤m→m≤k→n≤k:=Nat.le_trans
theorem Ze {n:Nat}:n≤n:=Nat.le_refl _
theorem Z {α:Sort _}{a:α}:a=a:=rfl
theorem Y:True:=trivial
theorem Yz {α:Sort _}{a:α}:a=a:=rfl
theorem Yy:True:=trivial
theorem Xb:type_of% @Nat.zero_le:=@Nat.zero_le
theorem Xd:type_of% @Below.heap_setCell:=@Below.heap_setCell
theorem Xf:type_of% @List.length_eq_zero_iff:=@List.length_eq_zero_iff
theorem Xs:type_of% @if_pos:=@if_pos
theorem XC:type_of% @lt_of_block:=@lt_of_block
theorem XL:type_of% @Nat.mul_one:=@Nat.mul_one
theorem XR:type_of% @List.getElem?_take:=@List.getElem?_take
theorem XS:type_of% @List.getElem?_map:=@List.getElem?_map
structure QN (O O':Nat->Prop) (w w':World):Prop where
 os:w'.os=w.os
 tape:w'.tape=w.tape
 output:w'.output=w.output
 size:w.heap.size<=w'.heap.size
 block:∀ k,k<w.heap.size->¬ O k->w'.heap[k]?=w.heap[k]?
 own:∀ k,O' k->O k\/w.heap.size<=k
theorem QN.refl (O:Nat->Prop) (w:World):QN O O w w:=⟨Z,Z,Z,Ze,fun _ _ _=>rfl,fun _ h=>Or.inl h⟩
theorem QN.trans {e:Nat->Prop}{a b c:World}(h:QN O O' a b) (k:QN O' e b c):QN O e a c :=
 ⟨k.os.trans h.os,k.tape.trans h.tape,k.output.trans h.output,Zt h.size k.size,
  fun i f g=>(k.block i (Zl f h.size) (fun j=>(h.own i j).elim g (fun d=>by omega))).trans (h.block i f g),
  fun i f=>(k.own i f).elim (h.own i) (fun d=>Or.inr (Zt h.size d))⟩
theorem QN.mono {P:Nat->Prop}{a b:World}(h:QN O O' a b) (d:∀ k,O k->P k):QN P O' a b :=
 ⟨h.os,h.tape,h.output,h.size,fun i c f=>h.block i c (fun e=>f (d i e)),fun i c=>(h.own i c).imp (d i) id⟩
theorem QN.sub {P:Nat->Prop}{a b:World}(h:QN O O' a b) (c:∀ k,P k->O' k):QN O P a b :=
 ⟨h.os,h.tape,h.output,h.size,h.block,fun i d=>h.own i (c i d)⟩
theorem QN.drewN {a:World}(h:QN O O' a w) (n:Nat):QN O O' a (w.drewN n):=⟨h.os,h.tape,h.output,h.size,h.block,h.own⟩
theorem QN.drew {a:World}(h:QN O O' a w):QN O O' a w.drew:=⟨h.os,h.tape,h.output,h.size,h.block,h.own⟩
theorem QN.alloc {a:World}(h:QN O O' a w) (o:Obj):QN O O' a (w.alloc o) :=
 ⟨h.os,h.tape,h.output,by have:=h.size;simp;omega,fun k b c=>(Below.heap_alloc _ _ _ (by have:=h.size;omega)).trans (h.block k b c),h.own⟩
theorem QN.setCell {a:World}(h:QN O O' a w){p:Addr}(f:O' p.block) (u:Value):QN O O' a (w.setCell p u) :=
 ⟨h.os,h.tape,h.output,by have:=h.size;simp;omega,
  fun k d c=>(Xd _ _ _ _ (fun e=>by subst e;rcases h.own _ f with b | b;exact c b;omega)).trans (h.block k d c),h.own⟩
theorem QN.below {a:World}(h:QN O O' a w) (e:B<=a.heap.size) (c:∀ k,O k->B<=k):Below B a w :=
 ⟨h.os,h.tape,h.output,h.size,fun k d=>h.block k (by omega) (fun b=>by have:=c k b;omega)⟩
theorem QN.of_below {a:World}(h:Below a.heap.size a w) (c:∀ k,O' k->O k\/a.heap.size<=k):QN O O' a w :=
 ⟨h.os,h.tape,h.output,h.size,fun k b _=>h.block k b,c⟩
theorem QN.keep {a:World}(h:QN O O' a w){o:Obj}(b:a.heap[k]?=some o) (hn:¬ O k):w.heap[k]?=some o :=
 (h.block k (XC b) hn).trans b
theorem Qa {c:Array Value}(h:w.heap[b]?=some (.cells c t (0,0))) (i:Nat) (v:Value) (a:c[i]?=some v):w.cell? ⟨b,i,none⟩=some v:=by
 simp[World.cell?,h,a]
theorem Qf {c:Array Value}(h:w.heap[b]?=some (.cells c t (0,0))) (i:Nat):w.frozen? ⟨b,i,none⟩=false:=by
 simp[World.frozen?,h]
theorem Qo {c:Array Value}(h:w.heap[b]?=some (.cells c t (0,0))) (i:Nat) (v:Value) :
 (w.setCell ⟨b,i,none⟩ v).heap[b]?=some (.cells (c.setIfInBounds i v) t (0,0)):=by
 simp[World.setCell,Array.getElem?_modify,h]
theorem Qh (w:World) (c:Array Value) (t:TypeId):(w.alloc (.cells c t)).heap[w.heap.size]?=some (.cells c t (0,0)):=by
 show (w.heap.push _)[w.heap.size]?=_;simp
theorem Q8 {c d:Array Value}{u:TypeId}{f:Nat × Nat}(h:w.heap[b]?=some (.cells c t f)) (k:w.heap[g]?=some (.cells d u f)) (hn:t≠u):b≠g:=by
 intro e;subst e;rw[h] at k;simp at k;exact hn k.2
def Row (w:World) (O:Nat->Prop) (t:TypeId) (v:Value) (xs:List Int):Prop :=
 w.ownsRow 0 t 1 v xs.length (xs.map (Value.int .i64))/\∀ g,v.ownBlock=some g->O g
theorem Row.nil (w:World) (O:Nat->Prop) (t:TypeId):Row w O t (.slice none 0 0) []:=⟨⟨Z,Or.inl ⟨Z,Z⟩⟩,by simp[Value.ownBlock]⟩
theorem Row.form {xs:List Int}(h:Row w O t v xs) :
 ∃ a cap,v=.slice a xs.length cap/\(a=none->xs=[]/\cap=0)/\∀ g,a=some g->g=⟨g.block,0,none⟩/\O g.block/\xs.length<=cap/\cap<=maxLen/\∃ c,w.heap[g.block]?=some (.cells c t (0,0))/\c.size=cap/\∀ i,i<xs.length->c[i]?=some (.int .i64 (xs.getD i 0)):=by
 obtain⟨⟨q,l⟩,n⟩:=h
 rcases l with ⟨rfl,k⟩|⟨g,cap,b,rfl,_,o,f,j,m,d⟩
 ·have:xs=[]:=Xf.1 k
  subst this;exact⟨none,0,Z,(fun _=>⟨Z,Z⟩),(fun g e=>by cases e)⟩
 ·refine⟨some ⟨g,0,none⟩,cap,Z,(fun e=>by cases e),(fun r e=>?_)⟩
  cases e
  refine⟨Z,n g Z,f,j,b,o,by simpa using m,fun i p=>?_⟩
  have:(b.toList.take (xs.length*1))[i]?=(xs.map (Value.int .i64))[i]?:=by rw[d]
  rw[XR,Xs (by omega),XS] at this
  rw[<-Array.getElem?_toList,this]
  simp[List.getD,p]
theorem Row.cell {xs:List Int}(h:Row w O t (.slice (some ⟨g,0,none⟩) n cap) xs) (i:Nat) (k:i<xs.length) :
 w.cell? ⟨g,i,none⟩=some (.int .i64 (xs.getD i 0)):=by
 obtain⟨a,d,e,_,j⟩:=h.form
 cases e
 obtain⟨_,_,_,_,c,f,_,b⟩:=j _ Z
 exact Qa f i _ (b i k)
theorem Row.keep {xs:List Int}(h:Row w O t v xs) (hb:∀ g,v.ownBlock=some g->w'.heap[g]?=w.heap[g]?) (e:∀ g,v.ownBlock=some g->O' g):Row w' O' t v xs:=by
 obtain⟨⟨d,i⟩,k⟩:=h
 refine⟨⟨d,?_⟩,e⟩
 rcases i with f | ⟨g,b,a,rfl,c,j,r⟩
 ·exact Or.inl f
 ·exact Or.inr ⟨g,b,a,Z,c,(hb g Z).trans j,r⟩
theorem Row.lt {xs:List Int}(h:Row w O t v xs)(a:v.ownBlock=some g):g<w.heap.size:=by
 obtain⟨⟨f,b⟩,j⟩:=h
 rcases b with ⟨rfl,_⟩|⟨i,e,c,rfl,_,d,r⟩
 ·simp[Value.ownBlock] at a
 ·simp[Value.ownBlock] at a;subst a;exact XC d
theorem Row.block {xs:List Int}(h:Row w O t v xs)(a:v.ownBlock=some g):∃ c,w.heap[g]?=some (.cells c t (0,0)):=by
 obtain⟨⟨i,d⟩,k⟩:=h
 rcases d with ⟨rfl,_⟩|⟨j,f,b,rfl,_,e,r⟩
 ·simp[Value.ownBlock] at a
 ·simp[Value.ownBlock] at a;subst a;exact⟨b,e⟩
theorem Row.step {P b:Nat->Prop}{xs:List Int}(h:Row w O t v xs) (k:QN P b w w') (c:∀ x,O x->¬ P x):Row w' O t v xs :=
 h.keep (fun g a=>k.block g (h.lt a) (c g (h.2 g a))) h.2
theorem Row.drewN {xs:List Int}(h:Row w O t v xs) (n:Nat):Row (w.drewN n) O t v xs:=h
theorem Row.init {xs:List Int}(h:Row w O t (.slice (some ⟨g,0,none⟩) n cap) xs) (m:Nat) (k:m<=xs.length) :
 Row w O t (.slice (some ⟨g,0,none⟩) m cap) (xs.take m):=by
 obtain⟨⟨r,j⟩,o⟩:=h
 rcases j with ⟨e,_⟩|⟨d,c,b,e,q,p,s,a,l,i⟩
 ·cases e
 ·cases e
  have f:(xs.take m).length=m:=by simp;omega
  refine⟨⟨by simp,Or.inr ⟨g,cap,b,by rw[f],Xb _,p,by omega,a,l,?_⟩⟩,fun d e=>o d e⟩
  rw[f,XL,List.map_take,<-i,List.take_take,XL,Nat.min_eq_left k]
theorem Zy {b k:Nat}(a:k≠b):∀ (vs:List Value) (o:Nat) (w:World),(w.setCells b o vs).heap[k]?=w.heap[k]?
 | [],_,_=>rfl
 | v::r,o,w=>by rw[World.setCells,Zy a r];exact Xd _ _ _ _ a
theorem QN.setCells {O O':Nat->Prop}{a:World}{b:Nat}(c:O' b):∀ (vs:List Value) (o:Nat) (w:World),QN O O' a w->QN O O' a (w.setCells b o vs)
 | [],_,_,h=>h
 | v::r,o,w,h=>QN.setCells c r (o+1) _ (h.setCell (p:=⟨b,o,none⟩) c v)
theorem Row.pushed {xs:List Int}{k:Int}{o:Obj}(h:Row w O t v xs) (f:w1.ownsRow 0 t 1 (.slice (some ⟨g,0,none⟩) (xs.length+1) cap) (xs.length+1) (xs.map (Value.int .i64)++[.int .i64 k]))
 (b:v.ownBlock=some g\/g=w.heap.size+1) (a:g<w1.heap.size) (O':Nat->Prop) (d:∀ x,O x\/w.heap.size<=x->x<w1.heap.size->O' x):Row w1 O' t (.slice (some ⟨g,0,none⟩) (xs.length+1) cap) (xs++[k]):=by
 refine⟨?_,fun i e=>?_⟩
 ·have e:(xs++[k]).length=xs.length+1:=by simp
  rw[e,List.map_append];exact f
 ·simp[Value.ownBlock] at e;subst e
  refine d _ ?_ a;rcases b with c | c
  ·exact Or.inl (h.2 _ c)
  ·right;omega
#print axioms Row.init
theorem Xk:type_of% @List.getElem?_eq_none:=@List.getElem?_eq_none
theorem Xr:type_of% @if_neg:=@if_neg
theorem XQ:type_of% @List.getElem?_append_right:=@List.getElem?_append_right
theorem XT:type_of% @Int.toNat_natCast:=@Int.toNat_natCast
structure Qj where
 kind:Int
 region:Int
 thing:Int
 n:Int
deriving DecidableEq
structure Qq where
 arr:Bool
 l:List Qj
structure Qi where
 there:Bool
 l:List Qq
 pages:Nat
 used:Int
structure Qc where
 L:List Qi
 left:Nat
def Qj.bare (v:Qj):Qj:=if v.kind=1 then ⟨1,0,0,v.n⟩ else if v.kind=2 then ⟨2,v.region,0,0⟩ else if v.kind=3\/v.kind=4 then ⟨v.kind,v.region,v.thing,0⟩ else ⟨v.kind,0,0,0⟩
def Zh (x:Int):Prop:=-9223372036854775808<=x/\x<=9223372036854775807
def Qj.ok (v:Qj):Prop:=Zh v.kind/\Zh v.region/\Zh v.thing/\Zh v.n
def Qq.knd (t:Qq):Int:=if t.arr then 4 else 3
def noV:Qj:=⟨0,0,0,0⟩
def Qa8 (n:Int):Qj:=⟨1,0,0,n⟩
def noP:Qi:=⟨false,[],0,0⟩
def newP:Qi:=⟨true,[],0,0⟩
def Qc.new (pages:Nat):Qc:=⟨[],pages⟩
def Qc.live (h:Qc):Nat:=(h.L.filter (·.there)).length
def Qc.place (h:Qc) (k:Int):Option Qi:=if k<0 then none else match h.L[k.toNat]? with
 | none=>none
 | some p=>if p.there then some p else none
def Qc.open_ (h:Qc):Qj × Bool × Qc:=if 16<=h.live then (noV,false,h) else (⟨2,h.L.length,0,0⟩,true,{ h with L:=h.L++[newP] })
def Qc.at (h:Qc) (v:Qj):Option Qi:=if v.kind=2 then h.place v.region else none
def Qc.shut (h:Qc) (v:Qj):Bool × Qc:=match h.at v with
 | none=>(false,h)
 | some p=>(true,⟨h.L.set v.region.toNat noP,h.left+p.pages⟩)
def Qi.tight (p:Qi) (words:Int):Bool:=decide (p.pages=0)||decide (words>16 - p.used)
def Qi.more (p:Qi) (t:Qq) (words:Int):Qi:=if p.tight words then ⟨p.there,p.l++[t],p.pages+1,words⟩ else ⟨p.there,p.l++[t],p.pages,p.used+words⟩
def Qc.put (h:Qc) (v:Qj) (t:Qq) (words:Int):Qj × Int × Qc:=match h.at v with
 | none=>(noV,20,h)
 | some p=>if p.tight words/\h.left=0 then (noV,14,h)
   else (⟨if t.arr then 4 else 3,v.region,p.l.length,0⟩,0,⟨h.L.set v.region.toNat (p.more t words),if p.tight words then h.left - 1 else h.left⟩)
def Qc.tuple (h:Qc) (v:Qj) (l:List Qj):Qj × Int × Qc:=h.put v ⟨false,l⟩ (if l.length=0 then 1 else l.length)
def Qc.array (h:Qc) (v:Qj) (n:Int):Qj × Int × Qc:=if n<0\/15<n then (noV,1,h) else h.put v ⟨true,List.replicate n.toNat (Qa8 0)⟩ (n+1)
def Qc.thing (h:Qc) (v:Qj):Option Qq:=if v.kind=3\/v.kind=4 then (match h.place v.region with
 | none=>none
 | some p=>if v.thing<0 then none else match p.l[v.thing.toNat]? with
   | none=>none
   | some t=>if t.arr=decide (v.kind=4) then some t else none) else none
def Qc.get (h:Qc) (v:Qj) (k:Int):Qj × Int:=match h.thing v with
 | none=>(noV,20)
 | some t=>if k<0 then (noV,1) else match t.l[k.toNat]? with
   | none=>(noV,1)
   | some x=>(x,0)
def Qc.set (h:Qc) (v:Qj) (k:Int) (x:Qj):Int × Qc:=match h.thing v,h.place v.region with
 | some t,some p=>if t.arr=true/\x.kind≠1 then (20,h) else if k<0\/t.l.length<=k.toNat then (1,h)
   else (0,{ h with L:=h.L.set v.region.toNat { p with l:=p.l.set v.thing.toNat { t with l:=t.l.set k.toNat x } } })
 | _,_=>(20,h)
def Qc.len (h:Qc) (v:Qj):Int × Int:=match h.thing v with
 | none=>(0,20)
 | some t=>(t.l.length,0)
theorem Qc.place_nat (h:Qc) (k:Nat):h.place (k:Int)=match h.L[k]? with
 | none=>none
 | some p=>if p.there then some p else none:=by
 unfold Qc.place;rw[Xr (by omega),XT]
theorem Qc.place_some {h:Qc}{k:Int}{p:Qi}(e:h.place k=some p):0<=k/\h.L[k.toNat]?=some p/\p.there=true:=by
 unfold Qc.place at e;split at e
 ·cases e
 ·rename_i c
  refine⟨by omega,?_⟩
  split at e
  ·cases e
  ·rename_i q a
   split at e
   ·rename_i b;cases e;exact⟨a,b⟩
   ·cases e
theorem Qc.place_of {h:Qc}{p:Qi}(e:h.L[k]?=some p) (a:p.there=true):h.place (k:Int)=some p:=by rw[h.place_nat,e];simp[a]
theorem Qc.place_set {h:Qc}(b:k<h.L.length) (p:Qi) (n:Nat) (j:Int):Qc.place ⟨h.L.set k p,n⟩ j=if j=k then (if p.there then some p else none) else h.place j:=by
 unfold Qc.place;by_cases a:j<0
 ·rw[Xs a,Xr (by omega),Xs a]
 ·rw[Xr a,Xr a]
  by_cases e:j=k
  ·subst e;simp[b]
  ·rw[Xr e,List.getElem?_set_ne (by omega)]
theorem Qc.place_push (h:Qc) (p:Qi) (j:Int) (n:Nat):Qc.place ⟨h.L++[p],n⟩ j=if j=h.L.length then (if p.there then some p else none) else h.place j:=by
 unfold Qc.place;by_cases a:j<0
 ·rw[Xs a,Xr (by omega),Xs a]
 ·rw[Xr a,Xr a]
  by_cases e:j=h.L.length
  ·subst e;simp
  ·rw[Xr e]
   rcases Nat.lt_or_ge j.toNat h.L.length with b | b
   ·simp[List.getElem?_append,b]
   ·rw[XQ b,Xk b,Xk (by simp;omega)]
theorem Qc.live_push (h:Qc) (n:Nat):Qc.live ⟨h.L++[newP],n⟩=h.live+1:=by simp[Qc.live,newP]
theorem Qba {α:Type}(f:α->Bool) (q:α):∀ (l:List α) (k:Nat) (p:α),l[k]?=some p->((l.set k q).filter f).length+(if f p then 1 else 0)=(l.filter f).length+(if f q then 1 else 0)
 | [],_,_,h=>by simp at h
 | x::r,0,p,h=>by
   simp at h;subst h
   simp only[List.set_cons_zero,List.filter_cons]
   cases f x<;>cases f q<;>simp
 | x::r,k+1,p,h=>by
   have a:=Qba f q r k p (by simpa using h);simp only[List.set_cons_succ,List.filter_cons]
   cases f x<;>simp<;>omega
theorem Qc.live_set {h:Qc}{p q:Qi}(e:h.L[k]?=some p) (n:Nat):Qc.live ⟨h.L.set k q,n⟩+(if p.there then 1 else 0)=h.live+(if q.there then 1 else 0):=Qba (fun x:Qi=>x.there) q h.L k p e
structure HOk (N T:Nat) (h:Qc):Prop where
 len:h.L.length<=N
 things:∀ (k:Nat) (p:Qi),h.L[k]?=some p->p.l.length<=N
 used:∀ (k:Nat) (p:Qi),h.L[k]?=some p->0<=p.used/\p.used<=N
 pages:h.left+(h.L.map (·.pages)).sum<=T
theorem Qh2 {l:List Qi}{p:Qi}(e:l[k]?=some p):p.pages<=(l.map (·.pages)).sum:=by
 induction l generalizing k with
 | nil=>simp at e
 | cons x r ih =>
   cases k with
   | zero=>simp at e;subst e;simp
   | succ k=>have:=ih (k:=k) (by simpa using e);simp;omega
theorem sum_set:∀ (l:List Qi) (k:Nat) (p q:Qi),l[k]?=some p->((l.set k q).map (·.pages)).sum+p.pages=(l.map (·.pages)).sum+q.pages
 | [],_,_,_,h=>by simp at h
 | x::r,0,p,q,h=>by simp at h;subst h;simp only[List.set_cons_zero,List.map_cons,List.sum_cons];omega
 | x::r,k+1,p,q,h=>by have:=sum_set r k p q (by simpa using h);simp only[List.set_cons_succ,List.map_cons,List.sum_cons];omega
theorem Qbd {l:List Qi}{q p:Qi}(e:(l.set k q)[j]?=some p):p=q\/l[j]?=some p:=by
 by_cases a:j=k
 ·subst a;rcases Nat.lt_or_ge j l.length with h | h
  ·simp[h] at e;exact .inl e.symm
  ·rw[Xk (by simpa using h)] at e;cases e
 ·rw[List.getElem?_set_ne (Ne.symm a)] at e;exact .inr e
theorem Xi:type_of% @World.block_lt_of_cell?:=@World.block_lt_of_cell?
theorem Xj:type_of% @Array.getElem?_eq_getElem:=@Array.getElem?_eq_getElem
theorem Xp:type_of% @Nat.mul_le_mul_right:=@Nat.mul_le_mul_right
theorem XK:type_of% @Nat.zero_add:=@Nat.zero_add
theorem XO:type_of% @List.take_of_length_le:=@List.take_of_length_le
section
open Go.Deep
structure Lay (α:Type) where
 size:Nat
 In:World->(Nat->Prop)->α->List Value->Prop
 len:∀ {w O x cs},In w O x cs->cs.length=size
 keep:∀ {w w':World} {O O':Nat->Prop} {x cs},(∀ k,O k->k<w.heap.size->w'.heap[k]?=w.heap[k]?)->(∀ k,O k->k<w.heap.size->O' k)->In w O x cs->In w' O' x cs
section
variable {α β:Type}{L:Lay α}{w w':World}{O O':Nat->Prop}{x:α}{cs:List Value}
theorem Lay.below (h:L.In w O x cs) (b:Below w.heap.size w w'):L.In w' O x cs:=L.keep (fun k _ a=>b.block k a) (fun _ h _=>h) h
theorem Ya:type_of% @Lay.below:=@Lay.below
theorem Lay.lt (h:L.In w (fun g=>g<B) x cs) (b:Below B w w'):L.In w' (fun g=>g<B) x cs:=L.keep (fun k a _=>b.block k a) (fun _ h _=>h) h
theorem Lay.mono (h:L.In w O x cs) (a:∀ k,O k->k<w.heap.size->O' k):L.In w O' x cs:=L.keep (fun k _ _=>rfl) a h
theorem Yc:type_of% @Lay.mono:=@Lay.mono
theorem Lay.alloc (h:L.In w O x cs) (o:Obj):L.In (w.alloc o) O x cs:=L.keep (fun k _ a=>Below.heap_alloc _ _ _ a) (fun _ h _=>h) h
theorem Lay.setCell (h:L.In w O x cs){p:Addr}(b:¬ O p.block) (v:Value):L.In (w.setCell p v) O x cs :=
 L.keep (fun k a _=>Xd _ _ _ _ (fun e=>by subst e;exact b a)) (fun _ h _=>h) h
theorem Lay.drewN (h:L.In w O x cs) (m:Nat):L.In (w.drewN m) O x cs:=L.keep (w:=w) (w':=w.drewN m) (fun k _ _=>rfl) (fun _ h _=>h) h
end
def Lay.int:Lay Int where
 size:=1
 In:=fun _ _ x cs=>cs=[.int .i64 x]/\-9223372036854775808<=x/\x<=9223372036854775807
 len:=fun h=>by rw[h.1];rfl
 keep:=fun _ _ h=>h
def Lay.pair {α β:Type}(A:Lay α) (B:Lay β):Lay (α × β) where
 size:=A.size+B.size
 In:=fun w O x cs=>∃ c d,cs=c++d/\A.In w O x.1 c/\B.In w O x.2 d
 len:=fun ⟨c,d,e,h1,h2⟩=>by rw[e,List.length_append,A.len h1,B.len h2]
 keep:=fun hb hl ⟨c,d,e,h1,h2⟩=>⟨c,d,e,A.keep hb hl h1,B.keep hb hl h2⟩
def Lay.list {α:Type}(A:Lay α):Lay (List α) where
 size:=1
 In:=fun w O l cs=>∃ a c,cs=[.slice a l.length c]/\∀ (i:Nat) (x:α),l[i]?=some x->∃ g o ds,a=some ⟨g,o,none⟩/\O g/\g<w.heap.size/\(∀ j,j<A.size->w.cell? ⟨g,o+i*A.size+j,none⟩=ds[j]?)/\A.In w O x ds
 len:=fun ⟨_,_,e,_⟩=>by rw[e];rfl
 keep:=fun {w w' O O' l cs} hb hl ⟨a,c,e,h⟩=>⟨a,c,e,fun i x hx=>by
  obtain⟨g,o,ds,e1,hg,hlt,hc,hi⟩:=h i x hx
  have hk:w'.heap[g]?=w.heap[g]?:=hb g hg hlt;refine⟨g,o,ds,e1,hl g hg hlt,?_,fun j hj=>?_,A.keep hb hl hi⟩
  ·rcases Nat.lt_or_ge g w'.heap.size with h' | h'
   ·exact h'
   ·rw[Array.getElem?_eq_none h',Array.getElem?_eq_getElem hlt] at hk;cases hk
  ·exact(World.cell?_of_block (w:=w) (a:=⟨g,o+i*A.size+j,none⟩) hk).trans (hc j hj)⟩
theorem Lay.list_nil {α:Type}(A:Lay α) (w:World) (O:Nat->Prop) (a:Option Addr) (c:Nat):A.list.In w O [] [.slice a 0 c]:=⟨a,c,Z,fun i x h=>by simp at h⟩
theorem Yg:type_of% @Lay.list_nil:=@Lay.list_nil
theorem Lay.list_at {α:Type}{A:Lay α}{w:World}{O:Nat->Prop}{l:List α}(h:A.list.In w O l [.slice a n c]){x:α}(b:l[i]?=some x) :
 ∃ g o ds,a=some ⟨g,o,none⟩/\O g/\g<w.heap.size/\(∀ j,j<A.size->w.cell? ⟨g,o+i*A.size+j,none⟩=ds[j]?)/\A.In w O x ds:=by
 obtain⟨d,f,e,h⟩:=h
 simp at e
 obtain⟨rfl,_,rfl⟩:=e
 exact h i x b
theorem Yf:type_of% @Lay.list_at:=@Lay.list_at
theorem Lay.list_len {α:Type}{A:Lay α}{w:World}{O:Nat->Prop}{l:List α}(h:A.list.In w O l [.slice a n c]):n=l.length:=by
 obtain⟨b,d,e,h⟩:=h
 simp at e
 exact e.2.1
def QaD (P:Program) (t:TypeId){α:Type}(A:Lay α) (n:Nat):Prop :=
 P.cellsOf t=A.size/\∀ {H:Type} {enc:TypeId × Value->H} {w:World} {base:Nat} {spare:Nat->Bool} {held:Bool} {fuel:Nat} {cs:List Value} {x:DataW H × List MemPlace},
  fuel<=n->DataW.trod enc P w base spare held fuel t cs=some x->∃ d,A.In w (fun _=>True) d cs
theorem QaD.int (n:Nat) (h:P.underlying t=some (.int .i64)) (a:P.cellsOf t=1):QaD P t Lay.int n :=
 ⟨a,fun _ c=>by
  obtain⟨k,e,_,b⟩:=DataW.trod_int h c
  exact⟨k,e,Go.bounds_i64 b⟩⟩
theorem QfC {α:Type}{P:Nat->α->Prop}(m:Nat) (h:∀ i,i<m->∃ x,P i x):∃ l:List α,l.length=m/\∀ i x,l[i]?=some x->P i x:=by
 induction m with
 | zero=>exact⟨[],Z,fun i x b=>by simp at b⟩
 | succ m ih =>
   obtain⟨l,c,d⟩:=ih (fun i e=>h i (by omega))
   obtain⟨x,b⟩:=h m (by omega)
   refine⟨l++[x],by simp[c],fun i y a=>?_⟩
   rw[List.getElem?_append] at a
   split at a
   ·exact d i y a
   ·rename_i e
    have:i=m:=by
     have:=(Zi a).1
     simp at this
     omega
    subst this;simp[c] at a
    subst a;exact b
theorem QaD.list {e:TypeId}{α:Type}{A:Lay α}(h:P.underlying t=some (.slice e)) (hc:P.cellsOf t=1) (U:QaD P e A n) (y:0<A.size):QaD P t A.list (n+1) :=
 ⟨hc,fun {H W w s J R S cs x} hf V=>by
  rcases DataW.trod_slice h V with ⟨z,_⟩|⟨a,L,G,E,O,q,rfl,z,_,hb,hl,hm,Q,D,_,_⟩
  ·exact⟨[],by rw[z];exact Yg A _ _ _ _⟩
  ·obtain⟨l,F,T⟩:=QfC (P:=fun i (d:α)=>∃ c,w.cells? s (a.add (i*A.size)) A.size=some c/\A.In w (fun _=>True) d c) L (fun i M=>by
    have K:=D i M;rw[Zg (by omega),U.1] at K
    rw[Option.bind_eq_some_iff] at K
    obtain⟨c,k,B⟩:=K
    obtain⟨d,v⟩:=U.2 (by omega) B
    exact⟨d,c,k,v⟩)
   refine⟨l,some a,G,by rw[z,F],fun i x N=>?_⟩
   obtain⟨c,k,v⟩:=T i x N
   obtain⟨_,X,g⟩:=World.cells?_some k
   obtain⟨b,r,u⟩:=a
   have m:u=none:=by
    have M:0<l.length:=Nat.lt_of_le_of_lt (Xb i) (Zi N).1;obtain⟨C,p,I⟩:=T 0 l[0] (Zg M)
    have f:0<C.length:=by rw[A.len I];exact y
    have:=(World.cells?_some p).2.2 0 y
    rw[Zg f] at this
    simpa[Addr.add] using World.cell?_spot this
   subst m
   have o:∀ j,j<A.size->w.cell? ⟨b,r+i*A.size+j,none⟩=c[j]?:=fun j hj=>by
    have:=g j hj
    rw[Go.WideShapes.add_plain,Go.WideShapes.add_plain] at this
    exact this
   refine⟨b,r,c,Z,Y,?_,o,v⟩
   have f:0<c.length:=by rw[A.len v];exact y
   have:=o 0 y
   rw[Zg f] at this
   exact Xi w _ this⟩
theorem QaD.mono {α:Type}{A:Lay α}(h:QaD P t A n) (a:m<=n):QaD P t A m:=⟨h.1,fun c b=>h.2 (Zt c a) b⟩
def Z5 (P:Program) (fs:Array Field):Nat->Nat->{α:Type}->Lay α->Nat->Prop:=fun i o α A n =>
 ∀ {H:Type} {enc:TypeId × Value->H} {w:World} {base:Nat} {spare:Nat->Bool} {held:Bool} {fuel:Nat} {cs:List Value} {xs:List (DataW H × List MemPlace)},
  fuel<=n->cs.length=o+A.size->xs.length=fs.size->(∀ (j:Nat) (f:Field),fs[j]?=some f->DataW.trod enc P w base spare held fuel f.type ((cs.drop f.offset).take (P.cellsOf f.type))=xs[j]?) ->
  ∃ d,A.In w (fun _=>True) d (cs.drop o)
theorem Z5.last {fs:Array Field}{f:Field}{α:Type}{A:Lay α}(c:fs[i]?=some f) (q:f.offset=o) (e:QaD P f.type A n):Z5 P fs i o A n:=by
 intro H p w j a k b r s m u t h;have g:=h i f c;have v:i<fs.size:=(Array.getElem?_eq_some_iff.1 c).1;rw[Zg (by omega),q,e.1] at g
 obtain⟨d,l⟩:=e.2 m g
 refine⟨d,?_⟩
 rwa [XO (by simp;omega)] at l
theorem Z5.cons {fs:Array Field}{f:Field}{α β:Type}{A:Lay α}{B:Lay β}(j:fs[i]?=some f) (u:f.offset=o) (k:QaD P f.type A n) (s:Z5 P fs (i+1) (o+A.size) B n):Z5 P fs i o (A.pair B) n:=by
 intro H t w m a l b x y c z q h;have g:=h i f j;have C:i<fs.size:=(Array.getElem?_eq_some_iff.1 j).1;rw[Zg (by omega),u,k.1] at g
 obtain⟨d,r⟩:=k.2 c g
 have v:(A.pair B).size=A.size+B.size:=rfl;obtain⟨e,p⟩:=s c (by omega) q h
 refine⟨(d,e),_,_,?_,r,p⟩
 rw[<-List.drop_drop,List.take_append_drop]
theorem QaD.struct {fs:Array Field}{α:Type}{A:Lay α}(h:P.underlying t=some (.struct fs)) (f:P.cellsOf t=A.size) (o:Z5 P fs 0 0 A n):QaD P t A (n+1) :=
 ⟨f,fun {H p w i c j g q x} s l=>by
  obtain⟨r,m,rfl,_,e,a,b⟩:=DataW.trod_struct h l
  obtain⟨d,k⟩:=o (by omega) (by rw[e,f];omega) a b
  exact⟨d,by simpa using k⟩⟩
structure QaS {α:Type}(A:Lay α) (e:TypeId) (w:World) (lo:Nat) (v:Value) (l:List α) (xs:List Value):Prop where
 own:w.ownsRow lo e A.size v l.length xs
 kids:∀ (i:Nat) (x:α),l[i]?=some x->A.In w (fun g=>lo<=g/\v.ownBlock≠some g) x ((xs.drop (i*A.size)).take A.size)
section
variable {α:Type}{A:Lay α}{e:TypeId}{w w':World}{lo:Nat}{v:Value}{l:List α}{xs:List Value}
theorem QaS.nil (A:Lay α) (e:TypeId) (w:World) (a:Nat):QaS A e w a (.slice none 0 0) [] []:=⟨⟨by simp,Or.inl ⟨Z,Z⟩⟩,fun i x h=>by simp at h⟩
theorem QaS.lo_le (h:QaS A e w lo v l xs)(a:v.ownBlock=some g):lo<=g/\g<w.heap.size:=by
 obtain⟨⟨j,c⟩,n⟩:=h
 rcases c with ⟨rfl,k⟩|⟨m,i,f,rfl,b,d,r⟩
 ·simp[Value.ownBlock] at a
 ·simp[Value.ownBlock] at a;subst a;exact⟨b,XC d⟩
theorem QaS.below (h:QaS A e w lo v l xs) (b:Below w.heap.size w w'):QaS A e w' lo v l xs:=by
 obtain⟨⟨j,n⟩,o⟩:=h
 refine⟨⟨j,?_⟩,fun i x k=>Ya (o i x k) b⟩
 rcases n with m | ⟨g,c,a,e,f,d,r⟩
 ·exact Or.inl m
 ·exact Or.inr ⟨g,c,a,e,f,(b.block g (XC d)).trans d,r⟩
theorem QaS.setOther (h:QaS A e w lo v l xs){p:Addr}(q:p.block<lo) (y:Value):QaS A e (w.setCell p y) lo v l xs:=by
 obtain⟨⟨d,m⟩,o⟩:=h
 refine⟨⟨d,?_⟩,fun i x f=>Lay.setCell (o i x f) (fun j=>by have:=j.1;omega) _⟩
 rcases m with k | ⟨g,b,a,e,c,n,r⟩
 ·exact Or.inl k
 ·exact Or.inr ⟨g,b,a,e,c,(Xd _ _ _ _ (by omega)).trans n,r⟩
theorem QaS.lay (h:QaS A e w lo v l xs):A.list.In w (fun g=>lo<=g) l [v]:=by
 obtain⟨⟨z,s⟩,u⟩:=h
 rcases s with ⟨rfl,t⟩|⟨g,c,a,rfl,n,m,r,B,C,o⟩
 ·have:l=[]:=Xf.1 t
  subst this;exact Yg A _ _ _ _
 ·refine⟨some ⟨g,0,none⟩,c,Z,fun i x f=>⟨g,0,_,Z,n,XC m,fun j p=>?_,Yc (u i x f) (fun k q _=>q.1)⟩⟩
  have y:i<l.length:=(Zi f).1
  have d:i*A.size+j<l.length*A.size:=by
   have:(i+1)*A.size<=l.length*A.size:=Xp _ y
   rw[Nat.add_mul] at this
   omega
  rw[XR,Xs p,List.getElem?_drop,<-o,XR,Xs d,XK]
  have b:i*A.size+j<a.size:=by
   have:l.length*A.size<=c*A.size:=Xp _ r
   omega
  rw[Array.getElem?_toList]
  exact(Qa m _ a[i*A.size+j] (Xj b)).trans (Xj b).symm
theorem QaS.push (h:QaS A e w lo v l xs){x:α}{m:List Value}(n:A.In w (fun g=>lo<=g/\v.ownBlock≠some g) x m)
  (s:w.grownBy w' v.ownBlock) (j:v.ownBlock=some g\/g=w.heap.size)
 (z:w'.ownsRow lo e A.size (.slice (some ⟨g,0,none⟩) (l.length+1) cap) (l.length+1) (xs++m)) :
 QaS A e w' lo (.slice (some ⟨g,0,none⟩) (l.length+1) cap) (l++[x]) (xs++m):=by
 obtain⟨C,u⟩:=h
 have d:=C.1;have t:=A.len n
 have a:∀ {y:α} {es:List Value},A.In w (fun g=>lo<=g/\v.ownBlock≠some g) y es->A.In w' (fun p=>lo<=p/\(Value.slice (some ⟨g,0,none⟩) (l.length+1) cap).ownBlock≠some p) y es:=fun b=>by
  refine A.keep (fun k c q=>?_) (fun k c q=>⟨c.1,?_⟩) b
  ·exact s.block k q (fun e=>c.2 e.symm)
  ·simp only[Value.ownBlock,ne_eq,Option.some.injEq]
   intro e;subst e;rcases j with o | o
   ·exact c.2 o
   ·omega
 refine⟨by rw[List.length_append];exact z,fun i y b=>?_⟩
 rw[List.getElem?_append] at b
 split at b
 ·rename_i r
  have B:(i+1)*A.size<=l.length*A.size:=Xp _ r;rw[Nat.add_mul] at B
  have:=u i y b
  rw[List.drop_append_of_le_length (by omega),List.take_append_of_le_length (by simp;omega)]
  exact a this
 ·rename_i r
  have f:i=l.length:=by
   have:=(Zi b).1
   simp at this
   omega
  subst f;simp at b
  subst b;rw[List.drop_append,List.drop_of_length_le (by omega),<-d,Nat.sub_self,List.drop_zero,List.nil_append,XO (by omega)]
  exact a n
end
end
theorem Xn:type_of% @Option.some.inj:=@Option.some.inj
def TT:Nat->Type
 | 0=>Empty
 | n+1=>Int × Int × List (TT n)
def TT.kind:{n:Nat}->TT n->Int
 | 0,t=>Empty.elim t
 | _+1,t=>t.1
def TT.r:{n:Nat}->TT n->Int
 | 0,t=>Empty.elim t
 | _+1,t=>t.2.1
def TT.len:{n:Nat}->TT n->Nat
 | 0,t=>Empty.elim t
 | _+1,t=>t.2.2.length
def TT.count:{n:Nat}->TT n->Nat
 | 0,t=>Empty.elim t
 | n+1,t=>1+(t.2.2.map (TT.count (n:=n))).sum
def TT.height:{n:Nat}->TT n->Nat
 | 0,t=>Empty.elim t
 | n+1,t=>(t.2.2.map (fun x=>1+TT.height (n:=n) x)).foldl max 0
def ownC (k r:Int) (len:Nat) (regs:Int):Int :=
 if k<1\/4<k then 3
 else if k=1/\r≠0 then 4
 else if k≠3/\0<len then 4
 else if 8<len then 2
 else if k≠1/\(r<0\/regs<=r) then 1
 else 0
def QV {α:Type}(f:α->Int):List α->Int
 | []=>0
 | x::xs=>if f x≠0 then f x else QV f xs
def TT.fault:{n:Nat}->Int->TT n->Int
 | 0,_,t=>Empty.elim t
 | n+1,regs,t=>if ownC t.1 t.2.1 t.2.2.length regs≠0 then ownC t.1 t.2.1 t.2.2.length regs else QV (TT.fault (n:=n) regs) t.2.2
def TT.check {n:Nat}(regs:Int) (t:TT n):Int:=if 4<t.height then 19 else t.fault regs
def QgJ (m:Nat) (too:Nat->Int) (k r:Int):Option Int :=
 if k=1 then some r else if r<0\/(m:Int)<=r then none else if too r.toNat<0 then none else some (too r.toNat)
def Qgx {α:Type}(f:α->Option α):List α->Option (List α)
 | []=>some []
 | x::xs=>match f x with
   | none=>none
   | some y=>match Qgx f xs with
     | none=>none
     | some ys=>some (y::ys)
def TT.ren:{n:Nat}->Nat->(Nat->Int)->TT n->Option (TT n)
 | 0,_,_,t=>Empty.elim t
 | n+1,m,too,t=>match QgJ m too t.1 t.2.1 with
   | none=>none
   | some r=>match Qgx (TT.ren (n:=n) m too) t.2.2 with
     | none=>none
     | some l=>some ((t.1,r,l):Int × Int × List (TT n))
def TT.ok:{n:Nat}->TT n->Prop
 | 0,t=>Empty.elim t
 | n+1,t=>(-9223372036854775808<=t.2.1/\t.2.1<=9223372036854775807)/\∀ x∈t.2.2,TT.ok (n:=n) x
theorem Qdv {α:Type}{f:α->Option α}:∀ {l l':List α},Qgx f l=some l'↔(l'.length=l.length/\∀ (i:Nat) x,l[i]?=some x->f x=l'[i]?)
 | [],l'=>by
   simp only[Qgx,Option.some.injEq]
   constructor
   ·intro h;subst h;simp
   ·intro h;exact(Xf.1 h.1).symm
 | x::xs,l'=>by
   simp only[Qgx]
   constructor
   ·intro h
    cases b:f x with
    | none=>simp[b] at h
    | some y =>
      simp only[b] at h
      cases c:Qgx f xs with
      | none=>simp[c] at h
      | some ys =>
        simp only[c,Option.some.injEq] at h
        subst h;obtain⟨e,d⟩:=Qdv.1 c
        refine⟨by simp[e],fun i z a=>?_⟩
        cases i with
        | zero=>simp at a;subst a;simpa using b
        | succ i=>simpa using d i z (by simpa using a)
   ·rintro ⟨e,d⟩
    cases l' with
    | nil=>simp at e
    | cons y ys =>
      have b:f x=some y:=by simpa using d 0 x Z
      have c:Qgx f xs=some ys:=Qdv.2 ⟨by simpa using e,fun i z a=>by simpa using d (i+1) z (by simpa using a)⟩;simp[b,c]
theorem Qek {α:Type}{f:α->Int}:∀ {l:List α}{i:Nat}{x:α},l[i]?=some x->(∀ (j:Nat) y,j<i->l[j]?=some y->f y=0)->f x≠0->QV f l=f x
 | [],i,x,h,_,_=>by simp at h
 | y::ys,0,x,h,_,hf=>by simp at h;subst h;simp[QV,hf]
 | y::ys,i+1,x,h,hz,hf=>by
   have b:f y=0:=hz 0 y (by omega) Z;simp only[QV,b,ne_eq,not_true_eq_false,if_false]
   exact Qek (by simpa using h) (fun j z c a=>hz (j+1) z (by omega) (by simpa using a)) hf
theorem QcJ {α:Type}{f:α->Int}:∀ {l:List α},(∀ (j:Nat) y,l[j]?=some y->f y=0)->QV f l=0
 | [],_=>rfl
 | y::ys,h=>by
   have a:f y=0:=h 0 y Z;simp only[QV,a,ne_eq,not_true_eq_false,if_false]
   exact QcJ (fun j z b=>h (j+1) z (by simpa using b))
theorem QX {α:Type}{f:α->Int}:∀ {l:List α},QV f l=0↔∀ x∈l,f x=0
 | []=>by simp[QV]
 | y::ys=>by
   simp only[QV]
   by_cases h:f y=0
   ·simp[h,QX]
   ·simp[h]
theorem Qb4 {α β:Type}{f:α->Int}{g:β->Int}:∀ {l:List α}{l':List β},l'.length=l.length->(∀ (i:Nat) x y,l[i]?=some x->l'[i]?=some y->f x=g y)->QV f l=QV g l'
 | [],[],_,_=>rfl
 | [],_::_,h,_=>by simp at h
 | _::_,[],h,_=>by simp at h
 | x::xs,y::ys,h,k=>by
   have c:f x=g y:=k 0 x y Z Z;have j:=Qb4 (f:=f) (g:=g) (l:=xs) (l':=ys) (by simpa using h) (fun i a b e d=>k (i+1) a b (by simpa using e) (by simpa using d));simp only[QV,c,j]
theorem TT.count_pos:{n:Nat}->(t:TT n)->1<=t.count
 | 0,t=>Empty.elim t
 | n+1,t=>by simp only[TT.count];omega
theorem Qe2 (l:List Nat):∀ i,(l.take i).sum<=l.sum:=by
 intro i
 have:=congrArg List.sum (List.take_append_drop i l)
 rw[List.sum_append] at this
 omega
theorem length_le_sum:∀ (l:List Nat),(∀ x∈l,1<=x)->l.length<=l.sum
 | [],_=>by simp
 | x::xs,h=>by
   have c:=h x (by simp);have b:=length_le_sum xs (fun y a=>h y (by simp[a]));simp only[List.length_cons,List.sum_cons]
   omega
theorem TT.len_lt_count:{n:Nat}->(t:TT n)->t.len<t.count
 | 0,t=>Empty.elim t
 | n+1,t=>by
   have:=length_le_sum (t.2.2.map (TT.count (n:=n))) (fun x a=>by simp only[List.mem_map] at a;obtain⟨y,_,rfl⟩:=a;exact y.count_pos)
   simp only[TT.count,TT.len]
   simp at this
   omega
theorem le_sum_of_mem:∀ {l:List Nat}{x:Nat},x∈l->x<=l.sum
 | y::ys,x,h=>by
   rcases List.mem_cons.1 h with rfl | h
   ·simp
   ·have:=le_sum_of_mem h
    simp only[List.sum_cons];omega
theorem TT.count_kid (t:TT (n+1)){x:TT n}(h:x∈t.2.2):x.count<t.count:=by
 have:=le_sum_of_mem (l:=t.2.2.map (TT.count (n:=n))) (List.mem_map_of_mem h)
 simp only[TT.count]
 omega
theorem Qei {l:List Nat}{a:Nat}:l.foldl max a<=m↔a<=m/\∀ x∈l,x<=m:=by
 induction l generalizing a with
 | nil=>simp
 | cons y ys ih =>
   simp only[List.foldl_cons,ih,List.mem_cons,forall_eq_or_imp,Nat.max_le,and_assoc]
theorem Z0 {t:TT (n+1)}:t.height<=m↔∀ x∈t.2.2,1+x.height<=m:=by
 simp only[TT.height,Qei,List.mem_map,Nat.zero_le,true_and,forall_exists_index,and_imp,forall_apply_eq_imp_iff₂]
theorem TT.ren_height {m:Nat}{too:Nat->Int}:{n:Nat}->{t u:TT n}->t.ren m too=some u->u.height=t.height
 | 0,t,_,_=>Empty.elim t
 | n+1,t,u,h=>by
   simp only[TT.ren] at h
   cases e1:QgJ m too t.1 t.2.1 with
   | none=>simp[e1] at h
   | some r1 =>
     simp only[e1] at h
     cases e2:Qgx (TT.ren m too) t.2.2 with
     | none=>simp[e2] at h
     | some l1 =>
       simp only[e2] at h
       have h:=Xn h;subst h;simp only[TT.height]
       congr 1
       obtain⟨d,e⟩:=Qdv.1 e2
       apply List.ext_getElem (by simp[d])
       intro i c b;simp at c b
       have a:=e i t.2.2[i] (Zg b);rw[Zg c] at a
       simp[TT.ren_height a]
theorem TT.fault_zero {t:TT (n+1)}{regs:Int}(h:t.fault regs=0):ownC t.1 t.2.1 t.2.2.length regs=0/\∀ x∈t.2.2,x.fault regs=0:=by
 simp only[TT.fault] at h
 split at h
 ·contradiction
 ·rename_i a
  exact⟨by simpa using a,QX.1 h⟩
theorem XU:type_of% @World.cell?_of_block:=@World.cell?_of_block
section
open Go.Deep
abbrev All:Nat->Prop:=fun _=>True
abbrev Qaq (lo:Nat):Nat->Prop:=fun g=>lo<=g
abbrev But (lo:Nat) (v:Value):Nat->Prop:=fun g=>lo<=g/\v.ownBlock≠some g
def TIn (w:World) (O:Nat->Prop):{n:Nat}->TT n->Option Addr->Prop
 | 0,t,_=>Empty.elim t
 | n+1,t,a=>∀ (i:Nat) (x:TT n),t.2.2[i]?=some x->∃ g o a' c',a=some ⟨g,o,none⟩/\O g /\
  w.cell? ⟨g,o+i*3,none⟩=some (.int .i64 x.kind)/\w.cell? ⟨g,o+i*3+1,none⟩=some (.int .i64 x.r)/\w.cell? ⟨g,o+i*3+2,none⟩=some (.slice a' x.len c')/\TIn w O (n:=n) x a'
abbrev Tv {n:Nat}(t:TT n) (a:Option Addr) (c:Nat):Value:=.agg #[.int .i64 t.kind,.int .i64 t.r,.slice a t.len c]
abbrev mkT {n:Nat}(k r:Int) (l:List (TT n)):TT (n+1):=(k,r,l)
abbrev LIn (w:World) (O:Nat->Prop){n:Nat}(l:List (TT n)) (a:Option Addr):Prop:=TIn w O (mkT 0 0 l) a
theorem TIn.list {w:World}{O:Nat->Prop}{n:Nat}{t:TT (n+1)}{a:Option Addr}(h:TIn w O t a):LIn w O t.2.2 a:=h
theorem LIn.tree {w:World}{O:Nat->Prop}{n:Nat}{k r:Int}{l:List (TT n)}{a:Option Addr}(h:LIn w O l a):TIn w O (mkT k r l) a:=h
theorem LIn.at {w:World}{O:Nat->Prop}{n:Nat}{l:List (TT n)}{a:Option Addr}(h:LIn w O l a){x:TT n}(b:l[i]?=some x) :
 ∃ g o a' c',a=some ⟨g,o,none⟩/\O g /\
  w.cell? ⟨g,o+i*3,none⟩=some (.int .i64 x.kind)/\w.cell? ⟨g,o+i*3+1,none⟩=some (.int .i64 x.r)/\w.cell? ⟨g,o+i*3+2,none⟩=some (.slice a' x.len c')/\TIn w O x a':=h i x b
theorem LIn.nil {w:World}{O:Nat->Prop}{n:Nat}{a:Option Addr}:LIn w O ([]:List (TT n)) a:=fun i x h=>by simp at h
theorem TIn.keep {w w':World}{O O':Nat->Prop}(hb:∀ k,O k->k<w.heap.size->w'.heap[k]?=w.heap[k]?) (f:∀ k,O k->k<w.heap.size->O' k):{n:Nat}->{t:TT n}->{a:Option Addr}->TIn w O t a->TIn w' O' t a
 | 0,t,_,_=>Empty.elim t
 | n+1,t,a,h=>fun i x m=>by
   obtain⟨g,o,r,l,e,d,j,p,s,q⟩:=h i x m
   have b:g<w.heap.size:=Xi w ⟨g,o+i*3,none⟩ j;have c:w'.heap[g]?=w.heap[g]?:=hb g d b;refine⟨g,o,r,l,e,f g d b,?_,?_,?_,TIn.keep hb f q⟩
   ·exact(XU (w:=w) (a:=⟨g,o+i*3,none⟩) c).trans j
   ·exact(XU (w:=w) (a:=⟨g,o+i*3+1,none⟩) c).trans p
   ·exact(XU (w:=w) (a:=⟨g,o+i*3+2,none⟩) c).trans s
section
variable {w w':World}{O O':Nat->Prop}{n:Nat}{t:TT n}{a:Option Addr}
theorem TIn.below (h:TIn w O t a) (b:Below w.heap.size w w'):TIn w' O t a:=h.keep (fun k _ c=>b.block k c) (fun _ h _=>h)
theorem TIn.mono (h:TIn w O t a) (b:∀ k,O k->k<w.heap.size->O' k):TIn w O' t a:=h.keep (fun k _ _=>rfl) b
theorem TIn.all (h:TIn w O t a):TIn w All t a:=h.mono (fun _ _ _=>trivial)
theorem TIn.alloc (h:TIn w O t a) (o:Obj):TIn (w.alloc o) O t a:=h.keep (fun k _ b=>Below.heap_alloc _ _ _ b) (fun _ h _=>h)
theorem TIn.setCell (h:TIn w O t a){p:Addr}(c:¬ O p.block) (v:Value):TIn (w.setCell p v) O t a :=
 h.keep (fun k b _=>Xd _ _ _ _ (fun e=>by subst e;exact c b)) (fun _ h _=>h)
theorem TIn.drew (h:TIn w O t a):TIn w.drew O t a:=h.keep (w:=w) (w':=w.drew) (fun k _ _=>rfl) (fun _ h _=>h)
theorem TIn.drewN (h:TIn w O t a) (m:Nat):TIn (w.drewN m) O t a:=h.keep (w:=w) (w':=w.drewN m) (fun k _ _=>rfl) (fun _ h _=>h)
end
theorem TT.len_eq {n:Nat}(t:TT (n+1)):t.len=t.2.2.length:=rfl
theorem Qjr {α:Type}{P:Nat->α->Prop}(m:Nat) (h:∀ i,i<m->∃ x,P i x):∃ l:List α,l.length=m/\∀ i x,l[i]?=some x->P i x:=by
 induction m with
 | zero=>exact⟨[],Z,fun i x b=>by simp at b⟩
 | succ m ih =>
   obtain⟨l,c,d⟩:=ih (fun i e=>h i (by omega))
   obtain⟨x,b⟩:=h m (by omega)
   refine⟨l++[x],by simp[c],fun i y a=>?_⟩
   rw[List.getElem?_append] at a
   split at a
   ·exact d i y a
   ·rename_i e
    have:i=m:=by
     have:=(Zi a).1
     simp at this
     omega
    subst this;simp[c] at a
    subst a;exact b
theorem Qjm {H:Type}{enc:TypeId × Value->H}{w:World}{f:Nat}{p:Nat->Bool}{C:Bool}{F ts ti:TypeId}{y D E:Field}
 (hs:P.underlying ts=some (.slice F)) (ht:P.underlying F=some (.struct #[y,D,E])) (hc:P.cellsOf F=3)
 (h0:y.offset=0/\P.cellsOf y.type=1/\P.underlying y.type=some (.int .i64)) (h1:D.offset=1/\P.cellsOf D.type=1/\P.underlying D.type=some (.int .i64))
 (V:E.offset=2/\P.cellsOf E.type=1/\E.type=ts):∀ (n fuel:Nat),fuel<=n->∀ {cs:List Value} {x:DataW H × List MemPlace},
 DataW.trod enc P w f p C fuel F cs=some x->∃ (T:TT n) (a:Option Addr) (c:Nat),cs=[.int .i64 T.kind,.int .i64 T.r,.slice a T.len c]/\TIn w All T a/\T.ok:=by
 intro n
 induction n with
 | zero =>
   intro fuel hf cs x h;obtain rfl:fuel=0:=by omega
   simp[DataW.trod] at h
 | succ n ih =>
   intro fuel hf cs x h;obtain⟨xs,m,rfl,_,z,N,o⟩:=DataW.trod_struct ht h
   have ad:xs.length=3:=N;have g0:=o 0 y Z;have g1:=o 1 D Z;have g2:=o 2 E Z;rw[h0.1,h0.2.1,Zg (by omega)] at g0
   rw[h1.1,h1.2.1,Zg (by omega)] at g1
   rw[V.1,V.2.1,V.2.2,Zg (by omega)] at g2
   obtain⟨k,e0,_,_⟩:=DataW.trod_int h0.2.2 g0
   obtain⟨r,e1,_,K⟩:=DataW.trod_int h1.2.2 g1
   have ew:-9223372036854775808<=r/\r<=9223372036854775807:=by
    have:=Go.bounds_i64 K
    omega
   rw[hc] at z
   obtain⟨W,M,L,rfl⟩:∃ W M L,cs=[W,M,L]:=by
    match cs,z with
    | [W,M,L],_=>exact⟨_,_,_,Z⟩
   simp at e0 e1
   subst e0 e1;rcases DataW.trod_slice hs g2 with ⟨u,_⟩|⟨a,len,U,R,aa,q,rfl,u,_,hb,hl,hm,ab,Q,_,_⟩
   ·simp at u
    subst u;exact⟨mkT k r [],none,0,Z,LIn.nil,ew,fun x s=>by cases s⟩
   ·simp at u
    subst u
    obtain⟨l,S,X⟩:=Qjr (P:=fun i (T:TT n)=>∃ g t,w.cells? f (a.add (i*3)) 3=some [.int .i64 T.kind,.int .i64 T.r,.slice g T.len t]/\TIn w All T g/\T.ok) len (fun i v=>by
     have he:=Q i v;rw[Zg (by omega),hc] at he
     rw[Option.bind_eq_some_iff] at he
     obtain⟨ae,e,J⟩:=he
     obtain⟨T,g,t,rfl,I,G⟩:=ih q (by omega) J
     exact⟨T,g,t,e,I,G⟩)
    refine⟨mkT k r l,some a,U,by simp[TT.kind,TT.r,TT.len,S],fun i x s=>?_,ew,fun x s=>?_⟩
    ·obtain⟨g,t,e,I,G⟩:=X i x s
     obtain⟨_,ac,d⟩:=World.cells?_some e
     have q0:=d 0 (by omega);have q1:=d 1 (by omega);have q2:=d 2 (by omega);obtain⟨b,O,A⟩:=a
     have j:A=none:=by
      have v:0<l.length:=Nat.lt_of_le_of_lt (Xb i) (Zi s).1;obtain⟨_,_,B,_,_⟩:=X 0 l[0] (Zg v)
      have:=(World.cells?_some B).2.2 0 (by omega)
      simpa[Addr.add] using World.cell?_spot this
     subst j;rw[Go.WideShapes.add_plain,Go.WideShapes.add_plain] at q0 q1 q2
     exact⟨b,O,g,t,Z,Y,q0,q1,q2,I⟩
    ·obtain⟨i,v,rfl⟩:=List.mem_iff_getElem.1 s
     obtain⟨g,t,e,I,G⟩:=X i l[i] (Zg v)
     exact G
#print axioms Qjm
end
section
open Go.Deep
structure Qz where
 op:Int
 a:Int
 b:Int
 c:Int
 k:Int
 n:Int
 regs:List Int
 args:List Int
structure MTo where
 block:Int
 regs:List Int
 args:List Int
structure Qax where
 op:Int
 a:Int
 yes:MTo
 no:MTo
 args:List Int
structure Qk (n:Nat) where
 regs:Int
 params:List (TT n)
 code:List Qz
 fin:Qax
structure Qe (n:Nat) where
 regs:Int
 params:List (TT n)
 results:List (TT n)
 blocks:List (Qk n)
def Lay.via {α β:Type}(A:Lay α) (f:β->α):Lay β where
 size:=A.size
 In:=fun w O x cs=>A.In w O (f x) cs
 len:=fun h=>A.len h
 keep:=fun hb hl h=>A.keep hb hl h
theorem QaD.via {α β:Type}{A:Lay α}{n:Nat}{f:β->α}(h:QaD P t A n) (g:α->β) (a:∀ d,f (g d)=d):QaD P t (A.via f) n :=
 ⟨h.1,fun e c=>by
  obtain⟨d,b⟩:=h.2 e c
  exact⟨g d,by show A.In _ _ (f (g d)) _;rw[a];exact b⟩⟩
def Lay.tt (n:Nat):Lay (TT n) where
 size:=3
 In:=fun w O t cs=>∃ a c,cs=[.int .i64 t.kind,.int .i64 t.r,.slice a t.len c]/\TIn w O t a/\t.ok
 len:=fun ⟨_,_,e,_⟩=>by rw[e];rfl
 keep:=fun hb hl ⟨a,c,e,h1,h2⟩=>⟨a,c,e,h1.keep hb hl,h2⟩
abbrev intsL:Lay (List Int):=Lay.int.list
abbrev QM (n:Nat):Lay (List (TT n)):=(Lay.tt n).list
def insL:Lay Qz:=(Lay.int.pair (Lay.int.pair (Lay.int.pair (Lay.int.pair (Lay.int.pair (Lay.int.pair (intsL.pair intsL))))))).via (fun x=>(x.op,x.a,x.b,x.c,x.k,x.n,x.regs,x.args))
def toL:Lay MTo:=(Lay.int.pair (intsL.pair intsL)).via (fun x=>(x.block,x.regs,x.args))
def endL:Lay Qax:=(Lay.int.pair (Lay.int.pair (toL.pair (toL.pair intsL)))).via (fun x=>(x.op,x.a,x.yes,x.no,x.args))
def Zu (n:Nat):Lay (Qk n):=(Lay.int.pair ((QM n).pair (insL.list.pair endL))).via (fun x=>(x.regs,x.params,x.code,x.fin))
def QaH (n:Nat):Lay (Qe n):=(Lay.int.pair ((QM n).pair ((QM n).pair (Zu n).list))).via (fun x=>(x.regs,x.params,x.results,x.blocks))
abbrev Qam (n:Nat):Lay (List (Qe n)):=(QaH n).list
section
variable {w:World}{O:Nat->Prop}{n:Nat}{cs:List Value}
theorem Zo {α:Type}{A:Lay α}{l:List α}(h:A.list.In w O l cs):∃ a c,cs=[.slice a l.length c]/\A.list.In w O l [.slice a l.length c]:=by
 obtain⟨a,c,e,h⟩:=h
 exact⟨a,c,e,a,c,Z,h⟩
theorem QjL {x:MTo}(h:toL.In w O x cs):∃ a c b d,cs=[.int .i64 x.block,.slice a x.regs.length c,.slice b x.args.length d]/\intsL.In w O x.regs [.slice a x.regs.length c]/\intsL.In w O x.args [.slice b x.args.length d]/\(-9223372036854775808<=x.block/\x.block<=9223372036854775807):=by
 obtain⟨_,_,rfl,⟨rfl,g⟩,⟨_,_,rfl,f,e⟩⟩:=h
 obtain⟨a,c,rfl,f⟩:=Zo f
 obtain⟨b,d,rfl,e⟩:=Zo e
 exact⟨a,c,b,d,Z,f,e,g⟩
theorem QlC {x:MTo}{b:Option Addr}(g:intsL.In w O x.regs [.slice a x.regs.length c]) (f:intsL.In w O x.args [.slice b x.args.length d]) (e:-9223372036854775808<=x.block/\x.block<=9223372036854775807) :
 toL.In w O x [.int .i64 x.block,.slice a x.regs.length c,.slice b x.args.length d]:=⟨_,_,Z,⟨Z,e⟩,⟨_,_,Z,g,f⟩⟩
theorem QfD {x:Qz}(h:insL.In w O x cs):∃ a c b d,cs=[.int .i64 x.op,.int .i64 x.a,.int .i64 x.b,.int .i64 x.c,.int .i64 x.k,.int .i64 x.n,.slice a x.regs.length c,.slice b x.args.length d]/\intsL.In w O x.regs [.slice a x.regs.length c]/\intsL.In w O x.args [.slice b x.args.length d] /\
 ((-9223372036854775808<=x.op/\x.op<=9223372036854775807)/\(-9223372036854775808<=x.a/\x.a<=9223372036854775807)/\(-9223372036854775808<=x.b/\x.b<=9223372036854775807)/\(-9223372036854775808<=x.c/\x.c<=9223372036854775807)/\(-9223372036854775808<=x.k/\x.k<=9223372036854775807)/\(-9223372036854775808<=x.n/\x.n<=9223372036854775807)):=by
 obtain⟨_,_,rfl,⟨rfl,g⟩,⟨_,_,rfl,⟨rfl,o⟩,⟨_,_,rfl,⟨rfl,j⟩,⟨_,_,rfl,⟨rfl,l⟩,⟨_,_,rfl,⟨rfl,i⟩,⟨_,_,rfl,⟨rfl,m⟩,⟨_,_,rfl,f,e⟩⟩⟩⟩⟩⟩⟩:=h
 obtain⟨a,c,rfl,f⟩:=Zo f
 obtain⟨b,d,rfl,e⟩:=Zo e
 exact⟨a,c,b,d,Z,f,e,g,o,j,l,i,m⟩
theorem Qdh {x:Qz}{b:Option Addr}(g:intsL.In w O x.regs [.slice a x.regs.length c]) (f:intsL.In w O x.args [.slice b x.args.length d])
 (e:(-9223372036854775808<=x.op/\x.op<=9223372036854775807)/\(-9223372036854775808<=x.a/\x.a<=9223372036854775807)/\(-9223372036854775808<=x.b/\x.b<=9223372036854775807)/\(-9223372036854775808<=x.c/\x.c<=9223372036854775807)/\(-9223372036854775808<=x.k/\x.k<=9223372036854775807)/\(-9223372036854775808<=x.n/\x.n<=9223372036854775807)) :
 insL.In w O x [.int .i64 x.op,.int .i64 x.a,.int .i64 x.b,.int .i64 x.c,.int .i64 x.k,.int .i64 x.n,.slice a x.regs.length c,.slice b x.args.length d] :=
 ⟨_,_,Z,⟨Z,e.1⟩,⟨_,_,Z,⟨Z,e.2.1⟩,⟨_,_,Z,⟨Z,e.2.2.1⟩,⟨_,_,Z,⟨Z,e.2.2.2.1⟩,⟨_,_,Z,⟨Z,e.2.2.2.2.1⟩,⟨_,_,Z,⟨Z,e.2.2.2.2.2⟩,⟨_,_,Z,g,f⟩⟩⟩⟩⟩⟩⟩
theorem QiD {x:Qax}(h:endL.In w O x cs):∃ c1 c2 a c,cs=.int .i64 x.op::.int .i64 x.a::(c1++(c2++[.slice a x.args.length c]))/\toL.In w O x.yes c1/\toL.In w O x.no c2/\intsL.In w O x.args [.slice a x.args.length c]/\((-9223372036854775808<=x.op/\x.op<=9223372036854775807)/\(-9223372036854775808<=x.a/\x.a<=9223372036854775807)):=by
 obtain⟨_,_,rfl,⟨rfl,d⟩,⟨_,_,rfl,⟨rfl,g⟩,⟨c1,_,rfl,e,⟨c2,_,rfl,f,b⟩⟩⟩⟩:=h
 obtain⟨a,c,rfl,b⟩:=Zo b
 exact⟨c1,c2,a,c,Z,e,f,b,d,g⟩
theorem Qk6 {x:Qax}{d b:List Value}(g:toL.In w O x.yes d) (h:toL.In w O x.no b) (f:intsL.In w O x.args [.slice a x.args.length c]) (e:(-9223372036854775808<=x.op/\x.op<=9223372036854775807)/\(-9223372036854775808<=x.a/\x.a<=9223372036854775807)) :
 endL.In w O x (.int .i64 x.op::.int .i64 x.a::(d++(b++[.slice a x.args.length c]))):=⟨[_],_,Z,⟨Z,e.1⟩,⟨[_],_,Z,⟨Z,e.2⟩,⟨d,_,Z,g,⟨b,_,Z,h,f⟩⟩⟩⟩
theorem Qdl {x:Qk n}(h:(Zu n).In w O x cs):∃ a c b d es,cs=.int .i64 x.regs::.slice a x.params.length c::.slice b x.code.length d::es/\(QM n).In w O x.params [.slice a x.params.length c]/\insL.list.In w O x.code [.slice b x.code.length d]/\endL.In w O x.fin es/\(-9223372036854775808<=x.regs/\x.regs<=9223372036854775807):=by
 obtain⟨_,_,rfl,⟨rfl,g⟩,⟨_,_,rfl,f,⟨_,es,rfl,e,i⟩⟩⟩:=h
 obtain⟨a,c,rfl,f⟩:=Zo f
 obtain⟨b,d,rfl,e⟩:=Zo e
 exact⟨a,c,b,d,es,Z,f,e,i,g⟩
theorem QiF {x:Qk n}{b:Option Addr}{e:List Value}(i:(QM n).In w O x.params [.slice a x.params.length c]) (g:insL.list.In w O x.code [.slice b x.code.length d]) (h:endL.In w O x.fin e) (f:-9223372036854775808<=x.regs/\x.regs<=9223372036854775807) :
 (Zu n).In w O x (.int .i64 x.regs::.slice a x.params.length c::.slice b x.code.length d::e):=⟨[_],_,Z,⟨Z,f⟩,⟨[_],_,Z,i,⟨[_],e,Z,g,h⟩⟩⟩
theorem Qev {x:Qe n}(h:(QaH n).In w O x cs):∃ a c b d e f,cs=[.int .i64 x.regs,.slice a x.params.length c,.slice b x.results.length d,.slice e x.blocks.length f]/\(QM n).In w O x.params [.slice a x.params.length c]/\(QM n).In w O x.results [.slice b x.results.length d]/\(Zu n).list.In w O x.blocks [.slice e x.blocks.length f]/\(-9223372036854775808<=x.regs/\x.regs<=9223372036854775807):=by
 obtain⟨_,_,rfl,⟨rfl,k⟩,⟨_,_,rfl,i,⟨_,_,rfl,g,j⟩⟩⟩:=h
 obtain⟨a,c,rfl,i⟩:=Zo i
 obtain⟨b,d,rfl,g⟩:=Zo g
 obtain⟨e,f,rfl,j⟩:=Zo j
 exact⟨a,c,b,d,e,f,Z,i,g,j,k⟩
theorem Qjv {x:Qe n}{b e:Option Addr}(i:(QM n).In w O x.params [.slice a x.params.length c]) (h:(QM n).In w O x.results [.slice b x.results.length d]) (j:(Zu n).list.In w O x.blocks [.slice e x.blocks.length f]) (g:-9223372036854775808<=x.regs/\x.regs<=9223372036854775807) :
 (QaH n).In w O x [.int .i64 x.regs,.slice a x.params.length c,.slice b x.results.length d,.slice e x.blocks.length f]:=⟨[_],_,Z,⟨Z,g⟩,⟨[_],_,Z,i,⟨[_],_,Z,h,j⟩⟩⟩
theorem QaT {l:List Int}(h:intsL.In w O l [.slice a m c])(b:i<l.length):∃ g o,a=some ⟨g,o,none⟩/\O g/\g<w.heap.size/\w.cell? ⟨g,o+i,none⟩=some (.int .i64 (l.getD i 0)):=by
 obtain⟨g,o,n,e,k,d,j,rfl,_⟩:=Yf h (Zg b)
 refine⟨g,o,e,k,d,?_⟩
 have:=j 0 (by decide)
 have f:Lay.int.size=1:=rfl;rw[f,XL,Nat.add_zero] at this
 rw[this]
 simp[List.getD,b]
theorem ZV {l:List (TT n)}(h:(QM n).In w O l [.slice a m c]):LIn w O l a/\∀ x∈l,x.ok:=by
 refine⟨fun i x d=>?_,fun x d=>?_⟩
 ·obtain⟨g,o,q,e,p,r,b,k,f,rfl,j,_⟩:=Yf h d
  have s:(Lay.tt n).size=3:=rfl;rw[s] at b
  exact⟨g,o,k,f,e,p,b 0 (by omega),b 1 (by omega),b 2 (by omega),j⟩
 ·obtain⟨i,u,rfl⟩:=List.mem_iff_getElem.1 d
  obtain⟨g,o,q,e,p,r,b,k,f,rfl,j,t⟩:=Yf h (Zg u)
  exact t
theorem Qee {l:List (TT n)}(h:LIn w O l a) (d:∀ x∈l,x.ok):(QM n).In w O l [.slice a l.length c]:=by
 refine⟨a,c,Z,fun i x f=>?_⟩
 obtain⟨g,o,m,p,e,q,k,v,t,y⟩:=LIn.at h f
 refine⟨g,o,[.int .i64 x.kind,.int .i64 x.r,.slice m x.len p],e,q,Xi w ⟨g,o+i*3,none⟩ k,fun j s=>?_,m,p,Z,y,d x (Zm f)⟩
 have b:j<3:=s;have u:(Lay.tt n).size=3:=rfl;rw[u]
 match j,b with
 | 0,_=>exact k
 | 1,_=>exact v
 | 2,_=>exact t
end
end
def QC (op:Int):Option (Bool × Bool × Bool × Bool × Bool × Bool × Bool) :=
 if op=1 then some (false,false,false,false,true,false,false)
 else if op=2\/op=7 then some (true,true,false,true,false,false,false)
 else if op=3\/op=12 then some (false,false,false,false,false,false,false)
 else if op=4\/op=11\/op=13 then some (true,false,false,false,false,false,false)
 else if op=5 then some (true,false,false,false,false,false,true)
 else if op=6 then some (true,false,false,true,false,false,false)
 else if op=8\/op=9 then some (true,true,false,false,false,false,false)
 else if op=10 then some (true,true,true,false,false,false,false)
 else if op=14 then some (false,false,false,true,false,true,true)
 else none
def Qz.formless (x:Qz):Bool:=match QC x.op with
 | none=>false
 | some (a,b,c,k,n,rg,ar)=>(!a&&x.a != 0)||(!b&&x.b != 0)||(!c&&x.c != 0)||(!k&&x.k != 0)||(!n&&x.n != 0)||(!rg&&decide (0<x.regs.length))||(!ar&&decide (0<x.args.length))
def Qz.form (funcs:Nat) (x:Qz):Int :=
 if (QC x.op).isNone then 3
 else if x.formless then 4
 else if x.op=2/\(x.k<1\/9<x.k) then 1
 else if x.op=5/\8<x.args.length then 2
 else if (x.op=6\/x.op=7)/\(x.k<0\/7<x.k) then 1
 else if x.op=14/\(x.k<0\/(funcs:Int)<=x.k) then 1
 else if x.op=14/\(6<x.regs.length\/8<x.args.length) then 2
 else 0
def MTo.form (blocks:Nat) (has:Bool) (t:MTo):Int :=
 if has=false then (if t.block≠0\/0<t.regs.length+t.args.length then 4 else 0)
 else if t.block<0\/(blocks:Int)<=t.block then 1
 else if 16<t.regs.length\/8<t.args.length then 2
 else 0
def Qax.form (blocks:Nat) (e:Qax):Int :=
 if e.op<1\/3<e.op then 3
 else if (e.a≠0/\e.op≠2)\/(0<e.args.length/\e.op≠3) then 4
 else if 8<e.args.length then 2
 else if e.yes.form blocks (decide (e.op≠3))≠0 then e.yes.form blocks (decide (e.op≠3))
 else e.no.form blocks (decide (e.op=2))
def listC {n:Nat}(regs:Int) (l:List (TT n)):Int:=if 8<l.length then 2 else QV (TT.check regs) l
def firstF {α:Type}(f:Nat->α->Int × Int):Nat->List α->Int × Int
 | _,[]=>(0,0)
 | i,x::xs=>if (f i x).1≠0 then f i x else firstF f (i+1) xs
def TT.dec:(n:Nat)->DecidableEq (TT n)
 | 0=>fun t _=>Empty.elim t
 | n+1=>fun t u=>match (TT.dec n) with
   | d=>if h1:t.1=u.1 then if h2:t.2.1=u.2.1 then match (@List.hasDecEq _ d t.2.2 u.2.2) with
    | isTrue h3=>isTrue (by obtain⟨a,b,c⟩:=t;obtain⟨a',b',c'⟩:=u;simp only at h1 h2 h3;subst h1 h2 h3;rfl)
    | isFalse h3=>isFalse (fun e=>h3 (by rw[e]))
    else isFalse (fun e=>h2 (by rw[e])) else isFalse (fun e=>h1 (by rw[e]))
def QdR {n:Nat}(l m:List (TT n)):Bool:=match @List.hasDecEq _ (TT.dec n) l m with
 | isTrue _=>true
 | isFalse _=>false
theorem QcF {l m:List (TT n)}:QdR l m=true↔l=m:=by
 unfold QdR;split
 ·rename_i h _;simp[h]
 ·rename_i h _;simp[h]
def Qk.fault {n:Nat}(funcs:Nat) (f:Nat) (fn:Qe n) (b:Nat) (x:Qk n):Int × Int :=
 if x.regs<fn.regs\/16<x.regs then (1,10000*f+100*b+90)
 else if listC x.regs x.params≠0 then (listC x.regs x.params,10000*f+100*b+90)
 else if b=0/\(x.regs≠fn.regs\/QdR x.params fn.params=false) then (9,10000*f+100*b+90)
 else if 40<x.code.length then (2,10000*f+100*b+90)
 else if (firstF (fun i y=>(Qz.form funcs y,(10000*f+100*b+i:Int))) 0 x.code).1≠0 then firstF (fun i y=>(Qz.form funcs y,(10000*f+100*b+i:Int))) 0 x.code
 else if x.fin.form fn.blocks.length≠0 then (x.fin.form fn.blocks.length,10000*f+100*b+91)
 else (0,0)
def Qe.fault {n:Nat}(funcs:Nat) (f:Nat) (x:Qe n):Int × Int :=
 if x.regs<0\/6<x.regs then (1,10000*f+9999)
 else if listC x.regs x.params≠0 then (listC x.regs x.params,10000*f+9999)
 else if listC x.regs x.results≠0 then (listC x.regs x.results,10000*f+9999)
 else if x.blocks.length<1\/12<x.blocks.length then (2,10000*f+9999)
 else if f=0/\¬ (x.regs=0/\x.params.length=0/\x.results.all (fun t=>t.kind==1)=true) then (18,10000*f+9999)
 else firstF (fun b y=>Qk.fault funcs f x b y) 0 x.blocks
def Qr {n:Nat}(m:List (Qe n)):Int × Int :=
 if m.length<1\/8<m.length then (2,-1) else firstF (fun f x=>Qe.fault m.length f x) 0 m
def ZE {n:Nat}(l:List (TT n)):Prop:=200<l.length\/∃ t∈l,2000<t.count
def Qk.great {n:Nat}(x:Qk n):Prop:=200<x.code.length\/ZE x.params\/300<x.fin.args.length\/300<x.fin.yes.regs.length\/300<x.fin.yes.args.length\/300<x.fin.no.regs.length\/300<x.fin.no.args.length\/∃ y∈x.code,300<y.regs.length\/300<y.args.length
def Qe.great {n:Nat}(x:Qe n):Prop:=30<x.blocks.length\/ZE x.params\/ZE x.results\/∃ y∈x.blocks,y.great
def QL {n:Nat}(m:List (Qe n)):Prop:=20<m.length\/∃ x∈m,x.great
theorem QbG {α:Type}{f:Nat->α->Int × Int}:∀ {l:List α}{i j:Nat}{x:α},l[i]?=some x->(∀ k y,k<i->l[k]?=some y->(f (j+k) y).1=0)->(f (j+i) x).1≠0->firstF f j l=f (j+i) x
 | [],i,j,x,h,_,_=>by simp at h
 | y::ys,0,j,x,h,_,hf=>by
   simp at h;subst h
   simp only[firstF]
   rw[Xs (by simpa using hf)]
   rfl
 | y::ys,i+1,j,x,h,hz,hf=>by
   have b:(f j y).1=0:=by simpa using hz 0 y (by omega) Z
   simp only[firstF,b,ne_eq,not_true_eq_false,if_false]
   have:=QbG (f:=f) (l:=ys) (i:=i) (j:=j+1) (x:=x) (by simpa using h) (fun k z c a=>by have:=hz (k+1) z (by omega) (by simpa using a);rwa [show j+1+k=j+(k+1) by omega]) (by rwa [show j+1+i=j+(i+1) by omega])
   rw[this,show j+1+i=j+(i+1) by omega]
theorem QaM {α:Type}{f:Nat->α->Int × Int}:∀ {l:List α}{j:Nat},(∀ (k:Nat) y,l[k]?=some y->(f (j+k) y).1=0)->firstF f j l=(0,0)
 | [],_,_=>rfl
 | y::ys,j,h=>by
   have a:(f j y).1=0:=by simpa using h 0 y Z
   simp only[firstF,a,ne_eq,not_true_eq_false,if_false]
   exact QaM (fun k z b=>by have:=h (k+1) z (by simpa using b);rwa [show j+1+k=j+(k+1) by omega])
theorem Xq:type_of% @Decidable.not_not:=@Decidable.not_not
def Qla {n:Nat}(l:List (TT n)):Prop:=l.length<=8/\∀ t∈l,∃ regs:Int,regs<=16/\t.check regs=0
structure Qk.fine {n:Nat}(x:Qk n) (funcs:Nat):Prop where
 regs:0<=x.regs/\x.regs<=16
 params:Qla x.params
 code:∀ y∈x.code,y.form funcs=0
 fin:∃ nb,nb<=12/\x.fin.form nb=0
structure Qe.fine {n:Nat}(x:Qe n) (funcs:Nat):Prop where
 regs:0<=x.regs/\x.regs<=6
 params:Qla x.params
 results:Qla x.results
 blocks:∀ y∈x.blocks,y.fine funcs
theorem Zq {α:Type}{f:Nat->α->Int × Int}:∀ {l:List α}{j:Nat},(firstF f j l).1=0->∀ (i:Nat) x,l[i]?=some x->(f (j+i) x).1=0
 | [],j,h,i,x,hx=>by simp at hx
 | y::l,j,h,i,x,hx=>by
   rw[firstF] at h
   by_cases a:(f j y).1=0
   ·rw[Xr (by simpa using a)] at h
    cases i with
    | zero=>simp at hx;subst hx;exact a
    | succ i =>
      have:=Zq h i x (by simpa using hx)
      rwa [show j+1+i=j+(i+1) by omega] at this
   ·rw[Xs a] at h
    exact absurd h a
theorem Qkg {regs:Int}{l:List (TT n)}(a:regs<=16) (h:listC regs l=0):Qla l:=by
 unfold listC at h;split at h
 ·cases h
 ·exact⟨by omega,fun t b=>⟨regs,a,QX.1 h t b⟩⟩
theorem QiM {a:Nat}{fn:Qe n}{x:Qk n}(k:0<=fn.regs) (hb:fn.blocks.length<=12) (h:(Qk.fault a f fn b x).1=0):x.fine a:=by
 unfold Qk.fault at h;split at h
 ·cases h
 rename_i l
 split at h
 ·rename_i c;exact absurd h c
 rename_i c
 split at h
 ·cases h
 split at h
 ·cases h
 split at h
 ·rename_i e;exact absurd h e
 rename_i e
 split at h
 ·rename_i d;exact absurd h d
 rename_i d
 refine⟨by omega,Qkg (by omega) (Xq.1 c),fun y g=>?_,_,hb,Xq.1 d⟩
 obtain⟨i,j⟩:=List.getElem?_of_mem g
 exact Zq (Xq.1 e) i y j
theorem Qjw {a:Nat}{x:Qe n}(h:(Qe.fault a f x).1=0):x.fine a:=by
 unfold Qe.fault at h;split at h
 ·cases h
 rename_i j
 split at h
 ·rename_i b;exact absurd h b
 rename_i b
 split at h
 ·rename_i c;exact absurd h c
 rename_i c
 split at h
 ·cases h
 rename_i g
 split at h
 ·cases h
 refine⟨by omega,Qkg (by omega) (Xq.1 b),Qkg (by omega) (Xq.1 c),fun y d=>?_⟩
 obtain⟨i,e⟩:=List.getElem?_of_mem d
 exact QiM (by omega) (by omega) (Zq h i y e)
theorem QkS {m:List (Qe n)}(h:(Qr m).1=0):∀ x∈m,x.fine m.length:=by
 unfold Qr at h;split at h
 ·cases h
 intro x a;obtain⟨i,b⟩:=List.getElem?_of_mem a
 exact Qjw (Zq h i x b)
theorem QhT {a:Nat}{x:Qz}(h:x.form a=0):(QC x.op).isNone=false/\x.formless=false/\(x.op=2->1<=x.k/\x.k<=9)/\(x.args.length<=8\/x.op≠5/\x.op≠14)/\(x.op=14->x.regs.length<=6):=by
 unfold Qz.form at h;split at h
 ·cases h
 split at h
 ·cases h
 split at h
 ·cases h
 split at h
 ·cases h
 split at h
 ·cases h
 split at h
 ·cases h
 split at h
 ·cases h
 rename_i c b e d f i g
 refine⟨Bool.eq_false_iff.2 c,Bool.eq_false_iff.2 b,by omega,by omega,by omega⟩
theorem Qcq {t:TT n}{regs:Int}(h:t.check regs=0):t.height<=4/\t.fault regs=0:=by
 unfold TT.check at h;split at h
 ·cases h
 ·exact⟨by omega,h⟩
theorem QiR {op:Int}(h:(QC op).isNone=false):op=1\/op=2\/op=3\/op=4\/op=5\/op=6\/op=7\/op=8\/op=9\/op=10\/op=11\/op=12\/op=13\/op=14:=by
 unfold QC at h;repeat' split at h
 all_goals first | omega | cases h
theorem Xo:type_of% @Nat.le_of_not_lt:=@Nat.le_of_not_lt
def MTo.small (x:MTo):Prop:=x.regs.length<=100000/\x.args.length<=100000
def Qz.small (x:Qz):Prop:=x.regs.length<=100000/\x.args.length<=100000
def Qax.small (x:Qax):Prop:=x.yes.small/\x.no.small/\x.args.length<=100000
def Qdk {n:Nat}(l:List (TT n)):Prop:=l.length<=100000/\∀ t∈l,t.count<=100000
def Qk.small {n:Nat}(x:Qk n):Prop:=x.code.length<=100000/\Qdk x.params/\x.fin.small/\∀ y∈x.code,y.small
def Qe.small {n:Nat}(x:Qe n):Prop:=x.blocks.length<=100000/\Qdk x.params/\Qdk x.results/\∀ y∈x.blocks,y.small
def Qcl {n:Nat}(m:List (Qe n)):Prop:=m.length<=100000/\∀ x∈m,x.small
theorem QcB {l:List (TT n)}(h:¬ ZE l):Qdk l:=⟨Zt (Xo fun x=>h (.inl x)) (by decide),fun t a=>Zt (Xo fun x=>h (.inr ⟨t,a,x⟩)) (by decide)⟩
theorem Qk.small_of {x:Qk n}(h:¬ x.great):x.small:=by
 unfold Qk.great at h;simp only[not_or,not_exists,not_and,Nat.not_lt] at h
 obtain⟨i,e,f,d,g,j,c,a⟩:=h
 exact⟨Zt i (by decide),QcB e,⟨⟨Zt d (by decide),Zt g (by decide)⟩,⟨Zt j (by decide),Zt c (by decide)⟩,Zt f (by decide)⟩,fun y b=>⟨Zt (a y b).1 (by decide),Zt (a y b).2 (by decide)⟩⟩
theorem Qe.small_of {x:Qe n}(h:¬ x.great):x.small:=by
 unfold Qe.great at h;simp only[not_or,not_exists,not_and,Nat.not_lt] at h
 obtain⟨d,b,c,a⟩:=h
 exact⟨Zt d (by decide),QcB b,QcB c,fun y e=>Qk.small_of (a y e)⟩
theorem Qbp {m:List (Qe n)}(h:¬ QL m):Qcl m:=by
 unfold QL at h;simp only[not_or,not_exists,not_and,Nat.not_lt] at h
 exact⟨Zt h.1 (by decide),fun x a=>Qe.small_of (h.2 x a)⟩
theorem XN:type_of% @List.length_map:=@List.length_map
def TT.at:{n:Nat}->(k:Nat)->TT n->TT (k+1)
 | 0,_,t=>Empty.elim t
 | n+1,0,t=>(t.1,t.2.1,[])
 | n+1,k+1,t=>(t.1,t.2.1,t.2.2.map (TT.at (n:=n) k))
theorem TT.at_kind:{n:Nat}->(k:Nat)->(t:TT n)->(t.at k).kind=t.kind
 | 0,_,t=>Empty.elim t
 | n+1,0,t=>rfl
 | n+1,k+1,t=>rfl
theorem TT.at_r:{n:Nat}->(k:Nat)->(t:TT n)->(t.at k).r=t.r
 | 0,_,t=>Empty.elim t
 | n+1,0,t=>rfl
 | n+1,k+1,t=>rfl
theorem TT.at_len:{n:Nat}->(k:Nat)->(t:TT n)->t.height<=k->(t.at k).len=t.len
 | 0,_,t,_=>Empty.elim t
 | n+1,0,t,h=>by
   have:=(Z0 (t:=t)).1 h
   show 0=t.2.2.length
   cases hx:t.2.2 with
   | nil=>rfl
   | cons x l=>have:=this x (by rw[hx];simp);omega
 | n+1,k+1,t,h=>by
   show (t.2.2.map _).length=_;rw[XN];rfl
theorem TIn.at {w:World}{O:Nat->Prop}:{n:Nat}->(k:Nat)->{t:TT n}->{a:Option Addr}->t.height<=k->TIn w O t a->TIn w O (t.at k) a
 | 0,_,t,_,_,_=>Empty.elim t
 | n+1,0,t,a,h,hi=>fun i x c=>by simp[TT.at] at c
 | n+1,k+1,t,a,h,hi=>fun i x c=>by
   have b:(t.2.2.map (TT.at k))[i]?=some x:=c;rw[XS,Option.map_eq_some_iff] at b
   obtain⟨y,f,rfl⟩:=b
   have d:y.height<=k:=by have:=(Z0 (t:=t)).1 h y (Zm f);omega
   obtain⟨g,o,q,l,e,j,s,m,r,p⟩:=hi i y f
   refine⟨g,o,q,l,e,j,?_,?_,?_,TIn.at k d p⟩
   ·rw[TT.at_kind];exact s
   ·rw[TT.at_r];exact m
   ·rw[TT.at_len k y d];exact r
theorem TT.at_ok:{n:Nat}->(k:Nat)->{t:TT n}->t.ok->(t.at k).ok
 | 0,_,t,_=>Empty.elim t
 | n+1,0,t,h=>⟨h.1,fun x a=>by cases a⟩
 | n+1,k+1,t,h=>⟨h.1,fun x a=>by
   obtain⟨y,b,rfl⟩:=List.mem_map.1 a
   exact TT.at_ok k (h.2 y b)⟩
def Qk.at {n:Nat}(k:Nat) (x:Qk n):Qk (k+1):=⟨x.regs,x.params.map (TT.at k),x.code,x.fin⟩
def Qe.at {n:Nat}(k:Nat) (x:Qe n):Qe (k+1):=⟨x.regs,x.params.map (TT.at k),x.results.map (TT.at k),x.blocks.map (Qk.at k)⟩
def Qeq {n:Nat}(k:Nat) (l:List (TT n)):Prop:=∀ t∈l,t.height<=k
def Qk.flat {n:Nat}(k:Nat) (x:Qk n):Prop:=Qeq k x.params
def Qe.flat {n:Nat}(k:Nat) (x:Qe n):Prop:=Qeq k x.params/\Qeq k x.results/\∀ y∈x.blocks,y.flat k
theorem Lay.list_map {α β:Type}{A:Lay α}{B:Lay β}{f:α->β}{w:World}{O:Nat->Prop}{l:List α}{cs:List Value}(j:A.size=B.size) (n:∀ x∈l,∀ ds,A.In w O x ds->B.In w O (f x) ds) (h:A.list.In w O l cs):B.list.In w O (l.map f) cs:=by
 obtain⟨a,c,e,h⟩:=h
 refine⟨a,c,by rw[e,XN],fun i x b=>?_⟩
 rw[XS,Option.map_eq_some_iff] at b
 obtain⟨y,d,rfl⟩:=b
 obtain⟨g,o,ds,r,m,p,k,q⟩:=h i y d
 exact⟨g,o,ds,r,m,p,by rw[<-j];exact k,n y (Zm d) ds q⟩
section
variable {w:World}{O:Nat->Prop}{n:Nat}{cs:List Value}
theorem Qdt {l:List (TT n)}(d:Qeq k l) (h:(QM n).In w O l cs):(QM (k+1)).In w O (l.map (TT.at k)) cs :=
 Lay.list_map (A:=Lay.tt n) (B:=Lay.tt (k+1)) Z (fun x b i ⟨a,c,e,g,f⟩=>⟨a,c,by rw[e,TT.at_kind,TT.at_r,TT.at_len k x (d x b)],g.at k (d x b),TT.at_ok k f⟩) h
theorem Qht {x:Qk n}(b:x.flat k) (h:(Zu n).In w O x cs):(Zu (k+1)).In w O (x.at k) cs:=by
 obtain⟨d,_,rfl,a,⟨e,_,rfl,f,c⟩⟩:=h
 exact⟨d,_,Z,a,⟨e,_,Z,Qdt b f,c⟩⟩
theorem Qin {x:Qe n}(a:x.flat k) (h:(QaH n).In w O x cs):(QaH (k+1)).In w O (x.at k) cs:=by
 obtain⟨e,_,rfl,c,⟨b,_,rfl,i,⟨f,_,rfl,d,g⟩⟩⟩:=h
 exact⟨e,_,Z,c,⟨b,_,Z,Qdt a.1 i,⟨f,_,Z,Qdt a.2.1 d,Lay.list_map (A:=Zu n) (B:=Zu (k+1)) Z (fun y j l=>Qht (a.2.2 y j)) g⟩⟩⟩
theorem QkM {m:List (Qe n)}(a:∀ x∈m,x.flat k) (h:(Qam n).In w O m cs):(Qam (k+1)).In w O (m.map (Qe.at k)) cs :=
 Lay.list_map (A:=QaH n) (B:=QaH (k+1)) Z (fun y b c=>Qin (a y b)) h
theorem Qkl {m:List (Qe n)}(h:(Qr m).1=0):∀ x∈m,x.flat 5:=by
 have a:∀ {l:List (TT n)},Qla l->Qeq 5 l:=fun h t e=>by
  obtain⟨r,_,c⟩:=h.2 t e
  have:=(Qcq c).1
  omega
 intro x d;have b:=QkS h x d;exact⟨a b.params,a b.results,fun y f=>a (b.blocks y f).params⟩
end
theorem Xc:type_of% @Int.eq_ofNat_of_zero_le:=@Int.eq_ofNat_of_zero_le
def QiO (L:List Bool) (r:Int):Bool:=decide (0<=r)&&L.getD r.toNat false
def hTo (L:List Bool):Nat->List Int
 | 0=>[]
 | k+1=>hTo L k++(if L.getD k false then [(k:Int)] else [])
def QkK (L:List Bool):List Int:=hTo L L.length
def inB (l:List Int) (x:Int):Bool:=l.contains x
def Qkq (L:List Bool):List Int->List Int->Int
 | ahead,[]=>if (QkK L).all (fun r=>inB ahead r) then 0 else 12
 | ahead,r::rest=>if QiO L r then (if inB ahead r then 13 else Qkq L (ahead++[r]) rest) else 10
theorem Qjy (L:List Bool)(h:L.length<=k):L.getD k false=false:=by
 simp[List.getD,List.getElem?_eq_none h]
theorem Qhe {L:List Bool}{r:Int}(h:QiO L r=true):∃ k:Nat,r=(k:Int)/\k<L.length/\L.getD k false=true:=by
 simp only[QiO,Bool.and_eq_true,decide_eq_true_eq] at h
 obtain⟨k,rfl⟩:=Xc h.1
 have a:L.getD k false=true:=by simpa using h.2
 refine⟨k,Z,?_,a⟩
 rcases Nat.lt_or_ge k L.length with b | b
 ·exact b
 ·rw[Qjy L b] at a;cases a
def Qh9 (n:Int):List Bool:=List.replicate (min n 16).toNat true
def Rd (P:Program) (f:FuncId) (args:Array Value) (w:World) (V:Value):Prop:=Calls P f args w fun e w'=>e=.returned V/\Below w.heap.size w w'
noncomputable def bdec (A:Prop):Bool:=@decide A (Classical.propDecidable A)
theorem QdB {A:Prop}:bdec A=true↔A:=by unfold bdec;simp
theorem QB {A:Prop}(h:A):bdec A=true:=QdB.2 h
theorem Qx {A:Prop}(h:¬ A):bdec A=false:=by
 cases e:bdec A with
 | false=>rfl
 | true=>exact absurd (QdB.1 e) h
theorem Qhs {A:Prop}{q:Bool}(h:q=true↔A):q=bdec A:=by
 cases q with
 | false=>exact(Qx fun a=>by have:=h.2 a;cases this).symm
 | true=>exact(QB (h.1 Z)).symm
structure JSt where
 m:List (Qe 6)
 f:Qe 6
 H:List Bool
 L:List (TT 6)
def JSt.at (s:JSt) (k:Int):Option (TT 6):=if k<0 then none else s.L[k.toNat]?
def JSt.want (s:JSt) (k kind:Int) (held:Bool):Int:=match s.at k with
 | none=>1
 | some t=>if t.kind=kind then (if held&&!QiO s.H t.r then 10 else 0) else 9
def Qal (a b:Int):Int:=if a=0 then b else a
noncomputable def JSt.arg (s:JSt) (regs:List Int) (k:Int) (t:TT 6):Int:=match s.at k with
 | none=>1
 | some u=>if bdec (t.ren regs.length (fun i=>regs.getD i 0)=some u) then 0 else 9
noncomputable def JSt.args (s:JSt) (l:List Int) (ts:List (TT 6)) (regs:List Int):Int :=
 if l.length=ts.length then QV (fun p:Int × TT 6=>s.arg regs p.1 p.2) (l.zip ts) else 2
def zeroTT:TT 6:=mkT 0 0 []
def tInt:TT 6:=mkT 1 0 []
def QlQ (regs:List Int) (t:TT 6):TT 6:=(t.ren regs.length (fun i=>regs.getD i 0)).getD zeroTT
def Qbs (H:List Bool):List Int->List Int->Int
 | _,[]=>0
 | ahead,r::rest=>if QiO H r then (if inB ahead r then 13 else Qbs H (ahead++[r]) rest) else 10
def JSt.fields (s:JSt):List Int->Option (List (TT 6))
 | []=>some []
 | k::r=>match s.at k with
   | none=>none
   | some t=>match s.fields r with
     | none=>none
     | some l=>some (t::l)
noncomputable def JSt.makes (s:JSt) (x:Qz):Int × List (TT 6) :=
 if x.op=1\/x.op=12 then (0,[tInt])
 else if x.op=2 then (Qal (s.want x.a 1 false) (s.want x.b 1 false),[tInt])
 else if x.op=3 then (if s.H.length=16 then (2,[]) else (0,[mkT 2 s.H.length []]))
 else if x.op=4 then (match s.at x.a with
  | none=>(1,[])
  | some t=>(Qal (s.want x.a 2 true) (if t.r<s.f.regs then 11 else 0),[]))
 else if x.op=5 then (match s.at x.a with
  | none=>(1,[])
  | some t=>if s.want x.a 2 true=0 then (match s.fields x.args with
   | none=>(1,[])
   | some l=>if 4<TT.height (n:=7) (mkT 3 t.r l) then (19,[]) else (0,[TT.at (n:=7) 5 (mkT 3 t.r l)]))
   else (s.want x.a 2 true,[]))
 else if x.op=6 then (match s.at x.a with
  | none=>(1,[])
  | some t=>if s.want x.a 3 true=0 then (match t.2.2[x.k.toNat]? with
   | none=>(9,[])
   | some u=>(0,[u.at 5]))
   else (s.want x.a 3 true,[]))
 else if x.op=7 then (match s.at x.a with
  | none=>(1,[])
  | some t=>if s.want x.a 3 true=0 then (match t.2.2[x.k.toNat]? with
   | none=>(9,[])
   | some u=>(match s.at x.b with
     | none=>(1,[])
     | some v=>if bdec (u.at 5=v) then (0,[]) else (9,[])))
   else (s.want x.a 3 true,[]))
 else if x.op=8 then (match s.at x.a with
  | none=>(1,[])
  | some t=>(Qal (s.want x.a 2 true) (s.want x.b 1 false),[mkT 4 t.r []]))
 else if x.op=9 then (Qal (s.want x.a 4 true) (s.want x.b 1 false),[tInt])
 else if x.op=10 then (Qal (s.want x.a 4 true) (Qal (s.want x.b 1 false) (s.want x.c 1 false)),[])
 else if x.op=11 then (s.want x.a 4 true,[tInt])
 else if x.op=13 then (s.want x.a 1 false,[])
 else (match s.m[x.k.toNat]? with
  | none=>(0,[])
  | some g=>if (x.regs.length:Int)=g.regs then
   (Qal (Qbs s.H [] x.regs) (s.args x.args g.params x.regs),g.results.map (QlQ x.regs))
   else (2,[]))
noncomputable def JSt.code (s:JSt) (x:Qz):Int :=
 if x.form s.m.length≠0 then x.form s.m.length
 else if (s.makes x).1≠0 then (s.makes x).1
 else if 80<s.L.length+(s.makes x).2.length then 2 else 0
noncomputable def JSt.next (s:JSt) (x:Qz):JSt :=
 { s with
  H:=if x.op=3 then s.H++[true] else if x.op=4 then s.H.set (match s.at x.a with | none=>0 | some t=>t.r.toNat) false else s.H
  L:=s.L++(s.makes x).2 }
noncomputable def JSt.ins (s:JSt) (x:Qz):JSt:=if s.code x=0 then s.next x else s
def QlN (n:Nat) (regs:List Int):Int:=if (List.range n).all (fun (i:Nat)=>decide (regs.getD i 0=(i:Int))) then 0 else 11
noncomputable def JSt.to (s:JSt) (t:MTo):Int:=match s.f.blocks[t.block.toNat]? with
 | none=>0
 | some b=>if (t.regs.length:Int)=b.regs then
  Qal (QlN s.f.regs.toNat t.regs) (Qal (Qkq s.H [] t.regs) (s.args t.args b.params t.regs))
  else 2
def Qmt (n:Nat):List Int:=(List.range n).map (fun (i:Nat)=>(i:Int))
noncomputable def JSt.fin (s:JSt) (e:Qax):Int :=
 if e.form s.f.blocks.length≠0 then e.form s.f.blocks.length
 else if e.op=1 then s.to e.yes
 else if e.op=2 then Qal (s.want e.a 1 false) (Qal (s.to e.yes) (s.to e.no))
 else Qal (s.args e.args s.f.results (Qmt s.f.regs.toNat)) (if (QkK s.H).all (fun r=>decide (r<s.f.regs)) then 0 else 12)
theorem Qew {s:JSt}{x:Qz}(h:x.op=1\/x.op=12):s.makes x=(0,[tInt]):=by
 unfold JSt.makes;rw[Xs h]
theorem Qgz {s:JSt}{x:Qz}(h:x.op=2):s.makes x=(Qal (s.want x.a 1 false) (s.want x.b 1 false),[tInt]):=by
 unfold JSt.makes;rw[Xr (by omega),Xs h]
theorem Qer {s:JSt}{x:Qz}(h:x.op=3):s.makes x=(if s.H.length=16 then (2,[]) else (0,[mkT 2 s.H.length []])):=by
 unfold JSt.makes;rw[Xr (by omega),Xr (by omega),Xs h]
theorem Qgd {s:JSt}{x:Qz}(h:x.op=4):s.makes x=(match s.at x.a with
 | none=>(1,[])
 | some t=>(Qal (s.want x.a 2 true) (if t.r<s.f.regs then 11 else 0),[])):=by
 unfold JSt.makes;rw[Xr (by omega),Xr (by omega),Xr (by omega),Xs h]
theorem Qfi {s:JSt}{x:Qz}(h:x.op=5):s.makes x=(match s.at x.a with
 | none=>(1,[])
 | some t=>if s.want x.a 2 true=0 then (match s.fields x.args with
  | none=>(1,[])
  | some l=>if 4<TT.height (n:=7) (mkT 3 t.r l) then (19,[]) else (0,[TT.at (n:=7) 5 (mkT 3 t.r l)]))
  else (s.want x.a 2 true,[])):=by
 unfold JSt.makes;rw[Xr (by omega),Xr (by omega),Xr (by omega),Xr (by omega),Xs h]
theorem Qhz {s:JSt}{x:Qz}(h:x.op=6):s.makes x=(match s.at x.a with
 | none=>(1,[])
 | some t=>if s.want x.a 3 true=0 then (match t.2.2[x.k.toNat]? with
  | none=>(9,[])
  | some u=>(0,[u.at 5]))
  else (s.want x.a 3 true,[])):=by
 unfold JSt.makes;rw[Xr (by omega),Xr (by omega),Xr (by omega),Xr (by omega),Xr (by omega),Xs h]
theorem Qhj {s:JSt}{x:Qz}(h:x.op=7):s.makes x=(match s.at x.a with
 | none=>(1,[])
 | some t=>if s.want x.a 3 true=0 then (match t.2.2[x.k.toNat]? with
  | none=>(9,[])
  | some u=>(match s.at x.b with
    | none=>(1,[])
    | some v=>if bdec (u.at 5=v) then (0,[]) else (9,[])))
  else (s.want x.a 3 true,[])):=by
 unfold JSt.makes;rw[Xr (by omega),Xr (by omega),Xr (by omega),Xr (by omega),Xr (by omega),Xr (by omega),Xs h]
theorem Qfa {s:JSt}{x:Qz}(h:x.op=8):s.makes x=(match s.at x.a with
 | none=>(1,[])
 | some t=>(Qal (s.want x.a 2 true) (s.want x.b 1 false),[mkT 4 t.r []])):=by
 unfold JSt.makes;rw[Xr (by omega),Xr (by omega),Xr (by omega),Xr (by omega),Xr (by omega),Xr (by omega),Xr (by omega),Xs h]
theorem Qgh {s:JSt}{x:Qz}(h:x.op=9):s.makes x=(Qal (s.want x.a 4 true) (s.want x.b 1 false),[tInt]):=by
 unfold JSt.makes;rw[Xr (by omega),Xr (by omega),Xr (by omega),Xr (by omega),Xr (by omega),Xr (by omega),Xr (by omega),Xr (by omega),Xs h]
theorem Qfl {s:JSt}{x:Qz}(h:x.op=10):s.makes x=(Qal (s.want x.a 4 true) (Qal (s.want x.b 1 false) (s.want x.c 1 false)),[]):=by
 unfold JSt.makes;rw[Xr (by omega),Xr (by omega),Xr (by omega),Xr (by omega),Xr (by omega),Xr (by omega),Xr (by omega),Xr (by omega),Xr (by omega),Xs h]
theorem Qhr {s:JSt}{x:Qz}(h:x.op=11):s.makes x=(s.want x.a 4 true,[tInt]):=by
 unfold JSt.makes;rw[Xr (by omega),Xr (by omega),Xr (by omega),Xr (by omega),Xr (by omega),Xr (by omega),Xr (by omega),Xr (by omega),Xr (by omega),Xr (by omega),Xs h]
theorem QhO {s:JSt}{x:Qz}(h:x.op=13):s.makes x=(s.want x.a 1 false,[]):=by
 unfold JSt.makes;rw[Xr (by omega),Xr (by omega),Xr (by omega),Xr (by omega),Xr (by omega),Xr (by omega),Xr (by omega),Xr (by omega),Xr (by omega),Xr (by omega),Xr (by omega),Xs h]
theorem Qgb {s:JSt}{x:Qz}(h:x.op=14):s.makes x=(match s.m[x.k.toNat]? with
 | none=>(0,[])
 | some g=>if (x.regs.length:Int)=g.regs then
  (Qal (Qbs s.H [] x.regs) (s.args x.args g.params x.regs),g.results.map (QlQ x.regs))
  else (2,[])):=by
 unfold JSt.makes;rw[Xr (by omega),Xr (by omega),Xr (by omega),Xr (by omega),Xr (by omega),Xr (by omega),Xr (by omega),Xr (by omega),Xr (by omega),Xr (by omega),Xr (by omega),Xr (by omega)]
def JSt.start (m:List (Qe 6)) (f:Qe 6) (b:Qk 6):JSt:=⟨m,f,Qh9 b.regs,b.params⟩
theorem Qis {k r:Int}{len:Nat}{a b:Int}(c:a<=b) (h:ownC k r len a=0):ownC k r len b=0:=by
 unfold ownC at h |-;split at h
 ·cases h
 split at h
 ·cases h
 split at h
 ·cases h
 split at h
 ·cases h
 split at h
 ·cases h
 rename_i g e f d i
 rw[Xr g,Xr e,Xr f,Xr d,Xr (by omega)]
theorem Qdp {a b:Int}(c:a<=b):{n:Nat}->{t:TT n}->t.fault a=0->t.fault b=0
 | 0,t,_=>Empty.elim t
 | n+1,t,h=>by
   obtain⟨f,d⟩:=TT.fault_zero h
   simp only[TT.fault,Qis c f,ne_eq,not_true_eq_false,if_false]
   exact QX.2 fun x e=>Qdp c (d x e)
theorem Zx {t:TT n}{r:Int}:t.check r=0↔t.height<=4/\t.fault r=0:=by
 constructor
 ·exact Qcq
 ·intro h;unfold TT.check;rw[Xr (by omega)];exact h.2
theorem Qa6 {t:TT n}{a b:Int}(c:a<=b) (h:t.check a=0):t.check b=0:=by
 rw[Zx] at h |-
 exact⟨h.1,Qdp c h.2⟩
theorem TT.height_lt:{n:Nat}->(t:TT n)->t.height<n
 | 0,t=>Empty.elim t
 | n+1,t=>by
   have:t.height<=n:=Z0.2 fun x a=>by have:=TT.height_lt x;omega
   omega
theorem TT.at_height:{n:Nat}->(k:Nat)->(t:TT n)->t.height<=k->(t.at k).height=t.height
 | 0,_,t,_=>Empty.elim t
 | n+1,0,t,h=>by
   have a:t.height=0:=by omega
   rw[a]
   rfl
 | n+1,k+1,t,h=>by
   have c:=Z0.1 h;show ((t.2.2.map (TT.at k)).map (fun x=>1+TT.height x)).foldl max 0=(t.2.2.map (fun x=>1+TT.height x)).foldl max 0;rw[List.map_map]
   congr 1
   refine List.map_congr_left fun x b=>?_;show 1+(x.at k).height=1+x.height;rw[TT.at_height k x (by have:=c x b;omega)]
theorem TT.at_fault {r:Int}:{n:Nat}->(k:Nat)->(t:TT n)->t.height<=k->(t.at k).fault r=t.fault r
 | 0,_,t,_=>Empty.elim t
 | n+1,0,t,h=>by
   have b:=Z0.1 h
   have e:t.2.2=[]:=by
    cases a:t.2.2 with
    | nil=>rfl
    | cons x l=>have:=b x (by rw[a];simp);omega
   show (if ownC t.1 t.2.1 0 r≠0 then ownC t.1 t.2.1 0 r else QV _ [])=_;simp only[TT.fault,e,List.length_nil,QV]
 | n+1,k+1,t,h=>by
   have b:=Z0.1 h;show (if ownC t.1 t.2.1 (t.2.2.map (TT.at k)).length r≠0 then ownC t.1 t.2.1 (t.2.2.map (TT.at k)).length r else QV (TT.fault r) (t.2.2.map (TT.at k)))=_;rw[XN]
   have:QV (TT.fault r) (t.2.2.map (TT.at k))=QV (TT.fault r) t.2.2:=by
    refine Qb4 (by simp) fun i x y a c=>?_;rw[XS,c] at a
    simp only[Option.map_some,Option.some.injEq] at a
    rw[<-a]
    exact TT.at_fault k y (by have:=b y (Zm c);omega)
   rw[this]
   rfl
theorem TT.at_check (k:Nat) (t:TT n) (h:t.height<=k) (r:Int):(t.at k).check r=t.check r:=by
 unfold TT.check;rw[TT.at_height k t h,TT.at_fault k t h]
theorem QhN {m:Nat}{too:Nat->Int}{a b:Int}(o:a<=m) (e:∀ i,i<m->0<=too i/\too i<b):{n:Nat}->{t:TT n}->t.fault a=0->∃ u,t.ren m too=some u/\u.fault b=0
 | 0,t,_=>Empty.elim t
 | n+1,t,h=>by
   obtain⟨c,r⟩:=TT.fault_zero h
   have j:∃ f,QgJ m too t.1 t.2.1=some f/\ownC t.1 f t.2.2.length b=0:=by
    unfold ownC at c;split at c
    ·cases c
    split at c
    ·cases c
    split at c
    ·cases c
    split at c
    ·cases c
    split at c
    ·cases c
    rename_i C F A B L
    by_cases z:t.1=1
    ·refine⟨t.2.1,by rw[QgJ,Xs z],?_⟩
     unfold ownC;rw[Xr C,Xr F,Xr A,Xr B,Xr (by omega)]
    ·obtain⟨M,N⟩:=e t.2.1.toNat (by omega)
     refine⟨too t.2.1.toNat,by rw[QgJ,Xr z,Xr (by omega),Xr (by omega)],?_⟩
     unfold ownC;rw[Xr C,Xr (by omega),Xr A,Xr B,Xr (by omega)]
   obtain⟨f,H,K⟩:=j
   have G:∃ d,Qgx (TT.ren m too) t.2.2=some d/\d.length=t.2.2.length/\∀ x∈d,x.fault b=0:=by
    generalize t.2.2=l at r
    induction l with
    | nil=>exact⟨[],Z,Z,fun x E=>by cases E⟩
    | cons x xs ih =>
      obtain⟨u,D,J⟩:=QhN o e (r x (by simp))
      obtain⟨I,v,g,s⟩:=ih (fun y k=>r y (by simp[k]))
      refine⟨u::I,by simp[Qgx,D,v],by simp[g],fun y k=>?_⟩
      rcases List.mem_cons.1 k with rfl | k
      ·exact J
      ·exact s y k
   obtain⟨d,p,q,w⟩:=G
   refine⟨((t.1,f,d):Int × Int × List (TT n)),by simp only[TT.ren,H,p],?_⟩
   show (if ownC t.1 f d.length b≠0 then ownC t.1 f d.length b else QV (TT.fault b) d)=0;rw[q,K]
   simp only[ne_eq,not_true_eq_false,if_false]
   exact QX.2 w
theorem QjG {too:Nat->Int}{a b:Int}(d:a<=m) (c:∀ i,i<m->0<=too i/\too i<b){t:TT n}(h:t.check a=0):∃ u,t.ren m too=some u/\u.check b=0:=by
 obtain⟨u,e,f⟩:=QhN d c (Zx.1 h).2
 exact⟨u,e,Zx.2 ⟨by rw[TT.ren_height e];exact(Zx.1 h).1,f⟩⟩
structure Qk.right {n:Nat}(x:Qk n) (f:Qe n) (funcs:Nat):Prop where
 regs:f.regs<=x.regs/\x.regs<=16
 params:x.params.length<=8/\∀ t∈x.params,t.check x.regs=0
 code:∀ y∈x.code,y.form funcs=0
 codes:x.code.length<=40
 fin:x.fin.form f.blocks.length=0
structure Qe.right {n:Nat}(x:Qe n) (funcs:Nat):Prop where
 regs:0<=x.regs/\x.regs<=6
 params:x.params.length<=8/\∀ t∈x.params,t.check x.regs=0
 results:x.results.length<=8/\∀ t∈x.results,t.check x.regs=0
 many:0<x.blocks.length/\x.blocks.length<=12
 blocks:∀ y∈x.blocks,y.right x funcs
theorem QbR {regs:Int}{l:List (TT n)}(h:listC regs l=0):l.length<=8/\∀ t∈l,t.check regs=0:=by
 unfold listC at h;split at h
 ·cases h
 ·exact⟨by omega,fun t a=>QX.1 h t a⟩
theorem Qfn {a:Nat}{fn:Qe n}{x:Qk n}(h:(Qk.fault a f fn b x).1=0):x.right fn a:=by
 unfold Qk.fault at h;split at h
 ·cases h
 rename_i l
 split at h
 ·rename_i c;exact absurd h c
 rename_i c
 split at h
 ·cases h
 split at h
 ·cases h
 rename_i k
 split at h
 ·rename_i e;exact absurd h e
 rename_i e
 split at h
 ·rename_i d;exact absurd h d
 rename_i d
 refine⟨by omega,QbR (Xq.1 c),fun y g=>?_,by omega,Xq.1 d⟩
 obtain⟨i,j⟩:=List.getElem?_of_mem g
 exact Zq (Xq.1 e) i y j
theorem Qf9 {a:Nat}{x:Qe n}(h:(Qe.fault a f x).1=0):x.right a:=by
 unfold Qe.fault at h;split at h
 ·cases h
 rename_i j
 split at h
 ·rename_i b;exact absurd h b
 rename_i b
 split at h
 ·rename_i c;exact absurd h c
 rename_i c
 split at h
 ·cases h
 rename_i g
 split at h
 ·cases h
 refine⟨by omega,QbR (Xq.1 b),QbR (Xq.1 c),by omega,fun y d=>?_⟩
 obtain⟨i,e⟩:=List.getElem?_of_mem d
 exact Qfn (Zq h i y e)
theorem Zz {m:List (Qe n)}(h:(Qr m).1=0):(0<m.length/\m.length<=8)/\∀ x∈m,x.right m.length:=by
 unfold Qr at h;split at h
 ·cases h
 rename_i c
 refine⟨by omega,fun x a=>?_⟩
 obtain⟨i,b⟩:=List.getElem?_of_mem a
 exact Qf9 (Zq h i x b)
structure JOk (s:JSt):Prop where
 mod:(0<s.m.length/\s.m.length<=8)/\∀ x∈s.m,x.right s.m.length
 tiny:¬ QL s.m
 fn:s.f∈s.m
 regs:s.H.length<=16
 kept:s.f.regs<=s.H.length
 vals:s.L.length<=80
 types:∀ t∈s.L,t.check s.H.length=0
theorem QgN {s:JSt}{k:Int}{t:TT 6}(h:s.at k=some t):t∈s.L/\0<=k/\k<s.L.length/\s.L[k.toNat]?=some t:=by
 unfold JSt.at at h;split at h
 ·cases h
 ·have:=(Zi h).1
  exact⟨Zm h,by omega,by omega,h⟩
theorem Qct {s:JSt}{k b:Int}{a:Bool}(h:s.want k b a=0):∃ t,s.at k=some t/\t.kind=b/\(a=true->QiO s.H t.r=true):=by
 unfold JSt.want at h;split at h
 ·cases h
 ·rename_i t c
  split at h
  ·rename_i d
   split at h
   ·cases h
   ·rename_i f
    refine⟨t,c,d,fun e=>?_⟩
    subst e;simpa using f
  ·cases h
theorem Qdm {a b:Int}(h:Qal a b=0):a=0/\b=0:=by
 unfold Qal at h;split at h
 ·exact⟨by assumption,h⟩
 ·contradiction
theorem Qck {s:JSt}:∀ {l:List Int}{ts:List (TT 6)},s.fields l=some ts->ts.length=l.length/\∀ t∈ts,t∈s.L
 | [],ts,h=>by simp[JSt.fields] at h;subst h;simp
 | k::r,ts,h=>by
   simp only[JSt.fields] at h
   cases hk:s.at k with
   | none=>simp[hk] at h
   | some t =>
     simp only[hk] at h
     cases hr:s.fields r with
     | none=>simp[hr] at h
     | some l =>
       simp only[hr,Option.some.injEq] at h
       subst h;obtain⟨c,b⟩:=Qck hr
       refine⟨by simp[c],fun u a=>?_⟩
       rcases List.mem_cons.1 a with rfl | a
       ·exact(QgN hk).1
       ·exact b u a
theorem Qbr {H:List Bool}:∀ {l ahead:List Int},Qbs H ahead l=0->∀ r∈l,QiO H r=true
 | [],_,_,r,a=>by cases a
 | x::l,ahead,h,r,a=>by
   simp only[Qbs] at h
   split at h
   ·rename_i b
    split at h
    ·cases h
    ·rcases List.mem_cons.1 a with rfl | a
     ·exact b
     ·exact Qbr h r a
   ·cases h
theorem QbL {H:List Bool}{r:Int}(h:QiO H r=true):0<=r/\r<H.length:=by
 obtain⟨k,rfl,a,_⟩:=Qhe h
 omega
theorem Qiw {x:Qz}{a:Nat}(h:x.form a=0):((x.op=6\/x.op=7)->0<=x.k/\x.k<=7)/\(x.op=14->0<=x.k/\x.k<a/\x.regs.length<=6/\x.args.length<=8)/\(x.op=5->x.args.length<=8)/\(x.op=1\/x.op=2\/x.op=3\/x.op=4\/x.op=5\/x.op=6\/x.op=7\/x.op=8\/x.op=9\/x.op=10\/x.op=11\/x.op=12\/x.op=13\/x.op=14):=by
 have b:=QiR (QhT h).1;unfold Qz.form at h;split at h
 ·cases h
 split at h
 ·cases h
 split at h
 ·cases h
 split at h
 ·cases h
 split at h
 ·cases h
 split at h
 ·cases h
 split at h
 ·cases h
 refine⟨by omega,by omega,by omega,b⟩
theorem Qdb {k r R:Int}(a:k=2\/k=4) (b:0<=r/\r<R):TT.check (n:=6) R (mkT k r [])=0:=by
 refine Zx.2 ⟨by show 0<=4;omega,?_⟩;show (if ownC k r 0 R≠0 then ownC k r 0 R else QV _ [])=0
 have:ownC k r 0 R=0:=by
  unfold ownC;rw[Xr (by omega),Xr (by omega),Xr (by omega),Xr (by omega),Xr (by omega)]
 rw[this];rfl
theorem QhY (R:Int):tInt.check R=0:=by
 refine Zx.2 ⟨by decide,?_⟩;show (if ownC 1 0 0 R≠0 then ownC 1 0 0 R else QV _ [])=0
 have:ownC 1 0 0 R=0:=by unfold ownC;rw[Xr (by omega),Xr (by omega),Xr (by omega),Xr (by omega),Xr (by omega)]
 rw[this];rfl
theorem QeP {s:JSt}{x:Qz}(h:JOk s) (S:x.form s.m.length=0) (A:(s.makes x).1=0):∀ t∈(s.makes x).2,t.check (s.next x).H.length=0:=by
 obtain⟨X,f2,N,P⟩:=Qiw S
 have J:(s.H.length:Int)<=(s.next x).H.length:=by
  simp only[JSt.next]
  split
  ·simp;omega
  split
  ·simp
  ·exact Int.le_refl _
 intro t f
 have j:∀ {c:Int},s.makes x=(c,[tInt])->t.check (s.next x).H.length=0:=fun {c} e=>by
  rw[e] at f
  have f:=List.mem_singleton.1 f;rw[f];exact QhY _
 have d:∀ {c:Int},s.makes x=(c,[])->t.check (s.next x).H.length=0:=fun {c} e=>by
  rw[e] at f;cases f
 rcases P with c | c | c | c | c | c | c | c | c | c | c | c | c | c
 ·exact j (Qew (.inl c))
 ·exact j (Qgz c)
 ·have e:=Qer (s:=s) c;by_cases C:s.H.length=16
  ·rw[Xs C] at e;exact d e
  ·rw[Xr C] at e
   rw[e] at f
   have f:=List.mem_singleton.1 f;rw[f]
   refine Qdb (.inl Z) ?_;simp only[JSt.next,c,if_true,List.length_append,List.length_singleton]
   omega
 ·have e:=Qgd (s:=s) c
  cases ha:s.at x.a with
  | none=>rw[ha] at e;exact d e
  | some u=>rw[ha] at e;exact d e
 ·have e:=Qfi (s:=s) c
  cases ha:s.at x.a with
  | none=>rw[ha] at e;exact d e
  | some u =>
    rw[ha] at e
    simp only at e
    by_cases p:s.want x.a 2 true=0
    ·rw[Xs p] at e
     cases hl:s.fields x.args with
     | none=>rw[hl] at e;exact d e
     | some l =>
       rw[hl] at e
       simp only at e
       by_cases C:4<TT.height (n:=7) (mkT 3 u.r l)
       ·rw[Xs C] at e;exact d e
       ·rw[Xr C] at e
        rw[e] at f
        have f:=List.mem_singleton.1 f;rw[f]
        obtain⟨R,q,_,o⟩:=Qct p
        rw[ha] at q
        cases q
        have D:=QbL (o Z);obtain⟨W,O⟩:=Qck hl
        rw[TT.at_check 5 _ (by omega)]
        refine Qa6 J (Zx.2 ⟨by omega,?_⟩);show (if ownC 3 u.r l.length s.H.length≠0 then ownC 3 u.r l.length s.H.length else QV (TT.fault (s.H.length:Int)) l)=0
        have:ownC 3 u.r l.length s.H.length=0:=by
         have:=N c
         unfold ownC;rw[Xr (by omega),Xr (by omega),Xr (by omega),Xr (by omega),Xr (by omega)]
        rw[this]
        simp only[ne_eq,not_true_eq_false,if_false]
        exact QX.2 fun y U=>(Zx.1 (h.types y (O y U))).2
    ·rw[Xr p] at e;exact d e
 ·have e:=Qhz (s:=s) c
  cases ha:s.at x.a with
  | none=>rw[ha] at e;exact d e
  | some u =>
    rw[ha] at e
    simp only at e
    by_cases p:s.want x.a 3 true=0
    ·rw[Xs p] at e
     cases z:u.2.2[x.k.toNat]? with
     | none=>rw[z] at e;exact d e
     | some v =>
       rw[z] at e
       rw[e] at f
       have f:=List.mem_singleton.1 f;rw[f]
       have K:=Zx.1 (h.types u (QgN ha).1);have B:=Zm z;have L:=Z0.1 K.1 v B;have T:=TT.height_lt v;rw[TT.at_check 5 _ (by omega)]
       exact Qa6 J (Zx.2 ⟨by omega,(TT.fault_zero K.2).2 v B⟩)
    ·rw[Xr p] at e;exact d e
 ·have e:=Qhj (s:=s) c
  cases ha:s.at x.a with
  | none=>rw[ha] at e;exact d e
  | some u =>
    rw[ha] at e
    simp only at e
    by_cases p:s.want x.a 3 true=0
    ·rw[Xs p] at e
     cases z:u.2.2[x.k.toNat]? with
     | none=>rw[z] at e;exact d e
     | some v =>
       rw[z] at e
       cases hb:s.at x.b with
       | none=>rw[hb] at e;exact d e
       | some w =>
         rw[hb] at e
         simp only at e
         cases hq:bdec (v.at 5=w) with
         | true=>rw[hq] at e;exact d e
         | false=>rw[hq] at e;exact d e
    ·rw[Xr p] at e;exact d e
 ·have e:=Qfa (s:=s) c
  cases ha:s.at x.a with
  | none=>rw[ha] at e;exact d e
  | some u =>
    rw[ha] at e
    rw[e] at f A
    have f:=List.mem_singleton.1 f;rw[f]
    obtain⟨p,_⟩:=Qdm A
    obtain⟨R,q,_,o⟩:=Qct p
    rw[ha] at q
    cases q
    have D:=QbL (o Z);exact Qdb (.inr Z) (by omega)
 ·exact j (Qgh c)
 ·exact d (Qfl c)
 ·exact j (Qhr c)
 ·exact j (Qew (.inr c))
 ·exact d (QhO c)
 ·have e:=Qgb (s:=s) c
  cases hg:s.m[x.k.toNat]? with
  | none=>rw[hg] at e;exact d e
  | some g =>
    rw[hg] at e
    simp only at e
    by_cases D:(x.regs.length:Int)=g.regs
    ·rw[Xs D] at e
     rw[e] at f A
     obtain⟨I,Q⟩:=Qdm A
     obtain⟨u,M,rfl⟩:=List.mem_map.1 f
     have E:=h.mod.2 g (Zm hg);have F:=E.results.2 u M
     obtain⟨v,z,G⟩:=QjG (m:=x.regs.length) (too:=fun i=>x.regs.getD i 0) (a:=g.regs) (b:=s.H.length) (by omega) (fun i V=>by
      have A:=Qbr I (x.regs.getD i 0) (by simp[List.getD,V]);exact QbL A) F
     unfold QlQ;rw[z]
     exact Qa6 J G
    ·rw[Xr D] at e;exact d e
theorem JOk.next {s:JSt}{x:Qz}(h:JOk s) (a:s.code x=0):JOk (s.next x):=by
 unfold JSt.code at a;split at a
 ·rename_i f;exact absurd a f
 rename_i f
 split at a
 ·rename_i d;exact absurd a d
 rename_i d
 split at a
 ·cases a
 rename_i k
 have i:x.form s.m.length=0:=Xq.1 f;have c:(s.makes x).1=0:=Xq.1 d
 have g:(s.H.length:Int)<=(s.next x).H.length:=by
  simp only[JSt.next]
  split
  ·simp;omega
  split
  ·simp
  ·exact Int.le_refl _
 refine⟨h.mod,h.tiny,h.fn,?_,?_,?_,?_⟩
 ·simp only[JSt.next]
  split
  ·rename_i j
   have:s.H.length≠16:=by
    intro e;rw[Qer j,Xs e] at c
    cases c
   have:=h.regs
   simp
   omega
  split
  ·simpa using h.regs
  ·exact h.regs
 ·exact Int.le_trans h.kept g
 ·show (s.L++(s.makes x).2).length<=80;rw[List.length_append]
  omega
 ·intro t b;rcases List.mem_append.1 b with b | b
  ·exact Qa6 g (h.types t b)
  ·exact QeP h i c t b
theorem JOk.ins {s:JSt}(h:JOk s) (x:Qz):JOk (s.ins x):=by
 unfold JSt.ins;split
 ·exact h.next (by assumption)
 ·exact h
theorem QfE {n:Int}(h:0<=n/\n<=16):((Qh9 n).length:Int)=n:=by
 unfold Qh9;rw[List.length_replicate]
 omega
theorem JOk.start {m:List (Qe 6)}{f:Qe 6}{b:Qk 6}(i:(Qr m).1=0) (g:¬ QL m) (e:f∈m) (hb:b∈f.blocks):JOk (JSt.start m f b):=by
 have d:=Zz i;have c:=d.2 f e;have a:=c.blocks b hb;have j:=QfE (n:=b.regs) (by have:=c.regs;have:=a.regs;omega);have o:=a.regs;have l:=c.regs;have k:=a.params;refine⟨d,g,e,?_,?_,?_,?_⟩
 ·show (Qh9 b.regs).length<=16;omega
 ·show f.regs<=((Qh9 b.regs).length:Int);omega
 ·show b.params.length<=80;omega
 ·intro t h;show t.check ((Qh9 b.regs).length:Int)=0;rw[j]
  exact k.2 t h
theorem Qdj {s:JSt}{x:Qz}(b:x.op≠3) (a:x.op≠4):(s.next x).H=s.H:=by
 unfold JSt.next
 simp only[if_neg b,if_neg a]
theorem XV:type_of% @List.take_add_one:=@List.take_add_one
noncomputable def JSt.upto (s:JSt) (l:List Qz):JSt:=l.foldl (fun s x=>s.next x) s
theorem JSt.upto_snoc (s:JSt) (l:List Qz) (x:Qz):s.upto (l++[x])=(s.upto l).next x:=by unfold JSt.upto;rw[List.foldl_append];rfl
theorem JOk.upto {s:JSt}(b:JOk s){l:List Qz}:∀ {k:Nat},(∀ j y,j<k->l[j]?=some y->(s.upto (l.take j)).code y=0)->k<=l.length->JOk (s.upto (l.take k))
 | 0,_,_=>by simpa[JSt.upto] using b
 | k+1,h,hk=>by
   have a:l[k]?=some (l[k]'(by omega)):=Zg _;have c:=b.upto (k:=k) (fun j y d=>h j y (by omega)) (by omega);rw[XV,a]
   show JOk (s.upto (l.take k++[_]));rw[JSt.upto_snoc]
   exact c.next (h k _ (by omega) a)
structure IFr where
 f:Nat
 b:Nat
 i:Nat
 v:List Qj
 r:List Int
structure IM where
 h:Qc
 top:IFr
 rest:List IFr
 inp:List Int
 out:List Int
 back:List Int
 fuel:Nat
 fin:Int
 done:Bool
def QA (v:List Qj) (k:Int):Option Qj:=if k<0 then none else v[k.toNat]?
def Qp (v:List Qj):List Int->Option (List Qj)
 | []=>some []
 | k::l=>match QA v k with
   | none=>none
   | some x=>match Qp v l with
     | none=>none
     | some xs=>some (x::xs)
def QhJ (r:List Int) (k:Int):Option Int:=if k<0 then none else r[k.toNat]?
def Zb (r:List Int):List Int->Option (List Int)
 | []=>some []
 | k::l=>match QhJ r k with
   | none=>none
   | some x=>match Zb r l with
     | none=>none
     | some xs=>some (x::xs)
def Qt (v:List Qj) (k:Int):Option Int:=match QA v k with
 | none=>none
 | some x=>if x.kind=1 then some x.n else none
def Qaw (v:List Qj):List Int->Option (List Int)
 | []=>some []
 | k::l=>match Qt v k with
   | none=>none
   | some x=>match Qaw v l with
     | none=>none
     | some xs=>some (x::xs)
def IM.push (M:IM) (l:List Qj):IM:={ M with top:={ M.top with v:=M.top.v++l } }
def IM.over (M:IM) (e:Int):IM:={ M with done:=true,fin:=e }
def IM.got (M:IM) (g:Qj × Int × Qc):Option IM:=if g.2.1=14 then some (M.over 6) else if g.2.1=0 then some (IM.push ({ M with h:=g.2.2 }) [g.1]) else none
def IM.mem (M:IM) (x:Qz):Option IM:=match QA M.top.v x.a with
 | none=>none
 | some a =>
   if x.op=4 then (if (M.h.shut a).1 then some { M with h:=(M.h.shut a).2 } else none)
   else if x.op=5 then (match Qp M.top.v x.args with
    | none=>none
    | some l=>M.got (M.h.tuple a l))
   else if x.op=8 then (match Qt M.top.v x.b with
    | none=>none
    | some n=>if n<0\/15<n then some (M.over 3) else M.got (M.h.array a n))
   else if x.op=6 then (if a.kind=3/\(M.h.get a x.k).2=0 then some (M.push [(M.h.get a x.k).1]) else none)
   else if x.op=7 then (match QA M.top.v x.b with
    | none=>none
    | some y=>if a.kind=3/\(M.h.set a x.k y).1=0 then some { M with h:=(M.h.set a x.k y).2 } else none)
   else if x.op=9 then (match Qt M.top.v x.b with
    | none=>none
    | some n=>if a.kind=4 then (if (M.h.get a n).2=1 then some (M.over 2) else if (M.h.get a n).2=0 then some (M.push [(M.h.get a n).1]) else none) else none)
   else if x.op=10 then (match Qt M.top.v x.b with
    | none=>none
    | some n=>match Qt M.top.v x.c with
      | none=>none
      | some z=>if a.kind=4 then (if (M.h.set a n (Qa8 z)).1=1 then some (M.over 2) else if (M.h.set a n (Qa8 z)).1=0 then some { M with h:=(M.h.set a n (Qa8 z)).2 } else none) else none)
   else (if a.kind=4/\(M.h.len a).2=0 then some (M.push [Qa8 (M.h.len a).1]) else none)
def IM.call (m:List (Qe 6)) (M:IM) (x:Qz):Option IM:=match Zb M.top.r x.regs with
 | none=>none
 | some r=>match Qp M.top.v x.args with
   | none=>none
   | some v=>match m[x.k.toNat]? with
     | none=>none
     | some g=>if (r.length:Int)=g.regs/\v.length=g.params.length then
      (if M.rest.length+1=40 then some (M.over 5) else some { M with top:=⟨x.k.toNat,0,0,v,r⟩,rest:=M.top::M.rest })
      else none
def IM.ins (m:List (Qe 6)) (op:Int->Int->Int->Option Int) (M:IM) (x:Qz):Option IM :=
 if x.op=1 then some (M.push [Qa8 x.n])
 else if x.op=2 then (match Qt M.top.v x.a with
  | none=>none
  | some a=>match Qt M.top.v x.b with
    | none=>none
    | some b=>match op x.k a b with
      | none=>some (M.over 1)
      | some n=>some (M.push [Qa8 n]))
 else if x.op=3 then (if M.h.open_.2.1 then some (IM.push { M with h:=M.h.open_.2.2,top:={ M.top with r:=M.top.r++[M.h.open_.1.region] } } [M.h.open_.1]) else some (M.over 6))
 else if x.op=12 then (match M.inp with
  | []=>some (M.over 4)
  | n::l=>some (IM.push { M with inp:=l } [Qa8 n]))
 else if x.op=13 then (match Qt M.top.v x.a with
  | none=>none
  | some n=>if M.out.length=2000 then some (M.over 8) else some { M with out:=M.out++[n] })
 else if x.op=14 then M.call m x
 else M.mem x
def IM.to (fn:Qe 6) (M:IM) (t:MTo):Option IM:=match fn.blocks[t.block.toNat]? with
 | none=>none
 | some b=>match Zb M.top.r t.regs with
   | none=>none
   | some r=>match Qp M.top.v t.args with
     | none=>none
     | some v=>if (r.length:Int)=b.regs/\v.length=b.params.length then some { M with top:=⟨M.top.f,t.block.toNat,0,v,r⟩ } else none
def IM.endd (fn:Qe 6) (M:IM) (e:Qax):Option IM :=
 if e.op=1 then M.to fn e.yes
 else if e.op=2 then (match Qt M.top.v e.a with
  | none=>none
  | some n=>if n=0 then M.to fn e.no else M.to fn e.yes)
 else (match Qp M.top.v e.args with
  | none=>none
  | some v=>if v.length=fn.results.length then (match M.rest with
   | d::rest=>some (IM.push { M with top:=d,rest:=rest } v)
   | []=>match Qaw M.top.v e.args with
     | none=>none
     | some n=>some (IM.over { M with back:=n } 0))
   else none)
def IM.step (m:List (Qe 6)) (op:Int->Int->Int->Option Int) (most:Nat) (M:IM):Option IM :=
 if M.fuel=most then some (M.over 7)
 else match m[M.top.f]? with
  | none=>none
  | some fn=>match fn.blocks[M.top.b]? with
    | none=>none
    | some bl=>match bl.code[M.top.i]? with
      | some x=>IM.ins m op { M with fuel:=M.fuel+1,top:={ M.top with i:=M.top.i+1 } } x
      | none=>IM.endd fn { M with fuel:=M.fuel+1 } bl.fin
def IM.start (inp:List Int) (pages:Nat):IM:=⟨Qc.new pages,⟨0,0,0,[],[]⟩,[],inp,[],[],0,0,false⟩
theorem XP:type_of% @List.getElem?_append_left:=@List.getElem?_append_left
theorem Qc.at_some {h:Qc}{v:Qj}{p:Qi}(e:h.at v=some p):v.kind=2/\h.place v.region=some p/\∃ k:Nat,v.region=k/\h.L[k]?=some p/\p.there=true:=by
 unfold Qc.at at e;split at e
 ·rename_i c
  obtain⟨b,f,d⟩:=Qc.place_some e
  obtain⟨k,a⟩:=Xc b
  exact⟨c,e,k,a,by rwa [a,XT] at f,d⟩
 ·cases e
def Qi.roomed (p:Qi) (words:Int):Qi:=if p.tight words then { p with pages:=p.pages+1,used:=words } else { p with used:=p.used+words }
def Qc.roomLeft (h:Qc) (p:Qi) (words:Int):Nat:=if p.tight words then h.left - 1 else h.left
theorem Qi.roomed_l (p:Qi) (words:Int):(p.roomed words).l=p.l:=by unfold Qi.roomed;split<;>rfl
theorem Qi.roomed_there (p:Qi) (words:Int):(p.roomed words).there=p.there:=by unfold Qi.roomed;split<;>rfl
theorem Qi.more_eq (p:Qi) (t:Qq) (words:Int):p.more t words={ p.roomed words with l:=(p.roomed words).l++[t] }:=by unfold Qi.more Qi.roomed;split<;>rfl
theorem HOk.of {T:Nat}{h:Qc}(K:HOk N T h){v:Qj}{p:Qi}(b:h.at v=some p):p.l.length<=N/\0<=p.used/\p.used<=N/\h.left+p.pages<=T:=by
 obtain⟨_,_,k,_,a,_⟩:=Qc.at_some b
 have:=Qh2 a
 have:=K.pages
 have:=K.used k p a
 exact⟨K.things k p a,this.1,this.2,by omega⟩
theorem Qc.tuple_none {h:Qc}{v:Qj}(l:List Qj) (a:h.at v=none):h.tuple v l=(noV,20,h):=by unfold Qc.tuple Qc.put;rw[a]
theorem Qc.put_full {h:Qc}{v:Qj}{p:Qi}(t:Qq) (words:Int) (b:h.at v=some p) (c:p.tight words=true) (a:h.left=0):h.put v t words=(noV,14,h):=by unfold Qc.put;rw[b];simp[c,a]
theorem Qc.put_ok {h:Qc}{v:Qj}{p:Qi}(t:Qq) (words:Int) (b:h.at v=some p) (a:v.region=k) (c:¬ (p.tight words=true/\h.left=0)) :
 h.put v t words=(⟨t.knd,k,p.l.length,0⟩,0,⟨h.L.set k { p.roomed words with l:=p.l++[t] },h.roomLeft p words⟩):=by
 unfold Qc.put;rw[b]
 simp only
 rw[Xr c,a,XT,Qi.more_eq,Qi.roomed_l]
 rfl
theorem Qc.thing_iff {h:Qc}{v:Qj}{t:Qq}:h.thing v=some t↔(v.kind=3\/v.kind=4)/\∃ p,h.place v.region=some p/\0<=v.thing/\p.l[v.thing.toNat]?=some t/\t.arr=decide (v.kind=4):=by
 unfold Qc.thing;constructor
 ·intro e;split at e
  ·rename_i d
   split at e
   ·cases e
   ·rename_i p b
    split at e
    ·cases e
    ·rename_i f
     split at e
     ·cases e
     ·rename_i u c
      split at e
      ·rename_i a;cases e;exact⟨d,p,b,by omega,c,a⟩
      ·cases e
  ·cases e
 ·rintro ⟨d,p,b,f,c,a⟩;rw[Xs d]
  simp only[b,c]
  rw[Xr (by omega),Xs a]
def Qat (h h':Qc):Prop:=∀ (k:Int) (p:Qi),h.place k=some p->∃ p':Qi,h'.place k=some p'/\∀ (i:Nat) (t:Qq),p.l[i]?=some t->p'.l[i]?=some t
theorem Qat.thing {h h':Qc}(g:Qat h h'){v:Qj}{t:Qq}(e:h.thing v=some t):h'.thing v=some t:=by
 obtain⟨j,p,c,i,f,b⟩:=Qc.thing_iff.1 e
 obtain⟨d,a,k⟩:=g _ p c
 exact Qc.thing_iff.2 ⟨j,d,a,i,k _ t f,b⟩
theorem Qat.at {h h':Qc}(g:Qat h h'){v:Qj}{p:Qi}(e:h.at v=some p):∃ p',h'.at v=some p':=by
 obtain⟨b,c,-⟩:=Qc.at_some e
 obtain⟨p',a,-⟩:=g _ p c
 exact⟨p',by unfold Qc.at;rw[Xs b];exact a⟩
theorem Qat.refl (h:Qc):Qat h h:=fun k p a=>⟨p,a,fun _ _ h=>h⟩
theorem Qat.open (h:Qc):Qat h h.open_.2.2:=by
 intro k p a;unfold Qc.open_;split
 ·exact⟨p,a,fun _ _ h=>h⟩
 ·refine⟨p,?_,fun _ _ h=>h⟩
  rw[Qc.place_push]
  obtain⟨c,b,d⟩:=Qc.place_some a
  have:=(Zi b).1
  rw[Xr (by omega)]
  exact a
theorem Qat.put (h:Qc) (v:Qj) (t:Qq) (words:Int):Qat h (h.put v t words).2.2:=by
 intro k p a;unfold Qc.put
 cases ha:h.at v with
 | none=>exact⟨p,a,fun _ _ h=>h⟩
 | some q =>
   simp only
   split
   ·exact⟨p,a,fun _ _ h=>h⟩
   ·obtain⟨s,r,j,n,f,c⟩:=Qc.at_some ha
    have d:=(Zi f).1;rw[n,XT,Qc.place_set d]
    by_cases e:k=j
    ·rw[Xs e]
     have b:p=q:=by rw[e,<-n,r] at a;exact(Xn a).symm
     subst b;have g:(p.more t words).there=true:=by unfold Qi.more;split<;>exact c
     rw[Xs g]
     refine⟨_,Z,fun i u m=>?_⟩
     have o:(p.more t words).l=p.l++[t]:=by unfold Qi.more;split<;>rfl
     rw[o,XP (Zi m).1]
     exact m
    ·rw[Xr e];exact⟨p,a,fun _ _ h=>h⟩
theorem Qat.tuple (h:Qc) (v:Qj) (l:List Qj):Qat h (h.tuple v l).2.2:=Qat.put h v _ _
theorem Qc.put_code {h:Qc}{v:Qj}{t:Qq}{p:Qi}(a:h.at v=some p):(h.put v t words).2.1=0\/((h.put v t words).2.1=14/\(h.put v t words).2.2=h/\(h.put v t words).1=noV):=by
 by_cases e:p.tight words=true/\h.left=0
 ·rw[Qc.put_full t words a e.1 e.2];exact .inr ⟨Z,Z,Z⟩
 ·obtain⟨f,g,j,d,c,b⟩:=Qc.at_some a
  rw[Qc.put_ok t words a d e];exact .inl Z
def Qc0 (N:Nat) (h:Qc):Prop:=∀ (k:Nat) (p:Qi) (i:Nat) (t:Qq),h.L[k]?=some p->p.l[i]?=some t->t.l.length<=N
theorem HOk.mono {b T:Nat}{h:Qc}(K:HOk N T h) (c:N<=b):HOk b T h:=⟨Zt K.len c,fun k p a=>Zt (K.things k p a) c,fun k p a=>⟨(K.used k p a).1,by have:=(K.used k p a).2;omega⟩,K.pages⟩
theorem HOk.new (n:Nat):HOk 0 n (Qc.new n):=⟨by simp[Qc.new],fun k p h=>by simp[Qc.new] at h,fun k p h=>by simp[Qc.new] at h,by simp[Qc.new]⟩
theorem Qe0 {l:List Qi}{q p:Qi}(e:(l++[q])[j]?=some p):p=q\/l[j]?=some p:=by
 rcases Nat.lt_or_ge j l.length with h | h
 ·rw[XP h] at e;exact .inr e
 ·rw[XQ h] at e
  have:=(Zi e).1
  have:j - l.length=0:=by simp at this;omega
  rw[this] at e;simp at e;exact .inl e.symm
theorem HOk.open {T:Nat}{h:Qc}(K:HOk N T h):HOk (N+1) T h.open_.2.2:=by
 unfold Qc.open_;split
 ·exact K.mono (Nat.le_succ _)
 ·refine⟨by simp;exact K.len,fun k p a=>?_,fun k p a=>?_,?_⟩
  ·rcases Qe0 a with e | e
   ·subst e;simp[newP]
   ·exact Nat.le_succ_of_le (K.things k p e)
  ·rcases Qe0 a with e | e
   ·subst e;simp[newP];omega
   ·have:=K.used k p e;omega
  ·have:=K.pages;simp[newP];exact this
theorem HOk.shut {T:Nat}{h:Qc}(K:HOk N T h) (v:Qj):HOk N T (h.shut v).2:=by
 unfold Qc.shut
 cases ha:h.at v with
 | none=>exact K
 | some p =>
   obtain⟨f,a,j,d,b,c⟩:=Qc.at_some ha
   simp only[d,Int.toNat_natCast]
   refine⟨by simpa using K.len,fun k q a=>?_,fun k q a=>?_,?_⟩
   ·rcases Qbd a with e | e
    ·subst e;simp[noP]
    ·exact K.things k q e
   ·rcases Qbd a with e | e
    ·subst e;simp[noP]
    ·exact K.used k q e
   ·have l:=sum_set h.L j p noP b;have g:=K.pages;have i:noP.pages=0:=rfl;show h.left+p.pages+((h.L.set j noP).map (·.pages)).sum<=T;omega
theorem HOk.put {T:Nat}{h:Qc}(K:HOk N T h) (v:Qj) (t:Qq){M:Nat}(n:0<=words/\words<=M):HOk (N+M+1) T (h.put v t words).2.2:=by
 cases ha:h.at v with
 | none=>rw[show h.put v t words=(noV,20,h) by unfold Qc.put;rw[ha]];exact K.mono (by omega)
 | some p =>
   obtain⟨o,d,j,g,a,f⟩:=Qc.at_some ha
   by_cases e:p.tight words=true/\h.left=0
   ·rw[Qc.put_full t words ha e.1 e.2];exact K.mono (by omega)
   ·rw[Qc.put_ok t words ha g e]
    have m:=K.used j p a;refine⟨by simp;have:=K.len;omega,fun k q d=>?_,fun k q d=>?_,?_⟩
    ·rcases Qbd d with b | b
     ·subst b;simp;have:=K.things j p a;omega
     ·have:=K.things k q b;omega
    ·rcases Qbd d with b | b
     ·subst b;show 0<=(p.roomed words).used/\(p.roomed words).used<=_;unfold Qi.roomed;split
      ·simp only;omega
      ·simp only;omega
     ·have:=K.used k q b;omega
    ·have c:=sum_set h.L j p { p.roomed words with l:=p.l++[t] } a;have s:=K.pages;have r:=Qh2 a;show h.roomLeft p words+((h.L.set j { p.roomed words with l:=p.l++[t] }).map (·.pages)).sum<=T;have i:({ p.roomed words with l:=p.l++[t] }:Qi).pages=(p.roomed words).pages:=rfl;rw[i] at c
     unfold Qc.roomLeft Qi.roomed at *
     cases htt:p.tight words with
     | true =>
       rw[htt] at c
       simp only[if_true] at c |-
       have:h.left≠0:=fun b=>e ⟨htt,b⟩
       omega
     | false =>
       rw[htt] at c
       simp only[Bool.false_eq_true,if_false] at c |-
       omega
theorem Qc0.mono {a:Nat}{h:Qc}(K:Qc0 N h) (c:N<=a):Qc0 a h:=fun k p i t d b=>Zt (K k p i t d b) c
theorem Qc0.new (N n:Nat):Qc0 N (Qc.new n):=fun k p i t h=>by simp[Qc.new] at h
theorem Qc0.open {h:Qc}(K:Qc0 N h):Qc0 N h.open_.2.2:=by
 unfold Qc.open_;split
 ·exact K
 ·intro k p i t b a;rcases Qe0 b with e | e
  ·subst e;simp[newP] at a
  ·exact K k p i t e a
theorem Qc0.shut {h:Qc}(K:Qc0 N h) (v:Qj):Qc0 N (h.shut v).2:=by
 unfold Qc.shut
 cases ha:h.at v with
 | none=>exact K
 | some q =>
   intro k p i t b a;rcases Qbd b with e | e
   ·subst e;simp[noP] at a
   ·exact K k p i t e a
theorem Qc0.put {h:Qc}(K:Qc0 N h) (v:Qj) (t:Qq) (words:Int) (m:t.l.length<=N):Qc0 N (h.put v t words).2.2:=by
 cases ha:h.at v with
 | none=>rw[show h.put v t words=(noV,20,h) by unfold Qc.put;rw[ha]];exact K
 | some p =>
   obtain⟨o,f,j,n,b,g⟩:=Qc.at_some ha
   by_cases e:p.tight words=true/\h.left=0
   ·rw[Qc.put_full t words ha e.1 e.2];exact K
   ·rw[Qc.put_ok t words ha n e]
    intro k q i u f a;rcases Qbd f with c | c
    ·subst c;simp only at a
     rcases Nat.lt_or_ge i p.l.length with d | d
     ·rw[XP d] at a;exact K j p i u b a
     ·rw[XQ d] at a
      have:=(Zi a).1
      have:i - p.l.length=0:=by simp at this;omega
      rw[this] at a;simp at a;subst a;exact m
    ·exact K k q i u c a
theorem Qc0.thing {h:Qc}(K:Qc0 N h){v:Qj}{t:Qq}(e:h.thing v=some t):t.l.length<=N:=by
 obtain⟨-,p,a,-,b,-⟩:=Qc.thing_iff.1 e
 exact K _ p _ t (Qc.place_some a).2.1 b
theorem QjY {h:Qc}(a:h.live<=16):h.open_.2.2.live<=16:=by
 unfold Qc.open_;split
 ·exact a
 ·rw[Qc.live_push];omega
theorem QfL {h:Qc}(v:Qj) (t:Qq) (words:Int):(h.put v t words).2.2.live=h.live:=by
 cases ha:h.at v with
 | none=>rw[show h.put v t words=(noV,20,h) by unfold Qc.put;rw[ha]]
 | some p =>
   obtain⟨g,i,j,d,b,a⟩:=Qc.at_some ha
   by_cases e:p.tight words=true/\h.left=0
   ·rw[Qc.put_full t words ha e.1 e.2]
   ·rw[Qc.put_ok t words ha d e]
    have c:=Qc.live_set (h:=h) (q:={ p.roomed words with l:=p.l++[t] }) b (h.roomLeft p words);have f:({ p.roomed words with l:=p.l++[t] }:Qi).there=true:=by show (p.roomed words).there=true;rw[Qi.roomed_there];exact a
    rw[a,f] at c
    simpa using c
def Qc.up (k:Nat) (h:Qc):Qc:=⟨h.L,h.left+k⟩
def IM.up (k:Nat) (M:IM):IM:={ M with h:=M.h.up k }
def UpO (k:Nat) (o o':Option IM):Prop:=match o with
 | none=>o'=none
 | some N=>(N.done=true/\N.fin=6)\/o'=some (N.up k)
section
variable {k:Nat}{h:Qc}{v y:Qj}{M N:IM}{o o':Option IM}{m:List (Qe 6)}{op:Int->Int->Int->Option Int}{x:Qz}{fn:Qe 6}
theorem UpO.eq:UpO k (some N) (some (N.up k)):=.inr Z
theorem UpO.full:UpO k (some (M.over 6)) o':=.inl ⟨Z,Z⟩
theorem UpO.ite {c:Prop}[Decidable c] {a f b e:Option IM}(h:c->UpO k a f) (g:¬ c->UpO k b e):UpO k (if c then a else b) (if c then f else e):=by
 by_cases d:c
 ·rw[Xs d,Xs d];exact h d
 ·rw[Xr d,Xr d];exact g d
theorem QkN {i:Int}:(h.up k).set v i y=((h.set v i y).1,(h.set v i y).2.up k):=by
 unfold Qc.set;have a:(h.up k).thing v=h.thing v:=rfl;have b:(h.up k).place v.region=h.place v.region:=rfl;rw[a,b]
 cases h.thing v with
 | none=>rfl
 | some t=>cases h.place v.region with
   | none=>rfl
   | some p =>
     simp only
     split
     ·rfl
     ·split
      ·rfl
      ·rfl
theorem open_up:(h.up k).open_=(h.open_.1,h.open_.2.1,h.open_.2.2.up k):=by
 unfold Qc.open_;have e:(h.up k).live=h.live:=rfl;rw[e]
 split<;>rfl
theorem shut_up:(h.up k).shut v=((h.shut v).1,(h.shut v).2.up k):=by
 unfold Qc.shut;have e:(h.up k).at v=h.at v:=rfl;rw[e]
 cases h.at v with
 | none=>rfl
 | some p =>
   show (true,(⟨h.L.set v.region.toNat noP,h.left+k+p.pages⟩:Qc))=(true,⟨h.L.set v.region.toNat noP,h.left+p.pages+k⟩);rw[Nat.add_right_comm]
theorem QkC {t:Qq}(hn:(h.put v t words).2.1≠14):(h.up k).put v t words=((h.put v t words).1,(h.put v t words).2.1,(h.put v t words).2.2.up k):=by
 unfold Qc.put at hn |-;have e:(h.up k).at v=h.at v:=rfl;rw[e]
 cases ha:h.at v with
 | none=>rfl
 | some p =>
   rw[ha] at hn
   simp only at hn |-
   by_cases b:p.tight words=true/\h.left=0
   ·rw[Xs b] at hn;exact absurd Z hn
   ·have c:¬ (p.tight words=true/\(h.up k).left=0):=fun e=>b ⟨e.1,by have:h.left+k=0:=e.2;omega⟩;rw[Xr b,Xr c]
    have:(if p.tight words=true then (h.up k).left - 1 else (h.up k).left)=(if p.tight words=true then h.left - 1 else h.left)+k:=by
     show (if p.tight words=true then h.left+k - 1 else h.left+k)=_;by_cases a:p.tight words=true
     ·rw[Xs a,Xs a];have:h.left≠0:=fun e=>b ⟨a,e⟩;omega
     ·rw[Xr a,Xr a]
    rw[this]
    rfl
theorem Qjq {t:Qq}:UpO k (M.got (M.h.put v t words)) ((M.up k).got ((M.h.up k).put v t words)):=by
 by_cases a:(M.h.put v t words).2.1=14
 ·unfold IM.got;rw[Xs a]
  exact UpO.full
 ·rw[QkC a]
  unfold IM.got;simp only
  rw[Xr a,Xr a]
  exact UpO.ite (fun _=>UpO.eq) (fun _=>rfl)
theorem QiS {l:List Qj}:UpO k (M.got (M.h.tuple v l)) ((M.up k).got ((M.h.up k).tuple v l)):=Qjq
theorem Qil {n:Int}:UpO k (M.got (M.h.array v n)) ((M.up k).got ((M.h.up k).array v n)):=by
 unfold Qc.array;by_cases a:n<0\/15<n
 ·rw[Xs a,Xs a]
  rfl
 ·rw[Xr a,Xr a];exact Qjq
theorem mem_up:UpO k (M.mem x) ((M.up k).mem x):=by
 unfold IM.mem;have e:(M.up k).top=M.top:=rfl;have g:(M.up k).h=M.h.up k:=rfl;have d:∀ a i,(M.h.up k).get a i=M.h.get a i:=fun _ _=>rfl;have f:∀ a,(M.h.up k).len a=M.h.len a:=fun _=>rfl;rw[e,g]
 cases QA M.top.v x.a with
 | none=>rfl
 | some a =>
   simp only[d,f,shut_up,QkN]
   refine UpO.ite (fun _=>UpO.ite (fun _=>UpO.eq) (fun _=>rfl)) fun _=>UpO.ite (fun _=>?_) fun _=>UpO.ite (fun _=>?_) fun _=>UpO.ite (fun _=>UpO.ite (fun _=>UpO.eq) (fun _=>rfl)) fun _=>UpO.ite (fun _=>?_) fun _=>UpO.ite (fun _=>?_) fun _=>UpO.ite (fun _=>?_) fun _=>UpO.ite (fun _=>UpO.eq) (fun _=>rfl)
   ·cases Qp M.top.v x.args with
    | none=>rfl
    | some l=>exact QiS
   ·cases Qt M.top.v x.b with
    | none=>rfl
    | some n=>exact UpO.ite (fun _=>UpO.eq) (fun _=>Qil)
   ·cases QA M.top.v x.b with
    | none=>rfl
    | some y=>exact UpO.ite (fun _=>UpO.eq) (fun _=>rfl)
   ·cases Qt M.top.v x.b with
    | none=>rfl
    | some n=>exact UpO.ite (fun _=>UpO.ite (fun _=>UpO.eq) fun _=>UpO.ite (fun _=>UpO.eq) (fun _=>rfl)) (fun _=>rfl)
   ·cases Qt M.top.v x.b with
    | none=>rfl
    | some n=>cases Qt M.top.v x.c with
      | none=>rfl
      | some z=>exact UpO.ite (fun _=>UpO.ite (fun _=>UpO.eq) fun _=>UpO.ite (fun _=>UpO.eq) (fun _=>rfl)) (fun _=>rfl)
theorem call_up:UpO k (M.call m x) ((M.up k).call m x):=by
 unfold IM.call;have a:(M.up k).top=M.top:=rfl;rw[a]
 cases Zb M.top.r x.regs with
 | none=>rfl
 | some r=>cases Qp M.top.v x.args with
   | none=>rfl
   | some v=>cases m[x.k.toNat]? with
     | none=>rfl
     | some g=>exact UpO.ite (fun _=>UpO.ite (fun _=>UpO.eq) (fun _=>UpO.eq)) (fun _=>rfl)
theorem ins_up:UpO k (IM.ins m op M x) (IM.ins m op (M.up k) x):=by
 unfold IM.ins;have d:(M.up k).top=M.top:=rfl;have e:(M.up k).h=M.h.up k:=rfl;have c:(M.up k).inp=M.inp:=rfl;simp only[d,e,c,open_up]
 refine UpO.ite (fun _=>UpO.eq) fun _=>UpO.ite (fun _=>?_) fun _=>UpO.ite (fun _=>UpO.ite (fun _=>UpO.eq) (fun _=>UpO.full)) fun _=>UpO.ite (fun _=>?_) fun _=>UpO.ite (fun _=>?_) fun _=>UpO.ite (fun _=>call_up) (fun _=>mem_up)
 ·cases Qt M.top.v x.a with
  | none=>rfl
  | some a=>cases Qt M.top.v x.b with
    | none=>rfl
    | some b =>
      simp only
      cases op x.k a b with
      | none=>exact UpO.eq
      | some n=>exact UpO.eq
 ·cases M.inp with
  | nil=>exact UpO.eq
  | cons n l=>exact UpO.eq
 ·cases Qt M.top.v x.a with
  | none=>rfl
  | some n=>exact UpO.ite (fun _=>UpO.eq) (fun _=>UpO.eq)
theorem Qke {t:MTo}:UpO k (IM.to fn M t) (IM.to fn (M.up k) t):=by
 unfold IM.to;have a:(M.up k).top=M.top:=rfl;rw[a]
 cases fn.blocks[t.block.toNat]? with
 | none=>rfl
 | some b=>cases Zb M.top.r t.regs with
   | none=>rfl
   | some r=>cases Qp M.top.v t.args with
     | none=>rfl
     | some v=>exact UpO.ite (fun _=>UpO.eq) (fun _=>rfl)
theorem QjN {e:Qax}:UpO k (IM.endd fn M e) (IM.endd fn (M.up k) e):=by
 unfold IM.endd;have b:(M.up k).top=M.top:=rfl;have c:(M.up k).rest=M.rest:=rfl;simp only[b,c]
 refine UpO.ite (fun _=>Qke) fun _=>UpO.ite (fun _=>?_) fun _=>?_
 ·cases Qt M.top.v e.a with
  | none=>rfl
  | some n=>exact UpO.ite (fun _=>Qke) (fun _=>Qke)
 ·cases Qp M.top.v e.args with
  | none=>rfl
  | some v =>
    refine UpO.ite (fun _=>?_) (fun _=>rfl)
    cases M.rest with
    | cons d rest=>exact UpO.eq
    | nil=>cases Qaw M.top.v e.args with
      | none=>rfl
      | some n=>exact UpO.eq
theorem Qkh {a:Nat}(g:M.fuel<most) (e:most<=a):UpO k (IM.step m op most M) (IM.step m op a (M.up k)):=by
 unfold IM.step;have d:(M.up k).fuel=M.fuel:=rfl;have c:(M.up k).top=M.top:=rfl;rw[d,c,Xr (by omega),Xr (by omega)]
 cases m[M.top.f]? with
 | none=>rfl
 | some fn =>
   simp only
   cases fn.blocks[M.top.b]? with
   | none=>rfl
   | some bl =>
     simp only
     cases bl.code[M.top.i]? with
     | none=>exact QjN
     | some x=>exact ins_up
end
theorem Qd1 {a:Nat->Int}{t u:TT (n+1)}(h:t.ren m a=some u):u.1=t.1/\QgJ m a t.1 t.2.1=some u.2.1/\Qgx (TT.ren m a) t.2.2=some u.2.2:=by
 simp only[TT.ren] at h
 cases e1:QgJ m a t.1 t.2.1 with
 | none=>simp[e1] at h
 | some r1 =>
   simp only[e1] at h
   cases e2:Qgx (TT.ren m a) t.2.2 with
   | none=>simp[e2] at h
   | some l1 =>
     simp only[e2] at h
     have h:=Xn h;subst h;exact⟨Z,Z,Z⟩
structure QiA (k m:Nat) (th bk on both:Nat->Int):Prop where
 hk:k<16
 hth:∀ j,j<16->th j=((j+k)%16:Nat)
 hbk:∀ j,j<16->bk ((j+k)%16)=(j:Int)
 hon:∀ j,j<16->on j=((j*3+m)%16:Nat)
 hboth:∀ j,j<16->both j=on ((j+k)%16)
section
theorem Qiq {d:Nat->Int}(f:∀ j,j<16->0<=d j){x r c:Int}:QgJ 16 d x r=some c↔(x=1/\c=r)\/(x≠1/\∃ j:Nat,j<16/\r=j/\c=d j):=by
 unfold QgJ;by_cases a:x=1
 ·simp[a,eq_comm]
 ·rw[Xr a]
  by_cases e:r<0\/((16:Nat):Int)<=r
  ·rw[Xs e]
   constructor
   ·intro h;cases h
   ·rintro (⟨h,_⟩|⟨_,j,b,rfl,_⟩)
    ·exact absurd h a
    ·omega
  ·rw[Xr e]
   obtain⟨j,rfl⟩:=Xc (show 0<=r by omega)
   have b:j<16:=by omega
   have g:((j:Int)).toNat=j:=by simp
   rw[g,Xr (by have:=f j b;omega)]
   constructor
   ·intro h;cases h;exact Or.inr ⟨a,j,b,Z,Z⟩
   ·rintro (⟨h,_⟩|⟨_,i,l,k,rfl⟩)
    ·exact absurd h a
    ·have:i=j:=by omega
     rw[this]
theorem Qkz (k j:Nat):(j+k)%16<16:=Nat.mod_lt _ (by omega)
end
theorem QiA.pos {e d on a:Nat->Int}(N:QiA k m e d on a):(∀ j,j<16->0<=e j)/\(∀ j,j<16->0<=d j)/\(∀ j,j<16->0<=on j)/\(∀ j,j<16->0<=a j):=by
 have c:∀ j,j<16->0<=on j:=fun j b=>by rw[N.hon j b];omega
 refine⟨fun j b=>by rw[N.hth j b];omega,fun j b=>?_,c,fun j b=>by rw[N.hboth j b];exact c _ (Qkz k j)⟩
 have f:=N.hk
 have:((j+16 - k)%16+k)%16=j:=by omega
 rw[<-this,N.hbk ((j+16 - k)%16) (Nat.mod_lt _ (by omega))]
 omega
theorem QiA.own {b f on a:Nat->Int}(N:QiA k m b f on a) (x r c:Int) (len:Nat) (h:QgJ 16 b x r=some c):ownC x c len 16=ownC x r len 16:=by
 rw[Qiq N.pos.1] at h
 rcases h with ⟨d,rfl⟩|⟨d,j,e,rfl,rfl⟩
 ·rfl
 ·have i:=N.hth j e;have l:=Qkz k j;unfold ownC
  have g:(x≠1/\(b j<0\/(16:Int)<=b j))↔(x≠1/\((j:Int)<0\/(16:Int)<=(j:Int))):=by
   constructor<;>rintro ⟨_,h⟩<;>omega
  simp only[g,d,false_and]
abbrev Sig:=Int->Nat->Option (TT 6)
def Qeb (s:Sig) (x:Qj) (t:TT 6):Prop :=
 (t.kind=1/\x.kind=1)\/(t.kind=2/\x.kind=2/\x.region=t.r)\/((t.kind=3\/t.kind=4)/\x.kind=t.kind/\x.region=t.r/\0<=x.thing/\s x.region x.thing.toNat=some t)
def Sig.le (s s':Sig):Prop:=∀ k i t,s k i=some t->s' k i=some t
theorem Qeb.mono {s b:Sig}(h:s.le b){x:Qj}{t:TT 6}(c:Qeb s x t):Qeb b x t:=by
 rcases c with a | a | ⟨a,e,f,d,g⟩
 ·exact .inl a
 ·exact .inr (.inl a)
 ·exact .inr (.inr ⟨a,e,f,d,h _ _ _ g⟩)
def Qbq (s:Sig) (t:Qq) (u:TT 6):Prop :=
 (t.arr=true/\u.kind=4/\∀ (y:Qj),y∈t.l->y.kind=1) \/
 (t.arr=false/\u.kind=3/\t.l.length=u.2.2.length/\∀ (j:Nat) (y:Qj) (w:TT 5),t.l[j]?=some y->u.2.2[j]?=some w->Qeb s y (w.at 5))
theorem Qbq.mono {s b:Sig}(h:s.le b){t:Qq}{u:TT 6}(d:Qbq s t u):Qbq b t u:=by
 rcases d with a | ⟨a,f,g,e⟩
 ·exact .inl a
 ·exact .inr ⟨a,f,g,fun j y w i c=>(e j y w i c).mono h⟩
structure StT (s:Sig) (h:Qc):Prop where
 thing:∀ (k:Int) (p:Qi) (i:Nat) (t:Qq),h.place k=some p->p.l[i]?=some t->∃ u,s k i=some u/\u.r=k/\Qbq s t u
 there:∀ (k:Int) (p:Qi) (i:Nat) (u:TT 6),h.place k=some p->s k i=some u->∃ t,p.l[i]?=some t
 range:∀ (k:Int) (i:Nat) (u:TT 6),s k i=some u->0<=k/\k<h.L.length
theorem StT.new (n:Nat):StT (fun _ _=>none) (Qc.new n):=⟨fun k p i t a=>by unfold Qc.place at a;simp[Qc.new] at a,fun k p i u a h=>(nomatch h),fun k i u h=>(nomatch h)⟩
theorem StT.open {s:Sig}{h:Qc}(S:StT s h):StT s h.open_.2.2:=by
 unfold Qc.open_;split
 ·exact S
 ·have d:=fun j=>Qc.place_push h newP j h.left;refine⟨fun k p i t a f=>?_,fun k p i u a b=>?_,fun k i u b=>?_⟩
  ·rw[d] at a
   by_cases e:k=h.L.length
   ·rw[Xs e] at a
    have c:some newP=some p:=a
    cases c;simp[newP] at f
   ·rw[Xr e] at a;exact S.thing k p i t a f
  ·rw[d] at a
   by_cases e:k=h.L.length
   ·have:=S.range k i u b;omega
   ·rw[Xr e] at a;exact S.there k p i u a b
  ·have:=S.range k i u b
   simp;omega
theorem StT.shut {s:Sig}{h:Qc}(S:StT s h) (v:Qj):StT s (h.shut v).2:=by
 unfold Qc.shut
 cases ha:h.at v with
 | none=>exact S
 | some p =>
   obtain⟨n,o,j,l,d,g⟩:=Qc.at_some ha
   have b:=(Zi d).1;simp only[l,Int.toNat_natCast]
   have f:=fun k=>Qc.place_set b noP (h.left+p.pages) k;refine⟨fun k q i t a m=>?_,fun k q i u a c=>?_,fun k i u c=>?_⟩
   ·rw[f] at a
    by_cases e:k=j
    ·rw[Xs e] at a;simp[noP] at a
    ·rw[Xr e] at a;exact S.thing k q i t a m
   ·rw[f] at a
    by_cases e:k=j
    ·rw[Xs e] at a;simp[noP] at a
    ·rw[Xr e] at a;exact S.there k q i u a c
   ·have:=S.range k i u c;simp;omega
def Sig.add (s:Sig) (k:Int) (i:Nat) (u:TT 6):Sig:=fun k' i'=>if k'=k/\i'=i then some u else s k' i'
theorem Sig.add_le {s:Sig}{k:Int}{u:TT 6}(h:s k i=none):s.le (s.add k i u):=fun c b t a=>by
 unfold Sig.add;rw[Xr (fun e=>by rw[e.1,e.2,h] at a;cases a)];exact a
theorem StT.put {s:Sig}{h:Qc}(S:StT s h){v:Qj}{t:Qq}{p:Qi}{u:TT 6}(G:h.at v=some p) (A:u.r=v.region) (K:Qbq s t u) :
 (∃ s',s.le s'/\StT s' (h.put v t words).2.2/\((h.put v t words).2.1=0->Qeb s' (h.put v t words).1 u)):=by
 obtain⟨O,E,j,c,B,F⟩:=Qc.at_some G
 have D:=(Zi B).1;by_cases e:p.tight words=true/\h.left=0
 ·rw[Qc.put_full t words G e.1 e.2]
  exact⟨s,fun _ _ _ h=>h,S,fun h=>by cases h⟩
 ·rw[Qc.put_ok t words G c e]
  have n:s v.region p.l.length=none:=by
   cases hs:s v.region p.l.length with
   | none=>rfl
   | some w =>
     obtain⟨y,d⟩:=S.there _ p _ w E hs
     have:=(Zi d).1
     omega
  have le:=Sig.add_le (u:=u) n;have M:=fun k=>Qc.place_set D { p.roomed words with l:=p.l++[t] } (h.roomLeft p words) k;have L:(p.roomed words).there=true:=by rw[Qi.roomed_there];exact F
  refine⟨s.add v.region p.l.length u,le,⟨fun k q i y a g=>?_,fun k q i w a f=>?_,fun k i w f=>?_⟩,fun _=>?_⟩
  ·rw[M] at a
   by_cases b:k=j
   ·rw[Xs b] at a
    simp only[L,if_true,Option.some.injEq] at a
    subst a;simp only at g
    rcases Nat.lt_or_ge i p.l.length with J | J
    ·rw[XP J] at g
     obtain⟨w,C,z,H⟩:=S.thing k p i y (by rw[b,<-c];exact E) g
     exact⟨w,le _ _ _ C,z,H.mono le⟩
    ·rw[XQ J] at g
     have:=(Zi g).1
     have N:i - p.l.length=0:=by simp at this;omega
     rw[N] at g;simp at g;subst g
     refine⟨u,?_,by rw[A,c,b],K.mono le⟩
     unfold Sig.add;rw[Xs ⟨by rw[c,b],by omega⟩]
   ·rw[Xr b] at a
    obtain⟨w,C,z,H⟩:=S.thing k q i y a g
    exact⟨w,le _ _ _ C,z,H.mono le⟩
  ·rw[M] at a
   unfold Sig.add at f;by_cases b:k=j
   ·rw[Xs b] at a
    simp only[L,if_true,Option.some.injEq] at a
    subst a;by_cases x:k=v.region/\i=p.l.length
    ·exact⟨t,by simp[x.2]⟩
    ·rw[Xr x] at f
     obtain⟨y,d⟩:=S.there k p i w (by rw[b,<-c];exact E) f
     exact⟨y,by rw[XP (Zi d).1];exact d⟩
   ·rw[Xr (fun e=>b (by rw[e.1,c]))] at f
    rw[Xr b] at a
    exact S.there k q i w a f
  ·unfold Sig.add at f;by_cases x:k=v.region/\i=p.l.length
   ·rw[x.1,c];simp;omega
   ·rw[Xr x] at f
    have:=S.range k i w f;simp;omega
  ·have m:s.add v.region p.l.length u (j:Int) p.l.length=some u:=by unfold Sig.add;rw[Xs ⟨c.symm,Z⟩]
   rcases K with ⟨I,o,-⟩|⟨I,o,-⟩
   ·exact .inr (.inr ⟨.inr o,by rw[o];unfold Qq.knd;rw[I];rfl,by rw[A,c],by simp,by simpa using m⟩)
   ·exact .inr (.inr ⟨.inl o,by rw[o];unfold Qq.knd;rw[I];rfl,by rw[A,c],by simp,by simpa using m⟩)
theorem Qeb.thing {s:Sig}{h:Qc}(S:StT s h){x:Qj}{u:TT 6}(m:Qeb s x u) (n:u.kind=3\/u.kind=4){p:Qi}(e:h.place u.r=some p):∃ t,h.thing x=some t/\Qbq s t u/\x.kind=u.kind:=by
 rcases m with ⟨k,-⟩|⟨k,-⟩|⟨k,b,i,o,j⟩
 ·omega
 ·omega
 ·have a:h.place x.region=some p:=by rw[i];exact e
  obtain⟨t,f⟩:=S.there _ p _ u a j
  obtain⟨w,l,q,g⟩:=S.thing _ p _ t a f
  rw[j] at l;cases l
  refine⟨t,Qc.thing_iff.2 ⟨by rw[b];exact n,p,by rw[i];exact e,o,f,?_⟩,g,b⟩
  rcases g with ⟨c,d,-⟩|⟨c,d,-⟩
  ·rw[c,b,d];rfl
  ·rw[c,b,d];rfl
theorem StT.set {s:Sig}{h:Qc}(S:StT s h){v x:Qj}{t:Qq}{u:TT 6}(E:h.thing v=some t) (R:Qbq s t u) (F:s v.region v.thing.toNat=some u) (J:t.arr=true->x.kind=1) (T:t.arr=false->∀ w,u.2.2[k]?=some w->Qeb s x (w.at 5)) (O:k<t.l.length) :
 (h.set v (k:Int) x).1=0/\StT s (h.set v (k:Int) x).2:=by
 obtain⟨P,p,n,h0,M,W⟩:=Qc.thing_iff.1 E
 obtain⟨X,Q,H⟩:=Qc.place_some n
 have z:=(Zi Q).1
 have e:h.set v (k:Int) x=(0,{ h with L:=h.L.set v.region.toNat { p with l:=p.l.set v.thing.toNat { t with l:=t.l.set k x } } }):=by
  unfold Qc.set;rw[E,n]
  simp only
  rw[Xr (fun e=>e.2 (J e.1)),Xr (by omega),XT]
 rw[e]
 refine⟨Z,?_⟩
 have a:((v.region.toNat:Nat):Int)=v.region:=by omega
 have K:=fun j=>Qc.place_set z { p with l:=p.l.set v.thing.toNat { t with l:=t.l.set k x } } h.left j
 have C:Qbq s { t with l:=t.l.set k x } u:=by
  rcases R with ⟨m,o,B⟩|⟨m,o,B,V⟩
  ·refine .inl ⟨m,o,fun y g=>?_⟩;rcases List.mem_or_eq_of_mem_set g with D | D
   ·exact B y D
   ·rw[D];exact J m
  ·refine .inr ⟨m,o,by simpa using B,fun j y w g f=>?_⟩;simp only at g
   by_cases d:j=k
   ·subst d;simp[O] at g
    subst g;exact T m w f
   ·rw[List.getElem?_set_ne (Ne.symm d)] at g
    exact V j y w g f
 refine⟨fun j q i A b c=>?_,fun j q i w b f=>?_,fun j i w f=>?_⟩
 ·rw[K] at b
  by_cases d:j=v.region.toNat
  ·rw[Xs d] at b
   simp only[H,if_true,Option.some.injEq] at b
   subst b;simp only at c
   by_cases I:i=v.thing.toNat
   ·subst I
    have:=(Zi M).1
    simp[this] at c
    subst c;obtain⟨w,G,N,-⟩:=S.thing v.region p _ t n M
    rw[F] at G;cases G
    exact⟨u,by rw[d,a];exact F,by rw[d,a];exact N,C⟩
   ·rw[List.getElem?_set_ne (Ne.symm I)] at c
    exact S.thing j p i A (by rw[d,a];exact n) c
  ·rw[Xr d] at b;exact S.thing j q i A b c
 ·rw[K] at b
  by_cases d:j=v.region.toNat
  ·rw[Xs d] at b
   simp only[H,if_true,Option.some.injEq] at b
   subst b;obtain⟨A,r⟩:=S.there j p i w (by rw[d,a];exact n) f
   have U:=(Zi r).1;exact⟨_,Zg (by simpa using U)⟩
  ·rw[Xr d] at b;exact S.there j q i w b f
 ·have:=S.range j i w f
  simpa using this
abbrev rtm (r:List Int) (t:TT 6):Option (TT 6):=t.ren r.length (fun i=>r.getD i 0)
structure FrT (g:Sig) (h:Qc) (s:JSt) (v:List Qj) (r:List Int):Prop where
 rl:r.length=s.H.length
 pos:∀ k∈r,0<=k
 held:∀ k,s.H.getD k false=true->∃ p,h.place (r.getD k 0)=some p
 dist:∀ j k,s.H.getD j false=true->s.H.getD k false=true->r.getD j 0=r.getD k 0->j=k
 vl:v.length=s.L.length
 val:∀ (j:Nat) (t:TT 6) (x:Qj),s.L[j]?=some t->v[j]?=some x->∃ u,rtm r t=some u/\Qeb g x u
section
variable {g g':Sig}{h h':Qc}{s:JSt}{v:List Qj}{r:List Int}
theorem FrT.keep (F:FrT g h s v r) (a:g.le g') (b:∀ k,s.H.getD k false=true->∃ p,h'.place (r.getD k 0)=some p):FrT g' h' s v r :=
 ⟨F.rl,F.pos,b,F.dist,F.vl,fun j t x e d=>by obtain⟨u,f,c⟩:=F.val j t x e d;exact⟨u,f,c.mono a⟩⟩
theorem FrT.at (F:FrT g h s v r){k:Int}{t:TT 6}(d:s.at k=some t):∃ x u,QA v k=some x/\rtm r t=some u/\Qeb g x u:=by
 obtain⟨-,f,i,a⟩:=QgN d
 obtain⟨x,b⟩:∃ x,v[k.toNat]?=some x:=⟨_,Zg (by rw[F.vl];omega)⟩
 obtain⟨u,e,c⟩:=F.val _ t x a b
 exact⟨x,u,by unfold QA;rw[Xr (by omega)];exact b,e,c⟩
theorem Qi1 {t u:TT 6}(h:rtm r t=some u):u.kind=t.kind:=(Qd1 h).1
theorem Qln {t u:TT 6}(h:rtm r t=some u) (b:t.kind≠1):0<=t.r/\t.r<r.length/\u.r=r.getD t.r.toNat 0:=by
 have:=(Qd1 h).2.1
 unfold QgJ at this;have a:¬ t.1=1:=b;rw[Xr a] at this
 split at this
 ·cases this
 ·rename_i c
  split at this
  ·cases this
  ·have e:u.2.1=r.getD t.2.1.toNat 0:=(Xn this).symm;show 0<=t.2.1/\t.2.1<r.length/\u.2.1=r.getD t.2.1.toNat 0;exact⟨by omega,by omega,e⟩
theorem Qeb.kind {x:Qj}{u:TT 6}(h:Qeb g x u):x.kind=u.kind:=by
 rcases h with ⟨b,a⟩|⟨b,a,-⟩|⟨-,a,-⟩
 ·rw[b,a]
 ·rw[b,a]
 ·exact a
theorem FrT.want (F:FrT g h s v r){k d:Int}{e:Bool}(o:s.want k d e=0):∃ x t u,s.at k=some t/\QA v k=some x/\rtm r t=some u/\Qeb g x u/\x.kind=d/\t.kind=d/\u.kind=d/\(e=true->d≠1->∃ p,h.place u.r=some p):=by
 obtain⟨t,l,f,w⟩:=Qct o
 obtain⟨x,u,z,i,m⟩:=F.at l
 have n:=Qi1 i;refine⟨x,t,u,l,z,i,m,by rw[m.kind,n,f],f,by rw[n,f],fun y q=>?_⟩
 obtain⟨a,b,c⟩:=Qln i (by rw[f];exact q)
 have j:=w y;unfold QiO at j;simp only[Bool.and_eq_true,decide_eq_true_eq] at j
 rw[c]
 exact F.held _ j.2
theorem FrT.num (F:FrT g h s v r){k:Int}{a:Bool}(b:s.want k 1 a=0):∃ n,Qt v k=some n:=by
 obtain⟨x,t,u,-,c,-,-,d,-⟩:=F.want b
 exact⟨x.n,by unfold Qt;rw[c];simp[d]⟩
theorem FrT.fields (F:FrT g h s v r):∀ {l:List Int}{ts:List (TT 6)},s.fields l=some ts->∃ xs,Qp v l=some xs/\xs.length=ts.length/\∀ (j:Nat) (x:Qj) (t:TT 6),xs[j]?=some x->ts[j]?=some t->∃ u,rtm r t=some u/\Qeb g x u
 | [],ts,e=>by simp[JSt.fields] at e;subst e;exact⟨[],Z,Z,fun j x t n=>by simp at n⟩
 | k::l,ts,e=>by
   simp only[JSt.fields] at e
   cases h1:s.at k with
   | none=>simp[h1] at e
   | some t =>
     simp only[h1] at e
     cases h2:s.fields l with
     | none=>simp[h2] at e
     | some tl =>
       simp only[h2] at e
       cases e
       obtain⟨x,u,c,i,d⟩:=F.at h1
       obtain⟨xs,m,o,f⟩:=F.fields h2
       refine⟨x::xs,by simp only[Qp,c,m],by simp[o],fun j y w b a=>?_⟩
       cases j with
       | zero=>simp at b a;subst b a;exact⟨u,i,d⟩
       | succ j=>exact f j y w (by simpa using b) (by simpa using a)
theorem FrT.push (F:FrT g h s v r){xs:List Qj}{f:List (TT 6)}(l:xs.length=f.length) (k:∀ (j:Nat) (x:Qj) (t:TT 6),xs[j]?=some x->f[j]?=some t->∃ u,rtm r t=some u/\Qeb g x u){e:JSt}(d:e.H=s.H) (i:e.L=s.L++f):FrT g h e (v++xs) r:=by
 refine⟨by rw[d];exact F.rl,F.pos,by rw[d];exact F.held,by rw[d];exact F.dist,by rw[i];simp[F.vl,l],fun j t x b a=>?_⟩
 rw[i] at b
 rcases Nat.lt_or_ge j s.L.length with c | c
 ·rw[XP c] at b
  rw[XP (by rw[F.vl];exact c)] at a
  exact F.val j t x b a
 ·rw[XQ c] at b
  rw[XQ (by rw[F.vl];exact c),F.vl] at a
  exact k _ x t a b
end
def Own (s:JSt) (r:List Int) (k:Int):Prop:=∃ j:Nat,s.H.getD j false=true/\s.f.regs<=j/\r.getD j 0=k
def Stk (m:List (Qe 6)) (g:Sig) (h:Qc):(Int->Prop)->Qe 6->Nat->List Int->List IFr->Prop
 | _,_,gi,_,[]=>gi=0
 | A,fn,gi,cr,d::rest=>∃ fd bl x s,m[d.f]?=some fd/\fd.blocks[d.b]?=some bl/\0<d.i/\bl.code[d.i - 1]?=some x/\x.op=14/\x.k=gi/\s=(JSt.start m fd bl).upto (bl.code.take (d.i - 1))/\FrT g h s d.v d.r /\
  (∀ k:Nat,(k:Int)<fn.regs->cr.getD k 0=d.r.getD (x.regs.getD k 0).toNat 0)/\(∀ k,s.H.getD k false=true->¬ A (d.r.getD k 0))/\Stk m g h (fun k=>A k\/Own s d.r k) fd d.f d.r rest
theorem Stk.keep {m:List (Qe 6)}{g l:Sig}{h h':Qc}(i:g.le l):∀ {rest:List IFr}{A A':Int->Prop}{fn:Qe 6}{gi:Nat}{cr cr':List Int},(∀ k,¬ A k->(∃ p,h.place k=some p)->∃ p,h'.place k=some p)->(∀ k,A' k->A k\/h.place k=none)->(∀ k:Nat,(k:Int)<fn.regs->cr'.getD k 0=cr.getD k 0)->Stk m g h A fn gi cr rest->Stk m l h' A' fn gi cr' rest
 | [],_,_,_,_,_,_,_,_,_,S=>S
 | d::rest,A,A',fn,gi,cr,cr',hp,hA,hc,S=>by
   obtain⟨u,w,x,s,z,t,v,q,r,y,o,F,n,j,f⟩:=S
   refine⟨u,w,x,s,z,t,v,q,r,y,o,F.keep i (fun k a=>hp _ (j k a) (F.held k a)),fun k a=>(hc k a).trans (n k a),fun k a e=>?_,?_⟩
   ·rcases hA _ e with b | b
    ·exact j k a b
    ·obtain⟨p,c⟩:=F.held k a;rw[b] at c;cases c
   ·exact Stk.keep i (fun k a=>hp k (fun e=>a (.inl e))) (fun k a=>by
     rcases a with b | b
     ·exact(hA k b).imp .inl id
     ·exact .inl (.inr b)) (fun k a=>rfl) f
structure Inv (m:List (Qe 6)) (g:Sig) (M:IM) (fn:Qe 6) (bl:Qk 6) (s:JSt):Prop where
 hf:m[M.top.f]?=some fn
 hb:fn.blocks[M.top.b]?=some bl
 hi:M.top.i<=bl.code.length
 hs:s=(JSt.start m fn bl).upto (bl.code.take M.top.i)
 fr:FrT g M.h s M.top.v M.top.r
 st:StT g M.h
 stk:Stk m g M.h (Own s M.top.r) fn M.top.f M.top.r M.rest
def Qli (m:List (Qe 6)) (M:IM):Prop:=M.done=true\/∃ g fn bl s,Inv m g M fn bl s
theorem JSt.upto_mf:∀ (l:List Qz) (s:JSt),(s.upto l).m=s.m/\(s.upto l).f=s.f
 | [],s=>⟨Z,Z⟩
 | x::l,s=>by
   have:=JSt.upto_mf l (s.next x)
   exact this
section
variable {m:List (Qe 6)}{g g':Sig}{M M':IM}{fn:Qe 6}{bl:Qk 6}{s:JSt}{x:Qz}{op:Int->Int->Int->Option Int}
theorem Inv.mf (I:Inv m g M fn bl s):s.m=m/\s.f=fn:=by
 have:=JSt.upto_mf (bl.code.take M.top.i) (JSt.start m fn bl)
 rw[I.hs];exact this
theorem Inv.on (I:Inv m g M fn bl s) (a:bl.code[M.top.i]?=some x) (c:M'.top.f=M.top.f) (hb:M'.top.b=M.top.b) (d:M'.top.i=M.top.i+1) (e:M'.rest=M.rest) (F:FrT g' M'.h (s.next x) M'.top.v M'.top.r) (S:StT g' M'.h) (K:Stk m g' M'.h (Own (s.next x) M'.top.r) fn M.top.f M'.top.r M.rest):Inv m g' M' fn bl (s.next x):=by
 have j:=(Zi a).1;refine⟨by rw[c];exact I.hf,by rw[hb];exact I.hb,by rw[d];omega,?_,F,S,by rw[c,e];exact K⟩
 rw[d,XV,a]
 show s.next x=(JSt.start m fn bl).upto (bl.code.take M.top.i++[x])
 rw[JSt.upto_snoc,<-I.hs]
theorem Inv.val (I:Inv m g M fn bl s) (C:bl.code[M.top.i]?=some x) (q:x.op≠3) (o:x.op≠4) (E:M'.top.f=M.top.f) (hb:M'.top.b=M.top.b) (H:M'.top.i=M.top.i+1) (A:M'.rest=M.rest) (a:M'.top.r=M.top.r) (l:g.le g') (n:∀ k p,M.h.place k=some p->∃ p,M'.h.place k=some p) (S:StT g' M'.h){xs:List Qj}(D:M'.top.v=M.top.v++xs) (G:xs.length=(s.makes x).2.length)
 (d:∀ (j:Nat) (y:Qj) (t:TT 6),xs[j]?=some y->(s.makes x).2[j]?=some t->∃ u,rtm M.top.r t=some u/\Qeb g' y u):Qli m M':=by
 refine .inr ⟨g',fn,bl,_,I.on C E hb H A ?_ S ?_⟩
 ·rw[a,D]
  have F:FrT g' M'.h s M.top.v M.top.r:=I.fr.keep l (fun k c=>by obtain⟨p,e⟩:=I.fr.held k c;exact n _ p e);exact F.push G d (Qdj q o) Z
 ·rw[a]
  refine I.stk.keep l (fun k _ ⟨p,e⟩=>n k p e) (fun k c=>?_) (fun k _=>rfl);obtain⟨j,w,z,B⟩:=c
  exact .inl ⟨j,by rw[<-Qdj q o (s:=s)];exact w,z,B⟩
theorem Inv.one (I:Inv m g M fn bl s) (q:bl.code[M.top.i]?=some x) (C:x.op≠3) (A:x.op≠4) (B:M'.top.f=M.top.f) (hb:M'.top.b=M.top.b) (D:M'.top.i=M.top.i+1) (o:M'.rest=M.rest) (c:M'.top.r=M.top.r) (n:M'.h=M.h){y:Qj}{t:TT 6}(z:M'.top.v=M.top.v++[y]) (l:(s.makes x).2=[t]) (w:∃ u,rtm M.top.r t=some u/\Qeb g y u):Qli m M' :=
 I.val q C A B hb D o c (fun _ _ _ h=>h) (fun k p e=>⟨p,by rw[n];exact e⟩) (by rw[n];exact I.st) (xs:=[y]) z (by rw[l];rfl) (fun j F E d a=>by
  rw[l] at a
  have:j=0:=by have:=(Zi d).1;simp at this;omega
  subst this;simp at d a;subst d a;exact w)
theorem IM.over_good (m:List (Qe 6)) (M:IM) (e:Int):Qli m (M.over e):=.inl Z
abbrev IM.one (M:IM):IM:={ M with fuel:=M.fuel+1,top:={ M.top with i:=M.top.i+1 } }
theorem Qc.put_place {h:Qc}{v:Qj}{t:Qq}{j:Int}{p:Qi}(e:h.place j=some p):∃ p',(h.put v t words).2.2.place j=some p':=by
 unfold Qc.put;split
 ·exact⟨p,e⟩
 ·rename_i q c
  obtain⟨g,f,i,d,b,a⟩:=Qc.at_some c
  split
  ·exact⟨p,e⟩
  ·simp only
   rw[Qc.place_set (by rw[d];exact(Zi b).1)]
   split
   ·have:(q.more t words).there=true:=by unfold Qi.more;split<;>exact a
    exact⟨_,by rw[Xs this]⟩
   ·exact⟨p,e⟩
theorem Inv.made (I:Inv m g M fn bl s) (o:bl.code[M.top.i]?=some x) (C:x.op≠3) (B:x.op≠4){T u:TT 6}(k:(s.makes x).2=[T]){a:Qj}{p:Qi}{t:Qq}(f:M.h.at a=some p) (A:rtm M.top.r T=some u) (n:u.r=a.region) (v:Qbq g t u):∃ M',M.one.got (M.h.put a t words)=some M'/\Qli m M':=by
 obtain⟨E,l,S,z⟩:=I.st.put (words:=words) f n v
 rcases Qc.put_code (t:=t) (words:=words) f with c | ⟨D,-⟩
 ·unfold IM.got;rw[Xr (by rw[c];decide),Xs c]
  refine⟨_,Z,?_⟩
  exact I.val o C B Z Z Z Z Z l (fun j q e=>Qc.put_place e) S (xs:=[(M.h.put a t words).1]) Z (by rw[k];rfl) (fun j y w d b=>by
   rw[k] at b
   have:j=0:=by have:=(Zi d).1;simp at this;omega
   subst this;simp at d b;subst d b;exact⟨u,A,z c⟩)
 ·unfold IM.got;rw[Xs D]
  exact⟨_,Z,IM.over_good _ _ _⟩
end
theorem Xe:type_of% @List.all_eq_true:=@List.all_eq_true
section
variable {m:List (Qe 6)}{g g':Sig}{M M':IM}{fn:Qe 6}{bl:Qk 6}{s:JSt}{x:Qz}{op:Int->Int->Int->Option Int}{h:Qc}{v:List Qj}{r:List Int}
theorem Qbn (d:(Qr m).1=0){f:Qe 6}(l:m[k]?=some f):∃ b,f.blocks[0]?=some b/\b.regs=f.regs/\b.params=f.params/\f.right m.length/\(k=0->f.regs=0/\f.params.length=0/\∀ t∈f.results,t.kind=1):=by
 have i:=(Zz d).2 f (Zm l);obtain⟨b,j⟩:∃ b,f.blocks[0]?=some b:=⟨_,Zg i.many.1⟩
 unfold Qr at d;split at d
 ·cases d
 have a:=Zq d k f l;rw[XK] at a
 unfold Qe.fault at a;split at a
 ·cases a
 split at a
 ·rename_i c;exact absurd a c
 split at a
 ·rename_i c;exact absurd a c
 split at a
 ·cases a
 split at a
 ·cases a
 rename_i h
 have c:=Zq a 0 b j;simp only[Nat.zero_add] at c
 unfold Qk.fault at c;split at c
 ·cases c
 split at c
 ·rename_i q;exact absurd c q
 split at c
 ·cases c
 rename_i n
 have g:b.regs=f.regs/\QdR b.params f.params=true:=by
  constructor
  ·exact Xq.1 fun e=>n ⟨Z,.inl e⟩
  ·cases e:QdR b.params f.params with
   | true=>rfl
   | false=>exact absurd ⟨Z,.inr e⟩ n
 refine⟨b,j,g.1,QcF.1 g.2,i,fun p=>?_⟩
 have:f.regs=0/\f.params.length=0/\f.results.all (fun t=>t.kind==1)=true:=Xq.1 fun e=>h ⟨p,e⟩
 refine⟨this.1,this.2.1,fun t o=>?_⟩
 have:=Xe.1 this.2.2 t o
 simpa using this
end
theorem JSt.next_len (s:JSt) (x:Qz):s.H.length<=(s.next x).H.length:=by
 unfold JSt.next
 simp only
 split
 ·simp
 ·split
  ·simp
  ·exact Ze
theorem JSt.upto_len:∀ (l:List Qz) (s:JSt),s.H.length<=(s.upto l).H.length
 | [],s=>Ze
 | x::l,s=>Zt (s.next_len x) (JSt.upto_len l (s.next x))
section
variable {m:List (Qe 6)}{g g':Sig}{M M':IM}{fn:Qe 6}{bl:Qk 6}{s:JSt}{x:Qz}{op:Int->Int->Int->Option Int}{h:Qc}{v:List Qj}{r:List Int}
theorem QjI (d:(Qr m).1=0)(c:m[k]?=some fn) (hb:fn.blocks[q]?=some bl) (l:List Qz):fn.regs<=((JSt.start m fn bl).upto l).H.length:=by
 have b:=(Zz d).2 fn (Zm c);have a:=b.blocks bl (Zm hb);have g:=JSt.upto_len l (JSt.start m fn bl);have e:=QfE (n:=bl.regs) ⟨by have:=b.regs;have:=a.regs;omega,a.regs.2⟩;have f:(JSt.start m fn bl).H.length=(Qh9 bl.regs).length:=rfl
 have:=a.regs
 omega
theorem Inv.kept (a:(Qr m).1=0) (I:Inv m g M fn bl s):s.f.regs<=s.H.length:=by
 rw[I.mf.2,I.hs];exact QjI a I.hf I.hb _
def IM.steps (m:List (Qe 6)) (op:Int->Int->Int->Option Int) (most:Nat):Nat->IM->Option IM
 | 0,M=>some M
 | n+1,M=>if M.done then some M else match M.step m op most with
   | none=>none
   | some M'=>M'.steps m op most n
end
def QO (M:IM) (o:Option IM):Prop:=∀ N,o=some N->N.fuel=M.fuel/\(∃ l,N.out=M.out++l)/\(N.done=true->M.done=true\/N.out=M.out)
section
variable {k:Nat}{M N:IM}{o o':Option IM}{m:List (Qe 6)}{op:Int->Int->Int->Option Int}{x:Qz}{fn:Qe 6}
theorem QO.no:QO M none:=fun N h=>by cases h
theorem QO.same (b:N.fuel=M.fuel) (a:N.out=M.out):QO M (some N):=fun c h=>by
 cases h
 exact⟨b,⟨[],by simp[a]⟩,fun _=>.inr a⟩
theorem QO.ite {c:Prop}[Decidable c] {a b:Option IM}(f:c->QO M a) (e:¬ c->QO M b):QO M (if c then a else b):=by
 by_cases d:c
 ·rw[Xs d];exact f d
 ·rw[Xr d];exact e d
theorem Qhb {g:Qj × Int × Qc}:QO M (M.got g):=QO.ite (fun _=>QO.same Z Z) fun _=>QO.ite (fun _=>QO.same Z Z) (fun _=>QO.no)
theorem mem_out:QO M (M.mem x):=by
 unfold IM.mem
 cases QA M.top.v x.a with
 | none=>exact QO.no
 | some a =>
   refine QO.ite (fun _=>QO.ite (fun _=>QO.same Z Z) (fun _=>QO.no)) fun _=>QO.ite (fun _=>?_) fun _=>QO.ite (fun _=>?_) fun _=>QO.ite (fun _=>QO.ite (fun _=>QO.same Z Z) (fun _=>QO.no)) fun _=>QO.ite (fun _=>?_) fun _=>QO.ite (fun _=>?_) fun _=>QO.ite (fun _=>?_) fun _=>QO.ite (fun _=>QO.same Z Z) (fun _=>QO.no)
   ·cases Qp M.top.v x.args with
    | none=>exact QO.no
    | some l=>exact Qhb
   ·cases Qt M.top.v x.b with
    | none=>exact QO.no
    | some n=>exact QO.ite (fun _=>QO.same Z Z) (fun _=>Qhb)
   ·cases QA M.top.v x.b with
    | none=>exact QO.no
    | some y=>exact QO.ite (fun _=>QO.same Z Z) (fun _=>QO.no)
   ·cases Qt M.top.v x.b with
    | none=>exact QO.no
    | some n=>exact QO.ite (fun _=>QO.ite (fun _=>QO.same Z Z) fun _=>QO.ite (fun _=>QO.same Z Z) (fun _=>QO.no)) (fun _=>QO.no)
   ·cases Qt M.top.v x.b with
    | none=>exact QO.no
    | some n=>cases Qt M.top.v x.c with
      | none=>exact QO.no
      | some z=>exact QO.ite (fun _=>QO.ite (fun _=>QO.same Z Z) fun _=>QO.ite (fun _=>QO.same Z Z) (fun _=>QO.no)) (fun _=>QO.no)
theorem call_out:QO M (M.call m x):=by
 unfold IM.call
 cases Zb M.top.r x.regs with
 | none=>exact QO.no
 | some r=>cases Qp M.top.v x.args with
   | none=>exact QO.no
   | some v=>cases m[x.k.toNat]? with
     | none=>exact QO.no
     | some g=>exact QO.ite (fun _=>QO.ite (fun _=>QO.same Z Z) (fun _=>QO.same Z Z)) (fun _=>QO.no)
theorem ins_out:QO M (IM.ins m op M x):=by
 unfold IM.ins;refine QO.ite (fun _=>QO.same Z Z) fun _=>QO.ite (fun _=>?_) fun _=>QO.ite (fun _=>QO.ite (fun _=>QO.same Z Z) (fun _=>QO.same Z Z)) fun _=>QO.ite (fun _=>?_) fun _=>QO.ite (fun _=>?_) fun _=>QO.ite (fun _=>call_out) (fun _=>mem_out)
 ·cases Qt M.top.v x.a with
  | none=>exact QO.no
  | some a=>cases Qt M.top.v x.b with
    | none=>exact QO.no
    | some b =>
      simp only
      cases op x.k a b with
      | none=>exact QO.same Z Z
      | some n=>exact QO.same Z Z
 ·cases M.inp with
  | nil=>exact QO.same Z Z
  | cons n l=>exact QO.same Z Z
 ·cases Qt M.top.v x.a with
  | none=>exact QO.no
  | some n=>exact QO.ite (fun _=>QO.same Z Z) (fun _ N h=>by cases h;exact⟨Z,⟨[n],Z⟩,fun c=>.inl c⟩)
theorem QhE {t:MTo}:QO M (IM.to fn M t):=by
 unfold IM.to
 cases fn.blocks[t.block.toNat]? with
 | none=>exact QO.no
 | some b=>cases Zb M.top.r t.regs with
   | none=>exact QO.no
   | some r=>cases Qp M.top.v t.args with
     | none=>exact QO.no
     | some v=>exact QO.ite (fun _=>QO.same Z Z) (fun _=>QO.no)
theorem QiH {e:Qax}:QO M (IM.endd fn M e):=by
 unfold IM.endd;refine QO.ite (fun _=>QhE) fun _=>QO.ite (fun _=>?_) fun _=>?_
 ·cases Qt M.top.v e.a with
  | none=>exact QO.no
  | some n=>exact QO.ite (fun _=>QhE) (fun _=>QhE)
 ·cases Qp M.top.v e.args with
  | none=>exact QO.no
  | some v =>
    refine QO.ite (fun _=>?_) (fun _=>QO.no)
    cases M.rest with
    | cons d rest=>exact QO.same Z Z
    | nil=>cases Qaw M.top.v e.args with
      | none=>exact QO.no
      | some n=>exact QO.same Z Z
theorem Qce (g:M.fuel<=most) (d:IM.step m op most M=some N):(M.fuel=most->N=M.over 7)/\(M.fuel<most->N.fuel=M.fuel+1)/\(∃ l,N.out=M.out++l)/\(N.done=true->M.done=true\/N.out=M.out):=by
 unfold IM.step at d;by_cases e:M.fuel=most
 ·rw[Xs e] at d
  cases d
  exact⟨fun _=>rfl,fun h=>by omega,⟨[],by simp[IM.over]⟩,fun _=>.inr Z⟩
 ·rw[Xr e] at d
  cases e1:m[M.top.f]? with
  | none=>rw[e1] at d;cases d
  | some fn =>
    rw[e1] at d
    simp only at d
    cases e2:fn.blocks[M.top.b]? with
    | none=>rw[e2] at d;cases d
    | some bl =>
      rw[e2] at d
      simp only at d
      cases e3:bl.code[M.top.i]? with
      | none =>
        rw[e3] at d
        obtain⟨a,b,c⟩:=QiH N d
        exact⟨fun h=>absurd h e,fun _=>a,b,c⟩
      | some x =>
        rw[e3] at d
        obtain⟨a,b,c⟩:=ins_out N d
        exact⟨fun h=>absurd h e,fun _=>a,b,c⟩
theorem Qa3 {most:Nat}:∀ (n:Nat){M N:IM},M.fuel<=most->IM.steps m op most n M=some N->M.fuel<=N.fuel/\N.fuel<=most/\∃ l,N.out=M.out++l
 | 0,M,N,hf,h=>by cases h;exact⟨Ze,hf,[],by simp⟩
 | n+1,M,N,hf,h=>by
   unfold IM.steps at h;by_cases j:M.done=true
   ·rw[Xs j] at h;cases h;exact⟨Ze,hf,[],by simp⟩
   ·rw[Xr j] at h
    cases e:IM.step m op most M with
    | none=>rw[e] at h;cases h
    | some M' =>
      rw[e] at h
      simp only at h
      obtain⟨a,b,⟨l,c⟩,-⟩:=Qce hf e
      rcases Nat.lt_or_ge M.fuel most with q | q
      ·have:=b q
       obtain⟨o,f,i,d⟩:=Qa3 n (by omega) h
       exact⟨by omega,f,l++i,by rw[d,c,List.append_assoc]⟩
      ·have g:=a (by omega);have k:M'.fuel=M.fuel:=by rw[g];rfl
       obtain⟨o,f,i,d⟩:=Qa3 n (by omega) h
       exact⟨by omega,f,l++i,by rw[d,c,List.append_assoc]⟩
theorem QbP (a:M.done=true):∀ n,IM.steps m op most n M=some M
 | 0=>rfl
 | n+1=>by unfold IM.steps;rw[Xs a]
theorem Qcx {most most':Nat}(hm:most≤most'):∀ (n:Nat){M A:IM},M.fuel≤most→IM.steps m op most n M=some A→A.done=true→M.done=false →
 ((A.fin≠6→A.fin≠7→∀ n',n≤n'→IM.steps m op most' n' (M.up k)=some (A.up k)) ∧
 ((A.fin=6∨A.fin=7)→∀ n' B,IM.steps m op most' n' (M.up k)=some B→B.done=true→A.fuel≤B.fuel∧∃ l,B.out=A.out++l))
 | 0,M,A,hf,h,hd,hn=>by cases h;rw[hn] at hd;cases hd
 | n+1,M,A,hf,h,hd,hn=>by
   unfold IM.steps at h;rw[if_neg (by rw[hn];decide)] at h
   cases e:IM.step m op most M with
   | none=>rw[e] at h;cases h
   | some N =>
     rw[e] at h
     simp only at h
     obtain⟨a,b,c,d⟩:=Qce hf e
     have upf:(M.up k).fuel=M.fuel:=rfl;have upo:(M.up k).out=M.out:=rfl;have updn:(M.up k).done=M.done:=rfl;rcases Nat.lt_or_ge M.fuel most with q | q
     ·have hu:=Qkh (k:=k) (m:=m) (op:=op) q hm;rw[e] at hu
      have hNf:=b q;by_cases hNd:N.done=true
      ·rw[QbP hNd] at h;cases h
       have hout : A.out = M.out := by rcases d hd with h1 | h1;· rw[hn] at h1;cases h1
                                       ·exact h1
       constructor
       ·intro h6 h7 n' hn';rcases hu with ⟨-,h1⟩ | h1
        ·exact absurd h1 h6
        ·obtain⟨j,rfl⟩:∃ j,n'=j+1:=⟨n' - 1,by omega⟩
         unfold IM.steps;rw[updn,if_neg (by rw[hn];decide),h1]
         exact QbP (M:=A.up k) hd _
       ·intro h67 n' B hB hBd
        cases n' with
        | zero=>cases hB;rw[updn,hn] at hBd;cases hBd
        | succ j =>
          unfold IM.steps at hB;rw[updn,if_neg (by rw[hn];decide)] at hB
          cases e':IM.step m op most' (M.up k) with
          | none=>rw[e'] at hB;cases hB
          | some N' =>
            rw[e'] at hB
            simp only at hB
            obtain⟨a',b',⟨l,c'⟩,-⟩:=Qce (by rw[upf];omega) e'
            have:=b' (by rw[upf];omega)
            obtain⟨f1,f2,l',f3⟩:=Qa3 j (by omega) hB
            exact⟨by omega,l++l',by rw[f3,c',upo,hout,List.append_assoc]⟩
      ·have hNd':N.done=false:=by simpa using hNd
       have hu':IM.step m op most' (M.up k)=some (N.up k):=by
        rcases hu with ⟨h1,-⟩ | h1
        ·exact absurd h1 hNd
        ·exact h1
       obtain⟨i1,i2⟩:=Qcx hm n (by omega) h hd hNd'
       constructor
       ·intro h6 h7 n' hn';obtain⟨j,rfl⟩:∃ j,n'=j+1:=⟨n' - 1,by omega⟩
        unfold IM.steps;rw[updn,if_neg (by rw[hn];decide),hu']
        exact i1 h6 h7 j (by omega)
       ·intro h67 n' B hB hBd
        cases n' with
        | zero=>cases hB;rw[updn,hn] at hBd;cases hBd
        | succ j =>
          unfold IM.steps at hB;rw[updn,if_neg (by rw[hn];decide),hu'] at hB
          exact i2 h67 j B hB hBd
     ·have hN:=a (by omega);have hNd:N.done=true:=by rw[hN];rfl
      rw[QbP hNd] at h;cases h
      have hfin:A.fin=7:=by rw[hN];rfl
      have hfu:A.fuel=M.fuel:=by rw[hN];rfl
      have hou:A.out=M.out:=by rw[hN];rfl
      refine⟨fun _ h7=>absurd hfin h7,fun _ n' B hB hBd=>?_⟩
      obtain⟨f1,f2,l',f3⟩:=Qa3 n' (by rw[upf];omega) hB
      exact⟨by rw[hfu];exact f1,l',by rw[f3,upo,hou]⟩
end
theorem Qb {p:Prop}(h:p):Hid p:=h
def vAt (v:Qj):Nat->Value
 | 0=>.int .i64 v.kind
 | 1=>.int .i64 v.region
 | 2=>.int .i64 v.thing
 | _=>.int .i64 v.n
def Q7 (l:List Qj) (j:Nat):Value:=vAt (l.getD (j / 4) noV) (j%4)
abbrev QF (v:Qj):Value:=.agg #[.int .i64 v.kind,.int .i64 v.region,.int .i64 v.thing,.int .i64 v.n]
def ZD (w:World) (v:Value) (l:List Qj):Prop :=
 (∃ a c,v=.slice a l.length c)/\(l≠[]->∃ g c,v=.slice (some ⟨g,0,none⟩) l.length c/\w.rowIs g 183 (l.length*4) (Q7 l))
def Qb6 (v:Value) (t:Qq) (x:Nat):Prop:=t.l≠[]/\v.ownBlock=some x
theorem ZD.keep {w w':World}{t:Qq}(h:ZD w v t.l) (hb:∀ x,Qb6 v t x->w'.heap[x]?=w.heap[x]?):ZD w' v t.l:=by
 refine⟨h.1,fun a=>?_⟩
 obtain⟨g,c,e,b⟩:=h.2 a
 exact⟨g,c,e,b.of_block (hb g ⟨a,by rw[e];rfl⟩)⟩
theorem ZD.lt {w:World}{t:Qq}(h:ZD w v t.l)(a:Qb6 v t x):x<w.heap.size:=by
 obtain⟨g,c,e,b⟩:=h.2 a.1
 have:g=x:=by have:=a.2;rw[e] at this;simpa[Value.ownBlock] using this
 subst this;exact b.lt
theorem ZD.type {w:World}{t:Qq}(h:ZD w v t.l)(a:Qb6 v t x):∃ c,w.heap[x]?=some (.cells c 183 (0,0)):=by
 obtain⟨g,c,e,d⟩:=h.2 a.1
 have:g=x:=by have:=a.2;rw[e] at this;simpa[Value.ownBlock] using this
 subst this;obtain⟨f,b,_⟩:=d;exact⟨f,b⟩
def Z9 (pv:Nat->Value):List Qq->Nat->List Value
 | [],_=>[]
 | t::r,s=>.int .i64 t.knd::pv s::Z9 pv r (s+1)
theorem QfX (pv:Nat->Value):∀ (l:List Qq) (s i:Nat) (t:Qq),l[i]?=some t->(Z9 pv l s)[i*2]?=some (.int .i64 t.knd)/\(Z9 pv l s)[i*2+1]?=some (pv (s+i))
 | [],_,_,_,h=>by simp at h
 | t::r,s,0,u,h=>by simp at h;subst h;simp[Z9]
 | t::r,s,i+1,u,h=>by
   have a:=QfX pv r (s+1) i u (by simpa using h);rw[show (i+1)*2=i*2+2 by omega,show s+(i+1)=s+1+i by omega]
   simpa[Z9] using a
theorem Qc7 (pv:Nat->Value) (t:Qq):∀ (l:List Qq) (s:Nat),Z9 pv (l++[t]) s=Z9 pv l s++[.int .i64 t.knd,pv (s+l.length)]
 | [],s=>rfl
 | u::r,s=>by simp[Z9,Qc7 pv t r,Nat.add_comm,Nat.add_left_comm]
theorem Qcs {pv qv:Nat->Value}:∀ (l:List Qq) (s:Nat),(∀ i,i<l.length->pv (s+i)=qv (s+i))->Z9 pv l s=Z9 qv l s
 | [],_,_=>rfl
 | t::r,s,h=>by
   have a:pv s=qv s:=by simpa using h 0 (by simp)
   have b:=Qcs (pv:=pv) (qv:=qv) r (s+1) (fun i c=>by have:=h (i+1) (by simpa using c);rwa [show s+(i+1)=s+1+i by omega] at this);simp only[Z9]
   rw[a,b]
theorem QeE (pv:Nat->Value) (t u:Qq) (e:u.knd=t.knd):∀ (l:List Qq) (s i:Nat),l[i]?=some t->Z9 pv (l.set i u) s=Z9 pv l s
 | [],_,_,h=>by simp at h
 | t'::r,s,0,h=>by simp at h;subst h;simp[Z9,e]
 | t'::r,s,i+1,h=>by simp only[List.set_cons_succ,Z9];rw[QeE pv t u e r (s+1) i (by simpa using h)]
structure Z4 (w:World) (b k:Nat) (p:Qi) (S:Nat->Prop) (tv:Value) (pv:Nat->Value):Prop where
 box:w.heap[b]?=some (.cells #[.int .i64 k,.int .i64 p.pages,.int .i64 p.used,tv] 223 (0,0))
 row:w.ownsRow 0 242 2 tv p.l.length (Z9 pv p.l 0)
 part:∀ i t,p.l[i]?=some t->ZD w (pv i) t.l
 inj:∀ i j t u x,p.l[i]?=some t->p.l[j]?=some u->Qb6 (pv i) t x->Qb6 (pv j) u x->i=j
 ob:S b
 ot:∀ x,tv.ownBlock=some x->S x
 op:∀ i t x,p.l[i]?=some t->Qb6 (pv i) t x->S x
def QcR (w:World) (b k:Nat) (p:Qi) (S:Nat->Prop):Prop:=∃ tv pv,Z4 w b k p S tv pv
theorem QG {w:World}{z:Nat}(h:w.ownsRow 0 e z v n xs)(b:v.ownBlock=some x):∃ c,w.heap[x]?=some (.cells c e (0,0)):=by
 rcases h.2 with ⟨rfl,_⟩|⟨g,f,a,rfl,_,d,_⟩
 ·simp[Value.ownBlock] at b
 ·simp[Value.ownBlock] at b;subst b;exact⟨a,d⟩
theorem QE {w w':World}{z:Nat}(h:w.ownsRow 0 e z v n xs) (hb:∀ x,v.ownBlock=some x->w'.heap[x]?=w.heap[x]?):w'.ownsRow 0 e z v n xs:=by
 refine⟨h.1,?_⟩
 rcases h.2 with d | ⟨g,a,b,rfl,c,f,r⟩
 ·exact .inl d
 ·exact .inr ⟨g,a,b,Z,c,(hb g Z).trans f,r⟩
section
variable {w w':World}{b k:Nat}{p:Qi}{S S':Nat->Prop}{tv:Value}{pv:Nat->Value}
theorem Z4.keep (h:Z4 w b k p S tv pv) (hb:∀ x,S x->x<w.heap.size->w'.heap[x]?=w.heap[x]?):Z4 w' b k p S tv pv :=
 ⟨(hb b h.ob (XC h.box)).trans h.box,QE h.row (fun x a=>hb x (h.ot x a) (XC (QG h.row a).choose_spec)),fun i t c=>(h.part i t c).keep (fun x a=>hb x (h.op i t x c a) ((h.part i t c).lt a)),h.inj,h.ob,h.ot,h.op⟩
theorem QcR.keep (h:QcR w b k p S) (hb:∀ x,S x->x<w.heap.size->w'.heap[x]?=w.heap[x]?):QcR w' b k p S:=by
 obtain⟨a,c,h⟩:=h
 exact⟨a,c,h.keep hb⟩
end
def pelem:Value->Option (DataW Unit × List MemPlace)
 | .pointer none=>some (.nil,[])
 | .pointer (some ⟨g,0,none⟩)=>some (.lit (.int .i64 g),[])
 | _=>none
theorem QgS {b:List MemPlace}(h:pelem v=some (.lit (.int .i64 (g:Int)),b)):v=.pointer (some ⟨g,0,none⟩):=by
 unfold pelem at h;split at h
 ·simp at h
 ·rename_i a
  simp at h
  obtain⟨h,_⟩:=h
  have:a=g:=by omega
  rw[this]
 ·cases h
theorem QgM {a:List MemPlace}(h:pelem v=some (.nil,a)):v=.pointer none:=by
 unfold pelem at h;split at h
 ·rfl
 ·simp at h
 ·cases h
theorem hKeyed:Maps.Keyed prog 3:=Maps.int_keyed underlying3
theorem Qlk {x:Int}(h:Zh x):(Lit.int .i64 x).wf=true:=WalkArith.wf_i64 h
abbrev Qft (x:Int):Lit:=.int .i64 x
structure HG where
 bm:Nat
 D:DataW Unit
 g:Nat->Nat
 S:Nat->Nat->Prop
structure HIn (w:World) (b:Nat) (O:Nat->Prop) (h:Qc) (G:HG):Prop where
 top:w.heap[b]?=some (.cells #[.int .i64 h.left,.int .i64 h.L.length,.map (some G.bm)] 106 (0,0))
 map:w.ownsMap prog 3 pelem G.bm (Maps.size G.D) G.D
 size:Maps.size G.D=h.live
 has:∀ k,Zh k->Maps.has G.D (Qft k)=(h.place k).isSome
 at_:∀ k p,Zh k->h.place k=some p->G.D.atKey (Qft k) .nil=.lit (.int .i64 (G.g k.toNat:Int))
 reg:∀ k p,h.L[k]?=some p->p.there=true->QcR w (G.g k) k p (G.S k)
 dis:∀ j k x,G.S j x->G.S k x->j=k
 ob:O b
 om:O G.bm
 os:∀ k x,G.S k x->O x/\x≠b/\x≠G.bm
 lt:∀ x,O x->x<w.heap.size
def Qc8 (w:World) (b:Nat) (O:Nat->Prop) (h:Qc):Prop:=∃ G,HIn w b O h G
theorem Qad {w w':World}{k:TypeId}{R:Value->Option (DataW Unit × List MemPlace)}{b:Nat}{D:DataW Unit}(h:w.ownsMap P k R b n D) (hb:w'.heap[b]?=w.heap[b]?):w'.ownsMap P k R b n D:=by
 obtain⟨a,c,d,r⟩:=h
 exact⟨a,c,hb.trans d,r⟩
theorem QbA {w:World}{k:TypeId}{R:Value->Option (DataW Unit × List MemPlace)}{b:Nat}{D:DataW Unit}(h:w.ownsMap P k R b n D):w.ownsMap P k R b (Maps.size D) D:=by
 obtain⟨d,c,f,e,g,a⟩:=h
 exact⟨d,c,f,e,by rw[a];simp[Maps.size,length_sorted],a⟩
section
variable {w w':World}{b:Nat}{O O':Nat->Prop}{h:Qc}{G:HG}
theorem HIn.keep (H:HIn w b O h G) (d:w.heap.size<=w'.heap.size) (hb:∀ x,O x->x<w.heap.size->w'.heap[x]?=w.heap[x]?):HIn w' b O h G :=
 ⟨(hb b H.ob (XC H.top)).trans H.top,Qad H.map (hb _ H.om H.map.lt),H.size,H.has,H.at_,fun k p f c=>(H.reg k p f c).keep (fun x a e=>hb x (H.os k x a).1 e),H.dis,H.ob,H.om,H.os,fun x a=>Zl (H.lt x a) d⟩
theorem HIn.below (H:HIn w b O h G) (hb:Below w.heap.size w w'):HIn w' b O h G:=H.keep hb.size (fun x _ a=>hb.block x a)
theorem HIn.bne (H:HIn w b O h G):b≠G.bm:=by
 intro e;obtain⟨d,c,a,_⟩:=H.map
 have:=H.top
 rw[e,a] at this
 cases this
theorem Qc8.keep (H:Qc8 w b O h) (a:w.heap.size<=w'.heap.size) (hb:∀ x,O x->x<w.heap.size->w'.heap[x]?=w.heap[x]?):Qc8 w' b O h:=by
 obtain⟨G,H⟩:=H
 exact⟨G,H.keep a hb⟩
theorem Qc8.below (H:Qc8 w b O h) (hb:Below w.heap.size w w'):Qc8 w' b O h:=H.keep hb.size (fun x _ a=>hb.block x a)
theorem HIn.drewN (H:HIn w b O h G) (n:Nat):HIn (w.drewN n) b O h G:=H.keep (w':=w.drewN n) Ze (fun _ _ _=>rfl)
theorem HIn.drew (H:HIn w b O h G):HIn w.drew b O h G:=H.keep (w':=w.drew) Ze (fun _ _ _=>rfl)
def hptr (h:Qc) (G:HG) (k:Int):Option Addr:=if (h.place k).isSome then some ⟨G.g k.toNat,0,none⟩ else none
theorem HIn.look (H:HIn w b O h G){k:Int}(a:Zh k):(Instr.lookup 104 (.map (some G.bm)) (.int .i64 k) true).run prog w=.ok (.tuple #[.pointer (hptr h G k),.bool (h.place k).isSome]) w:=by
 obtain⟨v,f,e,c⟩:=H.map.look_ok hKeyed underlying104 (z:=.pointer none) (by kernel_rfl) (zd:=.nil) (zp:=[]) Z (Maps.keyOf_int_mk underlying3 (Qlk a))
 rw[e,H.has k a]
 have d:=H.has k a;unfold hptr
 cases hp:h.place k with
 | none =>
   rw[hp] at d
   rw[Maps.atKey_of_not_has d] at c
   rw[QgM c];rfl
 | some p =>
   rw[H.at_ k p a hp] at c
   rw[QgS c];rfl
theorem HIn.lookN (H:HIn w b O h G){k:Int}(a:Zh k) (n:Nat):(Instr.lookup 104 (.map (some G.bm)) (.int .i64 k) true).run prog (w.drewN n)=.ok (.tuple #[.pointer (hptr h G k),.bool (h.place k).isSome]) (w.drewN n):=(H.drewN n).look a
end
section
variable {w w':World}{b k:Nat}{p:Qi}{S S':Nat->Prop}{tv:Value}{pv:Nat->Value}
theorem Z4.rowNe (h:Z4 w b k p S tv pv)(d:tv.ownBlock=some x):x≠b:=by
 obtain⟨c,a⟩:=QG h.row d
 exact Q8 a h.box (by decide)
theorem Z4.partNe (h:Z4 w b k p S tv pv){t:Qq}(e:p.l[i]?=some t)(d:Qb6 (pv i) t x):x≠b:=by
 obtain⟨c,a⟩:=(h.part i t e).type d
 exact Q8 a h.box (by decide)
theorem Z4.partRow (h:Z4 w b k p S tv pv){t:Qq}(g:p.l[i]?=some t)(j:Qb6 (pv i) t x):tv.ownBlock≠some x:=by
 intro e;obtain⟨c,a⟩:=(h.part i t g).type j
 obtain⟨d,f⟩:=QG h.row e
 exact Q8 a f (by decide) Z
theorem Z4.nums (h:Z4 w b k p S tv pv) (p':Qi) (c:p'.l=p.l) (hb:w'.heap[b]?=some (.cells #[.int .i64 k,.int .i64 p'.pages,.int .i64 p'.used,tv] 223 (0,0))) (e:∀ x,S x->x≠b->x<w.heap.size->w'.heap[x]?=w.heap[x]?):Z4 w' b k p' S tv pv :=
 ⟨hb,by rw[c];exact QE h.row (fun x a=>e x (h.ot x a) (h.rowNe a) (XC (QG h.row a).choose_spec)),
  by rw[c];exact fun i t d=>(h.part i t d).keep (fun x a=>e x (h.op i t x d a) (h.partNe d a) ((h.part i t d).lt a)),by rw[c];exact h.inj,h.ob,h.ot,by rw[c];exact h.op⟩
theorem ownBlock_slice :(Value.slice (some ⟨g,0,none⟩) n c).ownBlock=some x↔g=x:=by simp[Value.ownBlock]
theorem Z4.add (h:Z4 w b k p S tv pv){t:Qq}(F:ZD w v t.l) (hn:∀ x,Qb6 v t x->¬ S x)
 (I:w1.ownsRow 0 242 2 (.slice (some ⟨g,0,none⟩) (p.l.length+1) c) (p.l.length+1) (Z9 pv p.l 0++[.int .i64 t.knd,v])) (y:w.grownBy w1 tv.ownBlock) (J:tv.ownBlock=some g\/w.heap.size<=g) :
 Z4 (w1.setCell ⟨b,3,none⟩ (.slice (some ⟨g,0,none⟩) (p.l.length+1) c)) b k { p with l:=p.l++[t] } (fun x=>S x\/x=g\/Qb6 v t x) (.slice (some ⟨g,0,none⟩) (p.l.length+1) c) (fun i=>if i=p.l.length then v else pv i):=by
 have z:=XC h.box;have A:w1.heap[b]?=some (.cells #[.int .i64 k,.int .i64 p.pages,.int .i64 p.used,tv] 223 (0,0)):=(y.block b z (fun e=>h.rowNe e.symm Z)).trans h.box
 have H:g≠b:=by
  rcases J with e | e
  ·exact h.rowNe e
  ·omega
 have m:∀ x,x≠b->(w1.setCell ⟨b,3,none⟩ (.slice (some ⟨g,0,none⟩) (p.l.length+1) c)).heap[x]?=w1.heap[x]?:=fun x a=>Xd _ _ _ _ a;have E:∀ i u,p.l[i]?=some u->(if i=p.l.length then v else pv i)=pv i:=fun i u f=>Xr (by have:=(Zi f).1;omega)
 have s:∀ i u,(p.l++[t])[i]?=some u->(p.l[i]?=some u/\(if i=p.l.length then v else pv i)=pv i)\/(i=p.l.length/\u=t):=by
  intro i u f;rcases Nat.lt_or_ge i p.l.length with d | d
  ·rw[XP d] at f;exact .inl ⟨f,E i u f⟩
  ·rw[XQ d] at f
   have B:=(Zi f).1
   have:i - p.l.length=0:=by simp at B;omega
   rw[this] at f;simp at f
   exact .inr ⟨by omega,f.symm⟩
 have G:∀ x,Qb6 v t x->x≠b/\some x≠tv.ownBlock:=fun x a=>⟨fun e=>hn x a (e ▸ h.ob),fun e=>hn x a (h.ot x e.symm)⟩;refine⟨?_,?_,?_,?_,.inl h.ob,fun x a=>.inr (.inl (ownBlock_slice.1 a).symm),?_⟩
 ·have:=Qo A 3 (.slice (some ⟨g,0,none⟩) (p.l.length+1) c)
  simpa using this
 ·have e:Z9 (fun i=>if i=p.l.length then v else pv i) (p.l++[t]) 0=Z9 pv p.l 0++[.int .i64 t.knd,v]:=by
   rw[Qc7,Qcs (qv:=pv) p.l 0 (fun i K=>Xr (by omega))]
   simp
  rw[e]
  have:=QE (w':=w1.setCell ⟨b,3,none⟩ (.slice (some ⟨g,0,none⟩) (p.l.length+1) c)) I (fun x a=>m x (by rw[ownBlock_slice] at a;omega))
  simpa using this
 ·intro i u f;rcases s i u f with ⟨d,o⟩|⟨d,o⟩
  ·rw[o]
   refine(h.part i u d).keep (fun x a=>(m x (h.partNe d a)).trans (y.block x ((h.part i u d).lt a) (fun e=>h.partRow d a e.symm)))
  ·subst o;rw[Xs d];exact F.keep (fun x a=>(m x (G x a).1).trans (y.block x (F.lt a) (G x a).2))
 ·intro i j u D x f C a n;rcases s i u f with ⟨d,o⟩|⟨d,o⟩<;>rcases s j D C with ⟨r,q⟩|⟨r,q⟩
  ·rw[o] at a;rw[q] at n;exact h.inj i j u D x d r a n
  ·rw[o] at a;rw[Xs r,q] at n;exact absurd (h.op i u x d a) (hn x n)
  ·rw[q] at n;rw[Xs d,o] at a;exact absurd (h.op j D x r n) (hn x a)
  ·omega
 ·intro i u x f a;rcases s i u f with ⟨d,o⟩|⟨d,o⟩
  ·rw[o] at a;exact .inl (h.op i u x d a)
  ·rw[Xs d,o] at a;exact .inr (.inr a)
theorem Z4.put (h:Z4 w b k p S tv pv){t:Qq}(m:p.l[i]?=some t)(q:Qb6 (pv i) t g){l:List Qj}(y:l.length=t.l.length) (J:w'.rowIs g 183 (l.length*4) (Q7 l)) (C:∀ x,S x->x≠g->x<w.heap.size->w'.heap[x]?=w.heap[x]?) :
 Z4 w' b k { p with l:=p.l.set i { t with l:=l } } S tv pv:=by
 have K:=(Zi m).1
 have r:∀ j u,(p.l.set i { t with l:=l })[j]?=some u->(j≠i/\p.l[j]?=some u)\/(j=i/\u={ t with l:=l }):=by
  intro j u f;by_cases e:j=i
  ·subst e;simp[K] at f;exact .inr ⟨Z,f.symm⟩
  ·rw[List.getElem?_set_ne (Ne.symm e)] at f;exact .inl ⟨e,f⟩
 have z:t.l≠[]:=q.1;have I:l≠[]:=fun e=>z (Xf.1 (by rw[<-y,e];rfl));have v:∀ x,Qb6 (pv i) { t with l:=l } x->Qb6 (pv i) t x:=fun x d=>⟨z,d.2⟩;refine⟨(C b h.ob (Ne.symm (h.partNe m q)) (XC h.box)).trans h.box,?_,?_,?_,h.ob,h.ot,?_⟩
 ·show w'.ownsRow 0 _ 2 tv (p.l.set i _).length (Z9 pv (p.l.set i _) 0);rw[QeE pv t { t with l:=l } Z p.l 0 i m,List.length_set]
  exact QE h.row (fun x d=>C x (h.ot x d) (fun e=>h.partRow m q (e ▸ d)) (XC (QG h.row d).choose_spec))
 ·intro j u f;rcases r j u f with ⟨D,n⟩|⟨rfl,rfl⟩
  ·exact(h.part j u n).keep (fun x d=>C x (h.op j u x n d) (fun e=>D (h.inj j i u t x n m d (e ▸ q))) ((h.part j u n).lt d))
  ·obtain⟨⟨a,c,e⟩,-⟩:=h.part j t m
   refine⟨⟨a,c,by rw[e,y]⟩,fun _=>?_⟩
   obtain⟨G,H,F,-⟩:=(h.part j t m).2 z
   have:G=g:=by have:=q.2;rw[F] at this;exact ownBlock_slice.1 this
   subst this;exact⟨G,H,by rw[F,y],J⟩
 ·intro j s u B x f A d o;rcases r j u f with ⟨D,n⟩|⟨rfl,rfl⟩<;>rcases r s B A with ⟨L,E⟩|⟨rfl,rfl⟩
  ·exact h.inj j s u B x n E d o
  ·exact h.inj j _ u t x n m d (v x o)
  ·exact h.inj _ s t B x m E (v x d) o
  ·rfl
 ·intro j u x f d;rcases r j u f with ⟨D,n⟩|⟨rfl,rfl⟩
  ·exact h.op j u x n d
  ·exact h.op j t x m (v x d)
end
section
variable {w w':World}{b:Nat}{O O':Nat->Prop}{h:Qc}{G:HG}
theorem HIn.regTo (H:HIn w b O h G){k:Nat}{p p':Qi}(A:h.L[k]?=some p) (C:p.there=true) (o:p'.there=true){m:Nat->Prop}(K:QcR w' (G.g k) k p' m) (u:∀ x,m x->x<w'.heap.size) (t:QN (G.S k) m w w') :
 HIn w' b (fun x=>O x\/m x) { h with L:=h.L.set k p' } { G with S:=fun j=>if j=k then m else G.S j }:=by
 have D:=(Zi A).1;have f:∀ x,m x->G.S k x\/w.heap.size<=x:=t.own;have c:∀ x,¬ G.S k x->x<w.heap.size->w'.heap[x]?=w.heap[x]?:=fun x d E=>t.block x E d
 have F:∀ j:Int,(Qc.place { h with L:=h.L.set k p' } j).isSome=(h.place j).isSome:=by
  intro j;rw[Qc.place_set D]
  by_cases e:j=k
  ·subst e;rw[Xs Z,Xs o,Qc.place_of A C];rfl
  ·rw[Xr e]
 refine⟨?_,Qad H.map (c _ (fun e=>(H.os k _ e).2.2 Z) H.map.lt),?_,?_,?_,?_,?_,.inl H.ob,.inl H.om,?_,?_⟩
 ·rw[c b (fun e=>(H.os k _ e).2.1 Z) (XC H.top),H.top];simp
 ·have:=Qc.live_set (h:=h) (q:=p') A h.left
  rw[C,o] at this
  rw[H.size]
  simpa using this.symm
 ·intro j a;rw[H.has j a,F j]
 ·intro j q a v
  have:(h.place j).isSome=true:=by rw[<-F j,v];rfl
  obtain⟨I,z⟩:=Option.isSome_iff_exists.1 this
  exact H.at_ j I a z
 ·intro j q a v;by_cases e:j=k
  ·subst e
   have:q=p':=by simpa[D] using a.symm
   subst this;simpa using K
  ·simp only[e,if_false]
   have y:h.L[j]?=some q:=by simpa[List.getElem?_set_ne (Ne.symm e)] using a
   exact(H.reg j q y v).keep (fun x n J=>c x (fun B=>e (H.dis j k x n B)) J)
 ·intro i j x l a;by_cases r:i=k<;>by_cases s:j=k
  ·rw[r,s]
  ·simp only[r,if_pos,s,if_false] at l a
   rcases f x l with d | d
   ·exact absurd (H.dis k j x d a).symm s
   ·have:=H.lt x (H.os j x a).1;omega
  ·simp only[r,if_pos,s,if_false] at l a
   rcases f x a with d | d
   ·exact absurd (H.dis i k x l d) r
   ·have:=H.lt x (H.os i x l).1;omega
  ·simp only[r,s,if_false] at l a
   exact H.dis i j x l a
 ·intro j x a;by_cases e:j=k
  ·simp only[e,if_pos] at a
   rcases f x a with d | d
   ·exact⟨.inl (H.os k x d).1,(H.os k x d).2⟩
   ·have E:=XC H.top;have M:=H.map.lt;exact⟨.inr a,by omega,by show x≠G.bm;omega⟩
  ·simp only[e,if_false] at a
   exact⟨.inl (H.os j x a).1,(H.os j x a).2⟩
 ·rintro x (n | n)
  ·exact Zl (H.lt x n) t.size
  ·exact u x n
theorem HIn.toLeft (H:HIn w b O h G) (n:Nat):HIn (w.setCell ⟨b,0,none⟩ (.int .i64 n)) b O { h with left:=n } G:=by
 have c:∀ x,x≠b->(w.setCell ⟨b,0,none⟩ (.int .i64 n)).heap[x]?=w.heap[x]?:=fun x a=>Xd _ _ _ _ a;refine⟨?_,Qad H.map (c _ (Ne.symm H.bne)),H.size,H.has,H.at_,fun k p e d=>(H.reg k p e d).keep (fun x a _=>c x (H.os k x a).2.1),H.dis,H.ob,H.om,H.os,fun x a=>by simpa using H.lt x a⟩
 have:=Qo H.top 0 (.int .i64 n)
 simpa using this
theorem HIn.gone (H:HIn w b O h G){k:Nat}{p:Qi}(u:h.L[k]?=some p) (y:p.there=true) (g:Zh k)(B:w1.ownsMap prog 3 pelem G.bm n (G.D.del (Qft k))) (I:w.mapTurned w1 G.bm) :
 HIn w1 b O { h with L:=h.L.set k noP } { G with D:=G.D.del (Qft k),S:=fun j x=>j≠k/\G.S j x }:=by
 have o:=(Zi u).1;have z:=I.grown;have c:∀ x,x≠G.bm->x<w.heap.size->w1.heap[x]?=w.heap[x]?:=fun x m l=>z.block x l (fun e=>m (by simpa using e));have A:∀ j:Int,j≠k->Qft j≠Qft (k:Int):=fun j a e=>a (by cases e;rfl);refine⟨?_,QbA B,?_,?_,?_,?_,fun i j x v a=>H.dis i j x v.2 a.2,H.ob,H.om,fun j x a=>H.os j x a.2,fun x d=>Zl (H.lt x d) z.size⟩
 ·rw[c b H.bne (XC H.top),H.top];simp
 ·have m:=Maps.size_del (k:=Qft (k:Int)) (H.map.tidy hKeyed);have l:=Qc.live_set (h:=h) (q:=noP) u h.left;rw[H.has k g,Qc.place_of u y,H.size] at m
  rw[y] at l
  simp[noP] at m l |-
  omega
 ·intro j a;rw[Qc.place_set o]
  by_cases e:j=k
  ·subst e;rw[Maps.has_del_same,Xs Z];rfl
  ·rw[Xr e,Maps.has_del_other (A j e),H.has j a]
 ·intro j q a f;rw[Qc.place_set o] at f
  by_cases e:j=k
  ·subst e;simp[noP] at f
  ·rw[Xr e] at f
   rw[Maps.atKey_del_other (A j e)];exact H.at_ j q a f
 ·intro j q a f;by_cases e:j=k
  ·subst e
   have:q=noP:=by simpa[o] using a.symm
   subst this;cases f
  ·have s:h.L[j]?=some q:=by simpa[List.getElem?_set_ne (Ne.symm e)] using a
   have R:=(H.reg j q s f).keep (w':=w1) (fun x d F=>c x (H.os j x d).2.2 F);obtain⟨C,E,r⟩:=R
   exact⟨C,E,r.box,r.row,r.part,r.inj,⟨e,r.ob⟩,fun x d=>⟨e,r.ot x d⟩,fun i t x v d=>⟨e,r.op i t x v d⟩⟩
theorem HIn.more (H:HIn w b O h G) (s:Zh h.L.length)(T:w.heap.size<=g) (p:w1.heap[g]?=some (.cells #[.int .i64 h.L.length,.int .i64 0,.int .i64 0,.slice none 0 0] 223 (0,0)))
 (I:w1.ownsMap prog 3 pelem G.bm n (G.D.put (Qft h.L.length) (.lit (.int .i64 (g:Int))))) (C:∀ x,x<w.heap.size->x≠G.bm->w1.heap[x]?=w.heap[x]?) (Q:w.heap.size<=w1.heap.size) :
 HIn (w1.setCell ⟨b,1,none⟩ (.int .i64 (h.L.length+1:Nat))) b (fun x=>O x\/x=g) { h with L:=h.L++[newP] } { G with D:=G.D.put (Qft h.L.length) (.lit (.int .i64 (g:Int))),g:=fun j=>if j=h.L.length then g else G.g j,S:=fun j x=>if j=h.L.length then x=g else j<h.L.length/\G.S j x }:=by
 have B:∀ x,x≠b->(w1.setCell ⟨b,1,none⟩ (.int .i64 (h.L.length+1:Nat))).heap[x]?=w1.heap[x]?:=fun x c=>Xd _ _ _ _ c;have A:=XC H.top;have P:=H.map.lt;have l:h.place h.L.length=none:=by rw[Qc.place_nat];simp
 have E:∀ j:Int,j≠h.L.length->Qft j≠Qft (h.L.length:Int):=fun j a e=>a (by cases e;rfl);have o:WideAt.IsKeyLit (Qft (h.L.length:Int)):=hKeyed.key (Maps.keyOf_int_mk underlying3 (Qlk s));refine⟨?_,QbA (Qad I (B _ (Ne.symm H.bne))),?_,?_,?_,?_,?_,.inl H.ob,.inl H.om,?_,?_⟩
 ·have z:w1.heap[b]?=_:=(C b A H.bne).trans H.top
  have:=Qo z 1 (.int .i64 (h.L.length+1:Nat))
  simpa using this
 ·have z:=Maps.size_put (k:=Qft (h.L.length:Int)) (H.map.tidy hKeyed) (.lit (.int .i64 (g:Int)));rw[H.has _ s,l,H.size] at z
  show Maps.size (G.D.put (Qft (h.L.length:Int)) (.lit (.int .i64 (g:Int))))=_;rw[z,Qc.live_push]
  rfl
 ·intro j a;rw[Qc.place_push]
  by_cases e:j=h.L.length
  ·subst e;rw[Maps.has_put_same H.map.isMap o,Xs Z];rfl
  ·rw[Xr e,Maps.has_put_other (E j e),H.has j a]
 ·intro j q a m;rw[Qc.place_push] at m
  by_cases e:j=h.L.length
  ·subst e;show (G.D.put _ _).atKey _ _=_;rw[Maps.atKey_put_same H.map.isMap o];simp
  ·rw[Xr e] at m
   show (G.D.put _ _).atKey _ _=_;have U:=(Qc.place_some m).1;have N:¬ j.toNat=h.L.length:=by omega
   rw[Maps.atKey_put_other (E j e),H.at_ j q a m]
   simp only[N,if_false]
 ·intro j q a m;by_cases e:j=h.L.length
  ·subst e
   have:q=newP:=by simpa using a.symm
   subst this;simp only[if_pos]
   refine⟨.slice none 0 0,fun _=>.slice none 0 0,?_,⟨Z,.inl ⟨Z,Z⟩⟩,fun i t F=>by simp[newP] at F,fun i j t u x d=>by simp[newP] at d,Z,fun x c=>by simp[Value.ownBlock] at c,fun i t x d=>by simp[newP] at d⟩
   rw[B g (by omega)];exact p
  ·have f:j<h.L.length:=by have:=(Zi a).1;simp at this;omega
   rw[XP f] at a
   simp only[e,if_false]
   have R:=(H.reg j q a m).keep (w':=w1.setCell ⟨b,1,none⟩ (.int .i64 (h.L.length+1:Nat))) (fun x c M=>(B x (H.os j x c).2.1).trans (C x M (H.os j x c).2.2));obtain⟨J,K,r⟩:=R
   exact⟨J,K,r.box,r.row,r.part,r.inj,⟨f,r.ob⟩,fun x c=>⟨f,r.ot x c⟩,fun i t x d c=>⟨f,r.op i t x d c⟩⟩
 ·intro i j x d a;by_cases v:i=h.L.length<;>by_cases y:j=h.L.length
  ·rw[v,y]
  ·simp only[v,if_pos,y,if_false] at d a
   have:=H.lt x (H.os j x a.2).1;omega
  ·simp only[v,if_pos,y,if_false] at d a
   have:=H.lt x (H.os i x d.2).1;omega
  ·simp only[v,y,if_false] at d a
   exact H.dis i j x d.2 a.2
 ·intro j x a;by_cases e:j=h.L.length
  ·simp only[e,if_pos] at a
   exact⟨.inr a,by omega,by show x≠G.bm;omega⟩
  ·simp only[e,if_false] at a
   exact⟨.inl (H.os j x a.2).1,(H.os j x a.2).2⟩
 ·rintro x (c | c)
  ·have:=H.lt x c;simp;omega
  ·subst c;have:=XC p;simpa using this
end
theorem Xt:type_of% @decide_eq_true:=@decide_eq_true
theorem Xu:type_of% @decide_eq_false:=@decide_eq_false
theorem Xy:type_of% @bodyPost_ret:=@bodyPost_ret
theorem QY (w:World) (o:Obj):Below w.heap.size w (w.alloc o):=(Below.refl _ w).alloc Ze _
theorem Qae (h:Below B w w1) (n:Nat):Below B w (w1.drewN n):=⟨h.os,h.tape,h.output,h.size,h.block⟩
theorem Qai (w:World) (o a:Obj):Below w.heap.size w ((w.alloc o).alloc a):=(QY w o).alloc (by simp) _
theorem Qf3 (w:World) (c:Array Value) (t:TypeId) (a:Obj):((w.alloc (.cells c t)).alloc a).heap[w.heap.size]?=some (.cells c t (0,0)):=by
 rw[Below.heap_alloc _ _ _ (by simp)];exact Qh w c t
theorem QbI (w:World) (o:Obj) (c:Array Value) (t:TypeId):((w.alloc o).alloc (.cells c t)).heap[w.heap.size+1]?=some (.cells c t (0,0)):=by
 have:=Qh (w.alloc o) c t
 simpa using this
theorem Z1 {a0 e g f:Value}(h:w.heap[R]?=some (.cells #[a0,e,g,f] 183 (0,0))) (c d b a:Int) :
 ((((w.setCell ⟨R,0,none⟩ (.int .i64 c)).setCell ⟨R,1,none⟩ (.int .i64 d)).setCell ⟨R,2,none⟩ (.int .i64 b)).setCell ⟨R,3,none⟩ (.int .i64 a)).heap[R]?=some (.cells #[.int .i64 c,.int .i64 d,.int .i64 b,.int .i64 a] 183 (0,0)):=by
 have k:=Qo h 0 (.int .i64 c);have j:=Qo k 1 (.int .i64 d);have l:=Qo j 2 (.int .i64 b);have i:=Qo l 3 (.int .i64 a);simpa using i
theorem QbE (a:k≠R) (d e c b:Int):((((w.setCell ⟨R,0,none⟩ (.int .i64 d)).setCell ⟨R,1,none⟩ (.int .i64 e)).setCell ⟨R,2,none⟩ (.int .i64 c)).setCell ⟨R,3,none⟩ (.int .i64 b)).heap[k]?=w.heap[k]?:=by
 rw[Xd _ _ _ _ a,Xd _ _ _ _ a,Xd _ _ _ _ a,Xd _ _ _ _ a]
theorem Qbv {b:World}(h:Below B b w) (a:B<=R) (e f d c:Int):Below B b ((((w.setCell ⟨R,0,none⟩ (.int .i64 e)).setCell ⟨R,1,none⟩ (.int .i64 f)).setCell ⟨R,2,none⟩ (.int .i64 d)).setCell ⟨R,3,none⟩ (.int .i64 c)) :=
 (((h.setCell (p:=⟨R,0,none⟩) a _).setCell (p:=⟨R,1,none⟩) a _).setCell (p:=⟨R,2,none⟩) a _).setCell (p:=⟨R,3,none⟩) a _
theorem Qdr {a:World}(h:QN O O' a w) (i:a.heap.size<=R) (d e c b:Int):QN O O' a ((((w.setCell ⟨R,0,none⟩ (.int .i64 d)).setCell ⟨R,1,none⟩ (.int .i64 e)).setCell ⟨R,2,none⟩ (.int .i64 c)).setCell ⟨R,3,none⟩ (.int .i64 b)) :=
 ⟨h.os,h.tape,h.output,by simpa using h.size,fun k f g=>(QbE (by omega) d e c b).trans (h.block k f g),h.own⟩
theorem Qhc (v:Qj):v.bare.kind=v.kind:=by
 unfold Qj.bare;split
 ·rename_i h;exact h.symm
 ·split
  ·rename_i h;exact h.symm
  ·split<;>rfl
theorem QgT (w:World) (a b n:Int):Calls prog 177 #[.agg #[.int .i64 1,.int .i64 a,.int .i64 b,.int .i64 n]] w fun e w'=>e=.returned (.agg #[.int .i64 1,.int .i64 0,.int .i64 0,.int .i64 n])/\Below w.heap.size w w':=by
 go_enter func177,ntmps177
 go_wp2
 exact Xy (v:=.agg #[.int .i64 1,.int .i64 0,.int .i64 0,.int .i64 n]) (by simp[results,results177,go_sem]) Z ⟨Z,Qai _ _ _⟩
theorem Qhp (w:World) (a b n:Int):Calls prog 177 #[.agg #[.int .i64 2,.int .i64 a,.int .i64 b,.int .i64 n]] w fun e w'=>e=.returned (.agg #[.int .i64 2,.int .i64 a,.int .i64 0,.int .i64 0])/\Below w.heap.size w w':=by
 go_enter func177,ntmps177
 go_wp2
 exact Xy (v:=.agg #[.int .i64 2,.int .i64 a,.int .i64 0,.int .i64 0]) (by simp[results,results177,go_sem]) Z ⟨Z,Qai _ _ _⟩
theorem QgR (w:World) (a b n:Int):Calls prog 177 #[.agg #[.int .i64 3,.int .i64 a,.int .i64 b,.int .i64 n]] w fun e w'=>e=.returned (.agg #[.int .i64 3,.int .i64 a,.int .i64 b,.int .i64 0])/\Below w.heap.size w w':=by
 go_enter func177,ntmps177
 go_wp2
 exact Xy (v:=.agg #[.int .i64 3,.int .i64 a,.int .i64 b,.int .i64 0]) (by simp[results,results177,go_sem]) Z ⟨Z,Qai _ _ _⟩
theorem Qh4 (w:World) (a b n:Int):Calls prog 177 #[.agg #[.int .i64 4,.int .i64 a,.int .i64 b,.int .i64 n]] w fun e w'=>e=.returned (.agg #[.int .i64 4,.int .i64 a,.int .i64 b,.int .i64 0])/\Below w.heap.size w w':=by
 go_enter func177,ntmps177
 go_wp2
 exact Xy (v:=.agg #[.int .i64 4,.int .i64 a,.int .i64 b,.int .i64 0]) (by simp[results,results177,go_sem]) Z ⟨Z,Qai _ _ _⟩
theorem QgD (w:World) (a c b n:Int) (g:(a==1)=false) (f:(a==2)=false) (h:(a==3)=false) (d:(a==4)=false):Calls prog 177 #[.agg #[.int .i64 a,.int .i64 c,.int .i64 b,.int .i64 n]] w fun e w'=>e=.returned (.agg #[.int .i64 a,.int .i64 0,.int .i64 0,.int .i64 0])/\Below w.heap.size w w':=by
 go_enter func177,ntmps177
 go_wp2
 exact Xy (v:=.agg #[.int .i64 a,.int .i64 0,.int .i64 0,.int .i64 0]) (by simp[results,results177,go_sem]) Z ⟨Z,Qai _ _ _⟩
theorem Qej (w:World) (v:Qj):Calls prog 177 #[QF v] w fun e w'=>e=.returned (QF v.bare)/\Below w.heap.size w w':=by
 obtain⟨a,c,b,n⟩:=v
 by_cases g:a=1
 ·subst g;exact QgT w c b n
 by_cases f:a=2
 ·subst f;exact Qhp w c b n
 by_cases h:a=3
 ·subst h;exact QgR w c b n
 by_cases d:a=4
 ·subst d;exact Qh4 w c b n
 have:=QgD w a c b n (by simpa using g) (by simpa using f) (by simpa using h) (by simpa using d)
 rw[show Qj.bare ⟨a,c,b,n⟩=⟨a,0,0,0⟩ by unfold Qj.bare;simp[g,f,h,d]]
 exact this
theorem Qcn (w:World) (a:Option Addr) (n c:Nat) (k:Int) (hn:n<=4611686018427387904):Calls prog 180 #[.slice a n c,.int .i64 k] w fun e w'=>e=.returned (.bool (decide (0<=k)&&decide (k<(n:Int))))/\w'=w:=by
 by_cases d:0<=k
 ·have b:decide (0<=k)=true:=Xt d;have f:decide (k>=0)=true:=Xt d;rw[b]
  clear d;go_enter func180,ntmps180
  go_wp2
  go_ret;simp
 ·have b:decide (0<=k)=false:=Xu d;have f:decide (k>=0)=false:=Xu d;rw[b]
  clear d;go_enter func180,ntmps180
  go_wp2
  go_ret;simp
theorem QkL (h:Qc) (v:Qj):(h.at v).isSome=((h.place v.region).isSome&&(v.kind==2)):=by
 unfold Qc.at;by_cases e:v.kind=2
 ·rw[Xs e,e];simp
 ·rw[Xr e];simp[e]
theorem QaA {h:Qc}{G:HG}(H:HIn w b O h G) (v:Qj) (k:v.ok) :
 Calls prog 156 #[.pointer (some ⟨b,0,none⟩),QF v] w fun e w'=>e=.returned (.tuple #[.pointer (hptr h G v.region),.bool (h.at v).isSome])/\Below w.heap.size w w':=by
 have c:=Qb (QY w (.cells #[.int .i64 v.kind,.int .i64 v.region,.int .i64 v.thing,.int .i64 v.n] 183));have d:=Qb (Qh w #[.int .i64 v.kind,.int .i64 v.region,.int .i64 v.thing,.int .i64 v.n] 183);have g:=H.below c.out;have f:=g.lookN k.2.1;have j:=Qa g.top 2 _ Z;rw[QkL h v]
 clear H g k;obtain⟨l,i,m,n⟩:=v
 simp only at *
 generalize hptr h G i=a at f |-;generalize (h.place i).isSome=ok at f |-;generalize G.bm=q at f j;go_enter func156,ntmps156
 go_upto_region 1 with fail
 generalize w.alloc (.cells #[.int .i64 l,.int .i64 i,.int .i64 m,.int .i64 n] 183)=r at c d f j |-;generalize w.heap.size=X at d |-;have o:=Qa d.out 0 _ Z;have p:=Qa d.out 1 _ Z;go_quiet (fail)
 go_wp2
 cases ok with
 | true =>
   go_quiet (fail)
   go_wp2
   go_ret2;exact⟨by simp,Qae (Qae c.out _) _⟩
 | false =>
   go_quiet (fail)
   go_wp2
   go_ret2;exact⟨by simp,Qae (Qae c.out _) _⟩
theorem QjR {a:Addr}{o:Obj}(h:w.cell? a=some v):((w.drewN m).alloc o).cell? a=some v:=by
 have c:a.block<w.heap.size:=by
  rcases Nat.lt_or_ge a.block w.heap.size with b | b
  ·exact b
  ·simp[World.cell?,Array.getElem?_eq_none b] at h
 rw[<-h]
 exact XU (w:=w) (Below.heap_alloc (w.drewN m) o _ c)
theorem Qji (h:Below B w w1):Below B w w1.drew:=⟨h.os,h.tape,h.output,h.size,h.block⟩
theorem QcE {a:Addr}{o:Obj}(h:w.cell? a=some v):(w.alloc o).cell? a=some v:=QjR (m:=0) h
theorem Qk7 {l:List Qq}{pv:Nat->Value}{t:Qq}(h:w.ownsRow 0 242 2 (.slice (some ⟨g,0,none⟩) n c) l.length (Z9 pv l 0)) (d:l[i]?=some t) :
 w.cell? ⟨g,i*2,none⟩=some (.int .i64 t.knd)/\w.cell? ⟨g,i*2+1,none⟩=some (pv i):=by
 have p:=(Zi d).1;obtain⟨b,a⟩:=QfX pv l 0 i t d
 rw[XK] at a
 rcases h.2 with ⟨e,-⟩|⟨o,m,k,e,-,f,-,-,-,j⟩
 ·cases e
 ·cases e
  rw[<-j] at b a
  rw[XR,Xs (by omega)] at b a
  exact⟨Qa f _ _ (by simpa using b),Qa f _ _ (by simpa using a)⟩
theorem Qe3 {h:Qc}{G:HG}(H:HIn w b O h G) (i c j n:Int) (d:Zh c) (m:h.place c=none) :
 Calls prog 179 #[.pointer (some ⟨b,0,none⟩),.agg #[.int .i64 i,.int .i64 c,.int .i64 j,.int .i64 n]] w fun e w'=>e=.returned (.tuple #[.slice none 0 0,.bool false])/\Below w.heap.size w w':=by
 have l:=Qb (QY w (.cells #[.int .i64 i,.int .i64 c,.int .i64 j,.int .i64 n] 183));have f:=Qb (Qh w #[.int .i64 i,.int .i64 c,.int .i64 j,.int .i64 n] 183);have k:=H.below l.out;have g:=k.lookN d;have o:=Qa k.top 2 _ Z;rw[m] at g
 clear H k d m;generalize hptr h G c=a at g |-;simp only[Option.isSome_none] at g
 generalize G.bm=s at g o;go_enter func179,ntmps179
 go_upto_region 1 with fail
 generalize w.alloc (.cells #[.int .i64 i,.int .i64 c,.int .i64 j,.int .i64 n] 183)=t at l f g o |-;generalize w.heap.size=X at f |-;have q:=Qa f.out 0 _ Z;have r:=Qa f.out 1 _ Z;have p:=Qa f.out 2 _ Z;go_quiet (fail)
 go_wp2
 go_quiet (fail)
 go_wp2
 go_ret2;exact⟨Z,Qae (Qae l.out _) _⟩
theorem Qga {h:Qc}{G:HG}(H:HIn w b O h G) (m d i n:Int) (j:Zh d){p:Qi}(v:h.place d=some p) (r:i<0) (B:p.l.length<=4611686018427387904){t:Value}{pv:Nat->Value}(R:Z4 w (G.g d.toNat) d.toNat p (G.S d.toNat) t pv) :
 Calls prog 179 #[.pointer (some ⟨b,0,none⟩),.agg #[.int .i64 m,.int .i64 d,.int .i64 i,.int .i64 n]] w fun e w'=>e=.returned (.tuple #[.slice none 0 0,.bool false])/\Below w.heap.size w w':=by
 have o:=Qb (QY w (.cells #[.int .i64 m,.int .i64 d,.int .i64 i,.int .i64 n] 183));have k:=Qb (Qh w #[.int .i64 m,.int .i64 d,.int .i64 i,.int .i64 n] 183);have q:=H.below o.out;have f:=q.lookN j;have s:=Qa q.top 2 _ Z;have y:=R.keep (fun x _ z=>o.out.block x z)
 obtain⟨I,J,rfl⟩:∃ a c,t=.slice a p.l.length c:=by
  rcases R.row.2 with ⟨e,A⟩|⟨g,C,D,e,_⟩
  ·exact⟨none,0,by rw[e,A]⟩
  ·exact⟨_,_,e⟩
 have u:=Qa y.box 3 _ Z;unfold hptr at f;rw[v] at f
 clear H q j v R y;simp only[Option.isSome_some,if_true] at f
 generalize G.bm=L at f s;generalize G.g d.toNat=Q at f u;generalize p.l.length=E at *;have P:decide (i<0)=true:=Xt r;go_enter func179,ntmps179
 go_upto_region 1 with fail
 generalize w.alloc (.cells #[.int .i64 m,.int .i64 d,.int .i64 i,.int .i64 n] 183)=M at o k f s u |-;generalize w.heap.size=X at k |-;have F:=Qa k.out 0 _ Z;have K:=Qa k.out 1 _ Z;have N:=Qa k.out 2 _ Z;go_quiet (fail)
 go_wp2
 go_quiet (fail)
 go_wp2
 go_ret2;exact⟨Z,Qae (Qae o.out _) _⟩
theorem Qgs {h:Qc}{G:HG}(H:HIn w b O h G) (m d f n:Int) (j:Zh d){p:Qi}(v:h.place d=some p) (r:(p.l.length:Int)<=f) (D:p.l.length<=4611686018427387904){t:Value}{pv:Nat->Value}(R:Z4 w (G.g d.toNat) d.toNat p (G.S d.toNat) t pv) :
 Calls prog 179 #[.pointer (some ⟨b,0,none⟩),.agg #[.int .i64 m,.int .i64 d,.int .i64 f,.int .i64 n]] w fun e w'=>e=.returned (.tuple #[.slice none 0 0,.bool false])/\Below w.heap.size w w':=by
 have o:=Qb (QY w (.cells #[.int .i64 m,.int .i64 d,.int .i64 f,.int .i64 n] 183));have k:=Qb (Qh w #[.int .i64 m,.int .i64 d,.int .i64 f,.int .i64 n] 183);have q:=H.below o.out;have i:=q.lookN j;have s:=Qa q.top 2 _ Z;have y:=R.keep (fun x _ A=>o.out.block x A)
 obtain⟨J,K,rfl⟩:∃ a c,t=.slice a p.l.length c:=by
  rcases R.row.2 with ⟨e,C⟩|⟨g,E,F,e,_⟩
  ·exact⟨none,0,by rw[e,C]⟩
  ·exact⟨_,_,e⟩
 have u:=Qa y.box 3 _ Z;unfold hptr at i;rw[v] at i
 clear H q j v R y;simp only[Option.isSome_some,if_true] at i
 generalize G.bm=M at i s;generalize G.g d.toNat=T at i u;generalize p.l.length=z at *;have Q:decide (f<0)=false:=Xu (by omega);have B:decide (f>=(z:Int))=true:=Xt r;go_enter func179,ntmps179
 go_upto_region 1 with fail
 generalize w.alloc (.cells #[.int .i64 m,.int .i64 d,.int .i64 f,.int .i64 n] 183)=N at o k i s u |-;generalize w.heap.size=X at k |-;have I:=Qa k.out 0 _ Z;have L:=Qa k.out 1 _ Z;have P:=Qa k.out 2 _ Z;go_quiet (fail)
 go_wp2
 go_quiet (fail)
 go_wp2
 go_ret2;exact⟨Z,Qae (Qae o.out _) _⟩
theorem Qfb {h:Qc}{G:HG}(H:HIn w b O h G) (s f n:Int) (i:Nat) (r:Zh f){p:Qi}(hp:h.place f=some p){t:Qq}(A:p.l[i]?=some t) (ad:p.l.length<=4611686018427387904){tv:Value}{pv:Nat->Value}(R:Z4 w (G.g f.toNat) f.toNat p (G.S f.toNat) tv pv) :
 Calls prog 179 #[.pointer (some ⟨b,0,none⟩),.agg #[.int .i64 s,.int .i64 f,.int .i64 (i:Int),.int .i64 n]] w fun e w'=>e=.returned (.tuple #[pv i,.bool (t.knd==s)])/\Below w.heap.size w w':=by
 have u:=Qb (QY w (.cells #[.int .i64 s,.int .i64 f,.int .i64 (i:Int),.int .i64 n] 183));have k:=Qb (Qh w #[.int .i64 s,.int .i64 f,.int .i64 (i:Int),.int .i64 n] 183);have J:=H.below u.out;have j:=J.lookN r;have K:=Qa J.top 2 _ Z;have W:=R.keep (fun x _ hx=>u.out.block x hx);have hi:=(Zi A).1
 obtain⟨tg,tc,rfl⟩:∃ g c,tv=.slice (some ⟨g,0,none⟩) p.l.length c:=by
  rcases R.row.2 with ⟨e,e0⟩|⟨g,ae,af,e,_⟩
  ·omega
  ·exact⟨_,_,e⟩
 obtain⟨T,F⟩:=Qk7 W.row A
 obtain⟨v,y,z,q⟩:∃ a n c,pv i=.slice a n c:=by
  obtain⟨⟨a,c,e⟩,-⟩:=R.part i t A
  exact⟨a,_,c,e⟩
 rw[q] at F |-
 have D:=Qa W.box 3 _ Z;unfold hptr at j;rw[hp] at j
 clear H J r hp R W A q;simp only[Option.isSome_some,if_true] at j
 generalize G.bm=bm at j K;generalize G.g f.toNat=gk at j D;generalize p.l.length=tn at *;generalize t.knd=C at *;have hd:decide ((i:Int)<0)=false:=Xu (by omega);have ac:decide ((i:Int)>=(tn:Int))=false:=Xu (by omega);go_enter func179,ntmps179
 go_upto_region 1 with fail
 generalize w.alloc (.cells #[.int .i64 s,.int .i64 f,.int .i64 (i:Int),.int .i64 n] 183)=m at u k j K D T F |-;generalize w.heap.size=X at k |-;have x0:=Qa k.out 0 _ Z;have x1:=Qa k.out 1 _ Z;have x2:=Qa k.out 2 _ Z;go_quiet (fail)
 go_wp2
 revert nq
 intro d;go_quiet (fail)
 go_wp2_with fail
 have E:=Qb (Qae (Qae u.out d) nq);have I:((m.drewN d).drewN nq).cell? ⟨X,0,none⟩=_:=x0;have y2:((m.drewN d).drewN nq).cell? ⟨X,2,none⟩=_:=x2;have P:((m.drewN d).drewN nq).cell? ⟨gk,3,none⟩=_:=D;have N:((m.drewN d).drewN nq).cell? ⟨tg,i*2,none⟩=_:=T;have Q:((m.drewN d).drewN nq).cell? ⟨tg,i*2+1,none⟩=_:=F;generalize (m.drewN d).drewN nq=L at E I y2 P N Q |-;clear x0 x1 x2 D T F j K k u;have U:=QcE (o:=.cells #[.int .i64 0,.slice none 0 0] 242) y2;have ab:=QcE (o:=.cells #[.int .i64 0,.slice none 0 0] 242) P;have aa:=QcE (o:=.cells #[.int .i64 0,.slice none 0 0] 242) N;have V:=QcE (o:=.cells #[.int .i64 0,.slice none 0 0] 242) Q;have B:=Qb (Qh L #[.int .i64 C,.slice v y z] 242);have B3:=Qb ((E.out.alloc E.out.size (.cells #[.int .i64 C,.slice v y z] 242)));have M:=QcE (o:=.cells #[.int .i64 C,.slice v y z] 242) I;go_region;go_wp2_with fail
 generalize L.alloc (.cells #[.int .i64 C,.slice v y z] 242)=w3 at B B3 M |-;generalize L.heap.size=Y at B |-;have n0:=Qa B.out 0 _ Z;have n1:=Qa B.out 1 _ Z;clear E I y2 P N Q U ab aa V;go_quiet (fail)
 go_wp2
 go_ret2;exact⟨Z,Qae (Qji B3.out) _⟩
def QfU (w:World) (h:Qc) (G:HG) (v:Qj) (a:Option Addr) (n c:Nat):Prop :=
 ∀ t,h.thing v=some t->n=t.l.length/\∃ p tv pv,0<=v.thing/\h.place v.region=some p/\p.l[v.thing.toNat]?=some t/\Z4 w (G.g v.region.toNat) v.region.toNat p (G.S v.region.toNat) tv pv/\pv v.thing.toNat=.slice a n c
theorem QkQ (t:Qq) (a:Int):(t.knd==a)=(decide (a=3\/a=4)&&(t.arr==decide (a=4))):=by
 unfold Qq.knd;by_cases c:a=3
 ·subst c;cases t.arr<;>rfl
 ·by_cases b:a=4
  ·subst b;cases t.arr<;>rfl
  ·cases t.arr<;>simp[c,b]<;>omega
theorem QbO {h:Qc}{G:HG}(H:HIn w b O h G) (v:Qj) (x:v.ok) (A:∀ (k:Nat) (p:Qi),h.L[k]?=some p->p.l.length<=4611686018427387904) :
 Calls prog 179 #[.pointer (some ⟨b,0,none⟩),QF v] w fun e w'=>(∃ a n c,e=.returned (.tuple #[.slice a n c,.bool (h.thing v).isSome])/\QfU w h G v a n c)/\Below w.heap.size w w':=by
 obtain⟨g,o,m,n⟩:=v
 have z:∀ (B:h.thing ⟨g,o,m,n⟩=none) (e:Ending) (w':World),(e=.returned (.tuple #[.slice none 0 0,.bool false])/\Below w.heap.size w w')->(∃ a n' c,e=.returned (.tuple #[.slice a n' c,.bool (h.thing ⟨g,o,m,n⟩).isSome])/\QfU w h G ⟨g,o,m,n⟩ a n' c)/\Below w.heap.size w w':=by
  rintro B e w' ⟨rfl,D⟩;exact⟨⟨none,0,0,by rw[B];rfl,fun t q=>by rw[B] at q;cases q⟩,D⟩
 cases hp:h.place o with
 | none=>exact(Qe3 H g o m n x.2.1 hp).mono (z (by unfold Qc.thing;simp[hp]))
 | some p =>
   obtain⟨Q,E,P⟩:=Qc.place_some hp
   obtain⟨J,K,R⟩:=H.reg _ p E P
   have j:=A _ p E;by_cases d:m<0
   ·exact(Qga H g o m n x.2.1 hp d j R).mono (z (by unfold Qc.thing;simp[hp,d]))
   by_cases r:(p.l.length:Int)<=m
   ·exact(Qgs H g o m n x.2.1 hp r j R).mono (z (by unfold Qc.thing;simp[hp,d,List.getElem?_eq_none (show p.l.length<=m.toNat by omega)]))
   obtain⟨i,rfl⟩:=Xc (show 0<=m by omega)
   obtain⟨t,q⟩:∃ t,p.l[i]?=some t:=⟨_,Zg (show i<p.l.length by omega)⟩
   obtain⟨⟨F,I,s⟩,-⟩:=R.part i t q
   refine(Qfb H g o n i x.2.1 hp q j R).mono ?_
   rintro e w' ⟨rfl,D⟩
   have M:(h.thing ⟨g,o,(i:Int),n⟩).isSome=(t.knd==g):=by
    rw[QkQ]
    unfold Qc.thing;simp only[hp,Int.toNat_natCast,q,if_neg d]
    by_cases u:g=3\/g=4
    ·rw[Xs u,Xt u]
     by_cases y:t.arr=decide (g=4)
     ·rw[Xs y,y];simp
     ·have C:(t.arr==decide (g=4))=false:=beq_false_of_ne y;rw[Xr y,C];rfl
    ·rw[Xr u,Xu u];rfl
   refine⟨⟨F,t.l.length,I,by rw[M,s],fun N f=>?_⟩,D⟩
   have:N=t:=by
    unfold Qc.thing at f;simp only[hp,Int.toNat_natCast,q,if_neg d] at f
    split at f
    ·split at f
     ·cases f;rfl
     ·cases f
    ·cases f
   subst this;exact⟨Z,p,J,K,Int.natCast_nonneg i,hp,by simpa using q,R,by simpa using s⟩
theorem QiL {h:Qc}{G:HG}(H:HIn w b O h G) (v:Qj) (x:v.ok) (f:∀ (k:Nat) (p:Qi),h.L[k]?=some p->p.l.length<=4611686018427387904) :
 Calls prog 163 #[.pointer (some ⟨b,0,none⟩),QF v] w fun e w'=>e=.returned (.tuple #[.int .i64 (h.len v).1,.int .i64 (h.len v).2])/\Below w.heap.size w w':=by
 have g:=Qb (QY w (.cells #[.int .i64 v.kind,.int .i64 v.region,.int .i64 v.thing,.int .i64 v.n] 183));have d:=Qb (Qh w #[.int .i64 v.kind,.int .i64 v.region,.int .i64 v.thing,.int .i64 v.n] 183);have C:=Qb (QbO (H.below g.out) v x f);have E:=Qb (show h.len v=match h.thing v with | none=>(0,20) | some t=>(t.l.length,0) from Z);clear H x f;generalize j:h.len v=s at E |-;clear j;go_enter func163,ntmps163
 go_upto_region 1 with fail
 generalize w.alloc (.cells #[.int .i64 v.kind,.int .i64 v.region,.int .i64 v.thing,.int .i64 v.n] 183)=D at g d C |-;have i:=g;generalize w.heap.size=X at d |-;have u:=Qa d.out 0 _ Z;have z:=Qa d.out 1 _ Z;have r:=Qa d.out 2 _ Z;have q:=Qa d.out 3 _ Z;go_wp2_with fail
 refine C.out.mono ?_;rintro e B ⟨⟨a,n,c,rfl,P⟩,o⟩;have A:=Qb (i.out.trans (o.mono i.out.size))
 cases ht:h.thing v with
 | none =>
   have m:Hid (s=(0,20)):=by show _=_;rw[E.out,ht]
   simp only[Option.isSome_none]
   clear E C P ht u z r q d g i o;go_wp2
   go_ret2;exact⟨by rw[m.out];rfl,A.out⟩
 | some t =>
   have y:=(P t ht).1;have m:Hid (s=((n:Int),0)):=by show _=_;rw[E.out,ht,y]
   simp only[Option.isSome_some]
   clear E C P ht u z r q d g i o y;go_wp2
   go_ret2;exact⟨by rw[m.out];rfl,A.out⟩
theorem Qfr {l:List Qj}{x:Qj}(a:l[k]?=some x) (b:j<4):Q7 l (k*4+j)=vAt x j:=by
 unfold Q7;rw[show (k*4+j) / 4=k by omega,show (k*4+j)%4=j by omega]
 simp[List.getD,a]
theorem Qav {l:List Qj}(h:w.rowIs g 183 (l.length*4) (Q7 l)){x:Qj}(a:l[k]?=some x):w.cell? ⟨g,k*4,none⟩=some (.int .i64 x.kind)/\w.cell? ⟨g,k*4+1,none⟩=some (.int .i64 x.region)/\w.cell? ⟨g,k*4+2,none⟩=some (.int .i64 x.thing)/\w.cell? ⟨g,k*4+3,none⟩=some (.int .i64 x.n):=by
 have d:=(Zi a).1;have c:∀ j,j<4->w.cell? ⟨g,k*4+j,none⟩=some (vAt x j):=fun j b=>by rw[<-Qfr a b];exact h.cell (by omega)
 exact⟨c 0 (by omega),c 1 (by omega),c 2 (by omega),c 3 (by omega)⟩
theorem Qi4 {h:Qc}{G:HG}(H:HIn w b O h G) (v:Qj) (hv:v.ok) (k:Int) (K:∀ (k:Nat) (p:Qi),h.L[k]?=some p->p.l.length<=4611686018427387904) (B:∀ t,h.thing v=some t->t.l.length<=4611686018427387904) :
 Calls prog 161 #[.pointer (some ⟨b,0,none⟩),QF v,.int .i64 k] w fun e w'=>e=.returned (.tuple #[QF (h.get v k).1,.int .i64 (h.get v k).2])/\Below w.heap.size w w':=by
 have U:=Qb (Qai w (.cells #[.int .i64 v.kind,.int .i64 v.region,.int .i64 v.thing,.int .i64 v.n] 183) (.cells #[.int .i64 0,.int .i64 0,.int .i64 0,.int .i64 0] 183));have r:=Qb (Qf3 w #[.int .i64 v.kind,.int .i64 v.region,.int .i64 v.thing,.int .i64 v.n] 183 (.cells #[.int .i64 0,.int .i64 0,.int .i64 0,.int .i64 0] 183));have j:=Qb (QbI w (.cells #[.int .i64 v.kind,.int .i64 v.region,.int .i64 v.thing,.int .i64 v.n] 183) #[.int .i64 0,.int .i64 0,.int .i64 0,.int .i64 0] 183);have H1:=Qb (H.below U.out);have C:=Qb (QbO H1.out v hv K);have E:=Qb (show h.get v k=match h.thing v with | none=>(noV,20) | some t=>if k<0 then (noV,1) else match t.l[k.toNat]? with | none=>(noV,1) | some x=>(x,0) from Z);have HT:=Qb B;clear H hv K B;generalize aa:h.get v k=lv at E |-;clear aa;go_enter func161,ntmps161
 go_upto_region 1 with fail
 generalize (w.alloc (.cells #[.int .i64 v.kind,.int .i64 v.region,.int .i64 v.thing,.int .i64 v.n] 183)).alloc (.cells #[.int .i64 0,.int .i64 0,.int .i64 0,.int .i64 0] 183)=w1 at U r j C H1 |-;obtain⟨X,hX⟩:∃ X,X=w.heap.size:=⟨_,Z⟩
 obtain⟨R,hR⟩:∃ R,R=X+1:=⟨_,Z⟩
 have HR:Hid (w.heap.size<=R):=by show _<=_;omega
 rw[<-hX] at r j |-
 rw[<-hR] at j |-
 clear hX hR;have y:=Qa r.out 0 _ Z;have z:=Qa r.out 1 _ Z;have A:=Qa r.out 2 _ Z;have u:=Qa r.out 3 _ Z;go_wp2_with fail
 refine C.out.mono ?_;rintro e m ⟨⟨a,n,c,rfl,P⟩,Q⟩;have BL:=Qb (U.out.trans (Q.mono U.out.size));have d:=Qb ((Q.block R (XC j.out)).trans j.out);clear y z A u C r U;have r0:=Qa d.out 0 _ Z;have r1:=Qa d.out 1 _ Z;have r2:=Qa d.out 2 _ Z;have r3:=Qa d.out 3 _ Z;have f0:=Qf d.out 0;have f1:=Qf d.out 1;have f2:=Qf d.out 2;have f3:=Qf d.out 3;have s:Hid (∀ y z A u:Int,Below w.heap.size w ((((m.setCell ⟨R,0,none⟩ (.int .i64 y)).setCell ⟨R,1,none⟩ (.int .i64 z)).setCell ⟨R,2,none⟩ (.int .i64 A)).setCell ⟨R,3,none⟩ (.int .i64 u))/\((((m.setCell ⟨R,0,none⟩ (.int .i64 y)).setCell ⟨R,1,none⟩ (.int .i64 z)).setCell ⟨R,2,none⟩ (.int .i64 A)).setCell ⟨R,3,none⟩ (.int .i64 u)).heap[R]?=some (.cells #[.int .i64 y,.int .i64 z,.int .i64 A,.int .i64 u] 183 (0,0))):=fun y z A u=>⟨Qbv BL.out HR.out _ _ _ _,Z1 d.out _ _ _ _⟩
 cases ht:h.thing v with
 | none =>
   have M:Hid (lv=(noV,20)):=by show _=_;rw[E.out,ht]
   simp only[Option.isSome_none]
   clear E P ht Q j d BL HR H1 HT;go_wp2
   have f:=s.out 0 0 0 0;generalize ((((m.setCell ⟨R,0,none⟩ (.int .i64 0)).setCell ⟨R,1,none⟩ (.int .i64 0)).setCell ⟨R,2,none⟩ (.int .i64 0)).setCell ⟨R,3,none⟩ (.int .i64 0))=S at f |-;have J:=Qa f.2 0 _ Z;have o:=Qa f.2 1 _ Z;have D:=Qa f.2 2 _ Z;have N:=Qa f.2 3 _ Z;exact Xy (v:=.tuple #[.agg #[.int .i64 0,.int .i64 0,.int .i64 0,.int .i64 0],.int .i64 20]) (by simp[results,results161,go_sem,J,o,D,N]) Z ⟨by rw[M.out]<;>rfl,f.1⟩
 | some t =>
   obtain⟨hn,p,tv,pv,h0,hp,hi,RI,hs⟩:=P t ht
   have V:=RI.keep (w':=m) (fun x _ F=>Q.block x F);have ab:n<=4611686018427387904:=by rw[hn];exact HT.out t ht
   have CP:=Qb (fun wx=>Qcn wx a n c k ab);have E1:Hid (lv=(if k<0 then (noV,1) else match t.l[k.toNat]? with | none=>(noV,1) | some x=>(x,0):Qj × Int)):=by show _=_;rw[E.out,ht]
   have PA:Hid (ZD m (.slice a n c) t.l):=by show ZD _ _ _;rw[<-hs];exact V.part _ t hi
   have HN:=Qb hn;simp only[Option.isSome_some]
   clear E P ht Q j d BL HR H1 HT RI V hs hi hp h0 hn;by_cases I:0<=k/\k<(n:Int)
   ·have T:(decide (0<=k)&&decide (k<(n:Int)))=true:=by simp[I.1,I.2]
    rw[T] at CP
    clear T;obtain⟨W,rfl⟩:=Xc I.1
    have i:W<t.l.length:=by rw[<-HN.out];omega
    obtain⟨x,F⟩:∃ x,t.l[W]?=some x:=⟨_,Zg i⟩
    have M:Hid (lv=(x,0)):=by show _=_;rw[E1.out,Xr (by omega),XT,F]
    obtain⟨g,c',e',hr⟩:=PA.out.2 (fun e=>by rw[e] at i;simp at i)
    simp only[Value.slice.injEq] at e'
    obtain⟨rfl,o,rfl⟩:=e'
    obtain⟨q0,q1,q2,q3⟩:=Qav hr F
    have ac:W<n:=by omega
    have ad:(W:Int)<n:=by omega
    clear I i hr F E1 PA HN o;obtain⟨xk,xr,xt,xn⟩:=x
    simp only at q0 q1 q2 q3
    go_wp2_with (go_at_call 180;refine(CP.out _).mono ?_;rintro e w' ⟨rfl,q⟩;have q:=q.symm;subst q)
    have f:=s.out xk xr xt xn;generalize ((((m.setCell ⟨R,0,none⟩ (.int .i64 xk)).setCell ⟨R,1,none⟩ (.int .i64 xr)).setCell ⟨R,2,none⟩ (.int .i64 xt)).setCell ⟨R,3,none⟩ (.int .i64 xn))=S at f |-;have J:=Qa f.2 0 _ Z;have o:=Qa f.2 1 _ Z;have D:=Qa f.2 2 _ Z;have N:=Qa f.2 3 _ Z;exact Xy (v:=.tuple #[.agg #[.int .i64 xk,.int .i64 xr,.int .i64 xt,.int .i64 xn],.int .i64 0]) (by simp[results,results161,go_sem,J,o,D,N]) Z ⟨by rw[M.out]<;>rfl,f.1⟩
   ·have T:(decide (0<=k)&&decide (k<(n:Int)))=false:=by
     by_cases h1:0<=k
     ·rw[Xu (show ¬ k<(n:Int) by omega)];simp
     ·rw[Xu h1];rfl
    rw[T] at CP
    have M:Hid (lv=(noV,1)):=by
     show _=_;rw[E1.out]
     by_cases h1:k<0
     ·rw[Xs h1]
     ·rw[Xr h1,Xk (by rw[<-HN.out];omega)]
    clear I T E1 PA HN;go_wp2_with (go_at_call 180;refine(CP.out _).mono ?_;rintro e w' ⟨rfl,q⟩;have q:=q.symm;subst q)
    have f:=s.out 0 0 0 0;generalize ((((m.setCell ⟨R,0,none⟩ (.int .i64 0)).setCell ⟨R,1,none⟩ (.int .i64 0)).setCell ⟨R,2,none⟩ (.int .i64 0)).setCell ⟨R,3,none⟩ (.int .i64 0))=S at f |-;have J:=Qa f.2 0 _ Z;have o:=Qa f.2 1 _ Z;have D:=Qa f.2 2 _ Z;have N:=Qa f.2 3 _ Z;exact Xy (v:=.tuple #[.agg #[.int .i64 0,.int .i64 0,.int .i64 0,.int .i64 0],.int .i64 1]) (by simp[results,results161,go_sem,J,o,D,N]) Z ⟨by rw[M.out]<;>rfl,f.1⟩
theorem Xv:type_of% @of_decide_eq_true:=@of_decide_eq_true
theorem HIn.regSame {h:Qc}{G:HG}(H:HIn w b O h G){p p':Qi}(d:h.L[k]?=some p) (m:p.there=true) (a:p'.there=true) (i:QcR w' (G.g k) k p' (G.S k)) (c:QN (G.S k) (G.S k) w w') :
 HIn w' b O { h with L:=h.L.set k p' } G:=by
 have R:=H.regTo d m a i (fun x l=>Zl (H.lt x (H.os k x l).1) c.size) c;have n:(fun x=>O x\/G.S k x)=O:=funext fun x=>propext ⟨fun h=>h.elim id (fun h=>(H.os k x h).1),Or.inl⟩
 have f:({ G with S:=fun j=>if j=k then G.S k else G.S j }:HG)=G:=by
  have:(fun j=>if j=k then G.S k else G.S j)=G.S:=funext fun j=>by
   by_cases e:j=k
   ·rw[Xs e,e]
   ·rw[Xr e]
  rw[this]
 rwa [n,f] at R
theorem QcM {l:List Qj}(h:w.rowIs g 183 (l.length*4) (Q7 l))(n:k<l.length) (c d b a:Int) :
 ((((w.setCell ⟨g,k*4,none⟩ (.int .i64 c)).setCell ⟨g,k*4+1,none⟩ (.int .i64 d)).setCell ⟨g,k*4+2,none⟩ (.int .i64 b)).setCell ⟨g,k*4+3,none⟩ (.int .i64 a)).rowIs g 183 ((l.set k ⟨c,d,b,a⟩).length*4) (Q7 (l.set k ⟨c,d,b,a⟩)):=by
 rw[List.length_set]
 refine((((h.set (k*4) (.int .i64 c)).set (k*4+1) (.int .i64 d)).set (k*4+2) (.int .i64 b)).set (k*4+3) (.int .i64 a)).congr fun i p=>?_
 by_cases e:i / 4=k
 ·have m:(l.set k ⟨c,d,b,a⟩)[k]?=some ⟨c,d,b,a⟩:=by simp[n]
  obtain⟨j,f,rfl⟩:∃ j,j<4/\i=k*4+j:=⟨i%4,by omega,by omega⟩
  rw[Qfr m f]
  match j,f with
  | 0,_=>simp[vAt]
  | 1,_=>simp[vAt]
  | 2,_=>simp[vAt]
  | 3,_=>simp[vAt]
  | j+4,f=>omega
 ·rw[Xr (by omega),Xr (by omega),Xr (by omega),Xr (by omega)]
  unfold Q7;simp[List.getD,List.getElem?_set_ne (show k≠i / 4 from fun o=>e o.symm)]
theorem Qgo (a:i≠g) (d e c b:Int):((((w.setCell ⟨g,k*4,none⟩ (.int .i64 d)).setCell ⟨g,k*4+1,none⟩ (.int .i64 e)).setCell ⟨g,k*4+2,none⟩ (.int .i64 c)).setCell ⟨g,k*4+3,none⟩ (.int .i64 b)).heap[i]?=w.heap[i]?:=by
 rw[Xd _ _ _ _ a,Xd _ _ _ _ a,Xd _ _ _ _ a,Xd _ _ _ _ a]
theorem Qfe {h:Qc}{v:Qj}{t:Qq}(a:h.thing v=some t):v.kind=t.knd/\(v.kind=3\/v.kind=4)/\(t.arr=decide (v.kind=4)):=by
 unfold Qc.thing at a;split at a
 ·rename_i b
  split at a
  ·cases a
  ·split at a
   ·cases a
   ·split at a
    ·cases a
    ·split at a
     ·rename_i c
      cases a
      refine⟨?_,b,c⟩
      unfold Qq.knd;rw[c]
      rcases b with e | e<;>rw[e]<;>rfl
     ·cases a
 ·cases a
theorem QiG {h:Qc}{G:HG}(H:HIn w b O h G) (v:Qj) (hv:v.ok) (k:Int) (x:Qj) (aa:∀ (k:Nat) (p:Qi),h.L[k]?=some p→p.l.length≤4611686018427387904) (ac:∀ t,h.thing v=some t→t.l.length≤4611686018427387904) :
 Calls prog 162 #[.pointer (some ⟨b,0,none⟩),QF v,.int .i64 k,QF x] w fun e w'=>e=.returned (.int .i64 (h.set v k x.bare).1)∧HIn w' b O (h.set v k x.bare).2 G∧QN O O w w':=by
 have B0:=Qb (Qai w (.cells #[.int .i64 v.kind,.int .i64 v.region,.int .i64 v.thing,.int .i64 v.n] 183) (.cells #[.int .i64 x.kind,.int .i64 x.region,.int .i64 x.thing,.int .i64 x.n] 183));have K:=Qb (Qf3 w #[.int .i64 v.kind,.int .i64 v.region,.int .i64 v.thing,.int .i64 v.n] 183 (.cells #[.int .i64 x.kind,.int .i64 x.region,.int .i64 x.thing,.int .i64 x.n] 183));have BR:=Qb (QbI w (.cells #[.int .i64 v.kind,.int .i64 v.region,.int .i64 v.thing,.int .i64 v.n] 183) #[.int .i64 x.kind,.int .i64 x.region,.int .i64 x.thing,.int .i64 x.n] 183);have H1:=Qb (H.below B0.out);have H0:=Qb H;have C:=Qb (QbO H1.out v hv aa);have HT:=Qb ac;clear H hv aa ac;go_enter func162,ntmps162
 go_upto_region 1 with fail
 generalize ((w.alloc (.cells #[.int .i64 v.kind,.int .i64 v.region,.int .i64 v.thing,.int .i64 v.n] 183)).alloc (.cells #[.int .i64 x.kind,.int .i64 x.region,.int .i64 x.thing,.int .i64 x.n] 183))=w1 at B0 K BR C H1 ⊢;obtain⟨X,hX⟩:∃ X,X=w.heap.size:=⟨_,Z⟩
 obtain⟨R,hR⟩:∃ R,R=X+1:=⟨_,Z⟩
 rw[← hX] at K BR ⊢
 rw[← hR] at BR ⊢
 clear hX hR;have x0:=Qa K.out 0 _ Z;have x1:=Qa K.out 1 _ Z;have x2:=Qa K.out 2 _ Z;have x3:=Qa K.out 3 _ Z;go_wp2_with fail
 refine C.out.mono ?_;rintro e w2 ⟨⟨a,n,c,rfl,P⟩,Q⟩;have BL:=Qb (B0.out.trans (Q.mono B0.out.size));have A:=Qb ((Q.block X (XC K.out)).trans K.out);have j:=Qb ((Q.block R (XC BR.out)).trans BR.out);have T:Hid (HIn w2 b O h G∧QN O O w w2):=⟨H1.out.below Q,QN.of_below BL.out (fun k F=>.inl F)⟩;clear x0 x1 x2 x3 C K BR B0;have x0:=Qa A.out 0 _ Z;have r0:=Qa j.out 0 _ Z;have r1:=Qa j.out 1 _ Z;have r2:=Qa j.out 2 _ Z;have r3:=Qa j.out 3 _ Z
 cases ht:h.thing v with
 | none =>
   have E:Hid (h.set v k x.bare=(20,h)):=by show _=_;unfold Qc.set;rw[ht]
   simp only[Option.isSome_none]
   clear ht P Q H1 HT A j;go_wp2
   go_ret;rw[E.out]
   exact⟨Z,T.out⟩
 | some t =>
   obtain⟨hn,p,tv,pv,h0,hp,hi,RI,hs⟩:=P t ht
   have W:=Qb (RI.keep (w':=w2) (fun x _ o=>Q.block x o));have ag:n≤4611686018427387904:=by rw[hn];exact HT.out t ht
   have CP:=Qb (fun wx=>Qcn wx a n c k ag);have CB:=Qb (fun wx=>Qej wx x);obtain⟨ab,af,J⟩:=Qfe ht
   have E:Hid (h.set v k x.bare=if t.arr=true∧x.kind≠1 then (20,h) else if k<0∨n≤k.toNat then (1,h) else (0,{ h with L:=h.L.set v.region.toNat { p with l:=p.l.set v.thing.toNat { t with l:=t.l.set k.toNat x.bare } } })):=by
    show _=_;unfold Qc.set;rw[ht,hp,Qhc,hn]
   have HP:=Qb hp;have HI:=Qb hi;have HS:=Qb hs;have HN:=Qb hn;clear ht P Q H1 HT RI hp hi hs hn;simp only[Option.isSome_some]
   -- x may not stand in an array
   by_cases N:t.arr=true∧x.kind≠1
   ·have ae:v.kind=4:=by
     have:=J;rw[N.1] at this;exact Xv this.symm
    rw[Xs N] at E
    rw[ae] at x0
    have aj:(x.kind != 1)=true:=by simpa using N.2
    clear ab af J N ae A j;go_wp2
    go_ret;rw[E.out]
    exact⟨Z,T.out⟩
   rw[Xr N] at E
   -- what the guard comes to
   have gd:Hid ((v.kind==4)=false∨((v.kind==4)=true∧(x.kind != 1)=false)):=by
    by_cases h4:v.kind=4
    ·right
     refine⟨by simpa using h4,?_⟩
     have:t.arr=true:=by rw[J];simpa using h4
     have:x.kind=1:=Classical.byContradiction fun e=>N ⟨this,e⟩
     simpa using this
    ·left;simpa using h4
   clear N ab af J;by_cases F:0≤k∧k<(n:Int)
   ·have hd:(decide (0≤k)&&decide (k<(n:Int)))=true:=by simp[F.1,F.2]
    rw[hd] at CP
    clear hd;obtain⟨d,rfl⟩:=Xc F.1
    have I:d<t.l.length:=by rw[← HN.out];omega
    rw[Xr (by omega),XT] at E
    have PA:ZD w2 (.slice a n c) t.l:=by rw[← HS.out];exact W.out.part _ t HI.out
    have U:t.l≠[]:=fun e=>by rw[e] at I;simp at I
    obtain⟨g,c',e',hr⟩:=PA.2 U
    simp only[Value.slice.injEq] at e'
    obtain⟨rfl,e1,rfl⟩:=e'
    have HG:Hid (Qb6 (pv v.thing.toNat) t g):=⟨U,by rw[HS.out];rfl⟩;have ai:d<n:=by omega
    have ah:(d:Int)<n:=by omega
    have HR:=Qb hr;have HK:=Qb I
    have HM:Hid (∀ f:World,Below w2.heap.size w2 f→(∀ s B y u:Int,x.bare=⟨s,B,y,u⟩→HIn ((((f.setCell ⟨g,d*4,none⟩ (.int .i64 s)).setCell ⟨g,d*4+1,none⟩ (.int .i64 B)).setCell ⟨g,d*4+2,none⟩ (.int .i64 y)).setCell ⟨g,d*4+3,none⟩ (.int .i64 u)) b O (h.set v (d:Int) x.bare).2 G∧QN O O w ((((f.setCell ⟨g,d*4,none⟩ (.int .i64 s)).setCell ⟨g,d*4+1,none⟩ (.int .i64 B)).setCell ⟨g,d*4+2,none⟩ (.int .i64 y)).setCell ⟨g,d*4+3,none⟩ (.int .i64 u)))∧(∃ z:Qj,f.cell? ⟨g,d*4,none⟩=some (.int .i64 z.kind)∧f.cell? ⟨g,d*4+1,none⟩=some (.int .i64 z.region)∧f.cell? ⟨g,d*4+2,none⟩=some (.int .i64 z.thing)∧f.cell? ⟨g,d*4+3,none⟩=some (.int .i64 z.n))∧(∀ i,f.frozen? ⟨g,i,none⟩=false)):=by
     intro f D;have V:f.rowIs g 183 (t.l.length*4) (Q7 t.l):=HR.out.of_block (D.block g HR.out.lt);refine⟨fun s B y u hy=>?_,⟨_,Qav V (Zg HK.out)⟩,V.frozen⟩
     obtain⟨q1,q2,q3⟩:=Qc.place_some HP.out
     have ad:=W.out.keep (fun x _ o=>D.block x o);have H3:=T.out.1.below D;have gS:G.S v.region.toNat g:=ad.op _ t g HI.out HG.out;have st:QN (G.S v.region.toNat) (G.S v.region.toNat) f ((((f.setCell ⟨g,d*4,none⟩ (.int .i64 s)).setCell ⟨g,d*4+1,none⟩ (.int .i64 B)).setCell ⟨g,d*4+2,none⟩ (.int .i64 y)).setCell ⟨g,d*4+3,none⟩ (.int .i64 u)):=(((QN.refl _ f).setCell (p:=⟨g,d*4,none⟩) gS _).setCell (p:=⟨g,d*4+1,none⟩) gS _).setCell (p:=⟨g,d*4+2,none⟩) gS _ |>.setCell (p:=⟨g,d*4+3,none⟩) gS _
     refine⟨?_,(T.out.2.trans (QN.of_below D (fun k F=>.inl F))).trans ((st.mono (P:=O) (fun x o=>(H3.os _ x o).1)).sub (P:=G.S v.region.toNat) (fun x o=>o) |> fun q=>⟨q.os,q.tape,q.output,q.size,q.block,fun x o=>.inl o⟩)⟩
     rw[E.out,hy]
     refine H3.regSame q2 q3 q3 ⟨tv,pv,?_⟩ st;exact ad.put HI.out HG.out (by simp) (QcM V HK.out s B y u) (fun x _ o _=>Qgo o _ _ _ _)
    obtain⟨s,B,y,u,hy⟩:∃ s B y u,x.bare=(⟨s,B,y,u⟩:Qj):=⟨_,_,_,_,Z⟩
    have HY:=Qb hy;rw[hy] at CB
    have E0:Hid ((h.set v (d:Int) x.bare).1=0):=by show _=_;rw[E.out]
    clear F I hr PA U e1 hy HK HR HG E T HS HI HP HN W A j;rcases gd.out with g1 | ⟨g1,g2⟩
    ·go_wp2_with (go_at_call 180;refine(CP.out _).mono ?_;rintro e w' ⟨rfl,m⟩;have m:=m.symm;subst m)
     refine(CB.out _).mono ?_
     rintro e f ⟨rfl,D⟩;obtain⟨M1,⟨z,c0,c1,c2,c3⟩,r⟩:=HM.out f D
     have M:=Qb (M1 s B y u HY.out);have f0:=r (d*4);have f1:=r (d*4+1);have f2:=r (d*4+2);have f3:=r (d*4+3);clear M1 r D HM x0 r0 r1 r2 r3 gd;go_wp2
     go_ret;exact⟨by rw[E0.out];rfl,M.out⟩
    ·go_wp2_with (go_at_call 180;refine(CP.out _).mono ?_;rintro e w' ⟨rfl,m⟩;have m:=m.symm;subst m)
     refine(CB.out _).mono ?_
     rintro e f ⟨rfl,D⟩;obtain⟨M1,⟨z,c0,c1,c2,c3⟩,r⟩:=HM.out f D
     have M:=Qb (M1 s B y u HY.out);have f0:=r (d*4);have f1:=r (d*4+1);have f2:=r (d*4+2);have f3:=r (d*4+3);clear M1 r D HM x0 r0 r1 r2 r3 gd;go_wp2
     go_ret;exact⟨by rw[E0.out];rfl,M.out⟩
   ·have hd:(decide (0≤k)&&decide (k<(n:Int)))=false:=by
     by_cases h1:0≤k
     ·rw[Xu (show ¬ k<(n:Int) by omega)];simp
     ·rw[Xu h1];rfl
    rw[hd] at CP
    rw[Xs (by omega)] at E
    clear F hd A j;rcases gd.out with g1 | ⟨g1,g2⟩
    ·go_wp2_with (go_at_call 180;refine(CP.out _).mono ?_;rintro e w' ⟨rfl,m⟩;have m:=m.symm;subst m)
     go_ret;rw[E.out]
     exact⟨Z,T.out⟩
    ·go_wp2_with (go_at_call 180;refine(CP.out _).mono ?_;rintro e w' ⟨rfl,m⟩;have m:=m.symm;subst m)
     go_ret;rw[E.out]
     exact⟨Z,T.out⟩
theorem Qik (w:World) (n:Nat):Calls prog 34 #[.int .i64 n] w fun e w'=>e=.returned (.pointer (some ⟨w.heap.size+1,0,none⟩))/\HIn w' (w.heap.size+1) (fun x=>x=w.heap.size\/x=w.heap.size+1) (Qc.new n) ⟨w.heap.size,.map [],fun _=>0,fun _ _=>False⟩/\Below w.heap.size w w':=by
 have d:=@run_makeMap prog
 have Q:Hid (HIn ((w.alloc (.map #[] 0)).alloc (.cells #[.int .i64 n,.int .i64 0,.map (some w.heap.size)] 106)) (w.heap.size+1) (fun x=>x=w.heap.size\/x=w.heap.size+1) (Qc.new n) ⟨w.heap.size,.map [],fun _=>0,fun _ _=>False⟩):=by
  refine⟨QbI w _ _ _,(World.ownsMap_made w _ _ _).alloc _,Z,fun k a=>?_,fun k p a b=>?_,fun k p a=>by simp[Qc.new] at a,fun _ _ _ h=>h.elim,.inr Z,.inl Z,fun _ _ h=>h.elim,fun x f=>by simp;omega⟩
  ·unfold Qc.place;simp[Qc.new,Maps.has]
  ·unfold Qc.place at b;simp[Qc.new] at b
 have c:=Qb (Qai w (.map #[] 0) (.cells #[.int .i64 n,.int .i64 0,.map (some w.heap.size)] 106));go_enter func34,ntmps34
 go_wp2
 go_ret;exact⟨Z,Q.out,c.out⟩
def HTo (w w':World) (b:Nat) (O:Nat->Prop) (h':Qc):Prop:=∃ O' G',HIn w' b O' h' G'/\QN O O' w w'/\∀ x,O x->O' x
theorem HTo.same {h:Qc}{G:HG}(H:HIn w' b O h G) (hb:Below w.heap.size w w'):HTo w w' b O h:=⟨O,G,H,QN.of_below hb (fun k a=>.inl a),fun _ h=>h⟩
theorem HTo.st4 {h:Qc}{G:HG}(H:HIn w' b O' h G) (g:QN O O' w w') (k:∀ x,O x->O' x) (i:w.heap.size<=R) (hn:¬ O' R) (d f c a:Int):HTo w ((((w'.setCell ⟨R,0,none⟩ (.int .i64 d)).setCell ⟨R,1,none⟩ (.int .i64 f)).setCell ⟨R,2,none⟩ (.int .i64 c)).setCell ⟨R,3,none⟩ (.int .i64 a)) b O h :=
 ⟨O',G,H.keep (by simp) (fun x j _=>QbE (fun (e:x=R)=>hn (by rw[<-e];exact j)) d f c a),Qdr g i d f c a,k⟩
theorem Qh1 {h:Qc}{G:HG}(H:HIn w b O h G) (hL:h.L.length<=4611686018427387904) (a:h.live<=16) :
 Calls prog 155 #[.pointer (some ⟨b,0,none⟩)] w fun e w'=>e=.returned (.tuple #[QF h.open_.1,.bool h.open_.2.1])/\HTo w w' b O h.open_.2.2:=by
 have m:=Qb (QY w (.cells #[.int .i64 0,.int .i64 0,.int .i64 0,.int .i64 0] 183));have j:=Qb (H.below m.out);have A:=fun ty=>j.out.map.len underlying104 ty;rw[j.out.size] at A
 have t:=Qa j.out.top 1 _ Z;have u:=Qa j.out.top 2 _ Z;by_cases p:h.live=16
 ·have E:Hid (h.open_=(noV,false,h)):=by show _=_;unfold Qc.open_;rw[Xs (by omega)]
  have Q:=Qb (HTo.same j.out m.out);rw[p] at A
  clear H j m a p hL t;generalize G.bm=bm at A u;go_enter func155,ntmps155
  go_wp2
  exact Xy (v:=.tuple #[.agg #[.int .i64 0,.int .i64 0,.int .i64 0,.int .i64 0],.bool false]) (by simp[results,results155,go_sem]) Z ⟨by rw[E.out];rfl,by rw[E.out];exact Q.out⟩
 ·have E:Hid (h.open_=(⟨2,h.L.length,0,0⟩,true,{ h with L:=h.L++[newP] })):=by show _=_;unfold Qc.open_;rw[Xr (by omega)]
  have q:=Qb (Qh w #[.int .i64 0,.int .i64 0,.int .i64 0,.int .i64 0] 183);have hd:((h.live:Int)==16)=false:=by simp;omega
  have n:=Qb H;have U:=Qb a;clear H a p;go_enter func155,ntmps155
  go_upto_region 1 with fail
  generalize w.alloc (.cells #[.int .i64 0,.int .i64 0,.int .i64 0,.int .i64 0] 183)=w1 at m j A t u q |-;obtain⟨R,hR⟩:∃ R,R=w.heap.size:=⟨_,Z⟩
  have HR:Hid (w.heap.size<=R):=by show _<=_;omega
  rw[<-hR] at q |-
  clear hR;have T1:=Qb t;go_upto_region 4 with fail
  have d:=Qb (m.out.alloc m.out.size (.cells #[.int .i64 (h.L.length:Int),.int .i64 0,.int .i64 0,.slice none 0 0] 223));have b1:=QY w1 (.cells #[.int .i64 (h.L.length:Int),.int .i64 0,.int .i64 0,.slice none 0 0] 223);have f:=Qb (j.out.below b1);have s:=Qb (Qh w1 #[.int .i64 (h.L.length:Int),.int .i64 0,.int .i64 0,.slice none 0 0] 223);have l:=Qb ((b1.block R (XC q.out)).trans q.out);have HG:Hid (w.heap.size<=w1.heap.size):=m.out.size;have D:Hid (R<w1.heap.size):=XC q.out;generalize w1.alloc (.cells #[.int .i64 (h.L.length:Int),.int .i64 0,.int .i64 0,.slice none 0 0] 223)=w2 at d f s l |-;generalize w1.heap.size=g at s HG D |-;clear t u A T1 q j m b1;have t:=Qa f.out.top 1 _ Z;have u:=Qa f.out.top 2 _ Z;have g0:=Qa s.out 0 _ Z;have o:Zh h.L.length:=⟨by omega,by omega⟩;obtain⟨c,C,m1,m2⟩:=f.out.drew.map.store (val:=.pointer (some ⟨g,0,none⟩)) hKeyed underlying104 (by rw[f.out.size];have:=U.out;unfold maxLen;omega) (Maps.keyOf_int_mk underlying3 (Qlk o)) (show pelem _=some (.lit (.int .i64 (g:Int)),[]) from Z)
  have M1:=Qb m1;have M2:=Qb m2;have HL:=Qb hL;have S:=Qb o;clear m1 m2
  have y:Hid (c.cell? ⟨b,1,none⟩=some (.int .i64 (h.L.length:Int))/\c.frozen? ⟨b,1,none⟩=false/\c.cell? ⟨g,0,none⟩=some (.int .i64 (h.L.length:Int))/\c.heap[R]?=some (.cells #[.int .i64 0,.int .i64 0,.int .i64 0,.int .i64 0] 183 (0,0))/\HTo w (((((c.setCell ⟨b,1,none⟩ (.int .i64 ((h.L.length:Int)+1))).setCell ⟨R,0,none⟩ (.int .i64 2)).setCell ⟨R,1,none⟩ (.int .i64 (h.L.length:Int))).setCell ⟨R,2,none⟩ (.int .i64 0)).setCell ⟨R,3,none⟩ (.int .i64 0)) b O { h with L:=h.L++[newP] }/\R≠b/\g≠b/\(((((c.setCell ⟨b,1,none⟩ (.int .i64 ((h.L.length:Int)+1))).setCell ⟨R,0,none⟩ (.int .i64 2)).setCell ⟨R,1,none⟩ (.int .i64 (h.L.length:Int))).setCell ⟨R,2,none⟩ (.int .i64 0)).setCell ⟨R,3,none⟩ (.int .i64 0)).heap[R]?=some (.cells #[.int .i64 2,.int .i64 (h.L.length:Int),.int .i64 0,.int .i64 0] 183 (0,0))):=by
   have r:=M2.out.grown;have B:∀ x,x<w2.heap.size->x≠G.bm->c.heap[x]?=w2.heap[x]?:=fun x h1 W=>r.block x h1 (fun e=>W (by simpa using e));have af:=f.out.map.lt;have P:=XC f.out.top;have ab:=n.out.map.lt;have ad:=XC n.out.top;have K:c.heap[b]?=_:=(B b P f.out.bne).trans f.out.top;have aa:=HG.out;have X:=HR.out;have ac:=D.out;have F:c.heap[g]?=_:=(B g (XC s.out) (by omega)).trans s.out;have N:c.heap[R]?=_:=(B R (XC l.out) (by omega)).trans l.out;have Q:=n.out.more (w1:=c) S.out HG.out F M1.out (fun x I M=>(B x (Zl I d.out.size) M).trans (d.out.block x I)) (Zt d.out.size r.size);rw[show ((h.L.length+1:Nat):Int)=(h.L.length:Int)+1 by omega] at Q
   refine⟨Qa K 1 _ Z,Qf K 1,Qa F 0 _ Z,N,?_,by omega,by omega,Z1 ((Xd _ _ _ _ (show R≠b by omega)).trans N) _ _ _ _⟩
   refine HTo.st4 Q ⟨r.os.trans d.out.os,r.tape.trans d.out.tape,r.output.trans d.out.output,by have h1:=r.size;have W:=d.out.size;exact Zt (Zt W h1) (by simp),fun k J M=>?_,fun k J=>J.elim .inl (fun e=>.inr (by omega))⟩ (fun x I=>.inl I) X (fun e=>e.elim (fun e=>by have:=n.out.lt R e;omega) (fun e=>by omega)) _ _ _ _;have T:k≠b:=fun e=>M (e ▸ n.out.ob);have V:k≠G.bm:=fun e=>M (e ▸ n.out.om);rw[Xd _ _ _ _ T]
   exact(B k (Zl J d.out.size) V).trans (d.out.block k J)
  clear M1 M2 f d n s l o hd;generalize G.bm=bm at *;go_region;clear C t u g0;obtain⟨k1,k2,k3,i,k6,k7,k8,k9⟩:=y.out
  have K6:=Qb k6;have z:=Qb k9;have r0:=Qa i 0 _ Z;have r1:=Qa i 1 _ Z;have r2:=Qa i 2 _ Z;have r3:=Qa i 3 _ Z;have f0:=Qf i 0;have f1:=Qf i 1;have f2:=Qf i 2;have f3:=Qf i 3;clear i k6 k9 y;go_wp2
  generalize (((((c.setCell ⟨b,1,none⟩ (.int .i64 ((h.L.length:Int)+1))).setCell ⟨R,0,none⟩ (.int .i64 2)).setCell ⟨R,1,none⟩ (.int .i64 (h.L.length:Int))).setCell ⟨R,2,none⟩ (.int .i64 0)).setCell ⟨R,3,none⟩ (.int .i64 0))=ae at K6 z |-;have e0:=Qa z.out 0 _ Z;have K:=Qa z.out 1 _ Z;have F:=Qa z.out 2 _ Z;have N:=Qa z.out 3 _ Z;exact Xy (v:=.tuple #[.agg #[.int .i64 2,.int .i64 (h.L.length:Int),.int .i64 0,.int .i64 0],.bool true]) (by simp[results,results155,go_sem,e0,K,F,N]) Z ⟨by rw[E.out],by rw[E.out];exact K6.out⟩
theorem Qg9 {h:Qc}{G:HG}(H:HIn w b O h G) (v:Qj) (A:v.ok) (s:∀ p,h.at v=some p->h.left+p.pages<=4611686018427387904) :
 Calls prog 114 #[.pointer (some ⟨b,0,none⟩),QF v] w fun e w'=>e=.returned (.bool (h.shut v).1)/\HTo w w' b O (h.shut v).2:=by
 have q:=Qb (QY w (.cells #[.int .i64 v.kind,.int .i64 v.region,.int .i64 v.thing,.int .i64 v.n] 183));have l:=Qb (Qh w #[.int .i64 v.kind,.int .i64 v.region,.int .i64 v.thing,.int .i64 v.n] 183);have u:=Qb (H.below q.out);have C:=Qb (QaA u.out v A);have S:=Qb s;have HV:=Qb A;clear H A s;go_enter func114,ntmps114
 go_upto_region 1 with fail
 generalize w.alloc (.cells #[.int .i64 v.kind,.int .i64 v.region,.int .i64 v.thing,.int .i64 v.n] 183)=w1 at q l C u |-;generalize w.heap.size=X at l |-;have x0:=Qa l.out 0 _ Z;have x1:=Qa l.out 1 _ Z;have x2:=Qa l.out 2 _ Z;have x3:=Qa l.out 3 _ Z;go_wp2_with fail
 refine C.out.mono ?_;rintro e z ⟨rfl,F⟩;have D:=Qb (q.out.trans (F.mono q.out.size));have o:=Qb (u.out.below F);clear x0 x1 x2 x3 l q F C u
 cases ht:h.at v with
 | none =>
   have E:Hid (h.shut v=(false,h)):=by show _=_;unfold Qc.shut;rw[ht]
   simp only[Option.isSome_none]
   clear ht;go_wp2
   go_ret;rw[E.out]
   exact⟨Z,HTo.same o.out D.out⟩
 | some p =>
   obtain⟨B,hp,k,f,J,i⟩:=Qc.at_some ht
   have E:Hid (h.shut v=(true,⟨h.L.set k noP,h.left+p.pages⟩)):=by show _=_;unfold Qc.shut;rw[ht,f,XT]
   have s:=S.out p ht;have P:hptr h G v.region=some ⟨G.g k,0,none⟩:=by unfold hptr;rw[hp,f];rfl
   have d:Hid (Zh k):=by show Zh k;rw[<-f];exact HV.out.2.1
   rw[P]
   obtain⟨tv,pv,V⟩:=o.out.reg k p J i
   have t0:=Qa o.out.top 0 _ Z;have f0:=Qf o.out.top 0;have g1:=Qa V.box 1 _ Z;have j:=Qb J;have m:=Qb i;have K:=Qb s;have M:(h.left:Int)+(p.pages:Int)<=4611686018427387904:=by omega
   have N:0<=(h.left:Int)+(p.pages:Int):=by omega
   have U:Hid (HIn (z.setCell ⟨b,0,none⟩ (.int .i64 ((h.left:Int)+(p.pages:Int)))) b O { h with left:=h.left+p.pages } G):=by
    have:=o.out.toLeft (h.left+p.pages)
    rw[show ((h.left+p.pages:Nat):Int)=(h.left:Int)+(p.pages:Int) by omega] at this
    exact this
   have S3:Hid (QN O O w (z.setCell ⟨b,0,none⟩ (.int .i64 ((h.left:Int)+(p.pages:Int))))):=(QN.of_below D.out (fun k B=>.inl B)).setCell (p:=⟨b,0,none⟩) o.out.ob _;simp only[Option.isSome_some]
   clear ht B hp f J i P V S HV o D s;have c:=Qb U.out.drew;have a:=Qb S3.out.drew;clear U S3;go_wp2_with fail
   go_region;generalize (z.setCell ⟨b,0,none⟩ (.int .i64 ((h.left:Int)+(p.pages:Int)))).drew=w3 at c a |-;clear t0 f0 g1;obtain⟨ab,aa,t⟩:=c.out.reg k p j.out m.out
   have u0:=Qa t.box 0 _ Z;have u2:=Qa c.out.top 2 _ Z;obtain⟨w4,W,R,I⟩:=c.out.drew.map.drop hKeyed underlying104 (Maps.keyOf_int_mk underlying3 (Qlk d.out)) 0
   have Q:Hid (HTo w w4 b O ⟨h.L.set k noP,h.left+p.pages⟩):=by
    have r:=I.grown;refine⟨O,_,c.out.drew.gone j.out m.out d.out R I,⟨r.os.trans a.out.os,r.tape.trans a.out.drew.tape,r.output.trans a.out.output,Zt a.out.size r.size,fun x y T=>?_,fun x y=>.inl y⟩,fun _ h=>h⟩
    exact(r.block x (Zl y a.out.size) (fun e=>T (by have e9:x=G.bm:=(by simpa using e);rw[e9];exact c.out.om))).trans (a.out.block x y T)
   clear R I t c a j m K d M N;generalize G.g k=gk at *;generalize G.bm=bm at *;go_wp2_with fail
   go_region;go_wp2
   go_ret;rw[E.out]
   exact⟨Z,Q.out⟩
theorem Qde {h:Qc}{G:HG}(H:HIn w b O h G) (v:Qj) (g:v.ok) (words:Int) (j:h.at v=none) :
 Calls prog 157 #[.pointer (some ⟨b,0,none⟩),QF v,.int .i64 words] w fun e w'=>e=.returned (.tuple #[.pointer none,.int .i64 20])/\Below w.heap.size w w':=by
 have c:=Qb (QY w (.cells #[.int .i64 v.kind,.int .i64 v.region,.int .i64 v.thing,.int .i64 v.n] 183));have a:=Qb (Qh w #[.int .i64 v.kind,.int .i64 v.region,.int .i64 v.thing,.int .i64 v.n] 183);have d:=Qb (H.below c.out);have C:=Qb (QaA d.out v g);clear H g;rw[j] at C
 simp only[Option.isSome_none] at C
 go_enter func157,ntmps157
 go_upto_region 1 with fail
 generalize w.alloc (.cells #[.int .i64 v.kind,.int .i64 v.region,.int .i64 v.thing,.int .i64 v.n] 183)=r at c a C d |-;generalize w.heap.size=X at a |-;have l:=Qa a.out 0 _ Z;have m:=Qa a.out 1 _ Z;have k:=Qa a.out 2 _ Z;have i:=Qa a.out 3 _ Z;go_wp2_with fail
 refine C.out.mono ?_;rintro e p ⟨rfl,f⟩;have o:=Qb (c.out.trans (f.mono c.out.size));have q:=Qb (d.out.below f);clear l m k i a c f C d;go_wp2
 go_ret2;exact⟨Z,o.out⟩
theorem Qdi {h:Qc}{G:HG}(H:HIn w b O h G) (v:Qj) (B:v.ok) (words:Int){p:Qi}(o:h.at v=some p) (A:p.tight words=true) (s:h.left=0) (hw:0<=words/\words<=1099511627776) (U:0<=p.used/\p.used<=1099511627776) :
 Calls prog 157 #[.pointer (some ⟨b,0,none⟩),QF v,.int .i64 words] w fun e w'=>e=.returned (.tuple #[.pointer none,.int .i64 14])/\Below w.heap.size w w':=by
 obtain⟨k,t⟩:∃ k:Nat,v.region=k:=by obtain⟨_,_,k,h,_⟩:=Qc.at_some o;exact⟨k,h⟩
 have l:=Qb (QY w (.cells #[.int .i64 v.kind,.int .i64 v.region,.int .i64 v.thing,.int .i64 v.n] 183));have d:=Qb (Qh w #[.int .i64 v.kind,.int .i64 v.region,.int .i64 v.thing,.int .i64 v.n] 183);have m:=Qb (H.below l.out);have C:=Qb (QaA m.out v B);clear H B;obtain⟨K,F,q,c,E,f⟩:=Qc.at_some o
 have M:q=k:=by have:=c;omega
 subst M;have z:hptr h G v.region=some ⟨G.g q,0,none⟩:=by unfold hptr;rw[F,c];rfl
 rw[o,z] at C
 simp only[Option.isSome_some] at C
 have i:=Qb E;have j:=Qb f;clear K F c E f z o t;have r:=Qb A;clear A;go_enter func157,ntmps157
 go_upto_region 1 with fail
 generalize w.alloc (.cells #[.int .i64 v.kind,.int .i64 v.region,.int .i64 v.thing,.int .i64 v.n] 183)=w1 at l d C m |-;generalize w.heap.size=X at d |-;have P:=Qa d.out 0 _ Z;have R:=Qa d.out 1 _ Z;have T:=Qa d.out 2 _ Z;have L:=Qa d.out 3 _ Z;go_wp2_with fail
 refine C.out.mono ?_;rintro e V ⟨rfl,x⟩;have D:=Qb (l.out.trans (x.mono l.out.size));have y:=Qb (m.out.below x);clear P R T L d l x C m;obtain⟨W,pv,u⟩:=y.out.reg q p i.out j.out
 have I:=Qa y.out.top 0 _ Z;rw[s] at I
 have Q:=Qa u.box 1 _ Z;have g2:=Qa u.box 2 _ Z;clear u y i j;generalize G.g q=gk at *;by_cases a:p.pages=0
 ·rw[a] at Q
  clear r a;go_wp2
  go_ret2;exact⟨Z,D.out⟩
 ·have J:decide (0<(p.pages:Int))=true:=Xt (by omega)
  have N:decide (p.used+words<=16)=false:=by
   have:=r.out
   unfold Qi.tight at this;rw[Xu a,Bool.false_or] at this
   have:=Xv this
   exact Xu (by omega)
  have S:0<p.pages:=by omega
  clear r a;go_wp2
  go_ret2;exact⟨Z,D.out⟩
theorem QfP {h:Qc}{G:HG}(H:HIn w b O h G) (v:Qj) (V:v.ok) (words:Int){p:Qi}(R:h.at v=some p)(N:v.region=k) (z:¬ (p.tight words=true/\h.left=0)) (hw:0<=words/\words<=1099511627776) (hu:0<=p.used/\p.used<=1099511627776) (ad:p.pages<=1099511627776) (ac:h.left<=1099511627776) :
 Calls prog 157 #[.pointer (some ⟨b,0,none⟩),QF v,.int .i64 words] w fun e w'=>e=.returned (.tuple #[.pointer (some ⟨G.g k,0,none⟩),.int .i64 0])/\HIn w' b O ⟨h.L.set k (p.roomed words),h.roomLeft p words⟩ G/\QN O O w w':=by
 have B:=Qb (QY w (.cells #[.int .i64 v.kind,.int .i64 v.region,.int .i64 v.thing,.int .i64 v.n] 183));have q:=Qb (Qh w #[.int .i64 v.kind,.int .i64 v.region,.int .i64 v.thing,.int .i64 v.n] 183);have D:=Qb (H.below B.out);have C:=Qb (QaA D.out v V);clear H V;obtain⟨K,hp,a,o,hL,y⟩:=Qc.at_some R
 have e0:a=k:=by have:=o;omega
 subst e0;have U:hptr h G v.region=some ⟨G.g a,0,none⟩:=by unfold hptr;rw[hp,o];rfl
 rw[R,U] at C
 simp only[Option.isSome_some] at C
 have d:=Qb hL;have c:=Qb y;clear K hp o hL y U R N;have F:=Qb z;clear z;go_enter func157,ntmps157
 go_upto_region 1 with fail
 generalize w.alloc (.cells #[.int .i64 v.kind,.int .i64 v.region,.int .i64 v.thing,.int .i64 v.n] 183)=w1 at B q C D |-;generalize w.heap.size=X at q |-;have x0:=Qa q.out 0 _ Z;have x1:=Qa q.out 1 _ Z;have x2:=Qa q.out 2 _ Z;have x3:=Qa q.out 3 _ Z;go_wp2_with fail
 refine C.out.mono ?_;rintro e r ⟨rfl,S⟩;have BL:=Qb (B.out.trans (S.mono B.out.size));have f:=Qb (D.out.below S);clear x0 x1 x2 x3 q B S C D;obtain⟨W,pv,l⟩:=f.out.reg a p d.out c.out
 have t0:=Qa f.out.top 0 _ Z;have f0:=Qf f.out.top 0;have g1:=Qa l.box 1 _ Z;have g2:=Qa l.box 2 _ Z;have z1:=Qf l.box 1;have z2:=Qf l.box 2;have I:G.g a≠b:=(f.out.os a _ l.ob).2.1;have i:=Qb l;have A:=Qb (QN.of_below (O:=O) (O':=O) BL.out (fun k K=>.inl K));clear l BL;have t:=Qb (f.out.os a _ i.out.ob).1
 cases htt:p.tight words with
 | false =>
   have j:p.pages≠0/\p.used+words<=16:=by
    unfold Qi.tight at htt;simp at htt
    omega
   have J:decide (0<(p.pages:Int))=true:=Xt (by omega);have M:decide (p.used+words<=16)=true:=Xt j.2;have E:Hid (p.roomed words={ p with used:=p.used+words }/\h.roomLeft p words=h.left):=by show _/\_;unfold Qi.roomed Qc.roomLeft;rw[htt];exact⟨Z,Z⟩
   have Q:Hid (HIn (r.setCell ⟨G.g a,2,none⟩ (.int .i64 (p.used+words))) b O ⟨h.L.set a { p with used:=p.used+words },h.left⟩ G/\QN O O w (r.setCell ⟨G.g a,2,none⟩ (.int .i64 (p.used+words)))):=by
    refine⟨f.out.regSame d.out c.out c.out ⟨W,pv,i.out.nums _ Z ?_ (fun x _ s _=>Xd _ _ _ _ s)⟩ ((QN.refl _ _).setCell (p:=⟨G.g a,2,none⟩) i.out.ob _),A.out.setCell (p:=⟨G.g a,2,none⟩) t.out _⟩
    have:=Qo i.out.box 2 (.int .i64 (p.used+words))
    simpa using this
   have T:0<p.pages:=by omega
   clear htt j i f d c A t F I;go_wp2
   go_ret2;rw[E.out.1,E.out.2]
   exact⟨Z,Q.out⟩
 | true =>
   have aa:h.left≠0:=fun e=>F.out ⟨htt,e⟩;have E:Hid (p.roomed words={ p with pages:=p.pages+1,used:=words }/\h.roomLeft p words=h.left - 1):=by show _/\_;unfold Qi.roomed Qc.roomLeft;rw[htt];exact⟨Z,Z⟩
   have ab:decide ((h.left:Int)<=0)=false:=Xu (by omega)
   have Q:Hid (HIn (((r.setCell ⟨b,0,none⟩ (.int .i64 ((h.left:Int) - 1))).setCell ⟨G.g a,1,none⟩ (.int .i64 ((p.pages:Int)+1))).setCell ⟨G.g a,2,none⟩ (.int .i64 words)) b O ⟨h.L.set a { p with pages:=p.pages+1,used:=words },h.left - 1⟩ G/\QN O O w (((r.setCell ⟨b,0,none⟩ (.int .i64 ((h.left:Int) - 1))).setCell ⟨G.g a,1,none⟩ (.int .i64 ((p.pages:Int)+1))).setCell ⟨G.g a,2,none⟩ (.int .i64 words))):=by
    have P:=f.out.toLeft (h.left - 1);rw[show ((h.left - 1:Nat):Int)=(h.left:Int) - 1 by omega] at P
    have S3:=A.out.setCell (p:=⟨b,0,none⟩) f.out.ob (.int .i64 ((h.left:Int) - 1));have u:=i.out.keep (w':=r.setCell ⟨b,0,none⟩ (.int .i64 ((h.left:Int) - 1))) (fun x s _=>Xd _ _ _ _ (f.out.os a x s).2.1);generalize r.setCell ⟨b,0,none⟩ (.int .i64 ((h.left:Int) - 1))=w3 at P S3 u |-;refine⟨P.regSame d.out c.out c.out ⟨W,pv,u.nums _ Z ?_ (fun x _ s _=>(Xd _ _ _ _ s).trans (Xd _ _ _ _ s))⟩ (((QN.refl _ _).setCell (p:=⟨G.g a,1,none⟩) u.ob _).setCell (p:=⟨G.g a,2,none⟩) u.ob _),(S3.setCell (p:=⟨G.g a,1,none⟩) t.out _).setCell (p:=⟨G.g a,2,none⟩) t.out _⟩
    have:=Qo (Qo u.box 1 (.int .i64 ((p.pages:Int)+1))) 2 (.int .i64 words)
    simpa using this
   by_cases m:p.pages=0
   ·rw[m] at g1 Q E
    have e9:((0:Nat):Int)=0:=rfl;rw[e9] at g1 Q
    simp only[Int.zero_add] at Q
    clear i f d c A t F e9;go_wp2
    go_ret2;rw[E.out.1,E.out.2]
    exact⟨Z,Q.out⟩
   ·have J:decide (0<(p.pages:Int))=true:=Xt (by omega)
    have M:decide (p.used+words<=16)=false:=by
     have:=htt
     unfold Qi.tight at this;rw[Xu m,Bool.false_or] at this
     have:=Xv this
     exact Xu (by omega)
    have T:0<p.pages:=by omega
    clear htt i f d c A t F m;go_wp2
    go_ret2;rw[E.out.1,E.out.2]
    exact⟨Z,Q.out⟩
theorem hInfoT:∃ i,prog.info? 242=some i/\i.zero=some (.agg #[.int .i64 0,.slice none 0 0])/\i.size=2/\i.bytes=32:=by
 have h:(prog.info? 242).map (fun i=>(i.zero,i.size,i.bytes))=some (some (.agg #[.int .i64 0,.slice none 0 0]),2,32):=by kernel_rfl
 obtain⟨i,a,e⟩:=Option.map_eq_some_iff.1 h
 simp only[Prod.mk.injEq] at e
 exact⟨i,a,e⟩
theorem hInfoV:∃ i,prog.info? 183=some i/\i.zero=some (.agg #[.int .i64 0,.int .i64 0,.int .i64 0,.int .i64 0])/\i.size=4/\i.bytes=32:=by
 have h:(prog.info? 183).map (fun i=>(i.zero,i.size,i.bytes))=some (some (.agg #[.int .i64 0,.int .i64 0,.int .i64 0,.int .i64 0]),4,32):=by kernel_rfl
 obtain⟨i,a,e⟩:=Option.map_eq_some_iff.1 h
 simp only[Prod.mk.injEq] at e
 exact⟨i,a,e⟩
theorem hUnderTs:prog.underlying 221=some (.slice 242):=by kernel_rfl
theorem hUnderVs:prog.underlying 85=some (.slice 183):=by kernel_rfl
theorem Qi2 (w:World) (c:List Value) (t:TypeId):∀ (j:Nat) (u:Value),c[j]?=some u->(w.alloc (.cells c.toArray t)).cell? ((⟨w.heap.size,0,none⟩:Addr).add j)=some u:=by
 intro j u h;have a:c.toArray[j]?=some u:=by simpa using h
 rw[Go.WideShapes.add_plain,XK]
 exact Qa (Qh w c.toArray t) j u a
theorem QlR (k:Int) (a:Option Addr) (n c:Nat):∀ u∈[Value.int .i64 k,.slice a n c],u.oneCell'=true:=by
 intro u b;simp at b
 rcases b with rfl | rfl<;>rfl
theorem Qf0 {f:Nat}{p:Qi}{S:Nat->Prop}{tv:Value}{pv:Nat->Value}(R:Z4 w f k p S tv pv){t:Qq}{va:Option Addr}{vc:Nat}(hv:ZD w (.slice va t.l.length vc) t.l) (hn:∀ x,Qb6 (.slice va t.l.length vc) t x->¬ S x) (hS:∀ x,S x->x<w.heap.size) (ab:p.l.length<=1099511627776) :
 Calls prog 158 #[.pointer (some ⟨f,0,none⟩),.int .i64 t.knd,.slice va t.l.length vc] w fun e w'=>e=.returned (QF ⟨t.knd,k,p.l.length,0⟩)/\∃ S',QcR w' f k { p with l:=p.l++[t] } S'/\(∀ x,S x->S' x)/\(∀ x,S' x->S x\/w.heap.size<=x\/Qb6 (.slice va t.l.length vc) t x)/\(∀ x,S' x->x<w'.heap.size)/\QN S S w w':=by
 obtain⟨i0,hi,ag,af,ae⟩:=hInfoT
 obtain⟨V,tc,rfl⟩:∃ a c,tv=.slice a p.l.length c:=by
  rcases R.row.2 with ⟨e,e0⟩|⟨g,ao,ap,e,_⟩
  ·exact⟨none,0,by rw[e,e0]⟩
  ·exact⟨_,_,e⟩
 have B0:=Qb (QY w (.cells #[.int .i64 0,.int .i64 0,.int .i64 0,.int .i64 0] 183));have BR:=Qb (Qh w #[.int .i64 0,.int .i64 0,.int .i64 0,.int .i64 0] 183);have HR:=Qb R;have E:=Qb (R.keep (w':=w.alloc (.cells #[.int .i64 0,.int .i64 0,.int .i64 0,.int .i64 0] 183)) (fun x _ d=>B0.out.block x d));have Q:=Qb hv;have HN:=Qb hn;have H:=Qb hS
 have I:Hid (∀ i j b,i.ownsRow 0 242 2 (.slice (some ⟨j,0,none⟩) (p.l.length+1) b) (p.l.length+1) (Z9 pv p.l 0++[.int .i64 t.knd,.slice va t.l.length vc])->((w.alloc (.cells #[.int .i64 0,.int .i64 0,.int .i64 0,.int .i64 0] 183)).alloc (.cells #[.int .i64 t.knd,.slice va t.l.length vc] 242)).grownBy i (Value.slice V p.l.length tc).ownBlock->((Value.slice V p.l.length tc).ownBlock=some j\/j=w.heap.size+2)->j<i.heap.size ->
  (i.heap[f]?=some (.cells #[.int .i64 k,.int .i64 p.pages,.int .i64 p.used,.slice V p.l.length tc] 223 (0,0)))/\(i.setCell ⟨f,3,none⟩ (.slice (some ⟨j,0,none⟩) (p.l.length+1) b)).heap[f]?=some (.cells #[.int .i64 k,.int .i64 p.pages,.int .i64 p.used,.slice (some ⟨j,0,none⟩) (p.l.length+1) b] 223 (0,0))/\i.heap[w.heap.size]?=some (.cells #[.int .i64 0,.int .i64 0,.int .i64 0,.int .i64 0] 183 (0,0))/\f≠w.heap.size /\
  ∃ S',QcR (i.setCell ⟨f,3,none⟩ (.slice (some ⟨j,0,none⟩) (p.l.length+1) b)) f k { p with l:=p.l++[t] } S'/\(∀ x,S x->S' x)/\(∀ x,S' x->S x\/w.heap.size<x\/Qb6 (.slice va t.l.length vc) t x)/\(∀ x,S' x->x<i.heap.size)/\QN S S w (i.setCell ⟨f,3,none⟩ (.slice (some ⟨j,0,none⟩) (p.l.length+1) b))):=by
  intro i j b r1 m L r4;have z:=Qai w (.cells #[.int .i64 0,.int .i64 0,.int .i64 0,.int .i64 0] 183) (.cells #[.int .i64 t.knd,.slice va t.l.length vc] 242);have u:=Qf3 w #[.int .i64 0,.int .i64 0,.int .i64 0,.int .i64 0] 183 (.cells #[.int .i64 t.knd,.slice va t.l.length vc] 242);have ai:((w.alloc (.cells #[.int .i64 0,.int .i64 0,.int .i64 0,.int .i64 0] 183)).alloc (.cells #[.int .i64 t.knd,.slice va t.l.length vc] 242)).heap.size=w.heap.size+2:=by simp
  generalize (w.alloc (.cells #[.int .i64 0,.int .i64 0,.int .i64 0,.int .i64 0] 183)).alloc (.cells #[.int .i64 t.knd,.slice va t.l.length vc] 242)=w2 at m z u ai;have y:=HR.out.keep (fun x _ d=>z.block x d);have V2:=Q.out.keep (w':=w2) (fun x d=>z.block x (Q.out.lt d));have g3:(Value.slice V p.l.length tc).ownBlock=some j\/w2.heap.size<=j:=L.imp id (fun e=>by omega);have A:=y.add V2 HN.out r1 m g3;have an:f<w.heap.size:=H.out f y.ob;have C:i.heap[f]?=_:=(m.block f (XC y.box) (fun e=>y.rowNe e.symm Z)).trans y.box;refine⟨C,A.box,?_,by omega,_,⟨_,_,A⟩,fun x d=>.inl d,?_,?_,?_⟩
  ·refine(m.block w.heap.size (XC u) (fun e=>?_)).trans u
   have:=H.out _ (y.ot _ e.symm)
   omega
  ·rintro x (d | rfl | d)
   ·exact .inl d
   ·rcases L with e | e
    ·exact .inl (y.ot _ e)
    ·exact .inr (.inl (by omega))
   ·exact .inr (.inr d)
  ·have aq:=m.size;rintro x (d | rfl | d)
   ·have:=H.out x d;omega
   ·exact r4
   ·have:=Q.out.lt d;omega
  ·refine⟨m.os.trans z.os,m.tape.trans z.tape,m.output.trans z.output,Zt z.size (Zt m.size (by simp)),fun x d M=>?_,fun x d=>.inl d⟩
   have ac:x≠f:=fun e=>M (e ▸ y.ob);rw[Xd _ _ _ _ ac]
   exact(m.block x (by omega) (fun e=>M (y.ot x e.symm))).trans (z.block x d)
 have G:=Qb (E.out.row.alloc (.cells #[.int .i64 t.knd,.slice va t.l.length vc] 242));have F:=Qa E.out.box 3 _ Z;have B:Hid (∀ x,Qb6 (.slice va t.l.length vc) t x->x<w.heap.size):=fun x d=>Q.out.lt d;clear R hv hn hS;have O:=Qb H.out;clear HR E Q HN H;have HX:Hid (w.heap.size+1=(w.alloc (.cells #[.int .i64 0,.int .i64 0,.int .i64 0,.int .i64 0] 183)).heap.size):=by show _=_;simp
 generalize al:t.knd=D at *;generalize am:t.l.length=tl at *;generalize ak:p.l.length=o at *;generalize ar:Z9 pv p.l 0=xs at *;go_enter func158,ntmps158
 go_upto_region 1 with fail
 generalize w.alloc (.cells #[.int .i64 0,.int .i64 0,.int .i64 0,.int .i64 0] 183)=w1 at *;have au:o<=1099511627776:=ab;go_wp2_with (at_builtin;refine wpList_append_lies _ Z (.tmp 11) (.tmp 15) 221 Z 0 242 i0 (.agg #[.int .i64 0,.slice none 0 0]) 2 32 hUnderTs hi ag af ae Z (by decide) _ _ _ Z G.out ⟨w1.heap.size,0,none⟩ 1 1 [.int .i64 D,.slice va tl vc] Z Z (Qi2 _ [_,_] _) (QlR _ _ _ _) (by decide) (by unfold maxLen;omega) (by omega) (Xb _) (w.heap.size+2) (by have:=HX.out;simp;omega) ?_)
 intro j b i r1 m L r4;obtain⟨C,T,W,P,QQ⟩:=I.out i j b r1 m L r4
 have E1:=Qb C;have E2:=Qb T;have r:Hid ((i.setCell ⟨f,3,none⟩ (.slice (some ⟨j,0,none⟩) (o+1) b)).heap[w.heap.size]?=some (.cells #[.int .i64 0,.int .i64 0,.int .i64 0,.int .i64 0] 183 (0,0))):=(Xd _ _ _ _ (Ne.symm P)).trans W;have HQ:=Qb QQ;have c9:=Qa C 3 _ Z;have z9:=Qf C 3;have N:Hid (∀ x,Qb6 (.slice va tl vc) t x->x<w.heap.size):=B.out;clear r1 m L r4 C T W QQ I G F P B;go_wp2_with fail
 have s:Hid (i.heap.size=(i.setCell ⟨f,3,none⟩ (.slice (some ⟨j,0,none⟩) (o+1) b)).heap.size):=by show _=_;simp
 generalize i.setCell ⟨f,3,none⟩ (.slice (some ⟨j,0,none⟩) (o+1) b)=n at E2 r HQ s |-;obtain⟨R,u⟩:∃ R,R=w.heap.size:=⟨_,Z⟩
 have q:=Qb u;rw[<-u] at r
 have ad:=Qb u.symm;rw[<-u]
 clear u c9 z9 E1 HX;have k0:=Qa E2.out 0 _ Z;have k3:=Qa E2.out 3 _ Z;have s0:=Qa r.out 0 _ Z;have s1:=Qa r.out 1 _ Z;have s2:=Qa r.out 2 _ Z;have s3:=Qa r.out 3 _ Z;have f0:=Qf r.out 0;have f1:=Qf r.out 1;have f2:=Qf r.out 2;have f3:=Qf r.out 3;have K:=Qb (Z1 r.out D (k:Int) (o:Int) 0);obtain⟨S',q1,q2,F,X,U⟩:=HQ.out
 have J:Hid (∃ S',QcR ((((n.setCell ⟨R,0,none⟩ (.int .i64 D)).setCell ⟨R,1,none⟩ (.int .i64 (k:Int))).setCell ⟨R,2,none⟩ (.int .i64 (o:Int))).setCell ⟨R,3,none⟩ (.int .i64 0)) f k { p with l:=p.l++[t] } S'/\(∀ x,S x->S' x)/\(∀ x,S' x->S x\/w.heap.size<=x\/Qb6 (.slice va tl vc) t x)/\(∀ x,S' x->x<((((n.setCell ⟨R,0,none⟩ (.int .i64 D)).setCell ⟨R,1,none⟩ (.int .i64 (k:Int))).setCell ⟨R,2,none⟩ (.int .i64 (o:Int))).setCell ⟨R,3,none⟩ (.int .i64 0)).heap.size)/\QN S S w ((((n.setCell ⟨R,0,none⟩ (.int .i64 D)).setCell ⟨R,1,none⟩ (.int .i64 (k:Int))).setCell ⟨R,2,none⟩ (.int .i64 (o:Int))).setCell ⟨R,3,none⟩ (.int .i64 0))):=by
  have ah:∀ x,S' x->x≠R:=fun x d e=>by
   subst e;rcases F _ d with h | h | h
   ·have:=O.out _ h;have:=q.out;omega
   ·have:=q.out;omega
   ·have:=N.out _ h;have:=q.out;omega
  refine⟨S',q1.keep (fun x d _=>QbE (ah x d) _ _ _ _),q2,fun x d=>(F x d).imp id (fun h=>h.imp Nat.le_of_lt id),fun x d=>?_,Qdr U (by have:=q.out;omega) _ _ _ _⟩
  have:((((n.setCell ⟨R,0,none⟩ (.int .i64 D)).setCell ⟨R,1,none⟩ (.int .i64 (k:Int))).setCell ⟨R,2,none⟩ (.int .i64 (o:Int))).setCell ⟨R,3,none⟩ (.int .i64 0)).heap.size=n.heap.size:=by simp
  rw[this]
  have h9:=X x d
  have:=s.out
  omega
 clear HQ q1 q2 F X U q ad O N s;go_region;have aj:((o:Int)+1 - 1)=(o:Int):=by omega
 go_wp2_with fail
 generalize ((((n.setCell ⟨R,0,none⟩ (.int .i64 D)).setCell ⟨R,1,none⟩ (.int .i64 (k:Int))).setCell ⟨R,2,none⟩ (.int .i64 (o:Int))).setCell ⟨R,3,none⟩ (.int .i64 0))=aa at K J |-;have e0:=Qa K.out 0 _ Z;have C:=Qa K.out 1 _ Z;have T:=Qa K.out 2 _ Z;have W:=Qa K.out 3 _ Z;exact Xy (v:=.agg #[.int .i64 D,.int .i64 k,.int .i64 o,.int .i64 0]) (by simp[results,results158,go_sem,e0,C,T,W]) Z ⟨Z,by obtain⟨S',q1,q2,F,X,U⟩:=J.out;exact⟨S',q1.keep (w':=aa.drew) (fun _ _ _=>rfl),q2,F,X,U.drew⟩⟩
def VIn (w:World) (a:Option Addr) (l:List Qj):Prop:=∀ i x,l[i]?=some x->∃ g o,a=some ⟨g,o,none⟩/\g<w.heap.size/\w.cell? ⟨g,o+i*4,none⟩=some (.int .i64 x.kind)/\w.cell? ⟨g,o+i*4+1,none⟩=some (.int .i64 x.region)/\w.cell? ⟨g,o+i*4+2,none⟩=some (.int .i64 x.thing)/\w.cell? ⟨g,o+i*4+3,none⟩=some (.int .i64 x.n)
theorem VIn.below {l:List Qj}(h:VIn w a l) (b:Below w.heap.size w w'):VIn w' a l:=fun i x f=>by
 obtain⟨g,o,e,d,n,j,m,k⟩:=h i x f
 have c:=b.block g d;exact⟨g,o,e,Zl d b.size,(XU (w:=w) (a:=⟨g,o+i*4,none⟩) c).trans n,(XU (w:=w) (a:=⟨g,o+i*4+1,none⟩) c).trans j,(XU (w:=w) (a:=⟨g,o+i*4+2,none⟩) c).trans m,(XU (w:=w) (a:=⟨g,o+i*4+3,none⟩) c).trans k⟩
theorem VIn.drew {l:List Qj}(h:VIn w a l):VIn w.drew a l:=h
theorem VIn.drewN {l:List Qj}(h:VIn w a l) (n:Nat):VIn (w.drewN n) a l:=h
def Zn (l:List Qj) (q:Nat):List Qj:=l.take q++List.replicate (l.length - q) noV
theorem Qgc (l:List Qj)(a:q<=l.length):(Zn l q).length=l.length:=by simp[Zn];omega
theorem Qe9 (l:List Qj){x:Qj}(b:l[q]?=some x):Zn l (q+1)=(Zn l q).set q x:=by
 have c:=(Zi b).1;have a:(l.take q).length=q:=by simp;omega
 unfold Zn;rw[XV,b,List.set_append_right _ _ (by omega),a,Nat.sub_self,show l.length - q=(l.length - (q+1))+1 by omega,List.replicate_succ,List.set_cons_zero]
 simp
theorem Qc6 (l:List Qj):Zn l l.length=l:=by simp[Zn]
theorem Qcu (l:List Qj):Zn l 0=List.replicate l.length noV:=by simp[Zn]
theorem QcD (w:World) (n:Nat):(w.alloc (.cells (madeCells (#[.int .i64 0,.int .i64 0,.int .i64 0,.int .i64 0]:Array Value) (n*4)) 183)).rowIs w.heap.size 183 ((List.replicate n noV).length*4) (Q7 (List.replicate n noV)):=by
 refine⟨_,Qh _ _ _,by simp[size_madeCells],fun i b=>?_⟩
 have a:i<n*4:=by simpa using b
 have e:Q7 (List.replicate n noV) i=.int .i64 0:=by
  unfold Q7;rw[show (List.replicate n noV).getD (i / 4) noV=noV by simp[List.getD,List.getElem?_replicate];split<;>rfl]
  have:i%4=0\/i%4=1\/i%4=2\/i%4=3:=by omega
  rcases this with h | h | h | h<;>rw[h]<;>rfl
 rw[e]
 have:i%4<4:=by omega
 simp[madeCells,a]
 have:i%4=0\/i%4=1\/i%4=2\/i%4=3:=by omega
 rcases this with h | h | h | h<;>simp[h]
theorem QbJ (n:Nat) (hn:n<=1099511627776) (w:World):(Instr.makeSlice 85 (.int .i64 (n:Int)) (.int .i64 (n:Int))).run prog w=.ok (.slice (some ⟨w.heap.size,0,none⟩) n n) (w.alloc (.cells (madeCells (#[.int .i64 0,.int .i64 0,.int .i64 0,.int .i64 0]:Array Value) (n*4)) 183)):=by
 obtain⟨i,c,d,b,a⟩:=hInfoV
 have:=run_make (P:=prog) w 85 183 i _ hUnderVs c d .i64 .i64 n n (by omega) (Int.le_refl _) (by rw[a];omega) (by omega)
 rw[b] at this
 simpa[Value.cells] using this
theorem Qed {l:List Qj}(hn:l.length=n) (hb:n<=1099511627776) (hl:VIn w a l) :
 Calls prog 159 #[.slice a n c] w fun e w'=>∃ g,e=.returned (.slice (some ⟨g,0,none⟩) n n)/\w.heap.size<=g/\w'.rowIs g 183 (n*4) (Q7 (l.map Qj.bare))/\Below w.heap.size w w':=by
 have I:=QbJ n hb w;have C:=Qb (QcD w n);have B0:=Qb (QY w (.cells (madeCells (#[.int .i64 0,.int .i64 0,.int .i64 0,.int .i64 0]:Array Value) (n*4)) 183));have HL:=Qb hl;have A:=Qb hn;clear hl hn;go_enter func159,ntmps159
 go_upto_region 2 with fail
 generalize w.alloc (.cells (madeCells (#[.int .i64 0,.int .i64 0,.int .i64 0,.int .i64 0]:Array Value) (n*4)) 183)=w1 at C B0 |-;clear I;obtain⟨g,Q⟩:∃ g,g=w.heap.size:=⟨_,Z⟩
 have y:Hid (w.heap.size<=g):=by show _<=_;omega
 rw[<-Q] at C |-
 clear Q;go_wp2_with fail
 go_loopw [11] (fun i wr=>∃ q:Nat,q<=n/\i=.int .i64 q/\wr.rowIs g 183 ((Zn (l.map Qj.bare) q).length*4) (Q7 (Zn (l.map Qj.bare) q))/\Below w.heap.size w wr) (fun i _=>n - (intOf i).toNat)
 case atStart =>
  refine⟨0,Xb _,Z,?_,B0.out⟩
  rw[Qcu,XN,A.out]
  exact C.out
 case round =>
  obtain⟨q,hq,rfl,T,hB⟩:=hrel
  have B:=Qb T;have u:=Qb hB;clear T hB;by_cases o:q<n
  ·have P:(q:Int)<n:=by omega
   obtain⟨x,D⟩:∃ x,l[q]?=some x:=⟨_,Zg (by rw[A.out];exact o)⟩
   obtain⟨g1,o1,rfl,F,c0,N,O,c3⟩:=(VIn.below HL.out u.out) q x D
   have G:=Qb (fun wx=>Qej wx x);have M:=Qb D;obtain⟨h,k,m,j,K⟩:∃ h k m j,x.bare=(⟨h,k,m,j⟩:Qj):=⟨_,_,_,_,Z⟩
   have HY:=Qb K;rw[K] at G
   obtain⟨xk,xr,xt,xn⟩:=x
   simp only at c0 N O c3
   have z:Hid (∀ d,Below wr.heap.size wr d->(d.cell? ⟨g,q*4,none⟩).isSome=true/\(d.cell? ⟨g,q*4+1,none⟩).isSome=true/\(d.cell? ⟨g,q*4+2,none⟩).isSome=true/\(d.cell? ⟨g,q*4+3,none⟩).isSome=true/\(∀ i,d.frozen? ⟨g,i,none⟩=false)/\((((d.setCell ⟨g,q*4,none⟩ (.int .i64 h)).setCell ⟨g,q*4+1,none⟩ (.int .i64 k)).setCell ⟨g,q*4+2,none⟩ (.int .i64 m)).setCell ⟨g,q*4+3,none⟩ (.int .i64 j)).rowIs g 183 ((Zn (l.map Qj.bare) (q+1)).length*4) (Q7 (Zn (l.map Qj.bare) (q+1)))/\Below w.heap.size w ((((d.setCell ⟨g,q*4,none⟩ (.int .i64 h)).setCell ⟨g,q*4+1,none⟩ (.int .i64 k)).setCell ⟨g,q*4+2,none⟩ (.int .i64 m)).setCell ⟨g,q*4+3,none⟩ (.int .i64 j))):=by
    intro d r;have J:=B.out.of_block (r.block g B.out.lt);have f:(l.map Qj.bare).length=n:=by rw[XN,A.out]
    have s:q<(Zn (l.map Qj.bare) q).length:=by rw[Qgc _ (by omega),f];exact o
    have H:(l.map Qj.bare)[q]?=some ⟨h,k,m,j⟩:=by rw[XS,M.out,<-HY.out];rfl
    obtain⟨z0,V,z2,L⟩:=Qav J (Zg s)
    refine⟨by rw[z0];rfl,by rw[V];rfl,by rw[z2];rfl,by rw[L];rfl,J.frozen,?_,?_⟩
    ·rw[Qe9 _ H]
     exact QcM J s h k m j
    ·have b:=u.out.trans (r.mono u.out.size);exact(((b.setCell (p:=⟨g,q*4,none⟩) y.out _).setCell (p:=⟨g,q*4+1,none⟩) y.out _).setCell (p:=⟨g,q*4+2,none⟩) y.out _).setCell (p:=⟨g,q*4+3,none⟩) y.out _
   clear D K F;go_wp2_with fail
   refine(G.out _).mono ?_
   rintro e d ⟨rfl,r⟩;have v:Below wr.heap.size wr d:=(QY wr _).trans (r.mono (by simp));obtain⟨R,X,W,S,t,pr,U⟩:=z.out d v
   obtain⟨z0,R⟩:=Option.isSome_iff_exists.1 R
   obtain⟨V,X⟩:=Option.isSome_iff_exists.1 X
   obtain⟨z2,W⟩:=Option.isSome_iff_exists.1 W
   obtain⟨L,S⟩:=Option.isSome_iff_exists.1 S
   have f0:=t (q*4);have f1:=t (q*4+1);have f2:=t (q*4+2);have f3:=t (q*4+3);have PR:=Qb pr;have PB:=Qb U;clear t pr U z G r v M HY B u c0 N O c3;go_wp2
   go_roundw
   case rel=>exact⟨q+1,by omega,by go_num,PR.out,PB.out⟩
   case measure=>simp[intOf];omega
  ·have E:q=n:=by omega
   subst E;go_wp2
   go_ret;refine⟨g,Z,y.out,?_,u.out⟩
   have:=B.out
   have f:(l.map Qj.bare).length=q:=by rw[XN,A.out]
   rw[show Zn (l.map Qj.bare) q=l.map Qj.bare by rw[<-f];exact Qc6 _,f] at this
   exact this
end Go.Proofs.YtofjjohefamljafGreat
