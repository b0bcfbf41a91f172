import Derived.Test.YtjhdpajpibdnaafGreatRows
import Derived.WalkKit
import Derived.WalkLawsBesides
import Derived.ProofKit
import Derived.OpenShut
import Derived.Deep.OwnRows
import Derived.Deep.AppendLies
import Derived.Deep.Draws
import Derived.Deep.Slices
import Derived.Deep.Strs
import Derived.Below
import Derived.ChangeOld
import Derived.Deep.MidRow
import Derived.Laws.StructEq
import Derived.ChangeKeysEq
import Derived.RowKit
import Derived.Deep.QuietTactic
import Derived.BigQuiet
import Derived.Lib.SliceRun
import Derived.Maps.OwnSet
import Derived.RegionTactic
import Derived.Deep.Cut
import Derived.Deep.RegionLaw
set_option maxHeartbeats 16000000
set_option maxRecDepth 100000
namespace Go.Proofs.YtjhdpajpibdnaafGreat
open Go.ChangeShapes Go.WideShapes Go.ChangeAt Go.RowKit _root_.Go.Proofs.Tryz
set_option linter.unusedSimpArgs false
set_option linter.unusedVariables false
variable {w w' w6 w1 w2:World}{n b c k m rc ac X j B i cm g N d f fi cap bp q R pages id bi cc funcs s ci rl al ca ri vl most cR cA G:Nat}{O Q O':Nat→Prop}{l xs regs inp:List Int}{p a rg ag pm pi pa pR pA ra aa:Option Addr}{t e:TypeId}{v:Value}{P:Program}{L bs:List Bool}{x ya xc xk fr xa xb xn yb:Int}{ds cs:List Value}{ops:Array Oper}
abbrev Iv (x:Int):Value:=.int .i64 x
abbrev Pv (b o:Nat):Value:=.pointer (some ⟨b,o,none⟩)
abbrev Nv:Value:=.slice none 0 0
theorem Zr {n:Nat}{w:World}:Below n w w:=Below.refl _ _
theorem Zg {α:Type _}{l:List α}{i:Nat}(h:i<l.length):l[i]?=some l[i]:=List.getElem?_eq_getElem h
theorem Zi {α:Type _}{i:Nat}{a:α}{l:List α}(h:l[i]?=some a):∃ h,l[i]=a:=List.getElem?_eq_some_iff.1 h
theorem Za {α:Type _}{xs:Array α}{i:Nat}{d:α}:xs.getD i d=xs[i]?.getD d:=Array.getD_eq_getD_getElem?
theorem Zl {n m k:Nat}:n<m→m≤k→n<k:=Nat.lt_of_lt_of_le
theorem Zm {α:Type _}{l:List α}{i:Nat}{a:α}(h:l[i]?=some a):a∈l:=List.mem_of_getElem? h
theorem Zt {n m k:Nat}:n≤m→m≤k→n≤k:=Nat.le_trans
theorem Ze {n:Nat}:n≤n:=Nat.le_refl _
theorem Z {α:Sort _}{a:α}:a=a:=rfl
theorem Y:True:=trivial
theorem Yz {α:Sort _}{a:α}:a=a:=rfl
theorem Yy:True:=trivial
theorem Xb:type_of% @Nat.zero_le:=@Nat.zero_le
theorem Xd:type_of% @Below.heap_setCell:=@Below.heap_setCell
theorem Xf:type_of% @List.length_eq_zero_iff:=@List.length_eq_zero_iff
theorem Xr:type_of% @if_neg:=@if_neg
theorem Xs:type_of% @if_pos:=@if_pos
theorem XC:type_of% @lt_of_block:=@lt_of_block
theorem XL:type_of% @Nat.mul_one:=@Nat.mul_one
theorem XR:type_of% @List.getElem?_take:=@List.getElem?_take
theorem XS:type_of% @List.getElem?_map:=@List.getElem?_map
structure Qz (O O':Nat->Prop) (w w':World):Prop where
 os:w'.os=w.os
 tape:w'.tape=w.tape
 output:w'.output=w.output
 size:w.heap.size<=w'.heap.size
 block:∀ k,k<w.heap.size->¬ O k->w'.heap[k]?=w.heap[k]?
 own:∀ k,O' k->O k\/w.heap.size<=k
theorem Qz.refl (O:Nat->Prop) (w:World):Qz O O w w:=⟨Z,Z,Z,Ze,fun _ _ _=>rfl,fun _ h=>Or.inl h⟩
theorem Qz.trans {e:Nat->Prop}{a b c:World}(h:Qz O O' a b) (k:Qz O' e b c):Qz O e a c :=
 ⟨k.os.trans h.os,k.tape.trans h.tape,k.output.trans h.output,Zt h.size k.size,
  fun i f g=>(k.block i (Zl f h.size) (fun j=>(h.own i j).elim g (fun d=>by omega))).trans (h.block i f g),
  fun i f=>(k.own i f).elim (h.own i) (fun d=>Or.inr (Zt h.size d))⟩
theorem Qz.drewN {a:World}(h:Qz O O' a w) (n:Nat):Qz O O' a (w.drewN n):=⟨h.os,h.tape,h.output,h.size,h.block,h.own⟩
theorem Qz.drew {a:World}(h:Qz O O' a w):Qz O O' a w.drew:=⟨h.os,h.tape,h.output,h.size,h.block,h.own⟩
theorem Qz.alloc {a:World}(h:Qz O O' a w) (o:Obj):Qz O O' a (w.alloc o) :=
 ⟨h.os,h.tape,h.output,by have:=h.size;simp;omega,fun k c b=>(Below.heap_alloc _ _ _ (by have:=h.size;omega)).trans (h.block k c b),h.own⟩
theorem Qz.setCell {a:World}(h:Qz O O' a w){p:Addr}(d:O' p.block) (u:Value):Qz O O' a (w.setCell p u) :=
 ⟨h.os,h.tape,h.output,by have:=h.size;simp;omega,
  fun k f c=>(Xd _ _ _ _ (fun e=>by subst e;rcases h.own _ d with b | b;exact c b;omega)).trans (h.block k f c),h.own⟩
theorem Qz.below {a:World}(h:Qz O O' a w) (d:B<=a.heap.size) (c:∀ k,O k->B<=k):Below B a w :=
 ⟨h.os,h.tape,h.output,h.size,fun k e=>h.block k (by omega) (fun b=>by have:=c k b;omega)⟩
theorem Qz.keep {a:World}(h:Qz O O' a w){o:Obj}(b:a.heap[k]?=some o) (c:¬ O k):w.heap[k]?=some o :=
 (h.block k (XC b) c).trans b
theorem Qb {c:Array Value}(h:w.heap[b]?=some (.cells c t (0,0))) (i:Nat) (v:Value) (a:c[i]?=some v):w.cell? ⟨b,i,none⟩=some v:=by
 simp[World.cell?,h,a]
theorem Qj {c:Array Value}(h:w.heap[b]?=some (.cells c t (0,0))) (i:Nat):w.frozen? ⟨b,i,none⟩=false:=by
 simp[World.frozen?,h]
theorem Qh {c:Array Value}(h:w.heap[b]?=some (.cells c t (0,0))) (i:Nat) (v:Value) :
 (w.setCell ⟨b,i,none⟩ v).heap[b]?=some (.cells (c.setIfInBounds i v) t (0,0)):=by
 simp[World.setCell,Array.getElem?_modify,h]
theorem Qe (w:World) (c:Array Value) (t:TypeId):(w.alloc (.cells c t)).heap[w.heap.size]?=some (.cells c t (0,0)):=by
 show (w.heap.push _)[w.heap.size]?=_;simp
theorem Zb {c d:Array Value}{u:TypeId}{f:Nat × Nat}(h:w.heap[b]?=some (.cells c t f)) (k:w.heap[g]?=some (.cells d u f)) (a:t≠u):b≠g:=by
 intro e;subst e;rw[h] at k;simp at k;exact a k.2
def Row (w:World) (O:Nat->Prop) (t:TypeId) (v:Value) (xs:List Int):Prop :=
 w.ownsRow 0 t 1 v xs.length (xs.map (Value.int .i64))/\∀ g,v.ownBlock=some g->O g
theorem Row.nil (w:World) (O:Nat->Prop) (t:TypeId):Row w O t (Nv) []:=⟨⟨Z,Or.inl ⟨Z,Z⟩⟩,by simp[Value.ownBlock]⟩
theorem Row.form (h:Row w O t v xs) :
 ∃ a cap,v=.slice a xs.length cap/\(a=none->xs=[]/\cap=0)/\∀ g,a=some g->g=⟨g.block,0,none⟩/\O g.block/\xs.length<=cap/\cap<=maxLen/\∃ c,w.heap[g.block]?=some (.cells c t (0,0))/\c.size=cap/\∀ i,i<xs.length->c[i]?=some (Iv (xs.getD i 0)):=by
 obtain⟨⟨q,k⟩,m⟩:=h
 rcases k with ⟨rfl,f⟩|⟨g,cap,b,rfl,_,p,j,l,o,n⟩
 ·have:xs=[]:=Xf.1 f
  subst this;exact⟨none,0,Z,(fun _=>⟨Z,Z⟩),(fun g e=>by cases e)⟩
 ·refine⟨some ⟨g,0,none⟩,cap,Z,(fun e=>by cases e),(fun r e=>?_)⟩
  cases e
  refine⟨Z,m g Z,j,l,b,p,by simpa using o,fun i d=>?_⟩
  have:(b.toList.take (xs.length*1))[i]?=(xs.map (Value.int .i64))[i]?:=by rw[n]
  rw[XR,Xs (by omega),XS] at this
  rw[<-Array.getElem?_toList,this]
  simp[List.getD,d]
theorem Row.cell (h:Row w O t (.slice (some ⟨g,0,none⟩) n cap) xs) (i:Nat) (hi:i<xs.length) :
 w.cell? ⟨g,i,none⟩=some (Iv (xs.getD i 0)):=by
 obtain⟨a,d,e,_,f⟩:=h.form
 cases e
 obtain⟨_,_,_,_,c,j,_,b⟩:=f _ Z
 exact Qb j i _ (b i hi)
theorem Row.keep (h:Row w O t v xs) (j:∀ g,v.ownBlock=some g->w'.heap[g]?=w.heap[g]?) (d:∀ g,v.ownBlock=some g->O' g):Row w' O' t v xs:=by
 obtain⟨⟨i,f⟩,l⟩:=h
 refine⟨⟨i,?_⟩,d⟩
 rcases f with c | ⟨g,b,a,rfl,e,k,r⟩
 ·exact Or.inl c
 ·exact Or.inr ⟨g,b,a,Z,e,(j g Z).trans k,r⟩
theorem Row.lt (h:Row w O t v xs)(a:v.ownBlock=some g):g<w.heap.size:=by
 obtain⟨⟨i,c⟩,f⟩:=h
 rcases c with ⟨rfl,_⟩|⟨j,e,b,rfl,_,d,r⟩
 ·simp[Value.ownBlock] at a
 ·simp[Value.ownBlock] at a;subst a;exact XC d
theorem Row.block (h:Row w O t v xs)(b:v.ownBlock=some g):∃ c,w.heap[g]?=some (.cells c t (0,0)):=by
 obtain⟨⟨j,d⟩,i⟩:=h
 rcases d with ⟨rfl,_⟩|⟨k,f,a,rfl,_,e,r⟩
 ·simp[Value.ownBlock] at b
 ·simp[Value.ownBlock] at b;subst b;exact⟨a,e⟩
theorem Row.step {P P':Nat->Prop}(h:Row w O t v xs) (k:Qz P P' w w') (b:∀ x,O x->¬ P x):Row w' O t v xs :=
 h.keep (fun g a=>k.block g (h.lt a) (b g (h.2 g a))) h.2
theorem Row.init (h:Row w O t (.slice (some ⟨g,0,none⟩) n cap) xs) (m:Nat) (l:m<=xs.length) :
 Row w O t (.slice (some ⟨g,0,none⟩) m cap) (xs.take m):=by
 obtain⟨⟨s,i⟩,j⟩:=h
 rcases i with ⟨e,_⟩|⟨f,d,a,e,q,p,r,b,o,k⟩
 ·cases e
 ·cases e
  have c:(xs.take m).length=m:=by simp;omega
  refine⟨⟨by simp,Or.inr ⟨g,cap,a,by rw[c],Xb _,p,by omega,b,o,?_⟩⟩,fun f e=>j f e⟩
  rw[c,XL,List.map_take,<-k,List.take_take,XL,Nat.min_eq_left l]
theorem Row.head (h:Row w O t (.slice a n cap) xs) (f:0<xs.length) :
 ∃ g,a=some ⟨g,0,none⟩/\n=xs.length/\xs.length<=cap/\O g/\g<w.heap.size:=by
 have b:=fun g i=>h.lt (g:=g) i;obtain⟨l,d,e,j,c⟩:=h.form
 simp only[Value.slice.injEq] at e
 obtain⟨rfl,rfl,rfl⟩:=e
 cases a with
 | none=>rw[(j Z).1] at f;simp at f
 | some g =>
   have k:=(c g Z).1;exact⟨g.block,by rw[<-k],Z,(c g Z).2.2.1,(c g Z).2.1,b _ Z⟩
theorem QE {b k:Nat}(a:k≠b):∀ (vs:List Value) (o:Nat) (w:World),(w.setCells b o vs).heap[k]?=w.heap[k]?
 | [],_,_=>rfl
 | v::r,o,w=>by rw[World.setCells,QE a r];exact Xd _ _ _ _ a
theorem Qz.setCells {O O':Nat->Prop}{a:World}{b:Nat}(c:O' b):∀ (vs:List Value) (o:Nat) (w:World),Qz O O' a w->Qz O O' a (w.setCells b o vs)
 | [],_,_,h=>h
 | v::r,o,w,h=>Qz.setCells c r (o+1) _ (h.setCell (p:=⟨b,o,none⟩) c v)
theorem Qdw {b:Nat}{t:TypeId}{n:Nat}(z:Value):∀ (m o:Nat) (w:World) (f:Nat->Value),w.rowIs b t n f->(w.setCells b o (List.replicate m z)).rowIs b t n (fun j=>if o<=j/\j<o+m then z else f j)
 | 0,o,w,f,h=>h.congr fun j d=>by rw[Xr (by omega)]
 | m+1,o,w,f,h=>by
   rw[List.replicate_succ,World.setCells]
   refine(Qdw z m (o+1) _ _ (h.set o z)).congr fun j d=>?_
   by_cases a:j=o
   ·subst a;simp
   ·by_cases c:o<=j/\j<o+(m+1)
    ·rw[Xs (by omega),Xs c]
    ·rw[Xr (by omega),Xr c,Xr a]
theorem Row.pushed {k:Int}{o:Obj}(h:Row w O t v xs) (f:w1.ownsRow 0 t 1 (.slice (some ⟨g,0,none⟩) (xs.length+1) cap) (xs.length+1) (xs.map (Value.int .i64)++[Iv k]))
 (a:v.ownBlock=some g\/g=w.heap.size+1) (b:g<w1.heap.size) (O':Nat->Prop) (d:∀ x,O x\/w.heap.size<=x->x<w1.heap.size->O' x):Row w1 O' t (.slice (some ⟨g,0,none⟩) (xs.length+1) cap) (xs++[k]):=by
 refine⟨?_,fun i e=>?_⟩
 ·have e:(xs++[k]).length=xs.length+1:=by simp
  rw[e,List.map_append];exact f
 ·simp[Value.ownBlock] at e;subst e
  refine d _ ?_ b;rcases a with c | c
  ·exact Or.inl (h.2 _ c)
  ·right;omega
theorem Qgz (w:World) (v:Value) (t:TypeId):∀ (j:Nat) (u:Value),[v][j]?=some u->(w.alloc (.cells #[v] t)).cell? (Addr.add ⟨w.heap.size,0,none⟩ j)=some u:=by
 intro j u a;match j,a with
 | 0,a=>simp at a;subst a;simp[Addr.add]
theorem Qc6 (k:Int):∀ u,u∈[Value.int .i64 k]->u.oneCell'=true:=by intro u a;simp at a;subst a;rfl
theorem Xk:type_of% @List.getElem?_eq_none:=@List.getElem?_eq_none
theorem XQ:type_of% @List.getElem?_append_right:=@List.getElem?_append_right
theorem XT:type_of% @Int.toNat_natCast:=@Int.toNat_natCast
structure Q1 where
 kind:Int
 region:Int
 thing:Int
 n:Int
structure Qw where
 arr:Bool
 l:List Q1
structure Qr where
 there:Bool
 l:List Qw
 pages:Nat
 used:Int
structure Qd where
 L:List Qr
 left:Nat
def Qnh (x:Int):Prop:=-9223372036854775808<=x/\x<=9223372036854775807
def Qw.knd (t:Qw):Int:=if t.arr then 4 else 3
def noV:Q1:=⟨0,0,0,0⟩
def Qct (n:Int):Q1:=⟨1,0,0,n⟩
def noP:Qr:=⟨false,[],0,0⟩
def newP:Qr:=⟨true,[],0,0⟩
def Qd.new (pages:Nat):Qd:=⟨[],pages⟩
def Qd.live (h:Qd):Nat:=(h.L.filter (·.there)).length
def Qd.place (h:Qd) (k:Int):Option Qr:=if k<0 then none else match h.L[k.toNat]? with
 | none=>none
 | some p=>if p.there then some p else none
def Qd.open_ (h:Qd):Q1 × Bool × Qd:=if 16<=h.live then (noV,false,h) else (⟨2,h.L.length,0,0⟩,true,{ h with L:=h.L++[newP] })
def Qd.at (h:Qd) (v:Q1):Option Qr:=if v.kind=2 then h.place v.region else none
def Qd.shut (h:Qd) (v:Q1):Bool × Qd:=match h.at v with
 | none=>(false,h)
 | some p=>(true,⟨h.L.set v.region.toNat noP,h.left+p.pages⟩)
def Qr.tight (p:Qr) (words:Int):Bool:=decide (p.pages=0)||decide (words>16 - p.used)
def Qr.more (p:Qr) (t:Qw) (words:Int):Qr:=if p.tight words then ⟨p.there,p.l++[t],p.pages+1,words⟩ else ⟨p.there,p.l++[t],p.pages,p.used+words⟩
def Qd.put (h:Qd) (v:Q1) (t:Qw) (words:Int):Q1 × Int × Qd:=match h.at v with
 | none=>(noV,20,h)
 | some p=>if p.tight words/\h.left=0 then (noV,14,h)
   else (⟨if t.arr then 4 else 3,v.region,p.l.length,0⟩,0,⟨h.L.set v.region.toNat (p.more t words),if p.tight words then h.left - 1 else h.left⟩)
def Qd.tuple (h:Qd) (v:Q1) (l:List Q1):Q1 × Int × Qd:=h.put v ⟨false,l⟩ (if l.length=0 then 1 else l.length)
def Qd.array (h:Qd) (v:Q1) (n:Int):Q1 × Int × Qd:=if n<0\/15<n then (noV,1,h) else h.put v ⟨true,List.replicate n.toNat (Qct 0)⟩ (n+1)
def Qd.thing (h:Qd) (v:Q1):Option Qw:=if v.kind=3\/v.kind=4 then (match h.place v.region with
 | none=>none
 | some p=>if v.thing<0 then none else match p.l[v.thing.toNat]? with
   | none=>none
   | some t=>if t.arr=decide (v.kind=4) then some t else none) else none
def Qd.get (h:Qd) (v:Q1) (k:Int):Q1 × Int:=match h.thing v with
 | none=>(noV,20)
 | some t=>if k<0 then (noV,1) else match t.l[k.toNat]? with
   | none=>(noV,1)
   | some x=>(x,0)
def Qd.set (h:Qd) (v:Q1) (k:Int) (x:Q1):Int × Qd:=match h.thing v,h.place v.region with
 | some t,some p=>if t.arr=true/\x.kind≠1 then (20,h) else if k<0\/t.l.length<=k.toNat then (1,h)
   else (0,{ h with L:=h.L.set v.region.toNat { p with l:=p.l.set v.thing.toNat { t with l:=t.l.set k.toNat x } } })
 | _,_=>(20,h)
def Qd.len (h:Qd) (v:Q1):Int × Int:=match h.thing v with
 | none=>(0,20)
 | some t=>(t.l.length,0)
theorem Qd.place_nat (h:Qd) (k:Nat):h.place (k:Int)=match h.L[k]? with
 | none=>none
 | some p=>if p.there then some p else none:=by
 unfold Qd.place;rw[Xr (by omega),XT]
theorem Qd.place_some {h:Qd}{k:Int}{p:Qr}(e:h.place k=some p):0<=k/\h.L[k.toNat]?=some p/\p.there=true:=by
 unfold Qd.place at e;split at e
 ·cases e
 ·rename_i c
  refine⟨by omega,?_⟩
  split at e
  ·cases e
  ·rename_i q b
   split at e
   ·rename_i a;cases e;exact⟨b,a⟩
   ·cases e
theorem Qd.place_set {h:Qd}(b:k<h.L.length) (p:Qr) (n:Nat) (j:Int):Qd.place ⟨h.L.set k p,n⟩ j=if j=k then (if p.there then some p else none) else h.place j:=by
 unfold Qd.place;by_cases a:j<0
 ·rw[Xs a,Xr (by omega),Xs a]
 ·rw[Xr a,Xr a]
  by_cases e:j=k
  ·subst e;simp[b]
  ·rw[Xr e,List.getElem?_set_ne (by omega)]
theorem Qd.place_push (h:Qd) (p:Qr) (j:Int) (n:Nat):Qd.place ⟨h.L++[p],n⟩ j=if j=h.L.length then (if p.there then some p else none) else h.place j:=by
 unfold Qd.place;by_cases b:j<0
 ·rw[Xs b,Xr (by omega),Xs b]
 ·rw[Xr b,Xr b]
  by_cases e:j=h.L.length
  ·subst e;simp
  ·rw[Xr e]
   rcases Nat.lt_or_ge j.toNat h.L.length with a | a
   ·simp[List.getElem?_append,a]
   ·rw[XQ a,Xk a,Xk (by simp;omega)]
theorem Xj:type_of% @Array.getElem?_eq_getElem:=@Array.getElem?_eq_getElem
theorem Xp:type_of% @Nat.mul_le_mul_right:=@Nat.mul_le_mul_right
theorem XK:type_of% @Nat.zero_add:=@Nat.zero_add
theorem XO:type_of% @List.take_of_length_le:=@List.take_of_length_le
section
open Go.Deep
structure Lay (α:Type) where
 size:Nat
 In:World->(Nat->Prop)->α->List Value->Prop
 len:∀ {w O x cs},In w O x cs->cs.length=size
 keep:∀ {w w':World} {O O':Nat->Prop} {x cs},(∀ k,O k->k<w.heap.size->w'.heap[k]?=w.heap[k]?)->(∀ k,O k->k<w.heap.size->O' k)->In w O x cs->In w' O' x cs
section
variable {α β:Type}{L:Lay α}{w w':World}{O O':Nat->Prop}{x:α}{cs:List Value}
theorem Lay.below (h:L.In w O x cs) (b:Below w.heap.size w w'):L.In w' O x cs:=L.keep (fun k _ a=>b.block k a) (fun _ h _=>h) h
theorem Ya:type_of% @Lay.below:=@Lay.below
theorem Lay.mono (h:L.In w O x cs) (a:∀ k,O k->k<w.heap.size->O' k):L.In w O' x cs:=L.keep (fun k _ _=>rfl) a h
theorem Yc:type_of% @Lay.mono:=@Lay.mono
theorem Lay.setCell (h:L.In w O x cs){p:Addr}(a:¬ O p.block) (v:Value):L.In (w.setCell p v) O x cs :=
 L.keep (fun k b _=>Xd _ _ _ _ (fun e=>by subst e;exact a b)) (fun _ h _=>h) h
end
def Lay.int:Lay Int where
 size:=1
 In:=fun _ _ x cs=>cs=[Iv x]/\-9223372036854775808<=x/\x<=9223372036854775807
 len:=fun h=>by rw[h.1];rfl
 keep:=fun _ _ h=>h
def Lay.pair {α β:Type}(A:Lay α) (B:Lay β):Lay (α × β) where
 size:=A.size+B.size
 In:=fun w O x cs=>∃ c d,cs=c++d/\A.In w O x.1 c/\B.In w O x.2 d
 len:=fun ⟨c,d,e,h1,h2⟩=>by rw[e,List.length_append,A.len h1,B.len h2]
 keep:=fun hb hl ⟨c,d,e,h1,h2⟩=>⟨c,d,e,A.keep hb hl h1,B.keep hb hl h2⟩
def Lay.list {α:Type}(A:Lay α):Lay (List α) where
 size:=1
 In:=fun w O l cs=>∃ a c,cs=[.slice a l.length c]/\∀ (i:Nat) (x:α),l[i]?=some x->∃ g o ds,a=some ⟨g,o,none⟩/\O g/\g<w.heap.size/\(∀ j,j<A.size->w.cell? ⟨g,o+i*A.size+j,none⟩=ds[j]?)/\A.In w O x ds
 len:=fun ⟨_,_,e,_⟩=>by rw[e];rfl
 keep:=fun {w w' O O' l cs} hb hl ⟨a,c,e,h⟩=>⟨a,c,e,fun i x hx=>by
  obtain⟨g,o,ds,e1,hg,hlt,hc,hi⟩:=h i x hx
  have hk:w'.heap[g]?=w.heap[g]?:=hb g hg hlt;refine⟨g,o,ds,e1,hl g hg hlt,?_,fun j hj=>?_,A.keep hb hl hi⟩
  ·rcases Nat.lt_or_ge g w'.heap.size with h' | h'
   ·exact h'
   ·rw[Array.getElem?_eq_none h',Array.getElem?_eq_getElem hlt] at hk;cases hk
  ·exact(World.cell?_of_block (w:=w) (a:=⟨g,o+i*A.size+j,none⟩) hk).trans (hc j hj)⟩
theorem Lay.int_mk (w:World) (O:Nat->Prop){x:Int}(h:-9223372036854775808<=x/\x<=9223372036854775807):Lay.int.In w O x [Iv x]:=⟨Z,h⟩
theorem Lay.list_nil {α:Type}(A:Lay α) (w:World) (O:Nat->Prop) (a:Option Addr) (c:Nat):A.list.In w O [] [.slice a 0 c]:=⟨a,c,Z,fun i x h=>by simp at h⟩
theorem Yg:type_of% @Lay.list_nil:=@Lay.list_nil
theorem Lay.list_at {α:Type}{A:Lay α}{w:World}{O:Nat->Prop}{l:List α}(h:A.list.In w O l [.slice a n c]){x:α}(b:l[i]?=some x) :
 ∃ g o ds,a=some ⟨g,o,none⟩/\O g/\g<w.heap.size/\(∀ j,j<A.size->w.cell? ⟨g,o+i*A.size+j,none⟩=ds[j]?)/\A.In w O x ds:=by
 obtain⟨d,f,e,h⟩:=h
 simp at e
 obtain⟨rfl,_,rfl⟩:=e
 exact h i x b
theorem Yf:type_of% @Lay.list_at:=@Lay.list_at
theorem Lay.list_len {α:Type}{A:Lay α}{w:World}{O:Nat->Prop}{l:List α}(h:A.list.In w O l [.slice a n c]):n=l.length:=by
 obtain⟨b,d,e,h⟩:=h
 simp at e
 exact e.2.1
theorem Qkx {α:Type}{P:Nat->α->Prop}(m:Nat) (h:∀ i,i<m->∃ x,P i x):∃ l:List α,l.length=m/\∀ i x,l[i]?=some x->P i x:=by
 induction m with
 | zero=>exact⟨[],Z,fun i x b=>by simp at b⟩
 | succ m ih =>
   obtain⟨l,c,e⟩:=ih (fun i d=>h i (by omega))
   obtain⟨x,b⟩:=h m (by omega)
   refine⟨l++[x],by simp[c],fun i y a=>?_⟩
   rw[List.getElem?_append] at a
   split at a
   ·exact e i y a
   ·rename_i d
    have:i=m:=by
     have:=(Zi a).1
     simp at this
     omega
    subst this;simp[c] at a
    subst a;exact b
structure Qap {α:Type}(A:Lay α) (e:TypeId) (w:World) (lo:Nat) (v:Value) (l:List α) (xs:List Value):Prop where
 own:w.ownsRow lo e A.size v l.length xs
 kids:∀ (i:Nat) (x:α),l[i]?=some x->A.In w (fun g=>lo<=g/\v.ownBlock≠some g) x ((xs.drop (i*A.size)).take A.size)
section
variable {α:Type}{A:Lay α}{e:TypeId}{w w':World}{lo:Nat}{v:Value}{l:List α}{xs:List Value}
theorem Qap.nil (A:Lay α) (e:TypeId) (w:World) (lo:Nat):Qap A e w lo (Nv) [] []:=⟨⟨by simp,Or.inl ⟨Z,Z⟩⟩,fun i x h=>by simp at h⟩
theorem Qap.lo_le (h:Qap A e w lo v l xs)(a:v.ownBlock=some g):lo<=g/\g<w.heap.size:=by
 obtain⟨⟨m,d⟩,k⟩:=h
 rcases d with ⟨rfl,j⟩|⟨n,i,c,rfl,b,f,r⟩
 ·simp[Value.ownBlock] at a
 ·simp[Value.ownBlock] at a;subst a;exact⟨b,XC f⟩
theorem Qap.below (h:Qap A e w lo v l xs) (b:Below w.heap.size w w'):Qap A e w' lo v l xs:=by
 obtain⟨⟨o,m⟩,n⟩:=h
 refine⟨⟨o,?_⟩,fun i x j=>Ya (n i x j) b⟩
 rcases m with f | ⟨g,c,a,e,k,d,r⟩
 ·exact Or.inl f
 ·exact Or.inr ⟨g,c,a,e,k,(b.block g (XC d)).trans d,r⟩
theorem Qap.lay (h:Qap A e w lo v l xs):A.list.In w (fun g=>lo<=g) l [v]:=by
 obtain⟨⟨C,q⟩,s⟩:=h
 rcases q with ⟨rfl,o⟩|⟨g,c,a,rfl,p,m,r,B,z,t⟩
 ·have:l=[]:=Xf.1 o
  subst this;exact Yg A _ _ _ _
 ·refine⟨some ⟨g,0,none⟩,c,Z,fun i x f=>⟨g,0,_,Z,p,XC m,fun j u=>?_,Yc (s i x f) (fun k y _=>y.1)⟩⟩
  have n:i<l.length:=(Zi f).1
  have d:i*A.size+j<l.length*A.size:=by
   have:(i+1)*A.size<=l.length*A.size:=Xp _ n
   rw[Nat.add_mul] at this
   omega
  rw[XR,Xs u,List.getElem?_drop,<-t,XR,Xs d,XK]
  have b:i*A.size+j<a.size:=by
   have:l.length*A.size<=c*A.size:=Xp _ r
   omega
  rw[Array.getElem?_toList]
  exact(Qb m _ a[i*A.size+j] (Xj b)).trans (Xj b).symm
theorem Qap.push (h:Qap A e w lo v l xs){x:α}(n:A.In w (fun g=>lo<=g/\v.ownBlock≠some g) x ds)
  (r:w.grownBy w' v.ownBlock) (d:v.ownBlock=some g\/g=w.heap.size)
 (B:w'.ownsRow lo e A.size (.slice (some ⟨g,0,none⟩) (l.length+1) cap) (l.length+1) (xs++ds)) :
 Qap A e w' lo (.slice (some ⟨g,0,none⟩) (l.length+1) cap) (l++[x]) (xs++ds):=by
 obtain⟨z,t⟩:=h
 have f:=z.1;have u:=A.len n
 have a:∀ {y:α} {es:List Value},A.In w (fun g=>lo<=g/\v.ownBlock≠some g) y es->A.In w' (fun q=>lo<=q/\(Value.slice (some ⟨g,0,none⟩) (l.length+1) cap).ownBlock≠some q) y es:=fun b=>by
  refine A.keep (fun k c o=>?_) (fun k c o=>⟨c.1,?_⟩) b
  ·exact r.block k o (fun e=>c.2 e.symm)
  ·simp only[Value.ownBlock,ne_eq,Option.some.injEq]
   intro e;subst e;rcases d with p | p
   ·exact c.2 p
   ·omega
 refine⟨by rw[List.length_append];exact B,fun i y b=>?_⟩
 rw[List.getElem?_append] at b
 split at b
 ·rename_i m
  have s:(i+1)*A.size<=l.length*A.size:=Xp _ m;rw[Nat.add_mul] at s
  have:=t i y b
  rw[List.drop_append_of_le_length (by omega),List.take_append_of_le_length (by simp;omega)]
  exact a this
 ·rename_i m
  have j:i=l.length:=by
   have:=(Zi b).1
   simp at this
   omega
  subst j;simp at b
  subst b;rw[List.drop_append,List.drop_of_length_le (by omega),<-f,Nat.sub_self,List.drop_zero,List.nil_append,XO (by omega)]
  exact a n
end
end
theorem Xn:type_of% @Option.some.inj:=@Option.some.inj
def TT:Nat->Type
 | 0=>Empty
 | n+1=>Int × Int × List (TT n)
def TT.kind:{n:Nat}->TT n->Int
 | 0,t=>Empty.elim t
 | _+1,t=>t.1
def TT.r:{n:Nat}->TT n->Int
 | 0,t=>Empty.elim t
 | _+1,t=>t.2.1
def TT.len:{n:Nat}->TT n->Nat
 | 0,t=>Empty.elim t
 | _+1,t=>t.2.2.length
def TT.count:{n:Nat}->TT n->Nat
 | 0,t=>Empty.elim t
 | n+1,t=>1+(t.2.2.map (TT.count (n:=n))).sum
def TT.height:{n:Nat}->TT n->Nat
 | 0,t=>Empty.elim t
 | n+1,t=>(t.2.2.map (fun x=>1+TT.height (n:=n) x)).foldl max 0
def ownC (k r:Int) (len:Nat) (regs:Int):Int :=
 if k<1\/4<k then 3
 else if k=1/\r≠0 then 4
 else if k≠3/\0<len then 4
 else if 8<len then 2
 else if k≠1/\(r<0\/regs<=r) then 1
 else 0
def Qu {α:Type}(f:α->Int):List α->Int
 | []=>0
 | x::xs=>if f x≠0 then f x else Qu f xs
def TT.fault:{n:Nat}->Int->TT n->Int
 | 0,_,t=>Empty.elim t
 | n+1,regs,t=>if ownC t.1 t.2.1 t.2.2.length regs≠0 then ownC t.1 t.2.1 t.2.2.length regs else Qu (TT.fault (n:=n) regs) t.2.2
def TT.check {n:Nat}(regs:Int) (t:TT n):Int:=if 4<t.height then 19 else t.fault regs
def ZK (m:Nat) (too:Nat->Int) (k r:Int):Option Int :=
 if k=1 then some r else if r<0\/(m:Int)<=r then none else if too r.toNat<0 then none else some (too r.toNat)
def ZT {α:Type}(f:α->Option α):List α->Option (List α)
 | []=>some []
 | x::xs=>match f x with
   | none=>none
   | some y=>match ZT f xs with
     | none=>none
     | some ys=>some (y::ys)
def TT.ren:{n:Nat}->Nat->(Nat->Int)->TT n->Option (TT n)
 | 0,_,_,t=>Empty.elim t
 | n+1,m,too,t=>match ZK m too t.1 t.2.1 with
   | none=>none
   | some r=>match ZT (TT.ren (n:=n) m too) t.2.2 with
     | none=>none
     | some l=>some ((t.1,r,l):Int × Int × List (TT n))
def TT.ok:{n:Nat}->TT n->Prop
 | 0,t=>Empty.elim t
 | n+1,t=>(-9223372036854775808<=t.2.1/\t.2.1<=9223372036854775807)/\∀ x∈t.2.2,TT.ok (n:=n) x
theorem ZS {α:Type}{f:α->Option α}:∀ {l l':List α},ZT f l=some l'↔(l'.length=l.length/\∀ (i:Nat) x,l[i]?=some x->f x=l'[i]?)
 | [],l'=>by
   simp only[ZT,Option.some.injEq]
   constructor
   ·intro h;subst h;simp
   ·intro h;exact(Xf.1 h.1).symm
 | x::xs,l'=>by
   simp only[ZT]
   constructor
   ·intro h
    cases a:f x with
    | none=>simp[a] at h
    | some y =>
      simp only[a] at h
      cases c:ZT f xs with
      | none=>simp[c] at h
      | some ys =>
        simp only[c,Option.some.injEq] at h
        subst h;obtain⟨e,d⟩:=ZS.1 c
        refine⟨by simp[e],fun i z b=>?_⟩
        cases i with
        | zero=>simp at b;subst b;simpa using a
        | succ i=>simpa using d i z (by simpa using b)
   ·rintro ⟨e,d⟩
    cases l' with
    | nil=>simp at e
    | cons y ys =>
      have a:f x=some y:=by simpa using d 0 x Z
      have c:ZT f xs=some ys:=ZS.2 ⟨by simpa using e,fun i z b=>by simpa using d (i+1) z (by simpa using b)⟩;simp[a,c]
theorem Qfc {α:Type}{f:α->Option α}:∀ {l:List α}{i:Nat}{x:α},l[i]?=some x->f x=none->ZT f l=none
 | [],i,x,h,_=>by simp at h
 | y::ys,0,x,h,hf=>by simp at h;subst h;simp[ZT,hf]
 | y::ys,i+1,x,h,hf=>by
   have:=Qfc (l:=ys) (i:=i) (by simpa using h) hf
   simp only[ZT,this]
   cases f y<;>rfl
theorem Qaq {α:Type}{f:α->Int}:∀ {l:List α}{i:Nat}{x:α},l[i]?=some x->(∀ (j:Nat) y,j<i->l[j]?=some y->f y=0)->f x≠0->Qu f l=f x
 | [],i,x,h,_,_=>by simp at h
 | y::ys,0,x,h,_,hf=>by simp at h;subst h;simp[Qu,hf]
 | y::ys,i+1,x,h,hz,hf=>by
   have b:f y=0:=hz 0 y (by omega) Z;simp only[Qu,b,ne_eq,not_true_eq_false,if_false]
   exact Qaq (by simpa using h) (fun j z c a=>hz (j+1) z (by omega) (by simpa using a)) hf
theorem Z1 {α:Type}{f:α->Int}:∀ {l:List α},(∀ (j:Nat) y,l[j]?=some y->f y=0)->Qu f l=0
 | [],_=>rfl
 | y::ys,h=>by
   have b:f y=0:=h 0 y Z;simp only[Qu,b,ne_eq,not_true_eq_false,if_false]
   exact Z1 (fun j z a=>h (j+1) z (by simpa using a))
theorem QF {α:Type}{f:α->Int}:∀ {l:List α},Qu f l=0↔∀ x∈l,f x=0
 | []=>by simp[Qu]
 | y::ys=>by
   simp only[Qu]
   by_cases h:f y=0
   ·simp[h,QF]
   ·simp[h]
theorem Qa0 {α β:Type}{f:α->Int}{g:β->Int}:∀ {l:List α}{l':List β},l'.length=l.length->(∀ (i:Nat) x y,l[i]?=some x->l'[i]?=some y->f x=g y)->Qu f l=Qu g l'
 | [],[],_,_=>rfl
 | [],_::_,h,_=>by simp at h
 | _::_,[],h,_=>by simp at h
 | x::xs,y::ys,h,k=>by
   have d:f x=g y:=k 0 x y Z Z;have c:=Qa0 (f:=f) (g:=g) (l:=xs) (l':=ys) (by simpa using h) (fun i a b e j=>k (i+1) a b (by simpa using e) (by simpa using j));simp only[Qu,d,c]
theorem TT.count_pos:{n:Nat}->(t:TT n)->1<=t.count
 | 0,t=>Empty.elim t
 | n+1,t=>by simp only[TT.count];omega
theorem Qgb (l:List Nat):∀ i,(l.take i).sum<=l.sum:=by
 intro i
 have:=congrArg List.sum (List.take_append_drop i l)
 rw[List.sum_append] at this
 omega
theorem length_le_sum:∀ (l:List Nat),(∀ x∈l,1<=x)->l.length<=l.sum
 | [],_=>by simp
 | x::xs,h=>by
   have b:=h x (by simp);have c:=length_le_sum xs (fun y a=>h y (by simp[a]));simp only[List.length_cons,List.sum_cons]
   omega
theorem TT.len_lt_count:{n:Nat}->(t:TT n)->t.len<t.count
 | 0,t=>Empty.elim t
 | n+1,t=>by
   have:=length_le_sum (t.2.2.map (TT.count (n:=n))) (fun x a=>by simp only[List.mem_map] at a;obtain⟨y,_,rfl⟩:=a;exact y.count_pos)
   simp only[TT.count,TT.len]
   simp at this
   omega
theorem le_sum_of_mem:∀ {l:List Nat}{x:Nat},x∈l->x<=l.sum
 | y::ys,x,h=>by
   rcases List.mem_cons.1 h with rfl | h
   ·simp
   ·have:=le_sum_of_mem h
    simp only[List.sum_cons];omega
theorem TT.count_kid (t:TT (n+1)){x:TT n}(h:x∈t.2.2):x.count<t.count:=by
 have:=le_sum_of_mem (l:=t.2.2.map (TT.count (n:=n))) (List.mem_map_of_mem h)
 simp only[TT.count]
 omega
theorem QaO {l:List Nat}{a:Nat}:l.foldl max a<=m↔a<=m/\∀ x∈l,x<=m:=by
 induction l generalizing a with
 | nil=>simp
 | cons y ys ih =>
   simp only[List.foldl_cons,ih,List.mem_cons,forall_eq_or_imp,Nat.max_le,and_assoc]
theorem Q8 {t:TT (n+1)}:t.height<=m↔∀ x∈t.2.2,1+x.height<=m:=by
 simp only[TT.height,QaO,List.mem_map,Nat.zero_le,true_and,forall_exists_index,and_imp,forall_apply_eq_imp_iff₂]
theorem TT.ren_height {m:Nat}{too:Nat->Int}:{n:Nat}->{t u:TT n}->t.ren m too=some u->u.height=t.height
 | 0,t,_,_=>Empty.elim t
 | n+1,t,u,h=>by
   simp only[TT.ren] at h
   cases e1:ZK m too t.1 t.2.1 with
   | none=>simp[e1] at h
   | some r1 =>
     simp only[e1] at h
     cases e2:ZT (TT.ren m too) t.2.2 with
     | none=>simp[e2] at h
     | some l1 =>
       simp only[e2] at h
       have h:=Xn h;subst h;simp only[TT.height]
       congr 1
       obtain⟨e,d⟩:=ZS.1 e2
       apply List.ext_getElem (by simp[e])
       intro i c a;simp at c a
       have b:=d i t.2.2[i] (Zg a);rw[Zg c] at b
       simp[TT.ren_height b]
theorem TT.fault_zero {t:TT (n+1)}{regs:Int}(h:t.fault regs=0):ownC t.1 t.2.1 t.2.2.length regs=0/\∀ x∈t.2.2,x.fault regs=0:=by
 simp only[TT.fault] at h
 split at h
 ·contradiction
 ·rename_i a
  exact⟨by simpa using a,QF.1 h⟩
theorem Xi:type_of% @World.block_lt_of_cell?:=@World.block_lt_of_cell?
theorem XU:type_of% @World.cell?_of_block:=@World.cell?_of_block
section
open Go.Deep
abbrev All:Nat->Prop:=fun _=>True
abbrev Qcv (lo:Nat):Nat->Prop:=fun g=>lo<=g
def TIn (w:World) (O:Nat->Prop):{n:Nat}->TT n->Option Addr->Prop
 | 0,t,_=>Empty.elim t
 | n+1,t,a=>∀ (i:Nat) (x:TT n),t.2.2[i]?=some x->∃ g o a' c',a=some ⟨g,o,none⟩/\O g /\
  w.cell? ⟨g,o+i*3,none⟩=some (Iv x.kind)/\w.cell? ⟨g,o+i*3+1,none⟩=some (Iv x.r)/\w.cell? ⟨g,o+i*3+2,none⟩=some (.slice a' x.len c')/\TIn w O (n:=n) x a'
abbrev Tv {n:Nat}(t:TT n) (a:Option Addr) (c:Nat):Value:=.agg #[Iv t.kind,Iv t.r,.slice a t.len c]
abbrev mkT {n:Nat}(k r:Int) (l:List (TT n)):TT (n+1):=(k,r,l)
abbrev LIn (w:World) (O:Nat->Prop){n:Nat}(l:List (TT n)) (a:Option Addr):Prop:=TIn w O (mkT 0 0 l) a
theorem TIn.list {w:World}{O:Nat->Prop}{n:Nat}{t:TT (n+1)}{a:Option Addr}(h:TIn w O t a):LIn w O t.2.2 a:=h
theorem LIn.tree {w:World}{O:Nat->Prop}{n:Nat}{k r:Int}{l:List (TT n)}{a:Option Addr}(h:LIn w O l a):TIn w O (mkT k r l) a:=h
theorem LIn.at {w:World}{O:Nat->Prop}{n:Nat}{l:List (TT n)}{a:Option Addr}(h:LIn w O l a){x:TT n}(b:l[i]?=some x) :
 ∃ g o a' c',a=some ⟨g,o,none⟩/\O g /\
  w.cell? ⟨g,o+i*3,none⟩=some (Iv x.kind)/\w.cell? ⟨g,o+i*3+1,none⟩=some (Iv x.r)/\w.cell? ⟨g,o+i*3+2,none⟩=some (.slice a' x.len c')/\TIn w O x a':=h i x b
theorem LIn.nil {w:World}{O:Nat->Prop}{n:Nat}{a:Option Addr}:LIn w O ([]:List (TT n)) a:=fun i x h=>by simp at h
theorem TIn.keep {w w':World}{O O':Nat->Prop}(j:∀ k,O k->k<w.heap.size->w'.heap[k]?=w.heap[k]?) (d:∀ k,O k->k<w.heap.size->O' k):{n:Nat}->{t:TT n}->{a:Option Addr}->TIn w O t a->TIn w' O' t a
 | 0,t,_,_=>Empty.elim t
 | n+1,t,a,h=>fun i x p=>by
   obtain⟨g,o,s,u,e,f,l,q,r,m⟩:=h i x p
   have b:g<w.heap.size:=Xi w ⟨g,o+i*3,none⟩ l;have c:w'.heap[g]?=w.heap[g]?:=j g f b;refine⟨g,o,s,u,e,d g f b,?_,?_,?_,TIn.keep j d m⟩
   ·exact(XU (w:=w) (a:=⟨g,o+i*3,none⟩) c).trans l
   ·exact(XU (w:=w) (a:=⟨g,o+i*3+1,none⟩) c).trans q
   ·exact(XU (w:=w) (a:=⟨g,o+i*3+2,none⟩) c).trans r
section
variable {w w':World}{O O':Nat->Prop}{n:Nat}{t:TT n}{a:Option Addr}
theorem TIn.below (h:TIn w O t a) (b:Below w.heap.size w w'):TIn w' O t a:=h.keep (fun k _ c=>b.block k c) (fun _ h _=>h)
theorem TIn.mono (h:TIn w O t a) (b:∀ k,O k->k<w.heap.size->O' k):TIn w O' t a:=h.keep (fun k _ _=>rfl) b
theorem TIn.all (h:TIn w O t a):TIn w All t a:=h.mono (fun _ _ _=>trivial)
theorem TIn.alloc (h:TIn w O t a) (o:Obj):TIn (w.alloc o) O t a:=h.keep (fun k _ b=>Below.heap_alloc _ _ _ b) (fun _ h _=>h)
theorem TIn.setCell (h:TIn w O t a){p:Addr}(b:¬ O p.block) (v:Value):TIn (w.setCell p v) O t a :=
 h.keep (fun k c _=>Xd _ _ _ _ (fun e=>by subst e;exact b c)) (fun _ h _=>h)
theorem TIn.drew (h:TIn w O t a):TIn w.drew O t a:=h.keep (w:=w) (w':=w.drew) (fun k _ _=>rfl) (fun _ h _=>h)
end
theorem TT.len_eq {n:Nat}(t:TT (n+1)):t.len=t.2.2.length:=rfl
theorem QlR {α:Type}{P:Nat->α->Prop}(m:Nat) (h:∀ i,i<m->∃ x,P i x):∃ l:List α,l.length=m/\∀ i x,l[i]?=some x->P i x:=by
 induction m with
 | zero=>exact⟨[],Z,fun i x b=>by simp at b⟩
 | succ m ih =>
   obtain⟨l,c,e⟩:=ih (fun i d=>h i (by omega))
   obtain⟨x,b⟩:=h m (by omega)
   refine⟨l++[x],by simp[c],fun i y a=>?_⟩
   rw[List.getElem?_append] at a
   split at a
   ·exact e i y a
   ·rename_i d
    have:i=m:=by
     have:=(Zi a).1
     simp at this
     omega
    subst this;simp[c] at a
    subst a;exact b
theorem Qme {H:Type}{enc:TypeId × Value->H}{w:World}{f:Nat}{j:Nat->Bool}{C:Bool}{F ts ti:TypeId}{E z A:Field}
 (hs:P.underlying ts=some (.slice F)) (ht:P.underlying F=some (.struct #[E,z,A])) (hc:P.cellsOf F=3)
 (h0:E.offset=0/\P.cellsOf E.type=1/\P.underlying E.type=some (.int .i64)) (S:z.offset=1/\P.cellsOf z.type=1/\P.underlying z.type=some (.int .i64))
 (Q:A.offset=2/\P.cellsOf A.type=1/\A.type=ts):∀ (n fuel:Nat),fuel<=n->∀ {cs:List Value} {x:DataW H × List MemPlace},
 DataW.trod enc P w f j C fuel F cs=some x->∃ (T:TT n) (a:Option Addr) (c:Nat),cs=[Iv T.kind,Iv T.r,.slice a T.len c]/\TIn w All T a/\T.ok:=by
 intro n
 induction n with
 | zero =>
   intro fuel hf cs x h;obtain rfl:fuel=0:=by omega
   simp[DataW.trod] at h
 | succ n ih =>
   intro fuel hf cs x h;obtain⟨xs,m,rfl,_,y,O,p⟩:=DataW.trod_struct ht h
   have ad:xs.length=3:=O;have g0:=p 0 E Z;have g1:=p 1 z Z;have g2:=p 2 A Z;rw[h0.1,h0.2.1,Zg (by omega)] at g0
   rw[S.1,S.2.1,Zg (by omega)] at g1
   rw[Q.1,Q.2.1,Q.2.2,Zg (by omega)] at g2
   obtain⟨k,e0,_,_⟩:=DataW.trod_int h0.2.2 g0
   obtain⟨r,e1,_,aa⟩:=DataW.trod_int S.2.2 g1
   have ew:-9223372036854775808<=r/\r<=9223372036854775807:=by
    have:=Go.bounds_i64 aa
    omega
   rw[hc] at y
   obtain⟨N,V,U,rfl⟩:∃ N V U,cs=[N,V,U]:=by
    match cs,y with
    | [N,V,U],_=>exact⟨_,_,_,Z⟩
   simp at e0 e1
   subst e0 e1;rcases DataW.trod_slice hs g2 with ⟨u,_⟩|⟨a,len,L,X,ae,q,rfl,u,_,hb,hl,hm,af,ab,_,_⟩
   ·simp at u
    subst u;exact⟨mkT k r [],none,0,Z,LIn.nil,ew,fun x t=>by cases t⟩
   ·simp at u
    subst u
    obtain⟨l,J,W⟩:=QlR (P:=fun i (T:TT n)=>∃ g s,w.cells? f (a.add (i*3)) 3=some [Iv T.kind,Iv T.r,.slice g T.len s]/\TIn w All T g/\T.ok) len (fun i B=>by
     have R:=ab i B;rw[Zg (by omega),hc] at R
     rw[Option.bind_eq_some_iff] at R
     obtain⟨ag,e,M⟩:=R
     obtain⟨T,g,s,rfl,G,I⟩:=ih q (by omega) M
     exact⟨T,g,s,e,G,I⟩)
    refine⟨mkT k r l,some a,L,by simp[TT.kind,TT.r,TT.len,J],fun i x t=>?_,ew,fun x t=>?_⟩
    ·obtain⟨g,s,e,G,I⟩:=W i x t
     obtain⟨_,ac,d⟩:=World.cells?_some e
     have q0:=d 0 (by omega);have q1:=d 1 (by omega);have q2:=d 2 (by omega);obtain⟨b,K,v⟩:=a
     have o:v=none:=by
      have B:0<l.length:=Nat.lt_of_le_of_lt (Xb i) (Zi t).1;obtain⟨_,_,D,_,_⟩:=W 0 l[0] (Zg B)
      have:=(World.cells?_some D).2.2 0 (by omega)
      simpa[Addr.add] using World.cell?_spot this
     subst o;rw[Go.WideShapes.add_plain,Go.WideShapes.add_plain] at q0 q1 q2
     exact⟨b,K,g,s,Z,Y,q0,q1,q2,G⟩
    ·obtain⟨i,B,rfl⟩:=List.mem_iff_getElem.1 t
     obtain⟨g,s,e,G,I⟩:=W i l[i] (Zg B)
     exact I
end
section
open Go.Deep
structure Qt where
 op:Int
 a:Int
 b:Int
 c:Int
 k:Int
 n:Int
 regs:List Int
 args:List Int
structure MTo where
 block:Int
 regs:List Int
 args:List Int
structure ZA where
 op:Int
 a:Int
 yes:MTo
 no:MTo
 args:List Int
structure MBlock (n:Nat) where
 regs:Int
 params:List (TT n)
 code:List Qt
 fin:ZA
structure MFunc (n:Nat) where
 regs:Int
 params:List (TT n)
 results:List (TT n)
 blocks:List (MBlock n)
def Lay.via {α β:Type}(A:Lay α) (f:β->α):Lay β where
 size:=A.size
 In:=fun w O x cs=>A.In w O (f x) cs
 len:=fun h=>A.len h
 keep:=fun hb hl h=>A.keep hb hl h
def Lay.tt (n:Nat):Lay (TT n) where
 size:=3
 In:=fun w O t cs=>∃ a c,cs=[Iv t.kind,Iv t.r,.slice a t.len c]/\TIn w O t a/\t.ok
 len:=fun ⟨_,_,e,_⟩=>by rw[e];rfl
 keep:=fun hb hl ⟨a,c,e,h1,h2⟩=>⟨a,c,e,h1.keep hb hl,h2⟩
abbrev intsL:Lay (List Int):=Lay.int.list
abbrev Qp (n:Nat):Lay (List (TT n)):=(Lay.tt n).list
def insL:Lay Qt:=(Lay.int.pair (Lay.int.pair (Lay.int.pair (Lay.int.pair (Lay.int.pair (Lay.int.pair (intsL.pair intsL))))))).via (fun x=>(x.op,x.a,x.b,x.c,x.k,x.n,x.regs,x.args))
def toL:Lay MTo:=(Lay.int.pair (intsL.pair intsL)).via (fun x=>(x.block,x.regs,x.args))
def endL:Lay ZA:=(Lay.int.pair (Lay.int.pair (toL.pair (toL.pair intsL)))).via (fun x=>(x.op,x.a,x.yes,x.no,x.args))
def Zp (n:Nat):Lay (MBlock n):=(Lay.int.pair ((Qp n).pair (insL.list.pair endL))).via (fun x=>(x.regs,x.params,x.code,x.fin))
def ZR (n:Nat):Lay (MFunc n):=(Lay.int.pair ((Qp n).pair ((Qp n).pair (Zp n).list))).via (fun x=>(x.regs,x.params,x.results,x.blocks))
abbrev QaN (n:Nat):Lay (List (MFunc n)):=(ZR n).list
section
variable {w:World}{O:Nat->Prop}{n:Nat}{cs:List Value}
theorem QK {α:Type}{A:Lay α}{l:List α}(h:A.list.In w O l cs):∃ a c,cs=[.slice a l.length c]/\A.list.In w O l [.slice a l.length c]:=by
 obtain⟨a,c,e,h⟩:=h
 exact⟨a,c,e,a,c,Z,h⟩
theorem QfS {x:MTo}(h:toL.In w O x cs):∃ a c b d,cs=[Iv x.block,.slice a x.regs.length c,.slice b x.args.length d]/\intsL.In w O x.regs [.slice a x.regs.length c]/\intsL.In w O x.args [.slice b x.args.length d]/\(-9223372036854775808<=x.block/\x.block<=9223372036854775807):=by
 obtain⟨_,_,rfl,⟨rfl,g⟩,⟨_,_,rfl,e,f⟩⟩:=h
 obtain⟨a,c,rfl,e⟩:=QK e
 obtain⟨b,d,rfl,f⟩:=QK f
 exact⟨a,c,b,d,Z,e,f,g⟩
theorem Qm6 {x:MTo}{b:Option Addr}(e:intsL.In w O x.regs [.slice a x.regs.length c]) (g:intsL.In w O x.args [.slice b x.args.length d]) (f:-9223372036854775808<=x.block/\x.block<=9223372036854775807) :
 toL.In w O x [Iv x.block,.slice a x.regs.length c,.slice b x.args.length d]:=⟨_,_,Z,⟨Z,f⟩,⟨_,_,Z,e,g⟩⟩
theorem Qkc {x:Qt}(h:insL.In w O x cs):∃ a c b d,cs=[Iv x.op,Iv x.a,Iv x.b,Iv x.c,Iv x.k,Iv x.n,.slice a x.regs.length c,.slice b x.args.length d]/\intsL.In w O x.regs [.slice a x.regs.length c]/\intsL.In w O x.args [.slice b x.args.length d] /\
 ((-9223372036854775808<=x.op/\x.op<=9223372036854775807)/\(-9223372036854775808<=x.a/\x.a<=9223372036854775807)/\(-9223372036854775808<=x.b/\x.b<=9223372036854775807)/\(-9223372036854775808<=x.c/\x.c<=9223372036854775807)/\(-9223372036854775808<=x.k/\x.k<=9223372036854775807)/\(-9223372036854775808<=x.n/\x.n<=9223372036854775807)):=by
 obtain⟨_,_,rfl,⟨rfl,o⟩,⟨_,_,rfl,⟨rfl,m⟩,⟨_,_,rfl,⟨rfl,i⟩,⟨_,_,rfl,⟨rfl,j⟩,⟨_,_,rfl,⟨rfl,g⟩,⟨_,_,rfl,⟨rfl,l⟩,⟨_,_,rfl,f,e⟩⟩⟩⟩⟩⟩⟩:=h
 obtain⟨a,c,rfl,f⟩:=QK f
 obtain⟨b,d,rfl,e⟩:=QK e
 exact⟨a,c,b,d,Z,f,e,o,m,i,j,g,l⟩
theorem QmG {x:Qt}{b:Option Addr}(f:intsL.In w O x.regs [.slice a x.regs.length c]) (g:intsL.In w O x.args [.slice b x.args.length d])
 (e:(-9223372036854775808<=x.op/\x.op<=9223372036854775807)/\(-9223372036854775808<=x.a/\x.a<=9223372036854775807)/\(-9223372036854775808<=x.b/\x.b<=9223372036854775807)/\(-9223372036854775808<=x.c/\x.c<=9223372036854775807)/\(-9223372036854775808<=x.k/\x.k<=9223372036854775807)/\(-9223372036854775808<=x.n/\x.n<=9223372036854775807)) :
 insL.In w O x [Iv x.op,Iv x.a,Iv x.b,Iv x.c,Iv x.k,Iv x.n,.slice a x.regs.length c,.slice b x.args.length d] :=
 ⟨_,_,Z,⟨Z,e.1⟩,⟨_,_,Z,⟨Z,e.2.1⟩,⟨_,_,Z,⟨Z,e.2.2.1⟩,⟨_,_,Z,⟨Z,e.2.2.2.1⟩,⟨_,_,Z,⟨Z,e.2.2.2.2.1⟩,⟨_,_,Z,⟨Z,e.2.2.2.2.2⟩,⟨_,_,Z,f,g⟩⟩⟩⟩⟩⟩⟩
theorem QgI {x:ZA}(h:endL.In w O x cs):∃ c1 c2 a c,cs=Iv x.op::Iv x.a::(c1++(c2++[.slice a x.args.length c]))/\toL.In w O x.yes c1/\toL.In w O x.no c2/\intsL.In w O x.args [.slice a x.args.length c]/\((-9223372036854775808<=x.op/\x.op<=9223372036854775807)/\(-9223372036854775808<=x.a/\x.a<=9223372036854775807)):=by
 obtain⟨_,_,rfl,⟨rfl,g⟩,⟨_,_,rfl,⟨rfl,f⟩,⟨c1,_,rfl,d,⟨c2,_,rfl,e,b⟩⟩⟩⟩:=h
 obtain⟨a,c,rfl,b⟩:=QK b
 exact⟨c1,c2,a,c,Z,d,e,b,g,f⟩
theorem Qmu {x:ZA}{d b:List Value}(g:toL.In w O x.yes d) (h:toL.In w O x.no b) (f:intsL.In w O x.args [.slice a x.args.length c]) (e:(-9223372036854775808<=x.op/\x.op<=9223372036854775807)/\(-9223372036854775808<=x.a/\x.a<=9223372036854775807)) :
 endL.In w O x (Iv x.op::Iv x.a::(d++(b++[.slice a x.args.length c]))):=⟨[_],_,Z,⟨Z,e.1⟩,⟨[_],_,Z,⟨Z,e.2⟩,⟨d,_,Z,g,⟨b,_,Z,h,f⟩⟩⟩⟩
theorem Qcc {x:MBlock n}(h:(Zp n).In w O x cs):∃ a c b d es,cs=Iv x.regs::.slice a x.params.length c::.slice b x.code.length d::es/\(Qp n).In w O x.params [.slice a x.params.length c]/\insL.list.In w O x.code [.slice b x.code.length d]/\endL.In w O x.fin es/\(-9223372036854775808<=x.regs/\x.regs<=9223372036854775807):=by
 obtain⟨_,_,rfl,⟨rfl,g⟩,⟨_,_,rfl,e,⟨_,es,rfl,f,i⟩⟩⟩:=h
 obtain⟨a,c,rfl,e⟩:=QK e
 obtain⟨b,d,rfl,f⟩:=QK f
 exact⟨a,c,b,d,es,Z,e,f,i,g⟩
theorem QgA {x:MBlock n}{b:Option Addr}{e:List Value}(h:(Qp n).In w O x.params [.slice a x.params.length c]) (f:insL.list.In w O x.code [.slice b x.code.length d]) (g:endL.In w O x.fin e) (i:-9223372036854775808<=x.regs/\x.regs<=9223372036854775807) :
 (Zp n).In w O x (Iv x.regs::.slice a x.params.length c::.slice b x.code.length d::e):=⟨[_],_,Z,⟨Z,i⟩,⟨[_],_,Z,h,⟨[_],e,Z,f,g⟩⟩⟩
theorem Qas {x:MFunc n}(h:(ZR n).In w O x cs):∃ a c b d e f,cs=[Iv x.regs,.slice a x.params.length c,.slice b x.results.length d,.slice e x.blocks.length f]/\(Qp n).In w O x.params [.slice a x.params.length c]/\(Qp n).In w O x.results [.slice b x.results.length d]/\(Zp n).list.In w O x.blocks [.slice e x.blocks.length f]/\(-9223372036854775808<=x.regs/\x.regs<=9223372036854775807):=by
 obtain⟨_,_,rfl,⟨rfl,k⟩,⟨_,_,rfl,g,⟨_,_,rfl,j,i⟩⟩⟩:=h
 obtain⟨a,c,rfl,g⟩:=QK g
 obtain⟨b,d,rfl,j⟩:=QK j
 obtain⟨e,f,rfl,i⟩:=QK i
 exact⟨a,c,b,d,e,f,Z,g,j,i,k⟩
theorem QhV {x:MFunc n}{b e:Option Addr}(g:(Qp n).In w O x.params [.slice a x.params.length c]) (j:(Qp n).In w O x.results [.slice b x.results.length d]) (i:(Zp n).list.In w O x.blocks [.slice e x.blocks.length f]) (h:-9223372036854775808<=x.regs/\x.regs<=9223372036854775807) :
 (ZR n).In w O x [Iv x.regs,.slice a x.params.length c,.slice b x.results.length d,.slice e x.blocks.length f]:=⟨[_],_,Z,⟨Z,h⟩,⟨[_],_,Z,g,⟨[_],_,Z,j,i⟩⟩⟩
theorem ZI (h:intsL.In w O l [.slice a m c])(hi:i<l.length):∃ g o,a=some ⟨g,o,none⟩/\O g/\g<w.heap.size/\w.cell? ⟨g,o+i,none⟩=some (Iv (l.getD i 0)):=by
 obtain⟨g,o,k,e,j,b,d,rfl,_⟩:=Yf h (Zg hi)
 refine⟨g,o,e,j,b,?_⟩
 have:=d 0 (by decide)
 have f:Lay.int.size=1:=rfl;rw[f,XL,Nat.add_zero] at this
 rw[this]
 simp[List.getD,hi]
theorem QX {l:List (TT n)}(h:(Qp n).In w O l [.slice a m c]):LIn w O l a/\∀ x∈l,x.ok:=by
 refine⟨fun i x d=>?_,fun x d=>?_⟩
 ·obtain⟨g,o,r,e,j,s,b,k,p,rfl,f,_⟩:=Yf h d
  have u:(Lay.tt n).size=3:=rfl;rw[u] at b
  exact⟨g,o,k,p,e,j,b 0 (by omega),b 1 (by omega),b 2 (by omega),f⟩
 ·obtain⟨i,q,rfl⟩:=List.mem_iff_getElem.1 d
  obtain⟨g,o,r,e,j,s,b,k,p,rfl,f,t⟩:=Yf h (Zg q)
  exact t
theorem QeO {l:List (TT n)}(h:LIn w O l a) (d:∀ x∈l,x.ok):(Qp n).In w O l [.slice a l.length c]:=by
 refine⟨a,c,Z,fun i x f=>?_⟩
 obtain⟨g,o,m,p,e,v,k,s,q,t⟩:=LIn.at h f
 refine⟨g,o,[Iv x.kind,Iv x.r,.slice m x.len p],e,v,Xi w ⟨g,o+i*3,none⟩ k,fun j y=>?_,m,p,Z,t,d x (Zm f)⟩
 have b:j<3:=y;have u:(Lay.tt n).size=3:=rfl;rw[u]
 match j,b with
 | 0,_=>exact k
 | 1,_=>exact s
 | 2,_=>exact q
end
end
def Q5 (op:Int):Option (Bool × Bool × Bool × Bool × Bool × Bool × Bool) :=
 if op=1 then some (false,false,false,false,true,false,false)
 else if op=2\/op=7 then some (true,true,false,true,false,false,false)
 else if op=3\/op=12 then some (false,false,false,false,false,false,false)
 else if op=4\/op=11\/op=13 then some (true,false,false,false,false,false,false)
 else if op=5 then some (true,false,false,false,false,false,true)
 else if op=6 then some (true,false,false,true,false,false,false)
 else if op=8\/op=9 then some (true,true,false,false,false,false,false)
 else if op=10 then some (true,true,true,false,false,false,false)
 else if op=14 then some (false,false,false,true,false,true,true)
 else none
def Qt.formless (x:Qt):Bool:=match Q5 x.op with
 | none=>false
 | some (a,b,c,k,n,rg,ar)=>(!a&&x.a != 0)||(!b&&x.b != 0)||(!c&&x.c != 0)||(!k&&x.k != 0)||(!n&&x.n != 0)||(!rg&&decide (0<x.regs.length))||(!ar&&decide (0<x.args.length))
def Qt.form (funcs:Nat) (x:Qt):Int :=
 if (Q5 x.op).isNone then 3
 else if x.formless then 4
 else if x.op=2/\(x.k<1\/9<x.k) then 1
 else if x.op=5/\8<x.args.length then 2
 else if (x.op=6\/x.op=7)/\(x.k<0\/7<x.k) then 1
 else if x.op=14/\(x.k<0\/(funcs:Int)<=x.k) then 1
 else if x.op=14/\(6<x.regs.length\/8<x.args.length) then 2
 else 0
def MTo.form (blocks:Nat) (has:Bool) (t:MTo):Int :=
 if has=false then (if t.block≠0\/0<t.regs.length+t.args.length then 4 else 0)
 else if t.block<0\/(blocks:Int)<=t.block then 1
 else if 16<t.regs.length\/8<t.args.length then 2
 else 0
def ZA.form (blocks:Nat) (e:ZA):Int :=
 if e.op<1\/3<e.op then 3
 else if (e.a≠0/\e.op≠2)\/(0<e.args.length/\e.op≠3) then 4
 else if 8<e.args.length then 2
 else if e.yes.form blocks (decide (e.op≠3))≠0 then e.yes.form blocks (decide (e.op≠3))
 else e.no.form blocks (decide (e.op=2))
def listC {n:Nat}(regs:Int) (l:List (TT n)):Int:=if 8<l.length then 2 else Qu (TT.check regs) l
def firstF {α:Type}(f:Nat->α->Int × Int):Nat->List α->Int × Int
 | _,[]=>(0,0)
 | i,x::xs=>if (f i x).1≠0 then f i x else firstF f (i+1) xs
def TT.dec:(n:Nat)->DecidableEq (TT n)
 | 0=>fun t _=>Empty.elim t
 | n+1=>fun t u=>match (TT.dec n) with
   | d=>if h1:t.1=u.1 then if h2:t.2.1=u.2.1 then match (@List.hasDecEq _ d t.2.2 u.2.2) with
    | isTrue h3=>isTrue (by obtain⟨a,b,c⟩:=t;obtain⟨a',b',c'⟩:=u;simp only at h1 h2 h3;subst h1 h2 h3;rfl)
    | isFalse h3=>isFalse (fun e=>h3 (by rw[e]))
    else isFalse (fun e=>h2 (by rw[e])) else isFalse (fun e=>h1 (by rw[e]))
def QcH {n:Nat}(l m:List (TT n)):Bool:=match @List.hasDecEq _ (TT.dec n) l m with
 | isTrue _=>true
 | isFalse _=>false
theorem QcX {l m:List (TT n)}:QcH l m=true↔l=m:=by
 unfold QcH;split
 ·rename_i h _;simp[h]
 ·rename_i h _;simp[h]
def MBlock.fault {n:Nat}(funcs:Nat) (f:Nat) (fn:MFunc n) (b:Nat) (x:MBlock n):Int × Int :=
 if x.regs<fn.regs\/16<x.regs then (1,10000*f+100*b+90)
 else if listC x.regs x.params≠0 then (listC x.regs x.params,10000*f+100*b+90)
 else if b=0/\(x.regs≠fn.regs\/QcH x.params fn.params=false) then (9,10000*f+100*b+90)
 else if 40<x.code.length then (2,10000*f+100*b+90)
 else if (firstF (fun i y=>(Qt.form funcs y,(10000*f+100*b+i:Int))) 0 x.code).1≠0 then firstF (fun i y=>(Qt.form funcs y,(10000*f+100*b+i:Int))) 0 x.code
 else if x.fin.form fn.blocks.length≠0 then (x.fin.form fn.blocks.length,10000*f+100*b+91)
 else (0,0)
def MFunc.fault {n:Nat}(funcs:Nat) (f:Nat) (x:MFunc n):Int × Int :=
 if x.regs<0\/6<x.regs then (1,10000*f+9999)
 else if listC x.regs x.params≠0 then (listC x.regs x.params,10000*f+9999)
 else if listC x.regs x.results≠0 then (listC x.regs x.results,10000*f+9999)
 else if x.blocks.length<1\/12<x.blocks.length then (2,10000*f+9999)
 else if f=0/\¬ (x.regs=0/\x.params.length=0/\x.results.all (fun t=>t.kind==1)=true) then (18,10000*f+9999)
 else firstF (fun b y=>MBlock.fault funcs f x b y) 0 x.blocks
def modFault {n:Nat}(m:List (MFunc n)):Int × Int :=
 if m.length<1\/8<m.length then (2,-1) else firstF (fun f x=>MFunc.fault m.length f x) 0 m
def Zy {n:Nat}(l:List (TT n)):Prop:=200<l.length\/∃ t∈l,2000<t.count
def MBlock.great {n:Nat}(x:MBlock n):Prop:=200<x.code.length\/Zy x.params\/300<x.fin.args.length\/300<x.fin.yes.regs.length\/300<x.fin.yes.args.length\/300<x.fin.no.regs.length\/300<x.fin.no.args.length\/∃ y∈x.code,300<y.regs.length\/300<y.args.length
def MFunc.great {n:Nat}(x:MFunc n):Prop:=30<x.blocks.length\/Zy x.params\/Zy x.results\/∃ y∈x.blocks,y.great
def Qm {n:Nat}(m:List (MFunc n)):Prop:=20<m.length\/∃ x∈m,x.great
theorem Qaw {α:Type}{f:Nat->α->Int × Int}:∀ {l:List α}{i j:Nat}{x:α},l[i]?=some x->(∀ k y,k<i->l[k]?=some y->(f (j+k) y).1=0)->(f (j+i) x).1≠0->firstF f j l=f (j+i) x
 | [],i,j,x,h,_,_=>by simp at h
 | y::ys,0,j,x,h,_,hf=>by
   simp at h;subst h
   simp only[firstF]
   rw[Xs (by simpa using hf)]
   rfl
 | y::ys,i+1,j,x,h,hz,hf=>by
   have b:(f j y).1=0:=by simpa using hz 0 y (by omega) Z
   simp only[firstF,b,ne_eq,not_true_eq_false,if_false]
   have:=Qaw (f:=f) (l:=ys) (i:=i) (j:=j+1) (x:=x) (by simpa using h) (fun k z c a=>by have:=hz (k+1) z (by omega) (by simpa using a);rwa [show j+1+k=j+(k+1) by omega]) (by rwa [show j+1+i=j+(i+1) by omega])
   rw[this,show j+1+i=j+(i+1) by omega]
theorem QY {α:Type}{f:Nat->α->Int × Int}:∀ {l:List α}{j:Nat},(∀ (k:Nat) y,l[k]?=some y->(f (j+k) y).1=0)->firstF f j l=(0,0)
 | [],_,_=>rfl
 | y::ys,j,h=>by
   have b:(f j y).1=0:=by simpa using h 0 y Z
   simp only[firstF,b,ne_eq,not_true_eq_false,if_false]
   exact QY (fun k z a=>by have:=h (k+1) z (by simpa using a);rwa [show j+1+k=j+(k+1) by omega])
theorem Xq:type_of% @Decidable.not_not:=@Decidable.not_not
def Qmo {n:Nat}(l:List (TT n)):Prop:=l.length<=8/\∀ t∈l,∃ regs:Int,regs<=16/\t.check regs=0
structure MBlock.fine {n:Nat}(x:MBlock n) (funcs:Nat):Prop where
 regs:0<=x.regs/\x.regs<=16
 params:Qmo x.params
 code:∀ y∈x.code,y.form funcs=0
 fin:∃ nb,nb<=12/\x.fin.form nb=0
structure MFunc.fine {n:Nat}(x:MFunc n) (funcs:Nat):Prop where
 regs:0<=x.regs/\x.regs<=6
 params:Qmo x.params
 results:Qmo x.results
 blocks:∀ y∈x.blocks,y.fine funcs
theorem QR {α:Type}{f:Nat->α->Int × Int}:∀ {l:List α}{j:Nat},(firstF f j l).1=0->∀ (i:Nat) x,l[i]?=some x->(f (j+i) x).1=0
 | [],j,h,i,x,hx=>by simp at hx
 | y::l,j,h,i,x,hx=>by
   rw[firstF] at h
   by_cases a:(f j y).1=0
   ·rw[Xr (by simpa using a)] at h
    cases i with
    | zero=>simp at hx;subst hx;exact a
    | succ i =>
      have:=QR h i x (by simpa using hx)
      rwa [show j+1+i=j+(i+1) by omega] at this
   ·rw[Xs a] at h
    exact absurd h a
theorem Qlq {regs:Int}{l:List (TT n)}(b:regs<=16) (h:listC regs l=0):Qmo l:=by
 unfold listC at h;split at h
 ·cases h
 ·exact⟨by omega,fun t a=>⟨regs,b,QF.1 h t a⟩⟩
theorem Qk4 {fn:MFunc n}{x:MBlock n}(l:0<=fn.regs) (g:fn.blocks.length<=12) (h:(MBlock.fault funcs f fn b x).1=0):x.fine funcs:=by
 unfold MBlock.fault at h;split at h
 ·cases h
 rename_i k
 split at h
 ·rename_i a;exact absurd h a
 rename_i a
 split at h
 ·cases h
 split at h
 ·cases h
 split at h
 ·rename_i c;exact absurd h c
 rename_i c
 split at h
 ·rename_i d;exact absurd h d
 rename_i d
 refine⟨by omega,Qlq (by omega) (Xq.1 a),fun y j=>?_,_,g,Xq.1 d⟩
 obtain⟨i,e⟩:=List.getElem?_of_mem j
 exact QR (Xq.1 c) i y e
theorem QlN {x:MFunc n}(h:(MFunc.fault funcs f x).1=0):x.fine funcs:=by
 unfold MFunc.fault at h;split at h
 ·cases h
 rename_i g
 split at h
 ·rename_i a;exact absurd h a
 rename_i a
 split at h
 ·rename_i b;exact absurd h b
 rename_i b
 split at h
 ·cases h
 rename_i e
 split at h
 ·cases h
 refine⟨by omega,Qlq (by omega) (Xq.1 a),Qlq (by omega) (Xq.1 b),fun y d=>?_⟩
 obtain⟨i,c⟩:=List.getElem?_of_mem d
 exact Qk4 (by omega) (by omega) (QR h i y c)
theorem Qmr {m:List (MFunc n)}(h:(modFault m).1=0):∀ x∈m,x.fine m.length:=by
 unfold modFault at h;split at h
 ·cases h
 intro x b;obtain⟨i,a⟩:=List.getElem?_of_mem b
 exact QlN (QR h i x a)
theorem Qh7 {x:Qt}(h:x.form funcs=0):(Q5 x.op).isNone=false/\x.formless=false/\(x.op=2->1<=x.k/\x.k<=9)/\(x.args.length<=8\/x.op≠5/\x.op≠14)/\(x.op=14->x.regs.length<=6):=by
 unfold Qt.form at h;split at h
 ·cases h
 split at h
 ·cases h
 split at h
 ·cases h
 split at h
 ·cases h
 split at h
 ·cases h
 split at h
 ·cases h
 split at h
 ·cases h
 rename_i b a e c f g d
 refine⟨Bool.eq_false_iff.2 b,Bool.eq_false_iff.2 a,by omega,by omega,by omega⟩
theorem QjY {b:Nat}{e:ZA}(j:b<=12) (h:e.form b=0):(e.op=1\/e.op=2\/e.op=3)/\(e.op≠2->e.a=0)/\(e.op≠3->e.args=[])/\e.args.length<=8/\e.yes.form b (decide (e.op≠3))=0/\e.no.form b (decide (e.op=2))=0:=by
 unfold ZA.form at h;split at h
 ·cases h
 split at h
 ·cases h
 split at h
 ·cases h
 split at h
 ·rename_i c;exact absurd h c
 rename_i c f i d
 refine⟨by omega,by omega,fun g=>Xf.1 (by omega),by omega,Xq.1 d,h⟩
theorem Qc0 {t:TT n}{regs:Int}(h:t.check regs=0):t.height<=4/\t.fault regs=0:=by
 unfold TT.check at h;split at h
 ·cases h
 ·exact⟨by omega,h⟩
theorem Qkt {op:Int}(h:(Q5 op).isNone=false):op=1\/op=2\/op=3\/op=4\/op=5\/op=6\/op=7\/op=8\/op=9\/op=10\/op=11\/op=12\/op=13\/op=14:=by
 unfold Q5 at h;repeat' split at h
 all_goals first | omega | cases h
theorem Xo:type_of% @Nat.le_of_not_lt:=@Nat.le_of_not_lt
def MTo.small (x:MTo):Prop:=x.regs.length<=100000/\x.args.length<=100000
def Qt.small (x:Qt):Prop:=x.regs.length<=100000/\x.args.length<=100000
def ZA.small (x:ZA):Prop:=x.yes.small/\x.no.small/\x.args.length<=100000
def Qc4 {n:Nat}(l:List (TT n)):Prop:=l.length<=100000/\∀ t∈l,t.count<=100000
def MBlock.small {n:Nat}(x:MBlock n):Prop:=x.code.length<=100000/\Qc4 x.params/\x.fin.small/\∀ y∈x.code,y.small
def MFunc.small {n:Nat}(x:MFunc n):Prop:=x.blocks.length<=100000/\Qc4 x.params/\Qc4 x.results/\∀ y∈x.blocks,y.small
def Qbf {n:Nat}(m:List (MFunc n)):Prop:=m.length<=100000/\∀ x∈m,x.small
theorem Qdc {l:List (TT n)}(h:¬ Zy l):Qc4 l:=⟨Zt (Xo fun x=>h (.inl x)) (by decide),fun t a=>Zt (Xo fun x=>h (.inr ⟨t,a,x⟩)) (by decide)⟩
theorem MBlock.small_of {x:MBlock n}(h:¬ x.great):x.small:=by
 unfold MBlock.great at h;simp only[not_or,not_exists,not_and,Nat.not_lt] at h
 obtain⟨i,e,f,c,g,j,d,a⟩:=h
 exact⟨Zt i (by decide),Qdc e,⟨⟨Zt c (by decide),Zt g (by decide)⟩,⟨Zt j (by decide),Zt d (by decide)⟩,Zt f (by decide)⟩,fun y b=>⟨Zt (a y b).1 (by decide),Zt (a y b).2 (by decide)⟩⟩
theorem MFunc.small_of {x:MFunc n}(h:¬ x.great):x.small:=by
 unfold MFunc.great at h;simp only[not_or,not_exists,not_and,Nat.not_lt] at h
 obtain⟨d,b,c,a⟩:=h
 exact⟨Zt d (by decide),Qdc b,Qdc c,fun y e=>MBlock.small_of (a y e)⟩
theorem ZD {m:List (MFunc n)}(h:¬ Qm m):Qbf m:=by
 unfold Qm at h;simp only[not_or,not_exists,not_and,Nat.not_lt] at h
 exact⟨Zt h.1 (by decide),fun x a=>MFunc.small_of (h.2 x a)⟩
theorem XN:type_of% @List.length_map:=@List.length_map
def TT.at:{n:Nat}->(k:Nat)->TT n->TT (k+1)
 | 0,_,t=>Empty.elim t
 | n+1,0,t=>(t.1,t.2.1,[])
 | n+1,k+1,t=>(t.1,t.2.1,t.2.2.map (TT.at (n:=n) k))
theorem TT.at_kind:{n:Nat}->(k:Nat)->(t:TT n)->(t.at k).kind=t.kind
 | 0,_,t=>Empty.elim t
 | n+1,0,t=>rfl
 | n+1,k+1,t=>rfl
theorem TT.at_r:{n:Nat}->(k:Nat)->(t:TT n)->(t.at k).r=t.r
 | 0,_,t=>Empty.elim t
 | n+1,0,t=>rfl
 | n+1,k+1,t=>rfl
theorem TT.at_len:{n:Nat}->(k:Nat)->(t:TT n)->t.height<=k->(t.at k).len=t.len
 | 0,_,t,_=>Empty.elim t
 | n+1,0,t,h=>by
   have:=(Q8 (t:=t)).1 h
   show 0=t.2.2.length
   cases hx:t.2.2 with
   | nil=>rfl
   | cons x l=>have:=this x (by rw[hx];simp);omega
 | n+1,k+1,t,h=>by
   show (t.2.2.map _).length=_;rw[XN];rfl
theorem TIn.at {w:World}{O:Nat->Prop}:{n:Nat}->(k:Nat)->{t:TT n}->{a:Option Addr}->t.height<=k->TIn w O t a->TIn w O (t.at k) a
 | 0,_,t,_,_,_=>Empty.elim t
 | n+1,0,t,a,h,hi=>fun i x c=>by simp[TT.at] at c
 | n+1,k+1,t,a,h,hi=>fun i x c=>by
   have b:(t.2.2.map (TT.at k))[i]?=some x:=c;rw[XS,Option.map_eq_some_iff] at b
   obtain⟨y,f,rfl⟩:=b
   have d:y.height<=k:=by have:=(Q8 (t:=t)).1 h y (Zm f);omega
   obtain⟨g,o,r,s,e,l,q,m,p,j⟩:=hi i y f
   refine⟨g,o,r,s,e,l,?_,?_,?_,TIn.at k d j⟩
   ·rw[TT.at_kind];exact q
   ·rw[TT.at_r];exact m
   ·rw[TT.at_len k y d];exact p
theorem TT.at_ok:{n:Nat}->(k:Nat)->{t:TT n}->t.ok->(t.at k).ok
 | 0,_,t,_=>Empty.elim t
 | n+1,0,t,h=>⟨h.1,fun x a=>by cases a⟩
 | n+1,k+1,t,h=>⟨h.1,fun x a=>by
   obtain⟨y,b,rfl⟩:=List.mem_map.1 a
   exact TT.at_ok k (h.2 y b)⟩
def MBlock.at {n:Nat}(k:Nat) (x:MBlock n):MBlock (k+1):=⟨x.regs,x.params.map (TT.at k),x.code,x.fin⟩
def MFunc.at {n:Nat}(k:Nat) (x:MFunc n):MFunc (k+1):=⟨x.regs,x.params.map (TT.at k),x.results.map (TT.at k),x.blocks.map (MBlock.at k)⟩
def Qfj {n:Nat}(k:Nat) (l:List (TT n)):Prop:=∀ t∈l,t.height<=k
def MBlock.flat {n:Nat}(k:Nat) (x:MBlock n):Prop:=Qfj k x.params
def MFunc.flat {n:Nat}(k:Nat) (x:MFunc n):Prop:=Qfj k x.params/\Qfj k x.results/\∀ y∈x.blocks,y.flat k
theorem Lay.list_map {α β:Type}{A:Lay α}{B:Lay β}{f:α->β}{w:World}{O:Nat->Prop}{l:List α}{cs:List Value}(q:A.size=B.size) (p:∀ x∈l,∀ ds,A.In w O x ds->B.In w O (f x) ds) (h:A.list.In w O l cs):B.list.In w O (l.map f) cs:=by
 obtain⟨a,c,e,h⟩:=h
 refine⟨a,c,by rw[e,XN],fun i x b=>?_⟩
 rw[XS,Option.map_eq_some_iff] at b
 obtain⟨y,d,rfl⟩:=b
 obtain⟨g,o,ds,r,k,m,j,n⟩:=h i y d
 exact⟨g,o,ds,r,k,m,by rw[<-q];exact j,p y (Zm d) ds n⟩
section
variable {w:World}{O:Nat->Prop}{n:Nat}{cs:List Value}
theorem QdY {l:List (TT n)}(d:Qfj k l) (h:(Qp n).In w O l cs):(Qp (k+1)).In w O (l.map (TT.at k)) cs :=
 Lay.list_map (A:=Lay.tt n) (B:=Lay.tt (k+1)) Z (fun x b i ⟨a,c,e,g,f⟩=>⟨a,c,by rw[e,TT.at_kind,TT.at_r,TT.at_len k x (d x b)],g.at k (d x b),TT.at_ok k f⟩) h
theorem Ql6 {m:List (MFunc n)}(h:(modFault m).1=0):∀ x∈m,x.flat 5:=by
 have a:∀ {l:List (TT n)},Qmo l->Qfj 5 l:=fun h t e=>by
  obtain⟨r,_,d⟩:=h.2 t e
  have:=(Qc0 d).1
  omega
 intro x c;have b:=Qmr h x c;exact⟨a b.params,a b.results,fun y f=>a (b.blocks y f).params⟩
end
theorem Xc:type_of% @Int.eq_ofNat_of_zero_le:=@Int.eq_ofNat_of_zero_le
theorem Xe:type_of% @List.all_eq_true:=@List.all_eq_true
theorem XV:type_of% @List.take_add_one:=@List.take_add_one
def hHas (L:List Bool) (r:Int):Bool:=decide (0<=r)&&L.getD r.toNat false
def hTo (L:List Bool):Nat->List Int
 | 0=>[]
 | k+1=>hTo L k++(if L.getD k false then [(k:Int)] else [])
def Qal (L:List Bool):List Int:=hTo L L.length
def inB (l:List Int) (x:Int):Bool:=l.contains x
def hPass (L:List Bool):List Int->List Int->Int
 | ahead,[]=>if (Qal L).all (fun r=>inB ahead r) then 0 else 12
 | ahead,r::rest=>if hHas L r then (if inB ahead r then 13 else hPass L (ahead++[r]) rest) else 10
theorem Qao (L:List Bool)(h:L.length<=k):L.getD k false=false:=by
 simp[List.getD,List.getElem?_eq_none h]
theorem Qmq (L:List Bool):∀ k,L.length<=k->hTo L k=Qal L:=by
 intro k
 induction k with
 | zero=>intro h;rw[Qal,Nat.le_zero.1 h]
 | succ k ih =>
   intro h;rcases Nat.lt_or_ge k L.length with a | a
   ·rw[Qal,show L.length=k+1 by omega]
   ·rw[hTo,Qao L a,ih a];simp
theorem QhW (L:List Bool):∀ k,(hTo L k).length<=k:=by
 intro k
 induction k with
 | zero=>simp[hTo]
 | succ k ih =>
   rw[hTo]
   split<;>simp<;>omega
theorem Qjv (L:List Bool):(Qal L).length<=L.length:=QhW L _
theorem QlS (L:List Bool) (r:Int):∀ k,r∈hTo L k↔0<=r/\r<k/\L.getD r.toNat false=true:=by
 intro k
 induction k with
 | zero=>simp[hTo];omega
 | succ k ih =>
   rw[hTo,List.mem_append,ih]
   constructor
   ·rintro (⟨b,c,a⟩ | h)
    ·exact⟨b,by omega,a⟩
    ·split at h
     ·rename_i f
      simp at h
      subst h;exact⟨by omega,by omega,by simpa using f⟩
     ·simp at h
   ·rintro ⟨b,c,a⟩;rcases Nat.lt_or_ge r.toNat k with d | d
    ·exact .inl ⟨b,by omega,a⟩
    ·have e:r=(k:Int):=by omega
     subst e;right
     simp only[Int.toNat_natCast] at a
     rw[a];simp
theorem QcP (L:List Bool) (r:Int):r∈Qal L↔hHas L r=true:=by
 rw[Qal,QlS,hHas]
 constructor
 ·rintro ⟨b,_,c⟩;rw[c];simp[b]
 ·intro h;simp only[Bool.and_eq_true,decide_eq_true_eq] at h
  refine⟨h.1,?_,h.2⟩
  rcases Nat.lt_or_ge r.toNat L.length with a | a
  ·omega
  ·rw[Qao L a] at h;simp at h
theorem QcR (L:List Bool) (k:Nat):hHas L (k:Int)=L.getD k false:=by simp[hHas]
theorem QaT {r:Int}(h:hHas L r=true):∃ k:Nat,r=(k:Int)/\k<L.length/\L.getD k false=true:=by
 simp only[hHas,Bool.and_eq_true,decide_eq_true_eq] at h
 obtain⟨k,rfl⟩:=Xc h.1
 have b:L.getD k false=true:=by simpa using h.2
 refine⟨k,Z,?_,b⟩
 rcases Nat.lt_or_ge k L.length with a | a
 ·exact a
 ·rw[Qao L a] at b;cases b
theorem inB_iff :inB l x=true↔x∈l:=by simp[inB]
theorem QkK (l:List Int) (x y:Int):inB (l++[x]) y=(inB l y||decide (x=y)):=by
 rw[Bool.eq_iff_iff,inB_iff,Bool.or_eq_true,inB_iff,decide_eq_true_eq,List.mem_append,List.mem_singleton]
 exact⟨fun h=>h.imp id Eq.symm,fun h=>h.imp id Eq.symm⟩
theorem Qhf (L:List Bool) (l:List Int)(a:l[k]?=some x) :
 hPass L (l.take k) (l.drop k)=if hHas L x then (if inB (l.take k) x then 13 else hPass L (l.take (k+1)) (l.drop (k+1))) else 10:=by
 obtain⟨b,e⟩:=Zi a
 rw[List.drop_eq_getElem_cons b,e,hPass,XV,a]
 rfl
theorem QiP (L:List Bool) (l:List Int)(a:l.length<=k):hPass L (l.take k) (l.drop k)=if (Qal L).all (fun r=>inB l r) then 0 else 12:=by
 rw[List.drop_of_length_le a,XO a,hPass]
def Zz (L:List Bool) (l:List Int) (i:Nat):Bool:=L.getD i false&&!inB l (i:Int)
theorem Qh2 (L:List Bool) (i:Nat):Zz L [] i=L.getD i false:=by simp[Zz,inB]
theorem Qhm (L:List Bool) (l:List Int) (k i:Nat):Zz L (l++[(k:Int)]) i=if i=k then false else Zz L l i:=by
 unfold Zz;rw[QkK]
 by_cases h:i=k
 ·subst h;simp
 ·rw[Xr h]
  have:decide ((k:Int)=(i:Int))=false:=by simp;omega
  rw[this];simp
theorem Qhz (h:L.length<=16):((List.range 16).map (Zz L l)=List.replicate 16 false)↔(Qal L).all (fun r=>inB l r)=true:=by
 rw[Xe]
 constructor
 ·intro e r d;obtain⟨k,rfl,g,c⟩:=QaT ((QcP L r).1 d)
  have a:k<16:=by omega
  have:((List.range 16).map (Zz L l))[k]?=some false:=by rw[e,List.getElem?_replicate,Xs a]
  rw[XS,List.getElem?_range a] at this
  simp only[Option.map_some,Option.some.injEq] at this
  unfold Zz at this;rw[c] at this
  simpa using this
 ·intro e;rw[List.eq_replicate_iff]
  refine⟨by simp,fun b f=>?_⟩
  obtain⟨k,g,rfl⟩:=List.mem_map.1 f
  unfold Zz
  cases c:L.getD k false with
  | false=>rfl
  | true =>
    have:=e (k:Int) ((QcP L _).2 (by rw[QcR];exact c))
    rw[this];rfl
def QbN (L:List Bool):Int:=if L.length<16 then (L.length:Int) else -1
def QcJ (L:List Bool):List Bool:=if L.length<16 then L++[true] else L
def QfC (L:List Bool) (r:Int):List Bool:=if hHas L r then L.set r.toNat false else L
def QbW (n:Int):List Bool:=List.replicate (min n 16).toNat true
theorem QeQ (a:k<16):QcJ (List.replicate k true)=List.replicate (k+1) true:=by
 simp[QcJ,a,List.replicate_succ']
theorem QbK (y:P.underlying t=some (.array n e)) (z:P.underlying e=some .bool) (v:(P.info? e).map (·.size)=some 1) (w:World)
 (C:∀ a b,(Op.equalIn d e (.bool a) (.bool b)).run P w=.ok (a==b) w) (xs c:List Bool) (E:xs.length=n) (D:c.length=n) :
 (Op.equalIn (d+1) t (.agg (xs.map Value.bool).toArray) (.agg (c.map Value.bool).toArray)).run P w=.ok (xs==c) w:=by
 have r:(sizeOf e).run P w=.ok 1 w:=by
  cases hq:P.info? e with
  | none=>simp[hq] at v
  | some i=>simp[hq] at v;simp[sizeOf,typeInfo,hq,v]
 have f:∀ (p:List Bool) (i:Nat) (h:i<p.length),(part e (p.map Value.bool).toArray (i*1)).run P w=.ok (.bool p[i]) w:=by
  intro p i h;simp[part,isAgg,run_underlying z,h]
 simp only[Op.equalIn,Sem.run_bind,run_underlying y,Result.andThen_ok,r]
 rw[Std.Legacy.Range.forIn_eq_forIn_range',show Std.Legacy.Range.size [0:n]=n by simp[Std.Legacy.Range.size]]
 have u:∀ (m k:Nat),k+m=n->(xs.take k==c.take k)=true ->
  ((forIn (List.range' k m) ((none,()):Option Bool × Unit) fun i A=>do
    let __do_lift <-part e (xs.map Value.bool).toArray (i*1)
    let __do_lift_1 <-part e (c.map Value.bool).toArray (i*1)
    let __do_lift_2 <-Op.equalIn d e __do_lift __do_lift_1
    if (!__do_lift_2)=true then pure (ForInStep.done (some false,()))
    else pure (ForInStep.yield (none,())):Sem (Option Bool × Unit)).run P w)=.ok (if xs==c then none else some false,()) w:=by
  intro m
  induction m with
  | zero =>
    intro k B q
    have:(xs==c)=true:=by
     rw[XO (by omega),XO (by omega)] at q
     exact q
    simp[this]
  | succ m ih =>
    intro k B q;have l:k<xs.length:=by omega
    have j:k<c.length:=by omega
    simp only[List.range'_succ,List.forIn_cons,Sem.run_bind,f xs k l,f c k j,Result.andThen_ok,C]
    by_cases o:xs[k]=c[k]
    ·have x:(xs.take (k+1)==c.take (k+1))=true:=by
      rw[XV,XV,Zg l,Zg j,o,beq_iff_eq.1 q]
      simp
     have g:(xs[k]==c[k])=true:=by simpa using o
     simp only[g,Bool.not_true,Bool.false_eq_true,if_false,Sem.run_pure,Result.andThen_ok]
     exact ih (k+1) (by omega) x
    ·have g:(xs[k]==c[k])=false:=by simpa using o
     have s:(xs==c)=false:=by
      rw[beq_eq_false_iff_ne]
      intro e;subst e;exact o Z
     simp[g,s]
 have:=u n 0 (by omega) (by simp)
 rw[this]
 cases h:xs==c<;>simp
theorem Qcb (h:P.underlying t=some (.array n e)) (f:P.underlying e=some .bool) (i:(P.info? e).map (·.size)=some 1) (w:World)
 (xs c:List Bool) (g:xs.length=n) (j:c.length=n) :
 (Op.equalIn (d+2) t (.agg (xs.map Value.bool).toArray) (.agg (c.map Value.bool).toArray)).run P w=.ok (xs==c) w :=
 QbK h f i w (fun a b=>by simp[Op.equalIn,run_underlying f]) xs c g j
def Rd (P:Program) (f:FuncId) (args:Array Value) (w:World) (V:Value):Prop:=Calls P f args w fun e w'=>e=.returned V/\Below w.heap.size w w'
noncomputable def ZU (A:Prop):Bool:=@decide A (Classical.propDecidable A)
theorem Qa6 {A:Prop}:ZU A=true↔A:=by unfold ZU;simp
theorem QC {A:Prop}(h:A):ZU A=true:=Qa6.2 h
theorem QA {A:Prop}(h:¬ A):ZU A=false:=by
 cases e:ZU A with
 | false=>rfl
 | true=>exact absurd (Qa6.1 e) h
theorem Qf2 {A:Prop}{q:Bool}(h:q=true↔A):q=ZU A:=by
 cases q with
 | false=>exact(QA fun a=>by have:=h.2 a;cases this).symm
 | true=>exact(QC (h.1 Z)).symm
structure JSt where
 m:List (MFunc 6)
 f:MFunc 6
 H:List Bool
 L:List (TT 6)
def JSt.at (s:JSt) (k:Int):Option (TT 6):=if k<0 then none else s.L[k.toNat]?
def JSt.want (s:JSt) (k kind:Int) (held:Bool):Int:=match s.at k with
 | none=>1
 | some t=>if t.kind=kind then (if held&&!hHas s.H t.r then 10 else 0) else 9
def Qv (a b:Int):Int:=if a=0 then b else a
noncomputable def JSt.arg (s:JSt) (regs:List Int) (k:Int) (t:TT 6):Int:=match s.at k with
 | none=>1
 | some u=>if ZU (t.ren regs.length (fun i=>regs.getD i 0)=some u) then 0 else 9
noncomputable def JSt.args (s:JSt) (l:List Int) (ts:List (TT 6)) (regs:List Int):Int :=
 if l.length=ts.length then Qu (fun p:Int × TT 6=>s.arg regs p.1 p.2) (l.zip ts) else 2
def zeroTT:TT 6:=mkT 0 0 []
def tInt:TT 6:=mkT 1 0 []
def Qaj (regs:List Int) (t:TT 6):TT 6:=(t.ren regs.length (fun i=>regs.getD i 0)).getD zeroTT
def QL (H:List Bool):List Int->List Int->Int
 | _,[]=>0
 | ahead,r::rest=>if hHas H r then (if inB ahead r then 13 else QL H (ahead++[r]) rest) else 10
def JSt.fields (s:JSt):List Int->Option (List (TT 6))
 | []=>some []
 | k::r=>match s.at k with
   | none=>none
   | some t=>match s.fields r with
     | none=>none
     | some l=>some (t::l)
noncomputable def JSt.makes (s:JSt) (x:Qt):Int × List (TT 6) :=
 if x.op=1\/x.op=12 then (0,[tInt])
 else if x.op=2 then (Qv (s.want x.a 1 false) (s.want x.b 1 false),[tInt])
 else if x.op=3 then (if s.H.length=16 then (2,[]) else (0,[mkT 2 s.H.length []]))
 else if x.op=4 then (match s.at x.a with
  | none=>(1,[])
  | some t=>(Qv (s.want x.a 2 true) (if t.r<s.f.regs then 11 else 0),[]))
 else if x.op=5 then (match s.at x.a with
  | none=>(1,[])
  | some t=>if s.want x.a 2 true=0 then (match s.fields x.args with
   | none=>(1,[])
   | some l=>if 4<TT.height (n:=7) (mkT 3 t.r l) then (19,[]) else (0,[TT.at (n:=7) 5 (mkT 3 t.r l)]))
   else (s.want x.a 2 true,[]))
 else if x.op=6 then (match s.at x.a with
  | none=>(1,[])
  | some t=>if s.want x.a 3 true=0 then (match t.2.2[x.k.toNat]? with
   | none=>(9,[])
   | some u=>(0,[u.at 5]))
   else (s.want x.a 3 true,[]))
 else if x.op=7 then (match s.at x.a with
  | none=>(1,[])
  | some t=>if s.want x.a 3 true=0 then (match t.2.2[x.k.toNat]? with
   | none=>(9,[])
   | some u=>(match s.at x.b with
     | none=>(1,[])
     | some v=>if ZU (u.at 5=v) then (0,[]) else (9,[])))
   else (s.want x.a 3 true,[]))
 else if x.op=8 then (match s.at x.a with
  | none=>(1,[])
  | some t=>(Qv (s.want x.a 2 true) (s.want x.b 1 false),[mkT 4 t.r []]))
 else if x.op=9 then (Qv (s.want x.a 4 true) (s.want x.b 1 false),[tInt])
 else if x.op=10 then (Qv (s.want x.a 4 true) (Qv (s.want x.b 1 false) (s.want x.c 1 false)),[])
 else if x.op=11 then (s.want x.a 4 true,[tInt])
 else if x.op=13 then (s.want x.a 1 false,[])
 else (match s.m[x.k.toNat]? with
  | none=>(0,[])
  | some g=>if (x.regs.length:Int)=g.regs then
   (Qv (QL s.H [] x.regs) (s.args x.args g.params x.regs),g.results.map (Qaj x.regs))
   else (2,[]))
noncomputable def JSt.code (s:JSt) (x:Qt):Int :=
 if x.form s.m.length≠0 then x.form s.m.length
 else if (s.makes x).1≠0 then (s.makes x).1
 else if 80<s.L.length+(s.makes x).2.length then 2 else 0
noncomputable def JSt.next (s:JSt) (x:Qt):JSt :=
 { s with
  H:=if x.op=3 then s.H++[true] else if x.op=4 then s.H.set (match s.at x.a with | none=>0 | some t=>t.r.toNat) false else s.H
  L:=s.L++(s.makes x).2 }
noncomputable def JSt.ins (s:JSt) (x:Qt):JSt:=if s.code x=0 then s.next x else s
def Qdt (n:Nat) (regs:List Int):Int:=if (List.range n).all (fun (i:Nat)=>decide (regs.getD i 0=(i:Int))) then 0 else 11
noncomputable def JSt.to (s:JSt) (t:MTo):Int:=match s.f.blocks[t.block.toNat]? with
 | none=>0
 | some b=>if (t.regs.length:Int)=b.regs then
  Qv (Qdt s.f.regs.toNat t.regs) (Qv (hPass s.H [] t.regs) (s.args t.args b.params t.regs))
  else 2
def QhC (n:Nat):List Int:=(List.range n).map (fun (i:Nat)=>(i:Int))
noncomputable def JSt.fin (s:JSt) (e:ZA):Int :=
 if e.form s.f.blocks.length≠0 then e.form s.f.blocks.length
 else if e.op=1 then s.to e.yes
 else if e.op=2 then Qv (s.want e.a 1 false) (Qv (s.to e.yes) (s.to e.no))
 else Qv (s.args e.args s.f.results (QhC s.f.regs.toNat)) (if (Qal s.H).all (fun r=>decide (r<s.f.regs)) then 0 else 12)
theorem Qaf {s:JSt}{x:Qt}(h:x.op=1\/x.op=12):s.makes x=(0,[tInt]):=by
 unfold JSt.makes;rw[Xs h]
theorem QbJ {s:JSt}{x:Qt}(h:x.op=2):s.makes x=(Qv (s.want x.a 1 false) (s.want x.b 1 false),[tInt]):=by
 unfold JSt.makes;rw[Xr (by omega),Xs h]
theorem QbS {s:JSt}{x:Qt}(h:x.op=3):s.makes x=(if s.H.length=16 then (2,[]) else (0,[mkT 2 s.H.length []])):=by
 unfold JSt.makes;rw[Xr (by omega),Xr (by omega),Xs h]
theorem Qar {s:JSt}{x:Qt}(h:x.op=4):s.makes x=(match s.at x.a with
 | none=>(1,[])
 | some t=>(Qv (s.want x.a 2 true) (if t.r<s.f.regs then 11 else 0),[])):=by
 unfold JSt.makes;rw[Xr (by omega),Xr (by omega),Xr (by omega),Xs h]
theorem Qbr {s:JSt}{x:Qt}(h:x.op=5):s.makes x=(match s.at x.a with
 | none=>(1,[])
 | some t=>if s.want x.a 2 true=0 then (match s.fields x.args with
  | none=>(1,[])
  | some l=>if 4<TT.height (n:=7) (mkT 3 t.r l) then (19,[]) else (0,[TT.at (n:=7) 5 (mkT 3 t.r l)]))
  else (s.want x.a 2 true,[])):=by
 unfold JSt.makes;rw[Xr (by omega),Xr (by omega),Xr (by omega),Xr (by omega),Xs h]
theorem Qc7 {s:JSt}{x:Qt}(h:x.op=6):s.makes x=(match s.at x.a with
 | none=>(1,[])
 | some t=>if s.want x.a 3 true=0 then (match t.2.2[x.k.toNat]? with
  | none=>(9,[])
  | some u=>(0,[u.at 5]))
  else (s.want x.a 3 true,[])):=by
 unfold JSt.makes;rw[Xr (by omega),Xr (by omega),Xr (by omega),Xr (by omega),Xr (by omega),Xs h]
theorem Qc5 {s:JSt}{x:Qt}(h:x.op=7):s.makes x=(match s.at x.a with
 | none=>(1,[])
 | some t=>if s.want x.a 3 true=0 then (match t.2.2[x.k.toNat]? with
  | none=>(9,[])
  | some u=>(match s.at x.b with
    | none=>(1,[])
    | some v=>if ZU (u.at 5=v) then (0,[]) else (9,[])))
  else (s.want x.a 3 true,[])):=by
 unfold JSt.makes;rw[Xr (by omega),Xr (by omega),Xr (by omega),Xr (by omega),Xr (by omega),Xr (by omega),Xs h]
theorem Qbm {s:JSt}{x:Qt}(h:x.op=8):s.makes x=(match s.at x.a with
 | none=>(1,[])
 | some t=>(Qv (s.want x.a 2 true) (s.want x.b 1 false),[mkT 4 t.r []])):=by
 unfold JSt.makes;rw[Xr (by omega),Xr (by omega),Xr (by omega),Xr (by omega),Xr (by omega),Xr (by omega),Xr (by omega),Xs h]
theorem Qba {s:JSt}{x:Qt}(h:x.op=9):s.makes x=(Qv (s.want x.a 4 true) (s.want x.b 1 false),[tInt]):=by
 unfold JSt.makes;rw[Xr (by omega),Xr (by omega),Xr (by omega),Xr (by omega),Xr (by omega),Xr (by omega),Xr (by omega),Xr (by omega),Xs h]
theorem QaI {s:JSt}{x:Qt}(h:x.op=10):s.makes x=(Qv (s.want x.a 4 true) (Qv (s.want x.b 1 false) (s.want x.c 1 false)),[]):=by
 unfold JSt.makes;rw[Xr (by omega),Xr (by omega),Xr (by omega),Xr (by omega),Xr (by omega),Xr (by omega),Xr (by omega),Xr (by omega),Xr (by omega),Xs h]
theorem QbT {s:JSt}{x:Qt}(h:x.op=11):s.makes x=(s.want x.a 4 true,[tInt]):=by
 unfold JSt.makes;rw[Xr (by omega),Xr (by omega),Xr (by omega),Xr (by omega),Xr (by omega),Xr (by omega),Xr (by omega),Xr (by omega),Xr (by omega),Xr (by omega),Xs h]
theorem QbA {s:JSt}{x:Qt}(h:x.op=13):s.makes x=(s.want x.a 1 false,[]):=by
 unfold JSt.makes;rw[Xr (by omega),Xr (by omega),Xr (by omega),Xr (by omega),Xr (by omega),Xr (by omega),Xr (by omega),Xr (by omega),Xr (by omega),Xr (by omega),Xr (by omega),Xs h]
theorem Qa8 {s:JSt}{x:Qt}(h:x.op=14):s.makes x=(match s.m[x.k.toNat]? with
 | none=>(0,[])
 | some g=>if (x.regs.length:Int)=g.regs then
  (Qv (QL s.H [] x.regs) (s.args x.args g.params x.regs),g.results.map (Qaj x.regs))
  else (2,[])):=by
 unfold JSt.makes;rw[Xr (by omega),Xr (by omega),Xr (by omega),Xr (by omega),Xr (by omega),Xr (by omega),Xr (by omega),Xr (by omega),Xr (by omega),Xr (by omega),Xr (by omega),Xr (by omega)]
def JSt.start (m:List (MFunc 6)) (f:MFunc 6) (b:MBlock 6):JSt:=⟨m,f,QbW b.regs,b.params⟩
theorem QjU {k r:Int}{len:Nat}{a b:Int}(f:a<=b) (h:ownC k r len a=0):ownC k r len b=0:=by
 unfold ownC at h |-;split at h
 ·cases h
 split at h
 ·cases h
 split at h
 ·cases h
 split at h
 ·cases h
 split at h
 ·cases h
 rename_i g d e c i
 rw[Xr g,Xr d,Xr e,Xr c,Xr (by omega)]
theorem QdQ {a b:Int}(c:a<=b):{n:Nat}->{t:TT n}->t.fault a=0->t.fault b=0
 | 0,t,_=>Empty.elim t
 | n+1,t,h=>by
   obtain⟨d,f⟩:=TT.fault_zero h
   simp only[TT.fault,QjU c d,ne_eq,not_true_eq_false,if_false]
   exact QF.2 fun x e=>QdQ c (f x e)
theorem QV {t:TT n}{r:Int}:t.check r=0↔t.height<=4/\t.fault r=0:=by
 constructor
 ·exact Qc0
 ·intro h;unfold TT.check;rw[Xr (by omega)];exact h.2
theorem Qbb {t:TT n}{a b:Int}(c:a<=b) (h:t.check a=0):t.check b=0:=by
 rw[QV] at h |-
 exact⟨h.1,QdQ c h.2⟩
def capT:Nat->Nat
 | 0=>1
 | h+1=>1+8*capT h
theorem sum_le_mul:∀ (l:List Nat) (c:Nat),(∀ x∈l,x<=c)->l.sum<=l.length*c
 | [],_,_=>by simp
 | x::xs,c,h=>by
   have b:=h x (by simp);have d:=sum_le_mul xs c (fun y a=>h y (by simp[a]));simp only[List.sum_cons,List.length_cons,Nat.add_mul]
   omega
theorem QiA {t:TT (n+1)}{r:Int}(h:t.fault r=0):t.2.2.length<=8:=by
 have:=(TT.fault_zero h).1
 unfold ownC at this;split at this
 ·cases this
 split at this
 ·cases this
 split at this
 ·cases this
 split at this
 ·cases this
 omega
theorem QeX {r:Int}:{n:Nat}->{t:TT n}->(h:Nat)->t.height<=h->t.fault r=0->t.count<=capT h
 | 0,t,_,_,_=>Empty.elim t
 | n+1,t,0,hh,hf=>by
   have:=Q8.1 hh
   have e:t.2.2=[]:=by
    cases a:t.2.2 with
    | nil=>rfl
    | cons x l=>have:=this x (by rw[a];simp);omega
   simp only[TT.count,e,capT]
   simp
 | n+1,t,h+1,hh,hf=>by
   have i:=Q8.1 hh;have d:=(TT.fault_zero hf).2
   have g:=sum_le_mul (t.2.2.map TT.count) (capT h) (fun c f=>by
    obtain⟨x,a,rfl⟩:=List.mem_map.1 f
    exact QeX h (by have:=i x a;omega) (d x a))
   have b:=QiA hf;rw[XN] at g
   have j:t.2.2.length*capT h<=8*capT h:=Xp _ b;simp only[TT.count,capT]
   omega
theorem Z3 {t:TT n}{r:Int}(h:t.check r=0):t.count<=4681:=by
 have:=QeX 4 (QV.1 h).1 (QV.1 h).2
 have e:capT 4=4681:=rfl;omega
theorem TT.height_lt:{n:Nat}->(t:TT n)->t.height<n
 | 0,t=>Empty.elim t
 | n+1,t=>by
   have:t.height<=n:=Q8.2 fun x a=>by have:=TT.height_lt x;omega
   omega
theorem TT.at_height:{n:Nat}->(k:Nat)->(t:TT n)->t.height<=k->(t.at k).height=t.height
 | 0,_,t,_=>Empty.elim t
 | n+1,0,t,h=>by
   have b:t.height=0:=by omega
   rw[b]
   rfl
 | n+1,k+1,t,h=>by
   have a:=Q8.1 h;show ((t.2.2.map (TT.at k)).map (fun x=>1+TT.height x)).foldl max 0=(t.2.2.map (fun x=>1+TT.height x)).foldl max 0;rw[List.map_map]
   congr 1
   refine List.map_congr_left fun x c=>?_;show 1+(x.at k).height=1+x.height;rw[TT.at_height k x (by have:=a x c;omega)]
theorem TT.at_fault {r:Int}:{n:Nat}->(k:Nat)->(t:TT n)->t.height<=k->(t.at k).fault r=t.fault r
 | 0,_,t,_=>Empty.elim t
 | n+1,0,t,h=>by
   have b:=Q8.1 h
   have e:t.2.2=[]:=by
    cases a:t.2.2 with
    | nil=>rfl
    | cons x l=>have:=b x (by rw[a];simp);omega
   show (if ownC t.1 t.2.1 0 r≠0 then ownC t.1 t.2.1 0 r else Qu _ [])=_;simp only[TT.fault,e,List.length_nil,Qu]
 | n+1,k+1,t,h=>by
   have b:=Q8.1 h;show (if ownC t.1 t.2.1 (t.2.2.map (TT.at k)).length r≠0 then ownC t.1 t.2.1 (t.2.2.map (TT.at k)).length r else Qu (TT.fault r) (t.2.2.map (TT.at k)))=_;rw[XN]
   have:Qu (TT.fault r) (t.2.2.map (TT.at k))=Qu (TT.fault r) t.2.2:=by
    refine Qa0 (by simp) fun i x y a c=>?_;rw[XS,c] at a
    simp only[Option.map_some,Option.some.injEq] at a
    rw[<-a]
    exact TT.at_fault k y (by have:=b y (Zm c);omega)
   rw[this]
   rfl
theorem TT.at_check (k:Nat) (t:TT n) (h:t.height<=k) (r:Int):(t.at k).check r=t.check r:=by
 unfold TT.check;rw[TT.at_height k t h,TT.at_fault k t h]
theorem Qir {m:Nat}{too:Nat->Int}{a b:Int}(s:a<=m) (d:∀ i,i<m->0<=too i/\too i<b):{n:Nat}->{t:TT n}->t.fault a=0->∃ u,t.ren m too=some u/\u.fault b=0
 | 0,t,_=>Empty.elim t
 | n+1,t,h=>by
   obtain⟨c,r⟩:=TT.fault_zero h
   have j:∃ f,ZK m too t.1 t.2.1=some f/\ownC t.1 f t.2.2.length b=0:=by
    unfold ownC at c;split at c
    ·cases c
    split at c
    ·cases c
    split at c
    ·cases c
    split at c
    ·cases c
    split at c
    ·cases c
    rename_i z K A B M
    by_cases C:t.1=1
    ·refine⟨t.2.1,by rw[ZK,Xs C],?_⟩
     unfold ownC;rw[Xr z,Xr K,Xr A,Xr B,Xr (by omega)]
    ·obtain⟨N,L⟩:=d t.2.1.toNat (by omega)
     refine⟨too t.2.1.toNat,by rw[ZK,Xr C,Xr (by omega),Xr (by omega)],?_⟩
     unfold ownC;rw[Xr z,Xr (by omega),Xr A,Xr B,Xr (by omega)]
   obtain⟨f,I,D⟩:=j
   have E:∃ e,ZT (TT.ren m too) t.2.2=some e/\e.length=t.2.2.length/\∀ x∈e,x.fault b=0:=by
    generalize t.2.2=l at r
    induction l with
    | nil=>exact⟨[],Z,Z,fun x H=>by cases H⟩
    | cons x xs ih =>
      obtain⟨u,G,F⟩:=Qir s d (r x (by simp))
      obtain⟨J,w,k,o⟩:=ih (fun y g=>r y (by simp[g]))
      refine⟨u::J,by simp[ZT,G,w],by simp[k],fun y g=>?_⟩
      rcases List.mem_cons.1 g with rfl | g
      ·exact F
      ·exact o y g
   obtain⟨e,v,q,p⟩:=E
   refine⟨((t.1,f,e):Int × Int × List (TT n)),by simp only[TT.ren,I,v],?_⟩
   show (if ownC t.1 f e.length b≠0 then ownC t.1 f e.length b else Qu (TT.fault b) e)=0;rw[q,D]
   simp only[ne_eq,not_true_eq_false,if_false]
   exact QF.2 p
theorem Qf1 {too:Nat->Int}{a b:Int}(d:a<=m) (c:∀ i,i<m->0<=too i/\too i<b){t:TT n}(h:t.check a=0):∃ u,t.ren m too=some u/\u.check b=0:=by
 obtain⟨u,e,f⟩:=Qir d c (QV.1 h).2
 exact⟨u,e,QV.2 ⟨by rw[TT.ren_height e];exact(QV.1 h).1,f⟩⟩
structure MBlock.right {n:Nat}(x:MBlock n) (f:MFunc n) (funcs:Nat):Prop where
 regs:f.regs<=x.regs/\x.regs<=16
 params:x.params.length<=8/\∀ t∈x.params,t.check x.regs=0
 code:∀ y∈x.code,y.form funcs=0
 codes:x.code.length<=40
 fin:x.fin.form f.blocks.length=0
structure MFunc.right {n:Nat}(x:MFunc n) (funcs:Nat):Prop where
 regs:0<=x.regs/\x.regs<=6
 params:x.params.length<=8/\∀ t∈x.params,t.check x.regs=0
 results:x.results.length<=8/\∀ t∈x.results,t.check x.regs=0
 many:0<x.blocks.length/\x.blocks.length<=12
 blocks:∀ y∈x.blocks,y.right x funcs
theorem QbZ {regs:Int}{l:List (TT n)}(h:listC regs l=0):l.length<=8/\∀ t∈l,t.check regs=0:=by
 unfold listC at h;split at h
 ·cases h
 ·exact⟨by omega,fun t a=>QF.1 h t a⟩
theorem Qf7 {fn:MFunc n}{x:MBlock n}(h:(MBlock.fault funcs f fn b x).1=0):x.right fn funcs:=by
 unfold MBlock.fault at h;split at h
 ·cases h
 rename_i k
 split at h
 ·rename_i a;exact absurd h a
 rename_i a
 split at h
 ·cases h
 split at h
 ·cases h
 rename_i j
 split at h
 ·rename_i c;exact absurd h c
 rename_i c
 split at h
 ·rename_i d;exact absurd h d
 rename_i d
 refine⟨by omega,QbZ (Xq.1 a),fun y g=>?_,by omega,Xq.1 d⟩
 obtain⟨i,e⟩:=List.getElem?_of_mem g
 exact QR (Xq.1 c) i y e
theorem Qhh {x:MFunc n}(h:(MFunc.fault funcs f x).1=0):x.right funcs:=by
 unfold MFunc.fault at h;split at h
 ·cases h
 rename_i g
 split at h
 ·rename_i a;exact absurd h a
 rename_i a
 split at h
 ·rename_i b;exact absurd h b
 rename_i b
 split at h
 ·cases h
 rename_i e
 split at h
 ·cases h
 refine⟨by omega,QbZ (Xq.1 a),QbZ (Xq.1 b),by omega,fun y d=>?_⟩
 obtain⟨i,c⟩:=List.getElem?_of_mem d
 exact Qf7 (QR h i y c)
theorem Zo {m:List (MFunc n)}(h:(modFault m).1=0):(0<m.length/\m.length<=8)/\∀ x∈m,x.right m.length:=by
 unfold modFault at h;split at h
 ·cases h
 rename_i c
 refine⟨by omega,fun x b=>?_⟩
 obtain⟨i,a⟩:=List.getElem?_of_mem b
 exact Qhh (QR h i x a)
structure JOk (s:JSt):Prop where
 mod:(0<s.m.length/\s.m.length<=8)/\∀ x∈s.m,x.right s.m.length
 tiny:¬ Qm s.m
 fn:s.f∈s.m
 regs:s.H.length<=16
 kept:s.f.regs<=s.H.length
 vals:s.L.length<=80
 types:∀ t∈s.L,t.check s.H.length=0
theorem QdA {s:JSt}{k:Int}{t:TT 6}(h:s.at k=some t):t∈s.L/\0<=k/\k<s.L.length/\s.L[k.toNat]?=some t:=by
 unfold JSt.at at h;split at h
 ·cases h
 ·have:=(Zi h).1
  exact⟨Zm h,by omega,by omega,h⟩
theorem Z7 {s:JSt}{k a:Int}{b:Bool}(h:s.want k a b=0):∃ t,s.at k=some t/\t.kind=a/\(b=true->hHas s.H t.r=true):=by
 unfold JSt.want at h;split at h
 ·cases h
 ·rename_i t c
  split at h
  ·rename_i f
   split at h
   ·cases h
   ·rename_i d
    refine⟨t,c,f,fun e=>?_⟩
    subst e;simpa using d
  ·cases h
theorem QD {a b:Int}(h:Qv a b=0):a=0/\b=0:=by
 unfold Qv at h;split at h
 ·exact⟨by assumption,h⟩
 ·contradiction
theorem QaD {s:JSt}:∀ {l:List Int}{ts:List (TT 6)},s.fields l=some ts->ts.length=l.length/\∀ t∈ts,t∈s.L
 | [],ts,h=>by simp[JSt.fields] at h;subst h;simp
 | k::r,ts,h=>by
   simp only[JSt.fields] at h
   cases hk:s.at k with
   | none=>simp[hk] at h
   | some t =>
     simp only[hk] at h
     cases hr:s.fields r with
     | none=>simp[hr] at h
     | some l =>
       simp only[hr,Option.some.injEq] at h
       subst h;obtain⟨b,c⟩:=QaD hr
       refine⟨by simp[b],fun u a=>?_⟩
       rcases List.mem_cons.1 a with rfl | a
       ·exact(QdA hk).1
       ·exact c u a
theorem ZF {H:List Bool}:∀ {l ahead:List Int},QL H ahead l=0->∀ r∈l,hHas H r=true
 | [],_,_,r,a=>by cases a
 | x::l,ahead,h,r,a=>by
   simp only[QL] at h
   split at h
   ·rename_i b
    split at h
    ·cases h
    ·rcases List.mem_cons.1 a with rfl | a
     ·exact b
     ·exact ZF h r a
   ·cases h
theorem ZZ {H:List Bool}{r:Int}(h:hHas H r=true):0<=r/\r<H.length:=by
 obtain⟨k,rfl,a,_⟩:=QaT h
 omega
theorem Q6 {x:Qt}(h:x.form funcs=0):((x.op=6\/x.op=7)->0<=x.k/\x.k<=7)/\(x.op=14->0<=x.k/\x.k<funcs/\x.regs.length<=6/\x.args.length<=8)/\(x.op=5->x.args.length<=8)/\(x.op=1\/x.op=2\/x.op=3\/x.op=4\/x.op=5\/x.op=6\/x.op=7\/x.op=8\/x.op=9\/x.op=10\/x.op=11\/x.op=12\/x.op=13\/x.op=14):=by
 have a:=Qkt (Qh7 h).1;unfold Qt.form at h;split at h
 ·cases h
 split at h
 ·cases h
 split at h
 ·cases h
 split at h
 ·cases h
 split at h
 ·cases h
 split at h
 ·cases h
 split at h
 ·cases h
 refine⟨by omega,by omega,by omega,a⟩
theorem QdJ {k r R:Int}(b:k=2\/k=4) (a:0<=r/\r<R):TT.check (n:=6) R (mkT k r [])=0:=by
 refine QV.2 ⟨by show 0<=4;omega,?_⟩;show (if ownC k r 0 R≠0 then ownC k r 0 R else Qu _ [])=0
 have:ownC k r 0 R=0:=by
  unfold ownC;rw[Xr (by omega),Xr (by omega),Xr (by omega),Xr (by omega),Xr (by omega)]
 rw[this];rfl
theorem Qjs (R:Int):tInt.check R=0:=by
 refine QV.2 ⟨by decide,?_⟩;show (if ownC 1 0 0 R≠0 then ownC 1 0 0 R else Qu _ [])=0
 have:ownC 1 0 0 R=0:=by unfold ownC;rw[Xr (by omega),Xr (by omega),Xr (by omega),Xr (by omega),Xr (by omega)]
 rw[this];rfl
theorem Qfu {s:JSt}{x:Qt}(h:JOk s) (O:x.form s.m.length=0) (A:(s.makes x).1=0):∀ t∈(s.makes x).2,t.check (s.next x).H.length=0:=by
 obtain⟨f1,X,L,M⟩:=Q6 O
 have G:(s.H.length:Int)<=(s.next x).H.length:=by
  simp only[JSt.next]
  split
  ·simp;omega
  split
  ·simp
  ·exact Int.le_refl _
 intro t f
 have j:∀ {c:Int},s.makes x=(c,[tInt])->t.check (s.next x).H.length=0:=fun {c} e=>by
  rw[e] at f
  have f:=List.mem_singleton.1 f;rw[f];exact Qjs _
 have d:∀ {c:Int},s.makes x=(c,[])->t.check (s.next x).H.length=0:=fun {c} e=>by
  rw[e] at f;cases f
 rcases M with c | c | c | c | c | c | c | c | c | c | c | c | c | c
 ·exact j (Qaf (.inl c))
 ·exact j (QbJ c)
 ·have e:=QbS (s:=s) c;by_cases B:s.H.length=16
  ·rw[Xs B] at e;exact d e
  ·rw[Xr B] at e
   rw[e] at f
   have f:=List.mem_singleton.1 f;rw[f]
   refine QdJ (.inl Z) ?_;simp only[JSt.next,c,if_true,List.length_append,List.length_singleton]
   omega
 ·have e:=Qar (s:=s) c
  cases ha:s.at x.a with
  | none=>rw[ha] at e;exact d e
  | some u=>rw[ha] at e;exact d e
 ·have e:=Qbr (s:=s) c
  cases ha:s.at x.a with
  | none=>rw[ha] at e;exact d e
  | some u =>
    rw[ha] at e
    simp only at e
    by_cases p:s.want x.a 2 true=0
    ·rw[Xs p] at e
     cases hl:s.fields x.args with
     | none=>rw[hl] at e;exact d e
     | some l =>
       rw[hl] at e
       simp only at e
       by_cases B:4<TT.height (n:=7) (mkT 3 u.r l)
       ·rw[Xs B] at e;exact d e
       ·rw[Xr B] at e
        rw[e] at f
        have f:=List.mem_singleton.1 f;rw[f]
        obtain⟨R,q,_,o⟩:=Z7 p
        rw[ha] at q
        cases q
        have D:=ZZ (o Z);obtain⟨W,U⟩:=QaD hl
        rw[TT.at_check 5 _ (by omega)]
        refine Qbb G (QV.2 ⟨by omega,?_⟩);show (if ownC 3 u.r l.length s.H.length≠0 then ownC 3 u.r l.length s.H.length else Qu (TT.fault (s.H.length:Int)) l)=0
        have:ownC 3 u.r l.length s.H.length=0:=by
         have:=L c
         unfold ownC;rw[Xr (by omega),Xr (by omega),Xr (by omega),Xr (by omega),Xr (by omega)]
        rw[this]
        simp only[ne_eq,not_true_eq_false,if_false]
        exact QF.2 fun y N=>(QV.1 (h.types y (U y N))).2
    ·rw[Xr p] at e;exact d e
 ·have e:=Qc7 (s:=s) c
  cases ha:s.at x.a with
  | none=>rw[ha] at e;exact d e
  | some u =>
    rw[ha] at e
    simp only at e
    by_cases p:s.want x.a 3 true=0
    ·rw[Xs p] at e
     cases z:u.2.2[x.k.toNat]? with
     | none=>rw[z] at e;exact d e
     | some v =>
       rw[z] at e
       rw[e] at f
       have f:=List.mem_singleton.1 f;rw[f]
       have K:=QV.1 (h.types u (QdA ha).1);have C:=Zm z;have V:=Q8.1 K.1 v C;have Q:=TT.height_lt v;rw[TT.at_check 5 _ (by omega)]
       exact Qbb G (QV.2 ⟨by omega,(TT.fault_zero K.2).2 v C⟩)
    ·rw[Xr p] at e;exact d e
 ·have e:=Qc5 (s:=s) c
  cases ha:s.at x.a with
  | none=>rw[ha] at e;exact d e
  | some u =>
    rw[ha] at e
    simp only at e
    by_cases p:s.want x.a 3 true=0
    ·rw[Xs p] at e
     cases z:u.2.2[x.k.toNat]? with
     | none=>rw[z] at e;exact d e
     | some v =>
       rw[z] at e
       cases hb:s.at x.b with
       | none=>rw[hb] at e;exact d e
       | some w =>
         rw[hb] at e
         simp only at e
         cases hq:ZU (v.at 5=w) with
         | true=>rw[hq] at e;exact d e
         | false=>rw[hq] at e;exact d e
    ·rw[Xr p] at e;exact d e
 ·have e:=Qbm (s:=s) c
  cases ha:s.at x.a with
  | none=>rw[ha] at e;exact d e
  | some u =>
    rw[ha] at e
    rw[e] at f A
    have f:=List.mem_singleton.1 f;rw[f]
    obtain⟨p,_⟩:=QD A
    obtain⟨R,q,_,o⟩:=Z7 p
    rw[ha] at q
    cases q
    have D:=ZZ (o Z);exact QdJ (.inr Z) (by omega)
 ·exact j (Qba c)
 ·exact d (QaI c)
 ·exact j (QbT c)
 ·exact j (Qaf (.inr c))
 ·exact d (QbA c)
 ·have e:=Qa8 (s:=s) c
  cases hg:s.m[x.k.toNat]? with
  | none=>rw[hg] at e;exact d e
  | some g =>
    rw[hg] at e
    simp only at e
    by_cases D:(x.regs.length:Int)=g.regs
    ·rw[Xs D] at e
     rw[e] at f A
     obtain⟨I,S⟩:=QD A
     obtain⟨u,P,rfl⟩:=List.mem_map.1 f
     have E:=h.mod.2 g (Zm hg);have J:=E.results.2 u P
     obtain⟨v,z,F⟩:=Qf1 (m:=x.regs.length) (too:=fun i=>x.regs.getD i 0) (a:=g.regs) (b:=s.H.length) (by omega) (fun i T=>by
      have A:=ZF I (x.regs.getD i 0) (by simp[List.getD,T]);exact ZZ A) J
     unfold Qaj;rw[z]
     exact Qbb G F
    ·rw[Xr D] at e;exact d e
theorem JOk.next {s:JSt}{x:Qt}(h:JOk s) (a:s.code x=0):JOk (s.next x):=by
 unfold JSt.code at a;split at a
 ·rename_i f;exact absurd a f
 rename_i f
 split at a
 ·rename_i d;exact absurd a d
 rename_i d
 split at a
 ·cases a
 rename_i k
 have j:x.form s.m.length=0:=Xq.1 f;have c:(s.makes x).1=0:=Xq.1 d
 have g:(s.H.length:Int)<=(s.next x).H.length:=by
  simp only[JSt.next]
  split
  ·simp;omega
  split
  ·simp
  ·exact Int.le_refl _
 refine⟨h.mod,h.tiny,h.fn,?_,?_,?_,?_⟩
 ·simp only[JSt.next]
  split
  ·rename_i i
   have:s.H.length≠16:=by
    intro e;rw[QbS i,Xs e] at c
    cases c
   have:=h.regs
   simp
   omega
  split
  ·simpa using h.regs
  ·exact h.regs
 ·exact Int.le_trans h.kept g
 ·show (s.L++(s.makes x).2).length<=80;rw[List.length_append]
  omega
 ·intro t b;rcases List.mem_append.1 b with b | b
  ·exact Qbb g (h.types t b)
  ·exact Qfu h j c t b
theorem JOk.ins {s:JSt}(h:JOk s) (x:Qt):JOk (s.ins x):=by
 unfold JSt.ins;split
 ·exact h.next (by assumption)
 ·exact h
theorem Qel {n:Int}(h:0<=n/\n<=16):((QbW n).length:Int)=n:=by
 unfold QbW;rw[List.length_replicate]
 omega
theorem JOk.start {m:List (MFunc 6)}{f:MFunc 6}{b:MBlock 6}(h:(modFault m).1=0) (k:¬ Qm m) (e:f∈m) (l:b∈f.blocks):JOk (JSt.start m f b):=by
 have d:=Zo h;have c:=d.2 f e;have a:=c.blocks b l;have g:=Qel (n:=b.regs) (by have:=c.regs;have:=a.regs;omega);have p:=a.regs;have o:=c.regs;have i:=a.params;refine⟨d,k,e,?_,?_,?_,?_⟩
 ·show (QbW b.regs).length<=16;omega
 ·show f.regs<=((QbW b.regs).length:Int);omega
 ·show b.params.length<=80;omega
 ·intro t j;show t.check ((QbW b.regs).length:Int)=0;rw[g]
  exact i.2 t j
theorem QN {s:JSt}{x:Qt}(h:s.code x=0):x.form s.m.length=0/\(s.makes x).1=0/\s.L.length+(s.makes x).2.length<=80:=by
 unfold JSt.code at h;split at h
 ·exact absurd h ‹_›
 split at h
 ·exact absurd h ‹_›
 split at h
 ·cases h
 exact⟨by omega,by omega,by omega⟩
theorem Qa9 {s:JSt}{x:Qt}(a:x.op≠3) (b:x.op≠4):(s.next x).H=s.H:=by
 unfold JSt.next
 simp only[if_neg a,if_neg b]
theorem QhZ {s:JSt}{x:Qt}(h:s.code x=0) (d:x.op=4):∃ (t:TT 6) (r:Nat),s.at x.a=some t/\t.kind=2/\t.r=(r:Int)/\r<s.H.length/\s.H.getD r false=true/\s.next x={ s with H:=s.H.set r false }:=by
 obtain⟨-,c,-⟩:=QN h
 rw[Qar d] at c
 split at c
 ·cases c
 rename_i t b
 obtain⟨l,e,g,k⟩:=Z7 (QD c).1
 rw[b] at e
 cases e
 obtain⟨r,f,i,j⟩:=QaT (k Z)
 refine⟨t,r,b,g,f,i,j,?_⟩
 unfold JSt.next
 rw[Qar d]
 simp only[b,f,if_neg (show ¬ x.op=3 by omega),if_pos d,Int.toNat_natCast,List.append_nil]
noncomputable def QB (at0:Int) (e:ZA):JSt->Nat->List Qt->Int × Int
 | s,_,[]=>if s.fin e≠0 then (s.fin e,at0+91) else (0,0)
 | s,i,x::r=>if s.code x≠0 then (s.code x,at0+i) else QB at0 e (s.next x) (i+1) r
noncomputable def Qaa (m:List (MFunc 6)) (k:Nat) (f:MFunc 6):Int × Int:=firstF (fun b x=>QB (10000*(k:Int)+100*(b:Int)) x.fin (JSt.start m f x) 0 x.code) 0 f.blocks
noncomputable def Qq (m:List (MFunc 6)):Int × Int:=if (modFault m).1≠0 then modFault m else firstF (Qaa m) 0 m
noncomputable def JSt.upto (s:JSt) (l:List Qt):JSt:=l.foldl (fun s x=>s.next x) s
theorem JSt.upto_snoc (s:JSt) (l:List Qt) (x:Qt):s.upto (l++[x])=(s.upto l).next x:=by unfold JSt.upto;rw[List.foldl_append];rfl
theorem QaF {a:Int}{e:ZA}:∀ {l:List Qt}{s:JSt}{i k:Nat},k<=l.length->(∀ j x,j<k->l[j]?=some x->(s.upto (l.take j)).code x=0)->QB a e s i l=QB a e (s.upto (l.take k)) (i+k) (l.drop k)
 | l,s,i,0,_,_=>by simp[JSt.upto]
 | [],s,i,k+1,hk,_=>by simp at hk
 | x::r,s,i,k+1,hk,h=>by
   have d:s.code x=0:=by have:=h 0 x (by omega) Z;simpa[JSt.upto] using this
   rw[QB,Xr (by rw[d];simp)]
   have b:k<=r.length:=by simpa using hk
   rw[QaF (k:=k) b (fun j y g f=>by
    have:=h (j+1) y (by omega) (by simpa using f)
    simpa[JSt.upto] using this)]
   simp only[List.take_succ_cons,List.drop_succ_cons]
   have c:i+1+k=i+(k+1):=by omega
   rw[c]
   rfl
theorem Qfa {a:Int}{e:ZA}{l:List Qt}{s:JSt}{x:Qt}(b:l[k]?=some x) (h:∀ j y,j<k->l[j]?=some y->(s.upto (l.take j)).code y=0) (d:(s.upto (l.take k)).code x≠0) :
 QB a e s 0 l=((s.upto (l.take k)).code x,a+k):=by
 have c:k<l.length:=(Zi b).1;rw[QaF (k:=k) (by omega) h,List.drop_eq_getElem_cons c]
 have:l[k]=x:=by rw[Zg c] at b;exact Xn b
 rw[this,QB,Xs d,XK]
theorem Qfh {a:Int}{e:ZA}{l:List Qt}{s:JSt}(h:∀ j y,j<l.length->l[j]?=some y->(s.upto (l.take j)).code y=0) :
 QB a e s 0 l=if (s.upto l).fin e≠0 then ((s.upto l).fin e,a+91) else (0,0):=by
 rw[QaF (k:=l.length) Ze h,List.drop_length,List.take_length]
 rfl
theorem Qf4 {m:List (MFunc 6)}{f:MFunc 6}{g:MBlock 6}(l:(modFault m).1=0) (n:m[k]?=some f) (o:∀ j y,j<k->m[j]?=some y->(Qaa m j y).1=0) (e:f.blocks[q]?=some g)
 (i:∀ j y,j<q->f.blocks[j]?=some y->(QB (10000*(k:Int)+100*(j:Int)) y.fin (JSt.start m f y) 0 y.code).1=0) (h:(QB (10000*(k:Int)+100*(q:Int)) g.fin (JSt.start m f g) 0 g.code).1≠0) :
 Qq m=QB (10000*(k:Int)+100*(q:Int)) g.fin (JSt.start m f g) 0 g.code:=by
 have d:Qaa m k f=QB (10000*(k:Int)+100*(q:Int)) g.fin (JSt.start m f g) 0 g.code:=by
  unfold Qaa
  have:=Qaw (f:=fun b (x:MBlock 6)=>QB (10000*(k:Int)+100*(b:Int)) x.fin (JSt.start m f x) 0 x.code) (j:=0) e (fun j y a c=>by rw[XK];exact i j y a c) (by rw[XK];exact h)
  rw[XK] at this
  exact this
 unfold Qq;rw[Xr (by rw[l];simp)]
 have:=Qaw (f:=Qaa m) (j:=0) n (fun j y a c=>by rw[XK];exact o j y a c) (by rw[XK,d];exact h)
 rw[XK,d] at this
 exact this
structure IFr where
 f:Nat
 b:Nat
 i:Nat
 v:List Q1
 r:List Int
structure IM where
 h:Qd
 top:IFr
 rest:List IFr
 inp:List Int
 out:List Int
 back:List Int
 fuel:Nat
 fin:Int
 done:Bool
def QQ (v:List Q1) (k:Int):Option Q1:=if k<0 then none else v[k.toNat]?
def Q9 (v:List Q1):List Int->Option (List Q1)
 | []=>some []
 | k::l=>match QQ v k with
   | none=>none
   | some x=>match Q9 v l with
     | none=>none
     | some xs=>some (x::xs)
def Ql2 (r:List Int) (k:Int):Option Int:=if k<0 then none else r[k.toNat]?
def QbM (r:List Int):List Int->Option (List Int)
 | []=>some []
 | k::l=>match Ql2 r k with
   | none=>none
   | some x=>match QbM r l with
     | none=>none
     | some xs=>some (x::xs)
def QS (v:List Q1) (k:Int):Option Int:=match QQ v k with
 | none=>none
 | some x=>if x.kind=1 then some x.n else none
def Qcl (v:List Q1):List Int->Option (List Int)
 | []=>some []
 | k::l=>match QS v k with
   | none=>none
   | some x=>match Qcl v l with
     | none=>none
     | some xs=>some (x::xs)
def IM.push (M:IM) (l:List Q1):IM:={ M with top:={ M.top with v:=M.top.v++l } }
def IM.over (M:IM) (e:Int):IM:={ M with done:=true,fin:=e }
def IM.got (M:IM) (g:Q1 × Int × Qd):Option IM:=if g.2.1=14 then some (M.over 6) else if g.2.1=0 then some (IM.push ({ M with h:=g.2.2 }) [g.1]) else none
def IM.mem (M:IM) (x:Qt):Option IM:=match QQ M.top.v x.a with
 | none=>none
 | some a =>
   if x.op=4 then (if (M.h.shut a).1 then some { M with h:=(M.h.shut a).2 } else none)
   else if x.op=5 then (match Q9 M.top.v x.args with
    | none=>none
    | some l=>M.got (M.h.tuple a l))
   else if x.op=8 then (match QS M.top.v x.b with
    | none=>none
    | some n=>if n<0\/15<n then some (M.over 3) else M.got (M.h.array a n))
   else if x.op=6 then (if a.kind=3/\(M.h.get a x.k).2=0 then some (M.push [(M.h.get a x.k).1]) else none)
   else if x.op=7 then (match QQ M.top.v x.b with
    | none=>none
    | some y=>if a.kind=3/\(M.h.set a x.k y).1=0 then some { M with h:=(M.h.set a x.k y).2 } else none)
   else if x.op=9 then (match QS M.top.v x.b with
    | none=>none
    | some n=>if a.kind=4 then (if (M.h.get a n).2=1 then some (M.over 2) else if (M.h.get a n).2=0 then some (M.push [(M.h.get a n).1]) else none) else none)
   else if x.op=10 then (match QS M.top.v x.b with
    | none=>none
    | some n=>match QS M.top.v x.c with
      | none=>none
      | some z=>if a.kind=4 then (if (M.h.set a n (Qct z)).1=1 then some (M.over 2) else if (M.h.set a n (Qct z)).1=0 then some { M with h:=(M.h.set a n (Qct z)).2 } else none) else none)
   else (if a.kind=4/\(M.h.len a).2=0 then some (M.push [Qct (M.h.len a).1]) else none)
def IM.call (m:List (MFunc 6)) (M:IM) (x:Qt):Option IM:=match QbM M.top.r x.regs with
 | none=>none
 | some r=>match Q9 M.top.v x.args with
   | none=>none
   | some v=>match m[x.k.toNat]? with
     | none=>none
     | some g=>if (r.length:Int)=g.regs/\v.length=g.params.length then
      (if M.rest.length+1=40 then some (M.over 5) else some { M with top:=⟨x.k.toNat,0,0,v,r⟩,rest:=M.top::M.rest })
      else none
def IM.ins (m:List (MFunc 6)) (op:Int->Int->Int->Option Int) (M:IM) (x:Qt):Option IM :=
 if x.op=1 then some (M.push [Qct x.n])
 else if x.op=2 then (match QS M.top.v x.a with
  | none=>none
  | some a=>match QS M.top.v x.b with
    | none=>none
    | some b=>match op x.k a b with
      | none=>some (M.over 1)
      | some n=>some (M.push [Qct n]))
 else if x.op=3 then (if M.h.open_.2.1 then some (IM.push { M with h:=M.h.open_.2.2,top:={ M.top with r:=M.top.r++[M.h.open_.1.region] } } [M.h.open_.1]) else some (M.over 6))
 else if x.op=12 then (match M.inp with
  | []=>some (M.over 4)
  | n::l=>some (IM.push { M with inp:=l } [Qct n]))
 else if x.op=13 then (match QS M.top.v x.a with
  | none=>none
  | some n=>if M.out.length=2000 then some (M.over 8) else some { M with out:=M.out++[n] })
 else if x.op=14 then M.call m x
 else M.mem x
def IM.to (fn:MFunc 6) (M:IM) (t:MTo):Option IM:=match fn.blocks[t.block.toNat]? with
 | none=>none
 | some b=>match QbM M.top.r t.regs with
   | none=>none
   | some r=>match Q9 M.top.v t.args with
     | none=>none
     | some v=>if (r.length:Int)=b.regs/\v.length=b.params.length then some { M with top:=⟨M.top.f,t.block.toNat,0,v,r⟩ } else none
def IM.endd (fn:MFunc 6) (M:IM) (e:ZA):Option IM :=
 if e.op=1 then M.to fn e.yes
 else if e.op=2 then (match QS M.top.v e.a with
  | none=>none
  | some n=>if n=0 then M.to fn e.no else M.to fn e.yes)
 else (match Q9 M.top.v e.args with
  | none=>none
  | some v=>if v.length=fn.results.length then (match M.rest with
   | d::rest=>some (IM.push { M with top:=d,rest:=rest } v)
   | []=>match Qcl M.top.v e.args with
     | none=>none
     | some n=>some (IM.over { M with back:=n } 0))
   else none)
def IM.step (m:List (MFunc 6)) (op:Int->Int->Int->Option Int) (most:Nat) (M:IM):Option IM :=
 if M.fuel=most then some (M.over 7)
 else match m[M.top.f]? with
  | none=>none
  | some fn=>match fn.blocks[M.top.b]? with
    | none=>none
    | some bl=>match bl.code[M.top.i]? with
      | some x=>IM.ins m op { M with fuel:=M.fuel+1,top:={ M.top with i:=M.top.i+1 } } x
      | none=>IM.endd fn { M with fuel:=M.fuel+1 } bl.fin
def IM.start (inp:List Int) (pages:Nat):IM:=⟨Qd.new pages,⟨0,0,0,[],[]⟩,[],inp,[],[],0,0,false⟩
theorem short_of_nodup:∀ (n:Nat) (l:List Int),l.Nodup->(∀ x,x∈l->0<=x/\x<n)->l.length<=n:=by
 intro n
 induction n with
 | zero =>
   intro l _ h
   cases l with
   | nil=>simp
   | cons x r=>have:=h x (by simp);omega
 | succ n ih =>
   intro l c h
   have e:=ih (l.erase (n:Int)) (c.erase _) (fun x d=>by
    have b:=(List.Nodup.mem_erase_iff c).1 d
    have:=h x b.2
    have:=b.1
    omega)
   have:=List.length_erase (a:=(n:Int)) (l:=l)
   split at this<;>omega
structure PSt where
 pages:Nat
 ws:Nat->Int
 given:List Int
 fresh:Int
structure PSt.Ok (s:PSt):Prop where
 most:s.pages<=64
 low:0<=s.fresh
 high:s.fresh<=s.pages
 nodup:s.given.Nodup
 mem:∀ k,k∈s.given->0<=k/\k<s.fresh
theorem PSt.Ok.len {s:PSt}(h:s.Ok):(s.given.length:Int)<=s.fresh:=by
 obtain⟨n,b⟩:=Xc h.low
 have:=short_of_nodup n s.given h.nodup (fun x a=>by have:=h.mem x a;omega)
 omega
def PSt.new (pages:Nat):PSt:=⟨pages,fun _=>0,[],0⟩
theorem PSt.ok_new (pages:Nat) (h:pages<=64):(PSt.new pages).Ok:=⟨h,Int.le_refl _,by simp[PSt.new],by simp[PSt.new],by simp[PSt.new]⟩
def PSt.wipe (s:PSt) (k:Int):PSt:={ s with ws:=fun i=>if k*16<=(i:Int)/\(i:Int)<k*16+16 then 0 else s.ws i }
def Qed (xs:List Int) (x:Int):Bool:=xs.contains x
def PSt.took (s:PSt) (k:Int):Bool:=decide (0<=k)&&decide (k<s.fresh)&&!Qed s.given k
def PSt.give (s:PSt) (k:Int):PSt:=if s.took k then { s with given:=s.given++[k] } else s
def PSt.free (s:PSt):Int:=s.pages - s.fresh+s.given.length
def PSt.place (s:PSt) (k:Int):Bool:=decide (0<=k)&&decide (k<16*s.pages)
def PSt.store (s:PSt) (k:Int) (n:Int):PSt:=if s.place k then { s with ws:=fun i=>if (i:Int)=k then n else s.ws i } else s
def PSt.load (s:PSt) (k:Int):Int:=if s.place k then s.ws k.toNat else 0
def PSt.nextK (s:PSt):Int:=match s.given.getLast? with | some k=>k | none=>if s.fresh=s.pages then -1 else s.fresh
def PSt.next (s:PSt):PSt:=match s.given.getLast? with | some _=>{ s with given:=s.given.take (s.given.length - 1) } | none=>if s.fresh=s.pages then s else { s with fresh:=s.fresh+1 }
def PSt.take (s:PSt):PSt:=if s.nextK<0 then s.next else s.next.wipe s.nextK
theorem PSt.ok_wipe {s:PSt}(h:s.Ok) (k:Int):(s.wipe k).Ok:=⟨h.most,h.low,h.high,h.nodup,h.mem⟩
theorem PSt.ok_store {s:PSt}(h:s.Ok) (k n:Int):(s.store k n).Ok:=by
 unfold PSt.store;split
 ·exact⟨h.most,h.low,h.high,h.nodup,h.mem⟩
 ·exact h
theorem PSt.ok_give {s:PSt}(h:s.Ok) (k:Int):(s.give k).Ok:=by
 unfold PSt.give;split
 ·rename_i d
  simp[PSt.took,Qed] at d
  refine⟨h.most,h.low,h.high,?_,?_⟩
  ·rw[List.nodup_append]
   refine⟨h.nodup,by simp,?_⟩
   intro a g c f;simp at f;subst f
   intro e;subst e;exact d.2 g
  ·intro x b;simp at b
   rcases b with b | b
   ·exact h.mem x b
   ·subst b;exact d.1
 ·exact h
theorem PSt.ok_next {s:PSt}(h:s.Ok):s.next.Ok:=by
 unfold PSt.next;split
 ·exact⟨h.most,h.low,h.high,h.nodup.sublist (List.take_sublist _ _),fun k a=>h.mem k (List.mem_of_mem_take a)⟩
 ·split
  ·exact h
  ·refine⟨h.most,by have:=h.low;simp;omega,by have:=h.high;simp;omega,h.nodup,fun k a=>?_⟩
   have:=h.mem k a
   simp;omega
theorem PSt.ok_take {s:PSt}(h:s.Ok):s.take.Ok:=by
 unfold PSt.take;split
 ·exact PSt.ok_next h
 ·exact PSt.ok_wipe (PSt.ok_next h) _
theorem PSt.nextK_lt {s:PSt}(h:s.Ok):-1<=s.nextK/\s.nextK<s.pages:=by
 have:=h.high;have:=h.low
 unfold PSt.nextK;split
 ·rename_i k e
  have:=h.mem k (List.mem_of_getLast? e)
  omega
 ·split<;>omega
@[simp] theorem PSt.pages_wipe (s : PSt) (k : Int) : (s.wipe k).pages = s.pages := rfl
@[simp] theorem PSt.pages_next (s : PSt) : s.next.pages = s.pages := by
 unfold PSt.next;split
 ·rfl
 ·split<;>rfl
@[simp] theorem PSt.pages_take (s : PSt) : s.take.pages = s.pages := by unfold PSt.take; split <;> simp
@[simp] theorem PSt.pages_give (s : PSt) (k : Int) : (s.give k).pages = s.pages := by unfold PSt.give; split <;> rfl
@[simp] theorem PSt.pages_store (s : PSt) (k n : Int) : (s.store k n).pages = s.pages := by unfold PSt.store; split <;> rfl
theorem QjL (s:PSt) (k:Int):s.took k=true↔0<=k/\k<s.fresh/\k ∉ s.given:=by
 simp[PSt.took,Qed,and_assoc]
structure Tk (s:PSt) (T:List Int):Prop where
 nodup:T.Nodup
 mem:∀ k,k∈T↔0<=k/\k<s.fresh/\k ∉ s.given
theorem PSt.take_none {s:PSt}(b:s.Ok) (a:s.nextK<0):s.take=s:=by
 have c:s.take=s.next:=by simp[PSt.take,a]
 rw[c]
 unfold PSt.nextK at a;unfold PSt.next
 split at a
 ·rename_i k e
  have:=b.mem k (List.mem_of_getLast? e)
  omega
 ·split at a
  ·rename_i e;simp[e]
  ·have:=b.low;omega
theorem Tk.take {s:PSt}{T:List Int}(h:Tk s T) (r:s.Ok) (g:0<=s.nextK):s.nextK ∉ T/\Tk s.take (T++[s.nextK]):=by
 have u:s.take=s.next.wipe s.nextK:=by simp[PSt.take];omega
 have y:s.take.given=s.next.given:=by rw[u];rfl
 have w:s.take.fresh=s.next.fresh:=by rw[u];rfl
 have j:s.nextK ∉ T:=by
  intro x;have d:=(h.mem _).1 x;unfold PSt.nextK at d g;split at g
  ·rename_i k e
   rw[e] at d
   exact d.2.2 (List.mem_of_getLast? e)
  ·rename_i e
   rw[e] at d
   split at g
   ·omega
   ·rename_i p
    simp[p] at d
 refine⟨j,?_,fun k=>?_⟩
 ·rw[List.nodup_append]
  refine⟨h.nodup,by simp,fun a A c t e=>?_⟩
  simp at t;subst t;subst e;exact j A
 ·rw[y,w,List.mem_append,h.mem k,List.mem_singleton]
  have v:=r.low;unfold PSt.nextK at g |-;unfold PSt.next
  split at g
  ·rename_i q e
   obtain⟨i,f⟩:∃ i,s.given=i++[q]:=by
    rcases List.eq_nil_or_concat s.given with n | ⟨i,b,n⟩
    ·rw[n] at e;simp at e
    ·rw[n] at e;simp at e;exact⟨i,by simpa[e] using n⟩
   have l:=r.nodup;have m:=r.mem q (by rw[f];simp);rw[f,List.nodup_append] at l
   have o:List.take (s.given.length - 1) s.given=i:=by rw[f];simp
   simp only[o]
   rw[f]
   simp only[List.mem_append,List.mem_singleton]
   constructor
   ·rintro (⟨a,b,c⟩ | rfl)
    ·exact⟨a,b,fun h=>c (Or.inl h)⟩
    ·exact⟨m.1,m.2,fun h=>l.2.2 _ h _ (by simp) Z⟩
   ·rintro ⟨a,b,c⟩;by_cases e:k=q
    ·exact Or.inr e
    ·exact Or.inl ⟨a,b,fun h=>h.elim c e⟩
  ·rename_i e
   have z:s.given=[]:=by simpa using e
   split at g
   ·omega
   ·rename_i p
    simp only[p,z]
    simp
    omega
structure Reg where
 pages:List Int
 used:Int
structure Est where
 p:PSt
 reg:Nat->Option Reg
def Reg.left (r:Reg):Int:=if r.pages=[] then 0 else 16 - r.used
def Est.pagesAt (e:Est) (k:Nat):List Int:=match e.reg k with | some r=>r.pages | none=>[]
def Est.allTo (e:Est):Nat->List Int
 | 0=>[]
 | n+1=>e.allTo n++e.pagesAt n
def Est.all (e:Est):List Int:=e.allTo 16
def Est.set (e:Est) (k:Nat) (o:Option Reg):Est:={ e with reg:=fun j=>if j=k then o else e.reg j }
def Est.withP (e:Est) (s:PSt):Est:={ e with p:=s }
structure Est.Ok (e:Est):Prop where
 ok:e.p.Ok
 top:∀ k,16<=k->e.reg k=none
 nodup:∀ k,(e.pagesAt k).Nodup
 apart:∀ j k x,x∈e.pagesAt j->x∈e.pagesAt k->j=k
 mem:∀ x,(∃ k,x∈e.pagesAt k)↔0<=x/\x<e.p.fresh/\x ∉ e.p.given
 used:∀ k r,e.reg k=some r->0<=r.used/\r.used<=16
theorem Est.mem_allTo (e:Est) (x:Int):∀ n,x∈e.allTo n↔∃ k,k<n/\x∈e.pagesAt k
 | 0=>by simp[Est.allTo]
 | n+1=>by
   rw[Est.allTo,List.mem_append,Est.mem_allTo e x n]
   constructor
   ·rintro (⟨k,b,a⟩ | h)
    ·exact⟨k,by omega,a⟩
    ·exact⟨n,by omega,h⟩
   ·rintro ⟨k,b,a⟩;rcases Nat.lt_succ_iff_lt_or_eq.1 b with h | h
    ·exact Or.inl ⟨k,h,a⟩
    ·subst h;exact Or.inr a
theorem Est.Ok.nodup_allTo {e:Est}(h:e.Ok):∀ n,(e.allTo n).Nodup
 | 0=>by simp[Est.allTo]
 | n+1=>by
   rw[Est.allTo,List.nodup_append]
   refine⟨h.nodup_allTo n,h.nodup n,fun a g c b f=>?_⟩
   subst f;obtain⟨k,i,d⟩:=(e.mem_allTo a n).1 g
   have:=h.apart k n a d b
   omega
theorem Est.Ok.none_at {e:Est}(h:e.Ok)(a:16<=k):e.pagesAt k=[]:=by simp[Est.pagesAt,h.top k a]
theorem Est.Ok.tk {e:Est}(h:e.Ok):Tk e.p e.all:=by
 refine⟨h.nodup_allTo 16,fun x=>?_⟩
 rw[Est.all,e.mem_allTo,<-h.mem x]
 constructor
 ·rintro ⟨k,_,a⟩;exact⟨k,a⟩
 ·rintro ⟨k,a⟩;refine⟨k,?_,a⟩
  rcases Nat.lt_or_ge k 16 with b | b
  ·exact b
  ·rw[h.none_at b] at a;simp at a
theorem Est.Ok.took {e:Est}(h:e.Ok)(a:x∈e.pagesAt k):0<=x/\x<e.p.fresh/\x ∉ e.p.given:=(h.mem x).1 ⟨k,a⟩
theorem Est.Ok.low {e:Est}(h:e.Ok)(a:x∈e.pagesAt k):0<=x/\x<e.p.pages:=by
 have b:=h.took a;have c:=h.ok.high;omega
theorem Est.Ok.len {e:Est}(h:e.Ok) (k:Nat):(e.pagesAt k).length<=64:=by
 have b:=h.ok.most
 have:=short_of_nodup e.p.pages (e.pagesAt k) (h.nodup k) (fun x a=>h.low a)
 omega
theorem Est.at_some {e:Est}{r:Reg}(a:e.reg k=some r):e.pagesAt k=r.pages:=by simp[Est.pagesAt,a]
theorem Est.Ok.lenR {e:Est}(h:e.Ok){r:Reg}(a:e.reg k=some r):r.pages.length<=64:=by rw[<-Est.at_some a];exact h.len k
def Est.new (n:Nat):Est:=⟨PSt.new n,fun _=>none⟩
theorem Est.ok_new (n:Nat) (h:n<=64):(Est.new n).Ok :=
 ⟨PSt.ok_new n h,fun _ _=>rfl,fun k=>by simp[Est.new,Est.pagesAt],fun j k x a=>by simp[Est.new,Est.pagesAt] at a,
  fun x=>by simp[Est.new,Est.pagesAt,PSt.new]<;>omega,fun k r b=>by simp[Est.new] at b⟩
theorem Est.pagesAt_set (e:Est) (k:Nat) (o:Option Reg) (j:Nat):(e.set k o).pagesAt j=if j=k then (match o with | some r=>r.pages | none=>[]) else e.pagesAt j:=by
 unfold Est.pagesAt Est.set;by_cases h:j=k<;>simp[h]
def Est.has (e:Est) (k:Int):Bool:=decide (0<=k)&&decide (k<16)&&(e.reg k.toNat).isSome
theorem Est.has_true {e:Est}{k:Int}(h:e.has k=true):∃ (j:Nat) (r:Reg),k=j/\j<16/\e.reg j=some r:=by
 simp[Est.has] at h
 obtain⟨r,a⟩:=Option.isSome_iff_exists.1 h.2
 exact⟨k.toNat,r,by omega,by omega,a⟩
theorem Est.has_of {e:Est}{r:Reg}(b:j<16) (a:e.reg j=some r):e.has j=true:=by
 simp[Est.has,a];omega
theorem Est.has_none {e:Est}(a:e.reg j=none):e.has j=false:=by simp[Est.has,a]
theorem Est.has_out {e:Est}{k:Int}(h:k<0\/16<=k):e.has k=false:=by
 unfold Est.has;rcases h with h | h
 ·rw[show decide (0<=k)=false by simpa using h];rfl
 ·rw[show decide (k<16)=false by simpa using h];simp
def Qa2 (f:Nat->Option Reg) (n:Nat):Nat->Int
 | 0=>-1
 | m+1=>if (f n).isNone then (n:Int) else Qa2 f (n+1) m
def Est.openK (e:Est):Int:=Qa2 e.reg 0 16
def Est.opened (e:Est):Est:=if e.openK<0 then e else e.set e.openK.toNat (some ⟨[],0⟩)
theorem Qdd {f:Nat->Option Reg}:∀ (m n:Nat),(∀ k,n<=k->k<n+m->f k≠none)->Qa2 f n m=-1
 | 0,_,_=>rfl
 | m+1,n,h=>by
   have a:=h n Ze (by omega);rw[Qa2,Xr (by simpa using a)]
   exact Qdd m (n+1) (fun k b c=>h k (by omega) (by omega))
theorem Qcj {f:Nat->Option Reg}:∀ (m n k:Nat),(∀ j,n<=j->j<k->f j≠none)->n<=k->k<n+m->f k=none->Qa2 f n m=k
 | 0,n,k,_,h1,h2,_=>by omega
 | m+1,n,k,h,h1,h2,h3=>by
   rw[Qa2]
   by_cases e:n=k
   ·subst e;rw[Xs (by simp[h3])]
   ·have a:=h n Ze (by omega);rw[Xr (by simpa using a)]
    exact Qcj m (n+1) k (fun j c b=>h j (by omega) b) (by omega) (by omega) h3
theorem Est.open_no {e:Est}(h:∀ k,k<16->e.reg k≠none):e.openK=-1/\e.opened=e:=by
 have a:e.openK=-1:=Qdd 16 0 (fun k _ b=>h k (by omega));exact⟨a,by simp[Est.opened,a]⟩
theorem Est.open_yes {e:Est}(h:∀ j,j<k->e.reg j≠none) (d:k<16) (b:e.reg k=none):e.openK=k/\e.opened=e.set k (some ⟨[],0⟩):=by
 have a:e.openK=k:=Qcj 16 0 k (fun j _ c=>h j c) (by omega) (by omega) b;refine⟨a,?_⟩
 rw[Est.opened,a,Xr (by omega)];rfl
theorem Est.Ok.openSet {e:Est}(h:e.Ok)(m:k<16) (g:e.reg k=none):(e.set k (some ⟨[],0⟩)).Ok:=by
 have b:∀ j,(e.set k (some ⟨[],0⟩)).pagesAt j=e.pagesAt j:=fun j=>by
  rw[Est.pagesAt_set]
  by_cases d:j=k
  ·subst d;simp[Est.pagesAt,g]
  ·simp[d]
 refine⟨h.ok,fun j l=>?_,fun j=>by rw[b];exact h.nodup j,fun i j x f c=>?_,fun x=>?_,fun j r a=>?_⟩
 ·simp only[Est.set];rw[Xr (by omega)];exact h.top j l
 ·rw[b] at f c;exact h.apart i j x f c
 ·simp only[b];exact h.mem x
 ·simp only[Est.set] at a
  split at a
  ·cases a;simp
  ·exact h.used j r a
theorem Qbk (f:Nat->Option Reg) (m:Nat):(∀ k,k<m->f k≠none)\/∃ k,k<m/\f k=none/\∀ j,j<k->f j≠none:=by
 induction m with
 | zero=>exact Or.inl fun k c=>by omega
 | succ m ih =>
   rcases ih with h | ⟨k,a,d,e⟩
   ·by_cases b:f m=none
    ·exact Or.inr ⟨m,by omega,b,h⟩
    ·refine Or.inl fun k c=>?_;rcases Nat.lt_succ_iff_lt_or_eq.1 c with a | a
     ·exact h k a
     ·subst a;exact b
   ·exact Or.inr ⟨k,by omega,d,e⟩
theorem Est.Ok.opened {e:Est}(h:e.Ok):e.opened.Ok:=by
 rcases Qbk e.reg 16 with a | ⟨k,a,b,c⟩
 ·rw[(Est.open_no a).2];exact h
 ·rw[(Est.open_yes c a b).2];exact h.openSet a b
@[simp] theorem Est.p_set (e : Est) (k : Nat) (o : Option Reg) : (e.set k o).p = e.p := rfl
@[simp] theorem Est.p_opened (e : Est) : e.opened.p = e.p := by unfold Est.opened; split <;> rfl
def PSt.giveAll (s:PSt) (l:List Int):PSt:=l.foldl PSt.give s
@[simp] theorem PSt.pages_giveAll (l : List Int) : ∀ s : PSt, (s.giveAll l).pages = s.pages := by
 induction l with
 | nil=>intro s;rfl
 | cons x r ih=>intro s;show (PSt.giveAll (s.give x) r).pages=_;rw[ih];simp
theorem PSt.giveAll_snoc (s:PSt) (l:List Int) (x:Int):s.giveAll (l++[x])=(s.giveAll l).give x:=by simp[PSt.giveAll]
theorem PSt.ok_giveAll (l:List Int):∀ {s:PSt},s.Ok->(s.giveAll l).Ok:=by
 induction l with
 | nil=>intro s h;exact h
 | cons x r ih=>intro s h;exact ih (PSt.ok_give h x)
theorem PSt.giveAll_eq (l:List Int):∀ s:PSt,l.Nodup->(∀ x,x∈l->0<=x/\x<s.fresh/\x ∉ s.given)->s.giveAll l={ s with given:=s.given++l }:=by
 induction l with
 | nil=>intro s _ _;simp[PSt.giveAll]
 | cons x r ih =>
   intro s c d
   have e:s.give x={ s with given:=s.given++[x] }:=by
    have:=(QjL s x).2 (d x (by simp))
    simp[PSt.give,this]
   show PSt.giveAll (s.give x) r=_;rw[e,ih]
   ·simp
   ·exact(List.nodup_cons.1 c).2
   ·intro y f;have b:=d y (by simp[f]);refine⟨b.1,b.2.1,?_⟩
    simp only[List.mem_append,List.mem_singleton]
    rintro (a | a)
    ·exact b.2.2 a
    ·subst a;exact(List.nodup_cons.1 c).1 f
def Est.shut (e:Est) (k:Int):Est:=if e.has k then (e.set k.toNat none).withP (e.p.giveAll (e.pagesAt k.toNat)) else e
theorem Est.shut_yes {e:Est}{r:Reg}(b:j<16) (a:e.reg j=some r):e.shut j=(e.set j none).withP (e.p.giveAll r.pages):=by
 simp[Est.shut,Est.has_of b a,Est.at_some a]
theorem Est.shut_no {e:Est}{k:Int}(h:e.has k=false):e.shut k=e:=by simp[Est.shut,h]
@[simp] theorem Est.pages_shut (e : Est) (k : Int) : (e.shut k).p.pages = e.p.pages := by
 unfold Est.shut;split<;>simp[Est.withP]
theorem Est.Ok.shutAt {e:Est}(h:e.Ok){r:Reg}(o:e.reg j=some r):((e.set j none).withP (e.p.giveAll r.pages)).Ok:=by
 have d:=Est.at_some o;have t:=PSt.giveAll_eq r.pages e.p (by rw[<-d];exact h.nodup j) (fun x n=>h.took (k:=j) (by rw[d];exact n))
 have f:∀ i,((e.set j none).withP (e.p.giveAll r.pages)).pagesAt i=if i=j then [] else e.pagesAt i:=fun i=>by
  show (e.set j none).pagesAt i=_;rw[Est.pagesAt_set]
 refine⟨PSt.ok_giveAll _ h.ok,fun i b=>?_,fun i=>?_,fun i k x c a=>?_,fun x=>?_,fun i q s=>?_⟩
 ·show (if i=j then none else e.reg i)=none;split
  ·rfl
  ·exact h.top i b
 ·rw[f];split
  ·simp
  ·exact h.nodup i
 ·rw[f] at c a
  split at c
  ·simp at c
  ·split at a
   ·simp at a
   ·exact h.apart i k x c a
 ·show _↔0<=x/\x<(e.p.giveAll r.pages).fresh/\x ∉ (e.p.giveAll r.pages).given;simp only[f]
  rw[t]
  simp only[List.mem_append]
  constructor
  ·rintro ⟨i,b⟩;split at b
   ·simp at b
   ·rename_i g
    have c:=h.took b;refine⟨c.1,c.2.1,?_⟩
    rintro (a | a)
    ·exact c.2.2 a
    ·rw[<-d] at a;exact g (h.apart i j x b a)
  ·rintro ⟨c,a,l⟩;obtain⟨i,b⟩:=(h.mem x).2 ⟨c,a,fun m=>l (Or.inl m)⟩
   refine⟨i,?_⟩
   rw[Xr]
   ·exact b
   ·rintro rfl;rw[d] at b
    exact l (Or.inr b)
 ·have:(if i=j then none else e.reg i)=some q:=s
  split at this
  ·cases this
  ·exact h.used i q this
theorem Est.Ok.shut {e:Est}(h:e.Ok) (k:Int):(e.shut k).Ok:=by
 cases hh:e.has k with
 | false=>rw[Est.shut_no hh];exact h
 | true =>
   obtain⟨j,r,rfl,b,a⟩:=Est.has_true hh
   rw[Est.shut_yes b a];exact h.shutAt a
def Reg.more (r:Reg) (n:Int):Bool:=decide (r.left<n)
def Est.getCode (e:Est) (k n:Int):Int :=
 if e.has k then (if n<1\/16<n then 1 else match e.reg k.toNat with | some r=>if r.more n=true/\e.p.nextK<0 then 14 else 0 | none=>15) else 15
def Est.getAt (e:Est) (k n:Int):Int :=
 if e.getCode k n=0 then (match e.reg k.toNat with | some r=>if r.more n=true then 16*e.p.nextK else 16*r.pages.getLastD 0+r.used | none=>0) else 0
def Est.got (e:Est) (k n:Int):Est :=
 if e.getCode k n=0 then (match e.reg k.toNat with | some r=>if r.more n=true then (e.set k.toNat (some ⟨r.pages++[e.p.nextK],n⟩)).withP e.p.take else e.set k.toNat (some ⟨r.pages,r.used+n⟩) | none=>e) else e
theorem Est.get_none {e:Est}{k n:Int}(h:e.has k=false):e.getCode k n=15/\e.getAt k n=0/\e.got k n=e:=by
 have a:e.getCode k n=15:=by simp[Est.getCode,h]
 exact⟨a,by simp[Est.getAt,a],by simp[Est.got,a]⟩
theorem Est.get_range {e:Est}{k n:Int}(h:e.has k=true) (b:n<1\/16<n):e.getCode k n=1/\e.getAt k n=0/\e.got k n=e:=by
 have a:e.getCode k n=1:=by simp[Est.getCode,h,b]
 exact⟨a,by simp[Est.getAt,a],by simp[Est.got,a]⟩
theorem Est.get_full {e:Est}{r:Reg}{n:Int}(f:j<16) (b:e.reg j=some r) (c:¬ (n<1\/16<n)) (d:r.more n=true) (g:e.p.nextK<0):e.getCode j n=14/\e.getAt j n=0/\e.got j n=e:=by
 have a:e.getCode j n=14:=by simp[Est.getCode,Est.has_of f b,c,b,d,g]
 exact⟨a,by simp[Est.getAt,a],by simp[Est.got,a]⟩
theorem Est.get_more {e:Est}{r:Reg}{n:Int}(f:j<16) (a:e.reg j=some r) (d:¬ (n<1\/16<n)) (b:r.more n=true) (g:¬ e.p.nextK<0) :
 e.getCode j n=0/\e.getAt j n=16*e.p.nextK/\e.got j n=(e.set j (some ⟨r.pages++[e.p.nextK],n⟩)).withP e.p.take:=by
 have c:e.getCode j n=0:=by simp[Est.getCode,Est.has_of f a,d,a,b,g]
 exact⟨c,by simp[Est.getAt,c,a,b],by simp[Est.got,c,a,b]⟩
theorem Est.get_room {e:Est}{r:Reg}{n:Int}(f:j<16) (a:e.reg j=some r) (d:¬ (n<1\/16<n)) (b:r.more n=false) :
 e.getCode j n=0/\e.getAt j n=16*r.pages.getLastD 0+r.used/\e.got j n=e.set j (some ⟨r.pages,r.used+n⟩):=by
 have c:e.getCode j n=0:=by simp[Est.getCode,Est.has_of f a,d,a,b]
 exact⟨c,by simp[Est.getAt,c,a,b],by simp[Est.got,c,a,b]⟩
theorem Reg.room {r:Reg}{n:Int}(h:r.more n=false) (c:1<=n):r.pages≠[]/\n<=16 - r.used:=by
 have b:¬ r.left<n:=by simpa[Reg.more] using h
 unfold Reg.left at b;by_cases a:r.pages=[]
 ·rw[Xs a] at b;omega
 ·rw[Xr a] at b;exact⟨a,by omega⟩
theorem Reg.more_iff {r:Reg}{n:Int}(a:1<=n):r.more n=true↔r.pages=[]\/16 - r.used<n:=by
 simp only[Reg.more,Reg.left]
 by_cases h:r.pages=[]
 ·simp[h];omega
 ·simp[h]
theorem Est.Ok.roomSet {e:Est}(h:e.Ok){r:Reg}(a:e.reg j=some r){n:Int}(o:0<=n) (c:n<=16 - r.used):(e.set j (some ⟨r.pages,r.used+n⟩)).Ok:=by
 have b:∀ i,(e.set j (some ⟨r.pages,r.used+n⟩)).pagesAt i=e.pagesAt i:=fun i=>by
  rw[Est.pagesAt_set]
  by_cases g:i=j
  ·subst g;simp[Est.pagesAt,a]
  ·simp[g]
 have m:=h.used j r a;refine⟨h.ok,fun i d=>?_,fun i=>by rw[b];exact h.nodup i,fun i k x c f=>?_,fun x=>?_,fun i q l=>?_⟩
 ·show (if i=j then some _ else e.reg i)=none;rw[Xr]
  ·exact h.top i d
  ·rintro rfl;rw[h.top i d] at a;cases a
 ·rw[b] at c f;exact h.apart i k x c f
 ·simp only[b];exact h.mem x
 ·have:(if i=j then some ⟨r.pages,r.used+n⟩ else e.reg i)=some q:=l
  split at this
  ·cases this;simp only;omega
  ·exact h.used i q this
theorem Est.Ok.moreSet {e:Est}(h:e.Ok){r:Reg}(w:e.reg j=some r){n:Int}(F:0<=n) (g:n<=16) (E:0<=e.p.nextK):((e.set j (some ⟨r.pages++[e.p.nextK],n⟩)).withP e.p.take).Ok:=by
 have t:=Est.at_some w;obtain⟨y,u⟩:=h.tk.take h.ok E
 have b:∀ i,e.p.nextK ∉ e.pagesAt i:=fun i s=>by
  refine y ((h.tk.mem _).2 ?_);exact h.took s
 have z:∀ i,((e.set j (some ⟨r.pages++[e.p.nextK],n⟩)).withP e.p.take).pagesAt i=if i=j then e.pagesAt j++[e.p.nextK] else e.pagesAt i:=fun i=>by
  show (e.set j (some ⟨r.pages++[e.p.nextK],n⟩)).pagesAt i=_;rw[Est.pagesAt_set,t]
 have f:∀ i x,x∈(if i=j then e.pagesAt j++[e.p.nextK] else e.pagesAt i)↔x∈e.pagesAt i\/(i=j/\x=e.p.nextK):=fun i x=>by
  by_cases o:i=j
  ·subst o;simp
  ·simp[o]
 refine⟨PSt.ok_take h.ok,fun i s=>?_,fun i=>?_,fun i k x g d=>?_,fun x=>?_,fun i q D=>?_⟩
 ·show (if i=j then some _ else e.reg i)=none;rw[Xr]
  ·exact h.top i s
  ·rintro rfl;rw[h.top i s] at w;cases w
 ·rw[z];split
  ·rw[List.nodup_append]
   refine⟨h.nodup j,by simp,fun a C c A o=>?_⟩
   simp at A;subst A;subst o;exact b j C
  ·exact h.nodup i
 ·rw[z,f] at g d
  rcases g with g | ⟨g,v⟩
  ·rcases d with d | ⟨d,m⟩
   ·exact h.apart i k x g d
   ·subst m;exact absurd g (b i)
  ·rcases d with d | ⟨d,m⟩
   ·subst v;exact absurd d (b k)
   ·omega
 ·have:=u.mem x
  show _↔0<=x/\x<e.p.take.fresh/\x ∉ e.p.take.given;rw[<-this,List.mem_append,List.mem_singleton,h.tk.mem x,<-h.mem x]
  simp only[z,f]
  constructor
  ·rintro ⟨i,l | ⟨l,B⟩⟩
   ·exact Or.inl ⟨i,l⟩
   ·exact Or.inr B
  ·rintro (⟨i,l⟩ | l)
   ·exact⟨i,Or.inl l⟩
   ·exact⟨j,Or.inr ⟨Z,l⟩⟩
 ·have:(if i=j then some ⟨r.pages++[e.p.nextK],n⟩ else e.reg i)=some q:=D
  split at this
  ·cases this;simp only;omega
  ·exact h.used i q this
theorem Est.Ok.got {e:Est}(h:e.Ok) (k n:Int):(e.got k n).Ok:=by
 cases hh:e.has k with
 | false=>rw[(Est.get_none hh).2.2];exact h
 | true =>
   by_cases b:n<1\/16<n
   ·rw[(Est.get_range hh b).2.2];exact h
   ·obtain⟨j,r,rfl,c,a⟩:=Est.has_true hh
    cases hm:r.more n with
    | false =>
      rw[(Est.get_room c a b hm).2.2]
      exact h.roomSet a (by omega) (Reg.room hm (by omega)).2
    | true =>
      by_cases d:e.p.nextK<0
      ·rw[(Est.get_full c a b hm d).2.2];exact h
      ·rw[(Est.get_more c a b hm d).2.2]
       exact h.moreSet a (by omega) (by omega) (by omega)
@[simp] theorem Est.pages_got (e : Est) (k n : Int) : (e.got k n).p.pages = e.p.pages := by
 unfold Est.got;split
 ·split
  ·split<;>simp[Est.withP]
  ·rfl
 ·rfl
def Zc (f:Nat->Option Reg):Nat->Int
 | 0=>0
 | n+1=>if (f n).isSome then Zc f n+1 else Zc f n
def Est.count (e:Est):Int:=Zc e.reg 16
theorem Qa5 (f:Nat->Option Reg):∀ n:Nat,0<=Zc f n/\Zc f n<=n
 | 0=>by simp[Zc]
 | n+1=>by
   have:=Qa5 f n
   rw[Zc];split<;>omega
def Est.store (e:Est) (k n:Int):Est:=e.withP (e.p.store k n)
theorem Est.Ok.store {e:Est}(h:e.Ok) (k n:Int):(e.store k n).Ok:=by
 have a:(e.p.store k n).fresh=e.p.fresh/\(e.p.store k n).given=e.p.given:=by unfold PSt.store;split<;>simp
 refine⟨PSt.ok_store h.ok k n,h.top,h.nodup,h.apart,fun x=>?_,h.used⟩
 show _↔0<=x/\x<(e.p.store k n).fresh/\x ∉ (e.p.store k n).given;rw[a.1,a.2]
 exact h.mem x
theorem PSt.nextK_iff {s:PSt}(h:s.Ok):s.nextK<0↔s.free=0:=by
 have d:=h.low;have g:=h.high;unfold PSt.nextK PSt.free;split
 ·rename_i k e
  have f:=h.mem k (List.mem_of_getLast? e);have a:=h.len
  have:0<s.given.length:=List.length_pos_of_mem (List.mem_of_getLast? e)
  omega
 ·rename_i e
  have b:s.given=[]:=by simpa using e
  rw[b]
  split
  ·rename_i c;simp;omega
  ·rename_i c;simp;omega
structure Run where
 region:Int
 at_:Int
 n:Int
def Qbd (e:Est) (q:Run):Prop :=
 ∃ (j:Nat) (r:Reg) (p:Int),q.region=j/\e.reg j=some r/\p∈r.pages/\16*p<=q.at_/\q.at_+q.n<=16*p+16/\0<=q.n/\(p=r.pages.getLastD 0->q.at_+q.n<=16*p+r.used)
def QmT (e:Est):Prop:=∀ (j:Nat) (r:Reg),e.reg j=some r->r.pages≠[]->∀ i:Nat,16*r.pages.getLastD 0+r.used<=i->(i:Int)<16*r.pages.getLastD 0+16->e.p.ws i=0
structure Ap (e:Est) (rs:List Run):Prop where
 run:∀ q,q∈rs->Qbd e q
 clear:QmT e
theorem Ap.opened {e:Est}{g:List Run}(h:Ap e g):Ap e.opened g:=by
 rcases Qbk e.reg 16 with d | ⟨k,d,i,o⟩
 ·rw[(Est.open_no d).2];exact h
 ·rw[(Est.open_yes o d i).2]
  have c:∀ j r,e.reg j=some r->(e.set k (some ⟨[],0⟩)).reg j=some r:=fun j r b=>by
   show (if j=k then _ else e.reg j)=_;rw[Xr]
   ·exact b
   ·rintro rfl;rw[i] at b;cases b
  refine⟨fun q n=>?_,fun j r b f=>?_⟩
  ·obtain⟨j,r,p,s,l,m⟩:=h.run q n
   exact⟨j,r,p,s,c j r l,m⟩
  ·have a:(if j=k then some ⟨[],0⟩ else e.reg j)=some r:=b;split at a
   ·cases a;exact absurd Z f
   ·exact h.clear j r a f
def Qlb (rs:List Run) (k:Int):List Run:=rs.filter (fun q=>q.region != k)
theorem QdW (l:List Int):∀ s:PSt,(s.giveAll l).ws=s.ws:=by
 induction l with
 | nil=>intro s;rfl
 | cons x r ih =>
   intro s;show (PSt.giveAll (s.give x) r).ws=_;rw[ih]
   unfold PSt.give;split<;>rfl
theorem Ap.shut {e:Est}{g:List Run}(h:Ap e g) (k:Int):Ap (e.shut k) (Qlb g k):=by
 cases hh:e.has k with
 | false =>
   rw[Est.shut_no hh]
   exact⟨fun q d=>h.run q (List.mem_filter.1 d).1,h.clear⟩
 | true =>
   obtain⟨i,v,rfl,n,b⟩:=Est.has_true hh
   rw[Est.shut_yes n b]
   refine⟨fun q d=>?_,fun j r u o=>?_⟩
   ·obtain⟨c,f⟩:=List.mem_filter.1 d
    obtain⟨j,r,p,l,s,t⟩:=h.run q c
    refine⟨j,r,p,l,?_,t⟩
    show (if j=i then none else e.reg j)=some r;rw[Xr]
    ·exact s
    ·rintro rfl;simp[l] at f
   ·have a:(if j=i then none else e.reg j)=some r:=u;split at a
    ·cases a
    ·intro m x w;show (e.p.giveAll v.pages).ws m=0;rw[QdW]
     exact h.clear j r a o m x w
def PSt.fill (s:PSt) (at_:Int) (m:Nat):PSt:={ s with ws:=fun i=>if at_<=(i:Int)/\(i:Int)<at_+m then 7 else s.ws i }
theorem Qcz (h:l≠[]):l.getLastD 0∈l:=by
 rcases List.eq_nil_or_concat l with a | ⟨b,k,a⟩
 ·exact absurd a h
 ·rw[a];simp
structure QlX (e:Est) (rs:List Run) (k n:Int):Prop where
 low:0<=e.getAt k n
 high:e.getAt k n+n<=16*e.p.pages
 pos:1<=n
 top:n<=16
 page:Qed (if (e.got k n).has k then (e.got k n).pagesAt k.toNat else []) (e.getAt k n / 16)=true
 room:e.getAt k n%16+n<=16
 apart:∀ q,q∈rs->¬ (e.getAt k n<q.at_+q.n/\q.at_<e.getAt k n+n)
 zero:∀ m:Nat,(m:Int)<n->(e.got k n).p.ws (e.getAt k n+m).toNat=0
 ap:Ap ((e.got k n).withP ((e.got k n).p.fill (e.getAt k n) n.toNat)) (rs++[⟨k,e.getAt k n,n⟩])
theorem Qj5 {e:Est}{L:List Run}{r:Reg}{n:Int}(c:e.Ok) (h:Ap e L) (H:j<16) (t:e.reg j=some r) (R:¬ (n<1\/16<n)) (F:r.more n=false):QlX e L j n:=by
 obtain⟨W,o,A⟩:=Est.get_room H t R F
 obtain⟨s,N⟩:=Reg.room F (by omega)
 have a:=Qcz s;have g:=Est.at_some t;have M:=c.low (k:=j) (x:=r.pages.getLastD 0) (by rw[g];exact a);have T:=c.used j r t;have P:(e.set j (some ⟨r.pages,r.used+n⟩)).has j=true:=Est.has_of H (r:=⟨r.pages,r.used+n⟩) (by simp[Est.set]);have Q:(e.set j (some ⟨r.pages,r.used+n⟩)).pagesAt j=r.pages:=by rw[Est.pagesAt_set];simp
 have G:∀ i,(e.set j (some ⟨r.pages,r.used+n⟩)).reg i=if i=j then some ⟨r.pages,r.used+n⟩ else e.reg i:=fun i=>rfl
 refine⟨?_,?_,by omega,by omega,?_,?_,?_,?_,?_⟩
 ·rw[o];omega
 ·rw[o];omega
 ·rw[o,A,P]
  simp only[if_true,Int.toNat_natCast,Q]
  have:(16*r.pages.getLastD 0+r.used) / 16=r.pages.getLastD 0:=by omega
  rw[this]
  simpa[Qed] using a
 ·rw[o];omega
 ·rw[o]
  intro q d;obtain⟨i,I,p,D,f,w,B,C,E,v⟩:=h.run q d
  intro U;by_cases l:p=r.pages.getLastD 0
  ·have:i=j:=c.apart i j p (by rw[Est.at_some f];exact w) (by rw[g,l];exact a)
   subst this;rw[t] at f;cases f
   have:=v l
   omega
  ·omega
 ·rw[o,A]
  intro m S;show e.p.ws _=0;refine h.clear j r t s _ ?_ ?_<;>omega
 ·rw[o,A]
  refine⟨fun q d=>?_,fun i q d u=>?_⟩
  ·rcases List.mem_append.1 d with d | d
   ·obtain⟨i,I,p,D,f,w,B,C,E,v⟩:=h.run q d
    by_cases l:i=j
    ·subst l;rw[t] at f;cases f
     exact⟨i,⟨r.pages,r.used+n⟩,p,D,by simp[Est.withP,Est.set],w,B,C,E,fun y=>by have:=v y;simp only;omega⟩
    ·exact⟨i,I,p,D,by simp[Est.withP,Est.set,l,f],w,B,C,E,v⟩
   ·have b:=List.mem_singleton.1 d;subst b;refine⟨j,⟨r.pages,r.used+n⟩,r.pages.getLastD 0,Z,by simp[Est.withP,Est.set],a,?_,?_,?_,fun _=>?_⟩<;>simp only<;>omega
  ·have b:(if i=j then some ⟨r.pages,r.used+n⟩ else e.reg i)=some q:=d;intro m J K;show (if 16*r.pages.getLastD 0+r.used<=(m:Int)/\(m:Int)<16*r.pages.getLastD 0+r.used+n.toNat then 7 else e.p.ws m)=0;split at b
   ·cases b
    simp only at J K
    rw[Xr (by omega)]
    exact h.clear j r t s m (by omega) (by omega)
   ·rename_i l
    have z:=Qcz u;have V:q.pages.getLastD 0≠r.pages.getLastD 0:=fun y=>l (c.apart i j (q.pages.getLastD 0) (by rw[Est.at_some b];exact z) (by rw[g,y];exact a));have O:=c.used i q b;rw[Xr (by omega)]
    exact h.clear i q b u m J K
theorem QkW {e:Est}{J:List Run}{r:Reg}{n:Int}(b:e.Ok) (h:Ap e J) (F:j<16) (C:e.reg j=some r) (R:¬ (n<1\/16<n)) (L:r.more n=true) (O:¬ e.p.nextK<0):QlX e J j n:=by
 obtain⟨W,d,o⟩:=Est.get_more F C R L O
 have K:=(PSt.nextK_lt b.ok).2;have y:=Est.at_some C;obtain⟨D,-⟩:=b.tk.take b.ok (by omega)
 have c:∀ i,e.p.nextK ∉ e.pagesAt i:=fun i P=>D ((b.tk.mem _).2 (b.took P))
 have k:∀ i:Nat,e.p.take.ws i=if 16*e.p.nextK<=(i:Int)/\(i:Int)<16*e.p.nextK+16 then 0 else e.p.ws i:=fun i=>by
  have d:e.p.take=e.p.next.wipe e.p.nextK:=by simp[PSt.take];omega
  have o:e.p.next.ws=e.p.ws:=by
   unfold PSt.next;split
   ·rfl
   ·split<;>rfl
  rw[d]
  show (if e.p.nextK*16<=(i:Int)/\(i:Int)<e.p.nextK*16+16 then 0 else e.p.next.ws i)=_;rw[o]
  by_cases g:16*e.p.nextK<=(i:Int)/\(i:Int)<16*e.p.nextK+16
  ·rw[Xs g,Xs (by omega)]
  ·rw[Xr g,Xr (by omega)]
 have N:((e.set j (some ⟨r.pages++[e.p.nextK],n⟩)).withP e.p.take).has j=true:=Est.has_of F (r:=⟨r.pages++[e.p.nextK],n⟩) (by simp[Est.set,Est.withP])
 have Q:((e.set j (some ⟨r.pages++[e.p.nextK],n⟩)).withP e.p.take).pagesAt j=r.pages++[e.p.nextK]:=by
  show (e.set j (some ⟨r.pages++[e.p.nextK],n⟩)).pagesAt j=_;rw[Est.pagesAt_set];simp
 generalize V:e.p.nextK=q at *;refine⟨?_,?_,by omega,by omega,?_,?_,?_,?_,?_⟩
 ·rw[d];omega
 ·rw[d];omega
 ·rw[d,o,N]
  simp only[if_true,Int.toNat_natCast,Q]
  have:(16*q) / 16=q:=by omega
  rw[this]
  simp[Qed]
 ·rw[d];omega
 ·rw[d]
  intro u f;obtain⟨i,G,p,A,l,t,x,z,B,E⟩:=h.run u f
  intro T
  have:p≠q:=fun g=>c i (by rw[Est.at_some l,<-g];exact t)
  omega
 ·rw[d,o]
  intro m S;show e.p.take.ws _=0;rw[k,Xs (by omega)]
 ·rw[d,o]
  refine⟨fun u f=>?_,fun i u f s=>?_⟩
  ·rcases List.mem_append.1 f with f | f
   ·obtain⟨i,G,p,A,l,t,x,z,B,E⟩:=h.run u f
    by_cases g:i=j
    ·subst g;rw[C] at l;cases l
     refine⟨i,⟨r.pages++[q],n⟩,p,A,by simp[Est.withP,Est.set],by simp[t],x,z,B,fun v=>?_⟩
     simp at v
     exact absurd (by rw[y,<-v];exact t) (c i)
    ·exact⟨i,G,p,A,by simp[Est.withP,Est.set,g,l],t,x,z,B,E⟩
   ·have a:=List.mem_singleton.1 f;subst a;refine⟨j,⟨r.pages++[q],n⟩,q,Z,by simp[Est.withP,Est.set],by simp,?_,?_,?_,fun _=>?_⟩<;>simp only<;>omega
  ·have a:(if i=j then some ⟨r.pages++[q],n⟩ else e.reg i)=some u:=f;intro m H I;show (if 16*q<=(m:Int)/\(m:Int)<16*q+n.toNat then 7 else e.p.take.ws m)=0;split at a
   ·cases a
    simp at H I
    rw[Xr (by omega),k,Xs (by omega)]
   ·rename_i g
    have w:=Qcz s;have U:u.pages.getLastD 0≠q:=fun v=>c i (by rw[Est.at_some a,<-v];exact w);have M:=b.used i u a;rw[Xr (by omega),k,Xr (by omega)]
    exact h.clear i u a s m H I
theorem Qlk {e:Est}{g:List Run}(a:e.Ok) (h:Ap e g) (k n:Int) (d:e.getCode k n=0):QlX e g k n:=by
 cases hh:e.has k with
 | false=>rw[(Est.get_none hh).1] at d;omega
 | true =>
   by_cases b:n<1\/16<n
   ·rw[(Est.get_range hh b).1] at d;omega
   ·obtain⟨j,r,rfl,f,c⟩:=Est.has_true hh
    cases hm:r.more n with
    | false=>exact Qj5 a h f c b hm
    | true =>
      by_cases i:e.p.nextK<0
      ·rw[(Est.get_full f c b hm i).1] at d;omega
      ·exact QkW a h f c b hm i
structure RFr where
 f:Nat
 b:Nat
 i:Nat
 v:List Int
structure RM where
 e:Est
 top:RFr
 rest:List RFr
 inp:List Int
 out:List Int
 back:List Int
 fuel:Nat
 fin:Int
 done:Bool
def iAt (v:List Int) (k:Int):Option Int:=if k<0 then none else v[k.toNat]?
def QaA (v:List Int):List Int->Option (List Int)
 | []=>some []
 | k::l=>match iAt v k with
   | none=>none
   | some x=>match QaA v l with
     | none=>none
     | some xs=>some (x::xs)
def RM.over (R:RM) (e:Int):RM:={ R with done:=true,fin:=e }
def RM.on (R:RM) (l:List Int):RM:={ R with top:={ R.top with v:=R.top.v++l,i:=R.top.i+1 } }
def PSt.puts (s:PSt) (k:Int):List Int->PSt
 | []=>s
 | n::l=>(s.store k n).puts (k+1) l
def RM.thing (R:RM) (h size:Int) (l:List Int):RM :=
 if R.e.getCode h size=0 then ({ R with e:=(R.e.got h size).withP ((R.e.got h size).p.puts (R.e.getAt h size) l) }:RM).on [R.e.getAt h size] else R.over 6
def RM.load (R:RM) (k:Int):Int:=R.e.p.load k
def RM.stored (R:RM) (k n:Int):RM:={ R with e:=R.e.withP (R.e.p.store k n) }
def RM.part (R:RM) (x:Qt):Option RM:=match iAt R.top.v x.a with
 | none=>none
 | some a =>
   if x.op=6 then some (R.on [R.load (wrap64 (a+x.k))])
   else if x.op=7 then (match iAt R.top.v x.b with
    | none=>none
    | some y=>some ((R.stored (wrap64 (a+x.k)) y).on []))
   else if x.op=9 then (match iAt R.top.v x.b with
    | none=>none
    | some n=>if 0<=n/\n<R.load a then some (R.on [R.load (wrap64 (wrap64 (a+1)+n))]) else some (R.over 2))
   else if x.op=10 then (match iAt R.top.v x.b with
    | none=>none
    | some n=>match iAt R.top.v x.c with
      | none=>none
      | some z=>if 0<=n/\n<R.load a then some ((R.stored (wrap64 (wrap64 (a+1)+n)) z).on []) else some (R.over 2))
   else if x.op=11 then some (R.on [R.load a])
   else some (R.on [])
def RM.ins (op:Int->Int->Int->Option Int) (R:RM) (x:Qt):Option RM :=
 if x.op=1 then some (R.on [x.n])
 else if x.op=2 then (match iAt R.top.v x.a with
  | none=>none
  | some a=>match iAt R.top.v x.b with
    | none=>none
    | some b=>match op x.k a b with
      | none=>some (R.over 1)
      | some n=>some (R.on [n]))
 else if x.op=3 then (if 0<=R.e.openK then some (({ R with e:=R.e.opened }:RM).on [R.e.openK]) else some (R.over 6))
 else if x.op=4 then (match iAt R.top.v x.a with
  | none=>none
  | some a=>some (({ R with e:=R.e.shut a }:RM).on []))
 else if x.op=5 then (match iAt R.top.v x.a with
  | none=>none
  | some a=>match QaA R.top.v x.args with
    | none=>none
    | some l=>some (R.thing a (if l.length=0 then 1 else l.length) l))
 else if x.op=8 then (match iAt R.top.v x.a with
  | none=>none
  | some a=>match iAt R.top.v x.b with
    | none=>none
    | some n=>if 0<=n/\n<=15 then some (R.thing a (n+1) [n]) else some (R.over 3))
 else if x.op=12 then (match R.inp with
  | []=>some (R.over 4)
  | n::l=>some (({ R with inp:=l }:RM).on [n]))
 else if x.op=13 then (match iAt R.top.v x.a with
  | none=>none
  | some n=>if R.out.length<2000 then some (({ R with out:=R.out++[n] }:RM).on []) else some (R.over 8))
 else if x.op=14 then (if R.rest.length+1<40 then (match QaA R.top.v x.args with
  | none=>none
  | some l=>some { R with top:=⟨x.k.toNat,0,0,l⟩,rest:={ R.top with i:=R.top.i+1 }::R.rest }) else some (R.over 5))
 else R.part x
def RM.to (R:RM) (t:MTo):Option RM:=match QaA R.top.v t.args with
 | none=>none
 | some l=>some { R with top:=⟨R.top.f,t.block.toNat,0,l⟩ }
def RM.endd (R:RM) (e:ZA):Option RM :=
 if e.op=3 then (match QaA R.top.v e.args with
  | none=>none
  | some l=>match R.rest with
    | []=>some { R with done:=true,fin:=0,back:=l }
    | d::rest=>some { R with top:={ d with v:=d.v++l },rest:=rest })
 else if e.op=2 then (match iAt R.top.v e.a with
  | none=>none
  | some n=>if n=0 then R.to e.no else R.to e.yes)
 else R.to e.yes
def RM.step (m:List (MFunc 6)) (op:Int->Int->Int->Option Int) (most:Nat) (R:RM):Option RM :=
 if R.fuel=most then some (R.over 7)
 else match m[R.top.f]? with
  | none=>none
  | some fn=>match fn.blocks[R.top.b]? with
    | none=>none
    | some bl=>match bl.code[R.top.i]? with
      | some x=>RM.ins op { R with fuel:=R.fuel+1 } x
      | none=>RM.endd { R with fuel:=R.fuel+1 } bl.fin
def RM.start (inp:List Int) (pages:Nat):RM:=⟨Est.new pages,⟨0,0,0,[]⟩,[],inp,[],[],0,0,false⟩
def RM.steps (m:List (MFunc 6)) (op:Int->Int->Int->Option Int) (most:Nat):Nat->RM->Option RM
 | 0,R=>some R
 | n+1,R=>if R.done then some R else match R.step m op most with
   | none=>none
   | some R'=>R'.steps m op most n
theorem XG:type_of% @Nat.not_lt_zero:=@Nat.not_lt_zero
def Qn (w:World) (b:Nat) (O:Nat->Prop) (s:PSt):Prop :=
 ∃ gw n vg,w.heap[b]?=some (.cells #[.slice (some ⟨gw,0,none⟩) n n,vg,Iv s.fresh] 134 (0,0))/\w.rowIs gw 2 n (fun i=>Iv (s.ws i)) /\
  Row w O 3 vg s.given/\O b/\O gw/\n=16*s.pages/\s.Ok
theorem Qfb (w:World) (b:Nat) (O:Nat->Prop) (s:PSt) (h:Qn w b O s) :
 Calls prog 70 #[Pv b 0] w fun e w'=>e=.returned (Iv s.pages)/\w'=w:=by
 obtain⟨j,n,m,i,o,p,q,c,f,a⟩:=h
 have k:w.cell? ⟨b,0,none⟩=some (.slice (some ⟨j,0,none⟩) n n):=Qb i 0 _ Z;have l:=a.most;have E:Hid ((n:Int) / 16=s.pages):=by show _=_;omega
 have d:n<=16*s.pages:=by omega
 have g:16*s.pages<=n:=by omega
 clear f;go_enter func70,ntmps70
 go_wp2
 go_ret;exact⟨by rw[E.out];rfl,Z⟩
theorem Qdg (h:∀ j,j<xs.length->xs.getD j 0≠x):Qed xs x=false:=by
 unfold Qed;rw[Bool.eq_false_iff]
 intro b;simp at b
 obtain⟨j,a,e⟩:=List.getElem_of_mem b
 exact h j a (by simp[List.getD,a,e])
theorem Qds (a:j<xs.length) (h:xs.getD j 0=x):Qed xs x=true:=by
 unfold Qed;simp
 simp[List.getD,a] at h
 rw[<-h];exact List.getElem_mem a
theorem Qi4 (w:World) (O:Nat->Prop) (v:Value) (xs:List Int) (x:Int) (h:Row w O 3 v xs) (G:xs.length<=1000) :
 Calls prog 288 #[v,Iv x] w fun e w'=>(∃ r:Int,e=.returned (Iv r)/\decide (0<=r)=Qed xs x)/\w'=w:=by
 obtain⟨a,F,rfl,C,u⟩:=h.form
 have p:∀ i,i<xs.length->∃ g,a=some ⟨g,0,none⟩:=by
  intro i s
  cases a with
  | none=>rw[(C Z).1] at s;simp at s
  | some g=>exact⟨g.block,by rw[<-(u g Z).1]⟩
 have l:∀ g i,a=some ⟨g,0,none⟩->i<xs.length->w.cell? ⟨g,i,none⟩=some (Iv (xs.getD i 0)):=by
  intro g i e s;subst e;obtain⟨_,_,_,_,c,l,_,z⟩:=u _ Z
  exact Qb l i _ (z i s)
 clear u C h;obtain⟨b,f⟩:∃ b,xs.length=b:=⟨_,Z⟩
 rw[f] at G p l |-
 have D:Hid (xs.length=b):=f;clear f;go_enter func288,ntmps288
 go_wp2
 go_loop [8] (fun i=>∃ k:Nat,k<=b/\i=Iv k/\∀ j,j<k->xs.getD j 0≠x) (fun i=>b - (intOf i).toNat)
 case atStart=>exact⟨0,Xb _,Z,fun j q=>absurd q (XG _)⟩
 case round =>
  obtain⟨k,H,rfl,d⟩:=hrel
  by_cases n:k<b
  ·obtain⟨g,rfl⟩:=p k n
   have B:=l g k Z n;clear l p;obtain⟨y,o⟩:∃ y,y=xs.getD k 0:=⟨_,Z⟩
   rw[<-o] at B
   by_cases m:x=y
   ·have E:Hid (Qed xs x=true):=Qds (by have:=D.out;omega) (o.symm.trans m.symm);have t:(x==y)=true:=by simpa using m
    clear m o d;go_wp2
    go_ret;exact⟨⟨k,Z,by rw[E.out];simp⟩,Z⟩
   ·have t:(x==y)=false:=by simpa using m
    have N:Hid (∀ j,j<k+1->xs.getD j 0≠x):=fun j q=>by
     rcases Nat.lt_succ_iff_lt_or_eq.1 q with A | A
     ·exact d j A
     ·subst A;rw[<-o];exact fun e=>m e.symm
    clear m d o;go_wp2
    go_round
    case rel=>exact⟨k+1,by omega,by go_num,N.out⟩
    case measure=>simp[intOf];omega
  ·have E:Hid (Qed xs x=false):=Qdg fun j q=>d j (by have:=D.out;omega);clear d l p;go_wp2
   go_ret;exact⟨⟨-1,Z,by rw[E.out];rfl⟩,Z⟩
theorem QeE (w:World) (O:Nat->Prop) (v:Value) (xs:List Int) (x:Int) (h:Row w O 3 v xs) (b:xs.length<=1000) :
 Calls prog 279 #[v,Iv x] w fun e w'=>e=.returned (.bool (Qed xs x))/\w'=w:=by
 have C:Hid (Calls prog 288 #[v,Iv x] w fun e w'=>(∃ r:Int,e=.returned (Iv r)/\decide (0<=r)=Qed xs x)/\w'=w):=Qi4 w O v xs x h b;clear h;go_enter func279,ntmps279
 go_wp2_with fail
 refine(C.out).mono ?_
 rintro e w' ⟨⟨r,rfl,a⟩,rfl⟩;have R:Hid (decide (0<=r)=Qed xs x):=a;clear a;go_wp2
 all_goals
  go_ret;refine⟨?_,Z⟩
  rw[<-R.out];simp[*]
theorem Qn.setGiven {s:PSt}(h:Qn w b O s)(d:Row w O 3 v xs) (i:PSt.Ok { s with given:=xs }) :
 Qn (w.setCell ⟨b,1,none⟩ v) b O { s with given:=xs }:=by
 obtain⟨p,n,q,j,k,t,o,a,m,_⟩:=h
 obtain⟨r,f,_,_⟩:=id k
 refine⟨p,n,v,?_,k.setOther (Ne.symm (Zb j f (by decide))) _,?_,o,a,m,i⟩
 ·rw[Qh j];rfl
 ·refine d.keep (fun g e=>?_) d.2;obtain⟨c,l⟩:=d.block e
  exact Xd _ _ _ _ (Zb l j (by decide))
theorem Qn.setFresh {s:PSt}(h:Qn w b O s) (f:Int) (j:PSt.Ok { s with fresh:=f }) :
 Qn (w.setCell ⟨b,2,none⟩ (Iv f)) b O { s with fresh:=f }:=by
 obtain⟨r,n,m,k,l,e,q,a,p,_⟩:=h
 obtain⟨t,i,_,_⟩:=id l
 refine⟨r,n,m,?_,l.setOther (Ne.symm (Zb k i (by decide))) _,?_,q,a,p,j⟩
 ·rw[Qh k];rfl
 ·refine e.keep (fun g d=>?_) e.2;obtain⟨c,o⟩:=e.block d
  exact Xd _ _ _ _ (Zb o k (by decide))
theorem Qn.ownB {s:PSt}(h:Qn w b O s):O b:=by
 obtain⟨j,n,d,i,g,e,c,a,f,_⟩:=h
 exact c
theorem Qn.ok {s:PSt}(h:Qn w b O s):s.Ok:=by
 obtain⟨k,n,d,i,g,e,j,c,f,a⟩:=h
 exact a
theorem Qn.cells {s:PSt}(h:Qn w b O s):∃ gw n a len cap,
 w.cell? ⟨b,0,none⟩=some (.slice (some ⟨gw,0,none⟩) n n)/\w.cell? ⟨b,1,none⟩=some (.slice a len cap)/\w.cell? ⟨b,2,none⟩=some (Iv s.fresh)/\(∀ i,w.frozen? ⟨b,i,none⟩=false) /\
 Hid (n=16*s.pages/\len=s.given.length/\Row w O 3 (.slice a len cap) s.given):=by
 obtain⟨gw,n,j,c,k,d,l,e,f,g⟩:=h
 obtain⟨a,cap,rfl,_,_⟩:=d.form
 exact⟨gw,n,a,s.given.length,cap,Qb c 0 _ Z,Qb c 1 _ Z,Qb c 2 _ Z,fun i=>Qj c i,f,Z,d⟩
theorem QfU (w:World) (b:Nat) (O:Nat->Prop) (s:PSt) (k:Int) (h:Qn w b O s) :
 Calls prog 253 #[Pv b 0,Iv k] w fun e w'=>e=.returned (.bool (s.took k))/\w'=w:=by
 obtain⟨q,n,a,c,f,m,p,o,_,R⟩:=h.cells
 have g:=h.ok.len;have l:=h.ok.most;have j:=h.ok.high;have C:Hid (Calls prog 279 #[.slice a c f,Iv k] w fun e w'=>e=.returned (.bool (Qed s.given k))/\w'=w):=QeE w O _ s.given k R.out.2.2 (by omega);clear h;by_cases d:0<=k
 ·by_cases i:k<s.fresh
  ·have E:Hid (s.took k=!Qed s.given k):=by show _=_;simp[PSt.took,d,i]
   cases hc:Qed s.given k
   all_goals
    rw[hc] at C E
    clear hc;go_enter func253,ntmps253
    go_wp2_with (go_at_call 279;refine(C.out).mono ?_;rintro e w' ⟨rfl,rfl⟩)
    go_ret;exact⟨by rw[E.out];rfl,Z⟩
  ·have E:Hid (s.took k=false):=by show _=_;simp[PSt.took,d,i]
   go_enter func253,ntmps253
   go_wp2
   go_ret;exact⟨by rw[E.out];rfl,Z⟩
 ·have E:Hid (s.took k=false):=by show _=_;simp[PSt.took,d]
  go_enter func253,ntmps253
  go_wp2
  go_ret;exact⟨by rw[E.out];rfl,Z⟩
theorem Qm2 (w:World) (b:Nat) (O:Nat->Prop) (s:PSt) (h:Qn w b O s) :
 Calls prog 35 #[Pv b 0] w fun e w'=>e=.returned (Iv s.free)/\∃ m,w'=w.drewN m:=by
 have C:Hid (∀ m,Calls prog 70 #[Pv b 0] (w.drewN m) fun e w'=>e=.returned (Iv s.pages)/\w'=w.drewN m):=fun m=>Qfb (w.drewN m) b O s h;obtain⟨q,n,a,c,k,l,p,o,_,R⟩:=h.cells
 have d:=h.ok.len;have j:=h.ok.most;have i:=h.ok.high;have g:=h.ok.low;have f:c<=s.given.length:=by have:=R.out.2.1;omega
 have E:Hid (s.free=s.pages - s.fresh+c):=by show _=_;rw[PSt.free,R.out.2.1]
 clear h;go_enter func35,ntmps35
 go_wp2_with fail
 go_quiet ((go_at_call 70;exact Calls.quiet_of_same (C.out _)))
 go_wp2
 go_ret;refine⟨?_,_,Z⟩
 rw[E.out];rfl
theorem QjX (w:World) (b:Nat) (O:Nat->Prop) (s:PSt) (h:Qn w b O s) :
 Calls prog 291 #[Pv b 0] w fun e w'=>e=.returned (Iv s.nextK)/\Qn w' b O s.next/\Qz O O w w':=by
 have q:=h.ownB;have H:Hid (Qn w b O s):=h;obtain⟨Q,n,a,o,v,P,U,T,A,R⟩:=h.cells
 have W:=A 1;have S:=A 2;clear A;have i:=h.ok.len;have M:=h.ok.most;have N:=h.ok.high;have K:=h.ok.low;have j:o<=s.given.length:=by have:=R.out.2.1;omega
 have r:s.given.length<=o:=by have:=R.out.2.1;omega
 rcases List.eq_nil_or_concat s.given with d | ⟨l,k,f⟩
 ·have y:o=0:=by rw[d] at j;simpa using j
  have t:s.given.getLast?=none:=by rw[d];rfl
  subst y;have C:Hid (∀ m,Calls prog 70 #[Pv b 0] (w.drewN m) fun e w'=>e=.returned (Iv s.pages)/\w'=w.drewN m):=fun m=>Qfb (w.drewN m) b O s h;by_cases c:s.fresh=s.pages
  ·have E:Hid (s.nextK=-1/\s.next=s):=by constructor<;>simp[PSt.nextK,PSt.next,t,c]
   have p:(s.fresh==(s.pages:Int))=true:=by simpa using c
   clear h d t j r i c;go_enter func291,ntmps291
   go_wp2_with fail
   go_quiet ((go_at_call 70;exact Calls.quiet_of_same (C.out _)))
   go_wp2
   go_ret;refine⟨?_,?_,(Qz.refl O _).drewN _⟩
   ·rw[E.out.1];rfl
   ·rw[E.out.2];exact H.out
  ·have E:Hid (s.nextK=s.fresh/\s.next={ s with fresh:=s.fresh+1 }):=by constructor<;>simp[PSt.nextK,PSt.next,t,c]
   have B:Hid (Qn (w.setCell ⟨b,2,none⟩ (Iv (s.fresh+1))) b O { s with fresh:=s.fresh+1 }):=h.setFresh _ (by rw[<-E.out.2];exact PSt.ok_next h.ok);have p:(s.fresh==(s.pages:Int))=false:=by simpa using c
   have J:s.fresh<s.pages:=by omega
   clear h d t j r i c;go_enter func291,ntmps291
   go_wp2_with fail
   go_quiet ((go_at_call 70;exact Calls.quiet_of_same (C.out _)))
   go_wp2
   go_ret;refine⟨?_,?_,?_⟩
   ·rw[E.out.1];simp
   ·rw[E.out.2];exact B.out
   ·exact((Qz.refl O _).drewN _).setCell q _
 ·have t:s.given.getLast?=some k:=by rw[f];simp
  have z:s.given.length=l.length+1:=by rw[f];simp
  have x:o=l.length+1:=by omega
  subst x;have E:Hid (s.nextK=k/\s.next={ s with given:=s.given.take (s.given.length - 1) }):=by constructor<;>simp[PSt.nextK,PSt.next,t]
  obtain⟨g,L,-,u,-⟩:=R.out.2.2.head (by omega)
  subst L
  have V:w.cell? ⟨g,l.length,none⟩=some (Iv k):=by
   have:=R.out.2.2.cell l.length (by omega)
   rw[this,f];simp[List.getD]
  have G:=R.out.2.2.init l.length (by omega)
  have B:Hid (Qn (w.setCell ⟨b,1,none⟩ (.slice (some ⟨g,0,none⟩) l.length v)) b O { s with given:=s.given.take (s.given.length - 1) }):=by
   have F:s.given.length - 1=l.length:=by omega
   rw[F]
   exact h.setGiven G (by have:=PSt.ok_next h.ok;rw[E.out.2,F] at this;exact this)
  have D:l.length+1<=v:=by omega
  have I:l.length<=64:=by omega
  generalize l.length=m at *;clear h j r i f z G t u;go_enter func291,ntmps291
  go_wp2
  go_ret;refine⟨?_,?_,?_⟩
  ·rw[E.out.1];rfl
  ·rw[E.out.2];exact B.out
  ·exact(Qz.refl O _).setCell q _
def noughts:List Value:=List.replicate 16 (Iv 0)
theorem Qn.wiped {s:PSt}{a:Nat}{l:Value}(r:w.heap[b]?=some (.cells #[.slice (some ⟨a,0,none⟩) n n,l,Iv s.fresh] 134 (0,0)))
 (q:w.rowIs a 2 n (fun i=>Iv (s.ws i))) (m:Row w O 3 l s.given) (v:O b) (f:O a) (u:n=16*s.pages) (p:s.Ok) (k:Nat) :
 Qn (w.setCells a (k*16) noughts) b O (s.wipe k):=by
 obtain⟨x,d,_,_⟩:=id q
 have o:b≠a:=Zb r d (by decide);refine⟨a,n,l,?_,?_,?_,v,f,u,PSt.ok_wipe p _⟩
 ·rw[QE o];exact r
 ·refine(Qdw (Iv 0) 16 (k*16) _ _ q).congr fun j y=>?_
  by_cases e:k*16<=j/\j<k*16+16
  ·rw[Xs e];simp only[PSt.wipe];rw[Xs (by omega)]
  ·rw[Xr e];simp only[PSt.wipe];rw[Xr (by omega)]
 ·refine m.keep (fun g h=>?_) m.2;obtain⟨c,t⟩:=m.block h
  exact QE (Zb t d (by decide)) _ _ _
theorem under_int64s:prog.underlying 25=some (.slice 2):=by kernel_rfl
theorem under_ints:prog.underlying 76=some (.slice 3):=by kernel_rfl
theorem Qg0 (w:World):(zeroValue 2).run prog w=.ok (Iv 0) w:=by kernel_rfl
theorem info_int64:(prog.info? 2).map (fun i=>(i.zero,i.size,i.bytes))=some (some (Iv 0),1,8):=by kernel_rfl
theorem info_int:(prog.info? 3).map (fun i=>(i.zero,i.size,i.bytes))=some (some (Iv 0),1,8):=by kernel_rfl
theorem QkL (w:World) (b:Nat) (O:Nat->Prop) (s:PSt) (k:Nat) (h:Qn w b O s) (z:k<s.pages) :
 Calls prog 292 #[Pv b 0,Iv k] w fun e w'=>e=.returned (.tuple #[])/\Qn w' b O (s.wipe k)/\Qz O O w w':=by
 obtain⟨f,n,y,m,i,q,u,a,l,d⟩:=h
 have x:w.cell? ⟨b,0,none⟩=some (.slice (some ⟨f,0,none⟩) n n):=Qb m 0 _ Z;have E:Hid (Qn (w.setCells f (k*16) noughts) b O (s.wipe k)):=Qn.wiped m i q u a l d k;have t:=d.most
 have o:∀ g c,(Builtin.clear_ #[25] g #[.slice (some ⟨f,k*16,none⟩) ((k+1)*16 - k*16) c]).run prog w=.ok (.tuple #[]) (w.setCells f (k*16) noughts):=by
  rw[show (k+1)*16 - k*16=16 by omega]
  exact fun g c=>Lib.run_clear_slice w _ _ g _ under_int64s Qg0 Z Z f (k*16) 16 c (by omega) (fun j v=>by rw[i.cell (by omega)];rfl) (fun j v=>i.frozen _)
 have p:n<=16*s.pages:=by omega
 have r:16*s.pages<=n:=by omega
 clear l;go_enter func292,ntmps292
 go_wp2
 go_end0
 exact⟨Z,E.out,(Qz.refl O _).setCells a _ _ _⟩
theorem QgH (w:World) (b:Nat) (O:Nat->Prop) (s:PSt) (h:Qn w b O s) :
 Calls prog 289 #[Pv b 0] w fun e w'=>e=.returned (Iv s.nextK)/\Qn w' b O s.take/\Qz O O w w':=by
 have l:=PSt.nextK_lt h.ok;have C:Hid (Calls prog 291 #[Pv b 0] w fun e w'=>e=.returned (Iv s.nextK)/\Qn w' b O s.next/\Qz O O w w'):=QjX w b O s h;clear h;obtain⟨k,a⟩:∃ k,s.nextK=k:=⟨_,Z⟩
 rw[a] at C l |-
 by_cases c:k<0
 ·have E:Hid (s.take=s.next):=by show _=_;simp[PSt.take,a,c]
  clear a;go_enter func289,ntmps289
  go_wp2_with fail
  refine(C.out).mono ?_
  rintro e w' ⟨rfl,f,d⟩;go_wp2
  go_ret;exact⟨Z,by rw[E.out];exact f,d⟩
 ·have E:Hid (s.take=s.next.wipe k):=by show _=_;simp[PSt.take,a,c]
  obtain⟨m,rfl⟩:=Xc (show 0<=k by omega)
  clear a;go_enter func289,ntmps289
  go_wp2_with fail
  refine(C.out).mono ?_
  rintro e w' ⟨rfl,f,d⟩;go_wp2_with fail
  refine(QkL w' b O s.next m f (by simp;omega)).mono ?_
  rintro e j ⟨rfl,i,g⟩;go_wp2
  go_ret;exact⟨Z,by rw[E.out];exact i,d.trans g⟩
def Q4 (O:Nat->Prop) (w w':World):Nat->Prop:=fun k=>(O k\/w.heap.size<=k)/\k<w'.heap.size
theorem Qie {s:PSt}{k:Int}{r:Nat}{l:Value}{o:Obj}(B:w.heap[b]?=some (.cells #[.slice (some ⟨r,0,none⟩) n n,l,Iv s.fresh] 134 (0,0)))
 (M:w.rowIs r 2 n (fun i=>Iv (s.ws i))) (A:Row w O 3 l s.given) (L:O b) (I:O r) (K:n=16*s.pages) (F:PSt.Ok { s with given:=s.given++[k] })
 (Q:w1.ownsRow 0 3 1 (.slice (some ⟨g,0,none⟩) (s.given.length+1) cap) (s.given.length+1) (s.given.map (Value.int .i64)++[Iv k]))
 (a:(w.alloc o).grownBy w1 l.ownBlock) (t:l.ownBlock=some g\/g=w.heap.size+1) (D:g<w1.heap.size) :
 w1.cell? ⟨b,1,none⟩=some l/\w1.frozen? ⟨b,1,none⟩=false/\Qn (w1.setCell ⟨b,1,none⟩ (.slice (some ⟨g,0,none⟩) (s.given.length+1) cap)) b (Q4 O w w1) { s with given:=s.given++[k] } /\
 Qz O (Q4 O w w1) w (w1.setCell ⟨b,1,none⟩ (.slice (some ⟨g,0,none⟩) (s.given.length+1) cap)):=by
 have y:=XC B
 have u:l.ownBlock≠some b:=fun e=>by
  obtain⟨c,E⟩:=A.block e
  exact absurd Z (Zb E B (by decide))
 obtain⟨R,m,_,_⟩:=id M
 have v:=XC m
 have J:l.ownBlock≠some r:=fun e=>by
  obtain⟨c,E⟩:=A.block e
  exact absurd Z (Zb E m (by decide))
 have d:∀ x,x<w.heap.size->l.ownBlock≠some x->w1.heap[x]?=w.heap[x]?:=fun x j H =>
  (a.block x (by simp;omega) (fun e=>H e.symm)).trans (Below.heap_alloc _ _ _ j)
 have q:=(d b y u).trans B;have P:w.heap.size+1<=w1.heap.size:=by have:=a.size;simpa using this
 have z:∀ x,O x\/w.heap.size<=x->x<w1.heap.size->Q4 O w w1 x:=fun x h C=>⟨h,C⟩;have f:=A.pushed (o:=o) Q t D (Q4 O w w1) z;refine⟨Qb q 1 _ Z,Qj q 1,?_,?_⟩
 ·have G:b≠g:=by
   intro e;subst e;rcases t with C | C
   ·exact u C
   ·omega
  refine⟨r,n,.slice (some ⟨g,0,none⟩) (s.given.length+1) cap,?_,?_,?_,z _ (Or.inl L) (by omega),z _ (Or.inl I) (by omega),K,F⟩
  ·rw[Qh q];rfl
  ·refine(M.of_block (d r v J)).setOther ?_ _
   exact Ne.symm (Zb B m (by decide))
  ·refine f.keep (fun x j=>?_) f.2;simp[Value.ownBlock] at j;subst j
   exact Xd _ _ _ _ (Ne.symm G)
 ·have N:Qz O (Q4 O w w1) w w1:=by
   refine⟨a.os,a.tape,a.output,by omega,fun x j K=>?_,fun x j=>j.1⟩
   exact d x j (fun e=>K (A.2 x e))
  exact N.setCell (p:=⟨b,1,none⟩) (z b (Or.inl L) (by omega)) _
theorem Qj2 (w:World) (b:Nat) (O:Nat->Prop) (s:PSt) (k:Int) (h:Qn w b O s) :
 Calls prog 218 #[Pv b 0,Iv k] w fun e w'=>e=.returned (.bool (s.took k))/\Qn w' b (Q4 O w w') (s.give k)/\Qz O (Q4 O w w') w w':=by
 have C:Hid (Calls prog 253 #[Pv b 0,Iv k] w fun e w'=>e=.returned (.bool (s.took k))/\w'=w):=QfU w b O s k h
 cases ht:s.took k with
 | false =>
   rw[ht] at C
   have E:Hid (s.give k=s):=by show _=_;simp[PSt.give,ht]
   have H:Hid (Qn w b O s):=h;clear h ht;go_enter func218,ntmps218
   go_wp2_with (go_at_call 253;refine(C.out).mono ?_;rintro e w' ⟨rfl,rfl⟩)
   go_ret;refine⟨Z,?_,?_⟩
   ·rw[E.out]
    obtain⟨M,n,K,t,x,p,F,r,z,u⟩:=H.out
    exact⟨M,n,K,t,x,p.keep (fun _ _=>rfl) (fun g v=>⟨Or.inl (p.2 g v),p.lt v⟩),⟨Or.inl F,XC t⟩,⟨Or.inl r,x.lt⟩,z,u⟩
   ·exact⟨Z,Z,Z,Ze,fun _ _ _=>rfl,fun k V=>V.1⟩
 | true =>
   rw[ht] at C
   have j:=PSt.ok_give h.ok k;have E:Hid (s.give k={ s with given:=s.given++[k] }):=by show _=_;simp[PSt.give,ht]
   have y:=h.ok.len;have R:=h.ok.most;have T:=h.ok.high;obtain⟨M,n,K,t,x,p,F,r,z,u⟩:=h
   have U:w.cell? ⟨b,1,none⟩=some K:=Qb t 1 _ Z;obtain⟨a,q,rfl,_,_⟩:=p.form
   have l:=p.1;obtain⟨S,W,J,B,G⟩:=info_parts info_int
   have P:Hid (∀ g c d,d.ownsRow 0 3 1 (.slice (some ⟨g,0,none⟩) (s.given.length+1) c) (s.given.length+1) (s.given.map (Value.int .i64)++[Iv k]) ->
    (w.alloc (.cells #[Iv k] 3)).grownBy d (Value.slice a s.given.length q).ownBlock->((Value.slice a s.given.length q).ownBlock=some g\/g=w.heap.size+1)->g<d.heap.size ->
    d.cell? ⟨b,1,none⟩=some (.slice a s.given.length q)/\d.frozen? ⟨b,1,none⟩=false/\Qn (d.setCell ⟨b,1,none⟩ (.slice (some ⟨g,0,none⟩) (s.given.length+1) c)) b (Q4 O w d) (s.give k) /\
    Qz O (Q4 O w d) w (d.setCell ⟨b,1,none⟩ (.slice (some ⟨g,0,none⟩) (s.given.length+1) c))):=by
    intro g c d A f o m;rw[E.out]
    exact Qie t x p F r z (by rw[E.out] at j;exact j) A f o m
   obtain⟨i,L⟩:∃ i,s.given.length=i:=⟨_,Z⟩
   rw[L] at U l y P
   clear t x p z L j ht E;go_enter func218,ntmps218
   go_wp2_with (first
    | (go_at_call 253;refine(C.out).mono ?_;rintro e w' ⟨rfl,I⟩;have I:=I.symm;subst I)
    | (at_builtin;refine wpList_append_lies _ Z (.tmp 13) (.tmp 15) 76 Z 0 3 S (.int .i64 0) 1 8 under_ints W J B G Z (by decide) _ _ _ Z (l.alloc _) ⟨w.heap.size,0,none⟩ 1 1 [.int .i64 k] Z Z (Qgz _ _ _) (Qc6 _) (by decide) (by unfold maxLen;omega) (by omega) (Xb _) (w.heap.size+1) (by simp) ?_))
   intro g c d A f o m;obtain⟨X,d2,N,Q⟩:=P.out g c d A f o m
   have D:Hid (Qn (d.setCell ⟨b,1,none⟩ (.slice (some ⟨g,0,none⟩) (i+1) c)) b (Q4 O w d) (s.give k)/\Qz O (Q4 O w d) w (d.setCell ⟨b,1,none⟩ (.slice (some ⟨g,0,none⟩) (i+1) c))):=⟨N,Q⟩;clear N Q A f o m l P;go_wp2
   go_ret;refine⟨Z,?_,?_⟩
   ·have e:Q4 O w (d.setCell ⟨b,1,none⟩ (.slice (some ⟨g,0,none⟩) (i+1) c))=Q4 O w d:=by unfold Q4;simp
    rw[e];exact D.out.1
   ·have e:Q4 O w (d.setCell ⟨b,1,none⟩ (.slice (some ⟨g,0,none⟩) (i+1) c))=Q4 O w d:=by unfold Q4;simp
    rw[e];exact D.out.2
theorem Xy:type_of% @bodyPost_ret:=@bodyPost_ret
theorem Qn.step {P P':Nat->Prop}{s:PSt}(h:Qn w b O s) (k:Qz P P' w w') (d:∀ x,O x->¬ P x):Qn w' b O s:=by
 obtain⟨e,n,i,m,f,j,g,a,l,c⟩:=h
 exact⟨e,n,i,k.keep m (d b g),f.of_block (k.block e f.lt (d e a)),j.step k d,g,a,l,c⟩
theorem Qz.of_alloc (P:Nat->Prop) (w:World) (o:Obj):Qz P P w (w.alloc o):=(Qz.refl P w).alloc o
theorem QmE (w:World) (n:Int) (h:n<0\/64<n) :
 Calls prog 109 #[Iv n] w fun e w'=>e=.returned (.tuple #[.pointer none,.agg #[Iv 1,Iv (-1)]])/\Below w.heap.size w w':=by
 rcases h with h | h
 ·go_enter func109,ntmps109
  go_wp2
  exact Xy (v:=.tuple #[.pointer none,.agg #[Iv 1,Iv (-1)]]) (by simp[results,results109,go_sem]) Z ⟨Z,(Zr.alloc Ze _)⟩
 ·have a:¬ n<0:=by omega
  go_enter func109,ntmps109
  go_wp2
  exact Xy (v:=.tuple #[.pointer none,.agg #[Iv 1,Iv (-1)]]) (by simp[results,results109,go_sem]) Z ⟨Z,(Zr.alloc Ze _)⟩
theorem Qkv (w:World) (n:Nat) (h:n<=64) (o:Obj):Qn (((w.alloc o).alloc (.cells (madeCells #[Iv 0] (n*16)) 2)).alloc (.cells #[.slice (some ⟨w.heap.size+1,0,none⟩) (n*16) (n*16),Nv,Iv 0] 134)) (w.heap.size+1+1)
 (fun x=>w.heap.size<=x/\x<(((w.alloc o).alloc (.cells (madeCells #[Iv 0] (n*16)) 2)).alloc (.cells #[.slice (some ⟨w.heap.size+1,0,none⟩) (n*16) (n*16),Nv,Iv 0] 134)).heap.size) (PSt.new n):=by
 refine⟨w.heap.size+1,n*16,Nv,?_,?_,Row.nil _ _ _,by simp<;>omega,by simp<;>omega,by simp[PSt.new]<;>omega,PSt.ok_new n h⟩
 ·have:=Qe ((w.alloc o).alloc (.cells (madeCells #[Iv 0] (n*16)) 2)) #[.slice (some ⟨w.heap.size+1,0,none⟩) (n*16) (n*16),Nv,Iv 0] 134
  simp only[World.size_alloc] at this
  exact this
 ·have:=(World.rowIs_made (w.alloc o) (Iv 0) (n*16) 2).alloc (.cells #[.slice (some ⟨w.heap.size+1,0,none⟩) (n*16) (n*16),Nv,Iv 0] 134)
  simp only[World.size_alloc] at this
  exact this
theorem QlG (w:World) (n:Nat) (h:n<=64) :
 Calls prog 109 #[Iv n] w fun e w'=>∃ b,e=.returned (.tuple #[Pv b 0,.agg #[Iv 0,Iv 0]])/\Qn w' b (fun x=>w.heap.size<=x/\x<w'.heap.size) (PSt.new n)/\Below w.heap.size w w':=by
 have a:=run_make_row' (P:=prog) 25 2 (Iv 0) 8 under_int64s info_int64 Z .i64 .i64 (n*16) (by omega) (by omega);rw[show ((n*16:Nat):Int)=(n:Int)*16 by omega] at a
 go_enter func109,ntmps109
 go_wp2
 exact Xy (v:=.tuple #[Pv (w.heap.size+1+1) 0,.agg #[Iv 0,Iv 0]]) (by simp[results,results109,go_sem]) Z
  ⟨_,Z,Qkv w n h _,((Zr.alloc Ze _).alloc (by simp) _).alloc (by simp;omega) _⟩
def QaM (w:World) (g:Nat) (O:Nat->Prop) (r:Reg):Prop :=
 ∃ v,w.heap[g]?=some (.cells #[v,Iv r.left] 285 (0,0))/\Row w O 3 v r.pages/\O g
theorem QaM.step {w w':World}{g:Nat}{O P P':Nat->Prop}{r:Reg}(h:QaM w g O r) (k:Qz P P' w w') (b:∀ x,O x->¬ P x):QaM w' g O r:=by
 obtain⟨v,c,d,a⟩:=h
 exact⟨v,k.keep c (b g a),d.step k b,a⟩
theorem Row.mono {w:World}{O O':Nat->Prop}(h:Row w O t v xs) (b:∀ x,O x->x<w.heap.size->O' x):Row w O' t v xs:=⟨h.1,fun g a=>b g (h.2 g a) (h.lt a)⟩
theorem QaM.mono {w:World}{g:Nat}{O O':Nat->Prop}{r:Reg}(h:QaM w g O r) (b:∀ x,O x->x<w.heap.size->O' x):QaM w g O' r:=by
 obtain⟨v,a,d,c⟩:=h
 exact⟨v,a,d.mono b,b g c (XC a)⟩
theorem Qn.mono {w:World}{b:Nat}{O O':Nat->Prop}{s:PSt}(h:Qn w b O s) (c:∀ x,O x->x<w.heap.size->O' x):Qn w b O' s:=by
 obtain⟨g,n,i,f,e,j,l,a,k,d⟩:=h
 exact⟨g,n,i,f,e,j.mono c,c b l (XC f),c g a e.lt,k,d⟩
def QaX (o:Option Reg) (g:Nat):Value:=.pointer (match o with | some _=>some ⟨g,0,none⟩ | none=>none)
def Qmd (bp:Nat) (reg:Nat->Option Reg) (g:Nat->Nat):Nat->Value:=fun i=>if i=0 then Pv bp 0 else QaX (reg (i - 1)) (g (i - 1))
structure Zw (w:World) (b:Nat) (O:Nat->Prop) (e:Est) (L:Nat->Nat) (bp:Nat) (g:Nat->Nat):Prop where
 row:w.rowIs b 73 17 (Qmd bp e.reg g)
 own:L b=1
 pool:Qn w bp (fun x=>L x=2) e.p
 reg:∀ k r,e.reg k=some r->QaM w (g k) (fun x=>L x=k+3) r
 all:∀ x,L x≠0->O x/\x<w.heap.size
def QU (w:World) (b bp:Nat) (O:Nat->Prop) (e:Est):Prop:=∃ L g,Zw w b O e L bp g
def Qdk (w:World) (b bp:Nat) (O:Nat->Prop) (e:Est):Prop:=QU w b bp O e/\e.Ok
def QbR (L:Nat->Nat) (c:Nat) (w w':World):Nat->Nat:=fun x=>if L x=c\/(w.heap.size<=x/\x<w'.heap.size) then c else L x
section
variable {w w':World}{b bp:Nat}{O O':Nat->Prop}{e:Est}{L:Nat->Nat}{g:Nat->Nat}{c:Nat}
theorem Zj (e:∀ x,L x≠0->O x/\x<w.heap.size)(b:d≠c) (f:d≠0) (x:Nat):QbR L c w w' x=d↔L x=d:=by
 unfold QbR;constructor
 ·intro h;split at h
  ·exact absurd h.symm b
  ·exact h
 ·intro h;rw[Xr]
  ·exact h
  ·rintro (a | a)
   ·omega
   ·have:=(e x (by omega)).2;omega
theorem QeG (d:∀ x,L x≠0->O x/\x<w.heap.size) (k:Qz (fun x=>L x=c) O' w w') (x:Nat) (b:O' x) (a:x<w'.heap.size):QbR L c w w' x=c:=by
 unfold QbR;rw[Xs]
 rcases k.own x b with h | h
 ·exact Or.inl h
 ·exact Or.inr ⟨h,a⟩
theorem Qda (d:∀ x,L x≠0->O x/\x<w.heap.size) (e:c≠0) (f:w.heap.size<=w'.heap.size) (x:Nat) (b:QbR L c w w' x≠0):Q4 O w w' x/\x<w'.heap.size:=by
 have a:(O x\/w.heap.size<=x)/\x<w'.heap.size:=by
  unfold QbR at b;split at b
  ·rename_i h
   rcases h with h | h
   ·have:=d x (by omega);exact⟨Or.inl this.1,by omega⟩
   ·exact⟨Or.inr h.1,h.2⟩
  ·have:=d x b;exact⟨Or.inl this.1,by omega⟩
 exact⟨a,a.2⟩
theorem QcQ (b:∀ x,L x≠0->O x/\x<w.heap.size) (e:c≠0) (k:Qz (fun x=>L x=c) O' w w'):Qz O (Q4 O w w') w w' :=
 ⟨k.os,k.tape,k.output,k.size,fun x a d=>k.block x a (fun h=>d (b x (by show L x≠0;rw[h];exact e)).1),fun x a=>a.1⟩
theorem Zw.stepPool (h:Zw w b O e L bp g){d:PSt}(j:Qn w' bp O' d) (a:Qz (fun x=>L x=2) O' w w') :
 Zw w' b (Q4 O w w') (e.withP d) (QbR L 2 w w') bp g/\Qz O (Q4 O w w') w w':=by
 refine⟨⟨?_,?_,?_,?_,?_⟩,QcQ h.all (by decide) a⟩
 ·exact h.row.of_block (a.block b h.row.lt (by rw[h.own];decide))
 ·exact(Zj h.all (by decide) (by decide) b).2 h.own
 ·exact j.mono (fun x c f=>QeG h.all a x c f)
 ·intro k r i;exact((h.reg k r i).step a (fun x m l=>by omega)).mono (fun x c _=>(Zj h.all (by omega) (by omega) x).2 c)
 ·exact Qda h.all (by decide) a.size
theorem Zw.stepReg (h:Zw w b O e L bp g){r r':Reg}(t:e.reg j=some r) (p:QaM w' (g j) O' r') (a:Qz (fun x=>L x=j+3) O' w w') :
 Zw w' b (Q4 O w w') (e.set j (some r')) (QbR L (j+3) w w') bp g/\Qz O (Q4 O w w') w w':=by
 refine⟨⟨?_,?_,?_,?_,?_⟩,QcQ h.all (by omega) a⟩
 ·refine(h.row.of_block (a.block b h.row.lt (by rw[h.own];omega))).congr fun i u=>?_
  unfold Qmd QaX Est.set;by_cases f:i=0
  ·simp[f]
  ·by_cases d:i - 1=j
   ·simp[f,d,t]
   ·simp[f,d]
 ·exact(Zj h.all (by omega) (by decide) b).2 h.own
 ·exact(h.pool.step a (fun x s o=>by omega)).mono (fun x c _=>(Zj h.all (by omega) (by decide) x).2 c)
 ·intro k q m;by_cases d:k=j
  ·subst d
   have:q=r':=by simpa[Est.set] using m.symm
   subst this;exact p.mono (fun x c n=>QeG h.all a x c n)
  ·have l:e.reg k=some q:=by simpa[Est.set,d] using m
   exact((h.reg k q l).step a (fun x s o=>by omega)).mono (fun x c _=>(Zj h.all (by omega) (by omega) x).2 c)
 ·exact Qda h.all (by omega) a.size
end
theorem QU.step {w w':World}{b d:Nat}{O P P':Nat->Prop}{e:Est}(h:QU w b d O e) (k:Qz P P' w w') (i:∀ x,O x->¬ P x):QU w' b d O e:=by
 obtain⟨L,g,h⟩:=h
 have c:∀ x,L x≠0->¬ P x:=fun x a=>i x (h.all x a).1;refine⟨L,g,⟨?_,h.own,?_,?_,?_⟩⟩
 ·exact h.row.of_block (k.block b h.row.lt (c b (by rw[h.own];decide)))
 ·exact h.pool.step k (fun x a=>c x (by omega))
 ·exact fun j r f=>(h.reg j r f).step k (fun x a=>c x (by omega))
 ·intro x a
  have:=h.all x a
  have:=k.size
  exact⟨this |> fun _=>(h.all x a).1,by omega⟩
theorem Qdk.step {w w':World}{b a:Nat}{O P P':Nat->Prop}{e:Est}(h:Qdk w b a O e) (k:Qz P P' w w') (c:∀ x,O x->¬ P x):Qdk w' b a O e:=⟨h.1.step k c,h.2⟩
theorem QU.mono {w:World}{b c:Nat}{O O':Nat->Prop}{e:Est}(h:QU w b c O e) (d:∀ x,O x->x<w.heap.size->O' x):QU w b c O' e:=by
 obtain⟨L,g,h⟩:=h
 exact⟨L,g,⟨h.row,h.own,h.pool,h.reg,fun x a=>⟨d x (h.all x a).1 (h.all x a).2,(h.all x a).2⟩⟩⟩
theorem Qce {O:Nat->Prop}{w w' a:World}(d:w.heap.size<=w'.heap.size) (x:Nat) (h:Q4 (Q4 O w w') w' a x):Q4 O w a x:=by
 obtain⟨b,c⟩:=h
 refine⟨?_,c⟩
 rcases b with b | b
 ·exact b.1
 ·exact Or.inr (by omega)
theorem QeN {O:Nat->Prop}{w:World}(x:Nat) (h:O x) (a:x<w.heap.size):Q4 O w w x:=⟨Or.inl h,a⟩
theorem Qz.trans_grow {O:Nat->Prop}{a b c:World}(h:Qz O (Q4 O a b) a b) (k:Qz (Q4 O a b) (Q4 (Q4 O a b) b c) b c):Qz O (Q4 O a c) a c :=
 ⟨k.os.trans h.os,k.tape.trans h.tape,k.output.trans h.output,Zt h.size k.size,(h.trans k).block,fun x d=>d.1⟩
theorem Qz.refl_grow (O:Nat->Prop) (w:World):Qz O (Q4 O w w) w w:=⟨Z,Z,Z,Ze,fun _ _ _=>rfl,fun _ h=>h.1⟩
theorem Qc {p:Prop}(h:p):Hid p:=h
theorem ZQ {z:Nat}{xs:List Value}(h:w.ownsRow 0 e z v n xs){x:Nat}(a:v.ownBlock=some x):∃ c,w.heap[x]?=some (.cells c e (0,0)):=by
 rcases h.2 with ⟨rfl,_⟩|⟨g,f,b,rfl,_,d,_⟩
 ·simp[Value.ownBlock] at a
 ·simp[Value.ownBlock] at a;subst a;exact⟨b,d⟩
theorem Q0 {z:Nat}{xs:List Value}(h:w.ownsRow 0 e z v n xs) (f:∀ x,v.ownBlock=some x->w'.heap[x]?=w.heap[x]?):w'.ownsRow 0 e z v n xs:=by
 refine⟨h.1,?_⟩
 rcases h.2 with c | ⟨g,b,a,rfl,d,i,r⟩
 ·exact .inl c
 ·exact .inr ⟨g,b,a,Z,d,(f g Z).trans i,r⟩
structure HG where
 bm:Nat
 D:DataW Unit
 g:Nat->Nat
 S:Nat->Nat->Prop
theorem ZP (w:World) (o:Obj):Below w.heap.size w (w.alloc o):=(Below.refl _ w).alloc Ze _
theorem Qag (h:Below B w w1) (n:Nat):Below B w (w1.drewN n):=⟨h.os,h.tape,h.output,h.size,h.block⟩
theorem QjV (w:World) (o a:Obj):Below w.heap.size w ((w.alloc o).alloc a):=(ZP w o).alloc (by simp) _
theorem Qnz (w:World) (c:Array Value) (t:TypeId) (a:Obj):((w.alloc (.cells c t)).alloc a).heap[w.heap.size]?=some (.cells c t (0,0)):=by
 rw[Below.heap_alloc _ _ _ (by simp)];exact Qe w c t
theorem QmI (w:World) (o:Obj) (c:Array Value) (t:TypeId):((w.alloc o).alloc (.cells c t)).heap[w.heap.size+1]?=some (.cells c t (0,0)):=by
 have:=Qe (w.alloc o) c t
 simpa using this
theorem QaQ {wr:World}{c:Array Value}{a:TypeId}(h:wr.heap[B]?=some (.cells c a (0,0))) (b:Below wr.heap.size wr w):w.heap[B]?=some (.cells c a (0,0)) :=
 (b.block B (XC h)).trans h
abbrev Blk (w:World) (B:Nat) (c:Array Value) (t:TypeId):Prop:=w.heap[B]?=some (.cells c t (0,0))
theorem Blk.below {c:Array Value}(h:Blk w B c t) (b:Below w.heap.size w w'):Blk w' B c t:=QaQ h b
theorem Blk.alloc {c:Array Value}(h:Blk w B c t) (o:Obj):Blk (w.alloc o) B c t:=QaQ h ((Below.refl _ w).alloc Ze _)
theorem Blk.new (w:World) (c:Array Value) (t:TypeId):Blk (w.alloc (.cells c t)) w.heap.size c t:=Qe w c t
theorem Blk.lt {c:Array Value}(h:Blk w B c t):B<w.heap.size:=XC h
theorem Zd (w:World) (o:Obj):Below w.heap.size w (w.alloc o):=(Below.refl _ w).alloc Ze _
theorem QhA (w:World) (o p:Obj):Below w.heap.size w ((w.alloc o).alloc p):=(Zd w o).alloc (by simp) _
theorem Blk.new1 (w:World) (c d:Array Value) (t u:TypeId):Blk ((w.alloc (.cells c t)).alloc (.cells d u)) w.heap.size c t:=(Blk.new w c t).alloc _
theorem Blk.new2 (w:World) (o:Obj) (d:Array Value) (u:TypeId):Blk ((w.alloc o).alloc (.cells d u)) (w.heap.size+1) d u:=by
 have:=Blk.new (w.alloc o) d u
 simpa using this
abbrev Qfr (b:Nat):Value:=Pv b 0
abbrev Chg (b:Nat) (w w':World):Prop:=Qz (fun k=>k=b) (fun k=>k=b) w w'
section
variable {b:Nat}{w w' w1 w2:World}
theorem Chg.refl (b:Nat) (w:World):Chg b w w:=Qz.refl _ _
theorem Chg.below (h:Below w.heap.size w w'):Chg b w w':=⟨h.os,h.tape,h.output,h.size,fun k a _=>h.block k a,fun k a=>.inl a⟩
theorem Chg.set (w:World) (o:Nat) (v:Value) (h:b<w.heap.size):Chg b w (w.setCell ⟨b,o,none⟩ v) :=
 ⟨Z,Z,Z,by simp,fun k _ a=>Xd _ _ _ _ a,fun k a=>.inl a⟩
theorem Chg.last (h:Below s w w1) (c:Chg b w1 w2) (e:s<=b) (a:s<=w1.heap.size):Below s w w2 :=
 ⟨c.os.trans h.os,c.tape.trans h.tape,c.output.trans h.output,Zt h.size c.size,fun k d=>(c.block k (by omega) (by omega)).trans (h.block k d)⟩
end
theorem Blk.chg {w w':World}{b:Nat}{c:Array Value}(h:Blk w B c t) (k:Chg b w w') (a:B≠b):Blk w' B c t:=(k.block B h.lt a).trans h
theorem Chg.allocP {b:Nat}{w w':World}(c:Chg b w w') (o:Obj):Chg b w (w'.alloc o):=c.trans (Chg.below (Zd _ _))
theorem Chg.grownP {b:Nat}{w w1 f:World}{a:Option Nat}(c:Chg b w w1) (g:w1.grownBy f a) (h:∀ k,a=some k->w.heap.size<=k):Chg b w f :=
 ⟨g.os.trans c.os,g.tape.trans c.tape,g.output.trans c.output,Zt c.size g.size,fun k d i=>(g.block k (Zl d c.size) (fun e=>by have:=h k e.symm;omega)).trans (c.block k d i),fun k d=>.inl d⟩
theorem Qap.formP {α:Type}{A:Lay α}{w:World}{lo:Nat}{l:List α}{xs:List Value}(h:Qap A t w lo v l xs):∃ a c,v=.slice a l.length c:=by
 obtain⟨a,c,e,_⟩:=h.lay
 simp at e
 exact⟨a,c,e⟩
theorem pUnderI:prog.underlying 76=some (.slice 3):=by kernel_rfl
theorem pInfoI0:(prog.info? 3).map (fun i=>(i.zero,i.size,i.bytes))=some (some (Iv 0),1,8):=by kernel_rfl
theorem pInfoI:∃ i,prog.info? 3=some i/\i.zero=some (Iv 0)/\i.size=1/\i.bytes=8:=by
 have h:=pInfoI0
 cases e:prog.info? 3 with
 | none=>rw[e] at h;cases h
 | some i =>
   rw[e] at h
   simp only[Option.map_some,Option.some.injEq,Prod.mk.injEq] at h
   exact⟨i,Z,h.1,h.2.1,h.2.2⟩
theorem pUnderT:prog.underlying 80=some (.slice 105):=by kernel_rfl
theorem pInfoT0:(prog.info? 105).map (fun i=>(i.zero,i.size,i.bytes))=some (some (.agg #[Iv 0,Iv 0,Nv]),3,40):=by kernel_rfl
theorem pInfoT:∃ i,prog.info? 105=some i/\i.zero=some (.agg #[Iv 0,Iv 0,Nv])/\i.size=3/\i.bytes=40:=by
 have h:=pInfoT0
 cases e:prog.info? 105 with
 | none=>rw[e] at h;cases h
 | some i =>
   rw[e] at h
   simp only[Option.map_some,Option.some.injEq,Prod.mk.injEq] at h
   exact⟨i,Z,h.1,h.2.1,h.2.2⟩
theorem Qk2 (w:World) (c:List Value) (t:TypeId):∀ (j:Nat) (u:Value),c[j]?=some u->(w.alloc (.cells c.toArray t)).cell? ((⟨w.heap.size,0,none⟩:Addr).add j)=some u:=by
 intro j u h;have a:c.toArray[j]?=some u:=by simpa using h
 rw[Go.WideShapes.add_plain,XK]
 exact Qb (Qe w c.toArray t) j u a
theorem Qm8 (n:Int):∀ u∈[Value.int .i64 n],u.oneCell'=true:=by
 intro u h;simp at h
 subst h;rfl
theorem QlU (k r:Int) (a:Option Addr) (l c:Nat):∀ u∈[Value.int .i64 k,Value.int .i64 r,Value.slice a l c],u.oneCell'=true:=by
 intro u h;simp at h
 rcases h with rfl | rfl | rfl<;>rfl
theorem Blk.set3 {w:World}{d p1 f:Value}(h:Blk w R #[d,p1,f] t) (a b c:Value):Blk (((w.setCell ⟨R,0,none⟩ a).setCell ⟨R,1,none⟩ b).setCell ⟨R,2,none⟩ c) R #[a,b,c] t:=by
 have e:=Qh (Qh (Qh h 0 a) 1 b) 2 c;simpa using e
theorem Blk.sets {R:Nat}{T:TypeId}:∀ (vs us zs:List Value) (w:World),vs.length=zs.length->Blk w R (us++zs).toArray T->Blk (w.setCells R us.length vs) R (us++vs).toArray T
 | [],us,zs,w,hl,h=>by
   have:zs=[]:=Xf.1 hl.symm
   subst this;exact h
 | v::vs,us,zs,w,hl,h=>by
   cases zs with
   | nil=>simp at hl
   | cons z zs =>
     have a:=Qh h us.length v
     have b:((us++z::zs).toArray.setIfInBounds us.length v)=((us++[v])++zs).toArray:=by
      apply Array.ext'
      simp[List.set_append]
     rw[b] at a
     have:=Blk.sets vs (us++[v]) zs (w.setCell ⟨R,us.length,none⟩ v) (by simpa using hl) a
     simpa[World.setCells] using this
theorem Qlh {w:World}{a p1 b:Value}(h:Blk w B #[a,p1,b] t):w.cell? ⟨B,0,none⟩=some a/\w.cell? ⟨B,1,none⟩=some p1/\w.cell? ⟨B,2,none⟩=some b:=⟨Qb h 0 _ Z,Qb h 1 _ Z,Qb h 2 _ Z⟩
theorem Qmn {w:World}{a p1 c b:Value}(h:Blk w B #[a,p1,c,b] t):w.cell? ⟨B,0,none⟩=some a/\w.cell? ⟨B,1,none⟩=some p1/\w.cell? ⟨B,2,none⟩=some c/\w.cell? ⟨B,3,none⟩=some b:=⟨Qb h 0 _ Z,Qb h 1 _ Z,Qb h 2 _ Z,Qb h 3 _ Z⟩
theorem pSizeN:(prog.info? 78).map (·.size)=some 8:=by kernel_rfl
theorem Blk.range {w:World}{T:TypeId}{c:List Value}(h:Blk w g c.toArray T):w.rangeAt g 0 c:=fun j v a=>by
 rw[XK]
 exact Qb h j v (by simpa using a)
theorem Blk.there {w:World}{T:TypeId}{o:Nat}{c:Array Value}(h:Blk w g c T) (b:o+n<=c.size):w.there g o n:=fun j a =>
 ⟨by rw[Qb h (o+j) _ (Xj (by omega))];rfl,Qj h (o+j)⟩
theorem pSizeB:(prog.info? 86).map (·.size)=some 12:=by kernel_rfl
theorem pUnderB:prog.underlying 87=some (.slice 86):=by kernel_rfl
theorem pInfoB0:(prog.info? 86).map (fun i=>(i.zero,i.size,i.bytes))=some (some (.agg #[Iv 0,Nv,Nv,Iv 0,Iv 0,Iv 0,Nv,Nv,Iv 0,Nv,Nv,Nv]),12,208):=by kernel_rfl
theorem pInfoB:∃ i,prog.info? 86=some i/\i.zero=some (.agg #[Iv 0,Nv,Nv,Iv 0,Iv 0,Iv 0,Nv,Nv,Iv 0,Nv,Nv,Nv])/\i.size=12/\i.bytes=208:=by
 have h:=pInfoB0
 cases e:prog.info? 86 with
 | none=>rw[e] at h;cases h
 | some i =>
   rw[e] at h
   simp only[Option.map_some,Option.some.injEq,Prod.mk.injEq] at h
   exact⟨i,Z,h.1,h.2.1,h.2.2⟩
theorem pUnderF:prog.underlying 22=some (.slice 89):=by kernel_rfl
theorem pInfoF0:(prog.info? 89).map (fun i=>(i.zero,i.size,i.bytes))=some (some (.agg #[Iv 0,Nv,Nv,Nv]),4,80):=by kernel_rfl
theorem pInfoF:∃ i,prog.info? 89=some i/\i.zero=some (.agg #[Iv 0,Nv,Nv,Nv])/\i.size=4/\i.bytes=80:=by
 have h:=pInfoF0
 cases e:prog.info? 89 with
 | none=>rw[e] at h;cases h
 | some i =>
   rw[e] at h
   simp only[Option.map_some,Option.some.injEq,Prod.mk.injEq] at h
   exact⟨i,Z,h.1,h.2.1,h.2.2⟩
def QnI (K:Act->World->Prop) (Q:Exit->Act->World->Prop) (o:Oper) (a:Act):Ending->World->Prop
 | .returned u,w=>K (a.put o.dst u) w
 | .panicked chain,w=>Q (.panic chain) a w
 | .outgrown,_=>LetsOut Q
def Qah (F:Nat):Prop:=∀ (args:Array Value) (w:World),(callFunc F args).run prog w=.ok (.enter F args) w
structure WB where
 c:Nat
 v:Value
structure WG where
 ow:Nat->Nat
 be:Nat
 bp:Nat
 pm:Option Addr
 cm:Nat
 pi:Option Addr
 ci:Nat
 vc:Value
 vb:Value
 vo:Value
 t:WB
 fs:List WB
 lo:Nat
 lk:Nat
def QbE (w:World) (v:Value) (l:List Int):Prop:=w.ownsRow 0 2 1 v l.length (l.map (Value.int .i64))
def WIn (w:World) (O:Nat->Prop) (l:List Int) (v:Value):Prop:=∃ p c,v=.slice p l.length c/\∀ i,i<l.length->∃ k o,p=some ⟨k,o,none⟩/\O k/\k<w.heap.size/\w.cell? ⟨k,o+i,none⟩=some (Iv (l.getD i 0))
theorem WIn.keep {w w':World}(r:∀ k,O k->k<w.heap.size->w'.heap[k]?=w.heap[k]?) (m:∀ k,O k->k<w.heap.size->O' k) (h:WIn w O l v):WIn w' O' l v:=by
 obtain⟨p,c,e,h⟩:=h
 refine⟨p,c,e,fun i j=>?_⟩
 obtain⟨k,o,n,g,b,q⟩:=h i j
 have f:=r k g b;refine⟨k,o,n,m k g b,?_,(XU (w:=w) (a:=⟨k,o+i,none⟩) f).trans q⟩
 rcases Nat.lt_or_ge k w'.heap.size with d | d
 ·exact d
 ·rw[Array.getElem?_eq_none d,Xj b] at f;cases f
theorem QbE.lin {w:World}(h:QbE w v l) (f:∀ x,v.ownBlock=some x->O x):WIn w O l v:=by
 rcases h.2 with ⟨e,j⟩|⟨k,b,g,e,_,d,n,o,p,m⟩
 ·refine⟨none,0,by rw[e,j],fun i a=>by omega⟩
 ·refine⟨_,b,e,fun i a=>⟨k,0,Z,f k (by rw[e];rfl),XC d,?_⟩⟩
  rw[XK]
  have c:(l.map (Value.int .i64))[i]?=some (Iv (l.getD i 0)):=by rw[XS,Zg a];simp[List.getD,a]
  rw[<-m,XR,Xs (by omega),Array.getElem?_toList] at c
  exact Qb d _ _ c
abbrev frA (fr:RFr) (v:Value):Array Value:=#[Iv fr.f,Iv fr.b,Iv fr.i,v]
def WFr (w:World) (c:Nat) (fr:RFr) (v:Value):Prop:=w.heap[c]?=some (.cells (frA fr v) 132 (0,0))/\QbE w v fr.v
def Qiq (w:World) (ow:Nat->Nat):List WB->List RFr->Prop
 | [],[]=>True
 | x::xs,fr::frs=>(WFr w x.c fr x.v/\ow x.c=5+2*frs.length/\∀ k,x.v.ownBlock=some k->ow k=6+2*frs.length)/\Qiq w ow xs frs
 | _,_=>False
section
variable {w w':World}{ow ow':Nat->Nat}
theorem QbE.lt (h:QbE w v l){x:Nat}(a:v.ownBlock=some x):x<w.heap.size:=XC (ZQ h a).choose_spec
theorem WFr.keep {fr:RFr}(h:WFr w c fr v) (b:w'.heap[c]?=w.heap[c]?) (a:∀ x,v.ownBlock=some x->w'.heap[x]?=w.heap[x]?):WFr w' c fr v:=⟨b.trans h.1,Q0 h.2 a⟩
theorem WFr.below {fr:RFr}(h:WFr w c fr v) (b:Below w.heap.size w w'):WFr w' c fr v:=h.keep (b.block c (XC h.1)) (fun x a=>b.block x (h.2.lt a))
theorem Qiq.len:∀ {xs:List WB}{frs:List RFr},Qiq w ow xs frs->xs.length=frs.length
 | [],[],_=>rfl
 | [],_::_,h=>h.elim
 | x::xs,[],h=>h.elim
 | x::xs,fr::frs,h=>by simp[Qiq.len h.2]
theorem Qiq.keep (c:∀ x,x<w.heap.size->ow' x=ow x):∀ {xs:List WB}{frs:List RFr},Qiq w ow xs frs->(∀ x,x<w.heap.size->5<=ow x->ow x<5+2*frs.length->w'.heap[x]?=w.heap[x]?)->Qiq w' ow' xs frs
 | [],[],_,_=>trivial
 | [],_::_,h,_=>h.elim
 | x::xs,[],h,_=>h.elim
 | x::xs,fr::frs,h,hb=>by
   obtain⟨⟨b,f,d⟩,g⟩:=h
   have e:=XC b.1;simp only[List.length_cons] at hb
   refine⟨⟨b.keep (hb _ e (by omega) (by omega)) (fun k a=>hb k (b.2.lt a) (by have:=d k a;omega) (by have:=d k a;omega)),(c _ e).trans f,fun k a=>(c k (b.2.lt a)).trans (d k a)⟩,Qiq.keep c g (fun k a i j=>hb k a i (by omega))⟩
end
abbrev QnB (most ml:Nat) (R:RM) (g:WG):Array Value :=
 #[Pv g.be 0,.slice g.pm ml g.cm,.slice g.pi R.inp.length g.ci,Iv most,g.vc,Iv R.fin,g.vb,g.vo,Iv R.fuel,.bool R.done]
abbrev Qay (l:List WB):List Value:=l.reverse.map fun x=>Pv x.c 0
structure WAt (w:World) (b:Nat) (most:Nat) (m:List (MFunc 6)) (R:RM) (g:WG):Prop where
 box:w.heap[b]?=some (.cells (QnB most m.length R g) 68 (0,0))
 est:Qdk w g.be g.bp (fun x=>g.ow x=2) R.e
 mod:(QaN 6).In w (fun x=>g.ow x=0/\g.lk<=x/\x<b) m [.slice g.pm m.length g.cm]
 inp:intsL.In w (fun x=>g.ow x=0/\g.lk<=x/\x<b) R.inp [.slice g.pi R.inp.length g.ci]
 inpC:R.inp.length<=g.ci
 calls:w.ownsRow 0 130 1 g.vc (R.rest.length+1) (Qay (g.t::g.fs))
 back:WIn w (fun x=>g.ow x=0/\g.lo<=x) R.back g.vb
 out:QbE w g.vo R.out
 frs:Qiq w g.ow (g.t::g.fs) (R.top::R.rest)
 ob:g.ow b=1
 oc:∀ x,g.vc.ownBlock=some x->g.ow x=3
 oo:∀ x,g.vo.ownBlock=some x->g.ow x=4
 lt:∀ x,g.ow x≠0->x<w.heap.size
 low:g.lo<=w.heap.size
abbrev WG.A (g:WG) (x:Nat):Prop:=g.ow x≠0
structure WSt (g g':WG) (w w':World):Prop extends Qz g.A g'.A w w' where
 lo:g'.lo=g.lo
 lk:g'.lk=g.lk
theorem WSt.trans {g e d:WG}{a b c:World}(h:WSt g e a b) (k:WSt e d b c):WSt g d a c:=⟨h.1.trans k.1,k.lo.trans h.lo,k.lk.trans h.lk⟩
def WTo (g:WG) (w w':World) (b most:Nat) (m:List (MFunc 6)) (R:RM):Prop:=∃ g',WAt w' b most m R g'/\WSt g g' w w'/\g'.t.c=g.t.c/\g'.fs=g.fs
def WGo (g:WG) (w w':World) (b most:Nat) (m:List (MFunc 6)) (R:RM):Prop:=∃ g',WAt w' b most m R g'/\WSt g g' w w'
structure Wc (ow ow':Nat->Nat) (C:Nat->Prop) (w w':World):Prop where
 os:w'.os=w.os
 tape:w'.tape=w.tape
 output:w'.output=w.output
 size:w.heap.size<=w'.heap.size
 lab:∀ x,x<w.heap.size->ow' x=ow x
 keep:∀ x,x<w.heap.size->¬ C (ow x)->w'.heap[x]?=w.heap[x]?
 nil:¬ C 0
 lt:∀ x,ow' x≠0->x<w'.heap.size
section
variable {w w' w2:World}{b most:Nat}{m:List (MFunc 6)}{R R':RM}{g g1 g':WG}{C:Nat->Prop}{ow':Nat->Nat}
theorem Wc.step {ow:Nat->Nat}(h:Wc ow ow' C w w'):Qz (fun x=>ow x≠0) (fun x=>ow' x≠0) w w':=⟨h.os,h.tape,h.output,h.size,fun x b c=>h.keep x b (by rw[Xq.1 c];exact h.nil),fun x b=>by
 rcases Nat.lt_or_ge x w.heap.size with a | a
 ·exact .inl (by rw[<-h.lab x a];exact b)
 ·exact .inr a⟩
theorem WTo.go (h:WTo g w w' b most m R):WGo g w w' b most m R:=by obtain⟨c,a,s,_⟩:=h;exact⟨c,a,s⟩
theorem WTo.then (s:WSt g g1 w w') (i:g1.t.c=g.t.c) (f:g1.fs=g.fs) (h:WTo g1 w' w2 b most m R):WTo g w w2 b most m R:=by
 obtain⟨j,a,k,e,d⟩:=h
 exact⟨j,a,s.trans k,e.trans i,d.trans f⟩
theorem WGo.then (s:WSt g g1 w w') (h:WGo g1 w' w2 b most m R):WGo g w w2 b most m R:=by
 obtain⟨c,a,k⟩:=h
 exact⟨c,a,s.trans k⟩
section
variable (S:WAt w b most m R g) (kc:Wc g.ow ow' C w w')
include S kc
theorem WAt.kBox (h:¬ C 1):w'.heap[b]?=w.heap[b]?:=kc.keep b (XC S.box) (by rw[S.ob];exact h)
theorem WAt.kEst (h:¬ C 2):Qdk w' g.be g.bp (fun x=>ow' x=2) R.e:=by
 have b:=S.est.step (P:=fun x=>C (g.ow x)) (P':=fun _=>False) ⟨kc.os,kc.tape,kc.output,kc.size,fun x a c=>kc.keep x a c,fun _ h=>h.elim⟩ (fun x a d=>h (by have a:g.ow x=2:=a;rwa [a] at d));exact⟨b.1.mono (fun x a _=>(kc.lab x (S.lt x (by have a:g.ow x=2:=a;omega))).trans a),b.2⟩
theorem WAt.kMod:(QaN 6).In w' (fun x=>ow' x=0/\g.lk<=x/\x<b) m [.slice g.pm m.length g.cm]:=(QaN 6).keep (fun x a c=>kc.keep x c (by rw[a.1];exact kc.nil)) (fun x a c=>⟨(kc.lab x c).trans a.1,a.2⟩) S.mod
theorem WAt.kInp:intsL.In w' (fun x=>ow' x=0/\g.lk<=x/\x<b) R.inp [.slice g.pi R.inp.length g.ci]:=intsL.keep (fun x a c=>kc.keep x c (by rw[a.1];exact kc.nil)) (fun x a c=>⟨(kc.lab x c).trans a.1,a.2⟩) S.inp
theorem WAt.kBack:WIn w' (fun x=>ow' x=0/\g.lo<=x) R.back g.vb:=WIn.keep (fun x a b=>kc.keep x b (by rw[a.1];exact kc.nil)) (fun x a b=>⟨(kc.lab x b).trans a.1,a.2⟩) S.back
theorem WAt.kCalls (h:¬ C 3):w'.ownsRow 0 130 1 g.vc (R.rest.length+1) (Qay (g.t::g.fs)):=Q0 S.calls (fun x a=>kc.keep x (XC (ZQ S.calls a).choose_spec) (by rw[S.oc x a];exact h))
theorem WAt.kOut (h:¬ C 4):QbE w' g.vo R.out:=Q0 S.out (fun x a=>kc.keep x (S.out.lt a) (by rw[S.oo x a];exact h))
theorem WAt.kFrs (h:∀ x,5<=x->¬ C x):Qiq w' ow' (g.t::g.fs) (R.top::R.rest):=S.frs.keep kc.lab (fun x b a _=>kc.keep x b (h _ a))
theorem WAt.kRest (h:∀ x,5<=x->x<5+2*R.rest.length->¬ C x):Qiq w' ow' g.fs R.rest:=S.frs.2.keep kc.lab (fun x b a c=>kc.keep x b (h _ a c))
theorem WAt.kob:ow' b=1:=(kc.lab b (XC S.box)).trans S.ob
theorem WAt.koc:∀ x,g.vc.ownBlock=some x->ow' x=3:=fun x a=>(kc.lab x (XC (ZQ S.calls a).choose_spec)).trans (S.oc x a)
theorem WAt.koo:∀ x,g.vo.ownBlock=some x->ow' x=4:=fun x a=>(kc.lab x (S.out.lt a)).trans (S.oo x a)
theorem WAt.klow:g.lo<=w'.heap.size:=Zt S.low kc.size
end
theorem Wc.below (S:WAt w b most m R g) (k:Below w.heap.size w w'):Wc g.ow g.ow (fun _=>False) w w':=⟨k.os,k.tape,k.output,k.size,fun _ _=>rfl,fun x a _=>k.block x a,fun h=>h,fun x a=>Zl (S.lt x a) k.size⟩
theorem WAt.below (S:WAt w b most m R g) (h:Below w.heap.size w w'):WAt w' b most m R g :=
 have k:=Wc.below S h;⟨(S.kBox k (fun h=>h)).trans S.box,S.kEst k (fun h=>h),S.kMod k,S.kInp k,S.inpC,S.kCalls k (fun h=>h),S.kBack k,S.kOut k (fun h=>h),S.kFrs k (fun _ _ h=>h),S.ob,S.oc,S.oo,k.lt,S.klow k⟩
theorem WAt.stepB (S:WAt w b most m R g) (k:Below w.heap.size w w'):WSt g g w w':=⟨(Wc.below S k).step,Z,Z⟩
theorem WTo.same (S:WAt w b most m R g) (k:Below w.heap.size w w'):WTo g w w' b most m R:=⟨g,S.below k,S.stepB k,Z,Z⟩
theorem WAt.top (S:WAt w b most m R g):WFr w g.t.c R.top g.t.v:=S.frs.1.1
theorem WAt.rows (S:WAt w b most m R g):g.fs.length=R.rest.length:=by have:=S.frs.len;simpa using this
def Qc1 (ow:Nat->Nat) (c:Nat) (w w':World):Nat->Nat:=fun x=>if x<w.heap.size then ow x else if x<w'.heap.size then c else 0
theorem QaZ {ow:Nat->Nat}{x:Nat}(h:x<w.heap.size):Qc1 ow c w w' x=ow x:=Xs h
theorem QcT {ow:Nat->Nat}{x:Nat}(h:w.heap.size<=x) (a:x<w'.heap.size):Qc1 ow c w w' x=c:=by unfold Qc1;rw[Xr (by omega),Xs a]
theorem Wc.marks (S:WAt w b most m R g)(f:¬ C 0) (e:w'.os=w.os) (d:w'.tape=w.tape) (i:w'.output=w.output) (h:w.heap.size<=w'.heap.size) (j:∀ x,x<w.heap.size->¬ C (g.ow x)->w'.heap[x]?=w.heap[x]?):Wc g.ow (Qc1 g.ow c w w') C w w' :=
 ⟨e,d,i,h,fun x a=>QaZ a,j,f,fun x a=>by
  unfold Qc1 at a;split at a
  ·omega
  ·split at a
   ·assumption
   ·exact absurd Z a⟩
theorem WAt.toEst (S:WAt w b most m R g){d:Est}(n:QU w' g.be g.bp (Q4 (fun x=>g.ow x=2) w w') d) (a:Qz (fun x=>g.ow x=2) (Q4 (fun x=>g.ow x=2) w w') w w') (f:d.Ok):WTo g w w' b most m { R with e:=d }:=by
 have k:Wc g.ow (Qc1 g.ow 2 w w') (·=2) w w':=Wc.marks S (by decide) a.os a.tape a.output a.size (fun x c l=>a.block x c l);refine⟨{ g with ow:=Qc1 g.ow 2 w w' },⟨(S.kBox k (by decide)).trans S.box,⟨n.mono (fun x c j=>?_),f⟩,S.kMod k,S.kInp k,S.inpC,S.kCalls k (by decide),S.kBack k,S.kOut k (by decide),S.kFrs k (fun x h e=>by omega),S.kob k,S.koc k,S.koo k,k.lt,S.klow k⟩,⟨k.step,Z,Z⟩,Z,Z⟩
 rcases Nat.lt_or_ge x w.heap.size with h | h
 ·rcases c.1 with i | i
  ·exact(QaZ h).trans i
  ·omega
 ·exact QcT h j
theorem WAt.setTop (S:WAt w b most m R g){fr:RFr}(o:w'.os=w.os) (l:w'.tape=w.tape) (s:w'.output=w.output) (p:w.heap.size<=w'.heap.size)
 (r:∀ k,k<w.heap.size->k≠g.t.c->g.t.v.ownBlock≠some k->w'.heap[k]?=w.heap[k]?) (j:WFr w' g.t.c fr v) (n:∀ k,v.ownBlock=some k->g.t.v.ownBlock=some k\/w.heap.size<=k):WTo g w w' b most m { R with top:=fr }:=by
 obtain⟨⟨q,f,i⟩,y⟩:=S.frs
 have k:Wc g.ow (Qc1 g.ow (6+2*R.rest.length) w w') (fun x=>x=5+2*R.rest.length\/x=6+2*R.rest.length) w w':=Wc.marks S (by omega) o l s p (fun x a d=>r x a (fun e=>d (.inl (e ▸ f))) (fun e=>d (.inr (i x e))));refine⟨{ g with t:=⟨g.t.c,v⟩,ow:=Qc1 g.ow (6+2*R.rest.length) w w' },⟨(S.kBox k (by omega)).trans S.box,S.kEst k (by omega),S.kMod k,S.kInp k,S.inpC,?_,S.kBack k,S.kOut k (by omega),⟨⟨j,(QaZ (XC q.1)).trans f,fun x a=>?_⟩,S.kRest k (fun x h u=>by omega)⟩,S.kob k,S.koc k,S.koo k,k.lt,S.klow k⟩,⟨k.step,Z,Z⟩,Z,Z⟩
 ·have e:Qay (⟨g.t.c,v⟩::g.fs)=Qay (g.t::g.fs):=by simp[Qay]
  show w'.ownsRow 0 _ 1 g.vc _ (Qay (⟨g.t.c,v⟩::g.fs));rw[e]
  exact S.kCalls k (by omega)
 ·rcases Nat.lt_or_ge x w.heap.size with h | h
  ·rcases n x a with e | e
   ·exact(QaZ h).trans (i x e)
   ·omega
  ·exact QcT h (j.2.lt a)
theorem WAt.reBox (S:WAt w b most m R g) (j:w'.os=w.os) (i:w'.tape=w.tape) (t:w'.output=w.output) (f:w.heap.size<=w'.heap.size)
 (s:∀ k,k<w.heap.size->k≠b->w'.heap[k]?=w.heap[k]?) (l:R'.e=R.e/\R'.top=R.top/\R'.rest=R.rest/\R'.out=R.out)   {vb:Value} (hi:intsL.In w (fun x=>g.ow x=0/\g.lk<=x/\x<b) R'.inp [.slice pi R'.inp.length ci]/\R'.inp.length<=ci) (u:WIn w (fun x=>g.ow x=0/\g.lo<=x) R'.back vb)
 (p:w'.heap[b]?=some (.cells (QnB most m.length R' { g with pi:=pi,ci:=ci,vb:=vb }) 68 (0,0))):WTo g w w' b most m R':=by
 have k:Wc g.ow g.ow (·=1) w w':=⟨j,i,t,f,fun _ _=>rfl,fun x a o=>s x a (fun e=>o (e ▸ S.ob)),by decide,fun x a=>Zl (S.lt x a) f⟩;obtain⟨r,q,d,n⟩:=l
 refine⟨{ g with pi:=pi,ci:=ci,vb:=vb },⟨p,?_,S.kMod k,intsL.keep (fun x a c=>k.keep x c (by rw[a.1];decide)) (fun x a _=>a) hi.1,hi.2,?_,WIn.keep (fun x a c=>k.keep x c (by rw[a.1];decide)) (fun x a _=>a) u,?_,?_,S.ob,S.oc,S.oo,k.lt,S.klow k⟩,⟨k.step,Z,Z⟩,Z,Z⟩
 ·rw[r];exact S.kEst k (by decide)
 ·rw[d];exact S.kCalls k (by decide)
 ·rw[n];exact S.kOut k (by decide)
 ·rw[q,d];exact S.kFrs k (fun x h e=>by omega)
end
theorem Qd.at_some {h:Qd}{v:Q1}{p:Qr}(e:h.at v=some p):v.kind=2/\h.place v.region=some p/\∃ k:Nat,v.region=k/\h.L[k]?=some p/\p.there=true:=by
 unfold Qd.at at e;split at e
 ·rename_i f
  obtain⟨d,c,b⟩:=Qd.place_some e
  obtain⟨k,a⟩:=Xc d
  exact⟨f,e,k,a,by rwa [a,XT] at c,b⟩
 ·cases e
def Qr.roomed (p:Qr) (words:Int):Qr:=if p.tight words then { p with pages:=p.pages+1,used:=words } else { p with used:=p.used+words }
def Qd.roomLeft (h:Qd) (p:Qr) (words:Int):Nat:=if p.tight words then h.left - 1 else h.left
theorem Qr.roomed_l (p:Qr) (words:Int):(p.roomed words).l=p.l:=by unfold Qr.roomed;split<;>rfl
theorem Qr.roomed_there (p:Qr) (words:Int):(p.roomed words).there=p.there:=by unfold Qr.roomed;split<;>rfl
theorem Qr.more_eq (p:Qr) (t:Qw) (words:Int):p.more t words={ p.roomed words with l:=(p.roomed words).l++[t] }:=by unfold Qr.more Qr.roomed;split<;>rfl
theorem Qd.put_full {h:Qd}{v:Q1}{p:Qr}(t:Qw) (words:Int) (c:h.at v=some p) (a:p.tight words=true) (b:h.left=0):h.put v t words=(noV,14,h):=by unfold Qd.put;rw[c];simp[a,b]
theorem Qd.put_ok {h:Qd}{v:Q1}{p:Qr}(t:Qw) (words:Int) (b:h.at v=some p) (c:v.region=k) (a:¬ (p.tight words=true/\h.left=0)) :
 h.put v t words=(⟨t.knd,k,p.l.length,0⟩,0,⟨h.L.set k { p.roomed words with l:=p.l++[t] },h.roomLeft p words⟩):=by
 unfold Qd.put;rw[b]
 simp only
 rw[Xr a,c,XT,Qr.more_eq,Qr.roomed_l]
 rfl
theorem Qd.thing_iff {h:Qd}{v:Q1}{t:Qw}:h.thing v=some t↔(v.kind=3\/v.kind=4)/\∃ p,h.place v.region=some p/\0<=v.thing/\p.l[v.thing.toNat]?=some t/\t.arr=decide (v.kind=4):=by
 unfold Qd.thing;constructor
 ·intro e;split at e
  ·rename_i d
   split at e
   ·cases e
   ·rename_i p b
    split at e
    ·cases e
    ·rename_i f
     split at e
     ·cases e
     ·rename_i u a
      split at e
      ·rename_i c;cases e;exact⟨d,p,b,by omega,a,c⟩
      ·cases e
  ·cases e
 ·rintro ⟨d,p,b,f,a,c⟩;rw[Xs d]
  simp only[b,a]
  rw[Xr (by omega),Xs c]
theorem Qd.put_code {h:Qd}{v:Q1}{t:Qw}{words:Int}{p:Qr}(a:h.at v=some p):(h.put v t words).2.1=0\/((h.put v t words).2.1=14/\(h.put v t words).2.2=h/\(h.put v t words).1=noV):=by
 by_cases e:p.tight words=true/\h.left=0
 ·rw[Qd.put_full t words a e.1 e.2];exact .inr ⟨Z,Z,Z⟩
 ·obtain⟨g,f,j,d,c,b⟩:=Qd.at_some a
  rw[Qd.put_ok t words a d e];exact .inl Z
def Qw.sz (t:Qw):Nat:=if t.arr then t.l.length+1 else max t.l.length 1
def Rep (h:Qd) (φ:Int->Nat) (π:Int->Nat->Nat) (x:Q1) (n:Int):Prop :=
 (x.kind=1->n=x.n)/\((x.kind=2\/x.kind=3\/x.kind=4)->0<=x.region/\x.region<h.L.length/\∀ p,h.place x.region=some p ->
  (x.kind=2->n=φ x.region)/\(x.kind≠2->0<=x.thing/\x.thing.toNat<p.l.length/\n=π x.region x.thing.toNat))
structure Qmb (h:Qd) (e:Est) (φ:Int->Nat) (π:Int->Nat->Nat) (k:Int) (i:Nat) (t:Qw):Prop where
 run:Qbd e ⟨φ k,π k i,t.sz⟩
 tuple:t.arr=false->∀ j x,t.l[j]?=some x->Rep h φ π x (e.p.ws (π k i+j))
 len:t.arr=true->e.p.ws (π k i)=t.l.length
 nums:t.arr=true->∀ j x,t.l[j]?=some x->x.kind=1/\e.p.ws (π k i+1+j)=x.n
structure Qa4 (h:Qd) (e:Est) (φ:Int->Nat) (π:Int->Nat->Nat):Prop where
 ok:e.Ok
 left:(h.left:Int)=e.p.free
 reg:∀ k p,h.place k=some p->φ k<16/\∃ r,e.reg (φ k)=some r/\r.pages.length=p.pages/\(p.pages≠0->r.used=p.used)
 inj:∀ j k p q,h.place j=some p->h.place k=some q->φ j=φ k->j=k
 onto:∀ i r,e.reg i=some r->∃ k p,h.place k=some p/\φ k=i
 clear:QmT e
 thing:∀ k p i t,h.place k=some p->p.l[i]?=some t->Qmb h e φ π k i t
 apart:∀ k p i t k' p' i' t',h.place k=some p->p.l[i]?=some t->h.place k'=some p'->p'.l[i']?=some t'->¬ (k=k'/\i=i')->¬ (π k i<π k' i'+t'.sz/\π k' i'<π k i+t.sz)
def Qgm (f:Nat->Option Reg) (n:Nat):List Nat:=(List.range n).filter (fun k=>(f k).isSome)
theorem QdE (f:Nat->Option Reg):∀ n,Zc f n=(Qgm f n).length
 | 0=>rfl
 | n+1=>by
   have a:=QdE f n;unfold Qgm at a |-;rw[Zc,List.range_succ,List.filter_append,List.length_append]
   cases h:(f n).isSome with
   | true=>simp[h,a]
   | false=>simp[h,a]
def Qbl (L:List Qr) (n:Nat):List Nat:=(List.range n).filter (fun k=>match L[k]? with | some p=>p.there | none=>false)
theorem Qi0 (L:List Qr):∀ n,n<=L.length->(Qbl L n).length=((L.take n).filter (·.there)).length
 | 0,_=>rfl
 | n+1,h=>by
   have a:=Qi0 L n (by omega);have b:L[n]?=some L[n]:=Zg (by omega);unfold Qbl at a |-;rw[List.range_succ,List.filter_append,List.length_append,a,XV,b]
   simp only[Option.toList,List.filter_append,List.length_append,List.filter_cons,List.filter_nil,b]
   cases L[n].there<;>rfl
theorem QkC (h:Qd):(Qbl h.L h.L.length).length=h.live:=by rw[Qi0 _ _ Ze,List.take_length];rfl
theorem QcB {h:Qd}:k∈Qbl h.L h.L.length↔∃ p,h.place (k:Int)=some p:=by
 unfold Qbl;rw[List.mem_filter,List.mem_range,Qd.place_nat]
 constructor
 ·rintro ⟨c,b⟩;rw[Zg c] at b |-
  simp only at b |-
  exact⟨_,by rw[Xs b]⟩
 ·rintro ⟨p,a⟩
  cases e:h.L[k]? with
  | none=>rw[e] at a;cases a
  | some q =>
    rw[e] at a
    simp only at a
    split at a
    ·rename_i d
     exact⟨(Zi e).1,by simp[d]⟩
    ·cases a
section
variable {h:Qd}{e:Est}{φ:Int->Nat}{π:Int->Nat->Nat}
theorem Qfn {α β:Type}{f:α->β}:∀ {l:List α},l.Nodup->(∀ x∈l,∀ y∈l,f x=f y->x=y)->(l.map f).Nodup
 | [],_,_=>by simp
 | x::r,hn,hf=>by
   rw[List.nodup_cons] at hn
   rw[List.map_cons,List.nodup_cons]
   refine⟨fun d=>?_,Qfn hn.2 (fun a e b g=>hf a (by simp[e]) b (by simp[g]))⟩
   obtain⟨y,c,h⟩:=List.mem_map.1 d
   exact hn.1 (hf y (by simp[c]) x (by simp) h ▸ c)
theorem Qa4.count (R:Qa4 h e φ π):e.count=h.live:=by
 unfold Est.count;rw[QdE,<-QkC]
 congr 1
 have n:(Qbl h.L h.L.length).Nodup:=List.Pairwise.filter _ List.nodup_range
 have l:((Qbl h.L h.L.length).map (fun k:Nat=>φ (k:Int))).Nodup:=Qfn n (fun x j y t s=>by
  obtain⟨p,a⟩:=QcB.1 j
  obtain⟨q,m⟩:=QcB.1 t
  have:=R.inj _ _ p q a m s
  omega)
 have g:(Qgm e.reg 16).Nodup:=List.Pairwise.filter _ List.nodup_range
 have:=((List.perm_ext_iff_of_nodup g l).2 (fun i=>?_)).length_eq
 ·rw[this,XN]
 ·unfold Qgm;rw[List.mem_filter,List.mem_range,List.mem_map]
  constructor
  ·rintro ⟨f,c⟩;obtain⟨r,b⟩:=Option.isSome_iff_exists.1 c
   obtain⟨k,p,a,u⟩:=R.onto i r b
   obtain⟨d,-,-⟩:=Qd.place_some a
   refine⟨k.toNat,QcB.2 ⟨p,?_⟩,?_⟩
   ·rw[Int.toNat_of_nonneg d];exact a
   ·rw[Int.toNat_of_nonneg d];exact u
  ·rintro ⟨k,f,c⟩;obtain⟨p,a⟩:=QcB.1 f
   obtain⟨o,r,b,-⟩:=R.reg _ p a
   rw[<-c]
   exact⟨o,by rw[b];rfl⟩
theorem QdI {f:Nat->Option Reg}:∀ {n:Nat},Zc f n=n↔∀ k,k<n->f k≠none
 | 0=>by simp[Zc]
 | n+1=>by
   have b:=QdI (f:=f) (n:=n);have d:=(Qa5 f n).2;rw[Zc]
   cases e:f n with
   | none =>
     simp only[Option.isSome_none,Bool.false_eq_true,if_false]
     constructor
     ·intro h;omega
     ·intro h;exact absurd e (h n (by omega))
   | some r =>
     simp only[Option.isSome_some,if_true]
     constructor
     ·intro h k c;rcases Nat.lt_succ_iff_lt_or_eq.1 c with a | a
      ·exact b.1 (by omega) k a
      ·subst a;rw[e];exact fun h=>nomatch h
     ·intro h
      have:=b.2 (fun k c=>h k (by omega))
      omega
theorem Qa4.full (R:Qa4 h e φ π):16<=h.live↔∀ k,k<16->e.reg k≠none:=by
 have a:=R.count;have b:=(Qa5 e.reg 16).2;unfold Est.count at a;rw[<-QdI (f:=e.reg) (n:=16)]
 omega
theorem Rep.mono {b:Qd}{φ':Int->Nat}{π':Int->Nat->Nat}{x:Q1}{n:Int}(H:Rep h φ π x n) (v:h.L.length<=b.L.length)
 (f:∀ (k:Int) p',0<=k->k<h.L.length->b.place k=some p'->∃ p,h.place k=some p/\φ' k=φ k/\p.l.length<=p'.l.length/\∀ i,i<p.l.length->π' k i=π k i):Rep b φ' π' x n:=by
 refine⟨H.1,fun u=>?_⟩
 obtain⟨c,m,o⟩:=H.2 u
 refine⟨c,by omega,fun p' a=>?_⟩
 obtain⟨p,g,d,w,q⟩:=f _ p' c m a
 obtain⟨e,r⟩:=o p g
 refine⟨fun h=>by rw[d];exact e h,fun h=>?_⟩
 obtain⟨t,j,s⟩:=r h
 exact⟨t,by omega,by rw[q _ j];exact s⟩
def Qci (h:Qd) (e:Est) (φ:Int->Nat):Int->Nat:=fun j=>if j=h.L.length then e.openK.toNat else φ j
theorem Qa4.opens (R:Qa4 h e φ π) (N:¬ 16<=h.live):0<=e.openK/\Qa4 h.open_.2.2 e.opened (Qci h e φ) π/\(Qci h e φ) h.L.length=e.openK.toNat/\∀ x n,Rep h φ π x n->Rep h.open_.2.2 (Qci h e φ) π x n:=by
 have I:h.open_=(⟨2,h.L.length,0,0⟩,true,{ h with L:=h.L++[newP] }):=by unfold Qd.open_;rw[Xr N]
 have f:∀ j,h.open_.2.2.place j=if j=h.L.length then some newP else h.place j:=fun j=>by rw[I];exact Qd.place_push h newP j h.left
 rcases Qbk e.reg 16 with X | ⟨k,P,K,U⟩
 ·exact absurd (R.full.2 X) N
 ·obtain⟨o1,J⟩:=Est.open_yes U P K
  have M:e.openK.toNat=k:=by omega
  have A:∀ j p,h.place j=some p->¬ j=h.L.length:=fun j p a B=>by
   have:=(Qd.place_some a).2.1
   have:=(Zi this).1
   omega
  have c:∀ j p,h.place j=some p->Qci h e φ j=φ j:=fun j p a=>by unfold Qci;rw[Xr (A j p a)]
  have y:Qci h e φ h.L.length=k:=by unfold Qci;rw[Xs Z,M]
  have v:∀ x n,Rep h φ π x n->Rep h.open_.2.2 (Qci h e φ) π x n:=fun x n H=>H.mono (by rw[I];simp) (fun j z Q O b=>by
   rw[f,Xr (by omega)] at b
   exact⟨z,b,c _ _ b,Ze,fun _ _=>rfl⟩)
  have C:∀ j,(e.set k (some ⟨[],0⟩)).reg j=if j=k then some ⟨[],0⟩ else e.reg j:=fun j=>rfl
  have D:∀ j p,h.place j=some p->φ j≠k:=fun j p a e'=>by
   obtain⟨-,r,d,-⟩:=R.reg j p a
   rw[e',K] at d;cases d
  refine⟨by omega,?_,by rw[y,M],v⟩
  have E:∀ q,Qbd e q->Qbd e.opened q:=fun q F=>((⟨fun x w=>by rw[List.mem_singleton.1 w];exact F,R.clear⟩:Ap e [q]).opened).run q (by simp);refine⟨R.ok.opened,by rw[I,Est.p_opened];exact R.left,fun j p a=>?_,fun j G p z a b l=>?_,fun i r d=>?_,(⟨fun q F=>absurd F (by simp),R.clear⟩:Ap e []).opened.clear,fun j p i t a s=>?_,fun j p i t G z T V a s b o hn=>?_⟩
  ·rw[f] at a
   split at a
   ·rename_i B
    cases a
    rw[B,y]
    exact⟨P,_,by rw[J,C,Xs Z],Z,fun h=>absurd Z h⟩
   ·obtain⟨Q,r,d,O⟩:=R.reg j p a
    rw[c j p a]
    exact⟨Q,r,by rw[J,C,Xr (D j p a)];exact d,O⟩
  ·rw[f] at a b
   split at a
   ·rename_i B
    split at b
    ·rename_i g;rw[B,g]
    ·rw[B,y,c _ _ b] at l;exact absurd l.symm (D _ _ b)
   ·split at b
    ·rename_i g;rw[g,y,c _ _ a] at l;exact absurd l (D _ _ a)
    ·rw[c _ _ a,c _ _ b] at l;exact R.inj j G p z a b l
  ·rw[J,C] at d
   split at d
   ·rename_i ei
    exact⟨h.L.length,newP,by rw[f,Xs Z],by rw[y,ei]⟩
   ·obtain⟨j,p,a,hj⟩:=R.onto i r d
    exact⟨j,p,by rw[f,Xr (A j p a)];exact a,by rw[c j p a];exact hj⟩
  ·rw[f] at a
   split at a
   ·cases a;simp[newP] at s
   ·obtain⟨a1,S,a3,W⟩:=R.thing j p i t a s
    exact⟨by rw[c j p a];exact E _ a1,fun u m x w=>by rw[Est.p_opened];exact v _ _ (S u m x w),fun u=>by rw[Est.p_opened];exact a3 u,fun u m x w=>by rw[Est.p_opened];exact W u m x w⟩
  ·rw[f] at a b
   split at a
   ·cases a;simp[newP] at s
   ·split at b
    ·cases b;simp[newP] at o
    ·exact R.apart j p i t G z T V a s b o hn
theorem Qe5 {s:PSt}(b:l.Nodup) (a:∀ x,x∈l->0<=x/\x<s.fresh/\x ∉ s.given):(s.giveAll l).free=s.free+l.length:=by
 rw[PSt.giveAll_eq l s b a]
 unfold PSt.free;simp
 omega
theorem Qa4.shuts (R:Qa4 h e φ π){a:Q1}{p:Qr}(U:h.at a=some p):(h.shut a).1=true/\Qa4 (h.shut a).2 (e.shut (φ a.region)) φ π/\∀ x n,Rep h φ π x n->Rep (h.shut a).2 φ π x n:=by
 obtain⟨hk,o,j,hj,hL,aa⟩:=Qd.at_some U
 have C:=(Zi hL).1;obtain⟨k1,r,V,G,-⟩:=R.reg _ p o
 have B:h.shut a=(true,⟨h.L.set a.region.toNat noP,h.left+p.pages⟩):=by unfold Qd.shut;rw[U]
 have Q:∀ i,(h.shut a).2.place i=if i=a.region then none else h.place i:=fun i=>by
  rw[B];simp only
  rw[hj,XT,Qd.place_set C]
  split
  ·rfl
  ·rfl
 have b:∀ i q,(h.shut a).2.place i=some q->i≠a.region/\h.place i=some q:=fun i q c=>by
  rw[Q] at c
  split at c
  ·cases c
  ·rename_i l;exact⟨l,c⟩
 have T:∀ i q,i≠a.region->h.place i=some q->φ i≠φ a.region:=fun i q c O F=>c (R.inj i _ q p O o F);have N:=Est.shut_yes (e:=e) (j:=φ a.region) k1 V;have S:∀ i,(e.shut (φ a.region)).reg i=if i=φ a.region then none else e.reg i:=fun i=>by rw[N];rfl
 have M:(e.shut (φ a.region)).p.ws=e.p.ws:=by rw[N];exact QdW _ _
 have z:∀ x n,Rep h φ π x n->Rep (h.shut a).2 φ π x n:=fun x n H=>H.mono (by rw[B];simp) (fun k W _ _ K=>⟨W,(b k W K).2,Z,Ze,fun _ _=>rfl⟩);have I:∀ q:Run,q.region≠φ a.region->Qbd e q->Qbd (e.shut (φ a.region)) q:=fun q l o=>((⟨fun x f=>by rw[List.mem_singleton.1 f];exact o,R.clear⟩:Ap e [q]).shut (φ a.region)).run q (by unfold Qlb;simp[l]);refine⟨by rw[B],⟨R.ok.shut _,?_,fun i q c=>?_,fun i u q s c g F=>?_,fun i J d=>?_,((⟨fun q o=>absurd o (by simp),R.clear⟩:Ap e []).shut _).clear,fun i q m t c E=>?_,fun i q m t u s m' t' c E g D l=>R.apart i q m t u s m' t' (b i q c).2 E (b u s g).2 D l⟩,z⟩
 ·have v:=Est.at_some V;rw[B,N]
  show ((h.left+p.pages:Nat):Int)=(e.p.giveAll r.pages).free;rw[Qe5 (by rw[<-v];exact R.ok.nodup _) (fun x f=>R.ok.took (k:=φ a.region) (by rw[v];exact f)),<-R.left,G]
  omega
 ·obtain⟨P,w⟩:=b i q c
  obtain⟨h3,J,d,X⟩:=R.reg i q w
  exact⟨h3,J,by rw[S,Xr (T i q P w)];exact d,X⟩
 ·exact R.inj i u q s (b i q c).2 (b u s g).2 F
 ·rw[S] at d
  split at d
  ·cases d
  ·rename_i l
   obtain⟨k,q,O,A⟩:=R.onto i J d
   refine⟨k,q,by rw[Q,Xr (fun ek=>l (by rw[<-A,ek]))];exact O,A⟩
 ·obtain⟨P,w⟩:=b i q c
  obtain⟨a1,a2,a3,a4⟩:=R.thing i q m t w E
  exact⟨I _ (by simp only;have:=T i q P w;omega) a1,fun y j x f=>by rw[M];exact z _ _ (a2 y j x f),fun y=>by rw[M];exact a3 y,fun y j x f=>by rw[M];exact a4 y j x f⟩
end
theorem XP:type_of% @List.getElem?_append_left:=@List.getElem?_append_left
theorem PSt.puts_same:∀ (l:List Int) (s:PSt) (k:Int),(s.puts k l).pages=s.pages/\(s.puts k l).given=s.given/\(s.puts k l).fresh=s.fresh
 | [],s,k=>⟨Z,Z,Z⟩
 | n::l,s,k=>by
   obtain⟨a,c,b⟩:=PSt.puts_same l (s.store k n) (k+1)
   have:(s.store k n).given=s.given/\(s.store k n).fresh=s.fresh:=by unfold PSt.store;split<;>simp
   show ((s.store k n).puts (k+1) l).pages=_/\((s.store k n).puts (k+1) l).given=_/\((s.store k n).puts (k+1) l).fresh=_;rw[a,c,b]
   exact⟨PSt.pages_store s k n,this.1,this.2⟩
theorem PSt.puts_ws:∀ (l:List Int) (s:PSt) (k:Nat),k+l.length<=16*s.pages->∀ i:Nat,(s.puts (k:Int) l).ws i=if k<=i/\i<k+l.length then l.getD (i - k) 0 else s.ws i
 | [],s,k,h,i=>by rw[Xr (by simp only[List.length_nil];omega)];rfl
 | n::l,s,k,h,i=>by
   have c:s.place (k:Int)=true:=by simp at h;simp[PSt.place];omega
   have d:=PSt.puts_ws l (s.store k n) (k+1) (by rw[PSt.pages_store];simp at h |-;omega) i;show ((s.store k n).puts ((k:Int)+1) l).ws i=_;rw[show ((k:Int)+1)=((k+1:Nat):Int) by omega,d]
   have f:(s.store k n).ws i=if i=k then n else s.ws i:=by
    unfold PSt.store;rw[Xs c];show (if (i:Int)=k then n else s.ws i)=_;by_cases e:i=k
    ·rw[Xs e,Xs (by omega)]
    ·rw[Xr e,Xr (by omega)]
   rw[f]
   simp only[List.length_cons]
   by_cases a:i=k
   ·rw[Xr (by omega),Xs a,Xs (by omega),a];simp
   ·by_cases b:k+1<=i/\i<k+1+l.length
    ·rw[Xs b,Xs (by omega),show i - k=(i - (k+1))+1 by omega];simp
    ·rw[Xr b,Xr a,Xr (by omega)]
theorem PSt.free_take {s:PSt}(h:s.Ok) (a:0<=s.nextK):s.take.free=s.free - 1:=by
 unfold PSt.take;rw[Xr (by omega)]
 have b:s.next.free=s.free - 1:=by
  unfold PSt.nextK at a;unfold PSt.next PSt.free
  cases e:s.given.getLast? with
  | some x =>
    have c:s.given≠[]:=fun f=>by rw[f] at e;cases e
    have:=List.length_pos_iff.2 c
    simp
    omega
  | none =>
    rw[e] at a
    simp only at a |-
    split
    ·rename_i d;rw[Xs d] at a;omega
    ·simp;omega
 exact b
section
variable {h:Qd}{e:Est}{φ:Int->Nat}{π:Int->Nat->Nat}
structure QnR (e e1:Est) (j:Nat) (r:Reg) (n:Int):Prop where
 reg:∃ r1,e1.reg j=some r1/\(r.more n=false/\r1.pages=r.pages/\r1.used=r.used+n/\e1.p=e.p\/r.more n=true/\r1.pages.length=r.pages.length+1/\r1.used=n/\e1.p=e.p.take/\0<=e.p.nextK)
 other:∀ i,i≠j->e1.reg i=e.reg i
 ws:∀ q,Qbd e q->∀ i:Nat,q.at_<=i->i<q.at_+q.n->e1.p.ws i=e.p.ws i
theorem Qlm (ok:e.Ok){r:Reg}{n:Int}(b:j<16) (f:e.reg j=some r) (m:¬ (n<1\/16<n)) :
 (e.getCode j n=14/\r.more n=true/\e.p.nextK<0)\/(e.getCode j n=0/\(r.more n=true->0<=e.p.nextK)/\QnR e (e.got j n) j r n):=by
 cases hm:r.more n with
 | false =>
   obtain⟨k,-,c⟩:=Est.get_room b f m hm
   refine .inr ⟨k,(fun h=>by cases h),?_⟩;rw[c]
   exact⟨⟨⟨r.pages,r.used+n⟩,by simp[Est.set],.inl ⟨hm,Z,Z,Z⟩⟩,fun i l=>by simp[Est.set,l],fun q s i A u=>rfl⟩
 | true =>
   by_cases a:e.p.nextK<0
   ·exact .inl ⟨(Est.get_full b f m hm a).1,Z,a⟩
   ·obtain⟨k,-,c⟩:=Est.get_more b f m hm a
    refine .inr ⟨k,fun _=>by omega,?_⟩;rw[c]
    refine⟨⟨⟨r.pages++[e.p.nextK],n⟩,by simp[Est.set,Est.withP],.inr ⟨hm,by simp,Z,Z,by omega⟩⟩,fun i l=>by simp[Est.set,Est.withP,l],fun q s i A u=>?_⟩
    obtain⟨w,E,o,D,t,y,B,C,-,-⟩:=s
    have d:o∈e.pagesAt w:=by rw[Est.at_some t];exact y
    have v:o≠e.p.nextK:=fun x=>by
     obtain⟨g,-⟩:=ok.tk.take ok.ok (by omega)
     exact g ((ok.tk.mem _).2 (x ▸ ok.took d))
    show e.p.take.ws i=e.p.ws i;unfold PSt.take;rw[Xr a]
    unfold PSt.wipe;have z:e.p.next.ws=e.p.ws:=by unfold PSt.next;split<;>first | rfl | (split<;>rfl)
    simp only
    rw[Xr (by omega),z]
theorem Est.Ok.puts:∀ (l:List Int){e:Est}(k:Int),e.Ok->(e.withP (e.p.puts k l)).Ok
 | [],e,k,h=>h
 | n::l,e,k,h=>Est.Ok.puts l (k+1) (Est.Ok.store h k n)
theorem PSt.free_puts (l:List Int) (s:PSt) (k:Int):(s.puts k l).free=s.free:=by
 obtain⟨a,c,b⟩:=PSt.puts_same l s k
 unfold PSt.free;rw[a,c,b]
def Qmw (h:Qd) (φ:Int->Nat) (π:Int->Nat->Nat) (t:Qw) (l:List Int):Prop :=
 (t.arr=false->l.length=t.l.length/\∀ (j:Nat) x,t.l[j]?=some x->Rep h φ π x (l.getD j 0))/\(t.arr=true->l=[(t.l.length:Int)]/\∀ (j:Nat) x,t.l[j]?=some x->x=Qct 0)
theorem Qw.sz_pos (t:Qw):1<=t.sz:=by unfold Qw.sz;split<;>omega
theorem Qw.sz_l (t:Qw) (a:t.arr=false):t.l.length<=t.sz:=by unfold Qw.sz;rw[Xr (by rw[a];decide)];omega
theorem Qw.sz_a (t:Qw) (a:t.arr=true):t.sz=t.l.length+1:=by unfold Qw.sz;rw[Xs a]
theorem Qa4.tight (R:Qa4 h e φ π){a:Q1}{p:Qr}{r:Reg}(f:r.pages.length=p.pages) (c:p.pages≠0->r.used=p.used){n:Int}(j:1<=n):p.tight n=r.more n:=by
 have i:=Reg.more_iff (r:=r) j;have g:r.pages=[]↔p.pages=0:=by rw[<-Xf,f]
 unfold Qr.tight
 cases e:r.more n with
 | true =>
   rcases i.1 e with d | d
   ·simp[g.1 d]
   ·by_cases b:p.pages=0
    ·simp[b]
    ·rw[<-c b];simp[b];omega
 | false =>
   have d:¬ (r.pages=[]\/16 - r.used<n):=fun h=>by rw[i.2 h] at e;cases e
   have b:¬ p.pages=0:=fun h=>d (.inl (g.2 h));rw[<-c b]
   simp only[b,decide_false,Bool.false_or,decide_eq_false_iff_not]
   omega
theorem Qa4.none (R:Qa4 h e φ π):h.left=0↔e.p.nextK<0:=by
 rw[PSt.nextK_iff R.ok.ok,<-R.left];omega
theorem Qa4.puts (R:Qa4 h e φ π){a:Q1}{p:Qr}(ha:h.at a=some p) (t:Qw) (bb:t.sz<=16) :
 (e.getCode (φ a.region) t.sz≠0/\(h.put a t t.sz).2.1=14)\/(e.getCode (φ a.region) t.sz=0/\(h.put a t t.sz).2.1=0/\0<=e.getAt (φ a.region) t.sz /\
  ∀ l:List Int,Qmw h φ π t l->∃ π',Qa4 (h.put a t t.sz).2.2 ((e.got (φ a.region) t.sz).withP ((e.got (φ a.region) t.sz).p.puts (e.getAt (φ a.region) t.sz) l)) φ π'/\(∀ x n,Rep h φ π x n->Rep (h.put a t t.sz).2.2 φ π' x n)/\Rep (h.put a t t.sz).2.2 φ π' (h.put a t t.sz).1 (e.getAt (φ a.region) t.sz)):=by
 obtain⟨hk,B,j,hj,hL,a8⟩:=Qd.at_some ha
 have ax:=(Zi hL).1;obtain⟨k1,r,hr,N,aj⟩:=R.reg _ p B
 have a7:=t.sz_pos;have o:=R.tight (a:=a) N aj (n:=t.sz) (by omega);rcases Qlm R.ok k1 hr (n:=t.sz) (by omega) with ⟨c1,c2,c3⟩|⟨c1,c2,G⟩
 ·refine .inl ⟨by rw[c1];decide,?_⟩;rw[Qd.put_full t t.sz ha (by rw[o];exact c2) (R.none.2 c3)]
 ·have ao:¬ (p.tight t.sz=true/\h.left=0):=fun ⟨b,E⟩=>by
   have:=c2 (by rw[<-o];exact b)
   have:=R.none.1 E
   omega
  have f:=Qd.put_ok t (t.sz:Int) ha hj ao;have G0:=Qlk R.ok (⟨fun q B=>absurd B (by simp),R.clear⟩:Ap e []) _ _ c1;have G1:=fun (q:Run) (B:Qbd e q)=>Qlk R.ok (⟨fun x z=>by rw[List.mem_singleton.1 z];exact B,R.clear⟩:Ap e [q]) _ _ c1;obtain⟨A,hA⟩:∃ A:Nat,e.getAt (φ a.region) t.sz=A:=⟨(e.getAt (φ a.region) t.sz).toNat,by have:=G0.low;omega⟩
  refine .inr ⟨c1,by rw[f],G0.low,fun l V=>?_⟩;rw[hA]
  have O:(e.got (φ a.region) t.sz).p.pages=e.p.pages:=Est.pages_got e _ _
  have a9:l.length<=t.sz:=by
   cases d:t.arr with
   | true=>rw[(V.2 d).1];simpa using a7
   | false=>rw[(V.1 d).1];exact t.sz_l d
  have a5:=R.ok.got (φ a.region) t.sz;have ws:=PSt.puts_ws l (e.got (φ a.region) t.sz).p A (by have:=G0.high;rw[hA] at this;rw[O];omega);have ak:∀ q,Qbd e q->Qbd (e.got (φ a.region) t.sz) q:=fun q B=>(G1 q B).ap.run q (by simp);have aq:Qbd (e.got (φ a.region) t.sz) ⟨φ a.region,A,t.sz⟩:=by have:=G0.ap.run ⟨φ a.region,e.getAt (φ a.region) t.sz,t.sz⟩ (by simp);rw[hA] at this;exact this
  have ae:=G0.ap.clear;have ag:=G0.zero;rw[hA] at ae ag
  generalize e.got (φ a.region) t.sz=y at *
  have pl:∀ i:Int,(h.put a t t.sz).2.2.place i=if i=a.region then some { p.roomed t.sz with l:=p.l++[t] } else h.place i:=fun i=>by
   rw[f];simp only
   rw[Qd.place_set ax,hj]
   have:({ p.roomed t.sz with l:=p.l++[t] }:Qr).there=true:=by rw[show ({ p.roomed t.sz with l:=p.l++[t] }:Qr).there=(p.roomed t.sz).there from Z,Qr.roomed_there];exact a8
   rw[Xs this]
  refine⟨fun k i=>if k=a.region/\i=p.l.length then A else π k i,?_⟩
  have g:(p.roomed t.sz).pages=(if p.tight t.sz=true then p.pages+1 else p.pages)/\(p.roomed t.sz).used=(if p.tight t.sz=true then (t.sz:Int) else p.used+t.sz):=by unfold Qr.roomed;split<;>simp
  obtain⟨r1,g1,g2⟩:=G.reg
  have K:∀ q,Qbd e q->∀ i:Nat,q.at_<=i->i<q.at_+q.n->(y.p.puts A l).ws i=e.p.ws i:=fun q B i b E=>by
   have:=(G1 q B).apart q (by simp)
   rw[hA] at this
   rw[ws,Xr (by omega)]
   exact G.ws q B i b E
  have T:∀ k v i w,(h.put a t t.sz).2.2.place k=some v->v.l[i]?=some w->(k=a.region/\i=p.l.length/\w=t)\/(¬ (k=a.region/\i=p.l.length)/\∃ F,h.place k=some F/\F.l[i]?=some w):=fun k v i w s D=>by
   rw[pl] at s
   split at s
   ·rename_i u
    cases s
    simp only at D
    rcases Nat.lt_trichotomy i p.l.length with b | b | b
    ·rw[XP b] at D
     exact .inr ⟨fun e=>by omega,p,by rw[u];exact B,D⟩
    ·rw[XQ (by omega),b] at D
     simp at D
     exact .inl ⟨u,b,D.symm⟩
    ·rw[Xk (by simp;omega)] at D;cases D
   ·rename_i u
    exact .inr ⟨fun e=>u e.1,v,s,D⟩
  have ac:∀ x n,Rep h φ π x n->Rep (h.put a t t.sz).2.2 φ (fun k i=>if k=a.region/\i=p.l.length then A else π k i) x n:=fun x n H=>H.mono (by rw[f];simp) (fun k v _ _ c=>by
   rw[pl] at c
   split at c
   ·rename_i u
    cases c
    refine⟨p,by rw[u];exact B,Z,by simp,fun i S=>?_⟩
    rw[Xr (by omega)]
   ·rename_i u
    exact⟨v,c,Z,Ze,fun i S=>by rw[Xr (fun e=>u e.1)]⟩)
  refine⟨⟨Est.Ok.puts l A a5,?_,fun k v s=>?_,fun k k' v Q s c he=>?_,fun i r' J=>?_,?_,fun k v i w s D=>?_,fun k v i w k' Q i' P s D c ar hn=>?_⟩,ac,?_⟩
  ·rw[f]
   show ((h.roomLeft p t.sz:Nat):Int)=(y.p.puts A l).free;rw[PSt.free_puts]
   unfold Qd.roomLeft;rcases g2 with ⟨g0,-,-,M⟩|⟨M,-,-,W,g5⟩
   ·rw[M,<-R.left,Xr (by rw[o,g0];decide)]
   ·rw[Xs (by rw[o];exact M),W,PSt.free_take R.ok.ok g5,<-R.left]
    have:h.left≠0:=fun h0=>ao ⟨by rw[o];exact M,h0⟩
    omega
  ·rw[pl] at s
   split at s
   ·rename_i u
    cases s
    rw[u]
    refine⟨k1,r1,g1,?_,fun _=>?_⟩
    ·rcases g2 with ⟨g0,M,-⟩|⟨M,W,-⟩
     ·rw[M,N];show _=(p.roomed t.sz).pages;rw[g.1,Xr (by rw[o,g0];decide)]
     ·rw[W,N];show _=(p.roomed t.sz).pages;rw[g.1,Xs (by rw[o];exact M)]
    ·rcases g2 with ⟨g0,M,W,-⟩|⟨M,-,W,-⟩
     ·have C:p.pages≠0:=fun h0=>by
       have b:=(Reg.room g0 (by omega)).1;rw[<-N] at h0
       exact b (Xf.1 h0)
      rw[W,aj C];show _=(p.roomed t.sz).used;rw[g.2,Xr (by rw[o,g0];decide)]
     ·rw[W];show _=(p.roomed t.sz).used;rw[g.2,Xs (by rw[o];exact M)]
   ·rename_i u
    obtain⟨b,r',J,E⟩:=R.reg k v s
    exact⟨b,r',by rw[show (y.withP (y.p.puts A l)).reg=y.reg from Z,G.other _ (fun e'=>u (R.inj k _ v p s B e'))];exact J,E⟩
  ·have af:∀ i q,(h.put a t t.sz).2.2.place i=some q->∃ q',h.place i=some q':=fun i q S=>by
    rw[pl] at S
    split at S
    ·rename_i ei;exact⟨p,by rw[ei];exact B⟩
    ·exact⟨q,S⟩
   obtain⟨q,a6⟩:=af k v s
   obtain⟨q',a0⟩:=af k' Q c
   exact R.inj k k' q q' a6 a0 he
  ·have ah:y.reg i=some r':=J;by_cases S:i=φ a.region
   ·exact⟨a.region,_,by rw[pl,Xs Z],S.symm⟩
   ·rw[G.other i S] at ah
    obtain⟨k,q,s,av⟩:=R.onto i r' ah
    exact⟨k,q,by rw[pl,Xr (fun e'=>S (by rw[<-av,e']))];exact s,av⟩
  ·intro i r' J az m ay aw;have b:=ae i r' J az m ay aw;have E:(y.p.fill A (t.sz:Int).toNat).ws m=0:=b;unfold PSt.fill at E;simp only at E
   split at E
   ·cases E
   ·rename_i ba
    show (y.p.puts A l).ws m=0;rw[ws,Xr (by omega)]
    exact E
  ·rcases T k v i w s D with ⟨u,ei,et⟩|⟨hn,F,C,U⟩
   ·subst et;rw[u,ei]
    refine⟨by simp only[and_self,if_true];exact aq,fun d m x z=>?_,fun d=>?_,fun d m x z=>?_⟩
    ·simp only[and_self,if_true]
     have hm:=(Zi z).1;show Rep _ _ _ x ((y.p.puts A l).ws (A+m));rw[ws,Xs (by rw[(V.1 d).1];omega),show A+m - A=m by omega]
     exact ac _ _ ((V.1 d).2 m x z)
    ·simp only[and_self,if_true]
     show (y.p.puts A l).ws A=_;rw[ws,(V.2 d).1,Xs (by simp)]
     first | done | simp
    ·simp only[and_self,if_true]
     have hm:=(Zi z).1;have al:=(V.2 d).2 m x z;refine⟨by rw[al];first | done | rfl,?_⟩
     show (y.p.puts A l).ws (A+1+m)=x.n;rw[ws,(V.2 d).1,Xr (by simp only[List.length_singleton];omega),al]
     have:=ag (1+m) (by rw[w.sz_a d];omega)
     rw[show ((A:Int)+((1+m:Nat):Int)).toNat=A+1+m by omega] at this
     rw[this];rfl
   ·obtain⟨a1,a2,a3,a4⟩:=R.thing k F i w C U
    have hs:=w.sz_pos;refine⟨by simp only[if_neg hn];exact ak _ a1,fun d m x z=>?_,fun d=>?_,fun d m x z=>?_⟩
    ·simp only[if_neg hn]
     have hm:=(Zi z).1
     have:=w.sz_l d
     show Rep _ _ _ x ((y.p.puts A l).ws (π k i+m));rw[K _ a1 (π k i+m) (by simp only;omega) (by simp only;omega)]
     exact ac _ _ (a2 d m x z)
    ·simp only[if_neg hn]
     show (y.p.puts A l).ws (π k i)=_;rw[K _ a1 (π k i) (by simp only;omega) (by simp only;omega)]
     exact a3 d
    ·simp only[if_neg hn]
     have hm:=(Zi z).1
     have:=w.sz_a d
     refine⟨(a4 d m x z).1,?_⟩
     show (y.p.puts A l).ws (π k i+1+m)=_;rw[K _ a1 (π k i+1+m) (by simp only;omega) (by simp only;omega)]
     exact(a4 d m x z).2
  ·have an:∀ k0 F i0 t0,h.place k0=some F->F.l[i0]?=some t0->¬ (A<π k0 i0+t0.sz/\π k0 i0<A+t.sz):=fun k0 F i0 t0 b E=>by
    have:=(G1 _ (R.thing k0 F i0 t0 b E).run).apart ⟨φ k0,π k0 i0,t0.sz⟩ (by simp)
    rw[hA] at this
    simp only at this
    omega
   rcases T k v i w s D with ⟨u,ei,et⟩|⟨ai,F,C,U⟩
   ·rcases T k' Q i' P c ar with ⟨aa,ab,au⟩|⟨ad,X,I,L⟩
    ·exact absurd ⟨by rw[u,aa],by rw[ei,ab]⟩ hn
    ·simp only[if_pos (And.intro u ei),if_neg ad]
     rw[et]
     exact an k' X i' P I L
   ·rcases T k' Q i' P c ar with ⟨aa,ab,au⟩|⟨ad,X,I,L⟩
    ·simp only[if_pos (And.intro aa ab),if_neg ai]
     rw[au]
     have:=an k F i w C U
     omega
    ·simp only[if_neg ai,if_neg ad]
     exact R.apart k F i w k' X i' P C U I L hn
  ·rw[f]
   refine⟨fun b=>?_,fun _=>⟨by simp only;omega,by simp;omega,fun v c=>⟨fun b=>?_,fun _=>?_⟩⟩⟩
   ·exfalso;unfold Qw.knd at b;simp only at b;split at b<;>omega
   ·exfalso;unfold Qw.knd at b;simp only at b;split at b<;>omega
   ·have am:(h.put a t t.sz).2.2.place j=some v:=by rw[f];exact c
    rw[pl,Xs hj.symm] at am
    cases am
    refine⟨by simp,by simp,?_⟩
    simp[hj]
end
section
variable {h:Qd}{e:Est}{φ:Int->Nat}{π:Int->Nat->Nat}
theorem PSt.load_at {s:PSt}(a:k<16*s.pages):s.load (k:Int)=s.ws k:=by
 unfold PSt.load PSt.place;rw[Xs (by simp;omega),XT]
theorem Qbd.low {q:Run}(c:Qbd e q) (ok:e.Ok):0<=q.at_/\q.at_+q.n<=16*e.p.pages:=by
 obtain⟨j,r,p,h,b,d,f,g,i,-⟩:=c
 have a:p∈e.pagesAt j:=by rw[Est.at_some b];exact d
 have:=ok.low a
 omega
theorem Qbd.out {q:Run}(l:Qbd e q) (ok:e.Ok){r:Reg}(a:e.reg j=some r) (b:r.pages≠[])(B:16*r.pages.getLastD 0+r.used<=i) (w:(i:Int)<16*r.pages.getLastD 0+16):¬ (q.at_<=i/\i<q.at_+q.n):=fun ⟨t,s⟩=>by
 obtain⟨f,y,p,x,c,o,u,v,A,h⟩:=l
 have m:p∈e.pagesAt f:=by rw[Est.at_some c];exact o
 have k:r.pages.getLastD 0∈e.pagesAt j:=by rw[Est.at_some a];exact Qcz b
 have z:=ok.used j r a;have d:p=r.pages.getLastD 0:=by omega
 have g:=ok.apart f j p m (d ▸ k);subst g;rw[c] at a
 cases a
 have:=h d
 omega
theorem Qa4.at (R:Qa4 h e φ π){x:Q1}{n:Int}(H:Rep h φ π x n){t:Qw}(f:h.thing x=some t):n=π x.region x.thing.toNat/\Qmb h e φ π x.region x.thing.toNat t:=by
 obtain⟨l,p,a,k,b,i⟩:=Qd.thing_iff.1 f
 obtain⟨j,g,d⟩:=H.2 (by omega)
 obtain⟨-,c⟩:=d p a
 exact⟨(c (by omega)).2.2,R.thing _ p _ t a b⟩
theorem Qa4.load (R:Qa4 h e φ π){k:Int}{t:Qw}(T:Qmb h e φ π k i t)(a:m<t.sz):e.p.load ((π k i+m:Nat):Int)=e.p.ws (π k i+m) :=
 PSt.load_at (by have:=T.run.low R.ok;simp only at this;omega)
theorem Qa4.get (R:Qa4 h e φ π){x:Q1}{n:Int}(H:Rep h φ π x n) (o:x.kind=3){k:Int}(a:(h.get x k).2=0):0<=k/\k<16/\Rep h φ π (h.get x k).1 (e.p.load (n+k)):=by
 unfold Qd.get at a |-
 cases ht:h.thing x with
 | none=>rw[ht] at a;cases a
 | some t =>
   rw[ht] at a
   simp only at a |-
   by_cases c:k<0
   ·rw[Xs c] at a;cases a
   ·rw[Xr c] at a |-
    cases hy:t.l[k.toNat]? with
    | none=>rw[hy] at a;cases a
    | some y =>
      obtain⟨i,T⟩:=R.at H ht
      have b:t.arr=false:=by
       obtain⟨-,p,-,-,-,b⟩:=Qd.thing_iff.1 ht
       rw[b];simp[o]
      have f:=(Zi hy).1;have q:=t.sz_l b;have j:=T.run
      have g:t.sz<=16:=by
       obtain⟨_,_,_,_,_,_,d,m,_,_⟩:=j
       simp only at d m;omega
      refine⟨by omega,by omega,?_⟩
      simp only
      have:=T.tuple b k.toNat y hy
      rw[i,show ((π x.region x.thing.toNat:Int)+k)=((π x.region x.thing.toNat+k.toNat:Nat):Int) by omega,R.load T (by omega)]
      exact this
theorem Qa4.len (R:Qa4 h e φ π){x:Q1}{n:Int}(H:Rep h φ π x n) (d:x.kind=4) (a:(h.len x).2=0):e.p.load n=(h.len x).1:=by
 unfold Qd.len at a |-
 cases ht:h.thing x with
 | none=>rw[ht] at a;cases a
 | some t =>
   obtain⟨c,T⟩:=R.at H ht
   have b:t.arr=true:=by
    obtain⟨-,p,-,-,-,b⟩:=Qd.thing_iff.1 ht
    rw[b];simp[d]
   have:=R.load T (m:=0) t.sz_pos
   rw[Nat.add_zero] at this
   simp only
   rw[c,this,T.len b]
theorem Qa4.num (R:Qa4 h e φ π){x:Q1}{n:Int}(H:Rep h φ π x n) (q:x.kind=4){k:Int}(b:(h.get x k).2=0\/(h.get x k).2=1) :
 ((h.get x k).2=1↔¬ (0<=k/\k<e.p.load n))/\((h.get x k).2=0->(h.get x k).1.kind=1/\e.p.load (n+1+k)=(h.get x k).1.n/\n+1+k<2000/\0<=n/\0<=k):=by
 unfold Qd.get at b |-
 cases ht:h.thing x with
 | none=>rw[ht] at b;simp at b
 | some t =>
   obtain⟨c,T⟩:=R.at H ht
   have a:t.arr=true:=by
    obtain⟨-,p,-,-,-,a⟩:=Qd.thing_iff.1 ht
    rw[a];simp[q]
   have g:e.p.load n=t.l.length:=by
    have:=R.load T (m:=0) t.sz_pos
    rw[Nat.add_zero] at this
    rw[c,this,T.len a]
   rw[g]
   simp only
   by_cases d:k<0
   ·rw[Xs d]
    refine⟨⟨fun _=>by omega,fun _=>rfl⟩,fun h=>by cases h⟩
   ·rw[Xr d]
    cases hy:t.l[k.toNat]? with
    | none =>
      have:=List.getElem?_eq_none_iff.1 hy
      exact⟨⟨fun _=>by omega,fun _=>rfl⟩,fun h=>by cases h⟩
    | some y =>
      have f:=(Zi hy).1;refine⟨⟨fun h=>(by cases h),fun h=>absurd ⟨by omega,by omega⟩ h⟩,fun _=>?_⟩
      obtain⟨o,i⟩:=T.nums a k.toNat y hy
      have j:=T.run.low R.ok;have s:=R.ok.ok.most;have r:=t.sz_a a;simp only at j |-
      refine⟨o,?_,by omega,by omega,by omega⟩
      rw[c,show ((π x.region x.thing.toNat:Int)+1+k)=((π x.region x.thing.toNat+(1+k.toNat):Nat):Int) by omega,R.load T (by omega),show π x.region x.thing.toNat+(1+k.toNat)=π x.region x.thing.toNat+1+k.toNat by omega]
      exact i
theorem Qa4.set (R:Qa4 h e φ π){x:Q1}{n:Int}(H:Rep h φ π x n){t:Qw}(ht:h.thing x=some t)(hk:k<t.l.length){y:Q1}{z:Int}
 (hy:t.arr=false→Rep h φ π y z) (hz:t.arr=true→y.kind=1∧z=y.n) :
 (h.set x (k:Int) y).1=0∧Qa4 (h.set x (k:Int) y).2 (e.withP (e.p.store (n+k+(if t.arr then 1 else 0)) z)) φ π∧∀ v m,Rep h φ π v m→Rep (h.set x (k:Int) y).2 φ π v m:=by
 obtain⟨ak,p,I,h0,hi,ha⟩:=Qd.thing_iff.1 ht
 obtain⟨hn,T⟩:=R.at H ht
 obtain⟨q0,q1,q2⟩:=Qd.place_some I
 have ae:=(Zi q1).1
 have eS:h.set x (k:Int) y=(0,{ h with L:=h.L.set x.region.toNat { p with l:=p.l.set x.thing.toNat { t with l:=t.l.set k y } } }):=by
  unfold Qd.set;rw[ht,I]
  simp only
  rw[Xr (fun c=>c.2 (hz c.1).1),Xr (by omega),XT]
 have U:((x.region.toNat:Nat):Int)=x.region:=by omega
 have N:∀ i,(h.set x (k:Int) y).2.place i=if i=x.region then some { p with l:=p.l.set x.thing.toNat { t with l:=t.l.set k y } } else h.place i:=fun i=>by
  rw[eS];simp only
  rw[Qd.place_set ae,U]
  simp only[q2,if_true]
 -- the word
 obtain⟨A,C⟩:∃ A,π x.region x.thing.toNat+k+(if t.arr then 1 else 0)=A:=⟨_,Z⟩
 have al:π x.region x.thing.toNat≤A∧A<π x.region x.thing.toNat+t.sz:=by
  cases g:t.arr with
  | true=>rw[g] at C;have:=t.sz_a g;simp at C;omega
  | false=>rw[g] at C;have:=t.sz_l g;simp at C;omega
 have aa:=T.run.low R.ok;simp only at aa
 have eA:(n+k+(if t.arr then 1 else 0):Int)=(A:Int):=by
  rw[hn,← C]
  cases t.arr<;>simp
 have ai:e.p.place (A:Int)=true:=by simp[PSt.place];omega
 have es:e.p.store (n+k+(if t.arr then 1 else 0)) z={ e.p with ws:=fun i=>if (i:Int)=A then z else e.p.ws i }:=by
  rw[eA];unfold PSt.store;rw[Xs ai]
 rw[es]
 have ws:∀ i:Nat,(if (i:Int)=A then z else e.p.ws i)=if i=A then z else e.p.ws i:=fun i=>by
  by_cases c:i=A
  ·rw[Xs c,Xs (by omega)]
  ·rw[Xr c,Xr (by omega)]
 have F:∀ v m,Rep h φ π v m→Rep (h.set x (k:Int) y).2 φ π v m:=fun v m Hv=>Hv.mono (by rw[eS];simp) (fun j o _ _ a=>by
  rw[N] at a
  split at a
  ·rename_i u;cases a;exact⟨p,by rw[u];exact I,Z,by simp,fun _ _=>rfl⟩
  ·exact⟨o,a,Z,Ze,fun _ _=>rfl⟩)
 have X:∀ j o i f,(h.set x (k:Int) y).2.place j=some o→o.l[i]?=some f→(j=x.region∧i=x.thing.toNat∧f={ t with l:=t.l.set k y })∨(¬ (j=x.region∧i=x.thing.toNat)∧∃ w,h.place j=some w∧w.l[i]?=some f):=fun j o i f a d=>by
  rw[N] at a
  split at a
  ·rename_i u
   cases a
   simp only at d
   by_cases G:i=x.thing.toNat
   ·subst G
    have:=(Zi hi).1
    rw[List.getElem?_set_self this] at d
    cases d
    exact .inl ⟨u,Z,Z⟩
   ·rw[List.getElem?_set_ne (Ne.symm G)] at d
    exact .inr ⟨fun c=>G c.2,p,by rw[u];exact I,d⟩
  ·rename_i u
   exact .inr ⟨fun c=>u c.1,o,a,d⟩
 have ad:({ t with l:=t.l.set k y }:Qw).sz=t.sz:=by unfold Qw.sz;simp
 have B:∀ (j:Int) (o:Qr) (i:Nat) (f:Qw),(h.set x (k:Int) y).2.place j=some o→o.l[i]?=some f→∃ (w:Qr) (t0:Qw),h.place j=some w∧w.l[i]?=some t0∧f.sz=t0.sz:=fun j o i f P O=>by
  rcases X j o i f P O with ⟨u,G,et⟩|⟨-,w,h3,h4⟩
  ·exact⟨p,t,by rw[u];exact I,by rw[G];exact hi,by rw[et,ad]⟩
  ·exact⟨w,f,h3,h4,Z⟩
 refine⟨by rw[eS],⟨⟨⟨R.ok.ok.most,R.ok.ok.low,R.ok.ok.high,R.ok.ok.nodup,R.ok.ok.mem⟩,R.ok.top,R.ok.nodup,R.ok.apart,R.ok.mem,R.ok.used⟩,by rw[eS];exact R.left,fun j o a=>?_,fun j W o M a D he=>?_,fun i r hr=>?_,fun j r hr E i P O=>?_,fun j o i f a d=>?_,fun j o i f W M i' af a d D ab ag=>?_⟩,F⟩
 ·rw[N] at a
  split at a
  ·rename_i u;cases a;rw[u];exact R.reg _ p I
  ·exact R.reg j o a
 ·have S:∀ i q,(h.set x (k:Int) y).2.place i=some q→∃ q',h.place i=some q':=fun i q K=>by
   rw[N] at K
   split at K
   ·rename_i G;exact⟨p,by rw[G];exact I⟩
   ·exact⟨q,K⟩
  obtain⟨q,K⟩:=S j o a
  obtain⟨q',ah⟩:=S W M D
  exact R.inj j W q q' K ah he
 ·obtain⟨j,q,K,hj⟩:=R.onto i r hr
  by_cases u:j=x.region
  ·exact⟨j,_,by rw[N,Xs u],hj⟩
  ·exact⟨j,q,by rw[N,Xr u];exact K,hj⟩
 ·show (if (i:Int)=A then z else e.p.ws i)=0;rw[ws,Xr (fun c=>T.run.out R.ok hr E P O (by subst c;simp only;omega))]
  exact R.clear j r hr E i P O
 ·rcases X j o i f a d with ⟨u,G,et⟩|⟨E,w,V,ac⟩
  ·subst et;rw[u,G]
   refine⟨by rw[ad];exact T.run,fun g m v s=>?_,fun g=>?_,fun g m v s=>?_⟩
   ·have b:t.arr=false:=g;show Rep _ _ _ v (if ((π x.region x.thing.toNat+m:Nat):Int)=A then z else _);rw[ws]
    rw[b] at C
    simp at C
    simp only at s
    by_cases J:m=k
    ·subst J;rw[List.getElem?_set_self hk] at s
     cases s
     rw[Xs (by omega)]
     exact F _ _ (hy b)
    ·rw[List.getElem?_set_ne (Ne.symm J)] at s
     rw[Xr (by omega)]
     exact F _ _ (T.tuple b m v s)
   ·have b:t.arr=true:=g;show (if ((π x.region x.thing.toNat:Nat):Int)=A then z else _)=_;rw[b] at C
    simp at C
    rw[ws,Xr (by omega),T.len b]
    simp
   ·have b:t.arr=true:=g;show v.kind=1∧(if ((π x.region x.thing.toNat+1+m:Nat):Int)=A then z else _)=_;rw[ws]
    rw[b] at C
    simp at C
    simp only at s
    by_cases J:m=k
    ·subst J;rw[List.getElem?_set_self hk] at s
     cases s
     rw[Xs (by omega)]
     exact hz b
    ·rw[List.getElem?_set_ne (Ne.symm J)] at s
     rw[Xr (by omega)]
     exact T.nums b m v s
  ·have Q:=R.thing j w i f V ac;have aj:=R.apart j w i f x.region p x.thing.toNat t V ac I hi (fun c=>E c);have hs:=f.sz_pos;refine⟨Q.run,fun g m v s=>?_,fun g=>?_,fun g m v s=>?_⟩
   ·have J:=(Zi s).1
    have:=f.sz_l g
    show Rep _ _ _ v (if ((π j i+m:Nat):Int)=A then z else _);rw[ws,Xr (by omega)]
    exact F _ _ (Q.tuple g m v s)
   ·show (if ((π j i:Nat):Int)=A then z else _)=_;rw[ws,Xr (by omega)]
    exact Q.len g
   ·have J:=(Zi s).1
    have:=f.sz_a g
    refine⟨(Q.nums g m v s).1,?_⟩
    show (if ((π j i+1+m:Nat):Int)=A then z else _)=_;rw[ws,Xr (by omega)]
    exact(Q.nums g m v s).2
 ·obtain⟨w,t0,P,O,h3⟩:=B j o i f a d
  obtain⟨p1,t1,h4,h5,h6⟩:=B W M i' af D ab
  rw[h3,h6]
  exact R.apart j w i t0 W p1 i' t1 P O h4 h5 ag
end
structure FrR (h:Qd) (φ:Int->Nat) (π:Int->Nat->Nat) (a:IFr) (b:RFr):Prop where
 eF:b.f=a.f
 eB:b.b=a.b
 eI:b.i=a.i
 len:b.v.length=a.v.length
 val:∀ (j:Nat) x n,a.v[j]?=some x->b.v[j]?=some n->Rep h φ π x n
def Qd9 (h:Qd) (φ:Int->Nat) (π:Int->Nat->Nat):List IFr->List RFr->Prop
 | [],[]=>True
 | a::l,b::k=>FrR h φ π a b/\Qd9 h φ π l k
 | _,_=>False
structure Sim (φ:Int->Nat) (π:Int->Nat->Nat) (M:IM) (R:RM):Prop where
 heap:Qa4 M.h R.e φ π
 done:R.done=M.done
 out:R.out=M.out
 back:R.back=M.back
 fuel:R.fuel=M.fuel
 fin:R.fin=M.fin
 inp:M.done=false->R.inp=M.inp
 top:M.done=false->FrR M.h φ π M.top R.top
 rest:M.done=false->Qd9 M.h φ π M.rest R.rest
def Qex (M:IM) (R:RM):Prop:=∃ φ π,Sim φ π M R
section
variable {h h':Qd}{e:Est}{φ φ':Int->Nat}{π π':Int->Nat->Nat}{M:IM}{R:RM}{x:Qt}{a:IFr}{b:RFr}
theorem FrR.mono (F:FrR h φ π a b) (d:∀ x n,Rep h φ π x n->Rep h' φ' π' x n):FrR h' φ' π' a b:=⟨F.eF,F.eB,F.eI,F.len,fun j x n c e=>d x n (F.val j x n c e)⟩
theorem Qd9.mono (c:∀ x n,Rep h φ π x n->Rep h' φ' π' x n):∀ {l:List IFr}{k:List RFr},Qd9 h φ π l k->Qd9 h' φ' π' l k
 | [],[],_=>trivial
 | a::l,b::k,H=>⟨H.1.mono c,Qd9.mono c H.2⟩
 | [],_::_,H=>H.elim
 | _::_,[],H=>H.elim
theorem Qd9.length:∀ {l:List IFr}{k:List RFr},Qd9 h φ π l k->k.length=l.length
 | [],[],_=>rfl
 | a::l,b::k,H=>congrArg (·+1) (Qd9.length H.2)
 | [],_::_,H=>H.elim
 | _::_,[],H=>H.elim
theorem FrR.at (F:FrR h φ π a b){k:Int}{x:Q1}(c:QQ a.v k=some x):∃ n,iAt b.v k=some n/\Rep h φ π x n:=by
 unfold QQ at c;unfold iAt;split at c
 ·cases c
 ·rename_i f
  rw[Xr f]
  have e:=(Zi c).1;obtain⟨n,d⟩:∃ n,b.v[k.toNat]?=some n:=⟨_,Zg (by rw[F.len];exact e)⟩
  exact⟨_,d,F.val _ x _ c d⟩
theorem FrR.num (F:FrR h φ π a b){k n:Int}(c:QS a.v k=some n):iAt b.v k=some n:=by
 unfold QS at c
 cases hv:QQ a.v k with
 | none=>rw[hv] at c;cases c
 | some y =>
   rw[hv] at c
   simp only at c
   split at c
   ·rename_i f
    cases c
    obtain⟨m,d,e⟩:=F.at hv
    rw[d,e.1 f]
   ·cases c
theorem FrR.all (F:FrR h φ π a b):∀ {l:List Int}{xs:List Q1},Q9 a.v l=some xs->∃ ns,QaA b.v l=some ns/\xs.length=l.length/\ns.length=xs.length/\∀ (j:Nat) x n,xs[j]?=some x->ns[j]?=some n->Rep h φ π x n
 | [],xs,hx=>by cases hx;exact⟨[],Z,Z,Z,fun j x n h=>by simp at h⟩
 | k::l,xs,hx=>by
   simp only[Q9] at hx
   cases h1:QQ a.v k with
   | none=>rw[h1] at hx;cases hx
   | some y =>
     rw[h1] at hx
     simp only at hx
     cases h2:Q9 a.v l with
     | none=>rw[h2] at hx;cases hx
     | some ys =>
       rw[h2] at hx
       simp only at hx
       cases hx
       obtain⟨n,f,e⟩:=F.at h1
       obtain⟨ns,p,o,i,g⟩:=F.all h2
       refine⟨n::ns,by simp only[QaA,f,p],by simp[o],by simp[i],fun j z m c d=>?_⟩
       cases j with
       | zero=>simp at c d;subst c d;exact e
       | succ j=>exact g j z m (by simpa using c) (by simpa using d)
theorem FrR.nums (F:FrR h φ π a b):∀ {l:List Int}{ns:List Int},Qcl a.v l=some ns->QaA b.v l=some ns
 | [],ns,hx=>by cases hx;rfl
 | k::l,ns,hx=>by
   simp only[Qcl] at hx
   cases h1:QS a.v k with
   | none=>rw[h1] at hx;cases hx
   | some y =>
     rw[h1] at hx
     simp only at hx
     cases h2:Qcl a.v l with
     | none=>rw[h2] at hx;cases hx
     | some ys =>
       rw[h2] at hx
       simp only at hx
       cases hx
       simp only[QaA,F.num h1,F.nums h2]
theorem FrR.push (F:FrR h φ π a b){xs:List Q1}{ns:List Int}(g:ns.length=xs.length) (l:∀ (j:Nat) x n,xs[j]?=some x->ns[j]?=some n->Rep h φ π x n) (i j:Nat) (f:j=i):FrR h φ π ({ a with v:=a.v++xs,i:=i }) ({ b with v:=b.v++ns,i:=j }):=by
 refine⟨F.eF,F.eB,f,by simp[F.len,g],fun k x n e d=>?_⟩
 simp only at e d
 rcases Nat.lt_or_ge k a.v.length with c | c
 ·rw[XP c] at e
  rw[XP (by rw[F.len];exact c)] at d
  exact F.val k x n e d
 ·rw[XQ c] at e
  rw[XQ (by rw[F.len];exact c),F.len] at d
  exact l _ x n e d
theorem Qee (n:Int):Rep h φ π (Qct n) n:=⟨fun _=>rfl,fun a=>by unfold Qct at a;simp at a⟩
theorem Sim.over {H:Qa4 M.h R.e φ π}(a:R.out=M.out) (c:R.back=M.back) (b:R.fuel=M.fuel) (k:Int):Qex (M.over k) (R.over k) :=
 ⟨φ,π,H,Z,a,c,b,Z,(fun h=>by cases h),(fun h=>by cases h),(fun h=>by cases h)⟩
end
theorem Zn {a:Nat->Int}{t u:TT (n+1)}(h:t.ren m a=some u):u.1=t.1/\ZK m a t.1 t.2.1=some u.2.1/\ZT (TT.ren m a) t.2.2=some u.2.2:=by
 simp only[TT.ren] at h
 cases e1:ZK m a t.1 t.2.1 with
 | none=>simp[e1] at h
 | some r1 =>
   simp only[e1] at h
   cases e2:ZT (TT.ren m a) t.2.2 with
   | none=>simp[e2] at h
   | some l1 =>
     simp only[e2] at h
     have h:=Xn h;subst h;exact⟨Z,Z,Z⟩
theorem ZV {a:Nat->Int}{t:TT (n+1)}{r:Int}{l:List (TT n)}(b:ZK m a t.1 t.2.1=some r) (c:ZT (TT.ren m a) t.2.2=some l):t.ren m a=some ((t.1,r,l):Int × Int × List (TT n)):=by
 simp only[TT.ren,b,c]
 rfl
theorem TT.ren_inv {m b:Nat}{d a:Nat->Int}(l:∀ k r r',ZK m d k r=some r'->ZK b a k r'=some r):{n:Nat}->{t u:TT n}->t.ren m d=some u->u.ren b a=some t
 | 0,t,_,_=>Empty.elim t
 | n+1,t,u,h=>by
   obtain⟨f,o,s⟩:=Zn h
   obtain⟨g,p⟩:=ZS.1 s
   have q:ZT (TT.ren b a) u.2.2=some t.2.2:=by
    refine ZS.2 ⟨g.symm,fun i x e=>?_⟩;have c:i<t.2.2.length:=by rw[<-g];exact(Zi e).1
    have j:=p i t.2.2[i] (Zg c);rw[e] at j
    rw[Zg c]
    exact TT.ren_inv l j
   have:=ZV (t:=u) (by rw[f];exact l _ _ _ o) q
   rw[this,f]
   rfl
theorem TT.ren_comp {m g e:Nat}{o d a:Nat->Int}(s:∀ k r r',ZK m o k r=some r'->∃ r'',ZK g d k r'=some r''/\ZK e a k r=some r''):{n:Nat}->{t u:TT n}->t.ren m o=some u->∃ v,u.ren g d=some v/\t.ren e a=some v
 | 0,t,_,_=>Empty.elim t
 | n+1,t,u,h=>by
   obtain⟨p,w,D⟩:=Zn h
   obtain⟨r'',L,J⟩:=s _ _ _ w
   obtain⟨F,A⟩:=ZS.1 D
   have j:∀ (l c:List (TT n)),c.length=l.length->(∀ (i:Nat) x,l[i]?=some x->x.ren m o=c[i]?)->∃ b,ZT (TT.ren g d) c=some b/\ZT (TT.ren e a) l=some b:=by
    intro l
    induction l with
    | nil =>
      intro c f _
      have:c=[]:=Xf.1 f
      subst this;exact⟨[],Z,Z⟩
    | cons x xs ih =>
      intro c f q
      cases c with
      | nil=>simp at f
      | cons y ys =>
        obtain⟨v,I,B⟩:=TT.ren_comp s (t:=x) (u:=y) (by simpa using q 0 x Z)
        obtain⟨C,E,G⟩:=ih ys (by simpa using f) (fun i z H=>by simpa using q (i+1) z (by simpa using H))
        exact⟨v::C,by simp[ZT,I,E],by simp[ZT,B,G]⟩
   obtain⟨b,M,K⟩:=j t.2.2 u.2.2 F A
   refine⟨((t.1,r'',b):Int × Int × List (TT n)),?_,ZV J K⟩
   have:=ZV (t:=u) (by rw[p];exact L) M
   rw[this,p]
   rfl
theorem TT.at_back:{j:Nat}->(k:Nat)->(t:TT (j+1))->t.height<=k->((t.at k).at j:TT (j+1))=t
 | 0,0,t,h=>by
   obtain⟨a,b,l⟩:=t
   cases l with
   | nil=>rfl
   | cons x l=>exact Empty.elim x
 | 0,k+1,t,h=>by
   obtain⟨a,b,l⟩:=t
   cases l with
   | nil=>rfl
   | cons x l=>exact Empty.elim x
 | j+1,0,t,h=>by
   have:=(Q8 (t:=t)).1 h
   obtain⟨a,b,l⟩:=t
   cases l with
   | nil=>rfl
   | cons x l=>have:=this x (by simp);omega
 | j+1,k+1,t,h=>by
   have c:=(Q8 (t:=t)).1 h;obtain⟨a,b,l⟩:=t
   show ((a,b,(l.map (TT.at k)).map (TT.at j)):Int × Int × List (TT (j+1)))=(a,b,l)
   have:(l.map (TT.at k)).map (TT.at j)=l:=by
    rw[List.map_map]
    have e:∀ x∈l,((TT.at j ∘ TT.at k) x:TT (j+1))=x:=fun x d=>TT.at_back k x (by have:=c x d;omega)
    calc l.map (TT.at j ∘ TT.at k)=l.map id:=List.map_congr_left e
     _=l:=List.map_id l
   rw[this]
theorem QhY {n m k:Nat}{a:Nat->Int}:∀ {l l':List (TT n)},(∀ x∈l,∀ u,x.ren m a=some u->(x.at k).ren m a=some (u.at k))->ZT (TT.ren m a) l=some l'->ZT (TT.ren m a) (l.map (TT.at k))=some (l'.map (TT.at k))
 | [],l',_,h=>by simp[ZT] at h;subst h;rfl
 | x::xs,l',hx,h=>by
   simp only[ZT] at h
   cases h1:x.ren m a with
   | none=>simp[h1] at h
   | some y =>
     simp only[h1] at h
     cases h2:ZT (TT.ren m a) xs with
     | none=>simp[h2] at h
     | some ys =>
       simp only[h2] at h
       cases h
       have d:=hx x (by simp) y h1;have c:=QhY (k:=k) (fun z b=>hx z (by simp[b])) h2;simp only[List.map_cons,ZT,d,c]
theorem TT.ren_at {m:Nat}{a:Nat->Int}:{n:Nat}->(k:Nat)->{t u:TT n}->t.ren m a=some u->(t.at k).ren m a=some (u.at k)
 | 0,_,t,_,_=>Empty.elim t
 | n+1,0,t,u,h=>by
   obtain⟨c,b,d⟩:=Zn h
   have:(t.at 0).ren m a=some (((t.at 0).1,u.2.1,[]):Int × Int × List (TT 0)):=ZV (t:=t.at 0) b Z
   rw[this]
   show some ((t.1,u.2.1,[]):Int × Int × List (TT 0))=some ((u.1,u.2.1,[]):Int × Int × List (TT 0));rw[c]
 | n+1,k+1,t,u,h=>by
   obtain⟨c,b,d⟩:=Zn h
   have e:=QhY (k:=k) (fun x _ v f=>TT.ren_at k f) d
   have:(t.at (k+1)).ren m a=some (((t.at (k+1)).1,u.2.1,u.2.2.map (TT.at k)):Int × Int × List (TT (k+1))):=ZV (t:=t.at (k+1)) b e
   rw[this]
   show some ((t.1,u.2.1,u.2.2.map (TT.at k)):Int × Int × List (TT (k+1)))=some ((u.1,u.2.1,u.2.2.map (TT.at k)):Int × Int × List (TT (k+1)));rw[c]
theorem Qeg {α:Type}{f:α->Option α}:∀ {l l':List α}{i:Nat}{x:α},ZT f l=some l'->l[i]?=some x->∃ y,l'[i]?=some y/\f x=some y
 | [],_,_,_,_,h=>by simp at h
 | z::zs,l',i,x,h,hx=>by
   simp only[ZT] at h
   cases h1:f z with
   | none=>simp[h1] at h
   | some y =>
     simp only[h1] at h
     cases h2:ZT f zs with
     | none=>simp[h2] at h
     | some ys =>
       simp only[h2] at h
       cases h
       cases i with
       | zero=>simp at hx;subst hx;exact⟨y,by simp,h1⟩
       | succ i=>simpa using Qeg (i:=i) h2 (by simpa using hx)
abbrev Sig:=Int->Nat->Option (TT 6)
def Qea (s:Sig) (x:Q1) (t:TT 6):Prop :=
 (t.kind=1/\x.kind=1)\/(t.kind=2/\x.kind=2/\x.region=t.r)\/((t.kind=3\/t.kind=4)/\x.kind=t.kind/\x.region=t.r/\0<=x.thing/\s x.region x.thing.toNat=some t)
def Sig.le (s s':Sig):Prop:=∀ k i t,s k i=some t->s' k i=some t
theorem Qea.mono {s b:Sig}(h:s.le b){x:Q1}{t:TT 6}(f:Qea s x t):Qea b x t:=by
 rcases f with a | a | ⟨a,d,e,c,g⟩
 ·exact .inl a
 ·exact .inr (.inl a)
 ·exact .inr (.inr ⟨a,d,e,c,h _ _ _ g⟩)
def QbB (s:Sig) (t:Qw) (u:TT 6):Prop :=
 (t.arr=true/\u.kind=4/\∀ (y:Q1),y∈t.l->y.kind=1) \/
 (t.arr=false/\u.kind=3/\t.l.length=u.2.2.length/\∀ (j:Nat) (y:Q1) (w:TT 5),t.l[j]?=some y->u.2.2[j]?=some w->Qea s y (w.at 5))
theorem QbB.mono {s b:Sig}(h:s.le b){t:Qw}{u:TT 6}(f:QbB s t u):QbB b t u:=by
 rcases f with a | ⟨a,d,e,c⟩
 ·exact .inl a
 ·exact .inr ⟨a,d,e,fun j y w i g=>(c j y w i g).mono h⟩
structure StT (s:Sig) (h:Qd):Prop where
 thing:∀ (k:Int) (p:Qr) (i:Nat) (t:Qw),h.place k=some p->p.l[i]?=some t->∃ u,s k i=some u/\u.r=k/\QbB s t u
 there:∀ (k:Int) (p:Qr) (i:Nat) (u:TT 6),h.place k=some p->s k i=some u->∃ t,p.l[i]?=some t
 range:∀ (k:Int) (i:Nat) (u:TT 6),s k i=some u->0<=k/\k<h.L.length
theorem StT.new (n:Nat):StT (fun _ _=>none) (Qd.new n):=⟨fun k p i t a=>by unfold Qd.place at a;simp[Qd.new] at a,fun k p i u a h=>(nomatch h),fun k i u h=>(nomatch h)⟩
theorem StT.open {s:Sig}{h:Qd}(S:StT s h):StT s h.open_.2.2:=by
 unfold Qd.open_;split
 ·exact S
 ·have d:=fun j=>Qd.place_push h newP j h.left;refine⟨fun k p i t a f=>?_,fun k p i u a b=>?_,fun k i u b=>?_⟩
  ·rw[d] at a
   by_cases e:k=h.L.length
   ·rw[Xs e] at a
    have c:some newP=some p:=a
    cases c;simp[newP] at f
   ·rw[Xr e] at a;exact S.thing k p i t a f
  ·rw[d] at a
   by_cases e:k=h.L.length
   ·have:=S.range k i u b;omega
   ·rw[Xr e] at a;exact S.there k p i u a b
  ·have:=S.range k i u b
   simp;omega
theorem StT.shut {s:Sig}{h:Qd}(S:StT s h) (v:Q1):StT s (h.shut v).2:=by
 unfold Qd.shut
 cases ha:h.at v with
 | none=>exact S
 | some p =>
   obtain⟨o,n,j,m,d,l⟩:=Qd.at_some ha
   have c:=(Zi d).1;simp only[m,Int.toNat_natCast]
   have f:=fun k=>Qd.place_set c noP (h.left+p.pages) k;refine⟨fun k q i t a g=>?_,fun k q i u a b=>?_,fun k i u b=>?_⟩
   ·rw[f] at a
    by_cases e:k=j
    ·rw[Xs e] at a;simp[noP] at a
    ·rw[Xr e] at a;exact S.thing k q i t a g
   ·rw[f] at a
    by_cases e:k=j
    ·rw[Xs e] at a;simp[noP] at a
    ·rw[Xr e] at a;exact S.there k q i u a b
   ·have:=S.range k i u b;simp;omega
def Sig.add (s:Sig) (k:Int) (i:Nat) (u:TT 6):Sig:=fun k' i'=>if k'=k/\i'=i then some u else s k' i'
theorem Sig.add_le {s:Sig}{k:Int}{u:TT 6}(h:s k i=none):s.le (s.add k i u):=fun c b t a=>by
 unfold Sig.add;rw[Xr (fun e=>by rw[e.1,e.2,h] at a;cases a)];exact a
theorem StT.put {s:Sig}{h:Qd}(S:StT s h){v:Q1}{t:Qw}{words:Int}{p:Qr}{u:TT 6}(F:h.at v=some p) (H:u.r=v.region) (M:QbB s t u) :
 (∃ s',s.le s'/\StT s' (h.put v t words).2.2/\((h.put v t words).2.1=0->Qea s' (h.put v t words).1 u)):=by
 obtain⟨O,I,j,c,B,G⟩:=Qd.at_some F
 have A:=(Zi B).1;by_cases e:p.tight words=true/\h.left=0
 ·rw[Qd.put_full t words F e.1 e.2]
  exact⟨s,fun _ _ _ h=>h,S,fun h=>by cases h⟩
 ·rw[Qd.put_ok t words F c e]
  have n:s v.region p.l.length=none:=by
   cases hs:s v.region p.l.length with
   | none=>rfl
   | some w =>
     obtain⟨x,d⟩:=S.there _ p _ w I hs
     have:=(Zi d).1
     omega
  have le:=Sig.add_le (u:=u) n;have K:=fun k=>Qd.place_set A { p.roomed words with l:=p.l++[t] } (h.roomLeft p words) k;have L:(p.roomed words).there=true:=by rw[Qr.roomed_there];exact G
  refine⟨s.add v.region p.l.length u,le,⟨fun k q i x a g=>?_,fun k q i w a f=>?_,fun k i w f=>?_⟩,fun _=>?_⟩
  ·rw[K] at a
   by_cases b:k=j
   ·rw[Xs b] at a
    simp only[L,if_true,Option.some.injEq] at a
    subst a;simp only at g
    rcases Nat.lt_or_ge i p.l.length with J | J
    ·rw[XP J] at g
     obtain⟨w,D,z,C⟩:=S.thing k p i x (by rw[b,<-c];exact I) g
     exact⟨w,le _ _ _ D,z,C.mono le⟩
    ·rw[XQ J] at g
     have:=(Zi g).1
     have N:i - p.l.length=0:=by simp at this;omega
     rw[N] at g;simp at g;subst g
     refine⟨u,?_,by rw[H,c,b],M.mono le⟩
     unfold Sig.add;rw[Xs ⟨by rw[c,b],by omega⟩]
   ·rw[Xr b] at a
    obtain⟨w,D,z,C⟩:=S.thing k q i x a g
    exact⟨w,le _ _ _ D,z,C.mono le⟩
  ·rw[K] at a
   unfold Sig.add at f;by_cases b:k=j
   ·rw[Xs b] at a
    simp only[L,if_true,Option.some.injEq] at a
    subst a;by_cases y:k=v.region/\i=p.l.length
    ·exact⟨t,by simp[y.2]⟩
    ·rw[Xr y] at f
     obtain⟨x,d⟩:=S.there k p i w (by rw[b,<-c];exact I) f
     exact⟨x,by rw[XP (Zi d).1];exact d⟩
   ·rw[Xr (fun e=>b (by rw[e.1,c]))] at f
    rw[Xr b] at a
    exact S.there k q i w a f
  ·unfold Sig.add at f;by_cases y:k=v.region/\i=p.l.length
   ·rw[y.1,c];simp;omega
   ·rw[Xr y] at f
    have:=S.range k i w f;simp;omega
  ·have m:s.add v.region p.l.length u (j:Int) p.l.length=some u:=by unfold Sig.add;rw[Xs ⟨c.symm,Z⟩]
   rcases M with ⟨E,o,-⟩|⟨E,o,-⟩
   ·exact .inr (.inr ⟨.inr o,by rw[o];unfold Qw.knd;rw[E];rfl,by rw[H,c],by simp,by simpa using m⟩)
   ·exact .inr (.inr ⟨.inl o,by rw[o];unfold Qw.knd;rw[E];rfl,by rw[H,c],by simp,by simpa using m⟩)
theorem Qea.thing {s:Sig}{h:Qd}(S:StT s h){x:Q1}{u:TT 6}(n:Qea s x u) (o:u.kind=3\/u.kind=4){p:Qr}(e:h.place u.r=some p):∃ t,h.thing x=some t/\QbB s t u/\x.kind=u.kind:=by
 rcases n with ⟨k,-⟩|⟨k,-⟩|⟨k,b,i,m,j⟩
 ·omega
 ·omega
 ·have a:h.place x.region=some p:=by rw[i];exact e
  obtain⟨t,g⟩:=S.there _ p _ u a j
  obtain⟨w,f,q,l⟩:=S.thing _ p _ t a g
  rw[j] at f;cases f
  refine⟨t,Qd.thing_iff.2 ⟨by rw[b];exact o,p,by rw[i];exact e,m,g,?_⟩,l,b⟩
  rcases l with ⟨d,c,-⟩|⟨d,c,-⟩
  ·rw[d,b,c];rfl
  ·rw[d,b,c];rfl
theorem StT.set {s:Sig}{h:Qd}(S:StT s h){v x:Q1}{t:Qw}{u:TT 6}(G:h.thing v=some t) (W:QbB s t u) (M:s v.region v.thing.toNat=some u) (H:t.arr=true->x.kind=1) (R:t.arr=false->∀ w,u.2.2[k]?=some w->Qea s x (w.at 5)) (V:k<t.l.length) :
 (h.set v (k:Int) x).1=0/\StT s (h.set v (k:Int) x).2:=by
 obtain⟨T,p,n,h0,J,U⟩:=Qd.thing_iff.1 G
 obtain⟨X,P,K⟩:=Qd.place_some n
 have o:=(Zi P).1
 have e:h.set v (k:Int) x=(0,{ h with L:=h.L.set v.region.toNat { p with l:=p.l.set v.thing.toNat { t with l:=t.l.set k x } } }):=by
  unfold Qd.set;rw[G,n]
  simp only
  rw[Xr (fun e=>e.2 (H e.1)),Xr (by omega),XT]
 rw[e]
 refine⟨Z,?_⟩
 have a:((v.region.toNat:Nat):Int)=v.region:=by omega
 have E:=fun j=>Qd.place_set o { p with l:=p.l.set v.thing.toNat { t with l:=t.l.set k x } } h.left j
 have B:QbB s { t with l:=t.l.set k x } u:=by
  rcases W with ⟨m,r,C⟩|⟨m,r,C,O⟩
  ·refine .inl ⟨m,r,fun y f=>?_⟩;rcases List.mem_or_eq_of_mem_set f with D | D
   ·exact C y D
   ·rw[D];exact H m
  ·refine .inr ⟨m,r,by simpa using C,fun j y w f g=>?_⟩;simp only at f
   by_cases d:j=k
   ·subst d;simp[V] at f
    subst f;exact R m w g
   ·rw[List.getElem?_set_ne (Ne.symm d)] at f
    exact O j y w f g
 refine⟨fun j q i z b c=>?_,fun j q i w b g=>?_,fun j i w g=>?_⟩
 ·rw[E] at b
  by_cases d:j=v.region.toNat
  ·rw[Xs d] at b
   simp only[K,if_true,Option.some.injEq] at b
   subst b;simp only at c
   by_cases I:i=v.thing.toNat
   ·subst I
    have:=(Zi J).1
    simp[this] at c
    subst c;obtain⟨w,F,N,-⟩:=S.thing v.region p _ t n J
    rw[M] at F;cases F
    exact⟨u,by rw[d,a];exact M,by rw[d,a];exact N,B⟩
   ·rw[List.getElem?_set_ne (Ne.symm I)] at c
    exact S.thing j p i z (by rw[d,a];exact n) c
  ·rw[Xr d] at b;exact S.thing j q i z b c
 ·rw[E] at b
  by_cases d:j=v.region.toNat
  ·rw[Xs d] at b
   simp only[K,if_true,Option.some.injEq] at b
   subst b;obtain⟨z,A⟩:=S.there j p i w (by rw[d,a];exact n) g
   have Q:=(Zi A).1;exact⟨_,Zg (by simpa using Q)⟩
  ·rw[Xr d] at b;exact S.there j q i w b g
 ·have:=S.range j i w g
  simpa using this
end Go.Proofs.YtjhdpajpibdnaafGreat
