import Derived.Test.YtjhdpajpibdnaafGreatRows
import Derived.WalkKit
import Derived.WalkLawsBesides
import Derived.ProofKit
import Derived.OpenShut
import Derived.Deep.OwnRows
import Derived.Deep.AppendLies
import Derived.Deep.Draws
import Derived.Deep.Slices
import Derived.Deep.Strs
import Derived.Below
import Derived.ChangeOld
import Derived.Deep.MidRow
import Derived.Laws.StructEq
import Derived.ChangeKeysEq
import Derived.RowKit
import Derived.Deep.QuietTactic
import Derived.BigQuiet
import Derived.Lib.SliceRun
import Derived.Maps.OwnSet
import Derived.RegionTactic
import Derived.Deep.Cut
import Derived.Deep.RegionLaw
set_option maxHeartbeats 16000000
set_option maxRecDepth 100000
namespace Go.Proofs.YtjhdpajpibdnaafGreat
open Go.ChangeShapes Go.WideShapes Go.ChangeAt Go.RowKit _root_.Go.Proofs.Tryz
set_option linter.unusedSimpArgs false
set_option linter.unusedVariables false
variable {w w' w6 w1 w2:World}{n b c k m rc ac X j B i cm g N d f fi cap bp q R pages id bi cc funcs s ci rl al ca ri vl most cR cA G:Nat}{O Q O':Nat→Prop}{l xs regs inp:List Int}{p a rg ag pm pi pa pR pA ra aa:Option Addr}{t e:TypeId}{v:Value}{P:Program}{L bs:List Bool}{x ya xc xk fr xa xb xn yb:Int}{ds cs:List Value}{ops:Array Oper}
abbrev Iv (x:Int):Value:=.int .i64 x
abbrev Pv (b o:Nat):Value:=.pointer (some ⟨b,o,none⟩)
abbrev Nv:Value:=.slice none 0 0
theorem Zr {n:Nat}{w:World}:Below n w w:=Below.refl _ _
theorem Zg {α:Type _}{l:List α}{i:Nat}(h:i<l.length):l[i]?=some l[i]:=List.getElem?_eq_getElem h
theorem Zi {α:Type _}{i:Nat}{a:α}{l:List α}(h:l[i]?=some a):∃ h,l[i]=a:=List.getElem?_eq_some_iff.1 h
theorem Za {α:Type _}{xs:Array α}{i:Nat}{d:α}:xs.getD i d=xs[i]?.getD d:=Array.getD_eq_getD_getElem?
theorem Zl {n m k:Nat}:n<m→m≤k→n<k:=Nat.lt_of_lt_of_le
theorem Zm {α:Type _}{l:List α}{i:Nat}{a:α}(h:l[i]?=some a):a∈l:=List.mem_of_getElem? h
theorem Zt {n m k:Nat}:n≤m→m≤k→n≤k:=Nat.le_trans
theorem Ze {n:Nat}:n≤n:=Nat.le_refl _
theorem Z {α:Sort _}{a:α}:a=a:=rfl
theorem Y:True:=trivial
theorem Yz {α:Sort _}{a:α}:a=a:=rfl
theorem Yy:True:=trivial
theorem Xb:type_of% @Nat.zero_le:=@Nat.zero_le
theorem Xd:type_of% @Below.heap_setCell:=@Below.heap_setCell
theorem Xf:type_of% @List.length_eq_zero_iff:=@List.length_eq_zero_iff
theorem Xr:type_of% @if_neg:=@if_neg
theorem Xs:type_of% @if_pos:=@if_pos
theorem XC:type_of% @lt_of_block:=@lt_of_block
theorem XL:type_of% @Nat.mul_one:=@Nat.mul_one
theorem XR:type_of% @List.getElem?_take:=@List.getElem?_take
theorem XS:type_of% @List.getElem?_map:=@List.getElem?_map
structure Qz (O O':Nat->Prop) (w w':World):Prop where
 os:w'.os=w.os
 tape:w'.tape=w.tape
 output:w'.output=w.output
 size:w.heap.size<=w'.heap.size
 block:∀ k,k<w.heap.size->¬ O k->w'.heap[k]?=w.heap[k]?
 own:∀ k,O' k->O k\/w.heap.size<=k
theorem Qz.refl (O:Nat->Prop) (w:World):Qz O O w w:=⟨Z,Z,Z,Ze,fun _ _ _=>rfl,fun _ h=>Or.inl h⟩
theorem Qz.trans {d:Nat->Prop}{a b c:World}(h:Qz O O' a b) (k:Qz O' d b c):Qz O d a c :=
 ⟨k.os.trans h.os,k.tape.trans h.tape,k.output.trans h.output,Zt h.size k.size,
  fun i f g=>(k.block i (Zl f h.size) (fun j=>(h.own i j).elim g (fun e=>by omega))).trans (h.block i f g),
  fun i f=>(k.own i f).elim (h.own i) (fun e=>Or.inr (Zt h.size e))⟩
theorem Qz.drewN {a:World}(h:Qz O O' a w) (n:Nat):Qz O O' a (w.drewN n):=⟨h.os,h.tape,h.output,h.size,h.block,h.own⟩
theorem Qz.drew {a:World}(h:Qz O O' a w):Qz O O' a w.drew:=⟨h.os,h.tape,h.output,h.size,h.block,h.own⟩
theorem Qz.alloc {a:World}(h:Qz O O' a w) (o:Obj):Qz O O' a (w.alloc o) :=
 ⟨h.os,h.tape,h.output,by have:=h.size;simp;omega,fun k b c=>(Below.heap_alloc _ _ _ (by have:=h.size;omega)).trans (h.block k b c),h.own⟩
theorem Qz.setCell {a:World}(h:Qz O O' a w){p:Addr}(f:O' p.block) (u:Value):Qz O O' a (w.setCell p u) :=
 ⟨h.os,h.tape,h.output,by have:=h.size;simp;omega,
  fun k d b=>(Xd _ _ _ _ (fun e=>by subst e;rcases h.own _ f with c | c;exact b c;omega)).trans (h.block k d b),h.own⟩
theorem Qz.below {a:World}(h:Qz O O' a w) (e:B<=a.heap.size) (b:∀ k,O k->B<=k):Below B a w :=
 ⟨h.os,h.tape,h.output,h.size,fun k d=>h.block k (by omega) (fun c=>by have:=b k c;omega)⟩
theorem Qz.keep {a:World}(h:Qz O O' a w){o:Obj}(b:a.heap[k]?=some o) (c:¬ O k):w.heap[k]?=some o :=
 (h.block k (XC b) c).trans b
theorem Qb {c:Array Value}(h:w.heap[b]?=some (.cells c t (0,0))) (i:Nat) (v:Value) (a:c[i]?=some v):w.cell? ⟨b,i,none⟩=some v:=by
 simp[World.cell?,h,a]
theorem Qj {c:Array Value}(h:w.heap[b]?=some (.cells c t (0,0))) (i:Nat):w.frozen? ⟨b,i,none⟩=false:=by
 simp[World.frozen?,h]
theorem Qh {c:Array Value}(h:w.heap[b]?=some (.cells c t (0,0))) (i:Nat) (v:Value) :
 (w.setCell ⟨b,i,none⟩ v).heap[b]?=some (.cells (c.setIfInBounds i v) t (0,0)):=by
 simp[World.setCell,Array.getElem?_modify,h]
theorem Qe (w:World) (c:Array Value) (t:TypeId):(w.alloc (.cells c t)).heap[w.heap.size]?=some (.cells c t (0,0)):=by
 show (w.heap.push _)[w.heap.size]?=_;simp
theorem Zc {c d:Array Value}{u:TypeId}{f:Nat × Nat}(h:w.heap[b]?=some (.cells c t f)) (k:w.heap[g]?=some (.cells d u f)) (a:t≠u):b≠g:=by
 intro e;subst e;rw[h] at k;simp at k;exact a k.2
def Row (w:World) (O:Nat->Prop) (t:TypeId) (v:Value) (xs:List Int):Prop :=
 w.ownsRow 0 t 1 v xs.length (xs.map (Value.int .i64))/\∀ g,v.ownBlock=some g->O g
theorem Row.nil (w:World) (O:Nat->Prop) (t:TypeId):Row w O t (Nv) []:=⟨⟨Z,Or.inl ⟨Z,Z⟩⟩,by simp[Value.ownBlock]⟩
theorem Row.form (h:Row w O t v xs) :
 ∃ a cap,v=.slice a xs.length cap/\(a=none->xs=[]/\cap=0)/\∀ g,a=some g->g=⟨g.block,0,none⟩/\O g.block/\xs.length<=cap/\cap<=maxLen/\∃ c,w.heap[g.block]?=some (.cells c t (0,0))/\c.size=cap/\∀ i,i<xs.length->c[i]?=some (Iv (xs.getD i 0)):=by
 obtain⟨⟨r,o⟩,d⟩:=h
 rcases o with ⟨rfl,l⟩|⟨g,cap,b,rfl,_,f,m,k,p,n⟩
 ·have:xs=[]:=Xf.1 l
  subst this;exact⟨none,0,Z,(fun _=>⟨Z,Z⟩),(fun g e=>by cases e)⟩
 ·refine⟨some ⟨g,0,none⟩,cap,Z,(fun e=>by cases e),(fun q e=>?_)⟩
  cases e
  refine⟨Z,d g Z,m,k,b,f,by simpa using p,fun i j=>?_⟩
  have:(b.toList.take (xs.length*1))[i]?=(xs.map (Value.int .i64))[i]?:=by rw[n]
  rw[XR,Xs (by omega),XS] at this
  rw[<-Array.getElem?_toList,this]
  simp[List.getD,j]
theorem Row.cell (h:Row w O t (.slice (some ⟨g,0,none⟩) n cap) xs) (i:Nat) (hi:i<xs.length) :
 w.cell? ⟨g,i,none⟩=some (Iv (xs.getD i 0)):=by
 obtain⟨a,d,e,_,j⟩:=h.form
 cases e
 obtain⟨_,_,_,_,c,f,_,b⟩:=j _ Z
 exact Qb f i _ (b i hi)
theorem Row.keep (h:Row w O t v xs) (k:∀ g,v.ownBlock=some g->w'.heap[g]?=w.heap[g]?) (i:∀ g,v.ownBlock=some g->O' g):Row w' O' t v xs:=by
 obtain⟨⟨d,j⟩,l⟩:=h
 refine⟨⟨d,?_⟩,i⟩
 rcases j with e | ⟨g,b,a,rfl,f,c,r⟩
 ·exact Or.inl e
 ·exact Or.inr ⟨g,b,a,Z,f,(k g Z).trans c,r⟩
theorem Row.lt (h:Row w O t v xs)(a:v.ownBlock=some g):g<w.heap.size:=by
 obtain⟨⟨j,e⟩,f⟩:=h
 rcases e with ⟨rfl,_⟩|⟨i,d,c,rfl,_,b,r⟩
 ·simp[Value.ownBlock] at a
 ·simp[Value.ownBlock] at a;subst a;exact XC b
theorem Row.block (h:Row w O t v xs)(b:v.ownBlock=some g):∃ c,w.heap[g]?=some (.cells c t (0,0)):=by
 obtain⟨⟨k,f⟩,i⟩:=h
 rcases f with ⟨rfl,_⟩|⟨j,e,a,rfl,_,d,r⟩
 ·simp[Value.ownBlock] at b
 ·simp[Value.ownBlock] at b;subst b;exact⟨a,d⟩
theorem Row.step {P P':Nat->Prop}(h:Row w O t v xs) (k:Qz P P' w w') (b:∀ x,O x->¬ P x):Row w' O t v xs :=
 h.keep (fun g a=>k.block g (h.lt a) (b g (h.2 g a))) h.2
theorem Row.init (h:Row w O t (.slice (some ⟨g,0,none⟩) n cap) xs) (m:Nat) (k:m<=xs.length) :
 Row w O t (.slice (some ⟨g,0,none⟩) m cap) (xs.take m):=by
 obtain⟨⟨q,o⟩,i⟩:=h
 rcases o with ⟨e,_⟩|⟨c,f,b,e,r,j,s,a,p,l⟩
 ·cases e
 ·cases e
  have d:(xs.take m).length=m:=by simp;omega
  refine⟨⟨by simp,Or.inr ⟨g,cap,b,by rw[d],Xb _,j,by omega,a,p,?_⟩⟩,fun c e=>i c e⟩
  rw[d,XL,List.map_take,<-l,List.take_take,XL,Nat.min_eq_left k]
theorem Row.head (h:Row w O t (.slice a n cap) xs) (f:0<xs.length) :
 ∃ g,a=some ⟨g,0,none⟩/\n=xs.length/\xs.length<=cap/\O g/\g<w.heap.size:=by
 have b:=fun g j=>h.lt (g:=g) j;obtain⟨l,d,e,k,c⟩:=h.form
 simp only[Value.slice.injEq] at e
 obtain⟨rfl,rfl,rfl⟩:=e
 cases a with
 | none=>rw[(k Z).1] at f;simp at f
 | some g =>
   have i:=(c g Z).1;exact⟨g.block,by rw[<-i],Z,(c g Z).2.2.1,(c g Z).2.1,b _ Z⟩
theorem QF {b k:Nat}(a:k≠b):∀ (vs:List Value) (o:Nat) (w:World),(w.setCells b o vs).heap[k]?=w.heap[k]?
 | [],_,_=>rfl
 | v::r,o,w=>by rw[World.setCells,QF a r];exact Xd _ _ _ _ a
theorem Qz.setCells {O O':Nat->Prop}{a:World}{b:Nat}(c:O' b):∀ (vs:List Value) (o:Nat) (w:World),Qz O O' a w->Qz O O' a (w.setCells b o vs)
 | [],_,_,h=>h
 | v::r,o,w,h=>Qz.setCells c r (o+1) _ (h.setCell (p:=⟨b,o,none⟩) c v)
theorem QdF {b:Nat}{t:TypeId}{n:Nat}(z:Value):∀ (m o:Nat) (w:World) (f:Nat->Value),w.rowIs b t n f->(w.setCells b o (List.replicate m z)).rowIs b t n (fun j=>if o<=j/\j<o+m then z else f j)
 | 0,o,w,f,h=>h.congr fun j d=>by rw[Xr (by omega)]
 | m+1,o,w,f,h=>by
   rw[List.replicate_succ,World.setCells]
   refine(QdF z m (o+1) _ _ (h.set o z)).congr fun j d=>?_
   by_cases c:j=o
   ·subst c;simp
   ·by_cases a:o<=j/\j<o+(m+1)
    ·rw[Xs (by omega),Xs a]
    ·rw[Xr (by omega),Xr a,Xr c]
theorem Row.pushed {k:Int}{o:Obj}(h:Row w O t v xs) (d:w1.ownsRow 0 t 1 (.slice (some ⟨g,0,none⟩) (xs.length+1) cap) (xs.length+1) (xs.map (Value.int .i64)++[Iv k]))
 (b:v.ownBlock=some g\/g=w.heap.size+1) (a:g<w1.heap.size) (O':Nat->Prop) (f:∀ x,O x\/w.heap.size<=x->x<w1.heap.size->O' x):Row w1 O' t (.slice (some ⟨g,0,none⟩) (xs.length+1) cap) (xs++[k]):=by
 refine⟨?_,fun i e=>?_⟩
 ·have e:(xs++[k]).length=xs.length+1:=by simp
  rw[e,List.map_append];exact d
 ·simp[Value.ownBlock] at e;subst e
  refine f _ ?_ a;rcases b with c | c
  ·exact Or.inl (h.2 _ c)
  ·right;omega
theorem Qgz (w:World) (v:Value) (t:TypeId):∀ (j:Nat) (u:Value),[v][j]?=some u->(w.alloc (.cells #[v] t)).cell? (Addr.add ⟨w.heap.size,0,none⟩ j)=some u:=by
 intro j u a;match j,a with
 | 0,a=>simp at a;subst a;simp[Addr.add]
theorem Qdc (k:Int):∀ u,u∈[Value.int .i64 k]->u.oneCell'=true:=by intro u a;simp at a;subst a;rfl
theorem Xk:type_of% @List.getElem?_eq_none:=@List.getElem?_eq_none
theorem XQ:type_of% @List.getElem?_append_right:=@List.getElem?_append_right
theorem XT:type_of% @Int.toNat_natCast:=@Int.toNat_natCast
structure Q4 where
 kind:Int
 region:Int
 thing:Int
 n:Int
structure Qw where
 arr:Bool
 l:List Q4
structure Qr where
 there:Bool
 l:List Qw
 pages:Nat
 used:Int
structure Qd where
 L:List Qr
 left:Nat
def Qnk (x:Int):Prop:=-9223372036854775808<=x/\x<=9223372036854775807
def Qw.knd (t:Qw):Int:=if t.arr then 4 else 3
def noV:Q4:=⟨0,0,0,0⟩
def Qcs (n:Int):Q4:=⟨1,0,0,n⟩
def noP:Qr:=⟨false,[],0,0⟩
def newP:Qr:=⟨true,[],0,0⟩
def Qd.new (pages:Nat):Qd:=⟨[],pages⟩
def Qd.live (h:Qd):Nat:=(h.L.filter (·.there)).length
def Qd.place (h:Qd) (k:Int):Option Qr:=if k<0 then none else match h.L[k.toNat]? with
 | none=>none
 | some p=>if p.there then some p else none
def Qd.open_ (h:Qd):Q4 × Bool × Qd:=if 16<=h.live then (noV,false,h) else (⟨2,h.L.length,0,0⟩,true,{ h with L:=h.L++[newP] })
def Qd.at (h:Qd) (v:Q4):Option Qr:=if v.kind=2 then h.place v.region else none
def Qd.shut (h:Qd) (v:Q4):Bool × Qd:=match h.at v with
 | none=>(false,h)
 | some p=>(true,⟨h.L.set v.region.toNat noP,h.left+p.pages⟩)
def Qr.tight (p:Qr) (words:Int):Bool:=decide (p.pages=0)||decide (words>16 - p.used)
def Qr.more (p:Qr) (t:Qw) (words:Int):Qr:=if p.tight words then ⟨p.there,p.l++[t],p.pages+1,words⟩ else ⟨p.there,p.l++[t],p.pages,p.used+words⟩
def Qd.put (h:Qd) (v:Q4) (t:Qw) (words:Int):Q4 × Int × Qd:=match h.at v with
 | none=>(noV,20,h)
 | some p=>if p.tight words/\h.left=0 then (noV,14,h)
   else (⟨if t.arr then 4 else 3,v.region,p.l.length,0⟩,0,⟨h.L.set v.region.toNat (p.more t words),if p.tight words then h.left - 1 else h.left⟩)
def Qd.tuple (h:Qd) (v:Q4) (l:List Q4):Q4 × Int × Qd:=h.put v ⟨false,l⟩ (if l.length=0 then 1 else l.length)
def Qd.array (h:Qd) (v:Q4) (n:Int):Q4 × Int × Qd:=if n<0\/15<n then (noV,1,h) else h.put v ⟨true,List.replicate n.toNat (Qcs 0)⟩ (n+1)
def Qd.thing (h:Qd) (v:Q4):Option Qw:=if v.kind=3\/v.kind=4 then (match h.place v.region with
 | none=>none
 | some p=>if v.thing<0 then none else match p.l[v.thing.toNat]? with
   | none=>none
   | some t=>if t.arr=decide (v.kind=4) then some t else none) else none
def Qd.get (h:Qd) (v:Q4) (k:Int):Q4 × Int:=match h.thing v with
 | none=>(noV,20)
 | some t=>if k<0 then (noV,1) else match t.l[k.toNat]? with
   | none=>(noV,1)
   | some x=>(x,0)
def Qd.set (h:Qd) (v:Q4) (k:Int) (x:Q4):Int × Qd:=match h.thing v,h.place v.region with
 | some t,some p=>if t.arr=true/\x.kind≠1 then (20,h) else if k<0\/t.l.length<=k.toNat then (1,h)
   else (0,{ h with L:=h.L.set v.region.toNat { p with l:=p.l.set v.thing.toNat { t with l:=t.l.set k.toNat x } } })
 | _,_=>(20,h)
def Qd.len (h:Qd) (v:Q4):Int × Int:=match h.thing v with
 | none=>(0,20)
 | some t=>(t.l.length,0)
theorem Qd.place_nat (h:Qd) (k:Nat):h.place (k:Int)=match h.L[k]? with
 | none=>none
 | some p=>if p.there then some p else none:=by
 unfold Qd.place;rw[Xr (by omega),XT]
theorem Qd.place_some {h:Qd}{k:Int}{p:Qr}(e:h.place k=some p):0<=k/\h.L[k.toNat]?=some p/\p.there=true:=by
 unfold Qd.place at e;split at e
 ·cases e
 ·rename_i c
  refine⟨by omega,?_⟩
  split at e
  ·cases e
  ·rename_i q b
   split at e
   ·rename_i a;cases e;exact⟨b,a⟩
   ·cases e
theorem Qd.place_set {h:Qd}(b:k<h.L.length) (p:Qr) (n:Nat) (j:Int):Qd.place ⟨h.L.set k p,n⟩ j=if j=k then (if p.there then some p else none) else h.place j:=by
 unfold Qd.place;by_cases a:j<0
 ·rw[Xs a,Xr (by omega),Xs a]
 ·rw[Xr a,Xr a]
  by_cases e:j=k
  ·subst e;simp[b]
  ·rw[Xr e,List.getElem?_set_ne (by omega)]
theorem Qd.place_push (h:Qd) (p:Qr) (j:Int) (n:Nat):Qd.place ⟨h.L++[p],n⟩ j=if j=h.L.length then (if p.there then some p else none) else h.place j:=by
 unfold Qd.place;by_cases a:j<0
 ·rw[Xs a,Xr (by omega),Xs a]
 ·rw[Xr a,Xr a]
  by_cases e:j=h.L.length
  ·subst e;simp
  ·rw[Xr e]
   rcases Nat.lt_or_ge j.toNat h.L.length with b | b
   ·simp[List.getElem?_append,b]
   ·rw[XQ b,Xk b,Xk (by simp;omega)]
theorem Xj:type_of% @Array.getElem?_eq_getElem:=@Array.getElem?_eq_getElem
theorem Xp:type_of% @Nat.mul_le_mul_right:=@Nat.mul_le_mul_right
theorem XK:type_of% @Nat.zero_add:=@Nat.zero_add
theorem XO:type_of% @List.take_of_length_le:=@List.take_of_length_le
section
open Go.Deep
structure Lay (α:Type) where
 size:Nat
 In:World->(Nat->Prop)->α->List Value->Prop
 len:∀ {w O x cs},In w O x cs->cs.length=size
 keep:∀ {w w':World} {O O':Nat->Prop} {x cs},(∀ k,O k->k<w.heap.size->w'.heap[k]?=w.heap[k]?)->(∀ k,O k->k<w.heap.size->O' k)->In w O x cs->In w' O' x cs
section
variable {α β:Type}{L:Lay α}{w w':World}{O O':Nat->Prop}{x:α}{cs:List Value}
theorem Lay.below (h:L.In w O x cs) (b:Below w.heap.size w w'):L.In w' O x cs:=L.keep (fun k _ a=>b.block k a) (fun _ h _=>h) h
theorem Ya:type_of% @Lay.below:=@Lay.below
theorem Lay.mono (h:L.In w O x cs) (a:∀ k,O k->k<w.heap.size->O' k):L.In w O' x cs:=L.keep (fun k _ _=>rfl) a h
theorem Yc:type_of% @Lay.mono:=@Lay.mono
theorem Lay.setCell (h:L.In w O x cs){p:Addr}(b:¬ O p.block) (v:Value):L.In (w.setCell p v) O x cs :=
 L.keep (fun k a _=>Xd _ _ _ _ (fun e=>by subst e;exact b a)) (fun _ h _=>h) h
end
def Lay.int:Lay Int where
 size:=1
 In:=fun _ _ x cs=>cs=[Iv x]/\-9223372036854775808<=x/\x<=9223372036854775807
 len:=fun h=>by rw[h.1];rfl
 keep:=fun _ _ h=>h
def Lay.pair {α β:Type}(A:Lay α) (B:Lay β):Lay (α × β) where
 size:=A.size+B.size
 In:=fun w O x cs=>∃ c d,cs=c++d/\A.In w O x.1 c/\B.In w O x.2 d
 len:=fun ⟨c,d,e,h1,h2⟩=>by rw[e,List.length_append,A.len h1,B.len h2]
 keep:=fun hb hl ⟨c,d,e,h1,h2⟩=>⟨c,d,e,A.keep hb hl h1,B.keep hb hl h2⟩
def Lay.list {α:Type}(A:Lay α):Lay (List α) where
 size:=1
 In:=fun w O l cs=>∃ a c,cs=[.slice a l.length c]/\∀ (i:Nat) (x:α),l[i]?=some x->∃ g o ds,a=some ⟨g,o,none⟩/\O g/\g<w.heap.size/\(∀ j,j<A.size->w.cell? ⟨g,o+i*A.size+j,none⟩=ds[j]?)/\A.In w O x ds
 len:=fun ⟨_,_,e,_⟩=>by rw[e];rfl
 keep:=fun {w w' O O' l cs} hb hl ⟨a,c,e,h⟩=>⟨a,c,e,fun i x hx=>by
  obtain⟨g,o,ds,e1,hg,hlt,hc,hi⟩:=h i x hx
  have hk:w'.heap[g]?=w.heap[g]?:=hb g hg hlt;refine⟨g,o,ds,e1,hl g hg hlt,?_,fun j hj=>?_,A.keep hb hl hi⟩
  ·rcases Nat.lt_or_ge g w'.heap.size with h' | h'
   ·exact h'
   ·rw[Array.getElem?_eq_none h',Array.getElem?_eq_getElem hlt] at hk;cases hk
  ·exact(World.cell?_of_block (w:=w) (a:=⟨g,o+i*A.size+j,none⟩) hk).trans (hc j hj)⟩
theorem Lay.int_mk (w:World) (O:Nat->Prop){x:Int}(h:-9223372036854775808<=x/\x<=9223372036854775807):Lay.int.In w O x [Iv x]:=⟨Z,h⟩
theorem Lay.list_nil {α:Type}(A:Lay α) (w:World) (O:Nat->Prop) (a:Option Addr) (c:Nat):A.list.In w O [] [.slice a 0 c]:=⟨a,c,Z,fun i x h=>by simp at h⟩
theorem Yg:type_of% @Lay.list_nil:=@Lay.list_nil
theorem Lay.list_at {α:Type}{A:Lay α}{w:World}{O:Nat->Prop}{l:List α}(h:A.list.In w O l [.slice a n c]){x:α}(b:l[i]?=some x) :
 ∃ g o ds,a=some ⟨g,o,none⟩/\O g/\g<w.heap.size/\(∀ j,j<A.size->w.cell? ⟨g,o+i*A.size+j,none⟩=ds[j]?)/\A.In w O x ds:=by
 obtain⟨d,f,e,h⟩:=h
 simp at e
 obtain⟨rfl,_,rfl⟩:=e
 exact h i x b
theorem Yf:type_of% @Lay.list_at:=@Lay.list_at
theorem Lay.list_len {α:Type}{A:Lay α}{w:World}{O:Nat->Prop}{l:List α}(h:A.list.In w O l [.slice a n c]):n=l.length:=by
 obtain⟨b,d,e,h⟩:=h
 simp at e
 exact e.2.1
theorem QkJ {α:Type}{P:Nat->α->Prop}(m:Nat) (h:∀ i,i<m->∃ x,P i x):∃ l:List α,l.length=m/\∀ i x,l[i]?=some x->P i x:=by
 induction m with
 | zero=>exact⟨[],Z,fun i x b=>by simp at b⟩
 | succ m ih =>
   obtain⟨l,c,e⟩:=ih (fun i d=>h i (by omega))
   obtain⟨x,b⟩:=h m (by omega)
   refine⟨l++[x],by simp[c],fun i y a=>?_⟩
   rw[List.getElem?_append] at a
   split at a
   ·exact e i y a
   ·rename_i d
    have:i=m:=by
     have:=(Zi a).1
     simp at this
     omega
    subst this;simp[c] at a
    subst a;exact b
structure Qao {α:Type}(A:Lay α) (e:TypeId) (w:World) (lo:Nat) (v:Value) (l:List α) (xs:List Value):Prop where
 own:w.ownsRow lo e A.size v l.length xs
 kids:∀ (i:Nat) (x:α),l[i]?=some x->A.In w (fun g=>lo<=g/\v.ownBlock≠some g) x ((xs.drop (i*A.size)).take A.size)
section
variable {α:Type}{A:Lay α}{e:TypeId}{w w':World}{lo:Nat}{v:Value}{l:List α}{xs:List Value}
theorem Qao.nil (A:Lay α) (e:TypeId) (w:World) (lo:Nat):Qao A e w lo (Nv) [] []:=⟨⟨by simp,Or.inl ⟨Z,Z⟩⟩,fun i x h=>by simp at h⟩
theorem Qao.lo_le (h:Qao A e w lo v l xs)(a:v.ownBlock=some g):lo<=g/\g<w.heap.size:=by
 obtain⟨⟨m,i⟩,j⟩:=h
 rcases i with ⟨rfl,n⟩|⟨k,f,d,rfl,b,c,r⟩
 ·simp[Value.ownBlock] at a
 ·simp[Value.ownBlock] at a;subst a;exact⟨b,XC c⟩
theorem Qao.below (h:Qao A e w lo v l xs) (b:Below w.heap.size w w'):Qao A e w' lo v l xs:=by
 obtain⟨⟨j,o⟩,f⟩:=h
 refine⟨⟨j,?_⟩,fun i x k=>Ya (f i x k) b⟩
 rcases o with m | ⟨g,c,a,e,n,d,r⟩
 ·exact Or.inl m
 ·exact Or.inr ⟨g,c,a,e,n,(b.block g (XC d)).trans d,r⟩
theorem Qao.lay (h:Qao A e w lo v l xs):A.list.In w (fun g=>lo<=g) l [v]:=by
 obtain⟨⟨B,y⟩,o⟩:=h
 rcases y with ⟨rfl,q⟩|⟨g,b,a,rfl,s,f,t,z,C,u⟩
 ·have:l=[]:=Xf.1 q
  subst this;exact Yg A _ _ _ _
 ·refine⟨some ⟨g,0,none⟩,b,Z,fun i x m=>⟨g,0,_,Z,s,XC f,fun j r=>?_,Yc (o i x m) (fun k n _=>n.1)⟩⟩
  have p:i<l.length:=(Zi m).1
  have d:i*A.size+j<l.length*A.size:=by
   have:(i+1)*A.size<=l.length*A.size:=Xp _ p
   rw[Nat.add_mul] at this
   omega
  rw[XR,Xs r,List.getElem?_drop,<-u,XR,Xs d,XK]
  have c:i*A.size+j<a.size:=by
   have:l.length*A.size<=b*A.size:=Xp _ t
   omega
  rw[Array.getElem?_toList]
  exact(Qb f _ a[i*A.size+j] (Xj c)).trans (Xj c).symm
theorem Qao.push (h:Qao A e w lo v l xs){x:α}(o:A.In w (fun g=>lo<=g/\v.ownBlock≠some g) x ds)
  (B:w.grownBy w' v.ownBlock) (j:v.ownBlock=some g\/g=w.heap.size)
 (t:w'.ownsRow lo e A.size (.slice (some ⟨g,0,none⟩) (l.length+1) cap) (l.length+1) (xs++ds)) :
 Qao A e w' lo (.slice (some ⟨g,0,none⟩) (l.length+1) cap) (l++[x]) (xs++ds):=by
 obtain⟨z,s⟩:=h
 have f:=z.1;have r:=A.len o
 have b:∀ {y:α} {es:List Value},A.In w (fun g=>lo<=g/\v.ownBlock≠some g) y es->A.In w' (fun m=>lo<=m/\(Value.slice (some ⟨g,0,none⟩) (l.length+1) cap).ownBlock≠some m) y es:=fun a=>by
  refine A.keep (fun k c p=>?_) (fun k c p=>⟨c.1,?_⟩) a
  ·exact B.block k p (fun e=>c.2 e.symm)
  ·simp only[Value.ownBlock,ne_eq,Option.some.injEq]
   intro e;subst e;rcases j with q | q
   ·exact c.2 q
   ·omega
 refine⟨by rw[List.length_append];exact t,fun i y a=>?_⟩
 rw[List.getElem?_append] at a
 split at a
 ·rename_i n
  have u:(i+1)*A.size<=l.length*A.size:=Xp _ n;rw[Nat.add_mul] at u
  have:=s i y a
  rw[List.drop_append_of_le_length (by omega),List.take_append_of_le_length (by simp;omega)]
  exact b this
 ·rename_i n
  have d:i=l.length:=by
   have:=(Zi a).1
   simp at this
   omega
  subst d;simp at a
  subst a;rw[List.drop_append,List.drop_of_length_le (by omega),<-f,Nat.sub_self,List.drop_zero,List.nil_append,XO (by omega)]
  exact b o
end
end
theorem Xn:type_of% @Option.some.inj:=@Option.some.inj
def TT:Nat->Type
 | 0=>Empty
 | n+1=>Int × Int × List (TT n)
def TT.kind:{n:Nat}->TT n->Int
 | 0,t=>Empty.elim t
 | _+1,t=>t.1
def TT.r:{n:Nat}->TT n->Int
 | 0,t=>Empty.elim t
 | _+1,t=>t.2.1
def TT.len:{n:Nat}->TT n->Nat
 | 0,t=>Empty.elim t
 | _+1,t=>t.2.2.length
def TT.count:{n:Nat}->TT n->Nat
 | 0,t=>Empty.elim t
 | n+1,t=>1+(t.2.2.map (TT.count (n:=n))).sum
def TT.height:{n:Nat}->TT n->Nat
 | 0,t=>Empty.elim t
 | n+1,t=>(t.2.2.map (fun x=>1+TT.height (n:=n) x)).foldl max 0
def ownC (k r:Int) (len:Nat) (regs:Int):Int :=
 if k<1\/4<k then 3
 else if k=1/\r≠0 then 4
 else if k≠3/\0<len then 4
 else if 8<len then 2
 else if k≠1/\(r<0\/regs<=r) then 1
 else 0
def Qu {α:Type}(f:α->Int):List α->Int
 | []=>0
 | x::xs=>if f x≠0 then f x else Qu f xs
def TT.fault:{n:Nat}->Int->TT n->Int
 | 0,_,t=>Empty.elim t
 | n+1,regs,t=>if ownC t.1 t.2.1 t.2.2.length regs≠0 then ownC t.1 t.2.1 t.2.2.length regs else Qu (TT.fault (n:=n) regs) t.2.2
def TT.check {n:Nat}(regs:Int) (t:TT n):Int:=if 4<t.height then 19 else t.fault regs
def ZJ (m:Nat) (too:Nat->Int) (k r:Int):Option Int :=
 if k=1 then some r else if r<0\/(m:Int)<=r then none else if too r.toNat<0 then none else some (too r.toNat)
def ZS {α:Type}(f:α->Option α):List α->Option (List α)
 | []=>some []
 | x::xs=>match f x with
   | none=>none
   | some y=>match ZS f xs with
     | none=>none
     | some ys=>some (y::ys)
def TT.ren:{n:Nat}->Nat->(Nat->Int)->TT n->Option (TT n)
 | 0,_,_,t=>Empty.elim t
 | n+1,m,too,t=>match ZJ m too t.1 t.2.1 with
   | none=>none
   | some r=>match ZS (TT.ren (n:=n) m too) t.2.2 with
     | none=>none
     | some l=>some ((t.1,r,l):Int × Int × List (TT n))
def TT.ok:{n:Nat}->TT n->Prop
 | 0,t=>Empty.elim t
 | n+1,t=>(-9223372036854775808<=t.2.1/\t.2.1<=9223372036854775807)/\∀ x∈t.2.2,TT.ok (n:=n) x
theorem ZT {α:Type}{f:α->Option α}:∀ {l l':List α},ZS f l=some l'↔(l'.length=l.length/\∀ (i:Nat) x,l[i]?=some x->f x=l'[i]?)
 | [],l'=>by
   simp only[ZS,Option.some.injEq]
   constructor
   ·intro h;subst h;simp
   ·intro h;exact(Xf.1 h.1).symm
 | x::xs,l'=>by
   simp only[ZS]
   constructor
   ·intro h
    cases a:f x with
    | none=>simp[a] at h
    | some y =>
      simp only[a] at h
      cases b:ZS f xs with
      | none=>simp[b] at h
      | some ys =>
        simp only[b,Option.some.injEq] at h
        subst h;obtain⟨d,e⟩:=ZT.1 b
        refine⟨by simp[d],fun i z c=>?_⟩
        cases i with
        | zero=>simp at c;subst c;simpa using a
        | succ i=>simpa using e i z (by simpa using c)
   ·rintro ⟨d,e⟩
    cases l' with
    | nil=>simp at d
    | cons y ys =>
      have a:f x=some y:=by simpa using e 0 x Z
      have b:ZS f xs=some ys:=ZT.2 ⟨by simpa using d,fun i z c=>by simpa using e (i+1) z (by simpa using c)⟩;simp[a,b]
theorem QeM {α:Type}{f:α->Option α}:∀ {l:List α}{i:Nat}{x:α},l[i]?=some x->f x=none->ZS f l=none
 | [],i,x,h,_=>by simp at h
 | y::ys,0,x,h,hf=>by simp at h;subst h;simp[ZS,hf]
 | y::ys,i+1,x,h,hf=>by
   have:=QeM (l:=ys) (i:=i) (by simpa using h) hf
   simp only[ZS,this]
   cases f y<;>rfl
theorem Qap {α:Type}{f:α->Int}:∀ {l:List α}{i:Nat}{x:α},l[i]?=some x->(∀ (j:Nat) y,j<i->l[j]?=some y->f y=0)->f x≠0->Qu f l=f x
 | [],i,x,h,_,_=>by simp at h
 | y::ys,0,x,h,_,hf=>by simp at h;subst h;simp[Qu,hf]
 | y::ys,i+1,x,h,hz,hf=>by
   have b:f y=0:=hz 0 y (by omega) Z;simp only[Qu,b,ne_eq,not_true_eq_false,if_false]
   exact Qap (by simpa using h) (fun j z c a=>hz (j+1) z (by omega) (by simpa using a)) hf
theorem Z3 {α:Type}{f:α->Int}:∀ {l:List α},(∀ (j:Nat) y,l[j]?=some y->f y=0)->Qu f l=0
 | [],_=>rfl
 | y::ys,h=>by
   have a:f y=0:=h 0 y Z;simp only[Qu,a,ne_eq,not_true_eq_false,if_false]
   exact Z3 (fun j z b=>h (j+1) z (by simpa using b))
theorem QE {α:Type}{f:α->Int}:∀ {l:List α},Qu f l=0↔∀ x∈l,f x=0
 | []=>by simp[Qu]
 | y::ys=>by
   simp only[Qu]
   by_cases h:f y=0
   ·simp[h,QE]
   ·simp[h]
theorem QaV {α β:Type}{f:α->Int}{g:β->Int}:∀ {l:List α}{l':List β},l'.length=l.length->(∀ (i:Nat) x y,l[i]?=some x->l'[i]?=some y->f x=g y)->Qu f l=Qu g l'
 | [],[],_,_=>rfl
 | [],_::_,h,_=>by simp at h
 | _::_,[],h,_=>by simp at h
 | x::xs,y::ys,h,k=>by
   have d:f x=g y:=k 0 x y Z Z;have j:=QaV (f:=f) (g:=g) (l:=xs) (l':=ys) (by simpa using h) (fun i a b e c=>k (i+1) a b (by simpa using e) (by simpa using c));simp only[Qu,d,j]
theorem TT.count_pos:{n:Nat}->(t:TT n)->1<=t.count
 | 0,t=>Empty.elim t
 | n+1,t=>by simp only[TT.count];omega
theorem QfS (l:List Nat):∀ i,(l.take i).sum<=l.sum:=by
 intro i
 have:=congrArg List.sum (List.take_append_drop i l)
 rw[List.sum_append] at this
 omega
theorem length_le_sum:∀ (l:List Nat),(∀ x∈l,1<=x)->l.length<=l.sum
 | [],_=>by simp
 | x::xs,h=>by
   have c:=h x (by simp);have b:=length_le_sum xs (fun y a=>h y (by simp[a]));simp only[List.length_cons,List.sum_cons]
   omega
theorem TT.len_lt_count:{n:Nat}->(t:TT n)->t.len<t.count
 | 0,t=>Empty.elim t
 | n+1,t=>by
   have:=length_le_sum (t.2.2.map (TT.count (n:=n))) (fun x a=>by simp only[List.mem_map] at a;obtain⟨y,_,rfl⟩:=a;exact y.count_pos)
   simp only[TT.count,TT.len]
   simp at this
   omega
theorem le_sum_of_mem:∀ {l:List Nat}{x:Nat},x∈l->x<=l.sum
 | y::ys,x,h=>by
   rcases List.mem_cons.1 h with rfl | h
   ·simp
   ·have:=le_sum_of_mem h
    simp only[List.sum_cons];omega
theorem TT.count_kid (t:TT (n+1)){x:TT n}(h:x∈t.2.2):x.count<t.count:=by
 have:=le_sum_of_mem (l:=t.2.2.map (TT.count (n:=n))) (List.mem_map_of_mem h)
 simp only[TT.count]
 omega
theorem Qa0 {l:List Nat}{a:Nat}:l.foldl max a<=m↔a<=m/\∀ x∈l,x<=m:=by
 induction l generalizing a with
 | nil=>simp
 | cons y ys ih =>
   simp only[List.foldl_cons,ih,List.mem_cons,forall_eq_or_imp,Nat.max_le,and_assoc]
theorem Q9 {t:TT (n+1)}:t.height<=m↔∀ x∈t.2.2,1+x.height<=m:=by
 simp only[TT.height,Qa0,List.mem_map,Nat.zero_le,true_and,forall_exists_index,and_imp,forall_apply_eq_imp_iff₂]
theorem TT.ren_height {m:Nat}{too:Nat->Int}:{n:Nat}->{t u:TT n}->t.ren m too=some u->u.height=t.height
 | 0,t,_,_=>Empty.elim t
 | n+1,t,u,h=>by
   simp only[TT.ren] at h
   cases e1:ZJ m too t.1 t.2.1 with
   | none=>simp[e1] at h
   | some r1 =>
     simp only[e1] at h
     cases e2:ZS (TT.ren m too) t.2.2 with
     | none=>simp[e2] at h
     | some l1 =>
       simp only[e2] at h
       have h:=Xn h;subst h;simp only[TT.height]
       congr 1
       obtain⟨d,e⟩:=ZT.1 e2
       apply List.ext_getElem (by simp[d])
       intro i b c;simp at b c
       have a:=e i t.2.2[i] (Zg c);rw[Zg b] at a
       simp[TT.ren_height a]
theorem TT.fault_zero {t:TT (n+1)}{regs:Int}(h:t.fault regs=0):ownC t.1 t.2.1 t.2.2.length regs=0/\∀ x∈t.2.2,x.fault regs=0:=by
 simp only[TT.fault] at h
 split at h
 ·contradiction
 ·rename_i a
  exact⟨by simpa using a,QE.1 h⟩
theorem Xi:type_of% @World.block_lt_of_cell?:=@World.block_lt_of_cell?
theorem XU:type_of% @World.cell?_of_block:=@World.cell?_of_block
section
open Go.Deep
abbrev All:Nat->Prop:=fun _=>True
abbrev Qcr (lo:Nat):Nat->Prop:=fun g=>lo<=g
def TIn (w:World) (O:Nat->Prop):{n:Nat}->TT n->Option Addr->Prop
 | 0,t,_=>Empty.elim t
 | n+1,t,a=>∀ (i:Nat) (x:TT n),t.2.2[i]?=some x->∃ g o a' c',a=some ⟨g,o,none⟩/\O g /\
  w.cell? ⟨g,o+i*3,none⟩=some (Iv x.kind)/\w.cell? ⟨g,o+i*3+1,none⟩=some (Iv x.r)/\w.cell? ⟨g,o+i*3+2,none⟩=some (.slice a' x.len c')/\TIn w O (n:=n) x a'
abbrev Tv {n:Nat}(t:TT n) (a:Option Addr) (c:Nat):Value:=.agg #[Iv t.kind,Iv t.r,.slice a t.len c]
abbrev mkT {n:Nat}(k r:Int) (l:List (TT n)):TT (n+1):=(k,r,l)
abbrev LIn (w:World) (O:Nat->Prop){n:Nat}(l:List (TT n)) (a:Option Addr):Prop:=TIn w O (mkT 0 0 l) a
theorem TIn.list {w:World}{O:Nat->Prop}{n:Nat}{t:TT (n+1)}{a:Option Addr}(h:TIn w O t a):LIn w O t.2.2 a:=h
theorem LIn.tree {w:World}{O:Nat->Prop}{n:Nat}{k r:Int}{l:List (TT n)}{a:Option Addr}(h:LIn w O l a):TIn w O (mkT k r l) a:=h
theorem LIn.at {w:World}{O:Nat->Prop}{n:Nat}{l:List (TT n)}{a:Option Addr}(h:LIn w O l a){x:TT n}(b:l[i]?=some x) :
 ∃ g o a' c',a=some ⟨g,o,none⟩/\O g /\
  w.cell? ⟨g,o+i*3,none⟩=some (Iv x.kind)/\w.cell? ⟨g,o+i*3+1,none⟩=some (Iv x.r)/\w.cell? ⟨g,o+i*3+2,none⟩=some (.slice a' x.len c')/\TIn w O x a':=h i x b
theorem LIn.nil {w:World}{O:Nat->Prop}{n:Nat}{a:Option Addr}:LIn w O ([]:List (TT n)) a:=fun i x h=>by simp at h
theorem TIn.keep {w w':World}{O O':Nat->Prop}(l:∀ k,O k->k<w.heap.size->w'.heap[k]?=w.heap[k]?) (f:∀ k,O k->k<w.heap.size->O' k):{n:Nat}->{t:TT n}->{a:Option Addr}->TIn w O t a->TIn w' O' t a
 | 0,t,_,_=>Empty.elim t
 | n+1,t,a,h=>fun i x q=>by
   obtain⟨g,o,u,p,e,j,d,s,m,r⟩:=h i x q
   have b:g<w.heap.size:=Xi w ⟨g,o+i*3,none⟩ d;have c:w'.heap[g]?=w.heap[g]?:=l g j b;refine⟨g,o,u,p,e,f g j b,?_,?_,?_,TIn.keep l f r⟩
   ·exact(XU (w:=w) (a:=⟨g,o+i*3,none⟩) c).trans d
   ·exact(XU (w:=w) (a:=⟨g,o+i*3+1,none⟩) c).trans s
   ·exact(XU (w:=w) (a:=⟨g,o+i*3+2,none⟩) c).trans m
section
variable {w w':World}{O O':Nat->Prop}{n:Nat}{t:TT n}{a:Option Addr}
theorem TIn.below (h:TIn w O t a) (b:Below w.heap.size w w'):TIn w' O t a:=h.keep (fun k _ c=>b.block k c) (fun _ h _=>h)
theorem TIn.mono (h:TIn w O t a) (b:∀ k,O k->k<w.heap.size->O' k):TIn w O' t a:=h.keep (fun k _ _=>rfl) b
theorem TIn.all (h:TIn w O t a):TIn w All t a:=h.mono (fun _ _ _=>trivial)
theorem TIn.alloc (h:TIn w O t a) (o:Obj):TIn (w.alloc o) O t a:=h.keep (fun k _ b=>Below.heap_alloc _ _ _ b) (fun _ h _=>h)
theorem TIn.setCell (h:TIn w O t a){p:Addr}(c:¬ O p.block) (v:Value):TIn (w.setCell p v) O t a :=
 h.keep (fun k b _=>Xd _ _ _ _ (fun e=>by subst e;exact c b)) (fun _ h _=>h)
theorem TIn.drew (h:TIn w O t a):TIn w.drew O t a:=h.keep (w:=w) (w':=w.drew) (fun k _ _=>rfl) (fun _ h _=>h)
end
theorem TT.len_eq {n:Nat}(t:TT (n+1)):t.len=t.2.2.length:=rfl
theorem Qlt {α:Type}{P:Nat->α->Prop}(m:Nat) (h:∀ i,i<m->∃ x,P i x):∃ l:List α,l.length=m/\∀ i x,l[i]?=some x->P i x:=by
 induction m with
 | zero=>exact⟨[],Z,fun i x b=>by simp at b⟩
 | succ m ih =>
   obtain⟨l,c,e⟩:=ih (fun i d=>h i (by omega))
   obtain⟨x,b⟩:=h m (by omega)
   refine⟨l++[x],by simp[c],fun i y a=>?_⟩
   rw[List.getElem?_append] at a
   split at a
   ·exact e i y a
   ·rename_i d
    have:i=m:=by
     have:=(Zi a).1
     simp at this
     omega
    subst this;simp[c] at a
    subst a;exact b
theorem Qmh {H:Type}{enc:TypeId × Value->H}{w:World}{f:Nat}{g:Nat->Bool}{E:Bool}{G ts ti:TypeId}{A D u:Field}
 (hs:P.underlying ts=some (.slice G)) (ht:P.underlying G=some (.struct #[A,D,u])) (hc:P.cellsOf G=3)
 (J:A.offset=0/\P.cellsOf A.type=1/\P.underlying A.type=some (.int .i64)) (X:D.offset=1/\P.cellsOf D.type=1/\P.underlying D.type=some (.int .i64))
 (S:u.offset=2/\P.cellsOf u.type=1/\u.type=ts):∀ (n fuel:Nat),fuel<=n->∀ {cs:List Value} {x:DataW H × List MemPlace},
 DataW.trod enc P w f g E fuel G cs=some x->∃ (T:TT n) (a:Option Addr) (c:Nat),cs=[Iv T.kind,Iv T.r,.slice a T.len c]/\TIn w All T a/\T.ok:=by
 intro n
 induction n with
 | zero =>
   intro fuel hf cs x h;obtain rfl:fuel=0:=by omega
   simp[DataW.trod] at h
 | succ n ih =>
   intro fuel hf cs x h;obtain⟨xs,m,rfl,_,y,Q,p⟩:=DataW.trod_struct ht h
   have ad:xs.length=3:=Q;have g0:=p 0 A Z;have g1:=p 1 D Z;have g2:=p 2 u Z;rw[J.1,J.2.1,Zg (by omega)] at g0
   rw[X.1,X.2.1,Zg (by omega)] at g1
   rw[S.1,S.2.1,S.2.2,Zg (by omega)] at g2
   obtain⟨k,e0,_,_⟩:=DataW.trod_int J.2.2 g0
   obtain⟨r,e1,_,aa⟩:=DataW.trod_int X.2.2 g1
   have ew:-9223372036854775808<=r/\r<=9223372036854775807:=by
    have:=Go.bounds_i64 aa
    omega
   rw[hc] at y
   obtain⟨c0,M,V,rfl⟩:∃ c0 M V,cs=[c0,M,V]:=by
    match cs,y with
    | [c0,M,V],_=>exact⟨_,_,_,Z⟩
   simp at e0 e1
   subst e0 e1;rcases DataW.trod_slice hs g2 with ⟨v,_⟩|⟨a,len,ab,K,af,q,rfl,v,_,hb,hl,hm,ac,L,_,_⟩
   ·simp at v
    subst v;exact⟨mkT k r [],none,0,Z,LIn.nil,ew,fun x t=>by cases t⟩
   ·simp at v
    subst v
    obtain⟨l,R,U⟩:=Qlt (P:=fun i (T:TT n)=>∃ o s,w.cells? f (a.add (i*3)) 3=some [Iv T.kind,Iv T.r,.slice o T.len s]/\TIn w All T o/\T.ok) len (fun i z=>by
     have O:=L i z;rw[Zg (by omega),hc] at O
     rw[Option.bind_eq_some_iff] at O
     obtain⟨ag,e,W⟩:=O
     obtain⟨T,o,s,rfl,I,F⟩:=ih q (by omega) W
     exact⟨T,o,s,e,I,F⟩)
    refine⟨mkT k r l,some a,ab,by simp[TT.kind,TT.r,TT.len,R],fun i x t=>?_,ew,fun x t=>?_⟩
    ·obtain⟨o,s,e,I,F⟩:=U i x t
     obtain⟨_,ae,d⟩:=World.cells?_some e
     have q0:=d 0 (by omega);have q1:=d 1 (by omega);have q2:=d 2 (by omega);obtain⟨b,N,B⟩:=a
     have j:B=none:=by
      have z:0<l.length:=Nat.lt_of_le_of_lt (Xb i) (Zi t).1;obtain⟨_,_,C,_,_⟩:=U 0 l[0] (Zg z)
      have:=(World.cells?_some C).2.2 0 (by omega)
      simpa[Addr.add] using World.cell?_spot this
     subst j;rw[Go.WideShapes.add_plain,Go.WideShapes.add_plain] at q0 q1 q2
     exact⟨b,N,o,s,Z,Y,q0,q1,q2,I⟩
    ·obtain⟨i,z,rfl⟩:=List.mem_iff_getElem.1 t
     obtain⟨o,s,e,I,F⟩:=U i l[i] (Zg z)
     exact F
end
section
open Go.Deep
structure Qt where
 op:Int
 a:Int
 b:Int
 c:Int
 k:Int
 n:Int
 regs:List Int
 args:List Int
structure MTo where
 block:Int
 regs:List Int
 args:List Int
structure ZA where
 op:Int
 a:Int
 yes:MTo
 no:MTo
 args:List Int
structure MBlock (n:Nat) where
 regs:Int
 params:List (TT n)
 code:List Qt
 fin:ZA
structure MFunc (n:Nat) where
 regs:Int
 params:List (TT n)
 results:List (TT n)
 blocks:List (MBlock n)
def Lay.via {α β:Type}(A:Lay α) (f:β->α):Lay β where
 size:=A.size
 In:=fun w O x cs=>A.In w O (f x) cs
 len:=fun h=>A.len h
 keep:=fun hb hl h=>A.keep hb hl h
def Lay.tt (n:Nat):Lay (TT n) where
 size:=3
 In:=fun w O t cs=>∃ a c,cs=[Iv t.kind,Iv t.r,.slice a t.len c]/\TIn w O t a/\t.ok
 len:=fun ⟨_,_,e,_⟩=>by rw[e];rfl
 keep:=fun hb hl ⟨a,c,e,h1,h2⟩=>⟨a,c,e,h1.keep hb hl,h2⟩
abbrev intsL:Lay (List Int):=Lay.int.list
abbrev Qo (n:Nat):Lay (List (TT n)):=(Lay.tt n).list
def insL:Lay Qt:=(Lay.int.pair (Lay.int.pair (Lay.int.pair (Lay.int.pair (Lay.int.pair (Lay.int.pair (intsL.pair intsL))))))).via (fun x=>(x.op,x.a,x.b,x.c,x.k,x.n,x.regs,x.args))
def toL:Lay MTo:=(Lay.int.pair (intsL.pair intsL)).via (fun x=>(x.block,x.regs,x.args))
def endL:Lay ZA:=(Lay.int.pair (Lay.int.pair (toL.pair (toL.pair intsL)))).via (fun x=>(x.op,x.a,x.yes,x.no,x.args))
def Zp (n:Nat):Lay (MBlock n):=(Lay.int.pair ((Qo n).pair (insL.list.pair endL))).via (fun x=>(x.regs,x.params,x.code,x.fin))
def ZV (n:Nat):Lay (MFunc n):=(Lay.int.pair ((Qo n).pair ((Qo n).pair (Zp n).list))).via (fun x=>(x.regs,x.params,x.results,x.blocks))
abbrev QaM (n:Nat):Lay (List (MFunc n)):=(ZV n).list
section
variable {w:World}{O:Nat->Prop}{n:Nat}{cs:List Value}
theorem QK {α:Type}{A:Lay α}{l:List α}(h:A.list.In w O l cs):∃ a c,cs=[.slice a l.length c]/\A.list.In w O l [.slice a l.length c]:=by
 obtain⟨a,c,e,h⟩:=h
 exact⟨a,c,e,a,c,Z,h⟩
theorem QfR {x:MTo}(h:toL.In w O x cs):∃ a c b d,cs=[Iv x.block,.slice a x.regs.length c,.slice b x.args.length d]/\intsL.In w O x.regs [.slice a x.regs.length c]/\intsL.In w O x.args [.slice b x.args.length d]/\(-9223372036854775808<=x.block/\x.block<=9223372036854775807):=by
 obtain⟨_,_,rfl,⟨rfl,g⟩,⟨_,_,rfl,f,e⟩⟩:=h
 obtain⟨a,c,rfl,f⟩:=QK f
 obtain⟨b,d,rfl,e⟩:=QK e
 exact⟨a,c,b,d,Z,f,e,g⟩
theorem Qnj {x:MTo}{b:Option Addr}(g:intsL.In w O x.regs [.slice a x.regs.length c]) (f:intsL.In w O x.args [.slice b x.args.length d]) (e:-9223372036854775808<=x.block/\x.block<=9223372036854775807) :
 toL.In w O x [Iv x.block,.slice a x.regs.length c,.slice b x.args.length d]:=⟨_,_,Z,⟨Z,e⟩,⟨_,_,Z,g,f⟩⟩
theorem QkP {x:Qt}(h:insL.In w O x cs):∃ a c b d,cs=[Iv x.op,Iv x.a,Iv x.b,Iv x.c,Iv x.k,Iv x.n,.slice a x.regs.length c,.slice b x.args.length d]/\intsL.In w O x.regs [.slice a x.regs.length c]/\intsL.In w O x.args [.slice b x.args.length d] /\
 ((-9223372036854775808<=x.op/\x.op<=9223372036854775807)/\(-9223372036854775808<=x.a/\x.a<=9223372036854775807)/\(-9223372036854775808<=x.b/\x.b<=9223372036854775807)/\(-9223372036854775808<=x.c/\x.c<=9223372036854775807)/\(-9223372036854775808<=x.k/\x.k<=9223372036854775807)/\(-9223372036854775808<=x.n/\x.n<=9223372036854775807)):=by
 obtain⟨_,_,rfl,⟨rfl,i⟩,⟨_,_,rfl,⟨rfl,j⟩,⟨_,_,rfl,⟨rfl,o⟩,⟨_,_,rfl,⟨rfl,g⟩,⟨_,_,rfl,⟨rfl,m⟩,⟨_,_,rfl,⟨rfl,l⟩,⟨_,_,rfl,f,e⟩⟩⟩⟩⟩⟩⟩:=h
 obtain⟨a,c,rfl,f⟩:=QK f
 obtain⟨b,d,rfl,e⟩:=QK e
 exact⟨a,c,b,d,Z,f,e,i,j,o,g,m,l⟩
theorem QmW {x:Qt}{b:Option Addr}(g:intsL.In w O x.regs [.slice a x.regs.length c]) (f:intsL.In w O x.args [.slice b x.args.length d])
 (e:(-9223372036854775808<=x.op/\x.op<=9223372036854775807)/\(-9223372036854775808<=x.a/\x.a<=9223372036854775807)/\(-9223372036854775808<=x.b/\x.b<=9223372036854775807)/\(-9223372036854775808<=x.c/\x.c<=9223372036854775807)/\(-9223372036854775808<=x.k/\x.k<=9223372036854775807)/\(-9223372036854775808<=x.n/\x.n<=9223372036854775807)) :
 insL.In w O x [Iv x.op,Iv x.a,Iv x.b,Iv x.c,Iv x.k,Iv x.n,.slice a x.regs.length c,.slice b x.args.length d] :=
 ⟨_,_,Z,⟨Z,e.1⟩,⟨_,_,Z,⟨Z,e.2.1⟩,⟨_,_,Z,⟨Z,e.2.2.1⟩,⟨_,_,Z,⟨Z,e.2.2.2.1⟩,⟨_,_,Z,⟨Z,e.2.2.2.2.1⟩,⟨_,_,Z,⟨Z,e.2.2.2.2.2⟩,⟨_,_,Z,g,f⟩⟩⟩⟩⟩⟩⟩
theorem Qgw {x:ZA}(h:endL.In w O x cs):∃ c1 c2 a c,cs=Iv x.op::Iv x.a::(c1++(c2++[.slice a x.args.length c]))/\toL.In w O x.yes c1/\toL.In w O x.no c2/\intsL.In w O x.args [.slice a x.args.length c]/\((-9223372036854775808<=x.op/\x.op<=9223372036854775807)/\(-9223372036854775808<=x.a/\x.a<=9223372036854775807)):=by
 obtain⟨_,_,rfl,⟨rfl,e⟩,⟨_,_,rfl,⟨rfl,f⟩,⟨c1,_,rfl,g,⟨c2,_,rfl,d,b⟩⟩⟩⟩:=h
 obtain⟨a,c,rfl,b⟩:=QK b
 exact⟨c1,c2,a,c,Z,g,d,b,e,f⟩
theorem Qmq {x:ZA}{d b:List Value}(h:toL.In w O x.yes d) (f:toL.In w O x.no b) (g:intsL.In w O x.args [.slice a x.args.length c]) (e:(-9223372036854775808<=x.op/\x.op<=9223372036854775807)/\(-9223372036854775808<=x.a/\x.a<=9223372036854775807)) :
 endL.In w O x (Iv x.op::Iv x.a::(d++(b++[.slice a x.args.length c]))):=⟨[_],_,Z,⟨Z,e.1⟩,⟨[_],_,Z,⟨Z,e.2⟩,⟨d,_,Z,h,⟨b,_,Z,f,g⟩⟩⟩⟩
theorem Qb9 {x:MBlock n}(h:(Zp n).In w O x cs):∃ a c b d es,cs=Iv x.regs::.slice a x.params.length c::.slice b x.code.length d::es/\(Qo n).In w O x.params [.slice a x.params.length c]/\insL.list.In w O x.code [.slice b x.code.length d]/\endL.In w O x.fin es/\(-9223372036854775808<=x.regs/\x.regs<=9223372036854775807):=by
 obtain⟨_,_,rfl,⟨rfl,i⟩,⟨_,_,rfl,f,⟨_,es,rfl,e,g⟩⟩⟩:=h
 obtain⟨a,c,rfl,f⟩:=QK f
 obtain⟨b,d,rfl,e⟩:=QK e
 exact⟨a,c,b,d,es,Z,f,e,g,i⟩
theorem QgB {x:MBlock n}{b:Option Addr}{e:List Value}(h:(Qo n).In w O x.params [.slice a x.params.length c]) (i:insL.list.In w O x.code [.slice b x.code.length d]) (f:endL.In w O x.fin e) (g:-9223372036854775808<=x.regs/\x.regs<=9223372036854775807) :
 (Zp n).In w O x (Iv x.regs::.slice a x.params.length c::.slice b x.code.length d::e):=⟨[_],_,Z,⟨Z,g⟩,⟨[_],_,Z,h,⟨[_],e,Z,i,f⟩⟩⟩
theorem Qar {x:MFunc n}(h:(ZV n).In w O x cs):∃ a c b d e f,cs=[Iv x.regs,.slice a x.params.length c,.slice b x.results.length d,.slice e x.blocks.length f]/\(Qo n).In w O x.params [.slice a x.params.length c]/\(Qo n).In w O x.results [.slice b x.results.length d]/\(Zp n).list.In w O x.blocks [.slice e x.blocks.length f]/\(-9223372036854775808<=x.regs/\x.regs<=9223372036854775807):=by
 obtain⟨_,_,rfl,⟨rfl,k⟩,⟨_,_,rfl,j,⟨_,_,rfl,i,g⟩⟩⟩:=h
 obtain⟨a,c,rfl,j⟩:=QK j
 obtain⟨b,d,rfl,i⟩:=QK i
 obtain⟨e,f,rfl,g⟩:=QK g
 exact⟨a,c,b,d,e,f,Z,j,i,g,k⟩
theorem QiU {x:MFunc n}{b e:Option Addr}(j:(Qo n).In w O x.params [.slice a x.params.length c]) (i:(Qo n).In w O x.results [.slice b x.results.length d]) (g:(Zp n).list.In w O x.blocks [.slice e x.blocks.length f]) (h:-9223372036854775808<=x.regs/\x.regs<=9223372036854775807) :
 (ZV n).In w O x [Iv x.regs,.slice a x.params.length c,.slice b x.results.length d,.slice e x.blocks.length f]:=⟨[_],_,Z,⟨Z,h⟩,⟨[_],_,Z,j,⟨[_],_,Z,i,g⟩⟩⟩
theorem ZI (h:intsL.In w O l [.slice a m c])(hi:i<l.length):∃ g o,a=some ⟨g,o,none⟩/\O g/\g<w.heap.size/\w.cell? ⟨g,o+i,none⟩=some (Iv (l.getD i 0)):=by
 obtain⟨g,o,k,e,d,f,b,rfl,_⟩:=Yf h (Zg hi)
 refine⟨g,o,e,d,f,?_⟩
 have:=b 0 (by decide)
 have j:Lay.int.size=1:=rfl;rw[j,XL,Nat.add_zero] at this
 rw[this]
 simp[List.getD,hi]
theorem QU {l:List (TT n)}(h:(Qo n).In w O l [.slice a m c]):LIn w O l a/\∀ x∈l,x.ok:=by
 refine⟨fun i x d=>?_,fun x d=>?_⟩
 ·obtain⟨g,o,s,e,j,t,b,p,f,rfl,k,_⟩:=Yf h d
  have u:(Lay.tt n).size=3:=rfl;rw[u] at b
  exact⟨g,o,p,f,e,j,b 0 (by omega),b 1 (by omega),b 2 (by omega),k⟩
 ·obtain⟨i,q,rfl⟩:=List.mem_iff_getElem.1 d
  obtain⟨g,o,s,e,j,t,b,p,f,rfl,k,r⟩:=Yf h (Zg q)
  exact r
theorem QeP {l:List (TT n)}(h:LIn w O l a) (d:∀ x∈l,x.ok):(Qo n).In w O l [.slice a l.length c]:=by
 refine⟨a,c,Z,fun i x k=>?_⟩
 obtain⟨g,o,p,f,e,s,m,q,u,t⟩:=LIn.at h k
 refine⟨g,o,[Iv x.kind,Iv x.r,.slice p x.len f],e,s,Xi w ⟨g,o+i*3,none⟩ m,fun j v=>?_,p,f,Z,t,d x (Zm k)⟩
 have b:j<3:=v;have y:(Lay.tt n).size=3:=rfl;rw[y]
 match j,b with
 | 0,_=>exact m
 | 1,_=>exact q
 | 2,_=>exact u
end
end
def Q7 (op:Int):Option (Bool × Bool × Bool × Bool × Bool × Bool × Bool) :=
 if op=1 then some (false,false,false,false,true,false,false)
 else if op=2\/op=7 then some (true,true,false,true,false,false,false)
 else if op=3\/op=12 then some (false,false,false,false,false,false,false)
 else if op=4\/op=11\/op=13 then some (true,false,false,false,false,false,false)
 else if op=5 then some (true,false,false,false,false,false,true)
 else if op=6 then some (true,false,false,true,false,false,false)
 else if op=8\/op=9 then some (true,true,false,false,false,false,false)
 else if op=10 then some (true,true,true,false,false,false,false)
 else if op=14 then some (false,false,false,true,false,true,true)
 else none
def Qt.formless (x:Qt):Bool:=match Q7 x.op with
 | none=>false
 | some (a,b,c,k,n,rg,ar)=>(!a&&x.a != 0)||(!b&&x.b != 0)||(!c&&x.c != 0)||(!k&&x.k != 0)||(!n&&x.n != 0)||(!rg&&decide (0<x.regs.length))||(!ar&&decide (0<x.args.length))
def Qt.form (funcs:Nat) (x:Qt):Int :=
 if (Q7 x.op).isNone then 3
 else if x.formless then 4
 else if x.op=2/\(x.k<1\/9<x.k) then 1
 else if x.op=5/\8<x.args.length then 2
 else if (x.op=6\/x.op=7)/\(x.k<0\/7<x.k) then 1
 else if x.op=14/\(x.k<0\/(funcs:Int)<=x.k) then 1
 else if x.op=14/\(6<x.regs.length\/8<x.args.length) then 2
 else 0
def MTo.form (blocks:Nat) (has:Bool) (t:MTo):Int :=
 if has=false then (if t.block≠0\/0<t.regs.length+t.args.length then 4 else 0)
 else if t.block<0\/(blocks:Int)<=t.block then 1
 else if 16<t.regs.length\/8<t.args.length then 2
 else 0
def ZA.form (blocks:Nat) (e:ZA):Int :=
 if e.op<1\/3<e.op then 3
 else if (e.a≠0/\e.op≠2)\/(0<e.args.length/\e.op≠3) then 4
 else if 8<e.args.length then 2
 else if e.yes.form blocks (decide (e.op≠3))≠0 then e.yes.form blocks (decide (e.op≠3))
 else e.no.form blocks (decide (e.op=2))
def listC {n:Nat}(regs:Int) (l:List (TT n)):Int:=if 8<l.length then 2 else Qu (TT.check regs) l
def firstF {α:Type}(f:Nat->α->Int × Int):Nat->List α->Int × Int
 | _,[]=>(0,0)
 | i,x::xs=>if (f i x).1≠0 then f i x else firstF f (i+1) xs
def TT.dec:(n:Nat)->DecidableEq (TT n)
 | 0=>fun t _=>Empty.elim t
 | n+1=>fun t u=>match (TT.dec n) with
   | d=>if h1:t.1=u.1 then if h2:t.2.1=u.2.1 then match (@List.hasDecEq _ d t.2.2 u.2.2) with
    | isTrue h3=>isTrue (by obtain⟨a,b,c⟩:=t;obtain⟨a',b',c'⟩:=u;simp only at h1 h2 h3;subst h1 h2 h3;rfl)
    | isFalse h3=>isFalse (fun e=>h3 (by rw[e]))
    else isFalse (fun e=>h2 (by rw[e])) else isFalse (fun e=>h1 (by rw[e]))
def QcF {n:Nat}(l m:List (TT n)):Bool:=match @List.hasDecEq _ (TT.dec n) l m with
 | isTrue _=>true
 | isFalse _=>false
theorem QcO {l m:List (TT n)}:QcF l m=true↔l=m:=by
 unfold QcF;split
 ·rename_i h _;simp[h]
 ·rename_i h _;simp[h]
def MBlock.fault {n:Nat}(funcs:Nat) (f:Nat) (fn:MFunc n) (b:Nat) (x:MBlock n):Int × Int :=
 if x.regs<fn.regs\/16<x.regs then (1,10000*f+100*b+90)
 else if listC x.regs x.params≠0 then (listC x.regs x.params,10000*f+100*b+90)
 else if b=0/\(x.regs≠fn.regs\/QcF x.params fn.params=false) then (9,10000*f+100*b+90)
 else if 40<x.code.length then (2,10000*f+100*b+90)
 else if (firstF (fun i y=>(Qt.form funcs y,(10000*f+100*b+i:Int))) 0 x.code).1≠0 then firstF (fun i y=>(Qt.form funcs y,(10000*f+100*b+i:Int))) 0 x.code
 else if x.fin.form fn.blocks.length≠0 then (x.fin.form fn.blocks.length,10000*f+100*b+91)
 else (0,0)
def MFunc.fault {n:Nat}(funcs:Nat) (f:Nat) (x:MFunc n):Int × Int :=
 if x.regs<0\/6<x.regs then (1,10000*f+9999)
 else if listC x.regs x.params≠0 then (listC x.regs x.params,10000*f+9999)
 else if listC x.regs x.results≠0 then (listC x.regs x.results,10000*f+9999)
 else if x.blocks.length<1\/12<x.blocks.length then (2,10000*f+9999)
 else if f=0/\¬ (x.regs=0/\x.params.length=0/\x.results.all (fun t=>t.kind==1)=true) then (18,10000*f+9999)
 else firstF (fun b y=>MBlock.fault funcs f x b y) 0 x.blocks
def modFault {n:Nat}(m:List (MFunc n)):Int × Int :=
 if m.length<1\/8<m.length then (2,-1) else firstF (fun f x=>MFunc.fault m.length f x) 0 m
def Zy {n:Nat}(l:List (TT n)):Prop:=200<l.length\/∃ t∈l,2000<t.count
def MBlock.great {n:Nat}(x:MBlock n):Prop:=200<x.code.length\/Zy x.params\/300<x.fin.args.length\/300<x.fin.yes.regs.length\/300<x.fin.yes.args.length\/300<x.fin.no.regs.length\/300<x.fin.no.args.length\/∃ y∈x.code,300<y.regs.length\/300<y.args.length
def MFunc.great {n:Nat}(x:MFunc n):Prop:=30<x.blocks.length\/Zy x.params\/Zy x.results\/∃ y∈x.blocks,y.great
def Qm {n:Nat}(m:List (MFunc n)):Prop:=20<m.length\/∃ x∈m,x.great
theorem Qat {α:Type}{f:Nat->α->Int × Int}:∀ {l:List α}{i j:Nat}{x:α},l[i]?=some x->(∀ k y,k<i->l[k]?=some y->(f (j+k) y).1=0)->(f (j+i) x).1≠0->firstF f j l=f (j+i) x
 | [],i,j,x,h,_,_=>by simp at h
 | y::ys,0,j,x,h,_,hf=>by
   simp at h;subst h
   simp only[firstF]
   rw[Xs (by simpa using hf)]
   rfl
 | y::ys,i+1,j,x,h,hz,hf=>by
   have b:(f j y).1=0:=by simpa using hz 0 y (by omega) Z
   simp only[firstF,b,ne_eq,not_true_eq_false,if_false]
   have:=Qat (f:=f) (l:=ys) (i:=i) (j:=j+1) (x:=x) (by simpa using h) (fun k z c a=>by have:=hz (k+1) z (by omega) (by simpa using a);rwa [show j+1+k=j+(k+1) by omega]) (by rwa [show j+1+i=j+(i+1) by omega])
   rw[this,show j+1+i=j+(i+1) by omega]
theorem Q0 {α:Type}{f:Nat->α->Int × Int}:∀ {l:List α}{j:Nat},(∀ (k:Nat) y,l[k]?=some y->(f (j+k) y).1=0)->firstF f j l=(0,0)
 | [],_,_=>rfl
 | y::ys,j,h=>by
   have a:(f j y).1=0:=by simpa using h 0 y Z
   simp only[firstF,a,ne_eq,not_true_eq_false,if_false]
   exact Q0 (fun k z b=>by have:=h (k+1) z (by simpa using b);rwa [show j+1+k=j+(k+1) by omega])
theorem Xq:type_of% @Decidable.not_not:=@Decidable.not_not
def QmX {n:Nat}(l:List (TT n)):Prop:=l.length<=8/\∀ t∈l,∃ regs:Int,regs<=16/\t.check regs=0
structure MBlock.fine {n:Nat}(x:MBlock n) (funcs:Nat):Prop where
 regs:0<=x.regs/\x.regs<=16
 params:QmX x.params
 code:∀ y∈x.code,y.form funcs=0
 fin:∃ nb,nb<=12/\x.fin.form nb=0
structure MFunc.fine {n:Nat}(x:MFunc n) (funcs:Nat):Prop where
 regs:0<=x.regs/\x.regs<=6
 params:QmX x.params
 results:QmX x.results
 blocks:∀ y∈x.blocks,y.fine funcs
theorem QR {α:Type}{f:Nat->α->Int × Int}:∀ {l:List α}{j:Nat},(firstF f j l).1=0->∀ (i:Nat) x,l[i]?=some x->(f (j+i) x).1=0
 | [],j,h,i,x,hx=>by simp at hx
 | y::l,j,h,i,x,hx=>by
   rw[firstF] at h
   by_cases a:(f j y).1=0
   ·rw[Xr (by simpa using a)] at h
    cases i with
    | zero=>simp at hx;subst hx;exact a
    | succ i =>
      have:=QR h i x (by simpa using hx)
      rwa [show j+1+i=j+(i+1) by omega] at this
   ·rw[Xs a] at h
    exact absurd h a
theorem Ql0 {regs:Int}{l:List (TT n)}(b:regs<=16) (h:listC regs l=0):QmX l:=by
 unfold listC at h;split at h
 ·cases h
 ·exact⟨by omega,fun t a=>⟨regs,b,QE.1 h t a⟩⟩
theorem Qkq {fn:MFunc n}{x:MBlock n}(k:0<=fn.regs) (j:fn.blocks.length<=12) (h:(MBlock.fault funcs f fn b x).1=0):x.fine funcs:=by
 unfold MBlock.fault at h;split at h
 ·cases h
 rename_i l
 split at h
 ·rename_i d;exact absurd h d
 rename_i d
 split at h
 ·cases h
 split at h
 ·cases h
 split at h
 ·rename_i c;exact absurd h c
 rename_i c
 split at h
 ·rename_i a;exact absurd h a
 rename_i a
 refine⟨by omega,Ql0 (by omega) (Xq.1 d),fun y g=>?_,_,j,Xq.1 a⟩
 obtain⟨i,e⟩:=List.getElem?_of_mem g
 exact QR (Xq.1 c) i y e
theorem QlM {x:MFunc n}(h:(MFunc.fault funcs f x).1=0):x.fine funcs:=by
 unfold MFunc.fault at h;split at h
 ·cases h
 rename_i e
 split at h
 ·rename_i b;exact absurd h b
 rename_i b
 split at h
 ·rename_i a;exact absurd h a
 rename_i a
 split at h
 ·cases h
 rename_i g
 split at h
 ·cases h
 refine⟨by omega,Ql0 (by omega) (Xq.1 b),Ql0 (by omega) (Xq.1 a),fun y d=>?_⟩
 obtain⟨i,c⟩:=List.getElem?_of_mem d
 exact Qkq (by omega) (by omega) (QR h i y c)
theorem Qmy {m:List (MFunc n)}(h:(modFault m).1=0):∀ x∈m,x.fine m.length:=by
 unfold modFault at h;split at h
 ·cases h
 intro x b;obtain⟨i,a⟩:=List.getElem?_of_mem b
 exact QlM (QR h i x a)
theorem QhL {x:Qt}(h:x.form funcs=0):(Q7 x.op).isNone=false/\x.formless=false/\(x.op=2->1<=x.k/\x.k<=9)/\(x.args.length<=8\/x.op≠5/\x.op≠14)/\(x.op=14->x.regs.length<=6):=by
 unfold Qt.form at h;split at h
 ·cases h
 split at h
 ·cases h
 split at h
 ·cases h
 split at h
 ·cases h
 split at h
 ·cases h
 split at h
 ·cases h
 split at h
 ·cases h
 rename_i a b c g f e d
 refine⟨Bool.eq_false_iff.2 a,Bool.eq_false_iff.2 b,by omega,by omega,by omega⟩
theorem QkA {b:Nat}{e:ZA}(j:b<=12) (h:e.form b=0):(e.op=1\/e.op=2\/e.op=3)/\(e.op≠2->e.a=0)/\(e.op≠3->e.args=[])/\e.args.length<=8/\e.yes.form b (decide (e.op≠3))=0/\e.no.form b (decide (e.op=2))=0:=by
 unfold ZA.form at h;split at h
 ·cases h
 split at h
 ·cases h
 split at h
 ·cases h
 split at h
 ·rename_i c;exact absurd h c
 rename_i c i f d
 refine⟨by omega,by omega,fun g=>Xf.1 (by omega),by omega,Xq.1 d,h⟩
theorem QcL {t:TT n}{regs:Int}(h:t.check regs=0):t.height<=4/\t.fault regs=0:=by
 unfold TT.check at h;split at h
 ·cases h
 ·exact⟨by omega,h⟩
theorem QjN {op:Int}(h:(Q7 op).isNone=false):op=1\/op=2\/op=3\/op=4\/op=5\/op=6\/op=7\/op=8\/op=9\/op=10\/op=11\/op=12\/op=13\/op=14:=by
 unfold Q7 at h;repeat' split at h
 all_goals first | omega | cases h
theorem Xo:type_of% @Nat.le_of_not_lt:=@Nat.le_of_not_lt
def MTo.small (x:MTo):Prop:=x.regs.length<=100000/\x.args.length<=100000
def Qt.small (x:Qt):Prop:=x.regs.length<=100000/\x.args.length<=100000
def ZA.small (x:ZA):Prop:=x.yes.small/\x.no.small/\x.args.length<=100000
def QcG {n:Nat}(l:List (TT n)):Prop:=l.length<=100000/\∀ t∈l,t.count<=100000
def MBlock.small {n:Nat}(x:MBlock n):Prop:=x.code.length<=100000/\QcG x.params/\x.fin.small/\∀ y∈x.code,y.small
def MFunc.small {n:Nat}(x:MFunc n):Prop:=x.blocks.length<=100000/\QcG x.params/\QcG x.results/\∀ y∈x.blocks,y.small
def Qbe {n:Nat}(m:List (MFunc n)):Prop:=m.length<=100000/\∀ x∈m,x.small
theorem QcI {l:List (TT n)}(h:¬ Zy l):QcG l:=⟨Zt (Xo fun x=>h (.inl x)) (by decide),fun t a=>Zt (Xo fun x=>h (.inr ⟨t,a,x⟩)) (by decide)⟩
theorem MBlock.small_of {x:MBlock n}(h:¬ x.great):x.small:=by
 unfold MBlock.great at h;simp only[not_or,not_exists,not_and,Nat.not_lt] at h
 obtain⟨f,j,c,i,g,e,d,a⟩:=h
 exact⟨Zt f (by decide),QcI j,⟨⟨Zt i (by decide),Zt g (by decide)⟩,⟨Zt e (by decide),Zt d (by decide)⟩,Zt c (by decide)⟩,fun y b=>⟨Zt (a y b).1 (by decide),Zt (a y b).2 (by decide)⟩⟩
theorem MFunc.small_of {x:MFunc n}(h:¬ x.great):x.small:=by
 unfold MFunc.great at h;simp only[not_or,not_exists,not_and,Nat.not_lt] at h
 obtain⟨b,e,a,c⟩:=h
 exact⟨Zt b (by decide),QcI e,QcI a,fun y d=>MBlock.small_of (c y d)⟩
theorem ZD {m:List (MFunc n)}(h:¬ Qm m):Qbe m:=by
 unfold Qm at h;simp only[not_or,not_exists,not_and,Nat.not_lt] at h
 exact⟨Zt h.1 (by decide),fun x a=>MFunc.small_of (h.2 x a)⟩
theorem XN:type_of% @List.length_map:=@List.length_map
def TT.at:{n:Nat}->(k:Nat)->TT n->TT (k+1)
 | 0,_,t=>Empty.elim t
 | n+1,0,t=>(t.1,t.2.1,[])
 | n+1,k+1,t=>(t.1,t.2.1,t.2.2.map (TT.at (n:=n) k))
theorem TT.at_kind:{n:Nat}->(k:Nat)->(t:TT n)->(t.at k).kind=t.kind
 | 0,_,t=>Empty.elim t
 | n+1,0,t=>rfl
 | n+1,k+1,t=>rfl
theorem TT.at_r:{n:Nat}->(k:Nat)->(t:TT n)->(t.at k).r=t.r
 | 0,_,t=>Empty.elim t
 | n+1,0,t=>rfl
 | n+1,k+1,t=>rfl
theorem TT.at_len:{n:Nat}->(k:Nat)->(t:TT n)->t.height<=k->(t.at k).len=t.len
 | 0,_,t,_=>Empty.elim t
 | n+1,0,t,h=>by
   have:=(Q9 (t:=t)).1 h
   show 0=t.2.2.length
   cases hx:t.2.2 with
   | nil=>rfl
   | cons x l=>have:=this x (by rw[hx];simp);omega
 | n+1,k+1,t,h=>by
   show (t.2.2.map _).length=_;rw[XN];rfl
theorem TIn.at {w:World}{O:Nat->Prop}:{n:Nat}->(k:Nat)->{t:TT n}->{a:Option Addr}->t.height<=k->TIn w O t a->TIn w O (t.at k) a
 | 0,_,t,_,_,_=>Empty.elim t
 | n+1,0,t,a,h,hi=>fun i x c=>by simp[TT.at] at c
 | n+1,k+1,t,a,h,hi=>fun i x c=>by
   have b:(t.2.2.map (TT.at k))[i]?=some x:=c;rw[XS,Option.map_eq_some_iff] at b
   obtain⟨y,f,rfl⟩:=b
   have d:y.height<=k:=by have:=(Q9 (t:=t)).1 h y (Zm f);omega
   obtain⟨g,o,s,l,e,q,m,r,j,p⟩:=hi i y f
   refine⟨g,o,s,l,e,q,?_,?_,?_,TIn.at k d p⟩
   ·rw[TT.at_kind];exact m
   ·rw[TT.at_r];exact r
   ·rw[TT.at_len k y d];exact j
theorem TT.at_ok:{n:Nat}->(k:Nat)->{t:TT n}->t.ok->(t.at k).ok
 | 0,_,t,_=>Empty.elim t
 | n+1,0,t,h=>⟨h.1,fun x a=>by cases a⟩
 | n+1,k+1,t,h=>⟨h.1,fun x a=>by
   obtain⟨y,b,rfl⟩:=List.mem_map.1 a
   exact TT.at_ok k (h.2 y b)⟩
def MBlock.at {n:Nat}(k:Nat) (x:MBlock n):MBlock (k+1):=⟨x.regs,x.params.map (TT.at k),x.code,x.fin⟩
def MFunc.at {n:Nat}(k:Nat) (x:MFunc n):MFunc (k+1):=⟨x.regs,x.params.map (TT.at k),x.results.map (TT.at k),x.blocks.map (MBlock.at k)⟩
def QeE {n:Nat}(k:Nat) (l:List (TT n)):Prop:=∀ t∈l,t.height<=k
def MBlock.flat {n:Nat}(k:Nat) (x:MBlock n):Prop:=QeE k x.params
def MFunc.flat {n:Nat}(k:Nat) (x:MFunc n):Prop:=QeE k x.params/\QeE k x.results/\∀ y∈x.blocks,y.flat k
theorem Lay.list_map {α β:Type}{A:Lay α}{B:Lay β}{f:α->β}{w:World}{O:Nat->Prop}{l:List α}{cs:List Value}(r:A.size=B.size) (p:∀ x∈l,∀ ds,A.In w O x ds->B.In w O (f x) ds) (h:A.list.In w O l cs):B.list.In w O (l.map f) cs:=by
 obtain⟨a,c,e,h⟩:=h
 refine⟨a,c,by rw[e,XN],fun i x b=>?_⟩
 rw[XS,Option.map_eq_some_iff] at b
 obtain⟨y,d,rfl⟩:=b
 obtain⟨g,o,ds,k,q,j,n,m⟩:=h i y d
 exact⟨g,o,ds,k,q,j,by rw[<-r];exact n,p y (Zm d) ds m⟩
section
variable {w:World}{O:Nat->Prop}{n:Nat}{cs:List Value}
theorem Qeu {l:List (TT n)}(b:QeE k l) (h:(Qo n).In w O l cs):(Qo (k+1)).In w O (l.map (TT.at k)) cs :=
 Lay.list_map (A:=Lay.tt n) (B:=Lay.tt (k+1)) Z (fun x d i ⟨a,c,e,f,g⟩=>⟨a,c,by rw[e,TT.at_kind,TT.at_r,TT.at_len k x (b x d)],f.at k (b x d),TT.at_ok k g⟩) h
theorem Qll {m:List (MFunc n)}(h:(modFault m).1=0):∀ x∈m,x.flat 5:=by
 have a:∀ {l:List (TT n)},QmX l->QeE 5 l:=fun h t e=>by
  obtain⟨r,_,f⟩:=h.2 t e
  have:=(QcL f).1
  omega
 intro x c;have b:=Qmy h x c;exact⟨a b.params,a b.results,fun y d=>a (b.blocks y d).params⟩
end
theorem Xc:type_of% @Int.eq_ofNat_of_zero_le:=@Int.eq_ofNat_of_zero_le
theorem Xe:type_of% @List.all_eq_true:=@List.all_eq_true
theorem XV:type_of% @List.take_add_one:=@List.take_add_one
def hHas (L:List Bool) (r:Int):Bool:=decide (0<=r)&&L.getD r.toNat false
def hTo (L:List Bool):Nat->List Int
 | 0=>[]
 | k+1=>hTo L k++(if L.getD k false then [(k:Int)] else [])
def Qak (L:List Bool):List Int:=hTo L L.length
def inB (l:List Int) (x:Int):Bool:=l.contains x
def hPass (L:List Bool):List Int->List Int->Int
 | ahead,[]=>if (Qak L).all (fun r=>inB ahead r) then 0 else 12
 | ahead,r::rest=>if hHas L r then (if inB ahead r then 13 else hPass L (ahead++[r]) rest) else 10
theorem Qam (L:List Bool)(h:L.length<=k):L.getD k false=false:=by
 simp[List.getD,List.getElem?_eq_none h]
theorem Qmg (L:List Bool):∀ k,L.length<=k->hTo L k=Qak L:=by
 intro k
 induction k with
 | zero=>intro h;rw[Qak,Nat.le_zero.1 h]
 | succ k ih =>
   intro h;rcases Nat.lt_or_ge k L.length with a | a
   ·rw[Qak,show L.length=k+1 by omega]
   ·rw[hTo,Qam L a,ih a];simp
theorem Qim (L:List Bool):∀ k,(hTo L k).length<=k:=by
 intro k
 induction k with
 | zero=>simp[hTo]
 | succ k ih =>
   rw[hTo]
   split<;>simp<;>omega
theorem QhU (L:List Bool):(Qak L).length<=L.length:=Qim L _
theorem QlR (L:List Bool) (r:Int):∀ k,r∈hTo L k↔0<=r/\r<k/\L.getD r.toNat false=true:=by
 intro k
 induction k with
 | zero=>simp[hTo];omega
 | succ k ih =>
   rw[hTo,List.mem_append,ih]
   constructor
   ·rintro (⟨b,d,a⟩ | h)
    ·exact⟨b,by omega,a⟩
    ·split at h
     ·rename_i c
      simp at h
      subst h;exact⟨by omega,by omega,by simpa using c⟩
     ·simp at h
   ·rintro ⟨b,d,a⟩;rcases Nat.lt_or_ge r.toNat k with f | f
    ·exact .inl ⟨b,by omega,a⟩
    ·have e:r=(k:Int):=by omega
     subst e;right
     simp only[Int.toNat_natCast] at a
     rw[a];simp
theorem Qc8 (L:List Bool) (r:Int):r∈Qak L↔hHas L r=true:=by
 rw[Qak,QlR,hHas]
 constructor
 ·rintro ⟨c,_,b⟩;rw[b];simp[c]
 ·intro h;simp only[Bool.and_eq_true,decide_eq_true_eq] at h
  refine⟨h.1,?_,h.2⟩
  rcases Nat.lt_or_ge r.toNat L.length with a | a
  ·omega
  ·rw[Qam L a] at h;simp at h
theorem Qc0 (L:List Bool) (k:Nat):hHas L (k:Int)=L.getD k false:=by simp[hHas]
theorem QaZ {r:Int}(h:hHas L r=true):∃ k:Nat,r=(k:Int)/\k<L.length/\L.getD k false=true:=by
 simp only[hHas,Bool.and_eq_true,decide_eq_true_eq] at h
 obtain⟨k,rfl⟩:=Xc h.1
 have b:L.getD k false=true:=by simpa using h.2
 refine⟨k,Z,?_,b⟩
 rcases Nat.lt_or_ge k L.length with a | a
 ·exact a
 ·rw[Qam L a] at b;cases b
theorem inB_iff :inB l x=true↔x∈l:=by simp[inB]
theorem QkB (l:List Int) (x y:Int):inB (l++[x]) y=(inB l y||decide (x=y)):=by
 rw[Bool.eq_iff_iff,inB_iff,Bool.or_eq_true,inB_iff,decide_eq_true_eq,List.mem_append,List.mem_singleton]
 exact⟨fun h=>h.imp id Eq.symm,fun h=>h.imp id Eq.symm⟩
theorem Qhb (L:List Bool) (l:List Int)(a:l[k]?=some x) :
 hPass L (l.take k) (l.drop k)=if hHas L x then (if inB (l.take k) x then 13 else hPass L (l.take (k+1)) (l.drop (k+1))) else 10:=by
 obtain⟨b,e⟩:=Zi a
 rw[List.drop_eq_getElem_cons b,e,hPass,XV,a]
 rfl
theorem QiX (L:List Bool) (l:List Int)(a:l.length<=k):hPass L (l.take k) (l.drop k)=if (Qak L).all (fun r=>inB l r) then 0 else 12:=by
 rw[List.drop_of_length_le a,XO a,hPass]
def Zz (L:List Bool) (l:List Int) (i:Nat):Bool:=L.getD i false&&!inB l (i:Int)
theorem Qiv (L:List Bool) (i:Nat):Zz L [] i=L.getD i false:=by simp[Zz,inB]
theorem QgN (L:List Bool) (l:List Int) (k i:Nat):Zz L (l++[(k:Int)]) i=if i=k then false else Zz L l i:=by
 unfold Zz;rw[QkB]
 by_cases h:i=k
 ·subst h;simp
 ·rw[Xr h]
  have:decide ((k:Int)=(i:Int))=false:=by simp;omega
  rw[this];simp
theorem Qhi (h:L.length<=16):((List.range 16).map (Zz L l)=List.replicate 16 false)↔(Qak L).all (fun r=>inB l r)=true:=by
 rw[Xe]
 constructor
 ·intro e r g;obtain⟨k,rfl,d,c⟩:=QaZ ((Qc8 L r).1 g)
  have a:k<16:=by omega
  have:((List.range 16).map (Zz L l))[k]?=some false:=by rw[e,List.getElem?_replicate,Xs a]
  rw[XS,List.getElem?_range a] at this
  simp only[Option.map_some,Option.some.injEq] at this
  unfold Zz at this;rw[c] at this
  simpa using this
 ·intro e;rw[List.eq_replicate_iff]
  refine⟨by simp,fun b f=>?_⟩
  obtain⟨k,d,rfl⟩:=List.mem_map.1 f
  unfold Zz
  cases c:L.getD k false with
  | false=>rfl
  | true =>
    have:=e (k:Int) ((Qc8 L _).2 (by rw[Qc0];exact c))
    rw[this];rfl
def QbF (L:List Bool):Int:=if L.length<16 then (L.length:Int) else -1
def QcQ (L:List Bool):List Bool:=if L.length<16 then L++[true] else L
def Qf3 (L:List Bool) (r:Int):List Bool:=if hHas L r then L.set r.toNat false else L
def QbU (n:Int):List Bool:=List.replicate (min n 16).toNat true
theorem Qfi (a:k<16):QcQ (List.replicate k true)=List.replicate (k+1) true:=by
 simp[QcQ,a,List.replicate_succ']
theorem QbP (C:P.underlying t=some (.array n e)) (z:P.underlying e=some .bool) (u:(P.info? e).map (·.size)=some 1) (w:World)
 (y:∀ a b,(Op.equalIn d e (.bool a) (.bool b)).run P w=.ok (a==b) w) (xs c:List Bool) (D:xs.length=n) (E:c.length=n) :
 (Op.equalIn (d+1) t (.agg (xs.map Value.bool).toArray) (.agg (c.map Value.bool).toArray)).run P w=.ok (xs==c) w:=by
 have v:(sizeOf e).run P w=.ok 1 w:=by
  cases hq:P.info? e with
  | none=>simp[hq] at u
  | some i=>simp[hq] at u;simp[sizeOf,typeInfo,hq,u]
 have f:∀ (q:List Bool) (i:Nat) (h:i<q.length),(part e (q.map Value.bool).toArray (i*1)).run P w=.ok (.bool q[i]) w:=by
  intro q i h;simp[part,isAgg,run_underlying z,h]
 simp only[Op.equalIn,Sem.run_bind,run_underlying C,Result.andThen_ok,v]
 rw[Std.Legacy.Range.forIn_eq_forIn_range',show Std.Legacy.Range.size [0:n]=n by simp[Std.Legacy.Range.size]]
 have r:∀ (m k:Nat),k+m=n->(xs.take k==c.take k)=true ->
  ((forIn (List.range' k m) ((none,()):Option Bool × Unit) fun i x=>do
    let __do_lift <-part e (xs.map Value.bool).toArray (i*1)
    let __do_lift_1 <-part e (c.map Value.bool).toArray (i*1)
    let __do_lift_2 <-Op.equalIn d e __do_lift __do_lift_1
    if (!__do_lift_2)=true then pure (ForInStep.done (some false,()))
    else pure (ForInStep.yield (none,())):Sem (Option Bool × Unit)).run P w)=.ok (if xs==c then none else some false,()) w:=by
  intro m
  induction m with
  | zero =>
    intro k B o
    have:(xs==c)=true:=by
     rw[XO (by omega),XO (by omega)] at o
     exact o
    simp[this]
  | succ m ih =>
    intro k B o;have j:k<xs.length:=by omega
    have l:k<c.length:=by omega
    simp only[List.range'_succ,List.forIn_cons,Sem.run_bind,f xs k j,f c k l,Result.andThen_ok,y]
    by_cases p:xs[k]=c[k]
    ·have A:(xs.take (k+1)==c.take (k+1))=true:=by
      rw[XV,XV,Zg j,Zg l,p,beq_iff_eq.1 o]
      simp
     have g:(xs[k]==c[k])=true:=by simpa using p
     simp only[g,Bool.not_true,Bool.false_eq_true,if_false,Sem.run_pure,Result.andThen_ok]
     exact ih (k+1) (by omega) A
    ·have g:(xs[k]==c[k])=false:=by simpa using p
     have s:(xs==c)=false:=by
      rw[beq_eq_false_iff_ne]
      intro e;subst e;exact p Z
     simp[g,s]
 have:=r n 0 (by omega) (by simp)
 rw[this]
 cases h:xs==c<;>simp
theorem Qcc (i:P.underlying t=some (.array n e)) (f:P.underlying e=some .bool) (j:(P.info? e).map (·.size)=some 1) (w:World)
 (xs c:List Bool) (g:xs.length=n) (h:c.length=n) :
 (Op.equalIn (d+2) t (.agg (xs.map Value.bool).toArray) (.agg (c.map Value.bool).toArray)).run P w=.ok (xs==c) w :=
 QbP i f j w (fun a b=>by simp[Op.equalIn,run_underlying f]) xs c g h
def Rd (P:Program) (f:FuncId) (args:Array Value) (w:World) (V:Value):Prop:=Calls P f args w fun e w'=>e=.returned V/\Below w.heap.size w w'
noncomputable def ZU (A:Prop):Bool:=@decide A (Classical.propDecidable A)
theorem Qa6 {A:Prop}:ZU A=true↔A:=by unfold ZU;simp
theorem QC {A:Prop}(h:A):ZU A=true:=Qa6.2 h
theorem QB {A:Prop}(h:¬ A):ZU A=false:=by
 cases e:ZU A with
 | false=>rfl
 | true=>exact absurd (Qa6.1 e) h
theorem QfP {A:Prop}{q:Bool}(h:q=true↔A):q=ZU A:=by
 cases q with
 | false=>exact(QB fun a=>by have:=h.2 a;cases this).symm
 | true=>exact(QC (h.1 Z)).symm
structure JSt where
 m:List (MFunc 6)
 f:MFunc 6
 H:List Bool
 L:List (TT 6)
def JSt.at (s:JSt) (k:Int):Option (TT 6):=if k<0 then none else s.L[k.toNat]?
def JSt.want (s:JSt) (k kind:Int) (held:Bool):Int:=match s.at k with
 | none=>1
 | some t=>if t.kind=kind then (if held&&!hHas s.H t.r then 10 else 0) else 9
def Qv (a b:Int):Int:=if a=0 then b else a
noncomputable def JSt.arg (s:JSt) (regs:List Int) (k:Int) (t:TT 6):Int:=match s.at k with
 | none=>1
 | some u=>if ZU (t.ren regs.length (fun i=>regs.getD i 0)=some u) then 0 else 9
noncomputable def JSt.args (s:JSt) (l:List Int) (ts:List (TT 6)) (regs:List Int):Int :=
 if l.length=ts.length then Qu (fun p:Int × TT 6=>s.arg regs p.1 p.2) (l.zip ts) else 2
def zeroTT:TT 6:=mkT 0 0 []
def tInt:TT 6:=mkT 1 0 []
def Qaj (regs:List Int) (t:TT 6):TT 6:=(t.ren regs.length (fun i=>regs.getD i 0)).getD zeroTT
def QL (H:List Bool):List Int->List Int->Int
 | _,[]=>0
 | ahead,r::rest=>if hHas H r then (if inB ahead r then 13 else QL H (ahead++[r]) rest) else 10
def JSt.fields (s:JSt):List Int->Option (List (TT 6))
 | []=>some []
 | k::r=>match s.at k with
   | none=>none
   | some t=>match s.fields r with
     | none=>none
     | some l=>some (t::l)
noncomputable def JSt.makes (s:JSt) (x:Qt):Int × List (TT 6) :=
 if x.op=1\/x.op=12 then (0,[tInt])
 else if x.op=2 then (Qv (s.want x.a 1 false) (s.want x.b 1 false),[tInt])
 else if x.op=3 then (if s.H.length=16 then (2,[]) else (0,[mkT 2 s.H.length []]))
 else if x.op=4 then (match s.at x.a with
  | none=>(1,[])
  | some t=>(Qv (s.want x.a 2 true) (if t.r<s.f.regs then 11 else 0),[]))
 else if x.op=5 then (match s.at x.a with
  | none=>(1,[])
  | some t=>if s.want x.a 2 true=0 then (match s.fields x.args with
   | none=>(1,[])
   | some l=>if 4<TT.height (n:=7) (mkT 3 t.r l) then (19,[]) else (0,[TT.at (n:=7) 5 (mkT 3 t.r l)]))
   else (s.want x.a 2 true,[]))
 else if x.op=6 then (match s.at x.a with
  | none=>(1,[])
  | some t=>if s.want x.a 3 true=0 then (match t.2.2[x.k.toNat]? with
   | none=>(9,[])
   | some u=>(0,[u.at 5]))
   else (s.want x.a 3 true,[]))
 else if x.op=7 then (match s.at x.a with
  | none=>(1,[])
  | some t=>if s.want x.a 3 true=0 then (match t.2.2[x.k.toNat]? with
   | none=>(9,[])
   | some u=>(match s.at x.b with
     | none=>(1,[])
     | some v=>if ZU (u.at 5=v) then (0,[]) else (9,[])))
   else (s.want x.a 3 true,[]))
 else if x.op=8 then (match s.at x.a with
  | none=>(1,[])
  | some t=>(Qv (s.want x.a 2 true) (s.want x.b 1 false),[mkT 4 t.r []]))
 else if x.op=9 then (Qv (s.want x.a 4 true) (s.want x.b 1 false),[tInt])
 else if x.op=10 then (Qv (s.want x.a 4 true) (Qv (s.want x.b 1 false) (s.want x.c 1 false)),[])
 else if x.op=11 then (s.want x.a 4 true,[tInt])
 else if x.op=13 then (s.want x.a 1 false,[])
 else (match s.m[x.k.toNat]? with
  | none=>(0,[])
  | some g=>if (x.regs.length:Int)=g.regs then
   (Qv (QL s.H [] x.regs) (s.args x.args g.params x.regs),g.results.map (Qaj x.regs))
   else (2,[]))
noncomputable def JSt.code (s:JSt) (x:Qt):Int :=
 if x.form s.m.length≠0 then x.form s.m.length
 else if (s.makes x).1≠0 then (s.makes x).1
 else if 80<s.L.length+(s.makes x).2.length then 2 else 0
noncomputable def JSt.next (s:JSt) (x:Qt):JSt :=
 { s with
  H:=if x.op=3 then s.H++[true] else if x.op=4 then s.H.set (match s.at x.a with | none=>0 | some t=>t.r.toNat) false else s.H
  L:=s.L++(s.makes x).2 }
noncomputable def JSt.ins (s:JSt) (x:Qt):JSt:=if s.code x=0 then s.next x else s
def Qdj (n:Nat) (regs:List Int):Int:=if (List.range n).all (fun (i:Nat)=>decide (regs.getD i 0=(i:Int))) then 0 else 11
noncomputable def JSt.to (s:JSt) (t:MTo):Int:=match s.f.blocks[t.block.toNat]? with
 | none=>0
 | some b=>if (t.regs.length:Int)=b.regs then
  Qv (Qdj s.f.regs.toNat t.regs) (Qv (hPass s.H [] t.regs) (s.args t.args b.params t.regs))
  else 2
def QhC (n:Nat):List Int:=(List.range n).map (fun (i:Nat)=>(i:Int))
noncomputable def JSt.fin (s:JSt) (e:ZA):Int :=
 if e.form s.f.blocks.length≠0 then e.form s.f.blocks.length
 else if e.op=1 then s.to e.yes
 else if e.op=2 then Qv (s.want e.a 1 false) (Qv (s.to e.yes) (s.to e.no))
 else Qv (s.args e.args s.f.results (QhC s.f.regs.toNat)) (if (Qak s.H).all (fun r=>decide (r<s.f.regs)) then 0 else 12)
theorem Z5 {s:JSt}{x:Qt}(h:x.op=1\/x.op=12):s.makes x=(0,[tInt]):=by
 unfold JSt.makes;rw[Xs h]
theorem QbQ {s:JSt}{x:Qt}(h:x.op=2):s.makes x=(Qv (s.want x.a 1 false) (s.want x.b 1 false),[tInt]):=by
 unfold JSt.makes;rw[Xr (by omega),Xs h]
theorem QbD {s:JSt}{x:Qt}(h:x.op=3):s.makes x=(if s.H.length=16 then (2,[]) else (0,[mkT 2 s.H.length []])):=by
 unfold JSt.makes;rw[Xr (by omega),Xr (by omega),Xs h]
theorem Qau {s:JSt}{x:Qt}(h:x.op=4):s.makes x=(match s.at x.a with
 | none=>(1,[])
 | some t=>(Qv (s.want x.a 2 true) (if t.r<s.f.regs then 11 else 0),[])):=by
 unfold JSt.makes;rw[Xr (by omega),Xr (by omega),Xr (by omega),Xs h]
theorem Qbl {s:JSt}{x:Qt}(h:x.op=5):s.makes x=(match s.at x.a with
 | none=>(1,[])
 | some t=>if s.want x.a 2 true=0 then (match s.fields x.args with
  | none=>(1,[])
  | some l=>if 4<TT.height (n:=7) (mkT 3 t.r l) then (19,[]) else (0,[TT.at (n:=7) 5 (mkT 3 t.r l)]))
  else (s.want x.a 2 true,[])):=by
 unfold JSt.makes;rw[Xr (by omega),Xr (by omega),Xr (by omega),Xr (by omega),Xs h]
theorem Qdf {s:JSt}{x:Qt}(h:x.op=6):s.makes x=(match s.at x.a with
 | none=>(1,[])
 | some t=>if s.want x.a 3 true=0 then (match t.2.2[x.k.toNat]? with
  | none=>(9,[])
  | some u=>(0,[u.at 5]))
  else (s.want x.a 3 true,[])):=by
 unfold JSt.makes;rw[Xr (by omega),Xr (by omega),Xr (by omega),Xr (by omega),Xr (by omega),Xs h]
theorem QcP {s:JSt}{x:Qt}(h:x.op=7):s.makes x=(match s.at x.a with
 | none=>(1,[])
 | some t=>if s.want x.a 3 true=0 then (match t.2.2[x.k.toNat]? with
  | none=>(9,[])
  | some u=>(match s.at x.b with
    | none=>(1,[])
    | some v=>if ZU (u.at 5=v) then (0,[]) else (9,[])))
  else (s.want x.a 3 true,[])):=by
 unfold JSt.makes;rw[Xr (by omega),Xr (by omega),Xr (by omega),Xr (by omega),Xr (by omega),Xr (by omega),Xs h]
theorem Qbj {s:JSt}{x:Qt}(h:x.op=8):s.makes x=(match s.at x.a with
 | none=>(1,[])
 | some t=>(Qv (s.want x.a 2 true) (s.want x.b 1 false),[mkT 4 t.r []])):=by
 unfold JSt.makes;rw[Xr (by omega),Xr (by omega),Xr (by omega),Xr (by omega),Xr (by omega),Xr (by omega),Xr (by omega),Xs h]
theorem Qa5 {s:JSt}{x:Qt}(h:x.op=9):s.makes x=(Qv (s.want x.a 4 true) (s.want x.b 1 false),[tInt]):=by
 unfold JSt.makes;rw[Xr (by omega),Xr (by omega),Xr (by omega),Xr (by omega),Xr (by omega),Xr (by omega),Xr (by omega),Xr (by omega),Xs h]
theorem QaA {s:JSt}{x:Qt}(h:x.op=10):s.makes x=(Qv (s.want x.a 4 true) (Qv (s.want x.b 1 false) (s.want x.c 1 false)),[]):=by
 unfold JSt.makes;rw[Xr (by omega),Xr (by omega),Xr (by omega),Xr (by omega),Xr (by omega),Xr (by omega),Xr (by omega),Xr (by omega),Xr (by omega),Xs h]
theorem QbH {s:JSt}{x:Qt}(h:x.op=11):s.makes x=(s.want x.a 4 true,[tInt]):=by
 unfold JSt.makes;rw[Xr (by omega),Xr (by omega),Xr (by omega),Xr (by omega),Xr (by omega),Xr (by omega),Xr (by omega),Xr (by omega),Xr (by omega),Xr (by omega),Xs h]
theorem QbG {s:JSt}{x:Qt}(h:x.op=13):s.makes x=(s.want x.a 1 false,[]):=by
 unfold JSt.makes;rw[Xr (by omega),Xr (by omega),Xr (by omega),Xr (by omega),Xr (by omega),Xr (by omega),Xr (by omega),Xr (by omega),Xr (by omega),Xr (by omega),Xr (by omega),Xs h]
theorem Qba {s:JSt}{x:Qt}(h:x.op=14):s.makes x=(match s.m[x.k.toNat]? with
 | none=>(0,[])
 | some g=>if (x.regs.length:Int)=g.regs then
  (Qv (QL s.H [] x.regs) (s.args x.args g.params x.regs),g.results.map (Qaj x.regs))
  else (2,[])):=by
 unfold JSt.makes;rw[Xr (by omega),Xr (by omega),Xr (by omega),Xr (by omega),Xr (by omega),Xr (by omega),Xr (by omega),Xr (by omega),Xr (by omega),Xr (by omega),Xr (by omega),Xr (by omega)]
def JSt.start (m:List (MFunc 6)) (f:MFunc 6) (b:MBlock 6):JSt:=⟨m,f,QbU b.regs,b.params⟩
theorem QkN {k r:Int}{len:Nat}{a b:Int}(g:a<=b) (h:ownC k r len a=0):ownC k r len b=0:=by
 unfold ownC at h |-;split at h
 ·cases h
 split at h
 ·cases h
 split at h
 ·cases h
 split at h
 ·cases h
 split at h
 ·cases h
 rename_i d f c e i
 rw[Xr d,Xr f,Xr c,Xr e,Xr (by omega)]
theorem QdE {a b:Int}(c:a<=b):{n:Nat}->{t:TT n}->t.fault a=0->t.fault b=0
 | 0,t,_=>Empty.elim t
 | n+1,t,h=>by
   obtain⟨f,e⟩:=TT.fault_zero h
   simp only[TT.fault,QkN c f,ne_eq,not_true_eq_false,if_false]
   exact QE.2 fun x d=>QdE c (e x d)
theorem QW {t:TT n}{r:Int}:t.check r=0↔t.height<=4/\t.fault r=0:=by
 constructor
 ·exact QcL
 ·intro h;unfold TT.check;rw[Xr (by omega)];exact h.2
theorem Qa3 {t:TT n}{a b:Int}(c:a<=b) (h:t.check a=0):t.check b=0:=by
 rw[QW] at h |-
 exact⟨h.1,QdE c h.2⟩
def capT:Nat->Nat
 | 0=>1
 | h+1=>1+8*capT h
theorem sum_le_mul:∀ (l:List Nat) (c:Nat),(∀ x∈l,x<=c)->l.sum<=l.length*c
 | [],_,_=>by simp
 | x::xs,c,h=>by
   have d:=h x (by simp);have b:=sum_le_mul xs c (fun y a=>h y (by simp[a]));simp only[List.sum_cons,List.length_cons,Nat.add_mul]
   omega
theorem QiP {t:TT (n+1)}{r:Int}(h:t.fault r=0):t.2.2.length<=8:=by
 have:=(TT.fault_zero h).1
 unfold ownC at this;split at this
 ·cases this
 split at this
 ·cases this
 split at this
 ·cases this
 split at this
 ·cases this
 omega
theorem QeB {r:Int}:{n:Nat}->{t:TT n}->(h:Nat)->t.height<=h->t.fault r=0->t.count<=capT h
 | 0,t,_,_,_=>Empty.elim t
 | n+1,t,0,hh,hf=>by
   have:=Q9.1 hh
   have e:t.2.2=[]:=by
    cases a:t.2.2 with
    | nil=>rfl
    | cons x l=>have:=this x (by rw[a];simp);omega
   simp only[TT.count,e,capT]
   simp
 | n+1,t,h+1,hh,hf=>by
   have d:=Q9.1 hh;have g:=(TT.fault_zero hf).2
   have b:=sum_le_mul (t.2.2.map TT.count) (capT h) (fun c i=>by
    obtain⟨x,a,rfl⟩:=List.mem_map.1 i
    exact QeB h (by have:=d x a;omega) (g x a))
   have f:=QiP hf;rw[XN] at b
   have j:t.2.2.length*capT h<=8*capT h:=Xp _ f;simp only[TT.count,capT]
   omega
theorem Z0 {t:TT n}{r:Int}(h:t.check r=0):t.count<=4681:=by
 have:=QeB 4 (QW.1 h).1 (QW.1 h).2
 have e:capT 4=4681:=rfl;omega
theorem TT.height_lt:{n:Nat}->(t:TT n)->t.height<n
 | 0,t=>Empty.elim t
 | n+1,t=>by
   have:t.height<=n:=Q9.2 fun x a=>by have:=TT.height_lt x;omega
   omega
theorem TT.at_height:{n:Nat}->(k:Nat)->(t:TT n)->t.height<=k->(t.at k).height=t.height
 | 0,_,t,_=>Empty.elim t
 | n+1,0,t,h=>by
   have a:t.height=0:=by omega
   rw[a]
   rfl
 | n+1,k+1,t,h=>by
   have b:=Q9.1 h;show ((t.2.2.map (TT.at k)).map (fun x=>1+TT.height x)).foldl max 0=(t.2.2.map (fun x=>1+TT.height x)).foldl max 0;rw[List.map_map]
   congr 1
   refine List.map_congr_left fun x c=>?_;show 1+(x.at k).height=1+x.height;rw[TT.at_height k x (by have:=b x c;omega)]
theorem TT.at_fault {r:Int}:{n:Nat}->(k:Nat)->(t:TT n)->t.height<=k->(t.at k).fault r=t.fault r
 | 0,_,t,_=>Empty.elim t
 | n+1,0,t,h=>by
   have b:=Q9.1 h
   have e:t.2.2=[]:=by
    cases a:t.2.2 with
    | nil=>rfl
    | cons x l=>have:=b x (by rw[a];simp);omega
   show (if ownC t.1 t.2.1 0 r≠0 then ownC t.1 t.2.1 0 r else Qu _ [])=_;simp only[TT.fault,e,List.length_nil,Qu]
 | n+1,k+1,t,h=>by
   have b:=Q9.1 h;show (if ownC t.1 t.2.1 (t.2.2.map (TT.at k)).length r≠0 then ownC t.1 t.2.1 (t.2.2.map (TT.at k)).length r else Qu (TT.fault r) (t.2.2.map (TT.at k)))=_;rw[XN]
   have:Qu (TT.fault r) (t.2.2.map (TT.at k))=Qu (TT.fault r) t.2.2:=by
    refine QaV (by simp) fun i x y a c=>?_;rw[XS,c] at a
    simp only[Option.map_some,Option.some.injEq] at a
    rw[<-a]
    exact TT.at_fault k y (by have:=b y (Zm c);omega)
   rw[this]
   rfl
theorem TT.at_check (k:Nat) (t:TT n) (h:t.height<=k) (r:Int):(t.at k).check r=t.check r:=by
 unfold TT.check;rw[TT.at_height k t h,TT.at_fault k t h]
theorem Qjw {m:Nat}{too:Nat->Int}{a b:Int}(s:a<=m) (e:∀ i,i<m->0<=too i/\too i<b):{n:Nat}->{t:TT n}->t.fault a=0->∃ u,t.ren m too=some u/\u.fault b=0
 | 0,t,_=>Empty.elim t
 | n+1,t,h=>by
   obtain⟨c,w⟩:=TT.fault_zero h
   have k:∃ f,ZJ m too t.1 t.2.1=some f/\ownC t.1 f t.2.2.length b=0:=by
    unfold ownC at c;split at c
    ·cases c
    split at c
    ·cases c
    split at c
    ·cases c
    split at c
    ·cases c
    split at c
    ·cases c
    rename_i C G z A N
    by_cases B:t.1=1
    ·refine⟨t.2.1,by rw[ZJ,Xs B],?_⟩
     unfold ownC;rw[Xr C,Xr G,Xr z,Xr A,Xr (by omega)]
    ·obtain⟨L,M⟩:=e t.2.1.toNat (by omega)
     refine⟨too t.2.1.toNat,by rw[ZJ,Xr B,Xr (by omega),Xr (by omega)],?_⟩
     unfold ownC;rw[Xr C,Xr (by omega),Xr z,Xr A,Xr (by omega)]
   obtain⟨f,J,E⟩:=k
   have K:∃ d,ZS (TT.ren m too) t.2.2=some d/\d.length=t.2.2.length/\∀ x∈d,x.fault b=0:=by
    generalize t.2.2=l at w
    induction l with
    | nil=>exact⟨[],Z,Z,fun x D=>by cases D⟩
    | cons x xs ih =>
      obtain⟨u,I,F⟩:=Qjw s e (w x (by simp))
      obtain⟨H,o,g,p⟩:=ih (fun y j=>w y (by simp[j]))
      refine⟨u::H,by simp[ZS,I,o],by simp[g],fun y j=>?_⟩
      rcases List.mem_cons.1 j with rfl | j
      ·exact F
      ·exact p y j
   obtain⟨d,q,r,v⟩:=K
   refine⟨((t.1,f,d):Int × Int × List (TT n)),by simp only[TT.ren,J,q],?_⟩
   show (if ownC t.1 f d.length b≠0 then ownC t.1 f d.length b else Qu (TT.fault b) d)=0;rw[r,E]
   simp only[ne_eq,not_true_eq_false,if_false]
   exact QE.2 v
theorem Qf8 {too:Nat->Int}{a b:Int}(d:a<=m) (c:∀ i,i<m->0<=too i/\too i<b){t:TT n}(h:t.check a=0):∃ u,t.ren m too=some u/\u.check b=0:=by
 obtain⟨u,e,f⟩:=Qjw d c (QW.1 h).2
 exact⟨u,e,QW.2 ⟨by rw[TT.ren_height e];exact(QW.1 h).1,f⟩⟩
structure MBlock.right {n:Nat}(x:MBlock n) (f:MFunc n) (funcs:Nat):Prop where
 regs:f.regs<=x.regs/\x.regs<=16
 params:x.params.length<=8/\∀ t∈x.params,t.check x.regs=0
 code:∀ y∈x.code,y.form funcs=0
 codes:x.code.length<=40
 fin:x.fin.form f.blocks.length=0
structure MFunc.right {n:Nat}(x:MFunc n) (funcs:Nat):Prop where
 regs:0<=x.regs/\x.regs<=6
 params:x.params.length<=8/\∀ t∈x.params,t.check x.regs=0
 results:x.results.length<=8/\∀ t∈x.results,t.check x.regs=0
 many:0<x.blocks.length/\x.blocks.length<=12
 blocks:∀ y∈x.blocks,y.right x funcs
theorem QbY {regs:Int}{l:List (TT n)}(h:listC regs l=0):l.length<=8/\∀ t∈l,t.check regs=0:=by
 unfold listC at h;split at h
 ·cases h
 ·exact⟨by omega,fun t a=>QE.1 h t a⟩
theorem Qf0 {fn:MFunc n}{x:MBlock n}(h:(MBlock.fault funcs f fn b x).1=0):x.right fn funcs:=by
 unfold MBlock.fault at h;split at h
 ·cases h
 rename_i j
 split at h
 ·rename_i d;exact absurd h d
 rename_i d
 split at h
 ·cases h
 split at h
 ·cases h
 rename_i k
 split at h
 ·rename_i c;exact absurd h c
 rename_i c
 split at h
 ·rename_i a;exact absurd h a
 rename_i a
 refine⟨by omega,QbY (Xq.1 d),fun y g=>?_,by omega,Xq.1 a⟩
 obtain⟨i,e⟩:=List.getElem?_of_mem g
 exact QR (Xq.1 c) i y e
theorem Qhg {x:MFunc n}(h:(MFunc.fault funcs f x).1=0):x.right funcs:=by
 unfold MFunc.fault at h;split at h
 ·cases h
 rename_i e
 split at h
 ·rename_i b;exact absurd h b
 rename_i b
 split at h
 ·rename_i a;exact absurd h a
 rename_i a
 split at h
 ·cases h
 rename_i g
 split at h
 ·cases h
 refine⟨by omega,QbY (Xq.1 b),QbY (Xq.1 a),by omega,fun y d=>?_⟩
 obtain⟨i,c⟩:=List.getElem?_of_mem d
 exact Qf0 (QR h i y c)
theorem Zn {m:List (MFunc n)}(h:(modFault m).1=0):(0<m.length/\m.length<=8)/\∀ x∈m,x.right m.length:=by
 unfold modFault at h;split at h
 ·cases h
 rename_i c
 refine⟨by omega,fun x b=>?_⟩
 obtain⟨i,a⟩:=List.getElem?_of_mem b
 exact Qhg (QR h i x a)
structure JOk (s:JSt):Prop where
 mod:(0<s.m.length/\s.m.length<=8)/\∀ x∈s.m,x.right s.m.length
 tiny:¬ Qm s.m
 fn:s.f∈s.m
 regs:s.H.length<=16
 kept:s.f.regs<=s.H.length
 vals:s.L.length<=80
 types:∀ t∈s.L,t.check s.H.length=0
theorem Qdw {s:JSt}{k:Int}{t:TT 6}(h:s.at k=some t):t∈s.L/\0<=k/\k<s.L.length/\s.L[k.toNat]?=some t:=by
 unfold JSt.at at h;split at h
 ·cases h
 ·have:=(Zi h).1
  exact⟨Zm h,by omega,by omega,h⟩
theorem Z2 {s:JSt}{k a:Int}{b:Bool}(h:s.want k a b=0):∃ t,s.at k=some t/\t.kind=a/\(b=true->hHas s.H t.r=true):=by
 unfold JSt.want at h;split at h
 ·cases h
 ·rename_i t f
  split at h
  ·rename_i c
   split at h
   ·cases h
   ·rename_i d
    refine⟨t,f,c,fun e=>?_⟩
    subst e;simpa using d
  ·cases h
theorem QD {a b:Int}(h:Qv a b=0):a=0/\b=0:=by
 unfold Qv at h;split at h
 ·exact⟨by assumption,h⟩
 ·contradiction
theorem QaC {s:JSt}:∀ {l:List Int}{ts:List (TT 6)},s.fields l=some ts->ts.length=l.length/\∀ t∈ts,t∈s.L
 | [],ts,h=>by simp[JSt.fields] at h;subst h;simp
 | k::r,ts,h=>by
   simp only[JSt.fields] at h
   cases hk:s.at k with
   | none=>simp[hk] at h
   | some t =>
     simp only[hk] at h
     cases hr:s.fields r with
     | none=>simp[hr] at h
     | some l =>
       simp only[hr,Option.some.injEq] at h
       subst h;obtain⟨c,b⟩:=QaC hr
       refine⟨by simp[c],fun u a=>?_⟩
       rcases List.mem_cons.1 a with rfl | a
       ·exact(Qdw hk).1
       ·exact b u a
theorem ZC {H:List Bool}:∀ {l ahead:List Int},QL H ahead l=0->∀ r∈l,hHas H r=true
 | [],_,_,r,a=>by cases a
 | x::l,ahead,h,r,a=>by
   simp only[QL] at h
   split at h
   ·rename_i b
    split at h
    ·cases h
    ·rcases List.mem_cons.1 a with rfl | a
     ·exact b
     ·exact ZC h r a
   ·cases h
theorem ZZ {H:List Bool}{r:Int}(h:hHas H r=true):0<=r/\r<H.length:=by
 obtain⟨k,rfl,a,_⟩:=QaZ h
 omega
theorem Q6 {x:Qt}(h:x.form funcs=0):((x.op=6\/x.op=7)->0<=x.k/\x.k<=7)/\(x.op=14->0<=x.k/\x.k<funcs/\x.regs.length<=6/\x.args.length<=8)/\(x.op=5->x.args.length<=8)/\(x.op=1\/x.op=2\/x.op=3\/x.op=4\/x.op=5\/x.op=6\/x.op=7\/x.op=8\/x.op=9\/x.op=10\/x.op=11\/x.op=12\/x.op=13\/x.op=14):=by
 have a:=QjN (QhL h).1;unfold Qt.form at h;split at h
 ·cases h
 split at h
 ·cases h
 split at h
 ·cases h
 split at h
 ·cases h
 split at h
 ·cases h
 split at h
 ·cases h
 split at h
 ·cases h
 refine⟨by omega,by omega,by omega,a⟩
theorem Qdv {k r R:Int}(a:k=2\/k=4) (b:0<=r/\r<R):TT.check (n:=6) R (mkT k r [])=0:=by
 refine QW.2 ⟨by show 0<=4;omega,?_⟩;show (if ownC k r 0 R≠0 then ownC k r 0 R else Qu _ [])=0
 have:ownC k r 0 R=0:=by
  unfold ownC;rw[Xr (by omega),Xr (by omega),Xr (by omega),Xr (by omega),Xr (by omega)]
 rw[this];rfl
theorem QiQ (R:Int):tInt.check R=0:=by
 refine QW.2 ⟨by decide,?_⟩;show (if ownC 1 0 0 R≠0 then ownC 1 0 0 R else Qu _ [])=0
 have:ownC 1 0 0 R=0:=by unfold ownC;rw[Xr (by omega),Xr (by omega),Xr (by omega),Xr (by omega),Xr (by omega)]
 rw[this];rfl
theorem Qfw {s:JSt}{x:Qt}(h:JOk s) (N:x.form s.m.length=0) (A:(s.makes x).1=0):∀ t∈(s.makes x).2,t.check (s.next x).H.length=0:=by
 obtain⟨f1,W,S,Q⟩:=Q6 N
 have I:(s.H.length:Int)<=(s.next x).H.length:=by
  simp only[JSt.next]
  split
  ·simp;omega
  split
  ·simp
  ·exact Int.le_refl _
 intro t f
 have j:∀ {c:Int},s.makes x=(c,[tInt])->t.check (s.next x).H.length=0:=fun {c} e=>by
  rw[e] at f
  have f:=List.mem_singleton.1 f;rw[f];exact QiQ _
 have d:∀ {c:Int},s.makes x=(c,[])->t.check (s.next x).H.length=0:=fun {c} e=>by
  rw[e] at f;cases f
 rcases Q with c | c | c | c | c | c | c | c | c | c | c | c | c | c
 ·exact j (Z5 (.inl c))
 ·exact j (QbQ c)
 ·have e:=QbD (s:=s) c;by_cases B:s.H.length=16
  ·rw[Xs B] at e;exact d e
  ·rw[Xr B] at e
   rw[e] at f
   have f:=List.mem_singleton.1 f;rw[f]
   refine Qdv (.inl Z) ?_;simp only[JSt.next,c,if_true,List.length_append,List.length_singleton]
   omega
 ·have e:=Qau (s:=s) c
  cases ha:s.at x.a with
  | none=>rw[ha] at e;exact d e
  | some u=>rw[ha] at e;exact d e
 ·have e:=Qbl (s:=s) c
  cases ha:s.at x.a with
  | none=>rw[ha] at e;exact d e
  | some u =>
    rw[ha] at e
    simp only at e
    by_cases p:s.want x.a 2 true=0
    ·rw[Xs p] at e
     cases hl:s.fields x.args with
     | none=>rw[hl] at e;exact d e
     | some l =>
       rw[hl] at e
       simp only at e
       by_cases B:4<TT.height (n:=7) (mkT 3 u.r l)
       ·rw[Xs B] at e;exact d e
       ·rw[Xr B] at e
        rw[e] at f
        have f:=List.mem_singleton.1 f;rw[f]
        obtain⟨U,q,_,o⟩:=Z2 p
        rw[ha] at q
        cases q
        have D:=ZZ (o Z);obtain⟨X,R⟩:=QaC hl
        rw[TT.at_check 5 _ (by omega)]
        refine Qa3 I (QW.2 ⟨by omega,?_⟩);show (if ownC 3 u.r l.length s.H.length≠0 then ownC 3 u.r l.length s.H.length else Qu (TT.fault (s.H.length:Int)) l)=0
        have:ownC 3 u.r l.length s.H.length=0:=by
         have:=S c
         unfold ownC;rw[Xr (by omega),Xr (by omega),Xr (by omega),Xr (by omega),Xr (by omega)]
        rw[this]
        simp only[ne_eq,not_true_eq_false,if_false]
        exact QE.2 fun y O=>(QW.1 (h.types y (R y O))).2
    ·rw[Xr p] at e;exact d e
 ·have e:=Qdf (s:=s) c
  cases ha:s.at x.a with
  | none=>rw[ha] at e;exact d e
  | some u =>
    rw[ha] at e
    simp only at e
    by_cases p:s.want x.a 3 true=0
    ·rw[Xs p] at e
     cases z:u.2.2[x.k.toNat]? with
     | none=>rw[z] at e;exact d e
     | some v =>
       rw[z] at e
       rw[e] at f
       have f:=List.mem_singleton.1 f;rw[f]
       have K:=QW.1 (h.types u (Qdw ha).1);have C:=Zm z;have L:=Q9.1 K.1 v C;have P:=TT.height_lt v;rw[TT.at_check 5 _ (by omega)]
       exact Qa3 I (QW.2 ⟨by omega,(TT.fault_zero K.2).2 v C⟩)
    ·rw[Xr p] at e;exact d e
 ·have e:=QcP (s:=s) c
  cases ha:s.at x.a with
  | none=>rw[ha] at e;exact d e
  | some u =>
    rw[ha] at e
    simp only at e
    by_cases p:s.want x.a 3 true=0
    ·rw[Xs p] at e
     cases z:u.2.2[x.k.toNat]? with
     | none=>rw[z] at e;exact d e
     | some v =>
       rw[z] at e
       cases hb:s.at x.b with
       | none=>rw[hb] at e;exact d e
       | some w =>
         rw[hb] at e
         simp only at e
         cases hq:ZU (v.at 5=w) with
         | true=>rw[hq] at e;exact d e
         | false=>rw[hq] at e;exact d e
    ·rw[Xr p] at e;exact d e
 ·have e:=Qbj (s:=s) c
  cases ha:s.at x.a with
  | none=>rw[ha] at e;exact d e
  | some u =>
    rw[ha] at e
    rw[e] at f A
    have f:=List.mem_singleton.1 f;rw[f]
    obtain⟨p,_⟩:=QD A
    obtain⟨U,q,_,o⟩:=Z2 p
    rw[ha] at q
    cases q
    have D:=ZZ (o Z);exact Qdv (.inr Z) (by omega)
 ·exact j (Qa5 c)
 ·exact d (QaA c)
 ·exact j (QbH c)
 ·exact j (Z5 (.inr c))
 ·exact d (QbG c)
 ·have e:=Qba (s:=s) c
  cases hg:s.m[x.k.toNat]? with
  | none=>rw[hg] at e;exact d e
  | some g =>
    rw[hg] at e
    simp only at e
    by_cases D:(x.regs.length:Int)=g.regs
    ·rw[Xs D] at e
     rw[e] at f A
     obtain⟨E,V⟩:=QD A
     obtain⟨u,T,rfl⟩:=List.mem_map.1 f
     have J:=h.mod.2 g (Zm hg);have G:=J.results.2 u T
     obtain⟨v,z,F⟩:=Qf8 (m:=x.regs.length) (too:=fun i=>x.regs.getD i 0) (a:=g.regs) (b:=s.H.length) (by omega) (fun i M=>by
      have A:=ZC E (x.regs.getD i 0) (by simp[List.getD,M]);exact ZZ A) G
     unfold Qaj;rw[z]
     exact Qa3 I F
    ·rw[Xr D] at e;exact d e
theorem JOk.next {s:JSt}{x:Qt}(h:JOk s) (a:s.code x=0):JOk (s.next x):=by
 unfold JSt.code at a;split at a
 ·rename_i d;exact absurd a d
 rename_i d
 split at a
 ·rename_i f;exact absurd a f
 rename_i f
 split at a
 ·cases a
 rename_i k
 have j:x.form s.m.length=0:=Xq.1 d;have c:(s.makes x).1=0:=Xq.1 f
 have g:(s.H.length:Int)<=(s.next x).H.length:=by
  simp only[JSt.next]
  split
  ·simp;omega
  split
  ·simp
  ·exact Int.le_refl _
 refine⟨h.mod,h.tiny,h.fn,?_,?_,?_,?_⟩
 ·simp only[JSt.next]
  split
  ·rename_i i
   have:s.H.length≠16:=by
    intro e;rw[QbD i,Xs e] at c
    cases c
   have:=h.regs
   simp
   omega
  split
  ·simpa using h.regs
  ·exact h.regs
 ·exact Int.le_trans h.kept g
 ·show (s.L++(s.makes x).2).length<=80;rw[List.length_append]
  omega
 ·intro t b;rcases List.mem_append.1 b with b | b
  ·exact Qa3 g (h.types t b)
  ·exact Qfw h j c t b
theorem JOk.ins {s:JSt}(h:JOk s) (x:Qt):JOk (s.ins x):=by
 unfold JSt.ins;split
 ·exact h.next (by assumption)
 ·exact h
theorem Qel {n:Int}(h:0<=n/\n<=16):((QbU n).length:Int)=n:=by
 unfold QbU;rw[List.length_replicate]
 omega
theorem JOk.start {m:List (MFunc 6)}{f:MFunc 6}{b:MBlock 6}(i:(modFault m).1=0) (j:¬ Qm m) (d:f∈m) (l:b∈f.blocks):JOk (JSt.start m f b):=by
 have e:=Zn i;have c:=e.2 f d;have a:=c.blocks b l;have h:=Qel (n:=b.regs) (by have:=c.regs;have:=a.regs;omega);have o:=a.regs;have p:=c.regs;have g:=a.params;refine⟨e,j,d,?_,?_,?_,?_⟩
 ·show (QbU b.regs).length<=16;omega
 ·show f.regs<=((QbU b.regs).length:Int);omega
 ·show b.params.length<=80;omega
 ·intro t k;show t.check ((QbU b.regs).length:Int)=0;rw[h]
  exact g.2 t k
theorem QN {s:JSt}{x:Qt}(h:s.code x=0):x.form s.m.length=0/\(s.makes x).1=0/\s.L.length+(s.makes x).2.length<=80:=by
 unfold JSt.code at h;split at h
 ·exact absurd h ‹_›
 split at h
 ·exact absurd h ‹_›
 split at h
 ·cases h
 exact⟨by omega,by omega,by omega⟩
theorem Qa1 {s:JSt}{x:Qt}(a:x.op≠3) (b:x.op≠4):(s.next x).H=s.H:=by
 unfold JSt.next
 simp only[if_neg a,if_neg b]
theorem Qh4 {s:JSt}{x:Qt}(h:s.code x=0) (d:x.op=4):∃ (t:TT 6) (r:Nat),s.at x.a=some t/\t.kind=2/\t.r=(r:Int)/\r<s.H.length/\s.H.getD r false=true/\s.next x={ s with H:=s.H.set r false }:=by
 obtain⟨-,c,-⟩:=QN h
 rw[Qau d] at c
 split at c
 ·cases c
 rename_i t b
 obtain⟨l,e,g,k⟩:=Z2 (QD c).1
 rw[b] at e
 cases e
 obtain⟨r,f,i,j⟩:=QaZ (k Z)
 refine⟨t,r,b,g,f,i,j,?_⟩
 unfold JSt.next
 rw[Qau d]
 simp only[b,f,if_neg (show ¬ x.op=3 by omega),if_pos d,Int.toNat_natCast,List.append_nil]
noncomputable def QA (at0:Int) (e:ZA):JSt->Nat->List Qt->Int × Int
 | s,_,[]=>if s.fin e≠0 then (s.fin e,at0+91) else (0,0)
 | s,i,x::r=>if s.code x≠0 then (s.code x,at0+i) else QA at0 e (s.next x) (i+1) r
noncomputable def Qae (m:List (MFunc 6)) (k:Nat) (f:MFunc 6):Int × Int:=firstF (fun b x=>QA (10000*(k:Int)+100*(b:Int)) x.fin (JSt.start m f x) 0 x.code) 0 f.blocks
noncomputable def Qq (m:List (MFunc 6)):Int × Int:=if (modFault m).1≠0 then modFault m else firstF (Qae m) 0 m
noncomputable def JSt.upto (s:JSt) (l:List Qt):JSt:=l.foldl (fun s x=>s.next x) s
theorem JSt.upto_snoc (s:JSt) (l:List Qt) (x:Qt):s.upto (l++[x])=(s.upto l).next x:=by unfold JSt.upto;rw[List.foldl_append];rfl
theorem QaI {a:Int}{e:ZA}:∀ {l:List Qt}{s:JSt}{i k:Nat},k<=l.length->(∀ j x,j<k->l[j]?=some x->(s.upto (l.take j)).code x=0)->QA a e s i l=QA a e (s.upto (l.take k)) (i+k) (l.drop k)
 | l,s,i,0,_,_=>by simp[JSt.upto]
 | [],s,i,k+1,hk,_=>by simp at hk
 | x::r,s,i,k+1,hk,h=>by
   have c:s.code x=0:=by have:=h 0 x (by omega) Z;simpa[JSt.upto] using this
   rw[QA,Xr (by rw[c];simp)]
   have b:k<=r.length:=by simpa using hk
   rw[QaI (k:=k) b (fun j y g f=>by
    have:=h (j+1) y (by omega) (by simpa using f)
    simpa[JSt.upto] using this)]
   simp only[List.take_succ_cons,List.drop_succ_cons]
   have d:i+1+k=i+(k+1):=by omega
   rw[d]
   rfl
theorem Qfd {a:Int}{e:ZA}{l:List Qt}{s:JSt}{x:Qt}(b:l[k]?=some x) (h:∀ j y,j<k->l[j]?=some y->(s.upto (l.take j)).code y=0) (d:(s.upto (l.take k)).code x≠0) :
 QA a e s 0 l=((s.upto (l.take k)).code x,a+k):=by
 have c:k<l.length:=(Zi b).1;rw[QaI (k:=k) (by omega) h,List.drop_eq_getElem_cons c]
 have:l[k]=x:=by rw[Zg c] at b;exact Xn b
 rw[this,QA,Xs d,XK]
theorem Qez {a:Int}{e:ZA}{l:List Qt}{s:JSt}(h:∀ j y,j<l.length->l[j]?=some y->(s.upto (l.take j)).code y=0) :
 QA a e s 0 l=if (s.upto l).fin e≠0 then ((s.upto l).fin e,a+91) else (0,0):=by
 rw[QaI (k:=l.length) Ze h,List.drop_length,List.take_length]
 rfl
theorem QfT {m:List (MFunc 6)}{f:MFunc 6}{g:MBlock 6}(i:(modFault m).1=0) (l:m[k]?=some f) (e:∀ j y,j<k->m[j]?=some y->(Qae m j y).1=0) (n:f.blocks[q]?=some g)
 (o:∀ j y,j<q->f.blocks[j]?=some y->(QA (10000*(k:Int)+100*(j:Int)) y.fin (JSt.start m f y) 0 y.code).1=0) (h:(QA (10000*(k:Int)+100*(q:Int)) g.fin (JSt.start m f g) 0 g.code).1≠0) :
 Qq m=QA (10000*(k:Int)+100*(q:Int)) g.fin (JSt.start m f g) 0 g.code:=by
 have d:Qae m k f=QA (10000*(k:Int)+100*(q:Int)) g.fin (JSt.start m f g) 0 g.code:=by
  unfold Qae
  have:=Qat (f:=fun b (x:MBlock 6)=>QA (10000*(k:Int)+100*(b:Int)) x.fin (JSt.start m f x) 0 x.code) (j:=0) n (fun j y a c=>by rw[XK];exact o j y a c) (by rw[XK];exact h)
  rw[XK] at this
  exact this
 unfold Qq;rw[Xr (by rw[i];simp)]
 have:=Qat (f:=Qae m) (j:=0) l (fun j y a c=>by rw[XK];exact e j y a c) (by rw[XK,d];exact h)
 rw[XK,d] at this
 exact this
structure IFr where
 f:Nat
 b:Nat
 i:Nat
 v:List Q4
 r:List Int
structure IM where
 h:Qd
 top:IFr
 rest:List IFr
 inp:List Int
 out:List Int
 back:List Int
 fuel:Nat
 fin:Int
 done:Bool
def QQ (v:List Q4) (k:Int):Option Q4:=if k<0 then none else v[k.toNat]?
def Q8 (v:List Q4):List Int->Option (List Q4)
 | []=>some []
 | k::l=>match QQ v k with
   | none=>none
   | some x=>match Q8 v l with
     | none=>none
     | some xs=>some (x::xs)
def Qlw (r:List Int) (k:Int):Option Int:=if k<0 then none else r[k.toNat]?
def Qbx (r:List Int):List Int->Option (List Int)
 | []=>some []
 | k::l=>match Qlw r k with
   | none=>none
   | some x=>match Qbx r l with
     | none=>none
     | some xs=>some (x::xs)
def QS (v:List Q4) (k:Int):Option Int:=match QQ v k with
 | none=>none
 | some x=>if x.kind=1 then some x.n else none
def Qcf (v:List Q4):List Int->Option (List Int)
 | []=>some []
 | k::l=>match QS v k with
   | none=>none
   | some x=>match Qcf v l with
     | none=>none
     | some xs=>some (x::xs)
def IM.push (M:IM) (l:List Q4):IM:={ M with top:={ M.top with v:=M.top.v++l } }
def IM.over (M:IM) (e:Int):IM:={ M with done:=true,fin:=e }
def IM.got (M:IM) (g:Q4 × Int × Qd):Option IM:=if g.2.1=14 then some (M.over 6) else if g.2.1=0 then some (IM.push ({ M with h:=g.2.2 }) [g.1]) else none
def IM.mem (M:IM) (x:Qt):Option IM:=match QQ M.top.v x.a with
 | none=>none
 | some a =>
   if x.op=4 then (if (M.h.shut a).1 then some { M with h:=(M.h.shut a).2 } else none)
   else if x.op=5 then (match Q8 M.top.v x.args with
    | none=>none
    | some l=>M.got (M.h.tuple a l))
   else if x.op=8 then (match QS M.top.v x.b with
    | none=>none
    | some n=>if n<0\/15<n then some (M.over 3) else M.got (M.h.array a n))
   else if x.op=6 then (if a.kind=3/\(M.h.get a x.k).2=0 then some (M.push [(M.h.get a x.k).1]) else none)
   else if x.op=7 then (match QQ M.top.v x.b with
    | none=>none
    | some y=>if a.kind=3/\(M.h.set a x.k y).1=0 then some { M with h:=(M.h.set a x.k y).2 } else none)
   else if x.op=9 then (match QS M.top.v x.b with
    | none=>none
    | some n=>if a.kind=4 then (if (M.h.get a n).2=1 then some (M.over 2) else if (M.h.get a n).2=0 then some (M.push [(M.h.get a n).1]) else none) else none)
   else if x.op=10 then (match QS M.top.v x.b with
    | none=>none
    | some n=>match QS M.top.v x.c with
      | none=>none
      | some z=>if a.kind=4 then (if (M.h.set a n (Qcs z)).1=1 then some (M.over 2) else if (M.h.set a n (Qcs z)).1=0 then some { M with h:=(M.h.set a n (Qcs z)).2 } else none) else none)
   else (if a.kind=4/\(M.h.len a).2=0 then some (M.push [Qcs (M.h.len a).1]) else none)
def IM.call (m:List (MFunc 6)) (M:IM) (x:Qt):Option IM:=match Qbx M.top.r x.regs with
 | none=>none
 | some r=>match Q8 M.top.v x.args with
   | none=>none
   | some v=>match m[x.k.toNat]? with
     | none=>none
     | some g=>if (r.length:Int)=g.regs/\v.length=g.params.length then
      (if M.rest.length+1=40 then some (M.over 5) else some { M with top:=⟨x.k.toNat,0,0,v,r⟩,rest:=M.top::M.rest })
      else none
def IM.ins (m:List (MFunc 6)) (op:Int->Int->Int->Option Int) (M:IM) (x:Qt):Option IM :=
 if x.op=1 then some (M.push [Qcs x.n])
 else if x.op=2 then (match QS M.top.v x.a with
  | none=>none
  | some a=>match QS M.top.v x.b with
    | none=>none
    | some b=>match op x.k a b with
      | none=>some (M.over 1)
      | some n=>some (M.push [Qcs n]))
 else if x.op=3 then (if M.h.open_.2.1 then some (IM.push { M with h:=M.h.open_.2.2,top:={ M.top with r:=M.top.r++[M.h.open_.1.region] } } [M.h.open_.1]) else some (M.over 6))
 else if x.op=12 then (match M.inp with
  | []=>some (M.over 4)
  | n::l=>some (IM.push { M with inp:=l } [Qcs n]))
 else if x.op=13 then (match QS M.top.v x.a with
  | none=>none
  | some n=>if M.out.length=2000 then some (M.over 8) else some { M with out:=M.out++[n] })
 else if x.op=14 then M.call m x
 else M.mem x
def IM.to (fn:MFunc 6) (M:IM) (t:MTo):Option IM:=match fn.blocks[t.block.toNat]? with
 | none=>none
 | some b=>match Qbx M.top.r t.regs with
   | none=>none
   | some r=>match Q8 M.top.v t.args with
     | none=>none
     | some v=>if (r.length:Int)=b.regs/\v.length=b.params.length then some { M with top:=⟨M.top.f,t.block.toNat,0,v,r⟩ } else none
def IM.endd (fn:MFunc 6) (M:IM) (e:ZA):Option IM :=
 if e.op=1 then M.to fn e.yes
 else if e.op=2 then (match QS M.top.v e.a with
  | none=>none
  | some n=>if n=0 then M.to fn e.no else M.to fn e.yes)
 else (match Q8 M.top.v e.args with
  | none=>none
  | some v=>if v.length=fn.results.length then (match M.rest with
   | d::rest=>some (IM.push { M with top:=d,rest:=rest } v)
   | []=>match Qcf M.top.v e.args with
     | none=>none
     | some n=>some (IM.over { M with back:=n } 0))
   else none)
def IM.step (m:List (MFunc 6)) (op:Int->Int->Int->Option Int) (most:Nat) (M:IM):Option IM :=
 if M.fuel=most then some (M.over 7)
 else match m[M.top.f]? with
  | none=>none
  | some fn=>match fn.blocks[M.top.b]? with
    | none=>none
    | some bl=>match bl.code[M.top.i]? with
      | some x=>IM.ins m op { M with fuel:=M.fuel+1,top:={ M.top with i:=M.top.i+1 } } x
      | none=>IM.endd fn { M with fuel:=M.fuel+1 } bl.fin
def IM.start (inp:List Int) (pages:Nat):IM:=⟨Qd.new pages,⟨0,0,0,[],[]⟩,[],inp,[],[],0,0,false⟩
theorem short_of_nodup:∀ (n:Nat) (l:List Int),l.Nodup->(∀ x,x∈l->0<=x/\x<n)->l.length<=n:=by
 intro n
 induction n with
 | zero =>
   intro l _ h
   cases l with
   | nil=>simp
   | cons x r=>have:=h x (by simp);omega
 | succ n ih =>
   intro l c h
   have e:=ih (l.erase (n:Int)) (c.erase _) (fun x d=>by
    have b:=(List.Nodup.mem_erase_iff c).1 d
    have:=h x b.2
    have:=b.1
    omega)
   have:=List.length_erase (a:=(n:Int)) (l:=l)
   split at this<;>omega
structure PSt where
 pages:Nat
 ws:Nat->Int
 given:List Int
 fresh:Int
structure PSt.Ok (s:PSt):Prop where
 most:s.pages<=64
 low:0<=s.fresh
 high:s.fresh<=s.pages
 nodup:s.given.Nodup
 mem:∀ k,k∈s.given->0<=k/\k<s.fresh
theorem PSt.Ok.len {s:PSt}(h:s.Ok):(s.given.length:Int)<=s.fresh:=by
 obtain⟨n,b⟩:=Xc h.low
 have:=short_of_nodup n s.given h.nodup (fun x a=>by have:=h.mem x a;omega)
 omega
def PSt.new (pages:Nat):PSt:=⟨pages,fun _=>0,[],0⟩
theorem PSt.ok_new (pages:Nat) (h:pages<=64):(PSt.new pages).Ok:=⟨h,Int.le_refl _,by simp[PSt.new],by simp[PSt.new],by simp[PSt.new]⟩
def PSt.wipe (s:PSt) (k:Int):PSt:={ s with ws:=fun i=>if k*16<=(i:Int)/\(i:Int)<k*16+16 then 0 else s.ws i }
def Qeo (xs:List Int) (x:Int):Bool:=xs.contains x
def PSt.took (s:PSt) (k:Int):Bool:=decide (0<=k)&&decide (k<s.fresh)&&!Qeo s.given k
def PSt.give (s:PSt) (k:Int):PSt:=if s.took k then { s with given:=s.given++[k] } else s
def PSt.free (s:PSt):Int:=s.pages - s.fresh+s.given.length
def PSt.place (s:PSt) (k:Int):Bool:=decide (0<=k)&&decide (k<16*s.pages)
def PSt.store (s:PSt) (k:Int) (n:Int):PSt:=if s.place k then { s with ws:=fun i=>if (i:Int)=k then n else s.ws i } else s
def PSt.load (s:PSt) (k:Int):Int:=if s.place k then s.ws k.toNat else 0
def PSt.nextK (s:PSt):Int:=match s.given.getLast? with | some k=>k | none=>if s.fresh=s.pages then -1 else s.fresh
def PSt.next (s:PSt):PSt:=match s.given.getLast? with | some _=>{ s with given:=s.given.take (s.given.length - 1) } | none=>if s.fresh=s.pages then s else { s with fresh:=s.fresh+1 }
def PSt.take (s:PSt):PSt:=if s.nextK<0 then s.next else s.next.wipe s.nextK
theorem PSt.ok_wipe {s:PSt}(h:s.Ok) (k:Int):(s.wipe k).Ok:=⟨h.most,h.low,h.high,h.nodup,h.mem⟩
theorem PSt.ok_store {s:PSt}(h:s.Ok) (k n:Int):(s.store k n).Ok:=by
 unfold PSt.store;split
 ·exact⟨h.most,h.low,h.high,h.nodup,h.mem⟩
 ·exact h
theorem PSt.ok_give {s:PSt}(h:s.Ok) (k:Int):(s.give k).Ok:=by
 unfold PSt.give;split
 ·rename_i d
  simp[PSt.took,Qeo] at d
  refine⟨h.most,h.low,h.high,?_,?_⟩
  ·rw[List.nodup_append]
   refine⟨h.nodup,by simp,?_⟩
   intro a g c f;simp at f;subst f
   intro e;subst e;exact d.2 g
  ·intro x b;simp at b
   rcases b with b | b
   ·exact h.mem x b
   ·subst b;exact d.1
 ·exact h
theorem PSt.ok_next {s:PSt}(h:s.Ok):s.next.Ok:=by
 unfold PSt.next;split
 ·exact⟨h.most,h.low,h.high,h.nodup.sublist (List.take_sublist _ _),fun k a=>h.mem k (List.mem_of_mem_take a)⟩
 ·split
  ·exact h
  ·refine⟨h.most,by have:=h.low;simp;omega,by have:=h.high;simp;omega,h.nodup,fun k a=>?_⟩
   have:=h.mem k a
   simp;omega
theorem PSt.ok_take {s:PSt}(h:s.Ok):s.take.Ok:=by
 unfold PSt.take;split
 ·exact PSt.ok_next h
 ·exact PSt.ok_wipe (PSt.ok_next h) _
theorem PSt.nextK_lt {s:PSt}(h:s.Ok):-1<=s.nextK/\s.nextK<s.pages:=by
 have:=h.high;have:=h.low
 unfold PSt.nextK;split
 ·rename_i k e
  have:=h.mem k (List.mem_of_getLast? e)
  omega
 ·split<;>omega
@[simp] theorem PSt.pages_wipe (s : PSt) (k : Int) : (s.wipe k).pages = s.pages := rfl
@[simp] theorem PSt.pages_next (s : PSt) : s.next.pages = s.pages := by
 unfold PSt.next;split
 ·rfl
 ·split<;>rfl
@[simp] theorem PSt.pages_take (s : PSt) : s.take.pages = s.pages := by unfold PSt.take; split <;> simp
@[simp] theorem PSt.pages_give (s : PSt) (k : Int) : (s.give k).pages = s.pages := by unfold PSt.give; split <;> rfl
@[simp] theorem PSt.pages_store (s : PSt) (k n : Int) : (s.store k n).pages = s.pages := by unfold PSt.store; split <;> rfl
theorem Qk1 (s:PSt) (k:Int):s.took k=true↔0<=k/\k<s.fresh/\k ∉ s.given:=by
 simp[PSt.took,Qeo,and_assoc]
structure Tk (s:PSt) (T:List Int):Prop where
 nodup:T.Nodup
 mem:∀ k,k∈T↔0<=k/\k<s.fresh/\k ∉ s.given
theorem PSt.take_none {s:PSt}(b:s.Ok) (a:s.nextK<0):s.take=s:=by
 have c:s.take=s.next:=by simp[PSt.take,a]
 rw[c]
 unfold PSt.nextK at a;unfold PSt.next
 split at a
 ·rename_i k e
  have:=b.mem k (List.mem_of_getLast? e)
  omega
 ·split at a
  ·rename_i e;simp[e]
  ·have:=b.low;omega
theorem Tk.take {s:PSt}{T:List Int}(h:Tk s T) (p:s.Ok) (g:0<=s.nextK):s.nextK ∉ T/\Tk s.take (T++[s.nextK]):=by
 have v:s.take=s.next.wipe s.nextK:=by simp[PSt.take];omega
 have y:s.take.given=s.next.given:=by rw[v];rfl
 have x:s.take.fresh=s.next.fresh:=by rw[v];rfl
 have m:s.nextK ∉ T:=by
  intro w;have d:=(h.mem _).1 w;unfold PSt.nextK at d g;split at g
  ·rename_i k e
   rw[e] at d
   exact d.2.2 (List.mem_of_getLast? e)
  ·rename_i e
   rw[e] at d
   split at g
   ·omega
   ·rename_i r
    simp[r] at d
 refine⟨m,?_,fun k=>?_⟩
 ·rw[List.nodup_append]
  refine⟨h.nodup,by simp,fun a A c u e=>?_⟩
  simp at u;subst u;subst e;exact m A
 ·rw[y,x,List.mem_append,h.mem k,List.mem_singleton]
  have t:=p.low;unfold PSt.nextK at g |-;unfold PSt.next
  split at g
  ·rename_i q e
   obtain⟨j,f⟩:∃ j,s.given=j++[q]:=by
    rcases List.eq_nil_or_concat s.given with n | ⟨j,b,n⟩
    ·rw[n] at e;simp at e
    ·rw[n] at e;simp at e;exact⟨j,by simpa[e] using n⟩
   have l:=p.nodup;have i:=p.mem q (by rw[f];simp);rw[f,List.nodup_append] at l
   have o:List.take (s.given.length - 1) s.given=j:=by rw[f];simp
   simp only[o]
   rw[f]
   simp only[List.mem_append,List.mem_singleton]
   constructor
   ·rintro (⟨a,b,c⟩ | rfl)
    ·exact⟨a,b,fun h=>c (Or.inl h)⟩
    ·exact⟨i.1,i.2,fun h=>l.2.2 _ h _ (by simp) Z⟩
   ·rintro ⟨a,b,c⟩;by_cases e:k=q
    ·exact Or.inr e
    ·exact Or.inl ⟨a,b,fun h=>h.elim c e⟩
  ·rename_i e
   have z:s.given=[]:=by simpa using e
   split at g
   ·omega
   ·rename_i r
    simp only[r,z]
    simp
    omega
structure Reg where
 pages:List Int
 used:Int
structure Est where
 p:PSt
 reg:Nat->Option Reg
def Reg.left (r:Reg):Int:=if r.pages=[] then 0 else 16 - r.used
def Est.pagesAt (e:Est) (k:Nat):List Int:=match e.reg k with | some r=>r.pages | none=>[]
def Est.allTo (e:Est):Nat->List Int
 | 0=>[]
 | n+1=>e.allTo n++e.pagesAt n
def Est.all (e:Est):List Int:=e.allTo 16
def Est.set (e:Est) (k:Nat) (o:Option Reg):Est:={ e with reg:=fun j=>if j=k then o else e.reg j }
def Est.withP (e:Est) (s:PSt):Est:={ e with p:=s }
structure Est.Ok (e:Est):Prop where
 ok:e.p.Ok
 top:∀ k,16<=k->e.reg k=none
 nodup:∀ k,(e.pagesAt k).Nodup
 apart:∀ j k x,x∈e.pagesAt j->x∈e.pagesAt k->j=k
 mem:∀ x,(∃ k,x∈e.pagesAt k)↔0<=x/\x<e.p.fresh/\x ∉ e.p.given
 used:∀ k r,e.reg k=some r->0<=r.used/\r.used<=16
theorem Est.mem_allTo (e:Est) (x:Int):∀ n,x∈e.allTo n↔∃ k,k<n/\x∈e.pagesAt k
 | 0=>by simp[Est.allTo]
 | n+1=>by
   rw[Est.allTo,List.mem_append,Est.mem_allTo e x n]
   constructor
   ·rintro (⟨k,b,a⟩ | h)
    ·exact⟨k,by omega,a⟩
    ·exact⟨n,by omega,h⟩
   ·rintro ⟨k,b,a⟩;rcases Nat.lt_succ_iff_lt_or_eq.1 b with h | h
    ·exact Or.inl ⟨k,h,a⟩
    ·subst h;exact Or.inr a
theorem Est.Ok.nodup_allTo {e:Est}(h:e.Ok):∀ n,(e.allTo n).Nodup
 | 0=>by simp[Est.allTo]
 | n+1=>by
   rw[Est.allTo,List.nodup_append]
   refine⟨h.nodup_allTo n,h.nodup n,fun a b c f g=>?_⟩
   subst g;obtain⟨k,i,d⟩:=(e.mem_allTo a n).1 b
   have:=h.apart k n a d f
   omega
theorem Est.Ok.none_at {e:Est}(h:e.Ok)(a:16<=k):e.pagesAt k=[]:=by simp[Est.pagesAt,h.top k a]
theorem Est.Ok.tk {e:Est}(h:e.Ok):Tk e.p e.all:=by
 refine⟨h.nodup_allTo 16,fun x=>?_⟩
 rw[Est.all,e.mem_allTo,<-h.mem x]
 constructor
 ·rintro ⟨k,_,a⟩;exact⟨k,a⟩
 ·rintro ⟨k,a⟩;refine⟨k,?_,a⟩
  rcases Nat.lt_or_ge k 16 with b | b
  ·exact b
  ·rw[h.none_at b] at a;simp at a
theorem Est.Ok.took {e:Est}(h:e.Ok)(a:x∈e.pagesAt k):0<=x/\x<e.p.fresh/\x ∉ e.p.given:=(h.mem x).1 ⟨k,a⟩
theorem Est.Ok.low {e:Est}(h:e.Ok)(a:x∈e.pagesAt k):0<=x/\x<e.p.pages:=by
 have c:=h.took a;have b:=h.ok.high;omega
theorem Est.Ok.len {e:Est}(h:e.Ok) (k:Nat):(e.pagesAt k).length<=64:=by
 have b:=h.ok.most
 have:=short_of_nodup e.p.pages (e.pagesAt k) (h.nodup k) (fun x a=>h.low a)
 omega
theorem Est.at_some {e:Est}{r:Reg}(a:e.reg k=some r):e.pagesAt k=r.pages:=by simp[Est.pagesAt,a]
theorem Est.Ok.lenR {e:Est}(h:e.Ok){r:Reg}(a:e.reg k=some r):r.pages.length<=64:=by rw[<-Est.at_some a];exact h.len k
def Est.new (n:Nat):Est:=⟨PSt.new n,fun _=>none⟩
theorem Est.ok_new (n:Nat) (h:n<=64):(Est.new n).Ok :=
 ⟨PSt.ok_new n h,fun _ _=>rfl,fun k=>by simp[Est.new,Est.pagesAt],fun j k x b=>by simp[Est.new,Est.pagesAt] at b,
  fun x=>by simp[Est.new,Est.pagesAt,PSt.new]<;>omega,fun k r a=>by simp[Est.new] at a⟩
theorem Est.pagesAt_set (e:Est) (k:Nat) (o:Option Reg) (j:Nat):(e.set k o).pagesAt j=if j=k then (match o with | some r=>r.pages | none=>[]) else e.pagesAt j:=by
 unfold Est.pagesAt Est.set;by_cases h:j=k<;>simp[h]
def Est.has (e:Est) (k:Int):Bool:=decide (0<=k)&&decide (k<16)&&(e.reg k.toNat).isSome
theorem Est.has_true {e:Est}{k:Int}(h:e.has k=true):∃ (j:Nat) (r:Reg),k=j/\j<16/\e.reg j=some r:=by
 simp[Est.has] at h
 obtain⟨r,a⟩:=Option.isSome_iff_exists.1 h.2
 exact⟨k.toNat,r,by omega,by omega,a⟩
theorem Est.has_of {e:Est}{r:Reg}(b:j<16) (a:e.reg j=some r):e.has j=true:=by
 simp[Est.has,a];omega
theorem Est.has_none {e:Est}(a:e.reg j=none):e.has j=false:=by simp[Est.has,a]
theorem Est.has_out {e:Est}{k:Int}(h:k<0\/16<=k):e.has k=false:=by
 unfold Est.has;rcases h with h | h
 ·rw[show decide (0<=k)=false by simpa using h];rfl
 ·rw[show decide (k<16)=false by simpa using h];simp
def Qa2 (f:Nat->Option Reg) (n:Nat):Nat->Int
 | 0=>-1
 | m+1=>if (f n).isNone then (n:Int) else Qa2 f (n+1) m
def Est.openK (e:Est):Int:=Qa2 e.reg 0 16
def Est.opened (e:Est):Est:=if e.openK<0 then e else e.set e.openK.toNat (some ⟨[],0⟩)
theorem QcY {f:Nat->Option Reg}:∀ (m n:Nat),(∀ k,n<=k->k<n+m->f k≠none)->Qa2 f n m=-1
 | 0,_,_=>rfl
 | m+1,n,h=>by
   have a:=h n Ze (by omega);rw[Qa2,Xr (by simpa using a)]
   exact QcY m (n+1) (fun k c b=>h k (by omega) (by omega))
theorem Qce {f:Nat->Option Reg}:∀ (m n k:Nat),(∀ j,n<=j->j<k->f j≠none)->n<=k->k<n+m->f k=none->Qa2 f n m=k
 | 0,n,k,_,h1,h2,_=>by omega
 | m+1,n,k,h,h1,h2,h3=>by
   rw[Qa2]
   by_cases e:n=k
   ·subst e;rw[Xs (by simp[h3])]
   ·have b:=h n Ze (by omega);rw[Xr (by simpa using b)]
    exact Qce m (n+1) k (fun j c a=>h j (by omega) a) (by omega) (by omega) h3
theorem Est.open_no {e:Est}(h:∀ k,k<16->e.reg k≠none):e.openK=-1/\e.opened=e:=by
 have a:e.openK=-1:=QcY 16 0 (fun k _ b=>h k (by omega));exact⟨a,by simp[Est.opened,a]⟩
theorem Est.open_yes {e:Est}(h:∀ j,j<k->e.reg j≠none) (d:k<16) (b:e.reg k=none):e.openK=k/\e.opened=e.set k (some ⟨[],0⟩):=by
 have a:e.openK=k:=Qce 16 0 k (fun j _ c=>h j c) (by omega) (by omega) b;refine⟨a,?_⟩
 rw[Est.opened,a,Xr (by omega)];rfl
theorem Est.Ok.openSet {e:Est}(h:e.Ok)(m:k<16) (l:e.reg k=none):(e.set k (some ⟨[],0⟩)).Ok:=by
 have b:∀ j,(e.set k (some ⟨[],0⟩)).pagesAt j=e.pagesAt j:=fun j=>by
  rw[Est.pagesAt_set]
  by_cases f:j=k
  ·subst f;simp[Est.pagesAt,l]
  ·simp[f]
 refine⟨h.ok,fun j g=>?_,fun j=>by rw[b];exact h.nodup j,fun i j x c d=>?_,fun x=>?_,fun j r a=>?_⟩
 ·simp only[Est.set];rw[Xr (by omega)];exact h.top j g
 ·rw[b] at c d;exact h.apart i j x c d
 ·simp only[b];exact h.mem x
 ·simp only[Est.set] at a
  split at a
  ·cases a;simp
  ·exact h.used j r a
theorem Qbr (f:Nat->Option Reg) (m:Nat):(∀ k,k<m->f k≠none)\/∃ k,k<m/\f k=none/\∀ j,j<k->f j≠none:=by
 induction m with
 | zero=>exact Or.inl fun k b=>by omega
 | succ m ih =>
   rcases ih with h | ⟨k,a,e,d⟩
   ·by_cases c:f m=none
    ·exact Or.inr ⟨m,by omega,c,h⟩
    ·refine Or.inl fun k b=>?_;rcases Nat.lt_succ_iff_lt_or_eq.1 b with a | a
     ·exact h k a
     ·subst a;exact c
   ·exact Or.inr ⟨k,by omega,e,d⟩
theorem Est.Ok.opened {e:Est}(h:e.Ok):e.opened.Ok:=by
 rcases Qbr e.reg 16 with a | ⟨k,a,b,c⟩
 ·rw[(Est.open_no a).2];exact h
 ·rw[(Est.open_yes c a b).2];exact h.openSet a b
@[simp] theorem Est.p_set (e : Est) (k : Nat) (o : Option Reg) : (e.set k o).p = e.p := rfl
@[simp] theorem Est.p_opened (e : Est) : e.opened.p = e.p := by unfold Est.opened; split <;> rfl
def PSt.giveAll (s:PSt) (l:List Int):PSt:=l.foldl PSt.give s
@[simp] theorem PSt.pages_giveAll (l : List Int) : ∀ s : PSt, (s.giveAll l).pages = s.pages := by
 induction l with
 | nil=>intro s;rfl
 | cons x r ih=>intro s;show (PSt.giveAll (s.give x) r).pages=_;rw[ih];simp
theorem PSt.giveAll_snoc (s:PSt) (l:List Int) (x:Int):s.giveAll (l++[x])=(s.giveAll l).give x:=by simp[PSt.giveAll]
theorem PSt.ok_giveAll (l:List Int):∀ {s:PSt},s.Ok->(s.giveAll l).Ok:=by
 induction l with
 | nil=>intro s h;exact h
 | cons x r ih=>intro s h;exact ih (PSt.ok_give h x)
theorem PSt.giveAll_eq (l:List Int):∀ s:PSt,l.Nodup->(∀ x,x∈l->0<=x/\x<s.fresh/\x ∉ s.given)->s.giveAll l={ s with given:=s.given++l }:=by
 induction l with
 | nil=>intro s _ _;simp[PSt.giveAll]
 | cons x r ih =>
   intro s f c
   have e:s.give x={ s with given:=s.given++[x] }:=by
    have:=(Qk1 s x).2 (c x (by simp))
    simp[PSt.give,this]
   show PSt.giveAll (s.give x) r=_;rw[e,ih]
   ·simp
   ·exact(List.nodup_cons.1 f).2
   ·intro y d;have a:=c y (by simp[d]);refine⟨a.1,a.2.1,?_⟩
    simp only[List.mem_append,List.mem_singleton]
    rintro (b | b)
    ·exact a.2.2 b
    ·subst b;exact(List.nodup_cons.1 f).1 d
def Est.shut (e:Est) (k:Int):Est:=if e.has k then (e.set k.toNat none).withP (e.p.giveAll (e.pagesAt k.toNat)) else e
theorem Est.shut_yes {e:Est}{r:Reg}(b:j<16) (a:e.reg j=some r):e.shut j=(e.set j none).withP (e.p.giveAll r.pages):=by
 simp[Est.shut,Est.has_of b a,Est.at_some a]
theorem Est.shut_no {e:Est}{k:Int}(h:e.has k=false):e.shut k=e:=by simp[Est.shut,h]
@[simp] theorem Est.pages_shut (e : Est) (k : Int) : (e.shut k).p.pages = e.p.pages := by
 unfold Est.shut;split<;>simp[Est.withP]
theorem Est.Ok.shutAt {e:Est}(h:e.Ok){r:Reg}(t:e.reg j=some r):((e.set j none).withP (e.p.giveAll r.pages)).Ok:=by
 have d:=Est.at_some t;have o:=PSt.giveAll_eq r.pages e.p (by rw[<-d];exact h.nodup j) (fun x m=>h.took (k:=j) (by rw[d];exact m))
 have g:∀ i,((e.set j none).withP (e.p.giveAll r.pages)).pagesAt i=if i=j then [] else e.pagesAt i:=fun i=>by
  show (e.set j none).pagesAt i=_;rw[Est.pagesAt_set]
 refine⟨PSt.ok_giveAll _ h.ok,fun i b=>?_,fun i=>?_,fun i k x c a=>?_,fun x=>?_,fun i q s=>?_⟩
 ·show (if i=j then none else e.reg i)=none;split
  ·rfl
  ·exact h.top i b
 ·rw[g];split
  ·simp
  ·exact h.nodup i
 ·rw[g] at c a
  split at c
  ·simp at c
  ·split at a
   ·simp at a
   ·exact h.apart i k x c a
 ·show _↔0<=x/\x<(e.p.giveAll r.pages).fresh/\x ∉ (e.p.giveAll r.pages).given;simp only[g]
  rw[o]
  simp only[List.mem_append]
  constructor
  ·rintro ⟨i,b⟩;split at b
   ·simp at b
   ·rename_i f
    have c:=h.took b;refine⟨c.1,c.2.1,?_⟩
    rintro (a | a)
    ·exact c.2.2 a
    ·rw[<-d] at a;exact f (h.apart i j x b a)
  ·rintro ⟨c,a,l⟩;obtain⟨i,b⟩:=(h.mem x).2 ⟨c,a,fun n=>l (Or.inl n)⟩
   refine⟨i,?_⟩
   rw[Xr]
   ·exact b
   ·rintro rfl;rw[d] at b
    exact l (Or.inr b)
 ·have:(if i=j then none else e.reg i)=some q:=s
  split at this
  ·cases this
  ·exact h.used i q this
theorem Est.Ok.shut {e:Est}(h:e.Ok) (k:Int):(e.shut k).Ok:=by
 cases hh:e.has k with
 | false=>rw[Est.shut_no hh];exact h
 | true =>
   obtain⟨j,r,rfl,b,a⟩:=Est.has_true hh
   rw[Est.shut_yes b a];exact h.shutAt a
def Reg.more (r:Reg) (n:Int):Bool:=decide (r.left<n)
def Est.getCode (e:Est) (k n:Int):Int :=
 if e.has k then (if n<1\/16<n then 1 else match e.reg k.toNat with | some r=>if r.more n=true/\e.p.nextK<0 then 14 else 0 | none=>15) else 15
def Est.getAt (e:Est) (k n:Int):Int :=
 if e.getCode k n=0 then (match e.reg k.toNat with | some r=>if r.more n=true then 16*e.p.nextK else 16*r.pages.getLastD 0+r.used | none=>0) else 0
def Est.got (e:Est) (k n:Int):Est :=
 if e.getCode k n=0 then (match e.reg k.toNat with | some r=>if r.more n=true then (e.set k.toNat (some ⟨r.pages++[e.p.nextK],n⟩)).withP e.p.take else e.set k.toNat (some ⟨r.pages,r.used+n⟩) | none=>e) else e
theorem Est.get_none {e:Est}{k n:Int}(h:e.has k=false):e.getCode k n=15/\e.getAt k n=0/\e.got k n=e:=by
 have a:e.getCode k n=15:=by simp[Est.getCode,h]
 exact⟨a,by simp[Est.getAt,a],by simp[Est.got,a]⟩
theorem Est.get_range {e:Est}{k n:Int}(h:e.has k=true) (b:n<1\/16<n):e.getCode k n=1/\e.getAt k n=0/\e.got k n=e:=by
 have a:e.getCode k n=1:=by simp[Est.getCode,h,b]
 exact⟨a,by simp[Est.getAt,a],by simp[Est.got,a]⟩
theorem Est.get_full {e:Est}{r:Reg}{n:Int}(f:j<16) (b:e.reg j=some r) (g:¬ (n<1\/16<n)) (d:r.more n=true) (c:e.p.nextK<0):e.getCode j n=14/\e.getAt j n=0/\e.got j n=e:=by
 have a:e.getCode j n=14:=by simp[Est.getCode,Est.has_of f b,g,b,d,c]
 exact⟨a,by simp[Est.getAt,a],by simp[Est.got,a]⟩
theorem Est.get_more {e:Est}{r:Reg}{n:Int}(f:j<16) (a:e.reg j=some r) (g:¬ (n<1\/16<n)) (c:r.more n=true) (d:¬ e.p.nextK<0) :
 e.getCode j n=0/\e.getAt j n=16*e.p.nextK/\e.got j n=(e.set j (some ⟨r.pages++[e.p.nextK],n⟩)).withP e.p.take:=by
 have b:e.getCode j n=0:=by simp[Est.getCode,Est.has_of f a,g,a,c,d]
 exact⟨b,by simp[Est.getAt,b,a,c],by simp[Est.got,b,a,c]⟩
theorem Est.get_room {e:Est}{r:Reg}{n:Int}(d:j<16) (a:e.reg j=some r) (f:¬ (n<1\/16<n)) (c:r.more n=false) :
 e.getCode j n=0/\e.getAt j n=16*r.pages.getLastD 0+r.used/\e.got j n=e.set j (some ⟨r.pages,r.used+n⟩):=by
 have b:e.getCode j n=0:=by simp[Est.getCode,Est.has_of d a,f,a,c]
 exact⟨b,by simp[Est.getAt,b,a,c],by simp[Est.got,b,a,c]⟩
theorem Reg.room {r:Reg}{n:Int}(h:r.more n=false) (c:1<=n):r.pages≠[]/\n<=16 - r.used:=by
 have a:¬ r.left<n:=by simpa[Reg.more] using h
 unfold Reg.left at a;by_cases b:r.pages=[]
 ·rw[Xs b] at a;omega
 ·rw[Xr b] at a;exact⟨b,by omega⟩
theorem Reg.more_iff {r:Reg}{n:Int}(a:1<=n):r.more n=true↔r.pages=[]\/16 - r.used<n:=by
 simp only[Reg.more,Reg.left]
 by_cases h:r.pages=[]
 ·simp[h];omega
 ·simp[h]
theorem Est.Ok.roomSet {e:Est}(h:e.Ok){r:Reg}(a:e.reg j=some r){n:Int}(m:0<=n) (b:n<=16 - r.used):(e.set j (some ⟨r.pages,r.used+n⟩)).Ok:=by
 have c:∀ i,(e.set j (some ⟨r.pages,r.used+n⟩)).pagesAt i=e.pagesAt i:=fun i=>by
  rw[Est.pagesAt_set]
  by_cases g:i=j
  ·subst g;simp[Est.pagesAt,a]
  ·simp[g]
 have o:=h.used j r a;refine⟨h.ok,fun i d=>?_,fun i=>by rw[c];exact h.nodup i,fun i k x b f=>?_,fun x=>?_,fun i q l=>?_⟩
 ·show (if i=j then some _ else e.reg i)=none;rw[Xr]
  ·exact h.top i d
  ·rintro rfl;rw[h.top i d] at a;cases a
 ·rw[c] at b f;exact h.apart i k x b f
 ·simp only[c];exact h.mem x
 ·have:(if i=j then some ⟨r.pages,r.used+n⟩ else e.reg i)=some q:=l
  split at this
  ·cases this;simp only;omega
  ·exact h.used i q this
theorem Est.Ok.moreSet {e:Est}(h:e.Ok){r:Reg}(y:e.reg j=some r){n:Int}(F:0<=n) (g:n<=16) (D:0<=e.p.nextK):((e.set j (some ⟨r.pages++[e.p.nextK],n⟩)).withP e.p.take).Ok:=by
 have w:=Est.at_some y;obtain⟨u,t⟩:=h.tk.take h.ok D
 have b:∀ i,e.p.nextK ∉ e.pagesAt i:=fun i o=>by
  refine u ((h.tk.mem _).2 ?_);exact h.took o
 have v:∀ i,((e.set j (some ⟨r.pages++[e.p.nextK],n⟩)).withP e.p.take).pagesAt i=if i=j then e.pagesAt j++[e.p.nextK] else e.pagesAt i:=fun i=>by
  show (e.set j (some ⟨r.pages++[e.p.nextK],n⟩)).pagesAt i=_;rw[Est.pagesAt_set,w]
 have f:∀ i x,x∈(if i=j then e.pagesAt j++[e.p.nextK] else e.pagesAt i)↔x∈e.pagesAt i\/(i=j/\x=e.p.nextK):=fun i x=>by
  by_cases s:i=j
  ·subst s;simp
  ·simp[s]
 refine⟨PSt.ok_take h.ok,fun i o=>?_,fun i=>?_,fun i k x g d=>?_,fun x=>?_,fun i q C=>?_⟩
 ·show (if i=j then some _ else e.reg i)=none;rw[Xr]
  ·exact h.top i o
  ·rintro rfl;rw[h.top i o] at y;cases y
 ·rw[v];split
  ·rw[List.nodup_append]
   refine⟨h.nodup j,by simp,fun a E c A s=>?_⟩
   simp at A;subst A;subst s;exact b j E
  ·exact h.nodup i
 ·rw[v,f] at g d
  rcases g with g | ⟨g,z⟩
  ·rcases d with d | ⟨d,m⟩
   ·exact h.apart i k x g d
   ·subst m;exact absurd g (b i)
  ·rcases d with d | ⟨d,m⟩
   ·subst z;exact absurd d (b k)
   ·omega
 ·have:=t.mem x
  show _↔0<=x/\x<e.p.take.fresh/\x ∉ e.p.take.given;rw[<-this,List.mem_append,List.mem_singleton,h.tk.mem x,<-h.mem x]
  simp only[v,f]
  constructor
  ·rintro ⟨i,l | ⟨l,B⟩⟩
   ·exact Or.inl ⟨i,l⟩
   ·exact Or.inr B
  ·rintro (⟨i,l⟩ | l)
   ·exact⟨i,Or.inl l⟩
   ·exact⟨j,Or.inr ⟨Z,l⟩⟩
 ·have:(if i=j then some ⟨r.pages++[e.p.nextK],n⟩ else e.reg i)=some q:=C
  split at this
  ·cases this;simp only;omega
  ·exact h.used i q this
theorem Est.Ok.got {e:Est}(h:e.Ok) (k n:Int):(e.got k n).Ok:=by
 cases hh:e.has k with
 | false=>rw[(Est.get_none hh).2.2];exact h
 | true =>
   by_cases b:n<1\/16<n
   ·rw[(Est.get_range hh b).2.2];exact h
   ·obtain⟨j,r,rfl,c,a⟩:=Est.has_true hh
    cases hm:r.more n with
    | false =>
      rw[(Est.get_room c a b hm).2.2]
      exact h.roomSet a (by omega) (Reg.room hm (by omega)).2
    | true =>
      by_cases d:e.p.nextK<0
      ·rw[(Est.get_full c a b hm d).2.2];exact h
      ·rw[(Est.get_more c a b hm d).2.2]
       exact h.moreSet a (by omega) (by omega) (by omega)
@[simp] theorem Est.pages_got (e : Est) (k n : Int) : (e.got k n).p.pages = e.p.pages := by
 unfold Est.got;split
 ·split
  ·split<;>simp[Est.withP]
  ·rfl
 ·rfl
def Zb (f:Nat->Option Reg):Nat->Int
 | 0=>0
 | n+1=>if (f n).isSome then Zb f n+1 else Zb f n
def Est.count (e:Est):Int:=Zb e.reg 16
theorem Qa7 (f:Nat->Option Reg):∀ n:Nat,0<=Zb f n/\Zb f n<=n
 | 0=>by simp[Zb]
 | n+1=>by
   have:=Qa7 f n
   rw[Zb];split<;>omega
def Est.store (e:Est) (k n:Int):Est:=e.withP (e.p.store k n)
theorem Est.Ok.store {e:Est}(h:e.Ok) (k n:Int):(e.store k n).Ok:=by
 have a:(e.p.store k n).fresh=e.p.fresh/\(e.p.store k n).given=e.p.given:=by unfold PSt.store;split<;>simp
 refine⟨PSt.ok_store h.ok k n,h.top,h.nodup,h.apart,fun x=>?_,h.used⟩
 show _↔0<=x/\x<(e.p.store k n).fresh/\x ∉ (e.p.store k n).given;rw[a.1,a.2]
 exact h.mem x
theorem PSt.nextK_iff {s:PSt}(h:s.Ok):s.nextK<0↔s.free=0:=by
 have g:=h.low;have d:=h.high;unfold PSt.nextK PSt.free;split
 ·rename_i k e
  have f:=h.mem k (List.mem_of_getLast? e);have a:=h.len
  have:0<s.given.length:=List.length_pos_of_mem (List.mem_of_getLast? e)
  omega
 ·rename_i e
  have b:s.given=[]:=by simpa using e
  rw[b]
  split
  ·rename_i c;simp;omega
  ·rename_i c;simp;omega
structure Run where
 region:Int
 at_:Int
 n:Int
def Qbc (e:Est) (q:Run):Prop :=
 ∃ (j:Nat) (r:Reg) (p:Int),q.region=j/\e.reg j=some r/\p∈r.pages/\16*p<=q.at_/\q.at_+q.n<=16*p+16/\0<=q.n/\(p=r.pages.getLastD 0->q.at_+q.n<=16*p+r.used)
def QmK (e:Est):Prop:=∀ (j:Nat) (r:Reg),e.reg j=some r->r.pages≠[]->∀ i:Nat,16*r.pages.getLastD 0+r.used<=i->(i:Int)<16*r.pages.getLastD 0+16->e.p.ws i=0
structure Ap (e:Est) (rs:List Run):Prop where
 run:∀ q,q∈rs->Qbc e q
 clear:QmK e
theorem Ap.opened {e:Est}{f:List Run}(h:Ap e f):Ap e.opened f:=by
 rcases Qbr e.reg 16 with c | ⟨k,c,g,l⟩
 ·rw[(Est.open_no c).2];exact h
 ·rw[(Est.open_yes l c g).2]
  have d:∀ j r,e.reg j=some r->(e.set k (some ⟨[],0⟩)).reg j=some r:=fun j r b=>by
   show (if j=k then _ else e.reg j)=_;rw[Xr]
   ·exact b
   ·rintro rfl;rw[g] at b;cases b
  refine⟨fun q n=>?_,fun j r b i=>?_⟩
  ·obtain⟨j,r,p,o,s,m⟩:=h.run q n
   exact⟨j,r,p,o,d j r s,m⟩
  ·have a:(if j=k then some ⟨[],0⟩ else e.reg j)=some r:=b;split at a
   ·cases a;exact absurd Z i
   ·exact h.clear j r a i
def Qk8 (rs:List Run) (k:Int):List Run:=rs.filter (fun q=>q.region != k)
theorem QdK (l:List Int):∀ s:PSt,(s.giveAll l).ws=s.ws:=by
 induction l with
 | nil=>intro s;rfl
 | cons x r ih =>
   intro s;show (PSt.giveAll (s.give x) r).ws=_;rw[ih]
   unfold PSt.give;split<;>rfl
theorem Ap.shut {e:Est}{g:List Run}(h:Ap e g) (k:Int):Ap (e.shut k) (Qk8 g k):=by
 cases hh:e.has k with
 | false =>
   rw[Est.shut_no hh]
   exact⟨fun q f=>h.run q (List.mem_filter.1 f).1,h.clear⟩
 | true =>
   obtain⟨i,n,rfl,o,d⟩:=Est.has_true hh
   rw[Est.shut_yes o d]
   refine⟨fun q f=>?_,fun j r w v=>?_⟩
   ·obtain⟨c,b⟩:=List.mem_filter.1 f
    obtain⟨j,r,p,l,x,t⟩:=h.run q c
    refine⟨j,r,p,l,?_,t⟩
    show (if j=i then none else e.reg j)=some r;rw[Xr]
    ·exact x
    ·rintro rfl;simp[l] at b
   ·have a:(if j=i then none else e.reg j)=some r:=w;split at a
    ·cases a
    ·intro m s u;show (e.p.giveAll n.pages).ws m=0;rw[QdK]
     exact h.clear j r a v m s u
def PSt.fill (s:PSt) (at_:Int) (m:Nat):PSt:={ s with ws:=fun i=>if at_<=(i:Int)/\(i:Int)<at_+m then 7 else s.ws i }
theorem Qcw (h:l≠[]):l.getLastD 0∈l:=by
 rcases List.eq_nil_or_concat l with a | ⟨b,k,a⟩
 ·exact absurd a h
 ·rw[a];simp
structure QlG (e:Est) (rs:List Run) (k n:Int):Prop where
 low:0<=e.getAt k n
 high:e.getAt k n+n<=16*e.p.pages
 pos:1<=n
 top:n<=16
 page:Qeo (if (e.got k n).has k then (e.got k n).pagesAt k.toNat else []) (e.getAt k n / 16)=true
 room:e.getAt k n%16+n<=16
 apart:∀ q,q∈rs->¬ (e.getAt k n<q.at_+q.n/\q.at_<e.getAt k n+n)
 zero:∀ m:Nat,(m:Int)<n->(e.got k n).p.ws (e.getAt k n+m).toNat=0
 ap:Ap ((e.got k n).withP ((e.got k n).p.fill (e.getAt k n) n.toNat)) (rs++[⟨k,e.getAt k n,n⟩])
theorem Qj4 {e:Est}{L:List Run}{r:Reg}{n:Int}(c:e.Ok) (h:Ap e L) (H:j<16) (s:e.reg j=some r) (S:¬ (n<1\/16<n)) (G:r.more n=false):QlG e L j n:=by
 obtain⟨V,l,C⟩:=Est.get_room H s S G
 obtain⟨f,P⟩:=Reg.room G (by omega)
 have a:=Qcw f;have o:=Est.at_some s;have F:=c.low (k:=j) (x:=r.pages.getLastD 0) (by rw[o];exact a);have O:=c.used j r s;have N:(e.set j (some ⟨r.pages,r.used+n⟩)).has j=true:=Est.has_of H (r:=⟨r.pages,r.used+n⟩) (by simp[Est.set]);have R:(e.set j (some ⟨r.pages,r.used+n⟩)).pagesAt j=r.pages:=by rw[Est.pagesAt_set];simp
 have J:∀ i,(e.set j (some ⟨r.pages,r.used+n⟩)).reg i=if i=j then some ⟨r.pages,r.used+n⟩ else e.reg i:=fun i=>rfl
 refine⟨?_,?_,by omega,by omega,?_,?_,?_,?_,?_⟩
 ·rw[l];omega
 ·rw[l];omega
 ·rw[l,C,N]
  simp only[if_true,Int.toNat_natCast,R]
  have:(16*r.pages.getLastD 0+r.used) / 16=r.pages.getLastD 0:=by omega
  rw[this]
  simpa[Qeo] using a
 ·rw[l];omega
 ·rw[l]
  intro q d;obtain⟨i,M,p,E,g,w,B,y,D,v⟩:=h.run q d
  intro W;by_cases t:p=r.pages.getLastD 0
  ·have:i=j:=c.apart i j p (by rw[Est.at_some g];exact w) (by rw[o,t];exact a)
   subst this;rw[s] at g;cases g
   have:=v t
   omega
  ·omega
 ·rw[l,C]
  intro m T;show e.p.ws _=0;refine h.clear j r s f _ ?_ ?_<;>omega
 ·rw[l,C]
  refine⟨fun q d=>?_,fun i q d u=>?_⟩
  ·rcases List.mem_append.1 d with d | d
   ·obtain⟨i,M,p,E,g,w,B,y,D,v⟩:=h.run q d
    by_cases t:i=j
    ·subst t;rw[s] at g;cases g
     exact⟨i,⟨r.pages,r.used+n⟩,p,E,by simp[Est.withP,Est.set],w,B,y,D,fun A=>by have:=v A;simp only;omega⟩
    ·exact⟨i,M,p,E,by simp[Est.withP,Est.set,t,g],w,B,y,D,v⟩
   ·have b:=List.mem_singleton.1 d;subst b;refine⟨j,⟨r.pages,r.used+n⟩,r.pages.getLastD 0,Z,by simp[Est.withP,Est.set],a,?_,?_,?_,fun _=>?_⟩<;>simp only<;>omega
  ·have b:(if i=j then some ⟨r.pages,r.used+n⟩ else e.reg i)=some q:=d;intro m K I;show (if 16*r.pages.getLastD 0+r.used<=(m:Int)/\(m:Int)<16*r.pages.getLastD 0+r.used+n.toNat then 7 else e.p.ws m)=0;split at b
   ·cases b
    simp only at K I
    rw[Xr (by omega)]
    exact h.clear j r s f m (by omega) (by omega)
   ·rename_i t
    have z:=Qcw u;have U:q.pages.getLastD 0≠r.pages.getLastD 0:=fun A=>t (c.apart i j (q.pages.getLastD 0) (by rw[Est.at_some b];exact z) (by rw[o,A];exact a));have Q:=c.used i q b;rw[Xr (by omega)]
    exact h.clear i q b u m K I
theorem QjR {e:Est}{I:List Run}{r:Reg}{n:Int}(b:e.Ok) (h:Ap e I) (F:j<16) (B:e.reg j=some r) (R:¬ (n<1\/16<n)) (L:r.more n=true) (Q:¬ e.p.nextK<0):QlG e I j n:=by
 obtain⟨V,f,s⟩:=Est.get_more F B R L Q
 have O:=(PSt.nextK_lt b.ok).2;have A:=Est.at_some B;obtain⟨z,-⟩:=b.tk.take b.ok (by omega)
 have c:∀ i,e.p.nextK ∉ e.pagesAt i:=fun i M=>z ((b.tk.mem _).2 (b.took M))
 have k:∀ i:Nat,e.p.take.ws i=if 16*e.p.nextK<=(i:Int)/\(i:Int)<16*e.p.nextK+16 then 0 else e.p.ws i:=fun i=>by
  have f:e.p.take=e.p.next.wipe e.p.nextK:=by simp[PSt.take];omega
  have s:e.p.next.ws=e.p.ws:=by
   unfold PSt.next;split
   ·rfl
   ·split<;>rfl
  rw[f]
  show (if e.p.nextK*16<=(i:Int)/\(i:Int)<e.p.nextK*16+16 then 0 else e.p.next.ws i)=_;rw[s]
  by_cases g:16*e.p.nextK<=(i:Int)/\(i:Int)<16*e.p.nextK+16
  ·rw[Xs g,Xs (by omega)]
  ·rw[Xr g,Xr (by omega)]
 have K:((e.set j (some ⟨r.pages++[e.p.nextK],n⟩)).withP e.p.take).has j=true:=Est.has_of F (r:=⟨r.pages++[e.p.nextK],n⟩) (by simp[Est.set,Est.withP])
 have P:((e.set j (some ⟨r.pages++[e.p.nextK],n⟩)).withP e.p.take).pagesAt j=r.pages++[e.p.nextK]:=by
  show (e.set j (some ⟨r.pages++[e.p.nextK],n⟩)).pagesAt j=_;rw[Est.pagesAt_set];simp
 generalize T:e.p.nextK=q at *;refine⟨?_,?_,by omega,by omega,?_,?_,?_,?_,?_⟩
 ·rw[f];omega
 ·rw[f];omega
 ·rw[f,s,K]
  simp only[if_true,Int.toNat_natCast,P]
  have:(16*q) / 16=q:=by omega
  rw[this]
  simp[Qeo]
 ·rw[f];omega
 ·rw[f]
  intro u d;obtain⟨i,J,p,D,o,l,y,w,C,E⟩:=h.run u d
  intro W
  have:p≠q:=fun g=>c i (by rw[Est.at_some o,<-g];exact l)
  omega
 ·rw[f,s]
  intro m S;show e.p.take.ws _=0;rw[k,Xs (by omega)]
 ·rw[f,s]
  refine⟨fun u d=>?_,fun i u d t=>?_⟩
  ·rcases List.mem_append.1 d with d | d
   ·obtain⟨i,J,p,D,o,l,y,w,C,E⟩:=h.run u d
    by_cases g:i=j
    ·subst g;rw[B] at o;cases o
     refine⟨i,⟨r.pages++[q],n⟩,p,D,by simp[Est.withP,Est.set],by simp[l],y,w,C,fun v=>?_⟩
     simp at v
     exact absurd (by rw[A,<-v];exact l) (c i)
    ·exact⟨i,J,p,D,by simp[Est.withP,Est.set,g,o],l,y,w,C,E⟩
   ·have a:=List.mem_singleton.1 d;subst a;refine⟨j,⟨r.pages++[q],n⟩,q,Z,by simp[Est.withP,Est.set],by simp,?_,?_,?_,fun _=>?_⟩<;>simp only<;>omega
  ·have a:(if i=j then some ⟨r.pages++[q],n⟩ else e.reg i)=some u:=d;intro m H G;show (if 16*q<=(m:Int)/\(m:Int)<16*q+n.toNat then 7 else e.p.take.ws m)=0;split at a
   ·cases a
    simp at H G
    rw[Xr (by omega),k,Xs (by omega)]
   ·rename_i g
    have x:=Qcw t;have U:u.pages.getLastD 0≠q:=fun v=>c i (by rw[Est.at_some a,<-v];exact x);have N:=b.used i u a;rw[Xr (by omega),k,Xr (by omega)]
    exact h.clear i u a t m H G
theorem Qlf {e:Est}{i:List Run}(a:e.Ok) (h:Ap e i) (k n:Int) (f:e.getCode k n=0):QlG e i k n:=by
 cases hh:e.has k with
 | false=>rw[(Est.get_none hh).1] at f;omega
 | true =>
   by_cases b:n<1\/16<n
   ·rw[(Est.get_range hh b).1] at f;omega
   ·obtain⟨j,r,rfl,c,d⟩:=Est.has_true hh
    cases hm:r.more n with
    | false=>exact Qj4 a h c d b hm
    | true =>
      by_cases g:e.p.nextK<0
      ·rw[(Est.get_full c d b hm g).1] at f;omega
      ·exact QjR a h c d b hm g
structure RFr where
 f:Nat
 b:Nat
 i:Nat
 v:List Int
structure RM where
 e:Est
 top:RFr
 rest:List RFr
 inp:List Int
 out:List Int
 back:List Int
 fuel:Nat
 fin:Int
 done:Bool
def iAt (v:List Int) (k:Int):Option Int:=if k<0 then none else v[k.toNat]?
def Qaz (v:List Int):List Int->Option (List Int)
 | []=>some []
 | k::l=>match iAt v k with
   | none=>none
   | some x=>match Qaz v l with
     | none=>none
     | some xs=>some (x::xs)
def RM.over (R:RM) (e:Int):RM:={ R with done:=true,fin:=e }
def RM.on (R:RM) (l:List Int):RM:={ R with top:={ R.top with v:=R.top.v++l,i:=R.top.i+1 } }
def PSt.puts (s:PSt) (k:Int):List Int->PSt
 | []=>s
 | n::l=>(s.store k n).puts (k+1) l
def RM.thing (R:RM) (h size:Int) (l:List Int):RM :=
 if R.e.getCode h size=0 then ({ R with e:=(R.e.got h size).withP ((R.e.got h size).p.puts (R.e.getAt h size) l) }:RM).on [R.e.getAt h size] else R.over 6
def RM.load (R:RM) (k:Int):Int:=R.e.p.load k
def RM.stored (R:RM) (k n:Int):RM:={ R with e:=R.e.withP (R.e.p.store k n) }
def RM.part (R:RM) (x:Qt):Option RM:=match iAt R.top.v x.a with
 | none=>none
 | some a =>
   if x.op=6 then some (R.on [R.load (wrap64 (a+x.k))])
   else if x.op=7 then (match iAt R.top.v x.b with
    | none=>none
    | some y=>some ((R.stored (wrap64 (a+x.k)) y).on []))
   else if x.op=9 then (match iAt R.top.v x.b with
    | none=>none
    | some n=>if 0<=n/\n<R.load a then some (R.on [R.load (wrap64 (wrap64 (a+1)+n))]) else some (R.over 2))
   else if x.op=10 then (match iAt R.top.v x.b with
    | none=>none
    | some n=>match iAt R.top.v x.c with
      | none=>none
      | some z=>if 0<=n/\n<R.load a then some ((R.stored (wrap64 (wrap64 (a+1)+n)) z).on []) else some (R.over 2))
   else if x.op=11 then some (R.on [R.load a])
   else some (R.on [])
def RM.ins (op:Int->Int->Int->Option Int) (R:RM) (x:Qt):Option RM :=
 if x.op=1 then some (R.on [x.n])
 else if x.op=2 then (match iAt R.top.v x.a with
  | none=>none
  | some a=>match iAt R.top.v x.b with
    | none=>none
    | some b=>match op x.k a b with
      | none=>some (R.over 1)
      | some n=>some (R.on [n]))
 else if x.op=3 then (if 0<=R.e.openK then some (({ R with e:=R.e.opened }:RM).on [R.e.openK]) else some (R.over 6))
 else if x.op=4 then (match iAt R.top.v x.a with
  | none=>none
  | some a=>some (({ R with e:=R.e.shut a }:RM).on []))
 else if x.op=5 then (match iAt R.top.v x.a with
  | none=>none
  | some a=>match Qaz R.top.v x.args with
    | none=>none
    | some l=>some (R.thing a (if l.length=0 then 1 else l.length) l))
 else if x.op=8 then (match iAt R.top.v x.a with
  | none=>none
  | some a=>match iAt R.top.v x.b with
    | none=>none
    | some n=>if 0<=n/\n<=15 then some (R.thing a (n+1) [n]) else some (R.over 3))
 else if x.op=12 then (match R.inp with
  | []=>some (R.over 4)
  | n::l=>some (({ R with inp:=l }:RM).on [n]))
 else if x.op=13 then (match iAt R.top.v x.a with
  | none=>none
  | some n=>if R.out.length<2000 then some (({ R with out:=R.out++[n] }:RM).on []) else some (R.over 8))
 else if x.op=14 then (if R.rest.length+1<40 then (match Qaz R.top.v x.args with
  | none=>none
  | some l=>some { R with top:=⟨x.k.toNat,0,0,l⟩,rest:={ R.top with i:=R.top.i+1 }::R.rest }) else some (R.over 5))
 else R.part x
def RM.to (R:RM) (t:MTo):Option RM:=match Qaz R.top.v t.args with
 | none=>none
 | some l=>some { R with top:=⟨R.top.f,t.block.toNat,0,l⟩ }
def RM.endd (R:RM) (e:ZA):Option RM :=
 if e.op=3 then (match Qaz R.top.v e.args with
  | none=>none
  | some l=>match R.rest with
    | []=>some { R with done:=true,fin:=0,back:=l }
    | d::rest=>some { R with top:={ d with v:=d.v++l },rest:=rest })
 else if e.op=2 then (match iAt R.top.v e.a with
  | none=>none
  | some n=>if n=0 then R.to e.no else R.to e.yes)
 else R.to e.yes
def RM.step (m:List (MFunc 6)) (op:Int->Int->Int->Option Int) (most:Nat) (R:RM):Option RM :=
 if R.fuel=most then some (R.over 7)
 else match m[R.top.f]? with
  | none=>none
  | some fn=>match fn.blocks[R.top.b]? with
    | none=>none
    | some bl=>match bl.code[R.top.i]? with
      | some x=>RM.ins op { R with fuel:=R.fuel+1 } x
      | none=>RM.endd { R with fuel:=R.fuel+1 } bl.fin
def RM.start (inp:List Int) (pages:Nat):RM:=⟨Est.new pages,⟨0,0,0,[]⟩,[],inp,[],[],0,0,false⟩
def RM.steps (m:List (MFunc 6)) (op:Int->Int->Int->Option Int) (most:Nat):Nat->RM->Option RM
 | 0,R=>some R
 | n+1,R=>if R.done then some R else match R.step m op most with
   | none=>none
   | some R'=>R'.steps m op most n
theorem XG:type_of% @Nat.not_lt_zero:=@Nat.not_lt_zero
def Qn (w:World) (b:Nat) (O:Nat->Prop) (s:PSt):Prop :=
 ∃ gw n vg,w.heap[b]?=some (.cells #[.slice (some ⟨gw,0,none⟩) n n,vg,Iv s.fresh] 134 (0,0))/\w.rowIs gw 2 n (fun i=>Iv (s.ws i)) /\
  Row w O 3 vg s.given/\O b/\O gw/\n=16*s.pages/\s.Ok
theorem Qe4 (w:World) (b:Nat) (O:Nat->Prop) (s:PSt) (h:Qn w b O s) :
 Calls prog 70 #[Pv b 0] w fun e w'=>e=.returned (Iv s.pages)/\w'=w:=by
 obtain⟨j,n,p,i,q,m,k,c,g,a⟩:=h
 have o:w.cell? ⟨b,0,none⟩=some (.slice (some ⟨j,0,none⟩) n n):=Qb i 0 _ Z;have l:=a.most;have E:Hid ((n:Int) / 16=s.pages):=by show _=_;omega
 have d:n<=16*s.pages:=by omega
 have f:16*s.pages<=n:=by omega
 clear g;go_enter func70,ntmps70
 go_wp2
 go_ret;exact⟨by rw[E.out];rfl,Z⟩
theorem QcS (h:∀ j,j<xs.length->xs.getD j 0≠x):Qeo xs x=false:=by
 unfold Qeo;rw[Bool.eq_false_iff]
 intro a;simp at a
 obtain⟨j,b,e⟩:=List.getElem_of_mem a
 exact h j b (by simp[List.getD,b,e])
theorem Qds (a:j<xs.length) (h:xs.getD j 0=x):Qeo xs x=true:=by
 unfold Qeo;simp
 simp[List.getD,a] at h
 rw[<-h];exact List.getElem_mem a
theorem Qii (w:World) (O:Nat->Prop) (v:Value) (xs:List Int) (x:Int) (h:Row w O 3 v xs) (F:xs.length<=1000) :
 Calls prog 288 #[v,Iv x] w fun e w'=>(∃ r:Int,e=.returned (Iv r)/\decide (0<=r)=Qeo xs x)/\w'=w:=by
 obtain⟨a,G,rfl,D,t⟩:=h.form
 have s:∀ i,i<xs.length->∃ g,a=some ⟨g,0,none⟩:=by
  intro i q
  cases a with
  | none=>rw[(D Z).1] at q;simp at q
  | some g=>exact⟨g.block,by rw[<-(t g Z).1]⟩
 have l:∀ g i,a=some ⟨g,0,none⟩->i<xs.length->w.cell? ⟨g,i,none⟩=some (Iv (xs.getD i 0)):=by
  intro g i e q;subst e;obtain⟨_,_,_,_,c,l,_,A⟩:=t _ Z
  exact Qb l i _ (A i q)
 clear t D h;obtain⟨b,d⟩:∃ b,xs.length=b:=⟨_,Z⟩
 rw[d] at F s l |-
 have C:Hid (xs.length=b):=d;clear d;go_enter func288,ntmps288
 go_wp2
 go_loop [8] (fun i=>∃ k:Nat,k<=b/\i=Iv k/\∀ j,j<k->xs.getD j 0≠x) (fun i=>b - (intOf i).toNat)
 case atStart=>exact⟨0,Xb _,Z,fun j p=>absurd p (XG _)⟩
 case round =>
  obtain⟨k,H,rfl,f⟩:=hrel
  by_cases n:k<b
  ·obtain⟨g,rfl⟩:=s k n
   have z:=l g k Z n;clear l s;obtain⟨y,o⟩:∃ y,y=xs.getD k 0:=⟨_,Z⟩
   rw[<-o] at z
   by_cases m:x=y
   ·have E:Hid (Qeo xs x=true):=Qds (by have:=C.out;omega) (o.symm.trans m.symm);have B:(x==y)=true:=by simpa using m
    clear m o f;go_wp2
    go_ret;exact⟨⟨k,Z,by rw[E.out];simp⟩,Z⟩
   ·have B:(x==y)=false:=by simpa using m
    have N:Hid (∀ j,j<k+1->xs.getD j 0≠x):=fun j p=>by
     rcases Nat.lt_succ_iff_lt_or_eq.1 p with u | u
     ·exact f j u
     ·subst u;rw[<-o];exact fun e=>m e.symm
    clear m f o;go_wp2
    go_round
    case rel=>exact⟨k+1,by omega,by go_num,N.out⟩
    case measure=>simp[intOf];omega
  ·have E:Hid (Qeo xs x=false):=QcS fun j p=>f j (by have:=C.out;omega);clear f l s;go_wp2
   go_ret;exact⟨⟨-1,Z,by rw[E.out];rfl⟩,Z⟩
theorem Qfb (w:World) (O:Nat->Prop) (v:Value) (xs:List Int) (x:Int) (h:Row w O 3 v xs) (b:xs.length<=1000) :
 Calls prog 279 #[v,Iv x] w fun e w'=>e=.returned (.bool (Qeo xs x))/\w'=w:=by
 have C:Hid (Calls prog 288 #[v,Iv x] w fun e w'=>(∃ r:Int,e=.returned (Iv r)/\decide (0<=r)=Qeo xs x)/\w'=w):=Qii w O v xs x h b;clear h;go_enter func279,ntmps279
 go_wp2_with fail
 refine(C.out).mono ?_
 rintro e w' ⟨⟨r,rfl,a⟩,rfl⟩;have R:Hid (decide (0<=r)=Qeo xs x):=a;clear a;go_wp2
 all_goals
  go_ret;refine⟨?_,Z⟩
  rw[<-R.out];simp[*]
theorem Qn.setGiven {s:PSt}(h:Qn w b O s)(d:Row w O 3 v xs) (a:PSt.Ok { s with given:=xs }) :
 Qn (w.setCell ⟨b,1,none⟩ v) b O { s with given:=xs }:=by
 obtain⟨o,n,t,f,k,q,l,e,m,_⟩:=h
 obtain⟨r,i,_,_⟩:=id k
 refine⟨o,n,v,?_,k.setOther (Ne.symm (Zc f i (by decide))) _,?_,l,e,m,a⟩
 ·rw[Qh f];rfl
 ·refine d.keep (fun g j=>?_) d.2;obtain⟨c,p⟩:=d.block j
  exact Xd _ _ _ _ (Zc p f (by decide))
theorem Qn.setFresh {s:PSt}(h:Qn w b O s) (f:Int) (a:PSt.Ok { s with fresh:=f }) :
 Qn (w.setCell ⟨b,2,none⟩ (Iv f)) b O { s with fresh:=f }:=by
 obtain⟨p,n,r,i,l,e,m,d,o,_⟩:=h
 obtain⟨t,j,_,_⟩:=id l
 refine⟨p,n,r,?_,l.setOther (Ne.symm (Zc i j (by decide))) _,?_,m,d,o,a⟩
 ·rw[Qh i];rfl
 ·refine e.keep (fun g k=>?_) e.2;obtain⟨c,q⟩:=e.block k
  exact Xd _ _ _ _ (Zc q i (by decide))
theorem Qn.ownB {s:PSt}(h:Qn w b O s):O b:=by
 obtain⟨g,n,j,f,i,d,a,c,e,_⟩:=h
 exact a
theorem Qn.ok {s:PSt}(h:Qn w b O s):s.Ok:=by
 obtain⟨i,n,k,g,j,e,d,c,f,a⟩:=h
 exact a
theorem Qn.cells {s:PSt}(h:Qn w b O s):∃ gw n a len cap,
 w.cell? ⟨b,0,none⟩=some (.slice (some ⟨gw,0,none⟩) n n)/\w.cell? ⟨b,1,none⟩=some (.slice a len cap)/\w.cell? ⟨b,2,none⟩=some (Iv s.fresh)/\(∀ i,w.frozen? ⟨b,i,none⟩=false) /\
 Hid (n=16*s.pages/\len=s.given.length/\Row w O 3 (.slice a len cap) s.given):=by
 obtain⟨gw,n,k,c,l,d,j,e,f,g⟩:=h
 obtain⟨a,cap,rfl,_,_⟩:=d.form
 exact⟨gw,n,a,s.given.length,cap,Qb c 0 _ Z,Qb c 1 _ Z,Qb c 2 _ Z,fun i=>Qj c i,f,Z,d⟩
theorem QfD (w:World) (b:Nat) (O:Nat->Prop) (s:PSt) (k:Int) (h:Qn w b O s) :
 Calls prog 253 #[Pv b 0,Iv k] w fun e w'=>e=.returned (.bool (s.took k))/\w'=w:=by
 obtain⟨o,n,a,c,f,p,q,m,_,R⟩:=h.cells
 have g:=h.ok.len;have l:=h.ok.most;have j:=h.ok.high;have C:Hid (Calls prog 279 #[.slice a c f,Iv k] w fun e w'=>e=.returned (.bool (Qeo s.given k))/\w'=w):=Qfb w O _ s.given k R.out.2.2 (by omega);clear h;by_cases d:0<=k
 ·by_cases i:k<s.fresh
  ·have E:Hid (s.took k=!Qeo s.given k):=by show _=_;simp[PSt.took,d,i]
   cases hc:Qeo s.given k
   all_goals
    rw[hc] at C E
    clear hc;go_enter func253,ntmps253
    go_wp2_with (go_at_call 279;refine(C.out).mono ?_;rintro e w' ⟨rfl,rfl⟩)
    go_ret;exact⟨by rw[E.out];rfl,Z⟩
  ·have E:Hid (s.took k=false):=by show _=_;simp[PSt.took,d,i]
   go_enter func253,ntmps253
   go_wp2
   go_ret;exact⟨by rw[E.out];rfl,Z⟩
 ·have E:Hid (s.took k=false):=by show _=_;simp[PSt.took,d]
  go_enter func253,ntmps253
  go_wp2
  go_ret;exact⟨by rw[E.out];rfl,Z⟩
theorem Qm3 (w:World) (b:Nat) (O:Nat->Prop) (s:PSt) (h:Qn w b O s) :
 Calls prog 35 #[Pv b 0] w fun e w'=>e=.returned (Iv s.free)/\∃ m,w'=w.drewN m:=by
 have C:Hid (∀ m,Calls prog 70 #[Pv b 0] (w.drewN m) fun e w'=>e=.returned (Iv s.pages)/\w'=w.drewN m):=fun m=>Qe4 (w.drewN m) b O s h;obtain⟨o,n,a,c,j,p,q,l,_,R⟩:=h.cells
 have d:=h.ok.len;have k:=h.ok.most;have f:=h.ok.high;have g:=h.ok.low;have i:c<=s.given.length:=by have:=R.out.2.1;omega
 have E:Hid (s.free=s.pages - s.fresh+c):=by show _=_;rw[PSt.free,R.out.2.1]
 clear h;go_enter func35,ntmps35
 go_wp2_with fail
 go_quiet ((go_at_call 70;exact Calls.quiet_of_same (C.out _)))
 go_wp2
 go_ret;refine⟨?_,_,Z⟩
 rw[E.out];rfl
theorem Qj7 (w:World) (b:Nat) (O:Nat->Prop) (s:PSt) (h:Qn w b O s) :
 Calls prog 291 #[Pv b 0] w fun e w'=>e=.returned (Iv s.nextK)/\Qn w' b O s.next/\Qz O O w w':=by
 have q:=h.ownB;have H:Hid (Qn w b O s):=h;obtain⟨V,n,a,o,v,W,Q,T,y,R⟩:=h.cells
 have U:=y 1;have P:=y 2;clear y;have i:=h.ok.len;have J:=h.ok.most;have L:=h.ok.high;have M:=h.ok.low;have j:o<=s.given.length:=by have:=R.out.2.1;omega
 have r:s.given.length<=o:=by have:=R.out.2.1;omega
 rcases List.eq_nil_or_concat s.given with f | ⟨l,k,d⟩
 ·have z:o=0:=by rw[f] at j;simpa using j
  have u:s.given.getLast?=none:=by rw[f];rfl
  subst z;have C:Hid (∀ m,Calls prog 70 #[Pv b 0] (w.drewN m) fun e w'=>e=.returned (Iv s.pages)/\w'=w.drewN m):=fun m=>Qe4 (w.drewN m) b O s h;by_cases c:s.fresh=s.pages
  ·have E:Hid (s.nextK=-1/\s.next=s):=by constructor<;>simp[PSt.nextK,PSt.next,u,c]
   have p:(s.fresh==(s.pages:Int))=true:=by simpa using c
   clear h f u j r i c;go_enter func291,ntmps291
   go_wp2_with fail
   go_quiet ((go_at_call 70;exact Calls.quiet_of_same (C.out _)))
   go_wp2
   go_ret;refine⟨?_,?_,(Qz.refl O _).drewN _⟩
   ·rw[E.out.1];rfl
   ·rw[E.out.2];exact H.out
  ·have E:Hid (s.nextK=s.fresh/\s.next={ s with fresh:=s.fresh+1 }):=by constructor<;>simp[PSt.nextK,PSt.next,u,c]
   have x:Hid (Qn (w.setCell ⟨b,2,none⟩ (Iv (s.fresh+1))) b O { s with fresh:=s.fresh+1 }):=h.setFresh _ (by rw[<-E.out.2];exact PSt.ok_next h.ok);have p:(s.fresh==(s.pages:Int))=false:=by simpa using c
   have K:s.fresh<s.pages:=by omega
   clear h f u j r i c;go_enter func291,ntmps291
   go_wp2_with fail
   go_quiet ((go_at_call 70;exact Calls.quiet_of_same (C.out _)))
   go_wp2
   go_ret;refine⟨?_,?_,?_⟩
   ·rw[E.out.1];simp
   ·rw[E.out.2];exact x.out
   ·exact((Qz.refl O _).drewN _).setCell q _
 ·have u:s.given.getLast?=some k:=by rw[d];simp
  have B:s.given.length=l.length+1:=by rw[d];simp
  have A:o=l.length+1:=by omega
  subst A;have E:Hid (s.nextK=k/\s.next={ s with given:=s.given.take (s.given.length - 1) }):=by constructor<;>simp[PSt.nextK,PSt.next,u]
  obtain⟨g,N,-,t,-⟩:=R.out.2.2.head (by omega)
  subst N
  have S:w.cell? ⟨g,l.length,none⟩=some (Iv k):=by
   have:=R.out.2.2.cell l.length (by omega)
   rw[this,d];simp[List.getD]
  have I:=R.out.2.2.init l.length (by omega)
  have x:Hid (Qn (w.setCell ⟨b,1,none⟩ (.slice (some ⟨g,0,none⟩) l.length v)) b O { s with given:=s.given.take (s.given.length - 1) }):=by
   have F:s.given.length - 1=l.length:=by omega
   rw[F]
   exact h.setGiven I (by have:=PSt.ok_next h.ok;rw[E.out.2,F] at this;exact this)
  have D:l.length+1<=v:=by omega
  have G:l.length<=64:=by omega
  generalize l.length=m at *;clear h j r i d B I u t;go_enter func291,ntmps291
  go_wp2
  go_ret;refine⟨?_,?_,?_⟩
  ·rw[E.out.1];rfl
  ·rw[E.out.2];exact x.out
  ·exact(Qz.refl O _).setCell q _
def noughts:List Value:=List.replicate 16 (Iv 0)
theorem Qn.wiped {s:PSt}{a:Nat}{o:Value}(q:w.heap[b]?=some (.cells #[.slice (some ⟨a,0,none⟩) n n,o,Iv s.fresh] 134 (0,0)))
 (r:w.rowIs a 2 n (fun i=>Iv (s.ws i))) (l:Row w O 3 o s.given) (t:O b) (h:O a) (u:n=16*s.pages) (f:s.Ok) (k:Nat) :
 Qn (w.setCells a (k*16) noughts) b O (s.wipe k):=by
 obtain⟨y,d,_,_⟩:=id r
 have m:b≠a:=Zc q d (by decide);refine⟨a,n,o,?_,?_,?_,t,h,u,PSt.ok_wipe f _⟩
 ·rw[QF m];exact q
 ·refine(QdF (Iv 0) 16 (k*16) _ _ r).congr fun j x=>?_
  by_cases e:k*16<=j/\j<k*16+16
  ·rw[Xs e];simp only[PSt.wipe];rw[Xs (by omega)]
  ·rw[Xr e];simp only[PSt.wipe];rw[Xr (by omega)]
 ·refine l.keep (fun g p=>?_) l.2;obtain⟨c,v⟩:=l.block p
  exact QF (Zc v d (by decide)) _ _ _
theorem under_int64s:prog.underlying 25=some (.slice 2):=by kernel_rfl
theorem under_ints:prog.underlying 76=some (.slice 3):=by kernel_rfl
theorem QgR (w:World):(zeroValue 2).run prog w=.ok (Iv 0) w:=by kernel_rfl
theorem info_int64:(prog.info? 2).map (fun i=>(i.zero,i.size,i.bytes))=some (some (Iv 0),1,8):=by kernel_rfl
theorem info_int:(prog.info? 3).map (fun i=>(i.zero,i.size,i.bytes))=some (some (Iv 0),1,8):=by kernel_rfl
theorem Qke (w:World) (b:Nat) (O:Nat->Prop) (s:PSt) (k:Nat) (h:Qn w b O s) (x:k<s.pages) :
 Calls prog 292 #[Pv b 0,Iv k] w fun e w'=>e=.returned (.tuple #[])/\Qn w' b O (s.wipe k)/\Qz O O w w':=by
 obtain⟨d,n,z,m,i,r,p,a,l,f⟩:=h
 have y:w.cell? ⟨b,0,none⟩=some (.slice (some ⟨d,0,none⟩) n n):=Qb m 0 _ Z;have E:Hid (Qn (w.setCells d (k*16) noughts) b O (s.wipe k)):=Qn.wiped m i r p a l f k;have v:=f.most
 have o:∀ g c,(Builtin.clear_ #[25] g #[.slice (some ⟨d,k*16,none⟩) ((k+1)*16 - k*16) c]).run prog w=.ok (.tuple #[]) (w.setCells d (k*16) noughts):=by
  rw[show (k+1)*16 - k*16=16 by omega]
  exact fun g c=>Lib.run_clear_slice w _ _ g _ under_int64s QgR Z Z d (k*16) 16 c (by omega) (fun j q=>by rw[i.cell (by omega)];rfl) (fun j q=>i.frozen _)
 have t:n<=16*s.pages:=by omega
 have u:16*s.pages<=n:=by omega
 clear l;go_enter func292,ntmps292
 go_wp2
 go_end0
 exact⟨Z,E.out,(Qz.refl O _).setCells a _ _ _⟩
theorem QgF (w:World) (b:Nat) (O:Nat->Prop) (s:PSt) (h:Qn w b O s) :
 Calls prog 289 #[Pv b 0] w fun e w'=>e=.returned (Iv s.nextK)/\Qn w' b O s.take/\Qz O O w w':=by
 have g:=PSt.nextK_lt h.ok;have C:Hid (Calls prog 291 #[Pv b 0] w fun e w'=>e=.returned (Iv s.nextK)/\Qn w' b O s.next/\Qz O O w w'):=Qj7 w b O s h;clear h;obtain⟨k,a⟩:∃ k,s.nextK=k:=⟨_,Z⟩
 rw[a] at C g |-
 by_cases c:k<0
 ·have E:Hid (s.take=s.next):=by show _=_;simp[PSt.take,a,c]
  clear a;go_enter func289,ntmps289
  go_wp2_with fail
  refine(C.out).mono ?_
  rintro e w' ⟨rfl,d,f⟩;go_wp2
  go_ret;exact⟨Z,by rw[E.out];exact d,f⟩
 ·have E:Hid (s.take=s.next.wipe k):=by show _=_;simp[PSt.take,a,c]
  obtain⟨m,rfl⟩:=Xc (show 0<=k by omega)
  clear a;go_enter func289,ntmps289
  go_wp2_with fail
  refine(C.out).mono ?_
  rintro e w' ⟨rfl,d,f⟩;go_wp2_with fail
  refine(Qke w' b O s.next m d (by simp;omega)).mono ?_
  rintro e l ⟨rfl,i,j⟩;go_wp2
  go_ret;exact⟨Z,by rw[E.out];exact i,f.trans j⟩
def Q1 (O:Nat->Prop) (w w':World):Nat->Prop:=fun k=>(O k\/w.heap.size<=k)/\k<w'.heap.size
theorem QhQ {s:PSt}{k:Int}{r:Nat}{j:Value}{o:Obj}(z:w.heap[b]?=some (.cells #[.slice (some ⟨r,0,none⟩) n n,j,Iv s.fresh] 134 (0,0)))
 (M:w.rowIs r 2 n (fun i=>Iv (s.ws i))) (C:Row w O 3 j s.given) (L:O b) (G:O r) (J:n=16*s.pages) (E:PSt.Ok { s with given:=s.given++[k] })
 (Q:w1.ownsRow 0 3 1 (.slice (some ⟨g,0,none⟩) (s.given.length+1) cap) (s.given.length+1) (s.given.map (Value.int .i64)++[Iv k]))
 (a:(w.alloc o).grownBy w1 j.ownBlock) (t:j.ownBlock=some g\/g=w.heap.size+1) (F:g<w1.heap.size) :
 w1.cell? ⟨b,1,none⟩=some j/\w1.frozen? ⟨b,1,none⟩=false/\Qn (w1.setCell ⟨b,1,none⟩ (.slice (some ⟨g,0,none⟩) (s.given.length+1) cap)) b (Q1 O w w1) { s with given:=s.given++[k] } /\
 Qz O (Q1 O w w1) w (w1.setCell ⟨b,1,none⟩ (.slice (some ⟨g,0,none⟩) (s.given.length+1) cap)):=by
 have y:=XC z
 have v:j.ownBlock≠some b:=fun e=>by
  obtain⟨c,K⟩:=C.block e
  exact absurd Z (Zc K z (by decide))
 obtain⟨R,m,_,_⟩:=id M
 have u:=XC m
 have I:j.ownBlock≠some r:=fun e=>by
  obtain⟨c,K⟩:=C.block e
  exact absurd Z (Zc K m (by decide))
 have d:∀ x,x<w.heap.size->j.ownBlock≠some x->w1.heap[x]?=w.heap[x]?:=fun x f D =>
  (a.block x (by simp;omega) (fun e=>D e.symm)).trans (Below.heap_alloc _ _ _ f)
 have q:=(d b y v).trans z;have P:w.heap.size+1<=w1.heap.size:=by have:=a.size;simpa using this
 have B:∀ x,O x\/w.heap.size<=x->x<w1.heap.size->Q1 O w w1 x:=fun x h A=>⟨h,A⟩;have l:=C.pushed (o:=o) Q t F (Q1 O w w1) B;refine⟨Qb q 1 _ Z,Qj q 1,?_,?_⟩
 ·have H:b≠g:=by
   intro e;subst e;rcases t with A | A
   ·exact v A
   ·omega
  refine⟨r,n,.slice (some ⟨g,0,none⟩) (s.given.length+1) cap,?_,?_,?_,B _ (Or.inl L) (by omega),B _ (Or.inl G) (by omega),J,E⟩
  ·rw[Qh q];rfl
  ·refine(M.of_block (d r u I)).setOther ?_ _
   exact Ne.symm (Zc z m (by decide))
  ·refine l.keep (fun x f=>?_) l.2;simp[Value.ownBlock] at f;subst f
   exact Xd _ _ _ _ (Ne.symm H)
 ·have N:Qz O (Q1 O w w1) w w1:=by
   refine⟨a.os,a.tape,a.output,by omega,fun x f J=>?_,fun x f=>f.1⟩
   exact d x f (fun e=>J (C.2 x e))
  exact N.setCell (p:=⟨b,1,none⟩) (B b (Or.inl L) (by omega)) _
theorem Qk0 (w:World) (b:Nat) (O:Nat->Prop) (s:PSt) (k:Int) (h:Qn w b O s) :
 Calls prog 218 #[Pv b 0,Iv k] w fun e w'=>e=.returned (.bool (s.took k))/\Qn w' b (Q1 O w w') (s.give k)/\Qz O (Q1 O w w') w w':=by
 have C:Hid (Calls prog 253 #[Pv b 0,Iv k] w fun e w'=>e=.returned (.bool (s.took k))/\w'=w):=QfD w b O s k h
 cases ht:s.took k with
 | false =>
   rw[ht] at C
   have E:Hid (s.give k=s):=by show _=_;simp[PSt.give,ht]
   have H:Hid (Qn w b O s):=h;clear h ht;go_enter func218,ntmps218
   go_wp2_with (go_at_call 253;refine(C.out).mono ?_;rintro e w' ⟨rfl,rfl⟩)
   go_ret;refine⟨Z,?_,?_⟩
   ·rw[E.out]
    obtain⟨Q,n,I,t,x,p,F,q,A,v⟩:=H.out
    exact⟨Q,n,I,t,x,p.keep (fun _ _=>rfl) (fun g y=>⟨Or.inl (p.2 g y),p.lt y⟩),⟨Or.inl F,XC t⟩,⟨Or.inl q,x.lt⟩,A,v⟩
   ·exact⟨Z,Z,Z,Ze,fun _ _ _=>rfl,fun k W=>W.1⟩
 | true =>
   rw[ht] at C
   have j:=PSt.ok_give h.ok k;have E:Hid (s.give k={ s with given:=s.given++[k] }):=by show _=_;simp[PSt.give,ht]
   have u:=h.ok.len;have S:=h.ok.most;have V:=h.ok.high;obtain⟨Q,n,I,t,x,p,F,q,A,v⟩:=h
   have R:w.cell? ⟨b,1,none⟩=some I:=Qb t 1 _ Z;obtain⟨a,r,rfl,_,_⟩:=p.form
   have l:=p.1;obtain⟨T,U,G,K,B⟩:=info_parts info_int
   have P:Hid (∀ g c d,d.ownsRow 0 3 1 (.slice (some ⟨g,0,none⟩) (s.given.length+1) c) (s.given.length+1) (s.given.map (Value.int .i64)++[Iv k]) ->
    (w.alloc (.cells #[Iv k] 3)).grownBy d (Value.slice a s.given.length r).ownBlock->((Value.slice a s.given.length r).ownBlock=some g\/g=w.heap.size+1)->g<d.heap.size ->
    d.cell? ⟨b,1,none⟩=some (.slice a s.given.length r)/\d.frozen? ⟨b,1,none⟩=false/\Qn (d.setCell ⟨b,1,none⟩ (.slice (some ⟨g,0,none⟩) (s.given.length+1) c)) b (Q1 O w d) (s.give k) /\
    Qz O (Q1 O w d) w (d.setCell ⟨b,1,none⟩ (.slice (some ⟨g,0,none⟩) (s.given.length+1) c))):=by
    intro g c d z f o m;rw[E.out]
    exact QhQ t x p F q A (by rw[E.out] at j;exact j) z f o m
   obtain⟨i,N⟩:∃ i,s.given.length=i:=⟨_,Z⟩
   rw[N] at R l u P
   clear t x p A N j ht E;go_enter func218,ntmps218
   go_wp2_with (first
    | (go_at_call 253;refine(C.out).mono ?_;rintro e w' ⟨rfl,J⟩;have J:=J.symm;subst J)
    | (at_builtin;refine wpList_append_lies _ Z (.tmp 13) (.tmp 15) 76 Z 0 3 T (.int .i64 0) 1 8 under_ints U G K B Z (by decide) _ _ _ Z (l.alloc _) ⟨w.heap.size,0,none⟩ 1 1 [.int .i64 k] Z Z (Qgz _ _ _) (Qdc _) (by decide) (by unfold maxLen;omega) (by omega) (Xb _) (w.heap.size+1) (by simp) ?_))
   intro g c d z f o m;obtain⟨X,d2,L,M⟩:=P.out g c d z f o m
   have D:Hid (Qn (d.setCell ⟨b,1,none⟩ (.slice (some ⟨g,0,none⟩) (i+1) c)) b (Q1 O w d) (s.give k)/\Qz O (Q1 O w d) w (d.setCell ⟨b,1,none⟩ (.slice (some ⟨g,0,none⟩) (i+1) c))):=⟨L,M⟩;clear L M z f o m l P;go_wp2
   go_ret;refine⟨Z,?_,?_⟩
   ·have e:Q1 O w (d.setCell ⟨b,1,none⟩ (.slice (some ⟨g,0,none⟩) (i+1) c))=Q1 O w d:=by unfold Q1;simp
    rw[e];exact D.out.1
   ·have e:Q1 O w (d.setCell ⟨b,1,none⟩ (.slice (some ⟨g,0,none⟩) (i+1) c))=Q1 O w d:=by unfold Q1;simp
    rw[e];exact D.out.2
theorem Xy:type_of% @bodyPost_ret:=@bodyPost_ret
theorem Qn.step {P P':Nat->Prop}{s:PSt}(h:Qn w b O s) (k:Qz P P' w w') (c:∀ x,O x->¬ P x):Qn w' b O s:=by
 obtain⟨d,n,m,l,g,i,f,a,j,e⟩:=h
 exact⟨d,n,m,k.keep l (c b f),g.of_block (k.block d g.lt (c d a)),i.step k c,f,a,j,e⟩
theorem Qz.of_alloc (P:Nat->Prop) (w:World) (o:Obj):Qz P P w (w.alloc o):=(Qz.refl P w).alloc o
theorem QmJ (w:World) (n:Int) (h:n<0\/64<n) :
 Calls prog 109 #[Iv n] w fun e w'=>e=.returned (.tuple #[.pointer none,.agg #[Iv 1,Iv (-1)]])/\Below w.heap.size w w':=by
 rcases h with h | h
 ·go_enter func109,ntmps109
  go_wp2
  exact Xy (v:=.tuple #[.pointer none,.agg #[Iv 1,Iv (-1)]]) (by simp[results,results109,go_sem]) Z ⟨Z,(Zr.alloc Ze _)⟩
 ·have a:¬ n<0:=by omega
  go_enter func109,ntmps109
  go_wp2
  exact Xy (v:=.tuple #[.pointer none,.agg #[Iv 1,Iv (-1)]]) (by simp[results,results109,go_sem]) Z ⟨Z,(Zr.alloc Ze _)⟩
theorem Qkn (w:World) (n:Nat) (h:n<=64) (o:Obj):Qn (((w.alloc o).alloc (.cells (madeCells #[Iv 0] (n*16)) 2)).alloc (.cells #[.slice (some ⟨w.heap.size+1,0,none⟩) (n*16) (n*16),Nv,Iv 0] 134)) (w.heap.size+1+1)
 (fun x=>w.heap.size<=x/\x<(((w.alloc o).alloc (.cells (madeCells #[Iv 0] (n*16)) 2)).alloc (.cells #[.slice (some ⟨w.heap.size+1,0,none⟩) (n*16) (n*16),Nv,Iv 0] 134)).heap.size) (PSt.new n):=by
 refine⟨w.heap.size+1,n*16,Nv,?_,?_,Row.nil _ _ _,by simp<;>omega,by simp<;>omega,by simp[PSt.new]<;>omega,PSt.ok_new n h⟩
 ·have:=Qe ((w.alloc o).alloc (.cells (madeCells #[Iv 0] (n*16)) 2)) #[.slice (some ⟨w.heap.size+1,0,none⟩) (n*16) (n*16),Nv,Iv 0] 134
  simp only[World.size_alloc] at this
  exact this
 ·have:=(World.rowIs_made (w.alloc o) (Iv 0) (n*16) 2).alloc (.cells #[.slice (some ⟨w.heap.size+1,0,none⟩) (n*16) (n*16),Nv,Iv 0] 134)
  simp only[World.size_alloc] at this
  exact this
theorem QlC (w:World) (n:Nat) (h:n<=64) :
 Calls prog 109 #[Iv n] w fun e w'=>∃ b,e=.returned (.tuple #[Pv b 0,.agg #[Iv 0,Iv 0]])/\Qn w' b (fun x=>w.heap.size<=x/\x<w'.heap.size) (PSt.new n)/\Below w.heap.size w w':=by
 have a:=run_make_row' (P:=prog) 25 2 (Iv 0) 8 under_int64s info_int64 Z .i64 .i64 (n*16) (by omega) (by omega);rw[show ((n*16:Nat):Int)=(n:Int)*16 by omega] at a
 go_enter func109,ntmps109
 go_wp2
 exact Xy (v:=.tuple #[Pv (w.heap.size+1+1) 0,.agg #[Iv 0,Iv 0]]) (by simp[results,results109,go_sem]) Z
  ⟨_,Z,Qkn w n h _,((Zr.alloc Ze _).alloc (by simp) _).alloc (by simp;omega) _⟩
def QaJ (w:World) (g:Nat) (O:Nat->Prop) (r:Reg):Prop :=
 ∃ v,w.heap[g]?=some (.cells #[v,Iv r.left] 285 (0,0))/\Row w O 3 v r.pages/\O g
theorem QaJ.step {w w':World}{g:Nat}{O P P':Nat->Prop}{r:Reg}(h:QaJ w g O r) (k:Qz P P' w w') (b:∀ x,O x->¬ P x):QaJ w' g O r:=by
 obtain⟨v,d,c,a⟩:=h
 exact⟨v,k.keep d (b g a),c.step k b,a⟩
theorem Row.mono {w:World}{O O':Nat->Prop}(h:Row w O t v xs) (b:∀ x,O x->x<w.heap.size->O' x):Row w O' t v xs:=⟨h.1,fun g a=>b g (h.2 g a) (h.lt a)⟩
theorem QaJ.mono {w:World}{g:Nat}{O O':Nat->Prop}{r:Reg}(h:QaJ w g O r) (a:∀ x,O x->x<w.heap.size->O' x):QaJ w g O' r:=by
 obtain⟨v,b,d,c⟩:=h
 exact⟨v,b,d.mono a,a g c (XC b)⟩
theorem Qn.mono {w:World}{b:Nat}{O O':Nat->Prop}{s:PSt}(h:Qn w b O s) (c:∀ x,O x->x<w.heap.size->O' x):Qn w b O' s:=by
 obtain⟨f,n,l,e,g,j,i,a,k,d⟩:=h
 exact⟨f,n,l,e,g,j.mono c,c b i (XC e),c f a g.lt,k,d⟩
def QaS (o:Option Reg) (g:Nat):Value:=.pointer (match o with | some _=>some ⟨g,0,none⟩ | none=>none)
def Qmc (bp:Nat) (reg:Nat->Option Reg) (g:Nat->Nat):Nat->Value:=fun i=>if i=0 then Pv bp 0 else QaS (reg (i - 1)) (g (i - 1))
structure Zw (w:World) (b:Nat) (O:Nat->Prop) (e:Est) (L:Nat->Nat) (bp:Nat) (g:Nat->Nat):Prop where
 row:w.rowIs b 73 17 (Qmc bp e.reg g)
 own:L b=1
 pool:Qn w bp (fun x=>L x=2) e.p
 reg:∀ k r,e.reg k=some r->QaJ w (g k) (fun x=>L x=k+3) r
 all:∀ x,L x≠0->O x/\x<w.heap.size
def QV (w:World) (b bp:Nat) (O:Nat->Prop) (e:Est):Prop:=∃ L g,Zw w b O e L bp g
def Qdt (w:World) (b bp:Nat) (O:Nat->Prop) (e:Est):Prop:=QV w b bp O e/\e.Ok
def QbT (L:Nat->Nat) (c:Nat) (w w':World):Nat->Nat:=fun x=>if L x=c\/(w.heap.size<=x/\x<w'.heap.size) then c else L x
section
variable {w w':World}{b bp:Nat}{O O':Nat->Prop}{e:Est}{L:Nat->Nat}{g:Nat->Nat}{c:Nat}
theorem Zj (e:∀ x,L x≠0->O x/\x<w.heap.size)(a:d≠c) (f:d≠0) (x:Nat):QbT L c w w' x=d↔L x=d:=by
 unfold QbT;constructor
 ·intro h;split at h
  ·exact absurd h.symm a
  ·exact h
 ·intro h;rw[Xr]
  ·exact h
  ·rintro (b | b)
   ·omega
   ·have:=(e x (by omega)).2;omega
theorem QeL (d:∀ x,L x≠0->O x/\x<w.heap.size) (k:Qz (fun x=>L x=c) O' w w') (x:Nat) (b:O' x) (a:x<w'.heap.size):QbT L c w w' x=c:=by
 unfold QbT;rw[Xs]
 rcases k.own x b with h | h
 ·exact Or.inl h
 ·exact Or.inr ⟨h,a⟩
theorem QcZ (d:∀ x,L x≠0->O x/\x<w.heap.size) (f:c≠0) (e:w.heap.size<=w'.heap.size) (x:Nat) (b:QbT L c w w' x≠0):Q1 O w w' x/\x<w'.heap.size:=by
 have a:(O x\/w.heap.size<=x)/\x<w'.heap.size:=by
  unfold QbT at b;split at b
  ·rename_i h
   rcases h with h | h
   ·have:=d x (by omega);exact⟨Or.inl this.1,by omega⟩
   ·exact⟨Or.inr h.1,h.2⟩
  ·have:=d x b;exact⟨Or.inl this.1,by omega⟩
 exact⟨a,a.2⟩
theorem QcV (d:∀ x,L x≠0->O x/\x<w.heap.size) (e:c≠0) (k:Qz (fun x=>L x=c) O' w w'):Qz O (Q1 O w w') w w' :=
 ⟨k.os,k.tape,k.output,k.size,fun x a b=>k.block x a (fun h=>b (d x (by show L x≠0;rw[h];exact e)).1),fun x a=>a.1⟩
theorem Zw.stepPool (h:Zw w b O e L bp g){d:PSt}(i:Qn w' bp O' d) (a:Qz (fun x=>L x=2) O' w w') :
 Zw w' b (Q1 O w w') (e.withP d) (QbT L 2 w w') bp g/\Qz O (Q1 O w w') w w':=by
 refine⟨⟨?_,?_,?_,?_,?_⟩,QcV h.all (by decide) a⟩
 ·exact h.row.of_block (a.block b h.row.lt (by rw[h.own];decide))
 ·exact(Zj h.all (by decide) (by decide) b).2 h.own
 ·exact i.mono (fun x c f=>QeL h.all a x c f)
 ·intro k r j;exact((h.reg k r j).step a (fun x l m=>by omega)).mono (fun x c _=>(Zj h.all (by omega) (by omega) x).2 c)
 ·exact QcZ h.all (by decide) a.size
theorem Zw.stepReg (h:Zw w b O e L bp g){r r':Reg}(p:e.reg j=some r) (s:QaJ w' (g j) O' r') (a:Qz (fun x=>L x=j+3) O' w w') :
 Zw w' b (Q1 O w w') (e.set j (some r')) (QbT L (j+3) w w') bp g/\Qz O (Q1 O w w') w w':=by
 refine⟨⟨?_,?_,?_,?_,?_⟩,QcV h.all (by omega) a⟩
 ·refine(h.row.of_block (a.block b h.row.lt (by rw[h.own];omega))).congr fun i u=>?_
  unfold Qmc QaS Est.set;by_cases l:i=0
  ·simp[l]
  ·by_cases d:i - 1=j
   ·simp[l,d,p]
   ·simp[l,d]
 ·exact(Zj h.all (by omega) (by decide) b).2 h.own
 ·exact(h.pool.step a (fun x o t=>by omega)).mono (fun x c _=>(Zj h.all (by omega) (by decide) x).2 c)
 ·intro k q m;by_cases d:k=j
  ·subst d
   have:q=r':=by simpa[Est.set] using m.symm
   subst this;exact s.mono (fun x c n=>QeL h.all a x c n)
  ·have f:e.reg k=some q:=by simpa[Est.set,d] using m
   exact((h.reg k q f).step a (fun x o t=>by omega)).mono (fun x c _=>(Zj h.all (by omega) (by omega) x).2 c)
 ·exact QcZ h.all (by omega) a.size
end
theorem QV.step {w w':World}{b d:Nat}{O P P':Nat->Prop}{e:Est}(h:QV w b d O e) (k:Qz P P' w w') (f:∀ x,O x->¬ P x):QV w' b d O e:=by
 obtain⟨L,g,h⟩:=h
 have c:∀ x,L x≠0->¬ P x:=fun x a=>f x (h.all x a).1;refine⟨L,g,⟨?_,h.own,?_,?_,?_⟩⟩
 ·exact h.row.of_block (k.block b h.row.lt (c b (by rw[h.own];decide)))
 ·exact h.pool.step k (fun x a=>c x (by omega))
 ·exact fun j r i=>(h.reg j r i).step k (fun x a=>c x (by omega))
 ·intro x a
  have:=h.all x a
  have:=k.size
  exact⟨this |> fun _=>(h.all x a).1,by omega⟩
theorem Qdt.step {w w':World}{b a:Nat}{O P P':Nat->Prop}{e:Est}(h:Qdt w b a O e) (k:Qz P P' w w') (c:∀ x,O x->¬ P x):Qdt w' b a O e:=⟨h.1.step k c,h.2⟩
theorem QV.mono {w:World}{b c:Nat}{O O':Nat->Prop}{e:Est}(h:QV w b c O e) (d:∀ x,O x->x<w.heap.size->O' x):QV w b c O' e:=by
 obtain⟨L,g,h⟩:=h
 exact⟨L,g,⟨h.row,h.own,h.pool,h.reg,fun x a=>⟨d x (h.all x a).1 (h.all x a).2,(h.all x a).2⟩⟩⟩
theorem Qb8 {O:Nat->Prop}{w w' a:World}(d:w.heap.size<=w'.heap.size) (x:Nat) (h:Q1 (Q1 O w w') w' a x):Q1 O w a x:=by
 obtain⟨b,c⟩:=h
 refine⟨?_,c⟩
 rcases b with b | b
 ·exact b.1
 ·exact Or.inr (by omega)
theorem QeC {O:Nat->Prop}{w:World}(x:Nat) (h:O x) (a:x<w.heap.size):Q1 O w w x:=⟨Or.inl h,a⟩
theorem Qz.trans_grow {O:Nat->Prop}{a b c:World}(h:Qz O (Q1 O a b) a b) (k:Qz (Q1 O a b) (Q1 (Q1 O a b) b c) b c):Qz O (Q1 O a c) a c :=
 ⟨k.os.trans h.os,k.tape.trans h.tape,k.output.trans h.output,Zt h.size k.size,(h.trans k).block,fun x d=>d.1⟩
theorem Qz.refl_grow (O:Nat->Prop) (w:World):Qz O (Q1 O w w) w w:=⟨Z,Z,Z,Ze,fun _ _ _=>rfl,fun _ h=>h.1⟩
theorem Qc {p:Prop}(h:p):Hid p:=h
theorem ZQ {z:Nat}{xs:List Value}(h:w.ownsRow 0 e z v n xs){x:Nat}(b:v.ownBlock=some x):∃ c,w.heap[x]?=some (.cells c e (0,0)):=by
 rcases h.2 with ⟨rfl,_⟩|⟨g,d,a,rfl,_,f,_⟩
 ·simp[Value.ownBlock] at b
 ·simp[Value.ownBlock] at b;subst b;exact⟨a,f⟩
theorem QY {z:Nat}{xs:List Value}(h:w.ownsRow 0 e z v n xs) (i:∀ x,v.ownBlock=some x->w'.heap[x]?=w.heap[x]?):w'.ownsRow 0 e z v n xs:=by
 refine⟨h.1,?_⟩
 rcases h.2 with d | ⟨g,b,a,rfl,f,c,r⟩
 ·exact .inl d
 ·exact .inr ⟨g,b,a,Z,f,(i g Z).trans c,r⟩
theorem ZP (w:World) (o:Obj):Below w.heap.size w (w.alloc o):=(Below.refl _ w).alloc Ze _
theorem Qag (h:Below B w w1) (n:Nat):Below B w (w1.drewN n):=⟨h.os,h.tape,h.output,h.size,h.block⟩
theorem Qj6 (w:World) (o a:Obj):Below w.heap.size w ((w.alloc o).alloc a):=(ZP w o).alloc (by simp) _
theorem QnJ (w:World) (c:Array Value) (t:TypeId) (a:Obj):((w.alloc (.cells c t)).alloc a).heap[w.heap.size]?=some (.cells c t (0,0)):=by
 rw[Below.heap_alloc _ _ _ (by simp)];exact Qe w c t
theorem QmO (w:World) (o:Obj) (c:Array Value) (t:TypeId):((w.alloc o).alloc (.cells c t)).heap[w.heap.size+1]?=some (.cells c t (0,0)):=by
 have:=Qe (w.alloc o) c t
 simpa using this
theorem QaY {wr:World}{c:Array Value}{a:TypeId}(h:wr.heap[B]?=some (.cells c a (0,0))) (b:Below wr.heap.size wr w):w.heap[B]?=some (.cells c a (0,0)) :=
 (b.block B (XC h)).trans h
abbrev Blk (w:World) (B:Nat) (c:Array Value) (t:TypeId):Prop:=w.heap[B]?=some (.cells c t (0,0))
theorem Blk.below {c:Array Value}(h:Blk w B c t) (b:Below w.heap.size w w'):Blk w' B c t:=QaY h b
theorem Blk.alloc {c:Array Value}(h:Blk w B c t) (o:Obj):Blk (w.alloc o) B c t:=QaY h ((Below.refl _ w).alloc Ze _)
theorem Blk.new (w:World) (c:Array Value) (t:TypeId):Blk (w.alloc (.cells c t)) w.heap.size c t:=Qe w c t
theorem Blk.lt {c:Array Value}(h:Blk w B c t):B<w.heap.size:=XC h
theorem Zd (w:World) (o:Obj):Below w.heap.size w (w.alloc o):=(Below.refl _ w).alloc Ze _
theorem QhA (w:World) (o p:Obj):Below w.heap.size w ((w.alloc o).alloc p):=(Zd w o).alloc (by simp) _
theorem Blk.new1 (w:World) (c d:Array Value) (t u:TypeId):Blk ((w.alloc (.cells c t)).alloc (.cells d u)) w.heap.size c t:=(Blk.new w c t).alloc _
theorem Blk.new2 (w:World) (o:Obj) (d:Array Value) (u:TypeId):Blk ((w.alloc o).alloc (.cells d u)) (w.heap.size+1) d u:=by
 have:=Blk.new (w.alloc o) d u
 simpa using this
abbrev Qfq (b:Nat):Value:=Pv b 0
abbrev Chg (b:Nat) (w w':World):Prop:=Qz (fun k=>k=b) (fun k=>k=b) w w'
section
variable {b:Nat}{w w' w1 w2:World}
theorem Chg.refl (b:Nat) (w:World):Chg b w w:=Qz.refl _ _
theorem Chg.below (h:Below w.heap.size w w'):Chg b w w':=⟨h.os,h.tape,h.output,h.size,fun k a _=>h.block k a,fun k a=>.inl a⟩
theorem Chg.set (w:World) (o:Nat) (v:Value) (h:b<w.heap.size):Chg b w (w.setCell ⟨b,o,none⟩ v) :=
 ⟨Z,Z,Z,by simp,fun k _ a=>Xd _ _ _ _ a,fun k a=>.inl a⟩
theorem Chg.last (h:Below s w w1) (c:Chg b w1 w2) (e:s<=b) (d:s<=w1.heap.size):Below s w w2 :=
 ⟨c.os.trans h.os,c.tape.trans h.tape,c.output.trans h.output,Zt h.size c.size,fun k a=>(c.block k (by omega) (by omega)).trans (h.block k a)⟩
end
theorem Blk.chg {w w':World}{b:Nat}{c:Array Value}(h:Blk w B c t) (k:Chg b w w') (a:B≠b):Blk w' B c t:=(k.block B h.lt a).trans h
theorem Chg.allocP {b:Nat}{w w':World}(c:Chg b w w') (o:Obj):Chg b w (w'.alloc o):=c.trans (Chg.below (Zd _ _))
theorem Chg.grownP {b:Nat}{w w1 f:World}{a:Option Nat}(c:Chg b w w1) (g:w1.grownBy f a) (i:∀ k,a=some k->w.heap.size<=k):Chg b w f :=
 ⟨g.os.trans c.os,g.tape.trans c.tape,g.output.trans c.output,Zt c.size g.size,fun k d h=>(g.block k (Zl d c.size) (fun e=>by have:=i k e.symm;omega)).trans (c.block k d h),fun k d=>.inl d⟩
theorem Qao.formP {α:Type}{A:Lay α}{w:World}{lo:Nat}{l:List α}{xs:List Value}(h:Qao A t w lo v l xs):∃ a c,v=.slice a l.length c:=by
 obtain⟨a,c,e,_⟩:=h.lay
 simp at e
 exact⟨a,c,e⟩
theorem pUnderI:prog.underlying 76=some (.slice 3):=by kernel_rfl
theorem pInfoI0:(prog.info? 3).map (fun i=>(i.zero,i.size,i.bytes))=some (some (Iv 0),1,8):=by kernel_rfl
theorem pInfoI:∃ i,prog.info? 3=some i/\i.zero=some (Iv 0)/\i.size=1/\i.bytes=8:=by
 have h:=pInfoI0
 cases e:prog.info? 3 with
 | none=>rw[e] at h;cases h
 | some i =>
   rw[e] at h
   simp only[Option.map_some,Option.some.injEq,Prod.mk.injEq] at h
   exact⟨i,Z,h.1,h.2.1,h.2.2⟩
theorem pUnderT:prog.underlying 80=some (.slice 105):=by kernel_rfl
theorem pInfoT0:(prog.info? 105).map (fun i=>(i.zero,i.size,i.bytes))=some (some (.agg #[Iv 0,Iv 0,Nv]),3,40):=by kernel_rfl
theorem pInfoT:∃ i,prog.info? 105=some i/\i.zero=some (.agg #[Iv 0,Iv 0,Nv])/\i.size=3/\i.bytes=40:=by
 have h:=pInfoT0
 cases e:prog.info? 105 with
 | none=>rw[e] at h;cases h
 | some i =>
   rw[e] at h
   simp only[Option.map_some,Option.some.injEq,Prod.mk.injEq] at h
   exact⟨i,Z,h.1,h.2.1,h.2.2⟩
theorem Qk3 (w:World) (c:List Value) (t:TypeId):∀ (j:Nat) (u:Value),c[j]?=some u->(w.alloc (.cells c.toArray t)).cell? ((⟨w.heap.size,0,none⟩:Addr).add j)=some u:=by
 intro j u h;have a:c.toArray[j]?=some u:=by simpa using h
 rw[Go.WideShapes.add_plain,XK]
 exact Qb (Qe w c.toArray t) j u a
theorem Qm9 (n:Int):∀ u∈[Value.int .i64 n],u.oneCell'=true:=by
 intro u h;simp at h
 subst h;rfl
theorem Qlu (k r:Int) (a:Option Addr) (l c:Nat):∀ u∈[Value.int .i64 k,Value.int .i64 r,Value.slice a l c],u.oneCell'=true:=by
 intro u h;simp at h
 rcases h with rfl | rfl | rfl<;>rfl
theorem Blk.set3 {w:World}{f p1 e:Value}(h:Blk w R #[f,p1,e] t) (a b c:Value):Blk (((w.setCell ⟨R,0,none⟩ a).setCell ⟨R,1,none⟩ b).setCell ⟨R,2,none⟩ c) R #[a,b,c] t:=by
 have d:=Qh (Qh (Qh h 0 a) 1 b) 2 c;simpa using d
theorem Blk.sets {R:Nat}{T:TypeId}:∀ (vs us zs:List Value) (w:World),vs.length=zs.length->Blk w R (us++zs).toArray T->Blk (w.setCells R us.length vs) R (us++vs).toArray T
 | [],us,zs,w,hl,h=>by
   have:zs=[]:=Xf.1 hl.symm
   subst this;exact h
 | v::vs,us,zs,w,hl,h=>by
   cases zs with
   | nil=>simp at hl
   | cons z zs =>
     have a:=Qh h us.length v
     have b:((us++z::zs).toArray.setIfInBounds us.length v)=((us++[v])++zs).toArray:=by
      apply Array.ext'
      simp[List.set_append]
     rw[b] at a
     have:=Blk.sets vs (us++[v]) zs (w.setCell ⟨R,us.length,none⟩ v) (by simpa using hl) a
     simpa[World.setCells] using this
theorem Qlh {w:World}{b p1 a:Value}(h:Blk w B #[b,p1,a] t):w.cell? ⟨B,0,none⟩=some b/\w.cell? ⟨B,1,none⟩=some p1/\w.cell? ⟨B,2,none⟩=some a:=⟨Qb h 0 _ Z,Qb h 1 _ Z,Qb h 2 _ Z⟩
theorem QmD {w:World}{c p1 a b:Value}(h:Blk w B #[c,p1,a,b] t):w.cell? ⟨B,0,none⟩=some c/\w.cell? ⟨B,1,none⟩=some p1/\w.cell? ⟨B,2,none⟩=some a/\w.cell? ⟨B,3,none⟩=some b:=⟨Qb h 0 _ Z,Qb h 1 _ Z,Qb h 2 _ Z,Qb h 3 _ Z⟩
theorem pSizeN:(prog.info? 78).map (·.size)=some 8:=by kernel_rfl
theorem Blk.range {w:World}{T:TypeId}{c:List Value}(h:Blk w g c.toArray T):w.rangeAt g 0 c:=fun j v a=>by
 rw[XK]
 exact Qb h j v (by simpa using a)
theorem Blk.there {w:World}{T:TypeId}{o:Nat}{c:Array Value}(h:Blk w g c T) (a:o+n<=c.size):w.there g o n:=fun j b =>
 ⟨by rw[Qb h (o+j) _ (Xj (by omega))];rfl,Qj h (o+j)⟩
theorem pSizeB:(prog.info? 86).map (·.size)=some 12:=by kernel_rfl
theorem pUnderB:prog.underlying 87=some (.slice 86):=by kernel_rfl
theorem pInfoB0:(prog.info? 86).map (fun i=>(i.zero,i.size,i.bytes))=some (some (.agg #[Iv 0,Nv,Nv,Iv 0,Iv 0,Iv 0,Nv,Nv,Iv 0,Nv,Nv,Nv]),12,208):=by kernel_rfl
theorem pInfoB:∃ i,prog.info? 86=some i/\i.zero=some (.agg #[Iv 0,Nv,Nv,Iv 0,Iv 0,Iv 0,Nv,Nv,Iv 0,Nv,Nv,Nv])/\i.size=12/\i.bytes=208:=by
 have h:=pInfoB0
 cases e:prog.info? 86 with
 | none=>rw[e] at h;cases h
 | some i =>
   rw[e] at h
   simp only[Option.map_some,Option.some.injEq,Prod.mk.injEq] at h
   exact⟨i,Z,h.1,h.2.1,h.2.2⟩
theorem pUnderF:prog.underlying 22=some (.slice 89):=by kernel_rfl
theorem pInfoF0:(prog.info? 89).map (fun i=>(i.zero,i.size,i.bytes))=some (some (.agg #[Iv 0,Nv,Nv,Nv]),4,80):=by kernel_rfl
theorem pInfoF:∃ i,prog.info? 89=some i/\i.zero=some (.agg #[Iv 0,Nv,Nv,Nv])/\i.size=4/\i.bytes=80:=by
 have h:=pInfoF0
 cases e:prog.info? 89 with
 | none=>rw[e] at h;cases h
 | some i =>
   rw[e] at h
   simp only[Option.map_some,Option.some.injEq,Prod.mk.injEq] at h
   exact⟨i,Z,h.1,h.2.1,h.2.2⟩
def QnL (K:Act->World->Prop) (Q:Exit->Act->World->Prop) (o:Oper) (a:Act):Ending->World->Prop
 | .returned u,w=>K (a.put o.dst u) w
 | .panicked chain,w=>Q (.panic chain) a w
 | .outgrown,_=>LetsOut Q
def Qah (F:Nat):Prop:=∀ (args:Array Value) (w:World),(callFunc F args).run prog w=.ok (.enter F args) w
structure WB where
 c:Nat
 v:Value
structure WG where
 ow:Nat->Nat
 be:Nat
 bp:Nat
 pm:Option Addr
 cm:Nat
 pi:Option Addr
 ci:Nat
 vc:Value
 vb:Value
 vo:Value
 t:WB
 fs:List WB
 lo:Nat
 lk:Nat
def QbE (w:World) (v:Value) (l:List Int):Prop:=w.ownsRow 0 2 1 v l.length (l.map (Value.int .i64))
def WIn (w:World) (O:Nat->Prop) (l:List Int) (v:Value):Prop:=∃ p c,v=.slice p l.length c/\∀ i,i<l.length->∃ k o,p=some ⟨k,o,none⟩/\O k/\k<w.heap.size/\w.cell? ⟨k,o+i,none⟩=some (Iv (l.getD i 0))
theorem WIn.keep {w w':World}(q:∀ k,O k->k<w.heap.size->w'.heap[k]?=w.heap[k]?) (n:∀ k,O k->k<w.heap.size->O' k) (h:WIn w O l v):WIn w' O' l v:=by
 obtain⟨p,c,e,h⟩:=h
 refine⟨p,c,e,fun i m=>?_⟩
 obtain⟨k,o,r,g,d,j⟩:=h i m
 have b:=q k g d;refine⟨k,o,r,n k g d,?_,(XU (w:=w) (a:=⟨k,o+i,none⟩) b).trans j⟩
 rcases Nat.lt_or_ge k w'.heap.size with f | f
 ·exact f
 ·rw[Array.getElem?_eq_none f,Xj d] at b;cases b
theorem QbE.lin {w:World}(h:QbE w v l) (m:∀ x,v.ownBlock=some x->O x):WIn w O l v:=by
 rcases h.2 with ⟨e,g⟩|⟨k,b,f,e,_,c,o,n,p,j⟩
 ·refine⟨none,0,by rw[e,g],fun i a=>by omega⟩
 ·refine⟨_,b,e,fun i a=>⟨k,0,Z,m k (by rw[e];rfl),XC c,?_⟩⟩
  rw[XK]
  have d:(l.map (Value.int .i64))[i]?=some (Iv (l.getD i 0)):=by rw[XS,Zg a];simp[List.getD,a]
  rw[<-j,XR,Xs (by omega),Array.getElem?_toList] at d
  exact Qb c _ _ d
abbrev frA (fr:RFr) (v:Value):Array Value:=#[Iv fr.f,Iv fr.b,Iv fr.i,v]
def WFr (w:World) (c:Nat) (fr:RFr) (v:Value):Prop:=w.heap[c]?=some (.cells (frA fr v) 132 (0,0))/\QbE w v fr.v
def Qjh (w:World) (ow:Nat->Nat):List WB->List RFr->Prop
 | [],[]=>True
 | x::xs,fr::frs=>(WFr w x.c fr x.v/\ow x.c=5+2*frs.length/\∀ k,x.v.ownBlock=some k->ow k=6+2*frs.length)/\Qjh w ow xs frs
 | _,_=>False
section
variable {w w':World}{ow ow':Nat->Nat}
theorem QbE.lt (h:QbE w v l){x:Nat}(a:v.ownBlock=some x):x<w.heap.size:=XC (ZQ h a).choose_spec
theorem WFr.keep {fr:RFr}(h:WFr w c fr v) (b:w'.heap[c]?=w.heap[c]?) (a:∀ x,v.ownBlock=some x->w'.heap[x]?=w.heap[x]?):WFr w' c fr v:=⟨b.trans h.1,QY h.2 a⟩
theorem WFr.below {fr:RFr}(h:WFr w c fr v) (b:Below w.heap.size w w'):WFr w' c fr v:=h.keep (b.block c (XC h.1)) (fun x a=>b.block x (h.2.lt a))
theorem Qjh.len:∀ {xs:List WB}{frs:List RFr},Qjh w ow xs frs->xs.length=frs.length
 | [],[],_=>rfl
 | [],_::_,h=>h.elim
 | x::xs,[],h=>h.elim
 | x::xs,fr::frs,h=>by simp[Qjh.len h.2]
theorem Qjh.keep (d:∀ x,x<w.heap.size->ow' x=ow x):∀ {xs:List WB}{frs:List RFr},Qjh w ow xs frs->(∀ x,x<w.heap.size->5<=ow x->ow x<5+2*frs.length->w'.heap[x]?=w.heap[x]?)->Qjh w' ow' xs frs
 | [],[],_,_=>trivial
 | [],_::_,h,_=>h.elim
 | x::xs,[],h,_=>h.elim
 | x::xs,fr::frs,h,hb=>by
   obtain⟨⟨b,i,c⟩,g⟩:=h
   have e:=XC b.1;simp only[List.length_cons] at hb
   refine⟨⟨b.keep (hb _ e (by omega) (by omega)) (fun k a=>hb k (b.2.lt a) (by have:=c k a;omega) (by have:=c k a;omega)),(d _ e).trans i,fun k a=>(d k (b.2.lt a)).trans (c k a)⟩,Qjh.keep d g (fun k a f j=>hb k a f (by omega))⟩
end
abbrev QnP (most ml:Nat) (R:RM) (g:WG):Array Value :=
 #[Pv g.be 0,.slice g.pm ml g.cm,.slice g.pi R.inp.length g.ci,Iv most,g.vc,Iv R.fin,g.vb,g.vo,Iv R.fuel,.bool R.done]
abbrev Qaw (l:List WB):List Value:=l.reverse.map fun x=>Pv x.c 0
structure WAt (w:World) (b:Nat) (most:Nat) (m:List (MFunc 6)) (R:RM) (g:WG):Prop where
 box:w.heap[b]?=some (.cells (QnP most m.length R g) 68 (0,0))
 est:Qdt w g.be g.bp (fun x=>g.ow x=2) R.e
 mod:(QaM 6).In w (fun x=>g.ow x=0/\g.lk<=x/\x<b) m [.slice g.pm m.length g.cm]
 inp:intsL.In w (fun x=>g.ow x=0/\g.lk<=x/\x<b) R.inp [.slice g.pi R.inp.length g.ci]
 inpC:R.inp.length<=g.ci
 calls:w.ownsRow 0 130 1 g.vc (R.rest.length+1) (Qaw (g.t::g.fs))
 back:WIn w (fun x=>g.ow x=0/\g.lo<=x) R.back g.vb
 out:QbE w g.vo R.out
 frs:Qjh w g.ow (g.t::g.fs) (R.top::R.rest)
 ob:g.ow b=1
 oc:∀ x,g.vc.ownBlock=some x->g.ow x=3
 oo:∀ x,g.vo.ownBlock=some x->g.ow x=4
 lt:∀ x,g.ow x≠0->x<w.heap.size
 low:g.lo<=w.heap.size
abbrev WG.A (g:WG) (x:Nat):Prop:=g.ow x≠0
structure WSt (g g':WG) (w w':World):Prop extends Qz g.A g'.A w w' where
 lo:g'.lo=g.lo
 lk:g'.lk=g.lk
theorem WSt.trans {g e d:WG}{a b c:World}(h:WSt g e a b) (k:WSt e d b c):WSt g d a c:=⟨h.1.trans k.1,k.lo.trans h.lo,k.lk.trans h.lk⟩
def WTo (g:WG) (w w':World) (b most:Nat) (m:List (MFunc 6)) (R:RM):Prop:=∃ g',WAt w' b most m R g'/\WSt g g' w w'/\g'.t.c=g.t.c/\g'.fs=g.fs
def WGo (g:WG) (w w':World) (b most:Nat) (m:List (MFunc 6)) (R:RM):Prop:=∃ g',WAt w' b most m R g'/\WSt g g' w w'
structure Wc (ow ow':Nat->Nat) (C:Nat->Prop) (w w':World):Prop where
 os:w'.os=w.os
 tape:w'.tape=w.tape
 output:w'.output=w.output
 size:w.heap.size<=w'.heap.size
 lab:∀ x,x<w.heap.size->ow' x=ow x
 keep:∀ x,x<w.heap.size->¬ C (ow x)->w'.heap[x]?=w.heap[x]?
 nil:¬ C 0
 lt:∀ x,ow' x≠0->x<w'.heap.size
section
variable {w w' w2:World}{b most:Nat}{m:List (MFunc 6)}{R R':RM}{g g1 g':WG}{C:Nat->Prop}{ow':Nat->Nat}
theorem Wc.step {ow:Nat->Nat}(h:Wc ow ow' C w w'):Qz (fun x=>ow x≠0) (fun x=>ow' x≠0) w w':=⟨h.os,h.tape,h.output,h.size,fun x b c=>h.keep x b (by rw[Xq.1 c];exact h.nil),fun x b=>by
 rcases Nat.lt_or_ge x w.heap.size with a | a
 ·exact .inl (by rw[<-h.lab x a];exact b)
 ·exact .inr a⟩
theorem WTo.go (h:WTo g w w' b most m R):WGo g w w' b most m R:=by obtain⟨c,a,s,_⟩:=h;exact⟨c,a,s⟩
theorem WTo.then (s:WSt g g1 w w') (f:g1.t.c=g.t.c) (i:g1.fs=g.fs) (h:WTo g1 w' w2 b most m R):WTo g w w2 b most m R:=by
 obtain⟨d,a,k,j,e⟩:=h
 exact⟨d,a,s.trans k,j.trans f,e.trans i⟩
theorem WGo.then (s:WSt g g1 w w') (h:WGo g1 w' w2 b most m R):WGo g w w2 b most m R:=by
 obtain⟨c,a,k⟩:=h
 exact⟨c,a,s.trans k⟩
section
variable (S:WAt w b most m R g) (kc:Wc g.ow ow' C w w')
include S kc
theorem WAt.kBox (h:¬ C 1):w'.heap[b]?=w.heap[b]?:=kc.keep b (XC S.box) (by rw[S.ob];exact h)
theorem WAt.kEst (h:¬ C 2):Qdt w' g.be g.bp (fun x=>ow' x=2) R.e:=by
 have b:=S.est.step (P:=fun x=>C (g.ow x)) (P':=fun _=>False) ⟨kc.os,kc.tape,kc.output,kc.size,fun x a c=>kc.keep x a c,fun _ h=>h.elim⟩ (fun x a d=>h (by have a:g.ow x=2:=a;rwa [a] at d));exact⟨b.1.mono (fun x a _=>(kc.lab x (S.lt x (by have a:g.ow x=2:=a;omega))).trans a),b.2⟩
theorem WAt.kMod:(QaM 6).In w' (fun x=>ow' x=0/\g.lk<=x/\x<b) m [.slice g.pm m.length g.cm]:=(QaM 6).keep (fun x a c=>kc.keep x c (by rw[a.1];exact kc.nil)) (fun x a c=>⟨(kc.lab x c).trans a.1,a.2⟩) S.mod
theorem WAt.kInp:intsL.In w' (fun x=>ow' x=0/\g.lk<=x/\x<b) R.inp [.slice g.pi R.inp.length g.ci]:=intsL.keep (fun x a c=>kc.keep x c (by rw[a.1];exact kc.nil)) (fun x a c=>⟨(kc.lab x c).trans a.1,a.2⟩) S.inp
theorem WAt.kBack:WIn w' (fun x=>ow' x=0/\g.lo<=x) R.back g.vb:=WIn.keep (fun x a b=>kc.keep x b (by rw[a.1];exact kc.nil)) (fun x a b=>⟨(kc.lab x b).trans a.1,a.2⟩) S.back
theorem WAt.kCalls (h:¬ C 3):w'.ownsRow 0 130 1 g.vc (R.rest.length+1) (Qaw (g.t::g.fs)):=QY S.calls (fun x a=>kc.keep x (XC (ZQ S.calls a).choose_spec) (by rw[S.oc x a];exact h))
theorem WAt.kOut (h:¬ C 4):QbE w' g.vo R.out:=QY S.out (fun x a=>kc.keep x (S.out.lt a) (by rw[S.oo x a];exact h))
theorem WAt.kFrs (h:∀ x,5<=x->¬ C x):Qjh w' ow' (g.t::g.fs) (R.top::R.rest):=S.frs.keep kc.lab (fun x a b _=>kc.keep x a (h _ b))
theorem WAt.kRest (h:∀ x,5<=x->x<5+2*R.rest.length->¬ C x):Qjh w' ow' g.fs R.rest:=S.frs.2.keep kc.lab (fun x a c b=>kc.keep x a (h _ c b))
theorem WAt.kob:ow' b=1:=(kc.lab b (XC S.box)).trans S.ob
theorem WAt.koc:∀ x,g.vc.ownBlock=some x->ow' x=3:=fun x a=>(kc.lab x (XC (ZQ S.calls a).choose_spec)).trans (S.oc x a)
theorem WAt.koo:∀ x,g.vo.ownBlock=some x->ow' x=4:=fun x a=>(kc.lab x (S.out.lt a)).trans (S.oo x a)
theorem WAt.klow:g.lo<=w'.heap.size:=Zt S.low kc.size
end
theorem Wc.below (S:WAt w b most m R g) (k:Below w.heap.size w w'):Wc g.ow g.ow (fun _=>False) w w':=⟨k.os,k.tape,k.output,k.size,fun _ _=>rfl,fun x a _=>k.block x a,fun h=>h,fun x a=>Zl (S.lt x a) k.size⟩
theorem WAt.below (S:WAt w b most m R g) (h:Below w.heap.size w w'):WAt w' b most m R g :=
 have k:=Wc.below S h;⟨(S.kBox k (fun h=>h)).trans S.box,S.kEst k (fun h=>h),S.kMod k,S.kInp k,S.inpC,S.kCalls k (fun h=>h),S.kBack k,S.kOut k (fun h=>h),S.kFrs k (fun _ _ h=>h),S.ob,S.oc,S.oo,k.lt,S.klow k⟩
theorem WAt.stepB (S:WAt w b most m R g) (k:Below w.heap.size w w'):WSt g g w w':=⟨(Wc.below S k).step,Z,Z⟩
theorem WTo.same (S:WAt w b most m R g) (k:Below w.heap.size w w'):WTo g w w' b most m R:=⟨g,S.below k,S.stepB k,Z,Z⟩
theorem WAt.top (S:WAt w b most m R g):WFr w g.t.c R.top g.t.v:=S.frs.1.1
theorem WAt.rows (S:WAt w b most m R g):g.fs.length=R.rest.length:=by have:=S.frs.len;simpa using this
def Qdd (ow:Nat->Nat) (c:Nat) (w w':World):Nat->Nat:=fun x=>if x<w.heap.size then ow x else if x<w'.heap.size then c else 0
theorem QaQ {ow:Nat->Nat}{x:Nat}(h:x<w.heap.size):Qdd ow c w w' x=ow x:=Xs h
theorem Qc5 {ow:Nat->Nat}{x:Nat}(h:w.heap.size<=x) (a:x<w'.heap.size):Qdd ow c w w' x=c:=by unfold Qdd;rw[Xr (by omega),Xs a]
theorem Wc.marks (S:WAt w b most m R g)(f:¬ C 0) (j:w'.os=w.os) (e:w'.tape=w.tape) (h:w'.output=w.output) (i:w.heap.size<=w'.heap.size) (d:∀ x,x<w.heap.size->¬ C (g.ow x)->w'.heap[x]?=w.heap[x]?):Wc g.ow (Qdd g.ow c w w') C w w' :=
 ⟨j,e,h,i,fun x a=>QaQ a,d,f,fun x a=>by
  unfold Qdd at a;split at a
  ·omega
  ·split at a
   ·assumption
   ·exact absurd Z a⟩
theorem WAt.toEst (S:WAt w b most m R g){f:Est}(l:QV w' g.be g.bp (Q1 (fun x=>g.ow x=2) w w') f) (a:Qz (fun x=>g.ow x=2) (Q1 (fun x=>g.ow x=2) w w') w w') (d:f.Ok):WTo g w w' b most m { R with e:=f }:=by
 have k:Wc g.ow (Qdd g.ow 2 w w') (·=2) w w':=Wc.marks S (by decide) a.os a.tape a.output a.size (fun x c n=>a.block x c n);refine⟨{ g with ow:=Qdd g.ow 2 w w' },⟨(S.kBox k (by decide)).trans S.box,⟨l.mono (fun x c j=>?_),d⟩,S.kMod k,S.kInp k,S.inpC,S.kCalls k (by decide),S.kBack k,S.kOut k (by decide),S.kFrs k (fun x h e=>by omega),S.kob k,S.koc k,S.koo k,k.lt,S.klow k⟩,⟨k.step,Z,Z⟩,Z,Z⟩
 rcases Nat.lt_or_ge x w.heap.size with h | h
 ·rcases c.1 with i | i
  ·exact(QaQ h).trans i
  ·omega
 ·exact Qc5 h j
theorem WAt.setTop (S:WAt w b most m R g){fr:RFr}(s:w'.os=w.os) (l:w'.tape=w.tape) (q:w'.output=w.output) (r:w.heap.size<=w'.heap.size)
 (o:∀ k,k<w.heap.size->k≠g.t.c->g.t.v.ownBlock≠some k->w'.heap[k]?=w.heap[k]?) (f:WFr w' g.t.c fr v) (n:∀ k,v.ownBlock=some k->g.t.v.ownBlock=some k\/w.heap.size<=k):WTo g w w' b most m { R with top:=fr }:=by
 obtain⟨⟨p,j,d⟩,u⟩:=S.frs
 have k:Wc g.ow (Qdd g.ow (6+2*R.rest.length) w w') (fun x=>x=5+2*R.rest.length\/x=6+2*R.rest.length) w w':=Wc.marks S (by omega) s l q r (fun x a i=>o x a (fun e=>i (.inl (e ▸ j))) (fun e=>i (.inr (d x e))));refine⟨{ g with t:=⟨g.t.c,v⟩,ow:=Qdd g.ow (6+2*R.rest.length) w w' },⟨(S.kBox k (by omega)).trans S.box,S.kEst k (by omega),S.kMod k,S.kInp k,S.inpC,?_,S.kBack k,S.kOut k (by omega),⟨⟨f,(QaQ (XC p.1)).trans j,fun x a=>?_⟩,S.kRest k (fun x h y=>by omega)⟩,S.kob k,S.koc k,S.koo k,k.lt,S.klow k⟩,⟨k.step,Z,Z⟩,Z,Z⟩
 ·have e:Qaw (⟨g.t.c,v⟩::g.fs)=Qaw (g.t::g.fs):=by simp[Qaw]
  show w'.ownsRow 0 _ 1 g.vc _ (Qaw (⟨g.t.c,v⟩::g.fs));rw[e]
  exact S.kCalls k (by omega)
 ·rcases Nat.lt_or_ge x w.heap.size with h | h
  ·rcases n x a with e | e
   ·exact(QaQ h).trans (d x e)
   ·omega
  ·exact Qc5 h (f.2.lt a)
theorem WAt.reBox (S:WAt w b most m R g) (u:w'.os=w.os) (j:w'.tape=w.tape) (p:w'.output=w.output) (f:w.heap.size<=w'.heap.size)
 (l:∀ k,k<w.heap.size->k≠b->w'.heap[k]?=w.heap[k]?) (r:R'.e=R.e/\R'.top=R.top/\R'.rest=R.rest/\R'.out=R.out)   {vb:Value} (hi:intsL.In w (fun x=>g.ow x=0/\g.lk<=x/\x<b) R'.inp [.slice pi R'.inp.length ci]/\R'.inp.length<=ci) (i:WIn w (fun x=>g.ow x=0/\g.lo<=x) R'.back vb)
 (s:w'.heap[b]?=some (.cells (QnP most m.length R' { g with pi:=pi,ci:=ci,vb:=vb }) 68 (0,0))):WTo g w w' b most m R':=by
 have k:Wc g.ow g.ow (·=1) w w':=⟨u,j,p,f,fun _ _=>rfl,fun x a q=>l x a (fun e=>q (e ▸ S.ob)),by decide,fun x a=>Zl (S.lt x a) f⟩;obtain⟨n,o,d,t⟩:=r
 refine⟨{ g with pi:=pi,ci:=ci,vb:=vb },⟨s,?_,S.kMod k,intsL.keep (fun x a c=>k.keep x c (by rw[a.1];decide)) (fun x a _=>a) hi.1,hi.2,?_,WIn.keep (fun x a c=>k.keep x c (by rw[a.1];decide)) (fun x a _=>a) i,?_,?_,S.ob,S.oc,S.oo,k.lt,S.klow k⟩,⟨k.step,Z,Z⟩,Z,Z⟩
 ·rw[n];exact S.kEst k (by decide)
 ·rw[d];exact S.kCalls k (by decide)
 ·rw[t];exact S.kOut k (by decide)
 ·rw[o,d];exact S.kFrs k (fun x h e=>by omega)
end
theorem Qd.at_some {h:Qd}{v:Q4}{p:Qr}(e:h.at v=some p):v.kind=2/\h.place v.region=some p/\∃ k:Nat,v.region=k/\h.L[k]?=some p/\p.there=true:=by
 unfold Qd.at at e;split at e
 ·rename_i b
  obtain⟨c,d,f⟩:=Qd.place_some e
  obtain⟨k,a⟩:=Xc c
  exact⟨b,e,k,a,by rwa [a,XT] at d,f⟩
 ·cases e
def Qr.roomed (p:Qr) (words:Int):Qr:=if p.tight words then { p with pages:=p.pages+1,used:=words } else { p with used:=p.used+words }
def Qd.roomLeft (h:Qd) (p:Qr) (words:Int):Nat:=if p.tight words then h.left - 1 else h.left
theorem Qr.roomed_l (p:Qr) (words:Int):(p.roomed words).l=p.l:=by unfold Qr.roomed;split<;>rfl
theorem Qr.roomed_there (p:Qr) (words:Int):(p.roomed words).there=p.there:=by unfold Qr.roomed;split<;>rfl
theorem Qr.more_eq (p:Qr) (t:Qw) (words:Int):p.more t words={ p.roomed words with l:=(p.roomed words).l++[t] }:=by unfold Qr.more Qr.roomed;split<;>rfl
theorem Qd.put_full {h:Qd}{v:Q4}{p:Qr}(t:Qw) (words:Int) (c:h.at v=some p) (b:p.tight words=true) (a:h.left=0):h.put v t words=(noV,14,h):=by unfold Qd.put;rw[c];simp[b,a]
theorem Qd.put_ok {h:Qd}{v:Q4}{p:Qr}(t:Qw) (words:Int) (c:h.at v=some p) (a:v.region=k) (b:¬ (p.tight words=true/\h.left=0)) :
 h.put v t words=(⟨t.knd,k,p.l.length,0⟩,0,⟨h.L.set k { p.roomed words with l:=p.l++[t] },h.roomLeft p words⟩):=by
 unfold Qd.put;rw[c]
 simp only
 rw[Xr b,a,XT,Qr.more_eq,Qr.roomed_l]
 rfl
theorem Qd.thing_iff {h:Qd}{v:Q4}{t:Qw}:h.thing v=some t↔(v.kind=3\/v.kind=4)/\∃ p,h.place v.region=some p/\0<=v.thing/\p.l[v.thing.toNat]?=some t/\t.arr=decide (v.kind=4):=by
 unfold Qd.thing;constructor
 ·intro e;split at e
  ·rename_i a
   split at e
   ·cases e
   ·rename_i p c
    split at e
    ·cases e
    ·rename_i f
     split at e
     ·cases e
     ·rename_i u b
      split at e
      ·rename_i d;cases e;exact⟨a,p,c,by omega,b,d⟩
      ·cases e
  ·cases e
 ·rintro ⟨a,p,c,f,b,d⟩;rw[Xs a]
  simp only[c,b]
  rw[Xr (by omega),Xs d]
theorem Qd.put_code {h:Qd}{v:Q4}{t:Qw}{words:Int}{p:Qr}(a:h.at v=some p):(h.put v t words).2.1=0\/((h.put v t words).2.1=14/\(h.put v t words).2.2=h/\(h.put v t words).1=noV):=by
 by_cases e:p.tight words=true/\h.left=0
 ·rw[Qd.put_full t words a e.1 e.2];exact .inr ⟨Z,Z,Z⟩
 ·obtain⟨f,g,j,b,d,c⟩:=Qd.at_some a
  rw[Qd.put_ok t words a b e];exact .inl Z
def Qw.sz (t:Qw):Nat:=if t.arr then t.l.length+1 else max t.l.length 1
def Rep (h:Qd) (φ:Int->Nat) (π:Int->Nat->Nat) (x:Q4) (n:Int):Prop :=
 (x.kind=1->n=x.n)/\((x.kind=2\/x.kind=3\/x.kind=4)->0<=x.region/\x.region<h.L.length/\∀ p,h.place x.region=some p ->
  (x.kind=2->n=φ x.region)/\(x.kind≠2->0<=x.thing/\x.thing.toNat<p.l.length/\n=π x.region x.thing.toNat))
structure Ql6 (h:Qd) (e:Est) (φ:Int->Nat) (π:Int->Nat->Nat) (k:Int) (i:Nat) (t:Qw):Prop where
 run:Qbc e ⟨φ k,π k i,t.sz⟩
 tuple:t.arr=false->∀ j x,t.l[j]?=some x->Rep h φ π x (e.p.ws (π k i+j))
 len:t.arr=true->e.p.ws (π k i)=t.l.length
 nums:t.arr=true->∀ j x,t.l[j]?=some x->x.kind=1/\e.p.ws (π k i+1+j)=x.n
structure Qa9 (h:Qd) (e:Est) (φ:Int->Nat) (π:Int->Nat->Nat):Prop where
 ok:e.Ok
 left:(h.left:Int)=e.p.free
 reg:∀ k p,h.place k=some p->φ k<16/\∃ r,e.reg (φ k)=some r/\r.pages.length=p.pages/\(p.pages≠0->r.used=p.used)
 inj:∀ j k p q,h.place j=some p->h.place k=some q->φ j=φ k->j=k
 onto:∀ i r,e.reg i=some r->∃ k p,h.place k=some p/\φ k=i
 clear:QmK e
 thing:∀ k p i t,h.place k=some p->p.l[i]?=some t->Ql6 h e φ π k i t
 apart:∀ k p i t k' p' i' t',h.place k=some p->p.l[i]?=some t->h.place k'=some p'->p'.l[i']?=some t'->¬ (k=k'/\i=i')->¬ (π k i<π k' i'+t'.sz/\π k' i'<π k i+t.sz)
def Qgh (f:Nat->Option Reg) (n:Nat):List Nat:=(List.range n).filter (fun k=>(f k).isSome)
theorem QdD (f:Nat->Option Reg):∀ n,Zb f n=(Qgh f n).length
 | 0=>rfl
 | n+1=>by
   have a:=QdD f n;unfold Qgh at a |-;rw[Zb,List.range_succ,List.filter_append,List.length_append]
   cases h:(f n).isSome with
   | true=>simp[h,a]
   | false=>simp[h,a]
def Qbu (L:List Qr) (n:Nat):List Nat:=(List.range n).filter (fun k=>match L[k]? with | some p=>p.there | none=>false)
theorem QiZ (L:List Qr):∀ n,n<=L.length->(Qbu L n).length=((L.take n).filter (·.there)).length
 | 0,_=>rfl
 | n+1,h=>by
   have a:=QiZ L n (by omega);have b:L[n]?=some L[n]:=Zg (by omega);unfold Qbu at a |-;rw[List.range_succ,List.filter_append,List.length_append,a,XV,b]
   simp only[Option.toList,List.filter_append,List.length_append,List.filter_cons,List.filter_nil,b]
   cases L[n].there<;>rfl
theorem QkF (h:Qd):(Qbu h.L h.L.length).length=h.live:=by rw[QiZ _ _ Ze,List.take_length];rfl
theorem QcA {h:Qd}:k∈Qbu h.L h.L.length↔∃ p,h.place (k:Int)=some p:=by
 unfold Qbu;rw[List.mem_filter,List.mem_range,Qd.place_nat]
 constructor
 ·rintro ⟨d,b⟩;rw[Zg d] at b |-
  simp only at b |-
  exact⟨_,by rw[Xs b]⟩
 ·rintro ⟨p,a⟩
  cases e:h.L[k]? with
  | none=>rw[e] at a;cases a
  | some q =>
    rw[e] at a
    simp only at a
    split at a
    ·rename_i c
     exact⟨(Zi e).1,by simp[c]⟩
    ·cases a
section
variable {h:Qd}{e:Est}{φ:Int->Nat}{π:Int->Nat->Nat}
theorem Qe1 {α β:Type}{f:α->β}:∀ {l:List α},l.Nodup->(∀ x∈l,∀ y∈l,f x=f y->x=y)->(l.map f).Nodup
 | [],_,_=>by simp
 | x::r,hn,hf=>by
   rw[List.nodup_cons] at hn
   rw[List.map_cons,List.nodup_cons]
   refine⟨fun d=>?_,Qe1 hn.2 (fun a h b g=>hf a (by simp[h]) b (by simp[g]))⟩
   obtain⟨y,c,e⟩:=List.mem_map.1 d
   exact hn.1 (hf y (by simp[c]) x (by simp) e ▸ c)
theorem Qa9.count (R:Qa9 h e φ π):e.count=h.live:=by
 unfold Est.count;rw[QdD,<-QkF]
 congr 1
 have s:(Qbu h.L h.L.length).Nodup:=List.Pairwise.filter _ List.nodup_range
 have u:((Qbu h.L h.L.length).map (fun k:Nat=>φ (k:Int))).Nodup:=Qe1 s (fun x m y o n=>by
  obtain⟨p,a⟩:=QcA.1 m
  obtain⟨q,t⟩:=QcA.1 o
  have:=R.inj _ _ p q a t n
  omega)
 have j:(Qgh e.reg 16).Nodup:=List.Pairwise.filter _ List.nodup_range
 have:=((List.perm_ext_iff_of_nodup j u).2 (fun i=>?_)).length_eq
 ·rw[this,XN]
 ·unfold Qgh;rw[List.mem_filter,List.mem_range,List.mem_map]
  constructor
  ·rintro ⟨f,b⟩;obtain⟨r,c⟩:=Option.isSome_iff_exists.1 b
   obtain⟨k,p,a,g⟩:=R.onto i r c
   obtain⟨d,-,-⟩:=Qd.place_some a
   refine⟨k.toNat,QcA.2 ⟨p,?_⟩,?_⟩
   ·rw[Int.toNat_of_nonneg d];exact a
   ·rw[Int.toNat_of_nonneg d];exact g
  ·rintro ⟨k,f,b⟩;obtain⟨p,a⟩:=QcA.1 f
   obtain⟨l,r,c,-⟩:=R.reg _ p a
   rw[<-b]
   exact⟨l,by rw[c];rfl⟩
theorem QdW {f:Nat->Option Reg}:∀ {n:Nat},Zb f n=n↔∀ k,k<n->f k≠none
 | 0=>by simp[Zb]
 | n+1=>by
   have c:=QdW (f:=f) (n:=n);have d:=(Qa7 f n).2;rw[Zb]
   cases e:f n with
   | none =>
     simp only[Option.isSome_none,Bool.false_eq_true,if_false]
     constructor
     ·intro h;omega
     ·intro h;exact absurd e (h n (by omega))
   | some r =>
     simp only[Option.isSome_some,if_true]
     constructor
     ·intro h k b;rcases Nat.lt_succ_iff_lt_or_eq.1 b with a | a
      ·exact c.1 (by omega) k a
      ·subst a;rw[e];exact fun h=>nomatch h
     ·intro h
      have:=c.2 (fun k b=>h k (by omega))
      omega
theorem Qa9.full (R:Qa9 h e φ π):16<=h.live↔∀ k,k<16->e.reg k≠none:=by
 have a:=R.count;have b:=(Qa7 e.reg 16).2;unfold Est.count at a;rw[<-QdW (f:=e.reg) (n:=16)]
 omega
theorem Rep.mono {b:Qd}{φ':Int->Nat}{π':Int->Nat->Nat}{x:Q4}{n:Int}(H:Rep h φ π x n) (v:h.L.length<=b.L.length)
 (s:∀ (k:Int) p',0<=k->k<h.L.length->b.place k=some p'->∃ p,h.place k=some p/\φ' k=φ k/\p.l.length<=p'.l.length/\∀ i,i<p.l.length->π' k i=π k i):Rep b φ' π' x n:=by
 refine⟨H.1,fun d=>?_⟩
 obtain⟨c,r,e⟩:=H.2 d
 refine⟨c,by omega,fun p' a=>?_⟩
 obtain⟨p,t,f,w,u⟩:=s _ p' c r a
 obtain⟨o,m⟩:=e p t
 refine⟨fun h=>by rw[f];exact o h,fun h=>?_⟩
 obtain⟨j,g,q⟩:=m h
 exact⟨j,by omega,by rw[u _ g];exact q⟩
def Qch (h:Qd) (e:Est) (φ:Int->Nat):Int->Nat:=fun j=>if j=h.L.length then e.openK.toNat else φ j
theorem Qa9.opens (R:Qa9 h e φ π) (Q:¬ 16<=h.live):0<=e.openK/\Qa9 h.open_.2.2 e.opened (Qch h e φ) π/\(Qch h e φ) h.L.length=e.openK.toNat/\∀ x n,Rep h φ π x n->Rep h.open_.2.2 (Qch h e φ) π x n:=by
 have I:h.open_=(⟨2,h.L.length,0,0⟩,true,{ h with L:=h.L++[newP] }):=by unfold Qd.open_;rw[Xr Q]
 have g:∀ j,h.open_.2.2.place j=if j=h.L.length then some newP else h.place j:=fun j=>by rw[I];exact Qd.place_push h newP j h.left
 rcases Qbr e.reg 16 with U | ⟨k,K,N,k3⟩
 ·exact absurd (R.full.2 U) Q
 ·obtain⟨o1,J⟩:=Est.open_yes k3 K N
  have M:e.openK.toNat=k:=by omega
  have s:∀ j p,h.place j=some p->¬ j=h.L.length:=fun j p a u=>by
   have:=(Qd.place_some a).2.1
   have:=(Zi this).1
   omega
  have d:∀ j p,h.place j=some p->Qch h e φ j=φ j:=fun j p a=>by unfold Qch;rw[Xr (s j p a)]
  have A:Qch h e φ h.L.length=k:=by unfold Qch;rw[Xs Z,M]
  have v:∀ x n,Rep h φ π x n->Rep h.open_.2.2 (Qch h e φ) π x n:=fun x n H=>H.mono (by rw[I];simp) (fun j w P O b=>by
   rw[g,Xr (by omega)] at b
   exact⟨w,b,d _ _ b,Ze,fun _ _=>rfl⟩)
  have C:∀ j,(e.set k (some ⟨[],0⟩)).reg j=if j=k then some ⟨[],0⟩ else e.reg j:=fun j=>rfl
  have G:∀ j p,h.place j=some p->φ j≠k:=fun j p a e'=>by
   obtain⟨-,r,c,-⟩:=R.reg j p a
   rw[e',N] at c;cases c
  refine⟨by omega,?_,by rw[A,M],v⟩
  have F:∀ q,Qbc e q->Qbc e.opened q:=fun q D=>((⟨fun x o=>by rw[List.mem_singleton.1 o];exact D,R.clear⟩:Ap e [q]).opened).run q (by simp);refine⟨R.ok.opened,by rw[I,Est.p_opened];exact R.left,fun j p a=>?_,fun j E p w a b l=>?_,fun i r c=>?_,(⟨fun q D=>absurd D (by simp),R.clear⟩:Ap e []).opened.clear,fun j p i t a z=>?_,fun j p i t E w i' t' a z b y hn=>?_⟩
  ·rw[g] at a
   split at a
   ·rename_i u
    cases a
    rw[u,A]
    exact⟨K,_,by rw[J,C,Xs Z],Z,fun h=>absurd Z h⟩
   ·obtain⟨P,r,c,O⟩:=R.reg j p a
    rw[d j p a]
    exact⟨P,r,by rw[J,C,Xr (G j p a)];exact c,O⟩
  ·rw[g] at a b
   split at a
   ·rename_i u
    split at b
    ·rename_i f;rw[u,f]
    ·rw[u,A,d _ _ b] at l;exact absurd l.symm (G _ _ b)
   ·split at b
    ·rename_i f;rw[f,A,d _ _ a] at l;exact absurd l (G _ _ a)
    ·rw[d _ _ a,d _ _ b] at l;exact R.inj j E p w a b l
  ·rw[J,C] at c
   split at c
   ·rename_i W
    exact⟨h.L.length,newP,by rw[g,Xs Z],by rw[A,W]⟩
   ·obtain⟨j,p,a,S⟩:=R.onto i r c
    exact⟨j,p,by rw[g,Xr (s j p a)];exact a,by rw[d j p a];exact S⟩
  ·rw[g] at a
   split at a
   ·cases a;simp[newP] at z
   ·obtain⟨a1,X,T,V⟩:=R.thing j p i t a z
    exact⟨by rw[d j p a];exact F _ a1,fun B m x o=>by rw[Est.p_opened];exact v _ _ (X B m x o),fun B=>by rw[Est.p_opened];exact T B,fun B m x o=>by rw[Est.p_opened];exact V B m x o⟩
  ·rw[g] at a b
   split at a
   ·cases a;simp[newP] at z
   ·split at b
    ·cases b;simp[newP] at y
    ·exact R.apart j p i t E w i' t' a z b y hn
theorem Qfn {s:PSt}(a:l.Nodup) (b:∀ x,x∈l->0<=x/\x<s.fresh/\x ∉ s.given):(s.giveAll l).free=s.free+l.length:=by
 rw[PSt.giveAll_eq l s a b]
 unfold PSt.free;simp
 omega
theorem Qa9.shuts (R:Qa9 h e φ π){a:Q4}{p:Qr}(W:h.at a=some p):(h.shut a).1=true/\Qa9 (h.shut a).2 (e.shut (φ a.region)) φ π/\∀ x n,Rep h φ π x n->Rep (h.shut a).2 φ π x n:=by
 obtain⟨hk,o,j,hj,hL,aa⟩:=Qd.at_some W
 have C:=(Zi hL).1;obtain⟨k1,r,U,N,-⟩:=R.reg _ p o
 have B:h.shut a=(true,⟨h.L.set a.region.toNat noP,h.left+p.pages⟩):=by unfold Qd.shut;rw[W]
 have Q:∀ i,(h.shut a).2.place i=if i=a.region then none else h.place i:=fun i=>by
  rw[B];simp only
  rw[hj,XT,Qd.place_set C]
  split
  ·rfl
  ·rfl
 have b:∀ i q,(h.shut a).2.place i=some q->i≠a.region/\h.place i=some q:=fun i q c=>by
  rw[Q] at c
  split at c
  ·cases c
  ·rename_i l;exact⟨l,c⟩
 have T:∀ i q,i≠a.region->h.place i=some q->φ i≠φ a.region:=fun i q c F D=>c (R.inj i _ q p F o D);have I:=Est.shut_yes (e:=e) (j:=φ a.region) k1 U;have S:∀ i,(e.shut (φ a.region)).reg i=if i=φ a.region then none else e.reg i:=fun i=>by rw[I];rfl
 have E:(e.shut (φ a.region)).p.ws=e.p.ws:=by rw[I];exact QdK _ _
 have v:∀ x n,Rep h φ π x n->Rep (h.shut a).2 φ π x n:=fun x n H=>H.mono (by rw[B];simp) (fun k V _ _ J=>⟨V,(b k V J).2,Z,Ze,fun _ _=>rfl⟩);have G:∀ q:Run,q.region≠φ a.region->Qbc e q->Qbc (e.shut (φ a.region)) q:=fun q l o=>((⟨fun x f=>by rw[List.mem_singleton.1 f];exact o,R.clear⟩:Ap e [q]).shut (φ a.region)).run q (by unfold Qk8;simp[l]);refine⟨by rw[B],⟨R.ok.shut _,?_,fun i q c=>?_,fun i z q s c g D=>?_,fun i O d=>?_,((⟨fun q o=>absurd o (by simp),R.clear⟩:Ap e []).shut _).clear,fun i q m t c P=>?_,fun i q m t z s m' t' c P g M l=>R.apart i q m t z s m' t' (b i q c).2 P (b z s g).2 M l⟩,v⟩
 ·have y:=Est.at_some U;rw[B,I]
  show ((h.left+p.pages:Nat):Int)=(e.p.giveAll r.pages).free;rw[Qfn (by rw[<-y];exact R.ok.nodup _) (fun x f=>R.ok.took (k:=φ a.region) (by rw[y];exact f)),<-R.left,N]
  omega
 ·obtain⟨K,w⟩:=b i q c
  obtain⟨h3,O,d,X⟩:=R.reg i q w
  exact⟨h3,O,by rw[S,Xr (T i q K w)];exact d,X⟩
 ·exact R.inj i z q s (b i q c).2 (b z s g).2 D
 ·rw[S] at d
  split at d
  ·cases d
  ·rename_i l
   obtain⟨k,q,F,A⟩:=R.onto i O d
   refine⟨k,q,by rw[Q,Xr (fun ek=>l (by rw[<-A,ek]))];exact F,A⟩
 ·obtain⟨K,w⟩:=b i q c
  obtain⟨a1,a2,a3,a4⟩:=R.thing i q m t w P
  exact⟨G _ (by simp only;have:=T i q K w;omega) a1,fun u j x f=>by rw[E];exact v _ _ (a2 u j x f),fun u=>by rw[E];exact a3 u,fun u j x f=>by rw[E];exact a4 u j x f⟩
end
theorem XP:type_of% @List.getElem?_append_left:=@List.getElem?_append_left
theorem PSt.puts_same:∀ (l:List Int) (s:PSt) (k:Int),(s.puts k l).pages=s.pages/\(s.puts k l).given=s.given/\(s.puts k l).fresh=s.fresh
 | [],s,k=>⟨Z,Z,Z⟩
 | n::l,s,k=>by
   obtain⟨c,b,a⟩:=PSt.puts_same l (s.store k n) (k+1)
   have:(s.store k n).given=s.given/\(s.store k n).fresh=s.fresh:=by unfold PSt.store;split<;>simp
   show ((s.store k n).puts (k+1) l).pages=_/\((s.store k n).puts (k+1) l).given=_/\((s.store k n).puts (k+1) l).fresh=_;rw[c,b,a]
   exact⟨PSt.pages_store s k n,this.1,this.2⟩
theorem PSt.puts_ws:∀ (l:List Int) (s:PSt) (k:Nat),k+l.length<=16*s.pages->∀ i:Nat,(s.puts (k:Int) l).ws i=if k<=i/\i<k+l.length then l.getD (i - k) 0 else s.ws i
 | [],s,k,h,i=>by rw[Xr (by simp only[List.length_nil];omega)];rfl
 | n::l,s,k,h,i=>by
   have d:s.place (k:Int)=true:=by simp at h;simp[PSt.place];omega
   have c:=PSt.puts_ws l (s.store k n) (k+1) (by rw[PSt.pages_store];simp at h |-;omega) i;show ((s.store k n).puts ((k:Int)+1) l).ws i=_;rw[show ((k:Int)+1)=((k+1:Nat):Int) by omega,c]
   have f:(s.store k n).ws i=if i=k then n else s.ws i:=by
    unfold PSt.store;rw[Xs d];show (if (i:Int)=k then n else s.ws i)=_;by_cases e:i=k
    ·rw[Xs e,Xs (by omega)]
    ·rw[Xr e,Xr (by omega)]
   rw[f]
   simp only[List.length_cons]
   by_cases a:i=k
   ·rw[Xr (by omega),Xs a,Xs (by omega),a];simp
   ·by_cases b:k+1<=i/\i<k+1+l.length
    ·rw[Xs b,Xs (by omega),show i - k=(i - (k+1))+1 by omega];simp
    ·rw[Xr b,Xr a,Xr (by omega)]
theorem PSt.free_take {s:PSt}(h:s.Ok) (a:0<=s.nextK):s.take.free=s.free - 1:=by
 unfold PSt.take;rw[Xr (by omega)]
 have b:s.next.free=s.free - 1:=by
  unfold PSt.nextK at a;unfold PSt.next PSt.free
  cases e:s.given.getLast? with
  | some x =>
    have d:s.given≠[]:=fun c=>by rw[c] at e;cases e
    have:=List.length_pos_iff.2 d
    simp
    omega
  | none =>
    rw[e] at a
    simp only at a |-
    split
    ·rename_i f;rw[Xs f] at a;omega
    ·simp;omega
 exact b
section
variable {h:Qd}{e:Est}{φ:Int->Nat}{π:Int->Nat->Nat}
structure QnY (e e1:Est) (j:Nat) (r:Reg) (n:Int):Prop where
 reg:∃ r1,e1.reg j=some r1/\(r.more n=false/\r1.pages=r.pages/\r1.used=r.used+n/\e1.p=e.p\/r.more n=true/\r1.pages.length=r.pages.length+1/\r1.used=n/\e1.p=e.p.take/\0<=e.p.nextK)
 other:∀ i,i≠j->e1.reg i=e.reg i
 ws:∀ q,Qbc e q->∀ i:Nat,q.at_<=i->i<q.at_+q.n->e1.p.ws i=e.p.ws i
theorem QlE (ok:e.Ok){r:Reg}{n:Int}(b:j<16) (k:e.reg j=some r) (m:¬ (n<1\/16<n)) :
 (e.getCode j n=14/\r.more n=true/\e.p.nextK<0)\/(e.getCode j n=0/\(r.more n=true->0<=e.p.nextK)/\QnY e (e.got j n) j r n):=by
 cases hm:r.more n with
 | false =>
   obtain⟨c,-,l⟩:=Est.get_room b k m hm
   refine .inr ⟨c,(fun h=>by cases h),?_⟩;rw[l]
   exact⟨⟨⟨r.pages,r.used+n⟩,by simp[Est.set],.inl ⟨hm,Z,Z,Z⟩⟩,fun i d=>by simp[Est.set,d],fun q o i A y=>rfl⟩
 | true =>
   by_cases a:e.p.nextK<0
   ·exact .inl ⟨(Est.get_full b k m hm a).1,Z,a⟩
   ·obtain⟨c,-,l⟩:=Est.get_more b k m hm a
    refine .inr ⟨c,fun _=>by omega,?_⟩;rw[l]
    refine⟨⟨⟨r.pages++[e.p.nextK],n⟩,by simp[Est.set,Est.withP],.inr ⟨hm,by simp,Z,Z,by omega⟩⟩,fun i d=>by simp[Est.set,Est.withP,d],fun q o i A y=>?_⟩
    obtain⟨w,D,s,E,x,u,C,B,-,-⟩:=o
    have f:s∈e.pagesAt w:=by rw[Est.at_some x];exact u
    have t:s≠e.p.nextK:=fun z=>by
     obtain⟨g,-⟩:=ok.tk.take ok.ok (by omega)
     exact g ((ok.tk.mem _).2 (z ▸ ok.took f))
    show e.p.take.ws i=e.p.ws i;unfold PSt.take;rw[Xr a]
    unfold PSt.wipe;have v:e.p.next.ws=e.p.ws:=by unfold PSt.next;split<;>first | rfl | (split<;>rfl)
    simp only
    rw[Xr (by omega),v]
theorem Est.Ok.puts:∀ (l:List Int){e:Est}(k:Int),e.Ok->(e.withP (e.p.puts k l)).Ok
 | [],e,k,h=>h
 | n::l,e,k,h=>Est.Ok.puts l (k+1) (Est.Ok.store h k n)
theorem PSt.free_puts (l:List Int) (s:PSt) (k:Int):(s.puts k l).free=s.free:=by
 obtain⟨c,b,a⟩:=PSt.puts_same l s k
 unfold PSt.free;rw[c,b,a]
def Qms (h:Qd) (φ:Int->Nat) (π:Int->Nat->Nat) (t:Qw) (l:List Int):Prop :=
 (t.arr=false->l.length=t.l.length/\∀ (j:Nat) x,t.l[j]?=some x->Rep h φ π x (l.getD j 0))/\(t.arr=true->l=[(t.l.length:Int)]/\∀ (j:Nat) x,t.l[j]?=some x->x=Qcs 0)
theorem Qw.sz_pos (t:Qw):1<=t.sz:=by unfold Qw.sz;split<;>omega
theorem Qw.sz_l (t:Qw) (a:t.arr=false):t.l.length<=t.sz:=by unfold Qw.sz;rw[Xr (by rw[a];decide)];omega
theorem Qw.sz_a (t:Qw) (a:t.arr=true):t.sz=t.l.length+1:=by unfold Qw.sz;rw[Xs a]
theorem Qa9.tight (R:Qa9 h e φ π){a:Q4}{p:Qr}{r:Reg}(f:r.pages.length=p.pages) (c:p.pages≠0->r.used=p.used){n:Int}(j:1<=n):p.tight n=r.more n:=by
 have g:=Reg.more_iff (r:=r) j;have i:r.pages=[]↔p.pages=0:=by rw[<-Xf,f]
 unfold Qr.tight
 cases e:r.more n with
 | true =>
   rcases g.1 e with d | d
   ·simp[i.1 d]
   ·by_cases b:p.pages=0
    ·simp[b]
    ·rw[<-c b];simp[b];omega
 | false =>
   have d:¬ (r.pages=[]\/16 - r.used<n):=fun h=>by rw[g.2 h] at e;cases e
   have b:¬ p.pages=0:=fun h=>d (.inl (i.2 h));rw[<-c b]
   simp only[b,decide_false,Bool.false_or,decide_eq_false_iff_not]
   omega
theorem Qa9.none (R:Qa9 h e φ π):h.left=0↔e.p.nextK<0:=by
 rw[PSt.nextK_iff R.ok.ok,<-R.left];omega
theorem Qa9.puts (R:Qa9 h e φ π){a:Q4}{p:Qr}(ha:h.at a=some p) (t:Qw) (a8:t.sz<=16) :
 (e.getCode (φ a.region) t.sz≠0/\(h.put a t t.sz).2.1=14)\/(e.getCode (φ a.region) t.sz=0/\(h.put a t t.sz).2.1=0/\0<=e.getAt (φ a.region) t.sz /\
  ∀ l:List Int,Qms h φ π t l->∃ π',Qa9 (h.put a t t.sz).2.2 ((e.got (φ a.region) t.sz).withP ((e.got (φ a.region) t.sz).p.puts (e.getAt (φ a.region) t.sz) l)) φ π'/\(∀ x n,Rep h φ π x n->Rep (h.put a t t.sz).2.2 φ π' x n)/\Rep (h.put a t t.sz).2.2 φ π' (h.put a t t.sz).1 (e.getAt (φ a.region) t.sz)):=by
 obtain⟨hk,z,j,hj,hL,a5⟩:=Qd.at_some ha
 have av:=(Zi hL).1;obtain⟨k1,r,hr,O,ag⟩:=R.reg _ p z
 have a7:=t.sz_pos;have g:=R.tight (a:=a) O ag (n:=t.sz) (by omega);rcases QlE R.ok k1 hr (n:=t.sz) (by omega) with ⟨c1,c2,c3⟩|⟨c1,c2,G⟩
 ·refine .inl ⟨by rw[c1];decide,?_⟩;rw[Qd.put_full t t.sz ha (by rw[g];exact c2) (R.none.2 c3)]
 ·have aj:¬ (p.tight t.sz=true/\h.left=0):=fun ⟨b,D⟩=>by
   have:=c2 (by rw[<-g];exact b)
   have:=R.none.1 D
   omega
  have f:=Qd.put_ok t (t.sz:Int) ha hj aj;have G0:=Qlf R.ok (⟨fun q z=>absurd z (by simp),R.clear⟩:Ap e []) _ _ c1;have G1:=fun (q:Run) (z:Qbc e q)=>Qlf R.ok (⟨fun x y=>by rw[List.mem_singleton.1 y];exact z,R.clear⟩:Ap e [q]) _ _ c1;obtain⟨A,hA⟩:∃ A:Nat,e.getAt (φ a.region) t.sz=A:=⟨(e.getAt (φ a.region) t.sz).toNat,by have:=G0.low;omega⟩
  refine .inr ⟨c1,by rw[f],G0.low,fun l hl=>?_⟩;rw[hA]
  have S:(e.got (φ a.region) t.sz).p.pages=e.p.pages:=Est.pages_got e _ _
  have a9:l.length<=t.sz:=by
   cases d:t.arr with
   | true=>rw[(hl.2 d).1];simpa using a7
   | false=>rw[(hl.1 d).1];exact t.sz_l d
  have a0:=R.ok.got (φ a.region) t.sz;have ws:=PSt.puts_ws l (e.got (φ a.region) t.sz).p A (by have:=G0.high;rw[hA] at this;rw[S];omega);have al:∀ q,Qbc e q->Qbc (e.got (φ a.region) t.sz) q:=fun q z=>(G1 q z).ap.run q (by simp);have ak:Qbc (e.got (φ a.region) t.sz) ⟨φ a.region,A,t.sz⟩:=by have:=G0.ap.run ⟨φ a.region,e.getAt (φ a.region) t.sz,t.sz⟩ (by simp);rw[hA] at this;exact this
  have ai:=G0.ap.clear;have ae:=G0.zero;rw[hA] at ai ae
  generalize e.got (φ a.region) t.sz=B at *
  have pl:∀ i:Int,(h.put a t t.sz).2.2.place i=if i=a.region then some { p.roomed t.sz with l:=p.l++[t] } else h.place i:=fun i=>by
   rw[f];simp only
   rw[Qd.place_set av,hj]
   have:({ p.roomed t.sz with l:=p.l++[t] }:Qr).there=true:=by rw[show ({ p.roomed t.sz with l:=p.l++[t] }:Qr).there=(p.roomed t.sz).there from Z,Qr.roomed_there];exact a5
   rw[Xs this]
  refine⟨fun k i=>if k=a.region/\i=p.l.length then A else π k i,?_⟩
  have o:(p.roomed t.sz).pages=(if p.tight t.sz=true then p.pages+1 else p.pages)/\(p.roomed t.sz).used=(if p.tight t.sz=true then (t.sz:Int) else p.used+t.sz):=by unfold Qr.roomed;split<;>simp
  obtain⟨r1,g1,g2⟩:=G.reg
  have K:∀ q,Qbc e q->∀ i:Nat,q.at_<=i->i<q.at_+q.n->(B.p.puts A l).ws i=e.p.ws i:=fun q z i b D=>by
   have:=(G1 q z).apart q (by simp)
   rw[hA] at this
   rw[ws,Xr (by omega)]
   exact G.ws q z i b D
  have U:∀ k v i w,(h.put a t t.sz).2.2.place k=some v->v.l[i]?=some w->(k=a.region/\i=p.l.length/\w=t)\/(¬ (k=a.region/\i=p.l.length)/\∃ F,h.place k=some F/\F.l[i]?=some w):=fun k v i w s E=>by
   rw[pl] at s
   split at s
   ·rename_i u
    cases s
    simp only at E
    rcases Nat.lt_trichotomy i p.l.length with b | b | b
    ·rw[XP b] at E
     exact .inr ⟨fun e=>by omega,p,by rw[u];exact z,E⟩
    ·rw[XQ (by omega),b] at E
     simp at E
     exact .inl ⟨u,b,E.symm⟩
    ·rw[Xk (by simp;omega)] at E;cases E
   ·rename_i u
    exact .inr ⟨fun e=>u e.1,v,s,E⟩
  have W:∀ x n,Rep h φ π x n->Rep (h.put a t t.sz).2.2 φ (fun k i=>if k=a.region/\i=p.l.length then A else π k i) x n:=fun x n H=>H.mono (by rw[f];simp) (fun k v _ _ c=>by
   rw[pl] at c
   split at c
   ·rename_i u
    cases c
    refine⟨p,by rw[u];exact z,Z,by simp,fun i P=>?_⟩
    rw[Xr (by omega)]
   ·rename_i u
    exact⟨v,c,Z,Ze,fun i P=>by rw[Xr (fun e=>u e.1)]⟩)
  refine⟨⟨Est.Ok.puts l A a0,?_,fun k v s=>?_,fun k k' v Q s c he=>?_,fun i r' I=>?_,?_,fun k v i w s E=>?_,fun k v i w k' Q i' N s E c am X=>?_⟩,W,?_⟩
  ·rw[f]
   show ((h.roomLeft p t.sz:Nat):Int)=(B.p.puts A l).free;rw[PSt.free_puts]
   unfold Qd.roomLeft;rcases g2 with ⟨g0,-,-,L⟩|⟨L,-,-,g4,g5⟩
   ·rw[L,<-R.left,Xr (by rw[g,g0];decide)]
   ·rw[Xs (by rw[g];exact L),g4,PSt.free_take R.ok.ok g5,<-R.left]
    have:h.left≠0:=fun h0=>aj ⟨by rw[g];exact L,h0⟩
    omega
  ·rw[pl] at s
   split at s
   ·rename_i u
    cases s
    rw[u]
    refine⟨k1,r1,g1,?_,fun _=>?_⟩
    ·rcases g2 with ⟨g0,L,-⟩|⟨L,g4,-⟩
     ·rw[L,O];show _=(p.roomed t.sz).pages;rw[o.1,Xr (by rw[g,g0];decide)]
     ·rw[g4,O];show _=(p.roomed t.sz).pages;rw[o.1,Xs (by rw[g];exact L)]
    ·rcases g2 with ⟨g0,L,g4,-⟩|⟨L,-,g4,-⟩
     ·have C:p.pages≠0:=fun h0=>by
       have b:=(Reg.room g0 (by omega)).1;rw[<-O] at h0
       exact b (Xf.1 h0)
      rw[g4,ag C];show _=(p.roomed t.sz).used;rw[o.2,Xr (by rw[g,g0];decide)]
     ·rw[g4];show _=(p.roomed t.sz).used;rw[o.2,Xs (by rw[g];exact L)]
   ·rename_i u
    obtain⟨b,r',I,D⟩:=R.reg k v s
    exact⟨b,r',by rw[show (B.withP (B.p.puts A l)).reg=B.reg from Z,G.other _ (fun e'=>u (R.inj k _ v p s z e'))];exact I,D⟩
  ·have an:∀ i q,(h.put a t t.sz).2.2.place i=some q->∃ q',h.place i=some q':=fun i q P=>by
    rw[pl] at P
    split at P
    ·rename_i ei;exact⟨p,by rw[ei];exact z⟩
    ·exact⟨q,P⟩
   obtain⟨q,az⟩:=an k v s
   obtain⟨q',ay⟩:=an k' Q c
   exact R.inj k k' q q' az ay he
  ·have ah:B.reg i=some r':=I;by_cases P:i=φ a.region
   ·exact⟨a.region,_,by rw[pl,Xs Z],P.symm⟩
   ·rw[G.other i P] at ah
    obtain⟨k,q,s,af⟩:=R.onto i r' ah
    exact⟨k,q,by rw[pl,Xr (fun e'=>P (by rw[<-af,e']))];exact s,af⟩
  ·intro i r' I a6 m aw ax;have b:=ai i r' I a6 m aw ax;have D:(B.p.fill A (t.sz:Int).toNat).ws m=0:=b;unfold PSt.fill at D;simp only at D
   split at D
   ·cases D
   ·rename_i ba
    show (B.p.puts A l).ws m=0;rw[ws,Xr (by omega)]
    exact D
  ·rcases U k v i w s E with ⟨u,ei,et⟩|⟨X,F,C,T⟩
   ·subst et;rw[u,ei]
    refine⟨by simp only[and_self,if_true];exact ak,fun d m x y=>?_,fun d=>?_,fun d m x y=>?_⟩
    ·simp only[and_self,if_true]
     have hm:=(Zi y).1;show Rep _ _ _ x ((B.p.puts A l).ws (A+m));rw[ws,Xs (by rw[(hl.1 d).1];omega),show A+m - A=m by omega]
     exact W _ _ ((hl.1 d).2 m x y)
    ·simp only[and_self,if_true]
     show (B.p.puts A l).ws A=_;rw[ws,(hl.2 d).1,Xs (by simp)]
     first | done | simp
    ·simp only[and_self,if_true]
     have hm:=(Zi y).1;have au:=(hl.2 d).2 m x y;refine⟨by rw[au];first | done | rfl,?_⟩
     show (B.p.puts A l).ws (A+1+m)=x.n;rw[ws,(hl.2 d).1,Xr (by simp only[List.length_singleton];omega),au]
     have:=ae (1+m) (by rw[w.sz_a d];omega)
     rw[show ((A:Int)+((1+m:Nat):Int)).toNat=A+1+m by omega] at this
     rw[this];rfl
   ·obtain⟨a1,a2,a3,a4⟩:=R.thing k F i w C T
    have hs:=w.sz_pos;refine⟨by simp only[if_neg X];exact al _ a1,fun d m x y=>?_,fun d=>?_,fun d m x y=>?_⟩
    ·simp only[if_neg X]
     have hm:=(Zi y).1
     have:=w.sz_l d
     show Rep _ _ _ x ((B.p.puts A l).ws (π k i+m));rw[K _ a1 (π k i+m) (by simp only;omega) (by simp only;omega)]
     exact W _ _ (a2 d m x y)
    ·simp only[if_neg X]
     show (B.p.puts A l).ws (π k i)=_;rw[K _ a1 (π k i) (by simp only;omega) (by simp only;omega)]
     exact a3 d
    ·simp only[if_neg X]
     have hm:=(Zi y).1
     have:=w.sz_a d
     refine⟨(a4 d m x y).1,?_⟩
     show (B.p.puts A l).ws (π k i+1+m)=_;rw[K _ a1 (π k i+1+m) (by simp only;omega) (by simp only;omega)]
     exact(a4 d m x y).2
  ·have aq:∀ k0 F i0 t0,h.place k0=some F->F.l[i0]?=some t0->¬ (A<π k0 i0+t0.sz/\π k0 i0<A+t.sz):=fun k0 F i0 t0 b D=>by
    have:=(G1 _ (R.thing k0 F i0 t0 b D).run).apart ⟨φ k0,π k0 i0,t0.sz⟩ (by simp)
    rw[hA] at this
    simp only at this
    omega
   rcases U k v i w s E with ⟨u,ei,et⟩|⟨ao,F,C,T⟩
   ·rcases U k' Q i' N c am with ⟨V,aa,ad⟩|⟨ab,ac,M,J⟩
    ·exact absurd ⟨by rw[u,V],by rw[ei,aa]⟩ X
    ·simp only[if_pos (And.intro u ei),if_neg ab]
     rw[et]
     exact aq k' ac i' N M J
   ·rcases U k' Q i' N c am with ⟨V,aa,ad⟩|⟨ab,ac,M,J⟩
    ·simp only[if_pos (And.intro V aa),if_neg ao]
     rw[ad]
     have:=aq k F i w C T
     omega
    ·simp only[if_neg ao,if_neg ab]
     exact R.apart k F i w k' ac i' N C T M J X
  ·rw[f]
   refine⟨fun b=>?_,fun _=>⟨by simp only;omega,by simp;omega,fun v c=>⟨fun b=>?_,fun _=>?_⟩⟩⟩
   ·exfalso;unfold Qw.knd at b;simp only at b;split at b<;>omega
   ·exfalso;unfold Qw.knd at b;simp only at b;split at b<;>omega
   ·have ar:(h.put a t t.sz).2.2.place j=some v:=by rw[f];exact c
    rw[pl,Xs hj.symm] at ar
    cases ar
    refine⟨by simp,by simp,?_⟩
    simp[hj]
end
section
variable {h:Qd}{e:Est}{φ:Int->Nat}{π:Int->Nat->Nat}
theorem PSt.load_at {s:PSt}(a:k<16*s.pages):s.load (k:Int)=s.ws k:=by
 unfold PSt.load PSt.place;rw[Xs (by simp;omega),XT]
theorem Qbc.low {q:Run}(b:Qbc e q) (ok:e.Ok):0<=q.at_/\q.at_+q.n<=16*e.p.pages:=by
 obtain⟨j,r,p,g,c,a,i,h,f,-⟩:=b
 have d:p∈e.pagesAt j:=by rw[Est.at_some c];exact a
 have:=ok.low d
 omega
theorem Qbc.out {q:Run}(l:Qbc e q) (ok:e.Ok){r:Reg}(a:e.reg j=some r) (b:r.pages≠[])(y:16*r.pages.getLastD 0+r.used<=i) (w:(i:Int)<16*r.pages.getLastD 0+16):¬ (q.at_<=i/\i<q.at_+q.n):=fun ⟨x,t⟩=>by
 obtain⟨c,A,p,B,d,h,u,s,z,g⟩:=l
 have m:p∈e.pagesAt c:=by rw[Est.at_some d];exact h
 have o:r.pages.getLastD 0∈e.pagesAt j:=by rw[Est.at_some a];exact Qcw b
 have v:=ok.used j r a;have f:p=r.pages.getLastD 0:=by omega
 have k:=ok.apart c j p m (f ▸ o);subst k;rw[d] at a
 cases a
 have:=g f
 omega
theorem Qa9.at (R:Qa9 h e φ π){x:Q4}{n:Int}(H:Rep h φ π x n){t:Qw}(f:h.thing x=some t):n=π x.region x.thing.toNat/\Ql6 h e φ π x.region x.thing.toNat t:=by
 obtain⟨g,p,a,i,c,l⟩:=Qd.thing_iff.1 f
 obtain⟨j,k,b⟩:=H.2 (by omega)
 obtain⟨-,d⟩:=b p a
 exact⟨(d (by omega)).2.2,R.thing _ p _ t a c⟩
theorem Qa9.load (R:Qa9 h e φ π){k:Int}{t:Qw}(T:Ql6 h e φ π k i t)(a:m<t.sz):e.p.load ((π k i+m:Nat):Int)=e.p.ws (π k i+m) :=
 PSt.load_at (by have:=T.run.low R.ok;simp only at this;omega)
theorem Qa9.get (R:Qa9 h e φ π){x:Q4}{n:Int}(H:Rep h φ π x n) (d:x.kind=3){k:Int}(a:(h.get x k).2=0):0<=k/\k<16/\Rep h φ π (h.get x k).1 (e.p.load (n+k)):=by
 unfold Qd.get at a |-
 cases ht:h.thing x with
 | none=>rw[ht] at a;cases a
 | some t =>
   rw[ht] at a
   simp only at a |-
   by_cases c:k<0
   ·rw[Xs c] at a;cases a
   ·rw[Xr c] at a |-
    cases hy:t.l[k.toNat]? with
    | none=>rw[hy] at a;cases a
    | some y =>
      obtain⟨j,T⟩:=R.at H ht
      have b:t.arr=false:=by
       obtain⟨-,p,-,-,-,b⟩:=Qd.thing_iff.1 ht
       rw[b];simp[d]
      have g:=(Zi hy).1;have q:=t.sz_l b;have o:=T.run
      have m:t.sz<=16:=by
       obtain⟨_,_,_,_,_,_,i,f,_,_⟩:=o
       simp only at i f;omega
      refine⟨by omega,by omega,?_⟩
      simp only
      have:=T.tuple b k.toNat y hy
      rw[j,show ((π x.region x.thing.toNat:Int)+k)=((π x.region x.thing.toNat+k.toNat:Nat):Int) by omega,R.load T (by omega)]
      exact this
theorem Qa9.len (R:Qa9 h e φ π){x:Q4}{n:Int}(H:Rep h φ π x n) (c:x.kind=4) (b:(h.len x).2=0):e.p.load n=(h.len x).1:=by
 unfold Qd.len at b |-
 cases ht:h.thing x with
 | none=>rw[ht] at b;cases b
 | some t =>
   obtain⟨d,T⟩:=R.at H ht
   have a:t.arr=true:=by
    obtain⟨-,p,-,-,-,a⟩:=Qd.thing_iff.1 ht
    rw[a];simp[c]
   have:=R.load T (m:=0) t.sz_pos
   rw[Nat.add_zero] at this
   simp only
   rw[d,this,T.len a]
theorem Qa9.num (R:Qa9 h e φ π){x:Q4}{n:Int}(H:Rep h φ π x n) (f:x.kind=4){k:Int}(b:(h.get x k).2=0\/(h.get x k).2=1) :
 ((h.get x k).2=1↔¬ (0<=k/\k<e.p.load n))/\((h.get x k).2=0->(h.get x k).1.kind=1/\e.p.load (n+1+k)=(h.get x k).1.n/\n+1+k<2000/\0<=n/\0<=k):=by
 unfold Qd.get at b |-
 cases ht:h.thing x with
 | none=>rw[ht] at b;simp at b
 | some t =>
   obtain⟨d,T⟩:=R.at H ht
   have a:t.arr=true:=by
    obtain⟨-,p,-,-,-,a⟩:=Qd.thing_iff.1 ht
    rw[a];simp[f]
   have i:e.p.load n=t.l.length:=by
    have:=R.load T (m:=0) t.sz_pos
    rw[Nat.add_zero] at this
    rw[d,this,T.len a]
   rw[i]
   simp only
   by_cases c:k<0
   ·rw[Xs c]
    refine⟨⟨fun _=>by omega,fun _=>rfl⟩,fun h=>by cases h⟩
   ·rw[Xr c]
    cases hy:t.l[k.toNat]? with
    | none =>
      have:=List.getElem?_eq_none_iff.1 hy
      exact⟨⟨fun _=>by omega,fun _=>rfl⟩,fun h=>by cases h⟩
    | some y =>
      have j:=(Zi hy).1;refine⟨⟨fun h=>(by cases h),fun h=>absurd ⟨by omega,by omega⟩ h⟩,fun _=>?_⟩
      obtain⟨g,o⟩:=T.nums a k.toNat y hy
      have q:=T.run.low R.ok;have r:=R.ok.ok.most;have s:=t.sz_a a;simp only at q |-
      refine⟨g,?_,by omega,by omega,by omega⟩
      rw[d,show ((π x.region x.thing.toNat:Int)+1+k)=((π x.region x.thing.toNat+(1+k.toNat):Nat):Int) by omega,R.load T (by omega),show π x.region x.thing.toNat+(1+k.toNat)=π x.region x.thing.toNat+1+k.toNat by omega]
      exact o
theorem Qa9.set (R:Qa9 h e φ π){x:Q4}{n:Int}(H:Rep h φ π x n){t:Qw}(ht:h.thing x=some t)(hk:k<t.l.length){y:Q4}{z:Int}
 (hy:t.arr=false→Rep h φ π y z) (hz:t.arr=true→y.kind=1∧z=y.n) :
 (h.set x (k:Int) y).1=0∧Qa9 (h.set x (k:Int) y).2 (e.withP (e.p.store (n+k+(if t.arr then 1 else 0)) z)) φ π∧∀ v m,Rep h φ π v m→Rep (h.set x (k:Int) y).2 φ π v m:=by
 obtain⟨aj,p,I,h0,hi,ha⟩:=Qd.thing_iff.1 ht
 obtain⟨hn,T⟩:=R.at H ht
 obtain⟨q0,q1,q2⟩:=Qd.place_some I
 have ae:=(Zi q1).1
 have eS:h.set x (k:Int) y=(0,{ h with L:=h.L.set x.region.toNat { p with l:=p.l.set x.thing.toNat { t with l:=t.l.set k y } } }):=by
  unfold Qd.set;rw[ht,I]
  simp only
  rw[Xr (fun c=>c.2 (hz c.1).1),Xr (by omega),XT]
 have U:((x.region.toNat:Nat):Int)=x.region:=by omega
 have N:∀ i,(h.set x (k:Int) y).2.place i=if i=x.region then some { p with l:=p.l.set x.thing.toNat { t with l:=t.l.set k y } } else h.place i:=fun i=>by
  rw[eS];simp only
  rw[Qd.place_set ae,U]
  simp only[q2,if_true]
 -- the word
 obtain⟨A,B⟩:∃ A,π x.region x.thing.toNat+k+(if t.arr then 1 else 0)=A:=⟨_,Z⟩
 have ak:π x.region x.thing.toNat≤A∧A<π x.region x.thing.toNat+t.sz:=by
  cases f:t.arr with
  | true=>rw[f] at B;have:=t.sz_a f;simp at B;omega
  | false=>rw[f] at B;have:=t.sz_l f;simp at B;omega
 have Q:=T.run.low R.ok;simp only at Q
 have eA:(n+k+(if t.arr then 1 else 0):Int)=(A:Int):=by
  rw[hn,← B]
  cases t.arr<;>simp
 have af:e.p.place (A:Int)=true:=by simp[PSt.place];omega
 have es:e.p.store (n+k+(if t.arr then 1 else 0)) z={ e.p with ws:=fun i=>if (i:Int)=A then z else e.p.ws i }:=by
  rw[eA];unfold PSt.store;rw[Xs af]
 rw[es]
 have ws:∀ i:Nat,(if (i:Int)=A then z else e.p.ws i)=if i=A then z else e.p.ws i:=fun i=>by
  by_cases c:i=A
  ·rw[Xs c,Xs (by omega)]
  ·rw[Xr c,Xr (by omega)]
 have G:∀ v m,Rep h φ π v m→Rep (h.set x (k:Int) y).2 φ π v m:=fun v m Hv=>Hv.mono (by rw[eS];simp) (fun j g _ _ a=>by
  rw[N] at a
  split at a
  ·rename_i u;cases a;exact⟨p,by rw[u];exact I,Z,by simp,fun _ _=>rfl⟩
  ·exact⟨g,a,Z,Ze,fun _ _=>rfl⟩)
 have ab:∀ j g i o,(h.set x (k:Int) y).2.place j=some g→g.l[i]?=some o→(j=x.region∧i=x.thing.toNat∧o={ t with l:=t.l.set k y })∨(¬ (j=x.region∧i=x.thing.toNat)∧∃ w,h.place j=some w∧w.l[i]?=some o):=fun j g i o a d=>by
  rw[N] at a
  split at a
  ·rename_i u
   cases a
   simp only at d
   by_cases F:i=x.thing.toNat
   ·subst F
    have:=(Zi hi).1
    rw[List.getElem?_set_self this] at d
    cases d
    exact .inl ⟨u,Z,Z⟩
   ·rw[List.getElem?_set_ne (Ne.symm F)] at d
    exact .inr ⟨fun c=>F c.2,p,by rw[u];exact I,d⟩
  ·rename_i u
   exact .inr ⟨fun c=>u c.1,g,a,d⟩
 have aa:({ t with l:=t.l.set k y }:Qw).sz=t.sz:=by unfold Qw.sz;simp
 have D:∀ (j:Int) (g:Qr) (i:Nat) (o:Qw),(h.set x (k:Int) y).2.place j=some g→g.l[i]?=some o→∃ (w:Qr) (t0:Qw),h.place j=some w∧w.l[i]?=some t0∧o.sz=t0.sz:=fun j g i o P O=>by
  rcases ab j g i o P O with ⟨u,F,et⟩|⟨-,w,h3,h4⟩
  ·exact⟨p,t,by rw[u];exact I,by rw[F];exact hi,by rw[et,aa]⟩
  ·exact⟨w,o,h3,h4,Z⟩
 refine⟨by rw[eS],⟨⟨⟨R.ok.ok.most,R.ok.ok.low,R.ok.ok.high,R.ok.ok.nodup,R.ok.ok.mem⟩,R.ok.top,R.ok.nodup,R.ok.apart,R.ok.mem,R.ok.used⟩,by rw[eS];exact R.left,fun j g a=>?_,fun j X g K a C he=>?_,fun i r hr=>?_,fun j r hr E i P O=>?_,fun j g i o a d=>?_,fun j g i o X K i' ah a d C W ad=>?_⟩,G⟩
 ·rw[N] at a
  split at a
  ·rename_i u;cases a;rw[u];exact R.reg _ p I
  ·exact R.reg j g a
 ·have S:∀ i q,(h.set x (k:Int) y).2.place i=some q→∃ q',h.place i=some q':=fun i q M=>by
   rw[N] at M
   split at M
   ·rename_i F;exact⟨p,by rw[F];exact I⟩
   ·exact⟨q,M⟩
  obtain⟨q,M⟩:=S j g a
  obtain⟨q',ag⟩:=S X K C
  exact R.inj j X q q' M ag he
 ·obtain⟨j,q,M,hj⟩:=R.onto i r hr
  by_cases u:j=x.region
  ·exact⟨j,_,by rw[N,Xs u],hj⟩
  ·exact⟨j,q,by rw[N,Xr u];exact M,hj⟩
 ·show (if (i:Int)=A then z else e.p.ws i)=0;rw[ws,Xr (fun c=>T.run.out R.ok hr E P O (by subst c;simp only;omega))]
  exact R.clear j r hr E i P O
 ·rcases ab j g i o a d with ⟨u,F,et⟩|⟨E,w,V,ac⟩
  ·subst et;rw[u,F]
   refine⟨by rw[aa];exact T.run,fun f m v s=>?_,fun f=>?_,fun f m v s=>?_⟩
   ·have b:t.arr=false:=f;show Rep _ _ _ v (if ((π x.region x.thing.toNat+m:Nat):Int)=A then z else _);rw[ws]
    rw[b] at B
    simp at B
    simp only at s
    by_cases J:m=k
    ·subst J;rw[List.getElem?_set_self hk] at s
     cases s
     rw[Xs (by omega)]
     exact G _ _ (hy b)
    ·rw[List.getElem?_set_ne (Ne.symm J)] at s
     rw[Xr (by omega)]
     exact G _ _ (T.tuple b m v s)
   ·have b:t.arr=true:=f;show (if ((π x.region x.thing.toNat:Nat):Int)=A then z else _)=_;rw[b] at B
    simp at B
    rw[ws,Xr (by omega),T.len b]
    simp
   ·have b:t.arr=true:=f;show v.kind=1∧(if ((π x.region x.thing.toNat+1+m:Nat):Int)=A then z else _)=_;rw[ws]
    rw[b] at B
    simp at B
    simp only at s
    by_cases J:m=k
    ·subst J;rw[List.getElem?_set_self hk] at s
     cases s
     rw[Xs (by omega)]
     exact hz b
    ·rw[List.getElem?_set_ne (Ne.symm J)] at s
     rw[Xr (by omega)]
     exact T.nums b m v s
  ·have TT:=R.thing j w i o V ac;have ai:=R.apart j w i o x.region p x.thing.toNat t V ac I hi (fun c=>E c);have hs:=o.sz_pos;refine⟨TT.run,fun f m v s=>?_,fun f=>?_,fun f m v s=>?_⟩
   ·have J:=(Zi s).1
    have:=o.sz_l f
    show Rep _ _ _ v (if ((π j i+m:Nat):Int)=A then z else _);rw[ws,Xr (by omega)]
    exact G _ _ (TT.tuple f m v s)
   ·show (if ((π j i:Nat):Int)=A then z else _)=_;rw[ws,Xr (by omega)]
    exact TT.len f
   ·have J:=(Zi s).1
    have:=o.sz_a f
    refine⟨(TT.nums f m v s).1,?_⟩
    show (if ((π j i+1+m:Nat):Int)=A then z else _)=_;rw[ws,Xr (by omega)]
    exact(TT.nums f m v s).2
 ·obtain⟨w,t0,P,O,h3⟩:=D j g i o a d
  obtain⟨p1,t1,h4,h5,h6⟩:=D X K i' ah C W
  rw[h3,h6]
  exact R.apart j w i t0 X p1 i' t1 P O h4 h5 ad
end
structure FrR (h:Qd) (φ:Int->Nat) (π:Int->Nat->Nat) (a:IFr) (b:RFr):Prop where
 eF:b.f=a.f
 eB:b.b=a.b
 eI:b.i=a.i
 len:b.v.length=a.v.length
 val:∀ (j:Nat) x n,a.v[j]?=some x->b.v[j]?=some n->Rep h φ π x n
def Qep (h:Qd) (φ:Int->Nat) (π:Int->Nat->Nat):List IFr->List RFr->Prop
 | [],[]=>True
 | a::l,b::k=>FrR h φ π a b/\Qep h φ π l k
 | _,_=>False
structure Sim (φ:Int->Nat) (π:Int->Nat->Nat) (M:IM) (R:RM):Prop where
 heap:Qa9 M.h R.e φ π
 done:R.done=M.done
 out:R.out=M.out
 back:R.back=M.back
 fuel:R.fuel=M.fuel
 fin:R.fin=M.fin
 inp:M.done=false->R.inp=M.inp
 top:M.done=false->FrR M.h φ π M.top R.top
 rest:M.done=false->Qep M.h φ π M.rest R.rest
def Qew (M:IM) (R:RM):Prop:=∃ φ π,Sim φ π M R
section
variable {h h':Qd}{e:Est}{φ φ':Int->Nat}{π π':Int->Nat->Nat}{M:IM}{R:RM}{x:Qt}{a:IFr}{b:RFr}
theorem FrR.mono (F:FrR h φ π a b) (c:∀ x n,Rep h φ π x n->Rep h' φ' π' x n):FrR h' φ' π' a b:=⟨F.eF,F.eB,F.eI,F.len,fun j x n e d=>c x n (F.val j x n e d)⟩
theorem Qep.mono (c:∀ x n,Rep h φ π x n->Rep h' φ' π' x n):∀ {l:List IFr}{k:List RFr},Qep h φ π l k->Qep h' φ' π' l k
 | [],[],_=>trivial
 | a::l,b::k,H=>⟨H.1.mono c,Qep.mono c H.2⟩
 | [],_::_,H=>H.elim
 | _::_,[],H=>H.elim
theorem Qep.length:∀ {l:List IFr}{k:List RFr},Qep h φ π l k->k.length=l.length
 | [],[],_=>rfl
 | a::l,b::k,H=>congrArg (·+1) (Qep.length H.2)
 | [],_::_,H=>H.elim
 | _::_,[],H=>H.elim
theorem FrR.at (F:FrR h φ π a b){k:Int}{x:Q4}(c:QQ a.v k=some x):∃ n,iAt b.v k=some n/\Rep h φ π x n:=by
 unfold QQ at c;unfold iAt;split at c
 ·cases c
 ·rename_i e
  rw[Xr e]
  have f:=(Zi c).1;obtain⟨n,d⟩:∃ n,b.v[k.toNat]?=some n:=⟨_,Zg (by rw[F.len];exact f)⟩
  exact⟨_,d,F.val _ x _ c d⟩
theorem FrR.num (F:FrR h φ π a b){k n:Int}(c:QS a.v k=some n):iAt b.v k=some n:=by
 unfold QS at c
 cases hv:QQ a.v k with
 | none=>rw[hv] at c;cases c
 | some y =>
   rw[hv] at c
   simp only at c
   split at c
   ·rename_i d
    cases c
    obtain⟨m,f,e⟩:=F.at hv
    rw[f,e.1 d]
   ·cases c
theorem FrR.all (F:FrR h φ π a b):∀ {l:List Int}{xs:List Q4},Q8 a.v l=some xs->∃ ns,Qaz b.v l=some ns/\xs.length=l.length/\ns.length=xs.length/\∀ (j:Nat) x n,xs[j]?=some x->ns[j]?=some n->Rep h φ π x n
 | [],xs,hx=>by cases hx;exact⟨[],Z,Z,Z,fun j x n h=>by simp at h⟩
 | k::l,xs,hx=>by
   simp only[Q8] at hx
   cases h1:QQ a.v k with
   | none=>rw[h1] at hx;cases hx
   | some y =>
     rw[h1] at hx
     simp only at hx
     cases h2:Q8 a.v l with
     | none=>rw[h2] at hx;cases hx
     | some ys =>
       rw[h2] at hx
       simp only at hx
       cases hx
       obtain⟨n,o,e⟩:=F.at h1
       obtain⟨ns,g,i,f,p⟩:=F.all h2
       refine⟨n::ns,by simp only[Qaz,o,g],by simp[i],by simp[f],fun j z m d c=>?_⟩
       cases j with
       | zero=>simp at d c;subst d c;exact e
       | succ j=>exact p j z m (by simpa using d) (by simpa using c)
theorem FrR.nums (F:FrR h φ π a b):∀ {l:List Int}{ns:List Int},Qcf a.v l=some ns->Qaz b.v l=some ns
 | [],ns,hx=>by cases hx;rfl
 | k::l,ns,hx=>by
   simp only[Qcf] at hx
   cases h1:QS a.v k with
   | none=>rw[h1] at hx;cases hx
   | some y =>
     rw[h1] at hx
     simp only at hx
     cases h2:Qcf a.v l with
     | none=>rw[h2] at hx;cases hx
     | some ys =>
       rw[h2] at hx
       simp only at hx
       cases hx
       simp only[Qaz,F.num h1,F.nums h2]
theorem FrR.push (F:FrR h φ π a b){xs:List Q4}{ns:List Int}(g:ns.length=xs.length) (l:∀ (j:Nat) x n,xs[j]?=some x->ns[j]?=some n->Rep h φ π x n) (i j:Nat) (f:j=i):FrR h φ π ({ a with v:=a.v++xs,i:=i }) ({ b with v:=b.v++ns,i:=j }):=by
 refine⟨F.eF,F.eB,f,by simp[F.len,g],fun k x n d e=>?_⟩
 simp only at d e
 rcases Nat.lt_or_ge k a.v.length with c | c
 ·rw[XP c] at d
  rw[XP (by rw[F.len];exact c)] at e
  exact F.val k x n d e
 ·rw[XQ c] at d
  rw[XQ (by rw[F.len];exact c),F.len] at e
  exact l _ x n d e
theorem Qd5 (n:Int):Rep h φ π (Qcs n) n:=⟨fun _=>rfl,fun a=>by unfold Qcs at a;simp at a⟩
theorem Sim.over {H:Qa9 M.h R.e φ π}(b:R.out=M.out) (c:R.back=M.back) (a:R.fuel=M.fuel) (k:Int):Qew (M.over k) (R.over k) :=
 ⟨φ,π,H,Z,b,c,a,Z,(fun h=>by cases h),(fun h=>by cases h),(fun h=>by cases h)⟩
end
theorem Zo {a:Nat->Int}{t u:TT (n+1)}(h:t.ren m a=some u):u.1=t.1/\ZJ m a t.1 t.2.1=some u.2.1/\ZS (TT.ren m a) t.2.2=some u.2.2:=by
 simp only[TT.ren] at h
 cases e1:ZJ m a t.1 t.2.1 with
 | none=>simp[e1] at h
 | some r1 =>
   simp only[e1] at h
   cases e2:ZS (TT.ren m a) t.2.2 with
   | none=>simp[e2] at h
   | some l1 =>
     simp only[e2] at h
     have h:=Xn h;subst h;exact⟨Z,Z,Z⟩
theorem ZR {a:Nat->Int}{t:TT (n+1)}{r:Int}{l:List (TT n)}(c:ZJ m a t.1 t.2.1=some r) (b:ZS (TT.ren m a) t.2.2=some l):t.ren m a=some ((t.1,r,l):Int × Int × List (TT n)):=by
 simp only[TT.ren,c,b]
 rfl
theorem TT.ren_inv {m b:Nat}{g a:Nat->Int}(e:∀ k r r',ZJ m g k r=some r'->ZJ b a k r'=some r):{n:Nat}->{t u:TT n}->t.ren m g=some u->u.ren b a=some t
 | 0,t,_,_=>Empty.elim t
 | n+1,t,u,h=>by
   obtain⟨l,o,q⟩:=Zo h
   obtain⟨j,s⟩:=ZT.1 q
   have p:ZS (TT.ren b a) u.2.2=some t.2.2:=by
    refine ZT.2 ⟨j.symm,fun i x f=>?_⟩;have c:i<t.2.2.length:=by rw[<-j];exact(Zi f).1
    have d:=s i t.2.2[i] (Zg c);rw[f] at d
    rw[Zg c]
    exact TT.ren_inv e d
   have:=ZR (t:=u) (by rw[l];exact e _ _ _ o) p
   rw[this,l]
   rfl
theorem TT.ren_comp {m o d:Nat}{j e a:Nat->Int}(s:∀ k r r',ZJ m j k r=some r'->∃ r'',ZJ o e k r'=some r''/\ZJ d a k r=some r''):{n:Nat}->{t u:TT n}->t.ren m j=some u->∃ v,u.ren o e=some v/\t.ren d a=some v
 | 0,t,_,_=>Empty.elim t
 | n+1,t,u,h=>by
   obtain⟨q,D,H⟩:=Zo h
   obtain⟨r'',J,A⟩:=s _ _ _ D
   obtain⟨L,F⟩:=ZT.1 H
   have g:∀ (l c:List (TT n)),c.length=l.length->(∀ (i:Nat) x,l[i]?=some x->x.ren m j=c[i]?)->∃ b,ZS (TT.ren o e) c=some b/\ZS (TT.ren d a) l=some b:=by
    intro l
    induction l with
    | nil =>
      intro c f _
      have:c=[]:=Xf.1 f
      subst this;exact⟨[],Z,Z⟩
    | cons x xs ih =>
      intro c f p
      cases c with
      | nil=>simp at f
      | cons y ys =>
        obtain⟨v,E,B⟩:=TT.ren_comp s (t:=x) (u:=y) (by simpa using p 0 x Z)
        obtain⟨I,M,K⟩:=ih ys (by simpa using f) (fun i z G=>by simpa using p (i+1) z (by simpa using G))
        exact⟨v::I,by simp[ZS,E,M],by simp[ZS,B,K]⟩
   obtain⟨b,C,w⟩:=g t.2.2 u.2.2 L F
   refine⟨((t.1,r'',b):Int × Int × List (TT n)),?_,ZR A w⟩
   have:=ZR (t:=u) (by rw[q];exact J) C
   rw[this,q]
   rfl
theorem TT.at_back:{j:Nat}->(k:Nat)->(t:TT (j+1))->t.height<=k->((t.at k).at j:TT (j+1))=t
 | 0,0,t,h=>by
   obtain⟨a,b,l⟩:=t
   cases l with
   | nil=>rfl
   | cons x l=>exact Empty.elim x
 | 0,k+1,t,h=>by
   obtain⟨a,b,l⟩:=t
   cases l with
   | nil=>rfl
   | cons x l=>exact Empty.elim x
 | j+1,0,t,h=>by
   have:=(Q9 (t:=t)).1 h
   obtain⟨a,b,l⟩:=t
   cases l with
   | nil=>rfl
   | cons x l=>have:=this x (by simp);omega
 | j+1,k+1,t,h=>by
   have c:=(Q9 (t:=t)).1 h;obtain⟨a,b,l⟩:=t
   show ((a,b,(l.map (TT.at k)).map (TT.at j)):Int × Int × List (TT (j+1)))=(a,b,l)
   have:(l.map (TT.at k)).map (TT.at j)=l:=by
    rw[List.map_map]
    have e:∀ x∈l,((TT.at j ∘ TT.at k) x:TT (j+1))=x:=fun x d=>TT.at_back k x (by have:=c x d;omega)
    calc l.map (TT.at j ∘ TT.at k)=l.map id:=List.map_congr_left e
     _=l:=List.map_id l
   rw[this]
theorem Qjm {n m k:Nat}{a:Nat->Int}:∀ {l l':List (TT n)},(∀ x∈l,∀ u,x.ren m a=some u->(x.at k).ren m a=some (u.at k))->ZS (TT.ren m a) l=some l'->ZS (TT.ren m a) (l.map (TT.at k))=some (l'.map (TT.at k))
 | [],l',_,h=>by simp[ZS] at h;subst h;rfl
 | x::xs,l',hx,h=>by
   simp only[ZS] at h
   cases h1:x.ren m a with
   | none=>simp[h1] at h
   | some y =>
     simp only[h1] at h
     cases h2:ZS (TT.ren m a) xs with
     | none=>simp[h2] at h
     | some ys =>
       simp only[h2] at h
       cases h
       have c:=hx x (by simp) y h1;have b:=Qjm (k:=k) (fun z d=>hx z (by simp[d])) h2;simp only[List.map_cons,ZS,c,b]
theorem TT.ren_at {m:Nat}{a:Nat->Int}:{n:Nat}->(k:Nat)->{t u:TT n}->t.ren m a=some u->(t.at k).ren m a=some (u.at k)
 | 0,_,t,_,_=>Empty.elim t
 | n+1,0,t,u,h=>by
   obtain⟨b,c,d⟩:=Zo h
   have:(t.at 0).ren m a=some (((t.at 0).1,u.2.1,[]):Int × Int × List (TT 0)):=ZR (t:=t.at 0) c Z
   rw[this]
   show some ((t.1,u.2.1,[]):Int × Int × List (TT 0))=some ((u.1,u.2.1,[]):Int × Int × List (TT 0));rw[b]
 | n+1,k+1,t,u,h=>by
   obtain⟨b,c,d⟩:=Zo h
   have e:=Qjm (k:=k) (fun x _ v f=>TT.ren_at k f) d
   have:(t.at (k+1)).ren m a=some (((t.at (k+1)).1,u.2.1,u.2.2.map (TT.at k)):Int × Int × List (TT (k+1))):=ZR (t:=t.at (k+1)) c e
   rw[this]
   show some ((t.1,u.2.1,u.2.2.map (TT.at k)):Int × Int × List (TT (k+1)))=some ((u.1,u.2.1,u.2.2.map (TT.at k)):Int × Int × List (TT (k+1)));rw[b]
theorem Qd9 {α:Type}{f:α->Option α}:∀ {l l':List α}{i:Nat}{x:α},ZS f l=some l'->l[i]?=some x->∃ y,l'[i]?=some y/\f x=some y
 | [],_,_,_,_,h=>by simp at h
 | z::zs,l',i,x,h,hx=>by
   simp only[ZS] at h
   cases h1:f z with
   | none=>simp[h1] at h
   | some y =>
     simp only[h1] at h
     cases h2:ZS f zs with
     | none=>simp[h2] at h
     | some ys =>
       simp only[h2] at h
       cases h
       cases i with
       | zero=>simp at hx;subst hx;exact⟨y,by simp,h1⟩
       | succ i=>simpa using Qd9 (i:=i) h2 (by simpa using hx)
abbrev Sig:=Int->Nat->Option (TT 6)
def QdY (s:Sig) (x:Q4) (t:TT 6):Prop :=
 (t.kind=1/\x.kind=1)\/(t.kind=2/\x.kind=2/\x.region=t.r)\/((t.kind=3\/t.kind=4)/\x.kind=t.kind/\x.region=t.r/\0<=x.thing/\s x.region x.thing.toNat=some t)
def Sig.le (s s':Sig):Prop:=∀ k i t,s k i=some t->s' k i=some t
theorem QdY.mono {s b:Sig}(h:s.le b){x:Q4}{t:TT 6}(f:QdY s x t):QdY b x t:=by
 rcases f with a | a | ⟨a,g,c,e,d⟩
 ·exact .inl a
 ·exact .inr (.inl a)
 ·exact .inr (.inr ⟨a,g,c,e,h _ _ _ d⟩)
def QbA (s:Sig) (t:Qw) (u:TT 6):Prop :=
 (t.arr=true/\u.kind=4/\∀ (y:Q4),y∈t.l->y.kind=1) \/
 (t.arr=false/\u.kind=3/\t.l.length=u.2.2.length/\∀ (j:Nat) (y:Q4) (w:TT 5),t.l[j]?=some y->u.2.2[j]?=some w->QdY s y (w.at 5))
theorem QbA.mono {s b:Sig}(h:s.le b){t:Qw}{u:TT 6}(g:QbA s t u):QbA b t u:=by
 rcases g with a | ⟨a,i,d,e⟩
 ·exact .inl a
 ·exact .inr ⟨a,i,d,fun j y w f c=>(e j y w f c).mono h⟩
structure StT (s:Sig) (h:Qd):Prop where
 thing:∀ (k:Int) (p:Qr) (i:Nat) (t:Qw),h.place k=some p->p.l[i]?=some t->∃ u,s k i=some u/\u.r=k/\QbA s t u
 there:∀ (k:Int) (p:Qr) (i:Nat) (u:TT 6),h.place k=some p->s k i=some u->∃ t,p.l[i]?=some t
 range:∀ (k:Int) (i:Nat) (u:TT 6),s k i=some u->0<=k/\k<h.L.length
theorem StT.new (n:Nat):StT (fun _ _=>none) (Qd.new n):=⟨fun k p i t a=>by unfold Qd.place at a;simp[Qd.new] at a,fun k p i u a h=>(nomatch h),fun k i u h=>(nomatch h)⟩
theorem StT.open {s:Sig}{h:Qd}(S:StT s h):StT s h.open_.2.2:=by
 unfold Qd.open_;split
 ·exact S
 ·have f:=fun j=>Qd.place_push h newP j h.left;refine⟨fun k p i t a d=>?_,fun k p i u a b=>?_,fun k i u b=>?_⟩
  ·rw[f] at a
   by_cases e:k=h.L.length
   ·rw[Xs e] at a
    have c:some newP=some p:=a
    cases c;simp[newP] at d
   ·rw[Xr e] at a;exact S.thing k p i t a d
  ·rw[f] at a
   by_cases e:k=h.L.length
   ·have:=S.range k i u b;omega
   ·rw[Xr e] at a;exact S.there k p i u a b
  ·have:=S.range k i u b
   simp;omega
theorem StT.shut {s:Sig}{h:Qd}(S:StT s h) (v:Q4):StT s (h.shut v).2:=by
 unfold Qd.shut
 cases ha:h.at v with
 | none=>exact S
 | some p =>
   obtain⟨n,o,j,l,d,m⟩:=Qd.at_some ha
   have b:=(Zi d).1;simp only[l,Int.toNat_natCast]
   have f:=fun k=>Qd.place_set b noP (h.left+p.pages) k;refine⟨fun k q i t a g=>?_,fun k q i u a c=>?_,fun k i u c=>?_⟩
   ·rw[f] at a
    by_cases e:k=j
    ·rw[Xs e] at a;simp[noP] at a
    ·rw[Xr e] at a;exact S.thing k q i t a g
   ·rw[f] at a
    by_cases e:k=j
    ·rw[Xs e] at a;simp[noP] at a
    ·rw[Xr e] at a;exact S.there k q i u a c
   ·have:=S.range k i u c;simp;omega
def Sig.add (s:Sig) (k:Int) (i:Nat) (u:TT 6):Sig:=fun k' i'=>if k'=k/\i'=i then some u else s k' i'
theorem Sig.add_le {s:Sig}{k:Int}{u:TT 6}(h:s k i=none):s.le (s.add k i u):=fun c b t a=>by
 unfold Sig.add;rw[Xr (fun e=>by rw[e.1,e.2,h] at a;cases a)];exact a
theorem StT.put {s:Sig}{h:Qd}(S:StT s h){v:Q4}{t:Qw}{words:Int}{p:Qr}{u:TT 6}(J:h.at v=some p) (D:u.r=v.region) (M:QbA s t u) :
 (∃ s',s.le s'/\StT s' (h.put v t words).2.2/\((h.put v t words).2.1=0->QdY s' (h.put v t words).1 u)):=by
 obtain⟨O,B,j,b,E,H⟩:=Qd.at_some J
 have A:=(Zi E).1;by_cases e:p.tight words=true/\h.left=0
 ·rw[Qd.put_full t words J e.1 e.2]
  exact⟨s,fun _ _ _ h=>h,S,fun h=>by cases h⟩
 ·rw[Qd.put_ok t words J b e]
  have n:s v.region p.l.length=none:=by
   cases hs:s v.region p.l.length with
   | none=>rfl
   | some w =>
     obtain⟨y,g⟩:=S.there _ p _ w B hs
     have:=(Zi g).1
     omega
  have le:=Sig.add_le (u:=u) n;have K:=fun k=>Qd.place_set A { p.roomed words with l:=p.l++[t] } (h.roomLeft p words) k;have L:(p.roomed words).there=true:=by rw[Qr.roomed_there];exact H
  refine⟨s.add v.region p.l.length u,le,⟨fun k q i y a d=>?_,fun k q i w a f=>?_,fun k i w f=>?_⟩,fun _=>?_⟩
  ·rw[K] at a
   by_cases c:k=j
   ·rw[Xs c] at a
    simp only[L,if_true,Option.some.injEq] at a
    subst a;simp only at d
    rcases Nat.lt_or_ge i p.l.length with G | G
    ·rw[XP G] at d
     obtain⟨w,F,z,C⟩:=S.thing k p i y (by rw[c,<-b];exact B) d
     exact⟨w,le _ _ _ F,z,C.mono le⟩
    ·rw[XQ G] at d
     have:=(Zi d).1
     have N:i - p.l.length=0:=by simp at this;omega
     rw[N] at d;simp at d;subst d
     refine⟨u,?_,by rw[D,b,c],M.mono le⟩
     unfold Sig.add;rw[Xs ⟨by rw[b,c],by omega⟩]
   ·rw[Xr c] at a
    obtain⟨w,F,z,C⟩:=S.thing k q i y a d
    exact⟨w,le _ _ _ F,z,C.mono le⟩
  ·rw[K] at a
   unfold Sig.add at f;by_cases c:k=j
   ·rw[Xs c] at a
    simp only[L,if_true,Option.some.injEq] at a
    subst a;by_cases o:k=v.region/\i=p.l.length
    ·exact⟨t,by simp[o.2]⟩
    ·rw[Xr o] at f
     obtain⟨y,g⟩:=S.there k p i w (by rw[c,<-b];exact B) f
     exact⟨y,by rw[XP (Zi g).1];exact g⟩
   ·rw[Xr (fun e=>c (by rw[e.1,b]))] at f
    rw[Xr c] at a
    exact S.there k q i w a f
  ·unfold Sig.add at f;by_cases o:k=v.region/\i=p.l.length
   ·rw[o.1,b];simp;omega
   ·rw[Xr o] at f
    have:=S.range k i w f;simp;omega
  ·have m:s.add v.region p.l.length u (j:Int) p.l.length=some u:=by unfold Sig.add;rw[Xs ⟨b.symm,Z⟩]
   rcases M with ⟨I,x,-⟩|⟨I,x,-⟩
   ·exact .inr (.inr ⟨.inr x,by rw[x];unfold Qw.knd;rw[I];rfl,by rw[D,b],by simp,by simpa using m⟩)
   ·exact .inr (.inr ⟨.inl x,by rw[x];unfold Qw.knd;rw[I];rfl,by rw[D,b],by simp,by simpa using m⟩)
theorem QdY.thing {s:Sig}{h:Qd}(S:StT s h){x:Q4}{u:TT 6}(n:QdY s x u) (m:u.kind=3\/u.kind=4){p:Qr}(k:h.place u.r=some p):∃ t,h.thing x=some t/\QbA s t u/\x.kind=u.kind:=by
 rcases n with ⟨f,-⟩|⟨f,-⟩|⟨f,b,e,o,g⟩
 ·omega
 ·omega
 ·have a:h.place x.region=some p:=by rw[e];exact k
  obtain⟨t,j⟩:=S.there _ p _ u a g
  obtain⟨w,l,q,i⟩:=S.thing _ p _ t a j
  rw[g] at l;cases l
  refine⟨t,Qd.thing_iff.2 ⟨by rw[b];exact m,p,by rw[e];exact k,o,j,?_⟩,i,b⟩
  rcases i with ⟨c,d,-⟩|⟨c,d,-⟩
  ·rw[c,b,d];rfl
  ·rw[c,b,d];rfl
theorem StT.set {s:Sig}{h:Qd}(S:StT s h){v x:Q4}{t:Qw}{u:TT 6}(K:h.thing v=some t) (Q:QbA s t u) (F:s v.region v.thing.toNat=some u) (M:t.arr=true->x.kind=1) (O:t.arr=false->∀ w,u.2.2[k]?=some w->QdY s x (w.at 5)) (U:k<t.l.length) :
 (h.set v (k:Int) x).1=0/\StT s (h.set v (k:Int) x).2:=by
 obtain⟨R,p,m,X,G,T⟩:=Qd.thing_iff.1 K
 obtain⟨q0,V,I⟩:=Qd.place_some m
 have r:=(Zi V).1
 have e:h.set v (k:Int) x=(0,{ h with L:=h.L.set v.region.toNat { p with l:=p.l.set v.thing.toNat { t with l:=t.l.set k x } } }):=by
  unfold Qd.set;rw[K,m]
  simp only
  rw[Xr (fun e=>e.2 (M e.1)),Xr (by omega),XT]
 rw[e]
 refine⟨Z,?_⟩
 have a:((v.region.toNat:Nat):Int)=v.region:=by omega
 have E:=fun j=>Qd.place_set r { p with l:=p.l.set v.thing.toNat { t with l:=t.l.set k x } } h.left j
 have A:QbA s { t with l:=t.l.set k x } u:=by
  rcases Q with ⟨n,z,o⟩|⟨n,z,o,P⟩
  ·refine .inl ⟨n,z,fun y f=>?_⟩;rcases List.mem_or_eq_of_mem_set f with B | B
   ·exact o y B
   ·rw[B];exact M n
  ·refine .inr ⟨n,z,by simpa using o,fun j y w f g=>?_⟩;simp only at f
   by_cases d:j=k
   ·subst d;simp[U] at f
    subst f;exact O n w g
   ·rw[List.getElem?_set_ne (Ne.symm d)] at f
    exact P j y w f g
 refine⟨fun j q i D b c=>?_,fun j q i w b g=>?_,fun j i w g=>?_⟩
 ·rw[E] at b
  by_cases d:j=v.region.toNat
  ·rw[Xs d] at b
   simp only[I,if_true,Option.some.injEq] at b
   subst b;simp only at c
   by_cases H:i=v.thing.toNat
   ·subst H
    have:=(Zi G).1
    simp[this] at c
    subst c;obtain⟨w,J,N,-⟩:=S.thing v.region p _ t m G
    rw[F] at J;cases J
    exact⟨u,by rw[d,a];exact F,by rw[d,a];exact N,A⟩
   ·rw[List.getElem?_set_ne (Ne.symm H)] at c
    exact S.thing j p i D (by rw[d,a];exact m) c
  ·rw[Xr d] at b;exact S.thing j q i D b c
 ·rw[E] at b
  by_cases d:j=v.region.toNat
  ·rw[Xs d] at b
   simp only[I,if_true,Option.some.injEq] at b
   subst b;obtain⟨D,C⟩:=S.there j p i w (by rw[d,a];exact m) g
   have W:=(Zi C).1;exact⟨_,Zg (by simpa using W)⟩
  ·rw[Xr d] at b;exact S.there j q i w b g
 ·have:=S.range j i w g
  simpa using this
abbrev rtm (r:List Int) (t:TT 6):Option (TT 6):=t.ren r.length (fun i=>r.getD i 0)
structure FrT (g:Sig) (h:Qd) (s:JSt) (v:List Q4) (r:List Int):Prop where
 rl:r.length=s.H.length
 pos:∀ k∈r,0<=k
 held:∀ k,s.H.getD k false=true->∃ p,h.place (r.getD k 0)=some p
 dist:∀ j k,s.H.getD j false=true->s.H.getD k false=true->r.getD j 0=r.getD k 0->j=k
 vl:v.length=s.L.length
 val:∀ (j:Nat) (t:TT 6) (x:Q4),s.L[j]?=some t->v[j]?=some x->∃ u,rtm r t=some u/\QdY g x u
section
variable {g g':Sig}{h h':Qd}{s:JSt}{v:List Q4}{r:List Int}
theorem FrT.keep (F:FrT g h s v r) (c:g.le g') (e:∀ k,s.H.getD k false=true->∃ p,h'.place (r.getD k 0)=some p):FrT g' h' s v r :=
 ⟨F.rl,F.pos,e,F.dist,F.vl,fun j t x d b=>by obtain⟨u,f,a⟩:=F.val j t x d b;exact⟨u,f,a.mono c⟩⟩
theorem FrT.at (F:FrT g h s v r){k:Int}{t:TT 6}(d:s.at k=some t):∃ x u,QQ v k=some x/\rtm r t=some u/\QdY g x u:=by
 obtain⟨-,f,i,a⟩:=Qdw d
 obtain⟨x,b⟩:∃ x,v[k.toNat]?=some x:=⟨_,Zg (by rw[F.vl];omega)⟩
 obtain⟨u,e,c⟩:=F.val _ t x a b
 exact⟨x,u,by unfold QQ;rw[Xr (by omega)];exact b,e,c⟩
theorem Qgp {t u:TT 6}(h:rtm r t=some u):u.kind=t.kind:=(Zo h).1
theorem QlS {t u:TT 6}(h:rtm r t=some u) (b:t.kind≠1):0<=t.r/\t.r<r.length/\u.r=r.getD t.r.toNat 0:=by
 have:=(Zo h).2.1
 unfold ZJ at this;have a:¬ t.1=1:=b;rw[Xr a] at this
 split at this
 ·cases this
 ·rename_i c
  split at this
  ·cases this
  ·have e:u.2.1=r.getD t.2.1.toNat 0:=(Xn this).symm;show 0<=t.2.1/\t.2.1<r.length/\u.2.1=r.getD t.2.1.toNat 0;exact⟨by omega,by omega,e⟩
theorem QdY.kind {x:Q4}{u:TT 6}(h:QdY g x u):x.kind=u.kind:=by
 rcases h with ⟨b,a⟩|⟨b,a,-⟩|⟨-,a,-⟩
 ·rw[b,a]
 ·rw[b,a]
 ·exact a
theorem FrT.want (F:FrT g h s v r){k d:Int}{e:Bool}(q:s.want k d e=0):∃ x t u,s.at k=some t/\QQ v k=some x/\rtm r t=some u/\QdY g x u/\x.kind=d/\t.kind=d/\u.kind=d/\(e=true->d≠1->∃ p,h.place u.r=some p):=by
 obtain⟨t,m,f,o⟩:=Z2 q
 obtain⟨x,u,z,i,n⟩:=F.at m
 have l:=Qgp i;refine⟨x,t,u,m,z,i,n,by rw[n.kind,l,f],f,by rw[l,f],fun w y=>?_⟩
 obtain⟨a,b,c⟩:=QlS i (by rw[f];exact y)
 have j:=o w;unfold hHas at j;simp only[Bool.and_eq_true,decide_eq_true_eq] at j
 rw[c]
 exact F.held _ j.2
theorem FrT.num (F:FrT g h s v r){k:Int}{a:Bool}(b:s.want k 1 a=0):∃ n,QS v k=some n:=by
 obtain⟨x,t,u,-,c,-,-,d,-⟩:=F.want b
 exact⟨x.n,by unfold QS;rw[c];simp[d]⟩
theorem FrT.fields (F:FrT g h s v r):∀ {l:List Int}{ts:List (TT 6)},s.fields l=some ts->∃ xs,Q8 v l=some xs/\xs.length=ts.length/\∀ (j:Nat) (x:Q4) (t:TT 6),xs[j]?=some x->ts[j]?=some t->∃ u,rtm r t=some u/\QdY g x u
 | [],ts,e=>by simp[JSt.fields] at e;subst e;exact⟨[],Z,Z,fun j x t d=>by simp at d⟩
 | k::l,ts,e=>by
   simp only[JSt.fields] at e
   cases h1:s.at k with
   | none=>simp[h1] at e
   | some t =>
     simp only[h1] at e
     cases h2:s.fields l with
     | none=>simp[h2] at e
     | some tl =>
       simp only[h2] at e
       cases e
       obtain⟨x,u,m,n,f⟩:=F.at h1
       obtain⟨xs,c,i,o⟩:=F.fields h2
       refine⟨x::xs,by simp only[Q8,m,c],by simp[i],fun j y w b a=>?_⟩
       cases j with
       | zero=>simp at b a;subst b a;exact⟨u,n,f⟩
       | succ j=>exact o j y w (by simpa using b) (by simpa using a)
theorem FrT.push (F:FrT g h s v r){xs:List Q4}{ts:List (TT 6)}(i:xs.length=ts.length) (k:∀ (j:Nat) (x:Q4) (t:TT 6),xs[j]?=some x->ts[j]?=some t->∃ u,rtm r t=some u/\QdY g x u){d:JSt}(e:d.H=s.H) (f:d.L=s.L++ts):FrT g h d (v++xs) r:=by
 refine⟨by rw[e];exact F.rl,F.pos,by rw[e];exact F.held,by rw[e];exact F.dist,by rw[f];simp[F.vl,i],fun j t x c a=>?_⟩
 rw[f] at c
 rcases Nat.lt_or_ge j s.L.length with b | b
 ·rw[XP b] at c
  rw[XP (by rw[F.vl];exact b)] at a
  exact F.val j t x c a
 ·rw[XQ b] at c
  rw[XQ (by rw[F.vl];exact b),F.vl] at a
  exact k _ x t a c
theorem Qei (n:Int):∃ u,rtm r tInt=some u/\QdY g (Qcs n) u:=⟨tInt,Z,.inl ⟨Z,Z⟩⟩
end
def Own (s:JSt) (r:List Int) (k:Int):Prop:=∃ j:Nat,s.H.getD j false=true/\s.f.regs<=j/\r.getD j 0=k
def Stk (m:List (MFunc 6)) (g:Sig) (h:Qd):(Int->Prop)->MFunc 6->Nat->List Int->List IFr->Prop
 | _,_,gi,_,[]=>gi=0
 | A,fn,gi,cr,d::rest=>∃ fd bl x s,m[d.f]?=some fd/\fd.blocks[d.b]?=some bl/\0<d.i/\bl.code[d.i - 1]?=some x/\x.op=14/\x.k=gi/\s=(JSt.start m fd bl).upto (bl.code.take (d.i - 1))/\FrT g h s d.v d.r /\
  (∀ k:Nat,(k:Int)<fn.regs->cr.getD k 0=d.r.getD (x.regs.getD k 0).toNat 0)/\(∀ k,s.H.getD k false=true->¬ A (d.r.getD k 0))/\Stk m g h (fun k=>A k\/Own s d.r k) fd d.f d.r rest
theorem Stk.keep {m:List (MFunc 6)}{g i:Sig}{h j:Qd}(n:g.le i):∀ {rest:List IFr}{A A':Int->Prop}{fn:MFunc 6}{gi:Nat}{cr cr':List Int},(∀ k,¬ A k->(∃ p,h.place k=some p)->∃ p,j.place k=some p)->(∀ k,A' k->A k\/h.place k=none)->(∀ k:Nat,(k:Int)<fn.regs->cr'.getD k 0=cr.getD k 0)->Stk m g h A fn gi cr rest->Stk m i j A' fn gi cr' rest
 | [],_,_,_,_,_,_,_,_,_,S=>S
 | d::rest,A,A',fn,gi,cr,cr',hp,hA,hc,S=>by
   obtain⟨o,r,x,s,w,q,v,y,z,u,B,F,t,l,e⟩:=S
   refine⟨o,r,x,s,w,q,v,y,z,u,B,F.keep n (fun k a=>hp _ (l k a) (F.held k a)),fun k a=>(hc k a).trans (t k a),fun k a f=>?_,?_⟩
   ·rcases hA _ f with b | b
    ·exact l k a b
    ·obtain⟨p,c⟩:=F.held k a;rw[b] at c;cases c
   ·exact Stk.keep n (fun k a=>hp k (fun f=>a (.inl f))) (fun k a=>by
     rcases a with b | b
     ·exact(hA k b).imp .inl id
     ·exact .inl (.inr b)) (fun k a=>rfl) e
structure Inv (m:List (MFunc 6)) (g:Sig) (M:IM) (fn:MFunc 6) (bl:MBlock 6) (s:JSt):Prop where
 hf:m[M.top.f]?=some fn
 hb:fn.blocks[M.top.b]?=some bl
 hi:M.top.i<=bl.code.length
 hs:s=(JSt.start m fn bl).upto (bl.code.take M.top.i)
 fr:FrT g M.h s M.top.v M.top.r
 st:StT g M.h
 stk:Stk m g M.h (Own s M.top.r) fn M.top.f M.top.r M.rest
theorem Qcn {b:Int}{e:ZA}:∀ {l:List Qt}{s:JSt}{i:Nat},(QA b e s i l).1=0->(∀ j x,l[j]?=some x->(s.upto (l.take j)).code x=0)/\(s.upto l).fin e=0
 | [],s,i,h=>by
   refine⟨fun j x d=>by simp at d,?_⟩
   simp only[QA] at h
   by_cases a:s.fin e=0
   ·exact a
   ·rw[Xs a] at h;exact absurd h a
 | x::r,s,i,h=>by
   simp only[QA] at h
   by_cases a:s.code x=0
   ·rw[Xr (by simpa using a)] at h
    obtain⟨f,g⟩:=Qcn h
    refine⟨fun j y c=>?_,g⟩
    cases j with
    | zero=>simp at c;subst c;exact a
    | succ j=>exact f j y (by simpa using c)
   ·rw[Xs a] at h;exact absurd h a
theorem Qb4 {m:List (MFunc 6)}(h:(Qq m).1=0):(modFault m).1=0/\∀ (k:Nat) (f:MFunc 6) (q:Nat) (b:MBlock 6),m[k]?=some f->f.blocks[q]?=some b->(∀ j x,b.code[j]?=some x->((JSt.start m f b).upto (b.code.take j)).code x=0)/\((JSt.start m f b).upto b.code).fin b.fin=0:=by
 unfold Qq at h;by_cases e:(modFault m).1=0
 ·rw[Xr (by simpa using e)] at h
  refine⟨e,fun k f q b d c=>?_⟩
  have a:=QR h k f d;unfold Qae at a;have g:=QR a q b c;exact Qcn g
 ·rw[Xs e] at h;exact absurd h e
end Go.Proofs.YtjhdpajpibdnaafGreat
