import Derived.Test.YtjhdpajpibdnaafGreatRows
import Derived.WalkKit
import Derived.WalkLawsBesides
import Derived.ProofKit
import Derived.OpenShut
import Derived.Deep.OwnRows
import Derived.Deep.AppendLies
import Derived.Deep.Draws
import Derived.Deep.Slices
import Derived.Deep.Strs
import Derived.Below
import Derived.ChangeOld
import Derived.Deep.MidRow
import Derived.Laws.StructEq
import Derived.ChangeKeysEq
import Derived.RowKit
import Derived.Deep.QuietTactic
import Derived.BigQuiet
import Derived.Lib.SliceRun
import Derived.Maps.OwnSet
import Derived.RegionTactic
import Derived.Deep.Cut
import Derived.Deep.RegionLaw
set_option maxHeartbeats 16000000
set_option maxRecDepth 100000
namespace Go.Proofs.YtjhdpajpibdnaafGreat
open Go.ChangeShapes Go.WideShapes Go.ChangeAt Go.RowKit _root_.Go.Proofs.Tryz
set_option linter.unusedSimpArgs false
set_option linter.unusedVariables false
variable {w w' w6 w1 w2:World}{n b c k m rc ac X j B i cm g N d f fi cap bp q R pages id bi cc funcs s ci rl al ca ri vl most cR cA G:Nat}{O Q O':Nat→Prop}{l xs regs inp:List Int}{p a rg ag pm pi pa pR pA ra aa:Option Addr}{t e:TypeId}{v:Value}{P:Program}{L bs:List Bool}{x ya xc xk fr xa xb xn yb:Int}{ds cs:List Value}{ops:Array Oper}
abbrev Iv (x:Int):Value:=.int .i64 x
abbrev Pv (b o:Nat):Value:=.pointer (some ⟨b,o,none⟩)
abbrev Nv:Value:=.slice none 0 0
theorem Zr {n:Nat}{w:World}:Below n w w:=Below.refl _ _
theorem Zg {α:Type _}{l:List α}{i:Nat}(h:i<l.length):l[i]?=some l[i]:=List.getElem?_eq_getElem h
theorem Zi {α:Type _}{i:Nat}{a:α}{l:List α}(h:l[i]?=some a):∃ h,l[i]=a:=List.getElem?_eq_some_iff.1 h
theorem Za {α:Type _}{xs:Array α}{i:Nat}{d:α}:xs.getD i d=xs[i]?.getD d:=Array.getD_eq_getD_getElem?
theorem Zl {n m k:Nat}:n<m→m≤k→n<k:=Nat.lt_of_lt_of_le
theorem Zm {α:Type _}{l:List α}{i:Nat}{a:α}(h:l[i]?=some a):a∈l:=List.mem_of_getElem? h
theorem Zt {n m k:Nat}:n≤m→m≤k→n≤k:=Nat.le_trans
theorem Ze {n:Nat}:n≤n:=Nat.le_refl _
theorem Z {α:Sort _}{a:α}:a=a:=rfl
theorem Y:True:=trivial
theorem Yz {α:Sort _}{a:α}:a=a:=rfl
theorem Yy:True:=trivial
theorem Xb:type_of% @Nat.zero_le:=@Nat.zero_le
theorem Xd:type_of% @Below.heap_setCell:=@Below.heap_setCell
theorem Xf:type_of% @List.length_eq_zero_iff:=@List.length_eq_zero_iff
theorem Xr:type_of% @if_neg:=@if_neg
theorem Xs:type_of% @if_pos:=@if_pos
theorem XC:type_of% @lt_of_block:=@lt_of_block
theorem XL:type_of% @Nat.mul_one:=@Nat.mul_one
theorem XR:type_of% @List.getElem?_take:=@List.getElem?_take
theorem XS:type_of% @List.getElem?_map:=@List.getElem?_map
structure Qz (O O':Nat->Prop) (w w':World):Prop where
 os:w'.os=w.os
 tape:w'.tape=w.tape
 output:w'.output=w.output
 size:w.heap.size<=w'.heap.size
 block:∀ k,k<w.heap.size->¬ O k->w'.heap[k]?=w.heap[k]?
 own:∀ k,O' k->O k\/w.heap.size<=k
theorem Qz.refl (O:Nat->Prop) (w:World):Qz O O w w:=⟨Z,Z,Z,Ze,fun _ _ _=>rfl,fun _ h=>Or.inl h⟩
theorem Qz.trans {e:Nat->Prop}{a b c:World}(h:Qz O O' a b) (k:Qz O' e b c):Qz O e a c :=
 ⟨k.os.trans h.os,k.tape.trans h.tape,k.output.trans h.output,Zt h.size k.size,
  fun i f g=>(k.block i (Zl f h.size) (fun j=>(h.own i j).elim g (fun d=>by omega))).trans (h.block i f g),
  fun i f=>(k.own i f).elim (h.own i) (fun d=>Or.inr (Zt h.size d))⟩
theorem Qz.drewN {a:World}(h:Qz O O' a w) (n:Nat):Qz O O' a (w.drewN n):=⟨h.os,h.tape,h.output,h.size,h.block,h.own⟩
theorem Qz.drew {a:World}(h:Qz O O' a w):Qz O O' a w.drew:=⟨h.os,h.tape,h.output,h.size,h.block,h.own⟩
theorem Qz.alloc {a:World}(h:Qz O O' a w) (o:Obj):Qz O O' a (w.alloc o) :=
 ⟨h.os,h.tape,h.output,by have:=h.size;simp;omega,fun k b c=>(Below.heap_alloc _ _ _ (by have:=h.size;omega)).trans (h.block k b c),h.own⟩
theorem Qz.setCell {a:World}(h:Qz O O' a w){p:Addr}(d:O' p.block) (u:Value):Qz O O' a (w.setCell p u) :=
 ⟨h.os,h.tape,h.output,by have:=h.size;simp;omega,
  fun k f b=>(Xd _ _ _ _ (fun e=>by subst e;rcases h.own _ d with c | c;exact b c;omega)).trans (h.block k f b),h.own⟩
theorem Qz.below {a:World}(h:Qz O O' a w) (e:B<=a.heap.size) (b:∀ k,O k->B<=k):Below B a w :=
 ⟨h.os,h.tape,h.output,h.size,fun k d=>h.block k (by omega) (fun c=>by have:=b k c;omega)⟩
theorem Qz.keep {a:World}(h:Qz O O' a w){o:Obj}(b:a.heap[k]?=some o) (c:¬ O k):w.heap[k]?=some o :=
 (h.block k (XC b) c).trans b
theorem Qb {c:Array Value}(h:w.heap[b]?=some (.cells c t (0,0))) (i:Nat) (v:Value) (a:c[i]?=some v):w.cell? ⟨b,i,none⟩=some v:=by
 simp[World.cell?,h,a]
theorem Qj {c:Array Value}(h:w.heap[b]?=some (.cells c t (0,0))) (i:Nat):w.frozen? ⟨b,i,none⟩=false:=by
 simp[World.frozen?,h]
theorem Qh {c:Array Value}(h:w.heap[b]?=some (.cells c t (0,0))) (i:Nat) (v:Value) :
 (w.setCell ⟨b,i,none⟩ v).heap[b]?=some (.cells (c.setIfInBounds i v) t (0,0)):=by
 simp[World.setCell,Array.getElem?_modify,h]
theorem Qe (w:World) (c:Array Value) (t:TypeId):(w.alloc (.cells c t)).heap[w.heap.size]?=some (.cells c t (0,0)):=by
 show (w.heap.push _)[w.heap.size]?=_;simp
theorem Zc {c d:Array Value}{u:TypeId}{f:Nat × Nat}(h:w.heap[b]?=some (.cells c t f)) (k:w.heap[g]?=some (.cells d u f)) (a:t≠u):b≠g:=by
 intro e;subst e;rw[h] at k;simp at k;exact a k.2
def Row (w:World) (O:Nat->Prop) (t:TypeId) (v:Value) (xs:List Int):Prop :=
 w.ownsRow 0 t 1 v xs.length (xs.map (Value.int .i64))/\∀ g,v.ownBlock=some g->O g
theorem Row.nil (w:World) (O:Nat->Prop) (t:TypeId):Row w O t (Nv) []:=⟨⟨Z,Or.inl ⟨Z,Z⟩⟩,by simp[Value.ownBlock]⟩
theorem Row.form (h:Row w O t v xs) :
 ∃ a cap,v=.slice a xs.length cap/\(a=none->xs=[]/\cap=0)/\∀ g,a=some g->g=⟨g.block,0,none⟩/\O g.block/\xs.length<=cap/\cap<=maxLen/\∃ c,w.heap[g.block]?=some (.cells c t (0,0))/\c.size=cap/\∀ i,i<xs.length->c[i]?=some (Iv (xs.getD i 0)):=by
 obtain⟨⟨q,k⟩,l⟩:=h
 rcases k with ⟨rfl,n⟩|⟨g,cap,b,rfl,_,p,f,d,o,j⟩
 ·have:xs=[]:=Xf.1 n
  subst this;exact⟨none,0,Z,(fun _=>⟨Z,Z⟩),(fun g e=>by cases e)⟩
 ·refine⟨some ⟨g,0,none⟩,cap,Z,(fun e=>by cases e),(fun r e=>?_)⟩
  cases e
  refine⟨Z,l g Z,f,d,b,p,by simpa using o,fun i m=>?_⟩
  have:(b.toList.take (xs.length*1))[i]?=(xs.map (Value.int .i64))[i]?:=by rw[j]
  rw[XR,Xs (by omega),XS] at this
  rw[<-Array.getElem?_toList,this]
  simp[List.getD,m]
theorem Row.cell (h:Row w O t (.slice (some ⟨g,0,none⟩) n cap) xs) (i:Nat) (hi:i<xs.length) :
 w.cell? ⟨g,i,none⟩=some (Iv (xs.getD i 0)):=by
 obtain⟨a,d,e,_,f⟩:=h.form
 cases e
 obtain⟨_,_,_,_,c,j,_,b⟩:=f _ Z
 exact Qb j i _ (b i hi)
theorem Row.keep (h:Row w O t v xs) (j:∀ g,v.ownBlock=some g->w'.heap[g]?=w.heap[g]?) (f:∀ g,v.ownBlock=some g->O' g):Row w' O' t v xs:=by
 obtain⟨⟨c,e⟩,l⟩:=h
 refine⟨⟨c,?_⟩,f⟩
 rcases e with i | ⟨g,b,a,rfl,d,k,r⟩
 ·exact Or.inl i
 ·exact Or.inr ⟨g,b,a,Z,d,(j g Z).trans k,r⟩
theorem Row.lt (h:Row w O t v xs)(a:v.ownBlock=some g):g<w.heap.size:=by
 obtain⟨⟨f,b⟩,j⟩:=h
 rcases b with ⟨rfl,_⟩|⟨i,d,c,rfl,_,e,r⟩
 ·simp[Value.ownBlock] at a
 ·simp[Value.ownBlock] at a;subst a;exact XC e
theorem Row.block (h:Row w O t v xs)(a:v.ownBlock=some g):∃ c,w.heap[g]?=some (.cells c t (0,0)):=by
 obtain⟨⟨i,d⟩,k⟩:=h
 rcases d with ⟨rfl,_⟩|⟨j,e,b,rfl,_,f,r⟩
 ·simp[Value.ownBlock] at a
 ·simp[Value.ownBlock] at a;subst a;exact⟨b,f⟩
theorem Row.step {P P':Nat->Prop}(h:Row w O t v xs) (k:Qz P P' w w') (b:∀ x,O x->¬ P x):Row w' O t v xs :=
 h.keep (fun g a=>k.block g (h.lt a) (b g (h.2 g a))) h.2
theorem Row.init (h:Row w O t (.slice (some ⟨g,0,none⟩) n cap) xs) (m:Nat) (i:m<=xs.length) :
 Row w O t (.slice (some ⟨g,0,none⟩) m cap) (xs.take m):=by
 obtain⟨⟨q,k⟩,l⟩:=h
 rcases k with ⟨e,_⟩|⟨c,d,a,e,s,p,r,b,o,j⟩
 ·cases e
 ·cases e
  have f:(xs.take m).length=m:=by simp;omega
  refine⟨⟨by simp,Or.inr ⟨g,cap,a,by rw[f],Xb _,p,by omega,b,o,?_⟩⟩,fun c e=>l c e⟩
  rw[f,XL,List.map_take,<-j,List.take_take,XL,Nat.min_eq_left i]
theorem Row.head (h:Row w O t (.slice a n cap) xs) (d:0<xs.length) :
 ∃ g,a=some ⟨g,0,none⟩/\n=xs.length/\xs.length<=cap/\O g/\g<w.heap.size:=by
 have b:=fun g j=>h.lt (g:=g) j;obtain⟨l,f,e,k,c⟩:=h.form
 simp only[Value.slice.injEq] at e
 obtain⟨rfl,rfl,rfl⟩:=e
 cases a with
 | none=>rw[(k Z).1] at d;simp at d
 | some g =>
   have i:=(c g Z).1;exact⟨g.block,by rw[<-i],Z,(c g Z).2.2.1,(c g Z).2.1,b _ Z⟩
theorem QE {b k:Nat}(a:k≠b):∀ (vs:List Value) (o:Nat) (w:World),(w.setCells b o vs).heap[k]?=w.heap[k]?
 | [],_,_=>rfl
 | v::r,o,w=>by rw[World.setCells,QE a r];exact Xd _ _ _ _ a
theorem Qz.setCells {O O':Nat->Prop}{a:World}{b:Nat}(c:O' b):∀ (vs:List Value) (o:Nat) (w:World),Qz O O' a w->Qz O O' a (w.setCells b o vs)
 | [],_,_,h=>h
 | v::r,o,w,h=>Qz.setCells c r (o+1) _ (h.setCell (p:=⟨b,o,none⟩) c v)
theorem QdX {b:Nat}{t:TypeId}{n:Nat}(z:Value):∀ (m o:Nat) (w:World) (f:Nat->Value),w.rowIs b t n f->(w.setCells b o (List.replicate m z)).rowIs b t n (fun j=>if o<=j/\j<o+m then z else f j)
 | 0,o,w,f,h=>h.congr fun j d=>by rw[Xr (by omega)]
 | m+1,o,w,f,h=>by
   rw[List.replicate_succ,World.setCells]
   refine(QdX z m (o+1) _ _ (h.set o z)).congr fun j d=>?_
   by_cases c:j=o
   ·subst c;simp
   ·by_cases a:o<=j/\j<o+(m+1)
    ·rw[Xs (by omega),Xs a]
    ·rw[Xr (by omega),Xr a,Xr c]
theorem Row.pushed {k:Int}{o:Obj}(h:Row w O t v xs) (d:w1.ownsRow 0 t 1 (.slice (some ⟨g,0,none⟩) (xs.length+1) cap) (xs.length+1) (xs.map (Value.int .i64)++[Iv k]))
 (b:v.ownBlock=some g\/g=w.heap.size+1) (a:g<w1.heap.size) (O':Nat->Prop) (f:∀ x,O x\/w.heap.size<=x->x<w1.heap.size->O' x):Row w1 O' t (.slice (some ⟨g,0,none⟩) (xs.length+1) cap) (xs++[k]):=by
 refine⟨?_,fun i e=>?_⟩
 ·have e:(xs++[k]).length=xs.length+1:=by simp
  rw[e,List.map_append];exact d
 ·simp[Value.ownBlock] at e;subst e
  refine f _ ?_ a;rcases b with c | c
  ·exact Or.inl (h.2 _ c)
  ·right;omega
theorem Qgx (w:World) (v:Value) (t:TypeId):∀ (j:Nat) (u:Value),[v][j]?=some u->(w.alloc (.cells #[v] t)).cell? (Addr.add ⟨w.heap.size,0,none⟩ j)=some u:=by
 intro j u a;match j,a with
 | 0,a=>simp at a;subst a;simp[Addr.add]
theorem QcU (k:Int):∀ u,u∈[Value.int .i64 k]->u.oneCell'=true:=by intro u a;simp at a;subst a;rfl
theorem Xk:type_of% @List.getElem?_eq_none:=@List.getElem?_eq_none
theorem XQ:type_of% @List.getElem?_append_right:=@List.getElem?_append_right
theorem XT:type_of% @Int.toNat_natCast:=@Int.toNat_natCast
structure Q4 where
 kind:Int
 region:Int
 thing:Int
 n:Int
structure Qw where
 arr:Bool
 l:List Q4
structure Qr where
 there:Bool
 l:List Qw
 pages:Nat
 used:Int
structure Qd where
 L:List Qr
 left:Nat
def Qnb (x:Int):Prop:=-9223372036854775808<=x/\x<=9223372036854775807
def Qw.knd (t:Qw):Int:=if t.arr then 4 else 3
def noV:Q4:=⟨0,0,0,0⟩
def Qct (n:Int):Q4:=⟨1,0,0,n⟩
def noP:Qr:=⟨false,[],0,0⟩
def newP:Qr:=⟨true,[],0,0⟩
def Qd.new (pages:Nat):Qd:=⟨[],pages⟩
def Qd.live (h:Qd):Nat:=(h.L.filter (·.there)).length
def Qd.place (h:Qd) (k:Int):Option Qr:=if k<0 then none else match h.L[k.toNat]? with
 | none=>none
 | some p=>if p.there then some p else none
def Qd.open_ (h:Qd):Q4 × Bool × Qd:=if 16<=h.live then (noV,false,h) else (⟨2,h.L.length,0,0⟩,true,{ h with L:=h.L++[newP] })
def Qd.at (h:Qd) (v:Q4):Option Qr:=if v.kind=2 then h.place v.region else none
def Qd.shut (h:Qd) (v:Q4):Bool × Qd:=match h.at v with
 | none=>(false,h)
 | some p=>(true,⟨h.L.set v.region.toNat noP,h.left+p.pages⟩)
def Qr.tight (p:Qr) (words:Int):Bool:=decide (p.pages=0)||decide (words>16 - p.used)
def Qr.more (p:Qr) (t:Qw) (words:Int):Qr:=if p.tight words then ⟨p.there,p.l++[t],p.pages+1,words⟩ else ⟨p.there,p.l++[t],p.pages,p.used+words⟩
def Qd.put (h:Qd) (v:Q4) (t:Qw) (words:Int):Q4 × Int × Qd:=match h.at v with
 | none=>(noV,20,h)
 | some p=>if p.tight words/\h.left=0 then (noV,14,h)
   else (⟨if t.arr then 4 else 3,v.region,p.l.length,0⟩,0,⟨h.L.set v.region.toNat (p.more t words),if p.tight words then h.left - 1 else h.left⟩)
def Qd.tuple (h:Qd) (v:Q4) (l:List Q4):Q4 × Int × Qd:=h.put v ⟨false,l⟩ (if l.length=0 then 1 else l.length)
def Qd.array (h:Qd) (v:Q4) (n:Int):Q4 × Int × Qd:=if n<0\/15<n then (noV,1,h) else h.put v ⟨true,List.replicate n.toNat (Qct 0)⟩ (n+1)
def Qd.thing (h:Qd) (v:Q4):Option Qw:=if v.kind=3\/v.kind=4 then (match h.place v.region with
 | none=>none
 | some p=>if v.thing<0 then none else match p.l[v.thing.toNat]? with
   | none=>none
   | some t=>if t.arr=decide (v.kind=4) then some t else none) else none
def Qd.get (h:Qd) (v:Q4) (k:Int):Q4 × Int:=match h.thing v with
 | none=>(noV,20)
 | some t=>if k<0 then (noV,1) else match t.l[k.toNat]? with
   | none=>(noV,1)
   | some x=>(x,0)
def Qd.set (h:Qd) (v:Q4) (k:Int) (x:Q4):Int × Qd:=match h.thing v,h.place v.region with
 | some t,some p=>if t.arr=true/\x.kind≠1 then (20,h) else if k<0\/t.l.length<=k.toNat then (1,h)
   else (0,{ h with L:=h.L.set v.region.toNat { p with l:=p.l.set v.thing.toNat { t with l:=t.l.set k.toNat x } } })
 | _,_=>(20,h)
def Qd.len (h:Qd) (v:Q4):Int × Int:=match h.thing v with
 | none=>(0,20)
 | some t=>(t.l.length,0)
theorem Qd.place_nat (h:Qd) (k:Nat):h.place (k:Int)=match h.L[k]? with
 | none=>none
 | some p=>if p.there then some p else none:=by
 unfold Qd.place;rw[Xr (by omega),XT]
theorem Qd.place_some {h:Qd}{k:Int}{p:Qr}(e:h.place k=some p):0<=k/\h.L[k.toNat]?=some p/\p.there=true:=by
 unfold Qd.place at e;split at e
 ·cases e
 ·rename_i c
  refine⟨by omega,?_⟩
  split at e
  ·cases e
  ·rename_i q a
   split at e
   ·rename_i b;cases e;exact⟨a,b⟩
   ·cases e
theorem Qd.place_set {h:Qd}(b:k<h.L.length) (p:Qr) (n:Nat) (j:Int):Qd.place ⟨h.L.set k p,n⟩ j=if j=k then (if p.there then some p else none) else h.place j:=by
 unfold Qd.place;by_cases a:j<0
 ·rw[Xs a,Xr (by omega),Xs a]
 ·rw[Xr a,Xr a]
  by_cases e:j=k
  ·subst e;simp[b]
  ·rw[Xr e,List.getElem?_set_ne (by omega)]
theorem Qd.place_push (h:Qd) (p:Qr) (j:Int) (n:Nat):Qd.place ⟨h.L++[p],n⟩ j=if j=h.L.length then (if p.there then some p else none) else h.place j:=by
 unfold Qd.place;by_cases a:j<0
 ·rw[Xs a,Xr (by omega),Xs a]
 ·rw[Xr a,Xr a]
  by_cases e:j=h.L.length
  ·subst e;simp
  ·rw[Xr e]
   rcases Nat.lt_or_ge j.toNat h.L.length with b | b
   ·simp[List.getElem?_append,b]
   ·rw[XQ b,Xk b,Xk (by simp;omega)]
theorem Xj:type_of% @Array.getElem?_eq_getElem:=@Array.getElem?_eq_getElem
theorem Xp:type_of% @Nat.mul_le_mul_right:=@Nat.mul_le_mul_right
theorem XK:type_of% @Nat.zero_add:=@Nat.zero_add
theorem XO:type_of% @List.take_of_length_le:=@List.take_of_length_le
section
open Go.Deep
structure Lay (α:Type) where
 size:Nat
 In:World->(Nat->Prop)->α->List Value->Prop
 len:∀ {w O x cs},In w O x cs->cs.length=size
 keep:∀ {w w':World} {O O':Nat->Prop} {x cs},(∀ k,O k->k<w.heap.size->w'.heap[k]?=w.heap[k]?)->(∀ k,O k->k<w.heap.size->O' k)->In w O x cs->In w' O' x cs
section
variable {α β:Type}{L:Lay α}{w w':World}{O O':Nat->Prop}{x:α}{cs:List Value}
theorem Lay.below (h:L.In w O x cs) (b:Below w.heap.size w w'):L.In w' O x cs:=L.keep (fun k _ a=>b.block k a) (fun _ h _=>h) h
theorem Ya:type_of% @Lay.below:=@Lay.below
theorem Lay.mono (h:L.In w O x cs) (a:∀ k,O k->k<w.heap.size->O' k):L.In w O' x cs:=L.keep (fun k _ _=>rfl) a h
theorem Yc:type_of% @Lay.mono:=@Lay.mono
theorem Lay.setCell (h:L.In w O x cs){p:Addr}(a:¬ O p.block) (v:Value):L.In (w.setCell p v) O x cs :=
 L.keep (fun k b _=>Xd _ _ _ _ (fun e=>by subst e;exact a b)) (fun _ h _=>h) h
end
def Lay.int:Lay Int where
 size:=1
 In:=fun _ _ x cs=>cs=[Iv x]/\-9223372036854775808<=x/\x<=9223372036854775807
 len:=fun h=>by rw[h.1];rfl
 keep:=fun _ _ h=>h
def Lay.pair {α β:Type}(A:Lay α) (B:Lay β):Lay (α × β) where
 size:=A.size+B.size
 In:=fun w O x cs=>∃ c d,cs=c++d/\A.In w O x.1 c/\B.In w O x.2 d
 len:=fun ⟨c,d,e,h1,h2⟩=>by rw[e,List.length_append,A.len h1,B.len h2]
 keep:=fun hb hl ⟨c,d,e,h1,h2⟩=>⟨c,d,e,A.keep hb hl h1,B.keep hb hl h2⟩
def Lay.list {α:Type}(A:Lay α):Lay (List α) where
 size:=1
 In:=fun w O l cs=>∃ a c,cs=[.slice a l.length c]/\∀ (i:Nat) (x:α),l[i]?=some x->∃ g o ds,a=some ⟨g,o,none⟩/\O g/\g<w.heap.size/\(∀ j,j<A.size->w.cell? ⟨g,o+i*A.size+j,none⟩=ds[j]?)/\A.In w O x ds
 len:=fun ⟨_,_,e,_⟩=>by rw[e];rfl
 keep:=fun {w w' O O' l cs} hb hl ⟨a,c,e,h⟩=>⟨a,c,e,fun i x hx=>by
  obtain⟨g,o,ds,e1,hg,hlt,hc,hi⟩:=h i x hx
  have hk:w'.heap[g]?=w.heap[g]?:=hb g hg hlt;refine⟨g,o,ds,e1,hl g hg hlt,?_,fun j hj=>?_,A.keep hb hl hi⟩
  ·rcases Nat.lt_or_ge g w'.heap.size with h' | h'
   ·exact h'
   ·rw[Array.getElem?_eq_none h',Array.getElem?_eq_getElem hlt] at hk;cases hk
  ·exact(World.cell?_of_block (w:=w) (a:=⟨g,o+i*A.size+j,none⟩) hk).trans (hc j hj)⟩
theorem Lay.int_mk (w:World) (O:Nat->Prop){x:Int}(h:-9223372036854775808<=x/\x<=9223372036854775807):Lay.int.In w O x [Iv x]:=⟨Z,h⟩
theorem Lay.list_nil {α:Type}(A:Lay α) (w:World) (O:Nat->Prop) (a:Option Addr) (c:Nat):A.list.In w O [] [.slice a 0 c]:=⟨a,c,Z,fun i x h=>by simp at h⟩
theorem Yg:type_of% @Lay.list_nil:=@Lay.list_nil
theorem Lay.list_at {α:Type}{A:Lay α}{w:World}{O:Nat->Prop}{l:List α}(h:A.list.In w O l [.slice a n c]){x:α}(b:l[i]?=some x) :
 ∃ g o ds,a=some ⟨g,o,none⟩/\O g/\g<w.heap.size/\(∀ j,j<A.size->w.cell? ⟨g,o+i*A.size+j,none⟩=ds[j]?)/\A.In w O x ds:=by
 obtain⟨f,d,e,h⟩:=h
 simp at e
 obtain⟨rfl,_,rfl⟩:=e
 exact h i x b
theorem Yf:type_of% @Lay.list_at:=@Lay.list_at
theorem Lay.list_len {α:Type}{A:Lay α}{w:World}{O:Nat->Prop}{l:List α}(h:A.list.In w O l [.slice a n c]):n=l.length:=by
 obtain⟨d,b,e,h⟩:=h
 simp at e
 exact e.2.1
theorem Qky {α:Type}{P:Nat->α->Prop}(m:Nat) (h:∀ i,i<m->∃ x,P i x):∃ l:List α,l.length=m/\∀ i x,l[i]?=some x->P i x:=by
 induction m with
 | zero=>exact⟨[],Z,fun i x b=>by simp at b⟩
 | succ m ih =>
   obtain⟨l,c,d⟩:=ih (fun i e=>h i (by omega))
   obtain⟨x,b⟩:=h m (by omega)
   refine⟨l++[x],by simp[c],fun i y a=>?_⟩
   rw[List.getElem?_append] at a
   split at a
   ·exact d i y a
   ·rename_i e
    have:i=m:=by
     have:=(Zi a).1
     simp at this
     omega
    subst this;simp[c] at a
    subst a;exact b
structure Qap {α:Type}(A:Lay α) (e:TypeId) (w:World) (lo:Nat) (v:Value) (l:List α) (xs:List Value):Prop where
 own:w.ownsRow lo e A.size v l.length xs
 kids:∀ (i:Nat) (x:α),l[i]?=some x->A.In w (fun g=>lo<=g/\v.ownBlock≠some g) x ((xs.drop (i*A.size)).take A.size)
section
variable {α:Type}{A:Lay α}{e:TypeId}{w w':World}{lo:Nat}{v:Value}{l:List α}{xs:List Value}
theorem Qap.nil (A:Lay α) (e:TypeId) (w:World) (lo:Nat):Qap A e w lo (Nv) [] []:=⟨⟨by simp,Or.inl ⟨Z,Z⟩⟩,fun i x h=>by simp at h⟩
theorem Qap.lo_le (h:Qap A e w lo v l xs)(a:v.ownBlock=some g):lo<=g/\g<w.heap.size:=by
 obtain⟨⟨j,c⟩,k⟩:=h
 rcases c with ⟨rfl,n⟩|⟨m,f,d,rfl,b,i,r⟩
 ·simp[Value.ownBlock] at a
 ·simp[Value.ownBlock] at a;subst a;exact⟨b,XC i⟩
theorem Qap.below (h:Qap A e w lo v l xs) (b:Below w.heap.size w w'):Qap A e w' lo v l xs:=by
 obtain⟨⟨j,m⟩,n⟩:=h
 refine⟨⟨j,?_⟩,fun i x f=>Ya (n i x f) b⟩
 rcases m with o | ⟨g,c,a,e,k,d,r⟩
 ·exact Or.inl o
 ·exact Or.inr ⟨g,c,a,e,k,(b.block g (XC d)).trans d,r⟩
theorem Qap.lay (h:Qap A e w lo v l xs):A.list.In w (fun g=>lo<=g) l [v]:=by
 obtain⟨⟨z,s⟩,t⟩:=h
 rcases s with ⟨rfl,y⟩|⟨g,c,a,rfl,r,m,q,B,C,p⟩
 ·have:l=[]:=Xf.1 y
  subst this;exact Yg A _ _ _ _
 ·refine⟨some ⟨g,0,none⟩,c,Z,fun i x f=>⟨g,0,_,Z,r,XC m,fun j o=>?_,Yc (t i x f) (fun k n _=>n.1)⟩⟩
  have u:i<l.length:=(Zi f).1
  have d:i*A.size+j<l.length*A.size:=by
   have:(i+1)*A.size<=l.length*A.size:=Xp _ u
   rw[Nat.add_mul] at this
   omega
  rw[XR,Xs o,List.getElem?_drop,<-p,XR,Xs d,XK]
  have b:i*A.size+j<a.size:=by
   have:l.length*A.size<=c*A.size:=Xp _ q
   omega
  rw[Array.getElem?_toList]
  exact(Qb m _ a[i*A.size+j] (Xj b)).trans (Xj b).symm
theorem Qap.push (h:Qap A e w lo v l xs){x:α}(m:A.In w (fun g=>lo<=g/\v.ownBlock≠some g) x ds)
  (u:w.grownBy w' v.ownBlock) (j:v.ownBlock=some g\/g=w.heap.size)
 (B:w'.ownsRow lo e A.size (.slice (some ⟨g,0,none⟩) (l.length+1) cap) (l.length+1) (xs++ds)) :
 Qap A e w' lo (.slice (some ⟨g,0,none⟩) (l.length+1) cap) (l++[x]) (xs++ds):=by
 obtain⟨t,z⟩:=h
 have f:=t.1;have r:=A.len m
 have b:∀ {y:α} {es:List Value},A.In w (fun g=>lo<=g/\v.ownBlock≠some g) y es->A.In w' (fun n=>lo<=n/\(Value.slice (some ⟨g,0,none⟩) (l.length+1) cap).ownBlock≠some n) y es:=fun a=>by
  refine A.keep (fun k c q=>?_) (fun k c q=>⟨c.1,?_⟩) a
  ·exact u.block k q (fun e=>c.2 e.symm)
  ·simp only[Value.ownBlock,ne_eq,Option.some.injEq]
   intro e;subst e;rcases j with p | p
   ·exact c.2 p
   ·omega
 refine⟨by rw[List.length_append];exact B,fun i y a=>?_⟩
 rw[List.getElem?_append] at a
 split at a
 ·rename_i o
  have s:(i+1)*A.size<=l.length*A.size:=Xp _ o;rw[Nat.add_mul] at s
  have:=z i y a
  rw[List.drop_append_of_le_length (by omega),List.take_append_of_le_length (by simp;omega)]
  exact b this
 ·rename_i o
  have d:i=l.length:=by
   have:=(Zi a).1
   simp at this
   omega
  subst d;simp at a
  subst a;rw[List.drop_append,List.drop_of_length_le (by omega),<-f,Nat.sub_self,List.drop_zero,List.nil_append,XO (by omega)]
  exact b m
end
end
theorem Xn:type_of% @Option.some.inj:=@Option.some.inj
def TT:Nat->Type
 | 0=>Empty
 | n+1=>Int × Int × List (TT n)
def TT.kind:{n:Nat}->TT n->Int
 | 0,t=>Empty.elim t
 | _+1,t=>t.1
def TT.r:{n:Nat}->TT n->Int
 | 0,t=>Empty.elim t
 | _+1,t=>t.2.1
def TT.len:{n:Nat}->TT n->Nat
 | 0,t=>Empty.elim t
 | _+1,t=>t.2.2.length
def TT.count:{n:Nat}->TT n->Nat
 | 0,t=>Empty.elim t
 | n+1,t=>1+(t.2.2.map (TT.count (n:=n))).sum
def TT.height:{n:Nat}->TT n->Nat
 | 0,t=>Empty.elim t
 | n+1,t=>(t.2.2.map (fun x=>1+TT.height (n:=n) x)).foldl max 0
def ownC (k r:Int) (len:Nat) (regs:Int):Int :=
 if k<1\/4<k then 3
 else if k=1/\r≠0 then 4
 else if k≠3/\0<len then 4
 else if 8<len then 2
 else if k≠1/\(r<0\/regs<=r) then 1
 else 0
def Qu {α:Type}(f:α->Int):List α->Int
 | []=>0
 | x::xs=>if f x≠0 then f x else Qu f xs
def TT.fault:{n:Nat}->Int->TT n->Int
 | 0,_,t=>Empty.elim t
 | n+1,regs,t=>if ownC t.1 t.2.1 t.2.2.length regs≠0 then ownC t.1 t.2.1 t.2.2.length regs else Qu (TT.fault (n:=n) regs) t.2.2
def TT.check {n:Nat}(regs:Int) (t:TT n):Int:=if 4<t.height then 19 else t.fault regs
def ZJ (m:Nat) (too:Nat->Int) (k r:Int):Option Int :=
 if k=1 then some r else if r<0\/(m:Int)<=r then none else if too r.toNat<0 then none else some (too r.toNat)
def ZV {α:Type}(f:α->Option α):List α->Option (List α)
 | []=>some []
 | x::xs=>match f x with
   | none=>none
   | some y=>match ZV f xs with
     | none=>none
     | some ys=>some (y::ys)
def TT.ren:{n:Nat}->Nat->(Nat->Int)->TT n->Option (TT n)
 | 0,_,_,t=>Empty.elim t
 | n+1,m,too,t=>match ZJ m too t.1 t.2.1 with
   | none=>none
   | some r=>match ZV (TT.ren (n:=n) m too) t.2.2 with
     | none=>none
     | some l=>some ((t.1,r,l):Int × Int × List (TT n))
def TT.ok:{n:Nat}->TT n->Prop
 | 0,t=>Empty.elim t
 | n+1,t=>(-9223372036854775808<=t.2.1/\t.2.1<=9223372036854775807)/\∀ x∈t.2.2,TT.ok (n:=n) x
theorem ZR {α:Type}{f:α->Option α}:∀ {l l':List α},ZV f l=some l'↔(l'.length=l.length/\∀ (i:Nat) x,l[i]?=some x->f x=l'[i]?)
 | [],l'=>by
   simp only[ZV,Option.some.injEq]
   constructor
   ·intro h;subst h;simp
   ·intro h;exact(Xf.1 h.1).symm
 | x::xs,l'=>by
   simp only[ZV]
   constructor
   ·intro h
    cases a:f x with
    | none=>simp[a] at h
    | some y =>
      simp only[a] at h
      cases b:ZV f xs with
      | none=>simp[b] at h
      | some ys =>
        simp only[b,Option.some.injEq] at h
        subst h;obtain⟨d,e⟩:=ZR.1 b
        refine⟨by simp[d],fun i z c=>?_⟩
        cases i with
        | zero=>simp at c;subst c;simpa using a
        | succ i=>simpa using e i z (by simpa using c)
   ·rintro ⟨d,e⟩
    cases l' with
    | nil=>simp at d
    | cons y ys =>
      have a:f x=some y:=by simpa using e 0 x Z
      have b:ZV f xs=some ys:=ZR.2 ⟨by simpa using d,fun i z c=>by simpa using e (i+1) z (by simpa using c)⟩;simp[a,b]
theorem QeO {α:Type}{f:α->Option α}:∀ {l:List α}{i:Nat}{x:α},l[i]?=some x->f x=none->ZV f l=none
 | [],i,x,h,_=>by simp at h
 | y::ys,0,x,h,hf=>by simp at h;subst h;simp[ZV,hf]
 | y::ys,i+1,x,h,hf=>by
   have:=QeO (l:=ys) (i:=i) (by simpa using h) hf
   simp only[ZV,this]
   cases f y<;>rfl
theorem Qav {α:Type}{f:α->Int}:∀ {l:List α}{i:Nat}{x:α},l[i]?=some x->(∀ (j:Nat) y,j<i->l[j]?=some y->f y=0)->f x≠0->Qu f l=f x
 | [],i,x,h,_,_=>by simp at h
 | y::ys,0,x,h,_,hf=>by simp at h;subst h;simp[Qu,hf]
 | y::ys,i+1,x,h,hz,hf=>by
   have b:f y=0:=hz 0 y (by omega) Z;simp only[Qu,b,ne_eq,not_true_eq_false,if_false]
   exact Qav (by simpa using h) (fun j z c a=>hz (j+1) z (by omega) (by simpa using a)) hf
theorem Qac {α:Type}{f:α->Int}:∀ {l:List α},(∀ (j:Nat) y,l[j]?=some y->f y=0)->Qu f l=0
 | [],_=>rfl
 | y::ys,h=>by
   have a:f y=0:=h 0 y Z;simp only[Qu,a,ne_eq,not_true_eq_false,if_false]
   exact Qac (fun j z b=>h (j+1) z (by simpa using b))
theorem QF {α:Type}{f:α->Int}:∀ {l:List α},Qu f l=0↔∀ x∈l,f x=0
 | []=>by simp[Qu]
 | y::ys=>by
   simp only[Qu]
   by_cases h:f y=0
   ·simp[h,QF]
   ·simp[h]
theorem Qa0 {α β:Type}{f:α->Int}{g:β->Int}:∀ {l:List α}{l':List β},l'.length=l.length->(∀ (i:Nat) x y,l[i]?=some x->l'[i]?=some y->f x=g y)->Qu f l=Qu g l'
 | [],[],_,_=>rfl
 | [],_::_,h,_=>by simp at h
 | _::_,[],h,_=>by simp at h
 | x::xs,y::ys,h,k=>by
   have d:f x=g y:=k 0 x y Z Z;have e:=Qa0 (f:=f) (g:=g) (l:=xs) (l':=ys) (by simpa using h) (fun i a b c j=>k (i+1) a b (by simpa using c) (by simpa using j));simp only[Qu,d,e]
theorem TT.count_pos:{n:Nat}->(t:TT n)->1<=t.count
 | 0,t=>Empty.elim t
 | n+1,t=>by simp only[TT.count];omega
theorem QfC (l:List Nat):∀ i,(l.take i).sum<=l.sum:=by
 intro i
 have:=congrArg List.sum (List.take_append_drop i l)
 rw[List.sum_append] at this
 omega
theorem length_le_sum:∀ (l:List Nat),(∀ x∈l,1<=x)->l.length<=l.sum
 | [],_=>by simp
 | x::xs,h=>by
   have c:=h x (by simp);have b:=length_le_sum xs (fun y a=>h y (by simp[a]));simp only[List.length_cons,List.sum_cons]
   omega
theorem TT.len_lt_count:{n:Nat}->(t:TT n)->t.len<t.count
 | 0,t=>Empty.elim t
 | n+1,t=>by
   have:=length_le_sum (t.2.2.map (TT.count (n:=n))) (fun x a=>by simp only[List.mem_map] at a;obtain⟨y,_,rfl⟩:=a;exact y.count_pos)
   simp only[TT.count,TT.len]
   simp at this
   omega
theorem le_sum_of_mem:∀ {l:List Nat}{x:Nat},x∈l->x<=l.sum
 | y::ys,x,h=>by
   rcases List.mem_cons.1 h with rfl | h
   ·simp
   ·have:=le_sum_of_mem h
    simp only[List.sum_cons];omega
theorem TT.count_kid (t:TT (n+1)){x:TT n}(h:x∈t.2.2):x.count<t.count:=by
 have:=le_sum_of_mem (l:=t.2.2.map (TT.count (n:=n))) (List.mem_map_of_mem h)
 simp only[TT.count]
 omega
theorem QaW {l:List Nat}{a:Nat}:l.foldl max a<=m↔a<=m/\∀ x∈l,x<=m:=by
 induction l generalizing a with
 | nil=>simp
 | cons y ys ih =>
   simp only[List.foldl_cons,ih,List.mem_cons,forall_eq_or_imp,Nat.max_le,and_assoc]
theorem Q9 {t:TT (n+1)}:t.height<=m↔∀ x∈t.2.2,1+x.height<=m:=by
 simp only[TT.height,QaW,List.mem_map,Nat.zero_le,true_and,forall_exists_index,and_imp,forall_apply_eq_imp_iff₂]
theorem TT.ren_height {m:Nat}{too:Nat->Int}:{n:Nat}->{t u:TT n}->t.ren m too=some u->u.height=t.height
 | 0,t,_,_=>Empty.elim t
 | n+1,t,u,h=>by
   simp only[TT.ren] at h
   cases e1:ZJ m too t.1 t.2.1 with
   | none=>simp[e1] at h
   | some r1 =>
     simp only[e1] at h
     cases e2:ZV (TT.ren m too) t.2.2 with
     | none=>simp[e2] at h
     | some l1 =>
       simp only[e2] at h
       have h:=Xn h;subst h;simp only[TT.height]
       congr 1
       obtain⟨e,d⟩:=ZR.1 e2
       apply List.ext_getElem (by simp[e])
       intro i a b;simp at a b
       have c:=d i t.2.2[i] (Zg b);rw[Zg a] at c
       simp[TT.ren_height c]
theorem TT.fault_zero {t:TT (n+1)}{regs:Int}(h:t.fault regs=0):ownC t.1 t.2.1 t.2.2.length regs=0/\∀ x∈t.2.2,x.fault regs=0:=by
 simp only[TT.fault] at h
 split at h
 ·contradiction
 ·rename_i a
  exact⟨by simpa using a,QF.1 h⟩
theorem Xi:type_of% @World.block_lt_of_cell?:=@World.block_lt_of_cell?
theorem XU:type_of% @World.cell?_of_block:=@World.cell?_of_block
section
open Go.Deep
abbrev All:Nat->Prop:=fun _=>True
abbrev Qcv (lo:Nat):Nat->Prop:=fun g=>lo<=g
def TIn (w:World) (O:Nat->Prop):{n:Nat}->TT n->Option Addr->Prop
 | 0,t,_=>Empty.elim t
 | n+1,t,a=>∀ (i:Nat) (x:TT n),t.2.2[i]?=some x->∃ g o a' c',a=some ⟨g,o,none⟩/\O g /\
  w.cell? ⟨g,o+i*3,none⟩=some (Iv x.kind)/\w.cell? ⟨g,o+i*3+1,none⟩=some (Iv x.r)/\w.cell? ⟨g,o+i*3+2,none⟩=some (.slice a' x.len c')/\TIn w O (n:=n) x a'
abbrev Tv {n:Nat}(t:TT n) (a:Option Addr) (c:Nat):Value:=.agg #[Iv t.kind,Iv t.r,.slice a t.len c]
abbrev mkT {n:Nat}(k r:Int) (l:List (TT n)):TT (n+1):=(k,r,l)
abbrev LIn (w:World) (O:Nat->Prop){n:Nat}(l:List (TT n)) (a:Option Addr):Prop:=TIn w O (mkT 0 0 l) a
theorem TIn.list {w:World}{O:Nat->Prop}{n:Nat}{t:TT (n+1)}{a:Option Addr}(h:TIn w O t a):LIn w O t.2.2 a:=h
theorem LIn.tree {w:World}{O:Nat->Prop}{n:Nat}{k r:Int}{l:List (TT n)}{a:Option Addr}(h:LIn w O l a):TIn w O (mkT k r l) a:=h
theorem LIn.at {w:World}{O:Nat->Prop}{n:Nat}{l:List (TT n)}{a:Option Addr}(h:LIn w O l a){x:TT n}(b:l[i]?=some x) :
 ∃ g o a' c',a=some ⟨g,o,none⟩/\O g /\
  w.cell? ⟨g,o+i*3,none⟩=some (Iv x.kind)/\w.cell? ⟨g,o+i*3+1,none⟩=some (Iv x.r)/\w.cell? ⟨g,o+i*3+2,none⟩=some (.slice a' x.len c')/\TIn w O x a':=h i x b
theorem LIn.nil {w:World}{O:Nat->Prop}{n:Nat}{a:Option Addr}:LIn w O ([]:List (TT n)) a:=fun i x h=>by simp at h
theorem TIn.keep {w w':World}{O O':Nat->Prop}(j:∀ k,O k->k<w.heap.size->w'.heap[k]?=w.heap[k]?) (l:∀ k,O k->k<w.heap.size->O' k):{n:Nat}->{t:TT n}->{a:Option Addr}->TIn w O t a->TIn w' O' t a
 | 0,t,_,_=>Empty.elim t
 | n+1,t,a,h=>fun i x m=>by
   obtain⟨g,o,q,s,e,f,d,p,r,u⟩:=h i x m
   have b:g<w.heap.size:=Xi w ⟨g,o+i*3,none⟩ d;have c:w'.heap[g]?=w.heap[g]?:=j g f b;refine⟨g,o,q,s,e,l g f b,?_,?_,?_,TIn.keep j l u⟩
   ·exact(XU (w:=w) (a:=⟨g,o+i*3,none⟩) c).trans d
   ·exact(XU (w:=w) (a:=⟨g,o+i*3+1,none⟩) c).trans p
   ·exact(XU (w:=w) (a:=⟨g,o+i*3+2,none⟩) c).trans r
section
variable {w w':World}{O O':Nat->Prop}{n:Nat}{t:TT n}{a:Option Addr}
theorem TIn.below (h:TIn w O t a) (b:Below w.heap.size w w'):TIn w' O t a:=h.keep (fun k _ c=>b.block k c) (fun _ h _=>h)
theorem TIn.mono (h:TIn w O t a) (b:∀ k,O k->k<w.heap.size->O' k):TIn w O' t a:=h.keep (fun k _ _=>rfl) b
theorem TIn.all (h:TIn w O t a):TIn w All t a:=h.mono (fun _ _ _=>trivial)
theorem TIn.alloc (h:TIn w O t a) (o:Obj):TIn (w.alloc o) O t a:=h.keep (fun k _ b=>Below.heap_alloc _ _ _ b) (fun _ h _=>h)
theorem TIn.setCell (h:TIn w O t a){p:Addr}(b:¬ O p.block) (v:Value):TIn (w.setCell p v) O t a :=
 h.keep (fun k c _=>Xd _ _ _ _ (fun e=>by subst e;exact b c)) (fun _ h _=>h)
theorem TIn.drew (h:TIn w O t a):TIn w.drew O t a:=h.keep (w:=w) (w':=w.drew) (fun k _ _=>rfl) (fun _ h _=>h)
end
theorem TT.len_eq {n:Nat}(t:TT (n+1)):t.len=t.2.2.length:=rfl
theorem Ql2 {α:Type}{P:Nat->α->Prop}(m:Nat) (h:∀ i,i<m->∃ x,P i x):∃ l:List α,l.length=m/\∀ i x,l[i]?=some x->P i x:=by
 induction m with
 | zero=>exact⟨[],Z,fun i x b=>by simp at b⟩
 | succ m ih =>
   obtain⟨l,c,d⟩:=ih (fun i e=>h i (by omega))
   obtain⟨x,b⟩:=h m (by omega)
   refine⟨l++[x],by simp[c],fun i y a=>?_⟩
   rw[List.getElem?_append] at a
   split at a
   ·exact d i y a
   ·rename_i e
    have:i=m:=by
     have:=(Zi a).1
     simp at this
     omega
    subst this;simp[c] at a
    subst a;exact b
theorem Qmk {H:Type}{enc:TypeId × Value->H}{w:World}{f:Nat}{g:Nat->Bool}{z:Bool}{G ts ti:TypeId}{A C y:Field}
 (hs:P.underlying ts=some (.slice G)) (ht:P.underlying G=some (.struct #[A,C,y])) (hc:P.cellsOf G=3)
 (L:A.offset=0/\P.cellsOf A.type=1/\P.underlying A.type=some (.int .i64)) (Q:C.offset=1/\P.cellsOf C.type=1/\P.underlying C.type=some (.int .i64))
 (R:y.offset=2/\P.cellsOf y.type=1/\y.type=ts):∀ (n fuel:Nat),fuel<=n->∀ {cs:List Value} {x:DataW H × List MemPlace},
 DataW.trod enc P w f g z fuel G cs=some x->∃ (T:TT n) (a:Option Addr) (c:Nat),cs=[Iv T.kind,Iv T.r,.slice a T.len c]/\TIn w All T a/\T.ok:=by
 intro n
 induction n with
 | zero =>
   intro fuel hf cs x h;obtain rfl:fuel=0:=by omega
   simp[DataW.trod] at h
 | succ n ih =>
   intro fuel hf cs x h;obtain⟨xs,m,rfl,_,B,S,p⟩:=DataW.trod_struct ht h
   have ac:xs.length=3:=S;have g0:=p 0 A Z;have g1:=p 1 C Z;have g2:=p 2 y Z;rw[L.1,L.2.1,Zg (by omega)] at g0
   rw[Q.1,Q.2.1,Zg (by omega)] at g1
   rw[R.1,R.2.1,R.2.2,Zg (by omega)] at g2
   obtain⟨k,e0,_,_⟩:=DataW.trod_int L.2.2 g0
   obtain⟨r,e1,_,O⟩:=DataW.trod_int Q.2.2 g1
   have ew:-9223372036854775808<=r/\r<=9223372036854775807:=by
    have:=Go.bounds_i64 O
    omega
   rw[hc] at B
   obtain⟨c0,U,J,rfl⟩:∃ c0 U J,cs=[c0,U,J]:=by
    match cs,B with
    | [c0,U,J],_=>exact⟨_,_,_,Z⟩
   simp at e0 e1
   subst e0 e1;rcases DataW.trod_slice hs g2 with ⟨v,_⟩|⟨a,len,N,V,ae,q,rfl,v,_,hb,hl,hm,ab,aa,_,_⟩
   ·simp at v
    subst v;exact⟨mkT k r [],none,0,Z,LIn.nil,ew,fun x s=>by cases s⟩
   ·simp at v
    subst v
    obtain⟨l,X,W⟩:=Ql2 (P:=fun i (T:TT n)=>∃ j t,w.cells? f (a.add (i*3)) 3=some [Iv T.kind,Iv T.r,.slice j T.len t]/\TIn w All T j/\T.ok) len (fun i D=>by
     have he:=aa i D;rw[Zg (by omega),hc] at he
     rw[Option.bind_eq_some_iff] at he
     obtain⟨af,e,K⟩:=he
     obtain⟨T,j,t,rfl,F,I⟩:=ih q (by omega) K
     exact⟨T,j,t,e,F,I⟩)
    refine⟨mkT k r l,some a,N,by simp[TT.kind,TT.r,TT.len,X],fun i x s=>?_,ew,fun x s=>?_⟩
    ·obtain⟨j,t,e,F,I⟩:=W i x s
     obtain⟨_,ad,d⟩:=World.cells?_some e
     have q0:=d 0 (by omega);have q1:=d 1 (by omega);have q2:=d 2 (by omega);obtain⟨b,M,u⟩:=a
     have o:u=none:=by
      have D:0<l.length:=Nat.lt_of_le_of_lt (Xb i) (Zi s).1;obtain⟨_,_,E,_,_⟩:=W 0 l[0] (Zg D)
      have:=(World.cells?_some E).2.2 0 (by omega)
      simpa[Addr.add] using World.cell?_spot this
     subst o;rw[Go.WideShapes.add_plain,Go.WideShapes.add_plain] at q0 q1 q2
     exact⟨b,M,j,t,Z,Y,q0,q1,q2,F⟩
    ·obtain⟨i,D,rfl⟩:=List.mem_iff_getElem.1 s
     obtain⟨j,t,e,F,I⟩:=W i l[i] (Zg D)
     exact I
end
section
open Go.Deep
structure Qs where
 op:Int
 a:Int
 b:Int
 c:Int
 k:Int
 n:Int
 regs:List Int
 args:List Int
structure MTo where
 block:Int
 regs:List Int
 args:List Int
structure ZA where
 op:Int
 a:Int
 yes:MTo
 no:MTo
 args:List Int
structure MBlock (n:Nat) where
 regs:Int
 params:List (TT n)
 code:List Qs
 fin:ZA
structure MFunc (n:Nat) where
 regs:Int
 params:List (TT n)
 results:List (TT n)
 blocks:List (MBlock n)
def Lay.via {α β:Type}(A:Lay α) (f:β->α):Lay β where
 size:=A.size
 In:=fun w O x cs=>A.In w O (f x) cs
 len:=fun h=>A.len h
 keep:=fun hb hl h=>A.keep hb hl h
def Lay.tt (n:Nat):Lay (TT n) where
 size:=3
 In:=fun w O t cs=>∃ a c,cs=[Iv t.kind,Iv t.r,.slice a t.len c]/\TIn w O t a/\t.ok
 len:=fun ⟨_,_,e,_⟩=>by rw[e];rfl
 keep:=fun hb hl ⟨a,c,e,h1,h2⟩=>⟨a,c,e,h1.keep hb hl,h2⟩
abbrev intsL:Lay (List Int):=Lay.int.list
abbrev Qp (n:Nat):Lay (List (TT n)):=(Lay.tt n).list
def insL:Lay Qs:=(Lay.int.pair (Lay.int.pair (Lay.int.pair (Lay.int.pair (Lay.int.pair (Lay.int.pair (intsL.pair intsL))))))).via (fun x=>(x.op,x.a,x.b,x.c,x.k,x.n,x.regs,x.args))
def toL:Lay MTo:=(Lay.int.pair (intsL.pair intsL)).via (fun x=>(x.block,x.regs,x.args))
def endL:Lay ZA:=(Lay.int.pair (Lay.int.pair (toL.pair (toL.pair intsL)))).via (fun x=>(x.op,x.a,x.yes,x.no,x.args))
def Zo (n:Nat):Lay (MBlock n):=(Lay.int.pair ((Qp n).pair (insL.list.pair endL))).via (fun x=>(x.regs,x.params,x.code,x.fin))
def ZS (n:Nat):Lay (MFunc n):=(Lay.int.pair ((Qp n).pair ((Qp n).pair (Zo n).list))).via (fun x=>(x.regs,x.params,x.results,x.blocks))
abbrev QaN (n:Nat):Lay (List (MFunc n)):=(ZS n).list
section
variable {w:World}{O:Nat->Prop}{n:Nat}{cs:List Value}
theorem QK {α:Type}{A:Lay α}{l:List α}(h:A.list.In w O l cs):∃ a c,cs=[.slice a l.length c]/\A.list.In w O l [.slice a l.length c]:=by
 obtain⟨a,c,e,h⟩:=h
 exact⟨a,c,e,a,c,Z,h⟩
theorem Qf5 {x:MTo}(h:toL.In w O x cs):∃ a c b d,cs=[Iv x.block,.slice a x.regs.length c,.slice b x.args.length d]/\intsL.In w O x.regs [.slice a x.regs.length c]/\intsL.In w O x.args [.slice b x.args.length d]/\(-9223372036854775808<=x.block/\x.block<=9223372036854775807):=by
 obtain⟨_,_,rfl,⟨rfl,g⟩,⟨_,_,rfl,f,e⟩⟩:=h
 obtain⟨a,c,rfl,f⟩:=QK f
 obtain⟨b,d,rfl,e⟩:=QK e
 exact⟨a,c,b,d,Z,f,e,g⟩
theorem Qnd {x:MTo}{b:Option Addr}(g:intsL.In w O x.regs [.slice a x.regs.length c]) (e:intsL.In w O x.args [.slice b x.args.length d]) (f:-9223372036854775808<=x.block/\x.block<=9223372036854775807) :
 toL.In w O x [Iv x.block,.slice a x.regs.length c,.slice b x.args.length d]:=⟨_,_,Z,⟨Z,f⟩,⟨_,_,Z,g,e⟩⟩
theorem QkD {x:Qs}(h:insL.In w O x cs):∃ a c b d,cs=[Iv x.op,Iv x.a,Iv x.b,Iv x.c,Iv x.k,Iv x.n,.slice a x.regs.length c,.slice b x.args.length d]/\intsL.In w O x.regs [.slice a x.regs.length c]/\intsL.In w O x.args [.slice b x.args.length d] /\
 ((-9223372036854775808<=x.op/\x.op<=9223372036854775807)/\(-9223372036854775808<=x.a/\x.a<=9223372036854775807)/\(-9223372036854775808<=x.b/\x.b<=9223372036854775807)/\(-9223372036854775808<=x.c/\x.c<=9223372036854775807)/\(-9223372036854775808<=x.k/\x.k<=9223372036854775807)/\(-9223372036854775808<=x.n/\x.n<=9223372036854775807)):=by
 obtain⟨_,_,rfl,⟨rfl,m⟩,⟨_,_,rfl,⟨rfl,g⟩,⟨_,_,rfl,⟨rfl,i⟩,⟨_,_,rfl,⟨rfl,l⟩,⟨_,_,rfl,⟨rfl,o⟩,⟨_,_,rfl,⟨rfl,j⟩,⟨_,_,rfl,e,f⟩⟩⟩⟩⟩⟩⟩:=h
 obtain⟨a,c,rfl,e⟩:=QK e
 obtain⟨b,d,rfl,f⟩:=QK f
 exact⟨a,c,b,d,Z,e,f,m,g,i,l,o,j⟩
theorem Qmg {x:Qs}{b:Option Addr}(g:intsL.In w O x.regs [.slice a x.regs.length c]) (f:intsL.In w O x.args [.slice b x.args.length d])
 (e:(-9223372036854775808<=x.op/\x.op<=9223372036854775807)/\(-9223372036854775808<=x.a/\x.a<=9223372036854775807)/\(-9223372036854775808<=x.b/\x.b<=9223372036854775807)/\(-9223372036854775808<=x.c/\x.c<=9223372036854775807)/\(-9223372036854775808<=x.k/\x.k<=9223372036854775807)/\(-9223372036854775808<=x.n/\x.n<=9223372036854775807)) :
 insL.In w O x [Iv x.op,Iv x.a,Iv x.b,Iv x.c,Iv x.k,Iv x.n,.slice a x.regs.length c,.slice b x.args.length d] :=
 ⟨_,_,Z,⟨Z,e.1⟩,⟨_,_,Z,⟨Z,e.2.1⟩,⟨_,_,Z,⟨Z,e.2.2.1⟩,⟨_,_,Z,⟨Z,e.2.2.2.1⟩,⟨_,_,Z,⟨Z,e.2.2.2.2.1⟩,⟨_,_,Z,⟨Z,e.2.2.2.2.2⟩,⟨_,_,Z,g,f⟩⟩⟩⟩⟩⟩⟩
theorem Qgl {x:ZA}(h:endL.In w O x cs):∃ c1 c2 a c,cs=Iv x.op::Iv x.a::(c1++(c2++[.slice a x.args.length c]))/\toL.In w O x.yes c1/\toL.In w O x.no c2/\intsL.In w O x.args [.slice a x.args.length c]/\((-9223372036854775808<=x.op/\x.op<=9223372036854775807)/\(-9223372036854775808<=x.a/\x.a<=9223372036854775807)):=by
 obtain⟨_,_,rfl,⟨rfl,g⟩,⟨_,_,rfl,⟨rfl,d⟩,⟨c1,_,rfl,e,⟨c2,_,rfl,f,b⟩⟩⟩⟩:=h
 obtain⟨a,c,rfl,b⟩:=QK b
 exact⟨c1,c2,a,c,Z,e,f,b,g,d⟩
theorem Qmr {x:ZA}{d b:List Value}(f:toL.In w O x.yes d) (g:toL.In w O x.no b) (h:intsL.In w O x.args [.slice a x.args.length c]) (e:(-9223372036854775808<=x.op/\x.op<=9223372036854775807)/\(-9223372036854775808<=x.a/\x.a<=9223372036854775807)) :
 endL.In w O x (Iv x.op::Iv x.a::(d++(b++[.slice a x.args.length c]))):=⟨[_],_,Z,⟨Z,e.1⟩,⟨[_],_,Z,⟨Z,e.2⟩,⟨d,_,Z,f,⟨b,_,Z,g,h⟩⟩⟩⟩
theorem Qce {x:MBlock n}(h:(Zo n).In w O x cs):∃ a c b d es,cs=Iv x.regs::.slice a x.params.length c::.slice b x.code.length d::es/\(Qp n).In w O x.params [.slice a x.params.length c]/\insL.list.In w O x.code [.slice b x.code.length d]/\endL.In w O x.fin es/\(-9223372036854775808<=x.regs/\x.regs<=9223372036854775807):=by
 obtain⟨_,_,rfl,⟨rfl,g⟩,⟨_,_,rfl,f,⟨_,es,rfl,e,i⟩⟩⟩:=h
 obtain⟨a,c,rfl,f⟩:=QK f
 obtain⟨b,d,rfl,e⟩:=QK e
 exact⟨a,c,b,d,es,Z,f,e,i,g⟩
theorem QgB {x:MBlock n}{b:Option Addr}{e:List Value}(f:(Qp n).In w O x.params [.slice a x.params.length c]) (g:insL.list.In w O x.code [.slice b x.code.length d]) (h:endL.In w O x.fin e) (i:-9223372036854775808<=x.regs/\x.regs<=9223372036854775807) :
 (Zo n).In w O x (Iv x.regs::.slice a x.params.length c::.slice b x.code.length d::e):=⟨[_],_,Z,⟨Z,i⟩,⟨[_],_,Z,f,⟨[_],e,Z,g,h⟩⟩⟩
theorem Qas {x:MFunc n}(h:(ZS n).In w O x cs):∃ a c b d e f,cs=[Iv x.regs,.slice a x.params.length c,.slice b x.results.length d,.slice e x.blocks.length f]/\(Qp n).In w O x.params [.slice a x.params.length c]/\(Qp n).In w O x.results [.slice b x.results.length d]/\(Zo n).list.In w O x.blocks [.slice e x.blocks.length f]/\(-9223372036854775808<=x.regs/\x.regs<=9223372036854775807):=by
 obtain⟨_,_,rfl,⟨rfl,k⟩,⟨_,_,rfl,i,⟨_,_,rfl,g,j⟩⟩⟩:=h
 obtain⟨a,c,rfl,i⟩:=QK i
 obtain⟨b,d,rfl,g⟩:=QK g
 obtain⟨e,f,rfl,j⟩:=QK j
 exact⟨a,c,b,d,e,f,Z,i,g,j,k⟩
theorem Qjd {x:MFunc n}{b e:Option Addr}(i:(Qp n).In w O x.params [.slice a x.params.length c]) (g:(Qp n).In w O x.results [.slice b x.results.length d]) (j:(Zo n).list.In w O x.blocks [.slice e x.blocks.length f]) (h:-9223372036854775808<=x.regs/\x.regs<=9223372036854775807) :
 (ZS n).In w O x [Iv x.regs,.slice a x.params.length c,.slice b x.results.length d,.slice e x.blocks.length f]:=⟨[_],_,Z,⟨Z,h⟩,⟨[_],_,Z,i,⟨[_],_,Z,g,j⟩⟩⟩
theorem ZI (h:intsL.In w O l [.slice a m c])(hi:i<l.length):∃ g o,a=some ⟨g,o,none⟩/\O g/\g<w.heap.size/\w.cell? ⟨g,o+i,none⟩=some (Iv (l.getD i 0)):=by
 obtain⟨g,o,k,e,b,d,f,rfl,_⟩:=Yf h (Zg hi)
 refine⟨g,o,e,b,d,?_⟩
 have:=f 0 (by decide)
 have j:Lay.int.size=1:=rfl;rw[j,XL,Nat.add_zero] at this
 rw[this]
 simp[List.getD,hi]
theorem QX {l:List (TT n)}(h:(Qp n).In w O l [.slice a m c]):LIn w O l a/\∀ x∈l,x.ok:=by
 refine⟨fun i x d=>?_,fun x d=>?_⟩
 ·obtain⟨g,o,s,e,f,q,b,j,k,rfl,p,_⟩:=Yf h d
  have u:(Lay.tt n).size=3:=rfl;rw[u] at b
  exact⟨g,o,j,k,e,f,b 0 (by omega),b 1 (by omega),b 2 (by omega),p⟩
 ·obtain⟨i,t,rfl⟩:=List.mem_iff_getElem.1 d
  obtain⟨g,o,s,e,f,q,b,j,k,rfl,p,r⟩:=Yf h (Zg t)
  exact r
theorem QeN {l:List (TT n)}(h:LIn w O l a) (b:∀ x∈l,x.ok):(Qp n).In w O l [.slice a l.length c]:=by
 refine⟨a,c,Z,fun i x f=>?_⟩
 obtain⟨g,o,m,p,e,s,k,u,y,t⟩:=LIn.at h f
 refine⟨g,o,[Iv x.kind,Iv x.r,.slice m x.len p],e,s,Xi w ⟨g,o+i*3,none⟩ k,fun j q=>?_,m,p,Z,t,b x (Zm f)⟩
 have d:j<3:=q;have v:(Lay.tt n).size=3:=rfl;rw[v]
 match j,d with
 | 0,_=>exact k
 | 1,_=>exact u
 | 2,_=>exact y
end
end
def Q6 (op:Int):Option (Bool × Bool × Bool × Bool × Bool × Bool × Bool) :=
 if op=1 then some (false,false,false,false,true,false,false)
 else if op=2\/op=7 then some (true,true,false,true,false,false,false)
 else if op=3\/op=12 then some (false,false,false,false,false,false,false)
 else if op=4\/op=11\/op=13 then some (true,false,false,false,false,false,false)
 else if op=5 then some (true,false,false,false,false,false,true)
 else if op=6 then some (true,false,false,true,false,false,false)
 else if op=8\/op=9 then some (true,true,false,false,false,false,false)
 else if op=10 then some (true,true,true,false,false,false,false)
 else if op=14 then some (false,false,false,true,false,true,true)
 else none
def Qs.formless (x:Qs):Bool:=match Q6 x.op with
 | none=>false
 | some (a,b,c,k,n,rg,ar)=>(!a&&x.a != 0)||(!b&&x.b != 0)||(!c&&x.c != 0)||(!k&&x.k != 0)||(!n&&x.n != 0)||(!rg&&decide (0<x.regs.length))||(!ar&&decide (0<x.args.length))
def Qs.form (funcs:Nat) (x:Qs):Int :=
 if (Q6 x.op).isNone then 3
 else if x.formless then 4
 else if x.op=2/\(x.k<1\/9<x.k) then 1
 else if x.op=5/\8<x.args.length then 2
 else if (x.op=6\/x.op=7)/\(x.k<0\/7<x.k) then 1
 else if x.op=14/\(x.k<0\/(funcs:Int)<=x.k) then 1
 else if x.op=14/\(6<x.regs.length\/8<x.args.length) then 2
 else 0
def MTo.form (blocks:Nat) (has:Bool) (t:MTo):Int :=
 if has=false then (if t.block≠0\/0<t.regs.length+t.args.length then 4 else 0)
 else if t.block<0\/(blocks:Int)<=t.block then 1
 else if 16<t.regs.length\/8<t.args.length then 2
 else 0
def ZA.form (blocks:Nat) (e:ZA):Int :=
 if e.op<1\/3<e.op then 3
 else if (e.a≠0/\e.op≠2)\/(0<e.args.length/\e.op≠3) then 4
 else if 8<e.args.length then 2
 else if e.yes.form blocks (decide (e.op≠3))≠0 then e.yes.form blocks (decide (e.op≠3))
 else e.no.form blocks (decide (e.op=2))
def listC {n:Nat}(regs:Int) (l:List (TT n)):Int:=if 8<l.length then 2 else Qu (TT.check regs) l
def firstF {α:Type}(f:Nat->α->Int × Int):Nat->List α->Int × Int
 | _,[]=>(0,0)
 | i,x::xs=>if (f i x).1≠0 then f i x else firstF f (i+1) xs
def TT.dec:(n:Nat)->DecidableEq (TT n)
 | 0=>fun t _=>Empty.elim t
 | n+1=>fun t u=>match (TT.dec n) with
   | d=>if h1:t.1=u.1 then if h2:t.2.1=u.2.1 then match (@List.hasDecEq _ d t.2.2 u.2.2) with
    | isTrue h3=>isTrue (by obtain⟨a,b,c⟩:=t;obtain⟨a',b',c'⟩:=u;simp only at h1 h2 h3;subst h1 h2 h3;rfl)
    | isFalse h3=>isFalse (fun e=>h3 (by rw[e]))
    else isFalse (fun e=>h2 (by rw[e])) else isFalse (fun e=>h1 (by rw[e]))
def Qc1 {n:Nat}(l m:List (TT n)):Bool:=match @List.hasDecEq _ (TT.dec n) l m with
 | isTrue _=>true
 | isFalse _=>false
theorem Qc5 {l m:List (TT n)}:Qc1 l m=true↔l=m:=by
 unfold Qc1;split
 ·rename_i h _;simp[h]
 ·rename_i h _;simp[h]
def MBlock.fault {n:Nat}(funcs:Nat) (f:Nat) (fn:MFunc n) (b:Nat) (x:MBlock n):Int × Int :=
 if x.regs<fn.regs\/16<x.regs then (1,10000*f+100*b+90)
 else if listC x.regs x.params≠0 then (listC x.regs x.params,10000*f+100*b+90)
 else if b=0/\(x.regs≠fn.regs\/Qc1 x.params fn.params=false) then (9,10000*f+100*b+90)
 else if 40<x.code.length then (2,10000*f+100*b+90)
 else if (firstF (fun i y=>(Qs.form funcs y,(10000*f+100*b+i:Int))) 0 x.code).1≠0 then firstF (fun i y=>(Qs.form funcs y,(10000*f+100*b+i:Int))) 0 x.code
 else if x.fin.form fn.blocks.length≠0 then (x.fin.form fn.blocks.length,10000*f+100*b+91)
 else (0,0)
def MFunc.fault {n:Nat}(funcs:Nat) (f:Nat) (x:MFunc n):Int × Int :=
 if x.regs<0\/6<x.regs then (1,10000*f+9999)
 else if listC x.regs x.params≠0 then (listC x.regs x.params,10000*f+9999)
 else if listC x.regs x.results≠0 then (listC x.regs x.results,10000*f+9999)
 else if x.blocks.length<1\/12<x.blocks.length then (2,10000*f+9999)
 else if f=0/\¬ (x.regs=0/\x.params.length=0/\x.results.all (fun t=>t.kind==1)=true) then (18,10000*f+9999)
 else firstF (fun b y=>MBlock.fault funcs f x b y) 0 x.blocks
def modFault {n:Nat}(m:List (MFunc n)):Int × Int :=
 if m.length<1\/8<m.length then (2,-1) else firstF (fun f x=>MFunc.fault m.length f x) 0 m
def Zy {n:Nat}(l:List (TT n)):Prop:=200<l.length\/∃ t∈l,2000<t.count
def MBlock.great {n:Nat}(x:MBlock n):Prop:=200<x.code.length\/Zy x.params\/300<x.fin.args.length\/300<x.fin.yes.regs.length\/300<x.fin.yes.args.length\/300<x.fin.no.regs.length\/300<x.fin.no.args.length\/∃ y∈x.code,300<y.regs.length\/300<y.args.length
def MFunc.great {n:Nat}(x:MFunc n):Prop:=30<x.blocks.length\/Zy x.params\/Zy x.results\/∃ y∈x.blocks,y.great
def Qm {n:Nat}(m:List (MFunc n)):Prop:=20<m.length\/∃ x∈m,x.great
theorem Qau {α:Type}{f:Nat->α->Int × Int}:∀ {l:List α}{i j:Nat}{x:α},l[i]?=some x->(∀ k y,k<i->l[k]?=some y->(f (j+k) y).1=0)->(f (j+i) x).1≠0->firstF f j l=f (j+i) x
 | [],i,j,x,h,_,_=>by simp at h
 | y::ys,0,j,x,h,_,hf=>by
   simp at h;subst h
   simp only[firstF]
   rw[Xs (by simpa using hf)]
   rfl
 | y::ys,i+1,j,x,h,hz,hf=>by
   have b:(f j y).1=0:=by simpa using hz 0 y (by omega) Z
   simp only[firstF,b,ne_eq,not_true_eq_false,if_false]
   have:=Qau (f:=f) (l:=ys) (i:=i) (j:=j+1) (x:=x) (by simpa using h) (fun k z c a=>by have:=hz (k+1) z (by omega) (by simpa using a);rwa [show j+1+k=j+(k+1) by omega]) (by rwa [show j+1+i=j+(i+1) by omega])
   rw[this,show j+1+i=j+(i+1) by omega]
theorem QY {α:Type}{f:Nat->α->Int × Int}:∀ {l:List α}{j:Nat},(∀ (k:Nat) y,l[k]?=some y->(f (j+k) y).1=0)->firstF f j l=(0,0)
 | [],_,_=>rfl
 | y::ys,j,h=>by
   have a:(f j y).1=0:=by simpa using h 0 y Z
   simp only[firstF,a,ne_eq,not_true_eq_false,if_false]
   exact QY (fun k z b=>by have:=h (k+1) z (by simpa using b);rwa [show j+1+k=j+(k+1) by omega])
theorem Xq:type_of% @Decidable.not_not:=@Decidable.not_not
def QmD {n:Nat}(l:List (TT n)):Prop:=l.length<=8/\∀ t∈l,∃ regs:Int,regs<=16/\t.check regs=0
structure MBlock.fine {n:Nat}(x:MBlock n) (funcs:Nat):Prop where
 regs:0<=x.regs/\x.regs<=16
 params:QmD x.params
 code:∀ y∈x.code,y.form funcs=0
 fin:∃ nb,nb<=12/\x.fin.form nb=0
structure MFunc.fine {n:Nat}(x:MFunc n) (funcs:Nat):Prop where
 regs:0<=x.regs/\x.regs<=6
 params:QmD x.params
 results:QmD x.results
 blocks:∀ y∈x.blocks,y.fine funcs
theorem QQ {α:Type}{f:Nat->α->Int × Int}:∀ {l:List α}{j:Nat},(firstF f j l).1=0->∀ (i:Nat) x,l[i]?=some x->(f (j+i) x).1=0
 | [],j,h,i,x,hx=>by simp at hx
 | y::l,j,h,i,x,hx=>by
   rw[firstF] at h
   by_cases a:(f j y).1=0
   ·rw[Xr (by simpa using a)] at h
    cases i with
    | zero=>simp at hx;subst hx;exact a
    | succ i =>
      have:=QQ h i x (by simpa using hx)
      rwa [show j+1+i=j+(i+1) by omega] at this
   ·rw[Xs a] at h
    exact absurd h a
theorem QlQ {regs:Int}{l:List (TT n)}(a:regs<=16) (h:listC regs l=0):QmD l:=by
 unfold listC at h;split at h
 ·cases h
 ·exact⟨by omega,fun t b=>⟨regs,a,QF.1 h t b⟩⟩
theorem Qj0 {fn:MFunc n}{x:MBlock n}(l:0<=fn.regs) (j:fn.blocks.length<=12) (h:(MBlock.fault funcs f fn b x).1=0):x.fine funcs:=by
 unfold MBlock.fault at h;split at h
 ·cases h
 rename_i k
 split at h
 ·rename_i a;exact absurd h a
 rename_i a
 split at h
 ·cases h
 split at h
 ·cases h
 split at h
 ·rename_i c;exact absurd h c
 rename_i c
 split at h
 ·rename_i d;exact absurd h d
 rename_i d
 refine⟨by omega,QlQ (by omega) (Xq.1 a),fun y e=>?_,_,j,Xq.1 d⟩
 obtain⟨i,g⟩:=List.getElem?_of_mem e
 exact QQ (Xq.1 c) i y g
theorem Qlw {x:MFunc n}(h:(MFunc.fault funcs f x).1=0):x.fine funcs:=by
 unfold MFunc.fault at h;split at h
 ·cases h
 rename_i e
 split at h
 ·rename_i a;exact absurd h a
 rename_i a
 split at h
 ·rename_i b;exact absurd h b
 rename_i b
 split at h
 ·cases h
 rename_i g
 split at h
 ·cases h
 refine⟨by omega,QlQ (by omega) (Xq.1 a),QlQ (by omega) (Xq.1 b),fun y c=>?_⟩
 obtain⟨i,d⟩:=List.getElem?_of_mem c
 exact Qj0 (by omega) (by omega) (QQ h i y d)
theorem QmH {m:List (MFunc n)}(h:(modFault m).1=0):∀ x∈m,x.fine m.length:=by
 unfold modFault at h;split at h
 ·cases h
 intro x b;obtain⟨i,a⟩:=List.getElem?_of_mem b
 exact Qlw (QQ h i x a)
theorem Qir {x:Qs}(h:x.form funcs=0):(Q6 x.op).isNone=false/\x.formless=false/\(x.op=2->1<=x.k/\x.k<=9)/\(x.args.length<=8\/x.op≠5/\x.op≠14)/\(x.op=14->x.regs.length<=6):=by
 unfold Qs.form at h;split at h
 ·cases h
 split at h
 ·cases h
 split at h
 ·cases h
 split at h
 ·cases h
 split at h
 ·cases h
 split at h
 ·cases h
 split at h
 ·cases h
 rename_i a b d e c f g
 refine⟨Bool.eq_false_iff.2 a,Bool.eq_false_iff.2 b,by omega,by omega,by omega⟩
theorem QkL {b:Nat}{e:ZA}(i:b<=12) (h:e.form b=0):(e.op=1\/e.op=2\/e.op=3)/\(e.op≠2->e.a=0)/\(e.op≠3->e.args=[])/\e.args.length<=8/\e.yes.form b (decide (e.op≠3))=0/\e.no.form b (decide (e.op=2))=0:=by
 unfold ZA.form at h;split at h
 ·cases h
 split at h
 ·cases h
 split at h
 ·cases h
 split at h
 ·rename_i c;exact absurd h c
 rename_i c f g d
 refine⟨by omega,by omega,fun j=>Xf.1 (by omega),by omega,Xq.1 d,h⟩
theorem QcS {t:TT n}{regs:Int}(h:t.check regs=0):t.height<=4/\t.fault regs=0:=by
 unfold TT.check at h;split at h
 ·cases h
 ·exact⟨by omega,h⟩
theorem QjO {op:Int}(h:(Q6 op).isNone=false):op=1\/op=2\/op=3\/op=4\/op=5\/op=6\/op=7\/op=8\/op=9\/op=10\/op=11\/op=12\/op=13\/op=14:=by
 unfold Q6 at h;repeat' split at h
 all_goals first | omega | cases h
theorem Xo:type_of% @Nat.le_of_not_lt:=@Nat.le_of_not_lt
def MTo.small (x:MTo):Prop:=x.regs.length<=100000/\x.args.length<=100000
def Qs.small (x:Qs):Prop:=x.regs.length<=100000/\x.args.length<=100000
def ZA.small (x:ZA):Prop:=x.yes.small/\x.no.small/\x.args.length<=100000
def Qdc {n:Nat}(l:List (TT n)):Prop:=l.length<=100000/\∀ t∈l,t.count<=100000
def MBlock.small {n:Nat}(x:MBlock n):Prop:=x.code.length<=100000/\Qdc x.params/\x.fin.small/\∀ y∈x.code,y.small
def MFunc.small {n:Nat}(x:MFunc n):Prop:=x.blocks.length<=100000/\Qdc x.params/\Qdc x.results/\∀ y∈x.blocks,y.small
def Qbe {n:Nat}(m:List (MFunc n)):Prop:=m.length<=100000/\∀ x∈m,x.small
theorem Qc2 {l:List (TT n)}(h:¬ Zy l):Qdc l:=⟨Zt (Xo fun x=>h (.inl x)) (by decide),fun t a=>Zt (Xo fun x=>h (.inr ⟨t,a,x⟩)) (by decide)⟩
theorem MBlock.small_of {x:MBlock n}(h:¬ x.great):x.small:=by
 unfold MBlock.great at h;simp only[not_or,not_exists,not_and,Nat.not_lt] at h
 obtain⟨c,d,f,g,e,i,j,a⟩:=h
 exact⟨Zt c (by decide),Qc2 d,⟨⟨Zt g (by decide),Zt e (by decide)⟩,⟨Zt i (by decide),Zt j (by decide)⟩,Zt f (by decide)⟩,fun y b=>⟨Zt (a y b).1 (by decide),Zt (a y b).2 (by decide)⟩⟩
theorem MFunc.small_of {x:MFunc n}(h:¬ x.great):x.small:=by
 unfold MFunc.great at h;simp only[not_or,not_exists,not_and,Nat.not_lt] at h
 obtain⟨a,c,d,e⟩:=h
 exact⟨Zt a (by decide),Qc2 c,Qc2 d,fun y b=>MBlock.small_of (e y b)⟩
theorem ZD {m:List (MFunc n)}(h:¬ Qm m):Qbe m:=by
 unfold Qm at h;simp only[not_or,not_exists,not_and,Nat.not_lt] at h
 exact⟨Zt h.1 (by decide),fun x a=>MFunc.small_of (h.2 x a)⟩
theorem XN:type_of% @List.length_map:=@List.length_map
def TT.at:{n:Nat}->(k:Nat)->TT n->TT (k+1)
 | 0,_,t=>Empty.elim t
 | n+1,0,t=>(t.1,t.2.1,[])
 | n+1,k+1,t=>(t.1,t.2.1,t.2.2.map (TT.at (n:=n) k))
theorem TT.at_kind:{n:Nat}->(k:Nat)->(t:TT n)->(t.at k).kind=t.kind
 | 0,_,t=>Empty.elim t
 | n+1,0,t=>rfl
 | n+1,k+1,t=>rfl
theorem TT.at_r:{n:Nat}->(k:Nat)->(t:TT n)->(t.at k).r=t.r
 | 0,_,t=>Empty.elim t
 | n+1,0,t=>rfl
 | n+1,k+1,t=>rfl
theorem TT.at_len:{n:Nat}->(k:Nat)->(t:TT n)->t.height<=k->(t.at k).len=t.len
 | 0,_,t,_=>Empty.elim t
 | n+1,0,t,h=>by
   have:=(Q9 (t:=t)).1 h
   show 0=t.2.2.length
   cases hx:t.2.2 with
   | nil=>rfl
   | cons x l=>have:=this x (by rw[hx];simp);omega
 | n+1,k+1,t,h=>by
   show (t.2.2.map _).length=_;rw[XN];rfl
theorem TIn.at {w:World}{O:Nat->Prop}:{n:Nat}->(k:Nat)->{t:TT n}->{a:Option Addr}->t.height<=k->TIn w O t a->TIn w O (t.at k) a
 | 0,_,t,_,_,_=>Empty.elim t
 | n+1,0,t,a,h,hi=>fun i x c=>by simp[TT.at] at c
 | n+1,k+1,t,a,h,hi=>fun i x c=>by
   have b:(t.2.2.map (TT.at k))[i]?=some x:=c;rw[XS,Option.map_eq_some_iff] at b
   obtain⟨y,d,rfl⟩:=b
   have f:y.height<=k:=by have:=(Q9 (t:=t)).1 h y (Zm d);omega
   obtain⟨g,o,p,r,e,l,j,m,q,s⟩:=hi i y d
   refine⟨g,o,p,r,e,l,?_,?_,?_,TIn.at k f s⟩
   ·rw[TT.at_kind];exact j
   ·rw[TT.at_r];exact m
   ·rw[TT.at_len k y f];exact q
theorem TT.at_ok:{n:Nat}->(k:Nat)->{t:TT n}->t.ok->(t.at k).ok
 | 0,_,t,_=>Empty.elim t
 | n+1,0,t,h=>⟨h.1,fun x a=>by cases a⟩
 | n+1,k+1,t,h=>⟨h.1,fun x a=>by
   obtain⟨y,b,rfl⟩:=List.mem_map.1 a
   exact TT.at_ok k (h.2 y b)⟩
def MBlock.at {n:Nat}(k:Nat) (x:MBlock n):MBlock (k+1):=⟨x.regs,x.params.map (TT.at k),x.code,x.fin⟩
def MFunc.at {n:Nat}(k:Nat) (x:MFunc n):MFunc (k+1):=⟨x.regs,x.params.map (TT.at k),x.results.map (TT.at k),x.blocks.map (MBlock.at k)⟩
def QeY {n:Nat}(k:Nat) (l:List (TT n)):Prop:=∀ t∈l,t.height<=k
def MBlock.flat {n:Nat}(k:Nat) (x:MBlock n):Prop:=QeY k x.params
def MFunc.flat {n:Nat}(k:Nat) (x:MFunc n):Prop:=QeY k x.params/\QeY k x.results/\∀ y∈x.blocks,y.flat k
theorem Lay.list_map {α β:Type}{A:Lay α}{B:Lay β}{f:α->β}{w:World}{O:Nat->Prop}{l:List α}{cs:List Value}(r:A.size=B.size) (p:∀ x∈l,∀ ds,A.In w O x ds->B.In w O (f x) ds) (h:A.list.In w O l cs):B.list.In w O (l.map f) cs:=by
 obtain⟨a,c,e,h⟩:=h
 refine⟨a,c,by rw[e,XN],fun i x b=>?_⟩
 rw[XS,Option.map_eq_some_iff] at b
 obtain⟨y,d,rfl⟩:=b
 obtain⟨g,o,ds,j,k,n,q,m⟩:=h i y d
 exact⟨g,o,ds,j,k,n,by rw[<-r];exact q,p y (Zm d) ds m⟩
section
variable {w:World}{O:Nat->Prop}{n:Nat}{cs:List Value}
theorem Qd9 {l:List (TT n)}(b:QeY k l) (h:(Qp n).In w O l cs):(Qp (k+1)).In w O (l.map (TT.at k)) cs :=
 Lay.list_map (A:=Lay.tt n) (B:=Lay.tt (k+1)) Z (fun x d i ⟨a,c,e,f,g⟩=>⟨a,c,by rw[e,TT.at_kind,TT.at_r,TT.at_len k x (b x d)],f.at k (b x d),TT.at_ok k g⟩) h
theorem Qlt {m:List (MFunc n)}(h:(modFault m).1=0):∀ x∈m,x.flat 5:=by
 have a:∀ {l:List (TT n)},QmD l->QeY 5 l:=fun h t e=>by
  obtain⟨r,_,f⟩:=h.2 t e
  have:=(QcS f).1
  omega
 intro x c;have b:=QmH h x c;exact⟨a b.params,a b.results,fun y d=>a (b.blocks y d).params⟩
end
theorem Xc:type_of% @Int.eq_ofNat_of_zero_le:=@Int.eq_ofNat_of_zero_le
theorem Xe:type_of% @List.all_eq_true:=@List.all_eq_true
theorem XV:type_of% @List.take_add_one:=@List.take_add_one
def hHas (L:List Bool) (r:Int):Bool:=decide (0<=r)&&L.getD r.toNat false
def hTo (L:List Bool):Nat->List Int
 | 0=>[]
 | k+1=>hTo L k++(if L.getD k false then [(k:Int)] else [])
def Qan (L:List Bool):List Int:=hTo L L.length
def inB (l:List Int) (x:Int):Bool:=l.contains x
def hPass (L:List Bool):List Int->List Int->Int
 | ahead,[]=>if (Qan L).all (fun r=>inB ahead r) then 0 else 12
 | ahead,r::rest=>if hHas L r then (if inB ahead r then 13 else hPass L (ahead++[r]) rest) else 10
theorem Qao (L:List Bool)(h:L.length<=k):L.getD k false=false:=by
 simp[List.getD,List.getElem?_eq_none h]
theorem QmS (L:List Bool):∀ k,L.length<=k->hTo L k=Qan L:=by
 intro k
 induction k with
 | zero=>intro h;rw[Qan,Nat.le_zero.1 h]
 | succ k ih =>
   intro h;rcases Nat.lt_or_ge k L.length with a | a
   ·rw[Qan,show L.length=k+1 by omega]
   ·rw[hTo,Qao L a,ih a];simp
theorem QhF (L:List Bool):∀ k,(hTo L k).length<=k:=by
 intro k
 induction k with
 | zero=>simp[hTo]
 | succ k ih =>
   rw[hTo]
   split<;>simp<;>omega
theorem QiO (L:List Bool):(Qan L).length<=L.length:=QhF L _
theorem QlI (L:List Bool) (r:Int):∀ k,r∈hTo L k↔0<=r/\r<k/\L.getD r.toNat false=true:=by
 intro k
 induction k with
 | zero=>simp[hTo];omega
 | succ k ih =>
   rw[hTo,List.mem_append,ih]
   constructor
   ·rintro (⟨b,d,a⟩ | h)
    ·exact⟨b,by omega,a⟩
    ·split at h
     ·rename_i c
      simp at h
      subst h;exact⟨by omega,by omega,by simpa using c⟩
     ·simp at h
   ·rintro ⟨b,d,a⟩;rcases Nat.lt_or_ge r.toNat k with f | f
    ·exact .inl ⟨b,by omega,a⟩
    ·have e:r=(k:Int):=by omega
     subst e;right
     simp only[Int.toNat_natCast] at a
     rw[a];simp
theorem QcN (L:List Bool) (r:Int):r∈Qan L↔hHas L r=true:=by
 rw[Qan,QlI,hHas]
 constructor
 ·rintro ⟨b,_,c⟩;rw[c];simp[b]
 ·intro h;simp only[Bool.and_eq_true,decide_eq_true_eq] at h
  refine⟨h.1,?_,h.2⟩
  rcases Nat.lt_or_ge r.toNat L.length with a | a
  ·omega
  ·rw[Qao L a] at h;simp at h
theorem Qdg (L:List Bool) (k:Nat):hHas L (k:Int)=L.getD k false:=by simp[hHas]
theorem QaU {r:Int}(h:hHas L r=true):∃ k:Nat,r=(k:Int)/\k<L.length/\L.getD k false=true:=by
 simp only[hHas,Bool.and_eq_true,decide_eq_true_eq] at h
 obtain⟨k,rfl⟩:=Xc h.1
 have a:L.getD k false=true:=by simpa using h.2
 refine⟨k,Z,?_,a⟩
 rcases Nat.lt_or_ge k L.length with b | b
 ·exact b
 ·rw[Qao L b] at a;cases a
theorem inB_iff :inB l x=true↔x∈l:=by simp[inB]
theorem Qk4 (l:List Int) (x y:Int):inB (l++[x]) y=(inB l y||decide (x=y)):=by
 rw[Bool.eq_iff_iff,inB_iff,Bool.or_eq_true,inB_iff,decide_eq_true_eq,List.mem_append,List.mem_singleton]
 exact⟨fun h=>h.imp id Eq.symm,fun h=>h.imp id Eq.symm⟩
theorem Qg2 (L:List Bool) (l:List Int)(a:l[k]?=some x) :
 hPass L (l.take k) (l.drop k)=if hHas L x then (if inB (l.take k) x then 13 else hPass L (l.take (k+1)) (l.drop (k+1))) else 10:=by
 obtain⟨b,e⟩:=Zi a
 rw[List.drop_eq_getElem_cons b,e,hPass,XV,a]
 rfl
theorem Qim (L:List Bool) (l:List Int)(a:l.length<=k):hPass L (l.take k) (l.drop k)=if (Qan L).all (fun r=>inB l r) then 0 else 12:=by
 rw[List.drop_of_length_le a,XO a,hPass]
def Zz (L:List Bool) (l:List Int) (i:Nat):Bool:=L.getD i false&&!inB l (i:Int)
theorem Qje (L:List Bool) (i:Nat):Zz L [] i=L.getD i false:=by simp[Zz,inB]
theorem Qha (L:List Bool) (l:List Int) (k i:Nat):Zz L (l++[(k:Int)]) i=if i=k then false else Zz L l i:=by
 unfold Zz;rw[Qk4]
 by_cases h:i=k
 ·subst h;simp
 ·rw[Xr h]
  have:decide ((k:Int)=(i:Int))=false:=by simp;omega
  rw[this];simp
theorem Qhh (h:L.length<=16):((List.range 16).map (Zz L l)=List.replicate 16 false)↔(Qan L).all (fun r=>inB l r)=true:=by
 rw[Xe]
 constructor
 ·intro e r g;obtain⟨k,rfl,d,c⟩:=QaU ((QcN L r).1 g)
  have a:k<16:=by omega
  have:((List.range 16).map (Zz L l))[k]?=some false:=by rw[e,List.getElem?_replicate,Xs a]
  rw[XS,List.getElem?_range a] at this
  simp only[Option.map_some,Option.some.injEq] at this
  unfold Zz at this;rw[c] at this
  simpa using this
 ·intro e;rw[List.eq_replicate_iff]
  refine⟨by simp,fun b f=>?_⟩
  obtain⟨k,d,rfl⟩:=List.mem_map.1 f
  unfold Zz
  cases c:L.getD k false with
  | false=>rfl
  | true =>
    have:=e (k:Int) ((QcN L _).2 (by rw[Qdg];exact c))
    rw[this];rfl
def QbH (L:List Bool):Int:=if L.length<16 then (L.length:Int) else -1
def QcO (L:List Bool):List Bool:=if L.length<16 then L++[true] else L
def Qf8 (L:List Bool) (r:Int):List Bool:=if hHas L r then L.set r.toNat false else L
def QbV (n:Int):List Bool:=List.replicate (min n 16).toNat true
theorem QeT (a:k<16):QcO (List.replicate k true)=List.replicate (k+1) true:=by
 simp[QcO,a,List.replicate_succ']
theorem QbL (x:P.underlying t=some (.array n e)) (C:P.underlying e=some .bool) (s:(P.info? e).map (·.size)=some 1) (w:World)
 (y:∀ a b,(Op.equalIn d e (.bool a) (.bool b)).run P w=.ok (a==b) w) (xs c:List Bool) (E:xs.length=n) (D:c.length=n) :
 (Op.equalIn (d+1) t (.agg (xs.map Value.bool).toArray) (.agg (c.map Value.bool).toArray)).run P w=.ok (xs==c) w:=by
 have v:(sizeOf e).run P w=.ok 1 w:=by
  cases hq:P.info? e with
  | none=>simp[hq] at s
  | some i=>simp[hq] at s;simp[sizeOf,typeInfo,hq,s]
 have f:∀ (o:List Bool) (i:Nat) (h:i<o.length),(part e (o.map Value.bool).toArray (i*1)).run P w=.ok (.bool o[i]) w:=by
  intro o i h;simp[part,isAgg,run_underlying C,h]
 simp only[Op.equalIn,Sem.run_bind,run_underlying x,Result.andThen_ok,v]
 rw[Std.Legacy.Range.forIn_eq_forIn_range',show Std.Legacy.Range.size [0:n]=n by simp[Std.Legacy.Range.size]]
 have u:∀ (m k:Nat),k+m=n->(xs.take k==c.take k)=true ->
  ((forIn (List.range' k m) ((none,()):Option Bool × Unit) fun i A=>do
    let __do_lift <-part e (xs.map Value.bool).toArray (i*1)
    let __do_lift_1 <-part e (c.map Value.bool).toArray (i*1)
    let __do_lift_2 <-Op.equalIn d e __do_lift __do_lift_1
    if (!__do_lift_2)=true then pure (ForInStep.done (some false,()))
    else pure (ForInStep.yield (none,())):Sem (Option Bool × Unit)).run P w)=.ok (if xs==c then none else some false,()) w:=by
  intro m
  induction m with
  | zero =>
    intro k B p
    have:(xs==c)=true:=by
     rw[XO (by omega),XO (by omega)] at p
     exact p
    simp[this]
  | succ m ih =>
    intro k B p;have j:k<xs.length:=by omega
    have l:k<c.length:=by omega
    simp only[List.range'_succ,List.forIn_cons,Sem.run_bind,f xs k j,f c k l,Result.andThen_ok,y]
    by_cases q:xs[k]=c[k]
    ·have z:(xs.take (k+1)==c.take (k+1))=true:=by
      rw[XV,XV,Zg j,Zg l,q,beq_iff_eq.1 p]
      simp
     have g:(xs[k]==c[k])=true:=by simpa using q
     simp only[g,Bool.not_true,Bool.false_eq_true,if_false,Sem.run_pure,Result.andThen_ok]
     exact ih (k+1) (by omega) z
    ·have g:(xs[k]==c[k])=false:=by simpa using q
     have r:(xs==c)=false:=by
      rw[beq_eq_false_iff_ne]
      intro e;subst e;exact q Z
     simp[g,r]
 have:=u n 0 (by omega) (by simp)
 rw[this]
 cases h:xs==c<;>simp
theorem Qb3 (i:P.underlying t=some (.array n e)) (f:P.underlying e=some .bool) (j:(P.info? e).map (·.size)=some 1) (w:World)
 (xs c:List Bool) (g:xs.length=n) (h:c.length=n) :
 (Op.equalIn (d+2) t (.agg (xs.map Value.bool).toArray) (.agg (c.map Value.bool).toArray)).run P w=.ok (xs==c) w :=
 QbL i f j w (fun a b=>by simp[Op.equalIn,run_underlying f]) xs c g h
def Rd (P:Program) (f:FuncId) (args:Array Value) (w:World) (V:Value):Prop:=Calls P f args w fun e w'=>e=.returned V/\Below w.heap.size w w'
noncomputable def ZQ (A:Prop):Bool:=@decide A (Classical.propDecidable A)
theorem Qa4 {A:Prop}:ZQ A=true↔A:=by unfold ZQ;simp
theorem QC {A:Prop}(h:A):ZQ A=true:=Qa4.2 h
theorem QB {A:Prop}(h:¬ A):ZQ A=false:=by
 cases e:ZQ A with
 | false=>rfl
 | true=>exact absurd (Qa4.1 e) h
theorem QfH {A:Prop}{q:Bool}(h:q=true↔A):q=ZQ A:=by
 cases q with
 | false=>exact(QB fun a=>by have:=h.2 a;cases this).symm
 | true=>exact(QC (h.1 Z)).symm
structure JSt where
 m:List (MFunc 6)
 f:MFunc 6
 H:List Bool
 L:List (TT 6)
def JSt.at (s:JSt) (k:Int):Option (TT 6):=if k<0 then none else s.L[k.toNat]?
def JSt.want (s:JSt) (k kind:Int) (held:Bool):Int:=match s.at k with
 | none=>1
 | some t=>if t.kind=kind then (if held&&!hHas s.H t.r then 10 else 0) else 9
def Qv (a b:Int):Int:=if a=0 then b else a
noncomputable def JSt.arg (s:JSt) (regs:List Int) (k:Int) (t:TT 6):Int:=match s.at k with
 | none=>1
 | some u=>if ZQ (t.ren regs.length (fun i=>regs.getD i 0)=some u) then 0 else 9
noncomputable def JSt.args (s:JSt) (l:List Int) (ts:List (TT 6)) (regs:List Int):Int :=
 if l.length=ts.length then Qu (fun p:Int × TT 6=>s.arg regs p.1 p.2) (l.zip ts) else 2
def zeroTT:TT 6:=mkT 0 0 []
def tInt:TT 6:=mkT 1 0 []
def Qaj (regs:List Int) (t:TT 6):TT 6:=(t.ren regs.length (fun i=>regs.getD i 0)).getD zeroTT
def QL (H:List Bool):List Int->List Int->Int
 | _,[]=>0
 | ahead,r::rest=>if hHas H r then (if inB ahead r then 13 else QL H (ahead++[r]) rest) else 10
def JSt.fields (s:JSt):List Int->Option (List (TT 6))
 | []=>some []
 | k::r=>match s.at k with
   | none=>none
   | some t=>match s.fields r with
     | none=>none
     | some l=>some (t::l)
noncomputable def JSt.makes (s:JSt) (x:Qs):Int × List (TT 6) :=
 if x.op=1\/x.op=12 then (0,[tInt])
 else if x.op=2 then (Qv (s.want x.a 1 false) (s.want x.b 1 false),[tInt])
 else if x.op=3 then (if s.H.length=16 then (2,[]) else (0,[mkT 2 s.H.length []]))
 else if x.op=4 then (match s.at x.a with
  | none=>(1,[])
  | some t=>(Qv (s.want x.a 2 true) (if t.r<s.f.regs then 11 else 0),[]))
 else if x.op=5 then (match s.at x.a with
  | none=>(1,[])
  | some t=>if s.want x.a 2 true=0 then (match s.fields x.args with
   | none=>(1,[])
   | some l=>if 4<TT.height (n:=7) (mkT 3 t.r l) then (19,[]) else (0,[TT.at (n:=7) 5 (mkT 3 t.r l)]))
   else (s.want x.a 2 true,[]))
 else if x.op=6 then (match s.at x.a with
  | none=>(1,[])
  | some t=>if s.want x.a 3 true=0 then (match t.2.2[x.k.toNat]? with
   | none=>(9,[])
   | some u=>(0,[u.at 5]))
   else (s.want x.a 3 true,[]))
 else if x.op=7 then (match s.at x.a with
  | none=>(1,[])
  | some t=>if s.want x.a 3 true=0 then (match t.2.2[x.k.toNat]? with
   | none=>(9,[])
   | some u=>(match s.at x.b with
     | none=>(1,[])
     | some v=>if ZQ (u.at 5=v) then (0,[]) else (9,[])))
   else (s.want x.a 3 true,[]))
 else if x.op=8 then (match s.at x.a with
  | none=>(1,[])
  | some t=>(Qv (s.want x.a 2 true) (s.want x.b 1 false),[mkT 4 t.r []]))
 else if x.op=9 then (Qv (s.want x.a 4 true) (s.want x.b 1 false),[tInt])
 else if x.op=10 then (Qv (s.want x.a 4 true) (Qv (s.want x.b 1 false) (s.want x.c 1 false)),[])
 else if x.op=11 then (s.want x.a 4 true,[tInt])
 else if x.op=13 then (s.want x.a 1 false,[])
 else (match s.m[x.k.toNat]? with
  | none=>(0,[])
  | some g=>if (x.regs.length:Int)=g.regs then
   (Qv (QL s.H [] x.regs) (s.args x.args g.params x.regs),g.results.map (Qaj x.regs))
   else (2,[]))
noncomputable def JSt.code (s:JSt) (x:Qs):Int :=
 if x.form s.m.length≠0 then x.form s.m.length
 else if (s.makes x).1≠0 then (s.makes x).1
 else if 80<s.L.length+(s.makes x).2.length then 2 else 0
noncomputable def JSt.next (s:JSt) (x:Qs):JSt :=
 { s with
  H:=if x.op=3 then s.H++[true] else if x.op=4 then s.H.set (match s.at x.a with | none=>0 | some t=>t.r.toNat) false else s.H
  L:=s.L++(s.makes x).2 }
noncomputable def JSt.ins (s:JSt) (x:Qs):JSt:=if s.code x=0 then s.next x else s
def Qdn (n:Nat) (regs:List Int):Int:=if (List.range n).all (fun (i:Nat)=>decide (regs.getD i 0=(i:Int))) then 0 else 11
noncomputable def JSt.to (s:JSt) (t:MTo):Int:=match s.f.blocks[t.block.toNat]? with
 | none=>0
 | some b=>if (t.regs.length:Int)=b.regs then
  Qv (Qdn s.f.regs.toNat t.regs) (Qv (hPass s.H [] t.regs) (s.args t.args b.params t.regs))
  else 2
def QhA (n:Nat):List Int:=(List.range n).map (fun (i:Nat)=>(i:Int))
noncomputable def JSt.fin (s:JSt) (e:ZA):Int :=
 if e.form s.f.blocks.length≠0 then e.form s.f.blocks.length
 else if e.op=1 then s.to e.yes
 else if e.op=2 then Qv (s.want e.a 1 false) (Qv (s.to e.yes) (s.to e.no))
 else Qv (s.args e.args s.f.results (QhA s.f.regs.toNat)) (if (Qan s.H).all (fun r=>decide (r<s.f.regs)) then 0 else 12)
theorem Z1 {s:JSt}{x:Qs}(h:x.op=1\/x.op=12):s.makes x=(0,[tInt]):=by
 unfold JSt.makes;rw[Xs h]
theorem QbO {s:JSt}{x:Qs}(h:x.op=2):s.makes x=(Qv (s.want x.a 1 false) (s.want x.b 1 false),[tInt]):=by
 unfold JSt.makes;rw[Xr (by omega),Xs h]
theorem QbM {s:JSt}{x:Qs}(h:x.op=3):s.makes x=(if s.H.length=16 then (2,[]) else (0,[mkT 2 s.H.length []])):=by
 unfold JSt.makes;rw[Xr (by omega),Xr (by omega),Xs h]
theorem Qaz {s:JSt}{x:Qs}(h:x.op=4):s.makes x=(match s.at x.a with
 | none=>(1,[])
 | some t=>(Qv (s.want x.a 2 true) (if t.r<s.f.regs then 11 else 0),[])):=by
 unfold JSt.makes;rw[Xr (by omega),Xr (by omega),Xr (by omega),Xs h]
theorem Qbp {s:JSt}{x:Qs}(h:x.op=5):s.makes x=(match s.at x.a with
 | none=>(1,[])
 | some t=>if s.want x.a 2 true=0 then (match s.fields x.args with
  | none=>(1,[])
  | some l=>if 4<TT.height (n:=7) (mkT 3 t.r l) then (19,[]) else (0,[TT.at (n:=7) 5 (mkT 3 t.r l)]))
  else (s.want x.a 2 true,[])):=by
 unfold JSt.makes;rw[Xr (by omega),Xr (by omega),Xr (by omega),Xr (by omega),Xs h]
theorem Qc6 {s:JSt}{x:Qs}(h:x.op=6):s.makes x=(match s.at x.a with
 | none=>(1,[])
 | some t=>if s.want x.a 3 true=0 then (match t.2.2[x.k.toNat]? with
  | none=>(9,[])
  | some u=>(0,[u.at 5]))
  else (s.want x.a 3 true,[])):=by
 unfold JSt.makes;rw[Xr (by omega),Xr (by omega),Xr (by omega),Xr (by omega),Xr (by omega),Xs h]
theorem QcL {s:JSt}{x:Qs}(h:x.op=7):s.makes x=(match s.at x.a with
 | none=>(1,[])
 | some t=>if s.want x.a 3 true=0 then (match t.2.2[x.k.toNat]? with
  | none=>(9,[])
  | some u=>(match s.at x.b with
    | none=>(1,[])
    | some v=>if ZQ (u.at 5=v) then (0,[]) else (9,[])))
  else (s.want x.a 3 true,[])):=by
 unfold JSt.makes;rw[Xr (by omega),Xr (by omega),Xr (by omega),Xr (by omega),Xr (by omega),Xr (by omega),Xs h]
theorem Qbs {s:JSt}{x:Qs}(h:x.op=8):s.makes x=(match s.at x.a with
 | none=>(1,[])
 | some t=>(Qv (s.want x.a 2 true) (s.want x.b 1 false),[mkT 4 t.r []])):=by
 unfold JSt.makes;rw[Xr (by omega),Xr (by omega),Xr (by omega),Xr (by omega),Xr (by omega),Xr (by omega),Xr (by omega),Xs h]
theorem Qa5 {s:JSt}{x:Qs}(h:x.op=9):s.makes x=(Qv (s.want x.a 4 true) (s.want x.b 1 false),[tInt]):=by
 unfold JSt.makes;rw[Xr (by omega),Xr (by omega),Xr (by omega),Xr (by omega),Xr (by omega),Xr (by omega),Xr (by omega),Xr (by omega),Xs h]
theorem QaE {s:JSt}{x:Qs}(h:x.op=10):s.makes x=(Qv (s.want x.a 4 true) (Qv (s.want x.b 1 false) (s.want x.c 1 false)),[]):=by
 unfold JSt.makes;rw[Xr (by omega),Xr (by omega),Xr (by omega),Xr (by omega),Xr (by omega),Xr (by omega),Xr (by omega),Xr (by omega),Xr (by omega),Xs h]
theorem QbJ {s:JSt}{x:Qs}(h:x.op=11):s.makes x=(s.want x.a 4 true,[tInt]):=by
 unfold JSt.makes;rw[Xr (by omega),Xr (by omega),Xr (by omega),Xr (by omega),Xr (by omega),Xr (by omega),Xr (by omega),Xr (by omega),Xr (by omega),Xr (by omega),Xs h]
theorem QbC {s:JSt}{x:Qs}(h:x.op=13):s.makes x=(s.want x.a 1 false,[]):=by
 unfold JSt.makes;rw[Xr (by omega),Xr (by omega),Xr (by omega),Xr (by omega),Xr (by omega),Xr (by omega),Xr (by omega),Xr (by omega),Xr (by omega),Xr (by omega),Xr (by omega),Xs h]
theorem Qa6 {s:JSt}{x:Qs}(h:x.op=14):s.makes x=(match s.m[x.k.toNat]? with
 | none=>(0,[])
 | some g=>if (x.regs.length:Int)=g.regs then
  (Qv (QL s.H [] x.regs) (s.args x.args g.params x.regs),g.results.map (Qaj x.regs))
  else (2,[])):=by
 unfold JSt.makes;rw[Xr (by omega),Xr (by omega),Xr (by omega),Xr (by omega),Xr (by omega),Xr (by omega),Xr (by omega),Xr (by omega),Xr (by omega),Xr (by omega),Xr (by omega),Xr (by omega)]
def JSt.start (m:List (MFunc 6)) (f:MFunc 6) (b:MBlock 6):JSt:=⟨m,f,QbV b.regs,b.params⟩
theorem QkX {k r:Int}{len:Nat}{a b:Int}(e:a<=b) (h:ownC k r len a=0):ownC k r len b=0:=by
 unfold ownC at h |-;split at h
 ·cases h
 split at h
 ·cases h
 split at h
 ·cases h
 split at h
 ·cases h
 split at h
 ·cases h
 rename_i c d f g i
 rw[Xr c,Xr d,Xr f,Xr g,Xr (by omega)]
theorem QdR {a b:Int}(c:a<=b):{n:Nat}->{t:TT n}->t.fault a=0->t.fault b=0
 | 0,t,_=>Empty.elim t
 | n+1,t,h=>by
   obtain⟨f,d⟩:=TT.fault_zero h
   simp only[TT.fault,QkX c f,ne_eq,not_true_eq_false,if_false]
   exact QF.2 fun x e=>QdR c (d x e)
theorem QW {t:TT n}{r:Int}:t.check r=0↔t.height<=4/\t.fault r=0:=by
 constructor
 ·exact QcS
 ·intro h;unfold TT.check;rw[Xr (by omega)];exact h.2
theorem Qbb {t:TT n}{a b:Int}(c:a<=b) (h:t.check a=0):t.check b=0:=by
 rw[QW] at h |-
 exact⟨h.1,QdR c h.2⟩
def capT:Nat->Nat
 | 0=>1
 | h+1=>1+8*capT h
theorem sum_le_mul:∀ (l:List Nat) (c:Nat),(∀ x∈l,x<=c)->l.sum<=l.length*c
 | [],_,_=>by simp
 | x::xs,c,h=>by
   have d:=h x (by simp);have b:=sum_le_mul xs c (fun y a=>h y (by simp[a]));simp only[List.sum_cons,List.length_cons,Nat.add_mul]
   omega
theorem Qid {t:TT (n+1)}{r:Int}(h:t.fault r=0):t.2.2.length<=8:=by
 have:=(TT.fault_zero h).1
 unfold ownC at this;split at this
 ·cases this
 split at this
 ·cases this
 split at this
 ·cases this
 split at this
 ·cases this
 omega
theorem QeV {r:Int}:{n:Nat}->{t:TT n}->(h:Nat)->t.height<=h->t.fault r=0->t.count<=capT h
 | 0,t,_,_,_=>Empty.elim t
 | n+1,t,0,hh,hf=>by
   have:=Q9.1 hh
   have e:t.2.2=[]:=by
    cases a:t.2.2 with
    | nil=>rfl
    | cons x l=>have:=this x (by rw[a];simp);omega
   simp only[TT.count,e,capT]
   simp
 | n+1,t,h+1,hh,hf=>by
   have b:=Q9.1 hh;have d:=(TT.fault_zero hf).2
   have f:=sum_le_mul (t.2.2.map TT.count) (capT h) (fun c i=>by
    obtain⟨x,a,rfl⟩:=List.mem_map.1 i
    exact QeV h (by have:=b x a;omega) (d x a))
   have g:=Qid hf;rw[XN] at f
   have j:t.2.2.length*capT h<=8*capT h:=Xp _ g;simp only[TT.count,capT]
   omega
theorem Qaf {t:TT n}{r:Int}(h:t.check r=0):t.count<=4681:=by
 have:=QeV 4 (QW.1 h).1 (QW.1 h).2
 have e:capT 4=4681:=rfl;omega
theorem TT.height_lt:{n:Nat}->(t:TT n)->t.height<n
 | 0,t=>Empty.elim t
 | n+1,t=>by
   have:t.height<=n:=Q9.2 fun x a=>by have:=TT.height_lt x;omega
   omega
theorem TT.at_height:{n:Nat}->(k:Nat)->(t:TT n)->t.height<=k->(t.at k).height=t.height
 | 0,_,t,_=>Empty.elim t
 | n+1,0,t,h=>by
   have a:t.height=0:=by omega
   rw[a]
   rfl
 | n+1,k+1,t,h=>by
   have b:=Q9.1 h;show ((t.2.2.map (TT.at k)).map (fun x=>1+TT.height x)).foldl max 0=(t.2.2.map (fun x=>1+TT.height x)).foldl max 0;rw[List.map_map]
   congr 1
   refine List.map_congr_left fun x c=>?_;show 1+(x.at k).height=1+x.height;rw[TT.at_height k x (by have:=b x c;omega)]
theorem TT.at_fault {r:Int}:{n:Nat}->(k:Nat)->(t:TT n)->t.height<=k->(t.at k).fault r=t.fault r
 | 0,_,t,_=>Empty.elim t
 | n+1,0,t,h=>by
   have b:=Q9.1 h
   have e:t.2.2=[]:=by
    cases a:t.2.2 with
    | nil=>rfl
    | cons x l=>have:=b x (by rw[a];simp);omega
   show (if ownC t.1 t.2.1 0 r≠0 then ownC t.1 t.2.1 0 r else Qu _ [])=_;simp only[TT.fault,e,List.length_nil,Qu]
 | n+1,k+1,t,h=>by
   have b:=Q9.1 h;show (if ownC t.1 t.2.1 (t.2.2.map (TT.at k)).length r≠0 then ownC t.1 t.2.1 (t.2.2.map (TT.at k)).length r else Qu (TT.fault r) (t.2.2.map (TT.at k)))=_;rw[XN]
   have:Qu (TT.fault r) (t.2.2.map (TT.at k))=Qu (TT.fault r) t.2.2:=by
    refine Qa0 (by simp) fun i x y a c=>?_;rw[XS,c] at a
    simp only[Option.map_some,Option.some.injEq] at a
    rw[<-a]
    exact TT.at_fault k y (by have:=b y (Zm c);omega)
   rw[this]
   rfl
theorem TT.at_check (k:Nat) (t:TT n) (h:t.height<=k) (r:Int):(t.at k).check r=t.check r:=by
 unfold TT.check;rw[TT.at_height k t h,TT.at_fault k t h]
theorem QiL {m:Nat}{too:Nat->Int}{a b:Int}(o:a<=m) (e:∀ i,i<m->0<=too i/\too i<b):{n:Nat}->{t:TT n}->t.fault a=0->∃ u,t.ren m too=some u/\u.fault b=0
 | 0,t,_=>Empty.elim t
 | n+1,t,h=>by
   obtain⟨c,q⟩:=TT.fault_zero h
   have j:∃ f,ZJ m too t.1 t.2.1=some f/\ownC t.1 f t.2.2.length b=0:=by
    unfold ownC at c;split at c
    ·cases c
    split at c
    ·cases c
    split at c
    ·cases c
    split at c
    ·cases c
    split at c
    ·cases c
    rename_i C I z A L
    by_cases B:t.1=1
    ·refine⟨t.2.1,by rw[ZJ,Xs B],?_⟩
     unfold ownC;rw[Xr C,Xr I,Xr z,Xr A,Xr (by omega)]
    ·obtain⟨N,M⟩:=e t.2.1.toNat (by omega)
     refine⟨too t.2.1.toNat,by rw[ZJ,Xr B,Xr (by omega),Xr (by omega)],?_⟩
     unfold ownC;rw[Xr C,Xr (by omega),Xr z,Xr A,Xr (by omega)]
   obtain⟨f,J,G⟩:=j
   have K:∃ d,ZV (TT.ren m too) t.2.2=some d/\d.length=t.2.2.length/\∀ x∈d,x.fault b=0:=by
    generalize t.2.2=l at q
    induction l with
    | nil=>exact⟨[],Z,Z,fun x H=>by cases H⟩
    | cons x xs ih =>
      obtain⟨u,D,F⟩:=QiL o e (q x (by simp))
      obtain⟨E,w,k,r⟩:=ih (fun y g=>q y (by simp[g]))
      refine⟨u::E,by simp[ZV,D,w],by simp[k],fun y g=>?_⟩
      rcases List.mem_cons.1 g with rfl | g
      ·exact F
      ·exact r y g
   obtain⟨d,p,v,s⟩:=K
   refine⟨((t.1,f,d):Int × Int × List (TT n)),by simp only[TT.ren,J,p],?_⟩
   show (if ownC t.1 f d.length b≠0 then ownC t.1 f d.length b else Qu (TT.fault b) d)=0;rw[v,G]
   simp only[ne_eq,not_true_eq_false,if_false]
   exact QF.2 s
theorem Qgc {too:Nat->Int}{a b:Int}(d:a<=m) (c:∀ i,i<m->0<=too i/\too i<b){t:TT n}(h:t.check a=0):∃ u,t.ren m too=some u/\u.check b=0:=by
 obtain⟨u,e,f⟩:=QiL d c (QW.1 h).2
 exact⟨u,e,QW.2 ⟨by rw[TT.ren_height e];exact(QW.1 h).1,f⟩⟩
structure MBlock.right {n:Nat}(x:MBlock n) (f:MFunc n) (funcs:Nat):Prop where
 regs:f.regs<=x.regs/\x.regs<=16
 params:x.params.length<=8/\∀ t∈x.params,t.check x.regs=0
 code:∀ y∈x.code,y.form funcs=0
 codes:x.code.length<=40
 fin:x.fin.form f.blocks.length=0
structure MFunc.right {n:Nat}(x:MFunc n) (funcs:Nat):Prop where
 regs:0<=x.regs/\x.regs<=6
 params:x.params.length<=8/\∀ t∈x.params,t.check x.regs=0
 results:x.results.length<=8/\∀ t∈x.results,t.check x.regs=0
 many:0<x.blocks.length/\x.blocks.length<=12
 blocks:∀ y∈x.blocks,y.right x funcs
theorem Qb6 {regs:Int}{l:List (TT n)}(h:listC regs l=0):l.length<=8/\∀ t∈l,t.check regs=0:=by
 unfold listC at h;split at h
 ·cases h
 ·exact⟨by omega,fun t a=>QF.1 h t a⟩
theorem Qf1 {fn:MFunc n}{x:MBlock n}(h:(MBlock.fault funcs f fn b x).1=0):x.right fn funcs:=by
 unfold MBlock.fault at h;split at h
 ·cases h
 rename_i j
 split at h
 ·rename_i a;exact absurd h a
 rename_i a
 split at h
 ·cases h
 split at h
 ·cases h
 rename_i k
 split at h
 ·rename_i c;exact absurd h c
 rename_i c
 split at h
 ·rename_i d;exact absurd h d
 rename_i d
 refine⟨by omega,Qb6 (Xq.1 a),fun y e=>?_,by omega,Xq.1 d⟩
 obtain⟨i,g⟩:=List.getElem?_of_mem e
 exact QQ (Xq.1 c) i y g
theorem Qhb {x:MFunc n}(h:(MFunc.fault funcs f x).1=0):x.right funcs:=by
 unfold MFunc.fault at h;split at h
 ·cases h
 rename_i e
 split at h
 ·rename_i a;exact absurd h a
 rename_i a
 split at h
 ·rename_i b;exact absurd h b
 rename_i b
 split at h
 ·cases h
 rename_i g
 split at h
 ·cases h
 refine⟨by omega,Qb6 (Xq.1 a),Qb6 (Xq.1 b),by omega,fun y c=>?_⟩
 obtain⟨i,d⟩:=List.getElem?_of_mem c
 exact Qf1 (QQ h i y d)
theorem Zn {m:List (MFunc n)}(h:(modFault m).1=0):(0<m.length/\m.length<=8)/\∀ x∈m,x.right m.length:=by
 unfold modFault at h;split at h
 ·cases h
 rename_i c
 refine⟨by omega,fun x b=>?_⟩
 obtain⟨i,a⟩:=List.getElem?_of_mem b
 exact Qhb (QQ h i x a)
structure JOk (s:JSt):Prop where
 mod:(0<s.m.length/\s.m.length<=8)/\∀ x∈s.m,x.right s.m.length
 tiny:¬ Qm s.m
 fn:s.f∈s.m
 regs:s.H.length<=16
 kept:s.f.regs<=s.H.length
 vals:s.L.length<=80
 types:∀ t∈s.L,t.check s.H.length=0
theorem QdO {s:JSt}{k:Int}{t:TT 6}(h:s.at k=some t):t∈s.L/\0<=k/\k<s.L.length/\s.L[k.toNat]?=some t:=by
 unfold JSt.at at h;split at h
 ·cases h
 ·have:=(Zi h).1
  exact⟨Zm h,by omega,by omega,h⟩
theorem Z4 {s:JSt}{k b:Int}{a:Bool}(h:s.want k b a=0):∃ t,s.at k=some t/\t.kind=b/\(a=true->hHas s.H t.r=true):=by
 unfold JSt.want at h;split at h
 ·cases h
 ·rename_i t d
  split at h
  ·rename_i c
   split at h
   ·cases h
   ·rename_i f
    refine⟨t,d,c,fun e=>?_⟩
    subst e;simpa using f
  ·cases h
theorem QD {a b:Int}(h:Qv a b=0):a=0/\b=0:=by
 unfold Qv at h;split at h
 ·exact⟨by assumption,h⟩
 ·contradiction
theorem QaD {s:JSt}:∀ {l:List Int}{ts:List (TT 6)},s.fields l=some ts->ts.length=l.length/\∀ t∈ts,t∈s.L
 | [],ts,h=>by simp[JSt.fields] at h;subst h;simp
 | k::r,ts,h=>by
   simp only[JSt.fields] at h
   cases hk:s.at k with
   | none=>simp[hk] at h
   | some t =>
     simp only[hk] at h
     cases hr:s.fields r with
     | none=>simp[hr] at h
     | some l =>
       simp only[hr,Option.some.injEq] at h
       subst h;obtain⟨c,b⟩:=QaD hr
       refine⟨by simp[c],fun u a=>?_⟩
       rcases List.mem_cons.1 a with rfl | a
       ·exact(QdO hk).1
       ·exact b u a
theorem ZC {H:List Bool}:∀ {l ahead:List Int},QL H ahead l=0->∀ r∈l,hHas H r=true
 | [],_,_,r,a=>by cases a
 | x::l,ahead,h,r,a=>by
   simp only[QL] at h
   split at h
   ·rename_i b
    split at h
    ·cases h
    ·rcases List.mem_cons.1 a with rfl | a
     ·exact b
     ·exact ZC h r a
   ·cases h
theorem ZW {H:List Bool}{r:Int}(h:hHas H r=true):0<=r/\r<H.length:=by
 obtain⟨k,rfl,a,_⟩:=QaU h
 omega
theorem Q5 {x:Qs}(h:x.form funcs=0):((x.op=6\/x.op=7)->0<=x.k/\x.k<=7)/\(x.op=14->0<=x.k/\x.k<funcs/\x.regs.length<=6/\x.args.length<=8)/\(x.op=5->x.args.length<=8)/\(x.op=1\/x.op=2\/x.op=3\/x.op=4\/x.op=5\/x.op=6\/x.op=7\/x.op=8\/x.op=9\/x.op=10\/x.op=11\/x.op=12\/x.op=13\/x.op=14):=by
 have a:=QjO (Qir h).1;unfold Qs.form at h;split at h
 ·cases h
 split at h
 ·cases h
 split at h
 ·cases h
 split at h
 ·cases h
 split at h
 ·cases h
 split at h
 ·cases h
 split at h
 ·cases h
 refine⟨by omega,by omega,by omega,a⟩
theorem QdQ {k r R:Int}(a:k=2\/k=4) (b:0<=r/\r<R):TT.check (n:=6) R (mkT k r [])=0:=by
 refine QW.2 ⟨by show 0<=4;omega,?_⟩;show (if ownC k r 0 R≠0 then ownC k r 0 R else Qu _ [])=0
 have:ownC k r 0 R=0:=by
  unfold ownC;rw[Xr (by omega),Xr (by omega),Xr (by omega),Xr (by omega),Xr (by omega)]
 rw[this];rfl
theorem Qjb (R:Int):tInt.check R=0:=by
 refine QW.2 ⟨by decide,?_⟩;show (if ownC 1 0 0 R≠0 then ownC 1 0 0 R else Qu _ [])=0
 have:ownC 1 0 0 R=0:=by unfold ownC;rw[Xr (by omega),Xr (by omega),Xr (by omega),Xr (by omega),Xr (by omega)]
 rw[this];rfl
theorem QfQ {s:JSt}{x:Qs}(h:JOk s) (N:x.form s.m.length=0) (A:(s.makes x).1=0):∀ t∈(s.makes x).2,t.check (s.next x).H.length=0:=by
 obtain⟨X,W,R,S⟩:=Q5 N
 have E:(s.H.length:Int)<=(s.next x).H.length:=by
  simp only[JSt.next]
  split
  ·simp;omega
  split
  ·simp
  ·exact Int.le_refl _
 intro t f
 have j:∀ {c:Int},s.makes x=(c,[tInt])->t.check (s.next x).H.length=0:=fun {c} e=>by
  rw[e] at f
  have f:=List.mem_singleton.1 f;rw[f];exact Qjb _
 have d:∀ {c:Int},s.makes x=(c,[])->t.check (s.next x).H.length=0:=fun {c} e=>by
  rw[e] at f;cases f
 rcases S with c | c | c | c | c | c | c | c | c | c | c | c | c | c
 ·exact j (Z1 (.inl c))
 ·exact j (QbO c)
 ·have e:=QbM (s:=s) c;by_cases C:s.H.length=16
  ·rw[Xs C] at e;exact d e
  ·rw[Xr C] at e
   rw[e] at f
   have f:=List.mem_singleton.1 f;rw[f]
   refine QdQ (.inl Z) ?_;simp only[JSt.next,c,if_true,List.length_append,List.length_singleton]
   omega
 ·have e:=Qaz (s:=s) c
  cases ha:s.at x.a with
  | none=>rw[ha] at e;exact d e
  | some u=>rw[ha] at e;exact d e
 ·have e:=Qbp (s:=s) c
  cases ha:s.at x.a with
  | none=>rw[ha] at e;exact d e
  | some u =>
    rw[ha] at e
    simp only at e
    by_cases p:s.want x.a 2 true=0
    ·rw[Xs p] at e
     cases hl:s.fields x.args with
     | none=>rw[hl] at e;exact d e
     | some l =>
       rw[hl] at e
       simp only at e
       by_cases C:4<TT.height (n:=7) (mkT 3 u.r l)
       ·rw[Xs C] at e;exact d e
       ·rw[Xr C] at e
        rw[e] at f
        have f:=List.mem_singleton.1 f;rw[f]
        obtain⟨Q,q,_,o⟩:=Z4 p
        rw[ha] at q
        cases q
        have D:=ZW (o Z);obtain⟨q1,P⟩:=QaD hl
        rw[TT.at_check 5 _ (by omega)]
        refine Qbb E (QW.2 ⟨by omega,?_⟩);show (if ownC 3 u.r l.length s.H.length≠0 then ownC 3 u.r l.length s.H.length else Qu (TT.fault (s.H.length:Int)) l)=0
        have:ownC 3 u.r l.length s.H.length=0:=by
         have:=R c
         unfold ownC;rw[Xr (by omega),Xr (by omega),Xr (by omega),Xr (by omega),Xr (by omega)]
        rw[this]
        simp only[ne_eq,not_true_eq_false,if_false]
        exact QF.2 fun y L=>(QW.1 (h.types y (P y L))).2
    ·rw[Xr p] at e;exact d e
 ·have e:=Qc6 (s:=s) c
  cases ha:s.at x.a with
  | none=>rw[ha] at e;exact d e
  | some u =>
    rw[ha] at e
    simp only at e
    by_cases p:s.want x.a 3 true=0
    ·rw[Xs p] at e
     cases z:u.2.2[x.k.toNat]? with
     | none=>rw[z] at e;exact d e
     | some v =>
       rw[z] at e
       rw[e] at f
       have f:=List.mem_singleton.1 f;rw[f]
       have K:=QW.1 (h.types u (QdO ha).1);have B:=Zm z;have V:=Q9.1 K.1 v B;have U:=TT.height_lt v;rw[TT.at_check 5 _ (by omega)]
       exact Qbb E (QW.2 ⟨by omega,(TT.fault_zero K.2).2 v B⟩)
    ·rw[Xr p] at e;exact d e
 ·have e:=QcL (s:=s) c
  cases ha:s.at x.a with
  | none=>rw[ha] at e;exact d e
  | some u =>
    rw[ha] at e
    simp only at e
    by_cases p:s.want x.a 3 true=0
    ·rw[Xs p] at e
     cases z:u.2.2[x.k.toNat]? with
     | none=>rw[z] at e;exact d e
     | some v =>
       rw[z] at e
       cases hb:s.at x.b with
       | none=>rw[hb] at e;exact d e
       | some w =>
         rw[hb] at e
         simp only at e
         cases hq:ZQ (v.at 5=w) with
         | true=>rw[hq] at e;exact d e
         | false=>rw[hq] at e;exact d e
    ·rw[Xr p] at e;exact d e
 ·have e:=Qbs (s:=s) c
  cases ha:s.at x.a with
  | none=>rw[ha] at e;exact d e
  | some u =>
    rw[ha] at e
    rw[e] at f A
    have f:=List.mem_singleton.1 f;rw[f]
    obtain⟨p,_⟩:=QD A
    obtain⟨Q,q,_,o⟩:=Z4 p
    rw[ha] at q
    cases q
    have D:=ZW (o Z);exact QdQ (.inr Z) (by omega)
 ·exact j (Qa5 c)
 ·exact d (QaE c)
 ·exact j (QbJ c)
 ·exact j (Z1 (.inr c))
 ·exact d (QbC c)
 ·have e:=Qa6 (s:=s) c
  cases hg:s.m[x.k.toNat]? with
  | none=>rw[hg] at e;exact d e
  | some g =>
    rw[hg] at e
    simp only at e
    by_cases D:(x.regs.length:Int)=g.regs
    ·rw[Xs D] at e
     rw[e] at f A
     obtain⟨J,O⟩:=QD A
     obtain⟨u,M,rfl⟩:=List.mem_map.1 f
     have G:=h.mod.2 g (Zm hg);have F:=G.results.2 u M
     obtain⟨v,z,I⟩:=Qgc (m:=x.regs.length) (too:=fun i=>x.regs.getD i 0) (a:=g.regs) (b:=s.H.length) (by omega) (fun i T=>by
      have A:=ZC J (x.regs.getD i 0) (by simp[List.getD,T]);exact ZW A) F
     unfold Qaj;rw[z]
     exact Qbb E I
    ·rw[Xr D] at e;exact d e
theorem JOk.next {s:JSt}{x:Qs}(h:JOk s) (a:s.code x=0):JOk (s.next x):=by
 unfold JSt.code at a;split at a
 ·rename_i d;exact absurd a d
 rename_i d
 split at a
 ·rename_i f;exact absurd a f
 rename_i f
 split at a
 ·cases a
 rename_i k
 have i:x.form s.m.length=0:=Xq.1 d;have c:(s.makes x).1=0:=Xq.1 f
 have g:(s.H.length:Int)<=(s.next x).H.length:=by
  simp only[JSt.next]
  split
  ·simp;omega
  split
  ·simp
  ·exact Int.le_refl _
 refine⟨h.mod,h.tiny,h.fn,?_,?_,?_,?_⟩
 ·simp only[JSt.next]
  split
  ·rename_i j
   have:s.H.length≠16:=by
    intro e;rw[QbM j,Xs e] at c
    cases c
   have:=h.regs
   simp
   omega
  split
  ·simpa using h.regs
  ·exact h.regs
 ·exact Int.le_trans h.kept g
 ·show (s.L++(s.makes x).2).length<=80;rw[List.length_append]
  omega
 ·intro t b;rcases List.mem_append.1 b with b | b
  ·exact Qbb g (h.types t b)
  ·exact QfQ h i c t b
theorem JOk.ins {s:JSt}(h:JOk s) (x:Qs):JOk (s.ins x):=by
 unfold JSt.ins;split
 ·exact h.next (by assumption)
 ·exact h
theorem Qes {n:Int}(h:0<=n/\n<=16):((QbV n).length:Int)=n:=by
 unfold QbV;rw[List.length_replicate]
 omega
theorem JOk.start {m:List (MFunc 6)}{f:MFunc 6}{b:MBlock 6}(g:(modFault m).1=0) (h:¬ Qm m) (d:f∈m) (k:b∈f.blocks):JOk (JSt.start m f b):=by
 have e:=Zn g;have a:=e.2 f d;have c:=a.blocks b k;have l:=Qes (n:=b.regs) (by have:=a.regs;have:=c.regs;omega);have o:=c.regs;have p:=a.regs;have j:=c.params;refine⟨e,h,d,?_,?_,?_,?_⟩
 ·show (QbV b.regs).length<=16;omega
 ·show f.regs<=((QbV b.regs).length:Int);omega
 ·show b.params.length<=80;omega
 ·intro t i;show t.check ((QbV b.regs).length:Int)=0;rw[l]
  exact j.2 t i
theorem QN {s:JSt}{x:Qs}(h:s.code x=0):x.form s.m.length=0/\(s.makes x).1=0/\s.L.length+(s.makes x).2.length<=80:=by
 unfold JSt.code at h;split at h
 ·exact absurd h ‹_›
 split at h
 ·exact absurd h ‹_›
 split at h
 ·cases h
 exact⟨by omega,by omega,by omega⟩
theorem Qba {s:JSt}{x:Qs}(a:x.op≠3) (b:x.op≠4):(s.next x).H=s.H:=by
 unfold JSt.next
 simp only[if_neg a,if_neg b]
theorem Qio {s:JSt}{x:Qs}(h:s.code x=0) (d:x.op=4):∃ (t:TT 6) (r:Nat),s.at x.a=some t/\t.kind=2/\t.r=(r:Int)/\r<s.H.length/\s.H.getD r false=true/\s.next x={ s with H:=s.H.set r false }:=by
 obtain⟨-,c,-⟩:=QN h
 rw[Qaz d] at c
 split at c
 ·cases c
 rename_i t b
 obtain⟨l,e,j,i⟩:=Z4 (QD c).1
 rw[b] at e
 cases e
 obtain⟨r,f,k,g⟩:=QaU (i Z)
 refine⟨t,r,b,j,f,k,g,?_⟩
 unfold JSt.next
 rw[Qaz d]
 simp only[b,f,if_neg (show ¬ x.op=3 by omega),if_pos d,Int.toNat_natCast,List.append_nil]
noncomputable def QA (at0:Int) (e:ZA):JSt->Nat->List Qs->Int × Int
 | s,_,[]=>if s.fin e≠0 then (s.fin e,at0+91) else (0,0)
 | s,i,x::r=>if s.code x≠0 then (s.code x,at0+i) else QA at0 e (s.next x) (i+1) r
noncomputable def Z0 (m:List (MFunc 6)) (k:Nat) (f:MFunc 6):Int × Int:=firstF (fun b x=>QA (10000*(k:Int)+100*(b:Int)) x.fin (JSt.start m f x) 0 x.code) 0 f.blocks
noncomputable def Qq (m:List (MFunc 6)):Int × Int:=if (modFault m).1≠0 then modFault m else firstF (Z0 m) 0 m
noncomputable def JSt.upto (s:JSt) (l:List Qs):JSt:=l.foldl (fun s x=>s.next x) s
theorem JSt.upto_snoc (s:JSt) (l:List Qs) (x:Qs):s.upto (l++[x])=(s.upto l).next x:=by unfold JSt.upto;rw[List.foldl_append];rfl
theorem QaI {a:Int}{e:ZA}:∀ {l:List Qs}{s:JSt}{i k:Nat},k<=l.length->(∀ j x,j<k->l[j]?=some x->(s.upto (l.take j)).code x=0)->QA a e s i l=QA a e (s.upto (l.take k)) (i+k) (l.drop k)
 | l,s,i,0,_,_=>by simp[JSt.upto]
 | [],s,i,k+1,hk,_=>by simp at hk
 | x::r,s,i,k+1,hk,h=>by
   have f:s.code x=0:=by have:=h 0 x (by omega) Z;simpa[JSt.upto] using this
   rw[QA,Xr (by rw[f];simp)]
   have b:k<=r.length:=by simpa using hk
   rw[QaI (k:=k) b (fun j y g c=>by
    have:=h (j+1) y (by omega) (by simpa using c)
    simpa[JSt.upto] using this)]
   simp only[List.take_succ_cons,List.drop_succ_cons]
   have d:i+1+k=i+(k+1):=by omega
   rw[d]
   rfl
theorem QeG {a:Int}{e:ZA}{l:List Qs}{s:JSt}{x:Qs}(b:l[k]?=some x) (h:∀ j y,j<k->l[j]?=some y->(s.upto (l.take j)).code y=0) (d:(s.upto (l.take k)).code x≠0) :
 QA a e s 0 l=((s.upto (l.take k)).code x,a+k):=by
 have c:k<l.length:=(Zi b).1;rw[QaI (k:=k) (by omega) h,List.drop_eq_getElem_cons c]
 have:l[k]=x:=by rw[Zg c] at b;exact Xn b
 rw[this,QA,Xs d,XK]
theorem Qe1 {a:Int}{e:ZA}{l:List Qs}{s:JSt}(h:∀ j y,j<l.length->l[j]?=some y->(s.upto (l.take j)).code y=0) :
 QA a e s 0 l=if (s.upto l).fin e≠0 then ((s.upto l).fin e,a+91) else (0,0):=by
 rw[QaI (k:=l.length) Ze h,List.drop_length,List.take_length]
 rfl
theorem Qf4 {m:List (MFunc 6)}{f:MFunc 6}{g:MBlock 6}(i:(modFault m).1=0) (o:m[k]?=some f) (e:∀ j y,j<k->m[j]?=some y->(Z0 m j y).1=0) (l:f.blocks[q]?=some g)
 (n:∀ j y,j<q->f.blocks[j]?=some y->(QA (10000*(k:Int)+100*(j:Int)) y.fin (JSt.start m f y) 0 y.code).1=0) (h:(QA (10000*(k:Int)+100*(q:Int)) g.fin (JSt.start m f g) 0 g.code).1≠0) :
 Qq m=QA (10000*(k:Int)+100*(q:Int)) g.fin (JSt.start m f g) 0 g.code:=by
 have d:Z0 m k f=QA (10000*(k:Int)+100*(q:Int)) g.fin (JSt.start m f g) 0 g.code:=by
  unfold Z0
  have:=Qau (f:=fun b (x:MBlock 6)=>QA (10000*(k:Int)+100*(b:Int)) x.fin (JSt.start m f x) 0 x.code) (j:=0) l (fun j y a c=>by rw[XK];exact n j y a c) (by rw[XK];exact h)
  rw[XK] at this
  exact this
 unfold Qq;rw[Xr (by rw[i];simp)]
 have:=Qau (f:=Z0 m) (j:=0) o (fun j y a c=>by rw[XK];exact e j y a c) (by rw[XK,d];exact h)
 rw[XK,d] at this
 exact this
structure IFr where
 f:Nat
 b:Nat
 i:Nat
 v:List Q4
 r:List Int
structure IM where
 h:Qd
 top:IFr
 rest:List IFr
 inp:List Int
 out:List Int
 back:List Int
 fuel:Nat
 fin:Int
 done:Bool
def QR (v:List Q4) (k:Int):Option Q4:=if k<0 then none else v[k.toNat]?
def Q8 (v:List Q4):List Int->Option (List Q4)
 | []=>some []
 | k::l=>match QR v k with
   | none=>none
   | some x=>match Q8 v l with
     | none=>none
     | some xs=>some (x::xs)
def Ql9 (r:List Int) (k:Int):Option Int:=if k<0 then none else r[k.toNat]?
def QbT (r:List Int):List Int->Option (List Int)
 | []=>some []
 | k::l=>match Ql9 r k with
   | none=>none
   | some x=>match QbT r l with
     | none=>none
     | some xs=>some (x::xs)
def QS (v:List Q4) (k:Int):Option Int:=match QR v k with
 | none=>none
 | some x=>if x.kind=1 then some x.n else none
def Qco (v:List Q4):List Int->Option (List Int)
 | []=>some []
 | k::l=>match QS v k with
   | none=>none
   | some x=>match Qco v l with
     | none=>none
     | some xs=>some (x::xs)
def IM.push (M:IM) (l:List Q4):IM:={ M with top:={ M.top with v:=M.top.v++l } }
def IM.over (M:IM) (e:Int):IM:={ M with done:=true,fin:=e }
def IM.got (M:IM) (g:Q4 × Int × Qd):Option IM:=if g.2.1=14 then some (M.over 6) else if g.2.1=0 then some (IM.push ({ M with h:=g.2.2 }) [g.1]) else none
def IM.mem (M:IM) (x:Qs):Option IM:=match QR M.top.v x.a with
 | none=>none
 | some a =>
   if x.op=4 then (if (M.h.shut a).1 then some { M with h:=(M.h.shut a).2 } else none)
   else if x.op=5 then (match Q8 M.top.v x.args with
    | none=>none
    | some l=>M.got (M.h.tuple a l))
   else if x.op=8 then (match QS M.top.v x.b with
    | none=>none
    | some n=>if n<0\/15<n then some (M.over 3) else M.got (M.h.array a n))
   else if x.op=6 then (if a.kind=3/\(M.h.get a x.k).2=0 then some (M.push [(M.h.get a x.k).1]) else none)
   else if x.op=7 then (match QR M.top.v x.b with
    | none=>none
    | some y=>if a.kind=3/\(M.h.set a x.k y).1=0 then some { M with h:=(M.h.set a x.k y).2 } else none)
   else if x.op=9 then (match QS M.top.v x.b with
    | none=>none
    | some n=>if a.kind=4 then (if (M.h.get a n).2=1 then some (M.over 2) else if (M.h.get a n).2=0 then some (M.push [(M.h.get a n).1]) else none) else none)
   else if x.op=10 then (match QS M.top.v x.b with
    | none=>none
    | some n=>match QS M.top.v x.c with
      | none=>none
      | some z=>if a.kind=4 then (if (M.h.set a n (Qct z)).1=1 then some (M.over 2) else if (M.h.set a n (Qct z)).1=0 then some { M with h:=(M.h.set a n (Qct z)).2 } else none) else none)
   else (if a.kind=4/\(M.h.len a).2=0 then some (M.push [Qct (M.h.len a).1]) else none)
def IM.call (m:List (MFunc 6)) (M:IM) (x:Qs):Option IM:=match QbT M.top.r x.regs with
 | none=>none
 | some r=>match Q8 M.top.v x.args with
   | none=>none
   | some v=>match m[x.k.toNat]? with
     | none=>none
     | some g=>if (r.length:Int)=g.regs/\v.length=g.params.length then
      (if M.rest.length+1=40 then some (M.over 5) else some { M with top:=⟨x.k.toNat,0,0,v,r⟩,rest:=M.top::M.rest })
      else none
def IM.ins (m:List (MFunc 6)) (op:Int->Int->Int->Option Int) (M:IM) (x:Qs):Option IM :=
 if x.op=1 then some (M.push [Qct x.n])
 else if x.op=2 then (match QS M.top.v x.a with
  | none=>none
  | some a=>match QS M.top.v x.b with
    | none=>none
    | some b=>match op x.k a b with
      | none=>some (M.over 1)
      | some n=>some (M.push [Qct n]))
 else if x.op=3 then (if M.h.open_.2.1 then some (IM.push { M with h:=M.h.open_.2.2,top:={ M.top with r:=M.top.r++[M.h.open_.1.region] } } [M.h.open_.1]) else some (M.over 6))
 else if x.op=12 then (match M.inp with
  | []=>some (M.over 4)
  | n::l=>some (IM.push { M with inp:=l } [Qct n]))
 else if x.op=13 then (match QS M.top.v x.a with
  | none=>none
  | some n=>if M.out.length=2000 then some (M.over 8) else some { M with out:=M.out++[n] })
 else if x.op=14 then M.call m x
 else M.mem x
def IM.to (fn:MFunc 6) (M:IM) (t:MTo):Option IM:=match fn.blocks[t.block.toNat]? with
 | none=>none
 | some b=>match QbT M.top.r t.regs with
   | none=>none
   | some r=>match Q8 M.top.v t.args with
     | none=>none
     | some v=>if (r.length:Int)=b.regs/\v.length=b.params.length then some { M with top:=⟨M.top.f,t.block.toNat,0,v,r⟩ } else none
def IM.endd (fn:MFunc 6) (M:IM) (e:ZA):Option IM :=
 if e.op=1 then M.to fn e.yes
 else if e.op=2 then (match QS M.top.v e.a with
  | none=>none
  | some n=>if n=0 then M.to fn e.no else M.to fn e.yes)
 else (match Q8 M.top.v e.args with
  | none=>none
  | some v=>if v.length=fn.results.length then (match M.rest with
   | d::rest=>some (IM.push { M with top:=d,rest:=rest } v)
   | []=>match Qco M.top.v e.args with
     | none=>none
     | some n=>some (IM.over { M with back:=n } 0))
   else none)
def IM.step (m:List (MFunc 6)) (op:Int->Int->Int->Option Int) (most:Nat) (M:IM):Option IM :=
 if M.fuel=most then some (M.over 7)
 else match m[M.top.f]? with
  | none=>none
  | some fn=>match fn.blocks[M.top.b]? with
    | none=>none
    | some bl=>match bl.code[M.top.i]? with
      | some x=>IM.ins m op { M with fuel:=M.fuel+1,top:={ M.top with i:=M.top.i+1 } } x
      | none=>IM.endd fn { M with fuel:=M.fuel+1 } bl.fin
def IM.start (inp:List Int) (pages:Nat):IM:=⟨Qd.new pages,⟨0,0,0,[],[]⟩,[],inp,[],[],0,0,false⟩
theorem short_of_nodup:∀ (n:Nat) (l:List Int),l.Nodup->(∀ x,x∈l->0<=x/\x<n)->l.length<=n:=by
 intro n
 induction n with
 | zero =>
   intro l _ h
   cases l with
   | nil=>simp
   | cons x r=>have:=h x (by simp);omega
 | succ n ih =>
   intro l c h
   have e:=ih (l.erase (n:Int)) (c.erase _) (fun x d=>by
    have b:=(List.Nodup.mem_erase_iff c).1 d
    have:=h x b.2
    have:=b.1
    omega)
   have:=List.length_erase (a:=(n:Int)) (l:=l)
   split at this<;>omega
structure PSt where
 pages:Nat
 ws:Nat->Int
 given:List Int
 fresh:Int
structure PSt.Ok (s:PSt):Prop where
 most:s.pages<=64
 low:0<=s.fresh
 high:s.fresh<=s.pages
 nodup:s.given.Nodup
 mem:∀ k,k∈s.given->0<=k/\k<s.fresh
theorem PSt.Ok.len {s:PSt}(h:s.Ok):(s.given.length:Int)<=s.fresh:=by
 obtain⟨n,b⟩:=Xc h.low
 have:=short_of_nodup n s.given h.nodup (fun x a=>by have:=h.mem x a;omega)
 omega
def PSt.new (pages:Nat):PSt:=⟨pages,fun _=>0,[],0⟩
theorem PSt.ok_new (pages:Nat) (h:pages<=64):(PSt.new pages).Ok:=⟨h,Int.le_refl _,by simp[PSt.new],by simp[PSt.new],by simp[PSt.new]⟩
def PSt.wipe (s:PSt) (k:Int):PSt:={ s with ws:=fun i=>if k*16<=(i:Int)/\(i:Int)<k*16+16 then 0 else s.ws i }
def Qd4 (xs:List Int) (x:Int):Bool:=xs.contains x
def PSt.took (s:PSt) (k:Int):Bool:=decide (0<=k)&&decide (k<s.fresh)&&!Qd4 s.given k
def PSt.give (s:PSt) (k:Int):PSt:=if s.took k then { s with given:=s.given++[k] } else s
def PSt.free (s:PSt):Int:=s.pages - s.fresh+s.given.length
def PSt.place (s:PSt) (k:Int):Bool:=decide (0<=k)&&decide (k<16*s.pages)
def PSt.store (s:PSt) (k:Int) (n:Int):PSt:=if s.place k then { s with ws:=fun i=>if (i:Int)=k then n else s.ws i } else s
def PSt.load (s:PSt) (k:Int):Int:=if s.place k then s.ws k.toNat else 0
def PSt.nextK (s:PSt):Int:=match s.given.getLast? with | some k=>k | none=>if s.fresh=s.pages then -1 else s.fresh
def PSt.next (s:PSt):PSt:=match s.given.getLast? with | some _=>{ s with given:=s.given.take (s.given.length - 1) } | none=>if s.fresh=s.pages then s else { s with fresh:=s.fresh+1 }
def PSt.take (s:PSt):PSt:=if s.nextK<0 then s.next else s.next.wipe s.nextK
theorem PSt.ok_wipe {s:PSt}(h:s.Ok) (k:Int):(s.wipe k).Ok:=⟨h.most,h.low,h.high,h.nodup,h.mem⟩
theorem PSt.ok_store {s:PSt}(h:s.Ok) (k n:Int):(s.store k n).Ok:=by
 unfold PSt.store;split
 ·exact⟨h.most,h.low,h.high,h.nodup,h.mem⟩
 ·exact h
theorem PSt.ok_give {s:PSt}(h:s.Ok) (k:Int):(s.give k).Ok:=by
 unfold PSt.give;split
 ·rename_i d
  simp[PSt.took,Qd4] at d
  refine⟨h.most,h.low,h.high,?_,?_⟩
  ·rw[List.nodup_append]
   refine⟨h.nodup,by simp,?_⟩
   intro a g c f;simp at f;subst f
   intro e;subst e;exact d.2 g
  ·intro x b;simp at b
   rcases b with b | b
   ·exact h.mem x b
   ·subst b;exact d.1
 ·exact h
theorem PSt.ok_next {s:PSt}(h:s.Ok):s.next.Ok:=by
 unfold PSt.next;split
 ·exact⟨h.most,h.low,h.high,h.nodup.sublist (List.take_sublist _ _),fun k a=>h.mem k (List.mem_of_mem_take a)⟩
 ·split
  ·exact h
  ·refine⟨h.most,by have:=h.low;simp;omega,by have:=h.high;simp;omega,h.nodup,fun k a=>?_⟩
   have:=h.mem k a
   simp;omega
theorem PSt.ok_take {s:PSt}(h:s.Ok):s.take.Ok:=by
 unfold PSt.take;split
 ·exact PSt.ok_next h
 ·exact PSt.ok_wipe (PSt.ok_next h) _
theorem PSt.nextK_lt {s:PSt}(h:s.Ok):-1<=s.nextK/\s.nextK<s.pages:=by
 have:=h.high;have:=h.low
 unfold PSt.nextK;split
 ·rename_i k e
  have:=h.mem k (List.mem_of_getLast? e)
  omega
 ·split<;>omega
@[simp] theorem PSt.pages_wipe (s : PSt) (k : Int) : (s.wipe k).pages = s.pages := rfl
@[simp] theorem PSt.pages_next (s : PSt) : s.next.pages = s.pages := by
 unfold PSt.next;split
 ·rfl
 ·split<;>rfl
@[simp] theorem PSt.pages_take (s : PSt) : s.take.pages = s.pages := by unfold PSt.take; split <;> simp
@[simp] theorem PSt.pages_give (s : PSt) (k : Int) : (s.give k).pages = s.pages := by unfold PSt.give; split <;> rfl
@[simp] theorem PSt.pages_store (s : PSt) (k n : Int) : (s.store k n).pages = s.pages := by unfold PSt.store; split <;> rfl
theorem Qkg (s:PSt) (k:Int):s.took k=true↔0<=k/\k<s.fresh/\k ∉ s.given:=by
 simp[PSt.took,Qd4,and_assoc]
structure Tk (s:PSt) (T:List Int):Prop where
 nodup:T.Nodup
 mem:∀ k,k∈T↔0<=k/\k<s.fresh/\k ∉ s.given
theorem PSt.take_none {s:PSt}(b:s.Ok) (a:s.nextK<0):s.take=s:=by
 have c:s.take=s.next:=by simp[PSt.take,a]
 rw[c]
 unfold PSt.nextK at a;unfold PSt.next
 split at a
 ·rename_i k e
  have:=b.mem k (List.mem_of_getLast? e)
  omega
 ·split at a
  ·rename_i e;simp[e]
  ·have:=b.low;omega
theorem Tk.take {s:PSt}{T:List Int}(h:Tk s T) (p:s.Ok) (g:0<=s.nextK):s.nextK ∉ T/\Tk s.take (T++[s.nextK]):=by
 have t:s.take=s.next.wipe s.nextK:=by simp[PSt.take];omega
 have w:s.take.given=s.next.given:=by rw[t];rfl
 have y:s.take.fresh=s.next.fresh:=by rw[t];rfl
 have i:s.nextK ∉ T:=by
  intro z;have d:=(h.mem _).1 z;unfold PSt.nextK at d g;split at g
  ·rename_i k e
   rw[e] at d
   exact d.2.2 (List.mem_of_getLast? e)
  ·rename_i e
   rw[e] at d
   split at g
   ·omega
   ·rename_i o
    simp[o] at d
 refine⟨i,?_,fun k=>?_⟩
 ·rw[List.nodup_append]
  refine⟨h.nodup,by simp,fun a x c v e=>?_⟩
  simp at v;subst v;subst e;exact i x
 ·rw[w,y,List.mem_append,h.mem k,List.mem_singleton]
  have u:=p.low;unfold PSt.nextK at g |-;unfold PSt.next
  split at g
  ·rename_i q e
   obtain⟨m,f⟩:∃ m,s.given=m++[q]:=by
    rcases List.eq_nil_or_concat s.given with n | ⟨m,b,n⟩
    ·rw[n] at e;simp at e
    ·rw[n] at e;simp at e;exact⟨m,by simpa[e] using n⟩
   have j:=p.nodup;have l:=p.mem q (by rw[f];simp);rw[f,List.nodup_append] at j
   have r:List.take (s.given.length - 1) s.given=m:=by rw[f];simp
   simp only[r]
   rw[f]
   simp only[List.mem_append,List.mem_singleton]
   constructor
   ·rintro (⟨a,b,c⟩ | rfl)
    ·exact⟨a,b,fun h=>c (Or.inl h)⟩
    ·exact⟨l.1,l.2,fun h=>j.2.2 _ h _ (by simp) Z⟩
   ·rintro ⟨a,b,c⟩;by_cases e:k=q
    ·exact Or.inr e
    ·exact Or.inl ⟨a,b,fun h=>h.elim c e⟩
  ·rename_i e
   have A:s.given=[]:=by simpa using e
   split at g
   ·omega
   ·rename_i o
    simp only[o,A]
    simp
    omega
structure Reg where
 pages:List Int
 used:Int
structure Est where
 p:PSt
 reg:Nat->Option Reg
def Reg.left (r:Reg):Int:=if r.pages=[] then 0 else 16 - r.used
def Est.pagesAt (e:Est) (k:Nat):List Int:=match e.reg k with | some r=>r.pages | none=>[]
def Est.allTo (e:Est):Nat->List Int
 | 0=>[]
 | n+1=>e.allTo n++e.pagesAt n
def Est.all (e:Est):List Int:=e.allTo 16
def Est.set (e:Est) (k:Nat) (o:Option Reg):Est:={ e with reg:=fun j=>if j=k then o else e.reg j }
def Est.withP (e:Est) (s:PSt):Est:={ e with p:=s }
structure Est.Ok (e:Est):Prop where
 ok:e.p.Ok
 top:∀ k,16<=k->e.reg k=none
 nodup:∀ k,(e.pagesAt k).Nodup
 apart:∀ j k x,x∈e.pagesAt j->x∈e.pagesAt k->j=k
 mem:∀ x,(∃ k,x∈e.pagesAt k)↔0<=x/\x<e.p.fresh/\x ∉ e.p.given
 used:∀ k r,e.reg k=some r->0<=r.used/\r.used<=16
theorem Est.mem_allTo (e:Est) (x:Int):∀ n,x∈e.allTo n↔∃ k,k<n/\x∈e.pagesAt k
 | 0=>by simp[Est.allTo]
 | n+1=>by
   rw[Est.allTo,List.mem_append,Est.mem_allTo e x n]
   constructor
   ·rintro (⟨k,b,a⟩ | h)
    ·exact⟨k,by omega,a⟩
    ·exact⟨n,by omega,h⟩
   ·rintro ⟨k,b,a⟩;rcases Nat.lt_succ_iff_lt_or_eq.1 b with h | h
    ·exact Or.inl ⟨k,h,a⟩
    ·subst h;exact Or.inr a
theorem Est.Ok.nodup_allTo {e:Est}(h:e.Ok):∀ n,(e.allTo n).Nodup
 | 0=>by simp[Est.allTo]
 | n+1=>by
   rw[Est.allTo,List.nodup_append]
   refine⟨h.nodup_allTo n,h.nodup n,fun a d c g f=>?_⟩
   subst f;obtain⟨k,i,b⟩:=(e.mem_allTo a n).1 d
   have:=h.apart k n a b g
   omega
theorem Est.Ok.none_at {e:Est}(h:e.Ok)(a:16<=k):e.pagesAt k=[]:=by simp[Est.pagesAt,h.top k a]
theorem Est.Ok.tk {e:Est}(h:e.Ok):Tk e.p e.all:=by
 refine⟨h.nodup_allTo 16,fun x=>?_⟩
 rw[Est.all,e.mem_allTo,<-h.mem x]
 constructor
 ·rintro ⟨k,_,a⟩;exact⟨k,a⟩
 ·rintro ⟨k,a⟩;refine⟨k,?_,a⟩
  rcases Nat.lt_or_ge k 16 with b | b
  ·exact b
  ·rw[h.none_at b] at a;simp at a
theorem Est.Ok.took {e:Est}(h:e.Ok)(a:x∈e.pagesAt k):0<=x/\x<e.p.fresh/\x ∉ e.p.given:=(h.mem x).1 ⟨k,a⟩
theorem Est.Ok.low {e:Est}(h:e.Ok)(a:x∈e.pagesAt k):0<=x/\x<e.p.pages:=by
 have c:=h.took a;have b:=h.ok.high;omega
theorem Est.Ok.len {e:Est}(h:e.Ok) (k:Nat):(e.pagesAt k).length<=64:=by
 have b:=h.ok.most
 have:=short_of_nodup e.p.pages (e.pagesAt k) (h.nodup k) (fun x a=>h.low a)
 omega
theorem Est.at_some {e:Est}{r:Reg}(a:e.reg k=some r):e.pagesAt k=r.pages:=by simp[Est.pagesAt,a]
theorem Est.Ok.lenR {e:Est}(h:e.Ok){r:Reg}(a:e.reg k=some r):r.pages.length<=64:=by rw[<-Est.at_some a];exact h.len k
def Est.new (n:Nat):Est:=⟨PSt.new n,fun _=>none⟩
theorem Est.ok_new (n:Nat) (h:n<=64):(Est.new n).Ok :=
 ⟨PSt.ok_new n h,fun _ _=>rfl,fun k=>by simp[Est.new,Est.pagesAt],fun j k x a=>by simp[Est.new,Est.pagesAt] at a,
  fun x=>by simp[Est.new,Est.pagesAt,PSt.new]<;>omega,fun k r b=>by simp[Est.new] at b⟩
theorem Est.pagesAt_set (e:Est) (k:Nat) (o:Option Reg) (j:Nat):(e.set k o).pagesAt j=if j=k then (match o with | some r=>r.pages | none=>[]) else e.pagesAt j:=by
 unfold Est.pagesAt Est.set;by_cases h:j=k<;>simp[h]
def Est.has (e:Est) (k:Int):Bool:=decide (0<=k)&&decide (k<16)&&(e.reg k.toNat).isSome
theorem Est.has_true {e:Est}{k:Int}(h:e.has k=true):∃ (j:Nat) (r:Reg),k=j/\j<16/\e.reg j=some r:=by
 simp[Est.has] at h
 obtain⟨r,a⟩:=Option.isSome_iff_exists.1 h.2
 exact⟨k.toNat,r,by omega,by omega,a⟩
theorem Est.has_of {e:Est}{r:Reg}(b:j<16) (a:e.reg j=some r):e.has j=true:=by
 simp[Est.has,a];omega
theorem Est.has_none {e:Est}(a:e.reg j=none):e.has j=false:=by simp[Est.has,a]
theorem Est.has_out {e:Est}{k:Int}(h:k<0\/16<=k):e.has k=false:=by
 unfold Est.has;rcases h with h | h
 ·rw[show decide (0<=k)=false by simpa using h];rfl
 ·rw[show decide (k<16)=false by simpa using h];simp
def Qa7 (f:Nat->Option Reg) (n:Nat):Nat->Int
 | 0=>-1
 | m+1=>if (f n).isNone then (n:Int) else Qa7 f (n+1) m
def Est.openK (e:Est):Int:=Qa7 e.reg 0 16
def Est.opened (e:Est):Est:=if e.openK<0 then e else e.set e.openK.toNat (some ⟨[],0⟩)
theorem QcZ {f:Nat->Option Reg}:∀ (m n:Nat),(∀ k,n<=k->k<n+m->f k≠none)->Qa7 f n m=-1
 | 0,_,_=>rfl
 | m+1,n,h=>by
   have a:=h n Ze (by omega);rw[Qa7,Xr (by simpa using a)]
   exact QcZ m (n+1) (fun k c b=>h k (by omega) (by omega))
theorem Qck {f:Nat->Option Reg}:∀ (m n k:Nat),(∀ j,n<=j->j<k->f j≠none)->n<=k->k<n+m->f k=none->Qa7 f n m=k
 | 0,n,k,_,h1,h2,_=>by omega
 | m+1,n,k,h,h1,h2,h3=>by
   rw[Qa7]
   by_cases e:n=k
   ·subst e;rw[Xs (by simp[h3])]
   ·have b:=h n Ze (by omega);rw[Xr (by simpa using b)]
    exact Qck m (n+1) k (fun j c a=>h j (by omega) a) (by omega) (by omega) h3
theorem Est.open_no {e:Est}(h:∀ k,k<16->e.reg k≠none):e.openK=-1/\e.opened=e:=by
 have a:e.openK=-1:=QcZ 16 0 (fun k _ b=>h k (by omega));exact⟨a,by simp[Est.opened,a]⟩
theorem Est.open_yes {e:Est}(h:∀ j,j<k->e.reg j≠none) (d:k<16) (c:e.reg k=none):e.openK=k/\e.opened=e.set k (some ⟨[],0⟩):=by
 have a:e.openK=k:=Qck 16 0 k (fun j _ b=>h j b) (by omega) (by omega) c;refine⟨a,?_⟩
 rw[Est.opened,a,Xr (by omega)];rfl
theorem Est.Ok.openSet {e:Est}(h:e.Ok)(m:k<16) (l:e.reg k=none):(e.set k (some ⟨[],0⟩)).Ok:=by
 have b:∀ j,(e.set k (some ⟨[],0⟩)).pagesAt j=e.pagesAt j:=fun j=>by
  rw[Est.pagesAt_set]
  by_cases f:j=k
  ·subst f;simp[Est.pagesAt,l]
  ·simp[f]
 refine⟨h.ok,fun j g=>?_,fun j=>by rw[b];exact h.nodup j,fun i j x c d=>?_,fun x=>?_,fun j r a=>?_⟩
 ·simp only[Est.set];rw[Xr (by omega)];exact h.top j g
 ·rw[b] at c d;exact h.apart i j x c d
 ·simp only[b];exact h.mem x
 ·simp only[Est.set] at a
  split at a
  ·cases a;simp
  ·exact h.used j r a
theorem Qbl (f:Nat->Option Reg) (m:Nat):(∀ k,k<m->f k≠none)\/∃ k,k<m/\f k=none/\∀ j,j<k->f j≠none:=by
 induction m with
 | zero=>exact Or.inl fun k b=>by omega
 | succ m ih =>
   rcases ih with h | ⟨k,a,d,e⟩
   ·by_cases c:f m=none
    ·exact Or.inr ⟨m,by omega,c,h⟩
    ·refine Or.inl fun k b=>?_;rcases Nat.lt_succ_iff_lt_or_eq.1 b with a | a
     ·exact h k a
     ·subst a;exact c
   ·exact Or.inr ⟨k,by omega,d,e⟩
theorem Est.Ok.opened {e:Est}(h:e.Ok):e.opened.Ok:=by
 rcases Qbl e.reg 16 with a | ⟨k,a,b,c⟩
 ·rw[(Est.open_no a).2];exact h
 ·rw[(Est.open_yes c a b).2];exact h.openSet a b
@[simp] theorem Est.p_set (e : Est) (k : Nat) (o : Option Reg) : (e.set k o).p = e.p := rfl
@[simp] theorem Est.p_opened (e : Est) : e.opened.p = e.p := by unfold Est.opened; split <;> rfl
def PSt.giveAll (s:PSt) (l:List Int):PSt:=l.foldl PSt.give s
@[simp] theorem PSt.pages_giveAll (l : List Int) : ∀ s : PSt, (s.giveAll l).pages = s.pages := by
 induction l with
 | nil=>intro s;rfl
 | cons x r ih=>intro s;show (PSt.giveAll (s.give x) r).pages=_;rw[ih];simp
theorem PSt.giveAll_snoc (s:PSt) (l:List Int) (x:Int):s.giveAll (l++[x])=(s.giveAll l).give x:=by simp[PSt.giveAll]
theorem PSt.ok_giveAll (l:List Int):∀ {s:PSt},s.Ok->(s.giveAll l).Ok:=by
 induction l with
 | nil=>intro s h;exact h
 | cons x r ih=>intro s h;exact ih (PSt.ok_give h x)
theorem PSt.giveAll_eq (l:List Int):∀ s:PSt,l.Nodup->(∀ x,x∈l->0<=x/\x<s.fresh/\x ∉ s.given)->s.giveAll l={ s with given:=s.given++l }:=by
 induction l with
 | nil=>intro s _ _;simp[PSt.giveAll]
 | cons x r ih =>
   intro s d c
   have e:s.give x={ s with given:=s.given++[x] }:=by
    have:=(Qkg s x).2 (c x (by simp))
    simp[PSt.give,this]
   show PSt.giveAll (s.give x) r=_;rw[e,ih]
   ·simp
   ·exact(List.nodup_cons.1 d).2
   ·intro y f;have a:=c y (by simp[f]);refine⟨a.1,a.2.1,?_⟩
    simp only[List.mem_append,List.mem_singleton]
    rintro (b | b)
    ·exact a.2.2 b
    ·subst b;exact(List.nodup_cons.1 d).1 f
def Est.shut (e:Est) (k:Int):Est:=if e.has k then (e.set k.toNat none).withP (e.p.giveAll (e.pagesAt k.toNat)) else e
theorem Est.shut_yes {e:Est}{r:Reg}(b:j<16) (a:e.reg j=some r):e.shut j=(e.set j none).withP (e.p.giveAll r.pages):=by
 simp[Est.shut,Est.has_of b a,Est.at_some a]
theorem Est.shut_no {e:Est}{k:Int}(h:e.has k=false):e.shut k=e:=by simp[Est.shut,h]
@[simp] theorem Est.pages_shut (e : Est) (k : Int) : (e.shut k).p.pages = e.p.pages := by
 unfold Est.shut;split<;>simp[Est.withP]
theorem Est.Ok.shutAt {e:Est}(h:e.Ok){r:Reg}(t:e.reg j=some r):((e.set j none).withP (e.p.giveAll r.pages)).Ok:=by
 have d:=Est.at_some t;have n:=PSt.giveAll_eq r.pages e.p (by rw[<-d];exact h.nodup j) (fun x m=>h.took (k:=j) (by rw[d];exact m))
 have f:∀ i,((e.set j none).withP (e.p.giveAll r.pages)).pagesAt i=if i=j then [] else e.pagesAt i:=fun i=>by
  show (e.set j none).pagesAt i=_;rw[Est.pagesAt_set]
 refine⟨PSt.ok_giveAll _ h.ok,fun i c=>?_,fun i=>?_,fun i k x b a=>?_,fun x=>?_,fun i q o=>?_⟩
 ·show (if i=j then none else e.reg i)=none;split
  ·rfl
  ·exact h.top i c
 ·rw[f];split
  ·simp
  ·exact h.nodup i
 ·rw[f] at b a
  split at b
  ·simp at b
  ·split at a
   ·simp at a
   ·exact h.apart i k x b a
 ·show _↔0<=x/\x<(e.p.giveAll r.pages).fresh/\x ∉ (e.p.giveAll r.pages).given;simp only[f]
  rw[n]
  simp only[List.mem_append]
  constructor
  ·rintro ⟨i,c⟩;split at c
   ·simp at c
   ·rename_i g
    have b:=h.took c;refine⟨b.1,b.2.1,?_⟩
    rintro (a | a)
    ·exact b.2.2 a
    ·rw[<-d] at a;exact g (h.apart i j x c a)
  ·rintro ⟨b,a,l⟩;obtain⟨i,c⟩:=(h.mem x).2 ⟨b,a,fun s=>l (Or.inl s)⟩
   refine⟨i,?_⟩
   rw[Xr]
   ·exact c
   ·rintro rfl;rw[d] at c
    exact l (Or.inr c)
 ·have:(if i=j then none else e.reg i)=some q:=o
  split at this
  ·cases this
  ·exact h.used i q this
theorem Est.Ok.shut {e:Est}(h:e.Ok) (k:Int):(e.shut k).Ok:=by
 cases hh:e.has k with
 | false=>rw[Est.shut_no hh];exact h
 | true =>
   obtain⟨j,r,rfl,b,a⟩:=Est.has_true hh
   rw[Est.shut_yes b a];exact h.shutAt a
def Reg.more (r:Reg) (n:Int):Bool:=decide (r.left<n)
def Est.getCode (e:Est) (k n:Int):Int :=
 if e.has k then (if n<1\/16<n then 1 else match e.reg k.toNat with | some r=>if r.more n=true/\e.p.nextK<0 then 14 else 0 | none=>15) else 15
def Est.getAt (e:Est) (k n:Int):Int :=
 if e.getCode k n=0 then (match e.reg k.toNat with | some r=>if r.more n=true then 16*e.p.nextK else 16*r.pages.getLastD 0+r.used | none=>0) else 0
def Est.got (e:Est) (k n:Int):Est :=
 if e.getCode k n=0 then (match e.reg k.toNat with | some r=>if r.more n=true then (e.set k.toNat (some ⟨r.pages++[e.p.nextK],n⟩)).withP e.p.take else e.set k.toNat (some ⟨r.pages,r.used+n⟩) | none=>e) else e
theorem Est.get_none {e:Est}{k n:Int}(h:e.has k=false):e.getCode k n=15/\e.getAt k n=0/\e.got k n=e:=by
 have a:e.getCode k n=15:=by simp[Est.getCode,h]
 exact⟨a,by simp[Est.getAt,a],by simp[Est.got,a]⟩
theorem Est.get_range {e:Est}{k n:Int}(h:e.has k=true) (b:n<1\/16<n):e.getCode k n=1/\e.getAt k n=0/\e.got k n=e:=by
 have a:e.getCode k n=1:=by simp[Est.getCode,h,b]
 exact⟨a,by simp[Est.getAt,a],by simp[Est.got,a]⟩
theorem Est.get_full {e:Est}{r:Reg}{n:Int}(d:j<16) (b:e.reg j=some r) (g:¬ (n<1\/16<n)) (f:r.more n=true) (c:e.p.nextK<0):e.getCode j n=14/\e.getAt j n=0/\e.got j n=e:=by
 have a:e.getCode j n=14:=by simp[Est.getCode,Est.has_of d b,g,b,f,c]
 exact⟨a,by simp[Est.getAt,a],by simp[Est.got,a]⟩
theorem Est.get_more {e:Est}{r:Reg}{n:Int}(f:j<16) (a:e.reg j=some r) (g:¬ (n<1\/16<n)) (b:r.more n=true) (d:¬ e.p.nextK<0) :
 e.getCode j n=0/\e.getAt j n=16*e.p.nextK/\e.got j n=(e.set j (some ⟨r.pages++[e.p.nextK],n⟩)).withP e.p.take:=by
 have c:e.getCode j n=0:=by simp[Est.getCode,Est.has_of f a,g,a,b,d]
 exact⟨c,by simp[Est.getAt,c,a,b],by simp[Est.got,c,a,b]⟩
theorem Est.get_room {e:Est}{r:Reg}{n:Int}(d:j<16) (a:e.reg j=some r) (f:¬ (n<1\/16<n)) (b:r.more n=false) :
 e.getCode j n=0/\e.getAt j n=16*r.pages.getLastD 0+r.used/\e.got j n=e.set j (some ⟨r.pages,r.used+n⟩):=by
 have c:e.getCode j n=0:=by simp[Est.getCode,Est.has_of d a,f,a,b]
 exact⟨c,by simp[Est.getAt,c,a,b],by simp[Est.got,c,a,b]⟩
theorem Reg.room {r:Reg}{n:Int}(h:r.more n=false) (c:1<=n):r.pages≠[]/\n<=16 - r.used:=by
 have a:¬ r.left<n:=by simpa[Reg.more] using h
 unfold Reg.left at a;by_cases b:r.pages=[]
 ·rw[Xs b] at a;omega
 ·rw[Xr b] at a;exact⟨b,by omega⟩
theorem Reg.more_iff {r:Reg}{n:Int}(a:1<=n):r.more n=true↔r.pages=[]\/16 - r.used<n:=by
 simp only[Reg.more,Reg.left]
 by_cases h:r.pages=[]
 ·simp[h];omega
 ·simp[h]
theorem Est.Ok.roomSet {e:Est}(h:e.Ok){r:Reg}(a:e.reg j=some r){n:Int}(o:0<=n) (c:n<=16 - r.used):(e.set j (some ⟨r.pages,r.used+n⟩)).Ok:=by
 have b:∀ i,(e.set j (some ⟨r.pages,r.used+n⟩)).pagesAt i=e.pagesAt i:=fun i=>by
  rw[Est.pagesAt_set]
  by_cases g:i=j
  ·subst g;simp[Est.pagesAt,a]
  ·simp[g]
 have m:=h.used j r a;refine⟨h.ok,fun i f=>?_,fun i=>by rw[b];exact h.nodup i,fun i k x c d=>?_,fun x=>?_,fun i q l=>?_⟩
 ·show (if i=j then some _ else e.reg i)=none;rw[Xr]
  ·exact h.top i f
  ·rintro rfl;rw[h.top i f] at a;cases a
 ·rw[b] at c d;exact h.apart i k x c d
 ·simp only[b];exact h.mem x
 ·have:(if i=j then some ⟨r.pages,r.used+n⟩ else e.reg i)=some q:=l
  split at this
  ·cases this;simp only;omega
  ·exact h.used i q this
theorem Est.Ok.moreSet {e:Est}(h:e.Ok){r:Reg}(u:e.reg j=some r){n:Int}(F:0<=n) (g:n<=16) (E:0<=e.p.nextK):((e.set j (some ⟨r.pages++[e.p.nextK],n⟩)).withP e.p.take).Ok:=by
 have w:=Est.at_some u;obtain⟨z,y⟩:=h.tk.take h.ok E
 have b:∀ i,e.p.nextK ∉ e.pagesAt i:=fun i s=>by
  refine z ((h.tk.mem _).2 ?_);exact h.took s
 have v:∀ i,((e.set j (some ⟨r.pages++[e.p.nextK],n⟩)).withP e.p.take).pagesAt i=if i=j then e.pagesAt j++[e.p.nextK] else e.pagesAt i:=fun i=>by
  show (e.set j (some ⟨r.pages++[e.p.nextK],n⟩)).pagesAt i=_;rw[Est.pagesAt_set,w]
 have f:∀ i x,x∈(if i=j then e.pagesAt j++[e.p.nextK] else e.pagesAt i)↔x∈e.pagesAt i\/(i=j/\x=e.p.nextK):=fun i x=>by
  by_cases o:i=j
  ·subst o;simp
  ·simp[o]
 refine⟨PSt.ok_take h.ok,fun i s=>?_,fun i=>?_,fun i k x g d=>?_,fun x=>?_,fun i q C=>?_⟩
 ·show (if i=j then some _ else e.reg i)=none;rw[Xr]
  ·exact h.top i s
  ·rintro rfl;rw[h.top i s] at u;cases u
 ·rw[v];split
  ·rw[List.nodup_append]
   refine⟨h.nodup j,by simp,fun a B c A o=>?_⟩
   simp at A;subst A;subst o;exact b j B
  ·exact h.nodup i
 ·rw[v,f] at g d
  rcases g with g | ⟨g,t⟩
  ·rcases d with d | ⟨d,m⟩
   ·exact h.apart i k x g d
   ·subst m;exact absurd g (b i)
  ·rcases d with d | ⟨d,m⟩
   ·subst t;exact absurd d (b k)
   ·omega
 ·have:=y.mem x
  show _↔0<=x/\x<e.p.take.fresh/\x ∉ e.p.take.given;rw[<-this,List.mem_append,List.mem_singleton,h.tk.mem x,<-h.mem x]
  simp only[v,f]
  constructor
  ·rintro ⟨i,l | ⟨l,D⟩⟩
   ·exact Or.inl ⟨i,l⟩
   ·exact Or.inr D
  ·rintro (⟨i,l⟩ | l)
   ·exact⟨i,Or.inl l⟩
   ·exact⟨j,Or.inr ⟨Z,l⟩⟩
 ·have:(if i=j then some ⟨r.pages++[e.p.nextK],n⟩ else e.reg i)=some q:=C
  split at this
  ·cases this;simp only;omega
  ·exact h.used i q this
theorem Est.Ok.got {e:Est}(h:e.Ok) (k n:Int):(e.got k n).Ok:=by
 cases hh:e.has k with
 | false=>rw[(Est.get_none hh).2.2];exact h
 | true =>
   by_cases b:n<1\/16<n
   ·rw[(Est.get_range hh b).2.2];exact h
   ·obtain⟨j,r,rfl,c,a⟩:=Est.has_true hh
    cases hm:r.more n with
    | false =>
      rw[(Est.get_room c a b hm).2.2]
      exact h.roomSet a (by omega) (Reg.room hm (by omega)).2
    | true =>
      by_cases d:e.p.nextK<0
      ·rw[(Est.get_full c a b hm d).2.2];exact h
      ·rw[(Est.get_more c a b hm d).2.2]
       exact h.moreSet a (by omega) (by omega) (by omega)
@[simp] theorem Est.pages_got (e : Est) (k n : Int) : (e.got k n).p.pages = e.p.pages := by
 unfold Est.got;split
 ·split
  ·split<;>simp[Est.withP]
  ·rfl
 ·rfl
def Zb (f:Nat->Option Reg):Nat->Int
 | 0=>0
 | n+1=>if (f n).isSome then Zb f n+1 else Zb f n
def Est.count (e:Est):Int:=Zb e.reg 16
theorem Qa2 (f:Nat->Option Reg):∀ n:Nat,0<=Zb f n/\Zb f n<=n
 | 0=>by simp[Zb]
 | n+1=>by
   have:=Qa2 f n
   rw[Zb];split<;>omega
def Est.store (e:Est) (k n:Int):Est:=e.withP (e.p.store k n)
theorem Est.Ok.store {e:Est}(h:e.Ok) (k n:Int):(e.store k n).Ok:=by
 have a:(e.p.store k n).fresh=e.p.fresh/\(e.p.store k n).given=e.p.given:=by unfold PSt.store;split<;>simp
 refine⟨PSt.ok_store h.ok k n,h.top,h.nodup,h.apart,fun x=>?_,h.used⟩
 show _↔0<=x/\x<(e.p.store k n).fresh/\x ∉ (e.p.store k n).given;rw[a.1,a.2]
 exact h.mem x
theorem PSt.nextK_iff {s:PSt}(h:s.Ok):s.nextK<0↔s.free=0:=by
 have f:=h.low;have g:=h.high;unfold PSt.nextK PSt.free;split
 ·rename_i k e
  have d:=h.mem k (List.mem_of_getLast? e);have a:=h.len
  have:0<s.given.length:=List.length_pos_of_mem (List.mem_of_getLast? e)
  omega
 ·rename_i e
  have b:s.given=[]:=by simpa using e
  rw[b]
  split
  ·rename_i c;simp;omega
  ·rename_i c;simp;omega
structure Run where
 region:Int
 at_:Int
 n:Int
def Qbc (e:Est) (q:Run):Prop :=
 ∃ (j:Nat) (r:Reg) (p:Int),q.region=j/\e.reg j=some r/\p∈r.pages/\16*p<=q.at_/\q.at_+q.n<=16*p+16/\0<=q.n/\(p=r.pages.getLastD 0->q.at_+q.n<=16*p+r.used)
def QmW (e:Est):Prop:=∀ (j:Nat) (r:Reg),e.reg j=some r->r.pages≠[]->∀ i:Nat,16*r.pages.getLastD 0+r.used<=i->(i:Int)<16*r.pages.getLastD 0+16->e.p.ws i=0
structure Ap (e:Est) (rs:List Run):Prop where
 run:∀ q,q∈rs->Qbc e q
 clear:QmW e
theorem Ap.opened {e:Est}{i:List Run}(h:Ap e i):Ap e.opened i:=by
 rcases Qbl e.reg 16 with c | ⟨k,c,g,n⟩
 ·rw[(Est.open_no c).2];exact h
 ·rw[(Est.open_yes n c g).2]
  have d:∀ j r,e.reg j=some r->(e.set k (some ⟨[],0⟩)).reg j=some r:=fun j r b=>by
   show (if j=k then _ else e.reg j)=_;rw[Xr]
   ·exact b
   ·rintro rfl;rw[g] at b;cases b
  refine⟨fun q s=>?_,fun j r b f=>?_⟩
  ·obtain⟨j,r,p,m,l,o⟩:=h.run q s
   exact⟨j,r,p,m,d j r l,o⟩
  ·have a:(if j=k then some ⟨[],0⟩ else e.reg j)=some r:=b;split at a
   ·cases a;exact absurd Z f
   ·exact h.clear j r a f
def Qlg (rs:List Run) (k:Int):List Run:=rs.filter (fun q=>q.region != k)
theorem QdK (l:List Int):∀ s:PSt,(s.giveAll l).ws=s.ws:=by
 induction l with
 | nil=>intro s;rfl
 | cons x r ih =>
   intro s;show (PSt.giveAll (s.give x) r).ws=_;rw[ih]
   unfold PSt.give;split<;>rfl
theorem Ap.shut {e:Est}{l:List Run}(h:Ap e l) (k:Int):Ap (e.shut k) (Qlg l k):=by
 cases hh:e.has k with
 | false =>
   rw[Est.shut_no hh]
   exact⟨fun q c=>h.run q (List.mem_filter.1 c).1,h.clear⟩
 | true =>
   obtain⟨i,u,rfl,w,d⟩:=Est.has_true hh
   rw[Est.shut_yes w d]
   refine⟨fun q c=>?_,fun j r x n=>?_⟩
   ·obtain⟨b,f⟩:=List.mem_filter.1 c
    obtain⟨j,r,p,g,o,v⟩:=h.run q b
    refine⟨j,r,p,g,?_,v⟩
    show (if j=i then none else e.reg j)=some r;rw[Xr]
    ·exact o
    ·rintro rfl;simp[g] at f
   ·have a:(if j=i then none else e.reg j)=some r:=x;split at a
    ·cases a
    ·intro m s t;show (e.p.giveAll u.pages).ws m=0;rw[QdK]
     exact h.clear j r a n m s t
def PSt.fill (s:PSt) (at_:Int) (m:Nat):PSt:={ s with ws:=fun i=>if at_<=(i:Int)/\(i:Int)<at_+m then 7 else s.ws i }
theorem QcC (h:l≠[]):l.getLastD 0∈l:=by
 rcases List.eq_nil_or_concat l with a | ⟨b,k,a⟩
 ·exact absurd a h
 ·rw[a];simp
structure QlO (e:Est) (rs:List Run) (k n:Int):Prop where
 low:0<=e.getAt k n
 high:e.getAt k n+n<=16*e.p.pages
 pos:1<=n
 top:n<=16
 page:Qd4 (if (e.got k n).has k then (e.got k n).pagesAt k.toNat else []) (e.getAt k n / 16)=true
 room:e.getAt k n%16+n<=16
 apart:∀ q,q∈rs->¬ (e.getAt k n<q.at_+q.n/\q.at_<e.getAt k n+n)
 zero:∀ m:Nat,(m:Int)<n->(e.got k n).p.ws (e.getAt k n+m).toNat=0
 ap:Ap ((e.got k n).withP ((e.got k n).p.fill (e.getAt k n) n.toNat)) (rs++[⟨k,e.getAt k n,n⟩])
theorem QjX {e:Est}{K:List Run}{r:Reg}{n:Int}(c:e.Ok) (h:Ap e K) (I:j<16) (s:e.reg j=some r) (O:¬ (n<1\/16<n)) (L:r.more n=false):QlO e K j n:=by
 obtain⟨V,o,A⟩:=Est.get_room I s O L
 obtain⟨l,N⟩:=Reg.room L (by omega)
 have a:=QcC l;have t:=Est.at_some s;have G:=c.low (k:=j) (x:=r.pages.getLastD 0) (by rw[t];exact a);have T:=c.used j r s;have Q:(e.set j (some ⟨r.pages,r.used+n⟩)).has j=true:=Est.has_of I (r:=⟨r.pages,r.used+n⟩) (by simp[Est.set]);have R:(e.set j (some ⟨r.pages,r.used+n⟩)).pagesAt j=r.pages:=by rw[Est.pagesAt_set];simp
 have H:∀ i,(e.set j (some ⟨r.pages,r.used+n⟩)).reg i=if i=j then some ⟨r.pages,r.used+n⟩ else e.reg i:=fun i=>rfl
 refine⟨?_,?_,by omega,by omega,?_,?_,?_,?_,?_⟩
 ·rw[o];omega
 ·rw[o];omega
 ·rw[o,A,Q]
  simp only[if_true,Int.toNat_natCast,R]
  have:(16*r.pages.getLastD 0+r.used) / 16=r.pages.getLastD 0:=by omega
  rw[this]
  simpa[Qd4] using a
 ·rw[o];omega
 ·rw[o]
  intro q d;obtain⟨i,J,p,y,g,v,E,D,C,w⟩:=h.run q d
  intro W;by_cases f:p=r.pages.getLastD 0
  ·have:i=j:=c.apart i j p (by rw[Est.at_some g];exact v) (by rw[t,f];exact a)
   subst this;rw[s] at g;cases g
   have:=w f
   omega
  ·omega
 ·rw[o,A]
  intro m P;show e.p.ws _=0;refine h.clear j r s l _ ?_ ?_<;>omega
 ·rw[o,A]
  refine⟨fun q d=>?_,fun i q d u=>?_⟩
  ·rcases List.mem_append.1 d with d | d
   ·obtain⟨i,J,p,y,g,v,E,D,C,w⟩:=h.run q d
    by_cases f:i=j
    ·subst f;rw[s] at g;cases g
     exact⟨i,⟨r.pages,r.used+n⟩,p,y,by simp[Est.withP,Est.set],v,E,D,C,fun B=>by have:=w B;simp only;omega⟩
    ·exact⟨i,J,p,y,by simp[Est.withP,Est.set,f,g],v,E,D,C,w⟩
   ·have b:=List.mem_singleton.1 d;subst b;refine⟨j,⟨r.pages,r.used+n⟩,r.pages.getLastD 0,Z,by simp[Est.withP,Est.set],a,?_,?_,?_,fun _=>?_⟩<;>simp only<;>omega
  ·have b:(if i=j then some ⟨r.pages,r.used+n⟩ else e.reg i)=some q:=d;intro m M F;show (if 16*r.pages.getLastD 0+r.used<=(m:Int)/\(m:Int)<16*r.pages.getLastD 0+r.used+n.toNat then 7 else e.p.ws m)=0;split at b
   ·cases b
    simp only at M F
    rw[Xr (by omega)]
    exact h.clear j r s l m (by omega) (by omega)
   ·rename_i f
    have z:=QcC u;have U:q.pages.getLastD 0≠r.pages.getLastD 0:=fun B=>f (c.apart i j (q.pages.getLastD 0) (by rw[Est.at_some b];exact z) (by rw[t,B];exact a));have S:=c.used i q b;rw[Xr (by omega)]
    exact h.clear i q b u m M F
theorem QkZ {e:Est}{I:List Run}{r:Reg}{n:Int}(b:e.Ok) (h:Ap e I) (G:j<16) (z:e.reg j=some r) (K:¬ (n<1\/16<n)) (R:r.more n=true) (P:¬ e.p.nextK<0):QlO e I j n:=by
 obtain⟨U,f,s⟩:=Est.get_more G z K R P
 have L:=(PSt.nextK_lt b.ok).2;have B:=Est.at_some z;obtain⟨D,-⟩:=b.tk.take b.ok (by omega)
 have c:∀ i,e.p.nextK ∉ e.pagesAt i:=fun i S=>D ((b.tk.mem _).2 (b.took S))
 have k:∀ i:Nat,e.p.take.ws i=if 16*e.p.nextK<=(i:Int)/\(i:Int)<16*e.p.nextK+16 then 0 else e.p.ws i:=fun i=>by
  have f:e.p.take=e.p.next.wipe e.p.nextK:=by simp[PSt.take];omega
  have s:e.p.next.ws=e.p.ws:=by
   unfold PSt.next;split
   ·rfl
   ·split<;>rfl
  rw[f]
  show (if e.p.nextK*16<=(i:Int)/\(i:Int)<e.p.nextK*16+16 then 0 else e.p.next.ws i)=_;rw[s]
  by_cases g:16*e.p.nextK<=(i:Int)/\(i:Int)<16*e.p.nextK+16
  ·rw[Xs g,Xs (by omega)]
  ·rw[Xr g,Xr (by omega)]
 have N:((e.set j (some ⟨r.pages++[e.p.nextK],n⟩)).withP e.p.take).has j=true:=Est.has_of G (r:=⟨r.pages++[e.p.nextK],n⟩) (by simp[Est.set,Est.withP])
 have O:((e.set j (some ⟨r.pages++[e.p.nextK],n⟩)).withP e.p.take).pagesAt j=r.pages++[e.p.nextK]:=by
  show (e.set j (some ⟨r.pages++[e.p.nextK],n⟩)).pagesAt j=_;rw[Est.pagesAt_set];simp
 generalize V:e.p.nextK=q at *;refine⟨?_,?_,by omega,by omega,?_,?_,?_,?_,?_⟩
 ·rw[f];omega
 ·rw[f];omega
 ·rw[f,s,N]
  simp only[if_true,Int.toNat_natCast,O]
  have:(16*q) / 16=q:=by omega
  rw[this]
  simp[Qd4]
 ·rw[f];omega
 ·rw[f]
  intro u d;obtain⟨i,H,p,w,o,l,C,A,y,E⟩:=h.run u d
  intro W
  have:p≠q:=fun g=>c i (by rw[Est.at_some o,<-g];exact l)
  omega
 ·rw[f,s]
  intro m M;show e.p.take.ws _=0;rw[k,Xs (by omega)]
 ·rw[f,s]
  refine⟨fun u d=>?_,fun i u d t=>?_⟩
  ·rcases List.mem_append.1 d with d | d
   ·obtain⟨i,H,p,w,o,l,C,A,y,E⟩:=h.run u d
    by_cases g:i=j
    ·subst g;rw[z] at o;cases o
     refine⟨i,⟨r.pages++[q],n⟩,p,w,by simp[Est.withP,Est.set],by simp[l],C,A,y,fun v=>?_⟩
     simp at v
     exact absurd (by rw[B,<-v];exact l) (c i)
    ·exact⟨i,H,p,w,by simp[Est.withP,Est.set,g,o],l,C,A,y,E⟩
   ·have a:=List.mem_singleton.1 d;subst a;refine⟨j,⟨r.pages++[q],n⟩,q,Z,by simp[Est.withP,Est.set],by simp,?_,?_,?_,fun _=>?_⟩<;>simp only<;>omega
  ·have a:(if i=j then some ⟨r.pages++[q],n⟩ else e.reg i)=some u:=d;intro m J F;show (if 16*q<=(m:Int)/\(m:Int)<16*q+n.toNat then 7 else e.p.take.ws m)=0;split at a
   ·cases a
    simp at J F
    rw[Xr (by omega),k,Xs (by omega)]
   ·rename_i g
    have x:=QcC t;have T:u.pages.getLastD 0≠q:=fun v=>c i (by rw[Est.at_some a,<-v];exact x);have Q:=b.used i u a;rw[Xr (by omega),k,Xr (by omega)]
    exact h.clear i u a t m J F
theorem Qlc {e:Est}{i:List Run}(a:e.Ok) (h:Ap e i) (k n:Int) (f:e.getCode k n=0):QlO e i k n:=by
 cases hh:e.has k with
 | false=>rw[(Est.get_none hh).1] at f;omega
 | true =>
   by_cases b:n<1\/16<n
   ·rw[(Est.get_range hh b).1] at f;omega
   ·obtain⟨j,r,rfl,c,d⟩:=Est.has_true hh
    cases hm:r.more n with
    | false=>exact QjX a h c d b hm
    | true =>
      by_cases g:e.p.nextK<0
      ·rw[(Est.get_full c d b hm g).1] at f;omega
      ·exact QkZ a h c d b hm g
structure RFr where
 f:Nat
 b:Nat
 i:Nat
 v:List Int
structure RM where
 e:Est
 top:RFr
 rest:List RFr
 inp:List Int
 out:List Int
 back:List Int
 fuel:Nat
 fin:Int
 done:Bool
def iAt (v:List Int) (k:Int):Option Int:=if k<0 then none else v[k.toNat]?
def QaA (v:List Int):List Int->Option (List Int)
 | []=>some []
 | k::l=>match iAt v k with
   | none=>none
   | some x=>match QaA v l with
     | none=>none
     | some xs=>some (x::xs)
def RM.over (R:RM) (e:Int):RM:={ R with done:=true,fin:=e }
def RM.on (R:RM) (l:List Int):RM:={ R with top:={ R.top with v:=R.top.v++l,i:=R.top.i+1 } }
def PSt.puts (s:PSt) (k:Int):List Int->PSt
 | []=>s
 | n::l=>(s.store k n).puts (k+1) l
def RM.thing (R:RM) (h size:Int) (l:List Int):RM :=
 if R.e.getCode h size=0 then ({ R with e:=(R.e.got h size).withP ((R.e.got h size).p.puts (R.e.getAt h size) l) }:RM).on [R.e.getAt h size] else R.over 6
def RM.load (R:RM) (k:Int):Int:=R.e.p.load k
def RM.stored (R:RM) (k n:Int):RM:={ R with e:=R.e.withP (R.e.p.store k n) }
def RM.part (R:RM) (x:Qs):Option RM:=match iAt R.top.v x.a with
 | none=>none
 | some a =>
   if x.op=6 then some (R.on [R.load (wrap64 (a+x.k))])
   else if x.op=7 then (match iAt R.top.v x.b with
    | none=>none
    | some y=>some ((R.stored (wrap64 (a+x.k)) y).on []))
   else if x.op=9 then (match iAt R.top.v x.b with
    | none=>none
    | some n=>if 0<=n/\n<R.load a then some (R.on [R.load (wrap64 (wrap64 (a+1)+n))]) else some (R.over 2))
   else if x.op=10 then (match iAt R.top.v x.b with
    | none=>none
    | some n=>match iAt R.top.v x.c with
      | none=>none
      | some z=>if 0<=n/\n<R.load a then some ((R.stored (wrap64 (wrap64 (a+1)+n)) z).on []) else some (R.over 2))
   else if x.op=11 then some (R.on [R.load a])
   else some (R.on [])
def RM.ins (op:Int->Int->Int->Option Int) (R:RM) (x:Qs):Option RM :=
 if x.op=1 then some (R.on [x.n])
 else if x.op=2 then (match iAt R.top.v x.a with
  | none=>none
  | some a=>match iAt R.top.v x.b with
    | none=>none
    | some b=>match op x.k a b with
      | none=>some (R.over 1)
      | some n=>some (R.on [n]))
 else if x.op=3 then (if 0<=R.e.openK then some (({ R with e:=R.e.opened }:RM).on [R.e.openK]) else some (R.over 6))
 else if x.op=4 then (match iAt R.top.v x.a with
  | none=>none
  | some a=>some (({ R with e:=R.e.shut a }:RM).on []))
 else if x.op=5 then (match iAt R.top.v x.a with
  | none=>none
  | some a=>match QaA R.top.v x.args with
    | none=>none
    | some l=>some (R.thing a (if l.length=0 then 1 else l.length) l))
 else if x.op=8 then (match iAt R.top.v x.a with
  | none=>none
  | some a=>match iAt R.top.v x.b with
    | none=>none
    | some n=>if 0<=n/\n<=15 then some (R.thing a (n+1) [n]) else some (R.over 3))
 else if x.op=12 then (match R.inp with
  | []=>some (R.over 4)
  | n::l=>some (({ R with inp:=l }:RM).on [n]))
 else if x.op=13 then (match iAt R.top.v x.a with
  | none=>none
  | some n=>if R.out.length<2000 then some (({ R with out:=R.out++[n] }:RM).on []) else some (R.over 8))
 else if x.op=14 then (if R.rest.length+1<40 then (match QaA R.top.v x.args with
  | none=>none
  | some l=>some { R with top:=⟨x.k.toNat,0,0,l⟩,rest:={ R.top with i:=R.top.i+1 }::R.rest }) else some (R.over 5))
 else R.part x
def RM.to (R:RM) (t:MTo):Option RM:=match QaA R.top.v t.args with
 | none=>none
 | some l=>some { R with top:=⟨R.top.f,t.block.toNat,0,l⟩ }
def RM.endd (R:RM) (e:ZA):Option RM :=
 if e.op=3 then (match QaA R.top.v e.args with
  | none=>none
  | some l=>match R.rest with
    | []=>some { R with done:=true,fin:=0,back:=l }
    | d::rest=>some { R with top:={ d with v:=d.v++l },rest:=rest })
 else if e.op=2 then (match iAt R.top.v e.a with
  | none=>none
  | some n=>if n=0 then R.to e.no else R.to e.yes)
 else R.to e.yes
def RM.step (m:List (MFunc 6)) (op:Int->Int->Int->Option Int) (most:Nat) (R:RM):Option RM :=
 if R.fuel=most then some (R.over 7)
 else match m[R.top.f]? with
  | none=>none
  | some fn=>match fn.blocks[R.top.b]? with
    | none=>none
    | some bl=>match bl.code[R.top.i]? with
      | some x=>RM.ins op { R with fuel:=R.fuel+1 } x
      | none=>RM.endd { R with fuel:=R.fuel+1 } bl.fin
def RM.start (inp:List Int) (pages:Nat):RM:=⟨Est.new pages,⟨0,0,0,[]⟩,[],inp,[],[],0,0,false⟩
def RM.steps (m:List (MFunc 6)) (op:Int->Int->Int->Option Int) (most:Nat):Nat->RM->Option RM
 | 0,R=>some R
 | n+1,R=>if R.done then some R else match R.step m op most with
   | none=>none
   | some R'=>R'.steps m op most n
theorem XG:type_of% @Nat.not_lt_zero:=@Nat.not_lt_zero
def Qn (w:World) (b:Nat) (O:Nat->Prop) (s:PSt):Prop :=
 ∃ gw n vg,w.heap[b]?=some (.cells #[.slice (some ⟨gw,0,none⟩) n n,vg,Iv s.fresh] 134 (0,0))/\w.rowIs gw 2 n (fun i=>Iv (s.ws i)) /\
  Row w O 3 vg s.given/\O b/\O gw/\n=16*s.pages/\s.Ok
theorem Qe7 (w:World) (b:Nat) (O:Nat->Prop) (s:PSt) (h:Qn w b O s) :
 Calls prog 70 #[Pv b 0] w fun e w'=>e=.returned (Iv s.pages)/\w'=w:=by
 obtain⟨j,n,o,d,p,m,q,i,c,a⟩:=h
 have l:w.cell? ⟨b,0,none⟩=some (.slice (some ⟨j,0,none⟩) n n):=Qb d 0 _ Z;have k:=a.most;have E:Hid ((n:Int) / 16=s.pages):=by show _=_;omega
 have f:n<=16*s.pages:=by omega
 have g:16*s.pages<=n:=by omega
 clear c;go_enter func70,ntmps70
 go_wp2
 go_ret;exact⟨by rw[E.out];rfl,Z⟩
theorem QcK (h:∀ j,j<xs.length->xs.getD j 0≠x):Qd4 xs x=false:=by
 unfold Qd4;rw[Bool.eq_false_iff]
 intro b;simp at b
 obtain⟨j,a,e⟩:=List.getElem_of_mem b
 exact h j a (by simp[List.getD,a,e])
theorem Qdu (a:j<xs.length) (h:xs.getD j 0=x):Qd4 xs x=true:=by
 unfold Qd4;simp
 simp[List.getD,a] at h
 rw[<-h];exact List.getElem_mem a
theorem Qjm (w:World) (O:Nat->Prop) (v:Value) (xs:List Int) (x:Int) (h:Row w O 3 v xs) (G:xs.length<=1000) :
 Calls prog 288 #[v,Iv x] w fun e w'=>(∃ r:Int,e=.returned (Iv r)/\decide (0<=r)=Qd4 xs x)/\w'=w:=by
 obtain⟨a,F,rfl,C,B⟩:=h.form
 have p:∀ i,i<xs.length->∃ g,a=some ⟨g,0,none⟩:=by
  intro i s
  cases a with
  | none=>rw[(C Z).1] at s;simp at s
  | some g=>exact⟨g.block,by rw[<-(B g Z).1]⟩
 have m:∀ g i,a=some ⟨g,0,none⟩->i<xs.length->w.cell? ⟨g,i,none⟩=some (Iv (xs.getD i 0)):=by
  intro g i e s;subst e;obtain⟨_,_,_,_,c,m,_,z⟩:=B _ Z
  exact Qb m i _ (z i s)
 clear B C h;obtain⟨b,d⟩:∃ b,xs.length=b:=⟨_,Z⟩
 rw[d] at G p m |-
 have D:Hid (xs.length=b):=d;clear d;go_enter func288,ntmps288
 go_wp2
 go_loop [8] (fun i=>∃ k:Nat,k<=b/\i=Iv k/\∀ j,j<k->xs.getD j 0≠x) (fun i=>b - (intOf i).toNat)
 case atStart=>exact⟨0,Xb _,Z,fun j q=>absurd q (XG _)⟩
 case round =>
  obtain⟨k,H,rfl,f⟩:=hrel
  by_cases o:k<b
  ·obtain⟨g,rfl⟩:=p k o
   have A:=m g k Z o;clear m p;obtain⟨y,n⟩:∃ y,y=xs.getD k 0:=⟨_,Z⟩
   rw[<-n] at A
   by_cases l:x=y
   ·have E:Hid (Qd4 xs x=true):=Qdu (by have:=D.out;omega) (n.symm.trans l.symm);have t:(x==y)=true:=by simpa using l
    clear l n f;go_wp2
    go_ret;exact⟨⟨k,Z,by rw[E.out];simp⟩,Z⟩
   ·have t:(x==y)=false:=by simpa using l
    have N:Hid (∀ j,j<k+1->xs.getD j 0≠x):=fun j q=>by
     rcases Nat.lt_succ_iff_lt_or_eq.1 q with u | u
     ·exact f j u
     ·subst u;rw[<-n];exact fun e=>l e.symm
    clear l f n;go_wp2
    go_round
    case rel=>exact⟨k+1,by omega,by go_num,N.out⟩
    case measure=>simp[intOf];omega
  ·have E:Hid (Qd4 xs x=false):=QcK fun j q=>f j (by have:=D.out;omega);clear f m p;go_wp2
   go_ret;exact⟨⟨-1,Z,by rw[E.out];rfl⟩,Z⟩
theorem Qfl (w:World) (O:Nat->Prop) (v:Value) (xs:List Int) (x:Int) (h:Row w O 3 v xs) (b:xs.length<=1000) :
 Calls prog 279 #[v,Iv x] w fun e w'=>e=.returned (.bool (Qd4 xs x))/\w'=w:=by
 have C:Hid (Calls prog 288 #[v,Iv x] w fun e w'=>(∃ r:Int,e=.returned (Iv r)/\decide (0<=r)=Qd4 xs x)/\w'=w):=Qjm w O v xs x h b;clear h;go_enter func279,ntmps279
 go_wp2_with fail
 refine(C.out).mono ?_
 rintro e w' ⟨⟨r,rfl,a⟩,rfl⟩;have R:Hid (decide (0<=r)=Qd4 xs x):=a;clear a;go_wp2
 all_goals
  go_ret;refine⟨?_,Z⟩
  rw[<-R.out];simp[*]
theorem Qn.setGiven {s:PSt}(h:Qn w b O s)(f:Row w O 3 v xs) (a:PSt.Ok { s with given:=xs }) :
 Qn (w.setCell ⟨b,1,none⟩ v) b O { s with given:=xs }:=by
 obtain⟨m,n,t,i,k,r,o,j,l,_⟩:=h
 obtain⟨q,d,_,_⟩:=id k
 refine⟨m,n,v,?_,k.setOther (Ne.symm (Zc i d (by decide))) _,?_,o,j,l,a⟩
 ·rw[Qh i];rfl
 ·refine f.keep (fun g e=>?_) f.2;obtain⟨c,p⟩:=f.block e
  exact Xd _ _ _ _ (Zc p i (by decide))
theorem Qn.setFresh {s:PSt}(h:Qn w b O s) (f:Int) (a:PSt.Ok { s with fresh:=f }) :
 Qn (w.setCell ⟨b,2,none⟩ (Iv f)) b O { s with fresh:=f }:=by
 obtain⟨p,n,o,j,l,e,q,k,m,_⟩:=h
 obtain⟨t,d,_,_⟩:=id l
 refine⟨p,n,o,?_,l.setOther (Ne.symm (Zc j d (by decide))) _,?_,q,k,m,a⟩
 ·rw[Qh j];rfl
 ·refine e.keep (fun g i=>?_) e.2;obtain⟨c,r⟩:=e.block i
  exact Xd _ _ _ _ (Zc r j (by decide))
theorem Qn.ownB {s:PSt}(h:Qn w b O s):O b:=by
 obtain⟨j,n,f,g,i,e,c,a,d,_⟩:=h
 exact c
theorem Qn.ok {s:PSt}(h:Qn w b O s):s.Ok:=by
 obtain⟨k,n,f,g,i,e,j,c,d,a⟩:=h
 exact a
theorem Qn.cells {s:PSt}(h:Qn w b O s):∃ gw n a len cap,
 w.cell? ⟨b,0,none⟩=some (.slice (some ⟨gw,0,none⟩) n n)/\w.cell? ⟨b,1,none⟩=some (.slice a len cap)/\w.cell? ⟨b,2,none⟩=some (Iv s.fresh)/\(∀ i,w.frozen? ⟨b,i,none⟩=false) /\
 Hid (n=16*s.pages/\len=s.given.length/\Row w O 3 (.slice a len cap) s.given):=by
 obtain⟨gw,n,j,c,k,d,l,g,f,e⟩:=h
 obtain⟨a,cap,rfl,_,_⟩:=d.form
 exact⟨gw,n,a,s.given.length,cap,Qb c 0 _ Z,Qb c 1 _ Z,Qb c 2 _ Z,fun i=>Qj c i,f,Z,d⟩
theorem QfO (w:World) (b:Nat) (O:Nat->Prop) (s:PSt) (k:Int) (h:Qn w b O s) :
 Calls prog 253 #[Pv b 0,Iv k] w fun e w'=>e=.returned (.bool (s.took k))/\w'=w:=by
 obtain⟨q,n,a,d,f,p,o,m,_,R⟩:=h.cells
 have g:=h.ok.len;have l:=h.ok.most;have j:=h.ok.high;have C:Hid (Calls prog 279 #[.slice a d f,Iv k] w fun e w'=>e=.returned (.bool (Qd4 s.given k))/\w'=w):=Qfl w O _ s.given k R.out.2.2 (by omega);clear h;by_cases c:0<=k
 ·by_cases i:k<s.fresh
  ·have E:Hid (s.took k=!Qd4 s.given k):=by show _=_;simp[PSt.took,c,i]
   cases hc:Qd4 s.given k
   all_goals
    rw[hc] at C E
    clear hc;go_enter func253,ntmps253
    go_wp2_with (go_at_call 279;refine(C.out).mono ?_;rintro e w' ⟨rfl,rfl⟩)
    go_ret;exact⟨by rw[E.out];rfl,Z⟩
  ·have E:Hid (s.took k=false):=by show _=_;simp[PSt.took,c,i]
   go_enter func253,ntmps253
   go_wp2
   go_ret;exact⟨by rw[E.out];rfl,Z⟩
 ·have E:Hid (s.took k=false):=by show _=_;simp[PSt.took,c]
  go_enter func253,ntmps253
  go_wp2
  go_ret;exact⟨by rw[E.out];rfl,Z⟩
theorem Qm3 (w:World) (b:Nat) (O:Nat->Prop) (s:PSt) (h:Qn w b O s) :
 Calls prog 35 #[Pv b 0] w fun e w'=>e=.returned (Iv s.free)/\∃ m,w'=w.drewN m:=by
 have C:Hid (∀ m,Calls prog 70 #[Pv b 0] (w.drewN m) fun e w'=>e=.returned (Iv s.pages)/\w'=w.drewN m):=fun m=>Qe7 (w.drewN m) b O s h;obtain⟨q,n,a,c,j,p,o,l,_,R⟩:=h.cells
 have d:=h.ok.len;have k:=h.ok.most;have f:=h.ok.high;have g:=h.ok.low;have i:c<=s.given.length:=by have:=R.out.2.1;omega
 have E:Hid (s.free=s.pages - s.fresh+c):=by show _=_;rw[PSt.free,R.out.2.1]
 clear h;go_enter func35,ntmps35
 go_wp2_with fail
 go_quiet ((go_at_call 70;exact Calls.quiet_of_same (C.out _)))
 go_wp2
 go_ret;refine⟨?_,_,Z⟩
 rw[E.out];rfl
theorem Qj4 (w:World) (b:Nat) (O:Nat->Prop) (s:PSt) (h:Qn w b O s) :
 Calls prog 291 #[Pv b 0] w fun e w'=>e=.returned (Iv s.nextK)/\Qn w' b O s.next/\Qz O O w w':=by
 have q:=h.ownB;have H:Hid (Qn w b O s):=h;obtain⟨Q,n,a,p,v,W,S,P,y,R⟩:=h.cells
 have V:=y 1;have U:=y 2;clear y;have j:=h.ok.len;have M:=h.ok.most;have J:=h.ok.high;have K:=h.ok.low;have i:p<=s.given.length:=by have:=R.out.2.1;omega
 have u:s.given.length<=p:=by have:=R.out.2.1;omega
 rcases List.eq_nil_or_concat s.given with f | ⟨l,k,d⟩
 ·have A:p=0:=by rw[f] at i;simpa using i
  have r:s.given.getLast?=none:=by rw[f];rfl
  subst A;have C:Hid (∀ m,Calls prog 70 #[Pv b 0] (w.drewN m) fun e w'=>e=.returned (Iv s.pages)/\w'=w.drewN m):=fun m=>Qe7 (w.drewN m) b O s h;by_cases c:s.fresh=s.pages
  ·have E:Hid (s.nextK=-1/\s.next=s):=by constructor<;>simp[PSt.nextK,PSt.next,r,c]
   have o:(s.fresh==(s.pages:Int))=true:=by simpa using c
   clear h f r i u j c;go_enter func291,ntmps291
   go_wp2_with fail
   go_quiet ((go_at_call 70;exact Calls.quiet_of_same (C.out _)))
   go_wp2
   go_ret;refine⟨?_,?_,(Qz.refl O _).drewN _⟩
   ·rw[E.out.1];rfl
   ·rw[E.out.2];exact H.out
  ·have E:Hid (s.nextK=s.fresh/\s.next={ s with fresh:=s.fresh+1 }):=by constructor<;>simp[PSt.nextK,PSt.next,r,c]
   have z:Hid (Qn (w.setCell ⟨b,2,none⟩ (Iv (s.fresh+1))) b O { s with fresh:=s.fresh+1 }):=h.setFresh _ (by rw[<-E.out.2];exact PSt.ok_next h.ok);have o:(s.fresh==(s.pages:Int))=false:=by simpa using c
   have L:s.fresh<s.pages:=by omega
   clear h f r i u j c;go_enter func291,ntmps291
   go_wp2_with fail
   go_quiet ((go_at_call 70;exact Calls.quiet_of_same (C.out _)))
   go_wp2
   go_ret;refine⟨?_,?_,?_⟩
   ·rw[E.out.1];simp
   ·rw[E.out.2];exact z.out
   ·exact((Qz.refl O _).drewN _).setCell q _
 ·have r:s.given.getLast?=some k:=by rw[d];simp
  have x:s.given.length=l.length+1:=by rw[d];simp
  have B:p=l.length+1:=by omega
  subst B;have E:Hid (s.nextK=k/\s.next={ s with given:=s.given.take (s.given.length - 1) }):=by constructor<;>simp[PSt.nextK,PSt.next,r]
  obtain⟨g,N,-,t,-⟩:=R.out.2.2.head (by omega)
  subst N
  have T:w.cell? ⟨g,l.length,none⟩=some (Iv k):=by
   have:=R.out.2.2.cell l.length (by omega)
   rw[this,d];simp[List.getD]
  have I:=R.out.2.2.init l.length (by omega)
  have z:Hid (Qn (w.setCell ⟨b,1,none⟩ (.slice (some ⟨g,0,none⟩) l.length v)) b O { s with given:=s.given.take (s.given.length - 1) }):=by
   have D:s.given.length - 1=l.length:=by omega
   rw[D]
   exact h.setGiven I (by have:=PSt.ok_next h.ok;rw[E.out.2,D] at this;exact this)
  have F:l.length+1<=v:=by omega
  have G:l.length<=64:=by omega
  generalize l.length=m at *;clear h i u j d x I r t;go_enter func291,ntmps291
  go_wp2
  go_ret;refine⟨?_,?_,?_⟩
  ·rw[E.out.1];rfl
  ·rw[E.out.2];exact z.out
  ·exact(Qz.refl O _).setCell q _
def noughts:List Value:=List.replicate 16 (Iv 0)
theorem Qn.wiped {s:PSt}{a:Nat}{l:Value}(q:w.heap[b]?=some (.cells #[.slice (some ⟨a,0,none⟩) n n,l,Iv s.fresh] 134 (0,0)))
 (r:w.rowIs a 2 n (fun i=>Iv (s.ws i))) (h:Row w O 3 l s.given) (u:O b) (p:O a) (t:n=16*s.pages) (f:s.Ok) (k:Nat) :
 Qn (w.setCells a (k*16) noughts) b O (s.wipe k):=by
 obtain⟨y,d,_,_⟩:=id r
 have o:b≠a:=Zc q d (by decide);refine⟨a,n,l,?_,?_,?_,u,p,t,PSt.ok_wipe f _⟩
 ·rw[QE o];exact q
 ·refine(QdX (Iv 0) 16 (k*16) _ _ r).congr fun j x=>?_
  by_cases e:k*16<=j/\j<k*16+16
  ·rw[Xs e];simp only[PSt.wipe];rw[Xs (by omega)]
  ·rw[Xr e];simp only[PSt.wipe];rw[Xr (by omega)]
 ·refine h.keep (fun g m=>?_) h.2;obtain⟨c,v⟩:=h.block m
  exact QE (Zc v d (by decide)) _ _ _
theorem under_int64s:prog.underlying 25=some (.slice 2):=by kernel_rfl
theorem under_ints:prog.underlying 76=some (.slice 3):=by kernel_rfl
theorem Qhd (w:World):(zeroValue 2).run prog w=.ok (Iv 0) w:=by kernel_rfl
theorem info_int64:(prog.info? 2).map (fun i=>(i.zero,i.size,i.bytes))=some (some (Iv 0),1,8):=by kernel_rfl
theorem info_int:(prog.info? 3).map (fun i=>(i.zero,i.size,i.bytes))=some (some (Iv 0),1,8):=by kernel_rfl
theorem Qk0 (w:World) (b:Nat) (O:Nat->Prop) (s:PSt) (k:Nat) (h:Qn w b O s) (x:k<s.pages) :
 Calls prog 292 #[Pv b 0,Iv k] w fun e w'=>e=.returned (.tuple #[])/\Qn w' b O (s.wipe k)/\Qz O O w w':=by
 obtain⟨f,n,y,m,i,q,v,d,l,a⟩:=h
 have z:w.cell? ⟨b,0,none⟩=some (.slice (some ⟨f,0,none⟩) n n):=Qb m 0 _ Z;have E:Hid (Qn (w.setCells f (k*16) noughts) b O (s.wipe k)):=Qn.wiped m i q v d l a k;have u:=a.most
 have p:∀ g c,(Builtin.clear_ #[25] g #[.slice (some ⟨f,k*16,none⟩) ((k+1)*16 - k*16) c]).run prog w=.ok (.tuple #[]) (w.setCells f (k*16) noughts):=by
  rw[show (k+1)*16 - k*16=16 by omega]
  exact fun g c=>Lib.run_clear_slice w _ _ g _ under_int64s Qhd Z Z f (k*16) 16 c (by omega) (fun j o=>by rw[i.cell (by omega)];rfl) (fun j o=>i.frozen _)
 have t:n<=16*s.pages:=by omega
 have r:16*s.pages<=n:=by omega
 clear l;go_enter func292,ntmps292
 go_wp2
 go_end0
 exact⟨Z,E.out,(Qz.refl O _).setCells d _ _ _⟩
theorem Qgz (w:World) (b:Nat) (O:Nat->Prop) (s:PSt) (h:Qn w b O s) :
 Calls prog 289 #[Pv b 0] w fun e w'=>e=.returned (Iv s.nextK)/\Qn w' b O s.take/\Qz O O w w':=by
 have g:=PSt.nextK_lt h.ok;have C:Hid (Calls prog 291 #[Pv b 0] w fun e w'=>e=.returned (Iv s.nextK)/\Qn w' b O s.next/\Qz O O w w'):=Qj4 w b O s h;clear h;obtain⟨k,a⟩:∃ k,s.nextK=k:=⟨_,Z⟩
 rw[a] at C g |-
 by_cases c:k<0
 ·have E:Hid (s.take=s.next):=by show _=_;simp[PSt.take,a,c]
  clear a;go_enter func289,ntmps289
  go_wp2_with fail
  refine(C.out).mono ?_
  rintro e w' ⟨rfl,d,f⟩;go_wp2
  go_ret;exact⟨Z,by rw[E.out];exact d,f⟩
 ·have E:Hid (s.take=s.next.wipe k):=by show _=_;simp[PSt.take,a,c]
  obtain⟨m,rfl⟩:=Xc (show 0<=k by omega)
  clear a;go_enter func289,ntmps289
  go_wp2_with fail
  refine(C.out).mono ?_
  rintro e w' ⟨rfl,d,f⟩;go_wp2_with fail
  refine(Qk0 w' b O s.next m d (by simp;omega)).mono ?_
  rintro e i ⟨rfl,j,l⟩;go_wp2
  go_ret;exact⟨Z,by rw[E.out];exact j,f.trans l⟩
def Q1 (O:Nat->Prop) (w w':World):Nat->Prop:=fun k=>(O k\/w.heap.size<=k)/\k<w'.heap.size
theorem QhO {s:PSt}{k:Int}{r:Nat}{f:Value}{o:Obj}(B:w.heap[b]?=some (.cells #[.slice (some ⟨r,0,none⟩) n n,f,Iv s.fresh] 134 (0,0)))
 (M:w.rowIs r 2 n (fun i=>Iv (s.ws i))) (C:Row w O 3 f s.given) (L:O b) (H:O r) (F:n=16*s.pages) (I:PSt.Ok { s with given:=s.given++[k] })
 (P:w1.ownsRow 0 3 1 (.slice (some ⟨g,0,none⟩) (s.given.length+1) cap) (s.given.length+1) (s.given.map (Value.int .i64)++[Iv k]))
 (a:(w.alloc o).grownBy w1 f.ownBlock) (y:f.ownBlock=some g\/g=w.heap.size+1) (G:g<w1.heap.size) :
 w1.cell? ⟨b,1,none⟩=some f/\w1.frozen? ⟨b,1,none⟩=false/\Qn (w1.setCell ⟨b,1,none⟩ (.slice (some ⟨g,0,none⟩) (s.given.length+1) cap)) b (Q1 O w w1) { s with given:=s.given++[k] } /\
 Qz O (Q1 O w w1) w (w1.setCell ⟨b,1,none⟩ (.slice (some ⟨g,0,none⟩) (s.given.length+1) cap)):=by
 have u:=XC B
 have t:f.ownBlock≠some b:=fun e=>by
  obtain⟨c,K⟩:=C.block e
  exact absurd Z (Zc K B (by decide))
 obtain⟨R,m,_,_⟩:=id M
 have v:=XC m
 have J:f.ownBlock≠some r:=fun e=>by
  obtain⟨c,K⟩:=C.block e
  exact absurd Z (Zc K m (by decide))
 have d:∀ x,x<w.heap.size->f.ownBlock≠some x->w1.heap[x]?=w.heap[x]?:=fun x j E =>
  (a.block x (by simp;omega) (fun e=>E e.symm)).trans (Below.heap_alloc _ _ _ j)
 have q:=(d b u t).trans B;have Q:w.heap.size+1<=w1.heap.size:=by have:=a.size;simpa using this
 have z:∀ x,O x\/w.heap.size<=x->x<w1.heap.size->Q1 O w w1 x:=fun x h A=>⟨h,A⟩;have l:=C.pushed (o:=o) P y G (Q1 O w w1) z;refine⟨Qb q 1 _ Z,Qj q 1,?_,?_⟩
 ·have D:b≠g:=by
   intro e;subst e;rcases y with A | A
   ·exact t A
   ·omega
  refine⟨r,n,.slice (some ⟨g,0,none⟩) (s.given.length+1) cap,?_,?_,?_,z _ (Or.inl L) (by omega),z _ (Or.inl H) (by omega),F,I⟩
  ·rw[Qh q];rfl
  ·refine(M.of_block (d r v J)).setOther ?_ _
   exact Ne.symm (Zc B m (by decide))
  ·refine l.keep (fun x j=>?_) l.2;simp[Value.ownBlock] at j;subst j
   exact Xd _ _ _ _ (Ne.symm D)
 ·have N:Qz O (Q1 O w w1) w w1:=by
   refine⟨a.os,a.tape,a.output,by omega,fun x j F=>?_,fun x j=>j.1⟩
   exact d x j (fun e=>F (C.2 x e))
  exact N.setCell (p:=⟨b,1,none⟩) (z b (Or.inl L) (by omega)) _
theorem Qkz (w:World) (b:Nat) (O:Nat->Prop) (s:PSt) (k:Int) (h:Qn w b O s) :
 Calls prog 218 #[Pv b 0,Iv k] w fun e w'=>e=.returned (.bool (s.took k))/\Qn w' b (Q1 O w w') (s.give k)/\Qz O (Q1 O w w') w w':=by
 have C:Hid (Calls prog 253 #[Pv b 0,Iv k] w fun e w'=>e=.returned (.bool (s.took k))/\w'=w):=QfO w b O s k h
 cases ht:s.took k with
 | false =>
   rw[ht] at C
   have E:Hid (s.give k=s):=by show _=_;simp[PSt.give,ht]
   have H:Hid (Qn w b O s):=h;clear h ht;go_enter func218,ntmps218
   go_wp2_with (go_at_call 253;refine(C.out).mono ?_;rintro e w' ⟨rfl,rfl⟩)
   go_ret;refine⟨Z,?_,?_⟩
   ·rw[E.out]
    obtain⟨M,n,F,t,v,p,G,r,A,y⟩:=H.out
    exact⟨M,n,F,t,v,p.keep (fun _ _=>rfl) (fun g x=>⟨Or.inl (p.2 g x),p.lt x⟩),⟨Or.inl G,XC t⟩,⟨Or.inl r,v.lt⟩,A,y⟩
   ·exact⟨Z,Z,Z,Ze,fun _ _ _=>rfl,fun k U=>U.1⟩
 | true =>
   rw[ht] at C
   have l:=PSt.ok_give h.ok k;have E:Hid (s.give k={ s with given:=s.given++[k] }):=by show _=_;simp[PSt.give,ht]
   have u:=h.ok.len;have V:=h.ok.most;have R:=h.ok.high;obtain⟨M,n,F,t,v,p,G,r,A,y⟩:=h
   have S:w.cell? ⟨b,1,none⟩=some F:=Qb t 1 _ Z;obtain⟨a,q,rfl,_,_⟩:=p.form
   have j:=p.1;obtain⟨T,W,B,J,K⟩:=info_parts info_int
   have P:Hid (∀ g c d,d.ownsRow 0 3 1 (.slice (some ⟨g,0,none⟩) (s.given.length+1) c) (s.given.length+1) (s.given.map (Value.int .i64)++[Iv k]) ->
    (w.alloc (.cells #[Iv k] 3)).grownBy d (Value.slice a s.given.length q).ownBlock->((Value.slice a s.given.length q).ownBlock=some g\/g=w.heap.size+1)->g<d.heap.size ->
    d.cell? ⟨b,1,none⟩=some (.slice a s.given.length q)/\d.frozen? ⟨b,1,none⟩=false/\Qn (d.setCell ⟨b,1,none⟩ (.slice (some ⟨g,0,none⟩) (s.given.length+1) c)) b (Q1 O w d) (s.give k) /\
    Qz O (Q1 O w d) w (d.setCell ⟨b,1,none⟩ (.slice (some ⟨g,0,none⟩) (s.given.length+1) c))):=by
    intro g c d z f o m;rw[E.out]
    exact QhO t v p G r A (by rw[E.out] at l;exact l) z f o m
   obtain⟨i,N⟩:∃ i,s.given.length=i:=⟨_,Z⟩
   rw[N] at S j u P
   clear t v p A N l ht E;go_enter func218,ntmps218
   go_wp2_with (first
    | (go_at_call 253;refine(C.out).mono ?_;rintro e w' ⟨rfl,I⟩;have I:=I.symm;subst I)
    | (at_builtin;refine wpList_append_lies _ Z (.tmp 13) (.tmp 15) 76 Z 0 3 T (.int .i64 0) 1 8 under_ints W B J K Z (by decide) _ _ _ Z (j.alloc _) ⟨w.heap.size,0,none⟩ 1 1 [.int .i64 k] Z Z (Qgx _ _ _) (QcU _) (by decide) (by unfold maxLen;omega) (by omega) (Xb _) (w.heap.size+1) (by simp) ?_))
   intro g c d z f o m;obtain⟨d1,X,Q,L⟩:=P.out g c d z f o m
   have D:Hid (Qn (d.setCell ⟨b,1,none⟩ (.slice (some ⟨g,0,none⟩) (i+1) c)) b (Q1 O w d) (s.give k)/\Qz O (Q1 O w d) w (d.setCell ⟨b,1,none⟩ (.slice (some ⟨g,0,none⟩) (i+1) c))):=⟨Q,L⟩;clear Q L z f o m j P;go_wp2
   go_ret;refine⟨Z,?_,?_⟩
   ·have e:Q1 O w (d.setCell ⟨b,1,none⟩ (.slice (some ⟨g,0,none⟩) (i+1) c))=Q1 O w d:=by unfold Q1;simp
    rw[e];exact D.out.1
   ·have e:Q1 O w (d.setCell ⟨b,1,none⟩ (.slice (some ⟨g,0,none⟩) (i+1) c))=Q1 O w d:=by unfold Q1;simp
    rw[e];exact D.out.2
theorem Xy:type_of% @bodyPost_ret:=@bodyPost_ret
theorem Qn.step {P P':Nat->Prop}{s:PSt}(h:Qn w b O s) (k:Qz P P' w w') (d:∀ x,O x->¬ P x):Qn w' b O s:=by
 obtain⟨e,n,l,m,f,j,g,a,i,c⟩:=h
 exact⟨e,n,l,k.keep m (d b g),f.of_block (k.block e f.lt (d e a)),j.step k d,g,a,i,c⟩
theorem Qz.of_alloc (P:Nat->Prop) (w:World) (o:Obj):Qz P P w (w.alloc o):=(Qz.refl P w).alloc o
theorem Qmw (w:World) (n:Int) (h:n<0\/64<n) :
 Calls prog 109 #[Iv n] w fun e w'=>e=.returned (.tuple #[.pointer none,.agg #[Iv 1,Iv (-1)]])/\Below w.heap.size w w':=by
 rcases h with h | h
 ·go_enter func109,ntmps109
  go_wp2
  exact Xy (v:=.tuple #[.pointer none,.agg #[Iv 1,Iv (-1)]]) (by simp[results,results109,go_sem]) Z ⟨Z,(Zr.alloc Ze _)⟩
 ·have a:¬ n<0:=by omega
  go_enter func109,ntmps109
  go_wp2
  exact Xy (v:=.tuple #[.pointer none,.agg #[Iv 1,Iv (-1)]]) (by simp[results,results109,go_sem]) Z ⟨Z,(Zr.alloc Ze _)⟩
theorem Qj2 (w:World) (n:Nat) (h:n<=64) (o:Obj):Qn (((w.alloc o).alloc (.cells (madeCells #[Iv 0] (n*16)) 2)).alloc (.cells #[.slice (some ⟨w.heap.size+1,0,none⟩) (n*16) (n*16),Nv,Iv 0] 134)) (w.heap.size+1+1)
 (fun x=>w.heap.size<=x/\x<(((w.alloc o).alloc (.cells (madeCells #[Iv 0] (n*16)) 2)).alloc (.cells #[.slice (some ⟨w.heap.size+1,0,none⟩) (n*16) (n*16),Nv,Iv 0] 134)).heap.size) (PSt.new n):=by
 refine⟨w.heap.size+1,n*16,Nv,?_,?_,Row.nil _ _ _,by simp<;>omega,by simp<;>omega,by simp[PSt.new]<;>omega,PSt.ok_new n h⟩
 ·have:=Qe ((w.alloc o).alloc (.cells (madeCells #[Iv 0] (n*16)) 2)) #[.slice (some ⟨w.heap.size+1,0,none⟩) (n*16) (n*16),Nv,Iv 0] 134
  simp only[World.size_alloc] at this
  exact this
 ·have:=(World.rowIs_made (w.alloc o) (Iv 0) (n*16) 2).alloc (.cells #[.slice (some ⟨w.heap.size+1,0,none⟩) (n*16) (n*16),Nv,Iv 0] 134)
  simp only[World.size_alloc] at this
  exact this
theorem Ql8 (w:World) (n:Nat) (h:n<=64) :
 Calls prog 109 #[Iv n] w fun e w'=>∃ b,e=.returned (.tuple #[Pv b 0,.agg #[Iv 0,Iv 0]])/\Qn w' b (fun x=>w.heap.size<=x/\x<w'.heap.size) (PSt.new n)/\Below w.heap.size w w':=by
 have a:=run_make_row' (P:=prog) 25 2 (Iv 0) 8 under_int64s info_int64 Z .i64 .i64 (n*16) (by omega) (by omega);rw[show ((n*16:Nat):Int)=(n:Int)*16 by omega] at a
 go_enter func109,ntmps109
 go_wp2
 exact Xy (v:=.tuple #[Pv (w.heap.size+1+1) 0,.agg #[Iv 0,Iv 0]]) (by simp[results,results109,go_sem]) Z
  ⟨_,Z,Qj2 w n h _,((Zr.alloc Ze _).alloc (by simp) _).alloc (by simp;omega) _⟩
def QaL (w:World) (g:Nat) (O:Nat->Prop) (r:Reg):Prop :=
 ∃ v,w.heap[g]?=some (.cells #[v,Iv r.left] 285 (0,0))/\Row w O 3 v r.pages/\O g
theorem QaL.step {w w':World}{g:Nat}{O P P':Nat->Prop}{r:Reg}(h:QaL w g O r) (k:Qz P P' w w') (a:∀ x,O x->¬ P x):QaL w' g O r:=by
 obtain⟨v,d,c,b⟩:=h
 exact⟨v,k.keep d (a g b),c.step k a,b⟩
theorem Row.mono {w:World}{O O':Nat->Prop}(h:Row w O t v xs) (b:∀ x,O x->x<w.heap.size->O' x):Row w O' t v xs:=⟨h.1,fun g a=>b g (h.2 g a) (h.lt a)⟩
theorem QaL.mono {w:World}{g:Nat}{O O':Nat->Prop}{r:Reg}(h:QaL w g O r) (a:∀ x,O x->x<w.heap.size->O' x):QaL w g O' r:=by
 obtain⟨v,b,c,d⟩:=h
 exact⟨v,b,c.mono a,a g d (XC b)⟩
theorem Qn.mono {w:World}{b:Nat}{O O':Nat->Prop}{s:PSt}(h:Qn w b O s) (c:∀ x,O x->x<w.heap.size->O' x):Qn w b O' s:=by
 obtain⟨g,n,k,e,f,j,l,d,i,a⟩:=h
 exact⟨g,n,k,e,f,j.mono c,c b l (XC e),c g d f.lt,i,a⟩
def QaV (o:Option Reg) (g:Nat):Value:=.pointer (match o with | some _=>some ⟨g,0,none⟩ | none=>none)
def Qmd (bp:Nat) (reg:Nat->Option Reg) (g:Nat->Nat):Nat->Value:=fun i=>if i=0 then Pv bp 0 else QaV (reg (i - 1)) (g (i - 1))
structure Zw (w:World) (b:Nat) (O:Nat->Prop) (e:Est) (L:Nat->Nat) (bp:Nat) (g:Nat->Nat):Prop where
 row:w.rowIs b 73 17 (Qmd bp e.reg g)
 own:L b=1
 pool:Qn w bp (fun x=>L x=2) e.p
 reg:∀ k r,e.reg k=some r->QaL w (g k) (fun x=>L x=k+3) r
 all:∀ x,L x≠0->O x/\x<w.heap.size
def QU (w:World) (b bp:Nat) (O:Nat->Prop) (e:Est):Prop:=∃ L g,Zw w b O e L bp g
def Qdt (w:World) (b bp:Nat) (O:Nat->Prop) (e:Est):Prop:=QU w b bp O e/\e.Ok
def QbD (L:Nat->Nat) (c:Nat) (w w':World):Nat->Nat:=fun x=>if L x=c\/(w.heap.size<=x/\x<w'.heap.size) then c else L x
section
variable {w w':World}{b bp:Nat}{O O':Nat->Prop}{e:Est}{L:Nat->Nat}{g:Nat->Nat}{c:Nat}
theorem Zh (b:∀ x,L x≠0->O x/\x<w.heap.size)(a:d≠c) (f:d≠0) (x:Nat):QbD L c w w' x=d↔L x=d:=by
 unfold QbD;constructor
 ·intro h;split at h
  ·exact absurd h.symm a
  ·exact h
 ·intro h;rw[Xr]
  ·exact h
  ·rintro (e | e)
   ·omega
   ·have:=(b x (by omega)).2;omega
theorem QeS (d:∀ x,L x≠0->O x/\x<w.heap.size) (k:Qz (fun x=>L x=c) O' w w') (x:Nat) (a:O' x) (b:x<w'.heap.size):QbD L c w w' x=c:=by
 unfold QbD;rw[Xs]
 rcases k.own x a with h | h
 ·exact Or.inl h
 ·exact Or.inr ⟨h,b⟩
theorem QcJ (d:∀ x,L x≠0->O x/\x<w.heap.size) (f:c≠0) (e:w.heap.size<=w'.heap.size) (x:Nat) (b:QbD L c w w' x≠0):Q1 O w w' x/\x<w'.heap.size:=by
 have a:(O x\/w.heap.size<=x)/\x<w'.heap.size:=by
  unfold QbD at b;split at b
  ·rename_i h
   rcases h with h | h
   ·have:=d x (by omega);exact⟨Or.inl this.1,by omega⟩
   ·exact⟨Or.inr h.1,h.2⟩
  ·have:=d x b;exact⟨Or.inl this.1,by omega⟩
 exact⟨a,a.2⟩
theorem Qdf (d:∀ x,L x≠0->O x/\x<w.heap.size) (e:c≠0) (k:Qz (fun x=>L x=c) O' w w'):Qz O (Q1 O w w') w w' :=
 ⟨k.os,k.tape,k.output,k.size,fun x a b=>k.block x a (fun h=>b (d x (by show L x≠0;rw[h];exact e)).1),fun x a=>a.1⟩
theorem Zw.stepPool (h:Zw w b O e L bp g){d:PSt}(f:Qn w' bp O' d) (a:Qz (fun x=>L x=2) O' w w') :
 Zw w' b (Q1 O w w') (e.withP d) (QbD L 2 w w') bp g/\Qz O (Q1 O w w') w w':=by
 refine⟨⟨?_,?_,?_,?_,?_⟩,Qdf h.all (by decide) a⟩
 ·exact h.row.of_block (a.block b h.row.lt (by rw[h.own];decide))
 ·exact(Zh h.all (by decide) (by decide) b).2 h.own
 ·exact f.mono (fun x c j=>QeS h.all a x c j)
 ·intro k r i;exact((h.reg k r i).step a (fun x l m=>by omega)).mono (fun x c _=>(Zh h.all (by omega) (by omega) x).2 c)
 ·exact QcJ h.all (by decide) a.size
theorem Zw.stepReg (h:Zw w b O e L bp g){r r':Reg}(n:e.reg j=some r) (t:QaL w' (g j) O' r') (a:Qz (fun x=>L x=j+3) O' w w') :
 Zw w' b (Q1 O w w') (e.set j (some r')) (QbD L (j+3) w w') bp g/\Qz O (Q1 O w w') w w':=by
 refine⟨⟨?_,?_,?_,?_,?_⟩,Qdf h.all (by omega) a⟩
 ·refine(h.row.of_block (a.block b h.row.lt (by rw[h.own];omega))).congr fun i u=>?_
  unfold Qmd QaV Est.set;by_cases l:i=0
  ·simp[l]
  ·by_cases d:i - 1=j
   ·simp[l,d,n]
   ·simp[l,d]
 ·exact(Zh h.all (by omega) (by decide) b).2 h.own
 ·exact(h.pool.step a (fun x o p=>by omega)).mono (fun x c _=>(Zh h.all (by omega) (by decide) x).2 c)
 ·intro k q m;by_cases d:k=j
  ·subst d
   have:q=r':=by simpa[Est.set] using m.symm
   subst this;exact t.mono (fun x c s=>QeS h.all a x c s)
  ·have f:e.reg k=some q:=by simpa[Est.set,d] using m
   exact((h.reg k q f).step a (fun x o p=>by omega)).mono (fun x c _=>(Zh h.all (by omega) (by omega) x).2 c)
 ·exact QcJ h.all (by omega) a.size
end
theorem QU.step {w w':World}{b d:Nat}{O P P':Nat->Prop}{e:Est}(h:QU w b d O e) (k:Qz P P' w w') (f:∀ x,O x->¬ P x):QU w' b d O e:=by
 obtain⟨L,g,h⟩:=h
 have c:∀ x,L x≠0->¬ P x:=fun x a=>f x (h.all x a).1;refine⟨L,g,⟨?_,h.own,?_,?_,?_⟩⟩
 ·exact h.row.of_block (k.block b h.row.lt (c b (by rw[h.own];decide)))
 ·exact h.pool.step k (fun x a=>c x (by omega))
 ·exact fun j r i=>(h.reg j r i).step k (fun x a=>c x (by omega))
 ·intro x a
  have:=h.all x a
  have:=k.size
  exact⟨this |> fun _=>(h.all x a).1,by omega⟩
theorem Qdt.step {w w':World}{b a:Nat}{O P P':Nat->Prop}{e:Est}(h:Qdt w b a O e) (k:Qz P P' w w') (c:∀ x,O x->¬ P x):Qdt w' b a O e:=⟨h.1.step k c,h.2⟩
theorem QU.mono {w:World}{b c:Nat}{O O':Nat->Prop}{e:Est}(h:QU w b c O e) (d:∀ x,O x->x<w.heap.size->O' x):QU w b c O' e:=by
 obtain⟨L,g,h⟩:=h
 exact⟨L,g,⟨h.row,h.own,h.pool,h.reg,fun x a=>⟨d x (h.all x a).1 (h.all x a).2,(h.all x a).2⟩⟩⟩
theorem Qb8 {O:Nat->Prop}{w w' a:World}(d:w.heap.size<=w'.heap.size) (x:Nat) (h:Q1 (Q1 O w w') w' a x):Q1 O w a x:=by
 obtain⟨b,c⟩:=h
 refine⟨?_,c⟩
 rcases b with b | b
 ·exact b.1
 ·exact Or.inr (by omega)
theorem QeB {O:Nat->Prop}{w:World}(x:Nat) (h:O x) (a:x<w.heap.size):Q1 O w w x:=⟨Or.inl h,a⟩
theorem Qz.trans_grow {O:Nat->Prop}{a b c:World}(h:Qz O (Q1 O a b) a b) (k:Qz (Q1 O a b) (Q1 (Q1 O a b) b c) b c):Qz O (Q1 O a c) a c :=
 ⟨k.os.trans h.os,k.tape.trans h.tape,k.output.trans h.output,Zt h.size k.size,(h.trans k).block,fun x d=>d.1⟩
theorem Qz.refl_grow (O:Nat->Prop) (w:World):Qz O (Q1 O w w) w w:=⟨Z,Z,Z,Ze,fun _ _ _=>rfl,fun _ h=>h.1⟩
theorem Qc {p:Prop}(h:p):Hid p:=h
theorem ZU {z:Nat}{xs:List Value}(h:w.ownsRow 0 e z v n xs){x:Nat}(a:v.ownBlock=some x):∃ c,w.heap[x]?=some (.cells c e (0,0)):=by
 rcases h.2 with ⟨rfl,_⟩|⟨g,d,b,rfl,_,f,_⟩
 ·simp[Value.ownBlock] at a
 ·simp[Value.ownBlock] at a;subst a;exact⟨b,f⟩
theorem QZ {z:Nat}{xs:List Value}(h:w.ownsRow 0 e z v n xs) (d:∀ x,v.ownBlock=some x->w'.heap[x]?=w.heap[x]?):w'.ownsRow 0 e z v n xs:=by
 refine⟨h.1,?_⟩
 rcases h.2 with f | ⟨g,b,a,rfl,c,i,r⟩
 ·exact .inl f
 ·exact .inr ⟨g,b,a,Z,c,(d g Z).trans i,r⟩
structure HG where
 bm:Nat
 D:DataW Unit
 g:Nat->Nat
 S:Nat->Nat->Prop
theorem ZO (w:World) (o:Obj):Below w.heap.size w (w.alloc o):=(Below.refl _ w).alloc Ze _
theorem Qai (h:Below B w w1) (n:Nat):Below B w (w1.drewN n):=⟨h.os,h.tape,h.output,h.size,h.block⟩
theorem Qk8 (w:World) (o a:Obj):Below w.heap.size w ((w.alloc o).alloc a):=(ZO w o).alloc (by simp) _
theorem QnO (w:World) (c:Array Value) (t:TypeId) (a:Obj):((w.alloc (.cells c t)).alloc a).heap[w.heap.size]?=some (.cells c t (0,0)):=by
 rw[Below.heap_alloc _ _ _ (by simp)];exact Qe w c t
theorem QmU (w:World) (o:Obj) (c:Array Value) (t:TypeId):((w.alloc o).alloc (.cells c t)).heap[w.heap.size+1]?=some (.cells c t (0,0)):=by
 have:=Qe (w.alloc o) c t
 simpa using this
theorem Qa1 {wr:World}{c:Array Value}{a:TypeId}(h:wr.heap[B]?=some (.cells c a (0,0))) (b:Below wr.heap.size wr w):w.heap[B]?=some (.cells c a (0,0)) :=
 (b.block B (XC h)).trans h
abbrev Blk (w:World) (B:Nat) (c:Array Value) (t:TypeId):Prop:=w.heap[B]?=some (.cells c t (0,0))
theorem Blk.below {c:Array Value}(h:Blk w B c t) (b:Below w.heap.size w w'):Blk w' B c t:=Qa1 h b
theorem Blk.alloc {c:Array Value}(h:Blk w B c t) (o:Obj):Blk (w.alloc o) B c t:=Qa1 h ((Below.refl _ w).alloc Ze _)
theorem Blk.new (w:World) (c:Array Value) (t:TypeId):Blk (w.alloc (.cells c t)) w.heap.size c t:=Qe w c t
theorem Blk.lt {c:Array Value}(h:Blk w B c t):B<w.heap.size:=XC h
theorem Zd (w:World) (o:Obj):Below w.heap.size w (w.alloc o):=(Below.refl _ w).alloc Ze _
theorem QhD (w:World) (o p:Obj):Below w.heap.size w ((w.alloc o).alloc p):=(Zd w o).alloc (by simp) _
theorem Blk.new1 (w:World) (c d:Array Value) (t u:TypeId):Blk ((w.alloc (.cells c t)).alloc (.cells d u)) w.heap.size c t:=(Blk.new w c t).alloc _
theorem Blk.new2 (w:World) (o:Obj) (d:Array Value) (u:TypeId):Blk ((w.alloc o).alloc (.cells d u)) (w.heap.size+1) d u:=by
 have:=Blk.new (w.alloc o) d u
 simpa using this
abbrev Qfr (b:Nat):Value:=Pv b 0
abbrev Chg (b:Nat) (w w':World):Prop:=Qz (fun k=>k=b) (fun k=>k=b) w w'
section
variable {b:Nat}{w w' w1 w2:World}
theorem Chg.refl (b:Nat) (w:World):Chg b w w:=Qz.refl _ _
theorem Chg.below (h:Below w.heap.size w w'):Chg b w w':=⟨h.os,h.tape,h.output,h.size,fun k a _=>h.block k a,fun k a=>.inl a⟩
theorem Chg.set (w:World) (o:Nat) (v:Value) (h:b<w.heap.size):Chg b w (w.setCell ⟨b,o,none⟩ v) :=
 ⟨Z,Z,Z,by simp,fun k _ a=>Xd _ _ _ _ a,fun k a=>.inl a⟩
theorem Chg.last (h:Below s w w1) (c:Chg b w1 w2) (e:s<=b) (d:s<=w1.heap.size):Below s w w2 :=
 ⟨c.os.trans h.os,c.tape.trans h.tape,c.output.trans h.output,Zt h.size c.size,fun k a=>(c.block k (by omega) (by omega)).trans (h.block k a)⟩
end
theorem Blk.chg {w w':World}{b:Nat}{c:Array Value}(h:Blk w B c t) (k:Chg b w w') (a:B≠b):Blk w' B c t:=(k.block B h.lt a).trans h
theorem Chg.allocP {b:Nat}{w w':World}(c:Chg b w w') (o:Obj):Chg b w (w'.alloc o):=c.trans (Chg.below (Zd _ _))
theorem Chg.grownP {b:Nat}{w w1 f:World}{a:Option Nat}(c:Chg b w w1) (g:w1.grownBy f a) (i:∀ k,a=some k->w.heap.size<=k):Chg b w f :=
 ⟨g.os.trans c.os,g.tape.trans c.tape,g.output.trans c.output,Zt c.size g.size,fun k d h=>(g.block k (Zl d c.size) (fun e=>by have:=i k e.symm;omega)).trans (c.block k d h),fun k d=>.inl d⟩
theorem Qap.formP {α:Type}{A:Lay α}{w:World}{lo:Nat}{l:List α}{xs:List Value}(h:Qap A t w lo v l xs):∃ a c,v=.slice a l.length c:=by
 obtain⟨a,c,e,_⟩:=h.lay
 simp at e
 exact⟨a,c,e⟩
theorem pUnderI:prog.underlying 76=some (.slice 3):=by kernel_rfl
theorem pInfoI0:(prog.info? 3).map (fun i=>(i.zero,i.size,i.bytes))=some (some (Iv 0),1,8):=by kernel_rfl
theorem pInfoI:∃ i,prog.info? 3=some i/\i.zero=some (Iv 0)/\i.size=1/\i.bytes=8:=by
 have h:=pInfoI0
 cases e:prog.info? 3 with
 | none=>rw[e] at h;cases h
 | some i =>
   rw[e] at h
   simp only[Option.map_some,Option.some.injEq,Prod.mk.injEq] at h
   exact⟨i,Z,h.1,h.2.1,h.2.2⟩
theorem pUnderT:prog.underlying 80=some (.slice 105):=by kernel_rfl
theorem pInfoT0:(prog.info? 105).map (fun i=>(i.zero,i.size,i.bytes))=some (some (.agg #[Iv 0,Iv 0,Nv]),3,40):=by kernel_rfl
theorem pInfoT:∃ i,prog.info? 105=some i/\i.zero=some (.agg #[Iv 0,Iv 0,Nv])/\i.size=3/\i.bytes=40:=by
 have h:=pInfoT0
 cases e:prog.info? 105 with
 | none=>rw[e] at h;cases h
 | some i =>
   rw[e] at h
   simp only[Option.map_some,Option.some.injEq,Prod.mk.injEq] at h
   exact⟨i,Z,h.1,h.2.1,h.2.2⟩
theorem QjN (w:World) (c:List Value) (t:TypeId):∀ (j:Nat) (u:Value),c[j]?=some u->(w.alloc (.cells c.toArray t)).cell? ((⟨w.heap.size,0,none⟩:Addr).add j)=some u:=by
 intro j u h;have a:c.toArray[j]?=some u:=by simpa using h
 rw[Go.WideShapes.add_plain,XK]
 exact Qb (Qe w c.toArray t) j u a
theorem Qnr (n:Int):∀ u∈[Value.int .i64 n],u.oneCell'=true:=by
 intro u h;simp at h
 subst h;rfl
theorem QlB (k r:Int) (a:Option Addr) (l c:Nat):∀ u∈[Value.int .i64 k,Value.int .i64 r,Value.slice a l c],u.oneCell'=true:=by
 intro u h;simp at h
 rcases h with rfl | rfl | rfl<;>rfl
theorem Blk.set3 {w:World}{d p1 f:Value}(h:Blk w R #[d,p1,f] t) (a b c:Value):Blk (((w.setCell ⟨R,0,none⟩ a).setCell ⟨R,1,none⟩ b).setCell ⟨R,2,none⟩ c) R #[a,b,c] t:=by
 have e:=Qh (Qh (Qh h 0 a) 1 b) 2 c;simpa using e
theorem Blk.sets {R:Nat}{T:TypeId}:∀ (vs us zs:List Value) (w:World),vs.length=zs.length->Blk w R (us++zs).toArray T->Blk (w.setCells R us.length vs) R (us++vs).toArray T
 | [],us,zs,w,hl,h=>by
   have:zs=[]:=Xf.1 hl.symm
   subst this;exact h
 | v::vs,us,zs,w,hl,h=>by
   cases zs with
   | nil=>simp at hl
   | cons z zs =>
     have a:=Qh h us.length v
     have b:((us++z::zs).toArray.setIfInBounds us.length v)=((us++[v])++zs).toArray:=by
      apply Array.ext'
      simp[List.set_append]
     rw[b] at a
     have:=Blk.sets vs (us++[v]) zs (w.setCell ⟨R,us.length,none⟩ v) (by simpa using hl) a
     simpa[World.setCells] using this
theorem Qlb {w:World}{a p1 b:Value}(h:Blk w B #[a,p1,b] t):w.cell? ⟨B,0,none⟩=some a/\w.cell? ⟨B,1,none⟩=some p1/\w.cell? ⟨B,2,none⟩=some b:=⟨Qb h 0 _ Z,Qb h 1 _ Z,Qb h 2 _ Z⟩
theorem Qmj {w:World}{b p1 c a:Value}(h:Blk w B #[b,p1,c,a] t):w.cell? ⟨B,0,none⟩=some b/\w.cell? ⟨B,1,none⟩=some p1/\w.cell? ⟨B,2,none⟩=some c/\w.cell? ⟨B,3,none⟩=some a:=⟨Qb h 0 _ Z,Qb h 1 _ Z,Qb h 2 _ Z,Qb h 3 _ Z⟩
theorem pSizeN:(prog.info? 78).map (·.size)=some 8:=by kernel_rfl
theorem Blk.range {w:World}{T:TypeId}{c:List Value}(h:Blk w g c.toArray T):w.rangeAt g 0 c:=fun j v a=>by
 rw[XK]
 exact Qb h j v (by simpa using a)
theorem Blk.there {w:World}{T:TypeId}{o:Nat}{c:Array Value}(h:Blk w g c T) (b:o+n<=c.size):w.there g o n:=fun j a =>
 ⟨by rw[Qb h (o+j) _ (Xj (by omega))];rfl,Qj h (o+j)⟩
theorem pSizeB:(prog.info? 86).map (·.size)=some 12:=by kernel_rfl
theorem pUnderB:prog.underlying 87=some (.slice 86):=by kernel_rfl
theorem pInfoB0:(prog.info? 86).map (fun i=>(i.zero,i.size,i.bytes))=some (some (.agg #[Iv 0,Nv,Nv,Iv 0,Iv 0,Iv 0,Nv,Nv,Iv 0,Nv,Nv,Nv]),12,208):=by kernel_rfl
theorem pInfoB:∃ i,prog.info? 86=some i/\i.zero=some (.agg #[Iv 0,Nv,Nv,Iv 0,Iv 0,Iv 0,Nv,Nv,Iv 0,Nv,Nv,Nv])/\i.size=12/\i.bytes=208:=by
 have h:=pInfoB0
 cases e:prog.info? 86 with
 | none=>rw[e] at h;cases h
 | some i =>
   rw[e] at h
   simp only[Option.map_some,Option.some.injEq,Prod.mk.injEq] at h
   exact⟨i,Z,h.1,h.2.1,h.2.2⟩
theorem pUnderF:prog.underlying 22=some (.slice 89):=by kernel_rfl
theorem pInfoF0:(prog.info? 89).map (fun i=>(i.zero,i.size,i.bytes))=some (some (.agg #[Iv 0,Nv,Nv,Nv]),4,80):=by kernel_rfl
theorem pInfoF:∃ i,prog.info? 89=some i/\i.zero=some (.agg #[Iv 0,Nv,Nv,Nv])/\i.size=4/\i.bytes=80:=by
 have h:=pInfoF0
 cases e:prog.info? 89 with
 | none=>rw[e] at h;cases h
 | some i =>
   rw[e] at h
   simp only[Option.map_some,Option.some.injEq,Prod.mk.injEq] at h
   exact⟨i,Z,h.1,h.2.1,h.2.2⟩
def QnK (K:Act->World->Prop) (Q:Exit->Act->World->Prop) (o:Oper) (a:Act):Ending->World->Prop
 | .returned u,w=>K (a.put o.dst u) w
 | .panicked chain,w=>Q (.panic chain) a w
 | .outgrown,_=>LetsOut Q
def Qah (F:Nat):Prop:=∀ (args:Array Value) (w:World),(callFunc F args).run prog w=.ok (.enter F args) w
structure WB where
 c:Nat
 v:Value
structure WG where
 ow:Nat->Nat
 be:Nat
 bp:Nat
 pm:Option Addr
 cm:Nat
 pi:Option Addr
 ci:Nat
 vc:Value
 vb:Value
 vo:Value
 t:WB
 fs:List WB
 lo:Nat
 lk:Nat
def QbU (w:World) (v:Value) (l:List Int):Prop:=w.ownsRow 0 2 1 v l.length (l.map (Value.int .i64))
def WIn (w:World) (O:Nat->Prop) (l:List Int) (v:Value):Prop:=∃ p c,v=.slice p l.length c/\∀ i,i<l.length->∃ k o,p=some ⟨k,o,none⟩/\O k/\k<w.heap.size/\w.cell? ⟨k,o+i,none⟩=some (Iv (l.getD i 0))
theorem WIn.keep {w w':World}(r:∀ k,O k->k<w.heap.size->w'.heap[k]?=w.heap[k]?) (q:∀ k,O k->k<w.heap.size->O' k) (h:WIn w O l v):WIn w' O' l v:=by
 obtain⟨p,c,e,h⟩:=h
 refine⟨p,c,e,fun i n=>?_⟩
 obtain⟨k,o,j,g,d,m⟩:=h i n
 have b:=r k g d;refine⟨k,o,j,q k g d,?_,(XU (w:=w) (a:=⟨k,o+i,none⟩) b).trans m⟩
 rcases Nat.lt_or_ge k w'.heap.size with f | f
 ·exact f
 ·rw[Array.getElem?_eq_none f,Xj d] at b;cases b
theorem QbU.lin {w:World}(h:QbU w v l) (j:∀ x,v.ownBlock=some x->O x):WIn w O l v:=by
 rcases h.2 with ⟨e,m⟩|⟨k,b,g,e,_,d,o,n,p,f⟩
 ·refine⟨none,0,by rw[e,m],fun i a=>by omega⟩
 ·refine⟨_,b,e,fun i a=>⟨k,0,Z,j k (by rw[e];rfl),XC d,?_⟩⟩
  rw[XK]
  have c:(l.map (Value.int .i64))[i]?=some (Iv (l.getD i 0)):=by rw[XS,Zg a];simp[List.getD,a]
  rw[<-f,XR,Xs (by omega),Array.getElem?_toList] at c
  exact Qb d _ _ c
abbrev frA (fr:RFr) (v:Value):Array Value:=#[Iv fr.f,Iv fr.b,Iv fr.i,v]
def WFr (w:World) (c:Nat) (fr:RFr) (v:Value):Prop:=w.heap[c]?=some (.cells (frA fr v) 132 (0,0))/\QbU w v fr.v
def Qip (w:World) (ow:Nat->Nat):List WB->List RFr->Prop
 | [],[]=>True
 | x::xs,fr::frs=>(WFr w x.c fr x.v/\ow x.c=5+2*frs.length/\∀ k,x.v.ownBlock=some k->ow k=6+2*frs.length)/\Qip w ow xs frs
 | _,_=>False
section
variable {w w':World}{ow ow':Nat->Nat}
theorem QbU.lt (h:QbU w v l){x:Nat}(a:v.ownBlock=some x):x<w.heap.size:=XC (ZU h a).choose_spec
theorem WFr.keep {fr:RFr}(h:WFr w c fr v) (b:w'.heap[c]?=w.heap[c]?) (a:∀ x,v.ownBlock=some x->w'.heap[x]?=w.heap[x]?):WFr w' c fr v:=⟨b.trans h.1,QZ h.2 a⟩
theorem WFr.below {fr:RFr}(h:WFr w c fr v) (b:Below w.heap.size w w'):WFr w' c fr v:=h.keep (b.block c (XC h.1)) (fun x a=>b.block x (h.2.lt a))
theorem Qip.len:∀ {xs:List WB}{frs:List RFr},Qip w ow xs frs->xs.length=frs.length
 | [],[],_=>rfl
 | [],_::_,h=>h.elim
 | x::xs,[],h=>h.elim
 | x::xs,fr::frs,h=>by simp[Qip.len h.2]
theorem Qip.keep (c:∀ x,x<w.heap.size->ow' x=ow x):∀ {xs:List WB}{frs:List RFr},Qip w ow xs frs->(∀ x,x<w.heap.size->5<=ow x->ow x<5+2*frs.length->w'.heap[x]?=w.heap[x]?)->Qip w' ow' xs frs
 | [],[],_,_=>trivial
 | [],_::_,h,_=>h.elim
 | x::xs,[],h,_=>h.elim
 | x::xs,fr::frs,h,hb=>by
   obtain⟨⟨b,f,d⟩,g⟩:=h
   have e:=XC b.1;simp only[List.length_cons] at hb
   refine⟨⟨b.keep (hb _ e (by omega) (by omega)) (fun k a=>hb k (b.2.lt a) (by have:=d k a;omega) (by have:=d k a;omega)),(c _ e).trans f,fun k a=>(c k (b.2.lt a)).trans (d k a)⟩,Qip.keep c g (fun k a i j=>hb k a i (by omega))⟩
end
abbrev QnF (most ml:Nat) (R:RM) (g:WG):Array Value :=
 #[Pv g.be 0,.slice g.pm ml g.cm,.slice g.pi R.inp.length g.ci,Iv most,g.vc,Iv R.fin,g.vb,g.vo,Iv R.fuel,.bool R.done]
abbrev Qaq (l:List WB):List Value:=l.reverse.map fun x=>Pv x.c 0
structure WAt (w:World) (b:Nat) (most:Nat) (m:List (MFunc 6)) (R:RM) (g:WG):Prop where
 box:w.heap[b]?=some (.cells (QnF most m.length R g) 68 (0,0))
 est:Qdt w g.be g.bp (fun x=>g.ow x=2) R.e
 mod:(QaN 6).In w (fun x=>g.ow x=0/\g.lk<=x/\x<b) m [.slice g.pm m.length g.cm]
 inp:intsL.In w (fun x=>g.ow x=0/\g.lk<=x/\x<b) R.inp [.slice g.pi R.inp.length g.ci]
 inpC:R.inp.length<=g.ci
 calls:w.ownsRow 0 130 1 g.vc (R.rest.length+1) (Qaq (g.t::g.fs))
 back:WIn w (fun x=>g.ow x=0/\g.lo<=x) R.back g.vb
 out:QbU w g.vo R.out
 frs:Qip w g.ow (g.t::g.fs) (R.top::R.rest)
 ob:g.ow b=1
 oc:∀ x,g.vc.ownBlock=some x->g.ow x=3
 oo:∀ x,g.vo.ownBlock=some x->g.ow x=4
 lt:∀ x,g.ow x≠0->x<w.heap.size
 low:g.lo<=w.heap.size
abbrev WG.A (g:WG) (x:Nat):Prop:=g.ow x≠0
structure WSt (g g':WG) (w w':World):Prop extends Qz g.A g'.A w w' where
 lo:g'.lo=g.lo
 lk:g'.lk=g.lk
theorem WSt.trans {g d e:WG}{a b c:World}(h:WSt g d a b) (k:WSt d e b c):WSt g e a c:=⟨h.1.trans k.1,k.lo.trans h.lo,k.lk.trans h.lk⟩
def WTo (g:WG) (w w':World) (b most:Nat) (m:List (MFunc 6)) (R:RM):Prop:=∃ g',WAt w' b most m R g'/\WSt g g' w w'/\g'.t.c=g.t.c/\g'.fs=g.fs
def WGo (g:WG) (w w':World) (b most:Nat) (m:List (MFunc 6)) (R:RM):Prop:=∃ g',WAt w' b most m R g'/\WSt g g' w w'
structure Wc (ow ow':Nat->Nat) (C:Nat->Prop) (w w':World):Prop where
 os:w'.os=w.os
 tape:w'.tape=w.tape
 output:w'.output=w.output
 size:w.heap.size<=w'.heap.size
 lab:∀ x,x<w.heap.size->ow' x=ow x
 keep:∀ x,x<w.heap.size->¬ C (ow x)->w'.heap[x]?=w.heap[x]?
 nil:¬ C 0
 lt:∀ x,ow' x≠0->x<w'.heap.size
section
variable {w w' w2:World}{b most:Nat}{m:List (MFunc 6)}{R R':RM}{g g1 g':WG}{C:Nat->Prop}{ow':Nat->Nat}
theorem Wc.step {ow:Nat->Nat}(h:Wc ow ow' C w w'):Qz (fun x=>ow x≠0) (fun x=>ow' x≠0) w w':=⟨h.os,h.tape,h.output,h.size,fun x a c=>h.keep x a (by rw[Xq.1 c];exact h.nil),fun x a=>by
 rcases Nat.lt_or_ge x w.heap.size with b | b
 ·exact .inl (by rw[<-h.lab x b];exact a)
 ·exact .inr b⟩
theorem WTo.go (h:WTo g w w' b most m R):WGo g w w' b most m R:=by obtain⟨c,a,s,_⟩:=h;exact⟨c,a,s⟩
theorem WTo.then (s:WSt g g1 w w') (d:g1.t.c=g.t.c) (e:g1.fs=g.fs) (h:WTo g1 w' w2 b most m R):WTo g w w2 b most m R:=by
 obtain⟨i,a,k,f,j⟩:=h
 exact⟨i,a,s.trans k,f.trans d,j.trans e⟩
theorem WGo.then (s:WSt g g1 w w') (h:WGo g1 w' w2 b most m R):WGo g w w2 b most m R:=by
 obtain⟨c,a,k⟩:=h
 exact⟨c,a,s.trans k⟩
section
variable (S:WAt w b most m R g) (kc:Wc g.ow ow' C w w')
include S kc
theorem WAt.kBox (h:¬ C 1):w'.heap[b]?=w.heap[b]?:=kc.keep b (XC S.box) (by rw[S.ob];exact h)
theorem WAt.kEst (h:¬ C 2):Qdt w' g.be g.bp (fun x=>ow' x=2) R.e:=by
 have b:=S.est.step (P:=fun x=>C (g.ow x)) (P':=fun _=>False) ⟨kc.os,kc.tape,kc.output,kc.size,fun x a c=>kc.keep x a c,fun _ h=>h.elim⟩ (fun x a d=>h (by have a:g.ow x=2:=a;rwa [a] at d));exact⟨b.1.mono (fun x a _=>(kc.lab x (S.lt x (by have a:g.ow x=2:=a;omega))).trans a),b.2⟩
theorem WAt.kMod:(QaN 6).In w' (fun x=>ow' x=0/\g.lk<=x/\x<b) m [.slice g.pm m.length g.cm]:=(QaN 6).keep (fun x a c=>kc.keep x c (by rw[a.1];exact kc.nil)) (fun x a c=>⟨(kc.lab x c).trans a.1,a.2⟩) S.mod
theorem WAt.kInp:intsL.In w' (fun x=>ow' x=0/\g.lk<=x/\x<b) R.inp [.slice g.pi R.inp.length g.ci]:=intsL.keep (fun x a c=>kc.keep x c (by rw[a.1];exact kc.nil)) (fun x a c=>⟨(kc.lab x c).trans a.1,a.2⟩) S.inp
theorem WAt.kBack:WIn w' (fun x=>ow' x=0/\g.lo<=x) R.back g.vb:=WIn.keep (fun x a b=>kc.keep x b (by rw[a.1];exact kc.nil)) (fun x a b=>⟨(kc.lab x b).trans a.1,a.2⟩) S.back
theorem WAt.kCalls (h:¬ C 3):w'.ownsRow 0 130 1 g.vc (R.rest.length+1) (Qaq (g.t::g.fs)):=QZ S.calls (fun x a=>kc.keep x (XC (ZU S.calls a).choose_spec) (by rw[S.oc x a];exact h))
theorem WAt.kOut (h:¬ C 4):QbU w' g.vo R.out:=QZ S.out (fun x a=>kc.keep x (S.out.lt a) (by rw[S.oo x a];exact h))
theorem WAt.kFrs (h:∀ x,5<=x->¬ C x):Qip w' ow' (g.t::g.fs) (R.top::R.rest):=S.frs.keep kc.lab (fun x a b _=>kc.keep x a (h _ b))
theorem WAt.kRest (h:∀ x,5<=x->x<5+2*R.rest.length->¬ C x):Qip w' ow' g.fs R.rest:=S.frs.2.keep kc.lab (fun x b c a=>kc.keep x b (h _ c a))
theorem WAt.kob:ow' b=1:=(kc.lab b (XC S.box)).trans S.ob
theorem WAt.koc:∀ x,g.vc.ownBlock=some x->ow' x=3:=fun x a=>(kc.lab x (XC (ZU S.calls a).choose_spec)).trans (S.oc x a)
theorem WAt.koo:∀ x,g.vo.ownBlock=some x->ow' x=4:=fun x a=>(kc.lab x (S.out.lt a)).trans (S.oo x a)
theorem WAt.klow:g.lo<=w'.heap.size:=Zt S.low kc.size
end
theorem Wc.below (S:WAt w b most m R g) (k:Below w.heap.size w w'):Wc g.ow g.ow (fun _=>False) w w':=⟨k.os,k.tape,k.output,k.size,fun _ _=>rfl,fun x a _=>k.block x a,fun h=>h,fun x a=>Zl (S.lt x a) k.size⟩
theorem WAt.below (S:WAt w b most m R g) (h:Below w.heap.size w w'):WAt w' b most m R g :=
 have k:=Wc.below S h;⟨(S.kBox k (fun h=>h)).trans S.box,S.kEst k (fun h=>h),S.kMod k,S.kInp k,S.inpC,S.kCalls k (fun h=>h),S.kBack k,S.kOut k (fun h=>h),S.kFrs k (fun _ _ h=>h),S.ob,S.oc,S.oo,k.lt,S.klow k⟩
theorem WAt.stepB (S:WAt w b most m R g) (k:Below w.heap.size w w'):WSt g g w w':=⟨(Wc.below S k).step,Z,Z⟩
theorem WTo.same (S:WAt w b most m R g) (k:Below w.heap.size w w'):WTo g w w' b most m R:=⟨g,S.below k,S.stepB k,Z,Z⟩
theorem WAt.top (S:WAt w b most m R g):WFr w g.t.c R.top g.t.v:=S.frs.1.1
theorem WAt.rows (S:WAt w b most m R g):g.fs.length=R.rest.length:=by have:=S.frs.len;simpa using this
def Qc9 (ow:Nat->Nat) (c:Nat) (w w':World):Nat->Nat:=fun x=>if x<w.heap.size then ow x else if x<w'.heap.size then c else 0
theorem QaO {ow:Nat->Nat}{x:Nat}(h:x<w.heap.size):Qc9 ow c w w' x=ow x:=Xs h
theorem Qc8 {ow:Nat->Nat}{x:Nat}(h:w.heap.size<=x) (a:x<w'.heap.size):Qc9 ow c w w' x=c:=by unfold Qc9;rw[Xr (by omega),Xs a]
theorem Wc.marks (S:WAt w b most m R g)(j:¬ C 0) (f:w'.os=w.os) (h:w'.tape=w.tape) (e:w'.output=w.output) (i:w.heap.size<=w'.heap.size) (d:∀ x,x<w.heap.size->¬ C (g.ow x)->w'.heap[x]?=w.heap[x]?):Wc g.ow (Qc9 g.ow c w w') C w w' :=
 ⟨f,h,e,i,fun x a=>QaO a,d,j,fun x a=>by
  unfold Qc9 at a;split at a
  ·omega
  ·split at a
   ·assumption
   ·exact absurd Z a⟩
theorem WAt.toEst (S:WAt w b most m R g){f:Est}(j:QU w' g.be g.bp (Q1 (fun x=>g.ow x=2) w w') f) (a:Qz (fun x=>g.ow x=2) (Q1 (fun x=>g.ow x=2) w w') w w') (c:f.Ok):WTo g w w' b most m { R with e:=f }:=by
 have k:Wc g.ow (Qc9 g.ow 2 w w') (·=2) w w':=Wc.marks S (by decide) a.os a.tape a.output a.size (fun x d l=>a.block x d l);refine⟨{ g with ow:=Qc9 g.ow 2 w w' },⟨(S.kBox k (by decide)).trans S.box,⟨j.mono (fun x d n=>?_),c⟩,S.kMod k,S.kInp k,S.inpC,S.kCalls k (by decide),S.kBack k,S.kOut k (by decide),S.kFrs k (fun x h e=>by omega),S.kob k,S.koc k,S.koo k,k.lt,S.klow k⟩,⟨k.step,Z,Z⟩,Z,Z⟩
 rcases Nat.lt_or_ge x w.heap.size with h | h
 ·rcases d.1 with i | i
  ·exact(QaO h).trans i
  ·omega
 ·exact Qc8 h n
theorem WAt.setTop (S:WAt w b most m R g){fr:RFr}(o:w'.os=w.os) (p:w'.tape=w.tape) (n:w'.output=w.output) (r:w.heap.size<=w'.heap.size)
 (s:∀ k,k<w.heap.size->k≠g.t.c->g.t.v.ownBlock≠some k->w'.heap[k]?=w.heap[k]?) (j:WFr w' g.t.c fr v) (q:∀ k,v.ownBlock=some k->g.t.v.ownBlock=some k\/w.heap.size<=k):WTo g w w' b most m { R with top:=fr }:=by
 obtain⟨⟨l,f,i⟩,u⟩:=S.frs
 have k:Wc g.ow (Qc9 g.ow (6+2*R.rest.length) w w') (fun x=>x=5+2*R.rest.length\/x=6+2*R.rest.length) w w':=Wc.marks S (by omega) o p n r (fun x a d=>s x a (fun e=>d (.inl (e ▸ f))) (fun e=>d (.inr (i x e))));refine⟨{ g with t:=⟨g.t.c,v⟩,ow:=Qc9 g.ow (6+2*R.rest.length) w w' },⟨(S.kBox k (by omega)).trans S.box,S.kEst k (by omega),S.kMod k,S.kInp k,S.inpC,?_,S.kBack k,S.kOut k (by omega),⟨⟨j,(QaO (XC l.1)).trans f,fun x a=>?_⟩,S.kRest k (fun x h y=>by omega)⟩,S.kob k,S.koc k,S.koo k,k.lt,S.klow k⟩,⟨k.step,Z,Z⟩,Z,Z⟩
 ·have e:Qaq (⟨g.t.c,v⟩::g.fs)=Qaq (g.t::g.fs):=by simp[Qaq]
  show w'.ownsRow 0 _ 1 g.vc _ (Qaq (⟨g.t.c,v⟩::g.fs));rw[e]
  exact S.kCalls k (by omega)
 ·rcases Nat.lt_or_ge x w.heap.size with h | h
  ·rcases q x a with e | e
   ·exact(QaO h).trans (i x e)
   ·omega
  ·exact Qc8 h (j.2.lt a)
theorem WAt.reBox (S:WAt w b most m R g) (o:w'.os=w.os) (p:w'.tape=w.tape) (n:w'.output=w.output) (f:w.heap.size<=w'.heap.size)
 (u:∀ k,k<w.heap.size->k≠b->w'.heap[k]?=w.heap[k]?) (q:R'.e=R.e/\R'.top=R.top/\R'.rest=R.rest/\R'.out=R.out)   {vb:Value} (hi:intsL.In w (fun x=>g.ow x=0/\g.lk<=x/\x<b) R'.inp [.slice pi R'.inp.length ci]/\R'.inp.length<=ci) (i:WIn w (fun x=>g.ow x=0/\g.lo<=x) R'.back vb)
 (s:w'.heap[b]?=some (.cells (QnF most m.length R' { g with pi:=pi,ci:=ci,vb:=vb }) 68 (0,0))):WTo g w w' b most m R':=by
 have k:Wc g.ow g.ow (·=1) w w':=⟨o,p,n,f,fun _ _=>rfl,fun x a j=>u x a (fun e=>j (e ▸ S.ob)),by decide,fun x a=>Zl (S.lt x a) f⟩;obtain⟨r,l,d,t⟩:=q
 refine⟨{ g with pi:=pi,ci:=ci,vb:=vb },⟨s,?_,S.kMod k,intsL.keep (fun x a c=>k.keep x c (by rw[a.1];decide)) (fun x a _=>a) hi.1,hi.2,?_,WIn.keep (fun x a c=>k.keep x c (by rw[a.1];decide)) (fun x a _=>a) i,?_,?_,S.ob,S.oc,S.oo,k.lt,S.klow k⟩,⟨k.step,Z,Z⟩,Z,Z⟩
 ·rw[r];exact S.kEst k (by decide)
 ·rw[d];exact S.kCalls k (by decide)
 ·rw[t];exact S.kOut k (by decide)
 ·rw[l,d];exact S.kFrs k (fun x h e=>by omega)
end
theorem Qd.at_some {h:Qd}{v:Q4}{p:Qr}(e:h.at v=some p):v.kind=2/\h.place v.region=some p/\∃ k:Nat,v.region=k/\h.L[k]?=some p/\p.there=true:=by
 unfold Qd.at at e;split at e
 ·rename_i b
  obtain⟨f,c,d⟩:=Qd.place_some e
  obtain⟨k,a⟩:=Xc f
  exact⟨b,e,k,a,by rwa [a,XT] at c,d⟩
 ·cases e
def Qr.roomed (p:Qr) (words:Int):Qr:=if p.tight words then { p with pages:=p.pages+1,used:=words } else { p with used:=p.used+words }
def Qd.roomLeft (h:Qd) (p:Qr) (words:Int):Nat:=if p.tight words then h.left - 1 else h.left
theorem Qr.roomed_l (p:Qr) (words:Int):(p.roomed words).l=p.l:=by unfold Qr.roomed;split<;>rfl
theorem Qr.roomed_there (p:Qr) (words:Int):(p.roomed words).there=p.there:=by unfold Qr.roomed;split<;>rfl
theorem Qr.more_eq (p:Qr) (t:Qw) (words:Int):p.more t words={ p.roomed words with l:=(p.roomed words).l++[t] }:=by unfold Qr.more Qr.roomed;split<;>rfl
theorem Qd.put_full {h:Qd}{v:Q4}{p:Qr}(t:Qw) (words:Int) (b:h.at v=some p) (c:p.tight words=true) (a:h.left=0):h.put v t words=(noV,14,h):=by unfold Qd.put;rw[b];simp[c,a]
theorem Qd.put_ok {h:Qd}{v:Q4}{p:Qr}(t:Qw) (words:Int) (b:h.at v=some p) (a:v.region=k) (c:¬ (p.tight words=true/\h.left=0)) :
 h.put v t words=(⟨t.knd,k,p.l.length,0⟩,0,⟨h.L.set k { p.roomed words with l:=p.l++[t] },h.roomLeft p words⟩):=by
 unfold Qd.put;rw[b]
 simp only
 rw[Xr c,a,XT,Qr.more_eq,Qr.roomed_l]
 rfl
theorem Qd.thing_iff {h:Qd}{v:Q4}{t:Qw}:h.thing v=some t↔(v.kind=3\/v.kind=4)/\∃ p,h.place v.region=some p/\0<=v.thing/\p.l[v.thing.toNat]?=some t/\t.arr=decide (v.kind=4):=by
 unfold Qd.thing;constructor
 ·intro e;split at e
  ·rename_i b
   split at e
   ·cases e
   ·rename_i p a
    split at e
    ·cases e
    ·rename_i f
     split at e
     ·cases e
     ·rename_i u c
      split at e
      ·rename_i d;cases e;exact⟨b,p,a,by omega,c,d⟩
      ·cases e
  ·cases e
 ·rintro ⟨b,p,a,f,c,d⟩;rw[Xs b]
  simp only[a,c]
  rw[Xr (by omega),Xs d]
theorem Qd.put_code {h:Qd}{v:Q4}{t:Qw}{words:Int}{p:Qr}(a:h.at v=some p):(h.put v t words).2.1=0\/((h.put v t words).2.1=14/\(h.put v t words).2.2=h/\(h.put v t words).1=noV):=by
 by_cases e:p.tight words=true/\h.left=0
 ·rw[Qd.put_full t words a e.1 e.2];exact .inr ⟨Z,Z,Z⟩
 ·obtain⟨f,g,j,b,d,c⟩:=Qd.at_some a
  rw[Qd.put_ok t words a b e];exact .inl Z
def Qw.sz (t:Qw):Nat:=if t.arr then t.l.length+1 else max t.l.length 1
def Rep (h:Qd) (φ:Int->Nat) (π:Int->Nat->Nat) (x:Q4) (n:Int):Prop :=
 (x.kind=1->n=x.n)/\((x.kind=2\/x.kind=3\/x.kind=4)->0<=x.region/\x.region<h.L.length/\∀ p,h.place x.region=some p ->
  (x.kind=2->n=φ x.region)/\(x.kind≠2->0<=x.thing/\x.thing.toNat<p.l.length/\n=π x.region x.thing.toNat))
structure QlK (h:Qd) (e:Est) (φ:Int->Nat) (π:Int->Nat->Nat) (k:Int) (i:Nat) (t:Qw):Prop where
 run:Qbc e ⟨φ k,π k i,t.sz⟩
 tuple:t.arr=false->∀ j x,t.l[j]?=some x->Rep h φ π x (e.p.ws (π k i+j))
 len:t.arr=true->e.p.ws (π k i)=t.l.length
 nums:t.arr=true->∀ j x,t.l[j]?=some x->x.kind=1/\e.p.ws (π k i+1+j)=x.n
structure Qa9 (h:Qd) (e:Est) (φ:Int->Nat) (π:Int->Nat->Nat):Prop where
 ok:e.Ok
 left:(h.left:Int)=e.p.free
 reg:∀ k p,h.place k=some p->φ k<16/\∃ r,e.reg (φ k)=some r/\r.pages.length=p.pages/\(p.pages≠0->r.used=p.used)
 inj:∀ j k p q,h.place j=some p->h.place k=some q->φ j=φ k->j=k
 onto:∀ i r,e.reg i=some r->∃ k p,h.place k=some p/\φ k=i
 clear:QmW e
 thing:∀ k p i t,h.place k=some p->p.l[i]?=some t->QlK h e φ π k i t
 apart:∀ k p i t k' p' i' t',h.place k=some p->p.l[i]?=some t->h.place k'=some p'->p'.l[i']?=some t'->¬ (k=k'/\i=i')->¬ (π k i<π k' i'+t'.sz/\π k' i'<π k i+t.sz)
def Qgo (f:Nat->Option Reg) (n:Nat):List Nat:=(List.range n).filter (fun k=>(f k).isSome)
theorem Qdx (f:Nat->Option Reg):∀ n,Zb f n=(Qgo f n).length
 | 0=>rfl
 | n+1=>by
   have a:=Qdx f n;unfold Qgo at a |-;rw[Zb,List.range_succ,List.filter_append,List.length_append]
   cases h:(f n).isSome with
   | true=>simp[h,a]
   | false=>simp[h,a]
def Qbq (L:List Qr) (n:Nat):List Nat:=(List.range n).filter (fun k=>match L[k]? with | some p=>p.there | none=>false)
theorem QhP (L:List Qr):∀ n,n<=L.length->(Qbq L n).length=((L.take n).filter (·.there)).length
 | 0,_=>rfl
 | n+1,h=>by
   have a:=QhP L n (by omega);have b:L[n]?=some L[n]:=Zg (by omega);unfold Qbq at a |-;rw[List.range_succ,List.filter_append,List.length_append,a,XV,b]
   simp only[Option.toList,List.filter_append,List.length_append,List.filter_cons,List.filter_nil,b]
   cases L[n].there<;>rfl
theorem Qkq (h:Qd):(Qbq h.L h.L.length).length=h.live:=by rw[QhP _ _ Ze,List.take_length];rfl
theorem QcA {h:Qd}:k∈Qbq h.L h.L.length↔∃ p,h.place (k:Int)=some p:=by
 unfold Qbq;rw[List.mem_filter,List.mem_range,Qd.place_nat]
 constructor
 ·rintro ⟨c,b⟩;rw[Zg c] at b |-
  simp only at b |-
  exact⟨_,by rw[Xs b]⟩
 ·rintro ⟨p,a⟩
  cases e:h.L[k]? with
  | none=>rw[e] at a;cases a
  | some q =>
    rw[e] at a
    simp only at a
    split at a
    ·rename_i d
     exact⟨(Zi e).1,by simp[d]⟩
    ·cases a
section
variable {h:Qd}{e:Est}{φ:Int->Nat}{π:Int->Nat->Nat}
theorem Qe8 {α β:Type}{f:α->β}:∀ {l:List α},l.Nodup->(∀ x∈l,∀ y∈l,f x=f y->x=y)->(l.map f).Nodup
 | [],_,_=>by simp
 | x::r,hn,hf=>by
   rw[List.nodup_cons] at hn
   rw[List.map_cons,List.nodup_cons]
   refine⟨fun d=>?_,Qe8 hn.2 (fun a g b e=>hf a (by simp[g]) b (by simp[e]))⟩
   obtain⟨y,c,h⟩:=List.mem_map.1 d
   exact hn.1 (hf y (by simp[c]) x (by simp) h ▸ c)
theorem Qa9.count (R:Qa9 h e φ π):e.count=h.live:=by
 unfold Est.count;rw[Qdx,<-Qkq]
 congr 1
 have m:(Qbq h.L h.L.length).Nodup:=List.Pairwise.filter _ List.nodup_range
 have n:((Qbq h.L h.L.length).map (fun k:Nat=>φ (k:Int))).Nodup:=Qe8 m (fun x j y l u=>by
  obtain⟨p,a⟩:=QcA.1 j
  obtain⟨q,t⟩:=QcA.1 l
  have:=R.inj _ _ p q a t u
  omega)
 have s:(Qgo e.reg 16).Nodup:=List.Pairwise.filter _ List.nodup_range
 have:=((List.perm_ext_iff_of_nodup s n).2 (fun i=>?_)).length_eq
 ·rw[this,XN]
 ·unfold Qgo;rw[List.mem_filter,List.mem_range,List.mem_map]
  constructor
  ·rintro ⟨d,b⟩;obtain⟨r,c⟩:=Option.isSome_iff_exists.1 b
   obtain⟨k,p,a,g⟩:=R.onto i r c
   obtain⟨f,-,-⟩:=Qd.place_some a
   refine⟨k.toNat,QcA.2 ⟨p,?_⟩,?_⟩
   ·rw[Int.toNat_of_nonneg f];exact a
   ·rw[Int.toNat_of_nonneg f];exact g
  ·rintro ⟨k,d,b⟩;obtain⟨p,a⟩:=QcA.1 d
   obtain⟨o,r,c,-⟩:=R.reg _ p a
   rw[<-b]
   exact⟨o,by rw[c];rfl⟩
theorem QdI {f:Nat->Option Reg}:∀ {n:Nat},Zb f n=n↔∀ k,k<n->f k≠none
 | 0=>by simp[Zb]
 | n+1=>by
   have c:=QdI (f:=f) (n:=n);have d:=(Qa2 f n).2;rw[Zb]
   cases e:f n with
   | none =>
     simp only[Option.isSome_none,Bool.false_eq_true,if_false]
     constructor
     ·intro h;omega
     ·intro h;exact absurd e (h n (by omega))
   | some r =>
     simp only[Option.isSome_some,if_true]
     constructor
     ·intro h k b;rcases Nat.lt_succ_iff_lt_or_eq.1 b with a | a
      ·exact c.1 (by omega) k a
      ·subst a;rw[e];exact fun h=>nomatch h
     ·intro h
      have:=c.2 (fun k b=>h k (by omega))
      omega
theorem Qa9.full (R:Qa9 h e φ π):16<=h.live↔∀ k,k<16->e.reg k≠none:=by
 have a:=R.count;have b:=(Qa2 e.reg 16).2;unfold Est.count at a;rw[<-QdI (f:=e.reg) (n:=16)]
 omega
theorem Rep.mono {a:Qd}{φ':Int->Nat}{π':Int->Nat->Nat}{x:Q4}{n:Int}(H:Rep h φ π x n) (w:h.L.length<=a.L.length)
 (d:∀ (k:Int) p',0<=k->k<h.L.length->a.place k=some p'->∃ p,h.place k=some p/\φ' k=φ k/\p.l.length<=p'.l.length/\∀ i,i<p.l.length->π' k i=π k i):Rep a φ' π' x n:=by
 refine⟨H.1,fun e=>?_⟩
 obtain⟨c,j,q⟩:=H.2 e
 refine⟨c,by omega,fun p' b=>?_⟩
 obtain⟨p,o,r,v,f⟩:=d _ p' c j b
 obtain⟨t,m⟩:=q p o
 refine⟨fun h=>by rw[r];exact t h,fun h=>?_⟩
 obtain⟨u,s,g⟩:=m h
 exact⟨u,by omega,by rw[f _ s];exact g⟩
def Qcg (h:Qd) (e:Est) (φ:Int->Nat):Int->Nat:=fun j=>if j=h.L.length then e.openK.toNat else φ j
theorem Qa9.opens (R:Qa9 h e φ π) (O:¬ 16<=h.live):0<=e.openK/\Qa9 h.open_.2.2 e.opened (Qcg h e φ) π/\(Qcg h e φ) h.L.length=e.openK.toNat/\∀ x n,Rep h φ π x n->Rep h.open_.2.2 (Qcg h e φ) π x n:=by
 have G:h.open_=(⟨2,h.L.length,0,0⟩,true,{ h with L:=h.L++[newP] }):=by unfold Qd.open_;rw[Xr O]
 have g:∀ j,h.open_.2.2.place j=if j=h.L.length then some newP else h.place j:=fun j=>by rw[G];exact Qd.place_push h newP j h.left
 rcases Qbl e.reg 16 with V | ⟨k,K,P,k3⟩
 ·exact absurd (R.full.2 V) O
 ·obtain⟨o1,F⟩:=Est.open_yes k3 K P
  have Q:e.openK.toNat=k:=by omega
  have A:∀ j p,h.place j=some p->¬ j=h.L.length:=fun j p a w=>by
   have:=(Qd.place_some a).2.1
   have:=(Zi this).1
   omega
  have c:∀ j p,h.place j=some p->Qcg h e φ j=φ j:=fun j p a=>by unfold Qcg;rw[Xr (A j p a)]
  have B:Qcg h e φ h.L.length=k:=by unfold Qcg;rw[Xs Z,Q]
  have s:∀ x n,Rep h φ π x n->Rep h.open_.2.2 (Qcg h e φ) π x n:=fun x n H=>H.mono (by rw[G];simp) (fun j y M N b=>by
   rw[g,Xr (by omega)] at b
   exact⟨y,b,c _ _ b,Ze,fun _ _=>rfl⟩)
  have J:∀ j,(e.set k (some ⟨[],0⟩)).reg j=if j=k then some ⟨[],0⟩ else e.reg j:=fun j=>rfl
  have D:∀ j p,h.place j=some p->φ j≠k:=fun j p a W=>by
   obtain⟨-,r,d,-⟩:=R.reg j p a
   rw[W,P] at d;cases d
  refine⟨by omega,?_,by rw[B,Q],s⟩
  have I:∀ q,Qbc e q->Qbc e.opened q:=fun q C=>((⟨fun x v=>by rw[List.mem_singleton.1 v];exact C,R.clear⟩:Ap e [q]).opened).run q (by simp);refine⟨R.ok.opened,by rw[G,Est.p_opened];exact R.left,fun j p a=>?_,fun j E p y a b l=>?_,fun i r d=>?_,(⟨fun q C=>absurd C (by simp),R.clear⟩:Ap e []).opened.clear,fun j p i t a o=>?_,fun j p i t E y T t' a o b z hn=>?_⟩
  ·rw[g] at a
   split at a
   ·rename_i w
    cases a
    rw[w,B]
    exact⟨K,_,by rw[F,J,Xs Z],Z,fun h=>absurd Z h⟩
   ·obtain⟨M,r,d,N⟩:=R.reg j p a
    rw[c j p a]
    exact⟨M,r,by rw[F,J,Xr (D j p a)];exact d,N⟩
  ·rw[g] at a b
   split at a
   ·rename_i w
    split at b
    ·rename_i f;rw[w,f]
    ·rw[w,B,c _ _ b] at l;exact absurd l.symm (D _ _ b)
   ·split at b
    ·rename_i f;rw[f,B,c _ _ a] at l;exact absurd l (D _ _ a)
    ·rw[c _ _ a,c _ _ b] at l;exact R.inj j E p y a b l
  ·rw[F,J] at d
   split at d
   ·rename_i ei
    exact⟨h.L.length,newP,by rw[g,Xs Z],by rw[B,ei]⟩
   ·obtain⟨j,p,a,hj⟩:=R.onto i r d
    exact⟨j,p,by rw[g,Xr (A j p a)];exact a,by rw[c j p a];exact hj⟩
  ·rw[g] at a
   split at a
   ·cases a;simp[newP] at o
   ·obtain⟨S,X,U,a4⟩:=R.thing j p i t a o
    exact⟨by rw[c j p a];exact I _ S,fun u m x v=>by rw[Est.p_opened];exact s _ _ (X u m x v),fun u=>by rw[Est.p_opened];exact U u,fun u m x v=>by rw[Est.p_opened];exact a4 u m x v⟩
  ·rw[g] at a b
   split at a
   ·cases a;simp[newP] at o
   ·split at b
    ·cases b;simp[newP] at z
    ·exact R.apart j p i t E y T t' a o b z hn
theorem Qe2 {s:PSt}(b:l.Nodup) (a:∀ x,x∈l->0<=x/\x<s.fresh/\x ∉ s.given):(s.giveAll l).free=s.free+l.length:=by
 rw[PSt.giveAll_eq l s b a]
 unfold PSt.free;simp
 omega
theorem Qa9.shuts (R:Qa9 h e φ π){a:Q4}{p:Qr}(Q:h.at a=some p):(h.shut a).1=true/\Qa9 (h.shut a).2 (e.shut (φ a.region)) φ π/\∀ x n,Rep h φ π x n->Rep (h.shut a).2 φ π x n:=by
 obtain⟨hk,o,j,hj,X,aa⟩:=Qd.at_some Q
 have G:=(Zi X).1;obtain⟨k1,r,T,J,-⟩:=R.reg _ p o
 have B:h.shut a=(true,⟨h.L.set a.region.toNat noP,h.left+p.pages⟩):=by unfold Qd.shut;rw[Q]
 have U:∀ i,(h.shut a).2.place i=if i=a.region then none else h.place i:=fun i=>by
  rw[B];simp only
  rw[hj,XT,Qd.place_set G]
  split
  ·rfl
  ·rfl
 have b:∀ i q,(h.shut a).2.place i=some q->i≠a.region/\h.place i=some q:=fun i q c=>by
  rw[U] at c
  split at c
  ·cases c
  ·rename_i g;exact⟨g,c⟩
 have S:∀ i q,i≠a.region->h.place i=some q->φ i≠φ a.region:=fun i q c I N=>c (R.inj i _ q p I o N);have E:=Est.shut_yes (e:=e) (j:=φ a.region) k1 T;have W:∀ i,(e.shut (φ a.region)).reg i=if i=φ a.region then none else e.reg i:=fun i=>by rw[E];rfl
 have D:(e.shut (φ a.region)).p.ws=e.p.ws:=by rw[E];exact QdK _ _
 have s:∀ x n,Rep h φ π x n->Rep (h.shut a).2 φ π x n:=fun x n H=>H.mono (by rw[B];simp) (fun k V _ _ P=>⟨V,(b k V P).2,Z,Ze,fun _ _=>rfl⟩);have K:∀ q:Run,q.region≠φ a.region->Qbc e q->Qbc (e.shut (φ a.region)) q:=fun q g o=>((⟨fun x f=>by rw[List.mem_singleton.1 f];exact o,R.clear⟩:Ap e [q]).shut (φ a.region)).run q (by unfold Qlg;simp[g]);refine⟨by rw[B],⟨R.ok.shut _,?_,fun i q c=>?_,fun i u q A c l N=>?_,fun i M d=>?_,((⟨fun q o=>absurd o (by simp),R.clear⟩:Ap e []).shut _).clear,fun i q m t c C=>?_,fun i q m t u A m' t' c C l O g=>R.apart i q m t u A m' t' (b i q c).2 C (b u A l).2 O g⟩,s⟩
 ·have y:=Est.at_some T;rw[B,E]
  show ((h.left+p.pages:Nat):Int)=(e.p.giveAll r.pages).free;rw[Qe2 (by rw[<-y];exact R.ok.nodup _) (fun x f=>R.ok.took (k:=φ a.region) (by rw[y];exact f)),<-R.left,J]
  omega
 ·obtain⟨F,v⟩:=b i q c
  obtain⟨h3,M,d,h4⟩:=R.reg i q v
  exact⟨h3,M,by rw[W,Xr (S i q F v)];exact d,h4⟩
 ·exact R.inj i u q A (b i q c).2 (b u A l).2 N
 ·rw[W] at d
  split at d
  ·cases d
  ·rename_i g
   obtain⟨k,q,I,w⟩:=R.onto i M d
   refine⟨k,q,by rw[U,Xr (fun ek=>g (by rw[<-w,ek]))];exact I,w⟩
 ·obtain⟨F,v⟩:=b i q c
  obtain⟨a1,a2,a3,a4⟩:=R.thing i q m t v C
  exact⟨K _ (by simp only;have:=S i q F v;omega) a1,fun z j x f=>by rw[D];exact s _ _ (a2 z j x f),fun z=>by rw[D];exact a3 z,fun z j x f=>by rw[D];exact a4 z j x f⟩
end
theorem XP:type_of% @List.getElem?_append_left:=@List.getElem?_append_left
theorem PSt.puts_same:∀ (l:List Int) (s:PSt) (k:Int),(s.puts k l).pages=s.pages/\(s.puts k l).given=s.given/\(s.puts k l).fresh=s.fresh
 | [],s,k=>⟨Z,Z,Z⟩
 | n::l,s,k=>by
   obtain⟨b,a,c⟩:=PSt.puts_same l (s.store k n) (k+1)
   have:(s.store k n).given=s.given/\(s.store k n).fresh=s.fresh:=by unfold PSt.store;split<;>simp
   show ((s.store k n).puts (k+1) l).pages=_/\((s.store k n).puts (k+1) l).given=_/\((s.store k n).puts (k+1) l).fresh=_;rw[b,a,c]
   exact⟨PSt.pages_store s k n,this.1,this.2⟩
theorem PSt.puts_ws:∀ (l:List Int) (s:PSt) (k:Nat),k+l.length<=16*s.pages->∀ i:Nat,(s.puts (k:Int) l).ws i=if k<=i/\i<k+l.length then l.getD (i - k) 0 else s.ws i
 | [],s,k,h,i=>by rw[Xr (by simp only[List.length_nil];omega)];rfl
 | n::l,s,k,h,i=>by
   have c:s.place (k:Int)=true:=by simp at h;simp[PSt.place];omega
   have f:=PSt.puts_ws l (s.store k n) (k+1) (by rw[PSt.pages_store];simp at h |-;omega) i;show ((s.store k n).puts ((k:Int)+1) l).ws i=_;rw[show ((k:Int)+1)=((k+1:Nat):Int) by omega,f]
   have d:(s.store k n).ws i=if i=k then n else s.ws i:=by
    unfold PSt.store;rw[Xs c];show (if (i:Int)=k then n else s.ws i)=_;by_cases e:i=k
    ·rw[Xs e,Xs (by omega)]
    ·rw[Xr e,Xr (by omega)]
   rw[d]
   simp only[List.length_cons]
   by_cases a:i=k
   ·rw[Xr (by omega),Xs a,Xs (by omega),a];simp
   ·by_cases b:k+1<=i/\i<k+1+l.length
    ·rw[Xs b,Xs (by omega),show i - k=(i - (k+1))+1 by omega];simp
    ·rw[Xr b,Xr a,Xr (by omega)]
theorem PSt.free_take {s:PSt}(h:s.Ok) (a:0<=s.nextK):s.take.free=s.free - 1:=by
 unfold PSt.take;rw[Xr (by omega)]
 have b:s.next.free=s.free - 1:=by
  unfold PSt.nextK at a;unfold PSt.next PSt.free
  cases e:s.given.getLast? with
  | some x =>
    have f:s.given≠[]:=fun d=>by rw[d] at e;cases e
    have:=List.length_pos_iff.2 f
    simp
    omega
  | none =>
    rw[e] at a
    simp only at a |-
    split
    ·rename_i c;rw[Xs c] at a;omega
    ·simp;omega
 exact b
section
variable {h:Qd}{e:Est}{φ:Int->Nat}{π:Int->Nat->Nat}
structure Qog (e e1:Est) (j:Nat) (r:Reg) (n:Int):Prop where
 reg:∃ r1,e1.reg j=some r1/\(r.more n=false/\r1.pages=r.pages/\r1.used=r.used+n/\e1.p=e.p\/r.more n=true/\r1.pages.length=r.pages.length+1/\r1.used=n/\e1.p=e.p.take/\0<=e.p.nextK)
 other:∀ i,i≠j->e1.reg i=e.reg i
 ws:∀ q,Qbc e q->∀ i:Nat,q.at_<=i->i<q.at_+q.n->e1.p.ws i=e.p.ws i
theorem QlH (ok:e.Ok){r:Reg}{n:Int}(g:j<16) (f:e.reg j=some r) (c:¬ (n<1\/16<n)) :
 (e.getCode j n=14/\r.more n=true/\e.p.nextK<0)\/(e.getCode j n=0/\(r.more n=true->0<=e.p.nextK)/\Qog e (e.got j n) j r n):=by
 cases hm:r.more n with
 | false =>
   obtain⟨d,-,b⟩:=Est.get_room g f c hm
   refine .inr ⟨d,(fun h=>by cases h),?_⟩;rw[b]
   exact⟨⟨⟨r.pages,r.used+n⟩,by simp[Est.set],.inl ⟨hm,Z,Z,Z⟩⟩,fun i l=>by simp[Est.set,l],fun q o i x y=>rfl⟩
 | true =>
   by_cases a:e.p.nextK<0
   ·exact .inl ⟨(Est.get_full g f c hm a).1,Z,a⟩
   ·obtain⟨d,-,b⟩:=Est.get_more g f c hm a
    refine .inr ⟨d,fun _=>by omega,?_⟩;rw[b]
    refine⟨⟨⟨r.pages++[e.p.nextK],n⟩,by simp[Est.set,Est.withP],.inr ⟨hm,by simp,Z,Z,by omega⟩⟩,fun i l=>by simp[Est.set,Est.withP,l],fun q o i x y=>?_⟩
    obtain⟨z,E,s,B,v,t,D,C,-,-⟩:=o
    have k:s∈e.pagesAt z:=by rw[Est.at_some v];exact t
    have w:s≠e.p.nextK:=fun u=>by
     obtain⟨m,-⟩:=ok.tk.take ok.ok (by omega)
     exact m ((ok.tk.mem _).2 (u ▸ ok.took k))
    show e.p.take.ws i=e.p.ws i;unfold PSt.take;rw[Xr a]
    unfold PSt.wipe;have A:e.p.next.ws=e.p.ws:=by unfold PSt.next;split<;>first | rfl | (split<;>rfl)
    simp only
    rw[Xr (by omega),A]
theorem Est.Ok.puts:∀ (l:List Int){e:Est}(k:Int),e.Ok->(e.withP (e.p.puts k l)).Ok
 | [],e,k,h=>h
 | n::l,e,k,h=>Est.Ok.puts l (k+1) (Est.Ok.store h k n)
theorem PSt.free_puts (l:List Int) (s:PSt) (k:Int):(s.puts k l).free=s.free:=by
 obtain⟨b,a,c⟩:=PSt.puts_same l s k
 unfold PSt.free;rw[b,a,c]
def QmM (h:Qd) (φ:Int->Nat) (π:Int->Nat->Nat) (t:Qw) (l:List Int):Prop :=
 (t.arr=false->l.length=t.l.length/\∀ (j:Nat) x,t.l[j]?=some x->Rep h φ π x (l.getD j 0))/\(t.arr=true->l=[(t.l.length:Int)]/\∀ (j:Nat) x,t.l[j]?=some x->x=Qct 0)
theorem Qw.sz_pos (t:Qw):1<=t.sz:=by unfold Qw.sz;split<;>omega
theorem Qw.sz_l (t:Qw) (a:t.arr=false):t.l.length<=t.sz:=by unfold Qw.sz;rw[Xr (by rw[a];decide)];omega
theorem Qw.sz_a (t:Qw) (a:t.arr=true):t.sz=t.l.length+1:=by unfold Qw.sz;rw[Xs a]
theorem Qa9.tight (R:Qa9 h e φ π){a:Q4}{p:Qr}{r:Reg}(f:r.pages.length=p.pages) (c:p.pages≠0->r.used=p.used){n:Int}(j:1<=n):p.tight n=r.more n:=by
 have g:=Reg.more_iff (r:=r) j;have i:r.pages=[]↔p.pages=0:=by rw[<-Xf,f]
 unfold Qr.tight
 cases e:r.more n with
 | true =>
   rcases g.1 e with d | d
   ·simp[i.1 d]
   ·by_cases b:p.pages=0
    ·simp[b]
    ·rw[<-c b];simp[b];omega
 | false =>
   have d:¬ (r.pages=[]\/16 - r.used<n):=fun h=>by rw[g.2 h] at e;cases e
   have b:¬ p.pages=0:=fun h=>d (.inl (i.2 h));rw[<-c b]
   simp only[b,decide_false,Bool.false_or,decide_eq_false_iff_not]
   omega
theorem Qa9.none (R:Qa9 h e φ π):h.left=0↔e.p.nextK<0:=by
 rw[PSt.nextK_iff R.ok.ok,<-R.left];omega
theorem Qa9.puts (R:Qa9 h e φ π){a:Q4}{p:Qr}(ha:h.at a=some p) (t:Qw) (bb:t.sz<=16) :
 (e.getCode (φ a.region) t.sz≠0/\(h.put a t t.sz).2.1=14)\/(e.getCode (φ a.region) t.sz=0/\(h.put a t t.sz).2.1=0/\0<=e.getAt (φ a.region) t.sz /\
  ∀ l:List Int,QmM h φ π t l->∃ π',Qa9 (h.put a t t.sz).2.2 ((e.got (φ a.region) t.sz).withP ((e.got (φ a.region) t.sz).p.puts (e.getAt (φ a.region) t.sz) l)) φ π'/\(∀ x n,Rep h φ π x n->Rep (h.put a t t.sz).2.2 φ π' x n)/\Rep (h.put a t t.sz).2.2 φ π' (h.put a t t.sz).1 (e.getAt (φ a.region) t.sz)):=by
 obtain⟨hk,z,j,hj,hL,a5⟩:=Qd.at_some ha
 have a7:=(Zi hL).1;obtain⟨k1,r,hr,O,aj⟩:=R.reg _ p z
 have ax:=t.sz_pos;have g:=R.tight (a:=a) O aj (n:=t.sz) (by omega);rcases QlH R.ok k1 hr (n:=t.sz) (by omega) with ⟨c1,c2,c3⟩|⟨c1,c2,G⟩
 ·refine .inl ⟨by rw[c1];decide,?_⟩;rw[Qd.put_full t t.sz ha (by rw[g];exact c2) (R.none.2 c3)]
 ·have am:¬ (p.tight t.sz=true/\h.left=0):=fun ⟨b,C⟩=>by
   have:=c2 (by rw[<-g];exact b)
   have:=R.none.1 C
   omega
  have f:=Qd.put_ok t (t.sz:Int) ha hj am;have G0:=Qlc R.ok (⟨fun q z=>absurd z (by simp),R.clear⟩:Ap e []) _ _ c1;have G1:=fun (q:Run) (z:Qbc e q)=>Qlc R.ok (⟨fun x B=>by rw[List.mem_singleton.1 B];exact z,R.clear⟩:Ap e [q]) _ _ c1;obtain⟨A,hA⟩:∃ A:Nat,e.getAt (φ a.region) t.sz=A:=⟨(e.getAt (φ a.region) t.sz).toNat,by have:=G0.low;omega⟩
  refine .inr ⟨c1,by rw[f],G0.low,fun l hl=>?_⟩;rw[hA]
  have S:(e.got (φ a.region) t.sz).p.pages=e.p.pages:=Est.pages_got e _ _
  have ba:l.length<=t.sz:=by
   cases d:t.arr with
   | true=>rw[(hl.2 d).1];simpa using ax
   | false=>rw[(hl.1 d).1];exact t.sz_l d
  have a0:=R.ok.got (φ a.region) t.sz;have ws:=PSt.puts_ws l (e.got (φ a.region) t.sz).p A (by have:=G0.high;rw[hA] at this;rw[S];omega);have ao:∀ q,Qbc e q->Qbc (e.got (φ a.region) t.sz) q:=fun q z=>(G1 q z).ap.run q (by simp);have af:Qbc (e.got (φ a.region) t.sz) ⟨φ a.region,A,t.sz⟩:=by have:=G0.ap.run ⟨φ a.region,e.getAt (φ a.region) t.sz,t.sz⟩ (by simp);rw[hA] at this;exact this
  have ae:=G0.ap.clear;have ag:=G0.zero;rw[hA] at ae ag
  generalize e.got (φ a.region) t.sz=y at *
  have pl:∀ i:Int,(h.put a t t.sz).2.2.place i=if i=a.region then some { p.roomed t.sz with l:=p.l++[t] } else h.place i:=fun i=>by
   rw[f];simp only
   rw[Qd.place_set a7,hj]
   have:({ p.roomed t.sz with l:=p.l++[t] }:Qr).there=true:=by rw[show ({ p.roomed t.sz with l:=p.l++[t] }:Qr).there=(p.roomed t.sz).there from Z,Qr.roomed_there];exact a5
   rw[Xs this]
  refine⟨fun k i=>if k=a.region/\i=p.l.length then A else π k i,?_⟩
  have o:(p.roomed t.sz).pages=(if p.tight t.sz=true then p.pages+1 else p.pages)/\(p.roomed t.sz).used=(if p.tight t.sz=true then (t.sz:Int) else p.used+t.sz):=by unfold Qr.roomed;split<;>simp
  obtain⟨r1,g1,g2⟩:=G.reg
  have L:∀ q,Qbc e q->∀ i:Nat,q.at_<=i->i<q.at_+q.n->(y.p.puts A l).ws i=e.p.ws i:=fun q z i b C=>by
   have:=(G1 q z).apart q (by simp)
   rw[hA] at this
   rw[ws,Xr (by omega)]
   exact G.ws q z i b C
  have N:∀ k v i w,(h.put a t t.sz).2.2.place k=some v->v.l[i]?=some w->(k=a.region/\i=p.l.length/\w=t)\/(¬ (k=a.region/\i=p.l.length)/\∃ F,h.place k=some F/\F.l[i]?=some w):=fun k v i w s D=>by
   rw[pl] at s
   split at s
   ·rename_i u
    cases s
    simp only at D
    rcases Nat.lt_trichotomy i p.l.length with b | b | b
    ·rw[XP b] at D
     exact .inr ⟨fun e=>by omega,p,by rw[u];exact z,D⟩
    ·rw[XQ (by omega),b] at D
     simp at D
     exact .inl ⟨u,b,D.symm⟩
    ·rw[Xk (by simp;omega)] at D;cases D
   ·rename_i u
    exact .inr ⟨fun e=>u e.1,v,s,D⟩
  have aa:∀ x n,Rep h φ π x n->Rep (h.put a t t.sz).2.2 φ (fun k i=>if k=a.region/\i=p.l.length then A else π k i) x n:=fun x n H=>H.mono (by rw[f];simp) (fun k v _ _ c=>by
   rw[pl] at c
   split at c
   ·rename_i u
    cases c
    refine⟨p,by rw[u];exact z,Z,by simp,fun i Q=>?_⟩
    rw[Xr (by omega)]
   ·rename_i u
    exact⟨v,c,Z,Ze,fun i Q=>by rw[Xr (fun e=>u e.1)]⟩)
  refine⟨⟨Est.Ok.puts l A a0,?_,fun k v s=>?_,fun k k' v U s c he=>?_,fun i r' J=>?_,?_,fun k v i w s D=>?_,fun k v i w k' U i' T s D c av X=>?_⟩,aa,?_⟩
  ·rw[f]
   show ((h.roomLeft p t.sz:Nat):Int)=(y.p.puts A l).free;rw[PSt.free_puts]
   unfold Qd.roomLeft;rcases g2 with ⟨g0,-,-,K⟩|⟨K,-,-,g4,g5⟩
   ·rw[K,<-R.left,Xr (by rw[g,g0];decide)]
   ·rw[Xs (by rw[g];exact K),g4,PSt.free_take R.ok.ok g5,<-R.left]
    have:h.left≠0:=fun h0=>am ⟨by rw[g];exact K,h0⟩
    omega
  ·rw[pl] at s
   split at s
   ·rename_i u
    cases s
    rw[u]
    refine⟨k1,r1,g1,?_,fun _=>?_⟩
    ·rcases g2 with ⟨g0,K,-⟩|⟨K,g4,-⟩
     ·rw[K,O];show _=(p.roomed t.sz).pages;rw[o.1,Xr (by rw[g,g0];decide)]
     ·rw[g4,O];show _=(p.roomed t.sz).pages;rw[o.1,Xs (by rw[g];exact K)]
    ·rcases g2 with ⟨g0,K,g4,-⟩|⟨K,-,g4,-⟩
     ·have E:p.pages≠0:=fun h0=>by
       have b:=(Reg.room g0 (by omega)).1;rw[<-O] at h0
       exact b (Xf.1 h0)
      rw[g4,aj E];show _=(p.roomed t.sz).used;rw[o.2,Xr (by rw[g,g0];decide)]
     ·rw[g4];show _=(p.roomed t.sz).used;rw[o.2,Xs (by rw[g];exact K)]
   ·rename_i u
    obtain⟨b,r',J,C⟩:=R.reg k v s
    exact⟨b,r',by rw[show (y.withP (y.p.puts A l)).reg=y.reg from Z,G.other _ (fun e'=>u (R.inj k _ v p s z e'))];exact J,C⟩
  ·have an:∀ i q,(h.put a t t.sz).2.2.place i=some q->∃ q',h.place i=some q':=fun i q Q=>by
    rw[pl] at Q
    split at Q
    ·rename_i ei;exact⟨p,by rw[ei];exact z⟩
    ·exact⟨q,Q⟩
   obtain⟨q,a8⟩:=an k v s
   obtain⟨q',az⟩:=an k' U c
   exact R.inj k k' q q' a8 az he
  ·have aq:y.reg i=some r':=J;by_cases Q:i=φ a.region
   ·exact⟨a.region,_,by rw[pl,Xs Z],Q.symm⟩
   ·rw[G.other i Q] at aq
    obtain⟨k,q,s,au⟩:=R.onto i r' aq
    exact⟨k,q,by rw[pl,Xr (fun e'=>Q (by rw[<-au,e']))];exact s,au⟩
  ·intro i r' J aw m ay a6;have b:=ae i r' J aw m ay a6;have C:(y.p.fill A (t.sz:Int).toNat).ws m=0:=b;unfold PSt.fill at C;simp only at C
   split at C
   ·cases C
   ·rename_i a9
    show (y.p.puts A l).ws m=0;rw[ws,Xr (by omega)]
    exact C
  ·rcases N k v i w s D with ⟨u,ei,et⟩|⟨X,F,E,P⟩
   ·subst et;rw[u,ei]
    refine⟨by simp only[and_self,if_true];exact af,fun d m x B=>?_,fun d=>?_,fun d m x B=>?_⟩
    ·simp only[and_self,if_true]
     have hm:=(Zi B).1;show Rep _ _ _ x ((y.p.puts A l).ws (A+m));rw[ws,Xs (by rw[(hl.1 d).1];omega),show A+m - A=m by omega]
     exact aa _ _ ((hl.1 d).2 m x B)
    ·simp only[and_self,if_true]
     show (y.p.puts A l).ws A=_;rw[ws,(hl.2 d).1,Xs (by simp)]
     first | done | simp
    ·simp only[and_self,if_true]
     have hm:=(Zi B).1;have ah:=(hl.2 d).2 m x B;refine⟨by rw[ah];first | done | rfl,?_⟩
     show (y.p.puts A l).ws (A+1+m)=x.n;rw[ws,(hl.2 d).1,Xr (by simp only[List.length_singleton];omega),ah]
     have:=ag (1+m) (by rw[w.sz_a d];omega)
     rw[show ((A:Int)+((1+m:Nat):Int)).toNat=A+1+m by omega] at this
     rw[this];rfl
   ·obtain⟨a1,a2,a3,a4⟩:=R.thing k F i w E P
    have hs:=w.sz_pos;refine⟨by simp only[if_neg X];exact ao _ a1,fun d m x B=>?_,fun d=>?_,fun d m x B=>?_⟩
    ·simp only[if_neg X]
     have hm:=(Zi B).1
     have:=w.sz_l d
     show Rep _ _ _ x ((y.p.puts A l).ws (π k i+m));rw[L _ a1 (π k i+m) (by simp only;omega) (by simp only;omega)]
     exact aa _ _ (a2 d m x B)
    ·simp only[if_neg X]
     show (y.p.puts A l).ws (π k i)=_;rw[L _ a1 (π k i) (by simp only;omega) (by simp only;omega)]
     exact a3 d
    ·simp only[if_neg X]
     have hm:=(Zi B).1
     have:=w.sz_a d
     refine⟨(a4 d m x B).1,?_⟩
     show (y.p.puts A l).ws (π k i+1+m)=_;rw[L _ a1 (π k i+1+m) (by simp only;omega) (by simp only;omega)]
     exact(a4 d m x B).2
  ·have al:∀ W F i0 t0,h.place W=some F->F.l[i0]?=some t0->¬ (A<π W i0+t0.sz/\π W i0<A+t.sz):=fun W F i0 t0 b C=>by
    have:=(G1 _ (R.thing W F i0 t0 b C).run).apart ⟨φ W,π W i0,t0.sz⟩ (by simp)
    rw[hA] at this
    simp only at this
    omega
   rcases N k v i w s D with ⟨u,ei,et⟩|⟨ak,F,E,P⟩
   ·rcases N k' U i' T c av with ⟨V,ab,ar⟩|⟨ac,ad,I,M⟩
    ·exact absurd ⟨by rw[u,V],by rw[ei,ab]⟩ X
    ·simp only[if_pos (And.intro u ei),if_neg ac]
     rw[et]
     exact al k' ad i' T I M
   ·rcases N k' U i' T c av with ⟨V,ab,ar⟩|⟨ac,ad,I,M⟩
    ·simp only[if_pos (And.intro V ab),if_neg ak]
     rw[ar]
     have:=al k F i w E P
     omega
    ·simp only[if_neg ak,if_neg ac]
     exact R.apart k F i w k' ad i' T E P I M X
  ·rw[f]
   refine⟨fun b=>?_,fun _=>⟨by simp only;omega,by simp;omega,fun v c=>⟨fun b=>?_,fun _=>?_⟩⟩⟩
   ·exfalso;unfold Qw.knd at b;simp only at b;split at b<;>omega
   ·exfalso;unfold Qw.knd at b;simp only at b;split at b<;>omega
   ·have ai:(h.put a t t.sz).2.2.place j=some v:=by rw[f];exact c
    rw[pl,Xs hj.symm] at ai
    cases ai
    refine⟨by simp,by simp,?_⟩
    simp[hj]
end
section
variable {h:Qd}{e:Est}{φ:Int->Nat}{π:Int->Nat->Nat}
theorem PSt.load_at {s:PSt}(a:k<16*s.pages):s.load (k:Int)=s.ws k:=by
 unfold PSt.load PSt.place;rw[Xs (by simp;omega),XT]
theorem Qbc.low {q:Run}(d:Qbc e q) (ok:e.Ok):0<=q.at_/\q.at_+q.n<=16*e.p.pages:=by
 obtain⟨j,r,p,f,b,c,h,g,i,-⟩:=d
 have a:p∈e.pagesAt j:=by rw[Est.at_some b];exact c
 have:=ok.low a
 omega
theorem Qbc.out {q:Run}(l:Qbc e q) (ok:e.Ok){r:Reg}(a:e.reg j=some r) (b:r.pages≠[])(u:16*r.pages.getLastD 0+r.used<=i) (v:(i:Int)<16*r.pages.getLastD 0+16):¬ (q.at_<=i/\i<q.at_+q.n):=fun ⟨w,y⟩=>by
 obtain⟨f,A,p,t,d,g,B,z,x,h⟩:=l
 have o:p∈e.pagesAt f:=by rw[Est.at_some d];exact g
 have m:r.pages.getLastD 0∈e.pagesAt j:=by rw[Est.at_some a];exact QcC b
 have s:=ok.used j r a;have c:p=r.pages.getLastD 0:=by omega
 have k:=ok.apart f j p o (c ▸ m);subst k;rw[d] at a
 cases a
 have:=h c
 omega
theorem Qa9.at (R:Qa9 h e φ π){x:Q4}{n:Int}(H:Rep h φ π x n){t:Qw}(b:h.thing x=some t):n=π x.region x.thing.toNat/\QlK h e φ π x.region x.thing.toNat t:=by
 obtain⟨g,p,a,k,d,l⟩:=Qd.thing_iff.1 b
 obtain⟨i,j,c⟩:=H.2 (by omega)
 obtain⟨-,f⟩:=c p a
 exact⟨(f (by omega)).2.2,R.thing _ p _ t a d⟩
theorem Qa9.load (R:Qa9 h e φ π){k:Int}{t:Qw}(T:QlK h e φ π k i t)(a:m<t.sz):e.p.load ((π k i+m:Nat):Int)=e.p.ws (π k i+m) :=
 PSt.load_at (by have:=T.run.low R.ok;simp only at this;omega)
theorem Qa9.get (R:Qa9 h e φ π){x:Q4}{n:Int}(H:Rep h φ π x n) (d:x.kind=3){k:Int}(a:(h.get x k).2=0):0<=k/\k<16/\Rep h φ π (h.get x k).1 (e.p.load (n+k)):=by
 unfold Qd.get at a |-
 cases ht:h.thing x with
 | none=>rw[ht] at a;cases a
 | some t =>
   rw[ht] at a
   simp only at a |-
   by_cases c:k<0
   ·rw[Xs c] at a;cases a
   ·rw[Xr c] at a |-
    cases hy:t.l[k.toNat]? with
    | none=>rw[hy] at a;cases a
    | some y =>
      obtain⟨f,T⟩:=R.at H ht
      have b:t.arr=false:=by
       obtain⟨-,p,-,-,-,b⟩:=Qd.thing_iff.1 ht
       rw[b];simp[d]
      have g:=(Zi hy).1;have q:=t.sz_l b;have j:=T.run
      have o:t.sz<=16:=by
       obtain⟨_,_,_,_,_,_,m,i,_,_⟩:=j
       simp only at m i;omega
      refine⟨by omega,by omega,?_⟩
      simp only
      have:=T.tuple b k.toNat y hy
      rw[f,show ((π x.region x.thing.toNat:Int)+k)=((π x.region x.thing.toNat+k.toNat:Nat):Int) by omega,R.load T (by omega)]
      exact this
theorem Qa9.len (R:Qa9 h e φ π){x:Q4}{n:Int}(H:Rep h φ π x n) (c:x.kind=4) (b:(h.len x).2=0):e.p.load n=(h.len x).1:=by
 unfold Qd.len at b |-
 cases ht:h.thing x with
 | none=>rw[ht] at b;cases b
 | some t =>
   obtain⟨d,T⟩:=R.at H ht
   have a:t.arr=true:=by
    obtain⟨-,p,-,-,-,a⟩:=Qd.thing_iff.1 ht
    rw[a];simp[c]
   have:=R.load T (m:=0) t.sz_pos
   rw[Nat.add_zero] at this
   simp only
   rw[d,this,T.len a]
theorem Qa9.num (R:Qa9 h e φ π){x:Q4}{n:Int}(H:Rep h φ π x n) (f:x.kind=4){k:Int}(b:(h.get x k).2=0\/(h.get x k).2=1) :
 ((h.get x k).2=1↔¬ (0<=k/\k<e.p.load n))/\((h.get x k).2=0->(h.get x k).1.kind=1/\e.p.load (n+1+k)=(h.get x k).1.n/\n+1+k<2000/\0<=n/\0<=k):=by
 unfold Qd.get at b |-
 cases ht:h.thing x with
 | none=>rw[ht] at b;simp at b
 | some t =>
   obtain⟨c,T⟩:=R.at H ht
   have a:t.arr=true:=by
    obtain⟨-,p,-,-,-,a⟩:=Qd.thing_iff.1 ht
    rw[a];simp[f]
   have q:e.p.load n=t.l.length:=by
    have:=R.load T (m:=0) t.sz_pos
    rw[Nat.add_zero] at this
    rw[c,this,T.len a]
   rw[q]
   simp only
   by_cases d:k<0
   ·rw[Xs d]
    refine⟨⟨fun _=>by omega,fun _=>rfl⟩,fun h=>by cases h⟩
   ·rw[Xr d]
    cases hy:t.l[k.toNat]? with
    | none =>
      have:=List.getElem?_eq_none_iff.1 hy
      exact⟨⟨fun _=>by omega,fun _=>rfl⟩,fun h=>by cases h⟩
    | some y =>
      have i:=(Zi hy).1;refine⟨⟨fun h=>(by cases h),fun h=>absurd ⟨by omega,by omega⟩ h⟩,fun _=>?_⟩
      obtain⟨g,j⟩:=T.nums a k.toNat y hy
      have o:=T.run.low R.ok;have r:=R.ok.ok.most;have s:=t.sz_a a;simp only at o |-
      refine⟨g,?_,by omega,by omega,by omega⟩
      rw[c,show ((π x.region x.thing.toNat:Int)+1+k)=((π x.region x.thing.toNat+(1+k.toNat):Nat):Int) by omega,R.load T (by omega),show π x.region x.thing.toNat+(1+k.toNat)=π x.region x.thing.toNat+1+k.toNat by omega]
      exact j
theorem Qa9.set (R:Qa9 h e φ π){x:Q4}{n:Int}(H:Rep h φ π x n){t:Qw}(ht:h.thing x=some t)(hk:k<t.l.length){y:Q4}{z:Int}
 (hy:t.arr=false→Rep h φ π y z) (hz:t.arr=true→y.kind=1∧z=y.n) :
 (h.set x (k:Int) y).1=0∧Qa9 (h.set x (k:Int) y).2 (e.withP (e.p.store (n+k+(if t.arr then 1 else 0)) z)) φ π∧∀ v m,Rep h φ π v m→Rep (h.set x (k:Int) y).2 φ π v m:=by
 obtain⟨ai,p,I,h0,hi,ha⟩:=Qd.thing_iff.1 ht
 obtain⟨hn,T⟩:=R.at H ht
 obtain⟨q0,q1,q2⟩:=Qd.place_some I
 have af:=(Zi q1).1
 have eS:h.set x (k:Int) y=(0,{ h with L:=h.L.set x.region.toNat { p with l:=p.l.set x.thing.toNat { t with l:=t.l.set k y } } }):=by
  unfold Qd.set;rw[ht,I]
  simp only
  rw[Xr (fun c=>c.2 (hz c.1).1),Xr (by omega),XT]
 have U:((x.region.toNat:Nat):Int)=x.region:=by omega
 have P:∀ i,(h.set x (k:Int) y).2.place i=if i=x.region then some { p with l:=p.l.set x.thing.toNat { t with l:=t.l.set k y } } else h.place i:=fun i=>by
  rw[eS];simp only
  rw[Qd.place_set af,U]
  simp only[q2,if_true]
 -- the word
 obtain⟨A,D⟩:∃ A,π x.region x.thing.toNat+k+(if t.arr then 1 else 0)=A:=⟨_,Z⟩
 have aj:π x.region x.thing.toNat≤A∧A<π x.region x.thing.toNat+t.sz:=by
  cases g:t.arr with
  | true=>rw[g] at D;have:=t.sz_a g;simp at D;omega
  | false=>rw[g] at D;have:=t.sz_l g;simp at D;omega
 have S:=T.run.low R.ok;simp only at S
 have eA:(n+k+(if t.arr then 1 else 0):Int)=(A:Int):=by
  rw[hn,← D]
  cases t.arr<;>simp
 have ae:e.p.place (A:Int)=true:=by simp[PSt.place];omega
 have es:e.p.store (n+k+(if t.arr then 1 else 0)) z={ e.p with ws:=fun i=>if (i:Int)=A then z else e.p.ws i }:=by
  rw[eA];unfold PSt.store;rw[Xs ae]
 rw[es]
 have ws:∀ i:Nat,(if (i:Int)=A then z else e.p.ws i)=if i=A then z else e.p.ws i:=fun i=>by
  by_cases c:i=A
  ·rw[Xs c,Xs (by omega)]
  ·rw[Xr c,Xr (by omega)]
 have E:∀ v m,Rep h φ π v m→Rep (h.set x (k:Int) y).2 φ π v m:=fun v m Hv=>Hv.mono (by rw[eS];simp) (fun j f _ _ a=>by
  rw[P] at a
  split at a
  ·rename_i u;cases a;exact⟨p,by rw[u];exact I,Z,by simp,fun _ _=>rfl⟩
  ·exact⟨f,a,Z,Ze,fun _ _=>rfl⟩)
 have Q:∀ j f i o,(h.set x (k:Int) y).2.place j=some f→f.l[i]?=some o→(j=x.region∧i=x.thing.toNat∧o={ t with l:=t.l.set k y })∨(¬ (j=x.region∧i=x.thing.toNat)∧∃ w,h.place j=some w∧w.l[i]?=some o):=fun j f i o a d=>by
  rw[P] at a
  split at a
  ·rename_i u
   cases a
   simp only at d
   by_cases G:i=x.thing.toNat
   ·subst G
    have:=(Zi hi).1
    rw[List.getElem?_set_self this] at d
    cases d
    exact .inl ⟨u,Z,Z⟩
   ·rw[List.getElem?_set_ne (Ne.symm G)] at d
    exact .inr ⟨fun c=>G c.2,p,by rw[u];exact I,d⟩
  ·rename_i u
   exact .inr ⟨fun c=>u c.1,f,a,d⟩
 have V:({ t with l:=t.l.set k y }:Qw).sz=t.sz:=by unfold Qw.sz;simp
 have B:∀ (j:Int) (f:Qr) (i:Nat) (o:Qw),(h.set x (k:Int) y).2.place j=some f→f.l[i]?=some o→∃ (w:Qr) (t0:Qw),h.place j=some w∧w.l[i]?=some t0∧o.sz=t0.sz:=fun j f i o N O=>by
  rcases Q j f i o N O with ⟨u,G,et⟩|⟨-,w,h3,h4⟩
  ·exact⟨p,t,by rw[u];exact I,by rw[G];exact hi,by rw[et,V]⟩
  ·exact⟨w,o,h3,h4,Z⟩
 refine⟨by rw[eS],⟨⟨⟨R.ok.ok.most,R.ok.ok.low,R.ok.ok.high,R.ok.ok.nodup,R.ok.ok.mem⟩,R.ok.top,R.ok.nodup,R.ok.apart,R.ok.mem,R.ok.used⟩,by rw[eS];exact R.left,fun j f a=>?_,fun j W f K a C he=>?_,fun i r hr=>?_,fun j r hr F i N O=>?_,fun j f i o a d=>?_,fun j f i o W K i' ah a d C X ad=>?_⟩,E⟩
 ·rw[P] at a
  split at a
  ·rename_i u;cases a;rw[u];exact R.reg _ p I
  ·exact R.reg j f a
 ·have ac:∀ i q,(h.set x (k:Int) y).2.place i=some q→∃ q',h.place i=some q':=fun i q J=>by
   rw[P] at J
   split at J
   ·rename_i G;exact⟨p,by rw[G];exact I⟩
   ·exact⟨q,J⟩
  obtain⟨q,J⟩:=ac j f a
  obtain⟨q',ag⟩:=ac W K C
  exact R.inj j W q q' J ag he
 ·obtain⟨j,q,J,hj⟩:=R.onto i r hr
  by_cases u:j=x.region
  ·exact⟨j,_,by rw[P,Xs u],hj⟩
  ·exact⟨j,q,by rw[P,Xr u];exact J,hj⟩
 ·show (if (i:Int)=A then z else e.p.ws i)=0;rw[ws,Xr (fun c=>T.run.out R.ok hr F N O (by subst c;simp only;omega))]
  exact R.clear j r hr F i N O
 ·rcases Q j f i o a d with ⟨u,G,et⟩|⟨F,w,aa,ab⟩
  ·subst et;rw[u,G]
   refine⟨by rw[V];exact T.run,fun g m v s=>?_,fun g=>?_,fun g m v s=>?_⟩
   ·have b:t.arr=false:=g;show Rep _ _ _ v (if ((π x.region x.thing.toNat+m:Nat):Int)=A then z else _);rw[ws]
    rw[b] at D
    simp at D
    simp only at s
    by_cases M:m=k
    ·subst M;rw[List.getElem?_set_self hk] at s
     cases s
     rw[Xs (by omega)]
     exact E _ _ (hy b)
    ·rw[List.getElem?_set_ne (Ne.symm M)] at s
     rw[Xr (by omega)]
     exact E _ _ (T.tuple b m v s)
   ·have b:t.arr=true:=g;show (if ((π x.region x.thing.toNat:Nat):Int)=A then z else _)=_;rw[b] at D
    simp at D
    rw[ws,Xr (by omega),T.len b]
    simp
   ·have b:t.arr=true:=g;show v.kind=1∧(if ((π x.region x.thing.toNat+1+m:Nat):Int)=A then z else _)=_;rw[ws]
    rw[b] at D
    simp at D
    simp only at s
    by_cases M:m=k
    ·subst M;rw[List.getElem?_set_self hk] at s
     cases s
     rw[Xs (by omega)]
     exact hz b
    ·rw[List.getElem?_set_ne (Ne.symm M)] at s
     rw[Xr (by omega)]
     exact T.nums b m v s
  ·have TT:=R.thing j w i o aa ab;have ak:=R.apart j w i o x.region p x.thing.toNat t aa ab I hi (fun c=>F c);have hs:=o.sz_pos;refine⟨TT.run,fun g m v s=>?_,fun g=>?_,fun g m v s=>?_⟩
   ·have M:=(Zi s).1
    have:=o.sz_l g
    show Rep _ _ _ v (if ((π j i+m:Nat):Int)=A then z else _);rw[ws,Xr (by omega)]
    exact E _ _ (TT.tuple g m v s)
   ·show (if ((π j i:Nat):Int)=A then z else _)=_;rw[ws,Xr (by omega)]
    exact TT.len g
   ·have M:=(Zi s).1
    have:=o.sz_a g
    refine⟨(TT.nums g m v s).1,?_⟩
    show (if ((π j i+1+m:Nat):Int)=A then z else _)=_;rw[ws,Xr (by omega)]
    exact(TT.nums g m v s).2
 ·obtain⟨w,t0,N,O,h3⟩:=B j f i o a d
  obtain⟨p1,t1,h4,h5,h6⟩:=B W K i' ah C X
  rw[h3,h6]
  exact R.apart j w i t0 W p1 i' t1 N O h4 h5 ad
end
structure FrR (h:Qd) (φ:Int->Nat) (π:Int->Nat->Nat) (a:IFr) (b:RFr):Prop where
 eF:b.f=a.f
 eB:b.b=a.b
 eI:b.i=a.i
 len:b.v.length=a.v.length
 val:∀ (j:Nat) x n,a.v[j]?=some x->b.v[j]?=some n->Rep h φ π x n
def Qd0 (h:Qd) (φ:Int->Nat) (π:Int->Nat->Nat):List IFr->List RFr->Prop
 | [],[]=>True
 | a::l,b::k=>FrR h φ π a b/\Qd0 h φ π l k
 | _,_=>False
structure Sim (φ:Int->Nat) (π:Int->Nat->Nat) (M:IM) (R:RM):Prop where
 heap:Qa9 M.h R.e φ π
 done:R.done=M.done
 out:R.out=M.out
 back:R.back=M.back
 fuel:R.fuel=M.fuel
 fin:R.fin=M.fin
 inp:M.done=false->R.inp=M.inp
 top:M.done=false->FrR M.h φ π M.top R.top
 rest:M.done=false->Qd0 M.h φ π M.rest R.rest
def Qex (M:IM) (R:RM):Prop:=∃ φ π,Sim φ π M R
section
variable {h h':Qd}{e:Est}{φ φ':Int->Nat}{π π':Int->Nat->Nat}{M:IM}{R:RM}{x:Qs}{a:IFr}{b:RFr}
theorem FrR.mono (F:FrR h φ π a b) (d:∀ x n,Rep h φ π x n->Rep h' φ' π' x n):FrR h' φ' π' a b:=⟨F.eF,F.eB,F.eI,F.len,fun j x n e c=>d x n (F.val j x n e c)⟩
theorem Qd0.mono (c:∀ x n,Rep h φ π x n->Rep h' φ' π' x n):∀ {l:List IFr}{k:List RFr},Qd0 h φ π l k->Qd0 h' φ' π' l k
 | [],[],_=>trivial
 | a::l,b::k,H=>⟨H.1.mono c,Qd0.mono c H.2⟩
 | [],_::_,H=>H.elim
 | _::_,[],H=>H.elim
theorem Qd0.length:∀ {l:List IFr}{k:List RFr},Qd0 h φ π l k->k.length=l.length
 | [],[],_=>rfl
 | a::l,b::k,H=>congrArg (·+1) (Qd0.length H.2)
 | [],_::_,H=>H.elim
 | _::_,[],H=>H.elim
theorem FrR.at (F:FrR h φ π a b){k:Int}{x:Q4}(c:QR a.v k=some x):∃ n,iAt b.v k=some n/\Rep h φ π x n:=by
 unfold QR at c;unfold iAt;split at c
 ·cases c
 ·rename_i e
  rw[Xr e]
  have f:=(Zi c).1;obtain⟨n,d⟩:∃ n,b.v[k.toNat]?=some n:=⟨_,Zg (by rw[F.len];exact f)⟩
  exact⟨_,d,F.val _ x _ c d⟩
theorem FrR.num (F:FrR h φ π a b){k n:Int}(c:QS a.v k=some n):iAt b.v k=some n:=by
 unfold QS at c
 cases hv:QR a.v k with
 | none=>rw[hv] at c;cases c
 | some y =>
   rw[hv] at c
   simp only at c
   split at c
   ·rename_i e
    cases c
    obtain⟨m,f,d⟩:=F.at hv
    rw[f,d.1 e]
   ·cases c
theorem FrR.all (F:FrR h φ π a b):∀ {l:List Int}{xs:List Q4},Q8 a.v l=some xs->∃ ns,QaA b.v l=some ns/\xs.length=l.length/\ns.length=xs.length/\∀ (j:Nat) x n,xs[j]?=some x->ns[j]?=some n->Rep h φ π x n
 | [],xs,hx=>by cases hx;exact⟨[],Z,Z,Z,fun j x n h=>by simp at h⟩
 | k::l,xs,hx=>by
   simp only[Q8] at hx
   cases h1:QR a.v k with
   | none=>rw[h1] at hx;cases hx
   | some y =>
     rw[h1] at hx
     simp only at hx
     cases h2:Q8 a.v l with
     | none=>rw[h2] at hx;cases hx
     | some ys =>
       rw[h2] at hx
       simp only at hx
       cases hx
       obtain⟨n,i,o⟩:=F.at h1
       obtain⟨ns,g,f,e,p⟩:=F.all h2
       refine⟨n::ns,by simp only[QaA,i,g],by simp[f],by simp[e],fun j z m d c=>?_⟩
       cases j with
       | zero=>simp at d c;subst d c;exact o
       | succ j=>exact p j z m (by simpa using d) (by simpa using c)
theorem FrR.nums (F:FrR h φ π a b):∀ {l:List Int}{ns:List Int},Qco a.v l=some ns->QaA b.v l=some ns
 | [],ns,hx=>by cases hx;rfl
 | k::l,ns,hx=>by
   simp only[Qco] at hx
   cases h1:QS a.v k with
   | none=>rw[h1] at hx;cases hx
   | some y =>
     rw[h1] at hx
     simp only at hx
     cases h2:Qco a.v l with
     | none=>rw[h2] at hx;cases hx
     | some ys =>
       rw[h2] at hx
       simp only at hx
       cases hx
       simp only[QaA,F.num h1,F.nums h2]
theorem FrR.push (F:FrR h φ π a b){xs:List Q4}{ns:List Int}(l:ns.length=xs.length) (g:∀ (j:Nat) x n,xs[j]?=some x->ns[j]?=some n->Rep h φ π x n) (i j:Nat) (f:j=i):FrR h φ π ({ a with v:=a.v++xs,i:=i }) ({ b with v:=b.v++ns,i:=j }):=by
 refine⟨F.eF,F.eB,f,by simp[F.len,l],fun k x n d e=>?_⟩
 simp only at d e
 rcases Nat.lt_or_ge k a.v.length with c | c
 ·rw[XP c] at d
  rw[XP (by rw[F.len];exact c)] at e
  exact F.val k x n d e
 ·rw[XQ c] at d
  rw[XQ (by rw[F.len];exact c),F.len] at e
  exact g _ x n d e
theorem Qel (n:Int):Rep h φ π (Qct n) n:=⟨fun _=>rfl,fun a=>by unfold Qct at a;simp at a⟩
theorem Sim.over {H:Qa9 M.h R.e φ π}(c:R.out=M.out) (a:R.back=M.back) (b:R.fuel=M.fuel) (k:Int):Qex (M.over k) (R.over k) :=
 ⟨φ,π,H,Z,c,a,b,Z,(fun h=>by cases h),(fun h=>by cases h),(fun h=>by cases h)⟩
end
theorem Zp {a:Nat->Int}{t u:TT (n+1)}(h:t.ren m a=some u):u.1=t.1/\ZJ m a t.1 t.2.1=some u.2.1/\ZV (TT.ren m a) t.2.2=some u.2.2:=by
 simp only[TT.ren] at h
 cases e1:ZJ m a t.1 t.2.1 with
 | none=>simp[e1] at h
 | some r1 =>
   simp only[e1] at h
   cases e2:ZV (TT.ren m a) t.2.2 with
   | none=>simp[e2] at h
   | some l1 =>
     simp only[e2] at h
     have h:=Xn h;subst h;exact⟨Z,Z,Z⟩
theorem ZT {a:Nat->Int}{t:TT (n+1)}{r:Int}{l:List (TT n)}(c:ZJ m a t.1 t.2.1=some r) (b:ZV (TT.ren m a) t.2.2=some l):t.ren m a=some ((t.1,r,l):Int × Int × List (TT n)):=by
 simp only[TT.ren,c,b]
 rfl
theorem TT.ren_inv {m b:Nat}{l a:Nat->Int}(d:∀ k r r',ZJ m l k r=some r'->ZJ b a k r'=some r):{n:Nat}->{t u:TT n}->t.ren m l=some u->u.ren b a=some t
 | 0,t,_,_=>Empty.elim t
 | n+1,t,u,h=>by
   obtain⟨f,s,q⟩:=Zp h
   obtain⟨e,o⟩:=ZR.1 q
   have p:ZV (TT.ren b a) u.2.2=some t.2.2:=by
    refine ZR.2 ⟨e.symm,fun i x c=>?_⟩;have g:i<t.2.2.length:=by rw[<-e];exact(Zi c).1
    have j:=o i t.2.2[i] (Zg g);rw[c] at j
    rw[Zg g]
    exact TT.ren_inv d j
   have:=ZT (t:=u) (by rw[f];exact d _ _ _ s) p
   rw[this,f]
   rfl
theorem TT.ren_comp {m j d:Nat}{g e a:Nat->Int}(q:∀ k r r',ZJ m g k r=some r'->∃ r'',ZJ j e k r'=some r''/\ZJ d a k r=some r''):{n:Nat}->{t u:TT n}->t.ren m g=some u->∃ v,u.ren j e=some v/\t.ren d a=some v
 | 0,t,_,_=>Empty.elim t
 | n+1,t,u,h=>by
   obtain⟨p,E,I⟩:=Zp h
   obtain⟨r'',J,G⟩:=q _ _ _ E
   obtain⟨A,D⟩:=ZR.1 I
   have o:∀ (l c:List (TT n)),c.length=l.length->(∀ (i:Nat) x,l[i]?=some x->x.ren m g=c[i]?)->∃ b,ZV (TT.ren j e) c=some b/\ZV (TT.ren d a) l=some b:=by
    intro l
    induction l with
    | nil =>
      intro c f _
      have:c=[]:=Xf.1 f
      subst this;exact⟨[],Z,Z⟩
    | cons x xs ih =>
      intro c f s
      cases c with
      | nil=>simp at f
      | cons y ys =>
        obtain⟨v,C,B⟩:=TT.ren_comp q (t:=x) (u:=y) (by simpa using s 0 x Z)
        obtain⟨H,w,M⟩:=ih ys (by simpa using f) (fun i z L=>by simpa using s (i+1) z (by simpa using L))
        exact⟨v::H,by simp[ZV,C,w],by simp[ZV,B,M]⟩
   obtain⟨b,K,F⟩:=o t.2.2 u.2.2 A D
   refine⟨((t.1,r'',b):Int × Int × List (TT n)),?_,ZT G F⟩
   have:=ZT (t:=u) (by rw[p];exact J) K
   rw[this,p]
   rfl
theorem TT.at_back:{j:Nat}->(k:Nat)->(t:TT (j+1))->t.height<=k->((t.at k).at j:TT (j+1))=t
 | 0,0,t,h=>by
   obtain⟨a,b,l⟩:=t
   cases l with
   | nil=>rfl
   | cons x l=>exact Empty.elim x
 | 0,k+1,t,h=>by
   obtain⟨a,b,l⟩:=t
   cases l with
   | nil=>rfl
   | cons x l=>exact Empty.elim x
 | j+1,0,t,h=>by
   have:=(Q9 (t:=t)).1 h
   obtain⟨a,b,l⟩:=t
   cases l with
   | nil=>rfl
   | cons x l=>have:=this x (by simp);omega
 | j+1,k+1,t,h=>by
   have c:=(Q9 (t:=t)).1 h;obtain⟨a,b,l⟩:=t
   show ((a,b,(l.map (TT.at k)).map (TT.at j)):Int × Int × List (TT (j+1)))=(a,b,l)
   have:(l.map (TT.at k)).map (TT.at j)=l:=by
    rw[List.map_map]
    have e:∀ x∈l,((TT.at j ∘ TT.at k) x:TT (j+1))=x:=fun x d=>TT.at_back k x (by have:=c x d;omega)
    calc l.map (TT.at j ∘ TT.at k)=l.map id:=List.map_congr_left e
     _=l:=List.map_id l
   rw[this]
theorem Qiw {n m k:Nat}{a:Nat->Int}:∀ {l l':List (TT n)},(∀ x∈l,∀ u,x.ren m a=some u->(x.at k).ren m a=some (u.at k))->ZV (TT.ren m a) l=some l'->ZV (TT.ren m a) (l.map (TT.at k))=some (l'.map (TT.at k))
 | [],l',_,h=>by simp[ZV] at h;subst h;rfl
 | x::xs,l',hx,h=>by
   simp only[ZV] at h
   cases h1:x.ren m a with
   | none=>simp[h1] at h
   | some y =>
     simp only[h1] at h
     cases h2:ZV (TT.ren m a) xs with
     | none=>simp[h2] at h
     | some ys =>
       simp only[h2] at h
       cases h
       have c:=hx x (by simp) y h1;have b:=Qiw (k:=k) (fun z d=>hx z (by simp[d])) h2;simp only[List.map_cons,ZV,c,b]
theorem TT.ren_at {m:Nat}{a:Nat->Int}:{n:Nat}->(k:Nat)->{t u:TT n}->t.ren m a=some u->(t.at k).ren m a=some (u.at k)
 | 0,_,t,_,_=>Empty.elim t
 | n+1,0,t,u,h=>by
   obtain⟨b,c,d⟩:=Zp h
   have:(t.at 0).ren m a=some (((t.at 0).1,u.2.1,[]):Int × Int × List (TT 0)):=ZT (t:=t.at 0) c Z
   rw[this]
   show some ((t.1,u.2.1,[]):Int × Int × List (TT 0))=some ((u.1,u.2.1,[]):Int × Int × List (TT 0));rw[b]
 | n+1,k+1,t,u,h=>by
   obtain⟨b,c,d⟩:=Zp h
   have e:=Qiw (k:=k) (fun x _ v f=>TT.ren_at k f) d
   have:(t.at (k+1)).ren m a=some (((t.at (k+1)).1,u.2.1,u.2.2.map (TT.at k)):Int × Int × List (TT (k+1))):=ZT (t:=t.at (k+1)) c e
   rw[this]
   show some ((t.1,u.2.1,u.2.2.map (TT.at k)):Int × Int × List (TT (k+1)))=some ((u.1,u.2.1,u.2.2.map (TT.at k)):Int × Int × List (TT (k+1)));rw[b]
theorem Qec {α:Type}{f:α->Option α}:∀ {l l':List α}{i:Nat}{x:α},ZV f l=some l'->l[i]?=some x->∃ y,l'[i]?=some y/\f x=some y
 | [],_,_,_,_,h=>by simp at h
 | z::zs,l',i,x,h,hx=>by
   simp only[ZV] at h
   cases h1:f z with
   | none=>simp[h1] at h
   | some y =>
     simp only[h1] at h
     cases h2:ZV f zs with
     | none=>simp[h2] at h
     | some ys =>
       simp only[h2] at h
       cases h
       cases i with
       | zero=>simp at hx;subst hx;exact⟨y,by simp,h1⟩
       | succ i=>simpa using Qec (i:=i) h2 (by simpa using hx)
abbrev Sig:=Int->Nat->Option (TT 6)
def Qej (s:Sig) (x:Q4) (t:TT 6):Prop :=
 (t.kind=1/\x.kind=1)\/(t.kind=2/\x.kind=2/\x.region=t.r)\/((t.kind=3\/t.kind=4)/\x.kind=t.kind/\x.region=t.r/\0<=x.thing/\s x.region x.thing.toNat=some t)
def Sig.le (s s':Sig):Prop:=∀ k i t,s k i=some t->s' k i=some t
theorem Qej.mono {s b:Sig}(h:s.le b){x:Q4}{t:TT 6}(c:Qej s x t):Qej b x t:=by
 rcases c with a | a | ⟨a,d,f,g,e⟩
 ·exact .inl a
 ·exact .inr (.inl a)
 ·exact .inr (.inr ⟨a,d,f,g,h _ _ _ e⟩)
def QbA (s:Sig) (t:Qw) (u:TT 6):Prop :=
 (t.arr=true/\u.kind=4/\∀ (y:Q4),y∈t.l->y.kind=1) \/
 (t.arr=false/\u.kind=3/\t.l.length=u.2.2.length/\∀ (j:Nat) (y:Q4) (w:TT 5),t.l[j]?=some y->u.2.2[j]?=some w->Qej s y (w.at 5))
theorem QbA.mono {s b:Sig}(h:s.le b){t:Qw}{u:TT 6}(d:QbA s t u):QbA b t u:=by
 rcases d with a | ⟨a,e,f,i⟩
 ·exact .inl a
 ·exact .inr ⟨a,e,f,fun j y w c g=>(i j y w c g).mono h⟩
structure StT (s:Sig) (h:Qd):Prop where
 thing:∀ (k:Int) (p:Qr) (i:Nat) (t:Qw),h.place k=some p->p.l[i]?=some t->∃ u,s k i=some u/\u.r=k/\QbA s t u
 there:∀ (k:Int) (p:Qr) (i:Nat) (u:TT 6),h.place k=some p->s k i=some u->∃ t,p.l[i]?=some t
 range:∀ (k:Int) (i:Nat) (u:TT 6),s k i=some u->0<=k/\k<h.L.length
theorem StT.new (n:Nat):StT (fun _ _=>none) (Qd.new n):=⟨fun k p i t a=>by unfold Qd.place at a;simp[Qd.new] at a,fun k p i u a h=>(nomatch h),fun k i u h=>(nomatch h)⟩
theorem StT.open {s:Sig}{h:Qd}(S:StT s h):StT s h.open_.2.2:=by
 unfold Qd.open_;split
 ·exact S
 ·have f:=fun j=>Qd.place_push h newP j h.left;refine⟨fun k p i t a d=>?_,fun k p i u a b=>?_,fun k i u b=>?_⟩
  ·rw[f] at a
   by_cases e:k=h.L.length
   ·rw[Xs e] at a
    have c:some newP=some p:=a
    cases c;simp[newP] at d
   ·rw[Xr e] at a;exact S.thing k p i t a d
  ·rw[f] at a
   by_cases e:k=h.L.length
   ·have:=S.range k i u b;omega
   ·rw[Xr e] at a;exact S.there k p i u a b
  ·have:=S.range k i u b
   simp;omega
theorem StT.shut {s:Sig}{h:Qd}(S:StT s h) (v:Q4):StT s (h.shut v).2:=by
 unfold Qd.shut
 cases ha:h.at v with
 | none=>exact S
 | some p =>
   obtain⟨n,o,j,g,d,l⟩:=Qd.at_some ha
   have c:=(Zi d).1;simp only[g,Int.toNat_natCast]
   have f:=fun k=>Qd.place_set c noP (h.left+p.pages) k;refine⟨fun k q i t a m=>?_,fun k q i u a b=>?_,fun k i u b=>?_⟩
   ·rw[f] at a
    by_cases e:k=j
    ·rw[Xs e] at a;simp[noP] at a
    ·rw[Xr e] at a;exact S.thing k q i t a m
   ·rw[f] at a
    by_cases e:k=j
    ·rw[Xs e] at a;simp[noP] at a
    ·rw[Xr e] at a;exact S.there k q i u a b
   ·have:=S.range k i u b;simp;omega
def Sig.add (s:Sig) (k:Int) (i:Nat) (u:TT 6):Sig:=fun k' i'=>if k'=k/\i'=i then some u else s k' i'
theorem Sig.add_le {s:Sig}{k:Int}{u:TT 6}(h:s k i=none):s.le (s.add k i u):=fun c b t a=>by
 unfold Sig.add;rw[Xr (fun e=>by rw[e.1,e.2,h] at a;cases a)];exact a
theorem StT.put {s:Sig}{h:Qd}(S:StT s h){v:Q4}{t:Qw}{words:Int}{p:Qr}{u:TT 6}(C:h.at v=some p) (z:u.r=v.region) (K:QbA s t u) :
 (∃ s',s.le s'/\StT s' (h.put v t words).2.2/\((h.put v t words).2.1=0->Qej s' (h.put v t words).1 u)):=by
 obtain⟨O,G,j,b,H,J⟩:=Qd.at_some C
 have E:=(Zi H).1;by_cases e:p.tight words=true/\h.left=0
 ·rw[Qd.put_full t words C e.1 e.2]
  exact⟨s,fun _ _ _ h=>h,S,fun h=>by cases h⟩
 ·rw[Qd.put_ok t words C b e]
  have n:s v.region p.l.length=none:=by
   cases hs:s v.region p.l.length with
   | none=>rfl
   | some w =>
     obtain⟨y,f⟩:=S.there _ p _ w G hs
     have:=(Zi f).1
     omega
  have le:=Sig.add_le (u:=u) n;have M:=fun k=>Qd.place_set E { p.roomed words with l:=p.l++[t] } (h.roomLeft p words) k;have L:(p.roomed words).there=true:=by rw[Qr.roomed_there];exact J
  refine⟨s.add v.region p.l.length u,le,⟨fun k q i y a g=>?_,fun k q i w a d=>?_,fun k i w d=>?_⟩,fun _=>?_⟩
  ·rw[M] at a
   by_cases c:k=j
   ·rw[Xs c] at a
    simp only[L,if_true,Option.some.injEq] at a
    subst a;simp only at g
    rcases Nat.lt_or_ge i p.l.length with D | D
    ·rw[XP D] at g
     obtain⟨w,B,F,I⟩:=S.thing k p i y (by rw[c,<-b];exact G) g
     exact⟨w,le _ _ _ B,F,I.mono le⟩
    ·rw[XQ D] at g
     have:=(Zi g).1
     have N:i - p.l.length=0:=by simp at this;omega
     rw[N] at g;simp at g;subst g
     refine⟨u,?_,by rw[z,b,c],K.mono le⟩
     unfold Sig.add;rw[Xs ⟨by rw[b,c],by omega⟩]
   ·rw[Xr c] at a
    obtain⟨w,B,F,I⟩:=S.thing k q i y a g
    exact⟨w,le _ _ _ B,F,I.mono le⟩
  ·rw[M] at a
   unfold Sig.add at d;by_cases c:k=j
   ·rw[Xs c] at a
    simp only[L,if_true,Option.some.injEq] at a
    subst a;by_cases x:k=v.region/\i=p.l.length
    ·exact⟨t,by simp[x.2]⟩
    ·rw[Xr x] at d
     obtain⟨y,f⟩:=S.there k p i w (by rw[c,<-b];exact G) d
     exact⟨y,by rw[XP (Zi f).1];exact f⟩
   ·rw[Xr (fun e=>c (by rw[e.1,b]))] at d
    rw[Xr c] at a
    exact S.there k q i w a d
  ·unfold Sig.add at d;by_cases x:k=v.region/\i=p.l.length
   ·rw[x.1,b];simp;omega
   ·rw[Xr x] at d
    have:=S.range k i w d;simp;omega
  ·have m:s.add v.region p.l.length u (j:Int) p.l.length=some u:=by unfold Sig.add;rw[Xs ⟨b.symm,Z⟩]
   rcases K with ⟨A,o,-⟩|⟨A,o,-⟩
   ·exact .inr (.inr ⟨.inr o,by rw[o];unfold Qw.knd;rw[A];rfl,by rw[z,b],by simp,by simpa using m⟩)
   ·exact .inr (.inr ⟨.inl o,by rw[o];unfold Qw.knd;rw[A];rfl,by rw[z,b],by simp,by simpa using m⟩)
theorem Qej.thing {s:Sig}{h:Qd}(S:StT s h){x:Q4}{u:TT 6}(n:Qej s x u) (m:u.kind=3\/u.kind=4){p:Qr}(e:h.place u.r=some p):∃ t,h.thing x=some t/\QbA s t u/\x.kind=u.kind:=by
 rcases n with ⟨f,-⟩|⟨f,-⟩|⟨f,b,l,o,j⟩
 ·omega
 ·omega
 ·have a:h.place x.region=some p:=by rw[l];exact e
  obtain⟨t,g⟩:=S.there _ p _ u a j
  obtain⟨w,k,q,i⟩:=S.thing _ p _ t a g
  rw[j] at k;cases k
  refine⟨t,Qd.thing_iff.2 ⟨by rw[b];exact m,p,by rw[l];exact e,o,g,?_⟩,i,b⟩
  rcases i with ⟨d,c,-⟩|⟨d,c,-⟩
  ·rw[d,b,c];rfl
  ·rw[d,b,c];rfl
theorem StT.set {s:Sig}{h:Qd}(S:StT s h){v x:Q4}{t:Qw}{u:TT 6}(E:h.thing v=some t) (V:QbA s t u) (K:s v.region v.thing.toNat=some u) (G:t.arr=true->x.kind=1) (O:t.arr=false->∀ w,u.2.2[k]?=some w->Qej s x (w.at 5)) (T:k<t.l.length) :
 (h.set v (k:Int) x).1=0/\StT s (h.set v (k:Int) x).2:=by
 obtain⟨N,p,n,X,M,P⟩:=Qd.thing_iff.1 E
 obtain⟨q0,W,H⟩:=Qd.place_some n
 have A:=(Zi W).1
 have e:h.set v (k:Int) x=(0,{ h with L:=h.L.set v.region.toNat { p with l:=p.l.set v.thing.toNat { t with l:=t.l.set k x } } }):=by
  unfold Qd.set;rw[E,n]
  simp only
  rw[Xr (fun e=>e.2 (G e.1)),Xr (by omega),XT]
 rw[e]
 refine⟨Z,?_⟩
 have a:((v.region.toNat:Nat):Int)=v.region:=by omega
 have J:=fun j=>Qd.place_set A { p with l:=p.l.set v.thing.toNat { t with l:=t.l.set k x } } h.left j
 have B:QbA s { t with l:=t.l.set k x } u:=by
  rcases V with ⟨m,r,o⟩|⟨m,r,o,U⟩
  ·refine .inl ⟨m,r,fun y f=>?_⟩;rcases List.mem_or_eq_of_mem_set f with z | z
   ·exact o y z
   ·rw[z];exact G m
  ·refine .inr ⟨m,r,by simpa using o,fun j y w f g=>?_⟩;simp only at f
   by_cases d:j=k
   ·subst d;simp[T] at f
    subst f;exact O m w g
   ·rw[List.getElem?_set_ne (Ne.symm d)] at f
    exact U j y w f g
 refine⟨fun j q i D b c=>?_,fun j q i w b g=>?_,fun j i w g=>?_⟩
 ·rw[J] at b
  by_cases d:j=v.region.toNat
  ·rw[Xs d] at b
   simp only[H,if_true,Option.some.injEq] at b
   subst b;simp only at c
   by_cases I:i=v.thing.toNat
   ·subst I
    have:=(Zi M).1
    simp[this] at c
    subst c;obtain⟨w,F,Q,-⟩:=S.thing v.region p _ t n M
    rw[K] at F;cases F
    exact⟨u,by rw[d,a];exact K,by rw[d,a];exact Q,B⟩
   ·rw[List.getElem?_set_ne (Ne.symm I)] at c
    exact S.thing j p i D (by rw[d,a];exact n) c
  ·rw[Xr d] at b;exact S.thing j q i D b c
 ·rw[J] at b
  by_cases d:j=v.region.toNat
  ·rw[Xs d] at b
   simp only[H,if_true,Option.some.injEq] at b
   subst b;obtain⟨D,C⟩:=S.there j p i w (by rw[d,a];exact n) g
   have R:=(Zi C).1;exact⟨_,Zg (by simpa using R)⟩
  ·rw[Xr d] at b;exact S.there j q i w b g
 ·have:=S.range j i w g
  simpa using this
end Go.Proofs.YtjhdpajpibdnaafGreat
