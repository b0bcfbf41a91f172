import Derived.Test.YtiebmclhgebhpafGreatP2
import Derived.Deep.RegionWith
set_option maxHeartbeats 16000000
set_option maxRecDepth 100000
namespace Go.Proofs.YtiebmclhgebhpafGreat
open Go.ChangeShapes Go.WideShapes Go.ChangeAt Go.RowKit _root_.Go.Proofs.Tryz
set_option linter.unusedSimpArgs false
set_option linter.unusedVariables false
variable {w w' w6 w2 wc wr w1:World}{n b c X k m i B rc ac g cm N j fi bi bh R f q id cap most na ca fm d x fl cR rl al fc fd cA bl pages o ci lm cL fe:Nat}{O O' Q2 OO:Nat→Prop}{a p ag pm pa pR pA ra pi aa fp fq:Option Addr}{v u:Value}{Q:Exit→Act→World→Prop}{l inp:List Int}{t bt e:TypeId}{xa xc xb xk fr words xop xn:Int}{P:Program}{cs xs ds:List Value}{bs:List Bool}{ops:Array Oper}
theorem Qh {a w:World}(h:Below B a w) (n:Nat):Below B a (w.drewN n):=⟨h.os,h.tape,h.output,h.size,h.block⟩
theorem Qg {p:Prop}(h:p):Hid p:=h
def QeX (w:World) (O:Nat->Prop) (t:TypeId) (v:Value) (vs:List Value):Prop:=w.ownsRow 0 t 1 v vs.length vs/\∀ g,v.ownBlock=some g->O g
section
variable {w w':World}{O O':Nat->Prop}{t:TypeId}{v:Value}{vs:List Value}
theorem QeX.nil (w:World) (O:Nat->Prop) (t:TypeId):QeX w O t (Nv) []:=⟨⟨Z,Or.inl ⟨Z,Z⟩⟩,by simp[Value.ownBlock]⟩
theorem QeX.form (h:QeX w O t v vs):∃ a cap,v=.slice a vs.length cap/\(∀ i,i<vs.length->∃ g,a=some ⟨g,0,none⟩/\O g/\w.cell? ⟨g,i,none⟩=vs[i]?/\w.frozen? ⟨g,i,none⟩=false):=by
 obtain⟨⟨n,l⟩,k⟩:=h
 rcases l with ⟨rfl,d⟩|⟨g,cap,b,rfl,_,c,o,m,p,e⟩
 ·rw[d]
  exact⟨none,0,Z,fun i f=>by omega⟩
 ·refine⟨some ⟨g,0,none⟩,cap,Z,fun i f=>⟨g,Z,k g Z,?_,Qd c i⟩⟩
  have j:i<b.size:=by omega
  rw[Qa c i b[i] (by simp),<-e,XR,Xs (by omega),Array.getElem?_toList,Xj j]
theorem QeX.keep (h:QeX w O t v vs) (hb:∀ g,v.ownBlock=some g->w'.heap[g]?=w.heap[g]?) (i:∀ g,v.ownBlock=some g->O' g):QeX w' O' t v vs:=by
 obtain⟨⟨e,f⟩,k⟩:=h
 refine⟨⟨e,?_⟩,i⟩
 rcases f with j | ⟨g,a,b,rfl,d,c,r⟩
 ·exact Or.inl j
 ·exact Or.inr ⟨g,a,b,Z,d,(hb g Z).trans c,r⟩
theorem QeX.block (h:QeX w O t v vs)(b:v.ownBlock=some g):∃ c,w.heap[g]?=some (.cells c t (0,0)):=by
 obtain⟨⟨j,f⟩,k⟩:=h
 rcases f with ⟨rfl,_⟩|⟨i,d,a,rfl,_,e,r⟩
 ·simp[Value.ownBlock] at b
 ·simp[Value.ownBlock] at b;subst b;exact⟨a,e⟩
theorem QeX.lt (h:QeX w O t v vs)(a:v.ownBlock=some g):g<w.heap.size:=by
 obtain⟨c,b⟩:=h.block a
 exact XC b
theorem QeX.set (h:QeX w O t (.slice (some ⟨g,0,none⟩) n cap) vs) (i:Nat) (u:Value):QeX (w.setCell ⟨g,i,none⟩ u) O t (.slice (some ⟨g,0,none⟩) n cap) (vs.set i u):=by
 obtain⟨⟨q,k⟩,j⟩:=h
 rcases k with ⟨e,_⟩|⟨o,b,a,e,p,f,l,d,m,c⟩
 ·cases e
 ·cases e
  refine⟨⟨by simp,Or.inr ⟨g,cap,a.setIfInBounds i u,by simp,Xb _,Qm f i u,by simpa using l,d,by simpa using m,?_⟩⟩,j⟩
  rw[Array.toList_setIfInBounds,List.length_set,List.take_set,c]
end
def Qr (w:World) (b:Nat) (O:Nat->Prop) (L:List Bool):Prop :=
 ∃ v,w.heap[b]?=some (.cells #[v] 180 (0,0))/\QeX w O 4 v (L.map Value.bool)/\O b
section
variable {w w':World}{b:Nat}{O O' P P':Nat->Prop}{L:List Bool}
theorem Qr.keep (h:Qr w b O L) (hb:∀ g,O g->g<w.heap.size->w'.heap[g]?=w.heap[g]?) (f:∀ g,O g->g<w.heap.size->O' g):Qr w' b O' L:=by
 obtain⟨v,d,c,e⟩:=h
 exact⟨v,(hb b e (XC d)).trans d,c.keep (fun g a=>hb g (c.2 g a) (c.lt a)) (fun g a=>f g (c.2 g a) (c.lt a)),f b e (XC d)⟩
theorem Qr.below (h:Qr w b O L) (k:Below w.heap.size w w'):Qr w' b O L:=h.keep (fun g _ a=>k.block g a) (fun g a _=>a)
theorem Qr.mono (h:Qr w b O L) (c:∀ g,O g->O' g):Qr w b O' L:=h.keep (fun _ _ _=>rfl) (fun g a _=>c g a)
theorem Qr.lt (h:Qr w b O L):b<w.heap.size:=by obtain⟨v,a,d,c⟩:=h;exact XC a
theorem Qr.cells (h:Qr w b O L):∃ a cap,w.cell? ⟨b,0,none⟩=some (.slice a L.length cap)/\w.frozen? ⟨b,0,none⟩=false/\w.ownsRow 0 4 1 (.slice a L.length cap) L.length (L.map Value.bool) /\
 ∀ i,i<L.length->∃ g,a=some ⟨g,0,none⟩/\O g/\w.cell? ⟨g,i,none⟩=some (.bool (L.getD i false))/\w.frozen? ⟨g,i,none⟩=false/\∀ u,Qr (w.setCell ⟨g,i,none⟩ (.bool u)) b O (L.set i u):=by
 obtain⟨v,e,d,o⟩:=h
 obtain⟨a,cap,rfl,l⟩:=d.form
 rw[XN] at e d l
 have k:=d.1;rw[XN] at k
 refine⟨a,cap,Qa e 0 _ Z,Qd e 0,k,fun i j=>?_⟩
 obtain⟨g,rfl,m,n,p⟩:=l i j
 refine⟨g,Z,m,?_,p,fun u=>⟨.slice (some ⟨g,0,none⟩) L.length cap,?_,?_,o⟩⟩
 ·rw[n,XS,Zg j];simp[List.getD,j]
 ·obtain⟨c,f⟩:=d.block (g:=g) Z
  rw[Xd _ _ _ _ (QN e f (by decide))];exact e
 ·rw[List.map_set];exact d.set i (.bool u)
theorem Qr.push (h:Qr w b O L){cap2:Nat}{o:Obj}{w9:World}(c0:w.cell? ⟨b,0,none⟩=some (.slice a L.length cap))
 (B:w9.ownsRow 0 4 1 (.slice (some ⟨g,0,none⟩) (L.length+1) cap2) (L.length+1) (L.map Value.bool++[.bool true])) (f:(w.alloc o).grownBy w9 (Value.slice a L.length cap).ownBlock) (u:(Value.slice a L.length cap).ownBlock=some g\/g=w.heap.size+1) (z:g<w9.heap.size) :
 w9.cell? ⟨b,0,none⟩=some (.slice a L.length cap)/\w9.frozen? ⟨b,0,none⟩=false /\
 Qr (w9.setCell ⟨b,0,none⟩ (.slice (some ⟨g,0,none⟩) (L.length+1) cap2)) b (fun x=>O x\/(w.heap.size<=x/\x<w9.heap.size)) (L++[true])/\QZ O (fun x=>O x\/(w.heap.size<=x/\x<w9.heap.size)) w (w9.setCell ⟨b,0,none⟩ (.slice (some ⟨g,0,none⟩) (L.length+1) cap2)):=by
 obtain⟨v,l,n,t⟩:=h
 have e:=Qa l 0 _ Z;rw[c0] at e
 simp only[Option.some.injEq] at e
 subst e;have q:b<w.heap.size:=XC l
 have i:∀ j,(Value.slice a L.length cap).ownBlock=some j->b≠j:=fun j d=>by
  obtain⟨c,A⟩:=n.block d
  exact QN l A (by decide)
 have s:w9.heap[b]?=some (.cells #[.slice a L.length cap] 180 (0,0)):=by
  have:=f.block b (by simp;omega) (fun e=>i b e.symm Z)
  rw[this,Below.heap_alloc _ _ _ q];exact l
 have m:b≠g:=by
  rcases u with h | h
  ·exact i g h
  ·omega
 have r:=f.size;simp only[World.size_alloc] at r
 refine⟨Qa s 0 _ Z,Qd s 0,⟨.slice (some ⟨g,0,none⟩) (L.length+1) cap2,?_,⟨?_,fun j d=>?_⟩,.inl t⟩,?_⟩
 ·rw[Qm s];rfl
 ·have:QeX w9 (fun _=>True) 4 (.slice (some ⟨g,0,none⟩) (L.length+1) cap2) ((L++[true]).map Value.bool):=⟨by simpa using B,fun _ _=>trivial⟩
  exact(this.keep (w':=w9.setCell ⟨b,0,none⟩ (.slice (some ⟨g,0,none⟩) (L.length+1) cap2)) (O':=fun _=>True) (fun j d=>Xd _ _ _ _ (by simp[Value.ownBlock] at d;subst d;exact fun e=>m e.symm)) (fun _ _=>trivial)).1
 ·simp[Value.ownBlock] at d
  subst d;rcases u with h | h
  ·exact .inl (n.2 _ h)
  ·exact .inr ⟨by omega,z⟩
 ·refine⟨f.os,f.tape,f.output,by simp;omega,fun k p y=>?_,fun k p=>p.imp id fun h=>h.1⟩
  rw[Xd _ _ _ _ (fun e=>y (by subst e;exact t)),f.block k (by simp;omega) (fun e=>y (n.2 k e.symm)),Below.heap_alloc _ _ _ p]
end
theorem QdH {w:World}{b:Nat}{O:Nat->Prop}{L:List Bool}(r:Int) (f:L.length<=100000) (h:Qr w b O L) :
 Calls prog 159 #[Pv b 0,Iv r] w fun e w'=>e=.returned (.bool (Qa7 L r))/\w'=w:=by
 obtain⟨a,m,i,-,-,c⟩:=h.cells
 by_cases d:0<=r
 ·by_cases j:r<L.length
  ·obtain⟨k,rfl⟩:=Xc d
   obtain⟨g,rfl,-,o,-,-⟩:=c k (by omega)
   have E:Hid (Qa7 L (k:Int)=L.getD k false):=Qe0 L k;have s:k<L.length:=by omega
   clear h c;generalize L.getD k false=q at o E;generalize L.length=n at i j s f;go_enter func159,ntmps159
   go_wp2
   go_ret;exact⟨by rw[E.out];rfl,Z⟩
  ·have E:Hid (Qa7 L r=false):=by
    show _=_;obtain⟨k,rfl⟩:=Xc d
    rw[Qe0,QbP L (by omega)]
   have l:decide (r<(L.length:Int))=false:=by simpa using j
   clear h c;generalize L.length=n at i j l f;go_enter func159,ntmps159
   go_wp2
   go_ret;exact⟨by rw[E.out];rfl,Z⟩
 ·have E:Hid (Qa7 L r=false):=by show _=_;simp[Qa7,d]
  have p:decide (0<=r)=false:=by simpa using d
  clear h c;generalize L.length=n at i f;go_enter func159,ntmps159
  go_wp2
  go_ret;exact⟨by rw[E.out];rfl,Z⟩
theorem hUnderB:prog.underlying 178=some (.slice 4):=by kernel_rfl
theorem hInfoB0:(prog.info? 4).map (fun i=>(i.zero,i.size,i.bytes))=some (some (.bool false),1,1):=by kernel_rfl
theorem hInfoB:∃ i,prog.info? 4=some i/\i.zero=some (.bool false)/\i.size=1/\i.bytes=1:=by
 have h:=hInfoB0
 cases e:prog.info? 4 with
 | none=>rw[e] at h;cases h
 | some i =>
   rw[e] at h
   simp only[Option.map_some,Option.some.injEq,Prod.mk.injEq] at h
   exact⟨i,Z,h.1,h.2.1,h.2.2⟩
theorem Ql7 (q:Bool):∀ u∈[Value.bool q],u.oneCell'=true:=by
 intro u h;simp at h
 subst h;rfl
theorem Qfn (w:World) (n:Int) :
 Calls prog 101 #[Iv n] w fun e w'=>e=.returned (Pv w.heap.size 0)/\Qr w' w.heap.size (fun x=>w.heap.size<=x/\x<w'.heap.size) (QcT n)/\Below w.heap.size w w':=by
 obtain⟨T,U,s,m,t⟩:=hInfoB
 have Z:Hid (Qr (w.alloc (.cells #[Nv] 180)) w.heap.size (fun x=>w.heap.size<=x/\x<(w.alloc (.cells #[Nv] 180)).heap.size) []) :=
  ⟨Nv,Qe _ _ _,QeX.nil _ _ _,by simp⟩
 obtain⟨M,P⟩:∃ M,(min n 16).toNat=M:=⟨_,Yz⟩
 have E:Hid (QcT n=List.replicate M true):=by show _=_;rw[QcT,P]
 go_enter func101,ntmps101
 go_wp2
 go_loopw [4] (fun i wr=>∃ k:Nat,k<=M/\i=Iv k/\Qr wr w.heap.size (fun x=>w.heap.size<=x/\x<wr.heap.size) (List.replicate k true)/\Below w.heap.size w wr) (fun i _=>M - (intOf i).toNat)
 case atStart=>exact⟨0,Xb _,Yz,Z.out,Zr.alloc Ze _⟩
 case round =>
  obtain⟨k,F,rfl,A,I⟩:=hrel
  have f:Hid (Below w.heap.size w wr):=I;have v:Hid (Qr wr w.heap.size (fun x=>w.heap.size<=x/\x<wr.heap.size) (List.replicate k true)):=A;obtain⟨a,cap,u,N,j,-⟩:=A.cells
  have b:Hid (wr.ownsRow 0 4 1 (.slice a (List.replicate k true).length cap) (List.replicate k true).length ((List.replicate k true).map Value.bool)):=j;clear A I j Z;by_cases L:k<M
  ·have G:(k:Int)<n:=by omega
   have H:(k:Int)<16:=by omega
   have p:Hid (∀ g cap2 w9,w9.ownsRow 0 4 1 (.slice (some ⟨g,0,none⟩) (k+1) cap2) (k+1) ((List.replicate k true).map Value.bool++[.bool true])->(wr.alloc (.cells #[.bool true] 4)).grownBy w9 (Value.slice a k cap).ownBlock->((Value.slice a k cap).ownBlock=some g\/g=wr.heap.size+1)->g<w9.heap.size ->
    w9.cell? ⟨w.heap.size,0,none⟩=some (.slice a k cap)/\w9.frozen? ⟨w.heap.size,0,none⟩=false/\Qr (w9.setCell ⟨w.heap.size,0,none⟩ (.slice (some ⟨g,0,none⟩) (k+1) cap2)) w.heap.size (fun x=>w.heap.size<=x/\x<(w9.setCell ⟨w.heap.size,0,none⟩ (.slice (some ⟨g,0,none⟩) (k+1) cap2)).heap.size) (List.replicate (k+1) true)/\Below w.heap.size w (w9.setCell ⟨w.heap.size,0,none⟩ (.slice (some ⟨g,0,none⟩) (k+1) cap2))):=by
    intro g cap2 w9 l C O J;have r:=f.out.size;have y:=C.size;simp only[World.size_alloc] at y
    have:=v.out.push (a:=a) (cap:=cap) (cap2:=cap2) (g:=g) (o:=.cells #[.bool true] 4) (w9:=w9) u (by simpa using l) (by simpa using C) (by simpa using O) J
    simp only[List.length_replicate] at this
    refine⟨this.1,this.2.1,?_,f.out.trans (this.2.2.2.below r fun k F=>F.1)⟩
    rw[List.replicate_succ']
    refine this.2.2.1.mono fun x z=>?_;rw[World.size_setCell]
    rcases z with z | z<;>omega
   rw[List.length_replicate] at u b
   generalize (List.replicate k true).map Value.bool=X at b p;clear v f;go_wp2_with (at_builtin;refine wpList_append_lies _ Yz (.tmp 20) (.tmp 21) 178 Yz 0 4 T (.bool false) 1 1 hUnderB U s m t Yz (by decide) _ _ _ Yz (b.out.alloc _) ⟨wr.heap.size,0,none⟩ 1 1 [.bool true] Yz Yz (Qkm _ [_] _) (Ql7 _) (by decide) (by unfold maxLen;omega) (by omega) (by simp) (wr.heap.size+1) (by simp) ?_)
   intro S cap2 w9 l c h d;obtain⟨W,V,D,B⟩:=p.out S cap2 w9 l c h d
   have K:=Qg D;have Q:=Qg B;clear l c h d b p D B u N;go_wp2
   go_roundw
   case rel=>exact⟨k+1,by omega,by go_num,K.out,Q.out⟩
   case measure=>simp[intOf];omega
  ·have q:k=M:=by omega
   have R:Hid (Qr wr w.heap.size (fun x=>w.heap.size<=x/\x<wr.heap.size) (QcT n)):=by
    show Qr _ _ _ _;rw[E.out,<-q];exact v.out
   by_cases G:(k:Int)<n
   ·have H:decide ((k:Int)<16)=false:=by simp;omega
    go_wp2
    go_ret;exact⟨Yz,R.out,f.out⟩
   ·have H:decide ((k:Int)<n)=false:=by simpa using G
    go_wp2
    go_ret;exact⟨Yz,R.out,f.out⟩
theorem Qeg {w:World}{b:Nat}{O:Nat->Prop}{L:List Bool}(hL:L.length<=100000) (h:Qr w b O L) :
 Calls prog 106 #[Pv b 0] w fun e w'=>Qim w (hList L) e w':=by
 obtain⟨i0,V,R,K,S⟩:=pInfoI
 obtain⟨a0,B,T,-,-,X⟩:=h.cells
 have U:=h.lt
 have HC:Hid (∀ i,i<L.length->∃ g,a0=some ⟨g,0,none⟩/\g<w.heap.size/\w.cell? ⟨g,i,none⟩=some (.bool (L.getD i false))):=fun i V=>by
  obtain⟨g,e,-,z,-⟩:=X i V
  exact⟨g,e,Xi w ⟨g,i,none⟩ z,z⟩
 clear h X;go_enter func106,ntmps106
 go_wp2
 go_loopw [3,4] (fun v u wr=>∃ k o,u=Iv (k:Nat)/\k<=L.length/\Qag Lay.int 3 wr w.heap.size v (hTo L k) o/\Below w.heap.size w wr) (fun _ u _=>L.length - (intOf u).toNat)
 case atStart=>exact⟨0,[],Yz,Xb _,Qag.nil _ _ _ _,Zr⟩
 case round =>
  obtain⟨k,o,rfl,hk,W,J⟩:=hrel
  obtain⟨a,c,rfl⟩:=W.formP
  have t:Hid (Qag Lay.int 3 wr w.heap.size (.slice a (hTo L k).length c) (hTo L k) o):=W;have s:Hid (Below w.heap.size w wr):=J;have j:=QjL L k;have Q:w.heap.size<=wr.heap.size:=J.size;have N:wr.cell? ⟨b,0,none⟩=some (.slice a0 L.length B):=(J.cell (p:=⟨b,0,none⟩) U).trans T;clear W J;by_cases y:k<L.length
  ·have l:(k:Int)<L.length:=by omega
   obtain⟨g,rfl,P,z⟩:=HC.out k y
   have A:wr.cell? ⟨g,k,none⟩=some (.bool (L.getD k false)):=(s.out.cell (p:=⟨g,k,none⟩) P).trans z;clear z T
   cases hm:L.getD k false with
   | false =>
     have F:Hid (hTo L (k+1)=hTo L k):=by show _=_;rw[hTo,hm];simp
     rw[hm] at A
     clear hm;go_wp2
     go_roundw
     case rel=>exact⟨k+1,o,by go_num,by omega,by rw[F.out];exact t.out,s.out⟩
     case measure=>simp[intOf];omega
   | true =>
     have F:Hid (hTo L (k+1)=hTo L k++[(k:Int)]):=by show _=_;rw[hTo,hm];simp
     rw[hm] at A
     have d:Hid (wr.ownsRow w.heap.size 3 1 (.slice a (hTo L k).length c) (hTo L k).length o):=t.out.own
     have M:Hid (∀ g q r,r.ownsRow w.heap.size 3 1 (.slice (some ⟨g,0,none⟩) ((hTo L k).length+1) q) ((hTo L k).length+1) (o++[Iv (k:Int)])->(wr.alloc (.cells #[Iv (k:Int)] 3)).grownBy r (Value.slice a (hTo L k).length c).ownBlock->((Value.slice a (hTo L k).length c).ownBlock=some g\/g=wr.heap.size+1) ->
      Qag Lay.int 3 r w.heap.size (.slice (some ⟨g,0,none⟩) ((hTo L k).length+1) q) (hTo L (k+1)) (o++[Iv (k:Int)])/\Below w.heap.size w r):=by
      intro g q r I h2 h3;obtain⟨G,H⟩:=Qdi t.out (by omega) Q I h2 h3
      rw[F.out]
      exact⟨G,H w s.out⟩
     clear hm t s F;generalize (hTo L k).length=n at d M j |-;go_wp2_with (at_builtin;refine wpList_append_lies _ Yz (.tmp 21) (.tmp 23) 76 Yz w.heap.size 3 i0 (Iv 0) 1 8 pUnderI V R K S Yz (by decide) _ _ _ Yz (d.out.alloc _) ⟨wr.heap.size,0,none⟩ 1 1 [Iv (k:Int)] Yz Yz (Qkm _ [_] _) (Qmw _) (by decide) (by unfold maxLen;omega) (by omega) (by simp;omega) (wr.heap.size+1) (by simp) ?_)
     intro g2 x r I f C D;obtain⟨G,H⟩:=M.out g2 x r I f C
     have A9:=Qg G;have B9:=Qg H;clear I f C D d M G H;go_wp2
     go_roundw
     case rel=>exact⟨k+1,_,by go_num,by omega,A9.out,B9.out⟩
     case measure=>simp[intOf];omega
  ·have E:k=L.length:=by omega
   have Z:Hid (Qim w (hList L) (.returned (.slice a (hTo L k).length c)) wr):=by
    subst E;exact⟨a,c,Yz,t.out.lay,s.out⟩
   have l:¬ (k:Int)<L.length:=by omega
   clear t s j E T;generalize (hTo L k).length=n at Z;generalize L.length=m at N l y;go_wp2
   go_ret;exact Z.out
theorem Qgf {w:World}{Q:Nat->Prop}(x:Int) (r:l.length=N) (A:N<=100000) (p:intsL.In w Q l [.slice a N c]) :
 Calls prog 160 #[.slice a N c,Iv x] w fun e w'=>e=.returned (.bool (inB l x))/\w'=w:=by
 have u:Hid (∀ i x,l[i]?=some x->∃ g o,a=some ⟨g,o,none⟩/\w.cell? ⟨g,o+i,none⟩=some (Iv x)):=fun i x B=>by
  obtain⟨g,o,s,z,F,I,v,t,H⟩:=Yf p B
  have n:s=[Iv x]:=t;subst n;refine⟨g,o,z,?_⟩
  have:=v 0 (by decide)
  simpa[Lay.int] using this
 have j:Hid (l.length=N):=r;clear p r;go_enter func160,ntmps160
 go_wp2
 go_loop [5] (fun i=>∃ k:Nat,k<=N/\i=Iv k/\inB (l.take k) x=false) (fun i=>N - (intOf i).toNat)
 case atStart=>exact⟨0,Xb _,Z,by simp[inB]⟩
 case round =>
  obtain⟨k,G,rfl,d⟩:=hrel
  by_cases h:k<N
  ·have b:l[k]?=some (l[k]'(by rw[j.out];exact h)):=Zg _;generalize l[k]'(by rw[j.out];exact h)=y at b;obtain⟨g,o,rfl,D⟩:=u.out k y b
   have q:(k:Int)<N:=by omega
   by_cases f:y=x
   ·have E:Hid (inB l x=true):=Qc7.2 (by rw[<-f];exact Zm b);have m:(y==x)=true:=by simpa using f
    clear f d b;go_wp2
    go_ret;exact⟨by rw[E.out];rfl,Z⟩
   ·have m:(y==x)=false:=by simpa using f
    have C:Hid (inB (l.take (k+1)) x=false):=by
     show _=_;rw[XV,b,Option.toList_some,Qkz,d]
     simpa using f
    clear f d b;go_wp2
    go_round
    case rel=>exact⟨k+1,by omega,by go_num,C.out⟩
    case measure=>simp[intOf];omega
  ·have E:Hid (inB l x=false):=by
    rw[XO (by rw[j.out];omega)] at d
    exact d
   clear d;go_wp2
   go_ret;exact⟨by rw[E.out];rfl,Z⟩
theorem Qe6 {w:World}{Q:Nat->Prop}(h:intsL.In w Q l [.slice a N c])(hi:i<=l.length) (c':Nat):intsL.In w Q (l.take i) [.slice a i c']:=by
 obtain⟨g,d,e,f⟩:=h
 simp only[List.cons.injEq,Value.slice.injEq,and_true] at e
 obtain⟨rfl,_,rfl⟩:=e
 refine⟨a,c',by simp[Nat.min_eq_left hi],fun j x b=>f j x ?_⟩
 rw[XR] at b
 split at b
 ·exact b
 ·cases b
theorem Qhu {w:World}{b:Nat}{O:Nat->Prop}{L:List Bool}{Q:Nat->Prop}(hN:l.length=N) (aa:N<=100000) (ae:N<=c) (hL:L.length<=100000) (S:intsL.In w Q l [.slice a N c]) (h:Qr w b O L) :
 Calls prog 162 #[Pv b 0,.slice a N c] w fun e w'=>e=.returned (Iv (Qaa L [] l))/\Below w.heap.size w w':=by
 have HX:Hid (∀ i x,l[i]?=some x->∃ g o,a=some ⟨g,o,none⟩/\g<w.heap.size/\w.cell? ⟨g,o+i,none⟩=some (Iv x)):=fun i x m=>by
  obtain⟨g,o,P,V,e2,e3,U,R,hr⟩:=Yf S m
  have z:P=[Iv x]:=R;subst z;refine⟨g,o,V,e3,?_⟩
  have:=U 0 (by decide)
  simpa[Lay.int] using this
 have A:Hid (l.length=N):=hN;have HH:Hid (Qr w b O L):=h;have HI:Hid (intsL.In w Q l [.slice a N c]):=S;clear h S hN;go_enter func162,ntmps162
 go_wp2
 go_loopw [5] (fun u wr=>∃ k,u=Iv (k:Nat)/\k<=N/\(Qr wr b O L/\intsL.In wr Q l [.slice a N c]/\Below w.heap.size w wr)/\Qaa L [] l=Qaa L (l.take k) (l.drop k)) (fun u _=>N - (intOf u).toNat)
 case atStart=>exact⟨0,Z,Xb _,⟨HH.out,HI.out,Zr⟩,Z⟩
 case round =>
  obtain⟨k,rfl,hk,hA,hp⟩:=hrel
  have q:Hid (Qr wr b O L/\intsL.In wr Q l [.slice a N c]/\Below w.heap.size w wr):=hA;clear HH HI hA;have K:Hid (Qaa L [] l=Qaa L (l.take k) (l.drop k)):=hp;clear hp;by_cases B:k<N
  ·have d:l[k]?=some (l[k]'(by rw[A.out];exact B)):=Zg _;generalize l[k]'(by rw[A.out];exact B)=x at d;obtain⟨g,o,rfl,hg,T⟩:=HX.out k x d
   have af:wr.cell? ⟨g,o+k,none⟩=some (Iv x):=(q.out.2.2.cell (p:=⟨g,o+k,none⟩) hg).trans T;clear T;have G:(k:Int)<N:=by omega
   have ad:(0:Int)<=k:=by omega
   have ag:(k:Int)<=c:=by omega
   have s:=Qie L l d;rw[<-K.out] at s
   have C:Hid (Calls prog 159 #[Pv b 0,Iv x] wr fun e w'=>e=.returned (.bool (Qa7 L x))/\w'=wr):=QdH x hL q.out.1
   cases hh:Qa7 L x with
   | false =>
     rw[hh] at C s
     have E:Hid (Qaa L [] l=10):=by show _=_;simpa using s
     clear s hh d;go_wp2_with (go_at_call 159;refine(C.out).mono ?_;rintro e w' ⟨rfl,f⟩;have f:=f.symm;subst f)
     go_ret;exact⟨by rw[E.out];rfl,q.out.2.2⟩
   | true =>
     rw[hh] at C s
     have D:Hid (∀ n,Calls prog 160 #[.slice (some ⟨g,o,none⟩) k c,Iv x] (wr.drewN n) fun e w'=>e=.returned (.bool (inB (l.take k) x))/\w'=wr.drewN n):=fun n =>
      Qgf x (by simp;rw[A.out];omega) (by omega) (Lay.drewN (Qe6 q.out.2.1 (by rw[A.out];omega) c) n)
     cases m:inB (l.take k) x with
     | true =>
       rw[m] at s D
       have E:Hid (Qaa L [] l=13):=by show _=_;simpa using s
       clear s hh d m;go_wp2_with (go_at_call 159;refine(C.out).mono ?_;rintro e w' ⟨rfl,f⟩;have f:=f.symm;subst f)
       go_quiet ((go_at_call 160;exact Calls.quiet_of_same (D.out _)))
       go_wp2
       go_ret;exact⟨by rw[E.out];rfl,Qh q.out.2.2 _⟩
     | false =>
       rw[m] at s D
       have E:Hid (Qaa L [] l=Qaa L (l.take (k+1)) (l.drop (k+1))):=by show _=_;simpa using s
       clear s hh d m K;go_wp2_with (go_at_call 159;refine(C.out).mono ?_;rintro e w' ⟨rfl,f⟩;have f:=f.symm;subst f)
       go_quiet ((go_at_call 160;exact Calls.quiet_of_same (D.out _)))
       go_wp2
       go_roundw
       case rel=>exact⟨k+1,by go_num,by omega,⟨q.out.1,Lay.drewN q.out.2.1 _,Qh q.out.2.2 _⟩,E.out⟩
       case measure=>simp[intOf];omega
  ·have G:¬ (k:Int)<N:=by omega
   have F:l.length<=k:=by rw[A.out];omega
   have PE:Hid (Qaa L [] l=if (hList L).all (fun r=>inB l r) then 0 else 12):=by
    have:=Qjz L l F
    rw[<-K.out] at this
    exact this
   clear K HX F;go_wp2_with fail
   refine(Qeg hL q.out.1).mono ?_
   rintro e J ⟨a2,c2,rfl,i2,b2⟩;have HB:Hid (Below w.heap.size w J):=q.out.2.2.trans (b2.mono q.out.2.2.size);have ab:Hid (intsL.In J Q l [.slice a N c]):=Ya q.out.2.1 b2
   have X:Hid (∀ i x,(hList L)[i]?=some x->∃ g o,a2=some ⟨g,o,none⟩/\J.cell? ⟨g,o+i,none⟩=some (Iv x)):=fun i x m=>by
    obtain⟨g,o,P,V,e2,e3,U,R,hr⟩:=Yf i2 m
    have z:P=[Iv x]:=R;subst z;refine⟨g,o,V,?_⟩
    have:=U 0 (by decide)
    simpa[Lay.int] using this
   obtain⟨M,W⟩:∃ M,(hList L).length=M:=⟨_,Z⟩
   have ac:M<=100000:=by have:=Qe4 L;omega
   have HM:Hid ((hList L).length=M):=W;rw[W]
   clear b2 i2 q W;go_wp2_with fail
   go_loop [7] (fun i=>∃ j:Nat,j<=M/\i=Iv j/\((hList L).take j).all (fun r=>inB l r)=true) (fun i=>M - (intOf i).toNat)
   case atStart=>exact⟨0,Xb _,Z,by simp⟩
   case round =>
    obtain⟨j,hj,rfl,H⟩:=hrel
    have I:Hid (((hList L).take j).all (fun r=>inB l r)=true):=H;clear H;by_cases t:j<M
    ·have d:(hList L)[j]?=some ((hList L)[j]'(by rw[HM.out];exact t)):=Zg _;generalize (hList L)[j]'(by rw[HM.out];exact t)=y at d;obtain⟨g,o,rfl,T⟩:=X.out j y d
     have v:(j:Int)<M:=by omega
     have D:Hid (Calls prog 160 #[.slice a N c,Iv y] J fun e w'=>e=.returned (.bool (inB l y))/\w'=J):=Qgf y A.out aa ab.out
     cases m:inB l y with
     | true =>
       rw[m] at D
       have N1:Hid (((hList L).take (j+1)).all (fun r=>inB l r)=true):=by
        show _=_;rw[XV,d,Option.toList_some,List.all_append,I.out]
        simp[m]
       clear m d I;go_wp2_with (go_at_call 160;refine(D.out).mono ?_;rintro e w' ⟨rfl,f⟩;have f:=f.symm;subst f)
       go_round
       case rel=>exact⟨j+1,by omega,by go_num,N1.out⟩
       case measure=>simp[intOf];omega
     | false =>
       rw[m] at D
       have E:Hid (Qaa L [] l=12):=by
        show _=_
        have hf:(hList L).all (fun r=>inB l r)=false:=by
         rw[Bool.eq_false_iff]
         intro h
         have:=Xe.1 h y (Zm d)
         rw[m] at this
         cases this
        rw[PE.out,hf];rfl
       clear m d I;go_wp2_with (go_at_call 160;refine(D.out).mono ?_;rintro e w' ⟨rfl,f⟩;have f:=f.symm;subst f)
       go_ret;exact⟨by rw[E.out];rfl,HB.out⟩
    ·have E:Hid (Qaa L [] l=0):=by
      show _=_
      have:=I.out
      rw[XO (by rw[HM.out];omega)] at this
      rw[PE.out,this];rfl
     have v:¬ (j:Int)<M:=by omega
     clear I;go_wp2
     go_ret;exact⟨by rw[E.out];rfl,HB.out⟩
theorem Xg:type_of% @Nat.le_of_ble_eq_true:=@Nat.le_of_ble_eq_true
section
variable {w w' w2:World}{b most:Nat}{m:List (MFunc 6)}{M M':IM}{sc sa:Int}{g g1:MG}
theorem MAt.callsForm (S:MAt w b most m M sc sa g):∃ gc cap,g.vc=.slice (some ⟨gc,0,none⟩) (M.rest.length+1) cap/\M.rest.length+1<=cap/\w.cell? ⟨gc,M.rest.length,none⟩=some (Pv g.t.c 0):=by
 rcases S.calls.2 with ⟨_,l⟩|⟨gc,cap,i,e,_,h,j,k,n,f⟩
 ·omega
 ·refine⟨gc,cap,e,j,?_⟩
  have d:=S.rows
  have a:(Qa4 (g.t::g.fs))[M.rest.length]?=some (Pv g.t.c 0):=by
   simp[Qa4,<-d]
  rw[<-f,XR,Xs (by omega),Array.getElem?_toList] at a
  exact Qa h _ _ a
theorem QcO (S:MAt w b most m M sc sa g) (j:M.rest.length<=1000) :
 Calls prog 85 #[Pv b 0] w fun e w'=>e=.returned (Pv g.t.c 0)/\Below w.heap.size w w':=by
 obtain⟨o,h,d,a,l⟩:=S.callsForm
 have f:w.cell? ⟨b,4,none⟩=some g.vc:=Qa S.box 4 _ Z;rw[d] at f
 clear d S;generalize M.rest.length=n at *;have k:(↑(n+1):Int) - 1=n:=by omega
 have i:(n:Int)<(n:Int)+1:=by omega
 go_enter func85,ntmps85
 go_upto_region 1 with fail
 go_quiet (fail)
 go_wp2
 go_ret;exact⟨Z,Qaw Zr _⟩
end
abbrev Qcd (x:MBlock 6) (b:BP):Array Value:=#[Iv x.regs,.slice b.pP x.params.length b.cP,.slice b.pC x.code.length b.cC,Iv x.fin.op,Iv x.fin.a,Iv x.fin.yes.block,.slice b.e.pYR x.fin.yes.regs.length b.e.cYR,.slice b.e.pYA x.fin.yes.args.length b.e.cYA,Iv x.fin.no.block,.slice b.e.pNR x.fin.no.regs.length b.e.cNR,.slice b.e.pNA x.fin.no.args.length b.e.cNA,.slice b.e.pA x.fin.args.length b.e.cA]
abbrev zeroB:Array Value:=#[Iv 0,Nv,Nv,Iv 0,Iv 0,Iv 0,Nv,Nv,Iv 0,Nv,Nv,Nv]
theorem Qiq (x:MBlock 6) (b:BP):(Qcd x b).all (·.oneCell')=true:=by
 show ([Iv x.regs,.slice b.pP x.params.length b.cP,.slice b.pC x.code.length b.cC,Iv x.fin.op,Iv x.fin.a,Iv x.fin.yes.block,.slice b.e.pYR x.fin.yes.regs.length b.e.cYR,.slice b.e.pYA x.fin.yes.args.length b.e.cYA,Iv x.fin.no.block,.slice b.e.pNR x.fin.no.regs.length b.e.cNR,.slice b.e.pNA x.fin.no.args.length b.e.cNA,.slice b.e.pA x.fin.args.length b.e.cA]:List Value).toArray.all (·.oneCell')=true;exact all_oneCell_toArray (Xe.1 Z)
theorem QeP {w:World}{c:Array Value}(h:Blk w R c 86) (a:c.size=12) (x:MBlock 6) (b:BP):w.there R 0 (Qcd x b).size:=h.there (by rw[a];exact Nat.le_of_eq Z)
theorem QiO {w:World}(h:Blk w R zeroB 86) (x:MBlock 6) (b:BP):Blk (w.setCells R 0 (Qcd x b).toList) R (Qcd x b) 86:=Blk.sets (Qcd x b).toList [] zeroB.toList w Z h
theorem Qb5 {B:Nat}{a:World}{R:Nat}(b:B<=R):∀ (vs:List Value) (o:Nat){w:World},Below B a w->Below B a (w.setCells R o vs)
 | [],_,_,h=>h
 | v::vs,o,w,h=>Qb5 b vs (o+1) (h.setCell (p:=⟨R,o,none⟩) b v)
def Qoh (w6:World) (b c g1 o1 nm cm fi g2 o2 nb cb bi:Nat) (bl:MBlock 6) (p:BP) (t:Tmp) (v:Value) (w:World):Prop :=
 v=(([(0,Pv b 0),(3,Pv c 0),(6,Pv b 0),(7,Pv b 0),(8,Pv b 1),(9,Pv b 1),(10,.slice (some ⟨g1,o1,none⟩) nm cm),(11,Pv c 0),(12,Pv c 0),(13,Pv c 0),(14,Iv (fi:Int)),(15,Pv g1 (o1+fi*4)),(16,Pv g1 (o1+fi*4+3)),(17,.slice (some ⟨g2,o2,none⟩) nb cb),(18,Pv c 0),(19,Pv c 0),(20,Pv c 1),(21,Iv (bi:Int)),(22,Pv g2 (o2+bi*12)),(23,.agg (Qcd bl p))]:List (Tmp × Value)).lookup t).getD undef
theorem ib2 {b s o q i g l u:Nat}{bl:MBlock 6}{p:BP}(z:w6.cell? ⟨b,1,none⟩=some (.slice (some ⟨s,o,none⟩) q cm)) (A:w6.cell? ⟨c,0,none⟩=some (Iv (fi:Int))) (H:w6.cell? ⟨c,1,none⟩=some (Iv (bi:Int))) (y:w6.cell? ⟨s,o+fi*4+3,none⟩=some (.slice (some ⟨i,g,none⟩) l u)) (C:Hid (w6.rangeAt i (g+bi*12) (Qcd bl p).toList)) (B:(fi:Int)<q) (x:(bi:Int)<l)
 (a:Act) (m:Nat) (hn:a.tmps.size=m) (k:24<=m) (D:a.tmps.getD 0 undef=Pv b 0) (E:a.tmps.getD 3 undef=Pv c 0)
 (hend:∀ ops vs w',vs 23=.agg (Qcd bl p)->Below w6.heap.size w6 w'->wpList prog ops Q (QaI 18 ((Tryz.f86.body.bind (Qf 2)).getD .skip)) (QC a vs [6,7,8,9,10,11,12,13,14,15,16,17,18,19,20,21,22,23]) w') :
 Code.wp prog ((Tryz.f86.body.bind (Qf 2)).getD .skip) Q a w6:=by
 conv=>arg 2;whnf
 refine Qj 18 (Qoh w6 b c s o q cm fi i g l u bi bl p) (fun w=>Below w6.heap.size w6 w) (fun w w'=>Below w.heap.size w w') (outs:=[0,3]) (gs:=[]) (bs:=[true,true,true,true,true,true,true,true,true,true,true,true,true,true,true,true,true,true]) (by kernel_rfl) (n:=24) hn k (by kernel_rfl) (by kernel_rfl) ?hR ?hG (Qh Zr 1) ⟨D,E,Y⟩ ?hA ?hend
 case hR=>exact fun t v w w' _ h=>h
 case hG=>exact Y
 case hend=>exact fun ops vs w' d f=>hend ops vs w' (f 23 (by kernel_rfl)) d
 case hA =>
  repeat
   refine⟨fun a w d f K r=>?_,?_⟩
   focus first
    | obtain⟨e,-⟩:=f
      conv at e=>whnf;rhs;whnf
      have L:=Qn z d;have I:=Qn A d;have M:=Qn y d;have J:=Qn H d;go_simp;exact r _ _ Zr d Z
    | obtain⟨e,F,-⟩:=f
      conv at e=>whnf;rhs;whnf
      conv at F=>whnf;rhs;whnf
      go_simp;exact r _ _ Zr d Z
    | obtain⟨e,-⟩:=f
      conv at e=>whnf;rhs;whnf
      refine wp_load_mid 86 (.tmp 22) Z i (g+bi*12) e (Qcd bl p).toList _ (fun j v G=>Qn (C.out j v G) d) underlying86 Z pSizeB ?_;exact r _ _ Zr d Z
  trivial
section
variable {w w' w2:World}{b most:Nat}{m:List (MFunc 6)}{M M':IM}{sc sa:Int}{g g1:MG}
def Qiw (A:Nat->Prop) (bl:MBlock 6) (w:World) (e:Ending) (w':World):Prop:=∃ p:BP,e=.returned (.agg (Qcd bl p))/\BIn w' (fun x=>¬ A x) bl p/\Below w.heap.size w w'
theorem Qd5 (S:MAt w b most m M sc sa g) (hd:M.rest.length<=1000){fn:MFunc 6}{bl:MBlock 6}(T:m[M.top.f]?=some fn) (hb:fn.blocks[M.top.b]?=some bl) (hs:m.length<=1000/\fn.blocks.length<=1000) :
 Calls prog 86 #[Pv b 0] w fun e w'=>Qiw g.A bl w e w':=by
 have y:=Qb (Zb w (.cells zeroB 86));have F:=Qb (Qe w zeroB 86);have J:=Qb (S.below y.out);have C:=Qb (QcO J.out hd);have W:=(Zi T).1;have X:=(Zi hb).1;obtain⟨g1,o1,f,E,E1,o⟩:=QbU S.mod T
 obtain⟨g2,o2,p,B,E2,u⟩:=Qcb o.blocks hb
 have i:w.cell? ⟨g1,o1+M.top.f*4+3,none⟩=some (.slice f.pB fn.blocks.length f.cB):=E1 3 _ Z;rw[B] at i
 have l:=Qb E2;have z:=Qb (u.mono (O':=fun x=>¬ g.A x) (fun k hk _=>hk.1));have q:=Qb E;have s:=Qb i;clear S T hb E1 o E2 u E i;go_enter func86,ntmps86
 go_upto_region 1 with fail
 generalize w.alloc (.cells zeroB 86)=w1 at J C y F |-;obtain⟨R,hR⟩:∃ R,R=w.heap.size:=⟨_,Z⟩
 have HR:Hid (w.heap.size<=R):=by show _<=_;omega
 rw[<-hR] at F |-
 clear hR;go_upto_region 2 with (go_at_call 85;refine C.out.mono ?_;rintro e' w2 ⟨rfl,I⟩)
 have H:=Qb (J.out.below I);have r:=Qb (y.out.trans (I.mono y.out.size));have n:=Qb (Blk.below F.out I);clear I J y F C;have O:w2.cell? ⟨b,1,none⟩=some (.slice g.pm m.length g.cm):=Qa H.out.box 1 _ Z;have f0:=Qa H.out.top.1 0 _ Z;have f1:=Qa H.out.top.1 1 _ Z;have i:=Qn s.out r.out;have t:Hid (w2.rangeAt g2 (o2+M.top.b*12) (Qcd bl p).toList):=fun j v hj=>Qn (l.out j v hj) r.out;rw[q.out] at O
 have P:(M.top.f:Int)<m.length:=by omega
 have K:(M.top.b:Int)<fn.blocks.length:=by omega
 clear H W X l s q B;generalize M.top.f=fi at *;generalize M.top.b=bi at *;refine ib2 O f0 f1 i t P K _ _ Z (Xg (by kernel_rfl)) Z Z ?_;rintro Q vs w5 c V;show wpList _ Q _ [_] (QC _ vs [6,7,8,9,10,11,12,13,14,15,16,17,18,19,20,21,22,23]) w5;simp only[QC,Act.put,List.setIfInBounds_toArray,List.set_cons_zero,List.set_cons_succ,c]
 have h:=Qb (Blk.below n.out V);have a:=Qb (QiO h.out bl p);have D:=Qb (Qb5 HR.out (Qcd bl p).toList 0 (r.out.trans (V.mono r.out.size)));have L:=Qb (z.out.below D.out);clear V c O f0 f1 i t z n r;have TH:=Qb (QeP h.out Z bl p);have SZ:=Qb (show (prog.info? 86).map (·.size)=some (Qcd bl p).size from pSizeB);have ON:=Qb (Qiq bl p);obtain⟨G,d⟩:∃ G,Qcd bl p=G:=⟨_,Z⟩
 rw[d] at a D L TH SZ ON |-
 have EC:=Qb d;clear d;clear h;go_wp2_with (refine wpList_store_mid Z 86 (.tmp 2) (.tmp 23) Z R 0 G Z Z TH.out SZ.out ON.out ?_)
 generalize w5.setCells R 0 G.toList=w6 at a D L |-;obtain rfl:=EC.out;have e0:=Qa a.out 0 _ Z;have E:=Qa a.out 1 _ Z;have B:=Qa a.out 2 _ Z;have e3:=Qa a.out 3 _ Z;have e4:=Qa a.out 4 _ Z;have e5:=Qa a.out 5 _ Z;have e6:=Qa a.out 6 _ Z;have e7:=Qa a.out 7 _ Z;have e8:=Qa a.out 8 _ Z;have e9:=Qa a.out 9 _ Z;have N:=Qa a.out 10 _ Z;have U:=Qa a.out 11 _ Z;exact Xy (v:=.agg (Qcd bl p)) (by simp[results,results86,go_sem,e0,E,B,e3,e4,e5,e6,e7,e8,e9,N,U]) Z ⟨p,Z,L.out,D.out⟩
end
theorem Qne (x:MBlock 6) (b:BP) (w:World):(Instr.field 86 (.agg (Qcd x b)) 2).run prog w=.ok (.slice b.pC x.code.length b.cC) w:=by kernel_rfl
def Qn7 (w6:World) (b c i:Nat) (bl:MBlock 6) (t:Tmp) (v:Value) (w:World):Prop :=
 match ([(11,fun v w=>∃ p:BP,v=.agg (Qcd bl p)),(12,fun v w=>∃ (a:Option Addr) (d:Nat),v=.slice a bl.code.length d)]:List (Tmp × (Value->World->Prop))).lookup t with
 | some p=>p v w
 | none=>v=(([(0,.pointer (some ⟨b,0,none⟩)),(3,.pointer (some ⟨c,0,none⟩)),(6,.pointer (some ⟨c,0,none⟩)),(7,.pointer (some ⟨c,0,none⟩)),(8,.pointer (some ⟨c,2,none⟩)),(9,.int .i64 (i:Int)),(10,.pointer (some ⟨b,0,none⟩)),(13,.int .i64 (bl.code.length:Int)),(14,.bool (decide ((i:Int)<bl.code.length)))]:List (Tmp × Value)).lookup t).getD undef
theorem ip2 {b:Nat}{bl:MBlock 6}{A:Nat->Prop}(u:w6.cell? ⟨c,2,none⟩=some (Iv (i:Int))) (C:Hid (∀ wx,Below w6.heap.size w6 wx->Calls prog 86 #[Pv b 0] wx fun e w'=>Qiw A bl wx e w'))
 (a:Act) (m:Nat) (hn:a.tmps.size=m) (o:37<=m) (x:a.tmps.getD 0 undef=Pv b 0) (z:a.tmps.getD 3 undef=Pv c 0) :
 Code.wp prog ((Tryz.f83.body.bind (Qf 2)).getD .skip) (fun e a' w'=>e=.normal/\∃ vs,a'=QC a vs [6,7,8,9,10,11,12,13,14]/\vs 14=.bool (decide ((i:Int)<bl.code.length))/\Below w6.heap.size w6 w') a w6:=by
 conv=>arg 2;whnf
 refine Qu (Qn7 w6 b c i bl) (fun w=>Below w6.heap.size w6 w) (fun w w'=>Below w.heap.size w w') (outs:=[0,3]) (gs:=[]) (bs:=[true,true,true,true,true,true,true,true,true]) (by kernel_rfl) (n:=37) hn o (by kernel_rfl) ?hR ?hG (Qh Zr 1) ⟨x,z,Y⟩ ?hA ?hend
 case hR =>
  intro t v w w' H h;unfold Qn7 at h |-;split at h
  ·rename_i p k
   simp only[List.lookup_cons,List.lookup_nil] at k
   split at k
   ·cases k;exact h
   ·split at k
    ·cases k;exact h
    ·cases k
  ·exact h
 case hG=>exact Y
 case hend=>exact fun vs w' g j=>⟨Z,vs,Z,j 14 (by kernel_rfl),g⟩
 case hA =>
  repeat
   refine⟨fun a w g j K l=>?_,?_⟩
   focus first
    | obtain⟨f,-⟩:=j
      conv at f=>whnf;rhs;whnf
      have G:=Qn u g;go_simp;exact l _ _ Zr g Z
    | obtain⟨f,-⟩:=j
      have f:(fun v w=>∃ (a:Option Addr) (d:Nat),v=.slice a bl.code.length d) (a.tmps.getD 12 undef) w:=f;generalize r:a.tmps.getD 12 undef=q at f;obtain⟨D,F,rfl⟩:=f
      go_simp;exact l _ _ Zr g Z
    | obtain⟨f,-⟩:=j
      conv at f=>whnf;rhs;whnf
      go_simp;refine Xm (C.out w g) ?_;rintro E I ⟨p,rfl,-,s⟩;go_simp;exact l _ _ s (g.trans (s.mono g.size)) ⟨p,Z⟩
    | obtain⟨f,-⟩:=j
      have f:(fun v w=>∃ p:BP,v=.agg (Qcd bl p)) (a.tmps.getD 11 undef) w:=f;generalize r:a.tmps.getD 11 undef=q at f;obtain⟨p,rfl⟩:=f
      have B:=Qne bl p;go_simp;exact l _ _ Zr g ⟨_,_,Z⟩
    | obtain⟨f,y,-⟩:=j
      conv at f=>whnf;rhs;whnf
      conv at y=>whnf;rhs;whnf
      go_simp;refine l _ _ Zr g ?_;show Value.bool _=Value.bool _;congr 1
      first | rfl | (rw[decide_eq_decide];omega)
  trivial
def QoQ (c fi bi i:Nat) (t:Tmp) (v:Value) (w:World):Prop :=
 v=(([(3,Pv c 0),(15,Pv c 0),(16,Pv c 0),(17,Pv c 0),(18,Iv (fi:Int)),(19,Pv c 0),(20,Pv c 0),(21,Pv c 1),(22,Iv (bi:Int)),(23,Pv c 0),(24,Pv c 0),(25,Pv c 2),(26,Iv (i:Int)),(27,Iv (10000*(fi:Int)+100*(bi:Int)+(i:Int))),(2,Iv (10000*(fi:Int)+100*(bi:Int)+(i:Int)))]:List (Tmp × Value)).lookup t).getD undef
theorem ip3 (p:w6.cell? ⟨c,0,none⟩=some (Iv (fi:Int))) (q:w6.cell? ⟨c,1,none⟩=some (Iv (bi:Int))) (r:w6.cell? ⟨c,2,none⟩=some (Iv (i:Int))) (D:fi<1000/\bi<1000/\i<1000)
 (a:Act) (m:Nat) (hn:a.tmps.size=m) (j:37<=m) (x:a.tmps.getD 3 undef=Pv c 0) :
 Code.wp prog ((Tryz.f83.body.bind (Qf 3)).getD .skip) (fun e a' w'=>e=.normal/\∃ vs,a'=QC a vs [15,16,17,18,19,20,21,22,23,24,25,26,27,2]/\vs 2=Iv (10000*(fi:Int)+100*(bi:Int)+(i:Int))/\Below w6.heap.size w6 w') a w6:=by
 conv=>arg 2;whnf
 refine Qu (QoQ c fi bi i) (fun w=>Below w6.heap.size w6 w) (fun w w'=>Below w.heap.size w w') (outs:=[3]) (gs:=[]) (bs:=[true,true,true,true,true,true,true,true,true,true,true,true,true,true]) (by kernel_rfl) (n:=37) hn j (by kernel_rfl) ?hR ?hG (Qh Zr 1) ⟨x,Y⟩ ?hA ?hend
 case hR=>exact fun t v w w' _ h=>h
 case hG=>exact Y
 case hend=>exact fun vs w' d g=>⟨Z,vs,Z,g 2 (by kernel_rfl),d⟩
 case hA =>
  repeat
   refine⟨fun a w d g K l=>?_,?_⟩
   focus first
    | obtain⟨k,-⟩:=g
      conv at k=>whnf;rhs;whnf
      have B:=Qn p d;have z:=Qn q d;have y:=Qn r d;go_simp;exact l _ _ Zr d Z
    | obtain⟨k,u,s,-⟩:=g
      conv at k=>whnf;rhs;whnf
      conv at u=>whnf;rhs;whnf
      conv at s=>whnf;rhs;whnf
      go_simp;refine Xm (Qei (f:=fi) (b:=bi) (i:=i) (w:=w) ⟨by omega,by omega,by omega⟩) ?_;rintro A C ⟨rfl,o⟩;go_simp;exact l _ _ o (d.trans (o.mono d.size)) Z
  trivial
def QoR (c fi bi:Nat) (t:Tmp) (v:Value) (w:World):Prop :=
 v=(([(3,Pv c 0),(28,Pv c 0),(29,Pv c 0),(30,Pv c 0),(31,Iv (fi:Int)),(32,Pv c 0),(33,Pv c 0),(34,Pv c 1),(35,Iv (bi:Int)),(36,Iv (10000*(fi:Int)+100*(bi:Int)+91)),(2,Iv (10000*(fi:Int)+100*(bi:Int)+91))]:List (Tmp × Value)).lookup t).getD undef
theorem ip4 (o:w6.cell? ⟨c,0,none⟩=some (Iv (fi:Int))) (p:w6.cell? ⟨c,1,none⟩=some (Iv (bi:Int))) (z:fi<1000/\bi<1000)
 (a:Act) (m:Nat) (hn:a.tmps.size=m) (i:37<=m) (r:a.tmps.getD 3 undef=Pv c 0) :
 Code.wp prog ((Tryz.f83.body.bind (Qf 4)).getD .skip) (fun e a' w'=>e=.normal/\∃ vs,a'=QC a vs [28,29,30,31,32,33,34,35,36,2]/\vs 2=Iv (10000*(fi:Int)+100*(bi:Int)+91)/\Below w6.heap.size w6 w') a w6:=by
 conv=>arg 2;whnf
 refine Qu (QoR c fi bi) (fun w=>Below w6.heap.size w6 w) (fun w w'=>Below w.heap.size w w') (outs:=[3]) (gs:=[]) (bs:=[true,true,true,true,true,true,true,true,true,true]) (by kernel_rfl) (n:=37) hn i (by kernel_rfl) ?hR ?hG (Qh Zr 1) ⟨r,Y⟩ ?hA ?hend
 case hR=>exact fun t v w w' _ h=>h
 case hG=>exact Y
 case hend=>exact fun vs w' d g=>⟨Z,vs,Z,g 2 (by kernel_rfl),d⟩
 case hA =>
  repeat
   refine⟨fun a w d g K k=>?_,?_⟩
   focus first
    | obtain⟨j,-⟩:=g
      conv at j=>whnf;rhs;whnf
      have y:=Qn o d;have s:=Qn p d;go_simp;exact k _ _ Zr d Z
    | obtain⟨j,q,-⟩:=g
      conv at j=>whnf;rhs;whnf
      conv at q=>whnf;rhs;whnf
      go_simp;refine Xm (Qel (f:=fi) (b:=bi) (w:=w) ⟨by omega,by omega⟩) ?_;rintro u x ⟨rfl,l⟩;go_simp;exact k _ _ l (d.trans (l.mono d.size)) Z
  trivial
section
variable {w w' w2:World}{b most:Nat}{m:List (MFunc 6)}{M M':IM}{sc sa:Int}{g g1:MG}
def IM.place (m:List (MFunc 6)) (M:IM):Int:=match m[M.top.f]? with
 | none=>0
 | some fn=>match fn.blocks[M.top.b]? with
   | none=>0
   | some bl=>if M.top.i<bl.code.length then 10000*(M.top.f:Int)+100*(M.top.b:Int)+M.top.i else 10000*(M.top.f:Int)+100*(M.top.b:Int)+91
theorem Qid (S:MAt w b most m M sc sa g) (B:M.rest.length<=1000){fn:MFunc 6}{bl:MBlock 6}(r:m[M.top.f]?=some fn) (hb:fn.blocks[M.top.b]?=some bl) (G:m.length<=1000/\fn.blocks.length<=1000/\bl.code.length<=900) (hi:M.top.i<=bl.code.length) :
 Calls prog 83 #[Pv b 0] w fun e w'=>e=.returned (Iv (IM.place m M))/\Below w.heap.size w w':=by
 have E:Hid (IM.place m M=if M.top.i<bl.code.length then 10000*(M.top.f:Int)+100*(M.top.b:Int)+M.top.i else 10000*(M.top.f:Int)+100*(M.top.b:Int)+91):=by show _=_;unfold IM.place;rw[r];simp only;rw[hb]
 have N:=(Zi r).1;have O:=(Zi hb).1;have C:=Qb (QcO S B);have K:=Qb (fun u (y:Below w.heap.size w u)=>Qd5 (S.below y) B r hb ⟨G.1,G.2.1⟩);have q:=Qa S.top.1 0 _ Z;have s:=Qa S.top.1 1 _ Z;have p:=Qa S.top.1 2 _ Z;generalize IM.place m M=J at E |-;clear S r hb;generalize M.top.f=D at *;generalize M.top.b=F at *;generalize M.top.i=i at *;generalize g.t.c=c at *;go_enter func83,ntmps83
 go_upto_region 2 with (go_at_call 85;refine C.out.mono ?_;rintro Q I ⟨rfl,A⟩)
 have n:=Qb A;have o:=Qb (fun u (y:Below I.heap.size I u)=>K.out u (n.out.trans (y.mono n.out.size)));refine Code.wp_mono ?_ (ip2 (Qn p A) o _ _ Z (Xg (by kernel_rfl)) Z Z);rintro _ _ R ⟨rfl,P,rfl,h,H⟩;have j:=Qb (n.out.trans (H.mono n.out.size));clear A H n K o C;have q:=Qn q j.out;have s:=Qn s j.out;have p:=Qn p j.out;simp only[QC,Act.put,List.setIfInBounds_toArray,List.set_cons_zero,List.set_cons_succ,h]
 clear h;by_cases k:i<bl.code.length
 ·have d:decide ((i:Int)<bl.code.length)=true:=Xt (by omega);rw[d]
  have v:Hid (J=10000*(D:Int)+100*(F:Int)+i):=by show _=_;rw[E.out,Xs k]
  clear d E;go_upto_region 3 with fail
  refine Code.wp_mono ?_ (ip3 q s p ⟨by omega,by omega,by omega⟩ _ _ Z (Xg (by kernel_rfl)) Z);rintro _ _ L ⟨rfl,x,rfl,a,l⟩;have z:=Qb (j.out.trans (l.mono j.out.size));simp only[QC,Act.put,List.setIfInBounds_toArray,List.set_cons_zero,List.set_cons_succ,a]
  clear l a;rw[<-v.out]
  go_wp2
  go_ret;exact⟨Z,z.out⟩
 ·have d:decide ((i:Int)<bl.code.length)=false:=Xu (by omega);rw[d]
  have v:Hid (J=10000*(D:Int)+100*(F:Int)+91):=by show _=_;rw[E.out,Xr k]
  clear d E;go_upto_region 4 with fail
  refine Code.wp_mono ?_ (ip4 q s ⟨by omega,by omega⟩ _ _ Z (Xg (by kernel_rfl)) Z);rintro _ _ L ⟨rfl,x,rfl,a,l⟩;have z:=Qb (j.out.trans (l.mono j.out.size));simp only[QC,Act.put,List.setIfInBounds_toArray,List.set_cons_zero,List.set_cons_succ,a]
  clear l a;rw[<-v.out]
  go_wp2
  go_ret;exact⟨Z,z.out⟩
end
theorem Qdu {r:List Int}:∀ {l:List Int},(∀ k∈l,0<=k/\k<(r.length:Int))->∃ rs,Zs r l=some rs/\rs.length=l.length
 | [],_=>⟨[],Z,Z⟩
 | k::l,h=>by
   obtain⟨rs,e,c⟩:=Qdu (l:=l) (fun x b=>h x (by simp[b]))
   have d:=h k (by simp);have a:k.toNat<r.length:=by omega
   refine⟨r[k.toNat]::rs,?_,by simp[c]⟩
   unfold Zs Qge;rw[Xr (by omega),Zg a,e]
theorem QdK {r:List Int}:∀ {l:List Int}{k:Int},k∈l->¬ (0<=k/\k<(r.length:Int))->Zs r l=none
 | [],k,h,_=>by simp at h
 | x::l,k,h,hk=>by
   unfold Zs
   cases hx:Qge r x with
   | none=>rfl
   | some y =>
     simp only
     rcases List.mem_cons.1 h with rfl | h
     ·exfalso
      unfold Qge at hx;split at hx
      ·cases hx
      ·have:=(Zi hx).1
       omega
     ·rw[QdK h hk]
def begunO (fr:IFr) (f:Nat) (t:MTo) (bl:MBlock 6):Option IFr :=
 if (t.regs.length:Int)=bl.regs/\t.args.length=bl.params.length then (match Zs fr.r t.regs with
  | none=>none
  | some rs=>match Qq fr.v t.args with
    | none=>none
    | some xs=>some ⟨f,t.block.toNat,0,xs,rs⟩) else none
def QbH (w:World) (o:Option IFr) (e:Ending) (w':World):Prop:=Below w.heap.size w w'/\match o with
 | none=>e=.panicked stuckP
 | some fr=>∃ c gx n,e=.returned (.pointer (some ⟨c,0,none⟩))/\w.heap.size<=c/\w.heap.size<=gx/\QdM w' c fr (.slice (some ⟨gx,0,none⟩) n n)
def QnX (w6:World) (X1 X2 g1 o1 nm cm fi g2 o2 nb cb bi:Nat) (bl:MBlock 6) (p:BP) (t:Tmp) (v:Value) (w:World):Prop :=
 match ([(9,fun v w=>∃ Z,v=.pointer (some ⟨Z,0,none⟩)/\w6.heap.size<=Z/\Blk w Z zeroB 86)]:List (Tmp × (Value->World->Prop))).lookup t with
 | some p=>p v w
 | none=>v=(([(2,.int .i64 (fi:Int)),(5,.pointer (some ⟨X1,0,none⟩)),(7,.pointer (some ⟨X2,0,none⟩)),(12,.pointer (some ⟨X1,0,none⟩)),(13,.slice (some ⟨g1,o1,none⟩) nm cm),(14,.int .i64 (fi:Int)),(15,.pointer (some ⟨g1,o1+fi*4,none⟩)),(16,.pointer (some ⟨g1,o1+fi*4+3,none⟩)),(17,.slice (some ⟨g2,o2,none⟩) nb cb),(18,.pointer (some ⟨X2,0,none⟩)),(19,.int .i64 (bi:Int)),(20,.pointer (some ⟨g2,o2+bi*12,none⟩)),(21,.agg (Qcd bl p))]:List (Tmp × Value)).lookup t).getD undef
theorem ig1 {u s y r x k g q z:Nat}{bl:MBlock 6}{p:BP}(J:w6.cell? ⟨u,0,none⟩=some (.slice (some ⟨y,r,none⟩) x cm)) (D:w6.cell? ⟨s,0,none⟩=some (Iv (bi:Int))) (C:w6.cell? ⟨y,r+fi*4+3,none⟩=some (.slice (some ⟨k,g,none⟩) q z)) (F:Hid (w6.rangeAt k (g+bi*12) (Qcd bl p).toList)) (E:(fi:Int)<x) (A:(bi:Int)<q)
 (a:Act) (m:Nat) (hn:a.tmps.size=m) (o:68<=m) (i:a.tmps.getD 2 undef=Iv (fi:Int)) (N:a.tmps.getD 5 undef=Pv u 0) (M:a.tmps.getD 7 undef=Pv s 0)
 (hend:∀ ops vs w',vs 21=.agg (Qcd bl p)->(fun v w=>∃ Z,v=Pv Z 0/\w6.heap.size<=Z/\Blk w Z zeroB 86) (vs 9) w'->Below w6.heap.size w6 w'->wpList prog ops Q (QaI 11 ((Tryz.f189.body.bind (Qf 1)).getD .skip)) (QC a vs [12,13,14,15,16,17,18,19,20,21,9]) w') :
 Code.wp prog ((Tryz.f189.body.bind (Qf 1)).getD .skip) Q a w6:=by
 conv=>arg 2;whnf
 refine Qj 11 (QnX w6 u s y r x cm fi k g q z bi bl p) (fun w=>Below w6.heap.size w6 w) (fun w w'=>Below w.heap.size w w') (outs:=[2,5,7]) (gs:=[]) (bs:=[true,true,true,true,true,true,true,true,true,true,true]) (by kernel_rfl) (n:=68) hn o (by kernel_rfl) (by kernel_rfl) ?hR ?hG (Qh Zr 1) ⟨i,N,M,Y⟩ ?hA ?hend
 case hR =>
  intro t v w w' L h;unfold QnX at h |-;split at h
  ·rename_i p f
   simp only[List.lookup_cons,List.lookup_nil] at f
   split at f
   ·cases f;exact(by obtain⟨B,e,G,i⟩:=h;exact⟨B,e,G,(L.block B (XC i)).trans i⟩)
   ·cases f
  ·exact h
 case hG=>exact Y
 case hend=>exact fun ops vs w' b c=>hend ops vs w' (c 21 (by kernel_rfl)) (c 9 (by kernel_rfl)) b
 case hA =>
  repeat
   refine⟨fun a w b c K l=>?_,?_⟩
   focus first
    | obtain⟨d,-⟩:=c
      conv at d=>whnf;rhs;whnf
      have P:=Qn J b;have O:=Qn C b;have R:=Qn D b;go_simp;exact l _ _ Zr b Yz
    | obtain⟨d,H,-⟩:=c
      conv at d=>whnf;rhs;whnf
      conv at H=>whnf;rhs;whnf
      go_simp;exact l _ _ Zr b Yz
    | clear c
      go_simp;exact l _ _ (ZR _ _) (b.alloc b.size _) ⟨_,Yz,b.size,Qe _ _ _⟩
    | obtain⟨d,-⟩:=c
      conv at d=>whnf;rhs;whnf
      refine wp_load_mid 86 (.tmp 20) Yz k (g+bi*12) d (Qcd bl p).toList _ (fun j v I=>Qn (F.out j v I) b) underlying86 Yz pSizeB ?_;exact l _ _ Zr b Yz
  trivial
def Qlp (w6:World) (o:Option (List Qk)) (na:Nat) (v:Value) (w:World):Prop:=∃ g xs,v=.slice (some ⟨g,0,none⟩) na na/\w6.heap.size<=g/\o=some xs/\w.rowIs g 211 (na*4) (Zu xs)
def Qmh (w6:World) (o:Option (List Qk)) (na fi bi:Nat) (br:Int) (v:Value) (w:World):Prop:=∃ g xs,v=.agg #[Iv (fi:Int),Iv (bi:Int),Iv 0,Iv br,.slice (some ⟨g,0,none⟩) na na]/\w6.heap.size<=g/\o=some xs/\w.rowIs g 211 (na*4) (Zu xs)
def Ql4 (w6:World) (o:Option (List Qk)) (na fi bi:Nat) (br:Int) (v:Value) (w:World):Prop:=∃ B g xs,v=Pv B 0/\w6.heap.size<=B/\Blk w B #[Iv (fi:Int),Iv (bi:Int),Iv 0,Iv br,.slice (some ⟨g,0,none⟩) na na] 100/\w6.heap.size<=g/\o=some xs/\w.rowIs g 211 (na*4) (Zu xs)
theorem Qlp.below {w:World}{o:Option (List Qk)}{v:Value}(h:Qlp w6 o na v w) (b:Below w.heap.size w w'):Qlp w6 o na v w':=by
 obtain⟨g,c,d,f,e,a⟩:=h
 exact⟨g,c,d,f,e,a.of_block (b.block g a.lt)⟩
theorem Qmh.below {w:World}{o:Option (List Qk)}{a:Int}{v:Value}(h:Qmh w6 o na fi bi a v w) (b:Below w.heap.size w w'):Qmh w6 o na fi bi a v w':=by
 obtain⟨g,d,e,i,f,c⟩:=h
 exact⟨g,d,e,i,f,c.of_block (b.block g c.lt)⟩
theorem Ql4.below {w:World}{o:Option (List Qk)}{c:Int}{v:Value}(h:Ql4 w6 o na fi bi c v w) (b:Below w.heap.size w w'):Ql4 w6 o na fi bi c v w':=by
 obtain⟨B,g,d,f,e,i,k,j,a⟩:=h
 exact⟨B,g,d,f,e,i.below b,k,j,a.of_block (b.block g a.lt)⟩
def Qoc (w6:World) (o:Option (List Qk)) (c X2 Z fi bi na ca:Nat) (br:Int) (pa:Option Addr) (t:Tmp) (v:Value) (w:World):Prop :=
 match ([(65,Qlp w6 o na),(66,Qmh w6 o na fi bi br),(67,Ql4 w6 o na fi bi br),(8,Ql4 w6 o na fi bi br)]:List (Tmp × (Value->World->Prop))).lookup t with
 | some p=>p v w
 | none=>v=(([(0,.pointer (some ⟨c,0,none⟩)),(2,.int .i64 (fi:Int)),(7,.pointer (some ⟨X2,0,none⟩)),(9,.pointer (some ⟨Z,0,none⟩)),(57,.int .i64 (fi:Int)),(58,.pointer (some ⟨X2,0,none⟩)),(59,.int .i64 (bi:Int)),(60,.pointer (some ⟨Z,0,none⟩)),(61,.int .i64 br),(62,.pointer (some ⟨c,0,none⟩)),(63,.pointer (some ⟨X2,2,none⟩)),(64,.slice pa na ca)]:List (Tmp × Value)).lookup t).getD undef
theorem ig8 {o:Option (List Qk)}{c y Z:Nat}{k:Int}(M:w6.cell? ⟨y,0,none⟩=some (Iv (bi:Int))) (O:w6.cell? ⟨Z,0,none⟩=some (Iv k)) (P:w6.cell? ⟨y,2,none⟩=some (.slice pa na ca)) (U:Hid (∀ wx,Below w6.heap.size w6 wx->Calls prog 142 #[Pv c 0,.slice pa na ca] wx fun e w'=>QcF wx o na e w'))
 (a:Act) (m:Nat) (hn:a.tmps.size=m) (C:68<=m) (N:a.tmps.getD 0 undef=Pv c 0) (q:a.tmps.getD 2 undef=Iv (fi:Int)) (u:a.tmps.getD 7 undef=Pv y 0) (T:a.tmps.getD 9 undef=Pv Z 0)
 (S:∀ ch a' w',a'.defers=a.defers->(fun ch w=>ch=stuckP/\o=none/\Below w6.heap.size w6 w) ch w'->Q (.panic ch) a' w')
 (hend:∀ vs w',(Ql4 w6 o na fi bi k) (vs 8) w'->Below w6.heap.size w6 w'->Q .normal (QC a vs [57,58,59,60,61,62,63,64,65,66,67,8]) w') :
 Code.wp prog ((Tryz.f189.body.bind (Qf 8)).getD .skip) Q a w6:=by
 conv=>arg 2;whnf
 refine ZJ (Qoc w6 o c y Z fi bi na ca k pa) (fun w=>Below w6.heap.size w6 w) (fun w w'=>Below w.heap.size w w') (fun ch w=>ch=stuckP/\o=none/\Below w6.heap.size w6 w) S (outs:=[0,2,7,9]) (gs:=[]) (bs:=[true,true,true,true,true,true,true,true,true,true,true,true]) (by kernel_rfl) (n:=68) hn C (by kernel_rfl) ?hR ?hG (Qh Zr 1) ⟨N,q,u,T,Y⟩ ?hA ?hend
 case hR =>
  intro t v w w' z h;unfold Qoc at h |-;split at h
  ·rename_i p f
   simp only[List.lookup_cons,List.lookup_nil] at f
   split at f
   ·cases f;exact h.below z
   ·split at f
    ·cases f;exact h.below z
    ·split at f
     ·cases f;exact h.below z
     ·split at f
      ·cases f;exact h.below z
      ·cases f
  ·exact h
 case hG=>exact Y
 case hend=>exact fun vs w' d i=>hend vs w' (i 8 (by kernel_rfl)) d
 case hA =>
  repeat
   refine⟨fun a w d i K s=>?_,?_⟩
   focus first
    | obtain⟨b,-⟩:=i
      conv at b=>whnf;rhs;whnf
      have X:=Qn M d;have V:=Qn O d;have c2:=Qn P d;go_simp;exact s _ _ Zr d Yz
    | obtain⟨b,-⟩:=i
      have b:(Qmh w6 o na fi bi k) (a.tmps.getD 66 undef) w:=b;generalize r:a.tmps.getD 66 undef=D at b;obtain⟨g,l,rfl,q,H,B⟩:=b
      go_simp;exact s _ _ (Zb _ _) (d.alloc d.size _) ⟨_,g,l,Yz,d.size,Qe _ _ _,q,H,B.of_block ((Zb _ _).block g B.lt)⟩
    | obtain⟨b,-⟩:=i
      have b:(Ql4 w6 o na fi bi k) (a.tmps.getD 67 undef) w:=b;generalize r:a.tmps.getD 67 undef=D at b;subst r;rw[Za] at b
      go_simp;exact s _ _ Zr d b
    | obtain⟨b,x,-⟩:=i
      conv at b=>whnf;rhs;whnf
      conv at x=>whnf;rhs;whnf
      go_simp;refine Xm (U.out w d) ?_;rintro W w7 u;obtain⟨I,u⟩:=u.split
      rcases u with ⟨l,L,F,rfl,E,j⟩|⟨F,rfl⟩
      rotate_left
      ·exact⟨_,Yz,Yz,F,d.trans (I.mono d.size)⟩
      go_simp;exact s _ _ I (d.trans (I.mono d.size)) ⟨L,l,Yz,Zt d.size E,F,j⟩
    | obtain⟨b,x,J,A,-⟩:=i
      conv at b=>whnf;rhs;whnf
      rw[Za] at b
      conv at x=>whnf;rhs;whnf
      rw[Za] at x
      conv at J=>whnf;rhs;whnf
      rw[Za] at J
      have A:(Qlp w6 o na) (a.tmps.getD 65 undef) w:=A;generalize G:a.tmps.getD 65 undef=R at A;rw[Za] at G
      obtain⟨g,l,rfl,q,H,B⟩:=A
      go_simp;exact s _ _ Zr d ⟨g,l,Yz,q,H,B⟩
  trivial
section
variable {w:World}{c:Nat}{fr:IFr}{v:Value}
theorem Qea (FR:QdM w c fr v) (hl:fr.v.length<=1000000) (av:fr.r.length<=1000000){Q:Nat->Prop}{m:List (MFunc 6)}(hm:(Qar 6).In w Q m [.slice pm m.length cm]){fn:MFunc 6}{bl:MBlock 6}(hf:m[fi]?=some fn) (hb:fn.blocks[bi]?=some bl) (hs:m.length<=1000/\fn.blocks.length<=1000/\bl.params.length<=1000)
 {t:MTo} (L:t.block=(bi:Int)) {J:Option Addr} {G:Nat} (hR:intsL.In w Q2 t.regs [.slice J t.regs.length G]) (hA:intsL.In w Q2 t.args [.slice pa t.args.length ca]) (hn:t.regs.length<=1000/\t.args.length<=1000) :
 Calls prog 189 #[Pv c 0,.agg #[.slice pm m.length cm],Iv (fi:Int),.agg #[Iv (bi:Int),.slice J t.regs.length G,.slice pa t.args.length ca]] w fun e w'=>QbH w (begunO fr fi t bl) e w':=by
 have K:=Qb (QaT w (.cells #[.slice pm m.length cm] 24) (.cells #[Iv (bi:Int),.slice J t.regs.length G,.slice pa t.args.length ca] 82));have BX:=Qb (Qh1 w #[.slice pm m.length cm] 24 (.cells #[Iv (bi:Int),.slice J t.regs.length G,.slice pa t.args.length ca] 82));have BT:=Qb (Qcr w (.cells #[.slice pm m.length cm] 24) #[Iv (bi:Int),.slice J t.regs.length G,.slice pa t.args.length ca] 82);have am:=(Zi hf).1;have ao:=(Zi hb).1;obtain⟨g1,o1,f,e1,s,M⟩:=QbU hm hf
 obtain⟨g2,o2,p,e2,d,aa⟩:=Qcb M.blocks hb
 have r3:w.cell? ⟨g1,o1+fi*4+3,none⟩=some (.slice f.pB fn.blocks.length f.cB):=s 3 _ Yz;rw[e2] at r3
 have ab:=Qb d;have ax:=Qb aa;have ad:=Qb r3;have I:Hid (begunO fr fi t bl=if (t.regs.length:Int)=bl.regs/\t.args.length=bl.params.length then (match Zs fr.r t.regs with | none=>none | some P=>match Qq fr.v t.args with | none=>none | some H=>some ⟨fi,bi,0,H,P⟩) else none):=by show _=_;unfold begunO;rw[L];rfl
 have HF:=Qb FR;have U:=Qb hR;have ap:=Qb hA;subst e1;have an:(fi:Int)<m.length:=by omega
 have ae:(bi:Int)<fn.blocks.length:=by omega
 generalize begunO fr fi t bl=oo at I |-;clear hm hf hb s d M aa r3 e2 FR hR hA L am ao;go_enter func189,ntmps189
 go_upto_region 1 with fail
 generalize (w.alloc (.cells #[.slice (some ⟨g1,o1,none⟩) m.length cm] 24)).alloc (.cells #[Iv (bi:Int),.slice J t.regs.length G,.slice pa t.args.length ca] 82)=w1 at K BX BT |-;generalize w.heap.size+1=X2 at BT |-;generalize ai:w.heap.size=X1 at BX |-;have aw:=Qb ai;clear ai;refine ig1 (Qa BX.out 0 _ Yz) (Qa BT.out 0 _ Yz) (Qn ad.out K.out) (fun j v F=>Qn (ab.out j v F) K.out) an ae _ _ Yz (Xg (by kernel_rfl)) Yz Yz Yz ?_;rintro ak vs w5 o ⟨Z,W,hZ,D⟩ b5;show wpList _ ak _ [_] (QC _ vs [12,13,14,15,16,17,18,19,20,21,9]) w5;simp only[QC,Act.put,List.setIfInBounds_toArray,List.set_cons_zero,List.set_cons_succ,o,W]
 have BZ:=Qb (QiO D bl p);have B6:=Qb (Qb5 hZ (Qcd bl p).toList 0 b5);have TH:=Qb (QeP D Yz bl p);have SZ:=Qb (show (prog.info? 86).map (·.size)=some (Qcd bl p).size from pSizeB);have ON:=Qb (Qiq bl p);obtain⟨cs,C⟩:∃ cs,Qcd bl p=cs:=⟨_,Yz⟩
 rw[C] at BZ B6 TH SZ ON |-
 have EC:=Qb C;clear C o W hZ D b5 ad ab;go_upto_region 2 with (refine wpList_store_mid Yz 86 (.tmp 9) (.tmp 21) Yz Z 0 cs Yz Yz TH.out SZ.out ON.out ?_)
 generalize w5.setCells Z 0 cs.toList=w6 at BZ B6 |-;obtain rfl:=EC.out;clear TH SZ ON EC;have E:=Qb (Blk.below BT.out B6.out);have a:=Qb (K.out.trans (B6.out.mono K.out.size));clear BX BT B6 K;have t0:=Qa E.out 0 _ Yz;have t1:=Qa E.out 1 _ Yz;have t2:=Qa E.out 2 _ Yz;have z0:=Qa BZ.out 0 _ Yz;have z1:=Qa BZ.out 1 _ Yz;by_cases n:(t.regs.length:Int)=bl.regs/\t.args.length=bl.params.length
 rotate_left
 ·have d:Hid (oo=none):=by show _=_;rw[I.out,Xr n]
  by_cases O:(t.regs.length:Int)=bl.regs
  ·have x:((t.regs.length:Int)==bl.regs)=true:=by simpa using O
   have ah:((t.args.length:Int)==(bl.params.length:Int))=false:=by
    have:¬ t.args.length=bl.params.length:=fun e=>n ⟨O,e⟩
    simp;omega
   clear n O I;go_wp2_with fail
   refine(ZD _).mono ?_
   rintro R w' ⟨rfl,b⟩;subst b;exact⟨Yz,a.out,by rw[d.out]⟩
  ·have x:((t.regs.length:Int)==bl.regs)=false:=by simpa using O
   clear n O I;go_wp2_with fail
   refine(ZD _).mono ?_
   rintro R w' ⟨rfl,b⟩;subst b;exact⟨Yz,a.out,by rw[d.out]⟩
 have x:((t.regs.length:Int)==bl.regs)=true:=by simpa using n.1
 have ah:((t.args.length:Int)==(bl.params.length:Int))=true:=by simp[n.2]
 have s:Hid (oo=match Zs fr.r t.regs with | none=>none | some P=>match Qq fr.v t.args with | none=>none | some H=>some ⟨fi,bi,0,H,P⟩):=by show _=_;rw[I.out,Xs n]
 have aq:Hid (bl.regs=t.regs.length):=n.1.symm;clear n I;go_upto_region 3 with (go_at_call 138;refine(ZM _).mono ?_;rintro R w' ⟨rfl,b⟩;have b:=b.symm;subst b)
 clear x ah z1;have F6:=Qb (HF.out.below a.out);have f3:=Qa F6.out.1 3 _ Yz;have au:=Qb t1;go_wp2_with fail
 go_loopw [41] (fun i wr=>∃ k:Nat,k<=t.regs.length/\i=Iv k/\wr=w6/\∀ (j:Nat) (y:Int),j<k->t.regs[j]?=some y->0<=y/\y<(fr.r.length:Int)) (fun i _=>t.regs.length - (intOf i).toNat)
 case atStart=>exact⟨0,Xb _,Yz,Yz,fun j y F=>by omega⟩
 case round =>
  obtain⟨k,hk,rfl,b,hz⟩:=hrel
  have b:=b.symm;subst b;have HZ:=Qb hz;clear hz t1;by_cases g:k<t.regs.length
  ·have ac:(k:Int)<t.regs.length:=by omega
   obtain⟨y,S⟩:∃ y,t.regs[k]?=some y:=⟨_,Zg g⟩
   obtain⟨g9,o9,rfl,-,hg,A⟩:=ZW U.out g
   rw[show t.regs.getD k 0=y by rw[List.getD_eq_getElem?_getD,S];rfl] at A
   have y0:=Qn A a.out;have HY:=Qb S;clear A hg S;by_cases u:0<=y/\y<(fr.r.length:Int)
   ·have d1:decide (y>=0)=true:=by simpa using u.1
    have d2:decide (y<(fr.r.length:Int))=true:=by simpa using u.2
    have ar:=Qb u;clear u;go_wp2_with (go_at_call 138;refine(ZM _).mono ?_;rintro R w' ⟨rfl,b⟩;have b:=b.symm;subst b)
    go_roundw
    case rel =>
     refine⟨k+1,g,by go_num,by first | rfl | trivial,fun j y' F z=>?_⟩
     rcases Nat.lt_or_ge j k with h | h
     ·exact HZ.out j y' h z
     ·have:j=k:=by omega
      subst this;rw[HY.out] at z
      cases z
      exact ar.out
    case measure=>simp[intOf];omega
   ·have d:Hid (oo=none):=by show _=_;rw[s.out,QdK (Zm HY.out) u]
    by_cases h0:0<=y
    ·have d1:decide (y>=0)=true:=by simpa using h0
     have d2:decide (y<(fr.r.length:Int))=false:=Xu (fun h=>u ⟨h0,h⟩);clear u h0 s;go_wp2_with fail
     refine(ZD _).mono ?_
     rintro R w' ⟨rfl,b⟩;subst b;exact⟨Yz,a.out,by rw[d.out]⟩
    ·have d1:decide (y>=0)=false:=by simpa using h0
     clear u h0 s;go_wp2_with fail
     refine(ZD _).mono ?_
     rintro R w' ⟨rfl,b⟩;subst b;exact⟨Yz,a.out,by rw[d.out]⟩
  ·have ac:¬ (k:Int)<t.regs.length:=by omega
   obtain⟨P,X,af⟩:=Qdu (r:=fr.r) (l:=t.regs) (fun y S=>by
    obtain⟨j,F⟩:=List.getElem?_of_mem S
    exact HZ.out j y (by have:=(Zi F).1;omega) F)
   have d:Hid (oo=match Qq fr.v t.args with | none=>none | some H=>some ⟨fi,bi,0,H,P⟩):=by show _=_;rw[s.out,X]
   have V:=Qb af;have CA:Hid (∀ wx,Below w6.heap.size w6 wx->Calls prog 142 #[Pv c 0,.slice pa t.args.length ca] wx fun e w'=>QcF wx (Qq fr.v t.args) t.args.length e w'):=fun wx bx=>Qeq (F6.out.below bx) hl Yz (by omega) (Ya ap.out (a.out.trans (bx.mono a.out.size)));clear HZ g s af X U;go_upto_region 8 with fail
   refine ig8 t0 z0 t2 CA _ _ Yz (Xg (by kernel_rfl)) Yz Yz Yz Yz ?_ ?_
   ·rintro ch a' w9 aj ⟨rfl,hv,b9⟩;exact⟨aj,a.out.trans (b9.mono a.out.size),by rw[d.out,hv]⟩
   ·rintro ay w9 ⟨B,g9,H,N,hB,ag,T,ex,q⟩ b9;have bb:=a.out.trans (b9.mono a.out.size)
    have QQ:Hid (QbH w oo (.returned (Pv B 0)) w9):=by
     refine⟨bb,?_⟩
     rw[d.out,ex]
     have al:=Zp _ _ ex;refine⟨B,g9,t.args.length,Yz,Zt a.out.size hB,Zt a.out.size T,?_,QhN.of al (by omega) q⟩
     rw[ag,aq.out,<-V.out]
     rfl
    simp only[QC,Act.put,List.setIfInBounds_toArray,List.set_cons_zero,List.set_cons_succ,N]
    clear N hB ag T ex q b9 bb d V CA;go_wp2
    go_ret;exact QQ.out
end
theorem Qgb {l l2:List Oper}{outs:List Tmp}{gs:List (Nat × Option Bool)}{a:Act}
 (E:Tmp->Value->World->Prop) (W:World->Prop) (R:World->World->Prop) (PX:List PanicEntry->World->Prop) (C:∀ ch a' w,a'.defers=a.defers->PX ch w->Q (.panic ch) a' w)
 (r:P.follows .mixedOrders=true)  (hn:a.tmps.size=m) (g:n<=m) (F:Qbt l n outs gs bs=true)
 (p:(Qcu 0 (l++l2)&&(Qde l.length l&&QbD (l++l2) l.length l2))=true)
 (H:∀ t v w w',R w w'->E t v w->E t v w') (B:Qas E l.toArray gs) (i:W w.drew) (D:Qbw E a w.drew outs)
 (J:AllOkC E W R PX P l bs)
 (b:∀ (vs:Tmp->Value) w',W w'->(∀ t,(Qp l).contains t=true->E t (vs t) w')->wpList P (l++l2).toArray Q l2 (QC a vs (Qp l)) w') :
 (Code.region id (l++l2).toArray true).wp P Q a w:=by
 simp only[Bool.and_eq_true] at p
 obtain⟨c,f,d⟩:=p
 refine wp_region_any r ?_
 have k:wpAny P .any l.toArray (Exit.then (fun a w=>wpList P (l++l2).toArray Q l2 a w) Q) l.length (Array.replicate l.length false) a w.drew:=by
  have u:(fun j=>(Array.replicate l.length false).getD j false)=fun _=>false:=by
   funext j
   rw[Za,Array.getElem?_replicate]
   split<;>rfl
  refine Qds (E:=fun _=>E) (W:=fun _=>W) (PX:=PX) (Q:=Exit.then (fun a w=>wpList P (l++l2).toArray Q l2 a w) Q) (a0:=a) (outs:=outs) (gs:=gs) (bs:=bs) (fun ch a' w' z A=>C ch a' w' z A) (QbA (hn ▸ g) F) (fun _=>B) (QgZ H l bs 0 J) (fun vs S w' _ i y=>b vs w' i y) _ _ _ _ (by simp) ?_ ⟨i,(by rw[u];intro j o _ h;cases h),Z,Z,fun _ _=>rfl,fun t G _=>QcV outs D t G,?_⟩
  ·simp only[Array.toList_replicate]
   exact Zt (List.length_filter_le _ _) (by simp)
  ·intro j o t M K s;simp[Array.getD] at s
 have:=Qdm (Q:=Q) c f d l.length (Array.replicate l.length false) a w.drew (by simp) (fun q o L I=>by simp[Array.getD] at I) k
 have e:(Array.replicate l.length false++Array.replicate l2.length false:Array Bool)=Array.replicate (l++l2).toArray.size false:=by
  simp
 have x:l.length+l2.length=(l++l2).toArray.size:=by simp
 rw[e,x] at this
 exact this
theorem Zf {lo:List Oper}{outs:List Tmp}{gs:List (Nat × Option Bool)}{a:Act}
 (k:Nat) (E:Tmp->Value->World->Prop) (W:World->Prop) (R:World->World->Prop) (PX:List PanicEntry->World->Prop) (g:∀ ch a' w,a'.defers=a.defers->PX ch w->Q (.panic ch) a' w)
 (f:P.follows .mixedOrders=true)  (hn:a.tmps.size=m) (c:n<=m) (d:Qbt (lo.take k) n outs gs bs=true)
 (j:(Qcu 0 lo&&(Qde (lo.take k).length (lo.take k)&&QbD lo (lo.take k).length (lo.drop k)))=true)
 (e:∀ t v w w',R w w'->E t v w->E t v w') (q:Qas E (lo.take k).toArray gs) (i:W w.drew) (p:Qbw E a w.drew outs)
 (o:AllOkC E W R PX P (lo.take k) bs)
 (b:∀ ops (vs:Tmp->Value) w',W w'->(∀ t,(Qp (lo.take k)).contains t=true->E t (vs t) w')->wpList P ops Q (lo.drop k) (QC a vs (Qp (lo.take k))) w') :
 (Code.region id lo.toArray true).wp P Q a w:=by
 have h:=Qgb (id:=id) (l:=lo.take k) (l2:=lo.drop k) (Q:=Q) E W R PX g f hn c d (by rw[List.take_append_drop];exact j) e q i p o (b _);rwa [List.take_append_drop] at h
def Qo (g:MG) (w:World) (b most:Nat) (m:List (MFunc 6)) (M:IM) (sc sa:Int) (r:Option IM) (e:Ending) (w':World):Prop:=match r with
 | none=>e=.panicked stuckP/\XTo g w w' b most m M sc sa
 | some M'=>(e=.returned (.tuple #[])/\XTo g w w' b most m M' sc sa)\/(∃ N k,M'=N.over k/\e=.panicked (Qld k)/\XTo g w w' b most m N sc sa)
section
variable {w w' w2:World}{b most:Nat}{m:List (MFunc 6)}{M M' N:IM}{sc sa:Int}{g g1:MG}{e:Ending}
theorem Qo.go (h:XTo g w w' b most m M' sc sa):Qo g w b most m M sc sa (some M') (.returned (.tuple #[])) w':=.inl ⟨Z,h⟩
theorem Qo.end_ {k:Int}(h:XTo g w w' b most m N sc sa):Qo g w b most m M sc sa (some (N.over k)) (.panicked (Qld k)) w':=.inr ⟨N,k,Z,Z,h⟩
theorem Qo.stuck (h:XTo g w w' b most m M sc sa):Qo g w b most m M sc sa none (.panicked stuckP) w':=⟨Z,h⟩
theorem MAt.regs (S:MAt w b most m M sc sa g) (k:Int):XTo g w (w.setCell ⟨g.t.c,3,none⟩ (Iv ((M.top.r.length:Int)+1))) b most m { M with top:={ M.top with r:=M.top.r++[k] } } sc sa:=by
 have F:=S.top;refine S.setTop Z Z Z (by simp) (fun x a d f=>Xd _ _ _ _ d) (v:=g.t.v) ⟨?_,?_⟩ (fun x a=>.inl a)
 ·have:=Qm F.1 3 (Iv ((M.top.r.length:Int)+1))
  rw[this]
  simp
 ·exact F.2.keep (fun x a=>Xd _ _ _ _ (fun (e:x=g.t.c)=>F.ne (e ▸ a)))
theorem MAt.next (S:MAt w b most m M sc sa g):XTo g w (w.setCell ⟨g.t.c,2,none⟩ (Iv ((M.top.i:Int)+1))) b most m { M with top:={ M.top with i:=M.top.i+1 } } sc sa:=by
 have F:=S.top;refine S.setTop Z Z Z (by simp) (fun x a d f=>Xd _ _ _ _ d) (v:=g.t.v) ⟨?_,?_⟩ (fun x a=>.inl a)
 ·have:=Qm F.1 2 (Iv ((M.top.i:Int)+1))
  rw[this]
  simp
 ·exact F.2.keep (fun x a=>Xd _ _ _ _ (fun (e:x=g.t.c)=>F.ne (e ▸ a)))
theorem MAt.heapC (S:MAt w b most m M sc sa g):w.cell? ⟨b,0,none⟩=some (Pv g.bh 0):=Qa S.box 0 _ Z
theorem Qjx (S:MAt w b most m M sc sa g) (B:HB n M.h) (hn:n<=1000000) (hv:M.top.v.length+1<=1000000) (hr:M.top.r.length<=1000000) :
 Calls prog 137 #[Pv b 0,Pv g.t.c 0] w fun e w'=>Qo g w b most m M sc sa (if M.h.open_.2.1 then some (IM.push { M with h:=M.h.open_.2.2,top:={ M.top with r:=M.top.r++[M.h.open_.1.region] } } [M.h.open_.1]) else some (M.over 6)) e w':=by
 have q0:=S.heapC;have C:=Qb (QjT S.heap (by have:=B.ok.len;omega) B.live);have W:=Qb S
 have z:Hid (M.h.open_.2.1=false->M.h.open_.2.2=M.h):=by
  show _->_;unfold Qc.open_;split
  ·exact fun _=>rfl
  ·exact fun h=>by cases h
 clear S B;generalize M.h.open_=op at C z |-;obtain⟨⟨p,a,q,o⟩,ob,oh⟩:=op
 simp only at C z |-
 go_enter func137,ntmps137
 go_upto_region 1 with (go_at_call 195;refine C.out.mono ?_;rintro F y ⟨rfl,Q⟩)
 obtain⟨g2,G,K,U,L⟩:=W.out.toHeap Q
 have H:=Zb y (.cells #[Iv p,Iv a,Iv q,Iv o] 211);have Y:=Qb (Qe y #[Iv p,Iv a,Iv q,Iv o] 211);have k:=Qb (G.below H);have x:=Qb (K.trans (G.stepB H));have f:=Qb (Xh U L);clear C Q K H G q0 U L;generalize y.alloc (.cells #[Iv p,Iv a,Iv q,Iv o] 211)=w3 at Y k x |-;generalize y.heap.size=X at Y |-
 cases ob with
 | false =>
   have E:=Qb (z.out Z);go_wp2_with fail
   refine(QaS _ _).mono ?_
   rintro F w' ⟨rfl,u⟩;subst u;refine⟨Z,Qo.end_ ⟨g2,?_,x.out,f.out.1,f.out.2⟩⟩
   have:=k.out
   rw[E.out] at this
   exact this
 | true =>
   have f3:=Qa k.out.top.1 3 _ Z;have z3:=Qd k.out.top.1 3;rw[f.out.1] at f3 z3
   go_upto_region 2 with (go_at_call 84;refine(Qbd _ _).mono ?_;rintro F w' ⟨rfl,u⟩;have u:=u.symm;subst u)
   obtain⟨V,d,j,T,I⟩:=k.out.regs a
   rw[f.out.1] at d j
   have s:Hid ((w3.setCell ⟨g.t.c,3,none⟩ (Iv ((M.top.r.length:Int)+1))).heap[X]?=_):=(Xd _ _ _ _ (fun e=>by
    have P:=Y.out;rw[e,<-f.out.1,k.out.top.1] at P
    simp at P)).trans Y.out
   have d:=Qb d;have j:=Qb (x.out.trans j);have i:Hid (V.t.c=g.t.c/\V.fs=g.fs):=⟨T.trans f.out.1,I.trans f.out.2⟩;simp only at d j
   have aa:M.top.r.length+1<=1000001:=by omega
   clear k x Y T I z W;generalize ab:M.top.r.length=nr at *;go_upto_region 3 with fail
   generalize w3.setCell ⟨g.t.c,3,none⟩ (Iv ((nr:Int)+1))=N at d j s |-;have y0:=Qa s.out 0 _ Z;have y1:=Qa s.out 1 _ Z;have y2:=Qa s.out 2 _ Z;have y3:=Qa s.out 3 _ Z;have D:=Zb N (.cells #[Iv p,Iv a,Iv q,Iv o] 211);have A:=Qb (fun cp=>Z3 (d.out.below D) (l:=[⟨p,a,q,o⟩]) (cp:=cp) Z (Qh2 N p a q o) hv);have O:=Qb (j.out.trans (d.out.stepB D));rw[i.out.1] at A
   clear D s d j f3 z3;go_wp2_with fail
   refine(A.out _).mono ?_
   rintro F w6 ⟨rfl,J⟩;have R:=Qb (XTo.then O.out i.out.1 i.out.2 J);clear J A O y0 y1 y2 y3;go_wp2
   exact Xz (v:=.tuple #[]) (by simp[results,results137,go_sem]) Z (Qo.go R.out)
theorem iInfo64:∃ i,prog.info? 2=some i/\i.zero=some (Iv 0)/\i.size=1/\i.bytes=8:=by
 have h:(prog.info? 2).map (fun i=>(i.zero,i.size,i.bytes))=some (some (Iv 0),1,8):=by kernel_rfl
 cases e:prog.info? 2 with
 | none=>rw[e] at h;cases h
 | some i =>
   rw[e] at h
   simp only[Option.map_some,Option.some.injEq,Prod.mk.injEq] at h
   exact⟨i,Z,h.1,h.2.1,h.2.2⟩
theorem iUnder64:prog.underlying 25=some (.slice 2):=by kernel_rfl
theorem MAt.setOut (S:MAt w b most m M sc sa g){v9:Value}{w9:World}{n:Int}(D:w9.ownsRow 0 2 1 v9 (M.out.length+1) (M.out.map (Value.int .i64)++[Iv n])) (j:w.grownBy w9 g.vo.ownBlock) (r:∀ k,v9.ownBlock=some k->g.vo.ownBlock=some k\/k=w.heap.size) :
 XTo g w (w9.setCell ⟨b,7,none⟩ v9) b most m { M with out:=M.out++[n] } sc sa:=by
 have v:=XC S.box;have t:w9.heap[b]?=_:=(j.block b v (fun e=>S.outNe e.symm Z)).trans S.box
 have l:∀ k,k<w.heap.size->k≠b->g.vo.ownBlock≠some k->(w9.setCell ⟨b,7,none⟩ v9).heap[k]?=w.heap[k]?:=fun k c d i=>by
  rw[Xd _ _ _ _ d]
  exact j.block k c (fun e=>i e.symm)
 have p:w.heap.size<=(w9.setCell ⟨b,7,none⟩ v9).heap.size:=by simpa using j.size
 have o:∀ k,v9.ownBlock=some k->k<w.heap.size->g.A k/\¬ g.O k:=fun k c z=>by
  rcases r k c with e | e
  ·exact S.oo k e
  ·omega
 have u:∀ k,¬ g.A k->k<w.heap.size->¬ (g.A k\/v9.ownBlock=some k):=fun k d i E=>by rcases E with e | e;exact d e;exact d (o k e i).1
 have q:∀ k,¬ g.A k->k<w.heap.size->(w9.setCell ⟨b,7,none⟩ v9).heap[k]?=w.heap[k]?:=fun k d i=>l k i (fun e=>d (e ▸ S.ob.1)) (fun e=>d (S.oo k e).1)
 have s:∀ k,v9.ownBlock=some k->k≠b:=fun k c e=>by
  rcases r k c with h | h
  ·exact S.outNe h e
  ·omega
 refine⟨{ g with vo:=v9,A:=fun x=>g.A x\/v9.ownBlock=some x },⟨?_,?_,?_,?_,S.inpC,?_,?_,?_,?_,⟨.inl S.ob.1,S.ob.2⟩,fun x a=>⟨.inl (S.oc x a).1,(S.oc x a).2⟩,fun x a=>⟨.inr a,fun e=>?_⟩,fun x a=>.inl (S.oa x a),?_,Zt S.low p⟩,?_,Z,Z⟩
 ·have:=Qm t 7 v9
  simpa using this
 ·exact S.heap.keep p (fun x a z=>l x z (fun e=>S.ob.2 (e ▸ a)) (fun e=>(S.oo x e).2 a))
 ·exact ZB (Qar 6) q u S.mod
 ·exact ZB intsL q u S.inp
 ·exact QM S.calls (fun x a=>l x (S.lt x (S.oc x a).1) (S.callsNe a).1 (S.callsNe a).2)
 ·exact ZG q u S.back
 ·show World.ownsRow _ 0 _ 1 v9 (M.out++[n]).length ((M.out++[n]).map _);rw[List.length_append,List.map_append]
  exact QM D (fun x a=>Xd _ _ _ _ (s x a))
 ·refine S.frs.keep (fun k c d i=>⟨.inl d,i⟩) (fun y C=>?_);obtain⟨F,B,G,H⟩:=S.frs.mem y C
  have f:=S.frNe C;exact⟨l _ (XC B.1) f.1 (fun e=>(f.2.2.2 _ e).1 Z),fun x a=>l x (B.2.lt a) (fun e=>f.2.1 (e ▸ a)) (fun e=>(f.2.2.2 _ e).2 a)⟩
 ·exact(o x a (S.heap.lt x e)).2 e
 ·rintro x (a | a)
  ·exact Zl (S.lt x a) p
  ·have:=XC (QT D a).choose_spec
   simpa using this
 ·refine⟨j.os,j.tape,j.output,p,fun k c d=>q k d c,?_⟩
  rintro k (c | c)
  ·exact .inl c
  ·rcases r k c with e | e
   ·exact .inl (S.oo k e).1
   ·exact .inr (by omega)
theorem QgA (S:MAt w b most m M sc sa g) (n:Int) (Q:M.out.length<=2000) :
 Calls prog 147 #[Pv b 0,Iv n] w fun e w'=>Qo g w b most m M sc sa (if M.out.length=2000 then some (M.over 8) else some { M with out:=M.out++[n] }) e w':=by
 obtain⟨J,L,q,o,s⟩:=iInfo64
 obtain⟨W,N,j⟩:=Qba S.out
 have C:w.cell? ⟨b,7,none⟩=some g.vo:=Qa S.box 7 _ Z;rw[j] at C
 have D:=Qb S;have r:=Qb j;by_cases l:M.out.length=2000
 ·rw[Xs l]
  have H:decide ((M.out.length:Int)<2000)=false:=Xu (by omega);clear S j l;go_enter func147,ntmps147
  generalize M.out.length=P at *;go_wp2_with fail
  refine(QaS _ _).mono ?_
  rintro I w' ⟨rfl,h⟩;subst h;exact⟨Z,Qo.end_ (XTo.same D.out Zr)⟩
 ·rw[Xr l]
  have H:decide ((M.out.length:Int)<2000)=true:=Xt (by omega);have z:=Zb w (.cells #[Iv n] 2);have i:=Qb (S.below z);have E:=Qb (S.stepB z);have t:=Qb i.out.out;have F:=Qb (QkM w [Iv n] 2);have K:Hid ((w.alloc (.cells #[Iv n] 2)).heap.size=w.heap.size+1):=by show _=_;simp
  have d:=Qb (fun v9 w9=>i.out.setOut (v9:=v9) (w9:=w9) (n:=n));have c:=Qb i.out.box;have a:=Qb (fun x=>i.out.outNe (x:=x));clear S j l z D;rw[r.out] at t d a
  go_enter func147,ntmps147
  go_upto_region 1 with (go_at_call 84;refine(Qbd _ _).mono ?_;rintro I w' ⟨rfl,h⟩;have h:=h.symm;subst h)
  go_wp2_with (at_builtin;refine ZL _ Z _ _ 25 Z 2 J (Iv 0) 1 8 iUnder64 L q o s Z (by decide) _ _ _ Z t.out ⟨w.heap.size,0,none⟩ 1 1 [Iv n] Z Z F.out (by intro u B;simp at B;subst B;rfl) (by unfold maxLen;omega) (by omega) ?_)
  intro v9 w9 y p A;have R:=Qb (XTo.then E.out Z Z (d.out v9 w9 y p (fun k G=>(A k G).imp id (fun e=>by rw[K.out];exact e))));have f:=(p.block b (XC c.out) (fun e=>a.out b e.symm Z)).trans c.out;have T:w9.cell? ⟨b,7,none⟩=some g.vo:=Qa f 7 _ Z;have U:=Qd f 7;obtain⟨O,V,rfl⟩:=Qba y
  clear y p A d f c t C F E i a;go_wp2
  exact Xz (v:=.tuple #[]) (by simp[results,results147,go_sem]) Z (Qo.go R.out)
theorem Qgg (S:MAt w b most m M sc sa g) (E:M.inp.length<=1000000) (hv:M.top.v.length+1<=1000000) :
 Calls prog 146 #[Pv b 0,Pv g.t.c 0] w fun e w'=>Qo g w b most m M sc sa (match M.inp with | []=>some (M.over 4) | n::l=>some (IM.push { M with inp:=l } [Qaz n])) e w':=by
 have o:w.cell? ⟨b,2,none⟩=some (.slice g.pi M.inp.length g.ci):=Qa S.box 2 _ Z;have W:=Qb S
 cases hi:M.inp with
 | nil =>
   rw[hi] at o
   clear S;go_enter func146,ntmps146
   go_wp2_with fail
   refine(QaS _ _).mono ?_
   rintro T w' ⟨rfl,z⟩;subst z;exact⟨Z,Qo.end_ (XTo.same W.out Zr)⟩
 | cons n l =>
   have f:=S.inp;rw[hi] at o f
   obtain⟨gi,oi,I,-,G,U⟩:=ZW f (i:=0) (by simp)
   simp only[List.getD_cons_zero,Nat.add_zero] at U
   rw[I] at o
   have C:=Qb (Qak S n hv);have Q:=Qb hi;have F:=Qb I;have H:=Qb S.inpC;have X:l.length+1<=g.ci:=by have:=S.inpC;rw[hi] at this;simpa using this
   have aa:l.length+1<=1000000:=by rw[hi] at E;simpa using E
   simp only[List.length_cons] at o
   clear S I f hi E;go_enter func146,ntmps146
   have d1:decide (((l.length+1:Nat):Int)>0)=true:=Xt (by omega);go_upto_region 2 with (first | (go_at_call 84;refine(Qbd _ _).mono ?_;rintro T w' ⟨rfl,z⟩;have z:=z.symm;subst z) | (go_at_call 135;refine C.out.mono ?_;rintro T q ⟨rfl,y⟩))
   obtain⟨a,d,K,V,N⟩:=y
   have O:(M.push [Qaz n]).inp=n::l:=Q.out;have o:q.cell? ⟨b,2,none⟩=some (.slice a.pi (M.push [Qaz n]).inp.length a.ci):=Qa d.box 2 _ Z;have f:=d.inp;have B:=d.inpC;rw[O] at o f B
   obtain⟨J,p,s,-,D,-⟩:=ZW f (i:=0) (by simp)
   rw[s] at o f
   simp only[List.length_cons] at o B
   have z2:=Qd d.box 2
   have L:Hid (intsL.In q (Imm a.A b) l [.slice (some ⟨J,p+1,none⟩) l.length (a.ci - 1)]):=by
    refine⟨_,_,Z,fun i x hx=>?_⟩
    obtain⟨g9,o9,ds,r,u,y,h3,h4⟩:=Yf f (i:=i+1) (x:=x) (by simpa using hx)
    injection r with r
    injection r with r e10
    subst r;subst e10;refine⟨_,_,ds,Z,u,y,fun j hj=>?_,h4⟩
    have:=h3 j hj
    rw[show p+1+i*Lay.int.size+j=p+(i+1)*Lay.int.size+j by simp[Lay.int];omega]
    exact this
   have R:Hid (∀ (pi:Option Addr) (ci:Nat),intsL.In q (Imm a.A b) l [.slice pi l.length ci]->l.length<=ci->XTo g w (q.setCell ⟨b,2,none⟩ (.slice pi l.length ci)) b most m (IM.push { M with inp:=l } [Qaz n]) sc sa):=fun pi ci u y=>XTo.then K V N (d.reBox (M':=IM.push { M with inp:=l } [Qaz n]) (w':=q.setCell ⟨b,2,none⟩ (.slice pi l.length ci)) (sc':=sc) (sa':=sa) Z Z Z (by simp) (fun k P u=>Xd _ _ _ _ u) ⟨Z,Z,Z,Z⟩ (pi:=pi) (ci:=ci) (vb:=a.vb) ⟨u,y⟩ (ZG (fun k P E=>Xd _ _ _ _ (fun (e:k=b)=>P (e ▸ d.ob.1))) (fun _ h _=>h) d.back) (by
    rw[Qm d.box 2 _]
    rfl))
   have R1:=Qb (R.out _ _ L.out (by omega))
   have R0:Hid (l.length=0->∀ pi ci,XTo g w (q.setCell ⟨b,2,none⟩ (.slice pi l.length ci)) b most m (IM.push { M with inp:=l } [Qaz n]) sc sa):=fun e pi ci=>R.out pi ci (by
    have:l=[]:=Xf.1 e
    subst this;exact Yg _ _ _ _ _) (by omega)
   have ab:((a.ci:Int) - 1)=((a.ci - 1:Nat):Int):=by omega
   clear d K f L C W Q F H U s O d1 G D V N R;generalize a.ci=ci at *;go_wp2
   ·exact Xz (v:=.tuple #[]) (by simp[results,results146,go_sem]) Z (Qo.go (R0.out (by omega) _ _))
   ·exact Xz (v:=.tuple #[]) (by simp[results,results146,go_sem]) Z (Qo.go R1.out)
end
section
variable {w w' w5 w9:World}{b most:Nat}{m:List (MFunc 6)}{M M' N:IM}{sc sa:Int}{g g1:MG}{e:Ending}
theorem Qhf {A:Nat->Prop}{xs:List FB}{frs:List IFr}(h:QaY w A O xs frs){y z:FB}(a:y∈xs) (g:z∈xs):y.v.ownBlock≠some z.c:=by
 obtain⟨i,d,-⟩:=h.mem y a
 obtain⟨j,f,-⟩:=h.mem z g
 intro e;obtain⟨c,b⟩:=QT d.2 e
 exact QN b f.1 (by decide) Z
theorem MAt.pushFr (S:MAt w b most m M sc sa g) (q:Below w.heap.size w w5){f:Nat}{n:Value}{fr:IFr}(F:QdM w5 f fr n) (G:w.heap.size<=f) (r:∀ k,n.ownBlock=some k->w.heap.size<=k)
 {v9:Value} (Q:w9.ownsRow 0 97 1 v9 (M.rest.length+1+1) (Qa4 (g.t::g.fs)++[Pv f 0])) (p:w5.grownBy w9 g.vc.ownBlock) (E:∀ k,v9.ownBlock=some k->g.vc.ownBlock=some k\/k=w5.heap.size) :
 ∃ g',MAt (w9.setCell ⟨b,4,none⟩ v9) b most m { M with top:=fr,rest:=M.top::M.rest } sc sa g'/\QZ g.A g'.A w (w9.setCell ⟨b,4,none⟩ v9)/\g'.fs=g.t::g.fs:=by
 have z:=XC S.box
 have s:∀ k,k<w.heap.size->k≠b->g.vc.ownBlock≠some k->(w9.setCell ⟨b,4,none⟩ v9).heap[k]?=w.heap[k]?:=fun k d i l=>by
  rw[Xd _ _ _ _ i]
  exact(p.block k (Zl d q.size) (fun e=>l e.symm)).trans (q.block k d)
 have J:w9.heap[b]?=_:=(p.block b (Zl z q.size) (fun e=>(S.callsNe e.symm).1 Z)).trans ((q.block b z).trans S.box);have T:=q.size;have B:w.heap.size<=(w9.setCell ⟨b,4,none⟩ v9).heap.size:=by have:=p.size;simp;omega
 have v:∀ k,v9.ownBlock=some k->k<w.heap.size->g.A k/\¬ g.O k:=fun k d N=>by
  rcases E k d with e | e
  ·exact S.oc k e
  ·omega
 have L:∀ k,(k=f\/n.ownBlock=some k)->w.heap.size<=k/\k<w5.heap.size:=fun k d=>by
  rcases d with e | e
  ·subst e;exact⟨G,XC F.1⟩
  ·exact⟨r k e,F.2.lt e⟩
 have P:∀ k,w.heap.size<=k->¬ g.O k:=fun k d h=>by have:=S.heap.lt k h;omega
 have j:∀ k,w.heap.size<=k->k<w5.heap.size->(w9.setCell ⟨b,4,none⟩ v9).heap[k]?=w5.heap[k]?:=fun k i l=>by
  rw[Xd _ _ _ _ (fun (e:k=b)=>by omega)]
  exact p.block k l (fun e=>by have:=S.lt k (S.oc k e.symm).1;omega)
 have K:∀ k,¬ g.A k->k<w.heap.size->¬ (g.A k\/k=f\/n.ownBlock=some k\/v9.ownBlock=some k):=fun k i l U=>by
  rcases U with e | e | e | e
  ·exact i e
  ·omega
  ·have:=r k e;omega
  ·exact i (v k e l).1
 have C:∀ k,¬ g.A k->k<w.heap.size->(w9.setCell ⟨b,4,none⟩ v9).heap[k]?=w.heap[k]?:=fun k i l=>s k l (fun e=>i (e ▸ S.ob.1)) (fun e=>i (S.oc k e).1)
 have H:∀ k,v9.ownBlock=some k->k≠b:=fun k d e=>by
  rcases E k d with h | h
  ·exact(S.callsNe h).1 e
  ·omega
 have V:QdM (w9.setCell ⟨b,4,none⟩ v9) f fr n:=F.keep (j f G (XC F.1)) (fun x a=>j x (r x a) (F.2.lt a));refine⟨{ g with vc:=v9,t:=⟨f,n⟩,fs:=g.t::g.fs,A:=fun k=>g.A k\/k=f\/n.ownBlock=some k\/v9.ownBlock=some k },⟨?_,?_,?_,?_,S.inpC,?_,?_,?_,?_,⟨.inl S.ob.1,S.ob.2⟩,fun x a=>⟨.inr (.inr (.inr a)),fun e=>?_⟩,fun x a=>⟨.inl (S.oo x a).1,(S.oo x a).2⟩,fun x a=>.inl (S.oa x a),?_,Zt S.low B⟩,?_,Z⟩
 ·have:=Qm J 4 v9
  simpa using this
 ·exact S.heap.keep B (fun x a N=>s x N (fun e=>S.ob.2 (e ▸ a)) (fun e=>(S.oc x e).2 a))
 ·exact ZB (Qar 6) C K S.mod
 ·exact ZB intsL C K S.inp
 ·have e:Qa4 (⟨f,n⟩::g.t::g.fs)=Qa4 (g.t::g.fs)++[Pv f 0]:=by simp[Qa4]
  show World.ownsRow _ 0 _ 1 v9 ((M.top::M.rest).length+1) (Qa4 (⟨f,n⟩::g.t::g.fs));rw[e]
  exact QM Q (fun x a=>Xd _ _ _ _ (H x a))
 ·exact ZG C K S.back
 ·exact QM S.out (fun x a=>s x (S.lt x (S.oo x a).1) (S.outNe a) (fun e=>(S.callsNe e).2 a))
 ·refine⟨⟨V,⟨.inr (.inl Z),P f G⟩,fun k d=>⟨.inr (.inr (.inl d)),P k (r k d)⟩⟩,fun y D=>?_,?_⟩
  ·obtain⟨I,u,R,W⟩:=S.frs.mem y D
   refine⟨fun e=>?_,fun k d e=>?_⟩
   ·have i:=XC u.1;have e:y.c=f:=e;omega
   ·have:=u.2.lt e
    have:=r k d
    omega
  ·refine S.frs.keep (fun k d i l=>⟨.inl i,l⟩) (fun y D=>?_);obtain⟨I,u,R,W⟩:=S.frs.mem y D
   have o:=S.frNe D;exact⟨s _ (XC u.1) o.1 (fun e=>(o.2.2.1 _ e).1 Z),fun x a=>s x (u.2.lt a) (fun e=>o.2.1 (e ▸ a)) (fun e=>(o.2.2.1 _ e).2 a)⟩
 ·exact(v x a (S.heap.lt x e)).2 e
 ·have X:=p.size;rintro x (a | rfl | a | a)
  ·exact Zl (S.lt x a) B
  ·have:=XC F.1;simp;omega
  ·have:=F.2.lt a;simp;omega
  ·have:=XC (QT Q a).choose_spec
   simpa using this
 ·refine⟨p.os.trans q.os,p.tape.trans q.tape,p.output.trans q.output,B,fun k d i=>C k i d,?_⟩
  rintro k (d | d | d | d)
  ·exact .inl d
  ·exact .inr (by omega)
  ·exact .inr (r k d)
  ·rcases E k d with e | e
   ·exact .inl (S.oc k e).1
   ·exact .inr (by omega)
theorem MAt.next2 (S:MAt w b most m M sc sa g){y:FB}{E:List FB}{fr:IFr}{rest:List IFr}(l:g.fs=y::E) (C:M.rest=fr::rest) :
 ∃ g',MAt (w.setCell ⟨y.c,2,none⟩ (Iv ((fr.i:Int)+1))) b most m { M with rest:={ fr with i:=fr.i+1 }::rest } sc sa g'/\QZ g.A g'.A w (w.setCell ⟨y.c,2,none⟩ (Iv ((fr.i:Int)+1))):=by
 have u:=S.frs;rw[l,C] at u
 obtain⟨⟨H,J,I⟩,F,⟨⟨q,o,K⟩,D,v⟩⟩:=u
 have s:y∈g.t::g.fs:=by rw[l];simp
 have j:=S.frNe s;have d:∀ k,k≠y.c->(w.setCell ⟨y.c,2,none⟩ (Iv ((fr.i:Int)+1))).heap[k]?=w.heap[k]?:=fun k f=>Xd _ _ _ _ f;have n:∀ k,¬ g.A k->k<w.heap.size->(w.setCell ⟨y.c,2,none⟩ (Iv ((fr.i:Int)+1))).heap[k]?=w.heap[k]?:=fun k f _=>d k (fun e=>f (e ▸ o.1));have B:w.heap.size<=(w.setCell ⟨y.c,2,none⟩ (Iv ((fr.i:Int)+1))).heap.size:=by simp
 refine⟨g,⟨?_,?_,?_,?_,S.inpC,?_,?_,?_,?_,S.ob,S.oc,S.oo,S.oa,fun x a=>by simpa using S.lt x a,by simpa using S.low⟩,⟨Z,Z,Z,B,fun k f h=>n k h f,fun k f=>.inl f⟩⟩
 ·exact(d b (Ne.symm j.1)).trans S.box
 ·exact S.heap.keep B (fun x a L=>d x (fun e=>o.2 (e ▸ a)))
 ·exact ZB (Qar 6) n (fun _ h _=>h) S.mod
 ·exact ZB intsL n (fun _ h _=>h) S.inp
 ·have:=QM S.calls (w':=w.setCell ⟨y.c,2,none⟩ (Iv ((fr.i:Int)+1))) (fun x a=>d x (fun e=>(j.2.2.1 x a).1 e.symm))
  rw[C] at this
  exact this
 ·exact ZG n (fun _ h _=>h) S.back
 ·exact QM S.out (fun x a=>d x (fun e=>(j.2.2.2 x a).1 e.symm))
 ·rw[l]
  have p:y∈y::E:=by simp
  refine⟨⟨H.keep (d _ (fun e=>(F y p).1 e.symm)) (fun x a=>d x (fun e=>?_)),J,I⟩,F,⟨⟨⟨?_,?_⟩,o,K⟩,D,?_⟩⟩
  ·subst e;exact Qhf S.frs (y:=g.t) (z:=y) (by simp) s a
  ·have:=Qm q.1 2 (Iv ((fr.i:Int)+1))
   rw[this]
   simp
  ·exact q.2.keep (fun x a=>d x (fun e=>q.ne (e ▸ a)))
  ·refine QaY.keep (fun k _ h G=>⟨h,G⟩) v (fun z r=>?_);obtain⟨P,O,N,Q⟩:=QaY.mem v z r
   refine⟨d _ (D z r).1,fun x a=>d x (fun e=>?_)⟩
   subst e;exact Qhf S.frs (y:=z) (z:=y) (by rw[l];simp[r]) s a
theorem MAt.pop (S:MAt w b most m M sc sa g){y:FB}{o:List FB}{d:IFr}{rest:List IFr}(q:g.fs=y::o) (E:M.rest=d::rest)(C:g.vc=.slice a (M.rest.length+1) cap) :
 ∃ g',MAt (w.setCell ⟨b,4,none⟩ (.slice a M.rest.length cap)) b most m { M with top:=d,rest:=rest } sc sa g'/\QZ g.A g'.A w (w.setCell ⟨b,4,none⟩ (.slice a M.rest.length cap))/\g'.t=y:=by
 have p:=S.frs;rw[q,E] at p
 obtain⟨⟨U,W,V⟩,h4,p⟩:=p
 have l:∀ k,k≠b->(w.setCell ⟨b,4,none⟩ (.slice a M.rest.length cap)).heap[k]?=w.heap[k]?:=fun k i=>Xd _ _ _ _ i;have r:∀ k,¬ g.A k->k<w.heap.size->(w.setCell ⟨b,4,none⟩ (.slice a M.rest.length cap)).heap[k]?=w.heap[k]?:=fun k i _=>l k (fun e=>i (e ▸ S.ob.1));have D:w.heap.size<=(w.setCell ⟨b,4,none⟩ (.slice a M.rest.length cap)).heap.size:=by simp
 have K:(Value.slice a M.rest.length cap).ownBlock=g.vc.ownBlock:=by rw[C];cases a<;>rfl
 refine⟨{ g with vc:=.slice a M.rest.length cap,t:=y,fs:=o },⟨?_,?_,?_,?_,S.inpC,?_,?_,?_,?_,S.ob,fun x f=>S.oc x (by rw[<-K];exact f),S.oo,S.oa,fun x f=>by simpa using S.lt x f,by simpa using S.low⟩,⟨Z,Z,Z,D,fun k i h=>r k h i,fun k i=>.inl i⟩,Z⟩
 ·have:=Qm S.box 4 (.slice a M.rest.length cap)
  simpa using this
 ·exact S.heap.keep D (fun x f R=>l x (fun e=>S.ob.2 (e ▸ f)))
 ·exact ZB (Qar 6) r (fun _ h _=>h) S.mod
 ·exact ZB intsL r (fun _ h _=>h) S.inp
 ·have i:=QM S.calls (w':=w.setCell ⟨b,4,none⟩ (.slice a M.rest.length cap)) (fun x f=>l x (S.callsNe f).1);obtain⟨T,I⟩:=i
  have G:Qa4 (g.t::g.fs)=Qa4 (y::o)++[Pv g.t.c 0]:=by rw[q];simp[Qa4]
  have s:(Qa4 (y::o)).length=M.rest.length:=by have:=S.rows;rw[q] at this;simpa[Qa4] using this
  show World.ownsRow _ 0 _ 1 (.slice a M.rest.length cap) (rest.length+1) (Qa4 (y::o));have v:rest.length+1=M.rest.length:=by rw[E];simp
  rw[v]
  refine⟨by rw[s];simp,?_⟩
  rcases I with ⟨B,H⟩|⟨O,cp,j,B,H,P,X,Q,N,F⟩
  ·omega
  ·rw[C] at B
   cases B
   refine .inr ⟨O,cap,j,Z,Xb _,P,by omega,Q,N,?_⟩
   have:j.toList.take (M.rest.length*1)=(j.toList.take ((M.rest.length+1)*1)).take (M.rest.length*1):=by rw[List.take_take,Nat.min_eq_left (by omega)]
   rw[this,F,G,List.take_append_of_le_length (by omega),XO (by omega)]
 ·exact ZG r (fun _ h _=>h) S.back
 ·exact QM S.out (fun x f=>l x (S.outNe f))
 ·refine QaY.keep (fun k _ h J=>⟨h,J⟩) p (fun z L=>?_);have u:z∈g.t::g.fs:=by rw[q];exact List.mem_cons_of_mem _ L
  have n:=S.frNe u;exact⟨l _ n.1,fun x f=>l x (fun e=>n.2.1 (e ▸ f))⟩
end
theorem QdO {l:List Oper}{S:Nat->Bool}(a:Z8 l S){i:Nat}{o:Oper}(b:l[q]?=some o) (c:Qb0 l 30 o i=true) (d:S i=false):S q=false:=by
 cases h:S q with
 | false=>rfl
 | true =>
   have:S i=true:=Qbk (all:=l) (S:=fun j=>S j=true) a 30 o c (a q o b h)
   rw[d] at this;cases this
theorem Qkt {l:List Oper}{S:Nat->Bool}(a:Z8 l S){o:Oper}(b:Qhj o S){i:Nat}(c:Qb0 l 30 o i=true):S i=true:=Qbk (all:=l) (S:=fun j=>S j=true) a 30 o c b
theorem QjZ {i:Nat}{S:Nat->Bool}(h:j≠i):ZF i S j=S j:=by
 have:(j==i)=false:=by simpa using h
 unfold ZF;rw[this,Bool.false_or]
theorem Qns {i:Nat}{S:Nat->Bool}:ZF i S i=true:=by simp[ZF]
abbrev zero4:Array Value:=#[Iv 0,Iv 0,Iv 0,Iv 0]
abbrev Ql6 (r:Qk):Array Value:=#[Iv r.kind,Iv r.region,Iv r.thing,Iv r.n]
abbrev QlB (w:World) (Z:Nat) (r:Qk):World:=(((w.setCell ⟨Z,0,none⟩ (Iv r.kind)).setCell ⟨Z,1,none⟩ (Iv r.region)).setCell ⟨Z,2,none⟩ (Iv r.thing)).setCell ⟨Z,3,none⟩ (Iv r.n)
structure HPs (w6:World) (HP:World->Prop) (HZ:Nat->World->Prop):Prop where
 down:∀ {Z w},HZ Z w->HP w
 up:∀ {w} (o:Obj),HP w->HZ w.heap.size (w.alloc o)
 below:∀ {w w'},HP w->Below w.heap.size w w'->HP w'
 belowZ:∀ {Z w w'},HZ Z w->Z<w.heap.size->Below w.heap.size w w'->HZ Z w'
 fill:∀ {Z w} (r:Qk),HZ Z w->w6.heap.size<=Z->HZ Z (QlB w Z r)
 low:∀ {w},HP w->w6.heap.size<=w.heap.size
def WY (w6:World) (HP:World->Prop) (hk:Nat) (S:Nat->Bool) (w:World):Prop:=(S hk=false/\Below w6.heap.size w6 w)\/(S hk=true/\HP w)
def QaC (w6:World) (HZ:Nat->World->Prop) (hk st:Nat) (R:Qk->Prop) (S:Nat->Bool) (v:Value) (w:World):Prop :=
 ∃ Z,v=Pv Z 0/\w6.heap.size<=Z/\(S st=false->Blk w Z zero4 211)/\(S st=true->∃ r:Qk,R r/\Blk w Z (Ql6 r) 211)/\(S hk=true->HZ Z w)
section
variable {Z:Nat}{w6 w w':World}{HP:World->Prop}{HZ:Nat->World->Prop}{hk st i:Nat}{S:Nat->Bool}{R:Qk->Prop}{v:Value}
theorem WY.pre (h:WY w6 HP hk S w) (a:S hk=false):Below w6.heap.size w6 w:=by
 rcases h with h | h
 ·exact h.2
 ·rw[a] at h;cases h.1
theorem WY.low (h:WY w6 HP hk S w) (P:HPs w6 HP HZ):w6.heap.size<=w.heap.size:=by
 rcases h with h | h
 ·exact h.2.size
 ·exact P.low h.2
theorem WY.on (h:WY w6 HP hk S w) (P:HPs w6 HP HZ) (hi:i≠hk) (b:Below w.heap.size w w'):WY w6 HP hk (ZF i S) w':=by
 have e:ZF i S hk=S hk:=QjZ (fun e=>hi e.symm);rcases h with ⟨c,a⟩|⟨c,a⟩
 ·exact .inl ⟨by rw[e];exact c,a.trans (b.mono a.size)⟩
 ·exact .inr ⟨by rw[e];exact c,P.below a b⟩
theorem WY.did (p:HP w'):WY w6 HP hk (ZF hk S) w':=.inr ⟨Qns,p⟩
theorem WY.fin (h:WY w6 HP hk S w) (a:S hk=true):HP w:=by
 rcases h with h | h
 ·rw[a] at h;cases h.1
 ·exact h.2
theorem QaC.lt (h:QaC w6 HZ hk st R S v w):∃ Z,v=Pv Z 0/\w6.heap.size<=Z/\Z<w.heap.size:=by
 obtain⟨Z,e,b,c,d,f⟩:=h
 refine⟨Z,e,b,?_⟩
 cases hS:S st with
 | false=>exact XC (c hS)
 | true=>obtain⟨r,_,a⟩:=d hS;exact XC a
theorem QaC.on (h:QaC w6 HZ hk st R S v w) (P:HPs w6 HP HZ) (hi:i≠hk) (p:i≠st) (b:Below w.heap.size w w'):QaC w6 HZ hk st R (ZF i S) v w':=by
 obtain⟨q,f,_,a⟩:=h.lt
 obtain⟨Z,e,l,m,o,n⟩:=h
 have a:Z<w.heap.size:=by rw[e] at f;cases f;exact a
 have k:ZF i S hk=S hk:=QjZ (fun e=>hi e.symm);have d:ZF i S st=S st:=QjZ (fun e=>p e.symm);refine⟨Z,e,l,fun c=>?_,fun c=>?_,fun c=>?_⟩
 ·exact(b.block Z a).trans (m (by rw[<-d];exact c))
 ·obtain⟨r,g,j⟩:=o (by rw[<-d];exact c)
  exact⟨r,g,(b.block Z a).trans j⟩
 ·exact P.belowZ (n (by rw[<-k];exact c)) a b
theorem QaC.did (h:QaC w6 HZ hk st R S v w) (m:hk≠st) (k:∀ Z,w6.heap.size<=Z->Z<w.heap.size->w'.heap[Z]?=w.heap[Z]?/\HZ Z w'):QaC w6 HZ hk st R (ZF hk S) v w':=by
 obtain⟨n,f,_,a⟩:=h.lt
 obtain⟨Z,e,b,j,l,o⟩:=h
 have a:Z<w.heap.size:=by rw[e] at f;cases f;exact a
 have d:ZF hk S st=S st:=QjZ (fun e=>m e.symm);refine⟨Z,e,b,fun c=>?_,fun c=>?_,fun _=>(k Z b a).2⟩
 ·exact(k Z b a).1.trans (j (by rw[<-d];exact c))
 ·obtain⟨r,g,i⟩:=l (by rw[<-d];exact c)
  exact⟨r,g,(k Z b a).1.trans i⟩
theorem QaC.new (P:HPs w6 HP HZ) (a:WY w6 HP hk S w) (b:S st=false) (hi:i≠hk) (c:i≠st):QaC w6 HZ hk st R (ZF i S) (Pv w.heap.size 0) (w.alloc (.cells zero4 211)):=by
 refine⟨_,Yz,a.low P,fun _=>Qe _ _ _,fun h=>?_,fun h=>?_⟩
 ·rw[QjZ (fun e=>c e.symm),b] at h;cases h
 ·rw[QjZ (fun e=>hi e.symm)] at h
  exact P.up _ (a.fin h)
theorem QaC.fill (P:HPs w6 HP HZ) (h:QaC w6 HZ hk st R S (Pv Z 0) w) (d:S st=false) (a:st≠hk) (r:Qk) (c:R r):QaC w6 HZ hk st R (ZF st S) (Pv Z 0) (QlB w Z r):=by
 obtain⟨i,e,b,f,j,g⟩:=h
 cases e
 refine⟨Z,Yz,b,fun h=>?_,fun _=>⟨r,c,Qac (f d) _ _ _ _⟩,fun h=>?_⟩
 ·rw[Qns] at h;cases h
 ·rw[QjZ (fun e=>a e.symm)] at h
  exact P.fill r (g h) b
theorem QaC.fillW (P:HPs w6 HP HZ) (h:QaC w6 HZ hk st R S (Pv Z 0) w) (b:S hk=true) (a:st≠hk) (r:Qk):WY w6 HP hk (ZF st S) (QlB w Z r):=by
 obtain⟨f,e,c,g,i,d⟩:=h
 cases e
 exact .inr ⟨by rw[QjZ (fun e=>a e.symm)];exact b,P.down (P.fill r (d b) c)⟩
theorem QaC.full (h:QaC w6 HZ hk st R S v w) (c:S st=true) (a:S hk=true):∃ Z,v=Pv Z 0/\w6.heap.size<=Z/\(∃ r:Qk,R r/\Blk w Z (Ql6 r) 211)/\HZ Z w:=by
 obtain⟨Z,e,b,g,f,d⟩:=h
 exact⟨Z,e,b,f c,d a⟩
theorem QfE (a:World):HPs a (fun w=>Below a.heap.size a w) (fun Z w=>Below a.heap.size a w/\a.heap.size<=Z) where
 down:=fun h=>h.1
 up:=fun o h=>⟨h.alloc h.size o,h.size⟩
 below:=fun h b=>h.trans (b.mono h.size)
 belowZ:=fun h _ b=>⟨h.1.trans (b.mono h.1.size),h.2⟩
 fill:=fun r h c=>⟨Qb8 h.1 c _ _ _ _,h.2⟩
 low:=fun h=>h.size
end
def QhM {α:Type}(F:FuncId) (args:Array Value) (w:World) (o:Option α) (V:α->Value):Prop:=∀ wx,Below w.heap.size w wx->Calls prog F args wx fun e w'=>Ask o V e/\Below wx.heap.size wx w'
def gdV (v:Qk):Prop:=v.ok/\v.bare=v
theorem Qbg {v:List Qk}{a:Int}{x:Qk}(h:QE v a=some x):x∈v:=by
 unfold QE at h;split at h
 ·cases h
 ·exact Zm h
theorem Z4 {v:List Qk}{a k:Int}{x:Qk}(h:Q4 v a k=some x):QE v a=some x/\x.kind=k:=by
 unfold Q4 at h
 cases e:QE v a with
 | none=>rw[e] at h;cases h
 | some y =>
   rw[e] at h
   simp only at h
   split at h
   ·cases h;exact⟨Z,by assumption⟩
   ·cases h
theorem Qao {v:List Qk}{a k:Int}(h:Q4 v a k=none):QE v a=none\/∃ x,QE v a=some x/\x.kind≠k:=by
 unfold Q4 at h
 cases e:QE v a with
 | none=>exact .inl Z
 | some y =>
   rw[e] at h
   simp only at h
   split at h
   ·cases h
   ·exact .inr ⟨y,Z,by assumption⟩
section
variable {M:IM}{x:Qx}
theorem QoF (h:x.op=6):M.mem x=match Q4 M.top.v x.a 3 with
 | none=>none
 | some y=>if (M.h.get y x.k).2=0 then some (M.push [(M.h.get y x.k).1]) else none:=by
 unfold IM.mem
 cases hk:Q4 M.top.v x.a 3 with
 | none =>
   rcases Qao hk with e | ⟨y,e,b⟩
   ·rw[e]
   ·rw[e];simp[h,b]
 | some y =>
   obtain⟨e,b⟩:=Z4 hk
   rw[e];simp[h,b]
theorem Qor (h:x.op=7):M.mem x=match Q4 M.top.v x.a 3 with
 | none=>none
 | some y=>match QE M.top.v x.b with
   | none=>none
   | some z=>if (M.h.set y x.k z).1=0 then some { M with h:=(M.h.set y x.k z).2 } else none:=by
 unfold IM.mem
 cases hk:Q4 M.top.v x.a 3 with
 | none =>
   rcases Qao hk with e | ⟨y,e,c⟩
   ·rw[e]
   ·rw[e];simp[h,c];cases QE M.top.v x.b<;>rfl
 | some y =>
   obtain⟨e,c⟩:=Z4 hk
   rw[e];simp[h,c];cases QE M.top.v x.b<;>rfl
theorem QoG (h:x.op=9):M.mem x=match Q4 M.top.v x.a 4 with
 | none=>none
 | some y=>match QB M.top.v x.b with
   | none=>none
   | some n=>if (M.h.get y n).2=1 then some (M.over 2) else if (M.h.get y n).2=0 then some (M.push [(M.h.get y n).1]) else none:=by
 unfold IM.mem
 cases hk:Q4 M.top.v x.a 4 with
 | none =>
   rcases Qao hk with e | ⟨y,e,c⟩
   ·rw[e]
   ·rw[e];simp[h,c];cases QB M.top.v x.b<;>rfl
 | some y =>
   obtain⟨e,c⟩:=Z4 hk
   rw[e];simp[h,c];cases QB M.top.v x.b<;>rfl
theorem QiY {h:Qc}{y z:Qk}{n:Int}(a:y.kind=4) (c:z.kind≠1):(h.set y n z).1=20:=by
 unfold Qc.set
 cases ht:h.thing y with
 | none=>rfl
 | some t =>
   cases hp:h.place y.region with
   | none=>rfl
   | some p =>
     simp only
     have:=(Qc.thing_iff.1 ht).2
     obtain⟨d,_,_,_,b⟩:=this
     rw[Xs ⟨by rw[b];simp[a],c⟩]
theorem Qm0 {z:Qk}(h:gdV z) (a:z.kind=1):z=Qaz z.n:=by
 have:=h.2
 unfold Qk.bare at this;rw[Xs a] at this
 exact this.symm
theorem Qny (h:x.op=10) (g:∀ v∈M.top.v,gdV v):M.mem x=match Q4 M.top.v x.a 4 with
 | none=>none
 | some y=>match QB M.top.v x.b with
   | none=>none
   | some n=>match QE M.top.v x.c with
     | none=>none
     | some z=>if (M.h.set y n z).1=1 then some (M.over 2) else if (M.h.set y n z).1=0 then some { M with h:=(M.h.set y n z).2 } else none:=by
 unfold IM.mem
 cases hk:Q4 M.top.v x.a 4 with
 | none =>
   rcases Qao hk with e | ⟨y,e,d⟩
   ·rw[e]
   ·rw[e];simp[h,d]
    cases QB M.top.v x.b with
    | none=>rfl
    | some n=>simp only;cases QB M.top.v x.c<;>rfl
 | some y =>
   obtain⟨e,d⟩:=Z4 hk
   rw[e];simp[h,d]
   cases QB M.top.v x.b with
   | none=>rfl
   | some n =>
     simp only
     have i:QB M.top.v x.c=match QE M.top.v x.c with | none=>none | some x=>if x.kind=1 then some x.n else none:=rfl
     rw[i]
     cases hz:QE M.top.v x.c with
     | none=>rfl
     | some z =>
       simp only
       by_cases f:z.kind=1
       ·rw[Xs f]
        simp only
        rw[<-Qm0 (g z (Qbg hz)) f]
       ·rw[Xr f,QiY d f]
        rfl
theorem QnO (h:x.op=11):M.mem x=match Q4 M.top.v x.a 4 with
 | none=>none
 | some y=>if (M.h.len y).2=0 then some (M.push [Qaz (M.h.len y).1]) else none:=by
 unfold IM.mem
 cases hk:Q4 M.top.v x.a 4 with
 | none =>
   rcases Qao hk with e | ⟨y,e,b⟩
   ·rw[e]
   ·rw[e];simp[h,b]
 | some y =>
   obtain⟨e,b⟩:=Z4 hk
   rw[e];simp[h,b]
end
abbrev Zc (x:Qx) (i:IP):Array Value:=#[Iv x.op,Iv x.a,Iv x.b,Iv x.c,Iv x.k,Iv x.n,.slice i.pR x.regs.length i.cR,.slice i.pA x.args.length i.cA]
theorem Ask.split {α:Type}{o:Option α}{V:α->Value}{e:Ending}(h:Ask o V e):(∃ x,o=some x/\e=.returned (V x))\/(o=none/\e=.panicked stuckP):=by
 cases o with
 | none=>exact .inr ⟨Z,h⟩
 | some x=>exact .inl ⟨x,Z,h⟩
def QjX (w6:World) (h:Qc) (b c X bh:Nat) (xa xb xc xk:Int) (oa ob oc:Option Qk) (on:Option Int) (S:Nat->Bool) (t:Tmp) (v:Value) (w:World):Prop :=
 match ([(26,fun _ v _=>(fun v=>∃ y,oa=some y/\v=QU y) v),(29,fun _ v _=>(fun v=>∃ y,oa=some y/\v=.tuple #[QU (h.get y xk).1,.int .i64 (h.get y xk).2]) v),(18,fun _ v _=>(fun v=>∃ y,oa=some y/\v=.tuple #[QU (h.get y xk).1,.int .i64 (h.get y xk).2]) v),(30,fun _ v _=>(fun v=>∃ y,oa=some y/\v=QU (h.get y xk).1) v),(31,fun _ v _=>(fun v=>∃ y,oa=some y/\v=.int .i64 (h.get y xk).2) v),(7,fun _ v _=>(fun v=>∃ y,oa=some y/\v=.int .i64 (h.get y xk).2) v),(6,QaC w6 (fun Z w=>Below w6.heap.size w6 w/\w6.heap.size<=Z) 10 15 (fun r=>∃ y,oa=some y/\r=(h.get y xk).1))]:List (Tmp × ((Nat->Bool)->Value->World->Prop))).lookup t with
 | some p=>p S v w
 | none=>v=(([(0,.pointer (some ⟨b,0,none⟩)),(1,.pointer (some ⟨c,0,none⟩)),(5,.pointer (some ⟨X,0,none⟩)),(19,.pointer (some ⟨b,0,none⟩)),(20,.pointer (some ⟨b,0,none⟩)),(21,.pointer (some ⟨b,0,none⟩)),(22,.pointer (some ⟨bh,0,none⟩)),(23,.pointer (some ⟨c,0,none⟩)),(24,.pointer (some ⟨X,1,none⟩)),(25,.int .i64 xa),(27,.pointer (some ⟨X,4,none⟩)),(28,.int .i64 xk)]:List (Tmp × Value)).lookup t).getD undef
theorem QgC {h:Qc}{oa ob oc:Option Qk}{on:Option Int}{S:Nat->Bool}{t:Tmp}(f:HPs w6 (fun w=>Below w6.heap.size w6 w) (fun Z w=>Below w6.heap.size w6 w/\w6.heap.size<=Z))(hi:i≠10) (e:i≠15) (d:Below w.heap.size w w') (a:QjX w6 h b c X bh xa xb xc xk oa ob oc on S t u w):QjX w6 h b c X bh xa xb xc xk oa ob oc on (ZF i S) t u w':=by
 unfold QjX at a |-;refine Qhs ?_ a;exact⟨fun _ h=>h,fun _ h=>h,fun _ h=>h,fun _ h=>h,fun _ h=>h,fun _ h=>h,fun _ a=>a.on f hi e d,Y⟩
theorem QnK {h:Qc}{oa ob oc:Option Qk}{on:Option Int}{S:Nat->Bool}{t:Tmp}(k:∀ Z,w6.heap.size<=Z->Z<w.heap.size->w'.heap[Z]?=w.heap[Z]?/\(fun Z w=>Below w6.heap.size w6 w/\w6.heap.size<=Z) Z w') (a:QjX w6 h b c X bh xa xb xc xk oa ob oc on S t u w):QjX w6 h b c X bh xa xb xc xk oa ob oc on (ZF 10 S) t u w':=by
 unfold QjX at a |-;refine Qhs ?_ a;exact⟨fun _ h=>h,fun _ h=>h,fun _ h=>h,fun _ h=>h,fun _ h=>h,fun _ h=>h,fun _ a=>(by simp only at a |-;exact a.did (by decide) k),Y⟩
theorem Qnk {h:Qc}{oa ob oc:Option Qk}{on:Option Int}{S:Nat->Bool}{t:Tmp}(f:HPs w6 (fun w=>Below w6.heap.size w6 w) (fun Z w=>Below w6.heap.size w6 w/\w6.heap.size<=Z)){Z:Nat}{r:Qk}(g:S 15=false) (j:S 10=true) (d:(fun r=>∃ y,oa=some y/\r=(h.get y xk).1) r) (i:t=6->u=Pv Z 0) (a:QjX w6 h b c X bh xa xb xc xk oa ob oc on S t u w):QjX w6 h b c X bh xa xb xc xk oa ob oc on (ZF 15 S) t u (QlB w Z r):=by
 unfold QjX at a |-;refine Qhs ?_ a;exact⟨fun _ h=>h,fun _ h=>h,fun _ h=>h,fun _ h=>h,fun _ h=>h,fun _ h=>h,fun e a=>(by obtain rfl:=i e;simp only at a |-;exact a.fill f g (by decide) r d),Y⟩
theorem iq3 {h:Qc}{oa ob oc:Option Qk}{on:Option Int}(q0:w6.cell? ⟨b,0,none⟩=some (Pv bh 0)) (x1:w6.cell? ⟨X,1,none⟩=some (Iv xa)) (x2:w6.cell? ⟨X,2,none⟩=some (Iv xb)) (x3:w6.cell? ⟨X,3,none⟩=some (Iv xc)) (W:w6.cell? ⟨X,4,none⟩=some (Iv xk)) (CK:Hid (QhM 190 #[Pv c 0,Iv xa,Iv 3] w6 oa QU)) (CG:Hid (∀ y k wx,oa=some y->Below w6.heap.size w6 wx->Calls prog 201 #[Pv bh 0,QU y,Iv k] wx fun e w'=>e=.returned (.tuple #[QU (h.get y k).1,Iv (h.get y k).2])/\Below wx.heap.size wx w')) (i:HPs w6 (fun w=>Below w6.heap.size w6 w) (fun Z w=>Below w6.heap.size w6 w/\w6.heap.size<=Z))
 (a:Act) (m:Nat) (hn:a.tmps.size=m) (J:124<=m) (h0:a.tmps.getD 0 undef=Pv b 0) (h1:a.tmps.getD 1 undef=Pv c 0) (h5:a.tmps.getD 5 undef=Pv X 0)
 (hX:∀ ch a' w',a'.defers=a.defers->(fun ch w=>ch=stuckP/\(oa=none)/\Below w6.heap.size w6 w) ch w'->Q (.panic ch) a' w')
 (hend:∀ vs w',(fun v=>∃ y,oa=some y/\v=Iv (h.get y xk).2) (vs 7)->(∃ Z,vs 6=Pv Z 0/\w6.heap.size<=Z/\(∃ r:Qk,(fun r=>∃ y,oa=some y/\r=(h.get y xk).1) r/\Blk w' Z (Ql6 r) 211)/\(fun Z w=>Below w6.heap.size w6 w/\w6.heap.size<=Z) Z w')->(fun w=>Below w6.heap.size w6 w) w'->Q .normal (QC a vs [19,20,21,22,23,24,25,26,27,28,29,18,30,31,6,7]) w') :
 Code.wp prog ((Tryz.f149.body.bind (Qf 3)).getD .skip) Q a w6:=by
 conv=>arg 2;whnf
 refine ZH (QjX w6 h b c X bh xa xb xc xk oa ob oc on) (WY w6 (fun w=>Below w6.heap.size w6 w) 10) (fun ch w=>ch=stuckP/\(oa=none)/\Below w6.heap.size w6 w) hX (outs:=[0,1,5]) (gs:=[]) (bs:=[true,true,true,true,true,true,true,true,true,true,true,true,true,true,true,true,true]) (by kernel_rfl) (n:=124) hn J (by kernel_rfl) ?hG (.inl ⟨Yz,Qh Zr 1⟩) ⟨h0,h1,h5,Y⟩ ?hA ?hend
 case hG=>exact fun S=>trivial
 case hend=>exact fun vs S w' s j o=>hend vs w' (o 7 (by kernel_rfl)) (QaC.full (show QaC w6 (fun Z w=>Below w6.heap.size w6 w/\w6.heap.size<=Z) 10 15 (fun r=>∃ y,oa=some y/\r=(h.get y xk).1) S (vs 6) w' from o 6 (by kernel_rfl)) (s 15 (by decide)) (s 10 (by decide))) (j.fin (s 10 (by decide)))
 case hA =>
  repeat
   refine⟨fun S a w E U I j o K B=>?_,?_⟩
   focus first
    | obtain⟨d,-⟩:=o
      have u:S 10=false:=QdO I (q:=10) Yz (by kernel_rfl) E;conv at d=>whnf;rhs;whnf
      have O:=j.pre u;go_simp;exact B _ _ (fun t _ g=>QgC i (by decide) (by decide) Zr g) (j.on i (by decide) Zr) Yz
    | obtain⟨d,-⟩:=o
      have u:S 10=false:=QdO I (q:=10) Yz (by kernel_rfl) E;have l:=j.pre u;conv at d=>whnf;rhs;whnf
      have O:=Qn q0 l;have V:=Qn x1 l;have c2:=Qn W l;go_simp;exact B _ _ (fun t _ g=>QgC i (by decide) (by decide) Zr g) (j.on i (by decide) Zr) Yz
    | obtain⟨d,-⟩:=o
      have d:(fun v=>∃ y,oa=some y/\v=.tuple #[QU (h.get y xk).1,Iv (h.get y xk).2]) (a.tmps.getD 18 undef):=d;generalize z:a.tmps.getD 18 undef=C at d;obtain⟨y,x,rfl⟩:=d
      go_simp;exact B _ _ (fun t _ g=>QgC i (by decide) (by decide) Zr g) (j.on i (by decide) Zr) ⟨y,x,Yz⟩
    | clear o
      have A:S 15=false:=QdO I (q:=15) Yz (by kernel_rfl) E;go_simp;exact B _ _ (fun t _ g=>QgC i (by decide) (by decide) (Zb _ _) g) (j.on i (by decide) (Zb _ _)) (QaC.new i j A (by decide) (by decide))
    | obtain⟨d,-⟩:=o
      have d:(fun v=>∃ y,oa=some y/\v=.tuple #[QU (h.get y xk).1,Iv (h.get y xk).2]) (a.tmps.getD 29 undef):=d;generalize z:a.tmps.getD 29 undef=C at d;obtain⟨y,x,rfl⟩:=d
      go_simp;exact B _ _ (fun t _ g=>QgC i (by decide) (by decide) Zr g) (j.on i (by decide) Zr) ⟨y,x,Yz⟩
    | obtain⟨d,-⟩:=o
      have d:(fun v=>∃ y,oa=some y/\v=Iv (h.get y xk).2) (a.tmps.getD 31 undef):=d;generalize z:a.tmps.getD 31 undef=C at d;obtain⟨y,x,rfl⟩:=d
      go_simp;exact B _ _ (fun t _ g=>QgC i (by decide) (by decide) Zr g) (j.on i (by decide) Zr) ⟨y,x,Yz⟩
    | obtain⟨d,p,T,-⟩:=o
      have l:=j.pre E;conv at d=>whnf;rhs;whnf
      have p:(fun v=>∃ y,oa=some y/\v=QU y) (a.tmps.getD 26 undef):=p;generalize F:a.tmps.getD 26 undef=M at p;conv at T=>whnf;rhs;whnf
      obtain⟨y,x,rfl⟩:=p
      go_simp;refine Xm (CG.out y xk w x l) ?_;rintro r7 w7 ⟨rfl,D⟩;go_simp;exact B _ _ (fun t _ g=>QnK (fun Z hz hl=>⟨D.block Z hl,l.trans (D.mono l.size),hz⟩) g) (WY.did (l.trans (D.mono l.size))) ⟨y,x,Yz⟩
    | obtain⟨d,p,-⟩:=o
      have u:S 10=false:=QdO I (q:=10) Yz (by kernel_rfl) E;have l:=j.pre u;conv at d=>whnf;rhs;whnf
      conv at p=>whnf;rhs;whnf
      go_simp;refine Xm (CK.out w l) ?_;rintro r7 w7 ⟨h7,D⟩;rcases h7.split with ⟨R,N,rfl⟩|⟨N,rfl⟩
      rotate_left
      ·exact⟨_,Yz,Yz,N,l.trans (D.mono l.size)⟩
      go_simp;exact B _ _ (fun t _ g=>QgC i (by decide) (by decide) D g) (j.on i (by decide) D) ⟨R,N,Yz⟩
    | obtain⟨d,p,-⟩:=o
      have d:QaC w6 (fun Z w=>Below w6.heap.size w6 w/\w6.heap.size<=Z) 10 15 (fun r=>∃ y,oa=some y/\r=(h.get y xk).1) S (a.tmps.getD 6 undef) w:=d;generalize z:a.tmps.getD 6 undef=C at d;have p:(fun v=>∃ y,oa=some y/\v=QU (h.get y xk).1) (a.tmps.getD 30 undef):=p;generalize F:a.tmps.getD 30 undef=M at p;have A:S 15=false:=E;have H:S 10=true:=Qkt I U (by kernel_rfl);have kb:=d;obtain⟨Z,rfl,hZ,L,-,-⟩:=d
      have f:=L A;obtain⟨y,x,rfl⟩:=p
      have P:∃ y0,oa=some y0/\(h.get y xk).1=(h.get y0 xk).1:=⟨y,x,Yz⟩;obtain⟨r,G⟩:∃ r,(h.get y xk).1=r:=⟨_,Yz⟩
      rw[G] at F P
      clear G;have O:=Qa f 0 _ Yz;have V:=Qa f 1 _ Yz;have c2:=Qa f 2 _ Yz;have c3:=Qa f 3 _ Yz;have c4:=Qd f 0;have c5:=Qd f 1;have c6:=Qd f 2;have c7:=Qd f 3;go_simp;exact B undef _ (fun t _ g=>Qnk i A H P (fun e=>by subst e;exact z) g) (QaC.fillW i kb H (by decide) r) Y
  trivial
def QnY (b c X bh:Nat) (xa xb xc xk:Int) (oa ob oc:Option Qk) (on:Option Int) (t:Tmp) (v:Value) (w:World):Prop :=
 match ([(48,fun v w=>∃ y,oa=some y/\v=QU y),(54,fun v w=>∃ y,ob=some y/\v=QU y)]:List (Tmp × (Value->World->Prop))).lookup t with
 | some p=>p v w
 | none=>v=(([(0,.pointer (some ⟨b,0,none⟩)),(1,.pointer (some ⟨c,0,none⟩)),(5,.pointer (some ⟨X,0,none⟩)),(41,.pointer (some ⟨b,0,none⟩)),(42,.pointer (some ⟨b,0,none⟩)),(43,.pointer (some ⟨b,0,none⟩)),(44,.pointer (some ⟨bh,0,none⟩)),(45,.pointer (some ⟨c,0,none⟩)),(46,.pointer (some ⟨X,1,none⟩)),(47,.int .i64 xa),(49,.pointer (some ⟨X,4,none⟩)),(50,.int .i64 xk),(51,.pointer (some ⟨c,0,none⟩)),(52,.pointer (some ⟨X,2,none⟩)),(53,.int .i64 xb)]:List (Tmp × Value)).lookup t).getD undef
theorem iq7 {oa ob oc:Option Qk}{on:Option Int}(E:w6.cell? ⟨b,0,none⟩=some (Pv bh 0)) (A:w6.cell? ⟨X,1,none⟩=some (Iv xa)) (C:w6.cell? ⟨X,2,none⟩=some (Iv xb)) (M:w6.cell? ⟨X,3,none⟩=some (Iv xc)) (s:w6.cell? ⟨X,4,none⟩=some (Iv xk)) (x:Hid (QhM 190 #[Pv c 0,Iv xa,Iv 3] w6 oa QU)) (F:Hid (QhM 140 #[Pv c 0,Iv xb] w6 ob QU))
 (a:Act) (m:Nat) (hn:a.tmps.size=m) (k:124<=m) (z:a.tmps.getD 0 undef=Pv b 0) (B:a.tmps.getD 1 undef=Pv c 0) (G:a.tmps.getD 5 undef=Pv X 0)
 (D:∀ ch a' w',a'.defers=a.defers->(fun ch w=>ch=stuckP/\(oa=none\/ob=none)/\Below w6.heap.size w6 w) ch w'->Q (.panic ch) a' w')
 (hend:∀ ops vs w',vs 44=Pv bh 0->(fun v w=>∃ y,oa=some y/\v=QU y) (vs 48) w'->vs 50=Iv xk->(fun v w=>∃ y,ob=some y/\v=QU y) (vs 54) w'->Below w6.heap.size w6 w'->wpList prog ops Q (QaI 14 ((Tryz.f149.body.bind (Qf 7)).getD .skip)) (QC a vs [41,42,43,44,45,46,47,48,49,50,51,52,53,54]) w') :
 Code.wp prog ((Tryz.f149.body.bind (Qf 7)).getD .skip) Q a w6:=by
 conv=>arg 2;whnf
 refine Zf 14 (QnY b c X bh xa xb xc xk oa ob oc on) (fun w=>Below w6.heap.size w6 w) (fun w w'=>Below w.heap.size w w') (fun ch w=>ch=stuckP/\(oa=none\/ob=none)/\Below w6.heap.size w6 w) D (outs:=[0,1,5]) (gs:=[]) (bs:=[true,true,true,true,true,true,true,true,true,true,true,true,true,true]) (by kernel_rfl) (n:=124) hn k (by kernel_rfl) (by kernel_rfl) ?hR ?hG (Qh Zr 1) ⟨z,B,G,Y⟩ ?hA ?hend
 case hR =>
  intro t v w w' N h;unfold QnY at h |-;split at h
  ·rename_i p i
   simp only[List.lookup_cons,List.lookup_nil] at i
   split at i
   ·cases i;exact h
   ·split at i
    ·cases i;exact h
    ·cases i
  ·exact h
 case hG=>exact Y
 case hend=>exact fun ops vs w' d e=>hend ops vs w' (e 44 (by kernel_rfl)) (e 48 (by kernel_rfl)) (e 50 (by kernel_rfl)) (e 54 (by kernel_rfl)) d
 case hA =>
  repeat
   refine⟨fun a w d e K q=>?_,?_⟩
   focus first
    | obtain⟨j,-⟩:=e
      conv at j=>whnf;rhs;whnf
      have L:=Qn E d;have I:=Qn A d;have O:=Qn s d;have J:=Qn C d;go_simp;exact q _ _ Zr d Z
    | obtain⟨j,o,-⟩:=e
      conv at j=>whnf;rhs;whnf
      conv at o=>whnf;rhs;whnf
      go_simp;refine Xm (x.out w d) ?_;rintro u H ⟨r,g⟩;rcases r.split with ⟨l,f,rfl⟩|⟨f,rfl⟩
      rotate_left
      ·exact⟨_,Z,Z,.inl f,d.trans (g.mono d.size)⟩
      go_simp;exact q _ _ g (d.trans (g.mono d.size)) ⟨l,f,Z⟩
    | obtain⟨j,o,-⟩:=e
      conv at j=>whnf;rhs;whnf
      conv at o=>whnf;rhs;whnf
      go_simp;refine Xm (F.out w d) ?_;rintro u H ⟨r,g⟩;rcases r.split with ⟨l,f,rfl⟩|⟨f,rfl⟩
      rotate_left
      ·exact⟨_,Z,Z,.inr f,d.trans (g.mono d.size)⟩
      go_simp;exact q _ _ g (d.trans (g.mono d.size)) ⟨l,f,Z⟩
  trivial
def QdZ (w6:World) (h:Qc) (b c X bh:Nat) (xa xb xc xk:Int) (oa ob oc:Option Qk) (on:Option Int) (S:Nat->Bool) (t:Tmp) (v:Value) (w:World):Prop :=
 match ([(69,fun _ v _=>(fun v=>∃ y,oa=some y/\v=QU y) v),(73,fun _ v _=>(fun v=>∃ y,on=some y/\v=.int .i64 y) v),(74,fun _ v _=>(fun v=>∃ y q,oa=some y/\on=some q/\v=.tuple #[QU (h.get y q).1,.int .i64 (h.get y q).2]) v),(61,fun _ v _=>(fun v=>∃ y q,oa=some y/\on=some q/\v=.tuple #[QU (h.get y q).1,.int .i64 (h.get y q).2]) v),(75,fun _ v _=>(fun v=>∃ y q,oa=some y/\on=some q/\v=QU (h.get y q).1) v),(76,fun _ v _=>(fun v=>∃ y q,oa=some y/\on=some q/\v=.int .i64 (h.get y q).2) v),(10,fun _ v _=>(fun v=>∃ y q,oa=some y/\on=some q/\v=.int .i64 (h.get y q).2) v),(9,QaC w6 (fun Z w=>Below w6.heap.size w6 w/\w6.heap.size<=Z) 12 17 (fun r=>∃ y q,oa=some y/\on=some q/\r=(h.get y q).1))]:List (Tmp × ((Nat->Bool)->Value->World->Prop))).lookup t with
 | some p=>p S v w
 | none=>v=(([(0,.pointer (some ⟨b,0,none⟩)),(1,.pointer (some ⟨c,0,none⟩)),(5,.pointer (some ⟨X,0,none⟩)),(62,.pointer (some ⟨b,0,none⟩)),(63,.pointer (some ⟨b,0,none⟩)),(64,.pointer (some ⟨b,0,none⟩)),(65,.pointer (some ⟨bh,0,none⟩)),(66,.pointer (some ⟨c,0,none⟩)),(67,.pointer (some ⟨X,1,none⟩)),(68,.int .i64 xa),(70,.pointer (some ⟨c,0,none⟩)),(71,.pointer (some ⟨X,2,none⟩)),(72,.int .i64 xb)]:List (Tmp × Value)).lookup t).getD undef
theorem Qcy {h:Qc}{oa ob oc:Option Qk}{on:Option Int}{S:Nat->Bool}{t:Tmp}(f:HPs w6 (fun w=>Below w6.heap.size w6 w) (fun Z w=>Below w6.heap.size w6 w/\w6.heap.size<=Z))(hi:i≠12) (e:i≠17) (d:Below w.heap.size w w') (a:QdZ w6 h b c X bh xa xb xc xk oa ob oc on S t u w):QdZ w6 h b c X bh xa xb xc xk oa ob oc on (ZF i S) t u w':=by
 unfold QdZ at a |-;refine Qhs ?_ a;exact⟨fun _ h=>h,fun _ h=>h,fun _ h=>h,fun _ h=>h,fun _ h=>h,fun _ h=>h,fun _ h=>h,fun _ a=>a.on f hi e d,Y⟩
theorem QmH {h:Qc}{oa ob oc:Option Qk}{on:Option Int}{S:Nat->Bool}{t:Tmp}(k:∀ Z,w6.heap.size<=Z->Z<w.heap.size->w'.heap[Z]?=w.heap[Z]?/\(fun Z w=>Below w6.heap.size w6 w/\w6.heap.size<=Z) Z w') (a:QdZ w6 h b c X bh xa xb xc xk oa ob oc on S t u w):QdZ w6 h b c X bh xa xb xc xk oa ob oc on (ZF 12 S) t u w':=by
 unfold QdZ at a |-;refine Qhs ?_ a;exact⟨fun _ h=>h,fun _ h=>h,fun _ h=>h,fun _ h=>h,fun _ h=>h,fun _ h=>h,fun _ h=>h,fun _ a=>(by simp only at a |-;exact a.did (by decide) k),Y⟩
theorem Qmr {h:Qc}{oa ob oc:Option Qk}{on:Option Int}{S:Nat->Bool}{t:Tmp}(f:HPs w6 (fun w=>Below w6.heap.size w6 w) (fun Z w=>Below w6.heap.size w6 w/\w6.heap.size<=Z)){Z:Nat}{r:Qk}(g:S 17=false) (j:S 12=true) (d:(fun r=>∃ y q,oa=some y/\on=some q/\r=(h.get y q).1) r) (i:t=9->u=Pv Z 0) (a:QdZ w6 h b c X bh xa xb xc xk oa ob oc on S t u w):QdZ w6 h b c X bh xa xb xc xk oa ob oc on (ZF 17 S) t u (QlB w Z r):=by
 unfold QdZ at a |-;refine Qhs ?_ a;exact⟨fun _ h=>h,fun _ h=>h,fun _ h=>h,fun _ h=>h,fun _ h=>h,fun _ h=>h,fun _ h=>h,fun e a=>(by obtain rfl:=i e;simp only at a |-;exact a.fill f g (by decide) r d),Y⟩
theorem QoM {h:Qc}{oa ob oc:Option Qk}{on:Option Int}(N:w6.cell? ⟨b,0,none⟩=some (Pv bh 0)) (x1:w6.cell? ⟨X,1,none⟩=some (Iv xa)) (x2:w6.cell? ⟨X,2,none⟩=some (Iv xb)) (x3:w6.cell? ⟨X,3,none⟩=some (Iv xc)) (x4:w6.cell? ⟨X,4,none⟩=some (Iv xk)) (CK:Hid (QhM 190 #[Pv c 0,Iv xa,Iv 4] w6 oa QU)) (CN:Hid (QhM 133 #[Pv c 0,Iv xb] w6 on (.int .i64))) (CG:Hid (∀ y k wx,oa=some y->Below w6.heap.size w6 wx->Calls prog 201 #[Pv bh 0,QU y,Iv k] wx fun e w'=>e=.returned (.tuple #[QU (h.get y k).1,Iv (h.get y k).2])/\Below wx.heap.size wx w')) (i:HPs w6 (fun w=>Below w6.heap.size w6 w) (fun Z w=>Below w6.heap.size w6 w/\w6.heap.size<=Z))
 (a:Act) (m:Nat) (hn:a.tmps.size=m) (O:124<=m) (h0:a.tmps.getD 0 undef=Pv b 0) (h1:a.tmps.getD 1 undef=Pv c 0) (h5:a.tmps.getD 5 undef=Pv X 0)
 (hX:∀ ch a' w',a'.defers=a.defers->(fun ch w=>ch=stuckP/\(oa=none\/on=none)/\Below w6.heap.size w6 w) ch w'->Q (.panic ch) a' w')
 (hend:∀ vs w',(fun v=>∃ y q,oa=some y/\on=some q/\v=Iv (h.get y q).2) (vs 10)->(∃ Z,vs 9=Pv Z 0/\w6.heap.size<=Z/\(∃ r:Qk,(fun r=>∃ y q,oa=some y/\on=some q/\r=(h.get y q).1) r/\Blk w' Z (Ql6 r) 211)/\(fun Z w=>Below w6.heap.size w6 w/\w6.heap.size<=Z) Z w')->(fun w=>Below w6.heap.size w6 w) w'->Q .normal (QC a vs [62,63,64,65,66,67,68,69,70,71,72,73,74,61,75,76,9,10]) w') :
 Code.wp prog ((Tryz.f149.body.bind (Qf 10)).getD .skip) Q a w6:=by
 conv=>arg 2;whnf
 refine ZH (QdZ w6 h b c X bh xa xb xc xk oa ob oc on) (WY w6 (fun w=>Below w6.heap.size w6 w) 12) (fun ch w=>ch=stuckP/\(oa=none\/on=none)/\Below w6.heap.size w6 w) hX (outs:=[0,1,5]) (gs:=[]) (bs:=[true,true,true,true,true,true,true,true,true,true,true,true,true,true,true,true,true,true,true]) (by kernel_rfl) (n:=124) hn O (by kernel_rfl) ?hG (.inl ⟨Yz,Qh Zr 1⟩) ⟨h0,h1,h5,Y⟩ ?hA ?hend
 case hG=>exact fun S=>trivial
 case hend=>exact fun vs S w' x l p=>hend vs w' (p 10 (by kernel_rfl)) (QaC.full (show QaC w6 (fun Z w=>Below w6.heap.size w6 w/\w6.heap.size<=Z) 12 17 (fun r=>∃ y q,oa=some y/\on=some q/\r=(h.get y q).1) S (vs 9) w' from p 9 (by kernel_rfl)) (x 17 (by decide)) (x 12 (by decide))) (l.fin (x 12 (by decide)))
 case hA =>
  repeat
   refine⟨fun S a w G hD H l p K A=>?_,?_⟩
   focus first
    | obtain⟨d,-⟩:=p
      have o:S 12=false:=QdO H (q:=12) Yz (by kernel_rfl) G;conv at d=>whnf;rhs;whnf
      have W:=l.pre o;go_simp;exact A _ _ (fun t _ g=>Qcy i (by decide) (by decide) Zr g) (l.on i (by decide) Zr) Yz
    | obtain⟨d,-⟩:=p
      have o:S 12=false:=QdO H (q:=12) Yz (by kernel_rfl) G;have j:=l.pre o;conv at d=>whnf;rhs;whnf
      have W:=Qn N j;have c1:=Qn x1 j;have c2:=Qn x2 j;go_simp;exact A _ _ (fun t _ g=>Qcy i (by decide) (by decide) Zr g) (l.on i (by decide) Zr) Yz
    | obtain⟨d,-⟩:=p
      have d:(fun v=>∃ y q,oa=some y/\on=some q/\v=.tuple #[QU (h.get y q).1,Iv (h.get y q).2]) (a.tmps.getD 61 undef):=d;generalize C:a.tmps.getD 61 undef=E at d;obtain⟨y,q,z,B,rfl⟩:=d
      go_simp;exact A _ _ (fun t _ g=>Qcy i (by decide) (by decide) Zr g) (l.on i (by decide) Zr) ⟨y,q,z,B,Yz⟩
    | clear p
      have D:S 17=false:=QdO H (q:=17) Yz (by kernel_rfl) G;go_simp;exact A _ _ (fun t _ g=>Qcy i (by decide) (by decide) (Zb _ _) g) (l.on i (by decide) (Zb _ _)) (QaC.new i l D (by decide) (by decide))
    | obtain⟨d,-⟩:=p
      have d:(fun v=>∃ y q,oa=some y/\on=some q/\v=.tuple #[QU (h.get y q).1,Iv (h.get y q).2]) (a.tmps.getD 74 undef):=d;generalize C:a.tmps.getD 74 undef=E at d;obtain⟨y,q,z,B,rfl⟩:=d
      go_simp;exact A _ _ (fun t _ g=>Qcy i (by decide) (by decide) Zr g) (l.on i (by decide) Zr) ⟨y,q,z,B,Yz⟩
    | obtain⟨d,-⟩:=p
      have d:(fun v=>∃ y q,oa=some y/\on=some q/\v=Iv (h.get y q).2) (a.tmps.getD 76 undef):=d;generalize C:a.tmps.getD 76 undef=E at d;obtain⟨y,q,z,B,rfl⟩:=d
      go_simp;exact A _ _ (fun t _ g=>Qcy i (by decide) (by decide) Zr g) (l.on i (by decide) Zr) ⟨y,q,z,B,Yz⟩
    | obtain⟨d,s,-⟩:=p
      have o:S 12=false:=QdO H (q:=12) Yz (by kernel_rfl) G;have j:=l.pre o;conv at d=>whnf;rhs;whnf
      conv at s=>whnf;rhs;whnf
      go_simp;refine Xm (CK.out w j) ?_;rintro V w7 ⟨U,u⟩;rcases U.split with ⟨R,F,rfl⟩|⟨F,rfl⟩
      rotate_left
      ·exact⟨_,Yz,Yz,.inl F,j.trans (u.mono j.size)⟩
      go_simp;exact A _ _ (fun t _ g=>Qcy i (by decide) (by decide) u g) (l.on i (by decide) u) ⟨R,F,Yz⟩
    | obtain⟨d,s,-⟩:=p
      have o:S 12=false:=QdO H (q:=12) Yz (by kernel_rfl) G;have j:=l.pre o;conv at d=>whnf;rhs;whnf
      conv at s=>whnf;rhs;whnf
      go_simp;refine Xm (CN.out w j) ?_;rintro V w7 ⟨U,u⟩;rcases U.split with ⟨R,F,rfl⟩|⟨F,rfl⟩
      rotate_left
      ·exact⟨_,Yz,Yz,.inr F,j.trans (u.mono j.size)⟩
      go_simp;exact A _ _ (fun t _ g=>Qcy i (by decide) (by decide) u g) (l.on i (by decide) u) ⟨R,F,Yz⟩
    | obtain⟨d,s,M,-⟩:=p
      have j:=l.pre G;conv at d=>whnf;rhs;whnf
      have s:(fun v=>∃ y,oa=some y/\v=QU y) (a.tmps.getD 69 undef):=s;generalize I:a.tmps.getD 69 undef=T at s;have M:(fun v=>∃ y,on=some y/\v=Iv y) (a.tmps.getD 73 undef):=M;generalize ab:a.tmps.getD 73 undef=aa at M;obtain⟨y,z,rfl⟩:=s
      obtain⟨q,B,rfl⟩:=M
      go_simp;refine Xm (CG.out y q w z j) ?_;rintro V w7 ⟨rfl,u⟩;go_simp;exact A _ _ (fun t _ g=>QmH (fun Z hz hl=>⟨u.block Z hl,j.trans (u.mono j.size),hz⟩) g) (WY.did (j.trans (u.mono j.size))) ⟨y,q,z,B,Yz⟩
    | obtain⟨d,s,-⟩:=p
      have d:QaC w6 (fun Z w=>Below w6.heap.size w6 w/\w6.heap.size<=Z) 12 17 (fun r=>∃ y q,oa=some y/\on=some q/\r=(h.get y q).1) S (a.tmps.getD 9 undef) w:=d;generalize C:a.tmps.getD 9 undef=E at d;have s:(fun v=>∃ y q,oa=some y/\on=some q/\v=QU (h.get y q).1) (a.tmps.getD 75 undef):=s;generalize I:a.tmps.getD 75 undef=T at s;have D:S 17=false:=G;have L:S 12=true:=Qkt H hD (by kernel_rfl);have kb:=d;obtain⟨Z,rfl,hZ,P,-,-⟩:=d
      have f:=P D;obtain⟨y,q,z,B,rfl⟩:=s
      have hr:∃ y0 N,oa=some y0/\on=some N/\(h.get y q).1=(h.get y0 N).1:=⟨y,q,z,B,Yz⟩;obtain⟨r,J⟩:∃ r,(h.get y q).1=r:=⟨_,Yz⟩
      rw[J] at I hr
      clear J;have W:=Qa f 0 _ Yz;have c1:=Qa f 1 _ Yz;have c2:=Qa f 2 _ Yz;have c3:=Qa f 3 _ Yz;have c4:=Qd f 0;have c5:=Qd f 1;have c6:=Qd f 2;have c7:=Qd f 3;go_simp;exact A undef _ (fun t _ g=>Qmr i D L hr (fun e=>by subst e;exact C) g) (QaC.fillW i kb L (by decide) r) Y
  trivial
def QmF (b c X bh:Nat) (xa xb xc xk:Int) (oa ob oc:Option Qk) (on:Option Int) (t:Tmp) (v:Value) (w:World):Prop :=
 match ([(92,fun v w=>∃ y,oa=some y/\v=QU y),(96,fun v w=>∃ y,on=some y/\v=.int .i64 y),(100,fun v w=>∃ y,oc=some y/\v=QU y)]:List (Tmp × (Value->World->Prop))).lookup t with
 | some p=>p v w
 | none=>v=(([(0,.pointer (some ⟨b,0,none⟩)),(1,.pointer (some ⟨c,0,none⟩)),(5,.pointer (some ⟨X,0,none⟩)),(85,.pointer (some ⟨b,0,none⟩)),(86,.pointer (some ⟨b,0,none⟩)),(87,.pointer (some ⟨b,0,none⟩)),(88,.pointer (some ⟨bh,0,none⟩)),(89,.pointer (some ⟨c,0,none⟩)),(90,.pointer (some ⟨X,1,none⟩)),(91,.int .i64 xa),(93,.pointer (some ⟨c,0,none⟩)),(94,.pointer (some ⟨X,2,none⟩)),(95,.int .i64 xb),(97,.pointer (some ⟨c,0,none⟩)),(98,.pointer (some ⟨X,3,none⟩)),(99,.int .i64 xc)]:List (Tmp × Value)).lookup t).getD undef
theorem Qoz {oa ob oc:Option Qk}{on:Option Int}(G:w6.cell? ⟨b,0,none⟩=some (Pv bh 0)) (C:w6.cell? ⟨X,1,none⟩=some (Iv xa)) (E:w6.cell? ⟨X,2,none⟩=some (Iv xb)) (H:w6.cell? ⟨X,3,none⟩=some (Iv xc)) (L:w6.cell? ⟨X,4,none⟩=some (Iv xk)) (A:Hid (QhM 190 #[Pv c 0,Iv xa,Iv 4] w6 oa QU)) (x:Hid (QhM 133 #[Pv c 0,Iv xb] w6 on (.int .i64))) (z:Hid (QhM 140 #[Pv c 0,Iv xc] w6 oc QU))
 (a:Act) (m:Nat) (hn:a.tmps.size=m) (r:124<=m) (B:a.tmps.getD 0 undef=Pv b 0) (D:a.tmps.getD 1 undef=Pv c 0) (I:a.tmps.getD 5 undef=Pv X 0)
 (F:∀ ch a' w',a'.defers=a.defers->(fun ch w=>ch=stuckP/\(oa=none\/on=none\/oc=none)/\Below w6.heap.size w6 w) ch w'->Q (.panic ch) a' w')
 (hend:∀ ops vs w',vs 88=Pv bh 0->(fun v w=>∃ y,oa=some y/\v=QU y) (vs 92) w'->(fun v w=>∃ y,on=some y/\v=Iv y) (vs 96) w'->(fun v w=>∃ y,oc=some y/\v=QU y) (vs 100) w'->Below w6.heap.size w6 w'->wpList prog ops Q (QaI 16 ((Tryz.f149.body.bind (Qf 14)).getD .skip)) (QC a vs [85,86,87,88,89,90,91,92,93,94,95,96,97,98,99,100]) w') :
 Code.wp prog ((Tryz.f149.body.bind (Qf 14)).getD .skip) Q a w6:=by
 conv=>arg 2;whnf
 refine Zf 16 (QmF b c X bh xa xb xc xk oa ob oc on) (fun w=>Below w6.heap.size w6 w) (fun w w'=>Below w.heap.size w w') (fun ch w=>ch=stuckP/\(oa=none\/on=none\/oc=none)/\Below w6.heap.size w6 w) F (outs:=[0,1,5]) (gs:=[]) (bs:=[true,true,true,true,true,true,true,true,true,true,true,true,true,true,true,true]) (by kernel_rfl) (n:=124) hn r (by kernel_rfl) (by kernel_rfl) ?hR ?hG (Qh Zr 1) ⟨B,D,I,Y⟩ ?hA ?hend
 case hR =>
  intro t v w w' O h;unfold QmF at h |-;split at h
  ·rename_i p i
   simp only[List.lookup_cons,List.lookup_nil] at i
   split at i
   ·cases i;exact h
   ·split at i
    ·cases i;exact h
    ·split at i
     ·cases i;exact h
     ·cases i
  ·exact h
 case hG=>exact Y
 case hend=>exact fun ops vs w' d g=>hend ops vs w' (g 88 (by kernel_rfl)) (g 92 (by kernel_rfl)) (g 96 (by kernel_rfl)) (g 100 (by kernel_rfl)) d
 case hA =>
  repeat
   refine⟨fun a w d g K q=>?_,?_⟩
   focus first
    | obtain⟨j,-⟩:=g
      conv at j=>whnf;rhs;whnf
      have N:=Qn G d;have J:=Qn C d;have P:=Qn E d;have M:=Qn H d;go_simp;exact q _ _ Zr d Z
    | obtain⟨j,l,-⟩:=g
      conv at j=>whnf;rhs;whnf
      conv at l=>whnf;rhs;whnf
      go_simp;refine Xm (A.out w d) ?_;rintro s u ⟨o,f⟩;rcases o.split with ⟨k,e,rfl⟩|⟨e,rfl⟩
      rotate_left
      ·exact⟨_,Z,Z,.inl e,d.trans (f.mono d.size)⟩
      go_simp;exact q _ _ f (d.trans (f.mono d.size)) ⟨k,e,Z⟩
    | obtain⟨j,l,-⟩:=g
      conv at j=>whnf;rhs;whnf
      conv at l=>whnf;rhs;whnf
      go_simp;refine Xm (x.out w d) ?_;rintro s u ⟨o,f⟩;rcases o.split with ⟨k,e,rfl⟩|⟨e,rfl⟩
      rotate_left
      ·exact⟨_,Z,Z,.inr (.inl e),d.trans (f.mono d.size)⟩
      go_simp;exact q _ _ f (d.trans (f.mono d.size)) ⟨k,e,Z⟩
    | obtain⟨j,l,-⟩:=g
      conv at j=>whnf;rhs;whnf
      conv at l=>whnf;rhs;whnf
      go_simp;refine Xm (z.out w d) ?_;rintro s u ⟨o,f⟩;rcases o.split with ⟨k,e,rfl⟩|⟨e,rfl⟩
      rotate_left
      ·exact⟨_,Z,Z,.inr (.inr e),d.trans (f.mono d.size)⟩
      go_simp;exact q _ _ f (d.trans (f.mono d.size)) ⟨k,e,Z⟩
  trivial
def Qmc (w6:World) (h:Qc) (b c X bh:Nat) (xa xb xc xk:Int) (oa ob oc:Option Qk) (on:Option Int) (t:Tmp) (v:Value) (w:World):Prop :=
 match ([(114,fun v w=>∃ y,oa=some y/\v=QU y),(115,fun v w=>∃ y,oa=some y/\v=.tuple #[.int .i64 (h.len y).1,.int .i64 (h.len y).2]),(106,fun v w=>∃ y,oa=some y/\v=.tuple #[.int .i64 (h.len y).1,.int .i64 (h.len y).2]),(116,fun v w=>∃ y,oa=some y/\v=.int .i64 (h.len y).1),(117,fun v w=>∃ y,oa=some y/\v=.int .i64 (h.len y).2),(12,fun v w=>∃ y,oa=some y/\v=.int .i64 (h.len y).1),(13,fun v w=>∃ y,oa=some y/\v=.int .i64 (h.len y).2)]:List (Tmp × (Value->World->Prop))).lookup t with
 | some p=>p v w
 | none=>v=(([(0,.pointer (some ⟨b,0,none⟩)),(1,.pointer (some ⟨c,0,none⟩)),(5,.pointer (some ⟨X,0,none⟩)),(107,.pointer (some ⟨b,0,none⟩)),(108,.pointer (some ⟨b,0,none⟩)),(109,.pointer (some ⟨b,0,none⟩)),(110,.pointer (some ⟨bh,0,none⟩)),(111,.pointer (some ⟨c,0,none⟩)),(112,.pointer (some ⟨X,1,none⟩)),(113,.int .i64 xa)]:List (Tmp × Value)).lookup t).getD undef
theorem Qoq {h:Qc}{oa ob oc:Option Qk}{on:Option Int}(H:w6.cell? ⟨b,0,none⟩=some (Pv bh 0)) (E:w6.cell? ⟨X,1,none⟩=some (Iv xa)) (P:w6.cell? ⟨X,2,none⟩=some (Iv xb)) (S:w6.cell? ⟨X,3,none⟩=some (Iv xc)) (O:w6.cell? ⟨X,4,none⟩=some (Iv xk)) (C:Hid (QhM 190 #[Pv c 0,Iv xa,Iv 4] w6 oa QU)) (I:Hid (∀ y wx,oa=some y->Below w6.heap.size w6 wx->Calls prog 203 #[Pv bh 0,QU y] wx fun e w'=>e=.returned (.tuple #[Iv (h.len y).1,Iv (h.len y).2])/\Below wx.heap.size wx w'))
 (a:Act) (m:Nat) (hn:a.tmps.size=m) (s:124<=m) (D:a.tmps.getD 0 undef=Pv b 0) (F:a.tmps.getD 1 undef=Pv c 0) (L:a.tmps.getD 5 undef=Pv X 0)
 (G:∀ ch a' w',a'.defers=a.defers->(fun ch w=>ch=stuckP/\(oa=none)/\Below w6.heap.size w6 w) ch w'->Q (.panic ch) a' w')
 (hend:∀ vs w',(fun v w=>∃ y,oa=some y/\v=Iv (h.len y).1) (vs 12) w'->(fun v w=>∃ y,oa=some y/\v=Iv (h.len y).2) (vs 13) w'->Below w6.heap.size w6 w'->Q .normal (QC a vs [107,108,109,110,111,112,113,114,115,106,116,117,12,13]) w') :
 Code.wp prog ((Tryz.f149.body.bind (Qf 17)).getD .skip) Q a w6:=by
 conv=>arg 2;whnf
 refine ZJ (Qmc w6 h b c X bh xa xb xc xk oa ob oc on) (fun w=>Below w6.heap.size w6 w) (fun w w'=>Below w.heap.size w w') (fun ch w=>ch=stuckP/\(oa=none)/\Below w6.heap.size w6 w) G (outs:=[0,1,5]) (gs:=[]) (bs:=[true,true,true,true,true,true,true,true,true,true,true,true,true,true]) (by kernel_rfl) (n:=124) hn s (by kernel_rfl) ?hR ?hG (Qh Zr 1) ⟨D,F,L,Y⟩ ?hA ?hend
 case hR =>
  intro t v w w' T h;unfold Qmc at h |-;split at h
  ·rename_i p g
   simp only[List.lookup_cons,List.lookup_nil] at g
   split at g
   ·cases g;exact h
   ·split at g
    ·cases g;exact h
    ·split at g
     ·cases g;exact h
     ·split at g
      ·cases g;exact h
      ·split at g
       ·cases g;exact h
       ·split at g
        ·cases g;exact h
        ·split at g
         ·cases g;exact h
         ·cases g
  ·exact h
 case hG=>exact Y
 case hend=>exact fun vs w' f i=>hend vs w' (i 12 (by kernel_rfl)) (i 13 (by kernel_rfl)) f
 case hA =>
  repeat
   refine⟨fun a w f i K o=>?_,?_⟩
   focus first
    | obtain⟨d,-⟩:=i
      conv at d=>whnf;rhs;whnf
      have R:=Qn H f;have N:=Qn E f;go_simp;exact o _ _ Zr f Z
    | obtain⟨d,-⟩:=i
      have d:(fun v w=>∃ y,oa=some y/\v=.tuple #[Iv (h.len y).1,Iv (h.len y).2]) (a.tmps.getD 106 undef) w:=d;generalize l:a.tmps.getD 106 undef=k at d;obtain⟨y,j,rfl⟩:=d
      go_simp;exact o _ _ Zr f ⟨y,j,Z⟩
    | obtain⟨d,-⟩:=i
      have d:(fun v w=>∃ y,oa=some y/\v=.tuple #[Iv (h.len y).1,Iv (h.len y).2]) (a.tmps.getD 115 undef) w:=d;generalize l:a.tmps.getD 115 undef=k at d;obtain⟨y,j,rfl⟩:=d
      go_simp;exact o _ _ Zr f ⟨y,j,Z⟩
    | obtain⟨d,-⟩:=i
      have d:(fun v w=>∃ y,oa=some y/\v=Iv (h.len y).1) (a.tmps.getD 116 undef) w:=d;generalize l:a.tmps.getD 116 undef=k at d;obtain⟨y,j,rfl⟩:=d
      go_simp;exact o _ _ Zr f ⟨y,j,Z⟩
    | obtain⟨d,-⟩:=i
      have d:(fun v w=>∃ y,oa=some y/\v=Iv (h.len y).2) (a.tmps.getD 117 undef) w:=d;generalize l:a.tmps.getD 117 undef=k at d;obtain⟨y,j,rfl⟩:=d
      go_simp;exact o _ _ Zr f ⟨y,j,Z⟩
    | obtain⟨d,q,-⟩:=i
      conv at d=>whnf;rhs;whnf
      have q:(fun v w=>∃ y,oa=some y/\v=QU y) (a.tmps.getD 114 undef) w:=q;generalize x:a.tmps.getD 114 undef=A at q;obtain⟨y,j,rfl⟩:=q
      go_simp;refine Xm (I.out y w j f) ?_;rintro B M ⟨rfl,r⟩;go_simp;exact o _ _ r (f.trans (r.mono f.size)) ⟨y,j,Z⟩
    | obtain⟨d,q,-⟩:=i
      conv at d=>whnf;rhs;whnf
      conv at q=>whnf;rhs;whnf
      go_simp;refine Xm (C.out w f) ?_;rintro B M ⟨J,r⟩;rcases J.split with ⟨z,u,rfl⟩|⟨u,rfl⟩
      rotate_left
      ·exact⟨_,Z,Z,u,f.trans (r.mono f.size)⟩
      go_simp;exact o _ _ r (f.trans (r.mono f.size)) ⟨z,u,Z⟩
  trivial
theorem Qg2 {h:Qc}{y z:Qk}{k:Int}(a:(h.set y k z).1≠0):(h.set y k z).2=h:=by
 unfold Qc.set at a |-;split
 ·rename_i t p b d
  rw[b,d] at a
  simp only at a
  split
  ·rfl
  ·rename_i c
   rw[Xr c] at a
   split
   ·rfl
   ·rename_i e
    rw[Xr e] at a
    exact absurd Z a
 ·rfl
section
variable {w w' w2:World}{b most n:Nat}{m:List (MFunc 6)}{M M' N:IM}{sc sa:Int}{g g1:MG}{e:Ending}
structure Qat (n:Nat) (M:IM):Prop where
 hb:HB n M.h
 hn:n<=900000
 gd:∀ v∈M.top.v,gdV v
 len:M.top.v.length+8<=1000000
 regs:M.top.r.length<=1000000
 inp:M.inp.length<=1000000
 out:M.out.length<=2000
theorem Qat.hn' (I:Qat n M):n<=1000000:=Zt I.hn (by decide)
theorem Qat.get (I:Qat n M) (H:HIn w g.bh g.O M.h g.G){y:Qk}(a:y.ok) (k:Int) :
 Calls prog 201 #[Pv g.bh 0,QU y,Iv k] w fun e w'=>e=.returned (.tuple #[QU (M.h.get y k).1,Iv (M.h.get y k).2])/\Below w.heap.size w w' :=
 QkO H y a k (I.hb.pl I.hn') (fun t b=>by have:=I.hb.len.thing b;have:=I.hn;omega)
theorem Qat.len_ (I:Qat n M) (H:HIn w g.bh g.O M.h g.G){y:Qk}(a:y.ok) :
 Calls prog 203 #[Pv g.bh 0,QU y] w fun e w'=>e=.returned (.tuple #[Iv (M.h.len y).1,Iv (M.h.len y).2])/\Below w.heap.size w w':=Qj2 H y a (I.hb.pl I.hn')
theorem Qat.set (I:Qat n M) (H:HIn w g.bh g.O M.h g.G){y z:Qk}(b:y.ok) (i:z.bare=z) (k:Int) :
 Calls prog 202 #[Pv g.bh 0,QU y,Iv k,QU z] w fun e w'=>e=.returned (Iv (M.h.set y k z).1)/\HTo w w' g.bh g.O (M.h.set y k z).2:=by
 have:=Qj0 H y b k z (I.hb.pl I.hn') (fun t a=>by have:=I.hb.len.thing a;have:=I.hn;omega)
 rw[i] at this
 exact this.mono fun e w' ⟨c,f,d⟩=>⟨c,_,_,f,d,fun _ h=>h⟩
theorem Qat.val (I:Qat n M){a:Int}{y:Qk}(h:QE M.top.v a=some y):y.ok/\y.bare=y:=I.gd y (Qbg h)
theorem Qat.kind (I:Qat n M){a k:Int}{y:Qk}(h:Q4 M.top.v a k=some y):y.ok/\y.bare=y:=I.val (Z4 h).1
theorem Qms (S:MAt w b most m M sc sa g) (I:Qat n M){x:Qx}(P:IP) (s:x.op=6) :
 Calls prog 149 #[Pv b 0,Pv g.t.c 0,.agg (Zc x P)] w fun e w'=>Qo g w b most m M sc sa (M.mem x) e w':=by
 have E:=Qb (QoF (M:=M) s);generalize M.mem x=u at E |-;obtain⟨xo,j,L,T,o,xn,xr,xs⟩:=x
 simp only at s
 subst s;have p:=Qb (Zb w (.cells (Zc ⟨6,j,L,T,o,xn,xr,xs⟩ P) 78));have i:=Qb (Qe w (Zc ⟨6,j,L,T,o,xn,xr,xs⟩ P) 78);have V:=Qb S;have HI:=Qb I;have H:=Qb (S.below p.out);have hl:=I.len;clear S I;go_enter func149,ntmps149
 go_upto_region 1 with fail
 generalize w.alloc (.cells (Zc ⟨6,j,L,T,o,xn,xr,xs⟩ P) 78)=d at p i H |-;generalize w.heap.size=X at i |-;have x0:d.cell? ⟨X,0,none⟩=some (Iv 6):=Qa i.out 0 _ Yz;have x1:d.cell? ⟨X,1,none⟩=some (Iv j):=Qa i.out 1 _ Yz;have x2:d.cell? ⟨X,2,none⟩=some (Iv L):=Qa i.out 2 _ Yz;have x3:d.cell? ⟨X,3,none⟩=some (Iv T):=Qa i.out 3 _ Yz;have x4:d.cell? ⟨X,4,none⟩=some (Iv o):=Qa i.out 4 _ Yz;have q0:=H.out.heapC;have CK:Hid (∀ a,Below d.heap.size d a->Calls prog 190 #[Pv g.t.c 0,Iv j,Iv 3] a fun e w'=>Ask (Q4 M.top.v j 3) QU e/\Below a.heap.size a w'):=fun a bx=>QaJ (H.out.top.below bx) (by omega) j 3;have CG:Hid (∀ y k a,Q4 M.top.v j 3=some y->Below d.heap.size d a->Calls prog 201 #[Pv g.bh 0,QU y,Iv k] a fun e w'=>e=.returned (.tuple #[QU (M.h.get y k).1,Iv (M.h.get y k).2])/\Below a.heap.size a w'):=fun y k a F bx=>HI.out.get (H.out.heap.below bx) (HI.out.kind F).1 k;go_upto_region 3 with fail
 refine iq3 (ob:=none) (oc:=none) (on:=none) q0 x1 x2 x3 x4 CK CG (QfE _) _ _ Yz (Xg (by kernel_rfl)) Yz Yz Yz ?_ ?_
 ·rintro ch a' q ab ⟨rfl,W,J⟩;refine⟨ab,?_⟩
  rw[E.out,W]
  exact Qo.stuck (XTo.same V.out (p.out.trans (J.mono p.out.size)))
 ·rintro vs q ⟨y,F,B⟩ ⟨Z,C,hZ,⟨r,⟨y',G,hr⟩,f⟩,-⟩ J;rw[F] at G
  cases G
  simp only[QC,Act.put,List.setIfInBounds_toArray,List.set_cons_zero,List.set_cons_succ,B,C]
  have z:Hid (u=if (M.h.get y o).2=0 then some (M.push [(M.h.get y o).1]) else none):=by show _=_;rw[E.out,F]
  rw[<-hr] at z
  have Q:=Qb (p.out.trans (J.mono p.out.size));have S9:=Qb (V.out.below Q.out);have Y:=Qb f;clear B C F hr f J E CG CK x0 x1 x2 x3 x4 q0 H p i;generalize (M.h.get y o).2=cd at z |-;by_cases A:cd=0
  ·have aa:(cd==0)=true:=by simpa using A
   have E3:Hid (u=some (M.push [r])):=by show _=_;rw[z.out,Xs A]
   obtain⟨K,U,N,O⟩:=r
   have y0:q.cell? ⟨Z,0,none⟩=some (Iv K):=Qa Y.out 0 _ Yz;have y1:q.cell? ⟨Z,1,none⟩=some (Iv U):=Qa Y.out 1 _ Yz;have y2:q.cell? ⟨Z,2,none⟩=some (Iv N):=Qa Y.out 2 _ Yz;have y3:q.cell? ⟨Z,3,none⟩=some (Iv O):=Qa Y.out 3 _ Yz;have B5:=Zb q (.cells #[Iv K,Iv U,Iv N,Iv O] 211);have CM:=Qb (fun cp=>Z3 (S9.out.below B5) (l:=[⟨K,U,N,O⟩]) (cp:=cp) Yz (Qh2 q K U N O) (by simp;omega));have T5:=Qb ((V.out.stepB Q.out).trans (S9.out.stepB B5));clear B5 Y A z S9 Q;go_wp2_with (go_at_call 138;refine(ZM _).mono ?_;rintro e' w' ⟨rfl,D⟩;have D:=D.symm;subst D)
   refine(CM.out _).mono ?_
   rintro e' w6 ⟨rfl,h6⟩;have R:=Qb (XTo.then T5.out Yz Yz h6);clear h6 CM T5 y0 y1 y2 y3;go_wp2
   exact Xz (v:=.tuple #[]) (by simp[results,results149,go_sem]) Yz (by rw[E3.out];exact Qo.go R.out)
  ·have aa:(cd==0)=false:=by simpa using A
   have E3:Hid (u=none):=by show _=_;rw[z.out,Xr A]
   clear A z;go_wp2_with fail
   refine(ZD _).mono ?_
   rintro e' w' ⟨rfl,D⟩;subst D;exact⟨Yz,by rw[E3.out];exact Qo.stuck (XTo.same V.out Q.out)⟩
theorem QmZ (S:MAt w b most m M sc sa g) (I:Qat n M){x:Qx}(J:IP) (A:x.op=7) :
 Calls prog 149 #[Pv b 0,Pv g.t.c 0,.agg (Zc x J)] w fun e w'=>Qo g w b most m M sc sa (M.mem x) e w':=by
 have E:=Qb (Qor (M:=M) A);generalize M.mem x=i at E |-;obtain⟨xo,r,s,K,f,T,xr,Q⟩:=x
 simp only at A
 subst A;have u:=Qb (Zb w (.cells (Zc ⟨7,r,s,K,f,T,xr,Q⟩ J) 78));have o:=Qb (Qe w (Zc ⟨7,r,s,K,f,T,xr,Q⟩ J) 78);have HS:=Qb S;have W:=Qb I;have H:=Qb (S.below u.out);have hl:=I.len;clear S I;go_enter func149,ntmps149
 go_upto_region 1 with fail
 generalize w.alloc (.cells (Zc ⟨7,r,s,K,f,T,xr,Q⟩ J) 78)=d at u o H |-;generalize w.heap.size=X at o |-;have x0:d.cell? ⟨X,0,none⟩=some (Iv 7):=Qa o.out 0 _ Z;have x1:d.cell? ⟨X,1,none⟩=some (Iv r):=Qa o.out 1 _ Z;have x2:d.cell? ⟨X,2,none⟩=some (Iv s):=Qa o.out 2 _ Z;have x3:d.cell? ⟨X,3,none⟩=some (Iv K):=Qa o.out 3 _ Z;have x4:d.cell? ⟨X,4,none⟩=some (Iv f):=Qa o.out 4 _ Z;have q0:=H.out.heapC;have CK:Hid (∀ a,Below d.heap.size d a->Calls prog 190 #[Pv g.t.c 0,Iv r,Iv 3] a fun e w'=>Ask (Q4 M.top.v r 3) QU e/\Below a.heap.size a w'):=fun a bx=>QaJ (H.out.top.below bx) (by omega) r 3;have CB:Hid (∀ a,Below d.heap.size d a->Calls prog 140 #[Pv g.t.c 0,Iv s] a fun e w'=>Ask (QE M.top.v s) QU e/\Below a.heap.size a w'):=fun a bx=>Z1 (H.out.top.below bx) (by omega) s;go_upto_region 7 with fail
 refine iq7 (oc:=none) (on:=none) q0 x1 x2 x3 x4 CK CB _ _ Z (Xg (by kernel_rfl)) Z Z Z ?_ ?_
 ·rintro ch a' w9 P ⟨rfl,N,b9⟩;refine⟨P,?_⟩
  have F:i=none:=by
   rw[E.out]
   rcases N with V | V
   ·rw[V]
   ·cases Q4 M.top.v r 3 with
    | none=>rfl
    | some y=>simp only;rw[V]
  rw[F]
  exact Qo.stuck (XTo.same HS.out (u.out.trans (b9.mono u.out.size)))
 ·rintro aa vs w5 p ⟨y,hy,j⟩ l ⟨z,hz,q⟩ b5;show wpList _ aa _ [_,_] (QC _ vs [41,42,43,44,45,46,47,48,49,50,51,52,53,54]) w5;simp only[QC,Act.put,List.setIfInBounds_toArray,List.set_cons_zero,List.set_cons_succ,p,j,l,q]
  have B:Hid (i=if (M.h.set y f z).1=0 then some { M with h:=(M.h.set y f z).2 } else none):=by show _=_;rw[E.out,hy];simp only;rw[hz]
  have U:=Qb (u.out.trans (b5.mono u.out.size));have O:=Qb (HS.out.below U.out);have CS:=Qb (W.out.set O.out.heap (W.out.kind hy).1 (W.out.val hz).2 f);have L:=Qb (Qg2 (h:=M.h) (y:=y) (z:=z) (k:=f));clear p j l q hy hz b5 E CK CB x0 x1 x2 x3 x4 q0 H u o;go_upto_region 8 with (go_at_call 202;refine CS.out.mono ?_;rintro e' w6 ⟨rfl,h6⟩)
  have R:=Qb (XTo.then (HS.out.stepB U.out) Z Z (O.out.toHeap h6));clear h6 CS O U;generalize M.h.set y f z=st at B R L |-;obtain⟨cd,sh⟩:=st
  simp only at B R L |-
  by_cases C:cd=0
  ·have D:(cd==0)=true:=by simpa using C
   have F:Hid (i=some { M with h:=sh }):=by show _=_;rw[B.out,Xs C]
   clear C B;go_wp2_with (go_at_call 138;refine(ZM _).mono ?_;rintro e' w' ⟨rfl,G⟩;have G:=G.symm;subst G)
   exact Xz (v:=.tuple #[]) (by simp[results,results149,go_sem]) Z (by rw[F.out];exact Qo.go R.out)
  ·have D:(cd==0)=false:=by simpa using C
   have F:Hid (i=none):=by show _=_;rw[B.out,Xr C]
   clear C B;go_wp2_with fail
   refine(ZD _).mono ?_
   rintro e' w' ⟨rfl,G⟩;subst G;exact⟨Z,by rw[F.out];exact Qo.stuck (by have:=R.out;rw[L.out (by simpa using D)] at this;exact this)⟩
theorem Qmj (S:MAt w b most m M sc sa g) (I:Qat n M){x:Qx}(V:IP) (B:x.op=9) :
 Calls prog 149 #[Pv b 0,Pv g.t.c 0,.agg (Zc x V)] w fun e w'=>Qo g w b most m M sc sa (M.mem x) e w':=by
 have E:=Qb (QoG (M:=M) B);generalize M.mem x=f at E |-;obtain⟨xo,j,s,W,xk,xn,xr,xs⟩:=x
 simp only at B
 subst B;have z:=Qb (Zb w (.cells (Zc ⟨9,j,s,W,xk,xn,xr,xs⟩ V) 78));have p:=Qb (Qe w (Zc ⟨9,j,s,W,xk,xn,xr,xs⟩ V) 78);have O:=Qb S;have HI:=Qb I;have D:=Qb (S.below z.out);have hl:=I.len;clear S I;go_enter func149,ntmps149
 go_upto_region 1 with fail
 generalize w.alloc (.cells (Zc ⟨9,j,s,W,xk,xn,xr,xs⟩ V) 78)=d at z p D |-;generalize w.heap.size=X at p |-;have x0:d.cell? ⟨X,0,none⟩=some (Iv 9):=Qa p.out 0 _ Yz;have x1:d.cell? ⟨X,1,none⟩=some (Iv j):=Qa p.out 1 _ Yz;have x2:d.cell? ⟨X,2,none⟩=some (Iv s):=Qa p.out 2 _ Yz;have x3:d.cell? ⟨X,3,none⟩=some (Iv W):=Qa p.out 3 _ Yz;have x4:d.cell? ⟨X,4,none⟩=some (Iv xk):=Qa p.out 4 _ Yz;have q0:=D.out.heapC;have CK:Hid (∀ a,Below d.heap.size d a->Calls prog 190 #[Pv g.t.c 0,Iv j,Iv 4] a fun e w'=>Ask (Q4 M.top.v j 4) QU e/\Below a.heap.size a w'):=fun a N=>QaJ (D.out.top.below N) (by omega) j 4;have CN:Hid (∀ a,Below d.heap.size d a->Calls prog 133 #[Pv g.t.c 0,Iv s] a fun e w'=>Ask (QB M.top.v s) (.int .i64) e/\Below a.heap.size a w'):=fun a N=>ZN (D.out.top.below N) (by omega) s;have CG:Hid (∀ y k a,Q4 M.top.v j 4=some y->Below d.heap.size d a->Calls prog 201 #[Pv g.bh 0,QU y,Iv k] a fun e w'=>e=.returned (.tuple #[QU (M.h.get y k).1,Iv (M.h.get y k).2])/\Below a.heap.size a w'):=fun y k a K N=>HI.out.get (D.out.heap.below N) (HI.out.kind K).1 k;go_upto_region 10 with fail
 refine QoM (ob:=none) (oc:=none) q0 x1 x2 x3 x4 CK CN CG (QfE _) _ _ Yz (Xg (by kernel_rfl)) Yz Yz Yz ?_ ?_
 ·rintro ch a' A ab ⟨rfl,aa,P⟩;refine⟨ab,?_⟩
  have u:f=none:=by
   rw[E.out]
   rcases aa with i | i
   ·rw[i]
   ·cases Q4 M.top.v j 4 with
    | none=>rfl
    | some y=>simp only;rw[i]
  rw[u]
  exact Qo.stuck (XTo.same O.out (z.out.trans (P.mono z.out.size)))
 ·rintro vs A ⟨y,q,K,hq,G⟩ ⟨Z,H,hZ,⟨r,⟨y',q',L,F,hr⟩,o⟩,-⟩ P;rw[K] at L
  cases L
  rw[hq] at F
  cases F
  simp only[QC,Act.put,List.setIfInBounds_toArray,List.set_cons_zero,List.set_cons_succ,G,H]
  have C:Hid (f=if (M.h.get y q).2=1 then some (M.over 2) else if (M.h.get y q).2=0 then some (M.push [(M.h.get y q).1]) else none):=by show _=_;rw[E.out,K];simp only;rw[hq]
  rw[<-hr] at C
  have J:=Qb (z.out.trans (P.mono z.out.size));have S9:=Qb (O.out.below J.out);have Y:=Qb o;clear G H K hq hr o P E CG CK CN x0 x1 x2 x3 x4 q0 D z p;generalize (M.h.get y q).2=cd at C |-;go_upto_region 11 with fail
  go_wp2_with fail
  refine(QaW _ _ _ _).mono ?_
  rintro e' w' ⟨hw,ha⟩;have hw:=hw.symm;subst hw;rcases ha with ⟨i,rfl⟩|⟨i,h1,rfl⟩|⟨i,h1,rfl⟩
  rotate_left
  ·have u:f=some (M.over 2):=by rw[C.out,Xs h1]
   exact⟨Yz,by rw[u];exact Qo.end_ (XTo.same O.out J.out)⟩
  ·have u:f=none:=by rw[C.out,Xr h1,Xr i]
   exact⟨Yz,by rw[u];exact Qo.stuck (XTo.same O.out J.out)⟩
  have u:Hid (f=some (M.push [r])):=by show _=_;rw[C.out,Xr (by omega),Xs i]
  obtain⟨Q,rr,T,U⟩:=r
  have y0:A.cell? ⟨Z,0,none⟩=some (Iv Q):=Qa Y.out 0 _ Yz;have y1:A.cell? ⟨Z,1,none⟩=some (Iv rr):=Qa Y.out 1 _ Yz;have y2:A.cell? ⟨Z,2,none⟩=some (Iv T):=Qa Y.out 2 _ Yz;have y3:A.cell? ⟨Z,3,none⟩=some (Iv U):=Qa Y.out 3 _ Yz;have B5:=Zb A (.cells #[Iv Q,Iv rr,Iv T,Iv U] 211);have CM:=Qb (fun cp=>Z3 (S9.out.below B5) (l:=[⟨Q,rr,T,U⟩]) (cp:=cp) Yz (Qh2 A Q rr T U) (by simp;omega));have T5:=Qb ((O.out.stepB J.out).trans (S9.out.stepB B5));clear B5 Y i C S9 J;go_wp2_with fail
  refine(CM.out _).mono ?_
  rintro e' w6 ⟨rfl,h6⟩;have R:=Qb (XTo.then T5.out Yz Yz h6);clear h6 CM T5 y0 y1 y2 y3;go_wp2
  exact Xz (v:=.tuple #[]) (by simp[results,results149,go_sem]) Yz (by rw[u.out];exact Qo.go R.out)
theorem Ql3 (S:MAt w b most m M sc sa g) (I:Qat n M){x:Qx}(K:IP) (D:x.op=10) :
 Calls prog 149 #[Pv b 0,Pv g.t.c 0,.agg (Zc x K)] w fun e w'=>Qo g w b most m M sc sa (M.mem x) e w':=by
 have E:=Qb (Qny (M:=M) D I.gd);generalize M.mem x=j at E |-;obtain⟨xo,s,l,B,N,U,xr,T⟩:=x
 simp only at D
 subst D;have C:=Qb (Zb w (.cells (Zc ⟨10,s,l,B,N,U,xr,T⟩ K) 78));have r:=Qb (Qe w (Zc ⟨10,s,l,B,N,U,xr,T⟩ K) 78);have HS:=Qb S;have W:=Qb I;have G:=Qb (S.below C.out);have hl:=I.len;clear S I;go_enter func149,ntmps149
 go_upto_region 1 with fail
 generalize w.alloc (.cells (Zc ⟨10,s,l,B,N,U,xr,T⟩ K) 78)=f at C r G |-;generalize w.heap.size=X at r |-;have x0:f.cell? ⟨X,0,none⟩=some (Iv 10):=Qa r.out 0 _ Z;have x1:f.cell? ⟨X,1,none⟩=some (Iv s):=Qa r.out 1 _ Z;have x2:f.cell? ⟨X,2,none⟩=some (Iv l):=Qa r.out 2 _ Z;have x3:f.cell? ⟨X,3,none⟩=some (Iv B):=Qa r.out 3 _ Z;have x4:f.cell? ⟨X,4,none⟩=some (Iv N):=Qa r.out 4 _ Z;have q0:=G.out.heapC;have CK:Hid (∀ a,Below f.heap.size f a->Calls prog 190 #[Pv g.t.c 0,Iv s,Iv 4] a fun e w'=>Ask (Q4 M.top.v s 4) QU e/\Below a.heap.size a w'):=fun a H=>QaJ (G.out.top.below H) (by omega) s 4;have CN:Hid (∀ a,Below f.heap.size f a->Calls prog 133 #[Pv g.t.c 0,Iv l] a fun e w'=>Ask (QB M.top.v l) (.int .i64) e/\Below a.heap.size a w'):=fun a H=>ZN (G.out.top.below H) (by omega) l;have CC:Hid (∀ a,Below f.heap.size f a->Calls prog 140 #[Pv g.t.c 0,Iv B] a fun e w'=>Ask (QE M.top.v B) QU e/\Below a.heap.size a w'):=fun a H=>Z1 (G.out.top.below H) (by omega) B;go_upto_region 14 with fail
 refine Qoz (ob:=none) q0 x1 x2 x3 x4 CK CN CC _ _ Z (Xg (by kernel_rfl)) Z Z Z ?_ ?_
 ·rintro ch a' w9 Q ⟨rfl,O,b9⟩;refine⟨Q,?_⟩
  have A:j=none:=by
   rw[E.out]
   cases hk:Q4 M.top.v s 4 with
   | none=>rfl
   | some y =>
     simp only
     cases L:QB M.top.v l with
     | none=>rfl
     | some q =>
       simp only
       rcases O with d | d | d
       ·rw[hk] at d;cases d
       ·rw[L] at d;cases d
       ·rw[d]
  rw[A]
  exact Qo.stuck (XTo.same HS.out (C.out.trans (b9.mono C.out.size)))
 ·rintro aa vs w5 p ⟨y,hy,o⟩ ⟨q,L,u⟩ ⟨z,hz,i⟩ b5;show wpList _ aa _ [_,_] (QC _ vs [85,86,87,88,89,90,91,92,93,94,95,96,97,98,99,100]) w5;simp only[QC,Act.put,List.setIfInBounds_toArray,List.set_cons_zero,List.set_cons_succ,p,o,u,i]
  have F:Hid (j=if (M.h.set y q z).1=1 then some (M.over 2) else if (M.h.set y q z).1=0 then some { M with h:=(M.h.set y q z).2 } else none):=by show _=_;rw[E.out,hy];simp only;rw[L];simp only;rw[hz]
  have V:=Qb (C.out.trans (b5.mono C.out.size));have P:=Qb (HS.out.below V.out);have CS:=Qb (W.out.set P.out.heap (W.out.kind hy).1 (W.out.val hz).2 q);have J:=Qb (Qg2 (h:=M.h) (y:=y) (z:=z) (k:=q));clear p o u i hy hz L b5 E CK CN CC x0 x1 x2 x3 x4 q0 G C r;go_upto_region 15 with (go_at_call 202;refine CS.out.mono ?_;rintro e' w6 ⟨rfl,h6⟩)
  have R:=Qb (XTo.then (HS.out.stepB V.out) Z Z (P.out.toHeap h6));clear h6 CS P V;generalize M.h.set y q z=st at F R J |-;obtain⟨cd,sh⟩:=st
  simp only at F R J |-
  go_wp2_with fail
  refine(QaW _ _ _ _).mono ?_
  rintro e' w' ⟨hw,ha⟩;have hw:=hw.symm;subst hw;rcases ha with ⟨d,rfl⟩|⟨d,h1,rfl⟩|⟨d,h1,rfl⟩
  rotate_left
  ·have A:j=some (M.over 2):=by rw[F.out,Xs h1]
   exact⟨Z,by rw[A];exact Qo.end_ (by have:=R.out;rw[J.out d] at this;exact this)⟩
  ·have A:j=none:=by rw[F.out,Xr h1,Xr d]
   exact⟨Z,by rw[A];exact Qo.stuck (by have:=R.out;rw[J.out d] at this;exact this)⟩
  have A:Hid (j=some { M with h:=sh }):=by show _=_;rw[F.out,Xr (by omega),Xs d]
  clear d F;go_wp2
  exact Xz (v:=.tuple #[]) (by simp[results,results149,go_sem]) Z (by rw[A.out];exact Qo.go R.out)
theorem QlH (S:MAt w b most m M sc sa g) (I:Qat n M){x:Qx}(D:IP) (o:x.op=11) :
 Calls prog 149 #[Pv b 0,Pv g.t.c 0,.agg (Zc x D)] w fun e w'=>Qo g w b most m M sc sa (M.mem x) e w':=by
 have E:=Qb (QnO (M:=M) o);generalize M.mem x=p at E |-;obtain⟨xo,k,C,G,H,P,V,O⟩:=x
 simp only at o
 subst o;have l:=Qb (Zb w (.cells (Zc ⟨11,k,C,G,H,P,V,O⟩ D) 78));have j:=Qb (Qe w (Zc ⟨11,k,C,G,H,P,V,O⟩ D) 78);have J:=Qb S;have HI:=Qb I;have A:=Qb (S.below l.out);have hl:=I.len;clear S I;go_enter func149,ntmps149
 go_upto_region 1 with fail
 generalize w.alloc (.cells (Zc ⟨11,k,C,G,H,P,V,O⟩ D) 78)=d at l j A |-;generalize w.heap.size=X at j |-;have x0:d.cell? ⟨X,0,none⟩=some (Iv 11):=Qa j.out 0 _ Z;have x1:d.cell? ⟨X,1,none⟩=some (Iv k):=Qa j.out 1 _ Z;have x2:d.cell? ⟨X,2,none⟩=some (Iv C):=Qa j.out 2 _ Z;have x3:d.cell? ⟨X,3,none⟩=some (Iv G):=Qa j.out 3 _ Z;have x4:d.cell? ⟨X,4,none⟩=some (Iv H):=Qa j.out 4 _ Z;have q0:=A.out.heapC;have CK:Hid (∀ a,Below d.heap.size d a->Calls prog 190 #[Pv g.t.c 0,Iv k,Iv 4] a fun e w'=>Ask (Q4 M.top.v k 4) QU e/\Below a.heap.size a w'):=fun a U=>QaJ (A.out.top.below U) (by omega) k 4;have CL:Hid (∀ y a,Q4 M.top.v k 4=some y->Below d.heap.size d a->Calls prog 203 #[Pv g.bh 0,QU y] a fun e w'=>e=.returned (.tuple #[Iv (M.h.len y).1,Iv (M.h.len y).2])/\Below a.heap.size a w'):=fun y a u U=>HI.out.len_ (A.out.heap.below U) (HI.out.kind u).1;go_upto_region 17 with fail
 refine Qoq (ob:=none) (oc:=none) (on:=none) q0 x1 x2 x3 x4 CK CL _ _ Z (Xg (by kernel_rfl)) Z Z Z ?_ ?_
 ·rintro ch a' w9 N ⟨rfl,K,B⟩;refine⟨N,?_⟩
  rw[E.out,K]
  exact Qo.stuck (XTo.same J.out (l.out.trans (B.mono l.out.size)))
 ·rintro vs w9 ⟨y,u,f⟩ ⟨y',z,i⟩ B;rw[u] at z
  cases z
  simp only[QC,Act.put,List.setIfInBounds_toArray,List.set_cons_zero,List.set_cons_succ,f,i]
  have q:Hid (p=if (M.h.len y).2=0 then some (M.push [Qaz (M.h.len y).1]) else none):=by show _=_;rw[E.out,u]
  have F:=Qb (l.out.trans (B.mono l.out.size));have S9:=Qb (J.out.below F.out);clear f i u B E CL CK x0 x1 x2 x3 x4 q0 A l j;generalize (M.h.len y).2=T at q |-;generalize (M.h.len y).1=ln at q |-;by_cases r:T=0
  ·have L:(T==0)=true:=by simpa using r
   have Q:Hid (p=some (M.push [Qaz ln])):=by show _=_;rw[q.out,Xs r]
   have CM:=Qb (Qak S9.out ln (by omega));have T5:=Qb (J.out.stepB F.out);clear r q S9 F;go_wp2_with (go_at_call 138;refine(ZM _).mono ?_;rintro e' w' ⟨rfl,s⟩;have s:=s.symm;subst s)
   refine CM.out.mono ?_;rintro e' w6 ⟨rfl,W⟩;have R:=Qb (XTo.then T5.out Z Z W);clear W CM T5;go_wp2
   exact Xz (v:=.tuple #[]) (by simp[results,results149,go_sem]) Z (by rw[Q.out];exact Qo.go R.out)
  ·have L:(T==0)=false:=by simpa using r
   have Q:Hid (p=none):=by show _=_;rw[q.out,Xr r]
   clear r q;go_wp2_with fail
   refine(ZD _).mono ?_
   rintro e' w' ⟨rfl,s⟩;subst s;exact⟨Z,by rw[Q.out];exact Qo.stuck (XTo.same J.out F.out)⟩
end
def QcZ (w6:World) (o:Option IFr) (v:Value) (w:World):Prop:=∃ fr c gx n,o=some fr/\v=Pv c 0/\w6.heap.size<=c/\w6.heap.size<=gx/\QdM w c fr (.slice (some ⟨gx,0,none⟩) n n)
def Qfu (w6:World) (o:Option IFr) (v:Value) (w:World):Prop:=∃ fr gx n,o=some fr/\v=.agg #[Iv fr.f,Iv fr.b,Iv fr.i,Iv fr.r.length,.slice (some ⟨gx,0,none⟩) n n]/\w6.heap.size<=gx/\QhN w (.slice (some ⟨gx,0,none⟩) n n) fr.v
theorem QcZ.below {w w':World}{o:Option IFr}(h:QcZ w6 o v w) (b:Below w.heap.size w w'):QcZ w6 o v w':=by
 obtain⟨j,c,a,n,e,d,f,i,g⟩:=h
 exact⟨j,c,a,n,e,d,f,i,g.below b⟩
theorem Qfu.below {w w':World}{o:Option IFr}(h:Qfu w6 o v w) (b:Below w.heap.size w w'):Qfu w6 o v w':=by
 obtain⟨i,d,n,e,g,c,a⟩:=h
 exact⟨i,d,n,e,g,c,a.keep (fun x f=>b.block x (a.lt f))⟩
theorem QbH.split {w w':World}{o:Option IFr}{e:Ending}(h:QbH w o e w'):Below w.heap.size w w'/\((∃ fr c gx n,o=some fr/\e=.returned (Pv c 0)/\w.heap.size<=c/\w.heap.size<=gx/\QdM w' c fr (.slice (some ⟨gx,0,none⟩) n n))\/(o=none/\e=.panicked stuckP)):=by
 obtain⟨b,h⟩:=h
 refine⟨b,?_⟩
 cases o with
 | none=>exact .inr ⟨Z,h⟩
 | some fr =>
   obtain⟨c,gx,n,g,d,a,f⟩:=h
   exact .inl ⟨fr,c,gx,n,Z,g,d,a,f⟩
theorem QcW {v:List Qk}{xs:List Qk}(h:Qq v l=some xs):xs.length=l.length:=Zp v l h
theorem QaM {r:List Int}:∀ {l rs:List Int},Zs r l=some rs->rs.length=l.length
 | [],rs,h=>by simp[Zs] at h;subst h;rfl
 | k::l,rs,h=>by
   unfold Zs at h
   cases hk:Qge r k with
   | none=>rw[hk] at h;cases h
   | some x =>
     rw[hk] at h
     simp only at h
     cases hl:Zs r l with
     | none=>rw[hl] at h;cases h
     | some zs=>rw[hl] at h;simp at h;subst h;simp[QaM hl]
theorem Qlv {m:List (MFunc 6)}{M:IM}{x:Qx}{fn:MFunc 6}{bl:MBlock 6}(c:x.k=(k:Int)) (b:m[k]?=some fn) (d:bl.regs=fn.regs) (a:bl.params=fn.params) :
 IM.call m M x=match begunO M.top k ⟨0,x.regs,x.args⟩ bl with
  | none=>none
  | some fr=>if M.rest.length+1=40 then some (M.over 5) else some { M with top:=fr,rest:=M.top::M.rest }:=by
 unfold IM.call begunO;simp only
 cases hr:Zs M.top.r x.regs with
 | none=>simp only[ite_self]
 | some rs =>
   simp only
   cases hv:Qq M.top.v x.args with
   | none=>simp only[ite_self]
   | some xs =>
     simp only
     rw[c,XT,b]
     simp only
     rw[d,a,QaM hr,QcW hv]
     split
     ·simp
     ·rfl
theorem QmA {fn:MFunc 6}{M:IM}{t:MTo}{bl:MBlock 6}(hb:fn.blocks[t.block.toNat]?=some bl):IM.to fn M t=match begunO M.top M.top.f t bl with
 | none=>none
 | some fr=>some { M with top:=fr }:=by
 unfold IM.to begunO;rw[hb]
 simp only
 cases hr:Zs M.top.r t.regs with
 | none=>simp only[ite_self]
 | some rs =>
   simp only
   cases hv:Qq M.top.v t.args with
   | none=>simp only[ite_self]
   | some xs =>
     simp only
     rw[QaM hr,QcW hv]
     split<;>rfl
def Qn6 (w6:World) (o:Option IFr) (b c X fi bi ml cm nr cr na ca:Nat) (pm pr pa:Option Addr) (t:Tmp) (v:Value) (w:World):Prop :=
 match ([(19,QcZ w6 o),(6,QcZ w6 o)]:List (Tmp × (Value->World->Prop))).lookup t with
 | some p=>p v w
 | none=>v=(([(0,.pointer (some ⟨b,0,none⟩)),(1,.pointer (some ⟨c,0,none⟩)),(5,.pointer (some ⟨X,0,none⟩)),(7,.pointer (some ⟨c,0,none⟩)),(8,.pointer (some ⟨b,0,none⟩)),(9,.pointer (some ⟨b,0,none⟩)),(10,.pointer (some ⟨b,1,none⟩)),(11,.agg #[.slice pm ml cm]),(12,.pointer (some ⟨X,4,none⟩)),(13,.int .i64 (fi:Int)),(14,.pointer (some ⟨X,6,none⟩)),(15,.slice pr nr cr),(16,.pointer (some ⟨X,7,none⟩)),(17,.slice pa na ca),(18,.agg #[.int .i64 0,.slice pr nr cr,.slice pa na ca])]:List (Tmp × Value)).lookup t).getD undef
theorem ic1 {o:Option IFr}{b bi A q B:Nat}{y:Option Addr}(G:w6.cell? ⟨b,1,none⟩=some (.slice pm A cm)) (H:w6.cell? ⟨X,4,none⟩=some (Iv (fi:Int))) (M:w6.cell? ⟨X,6,none⟩=some (.slice y q B)) (L:w6.cell? ⟨X,7,none⟩=some (.slice pa na ca)) (T:Hid (∀ wx,Below w6.heap.size w6 wx->Calls prog 189 #[Pv c 0,.agg #[.slice pm A cm],Iv (fi:Int),.agg #[Iv 0,.slice y q B,.slice pa na ca]] wx fun e w'=>QbH wx o e w'))
 (a:Act) (m:Nat) (hn:a.tmps.size=m) (l:37<=m) (N:a.tmps.getD 0 undef=Pv b 0) (s:a.tmps.getD 1 undef=Pv c 0) (U:a.tmps.getD 5 undef=Pv X 0)
 (R:∀ ch a' w',a'.defers=a.defers->(fun ch w=>ch=stuckP/\o=none/\Below w6.heap.size w6 w) ch w'->Q (.panic ch) a' w')
 (hend:∀ vs w',(QcZ w6 o) (vs 6) w'->Below w6.heap.size w6 w'->Q .normal (QC a vs [7,8,9,10,11,12,13,14,15,16,17,18,19,6]) w') :
 Code.wp prog ((Tryz.f148.body.bind (Qf 1)).getD .skip) Q a w6:=by
 conv=>arg 2;whnf
 refine ZJ (Qn6 w6 o b c X fi bi A cm q B na ca pm y pa) (fun w=>Below w6.heap.size w6 w) (fun w w'=>Below w.heap.size w w') (fun ch w=>ch=stuckP/\o=none/\Below w6.heap.size w6 w) R (outs:=[0,1,5]) (gs:=[]) (bs:=[true,true,true,true,true,true,true,true,true,true,true,true,true,true]) (by kernel_rfl) (n:=37) hn l (by kernel_rfl) ?hR ?hG (Qh Zr 1) ⟨N,s,U,Y⟩ ?hA ?hend
 case hR =>
  intro t v w w' C h;unfold Qn6 at h |-;split at h
  ·rename_i p g
   simp only[List.lookup_cons,List.lookup_nil] at g
   split at g
   ·cases g;exact h.below C
   ·split at g
    ·cases g;exact h.below C
    ·cases g
  ·exact h
 case hG=>exact Y
 case hend=>exact fun vs w' d i=>hend vs w' (i 6 (by kernel_rfl)) d
 case hA =>
  repeat
   refine⟨fun a w d i K k=>?_,?_⟩
   focus first
    | obtain⟨f,-⟩:=i
      conv at f=>whnf;rhs;whnf
      have c0:=Qn G d;have W:=Qn H d;have c2:=Qn M d;have c3:=Qn L d;go_simp;exact k _ _ Zr d Z
    | obtain⟨f,j,-⟩:=i
      conv at f=>whnf;rhs;whnf
      rw[Za] at f
      conv at j=>whnf;rhs;whnf
      rw[Za] at j
      go_simp;exact k _ _ Zr d Z
    | obtain⟨f,-⟩:=i
      have f:(QcZ w6 o) (a.tmps.getD 19 undef) w:=f;generalize x:a.tmps.getD 19 undef=E at f;subst x;rw[Za] at f
      go_simp;exact k _ _ Zr d f
    | obtain⟨f,j,F,S,-⟩:=i
      conv at f=>whnf;rhs;whnf
      conv at j=>whnf;rhs;whnf
      conv at F=>whnf;rhs;whnf
      conv at S=>whnf;rhs;whnf
      go_simp;refine Xm (T.out w d) ?_;rintro r7 w7 z;obtain⟨u,z⟩:=z.split
      rcases z with ⟨V,J,D,I,r,rfl,s,P,O⟩|⟨r,rfl⟩
      rotate_left
      ·exact⟨_,Z,Z,r,d.trans (u.mono d.size)⟩
      go_simp;exact k _ _ u (d.trans (u.mono d.size)) ⟨V,J,D,I,r,Z,Zt d.size s,Zt d.size P,O⟩
  trivial
def Qn5 (w6:World) (o:Option IFr) (b c X fi bi ml cm nr cr na ca:Nat) (pm pr pa:Option Addr) (t:Tmp) (v:Value) (w:World):Prop :=
 match ([(17,QcZ w6 o),(18,QcZ w6 o),(19,Qfu w6 o)]:List (Tmp × (Value->World->Prop))).lookup t with
 | some p=>p v w
 | none=>v=(([(0,.pointer (some ⟨b,0,none⟩)),(1,.pointer (some ⟨c,0,none⟩)),(5,.pointer (some ⟨X,0,none⟩)),(6,.pointer (some ⟨c,0,none⟩)),(7,.pointer (some ⟨c,0,none⟩)),(8,.pointer (some ⟨b,0,none⟩)),(9,.pointer (some ⟨b,0,none⟩)),(10,.pointer (some ⟨b,1,none⟩)),(11,.agg #[.slice pm ml cm]),(12,.pointer (some ⟨c,0,none⟩)),(13,.pointer (some ⟨c,0,none⟩)),(14,.pointer (some ⟨c,0,none⟩)),(15,.int .i64 (fi:Int)),(16,.agg #[.int .i64 (bi:Int),.slice pr nr cr,.slice pa na ca]),(20,.pointer (some ⟨c,0,none⟩))]:List (Tmp × Value)).lookup t).getD undef
theorem ij1 {o:Option IFr}{b H B I:Nat}{F:Option Addr}(M:w6.cell? ⟨b,1,none⟩=some (.slice pm H cm)) (O:w6.cell? ⟨c,0,none⟩=some (Iv (fi:Int))) (J:w6.cell? ⟨X,0,none⟩=some (Iv (bi:Int))) (W:w6.cell? ⟨X,1,none⟩=some (.slice F B I)) (T:w6.cell? ⟨X,2,none⟩=some (.slice pa na ca)) (CB:Hid (∀ wx,Below w6.heap.size w6 wx->Calls prog 189 #[Pv c 0,.agg #[.slice pm H cm],Iv (fi:Int),.agg #[Iv (bi:Int),.slice F B I,.slice pa na ca]] wx fun e w'=>QbH wx o e w'))
 (a:Act) (m:Nat) (hn:a.tmps.size=m) (z:21<=m) (P:a.tmps.getD 0 undef=Pv b 0) (l:a.tmps.getD 1 undef=Pv c 0) (h5:a.tmps.getD 5 undef=Pv X 0)
 (U:∀ ch a' w',a'.defers=a.defers->(fun ch w=>ch=stuckP/\o=none/\Below w6.heap.size w6 w) ch w'->Q (.panic ch) a' w')
 (hend:∀ ops vs w',vs 20=Pv c 0->(Qfu w6 o) (vs 19) w'->Below w6.heap.size w6 w'->wpList prog ops Q (QaI 15 ((Tryz.f132.body.bind (Qf 1)).getD .skip)) (QC a vs [6,7,8,9,10,11,12,13,14,15,16,17,18,19,20]) w') :
 Code.wp prog ((Tryz.f132.body.bind (Qf 1)).getD .skip) Q a w6:=by
 conv=>arg 2;whnf
 refine Zf 15 (Qn5 w6 o b c X fi bi H cm B I na ca pm F pa) (fun w=>Below w6.heap.size w6 w) (fun w w'=>Below w.heap.size w w') (fun ch w=>ch=stuckP/\o=none/\Below w6.heap.size w6 w) U (outs:=[0,1,5]) (gs:=[]) (bs:=[true,true,true,true,true,true,true,true,true,true,true,true,true,true,true]) (by kernel_rfl) (n:=21) hn z (by kernel_rfl) (by kernel_rfl) ?hR ?hG (Qh Zr 1) ⟨P,l,h5,Y⟩ ?hA ?hend
 case hR =>
  intro t v w w' E h;unfold Qn5 at h |-;split at h
  ·rename_i p i
   simp only[List.lookup_cons,List.lookup_nil] at i
   split at i
   ·cases i;exact h.below E
   ·split at i
    ·cases i;exact h.below E
    ·split at i
     ·cases i;exact h.below E
     ·cases i
  ·exact h
 case hG=>exact Y
 case hend=>exact fun ops vs w' d k=>hend ops vs w' (k 20 (by kernel_rfl)) (k 19 (by kernel_rfl)) d
 case hA =>
  repeat
   refine⟨fun a w d k K y=>?_,?_⟩
   focus first
    | obtain⟨f,-⟩:=k
      conv at f=>whnf;rhs;whnf
      have c0:=Qn M d;have N:=Qn O d;have c2:=Qn J d;have V:=Qn W d;have S:=Qn T d;go_simp;exact y _ _ Zr d Z
    | obtain⟨f,-⟩:=k
      have f:(QcZ w6 o) (a.tmps.getD 17 undef) w:=f;generalize D:a.tmps.getD 17 undef=A at f;obtain⟨u,x,q,r,j,rfl,l,s,g⟩:=f
      go_simp;exact y _ _ Zr d ⟨u,x,q,r,j,Z,l,s,g⟩
    | obtain⟨f,-⟩:=k
      have f:(QcZ w6 o) (a.tmps.getD 18 undef) w:=f;generalize D:a.tmps.getD 18 undef=A at f;obtain⟨u,x,q,r,j,rfl,l,s,g⟩:=f
      have c0:=Qa g.1 0 _ Z;have N:=Qa g.1 1 _ Z;have c2:=Qa g.1 2 _ Z;have V:=Qa g.1 3 _ Z;have S:=Qa g.1 4 _ Z;go_simp;exact y _ _ Zr d ⟨u,q,r,j,Z,s,g.2⟩
    | obtain⟨f,R,L,k3,-⟩:=k
      conv at f=>whnf;rhs;whnf
      conv at R=>whnf;rhs;whnf
      conv at L=>whnf;rhs;whnf
      conv at k3=>whnf;rhs;whnf
      go_simp;refine Xm (CB.out w d) ?_;rintro r7 w7 G;obtain⟨C,G⟩:=G.split
      rcases G with ⟨u,x,q,r,j,rfl,l,s,g⟩|⟨j,rfl⟩
      rotate_left
      ·exact⟨_,Z,Z,j,d.trans (C.mono d.size)⟩
      go_simp;exact y _ _ C (d.trans (C.mono d.size)) ⟨u,x,q,r,j,Z,Zt d.size l,Zt d.size s,g⟩
  trivial
section
variable {w w' w2:World}{b most n:Nat}{m:List (MFunc 6)}{M M' N:IM}{sc sa:Int}{g g1:MG}{e:Ending}
theorem QkQ {w:World}{a0 g i j k:Value}(h:w.heap[c]?=some (.cells #[a0,g,i,j,k] 100 (0,0))) (b d a f e:Value) :
 (((((w.setCell ⟨c,0,none⟩ b).setCell ⟨c,1,none⟩ d).setCell ⟨c,2,none⟩ a).setCell ⟨c,3,none⟩ f).setCell ⟨c,4,none⟩ e).heap[c]?=some (.cells #[b,d,a,f,e] 100 (0,0)):=by
 have:=Qm (Qm (Qm (Qm (Qm h 0 b) 1 d) 2 a) 3 f) 4 e
 simpa using this
theorem Qji (S:MAt w b most m M sc sa g) (I:Qat n M){fn:MFunc 6}{bl:MBlock 6}{t:MTo}(hf:m[M.top.f]?=some fn) (o:t.block=(bi:Int)) (hb:fn.blocks[bi]?=some bl) (hs:m.length<=1000/\fn.blocks.length<=1000/\bl.params.length<=1000)
  {y:Option Addr} {z:Nat} (hR:intsL.In w Q2 t.regs [.slice y t.regs.length z]) (hA:intsL.In w Q2 t.args [.slice pa t.args.length ca]) (hn:t.regs.length<=1000/\t.args.length<=1000) :
 Calls prog 132 #[Pv b 0,Pv g.t.c 0,.agg #[Iv t.block,.slice y t.regs.length z,.slice pa t.args.length ca]] w fun e w'=>Qo g w b most m M sc sa (IM.to fn M t) e w':=by
 have E:=Qb (QmA (M:=M) (t:=t) (bl:=bl) (fn:=fn) (by rw[o];exact hb));generalize IM.to fn M t=U at E |-;rw[o]
 have j:=Qb (Zb w (.cells #[Iv (bi:Int),.slice y t.regs.length z,.slice pa t.args.length ca] 82));have C:=Qb (Qe w #[Iv (bi:Int),.slice y t.regs.length z,.slice pa t.args.length ca] 82);have G:=Qb S;have J:=Qb (S.below j.out)
 have F:Hid (∀ h,Below w.heap.size w h->Calls prog 189 #[Pv g.t.c 0,.agg #[.slice g.pm m.length g.cm],Iv (M.top.f:Int),.agg #[Iv (bi:Int),.slice y t.regs.length z,.slice pa t.args.length ca]] h fun e w'=>QbH h (begunO M.top M.top.f t bl) e w') :=
  fun h D=>Qea (S.top.below D) (by have:=I.len;omega) I.regs (Ya S.mod D) hf hb hs o (Ya hR D) (Ya hA D) hn
 clear S I hf hb hs hR hA hn o;go_enter func132,ntmps132
 go_upto_region 1 with fail
 generalize w.alloc (.cells #[Iv (bi:Int),.slice y t.regs.length z,.slice pa t.args.length ca] 82)=O at j C J |-;generalize hX:w.heap.size=X at C |-;have V:=Qa C.out 0 _ Z;have t1:=Qa C.out 1 _ Z;have t2:=Qa C.out 2 _ Z;have q1:O.cell? ⟨b,1,none⟩=some (.slice g.pm m.length g.cm):=Qa J.out.box 1 _ Z;have f0:=Qa J.out.top.1 0 _ Z;have T:Hid (∀ h,Below O.heap.size O h->Calls prog 189 #[Pv g.t.c 0,.agg #[.slice g.pm m.length g.cm],Iv (M.top.f:Int),.agg #[Iv (bi:Int),.slice y t.regs.length z,.slice pa t.args.length ca]] h fun e w'=>QbH h (begunO M.top M.top.f t bl) e w'):=fun h D=>F.out h (j.out.trans (D.mono j.out.size));generalize begunO M.top M.top.f t bl=oo at E T;clear F;refine ij1 q1 f0 V t1 t2 T _ _ Z (Xg (by kernel_rfl)) Z Z Z ?_ ?_
 ·rintro ch a' w9 N ⟨rfl,L,b9⟩;refine⟨N,?_⟩
  rw[E.out,L]
  exact Qo.stuck (XTo.same G.out (j.out.trans (b9.mono j.out.size)))
 ·rintro P vs K s ⟨l,H,A,hv,u,W,q⟩ b5;show wpList _ P _ [_] (QC _ vs [6,7,8,9,10,11,12,13,14,15,16,17,18,19,20]) K;simp only[QC,Act.put,List.setIfInBounds_toArray,List.set_cons_zero,List.set_cons_succ,s,u]
  have B:=Qb (j.out.trans (b5.mono j.out.size));have E2:Hid (U=some { M with top:=l }):=by show _=_;rw[E.out,hv]
  have a:=Qb (G.out.top.below B.out);have Q:w.heap.size<=H:=Zt j.out.size W
  have R:Hid (XTo g w (((((K.setCell ⟨g.t.c,0,none⟩ (Iv l.f)).setCell ⟨g.t.c,1,none⟩ (Iv l.b)).setCell ⟨g.t.c,2,none⟩ (Iv l.i)).setCell ⟨g.t.c,3,none⟩ (Iv l.r.length)).setCell ⟨g.t.c,4,none⟩ (.slice (some ⟨H,0,none⟩) A A)) b most m { M with top:=l } sc sa):=by
   have aa:=XC G.out.top.1
   have d:∀ k,k≠g.t.c->(((((K.setCell ⟨g.t.c,0,none⟩ (Iv l.f)).setCell ⟨g.t.c,1,none⟩ (Iv l.b)).setCell ⟨g.t.c,2,none⟩ (Iv l.i)).setCell ⟨g.t.c,3,none⟩ (Iv l.r.length)).setCell ⟨g.t.c,4,none⟩ (.slice (some ⟨H,0,none⟩) A A)).heap[k]?=K.heap[k]?:=fun k p=>by
    rw[Xd _ _ _ _ p,Xd _ _ _ _ p,Xd _ _ _ _ p,Xd _ _ _ _ p,Xd _ _ _ _ p]
   refine G.out.setTop (v:=.slice (some ⟨H,0,none⟩) A A) B.out.os B.out.tape B.out.output (by have:=B.out.size;simp;omega) (fun k p h1 h2=>(d k h1).trans (B.out.block k p)) ⟨QkQ a.out.1 _ _ _ _ _,?_⟩ (fun k p=>.inr (by rw[ownBlock_slice] at p;omega));exact q.keep (fun x hx=>d x (by rw[ownBlock_slice] at hx;omega))
  have c0:=Qa a.out.1 0 _ Z;have c1:=Qa a.out.1 1 _ Z;have c2:=Qa a.out.1 2 _ Z;have c3:=Qa a.out.1 3 _ Z;have c4:=Qa a.out.1 4 _ Z;have z0:=Qd a.out.1 0;have z1:=Qd a.out.1 1;have z2:=Qd a.out.1 2;have z3:=Qd a.out.1 3;have z4:=Qd a.out.1 4;obtain⟨va,vd,ev⟩:=Qba G.out.top.2
  rw[ev] at c4
  clear s u hv W q b5 E T V t1 t2 q1 f0 J j C a Q hX;go_wp2
  exact Xz (v:=.tuple #[]) (by simp[results,results132,go_sem]) Z (by rw[E2.out];exact Qo.go R.out)
end
def Qbl (g:MG) (w:World) (b most:Nat) (m:List (MFunc 6)) (M:IM) (sc sa:Int) (r:Option IM) (e:Ending) (w':World):Prop:=match r with
 | none=>e=.panicked stuckP/\XTo g w w' b most m M sc sa
 | some M'=>(e=.returned (.tuple #[])/\∃ g',MAt w' b most m M' sc sa g'/\QZ g.A g'.A w w'/\g'.fs=g.t::g.fs/\M'.rest=M.top::M.rest)\/(∃ N k,M'=N.over k/\e=.panicked (Qld k)/\XTo g w w' b most m N sc sa)
theorem fInfo:∃ i,prog.info? 97=some i/\i.zero=some (.pointer none)/\i.size=1/\i.bytes=8:=by
 have h:(prog.info? 97).map (fun i=>(i.zero,i.size,i.bytes))=some (some (.pointer none),1,8):=by kernel_rfl
 cases e:prog.info? 97 with
 | none=>rw[e] at h;cases h
 | some i =>
   rw[e] at h
   simp only[Option.map_some,Option.some.injEq,Prod.mk.injEq] at h
   exact⟨i,Z,h.1,h.2.1,h.2.2⟩
theorem fUnder:prog.underlying 50=some (.slice 97):=by kernel_rfl
section
variable {w w' w2:World}{b most n:Nat}{m:List (MFunc 6)}{M M' N:IM}{sc sa:Int}{g g1:MG}{e:Ending}
theorem QjE (S:MAt w b most m M sc sa g) (I:Qat n M) (hd:M.rest.length<=39){x:Qx}(a:IP)(l:x.k=(k:Int)){fn:MFunc 6}{bl:MBlock 6}(hf:m[k]?=some fn) (hb:fn.blocks[0]?=some bl) (N:bl.regs=fn.regs) (V:bl.params=fn.params) (hs:m.length<=1000/\fn.blocks.length<=1000/\bl.params.length<=1000)
  (hR:intsL.In w Q2 x.regs [.slice a.pR x.regs.length a.cR]) (hA:intsL.In w Q2 x.args [.slice a.pA x.args.length a.cA]) (hn:x.regs.length<=1000/\x.args.length<=1000) :
 Calls prog 148 #[Pv b 0,Pv g.t.c 0,.agg (Zc x a)] w fun e w'=>Qbl g w b most m M sc sa (IM.call m M x) e w':=by
 obtain⟨i0,hi,ad,ac,ab⟩:=fInfo
 have E:=Qb (Qlv (M:=M) (m:=m) l hf N V);generalize IM.call m M x=p at E |-;have d:=Qb (Zb w (.cells (Zc x a) 78));have A:=Qb (Qe w (Zc x a) 78);have O:=Qb S;have S1:=Qb (S.below d.out)
 have K:Hid (∀ f,Below w.heap.size w f->Calls prog 189 #[Pv g.t.c 0,.agg #[.slice g.pm m.length g.cm],Iv (k:Int),.agg #[Iv 0,.slice a.pR x.regs.length a.cR,.slice a.pA x.args.length a.cA]] f fun e w'=>QbH f (begunO M.top k ⟨0,x.regs,x.args⟩ bl) e w') :=
  fun f y=>Qea (t:=⟨0,x.regs,x.args⟩) (bi:=0) (S.top.below y) (by have:=I.len;omega) I.regs (Ya S.mod y) hf hb hs Z (Ya hR y) (Ya hA y) hn
 have HK:=Qb l;clear S I hf hb hs hR hA hn N V l;go_enter func148,ntmps148
 go_upto_region 1 with fail
 generalize w.alloc (.cells (Zc x a) 78)=r at d A S1 |-;generalize hX:w.heap.size=X at A |-;have x4:r.cell? ⟨X,4,none⟩=some (Iv x.k):=Qa A.out 4 _ Z;have x6:r.cell? ⟨X,6,none⟩=some (.slice a.pR x.regs.length a.cR):=Qa A.out 6 _ Z;have x7:r.cell? ⟨X,7,none⟩=some (.slice a.pA x.args.length a.cA):=Qa A.out 7 _ Z;rw[HK.out] at x4
 have q1:r.cell? ⟨b,1,none⟩=some (.slice g.pm m.length g.cm):=Qa S1.out.box 1 _ Z;have CB:Hid (∀ f,Below r.heap.size r f->Calls prog 189 #[Pv g.t.c 0,.agg #[.slice g.pm m.length g.cm],Iv (k:Int),.agg #[Iv 0,.slice a.pR x.regs.length a.cR,.slice a.pA x.args.length a.cA]] f fun e w'=>QbH f (begunO M.top k ⟨0,x.regs,x.args⟩ bl) e w'):=fun f y=>K.out f (d.out.trans (y.mono d.out.size));generalize begunO M.top k ⟨0,x.regs,x.args⟩ bl=oo at E CB;clear K;refine ic1 (bi:=0) q1 x4 x6 x7 CB _ _ Z (Xg (by kernel_rfl)) Z Z Z ?_ ?_
 ·rintro ch a' w9 W ⟨rfl,aa,b9⟩;refine⟨W,?_⟩
  rw[E.out,aa]
  exact⟨Z,XTo.same O.out (d.out.trans (b9.mono d.out.size))⟩
 ·rintro vs s ⟨fr,G,gx,n5,hv,F,J,L,T⟩ b5;simp only[QC,Act.put,List.setIfInBounds_toArray,List.set_cons_zero,List.set_cons_succ,F]
  have Q:=Qb (d.out.trans (b5.mono d.out.size));have P:Hid (p=if M.rest.length+1=40 then some (M.over 5) else some { M with top:=fr,rest:=M.top::M.rest }):=by show _=_;rw[E.out,hv]
  have D:=Qb (O.out.below Q.out);have T:=Qb T;have C:Hid (w.heap.size<=G/\w.heap.size<=gx):=⟨Zt d.out.size J,Zt d.out.size L⟩;obtain⟨gc,ag,ev,ae,-⟩:=D.out.callsForm
  have q4:s.cell? ⟨b,4,none⟩=some g.vc:=Qa D.out.box 4 _ Z;rw[ev] at q4
  clear F hv J L b5 E CB x4 x6 x7 q1 S1 d A HK hX;by_cases i:M.rest.length+1=40
  ·have E3:Hid (p=some (M.over 5)):=by show _=_;rw[P.out,Xs i]
   have d1:decide (((M.rest.length+1:Nat):Int)<40)=false:=Xu (by omega);clear P i;generalize M.rest.length+1=nr at *;go_wp2_with fail
   refine(QaS _ _).mono ?_
   rintro e' w' ⟨rfl,H⟩;subst H;exact⟨Z,by rw[E3.out];exact .inr ⟨M,5,Z,Z,XTo.same O.out Q.out⟩⟩
  ·have E3:Hid (p=some { M with top:=fr,rest:=M.top::M.rest }):=by show _=_;rw[P.out,Xr i]
   have d1:decide (((M.rest.length+1:Nat):Int)<40)=true:=Xt (by omega);have z:=Zb s (.cells #[Pv G 0] 97);have U:=Qb (D.out.below z).calls;have HW:=Qb (QkM s [Pv G 0] 97);have HZ:Hid ((s.alloc (.cells #[Pv G 0] 97)).heap.size=s.heap.size+1):=by show _=_;simp
   have h:=Qb (fun v9 w9=>O.out.pushFr (v9:=v9) (w9:=w9) (Q.out.trans (z.mono Q.out.size)) (T.out.below z) C.out.1 (fun k l=>by rw[ownBlock_slice] at l;have:=C.out.2;omega));have j:=Qb (D.out.below z).box;have q:=Qb (fun x=>(D.out.below z).callsNe (x:=x));clear P i z;rw[ev] at U h q
   obtain⟨xs,B⟩:∃ xs,Qa4 (g.t::g.fs)=xs:=⟨_,Z⟩
   rw[B] at U h
   clear B;have HD:=Qb hd;have af:M.rest.length+1<=100:=by omega
   clear hd;generalize ah:M.rest.length+1=nr at *;go_upto_region 3 with (go_at_call 84;refine(Qbd _ _).mono ?_;rintro e' w' ⟨rfl,H⟩;have H:=H.symm;subst H)
   go_wp2_with (at_builtin;refine ZL _ Z _ _ 50 Z 97 i0 (.pointer none) 1 8 fUnder hi ad ac ab Z (by decide) _ _ _ Z U.out ⟨s.heap.size,0,none⟩ 1 1 [Pv G 0] Z Z HW.out (by intro u hu;simp at hu;subst hu;rfl) (by unfold maxLen;omega) (by omega) ?_)
   intro v9 w9 r1 r2 r3;have R:=Qb (h.out v9 w9 r1 r2 (fun k l=>(r3 k l).imp id (fun e=>by rw[HZ.out];exact e)));have o:=(r2.block b (XC j.out) (fun e=>(q.out b e.symm).1 Z)).trans j.out;have c9:w9.cell? ⟨b,4,none⟩=some g.vc:=Qa o 4 _ Z;have z9:=Qd o 4;obtain⟨a9,d9,rfl⟩:=Qba r1
   clear r1 r2 r3 h o j U q4 HW q T;go_wp2
   exact Xz (v:=.tuple #[]) (by simp[results,results148,go_sem]) Z (by
    rw[E3.out]
    obtain⟨g',N,V,h3⟩:=R.out
    exact .inl ⟨Z,g',N,V,h3,Z⟩)
end
def numsOf:List Qk->Option (List Int)
 | []=>some []
 | x::l=>if x.kind=1 then (match numsOf l with
   | none=>none
   | some ns=>some (x.n::ns)) else none
theorem Qec (v:List Qk):∀ {l:List Int}{xs:List Qk},Qq v l=some xs->Qax v l=numsOf xs
 | [],xs,h=>by simp[Qq] at h;subst h;rfl
 | k::l,xs,h=>by
   simp only[Qq] at h
   cases hk:QE v k with
   | none=>rw[hk] at h;cases h
   | some x =>
     rw[hk] at h
     simp only at h
     cases hl:Qq v l with
     | none=>rw[hl] at h;cases h
     | some zs =>
       rw[hl] at h
       simp at h
       subst h;have b:=Qec v hl;unfold Qax numsOf QB;rw[hk]
       simp only
       by_cases a:x.kind=1
       ·rw[Xs a,Xs a,b];cases numsOf zs<;>rfl
       ·rw[Xr a,Xr a]
theorem numsOf_all:∀ {l:List Qk},(∀ x∈l,x.kind=1)->numsOf l=some (l.map (·.n))
 | [],_=>rfl
 | x::l,h=>by
   unfold numsOf;rw[Xs (h x (by simp)),numsOf_all (fun y a=>h y (by simp[a]))]
   rfl
theorem numsOf_no:∀ {l:List Qk}{x:Qk},x∈l->x.kind≠1->numsOf l=none
 | [],x,h,_=>by simp at h
 | y::l,x,h,hx=>by
   unfold numsOf;rcases List.mem_cons.1 h with rfl | h
   ·rw[Xr hx]
   ·by_cases a:y.kind=1
    ·rw[Xs a,numsOf_no h hx]
    ·rw[Xr a]
def QmY (w:World) (o:Option (List Int)) (n:Nat) (e:Ending) (w':World):Prop:=Below w.heap.size w w'/\match o with
 | none=>e=.panicked stuckP
 | some ns=>∃ g,e=.returned (.slice (some ⟨g,0,none⟩) n n)/\intsL.In w' (fun x=>w.heap.size<=x/\∃ c,w'.heap[x]?=some (.cells c 2 (0,0))) ns [.slice (some ⟨g,0,none⟩) n n]
theorem QnF (n:Nat) (hn:n<=1099511627776) (w:World):(Instr.makeSlice 25 (Iv (n:Int)) (Iv (n:Int))).run prog w=.ok (.slice (some ⟨w.heap.size,0,none⟩) n n) (w.alloc (.cells (madeCells (#[Iv 0]:Array Value) n) 2)):=by
 obtain⟨d,e,b,a,c⟩:=iInfo64
 exact run_make_row (P:=prog) 25 2 d (Iv 0) iUnder64 e b a Z .i64 .i64 n (by rw[c];omega) (by omega) w
def numCell (l:List Qk) (q:Nat) (i:Nat):Value:=if i<q then Iv (l.getD i noV).n else Iv 0
theorem QmT {w:World}{l:List Qk}(e:l.length=n) (h:w.rowIs g 2 n (numCell l n)) (f:O g) (a:∀ x∈l,ZE x.n):intsL.In w O (l.map (·.n)) [.slice (some ⟨g,0,none⟩) n n]:=by
 refine⟨some ⟨g,0,none⟩,n,by rw[XN,e],fun i x c=>?_⟩
 rw[XS] at c
 obtain⟨y,b,rfl⟩:=Option.map_eq_some_iff.1 c
 have k:=(Zi b).1;refine⟨g,0,[Iv y.n],Z,f,h.lt,fun j d=>?_,Z,a y (Zm b)⟩
 have d:j<1:=d
 have:j=0:=by omega
 subst this;show w.cell? ⟨g,0+i*1+0,none⟩=_;rw[XK,XL,Nat.add_zero,h.cell (by omega)]
 unfold numCell;rw[Xs (by omega)]
 simp[List.getD,b]
section
variable {w:World}
theorem Qe7 {K:Nat}{l:List Qk}(hn:l.length=n) (hb:n<=1000000) (P:w.rowIs K 211 (n*4) (Zu l)) (s:∀ x∈l,ZE x.n) :
 Calls prog 191 #[.slice (some ⟨K,0,none⟩) n n] w fun e w'=>QmY w (numsOf l) n e w':=by
 have C:=QnF n (by omega) w;have J:=Qb (World.rowIs_made w (Iv 0) n 2);have B0:=Qb (Zb w (.cells (madeCells (#[Iv 0]:Array Value) n) 2));have HL:=Qb P;have A:=Qb hn;have F:=Qb s;clear P hn s;go_enter func191,ntmps191
 go_upto_region 2 with fail
 generalize w.alloc (.cells (madeCells (#[Iv 0]:Array Value) n) 2)=w1 at J B0 |-;clear C;obtain⟨g,R⟩:∃ g,g=w.heap.size:=⟨_,Yz⟩
 have N:Hid (w.heap.size<=g):=by show _<=_;omega
 have aa:Hid (K≠g):=by show _≠_;have:=HL.out.lt;omega
 rw[<-R] at J |-
 clear R;go_wp2_with fail
 go_loopw [11] (fun i wr=>∃ q:Nat,q<=n/\i=Iv q/\wr.rowIs g 2 n (numCell l q)/\Below w.heap.size w wr/\∀ j x,j<q->l[j]?=some x->x.kind=1) (fun i _=>n - (intOf i).toNat)
 case atStart=>exact⟨0,Xb _,Yz,J.out.congr (fun i _=>by unfold numCell;rw[Xr (by omega)]),B0.out,fun j x z=>by omega⟩
 case round =>
  obtain⟨q,hq,rfl,hR,hB,U⟩:=hrel
  have o:=Qb hR;have a:=Qb hB;have HZ:=Qb U;clear hR hB U;by_cases m:q<n
  ·have Q:(q:Int)<n:=by omega
   obtain⟨x,u⟩:∃ x,l[q]?=some x:=⟨_,Zg (by rw[A.out];exact m)⟩
   have b:=HL.out;rw[<-A.out] at b
   obtain⟨v,O,V,p3⟩:=QaH b u
   have X:=Qn v a.out;have T:=Qn O a.out;have c2:=Qn V a.out;have W:=Qn p3 a.out;have G:=Qb u;obtain⟨k,I,M,d⟩:=x
   simp only at X T c2 W
   clear v O V p3 u b;have t:=Qb (Zb wr (.cells #[Iv k,Iv I,Iv M,Iv d] 211));have Y:=Qb (Qe wr #[Iv k,Iv I,Iv M,Iv d] 211);go_upto_region 5 with fail
   generalize wr.alloc (.cells #[Iv k,Iv I,Iv M,Iv d] 211)=w3 at t Y |-;generalize wr.heap.size=Z at Y |-;have y0:=Qa Y.out 0 _ Yz;have y3:=Qa Y.out 3 _ Yz;clear X T c2 W;by_cases f:k=1
   ·have D:(k==1)=true:=by simpa using f
    have B:=o.out.of_block (t.out.block g o.out.lt);have v:=B.cell m;have f0:=B.frozen q
    have PR:Hid ((w3.setCell ⟨g,q,none⟩ (Iv d)).rowIs g 2 n (numCell l (q+1))):=(B.set q (Iv d)).congr (fun i hi=>by
     unfold numCell;by_cases e:i=q
     ·subst e;rw[Xs Yz,Xs (by omega)];simp[List.getD,G.out]
     ·rw[Xr e]
      by_cases S:i<q
      ·rw[Xs S,Xs (by omega)]
      ·rw[Xr S,Xr (by omega)])
    have PB:Hid (Below w.heap.size w (w3.setCell ⟨g,q,none⟩ (Iv d))):=(a.out.trans (t.out.mono a.out.size)).setCell (p:=⟨g,q,none⟩) N.out _;have HK:=Qb f;clear f B o a t Y;generalize numCell l q q=ab at v;go_wp2_with (go_at_call 138;refine(ZM _).mono ?_;rintro e' w' ⟨rfl,r⟩;have r:=r.symm;subst r)
    go_roundw
    case rel =>
     refine⟨q+1,by omega,by go_num,PR.out,PB.out,fun j y z L=>?_⟩
     rcases Nat.lt_or_ge j q with h | h
     ·exact HZ.out j y h L
     ·have:j=q:=by omega
      subst this;rw[G.out] at L
      cases L
      exact HK.out
    case measure=>simp[intOf];omega
   ·have D:(k==1)=false:=by simpa using f
    have E:Hid (numsOf l=none):=numsOf_no (Zm G.out) f;clear f;go_wp2_with fail
    refine(ZD _).mono ?_
    rintro e' w' ⟨rfl,r⟩;subst r;exact⟨Yz,a.out.trans (t.out.mono a.out.size),by rw[E.out]⟩
  ·have H:q=n:=by omega
   subst H
   have E:Hid (numsOf l=some (l.map (·.n))):=numsOf_all (fun x u=>by
    obtain⟨j,z⟩:=List.getElem?_of_mem u
    exact HZ.out j x (by have:=(Zi z).1;have:=A.out;omega) z)
   go_wp2
   go_ret;exact⟨a.out,by rw[E.out];exact⟨g,Yz,QmT A.out o.out ⟨N.out,by obtain⟨c,hc,_⟩:=o.out;exact⟨c,hc⟩⟩ F.out⟩⟩
end
def QdG (g:MG) (w:World) (b most:Nat) (m:List (MFunc 6)) (M:IM) (sc sa:Int) (r:Option IM) (e:Ending) (w':World):Prop:=match r with
 | none=>e=.panicked stuckP/\XTo g w w' b most m M sc sa
 | some M'=>(e=.returned (.tuple #[])/\XGo g w w' b most m M' sc sa)\/(∃ N k,M'=N.over k/\e=.panicked (Qld k)/\XTo g w w' b most m N sc sa)
theorem Qo.toEnd {g:MG}{w w':World}{b most:Nat}{m:List (MFunc 6)}{M:IM}{c a:Int}{r:Option IM}{e:Ending}(h:Qo g w b most m M c a r e w'):QdG g w b most m M c a r e w':=by
 cases r with
 | none=>exact h
 | some M'=>exact h.imp (fun k=>⟨k.1,k.2.go⟩) id
def IM.ret (fn:MFunc 6) (M:IM) (args:List Int):Option IM:=match Qq M.top.v args with
 | none=>none
 | some v=>if v.length=fn.results.length then (match M.rest with
  | d::rest=>some (IM.push { M with top:=d,rest:=rest } v)
  | []=>match Qax M.top.v args with
    | none=>none
    | some n=>some (IM.over { M with back:=n } 0))
  else none
def QoO (b c na ca g1 o1 nm cm fi nr cr:Nat) (pa pr:Option Addr) (t:Tmp) (v:Value) (w:World):Prop :=
 v=(([(0,Pv b 0),(1,Pv c 0),(2,.slice pa na ca),(7,.slice pa na ca),(8,Iv (na:Int)),(9,Pv b 0),(10,Pv b 0),(11,Pv b 1),(12,Pv b 1),(13,.slice (some ⟨g1,o1,none⟩) nm cm),(14,Pv c 0),(15,Pv c 0),(16,Pv c 0),(17,Iv (fi:Int)),(18,Pv g1 (o1+fi*4)),(19,Pv g1 (o1+fi*4+2)),(20,.slice pr nr cr),(21,Iv (nr:Int)),(22,.bool ((na:Int)==(nr:Int)))]:List (Tmp × Value)).lookup t).getD undef
theorem iv0 {b l i k g q:Nat}{p:Option Addr}(r:w6.cell? ⟨b,1,none⟩=some (.slice (some ⟨l,i,none⟩) k cm)) (s:w6.cell? ⟨c,0,none⟩=some (Iv (fi:Int))) (x:w6.cell? ⟨l,i+fi*4+2,none⟩=some (.slice p g q)) (u:(fi:Int)<k)
 (a:Act) (m:Nat) (hn:a.tmps.size=m) (f:58<=m) (y:a.tmps.getD 0 undef=Pv b 0) (z:a.tmps.getD 1 undef=Pv c 0) (B:a.tmps.getD 2 undef=.slice pa na ca)
 (hend:∀ ops vs w',vs 22=.bool ((na:Int)==(g:Int))->Below w6.heap.size w6 w'->wpList prog ops Q (QaI 16 ((Tryz.f134.body.bind (Qf 0)).getD .skip)) (QC a vs [7,8,9,10,11,12,13,14,15,16,17,18,19,20,21,22]) w') :
 Code.wp prog ((Tryz.f134.body.bind (Qf 0)).getD .skip) Q a w6:=by
 conv=>arg 2;whnf
 refine Qj 16 (QoO b c na ca l i k cm fi g q pa p) (fun w=>Below w6.heap.size w6 w) (fun w w'=>Below w.heap.size w w') (outs:=[0,1,2]) (gs:=[]) (bs:=[true,true,true,true,true,true,true,true,true,true,true,true,true,true,true,true]) (by kernel_rfl) (n:=58) hn f (by kernel_rfl) (by kernel_rfl) ?hR ?hG (Qh Zr 1) ⟨y,z,B,Y⟩ ?hA ?hend
 case hR=>exact fun t v w w' _ h=>h
 case hG=>exact Y
 case hend=>exact fun ops vs w' d e=>hend ops vs w' (e 22 (by kernel_rfl)) d
 case hA =>
  repeat
   refine⟨fun a w d e K o=>?_,?_⟩
   focus first
    | obtain⟨j,-⟩:=e
      conv at j=>whnf;rhs;whnf
      have D:=Qn r d;have C:=Qn s d;have E:=Qn x d;go_simp;exact o _ _ Zr d Z
    | obtain⟨j,A,-⟩:=e
      conv at j=>whnf;rhs;whnf
      conv at A=>whnf;rhs;whnf
      go_simp;exact o _ _ Zr d Z
  trivial
def QoY (b gc k cap:Nat) (t:Tmp) (v:Value) (w:World):Prop :=
 v=(([(0,Pv b 0),(40,Pv b 0),(41,Pv b 0),(42,Pv b 0),(43,Pv b 4),(44,.slice (some ⟨gc,0,none⟩) (k+1) cap),(45,Pv b 0),(46,Pv b 0),(47,Pv b 4),(48,.slice (some ⟨gc,0,none⟩) (k+1) cap),(49,Iv ((k:Int)+1)),(50,Iv (k:Int)),(51,.slice (some ⟨gc,0,none⟩) k cap),(52,Pv b 0),(53,Pv b 4)]:List (Tmp × Value)).lookup t).getD undef
theorem iv5 {b i:Nat}(j:w6.cell? ⟨b,4,none⟩=some (.slice (some ⟨i,0,none⟩) (k+1) cap)) (c:k+1<=cap) (o:k<=1000)
 (a:Act) (m:Nat) (hn:a.tmps.size=m) (f:58<=m) (p:a.tmps.getD 0 undef=Pv b 0)
 (hend:∀ ops vs w',vs 51=.slice (some ⟨i,0,none⟩) k cap->vs 53=Pv b 4->Below w6.heap.size w6 w'->wpList prog ops Q (QaI 14 ((Tryz.f134.body.bind (Qf 5)).getD .skip)) (QC a vs [40,41,42,43,44,45,46,47,48,49,50,51,52,53]) w') :
 Code.wp prog ((Tryz.f134.body.bind (Qf 5)).getD .skip) Q a w6:=by
 conv=>arg 2;whnf
 refine Qj 14 (QoY b i k cap) (fun w=>Below w6.heap.size w6 w) (fun w w'=>Below w.heap.size w w') (outs:=[0]) (gs:=[]) (bs:=[true,true,true,true,true,true,true,true,true,true,true,true,true,true]) (by kernel_rfl) (n:=58) hn f (by kernel_rfl) (by kernel_rfl) ?hR ?hG (Qh Zr 1) ⟨p,Y⟩ ?hA ?hend
 case hR=>exact fun t v w w' _ h=>h
 case hG=>exact Y
 case hend=>exact fun ops vs w' d c=>hend ops vs w' (c 51 (by kernel_rfl)) (c 53 (by kernel_rfl)) d
 case hA =>
  repeat
   refine⟨fun a w d c K g=>?_,?_⟩
   focus first
    | obtain⟨e,-⟩:=c
      conv at e=>whnf;rhs;whnf
      have u:=Qn j d;go_simp;exact g _ _ Zr d Z
    | obtain⟨e,q,-⟩:=c
      conv at e=>whnf;rhs;whnf
      conv at q=>whnf;rhs;whnf
      have l:(0:Int)<=k:=by omega
      have r:(k:Int)<=cap:=by omega
      go_simp;exact g _ _ Zr d Z
    | obtain⟨e,-⟩:=c
      conv at e=>whnf;rhs;whnf
      have s:(k:Int)+1 - 1=k:=by omega
      go_simp;refine g _ _ Zr d ?_;show Value.int _ _=Value.int _ _;congr 1
      rw[IntKind.wrap_i64]
      omega
  trivial
section
variable {w w' w2:World}{b most n:Nat}{m:List (MFunc 6)}{M M' N:IM}{sc sa:Int}{g g1:MG}{e:Ending}
theorem QkL {w:World}{g n:Nat}{l:List Qk}(hn:l.length=n) (h:w.rowIs g 211 (n*4) (Zu l)):∀ (j:Nat) (u:Value),(vFlat l)[j]?=some u->w.cell? ((⟨g,0,none⟩:Addr).add j)=some u:=by
 intro j u b;have c:=(Zi b).1;rw[vFlat_len,hn] at c
 rw[Addr.add_lit,XK,h.cell c,<-b]
 have a:l[j / 4]?=some l[j / 4]:=Zg (by omega)
 have:=vFlat_at l (j / 4) (j%4) _ a (by omega)
 rw[show j / 4*4+j%4=j by omega] at this
 rw[this]
 unfold Zu;simp[List.getD,a]
theorem Qjv (S:MAt w b most m M sc sa g) (I:Qat n M) (hd:M.rest.length<=39) (ai:∀ d∈M.rest,d.v.length+8<=1000000){fn:MFunc 6}(hf:m[M.top.f]?=some fn) (hs:m.length<=1000/\fn.results.length<=1000)
  {args:List Int}   (hA:intsL.In w Q2 args [.slice pa args.length ca]) (hn:args.length<=8) :
 Calls prog 134 #[Pv b 0,Pv g.t.c 0,.slice pa args.length ca] w fun e w'=>QdG g w b most m M sc sa (IM.ret fn M args) e w':=by
 have E:=Qb (show IM.ret fn M args=match Qq M.top.v args with | none=>none | some v=>if v.length=fn.results.length then (match M.rest with | d::rest=>some (IM.push { M with top:=d,rest:=rest } v) | []=>match Qax M.top.v args with | none=>none | some n=>some (IM.over { M with back:=n } 0)) else none from Z);generalize IM.ret fn M args=C at E |-;obtain⟨g1,o1,f,e1,E1,am⟩:=QbU S.mod hf
 have r2:w.cell? ⟨g1,o1+M.top.f*4+2,none⟩=some (.slice f.pR fn.results.length f.cR):=E1 2 _ Z;have q1:w.cell? ⟨b,1,none⟩=some (.slice g.pm m.length g.cm):=Qa S.box 1 _ Z;rw[e1] at q1
 have f0:=Qa S.top.1 0 _ Z;have ay:=(Zi hf).1;have ab:(M.top.f:Int)<m.length:=by omega
 have o:=Qb S;have HI:=Qb I;have av:=Qb ai;have HA:=Qb hA;have CA:Hid (∀ A,Below w.heap.size w A->Calls prog 142 #[Pv g.t.c 0,.slice pa args.length ca] A fun e w'=>QcF A (Qq M.top.v args) args.length e w'):=fun A bx=>Qeq (S.top.below bx) (by have:=I.len;omega) Z (by omega) (Ya hA bx);clear S I ai hA am E1 e1 hf;go_enter func134,ntmps134
 go_upto_region 0 with fail
 refine iv0 q1 f0 r2 ab _ _ Z (Xg (by kernel_rfl)) Z Z Z ?_;rintro N vs w5 J b5;show wpList _ N _ [_] (QC _ vs [7,8,9,10,11,12,13,14,15,16,17,18,19,20,21,22]) w5;simp only[QC,Act.put,List.setIfInBounds_toArray,List.set_cons_zero,List.set_cons_succ,J]
 have X:=Qb b5;clear J b5 q1 f0 r2 ab;by_cases hr:args.length=fn.results.length
 rotate_left
 ·have d1:((args.length:Int)==(fn.results.length:Int))=false:=by simp;omega
  have r:Hid (C=none):=by
   show _=_;rw[E.out]
   cases u:Qq M.top.v args with
   | none=>rfl
   | some v=>simp only;rw[Xr (by rw[Zp _ _ u];exact hr)]
  rw[d1]
  go_wp2_with fail
  refine(ZD _).mono ?_
  rintro P w' ⟨rfl,hw⟩;subst hw;exact⟨Z,by rw[r.out];exact⟨Z,XTo.same o.out X.out⟩⟩
 have d1:((args.length:Int)==(fn.results.length:Int))=true:=by simp[hr]
 rw[d1]
 have HR:=Qb hr;clear d1 hr;go_upto_region 1 with (go_at_call 138;refine(ZM _).mono ?_;rintro P w' ⟨rfl,hw⟩;have hw:=hw.symm;subst hw)
 have C5:=Qb (CA.out w5 X.out);go_wp2_with fail
 refine C5.out.mono ?_;rintro P w6 h6;obtain⟨b6,h6⟩:=h6.split
 have F:=Qb (X.out.trans (b6.mono X.out.size));rcases h6 with ⟨s,V,u,rfl,ah,L⟩|⟨u,rfl⟩
 rotate_left
 ·exact⟨Z,by rw[E.out,u];exact⟨Z,XTo.same o.out F.out⟩⟩
 have Q:=Zp _ _ u;have S6:=Qb (o.out.below F.out);have i:=Qb L;have O:=Qb Q
 have r:Hid (C=match M.rest with | d::rest=>some (IM.push { M with top:=d,rest:=rest } s) | []=>match numsOf s with | none=>none | some n=>some (IM.over { M with back:=n } 0)):=by
  show _=_;rw[E.out,u]
  simp only
  rw[Xs (by rw[Q];exact HR.out),Qec _ u]
 have ac:Hid (∀ x∈s,ZE x.n):=by
  intro x T
  have:∀ {l:List Int} {D:List Qk},Qq M.top.v l=some D->∀ x∈D,x∈M.top.v:=by
   intro l
   induction l with
   | nil=>intro D h x T;simp[Qq] at h;subst h;simp at T
   | cons k l ih =>
     intro D h x T;simp only[Qq] at h
     cases p:QE M.top.v k with
     | none=>rw[p] at h;cases h
     | some y =>
       rw[p] at h
       simp only at h
       cases hl:Qq M.top.v l with
       | none=>rw[hl] at h;cases h
       | some zs =>
         rw[hl] at h
         simp at h
         subst h;rcases List.mem_cons.1 T with rfl | T
         ·exact Qbg p
         ·exact ih hl x T
  exact(HI.out.gd x (this u x T)).1.2.2.2
 have au:Hid (w.heap.size<=V):=Zt X.out.size ah;obtain⟨gc,cap,ev,ag,-⟩:=S6.out.callsForm
 have W:w6.cell? ⟨b,4,none⟩=some g.vc:=Qa S6.out.box 4 _ Z;rw[ev] at W
 clear u ah L b6 Q C5 CA E HR X
 cases hrest:M.rest with
 | nil =>
   rw[hrest] at W
   simp only[List.length_nil,Nat.zero_add] at W
   have r:Hid (C=match numsOf s with | none=>none | some n=>some (IM.over { M with back:=n } 0)):=by
    show _=_;rw[r.out]
    split
    ·rename_i h;rw[hrest] at h;cases h
    ·rfl
   have CN:=Qb (Qe7 O.out (by omega) i.out ac.out);go_upto_region 3 with fail
   go_wp2_with fail
   refine CN.out.mono ?_;rintro P z ⟨b7,G⟩;have U:=Qb (F.out.trans (b7.mono F.out.size))
   cases hno:numsOf s with
   | none =>
     rw[hno] at G r
     have G:P=.panicked stuckP:=G;subst G;exact⟨Z,by rw[r.out];exact⟨Z,XTo.same o.out U.out⟩⟩
   | some ns =>
     rw[hno] at G r
     have G:∃ g7,P=.returned (.slice (some ⟨g7,0,none⟩) args.length args.length)/\intsL.In z (fun x=>w6.heap.size<=x/\∃ c,z.heap[x]?=some (.cells c 2 (0,0))) ns [.slice (some ⟨g7,0,none⟩) args.length args.length]:=G;obtain⟨g7,rfl,I7⟩:=G
     have j:=Qb (o.out.below U.out);have c6:z.cell? ⟨b,6,none⟩=some g.vb:=Qa j.out.box 6 _ Z;have z6:=Qd j.out.box 6;have aq:=j.out.back;obtain⟨a0,ap,e0,-⟩:=aq
     have al:g.vb=.slice a0 M.back.length ap:=by simpa using e0
     rw[al] at c6
     have R:Hid (XTo g w (z.setCell ⟨b,6,none⟩ (.slice (some ⟨g7,0,none⟩) args.length args.length)) b most m { M with back:=ns } sc sa):=by
      refine XTo.then (o.out.stepB U.out) Z Z (j.out.reBox (M':={ M with back:=ns }) (sc':=sc) (sa':=sa) Z Z Z (by simp) (fun k p h1=>Xd _ _ _ _ h1) ⟨Z,Z,Z,Z⟩ (pi:=g.pi) (ci:=g.ci) (vb:=.slice (some ⟨g7,0,none⟩) args.length args.length) ⟨j.out.inp,j.out.inpC⟩ ?_ (by
       rw[Qm j.out.box 6 _]
       rfl))
      have ae:∀ k,w6.heap.size<=k->k≠b:=fun k p e=>by have:=XC S6.out.box;omega
      refine intsL.keep (fun k p hl=>Xd _ _ _ _ (ae k p.1)) (fun k p _=>⟨⟨fun hA=>?_,?_⟩,?_⟩) I7
      ·have:=o.out.lt k hA
       have:=F.out.size
       have:=p.1
       omega
      ·have h1:=o.out.low;have h2:=F.out.size;have h3:=p.1;show g.lo<=k;omega
      ·obtain⟨c,hc⟩:=p.2
       exact⟨c,(Xd _ _ _ _ (ae k p.1)).trans hc⟩
     clear CN W I7 j e0 b7 G;go_wp2
     exact⟨Z,by rw[r.out];exact .inr ⟨{ M with back:=ns },0,Z,Z,R.out⟩⟩
 | cons d rest =>
   have r:Hid (C=some (IM.push { M with top:=d,rest:=rest } s)):=by
    show _=_;rw[r.out]
    split
    ·rename_i h;rw[hrest] at h;cases h;rfl
    ·rename_i h;rw[hrest] at h;cases h
   have ad:M.rest.length=rest.length+1:=by rw[hrest];simp
   have ax:(((M.rest.length+1:Nat):Int)==1)=false:=by simp;omega
   have az:=av.out d (by rw[hrest];simp);have af:=Qb hrest;have aj:=Qb ev;clear hrest;generalize an:M.rest.length=kk at *;have aa:=Qb an;have ar:=Qb ad;clear ad;go_upto_region 5 with fail
   refine iv5 W ag (by omega) _ _ Z (Xg (by kernel_rfl)) Z ?_;rintro N aw z H K b7;show wpList _ N _ [_] (QC _ aw [40,41,42,43,44,45,46,47,48,49,50,51,52,53]) z;simp only[QC,Act.put,List.setIfInBounds_toArray,List.set_cons_zero,List.set_cons_succ,H,K]
   have U:=Qb (F.out.trans (b7.mono F.out.size));have j:=Qb (o.out.below U.out);have c4:z.cell? ⟨b,4,none⟩=some g.vc:=Qa j.out.box 4 _ Z;have z4:=Qd j.out.box 4;rw[aj.out] at c4
   have B:∃ y D,g.fs=y::D:=by
    have:=o.out.rows
    rw[af.out] at this
    cases hh:g.fs with
    | nil=>rw[hh] at this;simp at this
    | cons y D=>exact⟨y,D,Z⟩
   obtain⟨y,D,B⟩:=B
   have PP:=j.out.pop B af.out (a:=some ⟨gc,0,none⟩) (cap:=cap) (by rw[aj.out,aa.out]);rw[aa.out] at PP
   obtain⟨g8,S8,T8,t8⟩:=PP
   have S8:=Qb S8;have T8:=Qb ((o.out.stepB U.out).trans T8)
   have q:Hid ((z.setCell ⟨b,4,none⟩ (.slice (some ⟨gc,0,none⟩) kk cap)).rowIs V 211 (args.length*4) (Zu s)):=by
    have h1:=i.out.of_block (b7.block V i.out.lt);exact h1.of_block (Xd _ _ _ _ (fun (e:V=b)=>by have:=XC o.out.box;have:=au.out;omega))
   clear H K b7 j W F i t8 B;go_upto_region 6 with fail
   generalize z.setCell ⟨b,4,none⟩ (.slice (some ⟨gc,0,none⟩) kk cap)=w8 at S8 T8 q |-;have CT:=Qb (QcO S8.out (by show rest.length<=1000;have:=ar.out;omega));have CM:Hid (∀ A,Below w8.heap.size w8 A->Calls prog 144 #[Pv g8.t.c 0,.slice (some ⟨V,0,none⟩) args.length args.length] A fun e w'=>e=.returned (.tuple #[])/\XTo g8 A w' b most m (IM.push { M with top:=d,rest:=rest } s) sc sa):=fun A bx=>Z3 (S8.out.below bx) (l:=s) O.out (QkL O.out (q.out.of_block (bx.block V q.out.lt))) (by show d.v.length+args.length<=1000000;omega);clear c4 z4;go_wp2_with (go_at_call 85;refine CT.out.mono ?_;rintro P w9 ⟨rfl,b9⟩)
   refine(CM.out w9 b9).mono ?_
   rintro P ao ⟨rfl,ak⟩;have R:Hid (XGo g w ao b most m (IM.push { M with top:=d,rest:=rest } s) sc sa):=XGo.then (T8.out.trans (S8.out.stepB b9)) ak.go;clear ak CM CT b9;go_wp2
   exact Xz (v:=.tuple #[]) (by simp[results,results134,go_sem]) Z (by rw[r.out];exact .inl ⟨Z,R.out⟩)
end
def TRw (w:World) (O:Nat->Prop) (v:Value) (L:List (TT 6)):Prop :=
 ∃ xs,w.ownsRow 0 105 3 v L.length xs/\(∀ g,v.ownBlock=some g->O g)/\∀ i x,L[i]?=some x->(Lay.tt 6).In w (fun g=>¬ O g) x ((xs.drop (i*3)).take 3)
def TRd (w:World) (Q:Nat->Prop) (a:Option Addr) (L:List (TT 6)):Prop :=
 ∀ i t,L[i]?=some t->∃ g a' c',a=some ⟨g,0,none⟩/\w.cell? ⟨g,i*3,none⟩=some (Iv t.kind)/\w.cell? ⟨g,i*3+1,none⟩=some (Iv t.r)/\w.cell? ⟨g,i*3+2,none⟩=some (.slice a' t.len c')/\TIn w Q t a'/\t.ok
section
variable {w w':World}{O O':Nat->Prop}{v:Value}{L:List (TT 6)}
theorem TRw.keep (h:TRw w O v L) (hb:∀ k,k<w.heap.size->v.ownBlock=some k\/¬ O k->w'.heap[k]?=w.heap[k]?) (j:∀ k,v.ownBlock=some k->O' k) (q:∀ k,¬ O k->k<w.heap.size->¬ O' k):TRw w' O' v L:=by
 obtain⟨f,⟨n,l⟩,t,s⟩:=h
 refine⟨f,⟨n,?_⟩,j,fun i x o=>(Lay.tt 6).keep (fun k d b=>hb k b (.inr d)) (fun k d b=>q k d b) (s i x o)⟩
 rcases l with p | ⟨g,a,c,rfl,m,e,r⟩
 ·exact Or.inl p
 ·exact Or.inr ⟨g,a,c,Z,m,(hb g (XC e) (.inl Z)).trans e,r⟩
theorem TRw.lt (h:TRw w O v L)(a:v.ownBlock=some g):g<w.heap.size:=by
 obtain⟨f,⟨j,e⟩,k,l⟩:=h
 rcases e with ⟨rfl,_⟩|⟨i,b,d,rfl,_,c,r⟩
 ·simp[Value.ownBlock] at a
 ·simp[Value.ownBlock] at a;subst a;exact XC c
theorem TRw.block (h:TRw w O v L)(b:v.ownBlock=some g):∃ c,w.heap[g]?=some (.cells c 105 (0,0)):=by
 obtain⟨i,⟨k,f⟩,l,m⟩:=h
 rcases f with ⟨rfl,_⟩|⟨j,d,a,rfl,_,e,r⟩
 ·simp[Value.ownBlock] at b
 ·simp[Value.ownBlock] at b;subst b;exact⟨a,e⟩
theorem TRw.form (h:TRw w O v L):∃ a cap,v=.slice a L.length cap/\TRd w (fun g=>¬ O g) a L/\∃ xs,w.ownsRow 0 105 3 (.slice a L.length cap) L.length xs:=by
 obtain⟨xs,d,C,z⟩:=h
 obtain⟨B,n⟩:=id d
 rcases n with ⟨rfl,x⟩|⟨g,cap,k,rfl,_,o,E,A,D,q⟩
 ·have:L=[]:=Xf.1 x
  subst this;exact⟨none,0,Z,fun i t c=>by simp at c,xs,d⟩
 ·refine⟨some ⟨g,0,none⟩,cap,Z,fun i t c=>?_,xs,d⟩
  obtain⟨y,r,e,m,l⟩:=z i t c
  have s:i<L.length:=(Zi c).1
  have b:∀ j u,j<3->((xs.drop (i*3)).take 3)[j]?=some u->w.cell? ⟨g,i*3+j,none⟩=some u:=fun j u p f=>by
   rw[XR,Xs p,List.getElem?_drop,<-q,XR,Xs (by omega),Array.getElem?_toList] at f
   exact Qa o _ u f
  rw[e] at b
  exact⟨g,y,r,Z,b 0 _ (by omega) Z,b 1 _ (by omega) Z,b 2 _ (by omega) Z,m,l⟩
theorem TRd.below {Q:Nat->Prop}(h:TRd w Q a L) (b:Below w.heap.size w w'):TRd w' Q a L:=fun i t n=>by
 obtain⟨g,j,f,e,d,k,m,l,o⟩:=h i t n
 have c:g<w.heap.size:=Xi w ⟨g,i*3,none⟩ d;exact⟨g,j,f,e,(b.cell (p:=⟨g,i*3,none⟩) c).trans d,(b.cell (p:=⟨g,i*3+1,none⟩) c).trans k,(b.cell (p:=⟨g,i*3+2,none⟩) c).trans m,l.below b,o⟩
end
def KAt (w:World) (b:Nat) (O:Nat->Prop) (s:JSt):Prop :=
 ∃ pm cm a1 c1 a2 c2 a3 c3 h vL,w.heap[b]?=some (.cells #[.slice pm s.m.length cm,Iv s.f.regs,.slice a1 s.f.params.length c1,.slice a2 s.f.results.length c2,.slice a3 s.f.blocks.length c3,Pv h 0,vL] 175 (0,0)) /\
  (Qar 6).In w (fun g=>¬ O g) s.m [.slice pm s.m.length cm]/\(QaF 6).In w (fun g=>¬ O g) s.f [Iv s.f.regs,.slice a1 s.f.params.length c1,.slice a2 s.f.results.length c2,.slice a3 s.f.blocks.length c3] /\
  Qr w h O s.H/\TRw w O vL s.L/\O b
section
variable {w w':World}{b:Nat}{O O':Nat->Prop}{s:JSt}
theorem KAt.keep (h:KAt w b O s) (hb:∀ k,k<w.heap.size->w'.heap[k]?=w.heap[k]?) (d:∀ k,k<w.heap.size->(O k↔O' k)):KAt w' b O' s:=by
 obtain⟨A,m,t,o,u,x,z,v,h,r,l,n,y,B,j,p⟩:=h
 have f:=XC l
 refine⟨A,m,t,o,u,x,z,v,h,r,(hb b f).trans l,(Qar 6).keep (fun k _ a=>hb k a) (fun k c a e=>c ((d k a).2 e)) n,(QaF 6).keep (fun k _ a=>hb k a) (fun k c a e=>c ((d k a).2 e)) y,
  B.keep (fun g _ i=>hb g i) (fun g i a=>(d g a).1 i),j.keep (fun k c _=>hb k c) (fun k c=>?_) (fun k c a e=>c ((d k a).2 e)),(d b f).1 p⟩
 have a:=j.lt c;obtain⟨C,D,q,E⟩:=j
 exact(d k a).1 (q k c)
theorem KAt.below (h:KAt w b O s) (k:Below w.heap.size w w'):KAt w' b O s:=h.keep (fun g a=>k.block g a) (fun _ _=>Iff.rfl)
structure KRd (w:World) (b:Nat) (O:Nat->Prop) (s:JSt) (pm:Option Addr) (cm:Nat) (a1:Option Addr) (c1:Nat) (a2:Option Addr) (c2:Nat) (a3:Option Addr) (c3:Nat) (h:Nat) (aL:Option Addr) (cL:Nat):Prop where
 blk:w.heap[b]?=some (.cells #[.slice pm s.m.length cm,Iv s.f.regs,.slice a1 s.f.params.length c1,.slice a2 s.f.results.length c2,.slice a3 s.f.blocks.length c3,Pv h 0,.slice aL s.L.length cL] 175 (0,0))
 mod:(Qar 6).In w (fun g=>¬ O g) s.m [.slice pm s.m.length cm]
 fn:(QaF 6).In w (fun g=>¬ O g) s.f [Iv s.f.regs,.slice a1 s.f.params.length c1,.slice a2 s.f.results.length c2,.slice a3 s.f.blocks.length c3]
 holds:Qr w h O s.H
 row:TRd w (fun g=>¬ O g) aL s.L
theorem KAt.read (h:KAt w b O s):∃ pm cm a1 c1 a2 c2 a3 c3 h aL cL,KRd w b O s pm cm a1 c1 a2 c2 a3 c3 h aL cL:=by
 obtain⟨pm,cm,a1,c1,a2,c2,a3,c3,h,i,g,e,c,f,d,j⟩:=h
 obtain⟨aL,cL,rfl,a,_⟩:=d.form
 exact⟨pm,cm,a1,c1,a2,c2,a3,c3,h,aL,cL,g,e,c,f,a⟩
theorem KRd.cells {d:Option Addr}{j:Nat}{e:Option Addr}{c:Nat}{g:Option Addr}{i:Nat}{h:Nat}{a:Option Addr}(k:KRd w b O s pm cm d j e c g i h a cL) :
 w.cell? ⟨b,0,none⟩=some (.slice pm s.m.length cm)/\w.cell? ⟨b,1,none⟩=some (Iv s.f.regs)/\w.cell? ⟨b,2,none⟩=some (.slice d s.f.params.length j)/\w.cell? ⟨b,3,none⟩=some (.slice e s.f.results.length c)/\w.cell? ⟨b,4,none⟩=some (.slice g s.f.blocks.length i)/\w.cell? ⟨b,5,none⟩=some (Pv h 0)/\w.cell? ⟨b,6,none⟩=some (.slice a s.L.length cL) :=
 ⟨Qa k.blk 0 _ Z,Qa k.blk 1 _ Z,Qa k.blk 2 _ Z,Qa k.blk 3 _ Z,Qa k.blk 4 _ Z,Qa k.blk 5 _ Z,Qa k.blk 6 _ Z⟩
end
theorem Q7 {w:World}{b:Nat}{O:Nat->Prop}{s:JSt}(k a:Int) (c:Bool) (hH:s.H.length<=16) (Q:s.L.length<=80) (h:KAt w b O s) :
 Calls prog 104 #[Pv b 0,Iv k,Iv a,.bool c] w fun e w'=>e=.returned (Iv (s.want k a c))/\∃ n,w'=w.drewN n:=by
 obtain⟨pm,M,S,N,T,V,X,U,y,K,cL,R⟩:=h.read
 obtain⟨-,-,-,-,-,P,v⟩:=R.cells
 have G:Hid (TRd w (fun g=>¬ O g) K s.L):=R.row;have J:Hid (Qr w y O s.H):=R.holds;clear R h;by_cases p:k<0
 ·have E:Hid (s.want k a c=1):=by show _=_;unfold JSt.want JSt.at;rw[Xs p]
  have I:decide (k<0)=true:=by simpa using p
  generalize s.L.length=D at v;go_enter func104,ntmps104
  go_wp2
  go_ret;exact⟨by rw[E.out];rfl,0,Z⟩
 obtain⟨i,rfl⟩:=Xc (show 0<=k by omega)
 by_cases x:i<s.L.length
 ·have d:s.L[i]?=some s.L[i]:=Zg x;generalize s.L[i]=t at d;have o:s.at (i:Int)=some t:=by unfold JSt.at;rw[Xr p];exact d
  obtain⟨g,a',W,rfl,u,A,-,-,-⟩:=G.out i t d
  have q:(i:Int)<s.L.length:=by omega
  have z:¬ (i:Int)<0:=by omega
  have m:¬ (s.L.length:Int)<=i:=by omega
  generalize l:s.L.length=D at v x q m;by_cases f:t.kind=a
  ·have j:(t.kind==a)=true:=by simpa using f
   cases c with
   | false =>
     have E:Hid (s.want (i:Int) a false=0):=by show _=_;unfold JSt.want;rw[o];simp[f]
     generalize t.kind=B at u f j;subst f;clear d o l;go_enter func104,ntmps104
     go_wp2_with fail
     go_quiet (fail)
     go_wp2
     go_ret;exact⟨by rw[E.out];rfl,_,Z⟩
   | true =>
     have C:Hid (∀ n,Calls prog 159 #[Pv y 0,Iv t.r] (w.drewN n) fun e w'=>e=.returned (.bool (Qa7 s.H t.r))/\w'=w.drewN n):=fun n=>QdH t.r (by omega) (show Qr (w.drewN n) y O s.H from J.out)
     have E:Hid (s.want (i:Int) a true=if Qa7 s.H t.r then 0 else 10):=by
      show _=_;unfold JSt.want;rw[o]
      simp only[f,if_true,Bool.true_and]
      cases Qa7 s.H t.r<;>rfl
     generalize t.kind=B at u f j;subst f
     cases hq:Qa7 s.H t.r with
     | true =>
       rw[hq] at C E
       clear d o l hq;generalize t.r=F at A C;go_enter func104,ntmps104
       go_wp2_with fail
       go_quiet ((go_at_call 159;exact Calls.quiet_of_same (C.out _)))
       go_wp2
       go_ret;exact⟨by rw[E.out];rfl,_,Z⟩
     | false =>
       rw[hq] at C E
       clear d o l hq;generalize t.r=F at A C;go_enter func104,ntmps104
       go_wp2_with fail
       go_quiet ((go_at_call 159;exact Calls.quiet_of_same (C.out _)))
       go_wp2
       go_ret;exact⟨by rw[E.out];rfl,_,Z⟩
  ·have j:(t.kind==a)=false:=by simpa using f
   have E:Hid (s.want (i:Int) a c=9):=by show _=_;unfold JSt.want;rw[o];simp[f]
   generalize t.kind=B at u f j;clear d o l;go_enter func104,ntmps104
   go_wp2
   go_ret;exact⟨by rw[E.out];rfl,0,Z⟩
 ·have E:Hid (s.want (i:Int) a c=1):=by
   show _=_;unfold JSt.want JSt.at;rw[Xr p,XT,Xk (by omega)]
  have m:(s.L.length:Int)<=i:=by omega
  have z:¬ (i:Int)<0:=by omega
  generalize s.L.length=D at v m x;go_enter func104,ntmps104
  go_wp2
  go_ret;exact⟨by rw[E.out];rfl,0,Z⟩
structure QcN (w:World) (lo:Nat) (v:Value){n:Nat}(l:List (TT n)) (xs:List Value):Prop where
 own:w.ownsRow lo 105 3 v l.length xs
 kids:∀ (i:Nat) (x:TT n),l[i]?=some x->∃ a c,xs[i*3]?=some (Iv x.kind)/\xs[i*3+1]?=some (Iv x.r)/\xs[i*3+2]?=some (.slice a x.len c)/\TIn w (But lo v) x a
theorem QcN.nil (w:World) (lo:Nat):QcN w lo (Nv) ([]:List (TT n)) [] :=
 ⟨⟨Z,Or.inl ⟨Z,Z⟩⟩,fun i x h=>by simp at h⟩
theorem QcN.lin {lo:Nat}{l:List (TT n)}(h:QcN w lo v l xs):∃ a c,v=.slice a l.length c/\LIn w (QdN lo) l a:=by
 obtain⟨⟨E,t⟩,s⟩:=h
 rcases t with ⟨rfl,C⟩|⟨g,A,f,rfl,m,y,H,D,F,B⟩
 ·have:l=[]:=Xf.1 C
  subst this;exact⟨none,0,Z,LIn.nil⟩
 ·refine⟨_,_,Z,fun i x e=>?_⟩
  obtain⟨a,c,z,o,p,q⟩:=s i x e
  have G:i<l.length:=(Zi e).1
  have b:∀ j u,xs[j]?=some u->w.cell? ⟨g,j,none⟩=some u:=fun j u d=>by
   rw[<-B,XR] at d
   split at d
   ·exact Qa y j u (by rw[<-Array.getElem?_toList];exact d)
   ·cases d
  refine⟨g,0,a,c,Z,m,?_,?_,?_,q.mono (fun k r _=>r.1)⟩
  ·rw[XK];exact b _ _ z
  ·rw[XK];exact b _ _ o
  ·rw[XK];exact b _ _ p
theorem QcN.below {lo:Nat}{l:List (TT n)}(h:QcN w lo v l xs) (b:Below w.heap.size w w'):QcN w' lo v l xs:=by
 obtain⟨⟨p,t⟩,s⟩:=h
 refine⟨⟨p,?_⟩,fun i x k=>?_⟩
 ·rcases t with y | ⟨g,d,f,e,o,j,r⟩
  ·exact Or.inl y
  ·exact Or.inr ⟨g,d,f,e,o,(b.block g (XC j)).trans j,r⟩
 ·obtain⟨a,c,u,q,z,m⟩:=s i x k
  exact⟨a,c,u,q,z,m.below b⟩
theorem QcN.lo_le {lo:Nat}{l:List (TT n)}(h:QcN w lo v l xs)(b:v.ownBlock=some g):lo<=g/\g<w.heap.size:=by
 obtain⟨⟨j,f⟩,k⟩:=h
 rcases f with ⟨rfl,m⟩|⟨i,c,e,rfl,a,d,r⟩
 ·simp[Value.ownBlock] at b
 ·simp[Value.ownBlock] at b;subst b;exact⟨a,XC d⟩
theorem QcN.push {lo:Nat}{l:List (TT n)}(h:QcN w lo v l xs){x:TT n}(u:TIn w (But lo v) x a)
  (B:w.grownBy w' v.ownBlock) (q:v.ownBlock=some g\/g=w.heap.size)
 (A:w'.ownsRow lo 105 3 (.slice (some ⟨g,0,none⟩) (l.length+1) cap) (l.length+1) (xs++[Iv x.kind,Iv x.r,.slice a x.len c])) :
 QcN w' lo (.slice (some ⟨g,0,none⟩) (l.length+1) cap) (l++[x]) (xs++[Iv x.kind,Iv x.r,.slice a x.len c]):=by
 obtain⟨E,D⟩:=h
 have m:=E.1
 have j:∀ {y:TT n} {b:Option Addr},TIn w (But lo v) y b->TIn w' (But lo (.slice (some ⟨g,0,none⟩) (l.length+1) cap)) y b:=fun f=>by
  refine f.keep (fun k o t=>?_) (fun k o t=>⟨o.1,?_⟩)
  ·exact B.block k t (fun e=>o.2 e.symm)
  ·simp only[Value.ownBlock,ne_eq,Option.some.injEq]
   intro e;subst e;rcases q with s | s
   ·exact o.2 s
   ·omega
 refine⟨by rw[List.length_append];exact A,fun i y f=>?_⟩
 rw[List.getElem?_append] at f
 split at f
 ·rename_i G
  obtain⟨b,d,F,C,H,z⟩:=D i y f
  refine⟨b,d,?_,?_,?_,j z⟩
  ·rw[XP (by omega)];exact F
  ·rw[XP (by omega)];exact C
  ·rw[XP (by omega)];exact H
 ·rename_i G
  have p:i=l.length:=by
   have:=(Zi f).1
   simp at this
   omega
  subst p;simp at f
  subst f;refine⟨a,c,?_,?_,?_,j u⟩
  ·rw[XQ (by omega),m,Nat.sub_self];rfl
  ·rw[XQ (by omega),m,Nat.add_sub_cancel_left];rfl
  ·rw[XQ (by omega),m,Nat.add_sub_cancel_left];rfl
theorem underTs:prog.underlying 80=some (.slice 105):=by kernel_rfl
theorem infoT:(prog.info? 105).map (fun i=>(i.zero,i.size,i.bytes))=some (some (.agg #[Iv 0,Iv 0,Nv]),3,40):=by kernel_rfl
theorem infoT_parts:∃ i,prog.info? 105=some i/\i.zero=some (.agg #[Iv 0,Iv 0,Nv])/\i.size=3/\i.bytes=40:=by
 have h:=infoT
 cases hi:prog.info? 105 with
 | none=>rw[hi] at h;cases h
 | some i=>rw[hi] at h;simp at h;exact⟨i,Z,h.1,h.2.1,h.2.2⟩
theorem QmV (w:World) (p q r:Value):∀ j u,[p,q,r][j]?=some u->(w.alloc (.cells #[p,q,r] 105)).cell? ((⟨w.heap.size,0,none⟩:Addr).add j)=some u:=by
 intro j u h;match j,h with
 | 0,h=>simp at h;subst h;exact Qa (Qe w _ _) 0 _ Z
 | 1,h=>simp at h;subst h;exact Qa (Qe w _ _) 1 _ Z
 | 2,h=>simp at h;subst h;exact Qa (Qe w _ _) 2 _ Z
 | j+3,h=>simp at h
theorem QnB (k r:Int) (a:Option Addr) (l c:Nat):∀ u∈[Value.int .i64 k,Value.int .i64 r,Value.slice a l c],u.oneCell'=true:=by
 intro u h;simp at h
 rcases h with rfl | rfl | rfl<;>rfl
def Qnh {n:Nat}(w w':World) (t:TT n) (e:Ending):Prop:=∃ a' c',e=.returned (Tv t a' c')/\TIn w' (QdN w.heap.size) t a'/\Below w.heap.size w w'
def Qnt {n:Nat}(w w':World) (l:List (TT n)) (e:Ending):Prop:=∃ a' c',e=.returned (.slice a' l.length c')/\LIn w' (QdN w.heap.size) l a'/\Below w.heap.size w w'
def Qkw (n:Nat):Prop:=∀ (t:TT n) (a:Option Addr) (c:Nat) (w:World),TIn w All t a->t.count<=100000 ->
 Calls prog 72 #[Tv t a c] w fun e w'=>Qnh w w' t e
theorem Qhp (n:Nat) (I:Qkw n) (l:List (TT n)) (a:Option Addr) (c:Nat) (w:World) (J:LIn w All l a) (aa:l.length<=100000) (s:∀ x∈l,x.count<=100000) :
 Calls prog 41 #[.slice a l.length c] w fun e w'=>∃ a' c',e=.returned (.slice a' l.length c')/\(∃ xs,QcN w' w.heap.size (.slice a' l.length c') l xs)/\Below w.heap.size w w':=by
 have IH:Hid (Qkw n):=I;have hl:Hid (LIn w All l a):=J;have W:Hid (∀ x∈l,x.count<=100000):=s;clear I J s;obtain⟨i0,hi,S,P,U⟩:=infoT_parts
 go_enter func41,ntmps41
 go_wp2_with fail
 go_loopw [3,4] (fun v i wr=>∃ q:Nat,q<=l.length/\i=Iv q/\(∃ xs,QcN wr w.heap.size v (l.take q) xs)/\Below w.heap.size w wr) (fun _ i _=>l.length - (intOf i).toNat)
 case atStart=>exact⟨0,Xb _,Z,⟨_,QcN.nil _ _⟩,Zr⟩
 case round =>
  obtain⟨q,hq,rfl,⟨xs,y⟩,hb⟩:=hrel
  have R:Hid (QcN wr w.heap.size u3 (l.take q) xs):=y;have B:Hid (Below w.heap.size w wr):=hb;clear y hb;by_cases O:q<l.length
  ·have K:l[q]?=some l[q]:=Zg O;generalize l[q]=x at K;obtain⟨g,o,a',c',rfl,_,d0,d1,d2,A⟩:=LIn.at (hl.out.below B.out) K
   have C:Hid (Calls prog 72 #[Tv x a' c'] wr fun e w'=>Qnh wr w' x e) :=
    IH.out x a' c' _ A (W.out x (Zm K))
   have T:Hid (l.take (q+1)=l.take q++[x]):=by show _=_;rw[XV,K];rfl
   have t:Hid ((l.take q).length=q):=by show _=_;simp;omega
   clear A K;simp only[Tv] at C
   have ac:(0:Int)<=q:=by omega
   have Q:(q:Int)<l.length:=by omega
   go_wp2_with fail
   refine C.out.mono ?_;rintro e j ⟨m,p,rfl,t2,X⟩;simp only[Tv]
   have V:=R.out.below X;have H:TIn j (But w.heap.size u3) x m:=t2.mono (fun k A _=>⟨Zt B.out.size A,fun e=>by have:=(R.out.lo_le e).2;omega⟩);have d:Below w.heap.size w j:=B.out.trans (X.mono B.out.size);have f:=V.own;rw[t.out] at f
   have E:Hid (∀ u b z,z.ownsRow w.heap.size 105 3 (.slice (some ⟨u,0,none⟩) (q+1) b) (q+1) (xs++[Iv x.kind,Iv x.r,.slice m x.len p])->(j.alloc (.cells #[Iv x.kind,Iv x.r,.slice m x.len p] 105)).grownBy z u3.ownBlock->(u3.ownBlock=some u\/u=j.heap.size+1) ->
    (∃ xs,QcN z w.heap.size (.slice (some ⟨u,0,none⟩) (q+1) b) (l.take (q+1)) xs)/\Below w.heap.size w z):=by
    intro u b z M N h3;have b3:Below j.heap.size j (j.alloc (.cells #[Iv x.kind,Iv x.r,.slice m x.len p] 105)):=(Below.refl _ j).alloc Ze _
    have:=(V.below b3).push (x:=x) (a:=m) (c:=p) (cap:=b) (H.below b3) N (by simpa using h3) (by rw[t.out];exact M)
    rw[t.out] at this
    refine⟨⟨_,by rw[T.out];exact this⟩,?_⟩
    exact(d.alloc d.size _).grown N (by simp;have:=d.size;omega) (fun k A=>(R.out.lo_le A).1)
   have ab:=d.size;clear C d0 d1 d2 t2 X V H d;generalize x.kind=kx at E |-;generalize x.r=rx at E |-;generalize x.len=lx at E |-;go_wp2_with (at_builtin;refine wpList_append_lies _ Z (.tmp 11) (.tmp 17) 80 Z w.heap.size 105 i0 (.agg #[Iv 0,Iv 0,Nv]) 3 40 underTs hi S P U Z (by decide) _ _ _ Z (f.alloc _) ⟨j.heap.size,0,none⟩ 1 1 [Iv kx,Iv rx,.slice m lx p] Z Z (QmV _ _ _ _) (QnB _ _ _ _ _) (by decide) (by unfold maxLen;omega) (by omega) (by simp;omega) (j.heap.size+1) (by simp) ?_)
   intro u b z M h F G;have U2:Hid _:=E.out u b z M h F;clear M h F G f E R;go_wp2
   go_roundw
   case rel=>exact⟨q+1,by omega,by go_num,U2.out.1,U2.out.2⟩
   case measure=>simp[intOf];omega
  ·have Q:¬ (q:Int)<l.length:=by omega
   have D:l.take q=l:=XO (by omega);have y:=R.out;rw[D] at y
   obtain⟨m,p,rfl,N⟩:=y.lin
   have L:Hid (QcN wr w.heap.size (.slice m l.length p) l xs):=y;clear R N y D;go_wp2
   go_ret;exact⟨m,p,Z,⟨xs,L.out⟩,B.out⟩
theorem Qko (n:Nat) (f:Qkw n) (l:List (TT n)) (a:Option Addr) (c:Nat) (w:World) (g:LIn w All l a) (b:l.length<=100000) (d:∀ x∈l,x.count<=100000) :
 Calls prog 41 #[.slice a l.length c] w fun e w'=>Qnt w w' l e:=by
 refine(Qhp n f l a c w g b d).mono ?_
 rintro e w' ⟨q,o,rfl,⟨p,i⟩,j⟩;obtain⟨r,m,h,k⟩:=i.lin
 simp only[Value.slice.injEq,true_and] at h
 obtain⟨rfl,rfl⟩:=h
 exact⟨_,_,Z,k,j⟩
structure Bx2 (w wr:World) (k r:Int) (a:Option Addr) (len c:Nat):Prop where
 bel:Below w.heap.size w wr
 box:wr.heap[w.heap.size]?=some (.cells #[Iv k,Iv r,.slice a len c] 105 (0,0))
 res:wr.heap[w.heap.size+1]?=some (.cells #[Iv 0,Iv 0,Nv] 105 (0,0))
theorem Bx2.start (w:World) (k r:Int) (a:Option Addr) (len c:Nat):Bx2 w ((w.alloc (.cells #[Iv k,Iv r,.slice a len c] 105)).alloc (.cells #[Iv 0,Iv 0,Nv] 105)) k r a len c :=
 ⟨((Below.refl _ w).alloc Ze _).alloc (by simp) _,(Below.heap_alloc _ _ _ (by simp)).trans (Qe w _ _),by have:=Qe (w.alloc (.cells #[Iv k,Iv r,.slice a len c] 105)) #[Iv 0,Iv 0,Nv] 105;simpa using this⟩
theorem Bx2.below {k r:Int}{len:Nat}(h:Bx2 w wr k r a len c) (b:Below wr.heap.size wr w'):Bx2 w w' k r a len c :=
 ⟨h.bel.trans (b.mono h.bel.size),QaL h.box b,QaL h.res b⟩
theorem Bx2.stored {k r:Int}{len:Nat}(h:Bx2 w wr k r a len c) (d r':Int) (a':Option Addr) (b c':Nat) :
 (((wr.setCell ⟨w.heap.size+1,0,none⟩ (Iv d)).setCell ⟨w.heap.size+1,1,none⟩ (Iv r')).setCell ⟨w.heap.size+1,2,none⟩ (.slice a' b c')).heap[w.heap.size+1]?=some (.cells #[Iv d,Iv r',.slice a' b c'] 105 (0,0)) /\
 Below w.heap.size w (((wr.setCell ⟨w.heap.size+1,0,none⟩ (Iv d)).setCell ⟨w.heap.size+1,1,none⟩ (Iv r')).setCell ⟨w.heap.size+1,2,none⟩ (.slice a' b c')):=by
 refine⟨?_,((h.bel.setCell (by simp) _).setCell (by simp) _).setCell (by simp) _⟩
 have e:=Qm h.res 0 (Iv d);have g:=Qm e 1 (Iv r');have f:=Qm g 2 (.slice a' b c');simpa using f
theorem own_any:∀ n,Qkw n:=by
 intro n
 induction n with
 | zero=>intro t;exact Empty.elim t
 | succ n ih =>
   intro t a c w O S;have q:∀ x∈t.2.2,x.count<=100000:=fun x hx=>by have:=t.count_kid hx;omega
   have g:t.2.2.length<=100000:=by have:=t.len_lt_count;rw[t.len_eq] at this;omega
   have C:Hid (∀ f,Below w.heap.size w f->Calls prog 41 #[.slice a t.2.2.length c] f fun e d=>Qnt f d t.2.2 e) :=
    fun f F=>Qko n ih t.2.2 a c f (O.below F) g q
   have P:Hid (∀ e f d,Below w.heap.size w f->(∃ p s,e=.returned (.agg #[Iv t.kind,Iv t.r,.slice p t.2.2.length s])/\LIn d (QdN f.heap.size) t.2.2 p/\Below w.heap.size w d)->Qnh w d t e):=by
    rintro e f d F ⟨p,s,rfl,B,E⟩;exact⟨p,s,Z,B.mono (fun k W _=>Zt F.size W),E⟩
   simp only[Tv,TT.len_eq]
   generalize t.kind=k at P |-;generalize t.r=r at P |-;generalize z:t.2.2=l at C P |-;clear q g S O ih z;go_enter func72,ntmps72
   go_wp2_with fail
   have i:Hid (Bx2 w ((w.alloc (.cells #[Iv k,Iv r,.slice a l.length c] 105)).alloc (.cells #[Iv 0,Iv 0,Nv] 105)) k r a l.length c):=Bx2.start w k r a l.length c;have A:w.heap.size+1<((w.alloc (.cells #[Iv k,Iv r,.slice a l.length c] 105)).alloc (.cells #[Iv 0,Iv 0,Nv] 105)).heap.size:=by simp
   generalize (w.alloc (.cells #[Iv k,Iv r,.slice a l.length c] 105)).alloc (.cells #[Iv 0,Iv 0,Nv] 105)=u at i A |-
   have H:Hid (∀ m,Calls prog 41 #[.slice a l.length c] (u.drewN m) fun e d=>Qnt u d l e/\Bx2 w d k r a l.length c):=fun m =>
    (C.out (u.drewN m) (Qgu i.out.bel)).mono (fun e d h=>by
     obtain⟨p,s,B,E,K⟩:=h
     exact⟨⟨p,s,B,E,QaZ K⟩,i.out.below (QaZ K)⟩)
   have R:=Qa i.out.box 0 _ Z;have V:=Qa i.out.box 1 _ Z;have T:=Qa i.out.box 2 _ Z;clear C;go_region_with (go_at_call 41;refine(H.out 1).mono ?_;rintro e I ⟨⟨j,o,rfl,G,b2⟩,b⟩;have U:=Qa b.box 0 _ Z;have f1:=Qa b.box 1 _ Z;have g0:=Qa b.res 0 _ Z;have g1:=Qa b.res 1 _ Z;have g2:=Qa b.res 2 _ Z;have X:=Qd b.res 0;have z1:=Qd b.res 1;have z2:=Qd b.res 2;have y:Hid _:=Xh G b;clear G b2 b)
   all_goals
    have D:=y.out.2.stored k r j l.length o
    have L:Qnh w (((I.setCell ⟨w.heap.size+1,0,none⟩ (Iv k)).setCell ⟨w.heap.size+1,1,none⟩ (Iv r)).setCell ⟨w.heap.size+1,2,none⟩ (.slice j l.length o)) t (.returned (.agg #[Iv k,Iv r,.slice j l.length o])) :=
     P.out _ u _ i.out.bel ⟨j,o,Z,((y.out.1.setCell (by simp;omega) _).setCell (by simp;omega) _).setCell (by simp;omega) _,D.2⟩
    have M:Hid _:=L;have Q:=Qa D.1 0 _ Z;have J:=Qa D.1 1 _ Z;have N:=Qa D.1 2 _ Z;clear D L y R V T U f1 g0 g1 g2 X z1 z2 P H;generalize ((I.setCell ⟨w.heap.size+1,0,none⟩ (Iv k)).setCell ⟨w.heap.size+1,1,none⟩ (Iv r)).setCell ⟨w.heap.size+1,2,none⟩ (.slice j l.length o)=w9 at M Q J N |-;go_wp2
    exact Xy (v:=.agg #[Iv k,Iv r,.slice j l.length o]) (by simp[results,results72,go_sem,Q,J,N]) Z M.out
def QkC (w:World) (b:Option Addr) (m:Nat) (nm:Nat->Int):Prop:=∀ i,i<m->∃ g o,b=some ⟨g,o,none⟩/\w.cell? ⟨g,o+i,none⟩=some (Iv (nm i))
theorem QkC.below {b:Option Addr}{c:Nat->Int}(h:QkC w b m c) (k:Below w.heap.size w w'):QkC w' b m c:=fun i d=>by
 obtain⟨g,o,e,a⟩:=h i d
 exact⟨g,o,e,(k.cell (p:=⟨g,o+i,none⟩) (Xi w ⟨g,o+i,none⟩ a)).trans a⟩
abbrev zeroT:Value:=.agg #[Iv 0,Iv 0,Nv]
def Qfc {n:Nat}(w w':World) (o:Option (TT n)) (e:Ending):Prop:=match o with
 | some u=>∃ a' c',e=.returned (.tuple #[Tv u a' c',.bool true])/\TIn w' (QdN w.heap.size) u a'/\Below w.heap.size w w'
 | none=>e=.returned (.tuple #[zeroT,.bool false])/\Below w.heap.size w w'
def Qm6 (f n:Nat):Prop:=∀ (t:TT n) (a:Option Addr) (c:Nat) (b:Option Addr) (m d:Nat) (nm:Nat->Int) (w:World),TIn w All t a->t.count<=2000->QkC w b m nm ->
 Calls prog f #[Tv t a c,.slice b m d] w fun e w'=>Qfc w w' (t.ren m nm) e
theorem QdW {a:Nat->Int}{t:TT (n+1)}{r':Int}(d:Qah m a t.kind t.r=some r'){l':List (TT n)}(c:Qal (TT.ren m a) t.2.2=some l'):t.ren m a=some (mkT t.kind r' l'):=by
 show (match Qah m a t.1 t.2.1 with | none=>none | some r=>match Qal (TT.ren (n:=n) m a) t.2.2 with | none=>none | some l=>some ((t.1,r,l):Int × Int × List (TT n)))=_;have b:Qah m a t.1 t.2.1=some r':=d;rw[b,c]
 rfl
theorem Qe1 {a:Nat->Int}{t:TT (n+1)}(c:Qah m a t.kind t.r=none):t.ren m a=none:=by
 show (match Qah m a t.1 t.2.1 with | none=>none | some r=>match Qal (TT.ren (n:=n) m a) t.2.2 with | none=>none | some l=>some ((t.1,r,l):Int × Int × List (TT n)))=_;have b:Qah m a t.1 t.2.1=none:=c;rw[b]
 rfl
theorem QfA {a:Nat->Int}{t:TT (n+1)}(b:Qal (TT.ren m a) t.2.2=none):t.ren m a=none:=by
 show (match Qah m a t.1 t.2.1 with | none=>none | some r=>match Qal (TT.ren (n:=n) m a) t.2.2 with | none=>none | some l=>some ((t.1,r,l):Int × Int × List (TT n)))=_;rw[b]
 cases Qah m a t.1 t.2.1<;>rfl
structure RdX (w wr:World) (k r:Int) (a:Option Addr) (len c:Nat) (r':Int) (v:Value){n:Nat}(l:List (TT n)) (xs:List Value):Prop where
 bx:Bx2 w wr k r a len c
 u:wr.heap[w.heap.size+2]?=some (.cells #[Iv k,Iv r',v] 105 (0,0))
 row:QcN wr (w.heap.size+3) v l xs
section
variable {w wr w':World}{k r r':Int}{a:Option Addr}{len c n:Nat}{v:Value}{l:List (TT n)}{xs:List Value}
theorem RdX.start (w:World) (k r:Int) (a:Option Addr) (len c:Nat) (r':Int):RdX w (((w.alloc (.cells #[Iv k,Iv r,.slice a len c] 105)).alloc (.cells #[Iv 0,Iv 0,Nv] 105)).alloc (.cells #[Iv k,Iv r',Nv] 105)) k r a len c r' (Nv) ([]:List (TT n)) [] :=
 ⟨(Bx2.start w k r a len c).below (Zr.alloc Ze _),by have:=Qe ((w.alloc (.cells #[Iv k,Iv r,.slice a len c] 105)).alloc (.cells #[Iv 0,Iv 0,Nv] 105)) #[Iv k,Iv r',Nv] 105;simpa using this,QcN.nil _ _⟩
theorem RdX.below (h:RdX w wr k r a len c r' v l xs) (b:Below wr.heap.size wr w'):RdX w w' k r a len c r' v l xs:=⟨h.bx.below b,QaL h.u b,h.row.below b⟩
theorem QcN.setOther (h:QcN w' (w.heap.size+3) v l xs) (i:Nat) (y:Value):QcN (w'.setCell ⟨w.heap.size+2,i,none⟩ y) (w.heap.size+3) v l xs:=by
 obtain⟨⟨o,s⟩,q⟩:=h
 refine⟨⟨o,?_⟩,fun i x f=>?_⟩
 ·rcases s with u | ⟨g,b,d,e,n,j,r⟩
  ·exact Or.inl u
  ·exact Or.inr ⟨g,b,d,e,n,(Xd _ _ _ _ (by simp;omega)).trans j,r⟩
 ·obtain⟨a,c,t,p,z,k⟩:=q i x f
  exact⟨a,c,t,p,z,k.setCell (fun m=>by have:=m.1;simp at this) _⟩
theorem RdX.push (h:RdX w wr k r a len c r' v l xs){x:TT n}{a':Option Addr}{c':Nat}(q:TIn wr (But (w.heap.size+3) v) x a')
  (f:wr.grownBy w' v.ownBlock) (j:v.ownBlock=some g\/g=wr.heap.size)
 (p:w'.ownsRow (w.heap.size+3) 105 3 (.slice (some ⟨g,0,none⟩) (l.length+1) cap) (l.length+1) (xs++[Iv x.kind,Iv x.r,.slice a' x.len c'])) :
 w'.heap[w.heap.size+2]?=some (.cells #[Iv k,Iv r',v] 105 (0,0)) /\
 RdX w (w'.setCell ⟨w.heap.size+2,2,none⟩ (.slice (some ⟨g,0,none⟩) (l.length+1) cap)) k r a len c r' (.slice (some ⟨g,0,none⟩) (l.length+1) cap) (l++[x]) (xs++[Iv x.kind,Iv x.r,.slice a' x.len c']):=by
 have b:∀ i,i<w.heap.size+3->i<wr.heap.size->w'.heap[i]?=wr.heap[i]?:=fun i s o=>f.block i o (fun e=>by have:=(h.row.lo_le e.symm).1;omega);have m:=(b (w.heap.size+2) (by omega) (XC h.u)).trans h.u;have d:Below w.heap.size w w':=h.bx.bel.grown f h.bx.bel.size (fun i e=>by have:=(h.row.lo_le e).1;omega);refine⟨m,⟨⟨d.setCell (by simp) _,?_,?_⟩,?_,QcN.setOther (h.row.push q f j p) 2 _⟩⟩
 ·exact(Xd _ _ _ _ (by simp)).trans ((b _ (by omega) (XC h.bx.box)).trans h.bx.box)
 ·exact(Xd _ _ _ _ (by simp)).trans ((b _ (by omega) (XC h.bx.res)).trans h.bx.res)
 ·have:=Qm m 2 (.slice (some ⟨g,0,none⟩) (l.length+1) cap)
  simpa using this
end
theorem QcI {w wr:World}{x:Obj}(h:wr.heap[b]?=some x/\Below w.heap.size w wr) (o:Obj):(wr.alloc o).heap[b]?=some x/\Below w.heap.size w (wr.alloc o) :=
 ⟨(Below.heap_alloc _ _ _ (XC h.1)).trans h.1,h.2.alloc h.2.size _⟩
theorem Qla (w:World) (o:Obj) (p q r:Value):∀ j u,[p,q,r][j]?=some u->((w.alloc o).alloc (.cells #[p,q,r] 105)).cell? ((⟨w.heap.size+1,0,none⟩:Addr).add j)=some u:=by
 have:=QmV (w.alloc o) p q r
 simpa using this
theorem renamedT_any:∀ n,Qm6 161 n:=by
 intro n
 induction n with
 | zero=>intro t;exact Empty.elim t
 | succ n ih =>
   intro t a c b m d s w ht au af;have IH:Hid (Qm6 161 n):=ih;have aj:Hid (QkC w b m s):=af;have hT:Hid (LIn w All t.2.2 a):=ht.list;have ah:Hid (∀ x∈t.2.2,x.count<=2000):=fun x M=>by have:=t.count_kid M;omega
   have an:t.2.2.length<=2000:=by have:=t.len_lt_count;rw[t.len_eq] at this;omega
   have R:Hid (Qah m s t.kind t.r=none->t.ren m s=none):=Qe1;have X:Hid (Qal (TT.ren m s) t.2.2=none->t.ren m s=none):=QfA;have P2:Hid (∀ r' h,Qah m s t.kind t.r=some r'->Qal (TT.ren m s) t.2.2=some h->t.ren m s=some (mkT t.kind r' h)):=fun r' h N h2=>QdW N h2;generalize t.ren m s=ad at R X P2 |-;simp only[Tv,TT.len_eq]
   generalize t.2.2=l at hT ah an X P2 |-;generalize t.kind=k at R P2 |-;generalize t.r=r at R P2 |-;clear ht au af ih t;obtain⟨i0,hi,ar,aq,ao⟩:=infoT_parts
   by_cases H:k=1
   ·subst H;have HR:Hid (Qah m s 1 r=some r):=by show _=_;simp[Qah]
    go_enter func161,ntmps161
    go_wp2_with fail
    have X0:=RdX.start (n:=n) w 1 r a l.length c r;generalize ((w.alloc (.cells #[Iv 1,Iv r,.slice a l.length c] 105)).alloc (.cells #[Iv 0,Iv 0,Nv] 105)).alloc (.cells #[Iv 1,Iv r,Nv] 105)=w1 at X0 |-;have Y0:Hid (RdX w w1 1 r a l.length c r (Nv) ([]:List (TT n)) []):=X0;clear X0;go_loopw [7] (fun i wr=>∃ q:Nat,q<=l.length/\i=Iv q/\∃ (v:Value) (h:List (TT n)) (xs:List Value),h.length=q/\(∀ (j:Nat) x,j<q->l[j]?=some x->x.ren m s=h[j]?)/\RdX w wr 1 r a l.length c r v h xs) (fun i _=>l.length - (intOf i).toNat)
    case atStart=>exact⟨0,Xb _,Z,_,[],[],Z,fun j x hj=>by omega,Y0.out⟩
    case round =>
     clear Y0;obtain⟨q,hq,rfl,v,h,xs,ac,S,hY⟩:=hrel
     have A:Hid (h.length=q/\∀ (j:Nat) x,j<q->l[j]?=some x->x.ren m s=h[j]?):=⟨ac,S⟩;have Y:Hid (RdX w wr 1 r a l.length c r v h xs):=hY;clear ac S hY;have e2:wr.cell? ⟨w.heap.size,2,none⟩=some (.slice a l.length c):=Qa Y.out.bx.box 2 _ Z;by_cases ag:q<l.length
     ·have M:l[q]?=some l[q]:=Zg ag;generalize l[q]=x at M;obtain⟨g,o,a',c',rfl,_,d0,d1,d2,H⟩:=LIn.at (hT.out.below Y.out.bx.bel) M
      have W:Hid (l[q]?=some x):=M
      have C:Hid (Calls prog 161 #[Tv x a' c',.slice b m d] wr fun e w'=>Qfc wr w' (x.ren m s) e) :=
       IH.out x a' c' b m d s wr H (ah.out x (Zm M)) (aj.out.below Y.out.bx.bel)
      clear H M;simp only[Tv] at C
      generalize x.kind=kx at C d0;generalize x.r=rx at C d1;generalize x.len=lx at C d2;have av:(0:Int)<=q:=by omega
      have ak:(q:Int)<l.length:=by omega
      have aw:(q:Int)<2000:=by omega
      go_wp2_with fail
      refine C.out.mono ?_;rintro e G h4;clear C d0 d1 d2 e2
      cases hxr:x.ren m s with
      | none =>
        rw[hxr] at h4
        obtain⟨rfl,b4⟩:=h4
        have I:ad=none:=X.out (Qdh W.out hxr);subst I;have B:=Y.out.below b4;have al:w.heap.size+1<G.heap.size:=XC B.bx.res;have D:=QcI (B.bx.stored 0 0 none 0 0) (.cells #[Iv 0,Iv 0,Nv] 105);have DD:Hid (Below w.heap.size w _):=D.2;have g0:=Qa B.bx.res 0 _ Z;have g1:=Qa B.bx.res 1 _ Z;have L:=Qa B.bx.res 2 _ Z;have y0:=Qd B.bx.res 0;have y1:=Qd B.bx.res 1;have y2:=Qd B.bx.res 2;have x0:=Qa D.1 0 _ Z;have x1:=Qa D.1 1 _ Z;have x2:=Qa D.1 2 _ Z;clear D B b4 hxr A Y R X P2;go_wp2_with fail
        exact Xy (v:=.tuple #[zeroT,.bool false]) (by simp[results,results161,go_sem,x0,x1,x2]) Z ⟨Z,DD.out⟩
      | some u =>
        rw[hxr] at h4
        obtain⟨P,V,rfl,t4,b4⟩:=h4
        simp only[Tv]
        have B:=Y.out.below b4;have al:w.heap.size+2<G.heap.size:=XC B.u;have hv:G.cell? ⟨w.heap.size+2,2,none⟩=some v:=Qa B.u 2 _ Z;have F:=A.out.1;have J:=B.row.own;rw[F] at J
        have T4:TIn G (But (w.heap.size+3) v) u P:=t4.mono (fun k H _=>⟨by have:=XC Y.out.u;have ae:wr.heap.size<=k:=H;omega,fun e=>by have:=(Y.out.row.lo_le e).2;have ae:wr.heap.size<=k:=H;omega⟩)
        have PU:Hid (∀ L f Q,Q.ownsRow (w.heap.size+3) 105 3 (.slice (some ⟨L,0,none⟩) (q+1) f) (q+1) (xs++[Iv u.kind,Iv u.r,.slice P u.len V])->((G.alloc (.cells #[Iv u.kind,Iv u.r,.slice P u.len V] 105)).alloc (.cells #[Iv u.kind,Iv u.r,.slice P u.len V] 105)).grownBy Q v.ownBlock->(v.ownBlock=some L\/L=G.heap.size+1+1) ->
         (Q.cell? ⟨w.heap.size+2,2,none⟩=some v/\Q.frozen? ⟨w.heap.size+2,2,none⟩=false) /\
         ∃ (v:Value) (h:List (TT n)) (xs:List Value),v=.slice (some ⟨L,0,none⟩) (q+1) f/\h.length=q+1/\(∀ (j:Nat) x,j<q+1->l[j]?=some x->x.ren m s=h[j]?)/\RdX w (Q.setCell ⟨w.heap.size+2,2,none⟩ v) 1 r (some ⟨g,o,none⟩) l.length c r v h xs):=by
         intro L f Q N h2 h3;have b5:Below G.heap.size G ((G.alloc (.cells #[Iv u.kind,Iv u.r,.slice P u.len V] 105)).alloc (.cells #[Iv u.kind,Iv u.r,.slice P u.len V] 105)):=((Below.refl _ G).alloc Ze _).alloc (by simp) _
         have:=(B.below b5).push (x:=u) (a':=P) (c':=V) (cap:=f) (g:=L) (T4.below b5) h2 (by simpa using h3) (by rw[F];exact N)
         rw[F] at this
         refine⟨⟨Qa this.1 2 _ Z,Qd this.1 2⟩,_,_,_,Z,?_,fun j y hj hy=>?_,this.2⟩
         ·simp[F]
         ·by_cases e:j=q
          ·subst e;rw[W.out] at hy
           cases hy
           rw[hxr,XQ (by omega),F,Nat.sub_self]
           rfl
          ·rw[XP (by omega)]
           exact A.out.2 j y (by omega) hy
        clear B b4 hxr A Y R X t4 T4 W F;generalize u.kind=ku at PU |-;generalize u.r=ru at PU |-;generalize u.len=lu at PU |-;go_wp2_with (at_builtin;refine wpList_append_lies _ Z (.tmp 63) (.tmp 65) 80 Z (w.heap.size+3) 105 i0 (.agg #[Iv 0,Iv 0,Nv]) 3 40 underTs hi ar aq ao Z (by decide) _ _ _ Z ((J.alloc _).alloc _) ⟨G.heap.size+1,0,none⟩ 1 1 [Iv ku,Iv ru,.slice P lu V] Z Z (Qla _ _ _ _ _) (QnB _ _ _ _ _) (by decide) (by unfold maxLen;omega) (by omega) (by simp;omega) (G.heap.size+1+1) (by simp) ?_)
        intro L f Q N K aa ab;obtain⟨⟨s1,s2⟩,U2⟩:=PU.out L f Q N K aa
        obtain⟨_,l2,am,rfl,U3⟩:=U2
        have U4:Hid _:=U3;clear N K aa ab J PU hv U3;go_wp2
        go_roundw
        case rel=>exact⟨q+1,by omega,by go_num,_,l2,am,U4.out⟩
        case measure=>simp[intOf];omega
     ·have ak:¬ (q:Int)<l.length:=by omega
      have E:h.length=l.length:=by have:=A.out.1;omega
      have I:ad=some (mkT 1 r h):=P2.out r h HR.out (ZX.2 ⟨E,fun i x M=>A.out.2 i x (by have:=(Zi M).1;omega) M⟩);subst I;obtain⟨U,T,rfl,L5⟩:=Y.out.row.lin
      rw[E] at Y
      have u0:wr.cell? ⟨w.heap.size+2,0,none⟩=some (Iv 1):=Qa Y.out.u 0 _ Z;have u1:wr.cell? ⟨w.heap.size+2,1,none⟩=some (Iv r):=Qa Y.out.u 1 _ Z;have u2:wr.cell? ⟨w.heap.size+2,2,none⟩=some (.slice U l.length T):=Qa Y.out.u 2 _ Z;have g0:=Qa Y.out.bx.res 0 _ Z;have g1:=Qa Y.out.bx.res 1 _ Z;have L:=Qa Y.out.bx.res 2 _ Z;have y0:=Qd Y.out.bx.res 0;have y1:=Qd Y.out.bx.res 1;have y2:=Qd Y.out.bx.res 2;have D:=Y.out.bx.stored 1 r U l.length T;have x0:=Qa D.1 0 _ Z;have x1:=Qa D.1 1 _ Z;have x2:=Qa D.1 2 _ Z
      have O:Hid (Qfc w (((wr.setCell ⟨w.heap.size+1,0,none⟩ (Iv 1)).setCell ⟨w.heap.size+1,1,none⟩ (Iv r)).setCell ⟨w.heap.size+1,2,none⟩ (.slice U l.length T)) (some (mkT 1 r h)) (.returned (.tuple #[.agg #[Iv 1,Iv r,.slice U l.length T],.bool true]))):=by
       refine⟨U,T,?_,?_,D.2⟩
       ·show _=Ending.returned (.tuple #[.agg #[Iv 1,Iv r,.slice U h.length T],.bool true]);rw[E]
       ·have:=((L5.setCell (p:=⟨w.heap.size+1,0,none⟩) (by simp) (Iv 1)).setCell (p:=⟨w.heap.size+1,1,none⟩) (by simp) (Iv r)).setCell (p:=⟨w.heap.size+1,2,none⟩) (by simp) (.slice U l.length T)
        exact(LIn.tree this).mono (fun k H _=>by omega)
      clear D A Y R X P2 E L5;go_wp2_with fail
      exact Xy (v:=.tuple #[.agg #[Iv 1,Iv r,.slice U l.length T],.bool true]) (by simp[results,results161,go_sem,x0,x1,x2]) Z O.out
   ·have ae:(k != 1)=true:=by simpa using H
    rcases (show r<0\/(0<=r/\(m:Int)<=r)\/(0<=r/\r<m) by omega) with N | ⟨N,h2⟩|⟨N,h2⟩
    ·obtain rfl:=R.out (show Qah m s k r=none by unfold Qah;rw[Xr H,Xs (Or.inl N)]);clear H R X P2;go_enter func161,ntmps161
     go_wp2_with fail
     exact Xy (v:=.tuple #[zeroT,.bool false]) (by simp[results,results161,go_sem]) Z ⟨Z,(((Below.refl _ w).alloc Ze _).alloc (by simp) _).alloc (by simp;omega) _⟩
    ·obtain rfl:=R.out (show Qah m s k r=none by unfold Qah;rw[Xr H,Xs (Or.inr h2)]);clear H R X P2;have h3:¬ r<0:=by omega
     go_enter func161,ntmps161
     go_wp2_with fail
     exact Xy (v:=.tuple #[zeroT,.bool false]) (by simp[results,results161,go_sem]) Z ⟨Z,(((Below.refl _ w).alloc Ze _).alloc (by simp) _).alloc (by simp;omega) _⟩
    ·obtain⟨j,rfl⟩:=Xc N
     obtain⟨gb,ob,rfl,hc⟩:=aj.out j (by omega)
     have ap:gb<w.heap.size:=Xi w ⟨gb,ob+j,none⟩ hc
     have ai:∀ o1 o2 o3,(((w.alloc o1).alloc o2).alloc o3).cell? ⟨gb,ob+j,none⟩=some (Iv (s j)):=fun o1 o2 o3 =>
      (((((Below.refl _ w).alloc Ze o1).alloc (by simp) o2).alloc (by simp;omega) o3).cell (p:=⟨gb,ob+j,none⟩) ap).trans hc
     have h3:¬ (j:Int)<0:=by omega
     have h4:¬ (m:Int)<=j:=by omega
     by_cases hn:s j<0
     ·obtain rfl:=R.out (show Qah m s k j=none by unfold Qah;rw[Xr H,Xr (by omega),Xs (by simpa using hn)]);clear H R X P2;generalize s j=z at hc hn ai;go_enter func161,ntmps161
      go_wp2_with fail
      exact Xy (v:=.tuple #[zeroT,.bool false]) (by simp[results,results161,go_sem]) Z ⟨Z,(((Below.refl _ w).alloc Ze _).alloc (by simp) _).alloc (by simp;omega) _⟩
     ·have HR:Hid (Qah m s k j=some (s j)):=by show _=_;unfold Qah;rw[Xr H,Xr (by omega),Xr (by simpa using hn)];rfl
      clear H R;have R:Hid True:=trivial;generalize s j=z at hc hn HR ai;go_enter func161,ntmps161
      go_wp2_with fail
      clear ai hc hn N h2 h3 h4 ap;have X0:=RdX.start (n:=n) w k j a l.length c z;generalize ((w.alloc (.cells #[Iv k,Iv j,.slice a l.length c] 105)).alloc (.cells #[Iv 0,Iv 0,Nv] 105)).alloc (.cells #[Iv k,Iv z,Nv] 105)=w1 at X0 |-;have Y0:Hid (RdX w w1 k j a l.length c z (Nv) ([]:List (TT n)) []):=X0;clear X0;go_loopw [7] (fun i wr=>∃ q:Nat,q<=l.length/\i=Iv q/\∃ (v:Value) (h:List (TT n)) (xs:List Value),h.length=q/\(∀ (j:Nat) x,j<q->l[j]?=some x->x.ren m s=h[j]?)/\RdX w wr k j a l.length c z v h xs) (fun i _=>l.length - (intOf i).toNat)
      case atStart=>exact⟨0,Xb _,Z,_,[],[],Z,fun j x hj=>by omega,Y0.out⟩
      case round =>
       clear Y0;obtain⟨q,hq,rfl,v,h,xs,ac,S,hY⟩:=hrel
       have A:Hid (h.length=q/\∀ (j:Nat) x,j<q->l[j]?=some x->x.ren m s=h[j]?):=⟨ac,S⟩;have Y:Hid (RdX w wr k j a l.length c z v h xs):=hY;clear ac S hY;have e2:wr.cell? ⟨w.heap.size,2,none⟩=some (.slice a l.length c):=Qa Y.out.bx.box 2 _ Z;by_cases ag:q<l.length
       ·have M:l[q]?=some l[q]:=Zg ag;generalize l[q]=x at M;obtain⟨g,o,a',c',rfl,_,d0,d1,d2,H⟩:=LIn.at (hT.out.below Y.out.bx.bel) M
        have W:Hid (l[q]?=some x):=M
        have C:Hid (Calls prog 161 #[Tv x a' c',.slice (some ⟨gb,ob,none⟩) m d] wr fun e w'=>Qfc wr w' (x.ren m s) e) :=
         IH.out x a' c' (some ⟨gb,ob,none⟩) m d s wr H (ah.out x (Zm M)) (aj.out.below Y.out.bx.bel)
        clear H M;simp only[Tv] at C
        generalize x.kind=kx at C d0;generalize x.r=rx at C d1;generalize x.len=lx at C d2;have av:(0:Int)<=q:=by omega
        have ak:(q:Int)<l.length:=by omega
        have aw:(q:Int)<2000:=by omega
        go_wp2_with fail
        refine C.out.mono ?_;rintro e G h4;clear C d0 d1 d2 e2
        cases hxr:x.ren m s with
        | none =>
          rw[hxr] at h4
          obtain⟨rfl,b4⟩:=h4
          have I:ad=none:=X.out (Qdh W.out hxr);subst I;have B:=Y.out.below b4;have al:w.heap.size+1<G.heap.size:=XC B.bx.res;have D:=QcI (B.bx.stored 0 0 none 0 0) (.cells #[Iv 0,Iv 0,Nv] 105);have DD:Hid (Below w.heap.size w _):=D.2;have g0:=Qa B.bx.res 0 _ Z;have g1:=Qa B.bx.res 1 _ Z;have L:=Qa B.bx.res 2 _ Z;have y0:=Qd B.bx.res 0;have y1:=Qd B.bx.res 1;have y2:=Qd B.bx.res 2;have x0:=Qa D.1 0 _ Z;have x1:=Qa D.1 1 _ Z;have x2:=Qa D.1 2 _ Z;clear D B b4 hxr A Y R X P2;go_wp2_with fail
          exact Xy (v:=.tuple #[zeroT,.bool false]) (by simp[results,results161,go_sem,x0,x1,x2]) Z ⟨Z,DD.out⟩
        | some u =>
          rw[hxr] at h4
          obtain⟨P,V,rfl,t4,b4⟩:=h4
          simp only[Tv]
          have B:=Y.out.below b4;have al:w.heap.size+2<G.heap.size:=XC B.u;have hv:G.cell? ⟨w.heap.size+2,2,none⟩=some v:=Qa B.u 2 _ Z;have F:=A.out.1;have J:=B.row.own;rw[F] at J
          have T4:TIn G (But (w.heap.size+3) v) u P:=t4.mono (fun k H _=>⟨by have:=XC Y.out.u;have ae:wr.heap.size<=k:=H;omega,fun e=>by have:=(Y.out.row.lo_le e).2;have ae:wr.heap.size<=k:=H;omega⟩)
          have PU:Hid (∀ L f Q,Q.ownsRow (w.heap.size+3) 105 3 (.slice (some ⟨L,0,none⟩) (q+1) f) (q+1) (xs++[Iv u.kind,Iv u.r,.slice P u.len V])->((G.alloc (.cells #[Iv u.kind,Iv u.r,.slice P u.len V] 105)).alloc (.cells #[Iv u.kind,Iv u.r,.slice P u.len V] 105)).grownBy Q v.ownBlock->(v.ownBlock=some L\/L=G.heap.size+1+1) ->
           (Q.cell? ⟨w.heap.size+2,2,none⟩=some v/\Q.frozen? ⟨w.heap.size+2,2,none⟩=false) /\
           ∃ (v:Value) (h:List (TT n)) (xs:List Value),v=.slice (some ⟨L,0,none⟩) (q+1) f/\h.length=q+1/\(∀ (j:Nat) x,j<q+1->l[j]?=some x->x.ren m s=h[j]?)/\RdX w (Q.setCell ⟨w.heap.size+2,2,none⟩ v) k j (some ⟨g,o,none⟩) l.length c z v h xs):=by
           intro L f Q N h2 h3;have b5:Below G.heap.size G ((G.alloc (.cells #[Iv u.kind,Iv u.r,.slice P u.len V] 105)).alloc (.cells #[Iv u.kind,Iv u.r,.slice P u.len V] 105)):=((Below.refl _ G).alloc Ze _).alloc (by simp) _
           have:=(B.below b5).push (x:=u) (a':=P) (c':=V) (cap:=f) (g:=L) (T4.below b5) h2 (by simpa using h3) (by rw[F];exact N)
           rw[F] at this
           refine⟨⟨Qa this.1 2 _ Z,Qd this.1 2⟩,_,_,_,Z,?_,fun j y hj hy=>?_,this.2⟩
           ·simp[F]
           ·by_cases e:j=q
            ·subst e;rw[W.out] at hy
             cases hy
             rw[hxr,XQ (by omega),F,Nat.sub_self]
             rfl
            ·rw[XP (by omega)]
             exact A.out.2 j y (by omega) hy
          clear B b4 hxr A Y R X t4 T4 W F;generalize u.kind=ku at PU |-;generalize u.r=ru at PU |-;generalize u.len=lu at PU |-;go_wp2_with (at_builtin;refine wpList_append_lies _ Z (.tmp 63) (.tmp 65) 80 Z (w.heap.size+3) 105 i0 (.agg #[Iv 0,Iv 0,Nv]) 3 40 underTs hi ar aq ao Z (by decide) _ _ _ Z ((J.alloc _).alloc _) ⟨G.heap.size+1,0,none⟩ 1 1 [Iv ku,Iv ru,.slice P lu V] Z Z (Qla _ _ _ _ _) (QnB _ _ _ _ _) (by decide) (by unfold maxLen;omega) (by omega) (by simp;omega) (G.heap.size+1+1) (by simp) ?_)
          intro L f Q N K aa ab;obtain⟨⟨s1,s2⟩,U2⟩:=PU.out L f Q N K aa
          obtain⟨_,l2,am,rfl,U3⟩:=U2
          have U4:Hid _:=U3;clear N K aa ab J PU hv U3;go_wp2
          go_roundw
          case rel=>exact⟨q+1,by omega,by go_num,_,l2,am,U4.out⟩
          case measure=>simp[intOf];omega
       ·have ak:¬ (q:Int)<l.length:=by omega
        have E:h.length=l.length:=by have:=A.out.1;omega
        have I:ad=some (mkT k z h):=P2.out z h HR.out (ZX.2 ⟨E,fun i x M=>A.out.2 i x (by have:=(Zi M).1;omega) M⟩);subst I;obtain⟨U,T,rfl,L5⟩:=Y.out.row.lin
        rw[E] at Y
        have u0:wr.cell? ⟨w.heap.size+2,0,none⟩=some (Iv k):=Qa Y.out.u 0 _ Z;have u1:wr.cell? ⟨w.heap.size+2,1,none⟩=some (Iv z):=Qa Y.out.u 1 _ Z;have u2:wr.cell? ⟨w.heap.size+2,2,none⟩=some (.slice U l.length T):=Qa Y.out.u 2 _ Z;have g0:=Qa Y.out.bx.res 0 _ Z;have g1:=Qa Y.out.bx.res 1 _ Z;have L:=Qa Y.out.bx.res 2 _ Z;have y0:=Qd Y.out.bx.res 0;have y1:=Qd Y.out.bx.res 1;have y2:=Qd Y.out.bx.res 2;have D:=Y.out.bx.stored k z U l.length T;have x0:=Qa D.1 0 _ Z;have x1:=Qa D.1 1 _ Z;have x2:=Qa D.1 2 _ Z
        have O:Hid (Qfc w (((wr.setCell ⟨w.heap.size+1,0,none⟩ (Iv k)).setCell ⟨w.heap.size+1,1,none⟩ (Iv z)).setCell ⟨w.heap.size+1,2,none⟩ (.slice U l.length T)) (some (mkT k z h)) (.returned (.tuple #[.agg #[Iv k,Iv z,.slice U l.length T],.bool true]))):=by
         refine⟨U,T,?_,?_,D.2⟩
         ·show _=Ending.returned (.tuple #[.agg #[Iv k,Iv z,.slice U h.length T],.bool true]);rw[E]
         ·have:=((L5.setCell (p:=⟨w.heap.size+1,0,none⟩) (by simp) (Iv k)).setCell (p:=⟨w.heap.size+1,1,none⟩) (by simp) (Iv z)).setCell (p:=⟨w.heap.size+1,2,none⟩) (by simp) (.slice U l.length T)
          exact(LIn.tree this).mono (fun k H _=>by omega)
        clear D A Y R X P2 E L5;go_wp2_with fail
        exact Xy (v:=.tuple #[.agg #[Iv k,Iv z,.slice U l.length T],.bool true]) (by simp[results,results161,go_sem,x0,x1,x2]) Z O.out
def Zn (e:Ending) (A:Prop):Prop:=∃ q:Bool,e=.returned (.bool q)/\(q=true↔A)
theorem Zn.yes {A:Prop}(h:A):Zn (.returned (.bool true)) A:=⟨true,Z,by simp[h]⟩
theorem Zn.no {A:Prop}(h:¬ A):Zn (.returned (.bool false)) A:=⟨false,Z,by simp[h]⟩
def Qej (f:Nat) (n:Nat):Prop:=∀ (t u:TT n) (a b:Option Addr) (c d:Nat) (w:World),TIn w All t a->TIn w All u b->t.count<=100000 ->
 Calls prog f #[Tv t a c,Tv u b d] w fun e w'=>Zn e (t=u)/\Below w.heap.size w w'
theorem Qff (n:Nat) (L:Qej 97 n) (l m:List (TT n)) (a b:Option Addr) (c d:Nat) (w:World) (M:LIn w All l a) (J:LIn w All m b) (T:l.length<=100000) (D:∀ x∈l,x.count<=100000) :
 Calls prog 61 #[.slice a l.length c,.slice b m.length d] w fun e w'=>Zn e (l=m)/\Below w.heap.size w w':=by
 have IH:Hid (Qej 97 n):=L;have hl:Hid (LIn w All l a):=M;have hm:Hid (LIn w All m b):=J;have Q:Hid (∀ x∈l,x.count<=100000):=D;clear L M J D;by_cases s:l.length=m.length
 ·have I:((l.length:Int) != (m.length:Int))=false:=by simp;omega
  have E:Hid (l.length=m.length):=s;clear s;go_enter func61,ntmps61
  go_wp2_with fail
  go_loopw [5] (fun i wr=>∃ q:Nat,q<=l.length/\i=Iv q/\(∀ j,j<q->l[j]?=m[j]?)/\Below w.heap.size w wr) (fun i _=>l.length - (intOf i).toNat)
  case atStart=>exact⟨0,Xb _,Z,fun j hj=>by omega,Zr⟩
  case round =>
   obtain⟨q,hq,rfl,z,hb⟩:=hrel
   have A:Hid (∀ j,j<q->l[j]?=m[j]?):=z;have B:Hid (Below w.heap.size w wr):=hb;clear z hb;by_cases O:q<l.length
   ·have G:l[q]?=some l[q]:=Zg O;have S:q<m.length:=by have:=E.out;omega
    have N:m[q]?=some m[q]:=Zg S;generalize l[q]=x at G;generalize m[q]=y at N;obtain⟨g,o,a',c',rfl,_,d0,d1,d2,W⟩:=LIn.at (hl.out.below B.out) G
    obtain⟨g',o',b',U,rfl,_,d3,d4,d5,H⟩:=LIn.at (hm.out.below B.out) N
    have C:Hid (∀ k,Calls prog 97 #[Tv x a' c',Tv y b' U] (wr.drewN k) fun e w'=>Zn e (x=y)/\Below wr.heap.size wr w') :=
     fun k=>(IH.out x y a' b' c' U _ (W.drewN k) (H.drewN k) (Q.out x (Zm G))).mono (fun e w' h=>⟨h.1,QaZ h.2⟩)
    have f:Hid (l[q]?=some x):=G;have u:Hid (m[q]?=some y):=N;clear W H G N;have aa:(0:Int)<=q:=by omega
    have P:(q:Int)<l.length:=by omega
    have ab:(q:Int)<m.length:=by omega
    go_upto_region 6 with fail
    go_cut [26] (fun t wx=>∃ p:Bool,t=.bool (!p)/\(p=true↔x=y)/\Below wr.heap.size wr wx)
    case first =>
     go_region_with (go_at_call 97;refine(C.out 1).mono ?_;rintro r w5 ⟨⟨p,rfl,F⟩,K⟩;have HP:Hid (p=true↔x=y):=F;have B5:Hid (Below wr.heap.size wr w5):=K;clear F K)
     all_goals
      go_wp2
      go_meet;exact⟨p,Z,HP.out,B5.out⟩
    case rest =>
     obtain⟨p,rfl,F,K⟩:=hcut
     have V:Hid (Below w.heap.size w wc):=B.out.trans (K.mono B.out.size);clear C K B d0 d1 d2 d3 d4 d5
     cases p with
     | true =>
       have v:x=y:=F.1 Z
       have A2:Hid (∀ j,j<q+1->l[j]?=m[j]?):=fun j hj=>by
        by_cases e:j=q
        ·subst e;rw[f.out,u.out,v]
        ·exact A.out j (by omega)
       clear F v f u A;go_wp2
       go_roundw
       case rel=>exact⟨q+1,by omega,by go_num,A2.out,V.out⟩
       case measure=>simp[intOf];omega
     | false =>
       have v:Hid (¬ l=m):=fun h=>by
        have X:=f.out;rw[h,u.out] at X
        have:=F.2 (Xn X).symm
        cases this
       clear F f u A;go_wp2
       go_ret;exact⟨Zn.no v.out,V.out⟩
   ·have R:Hid (l=m):=by
     have:=E.out
     refine List.ext_getElem? (fun i=>?_);by_cases hi:i<q
     ·exact A.out i hi
     ·rw[Xk (by omega),Xk (by omega)]
    have P:¬ (q:Int)<l.length:=by omega
    clear A;go_wp2
    go_ret;exact⟨Zn.yes R.out,B.out⟩
 ·have I:((l.length:Int) != (m.length:Int))=true:=by simp;omega
  have E:Hid (l.length≠m.length):=s;clear s;go_enter func61,ntmps61
  go_wp2
  go_ret;exact⟨Zn.no (fun h=>E.out (by rw[h])),Zr⟩
theorem TT.eq_iff {t u:TT (n+1)}:t=u↔t.kind=u.kind/\t.r=u.r/\t.2.2=u.2.2:=by
 obtain⟨a,b,c⟩:=t
 obtain⟨d,e,f⟩:=u
 constructor
 ·intro h;cases h;exact⟨Z,Z,Z⟩
 ·rintro ⟨rfl,rfl,rfl⟩;rfl
theorem samet_any:∀ n,Qej 97 n:=by
 intro n
 induction n with
 | zero=>intro t;exact Empty.elim t
 | succ n ih =>
   intro t u a b c d w A y H;have i:∀ x∈t.2.2,x.count<=100000:=fun x L=>by have:=t.count_kid L;omega
   have f:t.2.2.length<=100000:=by have:=t.len_lt_count;rw[t.len_eq] at this;omega
   have C:Hid (∀ g,Below w.heap.size w g->Calls prog 61 #[.slice a t.2.2.length c,.slice b u.2.2.length d] g fun e J=>Zn e (t.2.2=u.2.2)/\Below g.heap.size g J) :=
    fun g D=>Qff n ih t.2.2 u.2.2 a b c d g (A.below D) (y.below D) f i
   rw[TT.eq_iff]
   simp only[Tv,TT.len_eq] at C |-
   generalize t.2.2.length=p at C |-;generalize u.2.2.length=q at C |-;generalize (t.2.2=u.2.2)=E at C |-;generalize t.kind=k;generalize t.r=r;generalize u.kind=o;generalize u.r=s;clear i f H A y ih t u;by_cases j:k=o
   ·subst j;by_cases m:r=s
    ·subst m;go_enter func97,ntmps97
     go_wp2_with fail
     have l:Below w.heap.size w ((w.alloc (.cells #[Iv k,Iv r,.slice a p c] 105)).alloc (.cells #[Iv k,Iv r,.slice b q d] 105)):=((Below.refl _ w).alloc Ze _).alloc (by simp) _;refine(C.out _ l).mono ?_
     rintro e I ⟨⟨v,rfl,z⟩,F⟩;have B:Hid (Below w.heap.size w I):=l.trans (F.mono l.size);have V:Hid (v=true↔E):=z;clear F C z l
     cases v
     all_goals
      go_wp2
      go_ret
     ·exact⟨Zn.no (fun h=>by have:=V.out.2 h.2.2;cases this),B.out⟩
     ·exact⟨Zn.yes (by have:=V.out;simpa using this),B.out⟩
    ·have K:(r==s)=false:=by simpa using m
     have R:Hid (¬ r=s):=m;clear m;go_enter func97,ntmps97
     go_wp2_with fail
     go_ret;exact⟨Zn.no (fun h=>R.out h.2.1),((Below.refl _ w).alloc Ze _).alloc (by simp) _⟩
   ·have G:(k==o)=false:=by simpa using j
    have R:Hid (¬ k=o):=j;clear j;go_enter func97,ntmps97
    go_wp2_with fail
    go_ret;exact⟨Zn.no (fun h=>R.out h.1),((Below.refl _ w).alloc Ze _).alloc (by simp) _⟩
def firstI:List Int->Int
 | []=>0
 | x::xs=>if x=0 then firstI xs else x
theorem Qgw {x:Int}(a:l[k]?=some x):firstI (l.drop k)=if x=0 then firstI (l.drop (k+1)) else x:=by
 obtain⟨b,e⟩:=Zi a
 rw[List.drop_eq_getElem_cons b,e,firstI]
theorem Qh8 {Q:Nat->Prop}(t:l.length=N) (C:N<=100000) (r:intsL.In w Q l [.slice a N c]) :
 Calls prog 158 #[.slice a N c] w fun e w'=>e=.returned (Iv (firstI l))/\w'=w:=by
 have z:Hid (∀ i x,l[i]?=some x->∃ g o,a=some ⟨g,o,none⟩/\w.cell? ⟨g,o+i,none⟩=some (Iv x)):=fun i x D=>by
  obtain⟨g,o,u,B,H,K,A,v,J⟩:=Yf r D
  have q:u=[Iv x]:=v;subst q;refine⟨g,o,B,?_⟩
  have:=A 0 (by decide)
  simpa[Lay.int] using this
 have n:Hid (l.length=N):=t;clear r t;go_enter func158,ntmps158
 go_wp2
 go_loop [3] (fun i=>∃ k:Nat,k<=N/\i=Iv k/\firstI l=firstI (l.drop k)) (fun i=>N - (intOf i).toNat)
 case atStart=>exact⟨0,Xb _,Z,Z⟩
 case round =>
  obtain⟨k,I,rfl,j⟩:=hrel
  have m:Hid (firstI l=firstI (l.drop k)):=j;clear j;by_cases h:k<N
  ·have b:l[k]?=some (l[k]'(by rw[n.out];exact h)):=Zg _;generalize l[k]'(by rw[n.out];exact h)=y at b;obtain⟨g,o,rfl,G⟩:=z.out k y b
   have s:(k:Int)<N:=by omega
   have d:=Qgw b;by_cases f:y=0
   ·have F:Hid (firstI l=firstI (l.drop (k+1))):=by
     show _=_;rw[m.out,d,Xs f]
    have p:(y==0)=true:=by simpa using f
    clear f b d;go_wp2
    go_round
    case rel=>exact⟨k+1,by omega,by go_num,F.out⟩
    case measure=>simp[intOf];omega
   ·have E:Hid (firstI l=y):=by
     show _=_;rw[m.out,d,Xr f]
    have p:(y==0)=false:=by simpa using f
    clear f b d;go_wp2
    go_ret;exact⟨by rw[E.out];rfl,Z⟩
  ·have E:Hid (firstI l=0):=by
    show _=_;rw[m.out,List.drop_of_length_le (by rw[n.out];omega)]
    rfl
   go_wp2
   go_ret;exact⟨by rw[E.out];rfl,Z⟩
theorem TT.ren_count {m:Nat}{too:Nat->Int}:{n:Nat}->{t u:TT n}->t.ren m too=some u->u.count=t.count
 | 0,t,_,_=>Empty.elim t
 | n+1,t,u,h=>by
   simp only[TT.ren] at h
   cases e1:Qah m too t.1 t.2.1 with
   | none=>simp[e1] at h
   | some r1 =>
     simp only[e1] at h
     cases e2:Qal (TT.ren m too) t.2.2 with
     | none=>simp[e2] at h
     | some l1 =>
       simp only[e2] at h
       have h:=Xn h;subst h;simp only[TT.count]
       congr 2
       obtain⟨d,e⟩:=ZX.1 e2
       apply List.ext_getElem (by simp[d])
       intro i b c;simp at b c
       have a:=e i t.2.2[i] (Zg c);rw[Zg b] at a
       simp[TT.ren_count a]
def IV (w:World) (l:List Int) (v:Value):Prop:=∃ a c,v=.slice a l.length c/\intsL.In w (fun _=>True) l [.slice a l.length c]
theorem IV.below (h:IV w l v) (k:Below w.heap.size w w'):IV w' l v:=by
 obtain⟨a,c,e,h⟩:=h
 exact⟨a,c,e,Ya h k⟩
theorem QcQ (b:l.length<=100000) (h:IV w l v) :
 Calls prog 158 #[v] w fun e w'=>e=.returned (Iv (firstI l))/\w'=w:=by
 obtain⟨a,c,rfl,h⟩:=h
 exact Qh8 Z b h
theorem QgY (w:World) (t:TypeId) (l:List Int) (e:∀ x∈l,-9223372036854775808<=x/\x<=9223372036854775807) (c:Nat):IV (w.alloc (.cells (l.map (Value.int .i64)).toArray t)) l (.slice (some ⟨w.heap.size,0,none⟩) l.length c):=by
 refine⟨_,_,Z,some ⟨w.heap.size,0,none⟩,c,Z,fun i x b=>⟨w.heap.size,0,[Iv x],Z,Y,by simp,fun j d=>?_,?_⟩⟩
 ·have d:j<1:=d;have a:j=0:=by omega
  subst a
  have:=Qa (Qe w (l.map (Value.int .i64)).toArray t) i (Iv x) (by simp[b])
  simpa[Lay.int] using this
 ·exact Lay.int_mk _ _ (e x (Zm b))
theorem QcR (s:JSt) (k b:Int) (a:Bool):-9223372036854775808<=s.want k b a/\s.want k b a<=9223372036854775807:=by
 unfold JSt.want;split
 ·omega
 ·split
  ·split<;>omega
  ·omega
theorem Qm4 {Q:Nat->Prop}(f:l.length=N) (h:intsL.In w Q l [.slice a N c]):QkC w a N (fun i=>l.getD i 0):=by
 subst f;intro i b;obtain⟨g,o,e,_,_,d⟩:=ZW h b
 exact⟨g,o,e,d⟩
end Go.Proofs.YtiebmclhgebhpafGreat
