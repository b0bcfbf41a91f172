import Derived.Test.YtjhdpajpibdnaafGreatP4
set_option maxHeartbeats 16000000
set_option maxRecDepth 100000
namespace Go.Proofs.YtjhdpajpibdnaafGreat
open Go.ChangeShapes Go.WideShapes Go.ChangeAt Go.RowKit _root_.Go.Proofs.Tryz
set_option linter.unusedSimpArgs false
set_option linter.unusedVariables false
variable {w w' w6 w1 w2:World}{n b c k m rc ac X j B i cm g N d f fi cap bp q R pages id bi cc funcs s ci rl al ca ri vl most cR cA G:Nat}{O Q O':Nat→Prop}{l xs regs inp:List Int}{p a rg ag pm pi pa pR pA ra aa:Option Addr}{t e:TypeId}{v:Value}{P:Program}{L bs:List Bool}{x ya xc xk fr xa xb xn yb:Int}{ds cs:List Value}{ops:Array Oper}
theorem Zd (w:World) (c:Int):Calls prog 268 #[.bool true,Iv c] w fun e w'=>e=.returned (.tuple #[])/\w'=w:=by
 go_enter func268,ntmps268
 go_wp2
 exact Xz (v:=.tuple #[]) (by simp[results,results268,go_sem]) Z ⟨Z,Z⟩
theorem Zh (w:World) (c:Int):Calls prog 268 #[.bool false,Iv c] w fun e w'=>e=.panicked (QeR c)/\w'=w:=by
 go_enter func268,ntmps268
 go_wp2
 exact⟨Z,Z,Z⟩
theorem QbS (w:World) (ok:Bool) (c:Int):Calls prog 268 #[.bool ok,Iv c] w fun e w'=>w'=w/\((ok=true/\e=.returned (.tuple #[]))\/(ok=false/\e=.panicked (QeR c))):=by
 cases ok
 ·exact(Zh w c).mono (fun e w' h=>⟨h.2,.inr ⟨Z,h.1⟩⟩)
 ·exact(Zd w c).mono (fun e w' h=>⟨h.2,.inl ⟨Z,h.1⟩⟩)
def ZF (c:Int) (V:Value->Prop) (e:Ending):Prop:=(c=0/\∃ x,e=.returned x/\V x)\/(c≠0/\e=.panicked (QeR c))
theorem ZF.good {c:Int}{V:Value->Prop}{x:Value}(h:c=0) (a:V x):ZF c V (.returned x):=.inl ⟨h,x,Z,a⟩
theorem ZF.bad {c d:Int}{V:Value->Prop}(h:c=d) (a:d≠0):ZF c V (.panicked (QeR d)):=.inr ⟨by omega,by rw[h]⟩
def QmU (w:World) (A:Nat->Prop) (s:JSt) (a:Int) (x:Value):Prop:=∃ (t:TT 6) (p:Option Addr) (c:Nat),s.at a=some t/\x=Tv t p c/\TIn w (fun g=>¬ A g) t p/\t.ok
def JSt.has (s:JSt) (a:Int):Int:=match s.at a with | none=>1 | some _=>0
theorem Qb3 {w:World}{A:Nat->Prop}{s:JSt}(a:Int) (u:s.L.length<=80) (h:SAt w b O A s) :
 Calls prog 270 #[Pv b 0,Iv a] w fun e w'=>ZF (s.has a) (QmU w' A s a) e/\Below w.heap.size w w':=by
 have B:=Zc w (.cells #[Iv 0,Iv 0,Nv] 105);obtain⟨pm,cm,hh,a1,c1,a2,c2,a3,c3,aL,cL,R⟩:=h.read
 obtain⟨-,-,-,-,-,-,n⟩:=(R.below B).cells
 have F:=Qa R.row;have j:=Qa B;have f:Hid (Blk (w.alloc (.cells #[Iv 0,Iv 0,Nv] 105)) w.heap.size #[Iv 0,Iv 0,Nv] 105):=Blk.new _ _ _;clear R h B;go_enter func270,ntmps270
 go_upto_region 1 with fail
 generalize w.alloc (.cells #[Iv 0,Iv 0,Nv] 105)=G at n F j f |-;by_cases H:0<=a
 rotate_left
 ·have X:decide (a>=0)=false:=by simpa using H
  have E:Hid (s.has a=1):=by show _=_;unfold JSt.has JSt.at;rw[Xs (by omega)]
  generalize s.L.length=P at n u;go_wp2_with fail
  refine(Zh _ 1).mono ?_
  rintro J w' ⟨rfl,k⟩;subst k;exact⟨Z,ZF.bad E.out (by decide),j.out⟩
 obtain⟨i,rfl⟩:=Xc H
 by_cases z:i<s.L.length
 rotate_left
 ·have E:Hid (s.has (i:Int)=1):=by
   show _=_;unfold JSt.has JSt.at;rw[Xr (by omega),XT,Xk (by omega)]
  have o:¬ (i:Int)<s.L.length:=by omega
  generalize s.L.length=P at n o z u;go_wp2_with fail
  refine(Zh _ 1).mono ?_
  rintro J w' ⟨rfl,k⟩;subst k;exact⟨Z,ZF.bad E.out (by decide),j.out⟩
 have d:s.L[i]?=some s.L[i]:=Zg z;generalize s.L[i]=t at d;have x:s.at (i:Int)=some t:=by unfold JSt.at;rw[Xr (by omega)];exact d
 obtain⟨g,p,c,rfl,C,K,N,M,I⟩:=F.out i t d
 have E:Hid (s.has (i:Int)=0):=by show _=_;unfold JSt.has;rw[x]
 have l:=Xi w ⟨g,i*3,none⟩ C;have e0:=Qk C j.out;have e1:=Qk K j.out;have e2:=Qk N j.out;have S:¬ w.heap.size=g:=fun e=>by have:g<w.heap.size:=l;omega
 have D:Hid (TIn w (fun g=>¬ A g) t p/\t.ok):=⟨M,I⟩;have V:=Qa x;have y:(i:Int)<s.L.length:=by omega
 clear C K N M I d x F l;have y0:=Qb f.out 0 _ Z;have y1:=Qb f.out 1 _ Z;have y2:=Qb f.out 2 _ Z;have z0:=Qj f.out 0;have z1:=Qj f.out 1;have z2:=Qj f.out 2;generalize T:s.L.length=P at n z y u;go_wp2_with (go_at_call 268;refine(Zd _ _).mono ?_;rintro J w' ⟨rfl,k⟩;have k:=k.symm;subst k)
 have m:=f.out.set3 (Iv t.kind) (Iv t.r) (.slice p t.len c);have q:Below w.heap.size w (((G.setCell ⟨w.heap.size,0,none⟩ (Iv t.kind)).setCell ⟨w.heap.size,1,none⟩ (Iv t.r)).setCell ⟨w.heap.size,2,none⟩ (.slice p t.len c)):=((j.out.setCell Ze _).setCell Ze _).setCell Ze _;generalize ((G.setCell ⟨w.heap.size,0,none⟩ (Iv t.kind)).setCell ⟨w.heap.size,1,none⟩ (Iv t.r)).setCell ⟨w.heap.size,2,none⟩ (.slice p t.len c)=w9 at m q |-;have Q:=Qb m 0 _ Z;have W:=Qb m 1 _ Z;have U:=Qb m 2 _ Z;exact Xy (v:=Tv t p c) (by simp[results,results270,go_sem,Q,W,U]) Z ⟨ZF.good E.out ⟨t,p,c,V.out,Z,D.out.1.below q,D.out.2⟩,q⟩
theorem Qgc {s:JSt}{a c:Int}{b:Bool}(h:s.has a≠0):s.want a c b=s.has a:=by
 unfold JSt.has JSt.want at *
 cases e:s.at a with
 | none=>rfl
 | some t=>rw[e] at h;exact absurd Z h
theorem SAt.more {w:World}{A:Nat->Prop}{s:JSt}(f:∀ k,O k->k<w.heap.size) (h:SAt w b O A s) (k:Below w.heap.size w w'):SAt w' b O (fun k=>A k\/w.heap.size<=k) s :=
 h.keep (fun g c _=>k.block g c) (fun _ h _=>h) (fun k a d e=>by rcases e with e | e;exact a e;omega) (fun k a=>.inl (h.sub k a))
theorem TIn.over {w w9:World}{A:Nat->Prop}{n:Nat}{t:TT n}{p:Option Addr}(h:TIn w2 (fun g=>¬ (A g\/w.heap.size<=g)) t p) (c:Below w.heap.size w w2) (b:Below w.heap.size w w9):TIn w9 (fun g=>¬ (A g\/w.heap.size<=g)) t p :=
 h.keep (fun k a _=>(b.block k (Nat.lt_of_not_le (fun e=>a (.inr e)))).trans (c.block k (Nat.lt_of_not_le (fun e=>a (.inr e)))).symm) (fun _ h _=>h)
theorem TIn.less {w:World}{A:Nat->Prop}{n:Nat}{t:TT n}{p:Option Addr}(h:TIn w2 (fun g=>¬ (A g\/w.heap.size<=g)) t p):TIn w2 (fun g=>¬ A g) t p:=h.mono (fun k a _ e=>a (.inl e))
structure QhC (w wc:World) (R B:Nat) (A:Nat->Prop){n:Nat}(t:TT n) (p:Option Addr) (c:Nat):Prop where
 bel:Below w.heap.size w wc
 res:Blk wc R #[Iv 0,Iv 0,Nv] 105
 box:Blk wc B #[Iv t.kind,Iv t.r,.slice p t.len c] 105
 lay:TIn wc (fun g=>¬ (A g\/w.heap.size<=g)) t p
 farR:w.heap.size<=R
 farB:w.heap.size<=B
 ne:¬ B=R
section
variable {w wc w9:World}{R B:Nat}{A:Nat->Prop}{n:Nat}{t:TT n}{p:Option Addr}{c:Nat}
theorem QhC.below (h:QhC w wc R B A t p c) (k:Below wc.heap.size wc w9):QhC w w9 R B A t p c :=
 ⟨h.bel.trans (k.mono h.bel.size),h.res.below k,h.box.below k,h.lay.below k,h.farR,h.farB,h.ne⟩
theorem QhC.cells (h:QhC w wc R B A t p c):wc.cell? ⟨B,0,none⟩=some (Iv t.kind)/\wc.cell? ⟨B,1,none⟩=some (Iv t.r)/\wc.cell? ⟨B,2,none⟩=some (.slice p t.len c) /\
 wc.cell? ⟨R,0,none⟩=some (Iv 0)/\wc.cell? ⟨R,1,none⟩=some (Iv 0)/\wc.cell? ⟨R,2,none⟩=some (Nv)/\wc.frozen? ⟨R,0,none⟩=false/\wc.frozen? ⟨R,1,none⟩=false/\wc.frozen? ⟨R,2,none⟩=false :=
 ⟨Qb h.box 0 _ Z,Qb h.box 1 _ Z,Qb h.box 2 _ Z,Qb h.res 0 _ Z,Qb h.res 1 _ Z,Qb h.res 2 _ Z,Qj h.res 0,Qj h.res 1,Qj h.res 2⟩
theorem QnB {k r:Int}{q:Option Addr}{l:Nat}(c:Below w.heap.size w wc) (b:Blk wc R #[Iv 0,Iv 0,Nv] 105) (a:w.heap.size<=R) :
 Blk (((wc.setCell ⟨R,0,none⟩ (Iv k)).setCell ⟨R,1,none⟩ (Iv r)).setCell ⟨R,2,none⟩ (.slice q l d)) R #[Iv k,Iv r,.slice q l d] 105/\Below w.heap.size w (((wc.setCell ⟨R,0,none⟩ (Iv k)).setCell ⟨R,1,none⟩ (Iv r)).setCell ⟨R,2,none⟩ (.slice q l d)) :=
 ⟨b.set3 _ _ _,((c.setCell (p:=⟨R,0,none⟩) a _).setCell (p:=⟨R,1,none⟩) a _).setCell (p:=⟨R,2,none⟩) a _⟩
theorem QhC.mk1 (a:Below w.heap.size w wc) (b:Blk wc R #[Iv 0,Iv 0,Nv] 105) (h:w.heap.size<=R) (e:TIn wc (fun g=>¬ (A g\/w.heap.size<=g)) t p) :
 QhC w (wc.alloc (.cells #[Iv t.kind,Iv t.r,.slice p t.len c] 105)) R wc.heap.size A t p c:=by
 have d:=Zc wc (.cells #[Iv t.kind,Iv t.r,.slice p t.len c] 105);have f:=b.lt;exact⟨a.trans (d.mono a.size),b.below d,Blk.new _ _ _,e.alloc _,h,a.size,by omega⟩
end
theorem QhC.told {w wc:World}{R B:Nat}{A:Nat->Prop}{s:JSt}{a:Int}{t:TT 6}{p:Option Addr}{c:Nat}(h:QhC w wc R B A t p c) (g:s.at a=some t) (b:t.ok) :
 ∃ w9,w9=((wc.setCell ⟨R,0,none⟩ (Iv t.kind)).setCell ⟨R,1,none⟩ (Iv t.r)).setCell ⟨R,2,none⟩ (.slice p t.len c)/\w9.cell? ⟨R,0,none⟩=some (Iv t.kind)/\w9.cell? ⟨R,1,none⟩=some (Iv t.r)/\w9.cell? ⟨R,2,none⟩=some (.slice p t.len c) /\
  QmU w9 A s a (Tv t p c)/\Below w.heap.size w w9:=by
 obtain⟨e,f⟩:=QnB (k:=t.kind) (r:=t.r) (q:=p) (l:=t.len) (d:=c) h.bel h.res h.farR
 exact⟨_,Z,Qb e 0 _ Z,Qb e 1 _ Z,Qb e 2 _ Z,⟨t,p,c,g,Z,(h.lay.over h.bel f).less,b⟩,f⟩
theorem QeA {w:World}{A:Nat->Prop}{s:JSt}(a d:Int) (W:s.L.length<=80) (I:∀ k,O k->k<w.heap.size) (h:SAt w b O A s) :
 Calls prog 266 #[Pv b 0,Iv a,Iv d] w fun e w'=>ZF (s.want a d false) (QmU w' A s a) e/\Below w.heap.size w w':=by
 have H:=Zc w (.cells #[Iv 0,Iv 0,Nv] 105);have J:=Qa (h.more I H);have n:=Qa H;have o:Hid (Blk (w.alloc (.cells #[Iv 0,Iv 0,Nv] 105)) w.heap.size #[Iv 0,Iv 0,Nv] 105):=Blk.new _ _ _;clear h H;go_enter func266,ntmps266
 go_upto_region 1 with fail
 generalize w.alloc (.cells #[Iv 0,Iv 0,Nv] 105)=w1 at J n o |-;obtain⟨R,C⟩:∃ R,w.heap.size=R:=⟨_,Z⟩
 have HR:=Qa (Nat.le_of_eq C);rw[C] at o |-
 clear C;go_wp2_with fail
 refine(Qb3 a W J.out).mono ?_
 rintro Q D ⟨I,G⟩;have U:Hid (Below w.heap.size w D):=n.out.trans (G.mono n.out.size);have T:=Qa (o.out.below G);rcases I with ⟨q,x,rfl,t,p,c,P,rfl,K,j⟩|⟨q,rfl⟩
 rotate_left
 ·exact⟨Z,.inr ⟨by rw[Qgc q];exact q,by rw[Qgc q]⟩,U.out⟩
 have f:=Qa (QhC.mk1 (c:=c) U.out T.out HR.out K);have y:=Qa (Xh P j);clear K P j G o n J T;go_upto_region 2 with fail
 generalize D.alloc (.cells #[Iv t.kind,Iv t.r,.slice p t.len c] 105)=w3 at f |-;generalize D.heap.size=B at f |-;obtain⟨y0,y1,y2,r0,r1,r2,z0,z1,z2⟩:=f.out.cells
 have aa:=f.out.ne;by_cases m:t.kind=d
 rotate_left
 ·have g:(t.kind==d)=false:=by simpa using m
  have E:Hid (s.want a d false=9):=by show _=_;unfold JSt.want;rw[y.out.1];simp[m]
  generalize t.kind=tk at y0 m g;go_wp2_with fail
  refine(Zh _ 9).mono ?_
  rintro Q w' ⟨rfl,i⟩;subst i;exact⟨Z,ZF.bad E.out (by decide),f.out.bel⟩
 ·subst m;have g:(t.kind==t.kind)=true:=by simp
  have E:Hid (s.want a t.kind false=0):=by show _=_;unfold JSt.want;rw[y.out.1];simp
  obtain⟨F,N,l,z,u,S,M⟩:=f.out.told y.out.1 y.out.2
  have V:=Qa (Xh S M);have X:Hid (F.cell? ⟨R,0,none⟩=some (Iv t.kind)/\F.cell? ⟨R,1,none⟩=some (Iv t.r)/\F.cell? ⟨R,2,none⟩=some (.slice p t.len c)):=⟨l,z,u⟩;have H9:=Qa N;clear S M l z u N;go_wp2_with (go_at_call 268;refine(Zd _ _).mono ?_;rintro Q w' ⟨rfl,i⟩;have i:=i.symm;subst i)
  rw[<-H9.out]
  obtain⟨l,z,u⟩:=X.out
  exact Xy (v:=Tv t p c) (by simp[results,results266,go_sem,l,z,u]) Z ⟨ZF.good E.out V.out.1,V.out.2⟩
theorem QeU {s:JSt}{a b:Int}(h:s.want a b false≠0):s.want a b true=s.want a b false:=by
 unfold JSt.want at *
 cases e:s.at a with
 | none=>rfl
 | some t =>
   rw[e] at h
   by_cases c:t.kind=b
   ·simp[c] at h
   ·simp[c]
theorem QgY {s:JSt}{a b:Int}{t:TT 6}(h:s.want a b false=0) (d:s.at a=some t):s.want a b true=if hHas s.H t.r then 0 else 10:=by
 unfold JSt.want at *;rw[d] at h |-
 by_cases c:t.kind=b
 ·simp only[c,if_true,Bool.true_and]
  cases hHas s.H t.r<;>rfl
 ·simp[c] at h
theorem Qae {w:World}{A:Nat->Prop}{s:JSt}(a d:Int) (hL:s.L.length<=80) (l:∀ k,O k->k<w.heap.size) (h:SAt w b O A s) :
 Calls prog 248 #[Pv b 0,Iv a,Iv d] w fun e w'=>ZF (s.want a d true) (QmU w' A s a) e/\Below w.heap.size w w':=by
 have P:=Zc w (.cells #[Iv 0,Iv 0,Nv] 105);have I:=Qa (h.more l P);have j:=Qa P;have z:Hid (Blk (w.alloc (.cells #[Iv 0,Iv 0,Nv] 105)) w.heap.size #[Iv 0,Iv 0,Nv] 105):=Blk.new _ _ _;have HO:=Qa l;clear h P l;go_enter func248,ntmps248
 go_upto_region 1 with fail
 generalize w.alloc (.cells #[Iv 0,Iv 0,Nv] 105)=w1 at I j z |-;obtain⟨R,J⟩:∃ R,w.heap.size=R:=⟨_,Z⟩
 have HR:=Qa (Nat.le_of_eq J);rw[J] at z |-
 clear J;go_wp2_with fail
 refine(QeA a d hL (fun k hk=>Zl (HO.out k hk) j.out.size) I.out).mono ?_
 rintro e' u ⟨l,D⟩;have B2:Hid (Below w.heap.size w u):=j.out.trans (D.mono j.out.size);have X2:=Qa (z.out.below D);have U:=Qa (I.out.below D);rcases l with ⟨g,x,rfl,t,p,c,M,rfl,T,n⟩|⟨g,rfl⟩
 rotate_left
 ·exact⟨Z,.inr ⟨by rw[QeU g];exact g,by rw[QeU g]⟩,B2.out⟩
 have i:=Qa (QhC.mk1 (c:=c) B2.out X2.out HR.out T);have HA:=Qa (Xh M n);have E:=Qa (QgY g M);have S:=Qa (U.out.below (Zc u (.cells #[Iv t.kind,Iv t.r,.slice p t.len c] 105)));clear T M n D z j I X2 g U;go_upto_region 2 with fail
 generalize u.alloc (.cells #[Iv t.kind,Iv t.r,.slice p t.len c] 105)=N at i S |-;generalize u.heap.size=B at i |-;obtain⟨y0,y1,y2,r0,r1,r2,z0,z1,z2⟩:=i.out.cells
 have aa:=i.out.ne;obtain⟨pm,cm,hh,a1,c1,a2,c2,a3,c3,aL,cL,Q⟩:=S.out.read
 obtain⟨-,q1,-⟩:=Q.cells
 have C:Hid (∀ m,Calls prog 272 #[Pv hh 0,Iv t.r] (N.drewN m) fun e w'=>e=.returned (.bool (hHas s.H t.r))/\w'=N.drewN m):=fun m=>QcA t.r (show Qp (N.drewN m) hh s.H from Q.held);clear Q;generalize hHas s.H t.r=q at E C;go_region_with (first | (go_at_call 272;refine(C.out _).mono ?_;rintro e' w' ⟨rfl,f⟩;have f:=f.symm;subst f) | (go_at_call 268;refine(QbS _ _ _).mono ?_;rintro e' w' ⟨f,⟨y,rfl⟩|⟨y,rfl⟩⟩;rotate_left;exact⟨Z,ZF.bad (by rw[E.out,y];rfl) (by decide),by rw[f];exact QI i.out.bel _⟩;have f:=f.symm;subst f))
 all_goals
  have E9:Hid (s.want a d true=0):=by show _=_;rw[E.out,y];rfl
  clear y S E C;have T4:=i.out.below (QI Zr 1);obtain⟨K,W,o,G,F,hv,V⟩:=T4.told HA.out.1 HA.out.2
  have HV:=Qa (Xh hv V);have X:Hid (K.cell? ⟨R,0,none⟩=some (Iv t.kind)/\K.cell? ⟨R,1,none⟩=some (Iv t.r)/\K.cell? ⟨R,2,none⟩=some (.slice p t.len c)):=⟨o,G,F⟩;have H9:=Qa W;clear hv V o G F W T4;go_wp2
  rw[<-H9.out]
  obtain⟨o,G,F⟩:=X.out
  exact Xy (v:=Tv t p c) (by simp[results,results248,go_sem,o,G,F]) Z ⟨ZF.good E9.out HV.out.1,HV.out.2⟩
abbrev VNone:Value->Prop:=fun x=>x=.tuple #[]
theorem Qbw {A:Nat->Prop}{s:JSt}(I:l.length=N) (W:N<=100000) (D:intsL.In w Q l [.slice p N c]) (T:s.L.length<=80) (u:∀ k,O k->k<w.heap.size) (h:SAt w b O A s) :
 Calls prog 240 #[Pv b 0,.slice p N c] w fun e w'=>ZF (Qu (fun a=>s.want a 1 false) l) VNone e/\Below w.heap.size w w':=by
 have H:=Qa h;have M:=Qa u;have U:=Qa D;have G:=Qa I;clear h u D I;go_enter func240,ntmps240
 go_wp2
 go_loopw [8] (fun i wr=>∃ k:Nat,k<=N/\i=Iv k/\Below w.heap.size w wr/\∀ (j:Nat) (y:Int),j<k->l[j]?=some y->s.want y 1 false=0) (fun i _=>N - (intOf i).toNat)
 case atStart=>exact⟨0,Xb _,Z,Zr,fun j y S=>by omega⟩
 case round =>
  obtain⟨k,C,rfl,F,J⟩:=hrel
  have q:=Qa F;have z:=Qa J;clear F J;by_cases r:k<N
  ·have t:(k:Int)<N:=by omega
   have m:k<l.length:=by rw[G.out];exact r
   obtain⟨g,o,rfl,-,hg,f⟩:=ZH U.out m
   obtain⟨y,d⟩:∃ y,l[k]?=some y:=⟨_,Zg m⟩
   rw[show l.getD k 0=y by rw[List.getD_eq_getElem?_getD,d];rfl] at f
   have B:=Qa d;clear d;have V:=Qk f q.out;clear f m;go_wp2_with fail
   refine(QeA y 1 T (fun k C=>Zl (M.out k C) q.out.size) (H.out.below q.out)).mono ?_
   rintro e' P ⟨u,E⟩;have K:Hid (Below w.heap.size w P):=q.out.trans (E.mono q.out.size);rcases u with ⟨n,x,rfl,-⟩|⟨n,rfl⟩
   rotate_left
   ·exact⟨Z,.inr ⟨by rw[Qav B.out z.out n];exact n,by rw[Qav B.out z.out n]⟩,K.out⟩
   have R:=Qa n;clear n E V;go_wp2
   go_roundw
   case rel =>
    refine⟨k+1,r,by go_num,K.out,fun j X S d=>?_⟩
    rcases Nat.lt_or_ge j k with h | h
    ·exact z.out j X h d
    ·have:j=k:=by omega
     subst this;have e:=B.out.symm.trans d;injection e with e
     subst e;exact R.out
   case measure=>simp[intOf];omega
  ·have t:¬ (k:Int)<N:=by omega
   go_wp2
   exact Xz (v:=.tuple #[]) (by simp[results,results240,go_sem]) Z ⟨ZF.good (ZZ (fun j y d=>z.out j y (by have:=(Zi d).1;rw[G.out] at this;omega) d)) Z,q.out⟩
def QZ (n m:Nat):Int:=if 80<n+m then 2 else 0
theorem QeO {A:Nat->Prop}{s:JSt}(n:Nat) (z:n<=1000) (j:s.L.length<=80) (h:SAt w b O A s) :
 Calls prog 267 #[Pv b 0,Iv n] w fun e w'=>ZF (QZ s.L.length n) VNone e/\w'=w:=by
 obtain⟨r,p,u,o,y,l,m,q,t,x,B,g⟩:=h.read
 obtain⟨-,-,-,-,-,-,i⟩:=g.cells
 clear h g;generalize s.L.length=c at i j |-;by_cases d:80<c+n
 ·have E:Hid (QZ c n=2):=Xs d;have f:decide ((c:Int)+n<=80)=false:=Xu (by omega);clear d;go_enter func267,ntmps267
  go_wp2_with fail
  refine(Zh _ 2).mono ?_
  rintro k w' ⟨rfl,a⟩;subst a;exact⟨Z,ZF.bad E.out (by decide),Z⟩
 ·have E:Hid (QZ c n=0):=Xr d;have f:decide ((c:Int)+n<=80)=true:=Xt (by omega);clear d;go_enter func267,ntmps267
  go_wp2_with (go_at_call 268;refine(Zd _ _).mono ?_;rintro k w' ⟨rfl,a⟩;have a:=a.symm;subst a)
  exact Xz (v:=.tuple #[]) (by simp[results,results267,go_sem]) Z ⟨ZF.good E.out Z,Z⟩
def QO (w:World) (b:Nat) (O A:Nat->Prop) (s s':JSt) (c:Int) (e:Ending) (w':World):Prop :=
 (c=0/\e=.returned (.tuple #[])/\STo w w' b O A s')\/(c≠0/\e=.panicked (QeR c)/\STo w w' b O A s)
theorem STo.of_below {A:Nat->Prop}{s:JSt}(h:SAt w b O A s) (a:Below w.heap.size w w'):STo w w' b O A s:=(STo.same (h.below a)).after a
theorem Yh:type_of% @STo.of_below:=@STo.of_below
theorem QO.after {A:Nat->Prop}{s i:JSt}{c:Int}{e:Ending}(h:QO w1 b O A s i c e w') (g:Below w.heap.size w w1):QO w b O A s i c e w':=by
 rcases h with ⟨d,f,a⟩|⟨d,f,a⟩
 ·exact .inl ⟨d,f,a.after g⟩
 ·exact .inr ⟨d,f,a.after g⟩
theorem QO.bad {A:Nat->Prop}{s e:JSt}{c d:Int}(h:c=d) (f:d≠0) (a:STo w w' b O A s):QO w b O A s e c (.panicked (QeR d)) w':=.inr ⟨by omega,by rw[h],a⟩
theorem Qay {A:Nat->Prop}{s:JSt}{l:List (TT 6)}(hn:l.length=n) (am:n<=8) (hl:(Qo 6).In w (fun g=>¬ A g) l [.slice p n c]) (W:s.L.length<=80) (hA:∀ k,A k->k<w.heap.size) (h:SAt w b O A s) :
 Calls prog 244 #[Pv b 0,.slice p n c] w fun e w'=>QO w b O A s { s with L:=s.L++l } (QZ s.L.length n) e w':=by
 obtain⟨i0,hi,ac,ag,aa⟩:=pInfoT
 have H:=Qa h;have B:=Qa hl;have S:=Qa hn;have C:=Qa (QeO n (by omega) W h);have af:=Qa hA;clear h hl hn hA;by_cases I:80<s.L.length+n
 ·rw[show QZ s.L.length n=2 from Xs I] at C |-
  clear I;go_enter func244,ntmps244
  go_wp2_with fail
  refine C.out.mono ?_;rintro e' w' ⟨⟨R,-⟩|⟨R,rfl⟩,i⟩
  ·cases R
  subst i;exact⟨Z,.inr ⟨by decide,Z,STo.same H.out⟩⟩
 rw[show QZ s.L.length n=0 from Xr I] at C |-
 obtain⟨q,r,xs,N,f6,D,G,f⟩:=H.out.pushL af.out
 have E:=Qa f;have z:=Qa G
 have C2:Hid (Calls prog 267 #[Pv b 0,Iv n] w fun e w'=>e=.returned (.tuple #[])/\w'=w):=C.out.mono (fun e w' h=>by
  rcases h with ⟨⟨-,x,rfl,hx⟩|⟨R,-⟩,i⟩
  ·exact⟨by rw[hx],i⟩
  ·exact absurd Z R)
 clear f G C;by_cases ak:n=0
 ·subst ak;have al:l=[]:=Xf.1 S.out;subst al
  have ha:Hid (∀ (t:TypeId) (F:World),(Builtin.append_ #[80,80] t #[.slice q s.L.length r,.slice p 0 c]).run prog F=.ok (.slice q s.L.length r) F):=fun (t:TypeId) (F:World)=>run_append_nothing (P:=prog) F 80 80 t 105 i0 pUnderT hi q s.L.length r D (.slice p 0 c) (by cases p with
   | none=>exact Src.ofNil F pUnderT c
   | some ad=>exact Src.ofSlice F pUnderT ad 0 c [] (by simp) (fun j u h=>by simp at h) (fun u h=>by cases h))
  have HZ:Hid (STo w (w.setCell ⟨b,6,none⟩ (.slice q s.L.length r)) b O A { s with L:=s.L++[] }):=by
   have e:∀ k,(w.setCell ⟨b,6,none⟩ (.slice q s.L.length r)).heap[k]?=w.heap[k]?:=fun k=>H.out.same6 N k;have hb:Below w.heap.size w (w.setCell ⟨b,6,none⟩ (.slice q s.L.length r)):=⟨Z,Z,Z,by simp,fun k _=>e k⟩;rw[List.append_nil]
   exact Yh H.out hb
  clear E z B;generalize s.L.length=nL at N ha HZ W D I;go_enter func244,ntmps244
  go_wp2_with (first | (go_at_call 267;refine(C2.out).mono ?_;rintro e w' ⟨rfl,i⟩;have i:=i.symm;subst i) | (at_builtin;refine QaJ Z (.tmp 12) (.tmp 13) 80 Z (.slice q nL r) (.slice p 0 c) Z Z (ha.out _ _) ?_))
  exact Xz (v:=.tuple #[]) (by simp[results,results244,go_sem]) Z (.inl ⟨Z,Z,HZ.out⟩)
 ·obtain⟨g0,V,rfl⟩:∃ g0 V,p=some ⟨g0,V,none⟩:=by
   obtain⟨g,o,dd,e,-⟩:=Yf B.out (Zg (show 0<l.length by have:=S.out;omega))
   exact⟨g,o,e⟩
  obtain⟨T,d1,d2,d3,d4⟩:=Lay.flat B.out (fun y cs hy=>by obtain⟨ya,yc,e,-⟩:=hy;subst e;exact QlU _ _ _ _ _)
  have K:T.length=n*3:=by rw[<-S.out];exact d1
  have ae:=Qa K;have X:=Qa d2;have ah:=Qa d3
  have d:Hid (∀ m g a,m.ownsRow 0 105 3 (.slice (some ⟨g,0,none⟩) (s.L.length+n) a) (s.L.length+n) (xs++T)->w.grownBy m (Value.slice q s.L.length r).ownBlock->((Value.slice q s.L.length r).ownBlock=some g\/g=w.heap.size)->g<m.heap.size->m.cell? ⟨b,6,none⟩=some (.slice q s.L.length r)/\m.frozen? ⟨b,6,none⟩=false/\STo w (m.setCell ⟨b,6,none⟩ (.slice (some ⟨g,0,none⟩) (s.L.length+n) a)) b O A { s with L:=s.L++l }):=by
   intro m g a J M U Q;rw[<-S.out] at J |-
   exact E.out m g a l T d1 J M U Q d4
  clear E B d1 K d2 d3 d4;have aj:Hid (0<=w.heap.size):=Xb _;have ai:s.L.length+n<=80:=by omega
  have ab:0<n:=by omega
  generalize s.L.length=nL at N z d W D I ai;go_enter func244,ntmps244
  go_wp2_with (first | (go_at_call 267;refine(C2.out).mono ?_;rintro e w' ⟨rfl,i⟩;have i:=i.symm;subst i) | (at_builtin;refine wpList_append_lies _ Z (.tmp 12) (.tmp 13) 80 Z 0 105 i0 (.agg #[Iv 0,Iv 0,Nv]) 3 40 pUnderT hi ac ag aa Z (by decide) _ _ _ Z z.out ⟨g0,V,none⟩ n c T Z ae.out X.out ah.out ab (by unfold maxLen;omega) (by omega) aj.out w.heap.size Z ?_))
  intro g2 a m J M U Q;obtain⟨ao,an,z9⟩:=d.out m g2 a J M U Q
  have Z9:=Qa z9;clear J M U Q d z z9 N f6;go_wp2
  exact Xz (v:=.tuple #[]) (by simp[results,results244,go_sem]) Z (.inl ⟨Z,Z,Z9.out⟩)
theorem Qd4 {A:Nat->Prop}(o:∀ k,A k->k<w.heap.size){t:TT 6}(n:TIn w (fun g=>¬ A g) t p) (f:t.ok) :
 (Qo 6).In (w.alloc (.cells #[Iv t.kind,Iv t.r,.slice p t.len c] 105)) (fun g=>¬ A g) [t] [.slice (some ⟨w.heap.size,0,none⟩) 1 d]:=by
 refine⟨some ⟨w.heap.size,0,none⟩,d,Z,fun i x b=>?_⟩
 have q:i<1:=by simpa using (Zi b).1
 have l:i=0:=by omega
 subst l;simp at b
 subst b;have a:=Qe w #[Iv t.kind,Iv t.r,.slice p t.len c] 105;refine⟨w.heap.size,0,[Iv t.kind,Iv t.r,.slice p t.len c],Z,fun e=>by have:=o _ e;omega,XC a,fun j m=>?_,p,c,Z,n.alloc _,f⟩
 have m:j<3:=m;match j,m with
 | 0,_=>exact Qb a 0 _ Z
 | 1,_=>exact Qb a 1 _ Z
 | 2,_=>exact Qb a 2 _ Z
 | j+3,h=>exact absurd h (by omega)
theorem QbK {A:Nat->Prop}{s:JSt}(o:s.L.length<=80) (g:∀ k,A k->k<w.heap.size) (h:SAt w b O A s) :
 Calls prog 239 #[Pv b 0] w fun e w'=>QO w b O A s { s with L:=s.L++[tInt] } (QZ s.L.length 1) e w':=by
 have C:Hid (∀ d,Calls prog 244 #[Pv b 0,.slice (some ⟨w.heap.size,0,none⟩) 1 d] (w.alloc (.cells #[Iv 1,Iv 0,Nv] 105)) fun e w'=>QO w b O A s { s with L:=s.L++[tInt] } (QZ s.L.length 1) e w'):=fun d=>by
  have f:=Zc w (.cells #[Iv 1,Iv 0,Nv] 105);refine(Qay (l:=[tInt]) Z (by decide) (Qd4 (t:=tInt) (p:=none) (c:=0) (d:=d) g (fun i x r=>by simp[tInt] at r) (by unfold TT.ok;simp[tInt])) o (fun k q=>Zl (g k q) f.size) (h.below f)).mono (fun e w' a=>a.after f)
 clear h o g;go_enter func239,ntmps239
 go_wp2_with fail
 refine(C.out _).mono ?_
 rintro u w' a;have j:=Qa a;rcases a with ⟨n,rfl,m⟩|⟨n,rfl,m⟩
 rotate_left
 ·exact⟨Z,j.out⟩
 clear n m;go_wp2
 exact Xz (v:=.tuple #[]) (by simp[results,results239,go_sem]) Z j.out
theorem Qkw (w:World) (Q:Nat->Prop) (k r:Int):TIn (n:=6) w Q (mkT k r []) none:=fun i x a=>by simp at a
theorem Qkk {k r:Int}(h:-9223372036854775808<=r/\r<=9223372036854775807) (a:-9223372036854775808<=k/\k<=9223372036854775807):TT.ok (n:=6) (mkT k r []):=by
 unfold TT.ok;simp
 omega
theorem Qc2 {A:Nat->Prop}{s:JSt}(k r:Int) (m:0<=r/\r<=1000) (f:0<=k/\k<=4) (d:Nat) (j:s.L.length<=80) (g:∀ k,A k->k<w.heap.size) (h:SAt w b O A s) :
 Calls prog 244 #[Pv b 0,.slice (some ⟨w.heap.size,0,none⟩) 1 d] (w.alloc (.cells #[Iv k,Iv r,Nv] 105)) fun e w'=>QO w b O A s { s with L:=s.L++[mkT k r []] } (QZ s.L.length 1) e w':=by
 have a:=Zc w (.cells #[Iv k,Iv r,Nv] 105);exact(Qay (l:=[mkT k r []]) Z (by simp) (Qd4 (t:=mkT k r []) (p:=none) (c:=0) (d:=d) g (Qkw _ _ _ _) (Qkk (by omega) (by omega))) j (fun k f=>Zl (g k f) a.size) (h.below a)).mono (fun e w' i=>i.after a)
def JSt.openC (s:JSt):Int:=if 80<s.L.length+1\/s.H.length=16 then 2 else 0
def JSt.openS (s:JSt):JSt:={ s with H:=s.H++[true],L:=s.L++[mkT 2 s.H.length []] }
theorem QhU {A:Nat->Prop}{s:JSt}(hH:s.H.length<=16) (Q:s.L.length<=80) (R:∀ k,A k->k<w.heap.size) (h:SAt w b O A s) :
 Calls prog 241 #[Pv b 0] w fun e w'=>QO w b O A s s.openS s.openC e w':=by
 have H:=Qa h;have T:=Qa R;have C:=Qa (QeO 1 (by decide) Q h);clear h R;by_cases n:80<s.L.length+1
 ·rw[show QZ s.L.length 1=2 from Xs n] at C
  have E:Hid (s.openC=2):=Xs (.inl n);clear n;go_enter func241,ntmps241
  go_wp2_with fail
  refine C.out.mono ?_;rintro y w' ⟨⟨q,-⟩|⟨q,rfl⟩,a⟩
  ·cases q
  subst a;exact⟨Yz,QO.bad E.out (by decide) (STo.same H.out)⟩
 rw[show QZ s.L.length 1=0 from Xr n] at C
 have M:Hid (Calls prog 267 #[Pv b 0,Iv 1] w fun e w'=>e=.returned (.tuple #[])/\w'=w):=C.out.mono (fun e w' h=>by
  rcases h with ⟨⟨-,x,rfl,V⟩|⟨q,-⟩,a⟩
  ·exact⟨by rw[V],a⟩
  ·exact absurd Yz q)
 clear C;obtain⟨hh,q1,f,i⟩:=H.out.setH T.out
 have m:=Qa (Qc5 f);have u:=Qa i;clear f i;by_cases l:s.H.length=16
 ·have E:Hid (s.openC=2):=Xs (.inr l);rw[show QbM s.H=-1 by unfold QbM;rw[Xr (by omega)],show QcH s.H=s.H by unfold QcH;rw[Xr (by omega)]] at m
  clear l n;go_enter func241,ntmps241
  go_wp2_with (first | (go_at_call 267;refine(M.out).mono ?_;rintro e w' ⟨rfl,a⟩;have a:=a.symm;subst a) | (go_at_call 237;refine(m.out).mono ?_;rintro e r ⟨rfl,c,g⟩;have Z:=Qa (u.out r _ c g);clear c g))
  refine(Zh _ 2).mono ?_
  rintro y w' ⟨rfl,a⟩;subst a;exact⟨Yz,QO.bad E.out (by decide) Z.out⟩
 ·have E:Hid (s.openC=0):=Xr (by omega);have j:s.H.length<16:=by omega
  rw[show QbM s.H=(s.H.length:Int) by unfold QbM;rw[Xs j],show QcH s.H=s.H++[true] by unfold QcH;rw[Xs j]] at m
  have I:s.H.length<=1000:=by omega
  generalize p:s.H.length=z at m j I;have G:=Qa p;have W:decide ((z:Int)>=0)=true:=Xt (by omega);clear p l;go_enter func241,ntmps241
  go_wp2_with (first | (go_at_call 267;refine(M.out).mono ?_;rintro e w' ⟨rfl,a⟩;have a:=a.symm;subst a) | (go_at_call 237;refine(m.out).mono ?_;rintro e r ⟨rfl,c,g⟩;have Z:=Qa (u.out r _ c g);clear c g))
  refine(Zd _ _).mono ?_
  rintro y w' ⟨rfl,a⟩;have a:=a.symm;subst a;obtain⟨N,K,S,D⟩:=Z.out
  have J:=Qa (Xh K D);have P:=Qa (fun d=>Qc2 2 (z:Int) (by omega) (by decide) d (by exact Q) (fun k o=>by rcases o with o | o;exact Zl (T.out k o) D.size;exact(K k o).2) S);clear K S D Z u m M;go_wp2_with fail
  refine(P.out _).mono ?_
  rintro y X U;rcases U with ⟨B,rfl,t⟩|⟨B,rfl,t⟩
  rotate_left
  ·exact absurd (Xr n) B
  have F:=Qa (STo.join J.out.1 J.out.2 t);clear B t P J;go_wp2
  refine Xz (v:=.tuple #[]) (by simp[results,results241,go_sem]) Yz (.inl ⟨E.out,Yz,?_⟩);have e:s.openS={ ({ s with H:=s.H++[true] }) with L:=({ s with H:=s.H++[true] }).L++[mkT 2 (z:Int) []] }:=by unfold JSt.openS;rw[G.out]
  rw[e]
  exact F.out
def JSt.freeC (s:JSt) (a:Int):Int:=match s.at a with
 | none=>1
 | some t=>Qv (s.want a 2 true) (if t.r<s.f.regs then 11 else 0)
def JSt.freeS (s:JSt) (a:Int):JSt:={ s with H:=s.H.set (match s.at a with | none=>0 | some t=>t.r.toNat) false }
theorem Qhy {s:JSt}{a:Int}(h:s.want a 2 true≠0):s.freeC a=s.want a 2 true:=by
 unfold JSt.freeC
 cases e:s.at a with
 | none=>unfold JSt.want;rw[e]
 | some t=>show Qv _ _=_;unfold Qv;rw[Xr h]
theorem Qi1 {A:Nat->Prop}{s:JSt}(a:Int) (X:s.L.length<=80) (P:∀ k,A k->k<w.heap.size) (h:SAt w b O A s) :
 Calls prog 242 #[Pv b 0,Iv a] w fun e w'=>QO w b O A s (s.freeS a) (s.freeC a) e w':=by
 have H:=Qa h;have R:=Qa P;clear h P;have ab:∀ (k r:Int) (p:Option Addr) (l c:Nat) (w:World),(Instr.field 105 (.agg #[Iv k,Iv r,.slice p l c]) 1).run prog w=.ok (Iv r) w:=fun _ _ _ _ _ _=>by kernel_rfl
 go_enter func242,ntmps242
 go_wp2_with fail
 refine(Qae a 2 X (fun k D=>R.out k (H.out.sub k D)) H.out).mono ?_
 rintro K w2 ⟨hO,F⟩;have B:=Qa F;have J:=Qa (H.out.below F);clear F;rcases hO with ⟨m,x,rfl,t,p,c,z,rfl,S,I⟩|⟨m,rfl⟩
 rotate_left
 ·exact⟨Yz,QO.bad (Qhy m) m (Yh H.out B.out)⟩
 have E:Hid (s.freeC a=if t.r<s.f.regs then 11 else 0):=by show _=_;unfold JSt.freeC Qv;rw[z];simp only[m,if_true]
 have i:hHas s.H t.r=true:=by
  obtain⟨t',y,e2,e3⟩:=Qab m
  rw[z] at y
  cases y
  exact e3 Yz
 have M:Hid (s.freeS a={ s with H:=QfV s.H t.r }):=by show _=_;unfold JSt.freeS QfV;rw[z,i];rfl
 obtain⟨pm,cm,hh,a1,c1,a2,c2,a3,c3,aL,cL,Q⟩:=J.out.read
 obtain⟨-,V,q2,-⟩:=Q.cells
 clear Q S I z m i;obtain⟨aa,q,d,j⟩:=J.out.setH (fun k D=>Zl (R.out k D) B.out.size)
 have y:=V.symm.trans q;simp only[Option.some.injEq,Value.pointer.injEq,Addr.mk.injEq,and_true] at y
 subst y;have N:=Qa (QjC t.r d);have W:=Qa j;clear d j q;simp only[Tv]
 generalize s.f.regs=G at q2 E;generalize t.r=C at E N M |-;by_cases g:C<G
 ·rw[Xs g] at E
  have U:decide (C>=G)=false:=Xu (by omega);clear g;go_wp2_with fail
  refine(Zh _ 11).mono ?_
  rintro K w' ⟨rfl,o⟩;subst o;exact⟨Yz,QO.bad E.out (by decide) (Yh H.out B.out)⟩
 ·rw[Xr g] at E
  have U:decide (C>=G)=true:=Xt (by omega);clear g;go_wp2_with fail
  refine(Zd _ _).mono ?_
  rintro K w' ⟨rfl,o⟩;have o:=o.symm;subst o;go_wp2_with (go_at_call 269;refine(N.out).mono ?_;rintro e T ⟨rfl,n,u⟩;have Z:=Qa (W.out T _ n u);clear n u)
  exact Xz (v:=.tuple #[]) (by simp[results,results242,go_sem]) Yz (.inl ⟨E.out,Yz,by rw[M.out];exact Z.out.after B.out⟩)
def JSt.arrayC (s:JSt) (a b:Int):Int:=Qv (Qv (s.want a 2 true) (s.want b 1 false)) (QZ s.L.length 1)
theorem Ql {a b:Int}(h:a≠0):Qv a b=a:=by unfold Qv;rw[Xr h]
theorem Qx {a b:Int}(h:a=0):Qv a b=b:=by unfold Qv;rw[Xs h]
theorem QlX (a:Int) (g:-9223372036854775808<=a/\a<=9223372036854775807) (d:Nat):intsL.In (w.alloc (.cells #[Iv a] 3)) All [a] [.slice (some ⟨w.heap.size,0,none⟩) 1 d]:=by
 refine⟨_,d,Z,fun i x b=>?_⟩
 have k:i<1:=by simpa using (Zi b).1
 have c:i=0:=by omega
 subst c;simp at b
 subst b;have f:=Qe w #[Iv a] 3;refine⟨w.heap.size,0,[Iv a],Z,Y,XC f,fun j e=>?_,Z,g⟩
 have e:j<1:=e;match j,e with
 | 0,_=>exact Qb f 0 _ Z
 | j+1,h=>exact absurd h (by omega)
theorem Qkj (a b:Int) (g:-9223372036854775808<=a/\a<=9223372036854775807) (l:-9223372036854775808<=b/\b<=9223372036854775807) (d:Nat):intsL.In (w.alloc (.cells #[Iv a,Iv b] 3)) All [a,b] [.slice (some ⟨w.heap.size,0,none⟩) 2 d]:=by
 refine⟨_,d,Z,fun i x e=>?_⟩
 have k:i<2:=by simpa using (Zi e).1
 have f:=Qe w #[Iv a,Iv b] 3;match i,k with
 | 0,_ =>
   simp at e
   subst e;refine⟨w.heap.size,0,[Iv a],Z,Y,XC f,fun j c=>?_,Z,g⟩
   have c:j<1:=c;match j,c with
   | 0,_=>exact Qb f 0 _ Z
   | j+1,h=>exact absurd h (by omega)
 | 1,_ =>
   simp at e
   subst e;refine⟨w.heap.size,0,[Iv b],Z,Y,XC f,fun j c=>?_,Z,l⟩
   have c:j<1:=c;match j,c with
   | 0,_=>exact Qb f 1 _ Z
   | j+1,h=>exact absurd h (by omega)
 | i+2,h=>exact absurd h (by omega)
theorem QeT {s:JSt}{a:Int}:Qu (fun a=>s.want a 1 false) [a]=s.want a 1 false:=by
 show (if s.want a 1 false≠0 then s.want a 1 false else 0)=_;split
 ·rfl
 ·rename_i h;exact(Xq.1 h).symm
theorem QiF {s:JSt}{a b:Int}:Qu (fun a=>s.want a 1 false) [a,b]=Qv (s.want a 1 false) (s.want b 1 false):=by
 show (if s.want a 1 false≠0 then s.want a 1 false else Qu (fun a=>s.want a 1 false) [b])=_;rw[QeT]
 by_cases h:s.want a 1 false=0
 ·rw[Xr (by simpa using h),Qx h]
 ·rw[Xs h,Ql h]
theorem QbI {A:Nat->Prop}{s:JSt}(a:Int) (f:-9223372036854775808<=a/\a<=9223372036854775807) (d:Nat) (j:s.L.length<=80) (i:∀ k,O k->k<w.heap.size) (h:SAt w b O A s) :
 Calls prog 240 #[Pv b 0,.slice (some ⟨w.heap.size,0,none⟩) 1 d] (w.alloc (.cells #[Iv a] 3)) fun e w'=>ZF (s.want a 1 false) VNone e/\Below w.heap.size w w':=by
 have c:=Zc w (.cells #[Iv a] 3)
 have:=Qbw (l:=[a]) Z (by simp) (QlX a f d) j (fun k g=>Zl (i k g) c.size) (h.below c)
 rw[QeT] at this
 exact this.mono (fun e w' h=>⟨h.1,c.trans (h.2.mono c.size)⟩)
theorem Qfe {A:Nat->Prop}{s:JSt}(a a':Int) (g:-9223372036854775808<=a/\a<=9223372036854775807) (f:-9223372036854775808<=a'/\a'<=9223372036854775807) (d:Nat) (m:s.L.length<=80) (j:∀ k,O k->k<w.heap.size) (h:SAt w b O A s) :
 Calls prog 240 #[Pv b 0,.slice (some ⟨w.heap.size,0,none⟩) 2 d] (w.alloc (.cells #[Iv a,Iv a'] 3)) fun e w'=>ZF (Qv (s.want a 1 false) (s.want a' 1 false)) VNone e/\Below w.heap.size w w':=by
 have c:=Zc w (.cells #[Iv a,Iv a'] 3)
 have:=Qbw (l:=[a,a']) Z (by simp) (Qkj a a' g f d) m (fun k i=>Zl (j k i) c.size) (h.below c)
 rw[QiF] at this
 exact this.mono (fun e w' h=>⟨h.1,c.trans (h.2.mono c.size)⟩)
theorem Qhs {A:Nat->Prop}{s:JSt}(a a':Int) (m:-9223372036854775808<=a'/\a'<=9223372036854775807) (hH:s.H.length<=16) (z:s.L.length<=80) (R:∀ k,A k->k<w.heap.size) (h:SAt w b O A s) :
 Calls prog 247 #[Pv b 0,Iv a,Iv a'] w fun e w'=>∀ t,(s.at a=some t\/(s.at a=none/\t=tInt))->QO w b O A s { s with L:=s.L++[mkT 4 t.r []] } (s.arrayC a a') e w':=by
 have H:=Qa h;have T:=Qa R;have HI:=Qa m;clear h R m;have aa:∀ (k r:Int) (p:Option Addr) (l c:Nat) (w:World),(Instr.field 105 (.agg #[Iv k,Iv r,.slice p l c]) 1).run prog w=.ok (Iv r) w:=fun _ _ _ _ _ _=>by kernel_rfl
 go_enter func247,ntmps247
 go_wp2_with fail
 refine(Qae a 2 z (fun k g=>T.out k (H.out.sub k g)) H.out).mono ?_
 rintro D w2 ⟨G,u⟩;have I:=Qa u;have y:=Qa (H.out.below u);have n:=Qa (fun k g=>Zl (T.out k g) u.size);clear u;rcases G with ⟨f,x,rfl,t,p,c,B,rfl,V,J⟩|⟨f,rfl⟩
 rotate_left
 ·exact⟨Z,fun t _=>QO.bad (by unfold JSt.arrayC;rw[Ql f,Ql f]) f (Yh H.out I.out)⟩
 have E:Hid (s.arrayC a a'=Qv (s.want a' 1 false) (QZ s.L.length 1)):=by show _=_;unfold JSt.arrayC;rw[Qx f]
 have S:0<=t.r/\t.r<=1000:=by
  obtain⟨t',U,e2,e3⟩:=Qab f
  rw[B] at U
  cases U
  have:=ZW (e3 Z)
  omega
 have j:=Qa B;have HR:=Qa S;clear V J B f S;simp only[Tv]
 have C:=Qa (fun d=>QbI a' HI.out d z (fun k g=>n.out k (y.out.sub k g)) y.out);go_wp2_with fail
 refine(C.out _).mono ?_
 rintro D w3 ⟨G,q⟩;have o:=Qa (I.out.trans (q.mono I.out.size));have H3:=Qa (y.out.below q);have K:=Qa (fun k g=>Zl (n.out k g) q.size);rcases G with ⟨f,x,rfl,W⟩|⟨f,rfl⟩
 rotate_left
 ·exact⟨Z,fun t _=>QO.bad (by rw[E.out,Ql f]) f (Yh H.out o.out)⟩
 subst W;have X:Hid (s.arrayC a a'=QZ s.L.length 1):=by show _=_;rw[E.out,Qx f]
 clear q f E C;have M:=Qa (fun d=>Qc2 4 t.r HR.out (by decide) d z K.out H3.out);go_wp2_with fail
 refine(M.out _).mono ?_
 rintro D w4 P
 have F:Hid (∀ t,(s.at a=some t\/(s.at a=none/\t=tInt))->QO w b O A s { s with L:=s.L++[mkT 4 t.r []] } (s.arrayC a a') D w4):=fun t' i=>by
  rcases i with i | ⟨i,-⟩
  ·have e:=i.symm.trans j.out;injection e with e
   subst e;rw[X.out]
   exact P.after o.out
  ·rw[j.out] at i;cases i
 rcases P with ⟨Q,rfl,N⟩|⟨Q,rfl,N⟩
 rotate_left
 ·exact⟨Z,F.out⟩
 clear Q N M;go_wp2
 exact Xz (v:=.tuple #[]) (by simp[results,results247,go_sem]) Z F.out
theorem QbZ {a:World}(h:Below B a w):Below B a w.drew:=⟨h.os,h.tape,h.output,h.size,h.block⟩
theorem Zw (h:Below w.drew.heap.size w.drew w'):Below w.heap.size w w':=⟨h.os,h.tape,h.output,h.size,h.block⟩
noncomputable def JSt.beC (s:JSt) (a:Int) (t:TT 6):Int:=match s.at a with | none=>1 | some v=>if ZR (v=t) then 0 else 9
theorem Qjd {s:JSt}{a:Int}{t:TT 6}(h:s.has a≠0):s.beC a t=s.has a:=by
 unfold JSt.has JSt.beC at *
 cases e:s.at a with
 | none=>rfl
 | some t=>rw[e] at h;exact absurd Z h
theorem Qlk {s:JSt}{a:Int}{t v:TT 6}(h:s.at a=some v):s.beC a t=if ZR (v=t) then 0 else 9:=by unfold JSt.beC;rw[h]
theorem QcO {A:Nat->Prop}{s:JSt}(a:Int){t:TT 6}(P:TIn w Q t p) (hL:s.L.length<=80) (j:∀ x∈s.L,x.count<=100000) (hO:∀ k,O k->k<w.heap.size) (h:SAt w b O A s) :
 Calls prog 246 #[Pv b 0,Iv a,Tv t p c] w fun e w'=>ZF (s.beC a t) VNone e/\Below w.heap.size w w':=by
 have F:=Zc w (.cells #[Iv t.kind,Iv t.r,.slice p t.len c] 105);have N:=Qa (h.below F);have l:=Qa F;have M:=Qa (P.below F);have o:Hid (Blk (w.alloc (.cells #[Iv t.kind,Iv t.r,.slice p t.len c] 105)) w.heap.size #[Iv t.kind,Iv t.r,.slice p t.len c] 105):=Blk.new _ _ _;have S:=Qa j;clear h F hO P j;go_enter func246,ntmps246
 go_upto_region 1 with fail
 generalize w.alloc (.cells #[Iv t.kind,Iv t.r,.slice p t.len c] 105)=m at N l M o |-;obtain⟨X,V⟩:∃ X,w.heap.size=X:=⟨_,Z⟩
 rw[V] at o |-
 rw[<-V]
 have C:Hid (∀ f,Below m.heap.size m f->Calls prog 270 #[Pv b 0,Iv a] f fun e w'=>ZF (s.has a) (QmU w' A s a) e/\Below f.heap.size f w'):=fun f J=>Qb3 a hL (N.out.below J)
 have D:Hid (∀ (v:TT 6) (q:Option Addr) (d:Nat) (f:World),s.at a=some v->TIn f (fun g=>¬ A g) v q->Below m.heap.size m f->Calls prog 261 #[Tv v q d,Tv t p c] f fun e w'=>ZL e (v=t)/\Below f.heap.size f w') :=
  fun v q d f E n J=>same_any 6 v t q p d c f n.all (M.out.below J).all (S.out v (Qdx E).1)
 clear N M S;have y0:=Qb o.out 0 _ Z;have y1:=Qb o.out 1 _ Z;have y2:=Qb o.out 2 _ Z;clear o
 go_region_with (first
  | (go_at_call 270;refine(C.out _ (QbZ Zr)).mono ?_;rintro U w2 ⟨⟨z,x,rfl,v,q,d,E,rfl,B,-⟩|⟨z,rfl⟩,K⟩;rotate_left;exact⟨Z,.inr ⟨by rw[Qjd z];exact z,by rw[Qjd z]⟩,l.out.trans ((Zw K).mono l.out.size)⟩;have i:Below m.heap.size m w2:=Zw K;have y3:=Qk y0 i;have y4:=Qk y1 i;have y5:=Qk y2 i;have I:=Qa i;have H:=Qa (Xh E B);clear E B z K i)
  | (go_at_call 261;refine(D.out _ _ _ _ H.out.1 H.out.2 I.out).mono ?_;rintro U w3 ⟨⟨W,rfl,u⟩,T⟩;have R:=Qa (I.out.trans (T.mono I.out.size));have y:=Qa u;clear T u)
  | (go_at_call 268;refine(QbS _ _ _).mono ?_;rintro U w' ⟨G,⟨n,rfl⟩|⟨n,rfl⟩⟩;rotate_left;exact⟨Z,ZF.bad (by rw[Qlk H.out.1,show ZR _=W from Bool.eq_iff_iff.2 (Qa9.trans y.out.symm),n];rfl) (by decide),by rw[G];exact l.out.trans (R.out.mono l.out.size)⟩;have G:=G.symm;subst G))
 all_goals
  have E9:Hid (s.beC a t=0):=by show _=_;rw[Qlk H.out.1,show ZR _=W from Bool.eq_iff_iff.2 (Qa9.trans y.out.symm),n];rfl
  have B9:Hid (Below w.heap.size w w3):=l.out.trans (R.out.mono l.out.size);clear n;go_wp2
  exact Xz (v:=.tuple #[]) (by simp[results,results246,go_sem]) Z ⟨ZF.good E9.out Z,B9.out⟩
theorem Qd8 {o:Oper}{a:Act}{w:World}{K:Act->World->Prop}{Q:Exit->Act->World->Prop}{E:Prop}(b:o.guard=none) (F:Nat) (x y:Operand) (t u:TypeId)
 (e:o.op=.call { callee:=.value (.func F),args:=#[x,y],argTypes:=#[t,u] }) (k:∀ (args:Array Value) (w:World),(callFunc F args).run P w=.ok (.enter F args) w) (v z:Value) (f:a.eval x=v) (g:a.eval y=z) {R:Ending->World->Prop} (C:Calls P F #[v,z] w R)
 (h:∀ en w',R en w'->QnM K Q o a en w'):if Region.wanted o (yielded ops a.tmps)=true then Oper.wp P o a w K Q else E:=by
 have j:Region.wanted o (yielded ops a.tmps)=true:=by simp[Region.wanted,b]
 rw[Xs j]
 unfold Oper.wp
 have i:(execOp a.eval o).run P w=.ok (.enter F #[v,z]) w:=by
  have c:a.eval (.func F)=.func (.func F) #[] #[]:=rfl;unfold execOp;simp[e,resolve,invoke,Deferred.ofValue,f,g,k,c,Result.andThen]
 rw[i,Oper.upon_enter]
 refine C.mono fun en w' d=>?_
 have:=h en w' d
 cases en<;>exact this
theorem QbD {s:JSt}:∀ {l m:List Int}{x y:List (TT 6)},s.fields l=some x->s.fields m=some y->s.fields (l++m)=some (x++y)
 | [],m,x,y,h1,h2=>by simp[JSt.fields] at h1;subst h1;exact h2
 | k::r,m,x,y,h1,h2=>by
   simp only[JSt.fields] at h1
   show s.fields (k::(r++m))=_;simp only[JSt.fields]
   cases hk:s.at k with
   | none=>simp[hk] at h1
   | some t =>
     simp only[hk] at h1
     cases hr:s.fields r with
     | none=>simp[hr] at h1
     | some l =>
       simp only[hr,Option.some.injEq] at h1
       subst h1;rw[QbD hr h2]
       rfl
theorem Qft {s:JSt}{y:Int}{t:TT 6}{L:List (TT 6)}(b:l[k]?=some y) (a:s.at y=some t) (h:s.fields (l.take k)=some L):s.fields (l.take (k+1))=some (L++[t]):=by
 rw[XV,b]
 exact QbD h (by simp[JSt.fields,a])
theorem QdB {s:JSt}:∀ {l:List Int}{y:Int},y∈l->s.at y=none->s.fields l=none
 | k::r,y,a,h=>by
   simp only[JSt.fields]
   rcases List.mem_cons.1 a with rfl | a
   ·rw[h]
   ·rw[QdB a h]
    cases s.at k<;>rfl
def JSt.tupleC (s:JSt) (a:Int) (args:List Int):Int:=Qv (s.want a 2 true) (match s.at a with
 | none=>0
 | some t=>match s.fields args with
   | none=>1
   | some l=>if 4<TT.height (n:=7) (mkT 3 t.r l) then 19 else QZ s.L.length 1)
def JSt.tupleS (s:JSt) (a:Int) (args:List Int):JSt:={ s with L:=s.L++(match s.at a with
 | none=>[]
 | some t=>match s.fields args with
   | none=>[]
   | some l=>[TT.at (n:=7) 5 (mkT 3 t.r l)]) }
theorem Qf3 {R:Int}{r:Int}{l:List (TT 6)}(b:0<=r/\r<R) (c:l.length<=8) (h:∀ t∈l,t.check R=0):TT.check (n:=7) R (mkT 3 r l)=if 4<TT.height (n:=7) (mkT 3 r l) then 19 else 0:=by
 show (if 4<TT.height (n:=7) (mkT 3 r l) then 19 else TT.fault (n:=7) R (mkT 3 r l))=_
 have:TT.fault (n:=7) R (mkT 3 r l)=0:=by
  show (if ownC 3 r l.length R≠0 then ownC 3 r l.length R else Qu (TT.fault R) l)=0
  have:ownC 3 r l.length R=0:=by
   unfold ownC;rw[Xr (by omega),Xr (by omega),Xr (by omega),Xr (by omega),Xr (by omega)]
  rw[this]
  simp only[ne_eq,not_true_eq_false,if_false]
  exact QF.2 fun y a=>(QX.1 (h y a)).2
 rw[this]
structure TuS (w wc:World) (B lo:Nat) (A:Nat->Prop) (r:Int) (v:Value) (L:List (TT 6)):Prop where
 bel:Below w.heap.size w wc
 box:Blk wc B #[Iv 3,Iv r,v] 105
 row:TRq wc (fun g=>lo<=g) (fun g=>¬ (A g\/w.heap.size<=g)) v L
 lo1:B<lo
 lo2:lo<=wc.heap.size
 far:w.heap.size<=B
section
variable {w wc w9:World}{B lo:Nat}{A:Nat->Prop}{r:Int}{v:Value}{L:List (TT 6)}
theorem TRq.below {w:World}{v:Value}{L:List (TT 6)}(h:TRq w O Q v L) (k:Below w.heap.size w w'):TRq w' O Q v L:=h.keep (fun g b _=>k.block g b) (fun _ a=>h.own a) (fun _ h _=>h)
theorem TuS.below (h:TuS w wc B lo A r v L) (k:Below wc.heap.size wc w9):TuS w w9 B lo A r v L :=
 ⟨h.bel.trans (k.mono h.bel.size),h.box.below k,h.row.below k,h.lo1,Zt h.lo2 k.size,h.far⟩
theorem TuS.push {xs:List Value}{t:TT 6}(h:TuS w wc B lo A r (.slice a L.length c) L) (j:wc.ownsRow 0 105 3 (.slice a L.length c) L.length xs) (S:(Lay.tt 6).In wc (fun g=>¬ (A g\/w.heap.size<=g)) t [Iv t.kind,Iv t.r,.slice p t.len d])
 (h1:w9.ownsRow 0 105 3 (.slice (some ⟨g,0,none⟩) (L.length+1) cap) (L.length+1) (xs++[Iv t.kind,Iv t.r,.slice p t.len d])) (n:wc.grownBy w9 (Value.slice a L.length c).ownBlock) (y:(Value.slice a L.length c).ownBlock=some g\/g=wc.heap.size) :
 w9.cell? ⟨B,2,none⟩=some (.slice a L.length c)/\w9.frozen? ⟨B,2,none⟩=false/\TuS w (w9.setCell ⟨B,2,none⟩ (.slice (some ⟨g,0,none⟩) (L.length+1) cap)) B lo A r (.slice (some ⟨g,0,none⟩) (L.length+1) cap) (L++[t]):=by
 have aa:=n.size;have u:=h.lo1;have J:=h.lo2;have H:=h.box.lt;have T:=h.bel.size;have b:∀ k,(Value.slice a L.length c).ownBlock=some k->lo<=k:=fun k f=>h.row.own f;have D:Blk w9 B #[Iv 3,Iv r,.slice a L.length c] 105:=(n.block B H (fun e=>by have:=b B e.symm;omega)).trans h.box
 have q:lo<=g:=by
  rcases y with y | y
  ·exact b g y
  ·omega
 have F:g≠B:=by omega
 have G:=h.far
 have o:∀ k,k<w.heap.size->(w9.setCell ⟨B,2,none⟩ (.slice (some ⟨g,0,none⟩) (L.length+1) cap)).heap[k]?=wc.heap[k]?:=fun k f=>by
  rw[Xd _ _ _ _ (show k≠B by omega),n.block k (by omega) (fun e=>by have:=b k e.symm;omega)]
 refine⟨Qb D 2 _ Z,Qj D 2,⟨⟨n.os.trans h.bel.os,n.tape.trans h.bel.tape,n.output.trans h.bel.output,by simp;omega,fun k f=>(o k f).trans (h.bel.block k f)⟩,?_,?_,u,by simp;omega,G⟩⟩
 ·have:=Qh D 2 (.slice (some ⟨g,0,none⟩) (L.length+1) cap)
  simpa using this
 ·obtain⟨m,K,q2,X⟩:=h.row
  have e:m=xs:=by
   obtain⟨e1,V⟩:=K
   obtain⟨f1,W⟩:=j
   rcases V with ⟨z,N⟩|⟨g1,R,M,z,N,e5,e6,e7,e8,e9⟩
   ·have:L.length=0:=N
    rw[Xf.1 (show m.length=0 by rw[e1,this]),Xf.1 (show xs.length=0 by rw[f1,this])]
   ·rcases W with ⟨v,U⟩|⟨g2,O,Q,v,U,I,f6,f7,f8,f9⟩
    ·rw[v] at z;cases z
    ·rw[z] at v
     cases v
     rw[e5] at I
     cases I
     rw[<-e9,<-f9]
  subst e;refine⟨m++[Iv t.kind,Iv t.r,.slice p t.len d],?_,fun k f=>?_,?_⟩
  ·rw[List.length_append]
   exact Qe5 h1 (Xd _ _ _ _ F)
  ·simp[Value.ownBlock] at f
   subst f;exact q
  ·have l:∀ {x:TT 6} {C:List Value},(Lay.tt 6).In wc (fun g=>¬ (A g\/w.heap.size<=g)) x C->(Lay.tt 6).In (w9.setCell ⟨B,2,none⟩ (.slice (some ⟨g,0,none⟩) (L.length+1) cap)) (fun g=>¬ (A g\/w.heap.size<=g)) x C:=fun j=>(Lay.tt 6).keep (fun k f _=>o k (Nat.lt_of_not_le (fun e=>f (.inr e)))) (fun _ h _=>h) j;refine QcC (s:=3) (P:=fun x C=>(Lay.tt 6).In _ _ x C) K.1 (fun i x j=>l (X i x j)) (fun i x j=>?_);have hi:i<1:=by simpa using (Zi j).1
   have E:i=0:=by omega
   subst E;simp at j
   subst j;exact l S
end
theorem QdR {w:World}{v:Value}{xs:List Value}(h:w.ownsRow 0 e s v n xs) (f:Below w.heap.size w w'):w'.ownsRow 0 e s v n xs:=by
 obtain⟨k,l⟩:=h
 refine⟨k,?_⟩
 rcases l with j | ⟨g,a,b,d,i,c,r⟩
 ·exact .inl j
 ·exact .inr ⟨g,a,b,d,i,(f.block g (XC c)).trans c,r⟩
theorem TuS.lin {w wc:World}{B lo:Nat}{A:Nat->Prop}{r:Int}{L:List (TT 6)}(h:TuS w wc B lo A r (.slice a N c) L) (t:∀ k,A k->k<w.heap.size):LIn wc (fun g=>¬ A g) L a/\N=L.length/\∀ x∈L,x.ok:=by
 obtain⟨f,j,e,v,b,-⟩:=h.row.form
 simp only[Value.slice.injEq] at e
 obtain⟨rfl,rfl,rfl⟩:=e
 have u:=h.lo1;have y:=h.far;refine⟨fun i x d=>?_,Z,fun x d=>?_⟩
 ·obtain⟨g,f,j,e,p,o,l,m,n⟩:=b i x d
  subst e;have z:lo<=g:=h.row.own Z;refine⟨g,0,f,j,Z,fun e=>by have:=t g e;omega,?_,?_,?_,m.mono (fun k q _ e=>q (.inl e))⟩
  ·rw[XK];exact p
  ·rw[XK];exact o
  ·rw[XK];exact l
 ·obtain⟨i,s,e⟩:=List.mem_iff_getElem.1 d
  obtain⟨g,f,j,e,p,o,l,m,n⟩:=b i x (by rw[Zg s,e])
  exact n
theorem Qix {r:Int}{l:List (TT 6)}(h:∀ x∈l,x.count<=4681) (c:l.length<=8):TT.count (n:=7) (mkT 3 r l)<=100000:=by
 show 1+(l.map TT.count).sum<=100000;have d:=sum_le_mul (l.map TT.count) 4681 (fun x a=>by obtain⟨y,b,rfl⟩:=List.mem_map.1 a;exact h y b);rw[XN] at d
 have e:l.length*4681<=8*4681:=Xp _ c;omega
theorem Qh9 {w:World}{A:Nat->Prop}(e:∀ k,A k->k<w.heap.size){r:Int}{L:List (TT 6)}(h:0<=r/\r<=1000) (i:¬ 4<TT.height (n:=7) (mkT 3 r L)) (f:LIn w (fun g=>¬ A g) L p) (a:∀ x∈L,x.ok) :
 (Qo 6).In (w.alloc (.cells #[Iv 3,Iv r,.slice p L.length c] 105)) (fun g=>¬ A g) [TT.at (n:=7) 5 (mkT 3 r L)] [.slice (some ⟨w.heap.size,0,none⟩) 1 d]:=by
 have b:TT.height (n:=7) (mkT 3 r L)<=5:=by omega
 have:=Qd4 (t:=TT.at (n:=7) 5 (mkT 3 r L)) (p:=p) (c:=c) (d:=d) e (TIn.at 5 b (LIn.tree f)) (TT.at_ok 5 ⟨⟨by show -9223372036854775808<=r;omega,by show r<=9223372036854775807;omega⟩,a⟩)
 rw[TT.at_kind,TT.at_r,TT.at_len 5 _ b] at this
 exact this
theorem enters_value:Qaj 270:=fun _ _=>by kernel_rfl
theorem Qhr {w:World}{A:Nat->Prop}{s:JSt}(a:Int){args:List Int}(hN:args.length=N) (au:N<=8) (hl:intsL.In w Q args [.slice pa N ca]) (hJ:JOk s) (hA:∀ k,A k->k<w.heap.size) (h:SAt w b O A s) :
 Calls prog 243 #[Pv b 0,Iv a,.slice pa N ca] w fun e w'=>QO w b O A s (s.tupleS a args) (s.tupleC a args) e w':=by
 have ay:∀ (k r:Int) (p:Option Addr) (l c:Nat) (w:World),(Instr.field 105 (.agg #[Iv k,Iv r,.slice p l c]) 1).run prog w=.ok (Iv r) w:=fun _ _ _ _ _ _=>by kernel_rfl
 obtain⟨i0,hi,am,ao,al⟩:=pInfoT
 have H:=Qa h;have HA:=Qa hA;have HO:Hid (∀ k,O k->k<w.heap.size):=fun k V=>hA k (h.sub k V);have HL:=Qa hl;have HN:=Qa hN;have HJ:=Qa hJ;have hL:=hJ.vals;clear h hA hl hN hJ;go_enter func243,ntmps243
 go_wp2_with fail
 refine(Qae a 2 hL HO.out H.out).mono ?_
 rintro e' w2 ⟨hO,b2⟩;have HB:=Qa b2;clear b2;rcases hO with ⟨f,x,rfl,t,p,c,ha,rfl,ht,J⟩|⟨f,rfl⟩
 rotate_left
 ·exact⟨Z,QO.bad (by unfold JSt.tupleC;rw[Ql f]) f (Yh H.out HB.out)⟩
 have hr:0<=t.r/\t.r<s.H.length:=by
  obtain⟨t',e1,e2,e3⟩:=Qab f
  rw[ha] at e1
  cases e1
  exact ZW (e3 Z)
 have HR:=Qa hr;have E:Hid (s.tupleC a args=match s.fields args with | none=>1 | some l=>if 4<TT.height (n:=7) (mkT 3 t.r l) then 19 else QZ s.L.length 1):=by show _=_;unfold JSt.tupleC;rw[Qx f,ha]
 have ES:Hid (∀ l,s.fields args=some l->s.tupleS a args={ s with L:=s.L++[TT.at (n:=7) 5 (mkT 3 t.r l)] }):=fun l hl=>by unfold JSt.tupleS;rw[ha,hl]
 clear hr f ha ht J;simp only[Tv]
 go_upto_region 1 with fail
 have T0:Hid (TuS w (w2.alloc (.cells #[Iv 3,Iv t.r,Nv] 105)) w2.heap.size (w2.heap.size+1) A t.r (Nv) []) :=
  ⟨HB.out.trans ((Zc _ _).mono HB.out.size),Blk.new _ _ _,⟨[],⟨Z,.inl ⟨Z,Z⟩⟩,fun g hg=>by simp[Value.ownBlock] at hg,fun i x hx=>by simp at hx⟩,Nat.lt_succ_self _,by simp,HB.out.size⟩
 generalize w2.alloc (.cells #[Iv 3,Iv t.r,Nv] 105)=w3 at T0 |-;generalize w2.heap.size=B at T0 |-;generalize t.r=r at T0 HR E ES |-;clear HB;go_wp2
 go_loopw [16] (fun i wr=>∃ (k:Nat) (v:Value) (L:List (TT 6)),k<=N/\i=Iv k/\TuS w wr B (B+1) A r v L/\s.fields (args.take k)=some L) (fun i _=>N - (intOf i).toNat)
 case atStart=>exact⟨0,_,_,Xb _,Z,T0.out,Z⟩
 case round =>
  clear T0;obtain⟨k,v,L,V,rfl,hT,hf⟩:=hrel
  have HF:=Qa hf
  have X:Hid (L.length=k):=by
   show _=_
   have:=(QaG hf).1
   rw[List.length_take,HN.out] at this
   omega
  have ac:L.length<=8:=by have:=X.out;omega
  obtain⟨aL,W,rfl,av,-,xs,af⟩:=hT.row.form
  have D:=Qa hT;have ak:=Qa af;clear hf hT af;by_cases ae:k<N
  ·have ah:(k:Int)<N:=by omega
   have S:k<args.length:=by rw[HN.out];exact ae
   obtain⟨g,o,rfl,-,hg,R⟩:=ZH HL.out S
   obtain⟨y,hy⟩:∃ y,args[k]?=some y:=⟨_,Zg S⟩
   rw[show args.getD k 0=y by rw[List.getD_eq_getElem?_getD,hy];rfl] at R
   have HX:=Qa hy;have y0:=Qk R D.out.bel;have z2:=Qb D.out.box 2 _ Z;clear R S hy;go_upto_region 4 with fail
   have BD:Hid (Below w.heap.size w wr.drew):=QbZ D.out.bel
   go_region_law (first
    | (refine Qd8 Z 270 (.tmp 22) (.tmp 23) 234 3 Z enters_value (.pointer (some ⟨b,0,none⟩)) (.int .i64 y) (by simp[Act.eval,Act.put]) (by simp[Act.eval,Act.put]) (Qb3 y hL (H.out.more HO.out BD.out)) ?_
       rintro e' K ⟨hO,U⟩;rcases hO with ⟨f,x,rfl,u,q,d,hu,rfl,aa,J⟩|⟨f,rfl⟩
       rotate_left
       ·have ag:s.at y=none:=by
         unfold JSt.has at f
         cases e:s.at y with
         | none=>rfl
         | some t=>rw[e] at f;exact absurd Z f
        exact⟨Z,QO.bad (d:=s.has y) (by rw[E.out,QdB (Zm HX.out) ag];unfold JSt.has;rw[ag]) f (Yh H.out (BD.out.trans (U.mono BD.out.size)))⟩
       have T4:=Qa (D.out.below (Zw U));have HU:=Qa hu;have I4:Hid ((Lay.tt 6).In K (fun g=>¬ (A g\/w.heap.size<=g)) u [Iv u.kind,Iv u.r,.slice q u.len d]):=⟨q,d,Z,aa,J⟩;have z4:=Qb T4.out.box 2 _ Z;have an:=T4.out.box.lt;have C:=Qa (QdR ak.out (Zw U));clear hu aa J U f;dsimp only [QnM])
    | (refine step_append_lies _ Z (.tmp 21) (.tmp 25) 80 Z 0 105 i0 (.agg #[.int .i64 0,.int .i64 0,.slice none 0 0]) 3 40 pUnderT hi am ao al Z (by decide) (.slice aL L.length W) L.length xs (by simp[Act.eval,Act.put]) (C.out.alloc _) ⟨K.heap.size,0,none⟩ 1 1 [.int .i64 u.kind,.int .i64 u.r,.slice q u.len d] (by simp[Act.eval,Act.put]) Z (Qkh _ _ _) (QlU _ _ _ _ _) (by decide) (by unfold maxLen;omega) (by omega) (Xb _) (K.heap.size+1) (by simp) ?_
       intro g2 ad w9 h1 h2 h3 G;have b5:=Zc K (.cells #[Iv u.kind,Iv u.r,.slice q u.len d] 105);obtain⟨z9,f9,t9⟩:=(T4.out.below b5).push (QdR C.out b5) (Ya I4.out b5) h1 h2 (by simpa using h3)
       have T9:=Qa t9;clear h1 h2 h3 G b5 t9))
   all_goals
    have FF:=Qa (Qft HX.out HU.out HF.out);clear T4 HU I4 z4 C z9 f9 an;generalize w9.setCell ⟨B,2,none⟩ (.slice (some ⟨g2,0,none⟩) (L.length+1) ad)=az at T9 |-;go_wp2
    go_roundw
    case rel=>exact⟨k+1,_,L++[u],ae,by go_num,T9.out,FF.out⟩
    case measure=>simp[intOf];omega
  ·have aw:k=N:=by omega
   have ah:¬ (k:Int)<N:=by omega
   have I:s.fields args=some L:=by
    have:=HF.out
    rwa [XO (by rw[HN.out];omega)] at this
   obtain⟨z,-,M⟩:=D.out.lin HA.out
   have T:∀ x∈L,x.check s.H.length=0:=fun x hx=>HJ.out.types x ((QaG I).2 x hx);have EC:Hid (TT.check (n:=7) (s.H.length:Int) (mkT 3 r L)=if 4<TT.height (n:=7) (mkT 3 r L) then 19 else 0):=Qf3 HR.out ac T;have E2:Hid (s.tupleC a args=if 4<TT.height (n:=7) (mkT 3 r L) then 19 else QZ s.L.length 1):=by show _=_;rw[E.out,I]
   have aq:=Qa (ES.out L I);have ab:=Qa (Xh z M);have ap:Hid (TT.count (n:=7) (mkT 3 r L)<=100000):=Qix (fun x hx=>Qac (T x hx)) ac;have H9:=Qa (H.out.below D.out.bel);obtain⟨pm,cm,hh,a1,c1,a2,c2,a3,c3,ax,ar,RR⟩:=H9.out.read
   obtain⟨-,q1,-⟩:=RR.cells
   have CL:Hid (∀ m,Calls prog 271 #[Pv hh 0] (wr.drewN m) fun e w'=>e=.returned (Iv (s.H.length:Int))/\w'=wr.drewN m):=fun m=>QkG (show Qp (wr.drewN m) hh s.H from RR.held);have CC:Hid (Calls prog 223 #[.agg #[Iv 3,Iv r,.slice aL L.length W],Iv (s.H.length:Int)] wr.drew fun e w'=>e=.returned (Iv (TT.check (n:=7) (s.H.length:Int) (mkT 3 r L)))/\Below wr.drew.heap.size wr.drew w'):=check_any 7 (mkT 3 r L) aL W _ wr.drew (TIn.all (LIn.tree z).drew) ap.out;obtain⟨z0,z1,z2⟩:=Qli D.out.box
   clear I z M T RR HF X;generalize TT.check (n:=7) (s.H.length:Int) (mkT 3 r L)=ck at EC CC;generalize (s.H.length:Int)=nH at CL CC;go_upto_region 6 with fail
   go_region_with (first
    | (go_at_call 271;refine(CL.out _).mono ?_;rintro e w' ⟨rfl,P⟩;have P:=P.symm;subst P)
    | (go_at_call 223;refine(CC.out).mono ?_;rintro e K ⟨rfl,U⟩;have B4:=Qa (Zw U);clear U)
    | (go_at_call 268;refine(QbS _ _ _).mono ?_;rintro e' w' ⟨P,⟨hq,rfl⟩|⟨hq,rfl⟩⟩;rotate_left;exact⟨Z,QO.bad (d:=19) (by rw[E2.out];have j:ck≠0:=(by simpa using hq);rw[EC.out] at j;by_cases G:4<TT.height (n:=7) (mkT 3 r L);rw[Xs G];rw[Xr G] at j;exact absurd Z j) (by decide) (by rw[P];exact Yh H.out (D.out.bel.trans (B4.out.mono D.out.bel.size)))⟩;have P:=P.symm;subst P))
   all_goals
    have j:ck=0:=by simpa using hq
    have G:¬ 4<TT.height (n:=7) (mkT 3 r L):=fun G=>by
     have:=EC.out
     rw[Xs G,j] at this
     cases this
    have E3:Hid (s.tupleC a args=QZ s.L.length 1):=by show _=_;rw[E2.out,Xr G]
    have T5:=Qa (D.out.below B4.out);have ai:Hid (∀ k,A k->k<K.heap.size):=fun k V=>Zl (HA.out k V) T5.out.bel.size
    have CM:Hid (∀ d,Calls prog 244 #[Pv b 0,.slice (some ⟨K.heap.size,0,none⟩) 1 d] (K.alloc (.cells #[Iv 3,Iv r,.slice aL L.length W] 105)) fun e w'=>QO w b O A s (s.tupleS a args) (s.tupleC a args) e w'):=fun d=>by
     have b1:=Zc K (.cells #[Iv 3,Iv r,.slice aL L.length W] 105);have aj:=T5.out.bel.trans (b1.mono T5.out.bel.size);rw[aq.out,E3.out]
     exact(Qay (l:=[TT.at (n:=7) 5 (mkT 3 r L)]) Z (by simp) (Qh9 (c:=W) (d:=d) ai.out (by have:=HR.out;have:=HJ.out.regs;omega) G (ab.out.1.below B4.out) ab.out.2) hL (fun k V=>Zl (ai.out k V) b1.size) (H.out.below aj)).mono (fun e w' hd=>hd.after aj)
    obtain⟨y0,y1,y2⟩:=Qli T5.out.box
    clear hq j G CC CL E3;go_wp2_with fail
    refine(CM.out _).mono ?_
    rintro e' w5 hd;have F:=Qa hd;rcases hd with ⟨h1,rfl,h3⟩|⟨h1,rfl,h3⟩
    rotate_left
    ·exact⟨Z,F.out⟩
    clear h1 h3 CM;go_wp2
    exact Xz (v:=.tuple #[]) (by simp[results,results243,go_sem]) Z F.out
def Lay.listC {α:Type}(A:Lay α):Lay (List α) where
 size:=1
 In:=fun w O l cs=>(∃ a c,cs=[.slice a l.length c]/\l.length<=c)/\A.list.In w O l cs
 len:=fun h=>A.list.len h.2
 keep:=fun hb hl h=>⟨h.1,A.list.keep hb hl h.2⟩
def Lay.Sub {α:Type}(A B:Lay α):Prop:=A.size=B.size/\∀ {w:World}{O:Nat->Prop}{x:α}{cs:List Value},A.In w O x cs->B.In w O x cs
theorem Lay.Sub.refl {α:Type}(A:Lay α):Lay.Sub A A:=⟨Z,id⟩
theorem Lay.Sub.listC {α:Type}(A:Lay α):Lay.Sub A.listC A.list:=⟨Z,fun h=>h.2⟩
theorem Lay.Sub.pair {α β:Type}{A a:Lay α}{B b:Lay β}(h:Lay.Sub A a) (k:Lay.Sub B b):Lay.Sub (A.pair B) (a.pair b) :=
 ⟨by show A.size+B.size=a.size+b.size;rw[h.1,k.1],fun ⟨d,c,e,f,g⟩=>⟨d,c,e,h.2 f,k.2 g⟩⟩
theorem Lay.Sub.list {α:Type}{A b:Lay α}(h:Lay.Sub A b):Lay.Sub A.list b.list :=
 ⟨Z,fun ⟨a,c,e,k⟩=>⟨a,c,e,fun i x l=>by
  obtain⟨g,o,p,m,d,f,j,n⟩:=k i x l
  exact⟨g,o,p,m,d,f,by rw[<-h.1];exact j,h.2 n⟩⟩⟩
section
open Go.Deep
theorem Lay.Sub.via {α β:Type}{A a:Lay α}(h:Lay.Sub A a) (f:β->α):Lay.Sub (A.via f) (a.via f):=⟨h.1,fun k=>h.2 k⟩
theorem Qy.listC {α:Type}{A:Lay α}{E:α->Prop}(h:P.underlying t=some (.slice e)) (m:P.cellsOf t=1) (z:Qy P e A n E) (u:0<A.size) (g:0<P.bytesOf e):Qy P t A.listC n (fun l=>l.length<1152921504606846976) :=
 ⟨m,fun {H v w p f k r I x} y o B=>by
  obtain⟨l,i,s⟩:=(Qy.list h m z u g).2 y o B
  refine⟨l,⟨?_,i⟩,s⟩
  obtain⟨a,c,e,_⟩:=i
  refine⟨a,c,e,?_⟩
  rcases DataW.trod_slice h o with ⟨b,_⟩|⟨G,D,F,d,j,q,_,b,_,_,C,_⟩
  ·rw[e] at b
   simp at b
   simp[b.2.1]
  ·rw[e] at b
   simp at b
   omega⟩
abbrev intsC:Lay (List Int):=Lay.int.listC
def insC:Lay Qs:=(Lay.int.pair (Lay.int.pair (Lay.int.pair (Lay.int.pair (Lay.int.pair (Lay.int.pair (intsC.pair intsC))))))).via (fun x=>(x.op,x.a,x.b,x.c,x.k,x.n,x.regs,x.args))
def toC:Lay MTo:=(Lay.int.pair (intsC.pair intsC)).via (fun x=>(x.block,x.regs,x.args))
def endC:Lay ZE:=(Lay.int.pair (Lay.int.pair (toC.pair (toC.pair intsC)))).via (fun x=>(x.op,x.a,x.yes,x.no,x.args))
def Qbd (n:Nat):Lay (MBlock n):=(Lay.int.pair ((Qo n).pair (insC.list.pair endC))).via (fun x=>(x.regs,x.params,x.code,x.fin))
def Qfj (n:Nat):Lay (MFunc n):=(Lay.int.pair ((Qo n).pair ((Qo n).pair (Qbd n).list))).via (fun x=>(x.regs,x.params,x.results,x.blocks))
abbrev Qin (n:Nat):Lay (List (MFunc n)):=(Qfj n).list
theorem ints_sub:Lay.Sub intsC intsL:=Lay.Sub.listC _
theorem ins_sub:Lay.Sub insC insL:=.via (.pair (.refl _) (.pair (.refl _) (.pair (.refl _) (.pair (.refl _) (.pair (.refl _) (.pair (.refl _) (.pair ints_sub ints_sub))))))) _
theorem to_sub:Lay.Sub toC toL:=.via (.pair (.refl _) (.pair ints_sub ints_sub)) _
theorem end_sub:Lay.Sub endC endL:=.via (.pair (.refl _) (.pair (.refl _) (.pair to_sub (.pair to_sub ints_sub)))) _
theorem Qiq (n:Nat):Lay.Sub (Qbd n) (Zj n):=.via (.pair (.refl _) (.pair (.refl _) (.pair (.list ins_sub) end_sub))) _
theorem Qki (n:Nat):Lay.Sub (Qfj n) (ZS n):=.via (.pair (.refl _) (.pair (.refl _) (.pair (.refl _) (.list (Qiq n))))) _
theorem QfL (n:Nat):Lay.Sub (Qin n) (QaM n):=.list (Qki n)
section
variable {w:World}{O:Nat->Prop}{cs:List Value}
theorem QhJ {x:Qs}(h:insC.In w O x cs):∃ a c b d,cs=[Iv x.op,Iv x.a,Iv x.b,Iv x.c,Iv x.k,Iv x.n,.slice a x.regs.length c,.slice b x.args.length d]/\intsL.In w O x.regs [.slice a x.regs.length c]/\intsL.In w O x.args [.slice b x.args.length d]/\x.regs.length<=c/\x.args.length<=d:=by
 obtain⟨_,_,rfl,⟨rfl,_⟩,_,_,rfl,⟨rfl,_⟩,_,_,rfl,⟨rfl,_⟩,_,_,rfl,⟨rfl,_⟩,_,_,rfl,⟨rfl,_⟩,_,_,rfl,⟨rfl,_⟩,_,_,rfl,⟨⟨a,c,rfl,g⟩,i⟩,⟨b,d,rfl,e⟩,f⟩:=h
 exact⟨a,c,b,d,Z,i,f,g,e⟩
end
theorem Qbz (n:Nat):Qy prog 76 intsC n (fun l=>l.length<1152921504606846976):=Qy.listC underlying76 (by kernel_rfl) (QaQ n) (by decide) (by rw[show prog.bytesOf 3=8 from by kernel_rfl];decide)
theorem Qjf (n:Nat):Qy prog 78 insC n (fun x=>x.regs.length<1152921504606846976/\x.args.length<1152921504606846976):=by
 have h:=Qy.struct (n:=n) (A:=Lay.int.pair (Lay.int.pair (Lay.int.pair (Lay.int.pair (Lay.int.pair (Lay.int.pair (intsC.pair intsC))))))) underlying78 (by kernel_rfl) (QH.cons Z Z (QaQ n) (QH.cons Z Z (QaQ n) (QH.cons Z Z (QaQ n) (QH.cons Z Z (QaQ n) (QH.cons Z Z (QaQ n) (QH.cons Z Z (QlV n) (QH.cons Z Z (Qbz n) (QH.last Z Z (Qbz n)))))))));have e:=h.via (f:=fun x:Qs=>(x.op,x.a,x.b,x.c,x.k,x.n,x.regs,x.args)) (fun d=>⟨d.1,d.2.1,d.2.2.1,d.2.2.2.1,d.2.2.2.2.1,d.2.2.2.2.2.1,d.2.2.2.2.2.2.1,d.2.2.2.2.2.2.2⟩) (fun d=>rfl);exact⟨e.1,fun g l m=>by obtain⟨d,j,i⟩:=e.2 g l m;exact⟨d,j,i.2.2.2.2.2.2⟩⟩
theorem Qgy (n:Nat):Qy prog 82 toC n (fun x=>x.regs.length<1152921504606846976/\x.args.length<1152921504606846976):=by
 have h:=Qy.struct (n:=n) (A:=Lay.int.pair (intsC.pair intsC)) underlying82 (by kernel_rfl) (QH.cons Z Z (QaQ n) (QH.cons Z Z (Qbz n) (QH.last Z Z (Qbz n))));have a:=h.via (f:=fun x:MTo=>(x.block,x.regs,x.args)) (fun d=>⟨d.1,d.2.1,d.2.2⟩) (fun d=>rfl);exact⟨a.1,fun b g i=>by obtain⟨d,e,c⟩:=a.2 b g i;exact⟨d,e,c.2⟩⟩
theorem QiH (n:Nat):Qy prog 84 endC n (fun x=>(x.yes.regs.length<1152921504606846976/\x.yes.args.length<1152921504606846976)/\(x.no.regs.length<1152921504606846976/\x.no.args.length<1152921504606846976)/\x.args.length<1152921504606846976):=by
 have h:=Qy.struct (n:=n) (A:=Lay.int.pair (Lay.int.pair (toC.pair (toC.pair intsC)))) underlying84 (by kernel_rfl) (QH.cons Z Z (QaQ n) (QH.cons Z Z (QaQ n) (QH.cons Z Z (Qgy n) (QH.cons Z Z (Qgy n) (QH.last Z Z (Qbz n))))));have b:=h.via (f:=fun x:ZE=>(x.op,x.a,x.yes,x.no,x.args)) (fun d=>⟨d.1,d.2.1,d.2.2.1,d.2.2.2.1,d.2.2.2.2⟩) (fun d=>rfl);exact⟨b.1,fun c i j=>by obtain⟨d,g,e⟩:=b.2 c i j;exact⟨d,g,e.2.2⟩⟩
theorem QgT (n:Nat):Qy prog 79 insC.list n (fun l=>l.length<1152921504606846976):=Qy.list underlying79 (by kernel_rfl) (Qjf n) (by decide) (by rw[show prog.bytesOf 78=96 from by kernel_rfl];decide)
theorem Qfv (n:Nat):Qy prog 86 (Qbd n) n (fun _=>True):=by
 have h:=Qy.struct (n:=n) (A:=Lay.int.pair ((Qo n).pair (insC.list.pair endC))) underlying86 (by kernel_rfl) (QH.cons Z Z (QaQ n) (QH.cons Z Z (QfY n) (QH.cons Z Z (QgT n) (QH.last Z Z (QiH n)))));have a:=h.via (f:=fun x:MBlock n=>(x.regs,x.params,x.code,x.fin)) (fun d=>⟨d.1,d.2.1,d.2.2.1,d.2.2.2⟩) (fun d=>rfl);exact⟨a.1,fun b e g=>by obtain⟨d,c,i⟩:=a.2 b e g;exact⟨d,c,Y⟩⟩
theorem QeY (n:Nat):Qy prog 87 (Qbd n).list n (fun l=>l.length<1152921504606846976):=Qy.list underlying87 (by kernel_rfl) (Qfv n) (by show 0<12;decide) (by rw[show prog.bytesOf 86=208 from by kernel_rfl];decide)
theorem Qhm (n:Nat):Qy prog 89 (Qfj n) n (fun _=>True):=by
 have h:=Qy.struct (n:=n) (A:=Lay.int.pair ((Qo n).pair ((Qo n).pair (Qbd n).list))) underlying89 (by kernel_rfl) (QH.cons Z Z (QaQ n) (QH.cons Z Z (QfY n) (QH.cons Z Z (QfY n) (QH.last Z Z (QeY n)))));have a:=h.via (f:=fun x:MFunc n=>(x.regs,x.params,x.results,x.blocks)) (fun d=>⟨d.1,d.2.1,d.2.2.1,d.2.2.2⟩) (fun d=>rfl);exact⟨a.1,fun b e g=>by obtain⟨d,c,i⟩:=a.2 b e g;exact⟨d,c,Y⟩⟩
theorem Qf5 (n:Nat):Qy prog 22 (Qin n) n (fun l=>l.length<1152921504606846976):=Qy.list underlying22 (by kernel_rfl) (Qhm n) (by show 0<4;decide) (by rw[show prog.bytesOf 89=80 from by kernel_rfl];decide)
theorem QeE (n:Nat):Qy prog 24 (Qin n) n (fun _=>True):=by
 have h:=Qy.struct (n:=n) (A:=Qin n) underlying24 (by kernel_rfl) (QH.last Z Z (Qf5 n));exact⟨h.1,fun a c e=>by obtain⟨d,b,f⟩:=h.2 a c e;exact⟨d,b,Y⟩⟩
end
abbrev Qd0 (x:Qs) (rg ag:Option Addr) (rc ac:Nat):Value:=.agg #[Iv x.op,Iv x.a,Iv x.b,Iv x.c,Iv x.k,Iv x.n,.slice rg x.regs.length rc,.slice ag x.args.length ac]
def ZC (x:Qs):Prop:=(-9223372036854775808<=x.a/\x.a<=9223372036854775807)/\(-9223372036854775808<=x.b/\x.b<=9223372036854775807)/\(-9223372036854775808<=x.c/\x.c<=9223372036854775807)
theorem Qkr {x:Qs}(h:insC.In w O x cs):ZC x:=by
 obtain⟨_,_,rfl,⟨rfl,_⟩,_,_,rfl,⟨rfl,e⟩,_,_,rfl,⟨rfl,f⟩,_,_,rfl,⟨rfl,g⟩,_,_,rfl,⟨rfl,_⟩,_,_,rfl,⟨rfl,_⟩,_,_,rfl,⟨⟨a,c,rfl,k⟩,l⟩,⟨b,d,rfl,i⟩,j⟩:=h
 exact⟨e,f,g⟩
noncomputable def JSt.goC (s:JSt) (x:Qs):Int:=Qv (s.makes x).1 (QZ s.L.length (s.makes x).2.length)
theorem Qlt {s:JSt}{x:Qs}(a:x.form s.m.length=0):s.code x=s.goC x:=by
 unfold JSt.code JSt.goC Qv QZ;rw[Xr (by rw[a];simp)]
 by_cases h:(s.makes x).1=0
 ·rw[Xr (by rw[h];simp),Xs h]
 ·rw[Xs h,Xr h]
theorem QbG (h:n<=80):QZ n 0=0:=Xr (by omega)
theorem QfJ {a:Int}:Qv a 0=a:=by unfold Qv;split<;>simp_all
theorem QO.to {A:Nat->Prop}{s f a:JSt}{c d:Int}{e:Ending}(j:QO w b O A s f c e w') (k:d=c) (m:c=0->a=f):QO w b O A s a d e w':=by
 subst k;rcases j with ⟨g,l,i⟩ | h
 ·exact .inl ⟨g,l,by rw[m g];exact i⟩
 ·exact .inr h
theorem QO.none {A:Nat->Prop}{s a:JSt}{c:Int}(h:SAt w b O A s) (d:Below w.heap.size w w') (e:c=0) (f:a=s):QO w b O A s a c (.returned (.tuple #[])) w':=.inl ⟨e,Z,by rw[f];exact Yh h d⟩
theorem QT {s:JSt}{x:Qs}(a:x.op≠3) (b:x.op≠4):s.next x={ s with L:=s.L++(s.makes x).2 }:=by unfold JSt.next;rw[Xr a,Xr b]
structure Qof (w:World) (b:Nat) (O A Q:Nat->Prop) (s:JSt) (c:Array Value) (xr xs:List Int) (rg ag:Option Addr) (rc ac:Nat) (w1:World) (X:Nat):Prop where
 HJ:Hid (JOk s)
 H0:Hid (SAt w b O A s)
 HA0:Hid (∀ k,A k->k<w.heap.size)
 H:Hid (SAt w1 b O A s)
 HR:Hid (intsL.In w1 Q xr [.slice rg xr.length rc])
 HG:Hid (intsL.In w1 Q xs [.slice ag xs.length ac])
 HB:Hid (Below w.heap.size w w1)
 HA:Hid (∀ k,A k->k<w1.heap.size)
 HO:Hid (∀ k,O k->k<w1.heap.size)
 X1:Hid (Blk w1 X c 78)
 HRC:Hid (xr.length<=rc)
theorem Qgw {A:Nat->Prop}{s:JSt}{f:List Int}(i:∀ k,A k->k<w.heap.size) (l:JOk s) (h:SAt w b O A s) (d:intsL.In w Q f [.slice rg f.length rc]) (a:intsL.In w Q xs [.slice ag xs.length ac]) (j:f.length<=rc) (c:Array Value):Qof w b O A Q s c f xs rg ag rc ac (w.alloc (.cells c 78)) w.heap.size :=
 have e:=Zc w (.cells c 78);⟨l,h,i,h.below e,Ya d e,Ya a e,e,fun k g=>Zl (i k g) e.size,fun k g=>Zl (i k (h.sub k g)) e.size,Blk.new _ _ _,j⟩
theorem QV {d e c a f i g b:Value}(h:Blk w X #[d,e,c,a,f,i,g,b] t):w.cell? ⟨X,0,none⟩=some d/\w.cell? ⟨X,1,none⟩=some e/\w.cell? ⟨X,2,none⟩=some c/\w.cell? ⟨X,3,none⟩=some a/\w.cell? ⟨X,4,none⟩=some f/\w.cell? ⟨X,5,none⟩=some i/\w.cell? ⟨X,6,none⟩=some g/\w.cell? ⟨X,7,none⟩=some b :=
 ⟨Qb h 0 _ Z,Qb h 1 _ Z,Qb h 2 _ Z,Qb h 3 _ Z,Qb h 4 _ Z,Qb h 5 _ Z,Qb h 6 _ Z,Qb h 7 _ Z⟩
theorem Qln {A:Nat->Prop}{s:JSt}{x:Qs}(M:∀ k,A k->k<w.heap.size) (z:JOk s) (h:SAt w b O A s) (c:intsL.In w Q x.regs [.slice rg x.regs.length rc]) (a:intsL.In w Q x.args [.slice ag x.args.length ac]) (p:x.regs.length<=rc) (r:ZC x) (K:x.form s.m.length=0) (d:x.op=1) :
 Calls prog 212 #[Pv b 0,Qd0 x rg ag rc ac] w fun e w'=>QO w b O A s (s.next x) (s.goC x) e w':=by
 have S:=Qad (s:=s) (.inl d);obtain⟨op,g,l,n,f,j,i,o⟩:=x
 have d:op=1:=d;subst d;have I:=Qa S;obtain⟨N,G,C,-⟩:=Q5 K
 have HF:=Qa (Xh N (Xh G C));obtain⟨R,P,t⟩:=r
 have HI:=Qa (Xh R (Xh P t));have T:=z.vals;have B:=Qa (Qgw M z h c a p #[Iv 1,Iv g,Iv l,Iv n,Iv f,Iv j,.slice rg i.length rc,.slice ag o.length ac]);clear h M z c a S K N G C R P t p;go_enter func212,ntmps212
 go_upto_region 1 with fail
 generalize w.alloc (.cells #[Iv 1,Iv g,Iv l,Iv n,Iv f,Iv j,.slice rg i.length rc,.slice ag o.length ac] 78)=w1 at B |-;generalize w.heap.size=X at B |-;obtain⟨HJ,H0,aa,H,HR,HG,HB,HA,HO,U,W⟩:=B.out
 clear B;obtain⟨x0,x1,x2,x3,x4,-,x6,x7⟩:=QV U.out
 have y:Hid (∀ e q,QO w b O A s { s with L:=s.L++[tInt] } (QZ s.L.length 1) e q->QO w b O A s (s.next ⟨1,g,l,n,f,j,i,o⟩) (s.goC ⟨1,g,l,n,f,j,i,o⟩) e q):=fun e q u=>u.to (by unfold JSt.goC;rw[I.out];rfl) (fun _=>by rw[QT (by simp) (by simp),I.out]);have D:=Qa (QbK T HA.out H.out);go_wp2_with fail
 refine D.out.mono ?_;rintro V q u;have F:Hid (QO w b O A s (s.next ⟨1,g,l,n,f,j,i,o⟩) (s.goC ⟨1,g,l,n,f,j,i,o⟩) V q):=y.out _ _ (u.after HB.out);rcases u with ⟨J,rfl,E⟩|⟨J,rfl,E⟩
 rotate_left
 ·exact⟨Z,F.out⟩
 clear J E D;go_wp2
 exact Xz (v:=.tuple #[]) (by simp[results,results212,go_sem]) Z F.out
theorem Qmw {A:Nat->Prop}{s:JSt}{x:Qs}(M:∀ k,A k->k<w.heap.size) (z:JOk s) (h:SAt w b O A s) (c:intsL.In w Q x.regs [.slice rg x.regs.length rc]) (a:intsL.In w Q x.args [.slice ag x.args.length ac]) (p:x.regs.length<=rc) (r:ZC x) (K:x.form s.m.length=0) (d:x.op=12) :
 Calls prog 212 #[Pv b 0,Qd0 x rg ag rc ac] w fun e w'=>QO w b O A s (s.next x) (s.goC x) e w':=by
 have S:=Qad (s:=s) (.inr d);obtain⟨op,g,l,n,f,j,i,o⟩:=x
 have d:op=12:=d;subst d;have I:=Qa S;obtain⟨N,G,C,-⟩:=Q5 K
 have HF:=Qa (Xh N (Xh G C));obtain⟨R,P,t⟩:=r
 have HI:=Qa (Xh R (Xh P t));have T:=z.vals;have B:=Qa (Qgw M z h c a p #[Iv 12,Iv g,Iv l,Iv n,Iv f,Iv j,.slice rg i.length rc,.slice ag o.length ac]);clear h M z c a S K N G C R P t p;go_enter func212,ntmps212
 go_upto_region 1 with fail
 generalize w.alloc (.cells #[Iv 12,Iv g,Iv l,Iv n,Iv f,Iv j,.slice rg i.length rc,.slice ag o.length ac] 78)=w1 at B |-;generalize w.heap.size=X at B |-;obtain⟨HJ,H0,aa,H,HR,HG,HB,HA,HO,U,W⟩:=B.out
 clear B;obtain⟨x0,x1,x2,x3,x4,-,x6,x7⟩:=QV U.out
 have y:Hid (∀ e q,QO w b O A s { s with L:=s.L++[tInt] } (QZ s.L.length 1) e q->QO w b O A s (s.next ⟨12,g,l,n,f,j,i,o⟩) (s.goC ⟨12,g,l,n,f,j,i,o⟩) e q):=fun e q u=>u.to (by unfold JSt.goC;rw[I.out];rfl) (fun _=>by rw[QT (by simp) (by simp),I.out]);have D:=Qa (QbK T HA.out H.out);go_wp2_with fail
 refine D.out.mono ?_;rintro V q u;have F:Hid (QO w b O A s (s.next ⟨12,g,l,n,f,j,i,o⟩) (s.goC ⟨12,g,l,n,f,j,i,o⟩) V q):=y.out _ _ (u.after HB.out);rcases u with ⟨J,rfl,E⟩|⟨J,rfl,E⟩
 rotate_left
 ·exact⟨Z,F.out⟩
 clear J E D;go_wp2
 exact Xz (v:=.tuple #[]) (by simp[results,results212,go_sem]) Z F.out
theorem QlN {A:Nat->Prop}{s:JSt}{x:Qs}(hA:∀ k,A k->k<w.heap.size) (I:JOk s) (h:SAt w b O A s) (c:intsL.In w Q x.regs [.slice rg x.regs.length rc]) (a:intsL.In w Q x.args [.slice ag x.args.length ac]) (r:x.regs.length<=rc) (y:ZC x) (hf:x.form s.m.length=0) (g:x.op=2) :
 Calls prog 212 #[Pv b 0,Qd0 x rg ag rc ac] w fun e w'=>QO w b O A s (s.next x) (s.goC x) e w':=by
 have M:=QbE (s:=s) g;obtain⟨op,f,i,p,j,o,n,q⟩:=x
 have g:op=2:=g;subst g;have HE:=Qa M;obtain⟨f1,V,P,-⟩:=Q5 hf
 have HF:=Qa (Xh f1 (Xh V P));obtain⟨ra,rb,C⟩:=y
 have HI:=Qa (Xh ra (Xh rb C));have U:=I.vals;have B:=Qa (Qgw hA I h c a r #[Iv 2,Iv f,Iv i,Iv p,Iv j,Iv o,.slice rg n.length rc,.slice ag q.length ac]);clear h hA I c a M hf f1 V P ra rb C r;go_enter func212,ntmps212
 go_upto_region 1 with fail
 generalize w.alloc (.cells #[Iv 2,Iv f,Iv i,Iv p,Iv j,Iv o,.slice rg n.length rc,.slice ag q.length ac] 78)=w1 at B |-;generalize w.heap.size=X at B |-;obtain⟨HJ,H0,ab,H,HR,HG,HB,HA,N,X1,aa⟩:=B.out
 clear B;obtain⟨x0,x1,x2,x3,x4,-,x6,x7⟩:=QV X1.out
 have EG:Hid (s.goC ⟨2,f,i,p,j,o,n,q⟩=Qv (Qv (s.want f 1 false) (s.want i 1 false)) (QZ s.L.length 1)):=by show _=_;unfold JSt.goC;rw[HE.out];rfl
 have K:=Qa (fun d=>Qfe f i HI.out.1 HI.out.2.1 d U N.out H.out);go_wp2_with fail
 refine(K.out _).mono ?_
 rintro W w2 ⟨hq,u⟩;have z:=Qa (HB.out.trans (u.mono HB.out.size));have H2:=Qa (H.out.below u);have G:=Qa (fun k E=>Zl (HA.out k E) u.size);have ad:=Qa (fun k E=>Zl (N.out k E) u.size);rcases hq with ⟨l,y2,rfl,hy⟩|⟨l,rfl⟩
 rotate_left
 ·exact⟨Z,QO.bad ((fun l=>by rw[EG.out,Ql l]) l) l (Yh H0.out z.out)⟩
 subst hy;have J:=Qa l;clear l u K;have F:Hid (∀ e t,QO w b O A s { s with L:=s.L++[tInt] } (QZ s.L.length 1) e t->QO w b O A s (s.next ⟨2,f,i,p,j,o,n,q⟩) (s.goC ⟨2,f,i,p,j,o,n,q⟩) e t):=fun e t D=>D.to (by rw[EG.out,Qx J.out]) (fun _=>by rw[QT (by simp) (by simp),HE.out]);have R:=Qa (QbK U G.out H2.out);go_wp2_with fail
 refine R.out.mono ?_;rintro W t D;have T:Hid (QO w b O A s (s.next ⟨2,f,i,p,j,o,n,q⟩) (s.goC ⟨2,f,i,p,j,o,n,q⟩) W t):=F.out _ _ (D.after z.out);rcases D with ⟨h1,rfl,S⟩|⟨h1,rfl,S⟩
 rotate_left
 ·exact⟨Z,T.out⟩
 clear h1 S R;go_wp2
 exact Xz (v:=.tuple #[]) (by simp[results,results212,go_sem]) Z T.out
theorem Qlp {A:Nat->Prop}{s:JSt}{x:Qs}(R:∀ k,A k->k<w.heap.size) (E:JOk s) (h:SAt w b O A s) (d:intsL.In w Q x.regs [.slice rg x.regs.length rc]) (c:intsL.In w Q x.args [.slice ag x.args.length ac]) (r:x.regs.length<=rc) (u:ZC x) (P:x.form s.m.length=0) (f:x.op=3) :
 Calls prog 212 #[Pv b 0,Qd0 x rg ag rc ac] w fun e w'=>QO w b O A s (s.next x) (s.goC x) e w':=by
 have V:=QbT (s:=s) f;obtain⟨op,j,o,p,i,n,l,q⟩:=x
 have f:op=3:=f;subst f;have M:=Qa V;obtain⟨S,K,F,-⟩:=Q5 P
 have HF:=Qa (Xh S (Xh K F));obtain⟨U,T,y⟩:=u
 have HI:=Qa (Xh U (Xh T y));have W:=E.vals;have B:=Qa (Qgw R E h d c r #[Iv 3,Iv j,Iv o,Iv p,Iv i,Iv n,.slice rg l.length rc,.slice ag q.length ac]);clear h R E d c V P S K F U T y r;go_enter func212,ntmps212
 go_upto_region 1 with fail
 generalize w.alloc (.cells #[Iv 3,Iv j,Iv o,Iv p,Iv i,Iv n,.slice rg l.length rc,.slice ag q.length ac] 78)=w1 at B |-;generalize w.heap.size=X at B |-;obtain⟨HJ,H0,ab,H,HR,HG,HB,HA,HO,X1,aa⟩:=B.out
 clear B;obtain⟨x0,x1,x2,x3,x4,-,x6,x7⟩:=QV X1.out
 have D:Hid (∀ e t,QO w b O A s s.openS s.openC e t->QO w b O A s (s.next ⟨3,j,o,p,i,n,l,q⟩) (s.goC ⟨3,j,o,p,i,n,l,q⟩) e t):=fun e t z=>z.to (by
  unfold JSt.goC;rw[M.out]
  by_cases a:s.H.length=16
  ·rw[Xs a]
   show Qv 2 _=s.openC;unfold JSt.openC;rw[Xs (Or.inr a)];rfl
  ·rw[Xr a]
   show Qv 0 (QZ s.L.length 1)=s.openC;rw[Qx Z]
   unfold QZ JSt.openC;by_cases g:80<s.L.length+1
   ·rw[Xs g,Xs (Or.inl g)]
   ·rw[Xr g,Xr (by omega)]) (fun C=>by
  unfold JSt.openC at C;unfold JSt.next JSt.openS
  rw[M.out]
  by_cases a:s.H.length=16
  ·rw[Xs (Or.inr a)] at C;cases C
  ·rw[Xr a];rfl)
 have G:=Qa (QhU HJ.out.regs W HA.out H.out);go_wp2_with fail
 refine G.out.mono ?_;rintro e' t z;have J:Hid (QO w b O A s (s.next ⟨3,j,o,p,i,n,l,q⟩) (s.goC ⟨3,j,o,p,i,n,l,q⟩) e' t):=D.out _ _ (z.after HB.out);rcases z with ⟨N,rfl,I⟩|⟨N,rfl,I⟩
 rotate_left
 ·exact⟨Z,J.out⟩
 clear N I G;go_wp2
 exact Xz (v:=.tuple #[]) (by simp[results,results212,go_sem]) Z J.out
theorem Qkv {A:Nat->Prop}{s:JSt}{x:Qs}(S:∀ k,A k->k<w.heap.size) (E:JOk s) (h:SAt w b O A s) (d:intsL.In w Q x.regs [.slice rg x.regs.length rc]) (c:intsL.In w Q x.args [.slice ag x.args.length ac]) (q:x.regs.length<=rc) (y:ZC x) (R:x.form s.m.length=0) (g:x.op=4) :
 Calls prog 212 #[Pv b 0,Qd0 x rg ag rc ac] w fun e w'=>QO w b O A s (s.next x) (s.goC x) e w':=by
 have W:=Qau (s:=s) g;obtain⟨op,a,n,o,i,l,j,p⟩:=x
 have g:op=4:=g;subst g;have N:=Qa W;obtain⟨T,M,F,-⟩:=Q5 R
 have HF:=Qa (Xh T (Xh M F));obtain⟨V,U,z⟩:=y
 have HI:=Qa (Xh V (Xh U z));have K:=E.vals;have B:=Qa (Qgw S E h d c q #[Iv 4,Iv a,Iv n,Iv o,Iv i,Iv l,.slice rg j.length rc,.slice ag p.length ac]);clear h S E d c W R T M F V U z q;go_enter func212,ntmps212
 go_upto_region 1 with fail
 generalize w.alloc (.cells #[Iv 4,Iv a,Iv n,Iv o,Iv i,Iv l,.slice rg j.length rc,.slice ag p.length ac] 78)=w1 at B |-;generalize w.heap.size=X at B |-;obtain⟨HJ,H0,ab,H,HR,HG,HB,HA,HO,X1,aa⟩:=B.out
 clear B;obtain⟨x0,x1,x2,x3,x4,-,x6,x7⟩:=QV X1.out
 have D:Hid (∀ e u,QO w b O A s (s.freeS a) (s.freeC a) e u->QO w b O A s (s.next ⟨4,a,n,o,i,l,j,p⟩) (s.goC ⟨4,a,n,o,i,l,j,p⟩) e u):=fun e u C=>C.to (by
  unfold JSt.goC JSt.freeC;rw[N.out]
  show Qv (match s.at a with | none=>(1,[]) | some t=>(Qv (s.want a 2 true) (if t.r<s.f.regs then 11 else 0),[])).1 _=_
  cases s.at a with
  | none=>rfl
  | some t=>show Qv _ (QZ s.L.length 0)=_;rw[QbG K,QfJ]) (fun h0=>by
  unfold JSt.next JSt.freeS
  rw[N.out]
  show ({ s with H:=_,L:=s.L++(match s.at a with | none=>(1,[]) | some t=>(Qv (s.want a 2 true) (if t.r<s.f.regs then 11 else 0),[])).2 }:JSt)=_
  cases s.at a with
  | none=>simp
  | some t=>simp)
 have G:=Qa (Qi1 a K HA.out H.out);go_wp2_with fail
 refine G.out.mono ?_;rintro e' u C;have J:Hid (QO w b O A s (s.next ⟨4,a,n,o,i,l,j,p⟩) (s.goC ⟨4,a,n,o,i,l,j,p⟩) e' u):=D.out _ _ (C.after HB.out);rcases C with ⟨P,rfl,I⟩|⟨P,rfl,I⟩
 rotate_left
 ·exact⟨Z,J.out⟩
 clear P I G;go_wp2
 exact Xz (v:=.tuple #[]) (by simp[results,results212,go_sem]) Z J.out
theorem QjD {A:Nat->Prop}{s:JSt}{x:Qs}(U:∀ k,A k->k<w.heap.size) (J:JOk s) (h:SAt w b O A s) (f:intsL.In w Q x.regs [.slice rg x.regs.length rc]) (d:intsL.In w Q x.args [.slice ag x.args.length ac]) (C:x.regs.length<=rc) (E:ZC x) (T:x.form s.m.length=0) (j:x.op=5) :
 Calls prog 212 #[Pv b 0,Qd0 x rg ag rc ac] w fun e w'=>QO w b O A s (s.next x) (s.goC x) e w':=by
 have hE:=Qbj (s:=s) j;obtain⟨op,a,y,z,p,u,q,i⟩:=x
 have j:op=5:=j;subst j;have R:=Qa hE;obtain⟨V,P,K,-⟩:=Q5 T
 have HF:=Qa (Xh V (Xh P K));obtain⟨ra,W,F⟩:=E
 have HI:=Qa (Xh ra (Xh W F));have hL:=J.vals;have B:=Qa (Qgw U J h f d C #[Iv 5,Iv a,Iv y,Iv z,Iv p,Iv u,.slice rg q.length rc,.slice ag i.length ac]);clear h U J f d hE T V P K ra W F C;go_enter func212,ntmps212
 go_upto_region 1 with fail
 generalize w.alloc (.cells #[Iv 5,Iv a,Iv y,Iv z,Iv p,Iv u,.slice rg q.length rc,.slice ag i.length ac] 78)=w1 at B |-;generalize w.heap.size=X at B |-;obtain⟨HJ,H0,ab,H,HR,HG,HB,HA,HO,X1,aa⟩:=B.out
 clear B;obtain⟨x0,x1,x2,x3,x4,-,x6,x7⟩:=QV X1.out
 have I:Hid (∀ e D,QO w b O A s (s.tupleS a i) (s.tupleC a i) e D->QO w b O A s (s.next ⟨5,a,y,z,p,u,q,i⟩) (s.goC ⟨5,a,y,z,p,u,q,i⟩) e D):=fun e D G=>G.to (by
  unfold JSt.goC JSt.tupleC;rw[R.out]
  simp only
  cases ha:s.at a with
  | none=>unfold JSt.want;rw[ha];rfl
  | some t =>
    simp only
    by_cases g:s.want a 2 true=0
    ·rw[Xs g,Qx g]
     cases s.fields i with
     | none=>rfl
     | some l =>
       simp only
       by_cases o:4<TT.height (n:=7) (mkT 3 t.r l)
       ·rw[Xs o,Xs o];rfl
       ·rw[Xr o,Xr o];rfl
    ·rw[Xr g,Ql g,Ql g]) (fun c=>by
  rw[QT (by simp) (by simp),R.out]
  unfold JSt.tupleC at c;unfold JSt.tupleS;simp only
  cases ha:s.at a with
  | none=>rfl
  | some t =>
    rw[ha] at c
    simp only at c |-
    by_cases g:s.want a 2 true=0
    ·rw[Qx g] at c
     rw[Xs g]
     cases hl:s.fields i with
     | none=>simp[hl] at c
     | some l =>
       rw[hl] at c
       simp only at c |-
       by_cases o:4<TT.height (n:=7) (mkT 3 t.r l)
       ·rw[Xs o] at c;cases c
       ·rw[Xr o]
    ·rw[Ql g] at c;exact absurd c g)
 have L:=Qa (Qhr a Z (HF.out.2.2 Z) HG.out HJ.out HA.out H.out);go_wp2_with fail
 refine L.out.mono ?_;rintro e' D G;have N:Hid (QO w b O A s (s.next ⟨5,a,y,z,p,u,q,i⟩) (s.goC ⟨5,a,y,z,p,u,q,i⟩) e' D):=I.out _ _ (G.after HB.out);rcases G with ⟨S,rfl,M⟩|⟨S,rfl,M⟩
 rotate_left
 ·exact⟨Z,N.out⟩
 clear S M L;go_wp2
 exact Xz (v:=.tuple #[]) (by simp[results,results212,go_sem]) Z N.out
theorem QiK {A:Nat->Prop}{s:JSt}{x:Qs}(R:∀ k,A k->k<w.heap.size) (E:JOk s) (h:SAt w b O A s) (d:intsL.In w Q x.regs [.slice rg x.regs.length rc]) (c:intsL.In w Q x.args [.slice ag x.args.length ac]) (q:x.regs.length<=rc) (y:ZC x) (P:x.form s.m.length=0) (f:x.op=8) :
 Calls prog 212 #[Pv b 0,Qd0 x rg ag rc ac] w fun e w'=>QO w b O A s (s.next x) (s.goC x) e w':=by
 have V:=Qbq (s:=s) f;obtain⟨op,a,g,o,j,n,l,p⟩:=x
 have f:op=8:=f;subst f;have F:=Qa V;obtain⟨S,M,G,-⟩:=Q5 P
 have HF:=Qa (Xh S (Xh M G));obtain⟨U,T,z⟩:=y
 have HI:=Qa (Xh U (Xh T z));have hL:=E.vals;have B:=Qa (Qgw R E h d c q #[Iv 8,Iv a,Iv g,Iv o,Iv j,Iv n,.slice rg l.length rc,.slice ag p.length ac]);clear h R E d c V P S M G U T z q;go_enter func212,ntmps212
 go_upto_region 1 with fail
 generalize w.alloc (.cells #[Iv 8,Iv a,Iv g,Iv o,Iv j,Iv n,.slice rg l.length rc,.slice ag p.length ac] 78)=w1 at B |-;generalize w.heap.size=X at B |-;obtain⟨HJ,H0,ab,H,HR,HG,HB,HA,HO,X1,aa⟩:=B.out
 clear B;obtain⟨x0,x1,x2,x3,x4,-,x6,x7⟩:=QV X1.out
 have D:Hid (∀ e u,(∀ t,(s.at a=some t\/(s.at a=none/\t=tInt))->QO w b O A s { s with L:=s.L++[mkT 4 t.r []] } (s.arrayC a g) e u)->QO w b O A s (s.next ⟨8,a,g,o,j,n,l,p⟩) (s.goC ⟨8,a,g,o,j,n,l,p⟩) e u):=fun e u i=>by
  cases ha:s.at a with
  | none =>
    refine(i tInt (.inr ⟨ha,Z⟩)).to (by unfold JSt.goC JSt.arrayC;rw[F.out];simp only[ha];unfold JSt.want;rw[ha];rfl) (fun C=>?_)
    unfold JSt.arrayC JSt.want at C;rw[ha] at C
    cases C
  | some t =>
    refine(i t (.inl ha)).to (by unfold JSt.goC JSt.arrayC;rw[F.out];simp only[ha];rfl) (fun C=>?_)
    rw[QT (by simp) (by simp),F.out]
    simp only[ha]
 have I:=Qa (Qhs a g HI.out.2.1 HJ.out.regs hL HA.out H.out);go_wp2_with fail
 refine I.out.mono ?_;rintro e' u i;have K:Hid (QO w b O A s (s.next ⟨8,a,g,o,j,n,l,p⟩) (s.goC ⟨8,a,g,o,j,n,l,p⟩) e' u):=D.out _ _ (fun t W=>(i t W).after HB.out);have i:=i ((s.at a).getD tInt) (by cases s.at a with | none=>exact .inr ⟨Z,Z⟩ | some t=>exact .inl Z);rcases i with ⟨N,rfl,J⟩|⟨N,rfl,J⟩
 rotate_left
 ·exact⟨Z,K.out⟩
 clear N J I;go_wp2
 exact Xz (v:=.tuple #[]) (by simp[results,results212,go_sem]) Z K.out
theorem Qj7 {A:Nat->Prop}{s:JSt}{x:Qs}(hA:∀ k,A k->k<w.heap.size) (S:JOk s) (h:SAt w b O A s) (f:intsL.In w Q x.regs [.slice rg x.regs.length rc]) (c:intsL.In w Q x.args [.slice ag x.args.length ac]) (y:x.regs.length<=rc) (D:ZC x) (hf:x.form s.m.length=0) (i:x.op=9) :
 Calls prog 212 #[Pv b 0,Qd0 x rg ag rc ac] w fun e w'=>QO w b O A s (s.next x) (s.goC x) e w':=by
 have hE:=Qa3 (s:=s) i;obtain⟨op,g,j,r,n,p,o,t⟩:=x
 have i:op=9:=i;subst i;have HE:=Qa hE;obtain⟨f1,f2,f3,-⟩:=Q5 hf
 have HF:=Qa (Xh f1 (Xh f2 f3));obtain⟨ra,rb,G⟩:=D
 have HI:=Qa (Xh ra (Xh rb G));have M:=S.vals;have B:=Qa (Qgw hA S h f c y #[Iv 9,Iv g,Iv j,Iv r,Iv n,Iv p,.slice rg o.length rc,.slice ag t.length ac]);clear h hA S f c hE hf f1 f2 f3 ra rb G y;go_enter func212,ntmps212
 go_upto_region 1 with fail
 generalize w.alloc (.cells #[Iv 9,Iv g,Iv j,Iv r,Iv n,Iv p,.slice rg o.length rc,.slice ag t.length ac] 78)=w1 at B |-;generalize w.heap.size=X at B |-;obtain⟨HJ,H0,ad,H,HR,HG,HB,HA,HO,X1,ab⟩:=B.out
 clear B;obtain⟨x0,x1,x2,x3,x4,-,x6,x7⟩:=QV X1.out
 have U:Hid (s.goC ⟨9,g,j,r,n,p,o,t⟩=Qv (Qv (s.want g 4 true) (s.want j 1 false)) (QZ s.L.length 1)):=by show _=_;unfold JSt.goC;rw[HE.out];rfl
 have W:=Qa (Qae g 4 M HO.out H.out);go_wp2_with fail
 refine(W.out ).mono ?_
 rintro P w2 ⟨K,u⟩;have q:=Qa (HB.out.trans (u.mono HB.out.size));have H2:=Qa (H.out.below u);have R:=Qa (fun k l=>Zl (HA.out k l) u.size);have I:=Qa (fun k l=>Zl (HO.out k l) u.size);rcases K with ⟨a,y2,rfl,hy⟩|⟨a,rfl⟩
 rotate_left
 ·exact⟨Z,QO.bad ((fun a=>by rw[U.out,Ql (by rw[Ql a];exact a),Ql a]) a) a (Yh H0.out q.out)⟩
 have F:=Qa a;have x2:=Qk x2 u;clear a u W;have C2:=Qa (fun d=>QbI j HI.out.2.1 d M I.out H2.out);go_wp2_with fail
 refine(C2.out _).mono ?_
 rintro P w3 ⟨K,C⟩;have E:=Qa (q.out.trans (C.mono q.out.size));have H3:=Qa (H2.out.below C);have V:=Qa (fun k l=>Zl (R.out k l) C.size);have aa:=Qa (fun k l=>Zl (I.out k l) C.size);rcases K with ⟨a,y3,rfl,hy⟩|⟨a,rfl⟩
 rotate_left
 ·exact⟨Z,QO.bad ((fun a=>by rw[U.out,Qx F.out,Ql a]) a) a (Yh H0.out E.out)⟩
 subst hy;have T:=Qa a;clear a C C2;have N:Hid (∀ e z,QO w b O A s { s with L:=s.L++[tInt] } (QZ s.L.length 1) e z->QO w b O A s (s.next ⟨9,g,j,r,n,p,o,t⟩) (s.goC ⟨9,g,j,r,n,p,o,t⟩) e z):=fun e z J=>J.to (by rw[U.out,Qx F.out,Qx T.out]) (fun _=>by rw[QT (by simp) (by simp),HE.out]);have CM:=Qa (QbK M V.out H3.out);go_wp2_with fail
 refine CM.out.mono ?_;rintro P z J;have FF:Hid (QO w b O A s (s.next ⟨9,g,j,r,n,p,o,t⟩) (s.goC ⟨9,g,j,r,n,p,o,t⟩) P z):=N.out _ _ (J.after E.out);rcases J with ⟨h1,rfl,h3⟩|⟨h1,rfl,h3⟩
 rotate_left
 ·exact⟨Z,FF.out⟩
 clear h1 h3 CM;go_wp2
 exact Xz (v:=.tuple #[]) (by simp[results,results212,go_sem]) Z FF.out
theorem QhK {A:Nat->Prop}{s:JSt}{x:Qs}(hA:∀ k,A k->k<w.heap.size) (N:JOk s) (h:SAt w b O A s) (f:intsL.In w Q x.regs [.slice rg x.regs.length rc]) (c:intsL.In w Q x.args [.slice ag x.args.length ac]) (r:x.regs.length<=rc) (z:ZC x) (hf:x.form s.m.length=0) (g:x.op=10) :
 Calls prog 212 #[Pv b 0,Qd0 x rg ag rc ac] w fun e w'=>QO w b O A s (s.next x) (s.goC x) e w':=by
 have U:=QaE (s:=s) g;obtain⟨op,j,n,p,q,y,u,F⟩:=x
 have g:op=10:=g;subst g;have HE:=Qa U;obtain⟨f1,f2,f3,-⟩:=Q5 hf
 have HF:=Qa (Xh f1 (Xh f2 f3));obtain⟨ra,rb,E⟩:=z
 have HI:=Qa (Xh ra (Xh rb E));have J:=N.vals;have B:=Qa (Qgw hA N h f c r #[Iv 10,Iv j,Iv n,Iv p,Iv q,Iv y,.slice rg u.length rc,.slice ag F.length ac]);clear h hA N f c U hf f1 f2 f3 ra rb E r;go_enter func212,ntmps212
 go_upto_region 1 with fail
 generalize w.alloc (.cells #[Iv 10,Iv j,Iv n,Iv p,Iv q,Iv y,.slice rg u.length rc,.slice ag F.length ac] 78)=w1 at B |-;generalize w.heap.size=X at B |-;obtain⟨HJ,I,ad,H,HR,HG,HB,HA,V,X1,ab⟩:=B.out
 clear B;obtain⟨x0,x1,x2,x3,x4,-,x6,x7⟩:=QV X1.out
 have R:Hid (s.goC ⟨10,j,n,p,q,y,u,F⟩=Qv (s.want j 4 true) (Qv (s.want n 1 false) (s.want p 1 false))):=by show _=_;unfold JSt.goC;rw[HE.out];show Qv _ (QZ s.L.length 0)=_;rw[QbG J,QfJ]
 have S:=Qa (Qae j 4 J V.out H.out);go_wp2_with fail
 refine(S.out ).mono ?_
 rintro e' w2 ⟨K,l⟩;have o:=Qa (HB.out.trans (l.mono HB.out.size));have T:=Qa (H.out.below l);have M:=Qa (fun k i=>Zl (HA.out k i) l.size);have G:=Qa (fun k i=>Zl (V.out k i) l.size);rcases K with ⟨a,y2,rfl,W⟩|⟨a,rfl⟩
 rotate_left
 ·exact⟨Z,QO.bad ((fun a=>by rw[R.out,Ql a]) a) a (Yh I.out o.out)⟩
 have D:=Qa a;have x2:=Qk x2 l;have x3:=Qk x3 l;clear a l S;have C2:=Qa (fun d=>Qfe n p HI.out.2.1 HI.out.2.2 d J G.out T.out);go_wp2_with fail
 refine(C2.out _).mono ?_
 rintro e' w3 ⟨K,t⟩;have C:=Qa (o.out.trans (t.mono o.out.size));have H3:=Qa (T.out.below t);have ae:=Qa (fun k i=>Zl (M.out k i) t.size);have aa:=Qa (fun k i=>Zl (G.out k i) t.size);rcases K with ⟨a,y3,rfl,W⟩|⟨a,rfl⟩
 rotate_left
 ·exact⟨Z,QO.bad ((fun a=>by rw[R.out,Qx D.out]) a) a (Yh I.out C.out)⟩
 subst W;have P:=Qa a;clear a t C2;have FF:Hid (QO w b O A s (s.next ⟨10,j,n,p,q,y,u,F⟩) (s.goC ⟨10,j,n,p,q,y,u,F⟩) (.returned (.tuple #[])) w3):=QO.none I.out C.out (by rw[R.out,Qx D.out,P.out]) (by rw[QT (by simp) (by simp),HE.out];simp);go_wp2
 exact Xz (v:=.tuple #[]) (by simp[results,results212,go_sem]) Z FF.out
theorem Ql0 {A:Nat->Prop}{s:JSt}{x:Qs}(hA:∀ k,A k->k<w.heap.size) (G:JOk s) (h:SAt w b O A s) (c:intsL.In w Q x.regs [.slice rg x.regs.length rc]) (a:intsL.In w Q x.args [.slice ag x.args.length ac]) (q:x.regs.length<=rc) (u:ZC x) (hf:x.form s.m.length=0) (f:x.op=11) :
 Calls prog 212 #[Pv b 0,Qd0 x rg ag rc ac] w fun e w'=>QO w b O A s (s.next x) (s.goC x) e w':=by
 have K:=QbA (s:=s) f;obtain⟨op,d,n,o,g,l,j,p⟩:=x
 have f:op=11:=f;subst f;have W:=Qa K;obtain⟨f1,U,N,-⟩:=Q5 hf
 have HF:=Qa (Xh f1 (Xh U N));obtain⟨ra,rb,z⟩:=u
 have HI:=Qa (Xh ra (Xh rb z));have T:=G.vals;have B:=Qa (Qgw hA G h c a q #[Iv 11,Iv d,Iv n,Iv o,Iv g,Iv l,.slice rg j.length rc,.slice ag p.length ac]);clear h hA G c a K hf f1 U N ra rb z q;go_enter func212,ntmps212
 go_upto_region 1 with fail
 generalize w.alloc (.cells #[Iv 11,Iv d,Iv n,Iv o,Iv g,Iv l,.slice rg j.length rc,.slice ag p.length ac] 78)=w1 at B |-;generalize w.heap.size=X at B |-;obtain⟨HJ,H0,ab,H,HR,HG,HB,HA,M,X1,aa⟩:=B.out
 clear B;obtain⟨x0,x1,x2,x3,x4,-,x6,x7⟩:=QV X1.out
 have EG:Hid (s.goC ⟨11,d,n,o,g,l,j,p⟩=Qv (s.want d 4 true) (QZ s.L.length 1)):=by show _=_;unfold JSt.goC;rw[W.out];rfl
 have J:=Qa (Qae d 4 T M.out H.out);go_wp2_with fail
 refine(J.out ).mono ?_
 rintro V w2 ⟨hq,t⟩;have y:=Qa (HB.out.trans (t.mono HB.out.size));have H2:=Qa (H.out.below t);have F:=Qa (fun k D=>Zl (HA.out k D) t.size);have ad:=Qa (fun k D=>Zl (M.out k D) t.size);rcases hq with ⟨i,y2,rfl,hy⟩|⟨i,rfl⟩
 rotate_left
 ·exact⟨Z,QO.bad ((fun i=>by rw[EG.out,Ql i]) i) i (Yh H0.out y.out)⟩
 have I:=Qa i;clear i t J;have E:Hid (∀ e r,QO w b O A s { s with L:=s.L++[tInt] } (QZ s.L.length 1) e r->QO w b O A s (s.next ⟨11,d,n,o,g,l,j,p⟩) (s.goC ⟨11,d,n,o,g,l,j,p⟩) e r):=fun e r C=>C.to (by rw[EG.out,Qx I.out]) (fun _=>by rw[QT (by simp) (by simp),W.out]);have P:=Qa (QbK T F.out H2.out);go_wp2_with fail
 refine P.out.mono ?_;rintro V r C;have S:Hid (QO w b O A s (s.next ⟨11,d,n,o,g,l,j,p⟩) (s.goC ⟨11,d,n,o,g,l,j,p⟩) V r):=E.out _ _ (C.after y.out);rcases C with ⟨h1,rfl,R⟩|⟨h1,rfl,R⟩
 rotate_left
 ·exact⟨Z,S.out⟩
 clear h1 R P;go_wp2
 exact Xz (v:=.tuple #[]) (by simp[results,results212,go_sem]) Z S.out
theorem Qlq {A:Nat->Prop}{s:JSt}{x:Qs}(S:∀ k,A k->k<w.heap.size) (D:JOk s) (h:SAt w b O A s) (c:intsL.In w Q x.regs [.slice rg x.regs.length rc]) (a:intsL.In w Q x.args [.slice ag x.args.length ac]) (l:x.regs.length<=rc) (q:ZC x) (R:x.form s.m.length=0) (f:x.op=13) :
 Calls prog 212 #[Pv b 0,Qd0 x rg ag rc ac] w fun e w'=>QO w b O A s (s.next x) (s.goC x) e w':=by
 have G:=QbC (s:=s) f;obtain⟨op,g,r,y,j,p,o,z⟩:=x
 have f:op=13:=f;subst f;have P:=Qa G;obtain⟨T,N,I,-⟩:=Q5 R
 have HF:=Qa (Xh T (Xh N I));obtain⟨V,U,u⟩:=q
 have HI:=Qa (Xh V (Xh U u));have M:=D.vals;have B:=Qa (Qgw S D h c a l #[Iv 13,Iv g,Iv r,Iv y,Iv j,Iv p,.slice rg o.length rc,.slice ag z.length ac]);clear h S D c a G R T N I V U u l;go_enter func212,ntmps212
 go_upto_region 1 with fail
 generalize w.alloc (.cells #[Iv 13,Iv g,Iv r,Iv y,Iv j,Iv p,.slice rg o.length rc,.slice ag z.length ac] 78)=w1 at B |-;generalize w.heap.size=X at B |-;obtain⟨HJ,K,ad,H,HR,HG,W,HA,J,X1,ab⟩:=B.out
 clear B;obtain⟨x0,x1,x2,x3,x4,-,x6,x7⟩:=QV X1.out
 have EG:Hid (s.goC ⟨13,g,r,y,j,p,o,z⟩=s.want g 1 false):=by show _=_;unfold JSt.goC;rw[P.out];show Qv _ (QZ s.L.length 0)=_;rw[QbG M,QfJ]
 have F:=Qa (fun d=>QbI g HI.out.1 d M J.out H.out);go_wp2_with fail
 refine(F.out _).mono ?_
 rintro e' w2 ⟨hq,n⟩;have t:=Qa (W.out.trans (n.mono W.out.size));have H2:=Qa (H.out.below n);have aa:=Qa (fun k C=>Zl (HA.out k C) n.size);have ae:=Qa (fun k C=>Zl (J.out k C) n.size);rcases hq with ⟨i,y2,rfl,hy⟩|⟨i,rfl⟩
 rotate_left
 ·exact⟨Z,QO.bad ((fun i=>by rw[EG.out]) i) i (Yh K.out t.out)⟩
 subst hy;have E:=Qa i;clear i n F;have FF:Hid (QO w b O A s (s.next ⟨13,g,r,y,j,p,o,z⟩) (s.goC ⟨13,g,r,y,j,p,o,z⟩) (.returned (.tuple #[])) w2):=QO.none K.out t.out (by rw[EG.out,E.out]) (by rw[QT (by simp) (by simp),P.out];simp);go_wp2
 exact Xz (v:=.tuple #[]) (by simp[results,results212,go_sem]) Z FF.out
def JSt.fieldC (s:JSt) (a:Int) (k:Nat):Int:=Qv (s.want a 3 true) (match s.at a with | none=>0 | some t=>if k<t.2.2.length then 0 else 9)
def Qnv (w:World) (A:Nat->Prop) (s:JSt) (a:Int) (k:Nat) (x:Value):Prop:=∃ (t:TT 6) (u:TT 5) (p:Option Addr) (c:Nat),s.at a=some t/\t.2.2[k]?=some u/\x=Tv u p c/\TIn w (fun g=>¬ A g) u p
theorem QcJ {s:JSt}{a:Int}(h:s.want a 3 true≠0):s.fieldC a k=s.want a 3 true:=by unfold JSt.fieldC Qv;rw[Xr h]
theorem QjB {s:JSt}{a:Int}{t:TT 6}(h:s.want a 3 true=0) (b:s.at a=some t):s.fieldC a k=if k<t.2.2.length then 0 else 9:=by unfold JSt.fieldC Qv;rw[Xs h,b]
theorem QdQ {A:Nat->Prop}{s:JSt}(a:Int) (k:Nat) (W:k<=100) (hL:s.L.length<=80) (C:∀ k,O k->k<w.heap.size) (h:SAt w b O A s) :
 Calls prog 245 #[Pv b 0,Iv a,Iv k] w fun e w'=>ZF (s.fieldC a k) (Qnv w' A s a k) e/\Below w.heap.size w w':=by
 have Q:=Zc w (.cells #[Iv 0,Iv 0,Nv] 105);have T:=Qa (h.more C Q);have n:=Qa Q;have G:Hid (Blk (w.alloc (.cells #[Iv 0,Iv 0,Nv] 105)) w.heap.size #[Iv 0,Iv 0,Nv] 105):=Blk.new _ _ _;have HO:=Qa C;clear h Q C;go_enter func245,ntmps245
 go_upto_region 1 with fail
 generalize w.alloc (.cells #[Iv 0,Iv 0,Nv] 105)=w1 at T n G |-;obtain⟨R,K⟩:∃ R,w.heap.size=R:=⟨_,Z⟩
 have HR:=Qa (Nat.le_of_eq K);rw[K] at G |-
 clear K;go_wp2_with fail
 refine(Qae a 3 hL (fun k hk=>Zl (HO.out k hk) n.out.size) T.out).mono ?_
 rintro e' J ⟨C,P⟩;have B2:Hid (Below w.heap.size w J):=n.out.trans (P.mono n.out.size);have X2:=Qa (G.out.below P);rcases C with ⟨m,x,rfl,t,p,c,N,rfl,X,V⟩|⟨m,rfl⟩
 rotate_left
 ·exact⟨Z,.inr ⟨by rw[QcJ m];exact m,by rw[QcJ m]⟩,B2.out⟩
 have f:=Qa (QhC.mk1 (c:=c) B2.out X2.out HR.out X);have HA:=Qa N;have E:=Qa (QjB (k:=k) m N);clear X N V P G n T X2 m;go_upto_region 2 with fail
 generalize J.alloc (.cells #[Iv t.kind,Iv t.r,.slice p t.len c] 105)=w3 at f |-;generalize J.heap.size=B at f |-;obtain⟨y0,y1,y2,r0,r1,r2,z0,z1,z2⟩:=f.out.cells
 have ac:=f.out.ne;have z:Hid (t.len=t.2.2.length):=TT.len_eq t;by_cases i:k<t.2.2.length
 rotate_left
 ·have S:Hid (s.fieldC a k=9):=by show _=_;rw[E.out,Xr i]
  have j:¬ (k:Int)<t.len:=by rw[z.out];omega
  clear i;generalize t.len=tl at y2 j;go_wp2_with fail
  refine(Zh _ 9).mono ?_
  rintro e' w' ⟨rfl,D⟩;subst D;exact⟨Z,ZF.bad S.out (by decide),f.out.bel⟩
 ·have S:Hid (s.fieldC a k=0):=by show _=_;rw[E.out,Xs i]
  have j:(k:Int)<t.len:=by rw[z.out];omega
  have U:Hid (t.2.2[k]?=some t.2.2[k]):=Zg i;generalize t.2.2[k]=u at U;obtain⟨g,o,y,H,rfl,I,u0,u1,u2,ut⟩:=f.out.lay k u U.out
  have UT:Hid (TIn w3 (fun g=>¬ (A g\/w.heap.size<=g)) u y):=ut;have ad:¬ R=g:=fun e=>by subst e;exact I (.inr f.out.farR)
  have aa:¬ B=g:=fun e=>by subst e;exact I (.inr f.out.farB)
  clear ut i I;obtain⟨x9,b9⟩:=QnB (k:=u.kind) (r:=u.r) (q:=y) (l:=u.len) (d:=H) f.out.bel f.out.res f.out.farR
  have F:=Qa x9;have M:=Qa b9;clear x9 b9;generalize ab:t.len=tl at y2 j;go_wp2_with (go_at_call 268;refine(Zd _ _).mono ?_;rintro e' w' ⟨rfl,D⟩;have D:=D.symm;subst D)
  generalize ((w3.setCell ⟨R,0,none⟩ (Iv u.kind)).setCell ⟨R,1,none⟩ (Iv u.r)).setCell ⟨R,2,none⟩ (.slice y u.len H)=w9 at F M |-;have x0:=Qb F.out 0 _ Z;have x1:=Qb F.out 1 _ Z;have x2:=Qb F.out 2 _ Z;exact Xy (v:=Tv u y H) (by simp[results,results245,go_sem,x0,x1,x2]) Z ⟨ZF.good S.out ⟨t,u,y,H,HA.out,U.out,Z,(UT.out.over f.out.bel M.out).less⟩,M.out⟩
theorem Qg7 (x:Int) (z:l.length=N) (E:N<=100000) (u:intsL.In w Q l [.slice p N c]) :
 Calls prog 288 #[.slice p N c,Iv x] w fun e w'=>(∃ i:Int,e=.returned (Iv i)/\(0<=i↔x∈l))/\w'=w:=by
 have D:=Qa u;have v:=Qa z;clear u z;go_enter func288,ntmps288
 go_wp2
 go_loop [8] (fun i=>∃ k:Nat,k<=N/\i=Iv k/\∀ (j:Nat) (y:Int),j<k->l[j]?=some y->x≠y) (fun i=>N - (intOf i).toNat)
 case atStart=>exact⟨0,Xb _,Z,fun j y r=>by omega⟩
 case round =>
  obtain⟨k,G,rfl,A⟩:=hrel
  have B:=Qa A;clear A;by_cases m:k<N
  ·have n:(k:Int)<N:=by omega
   have b:k<l.length:=by rw[v.out];exact m
   obtain⟨g,o,rfl,-,H,s⟩:=ZH D.out b
   obtain⟨y,d⟩:∃ y,l[k]?=some y:=⟨_,Zg b⟩
   rw[show l.getD k 0=y by rw[List.getD_eq_getElem?_getD,d];rfl] at s
   have t:=Qa d;clear d b;by_cases a:x=y
   ·have f:(x==y)=true:=by simpa using a
    have C:Hid (x∈l):=by show _;rw[a];exact Zm t.out
    clear a;go_wp2
    go_ret;exact⟨⟨k,Z,by simp[C.out]⟩,Z⟩
   ·have f:(x==y)=false:=by simpa using a
    have q:=Qa a;clear a;go_wp2
    go_round
    case rel =>
     refine⟨k+1,m,by go_num,fun j F r d=>?_⟩
     rcases Nat.lt_or_ge j k with h | h
     ·exact B.out j F h d
     ·have:j=k:=by omega
      subst this;have e:=t.out.symm.trans d;injection e with e
      subst e;exact q.out
    case measure=>simp[intOf];omega
  ·have n:¬ (k:Int)<N:=by omega
   go_wp2
   go_ret;refine⟨⟨-1,Z,by omega,fun hm=>?_⟩,Z⟩
   obtain⟨j,r,e⟩:=List.mem_iff_getElem.1 hm
   exact absurd e.symm (B.out j _ (by have:=v.out;omega) (Zg r))
theorem Qd6 (x:Int) (f:l.length=N) (a:N<=100000) (g:intsL.In w Q l [.slice p N c]) :
 Calls prog 279 #[.slice p N c,Iv x] w fun e w'=>e=.returned (.bool (inB l x))/\w'=w:=by
 have C:=Qa (Qg7 x f a g);clear g f;go_enter func279,ntmps279
 go_wp2_with fail
 refine C.out.mono ?_;rintro e w' ⟨⟨i,rfl,d⟩,b⟩;have b:=b.symm;subst b
 have E:Hid (inB l x=decide (i>=0)):=by
  show _=_;rw[Bool.eq_iff_iff,inB_iff]
  simp[d]
 clear C d;go_wp2
 go_ret;exact⟨by rw[E.out];rfl,Z⟩
theorem QfB (H:List Bool) (l:List Int)(a:l[k]?=some x):QL H (l.take k) (l.drop k)=if hHas H x then (if inB (l.take k) x then 13 else QL H (l.take (k+1)) (l.drop (k+1))) else 10:=by
 obtain⟨b,e⟩:=Zi a
 rw[List.drop_eq_getElem_cons b,e,QL,XV,a]
 rfl
def QbX (H:List Bool) (l:List Int) (asked:Int):Int:=if (l.length:Int)=asked then QL H [] l else 2
theorem Qee {A:Nat->Prop}{s:JSt}(d:Int) (L:l.length=N) (U:N<=100000) (R:N<=c) (J:intsL.In w Q l [.slice p N c]) (h:SAt w b O A s) :
 Calls prog 273 #[Pv b 0,.slice p N c,Iv d] w fun e w'=>ZF (QbX s.H l d) VNone e/\w'=w:=by
 have K:=Qa J;have z:=Qa L;obtain⟨pm,cm,hh,a1,c1,X,c2,a3,c3,aL,cL,I⟩:=h.read
 obtain⟨-,q1,-⟩:=I.cells
 have S:=Qa I.held;clear h J L I;by_cases j:(N:Int)=d
 rotate_left
 ·have q:((N:Int)==d)=false:=by simpa using j
  have E:Hid (QbX s.H l d=2):=by show _=_;unfold QbX;rw[z.out,Xr j]
  go_enter func273,ntmps273
  go_wp2_with fail
  refine(Zh _ 2).mono ?_
  rintro n w' ⟨rfl,a⟩;subst a;exact⟨Z,ZF.bad E.out (by decide),Z⟩
 subst j;have q:((N:Int)==(N:Int))=true:=by simp
 have E:Hid (QbX s.H l N=QL s.H [] l):=by show _=_;unfold QbX;rw[z.out,Xs Z]
 go_enter func273,ntmps273
 go_wp2_with (go_at_call 268;refine(Zd _ _).mono ?_;rintro n w' ⟨rfl,a⟩;have a:=a.symm;subst a)
 go_loop [15] (fun i=>∃ k:Nat,k<=N/\i=Iv k/\QL s.H [] l=QL s.H (l.take k) (l.drop k)) (fun i=>N - (intOf i).toNat)
 case atStart=>exact⟨0,Xb _,Z,Z⟩
 case round =>
  obtain⟨k,W,rfl,M⟩:=hrel
  have P:=Qa M;clear M;by_cases r:k<N
  ·have u:(k:Int)<N:=by omega
   have T:k<=c:=by omega
   have f:k<l.length:=by rw[z.out];exact r
   obtain⟨g,o,rfl,-,hg,G⟩:=ZH K.out f
   obtain⟨y,x⟩:∃ y,l[k]?=some y:=⟨_,Zg f⟩
   rw[show l.getD k 0=y by rw[List.getD_eq_getElem?_getD,x];rfl] at G
   have B:=Qa (P.out.trans (QfB s.H l x));have C:=Qa (QcA y S.out)
   cases hq:hHas s.H y with
   | false =>
     rw[hq] at C
     have m:Hid (QbX s.H l N=10):=by show _=_;rw[E.out,B.out,hq];rfl
     clear x f hq;go_wp2_with (go_at_call 272;refine(C.out).mono ?_;rintro e w' ⟨rfl,a⟩;have a:=a.symm;subst a)
     refine(Zh _ 10).mono ?_
     rintro n w' ⟨rfl,a⟩;subst a;exact⟨Z,ZF.bad m.out (by decide),Z⟩
   | true =>
     rw[hq] at C
     have D:Hid (∀ F,Calls prog 279 #[.slice (some ⟨g,o,none⟩) k F,Iv y] w fun e w'=>e=.returned (.bool (inB (l.take k) y))/\w'=w):=fun F=>Qd6 y (by rw[List.length_take];omega) (by omega) (Qjt K.out (Nat.le_of_lt f) F);have t:Hid (QL s.H [] l=if inB (l.take k) y then 13 else QL s.H (l.take (k+1)) (l.drop (k+1))):=by show _=_;rw[B.out,hq];rfl
     clear x f hq B
     cases hi:inB (l.take k) y with
     | true =>
       rw[hi] at D
       have m:Hid (QbX s.H l N=13):=by show _=_;rw[E.out,t.out,hi];rfl
       clear hi;go_wp2_with (go_at_call 272;refine(C.out).mono ?_;rintro e w' ⟨rfl,a⟩;have a:=a.symm;subst a)
       refine(Zd _ _).mono ?_
       rintro n w' ⟨rfl,a⟩;have a:=a.symm;subst a;go_wp2_with (go_at_call 279;refine(D.out _).mono ?_;rintro e w' ⟨rfl,a⟩;have a:=a.symm;subst a)
       refine(Zh _ 13).mono ?_
       rintro n w' ⟨rfl,a⟩;subst a;exact⟨Z,ZF.bad m.out (by decide),Z⟩
     | false =>
       rw[hi] at D
       have m:Hid (QL s.H [] l=QL s.H (l.take (k+1)) (l.drop (k+1))):=by show _=_;rw[t.out,hi];rfl
       clear hi;go_wp2_with (go_at_call 272;refine(C.out).mono ?_;rintro e w' ⟨rfl,a⟩;have a:=a.symm;subst a)
       refine(Zd _ _).mono ?_
       rintro n w' ⟨rfl,a⟩;have a:=a.symm;subst a;go_wp2_with (go_at_call 279;refine(D.out _).mono ?_;rintro e w' ⟨rfl,a⟩;have a:=a.symm;subst a)
       refine(Zd _ _).mono ?_
       rintro n w' ⟨rfl,a⟩;have a:=a.symm;subst a;go_wp2
       go_round
       case rel=>exact⟨k+1,r,by go_num,m.out⟩
       case measure=>simp[intOf];omega
  ·have u:¬ (k:Int)<N:=by omega
   have V:k=N:=by omega
   have m:Hid (QbX s.H l N=0):=by
    show _=_;rw[E.out,P.out,List.drop_of_length_le (by rw[z.out];omega)]
    rfl
   go_wp2
   exact Xz (v:=.tuple #[]) (by simp[results,results273,go_sem]) Z ⟨ZF.good m.out Z,Z⟩
noncomputable def JSt.handC (s:JSt) (l:List Int) (ts:List (TT 6)):Int:=if l.length=ts.length then Qu (fun p:Int × TT 6=>s.beC p.1 p.2) (l.zip ts) else 2
theorem QaF {A R:Nat->Prop}{s:JSt}{ts:List (TT 6)}{pt:Option Addr}{M:Nat}(hN:l.length=N) (aa:N<=100000) (hM:ts.length=M) (ab:M<=100000) (X:intsL.In w Q l [.slice p N c]) (U:LIn w R ts pt)
 (hL:s.L.length<=80) (n:∀ x∈s.L,x.count<=100000) (P:∀ k,O k->k<w.heap.size) (h:SAt w b O A s) :
 Calls prog 251 #[Pv b 0,.slice p N c,.slice pt M d] w fun e w'=>ZF (s.handC l ts) VNone e/\Below w.heap.size w w':=by
 have H:=Qa h;have HO:=Qa P;have HL:=Qa X;have HT:=Qa U;have K:=Qa hN;have J:=Qa hM;have HC:=Qa n;clear h P X hN U hM n;by_cases D:N=M
 rotate_left
 ·have B:((N:Int)==(M:Int))=false:=by simp;omega
  have E:Hid (s.handC l ts=2):=by show _=_;unfold JSt.handC;rw[K.out,J.out,Xr D]
  go_enter func251,ntmps251
  go_wp2_with fail
  refine(Zh _ 2).mono ?_
  rintro e' w' ⟨rfl,I⟩;subst I;exact⟨Z,ZF.bad E.out (by decide),Zr⟩
 subst D;have B:((N:Int)==(N:Int))=true:=by simp
 have E:Hid (s.handC l ts=Qu (fun p:Int × TT 6=>s.beC p.1 p.2) (l.zip ts)):=by show _=_;unfold JSt.handC;rw[K.out,J.out,Xs Z]
 go_enter func251,ntmps251
 go_wp2_with (go_at_call 268;refine(Zd _ _).mono ?_;rintro e' w' ⟨rfl,I⟩;have I:=I.symm;subst I)
 go_loopw [16] (fun i wr=>∃ k:Nat,k<=N/\i=Iv k/\Below w.heap.size w wr/\∀ (j:Nat) (y:Int × TT 6),j<k->(l.zip ts)[j]?=some y->s.beC y.1 y.2=0) (fun i _=>N - (intOf i).toNat)
 case atStart=>exact⟨0,Xb _,Z,Zr,fun j y hj=>by omega⟩
 case round =>
  obtain⟨k,V,rfl,hB,hz⟩:=hrel
  have a:=Qa hB;have S:=Qa hz;clear hB hz;by_cases q:k<N
  ·have G:(k:Int)<N:=by omega
   have z:k<l.length:=by rw[K.out];exact q
   have C:k<ts.length:=by rw[J.out];exact q
   obtain⟨g,o,rfl,-,hg,r⟩:=ZH HL.out z
   obtain⟨y,f⟩:∃ y,l[k]?=some y:=⟨_,Zg z⟩
   obtain⟨t,u⟩:∃ t,ts[k]?=some t:=⟨_,Zg C⟩
   rw[show l.getD k 0=y by rw[List.getD_eq_getElem?_getD,f];rfl] at r
   obtain⟨g2,o2,p2,c2,rfl,-,d0,d1,d2,m⟩:=HT.out.at u
   have W:Hid ((l.zip ts)[k]?=some (y,t)):=by show _=_;rw[List.getElem?_zip_eq_some];exact⟨f,u⟩
   have y0:=Qk r a.out;have z0:=Qk d0 a.out;have z1:=Qk d1 a.out;have z2:=Qk d2 a.out;have HK:=Qa (m.below a.out);clear r z C d0 d1 d2 f u m;go_wp2_with fail
   refine(QcO y HK.out hL HC.out (fun k V=>Zl (HO.out k V) a.out.size) (H.out.below a.out)).mono ?_
   rintro e' w2 ⟨P,b2⟩;have B2:Hid (Below w.heap.size w w2):=a.out.trans (b2.mono a.out.size);rcases P with ⟨F,x,rfl,-⟩|⟨F,rfl⟩
   rotate_left
   ·have e9:s.handC l ts=s.beC y t:=by rw[E.out,Qav W.out S.out F]
    exact⟨Z,.inr ⟨by rw[e9];exact F,by rw[e9]⟩,B2.out⟩
   have T:=Qa F;clear F b2 y0 z0 z1 z2;go_wp2
   go_roundw
   case rel =>
    refine⟨k+1,q,by go_num,B2.out,fun j y' hj f=>?_⟩
    rcases Nat.lt_or_ge j k with h | h
    ·exact S.out j y' h f
    ·have:j=k:=by omega
     subst this;have e:=W.out.symm.trans f;injection e with e
     subst e;exact T.out
   case measure=>simp[intOf];omega
  ·have G:¬ (k:Int)<N:=by omega
   go_wp2
   exact Xz (v:=.tuple #[]) (by simp[results,results251,go_sem]) Z ⟨ZF.good (by rw[E.out];exact ZZ (fun j y f=>S.out j y (by have:=(Zi f).1;rw[List.length_zip,K.out,J.out] at this;omega) f)) Z,a.out⟩
theorem QhM (d:l.length=N) (a:intsL.In w Q l [.slice p N c]):Qle w p N (fun i=>l.getD i 0):=fun i b=>by
 obtain⟨g,o,e,-,-,h⟩:=ZH a (show i<l.length by omega)
 exact⟨g,o,e,h⟩
theorem QkJ {t:TT 6}{e:Ending}(h:QgB w w' (t.ren regs.length (fun i=>regs.getD i 0)) e):∃ a c q,e=.returned (.tuple #[Tv (Qai regs t) a c,.bool q])/\TIn w' (Qcr w.heap.size) (Qai regs t) a/\Below w.heap.size w w':=by
 unfold Qai
 cases hr:t.ren regs.length (fun i=>regs.getD i 0) with
 | none =>
   rw[hr] at h
   obtain⟨rfl,f⟩:=h
   exact⟨none,0,false,Z,fun i x b=>by simp[zeroTT] at b,f⟩
 | some u =>
   rw[hr] at h
   obtain⟨a,c,rfl,d,g⟩:=h
   exact⟨a,c,true,Z,d,g⟩
theorem QaU {R:Nat->Prop}{ts:List (TT 6)}{S:Option Addr}{M:Nat}(F:regs.length=N) (hM:ts.length=M) (ad:M<=1000) (P:intsL.In w Q regs [.slice p N c]) (K:LIn w R ts S) (j:∀ x∈ts,x.count<=2000) :
 Calls prog 274 #[.slice S M d,.slice p N c] w fun e w'=>∃ g,e=.returned (.slice (some ⟨g,0,none⟩) M M)/\w.heap.size<=g/\Qcx w' g M (ts.map (Qai regs))/\Below w.heap.size w w':=by
 have V:=Qa hM;have HI:=Qa (QhM F P);have HT:=Qa K;have HC:=Qa j;have HN:=Qa F;have H:=QiV w M (by omega);have J:Hid (Below w.heap.size w (w.alloc (.cells (madeCells #[Iv 0,Iv 0,Nv] (M*3)) 105))):=Zc _ _;have z:Hid (Qcx (w.alloc (.cells (madeCells #[Iv 0,Iv 0,Nv] (M*3)) 105)) w.heap.size M ([]:List (TT 6))):=⟨_,Qe w _ _,size_madeCells _ _,fun i x hx=>by simp at hx⟩;clear hM P K j F;go_enter func274,ntmps274
 go_wp2
 generalize w.alloc (.cells (madeCells #[Iv 0,Iv 0,Nv] (M*3)) 105)=w1 at J z |-;obtain⟨G,A⟩:∃ G,G=w.heap.size:=⟨_,Z⟩
 rw[<-A] at z |-
 have y:=Qa (Nat.le_of_eq A.symm);have HE:=Qa A;clear H A;go_loopw [13] (fun i wr=>∃ q:Nat,q<=M/\i=Iv q/\Qcx wr G M ((ts.take q).map (Qai regs))/\Below w.heap.size w wr) (fun i _=>M - (intOf i).toNat)
 case atStart=>exact⟨0,Xb _,Z,z.out,J.out⟩
 case round =>
  clear z J;obtain⟨q,hq,rfl,hY,W⟩:=hrel
  have l:=Qa W;have Y:=Qa hY;clear W hY;by_cases n:q<M
  ·have ac:(q:Int)<M:=by omega
   have u:q<ts.length:=by rw[V.out];exact n
   obtain⟨t,a⟩:∃ t,ts[q]?=some t:=⟨_,Zg u⟩
   obtain⟨g2,o2,D,B,rfl,-,d0,T,d2,f⟩:=HT.out.at a
   have O:=Qk d0 l.out;have z1:=Qk T l.out;have z2:=Qk d2 l.out
   have C:Hid (∀ m,Below wr.heap.size wr m->Calls prog 285 #[Tv t D B,.slice p N c] m fun e w'=>∃ a' c' qb,e=.returned (.tuple #[Tv (Qai regs t) a' c',.bool qb])/\TIn w' (Qcr m.heap.size) (Qai regs t) a'/\Below m.heap.size m w'):=fun m hb=>by
    have v:=l.out.trans (hb.mono l.out.size)
    have:=rename_any 6 t D B p N c (fun i=>regs.getD i 0) m (f.below v).all (HC.out t (Zm a)) (HI.out.below v)
    refine this.mono (fun e w' h=>?_);rw[<-HN.out] at h
    exact QkJ h
   have HS:Hid ((ts.take (q+1)).map (Qai regs)=(ts.take q).map (Qai regs)++[Qai regs t]):=by show _=_;rw[XV,a,List.map_append];rfl
   have s:Hid (((ts.take q).map (Qai regs)).length=q):=by show _=_;rw[XN,List.length_take];omega
   clear d0 T d2 f a u;simp only[Tv] at C
   generalize t.kind=tk at O C;generalize t.r=tr at z1 C;generalize t.len=tl at z2 C;have ab:q*3+2<M*3:=by omega
   go_wp2_with fail
   have o:Below wr.heap.size wr (wr.alloc (.cells #[Iv tk,Iv tr,.slice D tl B] 105)):=(Below.refl _ wr).alloc Ze _;refine(C.out _ o).mono ?_
   rintro e E ⟨L,c4,qb,rfl,X,I⟩;have b:=Y.out.below (o.trans (I.mono o.size));have B4:Hid (Below w.heap.size w E):=l.out.trans ((o.trans (I.mono o.size)).mono l.out.size);obtain⟨v0,r0⟩:=b.has (q*3) (by omega)
   obtain⟨v1,r1⟩:=b.has (q*3+1) (by omega)
   obtain⟨v2,r2⟩:=b.has (q*3+2) (by omega)
   have f0:=b.frozen (q*3);have f1:=b.frozen (q*3+1);have f2:=b.frozen (q*3+2);have t5:TIn E (Qcr (G+1)) (Qai regs t) L:=X.mono (fun k hk _=>by have:=Y.out.lt;have:wr.heap.size<=k:=Zt o.size hk;omega);have Z5:=Qa (b.set (c:=c4) s.out n t5);have U:Hid (Below w.heap.size w (((E.setCell ⟨G,q*3,none⟩ (Iv (Qai regs t).kind)).setCell ⟨G,q*3+1,none⟩ (Iv (Qai regs t).r)).setCell ⟨G,q*3+2,none⟩ (.slice L (Qai regs t).len c4))):=((B4.out.setCell (p:=⟨G,q*3,none⟩) y.out _).setCell (p:=⟨G,q*3+1,none⟩) y.out _).setCell (p:=⟨G,q*3+2,none⟩) y.out _;clear b t5 X I o C O z1 z2;simp only[Tv] at Z5 U |-
   go_wp2
   go_roundw
   case rel=>exact⟨q+1,n,by go_num,by rw[HS.out];exact Z5.out,U.out⟩
   case measure=>simp[intOf];omega
  ·have aa:¬ (q:Int)<M:=by omega
   have e:ts.take q=ts:=XO (by rw[V.out];omega);rw[e] at Y
   go_wp2
   go_ret;exact⟨G,Z,y.out,Y.out,l.out⟩
abbrev Qok (Z:Type):=List (Nat × (Z->World->(Nat->Prop)->Prop))
theorem QgC {m:Nat}{too:Nat->Int}(b:∀ i,i<m->-9223372036854775808<=too i/\too i<=9223372036854775807):{n:Nat}->{t u:TT n}->t.ok->t.ren m too=some u->u.ok
 | 0,t,_,_,_=>Empty.elim t
 | n+1,t,u,hok,h=>by
   simp only[TT.ren] at h
   cases e1:ZI m too t.1 t.2.1 with
   | none=>simp[e1] at h
   | some r1 =>
     simp only[e1] at h
     cases e2:ZP (TT.ren m too) t.2.2 with
     | none=>simp[e2] at h
     | some l1 =>
       simp only[e2] at h
       have h:=Xn h;subst h;refine⟨?_,fun x d=>?_⟩
       ·show -9223372036854775808<=r1/\r1<=9223372036854775807;unfold ZI at e1;split at e1
        ·cases e1;exact hok.1
        split at e1
        ·cases e1
        rename_i j g
        split at e1
        ·cases e1
        ·cases e1;exact b _ (by omega)
       ·obtain⟨f,e⟩:=ZQ.1 e2
        obtain⟨i,c⟩:=List.getElem?_of_mem d
        have a:i<t.2.2.length:=by rw[<-f];exact(Zi c).1
        have:=e i t.2.2[i] (Zg a)
        rw[c] at this
        exact QgC b (hok.2 _ (List.getElem_mem a)) this
theorem Qjk (h:intsL.In w Q l [.slice a m c]):∀ x∈l,-9223372036854775808<=x/\x<=9223372036854775807:=fun x e=>by
 obtain⟨i,b⟩:=List.getElem?_of_mem e
 obtain⟨g,o,f,_,_,_,_,_,d⟩:=Yf h b
 exact d
theorem Qdy {m:List (MFunc 6)}(h:(QaM 6).In w Q m [.slice p n c]){g:MFunc 6}(b:m[k]?=some g) :
 ∃ mg mo a1 c1 a2 c2 a3 c3,p=some ⟨mg,mo,none⟩/\w.cell? ⟨mg,mo+k*4,none⟩=some (Iv g.regs)/\w.cell? ⟨mg,mo+k*4+1,none⟩=some (.slice a1 g.params.length c1)/\w.cell? ⟨mg,mo+k*4+2,none⟩=some (.slice a2 g.results.length c2)/\w.cell? ⟨mg,mo+k*4+3,none⟩=some (.slice a3 g.blocks.length c3) /\
  (Qo 6).In w Q g.params [.slice a1 g.params.length c1]/\(Qo 6).In w Q g.results [.slice a2 g.results.length c2]:=by
 obtain⟨mg,mo,l,e,j,o,a,d⟩:=Yf h b
 obtain⟨a1,c1,a2,c2,a3,c3,rfl,f,i,q,r⟩:=Qas d
 exact⟨mg,mo,a1,c1,a2,c2,a3,c3,e,a 0 (by decide),a 1 (by decide),a 2 (by decide),a 3 (by decide),f,i⟩
theorem Qma (h:∀ x∈regs,-9223372036854775808<=x/\x<=9223372036854775807){t:TT 6}(b:t.ok):(Qai regs t).ok:=by
 unfold Qai
 cases e:t.ren regs.length (fun i=>regs.getD i 0) with
 | none=>exact⟨⟨by decide,by decide⟩,fun x c=>by simp[zeroTT] at c⟩
 | some u=>exact QgC (fun i a=>h (regs.getD i 0) (by simp[List.getD,a])) b e
theorem Qcx.types {M:Nat}{A:Nat->Prop}{l:List (TT 6)}(h:Qcx w G M l) (t:l.length=M) (d:∀ x∈l,x.ok) (m:∀ k,G<=k->¬ A k):(Qo 6).In w (fun g=>¬ A g) l [.slice (some ⟨G,0,none⟩) M M]:=by
 obtain⟨q,b,y,p⟩:=h.row
 subst t;refine⟨_,_,Z,fun i x f=>?_⟩
 obtain⟨a,c,u,o,n,s⟩:=p i x f
 refine⟨G,0,[Iv x.kind,Iv x.r,.slice a x.len c],Z,m G Ze,XC b,fun j e=>?_,a,c,Z,s.mono (fun k v _=>m k (by omega)),d x (Zm f)⟩
 have e:j<3:=e;show w.cell? ⟨G,0+i*3+j,none⟩=_;rw[XK]
 match j,e with
 | 0,_=>exact Qb b _ _ u
 | 1,_=>exact Qb b _ _ o
 | 2,_=>exact Qb b _ _ n
 | j+3,h=>exact absurd h (by omega)
noncomputable def JSt.callC (s:JSt) (x:Qs):Int:=match s.m[x.k.toNat]? with
 | none=>0
 | some g=>Qv (QbX s.H x.regs g.regs) (Qv (s.handC x.args (g.params.map (Qai x.regs))) (QZ s.L.length g.results.length))
def JSt.callS (s:JSt) (x:Qs):JSt:={ s with L:=s.L++(match s.m[x.k.toNat]? with | none=>[] | some g=>g.results.map (Qai x.regs)) }
def QnP (w2:World) (b X mg mo nm cm k n1 d1 n2 d2 n3 d3:Nat) (fr:Int) (p1 p2 p3:Option Addr) (t:Tmp) (v:Value) (w:World):Prop :=
 match ([(4,fun v w=>∃ B,v=.pointer (some ⟨B,0,none⟩)/\w2.heap.size<=B/\Blk w B #[.int .i64 0,.slice none 0 0,.slice none 0 0,.slice none 0 0] 89)]:List (Tmp × (Value->World->Prop))).lookup t with
 | some p=>p v w
 | none=>v=(([(0,.pointer (some ⟨b,0,none⟩)),(3,.pointer (some ⟨X,0,none⟩)),(5,.pointer (some ⟨b,0,none⟩)),(6,.pointer (some ⟨b,0,none⟩)),(7,.pointer (some ⟨b,0,none⟩)),(8,.pointer (some ⟨b,0,none⟩)),(9,.slice (some ⟨mg,mo,none⟩) nm cm),(10,.pointer (some ⟨X,4,none⟩)),(11,.int .i64 (k:Int)),(12,.pointer (some ⟨mg,mo+k*4,none⟩)),(13,.agg #[.int .i64 fr,.slice p1 n1 d1,.slice p2 n2 d2,.slice p3 n3 d3])]:List (Tmp × Value)).lookup t).getD undef
theorem jc1 {g f j l d1 A y z x:Nat}{p1 q o:Option Addr}(L:w2.cell? ⟨b,0,none⟩=some (.slice (some ⟨g,f,none⟩) j cm)) (P:w2.cell? ⟨X,4,none⟩=some (Iv (k:Int))) (G:w2.cell? ⟨g,f+k*4,none⟩=some (Iv fr)) (N:w2.cell? ⟨g,f+k*4+1,none⟩=some (.slice p1 l d1)) (H:w2.cell? ⟨g,f+k*4+2,none⟩=some (.slice q A y)) (D:w2.cell? ⟨g,f+k*4+3,none⟩=some (.slice o z x)) (I:(k:Int)<j){Q:Exit->Act->World->Prop}
 (a:Act) (m:Nat) (O:a.tmps.size=m) (u:36<=m) (F:a.tmps.getD 0 undef=Pv b 0) (E:a.tmps.getD 3 undef=Pv X 0)
 (hend:∀ ops vs w',vs 13=.agg #[Iv fr,.slice p1 l d1,.slice q A y,.slice o z x]->(fun v w=>∃ B,v=Pv B 0/\w2.heap.size<=B/\Blk w B #[Iv 0,Nv,Nv,Nv] 89) (vs 4) w'->Below w2.heap.size w2 w'->wpList prog ops Q (Qal 10 ((Tryz.f249.body.bind (Qi 1)).getD .skip)) (QN a vs [5,6,7,8,9,10,11,12,13,4]) w') :
 Code.wp prog ((Tryz.f249.body.bind (Qi 1)).getD .skip) Q a w2:=by
 conv=>arg 2;whnf
 refine Qg 10 (QnP w2 b X g f j cm k l d1 A y z x fr p1 q o) (fun w=>Below w2.heap.size w2 w) (fun w w'=>Below w.heap.size w w') (outs:=[0,3]) (gs:=[]) (bs:=[true,true,true,true,true,true,true,true,true,true]) (by kernel_rfl) (n:=36) O u (by kernel_rfl) (by kernel_rfl) ?hR ?hG (QI Zr 1) ⟨F,E,Y⟩ ?hA ?hend
 case hR =>
  intro t v w w' R h;unfold QnP at h |-;split at h
  ·rename_i p i
   simp only[List.lookup_cons,List.lookup_nil] at i
   split at i
   ·cases i;exact(by obtain⟨B,e,J,C⟩:=h;exact⟨B,e,J,(R.block B (XC C)).trans C⟩)
   ·cases i
  ·exact h
 case hG=>exact Y
 case hend=>exact fun ops vs w' c d=>hend ops vs w' (d 13 (by kernel_rfl)) (d 4 (by kernel_rfl)) c
 case hA =>
  repeat
   refine⟨fun a w c d K s=>?_,?_⟩
   focus first
    | obtain⟨r,-⟩:=d
      conv at r=>whnf;rhs;whnf
      have U:=Qk L c;have W:=Qk P c;have S:=Qk G c;have T:=Qk N c;have c4:=Qk H c;have V:=Qk D c;go_simp;exact s _ _ Zr c Z
    | clear d
      go_simp;exact s _ _ (Zc _ _) (c.alloc c.size _) ⟨_,Z,c.size,Qe _ _ _⟩
    | obtain⟨r,M,-⟩:=d
      conv at r=>whnf;rhs;whnf
      conv at M=>whnf;rhs;whnf
      go_simp;exact s _ _ Zr c Z
  trivial
def Qny (w2:World) (b X C N ac n1 d1 Kn rc:Nat) (ag rg p1:Option Addr) (ps:List (TT 6)) (regs:List Int) (t:Tmp) (v:Value) (w:World):Prop :=
 match ([(27,fun v w=>∃ g,v=.slice (some ⟨g,0,none⟩) n1 n1/\w2.heap.size<=g/\Qcx w g n1 (ps.map (Qai regs)))]:List (Tmp × (Value->World->Prop))).lookup t with
 | some p=>p v w
 | none=>v=(([(0,.pointer (some ⟨b,0,none⟩)),(3,.pointer (some ⟨X,0,none⟩)),(4,.pointer (some ⟨C,0,none⟩)),(20,.pointer (some ⟨b,0,none⟩)),(21,.pointer (some ⟨X,7,none⟩)),(22,.slice ag N ac),(23,.pointer (some ⟨C,1,none⟩)),(24,.slice p1 n1 d1),(25,.pointer (some ⟨X,6,none⟩)),(26,.slice rg Kn rc)]:List (Tmp × Value)).lookup t).getD undef
theorem jc3 {C f d1 j:Nat}{p1:Option Addr}{i:List (TT 6)}{R:Nat->Prop}(T:w2.cell? ⟨X,6,none⟩=some (.slice rg j rc)) (M:w2.cell? ⟨X,7,none⟩=some (.slice ag N ac)) (S:w2.cell? ⟨C,1,none⟩=some (.slice p1 f d1)) (B:Hid (regs.length=j)) (y:Hid (i.length=f)) (s:f<=1000) (O:Hid (intsL.In w2 Q regs [.slice rg j rc])) (H:Hid (LIn w2 R i p1)) (E:Hid (∀ x∈i,x.count<=2000)){Q:Exit->Act->World->Prop}
 (a:Act) (m:Nat) (L:a.tmps.size=m) (r:36<=m) (F:a.tmps.getD 0 undef=Pv b 0) (D:a.tmps.getD 3 undef=Pv X 0) (J:a.tmps.getD 4 undef=Pv C 0)
 (hend:∀ ops vs w',vs 22=.slice ag N ac->vs 20=Pv b 0->(fun v w=>∃ g,v=.slice (some ⟨g,0,none⟩) f f/\w2.heap.size<=g/\Qcx w g f (i.map (Qai regs))) (vs 27) w'->Below w2.heap.size w2 w'->wpList prog ops Q (Qal 8 ((Tryz.f249.body.bind (Qi 3)).getD .skip)) (QN a vs [20,21,22,23,24,25,26,27]) w') :
 Code.wp prog ((Tryz.f249.body.bind (Qi 3)).getD .skip) Q a w2:=by
 conv=>arg 2;whnf
 refine Qg 8 (Qny w2 b X C N ac f d1 j rc ag rg p1 i regs) (fun w=>Below w2.heap.size w2 w) (fun w w'=>Below w.heap.size w w') (outs:=[0,3,4]) (gs:=[]) (bs:=[true,true,true,true,true,true,true,true]) (by kernel_rfl) (n:=36) L r (by kernel_rfl) (by kernel_rfl) ?hR ?hG (QI Zr 1) ⟨F,D,J,Y⟩ ?hA ?hend
 case hR =>
  intro t v w w' P h;unfold Qny at h |-;split at h
  ·rename_i p k
   simp only[List.lookup_cons,List.lookup_nil] at k
   split at k
   ·cases k;exact(by obtain⟨g,e,G,U⟩:=h;exact⟨g,e,G,U.below P⟩)
   ·cases k
  ·exact h
 case hG=>exact Y
 case hend=>exact fun ops vs w' c d=>hend ops vs w' (d 22 (by kernel_rfl)) (d 20 (by kernel_rfl)) (d 27 (by kernel_rfl)) c
 case hA =>
  iterate 7
   refine⟨fun a w c d K q=>?_,?_⟩
   ·obtain⟨o,-⟩:=d
    conv at o=>whnf;rhs;whnf
    have V:=Qk M c;have u1:=Qk S c;have u2:=Qk T c;go_simp;exact q _ _ Zr c Z
  refine⟨fun a w c d K q=>?_,?_⟩
  ·obtain⟨o,I,-⟩:=d
   conv at o=>whnf;rhs;whnf
   conv at I=>whnf;rhs;whnf
   go_simp;refine Xm (QaU B.out y.out s (Ya O.out c) (H.out.below c) E.out) ?_;rintro r7 W ⟨A,rfl,l,u,z⟩;go_simp;exact q _ _ z (c.trans (z.mono c.size)) ⟨A,Z,Zt c.size l,u⟩
  trivial
theorem QjE {A:Nat->Prop}{s:JSt}{x:Qs}(hA:∀ k,A k->k<w.heap.size) (hJ:JOk s) (h:SAt w b O A s) (j:intsL.In w Q x.regs [.slice rg x.regs.length rc]) (l:intsL.In w Q x.args [.slice ag x.args.length ac]) (al:x.regs.length<=rc) (a8:x.regs.length<=6) (a5:x.args.length<=8) (ai:0<=x.k/\x.k<s.m.length) :
 Calls prog 249 #[Pv b 0,Qd0 x rg ag rc ac] w fun e w'=>QO w b O A s (s.callS x) (s.callC x) e w':=by
 obtain⟨B,F,D,I,xk,G,a,f⟩:=x
 simp only at j l al a8 a5 ai
 have HJ:=Qa hJ;have H0:=Qa h;have HA:=Qa hA;have hL:=hJ.vals;have b1:=Zc w (.cells #[Iv B,Iv F,Iv D,Iv I,Iv xk,Iv G,.slice rg a.length rc,.slice ag f.length ac] 78);have H:=Qa (h.below b1);have HR:Hid (intsL.In _ Q a [.slice rg a.length rc]):=Ya j b1;have HG:Hid (intsL.In _ Q f [.slice ag f.length ac]):=Ya l b1;have HB:=Qa b1;have X1:Hid (Blk (w.alloc (.cells #[Iv B,Iv F,Iv D,Iv I,Iv xk,Iv G,.slice rg a.length rc,.slice ag f.length ac] 78)) w.heap.size #[Iv B,Iv F,Iv D,Iv I,Iv xk,Iv G,.slice rg a.length rc,.slice ag f.length ac] 78):=Blk.new _ _ _;clear h hA hJ b1 j l;obtain⟨k,rfl⟩:=Xc ai.1
 have a9:k<s.m.length:=by omega
 have q:s.m[k]?=some s.m[k]:=Zg a9;generalize s.m[k]=g at q;have be:Hid (g∈s.m):=Zm q
 have E:Hid (s.callC ⟨B,F,D,I,(k:Int),G,a,f⟩=Qv (QbX s.H a g.regs) (Qv (s.handC f (g.params.map (Qai a))) (QZ s.L.length g.results.length))):=by
  show _=_;unfold JSt.callC;simp only[Int.toNat_natCast,q]
 have ES:Hid (s.callS ⟨B,F,D,I,(k:Int),G,a,f⟩={ s with L:=s.L++g.results.map (Qai a) }):=by
  show _=_;unfold JSt.callS;simp only[Int.toNat_natCast,q]
 have ar:=Qa (HJ.out.mod.2 g be.out);have ay:Hid (¬ MFunc.great g):=fun hg=>HJ.out.tiny (.inr ⟨g,be.out,hg⟩);have bj:Hid (∀ t∈g.params,t.count<=2000):=fun t ht=>Xo fun am=>ay.out (.inr (.inl (.inr ⟨t,ht,am⟩)));have bm:Hid (∀ t∈g.results,t.count<=2000):=fun t ht=>Xo fun am=>ay.out (.inr (.inr (.inl (.inr ⟨t,ht,am⟩))));have bk:Hid (∀ t∈s.L,t.count<=100000):=fun t ht=>Zt (Qac (HJ.out.types t ht)) (by omega);have ax:(k:Int)<s.m.length:=by omega
 go_enter func249,ntmps249
 go_upto_region 1 with fail
 generalize w.alloc (.cells #[Iv B,Iv F,Iv D,Iv I,Iv (k:Int),Iv G,.slice rg a.length rc,.slice ag f.length ac] 78)=w1 at H HR HG HB X1 |-;obtain⟨X,hX⟩:∃ X,w.heap.size=X:=⟨_,Z⟩
 rw[hX] at X1 |-
 clear hX;have x4:=Qb X1.out 4 _ Z;have x6:=Qb X1.out 6 _ Z;have x7:=Qb X1.out 7 _ Z;obtain⟨pm,cm,hh,a1,c1,a2,c2,a3,c3,aL,cL,RR⟩:=H.out.read
 obtain⟨q0,-⟩:=RR.cells
 obtain⟨mg,mo,p1,d1,R,M,p3,d3,rfl,f0,f1,f2,f3,hP,av⟩:=Qdy RR.mod q
 have ae:Hid ((Qo 6).In w1 (fun g=>¬ A g) g.params [.slice p1 g.params.length d1]):=hP;have an:Hid ((Qo 6).In w1 (fun g=>¬ A g) g.results [.slice R g.results.length M]):=av;clear RR hP av q ai;generalize s.m.length=nm at q0 a9 ax;generalize bl:g.regs=fr at f0 E;generalize ap:g.params.length=P at f1 ae;have bf:=Qa ap;generalize ah:g.results.length=o at f2 an E;have bd:=Qa ah;generalize g.blocks.length=n3 at f3;have bn:P<=8:=by rw[<-ap];exact ar.out.params.1
 have bo:o<=8:=by rw[<-ah];exact ar.out.results.1
 clear ap ah bl;refine jc1 q0 x4 f0 f1 f2 f3 ax _ _ Z (Xg (by kernel_rfl)) Z Z ?_;rintro af vs w5 W ⟨C,aw,hC,n⟩ b5;show wpList _ af _ [_] (QN _ vs [5,6,7,8,9,10,11,12,13,4]) w5;simp only[QN,Act.put,List.setIfInBounds_toArray,List.set_cons_zero,List.set_cons_succ,W,aw]
 have e0:=Qb n 0 _ Z;have e1:=Qb n 1 _ Z;have e2:=Qb n 2 _ Z;have e3:=Qb n 3 _ Z;have ef:∀ i,w5.frozen? ⟨C,i,none⟩=false:=fun i=>Qj n i
 have B6:Hid (Blk ((((w5.setCell ⟨C,0,none⟩ (Iv fr)).setCell ⟨C,1,none⟩ (.slice p1 P d1)).setCell ⟨C,2,none⟩ (.slice R o M)).setCell ⟨C,3,none⟩ (.slice p3 n3 d3)) C #[Iv fr,.slice p1 P d1,.slice R o M,.slice p3 n3 d3] 89):=by
  have h3:=Qh (Qh (Qh (Qh n 0 (Iv fr)) 1 (.slice p1 P d1)) 2 (.slice R o M)) 3 (.slice p3 n3 d3);exact h3
 have J:Hid (Below w1.heap.size w1 ((((w5.setCell ⟨C,0,none⟩ (Iv fr)).setCell ⟨C,1,none⟩ (.slice p1 P d1)).setCell ⟨C,2,none⟩ (.slice R o M)).setCell ⟨C,3,none⟩ (.slice p3 n3 d3))) :=
  (((b5.setCell (p:=⟨C,0,none⟩) hC _).setCell (p:=⟨C,1,none⟩) hC _).setCell (p:=⟨C,2,none⟩) hC _).setCell (p:=⟨C,3,none⟩) hC _
 clear n hC b5 W aw q0 f0 f1 f2 f3;go_upto_region 2 with fail
 generalize ((((w5.setCell ⟨C,0,none⟩ (Iv fr)).setCell ⟨C,1,none⟩ (.slice p1 P d1)).setCell ⟨C,2,none⟩ (.slice R o M)).setCell ⟨C,3,none⟩ (.slice p3 n3 d3))=w6 at B6 J |-;clear e0 e1 e2 e3 ef;obtain⟨e0,e1,e2,e3⟩:=Qmg B6.out
 have x6:=Qk x6 J.out;have x7:=Qk x7 J.out;have H6:=Qa (H.out.below J.out);have S:=Qa (HB.out.trans (J.out.mono HB.out.size));have u:Hid (intsL.In w6 Q a [.slice rg a.length rc]):=Ya HR.out J.out;have aj:Hid (intsL.In w6 Q f [.slice ag f.length ac]):=Ya HG.out J.out;have az:Hid ((Qo 6).In w6 (fun g=>¬ A g) g.params [.slice p1 P d1]):=Ya ae.out J.out;have ba:Hid ((Qo 6).In w6 (fun g=>¬ A g) g.results [.slice R o M]):=Ya an.out J.out;clear H HB HR HG ae an J B6 X1 x4;obtain⟨K,hK⟩:∃ K,a.length=K:=⟨_,Z⟩
 have HK:=Qa hK;rw[hK] at x6 u al a8
 clear hK;obtain⟨N,hN⟩:∃ N,f.length=N:=⟨_,Z⟩
 have HN:=Qa hN;rw[hN] at x7 aj a5
 clear hN;have CL:=Qa (Qee fr HK.out (by omega) al u.out H6.out);go_wp2_with fail
 refine CL.out.mono ?_;rintro e' w' ⟨hO,hw⟩;have hw:=hw.symm;subst hw;rcases hO with ⟨r,y,rfl,hy⟩|⟨r,rfl⟩
 rotate_left
 ·exact⟨Z,QO.bad (by rw[E.out,Ql r]) r (Yh H0.out S.out)⟩
 subst hy;have E2:Hid (s.callC ⟨B,F,D,I,(k:Int),G,a,f⟩=Qv (s.handC f (g.params.map (Qai a))) (QZ s.L.length o)):=by show _=_;rw[E.out,Qx r]
 clear r CL E;go_upto_region 3 with fail
 refine jc3 x6 x7 e1 HK bf (by omega) u (Qa (QU az.out).1) bj _ _ Z (Xg (by kernel_rfl)) Z Z Z ?_;rintro af vs w7 ad aa ⟨gP,ab,bh,bb⟩ U;show wpList _ af _ [_] (QN _ vs [20,21,22,23,24,25,26,27]) w7;simp only[QN,Act.put,List.setIfInBounds_toArray,List.set_cons_zero,List.set_cons_succ,ad,aa,ab]
 have H7:=Qa (H6.out.below U);have T:=Qa (S.out.trans (U.mono S.out.size))
 have CH:Hid (Calls prog 251 #[Pv b 0,.slice ag N ac,.slice (some ⟨gP,0,none⟩) P P] w7 fun e w'=>ZF (s.handC f (g.params.map (Qai a))) VNone e/\Below w7.heap.size w7 w') :=
  QaF HN.out (by omega) (by rw[XN,bf.out]) (by omega) (Ya aj.out U) bb.lin hL bk.out (fun k hk=>Zl (HA.out k (H0.out.sub k hk)) T.out.size) H7.out
 have a0:Hid ((Qo 6).In w7 (fun g=>¬ A g) g.results [.slice R o M]):=Ya ba.out U;have aq:Hid (intsL.In w7 Q a [.slice rg K rc]):=Ya u.out U;have a4:=Qk e2 U;have bc:=Qk x6 U;clear bb bh U ad aa ab H6 S u aj az ba e0 e1 e2 e3 x6 x7;go_wp2_with fail
 refine CH.out.mono ?_;rintro e' w8 ⟨hO,b8⟩;have H8:=Qa (H7.out.below b8);have z:=Qa (T.out.trans (b8.mono T.out.size));rcases hO with ⟨r,y,rfl,hy⟩|⟨r,rfl⟩
 rotate_left
 ·exact⟨Z,QO.bad (by rw[E2.out,Ql r]) r (Yh H0.out z.out)⟩
 subst hy;have E3:Hid (s.callC ⟨B,F,D,I,(k:Int),G,a,f⟩=QZ s.L.length o):=by show _=_;rw[E2.out,Qx r]
 have ao:Hid ((Qo 6).In w8 (fun g=>¬ A g) g.results [.slice R o M]):=Ya a0.out b8;have ak:Hid (intsL.In w8 Q a [.slice rg K rc]):=Ya aq.out b8;have au:=Qk a4 b8;have bg:=Qk bc b8;clear r CH E2 b8 a0 aq a4 bc H7 T;have CR:=Qa (QaU (d:=M) (c:=rc) HK.out bd.out (by omega) ak.out (QU ao.out).1 bm.out);go_wp2_with fail
 refine CR.out.mono ?_;rintro e' w9 ⟨gR,rfl,bi,a6,b9⟩;have a7:=Qa (z.out.trans (b9.mono z.out.size))
 have CM:Hid (Calls prog 244 #[Pv b 0,.slice (some ⟨gR,0,none⟩) o o] w9 fun e w'=>QO w b O A s (s.callS ⟨B,F,D,I,(k:Int),G,a,f⟩) (s.callC ⟨B,F,D,I,(k:Int),G,a,f⟩) e w'):=by
  rw[ES.out,E3.out]
  have V:(g.results.map (Qai a)).length=o:=by rw[XN,bd.out]
  refine(Qay V (by omega) (a6.types V (fun y hy=>?_) (fun k hk e=>?_)) hL (fun k hk=>Zl (HA.out k hk) a7.out.size) (H8.out.below b9)).mono (fun e w' hd=>hd.after a7.out)
  ·obtain⟨t,ht,rfl⟩:=List.mem_map.1 hy
   exact Qma (Qjk ak.out) ((QU ao.out).2 t ht)
  ·have h1:=HA.out k e;have h2:=z.out.size;omega
 clear a6 bi b9 CR ao ak au bg H8 z E3;go_wp2_with fail
 refine CM.out.mono ?_;rintro e' bp hd;have FF:=Qa hd;rcases hd with ⟨h1,rfl,h3⟩|⟨h1,rfl,h3⟩
 rotate_left
 ·exact⟨Z,FF.out⟩
 clear h1 h3 CM;go_wp2
 exact Xz (v:=.tuple #[]) (by simp[results,results249,go_sem]) Z FF.out
def passC (H:List Bool) (kept:Int) (l:List Int) (asked:Int):Int:=if (l.length:Int)=asked then Qv (Qdo kept.toNat l) (hPass H [] l) else 2
theorem Qj4 (a:k<n) (h:l.getD k 0≠(k:Int)):Qdo n l=11:=by
 unfold Qdo;rw[Xr]
 intro e;rw[Xe] at e
 have:=e k (List.mem_range.2 a)
 exact h (by simpa using this)
theorem QkY (h:∀ k,k<n->l.getD k 0=(k:Int)):Qdo n l=0:=by
 unfold Qdo;rw[Xs]
 rw[Xe]
 intro k a;exact Xt (h k (List.mem_range.1 a))
theorem Qet {A:Nat->Prop}{s:JSt}(a:Int) (hN:l.length=N) (S:N<=100000) (hl:intsL.In w Q l [.slice p N c]) (r:0<=s.f.regs) (I:s.f.regs<=a) (h:SAt w b O A s) :
 Calls prog 275 #[Pv b 0,.slice p N c,Iv a] w fun e w'=>ZF (passC s.H s.f.regs l a) VNone e/\Below w.heap.size w w':=by
 have HL:=Qa hl;have J:=Qa hN;obtain⟨pm,cm,hh,a1,c1,a2,c2,a3,c3,aL,cL,T⟩:=h.read
 obtain⟨-,q1,q2,-⟩:=T.cells
 have HH:=Qa T.held;clear h hl hN T;by_cases q:(N:Int)=a
 rotate_left
 ·have t:((N:Int)==a)=false:=by simpa using q
  have E:Hid (passC s.H s.f.regs l a=2):=by show _=_;unfold passC;rw[J.out,Xr q]
  go_enter func275,ntmps275
  go_wp2_with fail
  refine(Zh _ 2).mono ?_
  rintro n w' ⟨rfl,d⟩;subst d;exact⟨Z,ZF.bad E.out (by decide),Zr⟩
 subst q;have t:((N:Int)==(N:Int))=true:=by simp
 obtain⟨M,U⟩:∃ M:Nat,s.f.regs=(M:Int):=Xc r
 have E:Hid (passC s.H s.f.regs l N=Qv (Qdo M l) (hPass s.H [] l)):=by show _=_;unfold passC;rw[J.out,Xs Z,U];rfl
 rw[U] at q2 I
 have ac:M<=N:=by omega
 have W:Hid (passC s.H s.f.regs l N=passC s.H s.f.regs l N):=rfl;clear r I W;generalize passC s.H s.f.regs l N=pc at E |-;clear U;go_enter func275,ntmps275
 go_wp2_with (go_at_call 268;refine(Zd _ _).mono ?_;rintro n w' ⟨rfl,d⟩;have d:=d.symm;subst d)
 go_loop [18] (fun i=>∃ k:Nat,k<=M/\i=Iv k/\∀ j,j<k->l.getD j 0=(j:Int)) (fun i=>M - (intOf i).toNat)
 case atStart=>exact⟨0,Xb _,Z,fun j hj=>by omega⟩
 case round =>
  obtain⟨k,hk,rfl,hz⟩:=hrel
  have V:=Qa hz;clear hz;by_cases z:k<M
  ·have D:(k:Int)<M:=by omega
   have aa:(k:Int)<N:=by omega
   have G:k<l.length:=by rw[J.out];omega
   obtain⟨g,o,rfl,-,hg,B⟩:=ZH HL.out G
   clear G;by_cases m:l.getD k 0=(k:Int)
   ·have HY:=Qa m;rw[m] at B
    have ab:((k:Int)==(k:Int))=true:=by simp
    clear m;go_wp2_with (go_at_call 268;refine(Zd _ _).mono ?_;rintro n w' ⟨rfl,d⟩;have d:=d.symm;subst d)
    go_round
    case rel =>
     refine⟨k+1,z,by go_num,fun j hj=>?_⟩
     rcases Nat.lt_or_ge j k with h | h
     ·exact V.out j h
     ·have:j=k:=by omega
      subst this;exact HY.out
    case measure=>simp[intOf];omega
   ·have F:Hid (pc=11):=by show _=_;rw[E.out,Qj4 z m];rfl
    have R:(l.getD k 0==(k:Int))=false:=by simpa using m
    generalize l.getD k 0=y at B m R;clear m;go_wp2_with fail
    refine(Zh _ 11).mono ?_
    rintro n w' ⟨rfl,d⟩;subst d;exact⟨Z,ZF.bad F.out (by decide),Zr⟩
  ·have D:¬ (k:Int)<M:=by omega
   have P:k=M:=by omega
   have F:Hid (pc=hPass s.H [] l):=by show _=_;rw[E.out,QkY (fun j hj=>V.out j (by omega))];rfl
   have C:=Qa (QhX J.out S HL.out HH.out);generalize hPass s.H [] l=K at F C;clear V P;by_cases u:K=0
   ·have X:(K==0)=true:=by simpa using u
    subst u;go_wp2_with (first | (go_at_call 286;refine(C.out).mono ?_;rintro n w2 ⟨rfl,x⟩;have L:=Qa x;clear x) | (go_at_call 268;refine(Zd _ _).mono ?_;rintro n w' ⟨rfl,d⟩;have d:=d.symm;subst d))
    exact Xz (v:=.tuple #[]) (by simp[results,results275,go_sem]) Z ⟨ZF.good F.out Z,L.out⟩
   ·have X:(K==0)=false:=by simpa using u
    have H0:=Qa u;clear u;go_wp2_with (go_at_call 286;refine(C.out).mono ?_;rintro n w2 ⟨rfl,x⟩;have L:=Qa x;clear x)
    refine(Zh _ K).mono ?_
    rintro n w' ⟨rfl,d⟩;subst d;exact⟨Z,ZF.bad F.out H0.out,L.out⟩
theorem QgI {s:JSt}{r:Int}(d:∀ x∈regs,hHas s.H x=true) (g:(regs.length:Int)=r){t:TT 6}(c:t.check r=0):t.ren regs.length (fun i=>regs.getD i 0)=some (Qai regs t):=by
 obtain⟨u,f,-⟩:=QfE (m:=regs.length) (too:=fun i=>regs.getD i 0) (a:=r) (b:=s.H.length) (by omega) (fun i e=>ZW (d (regs.getD i 0) (by simp[List.getD,e]))) c
 unfold Qai;rw[f]
 rfl
theorem QdP {s:JSt}{ts d:List (TT 6)}(a:d.length=ts.length) (h:∀ (i:Nat) t u,ts[i]?=some t->d[i]?=some u->t.ren regs.length (fun i=>regs.getD i 0)=some u):s.handC l d=s.args l ts regs:=by
 unfold JSt.handC JSt.args;rw[a]
 by_cases c:l.length=ts.length
 ·rw[Xs c,Xs c]
  refine Qa0 (by rw[List.length_zip,List.length_zip,a]) (fun i p q f g=>?_);rw[List.getElem?_zip_eq_some] at f g
  obtain⟨m,n⟩:=f
  obtain⟨b,j⟩:=g
  rw[m] at b
  injection b with b
  have k:=h i q.2 p.2 j n;show s.beC p.1 p.2=s.arg regs q.1 q.2;unfold JSt.beC JSt.arg;rw[<-b]
  cases s.at p.1 with
  | none=>rfl
  | some u =>
    show (if ZR (u=p.2) then (0:Int) else 9)=if ZR (q.2.ren regs.length (fun i=>regs.getD i 0)=some u) then 0 else 9
    rw[k]
    have:ZR (u=p.2)=ZR (some p.2=some u):=Qf9 (by rw[Qa9];exact⟨fun e=>by rw[e],fun e=>(Xn e).symm⟩)
    rw[this]
 ·rw[Xr c,Xr c]
theorem QeC {s:JSt}{ts:List (TT 6)}(h:∀ t∈ts,t.ren regs.length (fun i=>regs.getD i 0)=some (Qai regs t)):s.handC l (ts.map (Qai regs))=s.args l ts regs :=
 QdP (by rw[XN]) (fun i t u b a=>by
  rw[XS,b] at a
  injection a with a
  rw[<-a]
  exact h t (Zm b))
theorem QgD {m:Nat}{too:Nat->Int}{a:Int}(g:a<=m) (c:∀ i,i<m->too i=(i:Int)):{n:Nat}->{t:TT n}->t.fault a=0->t.ren m too=some t
 | 0,t,_=>Empty.elim t
 | n+1,t,h=>by
   obtain⟨b,e⟩:=TT.fault_zero h
   have d:ZI m too t.1 t.2.1=some t.2.1:=by
    unfold ownC at b;split at b
    ·cases b
    split at b
    ·cases b
    split at b
    ·cases b
    split at b
    ·cases b
    split at b
    ·cases b
    rename_i u q r s v
    by_cases j:t.1=1
    ·rw[ZI,Xs j]
    ·have:=c t.2.1.toNat (by omega)
     rw[ZI,Xr j,Xr (by omega),Xr (by omega),this]
     congr 1
     omega
   have p:ZP (TT.ren m too) t.2.2=some t.2.2:=by
    generalize t.2.2=l at e
    induction l with
    | nil=>rfl
    | cons x xs ih =>
      have k:=QgD g c (e x (by simp));have f:=ih (fun y o=>e y (by simp[o]));simp[ZP,k,f]
   simp only[TT.ren,d,p]
   rfl
theorem Qe2 {H:List Bool}:∀ {rest ahead:List Int},hPass H ahead rest=0->∀ x∈rest,hHas H x=true
 | [],ahead,h,x,a=>by cases a
 | r::rest,ahead,h,x,a=>by
   simp only[hPass] at h
   split at h
   ·rename_i b
    split at h
    ·cases h
    ·rcases List.mem_cons.1 a with rfl | a
     ·exact b
     ·exact Qe2 h x a
   ·cases h
theorem Qm6 {s:JSt}{g:MBlock 6}{a:List Int}(i:s.f.blocks[k]?=some g) (e:∀ t∈g.params,t.check g.regs=0):s.to ⟨(k:Int),a,xs⟩=Qv (passC s.H s.f.regs a g.regs) (s.handC xs (g.params.map (Qai a))):=by
 unfold JSt.to passC;simp only[Int.toNat_natCast,i]
 by_cases b:(a.length:Int)=g.regs
 ·rw[Xs b,Xs b]
  by_cases c:Qdo s.f.regs.toNat a=0
  ·rw[Qx c,Qx c]
   by_cases d:hPass s.H [] a=0
   ·rw[Qx d,Qx d,QeC (fun t h=>QgI (s:=s) (Qe2 d) b (e t h))]
   ·rw[Ql d,Ql d]
  ·rw[Ql c,Ql c];rw[Ql c]
 ·rw[Xr b,Xr b];rfl
theorem Qmn {s:JSt}(e:s.f.regs=(n:Int)) (g:∀ t∈s.f.results,t.check s.f.regs=0):s.handC l s.f.results=s.args l s.f.results (Qhz s.f.regs.toNat) :=
 QdP Z (fun i t u d b=>by
  rw[d] at b
  injection b with b
  rw[<-b,e,XT]
  have:=g t (Zm d)
  refine QgD (a:=s.f.regs) (by rw[e];unfold Qhz;simp) (fun i c=>?_) (QX.1 this).2;unfold Qhz at c |-;simp at c
  simp[List.getD,c])
theorem Qkg {A:Nat->Prop}{s:JSt}{x:Qs}(hA:∀ k,A k->k<w.heap.size) (N:JOk s) (h:SAt w b O A s) (o:intsL.In w Q x.regs [.slice rg x.regs.length rc]) (n:intsL.In w Q x.args [.slice ag x.args.length ac]) (z:x.regs.length<=rc) (D:ZC x) (hf:x.form s.m.length=0) (q:x.op=14) :
 Calls prog 212 #[Pv b 0,Qd0 x rg ag rc ac] w fun e w'=>QO w b O A s (s.next x) (s.goC x) e w':=by
 have U:=Qa7 (s:=s) q;obtain⟨op,d,i,j,p,f,a,c⟩:=x
 have q:op=14:=q;subst q;have HE:=Qa U;obtain⟨f1,f2,V,-⟩:=Q5 hf
 have E:=Qa (Xh f1 (Xh f2 V));obtain⟨ra,rb,F⟩:=D
 have HI:=Qa (Xh ra (Xh rb F));have hL:=N.vals;have B:=Qa (Qgw hA N h o n z #[Iv 14,Iv d,Iv i,Iv j,Iv p,Iv f,.slice rg a.length rc,.slice ag c.length ac]);clear h hA N o n U hf f1 f2 V ra rb F z;go_enter func212,ntmps212
 go_upto_region 1 with fail
 generalize w.alloc (.cells #[Iv 14,Iv d,Iv i,Iv j,Iv p,Iv f,.slice rg a.length rc,.slice ag c.length ac] 78)=w1 at B |-;generalize w.heap.size=X at B |-;obtain⟨HJ,H0,aa,H,HR,HG,HB,HA,HO,X1,P⟩:=B.out
 clear B;obtain⟨x0,x1,x2,x3,x4,-,x6,x7⟩:=QV X1.out
 have J:Hid (∀ e C,QO w b O A s (s.callS ⟨14,d,i,j,p,f,a,c⟩) (s.callC ⟨14,d,i,j,p,f,a,c⟩) e C->QO w b O A s (s.next ⟨14,d,i,j,p,f,a,c⟩) (s.goC ⟨14,d,i,j,p,f,a,c⟩) e C):=fun e C G=>(by
  have T:=E.out.2.1 Z;obtain⟨k,u⟩:=Xc T.1
  have u:p=(k:Int):=u;subst u;have S:k<s.m.length:=by have:=T.2.1;omega
  have l:s.m[k]?=some s.m[k]:=Zg S;generalize s.m[k]=g at l;have R:g∈s.m:=Zm l;have K:=HJ.out.mod.2 g R;have e1:s.callC ⟨14,d,i,j,(k:Int),f,a,c⟩=Qv (QbX s.H a g.regs) (Qv (s.handC c (g.params.map (Qai a))) (QZ s.L.length g.results.length)):=by unfold JSt.callC;simp only[Int.toNat_natCast,l]
  have e2:s.makes ⟨14,d,i,j,(k:Int),f,a,c⟩=if (a.length:Int)=g.regs then (Qv (QL s.H [] a) (s.args c g.params a),g.results.map (Qai a)) else (2,[]):=by rw[HE.out];simp only[Int.toNat_natCast,l]
  have M:s.goC ⟨14,d,i,j,(k:Int),f,a,c⟩=s.callC ⟨14,d,i,j,(k:Int),f,a,c⟩:=by
   rw[e1]
   unfold JSt.goC QbX;rw[e2]
   by_cases r:(a.length:Int)=g.regs
   ·rw[Xs r,Xs r]
    by_cases y:QL s.H [] a=0
    ·rw[QeC (fun t ht=>QgI (s:=s) (ZA y) r (K.params.2 t ht)),Qx y,XN,Qx y]
    ·rw[Ql y,Ql y,Ql y]
   ·rw[Xr r,Xr r];rfl
  refine G.to M (fun I=>?_);rw[QT (by simp) (by simp),e2]
  unfold JSt.callS;simp only[Int.toNat_natCast,l]
  rw[e1] at I
  unfold QbX at I;by_cases r:(a.length:Int)=g.regs
  ·rw[Xs r]
  ·rw[Xr r] at I;cases I)
 have W:=Qa (QjE (x:=⟨14,d,i,j,p,f,a,c⟩) HA.out HJ.out H.out HR.out HG.out P.out (E.out.2.1 Z).2.2.1 (E.out.2.1 Z).2.2.2 ⟨(E.out.2.1 Z).1,(E.out.2.1 Z).2.1⟩);have x5:=Qb X1.out 5 _ Z;go_wp2_with fail
 refine W.out.mono ?_;rintro e' C G;have FF:Hid (QO w b O A s (s.next ⟨14,d,i,j,p,f,a,c⟩) (s.goC ⟨14,d,i,j,p,f,a,c⟩) e' C):=J.out _ _ (G.after HB.out);rcases G with ⟨h1,rfl,h3⟩|⟨h1,rfl,h3⟩
 rotate_left
 ·exact⟨Z,FF.out⟩
 clear h1 h3 W;go_wp2
 exact Xz (v:=.tuple #[]) (by simp[results,results212,go_sem]) Z FF.out
theorem Ql8 {A:Nat->Prop}{s:JSt}{x:Qs}(hA:∀ k,A k->k<w.heap.size) (hJ:JOk s) (h:SAt w b O A s) (f:intsL.In w Q x.regs [.slice rg x.regs.length rc]) (i:intsL.In w Q x.args [.slice ag x.args.length ac]) (S:x.regs.length<=rc) (W:ZC x) (hf:x.form s.m.length=0) (n:x.op=6) :
 Calls prog 212 #[Pv b 0,Qd0 x rg ag rc ac] w fun e w'=>QO w b O A s (s.next x) (s.goC x) e w':=by
 have hE:=QcY (s:=s) n;obtain⟨op,a,y,E,xk,C,q,F⟩:=x
 have n:op=6:=n;subst n;have HE:=Qa hE;obtain⟨f1,f2,f3,-⟩:=Q5 hf
 have HF:=Qa (Xh f1 (Xh f2 f3));obtain⟨ra,rb,N⟩:=W
 have HI:=Qa (Xh ra (Xh rb N));have hL:=hJ.vals;have B:=Qa (Qgw hA hJ h f i S #[Iv 6,Iv a,Iv y,Iv E,Iv xk,Iv C,.slice rg q.length rc,.slice ag F.length ac]);clear h hA hJ f i hE hf f1 f2 f3 ra rb N S;go_enter func212,ntmps212
 go_upto_region 1 with fail
 generalize w.alloc (.cells #[Iv 6,Iv a,Iv y,Iv E,Iv xk,Iv C,.slice rg q.length rc,.slice ag F.length ac] 78)=w1 at B |-;generalize w.heap.size=X at B |-;obtain⟨HJ,H0,ah,H,HR,HG,HB,HA,HO,X1,aj⟩:=B.out
 clear B;obtain⟨x0,x1,x2,x3,x4,-,x6,x7⟩:=QV X1.out
 obtain⟨k,I⟩:=Xc (HF.out.1 (by simp)).1
 have I:xk=(k:Int):=I;subst I;have ai:k<=7:=by have:=(HF.out.1 (by simp)).2;simp only at this;omega
 have EG:Hid (s.goC ⟨6,a,y,E,(k:Int),C,q,F⟩=Qv (s.fieldC a k) (QZ s.L.length 1)):=by
  show _=_;unfold JSt.goC JSt.fieldC;rw[HE.out]
  simp only[Int.toNat_natCast]
  cases K:s.at a with
  | none=>unfold JSt.want;rw[K];rfl
  | some t =>
    simp only
    by_cases D:s.want a 3 true=0
    ·rw[Xs D,Qx D]
     by_cases j:k<t.2.2.length
     ·rw[Zg j,Xs j];rfl
     ·rw[Xk (by omega),Xr j];rfl
    ·rw[Xr D,Ql D];rw[Ql D,Ql D]
 have C1:=Qa (QdQ a k (by omega) hL HO.out H.out);go_wp2_with fail
 refine(C1.out ).mono ?_
 rintro e' w2 ⟨hq,V⟩;have R:=Qa (HB.out.trans (V.mono HB.out.size));have H2:=Qa (H.out.below V);have M:=Qa (fun k j=>Zl (HA.out k j) V.size);have ak:=Qa (fun k j=>Zl (HO.out k j) V.size);rcases hq with ⟨G,y2,rfl,hy⟩|⟨G,rfl⟩
 rotate_left
 ·exact⟨Z,QO.bad ((fun G=>by rw[EG.out,Ql G]) G) G (Yh H0.out R.out)⟩
 have P:=Qa G;clear G V C1;obtain⟨t,u,p,c,K,hu,rfl,U⟩:=hy
 have ab:=TT.height_lt u;have h5:u.height<=5:=by omega
 have aa:t.check s.H.length=0:=HJ.out.types t (Qdx K).1
 have z:u.ok:=by
  obtain⟨pm,cm,hh,a1,c1,a2,c2,a3,c3,aL,cL,RR⟩:=H0.out.read
  obtain⟨-,hn,-,ae⟩:=Qdx K
  obtain⟨g,a',c',e,-,-,-,-,ad⟩:=RR.row _ t ae
  exact ad.2 u (Zm hu)
 have HS:Hid (s.next ⟨6,a,y,E,(k:Int),C,q,F⟩={ s with L:=s.L++[u.at 5] }):=by
  show _=_;rw[QT (by simp) (by simp),HE.out]
  have D:s.want a 3 true=0:=by
   have:=P.out
   unfold JSt.fieldC at this;exact(QD this).1
  simp only[Int.toNat_natCast,K,if_pos D,hu]
 have af:Hid (∀ e T,QO w b O A s { s with L:=s.L++[u.at 5] } (QZ s.L.length 1) e T->QO w b O A s (s.next ⟨6,a,y,E,(k:Int),C,q,F⟩) (s.goC ⟨6,a,y,E,(k:Int),C,q,F⟩) e T):=fun e T J=>J.to (by rw[EG.out,Qx P.out]) (fun _=>HS.out)
 have CM:Hid (∀ d,Calls prog 244 #[Pv b 0,.slice (some ⟨w2.heap.size,0,none⟩) 1 d] (w2.alloc (.cells #[Iv u.kind,Iv u.r,.slice p u.len c] 105)) fun e w'=>QO w2 b O A s { s with L:=s.L++[u.at 5] } (QZ s.L.length 1) e w'):=fun d=>by
  have b1:=Zc w2 (.cells #[Iv u.kind,Iv u.r,.slice p u.len c] 105);have o:=Qd4 (t:=u.at 5) (p:=p) (c:=c) (d:=d) M.out (TIn.at 5 h5 U) (TT.at_ok 5 z);rw[TT.at_kind,TT.at_r,TT.at_len 5 _ h5] at o
  exact(Qay (l:=[u.at 5]) Z (by simp) o hL (fun k j=>Zl (M.out k j) b1.size) (H2.out.below b1)).mono (fun e w' J=>J.after b1)
 clear K hu U ab h5 aa z HS EG;simp only[Tv]
 go_wp2_with fail
 refine(CM.out _).mono ?_
 rintro e' T J;have FF:Hid (QO w b O A s (s.next ⟨6,a,y,E,(k:Int),C,q,F⟩) (s.goC ⟨6,a,y,E,(k:Int),C,q,F⟩) e' T):=af.out _ _ (J.after R.out);rcases J with ⟨h1,rfl,h3⟩|⟨h1,rfl,h3⟩
 rotate_left
 ·exact⟨Z,FF.out⟩
 clear h1 h3 CM;go_wp2
 exact Xz (v:=.tuple #[]) (by simp[results,results212,go_sem]) Z FF.out
theorem Ql2 {A:Nat->Prop}{s:JSt}{x:Qs}(hA:∀ k,A k->k<w.heap.size) (hJ:JOk s) (h:SAt w b O A s) (i:intsL.In w Q x.regs [.slice rg x.regs.length rc]) (j:intsL.In w Q x.args [.slice ag x.args.length ac]) (P:x.regs.length<=rc) (T:ZC x) (hf:x.form s.m.length=0) (n:x.op=7) :
 Calls prog 212 #[Pv b 0,Qd0 x rg ag rc ac] w fun e w'=>QO w b O A s (s.next x) (s.goC x) e w':=by
 have hE:=QcE (s:=s) n;obtain⟨op,a,f,D,V,z,q,I⟩:=x
 have n:op=7:=n;subst n;have HE:=Qa hE;obtain⟨f1,f2,f3,-⟩:=Q5 hf
 have HF:=Qa (Xh f1 (Xh f2 f3));obtain⟨ra,rb,M⟩:=T
 have HI:=Qa (Xh ra (Xh rb M));have hL:=hJ.vals;have B:=Qa (Qgw hA hJ h i j P #[Iv 7,Iv a,Iv f,Iv D,Iv V,Iv z,.slice rg q.length rc,.slice ag I.length ac]);clear h hA hJ i j hE hf f1 f2 f3 ra rb M P;go_enter func212,ntmps212
 go_upto_region 1 with fail
 generalize w.alloc (.cells #[Iv 7,Iv a,Iv f,Iv D,Iv V,Iv z,.slice rg q.length rc,.slice ag I.length ac] 78)=K at B |-;generalize w.heap.size=X at B |-;obtain⟨HJ,W,ah,H,HR,HG,HB,HA,HO,X1,aj⟩:=B.out
 clear B;obtain⟨x0,x1,x2,x3,x4,-,x6,x7⟩:=QV X1.out
 obtain⟨k,F⟩:=Xc (HF.out.1 (by simp)).1
 have F:V=(k:Int):=F;subst F;have ai:k<=7:=by have:=(HF.out.1 (by simp)).2;simp only at this;omega
 have EG:Hid (s.fieldC a k≠0->s.goC ⟨7,a,f,D,(k:Int),z,q,I⟩=s.fieldC a k):=fun d=>by
  unfold JSt.goC;rw[HE.out]
  unfold JSt.fieldC at d |-;simp only[Int.toNat_natCast]
  cases E:s.at a with
  | none=>unfold JSt.want;rw[E];rfl
  | some t =>
    rw[E] at d
    simp only at d |-
    by_cases C:s.want a 3 true=0
    ·rw[Qx C] at d |-
     rw[Xs C]
     by_cases U:k<t.2.2.length
     ·rw[Xs U] at d;exact absurd Z d
     ·rw[Xk (by omega),Xr U];rfl
    ·rw[Xr C,Ql C,Ql C]
 have ad:Hid (∀ t u,s.fieldC a k=0->s.at a=some t->t.2.2[k]?=some u->s.goC ⟨7,a,f,D,(k:Int),z,q,I⟩=s.beC f (u.at 5)/\s.next ⟨7,a,f,D,(k:Int),z,q,I⟩=s):=fun t u h0 E J=>by
  have C:s.want a 3 true=0:=by
   unfold JSt.fieldC at h0;exact(QD h0).1
  rw[QT (by simp) (by simp)]
  unfold JSt.goC JSt.beC;rw[HE.out]
  simp only[Int.toNat_natCast,E,if_pos C,J]
  cases s.at f with
  | none=>exact⟨Z,by simp⟩
  | some v =>
    simp only
    have e:ZR (u.at 5=v)=ZR (v=u.at 5):=Qf9 (by rw[Qa9];exact⟨fun e=>e.symm,fun e=>e.symm⟩);rw[e]
    cases ZR (v=u.at 5) with
    | true=>exact⟨by show Qv 0 (QZ s.L.length 0)=_;rw[QbG hL];rfl,by simp⟩
    | false=>exact⟨Z,by simp⟩
 have ab:Hid (∀ t∈s.L,t.count<=100000):=fun t ht=>Zt (Qac (HJ.out.types t ht)) (by omega);go_upto_region 17 with fail
 have BD:Hid (Below K.heap.size K K.drew):=QbZ Zr;have C1:Hid (Calls prog 245 #[Pv b 0,Iv a,Iv k] K.drew fun e w'=>ZF (s.fieldC a k) (Qnv w' A s a k) e/\Below K.drew.heap.size K.drew w'):=QdQ a k (by omega) hL HO.out (H.out.below BD.out)
 have DM:Hid (∀ (u:TT 5) (p:Option Addr) (c:Nat) (o:World),TIn o (fun g=>¬ A g) u p->SAt o b O A s->(∀ k,O k->k<o.heap.size)->Calls prog 246 #[Pv b 0,Iv f,.agg #[Iv u.kind,Iv u.r,.slice p u.len c]] o fun e w'=>ZF (s.beC f (u.at 5)) VNone e/\Below o.heap.size o w'):=fun u p c o J hs ho=>by
  have h5:u.height<=5:=by have:=TT.height_lt u;omega
  have:=QcO (s:=s) f (t:=u.at 5) (p:=p) (c:=c) (TIn.at 5 h5 J) hL ab.out ho hs
  rw[show Tv (u.at 5) p c=.agg #[Iv u.kind,Iv u.r,.slice p u.len c] by simp only[Tv,TT.at_kind,TT.at_r,TT.at_len 5 _ h5]] at this
  exact this
 go_region_with (first
  | (go_at_call 245;refine(C1.out).mono ?_;rintro e' w2 ⟨hq,S⟩;have y:=Qa (HB.out.trans ((Zw S).mono HB.out.size));rcases hq with ⟨l,y2,rfl,t,u,p,c,E,J,rfl,R⟩|⟨l,rfl⟩;rotate_left;exact⟨Z,QO.bad (EG.out l) l (Yh W.out y.out)⟩;have af:=Qk x2 (Zw S);have H2:=Qa (H.out.below (Zw S));have ae:=Qa (fun k U=>Zl (HO.out k U) (Zw S).size);have HU:=Qa R;have G:=Qa (ad.out t u l E J);clear R E J l S)
  | (go_at_call 246;refine(DM.out _ _ _ _ HU.out H2.out ae.out).mono ?_;rintro e' w3 ⟨hq,b3⟩;have N:=Qa (y.out.trans (b3.mono y.out.size));rcases hq with ⟨l,y3,rfl,hy⟩|⟨l,rfl⟩;rotate_left;exact⟨Z,QO.bad G.out.1 l (Yh W.out N.out)⟩;subst hy;have aa:=Qa l;clear l b3))
 all_goals
  have FF:Hid (QO w b O A s (s.next ⟨7,a,f,D,(k:Int),z,q,I⟩) (s.goC ⟨7,a,f,D,(k:Int),z,q,I⟩) (.returned (.tuple #[])) w3):=QO.none W.out N.out (by rw[G.out.1,aa.out]) G.out.2;go_wp2
  exact Xz (v:=.tuple #[]) (by simp[results,results212,go_sem]) Z FF.out
def QnA (w6:World) (b X mg mo nb cb k:Nat) (ds:List Value) (t:Tmp) (v:Value) (w:World):Prop :=
 match ([(4,fun v w=>∃ B,v=.pointer (some ⟨B,0,none⟩)/\w6.heap.size<=B/\∃ c,c.size=12/\Blk w B c 86)]:List (Tmp × (Value->World->Prop))).lookup t with
 | some p=>p v w
 | none=>v=(([(0,.pointer (some ⟨b,0,none⟩)),(3,.pointer (some ⟨X,0,none⟩)),(5,.pointer (some ⟨b,0,none⟩)),(6,.pointer (some ⟨b,0,none⟩)),(7,.pointer (some ⟨b,2,none⟩)),(8,.pointer (some ⟨b,5,none⟩)),(9,.slice (some ⟨mg,mo,none⟩) nb cb),(10,.pointer (some ⟨X,0,none⟩)),(11,.int .i64 (k:Int)),(12,.pointer (some ⟨mg,mo+k*12,none⟩)),(13,.agg ds.toArray)]:List (Tmp × Value)).lookup t).getD undef
theorem jt1 {j i u y:Nat}(F:w6.cell? ⟨b,5,none⟩=some (.slice (some ⟨j,i,none⟩) u y)) (C:w6.cell? ⟨X,0,none⟩=some (Iv (k:Int))) (A:Hid (w6.rangeAt j (i+k*12) ds)) (q:ds.length=12) (E:(k:Int)<u){Q:Exit->Act->World->Prop}
 (a:Act) (m:Nat) (I:a.tmps.size=m) (s:29<=m) (D:a.tmps.getD 0 undef=Pv b 0) (r:a.tmps.getD 3 undef=Pv X 0)
 (hend:∀ ops vs w',vs 13=.agg ds.toArray->(fun v w=>∃ B,v=Pv B 0/\w6.heap.size<=B/\∃ c,c.size=12/\Blk w B c 86) (vs 4) w'->Below w6.heap.size w6 w'->wpList prog ops Q (Qal 10 ((Tryz.f250.body.bind (Qi 1)).getD .skip)) (QN a vs [5,6,7,8,9,10,11,12,13,4]) w') :
 Code.wp prog ((Tryz.f250.body.bind (Qi 1)).getD .skip) Q a w6:=by
 conv=>arg 2;whnf
 refine Qg 10 (QnA w6 b X j i u y k ds) (fun w=>Below w6.heap.size w6 w) (fun w w'=>Below w.heap.size w w') (outs:=[0,3]) (gs:=[]) (bs:=[true,true,true,true,true,true,true,true,true,true]) (by kernel_rfl) (n:=29) I s (by kernel_rfl) (by kernel_rfl) ?hR ?hG (QI Zr 1) ⟨D,r,Y⟩ ?hA ?hend
 case hR =>
  intro t v w w' J h;unfold QnA at h |-;split at h
  ·rename_i p o
   simp only[List.lookup_cons,List.lookup_nil] at o
   split at o
   ·cases o;exact(by obtain⟨B,e,G,c,r,z⟩:=h;exact⟨B,e,G,c,r,(J.block B (XC z)).trans z⟩)
   ·cases o
  ·exact h
 case hG=>exact Y
 case hend=>exact fun ops vs w' d f=>hend ops vs w' (f 13 (by kernel_rfl)) (f 4 (by kernel_rfl)) d
 case hA =>
  repeat
   refine⟨fun a w d f K l=>?_,?_⟩
   focus first
    | obtain⟨g,-⟩:=f
      conv at g=>whnf;rhs;whnf
      have M:=Qk F d;have N:=Qk C d;go_simp;exact l _ _ Zr d Z
    | clear f
      go_simp;exact l _ _ (Zc _ _) (d.alloc d.size _) ⟨_,Z,d.size,_,Z,Qe _ _ _⟩
    | obtain⟨g,H,-⟩:=f
      conv at g=>whnf;rhs;whnf
      conv at H=>whnf;rhs;whnf
      go_simp;exact l _ _ Zr d Z
    | obtain⟨g,-⟩:=f
      conv at g=>whnf;rhs;whnf
      obtain⟨L,x⟩:=underBk
      refine wp_load_mid 86 (.tmp 12) Z j (i+k*12) g ds _ (Z1 A.out d) x Z (by rw[q];exact sizeBk) ?_;exact l _ _ Zr d Z
  trivial
def QnH (w2:World) (b X C N ac n1 d1 Kn rc:Nat) (ag rg p1:Option Addr) (ps:List (TT 6)) (regs:List Int) (t:Tmp) (v:Value) (w:World):Prop :=
 match ([(27,fun v w=>∃ g,v=.slice (some ⟨g,0,none⟩) n1 n1/\w2.heap.size<=g/\Qcx w g n1 (ps.map (Qai regs)))]:List (Tmp × (Value->World->Prop))).lookup t with
 | some p=>p v w
 | none=>v=(([(0,.pointer (some ⟨b,0,none⟩)),(3,.pointer (some ⟨X,0,none⟩)),(4,.pointer (some ⟨C,0,none⟩)),(20,.pointer (some ⟨b,0,none⟩)),(21,.pointer (some ⟨X,2,none⟩)),(22,.slice ag N ac),(23,.pointer (some ⟨C,1,none⟩)),(24,.slice p1 n1 d1),(25,.pointer (some ⟨X,1,none⟩)),(26,.slice rg Kn rc)]:List (Tmp × Value)).lookup t).getD undef
theorem jt3 {C f d1 j:Nat}{p1:Option Addr}{i:List (TT 6)}{R:Nat->Prop}(S:w2.cell? ⟨X,1,none⟩=some (.slice rg j rc)) (J:w2.cell? ⟨X,2,none⟩=some (.slice ag N ac)) (T:w2.cell? ⟨C,1,none⟩=some (.slice p1 f d1)) (B:Hid (regs.length=j)) (y:Hid (i.length=f)) (s:f<=1000) (O:Hid (intsL.In w2 Q regs [.slice rg j rc])) (H:Hid (LIn w2 R i p1)) (E:Hid (∀ x∈i,x.count<=2000)){Q:Exit->Act->World->Prop}
 (a:Act) (m:Nat) (M:a.tmps.size=m) (r:29<=m) (F:a.tmps.getD 0 undef=Pv b 0) (D:a.tmps.getD 3 undef=Pv X 0) (L:a.tmps.getD 4 undef=Pv C 0)
 (hend:∀ ops vs w',vs 22=.slice ag N ac->vs 20=Pv b 0->(fun v w=>∃ g,v=.slice (some ⟨g,0,none⟩) f f/\w2.heap.size<=g/\Qcx w g f (i.map (Qai regs))) (vs 27) w'->Below w2.heap.size w2 w'->wpList prog ops Q (Qal 8 ((Tryz.f250.body.bind (Qi 3)).getD .skip)) (QN a vs [20,21,22,23,24,25,26,27]) w') :
 Code.wp prog ((Tryz.f250.body.bind (Qi 3)).getD .skip) Q a w2:=by
 conv=>arg 2;whnf
 refine Qg 8 (QnH w2 b X C N ac f d1 j rc ag rg p1 i regs) (fun w=>Below w2.heap.size w2 w) (fun w w'=>Below w.heap.size w w') (outs:=[0,3,4]) (gs:=[]) (bs:=[true,true,true,true,true,true,true,true]) (by kernel_rfl) (n:=29) M r (by kernel_rfl) (by kernel_rfl) ?hR ?hG (QI Zr 1) ⟨F,D,L,Y⟩ ?hA ?hend
 case hR =>
  intro t v w w' P h;unfold QnH at h |-;split at h
  ·rename_i p k
   simp only[List.lookup_cons,List.lookup_nil] at k
   split at k
   ·cases k;exact(by obtain⟨g,e,G,U⟩:=h;exact⟨g,e,G,U.below P⟩)
   ·cases k
  ·exact h
 case hG=>exact Y
 case hend=>exact fun ops vs w' c d=>hend ops vs w' (d 22 (by kernel_rfl)) (d 20 (by kernel_rfl)) (d 27 (by kernel_rfl)) c
 case hA =>
  iterate 7
   refine⟨fun a w c d K q=>?_,?_⟩
   ·obtain⟨o,-⟩:=d
    conv at o=>whnf;rhs;whnf
    have V:=Qk J c;have u1:=Qk T c;have u2:=Qk S c;go_simp;exact q _ _ Zr c Z
  refine⟨fun a w c d K q=>?_,?_⟩
  ·obtain⟨o,I,-⟩:=d
   conv at o=>whnf;rhs;whnf
   conv at I=>whnf;rhs;whnf
   go_simp;refine Xm (QaU B.out y.out s (Ya O.out c) (H.out.below c) E.out) ?_;rintro r7 W ⟨A,rfl,l,u,z⟩;go_simp;exact q _ _ z (c.trans (z.mono c.size)) ⟨A,Z,Zt c.size l,u⟩
  trivial
theorem Qb4 {A:Nat->Prop}{s:JSt}{x:MTo}(hJ:JOk s) (hO:∀ k,O k->k<w.heap.size) (h:SAt w b O A s) (l:intsL.In w Q x.regs [.slice rg x.regs.length rc]) (m:intsL.In w Q x.args [.slice ag x.args.length ac]) (ab:x.regs.length<=16) (a8:x.args.length<=8) (ap:0<=x.block/\x.block<s.f.blocks.length) :
 Calls prog 250 #[Pv b 0,toV x rg ag rc ac] w fun e w'=>ZF (s.to x) VNone e/\Below w.heap.size w w':=by
 have HJ:=Qa hJ;have HO:=Qa hO;have hL:=hJ.vals;obtain⟨xb,c,d⟩:=x
 simp only at l m ab a8 ap
 obtain⟨k,rfl⟩:=Xc ap.1
 have bh:k<s.f.blocks.length:=by omega
 have z:s.f.blocks[k]?=some s.f.blocks[k]:=Zg bh;generalize s.f.blocks[k]=g at z;have b1:=Zc w (.cells #[Iv (k:Int),.slice rg c.length rc,.slice ag d.length ac] 82);have ae:=Qe w #[Iv (k:Int),.slice rg c.length rc,.slice ag d.length ac] 82;have K1:=Qa (h.below b1);have am:Hid (intsL.In (w.alloc (.cells #[Iv (k:Int),.slice rg c.length rc,.slice ag d.length ac] 82)) Q c [.slice rg c.length rc]):=Ya l b1;have al:Hid (intsL.In (w.alloc (.cells #[Iv (k:Int),.slice rg c.length rc,.slice ag d.length ac] 82)) Q d [.slice ag d.length ac]):=Ya m b1;have K:=Qa b1;have u:=Qa ae;clear h l m b1 ae hJ hO;go_enter func250,ntmps250
 go_upto_region 1 with fail
 obtain⟨X,hX⟩:∃ X,w.heap.size=X:=⟨_,Z⟩
 generalize bn:w.alloc (.cells #[Iv (k:Int),.slice rg c.length rc,.slice ag d.length ac] 82)=w1 at K1 am al K u |-;rw[hX] at u
 rw[hX]
 clear bn hX;have x0:=Qb u.out 0 _ Z;have x1:=Qb u.out 1 _ Z;have x2:=Qb u.out 2 _ Z;obtain⟨pm,cm,hh,a1,c1,a2,c2,a3,c3,aL,cL,R⟩:=K1.out.read
 obtain⟨-,-,-,-,-,q5,-⟩:=R.cells
 obtain⟨fa,fc,fb,fd,fe,ff,a0,-,-,a7,-⟩:=Qas R.fn
 simp only[List.cons.injEq,Value.slice.injEq,and_true,true_and] at a0
 obtain⟨-,-,rfl,rfl⟩:=a0
 obtain⟨mg,mo,n,i,r,rfl,o,aw,ad,V⟩:=Qbp a7 z
 have ax:=Qa o;have aj:Hid ((Qo 6).In w1 (fun g=>¬ A g) g.params [.slice n g.params.length i]):=ad;have ar:Hid (r.length=10):=aw;have W:=Qa V;have a5:(k:Int)<s.f.blocks.length:=by omega
 have be:=Qa (HJ.out.mod.2 s.f HJ.out.fn);have bi:Hid (g∈s.f.blocks):=Zm z;have J:=Qa (be.out.blocks g bi.out);have a6:Hid (¬ MBlock.great g):=fun hg=>HJ.out.tiny (.inr ⟨s.f,HJ.out.fn,.inr (.inr (.inr ⟨g,bi.out,hg⟩))⟩);have bo:Hid (∀ t∈g.params,t.count<=2000):=fun t ht=>Xo fun br=>a6.out (.inr (.inl (.inr ⟨t,ht,br⟩)));have bq:Hid (∀ t∈s.L,t.count<=100000):=fun t ht=>Zt (Qac (HJ.out.types t ht)) (by omega);have E:Hid (s.to ⟨(k:Int),c,d⟩=Qv (passC s.H s.f.regs c g.regs) (s.handC d (g.params.map (Qai c)))):=Qm6 z J.out.params.2;clear R a7 o ad V aw z ap;generalize bv:s.f.blocks.length=nb at q5 bh a5;refine jt1 q5 x0 ax (by simp[ar.out]) a5 _ _ Z (Xg (by kernel_rfl)) Z Z ?_;rintro bm vs p aa ⟨B,bb,hB,cB,az,T⟩ b5;show wpList _ bm _ [_] (QN _ vs [5,6,7,8,9,10,11,12,13,4]) p;simp only[QN,Act.put,List.setIfInBounds_toArray,List.set_cons_zero,List.set_cons_succ,aa,bb]
 have a:(Value.int .i64 g.regs::Value.slice n g.params.length i::r).length=12:=by simp[ar.out]
 have TH:Hid (p.there B 0 (Value.int .i64 g.regs::Value.slice n g.params.length i::r).toArray.size):=by
  intro j hj;rw[List.size_toArray,a] at hj
  rw[XK]
  refine⟨?_,Qj T j⟩
  rw[Qb T j cB[j] (by simp)];rfl
 have TS:Hid ((prog.info? 86).map (·.size)=some (Value.int .i64 g.regs::Value.slice n g.params.length i::r).toArray.size):=by show _=_;rw[List.size_toArray,a];exact sizeBk
 have TO:Hid ((Value.int .i64 g.regs::Value.slice n g.params.length i::r).toArray.all (·.oneCell')=true):=by
  refine all_oneCell_toArray fun v hv=>?_;simp only[List.mem_cons] at hv
  rcases hv with rfl | rfl | hv
  ·rfl
  ·rfl
  ·exact W.out v hv
 have B6:Hid (Blk (p.setCells B 0 (Value.int .i64 g.regs::Value.slice n g.params.length i::r).toArray.toList) B (Value.int .i64 g.regs::Value.slice n g.params.length i::r).toArray 86):=by
  have h0:Blk p B ([]++cB.toList).toArray 86:=by rw[List.nil_append,Array.toArray_toList];exact T
  have:=Blk.sets (Value.int .i64 g.regs::Value.slice n g.params.length i::r) [] cB.toList p (by rw[a];simp[az]) h0
  exact this
 have D:Hid (Below w1.heap.size w1 (p.setCells B 0 (Value.int .i64 g.regs::Value.slice n g.params.length i::r).toArray.toList)):=by
  have:=Qz.setCells (O:=fun k=>k=B) (O':=fun k=>k=B) (b:=B) Z (Value.int .i64 g.regs::Value.slice n g.params.length i::r).toArray.toList 0 _ (Qz.refl _ p)
  exact b5.trans (this.below b5.size (fun k hk=>by omega))
 clear T hB az b5 aa bb a;generalize au:g.regs=gr at E J B6 D TH TS TO |-;have bl:Hid (g.regs=gr):=au;generalize aq:g.params.length=S at aj B6 D TH TS TO |-;have bj:Hid (g.params.length=S):=aq;have bu:S<=8:=by rw[<-aq];exact J.out.params.1
 have y0:(p.setCells B 0 (Value.int .i64 gr::Value.slice n S i::r).toArray.toList).cell? ⟨B,0,none⟩=some (Iv gr):=Qb B6.out 0 _ Z;have y1:(p.setCells B 0 (Value.int .i64 gr::Value.slice n S i::r).toArray.toList).cell? ⟨B,1,none⟩=some (.slice n S i):=Qb B6.out 1 _ Z;generalize bp:(Value.int .i64 gr::Value.slice n S i::r).toArray=q at B6 D TH TS TO y0 y1 |-;have K6:=Qa (K1.out.below D.out);have C:Hid (intsL.In (p.setCells B 0 q.toList) Q c [.slice rg c.length rc]):=Ya am.out D.out;have U:Hid (intsL.In (p.setCells B 0 q.toList) Q d [.slice ag d.length ac]):=Ya al.out D.out;have an:Hid ((Qo 6).In (p.setCells B 0 q.toList) (fun g=>¬ A g) g.params [.slice n S i]):=Ya aj.out D.out;have BW:Hid (Below w.heap.size w (p.setCells B 0 q.toList)):=K.out.trans (D.out.mono K.out.size);have bt:Hid (s.f.regs<=gr):=by have:=J.out.regs.1;rw[bl.out] at this;exact this
 have M:=Qk x1 D.out;have I:=Qk x2 D.out;clear au aq bp K1 am al aj K D B6 q5 x0 x1 x2 ar W a6 u ax;go_upto_region 2 with (refine wpList_store_mid Z 86 (.tmp 4) (.tmp 13) Z B 0 q Z Z TH.out TS.out TO.out ?_)
 clear TH TS TO;generalize p.setCells B 0 q.toList=w6 at K6 C U an BW M I y0 y1 |-;obtain⟨Kn,ak⟩:∃ Kn,c.length=Kn:=⟨_,Z⟩
 have HK:=Qa ak;rw[ak] at M C ab
 clear ak;obtain⟨N,hN⟩:∃ N,d.length=N:=⟨_,Z⟩
 have HN:=Qa hN;rw[hN] at I U a8
 clear hN;have CP:=Qa (Qet gr HK.out (by omega) C.out be.out.regs.1 bt.out K6.out);go_wp2_with fail
 refine CP.out.mono ?_;rintro e' w7 ⟨hO,F⟩;have P:=Qa (BW.out.trans (F.mono BW.out.size));rcases hO with ⟨G,y,rfl,hy⟩|⟨G,rfl⟩
 rotate_left
 ·exact⟨Z,.inr ⟨by rw[E.out,Ql G];exact G,by rw[E.out,Ql G]⟩,P.out⟩
 subst hy;have E2:Hid (s.to ⟨(k:Int),c,d⟩=s.handC d (g.params.map (Qai c))):=by show _=_;rw[E.out,Qx G]
 have K7:=Qa (K6.out.below F);have av:Hid (intsL.In w7 Q c [.slice rg Kn rc]):=Ya C.out F;have ba:Hid (intsL.In w7 Q d [.slice ag N ac]):=Ya U.out F;have ay:=Qa (QU (Ya an.out F)).1;have a9:=Qk M F;have bg:=Qk I F;have a4:=Qk y1 F;clear G CP E F K6 C U an M I y0 y1 BW;go_upto_region 3 with fail
 refine jt3 a9 bg a4 HK bj (by omega) av ay bo _ _ Z (Xg (by kernel_rfl)) Z Z Z ?_;rintro bc bs w8 ai af ⟨gP,ah,bk,bd⟩ b8;show wpList _ bc _ [_] (QN _ bs [20,21,22,23,24,25,26,27]) w8;simp only[QN,Act.put,List.setIfInBounds_toArray,List.set_cons_zero,List.set_cons_succ,ai,af,ah]
 have ao:=Qa (P.out.trans (b8.mono P.out.size))
 have CH:Hid (Calls prog 251 #[Pv b 0,.slice ag N ac,.slice (some ⟨gP,0,none⟩) S S] w8 fun e w'=>ZF (s.handC d (g.params.map (Qai c))) VNone e/\Below w8.heap.size w8 w') :=
  QaF HN.out (by omega) (by rw[XN,bj.out]) (by omega) (Ya ba.out b8) bd.lin hL bq.out (fun k hk=>Zl (HO.out k hk) ao.out.size) (K7.out.below b8)
 clear bd bk b8 ai af ah K7 av ba ay a9 bg a4 P;go_wp2_with fail
 refine CH.out.mono ?_;rintro e' w9 ⟨hO,b9⟩;have bf:=Qa (ao.out.trans (b9.mono ao.out.size));have FF:Hid (ZF (s.to ⟨(k:Int),c,d⟩) VNone e'):=by show ZF _ _ _;rw[E2.out];exact hO
 rcases hO with ⟨G,y,rfl,hy⟩|⟨G,rfl⟩
 rotate_left
 ·exact⟨Z,FF.out,bf.out⟩
 subst hy;clear G CH E2 b9;go_wp2
 exact Xz (v:=.tuple #[]) (by simp[results,results250,go_sem]) Z ⟨FF.out,bf.out⟩
theorem Xv:type_of% @of_decide_eq_true:=@of_decide_eq_true
def QiR (H:List Bool) (regs:Int):Int:=if (Qan H).all (fun r=>decide (r<regs)) then 0 else 12
theorem Qhh {A:Nat->Prop}{s:JSt}(r:Int) (o:w.cell? ⟨B,0,none⟩=some (Pv b 0)) (h:SAt w b O A s) :
 Calls prog 276 #[Iv r,Pv B 0] w fun e w'=>e=.returned (.bool (decide (r>=s.f.regs)))/\w'=w:=by
 obtain⟨k,p,j,l,i,d,g,n,m,t,c,R⟩:=h.read
 obtain⟨-,-,a,-⟩:=R.cells
 clear R h;generalize s.f.regs=q at a |-;go_enter func276,ntmps276
 go_wp2
 go_ret;exact⟨Z,Z⟩
theorem enters_left1:Qaj 276:=fun _ _=>by kernel_rfl
theorem QfM {A:Nat->Prop}{s:JSt}(J:l.length=N) (S:N<=100000) (G:intsL.In w Q l [.slice p N c]) (H:w.cell? ⟨B,0,none⟩=some (Pv b 0)) (h:SAt w b O A s) :
 Calls prog 287 #[.slice p N c,.func (.func 276) #[] #[Pv B 0]] w fun e w'=>(∃ i:Int,e=.returned (Iv i)/\(0<=i↔∃ x∈l,s.f.regs<=x))/\w'=w:=by
 have R:=Qa G;have I:=Qa J;have C:=Qa (fun r=>Qhh r H h);have U:=enters_left1;unfold Qaj at U;clear G J h H;generalize s.f.regs=t at C |-;go_enter func287,ntmps287
 go_wp2
 go_loop [8] (fun i=>∃ k:Nat,k<=N/\i=Iv k/\∀ (j:Nat) (y:Int),j<k->l[j]?=some y->y<t) (fun i=>N - (intOf i).toNat)
 case atStart=>exact⟨0,Xb _,Z,fun j y D=>by omega⟩
 case round =>
  obtain⟨k,V,rfl,K⟩:=hrel
  have L:=Qa K;clear K;by_cases q:k<N
  ·have u:(k:Int)<N:=by omega
   have m:k<l.length:=by rw[I.out];exact q
   obtain⟨g,o,rfl,-,W,E⟩:=ZH R.out m
   obtain⟨y,n⟩:∃ y,l[k]?=some y:=⟨_,Zg m⟩
   rw[show l.getD k 0=y by rw[List.getD_eq_getElem?_getD,n];rfl] at E
   have F:=Qa n;have v:=Qa (C.out y);clear n m;by_cases a:t<=y
   ·rw[show decide (y>=t)=true from Xt a] at v
    have P:Hid (∃ x∈l,t<=x):=⟨y,Zm F.out,a⟩;clear a;go_wp2_with (go_at_call 276;refine(v.out).mono ?_;rintro e w' ⟨rfl,d⟩;have d:=d.symm;subst d)
    go_ret;exact⟨⟨k,Z,by simp only[P.out,iff_true];omega⟩,Z⟩
   ·rw[show decide (y>=t)=false from Xu a] at v
    have z:=Qa (Int.not_le.1 a);clear a;go_wp2_with (go_at_call 276;refine(v.out).mono ?_;rintro e w' ⟨rfl,d⟩;have d:=d.symm;subst d)
    go_round
    case rel =>
     refine⟨k+1,q,by go_num,fun j T D n=>?_⟩
     rcases Nat.lt_or_ge j k with h | h
     ·exact L.out j T h n
     ·have:j=k:=by omega
      subst this;have e:=F.out.symm.trans n;injection e with e
      subst e;exact z.out
    case measure=>simp[intOf];omega
  ·have u:¬ (k:Int)<N:=by omega
   go_wp2
   go_ret;refine⟨⟨-1,Z,by omega,fun hm=>?_⟩,Z⟩
   obtain⟨x,M,X⟩:=hm
   obtain⟨j,D,e⟩:=List.mem_iff_getElem.1 M
   have:=L.out j x (by have:=I.out;omega) (by rw[Zg D,e])
   omega
theorem Qds {A:Nat->Prop}{s:JSt}(k:l.length=N) (d:N<=100000) (n:intsL.In w Q l [.slice p N c]) (m:w.cell? ⟨B,0,none⟩=some (Pv b 0)) (h:SAt w b O A s) :
 Calls prog 277 #[.slice p N c,.func (.func 276) #[] #[Pv B 0]] w fun e w'=>e=.returned (.bool (!(l.all (fun r=>decide (r<s.f.regs)))))/\w'=w:=by
 have C:=Qa (QfM k d n m h);clear n k h m;go_enter func277,ntmps277
 go_wp2_with fail
 refine C.out.mono ?_;rintro e w' ⟨⟨i,rfl,j⟩,g⟩;have g:=g.symm;subst g
 have E:Hid ((!(l.all (fun r=>decide (r<s.f.regs))))=decide (i>=0)):=by
  show _=_;rw[Bool.eq_iff_iff]
  simp only[Bool.not_eq_true',decide_eq_true_eq,ge_iff_le,j]
  rw[<-Bool.not_eq_true,Xe]
  constructor
  ·intro h;exact Classical.byContradiction fun o=>h (fun x a=>Xt (Int.not_le.1 (fun q=>o ⟨x,a,q⟩)))
  ·rintro ⟨x,a,t⟩ h
   have:=Xv (h x a)
   omega
 clear C j;go_wp2
 go_ret;exact⟨by rw[E.out];rfl,Z⟩
theorem QgQ {A:Nat->Prop}{s:JSt}(V:s.H.length<=16) (h:SAt w b O A s) :
 Calls prog 252 #[Pv b 0] w fun e w'=>ZF (QiR s.H s.f.regs) VNone e/\Below w.heap.size w w':=by
 have C:∀ (fn:Fn) (first cap:Array Value) (w:World),(Instr.makeFunc fn first cap).run prog w=.ok (.func fn first cap) w:=fun _ _ _ _=>rfl;have o:=Zc w (.cells #[Pv b 0] 234);have H:=Qa (h.below o);have t:=Qa o;have j:=Qe w #[Pv b 0] 234;have k:=Qb j 0 _ Z;obtain⟨N,L,S,K,U,G,I,M,P,T,cL,R⟩:=H.out.read
 obtain⟨-,y,-⟩:=R.cells
 have x:=Qa (Qjr R.held);clear R h o j;go_enter func252,ntmps252
 go_upto_region 1 with fail
 generalize w.alloc (.cells #[Pv b 0] 234)=F at H t k y x |-;obtain⟨X,j⟩:∃ X,w.heap.size=X:=⟨_,Z⟩
 rw[j] at k |-
 rw[<-j]
 have u:=Qa j;go_wp2_with fail
 refine x.out.mono ?_;rintro B J ⟨a,c,rfl,g,l⟩;have z:=Qa (H.out.below l);have m:=Qa (t.out.trans (l.mono t.out.size));have p:=Qa (Qds Z (by have:=QiG s.H;omega) g (Qk k l) z.out);have Q:=Qk k l;clear g l x k y;generalize (Qan s.H).length=W at p |-;have E:Hid (QiR s.H s.f.regs=if (Qan s.H).all (fun r=>decide (r<s.f.regs)) then 0 else 12):=rfl;generalize (Qan s.H).all (fun r=>decide (r<s.f.regs))=q at p E;rw[u.out]
 go_wp2_with (go_at_call 277;refine(p.out).mono ?_;rintro e w' ⟨rfl,i⟩;have i:=i.symm;subst i)
 refine(QbS _ _ _).mono ?_
 rintro B w' ⟨i,⟨n,rfl⟩|⟨n,rfl⟩⟩
 rotate_left
 ·exact⟨Z,ZF.bad (d:=12) (by rw[E.out,show q=false by simpa using n];rfl) (by decide),by rw[i];exact m.out⟩
 have i:=i.symm;subst i;have D:Hid (QiR s.H s.f.regs=0):=by show _=_;rw[E.out,show q=true by simpa using n];rfl
 clear n;go_wp2
 exact Xz (v:=.tuple #[]) (by simp[results,results252,go_sem]) Z ⟨ZF.good D.out Z,m.out⟩
structure EnT (w wc:World) (b X:Nat) (O A Q:Nat->Prop) (s:JSt) (x:ZE) (e:EP):Prop where
 st:SAt wc b O A s
 box:Blk wc X (QbU x e) 84
 lists:Qdu wc Q x e
 bel:Below w.heap.size w wc
theorem EnT.below {wc:World}{A:Nat->Prop}{s:JSt}{x:ZE}{e:EP}(h:EnT w wc b X O A Q s x e) (k:Below wc.heap.size wc w'):EnT w w' b X O A Q s x e :=
 ⟨h.st.below k,(k.block X (XC h.box)).trans h.box,h.lists.below k,h.bel.trans (k.mono h.bel.size)⟩
theorem EnT.cells {wc:World}{A:Nat->Prop}{s:JSt}{x:ZE}{e:EP}(h:EnT w wc b X O A Q s x e):wc.cell? ⟨X,0,none⟩=some (Iv x.op)/\wc.cell? ⟨X,1,none⟩=some (Iv x.a)/\wc.cell? ⟨X,2,none⟩=some (Iv x.yes.block)/\wc.cell? ⟨X,3,none⟩=some (.slice e.pYR x.yes.regs.length e.cYR)/\wc.cell? ⟨X,4,none⟩=some (.slice e.pYA x.yes.args.length e.cYA)/\wc.cell? ⟨X,5,none⟩=some (Iv x.no.block)/\wc.cell? ⟨X,6,none⟩=some (.slice e.pNR x.no.regs.length e.cNR)/\wc.cell? ⟨X,7,none⟩=some (.slice e.pNA x.no.args.length e.cNA)/\wc.cell? ⟨X,8,none⟩=some (.slice e.pA x.args.length e.cA) :=
 ⟨Qb h.box 0 _ Z,Qb h.box 1 _ Z,Qb h.box 2 _ Z,Qb h.box 3 _ Z,Qb h.box 4 _ Z,Qb h.box 5 _ Z,Qb h.box 6 _ Z,Qb h.box 7 _ Z,Qb h.box 8 _ Z⟩
theorem Qj3 {A:Nat->Prop}{s:JSt}{x:ZE}{e:EP}(hJ:JOk s) (hO:∀ k,O k->k<w.heap.size) (h:SAt w b O A s) (hx:Qdu w Q x e) (N:-9223372036854775808<=x.a/\x.a<=9223372036854775807) (hf:x.form s.f.blocks.length=0) :
 Calls prog 214 #[Pv b 0,.agg (QbU x e)] w fun r w'=>ZF (s.fin x) VNone r/\Below w.heap.size w w':=by
 have C:=Qa hJ;have P:=Qa hO;have hL:=hJ.vals;have b1:=Zc w (.cells (QbU x e) 84);have S0:Hid (EnT w (w.alloc (.cells (QbU x e) 84)) b w.heap.size O A Q s x e):=⟨h.below b1,Qe w _ _,hx.below b1,b1⟩;have u:=Qa (C.out.mod.2 s.f C.out.fn);have U:=Qa (Qj9 u.out.many.2 hf);have ac:=Qa N;have ad:Hid (∀ t∈s.L,t.count<=100000):=fun t ht=>Zt (Qac (C.out.types t ht)) (by omega);have E1:s.fin x=if x.op=1 then s.to x.yes else if x.op=2 then Qv (s.want x.a 1 false) (Qv (s.to x.yes) (s.to x.no)) else Qv (s.args x.args s.f.results (Qhz s.f.regs.toNat)) (if (Qan s.H).all (fun r=>decide (r<s.f.regs)) then 0 else 12):=by rw[JSt.fin,Xr (by rw[hf];simp)]
 have i:=Qa E1;clear h hx b1 hJ hO N hf E1;go_enter func214,ntmps214
 go_upto_region 1 with fail
 obtain⟨X,hX⟩:∃ X,w.heap.size=X:=⟨_,Z⟩
 unfold QbU at S0;generalize ab:w.alloc (.cells #[Iv x.op,Iv x.a,Iv x.yes.block,.slice e.pYR x.yes.regs.length e.cYR,.slice e.pYA x.yes.args.length e.cYA,Iv x.no.block,.slice e.pNR x.no.regs.length e.cNR,.slice e.pNA x.no.args.length e.cNA,.slice e.pA x.args.length e.cA] 84)=w1 at S0 |-;have S:Hid (EnT w w1 b X O A Q s x e):=by rw[<-hX];exact S0.out
 rw[hX]
 clear ab hX S0;obtain⟨F,x1,x2,x3,V,W,x6,x7,T⟩:=S.out.cells
 rcases U.out.1 with g | g | g
 ·have l:Hid (s.fin x=s.to x.yes):=by show _=_;rw[i.out,Xs g]
  have E:Hid (x.yes.form s.f.blocks.length true=0):=by have:=U.out.2.2.2.2.1;rw[g] at this;exact this
  rw[g] at F
  clear i;go_wp2_with fail
  refine(Qb4 (x:=x.yes) C.out (fun k q=>Zl (P.out k q) S.out.bel.size) S.out.st S.out.lists.yr S.out.lists.ya (QaA E.out).2.1 (QaA E.out).2.2 (QaA E.out).1).mono ?_
  rintro e9 w9 ⟨o,m⟩;have j:=Qa (S.out.below m);rcases o with ⟨c,y,rfl,p⟩|⟨c,rfl⟩
  rotate_left
  ·exact⟨Z,.inr ⟨by rw[l.out];exact c,by rw[l.out]⟩,j.out.bel⟩
  subst p;have G:Hid (s.fin x=0):=by show _=_;rw[l.out];exact c
  clear c m;go_wp2
  exact Xz (v:=.tuple #[]) (by simp[results,results214,go_sem]) Z ⟨ZF.good G.out Z,j.out.bel⟩
 ·have l:Hid (s.fin x=Qv (s.want x.a 1 false) (Qv (s.to x.yes) (s.to x.no))):=by show _=_;rw[i.out,Xr (by omega),Xs g]
  have E:Hid (x.yes.form s.f.blocks.length true=0):=by have:=U.out.2.2.2.2.1;rw[g] at this;exact this
  have h2:Hid (x.no.form s.f.blocks.length true=0):=by have:=U.out.2.2.2.2.2;rw[g] at this;exact this
  rw[g] at F
  have CI:=Qa (fun d=>QbI x.a ac.out d hL (fun k q=>Zl (P.out k q) S.out.bel.size) S.out.st);clear i;go_wp2_with fail
  refine(CI.out _).mono ?_
  rintro e8 w8 ⟨o,M⟩;have D:=Qa (S.out.below M);rcases o with ⟨c,y,rfl,p⟩|⟨c,rfl⟩
  rotate_left
  ·exact⟨Z,.inr ⟨by rw[l.out,Ql c];exact c,by rw[l.out,Ql c]⟩,D.out.bel⟩
  subst p;have z:Hid (s.fin x=Qv (s.to x.yes) (s.to x.no)):=by show _=_;rw[l.out,Qx c]
  clear c M l S CI;have S:=D;clear D F x1 x2 x3 V W x6 x7 T;obtain⟨F,x1,x2,x3,V,W,x6,x7,T⟩:=S.out.cells
  go_wp2_with fail
  refine(Qb4 (x:=x.yes) C.out (fun k q=>Zl (P.out k q) S.out.bel.size) S.out.st S.out.lists.yr S.out.lists.ya (QaA E.out).2.1 (QaA E.out).2.2 (QaA E.out).1).mono ?_
  rintro e9 w9 ⟨o,m⟩;have j:=Qa (S.out.below m);rcases o with ⟨c,y,rfl,p⟩|⟨c,rfl⟩
  rotate_left
  ·exact⟨Z,.inr ⟨by rw[z.out,Ql c];exact c,by rw[z.out,Ql c]⟩,j.out.bel⟩
  subst p;have E4:Hid (s.fin x=s.to x.no):=by show _=_;rw[z.out,Qx c]
  clear c m z S;have S:=j;clear j F x1 x2 x3 V W x6 x7 T;obtain⟨F,x1,x2,x3,V,W,x6,x7,T⟩:=S.out.cells
  go_wp2_with fail
  refine(Qb4 (x:=x.no) C.out (fun k q=>Zl (P.out k q) S.out.bel.size) S.out.st S.out.lists.nr S.out.lists.na (QaA h2.out).2.1 (QaA h2.out).2.2 (QaA h2.out).1).mono ?_
  rintro e9 w9 ⟨o,m⟩;have j:=Qa (S.out.below m);rcases o with ⟨c,y,rfl,p⟩|⟨c,rfl⟩
  rotate_left
  ·exact⟨Z,.inr ⟨by rw[E4.out];exact c,by rw[E4.out]⟩,j.out.bel⟩
  subst p;have G:Hid (s.fin x=0):=by show _=_;rw[E4.out];exact c
  clear c m;go_wp2
  exact Xz (v:=.tuple #[]) (by simp[results,results214,go_sem]) Z ⟨ZF.good G.out Z,j.out.bel⟩
 ·have J:=u.out.regs.1;obtain⟨n,hn⟩:=Xc J
  have l:Hid (s.fin x=Qv (s.handC x.args s.f.results) (QiR s.H s.f.regs)):=by show _=_;rw[i.out,Xr (by omega),Xr (by omega),Qmn hn u.out.results.2];rfl
  have aa:x.args.length<=8:=U.out.2.2.2.1;obtain⟨pm,cm,hh,a1,c1,a2,c2,a3,c3,aL,cL,R⟩:=S.out.st.read
  obtain⟨-,-,-,-,q4,-⟩:=R.cells
  obtain⟨fa,fc,fb,fd,fe,ff,I,-,B,-,-⟩:=Qas R.fn
  simp only[List.cons.injEq,Value.slice.injEq,and_true,true_and] at I
  obtain⟨⟨-,-⟩,⟨rfl,rfl⟩,-⟩:=I
  have K:=Qa (QU B).1
  have CH:Hid (Calls prog 251 #[Pv b 0,.slice e.pA x.args.length e.cA,.slice a2 s.f.results.length c2] w1.drew fun e w'=>ZF (s.handC x.args s.f.results) VNone e/\Below w1.drew.heap.size w1.drew w') :=
   QaF Z (by omega) Z (by have:=u.out.results.1;omega) (Ya S.out.lists.ar (QbZ Zr)) K.out.drew hL ad.out (fun k q=>Zl (P.out k q) S.out.bel.size) (S.out.st.below (QbZ Zr))
  rw[g] at F
  clear i R B K hn J;generalize s.f.results.length=nr at q4 CH;generalize x.args.length=na at T CH aa;go_upto_region 9 with fail
  go_region_with (go_at_call 251;refine(CH.out).mono ?_;rintro e8 w8 ⟨o,M⟩;have D:=Qa (S.out.below (Zw M));rcases o with ⟨c,y,rfl,p⟩|⟨c,rfl⟩;rotate_left;exact⟨Z,.inr ⟨by rw[l.out,Ql c];exact c,by rw[l.out,Ql c]⟩,D.out.bel⟩;subst p;have z:Hid (s.fin x=QiR s.H s.f.regs):=(by show _=_;rw[l.out,Qx c]);clear c M)
  all_goals
   have CV:=Qa (QgQ C.out.regs D.out.st);go_wp2_with fail
   refine CV.out.mono ?_;rintro e9 w9 ⟨o,m⟩;have j:=Qa (D.out.below m);rcases o with ⟨c,y,rfl,p⟩|⟨c,rfl⟩
   rotate_left
   ·exact⟨Z,.inr ⟨by rw[z.out];exact c,by rw[z.out]⟩,j.out.bel⟩
   subst p;have G:Hid (s.fin x=0):=by show _=_;rw[z.out];exact c
   clear c m;go_wp2
   exact Xz (v:=.tuple #[]) (by simp[results,results214,go_sem]) Z ⟨ZF.good G.out Z,j.out.bel⟩
theorem Qcq {a:Nat}(c:Int) (b:Blk w a #[Iv 0] 3) :
 CallsD prog 238 #[Qfp a] (.panicking (QeR c)) w fun e u' w' =>
  e=.returned (.tuple #[])/\u'=.panicking [{ v:=.iface 304 (Iv c),recovered:=true }]/\(Blk w' a #[Iv c] 3/\Chg a w w'):=by
 have d:=b.lt;have l:=Qb b 0 _ Z;have k:=Qj b 0;have g:=Qa b;refine callsD_of_wpS func238 Z fun n m i=>?_;apply wpS_seq
 apply wpS_region
 simp[wpOpsS,go_sem,recoverD,i,ntmps238,Exit.thenS]
 rw[show (#[Qfp a]++((Array.replicate 15 undef).setIfInBounds 3 (Value.iface 304 (Iv c))).setIfInBounds 0 (Value.iface 304 (Iv c)):Array Value)=#[Qfp a,Value.iface 304 (Iv c),undef,undef,Value.iface 304 (Iv c),undef,undef,undef,undef,undef,undef,undef,undef,undef,undef,undef] from Z]
 refine wpS_of_wp ?_;have h:∀ w:World,(Instr.typeAssert (.iface 304 (Iv c)) 20 304 true).run prog w=.ok (.tuple #[Iv c,.bool true]) w:=fun _=>by kernel_rfl
 clear b;go_wp2
 have j:Blk (w.setCell ⟨a,0,none⟩ (Iv c)) a #[Iv c] 3:=by
  have:=Qh g.out 0 (Iv c)
  simpa using this
 have f:Chg a w (w.setCell ⟨a,0,none⟩ (Iv c)):=Chg.set w 0 _ d;exact(show bodyPostS _ _ _ _ _ _ _ _ _ from ⟨Z,_,Z,.tuple #[],by simp[results,results238,go_sem],Z,Z,j,f⟩)
theorem QfI (a:Nat) :
 CallsD prog 238 #[Qfp a] .returning w fun e u' w'=>e=.returned (.tuple #[])/\u'=.returning/\w'=w:=by
 refine callsD_of_wpS func238 Z fun c d b=>?_;apply wpS_seq
 apply wpS_region
 simp[wpOpsS,go_sem,recoverD,b,ntmps238,Exit.thenS]
 rw[show (#[Qfp a]++((Array.replicate 15 undef).setIfInBounds 3 (Value.nilIface)).setIfInBounds 0 (Value.nilIface):Array Value)=#[Qfp a,Value.nilIface,undef,undef,Value.nilIface,undef,undef,undef,undef,undef,undef,undef,undef,undef,undef,undef] from Z]
 refine wpS_of_wp ?_;go_wp2_with fail
 cases c
 simp_all [bodyPostS,results,results238]
def QmN (Fb:Nat) (R1:World->Prop) (R2:Int->World->Prop) (en:Ending) (w2:World):Prop :=
 Blk w2 Fb #[Iv 0] 3/\((en=.returned (.tuple #[])/\R1 w2)\/(∃ c,en=.panicked (QeR c)/\R2 c w2))
def QfO (Fb:Nat) (R1:World->Prop) (R2:Int->World->Prop) (en:Ending) (w':World):Prop :=
 (∃ w2,R1 w2/\en=.returned (Iv 0)/\Chg Fb w2 w')\/(∃ w2,∃ c:Int,R2 c w2/\en=.returned (Iv c)/\Chg Fb w2 w')
theorem QcZ (F:Nat) (a:Array Value) (e:Qaj F) (h:World->Prop) (l:Int->World->Prop) (b:Calls prog F a (w.alloc (.cells #[Iv 0] 3)) fun en w2=>QmN w.heap.size h l en w2) :
 Calls prog 210 #[.func (.func F) #[] a] w fun en w'=>QfO w.heap.size h l en w':=by
 have u:∀ (fn:Fn) (first cap:Array Value) (w:World),(Instr.makeFunc fn first cap).run prog w=.ok (.func fn first cap) w:=fun _ _ _ _=>rfl;have r:=e;unfold Qaj at r;have p:Hid (Calls prog F a (w.alloc (.cells #[Iv 0] 3)) fun en w2=>QmN w.heap.size h l en w2):=b;clear b e;go_enter_defers func210,ntmps210
 go_wp2_with fail
 refine p.out.mono ?_;rintro A d ⟨n,⟨rfl,g⟩|⟨c,rfl,g⟩⟩
 ·have i:=Qa n;have j:=Qb i.out 0 _ Z;have k:=Qj i.out 0;have y:Hid (h d):=g;clear n g p r;go_wp2
  have q:Blk (d.setCell ⟨w.heap.size,0,none⟩ (Iv 0)) w.heap.size #[Iv 0] 3:=by
   have:=Qh i.out 0 (Iv 0)
   simpa using this
  have o:Chg w.heap.size d (d.setCell ⟨w.heap.size,0,none⟩ (Iv 0)):=Chg.set d 0 _ i.out.lt;clear j k;generalize d.setCell ⟨w.heap.size,0,none⟩ (Iv 0)=s at q o |-;refine leaves_cons (f:=238) (args:=#[Qfp w.heap.size]) (by simp) (by simp[go_sem]) ?_;refine(QfI w.heap.size).mono ?_
  rintro z t B ⟨rfl,rfl,rfl⟩;have m:=Qb q 0 _ Z;exact⟨Iv 0,by simp[results,results210,go_sem,m],.inl ⟨d,y.out,Z,o⟩⟩
 ·show bodyPostD _ _ _ _ _ _;refine leaves_cons (f:=238) (args:=#[Qfp w.heap.size]) (by simp) (by simp[go_sem]) ?_;refine(Qcq c n).mono ?_
  rintro z t s ⟨rfl,rfl,x,v⟩;have m:=Qb x 0 _ Z;exact⟨Iv c,by simp[results,results210,go_sem,m],.inr ⟨d,c,g,Z,v⟩⟩
theorem QlE {A:Nat->Prop}{s:JSt}{x:Qs}(i:∀ k,A k->k<w.heap.size) (j:JOk s) (h:SAt w b O A s) (c:intsL.In w Q x.regs [.slice rg x.regs.length rc]) (a:intsL.In w Q x.args [.slice ag x.args.length ac]) (f:x.regs.length<=rc) (d:ZC x) (g:x.form s.m.length=0) :
 Calls prog 212 #[Pv b 0,Qd0 x rg ag rc ac] w fun e w'=>QO w b O A s (s.next x) (s.goC x) e w':=by
 obtain⟨-,-,-,l⟩:=Q5 g
 rcases l with e | e | e | e | e | e | e | e | e | e | e | e | e | e
 ·exact Qln i j h c a f d g e
 ·exact QlN i j h c a f d g e
 ·exact Qlp i j h c a f d g e
 ·exact Qkv i j h c a f d g e
 ·exact QjD i j h c a f d g e
 ·exact Ql8 i j h c a f d g e
 ·exact Ql2 i j h c a f d g e
 ·exact QiK i j h c a f d g e
 ·exact Qj7 i j h c a f d g e
 ·exact QhK i j h c a f d g e
 ·exact Ql0 i j h c a f d g e
 ·exact Qmw i j h c a f d g e
 ·exact Qlq i j h c a f d g e
 ·exact Qkg i j h c a f d g e
theorem STo.seal {wc w9:World}{i:Nat}{A:Nat->Prop}{s:JSt}(l:∀ k,O k->k<w.heap.size) (d:Below w.heap.size w wc) (o:w.heap.size<=i/\i<wc.heap.size) (h:STo wc w2 b O (fun k=>A k\/(w.heap.size<=k/\k<wc.heap.size)) s) (c:Chg i w2 w9):STo w w9 b O A s:=by
 obtain⟨N,g,j,f⟩:=h
 have r:=d.size;have p:=f.size;have q:=c.size;refine⟨fun k=>N k\/(w.heap.size<=k/\k<wc.heap.size),fun k a=>?_,?_,?_⟩
 ·rcases a with a | a
  ·have:=g k a;omega
  ·omega
 ·refine j.keep (fun k m a=>c.block k m (fun e=>?_)) (fun k a _=>?_) (fun k a _ e=>a ?_) (fun k a=>?_)
  ·subst e;rcases a with a | a
   ·rcases a with a | a
    ·have:=l k a;omega
    ·have:=g k a;omega
   ·exact a (.inl (.inr o))
  ·rcases a with a | a
   ·exact .inl a
   ·exact .inr (.inl a)
  ·rcases e with e | e | e
   ·exact .inl (.inl e)
   ·exact .inr e
   ·exact .inl (.inr e)
  ·rcases a with a | a
   ·have:=j.sub k (.inl a)
    rcases this with (h | h) | h
    ·exact .inl h
    ·exact .inr (.inr h)
    ·exact .inr (.inl h)
   ·exact .inr a
 ·refine⟨c.os.trans (f.os.trans d.os),c.tape.trans (f.tape.trans d.tape),c.output.trans (f.output.trans d.output),by omega,fun k a n=>?_,fun k a=>?_⟩
  ·exact(c.block k (by omega) (by omega)).trans ((f.block k (by omega) n).trans (d.block k a))
  ·rcases a with a | a | a
   ·exact .inl a
   ·have:=g k a;exact .inr (by omega)
   ·exact .inr a.1
theorem SAt.wall {wc:World}{A:Nat->Prop}{s:JSt}(h:SAt w b O A s) (c:Below w.heap.size w wc):SAt wc b O (fun k=>A k\/(w.heap.size<=k/\k<wc.heap.size)) s :=
 h.keep (fun g d _=>c.block g d) (fun _ h _=>h) (fun k a f e=>by rcases e with e | e;exact a e;omega) (fun k a=>.inl (h.sub k a))
theorem enters_ins1:Qaj 211:=fun _ _=>by kernel_rfl
theorem enters_end1:Qaj 213:=fun _ _=>by kernel_rfl
def QnX (b S0 X nm cm rc ac:Nat) (cf:Int) (pm rg ag:Option Addr) (x:Qs) (t:Tmp) (v:Value) (w:World):Prop :=
 v=(([(2,Pv S0 0),(3,Pv X 0),(6,Pv b 0),(7,Pv b 0),(8,Pv b 0),(9,.agg #[.slice pm nm cm]),(10,.agg #[Iv x.op,Iv x.a,Iv x.b,Iv x.c,Iv x.k,Iv x.n,.slice rg x.regs.length rc,.slice ag x.args.length ac]),(11,Iv cf),(5,Iv cf)]:List (Tmp × Value)).lookup t).getD undef
theorem ji1 {i f:Nat}{l:Int}{x:Qs}(C:w6.cell? ⟨i,0,none⟩=some (Pv b 0)) (J:w6.cell? ⟨b,0,none⟩=some (.slice pm f cm)) (s:w6.cell? ⟨X,0,none⟩=some (Iv x.op)) (H:w6.cell? ⟨X,1,none⟩=some (Iv x.a)) (B:w6.cell? ⟨X,2,none⟩=some (Iv x.b)) (G:w6.cell? ⟨X,3,none⟩=some (Iv x.c)) (F:w6.cell? ⟨X,4,none⟩=some (Iv x.k)) (u:w6.cell? ⟨X,5,none⟩=some (Iv x.n)) (I:w6.cell? ⟨X,6,none⟩=some (.slice rg x.regs.length rc)) (E:w6.cell? ⟨X,7,none⟩=some (.slice ag x.args.length ac)) (p:f<2305843009213693952) (z:Hid (x.form f=l))
 (a:Act) (m:Nat) (D:a.tmps.size=m) (o:17<=m) (L:a.tmps.getD 2 undef=Pv i 0) (y:a.tmps.getD 3 undef=Pv X 0) :
 Code.wp prog ((Tryz.f164.body.bind (Qi 1)).getD .skip) (fun e a' w'=>e=.normal/\∃ vs,a'=QN a vs [6,7,8,9,10,11,5]/\vs 5=Iv l/\Below w6.heap.size w6 w') a w6:=by
 conv=>arg 2;whnf
 refine QaV (QnX b i X f cm rc ac l pm rg ag x) (fun w=>Below w6.heap.size w6 w) (fun w w'=>Below w.heap.size w w') (outs:=[2,3]) (gs:=[]) (bs:=[true,true,true,true,true,true,true]) (by kernel_rfl) (n:=17) D o (by kernel_rfl) ?hR ?hG (QI Zr 1) ⟨L,y,Y⟩ ?hA ?hend
 case hR=>exact fun t v w w' _ h=>h
 case hG=>exact Y
 case hend=>exact fun vs w' d g=>⟨Z,vs,Z,g 5 (by kernel_rfl),d⟩
 case hA =>
  repeat
   refine⟨fun a w d g K r=>?_,?_⟩
   focus first
    | obtain⟨j,-⟩:=g
      conv at j=>whnf;rhs;whnf
      have U:=Qk C d;have V:=Qk J d;have M:=Qk s d;have R:=Qk H d;have c4:=Qk B d;have T:=Qk G d;have Q:=Qk F d;have S:=Qk u d;have W:=Qk I d;have O:=Qk E d;go_simp;exact r _ _ Zr d Z
    | obtain⟨j,A,-⟩:=g
      conv at j=>whnf;rhs;whnf
      conv at A=>whnf;rhs;whnf
      go_simp;refine Xm (Qgm f x ⟨rg,rc,ag,ac⟩ pm cm _ p) ?_;rw[z.out];rintro P N ⟨rfl,q⟩;go_simp;exact r _ _ q (d.trans (q.mono d.size)) Z
  trivial
theorem QjF {l:Nat}{A:Nat->Prop}{s:JSt}{x:Qs}(z:Blk w l #[Pv b 0] 234) (g:Blk w X #[Iv x.op,Iv x.a,Iv x.b,Iv x.c,Iv x.k,Iv x.n,.slice rg x.regs.length rc,.slice ag x.args.length ac] 78) (y:∀ k,A k->k<w.heap.size) (r:JOk s) (h:SAt w b O A s) (f:intsL.In w Q x.regs [.slice rg x.regs.length rc]) (d:intsL.In w Q x.args [.slice ag x.args.length ac]) (j:x.regs.length<=rc) (i:ZC x) (u:x.form s.m.length=0) :
 Calls prog 211 #[Pv l 0,Pv X 0] w fun e w'=>QO w b O A s (s.next x) (s.goC x) e w':=by
 have C:=Qa (QlE y r h f d j i u);have H:=Qb z 0 _ Z;have B:=Qb g 0 _ Z;have L:=Qb g 1 _ Z;have G:=Qb g 2 _ Z;have K:=Qb g 3 _ Z;have J:=Qb g 4 _ Z;have D:=Qb g 5 _ Z;have M:=Qb g 6 _ Z;have I:=Qb g 7 _ Z;clear z g y r h f d j i u;go_enter func211,ntmps211
 go_wp2_with fail
 refine C.out.mono ?_;rintro F E p;have q:=Qa p;rcases p with ⟨t,rfl,o⟩|⟨t,rfl,o⟩
 rotate_left
 ·exact⟨Z,q.out⟩
 clear t o C;go_wp2
 exact Xz (v:=.tuple #[]) (by simp[results,results211,go_sem]) Z q.out
theorem QkB {A:Nat->Prop}{s:JSt}{x:Qs}(hA:∀ k,A k->k<w.heap.size) (hJ:JOk s) (h:SAt w b O A s) (i:intsL.In w Q x.regs [.slice rg x.regs.length rc]) (o:intsL.In w Q x.args [.slice ag x.args.length ac]) (P:x.regs.length<=rc) (u:ZC x) :
 Calls prog 164 #[Pv b 0,Qd0 x rg ag rc ac] w fun e w'=>e=.returned (Iv (s.code x))/\STo w w' b O A (s.ins x):=by
 have ai:∀ (fn:Fn) (first cap:Array Value) (w:World),(Instr.makeFunc fn first cap).run prog w=.ok (.func fn first cap) w:=fun _ _ _ _=>rfl;have HJ:=Qa hJ;have H0:=Qa h;have v:=Qa hA;have ad:=Qa u;have af:=Qa P;have b1:=Zc w (.cells #[Pv b 0] 234);have b2:=Zc (w.alloc (.cells #[Pv b 0] 234)) (.cells #[Iv x.op,Iv x.a,Iv x.b,Iv x.c,Iv x.k,Iv x.n,.slice rg x.regs.length rc,.slice ag x.args.length ac] 78);have I:=b1.trans (b2.mono b1.size);have HB:=Qa I;have H:=Qa (h.below I);have HR:Hid (intsL.In _ Q x.regs [.slice rg x.regs.length rc]):=Ya i I;have HG:Hid (intsL.In _ Q x.args [.slice ag x.args.length ac]):=Ya o I;have hS:Blk ((w.alloc (.cells #[Pv b 0] 234)).alloc (.cells #[Iv x.op,Iv x.a,Iv x.b,Iv x.c,Iv x.k,Iv x.n,.slice rg x.regs.length rc,.slice ag x.args.length ac] 78)) w.heap.size #[Pv b 0] 234:=(Blk.new _ _ _:Blk (w.alloc (.cells #[Pv b 0] 234)) w.heap.size _ _).below b2
 have L:Blk ((w.alloc (.cells #[Pv b 0] 234)).alloc (.cells #[Iv x.op,Iv x.a,Iv x.b,Iv x.c,Iv x.k,Iv x.n,.slice rg x.regs.length rc,.slice ag x.args.length ac] 78)) (w.heap.size+1) #[Iv x.op,Iv x.a,Iv x.b,Iv x.c,Iv x.k,Iv x.n,.slice rg x.regs.length rc,.slice ag x.args.length ac] 78:=by
  have:=Blk.new (w.alloc (.cells #[Pv b 0] 234)) #[Iv x.op,Iv x.a,Iv x.b,Iv x.c,Iv x.k,Iv x.n,.slice rg x.regs.length rc,.slice ag x.args.length ac] 78
  simpa using this
 have J:=Qa hS;have g:=Qa L;clear hS L b1 b2 I h hA hJ i o P u;go_enter func164,ntmps164
 go_upto_region 1 with fail
 generalize (w.alloc (.cells #[Pv b 0] 234)).alloc (.cells #[Iv x.op,Iv x.a,Iv x.b,Iv x.c,Iv x.k,Iv x.n,.slice rg x.regs.length rc,.slice ag x.args.length ac] 78)=w1 at HB H HR HG J g |-;obtain⟨S0,K⟩:∃ S0,w.heap.size=S0:=⟨_,Z⟩
 obtain⟨X,L⟩:∃ X,S0+1=X:=⟨_,Z⟩
 rw[K] at J g |-
 rw[L] at g |-
 clear L K;have s0:=Qb J.out 0 _ Z;have x0:=Qb g.out 0 _ Z;have x1:=Qb g.out 1 _ Z;have x2:=Qb g.out 2 _ Z;have x3:=Qb g.out 3 _ Z;have x4:=Qb g.out 4 _ Z;have x5:=Qb g.out 5 _ Z;have x6:=Qb g.out 6 _ Z;have x7:=Qb g.out 7 _ Z;obtain⟨pm,cm,hh,a1,c1,a2,c2,a3,c3,aL,cL,RR⟩:=H.out.read
 obtain⟨q0,-⟩:=RR.cells
 obtain⟨F,W⟩:∃ F,x.form s.m.length=F:=⟨_,Z⟩
 have r:Hid (x.form s.m.length=F):=W;clear W RR;refine Code.wp_mono ?_ (ji1 s0 q0 x0 x1 x2 x3 x4 x5 x6 x7 (by have:=HJ.out.mod.1.2;omega) r _ _ Z (Xg (by kernel_rfl)) Z Z);rintro ee aa d ⟨rfl,vs,rfl,T,D⟩;simp only[QN,Act.put,List.setIfInBounds_toArray,List.set_cons_zero,List.set_cons_succ,T]
 have j:=Qa (HB.out.trans (D.mono HB.out.size));have M:=Qa (J.out.below D);have S:=Qa (g.out.below D);have ab:Hid (intsL.In d Q x.regs [.slice rg x.regs.length rc]):=Ya HR.out D;have R:Hid (intsL.In d Q x.args [.slice ag x.args.length ac]):=Ya HG.out D;clear D T s0 x0 x1 x2 x3 x4 x5 x6 x7 q0 J g HR HG HB H;by_cases t:F=0
 rotate_left
 ·have ah:(F != 0)=true:=by simpa using t
  have E1:Hid (s.code x=F):=by show _=_;unfold JSt.code;rw[r.out,Xs t]
  have E2:Hid (s.ins x=s):=by show _=_;unfold JSt.ins;rw[Xr (by rw[E1.out];exact t)]
  go_wp2_with fail
  go_ret;exact⟨by rw[E1.out];rfl,by rw[E2.out];exact Yh H0.out j.out⟩
 subst t;have EC:=Qa (Qlt r.out);have G:=Zc d (.cells #[Iv 0] 3);have q:=j.out.trans (G.mono j.out.size);have ae:=Qa q
 have CK:Hid (Calls prog 210 #[.func (.func 211) #[] #[Pv S0 0,Pv X 0]] d fun en w'=>QfO d.heap.size (fun f=>s.goC x=0/\STo (d.alloc (.cells #[Iv 0] 3)) f b O (fun k=>A k\/(w.heap.size<=k/\k<(d.alloc (.cells #[Iv 0] 3)).heap.size)) (s.next x)) (fun c f=>s.goC x=c/\c≠0/\STo (d.alloc (.cells #[Iv 0] 3)) f b O (fun k=>A k\/(w.heap.size<=k/\k<(d.alloc (.cells #[Iv 0] 3)).heap.size)) s) en w'):=by
  refine QcZ _ _ enters_ins1 _ _ ?_;refine(QjF (A:=fun k=>A k\/(w.heap.size<=k/\k<(d.alloc (.cells #[Iv 0] 3)).heap.size)) (M.out.below G) (S.out.below G) (fun k p=>?_) HJ.out (H0.out.wall q) (Ya ab.out G) (Ya R.out G) af.out ad.out r.out).mono ?_
  ·rcases p with p | p
   ·exact Zl (v.out k p) q.size
   ·exact p.2
  ·intro en f hd
   have B:STo (d.alloc (.cells #[Iv 0] 3)) f b O (fun k=>A k\/(w.heap.size<=k/\k<(d.alloc (.cells #[Iv 0] 3)).heap.size)) s\/STo (d.alloc (.cells #[Iv 0] 3)) f b O (fun k=>A k\/(w.heap.size<=k/\k<(d.alloc (.cells #[Iv 0] 3)).heap.size)) (s.next x):=by
    rcases hd with ⟨-,-,h⟩|⟨-,-,h⟩
    ·exact .inr h
    ·exact .inl h
   have l:Blk f d.heap.size #[Iv 0] 3:=by
    have hn:Blk (d.alloc (.cells #[Iv 0] 3)) d.heap.size #[Iv 0] 3:=Blk.new _ _ _;have V:¬ O d.heap.size:=fun e=>by have E:=v.out _ (H0.out.sub _ e);have C:=j.out.size;omega
    rcases B with ⟨N,-,-,st⟩|⟨N,-,-,st⟩
    ·exact(st.block _ hn.lt V).trans hn
    ·exact(st.block _ hn.lt V).trans hn
   rcases hd with ⟨E,C,h3⟩|⟨E,C,h3⟩
   ·exact⟨l,.inl ⟨C,E,h3⟩⟩
   ·exact⟨l,.inr ⟨_,C,Z,E,h3⟩⟩
 have z:Hid (∀ f y s',STo (d.alloc (.cells #[Iv 0] 3)) f b O (fun k=>A k\/(w.heap.size<=k/\k<(d.alloc (.cells #[Iv 0] 3)).heap.size)) s'->Chg d.heap.size f y->STo w y b O A s'):=fun f y s' E C=>STo.seal (fun k p=>v.out k (H0.out.sub k p)) ae.out ⟨j.out.size,by simp⟩ E C;clear G q M S ab R;go_wp2_with fail
 refine CK.out.mono ?_;intro e' y p
 have FF:Hid (e'=.returned (Iv (s.code x))/\STo w y b O A (s.ins x)):=by
  rcases p with ⟨f,⟨g1,g2⟩,rfl,g3⟩|⟨f,c,⟨g1,g2,g3⟩,rfl,g4⟩
  ·have U:s.code x=0:=by rw[EC.out,g1]
   refine⟨by rw[U],?_⟩
   unfold JSt.ins;rw[Xs U]
   exact z.out f y _ g2 g3
  ·have U:s.code x=c:=by rw[EC.out,g1]
   refine⟨by rw[U],?_⟩
   unfold JSt.ins;rw[Xr (by rw[U];exact g2)]
   exact z.out f y _ g3 g4
 obtain⟨rfl,-⟩:=id FF.out
 clear p CK z;go_wp2
 go_ret;exact⟨Z,FF.out.2⟩
def Qn0 (b S0 X fl c1 fm c2 bl c3:Nat) (fr cf:Int) (a1 a2 a3:Option Addr) (x:ZE) (e:EP) (t:Tmp) (v:Value) (w:World):Prop :=
 v=(([(2,Pv S0 0),(3,Pv X 0),(6,Pv b 0),(7,Pv b 0),(8,Pv b 2),(9,.agg #[Iv fr,.slice a1 fl c1,.slice a2 fm c2,.slice a3 bl c3]),(10,.agg (QbU x e)),(11,Iv cf),(5,Iv cf)]:List (Tmp × Value)).lookup t).getD undef
theorem jE1 {i B q C j g p:Nat}{k:Int}{y u z:Option Addr}{x:ZE}{e:EP}(N:w6.cell? ⟨i,0,none⟩=some (Pv b 0)) (I:w6.cell? ⟨b,2,none⟩=some (Iv fr)) (J:w6.cell? ⟨b,3,none⟩=some (.slice y B q)) (F:w6.cell? ⟨b,4,none⟩=some (.slice u C j)) (L:w6.cell? ⟨b,5,none⟩=some (.slice z g p)) (D:Hid (w6.rangeAt X 0 (QbU x e).toList)) (H:Hid (x.yes.regs.length<2305843009213693952/\x.yes.args.length<2305843009213693952/\x.no.regs.length<2305843009213693952/\x.no.args.length<2305843009213693952)) (r:g<2305843009213693952) (G:Hid (x.form g=k))
 (a:Act) (m:Nat) (O:a.tmps.size=m) (o:17<=m) (P:a.tmps.getD 2 undef=Pv i 0) (E:a.tmps.getD 3 undef=Pv X 0) :
 Code.wp prog ((Tryz.f165.body.bind (Qi 1)).getD .skip) (fun e a' w'=>e=.normal/\∃ vs,a'=QN a vs [6,7,8,9,10,11,5]/\vs 5=Iv k/\Below w6.heap.size w6 w') a w6:=by
 conv=>arg 2;whnf
 refine QaV (Qn0 b i X B q C j g p fr k y u z x e) (fun w=>Below w6.heap.size w6 w) (fun w w'=>Below w.heap.size w w') (outs:=[2,3]) (gs:=[]) (bs:=[true,true,true,true,true,true,true]) (by kernel_rfl) (n:=17) O o (by kernel_rfl) ?hR ?hG (QI Zr 1) ⟨P,E,Y⟩ ?hA ?hend
 case hR=>exact fun t v w w' _ h=>h
 case hG=>exact Y
 case hend=>exact fun vs w' c f=>⟨Z,vs,Z,f 5 (by kernel_rfl),c⟩
 case hA =>
  repeat
   refine⟨fun a w c f K l=>?_,?_⟩
   focus first
    | obtain⟨d,-⟩:=f
      conv at d=>whnf;rhs;whnf
      have T:=Qk N c;have q:=Qk I c;have j:=Qk J c;have p:=Qk F c;have U:=Qk L c;go_simp;exact l _ _ Zr c Z
    | obtain⟨d,-⟩:=f
      conv at d=>whnf;rhs;whnf
      obtain⟨S,s⟩:=underEnd
      refine wp_load_mid 84 (.tmp 3) Z X 0 d (QbU x e).toList _ (Z1 D.out c) s Z sizeEnd ?_;exact l _ _ Zr c Z
    | obtain⟨d,M,-⟩:=f
      conv at d=>whnf;rhs;whnf
      conv at M=>whnf;rhs;whnf
      go_simp;refine Xm (Qgv (x:=x) (e:=e) H.out r) ?_;rw[G.out];rintro R Q ⟨rfl,A⟩;go_simp;exact l _ _ A (c.trans (A.mono c.size)) Z
  trivial
theorem QeV {c:Array Value}(h:Blk w X c t):w.rangeAt X 0 c.toList:=fun j v a=>by
 rw[XK]
 rw[Array.getElem?_toList] at a
 exact Qb h j v a
theorem Qjm {m:Nat}{A:Nat->Prop}{s:JSt}{x:ZE}{e:EP}(E:Blk w m #[Pv b 0] 234) (t:Blk w X (QbU x e) 84) (q:JOk s) (B:∀ k,O k->k<w.heap.size) (h:SAt w b O A s) (p:Qdu w Q x e) (g:-9223372036854775808<=x.a/\x.a<=9223372036854775807) (z:x.form s.f.blocks.length=0) :
 Calls prog 213 #[Pv m 0,Pv X 0] w fun r w'=>ZF (s.fin x) VNone r/\Below w.heap.size w w':=by
 have C:=Qa (Qj3 q B h p g z);have L:=Qb E 0 _ Z;have l:=Qa (QeV t);clear E t q h p g z B;obtain⟨K,d⟩:=underEnd
 have i:=Qa d;clear d;generalize c:QbU x e=D at C l;have j:Hid ((prog.info? 84).map (·.size)=some D.toList.length):=by show _=_;rw[<-c];exact sizeEnd
 clear c;go_enter func213,ntmps213
 go_wp2_with (refine wpList_load_mid Z 84 (.tmp 1) Z X 0 Z D.toList _ l.out i.out Z j.out ?_)
 refine C.out.mono ?_;rintro J I n;have o:=Qa n;obtain⟨H,G⟩:=n
 rcases H with ⟨u,y,rfl,F⟩|⟨u,rfl⟩
 rotate_left
 ·exact⟨Z,o.out⟩
 subst F;clear u G C;go_wp2
 exact Xz (v:=.tuple #[]) (by simp[results,results213,go_sem]) Z o.out
theorem QkH {A:Nat->Prop}{s:JSt}{x:ZE}{e:EP}(hA:∀ k,A k->k<w.heap.size) (hJ:JOk s) (h:SAt w b O A s) (hx:Qdu w Q x e) (G:-9223372036854775808<=x.a/\x.a<=9223372036854775807) (hs:x.yes.regs.length<2305843009213693952/\x.yes.args.length<2305843009213693952/\x.no.regs.length<2305843009213693952/\x.no.args.length<2305843009213693952) :
 Calls prog 165 #[Pv b 0,.agg (QbU x e)] w fun r w'=>r=.returned (Iv (s.fin x))/\Below w.heap.size w w':=by
 have af:∀ (fn:Fn) (first cap:Array Value) (w:World),(Instr.makeFunc fn first cap).run prog w=.ok (.func fn first cap) w:=fun _ _ _ _=>rfl;have V:=Qa hJ;have H0:=Qa h;have W:=Qa hA;have ac:=Qa G;have ab:=Qa hs;have b1:=Zc w (.cells #[Pv b 0] 234);have b2:=Zc (w.alloc (.cells #[Pv b 0] 234)) (.cells #[Iv x.op,Iv x.a,Iv x.yes.block,.slice e.pYR x.yes.regs.length e.cYR,.slice e.pYA x.yes.args.length e.cYA,Iv x.no.block,.slice e.pNR x.no.regs.length e.cNR,.slice e.pNA x.no.args.length e.cNA,.slice e.pA x.args.length e.cA] 84);have R:=b1.trans (b2.mono b1.size);have S:=Qa R;have H:=Qa (h.below R);have q:=Qa (hx.below R);have hS:Blk ((w.alloc (.cells #[Pv b 0] 234)).alloc (.cells #[Iv x.op,Iv x.a,Iv x.yes.block,.slice e.pYR x.yes.regs.length e.cYR,.slice e.pYA x.yes.args.length e.cYA,Iv x.no.block,.slice e.pNR x.no.regs.length e.cNR,.slice e.pNA x.no.args.length e.cNA,.slice e.pA x.args.length e.cA] 84)) w.heap.size #[Pv b 0] 234:=(Blk.new _ _ _:Blk (w.alloc (.cells #[Pv b 0] 234)) w.heap.size _ _).below b2
 have E:Blk ((w.alloc (.cells #[Pv b 0] 234)).alloc (.cells #[Iv x.op,Iv x.a,Iv x.yes.block,.slice e.pYR x.yes.regs.length e.cYR,.slice e.pYA x.yes.args.length e.cYA,Iv x.no.block,.slice e.pNR x.no.regs.length e.cNR,.slice e.pNA x.no.args.length e.cNA,.slice e.pA x.args.length e.cA] 84)) (w.heap.size+1) (QbU x e) 84:=by
  have:=Blk.new (w.alloc (.cells #[Pv b 0] 234)) (QbU x e) 84
  simpa using this
 have D:=Qa hS;have v:=Qa E;clear hS E b1 b2 R h hA hJ hx G hs;go_enter func165,ntmps165
 go_upto_region 1 with fail
 generalize (w.alloc (.cells #[Pv b 0] 234)).alloc (.cells #[Iv x.op,Iv x.a,Iv x.yes.block,.slice e.pYR x.yes.regs.length e.cYR,.slice e.pYA x.yes.args.length e.cYA,Iv x.no.block,.slice e.pNR x.no.regs.length e.cNR,.slice e.pNA x.no.args.length e.cNA,.slice e.pA x.args.length e.cA] 84)=w1 at S H q D v |-;obtain⟨T,n⟩:∃ T,T=w.heap.size:=⟨_,Z⟩
 obtain⟨X,E⟩:∃ X,X=T+1:=⟨_,Z⟩
 rw[<-n] at D v |-
 rw[<-E] at v |-
 have C:=Qa n;clear E n;have s0:=Qb D.out 0 _ Z;have B:=Qa (QeV v.out);obtain⟨pm,cm,hh,a1,c1,a2,c2,a3,c3,aL,cL,RR⟩:=H.out.read
 obtain⟨-,-,q2,q3,q4,q5,-⟩:=RR.cells
 obtain⟨z,L⟩:∃ z,x.form s.f.blocks.length=z:=⟨_,Z⟩
 have m:Hid (x.form s.f.blocks.length=z):=L;have ad:=Qa (V.out.mod.2 s.f V.out.fn);clear L RR;refine Code.wp_mono ?_ (jE1 s0 q2 q3 q4 q5 B ab (by have:=ad.out.many.2;omega) m _ _ Z (Xg (by kernel_rfl)) Z Z);rintro ee aa i ⟨rfl,vs,rfl,K,I⟩;simp only[QN,Act.put,List.setIfInBounds_toArray,List.set_cons_zero,List.set_cons_succ,K]
 have j:=Qa (S.out.trans (I.mono S.out.size));have F:=Qa (D.out.below I);have J:=Qa (v.out.below I);have N:=Qa (q.out.below I);clear I K s0 q2 q3 q4 q5 D v S H B q;by_cases o:z=0
 rotate_left
 ·have ae:(z != 0)=true:=by simpa using o
  have E1:Hid (s.fin x=z):=by show _=_;unfold JSt.fin;rw[m.out,Xs o]
  go_wp2_with fail
  go_ret;exact⟨by rw[E1.out];rfl,by first | exact j.out | (rw[C.out];exact j.out)⟩
 subst o;have M:=Zc i (.cells #[Iv 0] 3);have d:=j.out.trans (M.mono j.out.size)
 have CK:Hid (Calls prog 210 #[.func (.func 213) #[] #[Pv T 0,Pv X 0]] i fun en w'=>QfO i.heap.size (fun g=>s.fin x=0/\Below (i.alloc (.cells #[Iv 0] 3)).heap.size (i.alloc (.cells #[Iv 0] 3)) g) (fun c g=>s.fin x=c/\Below (i.alloc (.cells #[Iv 0] 3)).heap.size (i.alloc (.cells #[Iv 0] 3)) g) en w'):=by
  refine QcZ _ _ enters_end1 _ _ ?_;refine(Qjm (F.out.below M) (J.out.below M) V.out (fun k P=>Zl (W.out k (H0.out.sub k P)) d.size) (H0.out.below d) (N.out.below M) ac.out m.out).mono ?_
  rintro en g ⟨hd,u⟩;have l:Blk g i.heap.size #[Iv 0] 3:=(Blk.new i #[Iv 0] 3).below u;rcases hd with ⟨hc,y,rfl,hy⟩|⟨hc,rfl⟩
  ·subst hy;exact⟨l,.inl ⟨Z,hc,u⟩⟩
  ·exact⟨l,.inr ⟨_,Z,Z,u⟩⟩
 have t:Hid (∀ g p,Below (i.alloc (.cells #[Iv 0] 3)).heap.size (i.alloc (.cells #[Iv 0] 3)) g->Chg i.heap.size g p->Below w.heap.size w p):=fun g p h1 h2 =>
  Chg.last (d.trans (h1.mono d.size)) h2 j.out.size (Zt d.size h1.size)
 clear M d F J N;go_wp2_with fail
 refine CK.out.mono ?_;intro e' p P
 have FF:Hid (e'=.returned (Iv (s.fin x))/\Below w.heap.size w p):=by
  rcases P with ⟨g,⟨g1,U⟩,rfl,g3⟩|⟨g,c,⟨g1,U⟩,rfl,g4⟩
  ·exact⟨by rw[g1],t.out g p U g3⟩
  ·exact⟨by rw[g1],t.out g p U g4⟩
 obtain⟨rfl,-⟩:=id FF.out
 clear P CK t;go_wp2
 go_ret;first | exact⟨Z,FF.out.2⟩ | exact⟨Z,by rw[C.out];exact FF.out.2⟩
def Qcy {n:Nat}(w:World) (Q:Nat->Prop) (l:List (TT n)) (e:Ending) (w':World):Prop :=
 ∃ v ds,e=.returned v/\w'.ownsRow 0 105 3 v l.length ds/\(∀ g,v.ownBlock=some g->w.heap.size<=g)/\(∀ i x,l[i]?=some x->(Lay.tt n).In w Q x ((ds.drop (i*3)).take 3))/\Below w.heap.size w w'
theorem Qhu {l:List (TT n)}(hN:l.length=N) (ah:N<=5000) (hl:(Qo n).In w Q l [.slice p N c]) :
 Calls prog 209 #[.slice p N c] w fun e w'=>Qcy w Q l e w':=by
 obtain⟨i0,hi,V,X,T⟩:=pInfoT
 have q:∀ (w:World) (a:Option Addr) (n c U R:Nat),(binOp .eql 80 (.slice a n c) (.slice none U R)).run prog w=.ok (.bool a.isNone) w:=fun w a n c U R=>Lib.run_eql_slice_nil w _ _ a n c U R pUnderT;have B:=Qa hl;have v:=Qa hN;clear hl hN
 cases p with
 | none =>
   have z:l=[]:=by
    rcases l with _ | ⟨x,r⟩
    ·rfl
    ·obtain⟨g,o,C,e,-⟩:=Yf B.out (i:=0) (x:=x) Z
     cases e
   subst z;have S:N=0:=by have:=v.out;simpa using this.symm
   subst S;have E:Hid (Qcy w Q ([]:List (TT n)) (.returned (Nv)) w):=⟨Nv,[],Z,⟨Z,.inl ⟨Z,Z⟩⟩,fun g K=>by simp[Value.ownBlock] at K,fun i x M=>by simp at M,Zr⟩;clear B v;go_enter func209,ntmps209
   go_wp2
   go_ret;exact E.out
 | some ad =>
   have b1:=Zc w (.cells #[] 105);have d:(w.alloc (.cells #[] 105)).ownsRow 0 105 3 (.slice (some ⟨w.heap.size,0,none⟩) 0 0) 0 []:=⟨Z,.inr ⟨w.heap.size,0,#[],Z,Xb _,Qe w _ _,Ze,by unfold maxLen;omega,Z,Z⟩⟩;have s:=Qa b1;have f:=Qa d;by_cases af:N=0
   ·subst af;have z:l=[]:=Xf.1 v.out;subst z;have ha:Hid (∀ (t:TypeId) (D:World),(Builtin.append_ #[80,80] t #[.slice (some ⟨w.heap.size,0,none⟩) 0 0,.slice (some ad) 0 c]).run prog D=.ok (.slice (some ⟨w.heap.size,0,none⟩) 0 0) D):=fun (t:TypeId) (D:World)=>run_append_nothing (P:=prog) D 80 80 t 105 i0 pUnderT hi (some ⟨w.heap.size,0,none⟩) 0 0 Ze (.slice (some ad) 0 c) (Src.ofSlice D pUnderT ad 0 c [] (by simp) (fun j u h=>by simp at h) (fun u h=>by cases h));have E:Hid (Qcy w Q ([]:List (TT n)) (.returned (.slice (some ⟨w.heap.size,0,none⟩) 0 0)) (w.alloc (.cells #[] 105))):=⟨_,[],Z,f.out,fun g K=>by simp[Value.ownBlock] at K;omega,fun i x M=>by simp at M,s.out⟩;clear B v s f d b1;generalize ag:w.alloc (.cells #[] 105)=w1 at E;go_enter func209,ntmps209
    go_wp2_with (at_builtin;refine QaJ Z (.tmp 5) (.tmp 6) 80 Z (.slice (some ⟨w.heap.size,0,none⟩) 0 0) (.slice (some ad) 0 c) Z Z (ha.out _ _) ?_)
    go_ret;first | exact E.out | (rw[ag];exact E.out)
   ·obtain⟨I,H,e0⟩:∃ I H,(some ad)=some (⟨I,H,none⟩:Addr):=by
     obtain⟨g,o,dd,e,-⟩:=Yf B.out (Zg (show 0<l.length by have:=v.out;omega))
     exact⟨g,o,e⟩
    cases e0
    obtain⟨C,d1,d2,d3,d4⟩:=Lay.flat B.out (fun y cs hy=>by obtain⟨ya,yc,e,-⟩:=hy;subst e;exact QlU _ _ _ _ _)
    have G:C.length=N*3:=by rw[<-v.out];exact d1
    have W:=Qa G;have L:Hid (∀ (j:Nat) (u:Value),C[j]?=some u->(w.alloc (.cells #[] 105)).cell? ((⟨I,H,none⟩:Addr).add j)=some u):=fun j u hj=>Qk (d2 j u hj) s.out;have aa:=Qa d3
    have F:Hid (∀ A g b,A.ownsRow 0 105 3 (.slice (some ⟨g,0,none⟩) N b) N C->(w.alloc (.cells #[] 105)).grownBy A (some w.heap.size)->(w.heap.size=g\/g=w.heap.size+1)->Qcy w Q l (.returned (.slice (some ⟨g,0,none⟩) N b)) A):=by
     intro A g b J m r3;have ab:=m.size;refine⟨_,C,Z,by rw[v.out];exact J,fun g' ae=>?_,d4,⟨m.os.trans s.out.os,m.tape.trans s.out.tape,m.output.trans s.out.output,by simp at ab;omega,fun k hk=>?_⟩⟩
     ·simp[Value.ownBlock] at ae
      omega
     ·exact(m.block k (by simp;omega) (fun e=>by injection e with e;omega)).trans (s.out.block k hk)
    clear B s d1 G d2 d3 d4 d b1;have O:0<N:=by omega
    have ac:Hid (0<=(w.alloc (.cells #[] 105)).heap.size):=Xb _;go_enter func209,ntmps209
    go_wp2_with (at_builtin;refine wpList_append_lies _ Z (.tmp 5) (.tmp 6) 80 Z 0 105 i0 (.agg #[Iv 0,Iv 0,Nv]) 3 40 pUnderT hi V X T Z (by decide) _ _ _ Z f.out ⟨I,H,none⟩ N c C Z W.out L.out aa.out O (by unfold maxLen;omega) (by omega) ac.out (w.heap.size+1) (by simp) ?_)
    intro g2 b A J m r3 r4;have Z9:=Qa (F.out A g2 b (by simpa using J) (by simpa[Value.ownBlock] using m) (by simpa[Value.ownBlock] using r3));clear J m r3 r4 F f;go_wp2
    go_ret;first | exact Z9.out | simpa using Z9.out
def QgK (m:List (MFunc 6)) (f b:Int):Bool:=decide (0<=f)&&(match m[f.toNat]? with | none=>false | some g=>decide (0<=b)&&decide (b<(g.blocks.length:Int)))
theorem QiM {m:List (MFunc 6)}{f b:Int}(h:QgK m f b=true):∃ (i j:Nat) (fn:MFunc 6) (g:MBlock 6),f=(i:Int)/\b=(j:Int)/\m[i]?=some fn/\fn.blocks[j]?=some g:=by
 unfold QgK at h;simp only[Bool.and_eq_true,decide_eq_true_eq] at h
 obtain⟨c,a⟩:=h
 obtain⟨i,rfl⟩:=Xc c
 rw[XT] at a
 cases e:m[i]? with
 | none=>rw[e] at a;cases a
 | some fn =>
   rw[e] at a
   simp only[Bool.and_eq_true,decide_eq_true_eq] at a
   obtain⟨j,rfl⟩:=Xc a.1
   exact⟨i,j,fn,_,Z,Z,e,Zg (by omega)⟩
theorem Qkp {m:List (MFunc 6)}(f b:Int) (k:m.length<=100000) (r:(QaM 6).In w All m [.slice p m.length c]) :
 Calls prog 207 #[.agg #[.slice p m.length c],Iv f,Iv b] w fun e w'=>e=.returned (.bool (QgK m f b))/\Below w.heap.size w w':=by
 have o:=Zc w (.cells #[.slice p m.length c] 24);have d:=Qa o;have s:=Qb (Qe w #[.slice p m.length c] 24) 0 _ Z;by_cases t:0<=f
 rotate_left
 ·have E:Hid (QgK m f b=false):=by show _=_;unfold QgK;rw[Xu t];rfl
  have F:decide (f>=0)=false:=Xu t;clear r o;generalize m.length=v at s d;go_enter func207,ntmps207
  go_wp2
  go_ret;exact⟨by rw[E.out];rfl,d.out⟩
 obtain⟨i,rfl⟩:=Xc t
 by_cases u:i<m.length
 rotate_left
 ·have E:Hid (QgK m (i:Int) b=false):=by show _=_;unfold QgK;rw[XT,Xk (by omega)];simp
  have h:¬ (i:Int)<m.length:=by omega
  clear r o;generalize m.length=v at s d u h k;go_enter func207,ntmps207
  go_wp2
  go_ret;exact⟨by rw[E.out];rfl,d.out⟩
 have n:m[i]?=some m[i]:=Zg u;generalize m[i]=g at n;obtain⟨z,B,I,L,G,H,J,K,rfl,y,D,C,A,-,-⟩:=Qdy r n
 have x:z<w.heap.size:=Xi w ⟨z,B+i*4,none⟩ y;have E:Hid (QgK m (i:Int) b=(decide (0<=b)&&decide (b<(g.blocks.length:Int)))):=by show _=_;unfold QgK;rw[XT,n];simp
 have h:(i:Int)<m.length:=by omega
 clear r o y D C n;generalize m.length=v at s d u h k;generalize g.blocks.length=q at A E;by_cases a:0<=b
 rotate_left
 ·have l:decide (b>=0)=false:=Xu a;rw[show (decide (0<=b)&&decide (b<(q:Int)))=false by rw[Xu a];rfl] at E
  go_enter func207,ntmps207
  go_wp2
  go_ret;exact⟨by rw[E.out];rfl,d.out⟩
 ·have l:decide (b>=0)=true:=Xt a;rw[show (decide (0<=b)&&decide (b<(q:Int)))=decide (b<(q:Int)) by rw[Xt a];rfl] at E
  by_cases j:b<(q:Int)
  ·rw[Xt j] at E
   go_enter func207,ntmps207
   go_wp2
   go_ret;exact⟨by rw[E.out];rfl,d.out⟩
  ·rw[Xu j] at E
   go_enter func207,ntmps207
   go_wp2
   go_ret;exact⟨by rw[E.out];rfl,d.out⟩
theorem Qnr (c:cs.length=12) :
 Blk ((w1.alloc (.cells #[Iv 0,Nv,Nv,Iv 0,Iv 0,Iv 0,Nv,Nv,Iv 0,Nv,Nv,Nv] 86)).setCells w1.heap.size 0 cs.toArray.toList) w1.heap.size cs.toArray 86/\Below w1.heap.size w1 ((w1.alloc (.cells #[Iv 0,Nv,Nv,Iv 0,Iv 0,Iv 0,Nv,Nv,Iv 0,Nv,Nv,Nv] 86)).setCells w1.heap.size 0 cs.toArray.toList)/\(w1.alloc (.cells #[Iv 0,Nv,Nv,Iv 0,Iv 0,Iv 0,Nv,Nv,Iv 0,Nv,Nv,Nv] 86)).there w1.heap.size 0 cs.toArray.size:=by
 have a:=Qe w1 #[Iv 0,Nv,Nv,Iv 0,Iv 0,Iv 0,Nv,Nv,Iv 0,Nv,Nv,Nv] 86;refine⟨?_,?_,?_⟩
 ·have d:Blk (w1.alloc (.cells #[Iv 0,Nv,Nv,Iv 0,Iv 0,Iv 0,Nv,Nv,Iv 0,Nv,Nv,Nv] 86)) w1.heap.size ([]++(#[Iv 0,Nv,Nv,Iv 0,Iv 0,Iv 0,Nv,Nv,Iv 0,Nv,Nv,Nv]:Array Value).toList).toArray 86:=a;exact Blk.sets cs [] (#[Iv 0,Nv,Nv,Iv 0,Iv 0,Iv 0,Nv,Nv,Iv 0,Nv,Nv,Nv]:Array Value).toList _ (by rw[c];rfl) d
 ·have:=Qz.setCells (O:=fun k=>k=w1.heap.size) (O':=fun k=>k=w1.heap.size) (b:=w1.heap.size) Z cs.toArray.toList 0 _ (Qz.refl _ (w1.alloc (.cells #[Iv 0,Nv,Nv,Iv 0,Iv 0,Iv 0,Nv,Nv,Iv 0,Nv,Nv,Nv] 86)))
  exact(Zc w1 _).trans (this.below (by simp) (fun k e=>by omega))
 ·intro j hj;rw[List.size_toArray,c] at hj
  rw[XK]
  refine⟨?_,Qj a j⟩
  rw[Qb a j ((#[Iv 0,Nv,Nv,Iv 0,Iv 0,Iv 0,Nv,Nv,Iv 0,Nv,Nv,Nv]:Array Value)[j]'hj) (by simp)];rfl
theorem Z4 {xs:List Value}(h:w.ownsRow 0 e s v n xs) (f:Below w.heap.size w w'):w'.ownsRow 0 e s v n xs:=by
 obtain⟨k,l⟩:=h
 refine⟨k,?_⟩
 rcases l with j | ⟨g,a,b,d,i,c,r⟩
 ·exact .inl j
 ·exact .inr ⟨g,a,b,d,i,(f.block g (XC c)).trans c,r⟩
theorem Qh1 {xs:List Value}(h:w.ownsRow 0 e s v n xs):∃ a c,v=.slice a n c:=by
 obtain⟨m,k⟩:=h
 rcases k with ⟨f,d⟩|⟨g,i,j,b,l,o,r⟩
 ·exact⟨none,0,by rw[f,d]⟩
 ·exact⟨_,_,b⟩
def QnK (w7:World) (M9 F10 B11 nm cm n1 d1 n2 d2 n3 d3 np cp:Nat) (fr br:Int) (pm p1 p2 p3 pp:Option Addr) (ps:List (TT 6)) (QP:Nat->Prop) (t:Tmp) (v:Value) (w:World):Prop :=
 match ([(39,fun v w=>∃ hh,v=.pointer (some ⟨hh,0,none⟩)/\w7.heap.size<=hh/\Qp w hh (QbV br)),(43,fun v w=>∃ a c ds,v=.slice a np c/\w.ownsRow 0 105 3 (.slice a np c) np ds/\(∀ g,(Value.slice a np c).ownBlock=some g->w7.heap.size<=g)/\(∀ i x,ps[i]?=some x->(Lay.tt 6).In w7 QP x ((ds.drop (i*3)).take 3))),(44,fun v w=>∃ hh a c ds,v=.agg #[.slice pm nm cm,.pointer (some ⟨hh,0,none⟩),.int .i64 fr,.slice p1 n1 d1,.slice p2 n2 d2,.slice p3 n3 d3,.slice a np c]/\w7.heap.size<=hh/\Qp w hh (QbV br)/\w.ownsRow 0 105 3 (.slice a np c) np ds/\(∀ g,(Value.slice a np c).ownBlock=some g->w7.heap.size<=g)/\(∀ i x,ps[i]?=some x->(Lay.tt 6).In w7 QP x ((ds.drop (i*3)).take 3))),(45,fun v w=>∃ B hh a c ds,v=.pointer (some ⟨B,0,none⟩)/\w7.heap.size<=B/\w.heap[B]?=some (.cells #[.slice pm nm cm,.pointer (some ⟨hh,0,none⟩),.int .i64 fr,.slice p1 n1 d1,.slice p2 n2 d2,.slice p3 n3 d3,.slice a np c] 279 (0,0))/\w7.heap.size<=hh/\Qp w hh (QbV br)/\w.ownsRow 0 105 3 (.slice a np c) np ds/\(∀ g,(Value.slice a np c).ownBlock=some g->w7.heap.size<=g)/\(∀ i x,ps[i]?=some x->(Lay.tt 6).In w7 QP x ((ds.drop (i*3)).take 3))),(6,fun v w=>∃ B hh a c ds,v=.pointer (some ⟨B,0,none⟩)/\w7.heap.size<=B/\w.heap[B]?=some (.cells #[.slice pm nm cm,.pointer (some ⟨hh,0,none⟩),.int .i64 fr,.slice p1 n1 d1,.slice p2 n2 d2,.slice p3 n3 d3,.slice a np c] 279 (0,0))/\w7.heap.size<=hh/\Qp w hh (QbV br)/\w.ownsRow 0 105 3 (.slice a np c) np ds/\(∀ g,(Value.slice a np c).ownBlock=some g->w7.heap.size<=g)/\(∀ i x,ps[i]?=some x->(Lay.tt 6).In w7 QP x ((ds.drop (i*3)).take 3)))]:List (Tmp × (Value->World->Prop))).lookup t with
 | some p=>p v w
 | none=>v=(([(9,.pointer (some ⟨M9,0,none⟩)),(10,.pointer (some ⟨F10,0,none⟩)),(11,.pointer (some ⟨B11,0,none⟩)),(36,.agg #[.slice pm nm cm]),(37,.pointer (some ⟨B11,0,none⟩)),(38,.int .i64 br),(40,.agg #[.int .i64 fr,.slice p1 n1 d1,.slice p2 n2 d2,.slice p3 n3 d3]),(41,.pointer (some ⟨B11,1,none⟩)),(42,.slice pp np cp),(46,.agg #[.int .i64 0,.int .i64 0])]:List (Tmp × Value)).lookup t).getD undef
theorem jn9 {d:World}{M9 s D M N d1 L U R J f cp:Nat}{F:Int}{p1 O S pp:Option Addr}{H:List (TT 6)}{G:Nat->Prop}(m0:d.cell? ⟨M9,0,none⟩=some (.slice pm M cm)) (f0:d.cell? ⟨s,0,none⟩=some (Iv fr)) (f1:d.cell? ⟨s,1,none⟩=some (.slice p1 N d1)) (f2:d.cell? ⟨s,2,none⟩=some (.slice O L U)) (f3:d.cell? ⟨s,3,none⟩=some (.slice S R J)) (y0:d.cell? ⟨D,0,none⟩=some (Iv F)) (y1:d.cell? ⟨D,1,none⟩=some (.slice pp f cp)) (af:-9223372036854775808<=F/\F<=9223372036854775807) (V:Hid (H.length=f)) (al:f<=5000) (HP:Hid ((Qo 6).In d G H [.slice pp f cp])) (aa:Hid (∀ (i:Nat) (x:TT 6) (cs:List Value){w:World},H[i]?=some x->(Lay.tt 6).In w G x cs->Below d.heap.size d w->(Lay.tt 6).In d G x cs)){Q:Exit->Act->World->Prop}
 (a:Act) (m:Nat) (hn:a.tmps.size=m) (ab:47<=m) (h9:a.tmps.getD 9 undef=Pv M9 0) (ae:a.tmps.getD 10 undef=Pv s 0) (aj:a.tmps.getD 11 undef=Pv D 0)
 (hend:∀ ops vs w',vs 46=.agg #[Iv 0,Iv 0]->(fun v w=>∃ B hh a c ds,v=Pv B 0/\d.heap.size<=B/\w.heap[B]?=some (.cells #[.slice pm M cm,Pv hh 0,Iv fr,.slice p1 N d1,.slice O L U,.slice S R J,.slice a f c] 279 (0,0))/\d.heap.size<=hh/\Qp w hh (QbV F)/\w.ownsRow 0 105 3 (.slice a f c) f ds/\(∀ g,(Value.slice a f c).ownBlock=some g->d.heap.size<=g)/\(∀ i x,H[i]?=some x->(Lay.tt 6).In d G x ((ds.drop (i*3)).take 3))) (vs 6) w'->Below d.heap.size d w'->wpList prog ops Q (Qal 12 ((Tryz.f163.body.bind (Qi 9)).getD .skip)) (QN a vs [36,37,38,39,40,41,42,43,44,45,46,6]) w') :
 Code.wp prog ((Tryz.f163.body.bind (Qi 9)).getD .skip) Q a d:=by
 conv=>arg 2;whnf
 refine Qg 12 (QnK d M9 s D M cm N d1 L U R J f cp fr F pm p1 O S pp H G) (fun w=>Below d.heap.size d w) (fun w w'=>Below w.heap.size w w') (outs:=[9,10,11]) (gs:=[]) (bs:=[true,true,true,true,true,true,true,true,true,true,true,true]) (by kernel_rfl) (n:=47) hn ab (by kernel_rfl) (by kernel_rfl) ?hR ?hG (QI Zr 1) ⟨h9,ae,aj,Y⟩ ?hA ?hend
 case hR =>
  intro t v w w' C h;unfold QnK at h |-;split at h
  ·rename_i p u
   simp only[List.lookup_cons,List.lookup_nil] at u
   split at u
   ·cases u;exact(by obtain⟨hh,e,q,l⟩:=h;exact⟨hh,e,q,l.below C⟩)
   ·split at u
    ·cases u;exact(by obtain⟨a,c,ds,e,q,l,r⟩:=h;exact⟨a,c,ds,e,Z4 q C,l,r⟩)
    ·split at u
     ·cases u;exact(by obtain⟨hh,a,c,ds,e,q,l,r,T,W⟩:=h;exact⟨hh,a,c,ds,e,q,l.below C,Z4 r C,T,W⟩)
     ·split at u
      ·cases u;exact(by obtain⟨B,hh,a,c,ds,e,E,y,q,l,r,T,W⟩:=h;exact⟨B,hh,a,c,ds,e,E,(C.block B (XC y)).trans y,q,l.below C,Z4 r C,T,W⟩)
      ·split at u
       ·cases u;exact(by obtain⟨B,hh,a,c,ds,e,E,y,q,l,r,T,W⟩:=h;exact⟨B,hh,a,c,ds,e,E,(C.block B (XC y)).trans y,q,l.below C,Z4 r C,T,W⟩)
       ·cases u
  ·exact h
 case hG=>exact Y
 case hend=>exact fun ops vs w' b k=>hend ops vs w' (k 46 (by kernel_rfl)) (k 6 (by kernel_rfl)) b
 case hA =>
  iterate 3
   refine⟨fun a w b k K o=>?_,?_⟩
   ·obtain⟨j,-⟩:=k
    conv at j=>whnf;rhs;whnf
    have u0:=Qk m0 b;have u1:=Qk y0 b;go_simp;exact o _ _ Zr b Z
  refine⟨fun a w b k K o=>?_,?_⟩
  ·obtain⟨j,-⟩:=k
   conv at j=>whnf;rhs;whnf
   go_simp;refine Xm (Qj1 _ F af) ?_;rintro r7 w8 ⟨rfl,ad,A⟩;go_simp;exact o _ _ A (b.trans (A.mono b.size)) ⟨_,Z,b.size,ad⟩
  iterate 3
   refine⟨fun a w b k K o=>?_,?_⟩
   ·obtain⟨j,-⟩:=k
    conv at j=>whnf;rhs;whnf
    have u0:=Qk f0 b;have u1:=Qk f1 b;have u2:=Qk f2 b;have u3:=Qk f3 b;have u4:=Qk y1 b;go_simp;exact o _ _ Zr b Z
  refine⟨fun a w b k K o=>?_,?_⟩
  ·obtain⟨j,-⟩:=k
   conv at j=>whnf;rhs;whnf
   go_simp;refine Xm (Qhu V.out al (Ya HP.out b)) ?_;rintro r7 w8 ⟨v8,ai,rfl,o1,o2,o3,A⟩;rw[V.out] at o1
   obtain⟨a8,c8,rfl⟩:=Qh1 o1
   go_simp;exact o _ _ A (b.trans (A.mono b.size)) ⟨a8,c8,ai,Z,o1,fun g hg=>Zt b.size (o2 g hg),fun i x hx=>aa.out i x _ hx (o3 i x hx) b⟩
  refine⟨fun a w b k K o=>?_,?_⟩
  ·obtain⟨j,X,k2,k3,-⟩:=k
   conv at j=>whnf;rhs;whnf
   have X:(fun v w=>∃ hh,v=Pv hh 0/\d.heap.size<=hh/\Qp w hh (QbV F)) (a.tmps.getD 39 undef) w:=X;generalize ak:a.tmps.getD 39 undef=an at X;conv at k2=>whnf;rhs;whnf
   have k3:(fun v w=>∃ a c ds,v=.slice a f c/\w.ownsRow 0 105 3 (.slice a f c) f ds/\(∀ g,(Value.slice a f c).ownBlock=some g->d.heap.size<=g)/\(∀ i x,H[i]?=some x->(Lay.tt 6).In d G x ((ds.drop (i*3)).take 3))) (a.tmps.getD 43 undef) w:=k3;generalize ah:a.tmps.getD 43 undef=am at k3;obtain⟨hh,rfl,E,y⟩:=X
   obtain⟨I,P,z,rfl,q,l,r⟩:=k3
   have j0:a.tmps[36]?.getD undef=.agg #[.slice pm M cm]:=by simpa using j
   have j1:a.tmps[39]?.getD undef=Pv hh 0:=by simpa using ak
   have j2:a.tmps[40]?.getD undef=.agg #[Iv fr,.slice p1 N d1,.slice O L U,.slice S R J]:=by simpa using k2
   have j3:a.tmps[43]?.getD undef=.slice I f P:=by simpa using ah
   go_simp;exact o _ _ Zr b ⟨hh,I,P,z,Z,E,y,q,l,r⟩
  refine⟨fun a w b k K o=>?_,?_⟩
  ·obtain⟨j,-⟩:=k
   have j:(fun v w=>∃ hh a c ds,v=.agg #[.slice pm M cm,Pv hh 0,Iv fr,.slice p1 N d1,.slice O L U,.slice S R J,.slice a f c]/\d.heap.size<=hh/\Qp w hh (QbV F)/\w.ownsRow 0 105 3 (.slice a f c) f ds/\(∀ g,(Value.slice a f c).ownBlock=some g->d.heap.size<=g)/\(∀ i x,H[i]?=some x->(Lay.tt 6).In d G x ((ds.drop (i*3)).take 3))) (a.tmps.getD 44 undef) w:=j;generalize ag:a.tmps.getD 44 undef=ac at j;obtain⟨hh,I,P,z,rfl,E,y,q,l,r⟩:=j
   go_simp;have A:=Zc w (.cells #[.slice pm M cm,Pv hh 0,Iv fr,.slice p1 N d1,.slice O L U,.slice S R J,.slice I f P] 279);exact o _ _ A (b.trans (A.mono b.size)) ⟨w.heap.size,hh,I,P,z,Z,b.size,Qe _ _ _,E,y.below A,Z4 q A,l,r⟩
  refine⟨fun a w b k K o=>?_,?_⟩
  ·clear k;go_simp;exact o _ _ Zr b Z
  refine⟨fun a w b k K o=>?_,?_⟩
  ·obtain⟨j,-⟩:=k
   have j:(fun v w=>∃ B hh a c ds,v=Pv B 0/\d.heap.size<=B/\w.heap[B]?=some (.cells #[.slice pm M cm,Pv hh 0,Iv fr,.slice p1 N d1,.slice O L U,.slice S R J,.slice a f c] 279 (0,0))/\d.heap.size<=hh/\Qp w hh (QbV F)/\w.ownsRow 0 105 3 (.slice a f c) f ds/\(∀ g,(Value.slice a f c).ownBlock=some g->d.heap.size<=g)/\(∀ i x,H[i]?=some x->(Lay.tt 6).In d G x ((ds.drop (i*3)).take 3))) (a.tmps.getD 45 undef) w:=j;generalize ag:a.tmps.getD 45 undef=ac at j;obtain⟨B,hh,I,P,z,rfl,E,y,h0,q,l,r,T⟩:=j
   go_simp;exact o _ _ Zr b ⟨B,hh,I,P,z,Z,E,y,h0,q,l,r,T⟩
  trivial
def Qmj (w:World) (m:List (MFunc 6)) (f b:Int) (e:Ending) (w':World):Prop :=
 Below w.heap.size w w'/\(((modFault m).1≠0/\e=.returned (.tuple #[.pointer none,QG (modFault m)])) \/
  ((modFault m).1=0/\QgK m f b=false/\e=.returned (.tuple #[.pointer none,.agg #[Iv 1,Iv (-1)]])) \/
  ((modFault m).1=0/\QgK m f b=true/\∃ (i j:Nat) (fn:MFunc 6) (g:MBlock 6) (B:Nat) (O A:Nat->Prop),f=(i:Int)/\b=(j:Int)/\m[i]?=some fn/\fn.blocks[j]?=some g/\e=.returned (.tuple #[Pv B 0,.agg #[Iv 0,Iv 0]])/\SAt w' B O A (JSt.start m fn g)/\∀ k,A k->w.heap.size<=k/\k<w'.heap.size))
theorem Qj0 {m:List (MFunc 6)}(f b:Int) (be:¬ Qm m) (hm:(QaM 6).In w All m [.slice p m.length c]) :
 Calls prog 163 #[.agg #[.slice p m.length c],Iv f,Iv b] w fun e w'=>Qmj w m f b e w':=by
 have aw:Qbe m:=Zz be;have bw:=Qa aw;have b1:=Zc w (.cells #[.slice p m.length c] 24);have b2:=Zc (w.alloc (.cells #[.slice p m.length c] 24)) (.cells #[Iv 0,Iv 0] 32);have bb:=b1.trans (b2.mono b1.size);have HB:=Qa bb;have hX:Blk ((w.alloc (.cells #[.slice p m.length c] 24)).alloc (.cells #[Iv 0,Iv 0] 32)) w.heap.size #[.slice p m.length c] 24:=(Blk.new _ _ _:Blk (w.alloc (.cells #[.slice p m.length c] 24)) w.heap.size _ _).below b2
 have hR:Blk ((w.alloc (.cells #[.slice p m.length c] 24)).alloc (.cells #[Iv 0,Iv 0] 32)) (w.heap.size+1) #[Iv 0,Iv 0] 32:=by
  have:=Blk.new (w.alloc (.cells #[.slice p m.length c] 24)) #[Iv 0,Iv 0] 32
  simpa using this
 have HX:=Qa hX;have HR:=Qa hR;have HM:=Qa hm;have ak:Hid ((QaM 6).In _ All m [.slice p m.length c]):=Ya hm bb;have cj:m.length<=100000:=aw.1;clear hX hR b1 b2 bb hm aw be;go_enter func163,ntmps163
 go_upto_region 1 with fail
 generalize (w.alloc (.cells #[.slice p m.length c] 24)).alloc (.cells #[Iv 0,Iv 0] 32)=w1 at HB HX HR ak |-;obtain⟨X,hX⟩:∃ X,X=w.heap.size:=⟨_,Yz⟩
 obtain⟨R,hR⟩:∃ R,R=X+1:=⟨_,Yz⟩
 rw[<-hX] at HX HR |-
 rw[<-hR] at HR |-
 have c3:=Qa hX;have I:Hid (w.heap.size<=R):=by show _<=_;omega
 have cz:¬ X=R:=by omega
 clear hX hR;have x0:=Qb HX.out 0 _ Yz;have CC:=Qa (Qca ak.out bw.out);unfold Rd at CC;go_wp2_with fail
 refine CC.out.mono ?_;rintro e2 w2 ⟨rfl,b2⟩;have aq:=Qa (HB.out.trans (b2.mono HB.out.size));have bz:=Qa (HX.out.below b2);have ap:=Qa (HR.out.below b2);clear b2 CC x0 HX HR HB ak;have b3:=Zc w2 (.cells #[Iv (modFault m).1,Iv (modFault m).2] 32);have F:=Qa (aq.out.trans (b3.mono aq.out.size));have ab:=Qa (bz.out.below b3);have s:=Qa (ap.out.below b3);have a9:=Blk.new w2 #[Iv (modFault m).1,Iv (modFault m).2] 32;have A:=Qa a9;have cn:¬ w2.heap.size=R:=by have:=ap.out.lt;omega
 clear b3 a9 aq bz ap;go_upto_region 2 with fail
 generalize w2.alloc (.cells #[Iv (modFault m).1,Iv (modFault m).2] 32)=w3 at F ab s A |-;generalize w2.heap.size=F8 at A cn |-;obtain⟨K,a0,a1⟩:∃ K a0,modFault m=(K,a0):=⟨_,_,Yz⟩
 rw[a1] at A |-
 have an:=Qa a1;clear a1;simp only at A |-
 have y0:=Qb A.out 0 _ Yz;have y1:=Qb A.out 1 _ Yz;by_cases ac:K=0
 rotate_left
 ·have cx:(K != 0)=true:=by simpa using ac
  have r0:=Qb s.out 0 _ Yz;have r1:=Qb s.out 1 _ Yz;have z0:=Qj s.out 0;have z1:=Qj s.out 1;have cg:=Qa ac;clear ac;go_upto_region 3 with fail
  go_region
  all_goals
   have L:Blk ((w3.setCell ⟨R,0,none⟩ (Iv K)).setCell ⟨R,1,none⟩ (Iv a0)).drew R #[Iv K,Iv a0] 32:=by
    have h9:Blk ((w3.setCell ⟨R,0,none⟩ (Iv K)).setCell ⟨R,1,none⟩ (Iv a0)) R #[Iv K,Iv a0] 32:=by
     have:=Qh (Qh s.out 0 (Iv K)) 1 (Iv a0)
     simpa using this
    exact h9
   have D3:Below w.heap.size w ((w3.setCell ⟨R,0,none⟩ (Iv K)).setCell ⟨R,1,none⟩ (Iv a0)).drew:=QbZ ((F.out.setCell (p:=⟨R,0,none⟩) I.out _).setCell (p:=⟨R,1,none⟩) I.out _);clear y0 y1 r0 r1 z0 z1;generalize ((w3.setCell ⟨R,0,none⟩ (Iv K)).setCell ⟨R,1,none⟩ (Iv a0)).drew=w9 at L D3 |-;have q0:=Qb L 0 _ Yz;have q1:=Qb L 1 _ Yz;go_wp2
   exact Xy (v:=.tuple #[.pointer none,.agg #[Iv K,Iv a0]]) (by simp[results,results163,go_sem,q0,q1]) Yz ⟨D3,.inl ⟨by rw[an.out];exact cg.out,by rw[an.out]⟩⟩
 subst ac;have x3:=Qb ab.out 0 _ Yz;have CH:=Qa (Qkp f b cj (Ya HM.out F.out));have HZ:Hid ((modFault m).1=0):=by show _=_;rw[an.out]
 clear y1;go_wp2_with fail
 refine CH.out.mono ?_;rintro e4 w4 ⟨rfl,b4⟩;have W:=Qa (F.out.trans (b4.mono F.out.size));have b9:=Qa (ab.out.below b4);have y:=Qa (s.out.below b4);clear b4 CH x3 y0 ab s F A
 cases hhb:QgK m f b with
 | false =>
   have r0:=Qb y.out 0 _ Yz;have r1:=Qb y.out 1 _ Yz;have z0:=Qj y.out 0;have z1:=Qj y.out 1;have al:=Qa hhb;clear hhb;go_wp2_with fail
   have L:Blk ((w4.setCell ⟨R,0,none⟩ (Iv 1)).setCell ⟨R,1,none⟩ (Iv (-1))) R #[Iv 1,Iv (-1)] 32:=by
    have:=Qh (Qh y.out 0 (Iv 1)) 1 (Iv (-1))
    simpa using this
   have D3:Below w.heap.size w ((w4.setCell ⟨R,0,none⟩ (Iv 1)).setCell ⟨R,1,none⟩ (Iv (-1))):=(W.out.setCell (p:=⟨R,0,none⟩) I.out _).setCell (p:=⟨R,1,none⟩) I.out _;clear r0 r1 z0 z1;generalize (w4.setCell ⟨R,0,none⟩ (Iv 1)).setCell ⟨R,1,none⟩ (Iv (-1))=w9 at L D3 |-;have q0:=Qb L 0 _ Yz;have q1:=Qb L 1 _ Yz;exact Xy (v:=.tuple #[.pointer none,.agg #[Iv 1,Iv (-1)]]) (by simp[results,results163,go_sem,q0,q1]) Yz ⟨D3,.inr (.inl ⟨HZ.out,al.out,Yz⟩)⟩
 | true =>
   obtain⟨i,j,a,g,rfl,rfl,U,T⟩:=QiM hhb
   have al:=Qa hhb;have x4:=Qb b9.out 0 _ Yz;have CO:=Qa (Qgp m p c w4 (Ya HM.out W.out) bw.out);have c8:i<m.length:=(Zi U).1;have a4:(i:Int)<m.length:=by omega
   have c1:j<a.blocks.length:=(Zi T).1;have bn:(j:Int)<a.blocks.length:=by omega
   clear hhb;go_wp2_with fail
   refine CO.out.mono ?_;rintro e5 l ⟨v5,rfl,⟨pm,N,rfl,P⟩,b5⟩;have bf:=Qa (W.out.trans (b5.mono W.out.size));have bu:=Qa (y.out.below b5);have aj:=Qa P;have c4:=bu.out.lt;clear b5 CO x4 b9 y W;obtain⟨r,u,ds,e1,e2,e3,V,az⟩:=Yf P U
   subst e1;obtain⟨p1,d1,p2,d2,p3,d3,rfl,cu,ch,bk,cq⟩:=Qas az
   obtain⟨O,S,pp,cp,es,rfl,D,ba,ai,ae⟩:=Qbp bk T
   have v0:l.cell? ⟨r,u+i*4,none⟩=some (Iv a.regs):=V 0 (by decide);have v1:l.cell? ⟨r,u+i*4+1,none⟩=some (.slice p1 a.params.length d1):=V 1 (by decide);have v2:l.cell? ⟨r,u+i*4+2,none⟩=some (.slice p2 a.results.length d2):=V 2 (by decide);have v3:l.cell? ⟨r,u+i*4+3,none⟩=some (.slice (some ⟨O,S,none⟩) a.blocks.length d3):=V 3 (by decide);have cb:Hid ((ZS 6).In l (Qcr w4.heap.size) a [Iv a.regs,.slice p1 a.params.length d1,.slice p2 a.results.length d2,.slice (some ⟨O,S,none⟩) a.blocks.length d3]):=az;have cl:Hid ((Qo 6).In l (Qcr w4.heap.size) g.params [.slice pp g.params.length cp]):=ai;have ce:=Qa D;have af:=Qa ae;have C:(Value.int .i64 g.regs::Value.slice pp g.params.length cp::es).length=12:=by simp[ba]
   have bm:=Zn HZ.out;have ay:=bm.2 a (Zm U);have a3:=ay.blocks g (Zm T);have am:=Qa (Xh ay a3);have a7:=Qa (Xh U T);have br:r<l.heap.size:=Xi l ⟨r,u+i*4,none⟩ v0;clear V az bk D ai ae P cu ch cq e2 e3 ba bm ay a3 U T;have b6:=Zc l (.cells #[.slice (some ⟨r,u,none⟩) m.length N] 24);have b7:=Zc (l.alloc (.cells #[.slice (some ⟨r,u,none⟩) m.length N] 24)) (.cells #[Iv a.regs,.slice p1 a.params.length d1,.slice p2 a.results.length d2,.slice (some ⟨O,S,none⟩) a.blocks.length d3] 89);have bt:=b6.trans (b7.mono b6.size);have z:=Qa bt;have bq:Blk ((l.alloc (.cells #[.slice (some ⟨r,u,none⟩) m.length N] 24)).alloc (.cells #[Iv a.regs,.slice p1 a.params.length d1,.slice p2 a.results.length d2,.slice (some ⟨O,S,none⟩) a.blocks.length d3] 89)) l.heap.size #[.slice (some ⟨r,u,none⟩) m.length N] 24:=(Blk.new _ _ _:Blk (l.alloc (.cells #[.slice (some ⟨r,u,none⟩) m.length N] 24)) l.heap.size _ _).below b7
   have bs:Blk ((l.alloc (.cells #[.slice (some ⟨r,u,none⟩) m.length N] 24)).alloc (.cells #[Iv a.regs,.slice p1 a.params.length d1,.slice p2 a.results.length d2,.slice (some ⟨O,S,none⟩) a.blocks.length d3] 89)) (l.heap.size+1) #[Iv a.regs,.slice p1 a.params.length d1,.slice p2 a.results.length d2,.slice (some ⟨O,S,none⟩) a.blocks.length d3] 89:=by
    have:=Blk.new (l.alloc (.cells #[.slice (some ⟨r,u,none⟩) m.length N] 24)) #[Iv a.regs,.slice p1 a.params.length d1,.slice p2 a.results.length d2,.slice (some ⟨O,S,none⟩) a.blocks.length d3] 89
    simpa using this
   have H:=Qa bq;have d:=Qa bs;clear b6 b7 bt bq bs;generalize cd:m.length=nm at H d z a4 aj;have bv:=Qa cd;generalize ct:a.blocks.length=nb at v3 d z H bn;have cw:=Qa ct;go_upto_region 8 with fail
   generalize (l.alloc (.cells #[.slice (some ⟨r,u,none⟩) nm N] 24)).alloc (.cells #[Iv a.regs,.slice p1 a.params.length d1,.slice p2 a.results.length d2,.slice (some ⟨O,S,none⟩) nb d3] 89)=w6 at z H d |-;obtain⟨M9,bg⟩:∃ M9,M9=l.heap.size:=⟨_,Yz⟩
   obtain⟨b0,ag⟩:∃ b0,b0=M9+1:=⟨_,Yz⟩
   rw[<-bg] at H d |-
   rw[<-ag] at d |-
   clear bg ag v0 v1 v2 v3 br;have f0:=Qb d.out 0 _ Yz;have f1:=Qb d.out 1 _ Yz;have f2:=Qb d.out 2 _ Yz;have f3:=Qb d.out 3 _ Yz;have m0:=Qb H.out 0 _ Yz;have Q:=Qa (Z1 ce.out z.out);generalize av:(Value.int .i64 g.regs::Value.slice pp g.params.length cp::es)=cs at Q C;have a2:=Qa av;obtain⟨bl,bj,a5⟩:=Qnr (w1:=w6) C
   have ad:=Qa bl;have t:=Qa bj;have TH:=Qa a5;have TS:Hid ((prog.info? 86).map (·.size)=some cs.length):=by show _=_;rw[C];exact sizeBk
   have bi:Hid ((prog.info? 86).map (·.size)=some cs.toArray.size):=by show _=_;rw[List.size_toArray];exact TS.out
   have TO:Hid (cs.toArray.all (·.oneCell')=true):=by
    refine all_oneCell_toArray fun v hv=>?_;rw[<-av] at hv
    simp only[List.mem_cons] at hv
    rcases hv with rfl | rfl | hv
    ·rfl
    ·rfl
    ·exact af.out v hv
   clear bl bj a5 av C;go_upto_region 9 with (first | (refine wpList_load_mid Yz 86 (.tmp 34) Yz O (S+j*12) Yz cs _ Q.out underlying86 Yz TS.out ?_) | (refine wpList_store_mid Yz 86 (.tmp 11) (.tmp 35) Yz w6.heap.size 0 cs.toArray Yz Yz TH.out bi.out TO.out ?_))
   clear TH TS bi TO Q;generalize (w6.alloc (.cells #[Iv 0,Nv,Nv,Iv 0,Iv 0,Iv 0,Nv,Nv,Iv 0,Nv,Nv,Nv] 86)).setCells w6.heap.size 0 cs.toArray.toList=E at ad t |-;generalize w6.heap.size=ck at ad |-;have M:Hid (Blk E ck (Value.int .i64 g.regs::Value.slice pp g.params.length cp::es).toArray 86):=by rw[a2.out];exact ad.out
   have y0:=Qb M.out 0 _ Yz;have y1:=Qb M.out 1 _ Yz;have f0:=Qk f0 t.out;have f1:=Qk f1 t.out;have f2:=Qk f2 t.out;have f3:=Qk f3 t.out;have m0:=Qk m0 t.out;have J:=Qa (z.out.trans (t.out.mono z.out.size));have au:=Qa (bf.out.trans (J.out.mono bf.out.size));have a6:=Qa (bu.out.below J.out);have ci:Hid ((Qo 6).In E (fun k=>k<E.heap.size) g.params [.slice pp g.params.length cp]):=Yc (Ya cl.out J.out) (fun k _ hl=>hl);have cc:Hid (∀ (i:Nat) (x:TT 6) (cs:List Value) {w:World},g.params[i]?=some x->(Lay.tt 6).In w (fun k=>k<E.heap.size) x cs->Below E.heap.size E w->(Lay.tt 6).In E (fun k=>k<E.heap.size) x cs):=fun i x cs w _ h hb=>(Lay.tt 6).keep (fun k n _=>(hb.block k n).symm) (fun _ h _=>h) h;have co:-9223372036854775808<=g.regs/\g.regs<=9223372036854775807:=by have h1:=am.out.2.regs;have h2:=am.out.1.regs;omega
   have cv:g.params.length<=5000:=by have:=am.out.2.params.1;omega
   clear ad M a2 z t H d af;refine jn9 m0 f0 f1 f2 f3 y0 y1 co (show Hid (g.params.length=g.params.length) from Yz) cv ci cc _ _ Yz (Xg (by kernel_rfl)) Yz Yz Yz ?_;rintro cf vs o ah ⟨B,hh,aa,ca,ds,bp,a8,ax,bh,ao,ar,bd,bx⟩ b8;show wpList _ cf _ [_] (QN _ vs [36,37,38,39,40,41,42,43,44,45,46,6]) o;simp only[QN,Act.put,List.setIfInBounds_toArray,List.set_cons_zero,List.set_cons_succ,ah,bp]
   have G:=Qa (a6.out.below b8);have cr:=Qa (au.out.trans (b8.mono au.out.size));have c5:=a6.out.lt;have Z:Hid (∀ w9,Below E.heap.size o w9\/(∀ k,k≠R->w9.heap[k]?=o.heap[k]?)->True):=fun _ _=>trivial
   have ST:Hid (SAt o B (fun k=>E.heap.size<=k/\k<o.heap.size) (fun k=>E.heap.size<=k/\k<o.heap.size) (JSt.start m a g)):=by
    have bc:=J.out.trans (b8.mono J.out.size);have c2:=J.out.size;have c6:=b8.size;refine⟨some ⟨r,u,none⟩,N,hh,p1,d1,p2,d2,some ⟨O,S,none⟩,d3,.slice aa g.params.length ca,?_,?_,?_,⟨ao,bh,ao.lt⟩,?_,⟨a8,XC ax⟩,fun k n=>n⟩
    ·rw[ax]
     show _=some (Obj.cells #[.slice (some ⟨r,u,none⟩) m.length N,_,_,_,_,.slice (some ⟨O,S,none⟩) a.blocks.length d3,_] _ _);rw[bv.out,cw.out];rfl
    ·show (QaM 6).In o _ m [.slice (some ⟨r,u,none⟩) m.length N];have h0:=aj.out;rw[<-bv.out] at h0
     exact(QaM 6).keep (fun k _ hl=>bc.block k hl) (fun k _ hl e=>by omega) h0
    ·exact(ZS 6).keep (fun k _ hl=>bc.block k hl) (fun k _ hl e=>by omega) cb.out
    ·refine⟨ds,ar,fun k n=>⟨bd k n,?_⟩,fun i x hx=>(Lay.tt 6).keep (fun k n _=>b8.block k n) (fun k n _ e=>by omega) (bx i x hx)⟩
     obtain⟨-,q⟩:=id ar
     rcases q with ⟨e,-⟩|⟨g',cy,c7,e,-,hq,-⟩
     ·rw[e] at n;simp[Value.ownBlock] at n
     ·rw[e] at n;simp[Value.ownBlock] at n;subst n;exact XC hq
   have r0:=Qb G.out 0 _ Yz;have r1:=Qb G.out 1 _ Yz;have z0:=Qj G.out 0;have z1:=Qj G.out 1;clear ah bp a8 ax bh ao ar bd bx b8 f0 f1 f2 f3 y0 y1 m0 Z;go_wp2_with fail
   have L:Blk ((o.setCell ⟨R,0,none⟩ (Iv 0)).setCell ⟨R,1,none⟩ (Iv 0)) R #[Iv 0,Iv 0] 32:=by
    have:=Qh (Qh G.out 0 (Iv 0)) 1 (Iv 0)
    simpa using this
   have D3:Below w.heap.size w ((o.setCell ⟨R,0,none⟩ (Iv 0)).setCell ⟨R,1,none⟩ (Iv 0)):=(cr.out.setCell (p:=⟨R,0,none⟩) I.out _).setCell (p:=⟨R,1,none⟩) I.out _
   have D4:SAt ((o.setCell ⟨R,0,none⟩ (Iv 0)).setCell ⟨R,1,none⟩ (Iv 0)) B (fun k=>E.heap.size<=k/\k<o.heap.size) (fun k=>E.heap.size<=k/\k<o.heap.size) (JSt.start m a g):=by
    have bo:∀ k,((o.setCell ⟨R,0,none⟩ (Iv 0)).setCell ⟨R,1,none⟩ (Iv 0)).heap[k]?=o.heap[k]?:=fun k=>by
     by_cases n:k=R
     ·subst n;exact L.trans G.out.symm
     ·rw[Xd _ _ _ _ n,Xd _ _ _ _ n]
    exact ST.out.keep (fun k _ _=>bo k) (fun _ h _=>h) (fun _ h _=>h) (fun _ h=>h)
   have D5:∀ k,(E.heap.size<=k/\k<o.heap.size)->w.heap.size<=k/\k<((o.setCell ⟨R,0,none⟩ (Iv 0)).setCell ⟨R,1,none⟩ (Iv 0)).heap.size:=fun k n=>by
    have:=au.out.size
    simp
    omega
   clear r0 r1 z0 z1;generalize (o.setCell ⟨R,0,none⟩ (Iv 0)).setCell ⟨R,1,none⟩ (Iv 0)=w9 at L D3 D4 D5 |-;have q0:=Qb L 0 _ Yz;have q1:=Qb L 1 _ Yz;exact Xy (v:=.tuple #[Pv B 0,.agg #[Iv 0,Iv 0]]) (by simp[results,results163,go_sem,q0,q1]) Yz ⟨D3,.inr (.inr ⟨HZ.out,al.out,i,j,a,g,B,_,_,Yz,Yz,a7.out.1,a7.out.2,Yz,D4,D5⟩)⟩
def SOk (w:World) (b B0:Nat) (s:JSt):Prop:=∃ O A,SAt w b O A s/\(∀ k,A k->B0<=k/\k<w.heap.size)/\JOk s
section
variable {w w':World}{b B0:Nat}{s:JSt}
theorem SOk.below (h:SOk w b B0 s) (k:Below w.heap.size w w'):SOk w' b B0 s:=by
 obtain⟨O,A,f,d,e⟩:=h
 exact⟨O,A,f.below k,fun c a=>⟨(d c a).1,Zl (d c a).2 k.size⟩,e⟩
theorem STo.ok {A:Nat->Prop}{d:JSt}(h:STo w w' b O A d) (f:∀ k,A k->B0<=k/\k<w.heap.size) (g:∀ k,O k->A k) (m:B0<=w.heap.size) (i:JOk d):SOk w' b B0 d/\Below B0 w w':=by
 obtain⟨N,j,l,c⟩:=h
 have e:=c.size;refine⟨⟨_,_,l,fun k a=>?_,i⟩,⟨c.os,c.tape,c.output,c.size,fun k a=>c.block k (by omega) (fun e=>by have:=f k (g k e);omega)⟩⟩
 rcases a with a | a
 ·have:=f k a;omega
 ·have:=j k a;omega
theorem SOk.ins (h:SOk w b B0 s) (n:B0<=w.heap.size){x:Qs}(c:intsL.In w Q x.regs [.slice rg x.regs.length rc]) (a:intsL.In w Q x.args [.slice ag x.args.length ac]) (f:x.regs.length<=rc) (d:ZC x) :
 Calls prog 164 #[Pv b 0,Qd0 x rg ag rc ac] w fun e w'=>e=.returned (Iv (s.code x))/\SOk w' b B0 (s.ins x)/\Below B0 w w':=by
 obtain⟨O,A,i,j,g⟩:=h
 refine(QkB (fun k l=>(j k l).2) g i c a f d).mono ?_
 rintro e w' ⟨rfl,m⟩;exact⟨Z,m.ok j i.sub n (g.ins x)⟩
theorem SOk.end_ (h:SOk w b B0 s){x:ZE}{e:EP}(f:Qdu w Q x e) (c:-9223372036854775808<=x.a/\x.a<=9223372036854775807) (l:x.yes.regs.length<2305843009213693952/\x.yes.args.length<2305843009213693952/\x.no.regs.length<2305843009213693952/\x.no.args.length<2305843009213693952) :
 Calls prog 165 #[Pv b 0,.agg (QbU x e)] w fun r w'=>r=.returned (Iv (s.fin x))/\Below w.heap.size w w':=by
 obtain⟨O,A,i,j,g⟩:=h
 exact QkH (fun k d=>(j k d).2) g i f c l
end
def QkL (w w':World) (e:Ending):Prop:=∃ G1 G2,e=.returned (.agg #[.slice (some ⟨G2,0,none⟩) 1 1])/\Blk w' G1 #[Iv 0,Nv,Nv,Iv 3,Iv 0,Iv 0,Nv,Nv,Iv 0,Nv,Nv,Nv] 86/\Blk w' G2 #[Iv 0,Nv,Nv,.slice (some ⟨G1,0,none⟩) 1 1] 89/\w.heap.size<=G1/\w.heap.size<=G2/\G1≠G2/\Below w.heap.size w w'
theorem Qje (w:World):Calls prog 39 #[] w fun e w'=>QkL w w' e:=by
 have d:=Qf ((Bxs.start w).new #[Nv] 24);go_enter func39,ntmps39
 go_upto_region 1 with fail
 generalize w.alloc (.cells #[Nv] 24)=c at d |-;generalize w.heap.size=R at d |-;have g:=d.out.new #[Iv 0,Nv,Nv,Iv 3,Iv 0,Iv 0,Nv,Nv,Iv 0,Nv,Nv,Nv] 86;have b:=g.new #[Iv 0,Nv,Nv,.slice (some ⟨c.heap.size,0,none⟩) 1 1] 89;rw[World.size_alloc] at b
 have j:=b.cell (a:=[_,_]) 0 _ Z;have k:=b.free (a:=[_,_]) 0;have f:=Qf (b.set (a:=[_,_]) 0 (.slice (some ⟨c.heap.size+1,0,none⟩) 1 1));clear g b;go_wp2
 have h:=f.out.cell (a:=[_,_]) 0 _ Z;have i:c.heap.size≠c.heap.size+1:=by omega
 exact Xy (v:=.agg #[.slice (some ⟨c.heap.size+1,0,none⟩) 1 1]) (by simp[results,results39,go_sem,h]) Z ⟨_,_,Z,f.out.at (a:=[_]),f.out.at (a:=[]),d.out.bel.size,Nat.le_succ_of_le d.out.bel.size,i,f.out.bel⟩
theorem QbF {α:Type}{A:Lay α}{c:Array Value}{x:α}(h:Blk w G c t) (f:c.toList=cs) (d:A.In w All x cs):A.list.In w All [x] [.slice (some ⟨G,0,none⟩) 1 1]:=by
 refine⟨some ⟨G,0,none⟩,1,Z,fun i y b=>?_⟩
 have g:i=0:=by
  have:=(Zi b).1
  simp at this;exact this
 subst g;simp at b
 subst b;refine⟨G,0,cs,Z,Y,h.lt,fun j k=>?_,d⟩
 have e:=A.len d;have a:j<c.size:=by rw[<-f] at e;simp at e;omega
 rw[Nat.zero_mul,XK,<-f,Array.getElem?_toList]
 exact(Qb h j c[j] (Xj a)).trans (Xj a).symm
end Go.Proofs.YtjhdpajpibdnaafGreat
