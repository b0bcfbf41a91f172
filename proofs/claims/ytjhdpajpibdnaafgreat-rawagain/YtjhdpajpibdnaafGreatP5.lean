import Derived.Test.YtjhdpajpibdnaafGreatP4
set_option maxHeartbeats 16000000
set_option maxRecDepth 100000
namespace Go.Proofs.YtjhdpajpibdnaafGreat
open Go.ChangeShapes Go.WideShapes Go.ChangeAt Go.RowKit _root_.Go.Proofs.Tryz
set_option linter.unusedSimpArgs false
set_option linter.unusedVariables false
variable {w w' w6 w1 w2:World}{n b c k m rc ac X j B i cm g N d f fi cap bp q R pages id bi cc funcs s ci rl al ca ri vl most cR cA G:Nat}{O Q O':Nat→Prop}{l xs regs inp:List Int}{p a rg ag pm pi pa pR pA ra aa:Option Addr}{t e:TypeId}{v:Value}{P:Program}{L bs:List Bool}{x ya xc xk fr xa xb xn yb:Int}{ds cs:List Value}{ops:Array Oper}
theorem Zh (w:World) (c:Int):Calls prog 268 #[.bool true,Iv c] w fun e w'=>e=.returned (.tuple #[])/\w'=w:=by
 go_enter func268,ntmps268
 go_wp2
 exact Xz (v:=.tuple #[]) (by simp[results,results268,go_sem]) Z ⟨Z,Z⟩
theorem Zj (w:World) (c:Int):Calls prog 268 #[.bool false,Iv c] w fun e w'=>e=.panicked (QeO c)/\w'=w:=by
 go_enter func268,ntmps268
 go_wp2
 exact⟨Z,Z,Z⟩
theorem QbS (w:World) (ok:Bool) (c:Int):Calls prog 268 #[.bool ok,Iv c] w fun e w'=>w'=w/\((ok=true/\e=.returned (.tuple #[]))\/(ok=false/\e=.panicked (QeO c))):=by
 cases ok
 ·exact(Zj w c).mono (fun e w' h=>⟨h.2,.inr ⟨Z,h.1⟩⟩)
 ·exact(Zh w c).mono (fun e w' h=>⟨h.2,.inl ⟨Z,h.1⟩⟩)
def ZG (c:Int) (V:Value->Prop) (e:Ending):Prop:=(c=0/\∃ x,e=.returned x/\V x)\/(c≠0/\e=.panicked (QeO c))
theorem ZG.good {c:Int}{V:Value->Prop}{x:Value}(h:c=0) (a:V x):ZG c V (.returned x):=.inl ⟨h,x,Z,a⟩
theorem ZG.bad {c d:Int}{V:Value->Prop}(h:c=d) (a:d≠0):ZG c V (.panicked (QeO d)):=.inr ⟨by omega,by rw[h]⟩
def QmE (w:World) (A:Nat->Prop) (s:JSt) (a:Int) (x:Value):Prop:=∃ (t:TT 6) (p:Option Addr) (c:Nat),s.at a=some t/\x=Tv t p c/\TIn w (fun g=>¬ A g) t p/\t.ok
def JSt.has (s:JSt) (a:Int):Int:=match s.at a with | none=>1 | some _=>0
theorem Qcc {w:World}{A:Nat->Prop}{s:JSt}(a:Int) (C:s.L.length<=80) (h:SAt w b O A s) :
 Calls prog 270 #[Pv b 0,Iv a] w fun e w'=>ZG (s.has a) (QmE w' A s a) e/\Below w.heap.size w w':=by
 have x:=Zd w (.cells #[Iv 0,Iv 0,Nv] 105);obtain⟨pm,cm,hh,a1,c1,a2,c2,a3,c3,aL,cL,R⟩:=h.read
 obtain⟨-,-,-,-,-,-,m⟩:=(R.below x).cells
 have F:=Qa R.row;have j:=Qa x;have f:Hid (Blk (w.alloc (.cells #[Iv 0,Iv 0,Nv] 105)) w.heap.size #[Iv 0,Iv 0,Nv] 105):=Blk.new _ _ _;clear R h x;go_enter func270,ntmps270
 go_upto_region 1 with fail
 generalize w.alloc (.cells #[Iv 0,Iv 0,Nv] 105)=P at m F j f |-;by_cases N:0<=a
 rotate_left
 ·have Q:decide (a>=0)=false:=by simpa using N
  have E:Hid (s.has a=1):=by show _=_;unfold JSt.has JSt.at;rw[Xs (by omega)]
  generalize s.L.length=K at m C;go_wp2_with fail
  refine(Zj _ 1).mono ?_
  rintro H w' ⟨rfl,k⟩;subst k;exact⟨Z,ZG.bad E.out (by decide),j.out⟩
 obtain⟨i,rfl⟩:=Xc N
 by_cases o:i<s.L.length
 rotate_left
 ·have E:Hid (s.has (i:Int)=1):=by
   show _=_;unfold JSt.has JSt.at;rw[Xr (by omega),XT,Xk (by omega)]
  have B:¬ (i:Int)<s.L.length:=by omega
  generalize s.L.length=K at m B o C;go_wp2_with fail
  refine(Zj _ 1).mono ?_
  rintro H w' ⟨rfl,k⟩;subst k;exact⟨Z,ZG.bad E.out (by decide),j.out⟩
 have d:s.L[i]?=some s.L[i]:=Zg o;generalize s.L[i]=t at d;have y:s.at (i:Int)=some t:=by unfold JSt.at;rw[Xr (by omega)];exact d
 obtain⟨g,p,c,rfl,u,I,G,J,M⟩:=F.out i t d
 have E:Hid (s.has (i:Int)=0):=by show _=_;unfold JSt.has;rw[y]
 have l:=Xi w ⟨g,i*3,none⟩ u;have e0:=Qk u j.out;have e1:=Qk I j.out;have e2:=Qk G j.out;have W:¬ w.heap.size=g:=fun e=>by have:g<w.heap.size:=l;omega
 have D:Hid (TIn w (fun g=>¬ A g) t p/\t.ok):=⟨J,M⟩;have T:=Qa y;have q:(i:Int)<s.L.length:=by omega
 clear u I G J M d y F l;have y0:=Qb f.out 0 _ Z;have y1:=Qb f.out 1 _ Z;have y2:=Qb f.out 2 _ Z;have z0:=Qj f.out 0;have z1:=Qj f.out 1;have z2:=Qj f.out 2;generalize U:s.L.length=K at m o q C;go_wp2_with (go_at_call 268;refine(Zh _ _).mono ?_;rintro H w' ⟨rfl,k⟩;have k:=k.symm;subst k)
 have n:=f.out.set3 (Iv t.kind) (Iv t.r) (.slice p t.len c);have z:Below w.heap.size w (((P.setCell ⟨w.heap.size,0,none⟩ (Iv t.kind)).setCell ⟨w.heap.size,1,none⟩ (Iv t.r)).setCell ⟨w.heap.size,2,none⟩ (.slice p t.len c)):=((j.out.setCell Ze _).setCell Ze _).setCell Ze _;generalize ((P.setCell ⟨w.heap.size,0,none⟩ (Iv t.kind)).setCell ⟨w.heap.size,1,none⟩ (Iv t.r)).setCell ⟨w.heap.size,2,none⟩ (.slice p t.len c)=w9 at n z |-;have V:=Qb n 0 _ Z;have S:=Qb n 1 _ Z;have X:=Qb n 2 _ Z;exact Xy (v:=Tv t p c) (by simp[results,results270,go_sem,V,S,X]) Z ⟨ZG.good E.out ⟨t,p,c,T.out,Z,D.out.1.below z,D.out.2⟩,z⟩
theorem Qgr {s:JSt}{a b:Int}{c:Bool}(h:s.has a≠0):s.want a b c=s.has a:=by
 unfold JSt.has JSt.want at *
 cases e:s.at a with
 | none=>rfl
 | some t=>rw[e] at h;exact absurd Z h
theorem SAt.more {w:World}{A:Nat->Prop}{s:JSt}(f:∀ k,O k->k<w.heap.size) (h:SAt w b O A s) (k:Below w.heap.size w w'):SAt w' b O (fun k=>A k\/w.heap.size<=k) s :=
 h.keep (fun g c _=>k.block g c) (fun _ h _=>h) (fun k a d e=>by rcases e with e | e;exact a e;omega) (fun k a=>.inl (h.sub k a))
theorem TIn.over {w w9:World}{A:Nat->Prop}{n:Nat}{t:TT n}{p:Option Addr}(h:TIn w2 (fun g=>¬ (A g\/w.heap.size<=g)) t p) (c:Below w.heap.size w w2) (b:Below w.heap.size w w9):TIn w9 (fun g=>¬ (A g\/w.heap.size<=g)) t p :=
 h.keep (fun k a _=>(b.block k (Nat.lt_of_not_le (fun e=>a (.inr e)))).trans (c.block k (Nat.lt_of_not_le (fun e=>a (.inr e)))).symm) (fun _ h _=>h)
theorem TIn.less {w:World}{A:Nat->Prop}{n:Nat}{t:TT n}{p:Option Addr}(h:TIn w2 (fun g=>¬ (A g\/w.heap.size<=g)) t p):TIn w2 (fun g=>¬ A g) t p:=h.mono (fun k a _ e=>a (.inl e))
structure QhC (w wc:World) (R B:Nat) (A:Nat->Prop){n:Nat}(t:TT n) (p:Option Addr) (c:Nat):Prop where
 bel:Below w.heap.size w wc
 res:Blk wc R #[Iv 0,Iv 0,Nv] 105
 box:Blk wc B #[Iv t.kind,Iv t.r,.slice p t.len c] 105
 lay:TIn wc (fun g=>¬ (A g\/w.heap.size<=g)) t p
 farR:w.heap.size<=R
 farB:w.heap.size<=B
 ne:¬ B=R
section
variable {w wc w9:World}{R B:Nat}{A:Nat->Prop}{n:Nat}{t:TT n}{p:Option Addr}{c:Nat}
theorem QhC.below (h:QhC w wc R B A t p c) (k:Below wc.heap.size wc w9):QhC w w9 R B A t p c :=
 ⟨h.bel.trans (k.mono h.bel.size),h.res.below k,h.box.below k,h.lay.below k,h.farR,h.farB,h.ne⟩
theorem QhC.cells (h:QhC w wc R B A t p c):wc.cell? ⟨B,0,none⟩=some (Iv t.kind)/\wc.cell? ⟨B,1,none⟩=some (Iv t.r)/\wc.cell? ⟨B,2,none⟩=some (.slice p t.len c) /\
 wc.cell? ⟨R,0,none⟩=some (Iv 0)/\wc.cell? ⟨R,1,none⟩=some (Iv 0)/\wc.cell? ⟨R,2,none⟩=some (Nv)/\wc.frozen? ⟨R,0,none⟩=false/\wc.frozen? ⟨R,1,none⟩=false/\wc.frozen? ⟨R,2,none⟩=false :=
 ⟨Qb h.box 0 _ Z,Qb h.box 1 _ Z,Qb h.box 2 _ Z,Qb h.res 0 _ Z,Qb h.res 1 _ Z,Qb h.res 2 _ Z,Qj h.res 0,Qj h.res 1,Qj h.res 2⟩
theorem QnS {k r:Int}{q:Option Addr}{l:Nat}(b:Below w.heap.size w wc) (c:Blk wc R #[Iv 0,Iv 0,Nv] 105) (a:w.heap.size<=R) :
 Blk (((wc.setCell ⟨R,0,none⟩ (Iv k)).setCell ⟨R,1,none⟩ (Iv r)).setCell ⟨R,2,none⟩ (.slice q l d)) R #[Iv k,Iv r,.slice q l d] 105/\Below w.heap.size w (((wc.setCell ⟨R,0,none⟩ (Iv k)).setCell ⟨R,1,none⟩ (Iv r)).setCell ⟨R,2,none⟩ (.slice q l d)) :=
 ⟨c.set3 _ _ _,((b.setCell (p:=⟨R,0,none⟩) a _).setCell (p:=⟨R,1,none⟩) a _).setCell (p:=⟨R,2,none⟩) a _⟩
theorem QhC.mk1 (a:Below w.heap.size w wc) (b:Blk wc R #[Iv 0,Iv 0,Nv] 105) (f:w.heap.size<=R) (e:TIn wc (fun g=>¬ (A g\/w.heap.size<=g)) t p) :
 QhC w (wc.alloc (.cells #[Iv t.kind,Iv t.r,.slice p t.len c] 105)) R wc.heap.size A t p c:=by
 have d:=Zd wc (.cells #[Iv t.kind,Iv t.r,.slice p t.len c] 105);have h:=b.lt;exact⟨a.trans (d.mono a.size),b.below d,Blk.new _ _ _,e.alloc _,f,a.size,by omega⟩
end
theorem QhC.told {w wc:World}{R B:Nat}{A:Nat->Prop}{s:JSt}{a:Int}{t:TT 6}{p:Option Addr}{c:Nat}(h:QhC w wc R B A t p c) (g:s.at a=some t) (e:t.ok) :
 ∃ w9,w9=((wc.setCell ⟨R,0,none⟩ (Iv t.kind)).setCell ⟨R,1,none⟩ (Iv t.r)).setCell ⟨R,2,none⟩ (.slice p t.len c)/\w9.cell? ⟨R,0,none⟩=some (Iv t.kind)/\w9.cell? ⟨R,1,none⟩=some (Iv t.r)/\w9.cell? ⟨R,2,none⟩=some (.slice p t.len c) /\
  QmE w9 A s a (Tv t p c)/\Below w.heap.size w w9:=by
 obtain⟨b,f⟩:=QnS (k:=t.kind) (r:=t.r) (q:=p) (l:=t.len) (d:=c) h.bel h.res h.farR
 exact⟨_,Z,Qb b 0 _ Z,Qb b 1 _ Z,Qb b 2 _ Z,⟨t,p,c,g,Z,(h.lay.over h.bel f).less,e⟩,f⟩
theorem QeZ {w:World}{A:Nat->Prop}{s:JSt}(a d:Int) (hL:s.L.length<=80) (I:∀ k,O k->k<w.heap.size) (h:SAt w b O A s) :
 Calls prog 266 #[Pv b 0,Iv a,Iv d] w fun e w'=>ZG (s.want a d false) (QmE w' A s a) e/\Below w.heap.size w w':=by
 have G:=Zd w (.cells #[Iv 0,Iv 0,Nv] 105);have H:=Qa (h.more I G);have q:=Qa G;have n:Hid (Blk (w.alloc (.cells #[Iv 0,Iv 0,Nv] 105)) w.heap.size #[Iv 0,Iv 0,Nv] 105):=Blk.new _ _ _;clear h G;go_enter func266,ntmps266
 go_upto_region 1 with fail
 generalize w.alloc (.cells #[Iv 0,Iv 0,Nv] 105)=w1 at H q n |-;obtain⟨R,C⟩:∃ R,w.heap.size=R:=⟨_,Z⟩
 have HR:=Qa (Nat.le_of_eq C);rw[C] at n |-
 clear C;go_wp2_with fail
 refine(Qcc a hL H.out).mono ?_
 rintro Q D ⟨I,J⟩;have N:Hid (Below w.heap.size w D):=q.out.trans (J.mono q.out.size);have U:=Qa (n.out.below J);rcases I with ⟨u,x,rfl,t,p,c,T,rfl,P,i⟩|⟨u,rfl⟩
 rotate_left
 ·exact⟨Z,.inr ⟨by rw[Qgr u];exact u,by rw[Qgr u]⟩,N.out⟩
 have f:=Qa (QhC.mk1 (c:=c) N.out U.out HR.out P);have m:=Qa (Xh T i);clear P T i J n q H U;go_upto_region 2 with fail
 generalize D.alloc (.cells #[Iv t.kind,Iv t.r,.slice p t.len c] 105)=w3 at f |-;generalize D.heap.size=B at f |-;obtain⟨y0,y1,y2,r0,r1,r2,z0,z1,z2⟩:=f.out.cells
 have aa:=f.out.ne;by_cases z:t.kind=d
 rotate_left
 ·have g:(t.kind==d)=false:=by simpa using z
  have E:Hid (s.want a d false=9):=by show _=_;unfold JSt.want;rw[m.out.1];simp[z]
  generalize t.kind=tk at y0 z g;go_wp2_with fail
  refine(Zj _ 9).mono ?_
  rintro Q w' ⟨rfl,j⟩;subst j;exact⟨Z,ZG.bad E.out (by decide),f.out.bel⟩
 ·subst z;have g:(t.kind==t.kind)=true:=by simp
  have E:Hid (s.want a t.kind false=0):=by show _=_;unfold JSt.want;rw[m.out.1];simp
  obtain⟨F,M,o,l,y,S,K⟩:=f.out.told m.out.1 m.out.2
  have V:=Qa (Xh S K);have X:Hid (F.cell? ⟨R,0,none⟩=some (Iv t.kind)/\F.cell? ⟨R,1,none⟩=some (Iv t.r)/\F.cell? ⟨R,2,none⟩=some (.slice p t.len c)):=⟨o,l,y⟩;have W:=Qa M;clear S K o l y M;go_wp2_with (go_at_call 268;refine(Zh _ _).mono ?_;rintro Q w' ⟨rfl,j⟩;have j:=j.symm;subst j)
  rw[<-W.out]
  obtain⟨o,l,y⟩:=X.out
  exact Xy (v:=Tv t p c) (by simp[results,results266,go_sem,o,l,y]) Z ⟨ZG.good E.out V.out.1,V.out.2⟩
theorem QeW {s:JSt}{a b:Int}(h:s.want a b false≠0):s.want a b true=s.want a b false:=by
 unfold JSt.want at *
 cases e:s.at a with
 | none=>rfl
 | some t =>
   rw[e] at h
   by_cases c:t.kind=b
   ·simp[c] at h
   ·simp[c]
theorem Qhe {s:JSt}{a b:Int}{t:TT 6}(h:s.want a b false=0) (d:s.at a=some t):s.want a b true=if hHas s.H t.r then 0 else 10:=by
 unfold JSt.want at *;rw[d] at h |-
 by_cases c:t.kind=b
 ·simp only[c,if_true,Bool.true_and]
  cases hHas s.H t.r<;>rfl
 ·simp[c] at h
theorem Qaa {w:World}{A:Nat->Prop}{s:JSt}(a d:Int) (hL:s.L.length<=80) (n:∀ k,O k->k<w.heap.size) (h:SAt w b O A s) :
 Calls prog 248 #[Pv b 0,Iv a,Iv d] w fun e w'=>ZG (s.want a d true) (QmE w' A s a) e/\Below w.heap.size w w':=by
 have N:=Zd w (.cells #[Iv 0,Iv 0,Nv] 105);have F:=Qa (h.more n N);have l:=Qa N;have y:Hid (Blk (w.alloc (.cells #[Iv 0,Iv 0,Nv] 105)) w.heap.size #[Iv 0,Iv 0,Nv] 105):=Blk.new _ _ _;have HO:=Qa n;clear h N n;go_enter func248,ntmps248
 go_upto_region 1 with fail
 generalize w.alloc (.cells #[Iv 0,Iv 0,Nv] 105)=w1 at F l y |-;obtain⟨R,J⟩:∃ R,w.heap.size=R:=⟨_,Z⟩
 have HR:=Qa (Nat.le_of_eq J);rw[J] at y |-
 clear J;go_wp2_with fail
 refine(QeZ a d hL (fun k hk=>Zl (HO.out k hk) l.out.size) F.out).mono ?_
 rintro e' z ⟨n,G⟩;have W:Hid (Below w.heap.size w z):=l.out.trans (G.mono l.out.size);have X2:=Qa (y.out.below G);have H2:=Qa (F.out.below G);rcases n with ⟨g,x,rfl,t,p,c,P,rfl,ht,j⟩|⟨g,rfl⟩
 rotate_left
 ·exact⟨Z,.inr ⟨by rw[QeW g];exact g,by rw[QeW g]⟩,W.out⟩
 have i:=Qa (QhC.mk1 (c:=c) W.out X2.out HR.out ht);have V:=Qa (Xh P j);have E:=Qa (Qhe g P);have S:=Qa (H2.out.below (Zd z (.cells #[Iv t.kind,Iv t.r,.slice p t.len c] 105)));clear ht P j G y l F X2 g H2;go_upto_region 2 with fail
 generalize z.alloc (.cells #[Iv t.kind,Iv t.r,.slice p t.len c] 105)=Q at i S |-;generalize z.heap.size=B at i |-;obtain⟨y0,y1,y2,r0,r1,r2,z0,z1,z2⟩:=i.out.cells
 have aa:=i.out.ne;obtain⟨pm,cm,hh,a1,c1,a2,c2,a3,c3,aL,cL,K⟩:=S.out.read
 obtain⟨-,q1,-⟩:=K.cells
 have C:Hid (∀ m,Calls prog 272 #[Pv hh 0,Iv t.r] (Q.drewN m) fun e w'=>e=.returned (.bool (hHas s.H t.r))/\w'=Q.drewN m):=fun m=>Qcz t.r (show Qp (Q.drewN m) hh s.H from K.held);clear K;generalize hHas s.H t.r=q at E C;go_region_with (first | (go_at_call 272;refine(C.out _).mono ?_;rintro e' w' ⟨rfl,f⟩;have f:=f.symm;subst f) | (go_at_call 268;refine(QbS _ _ _).mono ?_;rintro e' w' ⟨f,⟨u,rfl⟩|⟨u,rfl⟩⟩;rotate_left;exact⟨Z,ZG.bad (by rw[E.out,u];rfl) (by decide),by rw[f];exact QI i.out.bel _⟩;have f:=f.symm;subst f))
 all_goals
  have E9:Hid (s.want a d true=0):=by show _=_;rw[E.out,u];rfl
  clear u S E C;have T4:=i.out.below (QI Zr 1);obtain⟨M,U,D,o,I,hv,T⟩:=T4.told V.out.1 V.out.2
  have HV:=Qa (Xh hv T);have X:Hid (M.cell? ⟨R,0,none⟩=some (Iv t.kind)/\M.cell? ⟨R,1,none⟩=some (Iv t.r)/\M.cell? ⟨R,2,none⟩=some (.slice p t.len c)):=⟨D,o,I⟩;have H9:=Qa U;clear hv T D o I U T4;go_wp2
  rw[<-H9.out]
  obtain⟨D,o,I⟩:=X.out
  exact Xy (v:=Tv t p c) (by simp[results,results248,go_sem,D,o,I]) Z ⟨ZG.good E9.out HV.out.1,HV.out.2⟩
abbrev VNone:Value->Prop:=fun x=>x=.tuple #[]
theorem QbI {A:Nat->Prop}{s:JSt}(C:l.length=N) (S:N<=100000) (J:intsL.In w Q l [.slice p N c]) (X:s.L.length<=80) (u:∀ k,O k->k<w.heap.size) (h:SAt w b O A s) :
 Calls prog 240 #[Pv b 0,.slice p N c] w fun e w'=>ZG (Qu (fun a=>s.want a 1 false) l) VNone e/\Below w.heap.size w w':=by
 have H:=Qa h;have V:=Qa u;have W:=Qa J;have I:=Qa C;clear h u J C;go_enter func240,ntmps240
 go_wp2
 go_loopw [8] (fun i wr=>∃ k:Nat,k<=N/\i=Iv k/\Below w.heap.size w wr/\∀ (j:Nat) (y:Int),j<k->l[j]?=some y->s.want y 1 false=0) (fun i _=>N - (intOf i).toNat)
 case atStart=>exact⟨0,Xb _,Z,Zr,fun j y P=>by omega⟩
 case round =>
  obtain⟨k,K,rfl,F,D⟩:=hrel
  have n:=Qa F;have z:=Qa D;clear F D;by_cases r:k<N
  ·have t:(k:Int)<N:=by omega
   have m:k<l.length:=by rw[I.out];exact r
   obtain⟨g,o,rfl,-,hg,f⟩:=ZH W.out m
   obtain⟨y,d⟩:∃ y,l[k]?=some y:=⟨_,Zg m⟩
   rw[show l.getD k 0=y by rw[List.getD_eq_getElem?_getD,d];rfl] at f
   have B:=Qa d;clear d;have T:=Qk f n.out;clear f m;go_wp2_with fail
   refine(QeZ y 1 X (fun k K=>Zl (V.out k K) n.out.size) (H.out.below n.out)).mono ?_
   rintro e' R ⟨u,G⟩;have E:Hid (Below w.heap.size w R):=n.out.trans (G.mono n.out.size);rcases u with ⟨q,x,rfl,-⟩|⟨q,rfl⟩
   rotate_left
   ·exact⟨Z,.inr ⟨by rw[Qau B.out z.out q];exact q,by rw[Qau B.out z.out q]⟩,E.out⟩
   have U:=Qa q;clear q G T;go_wp2
   go_roundw
   case rel =>
    refine⟨k+1,r,by go_num,E.out,fun j M P d=>?_⟩
    rcases Nat.lt_or_ge j k with h | h
    ·exact z.out j M h d
    ·have:j=k:=by omega
     subst this;have e:=B.out.symm.trans d;injection e with e
     subst e;exact U.out
   case measure=>simp[intOf];omega
  ·have t:¬ (k:Int)<N:=by omega
   go_wp2
   exact Xz (v:=.tuple #[]) (by simp[results,results240,go_sem]) Z ⟨ZG.good (Z3 (fun j y d=>z.out j y (by have:=(Zi d).1;rw[I.out] at this;omega) d)) Z,n.out⟩
def QZ (n m:Nat):Int:=if 80<n+m then 2 else 0
theorem Qfk {A:Nat->Prop}{s:JSt}(n:Nat) (y:n<=1000) (k:s.L.length<=80) (h:SAt w b O A s) :
 Calls prog 267 #[Pv b 0,Iv n] w fun e w'=>ZG (QZ s.L.length n) VNone e/\w'=w:=by
 obtain⟨u,x,q,m,l,o,r,p,t,B,z,g⟩:=h.read
 obtain⟨-,-,-,-,-,-,i⟩:=g.cells
 clear h g;generalize s.L.length=c at i k |-;by_cases d:80<c+n
 ·have E:Hid (QZ c n=2):=Xs d;have f:decide ((c:Int)+n<=80)=false:=Xu (by omega);clear d;go_enter func267,ntmps267
  go_wp2_with fail
  refine(Zj _ 2).mono ?_
  rintro j w' ⟨rfl,a⟩;subst a;exact⟨Z,ZG.bad E.out (by decide),Z⟩
 ·have E:Hid (QZ c n=0):=Xr d;have f:decide ((c:Int)+n<=80)=true:=Xt (by omega);clear d;go_enter func267,ntmps267
  go_wp2_with (go_at_call 268;refine(Zh _ _).mono ?_;rintro j w' ⟨rfl,a⟩;have a:=a.symm;subst a)
  exact Xz (v:=.tuple #[]) (by simp[results,results267,go_sem]) Z ⟨ZG.good E.out Z,Z⟩
def QO (w:World) (b:Nat) (O A:Nat->Prop) (s s':JSt) (c:Int) (e:Ending) (w':World):Prop :=
 (c=0/\e=.returned (.tuple #[])/\STo w w' b O A s')\/(c≠0/\e=.panicked (QeO c)/\STo w w' b O A s)
theorem STo.of_below {A:Nat->Prop}{s:JSt}(h:SAt w b O A s) (a:Below w.heap.size w w'):STo w w' b O A s:=(STo.same (h.below a)).after a
theorem Yh:type_of% @STo.of_below:=@STo.of_below
theorem QO.after {A:Nat->Prop}{s i:JSt}{c:Int}{e:Ending}(h:QO w1 b O A s i c e w') (g:Below w.heap.size w w1):QO w b O A s i c e w':=by
 rcases h with ⟨f,d,a⟩|⟨f,d,a⟩
 ·exact .inl ⟨f,d,a.after g⟩
 ·exact .inr ⟨f,d,a.after g⟩
theorem QO.bad {A:Nat->Prop}{s e:JSt}{c d:Int}(h:c=d) (f:d≠0) (a:STo w w' b O A s):QO w b O A s e c (.panicked (QeO d)) w':=.inr ⟨by omega,by rw[h],a⟩
theorem Qav {A:Nat->Prop}{s:JSt}{l:List (TT 6)}(hn:l.length=n) (ak:n<=8) (hl:(Qo 6).In w (fun g=>¬ A g) l [.slice p n c]) (hL:s.L.length<=80) (hA:∀ k,A k->k<w.heap.size) (h:SAt w b O A s) :
 Calls prog 244 #[Pv b 0,.slice p n c] w fun e w'=>QO w b O A s { s with L:=s.L++l } (QZ s.L.length n) e w':=by
 obtain⟨i0,hi,aa,ae,ai⟩:=pInfoT
 have H:=Qa h;have z:=Qa hl;have S:=Qa hn;have C:=Qa (Qfk n (by omega) hL h);have aj:=Qa hA;clear h hl hn hA;by_cases I:80<s.L.length+n
 ·rw[show QZ s.L.length n=2 from Xs I] at C |-
  clear I;go_enter func244,ntmps244
  go_wp2_with fail
  refine C.out.mono ?_;rintro e' w' ⟨⟨Q,-⟩|⟨Q,rfl⟩,f⟩
  ·cases Q
  subst f;exact⟨Z,.inr ⟨by decide,Z,STo.same H.out⟩⟩
 rw[show QZ s.L.length n=0 from Xr I] at C |-
 obtain⟨q,r,xs,N,f6,D,G,i⟩:=H.out.pushL aj.out
 have E:=Qa i;have B:=Qa G
 have C2:Hid (Calls prog 267 #[Pv b 0,Iv n] w fun e w'=>e=.returned (.tuple #[])/\w'=w):=C.out.mono (fun e w' h=>by
  rcases h with ⟨⟨-,x,rfl,hx⟩|⟨Q,-⟩,f⟩
  ·exact⟨by rw[hx],f⟩
  ·exact absurd Z Q)
 clear i G C;by_cases af:n=0
 ·subst af;have V:l=[]:=Xf.1 S.out;subst V
  have ha:Hid (∀ (t:TypeId) (F:World),(Builtin.append_ #[80,80] t #[.slice q s.L.length r,.slice p 0 c]).run prog F=.ok (.slice q s.L.length r) F):=fun (t:TypeId) (F:World)=>run_append_nothing (P:=prog) F 80 80 t 105 i0 pUnderT hi q s.L.length r D (.slice p 0 c) (by cases p with
   | none=>exact Src.ofNil F pUnderT c
   | some ad=>exact Src.ofSlice F pUnderT ad 0 c [] (by simp) (fun j u h=>by simp at h) (fun u h=>by cases h))
  have HZ:Hid (STo w (w.setCell ⟨b,6,none⟩ (.slice q s.L.length r)) b O A { s with L:=s.L++[] }):=by
   have e:∀ k,(w.setCell ⟨b,6,none⟩ (.slice q s.L.length r)).heap[k]?=w.heap[k]?:=fun k=>H.out.same6 N k;have hb:Below w.heap.size w (w.setCell ⟨b,6,none⟩ (.slice q s.L.length r)):=⟨Z,Z,Z,by simp,fun k _=>e k⟩;rw[List.append_nil]
   exact Yh H.out hb
  clear E B z;generalize s.L.length=nL at N ha HZ hL D I;go_enter func244,ntmps244
  go_wp2_with (first | (go_at_call 267;refine(C2.out).mono ?_;rintro e w' ⟨rfl,f⟩;have f:=f.symm;subst f) | (at_builtin;refine QaK Z (.tmp 12) (.tmp 13) 80 Z (.slice q nL r) (.slice p 0 c) Z Z (ha.out _ _) ?_))
  exact Xz (v:=.tuple #[]) (by simp[results,results244,go_sem]) Z (.inl ⟨Z,Z,HZ.out⟩)
 ·obtain⟨g0,o0,rfl⟩:∃ g0 o0,p=some ⟨g0,o0,none⟩:=by
   obtain⟨g,o,dd,e,-⟩:=Yf z.out (Zg (show 0<l.length by have:=S.out;omega))
   exact⟨g,o,e⟩
  obtain⟨M,d1,d2,d3,d4⟩:=Lay.flat z.out (fun y cs hy=>by obtain⟨ya,yc,e,-⟩:=hy;subst e;exact QlI _ _ _ _ _)
  have K:M.length=n*3:=by rw[<-S.out];exact d1
  have ah:=Qa K;have ag:=Qa d2;have ac:=Qa d3
  have d:Hid (∀ m g a,m.ownsRow 0 105 3 (.slice (some ⟨g,0,none⟩) (s.L.length+n) a) (s.L.length+n) (xs++M)->w.grownBy m (Value.slice q s.L.length r).ownBlock->((Value.slice q s.L.length r).ownBlock=some g\/g=w.heap.size)->g<m.heap.size->m.cell? ⟨b,6,none⟩=some (.slice q s.L.length r)/\m.frozen? ⟨b,6,none⟩=false/\STo w (m.setCell ⟨b,6,none⟩ (.slice (some ⟨g,0,none⟩) (s.L.length+n) a)) b O A { s with L:=s.L++l }):=by
   intro m g a J R T U;rw[<-S.out] at J |-
   exact E.out m g a l M d1 J R T U d4
  clear E z d1 K d2 d3 d4;have X:Hid (0<=w.heap.size):=Xb _;have ab:s.L.length+n<=80:=by omega
  have W:0<n:=by omega
  generalize s.L.length=nL at N B d hL D I ab;go_enter func244,ntmps244
  go_wp2_with (first | (go_at_call 267;refine(C2.out).mono ?_;rintro e w' ⟨rfl,f⟩;have f:=f.symm;subst f) | (at_builtin;refine wpList_append_lies _ Z (.tmp 12) (.tmp 13) 80 Z 0 105 i0 (.agg #[Iv 0,Iv 0,Nv]) 3 40 pUnderT hi aa ae ai Z (by decide) _ _ _ Z B.out ⟨g0,o0,none⟩ n c M Z ah.out ag.out ac.out W (by unfold maxLen;omega) (by omega) X.out w.heap.size Z ?_))
  intro g2 a m J R T U;obtain⟨am,al,z9⟩:=d.out m g2 a J R T U
  have Z9:=Qa z9;clear J R T U d B z9 N f6;go_wp2
  exact Xz (v:=.tuple #[]) (by simp[results,results244,go_sem]) Z (.inl ⟨Z,Z,Z9.out⟩)
theorem Qd2 {A:Nat->Prop}(o:∀ k,A k->k<w.heap.size){t:TT 6}(n:TIn w (fun g=>¬ A g) t p) (f:t.ok) :
 (Qo 6).In (w.alloc (.cells #[Iv t.kind,Iv t.r,.slice p t.len c] 105)) (fun g=>¬ A g) [t] [.slice (some ⟨w.heap.size,0,none⟩) 1 d]:=by
 refine⟨some ⟨w.heap.size,0,none⟩,d,Z,fun i x b=>?_⟩
 have q:i<1:=by simpa using (Zi b).1
 have l:i=0:=by omega
 subst l;simp at b
 subst b;have a:=Qe w #[Iv t.kind,Iv t.r,.slice p t.len c] 105;refine⟨w.heap.size,0,[Iv t.kind,Iv t.r,.slice p t.len c],Z,fun e=>by have:=o _ e;omega,XC a,fun j m=>?_,p,c,Z,n.alloc _,f⟩
 have m:j<3:=m;match j,m with
 | 0,_=>exact Qb a 0 _ Z
 | 1,_=>exact Qb a 1 _ Z
 | 2,_=>exact Qb a 2 _ Z
 | j+3,h=>exact absurd h (by omega)
theorem QbK {A:Nat->Prop}{s:JSt}(o:s.L.length<=80) (f:∀ k,A k->k<w.heap.size) (h:SAt w b O A s) :
 Calls prog 239 #[Pv b 0] w fun e w'=>QO w b O A s { s with L:=s.L++[tInt] } (QZ s.L.length 1) e w':=by
 have C:Hid (∀ d,Calls prog 244 #[Pv b 0,.slice (some ⟨w.heap.size,0,none⟩) 1 d] (w.alloc (.cells #[Iv 1,Iv 0,Nv] 105)) fun e w'=>QO w b O A s { s with L:=s.L++[tInt] } (QZ s.L.length 1) e w'):=fun d=>by
  have g:=Zd w (.cells #[Iv 1,Iv 0,Nv] 105);refine(Qav (l:=[tInt]) Z (by decide) (Qd2 (t:=tInt) (p:=none) (c:=0) (d:=d) f (fun i x q=>by simp[tInt] at q) (by unfold TT.ok;simp[tInt])) o (fun k r=>Zl (f k r) g.size) (h.below g)).mono (fun e w' a=>a.after g)
 clear h o f;go_enter func239,ntmps239
 go_wp2_with fail
 refine(C.out _).mono ?_
 rintro u w' a;have n:=Qa a;rcases a with ⟨j,rfl,m⟩|⟨j,rfl,m⟩
 rotate_left
 ·exact⟨Z,n.out⟩
 clear j m;go_wp2
 exact Xz (v:=.tuple #[]) (by simp[results,results239,go_sem]) Z n.out
theorem Qkq (w:World) (Q:Nat->Prop) (k r:Int):TIn (n:=6) w Q (mkT k r []) none:=fun i x a=>by simp at a
theorem Qkl {k r:Int}(h:-9223372036854775808<=r/\r<=9223372036854775807) (a:-9223372036854775808<=k/\k<=9223372036854775807):TT.ok (n:=6) (mkT k r []):=by
 unfold TT.ok;simp
 omega
theorem QcP {A:Nat->Prop}{s:JSt}(k r:Int) (m:0<=r/\r<=1000) (f:0<=k/\k<=4) (d:Nat) (i:s.L.length<=80) (g:∀ k,A k->k<w.heap.size) (h:SAt w b O A s) :
 Calls prog 244 #[Pv b 0,.slice (some ⟨w.heap.size,0,none⟩) 1 d] (w.alloc (.cells #[Iv k,Iv r,Nv] 105)) fun e w'=>QO w b O A s { s with L:=s.L++[mkT k r []] } (QZ s.L.length 1) e w':=by
 have a:=Zd w (.cells #[Iv k,Iv r,Nv] 105);exact(Qav (l:=[mkT k r []]) Z (by simp) (Qd2 (t:=mkT k r []) (p:=none) (c:=0) (d:=d) g (Qkq _ _ _ _) (Qkl (by omega) (by omega))) i (fun k f=>Zl (g k f) a.size) (h.below a)).mono (fun e w' j=>j.after a)
def JSt.openC (s:JSt):Int:=if 80<s.L.length+1\/s.H.length=16 then 2 else 0
def JSt.openS (s:JSt):JSt:={ s with H:=s.H++[true],L:=s.L++[mkT 2 s.H.length []] }
theorem QjG {A:Nat->Prop}{s:JSt}(hH:s.H.length<=16) (S:s.L.length<=80) (R:∀ k,A k->k<w.heap.size) (h:SAt w b O A s) :
 Calls prog 241 #[Pv b 0] w fun e w'=>QO w b O A s s.openS s.openC e w':=by
 have H:=Qa h;have P:=Qa R;have C:=Qa (Qfk 1 (by decide) S h);clear h R;by_cases n:80<s.L.length+1
 ·rw[show QZ s.L.length 1=2 from Xs n] at C
  have E:Hid (s.openC=2):=Xs (.inl n);clear n;go_enter func241,ntmps241
  go_wp2_with fail
  refine C.out.mono ?_;rintro y w' ⟨⟨q,-⟩|⟨q,rfl⟩,a⟩
  ·cases q
  subst a;exact⟨Yz,QO.bad E.out (by decide) (STo.same H.out)⟩
 rw[show QZ s.L.length 1=0 from Xr n] at C
 have I:Hid (Calls prog 267 #[Pv b 0,Iv 1] w fun e w'=>e=.returned (.tuple #[])/\w'=w):=C.out.mono (fun e w' h=>by
  rcases h with ⟨⟨-,x,rfl,W⟩|⟨q,-⟩,a⟩
  ·exact⟨by rw[W],a⟩
  ·exact absurd Yz q)
 clear C;obtain⟨hh,q1,f,i⟩:=H.out.setH P.out
 have m:=Qa (QcK f);have B:=Qa i;clear f i;by_cases l:s.H.length=16
 ·have E:Hid (s.openC=2):=Xs (.inr l);rw[show QbM s.H=-1 by unfold QbM;rw[Xr (by omega)],show Qdd s.H=s.H by unfold Qdd;rw[Xr (by omega)]] at m
  clear l n;go_enter func241,ntmps241
  go_wp2_with (first | (go_at_call 267;refine(I.out).mono ?_;rintro e w' ⟨rfl,a⟩;have a:=a.symm;subst a) | (go_at_call 237;refine(m.out).mono ?_;rintro e G ⟨rfl,g,c⟩;have Z:=Qa (B.out G _ g c);clear g c))
  refine(Zj _ 2).mono ?_
  rintro y w' ⟨rfl,a⟩;subst a;exact⟨Yz,QO.bad E.out (by decide) Z.out⟩
 ·have E:Hid (s.openC=0):=Xr (by omega);have j:s.H.length<16:=by omega
  rw[show QbM s.H=(s.H.length:Int) by unfold QbM;rw[Xs j],show Qdd s.H=s.H++[true] by unfold Qdd;rw[Xs j]] at m
  have u:s.H.length<=1000:=by omega
  generalize o:s.H.length=K at m j u;have M:=Qa o;have U:decide ((K:Int)>=0)=true:=Xt (by omega);clear o l;go_enter func241,ntmps241
  go_wp2_with (first | (go_at_call 267;refine(I.out).mono ?_;rintro e w' ⟨rfl,a⟩;have a:=a.symm;subst a) | (go_at_call 237;refine(m.out).mono ?_;rintro e G ⟨rfl,g,c⟩;have Z:=Qa (B.out G _ g c);clear g c))
  refine(Zh _ _).mono ?_
  rintro y w' ⟨rfl,a⟩;have a:=a.symm;subst a;obtain⟨N,D,Q,z⟩:=Z.out
  have J:=Qa (Xh D z);have T:=Qa (fun d=>QcP 2 (K:Int) (by omega) (by decide) d (by exact S) (fun k p=>by rcases p with p | p;exact Zl (P.out k p) z.size;exact(D k p).2) Q);clear D Q z Z B m I;go_wp2_with fail
  refine(T.out _).mono ?_
  rintro y X V;rcases V with ⟨r,rfl,t⟩|⟨r,rfl,t⟩
  rotate_left
  ·exact absurd (Xr n) r
  have F:=Qa (STo.join J.out.1 J.out.2 t);clear r t T J;go_wp2
  refine Xz (v:=.tuple #[]) (by simp[results,results241,go_sem]) Yz (.inl ⟨E.out,Yz,?_⟩);have e:s.openS={ ({ s with H:=s.H++[true] }) with L:=({ s with H:=s.H++[true] }).L++[mkT 2 (K:Int) []] }:=by unfold JSt.openS;rw[M.out]
  rw[e]
  exact F.out
def JSt.freeC (s:JSt) (a:Int):Int:=match s.at a with
 | none=>1
 | some t=>Qv (s.want a 2 true) (if t.r<s.f.regs then 11 else 0)
def JSt.freeS (s:JSt) (a:Int):JSt:={ s with H:=s.H.set (match s.at a with | none=>0 | some t=>t.r.toNat) false }
theorem Qhh {s:JSt}{a:Int}(h:s.want a 2 true≠0):s.freeC a=s.want a 2 true:=by
 unfold JSt.freeC
 cases e:s.at a with
 | none=>unfold JSt.want;rw[e]
 | some t=>show Qv _ _=_;unfold Qv;rw[Xr h]
theorem Qi6 {A:Nat->Prop}{s:JSt}(a:Int) (hL:s.L.length<=80) (R:∀ k,A k->k<w.heap.size) (h:SAt w b O A s) :
 Calls prog 242 #[Pv b 0,Iv a] w fun e w'=>QO w b O A s (s.freeS a) (s.freeC a) e w':=by
 have H:=Qa h;have M:=Qa R;clear h R;have U:∀ (k r:Int) (p:Option Addr) (l c:Nat) (w:World),(Instr.field 105 (.agg #[Iv k,Iv r,.slice p l c]) 1).run prog w=.ok (Iv r) w:=fun _ _ _ _ _ _=>by kernel_rfl
 go_enter func242,ntmps242
 go_wp2_with fail
 refine(Qaa a 2 hL (fun k I=>M.out k (H.out.sub k I)) H.out).mono ?_
 rintro N w2 ⟨hO,F⟩;have B:=Qa F;have Q:=Qa (H.out.below F);clear F;rcases hO with ⟨m,x,rfl,t,p,c,z,rfl,V,C⟩|⟨m,rfl⟩
 rotate_left
 ·exact⟨Yz,QO.bad (Qhh m) m (Yh H.out B.out)⟩
 have E:Hid (s.freeC a=if t.r<s.f.regs then 11 else 0):=by show _=_;unfold JSt.freeC Qv;rw[z];simp only[m,if_true]
 have i:hHas s.H t.r=true:=by
  obtain⟨t',q,e2,W⟩:=Qab m
  rw[z] at q
  cases q
  exact W Yz
 have J:Hid (s.freeS a={ s with H:=QfV s.H t.r }):=by show _=_;unfold JSt.freeS QfV;rw[z,i];rfl
 obtain⟨pm,cm,hh,a1,c1,a2,c2,a3,c3,aL,cL,P⟩:=Q.out.read
 obtain⟨-,q1,X,-⟩:=P.cells
 clear P V C z m i;obtain⟨S,n,d,j⟩:=Q.out.setH (fun k I=>Zl (M.out k I) B.out.size)
 have q:=q1.symm.trans n;simp only[Option.some.injEq,Value.pointer.injEq,Addr.mk.injEq,and_true] at q
 subst q;have K:=Qa (Qit t.r d);have HS:=Qa j;clear d j n;simp only[Tv]
 generalize s.f.regs=D at X E;generalize t.r=G at E K J |-;by_cases g:G<D
 ·rw[Xs g] at E
  have T:decide (G>=D)=false:=Xu (by omega);clear g;go_wp2_with fail
  refine(Zj _ 11).mono ?_
  rintro N w' ⟨rfl,u⟩;subst u;exact⟨Yz,QO.bad E.out (by decide) (Yh H.out B.out)⟩
 ·rw[Xr g] at E
  have T:decide (G>=D)=true:=Xt (by omega);clear g;go_wp2_with fail
  refine(Zh _ _).mono ?_
  rintro N w' ⟨rfl,u⟩;have u:=u.symm;subst u;go_wp2_with (go_at_call 269;refine(K.out).mono ?_;rintro e w1 ⟨rfl,y,o⟩;have Z:=Qa (HS.out w1 _ y o);clear y o)
  exact Xz (v:=.tuple #[]) (by simp[results,results242,go_sem]) Yz (.inl ⟨E.out,Yz,by rw[J.out];exact Z.out.after B.out⟩)
def JSt.arrayC (s:JSt) (a b:Int):Int:=Qv (Qv (s.want a 2 true) (s.want b 1 false)) (QZ s.L.length 1)
theorem Ql {a b:Int}(h:a≠0):Qv a b=a:=by unfold Qv;rw[Xr h]
theorem Qx {a b:Int}(h:a=0):Qv a b=b:=by unfold Qv;rw[Xs h]
theorem Ql1 (a:Int) (g:-9223372036854775808<=a/\a<=9223372036854775807) (d:Nat):intsL.In (w.alloc (.cells #[Iv a] 3)) All [a] [.slice (some ⟨w.heap.size,0,none⟩) 1 d]:=by
 refine⟨_,d,Z,fun i x b=>?_⟩
 have k:i<1:=by simpa using (Zi b).1
 have c:i=0:=by omega
 subst c;simp at b
 subst b;have f:=Qe w #[Iv a] 3;refine⟨w.heap.size,0,[Iv a],Z,Y,XC f,fun j e=>?_,Z,g⟩
 have e:j<1:=e;match j,e with
 | 0,_=>exact Qb f 0 _ Z
 | j+1,h=>exact absurd h (by omega)
theorem QjR (a b:Int) (k:-9223372036854775808<=a/\a<=9223372036854775807) (g:-9223372036854775808<=b/\b<=9223372036854775807) (d:Nat):intsL.In (w.alloc (.cells #[Iv a,Iv b] 3)) All [a,b] [.slice (some ⟨w.heap.size,0,none⟩) 2 d]:=by
 refine⟨_,d,Z,fun i x e=>?_⟩
 have l:i<2:=by simpa using (Zi e).1
 have f:=Qe w #[Iv a,Iv b] 3;match i,l with
 | 0,_ =>
   simp at e
   subst e;refine⟨w.heap.size,0,[Iv a],Z,Y,XC f,fun j c=>?_,Z,k⟩
   have c:j<1:=c;match j,c with
   | 0,_=>exact Qb f 0 _ Z
   | j+1,h=>exact absurd h (by omega)
 | 1,_ =>
   simp at e
   subst e;refine⟨w.heap.size,0,[Iv b],Z,Y,XC f,fun j c=>?_,Z,g⟩
   have c:j<1:=c;match j,c with
   | 0,_=>exact Qb f 1 _ Z
   | j+1,h=>exact absurd h (by omega)
 | i+2,h=>exact absurd h (by omega)
theorem QeK {s:JSt}{a:Int}:Qu (fun a=>s.want a 1 false) [a]=s.want a 1 false:=by
 show (if s.want a 1 false≠0 then s.want a 1 false else 0)=_;split
 ·rfl
 ·rename_i h;exact(Xq.1 h).symm
theorem QiF {s:JSt}{a b:Int}:Qu (fun a=>s.want a 1 false) [a,b]=Qv (s.want a 1 false) (s.want b 1 false):=by
 show (if s.want a 1 false≠0 then s.want a 1 false else Qu (fun a=>s.want a 1 false) [b])=_;rw[QeK]
 by_cases h:s.want a 1 false=0
 ·rw[Xr (by simpa using h),Qx h]
 ·rw[Xs h,Ql h]
theorem QbL {A:Nat->Prop}{s:JSt}(a:Int) (f:-9223372036854775808<=a/\a<=9223372036854775807) (d:Nat) (g:s.L.length<=80) (j:∀ k,O k->k<w.heap.size) (h:SAt w b O A s) :
 Calls prog 240 #[Pv b 0,.slice (some ⟨w.heap.size,0,none⟩) 1 d] (w.alloc (.cells #[Iv a] 3)) fun e w'=>ZG (s.want a 1 false) VNone e/\Below w.heap.size w w':=by
 have c:=Zd w (.cells #[Iv a] 3)
 have:=QbI (l:=[a]) Z (by simp) (Ql1 a f d) g (fun k i=>Zl (j k i) c.size) (h.below c)
 rw[QeK] at this
 exact this.mono (fun e w' h=>⟨h.1,c.trans (h.2.mono c.size)⟩)
theorem QeH {A:Nat->Prop}{s:JSt}(a a':Int) (g:-9223372036854775808<=a/\a<=9223372036854775807) (f:-9223372036854775808<=a'/\a'<=9223372036854775807) (d:Nat) (i:s.L.length<=80) (m:∀ k,O k->k<w.heap.size) (h:SAt w b O A s) :
 Calls prog 240 #[Pv b 0,.slice (some ⟨w.heap.size,0,none⟩) 2 d] (w.alloc (.cells #[Iv a,Iv a'] 3)) fun e w'=>ZG (Qv (s.want a 1 false) (s.want a' 1 false)) VNone e/\Below w.heap.size w w':=by
 have c:=Zd w (.cells #[Iv a,Iv a'] 3)
 have:=QbI (l:=[a,a']) Z (by simp) (QjR a a' g f d) i (fun k j=>Zl (m k j) c.size) (h.below c)
 rw[QiF] at this
 exact this.mono (fun e w' h=>⟨h.1,c.trans (h.2.mono c.size)⟩)
theorem Qhk {A:Nat->Prop}{s:JSt}(a a':Int) (o:-9223372036854775808<=a'/\a'<=9223372036854775807) (hH:s.H.length<=16) (J:s.L.length<=80) (S:∀ k,A k->k<w.heap.size) (h:SAt w b O A s) :
 Calls prog 247 #[Pv b 0,Iv a,Iv a'] w fun e w'=>∀ t,(s.at a=some t\/(s.at a=none/\t=tInt))->QO w b O A s { s with L:=s.L++[mkT 4 t.r []] } (s.arrayC a a') e w':=by
 have H:=Qa h;have N:=Qa S;have X:=Qa o;clear h S o;have aa:∀ (k r:Int) (p:Option Addr) (l c:Nat) (w:World),(Instr.field 105 (.agg #[Iv k,Iv r,.slice p l c]) 1).run prog w=.ok (Iv r) w:=fun _ _ _ _ _ _=>by kernel_rfl
 go_enter func247,ntmps247
 go_wp2_with fail
 refine(Qaa a 2 J (fun k g=>N.out k (H.out.sub k g)) H.out).mono ?_
 rintro y w2 ⟨K,u⟩;have I:=Qa u;have B:=Qa (H.out.below u);have j:=Qa (fun k g=>Zl (N.out k g) u.size);clear u;rcases K with ⟨f,x,rfl,t,p,c,G,rfl,ht,z⟩|⟨f,rfl⟩
 rotate_left
 ·exact⟨Z,fun t _=>QO.bad (by unfold JSt.arrayC;rw[Ql f,Ql f]) f (Yh H.out I.out)⟩
 have E:Hid (s.arrayC a a'=Qv (s.want a' 1 false) (QZ s.L.length 1)):=by show _=_;unfold JSt.arrayC;rw[Qx f]
 have R:0<=t.r/\t.r<=1000:=by
  obtain⟨t',Q,e2,e3⟩:=Qab f
  rw[G] at Q
  cases Q
  have:=ZW (e3 Z)
  omega
 have m:=Qa G;have HR:=Qa R;clear ht z G f R;simp only[Tv]
 have C:=Qa (fun d=>QbL a' X.out d J (fun k g=>j.out k (B.out.sub k g)) B.out);go_wp2_with fail
 refine(C.out _).mono ?_
 rintro y w3 ⟨K,q⟩;have n:=Qa (I.out.trans (q.mono I.out.size));have H3:=Qa (B.out.below q);have D:=Qa (fun k g=>Zl (j.out k g) q.size);rcases K with ⟨f,x,rfl,hx⟩|⟨f,rfl⟩
 rotate_left
 ·exact⟨Z,fun t _=>QO.bad (by rw[E.out,Ql f]) f (Yh H.out n.out)⟩
 subst hx;have V:Hid (s.arrayC a a'=QZ s.L.length 1):=by show _=_;rw[E.out,Qx f]
 clear q f E C;have U:=Qa (fun d=>QcP 4 t.r HR.out (by decide) d J D.out H3.out);go_wp2_with fail
 refine(U.out _).mono ?_
 rintro y W T
 have F:Hid (∀ t,(s.at a=some t\/(s.at a=none/\t=tInt))->QO w b O A s { s with L:=s.L++[mkT 4 t.r []] } (s.arrayC a a') y W):=fun t' i=>by
  rcases i with i | ⟨i,-⟩
  ·have e:=i.symm.trans m.out;injection e with e
   subst e;rw[V.out]
   exact T.after n.out
  ·rw[m.out] at i;cases i
 rcases T with ⟨M,rfl,P⟩|⟨M,rfl,P⟩
 rotate_left
 ·exact⟨Z,F.out⟩
 clear M P U;go_wp2
 exact Xz (v:=.tuple #[]) (by simp[results,results247,go_sem]) Z F.out
theorem Qb3 {a:World}(h:Below B a w):Below B a w.drew:=⟨h.os,h.tape,h.output,h.size,h.block⟩
theorem Zx (h:Below w.drew.heap.size w.drew w'):Below w.heap.size w w':=⟨h.os,h.tape,h.output,h.size,h.block⟩
noncomputable def JSt.beC (s:JSt) (a:Int) (t:TT 6):Int:=match s.at a with | none=>1 | some v=>if ZQ (v=t) then 0 else 9
theorem QiU {s:JSt}{a:Int}{t:TT 6}(h:s.has a≠0):s.beC a t=s.has a:=by
 unfold JSt.has JSt.beC at *
 cases e:s.at a with
 | none=>rfl
 | some t=>rw[e] at h;exact absurd Z h
theorem Qli {s:JSt}{a:Int}{t v:TT 6}(h:s.at a=some v):s.beC a t=if ZQ (v=t) then 0 else 9:=by unfold JSt.beC;rw[h]
theorem Qc1 {A:Nat->Prop}{s:JSt}(a:Int){t:TT 6}(R:TIn w Q t p) (hL:s.L.length<=80) (j:∀ x∈s.L,x.count<=100000) (hO:∀ k,O k->k<w.heap.size) (h:SAt w b O A s) :
 Calls prog 246 #[Pv b 0,Iv a,Tv t p c] w fun e w'=>ZG (s.beC a t) VNone e/\Below w.heap.size w w':=by
 have F:=Zd w (.cells #[Iv t.kind,Iv t.r,.slice p t.len c] 105);have K:=Qa (h.below F);have l:=Qa F;have J:=Qa (R.below F);have m:Hid (Blk (w.alloc (.cells #[Iv t.kind,Iv t.r,.slice p t.len c] 105)) w.heap.size #[Iv t.kind,Iv t.r,.slice p t.len c] 105):=Blk.new _ _ _;have U:=Qa j;clear h F hO R j;go_enter func246,ntmps246
 go_upto_region 1 with fail
 generalize w.alloc (.cells #[Iv t.kind,Iv t.r,.slice p t.len c] 105)=o at K l J m |-;obtain⟨X,V⟩:∃ X,w.heap.size=X:=⟨_,Z⟩
 rw[V] at m |-
 rw[<-V]
 have C:Hid (∀ f,Below o.heap.size o f->Calls prog 270 #[Pv b 0,Iv a] f fun e w'=>ZG (s.has a) (QmE w' A s a) e/\Below f.heap.size f w'):=fun f I=>Qcc a hL (K.out.below I)
 have D:Hid (∀ (v:TT 6) (q:Option Addr) (d:Nat) (f:World),s.at a=some v->TIn f (fun g=>¬ A g) v q->Below o.heap.size o f->Calls prog 261 #[Tv v q d,Tv t p c] f fun e w'=>ZL e (v=t)/\Below f.heap.size f w') :=
  fun v q d f E n I=>same_any 6 v t q p d c f n.all (J.out.below I).all (U.out v (QdL E).1)
 clear K J U;have y0:=Qb m.out 0 _ Z;have y1:=Qb m.out 1 _ Z;have y2:=Qb m.out 2 _ Z;clear m
 go_region_with (first
  | (go_at_call 270;refine(C.out _ (Qb3 Zr)).mono ?_;rintro T w2 ⟨⟨u,x,rfl,v,q,d,E,rfl,y,-⟩|⟨u,rfl⟩,M⟩;rotate_left;exact⟨Z,.inr ⟨by rw[QiU u];exact u,by rw[QiU u]⟩,l.out.trans ((Zx M).mono l.out.size)⟩;have i:Below o.heap.size o w2:=Zx M;have y3:=Qk y0 i;have y4:=Qk y1 i;have y5:=Qk y2 i;have N:=Qa i;have H:=Qa (Xh E y);clear E y u M i)
  | (go_at_call 261;refine(D.out _ _ _ _ H.out.1 H.out.2 N.out).mono ?_;rintro T w3 ⟨⟨P,rfl,z⟩,S⟩;have W:=Qa (N.out.trans (S.mono N.out.size));have B:=Qa z;clear S z)
  | (go_at_call 268;refine(QbS _ _ _).mono ?_;rintro T w' ⟨G,⟨n,rfl⟩|⟨n,rfl⟩⟩;rotate_left;exact⟨Z,ZG.bad (by rw[Qli H.out.1,show ZQ _=P from Bool.eq_iff_iff.2 (Qa4.trans B.out.symm),n];rfl) (by decide),by rw[G];exact l.out.trans (W.out.mono l.out.size)⟩;have G:=G.symm;subst G))
 all_goals
  have E9:Hid (s.beC a t=0):=by show _=_;rw[Qli H.out.1,show ZQ _=P from Bool.eq_iff_iff.2 (Qa4.trans B.out.symm),n];rfl
  have B9:Hid (Below w.heap.size w w3):=l.out.trans (W.out.mono l.out.size);clear n;go_wp2
  exact Xz (v:=.tuple #[]) (by simp[results,results246,go_sem]) Z ⟨ZG.good E9.out Z,B9.out⟩
theorem Qd3 {o:Oper}{a:Act}{w:World}{K:Act->World->Prop}{Q:Exit->Act->World->Prop}{E:Prop}(b:o.guard=none) (F:Nat) (x y:Operand) (t u:TypeId)
 (i:o.op=.call { callee:=.value (.func F),args:=#[x,y],argTypes:=#[t,u] }) (e:∀ (args:Array Value) (w:World),(callFunc F args).run P w=.ok (.enter F args) w) (v z:Value) (c:a.eval x=v) (j:a.eval y=z) {R:Ending->World->Prop} (C:Calls P F #[v,z] w R)
 (h:∀ en w',R en w'->QnJ K Q o a en w'):if Region.wanted o (yielded ops a.tmps)=true then Oper.wp P o a w K Q else E:=by
 have f:Region.wanted o (yielded ops a.tmps)=true:=by simp[Region.wanted,b]
 rw[Xs f]
 unfold Oper.wp
 have g:(execOp a.eval o).run P w=.ok (.enter F #[v,z]) w:=by
  have d:a.eval (.func F)=.func (.func F) #[] #[]:=rfl;unfold execOp;simp[i,resolve,invoke,Deferred.ofValue,c,j,e,d,Result.andThen]
 rw[g,Oper.upon_enter]
 refine C.mono fun en w' k=>?_
 have:=h en w' k
 cases en<;>exact this
theorem QbD {s:JSt}:∀ {l m:List Int}{x y:List (TT 6)},s.fields l=some x->s.fields m=some y->s.fields (l++m)=some (x++y)
 | [],m,x,y,h1,h2=>by simp[JSt.fields] at h1;subst h1;exact h2
 | k::r,m,x,y,h1,h2=>by
   simp only[JSt.fields] at h1
   show s.fields (k::(r++m))=_;simp only[JSt.fields]
   cases hk:s.at k with
   | none=>simp[hk] at h1
   | some t =>
     simp only[hk] at h1
     cases hr:s.fields r with
     | none=>simp[hr] at h1
     | some l =>
       simp only[hr,Option.some.injEq] at h1
       subst h1;rw[QbD hr h2]
       rfl
theorem QfL {s:JSt}{y:Int}{t:TT 6}{L:List (TT 6)}(b:l[k]?=some y) (a:s.at y=some t) (h:s.fields (l.take k)=some L):s.fields (l.take (k+1))=some (L++[t]):=by
 rw[XV,b]
 exact QbD h (by simp[JSt.fields,a])
theorem QdK {s:JSt}:∀ {l:List Int}{y:Int},y∈l->s.at y=none->s.fields l=none
 | k::r,y,a,h=>by
   simp only[JSt.fields]
   rcases List.mem_cons.1 a with rfl | a
   ·rw[h]
   ·rw[QdK a h]
    cases s.at k<;>rfl
def JSt.tupleC (s:JSt) (a:Int) (args:List Int):Int:=Qv (s.want a 2 true) (match s.at a with
 | none=>0
 | some t=>match s.fields args with
   | none=>1
   | some l=>if 4<TT.height (n:=7) (mkT 3 t.r l) then 19 else QZ s.L.length 1)
def JSt.tupleS (s:JSt) (a:Int) (args:List Int):JSt:={ s with L:=s.L++(match s.at a with
 | none=>[]
 | some t=>match s.fields args with
   | none=>[]
   | some l=>[TT.at (n:=7) 5 (mkT 3 t.r l)]) }
theorem QfM {R:Int}{r:Int}{l:List (TT 6)}(c:0<=r/\r<R) (b:l.length<=8) (h:∀ t∈l,t.check R=0):TT.check (n:=7) R (mkT 3 r l)=if 4<TT.height (n:=7) (mkT 3 r l) then 19 else 0:=by
 show (if 4<TT.height (n:=7) (mkT 3 r l) then 19 else TT.fault (n:=7) R (mkT 3 r l))=_
 have:TT.fault (n:=7) R (mkT 3 r l)=0:=by
  show (if ownC 3 r l.length R≠0 then ownC 3 r l.length R else Qu (TT.fault R) l)=0
  have:ownC 3 r l.length R=0:=by
   unfold ownC;rw[Xr (by omega),Xr (by omega),Xr (by omega),Xr (by omega),Xr (by omega)]
  rw[this]
  simp only[ne_eq,not_true_eq_false,if_false]
  exact QE.2 fun y a=>(QU.1 (h y a)).2
 rw[this]
structure TuS (w wc:World) (B lo:Nat) (A:Nat->Prop) (r:Int) (v:Value) (L:List (TT 6)):Prop where
 bel:Below w.heap.size w wc
 box:Blk wc B #[Iv 3,Iv r,v] 105
 row:TRq wc (fun g=>lo<=g) (fun g=>¬ (A g\/w.heap.size<=g)) v L
 lo1:B<lo
 lo2:lo<=wc.heap.size
 far:w.heap.size<=B
section
variable {w wc w9:World}{B lo:Nat}{A:Nat->Prop}{r:Int}{v:Value}{L:List (TT 6)}
theorem TRq.below {w:World}{v:Value}{L:List (TT 6)}(h:TRq w O Q v L) (k:Below w.heap.size w w'):TRq w' O Q v L:=h.keep (fun g b _=>k.block g b) (fun _ a=>h.own a) (fun _ h _=>h)
theorem TuS.below (h:TuS w wc B lo A r v L) (k:Below wc.heap.size wc w9):TuS w w9 B lo A r v L :=
 ⟨h.bel.trans (k.mono h.bel.size),h.box.below k,h.row.below k,h.lo1,Zt h.lo2 k.size,h.far⟩
theorem TuS.push {xs:List Value}{t:TT 6}(h:TuS w wc B lo A r (.slice a L.length c) L) (j:wc.ownsRow 0 105 3 (.slice a L.length c) L.length xs) (V:(Lay.tt 6).In wc (fun g=>¬ (A g\/w.heap.size<=g)) t [Iv t.kind,Iv t.r,.slice p t.len d])
 (U:w9.ownsRow 0 105 3 (.slice (some ⟨g,0,none⟩) (L.length+1) cap) (L.length+1) (xs++[Iv t.kind,Iv t.r,.slice p t.len d])) (n:wc.grownBy w9 (Value.slice a L.length c).ownBlock) (y:(Value.slice a L.length c).ownBlock=some g\/g=wc.heap.size) :
 w9.cell? ⟨B,2,none⟩=some (.slice a L.length c)/\w9.frozen? ⟨B,2,none⟩=false/\TuS w (w9.setCell ⟨B,2,none⟩ (.slice (some ⟨g,0,none⟩) (L.length+1) cap)) B lo A r (.slice (some ⟨g,0,none⟩) (L.length+1) cap) (L++[t]):=by
 have T:=n.size;have o:=h.lo1;have N:=h.lo2;have H:=h.box.lt;have aa:=h.bel.size;have b:∀ k,(Value.slice a L.length c).ownBlock=some k->lo<=k:=fun k f=>h.row.own f;have G:Blk w9 B #[Iv 3,Iv r,.slice a L.length c] 105:=(n.block B H (fun e=>by have:=b B e.symm;omega)).trans h.box
 have u:lo<=g:=by
  rcases y with y | y
  ·exact b g y
  ·omega
 have E:g≠B:=by omega
 have D:=h.far
 have q:∀ k,k<w.heap.size->(w9.setCell ⟨B,2,none⟩ (.slice (some ⟨g,0,none⟩) (L.length+1) cap)).heap[k]?=wc.heap[k]?:=fun k f=>by
  rw[Xd _ _ _ _ (show k≠B by omega),n.block k (by omega) (fun e=>by have:=b k e.symm;omega)]
 refine⟨Qb G 2 _ Z,Qj G 2,⟨⟨n.os.trans h.bel.os,n.tape.trans h.bel.tape,n.output.trans h.bel.output,by simp;omega,fun k f=>(q k f).trans (h.bel.block k f)⟩,?_,?_,o,by simp;omega,D⟩⟩
 ·have:=Qh G 2 (.slice (some ⟨g,0,none⟩) (L.length+1) cap)
  simpa using this
 ·obtain⟨m,K,q2,q3⟩:=h.row
  have e:m=xs:=by
   obtain⟨e1,X⟩:=K
   obtain⟨W,S⟩:=j
   rcases X with ⟨z,O⟩|⟨g1,J,M,z,O,e5,e6,e7,e8,e9⟩
   ·have:L.length=0:=O
    rw[Xf.1 (show m.length=0 by rw[e1,this]),Xf.1 (show xs.length=0 by rw[W,this])]
   ·rcases S with ⟨C,f4⟩|⟨g2,R,Q,C,f4,I,f6,f7,f8,f9⟩
    ·rw[C] at z;cases z
    ·rw[z] at C
     cases C
     rw[e5] at I
     cases I
     rw[<-e9,<-f9]
  subst e;refine⟨m++[Iv t.kind,Iv t.r,.slice p t.len d],?_,fun k f=>?_,?_⟩
  ·rw[List.length_append]
   exact QeB U (Xd _ _ _ _ E)
  ·simp[Value.ownBlock] at f
   subst f;exact u
  ·have l:∀ {x:TT 6} {v:List Value},(Lay.tt 6).In wc (fun g=>¬ (A g\/w.heap.size<=g)) x v->(Lay.tt 6).In (w9.setCell ⟨B,2,none⟩ (.slice (some ⟨g,0,none⟩) (L.length+1) cap)) (fun g=>¬ (A g\/w.heap.size<=g)) x v:=fun j=>(Lay.tt 6).keep (fun k f _=>q k (Nat.lt_of_not_le (fun e=>f (.inr e)))) (fun _ h _=>h) j;refine Qc3 (s:=3) (P:=fun x v=>(Lay.tt 6).In _ _ x v) K.1 (fun i x j=>l (q3 i x j)) (fun i x j=>?_);have hi:i<1:=by simpa using (Zi j).1
   have F:i=0:=by omega
   subst F;simp at j
   subst j;exact l V
end
theorem QdB {w:World}{v:Value}{xs:List Value}(h:w.ownsRow 0 e s v n xs) (d:Below w.heap.size w w'):w'.ownsRow 0 e s v n xs:=by
 obtain⟨f,i⟩:=h
 refine⟨f,?_⟩
 rcases i with k | ⟨g,a,b,j,l,c,r⟩
 ·exact .inl k
 ·exact .inr ⟨g,a,b,j,l,(d.block g (XC c)).trans c,r⟩
theorem TuS.lin {w wc:World}{B lo:Nat}{A:Nat->Prop}{r:Int}{L:List (TT 6)}(h:TuS w wc B lo A r (.slice a N c) L) (v:∀ k,A k->k<w.heap.size):LIn wc (fun g=>¬ A g) L a/\N=L.length/\∀ x∈L,x.ok:=by
 obtain⟨j,f,e,s,b,-⟩:=h.row.form
 simp only[Value.slice.injEq] at e
 obtain⟨rfl,rfl,rfl⟩:=e
 have u:=h.lo1;have y:=h.far;refine⟨fun i x d=>?_,Z,fun x d=>?_⟩
 ·obtain⟨g,j,f,e,o,l,m,n,p⟩:=b i x d
  subst e;have z:lo<=g:=h.row.own Z;refine⟨g,0,j,f,Z,fun e=>by have:=v g e;omega,?_,?_,?_,n.mono (fun k t _ e=>t (.inl e))⟩
  ·rw[XK];exact o
  ·rw[XK];exact l
  ·rw[XK];exact m
 ·obtain⟨i,q,e⟩:=List.mem_iff_getElem.1 d
  obtain⟨g,j,f,e,o,l,m,n,p⟩:=b i x (by rw[Zg q,e])
  exact p
theorem Qiq {r:Int}{l:List (TT 6)}(h:∀ x∈l,x.count<=4681) (c:l.length<=8):TT.count (n:=7) (mkT 3 r l)<=100000:=by
 show 1+(l.map TT.count).sum<=100000;have b:=sum_le_mul (l.map TT.count) 4681 (fun x a=>by obtain⟨y,d,rfl⟩:=List.mem_map.1 a;exact h y d);rw[XN] at b
 have e:l.length*4681<=8*4681:=Xp _ c;omega
theorem Qjq {w:World}{A:Nat->Prop}(f:∀ k,A k->k<w.heap.size){r:Int}{L:List (TT 6)}(i:0<=r/\r<=1000) (h:¬ 4<TT.height (n:=7) (mkT 3 r L)) (e:LIn w (fun g=>¬ A g) L p) (a:∀ x∈L,x.ok) :
 (Qo 6).In (w.alloc (.cells #[Iv 3,Iv r,.slice p L.length c] 105)) (fun g=>¬ A g) [TT.at (n:=7) 5 (mkT 3 r L)] [.slice (some ⟨w.heap.size,0,none⟩) 1 d]:=by
 have b:TT.height (n:=7) (mkT 3 r L)<=5:=by omega
 have:=Qd2 (t:=TT.at (n:=7) 5 (mkT 3 r L)) (p:=p) (c:=c) (d:=d) f (TIn.at 5 b (LIn.tree e)) (TT.at_ok 5 ⟨⟨by show -9223372036854775808<=r;omega,by show r<=9223372036854775807;omega⟩,a⟩)
 rw[TT.at_kind,TT.at_r,TT.at_len 5 _ b] at this
 exact this
theorem enters_value:Qak 270:=fun _ _=>by kernel_rfl
theorem Qha {w:World}{A:Nat->Prop}{s:JSt}(a:Int){args:List Int}(hN:args.length=N) (ax:N<=8) (hl:intsL.In w Q args [.slice pa N ca]) (hJ:JOk s) (hA:∀ k,A k->k<w.heap.size) (h:SAt w b O A s) :
 Calls prog 243 #[Pv b 0,Iv a,.slice pa N ca] w fun e w'=>QO w b O A s (s.tupleS a args) (s.tupleC a args) e w':=by
 have ar:∀ (k r:Int) (p:Option Addr) (l c:Nat) (w:World),(Instr.field 105 (.agg #[Iv k,Iv r,.slice p l c]) 1).run prog w=.ok (Iv r) w:=fun _ _ _ _ _ _=>by kernel_rfl
 obtain⟨i0,hi,ap,al,an⟩:=pInfoT
 have H:=Qa h;have HA:=Qa hA;have HO:Hid (∀ k,O k->k<w.heap.size):=fun k W=>hA k (h.sub k W);have HL:=Qa hl;have HN:=Qa hN;have HJ:=Qa hJ;have hL:=hJ.vals;clear h hA hl hN hJ;go_enter func243,ntmps243
 go_wp2_with fail
 refine(Qaa a 2 hL HO.out H.out).mono ?_
 rintro e' w2 ⟨hO,b2⟩;have HB:=Qa b2;clear b2;rcases hO with ⟨j,x,rfl,t,p,c,ha,rfl,ht,J⟩|⟨j,rfl⟩
 rotate_left
 ·exact⟨Z,QO.bad (by unfold JSt.tupleC;rw[Ql j]) j (Yh H.out HB.out)⟩
 have hr:0<=t.r/\t.r<s.H.length:=by
  obtain⟨t',e1,e2,e3⟩:=Qab j
  rw[ha] at e1
  cases e1
  exact ZW (e3 Z)
 have HR:=Qa hr;have E:Hid (s.tupleC a args=match s.fields args with | none=>1 | some l=>if 4<TT.height (n:=7) (mkT 3 t.r l) then 19 else QZ s.L.length 1):=by show _=_;unfold JSt.tupleC;rw[Qx j,ha]
 have ES:Hid (∀ l,s.fields args=some l->s.tupleS a args={ s with L:=s.L++[TT.at (n:=7) 5 (mkT 3 t.r l)] }):=fun l hl=>by unfold JSt.tupleS;rw[ha,hl]
 clear hr j ha ht J;simp only[Tv]
 go_upto_region 1 with fail
 have T0:Hid (TuS w (w2.alloc (.cells #[Iv 3,Iv t.r,Nv] 105)) w2.heap.size (w2.heap.size+1) A t.r (Nv) []) :=
  ⟨HB.out.trans ((Zd _ _).mono HB.out.size),Blk.new _ _ _,⟨[],⟨Z,.inl ⟨Z,Z⟩⟩,fun g hg=>by simp[Value.ownBlock] at hg,fun i x hx=>by simp at hx⟩,Nat.lt_succ_self _,by simp,HB.out.size⟩
 generalize w2.alloc (.cells #[Iv 3,Iv t.r,Nv] 105)=w3 at T0 |-;generalize w2.heap.size=B at T0 |-;generalize t.r=r at T0 HR E ES |-;clear HB;go_wp2
 go_loopw [16] (fun i wr=>∃ (k:Nat) (v:Value) (L:List (TT 6)),k<=N/\i=Iv k/\TuS w wr B (B+1) A r v L/\s.fields (args.take k)=some L) (fun i _=>N - (intOf i).toNat)
 case atStart=>exact⟨0,_,_,Xb _,Z,T0.out,Z⟩
 case round =>
  clear T0;obtain⟨k,v,L,W,rfl,hT,hf⟩:=hrel
  have HF:=Qa hf
  have aj:Hid (L.length=k):=by
   show _=_
   have:=(QaI hf).1
   rw[List.length_take,HN.out] at this
   omega
  have ag:L.length<=8:=by have:=aj.out;omega
  obtain⟨aL,V,rfl,ay,-,xs,X⟩:=hT.row.form
  have G:=Qa hT;have am:=Qa X;clear hf hT X;by_cases ai:k<N
  ·have ab:(k:Int)<N:=by omega
   have T:k<args.length:=by rw[HN.out];exact ai
   obtain⟨g,o,rfl,-,hg,R⟩:=ZH HL.out T
   obtain⟨y,hy⟩:∃ y,args[k]?=some y:=⟨_,Zg T⟩
   rw[show args.getD k 0=y by rw[List.getD_eq_getElem?_getD,hy];rfl] at R
   have HX:=Qa hy;have y0:=Qk R G.out.bel;have z2:=Qb G.out.box 2 _ Z;clear R T hy;go_upto_region 4 with fail
   have BD:Hid (Below w.heap.size w wr.drew):=Qb3 G.out.bel
   go_region_law (first
    | (refine Qd3 Z 270 (.tmp 22) (.tmp 23) 234 3 Z enters_value (.pointer (some ⟨b,0,none⟩)) (.int .i64 y) (by simp[Act.eval,Act.put]) (by simp[Act.eval,Act.put]) (Qcc y hL (H.out.more HO.out BD.out)) ?_
       rintro e' I ⟨hO,S⟩;rcases hO with ⟨j,x,rfl,u,q,d,hu,rfl,ad,J⟩|⟨j,rfl⟩
       rotate_left
       ·have ah:s.at y=none:=by
         unfold JSt.has at j
         cases e:s.at y with
         | none=>rfl
         | some t=>rw[e] at j;exact absurd Z j
        exact⟨Z,QO.bad (d:=s.has y) (by rw[E.out,QdK (Zm HX.out) ah];unfold JSt.has;rw[ah]) j (Yh H.out (BD.out.trans (S.mono BD.out.size)))⟩
       have T4:=Qa (G.out.below (Zx S));have HU:=Qa hu;have I4:Hid ((Lay.tt 6).In I (fun g=>¬ (A g\/w.heap.size<=g)) u [Iv u.kind,Iv u.r,.slice q u.len d]):=⟨q,d,Z,ad,J⟩;have z4:=Qb T4.out.box 2 _ Z;have ak:=T4.out.box.lt;have C:=Qa (QdB am.out (Zx S));clear hu ad J S j;dsimp only [QnJ])
    | (refine step_append_lies _ Z (.tmp 21) (.tmp 25) 80 Z 0 105 i0 (.agg #[.int .i64 0,.int .i64 0,.slice none 0 0]) 3 40 pUnderT hi ap al an Z (by decide) (.slice aL L.length V) L.length xs (by simp[Act.eval,Act.put]) (C.out.alloc _) ⟨I.heap.size,0,none⟩ 1 1 [.int .i64 u.kind,.int .i64 u.r,.slice q u.len d] (by simp[Act.eval,Act.put]) Z (QjX _ _ _) (QlI _ _ _ _ _) (by decide) (by unfold maxLen;omega) (by omega) (Xb _) (I.heap.size+1) (by simp) ?_
       intro g2 ac w9 h1 h2 h3 D;have b5:=Zd I (.cells #[Iv u.kind,Iv u.r,.slice q u.len d] 105);obtain⟨z9,f9,t9⟩:=(T4.out.below b5).push (QdB C.out b5) (Ya I4.out b5) h1 h2 (by simpa using h3)
       have T9:=Qa t9;clear h1 h2 h3 D b5 t9))
   all_goals
    have FF:=Qa (QfL HX.out HU.out HF.out);clear T4 HU I4 z4 C z9 f9 ak;generalize w9.setCell ⟨B,2,none⟩ (.slice (some ⟨g2,0,none⟩) (L.length+1) ac)=au at T9 |-;go_wp2
    go_roundw
    case rel=>exact⟨k+1,_,L++[u],ai,by go_num,T9.out,FF.out⟩
    case measure=>simp[intOf];omega
  ·have aw:k=N:=by omega
   have ab:¬ (k:Int)<N:=by omega
   have K:s.fields args=some L:=by
    have:=HF.out
    rwa [XO (by rw[HN.out];omega)] at this
   obtain⟨z,-,M⟩:=G.out.lin HA.out
   have U:∀ x∈L,x.check s.H.length=0:=fun x hx=>HJ.out.types x ((QaI K).2 x hx);have EC:Hid (TT.check (n:=7) (s.H.length:Int) (mkT 3 r L)=if 4<TT.height (n:=7) (mkT 3 r L) then 19 else 0):=QfM HR.out ag U;have E2:Hid (s.tupleC a args=if 4<TT.height (n:=7) (mkT 3 r L) then 19 else QZ s.L.length 1):=by show _=_;rw[E.out,K]
   have aq:=Qa (ES.out L K);have aa:=Qa (Xh z M);have ao:Hid (TT.count (n:=7) (mkT 3 r L)<=100000):=Qiq (fun x hx=>Z2 (U x hx)) ag;have H9:=Qa (H.out.below G.out.bel);obtain⟨pm,cm,hh,a1,c1,a2,c2,a3,c3,az,av,RR⟩:=H9.out.read
   obtain⟨-,q1,-⟩:=RR.cells
   have CL:Hid (∀ m,Calls prog 271 #[Pv hh 0] (wr.drewN m) fun e w'=>e=.returned (Iv (s.H.length:Int))/\w'=wr.drewN m):=fun m=>QkR (show Qp (wr.drewN m) hh s.H from RR.held);have CC:Hid (Calls prog 223 #[.agg #[Iv 3,Iv r,.slice aL L.length V],Iv (s.H.length:Int)] wr.drew fun e w'=>e=.returned (Iv (TT.check (n:=7) (s.H.length:Int) (mkT 3 r L)))/\Below wr.drew.heap.size wr.drew w'):=check_any 7 (mkT 3 r L) aL V _ wr.drew (TIn.all (LIn.tree z).drew) ao.out;obtain⟨z0,z1,z2⟩:=Qle G.out.box
   clear K z M U RR HF aj;generalize TT.check (n:=7) (s.H.length:Int) (mkT 3 r L)=ck at EC CC;generalize (s.H.length:Int)=nH at CL CC;go_upto_region 6 with fail
   go_region_with (first
    | (go_at_call 271;refine(CL.out _).mono ?_;rintro e w' ⟨rfl,P⟩;have P:=P.symm;subst P)
    | (go_at_call 223;refine(CC.out).mono ?_;rintro e I ⟨rfl,S⟩;have B4:=Qa (Zx S);clear S)
    | (go_at_call 268;refine(QbS _ _ _).mono ?_;rintro e' w' ⟨P,⟨hq,rfl⟩|⟨hq,rfl⟩⟩;rotate_left;exact⟨Z,QO.bad (d:=19) (by rw[E2.out];have f:ck≠0:=(by simpa using hq);rw[EC.out] at f;by_cases D:4<TT.height (n:=7) (mkT 3 r L);rw[Xs D];rw[Xr D] at f;exact absurd Z f) (by decide) (by rw[P];exact Yh H.out (G.out.bel.trans (B4.out.mono G.out.bel.size)))⟩;have P:=P.symm;subst P))
   all_goals
    have f:ck=0:=by simpa using hq
    have D:¬ 4<TT.height (n:=7) (mkT 3 r L):=fun D=>by
     have:=EC.out
     rw[Xs D,f] at this
     cases this
    have E3:Hid (s.tupleC a args=QZ s.L.length 1):=by show _=_;rw[E2.out,Xr D]
    have T5:=Qa (G.out.below B4.out);have ae:Hid (∀ k,A k->k<I.heap.size):=fun k W=>Zl (HA.out k W) T5.out.bel.size
    have CM:Hid (∀ d,Calls prog 244 #[Pv b 0,.slice (some ⟨I.heap.size,0,none⟩) 1 d] (I.alloc (.cells #[Iv 3,Iv r,.slice aL L.length V] 105)) fun e w'=>QO w b O A s (s.tupleS a args) (s.tupleC a args) e w'):=fun d=>by
     have b1:=Zd I (.cells #[Iv 3,Iv r,.slice aL L.length V] 105);have af:=T5.out.bel.trans (b1.mono T5.out.bel.size);rw[aq.out,E3.out]
     exact(Qav (l:=[TT.at (n:=7) 5 (mkT 3 r L)]) Z (by simp) (Qjq (c:=V) (d:=d) ae.out (by have:=HR.out;have:=HJ.out.regs;omega) D (aa.out.1.below B4.out) aa.out.2) hL (fun k W=>Zl (ae.out k W) b1.size) (H.out.below af)).mono (fun e w' hd=>hd.after af)
    obtain⟨y0,y1,y2⟩:=Qle T5.out.box
    clear hq f D CC CL E3;go_wp2_with fail
    refine(CM.out _).mono ?_
    rintro e' w5 hd;have F:=Qa hd;rcases hd with ⟨h1,rfl,h3⟩|⟨h1,rfl,h3⟩
    rotate_left
    ·exact⟨Z,F.out⟩
    clear h1 h3 CM;go_wp2
    exact Xz (v:=.tuple #[]) (by simp[results,results243,go_sem]) Z F.out
def Lay.listC {α:Type}(A:Lay α):Lay (List α) where
 size:=1
 In:=fun w O l cs=>(∃ a c,cs=[.slice a l.length c]/\l.length<=c)/\A.list.In w O l cs
 len:=fun h=>A.list.len h.2
 keep:=fun hb hl h=>⟨h.1,A.list.keep hb hl h.2⟩
def Lay.Sub {α:Type}(A B:Lay α):Prop:=A.size=B.size/\∀ {w:World}{O:Nat->Prop}{x:α}{cs:List Value},A.In w O x cs->B.In w O x cs
theorem Lay.Sub.refl {α:Type}(A:Lay α):Lay.Sub A A:=⟨Z,id⟩
theorem Lay.Sub.listC {α:Type}(A:Lay α):Lay.Sub A.listC A.list:=⟨Z,fun h=>h.2⟩
theorem Lay.Sub.pair {α β:Type}{A a:Lay α}{B b:Lay β}(h:Lay.Sub A a) (k:Lay.Sub B b):Lay.Sub (A.pair B) (a.pair b) :=
 ⟨by show A.size+B.size=a.size+b.size;rw[h.1,k.1],fun ⟨c,g,e,d,f⟩=>⟨c,g,e,h.2 d,k.2 f⟩⟩
theorem Lay.Sub.list {α:Type}{A b:Lay α}(h:Lay.Sub A b):Lay.Sub A.list b.list :=
 ⟨Z,fun ⟨a,c,e,k⟩=>⟨a,c,e,fun i x d=>by
  obtain⟨g,o,p,n,m,f,l,j⟩:=k i x d
  exact⟨g,o,p,n,m,f,by rw[<-h.1];exact l,h.2 j⟩⟩⟩
section
open Go.Deep
theorem Lay.Sub.via {α β:Type}{A a:Lay α}(h:Lay.Sub A a) (f:β->α):Lay.Sub (A.via f) (a.via f):=⟨h.1,fun k=>h.2 k⟩
theorem Qy.listC {α:Type}{A:Lay α}{z:α->Prop}(h:P.underlying t=some (.slice e)) (m:P.cellsOf t=1) (C:Qy P e A n z) (F:0<A.size) (f:0<P.bytesOf e):Qy P t A.listC n (fun l=>l.length<1152921504606846976) :=
 ⟨m,fun {H s w k g j o G x} u r E=>by
  obtain⟨l,p,v⟩:=(Qy.list h m C F f).2 u r E
  refine⟨l,⟨?_,p⟩,v⟩
  obtain⟨a,c,e,_⟩:=p
  refine⟨a,c,e,?_⟩
  rcases DataW.trod_slice h r with ⟨b,_⟩|⟨I,D,y,d,i,q,_,b,_,_,B,_⟩
  ·rw[e] at b
   simp at b
   simp[b.2.1]
  ·rw[e] at b
   simp at b
   omega⟩
abbrev intsC:Lay (List Int):=Lay.int.listC
def insC:Lay Qs:=(Lay.int.pair (Lay.int.pair (Lay.int.pair (Lay.int.pair (Lay.int.pair (Lay.int.pair (intsC.pair intsC))))))).via (fun x=>(x.op,x.a,x.b,x.c,x.k,x.n,x.regs,x.args))
def toC:Lay MTo:=(Lay.int.pair (intsC.pair intsC)).via (fun x=>(x.block,x.regs,x.args))
def endC:Lay ZC:=(Lay.int.pair (Lay.int.pair (toC.pair (toC.pair intsC)))).via (fun x=>(x.op,x.a,x.yes,x.no,x.args))
def Qbi (n:Nat):Lay (MBlock n):=(Lay.int.pair ((Qo n).pair (insC.list.pair endC))).via (fun x=>(x.regs,x.params,x.code,x.fin))
def Qfn (n:Nat):Lay (MFunc n):=(Lay.int.pair ((Qo n).pair ((Qo n).pair (Qbi n).list))).via (fun x=>(x.regs,x.params,x.results,x.blocks))
abbrev QjE (n:Nat):Lay (List (MFunc n)):=(Qfn n).list
theorem ints_sub:Lay.Sub intsC intsL:=Lay.Sub.listC _
theorem ins_sub:Lay.Sub insC insL:=.via (.pair (.refl _) (.pair (.refl _) (.pair (.refl _) (.pair (.refl _) (.pair (.refl _) (.pair (.refl _) (.pair ints_sub ints_sub))))))) _
theorem to_sub:Lay.Sub toC toL:=.via (.pair (.refl _) (.pair ints_sub ints_sub)) _
theorem end_sub:Lay.Sub endC endL:=.via (.pair (.refl _) (.pair (.refl _) (.pair to_sub (.pair to_sub ints_sub)))) _
theorem QiX (n:Nat):Lay.Sub (Qbi n) (Zp n):=.via (.pair (.refl _) (.pair (.refl _) (.pair (.list ins_sub) end_sub))) _
theorem Qkb (n:Nat):Lay.Sub (Qfn n) (ZS n):=.via (.pair (.refl _) (.pair (.refl _) (.pair (.refl _) (.list (QiX n))))) _
theorem QfC (n:Nat):Lay.Sub (QjE n) (QaN n):=.list (Qkb n)
section
variable {w:World}{O:Nat->Prop}{cs:List Value}
theorem Qjr {x:Qs}(h:insC.In w O x cs):∃ a c b d,cs=[Iv x.op,Iv x.a,Iv x.b,Iv x.c,Iv x.k,Iv x.n,.slice a x.regs.length c,.slice b x.args.length d]/\intsL.In w O x.regs [.slice a x.regs.length c]/\intsL.In w O x.args [.slice b x.args.length d]/\x.regs.length<=c/\x.args.length<=d:=by
 obtain⟨_,_,rfl,⟨rfl,_⟩,_,_,rfl,⟨rfl,_⟩,_,_,rfl,⟨rfl,_⟩,_,_,rfl,⟨rfl,_⟩,_,_,rfl,⟨rfl,_⟩,_,_,rfl,⟨rfl,_⟩,_,_,rfl,⟨⟨a,c,rfl,g⟩,f⟩,⟨b,d,rfl,e⟩,i⟩:=h
 exact⟨a,c,b,d,Z,f,i,g,e⟩
end
theorem QbE (n:Nat):Qy prog 76 intsC n (fun l=>l.length<1152921504606846976):=Qy.listC underlying76 (by kernel_rfl) (QaU n) (by decide) (by rw[show prog.bytesOf 3=8 from by kernel_rfl];decide)
theorem QiB (n:Nat):Qy prog 78 insC n (fun x=>x.regs.length<1152921504606846976/\x.args.length<1152921504606846976):=by
 have h:=Qy.struct (n:=n) (A:=Lay.int.pair (Lay.int.pair (Lay.int.pair (Lay.int.pair (Lay.int.pair (Lay.int.pair (intsC.pair intsC))))))) underlying78 (by kernel_rfl) (QH.cons Z Z (QaU n) (QH.cons Z Z (QaU n) (QH.cons Z Z (QaU n) (QH.cons Z Z (QaU n) (QH.cons Z Z (QaU n) (QH.cons Z Z (Qma n) (QH.cons Z Z (QbE n) (QH.last Z Z (QbE n)))))))));have e:=h.via (f:=fun x:Qs=>(x.op,x.a,x.b,x.c,x.k,x.n,x.regs,x.args)) (fun d=>⟨d.1,d.2.1,d.2.2.1,d.2.2.2.1,d.2.2.2.2.1,d.2.2.2.2.2.1,d.2.2.2.2.2.2.1,d.2.2.2.2.2.2.2⟩) (fun d=>rfl);exact⟨e.1,fun g l j=>by obtain⟨d,m,i⟩:=e.2 g l j;exact⟨d,m,i.2.2.2.2.2.2⟩⟩
theorem Qgq (n:Nat):Qy prog 82 toC n (fun x=>x.regs.length<1152921504606846976/\x.args.length<1152921504606846976):=by
 have h:=Qy.struct (n:=n) (A:=Lay.int.pair (intsC.pair intsC)) underlying82 (by kernel_rfl) (QH.cons Z Z (QaU n) (QH.cons Z Z (QbE n) (QH.last Z Z (QbE n))));have a:=h.via (f:=fun x:MTo=>(x.block,x.regs,x.args)) (fun d=>⟨d.1,d.2.1,d.2.2⟩) (fun d=>rfl);exact⟨a.1,fun b g e=>by obtain⟨d,i,c⟩:=a.2 b g e;exact⟨d,i,c.2⟩⟩
theorem Qja (n:Nat):Qy prog 84 endC n (fun x=>(x.yes.regs.length<1152921504606846976/\x.yes.args.length<1152921504606846976)/\(x.no.regs.length<1152921504606846976/\x.no.args.length<1152921504606846976)/\x.args.length<1152921504606846976):=by
 have h:=Qy.struct (n:=n) (A:=Lay.int.pair (Lay.int.pair (toC.pair (toC.pair intsC)))) underlying84 (by kernel_rfl) (QH.cons Z Z (QaU n) (QH.cons Z Z (QaU n) (QH.cons Z Z (Qgq n) (QH.cons Z Z (Qgq n) (QH.last Z Z (QbE n))))));have b:=h.via (f:=fun x:ZC=>(x.op,x.a,x.yes,x.no,x.args)) (fun d=>⟨d.1,d.2.1,d.2.2.1,d.2.2.2.1,d.2.2.2.2⟩) (fun d=>rfl);exact⟨b.1,fun c i g=>by obtain⟨d,j,e⟩:=b.2 c i g;exact⟨d,j,e.2.2⟩⟩
theorem Qg2 (n:Nat):Qy prog 79 insC.list n (fun l=>l.length<1152921504606846976):=Qy.list underlying79 (by kernel_rfl) (QiB n) (by decide) (by rw[show prog.bytesOf 78=96 from by kernel_rfl];decide)
theorem QfO (n:Nat):Qy prog 86 (Qbi n) n (fun _=>True):=by
 have h:=Qy.struct (n:=n) (A:=Lay.int.pair ((Qo n).pair (insC.list.pair endC))) underlying86 (by kernel_rfl) (QH.cons Z Z (QaU n) (QH.cons Z Z (Qfw n) (QH.cons Z Z (Qg2 n) (QH.last Z Z (Qja n)))));have a:=h.via (f:=fun x:MBlock n=>(x.regs,x.params,x.code,x.fin)) (fun d=>⟨d.1,d.2.1,d.2.2.1,d.2.2.2⟩) (fun d=>rfl);exact⟨a.1,fun b e c=>by obtain⟨d,g,i⟩:=a.2 b e c;exact⟨d,g,Y⟩⟩
theorem Qfm (n:Nat):Qy prog 87 (Qbi n).list n (fun l=>l.length<1152921504606846976):=Qy.list underlying87 (by kernel_rfl) (QfO n) (by show 0<12;decide) (by rw[show prog.bytesOf 86=208 from by kernel_rfl];decide)
theorem Qg9 (n:Nat):Qy prog 89 (Qfn n) n (fun _=>True):=by
 have h:=Qy.struct (n:=n) (A:=Lay.int.pair ((Qo n).pair ((Qo n).pair (Qbi n).list))) underlying89 (by kernel_rfl) (QH.cons Z Z (QaU n) (QH.cons Z Z (Qfw n) (QH.cons Z Z (Qfw n) (QH.last Z Z (Qfm n)))));have a:=h.via (f:=fun x:MFunc n=>(x.regs,x.params,x.results,x.blocks)) (fun d=>⟨d.1,d.2.1,d.2.2.1,d.2.2.2⟩) (fun d=>rfl);exact⟨a.1,fun b e c=>by obtain⟨d,g,i⟩:=a.2 b e c;exact⟨d,g,Y⟩⟩
theorem QfH (n:Nat):Qy prog 22 (QjE n) n (fun l=>l.length<1152921504606846976):=Qy.list underlying22 (by kernel_rfl) (Qg9 n) (by show 0<4;decide) (by rw[show prog.bytesOf 89=80 from by kernel_rfl];decide)
theorem Qfb (n:Nat):Qy prog 24 (QjE n) n (fun _=>True):=by
 have h:=Qy.struct (n:=n) (A:=QjE n) underlying24 (by kernel_rfl) (QH.last Z Z (QfH n));exact⟨h.1,fun a c b=>by obtain⟨d,e,f⟩:=h.2 a c b;exact⟨d,e,Y⟩⟩
end
abbrev Qel (x:Qs) (rg ag:Option Addr) (rc ac:Nat):Value:=.agg #[Iv x.op,Iv x.a,Iv x.b,Iv x.c,Iv x.k,Iv x.n,.slice rg x.regs.length rc,.slice ag x.args.length ac]
def ZA (x:Qs):Prop:=(-9223372036854775808<=x.a/\x.a<=9223372036854775807)/\(-9223372036854775808<=x.b/\x.b<=9223372036854775807)/\(-9223372036854775808<=x.c/\x.c<=9223372036854775807)
theorem QjQ {x:Qs}(h:insC.In w O x cs):ZA x:=by
 obtain⟨_,_,rfl,⟨rfl,_⟩,_,_,rfl,⟨rfl,f⟩,_,_,rfl,⟨rfl,e⟩,_,_,rfl,⟨rfl,g⟩,_,_,rfl,⟨rfl,_⟩,_,_,rfl,⟨rfl,_⟩,_,_,rfl,⟨⟨a,c,rfl,i⟩,j⟩,⟨b,d,rfl,k⟩,l⟩:=h
 exact⟨f,e,g⟩
noncomputable def JSt.goC (s:JSt) (x:Qs):Int:=Qv (s.makes x).1 (QZ s.L.length (s.makes x).2.length)
theorem Qlx {s:JSt}{x:Qs}(a:x.form s.m.length=0):s.code x=s.goC x:=by
 unfold JSt.code JSt.goC Qv QZ;rw[Xr (by rw[a];simp)]
 by_cases h:(s.makes x).1=0
 ·rw[Xr (by rw[h];simp),Xs h]
 ·rw[Xs h,Xr h]
theorem QbA (h:n<=80):QZ n 0=0:=Xr (by omega)
theorem Qf4 {a:Int}:Qv a 0=a:=by unfold Qv;split<;>simp_all
theorem QO.to {A:Nat->Prop}{s d g:JSt}{c f:Int}{e:Ending}(m:QO w b O A s d c e w') (k:f=c) (l:c=0->g=d):QO w b O A s g f e w':=by
 subst k;rcases m with ⟨a,i,j⟩ | h
 ·exact .inl ⟨a,i,by rw[l a];exact j⟩
 ·exact .inr h
theorem QO.none {A:Nat->Prop}{s c:JSt}{a:Int}(h:SAt w b O A s) (d:Below w.heap.size w w') (e:a=0) (f:c=s):QO w b O A s c a (.returned (.tuple #[])) w':=.inl ⟨e,Z,by rw[f];exact Yh h d⟩
theorem QT {s:JSt}{x:Qs}(a:x.op≠3) (b:x.op≠4):s.next x={ s with L:=s.L++(s.makes x).2 }:=by unfold JSt.next;rw[Xr a,Xr b]
structure Qn3 (w:World) (b:Nat) (O A Q:Nat->Prop) (s:JSt) (c:Array Value) (xr xs:List Int) (rg ag:Option Addr) (rc ac:Nat) (w1:World) (X:Nat):Prop where
 HJ:Hid (JOk s)
 H0:Hid (SAt w b O A s)
 HA0:Hid (∀ k,A k->k<w.heap.size)
 H:Hid (SAt w1 b O A s)
 HR:Hid (intsL.In w1 Q xr [.slice rg xr.length rc])
 HG:Hid (intsL.In w1 Q xs [.slice ag xs.length ac])
 HB:Hid (Below w.heap.size w w1)
 HA:Hid (∀ k,A k->k<w1.heap.size)
 HO:Hid (∀ k,O k->k<w1.heap.size)
 X1:Hid (Blk w1 X c 78)
 HRC:Hid (xr.length<=rc)
theorem Qgo {A:Nat->Prop}{s:JSt}{f:List Int}(j:∀ k,A k->k<w.heap.size) (l:JOk s) (h:SAt w b O A s) (a:intsL.In w Q f [.slice rg f.length rc]) (d:intsL.In w Q xs [.slice ag xs.length ac]) (g:f.length<=rc) (c:Array Value):Qn3 w b O A Q s c f xs rg ag rc ac (w.alloc (.cells c 78)) w.heap.size :=
 have e:=Zd w (.cells c 78);⟨l,h,j,h.below e,Ya a e,Ya d e,e,fun k i=>Zl (j k i) e.size,fun k i=>Zl (j k (h.sub k i)) e.size,Blk.new _ _ _,g⟩
theorem QX {i a g d c e b f:Value}(h:Blk w X #[i,a,g,d,c,e,b,f] t):w.cell? ⟨X,0,none⟩=some i/\w.cell? ⟨X,1,none⟩=some a/\w.cell? ⟨X,2,none⟩=some g/\w.cell? ⟨X,3,none⟩=some d/\w.cell? ⟨X,4,none⟩=some c/\w.cell? ⟨X,5,none⟩=some e/\w.cell? ⟨X,6,none⟩=some b/\w.cell? ⟨X,7,none⟩=some f :=
 ⟨Qb h 0 _ Z,Qb h 1 _ Z,Qb h 2 _ Z,Qb h 3 _ Z,Qb h 4 _ Z,Qb h 5 _ Z,Qb h 6 _ Z,Qb h 7 _ Z⟩
theorem Qlp {A:Nat->Prop}{s:JSt}{x:Qs}(N:∀ k,A k->k<w.heap.size) (z:JOk s) (h:SAt w b O A s) (c:intsL.In w Q x.regs [.slice rg x.regs.length rc]) (a:intsL.In w Q x.args [.slice ag x.args.length ac]) (t:x.regs.length<=rc) (p:ZA x) (E:x.form s.m.length=0) (d:x.op=1) :
 Calls prog 212 #[Pv b 0,Qel x rg ag rc ac] w fun e w'=>QO w b O A s (s.next x) (s.goC x) e w':=by
 have D:=Z0 (s:=s) (.inl d);obtain⟨op,n,f,i,l,g,o,j⟩:=x
 have d:op=1:=d;subst d;have R:=Qa D;obtain⟨K,F,P,-⟩:=Q7 E
 have HF:=Qa (Xh K (Xh F P));obtain⟨I,M,q⟩:=p
 have HI:=Qa (Xh I (Xh M q));have hL:=z.vals;have B:=Qa (Qgo N z h c a t #[Iv 1,Iv n,Iv f,Iv i,Iv l,Iv g,.slice rg o.length rc,.slice ag j.length ac]);clear h N z c a D E K F P I M q t;go_enter func212,ntmps212
 go_upto_region 1 with fail
 generalize w.alloc (.cells #[Iv 1,Iv n,Iv f,Iv i,Iv l,Iv g,.slice rg o.length rc,.slice ag j.length ac] 78)=w1 at B |-;generalize w.heap.size=X at B |-;obtain⟨HJ,H0,T,H,HR,HG,HB,U,HO,V,aa⟩:=B.out
 clear B;obtain⟨x0,x1,x2,x3,x4,-,x6,x7⟩:=QX V.out
 have y:Hid (∀ e r,QO w b O A s { s with L:=s.L++[tInt] } (QZ s.L.length 1) e r->QO w b O A s (s.next ⟨1,n,f,i,l,g,o,j⟩) (s.goC ⟨1,n,f,i,l,g,o,j⟩) e r):=fun e r u=>u.to (by unfold JSt.goC;rw[R.out];rfl) (fun _=>by rw[QT (by simp) (by simp),R.out]);have S:=Qa (QbK hL U.out H.out);go_wp2_with fail
 refine S.out.mono ?_;rintro W r u;have C:Hid (QO w b O A s (s.next ⟨1,n,f,i,l,g,o,j⟩) (s.goC ⟨1,n,f,i,l,g,o,j⟩) W r):=y.out _ _ (u.after HB.out);rcases u with ⟨G,rfl,J⟩|⟨G,rfl,J⟩
 rotate_left
 ·exact⟨Z,C.out⟩
 clear G J S;go_wp2
 exact Xz (v:=.tuple #[]) (by simp[results,results212,go_sem]) Z C.out
theorem Qmg {A:Nat->Prop}{s:JSt}{x:Qs}(N:∀ k,A k->k<w.heap.size) (z:JOk s) (h:SAt w b O A s) (c:intsL.In w Q x.regs [.slice rg x.regs.length rc]) (a:intsL.In w Q x.args [.slice ag x.args.length ac]) (t:x.regs.length<=rc) (p:ZA x) (E:x.form s.m.length=0) (d:x.op=12) :
 Calls prog 212 #[Pv b 0,Qel x rg ag rc ac] w fun e w'=>QO w b O A s (s.next x) (s.goC x) e w':=by
 have D:=Z0 (s:=s) (.inr d);obtain⟨op,n,f,i,l,g,o,j⟩:=x
 have d:op=12:=d;subst d;have R:=Qa D;obtain⟨K,F,P,-⟩:=Q7 E
 have HF:=Qa (Xh K (Xh F P));obtain⟨I,M,q⟩:=p
 have HI:=Qa (Xh I (Xh M q));have hL:=z.vals;have B:=Qa (Qgo N z h c a t #[Iv 12,Iv n,Iv f,Iv i,Iv l,Iv g,.slice rg o.length rc,.slice ag j.length ac]);clear h N z c a D E K F P I M q t;go_enter func212,ntmps212
 go_upto_region 1 with fail
 generalize w.alloc (.cells #[Iv 12,Iv n,Iv f,Iv i,Iv l,Iv g,.slice rg o.length rc,.slice ag j.length ac] 78)=w1 at B |-;generalize w.heap.size=X at B |-;obtain⟨HJ,H0,T,H,HR,HG,HB,U,HO,V,aa⟩:=B.out
 clear B;obtain⟨x0,x1,x2,x3,x4,-,x6,x7⟩:=QX V.out
 have y:Hid (∀ e r,QO w b O A s { s with L:=s.L++[tInt] } (QZ s.L.length 1) e r->QO w b O A s (s.next ⟨12,n,f,i,l,g,o,j⟩) (s.goC ⟨12,n,f,i,l,g,o,j⟩) e r):=fun e r u=>u.to (by unfold JSt.goC;rw[R.out];rfl) (fun _=>by rw[QT (by simp) (by simp),R.out]);have S:=Qa (QbK hL U.out H.out);go_wp2_with fail
 refine S.out.mono ?_;rintro W r u;have C:Hid (QO w b O A s (s.next ⟨12,n,f,i,l,g,o,j⟩) (s.goC ⟨12,n,f,i,l,g,o,j⟩) W r):=y.out _ _ (u.after HB.out);rcases u with ⟨G,rfl,J⟩|⟨G,rfl,J⟩
 rotate_left
 ·exact⟨Z,C.out⟩
 clear G J S;go_wp2
 exact Xz (v:=.tuple #[]) (by simp[results,results212,go_sem]) Z C.out
theorem Qmd {A:Nat->Prop}{s:JSt}{x:Qs}(hA:∀ k,A k->k<w.heap.size) (I:JOk s) (h:SAt w b O A s) (c:intsL.In w Q x.regs [.slice rg x.regs.length rc]) (a:intsL.In w Q x.args [.slice ag x.args.length ac]) (y:x.regs.length<=rc) (r:ZA x) (N:x.form s.m.length=0) (i:x.op=2) :
 Calls prog 212 #[Pv b 0,Qel x rg ag rc ac] w fun e w'=>QO w b O A s (s.next x) (s.goC x) e w':=by
 have M:=QbN (s:=s) i;obtain⟨op,g,f,l,o,j,q,n⟩:=x
 have i:op=2:=i;subst i;have HE:=Qa M;obtain⟨W,P,f3,-⟩:=Q7 N
 have HF:=Qa (Xh W (Xh P f3));obtain⟨U,rb,t⟩:=r
 have T:=Qa (Xh U (Xh rb t));have hL:=I.vals;have B:=Qa (Qgo hA I h c a y #[Iv 2,Iv g,Iv f,Iv l,Iv o,Iv j,.slice rg q.length rc,.slice ag n.length ac]);clear h hA I c a M N W P f3 U rb t y;go_enter func212,ntmps212
 go_upto_region 1 with fail
 generalize w.alloc (.cells #[Iv 2,Iv g,Iv f,Iv l,Iv o,Iv j,.slice rg q.length rc,.slice ag n.length ac] 78)=w1 at B |-;generalize w.heap.size=X at B |-;obtain⟨HJ,H0,aa,H,HR,HG,HB,HA,HO,X1,ad⟩:=B.out
 clear B;obtain⟨x0,x1,x2,x3,x4,-,x6,x7⟩:=QX X1.out
 have EG:Hid (s.goC ⟨2,g,f,l,o,j,q,n⟩=Qv (Qv (s.want g 1 false) (s.want f 1 false)) (QZ s.L.length 1)):=by show _=_;unfold JSt.goC;rw[HE.out];rfl
 have S:=Qa (fun d=>QeH g f T.out.1 T.out.2.1 d hL HO.out H.out);go_wp2_with fail
 refine(S.out _).mono ?_
 rintro e' w2 ⟨hq,C⟩;have z:=Qa (HB.out.trans (C.mono HB.out.size));have H2:=Qa (H.out.below C);have F:=Qa (fun k J=>Zl (HA.out k J) C.size);have ab:=Qa (fun k J=>Zl (HO.out k J) C.size);rcases hq with ⟨p,y2,rfl,hy⟩|⟨p,rfl⟩
 rotate_left
 ·exact⟨Z,QO.bad ((fun p=>by rw[EG.out,Ql p]) p) p (Yh H0.out z.out)⟩
 subst hy;have E:=Qa p;clear p C S;have G:Hid (∀ e u,QO w b O A s { s with L:=s.L++[tInt] } (QZ s.L.length 1) e u->QO w b O A s (s.next ⟨2,g,f,l,o,j,q,n⟩) (s.goC ⟨2,g,f,l,o,j,q,n⟩) e u):=fun e u D=>D.to (by rw[EG.out,Qx E.out]) (fun _=>by rw[QT (by simp) (by simp),HE.out]);have CM:=Qa (QbK hL F.out H2.out);go_wp2_with fail
 refine CM.out.mono ?_;rintro e' u D;have K:Hid (QO w b O A s (s.next ⟨2,g,f,l,o,j,q,n⟩) (s.goC ⟨2,g,f,l,o,j,q,n⟩) e' u):=G.out _ _ (D.after z.out);rcases D with ⟨R,rfl,V⟩|⟨R,rfl,V⟩
 rotate_left
 ·exact⟨Z,K.out⟩
 clear R V CM;go_wp2
 exact Xz (v:=.tuple #[]) (by simp[results,results212,go_sem]) Z K.out
theorem Ql8 {A:Nat->Prop}{s:JSt}{x:Qs}(S:∀ k,A k->k<w.heap.size) (D:JOk s) (h:SAt w b O A s) (d:intsL.In w Q x.regs [.slice rg x.regs.length rc]) (c:intsL.In w Q x.args [.slice ag x.args.length ac]) (y:x.regs.length<=rc) (r:ZA x) (I:x.form s.m.length=0) (f:x.op=3) :
 Calls prog 212 #[Pv b 0,Qel x rg ag rc ac] w fun e w'=>QO w b O A s (s.next x) (s.goC x) e w':=by
 have G:=QbB (s:=s) f;obtain⟨op,p,i,l,o,j,q,n⟩:=x
 have f:op=3:=f;subst f;have U:=Qa G;obtain⟨P,J,T,-⟩:=Q7 I
 have HF:=Qa (Xh P (Xh J T));obtain⟨M,R,t⟩:=r
 have HI:=Qa (Xh M (Xh R t));have hL:=D.vals;have B:=Qa (Qgo S D h d c y #[Iv 3,Iv p,Iv i,Iv l,Iv o,Iv j,.slice rg q.length rc,.slice ag n.length ac]);clear h S D d c G I P J T M R t y;go_enter func212,ntmps212
 go_upto_region 1 with fail
 generalize w.alloc (.cells #[Iv 3,Iv p,Iv i,Iv l,Iv o,Iv j,.slice rg q.length rc,.slice ag n.length ac] 78)=w1 at B |-;generalize w.heap.size=X at B |-;obtain⟨W,H0,aa,H,HR,HG,HB,HA,HO,X1,ab⟩:=B.out
 clear B;obtain⟨x0,x1,x2,x3,x4,-,x6,x7⟩:=QX X1.out
 have C:Hid (∀ e u,QO w b O A s s.openS s.openC e u->QO w b O A s (s.next ⟨3,p,i,l,o,j,q,n⟩) (s.goC ⟨3,p,i,l,o,j,q,n⟩) e u):=fun e u z=>z.to (by
  unfold JSt.goC;rw[U.out]
  by_cases a:s.H.length=16
  ·rw[Xs a]
   show Qv 2 _=s.openC;unfold JSt.openC;rw[Xs (Or.inr a)];rfl
  ·rw[Xr a]
   show Qv 0 (QZ s.L.length 1)=s.openC;rw[Qx Z]
   unfold QZ JSt.openC;by_cases g:80<s.L.length+1
   ·rw[Xs g,Xs (Or.inl g)]
   ·rw[Xr g,Xr (by omega)]) (fun E=>by
  unfold JSt.openC at E;unfold JSt.next JSt.openS
  rw[U.out]
  by_cases a:s.H.length=16
  ·rw[Xs (Or.inr a)] at E;cases E
  ·rw[Xr a];rfl)
 have V:=Qa (QjG W.out.regs hL HA.out H.out);go_wp2_with fail
 refine V.out.mono ?_;rintro e' u z;have F:Hid (QO w b O A s (s.next ⟨3,p,i,l,o,j,q,n⟩) (s.goC ⟨3,p,i,l,o,j,q,n⟩) e' u):=C.out _ _ (z.after HB.out);rcases z with ⟨K,rfl,N⟩|⟨K,rfl,N⟩
 rotate_left
 ·exact⟨Z,F.out⟩
 clear K N V;go_wp2
 exact Xz (v:=.tuple #[]) (by simp[results,results212,go_sem]) Z F.out
theorem QkI {A:Nat->Prop}{s:JSt}{x:Qs}(S:∀ k,A k->k<w.heap.size) (E:JOk s) (h:SAt w b O A s) (d:intsL.In w Q x.regs [.slice rg x.regs.length rc]) (c:intsL.In w Q x.args [.slice ag x.args.length ac]) (z:x.regs.length<=rc) (q:ZA x) (I:x.form s.m.length=0) (g:x.op=4) :
 Calls prog 212 #[Pv b 0,Qel x rg ag rc ac] w fun e w'=>QO w b O A s (s.next x) (s.goC x) e w':=by
 have G:=Qat (s:=s) g;obtain⟨op,a,i,l,o,j,p,n⟩:=x
 have g:op=4:=g;subst g;have V:=Qa G;obtain⟨P,J,U,-⟩:=Q7 I
 have HF:=Qa (Xh P (Xh J U));obtain⟨M,R,u⟩:=q
 have HI:=Qa (Xh M (Xh R u));have T:=E.vals;have B:=Qa (Qgo S E h d c z #[Iv 4,Iv a,Iv i,Iv l,Iv o,Iv j,.slice rg p.length rc,.slice ag n.length ac]);clear h S E d c G I P J U M R u z;go_enter func212,ntmps212
 go_upto_region 1 with fail
 generalize w.alloc (.cells #[Iv 4,Iv a,Iv i,Iv l,Iv o,Iv j,.slice rg p.length rc,.slice ag n.length ac] 78)=w1 at B |-;generalize w.heap.size=X at B |-;obtain⟨HJ,H0,aa,H,HR,HG,HB,HA,HO,X1,ab⟩:=B.out
 clear B;obtain⟨x0,x1,x2,x3,x4,-,x6,x7⟩:=QX X1.out
 have D:Hid (∀ e y,QO w b O A s (s.freeS a) (s.freeC a) e y->QO w b O A s (s.next ⟨4,a,i,l,o,j,p,n⟩) (s.goC ⟨4,a,i,l,o,j,p,n⟩) e y):=fun e y C=>C.to (by
  unfold JSt.goC JSt.freeC;rw[V.out]
  show Qv (match s.at a with | none=>(1,[]) | some t=>(Qv (s.want a 2 true) (if t.r<s.f.regs then 11 else 0),[])).1 _=_
  cases s.at a with
  | none=>rfl
  | some t=>show Qv _ (QZ s.L.length 0)=_;rw[QbA T,Qf4]) (fun h0=>by
  unfold JSt.next JSt.freeS
  rw[V.out]
  show ({ s with H:=_,L:=s.L++(match s.at a with | none=>(1,[]) | some t=>(Qv (s.want a 2 true) (if t.r<s.f.regs then 11 else 0),[])).2 }:JSt)=_
  cases s.at a with
  | none=>simp
  | some t=>simp)
 have W:=Qa (Qi6 a T HA.out H.out);go_wp2_with fail
 refine W.out.mono ?_;rintro e' y C;have F:Hid (QO w b O A s (s.next ⟨4,a,i,l,o,j,p,n⟩) (s.goC ⟨4,a,i,l,o,j,p,n⟩) e' y):=D.out _ _ (C.after HB.out);rcases C with ⟨K,rfl,N⟩|⟨K,rfl,N⟩
 rotate_left
 ·exact⟨Z,F.out⟩
 clear K N W;go_wp2
 exact Xz (v:=.tuple #[]) (by simp[results,results212,go_sem]) Z F.out
theorem Qjt {A:Nat->Prop}{s:JSt}{x:Qs}(V:∀ k,A k->k<w.heap.size) (J:JOk s) (h:SAt w b O A s) (d:intsL.In w Q x.regs [.slice rg x.regs.length rc]) (c:intsL.In w Q x.args [.slice ag x.args.length ac]) (F:x.regs.length<=rc) (C:ZA x) (M:x.form s.m.length=0) (j:x.op=5) :
 Calls prog 212 #[Pv b 0,Qel x rg ag rc ac] w fun e w'=>QO w b O A s (s.next x) (s.goC x) e w':=by
 have L:=Qbo (s:=s) j;obtain⟨op,a,p,u,y,q,z,g⟩:=x
 have j:op=5:=j;subst j;have HE:=Qa L;obtain⟨T,N,W,-⟩:=Q7 M
 have HF:=Qa (Xh T (Xh N W));obtain⟨R,U,D⟩:=C
 have HI:=Qa (Xh R (Xh U D));have hL:=J.vals;have B:=Qa (Qgo V J h d c F #[Iv 5,Iv a,Iv p,Iv u,Iv y,Iv q,.slice rg z.length rc,.slice ag g.length ac]);clear h V J d c L M T N W R U D F;go_enter func212,ntmps212
 go_upto_region 1 with fail
 generalize w.alloc (.cells #[Iv 5,Iv a,Iv p,Iv u,Iv y,Iv q,.slice rg z.length rc,.slice ag g.length ac] 78)=w1 at B |-;generalize w.heap.size=X at B |-;obtain⟨HJ,H0,aa,H,HR,HG,HB,HA,HO,X1,ab⟩:=B.out
 clear B;obtain⟨x0,x1,x2,x3,x4,-,x6,x7⟩:=QX X1.out
 have I:Hid (∀ e E,QO w b O A s (s.tupleS a g) (s.tupleC a g) e E->QO w b O A s (s.next ⟨5,a,p,u,y,q,z,g⟩) (s.goC ⟨5,a,p,u,y,q,z,g⟩) e E):=fun e E G=>G.to (by
  unfold JSt.goC JSt.tupleC;rw[HE.out]
  simp only
  cases ha:s.at a with
  | none=>unfold JSt.want;rw[ha];rfl
  | some t =>
    simp only
    by_cases i:s.want a 2 true=0
    ·rw[Xs i,Qx i]
     cases s.fields g with
     | none=>rfl
     | some l =>
       simp only
       by_cases o:4<TT.height (n:=7) (mkT 3 t.r l)
       ·rw[Xs o,Xs o];rfl
       ·rw[Xr o,Xr o];rfl
    ·rw[Xr i,Ql i,Ql i]) (fun f=>by
  rw[QT (by simp) (by simp),HE.out]
  unfold JSt.tupleC at f;unfold JSt.tupleS;simp only
  cases ha:s.at a with
  | none=>rfl
  | some t =>
    rw[ha] at f
    simp only at f |-
    by_cases i:s.want a 2 true=0
    ·rw[Qx i] at f
     rw[Xs i]
     cases hl:s.fields g with
     | none=>simp[hl] at f
     | some l =>
       rw[hl] at f
       simp only at f |-
       by_cases o:4<TT.height (n:=7) (mkT 3 t.r l)
       ·rw[Xs o] at f;cases f
       ·rw[Xr o]
    ·rw[Ql i] at f;exact absurd f i)
 have CM:=Qa (Qha a Z (HF.out.2.2 Z) HG.out HJ.out HA.out H.out);go_wp2_with fail
 refine CM.out.mono ?_;rintro e' E G;have K:Hid (QO w b O A s (s.next ⟨5,a,p,u,y,q,z,g⟩) (s.goC ⟨5,a,p,u,y,q,z,g⟩) e' E):=I.out _ _ (G.after HB.out);rcases G with ⟨P,rfl,S⟩|⟨P,rfl,S⟩
 rotate_left
 ·exact⟨Z,K.out⟩
 clear P S CM;go_wp2
 exact Xz (v:=.tuple #[]) (by simp[results,results212,go_sem]) Z K.out
theorem QhT {A:Nat->Prop}{s:JSt}{x:Qs}(T:∀ k,A k->k<w.heap.size) (E:JOk s) (h:SAt w b O A s) (d:intsL.In w Q x.regs [.slice rg x.regs.length rc]) (c:intsL.In w Q x.args [.slice ag x.args.length ac]) (z:x.regs.length<=rc) (q:ZA x) (J:x.form s.m.length=0) (f:x.op=8) :
 Calls prog 212 #[Pv b 0,Qel x rg ag rc ac] w fun e w'=>QO w b O A s (s.next x) (s.goC x) e w':=by
 have I:=Qbv (s:=s) f;obtain⟨op,a,g,l,o,j,p,n⟩:=x
 have f:op=8:=f;subst f;have F:=Qa I;obtain⟨R,K,U,-⟩:=Q7 J
 have HF:=Qa (Xh R (Xh K U));obtain⟨N,S,u⟩:=q
 have W:=Qa (Xh N (Xh S u));have hL:=E.vals;have B:=Qa (Qgo T E h d c z #[Iv 8,Iv a,Iv g,Iv l,Iv o,Iv j,.slice rg p.length rc,.slice ag n.length ac]);clear h T E d c I J R K U N S u z;go_enter func212,ntmps212
 go_upto_region 1 with fail
 generalize w.alloc (.cells #[Iv 8,Iv a,Iv g,Iv l,Iv o,Iv j,.slice rg p.length rc,.slice ag n.length ac] 78)=w1 at B |-;generalize w.heap.size=X at B |-;obtain⟨HJ,H0,aa,H,HR,HG,HB,HA,HO,X1,ab⟩:=B.out
 clear B;obtain⟨x0,x1,x2,x3,x4,-,x6,x7⟩:=QX X1.out
 have D:Hid (∀ e y,(∀ t,(s.at a=some t\/(s.at a=none/\t=tInt))->QO w b O A s { s with L:=s.L++[mkT 4 t.r []] } (s.arrayC a g) e y)->QO w b O A s (s.next ⟨8,a,g,l,o,j,p,n⟩) (s.goC ⟨8,a,g,l,o,j,p,n⟩) e y):=fun e y i=>by
  cases ha:s.at a with
  | none =>
    refine(i tInt (.inr ⟨ha,Z⟩)).to (by unfold JSt.goC JSt.arrayC;rw[F.out];simp only[ha];unfold JSt.want;rw[ha];rfl) (fun C=>?_)
    unfold JSt.arrayC JSt.want at C;rw[ha] at C
    cases C
  | some t =>
    refine(i t (.inl ha)).to (by unfold JSt.goC JSt.arrayC;rw[F.out];simp only[ha];rfl) (fun C=>?_)
    rw[QT (by simp) (by simp),F.out]
    simp only[ha]
 have V:=Qa (Qhk a g W.out.2.1 HJ.out.regs hL HA.out H.out);go_wp2_with fail
 refine V.out.mono ?_;rintro e' y i;have G:Hid (QO w b O A s (s.next ⟨8,a,g,l,o,j,p,n⟩) (s.goC ⟨8,a,g,l,o,j,p,n⟩) e' y):=D.out _ _ (fun t ht=>(i t ht).after HB.out);have i:=i ((s.at a).getD tInt) (by cases s.at a with | none=>exact .inr ⟨Z,Z⟩ | some t=>exact .inl Z);rcases i with ⟨M,rfl,P⟩|⟨M,rfl,P⟩
 rotate_left
 ·exact⟨Z,G.out⟩
 clear M P V;go_wp2
 exact Xz (v:=.tuple #[]) (by simp[results,results212,go_sem]) Z G.out
theorem QjY {A:Nat->Prop}{s:JSt}{x:Qs}(hA:∀ k,A k->k<w.heap.size) (U:JOk s) (h:SAt w b O A s) (f:intsL.In w Q x.regs [.slice rg x.regs.length rc]) (c:intsL.In w Q x.args [.slice ag x.args.length ac]) (G:x.regs.length<=rc) (z:ZA x) (hf:x.form s.m.length=0) (j:x.op=9) :
 Calls prog 212 #[Pv b 0,Qel x rg ag rc ac] w fun e w'=>QO w b O A s (s.next x) (s.goC x) e w':=by
 have hE:=Qa3 (s:=s) j;obtain⟨op,i,g,n,p,l,r,o⟩:=x
 have j:op=9:=j;subst j;have HE:=Qa hE;obtain⟨f1,f2,f3,-⟩:=Q7 hf
 have HF:=Qa (Xh f1 (Xh f2 f3));obtain⟨ra,rb,C⟩:=z
 have HI:=Qa (Xh ra (Xh rb C));have T:=U.vals;have B:=Qa (Qgo hA U h f c G #[Iv 9,Iv i,Iv g,Iv n,Iv p,Iv l,.slice rg r.length rc,.slice ag o.length ac]);clear h hA U f c hE hf f1 f2 f3 ra rb C G;go_enter func212,ntmps212
 go_upto_region 1 with fail
 generalize w.alloc (.cells #[Iv 9,Iv i,Iv g,Iv n,Iv p,Iv l,.slice rg r.length rc,.slice ag o.length ac] 78)=w1 at B |-;generalize w.heap.size=X at B |-;obtain⟨HJ,H0,aa,H,HR,HG,HB,HA,HO,X1,ad⟩:=B.out
 clear B;obtain⟨x0,x1,x2,x3,x4,-,x6,x7⟩:=QX X1.out
 have V:Hid (s.goC ⟨9,i,g,n,p,l,r,o⟩=Qv (Qv (s.want i 4 true) (s.want g 1 false)) (QZ s.L.length 1)):=by show _=_;unfold JSt.goC;rw[HE.out];rfl
 have C1:=Qa (Qaa i 4 T HO.out H.out);go_wp2_with fail
 refine(C1.out ).mono ?_
 rintro N w2 ⟨M,u⟩;have q:=Qa (HB.out.trans (u.mono HB.out.size));have H2:=Qa (H.out.below u);have K:=Qa (fun k t=>Zl (HA.out k t) u.size);have F:=Qa (fun k t=>Zl (HO.out k t) u.size);rcases M with ⟨a,y2,rfl,hy⟩|⟨a,rfl⟩
 rotate_left
 ·exact⟨Z,QO.bad ((fun a=>by rw[V.out,Ql (by rw[Ql a];exact a),Ql a]) a) a (Yh H0.out q.out)⟩
 have y:=Qa a;have x2:=Qk x2 u;clear a u C1;have C2:=Qa (fun d=>QbL g HI.out.2.1 d T F.out H2.out);go_wp2_with fail
 refine(C2.out _).mono ?_
 rintro N w3 ⟨M,D⟩;have I:=Qa (q.out.trans (D.mono q.out.size));have H3:=Qa (H2.out.below D);have R:=Qa (fun k t=>Zl (K.out k t) D.size);have ab:=Qa (fun k t=>Zl (F.out k t) D.size);rcases M with ⟨a,y3,rfl,hy⟩|⟨a,rfl⟩
 rotate_left
 ·exact⟨Z,QO.bad ((fun a=>by rw[V.out,Qx y.out,Ql a]) a) a (Yh H0.out I.out)⟩
 subst hy;have S:=Qa a;clear a D C2;have P:Hid (∀ e E,QO w b O A s { s with L:=s.L++[tInt] } (QZ s.L.length 1) e E->QO w b O A s (s.next ⟨9,i,g,n,p,l,r,o⟩) (s.goC ⟨9,i,g,n,p,l,r,o⟩) e E):=fun e E J=>J.to (by rw[V.out,Qx y.out,Qx S.out]) (fun _=>by rw[QT (by simp) (by simp),HE.out]);have CM:=Qa (QbK T R.out H3.out);go_wp2_with fail
 refine CM.out.mono ?_;rintro N E J;have W:Hid (QO w b O A s (s.next ⟨9,i,g,n,p,l,r,o⟩) (s.goC ⟨9,i,g,n,p,l,r,o⟩) N E):=P.out _ _ (J.after I.out);rcases J with ⟨h1,rfl,h3⟩|⟨h1,rfl,h3⟩
 rotate_left
 ·exact⟨Z,W.out⟩
 clear h1 h3 CM;go_wp2
 exact Xz (v:=.tuple #[]) (by simp[results,results212,go_sem]) Z W.out
theorem Qjk {A:Nat->Prop}{s:JSt}{x:Qs}(hA:∀ k,A k->k<w.heap.size) (P:JOk s) (h:SAt w b O A s) (f:intsL.In w Q x.regs [.slice rg x.regs.length rc]) (c:intsL.In w Q x.args [.slice ag x.args.length ac]) (D:x.regs.length<=rc) (r:ZA x) (T:x.form s.m.length=0) (g:x.op=10) :
 Calls prog 212 #[Pv b 0,Qel x rg ag rc ac] w fun e w'=>QO w b O A s (s.next x) (s.goC x) e w':=by
 have S:=QaJ (s:=s) g;obtain⟨op,n,i,j,F,u,G,z⟩:=x
 have g:op=10:=g;subst g;have HE:=Qa S;obtain⟨f1,U,f3,-⟩:=Q7 T
 have HF:=Qa (Xh f1 (Xh U f3));obtain⟨ra,rb,t⟩:=r
 have W:=Qa (Xh ra (Xh rb t));have N:=P.vals;have B:=Qa (Qgo hA P h f c D #[Iv 10,Iv n,Iv i,Iv j,Iv F,Iv u,.slice rg G.length rc,.slice ag z.length ac]);clear h hA P f c S T f1 U f3 ra rb t D;go_enter func212,ntmps212
 go_upto_region 1 with fail
 generalize w.alloc (.cells #[Iv 10,Iv n,Iv i,Iv j,Iv F,Iv u,.slice rg G.length rc,.slice ag z.length ac] 78)=w1 at B |-;generalize w.heap.size=X at B |-;obtain⟨HJ,J,aa,H,HR,HG,HB,HA,HO,X1,ae⟩:=B.out
 clear B;obtain⟨x0,x1,x2,x3,x4,-,x6,x7⟩:=QX X1.out
 have R:Hid (s.goC ⟨10,n,i,j,F,u,G,z⟩=Qv (s.want n 4 true) (Qv (s.want i 1 false) (s.want j 1 false))):=by show _=_;unfold JSt.goC;rw[HE.out];show Qv _ (QZ s.L.length 0)=_;rw[QbA N,Qf4]
 have V:=Qa (Qaa n 4 N HO.out H.out);go_wp2_with fail
 refine(V.out ).mono ?_
 rintro e' w2 ⟨K,o⟩;have l:=Qa (HB.out.trans (o.mono HB.out.size));have H2:=Qa (H.out.below o);have I:=Qa (fun k p=>Zl (HA.out k p) o.size);have C:=Qa (fun k p=>Zl (HO.out k p) o.size);rcases K with ⟨a,y2,rfl,hy⟩|⟨a,rfl⟩
 rotate_left
 ·exact⟨Z,QO.bad ((fun a=>by rw[R.out,Ql a]) a) a (Yh J.out l.out)⟩
 have q:=Qa a;have x2:=Qk x2 o;have x3:=Qk x3 o;clear a o V;have C2:=Qa (fun d=>QeH i j W.out.2.1 W.out.2.2 d N C.out H2.out);go_wp2_with fail
 refine(C2.out _).mono ?_
 rintro e' w3 ⟨K,y⟩;have E:=Qa (l.out.trans (y.mono l.out.size));have H3:=Qa (H2.out.below y);have ad:=Qa (fun k p=>Zl (I.out k p) y.size);have ab:=Qa (fun k p=>Zl (C.out k p) y.size);rcases K with ⟨a,y3,rfl,hy⟩|⟨a,rfl⟩
 rotate_left
 ·exact⟨Z,QO.bad ((fun a=>by rw[R.out,Qx q.out]) a) a (Yh J.out E.out)⟩
 subst hy;have M:=Qa a;clear a y C2;have FF:Hid (QO w b O A s (s.next ⟨10,n,i,j,F,u,G,z⟩) (s.goC ⟨10,n,i,j,F,u,G,z⟩) (.returned (.tuple #[])) w3):=QO.none J.out E.out (by rw[R.out,Qx q.out,M.out]) (by rw[QT (by simp) (by simp),HE.out];simp);go_wp2
 exact Xz (v:=.tuple #[]) (by simp[results,results212,go_sem]) Z FF.out
theorem QlA {A:Nat->Prop}{s:JSt}{x:Qs}(hA:∀ k,A k->k<w.heap.size) (G:JOk s) (h:SAt w b O A s) (c:intsL.In w Q x.regs [.slice rg x.regs.length rc]) (a:intsL.In w Q x.args [.slice ag x.args.length ac]) (u:x.regs.length<=rc) (q:ZA x) (M:x.form s.m.length=0) (f:x.op=11) :
 Calls prog 212 #[Pv b 0,Qel x rg ag rc ac] w fun e w'=>QO w b O A s (s.next x) (s.goC x) e w':=by
 have K:=QbJ (s:=s) f;obtain⟨op,d,i,j,n,g,p,l⟩:=x
 have f:op=11:=f;subst f;have HE:=Qa K;obtain⟨U,N,f3,-⟩:=Q7 M
 have HF:=Qa (Xh U (Xh N f3));obtain⟨S,W,r⟩:=q
 have HI:=Qa (Xh S (Xh W r));have hL:=G.vals;have B:=Qa (Qgo hA G h c a u #[Iv 11,Iv d,Iv i,Iv j,Iv n,Iv g,.slice rg p.length rc,.slice ag l.length ac]);clear h hA G c a K M U N f3 S W r u;go_enter func212,ntmps212
 go_upto_region 1 with fail
 generalize w.alloc (.cells #[Iv 11,Iv d,Iv i,Iv j,Iv n,Iv g,.slice rg p.length rc,.slice ag l.length ac] 78)=w1 at B |-;generalize w.heap.size=X at B |-;obtain⟨HJ,H0,aa,H,HR,HG,HB,HA,HO,X1,ad⟩:=B.out
 clear B;obtain⟨x0,x1,x2,x3,x4,-,x6,x7⟩:=QX X1.out
 have EG:Hid (s.goC ⟨11,d,i,j,n,g,p,l⟩=Qv (s.want d 4 true) (QZ s.L.length 1)):=by show _=_;unfold JSt.goC;rw[HE.out];rfl
 have R:=Qa (Qaa d 4 hL HO.out H.out);go_wp2_with fail
 refine(R.out ).mono ?_
 rintro V w2 ⟨hq,z⟩;have y:=Qa (HB.out.trans (z.mono HB.out.size));have H2:=Qa (H.out.below z);have E:=Qa (fun k I=>Zl (HA.out k I) z.size);have ab:=Qa (fun k I=>Zl (HO.out k I) z.size);rcases hq with ⟨o,y2,rfl,hy⟩|⟨o,rfl⟩
 rotate_left
 ·exact⟨Z,QO.bad ((fun o=>by rw[EG.out,Ql o]) o) o (Yh H0.out y.out)⟩
 have D:=Qa o;clear o z R;have F:Hid (∀ e t,QO w b O A s { s with L:=s.L++[tInt] } (QZ s.L.length 1) e t->QO w b O A s (s.next ⟨11,d,i,j,n,g,p,l⟩) (s.goC ⟨11,d,i,j,n,g,p,l⟩) e t):=fun e t C=>C.to (by rw[EG.out,Qx D.out]) (fun _=>by rw[QT (by simp) (by simp),HE.out]);have CM:=Qa (QbK hL E.out H2.out);go_wp2_with fail
 refine CM.out.mono ?_;rintro V t C;have J:Hid (QO w b O A s (s.next ⟨11,d,i,j,n,g,p,l⟩) (s.goC ⟨11,d,i,j,n,g,p,l⟩) V t):=F.out _ _ (C.after y.out);rcases C with ⟨P,rfl,T⟩|⟨P,rfl,T⟩
 rotate_left
 ·exact⟨Z,J.out⟩
 clear P T CM;go_wp2
 exact Xz (v:=.tuple #[]) (by simp[results,results212,go_sem]) Z J.out
theorem Qlz {A:Nat->Prop}{s:JSt}{x:Qs}(R:∀ k,A k->k<w.heap.size) (D:JOk s) (h:SAt w b O A s) (c:intsL.In w Q x.regs [.slice rg x.regs.length rc]) (a:intsL.In w Q x.args [.slice ag x.args.length ac]) (r:x.regs.length<=rc) (j:ZA x) (G:x.form s.m.length=0) (f:x.op=13) :
 Calls prog 212 #[Pv b 0,Qel x rg ag rc ac] w fun e w'=>QO w b O A s (s.next x) (s.goC x) e w':=by
 have F:=Qbz (s:=s) f;obtain⟨op,g,n,p,t,o,z,q⟩:=x
 have f:op=13:=f;subst f;have HE:=Qa F;obtain⟨N,I,V,-⟩:=Q7 G
 have HF:=Qa (Xh N (Xh I V));obtain⟨M,P,l⟩:=j
 have HI:=Qa (Xh M (Xh P l));have U:=D.vals;have B:=Qa (Qgo R D h c a r #[Iv 13,Iv g,Iv n,Iv p,Iv t,Iv o,.slice rg z.length rc,.slice ag q.length ac]);clear h R D c a F G N I V M P l r;go_enter func212,ntmps212
 go_upto_region 1 with fail
 generalize w.alloc (.cells #[Iv 13,Iv g,Iv n,Iv p,Iv t,Iv o,.slice rg z.length rc,.slice ag q.length ac] 78)=w1 at B |-;generalize w.heap.size=X at B |-;obtain⟨HJ,K,ab,H,HR,HG,S,HA,T,X1,ae⟩:=B.out
 clear B;obtain⟨x0,x1,x2,x3,x4,-,x6,x7⟩:=QX X1.out
 have W:Hid (s.goC ⟨13,g,n,p,t,o,z,q⟩=s.want g 1 false):=by show _=_;unfold JSt.goC;rw[HE.out];show Qv _ (QZ s.L.length 0)=_;rw[QbA U,Qf4]
 have J:=Qa (fun d=>QbL g HI.out.1 d U T.out H.out);go_wp2_with fail
 refine(J.out _).mono ?_
 rintro e' w2 ⟨hq,y⟩;have u:=Qa (S.out.trans (y.mono S.out.size));have H2:=Qa (H.out.below y);have aa:=Qa (fun k E=>Zl (HA.out k E) y.size);have ad:=Qa (fun k E=>Zl (T.out k E) y.size);rcases hq with ⟨i,y2,rfl,hy⟩|⟨i,rfl⟩
 rotate_left
 ·exact⟨Z,QO.bad ((fun i=>by rw[W.out]) i) i (Yh K.out u.out)⟩
 subst hy;have C:=Qa i;clear i y J;have FF:Hid (QO w b O A s (s.next ⟨13,g,n,p,t,o,z,q⟩) (s.goC ⟨13,g,n,p,t,o,z,q⟩) (.returned (.tuple #[])) w2):=QO.none K.out u.out (by rw[W.out,C.out]) (by rw[QT (by simp) (by simp),HE.out];simp);go_wp2
 exact Xz (v:=.tuple #[]) (by simp[results,results212,go_sem]) Z FF.out
def JSt.fieldC (s:JSt) (a:Int) (k:Nat):Int:=Qv (s.want a 3 true) (match s.at a with | none=>0 | some t=>if k<t.2.2.length then 0 else 9)
def QnR (w:World) (A:Nat->Prop) (s:JSt) (a:Int) (k:Nat) (x:Value):Prop:=∃ (t:TT 6) (u:TT 5) (p:Option Addr) (c:Nat),s.at a=some t/\t.2.2[k]?=some u/\x=Tv u p c/\TIn w (fun g=>¬ A g) u p
theorem Qdb {s:JSt}{a:Int}(h:s.want a 3 true≠0):s.fieldC a k=s.want a 3 true:=by unfold JSt.fieldC Qv;rw[Xr h]
theorem QjF {s:JSt}{a:Int}{t:TT 6}(h:s.want a 3 true=0) (b:s.at a=some t):s.fieldC a k=if k<t.2.2.length then 0 else 9:=by unfold JSt.fieldC Qv;rw[Xs h,b]
theorem QdE {A:Nat->Prop}{s:JSt}(a:Int) (k:Nat) (P:k<=100) (hL:s.L.length<=80) (C:∀ k,O k->k<w.heap.size) (h:SAt w b O A s) :
 Calls prog 245 #[Pv b 0,Iv a,Iv k] w fun e w'=>ZG (s.fieldC a k) (QnR w' A s a k) e/\Below w.heap.size w w':=by
 have S:=Zd w (.cells #[Iv 0,Iv 0,Nv] 105);have T:=Qa (h.more C S);have y:=Qa S;have F:Hid (Blk (w.alloc (.cells #[Iv 0,Iv 0,Nv] 105)) w.heap.size #[Iv 0,Iv 0,Nv] 105):=Blk.new _ _ _;have HO:=Qa C;clear h S C;go_enter func245,ntmps245
 go_upto_region 1 with fail
 generalize w.alloc (.cells #[Iv 0,Iv 0,Nv] 105)=w1 at T y F |-;obtain⟨R,I⟩:∃ R,w.heap.size=R:=⟨_,Z⟩
 have HR:=Qa (Nat.le_of_eq I);rw[I] at F |-
 clear I;go_wp2_with fail
 refine(Qaa a 3 hL (fun k hk=>Zl (HO.out k hk) y.out.size) T.out).mono ?_
 rintro e' M ⟨C,W⟩;have B2:Hid (Below w.heap.size w M):=y.out.trans (W.mono y.out.size);have X2:=Qa (F.out.below W);rcases C with ⟨m,x,rfl,t,p,c,U,rfl,ht,N⟩|⟨m,rfl⟩
 rotate_left
 ·exact⟨Z,.inr ⟨by rw[Qdb m];exact m,by rw[Qdb m]⟩,B2.out⟩
 have f:=Qa (QhC.mk1 (c:=c) B2.out X2.out HR.out ht);have HA:=Qa U;have E:=Qa (QjF (k:=k) m U);clear ht U N W F y T X2 m;go_upto_region 2 with fail
 generalize M.alloc (.cells #[Iv t.kind,Iv t.r,.slice p t.len c] 105)=w3 at f |-;generalize M.heap.size=B at f |-;obtain⟨y0,y1,y2,r0,r1,r2,z0,z1,z2⟩:=f.out.cells
 have ad:=f.out.ne;have D:Hid (t.len=t.2.2.length):=TT.len_eq t;by_cases i:k<t.2.2.length
 rotate_left
 ·have Q:Hid (s.fieldC a k=9):=by show _=_;rw[E.out,Xr i]
  have j:¬ (k:Int)<t.len:=by rw[D.out];omega
  clear i;generalize t.len=tl at y2 j;go_wp2_with fail
  refine(Zj _ 9).mono ?_
  rintro e' w' ⟨rfl,z⟩;subst z;exact⟨Z,ZG.bad Q.out (by decide),f.out.bel⟩
 ·have Q:Hid (s.fieldC a k=0):=by show _=_;rw[E.out,Xs i]
  have j:(k:Int)<t.len:=by rw[D.out];omega
  have K:Hid (t.2.2[k]?=some t.2.2[k]):=Zg i;generalize t.2.2[k]=u at K;obtain⟨g,o,n,H,rfl,J,u0,u1,u2,ut⟩:=f.out.lay k u K.out
  have UT:Hid (TIn w3 (fun g=>¬ (A g\/w.heap.size<=g)) u n):=ut;have ac:¬ R=g:=fun e=>by subst e;exact J (.inr f.out.farR)
  have aa:¬ B=g:=fun e=>by subst e;exact J (.inr f.out.farB)
  clear ut i J;obtain⟨x9,X⟩:=QnS (k:=u.kind) (r:=u.r) (q:=n) (l:=u.len) (d:=H) f.out.bel f.out.res f.out.farR
  have G:=Qa x9;have V:=Qa X;clear x9 X;generalize ab:t.len=tl at y2 j;go_wp2_with (go_at_call 268;refine(Zh _ _).mono ?_;rintro e' w' ⟨rfl,z⟩;have z:=z.symm;subst z)
  generalize ((w3.setCell ⟨R,0,none⟩ (Iv u.kind)).setCell ⟨R,1,none⟩ (Iv u.r)).setCell ⟨R,2,none⟩ (.slice n u.len H)=w9 at G V |-;have x0:=Qb G.out 0 _ Z;have x1:=Qb G.out 1 _ Z;have x2:=Qb G.out 2 _ Z;exact Xy (v:=Tv u n H) (by simp[results,results245,go_sem,x0,x1,x2]) Z ⟨ZG.good Q.out ⟨t,u,n,H,HA.out,K.out,Z,(UT.out.over f.out.bel V.out).less⟩,V.out⟩
theorem Qhr (x:Int) (t:l.length=N) (E:N<=100000) (B:intsL.In w Q l [.slice p N c]) :
 Calls prog 288 #[.slice p N c,Iv x] w fun e w'=>(∃ i:Int,e=.returned (Iv i)/\(0<=i↔x∈l))/\w'=w:=by
 have F:=Qa B;have v:=Qa t;clear B t;go_enter func288,ntmps288
 go_wp2
 go_loop [8] (fun i=>∃ k:Nat,k<=N/\i=Iv k/\∀ (j:Nat) (y:Int),j<k->l[j]?=some y->x≠y) (fun i=>N - (intOf i).toNat)
 case atStart=>exact⟨0,Xb _,Z,fun j y r=>by omega⟩
 case round =>
  obtain⟨k,H,rfl,u⟩:=hrel
  have A:=Qa u;clear u;by_cases f:k<N
  ·have m:(k:Int)<N:=by omega
   have b:k<l.length:=by rw[v.out];exact f
   obtain⟨g,o,rfl,-,G,s⟩:=ZH F.out b
   obtain⟨y,d⟩:∃ y,l[k]?=some y:=⟨_,Zg b⟩
   rw[show l.getD k 0=y by rw[List.getD_eq_getElem?_getD,d];rfl] at s
   have z:=Qa d;clear d b;by_cases a:x=y
   ·have n:(x==y)=true:=by simpa using a
    have D:Hid (x∈l):=by show _;rw[a];exact Zm z.out
    clear a;go_wp2
    go_ret;exact⟨⟨k,Z,by simp[D.out]⟩,Z⟩
   ·have n:(x==y)=false:=by simpa using a
    have q:=Qa a;clear a;go_wp2
    go_round
    case rel =>
     refine⟨k+1,f,by go_num,fun j C r d=>?_⟩
     rcases Nat.lt_or_ge j k with h | h
     ·exact A.out j C h d
     ·have:j=k:=by omega
      subst this;have e:=z.out.symm.trans d;injection e with e
      subst e;exact q.out
    case measure=>simp[intOf];omega
  ·have m:¬ (k:Int)<N:=by omega
   go_wp2
   go_ret;refine⟨⟨-1,Z,by omega,fun hm=>?_⟩,Z⟩
   obtain⟨j,r,e⟩:=List.mem_iff_getElem.1 hm
   exact absurd e.symm (A.out j _ (by have:=v.out;omega) (Zg r))
theorem Qef (x:Int) (d:l.length=N) (b:N<=100000) (g:intsL.In w Q l [.slice p N c]) :
 Calls prog 279 #[.slice p N c,Iv x] w fun e w'=>e=.returned (.bool (inB l x))/\w'=w:=by
 have C:=Qa (Qhr x d b g);clear g d;go_enter func279,ntmps279
 go_wp2_with fail
 refine C.out.mono ?_;rintro e w' ⟨⟨i,rfl,f⟩,a⟩;have a:=a.symm;subst a
 have E:Hid (inB l x=decide (i>=0)):=by
  show _=_;rw[Bool.eq_iff_iff,inB_iff]
  simp[f]
 clear C f;go_wp2
 go_ret;exact⟨by rw[E.out];rfl,Z⟩
theorem QfE (H:List Bool) (l:List Int)(a:l[k]?=some x):QL H (l.take k) (l.drop k)=if hHas H x then (if inB (l.take k) x then 13 else QL H (l.take (k+1)) (l.drop (k+1))) else 10:=by
 obtain⟨b,e⟩:=Zi a
 rw[List.drop_eq_getElem_cons b,e,QL,XV,a]
 rfl
def QbY (H:List Bool) (l:List Int) (asked:Int):Int:=if (l.length:Int)=asked then QL H [] l else 2
theorem Qd5 {A:Nat->Prop}{s:JSt}(d:Int) (J:l.length=N) (U:N<=100000) (S:N<=c) (P:intsL.In w Q l [.slice p N c]) (h:SAt w b O A s) :
 Calls prog 273 #[Pv b 0,.slice p N c,Iv d] w fun e w'=>ZG (QbY s.H l d) VNone e/\w'=w:=by
 have L:=Qa P;have z:=Qa J;obtain⟨pm,cm,hh,X,W,a2,c2,a3,c3,aL,cL,F⟩:=h.read
 obtain⟨-,q1,-⟩:=F.cells
 have V:=Qa F.held;clear h P J F;by_cases j:(N:Int)=d
 rotate_left
 ·have r:((N:Int)==d)=false:=by simpa using j
  have E:Hid (QbY s.H l d=2):=by show _=_;unfold QbY;rw[z.out,Xr j]
  go_enter func273,ntmps273
  go_wp2_with fail
  refine(Zj _ 2).mono ?_
  rintro n w' ⟨rfl,a⟩;subst a;exact⟨Z,ZG.bad E.out (by decide),Z⟩
 subst j;have r:((N:Int)==(N:Int))=true:=by simp
 have E:Hid (QbY s.H l N=QL s.H [] l):=by show _=_;unfold QbY;rw[z.out,Xs Z]
 go_enter func273,ntmps273
 go_wp2_with (go_at_call 268;refine(Zh _ _).mono ?_;rintro n w' ⟨rfl,a⟩;have a:=a.symm;subst a)
 go_loop [15] (fun i=>∃ k:Nat,k<=N/\i=Iv k/\QL s.H [] l=QL s.H (l.take k) (l.drop k)) (fun i=>N - (intOf i).toNat)
 case atStart=>exact⟨0,Xb _,Z,Z⟩
 case round =>
  obtain⟨k,hk,rfl,K⟩:=hrel
  have M:=Qa K;clear K;by_cases q:k<N
  ·have u:(k:Int)<N:=by omega
   have T:k<=c:=by omega
   have f:k<l.length:=by rw[z.out];exact q
   obtain⟨g,o,rfl,-,hg,B⟩:=ZH L.out f
   obtain⟨y,x⟩:∃ y,l[k]?=some y:=⟨_,Zg f⟩
   rw[show l.getD k 0=y by rw[List.getD_eq_getElem?_getD,x];rfl] at B
   have G:=Qa (M.out.trans (QfE s.H l x));have C:=Qa (Qcz y V.out)
   cases hq:hHas s.H y with
   | false =>
     rw[hq] at C
     have m:Hid (QbY s.H l N=10):=by show _=_;rw[E.out,G.out,hq];rfl
     clear x f hq;go_wp2_with (go_at_call 272;refine(C.out).mono ?_;rintro e w' ⟨rfl,a⟩;have a:=a.symm;subst a)
     refine(Zj _ 10).mono ?_
     rintro n w' ⟨rfl,a⟩;subst a;exact⟨Z,ZG.bad m.out (by decide),Z⟩
   | true =>
     rw[hq] at C
     have D:Hid (∀ I,Calls prog 279 #[.slice (some ⟨g,o,none⟩) k I,Iv y] w fun e w'=>e=.returned (.bool (inB (l.take k) y))/\w'=w):=fun I=>Qef y (by rw[List.length_take];omega) (by omega) (QiK L.out (Nat.le_of_lt f) I);have t:Hid (QL s.H [] l=if inB (l.take k) y then 13 else QL s.H (l.take (k+1)) (l.drop (k+1))):=by show _=_;rw[G.out,hq];rfl
     clear x f hq G
     cases hi:inB (l.take k) y with
     | true =>
       rw[hi] at D
       have m:Hid (QbY s.H l N=13):=by show _=_;rw[E.out,t.out,hi];rfl
       clear hi;go_wp2_with (go_at_call 272;refine(C.out).mono ?_;rintro e w' ⟨rfl,a⟩;have a:=a.symm;subst a)
       refine(Zh _ _).mono ?_
       rintro n w' ⟨rfl,a⟩;have a:=a.symm;subst a;go_wp2_with (go_at_call 279;refine(D.out _).mono ?_;rintro e w' ⟨rfl,a⟩;have a:=a.symm;subst a)
       refine(Zj _ 13).mono ?_
       rintro n w' ⟨rfl,a⟩;subst a;exact⟨Z,ZG.bad m.out (by decide),Z⟩
     | false =>
       rw[hi] at D
       have m:Hid (QL s.H [] l=QL s.H (l.take (k+1)) (l.drop (k+1))):=by show _=_;rw[t.out,hi];rfl
       clear hi;go_wp2_with (go_at_call 272;refine(C.out).mono ?_;rintro e w' ⟨rfl,a⟩;have a:=a.symm;subst a)
       refine(Zh _ _).mono ?_
       rintro n w' ⟨rfl,a⟩;have a:=a.symm;subst a;go_wp2_with (go_at_call 279;refine(D.out _).mono ?_;rintro e w' ⟨rfl,a⟩;have a:=a.symm;subst a)
       refine(Zh _ _).mono ?_
       rintro n w' ⟨rfl,a⟩;have a:=a.symm;subst a;go_wp2
       go_round
       case rel=>exact⟨k+1,q,by go_num,m.out⟩
       case measure=>simp[intOf];omega
  ·have u:¬ (k:Int)<N:=by omega
   have R:k=N:=by omega
   have m:Hid (QbY s.H l N=0):=by
    show _=_;rw[E.out,M.out,List.drop_of_length_le (by rw[z.out];omega)]
    rfl
   go_wp2
   exact Xz (v:=.tuple #[]) (by simp[results,results273,go_sem]) Z ⟨ZG.good m.out Z,Z⟩
noncomputable def JSt.handC (s:JSt) (l:List Int) (ts:List (TT 6)):Int:=if l.length=ts.length then Qu (fun p:Int × TT 6=>s.beC p.1 p.2) (l.zip ts) else 2
theorem QaB {A R:Nat->Prop}{s:JSt}{ts:List (TT 6)}{pt:Option Addr}{M:Nat}(U:l.length=N) (ab:N<=100000) (hM:ts.length=M) (aa:M<=100000) (hl:intsL.In w Q l [.slice p N c]) (ht:LIn w R ts pt)
 (hL:s.L.length<=80) (m:∀ x∈s.L,x.count<=100000) (K:∀ k,O k->k<w.heap.size) (h:SAt w b O A s) :
 Calls prog 251 #[Pv b 0,.slice p N c,.slice pt M d] w fun e w'=>ZG (s.handC l ts) VNone e/\Below w.heap.size w w':=by
 have H:=Qa h;have HO:=Qa K;have HL:=Qa hl;have HT:=Qa ht;have P:=Qa U;have J:=Qa hM;have HC:=Qa m;clear h K hl U ht hM m;by_cases B:N=M
 rotate_left
 ·have C:((N:Int)==(M:Int))=false:=by simp;omega
  have E:Hid (s.handC l ts=2):=by show _=_;unfold JSt.handC;rw[P.out,J.out,Xr B]
  go_enter func251,ntmps251
  go_wp2_with fail
  refine(Zj _ 2).mono ?_
  rintro e' w' ⟨rfl,F⟩;subst F;exact⟨Z,ZG.bad E.out (by decide),Zr⟩
 subst B;have C:((N:Int)==(N:Int))=true:=by simp
 have E:Hid (s.handC l ts=Qu (fun p:Int × TT 6=>s.beC p.1 p.2) (l.zip ts)):=by show _=_;unfold JSt.handC;rw[P.out,J.out,Xs Z]
 go_enter func251,ntmps251
 go_wp2_with (go_at_call 268;refine(Zh _ _).mono ?_;rintro e' w' ⟨rfl,F⟩;have F:=F.symm;subst F)
 go_loopw [16] (fun i wr=>∃ k:Nat,k<=N/\i=Iv k/\Below w.heap.size w wr/\∀ (j:Nat) (y:Int × TT 6),j<k->(l.zip ts)[j]?=some y->s.beC y.1 y.2=0) (fun i _=>N - (intOf i).toNat)
 case atStart=>exact⟨0,Xb _,Z,Zr,fun j y hj=>by omega⟩
 case round =>
  obtain⟨k,hk,rfl,hB,V⟩:=hrel
  have a:=Qa hB;have T:=Qa V;clear hB V;by_cases q:k<N
  ·have I:(k:Int)<N:=by omega
   have u:k<l.length:=by rw[P.out];exact q
   have D:k<ts.length:=by rw[J.out];exact q
   obtain⟨g,o,rfl,-,hg,r⟩:=ZH HL.out u
   obtain⟨y,f⟩:∃ y,l[k]?=some y:=⟨_,Zg u⟩
   obtain⟨t,z⟩:∃ t,ts[k]?=some t:=⟨_,Zg D⟩
   rw[show l.getD k 0=y by rw[List.getD_eq_getElem?_getD,f];rfl] at r
   obtain⟨g2,o2,p2,c2,rfl,-,d0,d1,W,n⟩:=HT.out.at z
   have HX:Hid ((l.zip ts)[k]?=some (y,t)):=by show _=_;rw[List.getElem?_zip_eq_some];exact⟨f,z⟩
   have y0:=Qk r a.out;have z0:=Qk d0 a.out;have z1:=Qk d1 a.out;have z2:=Qk W a.out;have HK:=Qa (n.below a.out);clear r u D d0 d1 W f z n;go_wp2_with fail
   refine(Qc1 y HK.out hL HC.out (fun k hk=>Zl (HO.out k hk) a.out.size) (H.out.below a.out)).mono ?_
   rintro e' w2 ⟨K,b2⟩;have X:Hid (Below w.heap.size w w2):=a.out.trans (b2.mono a.out.size);rcases K with ⟨G,x,rfl,-⟩|⟨G,rfl⟩
   rotate_left
   ·have e9:s.handC l ts=s.beC y t:=by rw[E.out,Qau HX.out T.out G]
    exact⟨Z,.inr ⟨by rw[e9];exact G,by rw[e9]⟩,X.out⟩
   have S:=Qa G;clear G b2 y0 z0 z1 z2;go_wp2
   go_roundw
   case rel =>
    refine⟨k+1,q,by go_num,X.out,fun j y' hj f=>?_⟩
    rcases Nat.lt_or_ge j k with h | h
    ·exact T.out j y' h f
    ·have:j=k:=by omega
     subst this;have e:=HX.out.symm.trans f;injection e with e
     subst e;exact S.out
   case measure=>simp[intOf];omega
  ·have I:¬ (k:Int)<N:=by omega
   go_wp2
   exact Xz (v:=.tuple #[]) (by simp[results,results251,go_sem]) Z ⟨ZG.good (by rw[E.out];exact Z3 (fun j y f=>T.out j y (by have:=(Zi f).1;rw[List.length_zip,P.out,J.out] at this;omega) f)) Z,a.out⟩
theorem QhV (b:l.length=N) (a:intsL.In w Q l [.slice p N c]):Qll w p N (fun i=>l.getD i 0):=fun i d=>by
 obtain⟨g,o,e,-,-,h⟩:=ZH a (show i<l.length by omega)
 exact⟨g,o,e,h⟩
theorem Qko {t:TT 6}{e:Ending}(h:QgF w w' (t.ren regs.length (fun i=>regs.getD i 0)) e):∃ a c q,e=.returned (.tuple #[Tv (Qag regs t) a c,.bool q])/\TIn w' (Qcv w.heap.size) (Qag regs t) a/\Below w.heap.size w w':=by
 unfold Qag
 cases hr:t.ren regs.length (fun i=>regs.getD i 0) with
 | none =>
   rw[hr] at h
   obtain⟨rfl,f⟩:=h
   exact⟨none,0,false,Z,fun i x d=>by simp[zeroTT] at d,f⟩
 | some u =>
   rw[hr] at h
   obtain⟨a,c,rfl,b,g⟩:=h
   exact⟨a,c,true,Z,b,g⟩
theorem QaY {R:Nat->Prop}{ts:List (TT 6)}{X:Option Addr}{M:Nat}(E:regs.length=N) (hM:ts.length=M) (ad:M<=1000) (hl:intsL.In w Q regs [.slice p N c]) (S:LIn w R ts X) (f:∀ x∈ts,x.count<=2000) :
 Calls prog 274 #[.slice X M d,.slice p N c] w fun e w'=>∃ g,e=.returned (.slice (some ⟨g,0,none⟩) M M)/\w.heap.size<=g/\Qcx w' g M (ts.map (Qag regs))/\Below w.heap.size w w':=by
 have T:=Qa hM;have HI:=Qa (QhV E hl);have HT:=Qa S;have HC:=Qa f;have HN:=Qa E;have J:=QhQ w M (by omega);have I:Hid (Below w.heap.size w (w.alloc (.cells (madeCells #[Iv 0,Iv 0,Nv] (M*3)) 105))):=Zd _ _;have A:Hid (Qcx (w.alloc (.cells (madeCells #[Iv 0,Iv 0,Nv] (M*3)) 105)) w.heap.size M ([]:List (TT 6))):=⟨_,Qe w _ _,size_madeCells _ _,fun i x hx=>by simp at hx⟩;clear hM hl S f E;go_enter func274,ntmps274
 go_wp2
 generalize w.alloc (.cells (madeCells #[Iv 0,Iv 0,Nv] (M*3)) 105)=w1 at I A |-;obtain⟨G,y⟩:∃ G,G=w.heap.size:=⟨_,Z⟩
 rw[<-y] at A |-
 have z:=Qa (Nat.le_of_eq y.symm);have HE:=Qa y;clear J y;go_loopw [13] (fun i wr=>∃ q:Nat,q<=M/\i=Iv q/\Qcx wr G M ((ts.take q).map (Qag regs))/\Below w.heap.size w wr) (fun i _=>M - (intOf i).toNat)
 case atStart=>exact⟨0,Xb _,Z,A.out,I.out⟩
 case round =>
  clear A I;obtain⟨q,hq,rfl,hY,hB⟩:=hrel
  have j:=Qa hB;have Y:=Qa hY;clear hB hY;by_cases m:q<M
  ·have ab:(q:Int)<M:=by omega
   have u:q<ts.length:=by rw[T.out];exact m
   obtain⟨t,a⟩:∃ t,ts[q]?=some t:=⟨_,Zg u⟩
   obtain⟨g2,o2,B,F,rfl,-,L,U,P,l⟩:=HT.out.at a
   have z0:=Qk L j.out;have z1:=Qk U j.out;have O:=Qk P j.out
   have C:Hid (∀ o,Below wr.heap.size wr o->Calls prog 285 #[Tv t B F,.slice p N c] o fun e w'=>∃ a' c' K,e=.returned (.tuple #[Tv (Qag regs t) a' c',.bool K])/\TIn w' (Qcv o.heap.size) (Qag regs t) a'/\Below o.heap.size o w'):=fun o hb=>by
    have s:=j.out.trans (hb.mono j.out.size)
    have:=rename_any 6 t B F p N c (fun i=>regs.getD i 0) o (l.below s).all (HC.out t (Zm a)) (HI.out.below s)
    refine this.mono (fun e w' h=>?_);rw[<-HN.out] at h
    exact Qko h
   have HS:Hid ((ts.take (q+1)).map (Qag regs)=(ts.take q).map (Qag regs)++[Qag regs t]):=by show _=_;rw[XV,a,List.map_append];rfl
   have v:Hid (((ts.take q).map (Qag regs)).length=q):=by show _=_;rw[XN,List.length_take];omega
   clear L U P l a u;simp only[Tv] at C
   generalize t.kind=tk at z0 C;generalize t.r=tr at z1 C;generalize t.len=tl at O C;have ac:q*3+2<M*3:=by omega
   go_wp2_with fail
   have n:Below wr.heap.size wr (wr.alloc (.cells #[Iv tk,Iv tr,.slice B tl F] 105)):=(Below.refl _ wr).alloc Ze _;refine(C.out _ n).mono ?_
   rintro e D ⟨a4,c4,K,rfl,W,H⟩;have b:=Y.out.below (n.trans (H.mono n.size));have B4:Hid (Below w.heap.size w D):=j.out.trans ((n.trans (H.mono n.size)).mono j.out.size);obtain⟨v0,r0⟩:=b.has (q*3) (by omega)
   obtain⟨v1,r1⟩:=b.has (q*3+1) (by omega)
   obtain⟨v2,r2⟩:=b.has (q*3+2) (by omega)
   have f0:=b.frozen (q*3);have f1:=b.frozen (q*3+1);have f2:=b.frozen (q*3+2);have V:TIn D (Qcv (G+1)) (Qag regs t) a4:=W.mono (fun k hk _=>by have:=Y.out.lt;have:wr.heap.size<=k:=Zt n.size hk;omega);have Z5:=Qa (b.set (c:=c4) v.out m V);have Z6:Hid (Below w.heap.size w (((D.setCell ⟨G,q*3,none⟩ (Iv (Qag regs t).kind)).setCell ⟨G,q*3+1,none⟩ (Iv (Qag regs t).r)).setCell ⟨G,q*3+2,none⟩ (.slice a4 (Qag regs t).len c4))):=((B4.out.setCell (p:=⟨G,q*3,none⟩) z.out _).setCell (p:=⟨G,q*3+1,none⟩) z.out _).setCell (p:=⟨G,q*3+2,none⟩) z.out _;clear b V W H n C z0 z1 O;simp only[Tv] at Z5 Z6 |-
   go_wp2
   go_roundw
   case rel=>exact⟨q+1,m,by go_num,by rw[HS.out];exact Z5.out,Z6.out⟩
   case measure=>simp[intOf];omega
  ·have aa:¬ (q:Int)<M:=by omega
   have e:ts.take q=ts:=XO (by rw[T.out];omega);rw[e] at Y
   go_wp2
   go_ret;exact⟨G,Z,z.out,Y.out,j.out⟩
abbrev Qon (Z:Type):=List (Nat × (Z->World->(Nat->Prop)->Prop))
theorem Qgi {m:Nat}{too:Nat->Int}(b:∀ i,i<m->-9223372036854775808<=too i/\too i<=9223372036854775807):{n:Nat}->{t u:TT n}->t.ok->t.ren m too=some u->u.ok
 | 0,t,_,_,_=>Empty.elim t
 | n+1,t,u,hok,h=>by
   simp only[TT.ren] at h
   cases e1:ZK m too t.1 t.2.1 with
   | none=>simp[e1] at h
   | some r1 =>
     simp only[e1] at h
     cases e2:ZV (TT.ren m too) t.2.2 with
     | none=>simp[e2] at h
     | some l1 =>
       simp only[e2] at h
       have h:=Xn h;subst h;refine⟨?_,fun x d=>?_⟩
       ·show -9223372036854775808<=r1/\r1<=9223372036854775807;unfold ZK at e1;split at e1
        ·cases e1;exact hok.1
        split at e1
        ·cases e1
        rename_i g j
        split at e1
        ·cases e1
        ·cases e1;exact b _ (by omega)
       ·obtain⟨e,f⟩:=ZU.1 e2
        obtain⟨i,c⟩:=List.getElem?_of_mem d
        have a:i<t.2.2.length:=by rw[<-e];exact(Zi c).1
        have:=f i t.2.2[i] (Zg a)
        rw[c] at this
        exact Qgi b (hok.2 _ (List.getElem_mem a)) this
theorem QjD (h:intsL.In w Q l [.slice a m c]):∀ x∈l,-9223372036854775808<=x/\x<=9223372036854775807:=fun x b=>by
 obtain⟨i,d⟩:=List.getElem?_of_mem b
 obtain⟨g,o,f,_,_,_,_,_,e⟩:=Yf h d
 exact e
theorem QdF {m:List (MFunc 6)}(h:(QaN 6).In w Q m [.slice p n c]){g:MFunc 6}(f:m[k]?=some g) :
 ∃ mg mo a1 c1 a2 c2 a3 c3,p=some ⟨mg,mo,none⟩/\w.cell? ⟨mg,mo+k*4,none⟩=some (Iv g.regs)/\w.cell? ⟨mg,mo+k*4+1,none⟩=some (.slice a1 g.params.length c1)/\w.cell? ⟨mg,mo+k*4+2,none⟩=some (.slice a2 g.results.length c2)/\w.cell? ⟨mg,mo+k*4+3,none⟩=some (.slice a3 g.blocks.length c3) /\
  (Qo 6).In w Q g.params [.slice a1 g.params.length c1]/\(Qo 6).In w Q g.results [.slice a2 g.results.length c2]:=by
 obtain⟨mg,mo,r,e,q,j,a,i⟩:=Yf h f
 obtain⟨a1,c1,a2,c2,a3,c3,rfl,b,d,l,o⟩:=Qaq i
 exact⟨mg,mo,a1,c1,a2,c2,a3,c3,e,a 0 (by decide),a 1 (by decide),a 2 (by decide),a 3 (by decide),b,d⟩
theorem QlX (h:∀ x∈regs,-9223372036854775808<=x/\x<=9223372036854775807){t:TT 6}(b:t.ok):(Qag regs t).ok:=by
 unfold Qag
 cases e:t.ren regs.length (fun i=>regs.getD i 0) with
 | none=>exact⟨⟨by decide,by decide⟩,fun x a=>by simp[zeroTT] at a⟩
 | some u=>exact Qgi (fun i c=>h (regs.getD i 0) (by simp[List.getD,c])) b e
theorem Qcx.types {M:Nat}{A:Nat->Prop}{l:List (TT 6)}(h:Qcx w G M l) (p:l.length=M) (d:∀ x∈l,x.ok) (m:∀ k,G<=k->¬ A k):(Qo 6).In w (fun g=>¬ A g) l [.slice (some ⟨G,0,none⟩) M M]:=by
 obtain⟨t,b,v,o⟩:=h.row
 subst p;refine⟨_,_,Z,fun i x f=>?_⟩
 obtain⟨a,c,q,n,u,s⟩:=o i x f
 refine⟨G,0,[Iv x.kind,Iv x.r,.slice a x.len c],Z,m G Ze,XC b,fun j e=>?_,a,c,Z,s.mono (fun k y _=>m k (by omega)),d x (Zm f)⟩
 have e:j<3:=e;show w.cell? ⟨G,0+i*3+j,none⟩=_;rw[XK]
 match j,e with
 | 0,_=>exact Qb b _ _ q
 | 1,_=>exact Qb b _ _ n
 | 2,_=>exact Qb b _ _ u
 | j+3,h=>exact absurd h (by omega)
noncomputable def JSt.callC (s:JSt) (x:Qs):Int:=match s.m[x.k.toNat]? with
 | none=>0
 | some g=>Qv (QbY s.H x.regs g.regs) (Qv (s.handC x.args (g.params.map (Qag x.regs))) (QZ s.L.length g.results.length))
def JSt.callS (s:JSt) (x:Qs):JSt:={ s with L:=s.L++(match s.m[x.k.toNat]? with | none=>[] | some g=>g.results.map (Qag x.regs)) }
def QnF (w2:World) (b X mg mo nm cm k n1 d1 n2 d2 n3 d3:Nat) (fr:Int) (p1 p2 p3:Option Addr) (t:Tmp) (v:Value) (w:World):Prop :=
 match ([(4,fun v w=>∃ B,v=.pointer (some ⟨B,0,none⟩)/\w2.heap.size<=B/\Blk w B #[.int .i64 0,.slice none 0 0,.slice none 0 0,.slice none 0 0] 89)]:List (Tmp × (Value->World->Prop))).lookup t with
 | some p=>p v w
 | none=>v=(([(0,.pointer (some ⟨b,0,none⟩)),(3,.pointer (some ⟨X,0,none⟩)),(5,.pointer (some ⟨b,0,none⟩)),(6,.pointer (some ⟨b,0,none⟩)),(7,.pointer (some ⟨b,0,none⟩)),(8,.pointer (some ⟨b,0,none⟩)),(9,.slice (some ⟨mg,mo,none⟩) nm cm),(10,.pointer (some ⟨X,4,none⟩)),(11,.int .i64 (k:Int)),(12,.pointer (some ⟨mg,mo+k*4,none⟩)),(13,.agg #[.int .i64 fr,.slice p1 n1 d1,.slice p2 n2 d2,.slice p3 n3 d3])]:List (Tmp × Value)).lookup t).getD undef
theorem jc1 {f d l q d1 x o r u:Nat}{p1 j A:Option Addr}(J:w2.cell? ⟨b,0,none⟩=some (.slice (some ⟨f,d,none⟩) l cm)) (F:w2.cell? ⟨X,4,none⟩=some (Iv (k:Int))) (M:w2.cell? ⟨f,d+k*4,none⟩=some (Iv fr)) (H:w2.cell? ⟨f,d+k*4+1,none⟩=some (.slice p1 q d1)) (D:w2.cell? ⟨f,d+k*4+2,none⟩=some (.slice j x o)) (O:w2.cell? ⟨f,d+k*4+3,none⟩=some (.slice A r u)) (N:(k:Int)<l){Q:Exit->Act->World->Prop}
 (a:Act) (m:Nat) (P:a.tmps.size=m) (s:36<=m) (R:a.tmps.getD 0 undef=Pv b 0) (G:a.tmps.getD 3 undef=Pv X 0)
 (hend:∀ ops vs w',vs 13=.agg #[Iv fr,.slice p1 q d1,.slice j x o,.slice A r u]->(fun v w=>∃ B,v=Pv B 0/\w2.heap.size<=B/\Blk w B #[Iv 0,Nv,Nv,Nv] 89) (vs 4) w'->Below w2.heap.size w2 w'->wpList prog ops Q (Qao 10 ((Tryz.f249.body.bind (Qi 1)).getD .skip)) (QN a vs [5,6,7,8,9,10,11,12,13,4]) w') :
 Code.wp prog ((Tryz.f249.body.bind (Qi 1)).getD .skip) Q a w2:=by
 conv=>arg 2;whnf
 refine Qg 10 (QnF w2 b X f d l cm k q d1 x o r u fr p1 j A) (fun w=>Below w2.heap.size w2 w) (fun w w'=>Below w.heap.size w w') (outs:=[0,3]) (gs:=[]) (bs:=[true,true,true,true,true,true,true,true,true,true]) (by kernel_rfl) (n:=36) P s (by kernel_rfl) (by kernel_rfl) ?hR ?hG (QI Zr 1) ⟨R,G,Y⟩ ?hA ?hend
 case hR =>
  intro t v w w' L h;unfold QnF at h |-;split at h
  ·rename_i p i
   simp only[List.lookup_cons,List.lookup_nil] at i
   split at i
   ·cases i;exact(by obtain⟨B,e,E,C⟩:=h;exact⟨B,e,E,(L.block B (XC C)).trans C⟩)
   ·cases i
  ·exact h
 case hG=>exact Y
 case hend=>exact fun ops vs w' c g=>hend ops vs w' (g 13 (by kernel_rfl)) (g 4 (by kernel_rfl)) c
 case hA =>
  repeat
   refine⟨fun a w c g K z=>?_,?_⟩
   focus first
    | obtain⟨y,-⟩:=g
      conv at y=>whnf;rhs;whnf
      have T:=Qk J c;have S:=Qk F c;have U:=Qk M c;have V:=Qk H c;have W:=Qk D c;have c5:=Qk O c;go_simp;exact z _ _ Zr c Z
    | clear g
      go_simp;exact z _ _ (Zd _ _) (c.alloc c.size _) ⟨_,Z,c.size,Qe _ _ _⟩
    | obtain⟨y,I,-⟩:=g
      conv at y=>whnf;rhs;whnf
      conv at I=>whnf;rhs;whnf
      go_simp;exact z _ _ Zr c Z
  trivial
def QnD (w2:World) (b X C N ac n1 d1 Kn rc:Nat) (ag rg p1:Option Addr) (ps:List (TT 6)) (regs:List Int) (t:Tmp) (v:Value) (w:World):Prop :=
 match ([(27,fun v w=>∃ g,v=.slice (some ⟨g,0,none⟩) n1 n1/\w2.heap.size<=g/\Qcx w g n1 (ps.map (Qag regs)))]:List (Tmp × (Value->World->Prop))).lookup t with
 | some p=>p v w
 | none=>v=(([(0,.pointer (some ⟨b,0,none⟩)),(3,.pointer (some ⟨X,0,none⟩)),(4,.pointer (some ⟨C,0,none⟩)),(20,.pointer (some ⟨b,0,none⟩)),(21,.pointer (some ⟨X,7,none⟩)),(22,.slice ag N ac),(23,.pointer (some ⟨C,1,none⟩)),(24,.slice p1 n1 d1),(25,.pointer (some ⟨X,6,none⟩)),(26,.slice rg Kn rc)]:List (Tmp × Value)).lookup t).getD undef
theorem jc3 {C d d1 k:Nat}{p1:Option Addr}{i:List (TT 6)}{R:Nat->Prop}(A:w2.cell? ⟨X,6,none⟩=some (.slice rg k rc)) (O:w2.cell? ⟨X,7,none⟩=some (.slice ag N ac)) (H:w2.cell? ⟨C,1,none⟩=some (.slice p1 d d1)) (P:Hid (regs.length=k)) (y:Hid (i.length=d)) (l:d<=1000) (U:Hid (intsL.In w2 Q regs [.slice rg k rc])) (L:Hid (LIn w2 R i p1)) (M:Hid (∀ x∈i,x.count<=2000)){Q:Exit->Act->World->Prop}
 (a:Act) (m:Nat) (S:a.tmps.size=m) (q:36<=m) (T:a.tmps.getD 0 undef=Pv b 0) (F:a.tmps.getD 3 undef=Pv X 0) (E:a.tmps.getD 4 undef=Pv C 0)
 (hend:∀ ops vs w',vs 22=.slice ag N ac->vs 20=Pv b 0->(fun v w=>∃ g,v=.slice (some ⟨g,0,none⟩) d d/\w2.heap.size<=g/\Qcx w g d (i.map (Qag regs))) (vs 27) w'->Below w2.heap.size w2 w'->wpList prog ops Q (Qao 8 ((Tryz.f249.body.bind (Qi 3)).getD .skip)) (QN a vs [20,21,22,23,24,25,26,27]) w') :
 Code.wp prog ((Tryz.f249.body.bind (Qi 3)).getD .skip) Q a w2:=by
 conv=>arg 2;whnf
 refine Qg 8 (QnD w2 b X C N ac d d1 k rc ag rg p1 i regs) (fun w=>Below w2.heap.size w2 w) (fun w w'=>Below w.heap.size w w') (outs:=[0,3,4]) (gs:=[]) (bs:=[true,true,true,true,true,true,true,true]) (by kernel_rfl) (n:=36) S q (by kernel_rfl) (by kernel_rfl) ?hR ?hG (QI Zr 1) ⟨T,F,E,Y⟩ ?hA ?hend
 case hR =>
  intro t v w w' I h;unfold QnD at h |-;split at h
  ·rename_i p j
   simp only[List.lookup_cons,List.lookup_nil] at j
   split at j
   ·cases j;exact(by obtain⟨g,e,D,B⟩:=h;exact⟨g,e,D,B.below I⟩)
   ·cases j
  ·exact h
 case hG=>exact Y
 case hend=>exact fun ops vs w' c f=>hend ops vs w' (f 22 (by kernel_rfl)) (f 20 (by kernel_rfl)) (f 27 (by kernel_rfl)) c
 case hA =>
  iterate 7
   refine⟨fun a w c f K u=>?_,?_⟩
   ·obtain⟨s,-⟩:=f
    conv at s=>whnf;rhs;whnf
    have u0:=Qk O c;have W:=Qk H c;have V:=Qk A c;go_simp;exact u _ _ Zr c Z
  refine⟨fun a w c f K u=>?_,?_⟩
  ·obtain⟨s,G,-⟩:=f
   conv at s=>whnf;rhs;whnf
   conv at G=>whnf;rhs;whnf
   go_simp;refine Xm (QaY P.out y.out l (Ya U.out c) (L.out.below c) M.out) ?_;rintro r7 w7 ⟨J,rfl,o,r,z⟩;go_simp;exact u _ _ z (c.trans (z.mono c.size)) ⟨J,Z,Zt c.size o,r⟩
  trivial
theorem QhW {A:Nat->Prop}{s:JSt}{x:Qs}(hA:∀ k,A k->k<w.heap.size) (hJ:JOk s) (h:SAt w b O A s) (l:intsL.In w Q x.regs [.slice rg x.regs.length rc]) (j:intsL.In w Q x.args [.slice ag x.args.length ac]) (ad:x.regs.length<=rc) (aw:x.regs.length<=6) (aq:x.args.length<=8) (af:0<=x.k/\x.k<s.m.length) :
 Calls prog 249 #[Pv b 0,Qel x rg ag rc ac] w fun e w'=>QO w b O A s (s.callS x) (s.callC x) e w':=by
 obtain⟨G,M,I,D,xk,B,a,f⟩:=x
 simp only at l j ad aw aq af
 have HJ:=Qa hJ;have H0:=Qa h;have HA:=Qa hA;have hL:=hJ.vals;have b1:=Zd w (.cells #[Iv G,Iv M,Iv I,Iv D,Iv xk,Iv B,.slice rg a.length rc,.slice ag f.length ac] 78);have H:=Qa (h.below b1);have HR:Hid (intsL.In _ Q a [.slice rg a.length rc]):=Ya l b1;have HG:Hid (intsL.In _ Q f [.slice ag f.length ac]):=Ya j b1;have HB:=Qa b1;have X1:Hid (Blk (w.alloc (.cells #[Iv G,Iv M,Iv I,Iv D,Iv xk,Iv B,.slice rg a.length rc,.slice ag f.length ac] 78)) w.heap.size #[Iv G,Iv M,Iv I,Iv D,Iv xk,Iv B,.slice rg a.length rc,.slice ag f.length ac] 78):=Blk.new _ _ _;clear h hA hJ b1 l j;obtain⟨k,rfl⟩:=Xc af.1
 have be:k<s.m.length:=by omega
 have q:s.m[k]?=some s.m[k]:=Zg be;generalize s.m[k]=g at q;have ar:Hid (g∈s.m):=Zm q
 have E:Hid (s.callC ⟨G,M,I,D,(k:Int),B,a,f⟩=Qv (QbY s.H a g.regs) (Qv (s.handC f (g.params.map (Qag a))) (QZ s.L.length g.results.length))):=by
  show _=_;unfold JSt.callC;simp only[Int.toNat_natCast,q]
 have ES:Hid (s.callS ⟨G,M,I,D,(k:Int),B,a,f⟩={ s with L:=s.L++g.results.map (Qag a) }):=by
  show _=_;unfold JSt.callS;simp only[Int.toNat_natCast,q]
 have a4:=Qa (HJ.out.mod.2 g ar.out);have a6:Hid (¬ MFunc.great g):=fun hg=>HJ.out.tiny (.inr ⟨g,ar.out,hg⟩);have bk:Hid (∀ t∈g.params,t.count<=2000):=fun t ht=>Xo fun ak=>a6.out (.inr (.inl (.inr ⟨t,ht,ak⟩)));have bg:Hid (∀ t∈g.results,t.count<=2000):=fun t ht=>Xo fun ak=>a6.out (.inr (.inr (.inl (.inr ⟨t,ht,ak⟩))));have bl:Hid (∀ t∈s.L,t.count<=100000):=fun t ht=>Zt (Z2 (HJ.out.types t ht)) (by omega);have au:(k:Int)<s.m.length:=by omega
 go_enter func249,ntmps249
 go_upto_region 1 with fail
 generalize w.alloc (.cells #[Iv G,Iv M,Iv I,Iv D,Iv (k:Int),Iv B,.slice rg a.length rc,.slice ag f.length ac] 78)=w1 at H HR HG HB X1 |-;obtain⟨X,hX⟩:∃ X,w.heap.size=X:=⟨_,Z⟩
 rw[hX] at X1 |-
 clear hX;have x4:=Qb X1.out 4 _ Z;have x6:=Qb X1.out 6 _ Z;have x7:=Qb X1.out 7 _ Z;obtain⟨pm,cm,hh,a1,c1,a2,c2,a3,c3,aL,cL,RR⟩:=H.out.read
 obtain⟨q0,-⟩:=RR.cells
 obtain⟨mg,mo,p1,d1,P,J,p3,d3,rfl,f0,f1,f2,f3,hP,bc⟩:=QdF RR.mod q
 have an:Hid ((Qo 6).In w1 (fun g=>¬ A g) g.params [.slice p1 g.params.length d1]):=hP;have ao:Hid ((Qo 6).In w1 (fun g=>¬ A g) g.results [.slice P g.results.length J]):=bc;clear RR hP bc q af;generalize s.m.length=nm at q0 be au;generalize bh:g.regs=fr at f0 E;generalize aj:g.params.length=T at f1 an;have bf:=Qa aj;generalize al:g.results.length=o at f2 ao E;have a0:=Qa al;generalize g.blocks.length=n3 at f3;have bm:T<=8:=by rw[<-aj];exact a4.out.params.1
 have bn:o<=8:=by rw[<-al];exact a4.out.results.1
 clear aj al bh;refine jc1 q0 x4 f0 f1 f2 f3 au _ _ Z (Xg (by kernel_rfl)) Z Z ?_;rintro ae vs w5 V ⟨C,a5,hC,n⟩ b5;show wpList _ ae _ [_] (QN _ vs [5,6,7,8,9,10,11,12,13,4]) w5;simp only[QN,Act.put,List.setIfInBounds_toArray,List.set_cons_zero,List.set_cons_succ,V,a5]
 have e0:=Qb n 0 _ Z;have e1:=Qb n 1 _ Z;have e2:=Qb n 2 _ Z;have e3:=Qb n 3 _ Z;have ef:∀ i,w5.frozen? ⟨C,i,none⟩=false:=fun i=>Qj n i
 have B6:Hid (Blk ((((w5.setCell ⟨C,0,none⟩ (Iv fr)).setCell ⟨C,1,none⟩ (.slice p1 T d1)).setCell ⟨C,2,none⟩ (.slice P o J)).setCell ⟨C,3,none⟩ (.slice p3 n3 d3)) C #[Iv fr,.slice p1 T d1,.slice P o J,.slice p3 n3 d3] 89):=by
  have h3:=Qh (Qh (Qh (Qh n 0 (Iv fr)) 1 (.slice p1 T d1)) 2 (.slice P o J)) 3 (.slice p3 n3 d3);exact h3
 have F:Hid (Below w1.heap.size w1 ((((w5.setCell ⟨C,0,none⟩ (Iv fr)).setCell ⟨C,1,none⟩ (.slice p1 T d1)).setCell ⟨C,2,none⟩ (.slice P o J)).setCell ⟨C,3,none⟩ (.slice p3 n3 d3))) :=
  (((b5.setCell (p:=⟨C,0,none⟩) hC _).setCell (p:=⟨C,1,none⟩) hC _).setCell (p:=⟨C,2,none⟩) hC _).setCell (p:=⟨C,3,none⟩) hC _
 clear n hC b5 V a5 q0 f0 f1 f2 f3;go_upto_region 2 with fail
 generalize ((((w5.setCell ⟨C,0,none⟩ (Iv fr)).setCell ⟨C,1,none⟩ (.slice p1 T d1)).setCell ⟨C,2,none⟩ (.slice P o J)).setCell ⟨C,3,none⟩ (.slice p3 n3 d3))=w6 at B6 F |-;clear e0 e1 e2 e3 ef;obtain⟨e0,e1,e2,e3⟩:=Qmu B6.out
 have x6:=Qk x6 F.out;have x7:=Qk x7 F.out;have H6:=Qa (H.out.below F.out);have R:=Qa (HB.out.trans (F.out.mono HB.out.size));have u:Hid (intsL.In w6 Q a [.slice rg a.length rc]):=Ya HR.out F.out;have am:Hid (intsL.In w6 Q f [.slice ag f.length ac]):=Ya HG.out F.out;have bd:Hid ((Qo 6).In w6 (fun g=>¬ A g) g.params [.slice p1 T d1]):=Ya an.out F.out;have a9:Hid ((Qo 6).In w6 (fun g=>¬ A g) g.results [.slice P o J]):=Ya ao.out F.out;clear H HB HR HG an ao F B6 X1 x4;obtain⟨K,hK⟩:∃ K,a.length=K:=⟨_,Z⟩
 have HK:=Qa hK;rw[hK] at x6 u ad aw
 clear hK;obtain⟨N,hN⟩:∃ N,f.length=N:=⟨_,Z⟩
 have HN:=Qa hN;rw[hN] at x7 am aq
 clear hN;have CL:=Qa (Qd5 fr HK.out (by omega) ad u.out H6.out);go_wp2_with fail
 refine CL.out.mono ?_;rintro e' w' ⟨hO,hw⟩;have hw:=hw.symm;subst hw;rcases hO with ⟨z,y,rfl,hy⟩|⟨z,rfl⟩
 rotate_left
 ·exact⟨Z,QO.bad (by rw[E.out,Ql z]) z (Yh H0.out R.out)⟩
 subst hy;have E2:Hid (s.callC ⟨G,M,I,D,(k:Int),B,a,f⟩=Qv (s.handC f (g.params.map (Qag a))) (QZ s.L.length o)):=by show _=_;rw[E.out,Qx z]
 clear z CL E;go_upto_region 3 with fail
 refine jc3 x6 x7 e1 HK bf (by omega) u (Qa (QV bd.out).1) bk _ _ Z (Xg (by kernel_rfl)) Z Z Z ?_;rintro ae vs w7 W U ⟨gP,ab,bj,a7⟩ b7;show wpList _ ae _ [_] (QN _ vs [20,21,22,23,24,25,26,27]) w7;simp only[QN,Act.put,List.setIfInBounds_toArray,List.set_cons_zero,List.set_cons_succ,W,U,ab]
 have H7:=Qa (H6.out.below b7);have S:=Qa (R.out.trans (b7.mono R.out.size))
 have CH:Hid (Calls prog 251 #[Pv b 0,.slice ag N ac,.slice (some ⟨gP,0,none⟩) T T] w7 fun e w'=>ZG (s.handC f (g.params.map (Qag a))) VNone e/\Below w7.heap.size w7 w') :=
  QaB HN.out (by omega) (by rw[XN,bf.out]) (by omega) (Ya am.out b7) a7.lin hL bl.out (fun k hk=>Zl (HA.out k (H0.out.sub k hk)) S.out.size) H7.out
 have az:Hid ((Qo 6).In w7 (fun g=>¬ A g) g.results [.slice P o J]):=Ya a9.out b7;have ay:Hid (intsL.In w7 Q a [.slice rg K rc]):=Ya u.out b7;have ax:=Qk e2 b7;have ba:=Qk x6 b7;clear a7 bj b7 W U ab H6 R u am bd a9 e0 e1 e2 e3 x6 x7;go_wp2_with fail
 refine CH.out.mono ?_;rintro e' w8 ⟨hO,b8⟩;have H8:=Qa (H7.out.below b8);have r:=Qa (S.out.trans (b8.mono S.out.size));rcases hO with ⟨z,y,rfl,hy⟩|⟨z,rfl⟩
 rotate_left
 ·exact⟨Z,QO.bad (by rw[E2.out,Ql z]) z (Yh H0.out r.out)⟩
 subst hy;have E3:Hid (s.callC ⟨G,M,I,D,(k:Int),B,a,f⟩=QZ s.L.length o):=by show _=_;rw[E2.out,Qx z]
 have ai:Hid ((Qo 6).In w8 (fun g=>¬ A g) g.results [.slice P o J]):=Ya az.out b8;have ah:Hid (intsL.In w8 Q a [.slice rg K rc]):=Ya ay.out b8;have a8:=Qk ax b8;have av:=Qk ba b8;clear z CH E2 b8 az ay ax ba H7 S;have CR:=Qa (QaY (d:=J) (c:=rc) HK.out a0.out (by omega) ah.out (QV ai.out).1 bg.out);go_wp2_with fail
 refine CR.out.mono ?_;rintro e' w9 ⟨gR,rfl,bi,ap,b9⟩;have bb:=Qa (r.out.trans (b9.mono r.out.size))
 have CM:Hid (Calls prog 244 #[Pv b 0,.slice (some ⟨gR,0,none⟩) o o] w9 fun e w'=>QO w b O A s (s.callS ⟨G,M,I,D,(k:Int),B,a,f⟩) (s.callC ⟨G,M,I,D,(k:Int),B,a,f⟩) e w'):=by
  rw[ES.out,E3.out]
  have aa:(g.results.map (Qag a)).length=o:=by rw[XN,a0.out]
  refine(Qav aa (by omega) (ap.types aa (fun y hy=>?_) (fun k hk e=>?_)) hL (fun k hk=>Zl (HA.out k hk) bb.out.size) (H8.out.below b9)).mono (fun e w' hd=>hd.after bb.out)
  ·obtain⟨t,ht,rfl⟩:=List.mem_map.1 hy
   exact QlX (QjD ah.out) ((QV ai.out).2 t ht)
  ·have h1:=HA.out k e;have h2:=r.out.size;omega
 clear ap bi b9 CR ai ah a8 av H8 r E3;go_wp2_with fail
 refine CM.out.mono ?_;rintro e' bo hd;have FF:=Qa hd;rcases hd with ⟨h1,rfl,h3⟩|⟨h1,rfl,h3⟩
 rotate_left
 ·exact⟨Z,FF.out⟩
 clear h1 h3 CM;go_wp2
 exact Xz (v:=.tuple #[]) (by simp[results,results249,go_sem]) Z FF.out
def passC (H:List Bool) (kept:Int) (l:List Int) (asked:Int):Int:=if (l.length:Int)=asked then Qv (Qdp kept.toNat l) (hPass H [] l) else 2
theorem QkY (a:k<n) (h:l.getD k 0≠(k:Int)):Qdp n l=11:=by
 unfold Qdp;rw[Xr]
 intro e;rw[Xe] at e
 have:=e k (List.mem_range.2 a)
 exact h (by simpa using this)
theorem QkS (h:∀ k,k<n->l.getD k 0=(k:Int)):Qdp n l=0:=by
 unfold Qdp;rw[Xs]
 rw[Xe]
 intro k a;exact Xt (h k (List.mem_range.1 a))
theorem Qeb {A:Nat->Prop}{s:JSt}(a:Int) (hN:l.length=N) (T:N<=100000) (hl:intsL.In w Q l [.slice p N c]) (G:0<=s.f.regs) (t:s.f.regs<=a) (h:SAt w b O A s) :
 Calls prog 275 #[Pv b 0,.slice p N c,Iv a] w fun e w'=>ZG (passC s.H s.f.regs l a) VNone e/\Below w.heap.size w w':=by
 have HL:=Qa hl;have K:=Qa hN;obtain⟨pm,cm,hh,a1,c1,a2,c2,a3,c3,aL,cL,S⟩:=h.read
 obtain⟨-,q1,q2,-⟩:=S.cells
 have HH:=Qa S.held;clear h hl hN S;by_cases m:(N:Int)=a
 rotate_left
 ·have x:((N:Int)==a)=false:=by simpa using m
  have E:Hid (passC s.H s.f.regs l a=2):=by show _=_;unfold passC;rw[K.out,Xr m]
  go_enter func275,ntmps275
  go_wp2_with fail
  refine(Zj _ 2).mono ?_
  rintro n w' ⟨rfl,d⟩;subst d;exact⟨Z,ZG.bad E.out (by decide),Zr⟩
 subst m;have x:((N:Int)==(N:Int))=true:=by simp
 obtain⟨M,V⟩:∃ M:Nat,s.f.regs=(M:Int):=Xc G
 have E:Hid (passC s.H s.f.regs l N=Qv (Qdp M l) (hPass s.H [] l)):=by show _=_;unfold passC;rw[K.out,Xs Z,V];rfl
 rw[V] at q2 t
 have ab:M<=N:=by omega
 have U:Hid (passC s.H s.f.regs l N=passC s.H s.f.regs l N):=rfl;clear G t U;generalize passC s.H s.f.regs l N=pc at E |-;clear V;go_enter func275,ntmps275
 go_wp2_with (go_at_call 268;refine(Zh _ _).mono ?_;rintro n w' ⟨rfl,d⟩;have d:=d.symm;subst d)
 go_loop [18] (fun i=>∃ k:Nat,k<=M/\i=Iv k/\∀ j,j<k->l.getD j 0=(j:Int)) (fun i=>M - (intOf i).toNat)
 case atStart=>exact⟨0,Xb _,Z,fun j hj=>by omega⟩
 case round =>
  obtain⟨k,hk,rfl,hz⟩:=hrel
  have X:=Qa hz;clear hz;by_cases r:k<M
  ·have D:(k:Int)<M:=by omega
   have aa:(k:Int)<N:=by omega
   have z:k<l.length:=by rw[K.out];omega
   obtain⟨g,o,rfl,-,hg,u⟩:=ZH HL.out z
   clear z;by_cases q:l.getD k 0=(k:Int)
   ·have HY:=Qa q;rw[q] at u
    have ac:((k:Int)==(k:Int))=true:=by simp
    clear q;go_wp2_with (go_at_call 268;refine(Zh _ _).mono ?_;rintro n w' ⟨rfl,d⟩;have d:=d.symm;subst d)
    go_round
    case rel =>
     refine⟨k+1,r,by go_num,fun j hj=>?_⟩
     rcases Nat.lt_or_ge j k with h | h
     ·exact X.out j h
     ·have:j=k:=by omega
      subst this;exact HY.out
    case measure=>simp[intOf];omega
   ·have B:Hid (pc=11):=by show _=_;rw[E.out,QkY r q];rfl
    have R:(l.getD k 0==(k:Int))=false:=by simpa using q
    generalize l.getD k 0=y at u q R;clear q;go_wp2_with fail
    refine(Zj _ 11).mono ?_
    rintro n w' ⟨rfl,d⟩;subst d;exact⟨Z,ZG.bad B.out (by decide),Zr⟩
  ·have D:¬ (k:Int)<M:=by omega
   have P:k=M:=by omega
   have B:Hid (pc=hPass s.H [] l):=by show _=_;rw[E.out,QkS (fun j hj=>X.out j (by omega))];rfl
   have C:=Qa (Qjg K.out T HL.out HH.out);generalize hPass s.H [] l=J at B C;clear X P;by_cases I:J=0
   ·have L:(J==0)=true:=by simpa using I
    subst I;go_wp2_with (first | (go_at_call 286;refine(C.out).mono ?_;rintro n w2 ⟨rfl,F⟩;have W:=Qa F;clear F) | (go_at_call 268;refine(Zh _ _).mono ?_;rintro n w' ⟨rfl,d⟩;have d:=d.symm;subst d))
    exact Xz (v:=.tuple #[]) (by simp[results,results275,go_sem]) Z ⟨ZG.good B.out Z,W.out⟩
   ·have L:(J==0)=false:=by simpa using I
    have H0:=Qa I;clear I;go_wp2_with (go_at_call 286;refine(C.out).mono ?_;rintro n w2 ⟨rfl,F⟩;have W:=Qa F;clear F)
    refine(Zj _ J).mono ?_
    rintro n w' ⟨rfl,d⟩;subst d;exact⟨Z,ZG.bad B.out H0.out,W.out⟩
theorem QgK {s:JSt}{r:Int}(f:∀ x∈regs,hHas s.H x=true) (g:(regs.length:Int)=r){t:TT 6}(c:t.check r=0):t.ren regs.length (fun i=>regs.getD i 0)=some (Qag regs t):=by
 obtain⟨u,d,-⟩:=Qfx (m:=regs.length) (too:=fun i=>regs.getD i 0) (a:=r) (b:=s.H.length) (by omega) (fun i e=>ZW (f (regs.getD i 0) (by simp[List.getD,e]))) c
 unfold Qag;rw[d]
 rfl
theorem QdW {s:JSt}{ts d:List (TT 6)}(a:d.length=ts.length) (h:∀ (i:Nat) t u,ts[i]?=some t->d[i]?=some u->t.ren regs.length (fun i=>regs.getD i 0)=some u):s.handC l d=s.args l ts regs:=by
 unfold JSt.handC JSt.args;rw[a]
 by_cases c:l.length=ts.length
 ·rw[Xs c,Xs c]
  refine QaW (by rw[List.length_zip,List.length_zip,a]) (fun i p q g f=>?_);rw[List.getElem?_zip_eq_some] at g f
  obtain⟨j,k⟩:=g
  obtain⟨b,n⟩:=f
  rw[j] at b
  injection b with b
  have m:=h i q.2 p.2 n k;show s.beC p.1 p.2=s.arg regs q.1 q.2;unfold JSt.beC JSt.arg;rw[<-b]
  cases s.at p.1 with
  | none=>rfl
  | some u =>
    show (if ZQ (u=p.2) then (0:Int) else 9)=if ZQ (q.2.ren regs.length (fun i=>regs.getD i 0)=some u) then 0 else 9
    rw[m]
    have:ZQ (u=p.2)=ZQ (some p.2=some u):=Qf5 (by rw[Qa4];exact⟨fun e=>by rw[e],fun e=>(Xn e).symm⟩)
    rw[this]
 ·rw[Xr c,Xr c]
theorem QeT {s:JSt}{ts:List (TT 6)}(h:∀ t∈ts,t.ren regs.length (fun i=>regs.getD i 0)=some (Qag regs t)):s.handC l (ts.map (Qag regs))=s.args l ts regs :=
 QdW (by rw[XN]) (fun i t u b a=>by
  rw[XS,b] at a
  injection a with a
  rw[<-a]
  exact h t (Zm b))
theorem QgD {m:Nat}{too:Nat->Int}{a:Int}(g:a<=m) (c:∀ i,i<m->too i=(i:Int)):{n:Nat}->{t:TT n}->t.fault a=0->t.ren m too=some t
 | 0,t,_=>Empty.elim t
 | n+1,t,h=>by
   obtain⟨b,e⟩:=TT.fault_zero h
   have d:ZK m too t.1 t.2.1=some t.2.1:=by
    unfold ownC at b;split at b
    ·cases b
    split at b
    ·cases b
    split at b
    ·cases b
    split at b
    ·cases b
    split at b
    ·cases b
    rename_i q v u s r
    by_cases j:t.1=1
    ·rw[ZK,Xs j]
    ·have:=c t.2.1.toNat (by omega)
     rw[ZK,Xr j,Xr (by omega),Xr (by omega),this]
     congr 1
     omega
   have o:ZV (TT.ren m too) t.2.2=some t.2.2:=by
    generalize t.2.2=l at e
    induction l with
    | nil=>rfl
    | cons x xs ih =>
      have k:=QgD g c (e x (by simp));have f:=ih (fun y p=>e y (by simp[p]));simp[ZV,k,f]
   simp only[TT.ren,d,o]
   rfl
theorem QeP {H:List Bool}:∀ {rest ahead:List Int},hPass H ahead rest=0->∀ x∈rest,hHas H x=true
 | [],ahead,h,x,a=>by cases a
 | r::rest,ahead,h,x,a=>by
   simp only[hPass] at h
   split at h
   ·rename_i b
    split at h
    ·cases h
    ·rcases List.mem_cons.1 a with rfl | a
     ·exact b
     ·exact QeP h x a
   ·cases h
theorem Qne {s:JSt}{g:MBlock 6}{a:List Int}(i:s.f.blocks[k]?=some g) (h:∀ t∈g.params,t.check g.regs=0):s.to ⟨(k:Int),a,xs⟩=Qv (passC s.H s.f.regs a g.regs) (s.handC xs (g.params.map (Qag a))):=by
 unfold JSt.to passC;simp only[Int.toNat_natCast,i]
 by_cases d:(a.length:Int)=g.regs
 ·rw[Xs d,Xs d]
  by_cases b:Qdp s.f.regs.toNat a=0
  ·rw[Qx b,Qx b]
   by_cases c:hPass s.H [] a=0
   ·rw[Qx c,Qx c,QeT (fun t e=>QgK (s:=s) (QeP c) d (h t e))]
   ·rw[Ql c,Ql c]
  ·rw[Ql b,Ql b];rw[Ql b]
 ·rw[Xr d,Xr d];rfl
theorem QmM {s:JSt}(e:s.f.regs=(n:Int)) (g:∀ t∈s.f.results,t.check s.f.regs=0):s.handC l s.f.results=s.args l s.f.results (QhD s.f.regs.toNat) :=
 QdW Z (fun i t u d b=>by
  rw[d] at b
  injection b with b
  rw[<-b,e,XT]
  have:=g t (Zm d)
  refine QgD (a:=s.f.regs) (by rw[e];unfold QhD;simp) (fun i c=>?_) (QU.1 this).2;unfold QhD at c |-;simp at c
  simp[List.getD,c])
theorem QkN {A:Nat->Prop}{s:JSt}{x:Qs}(hA:∀ k,A k->k<w.heap.size) (P:JOk s) (h:SAt w b O A s) (n:intsL.In w Q x.regs [.slice rg x.regs.length rc]) (l:intsL.In w Q x.args [.slice ag x.args.length ac]) (F:x.regs.length<=rc) (z:ZA x) (V:x.form s.m.length=0) (q:x.op=14) :
 Calls prog 212 #[Pv b 0,Qel x rg ag rc ac] w fun e w'=>QO w b O A s (s.next x) (s.goC x) e w':=by
 have U:=Qa7 (s:=s) q;obtain⟨op,j,f,i,p,d,a,c⟩:=x
 have q:op=14:=q;subst q;have HE:=Qa U;obtain⟨f1,W,f3,-⟩:=Q7 V
 have D:=Qa (Xh f1 (Xh W f3));obtain⟨ra,rb,C⟩:=z
 have HI:=Qa (Xh ra (Xh rb C));have hL:=P.vals;have B:=Qa (Qgo hA P h n l F #[Iv 14,Iv j,Iv f,Iv i,Iv p,Iv d,.slice rg a.length rc,.slice ag c.length ac]);clear h hA P n l U V f1 W f3 ra rb C F;go_enter func212,ntmps212
 go_upto_region 1 with fail
 generalize w.alloc (.cells #[Iv 14,Iv j,Iv f,Iv i,Iv p,Iv d,.slice rg a.length rc,.slice ag c.length ac] 78)=w1 at B |-;generalize w.heap.size=X at B |-;obtain⟨HJ,H0,aa,H,HR,HG,HB,HA,HO,X1,S⟩:=B.out
 clear B;obtain⟨x0,x1,x2,x3,x4,-,x6,x7⟩:=QX X1.out
 have K:Hid (∀ e E,QO w b O A s (s.callS ⟨14,j,f,i,p,d,a,c⟩) (s.callC ⟨14,j,f,i,p,d,a,c⟩) e E->QO w b O A s (s.next ⟨14,j,f,i,p,d,a,c⟩) (s.goC ⟨14,j,f,i,p,d,a,c⟩) e E):=fun e E G=>(by
  have hk:=D.out.2.1 Z;obtain⟨k,u⟩:=Xc hk.1
  have u:p=(k:Int):=u;subst u;have M:k<s.m.length:=by have:=hk.2.1;omega
  have o:s.m[k]?=some s.m[k]:=Zg M;generalize s.m[k]=g at o;have R:g∈s.m:=Zm o;have N:=HJ.out.mod.2 g R;have e1:s.callC ⟨14,j,f,i,(k:Int),d,a,c⟩=Qv (QbY s.H a g.regs) (Qv (s.handC c (g.params.map (Qag a))) (QZ s.L.length g.results.length)):=by unfold JSt.callC;simp only[Int.toNat_natCast,o]
  have e2:s.makes ⟨14,j,f,i,(k:Int),d,a,c⟩=if (a.length:Int)=g.regs then (Qv (QL s.H [] a) (s.args c g.params a),g.results.map (Qag a)) else (2,[]):=by rw[HE.out];simp only[Int.toNat_natCast,o]
  have J:s.goC ⟨14,j,f,i,(k:Int),d,a,c⟩=s.callC ⟨14,j,f,i,(k:Int),d,a,c⟩:=by
   rw[e1]
   unfold JSt.goC QbY;rw[e2]
   by_cases r:(a.length:Int)=g.regs
   ·rw[Xs r,Xs r]
    by_cases y:QL s.H [] a=0
    ·rw[QeT (fun t ht=>QgK (s:=s) (ZB y) r (N.params.2 t ht)),Qx y,XN,Qx y]
    ·rw[Ql y,Ql y,Ql y]
   ·rw[Xr r,Xr r];rfl
  refine G.to J (fun I=>?_);rw[QT (by simp) (by simp),e2]
  unfold JSt.callS;simp only[Int.toNat_natCast,o]
  rw[e1] at I
  unfold QbY at I;by_cases r:(a.length:Int)=g.regs
  ·rw[Xs r]
  ·rw[Xr r] at I;cases I)
 have CM:=Qa (QhW (x:=⟨14,j,f,i,p,d,a,c⟩) HA.out HJ.out H.out HR.out HG.out S.out (D.out.2.1 Z).2.2.1 (D.out.2.1 Z).2.2.2 ⟨(D.out.2.1 Z).1,(D.out.2.1 Z).2.1⟩);have x5:=Qb X1.out 5 _ Z;go_wp2_with fail
 refine CM.out.mono ?_;rintro e' E G;have T:Hid (QO w b O A s (s.next ⟨14,j,f,i,p,d,a,c⟩) (s.goC ⟨14,j,f,i,p,d,a,c⟩) e' E):=K.out _ _ (G.after HB.out);rcases G with ⟨h1,rfl,h3⟩|⟨h1,rfl,h3⟩
 rotate_left
 ·exact⟨Z,T.out⟩
 clear h1 h3 CM;go_wp2
 exact Xz (v:=.tuple #[]) (by simp[results,results212,go_sem]) Z T.out
theorem QlP {A:Nat->Prop}{s:JSt}{x:Qs}(hA:∀ k,A k->k<w.heap.size) (hJ:JOk s) (h:SAt w b O A s) (i:intsL.In w Q x.regs [.slice rg x.regs.length rc]) (f:intsL.In w Q x.args [.slice ag x.args.length ac]) (R:x.regs.length<=rc) (U:ZA x) (hf:x.form s.m.length=0) (j:x.op=6) :
 Calls prog 212 #[Pv b 0,Qel x rg ag rc ac] w fun e w'=>QO w b O A s (s.next x) (s.goC x) e w':=by
 have hE:=Qdi (s:=s) j;obtain⟨op,a,E,q,xk,o,F,y⟩:=x
 have j:op=6:=j;subst j;have HE:=Qa hE;obtain⟨f1,f2,f3,-⟩:=Q7 hf
 have HF:=Qa (Xh f1 (Xh f2 f3));obtain⟨ra,rb,N⟩:=U
 have HI:=Qa (Xh ra (Xh rb N));have hL:=hJ.vals;have B:=Qa (Qgo hA hJ h i f R #[Iv 6,Iv a,Iv E,Iv q,Iv xk,Iv o,.slice rg F.length rc,.slice ag y.length ac]);clear h hA hJ i f hE hf f1 f2 f3 ra rb N R;go_enter func212,ntmps212
 go_upto_region 1 with fail
 generalize w.alloc (.cells #[Iv 6,Iv a,Iv E,Iv q,Iv xk,Iv o,.slice rg F.length rc,.slice ag y.length ac] 78)=w1 at B |-;generalize w.heap.size=X at B |-;obtain⟨HJ,H0,aj,H,HR,HG,HB,HA,HO,X1,ai⟩:=B.out
 clear B;obtain⟨x0,x1,x2,x3,x4,-,x6,x7⟩:=QX X1.out
 obtain⟨k,I⟩:=Xc (HF.out.1 (by simp)).1
 have I:xk=(k:Int):=I;subst I;have ah:k<=7:=by have:=(HF.out.1 (by simp)).2;simp only at this;omega
 have EG:Hid (s.goC ⟨6,a,E,q,(k:Int),o,F,y⟩=Qv (s.fieldC a k) (QZ s.L.length 1)):=by
  show _=_;unfold JSt.goC JSt.fieldC;rw[HE.out]
  simp only[Int.toNat_natCast]
  cases J:s.at a with
  | none=>unfold JSt.want;rw[J];rfl
  | some t =>
    simp only
    by_cases C:s.want a 3 true=0
    ·rw[Xs C,Qx C]
     by_cases n:k<t.2.2.length
     ·rw[Zg n,Xs n];rfl
     ·rw[Xk (by omega),Xr n];rfl
    ·rw[Xr C,Ql C];rw[Ql C,Ql C]
 have C1:=Qa (QdE a k (by omega) hL HO.out H.out);go_wp2_with fail
 refine(C1.out ).mono ?_
 rintro e' w2 ⟨hq,b2⟩;have W:=Qa (HB.out.trans (b2.mono HB.out.size));have H2:=Qa (H.out.below b2);have V:=Qa (fun k n=>Zl (HA.out k n) b2.size);have af:=Qa (fun k n=>Zl (HO.out k n) b2.size);rcases hq with ⟨G,y2,rfl,hy⟩|⟨G,rfl⟩
 rotate_left
 ·exact⟨Z,QO.bad ((fun G=>by rw[EG.out,Ql G]) G) G (Yh H0.out W.out)⟩
 have M:=Qa G;clear G b2 C1;obtain⟨t,u,p,c,J,hu,rfl,S⟩:=hy
 have aa:=TT.height_lt u;have h5:u.height<=5:=by omega
 have T:t.check s.H.length=0:=HJ.out.types t (QdL J).1
 have z:u.ok:=by
  obtain⟨pm,cm,hh,a1,c1,a2,c2,a3,c3,aL,cL,RR⟩:=H0.out.read
  obtain⟨-,hn,-,ab⟩:=QdL J
  obtain⟨g,a',c',e,-,-,-,-,ad⟩:=RR.row _ t ab
  exact ad.2 u (Zm hu)
 have HS:Hid (s.next ⟨6,a,E,q,(k:Int),o,F,y⟩={ s with L:=s.L++[u.at 5] }):=by
  show _=_;rw[QT (by simp) (by simp),HE.out]
  have C:s.want a 3 true=0:=by
   have:=M.out
   unfold JSt.fieldC at this;exact(QD this).1
  simp only[Int.toNat_natCast,J,if_pos C,hu]
 have ae:Hid (∀ e P,QO w b O A s { s with L:=s.L++[u.at 5] } (QZ s.L.length 1) e P->QO w b O A s (s.next ⟨6,a,E,q,(k:Int),o,F,y⟩) (s.goC ⟨6,a,E,q,(k:Int),o,F,y⟩) e P):=fun e P K=>K.to (by rw[EG.out,Qx M.out]) (fun _=>HS.out)
 have CM:Hid (∀ d,Calls prog 244 #[Pv b 0,.slice (some ⟨w2.heap.size,0,none⟩) 1 d] (w2.alloc (.cells #[Iv u.kind,Iv u.r,.slice p u.len c] 105)) fun e w'=>QO w2 b O A s { s with L:=s.L++[u.at 5] } (QZ s.L.length 1) e w'):=fun d=>by
  have b1:=Zd w2 (.cells #[Iv u.kind,Iv u.r,.slice p u.len c] 105);have D:=Qd2 (t:=u.at 5) (p:=p) (c:=c) (d:=d) V.out (TIn.at 5 h5 S) (TT.at_ok 5 z);rw[TT.at_kind,TT.at_r,TT.at_len 5 _ h5] at D
  exact(Qav (l:=[u.at 5]) Z (by simp) D hL (fun k n=>Zl (V.out k n) b1.size) (H2.out.below b1)).mono (fun e w' K=>K.after b1)
 clear J hu S aa h5 T z HS EG;simp only[Tv]
 go_wp2_with fail
 refine(CM.out _).mono ?_
 rintro e' P K;have FF:Hid (QO w b O A s (s.next ⟨6,a,E,q,(k:Int),o,F,y⟩) (s.goC ⟨6,a,E,q,(k:Int),o,F,y⟩) e' P):=ae.out _ _ (K.after W.out);rcases K with ⟨h1,rfl,h3⟩|⟨h1,rfl,h3⟩
 rotate_left
 ·exact⟨Z,FF.out⟩
 clear h1 h3 CM;go_wp2
 exact Xz (v:=.tuple #[]) (by simp[results,results212,go_sem]) Z FF.out
theorem QlJ {A:Nat->Prop}{s:JSt}{x:Qs}(hA:∀ k,A k->k<w.heap.size) (hJ:JOk s) (h:SAt w b O A s) (j:intsL.In w Q x.regs [.slice rg x.regs.length rc]) (i:intsL.In w Q x.args [.slice ag x.args.length ac]) (N:x.regs.length<=rc) (S:ZA x) (hf:x.form s.m.length=0) (n:x.op=7) :
 Calls prog 212 #[Pv b 0,Qel x rg ag rc ac] w fun e w'=>QO w b O A s (s.next x) (s.goC x) e w':=by
 have hE:=QcX (s:=s) n;obtain⟨op,a,f,q,xk,o,I,y⟩:=x
 have n:op=7:=n;subst n;have HE:=Qa hE;obtain⟨f1,f2,f3,-⟩:=Q7 hf
 have HF:=Qa (Xh f1 (Xh f2 f3));obtain⟨ra,rb,M⟩:=S
 have HI:=Qa (Xh ra (Xh rb M));have W:=hJ.vals;have B:=Qa (Qgo hA hJ h j i N #[Iv 7,Iv a,Iv f,Iv q,Iv xk,Iv o,.slice rg I.length rc,.slice ag y.length ac]);clear h hA hJ j i hE hf f1 f2 f3 ra rb M N;go_enter func212,ntmps212
 go_upto_region 1 with fail
 generalize w.alloc (.cells #[Iv 7,Iv a,Iv f,Iv q,Iv xk,Iv o,.slice rg I.length rc,.slice ag y.length ac] 78)=J at B |-;generalize w.heap.size=X at B |-;obtain⟨HJ,H0,ah,H,HR,HG,HB,HA,HO,X1,af⟩:=B.out
 clear B;obtain⟨x0,x1,x2,x3,x4,-,x6,x7⟩:=QX X1.out
 obtain⟨k,E⟩:=Xc (HF.out.1 (by simp)).1
 have E:xk=(k:Int):=E;subst E;have ae:k<=7:=by have:=(HF.out.1 (by simp)).2;simp only at this;omega
 have EG:Hid (s.fieldC a k≠0->s.goC ⟨7,a,f,q,(k:Int),o,I,y⟩=s.fieldC a k):=fun d=>by
  unfold JSt.goC;rw[HE.out]
  unfold JSt.fieldC at d |-;simp only[Int.toNat_natCast]
  cases z:s.at a with
  | none=>unfold JSt.want;rw[z];rfl
  | some t =>
    rw[z] at d
    simp only at d |-
    by_cases C:s.want a 3 true=0
    ·rw[Qx C] at d |-
     rw[Xs C]
     by_cases U:k<t.2.2.length
     ·rw[Xs U] at d;exact absurd Z d
     ·rw[Xk (by omega),Xr U];rfl
    ·rw[Xr C,Ql C,Ql C]
 have aa:Hid (∀ t u,s.fieldC a k=0->s.at a=some t->t.2.2[k]?=some u->s.goC ⟨7,a,f,q,(k:Int),o,I,y⟩=s.beC f (u.at 5)/\s.next ⟨7,a,f,q,(k:Int),o,I,y⟩=s):=fun t u h0 z K=>by
  have C:s.want a 3 true=0:=by
   unfold JSt.fieldC at h0;exact(QD h0).1
  rw[QT (by simp) (by simp)]
  unfold JSt.goC JSt.beC;rw[HE.out]
  simp only[Int.toNat_natCast,z,if_pos C,K]
  cases s.at f with
  | none=>exact⟨Z,by simp⟩
  | some v =>
    simp only
    have e:ZQ (u.at 5=v)=ZQ (v=u.at 5):=Qf5 (by rw[Qa4];exact⟨fun e=>e.symm,fun e=>e.symm⟩);rw[e]
    cases ZQ (v=u.at 5) with
    | true=>exact⟨by show Qv 0 (QZ s.L.length 0)=_;rw[QbA W];rfl,by simp⟩
    | false=>exact⟨Z,by simp⟩
 have ad:Hid (∀ t∈s.L,t.count<=100000):=fun t ht=>Zt (Z2 (HJ.out.types t ht)) (by omega);go_upto_region 17 with fail
 have BD:Hid (Below J.heap.size J J.drew):=Qb3 Zr;have C1:Hid (Calls prog 245 #[Pv b 0,Iv a,Iv k] J.drew fun e w'=>ZG (s.fieldC a k) (QnR w' A s a k) e/\Below J.drew.heap.size J.drew w'):=QdE a k (by omega) W HO.out (H.out.below BD.out)
 have DM:Hid (∀ (u:TT 5) (p:Option Addr) (c:Nat) (D:World),TIn D (fun g=>¬ A g) u p->SAt D b O A s->(∀ k,O k->k<D.heap.size)->Calls prog 246 #[Pv b 0,Iv f,.agg #[Iv u.kind,Iv u.r,.slice p u.len c]] D fun e w'=>ZG (s.beC f (u.at 5)) VNone e/\Below D.heap.size D w'):=fun u p c D K hs ho=>by
  have h5:u.height<=5:=by have:=TT.height_lt u;omega
  have:=Qc1 (s:=s) f (t:=u.at 5) (p:=p) (c:=c) (TIn.at 5 h5 K) W ad.out ho hs
  rw[show Tv (u.at 5) p c=.agg #[Iv u.kind,Iv u.r,.slice p u.len c] by simp only[Tv,TT.at_kind,TT.at_r,TT.at_len 5 _ h5]] at this
  exact this
 go_region_with (first
  | (go_at_call 245;refine(C1.out).mono ?_;rintro e' w2 ⟨hq,T⟩;have F:=Qa (HB.out.trans ((Zx T).mono HB.out.size));rcases hq with ⟨l,y2,rfl,t,u,p,c,z,K,rfl,P⟩|⟨l,rfl⟩;rotate_left;exact⟨Z,QO.bad (EG.out l) l (Yh H0.out F.out)⟩;have ai:=Qk x2 (Zx T);have H2:=Qa (H.out.below (Zx T));have V:=Qa (fun k U=>Zl (HO.out k U) (Zx T).size);have HU:=Qa P;have G:=Qa (aa.out t u l z K);clear P z K l T)
  | (go_at_call 246;refine(DM.out _ _ _ _ HU.out H2.out V.out).mono ?_;rintro e' w3 ⟨hq,b3⟩;have R:=Qa (F.out.trans (b3.mono F.out.size));rcases hq with ⟨l,y3,rfl,hy⟩|⟨l,rfl⟩;rotate_left;exact⟨Z,QO.bad G.out.1 l (Yh H0.out R.out)⟩;subst hy;have ab:=Qa l;clear l b3))
 all_goals
  have FF:Hid (QO w b O A s (s.next ⟨7,a,f,q,(k:Int),o,I,y⟩) (s.goC ⟨7,a,f,q,(k:Int),o,I,y⟩) (.returned (.tuple #[])) w3):=QO.none H0.out R.out (by rw[G.out.1,ab.out]) G.out.2;go_wp2
  exact Xz (v:=.tuple #[]) (by simp[results,results212,go_sem]) Z FF.out
def QnA (w6:World) (b X mg mo nb cb k:Nat) (ds:List Value) (t:Tmp) (v:Value) (w:World):Prop :=
 match ([(4,fun v w=>∃ B,v=.pointer (some ⟨B,0,none⟩)/\w6.heap.size<=B/\∃ c,c.size=12/\Blk w B c 86)]:List (Tmp × (Value->World->Prop))).lookup t with
 | some p=>p v w
 | none=>v=(([(0,.pointer (some ⟨b,0,none⟩)),(3,.pointer (some ⟨X,0,none⟩)),(5,.pointer (some ⟨b,0,none⟩)),(6,.pointer (some ⟨b,0,none⟩)),(7,.pointer (some ⟨b,2,none⟩)),(8,.pointer (some ⟨b,5,none⟩)),(9,.slice (some ⟨mg,mo,none⟩) nb cb),(10,.pointer (some ⟨X,0,none⟩)),(11,.int .i64 (k:Int)),(12,.pointer (some ⟨mg,mo+k*12,none⟩)),(13,.agg ds.toArray)]:List (Tmp × Value)).lookup t).getD undef
theorem jt1 {o i r z:Nat}(D:w6.cell? ⟨b,5,none⟩=some (.slice (some ⟨o,i,none⟩) r z)) (G:w6.cell? ⟨X,0,none⟩=some (Iv (k:Int))) (F:Hid (w6.rangeAt o (i+k*12) ds)) (x:ds.length=12) (H:(k:Int)<r){Q:Exit->Act->World->Prop}
 (a:Act) (m:Nat) (I:a.tmps.size=m) (s:29<=m) (J:a.tmps.getD 0 undef=Pv b 0) (q:a.tmps.getD 3 undef=Pv X 0)
 (hend:∀ ops vs w',vs 13=.agg ds.toArray->(fun v w=>∃ B,v=Pv B 0/\w6.heap.size<=B/\∃ c,c.size=12/\Blk w B c 86) (vs 4) w'->Below w6.heap.size w6 w'->wpList prog ops Q (Qao 10 ((Tryz.f250.body.bind (Qi 1)).getD .skip)) (QN a vs [5,6,7,8,9,10,11,12,13,4]) w') :
 Code.wp prog ((Tryz.f250.body.bind (Qi 1)).getD .skip) Q a w6:=by
 conv=>arg 2;whnf
 refine Qg 10 (QnA w6 b X o i r z k ds) (fun w=>Below w6.heap.size w6 w) (fun w w'=>Below w.heap.size w w') (outs:=[0,3]) (gs:=[]) (bs:=[true,true,true,true,true,true,true,true,true,true]) (by kernel_rfl) (n:=29) I s (by kernel_rfl) (by kernel_rfl) ?hR ?hG (QI Zr 1) ⟨J,q,Y⟩ ?hA ?hend
 case hR =>
  intro t v w w' E h;unfold QnA at h |-;split at h
  ·rename_i p j
   simp only[List.lookup_cons,List.lookup_nil] at j
   split at j
   ·cases j;exact(by obtain⟨B,e,A,c,q,y⟩:=h;exact⟨B,e,A,c,q,(E.block B (XC y)).trans y⟩)
   ·cases j
  ·exact h
 case hG=>exact Y
 case hend=>exact fun ops vs w' d f=>hend ops vs w' (f 13 (by kernel_rfl)) (f 4 (by kernel_rfl)) d
 case hA =>
  repeat
   refine⟨fun a w d f K l=>?_,?_⟩
   focus first
    | obtain⟨g,-⟩:=f
      conv at g=>whnf;rhs;whnf
      have M:=Qk D d;have L:=Qk G d;go_simp;exact l _ _ Zr d Z
    | clear f
      go_simp;exact l _ _ (Zd _ _) (d.alloc d.size _) ⟨_,Z,d.size,_,Z,Qe _ _ _⟩
    | obtain⟨g,C,-⟩:=f
      conv at g=>whnf;rhs;whnf
      conv at C=>whnf;rhs;whnf
      go_simp;exact l _ _ Zr d Z
    | obtain⟨g,-⟩:=f
      conv at g=>whnf;rhs;whnf
      obtain⟨N,u⟩:=underBk
      refine wp_load_mid 86 (.tmp 12) Z o (i+k*12) g ds _ (Qad F.out d) u Z (by rw[x];exact sizeBk) ?_;exact l _ _ Zr d Z
  trivial
def QnM (w2:World) (b X C N ac n1 d1 Kn rc:Nat) (ag rg p1:Option Addr) (ps:List (TT 6)) (regs:List Int) (t:Tmp) (v:Value) (w:World):Prop :=
 match ([(27,fun v w=>∃ g,v=.slice (some ⟨g,0,none⟩) n1 n1/\w2.heap.size<=g/\Qcx w g n1 (ps.map (Qag regs)))]:List (Tmp × (Value->World->Prop))).lookup t with
 | some p=>p v w
 | none=>v=(([(0,.pointer (some ⟨b,0,none⟩)),(3,.pointer (some ⟨X,0,none⟩)),(4,.pointer (some ⟨C,0,none⟩)),(20,.pointer (some ⟨b,0,none⟩)),(21,.pointer (some ⟨X,2,none⟩)),(22,.slice ag N ac),(23,.pointer (some ⟨C,1,none⟩)),(24,.slice p1 n1 d1),(25,.pointer (some ⟨X,1,none⟩)),(26,.slice rg Kn rc)]:List (Tmp × Value)).lookup t).getD undef
theorem jt3 {C d d1 k:Nat}{p1:Option Addr}{i:List (TT 6)}{R:Nat->Prop}(D:w2.cell? ⟨X,1,none⟩=some (.slice rg k rc)) (S:w2.cell? ⟨X,2,none⟩=some (.slice ag N ac)) (H:w2.cell? ⟨C,1,none⟩=some (.slice p1 d d1)) (O:Hid (regs.length=k)) (y:Hid (i.length=d)) (l:d<=1000) (U:Hid (intsL.In w2 Q regs [.slice rg k rc])) (L:Hid (LIn w2 R i p1)) (M:Hid (∀ x∈i,x.count<=2000)){Q:Exit->Act->World->Prop}
 (a:Act) (m:Nat) (P:a.tmps.size=m) (q:29<=m) (T:a.tmps.getD 0 undef=Pv b 0) (F:a.tmps.getD 3 undef=Pv X 0) (E:a.tmps.getD 4 undef=Pv C 0)
 (hend:∀ ops vs w',vs 22=.slice ag N ac->vs 20=Pv b 0->(fun v w=>∃ g,v=.slice (some ⟨g,0,none⟩) d d/\w2.heap.size<=g/\Qcx w g d (i.map (Qag regs))) (vs 27) w'->Below w2.heap.size w2 w'->wpList prog ops Q (Qao 8 ((Tryz.f250.body.bind (Qi 3)).getD .skip)) (QN a vs [20,21,22,23,24,25,26,27]) w') :
 Code.wp prog ((Tryz.f250.body.bind (Qi 3)).getD .skip) Q a w2:=by
 conv=>arg 2;whnf
 refine Qg 8 (QnM w2 b X C N ac d d1 k rc ag rg p1 i regs) (fun w=>Below w2.heap.size w2 w) (fun w w'=>Below w.heap.size w w') (outs:=[0,3,4]) (gs:=[]) (bs:=[true,true,true,true,true,true,true,true]) (by kernel_rfl) (n:=29) P q (by kernel_rfl) (by kernel_rfl) ?hR ?hG (QI Zr 1) ⟨T,F,E,Y⟩ ?hA ?hend
 case hR =>
  intro t v w w' I h;unfold QnM at h |-;split at h
  ·rename_i p j
   simp only[List.lookup_cons,List.lookup_nil] at j
   split at j
   ·cases j;exact(by obtain⟨g,e,A,B⟩:=h;exact⟨g,e,A,B.below I⟩)
   ·cases j
  ·exact h
 case hG=>exact Y
 case hend=>exact fun ops vs w' c f=>hend ops vs w' (f 22 (by kernel_rfl)) (f 20 (by kernel_rfl)) (f 27 (by kernel_rfl)) c
 case hA =>
  iterate 7
   refine⟨fun a w c f K u=>?_,?_⟩
   ·obtain⟨s,-⟩:=f
    conv at s=>whnf;rhs;whnf
    have u0:=Qk S c;have W:=Qk H c;have V:=Qk D c;go_simp;exact u _ _ Zr c Z
  refine⟨fun a w c f K u=>?_,?_⟩
  ·obtain⟨s,G,-⟩:=f
   conv at s=>whnf;rhs;whnf
   conv at G=>whnf;rhs;whnf
   go_simp;refine Xm (QaY O.out y.out l (Ya U.out c) (L.out.below c) M.out) ?_;rintro r7 w7 ⟨J,rfl,o,r,z⟩;go_simp;exact u _ _ z (c.trans (z.mono c.size)) ⟨J,Z,Zt c.size o,r⟩
  trivial
theorem Qcb {A:Nat->Prop}{s:JSt}{x:MTo}(hJ:JOk s) (hO:∀ k,O k->k<w.heap.size) (h:SAt w b O A s) (l:intsL.In w Q x.regs [.slice rg x.regs.length rc]) (i:intsL.In w Q x.args [.slice ag x.args.length ac]) (ae:x.regs.length<=16) (av:x.args.length<=8) (am:0<=x.block/\x.block<s.f.blocks.length) :
 Calls prog 250 #[Pv b 0,toV x rg ag rc ac] w fun e w'=>ZG (s.to x) VNone e/\Below w.heap.size w w':=by
 have HJ:=Qa hJ;have HO:=Qa hO;have hL:=hJ.vals;obtain⟨xb,c,d⟩:=x
 simp only at l i ae av am
 obtain⟨k,rfl⟩:=Xc am.1
 have be:k<s.f.blocks.length:=by omega
 have D:s.f.blocks[k]?=some s.f.blocks[k]:=Zg be;generalize s.f.blocks[k]=g at D;have b1:=Zd w (.cells #[Iv (k:Int),.slice rg c.length rc,.slice ag d.length ac] 82);have ah:=Qe w #[Iv (k:Int),.slice rg c.length rc,.slice ag d.length ac] 82;have K1:=Qa (h.below b1);have ar:Hid (intsL.In (w.alloc (.cells #[Iv (k:Int),.slice rg c.length rc,.slice ag d.length ac] 82)) Q c [.slice rg c.length rc]):=Ya l b1;have aj:Hid (intsL.In (w.alloc (.cells #[Iv (k:Int),.slice rg c.length rc,.slice ag d.length ac] 82)) Q d [.slice ag d.length ac]):=Ya i b1;have S:=Qa b1;have r:=Qa ah;clear h l i b1 ah hJ hO;go_enter func250,ntmps250
 go_upto_region 1 with fail
 obtain⟨X,hX⟩:∃ X,w.heap.size=X:=⟨_,Z⟩
 generalize br:w.alloc (.cells #[Iv (k:Int),.slice rg c.length rc,.slice ag d.length ac] 82)=w1 at K1 ar aj S r |-;rw[hX] at r
 rw[hX]
 clear br hX;have x0:=Qb r.out 0 _ Z;have x1:=Qb r.out 1 _ Z;have x2:=Qb r.out 2 _ Z;obtain⟨pm,cm,hh,a1,c1,a2,c2,a3,c3,aL,cL,R⟩:=K1.out.read
 obtain⟨-,-,-,-,-,q5,-⟩:=R.cells
 obtain⟨fa,fc,fb,fd,fe,ff,bg,-,-,bd,-⟩:=Qaq R.fn
 simp only[List.cons.injEq,Value.slice.injEq,and_true,true_and] at bg
 obtain⟨-,-,rfl,rfl⟩:=bg
 obtain⟨mg,mo,n,m,u,rfl,p,bf,aa,af⟩:=Qbp bd D
 have ax:=Qa p;have ap:Hid ((Qo 6).In w1 (fun g=>¬ A g) g.params [.slice n g.params.length m]):=aa;have al:Hid (u.length=10):=bf;have ad:=Qa af;have ay:(k:Int)<s.f.blocks.length:=by omega
 have ba:=Qa (HJ.out.mod.2 s.f HJ.out.fn);have aw:Hid (g∈s.f.blocks):=Zm D;have M:=Qa (ba.out.blocks g aw.out);have a8:Hid (¬ MBlock.great g):=fun hg=>HJ.out.tiny (.inr ⟨s.f,HJ.out.fn,.inr (.inr (.inr ⟨g,aw.out,hg⟩))⟩);have bn:Hid (∀ t∈g.params,t.count<=2000):=fun t ht=>Xo fun bq=>a8.out (.inr (.inl (.inr ⟨t,ht,bq⟩)));have bs:Hid (∀ t∈s.L,t.count<=100000):=fun t ht=>Zt (Z2 (HJ.out.types t ht)) (by omega);have E:Hid (s.to ⟨(k:Int),c,d⟩=Qv (passC s.H s.f.regs c g.regs) (s.handC d (g.params.map (Qag c)))):=Qne D M.out.params.2;clear R bd p aa af bf D am;generalize bv:s.f.blocks.length=nb at q5 be ay;refine jt1 q5 x0 ax (by simp[al.out]) ay _ _ Z (Xg (by kernel_rfl)) Z Z ?_;rintro bm vs o ab ⟨B,a7,hB,cB,az,P⟩ b5;show wpList _ bm _ [_] (QN _ vs [5,6,7,8,9,10,11,12,13,4]) o;simp only[QN,Act.put,List.setIfInBounds_toArray,List.set_cons_zero,List.set_cons_succ,ab,a7]
 have a:(Value.int .i64 g.regs::Value.slice n g.params.length m::u).length=12:=by simp[al.out]
 have TH:Hid (o.there B 0 (Value.int .i64 g.regs::Value.slice n g.params.length m::u).toArray.size):=by
  intro j hj;rw[List.size_toArray,a] at hj
  rw[XK]
  refine⟨?_,Qj P j⟩
  rw[Qb P j cB[j] (by simp)];rfl
 have TS:Hid ((prog.info? 86).map (·.size)=some (Value.int .i64 g.regs::Value.slice n g.params.length m::u).toArray.size):=by show _=_;rw[List.size_toArray,a];exact sizeBk
 have TO:Hid ((Value.int .i64 g.regs::Value.slice n g.params.length m::u).toArray.all (·.oneCell')=true):=by
  refine all_oneCell_toArray fun v hv=>?_;simp only[List.mem_cons] at hv
  rcases hv with rfl | rfl | hv
  ·rfl
  ·rfl
  ·exact ad.out v hv
 have B6:Hid (Blk (o.setCells B 0 (Value.int .i64 g.regs::Value.slice n g.params.length m::u).toArray.toList) B (Value.int .i64 g.regs::Value.slice n g.params.length m::u).toArray 86):=by
  have h0:Blk o B ([]++cB.toList).toArray 86:=by rw[List.nil_append,Array.toArray_toList];exact P
  have:=Blk.sets (Value.int .i64 g.regs::Value.slice n g.params.length m::u) [] cB.toList o (by rw[a];simp[az]) h0
  exact this
 have z:Hid (Below w1.heap.size w1 (o.setCells B 0 (Value.int .i64 g.regs::Value.slice n g.params.length m::u).toArray.toList)):=by
  have:=Qz.setCells (O:=fun k=>k=B) (O':=fun k=>k=B) (b:=B) Z (Value.int .i64 g.regs::Value.slice n g.params.length m::u).toArray.toList 0 _ (Qz.refl _ o)
  exact b5.trans (this.below b5.size (fun k hk=>by omega))
 clear P hB az b5 ab a7 a;generalize a6:g.regs=gr at E M B6 z TH TS TO |-;have bo:Hid (g.regs=gr):=a6;generalize ao:g.params.length=T at ap B6 z TH TS TO |-;have bj:Hid (g.params.length=T):=ao;have bu:T<=8:=by rw[<-ao];exact M.out.params.1
 have y0:(o.setCells B 0 (Value.int .i64 gr::Value.slice n T m::u).toArray.toList).cell? ⟨B,0,none⟩=some (Iv gr):=Qb B6.out 0 _ Z;have y1:(o.setCells B 0 (Value.int .i64 gr::Value.slice n T m::u).toArray.toList).cell? ⟨B,1,none⟩=some (.slice n T m):=Qb B6.out 1 _ Z;generalize bp:(Value.int .i64 gr::Value.slice n T m::u).toArray=q at B6 z TH TS TO y0 y1 |-;have K6:=Qa (K1.out.below z.out);have C:Hid (intsL.In (o.setCells B 0 q.toList) Q c [.slice rg c.length rc]):=Ya ar.out z.out;have J:Hid (intsL.In (o.setCells B 0 q.toList) Q d [.slice ag d.length ac]):=Ya aj.out z.out;have an:Hid ((Qo 6).In (o.setCells B 0 q.toList) (fun g=>¬ A g) g.params [.slice n T m]):=Ya ap.out z.out;have BW:Hid (Below w.heap.size w (o.setCells B 0 q.toList)):=S.out.trans (z.out.mono S.out.size);have bt:Hid (s.f.regs<=gr):=by have:=M.out.regs.1;rw[bo.out] at this;exact this
 have K:=Qk x1 z.out;have U:=Qk x2 z.out;clear a6 ao bp K1 ar aj ap S z B6 q5 x0 x1 x2 al ad a8 r ax;go_upto_region 2 with (refine wpList_store_mid Z 86 (.tmp 4) (.tmp 13) Z B 0 q Z Z TH.out TS.out TO.out ?_)
 clear TH TS TO;generalize o.setCells B 0 q.toList=w6 at K6 C J an BW K U y0 y1 |-;obtain⟨Kn,ak⟩:∃ Kn,c.length=Kn:=⟨_,Z⟩
 have HK:=Qa ak;rw[ak] at K C ae
 clear ak;obtain⟨N,hN⟩:∃ N,d.length=N:=⟨_,Z⟩
 have HN:=Qa hN;rw[hN] at U J av
 clear hN;have CP:=Qa (Qeb gr HK.out (by omega) C.out ba.out.regs.1 bt.out K6.out);go_wp2_with fail
 refine CP.out.mono ?_;rintro e' w7 ⟨hO,G⟩;have F:=Qa (BW.out.trans (G.mono BW.out.size));rcases hO with ⟨I,y,rfl,hy⟩|⟨I,rfl⟩
 rotate_left
 ·exact⟨Z,.inr ⟨by rw[E.out,Ql I];exact I,by rw[E.out,Ql I]⟩,F.out⟩
 subst hy;have E2:Hid (s.to ⟨(k:Int),c,d⟩=s.handC d (g.params.map (Qag c))):=by show _=_;rw[E.out,Qx I]
 have K7:=Qa (K6.out.below G);have a4:Hid (intsL.In w7 Q c [.slice rg Kn rc]):=Ya C.out G;have a5:Hid (intsL.In w7 Q d [.slice ag N ac]):=Ya J.out G;have bb:=Qa (QV (Ya an.out G)).1;have bc:=Qk K G;have au:=Qk U G;have bh:=Qk y1 G;clear I CP E G K6 C J an K U y0 y1 BW;go_upto_region 3 with fail
 refine jt3 bc au bh HK bj (by omega) a4 bb bn _ _ Z (Xg (by kernel_rfl)) Z Z Z ?_;rintro bi bk w8 W V ⟨gP,ai,bl,a9⟩ b8;show wpList _ bi _ [_] (QN _ bk [20,21,22,23,24,25,26,27]) w8;simp only[QN,Act.put,List.setIfInBounds_toArray,List.set_cons_zero,List.set_cons_succ,W,V,ai]
 have aq:=Qa (F.out.trans (b8.mono F.out.size))
 have CH:Hid (Calls prog 251 #[Pv b 0,.slice ag N ac,.slice (some ⟨gP,0,none⟩) T T] w8 fun e w'=>ZG (s.handC d (g.params.map (Qag c))) VNone e/\Below w8.heap.size w8 w') :=
  QaB HN.out (by omega) (by rw[XN,bj.out]) (by omega) (Ya a5.out b8) a9.lin hL bs.out (fun k hk=>Zl (HO.out k hk) aq.out.size) (K7.out.below b8)
 clear a9 bl b8 W V ai K7 a4 a5 bb bc au bh F;go_wp2_with fail
 refine CH.out.mono ?_;rintro e' w9 ⟨hO,b9⟩;have a0:=Qa (aq.out.trans (b9.mono aq.out.size));have FF:Hid (ZG (s.to ⟨(k:Int),c,d⟩) VNone e'):=by show ZG _ _ _;rw[E2.out];exact hO
 rcases hO with ⟨I,y,rfl,hy⟩|⟨I,rfl⟩
 rotate_left
 ·exact⟨Z,FF.out,a0.out⟩
 subst hy;clear I CH E2 b9;go_wp2
 exact Xz (v:=.tuple #[]) (by simp[results,results250,go_sem]) Z ⟨FF.out,a0.out⟩
theorem Xv:type_of% @of_decide_eq_true:=@of_decide_eq_true
def Qjo (H:List Bool) (regs:Int):Int:=if (Qal H).all (fun r=>decide (r<regs)) then 0 else 12
theorem QgP {A:Nat->Prop}{s:JSt}(r:Int) (d:w.cell? ⟨B,0,none⟩=some (Pv b 0)) (h:SAt w b O A s) :
 Calls prog 276 #[Iv r,Pv B 0] w fun e w'=>e=.returned (.bool (decide (r>=s.f.regs)))/\w'=w:=by
 obtain⟨n,o,m,i,c,j,p,l,g,q,k,R⟩:=h.read
 obtain⟨-,-,a,-⟩:=R.cells
 clear R h;generalize s.f.regs=t at a |-;go_enter func276,ntmps276
 go_wp2
 go_ret;exact⟨Z,Z⟩
theorem enters_left1:Qak 276:=fun _ _=>by kernel_rfl
theorem Qf8 {A:Nat->Prop}{s:JSt}(F:l.length=N) (S:N<=100000) (L:intsL.In w Q l [.slice p N c]) (H:w.cell? ⟨B,0,none⟩=some (Pv b 0)) (h:SAt w b O A s) :
 Calls prog 287 #[.slice p N c,.func (.func 276) #[] #[Pv B 0]] w fun e w'=>(∃ i:Int,e=.returned (Iv i)/\(0<=i↔∃ x∈l,s.f.regs<=x))/\w'=w:=by
 have T:=Qa L;have I:=Qa F;have C:=Qa (fun r=>QgP r H h);have M:=enters_left1;unfold Qak at M;clear L F h H;generalize s.f.regs=t at C |-;go_enter func287,ntmps287
 go_wp2
 go_loop [8] (fun i=>∃ k:Nat,k<=N/\i=Iv k/\∀ (j:Nat) (y:Int),j<k->l[j]?=some y->y<t) (fun i=>N - (intOf i).toNat)
 case atStart=>exact⟨0,Xb _,Z,fun j y D=>by omega⟩
 case round =>
  obtain⟨k,X,rfl,G⟩:=hrel
  have K:=Qa G;clear G;by_cases q:k<N
  ·have u:(k:Int)<N:=by omega
   have d:k<l.length:=by rw[I.out];exact q
   obtain⟨g,o,rfl,-,W,E⟩:=ZH T.out d
   obtain⟨y,n⟩:∃ y,l[k]?=some y:=⟨_,Zg d⟩
   rw[show l.getD k 0=y by rw[List.getD_eq_getElem?_getD,n];rfl] at E
   have J:=Qa n;have v:=Qa (C.out y);clear n d;by_cases a:t<=y
   ·rw[show decide (y>=t)=true from Xt a] at v
    have R:Hid (∃ x∈l,t<=x):=⟨y,Zm J.out,a⟩;clear a;go_wp2_with (go_at_call 276;refine(v.out).mono ?_;rintro e w' ⟨rfl,m⟩;have m:=m.symm;subst m)
    go_ret;exact⟨⟨k,Z,by simp only[R.out,iff_true];omega⟩,Z⟩
   ·rw[show decide (y>=t)=false from Xu a] at v
    have z:=Qa (Int.not_le.1 a);clear a;go_wp2_with (go_at_call 276;refine(v.out).mono ?_;rintro e w' ⟨rfl,m⟩;have m:=m.symm;subst m)
    go_round
    case rel =>
     refine⟨k+1,q,by go_num,fun j P D n=>?_⟩
     rcases Nat.lt_or_ge j k with h | h
     ·exact K.out j P h n
     ·have:j=k:=by omega
      subst this;have e:=J.out.symm.trans n;injection e with e
      subst e;exact z.out
    case measure=>simp[intOf];omega
  ·have u:¬ (k:Int)<N:=by omega
   go_wp2
   go_ret;refine⟨⟨-1,Z,by omega,fun hm=>?_⟩,Z⟩
   obtain⟨x,U,V⟩:=hm
   obtain⟨j,D,e⟩:=List.mem_iff_getElem.1 U
   have:=K.out j x (by have:=I.out;omega) (by rw[Zg D,e])
   omega
theorem Qdn {A:Nat->Prop}{s:JSt}(k:l.length=N) (g:N<=100000) (n:intsL.In w Q l [.slice p N c]) (j:w.cell? ⟨B,0,none⟩=some (Pv b 0)) (h:SAt w b O A s) :
 Calls prog 277 #[.slice p N c,.func (.func 276) #[] #[Pv B 0]] w fun e w'=>e=.returned (.bool (!(l.all (fun r=>decide (r<s.f.regs)))))/\w'=w:=by
 have C:=Qa (Qf8 k g n j h);clear n k h j;go_enter func277,ntmps277
 go_wp2_with fail
 refine C.out.mono ?_;rintro e w' ⟨⟨i,rfl,m⟩,d⟩;have d:=d.symm;subst d
 have E:Hid ((!(l.all (fun r=>decide (r<s.f.regs))))=decide (i>=0)):=by
  show _=_;rw[Bool.eq_iff_iff]
  simp only[Bool.not_eq_true',decide_eq_true_eq,ge_iff_le,m]
  rw[<-Bool.not_eq_true,Xe]
  constructor
  ·intro h;exact Classical.byContradiction fun o=>h (fun x a=>Xt (Int.not_le.1 (fun q=>o ⟨x,a,q⟩)))
  ·rintro ⟨x,a,t⟩ h
   have:=Xv (h x a)
   omega
 clear C m;go_wp2
 go_ret;exact⟨by rw[E.out];rfl,Z⟩
theorem Qg5 {A:Nat->Prop}{s:JSt}(W:s.H.length<=16) (h:SAt w b O A s) :
 Calls prog 252 #[Pv b 0] w fun e w'=>ZG (Qjo s.H s.f.regs) VNone e/\Below w.heap.size w w':=by
 have z:∀ (fn:Fn) (first cap:Array Value) (w:World),(Instr.makeFunc fn first cap).run prog w=.ok (.func fn first cap) w:=fun _ _ _ _=>rfl;have p:=Zd w (.cells #[Pv b 0] 234);have H:=Qa (h.below p);have t:=Qa p;have j:=Qe w #[Pv b 0] 234;have k:=Qb j 0 _ Z;obtain⟨Q,S,L,G,F,I,M,K,P,aL,U,R⟩:=H.out.read
 obtain⟨-,y,-⟩:=R.cells
 have u:=Qa (Qjv R.held);clear R h p j;go_enter func252,ntmps252
 go_upto_region 1 with fail
 generalize w.alloc (.cells #[Pv b 0] 234)=V at H t k y u |-;obtain⟨X,j⟩:∃ X,w.heap.size=X:=⟨_,Z⟩
 rw[j] at k |-
 rw[<-j]
 have x:=Qa j;go_wp2_with fail
 refine u.out.mono ?_;rintro B J ⟨a,c,rfl,g,m⟩;have C:=Qa (H.out.below m);have l:=Qa (t.out.trans (m.mono t.out.size));have o:=Qa (Qdn Z (by have:=Qi3 s.H;omega) g (Qk k m) C.out);have N:=Qk k m;clear g m u k y;generalize (Qal s.H).length=T at o |-;have E:Hid (Qjo s.H s.f.regs=if (Qal s.H).all (fun r=>decide (r<s.f.regs)) then 0 else 12):=rfl;generalize (Qal s.H).all (fun r=>decide (r<s.f.regs))=q at o E;rw[x.out]
 go_wp2_with (go_at_call 277;refine(o.out).mono ?_;rintro e w' ⟨rfl,i⟩;have i:=i.symm;subst i)
 refine(QbS _ _ _).mono ?_
 rintro B w' ⟨i,⟨n,rfl⟩|⟨n,rfl⟩⟩
 rotate_left
 ·exact⟨Z,ZG.bad (d:=12) (by rw[E.out,show q=false by simpa using n];rfl) (by decide),by rw[i];exact l.out⟩
 have i:=i.symm;subst i;have D:Hid (Qjo s.H s.f.regs=0):=by show _=_;rw[E.out,show q=true by simpa using n];rfl
 clear n;go_wp2
 exact Xz (v:=.tuple #[]) (by simp[results,results252,go_sem]) Z ⟨ZG.good D.out Z,l.out⟩
structure EnT (w wc:World) (b X:Nat) (O A Q:Nat->Prop) (s:JSt) (x:ZC) (e:EP):Prop where
 st:SAt wc b O A s
 box:Blk wc X (QbV x e) 84
 lists:Qdt wc Q x e
 bel:Below w.heap.size w wc
theorem EnT.below {wc:World}{A:Nat->Prop}{s:JSt}{x:ZC}{e:EP}(h:EnT w wc b X O A Q s x e) (k:Below wc.heap.size wc w'):EnT w w' b X O A Q s x e :=
 ⟨h.st.below k,(k.block X (XC h.box)).trans h.box,h.lists.below k,h.bel.trans (k.mono h.bel.size)⟩
theorem EnT.cells {wc:World}{A:Nat->Prop}{s:JSt}{x:ZC}{e:EP}(h:EnT w wc b X O A Q s x e):wc.cell? ⟨X,0,none⟩=some (Iv x.op)/\wc.cell? ⟨X,1,none⟩=some (Iv x.a)/\wc.cell? ⟨X,2,none⟩=some (Iv x.yes.block)/\wc.cell? ⟨X,3,none⟩=some (.slice e.pYR x.yes.regs.length e.cYR)/\wc.cell? ⟨X,4,none⟩=some (.slice e.pYA x.yes.args.length e.cYA)/\wc.cell? ⟨X,5,none⟩=some (Iv x.no.block)/\wc.cell? ⟨X,6,none⟩=some (.slice e.pNR x.no.regs.length e.cNR)/\wc.cell? ⟨X,7,none⟩=some (.slice e.pNA x.no.args.length e.cNA)/\wc.cell? ⟨X,8,none⟩=some (.slice e.pA x.args.length e.cA) :=
 ⟨Qb h.box 0 _ Z,Qb h.box 1 _ Z,Qb h.box 2 _ Z,Qb h.box 3 _ Z,Qb h.box 4 _ Z,Qb h.box 5 _ Z,Qb h.box 6 _ Z,Qb h.box 7 _ Z,Qb h.box 8 _ Z⟩
theorem Qk5 {A:Nat->Prop}{s:JSt}{x:ZC}{e:EP}(hJ:JOk s) (hO:∀ k,O k->k<w.heap.size) (h:SAt w b O A s) (hx:Qdt w Q x e) (G:-9223372036854775808<=x.a/\x.a<=9223372036854775807) (hf:x.form s.f.blocks.length=0) :
 Calls prog 214 #[Pv b 0,.agg (QbV x e)] w fun r w'=>ZG (s.fin x) VNone r/\Below w.heap.size w w':=by
 have D:=Qa hJ;have M:=Qa hO;have hL:=hJ.vals;have b1:=Zd w (.cells (QbV x e) 84);have W:Hid (EnT w (w.alloc (.cells (QbV x e) 84)) b w.heap.size O A Q s x e):=⟨h.below b1,Qe w _ _,hx.below b1,b1⟩;have q:=Qa (D.out.mod.2 s.f D.out.fn);have U:=Qa (QjJ q.out.many.2 hf);have ab:=Qa G;have ad:Hid (∀ t∈s.L,t.count<=100000):=fun t ht=>Zt (Z2 (D.out.types t ht)) (by omega);have E1:s.fin x=if x.op=1 then s.to x.yes else if x.op=2 then Qv (s.want x.a 1 false) (Qv (s.to x.yes) (s.to x.no)) else Qv (s.args x.args s.f.results (QhD s.f.regs.toNat)) (if (Qal s.H).all (fun r=>decide (r<s.f.regs)) then 0 else 12):=by rw[JSt.fin,Xr (by rw[hf];simp)]
 have i:=Qa E1;clear h hx b1 hJ hO G hf E1;go_enter func214,ntmps214
 go_upto_region 1 with fail
 obtain⟨X,hX⟩:∃ X,w.heap.size=X:=⟨_,Z⟩
 unfold QbV at W;generalize ac:w.alloc (.cells #[Iv x.op,Iv x.a,Iv x.yes.block,.slice e.pYR x.yes.regs.length e.cYR,.slice e.pYA x.yes.args.length e.cYA,Iv x.no.block,.slice e.pNR x.no.regs.length e.cNR,.slice e.pNA x.no.args.length e.cNA,.slice e.pA x.args.length e.cA] 84)=w1 at W |-;have S:Hid (EnT w w1 b X O A Q s x e):=by rw[<-hX];exact W.out
 rw[hX]
 clear ac hX W;obtain⟨C,x1,x2,x3,V,x5,x6,x7,N⟩:=S.out.cells
 rcases U.out.1 with g | g | g
 ·have l:Hid (s.fin x=s.to x.yes):=by show _=_;rw[i.out,Xs g]
  have F:Hid (x.yes.form s.f.blocks.length true=0):=by have:=U.out.2.2.2.2.1;rw[g] at this;exact this
  rw[g] at C
  clear i;go_wp2_with fail
  refine(Qcb (x:=x.yes) D.out (fun k u=>Zl (M.out k u) S.out.bel.size) S.out.st S.out.lists.yr S.out.lists.ya (QaG F.out).2.1 (QaG F.out).2.2 (QaG F.out).1).mono ?_
  rintro e9 w9 ⟨o,m⟩;have j:=Qa (S.out.below m);rcases o with ⟨c,y,rfl,p⟩|⟨c,rfl⟩
  rotate_left
  ·exact⟨Z,.inr ⟨by rw[l.out];exact c,by rw[l.out]⟩,j.out.bel⟩
  subst p;have K:Hid (s.fin x=0):=by show _=_;rw[l.out];exact c
  clear c m;go_wp2
  exact Xz (v:=.tuple #[]) (by simp[results,results214,go_sem]) Z ⟨ZG.good K.out Z,j.out.bel⟩
 ·have l:Hid (s.fin x=Qv (s.want x.a 1 false) (Qv (s.to x.yes) (s.to x.no))):=by show _=_;rw[i.out,Xr (by omega),Xs g]
  have F:Hid (x.yes.form s.f.blocks.length true=0):=by have:=U.out.2.2.2.2.1;rw[g] at this;exact this
  have h2:Hid (x.no.form s.f.blocks.length true=0):=by have:=U.out.2.2.2.2.2;rw[g] at this;exact this
  rw[g] at C
  have CI:=Qa (fun d=>QbL x.a ab.out d hL (fun k u=>Zl (M.out k u) S.out.bel.size) S.out.st);clear i;go_wp2_with fail
  refine(CI.out _).mono ?_
  rintro e8 w8 ⟨o,I⟩;have E:=Qa (S.out.below I);rcases o with ⟨c,y,rfl,p⟩|⟨c,rfl⟩
  rotate_left
  ·exact⟨Z,.inr ⟨by rw[l.out,Ql c];exact c,by rw[l.out,Ql c]⟩,E.out.bel⟩
  subst p;have z:Hid (s.fin x=Qv (s.to x.yes) (s.to x.no)):=by show _=_;rw[l.out,Qx c]
  clear c I l S CI;have S:=E;clear E C x1 x2 x3 V x5 x6 x7 N;obtain⟨C,x1,x2,x3,V,x5,x6,x7,N⟩:=S.out.cells
  go_wp2_with fail
  refine(Qcb (x:=x.yes) D.out (fun k u=>Zl (M.out k u) S.out.bel.size) S.out.st S.out.lists.yr S.out.lists.ya (QaG F.out).2.1 (QaG F.out).2.2 (QaG F.out).1).mono ?_
  rintro e9 w9 ⟨o,m⟩;have j:=Qa (S.out.below m);rcases o with ⟨c,y,rfl,p⟩|⟨c,rfl⟩
  rotate_left
  ·exact⟨Z,.inr ⟨by rw[z.out,Ql c];exact c,by rw[z.out,Ql c]⟩,j.out.bel⟩
  subst p;have E4:Hid (s.fin x=s.to x.no):=by show _=_;rw[z.out,Qx c]
  clear c m z S;have S:=j;clear j C x1 x2 x3 V x5 x6 x7 N;obtain⟨C,x1,x2,x3,V,x5,x6,x7,N⟩:=S.out.cells
  go_wp2_with fail
  refine(Qcb (x:=x.no) D.out (fun k u=>Zl (M.out k u) S.out.bel.size) S.out.st S.out.lists.nr S.out.lists.na (QaG h2.out).2.1 (QaG h2.out).2.2 (QaG h2.out).1).mono ?_
  rintro e9 w9 ⟨o,m⟩;have j:=Qa (S.out.below m);rcases o with ⟨c,y,rfl,p⟩|⟨c,rfl⟩
  rotate_left
  ·exact⟨Z,.inr ⟨by rw[E4.out];exact c,by rw[E4.out]⟩,j.out.bel⟩
  subst p;have K:Hid (s.fin x=0):=by show _=_;rw[E4.out];exact c
  clear c m;go_wp2
  exact Xz (v:=.tuple #[]) (by simp[results,results214,go_sem]) Z ⟨ZG.good K.out Z,j.out.bel⟩
 ·have J:=q.out.regs.1;obtain⟨n,hn⟩:=Xc J
  have l:Hid (s.fin x=Qv (s.handC x.args s.f.results) (Qjo s.H s.f.regs)):=by show _=_;rw[i.out,Xr (by omega),Xr (by omega),QmM hn q.out.results.2];rfl
  have aa:x.args.length<=8:=U.out.2.2.2.1;obtain⟨pm,cm,hh,a1,c1,a2,c2,a3,c3,aL,cL,R⟩:=S.out.st.read
  obtain⟨-,-,-,-,q4,-⟩:=R.cells
  obtain⟨fa,fc,fb,fd,fe,ff,T,-,B,-,-⟩:=Qaq R.fn
  simp only[List.cons.injEq,Value.slice.injEq,and_true,true_and] at T
  obtain⟨⟨-,-⟩,⟨rfl,rfl⟩,-⟩:=T
  have P:=Qa (QV B).1
  have CH:Hid (Calls prog 251 #[Pv b 0,.slice e.pA x.args.length e.cA,.slice a2 s.f.results.length c2] w1.drew fun e w'=>ZG (s.handC x.args s.f.results) VNone e/\Below w1.drew.heap.size w1.drew w') :=
   QaB Z (by omega) Z (by have:=q.out.results.1;omega) (Ya S.out.lists.ar (Qb3 Zr)) P.out.drew hL ad.out (fun k u=>Zl (M.out k u) S.out.bel.size) (S.out.st.below (Qb3 Zr))
  rw[g] at C
  clear i R B P hn J;generalize s.f.results.length=nr at q4 CH;generalize x.args.length=na at N CH aa;go_upto_region 9 with fail
  go_region_with (go_at_call 251;refine(CH.out).mono ?_;rintro e8 w8 ⟨o,I⟩;have E:=Qa (S.out.below (Zx I));rcases o with ⟨c,y,rfl,p⟩|⟨c,rfl⟩;rotate_left;exact⟨Z,.inr ⟨by rw[l.out,Ql c];exact c,by rw[l.out,Ql c]⟩,E.out.bel⟩;subst p;have z:Hid (s.fin x=Qjo s.H s.f.regs):=(by show _=_;rw[l.out,Qx c]);clear c I)
  all_goals
   have CV:=Qa (Qg5 D.out.regs E.out.st);go_wp2_with fail
   refine CV.out.mono ?_;rintro e9 w9 ⟨o,m⟩;have j:=Qa (E.out.below m);rcases o with ⟨c,y,rfl,p⟩|⟨c,rfl⟩
   rotate_left
   ·exact⟨Z,.inr ⟨by rw[z.out];exact c,by rw[z.out]⟩,j.out.bel⟩
   subst p;have K:Hid (s.fin x=0):=by show _=_;rw[z.out];exact c
   clear c m;go_wp2
   exact Xz (v:=.tuple #[]) (by simp[results,results214,go_sem]) Z ⟨ZG.good K.out Z,j.out.bel⟩
theorem Qcu {a:Nat}(c:Int) (b:Blk w a #[Iv 0] 3) :
 CallsD prog 238 #[Qfq a] (.panicking (QeO c)) w fun e u' w' =>
  e=.returned (.tuple #[])/\u'=.panicking [{ v:=.iface 304 (Iv c),recovered:=true }]/\(Blk w' a #[Iv c] 3/\Chg a w w'):=by
 have d:=b.lt;have l:=Qb b 0 _ Z;have f:=Qj b 0;have j:=Qa b;refine callsD_of_wpS func238 Z fun m n i=>?_;apply wpS_seq
 apply wpS_region
 simp[wpOpsS,go_sem,recoverD,i,ntmps238,Exit.thenS]
 rw[show (#[Qfq a]++((Array.replicate 15 undef).setIfInBounds 3 (Value.iface 304 (Iv c))).setIfInBounds 0 (Value.iface 304 (Iv c)):Array Value)=#[Qfq a,Value.iface 304 (Iv c),undef,undef,Value.iface 304 (Iv c),undef,undef,undef,undef,undef,undef,undef,undef,undef,undef,undef] from Z]
 refine wpS_of_wp ?_;have k:∀ w:World,(Instr.typeAssert (.iface 304 (Iv c)) 20 304 true).run prog w=.ok (.tuple #[Iv c,.bool true]) w:=fun _=>by kernel_rfl
 clear b;go_wp2
 have g:Blk (w.setCell ⟨a,0,none⟩ (Iv c)) a #[Iv c] 3:=by
  have:=Qh j.out 0 (Iv c)
  simpa using this
 have h:Chg a w (w.setCell ⟨a,0,none⟩ (Iv c)):=Chg.set w 0 _ d;exact(show bodyPostS _ _ _ _ _ _ _ _ _ from ⟨Z,_,Z,.tuple #[],by simp[results,results238,go_sem],Z,Z,g,h⟩)
theorem QfQ (a:Nat) :
 CallsD prog 238 #[Qfq a] .returning w fun e u' w'=>e=.returned (.tuple #[])/\u'=.returning/\w'=w:=by
 refine callsD_of_wpS func238 Z fun b d c=>?_;apply wpS_seq
 apply wpS_region
 simp[wpOpsS,go_sem,recoverD,c,ntmps238,Exit.thenS]
 rw[show (#[Qfq a]++((Array.replicate 15 undef).setIfInBounds 3 (Value.nilIface)).setIfInBounds 0 (Value.nilIface):Array Value)=#[Qfq a,Value.nilIface,undef,undef,Value.nilIface,undef,undef,undef,undef,undef,undef,undef,undef,undef,undef,undef] from Z]
 refine wpS_of_wp ?_;go_wp2_with fail
 cases b
 simp_all [bodyPostS,results,results238]
def QmX (Fb:Nat) (R1:World->Prop) (R2:Int->World->Prop) (en:Ending) (w2:World):Prop :=
 Blk w2 Fb #[Iv 0] 3/\((en=.returned (.tuple #[])/\R1 w2)\/(∃ c,en=.panicked (QeO c)/\R2 c w2))
def QfX (Fb:Nat) (R1:World->Prop) (R2:Int->World->Prop) (en:Ending) (w':World):Prop :=
 (∃ w2,R1 w2/\en=.returned (Iv 0)/\Chg Fb w2 w')\/(∃ w2,∃ c:Int,R2 c w2/\en=.returned (Iv c)/\Chg Fb w2 w')
theorem Qc7 (F:Nat) (a:Array Value) (e:Qak F) (i:World->Prop) (j:Int->World->Prop) (d:Calls prog F a (w.alloc (.cells #[Iv 0] 3)) fun en w2=>QmX w.heap.size i j en w2) :
 Calls prog 210 #[.func (.func F) #[] a] w fun en w'=>QfX w.heap.size i j en w':=by
 have s:∀ (fn:Fn) (first cap:Array Value) (w:World),(Instr.makeFunc fn first cap).run prog w=.ok (.func fn first cap) w:=fun _ _ _ _=>rfl;have p:=e;unfold Qak at p;have o:Hid (Calls prog F a (w.alloc (.cells #[Iv 0] 3)) fun en w2=>QmX w.heap.size i j en w2):=d;clear d e;go_enter_defers func210,ntmps210
 go_wp2_with fail
 refine o.out.mono ?_;rintro A b ⟨l,⟨rfl,g⟩|⟨c,rfl,g⟩⟩
 ·have h:=Qa l;have n:=Qb h.out 0 _ Z;have m:=Qj h.out 0;have x:Hid (i b):=g;clear l g o p;go_wp2
  have r:Blk (b.setCell ⟨w.heap.size,0,none⟩ (Iv 0)) w.heap.size #[Iv 0] 3:=by
   have:=Qh h.out 0 (Iv 0)
   simpa using this
  have q:Chg w.heap.size b (b.setCell ⟨w.heap.size,0,none⟩ (Iv 0)):=Chg.set b 0 _ h.out.lt;clear n m;generalize b.setCell ⟨w.heap.size,0,none⟩ (Iv 0)=t at r q |-;refine leaves_cons (f:=238) (args:=#[Qfq w.heap.size]) (by simp) (by simp[go_sem]) ?_;refine(QfQ w.heap.size).mono ?_
  rintro y u B ⟨rfl,rfl,rfl⟩;have k:=Qb r 0 _ Z;exact⟨Iv 0,by simp[results,results210,go_sem,k],.inl ⟨b,x.out,Z,q⟩⟩
 ·show bodyPostD _ _ _ _ _ _;refine leaves_cons (f:=238) (args:=#[Qfq w.heap.size]) (by simp) (by simp[go_sem]) ?_;refine(Qcu c l).mono ?_
  rintro y u t ⟨rfl,rfl,v,z⟩;have k:=Qb v 0 _ Z;exact⟨Iv c,by simp[results,results210,go_sem,k],.inr ⟨b,c,g,Z,z⟩⟩
theorem QlT {A:Nat->Prop}{s:JSt}{x:Qs}(j:∀ k,A k->k<w.heap.size) (i:JOk s) (h:SAt w b O A s) (a:intsL.In w Q x.regs [.slice rg x.regs.length rc]) (c:intsL.In w Q x.args [.slice ag x.args.length ac]) (f:x.regs.length<=rc) (d:ZA x) (g:x.form s.m.length=0) :
 Calls prog 212 #[Pv b 0,Qel x rg ag rc ac] w fun e w'=>QO w b O A s (s.next x) (s.goC x) e w':=by
 obtain⟨-,-,-,l⟩:=Q7 g
 rcases l with e | e | e | e | e | e | e | e | e | e | e | e | e | e
 ·exact Qlp j i h a c f d g e
 ·exact Qmd j i h a c f d g e
 ·exact Ql8 j i h a c f d g e
 ·exact QkI j i h a c f d g e
 ·exact Qjt j i h a c f d g e
 ·exact QlP j i h a c f d g e
 ·exact QlJ j i h a c f d g e
 ·exact QhT j i h a c f d g e
 ·exact QjY j i h a c f d g e
 ·exact Qjk j i h a c f d g e
 ·exact QlA j i h a c f d g e
 ·exact Qmg j i h a c f d g e
 ·exact Qlz j i h a c f d g e
 ·exact QkN j i h a c f d g e
theorem STo.seal {wc w9:World}{g:Nat}{A:Nat->Prop}{s:JSt}(o:∀ k,O k->k<w.heap.size) (d:Below w.heap.size w wc) (m:w.heap.size<=g/\g<wc.heap.size) (h:STo wc w2 b O (fun k=>A k\/(w.heap.size<=k/\k<wc.heap.size)) s) (c:Chg g w2 w9):STo w w9 b O A s:=by
 obtain⟨N,i,j,f⟩:=h
 have r:=d.size;have q:=f.size;have p:=c.size;refine⟨fun k=>N k\/(w.heap.size<=k/\k<wc.heap.size),fun k a=>?_,?_,?_⟩
 ·rcases a with a | a
  ·have:=i k a;omega
  ·omega
 ·refine j.keep (fun k n a=>c.block k n (fun e=>?_)) (fun k a _=>?_) (fun k a _ e=>a ?_) (fun k a=>?_)
  ·subst e;rcases a with a | a
   ·rcases a with a | a
    ·have:=o k a;omega
    ·have:=i k a;omega
   ·exact a (.inl (.inr m))
  ·rcases a with a | a
   ·exact .inl a
   ·exact .inr (.inl a)
  ·rcases e with e | e | e
   ·exact .inl (.inl e)
   ·exact .inr e
   ·exact .inl (.inr e)
  ·rcases a with a | a
   ·have:=j.sub k (.inl a)
    rcases this with (h | h) | h
    ·exact .inl h
    ·exact .inr (.inr h)
    ·exact .inr (.inl h)
   ·exact .inr a
 ·refine⟨c.os.trans (f.os.trans d.os),c.tape.trans (f.tape.trans d.tape),c.output.trans (f.output.trans d.output),by omega,fun k a l=>?_,fun k a=>?_⟩
  ·exact(c.block k (by omega) (by omega)).trans ((f.block k (by omega) l).trans (d.block k a))
  ·rcases a with a | a | a
   ·exact .inl a
   ·have:=i k a;exact .inr (by omega)
   ·exact .inr a.1
theorem SAt.wall {wc:World}{A:Nat->Prop}{s:JSt}(h:SAt w b O A s) (c:Below w.heap.size w wc):SAt wc b O (fun k=>A k\/(w.heap.size<=k/\k<wc.heap.size)) s :=
 h.keep (fun g d _=>c.block g d) (fun _ h _=>h) (fun k a f e=>by rcases e with e | e;exact a e;omega) (fun k a=>.inl (h.sub k a))
theorem enters_ins1:Qak 211:=fun _ _=>by kernel_rfl
theorem enters_end1:Qak 213:=fun _ _=>by kernel_rfl
def QnX (b S0 X nm cm rc ac:Nat) (cf:Int) (pm rg ag:Option Addr) (x:Qs) (t:Tmp) (v:Value) (w:World):Prop :=
 v=(([(2,Pv S0 0),(3,Pv X 0),(6,Pv b 0),(7,Pv b 0),(8,Pv b 0),(9,.agg #[.slice pm nm cm]),(10,.agg #[Iv x.op,Iv x.a,Iv x.b,Iv x.c,Iv x.k,Iv x.n,.slice rg x.regs.length rc,.slice ag x.args.length ac]),(11,Iv cf),(5,Iv cf)]:List (Tmp × Value)).lookup t).getD undef
theorem ji1 {j f:Nat}{p:Int}{x:Qs}(C:w6.cell? ⟨j,0,none⟩=some (Pv b 0)) (H:w6.cell? ⟨b,0,none⟩=some (.slice pm f cm)) (B:w6.cell? ⟨X,0,none⟩=some (Iv x.op)) (y:w6.cell? ⟨X,1,none⟩=some (Iv x.a)) (J:w6.cell? ⟨X,2,none⟩=some (Iv x.b)) (L:w6.cell? ⟨X,3,none⟩=some (Iv x.c)) (z:w6.cell? ⟨X,4,none⟩=some (Iv x.k)) (E:w6.cell? ⟨X,5,none⟩=some (Iv x.n)) (s:w6.cell? ⟨X,6,none⟩=some (.slice rg x.regs.length rc)) (G:w6.cell? ⟨X,7,none⟩=some (.slice ag x.args.length ac)) (i:f<2305843009213693952) (F:Hid (x.form f=p))
 (a:Act) (m:Nat) (I:a.tmps.size=m) (l:17<=m) (u:a.tmps.getD 2 undef=Pv j 0) (A:a.tmps.getD 3 undef=Pv X 0) :
 Code.wp prog ((Tryz.f164.body.bind (Qi 1)).getD .skip) (fun e a' w'=>e=.normal/\∃ vs,a'=QN a vs [6,7,8,9,10,11,5]/\vs 5=Iv p/\Below w6.heap.size w6 w') a w6:=by
 conv=>arg 2;whnf
 refine QaO (QnX b j X f cm rc ac p pm rg ag x) (fun w=>Below w6.heap.size w6 w) (fun w w'=>Below w.heap.size w w') (outs:=[2,3]) (gs:=[]) (bs:=[true,true,true,true,true,true,true]) (by kernel_rfl) (n:=17) I l (by kernel_rfl) ?hR ?hG (QI Zr 1) ⟨u,A,Y⟩ ?hA ?hend
 case hR=>exact fun t v w w' _ h=>h
 case hG=>exact Y
 case hend=>exact fun vs w' d g=>⟨Z,vs,Z,g 5 (by kernel_rfl),d⟩
 case hA =>
  repeat
   refine⟨fun a w d g K r=>?_,?_⟩
   focus first
    | obtain⟨o,-⟩:=g
      conv at o=>whnf;rhs;whnf
      have O:=Qk C d;have M:=Qk H d;have R:=Qk B d;have U:=Qk y d;have V:=Qk J d;have c5:=Qk L d;have Q:=Qk z d;have T:=Qk E d;have W:=Qk s d;have P:=Qk G d;go_simp;exact r _ _ Zr d Z
    | obtain⟨o,D,-⟩:=g
      conv at o=>whnf;rhs;whnf
      conv at D=>whnf;rhs;whnf
      go_simp;refine Xm (QgN f x ⟨rg,rc,ag,ac⟩ pm cm _ i) ?_;rw[F.out];rintro S N ⟨rfl,q⟩;go_simp;exact r _ _ q (d.trans (q.mono d.size)) Z
  trivial
theorem Qif {r:Nat}{A:Nat->Prop}{s:JSt}{x:Qs}(z:Blk w r #[Pv b 0] 234) (g:Blk w X #[Iv x.op,Iv x.a,Iv x.b,Iv x.c,Iv x.k,Iv x.n,.slice rg x.regs.length rc,.slice ag x.args.length ac] 78) (t:∀ k,A k->k<w.heap.size) (u:JOk s) (h:SAt w b O A s) (f:intsL.In w Q x.regs [.slice rg x.regs.length rc]) (d:intsL.In w Q x.args [.slice ag x.args.length ac]) (j:x.regs.length<=rc) (i:ZA x) (o:x.form s.m.length=0) :
 Calls prog 211 #[Pv r 0,Pv X 0] w fun e w'=>QO w b O A s (s.next x) (s.goC x) e w':=by
 have C:=Qa (QlT t u h f d j i o);have H:=Qb z 0 _ Z;have F:=Qb g 0 _ Z;have D:=Qb g 1 _ Z;have L:=Qb g 2 _ Z;have M:=Qb g 3 _ Z;have E:=Qb g 4 _ Z;have I:=Qb g 5 _ Z;have B:=Qb g 6 _ Z;have K:=Qb g 7 _ Z;clear z g t u h f d j i o;go_enter func211,ntmps211
 go_wp2_with fail
 refine C.out.mono ?_;rintro G J y;have l:=Qa y;rcases y with ⟨p,rfl,q⟩|⟨p,rfl,q⟩
 rotate_left
 ·exact⟨Z,l.out⟩
 clear p q C;go_wp2
 exact Xz (v:=.tuple #[]) (by simp[results,results211,go_sem]) Z l.out
theorem QkL {A:Nat->Prop}{s:JSt}{x:Qs}(hA:∀ k,A k->k<w.heap.size) (hJ:JOk s) (h:SAt w b O A s) (l:intsL.In w Q x.regs [.slice rg x.regs.length rc]) (j:intsL.In w Q x.args [.slice ag x.args.length ac]) (I:x.regs.length<=rc) (u:ZA x) :
 Calls prog 164 #[Pv b 0,Qel x rg ag rc ac] w fun e w'=>e=.returned (Iv (s.code x))/\STo w w' b O A (s.ins x):=by
 have ai:∀ (fn:Fn) (first cap:Array Value) (w:World),(Instr.makeFunc fn first cap).run prog w=.ok (.func fn first cap) w:=fun _ _ _ _=>rfl;have HJ:=Qa hJ;have H0:=Qa h;have B:=Qa hA;have ad:=Qa u;have af:=Qa I;have b1:=Zd w (.cells #[Pv b 0] 234);have b2:=Zd (w.alloc (.cells #[Pv b 0] 234)) (.cells #[Iv x.op,Iv x.a,Iv x.b,Iv x.c,Iv x.k,Iv x.n,.slice rg x.regs.length rc,.slice ag x.args.length ac] 78);have V:=b1.trans (b2.mono b1.size);have HB:=Qa V;have H:=Qa (h.below V);have HR:Hid (intsL.In _ Q x.regs [.slice rg x.regs.length rc]):=Ya l V;have HG:Hid (intsL.In _ Q x.args [.slice ag x.args.length ac]):=Ya j V;have hS:Blk ((w.alloc (.cells #[Pv b 0] 234)).alloc (.cells #[Iv x.op,Iv x.a,Iv x.b,Iv x.c,Iv x.k,Iv x.n,.slice rg x.regs.length rc,.slice ag x.args.length ac] 78)) w.heap.size #[Pv b 0] 234:=(Blk.new _ _ _:Blk (w.alloc (.cells #[Pv b 0] 234)) w.heap.size _ _).below b2
 have J:Blk ((w.alloc (.cells #[Pv b 0] 234)).alloc (.cells #[Iv x.op,Iv x.a,Iv x.b,Iv x.c,Iv x.k,Iv x.n,.slice rg x.regs.length rc,.slice ag x.args.length ac] 78)) (w.heap.size+1) #[Iv x.op,Iv x.a,Iv x.b,Iv x.c,Iv x.k,Iv x.n,.slice rg x.regs.length rc,.slice ag x.args.length ac] 78:=by
  have:=Blk.new (w.alloc (.cells #[Pv b 0] 234)) #[Iv x.op,Iv x.a,Iv x.b,Iv x.c,Iv x.k,Iv x.n,.slice rg x.regs.length rc,.slice ag x.args.length ac] 78
  simpa using this
 have P:=Qa hS;have g:=Qa J;clear hS J b1 b2 V h hA hJ l j I u;go_enter func164,ntmps164
 go_upto_region 1 with fail
 generalize (w.alloc (.cells #[Pv b 0] 234)).alloc (.cells #[Iv x.op,Iv x.a,Iv x.b,Iv x.c,Iv x.k,Iv x.n,.slice rg x.regs.length rc,.slice ag x.args.length ac] 78)=w1 at HB H HR HG P g |-;obtain⟨S0,R⟩:∃ S0,w.heap.size=S0:=⟨_,Z⟩
 obtain⟨X,J⟩:∃ X,S0+1=X:=⟨_,Z⟩
 rw[R] at P g |-
 rw[J] at g |-
 clear J R;have s0:=Qb P.out 0 _ Z;have x0:=Qb g.out 0 _ Z;have x1:=Qb g.out 1 _ Z;have x2:=Qb g.out 2 _ Z;have x3:=Qb g.out 3 _ Z;have x4:=Qb g.out 4 _ Z;have x5:=Qb g.out 5 _ Z;have x6:=Qb g.out 6 _ Z;have x7:=Qb g.out 7 _ Z;obtain⟨pm,cm,hh,a1,c1,a2,c2,a3,c3,aL,cL,RR⟩:=H.out.read
 obtain⟨q0,-⟩:=RR.cells
 obtain⟨F,K⟩:∃ F,x.form s.m.length=F:=⟨_,Z⟩
 have t:Hid (x.form s.m.length=F):=K;clear K RR;refine Code.wp_mono ?_ (ji1 s0 q0 x0 x1 x2 x3 x4 x5 x6 x7 (by have:=HJ.out.mod.1.2;omega) t _ _ Z (Xg (by kernel_rfl)) Z Z);rintro ee aa d ⟨rfl,vs,rfl,T,E⟩;simp only[QN,Act.put,List.setIfInBounds_toArray,List.set_cons_zero,List.set_cons_succ,T]
 have o:=Qa (HB.out.trans (E.mono HB.out.size));have U:=Qa (P.out.below E);have S:=Qa (g.out.below E);have M:Hid (intsL.In d Q x.regs [.slice rg x.regs.length rc]):=Ya HR.out E;have W:Hid (intsL.In d Q x.args [.slice ag x.args.length ac]):=Ya HG.out E;clear E T s0 x0 x1 x2 x3 x4 x5 x6 x7 q0 P g HR HG HB H;by_cases q:F=0
 rotate_left
 ·have ah:(F != 0)=true:=by simpa using q
  have E1:Hid (s.code x=F):=by show _=_;unfold JSt.code;rw[t.out,Xs q]
  have E2:Hid (s.ins x=s):=by show _=_;unfold JSt.ins;rw[Xr (by rw[E1.out];exact q)]
  go_wp2_with fail
  go_ret;exact⟨by rw[E1.out];rfl,by rw[E2.out];exact Yh H0.out o.out⟩
 subst q;have EC:=Qa (Qlx t.out);have D:=Zd d (.cells #[Iv 0] 3);have r:=o.out.trans (D.mono o.out.size);have ae:=Qa r
 have CK:Hid (Calls prog 210 #[.func (.func 211) #[] #[Pv S0 0,Pv X 0]] d fun en w'=>QfX d.heap.size (fun f=>s.goC x=0/\STo (d.alloc (.cells #[Iv 0] 3)) f b O (fun k=>A k\/(w.heap.size<=k/\k<(d.alloc (.cells #[Iv 0] 3)).heap.size)) (s.next x)) (fun c f=>s.goC x=c/\c≠0/\STo (d.alloc (.cells #[Iv 0] 3)) f b O (fun k=>A k\/(w.heap.size<=k/\k<(d.alloc (.cells #[Iv 0] 3)).heap.size)) s) en w'):=by
  refine Qc7 _ _ enters_ins1 _ _ ?_;refine(Qif (A:=fun k=>A k\/(w.heap.size<=k/\k<(d.alloc (.cells #[Iv 0] 3)).heap.size)) (U.out.below D) (S.out.below D) (fun k p=>?_) HJ.out (H0.out.wall r) (Ya M.out D) (Ya W.out D) af.out ad.out t.out).mono ?_
  ·rcases p with p | p
   ·exact Zl (B.out k p) r.size
   ·exact p.2
  ·intro en f hd
   have z:STo (d.alloc (.cells #[Iv 0] 3)) f b O (fun k=>A k\/(w.heap.size<=k/\k<(d.alloc (.cells #[Iv 0] 3)).heap.size)) s\/STo (d.alloc (.cells #[Iv 0] 3)) f b O (fun k=>A k\/(w.heap.size<=k/\k<(d.alloc (.cells #[Iv 0] 3)).heap.size)) (s.next x):=by
    rcases hd with ⟨-,-,h⟩|⟨-,-,h⟩
    ·exact .inr h
    ·exact .inl h
   have i:Blk f d.heap.size #[Iv 0] 3:=by
    have hn:Blk (d.alloc (.cells #[Iv 0] 3)) d.heap.size #[Iv 0] 3:=Blk.new _ _ _;have ab:¬ O d.heap.size:=fun e=>by have G:=B.out _ (H0.out.sub _ e);have C:=o.out.size;omega
    rcases z with ⟨N,-,-,st⟩|⟨N,-,-,st⟩
    ·exact(st.block _ hn.lt ab).trans hn
    ·exact(st.block _ hn.lt ab).trans hn
   rcases hd with ⟨G,C,h3⟩|⟨G,C,h3⟩
   ·exact⟨i,.inl ⟨C,G,h3⟩⟩
   ·exact⟨i,.inr ⟨_,C,Z,G,h3⟩⟩
 have y:Hid (∀ f v s',STo (d.alloc (.cells #[Iv 0] 3)) f b O (fun k=>A k\/(w.heap.size<=k/\k<(d.alloc (.cells #[Iv 0] 3)).heap.size)) s'->Chg d.heap.size f v->STo w v b O A s'):=fun f v s' G C=>STo.seal (fun k p=>B.out k (H0.out.sub k p)) ae.out ⟨o.out.size,by simp⟩ G C;clear D r U S M W;go_wp2_with fail
 refine CK.out.mono ?_;intro e' v p
 have FF:Hid (e'=.returned (Iv (s.code x))/\STo w v b O A (s.ins x)):=by
  rcases p with ⟨f,⟨g1,g2⟩,rfl,g3⟩|⟨f,c,⟨g1,g2,g3⟩,rfl,g4⟩
  ·have L:s.code x=0:=by rw[EC.out,g1]
   refine⟨by rw[L],?_⟩
   unfold JSt.ins;rw[Xs L]
   exact y.out f v _ g2 g3
  ·have L:s.code x=c:=by rw[EC.out,g1]
   refine⟨by rw[L],?_⟩
   unfold JSt.ins;rw[Xr (by rw[L];exact g2)]
   exact y.out f v _ g3 g4
 obtain⟨rfl,-⟩:=id FF.out
 clear p CK y;go_wp2
 go_ret;exact⟨Z,FF.out.2⟩
def Qod (b S0 X fl c1 fm c2 bl c3:Nat) (fr cf:Int) (a1 a2 a3:Option Addr) (x:ZC) (e:EP) (t:Tmp) (v:Value) (w:World):Prop :=
 v=(([(2,Pv S0 0),(3,Pv X 0),(6,Pv b 0),(7,Pv b 0),(8,Pv b 2),(9,.agg #[Iv fr,.slice a1 fl c1,.slice a2 fm c2,.slice a3 bl c3]),(10,.agg (QbV x e)),(11,Iv cf),(5,Iv cf)]:List (Tmp × Value)).lookup t).getD undef
theorem jE1 {j C i z k g o:Nat}{q:Int}{u y A:Option Addr}{x:ZC}{e:EP}(F:w6.cell? ⟨j,0,none⟩=some (Pv b 0)) (I:w6.cell? ⟨b,2,none⟩=some (Iv fr)) (H:w6.cell? ⟨b,3,none⟩=some (.slice u C i)) (L:w6.cell? ⟨b,4,none⟩=some (.slice y z k)) (O:w6.cell? ⟨b,5,none⟩=some (.slice A g o)) (P:Hid (w6.rangeAt X 0 (QbV x e).toList)) (M:Hid (x.yes.regs.length<2305843009213693952/\x.yes.args.length<2305843009213693952/\x.no.regs.length<2305843009213693952/\x.no.args.length<2305843009213693952)) (s:g<2305843009213693952) (J:Hid (x.form g=q))
 (a:Act) (m:Nat) (N:a.tmps.size=m) (l:17<=m) (D:a.tmps.getD 2 undef=Pv j 0) (E:a.tmps.getD 3 undef=Pv X 0) :
 Code.wp prog ((Tryz.f165.body.bind (Qi 1)).getD .skip) (fun e a' w'=>e=.normal/\∃ vs,a'=QN a vs [6,7,8,9,10,11,5]/\vs 5=Iv q/\Below w6.heap.size w6 w') a w6:=by
 conv=>arg 2;whnf
 refine QaO (Qod b j X C i z k g o fr q u y A x e) (fun w=>Below w6.heap.size w6 w) (fun w w'=>Below w.heap.size w w') (outs:=[2,3]) (gs:=[]) (bs:=[true,true,true,true,true,true,true]) (by kernel_rfl) (n:=17) N l (by kernel_rfl) ?hR ?hG (QI Zr 1) ⟨D,E,Y⟩ ?hA ?hend
 case hR=>exact fun t v w w' _ h=>h
 case hG=>exact Y
 case hend=>exact fun vs w' c f=>⟨Z,vs,Z,f 5 (by kernel_rfl),c⟩
 case hA =>
  repeat
   refine⟨fun a w c f K r=>?_,?_⟩
   focus first
    | obtain⟨d,-⟩:=f
      conv at d=>whnf;rhs;whnf
      have R:=Qk F c;have i:=Qk I c;have k:=Qk H c;have o:=Qk L c;have U:=Qk O c;go_simp;exact r _ _ Zr c Z
    | obtain⟨d,-⟩:=f
      conv at d=>whnf;rhs;whnf
      obtain⟨S,p⟩:=underEnd
      refine wp_load_mid 84 (.tmp 3) Z X 0 d (QbV x e).toList _ (Qad P.out c) p Z sizeEnd ?_;exact r _ _ Zr c Z
    | obtain⟨d,G,-⟩:=f
      conv at d=>whnf;rhs;whnf
      conv at G=>whnf;rhs;whnf
      go_simp;refine Xm (Qgj (x:=x) (e:=e) M.out s) ?_;rw[J.out];rintro T Q ⟨rfl,B⟩;go_simp;exact r _ _ B (c.trans (B.mono c.size)) Z
  trivial
theorem Qe1 {c:Array Value}(h:Blk w X c t):w.rangeAt X 0 c.toList:=fun j v a=>by
 rw[XK]
 rw[Array.getElem?_toList] at a
 exact Qb h j v a
theorem QhF {o:Nat}{A:Nat->Prop}{s:JSt}{x:ZC}{e:EP}(E:Blk w o #[Pv b 0] 234) (p:Blk w X (QbV x e) 84) (t:JOk s) (z:∀ k,O k->k<w.heap.size) (h:SAt w b O A s) (B:Qdt w Q x e) (c:-9223372036854775808<=x.a/\x.a<=9223372036854775807) (m:x.form s.f.blocks.length=0) :
 Calls prog 213 #[Pv o 0,Pv X 0] w fun r w'=>ZG (s.fin x) VNone r/\Below w.heap.size w w':=by
 have C:=Qa (Qk5 t z h B c m);have J:=Qb E 0 _ Z;have D:=Qa (Qe1 p);clear E p t h B c m z;obtain⟨L,g⟩:=underEnd
 have i:=Qa g;clear g;generalize d:QbV x e=n at C D;have j:Hid ((prog.info? 84).map (·.size)=some n.toList.length):=by show _=_;rw[<-d];exact sizeEnd
 clear d;go_enter func213,ntmps213
 go_wp2_with (refine wpList_load_mid Z 84 (.tmp 1) Z X 0 Z n.toList _ D.out i.out Z j.out ?_)
 refine C.out.mono ?_;rintro I K u;have l:=Qa u;obtain⟨G,F⟩:=u
 rcases G with ⟨q,y,rfl,H⟩|⟨q,rfl⟩
 rotate_left
 ·exact⟨Z,l.out⟩
 subst H;clear q F C;go_wp2
 exact Xz (v:=.tuple #[]) (by simp[results,results213,go_sem]) Z l.out
theorem Qkj {A:Nat->Prop}{s:JSt}{x:ZC}{e:EP}(hA:∀ k,A k->k<w.heap.size) (hJ:JOk s) (h:SAt w b O A s) (hx:Qdt w Q x e) (B:-9223372036854775808<=x.a/\x.a<=9223372036854775807) (hs:x.yes.regs.length<2305843009213693952/\x.yes.args.length<2305843009213693952/\x.no.regs.length<2305843009213693952/\x.no.args.length<2305843009213693952) :
 Calls prog 165 #[Pv b 0,.agg (QbV x e)] w fun r w'=>r=.returned (Iv (s.fin x))/\Below w.heap.size w w':=by
 have af:∀ (fn:Fn) (first cap:Array Value) (w:World),(Instr.makeFunc fn first cap).run prog w=.ok (.func fn first cap) w:=fun _ _ _ _=>rfl;have HJ:=Qa hJ;have H0:=Qa h;have ad:=Qa hA;have W:=Qa B;have ab:=Qa hs;have U:=Zd w (.cells #[Pv b 0] 234);have b2:=Zd (w.alloc (.cells #[Pv b 0] 234)) (.cells #[Iv x.op,Iv x.a,Iv x.yes.block,.slice e.pYR x.yes.regs.length e.cYR,.slice e.pYA x.yes.args.length e.cYA,Iv x.no.block,.slice e.pNR x.no.regs.length e.cNR,.slice e.pNA x.no.args.length e.cNA,.slice e.pA x.args.length e.cA] 84);have S:=U.trans (b2.mono U.size);have R:=Qa S;have H:=Qa (h.below S);have u:=Qa (hx.below S);have hS:Blk ((w.alloc (.cells #[Pv b 0] 234)).alloc (.cells #[Iv x.op,Iv x.a,Iv x.yes.block,.slice e.pYR x.yes.regs.length e.cYR,.slice e.pYA x.yes.args.length e.cYA,Iv x.no.block,.slice e.pNR x.no.regs.length e.cNR,.slice e.pNA x.no.args.length e.cNA,.slice e.pA x.args.length e.cA] 84)) w.heap.size #[Pv b 0] 234:=(Blk.new _ _ _:Blk (w.alloc (.cells #[Pv b 0] 234)) w.heap.size _ _).below b2
 have E:Blk ((w.alloc (.cells #[Pv b 0] 234)).alloc (.cells #[Iv x.op,Iv x.a,Iv x.yes.block,.slice e.pYR x.yes.regs.length e.cYR,.slice e.pYA x.yes.args.length e.cYA,Iv x.no.block,.slice e.pNR x.no.regs.length e.cNR,.slice e.pNA x.no.args.length e.cNA,.slice e.pA x.args.length e.cA] 84)) (w.heap.size+1) (QbV x e) 84:=by
  have:=Blk.new (w.alloc (.cells #[Pv b 0] 234)) (QbV x e) 84
  simpa using this
 have J:=Qa hS;have v:=Qa E;clear hS E U b2 S h hA hJ hx B hs;go_enter func165,ntmps165
 go_upto_region 1 with fail
 generalize (w.alloc (.cells #[Pv b 0] 234)).alloc (.cells #[Iv x.op,Iv x.a,Iv x.yes.block,.slice e.pYR x.yes.regs.length e.cYR,.slice e.pYA x.yes.args.length e.cYA,Iv x.no.block,.slice e.pNR x.no.regs.length e.cNR,.slice e.pNA x.no.args.length e.cNA,.slice e.pA x.args.length e.cA] 84)=w1 at R H u J v |-;obtain⟨P,p⟩:∃ P,P=w.heap.size:=⟨_,Z⟩
 obtain⟨X,E⟩:∃ X,X=P+1:=⟨_,Z⟩
 rw[<-p] at J v |-
 rw[<-E] at v |-
 have C:=Qa p;clear E p;have s0:=Qb J.out 0 _ Z;have N:=Qa (Qe1 v.out);obtain⟨pm,cm,hh,a1,c1,a2,c2,a3,c3,aL,cL,RR⟩:=H.out.read
 obtain⟨-,-,q2,q3,q4,q5,-⟩:=RR.cells
 obtain⟨z,F⟩:∃ z,x.form s.f.blocks.length=z:=⟨_,Z⟩
 have t:Hid (x.form s.f.blocks.length=z):=F;have ac:=Qa (HJ.out.mod.2 s.f HJ.out.fn);clear F RR;refine Code.wp_mono ?_ (jE1 s0 q2 q3 q4 q5 N ab (by have:=ac.out.many.2;omega) t _ _ Z (Xg (by kernel_rfl)) Z Z);rintro ee aa i ⟨rfl,vs,rfl,L,G⟩;simp only[QN,Act.put,List.setIfInBounds_toArray,List.set_cons_zero,List.set_cons_succ,L]
 have l:=Qa (R.out.trans (G.mono R.out.size));have M:=Qa (J.out.below G);have K:=Qa (v.out.below G);have I:=Qa (u.out.below G);clear G L s0 q2 q3 q4 q5 J v R H N u;by_cases m:z=0
 rotate_left
 ·have ae:(z != 0)=true:=by simpa using m
  have E1:Hid (s.fin x=z):=by show _=_;unfold JSt.fin;rw[t.out,Xs m]
  go_wp2_with fail
  go_ret;exact⟨by rw[E1.out];rfl,by first | exact l.out | (rw[C.out];exact l.out)⟩
 subst m;have D:=Zd i (.cells #[Iv 0] 3);have g:=l.out.trans (D.mono l.out.size)
 have CK:Hid (Calls prog 210 #[.func (.func 213) #[] #[Pv P 0,Pv X 0]] i fun en w'=>QfX i.heap.size (fun d=>s.fin x=0/\Below (i.alloc (.cells #[Iv 0] 3)).heap.size (i.alloc (.cells #[Iv 0] 3)) d) (fun c d=>s.fin x=c/\Below (i.alloc (.cells #[Iv 0] 3)).heap.size (i.alloc (.cells #[Iv 0] 3)) d) en w'):=by
  refine Qc7 _ _ enters_end1 _ _ ?_;refine(QhF (M.out.below D) (K.out.below D) HJ.out (fun k T=>Zl (ad.out k (H0.out.sub k T)) g.size) (H0.out.below g) (I.out.below D) W.out t.out).mono ?_
  rintro en d ⟨hd,o⟩;have j:Blk d i.heap.size #[Iv 0] 3:=(Blk.new i #[Iv 0] 3).below o;rcases hd with ⟨hc,y,rfl,hy⟩|⟨hc,rfl⟩
  ·subst hy;exact⟨j,.inl ⟨Z,hc,o⟩⟩
  ·exact⟨j,.inr ⟨_,Z,Z,o⟩⟩
 have q:Hid (∀ d n,Below (i.alloc (.cells #[Iv 0] 3)).heap.size (i.alloc (.cells #[Iv 0] 3)) d->Chg i.heap.size d n->Below w.heap.size w n):=fun d n h1 h2 =>
  Chg.last (g.trans (h1.mono g.size)) h2 l.out.size (Zt g.size h1.size)
 clear D g M K I;go_wp2_with fail
 refine CK.out.mono ?_;intro e' n T
 have FF:Hid (e'=.returned (Iv (s.fin x))/\Below w.heap.size w n):=by
  rcases T with ⟨d,⟨V,g2⟩,rfl,g3⟩|⟨d,c,⟨V,g2⟩,rfl,g4⟩
  ·exact⟨by rw[V],q.out d n g2 g3⟩
  ·exact⟨by rw[V],q.out d n g2 g4⟩
 obtain⟨rfl,-⟩:=id FF.out
 clear T CK q;go_wp2
 go_ret;first | exact⟨Z,FF.out.2⟩ | exact⟨Z,by rw[C.out];exact FF.out.2⟩
def Qcw {n:Nat}(w:World) (Q:Nat->Prop) (l:List (TT n)) (e:Ending) (w':World):Prop :=
 ∃ v ds,e=.returned v/\w'.ownsRow 0 105 3 v l.length ds/\(∀ g,v.ownBlock=some g->w.heap.size<=g)/\(∀ i x,l[i]?=some x->(Lay.tt n).In w Q x ((ds.drop (i*3)).take 3))/\Below w.heap.size w w'
theorem Qhz {l:List (TT n)}(hN:l.length=N) (af:N<=5000) (hl:(Qo n).In w Q l [.slice p N c]) :
 Calls prog 209 #[.slice p N c] w fun e w'=>Qcw w Q l e w':=by
 obtain⟨i0,hi,S,X,ae⟩:=pInfoT
 have q:∀ (w:World) (a:Option Addr) (n c M c':Nat),(binOp .eql 80 (.slice a n c) (.slice none M c')).run prog w=.ok (.bool a.isNone) w:=fun w a n c M c'=>Lib.run_eql_slice_nil w _ _ a n c M c' pUnderT;have C:=Qa hl;have z:=Qa hN;clear hl hN
 cases p with
 | none =>
   have v:l=[]:=by
    rcases l with _ | ⟨x,r⟩
    ·rfl
    ·obtain⟨g,o,A,e,-⟩:=Yf C.out (i:=0) (x:=x) Z
     cases e
   subst v;have W:N=0:=by have:=z.out;simpa using this.symm
   subst W;have F:Hid (Qcw w Q ([]:List (TT n)) (.returned (Nv)) w):=⟨Nv,[],Z,⟨Z,.inl ⟨Z,Z⟩⟩,fun g R=>by simp[Value.ownBlock] at R,fun i x hx=>by simp at hx,Zr⟩;clear C z;go_enter func209,ntmps209
   go_wp2
   go_ret;exact F.out
 | some ad =>
   have b1:=Zd w (.cells #[] 105);have d:(w.alloc (.cells #[] 105)).ownsRow 0 105 3 (.slice (some ⟨w.heap.size,0,none⟩) 0 0) 0 []:=⟨Z,.inr ⟨w.heap.size,0,#[],Z,Xb _,Qe w _ _,Ze,by unfold maxLen;omega,Z,Z⟩⟩;have m:=Qa b1;have f:=Qa d;by_cases aa:N=0
   ·subst aa;have v:l=[]:=Xf.1 z.out;subst v;have ha:Hid (∀ (t:TypeId) (D:World),(Builtin.append_ #[80,80] t #[.slice (some ⟨w.heap.size,0,none⟩) 0 0,.slice (some ad) 0 c]).run prog D=.ok (.slice (some ⟨w.heap.size,0,none⟩) 0 0) D):=fun (t:TypeId) (D:World)=>run_append_nothing (P:=prog) D 80 80 t 105 i0 pUnderT hi (some ⟨w.heap.size,0,none⟩) 0 0 Ze (.slice (some ad) 0 c) (Src.ofSlice D pUnderT ad 0 c [] (by simp) (fun j u h=>by simp at h) (fun u h=>by cases h));have F:Hid (Qcw w Q ([]:List (TT n)) (.returned (.slice (some ⟨w.heap.size,0,none⟩) 0 0)) (w.alloc (.cells #[] 105))):=⟨_,[],Z,f.out,fun g R=>by simp[Value.ownBlock] at R;omega,fun i x hx=>by simp at hx,m.out⟩;clear C z m f d b1;generalize T:w.alloc (.cells #[] 105)=w1 at F;go_enter func209,ntmps209
    go_wp2_with (at_builtin;refine QaK Z (.tmp 5) (.tmp 6) 80 Z (.slice (some ⟨w.heap.size,0,none⟩) 0 0) (.slice (some ad) 0 c) Z Z (ha.out _ _) ?_)
    go_ret;first | exact F.out | (rw[T];exact F.out)
   ·obtain⟨H,J,e0⟩:∃ H J,(some ad)=some (⟨H,J,none⟩:Addr):=by
     obtain⟨g,o,dd,e,-⟩:=Yf C.out (Zg (show 0<l.length by have:=z.out;omega))
     exact⟨g,o,e⟩
    cases e0
    obtain⟨A,d1,d2,d3,d4⟩:=Lay.flat C.out (fun y cs hy=>by obtain⟨ya,yc,e,-⟩:=hy;subst e;exact QlI _ _ _ _ _)
    have E:A.length=N*3:=by rw[<-z.out];exact d1
    have ac:=Qa E;have ab:Hid (∀ (j:Nat) (u:Value),A[j]?=some u->(w.alloc (.cells #[] 105)).cell? ((⟨H,J,none⟩:Addr).add j)=some u):=fun j u hj=>Qk (d2 j u hj) m.out;have V:=Qa d3
    have G:Hid (∀ B g b,B.ownsRow 0 105 3 (.slice (some ⟨g,0,none⟩) N b) N A->(w.alloc (.cells #[] 105)).grownBy B (some w.heap.size)->(w.heap.size=g\/g=w.heap.size+1)->Qcw w Q l (.returned (.slice (some ⟨g,0,none⟩) N b)) B):=by
     intro B g b I s r3;have K:=s.size;refine⟨_,A,Z,by rw[z.out];exact I,fun g' U=>?_,d4,⟨s.os.trans m.out.os,s.tape.trans m.out.tape,s.output.trans m.out.output,by simp at K;omega,fun k hk=>?_⟩⟩
     ·simp[Value.ownBlock] at U
      omega
     ·exact(s.block k (by simp;omega) (fun e=>by injection e with e;omega)).trans (m.out.block k hk)
    clear C m d1 E d2 d3 d4 d b1;have L:0<N:=by omega
    have O:Hid (0<=(w.alloc (.cells #[] 105)).heap.size):=Xb _;go_enter func209,ntmps209
    go_wp2_with (at_builtin;refine wpList_append_lies _ Z (.tmp 5) (.tmp 6) 80 Z 0 105 i0 (.agg #[Iv 0,Iv 0,Nv]) 3 40 pUnderT hi S X ae Z (by decide) _ _ _ Z f.out ⟨H,J,none⟩ N c A Z ac.out ab.out V.out L (by unfold maxLen;omega) (by omega) O.out (w.heap.size+1) (by simp) ?_)
    intro g2 b B I s r3 r4;have Z9:=Qa (G.out B g2 b (by simpa using I) (by simpa[Value.ownBlock] using s) (by simpa[Value.ownBlock] using r3));clear I s r3 r4 G f;go_wp2
    go_ret;first | exact Z9.out | simpa using Z9.out
def QgA (m:List (MFunc 6)) (f b:Int):Bool:=decide (0<=f)&&(match m[f.toNat]? with | none=>false | some g=>decide (0<=b)&&decide (b<(g.blocks.length:Int)))
theorem Qju {m:List (MFunc 6)}{f b:Int}(h:QgA m f b=true):∃ (i j:Nat) (fn:MFunc 6) (g:MBlock 6),f=(i:Int)/\b=(j:Int)/\m[i]?=some fn/\fn.blocks[j]?=some g:=by
 unfold QgA at h;simp only[Bool.and_eq_true,decide_eq_true_eq] at h
 obtain⟨c,a⟩:=h
 obtain⟨i,rfl⟩:=Xc c
 rw[XT] at a
 cases e:m[i]? with
 | none=>rw[e] at a;cases a
 | some fn =>
   rw[e] at a
   simp only[Bool.and_eq_true,decide_eq_true_eq] at a
   obtain⟨j,rfl⟩:=Xc a.1
   exact⟨i,j,fn,_,Z,Z,e,Zg (by omega)⟩
theorem Qka {m:List (MFunc 6)}(f b:Int) (k:m.length<=100000) (n:(QaN 6).In w All m [.slice p m.length c]) :
 Calls prog 207 #[.agg #[.slice p m.length c],Iv f,Iv b] w fun e w'=>e=.returned (.bool (QgA m f b))/\Below w.heap.size w w':=by
 have r:=Zd w (.cells #[.slice p m.length c] 24);have d:=Qa r;have t:=Qb (Qe w #[.slice p m.length c] 24) 0 _ Z;by_cases u:0<=f
 rotate_left
 ·have E:Hid (QgA m f b=false):=by show _=_;unfold QgA;rw[Xu u];rfl
  have A:decide (f>=0)=false:=Xu u;clear n r;generalize m.length=v at t d;go_enter func207,ntmps207
  go_wp2
  go_ret;exact⟨by rw[E.out];rfl,d.out⟩
 obtain⟨i,rfl⟩:=Xc u
 by_cases s:i<m.length
 rotate_left
 ·have E:Hid (QgA m (i:Int) b=false):=by show _=_;unfold QgA;rw[XT,Xk (by omega)];simp
  have h:¬ (i:Int)<m.length:=by omega
  clear n r;generalize m.length=v at t d s h k;go_enter func207,ntmps207
  go_wp2
  go_ret;exact⟨by rw[E.out];rfl,d.out⟩
 have o:m[i]?=some m[i]:=Zg s;generalize m[i]=g at o;obtain⟨z,C,H,G,I,K,J,L,rfl,y,D,B,F,-,-⟩:=QdF n o
 have x:z<w.heap.size:=Xi w ⟨z,C+i*4,none⟩ y;have E:Hid (QgA m (i:Int) b=(decide (0<=b)&&decide (b<(g.blocks.length:Int)))):=by show _=_;unfold QgA;rw[XT,o];simp
 have h:(i:Int)<m.length:=by omega
 clear n r y D B o;generalize m.length=v at t d s h k;generalize g.blocks.length=q at F E;by_cases a:0<=b
 rotate_left
 ·have l:decide (b>=0)=false:=Xu a;rw[show (decide (0<=b)&&decide (b<(q:Int)))=false by rw[Xu a];rfl] at E
  go_enter func207,ntmps207
  go_wp2
  go_ret;exact⟨by rw[E.out];rfl,d.out⟩
 ·have l:decide (b>=0)=true:=Xt a;rw[show (decide (0<=b)&&decide (b<(q:Int)))=decide (b<(q:Int)) by rw[Xt a];rfl] at E
  by_cases j:b<(q:Int)
  ·rw[Xt j] at E
   go_enter func207,ntmps207
   go_wp2
   go_ret;exact⟨by rw[E.out];rfl,d.out⟩
  ·rw[Xu j] at E
   go_enter func207,ntmps207
   go_wp2
   go_ret;exact⟨by rw[E.out];rfl,d.out⟩
theorem Qng (c:cs.length=12) :
 Blk ((w1.alloc (.cells #[Iv 0,Nv,Nv,Iv 0,Iv 0,Iv 0,Nv,Nv,Iv 0,Nv,Nv,Nv] 86)).setCells w1.heap.size 0 cs.toArray.toList) w1.heap.size cs.toArray 86/\Below w1.heap.size w1 ((w1.alloc (.cells #[Iv 0,Nv,Nv,Iv 0,Iv 0,Iv 0,Nv,Nv,Iv 0,Nv,Nv,Nv] 86)).setCells w1.heap.size 0 cs.toArray.toList)/\(w1.alloc (.cells #[Iv 0,Nv,Nv,Iv 0,Iv 0,Iv 0,Nv,Nv,Iv 0,Nv,Nv,Nv] 86)).there w1.heap.size 0 cs.toArray.size:=by
 have a:=Qe w1 #[Iv 0,Nv,Nv,Iv 0,Iv 0,Iv 0,Nv,Nv,Iv 0,Nv,Nv,Nv] 86;refine⟨?_,?_,?_⟩
 ·have d:Blk (w1.alloc (.cells #[Iv 0,Nv,Nv,Iv 0,Iv 0,Iv 0,Nv,Nv,Iv 0,Nv,Nv,Nv] 86)) w1.heap.size ([]++(#[Iv 0,Nv,Nv,Iv 0,Iv 0,Iv 0,Nv,Nv,Iv 0,Nv,Nv,Nv]:Array Value).toList).toArray 86:=a;exact Blk.sets cs [] (#[Iv 0,Nv,Nv,Iv 0,Iv 0,Iv 0,Nv,Nv,Iv 0,Nv,Nv,Nv]:Array Value).toList _ (by rw[c];rfl) d
 ·have:=Qz.setCells (O:=fun k=>k=w1.heap.size) (O':=fun k=>k=w1.heap.size) (b:=w1.heap.size) Z cs.toArray.toList 0 _ (Qz.refl _ (w1.alloc (.cells #[Iv 0,Nv,Nv,Iv 0,Iv 0,Iv 0,Nv,Nv,Iv 0,Nv,Nv,Nv] 86)))
  exact(Zd w1 _).trans (this.below (by simp) (fun k e=>by omega))
 ·intro j hj;rw[List.size_toArray,c] at hj
  rw[XK]
  refine⟨?_,Qj a j⟩
  rw[Qb a j ((#[Iv 0,Nv,Nv,Iv 0,Iv 0,Iv 0,Nv,Nv,Iv 0,Nv,Nv,Nv]:Array Value)[j]'hj) (by simp)];rfl
theorem Qae {xs:List Value}(h:w.ownsRow 0 e s v n xs) (d:Below w.heap.size w w'):w'.ownsRow 0 e s v n xs:=by
 obtain⟨f,i⟩:=h
 refine⟨f,?_⟩
 rcases i with k | ⟨g,a,b,j,l,c,r⟩
 ·exact .inl k
 ·exact .inr ⟨g,a,b,j,l,(d.block g (XC c)).trans c,r⟩
theorem QhX {xs:List Value}(h:w.ownsRow 0 e s v n xs):∃ a c,v=.slice a n c:=by
 obtain⟨l,d⟩:=h
 rcases d with ⟨j,b⟩|⟨g,i,k,f,o,m,r⟩
 ·exact⟨none,0,by rw[j,b]⟩
 ·exact⟨_,_,f⟩
def QnE (w7:World) (M9 F10 B11 nm cm n1 d1 n2 d2 n3 d3 np cp:Nat) (fr br:Int) (pm p1 p2 p3 pp:Option Addr) (ps:List (TT 6)) (QP:Nat->Prop) (t:Tmp) (v:Value) (w:World):Prop :=
 match ([(39,fun v w=>∃ hh,v=.pointer (some ⟨hh,0,none⟩)/\w7.heap.size<=hh/\Qp w hh (QbX br)),(43,fun v w=>∃ a c ds,v=.slice a np c/\w.ownsRow 0 105 3 (.slice a np c) np ds/\(∀ g,(Value.slice a np c).ownBlock=some g->w7.heap.size<=g)/\(∀ i x,ps[i]?=some x->(Lay.tt 6).In w7 QP x ((ds.drop (i*3)).take 3))),(44,fun v w=>∃ hh a c ds,v=.agg #[.slice pm nm cm,.pointer (some ⟨hh,0,none⟩),.int .i64 fr,.slice p1 n1 d1,.slice p2 n2 d2,.slice p3 n3 d3,.slice a np c]/\w7.heap.size<=hh/\Qp w hh (QbX br)/\w.ownsRow 0 105 3 (.slice a np c) np ds/\(∀ g,(Value.slice a np c).ownBlock=some g->w7.heap.size<=g)/\(∀ i x,ps[i]?=some x->(Lay.tt 6).In w7 QP x ((ds.drop (i*3)).take 3))),(45,fun v w=>∃ B hh a c ds,v=.pointer (some ⟨B,0,none⟩)/\w7.heap.size<=B/\w.heap[B]?=some (.cells #[.slice pm nm cm,.pointer (some ⟨hh,0,none⟩),.int .i64 fr,.slice p1 n1 d1,.slice p2 n2 d2,.slice p3 n3 d3,.slice a np c] 279 (0,0))/\w7.heap.size<=hh/\Qp w hh (QbX br)/\w.ownsRow 0 105 3 (.slice a np c) np ds/\(∀ g,(Value.slice a np c).ownBlock=some g->w7.heap.size<=g)/\(∀ i x,ps[i]?=some x->(Lay.tt 6).In w7 QP x ((ds.drop (i*3)).take 3))),(6,fun v w=>∃ B hh a c ds,v=.pointer (some ⟨B,0,none⟩)/\w7.heap.size<=B/\w.heap[B]?=some (.cells #[.slice pm nm cm,.pointer (some ⟨hh,0,none⟩),.int .i64 fr,.slice p1 n1 d1,.slice p2 n2 d2,.slice p3 n3 d3,.slice a np c] 279 (0,0))/\w7.heap.size<=hh/\Qp w hh (QbX br)/\w.ownsRow 0 105 3 (.slice a np c) np ds/\(∀ g,(Value.slice a np c).ownBlock=some g->w7.heap.size<=g)/\(∀ i x,ps[i]?=some x->(Lay.tt 6).In w7 QP x ((ds.drop (i*3)).take 3)))]:List (Tmp × (Value->World->Prop))).lookup t with
 | some p=>p v w
 | none=>v=(([(9,.pointer (some ⟨M9,0,none⟩)),(10,.pointer (some ⟨F10,0,none⟩)),(11,.pointer (some ⟨B11,0,none⟩)),(36,.agg #[.slice pm nm cm]),(37,.pointer (some ⟨B11,0,none⟩)),(38,.int .i64 br),(40,.agg #[.int .i64 fr,.slice p1 n1 d1,.slice p2 n2 d2,.slice p3 n3 d3]),(41,.pointer (some ⟨B11,1,none⟩)),(42,.slice pp np cp),(46,.agg #[.int .i64 0,.int .i64 0])]:List (Tmp × Value)).lookup t).getD undef
theorem jn9 {d:World}{M9 r F M U d1 R T I O f cp:Nat}{D:Int}{p1 L J pp:Option Addr}{H:List (TT 6)}{G:Nat->Prop}(m0:d.cell? ⟨M9,0,none⟩=some (.slice pm M cm)) (f0:d.cell? ⟨r,0,none⟩=some (Iv fr)) (f1:d.cell? ⟨r,1,none⟩=some (.slice p1 U d1)) (f2:d.cell? ⟨r,2,none⟩=some (.slice L R T)) (f3:d.cell? ⟨r,3,none⟩=some (.slice J I O)) (y0:d.cell? ⟨F,0,none⟩=some (Iv D)) (y1:d.cell? ⟨F,1,none⟩=some (.slice pp f cp)) (ah:-9223372036854775808<=D/\D<=9223372036854775807) (V:Hid (H.length=f)) (ai:f<=5000) (HP:Hid ((Qo 6).In d G H [.slice pp f cp])) (aa:Hid (∀ (i:Nat) (x:TT 6) (cs:List Value){w:World},H[i]?=some x->(Lay.tt 6).In w G x cs->Below d.heap.size d w->(Lay.tt 6).In d G x cs)){Q:Exit->Act->World->Prop}
 (a:Act) (m:Nat) (hn:a.tmps.size=m) (ad:47<=m) (h9:a.tmps.getD 9 undef=Pv M9 0) (ak:a.tmps.getD 10 undef=Pv r 0) (al:a.tmps.getD 11 undef=Pv F 0)
 (hend:∀ ops vs w',vs 46=.agg #[Iv 0,Iv 0]->(fun v w=>∃ B hh a c ds,v=Pv B 0/\d.heap.size<=B/\w.heap[B]?=some (.cells #[.slice pm M cm,Pv hh 0,Iv fr,.slice p1 U d1,.slice L R T,.slice J I O,.slice a f c] 279 (0,0))/\d.heap.size<=hh/\Qp w hh (QbX D)/\w.ownsRow 0 105 3 (.slice a f c) f ds/\(∀ g,(Value.slice a f c).ownBlock=some g->d.heap.size<=g)/\(∀ i x,H[i]?=some x->(Lay.tt 6).In d G x ((ds.drop (i*3)).take 3))) (vs 6) w'->Below d.heap.size d w'->wpList prog ops Q (Qao 12 ((Tryz.f163.body.bind (Qi 9)).getD .skip)) (QN a vs [36,37,38,39,40,41,42,43,44,45,46,6]) w') :
 Code.wp prog ((Tryz.f163.body.bind (Qi 9)).getD .skip) Q a d:=by
 conv=>arg 2;whnf
 refine Qg 12 (QnE d M9 r F M cm U d1 R T I O f cp fr D pm p1 L J pp H G) (fun w=>Below d.heap.size d w) (fun w w'=>Below w.heap.size w w') (outs:=[9,10,11]) (gs:=[]) (bs:=[true,true,true,true,true,true,true,true,true,true,true,true]) (by kernel_rfl) (n:=47) hn ad (by kernel_rfl) (by kernel_rfl) ?hR ?hG (QI Zr 1) ⟨h9,ak,al,Y⟩ ?hA ?hend
 case hR =>
  intro t v w w' C h;unfold QnE at h |-;split at h
  ·rename_i p u
   simp only[List.lookup_cons,List.lookup_nil] at u
   split at u
   ·cases u;exact(by obtain⟨hh,e,o,l⟩:=h;exact⟨hh,e,o,l.below C⟩)
   ·split at u
    ·cases u;exact(by obtain⟨a,c,ds,e,o,l,s⟩:=h;exact⟨a,c,ds,e,Qae o C,l,s⟩)
    ·split at u
     ·cases u;exact(by obtain⟨hh,a,c,ds,e,o,l,s,S,W⟩:=h;exact⟨hh,a,c,ds,e,o,l.below C,Qae s C,S,W⟩)
     ·split at u
      ·cases u;exact(by obtain⟨B,hh,a,c,ds,e,E,y,o,l,s,S,W⟩:=h;exact⟨B,hh,a,c,ds,e,E,(C.block B (XC y)).trans y,o,l.below C,Qae s C,S,W⟩)
      ·split at u
       ·cases u;exact(by obtain⟨B,hh,a,c,ds,e,E,y,o,l,s,S,W⟩:=h;exact⟨B,hh,a,c,ds,e,E,(C.block B (XC y)).trans y,o,l.below C,Qae s C,S,W⟩)
       ·cases u
  ·exact h
 case hG=>exact Y
 case hend=>exact fun ops vs w' b k=>hend ops vs w' (k 46 (by kernel_rfl)) (k 6 (by kernel_rfl)) b
 case hA =>
  iterate 3
   refine⟨fun a w b k K q=>?_,?_⟩
   ·obtain⟨j,-⟩:=k
    conv at j=>whnf;rhs;whnf
    have u0:=Qk m0 b;have u1:=Qk y0 b;go_simp;exact q _ _ Zr b Z
  refine⟨fun a w b k K q=>?_,?_⟩
  ·obtain⟨j,-⟩:=k
   conv at j=>whnf;rhs;whnf
   go_simp;refine Xm (Qkh _ D ah) ?_;rintro r7 w8 ⟨rfl,ac,A⟩;go_simp;exact q _ _ A (b.trans (A.mono b.size)) ⟨_,Z,b.size,ac⟩
  iterate 3
   refine⟨fun a w b k K q=>?_,?_⟩
   ·obtain⟨j,-⟩:=k
    conv at j=>whnf;rhs;whnf
    have u0:=Qk f0 b;have u1:=Qk f1 b;have u2:=Qk f2 b;have u3:=Qk f3 b;have u4:=Qk y1 b;go_simp;exact q _ _ Zr b Z
  refine⟨fun a w b k K q=>?_,?_⟩
  ·obtain⟨j,-⟩:=k
   conv at j=>whnf;rhs;whnf
   go_simp;refine Xm (Qhz V.out ai (Ya HP.out b)) ?_;rintro r7 w8 ⟨v8,ae,rfl,o1,o2,o3,A⟩;rw[V.out] at o1
   obtain⟨a8,c8,rfl⟩:=QhX o1
   go_simp;exact q _ _ A (b.trans (A.mono b.size)) ⟨a8,c8,ae,Z,o1,fun g hg=>Zt b.size (o2 g hg),fun i x hx=>aa.out i x _ hx (o3 i x hx) b⟩
  refine⟨fun a w b k K q=>?_,?_⟩
  ·obtain⟨j,X,k2,k3,-⟩:=k
   conv at j=>whnf;rhs;whnf
   have X:(fun v w=>∃ hh,v=Pv hh 0/\d.heap.size<=hh/\Qp w hh (QbX D)) (a.tmps.getD 39 undef) w:=X;generalize ag:a.tmps.getD 39 undef=am at X;conv at k2=>whnf;rhs;whnf
   have k3:(fun v w=>∃ a c ds,v=.slice a f c/\w.ownsRow 0 105 3 (.slice a f c) f ds/\(∀ g,(Value.slice a f c).ownBlock=some g->d.heap.size<=g)/\(∀ i x,H[i]?=some x->(Lay.tt 6).In d G x ((ds.drop (i*3)).take 3))) (a.tmps.getD 43 undef) w:=k3;generalize af:a.tmps.getD 43 undef=an at k3;obtain⟨hh,rfl,E,y⟩:=X
   obtain⟨N,P,z,rfl,o,l,s⟩:=k3
   have j0:a.tmps[36]?.getD undef=.agg #[.slice pm M cm]:=by simpa using j
   have j1:a.tmps[39]?.getD undef=Pv hh 0:=by simpa using ag
   have j2:a.tmps[40]?.getD undef=.agg #[Iv fr,.slice p1 U d1,.slice L R T,.slice J I O]:=by simpa using k2
   have j3:a.tmps[43]?.getD undef=.slice N f P:=by simpa using af
   go_simp;exact q _ _ Zr b ⟨hh,N,P,z,Z,E,y,o,l,s⟩
  refine⟨fun a w b k K q=>?_,?_⟩
  ·obtain⟨j,-⟩:=k
   have j:(fun v w=>∃ hh a c ds,v=.agg #[.slice pm M cm,Pv hh 0,Iv fr,.slice p1 U d1,.slice L R T,.slice J I O,.slice a f c]/\d.heap.size<=hh/\Qp w hh (QbX D)/\w.ownsRow 0 105 3 (.slice a f c) f ds/\(∀ g,(Value.slice a f c).ownBlock=some g->d.heap.size<=g)/\(∀ i x,H[i]?=some x->(Lay.tt 6).In d G x ((ds.drop (i*3)).take 3))) (a.tmps.getD 44 undef) w:=j;generalize aj:a.tmps.getD 44 undef=ab at j;obtain⟨hh,N,P,z,rfl,E,y,o,l,s⟩:=j
   go_simp;have A:=Zd w (.cells #[.slice pm M cm,Pv hh 0,Iv fr,.slice p1 U d1,.slice L R T,.slice J I O,.slice N f P] 279);exact q _ _ A (b.trans (A.mono b.size)) ⟨w.heap.size,hh,N,P,z,Z,b.size,Qe _ _ _,E,y.below A,Qae o A,l,s⟩
  refine⟨fun a w b k K q=>?_,?_⟩
  ·clear k;go_simp;exact q _ _ Zr b Z
  refine⟨fun a w b k K q=>?_,?_⟩
  ·obtain⟨j,-⟩:=k
   have j:(fun v w=>∃ B hh a c ds,v=Pv B 0/\d.heap.size<=B/\w.heap[B]?=some (.cells #[.slice pm M cm,Pv hh 0,Iv fr,.slice p1 U d1,.slice L R T,.slice J I O,.slice a f c] 279 (0,0))/\d.heap.size<=hh/\Qp w hh (QbX D)/\w.ownsRow 0 105 3 (.slice a f c) f ds/\(∀ g,(Value.slice a f c).ownBlock=some g->d.heap.size<=g)/\(∀ i x,H[i]?=some x->(Lay.tt 6).In d G x ((ds.drop (i*3)).take 3))) (a.tmps.getD 45 undef) w:=j;generalize aj:a.tmps.getD 45 undef=ab at j;obtain⟨B,hh,N,P,z,rfl,E,y,h0,o,l,s,S⟩:=j
   go_simp;exact q _ _ Zr b ⟨B,hh,N,P,z,Z,E,y,h0,o,l,s,S⟩
  trivial
def QmO (w:World) (m:List (MFunc 6)) (f b:Int) (e:Ending) (w':World):Prop :=
 Below w.heap.size w w'/\(((modFault m).1≠0/\e=.returned (.tuple #[.pointer none,QG (modFault m)])) \/
  ((modFault m).1=0/\QgA m f b=false/\e=.returned (.tuple #[.pointer none,.agg #[Iv 1,Iv (-1)]])) \/
  ((modFault m).1=0/\QgA m f b=true/\∃ (i j:Nat) (fn:MFunc 6) (g:MBlock 6) (B:Nat) (O A:Nat->Prop),f=(i:Int)/\b=(j:Int)/\m[i]?=some fn/\fn.blocks[j]?=some g/\e=.returned (.tuple #[Pv B 0,.agg #[Iv 0,Iv 0]])/\SAt w' B O A (JSt.start m fn g)/\∀ k,A k->w.heap.size<=k/\k<w'.heap.size))
theorem Qk2 {m:List (MFunc 6)}(f b:Int) (a7:¬ Qm m) (hm:(QaN 6).In w All m [.slice p m.length c]) :
 Calls prog 163 #[.agg #[.slice p m.length c],Iv f,Iv b] w fun e w'=>QmO w m f b e w':=by
 have ay:Qbh m:=ZF a7;have bu:=Qa ay;have b1:=Zd w (.cells #[.slice p m.length c] 24);have b2:=Zd (w.alloc (.cells #[.slice p m.length c] 24)) (.cells #[Iv 0,Iv 0] 32);have bb:=b1.trans (b2.mono b1.size);have HB:=Qa bb;have hX:Blk ((w.alloc (.cells #[.slice p m.length c] 24)).alloc (.cells #[Iv 0,Iv 0] 32)) w.heap.size #[.slice p m.length c] 24:=(Blk.new _ _ _:Blk (w.alloc (.cells #[.slice p m.length c] 24)) w.heap.size _ _).below b2
 have hR:Blk ((w.alloc (.cells #[.slice p m.length c] 24)).alloc (.cells #[Iv 0,Iv 0] 32)) (w.heap.size+1) #[Iv 0,Iv 0] 32:=by
  have:=Blk.new (w.alloc (.cells #[.slice p m.length c] 24)) #[Iv 0,Iv 0] 32
  simpa using this
 have HX:=Qa hX;have HR:=Qa hR;have HM:=Qa hm;have ax:Hid ((QaN 6).In _ All m [.slice p m.length c]):=Ya hm bb;have co:m.length<=100000:=ay.1;clear hX hR b1 b2 bb hm ay a7;go_enter func163,ntmps163
 go_upto_region 1 with fail
 generalize (w.alloc (.cells #[.slice p m.length c] 24)).alloc (.cells #[Iv 0,Iv 0] 32)=w1 at HB HX HR ax |-;obtain⟨X,hX⟩:∃ X,X=w.heap.size:=⟨_,Yz⟩
 obtain⟨R,hR⟩:∃ R,R=X+1:=⟨_,Yz⟩
 rw[<-hX] at HX HR |-
 rw[<-hR] at HR |-
 have c5:=Qa hX;have J:Hid (w.heap.size<=R):=by show _<=_;omega
 have c8:¬ X=R:=by omega
 clear hX hR;have x0:=Qb HX.out 0 _ Yz;have CC:=Qa (Qb0 ax.out bu.out);unfold Rd at CC;go_wp2_with fail
 refine CC.out.mono ?_;rintro e2 w2 ⟨rfl,b2⟩;have az:=Qa (HB.out.trans (b2.mono HB.out.size));have bv:=Qa (HX.out.below b2);have am:=Qa (HR.out.below b2);clear b2 CC x0 HX HR HB ax;have b3:=Zd w2 (.cells #[Iv (modFault m).1,Iv (modFault m).2] 32);have H:=Qa (az.out.trans (b3.mono az.out.size));have ad:=Qa (bv.out.below b3);have r:=Qa (am.out.below b3);have b9:=Blk.new w2 #[Iv (modFault m).1,Iv (modFault m).2] 32;have y:=Qa b9;have cu:¬ w2.heap.size=R:=by have:=am.out.lt;omega
 clear b3 b9 az bv am;go_upto_region 2 with fail
 generalize w2.alloc (.cells #[Iv (modFault m).1,Iv (modFault m).2] 32)=w3 at H ad r y |-;generalize w2.heap.size=F8 at y cu |-;obtain⟨K,a0,ao⟩:∃ K a0,modFault m=(K,a0):=⟨_,_,Yz⟩
 rw[ao] at y |-
 have a1:=Qa ao;clear ao;simp only at y |-
 have y0:=Qb y.out 0 _ Yz;have y1:=Qb y.out 1 _ Yz;by_cases ab:K=0
 rotate_left
 ·have cx:(K != 0)=true:=by simpa using ab
  have r0:=Qb r.out 0 _ Yz;have r1:=Qb r.out 1 _ Yz;have z0:=Qj r.out 0;have z1:=Qj r.out 1;have ct:=Qa ab;clear ab;go_upto_region 3 with fail
  go_region
  all_goals
   have L:Blk ((w3.setCell ⟨R,0,none⟩ (Iv K)).setCell ⟨R,1,none⟩ (Iv a0)).drew R #[Iv K,Iv a0] 32:=by
    have h9:Blk ((w3.setCell ⟨R,0,none⟩ (Iv K)).setCell ⟨R,1,none⟩ (Iv a0)) R #[Iv K,Iv a0] 32:=by
     have:=Qh (Qh r.out 0 (Iv K)) 1 (Iv a0)
     simpa using this
    exact h9
   have D3:Below w.heap.size w ((w3.setCell ⟨R,0,none⟩ (Iv K)).setCell ⟨R,1,none⟩ (Iv a0)).drew:=Qb3 ((H.out.setCell (p:=⟨R,0,none⟩) J.out _).setCell (p:=⟨R,1,none⟩) J.out _);clear y0 y1 r0 r1 z0 z1;generalize ((w3.setCell ⟨R,0,none⟩ (Iv K)).setCell ⟨R,1,none⟩ (Iv a0)).drew=w9 at L D3 |-;have q0:=Qb L 0 _ Yz;have q1:=Qb L 1 _ Yz;go_wp2
   exact Xy (v:=.tuple #[.pointer none,.agg #[Iv K,Iv a0]]) (by simp[results,results163,go_sem,q0,q1]) Yz ⟨D3,.inl ⟨by rw[a1.out];exact ct.out,by rw[a1.out]⟩⟩
 subst ab;have x3:=Qb ad.out 0 _ Yz;have CH:=Qa (Qka f b co (Ya HM.out H.out));have HZ:Hid ((modFault m).1=0):=by show _=_;rw[a1.out]
 clear y1;go_wp2_with fail
 refine CH.out.mono ?_;rintro e4 w4 ⟨rfl,b4⟩;have V:=Qa (H.out.trans (b4.mono H.out.size));have bd:=Qa (ad.out.below b4);have A:=Qa (r.out.below b4);clear b4 CH x3 y0 ad r H y
 cases hhb:QgA m f b with
 | false =>
   have r0:=Qb A.out 0 _ Yz;have r1:=Qb A.out 1 _ Yz;have z0:=Qj A.out 0;have z1:=Qj A.out 1;have an:=Qa hhb;clear hhb;go_wp2_with fail
   have L:Blk ((w4.setCell ⟨R,0,none⟩ (Iv 1)).setCell ⟨R,1,none⟩ (Iv (-1))) R #[Iv 1,Iv (-1)] 32:=by
    have:=Qh (Qh A.out 0 (Iv 1)) 1 (Iv (-1))
    simpa using this
   have D3:Below w.heap.size w ((w4.setCell ⟨R,0,none⟩ (Iv 1)).setCell ⟨R,1,none⟩ (Iv (-1))):=(V.out.setCell (p:=⟨R,0,none⟩) J.out _).setCell (p:=⟨R,1,none⟩) J.out _;clear r0 r1 z0 z1;generalize (w4.setCell ⟨R,0,none⟩ (Iv 1)).setCell ⟨R,1,none⟩ (Iv (-1))=w9 at L D3 |-;have q0:=Qb L 0 _ Yz;have q1:=Qb L 1 _ Yz;exact Xy (v:=.tuple #[.pointer none,.agg #[Iv 1,Iv (-1)]]) (by simp[results,results163,go_sem,q0,q1]) Yz ⟨D3,.inr (.inl ⟨HZ.out,an.out,Yz⟩)⟩
 | true =>
   obtain⟨i,j,a,g,rfl,rfl,W,U⟩:=Qju hhb
   have an:=Qa hhb;have x4:=Qb bd.out 0 _ Yz;have CO:=Qa (Qgf m p c w4 (Ya HM.out V.out) bu.out);have cz:i<m.length:=(Zi W).1;have bf:(i:Int)<m.length:=by omega
   have c2:j<a.blocks.length:=(Zi U).1;have bj:(j:Int)<a.blocks.length:=by omega
   clear hhb;go_wp2_with fail
   refine CO.out.mono ?_;rintro e5 l ⟨v5,rfl,⟨pm,N,rfl,O⟩,b5⟩;have bm:=Qa (V.out.trans (b5.mono V.out.size));have ba:=Qa (A.out.below b5);have ai:=Qa O;have c3:=ba.out.lt;clear b5 CO x4 bd A V;obtain⟨o,u,ds,e1,e2,e3,S,ap⟩:=Yf O W
   subst e1;obtain⟨p1,d1,p2,d2,p3,d3,rfl,cg,cf,bs,ci⟩:=Qaq ap
   obtain⟨M,P,pp,cp,es,rfl,D,bw,ae,ag⟩:=Qbp bs U
   have v0:l.cell? ⟨o,u+i*4,none⟩=some (Iv a.regs):=S 0 (by decide);have v1:l.cell? ⟨o,u+i*4+1,none⟩=some (.slice p1 a.params.length d1):=S 1 (by decide);have v2:l.cell? ⟨o,u+i*4+2,none⟩=some (.slice p2 a.results.length d2):=S 2 (by decide);have v3:l.cell? ⟨o,u+i*4+3,none⟩=some (.slice (some ⟨M,P,none⟩) a.blocks.length d3):=S 3 (by decide);have cl:Hid ((ZS 6).In l (Qcv w4.heap.size) a [Iv a.regs,.slice p1 a.params.length d1,.slice p2 a.results.length d2,.slice (some ⟨M,P,none⟩) a.blocks.length d3]):=ap;have ck:Hid ((Qo 6).In l (Qcv w4.heap.size) g.params [.slice pp g.params.length cp]):=ae;have cc:=Qa D;have af:=Qa ag;have E:(Value.int .i64 g.regs::Value.slice pp g.params.length cp::es).length=12:=by simp[bw]
   have b0:=Zo HZ.out;have ak:=b0.2 a (Zm W);have be:=ak.blocks g (Zm U);have au:=Qa (Xh ak be);have br:=Qa (Xh W U);have a3:o<l.heap.size:=Xi l ⟨o,u+i*4,none⟩ v0;clear S ap bs D ae ag O cg cf ci e2 e3 bw b0 ak be W U;have b6:=Zd l (.cells #[.slice (some ⟨o,u,none⟩) m.length N] 24);have b7:=Zd (l.alloc (.cells #[.slice (some ⟨o,u,none⟩) m.length N] 24)) (.cells #[Iv a.regs,.slice p1 a.params.length d1,.slice p2 a.results.length d2,.slice (some ⟨M,P,none⟩) a.blocks.length d3] 89);have bz:=b6.trans (b7.mono b6.size);have z:=Qa bz;have bl:Blk ((l.alloc (.cells #[.slice (some ⟨o,u,none⟩) m.length N] 24)).alloc (.cells #[Iv a.regs,.slice p1 a.params.length d1,.slice p2 a.results.length d2,.slice (some ⟨M,P,none⟩) a.blocks.length d3] 89)) l.heap.size #[.slice (some ⟨o,u,none⟩) m.length N] 24:=(Blk.new _ _ _:Blk (l.alloc (.cells #[.slice (some ⟨o,u,none⟩) m.length N] 24)) l.heap.size _ _).below b7
   have bh:Blk ((l.alloc (.cells #[.slice (some ⟨o,u,none⟩) m.length N] 24)).alloc (.cells #[Iv a.regs,.slice p1 a.params.length d1,.slice p2 a.results.length d2,.slice (some ⟨M,P,none⟩) a.blocks.length d3] 89)) (l.heap.size+1) #[Iv a.regs,.slice p1 a.params.length d1,.slice p2 a.results.length d2,.slice (some ⟨M,P,none⟩) a.blocks.length d3] 89:=by
    have:=Blk.new (l.alloc (.cells #[.slice (some ⟨o,u,none⟩) m.length N] 24)) #[Iv a.regs,.slice p1 a.params.length d1,.slice p2 a.results.length d2,.slice (some ⟨M,P,none⟩) a.blocks.length d3] 89
    simpa using this
   have G:=Qa bl;have d:=Qa bh;clear b6 b7 bz bl bh;generalize ch:m.length=nm at G d z bf ai;have bp:=Qa ch;generalize cw:a.blocks.length=nb at v3 d z G bj;have cv:=Qa cw;go_upto_region 8 with fail
   generalize (l.alloc (.cells #[.slice (some ⟨o,u,none⟩) nm N] 24)).alloc (.cells #[Iv a.regs,.slice p1 a.params.length d1,.slice p2 a.results.length d2,.slice (some ⟨M,P,none⟩) nb d3] 89)=w6 at z G d |-;obtain⟨M9,bc⟩:∃ M9,M9=l.heap.size:=⟨_,Yz⟩
   obtain⟨bk,ah⟩:∃ bk,bk=M9+1:=⟨_,Yz⟩
   rw[<-bc] at G d |-
   rw[<-ah] at d |-
   clear bc ah v0 v1 v2 v3 a3;have f0:=Qb d.out 0 _ Yz;have f1:=Qb d.out 1 _ Yz;have f2:=Qb d.out 2 _ Yz;have f3:=Qb d.out 3 _ Yz;have m0:=Qb G.out 0 _ Yz;have Q:=Qa (Qad cc.out z.out);generalize aw:(Value.int .i64 g.regs::Value.slice pp g.params.length cp::es)=cs at Q E;have a5:=Qa aw;obtain⟨bg,bx,a2⟩:=Qng (w1:=w6) E
   have ac:=Qa bg;have s:=Qa bx;have TH:=Qa a2;have TS:Hid ((prog.info? 86).map (·.size)=some cs.length):=by show _=_;rw[E];exact sizeBk
   have bn:Hid ((prog.info? 86).map (·.size)=some cs.toArray.size):=by show _=_;rw[List.size_toArray];exact TS.out
   have TO:Hid (cs.toArray.all (·.oneCell')=true):=by
    refine all_oneCell_toArray fun v hv=>?_;rw[<-aw] at hv
    simp only[List.mem_cons] at hv
    rcases hv with rfl | rfl | hv
    ·rfl
    ·rfl
    ·exact af.out v hv
   clear bg bx a2 aw E;go_upto_region 9 with (first | (refine wpList_load_mid Yz 86 (.tmp 34) Yz M (P+j*12) Yz cs _ Q.out underlying86 Yz TS.out ?_) | (refine wpList_store_mid Yz 86 (.tmp 11) (.tmp 35) Yz w6.heap.size 0 cs.toArray Yz Yz TH.out bn.out TO.out ?_))
   clear TH TS bn TO Q;generalize (w6.alloc (.cells #[Iv 0,Nv,Nv,Iv 0,Iv 0,Iv 0,Nv,Nv,Iv 0,Nv,Nv,Nv] 86)).setCells w6.heap.size 0 cs.toArray.toList=C at ac s |-;generalize w6.heap.size=cj at ac |-;have T:Hid (Blk C cj (Value.int .i64 g.regs::Value.slice pp g.params.length cp::es).toArray 86):=by rw[a5.out];exact ac.out
   have y0:=Qb T.out 0 _ Yz;have y1:=Qb T.out 1 _ Yz;have f0:=Qk f0 s.out;have f1:=Qk f1 s.out;have f2:=Qk f2 s.out;have f3:=Qk f3 s.out;have m0:=Qk m0 s.out;have F:=Qa (z.out.trans (s.out.mono z.out.size));have al:=Qa (bm.out.trans (F.out.mono bm.out.size));have a8:=Qa (ba.out.below F.out);have cd:Hid ((Qo 6).In C (fun k=>k<C.heap.size) g.params [.slice pp g.params.length cp]):=Yc (Ya ck.out F.out) (fun k _ hl=>hl);have cb:Hid (∀ (i:Nat) (x:TT 6) (cs:List Value) {w:World},g.params[i]?=some x->(Lay.tt 6).In w (fun k=>k<C.heap.size) x cs->Below C.heap.size C w->(Lay.tt 6).In C (fun k=>k<C.heap.size) x cs):=fun i x cs w _ h hb=>(Lay.tt 6).keep (fun k n _=>(hb.block k n).symm) (fun _ h _=>h) h;have cn:-9223372036854775808<=g.regs/\g.regs<=9223372036854775807:=by have h1:=au.out.2.regs;have h2:=au.out.1.regs;omega
   have cq:g.params.length<=5000:=by have:=au.out.2.params.1;omega
   clear ac T a5 z s G d af;refine jn9 m0 f0 f1 f2 f3 y0 y1 cn (show Hid (g.params.length=g.params.length) from Yz) cq cd cb _ _ Yz (Xg (by kernel_rfl)) Yz Yz Yz ?_;rintro ce vs t aj ⟨B,hh,aa,ca,ds,a9,bq,av,a6,aq,ar,a4,bo⟩ b8;show wpList _ ce _ [_] (QN _ vs [36,37,38,39,40,41,42,43,44,45,46,6]) t;simp only[QN,Act.put,List.setIfInBounds_toArray,List.set_cons_zero,List.set_cons_succ,aj,a9]
   have I:=Qa (a8.out.below b8);have cr:=Qa (al.out.trans (b8.mono al.out.size));have c1:=a8.out.lt;have Z:Hid (∀ w9,Below C.heap.size t w9\/(∀ k,k≠R->w9.heap[k]?=t.heap[k]?)->True):=fun _ _=>trivial
   have ST:Hid (SAt t B (fun k=>C.heap.size<=k/\k<t.heap.size) (fun k=>C.heap.size<=k/\k<t.heap.size) (JSt.start m a g)):=by
    have bt:=F.out.trans (b8.mono F.out.size);have c6:=F.out.size;have c4:=b8.size;refine⟨some ⟨o,u,none⟩,N,hh,p1,d1,p2,d2,some ⟨M,P,none⟩,d3,.slice aa g.params.length ca,?_,?_,?_,⟨aq,a6,aq.lt⟩,?_,⟨bq,XC av⟩,fun k n=>n⟩
    ·rw[av]
     show _=some (Obj.cells #[.slice (some ⟨o,u,none⟩) m.length N,_,_,_,_,.slice (some ⟨M,P,none⟩) a.blocks.length d3,_] _ _);rw[bp.out,cv.out];rfl
    ·show (QaN 6).In t _ m [.slice (some ⟨o,u,none⟩) m.length N];have h0:=ai.out;rw[<-bp.out] at h0
     exact(QaN 6).keep (fun k _ hl=>bt.block k hl) (fun k _ hl e=>by omega) h0
    ·exact(ZS 6).keep (fun k _ hl=>bt.block k hl) (fun k _ hl e=>by omega) cl.out
    ·refine⟨ds,ar,fun k n=>⟨a4 k n,?_⟩,fun i x hx=>(Lay.tt 6).keep (fun k n _=>b8.block k n) (fun k n _ e=>by omega) (bo i x hx)⟩
     obtain⟨-,q⟩:=id ar
     rcases q with ⟨e,-⟩|⟨g',cy,c7,e,-,hq,-⟩
     ·rw[e] at n;simp[Value.ownBlock] at n
     ·rw[e] at n;simp[Value.ownBlock] at n;subst n;exact XC hq
   have r0:=Qb I.out 0 _ Yz;have r1:=Qb I.out 1 _ Yz;have z0:=Qj I.out 0;have z1:=Qj I.out 1;clear aj a9 bq av a6 aq ar a4 bo b8 f0 f1 f2 f3 y0 y1 m0 Z;go_wp2_with fail
   have L:Blk ((t.setCell ⟨R,0,none⟩ (Iv 0)).setCell ⟨R,1,none⟩ (Iv 0)) R #[Iv 0,Iv 0] 32:=by
    have:=Qh (Qh I.out 0 (Iv 0)) 1 (Iv 0)
    simpa using this
   have D3:Below w.heap.size w ((t.setCell ⟨R,0,none⟩ (Iv 0)).setCell ⟨R,1,none⟩ (Iv 0)):=(cr.out.setCell (p:=⟨R,0,none⟩) J.out _).setCell (p:=⟨R,1,none⟩) J.out _
   have D4:SAt ((t.setCell ⟨R,0,none⟩ (Iv 0)).setCell ⟨R,1,none⟩ (Iv 0)) B (fun k=>C.heap.size<=k/\k<t.heap.size) (fun k=>C.heap.size<=k/\k<t.heap.size) (JSt.start m a g):=by
    have bi:∀ k,((t.setCell ⟨R,0,none⟩ (Iv 0)).setCell ⟨R,1,none⟩ (Iv 0)).heap[k]?=t.heap[k]?:=fun k=>by
     by_cases n:k=R
     ·subst n;exact L.trans I.out.symm
     ·rw[Xd _ _ _ _ n,Xd _ _ _ _ n]
    exact ST.out.keep (fun k _ _=>bi k) (fun _ h _=>h) (fun _ h _=>h) (fun _ h=>h)
   have D5:∀ k,(C.heap.size<=k/\k<t.heap.size)->w.heap.size<=k/\k<((t.setCell ⟨R,0,none⟩ (Iv 0)).setCell ⟨R,1,none⟩ (Iv 0)).heap.size:=fun k n=>by
    have:=al.out.size
    simp
    omega
   clear r0 r1 z0 z1;generalize (t.setCell ⟨R,0,none⟩ (Iv 0)).setCell ⟨R,1,none⟩ (Iv 0)=w9 at L D3 D4 D5 |-;have q0:=Qb L 0 _ Yz;have q1:=Qb L 1 _ Yz;exact Xy (v:=.tuple #[Pv B 0,.agg #[Iv 0,Iv 0]]) (by simp[results,results163,go_sem,q0,q1]) Yz ⟨D3,.inr (.inr ⟨HZ.out,an.out,i,j,a,g,B,_,_,Yz,Yz,br.out.1,br.out.2,Yz,D4,D5⟩)⟩
def SOk (w:World) (b B0:Nat) (s:JSt):Prop:=∃ O A,SAt w b O A s/\(∀ k,A k->B0<=k/\k<w.heap.size)/\JOk s
section
variable {w w':World}{b B0:Nat}{s:JSt}
theorem SOk.below (h:SOk w b B0 s) (k:Below w.heap.size w w'):SOk w' b B0 s:=by
 obtain⟨O,A,e,a,f⟩:=h
 exact⟨O,A,e.below k,fun d c=>⟨(a d c).1,Zl (a d c).2 k.size⟩,f⟩
theorem STo.ok {A:Nat->Prop}{d:JSt}(h:STo w w' b O A d) (f:∀ k,A k->B0<=k/\k<w.heap.size) (l:∀ k,O k->A k) (m:B0<=w.heap.size) (j:JOk d):SOk w' b B0 d/\Below B0 w w':=by
 obtain⟨N,i,g,a⟩:=h
 have e:=a.size;refine⟨⟨_,_,g,fun k c=>?_,j⟩,⟨a.os,a.tape,a.output,a.size,fun k c=>a.block k (by omega) (fun e=>by have:=f k (l k e);omega)⟩⟩
 rcases c with c | c
 ·have:=f k c;omega
 ·have:=i k c;omega
theorem SOk.ins (h:SOk w b B0 s) (l:B0<=w.heap.size){x:Qs}(a:intsL.In w Q x.regs [.slice rg x.regs.length rc]) (c:intsL.In w Q x.args [.slice ag x.args.length ac]) (f:x.regs.length<=rc) (d:ZA x) :
 Calls prog 164 #[Pv b 0,Qel x rg ag rc ac] w fun e w'=>e=.returned (Iv (s.code x))/\SOk w' b B0 (s.ins x)/\Below B0 w w':=by
 obtain⟨O,A,g,i,j⟩:=h
 refine(QkL (fun k n=>(i k n).2) j g a c f d).mono ?_
 rintro e w' ⟨rfl,m⟩;exact⟨Z,m.ok i g.sub l (j.ins x)⟩
theorem SOk.end_ (h:SOk w b B0 s){x:ZC}{e:EP}(d:Qdt w Q x e) (c:-9223372036854775808<=x.a/\x.a<=9223372036854775807) (l:x.yes.regs.length<2305843009213693952/\x.yes.args.length<2305843009213693952/\x.no.regs.length<2305843009213693952/\x.no.args.length<2305843009213693952) :
 Calls prog 165 #[Pv b 0,.agg (QbV x e)] w fun r w'=>r=.returned (Iv (s.fin x))/\Below w.heap.size w w':=by
 obtain⟨O,A,g,i,f⟩:=h
 exact Qkj (fun k j=>(i k j).2) f g d c l
end
def Qj4 (w w':World) (e:Ending):Prop:=∃ G1 G2,e=.returned (.agg #[.slice (some ⟨G2,0,none⟩) 1 1])/\Blk w' G1 #[Iv 0,Nv,Nv,Iv 3,Iv 0,Iv 0,Nv,Nv,Iv 0,Nv,Nv,Nv] 86/\Blk w' G2 #[Iv 0,Nv,Nv,.slice (some ⟨G1,0,none⟩) 1 1] 89/\w.heap.size<=G1/\w.heap.size<=G2/\G1≠G2/\Below w.heap.size w w'
theorem Qia (w:World):Calls prog 39 #[] w fun e w'=>Qj4 w w' e:=by
 have c:=Qf ((Bxs.start w).new #[Nv] 24);go_enter func39,ntmps39
 go_upto_region 1 with fail
 generalize w.alloc (.cells #[Nv] 24)=b at c |-;generalize w.heap.size=R at c |-;have g:=c.out.new #[Iv 0,Nv,Nv,Iv 3,Iv 0,Iv 0,Nv,Nv,Iv 0,Nv,Nv,Nv] 86;have d:=g.new #[Iv 0,Nv,Nv,.slice (some ⟨b.heap.size,0,none⟩) 1 1] 89;rw[World.size_alloc] at d
 have j:=d.cell (a:=[_,_]) 0 _ Z;have k:=d.free (a:=[_,_]) 0;have f:=Qf (d.set (a:=[_,_]) 0 (.slice (some ⟨b.heap.size+1,0,none⟩) 1 1));clear g d;go_wp2
 have i:=f.out.cell (a:=[_,_]) 0 _ Z;have h:b.heap.size≠b.heap.size+1:=by omega
 exact Xy (v:=.agg #[.slice (some ⟨b.heap.size+1,0,none⟩) 1 1]) (by simp[results,results39,go_sem,i]) Z ⟨_,_,Z,f.out.at (a:=[_]),f.out.at (a:=[]),c.out.bel.size,Nat.le_succ_of_le c.out.bel.size,h,f.out.bel⟩
theorem Qbx {α:Type}{A:Lay α}{c:Array Value}{x:α}(h:Blk w G c t) (e:c.toList=cs) (d:A.In w All x cs):A.list.In w All [x] [.slice (some ⟨G,0,none⟩) 1 1]:=by
 refine⟨some ⟨G,0,none⟩,1,Z,fun i y b=>?_⟩
 have g:i=0:=by
  have:=(Zi b).1
  simp at this;exact this
 subst g;simp at b
 subst b;refine⟨G,0,cs,Z,Y,h.lt,fun j k=>?_,d⟩
 have f:=A.len d;have a:j<c.size:=by rw[<-e] at f;simp at f;omega
 rw[Nat.zero_mul,XK,<-e,Array.getElem?_toList]
 exact(Qb h j c[j] (Xj a)).trans (Xj a).symm
end Go.Proofs.YtjhdpajpibdnaafGreat
