import Derived.Test.YtjhdpajpibdnaafGreatP4
set_option maxHeartbeats 16000000
set_option maxRecDepth 100000
namespace Go.Proofs.YtjhdpajpibdnaafGreat
open Go.ChangeShapes Go.WideShapes Go.ChangeAt Go.RowKit _root_.Go.Proofs.Tryz
set_option linter.unusedSimpArgs false
set_option linter.unusedVariables false
variable {w w' w6 w1 w2:World}{n b c k m rc ac X j B i cm g N d f fi cap bp q R pages id bi cc funcs s ci rl al ca ri vl most cR cA G:Nat}{O Q O':Nat→Prop}{l xs regs inp:List Int}{p a rg ag pm pi pa pR pA ra aa:Option Addr}{t e:TypeId}{v:Value}{P:Program}{L bs:List Bool}{x ya xc xk fr xa xb xn yb:Int}{ds cs:List Value}{ops:Array Oper}
theorem Zf (w:World) (c:Int):Calls prog 268 #[.bool true,Iv c] w fun e w'=>e=.returned (.tuple #[])/\w'=w:=by
 go_enter func268,ntmps268
 go_wp2
 exact Xz (v:=.tuple #[]) (by simp[results,results268,go_sem]) Z ⟨Z,Z⟩
theorem Zh (w:World) (c:Int):Calls prog 268 #[.bool false,Iv c] w fun e w'=>e=.panicked (Qfo c)/\w'=w:=by
 go_enter func268,ntmps268
 go_wp2
 exact⟨Z,Z,Z⟩
theorem QbN (w:World) (ok:Bool) (c:Int):Calls prog 268 #[.bool ok,Iv c] w fun e w'=>w'=w/\((ok=true/\e=.returned (.tuple #[]))\/(ok=false/\e=.panicked (Qfo c))):=by
 cases ok
 ·exact(Zh w c).mono (fun e w' h=>⟨h.2,.inr ⟨Z,h.1⟩⟩)
 ·exact(Zf w c).mono (fun e w' h=>⟨h.2,.inl ⟨Z,h.1⟩⟩)
def ZG (c:Int) (V:Value->Prop) (e:Ending):Prop:=(c=0/\∃ x,e=.returned x/\V x)\/(c≠0/\e=.panicked (Qfo c))
theorem ZG.good {c:Int}{V:Value->Prop}{x:Value}(h:c=0) (a:V x):ZG c V (.returned x):=.inl ⟨h,x,Z,a⟩
theorem ZG.bad {c d:Int}{V:Value->Prop}(h:c=d) (a:d≠0):ZG c V (.panicked (Qfo d)):=.inr ⟨by omega,by rw[h]⟩
def QmA (w:World) (A:Nat->Prop) (s:JSt) (a:Int) (x:Value):Prop:=∃ (t:TT 6) (p:Option Addr) (c:Nat),s.at a=some t/\x=Tv t p c/\TIn w (fun g=>¬ A g) t p/\t.ok
def JSt.has (s:JSt) (a:Int):Int:=match s.at a with | none=>1 | some _=>0
theorem Qb7 {w:World}{A:Nat->Prop}{s:JSt}(a:Int) (q:s.L.length<=80) (h:SAt w b O A s) :
 Calls prog 270 #[Pv b 0,Iv a] w fun e w'=>ZG (s.has a) (QmA w' A s a) e/\Below w.heap.size w w':=by
 have x:=Zd w (.cells #[Iv 0,Iv 0,Nv] 105);obtain⟨pm,cm,hh,a1,c1,a2,c2,a3,c3,aL,cL,R⟩:=h.read
 obtain⟨-,-,-,-,-,-,m⟩:=(R.below x).cells
 have y:=Qa R.row;have j:=Qa x;have f:Hid (Blk (w.alloc (.cells #[Iv 0,Iv 0,Nv] 105)) w.heap.size #[Iv 0,Iv 0,Nv] 105):=Blk.new _ _ _;clear R h x;go_enter func270,ntmps270
 go_upto_region 1 with fail
 generalize w.alloc (.cells #[Iv 0,Iv 0,Nv] 105)=P at m y j f |-;by_cases G:0<=a
 rotate_left
 ·have U:decide (a>=0)=false:=by simpa using G
  have E:Hid (s.has a=1):=by show _=_;unfold JSt.has JSt.at;rw[Xs (by omega)]
  generalize s.L.length=J at m q;go_wp2_with fail
  refine(Zh _ 1).mono ?_
  rintro M w' ⟨rfl,k⟩;subst k;exact⟨Z,ZG.bad E.out (by decide),j.out⟩
 obtain⟨i,rfl⟩:=Xc G
 by_cases C:i<s.L.length
 rotate_left
 ·have E:Hid (s.has (i:Int)=1):=by
   show _=_;unfold JSt.has JSt.at;rw[Xr (by omega),XT,Xk (by omega)]
  have o:¬ (i:Int)<s.L.length:=by omega
  generalize s.L.length=J at m o C q;go_wp2_with fail
  refine(Zh _ 1).mono ?_
  rintro M w' ⟨rfl,k⟩;subst k;exact⟨Z,ZG.bad E.out (by decide),j.out⟩
 have d:s.L[i]?=some s.L[i]:=Zg C;generalize s.L[i]=t at d;have F:s.at (i:Int)=some t:=by unfold JSt.at;rw[Xr (by omega)];exact d
 obtain⟨g,p,c,rfl,u,I,K,H,N⟩:=y.out i t d
 have E:Hid (s.has (i:Int)=0):=by show _=_;unfold JSt.has;rw[F]
 have l:=Xi w ⟨g,i*3,none⟩ u;have e0:=Qk u j.out;have e1:=Qk I j.out;have e2:=Qk K j.out;have S:¬ w.heap.size=g:=fun e=>by have:g<w.heap.size:=l;omega
 have D:Hid (TIn w (fun g=>¬ A g) t p/\t.ok):=⟨H,N⟩;have V:=Qa F;have z:(i:Int)<s.L.length:=by omega
 clear u I K H N d F y l;have y0:=Qb f.out 0 _ Z;have y1:=Qb f.out 1 _ Z;have y2:=Qb f.out 2 _ Z;have z0:=Qj f.out 0;have z1:=Qj f.out 1;have z2:=Qj f.out 2;generalize W:s.L.length=J at m C z q;go_wp2_with (go_at_call 268;refine(Zf _ _).mono ?_;rintro M w' ⟨rfl,k⟩;have k:=k.symm;subst k)
 have n:=f.out.set3 (Iv t.kind) (Iv t.r) (.slice p t.len c);have B:Below w.heap.size w (((P.setCell ⟨w.heap.size,0,none⟩ (Iv t.kind)).setCell ⟨w.heap.size,1,none⟩ (Iv t.r)).setCell ⟨w.heap.size,2,none⟩ (.slice p t.len c)):=((j.out.setCell Ze _).setCell Ze _).setCell Ze _;generalize ((P.setCell ⟨w.heap.size,0,none⟩ (Iv t.kind)).setCell ⟨w.heap.size,1,none⟩ (Iv t.r)).setCell ⟨w.heap.size,2,none⟩ (.slice p t.len c)=w9 at n B |-;have Q:=Qb n 0 _ Z;have X:=Qb n 1 _ Z;have T:=Qb n 2 _ Z;exact Xy (v:=Tv t p c) (by simp[results,results270,go_sem,Q,X,T]) Z ⟨ZG.good E.out ⟨t,p,c,V.out,Z,D.out.1.below B,D.out.2⟩,B⟩
theorem QgA {s:JSt}{a c:Int}{b:Bool}(h:s.has a≠0):s.want a c b=s.has a:=by
 unfold JSt.has JSt.want at *
 cases e:s.at a with
 | none=>rfl
 | some t=>rw[e] at h;exact absurd Z h
theorem SAt.more {w:World}{A:Nat->Prop}{s:JSt}(d:∀ k,O k->k<w.heap.size) (h:SAt w b O A s) (k:Below w.heap.size w w'):SAt w' b O (fun k=>A k\/w.heap.size<=k) s :=
 h.keep (fun g c _=>k.block g c) (fun _ h _=>h) (fun k a f e=>by rcases e with e | e;exact a e;omega) (fun k a=>.inl (h.sub k a))
theorem TIn.over {w w9:World}{A:Nat->Prop}{n:Nat}{t:TT n}{p:Option Addr}(h:TIn w2 (fun g=>¬ (A g\/w.heap.size<=g)) t p) (c:Below w.heap.size w w2) (b:Below w.heap.size w w9):TIn w9 (fun g=>¬ (A g\/w.heap.size<=g)) t p :=
 h.keep (fun k a _=>(b.block k (Nat.lt_of_not_le (fun e=>a (.inr e)))).trans (c.block k (Nat.lt_of_not_le (fun e=>a (.inr e)))).symm) (fun _ h _=>h)
theorem TIn.less {w:World}{A:Nat->Prop}{n:Nat}{t:TT n}{p:Option Addr}(h:TIn w2 (fun g=>¬ (A g\/w.heap.size<=g)) t p):TIn w2 (fun g=>¬ A g) t p:=h.mono (fun k a _ e=>a (.inl e))
structure Qhz (w wc:World) (R B:Nat) (A:Nat->Prop){n:Nat}(t:TT n) (p:Option Addr) (c:Nat):Prop where
 bel:Below w.heap.size w wc
 res:Blk wc R #[Iv 0,Iv 0,Nv] 105
 box:Blk wc B #[Iv t.kind,Iv t.r,.slice p t.len c] 105
 lay:TIn wc (fun g=>¬ (A g\/w.heap.size<=g)) t p
 farR:w.heap.size<=R
 farB:w.heap.size<=B
 ne:¬ B=R
section
variable {w wc w9:World}{R B:Nat}{A:Nat->Prop}{n:Nat}{t:TT n}{p:Option Addr}{c:Nat}
theorem Qhz.below (h:Qhz w wc R B A t p c) (k:Below wc.heap.size wc w9):Qhz w w9 R B A t p c :=
 ⟨h.bel.trans (k.mono h.bel.size),h.res.below k,h.box.below k,h.lay.below k,h.farR,h.farB,h.ne⟩
theorem Qhz.cells (h:Qhz w wc R B A t p c):wc.cell? ⟨B,0,none⟩=some (Iv t.kind)/\wc.cell? ⟨B,1,none⟩=some (Iv t.r)/\wc.cell? ⟨B,2,none⟩=some (.slice p t.len c) /\
 wc.cell? ⟨R,0,none⟩=some (Iv 0)/\wc.cell? ⟨R,1,none⟩=some (Iv 0)/\wc.cell? ⟨R,2,none⟩=some (Nv)/\wc.frozen? ⟨R,0,none⟩=false/\wc.frozen? ⟨R,1,none⟩=false/\wc.frozen? ⟨R,2,none⟩=false :=
 ⟨Qb h.box 0 _ Z,Qb h.box 1 _ Z,Qb h.box 2 _ Z,Qb h.res 0 _ Z,Qb h.res 1 _ Z,Qb h.res 2 _ Z,Qj h.res 0,Qj h.res 1,Qj h.res 2⟩
theorem QnM {k r:Int}{q:Option Addr}{l:Nat}(c:Below w.heap.size w wc) (b:Blk wc R #[Iv 0,Iv 0,Nv] 105) (a:w.heap.size<=R) :
 Blk (((wc.setCell ⟨R,0,none⟩ (Iv k)).setCell ⟨R,1,none⟩ (Iv r)).setCell ⟨R,2,none⟩ (.slice q l d)) R #[Iv k,Iv r,.slice q l d] 105/\Below w.heap.size w (((wc.setCell ⟨R,0,none⟩ (Iv k)).setCell ⟨R,1,none⟩ (Iv r)).setCell ⟨R,2,none⟩ (.slice q l d)) :=
 ⟨b.set3 _ _ _,((c.setCell (p:=⟨R,0,none⟩) a _).setCell (p:=⟨R,1,none⟩) a _).setCell (p:=⟨R,2,none⟩) a _⟩
theorem Qhz.mk1 (a:Below w.heap.size w wc) (d:Blk wc R #[Iv 0,Iv 0,Nv] 105) (e:w.heap.size<=R) (h:TIn wc (fun g=>¬ (A g\/w.heap.size<=g)) t p) :
 Qhz w (wc.alloc (.cells #[Iv t.kind,Iv t.r,.slice p t.len c] 105)) R wc.heap.size A t p c:=by
 have b:=Zd wc (.cells #[Iv t.kind,Iv t.r,.slice p t.len c] 105);have f:=d.lt;exact⟨a.trans (b.mono a.size),d.below b,Blk.new _ _ _,h.alloc _,e,a.size,by omega⟩
end
theorem Qhz.told {w wc:World}{R B:Nat}{A:Nat->Prop}{s:JSt}{a:Int}{t:TT 6}{p:Option Addr}{c:Nat}(h:Qhz w wc R B A t p c) (g:s.at a=some t) (b:t.ok) :
 ∃ w9,w9=((wc.setCell ⟨R,0,none⟩ (Iv t.kind)).setCell ⟨R,1,none⟩ (Iv t.r)).setCell ⟨R,2,none⟩ (.slice p t.len c)/\w9.cell? ⟨R,0,none⟩=some (Iv t.kind)/\w9.cell? ⟨R,1,none⟩=some (Iv t.r)/\w9.cell? ⟨R,2,none⟩=some (.slice p t.len c) /\
  QmA w9 A s a (Tv t p c)/\Below w.heap.size w w9:=by
 obtain⟨e,f⟩:=QnM (k:=t.kind) (r:=t.r) (q:=p) (l:=t.len) (d:=c) h.bel h.res h.farR
 exact⟨_,Z,Qb e 0 _ Z,Qb e 1 _ Z,Qb e 2 _ Z,⟨t,p,c,g,Z,(h.lay.over h.bel f).less,b⟩,f⟩
theorem Qe0 {w:World}{A:Nat->Prop}{s:JSt}(a d:Int) (hL:s.L.length<=80) (G:∀ k,O k->k<w.heap.size) (h:SAt w b O A s) :
 Calls prog 266 #[Pv b 0,Iv a,Iv d] w fun e w'=>ZG (s.want a d false) (QmA w' A s a) e/\Below w.heap.size w w':=by
 have H:=Zd w (.cells #[Iv 0,Iv 0,Nv] 105);have I:=Qa (h.more G H);have o:=Qa H;have z:Hid (Blk (w.alloc (.cells #[Iv 0,Iv 0,Nv] 105)) w.heap.size #[Iv 0,Iv 0,Nv] 105):=Blk.new _ _ _;clear h H;go_enter func266,ntmps266
 go_upto_region 1 with fail
 generalize w.alloc (.cells #[Iv 0,Iv 0,Nv] 105)=w1 at I o z |-;obtain⟨R,C⟩:∃ R,w.heap.size=R:=⟨_,Z⟩
 have HR:=Qa (Nat.le_of_eq C);rw[C] at z |-
 clear C;go_wp2_with fail
 refine(Qb7 a hL I.out).mono ?_
 rintro S J ⟨G,F⟩;have Q:Hid (Below w.heap.size w J):=o.out.trans (F.mono o.out.size);have N:=Qa (z.out.below F);rcases G with ⟨m,x,rfl,t,p,c,V,rfl,U,g⟩|⟨m,rfl⟩
 rotate_left
 ·exact⟨Z,.inr ⟨by rw[QgA m];exact m,by rw[QgA m]⟩,Q.out⟩
 have f:=Qa (Qhz.mk1 (c:=c) Q.out N.out HR.out U);have u:=Qa (Xh V g);clear U V g F z o I N;go_upto_region 2 with fail
 generalize J.alloc (.cells #[Iv t.kind,Iv t.r,.slice p t.len c] 105)=w3 at f |-;generalize J.heap.size=B at f |-;obtain⟨y0,y1,y2,r0,r1,r2,z0,z1,z2⟩:=f.out.cells
 have W:=f.out.ne;by_cases q:t.kind=d
 rotate_left
 ·have j:(t.kind==d)=false:=by simpa using q
  have E:Hid (s.want a d false=9):=by show _=_;unfold JSt.want;rw[u.out.1];simp[q]
  generalize t.kind=tk at y0 q j;go_wp2_with fail
  refine(Zh _ 9).mono ?_
  rintro S w' ⟨rfl,i⟩;subst i;exact⟨Z,ZG.bad E.out (by decide),f.out.bel⟩
 ·subst q;have j:(t.kind==t.kind)=true:=by simp
  have E:Hid (s.want a t.kind false=0):=by show _=_;unfold JSt.want;rw[u.out.1];simp
  obtain⟨D,K,l,y,n,T,M⟩:=f.out.told u.out.1 u.out.2
  have P:=Qa (Xh T M);have X:Hid (D.cell? ⟨R,0,none⟩=some (Iv t.kind)/\D.cell? ⟨R,1,none⟩=some (Iv t.r)/\D.cell? ⟨R,2,none⟩=some (.slice p t.len c)):=⟨l,y,n⟩;have H9:=Qa K;clear T M l y n K;go_wp2_with (go_at_call 268;refine(Zf _ _).mono ?_;rintro S w' ⟨rfl,i⟩;have i:=i.symm;subst i)
  rw[<-H9.out]
  obtain⟨l,y,n⟩:=X.out
  exact Xy (v:=Tv t p c) (by simp[results,results266,go_sem,l,y,n]) Z ⟨ZG.good E.out P.out.1,P.out.2⟩
theorem Qfc {s:JSt}{a b:Int}(h:s.want a b false≠0):s.want a b true=s.want a b false:=by
 unfold JSt.want at *
 cases e:s.at a with
 | none=>rfl
 | some t =>
   rw[e] at h
   by_cases c:t.kind=b
   ·simp[c] at h
   ·simp[c]
theorem Qhp {s:JSt}{a b:Int}{t:TT 6}(h:s.want a b false=0) (d:s.at a=some t):s.want a b true=if hHas s.H t.r then 0 else 10:=by
 unfold JSt.want at *;rw[d] at h |-
 by_cases c:t.kind=b
 ·simp only[c,if_true,Bool.true_and]
  cases hHas s.H t.r<;>rfl
 ·simp[c] at h
theorem Z7 {w:World}{A:Nat->Prop}{s:JSt}(a d:Int) (hL:s.L.length<=80) (j:∀ k,O k->k<w.heap.size) (h:SAt w b O A s) :
 Calls prog 248 #[Pv b 0,Iv a,Iv d] w fun e w'=>ZG (s.want a d true) (QmA w' A s a) e/\Below w.heap.size w w':=by
 have N:=Zd w (.cells #[Iv 0,Iv 0,Nv] 105);have D:=Qa (h.more j N);have n:=Qa N;have I:Hid (Blk (w.alloc (.cells #[Iv 0,Iv 0,Nv] 105)) w.heap.size #[Iv 0,Iv 0,Nv] 105):=Blk.new _ _ _;have HO:=Qa j;clear h N j;go_enter func248,ntmps248
 go_upto_region 1 with fail
 generalize w.alloc (.cells #[Iv 0,Iv 0,Nv] 105)=w1 at D n I |-;obtain⟨R,J⟩:∃ R,w.heap.size=R:=⟨_,Z⟩
 have HR:=Qa (Nat.le_of_eq J);rw[J] at I |-
 clear J;go_wp2_with fail
 refine(Qe0 a d hL (fun k hk=>Zl (HO.out k hk) n.out.size) D.out).mono ?_
 rintro e' F ⟨j,u⟩;have B2:Hid (Below w.heap.size w F):=n.out.trans (u.mono n.out.size);have W:=Qa (I.out.below u);have H2:=Qa (D.out.below u);rcases j with ⟨g,x,rfl,t,p,c,S,rfl,ht,l⟩|⟨g,rfl⟩
 rotate_left
 ·exact⟨Z,.inr ⟨by rw[Qfc g];exact g,by rw[Qfc g]⟩,B2.out⟩
 have i:=Qa (Qhz.mk1 (c:=c) B2.out W.out HR.out ht);have HA:=Qa (Xh S l);have E:=Qa (Qhp g S);have Q:=Qa (H2.out.below (Zd F (.cells #[Iv t.kind,Iv t.r,.slice p t.len c] 105)));clear ht S l u I n D W g H2;go_upto_region 2 with fail
 generalize F.alloc (.cells #[Iv t.kind,Iv t.r,.slice p t.len c] 105)=M at i Q |-;generalize F.heap.size=B at i |-;obtain⟨y0,y1,y2,r0,r1,r2,z0,z1,z2⟩:=i.out.cells
 have aa:=i.out.ne;obtain⟨pm,cm,U,a1,c1,a2,c2,a3,c3,aL,cL,P⟩:=Q.out.read
 obtain⟨-,q1,-⟩:=P.cells
 have C:Hid (∀ m,Calls prog 272 #[Pv U 0,Iv t.r] (M.drewN m) fun e w'=>e=.returned (.bool (hHas s.H t.r))/\w'=M.drewN m):=fun m=>QcB t.r (show Qp (M.drewN m) U s.H from P.held);clear P;generalize hHas s.H t.r=q at E C;go_region_with (first | (go_at_call 272;refine(C.out _).mono ?_;rintro e' w' ⟨rfl,f⟩;have f:=f.symm;subst f) | (go_at_call 268;refine(QbN _ _ _).mono ?_;rintro e' w' ⟨f,⟨z,rfl⟩|⟨z,rfl⟩⟩;rotate_left;exact⟨Z,ZG.bad (by rw[E.out,z];rfl) (by decide),by rw[f];exact QI i.out.bel _⟩;have f:=f.symm;subst f))
 all_goals
  have E9:Hid (s.want a d true=0):=by show _=_;rw[E.out,z];rfl
  clear z Q E C;have T4:=i.out.below (QI Zr 1);obtain⟨K,T,o,G,y,hv,V⟩:=T4.told HA.out.1 HA.out.2
  have HV:=Qa (Xh hv V);have X:Hid (K.cell? ⟨R,0,none⟩=some (Iv t.kind)/\K.cell? ⟨R,1,none⟩=some (Iv t.r)/\K.cell? ⟨R,2,none⟩=some (.slice p t.len c)):=⟨o,G,y⟩;have H9:=Qa T;clear hv V o G y T T4;go_wp2
  rw[<-H9.out]
  obtain⟨o,G,y⟩:=X.out
  exact Xy (v:=Tv t p c) (by simp[results,results248,go_sem,o,G,y]) Z ⟨ZG.good E9.out HV.out.1,HV.out.2⟩
abbrev VNone:Value->Prop:=fun x=>x=.tuple #[]
theorem QbS {A:Nat->Prop}{s:JSt}(F:l.length=N) (S:N<=100000) (K:intsL.In w Q l [.slice p N c]) (R:s.L.length<=80) (u:∀ k,O k->k<w.heap.size) (h:SAt w b O A s) :
 Calls prog 240 #[Pv b 0,.slice p N c] w fun e w'=>ZG (Qu (fun a=>s.want a 1 false) l) VNone e/\Below w.heap.size w w':=by
 have H:=Qa h;have V:=Qa u;have T:=Qa K;have E:=Qa F;clear h u K F;go_enter func240,ntmps240
 go_wp2
 go_loopw [8] (fun i wr=>∃ k:Nat,k<=N/\i=Iv k/\Below w.heap.size w wr/\∀ (j:Nat) (y:Int),j<k->l[j]?=some y->s.want y 1 false=0) (fun i _=>N - (intOf i).toNat)
 case atStart=>exact⟨0,Xb _,Z,Zr,fun j y P=>by omega⟩
 case round =>
  obtain⟨k,J,rfl,D,G⟩:=hrel
  have n:=Qa D;have z:=Qa G;clear D G;by_cases r:k<N
  ·have t:(k:Int)<N:=by omega
   have f:k<l.length:=by rw[E.out];exact r
   obtain⟨g,o,rfl,-,hg,m⟩:=ZI T.out f
   obtain⟨y,d⟩:∃ y,l[k]?=some y:=⟨_,Zg f⟩
   rw[show l.getD k 0=y by rw[List.getD_eq_getElem?_getD,d];rfl] at m
   have B:=Qa d;clear d;have W:=Qk m n.out;clear m f;go_wp2_with fail
   refine(Qe0 y 1 R (fun k J=>Zl (V.out k J) n.out.size) (H.out.below n.out)).mono ?_
   rintro e' X ⟨u,C⟩;have I:Hid (Below w.heap.size w X):=n.out.trans (C.mono n.out.size);rcases u with ⟨q,x,rfl,-⟩|⟨q,rfl⟩
   rotate_left
   ·exact⟨Z,.inr ⟨by rw[Qap B.out z.out q];exact q,by rw[Qap B.out z.out q]⟩,I.out⟩
   have M:=Qa q;clear q C W;go_wp2
   go_roundw
   case rel =>
    refine⟨k+1,r,by go_num,I.out,fun j U P d=>?_⟩
    rcases Nat.lt_or_ge j k with h | h
    ·exact z.out j U h d
    ·have:j=k:=by omega
     subst this;have e:=B.out.symm.trans d;injection e with e
     subst e;exact M.out
   case measure=>simp[intOf];omega
  ·have t:¬ (k:Int)<N:=by omega
   go_wp2
   exact Xz (v:=.tuple #[]) (by simp[results,results240,go_sem]) Z ⟨ZG.good (Z3 (fun j y d=>z.out j y (by have:=(Zi d).1;rw[E.out] at this;omega) d)) Z,n.out⟩
def QZ (n m:Nat):Int:=if 80<n+m then 2 else 0
theorem QeR {A:Nat->Prop}{s:JSt}(n:Nat) (z:n<=1000) (i:s.L.length<=80) (h:SAt w b O A s) :
 Calls prog 267 #[Pv b 0,Iv n] w fun e w'=>ZG (QZ s.L.length n) VNone e/\w'=w:=by
 obtain⟨r,q,l,B,p,t,x,m,u,o,y,g⟩:=h.read
 obtain⟨-,-,-,-,-,-,j⟩:=g.cells
 clear h g;generalize s.L.length=a at j i |-;by_cases d:80<a+n
 ·have E:Hid (QZ a n=2):=Xs d;have f:decide ((a:Int)+n<=80)=false:=Xu (by omega);clear d;go_enter func267,ntmps267
  go_wp2_with fail
  refine(Zh _ 2).mono ?_
  rintro k w' ⟨rfl,c⟩;subst c;exact⟨Z,ZG.bad E.out (by decide),Z⟩
 ·have E:Hid (QZ a n=0):=Xr d;have f:decide ((a:Int)+n<=80)=true:=Xt (by omega);clear d;go_enter func267,ntmps267
  go_wp2_with (go_at_call 268;refine(Zf _ _).mono ?_;rintro k w' ⟨rfl,c⟩;have c:=c.symm;subst c)
  exact Xz (v:=.tuple #[]) (by simp[results,results267,go_sem]) Z ⟨ZG.good E.out Z,Z⟩
def QO (w:World) (b:Nat) (O A:Nat->Prop) (s s':JSt) (c:Int) (e:Ending) (w':World):Prop :=
 (c=0/\e=.returned (.tuple #[])/\STo w w' b O A s')\/(c≠0/\e=.panicked (Qfo c)/\STo w w' b O A s)
theorem STo.of_below {A:Nat->Prop}{s:JSt}(h:SAt w b O A s) (a:Below w.heap.size w w'):STo w w' b O A s:=(STo.same (h.below a)).after a
theorem Yh:type_of% @STo.of_below:=@STo.of_below
theorem QO.after {A:Nat->Prop}{s g:JSt}{c:Int}{e:Ending}(h:QO w1 b O A s g c e w') (i:Below w.heap.size w w1):QO w b O A s g c e w':=by
 rcases h with ⟨d,f,a⟩|⟨d,f,a⟩
 ·exact .inl ⟨d,f,a.after i⟩
 ·exact .inr ⟨d,f,a.after i⟩
theorem QO.bad {A:Nat->Prop}{s a:JSt}{c d:Int}(h:c=d) (f:d≠0) (e:STo w w' b O A s):QO w b O A s a c (.panicked (Qfo d)) w':=.inr ⟨by omega,by rw[h],e⟩
theorem Qay {A:Nat->Prop}{s:JSt}{l:List (TT 6)}(hn:l.length=n) (an:n<=8) (hl:(Qo 6).In w (fun g=>¬ A g) l [.slice p n c]) (W:s.L.length<=80) (hA:∀ k,A k->k<w.heap.size) (h:SAt w b O A s) :
 Calls prog 244 #[Pv b 0,.slice p n c] w fun e w'=>QO w b O A s { s with L:=s.L++l } (QZ s.L.length n) e w':=by
 obtain⟨i0,hi,ab,ak,V⟩:=pInfoT
 have H:=Qa h;have B:=Qa hl;have Q:=Qa hn;have C:=Qa (QeR n (by omega) W h);have ae:=Qa hA;clear h hl hn hA;by_cases I:80<s.L.length+n
 ·rw[show QZ s.L.length n=2 from Xs I] at C |-
  clear I;go_enter func244,ntmps244
  go_wp2_with fail
  refine C.out.mono ?_;rintro e' w' ⟨⟨N,-⟩|⟨N,rfl⟩,f⟩
  ·cases N
  subst f;exact⟨Z,.inr ⟨by decide,Z,STo.same H.out⟩⟩
 rw[show QZ s.L.length n=0 from Xr I] at C |-
 obtain⟨q,r,xs,S,f6,E,J,d⟩:=H.out.pushL ae.out
 have D:=Qa d;have z:=Qa J
 have C2:Hid (Calls prog 267 #[Pv b 0,Iv n] w fun e w'=>e=.returned (.tuple #[])/\w'=w):=C.out.mono (fun e w' h=>by
  rcases h with ⟨⟨-,x,rfl,hx⟩|⟨N,-⟩,f⟩
  ·exact⟨by rw[hx],f⟩
  ·exact absurd Z N)
 clear d J C;by_cases X:n=0
 ·subst X;have aa:l=[]:=Xf.1 Q.out;subst aa
  have ha:Hid (∀ (t:TypeId) (F:World),(Builtin.append_ #[80,80] t #[.slice q s.L.length r,.slice p 0 c]).run prog F=.ok (.slice q s.L.length r) F):=fun (t:TypeId) (F:World)=>run_append_nothing (P:=prog) F 80 80 t 105 i0 pUnderT hi q s.L.length r E (.slice p 0 c) (by cases p with
   | none=>exact Src.ofNil F pUnderT c
   | some ad=>exact Src.ofSlice F pUnderT ad 0 c [] (by simp) (fun j u h=>by simp at h) (fun u h=>by cases h))
  have HZ:Hid (STo w (w.setCell ⟨b,6,none⟩ (.slice q s.L.length r)) b O A { s with L:=s.L++[] }):=by
   have e:∀ k,(w.setCell ⟨b,6,none⟩ (.slice q s.L.length r)).heap[k]?=w.heap[k]?:=fun k=>H.out.same6 S k;have hb:Below w.heap.size w (w.setCell ⟨b,6,none⟩ (.slice q s.L.length r)):=⟨Z,Z,Z,by simp,fun k _=>e k⟩;rw[List.append_nil]
   exact Yh H.out hb
  clear D z B;generalize s.L.length=nL at S ha HZ W E I;go_enter func244,ntmps244
  go_wp2_with (first | (go_at_call 267;refine(C2.out).mono ?_;rintro e w' ⟨rfl,f⟩;have f:=f.symm;subst f) | (at_builtin;refine QaL Z (.tmp 12) (.tmp 13) 80 Z (.slice q nL r) (.slice p 0 c) Z Z (ha.out _ _) ?_))
  exact Xz (v:=.tuple #[]) (by simp[results,results244,go_sem]) Z (.inl ⟨Z,Z,HZ.out⟩)
 ·obtain⟨g0,o0,rfl⟩:∃ g0 o0,p=some ⟨g0,o0,none⟩:=by
   obtain⟨g,o,dd,e,-⟩:=Yf B.out (Zg (show 0<l.length by have:=Q.out;omega))
   exact⟨g,o,e⟩
  obtain⟨U,d1,d2,d3,d4⟩:=Lay.flat B.out (fun y cs hy=>by obtain⟨ya,yc,e,-⟩:=hy;subst e;exact Qlu _ _ _ _ _)
  have G:U.length=n*3:=by rw[<-Q.out];exact d1
  have ac:=Qa G;have ag:=Qa d2;have af:=Qa d3
  have i:Hid (∀ m g a,m.ownsRow 0 105 3 (.slice (some ⟨g,0,none⟩) (s.L.length+n) a) (s.L.length+n) (xs++U)->w.grownBy m (Value.slice q s.L.length r).ownBlock->((Value.slice q s.L.length r).ownBlock=some g\/g=w.heap.size)->g<m.heap.size->m.cell? ⟨b,6,none⟩=some (.slice q s.L.length r)/\m.frozen? ⟨b,6,none⟩=false/\STo w (m.setCell ⟨b,6,none⟩ (.slice (some ⟨g,0,none⟩) (s.L.length+n) a)) b O A { s with L:=s.L++l }):=by
   intro m g a K R M T;rw[<-Q.out] at K |-
   exact D.out m g a l U d1 K R M T d4
  clear D B d1 G d2 d3 d4;have ah:Hid (0<=w.heap.size):=Xb _;have aj:s.L.length+n<=80:=by omega
  have ai:0<n:=by omega
  generalize s.L.length=nL at S z i W E I aj;go_enter func244,ntmps244
  go_wp2_with (first | (go_at_call 267;refine(C2.out).mono ?_;rintro e w' ⟨rfl,f⟩;have f:=f.symm;subst f) | (at_builtin;refine wpList_append_lies _ Z (.tmp 12) (.tmp 13) 80 Z 0 105 i0 (.agg #[Iv 0,Iv 0,Nv]) 3 40 pUnderT hi ab ak V Z (by decide) _ _ _ Z z.out ⟨g0,o0,none⟩ n c U Z ac.out ag.out af.out ai (by unfold maxLen;omega) (by omega) ah.out w.heap.size Z ?_))
  intro g2 a m K R M T;obtain⟨al,am,z9⟩:=i.out m g2 a K R M T
  have Z9:=Qa z9;clear K R M T i z z9 S f6;go_wp2
  exact Xz (v:=.tuple #[]) (by simp[results,results244,go_sem]) Z (.inl ⟨Z,Z,Z9.out⟩)
theorem Qeq {A:Nat->Prop}(o:∀ k,A k->k<w.heap.size){t:TT 6}(n:TIn w (fun g=>¬ A g) t p) (m:t.ok) :
 (Qo 6).In (w.alloc (.cells #[Iv t.kind,Iv t.r,.slice p t.len c] 105)) (fun g=>¬ A g) [t] [.slice (some ⟨w.heap.size,0,none⟩) 1 d]:=by
 refine⟨some ⟨w.heap.size,0,none⟩,d,Z,fun i x b=>?_⟩
 have q:i<1:=by simpa using (Zi b).1
 have l:i=0:=by omega
 subst l;simp at b
 subst b;have a:=Qe w #[Iv t.kind,Iv t.r,.slice p t.len c] 105;refine⟨w.heap.size,0,[Iv t.kind,Iv t.r,.slice p t.len c],Z,fun e=>by have:=o _ e;omega,XC a,fun j f=>?_,p,c,Z,n.alloc _,m⟩
 have f:j<3:=f;match j,f with
 | 0,_=>exact Qb a 0 _ Z
 | 1,_=>exact Qb a 1 _ Z
 | 2,_=>exact Qb a 2 _ Z
 | j+3,h=>exact absurd h (by omega)
theorem QbK {A:Nat->Prop}{s:JSt}(n:s.L.length<=80) (g:∀ k,A k->k<w.heap.size) (h:SAt w b O A s) :
 Calls prog 239 #[Pv b 0] w fun e w'=>QO w b O A s { s with L:=s.L++[tInt] } (QZ s.L.length 1) e w':=by
 have C:Hid (∀ d,Calls prog 244 #[Pv b 0,.slice (some ⟨w.heap.size,0,none⟩) 1 d] (w.alloc (.cells #[Iv 1,Iv 0,Nv] 105)) fun e w'=>QO w b O A s { s with L:=s.L++[tInt] } (QZ s.L.length 1) e w'):=fun d=>by
  have f:=Zd w (.cells #[Iv 1,Iv 0,Nv] 105);refine(Qay (l:=[tInt]) Z (by decide) (Qeq (t:=tInt) (p:=none) (c:=0) (d:=d) g (fun i x r=>by simp[tInt] at r) (by unfold TT.ok;simp[tInt])) n (fun k q=>Zl (g k q) f.size) (h.below f)).mono (fun e w' a=>a.after f)
 clear h n g;go_enter func239,ntmps239
 go_wp2_with fail
 refine(C.out _).mono ?_
 rintro u w' a;have o:=Qa a;rcases a with ⟨m,rfl,j⟩|⟨m,rfl,j⟩
 rotate_left
 ·exact⟨Z,o.out⟩
 clear m j;go_wp2
 exact Xz (v:=.tuple #[]) (by simp[results,results239,go_sem]) Z o.out
theorem QkD (w:World) (Q:Nat->Prop) (k r:Int):TIn (n:=6) w Q (mkT k r []) none:=fun i x a=>by simp at a
theorem Qka {k r:Int}(h:-9223372036854775808<=r/\r<=9223372036854775807) (a:-9223372036854775808<=k/\k<=9223372036854775807):TT.ok (n:=6) (mkT k r []):=by
 unfold TT.ok;simp
 omega
theorem Qc2 {A:Nat->Prop}{s:JSt}(k r:Int) (m:0<=r/\r<=1000) (f:0<=k/\k<=4) (d:Nat) (j:s.L.length<=80) (g:∀ k,A k->k<w.heap.size) (h:SAt w b O A s) :
 Calls prog 244 #[Pv b 0,.slice (some ⟨w.heap.size,0,none⟩) 1 d] (w.alloc (.cells #[Iv k,Iv r,Nv] 105)) fun e w'=>QO w b O A s { s with L:=s.L++[mkT k r []] } (QZ s.L.length 1) e w':=by
 have a:=Zd w (.cells #[Iv k,Iv r,Nv] 105);exact(Qay (l:=[mkT k r []]) Z (by simp) (Qeq (t:=mkT k r []) (p:=none) (c:=0) (d:=d) g (QkD _ _ _ _) (Qka (by omega) (by omega))) j (fun k f=>Zl (g k f) a.size) (h.below a)).mono (fun e w' i=>i.after a)
def JSt.openC (s:JSt):Int:=if 80<s.L.length+1\/s.H.length=16 then 2 else 0
def JSt.openS (s:JSt):JSt:={ s with H:=s.H++[true],L:=s.L++[mkT 2 s.H.length []] }
theorem QiJ {A:Nat->Prop}{s:JSt}(hH:s.H.length<=16) (Q:s.L.length<=80) (R:∀ k,A k->k<w.heap.size) (h:SAt w b O A s) :
 Calls prog 241 #[Pv b 0] w fun e w'=>QO w b O A s s.openS s.openC e w':=by
 have H:=Qa h;have T:=Qa R;have C:=Qa (QeR 1 (by decide) Q h);clear h R;by_cases m:80<s.L.length+1
 ·rw[show QZ s.L.length 1=2 from Xs m] at C
  have E:Hid (s.openC=2):=Xs (.inl m);clear m;go_enter func241,ntmps241
  go_wp2_with fail
  refine C.out.mono ?_;rintro I w' ⟨⟨q,-⟩|⟨q,rfl⟩,a⟩
  ·cases q
  subst a;exact⟨Yz,QO.bad E.out (by decide) (STo.same H.out)⟩
 rw[show QZ s.L.length 1=0 from Xr m] at C
 have u:Hid (Calls prog 267 #[Pv b 0,Iv 1] w fun e w'=>e=.returned (.tuple #[])/\w'=w):=C.out.mono (fun e w' h=>by
  rcases h with ⟨⟨-,x,rfl,U⟩|⟨q,-⟩,a⟩
  ·exact⟨by rw[U],a⟩
  ·exact absurd Yz q)
 clear C;obtain⟨X,q1,g,i⟩:=H.out.setH T.out
 have n:=Qa (QcU g);have D:=Qa i;clear g i;by_cases l:s.H.length=16
 ·have E:Hid (s.openC=2):=Xs (.inr l);rw[show QbF s.H=-1 by unfold QbF;rw[Xr (by omega)],show QcQ s.H=s.H by unfold QcQ;rw[Xr (by omega)]] at n
  clear l m;go_enter func241,ntmps241
  go_wp2_with (first | (go_at_call 267;refine(u.out).mono ?_;rintro e w' ⟨rfl,a⟩;have a:=a.symm;subst a) | (go_at_call 237;refine(n.out).mono ?_;rintro e M ⟨rfl,c,f⟩;have Z:=Qa (D.out M _ c f);clear c f))
  refine(Zh _ 2).mono ?_
  rintro I w' ⟨rfl,a⟩;subst a;exact⟨Yz,QO.bad E.out (by decide) Z.out⟩
 ·have E:Hid (s.openC=0):=Xr (by omega);have j:s.H.length<16:=by omega
  rw[show QbF s.H=(s.H.length:Int) by unfold QbF;rw[Xs j],show QcQ s.H=s.H++[true] by unfold QcQ;rw[Xs j]] at n
  have t:s.H.length<=1000:=by omega
  generalize o:s.H.length=B at n j t;have z:=Qa o;have V:decide ((B:Int)>=0)=true:=Xt (by omega);clear o l;go_enter func241,ntmps241
  go_wp2_with (first | (go_at_call 267;refine(u.out).mono ?_;rintro e w' ⟨rfl,a⟩;have a:=a.symm;subst a) | (go_at_call 237;refine(n.out).mono ?_;rintro e M ⟨rfl,c,f⟩;have Z:=Qa (D.out M _ c f);clear c f))
  refine(Zf _ _).mono ?_
  rintro I w' ⟨rfl,a⟩;have a:=a.symm;subst a;obtain⟨N,r,P,y⟩:=Z.out
  have G:=Qa (Xh r y);have S:=Qa (fun d=>Qc2 2 (B:Int) (by omega) (by decide) d (by exact Q) (fun k p=>by rcases p with p | p;exact Zl (T.out k p) y.size;exact(r k p).2) P);clear r P y Z D n u;go_wp2_with fail
  refine(S.out _).mono ?_
  rintro I w2 W;rcases W with ⟨K,rfl,J⟩|⟨K,rfl,J⟩
  rotate_left
  ·exact absurd (Xr m) K
  have F:=Qa (STo.join G.out.1 G.out.2 J);clear K J S G;go_wp2
  refine Xz (v:=.tuple #[]) (by simp[results,results241,go_sem]) Yz (.inl ⟨E.out,Yz,?_⟩);have e:s.openS={ ({ s with H:=s.H++[true] }) with L:=({ s with H:=s.H++[true] }).L++[mkT 2 (B:Int) []] }:=by unfold JSt.openS;rw[z.out]
  rw[e]
  exact F.out
def JSt.freeC (s:JSt) (a:Int):Int:=match s.at a with
 | none=>1
 | some t=>Qv (s.want a 2 true) (if t.r<s.f.regs then 11 else 0)
def JSt.freeS (s:JSt) (a:Int):JSt:={ s with H:=s.H.set (match s.at a with | none=>0 | some t=>t.r.toNat) false }
theorem Qhs {s:JSt}{a:Int}(h:s.want a 2 true≠0):s.freeC a=s.want a 2 true:=by
 unfold JSt.freeC
 cases e:s.at a with
 | none=>unfold JSt.want;rw[e]
 | some t=>show Qv _ _=_;unfold Qv;rw[Xr h]
theorem QiI {A:Nat->Prop}{s:JSt}(a:Int) (T:s.L.length<=80) (J:∀ k,A k->k<w.heap.size) (h:SAt w b O A s) :
 Calls prog 242 #[Pv b 0,Iv a] w fun e w'=>QO w b O A s (s.freeS a) (s.freeC a) e w':=by
 have H:=Qa h;have Q:=Qa J;clear h J;have aa:∀ (k r:Int) (p:Option Addr) (l c:Nat) (w:World),(Instr.field 105 (.agg #[Iv k,Iv r,.slice p l c]) 1).run prog w=.ok (Iv r) w:=fun _ _ _ _ _ _=>by kernel_rfl
 go_enter func242,ntmps242
 go_wp2_with fail
 refine(Z7 a 2 T (fun k I=>Q.out k (H.out.sub k I)) H.out).mono ?_
 rintro P w2 ⟨S,C⟩;have z:=Qa C;have R:=Qa (H.out.below C);clear C;rcases S with ⟨m,x,rfl,t,p,c,B,rfl,ht,D⟩|⟨m,rfl⟩
 rotate_left
 ·exact⟨Yz,QO.bad (Qhs m) m (Yh H.out z.out)⟩
 have E:Hid (s.freeC a=if t.r<s.f.regs then 11 else 0):=by show _=_;unfold JSt.freeC Qv;rw[B];simp only[m,if_true]
 have j:hHas s.H t.r=true:=by
  obtain⟨t',y,e2,V⟩:=Z2 m
  rw[B] at y
  cases y
  exact V Yz
 have K:Hid (s.freeS a={ s with H:=Qf3 s.H t.r }):=by show _=_;unfold JSt.freeS Qf3;rw[B,j];rfl
 obtain⟨pm,cm,hh,a1,c1,a2,c2,a3,c3,aL,cL,M⟩:=R.out.read
 obtain⟨-,X,U,-⟩:=M.cells
 clear M ht D B m j;obtain⟨ab,n,d,i⟩:=R.out.setH (fun k I=>Zl (Q.out k I) z.out.size)
 have y:=X.symm.trans n;simp only[Option.some.injEq,Value.pointer.injEq,Addr.mk.injEq,and_true] at y
 subst y;have N:=Qa (Qjz t.r d);have W:=Qa i;clear d i n;simp only[Tv]
 generalize s.f.regs=G at U E;generalize t.r=F at E N K |-;by_cases g:F<G
 ·rw[Xs g] at E
  have hg:decide (F>=G)=false:=Xu (by omega);clear g;go_wp2_with fail
  refine(Zh _ 11).mono ?_
  rintro P w' ⟨rfl,u⟩;subst u;exact⟨Yz,QO.bad E.out (by decide) (Yh H.out z.out)⟩
 ·rw[Xr g] at E
  have hg:decide (F>=G)=true:=Xt (by omega);clear g;go_wp2_with fail
  refine(Zf _ _).mono ?_
  rintro P w' ⟨rfl,u⟩;have u:=u.symm;subst u;go_wp2_with (go_at_call 269;refine(N.out).mono ?_;rintro e w1 ⟨rfl,o,q⟩;have Z:=Qa (W.out w1 _ o q);clear o q)
  exact Xz (v:=.tuple #[]) (by simp[results,results242,go_sem]) Yz (.inl ⟨E.out,Yz,by rw[K.out];exact Z.out.after z.out⟩)
def JSt.arrayC (s:JSt) (a b:Int):Int:=Qv (Qv (s.want a 2 true) (s.want b 1 false)) (QZ s.L.length 1)
theorem Ql {a b:Int}(h:a≠0):Qv a b=a:=by unfold Qv;rw[Xr h]
theorem Qx {a b:Int}(h:a=0):Qv a b=b:=by unfold Qv;rw[Xs h]
theorem Ql3 (a:Int) (g:-9223372036854775808<=a/\a<=9223372036854775807) (d:Nat):intsL.In (w.alloc (.cells #[Iv a] 3)) All [a] [.slice (some ⟨w.heap.size,0,none⟩) 1 d]:=by
 refine⟨_,d,Z,fun i x b=>?_⟩
 have k:i<1:=by simpa using (Zi b).1
 have e:i=0:=by omega
 subst e;simp at b
 subst b;have f:=Qe w #[Iv a] 3;refine⟨w.heap.size,0,[Iv a],Z,Y,XC f,fun j c=>?_,Z,g⟩
 have c:j<1:=c;match j,c with
 | 0,_=>exact Qb f 0 _ Z
 | j+1,h=>exact absurd h (by omega)
theorem QkZ (a b:Int) (l:-9223372036854775808<=a/\a<=9223372036854775807) (k:-9223372036854775808<=b/\b<=9223372036854775807) (d:Nat):intsL.In (w.alloc (.cells #[Iv a,Iv b] 3)) All [a,b] [.slice (some ⟨w.heap.size,0,none⟩) 2 d]:=by
 refine⟨_,d,Z,fun i x e=>?_⟩
 have g:i<2:=by simpa using (Zi e).1
 have f:=Qe w #[Iv a,Iv b] 3;match i,g with
 | 0,_ =>
   simp at e
   subst e;refine⟨w.heap.size,0,[Iv a],Z,Y,XC f,fun j c=>?_,Z,l⟩
   have c:j<1:=c;match j,c with
   | 0,_=>exact Qb f 0 _ Z
   | j+1,h=>exact absurd h (by omega)
 | 1,_ =>
   simp at e
   subst e;refine⟨w.heap.size,0,[Iv b],Z,Y,XC f,fun j c=>?_,Z,k⟩
   have c:j<1:=c;match j,c with
   | 0,_=>exact Qb f 1 _ Z
   | j+1,h=>exact absurd h (by omega)
 | i+2,h=>exact absurd h (by omega)
theorem QeJ {s:JSt}{a:Int}:Qu (fun a=>s.want a 1 false) [a]=s.want a 1 false:=by
 show (if s.want a 1 false≠0 then s.want a 1 false else 0)=_;split
 ·rfl
 ·rename_i h;exact(Xq.1 h).symm
theorem QjE {s:JSt}{a b:Int}:Qu (fun a=>s.want a 1 false) [a,b]=Qv (s.want a 1 false) (s.want b 1 false):=by
 show (if s.want a 1 false≠0 then s.want a 1 false else Qu (fun a=>s.want a 1 false) [b])=_;rw[QeJ]
 by_cases h:s.want a 1 false=0
 ·rw[Xr (by simpa using h),Qx h]
 ·rw[Xs h,Ql h]
theorem QbI {A:Nat->Prop}{s:JSt}(a:Int) (j:-9223372036854775808<=a/\a<=9223372036854775807) (d:Nat) (i:s.L.length<=80) (g:∀ k,O k->k<w.heap.size) (h:SAt w b O A s) :
 Calls prog 240 #[Pv b 0,.slice (some ⟨w.heap.size,0,none⟩) 1 d] (w.alloc (.cells #[Iv a] 3)) fun e w'=>ZG (s.want a 1 false) VNone e/\Below w.heap.size w w':=by
 have c:=Zd w (.cells #[Iv a] 3)
 have:=QbS (l:=[a]) Z (by simp) (Ql3 a j d) i (fun k f=>Zl (g k f) c.size) (h.below c)
 rw[QeJ] at this
 exact this.mono (fun e w' h=>⟨h.1,c.trans (h.2.mono c.size)⟩)
theorem Qe6 {A:Nat->Prop}{s:JSt}(a a':Int) (m:-9223372036854775808<=a/\a<=9223372036854775807) (f:-9223372036854775808<=a'/\a'<=9223372036854775807) (d:Nat) (j:s.L.length<=80) (i:∀ k,O k->k<w.heap.size) (h:SAt w b O A s) :
 Calls prog 240 #[Pv b 0,.slice (some ⟨w.heap.size,0,none⟩) 2 d] (w.alloc (.cells #[Iv a,Iv a'] 3)) fun e w'=>ZG (Qv (s.want a 1 false) (s.want a' 1 false)) VNone e/\Below w.heap.size w w':=by
 have c:=Zd w (.cells #[Iv a,Iv a'] 3)
 have:=QbS (l:=[a,a']) Z (by simp) (QkZ a a' m f d) j (fun k g=>Zl (i k g) c.size) (h.below c)
 rw[QjE] at this
 exact this.mono (fun e w' h=>⟨h.1,c.trans (h.2.mono c.size)⟩)
theorem QgX {A:Nat->Prop}{s:JSt}(a a':Int) (n:-9223372036854775808<=a'/\a'<=9223372036854775807) (hH:s.H.length<=16) (z:s.L.length<=80) (M:∀ k,A k->k<w.heap.size) (h:SAt w b O A s) :
 Calls prog 247 #[Pv b 0,Iv a,Iv a'] w fun e w'=>∀ t,(s.at a=some t\/(s.at a=none/\t=tInt))->QO w b O A s { s with L:=s.L++[mkT 4 t.r []] } (s.arrayC a a') e w':=by
 have H:=Qa h;have U:=Qa M;have HI:=Qa n;clear h M n;have aa:∀ (k r:Int) (p:Option Addr) (l c:Nat) (w:World),(Instr.field 105 (.agg #[Iv k,Iv r,.slice p l c]) 1).run prog w=.ok (Iv r) w:=fun _ _ _ _ _ _=>by kernel_rfl
 go_enter func247,ntmps247
 go_wp2_with fail
 refine(Z7 a 2 z (fun k g=>U.out k (H.out.sub k g)) H.out).mono ?_
 rintro I w2 ⟨y,q⟩;have B:=Qa q;have J:=Qa (H.out.below q);have o:=Qa (fun k g=>Zl (U.out k g) q.size);clear q;rcases y with ⟨f,x,rfl,t,p,c,K,rfl,ht,D⟩|⟨f,rfl⟩
 rotate_left
 ·exact⟨Z,fun t _=>QO.bad (by unfold JSt.arrayC;rw[Ql f,Ql f]) f (Yh H.out B.out)⟩
 have E:Hid (s.arrayC a a'=Qv (s.want a' 1 false) (QZ s.L.length 1)):=by show _=_;unfold JSt.arrayC;rw[Qx f]
 have Q:0<=t.r/\t.r<=1000:=by
  obtain⟨t',R,e2,e3⟩:=Z2 f
  rw[K] at R
  cases R
  have:=ZZ (e3 Z)
  omega
 have m:=Qa K;have HR:=Qa Q;clear ht D K f Q;simp only[Tv]
 have C:=Qa (fun d=>QbI a' HI.out d z (fun k g=>o.out k (J.out.sub k g)) J.out);go_wp2_with fail
 refine(C.out _).mono ?_
 rintro I w3 ⟨y,u⟩;have j:=Qa (B.out.trans (u.mono B.out.size));have H3:=Qa (J.out.below u);have G:=Qa (fun k g=>Zl (o.out k g) u.size);rcases y with ⟨f,x,rfl,W⟩|⟨f,rfl⟩
 rotate_left
 ·exact⟨Z,fun t _=>QO.bad (by rw[E.out,Ql f]) f (Yh H.out j.out)⟩
 subst W;have V:Hid (s.arrayC a a'=QZ s.L.length 1):=by show _=_;rw[E.out,Qx f]
 clear u f E C;have N:=Qa (fun d=>Qc2 4 t.r HR.out (by decide) d z G.out H3.out);go_wp2_with fail
 refine(N.out _).mono ?_
 rintro I X P
 have F:Hid (∀ t,(s.at a=some t\/(s.at a=none/\t=tInt))->QO w b O A s { s with L:=s.L++[mkT 4 t.r []] } (s.arrayC a a') I X):=fun t' i=>by
  rcases i with i | ⟨i,-⟩
  ·have e:=i.symm.trans m.out;injection e with e
   subst e;rw[V.out]
   exact P.after j.out
  ·rw[m.out] at i;cases i
 rcases P with ⟨T,rfl,S⟩|⟨T,rfl,S⟩
 rotate_left
 ·exact⟨Z,F.out⟩
 clear T S N;go_wp2
 exact Xz (v:=.tuple #[]) (by simp[results,results247,go_sem]) Z F.out
theorem Qb1 {a:World}(h:Below B a w):Below B a w.drew:=⟨h.os,h.tape,h.output,h.size,h.block⟩
theorem Zx (h:Below w.drew.heap.size w.drew w'):Below w.heap.size w w':=⟨h.os,h.tape,h.output,h.size,h.block⟩
noncomputable def JSt.beC (s:JSt) (a:Int) (t:TT 6):Int:=match s.at a with | none=>1 | some v=>if ZU (v=t) then 0 else 9
theorem QiK {s:JSt}{a:Int}{t:TT 6}(h:s.has a≠0):s.beC a t=s.has a:=by
 unfold JSt.has JSt.beC at *
 cases e:s.at a with
 | none=>rfl
 | some t=>rw[e] at h;exact absurd Z h
theorem Qlb {s:JSt}{a:Int}{t v:TT 6}(h:s.at a=some v):s.beC a t=if ZU (v=t) then 0 else 9:=by unfold JSt.beC;rw[h]
theorem QcK {A:Nat->Prop}{s:JSt}(a:Int){t:TT 6}(W:TIn w Q t p) (hL:s.L.length<=80) (j:∀ x∈s.L,x.count<=100000) (hO:∀ k,O k->k<w.heap.size) (h:SAt w b O A s) :
 Calls prog 246 #[Pv b 0,Iv a,Tv t p c] w fun e w'=>ZG (s.beC a t) VNone e/\Below w.heap.size w w':=by
 have E:=Zd w (.cells #[Iv t.kind,Iv t.r,.slice p t.len c] 105);have N:=Qa (h.below E);have l:=Qa E;have K:=Qa (W.below E);have o:Hid (Blk (w.alloc (.cells #[Iv t.kind,Iv t.r,.slice p t.len c] 105)) w.heap.size #[Iv t.kind,Iv t.r,.slice p t.len c] 105):=Blk.new _ _ _;have P:=Qa j;clear h E hO W j;go_enter func246,ntmps246
 go_upto_region 1 with fail
 generalize w.alloc (.cells #[Iv t.kind,Iv t.r,.slice p t.len c] 105)=n at N l K o |-;obtain⟨X,S⟩:∃ X,w.heap.size=X:=⟨_,Z⟩
 rw[S] at o |-
 rw[<-S]
 have C:Hid (∀ f,Below n.heap.size n f->Calls prog 270 #[Pv b 0,Iv a] f fun e w'=>ZG (s.has a) (QmA w' A s a) e/\Below f.heap.size f w'):=fun f J=>Qb7 a hL (N.out.below J)
 have D:Hid (∀ (v:TT 6) (q:Option Addr) (d:Nat) (f:World),s.at a=some v->TIn f (fun g=>¬ A g) v q->Below n.heap.size n f->Calls prog 261 #[Tv v q d,Tv t p c] f fun e w'=>ZL e (v=t)/\Below f.heap.size f w') :=
  fun v q d f H m J=>same_any 6 v t q p d c f m.all (K.out.below J).all (P.out v (Qdw H).1)
 clear N K P;have y0:=Qb o.out 0 _ Z;have y1:=Qb o.out 1 _ Z;have y2:=Qb o.out 2 _ Z;clear o
 go_region_with (first
  | (go_at_call 270;refine(C.out _ (Qb1 Zr)).mono ?_;rintro U w2 ⟨⟨B,x,rfl,v,q,d,H,rfl,z,-⟩|⟨B,rfl⟩,I⟩;rotate_left;exact⟨Z,.inr ⟨by rw[QiK B];exact B,by rw[QiK B]⟩,l.out.trans ((Zx I).mono l.out.size)⟩;have i:Below n.heap.size n w2:=Zx I;have y3:=Qk y0 i;have y4:=Qk y1 i;have y5:=Qk y2 i;have M:=Qa i;have F:=Qa (Xh H z);clear H z B I i)
  | (go_at_call 261;refine(D.out _ _ _ _ F.out.1 F.out.2 M.out).mono ?_;rintro U w3 ⟨⟨V,rfl,u⟩,T⟩;have R:=Qa (M.out.trans (T.mono M.out.size));have y:=Qa u;clear T u)
  | (go_at_call 268;refine(QbN _ _ _).mono ?_;rintro U w' ⟨G,⟨m,rfl⟩|⟨m,rfl⟩⟩;rotate_left;exact⟨Z,ZG.bad (by rw[Qlb F.out.1,show ZU _=V from Bool.eq_iff_iff.2 (Qa6.trans y.out.symm),m];rfl) (by decide),by rw[G];exact l.out.trans (R.out.mono l.out.size)⟩;have G:=G.symm;subst G))
 all_goals
  have E9:Hid (s.beC a t=0):=by show _=_;rw[Qlb F.out.1,show ZU _=V from Bool.eq_iff_iff.2 (Qa6.trans y.out.symm),m];rfl
  have B9:Hid (Below w.heap.size w w3):=l.out.trans (R.out.mono l.out.size);clear m;go_wp2
  exact Xz (v:=.tuple #[]) (by simp[results,results246,go_sem]) Z ⟨ZG.good E9.out Z,B9.out⟩
theorem Qen {o:Oper}{a:Act}{w:World}{K:Act->World->Prop}{Q:Exit->Act->World->Prop}{E:Prop}(b:o.guard=none) (F:Nat) (x y:Operand) (t u:TypeId)
 (e:o.op=.call { callee:=.value (.func F),args:=#[x,y],argTypes:=#[t,u] }) (d:∀ (args:Array Value) (w:World),(callFunc F args).run P w=.ok (.enter F args) w) (v z:Value) (f:a.eval x=v) (i:a.eval y=z) {R:Ending->World->Prop} (C:Calls P F #[v,z] w R)
 (h:∀ en w',R en w'->QnL K Q o a en w'):if Region.wanted o (yielded ops a.tmps)=true then Oper.wp P o a w K Q else E:=by
 have c:Region.wanted o (yielded ops a.tmps)=true:=by simp[Region.wanted,b]
 rw[Xs c]
 unfold Oper.wp
 have k:(execOp a.eval o).run P w=.ok (.enter F #[v,z]) w:=by
  have g:a.eval (.func F)=.func (.func F) #[] #[]:=rfl;unfold execOp;simp[e,resolve,invoke,Deferred.ofValue,f,i,d,g,Result.andThen]
 rw[k,Oper.upon_enter]
 refine C.mono fun en w' j=>?_
 have:=h en w' j
 cases en<;>exact this
theorem Qby {s:JSt}:∀ {l m:List Int}{x y:List (TT 6)},s.fields l=some x->s.fields m=some y->s.fields (l++m)=some (x++y)
 | [],m,x,y,h1,h2=>by simp[JSt.fields] at h1;subst h1;exact h2
 | k::r,m,x,y,h1,h2=>by
   simp only[JSt.fields] at h1
   show s.fields (k::(r++m))=_;simp only[JSt.fields]
   cases hk:s.at k with
   | none=>simp[hk] at h1
   | some t =>
     simp only[hk] at h1
     cases hr:s.fields r with
     | none=>simp[hr] at h1
     | some l =>
       simp only[hr,Option.some.injEq] at h1
       subst h1;rw[Qby hr h2]
       rfl
theorem QfU {s:JSt}{y:Int}{t:TT 6}{L:List (TT 6)}(a:l[k]?=some y) (b:s.at y=some t) (h:s.fields (l.take k)=some L):s.fields (l.take (k+1))=some (L++[t]):=by
 rw[XV,a]
 exact Qby h (by simp[JSt.fields,b])
theorem QdI {s:JSt}:∀ {l:List Int}{y:Int},y∈l->s.at y=none->s.fields l=none
 | k::r,y,a,h=>by
   simp only[JSt.fields]
   rcases List.mem_cons.1 a with rfl | a
   ·rw[h]
   ·rw[QdI a h]
    cases s.at k<;>rfl
def JSt.tupleC (s:JSt) (a:Int) (args:List Int):Int:=Qv (s.want a 2 true) (match s.at a with
 | none=>0
 | some t=>match s.fields args with
   | none=>1
   | some l=>if 4<TT.height (n:=7) (mkT 3 t.r l) then 19 else QZ s.L.length 1)
def JSt.tupleS (s:JSt) (a:Int) (args:List Int):JSt:={ s with L:=s.L++(match s.at a with
 | none=>[]
 | some t=>match s.fields args with
   | none=>[]
   | some l=>[TT.at (n:=7) 5 (mkT 3 t.r l)]) }
theorem Qfz {R:Int}{r:Int}{l:List (TT 6)}(b:0<=r/\r<R) (c:l.length<=8) (h:∀ t∈l,t.check R=0):TT.check (n:=7) R (mkT 3 r l)=if 4<TT.height (n:=7) (mkT 3 r l) then 19 else 0:=by
 show (if 4<TT.height (n:=7) (mkT 3 r l) then 19 else TT.fault (n:=7) R (mkT 3 r l))=_
 have:TT.fault (n:=7) R (mkT 3 r l)=0:=by
  show (if ownC 3 r l.length R≠0 then ownC 3 r l.length R else Qu (TT.fault R) l)=0
  have:ownC 3 r l.length R=0:=by
   unfold ownC;rw[Xr (by omega),Xr (by omega),Xr (by omega),Xr (by omega),Xr (by omega)]
  rw[this]
  simp only[ne_eq,not_true_eq_false,if_false]
  exact QE.2 fun y a=>(QW.1 (h y a)).2
 rw[this]
structure TuS (w wc:World) (B lo:Nat) (A:Nat->Prop) (r:Int) (v:Value) (L:List (TT 6)):Prop where
 bel:Below w.heap.size w wc
 box:Blk wc B #[Iv 3,Iv r,v] 105
 row:TRq wc (fun g=>lo<=g) (fun g=>¬ (A g\/w.heap.size<=g)) v L
 lo1:B<lo
 lo2:lo<=wc.heap.size
 far:w.heap.size<=B
section
variable {w wc w9:World}{B lo:Nat}{A:Nat->Prop}{r:Int}{v:Value}{L:List (TT 6)}
theorem TRq.below {w:World}{v:Value}{L:List (TT 6)}(h:TRq w O Q v L) (k:Below w.heap.size w w'):TRq w' O Q v L:=h.keep (fun g b _=>k.block g b) (fun _ a=>h.own a) (fun _ h _=>h)
theorem TuS.below (h:TuS w wc B lo A r v L) (k:Below wc.heap.size wc w9):TuS w w9 B lo A r v L :=
 ⟨h.bel.trans (k.mono h.bel.size),h.box.below k,h.row.below k,h.lo1,Zt h.lo2 k.size,h.far⟩
theorem TuS.push {xs:List Value}{t:TT 6}(h:TuS w wc B lo A r (.slice a L.length c) L) (j:wc.ownsRow 0 105 3 (.slice a L.length c) L.length xs) (ht:(Lay.tt 6).In wc (fun g=>¬ (A g\/w.heap.size<=g)) t [Iv t.kind,Iv t.r,.slice p t.len d])
 (h1:w9.ownsRow 0 105 3 (.slice (some ⟨g,0,none⟩) (L.length+1) cap) (L.length+1) (xs++[Iv t.kind,Iv t.r,.slice p t.len d])) (n:wc.grownBy w9 (Value.slice a L.length c).ownBlock) (C:(Value.slice a L.length c).ownBlock=some g\/g=wc.heap.size) :
 w9.cell? ⟨B,2,none⟩=some (.slice a L.length c)/\w9.frozen? ⟨B,2,none⟩=false/\TuS w (w9.setCell ⟨B,2,none⟩ (.slice (some ⟨g,0,none⟩) (L.length+1) cap)) B lo A r (.slice (some ⟨g,0,none⟩) (L.length+1) cap) (L++[t]):=by
 have aa:=n.size;have o:=h.lo1;have O:=h.lo2;have H:=h.box.lt;have ab:=h.bel.size;have b:∀ k,(Value.slice a L.length c).ownBlock=some k->lo<=k:=fun k f=>h.row.own f;have E:Blk w9 B #[Iv 3,Iv r,.slice a L.length c] 105:=(n.block B H (fun e=>by have:=b B e.symm;omega)).trans h.box
 have u:lo<=g:=by
  rcases C with C | C
  ·exact b g C
  ·omega
 have G:g≠B:=by omega
 have D:=h.far
 have q:∀ k,k<w.heap.size->(w9.setCell ⟨B,2,none⟩ (.slice (some ⟨g,0,none⟩) (L.length+1) cap)).heap[k]?=wc.heap[k]?:=fun k f=>by
  rw[Xd _ _ _ _ (show k≠B by omega),n.block k (by omega) (fun e=>by have:=b k e.symm;omega)]
 refine⟨Qb E 2 _ Z,Qj E 2,⟨⟨n.os.trans h.bel.os,n.tape.trans h.bel.tape,n.output.trans h.bel.output,by simp;omega,fun k f=>(q k f).trans (h.bel.block k f)⟩,?_,?_,o,by simp;omega,D⟩⟩
 ·have:=Qh E 2 (.slice (some ⟨g,0,none⟩) (L.length+1) cap)
  simpa using this
 ·obtain⟨m,R,q2,T⟩:=h.row
  have e:m=xs:=by
   obtain⟨e1,V⟩:=R
   obtain⟨f1,S⟩:=j
   rcases V with ⟨z,Q⟩|⟨g1,N,K,z,Q,e5,e6,e7,e8,X⟩
   ·have:L.length=0:=Q
    rw[Xf.1 (show m.length=0 by rw[e1,this]),Xf.1 (show xs.length=0 by rw[f1,this])]
   ·rcases S with ⟨y,W⟩|⟨g2,I,J,y,W,M,f6,f7,f8,U⟩
    ·rw[y] at z;cases z
    ·rw[z] at y
     cases y
     rw[e5] at M
     cases M
     rw[<-X,<-U]
  subst e;refine⟨m++[Iv t.kind,Iv t.r,.slice p t.len d],?_,fun k f=>?_,?_⟩
  ·rw[List.length_append]
   exact QeY h1 (Xd _ _ _ _ G)
  ·simp[Value.ownBlock] at f
   subst f;exact u
  ·have l:∀ {x:TT 6} {v:List Value},(Lay.tt 6).In wc (fun g=>¬ (A g\/w.heap.size<=g)) x v->(Lay.tt 6).In (w9.setCell ⟨B,2,none⟩ (.slice (some ⟨g,0,none⟩) (L.length+1) cap)) (fun g=>¬ (A g\/w.heap.size<=g)) x v:=fun j=>(Lay.tt 6).keep (fun k f _=>q k (Nat.lt_of_not_le (fun e=>f (.inr e)))) (fun _ h _=>h) j;refine Qdh (s:=3) (P:=fun x v=>(Lay.tt 6).In _ _ x v) R.1 (fun i x j=>l (T i x j)) (fun i x j=>?_);have hi:i<1:=by simpa using (Zi j).1
   have F:i=0:=by omega
   subst F;simp at j
   subst j;exact l ht
end
theorem QdN {w:World}{v:Value}{xs:List Value}(h:w.ownsRow 0 e s v n xs) (k:Below w.heap.size w w'):w'.ownsRow 0 e s v n xs:=by
 obtain⟨d,j⟩:=h
 refine⟨d,?_⟩
 rcases j with f | ⟨g,b,a,l,i,c,r⟩
 ·exact .inl f
 ·exact .inr ⟨g,b,a,l,i,(k.block g (XC c)).trans c,r⟩
theorem TuS.lin {w wc:World}{B lo:Nat}{A:Nat->Prop}{r:Int}{L:List (TT 6)}(h:TuS w wc B lo A r (.slice a N c) L) (v:∀ k,A k->k<w.heap.size):LIn wc (fun g=>¬ A g) L a/\N=L.length/\∀ x∈L,x.ok:=by
 obtain⟨j,d,e,s,b,-⟩:=h.row.form
 simp only[Value.slice.injEq] at e
 obtain⟨rfl,rfl,rfl⟩:=e
 have u:=h.lo1;have y:=h.far;refine⟨fun i x f=>?_,Z,fun x f=>?_⟩
 ·obtain⟨g,j,d,e,m,n,p,l,o⟩:=b i x f
  subst e;have z:lo<=g:=h.row.own Z;refine⟨g,0,j,d,Z,fun e=>by have:=v g e;omega,?_,?_,?_,l.mono (fun k q _ e=>q (.inl e))⟩
  ·rw[XK];exact m
  ·rw[XK];exact n
  ·rw[XK];exact p
 ·obtain⟨i,t,e⟩:=List.mem_iff_getElem.1 f
  obtain⟨g,j,d,e,m,n,p,l,o⟩:=b i x (by rw[Zg t,e])
  exact o
theorem Qis {r:Int}{l:List (TT 6)}(h:∀ x∈l,x.count<=4681) (b:l.length<=8):TT.count (n:=7) (mkT 3 r l)<=100000:=by
 show 1+(l.map TT.count).sum<=100000;have c:=sum_le_mul (l.map TT.count) 4681 (fun x a=>by obtain⟨y,d,rfl⟩:=List.mem_map.1 a;exact h y d);rw[XN] at c
 have e:l.length*4681<=8*4681:=Xp _ b;omega
theorem Qh7 {w:World}{A:Nat->Prop}(f:∀ k,A k->k<w.heap.size){r:Int}{L:List (TT 6)}(i:0<=r/\r<=1000) (h:¬ 4<TT.height (n:=7) (mkT 3 r L)) (e:LIn w (fun g=>¬ A g) L p) (a:∀ x∈L,x.ok) :
 (Qo 6).In (w.alloc (.cells #[Iv 3,Iv r,.slice p L.length c] 105)) (fun g=>¬ A g) [TT.at (n:=7) 5 (mkT 3 r L)] [.slice (some ⟨w.heap.size,0,none⟩) 1 d]:=by
 have b:TT.height (n:=7) (mkT 3 r L)<=5:=by omega
 have:=Qeq (t:=TT.at (n:=7) 5 (mkT 3 r L)) (p:=p) (c:=c) (d:=d) f (TIn.at 5 b (LIn.tree e)) (TT.at_ok 5 ⟨⟨by show -9223372036854775808<=r;omega,by show r<=9223372036854775807;omega⟩,a⟩)
 rw[TT.at_kind,TT.at_r,TT.at_len 5 _ b] at this
 exact this
theorem enters_value:Qah 270:=fun _ _=>by kernel_rfl
theorem Qhe {w:World}{A:Nat->Prop}{s:JSt}(a:Int){args:List Int}(hN:args.length=N) (ax:N<=8) (hl:intsL.In w Q args [.slice pa N ca]) (hJ:JOk s) (hA:∀ k,A k->k<w.heap.size) (h:SAt w b O A s) :
 Calls prog 243 #[Pv b 0,Iv a,.slice pa N ca] w fun e w'=>QO w b O A s (s.tupleS a args) (s.tupleC a args) e w':=by
 have av:∀ (k r:Int) (p:Option Addr) (l c:Nat) (w:World),(Instr.field 105 (.agg #[Iv k,Iv r,.slice p l c]) 1).run prog w=.ok (Iv r) w:=fun _ _ _ _ _ _=>by kernel_rfl
 obtain⟨i0,hi,ar,an,al⟩:=pInfoT
 have H:=Qa h;have HA:=Qa hA;have HO:Hid (∀ k,O k->k<w.heap.size):=fun k V=>hA k (h.sub k V);have HL:=Qa hl;have HN:=Qa hN;have HJ:=Qa hJ;have hL:=hJ.vals;clear h hA hl hN hJ;go_enter func243,ntmps243
 go_wp2_with fail
 refine(Z7 a 2 hL HO.out H.out).mono ?_
 rintro e' w2 ⟨hO,b2⟩;have HB:=Qa b2;clear b2;rcases hO with ⟨j,x,rfl,t,p,c,ha,rfl,ht,K⟩|⟨j,rfl⟩
 rotate_left
 ·exact⟨Z,QO.bad (by unfold JSt.tupleC;rw[Ql j]) j (Yh H.out HB.out)⟩
 have hr:0<=t.r/\t.r<s.H.length:=by
  obtain⟨t',e1,e2,e3⟩:=Z2 j
  rw[ha] at e1
  cases e1
  exact ZZ (e3 Z)
 have HR:=Qa hr;have E:Hid (s.tupleC a args=match s.fields args with | none=>1 | some l=>if 4<TT.height (n:=7) (mkT 3 t.r l) then 19 else QZ s.L.length 1):=by show _=_;unfold JSt.tupleC;rw[Qx j,ha]
 have ES:Hid (∀ l,s.fields args=some l->s.tupleS a args={ s with L:=s.L++[TT.at (n:=7) 5 (mkT 3 t.r l)] }):=fun l hl=>by unfold JSt.tupleS;rw[ha,hl]
 clear hr j ha ht K;simp only[Tv]
 go_upto_region 1 with fail
 have T0:Hid (TuS w (w2.alloc (.cells #[Iv 3,Iv t.r,Nv] 105)) w2.heap.size (w2.heap.size+1) A t.r (Nv) []) :=
  ⟨HB.out.trans ((Zd _ _).mono HB.out.size),Blk.new _ _ _,⟨[],⟨Z,.inl ⟨Z,Z⟩⟩,fun g hg=>by simp[Value.ownBlock] at hg,fun i x X=>by simp at X⟩,Nat.lt_succ_self _,by simp,HB.out.size⟩
 generalize w2.alloc (.cells #[Iv 3,Iv t.r,Nv] 105)=w3 at T0 |-;generalize w2.heap.size=B at T0 |-;generalize t.r=r at T0 HR E ES |-;clear HB;go_wp2
 go_loopw [16] (fun i wr=>∃ (k:Nat) (v:Value) (L:List (TT 6)),k<=N/\i=Iv k/\TuS w wr B (B+1) A r v L/\s.fields (args.take k)=some L) (fun i _=>N - (intOf i).toNat)
 case atStart=>exact⟨0,_,_,Xb _,Z,T0.out,Z⟩
 case round =>
  clear T0;obtain⟨k,v,L,V,rfl,hT,hf⟩:=hrel
  have HF:=Qa hf
  have ae:Hid (L.length=k):=by
   show _=_
   have:=(QaC hf).1
   rw[List.length_take,HN.out] at this
   omega
  have ab:L.length<=8:=by have:=ae.out;omega
  obtain⟨aL,W,rfl,aw,-,xs,aj⟩:=hT.row.form
  have D:=Qa hT;have am:=Qa aj;clear hf hT aj;by_cases aa:k<N
  ·have ak:(k:Int)<N:=by omega
   have R:k<args.length:=by rw[HN.out];exact aa
   obtain⟨g,o,rfl,-,hg,S⟩:=ZI HL.out R
   obtain⟨y,hy⟩:∃ y,args[k]?=some y:=⟨_,Zg R⟩
   rw[show args.getD k 0=y by rw[List.getD_eq_getElem?_getD,hy];rfl] at S
   have HX:=Qa hy;have y0:=Qk S D.out.bel;have z2:=Qb D.out.box 2 _ Z;clear S R hy;go_upto_region 4 with fail
   have BD:Hid (Below w.heap.size w wr.drew):=Qb1 D.out.bel
   go_region_law (first
    | (refine Qen Z 270 (.tmp 22) (.tmp 23) 234 3 Z enters_value (.pointer (some ⟨b,0,none⟩)) (.int .i64 y) (by simp[Act.eval,Act.put]) (by simp[Act.eval,Act.put]) (Qb7 y hL (H.out.more HO.out BD.out)) ?_
       rintro e' J ⟨hO,U⟩;rcases hO with ⟨j,x,rfl,u,q,d,hu,rfl,ac,K⟩|⟨j,rfl⟩
       rotate_left
       ·have ad:s.at y=none:=by
         unfold JSt.has at j
         cases e:s.at y with
         | none=>rfl
         | some t=>rw[e] at j;exact absurd Z j
        exact⟨Z,QO.bad (d:=s.has y) (by rw[E.out,QdI (Zm HX.out) ad];unfold JSt.has;rw[ad]) j (Yh H.out (BD.out.trans (U.mono BD.out.size)))⟩
       have T4:=Qa (D.out.below (Zx U));have HU:=Qa hu;have I4:Hid ((Lay.tt 6).In J (fun g=>¬ (A g\/w.heap.size<=g)) u [Iv u.kind,Iv u.r,.slice q u.len d]):=⟨q,d,Z,ac,K⟩;have z4:=Qb T4.out.box 2 _ Z;have ap:=T4.out.box.lt;have z:=Qa (QdN am.out (Zx U));clear hu ac K U j;dsimp only [QnL])
    | (refine step_append_lies _ Z (.tmp 21) (.tmp 25) 80 Z 0 105 i0 (.agg #[.int .i64 0,.int .i64 0,.slice none 0 0]) 3 40 pUnderT hi ar an al Z (by decide) (.slice aL L.length W) L.length xs (by simp[Act.eval,Act.put]) (z.out.alloc _) ⟨J.heap.size,0,none⟩ 1 1 [.int .i64 u.kind,.int .i64 u.r,.slice q u.len d] (by simp[Act.eval,Act.put]) Z (Qk3 _ _ _) (Qlu _ _ _ _ _) (by decide) (by unfold maxLen;omega) (by omega) (Xb _) (J.heap.size+1) (by simp) ?_
       intro g2 ai w9 h1 h2 h3 G;have b5:=Zd J (.cells #[Iv u.kind,Iv u.r,.slice q u.len d] 105);obtain⟨z9,f9,t9⟩:=(T4.out.below b5).push (QdN z.out b5) (Ya I4.out b5) h1 h2 (by simpa using h3)
       have T9:=Qa t9;clear h1 h2 h3 G b5 t9))
   all_goals
    have FF:=Qa (QfU HX.out HU.out HF.out);clear T4 HU I4 z4 z z9 f9 ap;generalize w9.setCell ⟨B,2,none⟩ (.slice (some ⟨g2,0,none⟩) (L.length+1) ai)=ay at T9 |-;go_wp2
    go_roundw
    case rel=>exact⟨k+1,_,L++[u],aa,by go_num,T9.out,FF.out⟩
    case measure=>simp[intOf];omega
  ·have az:k=N:=by omega
   have ak:¬ (k:Int)<N:=by omega
   have I:s.fields args=some L:=by
    have:=HF.out
    rwa [XO (by rw[HN.out];omega)] at this
   obtain⟨C,-,M⟩:=D.out.lin HA.out
   have T:∀ x∈L,x.check s.H.length=0:=fun x X=>HJ.out.types x ((QaC I).2 x X);have EC:Hid (TT.check (n:=7) (s.H.length:Int) (mkT 3 r L)=if 4<TT.height (n:=7) (mkT 3 r L) then 19 else 0):=Qfz HR.out ab T;have E2:Hid (s.tupleC a args=if 4<TT.height (n:=7) (mkT 3 r L) then 19 else QZ s.L.length 1):=by show _=_;rw[E.out,I]
   have aq:=Qa (ES.out L I);have ag:=Qa (Xh C M);have ao:Hid (TT.count (n:=7) (mkT 3 r L)<=100000):=Qis (fun x X=>Z0 (T x X)) ab;have H9:=Qa (H.out.below D.out.bel);obtain⟨pm,cm,hh,a1,c1,a2,c2,a3,c3,a0,au,RR⟩:=H9.out.read
   obtain⟨-,q1,-⟩:=RR.cells
   have CL:Hid (∀ m,Calls prog 271 #[Pv hh 0] (wr.drewN m) fun e w'=>e=.returned (Iv (s.H.length:Int))/\w'=wr.drewN m):=fun m=>QkI (show Qp (wr.drewN m) hh s.H from RR.held);have CC:Hid (Calls prog 223 #[.agg #[Iv 3,Iv r,.slice aL L.length W],Iv (s.H.length:Int)] wr.drew fun e w'=>e=.returned (Iv (TT.check (n:=7) (s.H.length:Int) (mkT 3 r L)))/\Below wr.drew.heap.size wr.drew w'):=check_any 7 (mkT 3 r L) aL W _ wr.drew (TIn.all (LIn.tree C).drew) ao.out;obtain⟨z0,z1,z2⟩:=Qlh D.out.box
   clear I C M T RR HF ae;generalize TT.check (n:=7) (s.H.length:Int) (mkT 3 r L)=ck at EC CC;generalize (s.H.length:Int)=nH at CL CC;go_upto_region 6 with fail
   go_region_with (first
    | (go_at_call 271;refine(CL.out _).mono ?_;rintro e w' ⟨rfl,P⟩;have P:=P.symm;subst P)
    | (go_at_call 223;refine(CC.out).mono ?_;rintro e J ⟨rfl,U⟩;have B4:=Qa (Zx U);clear U)
    | (go_at_call 268;refine(QbN _ _ _).mono ?_;rintro e' w' ⟨P,⟨hq,rfl⟩|⟨hq,rfl⟩⟩;rotate_left;exact⟨Z,QO.bad (d:=19) (by rw[E2.out];have f:ck≠0:=(by simpa using hq);rw[EC.out] at f;by_cases G:4<TT.height (n:=7) (mkT 3 r L);rw[Xs G];rw[Xr G] at f;exact absurd Z f) (by decide) (by rw[P];exact Yh H.out (D.out.bel.trans (B4.out.mono D.out.bel.size)))⟩;have P:=P.symm;subst P))
   all_goals
    have f:ck=0:=by simpa using hq
    have G:¬ 4<TT.height (n:=7) (mkT 3 r L):=fun G=>by
     have:=EC.out
     rw[Xs G,f] at this
     cases this
    have E3:Hid (s.tupleC a args=QZ s.L.length 1):=by show _=_;rw[E2.out,Xr G]
    have T5:=Qa (D.out.below B4.out);have ah:Hid (∀ k,A k->k<J.heap.size):=fun k V=>Zl (HA.out k V) T5.out.bel.size
    have CM:Hid (∀ d,Calls prog 244 #[Pv b 0,.slice (some ⟨J.heap.size,0,none⟩) 1 d] (J.alloc (.cells #[Iv 3,Iv r,.slice aL L.length W] 105)) fun e w'=>QO w b O A s (s.tupleS a args) (s.tupleC a args) e w'):=fun d=>by
     have b1:=Zd J (.cells #[Iv 3,Iv r,.slice aL L.length W] 105);have af:=T5.out.bel.trans (b1.mono T5.out.bel.size);rw[aq.out,E3.out]
     exact(Qay (l:=[TT.at (n:=7) 5 (mkT 3 r L)]) Z (by simp) (Qh7 (c:=W) (d:=d) ah.out (by have:=HR.out;have:=HJ.out.regs;omega) G (ag.out.1.below B4.out) ag.out.2) hL (fun k V=>Zl (ah.out k V) b1.size) (H.out.below af)).mono (fun e w' hd=>hd.after af)
    obtain⟨y0,y1,y2⟩:=Qlh T5.out.box
    clear hq f G CC CL E3;go_wp2_with fail
    refine(CM.out _).mono ?_
    rintro e' w5 hd;have F:=Qa hd;rcases hd with ⟨h1,rfl,h3⟩|⟨h1,rfl,h3⟩
    rotate_left
    ·exact⟨Z,F.out⟩
    clear h1 h3 CM;go_wp2
    exact Xz (v:=.tuple #[]) (by simp[results,results243,go_sem]) Z F.out
def Lay.listC {α:Type}(A:Lay α):Lay (List α) where
 size:=1
 In:=fun w O l cs=>(∃ a c,cs=[.slice a l.length c]/\l.length<=c)/\A.list.In w O l cs
 len:=fun h=>A.list.len h.2
 keep:=fun hb hl h=>⟨h.1,A.list.keep hb hl h.2⟩
def Lay.Sub {α:Type}(A B:Lay α):Prop:=A.size=B.size/\∀ {w:World}{O:Nat->Prop}{x:α}{cs:List Value},A.In w O x cs->B.In w O x cs
theorem Lay.Sub.refl {α:Type}(A:Lay α):Lay.Sub A A:=⟨Z,id⟩
theorem Lay.Sub.listC {α:Type}(A:Lay α):Lay.Sub A.listC A.list:=⟨Z,fun h=>h.2⟩
theorem Lay.Sub.pair {α β:Type}{A a:Lay α}{B b:Lay β}(h:Lay.Sub A a) (k:Lay.Sub B b):Lay.Sub (A.pair B) (a.pair b) :=
 ⟨by show A.size+B.size=a.size+b.size;rw[h.1,k.1],fun ⟨g,c,e,d,f⟩=>⟨g,c,e,h.2 d,k.2 f⟩⟩
theorem Lay.Sub.list {α:Type}{A b:Lay α}(h:Lay.Sub A b):Lay.Sub A.list b.list :=
 ⟨Z,fun ⟨a,c,e,k⟩=>⟨a,c,e,fun i x j=>by
  obtain⟨g,o,l,n,d,m,p,f⟩:=k i x j
  exact⟨g,o,l,n,d,m,by rw[<-h.1];exact p,h.2 f⟩⟩⟩
section
open Go.Deep
theorem Lay.Sub.via {α β:Type}{A a:Lay α}(h:Lay.Sub A a) (f:β->α):Lay.Sub (A.via f) (a.via f):=⟨h.1,fun k=>h.2 k⟩
theorem Qy.listC {α:Type}{A:Lay α}{y:α->Prop}(h:P.underlying t=some (.slice e)) (p:P.cellsOf t=1) (B:Qy P e A n y) (s:0<A.size) (g:0<P.bytesOf e):Qy P t A.listC n (fun l=>l.length<1152921504606846976) :=
 ⟨p,fun {H E w i d m o G x} z j C=>by
  obtain⟨l,k,u⟩:=(Qy.list h p B s g).2 z j C
  refine⟨l,⟨?_,k⟩,u⟩
  obtain⟨a,c,e,_⟩:=k
  refine⟨a,c,e,?_⟩
  rcases DataW.trod_slice h j with ⟨b,_⟩|⟨I,D,F,f,r,q,_,b,_,_,v,_⟩
  ·rw[e] at b
   simp at b
   simp[b.2.1]
  ·rw[e] at b
   simp at b
   omega⟩
abbrev intsC:Lay (List Int):=Lay.int.listC
def insC:Lay Qt:=(Lay.int.pair (Lay.int.pair (Lay.int.pair (Lay.int.pair (Lay.int.pair (Lay.int.pair (intsC.pair intsC))))))).via (fun x=>(x.op,x.a,x.b,x.c,x.k,x.n,x.regs,x.args))
def toC:Lay MTo:=(Lay.int.pair (intsC.pair intsC)).via (fun x=>(x.block,x.regs,x.args))
def endC:Lay ZA:=(Lay.int.pair (Lay.int.pair (toC.pair (toC.pair intsC)))).via (fun x=>(x.op,x.a,x.yes,x.no,x.args))
def Qbf (n:Nat):Lay (MBlock n):=(Lay.int.pair ((Qo n).pair (insC.list.pair endC))).via (fun x=>(x.regs,x.params,x.code,x.fin))
def QeH (n:Nat):Lay (MFunc n):=(Lay.int.pair ((Qo n).pair ((Qo n).pair (Qbf n).list))).via (fun x=>(x.regs,x.params,x.results,x.blocks))
abbrev QiG (n:Nat):Lay (List (MFunc n)):=(QeH n).list
theorem ints_sub:Lay.Sub intsC intsL:=Lay.Sub.listC _
theorem ins_sub:Lay.Sub insC insL:=.via (.pair (.refl _) (.pair (.refl _) (.pair (.refl _) (.pair (.refl _) (.pair (.refl _) (.pair (.refl _) (.pair ints_sub ints_sub))))))) _
theorem to_sub:Lay.Sub toC toL:=.via (.pair (.refl _) (.pair ints_sub ints_sub)) _
theorem end_sub:Lay.Sub endC endL:=.via (.pair (.refl _) (.pair (.refl _) (.pair to_sub (.pair to_sub ints_sub)))) _
theorem QhO (n:Nat):Lay.Sub (Qbf n) (Zp n):=.via (.pair (.refl _) (.pair (.refl _) (.pair (.list ins_sub) end_sub))) _
theorem QkT (n:Nat):Lay.Sub (QeH n) (ZV n):=.via (.pair (.refl _) (.pair (.refl _) (.pair (.refl _) (.list (QhO n))))) _
theorem QfX (n:Nat):Lay.Sub (QiG n) (QaM n):=.list (QkT n)
section
variable {w:World}{O:Nat->Prop}{cs:List Value}
theorem Qjq {x:Qt}(h:insC.In w O x cs):∃ a c b d,cs=[Iv x.op,Iv x.a,Iv x.b,Iv x.c,Iv x.k,Iv x.n,.slice a x.regs.length c,.slice b x.args.length d]/\intsL.In w O x.regs [.slice a x.regs.length c]/\intsL.In w O x.args [.slice b x.args.length d]/\x.regs.length<=c/\x.args.length<=d:=by
 obtain⟨_,_,rfl,⟨rfl,_⟩,_,_,rfl,⟨rfl,_⟩,_,_,rfl,⟨rfl,_⟩,_,_,rfl,⟨rfl,_⟩,_,_,rfl,⟨rfl,_⟩,_,_,rfl,⟨rfl,_⟩,_,_,rfl,⟨⟨a,c,rfl,i⟩,g⟩,⟨b,d,rfl,e⟩,f⟩:=h
 exact⟨a,c,b,d,Z,g,f,i,e⟩
end
theorem QbC (n:Nat):Qy prog 76 intsC n (fun l=>l.length<1152921504606846976):=Qy.listC underlying76 (by kernel_rfl) (QaO n) (by decide) (by rw[show prog.bytesOf 3=8 from by kernel_rfl];decide)
theorem Qi8 (n:Nat):Qy prog 78 insC n (fun x=>x.regs.length<1152921504606846976/\x.args.length<1152921504606846976):=by
 have h:=Qy.struct (n:=n) (A:=Lay.int.pair (Lay.int.pair (Lay.int.pair (Lay.int.pair (Lay.int.pair (Lay.int.pair (intsC.pair intsC))))))) underlying78 (by kernel_rfl) (QH.cons Z Z (QaO n) (QH.cons Z Z (QaO n) (QH.cons Z Z (QaO n) (QH.cons Z Z (QaO n) (QH.cons Z Z (QaO n) (QH.cons Z Z (QlP n) (QH.cons Z Z (QbC n) (QH.last Z Z (QbC n)))))))));have e:=h.via (f:=fun x:Qt=>(x.op,x.a,x.b,x.c,x.k,x.n,x.regs,x.args)) (fun d=>⟨d.1,d.2.1,d.2.2.1,d.2.2.2.1,d.2.2.2.2.1,d.2.2.2.2.2.1,d.2.2.2.2.2.2.1,d.2.2.2.2.2.2.2⟩) (fun d=>rfl);exact⟨e.1,fun j m g=>by obtain⟨d,i,l⟩:=e.2 j m g;exact⟨d,i,l.2.2.2.2.2.2⟩⟩
theorem QgM (n:Nat):Qy prog 82 toC n (fun x=>x.regs.length<1152921504606846976/\x.args.length<1152921504606846976):=by
 have h:=Qy.struct (n:=n) (A:=Lay.int.pair (intsC.pair intsC)) underlying82 (by kernel_rfl) (QH.cons Z Z (QaO n) (QH.cons Z Z (QbC n) (QH.last Z Z (QbC n))));have a:=h.via (f:=fun x:MTo=>(x.block,x.regs,x.args)) (fun d=>⟨d.1,d.2.1,d.2.2⟩) (fun d=>rfl);exact⟨a.1,fun e i b=>by obtain⟨d,c,g⟩:=a.2 e i b;exact⟨d,c,g.2⟩⟩
theorem QiT (n:Nat):Qy prog 84 endC n (fun x=>(x.yes.regs.length<1152921504606846976/\x.yes.args.length<1152921504606846976)/\(x.no.regs.length<1152921504606846976/\x.no.args.length<1152921504606846976)/\x.args.length<1152921504606846976):=by
 have h:=Qy.struct (n:=n) (A:=Lay.int.pair (Lay.int.pair (toC.pair (toC.pair intsC)))) underlying84 (by kernel_rfl) (QH.cons Z Z (QaO n) (QH.cons Z Z (QaO n) (QH.cons Z Z (QgM n) (QH.cons Z Z (QgM n) (QH.last Z Z (QbC n))))));have b:=h.via (f:=fun x:ZA=>(x.op,x.a,x.yes,x.no,x.args)) (fun d=>⟨d.1,d.2.1,d.2.2.1,d.2.2.2.1,d.2.2.2.2⟩) (fun d=>rfl);exact⟨b.1,fun g j c=>by obtain⟨d,e,i⟩:=b.2 g j c;exact⟨d,e,i.2.2⟩⟩
theorem Qhc (n:Nat):Qy prog 79 insC.list n (fun l=>l.length<1152921504606846976):=Qy.list underlying79 (by kernel_rfl) (Qi8 n) (by decide) (by rw[show prog.bytesOf 78=96 from by kernel_rfl];decide)
theorem Qga (n:Nat):Qy prog 86 (Qbf n) n (fun _=>True):=by
 have h:=Qy.struct (n:=n) (A:=Lay.int.pair ((Qo n).pair (insC.list.pair endC))) underlying86 (by kernel_rfl) (QH.cons Z Z (QaO n) (QH.cons Z Z (QfJ n) (QH.cons Z Z (Qhc n) (QH.last Z Z (QiT n)))));have a:=h.via (f:=fun x:MBlock n=>(x.regs,x.params,x.code,x.fin)) (fun d=>⟨d.1,d.2.1,d.2.2.1,d.2.2.2⟩) (fun d=>rfl);exact⟨a.1,fun e g b=>by obtain⟨d,c,i⟩:=a.2 e g b;exact⟨d,c,Y⟩⟩
theorem QeT (n:Nat):Qy prog 87 (Qbf n).list n (fun l=>l.length<1152921504606846976):=Qy.list underlying87 (by kernel_rfl) (Qga n) (by show 0<12;decide) (by rw[show prog.bytesOf 86=208 from by kernel_rfl];decide)
theorem QgZ (n:Nat):Qy prog 89 (QeH n) n (fun _=>True):=by
 have h:=Qy.struct (n:=n) (A:=Lay.int.pair ((Qo n).pair ((Qo n).pair (Qbf n).list))) underlying89 (by kernel_rfl) (QH.cons Z Z (QaO n) (QH.cons Z Z (QfJ n) (QH.cons Z Z (QfJ n) (QH.last Z Z (QeT n)))));have a:=h.via (f:=fun x:MFunc n=>(x.regs,x.params,x.results,x.blocks)) (fun d=>⟨d.1,d.2.1,d.2.2.1,d.2.2.2⟩) (fun d=>rfl);exact⟨a.1,fun e g b=>by obtain⟨d,c,i⟩:=a.2 e g b;exact⟨d,c,Y⟩⟩
theorem Qfr (n:Nat):Qy prog 22 (QiG n) n (fun l=>l.length<1152921504606846976):=Qy.list underlying22 (by kernel_rfl) (QgZ n) (by show 0<4;decide) (by rw[show prog.bytesOf 89=80 from by kernel_rfl];decide)
theorem Qe2 (n:Nat):Qy prog 24 (QiG n) n (fun _=>True):=by
 have h:=Qy.struct (n:=n) (A:=QiG n) underlying24 (by kernel_rfl) (QH.last Z Z (Qfr n));exact⟨h.1,fun c e a=>by obtain⟨d,b,f⟩:=h.2 c e a;exact⟨d,b,Y⟩⟩
end
abbrev Qd3 (x:Qt) (rg ag:Option Addr) (rc ac:Nat):Value:=.agg #[Iv x.op,Iv x.a,Iv x.b,Iv x.c,Iv x.k,Iv x.n,.slice rg x.regs.length rc,.slice ag x.args.length ac]
def ZF (x:Qt):Prop:=(-9223372036854775808<=x.a/\x.a<=9223372036854775807)/\(-9223372036854775808<=x.b/\x.b<=9223372036854775807)/\(-9223372036854775808<=x.c/\x.c<=9223372036854775807)
theorem Qk4 {x:Qt}(h:insC.In w O x cs):ZF x:=by
 obtain⟨_,_,rfl,⟨rfl,_⟩,_,_,rfl,⟨rfl,g⟩,_,_,rfl,⟨rfl,f⟩,_,_,rfl,⟨rfl,e⟩,_,_,rfl,⟨rfl,_⟩,_,_,rfl,⟨rfl,_⟩,_,_,rfl,⟨⟨a,c,rfl,j⟩,l⟩,⟨b,d,rfl,i⟩,k⟩:=h
 exact⟨g,f,e⟩
noncomputable def JSt.goC (s:JSt) (x:Qt):Int:=Qv (s.makes x).1 (QZ s.L.length (s.makes x).2.length)
theorem Ql7 {s:JSt}{x:Qt}(a:x.form s.m.length=0):s.code x=s.goC x:=by
 unfold JSt.code JSt.goC Qv QZ;rw[Xr (by rw[a];simp)]
 by_cases h:(s.makes x).1=0
 ·rw[Xr (by rw[h];simp),Xs h]
 ·rw[Xs h,Xr h]
theorem Qbz (h:n<=80):QZ n 0=0:=Xr (by omega)
theorem QfA {a:Int}:Qv a 0=a:=by unfold Qv;split<;>simp_all
theorem QO.to {A:Nat->Prop}{s f g:JSt}{c a:Int}{e:Ending}(j:QO w b O A s f c e w') (m:a=c) (l:c=0->g=f):QO w b O A s g a e w':=by
 subst m;rcases j with ⟨d,k,i⟩ | h
 ·exact .inl ⟨d,k,by rw[l d];exact i⟩
 ·exact .inr h
theorem QO.none {A:Nat->Prop}{s c:JSt}{a:Int}(h:SAt w b O A s) (d:Below w.heap.size w w') (f:a=0) (e:c=s):QO w b O A s c a (.returned (.tuple #[])) w':=.inl ⟨f,Z,by rw[e];exact Yh h d⟩
theorem QT {s:JSt}{x:Qt}(a:x.op≠3) (b:x.op≠4):s.next x={ s with L:=s.L++(s.makes x).2 }:=by unfold JSt.next;rw[Xr a,Xr b]
structure Qn6 (w:World) (b:Nat) (O A Q:Nat->Prop) (s:JSt) (c:Array Value) (xr xs:List Int) (rg ag:Option Addr) (rc ac:Nat) (w1:World) (X:Nat):Prop where
 HJ:Hid (JOk s)
 H0:Hid (SAt w b O A s)
 HA0:Hid (∀ k,A k->k<w.heap.size)
 H:Hid (SAt w1 b O A s)
 HR:Hid (intsL.In w1 Q xr [.slice rg xr.length rc])
 HG:Hid (intsL.In w1 Q xs [.slice ag xs.length ac])
 HB:Hid (Below w.heap.size w w1)
 HA:Hid (∀ k,A k->k<w1.heap.size)
 HO:Hid (∀ k,O k->k<w1.heap.size)
 X1:Hid (Blk w1 X c 78)
 HRC:Hid (xr.length<=rc)
theorem Qgo {A:Nat->Prop}{s:JSt}{f:List Int}(j:∀ k,A k->k<w.heap.size) (l:JOk s) (h:SAt w b O A s) (d:intsL.In w Q f [.slice rg f.length rc]) (a:intsL.In w Q xs [.slice ag xs.length ac]) (i:f.length<=rc) (c:Array Value):Qn6 w b O A Q s c f xs rg ag rc ac (w.alloc (.cells c 78)) w.heap.size :=
 have e:=Zd w (.cells c 78);⟨l,h,j,h.below e,Ya d e,Ya a e,e,fun k g=>Zl (j k g) e.size,fun k g=>Zl (j k (h.sub k g)) e.size,Blk.new _ _ _,i⟩
theorem QX {f d c g e a i b:Value}(h:Blk w X #[f,d,c,g,e,a,i,b] t):w.cell? ⟨X,0,none⟩=some f/\w.cell? ⟨X,1,none⟩=some d/\w.cell? ⟨X,2,none⟩=some c/\w.cell? ⟨X,3,none⟩=some g/\w.cell? ⟨X,4,none⟩=some e/\w.cell? ⟨X,5,none⟩=some a/\w.cell? ⟨X,6,none⟩=some i/\w.cell? ⟨X,7,none⟩=some b :=
 ⟨Qb h 0 _ Z,Qb h 1 _ Z,Qb h 2 _ Z,Qb h 3 _ Z,Qb h 4 _ Z,Qb h 5 _ Z,Qb h 6 _ Z,Qb h 7 _ Z⟩
theorem QlI {A:Nat->Prop}{s:JSt}{x:Qt}(K:∀ k,A k->k<w.heap.size) (y:JOk s) (h:SAt w b O A s) (a:intsL.In w Q x.regs [.slice rg x.regs.length rc]) (c:intsL.In w Q x.args [.slice ag x.args.length ac]) (q:x.regs.length<=rc) (t:ZF x) (I:x.form s.m.length=0) (d:x.op=1) :
 Calls prog 212 #[Pv b 0,Qd3 x rg ag rc ac] w fun e w'=>QO w b O A s (s.next x) (s.goC x) e w':=by
 have F:=Z5 (s:=s) (.inl d);obtain⟨op,n,i,g,j,o,l,f⟩:=x
 have d:op=1:=d;subst d;have E:=Qa F;obtain⟨S,C,N,-⟩:=Q6 I
 have HF:=Qa (Xh S (Xh C N));obtain⟨J,G,r⟩:=t
 have HI:=Qa (Xh J (Xh G r));have U:=y.vals;have B:=Qa (Qgo K y h a c q #[Iv 1,Iv n,Iv i,Iv g,Iv j,Iv o,.slice rg l.length rc,.slice ag f.length ac]);clear h K y a c F I S C N J G r q;go_enter func212,ntmps212
 go_upto_region 1 with fail
 generalize w.alloc (.cells #[Iv 1,Iv n,Iv i,Iv g,Iv j,Iv o,.slice rg l.length rc,.slice ag f.length ac] 78)=w1 at B |-;generalize w.heap.size=X at B |-;obtain⟨HJ,H0,aa,H,HR,HG,V,HA,HO,X1,T⟩:=B.out
 clear B;obtain⟨x0,x1,x2,x3,x4,-,x6,x7⟩:=QX X1.out
 have z:Hid (∀ e p,QO w b O A s { s with L:=s.L++[tInt] } (QZ s.L.length 1) e p->QO w b O A s (s.next ⟨1,n,i,g,j,o,l,f⟩) (s.goC ⟨1,n,i,g,j,o,l,f⟩) e p):=fun e p u=>u.to (by unfold JSt.goC;rw[E.out];rfl) (fun _=>by rw[QT (by simp) (by simp),E.out]);have M:=Qa (QbK U HA.out H.out);go_wp2_with fail
 refine M.out.mono ?_;rintro W p u;have D:Hid (QO w b O A s (s.next ⟨1,n,i,g,j,o,l,f⟩) (s.goC ⟨1,n,i,g,j,o,l,f⟩) W p):=z.out _ _ (u.after V.out);rcases u with ⟨R,rfl,P⟩|⟨R,rfl,P⟩
 rotate_left
 ·exact⟨Z,D.out⟩
 clear R P M;go_wp2
 exact Xz (v:=.tuple #[]) (by simp[results,results212,go_sem]) Z D.out
theorem QmS {A:Nat->Prop}{s:JSt}{x:Qt}(K:∀ k,A k->k<w.heap.size) (y:JOk s) (h:SAt w b O A s) (a:intsL.In w Q x.regs [.slice rg x.regs.length rc]) (c:intsL.In w Q x.args [.slice ag x.args.length ac]) (q:x.regs.length<=rc) (t:ZF x) (I:x.form s.m.length=0) (d:x.op=12) :
 Calls prog 212 #[Pv b 0,Qd3 x rg ag rc ac] w fun e w'=>QO w b O A s (s.next x) (s.goC x) e w':=by
 have F:=Z5 (s:=s) (.inr d);obtain⟨op,n,i,g,j,o,l,f⟩:=x
 have d:op=12:=d;subst d;have E:=Qa F;obtain⟨S,C,N,-⟩:=Q6 I
 have HF:=Qa (Xh S (Xh C N));obtain⟨J,G,r⟩:=t
 have HI:=Qa (Xh J (Xh G r));have U:=y.vals;have B:=Qa (Qgo K y h a c q #[Iv 12,Iv n,Iv i,Iv g,Iv j,Iv o,.slice rg l.length rc,.slice ag f.length ac]);clear h K y a c F I S C N J G r q;go_enter func212,ntmps212
 go_upto_region 1 with fail
 generalize w.alloc (.cells #[Iv 12,Iv n,Iv i,Iv g,Iv j,Iv o,.slice rg l.length rc,.slice ag f.length ac] 78)=w1 at B |-;generalize w.heap.size=X at B |-;obtain⟨HJ,H0,aa,H,HR,HG,V,HA,HO,X1,T⟩:=B.out
 clear B;obtain⟨x0,x1,x2,x3,x4,-,x6,x7⟩:=QX X1.out
 have z:Hid (∀ e p,QO w b O A s { s with L:=s.L++[tInt] } (QZ s.L.length 1) e p->QO w b O A s (s.next ⟨12,n,i,g,j,o,l,f⟩) (s.goC ⟨12,n,i,g,j,o,l,f⟩) e p):=fun e p u=>u.to (by unfold JSt.goC;rw[E.out];rfl) (fun _=>by rw[QT (by simp) (by simp),E.out]);have M:=Qa (QbK U HA.out H.out);go_wp2_with fail
 refine M.out.mono ?_;rintro W p u;have D:Hid (QO w b O A s (s.next ⟨12,n,i,g,j,o,l,f⟩) (s.goC ⟨12,n,i,g,j,o,l,f⟩) W p):=z.out _ _ (u.after V.out);rcases u with ⟨R,rfl,P⟩|⟨R,rfl,P⟩
 rotate_left
 ·exact⟨Z,D.out⟩
 clear R P M;go_wp2
 exact Xz (v:=.tuple #[]) (by simp[results,results212,go_sem]) Z D.out
theorem QlT {A:Nat->Prop}{s:JSt}{x:Qt}(hA:∀ k,A k->k<w.heap.size) (G:JOk s) (h:SAt w b O A s) (c:intsL.In w Q x.regs [.slice rg x.regs.length rc]) (a:intsL.In w Q x.args [.slice ag x.args.length ac]) (y:x.regs.length<=rc) (C:ZF x) (W:x.form s.m.length=0) (i:x.op=2) :
 Calls prog 212 #[Pv b 0,Qd3 x rg ag rc ac] w fun e w'=>QO w b O A s (s.next x) (s.goC x) e w':=by
 have T:=QbQ (s:=s) i;obtain⟨op,g,f,l,n,p,o,j⟩:=x
 have i:op=2:=i;subst i;have S:=Qa T;obtain⟨f1,K,f3,-⟩:=Q6 W
 have HF:=Qa (Xh f1 (Xh K f3));obtain⟨ra,U,z⟩:=C
 have V:=Qa (Xh ra (Xh U z));have P:=G.vals;have B:=Qa (Qgo hA G h c a y #[Iv 2,Iv g,Iv f,Iv l,Iv n,Iv p,.slice rg o.length rc,.slice ag j.length ac]);clear h hA G c a T W f1 K f3 ra U z y;go_enter func212,ntmps212
 go_upto_region 1 with fail
 generalize w.alloc (.cells #[Iv 2,Iv g,Iv f,Iv l,Iv n,Iv p,.slice rg o.length rc,.slice ag j.length ac] 78)=w1 at B |-;generalize w.heap.size=X at B |-;obtain⟨HJ,H0,aa,H,HR,HG,R,HA,HO,X1,ad⟩:=B.out
 clear B;obtain⟨x0,x1,x2,x3,x4,-,x6,x7⟩:=QX X1.out
 have EG:Hid (s.goC ⟨2,g,f,l,n,p,o,j⟩=Qv (Qv (s.want g 1 false) (s.want f 1 false)) (QZ s.L.length 1)):=by show _=_;unfold JSt.goC;rw[S.out];rfl
 have N:=Qa (fun d=>Qe6 g f V.out.1 V.out.2.1 d P HO.out H.out);go_wp2_with fail
 refine(N.out _).mono ?_
 rintro e' w2 ⟨hq,t⟩;have u:=Qa (R.out.trans (t.mono R.out.size));have H2:=Qa (H.out.below t);have J:=Qa (fun k I=>Zl (HA.out k I) t.size);have ab:=Qa (fun k I=>Zl (HO.out k I) t.size);rcases hq with ⟨q,y2,rfl,hy⟩|⟨q,rfl⟩
 rotate_left
 ·exact⟨Z,QO.bad ((fun q=>by rw[EG.out,Ql q]) q) q (Yh H0.out u.out)⟩
 subst hy;have F:=Qa q;clear q t N;have E:Hid (∀ e r,QO w b O A s { s with L:=s.L++[tInt] } (QZ s.L.length 1) e r->QO w b O A s (s.next ⟨2,g,f,l,n,p,o,j⟩) (s.goC ⟨2,g,f,l,n,p,o,j⟩) e r):=fun e r D=>D.to (by rw[EG.out,Qx F.out]) (fun _=>by rw[QT (by simp) (by simp),S.out]);have CM:=Qa (QbK P J.out H2.out);go_wp2_with fail
 refine CM.out.mono ?_;rintro e' r D;have M:Hid (QO w b O A s (s.next ⟨2,g,f,l,n,p,o,j⟩) (s.goC ⟨2,g,f,l,n,p,o,j⟩) e' r):=E.out _ _ (D.after u.out);rcases D with ⟨h1,rfl,h3⟩|⟨h1,rfl,h3⟩
 rotate_left
 ·exact⟨Z,M.out⟩
 clear h1 h3 CM;go_wp2
 exact Xz (v:=.tuple #[]) (by simp[results,results212,go_sem]) Z M.out
theorem Qlx {A:Nat->Prop}{s:JSt}{x:Qt}(P:∀ k,A k->k<w.heap.size) (D:JOk s) (h:SAt w b O A s) (c:intsL.In w Q x.regs [.slice rg x.regs.length rc]) (d:intsL.In w Q x.args [.slice ag x.args.length ac]) (t:x.regs.length<=rc) (y:ZF x) (M:x.form s.m.length=0) (f:x.op=3) :
 Calls prog 212 #[Pv b 0,Qd3 x rg ag rc ac] w fun e w'=>QO w b O A s (s.next x) (s.goC x) e w':=by
 have J:=QbD (s:=s) f;obtain⟨op,p,l,j,n,q,o,i⟩:=x
 have f:op=3:=f;subst f;have I:=Qa J;obtain⟨V,F,S,-⟩:=Q6 M
 have HF:=Qa (Xh V (Xh F S));obtain⟨N,K,u⟩:=y
 have HI:=Qa (Xh N (Xh K u));have hL:=D.vals;have B:=Qa (Qgo P D h c d t #[Iv 3,Iv p,Iv l,Iv j,Iv n,Iv q,.slice rg o.length rc,.slice ag i.length ac]);clear h P D c d J M V F S N K u t;go_enter func212,ntmps212
 go_upto_region 1 with fail
 generalize w.alloc (.cells #[Iv 3,Iv p,Iv l,Iv j,Iv n,Iv q,.slice rg o.length rc,.slice ag i.length ac] 78)=w1 at B |-;generalize w.heap.size=X at B |-;obtain⟨HJ,H0,aa,H,HR,HG,HB,HA,HO,X1,W⟩:=B.out
 clear B;obtain⟨x0,x1,x2,x3,x4,-,x6,x7⟩:=QX X1.out
 have E:Hid (∀ e r,QO w b O A s s.openS s.openC e r->QO w b O A s (s.next ⟨3,p,l,j,n,q,o,i⟩) (s.goC ⟨3,p,l,j,n,q,o,i⟩) e r):=fun e r z=>z.to (by
  unfold JSt.goC;rw[I.out]
  by_cases a:s.H.length=16
  ·rw[Xs a]
   show Qv 2 _=s.openC;unfold JSt.openC;rw[Xs (Or.inr a)];rfl
  ·rw[Xr a]
   show Qv 0 (QZ s.L.length 1)=s.openC;rw[Qx Z]
   unfold QZ JSt.openC;by_cases g:80<s.L.length+1
   ·rw[Xs g,Xs (Or.inl g)]
   ·rw[Xr g,Xr (by omega)]) (fun C=>by
  unfold JSt.openC at C;unfold JSt.next JSt.openS
  rw[I.out]
  by_cases a:s.H.length=16
  ·rw[Xs (Or.inr a)] at C;cases C
  ·rw[Xr a];rfl)
 have R:=Qa (QiJ HJ.out.regs hL HA.out H.out);go_wp2_with fail
 refine R.out.mono ?_;rintro e' r z;have G:Hid (QO w b O A s (s.next ⟨3,p,l,j,n,q,o,i⟩) (s.goC ⟨3,p,l,j,n,q,o,i⟩) e' r):=E.out _ _ (z.after HB.out);rcases z with ⟨U,rfl,T⟩|⟨U,rfl,T⟩
 rotate_left
 ·exact⟨Z,G.out⟩
 clear U T R;go_wp2
 exact Xz (v:=.tuple #[]) (by simp[results,results212,go_sem]) Z G.out
theorem Qkv {A:Nat->Prop}{s:JSt}{x:Qt}(R:∀ k,A k->k<w.heap.size) (D:JOk s) (h:SAt w b O A s) (c:intsL.In w Q x.regs [.slice rg x.regs.length rc]) (d:intsL.In w Q x.args [.slice ag x.args.length ac]) (u:x.regs.length<=rc) (z:ZF x) (N:x.form s.m.length=0) (g:x.op=4) :
 Calls prog 212 #[Pv b 0,Qd3 x rg ag rc ac] w fun e w'=>QO w b O A s (s.next x) (s.goC x) e w':=by
 have K:=Qau (s:=s) g;obtain⟨op,a,l,j,n,p,o,i⟩:=x
 have g:op=4:=g;subst g;have J:=Qa K;obtain⟨W,F,T,-⟩:=Q6 N
 have HF:=Qa (Xh W (Xh F T));obtain⟨P,M,y⟩:=z
 have HI:=Qa (Xh P (Xh M y));have I:=D.vals;have B:=Qa (Qgo R D h c d u #[Iv 4,Iv a,Iv l,Iv j,Iv n,Iv p,.slice rg o.length rc,.slice ag i.length ac]);clear h R D c d K N W F T P M y u;go_enter func212,ntmps212
 go_upto_region 1 with fail
 generalize w.alloc (.cells #[Iv 4,Iv a,Iv l,Iv j,Iv n,Iv p,.slice rg o.length rc,.slice ag i.length ac] 78)=w1 at B |-;generalize w.heap.size=X at B |-;obtain⟨HJ,H0,ab,H,HR,HG,HB,HA,HO,X1,aa⟩:=B.out
 clear B;obtain⟨x0,x1,x2,x3,x4,-,x6,x7⟩:=QX X1.out
 have E:Hid (∀ e q,QO w b O A s (s.freeS a) (s.freeC a) e q->QO w b O A s (s.next ⟨4,a,l,j,n,p,o,i⟩) (s.goC ⟨4,a,l,j,n,p,o,i⟩) e q):=fun e q C=>C.to (by
  unfold JSt.goC JSt.freeC;rw[J.out]
  show Qv (match s.at a with | none=>(1,[]) | some t=>(Qv (s.want a 2 true) (if t.r<s.f.regs then 11 else 0),[])).1 _=_
  cases s.at a with
  | none=>rfl
  | some t=>show Qv _ (QZ s.L.length 0)=_;rw[Qbz I,QfA]) (fun h0=>by
  unfold JSt.next JSt.freeS
  rw[J.out]
  show ({ s with H:=_,L:=s.L++(match s.at a with | none=>(1,[]) | some t=>(Qv (s.want a 2 true) (if t.r<s.f.regs then 11 else 0),[])).2 }:JSt)=_
  cases s.at a with
  | none=>simp
  | some t=>simp)
 have S:=Qa (QiI a I HA.out H.out);go_wp2_with fail
 refine S.out.mono ?_;rintro e' q C;have G:Hid (QO w b O A s (s.next ⟨4,a,l,j,n,p,o,i⟩) (s.goC ⟨4,a,l,j,n,p,o,i⟩) e' q):=E.out _ _ (C.after HB.out);rcases C with ⟨V,rfl,U⟩|⟨V,rfl,U⟩
 rotate_left
 ·exact⟨Z,G.out⟩
 clear V U S;go_wp2
 exact Xz (v:=.tuple #[]) (by simp[results,results212,go_sem]) Z G.out
theorem Qiw {A:Nat->Prop}{s:JSt}{x:Qt}(T:∀ k,A k->k<w.heap.size) (I:JOk s) (h:SAt w b O A s) (d:intsL.In w Q x.regs [.slice rg x.regs.length rc]) (f:intsL.In w Q x.args [.slice ag x.args.length ac]) (D:x.regs.length<=rc) (F:ZF x) (R:x.form s.m.length=0) (j:x.op=5) :
 Calls prog 212 #[Pv b 0,Qd3 x rg ag rc ac] w fun e w'=>QO w b O A s (s.next x) (s.goC x) e w':=by
 have N:=Qbl (s:=s) j;obtain⟨op,a,q,p,u,z,y,g⟩:=x
 have j:op=5:=j;subst j;have M:=Qa N;obtain⟨f1,K,V,-⟩:=Q6 R
 have HF:=Qa (Xh f1 (Xh K V));obtain⟨S,P,E⟩:=F
 have HI:=Qa (Xh S (Xh P E));have hL:=I.vals;have B:=Qa (Qgo T I h d f D #[Iv 5,Iv a,Iv q,Iv p,Iv u,Iv z,.slice rg y.length rc,.slice ag g.length ac]);clear h T I d f N R f1 K V S P E D;go_enter func212,ntmps212
 go_upto_region 1 with fail
 generalize w.alloc (.cells #[Iv 5,Iv a,Iv q,Iv p,Iv u,Iv z,.slice rg y.length rc,.slice ag g.length ac] 78)=w1 at B |-;generalize w.heap.size=X at B |-;obtain⟨HJ,H0,ab,H,HR,HG,HB,HA,HO,X1,aa⟩:=B.out
 clear B;obtain⟨x0,x1,x2,x3,x4,-,x6,x7⟩:=QX X1.out
 have J:Hid (∀ e C,QO w b O A s (s.tupleS a g) (s.tupleC a g) e C->QO w b O A s (s.next ⟨5,a,q,p,u,z,y,g⟩) (s.goC ⟨5,a,q,p,u,z,y,g⟩) e C):=fun e C G=>G.to (by
  unfold JSt.goC JSt.tupleC;rw[M.out]
  simp only
  cases ha:s.at a with
  | none=>unfold JSt.want;rw[ha];rfl
  | some t =>
    simp only
    by_cases i:s.want a 2 true=0
    ·rw[Xs i,Qx i]
     cases s.fields g with
     | none=>rfl
     | some l =>
       simp only
       by_cases o:4<TT.height (n:=7) (mkT 3 t.r l)
       ·rw[Xs o,Xs o];rfl
       ·rw[Xr o,Xr o];rfl
    ·rw[Xr i,Ql i,Ql i]) (fun c=>by
  rw[QT (by simp) (by simp),M.out]
  unfold JSt.tupleC at c;unfold JSt.tupleS;simp only
  cases ha:s.at a with
  | none=>rfl
  | some t =>
    rw[ha] at c
    simp only at c |-
    by_cases i:s.want a 2 true=0
    ·rw[Qx i] at c
     rw[Xs i]
     cases hl:s.fields g with
     | none=>simp[hl] at c
     | some l =>
       rw[hl] at c
       simp only at c |-
       by_cases o:4<TT.height (n:=7) (mkT 3 t.r l)
       ·rw[Xs o] at c;cases c
       ·rw[Xr o]
    ·rw[Ql i] at c;exact absurd c i)
 have U:=Qa (Qhe a Z (HF.out.2.2 Z) HG.out HJ.out HA.out H.out);go_wp2_with fail
 refine U.out.mono ?_;rintro e' C G;have L:Hid (QO w b O A s (s.next ⟨5,a,q,p,u,z,y,g⟩) (s.goC ⟨5,a,q,p,u,z,y,g⟩) e' C):=J.out _ _ (G.after HB.out);rcases G with ⟨h1,rfl,W⟩|⟨h1,rfl,W⟩
 rotate_left
 ·exact⟨Z,L.out⟩
 clear h1 W U;go_wp2
 exact Xz (v:=.tuple #[]) (by simp[results,results212,go_sem]) Z L.out
theorem QhK {A:Nat->Prop}{s:JSt}{x:Qt}(P:∀ k,A k->k<w.heap.size) (E:JOk s) (h:SAt w b O A s) (c:intsL.In w Q x.regs [.slice rg x.regs.length rc]) (d:intsL.In w Q x.args [.slice ag x.args.length ac]) (u:x.regs.length<=rc) (z:ZF x) (M:x.form s.m.length=0) (f:x.op=8) :
 Calls prog 212 #[Pv b 0,Qd3 x rg ag rc ac] w fun e w'=>QO w b O A s (s.next x) (s.goC x) e w':=by
 have J:=Qbj (s:=s) f;obtain⟨op,a,g,l,n,p,o,j⟩:=x
 have f:op=8:=f;subst f;have D:=Qa J;obtain⟨V,G,S,-⟩:=Q6 M
 have HF:=Qa (Xh V (Xh G S));obtain⟨N,K,y⟩:=z
 have HI:=Qa (Xh N (Xh K y));have hL:=E.vals;have B:=Qa (Qgo P E h c d u #[Iv 8,Iv a,Iv g,Iv l,Iv n,Iv p,.slice rg o.length rc,.slice ag j.length ac]);clear h P E c d J M V G S N K y u;go_enter func212,ntmps212
 go_upto_region 1 with fail
 generalize w.alloc (.cells #[Iv 8,Iv a,Iv g,Iv l,Iv n,Iv p,.slice rg o.length rc,.slice ag j.length ac] 78)=w1 at B |-;generalize w.heap.size=X at B |-;obtain⟨HJ,H0,aa,H,HR,HG,HB,HA,HO,X1,W⟩:=B.out
 clear B;obtain⟨x0,x1,x2,x3,x4,-,x6,x7⟩:=QX X1.out
 have F:Hid (∀ e q,(∀ t,(s.at a=some t\/(s.at a=none/\t=tInt))->QO w b O A s { s with L:=s.L++[mkT 4 t.r []] } (s.arrayC a g) e q)->QO w b O A s (s.next ⟨8,a,g,l,n,p,o,j⟩) (s.goC ⟨8,a,g,l,n,p,o,j⟩) e q):=fun e q i=>by
  cases ha:s.at a with
  | none =>
    refine(i tInt (.inr ⟨ha,Z⟩)).to (by unfold JSt.goC JSt.arrayC;rw[D.out];simp only[ha];unfold JSt.want;rw[ha];rfl) (fun C=>?_)
    unfold JSt.arrayC JSt.want at C;rw[ha] at C
    cases C
  | some t =>
    refine(i t (.inl ha)).to (by unfold JSt.goC JSt.arrayC;rw[D.out];simp only[ha];rfl) (fun C=>?_)
    rw[QT (by simp) (by simp),D.out]
    simp only[ha]
 have R:=Qa (QgX a g HI.out.2.1 HJ.out.regs hL HA.out H.out);go_wp2_with fail
 refine R.out.mono ?_;rintro e' q i;have I:Hid (QO w b O A s (s.next ⟨8,a,g,l,n,p,o,j⟩) (s.goC ⟨8,a,g,l,n,p,o,j⟩) e' q):=F.out _ _ (fun t ht=>(i t ht).after HB.out);have i:=i ((s.at a).getD tInt) (by cases s.at a with | none=>exact .inr ⟨Z,Z⟩ | some t=>exact .inl Z);rcases i with ⟨U,rfl,T⟩|⟨U,rfl,T⟩
 rotate_left
 ·exact⟨Z,I.out⟩
 clear U T R;go_wp2
 exact Xz (v:=.tuple #[]) (by simp[results,results212,go_sem]) Z I.out
theorem QkS {A:Nat->Prop}{s:JSt}{x:Qt}(hA:∀ k,A k->k<w.heap.size) (T:JOk s) (h:SAt w b O A s) (f:intsL.In w Q x.regs [.slice rg x.regs.length rc]) (c:intsL.In w Q x.args [.slice ag x.args.length ac]) (C:x.regs.length<=rc) (G:ZF x) (hf:x.form s.m.length=0) (j:x.op=9) :
 Calls prog 212 #[Pv b 0,Qd3 x rg ag rc ac] w fun e w'=>QO w b O A s (s.next x) (s.goC x) e w':=by
 have hE:=Qa5 (s:=s) j;obtain⟨op,i,g,n,p,r,q,l⟩:=x
 have j:op=9:=j;subst j;have HE:=Qa hE;obtain⟨f1,f2,f3,-⟩:=Q6 hf
 have HF:=Qa (Xh f1 (Xh f2 f3));obtain⟨ra,rb,D⟩:=G
 have HI:=Qa (Xh ra (Xh rb D));have M:=T.vals;have B:=Qa (Qgo hA T h f c C #[Iv 9,Iv i,Iv g,Iv n,Iv p,Iv r,.slice rg q.length rc,.slice ag l.length ac]);clear h hA T f c hE hf f1 f2 f3 ra rb D C;go_enter func212,ntmps212
 go_upto_region 1 with fail
 generalize w.alloc (.cells #[Iv 9,Iv i,Iv g,Iv n,Iv p,Iv r,.slice rg q.length rc,.slice ag l.length ac] 78)=w1 at B |-;generalize w.heap.size=X at B |-;obtain⟨HJ,W,ab,H,HR,HG,HB,HA,HO,X1,ad⟩:=B.out
 clear B;obtain⟨x0,x1,x2,x3,x4,-,x6,x7⟩:=QX X1.out
 have S:Hid (s.goC ⟨9,i,g,n,p,r,q,l⟩=Qv (Qv (s.want i 4 true) (s.want g 1 false)) (QZ s.L.length 1)):=by show _=_;unfold JSt.goC;rw[HE.out];rfl
 have C1:=Qa (Z7 i 4 M HO.out H.out);go_wp2_with fail
 refine(C1.out ).mono ?_
 rintro U w2 ⟨P,u⟩;have o:=Qa (HB.out.trans (u.mono HB.out.size));have H2:=Qa (H.out.below u);have V:=Qa (fun k t=>Zl (HA.out k t) u.size);have I:=Qa (fun k t=>Zl (HO.out k t) u.size);rcases P with ⟨a,y2,rfl,hy⟩|⟨a,rfl⟩
 rotate_left
 ·exact⟨Z,QO.bad ((fun a=>by rw[S.out,Ql (by rw[Ql a];exact a),Ql a]) a) a (Yh W.out o.out)⟩
 have E:=Qa a;have x2:=Qk x2 u;clear a u C1;have C2:=Qa (fun d=>QbI g HI.out.2.1 d M I.out H2.out);go_wp2_with fail
 refine(C2.out _).mono ?_
 rintro U w3 ⟨P,F⟩;have y:=Qa (o.out.trans (F.mono o.out.size));have H3:=Qa (H2.out.below F);have R:=Qa (fun k t=>Zl (V.out k t) F.size);have aa:=Qa (fun k t=>Zl (I.out k t) F.size);rcases P with ⟨a,y3,rfl,hy⟩|⟨a,rfl⟩
 rotate_left
 ·exact⟨Z,QO.bad ((fun a=>by rw[S.out,Qx E.out,Ql a]) a) a (Yh W.out y.out)⟩
 subst hy;have K:=Qa a;clear a F C2;have N:Hid (∀ e z,QO w b O A s { s with L:=s.L++[tInt] } (QZ s.L.length 1) e z->QO w b O A s (s.next ⟨9,i,g,n,p,r,q,l⟩) (s.goC ⟨9,i,g,n,p,r,q,l⟩) e z):=fun e z J=>J.to (by rw[S.out,Qx E.out,Qx K.out]) (fun _=>by rw[QT (by simp) (by simp),HE.out]);have CM:=Qa (QbK M R.out H3.out);go_wp2_with fail
 refine CM.out.mono ?_;rintro U z J;have FF:Hid (QO w b O A s (s.next ⟨9,i,g,n,p,r,q,l⟩) (s.goC ⟨9,i,g,n,p,r,q,l⟩) U z):=N.out _ _ (J.after y.out);rcases J with ⟨h1,rfl,h3⟩|⟨h1,rfl,h3⟩
 rotate_left
 ·exact⟨Z,FF.out⟩
 clear h1 h3 CM;go_wp2
 exact Xz (v:=.tuple #[]) (by simp[results,results212,go_sem]) Z FF.out
theorem Qjy {A:Nat->Prop}{s:JSt}{x:Qt}(hA:∀ k,A k->k<w.heap.size) (P:JOk s) (h:SAt w b O A s) (f:intsL.In w Q x.regs [.slice rg x.regs.length rc]) (c:intsL.In w Q x.args [.slice ag x.args.length ac]) (t:x.regs.length<=rc) (F:ZF x) (hf:x.form s.m.length=0) (g:x.op=10) :
 Calls prog 212 #[Pv b 0,Qd3 x rg ag rc ac] w fun e w'=>QO w b O A s (s.next x) (s.goC x) e w':=by
 have hE:=QaA (s:=s) g;obtain⟨op,o,n,i,y,C,z,q⟩:=x
 have g:op=10:=g;subst g;have W:=Qa hE;obtain⟨f1,S,f3,-⟩:=Q6 hf
 have HF:=Qa (Xh f1 (Xh S f3));obtain⟨ra,rb,u⟩:=F
 have HI:=Qa (Xh ra (Xh rb u));have K:=P.vals;have B:=Qa (Qgo hA P h f c t #[Iv 10,Iv o,Iv n,Iv i,Iv y,Iv C,.slice rg z.length rc,.slice ag q.length ac]);clear h hA P f c hE hf f1 S f3 ra rb u t;go_enter func212,ntmps212
 go_upto_region 1 with fail
 generalize w.alloc (.cells #[Iv 10,Iv o,Iv n,Iv i,Iv y,Iv C,.slice rg z.length rc,.slice ag q.length ac] 78)=w1 at B |-;generalize w.heap.size=X at B |-;obtain⟨HJ,I,ad,H,HR,HG,U,HA,HO,X1,ae⟩:=B.out
 clear B;obtain⟨x0,x1,x2,x3,x4,-,x6,x7⟩:=QX X1.out
 have N:Hid (s.goC ⟨10,o,n,i,y,C,z,q⟩=Qv (s.want o 4 true) (Qv (s.want n 1 false) (s.want i 1 false))):=by show _=_;unfold JSt.goC;rw[W.out];show Qv _ (QZ s.L.length 0)=_;rw[Qbz K,QfA]
 have T:=Qa (Z7 o 4 K HO.out H.out);go_wp2_with fail
 refine(T.out ).mono ?_
 rintro e' w2 ⟨M,j⟩;have l:=Qa (U.out.trans (j.mono U.out.size));have H2:=Qa (H.out.below j);have R:=Qa (fun k p=>Zl (HA.out k p) j.size);have G:=Qa (fun k p=>Zl (HO.out k p) j.size);rcases M with ⟨a,y2,rfl,hy⟩|⟨a,rfl⟩
 rotate_left
 ·exact⟨Z,QO.bad ((fun a=>by rw[N.out,Ql a]) a) a (Yh I.out l.out)⟩
 have D:=Qa a;have x2:=Qk x2 j;have x3:=Qk x3 j;clear a j T;have V:=Qa (fun d=>Qe6 n i HI.out.2.1 HI.out.2.2 d K G.out H2.out);go_wp2_with fail
 refine(V.out _).mono ?_
 rintro e' w3 ⟨M,E⟩;have r:=Qa (l.out.trans (E.mono l.out.size));have H3:=Qa (H2.out.below E);have aa:=Qa (fun k p=>Zl (R.out k p) E.size);have ab:=Qa (fun k p=>Zl (G.out k p) E.size);rcases M with ⟨a,y3,rfl,hy⟩|⟨a,rfl⟩
 rotate_left
 ·exact⟨Z,QO.bad ((fun a=>by rw[N.out,Qx D.out]) a) a (Yh I.out r.out)⟩
 subst hy;have J:=Qa a;clear a E V;have FF:Hid (QO w b O A s (s.next ⟨10,o,n,i,y,C,z,q⟩) (s.goC ⟨10,o,n,i,y,C,z,q⟩) (.returned (.tuple #[])) w3):=QO.none I.out r.out (by rw[N.out,Qx D.out,J.out]) (by rw[QT (by simp) (by simp),W.out];simp);go_wp2
 exact Xz (v:=.tuple #[]) (by simp[results,results212,go_sem]) Z FF.out
theorem Qmb {A:Nat->Prop}{s:JSt}{x:Qt}(W:∀ k,A k->k<w.heap.size) (F:JOk s) (h:SAt w b O A s) (c:intsL.In w Q x.regs [.slice rg x.regs.length rc]) (a:intsL.In w Q x.args [.slice ag x.args.length ac]) (u:x.regs.length<=rc) (z:ZF x) (U:x.form s.m.length=0) (f:x.op=11) :
 Calls prog 212 #[Pv b 0,Qd3 x rg ag rc ac] w fun e w'=>QO w b O A s (s.next x) (s.goC x) e w':=by
 have S:=QbH (s:=s) f;obtain⟨op,d,j,i,l,o,n,g⟩:=x
 have f:op=11:=f;subst f;have R:=Qa S;obtain⟨f1,J,f3,-⟩:=Q6 U
 have HF:=Qa (Xh f1 (Xh J f3));obtain⟨V,T,y⟩:=z
 have HI:=Qa (Xh V (Xh T y));have N:=F.vals;have B:=Qa (Qgo W F h c a u #[Iv 11,Iv d,Iv j,Iv i,Iv l,Iv o,.slice rg n.length rc,.slice ag g.length ac]);clear h W F c a S U f1 J f3 V T y u;go_enter func212,ntmps212
 go_upto_region 1 with fail
 generalize w.alloc (.cells #[Iv 11,Iv d,Iv j,Iv i,Iv l,Iv o,.slice rg n.length rc,.slice ag g.length ac] 78)=w1 at B |-;generalize w.heap.size=X at B |-;obtain⟨HJ,H0,aa,H,HR,HG,P,HA,HO,X1,ad⟩:=B.out
 clear B;obtain⟨x0,x1,x2,x3,x4,-,x6,x7⟩:=QX X1.out
 have EG:Hid (s.goC ⟨11,d,j,i,l,o,n,g⟩=Qv (s.want d 4 true) (QZ s.L.length 1)):=by show _=_;unfold JSt.goC;rw[R.out];rfl
 have M:=Qa (Z7 d 4 N HO.out H.out);go_wp2_with fail
 refine(M.out ).mono ?_
 rintro e' w2 ⟨hq,r⟩;have t:=Qa (P.out.trans (r.mono P.out.size));have H2:=Qa (H.out.below r);have I:=Qa (fun k G=>Zl (HA.out k G) r.size);have ab:=Qa (fun k G=>Zl (HO.out k G) r.size);rcases hq with ⟨p,y2,rfl,hy⟩|⟨p,rfl⟩
 rotate_left
 ·exact⟨Z,QO.bad ((fun p=>by rw[EG.out,Ql p]) p) p (Yh H0.out t.out)⟩
 have E:=Qa p;clear p r M;have D:Hid (∀ e q,QO w b O A s { s with L:=s.L++[tInt] } (QZ s.L.length 1) e q->QO w b O A s (s.next ⟨11,d,j,i,l,o,n,g⟩) (s.goC ⟨11,d,j,i,l,o,n,g⟩) e q):=fun e q C=>C.to (by rw[EG.out,Qx E.out]) (fun _=>by rw[QT (by simp) (by simp),R.out]);have CM:=Qa (QbK N I.out H2.out);go_wp2_with fail
 refine CM.out.mono ?_;rintro e' q C;have K:Hid (QO w b O A s (s.next ⟨11,d,j,i,l,o,n,g⟩) (s.goC ⟨11,d,j,i,l,o,n,g⟩) e' q):=D.out _ _ (C.after t.out);rcases C with ⟨h1,rfl,h3⟩|⟨h1,rfl,h3⟩
 rotate_left
 ·exact⟨Z,K.out⟩
 clear h1 h3 CM;go_wp2
 exact Xz (v:=.tuple #[]) (by simp[results,results212,go_sem]) Z K.out
theorem Qlo {A:Nat->Prop}{s:JSt}{x:Qt}(T:∀ k,A k->k<w.heap.size) (D:JOk s) (h:SAt w b O A s) (c:intsL.In w Q x.regs [.slice rg x.regs.length rc]) (a:intsL.In w Q x.args [.slice ag x.args.length ac]) (p:x.regs.length<=rc) (z:ZF x) (R:x.form s.m.length=0) (f:x.op=13) :
 Calls prog 212 #[Pv b 0,Qd3 x rg ag rc ac] w fun e w'=>QO w b O A s (s.next x) (s.goC x) e w':=by
 have N:=QbG (s:=s) f;obtain⟨op,g,q,l,t,y,u,j⟩:=x
 have f:op=13:=f;subst f;have K:=Qa N;obtain⟨f1,G,U,-⟩:=Q6 R
 have HF:=Qa (Xh f1 (Xh G U));obtain⟨S,P,r⟩:=z
 have HI:=Qa (Xh S (Xh P r));have J:=D.vals;have B:=Qa (Qgo T D h c a p #[Iv 13,Iv g,Iv q,Iv l,Iv t,Iv y,.slice rg u.length rc,.slice ag j.length ac]);clear h T D c a N R f1 G U S P r p;go_enter func212,ntmps212
 go_upto_region 1 with fail
 generalize w.alloc (.cells #[Iv 13,Iv g,Iv q,Iv l,Iv t,Iv y,.slice rg u.length rc,.slice ag j.length ac] 78)=w1 at B |-;generalize w.heap.size=X at B |-;obtain⟨HJ,F,ad,H,HR,HG,M,HA,W,X1,aa⟩:=B.out
 clear B;obtain⟨x0,x1,x2,x3,x4,-,x6,x7⟩:=QX X1.out
 have V:Hid (s.goC ⟨13,g,q,l,t,y,u,j⟩=s.want g 1 false):=by show _=_;unfold JSt.goC;rw[K.out];show Qv _ (QZ s.L.length 0)=_;rw[Qbz J,QfA]
 have I:=Qa (fun d=>QbI g HI.out.1 d J W.out H.out);go_wp2_with fail
 refine(I.out _).mono ?_
 rintro e' w2 ⟨hq,n⟩;have o:=Qa (M.out.trans (n.mono M.out.size));have H2:=Qa (H.out.below n);have ab:=Qa (fun k E=>Zl (HA.out k E) n.size);have ae:=Qa (fun k E=>Zl (W.out k E) n.size);rcases hq with ⟨i,y2,rfl,hy⟩|⟨i,rfl⟩
 rotate_left
 ·exact⟨Z,QO.bad ((fun i=>by rw[V.out]) i) i (Yh F.out o.out)⟩
 subst hy;have C:=Qa i;clear i n I;have FF:Hid (QO w b O A s (s.next ⟨13,g,q,l,t,y,u,j⟩) (s.goC ⟨13,g,q,l,t,y,u,j⟩) (.returned (.tuple #[])) w2):=QO.none F.out o.out (by rw[V.out,C.out]) (by rw[QT (by simp) (by simp),K.out];simp);go_wp2
 exact Xz (v:=.tuple #[]) (by simp[results,results212,go_sem]) Z FF.out
def JSt.fieldC (s:JSt) (a:Int) (k:Nat):Int:=Qv (s.want a 3 true) (match s.at a with | none=>0 | some t=>if k<t.2.2.length then 0 else 9)
def QnD (w:World) (A:Nat->Prop) (s:JSt) (a:Int) (k:Nat) (x:Value):Prop:=∃ (t:TT 6) (u:TT 5) (p:Option Addr) (c:Nat),s.at a=some t/\t.2.2[k]?=some u/\x=Tv u p c/\TIn w (fun g=>¬ A g) u p
theorem QcJ {s:JSt}{a:Int}(h:s.want a 3 true≠0):s.fieldC a k=s.want a 3 true:=by unfold JSt.fieldC Qv;rw[Xr h]
theorem Qic {s:JSt}{a:Int}{t:TT 6}(h:s.want a 3 true=0) (b:s.at a=some t):s.fieldC a k=if k<t.2.2.length then 0 else 9:=by unfold JSt.fieldC Qv;rw[Xs h,b]
theorem QdM {A:Nat->Prop}{s:JSt}(a:Int) (k:Nat) (P:k<=100) (hL:s.L.length<=80) (n:∀ k,O k->k<w.heap.size) (h:SAt w b O A s) :
 Calls prog 245 #[Pv b 0,Iv a,Iv k] w fun e w'=>ZG (s.fieldC a k) (QnD w' A s a k) e/\Below w.heap.size w w':=by
 have M:=Zd w (.cells #[Iv 0,Iv 0,Nv] 105);have S:=Qa (h.more n M);have y:=Qa M;have H:Hid (Blk (w.alloc (.cells #[Iv 0,Iv 0,Nv] 105)) w.heap.size #[Iv 0,Iv 0,Nv] 105):=Blk.new _ _ _;have HO:=Qa n;clear h M n;go_enter func245,ntmps245
 go_upto_region 1 with fail
 generalize w.alloc (.cells #[Iv 0,Iv 0,Nv] 105)=w1 at S y H |-;obtain⟨R,I⟩:∃ R,w.heap.size=R:=⟨_,Z⟩
 have HR:=Qa (Nat.le_of_eq I);rw[I] at H |-
 clear I;go_wp2_with fail
 refine(Z7 a 3 hL (fun k hk=>Zl (HO.out k hk) y.out.size) S.out).mono ?_
 rintro e' V ⟨n,J⟩;have B2:Hid (Below w.heap.size w V):=y.out.trans (J.mono y.out.size);have X2:=Qa (H.out.below J);rcases n with ⟨m,x,rfl,t,p,c,W,rfl,ht,K⟩|⟨m,rfl⟩
 rotate_left
 ·exact⟨Z,.inr ⟨by rw[QcJ m];exact m,by rw[QcJ m]⟩,B2.out⟩
 have f:=Qa (Qhz.mk1 (c:=c) B2.out X2.out HR.out ht);have HA:=Qa W;have E:=Qa (Qic (k:=k) m W);clear ht W K J H y S X2 m;go_upto_region 2 with fail
 generalize V.alloc (.cells #[Iv t.kind,Iv t.r,.slice p t.len c] 105)=X at f |-;generalize V.heap.size=B at f |-;obtain⟨y0,y1,y2,r0,r1,r2,z0,z1,z2⟩:=f.out.cells
 have aa:=f.out.ne;have C:Hid (t.len=t.2.2.length):=TT.len_eq t;by_cases i:k<t.2.2.length
 rotate_left
 ·have N:Hid (s.fieldC a k=9):=by show _=_;rw[E.out,Xr i]
  have j:¬ (k:Int)<t.len:=by rw[C.out];omega
  clear i;generalize t.len=tl at y2 j;go_wp2_with fail
  refine(Zh _ 9).mono ?_
  rintro e' w' ⟨rfl,z⟩;subst z;exact⟨Z,ZG.bad N.out (by decide),f.out.bel⟩
 ·have N:Hid (s.fieldC a k=0):=by show _=_;rw[E.out,Xs i]
  have j:(k:Int)<t.len:=by rw[C.out];omega
  have T:Hid (t.2.2[k]?=some t.2.2[k]):=Zg i;generalize t.2.2[k]=u at T;obtain⟨g,o,D,F,rfl,U,u0,u1,u2,ut⟩:=f.out.lay k u T.out
  have UT:Hid (TIn X (fun g=>¬ (A g\/w.heap.size<=g)) u D):=ut;have ac:¬ R=g:=fun e=>by subst e;exact U (.inr f.out.farR)
  have ab:¬ B=g:=fun e=>by subst e;exact U (.inr f.out.farB)
  clear ut i U;obtain⟨x9,b9⟩:=QnM (k:=u.kind) (r:=u.r) (q:=D) (l:=u.len) (d:=F) f.out.bel f.out.res f.out.farR
  have G:=Qa x9;have Q:=Qa b9;clear x9 b9;generalize ad:t.len=tl at y2 j;go_wp2_with (go_at_call 268;refine(Zf _ _).mono ?_;rintro e' w' ⟨rfl,z⟩;have z:=z.symm;subst z)
  generalize ((X.setCell ⟨R,0,none⟩ (Iv u.kind)).setCell ⟨R,1,none⟩ (Iv u.r)).setCell ⟨R,2,none⟩ (.slice D u.len F)=w9 at G Q |-;have x0:=Qb G.out 0 _ Z;have x1:=Qb G.out 1 _ Z;have x2:=Qb G.out 2 _ Z;exact Xy (v:=Tv u D F) (by simp[results,results245,go_sem,x0,x1,x2]) Z ⟨ZG.good N.out ⟨t,u,D,F,HA.out,T.out,Z,(UT.out.over f.out.bel Q.out).less⟩,Q.out⟩
theorem QgP (x:Int) (u:l.length=N) (D:N<=100000) (B:intsL.In w Q l [.slice p N c]) :
 Calls prog 288 #[.slice p N c,Iv x] w fun e w'=>(∃ i:Int,e=.returned (Iv i)/\(0<=i↔x∈l))/\w'=w:=by
 have E:=Qa B;have t:=Qa u;clear B u;go_enter func288,ntmps288
 go_wp2
 go_loop [8] (fun i=>∃ k:Nat,k<=N/\i=Iv k/\∀ (j:Nat) (y:Int),j<k->l[j]?=some y->x≠y) (fun i=>N - (intOf i).toNat)
 case atStart=>exact⟨0,Xb _,Z,fun j y q=>by omega⟩
 case round =>
  obtain⟨k,G,rfl,v⟩:=hrel
  have A:=Qa v;clear v;by_cases f:k<N
  ·have m:(k:Int)<N:=by omega
   have b:k<l.length:=by rw[t.out];exact f
   obtain⟨g,o,rfl,-,H,s⟩:=ZI E.out b
   obtain⟨y,d⟩:∃ y,l[k]?=some y:=⟨_,Zg b⟩
   rw[show l.getD k 0=y by rw[List.getD_eq_getElem?_getD,d];rfl] at s
   have z:=Qa d;clear d b;by_cases a:x=y
   ·have n:(x==y)=true:=by simpa using a
    have C:Hid (x∈l):=by show _;rw[a];exact Zm z.out
    clear a;go_wp2
    go_ret;exact⟨⟨k,Z,by simp[C.out]⟩,Z⟩
   ·have n:(x==y)=false:=by simpa using a
    have r:=Qa a;clear a;go_wp2
    go_round
    case rel =>
     refine⟨k+1,f,by go_num,fun j F q d=>?_⟩
     rcases Nat.lt_or_ge j k with h | h
     ·exact A.out j F h d
     ·have:j=k:=by omega
      subst this;have e:=z.out.symm.trans d;injection e with e
      subst e;exact r.out
    case measure=>simp[intOf];omega
  ·have m:¬ (k:Int)<N:=by omega
   go_wp2
   go_ret;refine⟨⟨-1,Z,by omega,fun hm=>?_⟩,Z⟩
   obtain⟨j,q,e⟩:=List.mem_iff_getElem.1 hm
   exact absurd e.symm (A.out j _ (by have:=t.out;omega) (Zg q))
theorem Qev (x:Int) (g:l.length=N) (b:N<=100000) (f:intsL.In w Q l [.slice p N c]) :
 Calls prog 279 #[.slice p N c,Iv x] w fun e w'=>e=.returned (.bool (inB l x))/\w'=w:=by
 have C:=Qa (QgP x g b f);clear f g;go_enter func279,ntmps279
 go_wp2_with fail
 refine C.out.mono ?_;rintro e w' ⟨⟨i,rfl,d⟩,a⟩;have a:=a.symm;subst a
 have E:Hid (inB l x=decide (i>=0)):=by
  show _=_;rw[Bool.eq_iff_iff,inB_iff]
  simp[d]
 clear C d;go_wp2
 go_ret;exact⟨by rw[E.out];rfl,Z⟩
theorem Qf1 (H:List Bool) (l:List Int)(a:l[k]?=some x):QL H (l.take k) (l.drop k)=if hHas H x then (if inB (l.take k) x then 13 else QL H (l.take (k+1)) (l.drop (k+1))) else 10:=by
 obtain⟨b,e⟩:=Zi a
 rw[List.drop_eq_getElem_cons b,e,QL,XV,a]
 rfl
def Qcd (H:List Bool) (l:List Int) (asked:Int):Int:=if (l.length:Int)=asked then QL H [] l else 2
theorem QdZ {A:Nat->Prop}{s:JSt}(d:Int) (J:l.length=N) (T:N<=100000) (R:N<=c) (P:intsL.In w Q l [.slice p N c]) (h:SAt w b O A s) :
 Calls prog 273 #[Pv b 0,.slice p N c,Iv d] w fun e w'=>ZG (Qcd s.H l d) VNone e/\w'=w:=by
 have L:=Qa P;have x:=Qa J;obtain⟨pm,cm,W,a1,c1,a2,c2,X,c3,aL,cL,F⟩:=h.read
 obtain⟨-,q1,-⟩:=F.cells
 have U:=Qa F.held;clear h P J F;by_cases m:(N:Int)=d
 rotate_left
 ·have q:((N:Int)==d)=false:=by simpa using m
  have E:Hid (Qcd s.H l d=2):=by show _=_;unfold Qcd;rw[x.out,Xr m]
  go_enter func273,ntmps273
  go_wp2_with fail
  refine(Zh _ 2).mono ?_
  rintro n w' ⟨rfl,a⟩;subst a;exact⟨Z,ZG.bad E.out (by decide),Z⟩
 subst m;have q:((N:Int)==(N:Int))=true:=by simp
 have E:Hid (Qcd s.H l N=QL s.H [] l):=by show _=_;unfold Qcd;rw[x.out,Xs Z]
 go_enter func273,ntmps273
 go_wp2_with (go_at_call 268;refine(Zf _ _).mono ?_;rintro n w' ⟨rfl,a⟩;have a:=a.symm;subst a)
 go_loop [15] (fun i=>∃ k:Nat,k<=N/\i=Iv k/\QL s.H [] l=QL s.H (l.take k) (l.drop k)) (fun i=>N - (intOf i).toNat)
 case atStart=>exact⟨0,Xb _,Z,Z⟩
 case round =>
  obtain⟨k,hk,rfl,K⟩:=hrel
  have M:=Qa K;clear K;by_cases r:k<N
  ·have t:(k:Int)<N:=by omega
   have S:k<=c:=by omega
   have f:k<l.length:=by rw[x.out];exact r
   obtain⟨g,o,rfl,-,hg,I⟩:=ZI L.out f
   obtain⟨y,z⟩:∃ y,l[k]?=some y:=⟨_,Zg f⟩
   rw[show l.getD k 0=y by rw[List.getD_eq_getElem?_getD,z];rfl] at I
   have G:=Qa (M.out.trans (Qf1 s.H l z));have C:=Qa (QcB y U.out)
   cases hq:hHas s.H y with
   | false =>
     rw[hq] at C
     have j:Hid (Qcd s.H l N=10):=by show _=_;rw[E.out,G.out,hq];rfl
     clear z f hq;go_wp2_with (go_at_call 272;refine(C.out).mono ?_;rintro e w' ⟨rfl,a⟩;have a:=a.symm;subst a)
     refine(Zh _ 10).mono ?_
     rintro n w' ⟨rfl,a⟩;subst a;exact⟨Z,ZG.bad j.out (by decide),Z⟩
   | true =>
     rw[hq] at C
     have D:Hid (∀ B,Calls prog 279 #[.slice (some ⟨g,o,none⟩) k B,Iv y] w fun e w'=>e=.returned (.bool (inB (l.take k) y))/\w'=w):=fun B=>Qev y (by rw[List.length_take];omega) (by omega) (Qjo L.out (Nat.le_of_lt f) B);have u:Hid (QL s.H [] l=if inB (l.take k) y then 13 else QL s.H (l.take (k+1)) (l.drop (k+1))):=by show _=_;rw[G.out,hq];rfl
     clear z f hq G
     cases hi:inB (l.take k) y with
     | true =>
       rw[hi] at D
       have j:Hid (Qcd s.H l N=13):=by show _=_;rw[E.out,u.out,hi];rfl
       clear hi;go_wp2_with (go_at_call 272;refine(C.out).mono ?_;rintro e w' ⟨rfl,a⟩;have a:=a.symm;subst a)
       refine(Zf _ _).mono ?_
       rintro n w' ⟨rfl,a⟩;have a:=a.symm;subst a;go_wp2_with (go_at_call 279;refine(D.out _).mono ?_;rintro e w' ⟨rfl,a⟩;have a:=a.symm;subst a)
       refine(Zh _ 13).mono ?_
       rintro n w' ⟨rfl,a⟩;subst a;exact⟨Z,ZG.bad j.out (by decide),Z⟩
     | false =>
       rw[hi] at D
       have j:Hid (QL s.H [] l=QL s.H (l.take (k+1)) (l.drop (k+1))):=by show _=_;rw[u.out,hi];rfl
       clear hi;go_wp2_with (go_at_call 272;refine(C.out).mono ?_;rintro e w' ⟨rfl,a⟩;have a:=a.symm;subst a)
       refine(Zf _ _).mono ?_
       rintro n w' ⟨rfl,a⟩;have a:=a.symm;subst a;go_wp2_with (go_at_call 279;refine(D.out _).mono ?_;rintro e w' ⟨rfl,a⟩;have a:=a.symm;subst a)
       refine(Zf _ _).mono ?_
       rintro n w' ⟨rfl,a⟩;have a:=a.symm;subst a;go_wp2
       go_round
       case rel=>exact⟨k+1,r,by go_num,j.out⟩
       case measure=>simp[intOf];omega
  ·have t:¬ (k:Int)<N:=by omega
   have V:k=N:=by omega
   have j:Hid (Qcd s.H l N=0):=by
    show _=_;rw[E.out,M.out,List.drop_of_length_le (by rw[x.out];omega)]
    rfl
   go_wp2
   exact Xz (v:=.tuple #[]) (by simp[results,results273,go_sem]) Z ⟨ZG.good j.out Z,Z⟩
noncomputable def JSt.handC (s:JSt) (l:List Int) (ts:List (TT 6)):Int:=if l.length=ts.length then Qu (fun p:Int × TT 6=>s.beC p.1 p.2) (l.zip ts) else 2
theorem QaH {A R:Nat->Prop}{s:JSt}{ts:List (TT 6)}{U:Option Addr}{M:Nat}(hN:l.length=N) (ab:N<=100000) (X:ts.length=M) (aa:M<=100000) (hl:intsL.In w Q l [.slice p N c]) (ht:LIn w R ts U)
 (hL:s.L.length<=80) (m:∀ x∈s.L,x.count<=100000) (J:∀ k,O k->k<w.heap.size) (h:SAt w b O A s) :
 Calls prog 251 #[Pv b 0,.slice p N c,.slice U M d] w fun e w'=>ZG (s.handC l ts) VNone e/\Below w.heap.size w w':=by
 have H:=Qa h;have HO:=Qa J;have HL:=Qa hl;have HT:=Qa ht;have P:=Qa hN;have K:=Qa X;have HC:=Qa m;clear h J hl hN ht X m;by_cases F:N=M
 rotate_left
 ·have C:((N:Int)==(M:Int))=false:=by simp;omega
  have E:Hid (s.handC l ts=2):=by show _=_;unfold JSt.handC;rw[P.out,K.out,Xr F]
  go_enter func251,ntmps251
  go_wp2_with fail
  refine(Zh _ 2).mono ?_
  rintro e' w' ⟨rfl,G⟩;subst G;exact⟨Z,ZG.bad E.out (by decide),Zr⟩
 subst F;have C:((N:Int)==(N:Int))=true:=by simp
 have E:Hid (s.handC l ts=Qu (fun p:Int × TT 6=>s.beC p.1 p.2) (l.zip ts)):=by show _=_;unfold JSt.handC;rw[P.out,K.out,Xs Z]
 go_enter func251,ntmps251
 go_wp2_with (go_at_call 268;refine(Zf _ _).mono ?_;rintro e' w' ⟨rfl,G⟩;have G:=G.symm;subst G)
 go_loopw [16] (fun i wr=>∃ k:Nat,k<=N/\i=Iv k/\Below w.heap.size w wr/\∀ (j:Nat) (y:Int × TT 6),j<k->(l.zip ts)[j]?=some y->s.beC y.1 y.2=0) (fun i _=>N - (intOf i).toNat)
 case atStart=>exact⟨0,Xb _,Z,Zr,fun j y hj=>by omega⟩
 case round =>
  obtain⟨k,hk,rfl,W,hz⟩:=hrel
  have a:=Qa W;have T:=Qa hz;clear W hz;by_cases q:k<N
  ·have D:(k:Int)<N:=by omega
   have r:k<l.length:=by rw[P.out];exact q
   have B:k<ts.length:=by rw[K.out];exact q
   obtain⟨g,o,rfl,-,hg,u⟩:=ZI HL.out r
   obtain⟨y,f⟩:∃ y,l[k]?=some y:=⟨_,Zg r⟩
   obtain⟨t,z⟩:∃ t,ts[k]?=some t:=⟨_,Zg B⟩
   rw[show l.getD k 0=y by rw[List.getD_eq_getElem?_getD,f];rfl] at u
   obtain⟨g2,o2,p2,c2,rfl,-,d0,d1,d2,n⟩:=HT.out.at z
   have HX:Hid ((l.zip ts)[k]?=some (y,t)):=by show _=_;rw[List.getElem?_zip_eq_some];exact⟨f,z⟩
   have y0:=Qk u a.out;have z0:=Qk d0 a.out;have z1:=Qk d1 a.out;have z2:=Qk d2 a.out;have HK:=Qa (n.below a.out);clear u r B d0 d1 d2 f z n;go_wp2_with fail
   refine(QcK y HK.out hL HC.out (fun k hk=>Zl (HO.out k hk) a.out.size) (H.out.below a.out)).mono ?_
   rintro e' w2 ⟨J,V⟩;have B2:Hid (Below w.heap.size w w2):=a.out.trans (V.mono a.out.size);rcases J with ⟨I,x,rfl,-⟩|⟨I,rfl⟩
   rotate_left
   ·have e9:s.handC l ts=s.beC y t:=by rw[E.out,Qap HX.out T.out I]
    exact⟨Z,.inr ⟨by rw[e9];exact I,by rw[e9]⟩,B2.out⟩
   have S:=Qa I;clear I V y0 z0 z1 z2;go_wp2
   go_roundw
   case rel =>
    refine⟨k+1,q,by go_num,B2.out,fun j y' hj f=>?_⟩
    rcases Nat.lt_or_ge j k with h | h
    ·exact T.out j y' h f
    ·have:j=k:=by omega
     subst this;have e:=HX.out.symm.trans f;injection e with e
     subst e;exact S.out
   case measure=>simp[intOf];omega
  ·have D:¬ (k:Int)<N:=by omega
   go_wp2
   exact Xz (v:=.tuple #[]) (by simp[results,results251,go_sem]) Z ⟨ZG.good (by rw[E.out];exact Z3 (fun j y f=>T.out j y (by have:=(Zi f).1;rw[List.length_zip,P.out,K.out] at this;omega) f)) Z,a.out⟩
theorem QhD (b:l.length=N) (a:intsL.In w Q l [.slice p N c]):Qk9 w p N (fun i=>l.getD i 0):=fun i d=>by
 obtain⟨g,o,e,-,-,h⟩:=ZI a (show i<l.length by omega)
 exact⟨g,o,e,h⟩
theorem Qks {t:TT 6}{e:Ending}(h:QgI w w' (t.ren regs.length (fun i=>regs.getD i 0)) e):∃ a c q,e=.returned (.tuple #[Tv (Qaj regs t) a c,.bool q])/\TIn w' (Qcr w.heap.size) (Qaj regs t) a/\Below w.heap.size w w':=by
 unfold Qaj
 cases hr:t.ren regs.length (fun i=>regs.getD i 0) with
 | none =>
   rw[hr] at h
   obtain⟨rfl,b⟩:=h
   exact⟨none,0,false,Z,fun i x g=>by simp[zeroTT] at g,b⟩
 | some u =>
   rw[hr] at h
   obtain⟨a,c,rfl,d,f⟩:=h
   exact⟨a,c,true,Z,d,f⟩
theorem QaW {R:Nat->Prop}{ts:List (TT 6)}{L:Option Addr}{M:Nat}(E:regs.length=N) (U:ts.length=M) (ab:M<=1000) (hl:intsL.In w Q regs [.slice p N c]) (ht:LIn w R ts L) (j:∀ x∈ts,x.count<=2000) :
 Calls prog 274 #[.slice L M d,.slice p N c] w fun e w'=>∃ g,e=.returned (.slice (some ⟨g,0,none⟩) M M)/\w.heap.size<=g/\Qcx w' g M (ts.map (Qaj regs))/\Below w.heap.size w w':=by
 have W:=Qa U;have HI:=Qa (QhD E hl);have HT:=Qa ht;have HC:=Qa j;have HN:=Qa E;have J:=QjC w M (by omega);have D:Hid (Below w.heap.size w (w.alloc (.cells (madeCells #[Iv 0,Iv 0,Nv] (M*3)) 105))):=Zd _ _;have A:Hid (Qcx (w.alloc (.cells (madeCells #[Iv 0,Iv 0,Nv] (M*3)) 105)) w.heap.size M ([]:List (TT 6))):=⟨_,Qe w _ _,size_madeCells _ _,fun i x hx=>by simp at hx⟩;clear U hl ht j E;go_enter func274,ntmps274
 go_wp2
 generalize w.alloc (.cells (madeCells #[Iv 0,Iv 0,Nv] (M*3)) 105)=w1 at D A |-;obtain⟨G,y⟩:∃ G,G=w.heap.size:=⟨_,Z⟩
 rw[<-y] at A |-
 have z:=Qa (Nat.le_of_eq y.symm);have HE:=Qa y;clear J y;go_loopw [13] (fun i wr=>∃ q:Nat,q<=M/\i=Iv q/\Qcx wr G M ((ts.take q).map (Qaj regs))/\Below w.heap.size w wr) (fun i _=>M - (intOf i).toNat)
 case atStart=>exact⟨0,Xb _,Z,A.out,D.out⟩
 case round =>
  clear A D;obtain⟨q,hq,rfl,hY,T⟩:=hrel
  have b:=Qa T;have Y:=Qa hY;clear T hY;by_cases n:q<M
  ·have ac:(q:Int)<M:=by omega
   have u:q<ts.length:=by rw[W.out];exact n
   obtain⟨t,a⟩:∃ t,ts[q]?=some t:=⟨_,Zg u⟩
   obtain⟨g2,o2,F,H,rfl,-,X,d1,d2,l⟩:=HT.out.at a
   have z0:=Qk X b.out;have K:=Qk d1 b.out;have O:=Qk d2 b.out
   have C:Hid (∀ m,Below wr.heap.size wr m->Calls prog 285 #[Tv t F H,.slice p N c] m fun e w'=>∃ a' c' qb,e=.returned (.tuple #[Tv (Qaj regs t) a' c',.bool qb])/\TIn w' (Qcr m.heap.size) (Qaj regs t) a'/\Below m.heap.size m w'):=fun m hb=>by
    have v:=b.out.trans (hb.mono b.out.size)
    have:=rename_any 6 t F H p N c (fun i=>regs.getD i 0) m (l.below v).all (HC.out t (Zm a)) (HI.out.below v)
    refine this.mono (fun e w' h=>?_);rw[<-HN.out] at h
    exact Qks h
   have HS:Hid ((ts.take (q+1)).map (Qaj regs)=(ts.take q).map (Qaj regs)++[Qaj regs t]):=by show _=_;rw[XV,a,List.map_append];rfl
   have s:Hid (((ts.take q).map (Qaj regs)).length=q):=by show _=_;rw[XN,List.length_take];omega
   clear X d1 d2 l a u;simp only[Tv] at C
   generalize t.kind=tk at z0 C;generalize t.r=tr at K C;generalize t.len=tl at O C;have ad:q*3+2<M*3:=by omega
   go_wp2_with fail
   have o:Below wr.heap.size wr (wr.alloc (.cells #[Iv tk,Iv tr,.slice F tl H] 105)):=(Below.refl _ wr).alloc Ze _;refine(C.out _ o).mono ?_
   rintro e B ⟨a4,P,qb,rfl,t4,I⟩;have f:=Y.out.below (o.trans (I.mono o.size));have B4:Hid (Below w.heap.size w B):=b.out.trans ((o.trans (I.mono o.size)).mono b.out.size);obtain⟨v0,r0⟩:=f.has (q*3) (by omega)
   obtain⟨v1,r1⟩:=f.has (q*3+1) (by omega)
   obtain⟨v2,r2⟩:=f.has (q*3+2) (by omega)
   have f0:=f.frozen (q*3);have f1:=f.frozen (q*3+1);have f2:=f.frozen (q*3+2);have S:TIn B (Qcr (G+1)) (Qaj regs t) a4:=t4.mono (fun k hk _=>by have:=Y.out.lt;have:wr.heap.size<=k:=Zt o.size hk;omega);have V:=Qa (f.set (c:=P) s.out n S);have Z6:Hid (Below w.heap.size w (((B.setCell ⟨G,q*3,none⟩ (Iv (Qaj regs t).kind)).setCell ⟨G,q*3+1,none⟩ (Iv (Qaj regs t).r)).setCell ⟨G,q*3+2,none⟩ (.slice a4 (Qaj regs t).len P))):=((B4.out.setCell (p:=⟨G,q*3,none⟩) z.out _).setCell (p:=⟨G,q*3+1,none⟩) z.out _).setCell (p:=⟨G,q*3+2,none⟩) z.out _;clear f S t4 I o C z0 K O;simp only[Tv] at V Z6 |-
   go_wp2
   go_roundw
   case rel=>exact⟨q+1,n,by go_num,by rw[HS.out];exact V.out,Z6.out⟩
   case measure=>simp[intOf];omega
  ·have aa:¬ (q:Int)<M:=by omega
   have e:ts.take q=ts:=XO (by rw[W.out];omega);rw[e] at Y
   go_wp2
   go_ret;exact⟨G,Z,z.out,Y.out,b.out⟩
abbrev Qok (Z:Type):=List (Nat × (Z->World->(Nat->Prop)->Prop))
theorem QgJ {m:Nat}{too:Nat->Int}(c:∀ i,i<m->-9223372036854775808<=too i/\too i<=9223372036854775807):{n:Nat}->{t u:TT n}->t.ok->t.ren m too=some u->u.ok
 | 0,t,_,_,_=>Empty.elim t
 | n+1,t,u,hok,h=>by
   simp only[TT.ren] at h
   cases e1:ZJ m too t.1 t.2.1 with
   | none=>simp[e1] at h
   | some r1 =>
     simp only[e1] at h
     cases e2:ZS (TT.ren m too) t.2.2 with
     | none=>simp[e2] at h
     | some l1 =>
       simp only[e2] at h
       have h:=Xn h;subst h;refine⟨?_,fun x d=>?_⟩
       ·show -9223372036854775808<=r1/\r1<=9223372036854775807;unfold ZJ at e1;split at e1
        ·cases e1;exact hok.1
        split at e1
        ·cases e1
        rename_i g j
        split at e1
        ·cases e1
        ·cases e1;exact c _ (by omega)
       ·obtain⟨e,f⟩:=ZT.1 e2
        obtain⟨i,b⟩:=List.getElem?_of_mem d
        have a:i<t.2.2.length:=by rw[<-e];exact(Zi b).1
        have:=f i t.2.2[i] (Zg a)
        rw[b] at this
        exact QgJ c (hok.2 _ (List.getElem_mem a)) this
theorem QiB (h:intsL.In w Q l [.slice a m c]):∀ x∈l,-9223372036854775808<=x/\x<=9223372036854775807:=fun x e=>by
 obtain⟨i,b⟩:=List.getElem?_of_mem e
 obtain⟨g,o,f,_,_,_,_,_,d⟩:=Yf h b
 exact d
theorem QdB {m:List (MFunc 6)}(h:(QaM 6).In w Q m [.slice p n c]){g:MFunc 6}(e:m[k]?=some g) :
 ∃ mg mo a1 c1 a2 c2 a3 c3,p=some ⟨mg,mo,none⟩/\w.cell? ⟨mg,mo+k*4,none⟩=some (Iv g.regs)/\w.cell? ⟨mg,mo+k*4+1,none⟩=some (.slice a1 g.params.length c1)/\w.cell? ⟨mg,mo+k*4+2,none⟩=some (.slice a2 g.results.length c2)/\w.cell? ⟨mg,mo+k*4+3,none⟩=some (.slice a3 g.blocks.length c3) /\
  (Qo 6).In w Q g.params [.slice a1 g.params.length c1]/\(Qo 6).In w Q g.results [.slice a2 g.results.length c2]:=by
 obtain⟨mg,mo,o,i,j,r,a,d⟩:=Yf h e
 obtain⟨a1,c1,a2,c2,a3,c3,rfl,b,f,l,q⟩:=Qar d
 exact⟨mg,mo,a1,c1,a2,c2,a3,c3,i,a 0 (by decide),a 1 (by decide),a 2 (by decide),a 3 (by decide),b,f⟩
theorem QlD (h:∀ x∈regs,-9223372036854775808<=x/\x<=9223372036854775807){t:TT 6}(a:t.ok):(Qaj regs t).ok:=by
 unfold Qaj
 cases e:t.ren regs.length (fun i=>regs.getD i 0) with
 | none=>exact⟨⟨by decide,by decide⟩,fun x c=>by simp[zeroTT] at c⟩
 | some u=>exact QgJ (fun i b=>h (regs.getD i 0) (by simp[List.getD,b])) a e
theorem Qcx.types {M:Nat}{A:Nat->Prop}{l:List (TT 6)}(h:Qcx w G M l) (s:l.length=M) (e:∀ x∈l,x.ok) (m:∀ k,G<=k->¬ A k):(Qo 6).In w (fun g=>¬ A g) l [.slice (some ⟨G,0,none⟩) M M]:=by
 obtain⟨p,b,y,n⟩:=h.row
 subst s;refine⟨_,_,Z,fun i x f=>?_⟩
 obtain⟨a,c,t,o,q,u⟩:=n i x f
 refine⟨G,0,[Iv x.kind,Iv x.r,.slice a x.len c],Z,m G Ze,XC b,fun j d=>?_,a,c,Z,u.mono (fun k v _=>m k (by omega)),e x (Zm f)⟩
 have d:j<3:=d;show w.cell? ⟨G,0+i*3+j,none⟩=_;rw[XK]
 match j,d with
 | 0,_=>exact Qb b _ _ t
 | 1,_=>exact Qb b _ _ o
 | 2,_=>exact Qb b _ _ q
 | j+3,h=>exact absurd h (by omega)
noncomputable def JSt.callC (s:JSt) (x:Qt):Int:=match s.m[x.k.toNat]? with
 | none=>0
 | some g=>Qv (Qcd s.H x.regs g.regs) (Qv (s.handC x.args (g.params.map (Qaj x.regs))) (QZ s.L.length g.results.length))
def JSt.callS (s:JSt) (x:Qt):JSt:={ s with L:=s.L++(match s.m[x.k.toNat]? with | none=>[] | some g=>g.results.map (Qaj x.regs)) }
def QnI (w2:World) (b X mg mo nm cm k n1 d1 n2 d2 n3 d3:Nat) (fr:Int) (p1 p2 p3:Option Addr) (t:Tmp) (v:Value) (w:World):Prop :=
 match ([(4,fun v w=>∃ B,v=.pointer (some ⟨B,0,none⟩)/\w2.heap.size<=B/\Blk w B #[.int .i64 0,.slice none 0 0,.slice none 0 0,.slice none 0 0] 89)]:List (Tmp × (Value->World->Prop))).lookup t with
 | some p=>p v w
 | none=>v=(([(0,.pointer (some ⟨b,0,none⟩)),(3,.pointer (some ⟨X,0,none⟩)),(5,.pointer (some ⟨b,0,none⟩)),(6,.pointer (some ⟨b,0,none⟩)),(7,.pointer (some ⟨b,0,none⟩)),(8,.pointer (some ⟨b,0,none⟩)),(9,.slice (some ⟨mg,mo,none⟩) nm cm),(10,.pointer (some ⟨X,4,none⟩)),(11,.int .i64 (k:Int)),(12,.pointer (some ⟨mg,mo+k*4,none⟩)),(13,.agg #[.int .i64 fr,.slice p1 n1 d1,.slice p2 n2 d2,.slice p3 n3 d3])]:List (Tmp × Value)).lookup t).getD undef
theorem jc1 {g d x q d1 j z l o:Nat}{p1 y A:Option Addr}(R:w2.cell? ⟨b,0,none⟩=some (.slice (some ⟨g,d,none⟩) x cm)) (L:w2.cell? ⟨X,4,none⟩=some (Iv (k:Int))) (H:w2.cell? ⟨g,d+k*4,none⟩=some (Iv fr)) (O:w2.cell? ⟨g,d+k*4+1,none⟩=some (.slice p1 q d1)) (E:w2.cell? ⟨g,d+k*4+2,none⟩=some (.slice y j z)) (I:w2.cell? ⟨g,d+k*4+3,none⟩=some (.slice A l o)) (G:(k:Int)<x){Q:Exit->Act->World->Prop}
 (a:Act) (m:Nat) (P:a.tmps.size=m) (r:36<=m) (D:a.tmps.getD 0 undef=Pv b 0) (M:a.tmps.getD 3 undef=Pv X 0)
 (hend:∀ ops vs w',vs 13=.agg #[Iv fr,.slice p1 q d1,.slice y j z,.slice A l o]->(fun v w=>∃ B,v=Pv B 0/\w2.heap.size<=B/\Blk w B #[Iv 0,Nv,Nv,Nv] 89) (vs 4) w'->Below w2.heap.size w2 w'->wpList prog ops Q (Qal 10 ((Tryz.f249.body.bind (Qi 1)).getD .skip)) (QM a vs [5,6,7,8,9,10,11,12,13,4]) w') :
 Code.wp prog ((Tryz.f249.body.bind (Qi 1)).getD .skip) Q a w2:=by
 conv=>arg 2;whnf
 refine Qg 10 (QnI w2 b X g d x cm k q d1 j z l o fr p1 y A) (fun w=>Below w2.heap.size w2 w) (fun w w'=>Below w.heap.size w w') (outs:=[0,3]) (gs:=[]) (bs:=[true,true,true,true,true,true,true,true,true,true]) (by kernel_rfl) (n:=36) P r (by kernel_rfl) (by kernel_rfl) ?hR ?hG (QI Zr 1) ⟨D,M,Y⟩ ?hA ?hend
 case hR =>
  intro t v w w' J h;unfold QnI at h |-;split at h
  ·rename_i p i
   simp only[List.lookup_cons,List.lookup_nil] at i
   split at i
   ·cases i;exact(by obtain⟨B,e,N,C⟩:=h;exact⟨B,e,N,(J.block B (XC C)).trans C⟩)
   ·cases i
  ·exact h
 case hG=>exact Y
 case hend=>exact fun ops vs w' c f=>hend ops vs w' (f 13 (by kernel_rfl)) (f 4 (by kernel_rfl)) c
 case hA =>
  repeat
   refine⟨fun a w c f K s=>?_,?_⟩
   focus first
    | obtain⟨u,-⟩:=f
      conv at u=>whnf;rhs;whnf
      have c0:=Qk R c;have U:=Qk L c;have W:=Qk H c;have V:=Qk O c;have T:=Qk E c;have S:=Qk I c;go_simp;exact s _ _ Zr c Z
    | clear f
      go_simp;exact s _ _ (Zd _ _) (c.alloc c.size _) ⟨_,Z,c.size,Qe _ _ _⟩
    | obtain⟨u,F,-⟩:=f
      conv at u=>whnf;rhs;whnf
      conv at F=>whnf;rhs;whnf
      go_simp;exact s _ _ Zr c Z
  trivial
def QnE (w2:World) (b X C N ac n1 d1 Kn rc:Nat) (ag rg p1:Option Addr) (ps:List (TT 6)) (regs:List Int) (t:Tmp) (v:Value) (w:World):Prop :=
 match ([(27,fun v w=>∃ g,v=.slice (some ⟨g,0,none⟩) n1 n1/\w2.heap.size<=g/\Qcx w g n1 (ps.map (Qaj regs)))]:List (Tmp × (Value->World->Prop))).lookup t with
 | some p=>p v w
 | none=>v=(([(0,.pointer (some ⟨b,0,none⟩)),(3,.pointer (some ⟨X,0,none⟩)),(4,.pointer (some ⟨C,0,none⟩)),(20,.pointer (some ⟨b,0,none⟩)),(21,.pointer (some ⟨X,7,none⟩)),(22,.slice ag N ac),(23,.pointer (some ⟨C,1,none⟩)),(24,.slice p1 n1 d1),(25,.pointer (some ⟨X,6,none⟩)),(26,.slice rg Kn rc)]:List (Tmp × Value)).lookup t).getD undef
theorem jc3 {C d d1 j:Nat}{p1:Option Addr}{i:List (TT 6)}{R:Nat->Prop}(G:w2.cell? ⟨X,6,none⟩=some (.slice rg j rc)) (U:w2.cell? ⟨X,7,none⟩=some (.slice ag N ac)) (L:w2.cell? ⟨C,1,none⟩=some (.slice p1 d d1)) (T:Hid (regs.length=j)) (l:Hid (i.length=d)) (y:d<=1000) (H:Hid (intsL.In w2 Q regs [.slice rg j rc])) (A:Hid (LIn w2 R i p1)) (D:Hid (∀ x∈i,x.count<=2000)){Q:Exit->Act->World->Prop}
 (a:Act) (m:Nat) (S:a.tmps.size=m) (q:36<=m) (B:a.tmps.getD 0 undef=Pv b 0) (M:a.tmps.getD 3 undef=Pv X 0) (E:a.tmps.getD 4 undef=Pv C 0)
 (hend:∀ ops vs w',vs 22=.slice ag N ac->vs 20=Pv b 0->(fun v w=>∃ g,v=.slice (some ⟨g,0,none⟩) d d/\w2.heap.size<=g/\Qcx w g d (i.map (Qaj regs))) (vs 27) w'->Below w2.heap.size w2 w'->wpList prog ops Q (Qal 8 ((Tryz.f249.body.bind (Qi 3)).getD .skip)) (QM a vs [20,21,22,23,24,25,26,27]) w') :
 Code.wp prog ((Tryz.f249.body.bind (Qi 3)).getD .skip) Q a w2:=by
 conv=>arg 2;whnf
 refine Qg 8 (QnE w2 b X C N ac d d1 j rc ag rg p1 i regs) (fun w=>Below w2.heap.size w2 w) (fun w w'=>Below w.heap.size w w') (outs:=[0,3,4]) (gs:=[]) (bs:=[true,true,true,true,true,true,true,true]) (by kernel_rfl) (n:=36) S q (by kernel_rfl) (by kernel_rfl) ?hR ?hG (QI Zr 1) ⟨B,M,E,Y⟩ ?hA ?hend
 case hR =>
  intro t v w w' J h;unfold QnE at h |-;split at h
  ·rename_i p k
   simp only[List.lookup_cons,List.lookup_nil] at k
   split at k
   ·cases k;exact(by obtain⟨g,e,O,I⟩:=h;exact⟨g,e,O,I.below J⟩)
   ·cases k
  ·exact h
 case hG=>exact Y
 case hend=>exact fun ops vs w' c f=>hend ops vs w' (f 22 (by kernel_rfl)) (f 20 (by kernel_rfl)) (f 27 (by kernel_rfl)) c
 case hA =>
  iterate 7
   refine⟨fun a w c f K r=>?_,?_⟩
   ·obtain⟨s,-⟩:=f
    conv at s=>whnf;rhs;whnf
    have W:=Qk U c;have u1:=Qk L c;have u2:=Qk G c;go_simp;exact r _ _ Zr c Z
  refine⟨fun a w c f K r=>?_,?_⟩
  ·obtain⟨s,F,-⟩:=f
   conv at s=>whnf;rhs;whnf
   conv at F=>whnf;rhs;whnf
   go_simp;refine Xm (QaW T.out l.out y (Ya H.out c) (A.out.below c) D.out) ?_;rintro V w7 ⟨P,rfl,o,u,z⟩;go_simp;exact r _ _ z (c.trans (z.mono c.size)) ⟨P,Z,Zt c.size o,u⟩
  trivial
theorem Qjs {A:Nat->Prop}{s:JSt}{x:Qt}(hA:∀ k,A k->k<w.heap.size) (hJ:JOk s) (h:SAt w b O A s) (j:intsL.In w Q x.regs [.slice rg x.regs.length rc]) (n:intsL.In w Q x.args [.slice ag x.args.length ac]) (ak:x.regs.length<=rc) (a4:x.regs.length<=6) (a0:x.args.length<=8) (an:0<=x.k/\x.k<s.m.length) :
 Calls prog 249 #[Pv b 0,Qd3 x rg ag rc ac] w fun e w'=>QO w b O A s (s.callS x) (s.callC x) e w':=by
 obtain⟨J,I,D,B,xk,M,a,f⟩:=x
 simp only at j n ak a4 a0 an
 have HJ:=Qa hJ;have H0:=Qa h;have HA:=Qa hA;have hL:=hJ.vals;have b1:=Zd w (.cells #[Iv J,Iv I,Iv D,Iv B,Iv xk,Iv M,.slice rg a.length rc,.slice ag f.length ac] 78);have H:=Qa (h.below b1);have HR:Hid (intsL.In _ Q a [.slice rg a.length rc]):=Ya j b1;have HG:Hid (intsL.In _ Q f [.slice ag f.length ac]):=Ya n b1;have HB:=Qa b1;have X1:Hid (Blk (w.alloc (.cells #[Iv J,Iv I,Iv D,Iv B,Iv xk,Iv M,.slice rg a.length rc,.slice ag f.length ac] 78)) w.heap.size #[Iv J,Iv I,Iv D,Iv B,Iv xk,Iv M,.slice rg a.length rc,.slice ag f.length ac] 78):=Blk.new _ _ _;clear h hA hJ b1 j n;obtain⟨k,rfl⟩:=Xc an.1
 have ap:k<s.m.length:=by omega
 have q:s.m[k]?=some s.m[k]:=Zg ap;generalize s.m[k]=g at q;have ay:Hid (g∈s.m):=Zm q
 have E:Hid (s.callC ⟨J,I,D,B,(k:Int),M,a,f⟩=Qv (Qcd s.H a g.regs) (Qv (s.handC f (g.params.map (Qaj a))) (QZ s.L.length g.results.length))):=by
  show _=_;unfold JSt.callC;simp only[Int.toNat_natCast,q]
 have ES:Hid (s.callS ⟨J,I,D,B,(k:Int),M,a,f⟩={ s with L:=s.L++g.results.map (Qaj a) }):=by
  show _=_;unfold JSt.callS;simp only[Int.toNat_natCast,q]
 have ax:=Qa (HJ.out.mod.2 g ay.out);have a7:Hid (¬ MFunc.great g):=fun hg=>HJ.out.tiny (.inr ⟨g,ay.out,hg⟩);have bk:Hid (∀ t∈g.params,t.count<=2000):=fun t ht=>Xo fun ad=>a7.out (.inr (.inl (.inr ⟨t,ht,ad⟩)));have bg:Hid (∀ t∈g.results,t.count<=2000):=fun t ht=>Xo fun ad=>a7.out (.inr (.inr (.inl (.inr ⟨t,ht,ad⟩))));have bh:Hid (∀ t∈s.L,t.count<=100000):=fun t ht=>Zt (Z0 (HJ.out.types t ht)) (by omega);have bb:(k:Int)<s.m.length:=by omega
 go_enter func249,ntmps249
 go_upto_region 1 with fail
 generalize w.alloc (.cells #[Iv J,Iv I,Iv D,Iv B,Iv (k:Int),Iv M,.slice rg a.length rc,.slice ag f.length ac] 78)=w1 at H HR HG HB X1 |-;obtain⟨X,hX⟩:∃ X,w.heap.size=X:=⟨_,Z⟩
 rw[hX] at X1 |-
 clear hX;have x4:=Qb X1.out 4 _ Z;have x6:=Qb X1.out 6 _ Z;have x7:=Qb X1.out 7 _ Z;obtain⟨pm,cm,hh,a1,c1,a2,c2,a3,c3,aL,cL,RR⟩:=H.out.read
 obtain⟨q0,-⟩:=RR.cells
 obtain⟨mg,mo,p1,d1,R,F,p3,d3,rfl,f0,f1,f2,f3,hP,aw⟩:=QdB RR.mod q
 have ae:Hid ((Qo 6).In w1 (fun g=>¬ A g) g.params [.slice p1 g.params.length d1]):=hP;have aj:Hid ((Qo 6).In w1 (fun g=>¬ A g) g.results [.slice R g.results.length F]):=aw;clear RR hP aw q an;generalize s.m.length=nm at q0 ap bb;generalize bi:g.regs=fr at f0 E;generalize am:g.params.length=S at f1 ae;have av:=Qa am;generalize ao:g.results.length=o at f2 aj E;have ba:=Qa ao;generalize g.blocks.length=n3 at f3;have bn:S<=8:=by rw[<-am];exact ax.out.params.1
 have bm:o<=8:=by rw[<-ao];exact ax.out.results.1
 clear am ao bi;refine jc1 q0 x4 f0 f1 f2 f3 bb _ _ Z (Xg (by kernel_rfl)) Z Z ?_;rintro ai vs w5 aa ⟨C,a6,hC,l⟩ b5;show wpList _ ai _ [_] (QM _ vs [5,6,7,8,9,10,11,12,13,4]) w5;simp only[QM,Act.put,List.setIfInBounds_toArray,List.set_cons_zero,List.set_cons_succ,aa,a6]
 have e0:=Qb l 0 _ Z;have e1:=Qb l 1 _ Z;have e2:=Qb l 2 _ Z;have e3:=Qb l 3 _ Z;have ef:∀ i,w5.frozen? ⟨C,i,none⟩=false:=fun i=>Qj l i
 have B6:Hid (Blk ((((w5.setCell ⟨C,0,none⟩ (Iv fr)).setCell ⟨C,1,none⟩ (.slice p1 S d1)).setCell ⟨C,2,none⟩ (.slice R o F)).setCell ⟨C,3,none⟩ (.slice p3 n3 d3)) C #[Iv fr,.slice p1 S d1,.slice R o F,.slice p3 n3 d3] 89):=by
  have h3:=Qh (Qh (Qh (Qh l 0 (Iv fr)) 1 (.slice p1 S d1)) 2 (.slice R o F)) 3 (.slice p3 n3 d3);exact h3
 have G:Hid (Below w1.heap.size w1 ((((w5.setCell ⟨C,0,none⟩ (Iv fr)).setCell ⟨C,1,none⟩ (.slice p1 S d1)).setCell ⟨C,2,none⟩ (.slice R o F)).setCell ⟨C,3,none⟩ (.slice p3 n3 d3))) :=
  (((b5.setCell (p:=⟨C,0,none⟩) hC _).setCell (p:=⟨C,1,none⟩) hC _).setCell (p:=⟨C,2,none⟩) hC _).setCell (p:=⟨C,3,none⟩) hC _
 clear l hC b5 aa a6 q0 f0 f1 f2 f3;go_upto_region 2 with fail
 generalize ((((w5.setCell ⟨C,0,none⟩ (Iv fr)).setCell ⟨C,1,none⟩ (.slice p1 S d1)).setCell ⟨C,2,none⟩ (.slice R o F)).setCell ⟨C,3,none⟩ (.slice p3 n3 d3))=w6 at B6 G |-;clear e0 e1 e2 e3 ef;obtain⟨e0,e1,e2,e3⟩:=QmD B6.out
 have x6:=Qk x6 G.out;have x7:=Qk x7 G.out;have H6:=Qa (H.out.below G.out);have P:=Qa (HB.out.trans (G.out.mono HB.out.size));have z:Hid (intsL.In w6 Q a [.slice rg a.length rc]):=Ya HR.out G.out;have al:Hid (intsL.In w6 Q f [.slice ag f.length ac]):=Ya HG.out G.out;have au:Hid ((Qo 6).In w6 (fun g=>¬ A g) g.params [.slice p1 S d1]):=Ya ae.out G.out;have a8:Hid ((Qo 6).In w6 (fun g=>¬ A g) g.results [.slice R o F]):=Ya aj.out G.out;clear H HB HR HG ae aj G B6 X1 x4;obtain⟨K,hK⟩:∃ K,a.length=K:=⟨_,Z⟩
 have HK:=Qa hK;rw[hK] at x6 z ak a4
 clear hK;obtain⟨N,hN⟩:∃ N,f.length=N:=⟨_,Z⟩
 have HN:=Qa hN;rw[hN] at x7 al a0
 clear hN;have CL:=Qa (QdZ fr HK.out (by omega) ak z.out H6.out);go_wp2_with fail
 refine CL.out.mono ?_;rintro e' w' ⟨hO,hw⟩;have hw:=hw.symm;subst hw;rcases hO with ⟨u,y,rfl,hy⟩|⟨u,rfl⟩
 rotate_left
 ·exact⟨Z,QO.bad (by rw[E.out,Ql u]) u (Yh H0.out P.out)⟩
 subst hy;have E2:Hid (s.callC ⟨J,I,D,B,(k:Int),M,a,f⟩=Qv (s.handC f (g.params.map (Qaj a))) (QZ s.L.length o)):=by show _=_;rw[E.out,Qx u]
 clear u CL E;go_upto_region 3 with fail
 refine jc3 x6 x7 e1 HK av (by omega) z (Qa (QU au.out).1) bk _ _ Z (Xg (by kernel_rfl)) Z Z Z ?_;rintro ai vs w7 ab W ⟨gP,V,bl,be⟩ b7;show wpList _ ai _ [_] (QM _ vs [20,21,22,23,24,25,26,27]) w7;simp only[QM,Act.put,List.setIfInBounds_toArray,List.set_cons_zero,List.set_cons_succ,ab,W,V]
 have H7:=Qa (H6.out.below b7);have T:=Qa (P.out.trans (b7.mono P.out.size))
 have CH:Hid (Calls prog 251 #[Pv b 0,.slice ag N ac,.slice (some ⟨gP,0,none⟩) S S] w7 fun e w'=>ZG (s.handC f (g.params.map (Qaj a))) VNone e/\Below w7.heap.size w7 w') :=
  QaH HN.out (by omega) (by rw[XN,av.out]) (by omega) (Ya al.out b7) be.lin hL bh.out (fun k hk=>Zl (HA.out k (H0.out.sub k hk)) T.out.size) H7.out
 have az:Hid ((Qo 6).In w7 (fun g=>¬ A g) g.results [.slice R o F]):=Ya a8.out b7;have ar:Hid (intsL.In w7 Q a [.slice rg K rc]):=Ya z.out b7;have bd:=Qk e2 b7;have aq:=Qk x6 b7;clear be bl b7 ab W V H6 P z al au a8 e0 e1 e2 e3 x6 x7;go_wp2_with fail
 refine CH.out.mono ?_;rintro e' w8 ⟨hO,b8⟩;have H8:=Qa (H7.out.below b8);have r:=Qa (T.out.trans (b8.mono T.out.size));rcases hO with ⟨u,y,rfl,hy⟩|⟨u,rfl⟩
 rotate_left
 ·exact⟨Z,QO.bad (by rw[E2.out,Ql u]) u (Yh H0.out r.out)⟩
 subst hy;have E3:Hid (s.callC ⟨J,I,D,B,(k:Int),M,a,f⟩=QZ s.L.length o):=by show _=_;rw[E2.out,Qx u]
 have ah:Hid ((Qo 6).In w8 (fun g=>¬ A g) g.results [.slice R o F]):=Ya az.out b8;have af:Hid (intsL.In w8 Q a [.slice rg K rc]):=Ya ar.out b8;have bf:=Qk bd b8;have a5:=Qk aq b8;clear u CH E2 b8 az ar bd aq H7 T;have CR:=Qa (QaW (d:=F) (c:=rc) HK.out ba.out (by omega) af.out (QU ah.out).1 bg.out);go_wp2_with fail
 refine CR.out.mono ?_;rintro e' w9 ⟨gR,rfl,bj,a9,b9⟩;have bc:=Qa (r.out.trans (b9.mono r.out.size))
 have CM:Hid (Calls prog 244 #[Pv b 0,.slice (some ⟨gR,0,none⟩) o o] w9 fun e w'=>QO w b O A s (s.callS ⟨J,I,D,B,(k:Int),M,a,f⟩) (s.callC ⟨J,I,D,B,(k:Int),M,a,f⟩) e w'):=by
  rw[ES.out,E3.out]
  have U:(g.results.map (Qaj a)).length=o:=by rw[XN,ba.out]
  refine(Qay U (by omega) (a9.types U (fun y hy=>?_) (fun k hk e=>?_)) hL (fun k hk=>Zl (HA.out k hk) bc.out.size) (H8.out.below b9)).mono (fun e w' hd=>hd.after bc.out)
  ·obtain⟨t,ht,rfl⟩:=List.mem_map.1 hy
   exact QlD (QiB af.out) ((QU ah.out).2 t ht)
  ·have h1:=HA.out k e;have h2:=r.out.size;omega
 clear a9 bj b9 CR ah af bf a5 H8 r E3;go_wp2_with fail
 refine CM.out.mono ?_;rintro e' bo hd;have FF:=Qa hd;rcases hd with ⟨h1,rfl,h3⟩|⟨h1,rfl,h3⟩
 rotate_left
 ·exact⟨Z,FF.out⟩
 clear h1 h3 CM;go_wp2
 exact Xz (v:=.tuple #[]) (by simp[results,results249,go_sem]) Z FF.out
def passC (H:List Bool) (kept:Int) (l:List Int) (asked:Int):Int:=if (l.length:Int)=asked then Qv (Qdj kept.toNat l) (hPass H [] l) else 2
theorem Qj8 (a:k<n) (h:l.getD k 0≠(k:Int)):Qdj n l=11:=by
 unfold Qdj;rw[Xr]
 intro e;rw[Xe] at e
 have:=e k (List.mem_range.2 a)
 exact h (by simpa using this)
theorem Qj1 (h:∀ k,k<n->l.getD k 0=(k:Int)):Qdj n l=0:=by
 unfold Qdj;rw[Xs]
 rw[Xe]
 intro k a;exact Xt (h k (List.mem_range.1 a))
theorem Qer {A:Nat->Prop}{s:JSt}(a:Int) (hN:l.length=N) (P:N<=100000) (hl:intsL.In w Q l [.slice p N c]) (F:0<=s.f.regs) (I:s.f.regs<=a) (h:SAt w b O A s) :
 Calls prog 275 #[Pv b 0,.slice p N c,Iv a] w fun e w'=>ZG (passC s.H s.f.regs l a) VNone e/\Below w.heap.size w w':=by
 have HL:=Qa hl;have J:=Qa hN;obtain⟨pm,cm,hh,a1,c1,a2,c2,a3,c3,aL,cL,R⟩:=h.read
 obtain⟨-,q1,q2,-⟩:=R.cells
 have HH:=Qa R.held;clear h hl hN R;by_cases n:(N:Int)=a
 rotate_left
 ·have u:((N:Int)==a)=false:=by simpa using n
  have E:Hid (passC s.H s.f.regs l a=2):=by show _=_;unfold passC;rw[J.out,Xr n]
  go_enter func275,ntmps275
  go_wp2_with fail
  refine(Zh _ 2).mono ?_
  rintro q w' ⟨rfl,d⟩;subst d;exact⟨Z,ZG.bad E.out (by decide),Zr⟩
 subst n;have u:((N:Int)==(N:Int))=true:=by simp
 obtain⟨M,L⟩:∃ M:Nat,s.f.regs=(M:Int):=Xc F
 have E:Hid (passC s.H s.f.regs l N=Qv (Qdj M l) (hPass s.H [] l)):=by show _=_;unfold passC;rw[J.out,Xs Z,L];rfl
 rw[L] at q2 I
 have ab:M<=N:=by omega
 have V:Hid (passC s.H s.f.regs l N=passC s.H s.f.regs l N):=rfl;clear F I V;generalize passC s.H s.f.regs l N=pc at E |-;clear L;go_enter func275,ntmps275
 go_wp2_with (go_at_call 268;refine(Zf _ _).mono ?_;rintro q w' ⟨rfl,d⟩;have d:=d.symm;subst d)
 go_loop [18] (fun i=>∃ k:Nat,k<=M/\i=Iv k/\∀ j,j<k->l.getD j 0=(j:Int)) (fun i=>M - (intOf i).toNat)
 case atStart=>exact⟨0,Xb _,Z,fun j hj=>by omega⟩
 case round =>
  obtain⟨k,hk,rfl,hz⟩:=hrel
  have U:=Qa hz;clear hz;by_cases z:k<M
  ·have D:(k:Int)<M:=by omega
   have aa:(k:Int)<N:=by omega
   have B:k<l.length:=by rw[J.out];omega
   obtain⟨g,o,rfl,-,hg,G⟩:=ZI HL.out B
   clear B;by_cases m:l.getD k 0=(k:Int)
   ·have HY:=Qa m;rw[m] at G
    have ac:((k:Int)==(k:Int))=true:=by simp
    clear m;go_wp2_with (go_at_call 268;refine(Zf _ _).mono ?_;rintro q w' ⟨rfl,d⟩;have d:=d.symm;subst d)
    go_round
    case rel =>
     refine⟨k+1,z,by go_num,fun j hj=>?_⟩
     rcases Nat.lt_or_ge j k with h | h
     ·exact U.out j h
     ·have:j=k:=by omega
      subst this;exact HY.out
    case measure=>simp[intOf];omega
   ·have x:Hid (pc=11):=by show _=_;rw[E.out,Qj8 z m];rfl
    have T:(l.getD k 0==(k:Int))=false:=by simpa using m
    generalize l.getD k 0=y at G m T;clear m;go_wp2_with fail
    refine(Zh _ 11).mono ?_
    rintro q w' ⟨rfl,d⟩;subst d;exact⟨Z,ZG.bad x.out (by decide),Zr⟩
  ·have D:¬ (k:Int)<M:=by omega
   have X:k=M:=by omega
   have x:Hid (pc=hPass s.H [] l):=by show _=_;rw[E.out,Qj1 (fun j hj=>U.out j (by omega))];rfl
   have C:=Qa (Qh5 J.out P HL.out HH.out);generalize hPass s.H [] l=K at x C;clear U X;by_cases r:K=0
   ·have S:(K==0)=true:=by simpa using r
    subst r;go_wp2_with (first | (go_at_call 286;refine(C.out).mono ?_;rintro q w2 ⟨rfl,t⟩;have W:=Qa t;clear t) | (go_at_call 268;refine(Zf _ _).mono ?_;rintro q w' ⟨rfl,d⟩;have d:=d.symm;subst d))
    exact Xz (v:=.tuple #[]) (by simp[results,results275,go_sem]) Z ⟨ZG.good x.out Z,W.out⟩
   ·have S:(K==0)=false:=by simpa using r
    have H0:=Qa r;clear r;go_wp2_with (go_at_call 286;refine(C.out).mono ?_;rintro q w2 ⟨rfl,t⟩;have W:=Qa t;clear t)
    refine(Zh _ K).mono ?_
    rintro q w' ⟨rfl,d⟩;subst d;exact⟨Z,ZG.bad x.out H0.out,W.out⟩
theorem Qgv {s:JSt}{r:Int}(f:∀ x∈regs,hHas s.H x=true) (g:(regs.length:Int)=r){t:TT 6}(d:t.check r=0):t.ren regs.length (fun i=>regs.getD i 0)=some (Qaj regs t):=by
 obtain⟨u,e,-⟩:=Qf8 (m:=regs.length) (too:=fun i=>regs.getD i 0) (a:=r) (b:=s.H.length) (by omega) (fun i c=>ZZ (f (regs.getD i 0) (by simp[List.getD,c]))) d
 unfold Qaj;rw[e]
 rfl
theorem QdA {s:JSt}{ts d:List (TT 6)}(a:d.length=ts.length) (h:∀ (i:Nat) t u,ts[i]?=some t->d[i]?=some u->t.ren regs.length (fun i=>regs.getD i 0)=some u):s.handC l d=s.args l ts regs:=by
 unfold JSt.handC JSt.args;rw[a]
 by_cases c:l.length=ts.length
 ·rw[Xs c,Xs c]
  refine QaV (by rw[List.length_zip,List.length_zip,a]) (fun i p q g f=>?_);rw[List.getElem?_zip_eq_some] at g f
  obtain⟨k,n⟩:=g
  obtain⟨b,m⟩:=f
  rw[k] at b
  injection b with b
  have j:=h i q.2 p.2 m n;show s.beC p.1 p.2=s.arg regs q.1 q.2;unfold JSt.beC JSt.arg;rw[<-b]
  cases s.at p.1 with
  | none=>rfl
  | some u =>
    show (if ZU (u=p.2) then (0:Int) else 9)=if ZU (q.2.ren regs.length (fun i=>regs.getD i 0)=some u) then 0 else 9
    rw[j]
    have:ZU (u=p.2)=ZU (some p.2=some u):=QfP (by rw[Qa6];exact⟨fun e=>by rw[e],fun e=>(Xn e).symm⟩)
    rw[this]
 ·rw[Xr c,Xr c]
theorem QeI {s:JSt}{ts:List (TT 6)}(h:∀ t∈ts,t.ren regs.length (fun i=>regs.getD i 0)=some (Qaj regs t)):s.handC l (ts.map (Qaj regs))=s.args l ts regs :=
 QdA (by rw[XN]) (fun i t u b a=>by
  rw[XS,b] at a
  injection a with a
  rw[<-a]
  exact h t (Zm b))
theorem Qgi {m:Nat}{too:Nat->Int}{a:Int}(e:a<=m) (c:∀ i,i<m->too i=(i:Int)):{n:Nat}->{t:TT n}->t.fault a=0->t.ren m too=some t
 | 0,t,_=>Empty.elim t
 | n+1,t,h=>by
   obtain⟨b,g⟩:=TT.fault_zero h
   have d:ZJ m too t.1 t.2.1=some t.2.1:=by
    unfold ownC at b;split at b
    ·cases b
    split at b
    ·cases b
    split at b
    ·cases b
    split at b
    ·cases b
    split at b
    ·cases b
    rename_i q r v u s
    by_cases j:t.1=1
    ·rw[ZJ,Xs j]
    ·have:=c t.2.1.toNat (by omega)
     rw[ZJ,Xr j,Xr (by omega),Xr (by omega),this]
     congr 1
     omega
   have o:ZS (TT.ren m too) t.2.2=some t.2.2:=by
    generalize t.2.2=l at g
    induction l with
    | nil=>rfl
    | cons x xs ih =>
      have k:=Qgi e c (g x (by simp));have f:=ih (fun y p=>g y (by simp[p]));simp[ZS,k,f]
   simp only[TT.ren,d,o]
   rfl
theorem Qfl {H:List Bool}:∀ {rest ahead:List Int},hPass H ahead rest=0->∀ x∈rest,hHas H x=true
 | [],ahead,h,x,a=>by cases a
 | r::rest,ahead,h,x,a=>by
   simp only[hPass] at h
   split at h
   ·rename_i b
    split at h
    ·cases h
    ·rcases List.mem_cons.1 a with rfl | a
     ·exact b
     ·exact Qfl h x a
   ·cases h
theorem Qm8 {s:JSt}{g:MBlock 6}{a:List Int}(e:s.f.blocks[k]?=some g) (i:∀ t∈g.params,t.check g.regs=0):s.to ⟨(k:Int),a,xs⟩=Qv (passC s.H s.f.regs a g.regs) (s.handC xs (g.params.map (Qaj a))):=by
 unfold JSt.to passC;simp only[Int.toNat_natCast,e]
 by_cases c:(a.length:Int)=g.regs
 ·rw[Xs c,Xs c]
  by_cases b:Qdj s.f.regs.toNat a=0
  ·rw[Qx b,Qx b]
   by_cases d:hPass s.H [] a=0
   ·rw[Qx d,Qx d,QeI (fun t h=>Qgv (s:=s) (Qfl d) c (i t h))]
   ·rw[Ql d,Ql d]
  ·rw[Ql b,Ql b];rw[Ql b]
 ·rw[Xr c,Xr c];rfl
theorem QmT {s:JSt}(d:s.f.regs=(n:Int)) (g:∀ t∈s.f.results,t.check s.f.regs=0):s.handC l s.f.results=s.args l s.f.results (QhC s.f.regs.toNat) :=
 QdA Z (fun i t u e b=>by
  rw[e] at b
  injection b with b
  rw[<-b,d,XT]
  have:=g t (Zm e)
  refine Qgi (a:=s.f.regs) (by rw[d];unfold QhC;simp) (fun i c=>?_) (QW.1 this).2;unfold QhC at c |-;simp at c
  simp[List.getD,c])
theorem QjM {A:Nat->Prop}{s:JSt}{x:Qt}(hA:∀ k,A k->k<w.heap.size) (N:JOk s) (h:SAt w b O A s) (o:intsL.In w Q x.regs [.slice rg x.regs.length rc]) (n:intsL.In w Q x.args [.slice ag x.args.length ac]) (D:x.regs.length<=rc) (F:ZF x) (hf:x.form s.m.length=0) (q:x.op=14) :
 Calls prog 212 #[Pv b 0,Qd3 x rg ag rc ac] w fun e w'=>QO w b O A s (s.next x) (s.goC x) e w':=by
 have V:=Qba (s:=s) q;obtain⟨op,i,f,d,p,j,a,c⟩:=x
 have q:op=14:=q;subst q;have HE:=Qa V;obtain⟨f1,T,f3,-⟩:=Q6 hf
 have C:=Qa (Xh f1 (Xh T f3));obtain⟨ra,rb,E⟩:=F
 have HI:=Qa (Xh ra (Xh rb E));have hL:=N.vals;have B:=Qa (Qgo hA N h o n D #[Iv 14,Iv i,Iv f,Iv d,Iv p,Iv j,.slice rg a.length rc,.slice ag c.length ac]);clear h hA N o n V hf f1 T f3 ra rb E D;go_enter func212,ntmps212
 go_upto_region 1 with fail
 generalize w.alloc (.cells #[Iv 14,Iv i,Iv f,Iv d,Iv p,Iv j,.slice rg a.length rc,.slice ag c.length ac] 78)=w1 at B |-;generalize w.heap.size=X at B |-;obtain⟨HJ,H0,aa,H,HR,HG,HB,HA,HO,X1,S⟩:=B.out
 clear B;obtain⟨x0,x1,x2,x3,x4,-,x6,x7⟩:=QX X1.out
 have K:Hid (∀ e z,QO w b O A s (s.callS ⟨14,i,f,d,p,j,a,c⟩) (s.callC ⟨14,i,f,d,p,j,a,c⟩) e z->QO w b O A s (s.next ⟨14,i,f,d,p,j,a,c⟩) (s.goC ⟨14,i,f,d,p,j,a,c⟩) e z):=fun e z I=>(by
  have hk:=C.out.2.1 Z;obtain⟨k,u⟩:=Xc hk.1
  have u:p=(k:Int):=u;subst u;have M:k<s.m.length:=by have:=hk.2.1;omega
  have l:s.m[k]?=some s.m[k]:=Zg M;generalize s.m[k]=g at l;have P:g∈s.m:=Zm l;have R:=HJ.out.mod.2 g P;have e1:s.callC ⟨14,i,f,d,(k:Int),j,a,c⟩=Qv (Qcd s.H a g.regs) (Qv (s.handC c (g.params.map (Qaj a))) (QZ s.L.length g.results.length)):=by unfold JSt.callC;simp only[Int.toNat_natCast,l]
  have W:s.makes ⟨14,i,f,d,(k:Int),j,a,c⟩=if (a.length:Int)=g.regs then (Qv (QL s.H [] a) (s.args c g.params a),g.results.map (Qaj a)) else (2,[]):=by rw[HE.out];simp only[Int.toNat_natCast,l]
  have J:s.goC ⟨14,i,f,d,(k:Int),j,a,c⟩=s.callC ⟨14,i,f,d,(k:Int),j,a,c⟩:=by
   rw[e1]
   unfold JSt.goC Qcd;rw[W]
   by_cases r:(a.length:Int)=g.regs
   ·rw[Xs r,Xs r]
    by_cases y:QL s.H [] a=0
    ·rw[QeI (fun t ht=>Qgv (s:=s) (ZC y) r (R.params.2 t ht)),Qx y,XN,Qx y]
    ·rw[Ql y,Ql y,Ql y]
   ·rw[Xr r,Xr r];rfl
  refine I.to J (fun G=>?_);rw[QT (by simp) (by simp),W]
  unfold JSt.callS;simp only[Int.toNat_natCast,l]
  rw[e1] at G
  unfold Qcd at G;by_cases r:(a.length:Int)=g.regs
  ·rw[Xs r]
  ·rw[Xr r] at G;cases G)
 have CM:=Qa (Qjs (x:=⟨14,i,f,d,p,j,a,c⟩) HA.out HJ.out H.out HR.out HG.out S.out (C.out.2.1 Z).2.2.1 (C.out.2.1 Z).2.2.2 ⟨(C.out.2.1 Z).1,(C.out.2.1 Z).2.1⟩);have x5:=Qb X1.out 5 _ Z;go_wp2_with fail
 refine CM.out.mono ?_;rintro e' z I;have U:Hid (QO w b O A s (s.next ⟨14,i,f,d,p,j,a,c⟩) (s.goC ⟨14,i,f,d,p,j,a,c⟩) e' z):=K.out _ _ (I.after HB.out);rcases I with ⟨h1,rfl,h3⟩|⟨h1,rfl,h3⟩
 rotate_left
 ·exact⟨Z,U.out⟩
 clear h1 h3 CM;go_wp2
 exact Xz (v:=.tuple #[]) (by simp[results,results212,go_sem]) Z U.out
theorem Qlm {A:Nat->Prop}{s:JSt}{x:Qt}(hA:∀ k,A k->k<w.heap.size) (hJ:JOk s) (h:SAt w b O A s) (f:intsL.In w Q x.regs [.slice rg x.regs.length rc]) (i:intsL.In w Q x.args [.slice ag x.args.length ac]) (V:x.regs.length<=rc) (U:ZF x) (hf:x.form s.m.length=0) (n:x.op=6) :
 Calls prog 212 #[Pv b 0,Qd3 x rg ag rc ac] w fun e w'=>QO w b O A s (s.next x) (s.goC x) e w':=by
 have hE:=Qdf (s:=s) n;obtain⟨op,a,y,q,xk,D,F,E⟩:=x
 have n:op=6:=n;subst n;have HE:=Qa hE;obtain⟨f1,f2,f3,-⟩:=Q6 hf
 have HF:=Qa (Xh f1 (Xh f2 f3));obtain⟨ra,rb,S⟩:=U
 have HI:=Qa (Xh ra (Xh rb S));have hL:=hJ.vals;have B:=Qa (Qgo hA hJ h f i V #[Iv 6,Iv a,Iv y,Iv q,Iv xk,Iv D,.slice rg F.length rc,.slice ag E.length ac]);clear h hA hJ f i hE hf f1 f2 f3 ra rb S V;go_enter func212,ntmps212
 go_upto_region 1 with fail
 generalize w.alloc (.cells #[Iv 6,Iv a,Iv y,Iv q,Iv xk,Iv D,.slice rg F.length rc,.slice ag E.length ac] 78)=w1 at B |-;generalize w.heap.size=X at B |-;obtain⟨HJ,H0,aj,H,HR,HG,HB,HA,HO,X1,ak⟩:=B.out
 clear B;obtain⟨x0,x1,x2,x3,x4,-,x6,x7⟩:=QX X1.out
 obtain⟨k,G⟩:=Xc (HF.out.1 (by simp)).1
 have G:xk=(k:Int):=G;subst G;have ai:k<=7:=by have:=(HF.out.1 (by simp)).2;simp only at this;omega
 have EG:Hid (s.goC ⟨6,a,y,q,(k:Int),D,F,E⟩=Qv (s.fieldC a k) (QZ s.L.length 1)):=by
  show _=_;unfold JSt.goC JSt.fieldC;rw[HE.out]
  simp only[Int.toNat_natCast]
  cases K:s.at a with
  | none=>unfold JSt.want;rw[K];rfl
  | some t =>
    simp only
    by_cases C:s.want a 3 true=0
    ·rw[Xs C,Qx C]
     by_cases j:k<t.2.2.length
     ·rw[Zg j,Xs j];rfl
     ·rw[Xk (by omega),Xr j];rfl
    ·rw[Xr C,Ql C];rw[Ql C,Ql C]
 have C1:=Qa (QdM a k (by omega) hL HO.out H.out);go_wp2_with fail
 refine(C1.out ).mono ?_
 rintro e' w2 ⟨hq,N⟩;have P:=Qa (HB.out.trans (N.mono HB.out.size));have H2:=Qa (H.out.below N);have aa:=Qa (fun k j=>Zl (HA.out k j) N.size);have ah:=Qa (fun k j=>Zl (HO.out k j) N.size);rcases hq with ⟨I,y2,rfl,hy⟩|⟨I,rfl⟩
 rotate_left
 ·exact⟨Z,QO.bad ((fun I=>by rw[EG.out,Ql I]) I) I (Yh H0.out P.out)⟩
 have W:=Qa I;clear I N C1;obtain⟨t,u,p,c,K,hu,rfl,T⟩:=hy
 have ab:=TT.height_lt u;have h5:u.height<=5:=by omega
 have R:t.check s.H.length=0:=HJ.out.types t (Qdw K).1
 have o:u.ok:=by
  obtain⟨pm,cm,hh,a1,c1,a2,c2,a3,c3,aL,cL,RR⟩:=H0.out.read
  obtain⟨-,hn,-,ae⟩:=Qdw K
  obtain⟨g,a',c',e,-,-,-,-,ad⟩:=RR.row _ t ae
  exact ad.2 u (Zm hu)
 have HS:Hid (s.next ⟨6,a,y,q,(k:Int),D,F,E⟩={ s with L:=s.L++[u.at 5] }):=by
  show _=_;rw[QT (by simp) (by simp),HE.out]
  have C:s.want a 3 true=0:=by
   have:=W.out
   unfold JSt.fieldC at this;exact(QD this).1
  simp only[Int.toNat_natCast,K,if_pos C,hu]
 have af:Hid (∀ e M,QO w b O A s { s with L:=s.L++[u.at 5] } (QZ s.L.length 1) e M->QO w b O A s (s.next ⟨6,a,y,q,(k:Int),D,F,E⟩) (s.goC ⟨6,a,y,q,(k:Int),D,F,E⟩) e M):=fun e M J=>J.to (by rw[EG.out,Qx W.out]) (fun _=>HS.out)
 have CM:Hid (∀ d,Calls prog 244 #[Pv b 0,.slice (some ⟨w2.heap.size,0,none⟩) 1 d] (w2.alloc (.cells #[Iv u.kind,Iv u.r,.slice p u.len c] 105)) fun e w'=>QO w2 b O A s { s with L:=s.L++[u.at 5] } (QZ s.L.length 1) e w'):=fun d=>by
  have b1:=Zd w2 (.cells #[Iv u.kind,Iv u.r,.slice p u.len c] 105);have z:=Qeq (t:=u.at 5) (p:=p) (c:=c) (d:=d) aa.out (TIn.at 5 h5 T) (TT.at_ok 5 o);rw[TT.at_kind,TT.at_r,TT.at_len 5 _ h5] at z
  exact(Qay (l:=[u.at 5]) Z (by simp) z hL (fun k j=>Zl (aa.out k j) b1.size) (H2.out.below b1)).mono (fun e w' J=>J.after b1)
 clear K hu T ab h5 R o HS EG;simp only[Tv]
 go_wp2_with fail
 refine(CM.out _).mono ?_
 rintro e' M J;have FF:Hid (QO w b O A s (s.next ⟨6,a,y,q,(k:Int),D,F,E⟩) (s.goC ⟨6,a,y,q,(k:Int),D,F,E⟩) e' M):=af.out _ _ (J.after P.out);rcases J with ⟨h1,rfl,h3⟩|⟨h1,rfl,h3⟩
 rotate_left
 ·exact⟨Z,FF.out⟩
 clear h1 h3 CM;go_wp2
 exact Xz (v:=.tuple #[]) (by simp[results,results212,go_sem]) Z FF.out
theorem QlB {A:Nat->Prop}{s:JSt}{x:Qt}(hA:∀ k,A k->k<w.heap.size) (hJ:JOk s) (h:SAt w b O A s) (i:intsL.In w Q x.regs [.slice rg x.regs.length rc]) (j:intsL.In w Q x.args [.slice ag x.args.length ac]) (T:x.regs.length<=rc) (S:ZF x) (hf:x.form s.m.length=0) (n:x.op=7) :
 Calls prog 212 #[Pv b 0,Qd3 x rg ag rc ac] w fun e w'=>QO w b O A s (s.next x) (s.goC x) e w':=by
 have hE:=QcP (s:=s) n;obtain⟨op,a,f,o,xk,F,I,G⟩:=x
 have n:op=7:=n;subst n;have HE:=Qa hE;obtain⟨f1,f2,f3,-⟩:=Q6 hf
 have HF:=Qa (Xh f1 (Xh f2 f3));obtain⟨ra,rb,P⟩:=S
 have HI:=Qa (Xh ra (Xh rb P));have hL:=hJ.vals;have B:=Qa (Qgo hA hJ h i j T #[Iv 7,Iv a,Iv f,Iv o,Iv xk,Iv F,.slice rg I.length rc,.slice ag G.length ac]);clear h hA hJ i j hE hf f1 f2 f3 ra rb P T;go_enter func212,ntmps212
 go_upto_region 1 with fail
 generalize w.alloc (.cells #[Iv 7,Iv a,Iv f,Iv o,Iv xk,Iv F,.slice rg I.length rc,.slice ag G.length ac] 78)=K at B |-;generalize w.heap.size=X at B |-;obtain⟨HJ,H0,ah,H,HR,HG,HB,HA,HO,X1,ai⟩:=B.out
 clear B;obtain⟨x0,x1,x2,x3,x4,-,x6,x7⟩:=QX X1.out
 obtain⟨k,z⟩:=Xc (HF.out.1 (by simp)).1
 have z:xk=(k:Int):=z;subst z;have ae:k<=7:=by have:=(HF.out.1 (by simp)).2;simp only at this;omega
 have EG:Hid (s.fieldC a k≠0->s.goC ⟨7,a,f,o,(k:Int),F,I,G⟩=s.fieldC a k):=fun d=>by
  unfold JSt.goC;rw[HE.out]
  unfold JSt.fieldC at d |-;simp only[Int.toNat_natCast]
  cases D:s.at a with
  | none=>unfold JSt.want;rw[D];rfl
  | some t =>
    rw[D] at d
    simp only at d |-
    by_cases E:s.want a 3 true=0
    ·rw[Qx E] at d |-
     rw[Xs E]
     by_cases U:k<t.2.2.length
     ·rw[Xs U] at d;exact absurd Z d
     ·rw[Xk (by omega),Xr U];rfl
    ·rw[Xr E,Ql E,Ql E]
 have ad:Hid (∀ t u,s.fieldC a k=0->s.at a=some t->t.2.2[k]?=some u->s.goC ⟨7,a,f,o,(k:Int),F,I,G⟩=s.beC f (u.at 5)/\s.next ⟨7,a,f,o,(k:Int),F,I,G⟩=s):=fun t u h0 D J=>by
  have E:s.want a 3 true=0:=by
   unfold JSt.fieldC at h0;exact(QD h0).1
  rw[QT (by simp) (by simp)]
  unfold JSt.goC JSt.beC;rw[HE.out]
  simp only[Int.toNat_natCast,D,if_pos E,J]
  cases s.at f with
  | none=>exact⟨Z,by simp⟩
  | some v =>
    simp only
    have e:ZU (u.at 5=v)=ZU (v=u.at 5):=QfP (by rw[Qa6];exact⟨fun e=>e.symm,fun e=>e.symm⟩);rw[e]
    cases ZU (v=u.at 5) with
    | true=>exact⟨by show Qv 0 (QZ s.L.length 0)=_;rw[Qbz hL];rfl,by simp⟩
    | false=>exact⟨Z,by simp⟩
 have aa:Hid (∀ t∈s.L,t.count<=100000):=fun t ht=>Zt (Z0 (HJ.out.types t ht)) (by omega);go_upto_region 17 with fail
 have BD:Hid (Below K.heap.size K K.drew):=Qb1 Zr;have C1:Hid (Calls prog 245 #[Pv b 0,Iv a,Iv k] K.drew fun e w'=>ZG (s.fieldC a k) (QnD w' A s a k) e/\Below K.drew.heap.size K.drew w'):=QdM a k (by omega) hL HO.out (H.out.below BD.out)
 have DM:Hid (∀ (u:TT 5) (p:Option Addr) (c:Nat) (q:World),TIn q (fun g=>¬ A g) u p->SAt q b O A s->(∀ k,O k->k<q.heap.size)->Calls prog 246 #[Pv b 0,Iv f,.agg #[Iv u.kind,Iv u.r,.slice p u.len c]] q fun e w'=>ZG (s.beC f (u.at 5)) VNone e/\Below q.heap.size q w'):=fun u p c q J hs ho=>by
  have h5:u.height<=5:=by have:=TT.height_lt u;omega
  have:=QcK (s:=s) f (t:=u.at 5) (p:=p) (c:=c) (TIn.at 5 h5 J) hL aa.out ho hs
  rw[show Tv (u.at 5) p c=.agg #[Iv u.kind,Iv u.r,.slice p u.len c] by simp only[Tv,TT.at_kind,TT.at_r,TT.at_len 5 _ h5]] at this
  exact this
 go_region_with (first
  | (go_at_call 245;refine(C1.out).mono ?_;rintro e' w2 ⟨W,N⟩;have y:=Qa (HB.out.trans ((Zx N).mono HB.out.size));rcases W with ⟨l,y2,rfl,t,u,p,c,D,J,rfl,R⟩|⟨l,rfl⟩;rotate_left;exact⟨Z,QO.bad (EG.out l) l (Yh H0.out y.out)⟩;have af:=Qk x2 (Zx N);have H2:=Qa (H.out.below (Zx N));have ab:=Qa (fun k U=>Zl (HO.out k U) (Zx N).size);have HU:=Qa R;have C:=Qa (ad.out t u l D J);clear R D J l N)
  | (go_at_call 246;refine(DM.out _ _ _ _ HU.out H2.out ab.out).mono ?_;rintro e' w3 ⟨W,b3⟩;have M:=Qa (y.out.trans (b3.mono y.out.size));rcases W with ⟨l,y3,rfl,hy⟩|⟨l,rfl⟩;rotate_left;exact⟨Z,QO.bad C.out.1 l (Yh H0.out M.out)⟩;subst hy;have V:=Qa l;clear l b3))
 all_goals
  have FF:Hid (QO w b O A s (s.next ⟨7,a,f,o,(k:Int),F,I,G⟩) (s.goC ⟨7,a,f,o,(k:Int),F,I,G⟩) (.returned (.tuple #[])) w3):=QO.none H0.out M.out (by rw[C.out.1,V.out]) C.out.2;go_wp2
  exact Xz (v:=.tuple #[]) (by simp[results,results212,go_sem]) Z FF.out
def QnO (w6:World) (b X mg mo nb cb k:Nat) (ds:List Value) (t:Tmp) (v:Value) (w:World):Prop :=
 match ([(4,fun v w=>∃ B,v=.pointer (some ⟨B,0,none⟩)/\w6.heap.size<=B/\∃ c,c.size=12/\Blk w B c 86)]:List (Tmp × (Value->World->Prop))).lookup t with
 | some p=>p v w
 | none=>v=(([(0,.pointer (some ⟨b,0,none⟩)),(3,.pointer (some ⟨X,0,none⟩)),(5,.pointer (some ⟨b,0,none⟩)),(6,.pointer (some ⟨b,0,none⟩)),(7,.pointer (some ⟨b,2,none⟩)),(8,.pointer (some ⟨b,5,none⟩)),(9,.slice (some ⟨mg,mo,none⟩) nb cb),(10,.pointer (some ⟨X,0,none⟩)),(11,.int .i64 (k:Int)),(12,.pointer (some ⟨mg,mo+k*12,none⟩)),(13,.agg ds.toArray)]:List (Tmp × Value)).lookup t).getD undef
theorem jt1 {o l u z:Nat}(J:w6.cell? ⟨b,5,none⟩=some (.slice (some ⟨o,l,none⟩) u z)) (E:w6.cell? ⟨X,0,none⟩=some (Iv (k:Int))) (G:Hid (w6.rangeAt o (l+k*12) ds)) (r:ds.length=12) (D:(k:Int)<u){Q:Exit->Act->World->Prop}
 (a:Act) (m:Nat) (I:a.tmps.size=m) (s:29<=m) (A:a.tmps.getD 0 undef=Pv b 0) (x:a.tmps.getD 3 undef=Pv X 0)
 (hend:∀ ops vs w',vs 13=.agg ds.toArray->(fun v w=>∃ B,v=Pv B 0/\w6.heap.size<=B/\∃ c,c.size=12/\Blk w B c 86) (vs 4) w'->Below w6.heap.size w6 w'->wpList prog ops Q (Qal 10 ((Tryz.f250.body.bind (Qi 1)).getD .skip)) (QM a vs [5,6,7,8,9,10,11,12,13,4]) w') :
 Code.wp prog ((Tryz.f250.body.bind (Qi 1)).getD .skip) Q a w6:=by
 conv=>arg 2;whnf
 refine Qg 10 (QnO w6 b X o l u z k ds) (fun w=>Below w6.heap.size w6 w) (fun w w'=>Below w.heap.size w w') (outs:=[0,3]) (gs:=[]) (bs:=[true,true,true,true,true,true,true,true,true,true]) (by kernel_rfl) (n:=29) I s (by kernel_rfl) (by kernel_rfl) ?hR ?hG (QI Zr 1) ⟨A,x,Y⟩ ?hA ?hend
 case hR =>
  intro t v w w' F h;unfold QnO at h |-;split at h
  ·rename_i p j
   simp only[List.lookup_cons,List.lookup_nil] at j
   split at j
   ·cases j;exact(by obtain⟨B,e,H,c,x,y⟩:=h;exact⟨B,e,H,c,x,(F.block B (XC y)).trans y⟩)
   ·cases j
  ·exact h
 case hG=>exact Y
 case hend=>exact fun ops vs w' d f=>hend ops vs w' (f 13 (by kernel_rfl)) (f 4 (by kernel_rfl)) d
 case hA =>
  repeat
   refine⟨fun a w d f K i=>?_,?_⟩
   focus first
    | obtain⟨g,-⟩:=f
      conv at g=>whnf;rhs;whnf
      have N:=Qk J d;have L:=Qk E d;go_simp;exact i _ _ Zr d Z
    | clear f
      go_simp;exact i _ _ (Zd _ _) (d.alloc d.size _) ⟨_,Z,d.size,_,Z,Qe _ _ _⟩
    | obtain⟨g,C,-⟩:=f
      conv at g=>whnf;rhs;whnf
      conv at C=>whnf;rhs;whnf
      go_simp;exact i _ _ Zr d Z
    | obtain⟨g,-⟩:=f
      conv at g=>whnf;rhs;whnf
      obtain⟨M,q⟩:=underBk
      refine wp_load_mid 86 (.tmp 12) Z o (l+k*12) g ds _ (Qad G.out d) q Z (by rw[r];exact sizeBk) ?_;exact i _ _ Zr d Z
  trivial
def QnN (w2:World) (b X C N ac n1 d1 Kn rc:Nat) (ag rg p1:Option Addr) (ps:List (TT 6)) (regs:List Int) (t:Tmp) (v:Value) (w:World):Prop :=
 match ([(27,fun v w=>∃ g,v=.slice (some ⟨g,0,none⟩) n1 n1/\w2.heap.size<=g/\Qcx w g n1 (ps.map (Qaj regs)))]:List (Tmp × (Value->World->Prop))).lookup t with
 | some p=>p v w
 | none=>v=(([(0,.pointer (some ⟨b,0,none⟩)),(3,.pointer (some ⟨X,0,none⟩)),(4,.pointer (some ⟨C,0,none⟩)),(20,.pointer (some ⟨b,0,none⟩)),(21,.pointer (some ⟨X,2,none⟩)),(22,.slice ag N ac),(23,.pointer (some ⟨C,1,none⟩)),(24,.slice p1 n1 d1),(25,.pointer (some ⟨X,1,none⟩)),(26,.slice rg Kn rc)]:List (Tmp × Value)).lookup t).getD undef
theorem jt3 {C d d1 j:Nat}{p1:Option Addr}{i:List (TT 6)}{R:Nat->Prop}(U:w2.cell? ⟨X,1,none⟩=some (.slice rg j rc)) (H:w2.cell? ⟨X,2,none⟩=some (.slice ag N ac)) (L:w2.cell? ⟨C,1,none⟩=some (.slice p1 d d1)) (T:Hid (regs.length=j)) (l:Hid (i.length=d)) (y:d<=1000) (G:Hid (intsL.In w2 Q regs [.slice rg j rc])) (A:Hid (LIn w2 R i p1)) (D:Hid (∀ x∈i,x.count<=2000)){Q:Exit->Act->World->Prop}
 (a:Act) (m:Nat) (S:a.tmps.size=m) (q:29<=m) (B:a.tmps.getD 0 undef=Pv b 0) (M:a.tmps.getD 3 undef=Pv X 0) (E:a.tmps.getD 4 undef=Pv C 0)
 (hend:∀ ops vs w',vs 22=.slice ag N ac->vs 20=Pv b 0->(fun v w=>∃ g,v=.slice (some ⟨g,0,none⟩) d d/\w2.heap.size<=g/\Qcx w g d (i.map (Qaj regs))) (vs 27) w'->Below w2.heap.size w2 w'->wpList prog ops Q (Qal 8 ((Tryz.f250.body.bind (Qi 3)).getD .skip)) (QM a vs [20,21,22,23,24,25,26,27]) w') :
 Code.wp prog ((Tryz.f250.body.bind (Qi 3)).getD .skip) Q a w2:=by
 conv=>arg 2;whnf
 refine Qg 8 (QnN w2 b X C N ac d d1 j rc ag rg p1 i regs) (fun w=>Below w2.heap.size w2 w) (fun w w'=>Below w.heap.size w w') (outs:=[0,3,4]) (gs:=[]) (bs:=[true,true,true,true,true,true,true,true]) (by kernel_rfl) (n:=29) S q (by kernel_rfl) (by kernel_rfl) ?hR ?hG (QI Zr 1) ⟨B,M,E,Y⟩ ?hA ?hend
 case hR =>
  intro t v w w' J h;unfold QnN at h |-;split at h
  ·rename_i p k
   simp only[List.lookup_cons,List.lookup_nil] at k
   split at k
   ·cases k;exact(by obtain⟨g,e,O,I⟩:=h;exact⟨g,e,O,I.below J⟩)
   ·cases k
  ·exact h
 case hG=>exact Y
 case hend=>exact fun ops vs w' c f=>hend ops vs w' (f 22 (by kernel_rfl)) (f 20 (by kernel_rfl)) (f 27 (by kernel_rfl)) c
 case hA =>
  iterate 7
   refine⟨fun a w c f K r=>?_,?_⟩
   ·obtain⟨s,-⟩:=f
    conv at s=>whnf;rhs;whnf
    have W:=Qk H c;have u1:=Qk L c;have u2:=Qk U c;go_simp;exact r _ _ Zr c Z
  refine⟨fun a w c f K r=>?_,?_⟩
  ·obtain⟨s,F,-⟩:=f
   conv at s=>whnf;rhs;whnf
   conv at F=>whnf;rhs;whnf
   go_simp;refine Xm (QaW T.out l.out y (Ya G.out c) (A.out.below c) D.out) ?_;rintro V w7 ⟨P,rfl,o,u,z⟩;go_simp;exact r _ _ z (c.trans (z.mono c.size)) ⟨P,Z,Zt c.size o,u⟩
  trivial
theorem Qb0 {A:Nat->Prop}{s:JSt}{x:MTo}(hJ:JOk s) (hO:∀ k,O k->k<w.heap.size) (h:SAt w b O A s) (i:intsL.In w Q x.regs [.slice rg x.regs.length rc]) (n:intsL.In w Q x.args [.slice ag x.args.length ac]) (ah:x.regs.length<=16) (a8:x.args.length<=8) (aq:0<=x.block/\x.block<s.f.blocks.length) :
 Calls prog 250 #[Pv b 0,toV x rg ag rc ac] w fun e w'=>ZG (s.to x) VNone e/\Below w.heap.size w w':=by
 have HJ:=Qa hJ;have HO:=Qa hO;have hL:=hJ.vals;obtain⟨xb,c,d⟩:=x
 simp only at i n ah a8 aq
 obtain⟨k,rfl⟩:=Xc aq.1
 have a0:k<s.f.blocks.length:=by omega
 have z:s.f.blocks[k]?=some s.f.blocks[k]:=Zg a0;generalize s.f.blocks[k]=g at z;have b1:=Zd w (.cells #[Iv (k:Int),.slice rg c.length rc,.slice ag d.length ac] 82);have W:=Qe w #[Iv (k:Int),.slice rg c.length rc,.slice ag d.length ac] 82;have K1:=Qa (h.below b1);have am:Hid (intsL.In (w.alloc (.cells #[Iv (k:Int),.slice rg c.length rc,.slice ag d.length ac] 82)) Q c [.slice rg c.length rc]):=Ya i b1;have ak:Hid (intsL.In (w.alloc (.cells #[Iv (k:Int),.slice rg c.length rc,.slice ag d.length ac] 82)) Q d [.slice ag d.length ac]):=Ya n b1;have I:=Qa b1;have q:=Qa W;clear h i n b1 W hJ hO;go_enter func250,ntmps250
 go_upto_region 1 with fail
 obtain⟨X,hX⟩:∃ X,w.heap.size=X:=⟨_,Z⟩
 generalize bo:w.alloc (.cells #[Iv (k:Int),.slice rg c.length rc,.slice ag d.length ac] 82)=w1 at K1 am ak I q |-;rw[hX] at q
 rw[hX]
 clear bo hX;have x0:=Qb q.out 0 _ Z;have x1:=Qb q.out 1 _ Z;have x2:=Qb q.out 2 _ Z;obtain⟨pm,cm,hh,a1,c1,a2,c2,a3,c3,aL,cL,R⟩:=K1.out.read
 obtain⟨-,-,-,-,-,q5,-⟩:=R.cells
 obtain⟨fa,fc,fb,fd,fe,ff,ba,-,-,au,-⟩:=Qar R.fn
 simp only[List.cons.injEq,Value.slice.injEq,and_true,true_and] at ba
 obtain⟨-,-,rfl,rfl⟩:=ba
 obtain⟨mg,mo,l,m,u,rfl,p,be,af,ae⟩:=Qbm au z
 have ay:=Qa p;have an:Hid ((Qo 6).In w1 (fun g=>¬ A g) g.params [.slice l g.params.length m]):=af;have ao:Hid (u.length=10):=be;have aa:=Qa ae;have bg:(k:Int)<s.f.blocks.length:=by omega
 have aw:=Qa (HJ.out.mod.2 s.f HJ.out.fn);have a4:Hid (g∈s.f.blocks):=Zm z;have F:=Qa (aw.out.blocks g a4.out);have bc:Hid (¬ MBlock.great g):=fun hg=>HJ.out.tiny (.inr ⟨s.f,HJ.out.fn,.inr (.inr (.inr ⟨g,a4.out,hg⟩))⟩);have br:Hid (∀ t∈g.params,t.count<=2000):=fun t ht=>Xo fun bl=>bc.out (.inr (.inl (.inr ⟨t,ht,bl⟩)));have bm:Hid (∀ t∈s.L,t.count<=100000):=fun t ht=>Zt (Z0 (HJ.out.types t ht)) (by omega);have E:Hid (s.to ⟨(k:Int),c,d⟩=Qv (passC s.H s.f.regs c g.regs) (s.handC d (g.params.map (Qaj c)))):=Qm8 z F.out.params.2;clear R au p af ae be z aq;generalize bv:s.f.blocks.length=nb at q5 a0 bg;refine jt1 q5 x0 ay (by simp[ao.out]) bg _ _ Z (Xg (by kernel_rfl)) Z Z ?_;rintro bp vs o ad ⟨B,av,hB,cB,a7,K⟩ b5;show wpList _ bp _ [_] (QM _ vs [5,6,7,8,9,10,11,12,13,4]) o;simp only[QM,Act.put,List.setIfInBounds_toArray,List.set_cons_zero,List.set_cons_succ,ad,av]
 have a:(Value.int .i64 g.regs::Value.slice l g.params.length m::u).length=12:=by simp[ao.out]
 have TH:Hid (o.there B 0 (Value.int .i64 g.regs::Value.slice l g.params.length m::u).toArray.size):=by
  intro j hj;rw[List.size_toArray,a] at hj
  rw[XK]
  refine⟨?_,Qj K j⟩
  rw[Qb K j cB[j] (by simp)];rfl
 have TS:Hid ((prog.info? 86).map (·.size)=some (Value.int .i64 g.regs::Value.slice l g.params.length m::u).toArray.size):=by show _=_;rw[List.size_toArray,a];exact sizeBk
 have TO:Hid ((Value.int .i64 g.regs::Value.slice l g.params.length m::u).toArray.all (·.oneCell')=true):=by
  refine all_oneCell_toArray fun v hv=>?_;simp only[List.mem_cons] at hv
  rcases hv with rfl | rfl | hv
  ·rfl
  ·rfl
  ·exact aa.out v hv
 have B6:Hid (Blk (o.setCells B 0 (Value.int .i64 g.regs::Value.slice l g.params.length m::u).toArray.toList) B (Value.int .i64 g.regs::Value.slice l g.params.length m::u).toArray 86):=by
  have h0:Blk o B ([]++cB.toList).toArray 86:=by rw[List.nil_append,Array.toArray_toList];exact K
  have:=Blk.sets (Value.int .i64 g.regs::Value.slice l g.params.length m::u) [] cB.toList o (by rw[a];simp[a7]) h0
  exact this
 have C:Hid (Below w1.heap.size w1 (o.setCells B 0 (Value.int .i64 g.regs::Value.slice l g.params.length m::u).toArray.toList)):=by
  have:=Qz.setCells (O:=fun k=>k=B) (O':=fun k=>k=B) (b:=B) Z (Value.int .i64 g.regs::Value.slice l g.params.length m::u).toArray.toList 0 _ (Qz.refl _ o)
  exact b5.trans (this.below b5.size (fun k hk=>by omega))
 clear K hB a7 b5 ad av a;generalize bj:g.regs=gr at E F B6 C TH TS TO |-;have bn:Hid (g.regs=gr):=bj;generalize ar:g.params.length=P at an B6 C TH TS TO |-;have az:Hid (g.params.length=P):=ar;have bu:P<=8:=by rw[<-ar];exact F.out.params.1
 have y0:(o.setCells B 0 (Value.int .i64 gr::Value.slice l P m::u).toArray.toList).cell? ⟨B,0,none⟩=some (Iv gr):=Qb B6.out 0 _ Z;have y1:(o.setCells B 0 (Value.int .i64 gr::Value.slice l P m::u).toArray.toList).cell? ⟨B,1,none⟩=some (.slice l P m):=Qb B6.out 1 _ Z;generalize bq:(Value.int .i64 gr::Value.slice l P m::u).toArray=r at B6 C TH TS TO y0 y1 |-;have K6:=Qa (K1.out.below C.out);have D:Hid (intsL.In (o.setCells B 0 r.toList) Q c [.slice rg c.length rc]):=Ya am.out C.out;have J:Hid (intsL.In (o.setCells B 0 r.toList) Q d [.slice ag d.length ac]):=Ya ak.out C.out;have aj:Hid ((Qo 6).In (o.setCells B 0 r.toList) (fun g=>¬ A g) g.params [.slice l P m]):=Ya an.out C.out;have BW:Hid (Below w.heap.size w (o.setCells B 0 r.toList)):=I.out.trans (C.out.mono I.out.size);have bk:Hid (s.f.regs<=gr):=by have:=F.out.regs.1;rw[bn.out] at this;exact this
 have G:=Qk x1 C.out;have S:=Qk x2 C.out;clear bj ar bq K1 am ak an I C B6 q5 x0 x1 x2 ao aa bc q ay;go_upto_region 2 with (refine wpList_store_mid Z 86 (.tmp 4) (.tmp 13) Z B 0 r Z Z TH.out TS.out TO.out ?_)
 clear TH TS TO;generalize o.setCells B 0 r.toList=w6 at K6 D J aj BW G S y0 y1 |-;obtain⟨Kn,ap⟩:∃ Kn,c.length=Kn:=⟨_,Z⟩
 have HK:=Qa ap;rw[ap] at G D ah
 clear ap;obtain⟨N,hN⟩:∃ N,d.length=N:=⟨_,Z⟩
 have HN:=Qa hN;rw[hN] at S J a8
 clear hN;have CP:=Qa (Qer gr HK.out (by omega) D.out aw.out.regs.1 bk.out K6.out);go_wp2_with fail
 refine CP.out.mono ?_;rintro e' w7 ⟨hO,M⟩;have U:=Qa (BW.out.trans (M.mono BW.out.size));rcases hO with ⟨T,y,rfl,hy⟩|⟨T,rfl⟩
 rotate_left
 ·exact⟨Z,.inr ⟨by rw[E.out,Ql T];exact T,by rw[E.out,Ql T]⟩,U.out⟩
 subst hy;have E2:Hid (s.to ⟨(k:Int),c,d⟩=s.handC d (g.params.map (Qaj c))):=by show _=_;rw[E.out,Qx T]
 have K7:=Qa (K6.out.below M);have ax:Hid (intsL.In w7 Q c [.slice rg Kn rc]):=Ya D.out M;have bh:Hid (intsL.In w7 Q d [.slice ag N ac]):=Ya J.out M;have bb:=Qa (QU (Ya aj.out M)).1;have a6:=Qk G M;have bf:=Qk S M;have a9:=Qk y1 M;clear T CP E M K6 D J aj G S y0 y1 BW;go_upto_region 3 with fail
 refine jt3 a6 bf a9 HK az (by omega) ax bb br _ _ Z (Xg (by kernel_rfl)) Z Z Z ?_;rintro a5 bs w8 ai ab ⟨gP,V,bt,bi⟩ b8;show wpList _ a5 _ [_] (QM _ bs [20,21,22,23,24,25,26,27]) w8;simp only[QM,Act.put,List.setIfInBounds_toArray,List.set_cons_zero,List.set_cons_succ,ai,ab,V]
 have al:=Qa (U.out.trans (b8.mono U.out.size))
 have CH:Hid (Calls prog 251 #[Pv b 0,.slice ag N ac,.slice (some ⟨gP,0,none⟩) P P] w8 fun e w'=>ZG (s.handC d (g.params.map (Qaj c))) VNone e/\Below w8.heap.size w8 w') :=
  QaH HN.out (by omega) (by rw[XN,az.out]) (by omega) (Ya bh.out b8) bi.lin hL bm.out (fun k hk=>Zl (HO.out k hk) al.out.size) (K7.out.below b8)
 clear bi bt b8 ai ab V K7 ax bh bb a6 bf a9 U;go_wp2_with fail
 refine CH.out.mono ?_;rintro e' w9 ⟨hO,b9⟩;have bd:=Qa (al.out.trans (b9.mono al.out.size));have FF:Hid (ZG (s.to ⟨(k:Int),c,d⟩) VNone e'):=by show ZG _ _ _;rw[E2.out];exact hO
 rcases hO with ⟨T,y,rfl,hy⟩|⟨T,rfl⟩
 rotate_left
 ·exact⟨Z,FF.out,bd.out⟩
 subst hy;clear T CH E2 b9;go_wp2
 exact Xz (v:=.tuple #[]) (by simp[results,results250,go_sem]) Z ⟨FF.out,bd.out⟩
theorem Xv:type_of% @of_decide_eq_true:=@of_decide_eq_true
def Qjr (H:List Bool) (regs:Int):Int:=if (Qak H).all (fun r=>decide (r<regs)) then 0 else 12
theorem Qhd {A:Nat->Prop}{s:JSt}(r:Int) (n:w.cell? ⟨B,0,none⟩=some (Pv b 0)) (h:SAt w b O A s) :
 Calls prog 276 #[Iv r,Pv B 0] w fun e w'=>e=.returned (.bool (decide (r>=s.f.regs)))/\w'=w:=by
 obtain⟨p,j,g,o,q,t,d,k,c,m,i,R⟩:=h.read
 obtain⟨-,-,a,-⟩:=R.cells
 clear R h;generalize s.f.regs=l at a |-;go_enter func276,ntmps276
 go_wp2
 go_ret;exact⟨Z,Z⟩
theorem enters_left1:Qah 276:=fun _ _=>by kernel_rfl
theorem QfM {A:Nat->Prop}{s:JSt}(H:l.length=N) (S:N<=100000) (L:intsL.In w Q l [.slice p N c]) (F:w.cell? ⟨B,0,none⟩=some (Pv b 0)) (h:SAt w b O A s) :
 Calls prog 287 #[.slice p N c,.func (.func 276) #[] #[Pv B 0]] w fun e w'=>(∃ i:Int,e=.returned (Iv i)/\(0<=i↔∃ x∈l,s.f.regs<=x))/\w'=w:=by
 have T:=Qa L;have G:=Qa H;have C:=Qa (fun r=>Qhd r F h);have R:=enters_left1;unfold Qah at R;clear L H h F;generalize s.f.regs=u at C |-;go_enter func287,ntmps287
 go_wp2
 go_loop [8] (fun i=>∃ k:Nat,k<=N/\i=Iv k/\∀ (j:Nat) (y:Int),j<k->l[j]?=some y->y<u) (fun i=>N - (intOf i).toNat)
 case atStart=>exact⟨0,Xb _,Z,fun j y z=>by omega⟩
 case round =>
  obtain⟨k,W,rfl,I⟩:=hrel
  have K:=Qa I;clear I;by_cases q:k<N
  ·have t:(k:Int)<N:=by omega
   have d:k<l.length:=by rw[G.out];exact q
   obtain⟨g,o,rfl,-,X,E⟩:=ZI T.out d
   obtain⟨y,n⟩:∃ y,l[k]?=some y:=⟨_,Zg d⟩
   rw[show l.getD k 0=y by rw[List.getD_eq_getElem?_getD,n];rfl] at E
   have J:=Qa n;have v:=Qa (C.out y);clear n d;by_cases a:u<=y
   ·rw[show decide (y>=u)=true from Xt a] at v
    have P:Hid (∃ x∈l,u<=x):=⟨y,Zm J.out,a⟩;clear a;go_wp2_with (go_at_call 276;refine(v.out).mono ?_;rintro e w' ⟨rfl,m⟩;have m:=m.symm;subst m)
    go_ret;exact⟨⟨k,Z,by simp only[P.out,iff_true];omega⟩,Z⟩
   ·rw[show decide (y>=u)=false from Xu a] at v
    have D:=Qa (Int.not_le.1 a);clear a;go_wp2_with (go_at_call 276;refine(v.out).mono ?_;rintro e w' ⟨rfl,m⟩;have m:=m.symm;subst m)
    go_round
    case rel =>
     refine⟨k+1,q,by go_num,fun j U z n=>?_⟩
     rcases Nat.lt_or_ge j k with h | h
     ·exact K.out j U h n
     ·have:j=k:=by omega
      subst this;have e:=J.out.symm.trans n;injection e with e
      subst e;exact D.out
    case measure=>simp[intOf];omega
  ·have t:¬ (k:Int)<N:=by omega
   go_wp2
   go_ret;refine⟨⟨-1,Z,by omega,fun hm=>?_⟩,Z⟩
   obtain⟨x,M,V⟩:=hm
   obtain⟨j,z,e⟩:=List.mem_iff_getElem.1 M
   have:=K.out j x (by have:=G.out;omega) (by rw[Zg z,e])
   omega
theorem Qdq {A:Nat->Prop}{s:JSt}(n:l.length=N) (g:N<=100000) (k:intsL.In w Q l [.slice p N c]) (m:w.cell? ⟨B,0,none⟩=some (Pv b 0)) (h:SAt w b O A s) :
 Calls prog 277 #[.slice p N c,.func (.func 276) #[] #[Pv B 0]] w fun e w'=>e=.returned (.bool (!(l.all (fun r=>decide (r<s.f.regs)))))/\w'=w:=by
 have C:=Qa (QfM n g k m h);clear k n h m;go_enter func277,ntmps277
 go_wp2_with fail
 refine C.out.mono ?_;rintro e w' ⟨⟨i,rfl,j⟩,a⟩;have a:=a.symm;subst a
 have E:Hid ((!(l.all (fun r=>decide (r<s.f.regs))))=decide (i>=0)):=by
  show _=_;rw[Bool.eq_iff_iff]
  simp only[Bool.not_eq_true',decide_eq_true_eq,ge_iff_le,j]
  rw[<-Bool.not_eq_true,Xe]
  constructor
  ·intro h;exact Classical.byContradiction fun q=>h (fun x d=>Xt (Int.not_le.1 (fun o=>q ⟨x,d,o⟩)))
  ·rintro ⟨x,d,t⟩ h
   have:=Xv (h x d)
   omega
 clear C j;go_wp2
 go_ret;exact⟨by rw[E.out];rfl,Z⟩
theorem Qg9 {A:Nat->Prop}{s:JSt}(V:s.H.length<=16) (h:SAt w b O A s) :
 Calls prog 252 #[Pv b 0] w fun e w'=>ZG (Qjr s.H s.f.regs) VNone e/\Below w.heap.size w w':=by
 have z:∀ (fn:Fn) (first cap:Array Value) (w:World),(Instr.makeFunc fn first cap).run prog w=.ok (.func fn first cap) w:=fun _ _ _ _=>rfl;have t:=Zd w (.cells #[Pv b 0] 234);have H:=Qa (h.below t);have o:=Qa t;have j:=Qe w #[Pv b 0] 234;have k:=Qb j 0 _ Z;obtain⟨L,K,F,W,J,M,Q,G,P,I,S,R⟩:=H.out.read
 obtain⟨-,y,-⟩:=R.cells
 have u:=Qa (Qjv R.held);clear R h t j;go_enter func252,ntmps252
 go_upto_region 1 with fail
 generalize w.alloc (.cells #[Pv b 0] 234)=w1 at H o k y u |-;obtain⟨X,j⟩:∃ X,w.heap.size=X:=⟨_,Z⟩
 rw[j] at k |-
 rw[<-j]
 have p:=Qa j;go_wp2_with fail
 refine u.out.mono ?_;rintro C U ⟨a,c,rfl,g,l⟩;have D:=Qa (H.out.below l);have m:=Qa (o.out.trans (l.mono o.out.size));have x:=Qa (Qdq Z (by have:=QhU s.H;omega) g (Qk k l) D.out);have T:=Qk k l;clear g l u k y;generalize (Qak s.H).length=N at x |-;have E:Hid (Qjr s.H s.f.regs=if (Qak s.H).all (fun r=>decide (r<s.f.regs)) then 0 else 12):=rfl;generalize (Qak s.H).all (fun r=>decide (r<s.f.regs))=q at x E;rw[p.out]
 go_wp2_with (go_at_call 277;refine(x.out).mono ?_;rintro e w' ⟨rfl,i⟩;have i:=i.symm;subst i)
 refine(QbN _ _ _).mono ?_
 rintro C w' ⟨i,⟨n,rfl⟩|⟨n,rfl⟩⟩
 rotate_left
 ·exact⟨Z,ZG.bad (d:=12) (by rw[E.out,show q=false by simpa using n];rfl) (by decide),by rw[i];exact m.out⟩
 have i:=i.symm;subst i;have B:Hid (Qjr s.H s.f.regs=0):=by show _=_;rw[E.out,show q=true by simpa using n];rfl
 clear n;go_wp2
 exact Xz (v:=.tuple #[]) (by simp[results,results252,go_sem]) Z ⟨ZG.good B.out Z,m.out⟩
structure EnT (w wc:World) (b X:Nat) (O A Q:Nat->Prop) (s:JSt) (x:ZA) (e:EP):Prop where
 st:SAt wc b O A s
 box:Blk wc X (QbW x e) 84
 lists:Qdn wc Q x e
 bel:Below w.heap.size w wc
theorem EnT.below {wc:World}{A:Nat->Prop}{s:JSt}{x:ZA}{e:EP}(h:EnT w wc b X O A Q s x e) (k:Below wc.heap.size wc w'):EnT w w' b X O A Q s x e :=
 ⟨h.st.below k,(k.block X (XC h.box)).trans h.box,h.lists.below k,h.bel.trans (k.mono h.bel.size)⟩
theorem EnT.cells {wc:World}{A:Nat->Prop}{s:JSt}{x:ZA}{e:EP}(h:EnT w wc b X O A Q s x e):wc.cell? ⟨X,0,none⟩=some (Iv x.op)/\wc.cell? ⟨X,1,none⟩=some (Iv x.a)/\wc.cell? ⟨X,2,none⟩=some (Iv x.yes.block)/\wc.cell? ⟨X,3,none⟩=some (.slice e.pYR x.yes.regs.length e.cYR)/\wc.cell? ⟨X,4,none⟩=some (.slice e.pYA x.yes.args.length e.cYA)/\wc.cell? ⟨X,5,none⟩=some (Iv x.no.block)/\wc.cell? ⟨X,6,none⟩=some (.slice e.pNR x.no.regs.length e.cNR)/\wc.cell? ⟨X,7,none⟩=some (.slice e.pNA x.no.args.length e.cNA)/\wc.cell? ⟨X,8,none⟩=some (.slice e.pA x.args.length e.cA) :=
 ⟨Qb h.box 0 _ Z,Qb h.box 1 _ Z,Qb h.box 2 _ Z,Qb h.box 3 _ Z,Qb h.box 4 _ Z,Qb h.box 5 _ Z,Qb h.box 6 _ Z,Qb h.box 7 _ Z,Qb h.box 8 _ Z⟩
theorem QjW {A:Nat->Prop}{s:JSt}{x:ZA}{e:EP}(hJ:JOk s) (hO:∀ k,O k->k<w.heap.size) (h:SAt w b O A s) (hx:Qdn w Q x e) (J:-9223372036854775808<=x.a/\x.a<=9223372036854775807) (hf:x.form s.f.blocks.length=0) :
 Calls prog 214 #[Pv b 0,.agg (QbW x e)] w fun r w'=>ZG (s.fin x) VNone r/\Below w.heap.size w w':=by
 have C:=Qa hJ;have T:=Qa hO;have hL:=hJ.vals;have b1:=Zd w (.cells (QbW x e) 84);have S0:Hid (EnT w (w.alloc (.cells (QbW x e) 84)) b w.heap.size O A Q s x e):=⟨h.below b1,Qe w _ _,hx.below b1,b1⟩;have q:=Qa (C.out.mod.2 s.f C.out.fn);have K:=Qa (QkA q.out.many.2 hf);have ad:=Qa J;have aa:Hid (∀ t∈s.L,t.count<=100000):=fun t ht=>Zt (Z0 (C.out.types t ht)) (by omega);have E1:s.fin x=if x.op=1 then s.to x.yes else if x.op=2 then Qv (s.want x.a 1 false) (Qv (s.to x.yes) (s.to x.no)) else Qv (s.args x.args s.f.results (QhC s.f.regs.toNat)) (if (Qak s.H).all (fun r=>decide (r<s.f.regs)) then 0 else 12):=by rw[JSt.fin,Xr (by rw[hf];simp)]
 have i:=Qa E1;clear h hx b1 hJ hO J hf E1;go_enter func214,ntmps214
 go_upto_region 1 with fail
 obtain⟨X,hX⟩:∃ X,w.heap.size=X:=⟨_,Z⟩
 unfold QbW at S0;generalize ac:w.alloc (.cells #[Iv x.op,Iv x.a,Iv x.yes.block,.slice e.pYR x.yes.regs.length e.cYR,.slice e.pYA x.yes.args.length e.cYA,Iv x.no.block,.slice e.pNR x.no.regs.length e.cNR,.slice e.pNA x.no.args.length e.cNA,.slice e.pA x.args.length e.cA] 84)=w1 at S0 |-;have S:Hid (EnT w w1 b X O A Q s x e):=by rw[<-hX];exact S0.out
 rw[hX]
 clear ac hX S0;obtain⟨F,x1,x2,x3,x4,x5,V,W,P⟩:=S.out.cells
 rcases K.out.1 with g | g | g
 ·have j:Hid (s.fin x=s.to x.yes):=by show _=_;rw[i.out,Xs g]
  have D:Hid (x.yes.form s.f.blocks.length true=0):=by have:=K.out.2.2.2.2.1;rw[g] at this;exact this
  rw[g] at F
  clear i;go_wp2_with fail
  refine(Qb0 (x:=x.yes) C.out (fun k u=>Zl (T.out k u) S.out.bel.size) S.out.st S.out.lists.yr S.out.lists.ya (QaD D.out).2.1 (QaD D.out).2.2 (QaD D.out).1).mono ?_
  rintro e9 w9 ⟨m,o⟩;have l:=Qa (S.out.below o);rcases m with ⟨c,y,rfl,p⟩|⟨c,rfl⟩
  rotate_left
  ·exact⟨Z,.inr ⟨by rw[j.out];exact c,by rw[j.out]⟩,l.out.bel⟩
  subst p;have G:Hid (s.fin x=0):=by show _=_;rw[j.out];exact c
  clear c o;go_wp2
  exact Xz (v:=.tuple #[]) (by simp[results,results214,go_sem]) Z ⟨ZG.good G.out Z,l.out.bel⟩
 ·have j:Hid (s.fin x=Qv (s.want x.a 1 false) (Qv (s.to x.yes) (s.to x.no))):=by show _=_;rw[i.out,Xr (by omega),Xs g]
  have D:Hid (x.yes.form s.f.blocks.length true=0):=by have:=K.out.2.2.2.2.1;rw[g] at this;exact this
  have h2:Hid (x.no.form s.f.blocks.length true=0):=by have:=K.out.2.2.2.2.2;rw[g] at this;exact this
  rw[g] at F
  have CI:=Qa (fun d=>QbI x.a ad.out d hL (fun k u=>Zl (T.out k u) S.out.bel.size) S.out.st);clear i;go_wp2_with fail
  refine(CI.out _).mono ?_
  rintro e8 w8 ⟨m,N⟩;have E:=Qa (S.out.below N);rcases m with ⟨c,y,rfl,p⟩|⟨c,rfl⟩
  rotate_left
  ·exact⟨Z,.inr ⟨by rw[j.out,Ql c];exact c,by rw[j.out,Ql c]⟩,E.out.bel⟩
  subst p;have B:Hid (s.fin x=Qv (s.to x.yes) (s.to x.no)):=by show _=_;rw[j.out,Qx c]
  clear c N j S CI;have S:=E;clear E F x1 x2 x3 x4 x5 V W P;obtain⟨F,x1,x2,x3,x4,x5,V,W,P⟩:=S.out.cells
  go_wp2_with fail
  refine(Qb0 (x:=x.yes) C.out (fun k u=>Zl (T.out k u) S.out.bel.size) S.out.st S.out.lists.yr S.out.lists.ya (QaD D.out).2.1 (QaD D.out).2.2 (QaD D.out).1).mono ?_
  rintro e9 w9 ⟨m,o⟩;have l:=Qa (S.out.below o);rcases m with ⟨c,y,rfl,p⟩|⟨c,rfl⟩
  rotate_left
  ·exact⟨Z,.inr ⟨by rw[B.out,Ql c];exact c,by rw[B.out,Ql c]⟩,l.out.bel⟩
  subst p;have E4:Hid (s.fin x=s.to x.no):=by show _=_;rw[B.out,Qx c]
  clear c o B S;have S:=l;clear l F x1 x2 x3 x4 x5 V W P;obtain⟨F,x1,x2,x3,x4,x5,V,W,P⟩:=S.out.cells
  go_wp2_with fail
  refine(Qb0 (x:=x.no) C.out (fun k u=>Zl (T.out k u) S.out.bel.size) S.out.st S.out.lists.nr S.out.lists.na (QaD h2.out).2.1 (QaD h2.out).2.2 (QaD h2.out).1).mono ?_
  rintro e9 w9 ⟨m,o⟩;have l:=Qa (S.out.below o);rcases m with ⟨c,y,rfl,p⟩|⟨c,rfl⟩
  rotate_left
  ·exact⟨Z,.inr ⟨by rw[E4.out];exact c,by rw[E4.out]⟩,l.out.bel⟩
  subst p;have G:Hid (s.fin x=0):=by show _=_;rw[E4.out];exact c
  clear c o;go_wp2
  exact Xz (v:=.tuple #[]) (by simp[results,results214,go_sem]) Z ⟨ZG.good G.out Z,l.out.bel⟩
 ·have I:=q.out.regs.1;obtain⟨n,hn⟩:=Xc I
  have j:Hid (s.fin x=Qv (s.handC x.args s.f.results) (Qjr s.H s.f.regs)):=by show _=_;rw[i.out,Xr (by omega),Xr (by omega),QmT hn q.out.results.2];rfl
  have ab:x.args.length<=8:=K.out.2.2.2.1;obtain⟨pm,cm,hh,a1,c1,a2,c2,a3,c3,aL,cL,R⟩:=S.out.st.read
  obtain⟨-,-,-,-,q4,-⟩:=R.cells
  obtain⟨fa,fc,fb,fd,fe,ff,M,-,z,-,-⟩:=Qar R.fn
  simp only[List.cons.injEq,Value.slice.injEq,and_true,true_and] at M
  obtain⟨⟨-,-⟩,⟨rfl,rfl⟩,-⟩:=M
  have U:=Qa (QU z).1
  have CH:Hid (Calls prog 251 #[Pv b 0,.slice e.pA x.args.length e.cA,.slice a2 s.f.results.length c2] w1.drew fun e w'=>ZG (s.handC x.args s.f.results) VNone e/\Below w1.drew.heap.size w1.drew w') :=
   QaH Z (by omega) Z (by have:=q.out.results.1;omega) (Ya S.out.lists.ar (Qb1 Zr)) U.out.drew hL aa.out (fun k u=>Zl (T.out k u) S.out.bel.size) (S.out.st.below (Qb1 Zr))
  rw[g] at F
  clear i R z U hn I;generalize s.f.results.length=nr at q4 CH;generalize x.args.length=na at P CH ab;go_upto_region 9 with fail
  go_region_with (go_at_call 251;refine(CH.out).mono ?_;rintro e8 w8 ⟨m,N⟩;have E:=Qa (S.out.below (Zx N));rcases m with ⟨c,y,rfl,p⟩|⟨c,rfl⟩;rotate_left;exact⟨Z,.inr ⟨by rw[j.out,Ql c];exact c,by rw[j.out,Ql c]⟩,E.out.bel⟩;subst p;have B:Hid (s.fin x=Qjr s.H s.f.regs):=(by show _=_;rw[j.out,Qx c]);clear c N)
  all_goals
   have CV:=Qa (Qg9 C.out.regs E.out.st);go_wp2_with fail
   refine CV.out.mono ?_;rintro e9 w9 ⟨m,o⟩;have l:=Qa (E.out.below o);rcases m with ⟨c,y,rfl,p⟩|⟨c,rfl⟩
   rotate_left
   ·exact⟨Z,.inr ⟨by rw[B.out];exact c,by rw[B.out]⟩,l.out.bel⟩
   subst p;have G:Hid (s.fin x=0):=by show _=_;rw[B.out];exact c
   clear c o;go_wp2
   exact Xz (v:=.tuple #[]) (by simp[results,results214,go_sem]) Z ⟨ZG.good G.out Z,l.out.bel⟩
theorem Qcu {a:Nat}(c:Int) (b:Blk w a #[Iv 0] 3) :
 CallsD prog 238 #[Qfq a] (.panicking (Qfo c)) w fun e u' w' =>
  e=.returned (.tuple #[])/\u'=.panicking [{ v:=.iface 304 (Iv c),recovered:=true }]/\(Blk w' a #[Iv c] 3/\Chg a w w'):=by
 have d:=b.lt;have l:=Qb b 0 _ Z;have f:=Qj b 0;have j:=Qa b;refine callsD_of_wpS func238 Z fun n m i=>?_;apply wpS_seq
 apply wpS_region
 simp[wpOpsS,go_sem,recoverD,i,ntmps238,Exit.thenS]
 rw[show (#[Qfq a]++((Array.replicate 15 undef).setIfInBounds 3 (Value.iface 304 (Iv c))).setIfInBounds 0 (Value.iface 304 (Iv c)):Array Value)=#[Qfq a,Value.iface 304 (Iv c),undef,undef,Value.iface 304 (Iv c),undef,undef,undef,undef,undef,undef,undef,undef,undef,undef,undef] from Z]
 refine wpS_of_wp ?_;have h:∀ w:World,(Instr.typeAssert (.iface 304 (Iv c)) 20 304 true).run prog w=.ok (.tuple #[Iv c,.bool true]) w:=fun _=>by kernel_rfl
 clear b;go_wp2
 have k:Blk (w.setCell ⟨a,0,none⟩ (Iv c)) a #[Iv c] 3:=by
  have:=Qh j.out 0 (Iv c)
  simpa using this
 have g:Chg a w (w.setCell ⟨a,0,none⟩ (Iv c)):=Chg.set w 0 _ d;exact(show bodyPostS _ _ _ _ _ _ _ _ _ from ⟨Z,_,Z,.tuple #[],by simp[results,results238,go_sem],Z,Z,k,g⟩)
theorem QfB (a:Nat) :
 CallsD prog 238 #[Qfq a] .returning w fun e u' w'=>e=.returned (.tuple #[])/\u'=.returning/\w'=w:=by
 refine callsD_of_wpS func238 Z fun c d b=>?_;apply wpS_seq
 apply wpS_region
 simp[wpOpsS,go_sem,recoverD,b,ntmps238,Exit.thenS]
 rw[show (#[Qfq a]++((Array.replicate 15 undef).setIfInBounds 3 (Value.nilIface)).setIfInBounds 0 (Value.nilIface):Array Value)=#[Qfq a,Value.nilIface,undef,undef,Value.nilIface,undef,undef,undef,undef,undef,undef,undef,undef,undef,undef,undef] from Z]
 refine wpS_of_wp ?_;go_wp2_with fail
 cases c
 simp_all [bodyPostS,results,results238]
def QmI (Fb:Nat) (R1:World->Prop) (R2:Int->World->Prop) (en:Ending) (w2:World):Prop :=
 Blk w2 Fb #[Iv 0] 3/\((en=.returned (.tuple #[])/\R1 w2)\/(∃ c,en=.panicked (Qfo c)/\R2 c w2))
def Qf5 (Fb:Nat) (R1:World->Prop) (R2:Int->World->Prop) (en:Ending) (w':World):Prop :=
 (∃ w2,R1 w2/\en=.returned (Iv 0)/\Chg Fb w2 w')\/(∃ w2,∃ c:Int,R2 c w2/\en=.returned (Iv c)/\Chg Fb w2 w')
theorem QcN (F:Nat) (a:Array Value) (e:Qah F) (i:World->Prop) (m:Int->World->Prop) (d:Calls prog F a (w.alloc (.cells #[Iv 0] 3)) fun en w2=>QmI w.heap.size i m en w2) :
 Calls prog 210 #[.func (.func F) #[] a] w fun en w'=>Qf5 w.heap.size i m en w':=by
 have t:∀ (fn:Fn) (first cap:Array Value) (w:World),(Instr.makeFunc fn first cap).run prog w=.ok (.func fn first cap) w:=fun _ _ _ _=>rfl;have o:=e;unfold Qah at o;have r:Hid (Calls prog F a (w.alloc (.cells #[Iv 0] 3)) fun en w2=>QmI w.heap.size i m en w2):=d;clear d e;go_enter_defers func210,ntmps210
 go_wp2_with fail
 refine r.out.mono ?_;rintro A b ⟨l,⟨rfl,g⟩|⟨c,rfl,g⟩⟩
 ·have h:=Qa l;have j:=Qb h.out 0 _ Z;have k:=Qj h.out 0;have u:Hid (i b):=g;clear l g r o;go_wp2
  have q:Blk (b.setCell ⟨w.heap.size,0,none⟩ (Iv 0)) w.heap.size #[Iv 0] 3:=by
   have:=Qh h.out 0 (Iv 0)
   simpa using this
  have p:Chg w.heap.size b (b.setCell ⟨w.heap.size,0,none⟩ (Iv 0)):=Chg.set b 0 _ h.out.lt;clear j k;generalize b.setCell ⟨w.heap.size,0,none⟩ (Iv 0)=v at q p |-;refine leaves_cons (f:=238) (args:=#[Qfq w.heap.size]) (by simp) (by simp[go_sem]) ?_;refine(QfB w.heap.size).mono ?_
  rintro y z B ⟨rfl,rfl,rfl⟩;have n:=Qb q 0 _ Z;exact⟨Iv 0,by simp[results,results210,go_sem,n],.inl ⟨b,u.out,Z,p⟩⟩
 ·show bodyPostD _ _ _ _ _ _;refine leaves_cons (f:=238) (args:=#[Qfq w.heap.size]) (by simp) (by simp[go_sem]) ?_;refine(Qcu c l).mono ?_
  rintro y z v ⟨rfl,rfl,x,s⟩;have n:=Qb x 0 _ Z;exact⟨Iv c,by simp[results,results210,go_sem,n],.inr ⟨b,c,g,Z,s⟩⟩
theorem Qlr {A:Nat->Prop}{s:JSt}{x:Qt}(j:∀ k,A k->k<w.heap.size) (i:JOk s) (h:SAt w b O A s) (c:intsL.In w Q x.regs [.slice rg x.regs.length rc]) (a:intsL.In w Q x.args [.slice ag x.args.length ac]) (f:x.regs.length<=rc) (d:ZF x) (g:x.form s.m.length=0) :
 Calls prog 212 #[Pv b 0,Qd3 x rg ag rc ac] w fun e w'=>QO w b O A s (s.next x) (s.goC x) e w':=by
 obtain⟨-,-,-,l⟩:=Q6 g
 rcases l with e | e | e | e | e | e | e | e | e | e | e | e | e | e
 ·exact QlI j i h c a f d g e
 ·exact QlT j i h c a f d g e
 ·exact Qlx j i h c a f d g e
 ·exact Qkv j i h c a f d g e
 ·exact Qiw j i h c a f d g e
 ·exact Qlm j i h c a f d g e
 ·exact QlB j i h c a f d g e
 ·exact QhK j i h c a f d g e
 ·exact QkS j i h c a f d g e
 ·exact Qjy j i h c a f d g e
 ·exact Qmb j i h c a f d g e
 ·exact QmS j i h c a f d g e
 ·exact Qlo j i h c a f d g e
 ·exact QjM j i h c a f d g e
theorem STo.seal {wc w9:World}{g:Nat}{A:Nat->Prop}{s:JSt}(o:∀ k,O k->k<w.heap.size) (f:Below w.heap.size w wc) (m:w.heap.size<=g/\g<wc.heap.size) (h:STo wc w2 b O (fun k=>A k\/(w.heap.size<=k/\k<wc.heap.size)) s) (c:Chg g w2 w9):STo w w9 b O A s:=by
 obtain⟨N,i,j,d⟩:=h
 have r:=f.size;have p:=d.size;have q:=c.size;refine⟨fun k=>N k\/(w.heap.size<=k/\k<wc.heap.size),fun k a=>?_,?_,?_⟩
 ·rcases a with a | a
  ·have:=i k a;omega
  ·omega
 ·refine j.keep (fun k l a=>c.block k l (fun e=>?_)) (fun k a _=>?_) (fun k a _ e=>a ?_) (fun k a=>?_)
  ·subst e;rcases a with a | a
   ·rcases a with a | a
    ·have:=o k a;omega
    ·have:=i k a;omega
   ·exact a (.inl (.inr m))
  ·rcases a with a | a
   ·exact .inl a
   ·exact .inr (.inl a)
  ·rcases e with e | e | e
   ·exact .inl (.inl e)
   ·exact .inr e
   ·exact .inl (.inr e)
  ·rcases a with a | a
   ·have:=j.sub k (.inl a)
    rcases this with (h | h) | h
    ·exact .inl h
    ·exact .inr (.inr h)
    ·exact .inr (.inl h)
   ·exact .inr a
 ·refine⟨c.os.trans (d.os.trans f.os),c.tape.trans (d.tape.trans f.tape),c.output.trans (d.output.trans f.output),by omega,fun k a n=>?_,fun k a=>?_⟩
  ·exact(c.block k (by omega) (by omega)).trans ((d.block k (by omega) n).trans (f.block k a))
  ·rcases a with a | a | a
   ·exact .inl a
   ·have:=i k a;exact .inr (by omega)
   ·exact .inr a.1
theorem SAt.wall {wc:World}{A:Nat->Prop}{s:JSt}(h:SAt w b O A s) (d:Below w.heap.size w wc):SAt wc b O (fun k=>A k\/(w.heap.size<=k/\k<wc.heap.size)) s :=
 h.keep (fun g c _=>d.block g c) (fun _ h _=>h) (fun k a f e=>by rcases e with e | e;exact a e;omega) (fun k a=>.inl (h.sub k a))
theorem enters_ins1:Qah 211:=fun _ _=>by kernel_rfl
theorem enters_end1:Qah 213:=fun _ _=>by kernel_rfl
def Qoa (b S0 X nm cm rc ac:Nat) (cf:Int) (pm rg ag:Option Addr) (x:Qt) (t:Tmp) (v:Value) (w:World):Prop :=
 v=(([(2,Pv S0 0),(3,Pv X 0),(6,Pv b 0),(7,Pv b 0),(8,Pv b 0),(9,.agg #[.slice pm nm cm]),(10,.agg #[Iv x.op,Iv x.a,Iv x.b,Iv x.c,Iv x.k,Iv x.n,.slice rg x.regs.length rc,.slice ag x.args.length ac]),(11,Iv cf),(5,Iv cf)]:List (Tmp × Value)).lookup t).getD undef
theorem ji1 {o f:Nat}{l:Int}{x:Qt}(B:w6.cell? ⟨o,0,none⟩=some (Pv b 0)) (C:w6.cell? ⟨b,0,none⟩=some (.slice pm f cm)) (s:w6.cell? ⟨X,0,none⟩=some (Iv x.op)) (J:w6.cell? ⟨X,1,none⟩=some (Iv x.a)) (A:w6.cell? ⟨X,2,none⟩=some (Iv x.b)) (D:w6.cell? ⟨X,3,none⟩=some (Iv x.c)) (F:w6.cell? ⟨X,4,none⟩=some (Iv x.k)) (H:w6.cell? ⟨X,5,none⟩=some (Iv x.n)) (z:w6.cell? ⟨X,6,none⟩=some (.slice rg x.regs.length rc)) (L:w6.cell? ⟨X,7,none⟩=some (.slice ag x.args.length ac)) (p:f<2305843009213693952) (u:Hid (x.form f=l))
 (a:Act) (m:Nat) (I:a.tmps.size=m) (i:17<=m) (E:a.tmps.getD 2 undef=Pv o 0) (G:a.tmps.getD 3 undef=Pv X 0) :
 Code.wp prog ((Tryz.f164.body.bind (Qi 1)).getD .skip) (fun e a' w'=>e=.normal/\∃ vs,a'=QM a vs [6,7,8,9,10,11,5]/\vs 5=Iv l/\Below w6.heap.size w6 w') a w6:=by
 conv=>arg 2;whnf
 refine QaX (Qoa b o X f cm rc ac l pm rg ag x) (fun w=>Below w6.heap.size w6 w) (fun w w'=>Below w.heap.size w w') (outs:=[2,3]) (gs:=[]) (bs:=[true,true,true,true,true,true,true]) (by kernel_rfl) (n:=17) I i (by kernel_rfl) ?hR ?hG (QI Zr 1) ⟨E,G,Y⟩ ?hA ?hend
 case hR=>exact fun t v w w' _ h=>h
 case hG=>exact Y
 case hend=>exact fun vs w' d g=>⟨Z,vs,Z,g 5 (by kernel_rfl),d⟩
 case hA =>
  repeat
   refine⟨fun a w d g K q=>?_,?_⟩
   focus first
    | obtain⟨j,-⟩:=g
      conv at j=>whnf;rhs;whnf
      have c0:=Qk B d;have R:=Qk C d;have U:=Qk s d;have T:=Qk J d;have P:=Qk A d;have O:=Qk D d;have V:=Qk F d;have N:=Qk H d;have W:=Qk z d;have Q:=Qk L d;go_simp;exact q _ _ Zr d Z
    | obtain⟨j,y,-⟩:=g
      conv at j=>whnf;rhs;whnf
      conv at y=>whnf;rhs;whnf
      go_simp;refine Xm (Qgx f x ⟨rg,rc,ag,ac⟩ pm cm _ p) ?_;rw[u.out];rintro M S ⟨rfl,r⟩;go_simp;exact q _ _ r (d.trans (r.mono d.size)) Z
  trivial
theorem Qix {r:Nat}{A:Nat->Prop}{s:JSt}{x:Qt}(p:Blk w r #[Pv b 0] 234) (g:Blk w X #[Iv x.op,Iv x.a,Iv x.b,Iv x.c,Iv x.k,Iv x.n,.slice rg x.regs.length rc,.slice ag x.args.length ac] 78) (q:∀ k,A k->k<w.heap.size) (u:JOk s) (h:SAt w b O A s) (f:intsL.In w Q x.regs [.slice rg x.regs.length rc]) (d:intsL.In w Q x.args [.slice ag x.args.length ac]) (j:x.regs.length<=rc) (i:ZF x) (o:x.form s.m.length=0) :
 Calls prog 211 #[Pv r 0,Pv X 0] w fun e w'=>QO w b O A s (s.next x) (s.goC x) e w':=by
 have C:=Qa (Qlr q u h f d j i o);have G:=Qb p 0 _ Z;have B:=Qb g 0 _ Z;have L:=Qb g 1 _ Z;have F:=Qb g 2 _ Z;have H:=Qb g 3 _ Z;have I:=Qb g 4 _ Z;have K:=Qb g 5 _ Z;have E:=Qb g 6 _ Z;have M:=Qb g 7 _ Z;clear p g q u h f d j i o;go_enter func211,ntmps211
 go_wp2_with fail
 refine C.out.mono ?_;rintro J D t;have l:=Qa t;rcases t with ⟨z,rfl,y⟩|⟨z,rfl,y⟩
 rotate_left
 ·exact⟨Z,l.out⟩
 clear z y C;go_wp2
 exact Xz (v:=.tuple #[]) (by simp[results,results211,go_sem]) Z l.out
theorem QjV {A:Nat->Prop}{s:JSt}{x:Qt}(hA:∀ k,A k->k<w.heap.size) (hJ:JOk s) (h:SAt w b O A s) (j:intsL.In w Q x.regs [.slice rg x.regs.length rc]) (o:intsL.In w Q x.args [.slice ag x.args.length ac]) (R:x.regs.length<=rc) (u:ZF x) :
 Calls prog 164 #[Pv b 0,Qd3 x rg ag rc ac] w fun e w'=>e=.returned (Iv (s.code x))/\STo w w' b O A (s.ins x):=by
 have ah:∀ (fn:Fn) (first cap:Array Value) (w:World),(Instr.makeFunc fn first cap).run prog w=.ok (.func fn first cap) w:=fun _ _ _ _=>rfl;have HJ:=Qa hJ;have H0:=Qa h;have B:=Qa hA;have ad:=Qa u;have ae:=Qa R;have b1:=Zd w (.cells #[Pv b 0] 234);have b2:=Zd (w.alloc (.cells #[Pv b 0] 234)) (.cells #[Iv x.op,Iv x.a,Iv x.b,Iv x.c,Iv x.k,Iv x.n,.slice rg x.regs.length rc,.slice ag x.args.length ac] 78);have bb:=b1.trans (b2.mono b1.size);have HB:=Qa bb;have H:=Qa (h.below bb);have HR:Hid (intsL.In _ Q x.regs [.slice rg x.regs.length rc]):=Ya j bb;have HG:Hid (intsL.In _ Q x.args [.slice ag x.args.length ac]):=Ya o bb;have hS:Blk ((w.alloc (.cells #[Pv b 0] 234)).alloc (.cells #[Iv x.op,Iv x.a,Iv x.b,Iv x.c,Iv x.k,Iv x.n,.slice rg x.regs.length rc,.slice ag x.args.length ac] 78)) w.heap.size #[Pv b 0] 234:=(Blk.new _ _ _:Blk (w.alloc (.cells #[Pv b 0] 234)) w.heap.size _ _).below b2
 have T:Blk ((w.alloc (.cells #[Pv b 0] 234)).alloc (.cells #[Iv x.op,Iv x.a,Iv x.b,Iv x.c,Iv x.k,Iv x.n,.slice rg x.regs.length rc,.slice ag x.args.length ac] 78)) (w.heap.size+1) #[Iv x.op,Iv x.a,Iv x.b,Iv x.c,Iv x.k,Iv x.n,.slice rg x.regs.length rc,.slice ag x.args.length ac] 78:=by
  have:=Blk.new (w.alloc (.cells #[Pv b 0] 234)) #[Iv x.op,Iv x.a,Iv x.b,Iv x.c,Iv x.k,Iv x.n,.slice rg x.regs.length rc,.slice ag x.args.length ac] 78
  simpa using this
 have P:=Qa hS;have g:=Qa T;clear hS T b1 b2 bb h hA hJ j o R u;go_enter func164,ntmps164
 go_upto_region 1 with fail
 generalize (w.alloc (.cells #[Pv b 0] 234)).alloc (.cells #[Iv x.op,Iv x.a,Iv x.b,Iv x.c,Iv x.k,Iv x.n,.slice rg x.regs.length rc,.slice ag x.args.length ac] 78)=w1 at HB H HR HG P g |-;obtain⟨S0,W⟩:∃ S0,w.heap.size=S0:=⟨_,Z⟩
 obtain⟨X,T⟩:∃ X,S0+1=X:=⟨_,Z⟩
 rw[W] at P g |-
 rw[T] at g |-
 clear T W;have s0:=Qb P.out 0 _ Z;have x0:=Qb g.out 0 _ Z;have x1:=Qb g.out 1 _ Z;have x2:=Qb g.out 2 _ Z;have x3:=Qb g.out 3 _ Z;have x4:=Qb g.out 4 _ Z;have x5:=Qb g.out 5 _ Z;have x6:=Qb g.out 6 _ Z;have x7:=Qb g.out 7 _ Z;obtain⟨pm,cm,hh,a1,c1,a2,c2,a3,c3,aL,cL,RR⟩:=H.out.read
 obtain⟨q0,-⟩:=RR.cells
 obtain⟨E,U⟩:∃ E,x.form s.m.length=E:=⟨_,Z⟩
 have t:Hid (x.form s.m.length=E):=U;clear U RR;refine Code.wp_mono ?_ (ji1 s0 q0 x0 x1 x2 x3 x4 x5 x6 x7 (by have:=HJ.out.mod.1.2;omega) t _ _ Z (Xg (by kernel_rfl)) Z Z);rintro ee aa d ⟨rfl,vs,rfl,J,G⟩;simp only[QM,Act.put,List.setIfInBounds_toArray,List.set_cons_zero,List.set_cons_succ,J]
 have l:=Qa (HB.out.trans (G.mono HB.out.size));have K:=Qa (P.out.below G);have V:=Qa (g.out.below G);have S:Hid (intsL.In d Q x.regs [.slice rg x.regs.length rc]):=Ya HR.out G;have L:Hid (intsL.In d Q x.args [.slice ag x.args.length ac]):=Ya HG.out G;clear G J s0 x0 x1 x2 x3 x4 x5 x6 x7 q0 P g HR HG HB H;by_cases q:E=0
 rotate_left
 ·have af:(E != 0)=true:=by simpa using q
  have E1:Hid (s.code x=E):=by show _=_;unfold JSt.code;rw[t.out,Xs q]
  have E2:Hid (s.ins x=s):=by show _=_;unfold JSt.ins;rw[Xr (by rw[E1.out];exact q)]
  go_wp2_with fail
  go_ret;exact⟨by rw[E1.out];rfl,by rw[E2.out];exact Yh H0.out l.out⟩
 subst q;have EC:=Qa (Ql7 t.out);have D:=Zd d (.cells #[Iv 0] 3);have r:=l.out.trans (D.mono l.out.size);have ab:=Qa r
 have CK:Hid (Calls prog 210 #[.func (.func 211) #[] #[Pv S0 0,Pv X 0]] d fun en w'=>Qf5 d.heap.size (fun f=>s.goC x=0/\STo (d.alloc (.cells #[Iv 0] 3)) f b O (fun k=>A k\/(w.heap.size<=k/\k<(d.alloc (.cells #[Iv 0] 3)).heap.size)) (s.next x)) (fun c f=>s.goC x=c/\c≠0/\STo (d.alloc (.cells #[Iv 0] 3)) f b O (fun k=>A k\/(w.heap.size<=k/\k<(d.alloc (.cells #[Iv 0] 3)).heap.size)) s) en w'):=by
  refine QcN _ _ enters_ins1 _ _ ?_;refine(Qix (A:=fun k=>A k\/(w.heap.size<=k/\k<(d.alloc (.cells #[Iv 0] 3)).heap.size)) (K.out.below D) (V.out.below D) (fun k p=>?_) HJ.out (H0.out.wall r) (Ya S.out D) (Ya L.out D) ae.out ad.out t.out).mono ?_
  ·rcases p with p | p
   ·exact Zl (B.out k p) r.size
   ·exact p.2
  ·intro en f hd
   have z:STo (d.alloc (.cells #[Iv 0] 3)) f b O (fun k=>A k\/(w.heap.size<=k/\k<(d.alloc (.cells #[Iv 0] 3)).heap.size)) s\/STo (d.alloc (.cells #[Iv 0] 3)) f b O (fun k=>A k\/(w.heap.size<=k/\k<(d.alloc (.cells #[Iv 0] 3)).heap.size)) (s.next x):=by
    rcases hd with ⟨-,-,h⟩|⟨-,-,h⟩
    ·exact .inr h
    ·exact .inl h
   have i:Blk f d.heap.size #[Iv 0] 3:=by
    have hn:Blk (d.alloc (.cells #[Iv 0] 3)) d.heap.size #[Iv 0] 3:=Blk.new _ _ _;have M:¬ O d.heap.size:=fun e=>by have C:=B.out _ (H0.out.sub _ e);have F:=l.out.size;omega
    rcases z with ⟨N,-,-,st⟩|⟨N,-,-,st⟩
    ·exact(st.block _ hn.lt M).trans hn
    ·exact(st.block _ hn.lt M).trans hn
   rcases hd with ⟨C,F,h3⟩|⟨C,F,h3⟩
   ·exact⟨i,.inl ⟨F,C,h3⟩⟩
   ·exact⟨i,.inr ⟨_,F,Z,C,h3⟩⟩
 have y:Hid (∀ f v s',STo (d.alloc (.cells #[Iv 0] 3)) f b O (fun k=>A k\/(w.heap.size<=k/\k<(d.alloc (.cells #[Iv 0] 3)).heap.size)) s'->Chg d.heap.size f v->STo w v b O A s'):=fun f v s' C F=>STo.seal (fun k p=>B.out k (H0.out.sub k p)) ab.out ⟨l.out.size,by simp⟩ C F;clear D r K V S L;go_wp2_with fail
 refine CK.out.mono ?_;intro e' v p
 have FF:Hid (e'=.returned (Iv (s.code x))/\STo w v b O A (s.ins x)):=by
  rcases p with ⟨f,⟨g1,g2⟩,rfl,g3⟩|⟨f,c,⟨g1,g2,g3⟩,rfl,g4⟩
  ·have I:s.code x=0:=by rw[EC.out,g1]
   refine⟨by rw[I],?_⟩
   unfold JSt.ins;rw[Xs I]
   exact y.out f v _ g2 g3
  ·have I:s.code x=c:=by rw[EC.out,g1]
   refine⟨by rw[I],?_⟩
   unfold JSt.ins;rw[Xr (by rw[I];exact g2)]
   exact y.out f v _ g3 g4
 obtain⟨rfl,-⟩:=id FF.out
 clear p CK y;go_wp2
 go_ret;exact⟨Z,FF.out.2⟩
def Qog (b S0 X fl c1 fm c2 bl c3:Nat) (fr cf:Int) (a1 a2 a3:Option Addr) (x:ZA) (e:EP) (t:Tmp) (v:Value) (w:World):Prop :=
 v=(([(2,Pv S0 0),(3,Pv X 0),(6,Pv b 0),(7,Pv b 0),(8,Pv b 2),(9,.agg #[Iv fr,.slice a1 fl c1,.slice a2 fm c2,.slice a3 bl c3]),(10,.agg (QbW x e)),(11,Iv cf),(5,Iv cf)]:List (Tmp × Value)).lookup t).getD undef
theorem jE1 {p u j A r g q:Nat}{o:Int}{B z y:Option Addr}{x:ZA}{e:EP}(H:w6.cell? ⟨p,0,none⟩=some (Pv b 0)) (I:w6.cell? ⟨b,2,none⟩=some (Iv fr)) (F:w6.cell? ⟨b,3,none⟩=some (.slice B u j)) (J:w6.cell? ⟨b,4,none⟩=some (.slice z A r)) (G:w6.cell? ⟨b,5,none⟩=some (.slice y g q)) (M:Hid (w6.rangeAt X 0 (QbW x e).toList)) (L:Hid (x.yes.regs.length<2305843009213693952/\x.yes.args.length<2305843009213693952/\x.no.regs.length<2305843009213693952/\x.no.args.length<2305843009213693952)) (s:g<2305843009213693952) (D:Hid (x.form g=o))
 (a:Act) (m:Nat) (P:a.tmps.size=m) (k:17<=m) (N:a.tmps.getD 2 undef=Pv p 0) (O:a.tmps.getD 3 undef=Pv X 0) :
 Code.wp prog ((Tryz.f165.body.bind (Qi 1)).getD .skip) (fun e a' w'=>e=.normal/\∃ vs,a'=QM a vs [6,7,8,9,10,11,5]/\vs 5=Iv o/\Below w6.heap.size w6 w') a w6:=by
 conv=>arg 2;whnf
 refine QaX (Qog b p X u j A r g q fr o B z y x e) (fun w=>Below w6.heap.size w6 w) (fun w w'=>Below w.heap.size w w') (outs:=[2,3]) (gs:=[]) (bs:=[true,true,true,true,true,true,true]) (by kernel_rfl) (n:=17) P k (by kernel_rfl) ?hR ?hG (QI Zr 1) ⟨N,O,Y⟩ ?hA ?hend
 case hR=>exact fun t v w w' _ h=>h
 case hG=>exact Y
 case hend=>exact fun vs w' c f=>⟨Z,vs,Z,f 5 (by kernel_rfl),c⟩
 case hA =>
  repeat
   refine⟨fun a w c f K l=>?_,?_⟩
   focus first
    | obtain⟨d,-⟩:=f
      conv at d=>whnf;rhs;whnf
      have U:=Qk H c;have j:=Qk I c;have r:=Qk F c;have q:=Qk J c;have R:=Qk G c;go_simp;exact l _ _ Zr c Z
    | obtain⟨d,-⟩:=f
      conv at d=>whnf;rhs;whnf
      obtain⟨S,i⟩:=underEnd
      refine wp_load_mid 84 (.tmp 3) Z X 0 d (QbW x e).toList _ (Qad M.out c) i Z sizeEnd ?_;exact l _ _ Zr c Z
    | obtain⟨d,E,-⟩:=f
      conv at d=>whnf;rhs;whnf
      conv at E=>whnf;rhs;whnf
      go_simp;refine Xm (QgG (x:=x) (e:=e) L.out s) ?_;rw[D.out];rintro Q T ⟨rfl,C⟩;go_simp;exact l _ _ C (c.trans (C.mono c.size)) Z
  trivial
theorem Qex {c:Array Value}(h:Blk w X c t):w.rangeAt X 0 c.toList:=fun j v a=>by
 rw[XK]
 rw[Array.getElem?_toList] at a
 exact Qb h j v a
theorem QhZ {q:Nat}{A:Nat->Prop}{s:JSt}{x:ZA}{e:EP}(p:Blk w q #[Pv b 0] 234) (B:Blk w X (QbW x e) 84) (z:JOk s) (n:∀ k,O k->k<w.heap.size) (h:SAt w b O A s) (l:Qdn w Q x e) (g:-9223372036854775808<=x.a/\x.a<=9223372036854775807) (o:x.form s.f.blocks.length=0) :
 Calls prog 213 #[Pv q 0,Pv X 0] w fun r w'=>ZG (s.fin x) VNone r/\Below w.heap.size w w':=by
 have C:=Qa (QjW z n h l g o);have J:=Qb p 0 _ Z;have u:=Qa (Qex B);clear p B z h l g o n;obtain⟨K,c⟩:=underEnd
 have j:=Qa c;clear c;generalize d:QbW x e=D at C u;have i:Hid ((prog.info? 84).map (·.size)=some D.toList.length):=by show _=_;rw[<-d];exact sizeEnd
 clear d;go_enter func213,ntmps213
 go_wp2_with (refine wpList_load_mid Z 84 (.tmp 1) Z X 0 Z D.toList _ u.out j.out Z i.out ?_)
 refine C.out.mono ?_;rintro L I t;have m:=Qa t;obtain⟨H,F⟩:=t
 rcases H with ⟨E,y,rfl,G⟩|⟨E,rfl⟩
 rotate_left
 ·exact⟨Z,m.out⟩
 subst G;clear E F C;go_wp2
 exact Xz (v:=.tuple #[]) (by simp[results,results213,go_sem]) Z m.out
theorem QjJ {A:Nat->Prop}{s:JSt}{x:ZA}{e:EP}(hA:∀ k,A k->k<w.heap.size) (hJ:JOk s) (h:SAt w b O A s) (hx:Qdn w Q x e) (E:-9223372036854775808<=x.a/\x.a<=9223372036854775807) (hs:x.yes.regs.length<2305843009213693952/\x.yes.args.length<2305843009213693952/\x.no.regs.length<2305843009213693952/\x.no.args.length<2305843009213693952) :
 Calls prog 165 #[Pv b 0,.agg (QbW x e)] w fun r w'=>r=.returned (Iv (s.fin x))/\Below w.heap.size w w':=by
 have ag:∀ (fn:Fn) (first cap:Array Value) (w:World),(Instr.makeFunc fn first cap).run prog w=.ok (.func fn first cap) w:=fun _ _ _ _=>rfl;have W:=Qa hJ;have H0:=Qa h;have ad:=Qa hA;have ae:=Qa E;have ac:=Qa hs;have b1:=Zd w (.cells #[Pv b 0] 234);have V:=Zd (w.alloc (.cells #[Pv b 0] 234)) (.cells #[Iv x.op,Iv x.a,Iv x.yes.block,.slice e.pYR x.yes.regs.length e.cYR,.slice e.pYA x.yes.args.length e.cYA,Iv x.no.block,.slice e.pNR x.no.regs.length e.cNR,.slice e.pNA x.no.args.length e.cNA,.slice e.pA x.args.length e.cA] 84);have T:=b1.trans (V.mono b1.size);have P:=Qa T;have H:=Qa (h.below T);have t:=Qa (hx.below T);have hS:Blk ((w.alloc (.cells #[Pv b 0] 234)).alloc (.cells #[Iv x.op,Iv x.a,Iv x.yes.block,.slice e.pYR x.yes.regs.length e.cYR,.slice e.pYA x.yes.args.length e.cYA,Iv x.no.block,.slice e.pNR x.no.regs.length e.cNR,.slice e.pNA x.no.args.length e.cNA,.slice e.pA x.args.length e.cA] 84)) w.heap.size #[Pv b 0] 234:=(Blk.new _ _ _:Blk (w.alloc (.cells #[Pv b 0] 234)) w.heap.size _ _).below V
 have K:Blk ((w.alloc (.cells #[Pv b 0] 234)).alloc (.cells #[Iv x.op,Iv x.a,Iv x.yes.block,.slice e.pYR x.yes.regs.length e.cYR,.slice e.pYA x.yes.args.length e.cYA,Iv x.no.block,.slice e.pNR x.no.regs.length e.cNR,.slice e.pNA x.no.args.length e.cNA,.slice e.pA x.args.length e.cA] 84)) (w.heap.size+1) (QbW x e) 84:=by
  have:=Blk.new (w.alloc (.cells #[Pv b 0] 234)) (QbW x e) 84
  simpa using this
 have F:=Qa hS;have z:=Qa K;clear hS K b1 V T h hA hJ hx E hs;go_enter func165,ntmps165
 go_upto_region 1 with fail
 generalize (w.alloc (.cells #[Pv b 0] 234)).alloc (.cells #[Iv x.op,Iv x.a,Iv x.yes.block,.slice e.pYR x.yes.regs.length e.cYR,.slice e.pYA x.yes.args.length e.cYA,Iv x.no.block,.slice e.pNR x.no.regs.length e.cNR,.slice e.pNA x.no.args.length e.cNA,.slice e.pA x.args.length e.cA] 84)=w1 at P H t F z |-;obtain⟨S,u⟩:∃ S,S=w.heap.size:=⟨_,Z⟩
 obtain⟨X,K⟩:∃ X,X=S+1:=⟨_,Z⟩
 rw[<-u] at F z |-
 rw[<-K] at z |-
 have G:=Qa u;clear K u;have s0:=Qb F.out 0 _ Z;have N:=Qa (Qex z.out);obtain⟨pm,cm,hh,a1,c1,a2,c2,a3,c3,aL,cL,RR⟩:=H.out.read
 obtain⟨-,-,q2,q3,q4,q5,-⟩:=RR.cells
 obtain⟨v,L⟩:∃ v,x.form s.f.blocks.length=v:=⟨_,Z⟩
 have q:Hid (x.form s.f.blocks.length=v):=L;have ab:=Qa (W.out.mod.2 s.f W.out.fn);clear L RR;refine Code.wp_mono ?_ (jE1 s0 q2 q3 q4 q5 N ac (by have:=ab.out.many.2;omega) q _ _ Z (Xg (by kernel_rfl)) Z Z);rintro ee aa i ⟨rfl,vs,rfl,B,I⟩;simp only[QM,Act.put,List.setIfInBounds_toArray,List.set_cons_zero,List.set_cons_succ,B]
 have l:=Qa (P.out.trans (I.mono P.out.size));have C:=Qa (F.out.below I);have M:=Qa (z.out.below I);have J:=Qa (t.out.below I);clear I B s0 q2 q3 q4 q5 F z P H N t;by_cases n:v=0
 rotate_left
 ·have af:(v != 0)=true:=by simpa using n
  have E1:Hid (s.fin x=v):=by show _=_;unfold JSt.fin;rw[q.out,Xs n]
  go_wp2_with fail
  go_ret;exact⟨by rw[E1.out];rfl,by first | exact l.out | (rw[G.out];exact l.out)⟩
 subst n;have D:=Zd i (.cells #[Iv 0] 3);have d:=l.out.trans (D.mono l.out.size)
 have CK:Hid (Calls prog 210 #[.func (.func 213) #[] #[Pv S 0,Pv X 0]] i fun en w'=>Qf5 i.heap.size (fun g=>s.fin x=0/\Below (i.alloc (.cells #[Iv 0] 3)).heap.size (i.alloc (.cells #[Iv 0] 3)) g) (fun c g=>s.fin x=c/\Below (i.alloc (.cells #[Iv 0] 3)).heap.size (i.alloc (.cells #[Iv 0] 3)) g) en w'):=by
  refine QcN _ _ enters_end1 _ _ ?_;refine(QhZ (C.out.below D) (M.out.below D) W.out (fun k R=>Zl (ad.out k (H0.out.sub k R)) d.size) (H0.out.below d) (J.out.below D) ae.out q.out).mono ?_
  rintro en g ⟨hd,o⟩;have j:Blk g i.heap.size #[Iv 0] 3:=(Blk.new i #[Iv 0] 3).below o;rcases hd with ⟨hc,y,rfl,hy⟩|⟨hc,rfl⟩
  ·subst hy;exact⟨j,.inl ⟨Z,hc,o⟩⟩
  ·exact⟨j,.inr ⟨_,Z,Z,o⟩⟩
 have p:Hid (∀ g m,Below (i.alloc (.cells #[Iv 0] 3)).heap.size (i.alloc (.cells #[Iv 0] 3)) g->Chg i.heap.size g m->Below w.heap.size w m):=fun g m h1 h2 =>
  Chg.last (d.trans (h1.mono d.size)) h2 l.out.size (Zt d.size h1.size)
 clear D d C M J;go_wp2_with fail
 refine CK.out.mono ?_;intro e' m R
 have U:Hid (e'=.returned (Iv (s.fin x))/\Below w.heap.size w m):=by
  rcases R with ⟨g,⟨g1,g2⟩,rfl,g3⟩|⟨g,c,⟨g1,g2⟩,rfl,g4⟩
  ·exact⟨by rw[g1],p.out g m g2 g3⟩
  ·exact⟨by rw[g1],p.out g m g2 g4⟩
 obtain⟨rfl,-⟩:=id U.out
 clear R CK p;go_wp2
 go_ret;first | exact⟨Z,U.out.2⟩ | exact⟨Z,by rw[G.out];exact U.out.2⟩
def Qcv {n:Nat}(w:World) (Q:Nat->Prop) (l:List (TT n)) (e:Ending) (w':World):Prop :=
 ∃ v ds,e=.returned v/\w'.ownsRow 0 105 3 v l.length ds/\(∀ g,v.ownBlock=some g->w.heap.size<=g)/\(∀ i x,l[i]?=some x->(Lay.tt n).In w Q x ((ds.drop (i*3)).take 3))/\Below w.heap.size w w'
theorem Qhu {l:List (TT n)}(hN:l.length=N) (ai:N<=5000) (hl:(Qo n).In w Q l [.slice p N c]) :
 Calls prog 209 #[.slice p N c] w fun e w'=>Qcv w Q l e w':=by
 obtain⟨i0,hi,V,ah,R⟩:=pInfoT
 have q:∀ (w:World) (a:Option Addr) (n c X K:Nat),(binOp .eql 80 (.slice a n c) (.slice none X K)).run prog w=.ok (.bool a.isNone) w:=fun w a n c X K=>Lib.run_eql_slice_nil w _ _ a n c X K pUnderT;have B:=Qa hl;have v:=Qa hN;clear hl hN
 cases p with
 | none =>
   have z:l=[]:=by
    rcases l with _ | ⟨x,r⟩
    ·rfl
    ·obtain⟨g,o,C,e,-⟩:=Yf B.out (i:=0) (x:=x) Z
     cases e
   subst z;have ac:N=0:=by have:=v.out;simpa using this.symm
   subst ac;have G:Hid (Qcv w Q ([]:List (TT n)) (.returned (Nv)) w):=⟨Nv,[],Z,⟨Z,.inl ⟨Z,Z⟩⟩,fun g hg=>by simp[Value.ownBlock] at hg,fun i x L=>by simp at L,Zr⟩;clear B v;go_enter func209,ntmps209
   go_wp2
   go_ret;exact G.out
 | some ad =>
   have S:=Zd w (.cells #[] 105);have d:(w.alloc (.cells #[] 105)).ownsRow 0 105 3 (.slice (some ⟨w.heap.size,0,none⟩) 0 0) 0 []:=⟨Z,.inr ⟨w.heap.size,0,#[],Z,Xb _,Qe w _ _,Ze,by unfold maxLen;omega,Z,Z⟩⟩;have m:=Qa S;have f:=Qa d;by_cases T:N=0
   ·subst T;have z:l=[]:=Xf.1 v.out;subst z;have ha:Hid (∀ (t:TypeId) (E:World),(Builtin.append_ #[80,80] t #[.slice (some ⟨w.heap.size,0,none⟩) 0 0,.slice (some ad) 0 c]).run prog E=.ok (.slice (some ⟨w.heap.size,0,none⟩) 0 0) E):=fun (t:TypeId) (E:World)=>run_append_nothing (P:=prog) E 80 80 t 105 i0 pUnderT hi (some ⟨w.heap.size,0,none⟩) 0 0 Ze (.slice (some ad) 0 c) (Src.ofSlice E pUnderT ad 0 c [] (by simp) (fun j u h=>by simp at h) (fun u h=>by cases h));have G:Hid (Qcv w Q ([]:List (TT n)) (.returned (.slice (some ⟨w.heap.size,0,none⟩) 0 0)) (w.alloc (.cells #[] 105))):=⟨_,[],Z,f.out,fun g hg=>by simp[Value.ownBlock] at hg;omega,fun i x L=>by simp at L,m.out⟩;clear B v m f d S;generalize M:w.alloc (.cells #[] 105)=w1 at G;go_enter func209,ntmps209
    go_wp2_with (at_builtin;refine QaL Z (.tmp 5) (.tmp 6) 80 Z (.slice (some ⟨w.heap.size,0,none⟩) 0 0) (.slice (some ad) 0 c) Z Z (ha.out _ _) ?_)
    go_ret;first | exact G.out | (rw[M];exact G.out)
   ·obtain⟨H,I,e0⟩:∃ H I,(some ad)=some (⟨H,I,none⟩:Addr):=by
     obtain⟨g,o,dd,e,-⟩:=Yf B.out (Zg (show 0<l.length by have:=v.out;omega))
     exact⟨g,o,e⟩
    cases e0
    obtain⟨C,d1,d2,d3,d4⟩:=Lay.flat B.out (fun y cs hy=>by obtain⟨ya,yc,e,-⟩:=hy;subst e;exact Qlu _ _ _ _ _)
    have D:C.length=N*3:=by rw[<-v.out];exact d1
    have W:=Qa D;have ab:Hid (∀ (j:Nat) (u:Value),C[j]?=some u->(w.alloc (.cells #[] 105)).cell? ((⟨H,I,none⟩:Addr).add j)=some u):=fun j u hj=>Qk (d2 j u hj) m.out;have aa:=Qa d3
    have F:Hid (∀ A g b,A.ownsRow 0 105 3 (.slice (some ⟨g,0,none⟩) N b) N C->(w.alloc (.cells #[] 105)).grownBy A (some w.heap.size)->(w.heap.size=g\/g=w.heap.size+1)->Qcv w Q l (.returned (.slice (some ⟨g,0,none⟩) N b)) A):=by
     intro A g b J s U;have ae:=s.size;refine⟨_,C,Z,by rw[v.out];exact J,fun g' O=>?_,d4,⟨s.os.trans m.out.os,s.tape.trans m.out.tape,s.output.trans m.out.output,by simp at ae;omega,fun k hk=>?_⟩⟩
     ·simp[Value.ownBlock] at O
      omega
     ·exact(s.block k (by simp;omega) (fun e=>by injection e with e;omega)).trans (m.out.block k hk)
    clear B m d1 D d2 d3 d4 d S;have ag:0<N:=by omega
    have af:Hid (0<=(w.alloc (.cells #[] 105)).heap.size):=Xb _;go_enter func209,ntmps209
    go_wp2_with (at_builtin;refine wpList_append_lies _ Z (.tmp 5) (.tmp 6) 80 Z 0 105 i0 (.agg #[Iv 0,Iv 0,Nv]) 3 40 pUnderT hi V ah R Z (by decide) _ _ _ Z f.out ⟨H,I,none⟩ N c C Z W.out ab.out aa.out ag (by unfold maxLen;omega) (by omega) af.out (w.heap.size+1) (by simp) ?_)
    intro g2 b A J s U r4;have Z9:=Qa (F.out A g2 b (by simpa using J) (by simpa[Value.ownBlock] using s) (by simpa[Value.ownBlock] using U));clear J s U r4 F f;go_wp2
    go_ret;first | exact Z9.out | simpa using Z9.out
def Qgc (m:List (MFunc 6)) (f b:Int):Bool:=decide (0<=f)&&(match m[f.toNat]? with | none=>false | some g=>decide (0<=b)&&decide (b<(g.blocks.length:Int)))
theorem Qjx {m:List (MFunc 6)}{f b:Int}(h:Qgc m f b=true):∃ (i j:Nat) (fn:MFunc 6) (g:MBlock 6),f=(i:Int)/\b=(j:Int)/\m[i]?=some fn/\fn.blocks[j]?=some g:=by
 unfold Qgc at h;simp only[Bool.and_eq_true,decide_eq_true_eq] at h
 obtain⟨c,a⟩:=h
 obtain⟨i,rfl⟩:=Xc c
 rw[XT] at a
 cases e:m[i]? with
 | none=>rw[e] at a;cases a
 | some fn =>
   rw[e] at a
   simp only[Bool.and_eq_true,decide_eq_true_eq] at a
   obtain⟨j,rfl⟩:=Xc a.1
   exact⟨i,j,fn,_,Z,Z,e,Zg (by omega)⟩
theorem Qky {m:List (MFunc 6)}(f b:Int) (k:m.length<=100000) (n:(QaM 6).In w All m [.slice p m.length c]) :
 Calls prog 207 #[.agg #[.slice p m.length c],Iv f,Iv b] w fun e w'=>e=.returned (.bool (Qgc m f b))/\Below w.heap.size w w':=by
 have o:=Zd w (.cells #[.slice p m.length c] 24);have d:=Qa o;have t:=Qb (Qe w #[.slice p m.length c] 24) 0 _ Z;by_cases s:0<=f
 rotate_left
 ·have E:Hid (Qgc m f b=false):=by show _=_;unfold Qgc;rw[Xu s];rfl
  have B:decide (f>=0)=false:=Xu s;clear n o;generalize m.length=x at t d;go_enter func207,ntmps207
  go_wp2
  go_ret;exact⟨by rw[E.out];rfl,d.out⟩
 obtain⟨i,rfl⟩:=Xc s
 by_cases u:i<m.length
 rotate_left
 ·have E:Hid (Qgc m (i:Int) b=false):=by show _=_;unfold Qgc;rw[XT,Xk (by omega)];simp
  have h:¬ (i:Int)<m.length:=by omega
  clear n o;generalize m.length=x at t d u h k;go_enter func207,ntmps207
  go_wp2
  go_ret;exact⟨by rw[E.out];rfl,d.out⟩
 have r:m[i]?=some m[i]:=Zg u;generalize m[i]=g at r;obtain⟨z,D,L,H,I,K,G,J,rfl,v,F,A,C,-,-⟩:=QdB n r
 have y:z<w.heap.size:=Xi w ⟨z,D+i*4,none⟩ v;have E:Hid (Qgc m (i:Int) b=(decide (0<=b)&&decide (b<(g.blocks.length:Int)))):=by show _=_;unfold Qgc;rw[XT,r];simp
 have h:(i:Int)<m.length:=by omega
 clear n o v F A r;generalize m.length=x at t d u h k;generalize g.blocks.length=q at C E;by_cases a:0<=b
 rotate_left
 ·have l:decide (b>=0)=false:=Xu a;rw[show (decide (0<=b)&&decide (b<(q:Int)))=false by rw[Xu a];rfl] at E
  go_enter func207,ntmps207
  go_wp2
  go_ret;exact⟨by rw[E.out];rfl,d.out⟩
 ·have l:decide (b>=0)=true:=Xt a;rw[show (decide (0<=b)&&decide (b<(q:Int)))=decide (b<(q:Int)) by rw[Xt a];rfl] at E
  by_cases j:b<(q:Int)
  ·rw[Xt j] at E
   go_enter func207,ntmps207
   go_wp2
   go_ret;exact⟨by rw[E.out];rfl,d.out⟩
  ·rw[Xu j] at E
   go_enter func207,ntmps207
   go_wp2
   go_ret;exact⟨by rw[E.out];rfl,d.out⟩
theorem Qnd (c:cs.length=12) :
 Blk ((w1.alloc (.cells #[Iv 0,Nv,Nv,Iv 0,Iv 0,Iv 0,Nv,Nv,Iv 0,Nv,Nv,Nv] 86)).setCells w1.heap.size 0 cs.toArray.toList) w1.heap.size cs.toArray 86/\Below w1.heap.size w1 ((w1.alloc (.cells #[Iv 0,Nv,Nv,Iv 0,Iv 0,Iv 0,Nv,Nv,Iv 0,Nv,Nv,Nv] 86)).setCells w1.heap.size 0 cs.toArray.toList)/\(w1.alloc (.cells #[Iv 0,Nv,Nv,Iv 0,Iv 0,Iv 0,Nv,Nv,Iv 0,Nv,Nv,Nv] 86)).there w1.heap.size 0 cs.toArray.size:=by
 have a:=Qe w1 #[Iv 0,Nv,Nv,Iv 0,Iv 0,Iv 0,Nv,Nv,Iv 0,Nv,Nv,Nv] 86;refine⟨?_,?_,?_⟩
 ·have d:Blk (w1.alloc (.cells #[Iv 0,Nv,Nv,Iv 0,Iv 0,Iv 0,Nv,Nv,Iv 0,Nv,Nv,Nv] 86)) w1.heap.size ([]++(#[Iv 0,Nv,Nv,Iv 0,Iv 0,Iv 0,Nv,Nv,Iv 0,Nv,Nv,Nv]:Array Value).toList).toArray 86:=a;exact Blk.sets cs [] (#[Iv 0,Nv,Nv,Iv 0,Iv 0,Iv 0,Nv,Nv,Iv 0,Nv,Nv,Nv]:Array Value).toList _ (by rw[c];rfl) d
 ·have:=Qz.setCells (O:=fun k=>k=w1.heap.size) (O':=fun k=>k=w1.heap.size) (b:=w1.heap.size) Z cs.toArray.toList 0 _ (Qz.refl _ (w1.alloc (.cells #[Iv 0,Nv,Nv,Iv 0,Iv 0,Iv 0,Nv,Nv,Iv 0,Nv,Nv,Nv] 86)))
  exact(Zd w1 _).trans (this.below (by simp) (fun k e=>by omega))
 ·intro j hj;rw[List.size_toArray,c] at hj
  rw[XK]
  refine⟨?_,Qj a j⟩
  rw[Qb a j ((#[Iv 0,Nv,Nv,Iv 0,Iv 0,Iv 0,Nv,Nv,Iv 0,Nv,Nv,Nv]:Array Value)[j]'hj) (by simp)];rfl
theorem Qac {xs:List Value}(h:w.ownsRow 0 e s v n xs) (k:Below w.heap.size w w'):w'.ownsRow 0 e s v n xs:=by
 obtain⟨d,j⟩:=h
 refine⟨d,?_⟩
 rcases j with f | ⟨g,b,a,l,i,c,r⟩
 ·exact .inl f
 ·exact .inr ⟨g,b,a,l,i,(k.block g (XC c)).trans c,r⟩
theorem QjB {xs:List Value}(h:w.ownsRow 0 e s v n xs):∃ a c,v=.slice a n c:=by
 obtain⟨m,j⟩:=h
 rcases j with ⟨f,d⟩|⟨g,i,b,k,o,l,r⟩
 ·exact⟨none,0,by rw[f,d]⟩
 ·exact⟨_,_,k⟩
def Qnz (w7:World) (M9 F10 B11 nm cm n1 d1 n2 d2 n3 d3 np cp:Nat) (fr br:Int) (pm p1 p2 p3 pp:Option Addr) (ps:List (TT 6)) (QP:Nat->Prop) (t:Tmp) (v:Value) (w:World):Prop :=
 match ([(39,fun v w=>∃ hh,v=.pointer (some ⟨hh,0,none⟩)/\w7.heap.size<=hh/\Qp w hh (QbU br)),(43,fun v w=>∃ a c ds,v=.slice a np c/\w.ownsRow 0 105 3 (.slice a np c) np ds/\(∀ g,(Value.slice a np c).ownBlock=some g->w7.heap.size<=g)/\(∀ i x,ps[i]?=some x->(Lay.tt 6).In w7 QP x ((ds.drop (i*3)).take 3))),(44,fun v w=>∃ hh a c ds,v=.agg #[.slice pm nm cm,.pointer (some ⟨hh,0,none⟩),.int .i64 fr,.slice p1 n1 d1,.slice p2 n2 d2,.slice p3 n3 d3,.slice a np c]/\w7.heap.size<=hh/\Qp w hh (QbU br)/\w.ownsRow 0 105 3 (.slice a np c) np ds/\(∀ g,(Value.slice a np c).ownBlock=some g->w7.heap.size<=g)/\(∀ i x,ps[i]?=some x->(Lay.tt 6).In w7 QP x ((ds.drop (i*3)).take 3))),(45,fun v w=>∃ B hh a c ds,v=.pointer (some ⟨B,0,none⟩)/\w7.heap.size<=B/\w.heap[B]?=some (.cells #[.slice pm nm cm,.pointer (some ⟨hh,0,none⟩),.int .i64 fr,.slice p1 n1 d1,.slice p2 n2 d2,.slice p3 n3 d3,.slice a np c] 279 (0,0))/\w7.heap.size<=hh/\Qp w hh (QbU br)/\w.ownsRow 0 105 3 (.slice a np c) np ds/\(∀ g,(Value.slice a np c).ownBlock=some g->w7.heap.size<=g)/\(∀ i x,ps[i]?=some x->(Lay.tt 6).In w7 QP x ((ds.drop (i*3)).take 3))),(6,fun v w=>∃ B hh a c ds,v=.pointer (some ⟨B,0,none⟩)/\w7.heap.size<=B/\w.heap[B]?=some (.cells #[.slice pm nm cm,.pointer (some ⟨hh,0,none⟩),.int .i64 fr,.slice p1 n1 d1,.slice p2 n2 d2,.slice p3 n3 d3,.slice a np c] 279 (0,0))/\w7.heap.size<=hh/\Qp w hh (QbU br)/\w.ownsRow 0 105 3 (.slice a np c) np ds/\(∀ g,(Value.slice a np c).ownBlock=some g->w7.heap.size<=g)/\(∀ i x,ps[i]?=some x->(Lay.tt 6).In w7 QP x ((ds.drop (i*3)).take 3)))]:List (Tmp × (Value->World->Prop))).lookup t with
 | some p=>p v w
 | none=>v=(([(9,.pointer (some ⟨M9,0,none⟩)),(10,.pointer (some ⟨F10,0,none⟩)),(11,.pointer (some ⟨B11,0,none⟩)),(36,.agg #[.slice pm nm cm]),(37,.pointer (some ⟨B11,0,none⟩)),(38,.int .i64 br),(40,.agg #[.int .i64 fr,.slice p1 n1 d1,.slice p2 n2 d2,.slice p3 n3 d3]),(41,.pointer (some ⟨B11,1,none⟩)),(42,.slice pp np cp),(46,.agg #[.int .i64 0,.int .i64 0])]:List (Tmp × Value)).lookup t).getD undef
theorem jn9 {d:World}{M9 r D P O d1 S I N T f cp:Nat}{F:Int}{p1 M U pp:Option Addr}{H:List (TT 6)}{G:Nat->Prop}(m0:d.cell? ⟨M9,0,none⟩=some (.slice pm P cm)) (f0:d.cell? ⟨r,0,none⟩=some (Iv fr)) (f1:d.cell? ⟨r,1,none⟩=some (.slice p1 O d1)) (f2:d.cell? ⟨r,2,none⟩=some (.slice M S I)) (f3:d.cell? ⟨r,3,none⟩=some (.slice U N T)) (y0:d.cell? ⟨D,0,none⟩=some (Iv F)) (y1:d.cell? ⟨D,1,none⟩=some (.slice pp f cp)) (ak:-9223372036854775808<=F/\F<=9223372036854775807) (W:Hid (H.length=f)) (ag:f<=5000) (HP:Hid ((Qo 6).In d G H [.slice pp f cp])) (ah:Hid (∀ (i:Nat) (x:TT 6) (cs:List Value){w:World},H[i]?=some x->(Lay.tt 6).In w G x cs->Below d.heap.size d w->(Lay.tt 6).In d G x cs)){Q:Exit->Act->World->Prop}
 (a:Act) (m:Nat) (hn:a.tmps.size=m) (ae:47<=m) (h9:a.tmps.getD 9 undef=Pv M9 0) (al:a.tmps.getD 10 undef=Pv r 0) (af:a.tmps.getD 11 undef=Pv D 0)
 (hend:∀ ops vs w',vs 46=.agg #[Iv 0,Iv 0]->(fun v w=>∃ B hh a c ds,v=Pv B 0/\d.heap.size<=B/\w.heap[B]?=some (.cells #[.slice pm P cm,Pv hh 0,Iv fr,.slice p1 O d1,.slice M S I,.slice U N T,.slice a f c] 279 (0,0))/\d.heap.size<=hh/\Qp w hh (QbU F)/\w.ownsRow 0 105 3 (.slice a f c) f ds/\(∀ g,(Value.slice a f c).ownBlock=some g->d.heap.size<=g)/\(∀ i x,H[i]?=some x->(Lay.tt 6).In d G x ((ds.drop (i*3)).take 3))) (vs 6) w'->Below d.heap.size d w'->wpList prog ops Q (Qal 12 ((Tryz.f163.body.bind (Qi 9)).getD .skip)) (QM a vs [36,37,38,39,40,41,42,43,44,45,46,6]) w') :
 Code.wp prog ((Tryz.f163.body.bind (Qi 9)).getD .skip) Q a d:=by
 conv=>arg 2;whnf
 refine Qg 12 (Qnz d M9 r D P cm O d1 S I N T f cp fr F pm p1 M U pp H G) (fun w=>Below d.heap.size d w) (fun w w'=>Below w.heap.size w w') (outs:=[9,10,11]) (gs:=[]) (bs:=[true,true,true,true,true,true,true,true,true,true,true,true]) (by kernel_rfl) (n:=47) hn ae (by kernel_rfl) (by kernel_rfl) ?hR ?hG (QI Zr 1) ⟨h9,al,af,Y⟩ ?hA ?hend
 case hR =>
  intro t v w w' C h;unfold Qnz at h |-;split at h
  ·rename_i p u
   simp only[List.lookup_cons,List.lookup_nil] at u
   split at u
   ·cases u;exact(by obtain⟨hh,e,l,q⟩:=h;exact⟨hh,e,l,q.below C⟩)
   ·split at u
    ·cases u;exact(by obtain⟨a,c,ds,e,l,q,s⟩:=h;exact⟨a,c,ds,e,Qac l C,q,s⟩)
    ·split at u
     ·cases u;exact(by obtain⟨hh,a,c,ds,e,l,q,s,L,V⟩:=h;exact⟨hh,a,c,ds,e,l,q.below C,Qac s C,L,V⟩)
     ·split at u
      ·cases u;exact(by obtain⟨B,hh,a,c,ds,e,E,y,l,q,s,L,V⟩:=h;exact⟨B,hh,a,c,ds,e,E,(C.block B (XC y)).trans y,l,q.below C,Qac s C,L,V⟩)
      ·split at u
       ·cases u;exact(by obtain⟨B,hh,a,c,ds,e,E,y,l,q,s,L,V⟩:=h;exact⟨B,hh,a,c,ds,e,E,(C.block B (XC y)).trans y,l,q.below C,Qac s C,L,V⟩)
       ·cases u
  ·exact h
 case hG=>exact Y
 case hend=>exact fun ops vs w' b k=>hend ops vs w' (k 46 (by kernel_rfl)) (k 6 (by kernel_rfl)) b
 case hA =>
  iterate 3
   refine⟨fun a w b k K o=>?_,?_⟩
   ·obtain⟨j,-⟩:=k
    conv at j=>whnf;rhs;whnf
    have u0:=Qk m0 b;have u1:=Qk y0 b;go_simp;exact o _ _ Zr b Z
  refine⟨fun a w b k K o=>?_,?_⟩
  ·obtain⟨j,-⟩:=k
   conv at j=>whnf;rhs;whnf
   go_simp;refine Xm (Qk5 _ F ak) ?_;rintro r7 w8 ⟨rfl,ab,A⟩;go_simp;exact o _ _ A (b.trans (A.mono b.size)) ⟨_,Z,b.size,ab⟩
  iterate 3
   refine⟨fun a w b k K o=>?_,?_⟩
   ·obtain⟨j,-⟩:=k
    conv at j=>whnf;rhs;whnf
    have u0:=Qk f0 b;have u1:=Qk f1 b;have u2:=Qk f2 b;have u3:=Qk f3 b;have u4:=Qk y1 b;go_simp;exact o _ _ Zr b Z
  refine⟨fun a w b k K o=>?_,?_⟩
  ·obtain⟨j,-⟩:=k
   conv at j=>whnf;rhs;whnf
   go_simp;refine Xm (Qhu W.out ag (Ya HP.out b)) ?_;rintro r7 w8 ⟨v8,aa,rfl,o1,o2,o3,A⟩;rw[W.out] at o1
   obtain⟨a8,c8,rfl⟩:=QjB o1
   go_simp;exact o _ _ A (b.trans (A.mono b.size)) ⟨a8,c8,aa,Z,o1,fun g hg=>Zt b.size (o2 g hg),fun i x hx=>ah.out i x _ hx (o3 i x hx) b⟩
  refine⟨fun a w b k K o=>?_,?_⟩
  ·obtain⟨j,X,k2,k3,-⟩:=k
   conv at j=>whnf;rhs;whnf
   have X:(fun v w=>∃ hh,v=Pv hh 0/\d.heap.size<=hh/\Qp w hh (QbU F)) (a.tmps.getD 39 undef) w:=X;generalize aj:a.tmps.getD 39 undef=am at X;conv at k2=>whnf;rhs;whnf
   have k3:(fun v w=>∃ a c ds,v=.slice a f c/\w.ownsRow 0 105 3 (.slice a f c) f ds/\(∀ g,(Value.slice a f c).ownBlock=some g->d.heap.size<=g)/\(∀ i x,H[i]?=some x->(Lay.tt 6).In d G x ((ds.drop (i*3)).take 3))) (a.tmps.getD 43 undef) w:=k3;generalize ai:a.tmps.getD 43 undef=an at k3;obtain⟨hh,rfl,E,y⟩:=X
   obtain⟨R,J,z,rfl,l,q,s⟩:=k3
   have j0:a.tmps[36]?.getD undef=.agg #[.slice pm P cm]:=by simpa using j
   have j1:a.tmps[39]?.getD undef=Pv hh 0:=by simpa using aj
   have j2:a.tmps[40]?.getD undef=.agg #[Iv fr,.slice p1 O d1,.slice M S I,.slice U N T]:=by simpa using k2
   have j3:a.tmps[43]?.getD undef=.slice R f J:=by simpa using ai
   go_simp;exact o _ _ Zr b ⟨hh,R,J,z,Z,E,y,l,q,s⟩
  refine⟨fun a w b k K o=>?_,?_⟩
  ·obtain⟨j,-⟩:=k
   have j:(fun v w=>∃ hh a c ds,v=.agg #[.slice pm P cm,Pv hh 0,Iv fr,.slice p1 O d1,.slice M S I,.slice U N T,.slice a f c]/\d.heap.size<=hh/\Qp w hh (QbU F)/\w.ownsRow 0 105 3 (.slice a f c) f ds/\(∀ g,(Value.slice a f c).ownBlock=some g->d.heap.size<=g)/\(∀ i x,H[i]?=some x->(Lay.tt 6).In d G x ((ds.drop (i*3)).take 3))) (a.tmps.getD 44 undef) w:=j;generalize ac:a.tmps.getD 44 undef=ad at j;obtain⟨hh,R,J,z,rfl,E,y,l,q,s⟩:=j
   go_simp;have A:=Zd w (.cells #[.slice pm P cm,Pv hh 0,Iv fr,.slice p1 O d1,.slice M S I,.slice U N T,.slice R f J] 279);exact o _ _ A (b.trans (A.mono b.size)) ⟨w.heap.size,hh,R,J,z,Z,b.size,Qe _ _ _,E,y.below A,Qac l A,q,s⟩
  refine⟨fun a w b k K o=>?_,?_⟩
  ·clear k;go_simp;exact o _ _ Zr b Z
  refine⟨fun a w b k K o=>?_,?_⟩
  ·obtain⟨j,-⟩:=k
   have j:(fun v w=>∃ B hh a c ds,v=Pv B 0/\d.heap.size<=B/\w.heap[B]?=some (.cells #[.slice pm P cm,Pv hh 0,Iv fr,.slice p1 O d1,.slice M S I,.slice U N T,.slice a f c] 279 (0,0))/\d.heap.size<=hh/\Qp w hh (QbU F)/\w.ownsRow 0 105 3 (.slice a f c) f ds/\(∀ g,(Value.slice a f c).ownBlock=some g->d.heap.size<=g)/\(∀ i x,H[i]?=some x->(Lay.tt 6).In d G x ((ds.drop (i*3)).take 3))) (a.tmps.getD 45 undef) w:=j;generalize ac:a.tmps.getD 45 undef=ad at j;obtain⟨B,hh,R,J,z,rfl,E,y,h0,l,q,s,L⟩:=j
   go_simp;exact o _ _ Zr b ⟨B,hh,R,J,z,Z,E,y,h0,l,q,s,L⟩
  trivial
def Qmm (w:World) (m:List (MFunc 6)) (f b:Int) (e:Ending) (w':World):Prop :=
 Below w.heap.size w w'/\(((modFault m).1≠0/\e=.returned (.tuple #[.pointer none,QG (modFault m)])) \/
  ((modFault m).1=0/\Qgc m f b=false/\e=.returned (.tuple #[.pointer none,.agg #[Iv 1,Iv (-1)]])) \/
  ((modFault m).1=0/\Qgc m f b=true/\∃ (i j:Nat) (fn:MFunc 6) (g:MBlock 6) (B:Nat) (O A:Nat->Prop),f=(i:Int)/\b=(j:Int)/\m[i]?=some fn/\fn.blocks[j]?=some g/\e=.returned (.tuple #[Pv B 0,.agg #[Iv 0,Iv 0]])/\SAt w' B O A (JSt.start m fn g)/\∀ k,A k->w.heap.size<=k/\k<w'.heap.size))
theorem Qkh {m:List (MFunc 6)}(f b:Int) (bz:¬ Qm m) (hm:(QaM 6).In w All m [.slice p m.length c]) :
 Calls prog 163 #[.agg #[.slice p m.length c],Iv f,Iv b] w fun e w'=>Qmm w m f b e w':=by
 have ay:Qbe m:=ZD bz;have a2:=Qa ay;have b1:=Zd w (.cells #[.slice p m.length c] 24);have b2:=Zd (w.alloc (.cells #[.slice p m.length c] 24)) (.cells #[Iv 0,Iv 0] 32);have bb:=b1.trans (b2.mono b1.size);have HB:=Qa bb;have hX:Blk ((w.alloc (.cells #[.slice p m.length c] 24)).alloc (.cells #[Iv 0,Iv 0] 32)) w.heap.size #[.slice p m.length c] 24:=(Blk.new _ _ _:Blk (w.alloc (.cells #[.slice p m.length c] 24)) w.heap.size _ _).below b2
 have hR:Blk ((w.alloc (.cells #[.slice p m.length c] 24)).alloc (.cells #[Iv 0,Iv 0] 32)) (w.heap.size+1) #[Iv 0,Iv 0] 32:=by
  have:=Blk.new (w.alloc (.cells #[.slice p m.length c] 24)) #[Iv 0,Iv 0] 32
  simpa using this
 have HX:=Qa hX;have HR:=Qa hR;have HM:=Qa hm;have av:Hid ((QaM 6).In _ All m [.slice p m.length c]):=Ya hm bb;have cg:m.length<=100000:=ay.1;clear hX hR b1 b2 bb hm ay bz;go_enter func163,ntmps163
 go_upto_region 1 with fail
 generalize (w.alloc (.cells #[.slice p m.length c] 24)).alloc (.cells #[Iv 0,Iv 0] 32)=w1 at HB HX HR av |-;obtain⟨X,hX⟩:∃ X,X=w.heap.size:=⟨_,Yz⟩
 obtain⟨R,hR⟩:∃ R,R=X+1:=⟨_,Yz⟩
 rw[<-hX] at HX HR |-
 rw[<-hR] at HR |-
 have c4:=Qa hX;have J:Hid (w.heap.size<=R):=by show _<=_;omega
 have c8:¬ X=R:=by omega
 clear hX hR;have x0:=Qb HX.out 0 _ Yz;have CC:=Qa (Qca av.out a2.out);unfold Rd at CC;go_wp2_with fail
 refine CC.out.mono ?_;rintro e2 w2 ⟨rfl,b2⟩;have ak:=Qa (HB.out.trans (b2.mono HB.out.size));have bs:=Qa (HX.out.below b2);have al:=Qa (HR.out.below b2);clear b2 CC x0 HX HR HB av;have b3:=Zd w2 (.cells #[Iv (modFault m).1,Iv (modFault m).2] 32);have F:=Qa (ak.out.trans (b3.mono ak.out.size));have ab:=Qa (bs.out.below b3);have o:=Qa (al.out.below b3);have bl:=Blk.new w2 #[Iv (modFault m).1,Iv (modFault m).2] 32;have z:=Qa bl;have ch:¬ w2.heap.size=R:=by have:=al.out.lt;omega
 clear b3 bl ak bs al;go_upto_region 2 with fail
 generalize w2.alloc (.cells #[Iv (modFault m).1,Iv (modFault m).2] 32)=w3 at F ab o z |-;generalize w2.heap.size=F8 at z ch |-;obtain⟨L,a0,a1⟩:∃ L a0,modFault m=(L,a0):=⟨_,_,Yz⟩
 rw[a1] at z |-
 have ar:=Qa a1;clear a1;simp only at z |-
 have y0:=Qb z.out 0 _ Yz;have y1:=Qb z.out 1 _ Yz;by_cases ac:L=0
 rotate_left
 ·have cy:(L != 0)=true:=by simpa using ac
  have r0:=Qb o.out 0 _ Yz;have r1:=Qb o.out 1 _ Yz;have z0:=Qj o.out 0;have z1:=Qj o.out 1;have cd:=Qa ac;clear ac;go_upto_region 3 with fail
  go_region
  all_goals
   have K:Blk ((w3.setCell ⟨R,0,none⟩ (Iv L)).setCell ⟨R,1,none⟩ (Iv a0)).drew R #[Iv L,Iv a0] 32:=by
    have h9:Blk ((w3.setCell ⟨R,0,none⟩ (Iv L)).setCell ⟨R,1,none⟩ (Iv a0)) R #[Iv L,Iv a0] 32:=by
     have:=Qh (Qh o.out 0 (Iv L)) 1 (Iv a0)
     simpa using this
    exact h9
   have D3:Below w.heap.size w ((w3.setCell ⟨R,0,none⟩ (Iv L)).setCell ⟨R,1,none⟩ (Iv a0)).drew:=Qb1 ((F.out.setCell (p:=⟨R,0,none⟩) J.out _).setCell (p:=⟨R,1,none⟩) J.out _);clear y0 y1 r0 r1 z0 z1;generalize ((w3.setCell ⟨R,0,none⟩ (Iv L)).setCell ⟨R,1,none⟩ (Iv a0)).drew=w9 at K D3 |-;have q0:=Qb K 0 _ Yz;have q1:=Qb K 1 _ Yz;go_wp2
   exact Xy (v:=.tuple #[.pointer none,.agg #[Iv L,Iv a0]]) (by simp[results,results163,go_sem,q0,q1]) Yz ⟨D3,.inl ⟨by rw[ar.out];exact cd.out,by rw[ar.out]⟩⟩
 subst ac;have x3:=Qb ab.out 0 _ Yz;have CH:=Qa (Qky f b cg (Ya HM.out F.out));have HZ:Hid ((modFault m).1=0):=by show _=_;rw[ar.out]
 clear y1;go_wp2_with fail
 refine CH.out.mono ?_;rintro e4 w4 ⟨rfl,b4⟩;have Q:=Qa (F.out.trans (b4.mono F.out.size));have b0:=Qa (ab.out.below b4);have A:=Qa (o.out.below b4);clear b4 CH x3 y0 ab o F z
 cases hhb:Qgc m f b with
 | false =>
   have r0:=Qb A.out 0 _ Yz;have r1:=Qb A.out 1 _ Yz;have z0:=Qj A.out 0;have z1:=Qj A.out 1;have ax:=Qa hhb;clear hhb;go_wp2_with fail
   have K:Blk ((w4.setCell ⟨R,0,none⟩ (Iv 1)).setCell ⟨R,1,none⟩ (Iv (-1))) R #[Iv 1,Iv (-1)] 32:=by
    have:=Qh (Qh A.out 0 (Iv 1)) 1 (Iv (-1))
    simpa using this
   have D3:Below w.heap.size w ((w4.setCell ⟨R,0,none⟩ (Iv 1)).setCell ⟨R,1,none⟩ (Iv (-1))):=(Q.out.setCell (p:=⟨R,0,none⟩) J.out _).setCell (p:=⟨R,1,none⟩) J.out _;clear r0 r1 z0 z1;generalize (w4.setCell ⟨R,0,none⟩ (Iv 1)).setCell ⟨R,1,none⟩ (Iv (-1))=w9 at K D3 |-;have q0:=Qb K 0 _ Yz;have q1:=Qb K 1 _ Yz;exact Xy (v:=.tuple #[.pointer none,.agg #[Iv 1,Iv (-1)]]) (by simp[results,results163,go_sem,q0,q1]) Yz ⟨D3,.inr (.inl ⟨HZ.out,ax.out,Yz⟩)⟩
 | true =>
   obtain⟨i,j,a,g,rfl,rfl,M,V⟩:=Qjx hhb
   have ax:=Qa hhb;have x4:=Qb b0.out 0 _ Yz;have CO:=Qa (QgL m p c w4 (Ya HM.out Q.out) a2.out);have c1:i<m.length:=(Zi M).1;have a3:(i:Int)<m.length:=by omega
   have cz:j<a.blocks.length:=(Zi V).1;have br:(j:Int)<a.blocks.length:=by omega
   clear hhb;go_wp2_with fail
   refine CO.out.mono ?_;rintro e5 l ⟨v5,rfl,⟨pm,S,rfl,N⟩,b5⟩;have bk:=Qa (Q.out.trans (b5.mono Q.out.size));have bn:=Qa (A.out.below b5);have aj:=Qa N;have c3:=bn.out.lt;clear b5 CO x4 b0 A Q;obtain⟨t,u,ds,e1,e2,e3,T,aw⟩:=Yf N M
   subst e1;obtain⟨p1,d1,p2,d2,p3,d3,rfl,cn,cb,a4,cu⟩:=Qar aw
   obtain⟨P,O,pp,cp,es,rfl,E,bo,ai,ah⟩:=Qbm a4 V
   have v0:l.cell? ⟨t,u+i*4,none⟩=some (Iv a.regs):=T 0 (by decide);have v1:l.cell? ⟨t,u+i*4+1,none⟩=some (.slice p1 a.params.length d1):=T 1 (by decide);have v2:l.cell? ⟨t,u+i*4+2,none⟩=some (.slice p2 a.results.length d2):=T 2 (by decide);have v3:l.cell? ⟨t,u+i*4+3,none⟩=some (.slice (some ⟨P,O,none⟩) a.blocks.length d3):=T 3 (by decide);have cw:Hid ((ZV 6).In l (Qcr w4.heap.size) a [Iv a.regs,.slice p1 a.params.length d1,.slice p2 a.results.length d2,.slice (some ⟨P,O,none⟩) a.blocks.length d3]):=aw;have cj:Hid ((Qo 6).In l (Qcr w4.heap.size) g.params [.slice pp g.params.length cp]):=ai;have ci:=Qa E;have af:=Qa ah;have D:(Value.int .i64 g.regs::Value.slice pp g.params.length cp::es).length=12:=by simp[bo]
   have bt:=Zn HZ.out;have ap:=bt.2 a (Zm M);have b9:=ap.blocks g (Zm V);have am:=Qa (Xh ap b9);have bu:=Qa (Xh M V);have bc:t<l.heap.size:=Xi l ⟨t,u+i*4,none⟩ v0;clear T aw a4 E ai ah N cn cb cu e2 e3 bo bt ap b9 M V;have b6:=Zd l (.cells #[.slice (some ⟨t,u,none⟩) m.length S] 24);have b7:=Zd (l.alloc (.cells #[.slice (some ⟨t,u,none⟩) m.length S] 24)) (.cells #[Iv a.regs,.slice p1 a.params.length d1,.slice p2 a.results.length d2,.slice (some ⟨P,O,none⟩) a.blocks.length d3] 89);have a9:=b6.trans (b7.mono b6.size);have y:=Qa a9;have ba:Blk ((l.alloc (.cells #[.slice (some ⟨t,u,none⟩) m.length S] 24)).alloc (.cells #[Iv a.regs,.slice p1 a.params.length d1,.slice p2 a.results.length d2,.slice (some ⟨P,O,none⟩) a.blocks.length d3] 89)) l.heap.size #[.slice (some ⟨t,u,none⟩) m.length S] 24:=(Blk.new _ _ _:Blk (l.alloc (.cells #[.slice (some ⟨t,u,none⟩) m.length S] 24)) l.heap.size _ _).below b7
   have bj:Blk ((l.alloc (.cells #[.slice (some ⟨t,u,none⟩) m.length S] 24)).alloc (.cells #[Iv a.regs,.slice p1 a.params.length d1,.slice p2 a.results.length d2,.slice (some ⟨P,O,none⟩) a.blocks.length d3] 89)) (l.heap.size+1) #[Iv a.regs,.slice p1 a.params.length d1,.slice p2 a.results.length d2,.slice (some ⟨P,O,none⟩) a.blocks.length d3] 89:=by
    have:=Blk.new (l.alloc (.cells #[.slice (some ⟨t,u,none⟩) m.length S] 24)) #[Iv a.regs,.slice p1 a.params.length d1,.slice p2 a.results.length d2,.slice (some ⟨P,O,none⟩) a.blocks.length d3] 89
    simpa using this
   have G:=Qa ba;have d:=Qa bj;clear b6 b7 a9 ba bj;generalize ce:m.length=nm at G d y a3 aj;have bi:=Qa ce;generalize cc:a.blocks.length=nb at v3 d y G br;have ck:=Qa cc;go_upto_region 8 with fail
   generalize (l.alloc (.cells #[.slice (some ⟨t,u,none⟩) nm S] 24)).alloc (.cells #[Iv a.regs,.slice p1 a.params.length d1,.slice p2 a.results.length d2,.slice (some ⟨P,O,none⟩) nb d3] 89)=w6 at y G d |-;obtain⟨M9,bq⟩:∃ M9,M9=l.heap.size:=⟨_,Yz⟩
   obtain⟨bf,ae⟩:∃ bf,bf=M9+1:=⟨_,Yz⟩
   rw[<-bq] at G d |-
   rw[<-ae] at d |-
   clear bq ae v0 v1 v2 v3 bc;have f0:=Qb d.out 0 _ Yz;have f1:=Qb d.out 1 _ Yz;have f2:=Qb d.out 2 _ Yz;have f3:=Qb d.out 3 _ Yz;have m0:=Qb G.out 0 _ Yz;have U:=Qa (Qad ci.out y.out);generalize aq:(Value.int .i64 g.regs::Value.slice pp g.params.length cp::es)=cs at U D;have bw:=Qa aq;obtain⟨a5,a6,a8⟩:=Qnd (w1:=w6) D
   have ad:=Qa a5;have s:=Qa a6;have TH:=Qa a8;have TS:Hid ((prog.info? 86).map (·.size)=some cs.length):=by show _=_;rw[D];exact sizeBk
   have bh:Hid ((prog.info? 86).map (·.size)=some cs.toArray.size):=by show _=_;rw[List.size_toArray];exact TS.out
   have TO:Hid (cs.toArray.all (·.oneCell')=true):=by
    refine all_oneCell_toArray fun v hv=>?_;rw[<-aq] at hv
    simp only[List.mem_cons] at hv
    rcases hv with rfl | rfl | hv
    ·rfl
    ·rfl
    ·exact af.out v hv
   clear a5 a6 a8 aq D;go_upto_region 9 with (first | (refine wpList_load_mid Yz 86 (.tmp 34) Yz P (O+j*12) Yz cs _ U.out underlying86 Yz TS.out ?_) | (refine wpList_store_mid Yz 86 (.tmp 11) (.tmp 35) Yz w6.heap.size 0 cs.toArray Yz Yz TH.out bh.out TO.out ?_))
   clear TH TS bh TO U;generalize (w6.alloc (.cells #[Iv 0,Nv,Nv,Iv 0,Iv 0,Iv 0,Nv,Nv,Iv 0,Nv,Nv,Nv] 86)).setCells w6.heap.size 0 cs.toArray.toList=C at ad s |-;generalize w6.heap.size=cf at ad |-;have W:Hid (Blk C cf (Value.int .i64 g.regs::Value.slice pp g.params.length cp::es).toArray 86):=by rw[bw.out];exact ad.out
   have y0:=Qb W.out 0 _ Yz;have y1:=Qb W.out 1 _ Yz;have f0:=Qk f0 s.out;have f1:=Qk f1 s.out;have f2:=Qk f2 s.out;have f3:=Qk f3 s.out;have m0:=Qk m0 s.out;have H:=Qa (y.out.trans (s.out.mono y.out.size));have az:=Qa (bk.out.trans (H.out.mono bk.out.size));have be:=Qa (bn.out.below H.out);have cv:Hid ((Qo 6).In C (fun k=>k<C.heap.size) g.params [.slice pp g.params.length cp]):=Yc (Ya cj.out H.out) (fun k _ hl=>hl);have cr:Hid (∀ (i:Nat) (x:TT 6) (cs:List Value) {w:World},g.params[i]?=some x->(Lay.tt 6).In w (fun k=>k<C.heap.size) x cs->Below C.heap.size C w->(Lay.tt 6).In C (fun k=>k<C.heap.size) x cs):=fun i x cs w _ h hb=>(Lay.tt 6).keep (fun k n _=>(hb.block k n).symm) (fun _ h _=>h) h;have ct:-9223372036854775808<=g.regs/\g.regs<=9223372036854775807:=by have h1:=am.out.2.regs;have h2:=am.out.1.regs;omega
   have cq:g.params.length<=5000:=by have:=am.out.2.params.1;omega
   clear ad W bw y s G d af;refine jn9 m0 f0 f1 f2 f3 y0 y1 ct (show Hid (g.params.length=g.params.length) from Yz) cq cv cr _ _ Yz (Xg (by kernel_rfl)) Yz Yz Yz ?_;rintro co vs r ag ⟨B,hh,aa,ca,ds,bd,bx,au,bm,ao,an,bv,bp⟩ b8;show wpList _ co _ [_] (QM _ vs [36,37,38,39,40,41,42,43,44,45,46,6]) r;simp only[QM,Act.put,List.setIfInBounds_toArray,List.set_cons_zero,List.set_cons_succ,ag,bd]
   have I:=Qa (be.out.below b8);have cl:=Qa (az.out.trans (b8.mono az.out.size));have c2:=be.out.lt;have Z:Hid (∀ w9,Below C.heap.size r w9\/(∀ k,k≠R->w9.heap[k]?=r.heap[k]?)->True):=fun _ _=>trivial
   have ST:Hid (SAt r B (fun k=>C.heap.size<=k/\k<r.heap.size) (fun k=>C.heap.size<=k/\k<r.heap.size) (JSt.start m a g)):=by
    have bg:=H.out.trans (b8.mono H.out.size);have c5:=H.out.size;have c7:=b8.size;refine⟨some ⟨t,u,none⟩,S,hh,p1,d1,p2,d2,some ⟨P,O,none⟩,d3,.slice aa g.params.length ca,?_,?_,?_,⟨ao,bm,ao.lt⟩,?_,⟨bx,XC au⟩,fun k n=>n⟩
    ·rw[au]
     show _=some (Obj.cells #[.slice (some ⟨t,u,none⟩) m.length S,_,_,_,_,.slice (some ⟨P,O,none⟩) a.blocks.length d3,_] _ _);rw[bi.out,ck.out];rfl
    ·show (QaM 6).In r _ m [.slice (some ⟨t,u,none⟩) m.length S];have h0:=aj.out;rw[<-bi.out] at h0
     exact(QaM 6).keep (fun k _ hl=>bg.block k hl) (fun k _ hl e=>by omega) h0
    ·exact(ZV 6).keep (fun k _ hl=>bg.block k hl) (fun k _ hl e=>by omega) cw.out
    ·refine⟨ds,an,fun k n=>⟨bv k n,?_⟩,fun i x hx=>(Lay.tt 6).keep (fun k n _=>b8.block k n) (fun k n _ e=>by omega) (bp i x hx)⟩
     obtain⟨-,q⟩:=id an
     rcases q with ⟨e,-⟩|⟨g',cx,c6,e,-,hq,-⟩
     ·rw[e] at n;simp[Value.ownBlock] at n
     ·rw[e] at n;simp[Value.ownBlock] at n;subst n;exact XC hq
   have r0:=Qb I.out 0 _ Yz;have r1:=Qb I.out 1 _ Yz;have z0:=Qj I.out 0;have z1:=Qj I.out 1;clear ag bd bx au bm ao an bv bp b8 f0 f1 f2 f3 y0 y1 m0 Z;go_wp2_with fail
   have K:Blk ((r.setCell ⟨R,0,none⟩ (Iv 0)).setCell ⟨R,1,none⟩ (Iv 0)) R #[Iv 0,Iv 0] 32:=by
    have:=Qh (Qh I.out 0 (Iv 0)) 1 (Iv 0)
    simpa using this
   have D3:Below w.heap.size w ((r.setCell ⟨R,0,none⟩ (Iv 0)).setCell ⟨R,1,none⟩ (Iv 0)):=(cl.out.setCell (p:=⟨R,0,none⟩) J.out _).setCell (p:=⟨R,1,none⟩) J.out _
   have D4:SAt ((r.setCell ⟨R,0,none⟩ (Iv 0)).setCell ⟨R,1,none⟩ (Iv 0)) B (fun k=>C.heap.size<=k/\k<r.heap.size) (fun k=>C.heap.size<=k/\k<r.heap.size) (JSt.start m a g):=by
    have a7:∀ k,((r.setCell ⟨R,0,none⟩ (Iv 0)).setCell ⟨R,1,none⟩ (Iv 0)).heap[k]?=r.heap[k]?:=fun k=>by
     by_cases n:k=R
     ·subst n;exact K.trans I.out.symm
     ·rw[Xd _ _ _ _ n,Xd _ _ _ _ n]
    exact ST.out.keep (fun k _ _=>a7 k) (fun _ h _=>h) (fun _ h _=>h) (fun _ h=>h)
   have D5:∀ k,(C.heap.size<=k/\k<r.heap.size)->w.heap.size<=k/\k<((r.setCell ⟨R,0,none⟩ (Iv 0)).setCell ⟨R,1,none⟩ (Iv 0)).heap.size:=fun k n=>by
    have:=az.out.size
    simp
    omega
   clear r0 r1 z0 z1;generalize (r.setCell ⟨R,0,none⟩ (Iv 0)).setCell ⟨R,1,none⟩ (Iv 0)=w9 at K D3 D4 D5 |-;have q0:=Qb K 0 _ Yz;have q1:=Qb K 1 _ Yz;exact Xy (v:=.tuple #[Pv B 0,.agg #[Iv 0,Iv 0]]) (by simp[results,results163,go_sem,q0,q1]) Yz ⟨D3,.inr (.inr ⟨HZ.out,ax.out,i,j,a,g,B,_,_,Yz,Yz,bu.out.1,bu.out.2,Yz,D4,D5⟩)⟩
def SOk (w:World) (b B0:Nat) (s:JSt):Prop:=∃ O A,SAt w b O A s/\(∀ k,A k->B0<=k/\k<w.heap.size)/\JOk s
section
variable {w w':World}{b B0:Nat}{s:JSt}
theorem SOk.below (h:SOk w b B0 s) (k:Below w.heap.size w w'):SOk w' b B0 s:=by
 obtain⟨O,A,f,d,e⟩:=h
 exact⟨O,A,f.below k,fun c a=>⟨(d c a).1,Zl (d c a).2 k.size⟩,e⟩
theorem STo.ok {A:Nat->Prop}{d:JSt}(h:STo w w' b O A d) (f:∀ k,A k->B0<=k/\k<w.heap.size) (i:∀ k,O k->A k) (m:B0<=w.heap.size) (l:JOk d):SOk w' b B0 d/\Below B0 w w':=by
 obtain⟨N,g,j,c⟩:=h
 have e:=c.size;refine⟨⟨_,_,j,fun k a=>?_,l⟩,⟨c.os,c.tape,c.output,c.size,fun k a=>c.block k (by omega) (fun e=>by have:=f k (i k e);omega)⟩⟩
 rcases a with a | a
 ·have:=f k a;omega
 ·have:=g k a;omega
theorem SOk.ins (h:SOk w b B0 s) (n:B0<=w.heap.size){x:Qt}(c:intsL.In w Q x.regs [.slice rg x.regs.length rc]) (a:intsL.In w Q x.args [.slice ag x.args.length ac]) (f:x.regs.length<=rc) (d:ZF x) :
 Calls prog 164 #[Pv b 0,Qd3 x rg ag rc ac] w fun e w'=>e=.returned (Iv (s.code x))/\SOk w' b B0 (s.ins x)/\Below B0 w w':=by
 obtain⟨O,A,i,j,g⟩:=h
 refine(QjV (fun k l=>(j k l).2) g i c a f d).mono ?_
 rintro e w' ⟨rfl,m⟩;exact⟨Z,m.ok j i.sub n (g.ins x)⟩
theorem SOk.end_ (h:SOk w b B0 s){x:ZA}{e:EP}(i:Qdn w Q x e) (c:-9223372036854775808<=x.a/\x.a<=9223372036854775807) (l:x.yes.regs.length<2305843009213693952/\x.yes.args.length<2305843009213693952/\x.no.regs.length<2305843009213693952/\x.no.args.length<2305843009213693952) :
 Calls prog 165 #[Pv b 0,.agg (QbW x e)] w fun r w'=>r=.returned (Iv (s.fin x))/\Below w.heap.size w w':=by
 obtain⟨O,A,g,j,f⟩:=h
 exact QjJ (fun k d=>(j k d).2) f g i c l
end
def Qki (w w':World) (e:Ending):Prop:=∃ G1 G2,e=.returned (.agg #[.slice (some ⟨G2,0,none⟩) 1 1])/\Blk w' G1 #[Iv 0,Nv,Nv,Iv 3,Iv 0,Iv 0,Nv,Nv,Iv 0,Nv,Nv,Nv] 86/\Blk w' G2 #[Iv 0,Nv,Nv,.slice (some ⟨G1,0,none⟩) 1 1] 89/\w.heap.size<=G1/\w.heap.size<=G2/\G1≠G2/\Below w.heap.size w w'
theorem Qjp (w:World):Calls prog 39 #[] w fun e w'=>Qki w w' e:=by
 have c:=Qf ((Bxs.start w).new #[Nv] 24);go_enter func39,ntmps39
 go_upto_region 1 with fail
 generalize w.alloc (.cells #[Nv] 24)=d at c |-;generalize w.heap.size=R at c |-;have g:=c.out.new #[Iv 0,Nv,Nv,Iv 3,Iv 0,Iv 0,Nv,Nv,Iv 0,Nv,Nv,Nv] 86;have b:=g.new #[Iv 0,Nv,Nv,.slice (some ⟨d.heap.size,0,none⟩) 1 1] 89;rw[World.size_alloc] at b
 have j:=b.cell (a:=[_,_]) 0 _ Z;have k:=b.free (a:=[_,_]) 0;have f:=Qf (b.set (a:=[_,_]) 0 (.slice (some ⟨d.heap.size+1,0,none⟩) 1 1));clear g b;go_wp2
 have h:=f.out.cell (a:=[_,_]) 0 _ Z;have i:d.heap.size≠d.heap.size+1:=by omega
 exact Xy (v:=.agg #[.slice (some ⟨d.heap.size+1,0,none⟩) 1 1]) (by simp[results,results39,go_sem,h]) Z ⟨_,_,Z,f.out.at (a:=[_]),f.out.at (a:=[]),c.out.bel.size,Nat.le_succ_of_le c.out.bel.size,i,f.out.bel⟩
theorem QbJ {α:Type}{A:Lay α}{c:Array Value}{x:α}(h:Blk w G c t) (f:c.toList=cs) (d:A.In w All x cs):A.list.In w All [x] [.slice (some ⟨G,0,none⟩) 1 1]:=by
 refine⟨some ⟨G,0,none⟩,1,Z,fun i y b=>?_⟩
 have g:i=0:=by
  have:=(Zi b).1
  simp at this;exact this
 subst g;simp at b
 subst b;refine⟨G,0,cs,Z,Y,h.lt,fun j k=>?_,d⟩
 have e:=A.len d;have a:j<c.size:=by rw[<-f] at e;simp at e;omega
 rw[Nat.zero_mul,XK,<-f,Array.getElem?_toList]
 exact(Qb h j c[j] (Xj a)).trans (Xj a).symm
end Go.Proofs.YtjhdpajpibdnaafGreat
