import Derived.Test.YtjhdpajpibdnaafGreatP4
set_option maxHeartbeats 16000000
set_option maxRecDepth 100000
namespace Go.Proofs.YtjhdpajpibdnaafGreat
open Go.ChangeShapes Go.WideShapes Go.ChangeAt Go.RowKit _root_.Go.Proofs.Tryz
set_option linter.unusedSimpArgs false
set_option linter.unusedVariables false
variable {w w' w6 w1 w2:World}{n b c k m rc ac X j B i cm g N d f fi cap bp q R pages id bi cc funcs s ci rl al ca ri vl most cR cA G:Nat}{O Q O':Nat→Prop}{l xs regs inp:List Int}{p a rg ag pm pi pa pR pA ra aa:Option Addr}{t e:TypeId}{v:Value}{P:Program}{L bs:List Bool}{x ya xc xk fr xa xb xn yb:Int}{ds cs:List Value}{ops:Array Oper}
theorem Zh (w:World) (c:Int):Calls prog 268 #[.bool true,Iv c] w fun e w'=>e=.returned (.tuple #[])/\w'=w:=by
 go_enter func268,ntmps268
 go_wp2
 exact Xz (v:=.tuple #[]) (by simp[results,results268,go_sem]) Z ⟨Z,Z⟩
theorem Zf (w:World) (c:Int):Calls prog 268 #[.bool false,Iv c] w fun e w'=>e=.panicked (Qe1 c)/\w'=w:=by
 go_enter func268,ntmps268
 go_wp2
 exact⟨Z,Z,Z⟩
theorem QbC (w:World) (ok:Bool) (c:Int):Calls prog 268 #[.bool ok,Iv c] w fun e w'=>w'=w/\((ok=true/\e=.returned (.tuple #[]))\/(ok=false/\e=.panicked (Qe1 c))):=by
 cases ok
 ·exact(Zf w c).mono (fun e w' h=>⟨h.2,.inr ⟨Z,h.1⟩⟩)
 ·exact(Zh w c).mono (fun e w' h=>⟨h.2,.inl ⟨Z,h.1⟩⟩)
def ZG (c:Int) (V:Value->Prop) (e:Ending):Prop:=(c=0/\∃ x,e=.returned x/\V x)\/(c≠0/\e=.panicked (Qe1 c))
theorem ZG.good {c:Int}{V:Value->Prop}{x:Value}(h:c=0) (a:V x):ZG c V (.returned x):=.inl ⟨h,x,Z,a⟩
theorem ZG.bad {c d:Int}{V:Value->Prop}(h:c=d) (a:d≠0):ZG c V (.panicked (Qe1 d)):=.inr ⟨by omega,by rw[h]⟩
def QmP (w:World) (A:Nat->Prop) (s:JSt) (a:Int) (x:Value):Prop:=∃ (t:TT 6) (p:Option Addr) (c:Nat),s.at a=some t/\x=Tv t p c/\TIn w (fun g=>¬ A g) t p/\t.ok
def JSt.has (s:JSt) (a:Int):Int:=match s.at a with | none=>1 | some _=>0
theorem Qb3 {w:World}{A:Nat->Prop}{s:JSt}(a:Int) (y:s.L.length<=80) (h:SAt w b O A s) :
 Calls prog 270 #[Pv b 0,Iv a] w fun e w'=>ZG (s.has a) (QmP w' A s a) e/\Below w.heap.size w w':=by
 have x:=Zd w (.cells #[Iv 0,Iv 0,Nv] 105);obtain⟨pm,cm,hh,a1,c1,a2,c2,a3,c3,aL,cL,R⟩:=h.read
 obtain⟨-,-,-,-,-,-,m⟩:=(R.below x).cells
 have B:=Qa R.row;have k:=Qa x;have f:Hid (Blk (w.alloc (.cells #[Iv 0,Iv 0,Nv] 105)) w.heap.size #[Iv 0,Iv 0,Nv] 105):=Blk.new _ _ _;clear R h x;go_enter func270,ntmps270
 go_upto_region 1 with fail
 generalize w.alloc (.cells #[Iv 0,Iv 0,Nv] 105)=H at m B k f |-;by_cases N:0<=a
 rotate_left
 ·have W:decide (a>=0)=false:=by simpa using N
  have E:Hid (s.has a=1):=by show _=_;unfold JSt.has JSt.at;rw[Xs (by omega)]
  generalize s.L.length=I at m y;go_wp2_with fail
  refine(Zf _ 1).mono ?_
  rintro K w' ⟨rfl,j⟩;subst j;exact⟨Z,ZG.bad E.out (by decide),k.out⟩
 obtain⟨i,rfl⟩:=Xc N
 by_cases C:i<s.L.length
 rotate_left
 ·have E:Hid (s.has (i:Int)=1):=by
   show _=_;unfold JSt.has JSt.at;rw[Xr (by omega),XT,Xk (by omega)]
  have u:¬ (i:Int)<s.L.length:=by omega
  generalize s.L.length=I at m u C y;go_wp2_with fail
  refine(Zf _ 1).mono ?_
  rintro K w' ⟨rfl,j⟩;subst j;exact⟨Z,ZG.bad E.out (by decide),k.out⟩
 have d:s.L[i]?=some s.L[i]:=Zg C;generalize s.L[i]=t at d;have q:s.at (i:Int)=some t:=by unfold JSt.at;rw[Xr (by omega)];exact d
 obtain⟨g,p,c,rfl,z,G,M,J,P⟩:=B.out i t d
 have E:Hid (s.has (i:Int)=0):=by show _=_;unfold JSt.has;rw[q]
 have l:=Xi w ⟨g,i*3,none⟩ z;have e0:=Qk z k.out;have e1:=Qk G k.out;have e2:=Qk M k.out;have V:¬ w.heap.size=g:=fun e=>by have:g<w.heap.size:=l;omega
 have D:Hid (TIn w (fun g=>¬ A g) t p/\t.ok):=⟨J,P⟩;have U:=Qa q;have o:(i:Int)<s.L.length:=by omega
 clear z G M J P d q B l;have y0:=Qb f.out 0 _ Z;have y1:=Qb f.out 1 _ Z;have y2:=Qb f.out 2 _ Z;have z0:=Qj f.out 0;have z1:=Qj f.out 1;have z2:=Qj f.out 2;generalize Q:s.L.length=I at m C o y;go_wp2_with (go_at_call 268;refine(Zh _ _).mono ?_;rintro K w' ⟨rfl,j⟩;have j:=j.symm;subst j)
 have n:=f.out.set3 (Iv t.kind) (Iv t.r) (.slice p t.len c);have F:Below w.heap.size w (((H.setCell ⟨w.heap.size,0,none⟩ (Iv t.kind)).setCell ⟨w.heap.size,1,none⟩ (Iv t.r)).setCell ⟨w.heap.size,2,none⟩ (.slice p t.len c)):=((k.out.setCell Ze _).setCell Ze _).setCell Ze _;generalize ((H.setCell ⟨w.heap.size,0,none⟩ (Iv t.kind)).setCell ⟨w.heap.size,1,none⟩ (Iv t.r)).setCell ⟨w.heap.size,2,none⟩ (.slice p t.len c)=w9 at n F |-;have S:=Qb n 0 _ Z;have T:=Qb n 1 _ Z;have X:=Qb n 2 _ Z;exact Xy (v:=Tv t p c) (by simp[results,results270,go_sem,S,T,X]) Z ⟨ZG.good E.out ⟨t,p,c,U.out,Z,D.out.1.below F,D.out.2⟩,F⟩
theorem Qgw {s:JSt}{a b:Int}{c:Bool}(h:s.has a≠0):s.want a b c=s.has a:=by
 unfold JSt.has JSt.want at *
 cases e:s.at a with
 | none=>rfl
 | some t=>rw[e] at h;exact absurd Z h
theorem SAt.more {w:World}{A:Nat->Prop}{s:JSt}(f:∀ k,O k->k<w.heap.size) (h:SAt w b O A s) (k:Below w.heap.size w w'):SAt w' b O (fun k=>A k\/w.heap.size<=k) s :=
 h.keep (fun g c _=>k.block g c) (fun _ h _=>h) (fun k a d e=>by rcases e with e | e;exact a e;omega) (fun k a=>.inl (h.sub k a))
theorem TIn.over {w w9:World}{A:Nat->Prop}{n:Nat}{t:TT n}{p:Option Addr}(h:TIn w2 (fun g=>¬ (A g\/w.heap.size<=g)) t p) (b:Below w.heap.size w w2) (c:Below w.heap.size w w9):TIn w9 (fun g=>¬ (A g\/w.heap.size<=g)) t p :=
 h.keep (fun k a _=>(c.block k (Nat.lt_of_not_le (fun e=>a (.inr e)))).trans (b.block k (Nat.lt_of_not_le (fun e=>a (.inr e)))).symm) (fun _ h _=>h)
theorem TIn.less {w:World}{A:Nat->Prop}{n:Nat}{t:TT n}{p:Option Addr}(h:TIn w2 (fun g=>¬ (A g\/w.heap.size<=g)) t p):TIn w2 (fun g=>¬ A g) t p:=h.mono (fun k a _ e=>a (.inl e))
structure QhD (w wc:World) (R B:Nat) (A:Nat->Prop){n:Nat}(t:TT n) (p:Option Addr) (c:Nat):Prop where
 bel:Below w.heap.size w wc
 res:Blk wc R #[Iv 0,Iv 0,Nv] 105
 box:Blk wc B #[Iv t.kind,Iv t.r,.slice p t.len c] 105
 lay:TIn wc (fun g=>¬ (A g\/w.heap.size<=g)) t p
 farR:w.heap.size<=R
 farB:w.heap.size<=B
 ne:¬ B=R
section
variable {w wc w9:World}{R B:Nat}{A:Nat->Prop}{n:Nat}{t:TT n}{p:Option Addr}{c:Nat}
theorem QhD.below (h:QhD w wc R B A t p c) (k:Below wc.heap.size wc w9):QhD w w9 R B A t p c :=
 ⟨h.bel.trans (k.mono h.bel.size),h.res.below k,h.box.below k,h.lay.below k,h.farR,h.farB,h.ne⟩
theorem QhD.cells (h:QhD w wc R B A t p c):wc.cell? ⟨B,0,none⟩=some (Iv t.kind)/\wc.cell? ⟨B,1,none⟩=some (Iv t.r)/\wc.cell? ⟨B,2,none⟩=some (.slice p t.len c) /\
 wc.cell? ⟨R,0,none⟩=some (Iv 0)/\wc.cell? ⟨R,1,none⟩=some (Iv 0)/\wc.cell? ⟨R,2,none⟩=some (Nv)/\wc.frozen? ⟨R,0,none⟩=false/\wc.frozen? ⟨R,1,none⟩=false/\wc.frozen? ⟨R,2,none⟩=false :=
 ⟨Qb h.box 0 _ Z,Qb h.box 1 _ Z,Qb h.box 2 _ Z,Qb h.res 0 _ Z,Qb h.res 1 _ Z,Qb h.res 2 _ Z,Qj h.res 0,Qj h.res 1,Qj h.res 2⟩
theorem QnQ {k r:Int}{q:Option Addr}{l:Nat}(c:Below w.heap.size w wc) (b:Blk wc R #[Iv 0,Iv 0,Nv] 105) (a:w.heap.size<=R) :
 Blk (((wc.setCell ⟨R,0,none⟩ (Iv k)).setCell ⟨R,1,none⟩ (Iv r)).setCell ⟨R,2,none⟩ (.slice q l d)) R #[Iv k,Iv r,.slice q l d] 105/\Below w.heap.size w (((wc.setCell ⟨R,0,none⟩ (Iv k)).setCell ⟨R,1,none⟩ (Iv r)).setCell ⟨R,2,none⟩ (.slice q l d)) :=
 ⟨b.set3 _ _ _,((c.setCell (p:=⟨R,0,none⟩) a _).setCell (p:=⟨R,1,none⟩) a _).setCell (p:=⟨R,2,none⟩) a _⟩
theorem QhD.mk1 (a:Below w.heap.size w wc) (b:Blk wc R #[Iv 0,Iv 0,Nv] 105) (e:w.heap.size<=R) (f:TIn wc (fun g=>¬ (A g\/w.heap.size<=g)) t p) :
 QhD w (wc.alloc (.cells #[Iv t.kind,Iv t.r,.slice p t.len c] 105)) R wc.heap.size A t p c:=by
 have d:=Zd wc (.cells #[Iv t.kind,Iv t.r,.slice p t.len c] 105);have h:=b.lt;exact⟨a.trans (d.mono a.size),b.below d,Blk.new _ _ _,f.alloc _,e,a.size,by omega⟩
end
theorem QhD.told {w wc:World}{R B:Nat}{A:Nat->Prop}{s:JSt}{a:Int}{t:TT 6}{p:Option Addr}{c:Nat}(h:QhD w wc R B A t p c) (g:s.at a=some t) (e:t.ok) :
 ∃ w9,w9=((wc.setCell ⟨R,0,none⟩ (Iv t.kind)).setCell ⟨R,1,none⟩ (Iv t.r)).setCell ⟨R,2,none⟩ (.slice p t.len c)/\w9.cell? ⟨R,0,none⟩=some (Iv t.kind)/\w9.cell? ⟨R,1,none⟩=some (Iv t.r)/\w9.cell? ⟨R,2,none⟩=some (.slice p t.len c) /\
  QmP w9 A s a (Tv t p c)/\Below w.heap.size w w9:=by
 obtain⟨b,f⟩:=QnQ (k:=t.kind) (r:=t.r) (q:=p) (l:=t.len) (d:=c) h.bel h.res h.farR
 exact⟨_,Z,Qb b 0 _ Z,Qb b 1 _ Z,Qb b 2 _ Z,⟨t,p,c,g,Z,(h.lay.over h.bel f).less,e⟩,f⟩
theorem Qfm {w:World}{A:Nat->Prop}{s:JSt}(a d:Int) (hL:s.L.length<=80) (G:∀ k,O k->k<w.heap.size) (h:SAt w b O A s) :
 Calls prog 266 #[Pv b 0,Iv a,Iv d] w fun e w'=>ZG (s.want a d false) (QmP w' A s a) e/\Below w.heap.size w w':=by
 have F:=Zd w (.cells #[Iv 0,Iv 0,Nv] 105);have J:=Qa (h.more G F);have u:=Qa F;have z:Hid (Blk (w.alloc (.cells #[Iv 0,Iv 0,Nv] 105)) w.heap.size #[Iv 0,Iv 0,Nv] 105):=Blk.new _ _ _;clear h F;go_enter func266,ntmps266
 go_upto_region 1 with fail
 generalize w.alloc (.cells #[Iv 0,Iv 0,Nv] 105)=w1 at J u z |-;obtain⟨R,I⟩:∃ R,w.heap.size=R:=⟨_,Z⟩
 have HR:=Qa (Nat.le_of_eq I);rw[I] at z |-
 clear I;go_wp2_with fail
 refine(Qb3 a hL J.out).mono ?_
 rintro U C ⟨G,H⟩;have K:Hid (Below w.heap.size w C):=u.out.trans (H.mono u.out.size);have T:=Qa (z.out.below H);rcases G with ⟨m,x,rfl,t,p,c,N,rfl,M,g⟩|⟨m,rfl⟩
 rotate_left
 ·exact⟨Z,.inr ⟨by rw[Qgw m];exact m,by rw[Qgw m]⟩,K.out⟩
 have f:=Qa (QhD.mk1 (c:=c) K.out T.out HR.out M);have o:=Qa (Xh N g);clear M N g H z u J T;go_upto_region 2 with fail
 generalize C.alloc (.cells #[Iv t.kind,Iv t.r,.slice p t.len c] 105)=w3 at f |-;generalize C.heap.size=B at f |-;obtain⟨y0,y1,y2,r0,r1,r2,z0,z1,z2⟩:=f.out.cells
 have aa:=f.out.ne;by_cases q:t.kind=d
 rotate_left
 ·have j:(t.kind==d)=false:=by simpa using q
  have E:Hid (s.want a d false=9):=by show _=_;unfold JSt.want;rw[o.out.1];simp[q]
  generalize t.kind=tk at y0 q j;go_wp2_with fail
  refine(Zf _ 9).mono ?_
  rintro U w' ⟨rfl,i⟩;subst i;exact⟨Z,ZG.bad E.out (by decide),f.out.bel⟩
 ·subst q;have j:(t.kind==t.kind)=true:=by simp
  have E:Hid (s.want a t.kind false=0):=by show _=_;unfold JSt.want;rw[o.out.1];simp
  obtain⟨D,Q,l,n,y,S,P⟩:=f.out.told o.out.1 o.out.2
  have V:=Qa (Xh S P);have X:Hid (D.cell? ⟨R,0,none⟩=some (Iv t.kind)/\D.cell? ⟨R,1,none⟩=some (Iv t.r)/\D.cell? ⟨R,2,none⟩=some (.slice p t.len c)):=⟨l,n,y⟩;have W:=Qa Q;clear S P l n y Q;go_wp2_with (go_at_call 268;refine(Zh _ _).mono ?_;rintro U w' ⟨rfl,i⟩;have i:=i.symm;subst i)
  rw[<-W.out]
  obtain⟨l,n,y⟩:=X.out
  exact Xy (v:=Tv t p c) (by simp[results,results266,go_sem,l,n,y]) Z ⟨ZG.good E.out V.out.1,V.out.2⟩
theorem Qe2 {s:JSt}{a b:Int}(h:s.want a b false≠0):s.want a b true=s.want a b false:=by
 unfold JSt.want at *
 cases e:s.at a with
 | none=>rfl
 | some t =>
   rw[e] at h
   by_cases c:t.kind=b
   ·simp[c] at h
   ·simp[c]
theorem Qg2 {s:JSt}{a b:Int}{t:TT 6}(h:s.want a b false=0) (d:s.at a=some t):s.want a b true=if hHas s.H t.r then 0 else 10:=by
 unfold JSt.want at *;rw[d] at h |-
 by_cases c:t.kind=b
 ·simp only[c,if_true,Bool.true_and]
  cases hHas s.H t.r<;>rfl
 ·simp[c] at h
theorem Z0 {w:World}{A:Nat->Prop}{s:JSt}(a d:Int) (hL:s.L.length<=80) (l:∀ k,O k->k<w.heap.size) (h:SAt w b O A s) :
 Calls prog 248 #[Pv b 0,Iv a,Iv d] w fun e w'=>ZG (s.want a d true) (QmP w' A s a) e/\Below w.heap.size w w':=by
 have P:=Zd w (.cells #[Iv 0,Iv 0,Nv] 105);have D:=Qa (h.more l P);have n:=Qa P;have I:Hid (Blk (w.alloc (.cells #[Iv 0,Iv 0,Nv] 105)) w.heap.size #[Iv 0,Iv 0,Nv] 105):=Blk.new _ _ _;have HO:=Qa l;clear h P l;go_enter func248,ntmps248
 go_upto_region 1 with fail
 generalize w.alloc (.cells #[Iv 0,Iv 0,Nv] 105)=w1 at D n I |-;obtain⟨R,Q⟩:∃ R,w.heap.size=R:=⟨_,Z⟩
 have HR:=Qa (Nat.le_of_eq Q);rw[Q] at I |-
 clear Q;go_wp2_with fail
 refine(Qfm a d hL (fun k hk=>Zl (HO.out k hk) n.out.size) D.out).mono ?_
 rintro e' y ⟨l,F⟩;have T:Hid (Below w.heap.size w y):=n.out.trans (F.mono n.out.size);have X2:=Qa (I.out.below F);have H2:=Qa (D.out.below F);rcases l with ⟨g,x,rfl,t,p,c,K,rfl,V,j⟩|⟨g,rfl⟩
 rotate_left
 ·exact⟨Z,.inr ⟨by rw[Qe2 g];exact g,by rw[Qe2 g]⟩,T.out⟩
 have i:=Qa (QhD.mk1 (c:=c) T.out X2.out HR.out V);have U:=Qa (Xh K j);have E:=Qa (Qg2 g K);have J:=Qa (H2.out.below (Zd y (.cells #[Iv t.kind,Iv t.r,.slice p t.len c] 105)));clear V K j F I n D X2 g H2;go_upto_region 2 with fail
 generalize y.alloc (.cells #[Iv t.kind,Iv t.r,.slice p t.len c] 105)=N at i J |-;generalize y.heap.size=B at i |-;obtain⟨y0,y1,y2,r0,r1,r2,z0,z1,z2⟩:=i.out.cells
 have aa:=i.out.ne;obtain⟨pm,cm,hh,a1,c1,a2,c2,a3,c3,aL,cL,S⟩:=J.out.read
 obtain⟨-,q1,-⟩:=S.cells
 have C:Hid (∀ m,Calls prog 272 #[Pv hh 0,Iv t.r] (N.drewN m) fun e w'=>e=.returned (.bool (hHas s.H t.r))/\w'=N.drewN m):=fun m=>QcA t.r (show Qo (N.drewN m) hh s.H from S.held);clear S;generalize hHas s.H t.r=q at E C;go_region_with (first | (go_at_call 272;refine(C.out _).mono ?_;rintro e' w' ⟨rfl,f⟩;have f:=f.symm;subst f) | (go_at_call 268;refine(QbC _ _ _).mono ?_;rintro e' w' ⟨f,⟨z,rfl⟩|⟨z,rfl⟩⟩;rotate_left;exact⟨Z,ZG.bad (by rw[E.out,z];rfl) (by decide),by rw[f];exact QI i.out.bel _⟩;have f:=f.symm;subst f))
 all_goals
  have E9:Hid (s.want a d true=0):=by show _=_;rw[E.out,z];rfl
  clear z J E C;have T4:=i.out.below (QI Zr 1);obtain⟨M,h9,o,u,G,hv,W⟩:=T4.told U.out.1 U.out.2
  have HV:=Qa (Xh hv W);have X:Hid (M.cell? ⟨R,0,none⟩=some (Iv t.kind)/\M.cell? ⟨R,1,none⟩=some (Iv t.r)/\M.cell? ⟨R,2,none⟩=some (.slice p t.len c)):=⟨o,u,G⟩;have H9:=Qa h9;clear hv W o u G h9 T4;go_wp2
  rw[<-H9.out]
  obtain⟨o,u,G⟩:=X.out
  exact Xy (v:=Tv t p c) (by simp[results,results248,go_sem,o,u,G]) Z ⟨ZG.good E9.out HV.out.1,HV.out.2⟩
abbrev VNone:Value->Prop:=fun x=>x=.tuple #[]
theorem QbP {A:Nat->Prop}{s:JSt}(I:l.length=N) (U:N<=100000) (D:intsL.In w Q l [.slice p N c]) (V:s.L.length<=80) (z:∀ k,O k->k<w.heap.size) (h:SAt w b O A s) :
 Calls prog 240 #[Pv b 0,.slice p N c] w fun e w'=>ZG (Qu (fun a=>s.want a 1 false) l) VNone e/\Below w.heap.size w w':=by
 have H:=Qa h;have S:=Qa z;have W:=Qa D;have G:=Qa I;clear h z D I;go_enter func240,ntmps240
 go_wp2
 go_loopw [8] (fun i wr=>∃ k:Nat,k<=N/\i=Iv k/\Below w.heap.size w wr/\∀ (j:Nat) (y:Int),j<k->l[j]?=some y->s.want y 1 false=0) (fun i _=>N - (intOf i).toNat)
 case atStart=>exact⟨0,Xb _,Z,Zr,fun j y T=>by omega⟩
 case round =>
  obtain⟨k,F,rfl,K,E⟩:=hrel
  have q:=Qa K;have u:=Qa E;clear K E;by_cases r:k<N
  ·have t:(k:Int)<N:=by omega
   have f:k<l.length:=by rw[G.out];exact r
   obtain⟨g,o,rfl,-,hg,m⟩:=ZI W.out f
   obtain⟨y,d⟩:∃ y,l[k]?=some y:=⟨_,Zg f⟩
   rw[show l.getD k 0=y by rw[List.getD_eq_getElem?_getD,d];rfl] at m
   have B:=Qa d;clear d;have X:=Qk m q.out;clear m f;go_wp2_with fail
   refine(Qfm y 1 V (fun k F=>Zl (S.out k F) q.out.size) (H.out.below q.out)).mono ?_
   rintro e' R ⟨z,J⟩;have C:Hid (Below w.heap.size w R):=q.out.trans (J.mono q.out.size);rcases z with ⟨n,x,rfl,-⟩|⟨n,rfl⟩
   rotate_left
   ·exact⟨Z,.inr ⟨by rw[Qaq B.out u.out n];exact n,by rw[Qaq B.out u.out n]⟩,C.out⟩
   have M:=Qa n;clear n J X;go_wp2
   go_roundw
   case rel =>
    refine⟨k+1,r,by go_num,C.out,fun j P T d=>?_⟩
    rcases Nat.lt_or_ge j k with h | h
    ·exact u.out j P h d
    ·have:j=k:=by omega
     subst this;have e:=B.out.symm.trans d;injection e with e
     subst e;exact M.out
   case measure=>simp[intOf];omega
  ·have t:¬ (k:Int)<N:=by omega
   go_wp2
   exact Xz (v:=.tuple #[]) (by simp[results,results240,go_sem]) Z ⟨ZG.good (Z1 (fun j y d=>u.out j y (by have:=(Zi d).1;rw[G.out] at this;omega) d)) Z,q.out⟩
def QZ (n m:Nat):Int:=if 80<n+m then 2 else 0
theorem QeP {A:Nat->Prop}{s:JSt}(n:Nat) (B:n<=1000) (k:s.L.length<=80) (h:SAt w b O A s) :
 Calls prog 267 #[Pv b 0,Iv n] w fun e w'=>ZG (QZ s.L.length n) VNone e/\w'=w:=by
 obtain⟨m,o,t,p,x,l,u,z,r,q,y,g⟩:=h.read
 obtain⟨-,-,-,-,-,-,i⟩:=g.cells
 clear h g;generalize s.L.length=a at i k |-;by_cases d:80<a+n
 ·have E:Hid (QZ a n=2):=Xs d;have f:decide ((a:Int)+n<=80)=false:=Xu (by omega);clear d;go_enter func267,ntmps267
  go_wp2_with fail
  refine(Zf _ 2).mono ?_
  rintro j w' ⟨rfl,c⟩;subst c;exact⟨Z,ZG.bad E.out (by decide),Z⟩
 ·have E:Hid (QZ a n=0):=Xr d;have f:decide ((a:Int)+n<=80)=true:=Xt (by omega);clear d;go_enter func267,ntmps267
  go_wp2_with (go_at_call 268;refine(Zh _ _).mono ?_;rintro j w' ⟨rfl,c⟩;have c:=c.symm;subst c)
  exact Xz (v:=.tuple #[]) (by simp[results,results267,go_sem]) Z ⟨ZG.good E.out Z,Z⟩
def QO (w:World) (b:Nat) (O A:Nat->Prop) (s s':JSt) (c:Int) (e:Ending) (w':World):Prop :=
 (c=0/\e=.returned (.tuple #[])/\STo w w' b O A s')\/(c≠0/\e=.panicked (Qe1 c)/\STo w w' b O A s)
theorem STo.of_below {A:Nat->Prop}{s:JSt}(h:SAt w b O A s) (a:Below w.heap.size w w'):STo w w' b O A s:=(STo.same (h.below a)).after a
theorem Yh:type_of% @STo.of_below:=@STo.of_below
theorem QO.after {A:Nat->Prop}{s g:JSt}{c:Int}{e:Ending}(h:QO w1 b O A s g c e w') (i:Below w.heap.size w w1):QO w b O A s g c e w':=by
 rcases h with ⟨f,a,d⟩|⟨f,a,d⟩
 ·exact .inl ⟨f,a,d.after i⟩
 ·exact .inr ⟨f,a,d.after i⟩
theorem QO.bad {A:Nat->Prop}{s a:JSt}{c d:Int}(h:c=d) (f:d≠0) (e:STo w w' b O A s):QO w b O A s a c (.panicked (Qe1 d)) w':=.inr ⟨by omega,by rw[h],e⟩
theorem Qat {A:Nat->Prop}{s:JSt}{l:List (TT 6)}(hn:l.length=n) (al:n<=8) (hl:(Qp 6).In w (fun g=>¬ A g) l [.slice p n c]) (hL:s.L.length<=80) (hA:∀ k,A k->k<w.heap.size) (h:SAt w b O A s) :
 Calls prog 244 #[Pv b 0,.slice p n c] w fun e w'=>QO w b O A s { s with L:=s.L++l } (QZ s.L.length n) e w':=by
 obtain⟨i0,hi,af,X,ae⟩:=pInfoT
 have H:=Qa h;have B:=Qa hl;have U:=Qa hn;have C:=Qa (QeP n (by omega) hL h);have ai:=Qa hA;clear h hl hn hA;by_cases K:80<s.L.length+n
 ·rw[show QZ s.L.length n=2 from Xs K] at C |-
  clear K;go_enter func244,ntmps244
  go_wp2_with fail
  refine C.out.mono ?_;rintro e' w' ⟨⟨Q,-⟩|⟨Q,rfl⟩,d⟩
  ·cases Q
  subst d;exact⟨Z,.inr ⟨by decide,Z,STo.same H.out⟩⟩
 rw[show QZ s.L.length n=0 from Xr K] at C |-
 obtain⟨q,r,xs,N,f6,D,I,i⟩:=H.out.pushL ai.out
 have E:=Qa i;have z:=Qa I
 have C2:Hid (Calls prog 267 #[Pv b 0,Iv n] w fun e w'=>e=.returned (.tuple #[])/\w'=w):=C.out.mono (fun e w' h=>by
  rcases h with ⟨⟨-,x,rfl,hx⟩|⟨Q,-⟩,d⟩
  ·exact⟨by rw[hx],d⟩
  ·exact absurd Z Q)
 clear i I C;by_cases aj:n=0
 ·subst aj;have ab:l=[]:=Xf.1 U.out;subst ab
  have ha:Hid (∀ (t:TypeId) (F:World),(Builtin.append_ #[80,80] t #[.slice q s.L.length r,.slice p 0 c]).run prog F=.ok (.slice q s.L.length r) F):=fun (t:TypeId) (F:World)=>run_append_nothing (P:=prog) F 80 80 t 105 i0 pUnderT hi q s.L.length r D (.slice p 0 c) (by cases p with
   | none=>exact Src.ofNil F pUnderT c
   | some ad=>exact Src.ofSlice F pUnderT ad 0 c [] (by simp) (fun j u h=>by simp at h) (fun u h=>by cases h))
  have HZ:Hid (STo w (w.setCell ⟨b,6,none⟩ (.slice q s.L.length r)) b O A { s with L:=s.L++[] }):=by
   have e:∀ k,(w.setCell ⟨b,6,none⟩ (.slice q s.L.length r)).heap[k]?=w.heap[k]?:=fun k=>H.out.same6 N k;have hb:Below w.heap.size w (w.setCell ⟨b,6,none⟩ (.slice q s.L.length r)):=⟨Z,Z,Z,by simp,fun k _=>e k⟩;rw[List.append_nil]
   exact Yh H.out hb
  clear E z B;generalize s.L.length=nL at N ha HZ hL D K;go_enter func244,ntmps244
  go_wp2_with (first | (go_at_call 267;refine(C2.out).mono ?_;rintro e w' ⟨rfl,d⟩;have d:=d.symm;subst d) | (at_builtin;refine QaK Z (.tmp 12) (.tmp 13) 80 Z (.slice q nL r) (.slice p 0 c) Z Z (ha.out _ _) ?_))
  exact Xz (v:=.tuple #[]) (by simp[results,results244,go_sem]) Z (.inl ⟨Z,Z,HZ.out⟩)
 ·obtain⟨g0,o0,rfl⟩:∃ g0 o0,p=some ⟨g0,o0,none⟩:=by
   obtain⟨g,o,dd,e,-⟩:=Yf B.out (Zg (show 0<l.length by have:=U.out;omega))
   exact⟨g,o,e⟩
  obtain⟨M,W,d2,d3,d4⟩:=Lay.flat B.out (fun y cs hy=>by obtain⟨ya,yc,e,-⟩:=hy;subst e;exact QlU _ _ _ _ _)
  have G:M.length=n*3:=by rw[<-U.out];exact W
  have aa:=Qa G;have ag:=Qa d2;have ak:=Qa d3
  have f:Hid (∀ m g a,m.ownsRow 0 105 3 (.slice (some ⟨g,0,none⟩) (s.L.length+n) a) (s.L.length+n) (xs++M)->w.grownBy m (Value.slice q s.L.length r).ownBlock->((Value.slice q s.L.length r).ownBlock=some g\/g=w.heap.size)->g<m.heap.size->m.cell? ⟨b,6,none⟩=some (.slice q s.L.length r)/\m.frozen? ⟨b,6,none⟩=false/\STo w (m.setCell ⟨b,6,none⟩ (.slice (some ⟨g,0,none⟩) (s.L.length+n) a)) b O A { s with L:=s.L++l }):=by
   intro m g a J R S T;rw[<-U.out] at J |-
   exact E.out m g a l M W J R S T d4
  clear E B W G d2 d3 d4;have ac:Hid (0<=w.heap.size):=Xb _;have V:s.L.length+n<=80:=by omega
  have ah:0<n:=by omega
  generalize s.L.length=nL at N z f hL D K V;go_enter func244,ntmps244
  go_wp2_with (first | (go_at_call 267;refine(C2.out).mono ?_;rintro e w' ⟨rfl,d⟩;have d:=d.symm;subst d) | (at_builtin;refine wpList_append_lies _ Z (.tmp 12) (.tmp 13) 80 Z 0 105 i0 (.agg #[Iv 0,Iv 0,Nv]) 3 40 pUnderT hi af X ae Z (by decide) _ _ _ Z z.out ⟨g0,o0,none⟩ n c M Z aa.out ag.out ak.out ah (by unfold maxLen;omega) (by omega) ac.out w.heap.size Z ?_))
  intro g2 a m J R S T;obtain⟨an,am,z9⟩:=f.out m g2 a J R S T
  have Z9:=Qa z9;clear J R S T f z z9 N f6;go_wp2
  exact Xz (v:=.tuple #[]) (by simp[results,results244,go_sem]) Z (.inl ⟨Z,Z,Z9.out⟩)
theorem Qeq {A:Nat->Prop}(n:∀ k,A k->k<w.heap.size){t:TT 6}(o:TIn w (fun g=>¬ A g) t p) (l:t.ok) :
 (Qp 6).In (w.alloc (.cells #[Iv t.kind,Iv t.r,.slice p t.len c] 105)) (fun g=>¬ A g) [t] [.slice (some ⟨w.heap.size,0,none⟩) 1 d]:=by
 refine⟨some ⟨w.heap.size,0,none⟩,d,Z,fun i x b=>?_⟩
 have q:i<1:=by simpa using (Zi b).1
 have f:i=0:=by omega
 subst f;simp at b
 subst b;have a:=Qe w #[Iv t.kind,Iv t.r,.slice p t.len c] 105;refine⟨w.heap.size,0,[Iv t.kind,Iv t.r,.slice p t.len c],Z,fun e=>by have:=n _ e;omega,XC a,fun j m=>?_,p,c,Z,o.alloc _,l⟩
 have m:j<3:=m;match j,m with
 | 0,_=>exact Qb a 0 _ Z
 | 1,_=>exact Qb a 1 _ Z
 | 2,_=>exact Qb a 2 _ Z
 | j+3,h=>exact absurd h (by omega)
theorem QbI {A:Nat->Prop}{s:JSt}(m:s.L.length<=80) (f:∀ k,A k->k<w.heap.size) (h:SAt w b O A s) :
 Calls prog 239 #[Pv b 0] w fun e w'=>QO w b O A s { s with L:=s.L++[tInt] } (QZ s.L.length 1) e w':=by
 have C:Hid (∀ d,Calls prog 244 #[Pv b 0,.slice (some ⟨w.heap.size,0,none⟩) 1 d] (w.alloc (.cells #[Iv 1,Iv 0,Nv] 105)) fun e w'=>QO w b O A s { s with L:=s.L++[tInt] } (QZ s.L.length 1) e w'):=fun d=>by
  have g:=Zd w (.cells #[Iv 1,Iv 0,Nv] 105);refine(Qat (l:=[tInt]) Z (by decide) (Qeq (t:=tInt) (p:=none) (c:=0) (d:=d) f (fun i x q=>by simp[tInt] at q) (by unfold TT.ok;simp[tInt])) m (fun k r=>Zl (f k r) g.size) (h.below g)).mono (fun e w' a=>a.after g)
 clear h m f;go_enter func239,ntmps239
 go_wp2_with fail
 refine(C.out _).mono ?_
 rintro u w' a;have o:=Qa a;rcases a with ⟨n,rfl,j⟩|⟨n,rfl,j⟩
 rotate_left
 ·exact⟨Z,o.out⟩
 clear n j;go_wp2
 exact Xz (v:=.tuple #[]) (by simp[results,results239,go_sem]) Z o.out
theorem Qj4 (w:World) (Q:Nat->Prop) (k r:Int):TIn (n:=6) w Q (mkT k r []) none:=fun i x a=>by simp at a
theorem Qkw {k r:Int}(h:-9223372036854775808<=r/\r<=9223372036854775807) (a:-9223372036854775808<=k/\k<=9223372036854775807):TT.ok (n:=6) (mkT k r []):=by
 unfold TT.ok;simp
 omega
theorem QcK {A:Nat->Prop}{s:JSt}(k r:Int) (m:0<=r/\r<=1000) (g:0<=k/\k<=4) (d:Nat) (i:s.L.length<=80) (f:∀ k,A k->k<w.heap.size) (h:SAt w b O A s) :
 Calls prog 244 #[Pv b 0,.slice (some ⟨w.heap.size,0,none⟩) 1 d] (w.alloc (.cells #[Iv k,Iv r,Nv] 105)) fun e w'=>QO w b O A s { s with L:=s.L++[mkT k r []] } (QZ s.L.length 1) e w':=by
 have a:=Zd w (.cells #[Iv k,Iv r,Nv] 105);exact(Qat (l:=[mkT k r []]) Z (by simp) (Qeq (t:=mkT k r []) (p:=none) (c:=0) (d:=d) f (Qj4 _ _ _ _) (Qkw (by omega) (by omega))) i (fun k g=>Zl (f k g) a.size) (h.below a)).mono (fun e w' j=>j.after a)
def JSt.openC (s:JSt):Int:=if 80<s.L.length+1\/s.H.length=16 then 2 else 0
def JSt.openS (s:JSt):JSt:={ s with H:=s.H++[true],L:=s.L++[mkT 2 s.H.length []] }
theorem QiE {A:Nat->Prop}{s:JSt}(hH:s.H.length<=16) (T:s.L.length<=80) (P:∀ k,A k->k<w.heap.size) (h:SAt w b O A s) :
 Calls prog 241 #[Pv b 0] w fun e w'=>QO w b O A s s.openS s.openC e w':=by
 have H:=Qa h;have Q:=Qa P;have C:=Qa (QeP 1 (by decide) T h);clear h P;by_cases n:80<s.L.length+1
 ·rw[show QZ s.L.length 1=2 from Xs n] at C
  have E:Hid (s.openC=2):=Xs (.inl n);clear n;go_enter func241,ntmps241
  go_wp2_with fail
  refine C.out.mono ?_;rintro J w' ⟨⟨q,-⟩|⟨q,rfl⟩,a⟩
  ·cases q
  subst a;exact⟨Yz,QO.bad E.out (by decide) (STo.same H.out)⟩
 rw[show QZ s.L.length 1=0 from Xr n] at C
 have z:Hid (Calls prog 267 #[Pv b 0,Iv 1] w fun e w'=>e=.returned (.tuple #[])/\w'=w):=C.out.mono (fun e w' h=>by
  rcases h with ⟨⟨-,x,rfl,W⟩|⟨q,-⟩,a⟩
  ·exact⟨by rw[W],a⟩
  ·exact absurd Yz q)
 clear C;obtain⟨hh,X,f,i⟩:=H.out.setH Q.out
 have m:=Qa (QcS f);have D:=Qa i;clear f i;by_cases l:s.H.length=16
 ·have E:Hid (s.openC=2):=Xs (.inr l);rw[show QbN s.H=-1 by unfold QbN;rw[Xr (by omega)],show QcJ s.H=s.H by unfold QcJ;rw[Xr (by omega)]] at m
  clear l n;go_enter func241,ntmps241
  go_wp2_with (first | (go_at_call 267;refine(z.out).mono ?_;rintro e w' ⟨rfl,a⟩;have a:=a.symm;subst a) | (go_at_call 237;refine(m.out).mono ?_;rintro e y ⟨rfl,c,g⟩;have Z:=Qa (D.out y _ c g);clear c g))
  refine(Zf _ 2).mono ?_
  rintro J w' ⟨rfl,a⟩;subst a;exact⟨Yz,QO.bad E.out (by decide) Z.out⟩
 ·have E:Hid (s.openC=0):=Xr (by omega);have j:s.H.length<16:=by omega
  rw[show QbN s.H=(s.H.length:Int) by unfold QbN;rw[Xs j],show QcJ s.H=s.H++[true] by unfold QcJ;rw[Xs j]] at m
  have r:s.H.length<=1000:=by omega
  generalize o:s.H.length=I at m j r;have u:=Qa o;have V:decide ((I:Int)>=0)=true:=Xt (by omega);clear o l;go_enter func241,ntmps241
  go_wp2_with (first | (go_at_call 267;refine(z.out).mono ?_;rintro e w' ⟨rfl,a⟩;have a:=a.symm;subst a) | (go_at_call 237;refine(m.out).mono ?_;rintro e y ⟨rfl,c,g⟩;have Z:=Qa (D.out y _ c g);clear c g))
  refine(Zh _ _).mono ?_
  rintro J w' ⟨rfl,a⟩;have a:=a.symm;subst a;obtain⟨N,K,S,B⟩:=Z.out
  have G:=Qa (Xh K B);have R:=Qa (fun d=>QcK 2 (I:Int) (by omega) (by decide) d (by exact T) (fun k p=>by rcases p with p | p;exact Zl (Q.out k p) B.size;exact(K k p).2) S);clear K S B Z D m z;go_wp2_with fail
  refine(R.out _).mono ?_
  rintro J w2 U;rcases U with ⟨M,rfl,t⟩|⟨M,rfl,t⟩
  rotate_left
  ·exact absurd (Xr n) M
  have F:=Qa (STo.join G.out.1 G.out.2 t);clear M t R G;go_wp2
  refine Xz (v:=.tuple #[]) (by simp[results,results241,go_sem]) Yz (.inl ⟨E.out,Yz,?_⟩);have e:s.openS={ ({ s with H:=s.H++[true] }) with L:=({ s with H:=s.H++[true] }).L++[mkT 2 (I:Int) []] }:=by unfold JSt.openS;rw[u.out]
  rw[e]
  exact F.out
def JSt.freeC (s:JSt) (a:Int):Int:=match s.at a with
 | none=>1
 | some t=>Qv (s.want a 2 true) (if t.r<s.f.regs then 11 else 0)
def JSt.freeS (s:JSt) (a:Int):JSt:={ s with H:=s.H.set (match s.at a with | none=>0 | some t=>t.r.toNat) false }
theorem Qhw {s:JSt}{a:Int}(h:s.want a 2 true≠0):s.freeC a=s.want a 2 true:=by
 unfold JSt.freeC
 cases e:s.at a with
 | none=>unfold JSt.want;rw[e]
 | some t=>show Qv _ _=_;unfold Qv;rw[Xr h]
theorem QiK {A:Nat->Prop}{s:JSt}(a:Int) (hL:s.L.length<=80) (J:∀ k,A k->k<w.heap.size) (h:SAt w b O A s) :
 Calls prog 242 #[Pv b 0,Iv a] w fun e w'=>QO w b O A s (s.freeS a) (s.freeC a) e w':=by
 have H:=Qa h;have M:=Qa J;clear h J;have aa:∀ (k r:Int) (p:Option Addr) (l c:Nat) (w:World),(Instr.field 105 (.agg #[Iv k,Iv r,.slice p l c]) 1).run prog w=.ok (Iv r) w:=fun _ _ _ _ _ _=>by kernel_rfl
 go_enter func242,ntmps242
 go_wp2_with fail
 refine(Z0 a 2 hL (fun k G=>M.out k (H.out.sub k G)) H.out).mono ?_
 rintro P w2 ⟨hO,I⟩;have z:=Qa I;have N:=Qa (H.out.below I);clear I;rcases hO with ⟨m,x,rfl,t,p,c,B,rfl,X,F⟩|⟨m,rfl⟩
 rotate_left
 ·exact⟨Yz,QO.bad (Qhw m) m (Yh H.out z.out)⟩
 have E:Hid (s.freeC a=if t.r<s.f.regs then 11 else 0):=by show _=_;unfold JSt.freeC Qv;rw[B];simp only[m,if_true]
 have j:hHas s.H t.r=true:=by
  obtain⟨t',n,e2,T⟩:=Z7 m
  rw[B] at n
  cases n
  exact T Yz
 have K:Hid (s.freeS a={ s with H:=QfC s.H t.r }):=by show _=_;unfold JSt.freeS QfC;rw[B,j];rfl
 obtain⟨pm,cm,hh,a1,c1,a2,c2,a3,c3,aL,cL,R⟩:=N.out.read
 obtain⟨-,U,q2,-⟩:=R.cells
 clear R X F B m j;obtain⟨S,u,d,i⟩:=N.out.setH (fun k G=>Zl (M.out k G) z.out.size)
 have n:=U.symm.trans u;simp only[Option.some.injEq,Value.pointer.injEq,Addr.mk.injEq,and_true] at n
 subst n;have Q:=Qa (Qh0 t.r d);have HS:=Qa i;clear d i u;simp only[Tv]
 generalize s.f.regs=C at q2 E;generalize t.r=D at E Q K |-;by_cases g:D<C
 ·rw[Xs g] at E
  have W:decide (D>=C)=false:=Xu (by omega);clear g;go_wp2_with fail
  refine(Zf _ 11).mono ?_
  rintro P w' ⟨rfl,o⟩;subst o;exact⟨Yz,QO.bad E.out (by decide) (Yh H.out z.out)⟩
 ·rw[Xr g] at E
  have W:decide (D>=C)=true:=Xt (by omega);clear g;go_wp2_with fail
  refine(Zh _ _).mono ?_
  rintro P w' ⟨rfl,o⟩;have o:=o.symm;subst o;go_wp2_with (go_at_call 269;refine(Q.out).mono ?_;rintro e V ⟨rfl,q,y⟩;have Z:=Qa (HS.out V _ q y);clear q y)
  exact Xz (v:=.tuple #[]) (by simp[results,results242,go_sem]) Yz (.inl ⟨E.out,Yz,by rw[K.out];exact Z.out.after z.out⟩)
def JSt.arrayC (s:JSt) (a b:Int):Int:=Qv (Qv (s.want a 2 true) (s.want b 1 false)) (QZ s.L.length 1)
theorem Ql {a b:Int}(h:a≠0):Qv a b=a:=by unfold Qv;rw[Xr h]
theorem Qx {a b:Int}(h:a=0):Qv a b=b:=by unfold Qv;rw[Xs h]
theorem Qln (a:Int) (g:-9223372036854775808<=a/\a<=9223372036854775807) (d:Nat):intsL.In (w.alloc (.cells #[Iv a] 3)) All [a] [.slice (some ⟨w.heap.size,0,none⟩) 1 d]:=by
 refine⟨_,d,Z,fun i x b=>?_⟩
 have k:i<1:=by simpa using (Zi b).1
 have c:i=0:=by omega
 subst c;simp at b
 subst b;have f:=Qe w #[Iv a] 3;refine⟨w.heap.size,0,[Iv a],Z,Y,XC f,fun j e=>?_,Z,g⟩
 have e:j<1:=e;match j,e with
 | 0,_=>exact Qb f 0 _ Z
 | j+1,h=>exact absurd h (by omega)
theorem Qj1 (a b:Int) (k:-9223372036854775808<=a/\a<=9223372036854775807) (l:-9223372036854775808<=b/\b<=9223372036854775807) (d:Nat):intsL.In (w.alloc (.cells #[Iv a,Iv b] 3)) All [a,b] [.slice (some ⟨w.heap.size,0,none⟩) 2 d]:=by
 refine⟨_,d,Z,fun i x e=>?_⟩
 have g:i<2:=by simpa using (Zi e).1
 have f:=Qe w #[Iv a,Iv b] 3;match i,g with
 | 0,_ =>
   simp at e
   subst e;refine⟨w.heap.size,0,[Iv a],Z,Y,XC f,fun j c=>?_,Z,k⟩
   have c:j<1:=c;match j,c with
   | 0,_=>exact Qb f 0 _ Z
   | j+1,h=>exact absurd h (by omega)
 | 1,_ =>
   simp at e
   subst e;refine⟨w.heap.size,0,[Iv b],Z,Y,XC f,fun j c=>?_,Z,l⟩
   have c:j<1:=c;match j,c with
   | 0,_=>exact Qb f 1 _ Z
   | j+1,h=>exact absurd h (by omega)
 | i+2,h=>exact absurd h (by omega)
theorem Qfo {s:JSt}{a:Int}:Qu (fun a=>s.want a 1 false) [a]=s.want a 1 false:=by
 show (if s.want a 1 false≠0 then s.want a 1 false else 0)=_;split
 ·rfl
 ·rename_i h;exact(Xq.1 h).symm
theorem Qit {s:JSt}{a b:Int}:Qu (fun a=>s.want a 1 false) [a,b]=Qv (s.want a 1 false) (s.want b 1 false):=by
 show (if s.want a 1 false≠0 then s.want a 1 false else Qu (fun a=>s.want a 1 false) [b])=_;rw[Qfo]
 by_cases h:s.want a 1 false=0
 ·rw[Xr (by simpa using h),Qx h]
 ·rw[Xs h,Ql h]
theorem Qbx {A:Nat->Prop}{s:JSt}(a:Int) (i:-9223372036854775808<=a/\a<=9223372036854775807) (d:Nat) (g:s.L.length<=80) (f:∀ k,O k->k<w.heap.size) (h:SAt w b O A s) :
 Calls prog 240 #[Pv b 0,.slice (some ⟨w.heap.size,0,none⟩) 1 d] (w.alloc (.cells #[Iv a] 3)) fun e w'=>ZG (s.want a 1 false) VNone e/\Below w.heap.size w w':=by
 have c:=Zd w (.cells #[Iv a] 3)
 have:=QbP (l:=[a]) Z (by simp) (Qln a i d) g (fun k j=>Zl (f k j) c.size) (h.below c)
 rw[Qfo] at this
 exact this.mono (fun e w' h=>⟨h.1,c.trans (h.2.mono c.size)⟩)
theorem Qfi {A:Nat->Prop}{s:JSt}(a a':Int) (j:-9223372036854775808<=a/\a<=9223372036854775807) (f:-9223372036854775808<=a'/\a'<=9223372036854775807) (d:Nat) (i:s.L.length<=80) (g:∀ k,O k->k<w.heap.size) (h:SAt w b O A s) :
 Calls prog 240 #[Pv b 0,.slice (some ⟨w.heap.size,0,none⟩) 2 d] (w.alloc (.cells #[Iv a,Iv a'] 3)) fun e w'=>ZG (Qv (s.want a 1 false) (s.want a' 1 false)) VNone e/\Below w.heap.size w w':=by
 have c:=Zd w (.cells #[Iv a,Iv a'] 3)
 have:=QbP (l:=[a,a']) Z (by simp) (Qj1 a a' j f d) i (fun k m=>Zl (g k m) c.size) (h.below c)
 rw[Qit] at this
 exact this.mono (fun e w' h=>⟨h.1,c.trans (h.2.mono c.size)⟩)
theorem QgS {A:Nat->Prop}{s:JSt}(a a':Int) (j:-9223372036854775808<=a'/\a'<=9223372036854775807) (hH:s.H.length<=16) (J:s.L.length<=80) (M:∀ k,A k->k<w.heap.size) (h:SAt w b O A s) :
 Calls prog 247 #[Pv b 0,Iv a,Iv a'] w fun e w'=>∀ t,(s.at a=some t\/(s.at a=none/\t=tInt))->QO w b O A s { s with L:=s.L++[mkT 4 t.r []] } (s.arrayC a a') e w':=by
 have H:=Qa h;have R:=Qa M;have HI:=Qa j;clear h M j;have aa:∀ (k r:Int) (p:Option Addr) (l c:Nat) (w:World),(Instr.field 105 (.agg #[Iv k,Iv r,.slice p l c]) 1).run prog w=.ok (Iv r) w:=fun _ _ _ _ _ _=>by kernel_rfl
 go_enter func247,ntmps247
 go_wp2_with fail
 refine(Z0 a 2 J (fun k g=>R.out k (H.out.sub k g)) H.out).mono ?_
 rintro I w2 ⟨K,u⟩;have B:=Qa u;have G:=Qa (H.out.below u);have m:=Qa (fun k g=>Zl (R.out k g) u.size);clear u;rcases K with ⟨f,x,rfl,t,p,c,D,rfl,ht,z⟩|⟨f,rfl⟩
 rotate_left
 ·exact⟨Z,fun t _=>QO.bad (by unfold JSt.arrayC;rw[Ql f,Ql f]) f (Yh H.out B.out)⟩
 have E:Hid (s.arrayC a a'=Qv (s.want a' 1 false) (QZ s.L.length 1)):=by show _=_;unfold JSt.arrayC;rw[Qx f]
 have T:0<=t.r/\t.r<=1000:=by
  obtain⟨V,Q,e2,e3⟩:=Z7 f
  rw[D] at Q
  cases Q
  have:=ZZ (e3 Z)
  omega
 have n:=Qa D;have HR:=Qa T;clear ht z D f T;simp only[Tv]
 have C:=Qa (fun d=>Qbx a' HI.out d J (fun k g=>m.out k (G.out.sub k g)) G.out);go_wp2_with fail
 refine(C.out _).mono ?_
 rintro I w3 ⟨K,q⟩;have o:=Qa (B.out.trans (q.mono B.out.size));have X:=Qa (G.out.below q);have y:=Qa (fun k g=>Zl (m.out k g) q.size);rcases K with ⟨f,x,rfl,hx⟩|⟨f,rfl⟩
 rotate_left
 ·exact⟨Z,fun t _=>QO.bad (by rw[E.out,Ql f]) f (Yh H.out o.out)⟩
 subst hx;have E2:Hid (s.arrayC a a'=QZ s.L.length 1):=by show _=_;rw[E.out,Qx f]
 clear q f E C;have S:=Qa (fun d=>QcK 4 t.r HR.out (by decide) d J y.out X.out);go_wp2_with fail
 refine(S.out _).mono ?_
 rintro I W P
 have F:Hid (∀ t,(s.at a=some t\/(s.at a=none/\t=tInt))->QO w b O A s { s with L:=s.L++[mkT 4 t.r []] } (s.arrayC a a') I W):=fun V i=>by
  rcases i with i | ⟨i,-⟩
  ·have e:=i.symm.trans n.out;injection e with e
   subst e;rw[E2.out]
   exact P.after o.out
  ·rw[n.out] at i;cases i
 rcases P with ⟨U,rfl,N⟩|⟨U,rfl,N⟩
 rotate_left
 ·exact⟨Z,F.out⟩
 clear U N S;go_wp2
 exact Xz (v:=.tuple #[]) (by simp[results,results247,go_sem]) Z F.out
theorem Qb2 {a:World}(h:Below B a w):Below B a w.drew:=⟨h.os,h.tape,h.output,h.size,h.block⟩
theorem Zx (h:Below w.drew.heap.size w.drew w'):Below w.heap.size w w':=⟨h.os,h.tape,h.output,h.size,h.block⟩
noncomputable def JSt.beC (s:JSt) (a:Int) (t:TT 6):Int:=match s.at a with | none=>1 | some v=>if ZU (v=t) then 0 else 9
theorem Qix {s:JSt}{a:Int}{t:TT 6}(h:s.has a≠0):s.beC a t=s.has a:=by
 unfold JSt.has JSt.beC at *
 cases e:s.at a with
 | none=>rfl
 | some t=>rw[e] at h;exact absurd Z h
theorem Qk9 {s:JSt}{a:Int}{t v:TT 6}(h:s.at a=some v):s.beC a t=if ZU (v=t) then 0 else 9:=by unfold JSt.beC;rw[h]
theorem Qdi {A:Nat->Prop}{s:JSt}(a:Int){t:TT 6}(S:TIn w Q t p) (hL:s.L.length<=80) (j:∀ x∈s.L,x.count<=100000) (hO:∀ k,O k->k<w.heap.size) (h:SAt w b O A s) :
 Calls prog 246 #[Pv b 0,Iv a,Tv t p c] w fun e w'=>ZG (s.beC a t) VNone e/\Below w.heap.size w w':=by
 have G:=Zd w (.cells #[Iv t.kind,Iv t.r,.slice p t.len c] 105);have N:=Qa (h.below G);have l:=Qa G;have I:=Qa (S.below G);have n:Hid (Blk (w.alloc (.cells #[Iv t.kind,Iv t.r,.slice p t.len c] 105)) w.heap.size #[Iv t.kind,Iv t.r,.slice p t.len c] 105):=Blk.new _ _ _;have R:=Qa j;clear h G hO S j;go_enter func246,ntmps246
 go_upto_region 1 with fail
 generalize w.alloc (.cells #[Iv t.kind,Iv t.r,.slice p t.len c] 105)=m at N l I n |-;obtain⟨X,W⟩:∃ X,w.heap.size=X:=⟨_,Z⟩
 rw[W] at n |-
 rw[<-W]
 have C:Hid (∀ f,Below m.heap.size m f->Calls prog 270 #[Pv b 0,Iv a] f fun e w'=>ZG (s.has a) (QmP w' A s a) e/\Below f.heap.size f w'):=fun f J=>Qb3 a hL (N.out.below J)
 have D:Hid (∀ (v:TT 6) (q:Option Addr) (d:Nat) (f:World),s.at a=some v->TIn f (fun g=>¬ A g) v q->Below m.heap.size m f->Calls prog 261 #[Tv v q d,Tv t p c] f fun e w'=>ZM e (v=t)/\Below f.heap.size f w') :=
  fun v q d f F o J=>same_any 6 v t q p d c f o.all (I.out.below J).all (R.out v (QdA F).1)
 clear N I R;have y0:=Qb n.out 0 _ Z;have y1:=Qb n.out 1 _ Z;have y2:=Qb n.out 2 _ Z;clear n
 go_region_with (first
  | (go_at_call 270;refine(C.out _ (Qb2 Zr)).mono ?_;rintro U w2 ⟨⟨y,x,rfl,v,q,d,F,rfl,u,-⟩|⟨y,rfl⟩,K⟩;rotate_left;exact⟨Z,.inr ⟨by rw[Qix y];exact y,by rw[Qix y]⟩,l.out.trans ((Zx K).mono l.out.size)⟩;have i:Below m.heap.size m w2:=Zx K;have y3:=Qk y0 i;have y4:=Qk y1 i;have y5:=Qk y2 i;have M:=Qa i;have H:=Qa (Xh F u);clear F u y K i)
  | (go_at_call 261;refine(D.out _ _ _ _ H.out.1 H.out.2 M.out).mono ?_;rintro U w3 ⟨⟨T,rfl,B⟩,P⟩;have V:=Qa (M.out.trans (P.mono M.out.size));have z:=Qa B;clear P B)
  | (go_at_call 268;refine(QbC _ _ _).mono ?_;rintro U w' ⟨E,⟨o,rfl⟩|⟨o,rfl⟩⟩;rotate_left;exact⟨Z,ZG.bad (by rw[Qk9 H.out.1,show ZU _=T from Bool.eq_iff_iff.2 (Qa6.trans z.out.symm),o];rfl) (by decide),by rw[E];exact l.out.trans (V.out.mono l.out.size)⟩;have E:=E.symm;subst E))
 all_goals
  have E9:Hid (s.beC a t=0):=by show _=_;rw[Qk9 H.out.1,show ZU _=T from Bool.eq_iff_iff.2 (Qa6.trans z.out.symm),o];rfl
  have B9:Hid (Below w.heap.size w w3):=l.out.trans (V.out.mono l.out.size);clear o;go_wp2
  exact Xz (v:=.tuple #[]) (by simp[results,results246,go_sem]) Z ⟨ZG.good E9.out Z,B9.out⟩
theorem Qef {o:Oper}{a:Act}{w:World}{K:Act->World->Prop}{Q:Exit->Act->World->Prop}{E:Prop}(b:o.guard=none) (F:Nat) (x y:Operand) (t u:TypeId)
 (i:o.op=.call { callee:=.value (.func F),args:=#[x,y],argTypes:=#[t,u] }) (f:∀ (args:Array Value) (w:World),(callFunc F args).run P w=.ok (.enter F args) w) (v z:Value) (d:a.eval x=v) (k:a.eval y=z) {R:Ending->World->Prop} (C:Calls P F #[v,z] w R)
 (h:∀ en w',R en w'->QnI K Q o a en w'):if Region.wanted o (yielded ops a.tmps)=true then Oper.wp P o a w K Q else E:=by
 have j:Region.wanted o (yielded ops a.tmps)=true:=by simp[Region.wanted,b]
 rw[Xs j]
 unfold Oper.wp
 have e:(execOp a.eval o).run P w=.ok (.enter F #[v,z]) w:=by
  have g:a.eval (.func F)=.func (.func F) #[] #[]:=rfl;unfold execOp;simp[i,resolve,invoke,Deferred.ofValue,d,k,f,g,Result.andThen]
 rw[e,Oper.upon_enter]
 refine C.mono fun en w' c=>?_
 have:=h en w' c
 cases en<;>exact this
theorem QbG {s:JSt}:∀ {l m:List Int}{x y:List (TT 6)},s.fields l=some x->s.fields m=some y->s.fields (l++m)=some (x++y)
 | [],m,x,y,h1,h2=>by simp[JSt.fields] at h1;subst h1;exact h2
 | k::r,m,x,y,h1,h2=>by
   simp only[JSt.fields] at h1
   show s.fields (k::(r++m))=_;simp only[JSt.fields]
   cases hk:s.at k with
   | none=>simp[hk] at h1
   | some t =>
     simp only[hk] at h1
     cases hr:s.fields r with
     | none=>simp[hr] at h1
     | some l =>
       simp only[hr,Option.some.injEq] at h1
       subst h1;rw[QbG hr h2]
       rfl
theorem QfB {s:JSt}{y:Int}{t:TT 6}{L:List (TT 6)}(b:l[k]?=some y) (a:s.at y=some t) (h:s.fields (l.take k)=some L):s.fields (l.take (k+1))=some (L++[t]):=by
 rw[XV,b]
 exact QbG h (by simp[JSt.fields,a])
theorem Qdx {s:JSt}:∀ {l:List Int}{y:Int},y∈l->s.at y=none->s.fields l=none
 | k::r,y,a,h=>by
   simp only[JSt.fields]
   rcases List.mem_cons.1 a with rfl | a
   ·rw[h]
   ·rw[Qdx a h]
    cases s.at k<;>rfl
def JSt.tupleC (s:JSt) (a:Int) (args:List Int):Int:=Qv (s.want a 2 true) (match s.at a with
 | none=>0
 | some t=>match s.fields args with
   | none=>1
   | some l=>if 4<TT.height (n:=7) (mkT 3 t.r l) then 19 else QZ s.L.length 1)
def JSt.tupleS (s:JSt) (a:Int) (args:List Int):JSt:={ s with L:=s.L++(match s.at a with
 | none=>[]
 | some t=>match s.fields args with
   | none=>[]
   | some l=>[TT.at (n:=7) 5 (mkT 3 t.r l)]) }
theorem Qf8 {R:Int}{r:Int}{l:List (TT 6)}(c:0<=r/\r<R) (b:l.length<=8) (h:∀ t∈l,t.check R=0):TT.check (n:=7) R (mkT 3 r l)=if 4<TT.height (n:=7) (mkT 3 r l) then 19 else 0:=by
 show (if 4<TT.height (n:=7) (mkT 3 r l) then 19 else TT.fault (n:=7) R (mkT 3 r l))=_
 have:TT.fault (n:=7) R (mkT 3 r l)=0:=by
  show (if ownC 3 r l.length R≠0 then ownC 3 r l.length R else Qu (TT.fault R) l)=0
  have:ownC 3 r l.length R=0:=by
   unfold ownC;rw[Xr (by omega),Xr (by omega),Xr (by omega),Xr (by omega),Xr (by omega)]
  rw[this]
  simp only[ne_eq,not_true_eq_false,if_false]
  exact QF.2 fun y a=>(QV.1 (h y a)).2
 rw[this]
structure TuS (w wc:World) (B lo:Nat) (A:Nat->Prop) (r:Int) (v:Value) (L:List (TT 6)):Prop where
 bel:Below w.heap.size w wc
 box:Blk wc B #[Iv 3,Iv r,v] 105
 row:TRq wc (fun g=>lo<=g) (fun g=>¬ (A g\/w.heap.size<=g)) v L
 lo1:B<lo
 lo2:lo<=wc.heap.size
 far:w.heap.size<=B
section
variable {w wc w9:World}{B lo:Nat}{A:Nat->Prop}{r:Int}{v:Value}{L:List (TT 6)}
theorem TRq.below {w:World}{v:Value}{L:List (TT 6)}(h:TRq w O Q v L) (k:Below w.heap.size w w'):TRq w' O Q v L:=h.keep (fun g a _=>k.block g a) (fun _ b=>h.own b) (fun _ h _=>h)
theorem TuS.below (h:TuS w wc B lo A r v L) (k:Below wc.heap.size wc w9):TuS w w9 B lo A r v L :=
 ⟨h.bel.trans (k.mono h.bel.size),h.box.below k,h.row.below k,h.lo1,Zt h.lo2 k.size,h.far⟩
theorem TuS.push {xs:List Value}{t:TT 6}(h:TuS w wc B lo A r (.slice a L.length c) L) (j:wc.ownsRow 0 105 3 (.slice a L.length c) L.length xs) (ht:(Lay.tt 6).In wc (fun g=>¬ (A g\/w.heap.size<=g)) t [Iv t.kind,Iv t.r,.slice p t.len d])
 (h1:w9.ownsRow 0 105 3 (.slice (some ⟨g,0,none⟩) (L.length+1) cap) (L.length+1) (xs++[Iv t.kind,Iv t.r,.slice p t.len d])) (n:wc.grownBy w9 (Value.slice a L.length c).ownBlock) (y:(Value.slice a L.length c).ownBlock=some g\/g=wc.heap.size) :
 w9.cell? ⟨B,2,none⟩=some (.slice a L.length c)/\w9.frozen? ⟨B,2,none⟩=false/\TuS w (w9.setCell ⟨B,2,none⟩ (.slice (some ⟨g,0,none⟩) (L.length+1) cap)) B lo A r (.slice (some ⟨g,0,none⟩) (L.length+1) cap) (L++[t]):=by
 have W:=n.size;have u:=h.lo1;have M:=h.lo2;have E:=h.box.lt;have aa:=h.bel.size;have b:∀ k,(Value.slice a L.length c).ownBlock=some k->lo<=k:=fun k f=>h.row.own f;have H:Blk w9 B #[Iv 3,Iv r,.slice a L.length c] 105:=(n.block B E (fun e=>by have:=b B e.symm;omega)).trans h.box
 have q:lo<=g:=by
  rcases y with y | y
  ·exact b g y
  ·omega
 have G:g≠B:=by omega
 have F:=h.far
 have o:∀ k,k<w.heap.size->(w9.setCell ⟨B,2,none⟩ (.slice (some ⟨g,0,none⟩) (L.length+1) cap)).heap[k]?=wc.heap[k]?:=fun k f=>by
  rw[Xd _ _ _ _ (show k≠B by omega),n.block k (by omega) (fun e=>by have:=b k e.symm;omega)]
 refine⟨Qb H 2 _ Z,Qj H 2,⟨⟨n.os.trans h.bel.os,n.tape.trans h.bel.tape,n.output.trans h.bel.output,by simp;omega,fun k f=>(o k f).trans (h.bel.block k f)⟩,?_,?_,u,by simp;omega,F⟩⟩
 ·have:=Qh H 2 (.slice (some ⟨g,0,none⟩) (L.length+1) cap)
  simpa using this
 ·obtain⟨m,J,q2,q3⟩:=h.row
  have e:m=xs:=by
   obtain⟨V,S⟩:=J
   obtain⟨f1,f2⟩:=j
   rcases S with ⟨z,R⟩|⟨g1,I,K,z,R,e5,e6,e7,e8,U⟩
   ·have:L.length=0:=R
    rw[Xf.1 (show m.length=0 by rw[V,this]),Xf.1 (show xs.length=0 by rw[f1,this])]
   ·rcases f2 with ⟨v,T⟩|⟨g2,Q,N,v,T,O,f6,f7,f8,X⟩
    ·rw[v] at z;cases z
    ·rw[z] at v
     cases v
     rw[e5] at O
     cases O
     rw[<-U,<-X]
  subst e;refine⟨m++[Iv t.kind,Iv t.r,.slice p t.len d],?_,fun k f=>?_,?_⟩
  ·rw[List.length_append]
   exact Qfd h1 (Xd _ _ _ _ G)
  ·simp[Value.ownBlock] at f
   subst f;exact q
  ·have l:∀ {x:TT 6} {C:List Value},(Lay.tt 6).In wc (fun g=>¬ (A g\/w.heap.size<=g)) x C->(Lay.tt 6).In (w9.setCell ⟨B,2,none⟩ (.slice (some ⟨g,0,none⟩) (L.length+1) cap)) (fun g=>¬ (A g\/w.heap.size<=g)) x C:=fun j=>(Lay.tt 6).keep (fun k f _=>o k (Nat.lt_of_not_le (fun e=>f (.inr e)))) (fun _ h _=>h) j;refine QcE (s:=3) (P:=fun x C=>(Lay.tt 6).In _ _ x C) J.1 (fun i x j=>l (q3 i x j)) (fun i x j=>?_);have hi:i<1:=by simpa using (Zi j).1
   have D:i=0:=by omega
   subst D;simp at j
   subst j;exact l ht
end
theorem QdD {w:World}{v:Value}{xs:List Value}(h:w.ownsRow 0 e s v n xs) (l:Below w.heap.size w w'):w'.ownsRow 0 e s v n xs:=by
 obtain⟨k,i⟩:=h
 refine⟨k,?_⟩
 rcases i with d | ⟨g,b,a,j,f,c,r⟩
 ·exact .inl d
 ·exact .inr ⟨g,b,a,j,f,(l.block g (XC c)).trans c,r⟩
theorem TuS.lin {w wc:World}{B lo:Nat}{A:Nat->Prop}{r:Int}{L:List (TT 6)}(h:TuS w wc B lo A r (.slice a N c) L) (t:∀ k,A k->k<w.heap.size):LIn wc (fun g=>¬ A g) L a/\N=L.length/\∀ x∈L,x.ok:=by
 obtain⟨f,j,e,u,b,-⟩:=h.row.form
 simp only[Value.slice.injEq] at e
 obtain⟨rfl,rfl,rfl⟩:=e
 have s:=h.lo1;have z:=h.far;refine⟨fun i x d=>?_,Z,fun x d=>?_⟩
 ·obtain⟨g,f,j,e,p,o,m,n,l⟩:=b i x d
  subst e;have y:lo<=g:=h.row.own Z;refine⟨g,0,f,j,Z,fun e=>by have:=t g e;omega,?_,?_,?_,n.mono (fun k v _ e=>v (.inl e))⟩
  ·rw[XK];exact p
  ·rw[XK];exact o
  ·rw[XK];exact m
 ·obtain⟨i,q,e⟩:=List.mem_iff_getElem.1 d
  obtain⟨g,f,j,e,p,o,m,n,l⟩:=b i x (by rw[Zg q,e])
  exact l
theorem Qjm {r:Int}{l:List (TT 6)}(h:∀ x∈l,x.count<=4681) (b:l.length<=8):TT.count (n:=7) (mkT 3 r l)<=100000:=by
 show 1+(l.map TT.count).sum<=100000;have c:=sum_le_mul (l.map TT.count) 4681 (fun x a=>by obtain⟨y,d,rfl⟩:=List.mem_map.1 a;exact h y d);rw[XN] at c
 have e:l.length*4681<=8*4681:=Xp _ b;omega
theorem QhQ {w:World}{A:Nat->Prop}(f:∀ k,A k->k<w.heap.size){r:Int}{L:List (TT 6)}(h:0<=r/\r<=1000) (i:¬ 4<TT.height (n:=7) (mkT 3 r L)) (e:LIn w (fun g=>¬ A g) L p) (a:∀ x∈L,x.ok) :
 (Qp 6).In (w.alloc (.cells #[Iv 3,Iv r,.slice p L.length c] 105)) (fun g=>¬ A g) [TT.at (n:=7) 5 (mkT 3 r L)] [.slice (some ⟨w.heap.size,0,none⟩) 1 d]:=by
 have b:TT.height (n:=7) (mkT 3 r L)<=5:=by omega
 have:=Qeq (t:=TT.at (n:=7) 5 (mkT 3 r L)) (p:=p) (c:=c) (d:=d) f (TIn.at 5 b (LIn.tree e)) (TT.at_ok 5 ⟨⟨by show -9223372036854775808<=r;omega,by show r<=9223372036854775807;omega⟩,a⟩)
 rw[TT.at_kind,TT.at_r,TT.at_len 5 _ b] at this
 exact this
theorem enters_value:Qah 270:=fun _ _=>by kernel_rfl
theorem Qg3 {w:World}{A:Nat->Prop}{s:JSt}(a:Int){args:List Int}(hN:args.length=N) (aw:N<=8) (hl:intsL.In w Q args [.slice pa N ca]) (hJ:JOk s) (hA:∀ k,A k->k<w.heap.size) (h:SAt w b O A s) :
 Calls prog 243 #[Pv b 0,Iv a,.slice pa N ca] w fun e w'=>QO w b O A s (s.tupleS a args) (s.tupleC a args) e w':=by
 have az:∀ (k r:Int) (p:Option Addr) (l c:Nat) (w:World),(Instr.field 105 (.agg #[Iv k,Iv r,.slice p l c]) 1).run prog w=.ok (Iv r) w:=fun _ _ _ _ _ _=>by kernel_rfl
 obtain⟨i0,hi,al,an,ao⟩:=pInfoT
 have H:=Qa h;have HA:=Qa hA;have HO:Hid (∀ k,O k->k<w.heap.size):=fun k V=>hA k (h.sub k V);have HL:=Qa hl;have HN:=Qa hN;have HJ:=Qa hJ;have hL:=hJ.vals;clear h hA hl hN hJ;go_enter func243,ntmps243
 go_wp2_with fail
 refine(Z0 a 2 hL HO.out H.out).mono ?_
 rintro e' w2 ⟨hO,b2⟩;have HB:=Qa b2;clear b2;rcases hO with ⟨j,x,rfl,t,p,c,ha,rfl,ht,I⟩|⟨j,rfl⟩
 rotate_left
 ·exact⟨Z,QO.bad (by unfold JSt.tupleC;rw[Ql j]) j (Yh H.out HB.out)⟩
 have hr:0<=t.r/\t.r<s.H.length:=by
  obtain⟨t',e1,e2,e3⟩:=Z7 j
  rw[ha] at e1
  cases e1
  exact ZZ (e3 Z)
 have HR:=Qa hr;have E:Hid (s.tupleC a args=match s.fields args with | none=>1 | some l=>if 4<TT.height (n:=7) (mkT 3 t.r l) then 19 else QZ s.L.length 1):=by show _=_;unfold JSt.tupleC;rw[Qx j,ha]
 have ES:Hid (∀ l,s.fields args=some l->s.tupleS a args={ s with L:=s.L++[TT.at (n:=7) 5 (mkT 3 t.r l)] }):=fun l hl=>by unfold JSt.tupleS;rw[ha,hl]
 clear hr j ha ht I;simp only[Tv]
 go_upto_region 1 with fail
 have T0:Hid (TuS w (w2.alloc (.cells #[Iv 3,Iv t.r,Nv] 105)) w2.heap.size (w2.heap.size+1) A t.r (Nv) []) :=
  ⟨HB.out.trans ((Zd _ _).mono HB.out.size),Blk.new _ _ _,⟨[],⟨Z,.inl ⟨Z,Z⟩⟩,fun g hg=>by simp[Value.ownBlock] at hg,fun i x hx=>by simp at hx⟩,Nat.lt_succ_self _,by simp,HB.out.size⟩
 generalize w2.alloc (.cells #[Iv 3,Iv t.r,Nv] 105)=w3 at T0 |-;generalize w2.heap.size=B at T0 |-;generalize t.r=r at T0 HR E ES |-;clear HB;go_wp2
 go_loopw [16] (fun i wr=>∃ (k:Nat) (v:Value) (L:List (TT 6)),k<=N/\i=Iv k/\TuS w wr B (B+1) A r v L/\s.fields (args.take k)=some L) (fun i _=>N - (intOf i).toNat)
 case atStart=>exact⟨0,_,_,Xb _,Z,T0.out,Z⟩
 case round =>
  clear T0;obtain⟨k,v,L,V,rfl,hT,hf⟩:=hrel
  have HF:=Qa hf
  have ad:Hid (L.length=k):=by
   show _=_
   have:=(QaD hf).1
   rw[List.length_take,HN.out] at this
   omega
  have ac:L.length<=8:=by have:=ad.out;omega
  obtain⟨aL,W,rfl,ax,-,xs,ab⟩:=hT.row.form
  have G:=Qa hT;have am:=Qa ab;clear hf hT ab;by_cases X:k<N
  ·have ae:(k:Int)<N:=by omega
   have U:k<args.length:=by rw[HN.out];exact X
   obtain⟨g,o,rfl,-,hg,S⟩:=ZI HL.out U
   obtain⟨y,hy⟩:∃ y,args[k]?=some y:=⟨_,Zg U⟩
   rw[show args.getD k 0=y by rw[List.getD_eq_getElem?_getD,hy];rfl] at S
   have HX:=Qa hy;have y0:=Qk S G.out.bel;have z2:=Qb G.out.box 2 _ Z;clear S U hy;go_upto_region 4 with fail
   have BD:Hid (Below w.heap.size w wr.drew):=Qb2 G.out.bel
   go_region_law (first
    | (refine Qef Z 270 (.tmp 22) (.tmp 23) 234 3 Z enters_value (.pointer (some ⟨b,0,none⟩)) (.int .i64 y) (by simp[Act.eval,Act.put]) (by simp[Act.eval,Act.put]) (Qb3 y hL (H.out.more HO.out BD.out)) ?_
       rintro e' J ⟨hO,R⟩;rcases hO with ⟨j,x,rfl,u,q,d,hu,rfl,ai,I⟩|⟨j,rfl⟩
       rotate_left
       ·have af:s.at y=none:=by
         unfold JSt.has at j
         cases e:s.at y with
         | none=>rfl
         | some t=>rw[e] at j;exact absurd Z j
        exact⟨Z,QO.bad (d:=s.has y) (by rw[E.out,Qdx (Zm HX.out) af];unfold JSt.has;rw[af]) j (Yh H.out (BD.out.trans (R.mono BD.out.size)))⟩
       have T4:=Qa (G.out.below (Zx R));have HU:=Qa hu;have I4:Hid ((Lay.tt 6).In J (fun g=>¬ (A g\/w.heap.size<=g)) u [Iv u.kind,Iv u.r,.slice q u.len d]):=⟨q,d,Z,ai,I⟩;have z4:=Qb T4.out.box 2 _ Z;have aq:=T4.out.box.lt;have z:=Qa (QdD am.out (Zx R));clear hu ai I R j;dsimp only [QnI])
    | (refine step_append_lies _ Z (.tmp 21) (.tmp 25) 80 Z 0 105 i0 (.agg #[.int .i64 0,.int .i64 0,.slice none 0 0]) 3 40 pUnderT hi al an ao Z (by decide) (.slice aL L.length W) L.length xs (by simp[Act.eval,Act.put]) (z.out.alloc _) ⟨J.heap.size,0,none⟩ 1 1 [.int .i64 u.kind,.int .i64 u.r,.slice q u.len d] (by simp[Act.eval,Act.put]) Z (Qk2 _ _ _) (QlU _ _ _ _ _) (by decide) (by unfold maxLen;omega) (by omega) (Xb _) (J.heap.size+1) (by simp) ?_
       intro g2 ah w9 h1 h2 h3 D;have b5:=Zd J (.cells #[Iv u.kind,Iv u.r,.slice q u.len d] 105);obtain⟨z9,f9,t9⟩:=(T4.out.below b5).push (QdD z.out b5) (Ya I4.out b5) h1 h2 (by simpa using h3)
       have T9:=Qa t9;clear h1 h2 h3 D b5 t9))
   all_goals
    have FF:=Qa (QfB HX.out HU.out HF.out);clear T4 HU I4 z4 z z9 f9 aq;generalize w9.setCell ⟨B,2,none⟩ (.slice (some ⟨g2,0,none⟩) (L.length+1) ah)=ar at T9 |-;go_wp2
    go_roundw
    case rel=>exact⟨k+1,_,L++[u],X,by go_num,T9.out,FF.out⟩
    case measure=>simp[intOf];omega
  ·have av:k=N:=by omega
   have ae:¬ (k:Int)<N:=by omega
   have K:s.fields args=some L:=by
    have:=HF.out
    rwa [XO (by rw[HN.out];omega)] at this
   obtain⟨C,-,M⟩:=G.out.lin HA.out
   have T:∀ x∈L,x.check s.H.length=0:=fun x hx=>HJ.out.types x ((QaD K).2 x hx);have EC:Hid (TT.check (n:=7) (s.H.length:Int) (mkT 3 r L)=if 4<TT.height (n:=7) (mkT 3 r L) then 19 else 0):=Qf8 HR.out ac T;have E2:Hid (s.tupleC a args=if 4<TT.height (n:=7) (mkT 3 r L) then 19 else QZ s.L.length 1):=by show _=_;rw[E.out,K]
   have ak:=Qa (ES.out L K);have aa:=Qa (Xh C M);have ap:Hid (TT.count (n:=7) (mkT 3 r L)<=100000):=Qjm (fun x hx=>Z3 (T x hx)) ac;have H9:=Qa (H.out.below G.out.bel);obtain⟨pm,cm,hh,a1,c1,a2,c2,a3,c3,ay,au,RR⟩:=H9.out.read
   obtain⟨-,q1,-⟩:=RR.cells
   have CL:Hid (∀ m,Calls prog 271 #[Pv hh 0] (wr.drewN m) fun e w'=>e=.returned (Iv (s.H.length:Int))/\w'=wr.drewN m):=fun m=>Qj3 (show Qo (wr.drewN m) hh s.H from RR.held);have CC:Hid (Calls prog 223 #[.agg #[Iv 3,Iv r,.slice aL L.length W],Iv (s.H.length:Int)] wr.drew fun e w'=>e=.returned (Iv (TT.check (n:=7) (s.H.length:Int) (mkT 3 r L)))/\Below wr.drew.heap.size wr.drew w'):=check_any 7 (mkT 3 r L) aL W _ wr.drew (TIn.all (LIn.tree C).drew) ap.out;obtain⟨z0,z1,z2⟩:=Qlh G.out.box
   clear K C M T RR HF ad;generalize TT.check (n:=7) (s.H.length:Int) (mkT 3 r L)=ck at EC CC;generalize (s.H.length:Int)=nH at CL CC;go_upto_region 6 with fail
   go_region_with (first
    | (go_at_call 271;refine(CL.out _).mono ?_;rintro e w' ⟨rfl,P⟩;have P:=P.symm;subst P)
    | (go_at_call 223;refine(CC.out).mono ?_;rintro e J ⟨rfl,R⟩;have B4:=Qa (Zx R);clear R)
    | (go_at_call 268;refine(QbC _ _ _).mono ?_;rintro e' w' ⟨P,⟨hq,rfl⟩|⟨hq,rfl⟩⟩;rotate_left;exact⟨Z,QO.bad (d:=19) (by rw[E2.out];have f:ck≠0:=(by simpa using hq);rw[EC.out] at f;by_cases D:4<TT.height (n:=7) (mkT 3 r L);rw[Xs D];rw[Xr D] at f;exact absurd Z f) (by decide) (by rw[P];exact Yh H.out (G.out.bel.trans (B4.out.mono G.out.bel.size)))⟩;have P:=P.symm;subst P))
   all_goals
    have f:ck=0:=by simpa using hq
    have D:¬ 4<TT.height (n:=7) (mkT 3 r L):=fun D=>by
     have:=EC.out
     rw[Xs D,f] at this
     cases this
    have E3:Hid (s.tupleC a args=QZ s.L.length 1):=by show _=_;rw[E2.out,Xr D]
    have T5:=Qa (G.out.below B4.out);have aj:Hid (∀ k,A k->k<J.heap.size):=fun k V=>Zl (HA.out k V) T5.out.bel.size
    have CM:Hid (∀ d,Calls prog 244 #[Pv b 0,.slice (some ⟨J.heap.size,0,none⟩) 1 d] (J.alloc (.cells #[Iv 3,Iv r,.slice aL L.length W] 105)) fun e w'=>QO w b O A s (s.tupleS a args) (s.tupleC a args) e w'):=fun d=>by
     have b1:=Zd J (.cells #[Iv 3,Iv r,.slice aL L.length W] 105);have ag:=T5.out.bel.trans (b1.mono T5.out.bel.size);rw[ak.out,E3.out]
     exact(Qat (l:=[TT.at (n:=7) 5 (mkT 3 r L)]) Z (by simp) (QhQ (c:=W) (d:=d) aj.out (by have:=HR.out;have:=HJ.out.regs;omega) D (aa.out.1.below B4.out) aa.out.2) hL (fun k V=>Zl (aj.out k V) b1.size) (H.out.below ag)).mono (fun e w' hd=>hd.after ag)
    obtain⟨y0,y1,y2⟩:=Qlh T5.out.box
    clear hq f D CC CL E3;go_wp2_with fail
    refine(CM.out _).mono ?_
    rintro e' w5 hd;have F:=Qa hd;rcases hd with ⟨h1,rfl,h3⟩|⟨h1,rfl,h3⟩
    rotate_left
    ·exact⟨Z,F.out⟩
    clear h1 h3 CM;go_wp2
    exact Xz (v:=.tuple #[]) (by simp[results,results243,go_sem]) Z F.out
def Lay.listC {α:Type}(A:Lay α):Lay (List α) where
 size:=1
 In:=fun w O l cs=>(∃ a c,cs=[.slice a l.length c]/\l.length<=c)/\A.list.In w O l cs
 len:=fun h=>A.list.len h.2
 keep:=fun hb hl h=>⟨h.1,A.list.keep hb hl h.2⟩
def Lay.Sub {α:Type}(A B:Lay α):Prop:=A.size=B.size/\∀ {w:World}{O:Nat->Prop}{x:α}{cs:List Value},A.In w O x cs->B.In w O x cs
theorem Lay.Sub.refl {α:Type}(A:Lay α):Lay.Sub A A:=⟨Z,id⟩
theorem Lay.Sub.listC {α:Type}(A:Lay α):Lay.Sub A.listC A.list:=⟨Z,fun h=>h.2⟩
theorem Lay.Sub.pair {α β:Type}{A b:Lay α}{B a:Lay β}(h:Lay.Sub A b) (k:Lay.Sub B a):Lay.Sub (A.pair B) (b.pair a) :=
 ⟨by show A.size+B.size=b.size+a.size;rw[h.1,k.1],fun ⟨g,f,e,d,c⟩=>⟨g,f,e,h.2 d,k.2 c⟩⟩
theorem Lay.Sub.list {α:Type}{A b:Lay α}(h:Lay.Sub A b):Lay.Sub A.list b.list :=
 ⟨Z,fun ⟨a,c,e,k⟩=>⟨a,c,e,fun i x j=>by
  obtain⟨g,o,f,l,d,p,n,m⟩:=k i x j
  exact⟨g,o,f,l,d,p,by rw[<-h.1];exact n,h.2 m⟩⟩⟩
section
open Go.Deep
theorem Lay.Sub.via {α β:Type}{A a:Lay α}(h:Lay.Sub A a) (f:β->α):Lay.Sub (A.via f) (a.via f):=⟨h.1,fun k=>h.2 k⟩
theorem Qy.listC {α:Type}{A:Lay α}{E:α->Prop}(h:P.underlying t=some (.slice e)) (i:P.cellsOf t=1) (u:Qy P e A n E) (F:0<A.size) (f:0<P.bytesOf e):Qy P t A.listC n (fun l=>l.length<1152921504606846976) :=
 ⟨i,fun {H s w p d o k I x} B r D=>by
  obtain⟨l,j,C⟩:=(Qy.list h i u F f).2 B r D
  refine⟨l,⟨?_,j⟩,C⟩
  obtain⟨a,c,e,_⟩:=j
  refine⟨a,c,e,?_⟩
  rcases DataW.trod_slice h r with ⟨b,_⟩|⟨G,v,y,g,m,q,_,b,_,_,z,_⟩
  ·rw[e] at b
   simp at b
   simp[b.2.1]
  ·rw[e] at b
   simp at b
   omega⟩
abbrev intsC:Lay (List Int):=Lay.int.listC
def insC:Lay Qt:=(Lay.int.pair (Lay.int.pair (Lay.int.pair (Lay.int.pair (Lay.int.pair (Lay.int.pair (intsC.pair intsC))))))).via (fun x=>(x.op,x.a,x.b,x.c,x.k,x.n,x.regs,x.args))
def toC:Lay MTo:=(Lay.int.pair (intsC.pair intsC)).via (fun x=>(x.block,x.regs,x.args))
def endC:Lay ZA:=(Lay.int.pair (Lay.int.pair (toC.pair (toC.pair intsC)))).via (fun x=>(x.op,x.a,x.yes,x.no,x.args))
def Qbe (n:Nat):Lay (MBlock n):=(Lay.int.pair ((Qp n).pair (insC.list.pair endC))).via (fun x=>(x.regs,x.params,x.code,x.fin))
def Qe7 (n:Nat):Lay (MFunc n):=(Lay.int.pair ((Qp n).pair ((Qp n).pair (Qbe n).list))).via (fun x=>(x.regs,x.params,x.results,x.blocks))
abbrev QhR (n:Nat):Lay (List (MFunc n)):=(Qe7 n).list
theorem ints_sub:Lay.Sub intsC intsL:=Lay.Sub.listC _
theorem ins_sub:Lay.Sub insC insL:=.via (.pair (.refl _) (.pair (.refl _) (.pair (.refl _) (.pair (.refl _) (.pair (.refl _) (.pair (.refl _) (.pair ints_sub ints_sub))))))) _
theorem to_sub:Lay.Sub toC toL:=.via (.pair (.refl _) (.pair ints_sub ints_sub)) _
theorem end_sub:Lay.Sub endC endL:=.via (.pair (.refl _) (.pair (.refl _) (.pair to_sub (.pair to_sub ints_sub)))) _
theorem QhN (n:Nat):Lay.Sub (Qbe n) (Zp n):=.via (.pair (.refl _) (.pair (.refl _) (.pair (.list ins_sub) end_sub))) _
theorem Qkb (n:Nat):Lay.Sub (Qe7 n) (ZR n):=.via (.pair (.refl _) (.pair (.refl _) (.pair (.refl _) (.list (QhN n))))) _
theorem QfE (n:Nat):Lay.Sub (QhR n) (QaN n):=.list (Qkb n)
section
variable {w:World}{O:Nat->Prop}{cs:List Value}
theorem QhF {x:Qt}(h:insC.In w O x cs):∃ a c b d,cs=[Iv x.op,Iv x.a,Iv x.b,Iv x.c,Iv x.k,Iv x.n,.slice a x.regs.length c,.slice b x.args.length d]/\intsL.In w O x.regs [.slice a x.regs.length c]/\intsL.In w O x.args [.slice b x.args.length d]/\x.regs.length<=c/\x.args.length<=d:=by
 obtain⟨_,_,rfl,⟨rfl,_⟩,_,_,rfl,⟨rfl,_⟩,_,_,rfl,⟨rfl,_⟩,_,_,rfl,⟨rfl,_⟩,_,_,rfl,⟨rfl,_⟩,_,_,rfl,⟨rfl,_⟩,_,_,rfl,⟨⟨a,c,rfl,e⟩,i⟩,⟨b,d,rfl,g⟩,f⟩:=h
 exact⟨a,c,b,d,Z,i,f,e,g⟩
end
theorem QbH (n:Nat):Qy prog 76 intsC n (fun l=>l.length<1152921504606846976):=Qy.listC underlying76 (by kernel_rfl) (QaV n) (by decide) (by rw[show prog.bytesOf 3=8 from by kernel_rfl];decide)
theorem Qi6 (n:Nat):Qy prog 78 insC n (fun x=>x.regs.length<1152921504606846976/\x.args.length<1152921504606846976):=by
 have h:=Qy.struct (n:=n) (A:=Lay.int.pair (Lay.int.pair (Lay.int.pair (Lay.int.pair (Lay.int.pair (Lay.int.pair (intsC.pair intsC))))))) underlying78 (by kernel_rfl) (QH.cons Z Z (QaV n) (QH.cons Z Z (QaV n) (QH.cons Z Z (QaV n) (QH.cons Z Z (QaV n) (QH.cons Z Z (QaV n) (QH.cons Z Z (QlH n) (QH.cons Z Z (QbH n) (QH.last Z Z (QbH n)))))))));have e:=h.via (f:=fun x:Qt=>(x.op,x.a,x.b,x.c,x.k,x.n,x.regs,x.args)) (fun d=>⟨d.1,d.2.1,d.2.2.1,d.2.2.2.1,d.2.2.2.2.1,d.2.2.2.2.2.1,d.2.2.2.2.2.2.1,d.2.2.2.2.2.2.2⟩) (fun d=>rfl);exact⟨e.1,fun i g m=>by obtain⟨d,j,l⟩:=e.2 i g m;exact⟨d,j,l.2.2.2.2.2.2⟩⟩
theorem QgJ (n:Nat):Qy prog 82 toC n (fun x=>x.regs.length<1152921504606846976/\x.args.length<1152921504606846976):=by
 have h:=Qy.struct (n:=n) (A:=Lay.int.pair (intsC.pair intsC)) underlying82 (by kernel_rfl) (QH.cons Z Z (QaV n) (QH.cons Z Z (QbH n) (QH.last Z Z (QbH n))));have a:=h.via (f:=fun x:MTo=>(x.block,x.regs,x.args)) (fun d=>⟨d.1,d.2.1,d.2.2⟩) (fun d=>rfl);exact⟨a.1,fun c b i=>by obtain⟨d,e,g⟩:=a.2 c b i;exact⟨d,e,g.2⟩⟩
theorem Qik (n:Nat):Qy prog 84 endC n (fun x=>(x.yes.regs.length<1152921504606846976/\x.yes.args.length<1152921504606846976)/\(x.no.regs.length<1152921504606846976/\x.no.args.length<1152921504606846976)/\x.args.length<1152921504606846976):=by
 have h:=Qy.struct (n:=n) (A:=Lay.int.pair (Lay.int.pair (toC.pair (toC.pair intsC)))) underlying84 (by kernel_rfl) (QH.cons Z Z (QaV n) (QH.cons Z Z (QaV n) (QH.cons Z Z (QgJ n) (QH.cons Z Z (QgJ n) (QH.last Z Z (QbH n))))));have b:=h.via (f:=fun x:ZA=>(x.op,x.a,x.yes,x.no,x.args)) (fun d=>⟨d.1,d.2.1,d.2.2.1,d.2.2.2.1,d.2.2.2.2⟩) (fun d=>rfl);exact⟨b.1,fun e c j=>by obtain⟨d,g,i⟩:=b.2 e c j;exact⟨d,g,i.2.2⟩⟩
theorem Qg1 (n:Nat):Qy prog 79 insC.list n (fun l=>l.length<1152921504606846976):=Qy.list underlying79 (by kernel_rfl) (Qi6 n) (by decide) (by rw[show prog.bytesOf 78=96 from by kernel_rfl];decide)
theorem QfK (n:Nat):Qy prog 86 (Qbe n) n (fun _=>True):=by
 have h:=Qy.struct (n:=n) (A:=Lay.int.pair ((Qp n).pair (insC.list.pair endC))) underlying86 (by kernel_rfl) (QH.cons Z Z (QaV n) (QH.cons Z Z (QfR n) (QH.cons Z Z (Qg1 n) (QH.last Z Z (Qik n)))));have a:=h.via (f:=fun x:MBlock n=>(x.regs,x.params,x.code,x.fin)) (fun d=>⟨d.1,d.2.1,d.2.2.1,d.2.2.2⟩) (fun d=>rfl);exact⟨a.1,fun c b g=>by obtain⟨d,e,i⟩:=a.2 c b g;exact⟨d,e,Y⟩⟩
theorem QeM (n:Nat):Qy prog 87 (Qbe n).list n (fun l=>l.length<1152921504606846976):=Qy.list underlying87 (by kernel_rfl) (QfK n) (by show 0<12;decide) (by rw[show prog.bytesOf 86=208 from by kernel_rfl];decide)
theorem Qhp (n:Nat):Qy prog 89 (Qe7 n) n (fun _=>True):=by
 have h:=Qy.struct (n:=n) (A:=Lay.int.pair ((Qp n).pair ((Qp n).pair (Qbe n).list))) underlying89 (by kernel_rfl) (QH.cons Z Z (QaV n) (QH.cons Z Z (QfR n) (QH.cons Z Z (QfR n) (QH.last Z Z (QeM n)))));have a:=h.via (f:=fun x:MFunc n=>(x.regs,x.params,x.results,x.blocks)) (fun d=>⟨d.1,d.2.1,d.2.2.1,d.2.2.2⟩) (fun d=>rfl);exact⟨a.1,fun c b g=>by obtain⟨d,e,i⟩:=a.2 c b g;exact⟨d,e,Y⟩⟩
theorem QfM (n:Nat):Qy prog 22 (QhR n) n (fun l=>l.length<1152921504606846976):=Qy.list underlying22 (by kernel_rfl) (Qhp n) (by show 0<4;decide) (by rw[show prog.bytesOf 89=80 from by kernel_rfl];decide)
theorem QeB (n:Nat):Qy prog 24 (QhR n) n (fun _=>True):=by
 have h:=Qy.struct (n:=n) (A:=QhR n) underlying24 (by kernel_rfl) (QH.last Z Z (QfM n));exact⟨h.1,fun b a e=>by obtain⟨d,c,f⟩:=h.2 b a e;exact⟨d,c,Y⟩⟩
end
abbrev Qd6 (x:Qt) (rg ag:Option Addr) (rc ac:Nat):Value:=.agg #[Iv x.op,Iv x.a,Iv x.b,Iv x.c,Iv x.k,Iv x.n,.slice rg x.regs.length rc,.slice ag x.args.length ac]
def ZB (x:Qt):Prop:=(-9223372036854775808<=x.a/\x.a<=9223372036854775807)/\(-9223372036854775808<=x.b/\x.b<=9223372036854775807)/\(-9223372036854775808<=x.c/\x.c<=9223372036854775807)
theorem QkY {x:Qt}(h:insC.In w O x cs):ZB x:=by
 obtain⟨_,_,rfl,⟨rfl,_⟩,_,_,rfl,⟨rfl,f⟩,_,_,rfl,⟨rfl,g⟩,_,_,rfl,⟨rfl,e⟩,_,_,rfl,⟨rfl,_⟩,_,_,rfl,⟨rfl,_⟩,_,_,rfl,⟨⟨a,c,rfl,l⟩,j⟩,⟨b,d,rfl,k⟩,i⟩:=h
 exact⟨f,g,e⟩
noncomputable def JSt.goC (s:JSt) (x:Qt):Int:=Qv (s.makes x).1 (QZ s.L.length (s.makes x).2.length)
theorem QlI {s:JSt}{x:Qt}(a:x.form s.m.length=0):s.code x=s.goC x:=by
 unfold JSt.code JSt.goC Qv QZ;rw[Xr (by rw[a];simp)]
 by_cases h:(s.makes x).1=0
 ·rw[Xr (by rw[h];simp),Xs h]
 ·rw[Xs h,Xr h]
theorem QbO (h:n<=80):QZ n 0=0:=Xr (by omega)
theorem Qfw {a:Int}:Qv a 0=a:=by unfold Qv;split<;>simp_all
theorem QO.to {A:Nat->Prop}{s a g:JSt}{c f:Int}{e:Ending}(l:QO w b O A s a c e w') (j:f=c) (m:c=0->g=a):QO w b O A s g f e w':=by
 subst j;rcases l with ⟨d,i,k⟩ | h
 ·exact .inl ⟨d,i,by rw[m d];exact k⟩
 ·exact .inr h
theorem QO.none {A:Nat->Prop}{s c:JSt}{a:Int}(h:SAt w b O A s) (d:Below w.heap.size w w') (e:a=0) (f:c=s):QO w b O A s c a (.returned (.tuple #[])) w':=.inl ⟨e,Z,by rw[f];exact Yh h d⟩
theorem QT {s:JSt}{x:Qt}(a:x.op≠3) (b:x.op≠4):s.next x={ s with L:=s.L++(s.makes x).2 }:=by unfold JSt.next;rw[Xr a,Xr b]
structure QnY (w:World) (b:Nat) (O A Q:Nat->Prop) (s:JSt) (c:Array Value) (xr xs:List Int) (rg ag:Option Addr) (rc ac:Nat) (w1:World) (X:Nat):Prop where
 HJ:Hid (JOk s)
 H0:Hid (SAt w b O A s)
 HA0:Hid (∀ k,A k->k<w.heap.size)
 H:Hid (SAt w1 b O A s)
 HR:Hid (intsL.In w1 Q xr [.slice rg xr.length rc])
 HG:Hid (intsL.In w1 Q xs [.slice ag xs.length ac])
 HB:Hid (Below w.heap.size w w1)
 HA:Hid (∀ k,A k->k<w1.heap.size)
 HO:Hid (∀ k,O k->k<w1.heap.size)
 X1:Hid (Blk w1 X c 78)
 HRC:Hid (xr.length<=rc)
theorem QgD {A:Nat->Prop}{s:JSt}{f:List Int}(g:∀ k,A k->k<w.heap.size) (l:JOk s) (h:SAt w b O A s) (d:intsL.In w Q f [.slice rg f.length rc]) (a:intsL.In w Q xs [.slice ag xs.length ac]) (i:f.length<=rc) (c:Array Value):QnY w b O A Q s c f xs rg ag rc ac (w.alloc (.cells c 78)) w.heap.size :=
 have e:=Zd w (.cells c 78);⟨l,h,g,h.below e,Ya d e,Ya a e,e,fun k j=>Zl (g k j) e.size,fun k j=>Zl (g k (h.sub k j)) e.size,Blk.new _ _ _,i⟩
theorem QW {a c b e g d i f:Value}(h:Blk w X #[a,c,b,e,g,d,i,f] t):w.cell? ⟨X,0,none⟩=some a/\w.cell? ⟨X,1,none⟩=some c/\w.cell? ⟨X,2,none⟩=some b/\w.cell? ⟨X,3,none⟩=some e/\w.cell? ⟨X,4,none⟩=some g/\w.cell? ⟨X,5,none⟩=some d/\w.cell? ⟨X,6,none⟩=some i/\w.cell? ⟨X,7,none⟩=some f :=
 ⟨Qb h 0 _ Z,Qb h 1 _ Z,Qb h 2 _ Z,Qb h 3 _ Z,Qb h 4 _ Z,Qb h 5 _ Z,Qb h 6 _ Z,Qb h 7 _ Z⟩
theorem QlV {A:Nat->Prop}{s:JSt}{x:Qt}(E:∀ k,A k->k<w.heap.size) (z:JOk s) (h:SAt w b O A s) (c:intsL.In w Q x.regs [.slice rg x.regs.length rc]) (a:intsL.In w Q x.args [.slice ag x.args.length ac]) (p:x.regs.length<=rc) (t:ZB x) (G:x.form s.m.length=0) (d:x.op=1) :
 Calls prog 212 #[Pv b 0,Qd6 x rg ag rc ac] w fun e w'=>QO w b O A s (s.next x) (s.goC x) e w':=by
 have M:=Qaf (s:=s) (.inl d);obtain⟨op,n,i,o,j,f,g,l⟩:=x
 have d:op=1:=d;subst d;have K:=Qa M;obtain⟨P,J,S,-⟩:=Q6 G
 have HF:=Qa (Xh P (Xh J S));obtain⟨N,C,q⟩:=t
 have HI:=Qa (Xh N (Xh C q));have hL:=z.vals;have B:=Qa (QgD E z h c a p #[Iv 1,Iv n,Iv i,Iv o,Iv j,Iv f,.slice rg g.length rc,.slice ag l.length ac]);clear h E z c a M G P J S N C q p;go_enter func212,ntmps212
 go_upto_region 1 with fail
 generalize w.alloc (.cells #[Iv 1,Iv n,Iv i,Iv o,Iv j,Iv f,.slice rg g.length rc,.slice ag l.length ac] 78)=w1 at B |-;generalize w.heap.size=X at B |-;obtain⟨HJ,H0,T,H,HR,HG,U,V,HO,X1,aa⟩:=B.out
 clear B;obtain⟨x0,x1,x2,x3,x4,-,x6,x7⟩:=QW X1.out
 have y:Hid (∀ e r,QO w b O A s { s with L:=s.L++[tInt] } (QZ s.L.length 1) e r->QO w b O A s (s.next ⟨1,n,i,o,j,f,g,l⟩) (s.goC ⟨1,n,i,o,j,f,g,l⟩) e r):=fun e r u=>u.to (by unfold JSt.goC;rw[K.out];rfl) (fun _=>by rw[QT (by simp) (by simp),K.out]);have I:=Qa (QbI hL V.out H.out);go_wp2_with fail
 refine I.out.mono ?_;rintro W r u;have D:Hid (QO w b O A s (s.next ⟨1,n,i,o,j,f,g,l⟩) (s.goC ⟨1,n,i,o,j,f,g,l⟩) W r):=y.out _ _ (u.after U.out);rcases u with ⟨R,rfl,F⟩|⟨R,rfl,F⟩
 rotate_left
 ·exact⟨Z,D.out⟩
 clear R F I;go_wp2
 exact Xz (v:=.tuple #[]) (by simp[results,results212,go_sem]) Z D.out
theorem QmK {A:Nat->Prop}{s:JSt}{x:Qt}(E:∀ k,A k->k<w.heap.size) (z:JOk s) (h:SAt w b O A s) (c:intsL.In w Q x.regs [.slice rg x.regs.length rc]) (a:intsL.In w Q x.args [.slice ag x.args.length ac]) (p:x.regs.length<=rc) (t:ZB x) (G:x.form s.m.length=0) (d:x.op=12) :
 Calls prog 212 #[Pv b 0,Qd6 x rg ag rc ac] w fun e w'=>QO w b O A s (s.next x) (s.goC x) e w':=by
 have M:=Qaf (s:=s) (.inr d);obtain⟨op,n,i,o,j,f,g,l⟩:=x
 have d:op=12:=d;subst d;have K:=Qa M;obtain⟨P,J,S,-⟩:=Q6 G
 have HF:=Qa (Xh P (Xh J S));obtain⟨N,C,q⟩:=t
 have HI:=Qa (Xh N (Xh C q));have hL:=z.vals;have B:=Qa (QgD E z h c a p #[Iv 12,Iv n,Iv i,Iv o,Iv j,Iv f,.slice rg g.length rc,.slice ag l.length ac]);clear h E z c a M G P J S N C q p;go_enter func212,ntmps212
 go_upto_region 1 with fail
 generalize w.alloc (.cells #[Iv 12,Iv n,Iv i,Iv o,Iv j,Iv f,.slice rg g.length rc,.slice ag l.length ac] 78)=w1 at B |-;generalize w.heap.size=X at B |-;obtain⟨HJ,H0,T,H,HR,HG,U,V,HO,X1,aa⟩:=B.out
 clear B;obtain⟨x0,x1,x2,x3,x4,-,x6,x7⟩:=QW X1.out
 have y:Hid (∀ e r,QO w b O A s { s with L:=s.L++[tInt] } (QZ s.L.length 1) e r->QO w b O A s (s.next ⟨12,n,i,o,j,f,g,l⟩) (s.goC ⟨12,n,i,o,j,f,g,l⟩) e r):=fun e r u=>u.to (by unfold JSt.goC;rw[K.out];rfl) (fun _=>by rw[QT (by simp) (by simp),K.out]);have I:=Qa (QbI hL V.out H.out);go_wp2_with fail
 refine I.out.mono ?_;rintro W r u;have D:Hid (QO w b O A s (s.next ⟨12,n,i,o,j,f,g,l⟩) (s.goC ⟨12,n,i,o,j,f,g,l⟩) W r):=y.out _ _ (u.after U.out);rcases u with ⟨R,rfl,F⟩|⟨R,rfl,F⟩
 rotate_left
 ·exact⟨Z,D.out⟩
 clear R F I;go_wp2
 exact Xz (v:=.tuple #[]) (by simp[results,results212,go_sem]) Z D.out
theorem Qls {A:Nat->Prop}{s:JSt}{x:Qt}(P:∀ k,A k->k<w.heap.size) (I:JOk s) (h:SAt w b O A s) (c:intsL.In w Q x.regs [.slice rg x.regs.length rc]) (a:intsL.In w Q x.args [.slice ag x.args.length ac]) (r:x.regs.length<=rc) (y:ZB x) (U:x.form s.m.length=0) (f:x.op=2) :
 Calls prog 212 #[Pv b 0,Qd6 x rg ag rc ac] w fun e w'=>QO w b O A s (s.next x) (s.goC x) e w':=by
 have hE:=QbJ (s:=s) f;obtain⟨op,g,i,p,n,q,l,o⟩:=x
 have f:op=2:=f;subst f;have HE:=Qa hE;obtain⟨f1,f2,N,-⟩:=Q6 U
 have HF:=Qa (Xh f1 (Xh f2 N));obtain⟨ra,K,t⟩:=y
 have V:=Qa (Xh ra (Xh K t));have hL:=I.vals;have B:=Qa (QgD P I h c a r #[Iv 2,Iv g,Iv i,Iv p,Iv n,Iv q,.slice rg l.length rc,.slice ag o.length ac]);clear h P I c a hE U f1 f2 N ra K t r;go_enter func212,ntmps212
 go_upto_region 1 with fail
 generalize w.alloc (.cells #[Iv 2,Iv g,Iv i,Iv p,Iv n,Iv q,.slice rg l.length rc,.slice ag o.length ac] 78)=w1 at B |-;generalize w.heap.size=X at B |-;obtain⟨HJ,H0,aa,H,HR,HG,T,HA,HO,X1,ad⟩:=B.out
 clear B;obtain⟨x0,x1,x2,x3,x4,-,x6,x7⟩:=QW X1.out
 have EG:Hid (s.goC ⟨2,g,i,p,n,q,l,o⟩=Qv (Qv (s.want g 1 false) (s.want i 1 false)) (QZ s.L.length 1)):=by show _=_;unfold JSt.goC;rw[HE.out];rfl
 have S:=Qa (fun d=>Qfi g i V.out.1 V.out.2.1 d hL HO.out H.out);go_wp2_with fail
 refine(S.out _).mono ?_
 rintro e' w2 ⟨hq,z⟩;have C:=Qa (T.out.trans (z.mono T.out.size));have H2:=Qa (H.out.below z);have F:=Qa (fun k J=>Zl (HA.out k J) z.size);have ab:=Qa (fun k J=>Zl (HO.out k J) z.size);rcases hq with ⟨j,y2,rfl,hy⟩|⟨j,rfl⟩
 rotate_left
 ·exact⟨Z,QO.bad ((fun j=>by rw[EG.out,Ql j]) j) j (Yh H0.out C.out)⟩
 subst hy;have G:=Qa j;clear j z S;have E:Hid (∀ e u,QO w b O A s { s with L:=s.L++[tInt] } (QZ s.L.length 1) e u->QO w b O A s (s.next ⟨2,g,i,p,n,q,l,o⟩) (s.goC ⟨2,g,i,p,n,q,l,o⟩) e u):=fun e u D=>D.to (by rw[EG.out,Qx G.out]) (fun _=>by rw[QT (by simp) (by simp),HE.out]);have W:=Qa (QbI hL F.out H2.out);go_wp2_with fail
 refine W.out.mono ?_;rintro e' u D;have M:Hid (QO w b O A s (s.next ⟨2,g,i,p,n,q,l,o⟩) (s.goC ⟨2,g,i,p,n,q,l,o⟩) e' u):=E.out _ _ (D.after C.out);rcases D with ⟨h1,rfl,R⟩|⟨h1,rfl,R⟩
 rotate_left
 ·exact⟨Z,M.out⟩
 clear h1 R W;go_wp2
 exact Xz (v:=.tuple #[]) (by simp[results,results212,go_sem]) Z M.out
theorem Ql4 {A:Nat->Prop}{s:JSt}{x:Qt}(I:∀ k,A k->k<w.heap.size) (D:JOk s) (h:SAt w b O A s) (d:intsL.In w Q x.regs [.slice rg x.regs.length rc]) (c:intsL.In w Q x.args [.slice ag x.args.length ac]) (r:x.regs.length<=rc) (y:ZB x) (K:x.form s.m.length=0) (f:x.op=3) :
 Calls prog 212 #[Pv b 0,Qd6 x rg ag rc ac] w fun e w'=>QO w b O A s (s.next x) (s.goC x) e w':=by
 have R:=QbS (s:=s) f;obtain⟨op,p,l,q,n,i,j,o⟩:=x
 have f:op=3:=f;subst f;have P:=Qa R;obtain⟨T,N,V,-⟩:=Q6 K
 have HF:=Qa (Xh T (Xh N V));obtain⟨S,F,t⟩:=y
 have HI:=Qa (Xh S (Xh F t));have hL:=D.vals;have B:=Qa (QgD I D h d c r #[Iv 3,Iv p,Iv l,Iv q,Iv n,Iv i,.slice rg j.length rc,.slice ag o.length ac]);clear h I D d c R K T N V S F t r;go_enter func212,ntmps212
 go_upto_region 1 with fail
 generalize w.alloc (.cells #[Iv 3,Iv p,Iv l,Iv q,Iv n,Iv i,.slice rg j.length rc,.slice ag o.length ac] 78)=w1 at B |-;generalize w.heap.size=X at B |-;obtain⟨W,H0,aa,H,HR,HG,HB,HA,HO,X1,ab⟩:=B.out
 clear B;obtain⟨x0,x1,x2,x3,x4,-,x6,x7⟩:=QW X1.out
 have C:Hid (∀ e u,QO w b O A s s.openS s.openC e u->QO w b O A s (s.next ⟨3,p,l,q,n,i,j,o⟩) (s.goC ⟨3,p,l,q,n,i,j,o⟩) e u):=fun e u z=>z.to (by
  unfold JSt.goC;rw[P.out]
  by_cases a:s.H.length=16
  ·rw[Xs a]
   show Qv 2 _=s.openC;unfold JSt.openC;rw[Xs (Or.inr a)];rfl
  ·rw[Xr a]
   show Qv 0 (QZ s.L.length 1)=s.openC;rw[Qx Z]
   unfold QZ JSt.openC;by_cases g:80<s.L.length+1
   ·rw[Xs g,Xs (Or.inl g)]
   ·rw[Xr g,Xr (by omega)]) (fun E=>by
  unfold JSt.openC at E;unfold JSt.next JSt.openS
  rw[P.out]
  by_cases a:s.H.length=16
  ·rw[Xs (Or.inr a)] at E;cases E
  ·rw[Xr a];rfl)
 have M:=Qa (QiE W.out.regs hL HA.out H.out);go_wp2_with fail
 refine M.out.mono ?_;rintro e' u z;have G:Hid (QO w b O A s (s.next ⟨3,p,l,q,n,i,j,o⟩) (s.goC ⟨3,p,l,q,n,i,j,o⟩) e' u):=C.out _ _ (z.after HB.out);rcases z with ⟨U,rfl,J⟩|⟨U,rfl,J⟩
 rotate_left
 ·exact⟨Z,G.out⟩
 clear U J M;go_wp2
 exact Xz (v:=.tuple #[]) (by simp[results,results212,go_sem]) Z G.out
theorem QkJ {A:Nat->Prop}{s:JSt}{x:Qt}(I:∀ k,A k->k<w.heap.size) (E:JOk s) (h:SAt w b O A s) (d:intsL.In w Q x.regs [.slice rg x.regs.length rc]) (c:intsL.In w Q x.args [.slice ag x.args.length ac]) (q:x.regs.length<=rc) (z:ZB x) (K:x.form s.m.length=0) (g:x.op=4) :
 Calls prog 212 #[Pv b 0,Qd6 x rg ag rc ac] w fun e w'=>QO w b O A s (s.next x) (s.goC x) e w':=by
 have S:=Qar (s:=s) g;obtain⟨op,a,l,p,n,i,j,o⟩:=x
 have g:op=4:=g;subst g;have R:=Qa S;obtain⟨U,P,W,-⟩:=Q6 K
 have HF:=Qa (Xh U (Xh P W));obtain⟨T,F,u⟩:=z
 have HI:=Qa (Xh T (Xh F u));have N:=E.vals;have B:=Qa (QgD I E h d c q #[Iv 4,Iv a,Iv l,Iv p,Iv n,Iv i,.slice rg j.length rc,.slice ag o.length ac]);clear h I E d c S K U P W T F u q;go_enter func212,ntmps212
 go_upto_region 1 with fail
 generalize w.alloc (.cells #[Iv 4,Iv a,Iv l,Iv p,Iv n,Iv i,.slice rg j.length rc,.slice ag o.length ac] 78)=w1 at B |-;generalize w.heap.size=X at B |-;obtain⟨HJ,H0,aa,H,HR,HG,HB,HA,HO,X1,ab⟩:=B.out
 clear B;obtain⟨x0,x1,x2,x3,x4,-,x6,x7⟩:=QW X1.out
 have D:Hid (∀ e y,QO w b O A s (s.freeS a) (s.freeC a) e y->QO w b O A s (s.next ⟨4,a,l,p,n,i,j,o⟩) (s.goC ⟨4,a,l,p,n,i,j,o⟩) e y):=fun e y C=>C.to (by
  unfold JSt.goC JSt.freeC;rw[R.out]
  show Qv (match s.at a with | none=>(1,[]) | some t=>(Qv (s.want a 2 true) (if t.r<s.f.regs then 11 else 0),[])).1 _=_
  cases s.at a with
  | none=>rfl
  | some t=>show Qv _ (QZ s.L.length 0)=_;rw[QbO N,Qfw]) (fun h0=>by
  unfold JSt.next JSt.freeS
  rw[R.out]
  show ({ s with H:=_,L:=s.L++(match s.at a with | none=>(1,[]) | some t=>(Qv (s.want a 2 true) (if t.r<s.f.regs then 11 else 0),[])).2 }:JSt)=_
  cases s.at a with
  | none=>simp
  | some t=>simp)
 have M:=Qa (QiK a N HA.out H.out);go_wp2_with fail
 refine M.out.mono ?_;rintro e' y C;have G:Hid (QO w b O A s (s.next ⟨4,a,l,p,n,i,j,o⟩) (s.goC ⟨4,a,l,p,n,i,j,o⟩) e' y):=D.out _ _ (C.after HB.out);rcases C with ⟨V,rfl,J⟩|⟨V,rfl,J⟩
 rotate_left
 ·exact⟨Z,G.out⟩
 clear V J M;go_wp2
 exact Xz (v:=.tuple #[]) (by simp[results,results212,go_sem]) Z G.out
theorem QjB {A:Nat->Prop}{s:JSt}{x:Qt}(M:∀ k,A k->k<w.heap.size) (J:JOk s) (h:SAt w b O A s) (d:intsL.In w Q x.regs [.slice rg x.regs.length rc]) (c:intsL.In w Q x.args [.slice ag x.args.length ac]) (C:x.regs.length<=rc) (F:ZB x) (P:x.form s.m.length=0) (j:x.op=5) :
 Calls prog 212 #[Pv b 0,Qd6 x rg ag rc ac] w fun e w'=>QO w b O A s (s.next x) (s.goC x) e w':=by
 have U:=Qbr (s:=s) j;obtain⟨op,a,u,z,y,p,q,i⟩:=x
 have j:op=5:=j;subst j;have T:=Qa U;obtain⟨W,S,f3,-⟩:=Q6 P
 have HF:=Qa (Xh W (Xh S f3));obtain⟨V,K,D⟩:=F
 have HI:=Qa (Xh V (Xh K D));have hL:=J.vals;have B:=Qa (QgD M J h d c C #[Iv 5,Iv a,Iv u,Iv z,Iv y,Iv p,.slice rg q.length rc,.slice ag i.length ac]);clear h M J d c U P W S f3 V K D C;go_enter func212,ntmps212
 go_upto_region 1 with fail
 generalize w.alloc (.cells #[Iv 5,Iv a,Iv u,Iv z,Iv y,Iv p,.slice rg q.length rc,.slice ag i.length ac] 78)=w1 at B |-;generalize w.heap.size=X at B |-;obtain⟨HJ,H0,aa,H,HR,HG,HB,HA,HO,X1,ab⟩:=B.out
 clear B;obtain⟨x0,x1,x2,x3,x4,-,x6,x7⟩:=QW X1.out
 have I:Hid (∀ e E,QO w b O A s (s.tupleS a i) (s.tupleC a i) e E->QO w b O A s (s.next ⟨5,a,u,z,y,p,q,i⟩) (s.goC ⟨5,a,u,z,y,p,q,i⟩) e E):=fun e E G=>G.to (by
  unfold JSt.goC JSt.tupleC;rw[T.out]
  simp only
  cases ha:s.at a with
  | none=>unfold JSt.want;rw[ha];rfl
  | some t =>
    simp only
    by_cases g:s.want a 2 true=0
    ·rw[Xs g,Qx g]
     cases s.fields i with
     | none=>rfl
     | some l =>
       simp only
       by_cases o:4<TT.height (n:=7) (mkT 3 t.r l)
       ·rw[Xs o,Xs o];rfl
       ·rw[Xr o,Xr o];rfl
    ·rw[Xr g,Ql g,Ql g]) (fun f=>by
  rw[QT (by simp) (by simp),T.out]
  unfold JSt.tupleC at f;unfold JSt.tupleS;simp only
  cases ha:s.at a with
  | none=>rfl
  | some t =>
    rw[ha] at f
    simp only at f |-
    by_cases g:s.want a 2 true=0
    ·rw[Qx g] at f
     rw[Xs g]
     cases hl:s.fields i with
     | none=>simp[hl] at f
     | some l =>
       rw[hl] at f
       simp only at f |-
       by_cases o:4<TT.height (n:=7) (mkT 3 t.r l)
       ·rw[Xs o] at f;cases f
       ·rw[Xr o]
    ·rw[Ql g] at f;exact absurd f g)
 have R:=Qa (Qg3 a Z (HF.out.2.2 Z) HG.out HJ.out HA.out H.out);go_wp2_with fail
 refine R.out.mono ?_;rintro e' E G;have L:Hid (QO w b O A s (s.next ⟨5,a,u,z,y,p,q,i⟩) (s.goC ⟨5,a,u,z,y,p,q,i⟩) e' E):=I.out _ _ (G.after HB.out);rcases G with ⟨h1,rfl,N⟩|⟨h1,rfl,N⟩
 rotate_left
 ·exact⟨Z,L.out⟩
 clear h1 N R;go_wp2
 exact Xz (v:=.tuple #[]) (by simp[results,results212,go_sem]) Z L.out
theorem Qin {A:Nat->Prop}{s:JSt}{x:Qt}(J:∀ k,A k->k<w.heap.size) (F:JOk s) (h:SAt w b O A s) (d:intsL.In w Q x.regs [.slice rg x.regs.length rc]) (c:intsL.In w Q x.args [.slice ag x.args.length ac]) (q:x.regs.length<=rc) (z:ZB x) (M:x.form s.m.length=0) (f:x.op=8) :
 Calls prog 212 #[Pv b 0,Qd6 x rg ag rc ac] w fun e w'=>QO w b O A s (s.next x) (s.goC x) e w':=by
 have R:=Qbm (s:=s) f;obtain⟨op,a,g,p,n,j,l,o⟩:=x
 have f:op=8:=f;subst f;have E:=Qa R;obtain⟨T,P,V,-⟩:=Q6 M
 have HF:=Qa (Xh T (Xh P V));obtain⟨S,G,u⟩:=z
 have HI:=Qa (Xh S (Xh G u));have hL:=F.vals;have B:=Qa (QgD J F h d c q #[Iv 8,Iv a,Iv g,Iv p,Iv n,Iv j,.slice rg l.length rc,.slice ag o.length ac]);clear h J F d c R M T P V S G u q;go_enter func212,ntmps212
 go_upto_region 1 with fail
 generalize w.alloc (.cells #[Iv 8,Iv a,Iv g,Iv p,Iv n,Iv j,.slice rg l.length rc,.slice ag o.length ac] 78)=w1 at B |-;generalize w.heap.size=X at B |-;obtain⟨W,H0,aa,H,HR,HG,HB,HA,HO,X1,ab⟩:=B.out
 clear B;obtain⟨x0,x1,x2,x3,x4,-,x6,x7⟩:=QW X1.out
 have D:Hid (∀ e y,(∀ t,(s.at a=some t\/(s.at a=none/\t=tInt))->QO w b O A s { s with L:=s.L++[mkT 4 t.r []] } (s.arrayC a g) e y)->QO w b O A s (s.next ⟨8,a,g,p,n,j,l,o⟩) (s.goC ⟨8,a,g,p,n,j,l,o⟩) e y):=fun e y i=>by
  cases ha:s.at a with
  | none =>
    refine(i tInt (.inr ⟨ha,Z⟩)).to (by unfold JSt.goC JSt.arrayC;rw[E.out];simp only[ha];unfold JSt.want;rw[ha];rfl) (fun C=>?_)
    unfold JSt.arrayC JSt.want at C;rw[ha] at C
    cases C
  | some t =>
    refine(i t (.inl ha)).to (by unfold JSt.goC JSt.arrayC;rw[E.out];simp only[ha];rfl) (fun C=>?_)
    rw[QT (by simp) (by simp),E.out]
    simp only[ha]
 have N:=Qa (QgS a g HI.out.2.1 W.out.regs hL HA.out H.out);go_wp2_with fail
 refine N.out.mono ?_;rintro e' y i;have I:Hid (QO w b O A s (s.next ⟨8,a,g,p,n,j,l,o⟩) (s.goC ⟨8,a,g,p,n,j,l,o⟩) e' y):=D.out _ _ (fun t ht=>(i t ht).after HB.out);have i:=i ((s.at a).getD tInt) (by cases s.at a with | none=>exact .inr ⟨Z,Z⟩ | some t=>exact .inl Z);rcases i with ⟨U,rfl,K⟩|⟨U,rfl,K⟩
 rotate_left
 ·exact⟨Z,I.out⟩
 clear U K N;go_wp2
 exact Xz (v:=.tuple #[]) (by simp[results,results212,go_sem]) Z I.out
theorem Qkg {A:Nat->Prop}{s:JSt}{x:Qt}(hA:∀ k,A k->k<w.heap.size) (T:JOk s) (h:SAt w b O A s) (f:intsL.In w Q x.regs [.slice rg x.regs.length rc]) (c:intsL.In w Q x.args [.slice ag x.args.length ac]) (C:x.regs.length<=rc) (G:ZB x) (hf:x.form s.m.length=0) (g:x.op=9) :
 Calls prog 212 #[Pv b 0,Qd6 x rg ag rc ac] w fun e w'=>QO w b O A s (s.next x) (s.goC x) e w':=by
 have hE:=Qba (s:=s) g;obtain⟨op,i,j,r,p,l,n,q⟩:=x
 have g:op=9:=g;subst g;have HE:=Qa hE;obtain⟨f1,f2,f3,-⟩:=Q6 hf
 have HF:=Qa (Xh f1 (Xh f2 f3));obtain⟨ra,W,D⟩:=G
 have HI:=Qa (Xh ra (Xh W D));have U:=T.vals;have B:=Qa (QgD hA T h f c C #[Iv 9,Iv i,Iv j,Iv r,Iv p,Iv l,.slice rg n.length rc,.slice ag q.length ac]);clear h hA T f c hE hf f1 f2 f3 ra W D C;go_enter func212,ntmps212
 go_upto_region 1 with fail
 generalize w.alloc (.cells #[Iv 9,Iv i,Iv j,Iv r,Iv p,Iv l,.slice rg n.length rc,.slice ag q.length ac] 78)=w1 at B |-;generalize w.heap.size=X at B |-;obtain⟨HJ,H0,aa,H,HR,HG,HB,HA,HO,X1,ad⟩:=B.out
 clear B;obtain⟨x0,x1,x2,x3,x4,-,x6,x7⟩:=QW X1.out
 have V:Hid (s.goC ⟨9,i,j,r,p,l,n,q⟩=Qv (Qv (s.want i 4 true) (s.want j 1 false)) (QZ s.L.length 1)):=by show _=_;unfold JSt.goC;rw[HE.out];rfl
 have C1:=Qa (Z0 i 4 U HO.out H.out);go_wp2_with fail
 refine(C1.out ).mono ?_
 rintro S w2 ⟨R,u⟩;have t:=Qa (HB.out.trans (u.mono HB.out.size));have H2:=Qa (H.out.below u);have P:=Qa (fun k o=>Zl (HA.out k o) u.size);have z:=Qa (fun k o=>Zl (HO.out k o) u.size);rcases R with ⟨a,y2,rfl,hy⟩|⟨a,rfl⟩
 rotate_left
 ·exact⟨Z,QO.bad ((fun a=>by rw[V.out,Ql (by rw[Ql a];exact a),Ql a]) a) a (Yh H0.out t.out)⟩
 have E:=Qa a;have x2:=Qk x2 u;clear a u C1;have C2:=Qa (fun d=>Qbx j HI.out.2.1 d U z.out H2.out);go_wp2_with fail
 refine(C2.out _).mono ?_
 rintro S w3 ⟨R,y⟩;have I:=Qa (t.out.trans (y.mono t.out.size));have H3:=Qa (H2.out.below y);have K:=Qa (fun k o=>Zl (P.out k o) y.size);have ab:=Qa (fun k o=>Zl (z.out k o) y.size);rcases R with ⟨a,y3,rfl,hy⟩|⟨a,rfl⟩
 rotate_left
 ·exact⟨Z,QO.bad ((fun a=>by rw[V.out,Qx E.out,Ql a]) a) a (Yh H0.out I.out)⟩
 subst hy;have M:=Qa a;clear a y C2;have N:Hid (∀ e F,QO w b O A s { s with L:=s.L++[tInt] } (QZ s.L.length 1) e F->QO w b O A s (s.next ⟨9,i,j,r,p,l,n,q⟩) (s.goC ⟨9,i,j,r,p,l,n,q⟩) e F):=fun e F J=>J.to (by rw[V.out,Qx E.out,Qx M.out]) (fun _=>by rw[QT (by simp) (by simp),HE.out]);have CM:=Qa (QbI U K.out H3.out);go_wp2_with fail
 refine CM.out.mono ?_;rintro S F J;have FF:Hid (QO w b O A s (s.next ⟨9,i,j,r,p,l,n,q⟩) (s.goC ⟨9,i,j,r,p,l,n,q⟩) S F):=N.out _ _ (J.after I.out);rcases J with ⟨h1,rfl,h3⟩|⟨h1,rfl,h3⟩
 rotate_left
 ·exact⟨Z,FF.out⟩
 clear h1 h3 CM;go_wp2
 exact Xz (v:=.tuple #[]) (by simp[results,results212,go_sem]) Z FF.out
theorem QiC {A:Nat->Prop}{s:JSt}{x:Qt}(U:∀ k,A k->k<w.heap.size) (N:JOk s) (h:SAt w b O A s) (f:intsL.In w Q x.regs [.slice rg x.regs.length rc]) (c:intsL.In w Q x.args [.slice ag x.args.length ac]) (t:x.regs.length<=rc) (C:ZB x) (hf:x.form s.m.length=0) (g:x.op=10) :
 Calls prog 212 #[Pv b 0,Qd6 x rg ag rc ac] w fun e w'=>QO w b O A s (s.next x) (s.goC x) e w':=by
 have hE:=QaI (s:=s) g;obtain⟨op,l,p,n,D,F,z,E⟩:=x
 have g:op=10:=g;subst g;have HE:=Qa hE;obtain⟨f1,f2,T,-⟩:=Q6 hf
 have HF:=Qa (Xh f1 (Xh f2 T));obtain⟨ra,S,u⟩:=C
 have HI:=Qa (Xh ra (Xh S u));have P:=N.vals;have B:=Qa (QgD U N h f c t #[Iv 10,Iv l,Iv p,Iv n,Iv D,Iv F,.slice rg z.length rc,.slice ag E.length ac]);clear h U N f c hE hf f1 f2 T ra S u t;go_enter func212,ntmps212
 go_upto_region 1 with fail
 generalize w.alloc (.cells #[Iv 10,Iv l,Iv p,Iv n,Iv D,Iv F,.slice rg z.length rc,.slice ag E.length ac] 78)=w1 at B |-;generalize w.heap.size=X at B |-;obtain⟨HJ,J,ab,H,HR,HG,W,HA,HO,X1,ae⟩:=B.out
 clear B;obtain⟨x0,x1,x2,x3,x4,-,x6,x7⟩:=QW X1.out
 have R:Hid (s.goC ⟨10,l,p,n,D,F,z,E⟩=Qv (s.want l 4 true) (Qv (s.want p 1 false) (s.want n 1 false))):=by show _=_;unfold JSt.goC;rw[HE.out];show Qv _ (QZ s.L.length 0)=_;rw[QbO P,Qfw]
 have V:=Qa (Z0 l 4 P HO.out H.out);go_wp2_with fail
 refine(V.out ).mono ?_
 rintro e' w2 ⟨M,j⟩;have o:=Qa (W.out.trans (j.mono W.out.size));have H2:=Qa (H.out.below j);have K:=Qa (fun k i=>Zl (HA.out k i) j.size);have r:=Qa (fun k i=>Zl (HO.out k i) j.size);rcases M with ⟨a,y2,rfl,hy⟩|⟨a,rfl⟩
 rotate_left
 ·exact⟨Z,QO.bad ((fun a=>by rw[R.out,Ql a]) a) a (Yh J.out o.out)⟩
 have y:=Qa a;have x2:=Qk x2 j;have x3:=Qk x3 j;clear a j V;have C2:=Qa (fun d=>Qfi p n HI.out.2.1 HI.out.2.2 d P r.out H2.out);go_wp2_with fail
 refine(C2.out _).mono ?_
 rintro e' w3 ⟨M,q⟩;have G:=Qa (o.out.trans (q.mono o.out.size));have H3:=Qa (H2.out.below q);have aa:=Qa (fun k i=>Zl (K.out k i) q.size);have ad:=Qa (fun k i=>Zl (r.out k i) q.size);rcases M with ⟨a,y3,rfl,hy⟩|⟨a,rfl⟩
 rotate_left
 ·exact⟨Z,QO.bad ((fun a=>by rw[R.out,Qx y.out]) a) a (Yh J.out G.out)⟩
 subst hy;have I:=Qa a;clear a q C2;have FF:Hid (QO w b O A s (s.next ⟨10,l,p,n,D,F,z,E⟩) (s.goC ⟨10,l,p,n,D,F,z,E⟩) (.returned (.tuple #[])) w3):=QO.none J.out G.out (by rw[R.out,Qx y.out,I.out]) (by rw[QT (by simp) (by simp),HE.out];simp);go_wp2
 exact Xz (v:=.tuple #[]) (by simp[results,results212,go_sem]) Z FF.out
theorem Ql9 {A:Nat->Prop}{s:JSt}{x:Qt}(N:∀ k,A k->k<w.heap.size) (G:JOk s) (h:SAt w b O A s) (c:intsL.In w Q x.regs [.slice rg x.regs.length rc]) (a:intsL.In w Q x.args [.slice ag x.args.length ac]) (q:x.regs.length<=rc) (u:ZB x) (T:x.form s.m.length=0) (d:x.op=11) :
 Calls prog 212 #[Pv b 0,Qd6 x rg ag rc ac] w fun e w'=>QO w b O A s (s.next x) (s.goC x) e w':=by
 have hE:=QbT (s:=s) d;obtain⟨op,f,o,n,j,p,i,l⟩:=x
 have d:op=11:=d;subst d;have HE:=Qa hE;obtain⟨V,f2,M,-⟩:=Q6 T
 have HF:=Qa (Xh V (Xh f2 M));obtain⟨ra,J,r⟩:=u
 have HI:=Qa (Xh ra (Xh J r));have hL:=G.vals;have B:=Qa (QgD N G h c a q #[Iv 11,Iv f,Iv o,Iv n,Iv j,Iv p,.slice rg i.length rc,.slice ag l.length ac]);clear h N G c a hE T V f2 M ra J r q;go_enter func212,ntmps212
 go_upto_region 1 with fail
 generalize w.alloc (.cells #[Iv 11,Iv f,Iv o,Iv n,Iv j,Iv p,.slice rg i.length rc,.slice ag l.length ac] 78)=w1 at B |-;generalize w.heap.size=X at B |-;obtain⟨HJ,H0,aa,H,HR,HG,S,HA,W,X1,ad⟩:=B.out
 clear B;obtain⟨x0,x1,x2,x3,x4,-,x6,x7⟩:=QW X1.out
 have EG:Hid (s.goC ⟨11,f,o,n,j,p,i,l⟩=Qv (s.want f 4 true) (QZ s.L.length 1)):=by show _=_;unfold JSt.goC;rw[HE.out];rfl
 have R:=Qa (Z0 f 4 hL W.out H.out);go_wp2_with fail
 refine(R.out ).mono ?_
 rintro e' w2 ⟨hq,y⟩;have z:=Qa (S.out.trans (y.mono S.out.size));have H2:=Qa (H.out.below y);have E:=Qa (fun k I=>Zl (HA.out k I) y.size);have ab:=Qa (fun k I=>Zl (W.out k I) y.size);rcases hq with ⟨g,y2,rfl,hy⟩|⟨g,rfl⟩
 rotate_left
 ·exact⟨Z,QO.bad ((fun g=>by rw[EG.out,Ql g]) g) g (Yh H0.out z.out)⟩
 have F:=Qa g;clear g y R;have D:Hid (∀ e t,QO w b O A s { s with L:=s.L++[tInt] } (QZ s.L.length 1) e t->QO w b O A s (s.next ⟨11,f,o,n,j,p,i,l⟩) (s.goC ⟨11,f,o,n,j,p,i,l⟩) e t):=fun e t C=>C.to (by rw[EG.out,Qx F.out]) (fun _=>by rw[QT (by simp) (by simp),HE.out]);have U:=Qa (QbI hL E.out H2.out);go_wp2_with fail
 refine U.out.mono ?_;rintro e' t C;have K:Hid (QO w b O A s (s.next ⟨11,f,o,n,j,p,i,l⟩) (s.goC ⟨11,f,o,n,j,p,i,l⟩) e' t):=D.out _ _ (C.after z.out);rcases C with ⟨h1,rfl,P⟩|⟨h1,rfl,P⟩
 rotate_left
 ·exact⟨Z,K.out⟩
 clear h1 P U;go_wp2
 exact Xz (v:=.tuple #[]) (by simp[results,results212,go_sem]) Z K.out
theorem QlY {A:Nat->Prop}{s:JSt}{x:Qt}(G:∀ k,A k->k<w.heap.size) (D:JOk s) (h:SAt w b O A s) (c:intsL.In w Q x.regs [.slice rg x.regs.length rc]) (a:intsL.In w Q x.args [.slice ag x.args.length ac]) (j:x.regs.length<=rc) (p:ZB x) (M:x.form s.m.length=0) (f:x.op=13) :
 Calls prog 212 #[Pv b 0,Qd6 x rg ag rc ac] w fun e w'=>QO w b O A s (s.next x) (s.goC x) e w':=by
 have U:=QbA (s:=s) f;obtain⟨op,g,q,y,t,n,o,u⟩:=x
 have f:op=13:=f;subst f;have T:=Qa U;obtain⟨W,S,f3,-⟩:=Q6 M
 have HF:=Qa (Xh W (Xh S f3));obtain⟨V,F,l⟩:=p
 have HI:=Qa (Xh V (Xh F l));have P:=D.vals;have B:=Qa (QgD G D h c a j #[Iv 13,Iv g,Iv q,Iv y,Iv t,Iv n,.slice rg o.length rc,.slice ag u.length ac]);clear h G D c a U M W S f3 V F l j;go_enter func212,ntmps212
 go_upto_region 1 with fail
 generalize w.alloc (.cells #[Iv 13,Iv g,Iv q,Iv y,Iv t,Iv n,.slice rg o.length rc,.slice ag u.length ac] 78)=w1 at B |-;generalize w.heap.size=X at B |-;obtain⟨HJ,J,aa,H,HR,HG,K,HA,N,X1,ae⟩:=B.out
 clear B;obtain⟨x0,x1,x2,x3,x4,-,x6,x7⟩:=QW X1.out
 have R:Hid (s.goC ⟨13,g,q,y,t,n,o,u⟩=s.want g 1 false):=by show _=_;unfold JSt.goC;rw[T.out];show Qv _ (QZ s.L.length 0)=_;rw[QbO P,Qfw]
 have I:=Qa (fun d=>Qbx g HI.out.1 d P N.out H.out);go_wp2_with fail
 refine(I.out _).mono ?_
 rintro e' w2 ⟨hq,r⟩;have z:=Qa (K.out.trans (r.mono K.out.size));have H2:=Qa (H.out.below r);have ad:=Qa (fun k E=>Zl (HA.out k E) r.size);have ab:=Qa (fun k E=>Zl (N.out k E) r.size);rcases hq with ⟨i,y2,rfl,hy⟩|⟨i,rfl⟩
 rotate_left
 ·exact⟨Z,QO.bad ((fun i=>by rw[R.out]) i) i (Yh J.out z.out)⟩
 subst hy;have C:=Qa i;clear i r I;have FF:Hid (QO w b O A s (s.next ⟨13,g,q,y,t,n,o,u⟩) (s.goC ⟨13,g,q,y,t,n,o,u⟩) (.returned (.tuple #[])) w2):=QO.none J.out z.out (by rw[R.out,C.out]) (by rw[QT (by simp) (by simp),T.out];simp);go_wp2
 exact Xz (v:=.tuple #[]) (by simp[results,results212,go_sem]) Z FF.out
def JSt.fieldC (s:JSt) (a:Int) (k:Nat):Int:=Qv (s.want a 3 true) (match s.at a with | none=>0 | some t=>if k<t.2.2.length then 0 else 9)
def QnH (w:World) (A:Nat->Prop) (s:JSt) (a:Int) (k:Nat) (x:Value):Prop:=∃ (t:TT 6) (u:TT 5) (p:Option Addr) (c:Nat),s.at a=some t/\t.2.2[k]?=some u/\x=Tv u p c/\TIn w (fun g=>¬ A g) u p
theorem QcM {s:JSt}{a:Int}(h:s.want a 3 true≠0):s.fieldC a k=s.want a 3 true:=by unfold JSt.fieldC Qv;rw[Xr h]
theorem Qjf {s:JSt}{a:Int}{t:TT 6}(h:s.want a 3 true=0) (b:s.at a=some t):s.fieldC a k=if k<t.2.2.length then 0 else 9:=by unfold JSt.fieldC Qv;rw[Xs h,b]
theorem QdX {A:Nat->Prop}{s:JSt}(a:Int) (k:Nat) (S:k<=100) (hL:s.L.length<=80) (C:∀ k,O k->k<w.heap.size) (h:SAt w b O A s) :
 Calls prog 245 #[Pv b 0,Iv a,Iv k] w fun e w'=>ZG (s.fieldC a k) (QnH w' A s a k) e/\Below w.heap.size w w':=by
 have P:=Zd w (.cells #[Iv 0,Iv 0,Nv] 105);have W:=Qa (h.more C P);have D:=Qa P;have G:Hid (Blk (w.alloc (.cells #[Iv 0,Iv 0,Nv] 105)) w.heap.size #[Iv 0,Iv 0,Nv] 105):=Blk.new _ _ _;have HO:=Qa C;clear h P C;go_enter func245,ntmps245
 go_upto_region 1 with fail
 generalize w.alloc (.cells #[Iv 0,Iv 0,Nv] 105)=w1 at W D G |-;obtain⟨R,T⟩:∃ R,w.heap.size=R:=⟨_,Z⟩
 have HR:=Qa (Nat.le_of_eq T);rw[T] at G |-
 clear T;go_wp2_with fail
 refine(Z0 a 3 hL (fun k hk=>Zl (HO.out k hk) D.out.size) W.out).mono ?_
 rintro e' N ⟨C,Q⟩;have B2:Hid (Below w.heap.size w N):=D.out.trans (Q.mono D.out.size);have X2:=Qa (G.out.below Q);rcases C with ⟨m,x,rfl,t,p,c,M,rfl,ht,J⟩|⟨m,rfl⟩
 rotate_left
 ·exact⟨Z,.inr ⟨by rw[QcM m];exact m,by rw[QcM m]⟩,B2.out⟩
 have f:=Qa (QhD.mk1 (c:=c) B2.out X2.out HR.out ht);have HA:=Qa M;have E:=Qa (Qjf (k:=k) m M);clear ht M J Q G D W X2 m;go_upto_region 2 with fail
 generalize N.alloc (.cells #[Iv t.kind,Iv t.r,.slice p t.len c] 105)=w3 at f |-;generalize N.heap.size=B at f |-;obtain⟨y0,y1,y2,r0,r1,r2,z0,z1,z2⟩:=f.out.cells
 have ab:=f.out.ne;have n:Hid (t.len=t.2.2.length):=TT.len_eq t;by_cases i:k<t.2.2.length
 rotate_left
 ·have I:Hid (s.fieldC a k=9):=by show _=_;rw[E.out,Xr i]
  have j:¬ (k:Int)<t.len:=by rw[n.out];omega
  clear i;generalize t.len=tl at y2 j;go_wp2_with fail
  refine(Zf _ 9).mono ?_
  rintro e' w' ⟨rfl,y⟩;subst y;exact⟨Z,ZG.bad I.out (by decide),f.out.bel⟩
 ·have I:Hid (s.fieldC a k=0):=by show _=_;rw[E.out,Xs i]
  have j:(k:Int)<t.len:=by rw[n.out];omega
  have U:Hid (t.2.2[k]?=some t.2.2[k]):=Zg i;generalize t.2.2[k]=u at U;obtain⟨g,o,z,H,rfl,K,u0,u1,u2,X⟩:=f.out.lay k u U.out
  have UT:Hid (TIn w3 (fun g=>¬ (A g\/w.heap.size<=g)) u z):=X;have ac:¬ R=g:=fun e=>by subst e;exact K (.inr f.out.farR)
  have ad:¬ B=g:=fun e=>by subst e;exact K (.inr f.out.farB)
  clear X i K;obtain⟨x9,b9⟩:=QnQ (k:=u.kind) (r:=u.r) (q:=z) (l:=u.len) (d:=H) f.out.bel f.out.res f.out.farR
  have F:=Qa x9;have V:=Qa b9;clear x9 b9;generalize aa:t.len=tl at y2 j;go_wp2_with (go_at_call 268;refine(Zh _ _).mono ?_;rintro e' w' ⟨rfl,y⟩;have y:=y.symm;subst y)
  generalize ((w3.setCell ⟨R,0,none⟩ (Iv u.kind)).setCell ⟨R,1,none⟩ (Iv u.r)).setCell ⟨R,2,none⟩ (.slice z u.len H)=w9 at F V |-;have x0:=Qb F.out 0 _ Z;have x1:=Qb F.out 1 _ Z;have x2:=Qb F.out 2 _ Z;exact Xy (v:=Tv u z H) (by simp[results,results245,go_sem,x0,x1,x2]) Z ⟨ZG.good I.out ⟨t,u,z,H,HA.out,U.out,Z,(UT.out.over f.out.bel V.out).less⟩,V.out⟩
theorem Qhx (x:Int) (B:l.length=N) (E:N<=100000) (t:intsL.In w Q l [.slice p N c]) :
 Calls prog 288 #[.slice p N c,Iv x] w fun e w'=>(∃ i:Int,e=.returned (Iv i)/\(0<=i↔x∈l))/\w'=w:=by
 have F:=Qa t;have A:=Qa B;clear t B;go_enter func288,ntmps288
 go_wp2
 go_loop [8] (fun i=>∃ k:Nat,k<=N/\i=Iv k/\∀ (j:Nat) (y:Int),j<k->l[j]?=some y->x≠y) (fun i=>N - (intOf i).toNat)
 case atStart=>exact⟨0,Xb _,Z,fun j y r=>by omega⟩
 case round =>
  obtain⟨k,H,rfl,v⟩:=hrel
  have z:=Qa v;clear v;by_cases f:k<N
  ·have m:(k:Int)<N:=by omega
   have b:k<l.length:=by rw[A.out];exact f
   obtain⟨g,o,rfl,-,G,s⟩:=ZI F.out b
   obtain⟨y,d⟩:∃ y,l[k]?=some y:=⟨_,Zg b⟩
   rw[show l.getD k 0=y by rw[List.getD_eq_getElem?_getD,d];rfl] at s
   have u:=Qa d;clear d b;by_cases a:x=y
   ·have n:(x==y)=true:=by simpa using a
    have C:Hid (x∈l):=by show _;rw[a];exact Zm u.out
    clear a;go_wp2
    go_ret;exact⟨⟨k,Z,by simp[C.out]⟩,Z⟩
   ·have n:(x==y)=false:=by simpa using a
    have q:=Qa a;clear a;go_wp2
    go_round
    case rel =>
     refine⟨k+1,f,by go_num,fun j D r d=>?_⟩
     rcases Nat.lt_or_ge j k with h | h
     ·exact z.out j D h d
     ·have:j=k:=by omega
      subst this;have e:=u.out.symm.trans d;injection e with e
      subst e;exact q.out
    case measure=>simp[intOf];omega
  ·have m:¬ (k:Int)<N:=by omega
   go_wp2
   go_ret;refine⟨⟨-1,Z,by omega,fun hm=>?_⟩,Z⟩
   obtain⟨j,r,e⟩:=List.mem_iff_getElem.1 hm
   exact absurd e.symm (z.out j _ (by have:=A.out;omega) (Zg r))
theorem Qd7 (x:Int) (f:l.length=N) (a:N<=100000) (g:intsL.In w Q l [.slice p N c]) :
 Calls prog 279 #[.slice p N c,Iv x] w fun e w'=>e=.returned (.bool (inB l x))/\w'=w:=by
 have C:=Qa (Qhx x f a g);clear g f;go_enter func279,ntmps279
 go_wp2_with fail
 refine C.out.mono ?_;rintro e w' ⟨⟨i,rfl,d⟩,b⟩;have b:=b.symm;subst b
 have E:Hid (inB l x=decide (i>=0)):=by
  show _=_;rw[Bool.eq_iff_iff,inB_iff]
  simp[d]
 clear C d;go_wp2
 go_ret;exact⟨by rw[E.out];rfl,Z⟩
theorem QfW (H:List Bool) (l:List Int)(a:l[k]?=some x):QL H (l.take k) (l.drop k)=if hHas H x then (if inB (l.take k) x then 13 else QL H (l.take (k+1)) (l.drop (k+1))) else 10:=by
 obtain⟨b,e⟩:=Zi a
 rw[List.drop_eq_getElem_cons b,e,QL,XV,a]
 rfl
def Qb4 (H:List Bool) (l:List Int) (asked:Int):Int:=if (l.length:Int)=asked then QL H [] l else 2
theorem Qes {A:Nat->Prop}{s:JSt}(d:Int) (M:l.length=N) (V:N<=100000) (U:N<=c) (J:intsL.In w Q l [.slice p N c]) (h:SAt w b O A s) :
 Calls prog 273 #[Pv b 0,.slice p N c,Iv d] w fun e w'=>ZG (Qb4 s.H l d) VNone e/\w'=w:=by
 have P:=Qa J;have z:=Qa M;obtain⟨X,cm,hh,a1,c1,W,c2,a3,c3,aL,cL,I⟩:=h.read
 obtain⟨-,q1,-⟩:=I.cells
 have T:=Qa I.held;clear h J M I;by_cases m:(N:Int)=d
 rotate_left
 ·have u:((N:Int)==d)=false:=by simpa using m
  have E:Hid (Qb4 s.H l d=2):=by show _=_;unfold Qb4;rw[z.out,Xr m]
  go_enter func273,ntmps273
  go_wp2_with fail
  refine(Zf _ 2).mono ?_
  rintro n w' ⟨rfl,a⟩;subst a;exact⟨Z,ZG.bad E.out (by decide),Z⟩
 subst m;have u:((N:Int)==(N:Int))=true:=by simp
 have E:Hid (Qb4 s.H l N=QL s.H [] l):=by show _=_;unfold Qb4;rw[z.out,Xs Z]
 go_enter func273,ntmps273
 go_wp2_with (go_at_call 268;refine(Zh _ _).mono ?_;rintro n w' ⟨rfl,a⟩;have a:=a.symm;subst a)
 go_loop [15] (fun i=>∃ k:Nat,k<=N/\i=Iv k/\QL s.H [] l=QL s.H (l.take k) (l.drop k)) (fun i=>N - (intOf i).toNat)
 case atStart=>exact⟨0,Xb _,Z,Z⟩
 case round =>
  obtain⟨k,hk,rfl,L⟩:=hrel
  have K:=Qa L;clear L;by_cases q:k<N
  ·have r:(k:Int)<N:=by omega
   have S:k<=c:=by omega
   have f:k<l.length:=by rw[z.out];exact q
   obtain⟨g,o,rfl,-,hg,F⟩:=ZI P.out f
   obtain⟨y,x⟩:∃ y,l[k]?=some y:=⟨_,Zg f⟩
   rw[show l.getD k 0=y by rw[List.getD_eq_getElem?_getD,x];rfl] at F
   have B:=Qa (K.out.trans (QfW s.H l x));have C:=Qa (QcA y T.out)
   cases hq:hHas s.H y with
   | false =>
     rw[hq] at C
     have j:Hid (Qb4 s.H l N=10):=by show _=_;rw[E.out,B.out,hq];rfl
     clear x f hq;go_wp2_with (go_at_call 272;refine(C.out).mono ?_;rintro e w' ⟨rfl,a⟩;have a:=a.symm;subst a)
     refine(Zf _ 10).mono ?_
     rintro n w' ⟨rfl,a⟩;subst a;exact⟨Z,ZG.bad j.out (by decide),Z⟩
   | true =>
     rw[hq] at C
     have D:Hid (∀ G,Calls prog 279 #[.slice (some ⟨g,o,none⟩) k G,Iv y] w fun e w'=>e=.returned (.bool (inB (l.take k) y))/\w'=w):=fun G=>Qd7 y (by rw[List.length_take];omega) (by omega) (QiG P.out (Nat.le_of_lt f) G);have t:Hid (QL s.H [] l=if inB (l.take k) y then 13 else QL s.H (l.take (k+1)) (l.drop (k+1))):=by show _=_;rw[B.out,hq];rfl
     clear x f hq B
     cases hi:inB (l.take k) y with
     | true =>
       rw[hi] at D
       have j:Hid (Qb4 s.H l N=13):=by show _=_;rw[E.out,t.out,hi];rfl
       clear hi;go_wp2_with (go_at_call 272;refine(C.out).mono ?_;rintro e w' ⟨rfl,a⟩;have a:=a.symm;subst a)
       refine(Zh _ _).mono ?_
       rintro n w' ⟨rfl,a⟩;have a:=a.symm;subst a;go_wp2_with (go_at_call 279;refine(D.out _).mono ?_;rintro e w' ⟨rfl,a⟩;have a:=a.symm;subst a)
       refine(Zf _ 13).mono ?_
       rintro n w' ⟨rfl,a⟩;subst a;exact⟨Z,ZG.bad j.out (by decide),Z⟩
     | false =>
       rw[hi] at D
       have j:Hid (QL s.H [] l=QL s.H (l.take (k+1)) (l.drop (k+1))):=by show _=_;rw[t.out,hi];rfl
       clear hi;go_wp2_with (go_at_call 272;refine(C.out).mono ?_;rintro e w' ⟨rfl,a⟩;have a:=a.symm;subst a)
       refine(Zh _ _).mono ?_
       rintro n w' ⟨rfl,a⟩;have a:=a.symm;subst a;go_wp2_with (go_at_call 279;refine(D.out _).mono ?_;rintro e w' ⟨rfl,a⟩;have a:=a.symm;subst a)
       refine(Zh _ _).mono ?_
       rintro n w' ⟨rfl,a⟩;have a:=a.symm;subst a;go_wp2
       go_round
       case rel=>exact⟨k+1,q,by go_num,j.out⟩
       case measure=>simp[intOf];omega
  ·have r:¬ (k:Int)<N:=by omega
   have R:k=N:=by omega
   have j:Hid (Qb4 s.H l N=0):=by
    show _=_;rw[E.out,K.out,List.drop_of_length_le (by rw[z.out];omega)]
    rfl
   go_wp2
   exact Xz (v:=.tuple #[]) (by simp[results,results273,go_sem]) Z ⟨ZG.good j.out Z,Z⟩
noncomputable def JSt.handC (s:JSt) (l:List Int) (ts:List (TT 6)):Int:=if l.length=ts.length then Qu (fun p:Int × TT 6=>s.beC p.1 p.2) (l.zip ts) else 2
theorem QaH {A R:Nat->Prop}{s:JSt}{ts:List (TT 6)}{pt:Option Addr}{M:Nat}(hN:l.length=N) (aa:N<=100000) (hM:ts.length=M) (ab:M<=100000) (X:intsL.In w Q l [.slice p N c]) (ht:LIn w R ts pt)
 (hL:s.L.length<=80) (n:∀ x∈s.L,x.count<=100000) (P:∀ k,O k->k<w.heap.size) (h:SAt w b O A s) :
 Calls prog 251 #[Pv b 0,.slice p N c,.slice pt M d] w fun e w'=>ZG (s.handC l ts) VNone e/\Below w.heap.size w w':=by
 have H:=Qa h;have HO:=Qa P;have HL:=Qa X;have HT:=Qa ht;have K:=Qa hN;have J:=Qa hM;have HC:=Qa n;clear h P X hN ht hM n;by_cases C:N=M
 rotate_left
 ·have G:((N:Int)==(M:Int))=false:=by simp;omega
  have E:Hid (s.handC l ts=2):=by show _=_;unfold JSt.handC;rw[K.out,J.out,Xr C]
  go_enter func251,ntmps251
  go_wp2_with fail
  refine(Zf _ 2).mono ?_
  rintro e' w' ⟨rfl,D⟩;subst D;exact⟨Z,ZG.bad E.out (by decide),Zr⟩
 subst C;have G:((N:Int)==(N:Int))=true:=by simp
 have E:Hid (s.handC l ts=Qu (fun p:Int × TT 6=>s.beC p.1 p.2) (l.zip ts)):=by show _=_;unfold JSt.handC;rw[K.out,J.out,Xs Z]
 go_enter func251,ntmps251
 go_wp2_with (go_at_call 268;refine(Zh _ _).mono ?_;rintro e' w' ⟨rfl,D⟩;have D:=D.symm;subst D)
 go_loopw [16] (fun i wr=>∃ k:Nat,k<=N/\i=Iv k/\Below w.heap.size w wr/\∀ (j:Nat) (y:Int × TT 6),j<k->(l.zip ts)[j]?=some y->s.beC y.1 y.2=0) (fun i _=>N - (intOf i).toNat)
 case atStart=>exact⟨0,Xb _,Z,Zr,fun j y hj=>by omega⟩
 case round =>
  obtain⟨k,hk,rfl,hB,hz⟩:=hrel
  have a:=Qa hB;have T:=Qa hz;clear hB hz;by_cases q:k<N
  ·have F:(k:Int)<N:=by omega
   have r:k<l.length:=by rw[K.out];exact q
   have I:k<ts.length:=by rw[J.out];exact q
   obtain⟨g,o,rfl,-,hg,u⟩:=ZI HL.out r
   obtain⟨y,f⟩:∃ y,l[k]?=some y:=⟨_,Zg r⟩
   obtain⟨t,z⟩:∃ t,ts[k]?=some t:=⟨_,Zg I⟩
   rw[show l.getD k 0=y by rw[List.getD_eq_getElem?_getD,f];rfl] at u
   obtain⟨g2,o2,p2,c2,rfl,-,d0,U,d2,m⟩:=HT.out.at z
   have HX:Hid ((l.zip ts)[k]?=some (y,t)):=by show _=_;rw[List.getElem?_zip_eq_some];exact⟨f,z⟩
   have y0:=Qk u a.out;have z0:=Qk d0 a.out;have z1:=Qk U a.out;have z2:=Qk d2 a.out;have HK:=Qa (m.below a.out);clear u r I d0 U d2 f z m;go_wp2_with fail
   refine(Qdi y HK.out hL HC.out (fun k hk=>Zl (HO.out k hk) a.out.size) (H.out.below a.out)).mono ?_
   rintro e' w2 ⟨P,b2⟩;have V:Hid (Below w.heap.size w w2):=a.out.trans (b2.mono a.out.size);rcases P with ⟨B,x,rfl,-⟩|⟨B,rfl⟩
   rotate_left
   ·have W:s.handC l ts=s.beC y t:=by rw[E.out,Qaq HX.out T.out B]
    exact⟨Z,.inr ⟨by rw[W];exact B,by rw[W]⟩,V.out⟩
   have S:=Qa B;clear B b2 y0 z0 z1 z2;go_wp2
   go_roundw
   case rel =>
    refine⟨k+1,q,by go_num,V.out,fun j y' hj f=>?_⟩
    rcases Nat.lt_or_ge j k with h | h
    ·exact T.out j y' h f
    ·have:j=k:=by omega
     subst this;have e:=HX.out.symm.trans f;injection e with e
     subst e;exact S.out
   case measure=>simp[intOf];omega
  ·have F:¬ (k:Int)<N:=by omega
   go_wp2
   exact Xz (v:=.tuple #[]) (by simp[results,results251,go_sem]) Z ⟨ZG.good (by rw[E.out];exact Z1 (fun j y f=>T.out j y (by have:=(Zi f).1;rw[List.length_zip,K.out,J.out] at this;omega) f)) Z,a.out⟩
theorem Qil (d:l.length=N) (a:intsL.In w Q l [.slice p N c]):Qli w p N (fun i=>l.getD i 0):=fun i b=>by
 obtain⟨g,o,e,-,-,h⟩:=ZI a (show i<l.length by omega)
 exact⟨g,o,e,h⟩
theorem Qk6 {t:TT 6}{e:Ending}(h:QgB w w' (t.ren regs.length (fun i=>regs.getD i 0)) e):∃ a c q,e=.returned (.tuple #[Tv (Qaj regs t) a c,.bool q])/\TIn w' (Qcv w.heap.size) (Qaj regs t) a/\Below w.heap.size w w':=by
 unfold Qaj
 cases hr:t.ren regs.length (fun i=>regs.getD i 0) with
 | none =>
   rw[hr] at h
   obtain⟨rfl,d⟩:=h
   exact⟨none,0,false,Z,fun i x f=>by simp[zeroTT] at f,d⟩
 | some u =>
   rw[hr] at h
   obtain⟨a,c,rfl,b,g⟩:=h
   exact⟨a,c,true,Z,b,g⟩
theorem QaP {R:Nat->Prop}{ts:List (TT 6)}{pt:Option Addr}{M:Nat}(F:regs.length=N) (hM:ts.length=M) (ac:M<=1000) (V:intsL.In w Q regs [.slice p N c]) (W:LIn w R ts pt) (l:∀ x∈ts,x.count<=2000) :
 Calls prog 274 #[.slice pt M d,.slice p N c] w fun e w'=>∃ g,e=.returned (.slice (some ⟨g,0,none⟩) M M)/\w.heap.size<=g/\Qcy w' g M (ts.map (Qaj regs))/\Below w.heap.size w w':=by
 have K:=Qa hM;have HI:=Qa (Qil F V);have HT:=Qa W;have HC:=Qa l;have HN:=Qa F;have J:=QhU w M (by omega);have H:Hid (Below w.heap.size w (w.alloc (.cells (madeCells #[Iv 0,Iv 0,Nv] (M*3)) 105))):=Zd _ _;have z:Hid (Qcy (w.alloc (.cells (madeCells #[Iv 0,Iv 0,Nv] (M*3)) 105)) w.heap.size M ([]:List (TT 6))):=⟨_,Qe w _ _,size_madeCells _ _,fun i x hx=>by simp at hx⟩;clear hM V W l F;go_enter func274,ntmps274
 go_wp2
 generalize w.alloc (.cells (madeCells #[Iv 0,Iv 0,Nv] (M*3)) 105)=w1 at H z |-;obtain⟨G,A⟩:∃ G,G=w.heap.size:=⟨_,Z⟩
 rw[<-A] at z |-
 have y:=Qa (Nat.le_of_eq A.symm);have HE:=Qa A;clear J A;go_loopw [13] (fun i wr=>∃ q:Nat,q<=M/\i=Iv q/\Qcy wr G M ((ts.take q).map (Qaj regs))/\Below w.heap.size w wr) (fun i _=>M - (intOf i).toNat)
 case atStart=>exact⟨0,Xb _,Z,z.out,H.out⟩
 case round =>
  clear z H;obtain⟨q,hq,rfl,hY,hB⟩:=hrel
  have f:=Qa hB;have Y:=Qa hY;clear hB hY;by_cases m:q<M
  ·have ab:(q:Int)<M:=by omega
   have v:q<ts.length:=by rw[K.out];exact m
   obtain⟨t,a⟩:∃ t,ts[q]?=some t:=⟨_,Zg v⟩
   obtain⟨g2,o2,D,E,rfl,-,d0,O,d2,j⟩:=HT.out.at a
   have S:=Qk d0 f.out;have z1:=Qk O f.out;have z2:=Qk d2 f.out
   have C:Hid (∀ o,Below wr.heap.size wr o->Calls prog 285 #[Tv t D E,.slice p N c] o fun e w'=>∃ a' c' X,e=.returned (.tuple #[Tv (Qaj regs t) a' c',.bool X])/\TIn w' (Qcv o.heap.size) (Qaj regs t) a'/\Below o.heap.size o w'):=fun o hb=>by
    have s:=f.out.trans (hb.mono f.out.size)
    have:=rename_any 6 t D E p N c (fun i=>regs.getD i 0) o (j.below s).all (HC.out t (Zm a)) (HI.out.below s)
    refine this.mono (fun e w' h=>?_);rw[<-HN.out] at h
    exact Qk6 h
   have HS:Hid ((ts.take (q+1)).map (Qaj regs)=(ts.take q).map (Qaj regs)++[Qaj regs t]):=by show _=_;rw[XV,a,List.map_append];rfl
   have u:Hid (((ts.take q).map (Qaj regs)).length=q):=by show _=_;rw[XN,List.length_take];omega
   clear d0 O d2 j a v;simp only[Tv] at C
   generalize t.kind=tk at S C;generalize t.r=tr at z1 C;generalize t.len=tl at z2 C;have ad:q*3+2<M*3:=by omega
   go_wp2_with fail
   have n:Below wr.heap.size wr (wr.alloc (.cells #[Iv tk,Iv tr,.slice D tl E] 105)):=(Below.refl _ wr).alloc Ze _;refine(C.out _ n).mono ?_
   rintro e B ⟨T,U,X,rfl,L,I⟩;have b:=Y.out.below (n.trans (I.mono n.size));have B4:Hid (Below w.heap.size w B):=f.out.trans ((n.trans (I.mono n.size)).mono f.out.size);obtain⟨v0,r0⟩:=b.has (q*3) (by omega)
   obtain⟨v1,r1⟩:=b.has (q*3+1) (by omega)
   obtain⟨v2,r2⟩:=b.has (q*3+2) (by omega)
   have f0:=b.frozen (q*3);have f1:=b.frozen (q*3+1);have f2:=b.frozen (q*3+2);have P:TIn B (Qcv (G+1)) (Qaj regs t) T:=L.mono (fun k hk _=>by have:=Y.out.lt;have:wr.heap.size<=k:=Zt n.size hk;omega);have Z5:=Qa (b.set (c:=U) u.out m P);have Z6:Hid (Below w.heap.size w (((B.setCell ⟨G,q*3,none⟩ (Iv (Qaj regs t).kind)).setCell ⟨G,q*3+1,none⟩ (Iv (Qaj regs t).r)).setCell ⟨G,q*3+2,none⟩ (.slice T (Qaj regs t).len U))):=((B4.out.setCell (p:=⟨G,q*3,none⟩) y.out _).setCell (p:=⟨G,q*3+1,none⟩) y.out _).setCell (p:=⟨G,q*3+2,none⟩) y.out _;clear b P L I n C S z1 z2;simp only[Tv] at Z5 Z6 |-
   go_wp2
   go_roundw
   case rel=>exact⟨q+1,m,by go_num,by rw[HS.out];exact Z5.out,Z6.out⟩
   case measure=>simp[intOf];omega
  ·have aa:¬ (q:Int)<M:=by omega
   have e:ts.take q=ts:=XO (by rw[K.out];omega);rw[e] at Y
   go_wp2
   go_ret;exact⟨G,Z,y.out,Y.out,f.out⟩
abbrev Qol (Z:Type):=List (Nat × (Z->World->(Nat->Prop)->Prop))
theorem Qgh {m:Nat}{too:Nat->Int}(c:∀ i,i<m->-9223372036854775808<=too i/\too i<=9223372036854775807):{n:Nat}->{t u:TT n}->t.ok->t.ren m too=some u->u.ok
 | 0,t,_,_,_=>Empty.elim t
 | n+1,t,u,hok,h=>by
   simp only[TT.ren] at h
   cases e1:ZK m too t.1 t.2.1 with
   | none=>simp[e1] at h
   | some r1 =>
     simp only[e1] at h
     cases e2:ZT (TT.ren m too) t.2.2 with
     | none=>simp[e2] at h
     | some l1 =>
       simp only[e2] at h
       have h:=Xn h;subst h;refine⟨?_,fun x d=>?_⟩
       ·show -9223372036854775808<=r1/\r1<=9223372036854775807;unfold ZK at e1;split at e1
        ·cases e1;exact hok.1
        split at e1
        ·cases e1
        rename_i j g
        split at e1
        ·cases e1
        ·cases e1;exact c _ (by omega)
       ·obtain⟨f,e⟩:=ZS.1 e2
        obtain⟨i,b⟩:=List.getElem?_of_mem d
        have a:i<t.2.2.length:=by rw[<-f];exact(Zi b).1
        have:=e i t.2.2[i] (Zg a)
        rw[b] at this
        exact Qgh c (hok.2 _ (List.getElem_mem a)) this
theorem QhP (h:intsL.In w Q l [.slice a m c]):∀ x∈l,-9223372036854775808<=x/\x<=9223372036854775807:=fun x d=>by
 obtain⟨i,b⟩:=List.getElem?_of_mem d
 obtain⟨g,o,f,_,_,_,_,_,e⟩:=Yf h b
 exact e
theorem QdR {m:List (MFunc 6)}(h:(QaN 6).In w Q m [.slice p n c]){g:MFunc 6}(d:m[k]?=some g) :
 ∃ mg mo a1 c1 a2 c2 a3 c3,p=some ⟨mg,mo,none⟩/\w.cell? ⟨mg,mo+k*4,none⟩=some (Iv g.regs)/\w.cell? ⟨mg,mo+k*4+1,none⟩=some (.slice a1 g.params.length c1)/\w.cell? ⟨mg,mo+k*4+2,none⟩=some (.slice a2 g.results.length c2)/\w.cell? ⟨mg,mo+k*4+3,none⟩=some (.slice a3 g.blocks.length c3) /\
  (Qp 6).In w Q g.params [.slice a1 g.params.length c1]/\(Qp 6).In w Q g.results [.slice a2 g.results.length c2]:=by
 obtain⟨mg,mo,o,b,j,r,a,f⟩:=Yf h d
 obtain⟨a1,c1,a2,c2,a3,c3,rfl,i,e,q,l⟩:=Qas f
 exact⟨mg,mo,a1,c1,a2,c2,a3,c3,b,a 0 (by decide),a 1 (by decide),a 2 (by decide),a 3 (by decide),i,e⟩
theorem Qmc (h:∀ x∈regs,-9223372036854775808<=x/\x<=9223372036854775807){t:TT 6}(b:t.ok):(Qaj regs t).ok:=by
 unfold Qaj
 cases e:t.ren regs.length (fun i=>regs.getD i 0) with
 | none=>exact⟨⟨by decide,by decide⟩,fun x c=>by simp[zeroTT] at c⟩
 | some u=>exact Qgh (fun i a=>h (regs.getD i 0) (by simp[List.getD,a])) b e
theorem Qcy.types {M:Nat}{A:Nat->Prop}{l:List (TT 6)}(h:Qcy w G M l) (s:l.length=M) (d:∀ x∈l,x.ok) (m:∀ k,G<=k->¬ A k):(Qp 6).In w (fun g=>¬ A g) l [.slice (some ⟨G,0,none⟩) M M]:=by
 obtain⟨p,b,v,t⟩:=h.row
 subst s;refine⟨_,_,Z,fun i x f=>?_⟩
 obtain⟨a,c,q,n,o,u⟩:=t i x f
 refine⟨G,0,[Iv x.kind,Iv x.r,.slice a x.len c],Z,m G Ze,XC b,fun j e=>?_,a,c,Z,u.mono (fun k y _=>m k (by omega)),d x (Zm f)⟩
 have e:j<3:=e;show w.cell? ⟨G,0+i*3+j,none⟩=_;rw[XK]
 match j,e with
 | 0,_=>exact Qb b _ _ q
 | 1,_=>exact Qb b _ _ n
 | 2,_=>exact Qb b _ _ o
 | j+3,h=>exact absurd h (by omega)
noncomputable def JSt.callC (s:JSt) (x:Qt):Int:=match s.m[x.k.toNat]? with
 | none=>0
 | some g=>Qv (Qb4 s.H x.regs g.regs) (Qv (s.handC x.args (g.params.map (Qaj x.regs))) (QZ s.L.length g.results.length))
def JSt.callS (s:JSt) (x:Qt):JSt:={ s with L:=s.L++(match s.m[x.k.toNat]? with | none=>[] | some g=>g.results.map (Qaj x.regs)) }
def Qnw (w2:World) (b X mg mo nm cm k n1 d1 n2 d2 n3 d3:Nat) (fr:Int) (p1 p2 p3:Option Addr) (t:Tmp) (v:Value) (w:World):Prop :=
 match ([(4,fun v w=>∃ B,v=.pointer (some ⟨B,0,none⟩)/\w2.heap.size<=B/\Blk w B #[.int .i64 0,.slice none 0 0,.slice none 0 0,.slice none 0 0] 89)]:List (Tmp × (Value->World->Prop))).lookup t with
 | some p=>p v w
 | none=>v=(([(0,.pointer (some ⟨b,0,none⟩)),(3,.pointer (some ⟨X,0,none⟩)),(5,.pointer (some ⟨b,0,none⟩)),(6,.pointer (some ⟨b,0,none⟩)),(7,.pointer (some ⟨b,0,none⟩)),(8,.pointer (some ⟨b,0,none⟩)),(9,.slice (some ⟨mg,mo,none⟩) nm cm),(10,.pointer (some ⟨X,4,none⟩)),(11,.int .i64 (k:Int)),(12,.pointer (some ⟨mg,mo+k*4,none⟩)),(13,.agg #[.int .i64 fr,.slice p1 n1 d1,.slice p2 n2 d2,.slice p3 n3 d3])]:List (Tmp × Value)).lookup t).getD undef
theorem jc1 {g d r j d1 s y x q:Nat}{p1 u l:Option Addr}(R:w2.cell? ⟨b,0,none⟩=some (.slice (some ⟨g,d,none⟩) r cm)) (J:w2.cell? ⟨X,4,none⟩=some (Iv (k:Int))) (F:w2.cell? ⟨g,d+k*4,none⟩=some (Iv fr)) (N:w2.cell? ⟨g,d+k*4+1,none⟩=some (.slice p1 j d1)) (L:w2.cell? ⟨g,d+k*4+2,none⟩=some (.slice u s y)) (D:w2.cell? ⟨g,d+k*4+3,none⟩=some (.slice l x q)) (G:(k:Int)<r){Q:Exit->Act->World->Prop}
 (a:Act) (m:Nat) (M:a.tmps.size=m) (o:36<=m) (P:a.tmps.getD 0 undef=Pv b 0) (E:a.tmps.getD 3 undef=Pv X 0)
 (hend:∀ ops vs w',vs 13=.agg #[Iv fr,.slice p1 j d1,.slice u s y,.slice l x q]->(fun v w=>∃ B,v=Pv B 0/\w2.heap.size<=B/\Blk w B #[Iv 0,Nv,Nv,Nv] 89) (vs 4) w'->Below w2.heap.size w2 w'->wpList prog ops Q (Qam 10 ((Tryz.f249.body.bind (Qi 1)).getD .skip)) (QM a vs [5,6,7,8,9,10,11,12,13,4]) w') :
 Code.wp prog ((Tryz.f249.body.bind (Qi 1)).getD .skip) Q a w2:=by
 conv=>arg 2;whnf
 refine Qg 10 (Qnw w2 b X g d r cm k j d1 s y x q fr p1 u l) (fun w=>Below w2.heap.size w2 w) (fun w w'=>Below w.heap.size w w') (outs:=[0,3]) (gs:=[]) (bs:=[true,true,true,true,true,true,true,true,true,true]) (by kernel_rfl) (n:=36) M o (by kernel_rfl) (by kernel_rfl) ?hR ?hG (QI Zr 1) ⟨P,E,Y⟩ ?hA ?hend
 case hR =>
  intro t v w w' H h;unfold Qnw at h |-;split at h
  ·rename_i p i
   simp only[List.lookup_cons,List.lookup_nil] at i
   split at i
   ·cases i;exact(by obtain⟨B,e,O,C⟩:=h;exact⟨B,e,O,(H.block B (XC C)).trans C⟩)
   ·cases i
  ·exact h
 case hG=>exact Y
 case hend=>exact fun ops vs w' c f=>hend ops vs w' (f 13 (by kernel_rfl)) (f 4 (by kernel_rfl)) c
 case hA =>
  repeat
   refine⟨fun a w c f K z=>?_,?_⟩
   focus first
    | obtain⟨A,-⟩:=f
      conv at A=>whnf;rhs;whnf
      have T:=Qk R c;have c1:=Qk J c;have W:=Qk F c;have V:=Qk N c;have S:=Qk L c;have U:=Qk D c;go_simp;exact z _ _ Zr c Z
    | clear f
      go_simp;exact z _ _ (Zd _ _) (c.alloc c.size _) ⟨_,Z,c.size,Qe _ _ _⟩
    | obtain⟨A,I,-⟩:=f
      conv at A=>whnf;rhs;whnf
      conv at I=>whnf;rhs;whnf
      go_simp;exact z _ _ Zr c Z
  trivial
def QnC (w2:World) (b X C N ac n1 d1 Kn rc:Nat) (ag rg p1:Option Addr) (ps:List (TT 6)) (regs:List Int) (t:Tmp) (v:Value) (w:World):Prop :=
 match ([(27,fun v w=>∃ g,v=.slice (some ⟨g,0,none⟩) n1 n1/\w2.heap.size<=g/\Qcy w g n1 (ps.map (Qaj regs)))]:List (Tmp × (Value->World->Prop))).lookup t with
 | some p=>p v w
 | none=>v=(([(0,.pointer (some ⟨b,0,none⟩)),(3,.pointer (some ⟨X,0,none⟩)),(4,.pointer (some ⟨C,0,none⟩)),(20,.pointer (some ⟨b,0,none⟩)),(21,.pointer (some ⟨X,7,none⟩)),(22,.slice ag N ac),(23,.pointer (some ⟨C,1,none⟩)),(24,.slice p1 n1 d1),(25,.pointer (some ⟨X,6,none⟩)),(26,.slice rg Kn rc)]:List (Tmp × Value)).lookup t).getD undef
theorem jc3 {C d d1 j:Nat}{p1:Option Addr}{i:List (TT 6)}{R:Nat->Prop}(O:w2.cell? ⟨X,6,none⟩=some (.slice rg j rc)) (L:w2.cell? ⟨X,7,none⟩=some (.slice ag N ac)) (F:w2.cell? ⟨C,1,none⟩=some (.slice p1 d d1)) (M:Hid (regs.length=j)) (o:Hid (i.length=d)) (r:d<=1000) (P:Hid (intsL.In w2 Q regs [.slice rg j rc])) (H:Hid (LIn w2 R i p1)) (B:Hid (∀ x∈i,x.count<=2000)){Q:Exit->Act->World->Prop}
 (a:Act) (m:Nat) (S:a.tmps.size=m) (l:36<=m) (U:a.tmps.getD 0 undef=Pv b 0) (D:a.tmps.getD 3 undef=Pv X 0) (A:a.tmps.getD 4 undef=Pv C 0)
 (hend:∀ ops vs w',vs 22=.slice ag N ac->vs 20=Pv b 0->(fun v w=>∃ g,v=.slice (some ⟨g,0,none⟩) d d/\w2.heap.size<=g/\Qcy w g d (i.map (Qaj regs))) (vs 27) w'->Below w2.heap.size w2 w'->wpList prog ops Q (Qam 8 ((Tryz.f249.body.bind (Qi 3)).getD .skip)) (QM a vs [20,21,22,23,24,25,26,27]) w') :
 Code.wp prog ((Tryz.f249.body.bind (Qi 3)).getD .skip) Q a w2:=by
 conv=>arg 2;whnf
 refine Qg 8 (QnC w2 b X C N ac d d1 j rc ag rg p1 i regs) (fun w=>Below w2.heap.size w2 w) (fun w w'=>Below w.heap.size w w') (outs:=[0,3,4]) (gs:=[]) (bs:=[true,true,true,true,true,true,true,true]) (by kernel_rfl) (n:=36) S l (by kernel_rfl) (by kernel_rfl) ?hR ?hG (QI Zr 1) ⟨U,D,A,Y⟩ ?hA ?hend
 case hR =>
  intro t v w w' I h;unfold QnC at h |-;split at h
  ·rename_i p k
   simp only[List.lookup_cons,List.lookup_nil] at k
   split at k
   ·cases k;exact(by obtain⟨g,e,T,G⟩:=h;exact⟨g,e,T,G.below I⟩)
   ·cases k
  ·exact h
 case hG=>exact Y
 case hend=>exact fun ops vs w' c f=>hend ops vs w' (f 22 (by kernel_rfl)) (f 20 (by kernel_rfl)) (f 27 (by kernel_rfl)) c
 case hA =>
  iterate 7
   refine⟨fun a w c f K u=>?_,?_⟩
   ·obtain⟨y,-⟩:=f
    conv at y=>whnf;rhs;whnf
    have W:=Qk L c;have u1:=Qk F c;have V:=Qk O c;go_simp;exact u _ _ Zr c Z
  refine⟨fun a w c f K u=>?_,?_⟩
  ·obtain⟨y,J,-⟩:=f
   conv at y=>whnf;rhs;whnf
   conv at J=>whnf;rhs;whnf
   go_simp;refine Xm (QaP M.out o.out r (Ya P.out c) (H.out.below c) B.out) ?_;rintro r7 w7 ⟨E,rfl,q,s,z⟩;go_simp;exact u _ _ z (c.trans (z.mono c.size)) ⟨E,Z,Zt c.size q,s⟩
  trivial
theorem Qjw {A:Nat->Prop}{s:JSt}{x:Qt}(hA:∀ k,A k->k<w.heap.size) (hJ:JOk s) (h:SAt w b O A s) (n:intsL.In w Q x.regs [.slice rg x.regs.length rc]) (j:intsL.In w Q x.args [.slice ag x.args.length ac]) (ae:x.regs.length<=rc) (a7:x.regs.length<=6) (bb:x.args.length<=8) (an:0<=x.k/\x.k<s.m.length) :
 Calls prog 249 #[Pv b 0,Qd6 x rg ag rc ac] w fun e w'=>QO w b O A s (s.callS x) (s.callC x) e w':=by
 obtain⟨J,D,F,M,xk,B,a,f⟩:=x
 simp only at n j ae a7 bb an
 have HJ:=Qa hJ;have H0:=Qa h;have HA:=Qa hA;have hL:=hJ.vals;have b1:=Zd w (.cells #[Iv J,Iv D,Iv F,Iv M,Iv xk,Iv B,.slice rg a.length rc,.slice ag f.length ac] 78);have H:=Qa (h.below b1);have HR:Hid (intsL.In _ Q a [.slice rg a.length rc]):=Ya n b1;have HG:Hid (intsL.In _ Q f [.slice ag f.length ac]):=Ya j b1;have HB:=Qa b1;have X1:Hid (Blk (w.alloc (.cells #[Iv J,Iv D,Iv F,Iv M,Iv xk,Iv B,.slice rg a.length rc,.slice ag f.length ac] 78)) w.heap.size #[Iv J,Iv D,Iv F,Iv M,Iv xk,Iv B,.slice rg a.length rc,.slice ag f.length ac] 78):=Blk.new _ _ _;clear h hA hJ b1 n j;obtain⟨k,rfl⟩:=Xc an.1
 have a9:k<s.m.length:=by omega
 have q:s.m[k]?=some s.m[k]:=Zg a9;generalize s.m[k]=g at q;have ba:Hid (g∈s.m):=Zm q
 have E:Hid (s.callC ⟨J,D,F,M,(k:Int),B,a,f⟩=Qv (Qb4 s.H a g.regs) (Qv (s.handC f (g.params.map (Qaj a))) (QZ s.L.length g.results.length))):=by
  show _=_;unfold JSt.callC;simp only[Int.toNat_natCast,q]
 have ES:Hid (s.callS ⟨J,D,F,M,(k:Int),B,a,f⟩={ s with L:=s.L++g.results.map (Qaj a) }):=by
  show _=_;unfold JSt.callS;simp only[Int.toNat_natCast,q]
 have ax:=Qa (HJ.out.mod.2 g ba.out);have a8:Hid (¬ MFunc.great g):=fun hg=>HJ.out.tiny (.inr ⟨g,ba.out,hg⟩);have bh:Hid (∀ t∈g.params,t.count<=2000):=fun t ht=>Xo fun ad=>a8.out (.inr (.inl (.inr ⟨t,ht,ad⟩)));have bg:Hid (∀ t∈g.results,t.count<=2000):=fun t ht=>Xo fun ad=>a8.out (.inr (.inr (.inl (.inr ⟨t,ht,ad⟩))));have bi:Hid (∀ t∈s.L,t.count<=100000):=fun t ht=>Zt (Z3 (HJ.out.types t ht)) (by omega);have az:(k:Int)<s.m.length:=by omega
 go_enter func249,ntmps249
 go_upto_region 1 with fail
 generalize w.alloc (.cells #[Iv J,Iv D,Iv F,Iv M,Iv (k:Int),Iv B,.slice rg a.length rc,.slice ag f.length ac] 78)=w1 at H HR HG HB X1 |-;obtain⟨X,hX⟩:∃ X,w.heap.size=X:=⟨_,Z⟩
 rw[hX] at X1 |-
 clear hX;have x4:=Qb X1.out 4 _ Z;have x6:=Qb X1.out 6 _ Z;have x7:=Qb X1.out 7 _ Z;obtain⟨pm,cm,hh,a1,c1,a2,c2,a3,c3,aL,cL,RR⟩:=H.out.read
 obtain⟨q0,-⟩:=RR.cells
 obtain⟨mg,mo,p1,d1,P,I,p3,d3,rfl,f0,f1,f2,f3,hP,a0⟩:=QdR RR.mod q
 have al:Hid ((Qp 6).In w1 (fun g=>¬ A g) g.params [.slice p1 g.params.length d1]):=hP;have am:Hid ((Qp 6).In w1 (fun g=>¬ A g) g.results [.slice P g.results.length I]):=a0;clear RR hP a0 q an;generalize s.m.length=nm at q0 a9 az;generalize bl:g.regs=fr at f0 E;generalize ai:g.params.length=S at f1 al;have ar:=Qa ai;generalize ao:g.results.length=o at f2 am E;have au:=Qa ao;generalize g.blocks.length=n3 at f3;have bn:S<=8:=by rw[<-ai];exact ax.out.params.1
 have bm:o<=8:=by rw[<-ao];exact ax.out.results.1
 clear ai ao bl;refine jc1 q0 x4 f0 f1 f2 f3 az _ _ Z (Xg (by kernel_rfl)) Z Z ?_;rintro ah vs w5 aa ⟨C,bd,hC,l⟩ b5;show wpList _ ah _ [_] (QM _ vs [5,6,7,8,9,10,11,12,13,4]) w5;simp only[QM,Act.put,List.setIfInBounds_toArray,List.set_cons_zero,List.set_cons_succ,aa,bd]
 have e0:=Qb l 0 _ Z;have e1:=Qb l 1 _ Z;have e2:=Qb l 2 _ Z;have e3:=Qb l 3 _ Z;have ef:∀ i,w5.frozen? ⟨C,i,none⟩=false:=fun i=>Qj l i
 have B6:Hid (Blk ((((w5.setCell ⟨C,0,none⟩ (Iv fr)).setCell ⟨C,1,none⟩ (.slice p1 S d1)).setCell ⟨C,2,none⟩ (.slice P o I)).setCell ⟨C,3,none⟩ (.slice p3 n3 d3)) C #[Iv fr,.slice p1 S d1,.slice P o I,.slice p3 n3 d3] 89):=by
  have h3:=Qh (Qh (Qh (Qh l 0 (Iv fr)) 1 (.slice p1 S d1)) 2 (.slice P o I)) 3 (.slice p3 n3 d3);exact h3
 have G:Hid (Below w1.heap.size w1 ((((w5.setCell ⟨C,0,none⟩ (Iv fr)).setCell ⟨C,1,none⟩ (.slice p1 S d1)).setCell ⟨C,2,none⟩ (.slice P o I)).setCell ⟨C,3,none⟩ (.slice p3 n3 d3))) :=
  (((b5.setCell (p:=⟨C,0,none⟩) hC _).setCell (p:=⟨C,1,none⟩) hC _).setCell (p:=⟨C,2,none⟩) hC _).setCell (p:=⟨C,3,none⟩) hC _
 clear l hC b5 aa bd q0 f0 f1 f2 f3;go_upto_region 2 with fail
 generalize ((((w5.setCell ⟨C,0,none⟩ (Iv fr)).setCell ⟨C,1,none⟩ (.slice p1 S d1)).setCell ⟨C,2,none⟩ (.slice P o I)).setCell ⟨C,3,none⟩ (.slice p3 n3 d3))=w6 at B6 G |-;clear e0 e1 e2 e3 ef;obtain⟨e0,e1,e2,e3⟩:=Qmn B6.out
 have x6:=Qk x6 G.out;have x7:=Qk x7 G.out;have H6:=Qa (H.out.below G.out);have T:=Qa (HB.out.trans (G.out.mono HB.out.size));have r:Hid (intsL.In w6 Q a [.slice rg a.length rc]):=Ya HR.out G.out;have ak:Hid (intsL.In w6 Q f [.slice ag f.length ac]):=Ya HG.out G.out;have bf:Hid ((Qp 6).In w6 (fun g=>¬ A g) g.params [.slice p1 S d1]):=Ya al.out G.out;have aq:Hid ((Qp 6).In w6 (fun g=>¬ A g) g.results [.slice P o I]):=Ya am.out G.out;clear H HB HR HG al am G B6 X1 x4;obtain⟨K,hK⟩:∃ K,a.length=K:=⟨_,Z⟩
 have HK:=Qa hK;rw[hK] at x6 r ae a7
 clear hK;obtain⟨N,hN⟩:∃ N,f.length=N:=⟨_,Z⟩
 have HN:=Qa hN;rw[hN] at x7 ak bb
 clear hN;have CL:=Qa (Qes fr HK.out (by omega) ae r.out H6.out);go_wp2_with fail
 refine CL.out.mono ?_;rintro e' w' ⟨hO,hw⟩;have hw:=hw.symm;subst hw;rcases hO with ⟨u,y,rfl,hy⟩|⟨u,rfl⟩
 rotate_left
 ·exact⟨Z,QO.bad (by rw[E.out,Ql u]) u (Yh H0.out T.out)⟩
 subst hy;have E2:Hid (s.callC ⟨J,D,F,M,(k:Int),B,a,f⟩=Qv (s.handC f (g.params.map (Qaj a))) (QZ s.L.length o)):=by show _=_;rw[E.out,Qx u]
 clear u CL E;go_upto_region 3 with fail
 refine jc3 x6 x7 e1 HK ar (by omega) r (Qa (QX bf.out).1) bh _ _ Z (Xg (by kernel_rfl)) Z Z Z ?_;rintro ah vs w7 U V ⟨gP,ab,bk,aw⟩ b7;show wpList _ ah _ [_] (QM _ vs [20,21,22,23,24,25,26,27]) w7;simp only[QM,Act.put,List.setIfInBounds_toArray,List.set_cons_zero,List.set_cons_succ,U,V,ab]
 have H7:=Qa (H6.out.below b7);have R:=Qa (T.out.trans (b7.mono T.out.size))
 have CH:Hid (Calls prog 251 #[Pv b 0,.slice ag N ac,.slice (some ⟨gP,0,none⟩) S S] w7 fun e w'=>ZG (s.handC f (g.params.map (Qaj a))) VNone e/\Below w7.heap.size w7 w') :=
  QaH HN.out (by omega) (by rw[XN,ar.out]) (by omega) (Ya ak.out b7) aw.lin hL bi.out (fun k hk=>Zl (HA.out k (H0.out.sub k hk)) R.out.size) H7.out
 have a6:Hid ((Qp 6).In w7 (fun g=>¬ A g) g.results [.slice P o I]):=Ya aq.out b7;have a5:Hid (intsL.In w7 Q a [.slice rg K rc]):=Ya r.out b7;have a4:=Qk e2 b7;have bc:=Qk x6 b7;clear aw bk b7 U V ab H6 T r ak bf aq e0 e1 e2 e3 x6 x7;go_wp2_with fail
 refine CH.out.mono ?_;rintro e' w8 ⟨hO,b8⟩;have H8:=Qa (H7.out.below b8);have z:=Qa (R.out.trans (b8.mono R.out.size));rcases hO with ⟨u,y,rfl,hy⟩|⟨u,rfl⟩
 rotate_left
 ·exact⟨Z,QO.bad (by rw[E2.out,Ql u]) u (Yh H0.out z.out)⟩
 subst hy;have E3:Hid (s.callC ⟨J,D,F,M,(k:Int),B,a,f⟩=QZ s.L.length o):=by show _=_;rw[E2.out,Qx u]
 have af:Hid ((Qp 6).In w8 (fun g=>¬ A g) g.results [.slice P o I]):=Ya a6.out b8;have aj:Hid (intsL.In w8 Q a [.slice rg K rc]):=Ya a5.out b8;have ap:=Qk a4 b8;have be:=Qk bc b8;clear u CH E2 b8 a6 a5 a4 bc H7 R;have CR:=Qa (QaP (d:=I) (c:=rc) HK.out au.out (by omega) aj.out (QX af.out).1 bg.out);go_wp2_with fail
 refine CR.out.mono ?_;rintro e' w9 ⟨gR,rfl,bj,av,b9⟩;have ay:=Qa (z.out.trans (b9.mono z.out.size))
 have CM:Hid (Calls prog 244 #[Pv b 0,.slice (some ⟨gR,0,none⟩) o o] w9 fun e w'=>QO w b O A s (s.callS ⟨J,D,F,M,(k:Int),B,a,f⟩) (s.callC ⟨J,D,F,M,(k:Int),B,a,f⟩) e w'):=by
  rw[ES.out,E3.out]
  have W:(g.results.map (Qaj a)).length=o:=by rw[XN,au.out]
  refine(Qat W (by omega) (av.types W (fun y hy=>?_) (fun k hk e=>?_)) hL (fun k hk=>Zl (HA.out k hk) ay.out.size) (H8.out.below b9)).mono (fun e w' hd=>hd.after ay.out)
  ·obtain⟨t,ht,rfl⟩:=List.mem_map.1 hy
   exact Qmc (QhP aj.out) ((QX af.out).2 t ht)
  ·have h1:=HA.out k e;have h2:=z.out.size;omega
 clear av bj b9 CR af aj ap be H8 z E3;go_wp2_with fail
 refine CM.out.mono ?_;rintro e' bo hd;have FF:=Qa hd;rcases hd with ⟨h1,rfl,h3⟩|⟨h1,rfl,h3⟩
 rotate_left
 ·exact⟨Z,FF.out⟩
 clear h1 h3 CM;go_wp2
 exact Xz (v:=.tuple #[]) (by simp[results,results249,go_sem]) Z FF.out
def passC (H:List Bool) (kept:Int) (l:List Int) (asked:Int):Int:=if (l.length:Int)=asked then Qv (Qdt kept.toNat l) (hPass H [] l) else 2
theorem QjM (a:k<n) (h:l.getD k 0≠(k:Int)):Qdt n l=11:=by
 unfold Qdt;rw[Xr]
 intro e;rw[Xe] at e
 have:=e k (List.mem_range.2 a)
 exact h (by simpa using this)
theorem Qku (h:∀ k,k<n->l.getD k 0=(k:Int)):Qdt n l=0:=by
 unfold Qdt;rw[Xs]
 rw[Xe]
 intro k a;exact Xt (h k (List.mem_range.1 a))
theorem Qev {A:Nat->Prop}{s:JSt}(a:Int) (hN:l.length=N) (R:N<=100000) (hl:intsL.In w Q l [.slice p N c]) (r:0<=s.f.regs) (G:s.f.regs<=a) (h:SAt w b O A s) :
 Calls prog 275 #[Pv b 0,.slice p N c,Iv a] w fun e w'=>ZG (passC s.H s.f.regs l a) VNone e/\Below w.heap.size w w':=by
 have HL:=Qa hl;have J:=Qa hN;obtain⟨pm,cm,hh,a1,c1,a2,c2,a3,c3,aL,cL,L⟩:=h.read
 obtain⟨-,q1,q2,-⟩:=L.cells
 have HH:=Qa L.held;clear h hl hN L;by_cases n:(N:Int)=a
 rotate_left
 ·have D:((N:Int)==a)=false:=by simpa using n
  have E:Hid (passC s.H s.f.regs l a=2):=by show _=_;unfold passC;rw[J.out,Xr n]
  go_enter func275,ntmps275
  go_wp2_with fail
  refine(Zf _ 2).mono ?_
  rintro q w' ⟨rfl,d⟩;subst d;exact⟨Z,ZG.bad E.out (by decide),Zr⟩
 subst n;have D:((N:Int)==(N:Int))=true:=by simp
 obtain⟨M,V⟩:∃ M:Nat,s.f.regs=(M:Int):=Xc r
 have E:Hid (passC s.H s.f.regs l N=Qv (Qdt M l) (hPass s.H [] l)):=by show _=_;unfold passC;rw[J.out,Xs Z,V];rfl
 rw[V] at q2 G
 have ab:M<=N:=by omega
 have U:Hid (passC s.H s.f.regs l N=passC s.H s.f.regs l N):=rfl;clear r G U;generalize passC s.H s.f.regs l N=pc at E |-;clear V;go_enter func275,ntmps275
 go_wp2_with (go_at_call 268;refine(Zh _ _).mono ?_;rintro q w' ⟨rfl,d⟩;have d:=d.symm;subst d)
 go_loop [18] (fun i=>∃ k:Nat,k<=M/\i=Iv k/\∀ j,j<k->l.getD j 0=(j:Int)) (fun i=>M - (intOf i).toNat)
 case atStart=>exact⟨0,Xb _,Z,fun j hj=>by omega⟩
 case round =>
  obtain⟨k,hk,rfl,hz⟩:=hrel
  have P:=Qa hz;clear hz;by_cases t:k<M
  ·have x:(k:Int)<M:=by omega
   have aa:(k:Int)<N:=by omega
   have z:k<l.length:=by rw[J.out];omega
   obtain⟨g,o,rfl,-,hg,B⟩:=ZI HL.out z
   clear z;by_cases m:l.getD k 0=(k:Int)
   ·have HY:=Qa m;rw[m] at B
    have ac:((k:Int)==(k:Int))=true:=by simp
    clear m;go_wp2_with (go_at_call 268;refine(Zh _ _).mono ?_;rintro q w' ⟨rfl,d⟩;have d:=d.symm;subst d)
    go_round
    case rel =>
     refine⟨k+1,t,by go_num,fun j hj=>?_⟩
     rcases Nat.lt_or_ge j k with h | h
     ·exact P.out j h
     ·have:j=k:=by omega
      subst this;exact HY.out
    case measure=>simp[intOf];omega
   ·have u:Hid (pc=11):=by show _=_;rw[E.out,QjM t m];rfl
    have X:(l.getD k 0==(k:Int))=false:=by simpa using m
    generalize l.getD k 0=y at B m X;clear m;go_wp2_with fail
    refine(Zf _ 11).mono ?_
    rintro q w' ⟨rfl,d⟩;subst d;exact⟨Z,ZG.bad u.out (by decide),Zr⟩
  ·have x:¬ (k:Int)<M:=by omega
   have S:k=M:=by omega
   have u:Hid (pc=hPass s.H [] l):=by show _=_;rw[E.out,Qku (fun j hj=>P.out j (by omega))];rfl
   have C:=Qa (QiX J.out R HL.out HH.out);generalize hPass s.H [] l=K at u C;clear P S;by_cases I:K=0
   ·have T:(K==0)=true:=by simpa using I
    subst I;go_wp2_with (first | (go_at_call 286;refine(C.out).mono ?_;rintro q w2 ⟨rfl,F⟩;have W:=Qa F;clear F) | (go_at_call 268;refine(Zh _ _).mono ?_;rintro q w' ⟨rfl,d⟩;have d:=d.symm;subst d))
    exact Xz (v:=.tuple #[]) (by simp[results,results275,go_sem]) Z ⟨ZG.good u.out Z,W.out⟩
   ·have T:(K==0)=false:=by simpa using I
    have H0:=Qa I;clear I;go_wp2_with (go_at_call 286;refine(C.out).mono ?_;rintro q w2 ⟨rfl,F⟩;have W:=Qa F;clear F)
    refine(Zf _ K).mono ?_
    rintro q w' ⟨rfl,d⟩;subst d;exact⟨Z,ZG.bad u.out H0.out,W.out⟩
theorem Qgn {s:JSt}{r:Int}(e:∀ x∈regs,hHas s.H x=true) (g:(regs.length:Int)=r){t:TT 6}(f:t.check r=0):t.ren regs.length (fun i=>regs.getD i 0)=some (Qaj regs t):=by
 obtain⟨u,d,-⟩:=Qf1 (m:=regs.length) (too:=fun i=>regs.getD i 0) (a:=r) (b:=s.H.length) (by omega) (fun i c=>ZZ (e (regs.getD i 0) (by simp[List.getD,c]))) f
 unfold Qaj;rw[d]
 rfl
theorem QdL {s:JSt}{ts d:List (TT 6)}(a:d.length=ts.length) (h:∀ (i:Nat) t u,ts[i]?=some t->d[i]?=some u->t.ren regs.length (fun i=>regs.getD i 0)=some u):s.handC l d=s.args l ts regs:=by
 unfold JSt.handC JSt.args;rw[a]
 by_cases b:l.length=ts.length
 ·rw[Xs b,Xs b]
  refine Qa0 (by rw[List.length_zip,List.length_zip,a]) (fun i p q f g=>?_);rw[List.getElem?_zip_eq_some] at f g
  obtain⟨n,k⟩:=f
  obtain⟨c,j⟩:=g
  rw[n] at c
  injection c with c
  have m:=h i q.2 p.2 j k;show s.beC p.1 p.2=s.arg regs q.1 q.2;unfold JSt.beC JSt.arg;rw[<-c]
  cases s.at p.1 with
  | none=>rfl
  | some u =>
    show (if ZU (u=p.2) then (0:Int) else 9)=if ZU (q.2.ren regs.length (fun i=>regs.getD i 0)=some u) then 0 else 9
    rw[m]
    have:ZU (u=p.2)=ZU (some p.2=some u):=Qf2 (by rw[Qa6];exact⟨fun e=>by rw[e],fun e=>(Xn e).symm⟩)
    rw[this]
 ·rw[Xr b,Xr b]
theorem QeY {s:JSt}{ts:List (TT 6)}(h:∀ t∈ts,t.ren regs.length (fun i=>regs.getD i 0)=some (Qaj regs t)):s.handC l (ts.map (Qaj regs))=s.args l ts regs :=
 QdL (by rw[XN]) (fun i t u b a=>by
  rw[XS,b] at a
  injection a with a
  rw[<-a]
  exact h t (Zm b))
theorem Qgy {m:Nat}{too:Nat->Int}{a:Int}(f:a<=m) (c:∀ i,i<m->too i=(i:Int)):{n:Nat}->{t:TT n}->t.fault a=0->t.ren m too=some t
 | 0,t,_=>Empty.elim t
 | n+1,t,h=>by
   obtain⟨b,g⟩:=TT.fault_zero h
   have d:ZK m too t.1 t.2.1=some t.2.1:=by
    unfold ownC at b;split at b
    ·cases b
    split at b
    ·cases b
    split at b
    ·cases b
    split at b
    ·cases b
    split at b
    ·cases b
    rename_i q r u s v
    by_cases j:t.1=1
    ·rw[ZK,Xs j]
    ·have:=c t.2.1.toNat (by omega)
     rw[ZK,Xr j,Xr (by omega),Xr (by omega),this]
     congr 1
     omega
   have o:ZT (TT.ren m too) t.2.2=some t.2.2:=by
    generalize t.2.2=l at g
    induction l with
    | nil=>rfl
    | cons x xs ih =>
      have k:=Qgy f c (g x (by simp));have e:=ih (fun y p=>g y (by simp[p]));simp[ZT,k,e]
   simp only[TT.ren,d,o]
   rfl
theorem Qe3 {H:List Bool}:∀ {rest ahead:List Int},hPass H ahead rest=0->∀ x∈rest,hHas H x=true
 | [],ahead,h,x,a=>by cases a
 | r::rest,ahead,h,x,a=>by
   simp only[hPass] at h
   split at h
   ·rename_i b
    split at h
    ·cases h
    ·rcases List.mem_cons.1 a with rfl | a
     ·exact b
     ·exact Qe3 h x a
   ·cases h
theorem Qnj {s:JSt}{g:MBlock 6}{a:List Int}(h:s.f.blocks[k]?=some g) (e:∀ t∈g.params,t.check g.regs=0):s.to ⟨(k:Int),a,xs⟩=Qv (passC s.H s.f.regs a g.regs) (s.handC xs (g.params.map (Qaj a))):=by
 unfold JSt.to passC;simp only[Int.toNat_natCast,h]
 by_cases b:(a.length:Int)=g.regs
 ·rw[Xs b,Xs b]
  by_cases d:Qdt s.f.regs.toNat a=0
  ·rw[Qx d,Qx d]
   by_cases c:hPass s.H [] a=0
   ·rw[Qx c,Qx c,QeY (fun t i=>Qgn (s:=s) (Qe3 c) b (e t i))]
   ·rw[Ql c,Ql c]
  ·rw[Ql d,Ql d];rw[Ql d]
 ·rw[Xr b,Xr b];rfl
theorem QmA {s:JSt}(d:s.f.regs=(n:Int)) (g:∀ t∈s.f.results,t.check s.f.regs=0):s.handC l s.f.results=s.args l s.f.results (QhC s.f.regs.toNat) :=
 QdL Z (fun i t u e b=>by
  rw[e] at b
  injection b with b
  rw[<-b,d,XT]
  have:=g t (Zm e)
  refine Qgy (a:=s.f.regs) (by rw[d];unfold QhC;simp) (fun i c=>?_) (QV.1 this).2;unfold QhC at c |-;simp at c
  simp[List.getD,c])
theorem QkD {A:Nat->Prop}{s:JSt}{x:Qt}(hA:∀ k,A k->k<w.heap.size) (P:JOk s) (h:SAt w b O A s) (o:intsL.In w Q x.regs [.slice rg x.regs.length rc]) (n:intsL.In w Q x.args [.slice ag x.args.length ac]) (z:x.regs.length<=rc) (F:ZB x) (hf:x.form s.m.length=0) (q:x.op=14) :
 Calls prog 212 #[Pv b 0,Qd6 x rg ag rc ac] w fun e w'=>QO w b O A s (s.next x) (s.goC x) e w':=by
 have hE:=Qa8 (s:=s) q;obtain⟨op,d,i,f,p,j,a,c⟩:=x
 have q:op=14:=q;subst q;have HE:=Qa hE;obtain⟨f1,f2,f3,-⟩:=Q6 hf
 have E:=Qa (Xh f1 (Xh f2 f3));obtain⟨ra,V,C⟩:=F
 have HI:=Qa (Xh ra (Xh V C));have hL:=P.vals;have B:=Qa (QgD hA P h o n z #[Iv 14,Iv d,Iv i,Iv f,Iv p,Iv j,.slice rg a.length rc,.slice ag c.length ac]);clear h hA P o n hE hf f1 f2 f3 ra V C z;go_enter func212,ntmps212
 go_upto_region 1 with fail
 generalize w.alloc (.cells #[Iv 14,Iv d,Iv i,Iv f,Iv p,Iv j,.slice rg a.length rc,.slice ag c.length ac] 78)=w1 at B |-;generalize w.heap.size=X at B |-;obtain⟨U,H0,aa,H,HR,HG,HB,HA,HO,X1,R⟩:=B.out
 clear B;obtain⟨x0,x1,x2,x3,x4,-,x6,x7⟩:=QW X1.out
 have M:Hid (∀ e D,QO w b O A s (s.callS ⟨14,d,i,f,p,j,a,c⟩) (s.callC ⟨14,d,i,f,p,j,a,c⟩) e D->QO w b O A s (s.next ⟨14,d,i,f,p,j,a,c⟩) (s.goC ⟨14,d,i,f,p,j,a,c⟩) e D):=fun e D G=>(by
  have hk:=E.out.2.1 Z;obtain⟨k,u⟩:=Xc hk.1
  have u:p=(k:Int):=u;subst u;have K:k<s.m.length:=by have:=hk.2.1;omega
  have l:s.m[k]?=some s.m[k]:=Zg K;generalize s.m[k]=g at l;have S:g∈s.m:=Zm l;have J:=U.out.mod.2 g S;have e1:s.callC ⟨14,d,i,f,(k:Int),j,a,c⟩=Qv (Qb4 s.H a g.regs) (Qv (s.handC c (g.params.map (Qaj a))) (QZ s.L.length g.results.length)):=by unfold JSt.callC;simp only[Int.toNat_natCast,l]
  have T:s.makes ⟨14,d,i,f,(k:Int),j,a,c⟩=if (a.length:Int)=g.regs then (Qv (QL s.H [] a) (s.args c g.params a),g.results.map (Qaj a)) else (2,[]):=by rw[HE.out];simp only[Int.toNat_natCast,l]
  have N:s.goC ⟨14,d,i,f,(k:Int),j,a,c⟩=s.callC ⟨14,d,i,f,(k:Int),j,a,c⟩:=by
   rw[e1]
   unfold JSt.goC Qb4;rw[T]
   by_cases r:(a.length:Int)=g.regs
   ·rw[Xs r,Xs r]
    by_cases y:QL s.H [] a=0
    ·rw[QeY (fun t ht=>Qgn (s:=s) (ZF y) r (J.params.2 t ht)),Qx y,XN,Qx y]
    ·rw[Ql y,Ql y,Ql y]
   ·rw[Xr r,Xr r];rfl
  refine G.to N (fun I=>?_);rw[QT (by simp) (by simp),T]
  unfold JSt.callS;simp only[Int.toNat_natCast,l]
  rw[e1] at I
  unfold Qb4 at I;by_cases r:(a.length:Int)=g.regs
  ·rw[Xs r]
  ·rw[Xr r] at I;cases I)
 have CM:=Qa (Qjw (x:=⟨14,d,i,f,p,j,a,c⟩) HA.out U.out H.out HR.out HG.out R.out (E.out.2.1 Z).2.2.1 (E.out.2.1 Z).2.2.2 ⟨(E.out.2.1 Z).1,(E.out.2.1 Z).2.1⟩);have x5:=Qb X1.out 5 _ Z;go_wp2_with fail
 refine CM.out.mono ?_;rintro e' D G;have W:Hid (QO w b O A s (s.next ⟨14,d,i,f,p,j,a,c⟩) (s.goC ⟨14,d,i,f,p,j,a,c⟩) e' D):=M.out _ _ (G.after HB.out);rcases G with ⟨h1,rfl,h3⟩|⟨h1,rfl,h3⟩
 rotate_left
 ·exact⟨Z,W.out⟩
 clear h1 h3 CM;go_wp2
 exact Xz (v:=.tuple #[]) (by simp[results,results212,go_sem]) Z W.out
theorem QlL {A:Nat->Prop}{s:JSt}{x:Qt}(hA:∀ k,A k->k<w.heap.size) (hJ:JOk s) (h:SAt w b O A s) (i:intsL.In w Q x.regs [.slice rg x.regs.length rc]) (f:intsL.In w Q x.args [.slice ag x.args.length ac]) (M:x.regs.length<=rc) (S:ZB x) (hf:x.form s.m.length=0) (n:x.op=6) :
 Calls prog 212 #[Pv b 0,Qd6 x rg ag rc ac] w fun e w'=>QO w b O A s (s.next x) (s.goC x) e w':=by
 have hE:=Qc7 (s:=s) n;obtain⟨op,a,D,F,xk,o,y,z⟩:=x
 have n:op=6:=n;subst n;have HE:=Qa hE;obtain⟨f1,f2,f3,-⟩:=Q6 hf
 have HF:=Qa (Xh f1 (Xh f2 f3));obtain⟨ra,rb,N⟩:=S
 have HI:=Qa (Xh ra (Xh rb N));have hL:=hJ.vals;have B:=Qa (QgD hA hJ h i f M #[Iv 6,Iv a,Iv D,Iv F,Iv xk,Iv o,.slice rg y.length rc,.slice ag z.length ac]);clear h hA hJ i f hE hf f1 f2 f3 ra rb N M;go_enter func212,ntmps212
 go_upto_region 1 with fail
 generalize w.alloc (.cells #[Iv 6,Iv a,Iv D,Iv F,Iv xk,Iv o,.slice rg y.length rc,.slice ag z.length ac] 78)=w1 at B |-;generalize w.heap.size=X at B |-;obtain⟨HJ,H0,ak,H,HR,HG,HB,HA,HO,X1,ai⟩:=B.out
 clear B;obtain⟨x0,x1,x2,x3,x4,-,x6,x7⟩:=QW X1.out
 obtain⟨k,G⟩:=Xc (HF.out.1 (by simp)).1
 have G:xk=(k:Int):=G;subst G;have ah:k<=7:=by have:=(HF.out.1 (by simp)).2;simp only at this;omega
 have EG:Hid (s.goC ⟨6,a,D,F,(k:Int),o,y,z⟩=Qv (s.fieldC a k) (QZ s.L.length 1)):=by
  show _=_;unfold JSt.goC JSt.fieldC;rw[HE.out]
  simp only[Int.toNat_natCast]
  cases K:s.at a with
  | none=>unfold JSt.want;rw[K];rfl
  | some t =>
    simp only
    by_cases q:s.want a 3 true=0
    ·rw[Xs q,Qx q]
     by_cases j:k<t.2.2.length
     ·rw[Zg j,Xs j];rfl
     ·rw[Xk (by omega),Xr j];rfl
    ·rw[Xr q,Ql q];rw[Ql q,Ql q]
 have C1:=Qa (QdX a k (by omega) hL HO.out H.out);go_wp2_with fail
 refine(C1.out ).mono ?_
 rintro e' w2 ⟨hq,W⟩;have P:=Qa (HB.out.trans (W.mono HB.out.size));have H2:=Qa (H.out.below W);have T:=Qa (fun k j=>Zl (HA.out k j) W.size);have aj:=Qa (fun k j=>Zl (HO.out k j) W.size);rcases hq with ⟨I,y2,rfl,hy⟩|⟨I,rfl⟩
 rotate_left
 ·exact⟨Z,QO.bad ((fun I=>by rw[EG.out,Ql I]) I) I (Yh H0.out P.out)⟩
 have U:=Qa I;clear I W C1;obtain⟨t,u,p,c,K,hu,rfl,aa⟩:=hy
 have ae:=TT.height_lt u;have h5:u.height<=5:=by omega
 have V:t.check s.H.length=0:=HJ.out.types t (QdA K).1
 have E:u.ok:=by
  obtain⟨pm,cm,hh,a1,c1,a2,c2,a3,c3,aL,cL,RR⟩:=H0.out.read
  obtain⟨-,hn,-,af⟩:=QdA K
  obtain⟨g,a',c',e,-,-,-,-,ab⟩:=RR.row _ t af
  exact ab.2 u (Zm hu)
 have HS:Hid (s.next ⟨6,a,D,F,(k:Int),o,y,z⟩={ s with L:=s.L++[u.at 5] }):=by
  show _=_;rw[QT (by simp) (by simp),HE.out]
  have q:s.want a 3 true=0:=by
   have:=U.out
   unfold JSt.fieldC at this;exact(QD this).1
  simp only[Int.toNat_natCast,K,if_pos q,hu]
 have ad:Hid (∀ e R,QO w b O A s { s with L:=s.L++[u.at 5] } (QZ s.L.length 1) e R->QO w b O A s (s.next ⟨6,a,D,F,(k:Int),o,y,z⟩) (s.goC ⟨6,a,D,F,(k:Int),o,y,z⟩) e R):=fun e R J=>J.to (by rw[EG.out,Qx U.out]) (fun _=>HS.out)
 have CM:Hid (∀ d,Calls prog 244 #[Pv b 0,.slice (some ⟨w2.heap.size,0,none⟩) 1 d] (w2.alloc (.cells #[Iv u.kind,Iv u.r,.slice p u.len c] 105)) fun e w'=>QO w2 b O A s { s with L:=s.L++[u.at 5] } (QZ s.L.length 1) e w'):=fun d=>by
  have b1:=Zd w2 (.cells #[Iv u.kind,Iv u.r,.slice p u.len c] 105);have C:=Qeq (t:=u.at 5) (p:=p) (c:=c) (d:=d) T.out (TIn.at 5 h5 aa) (TT.at_ok 5 E);rw[TT.at_kind,TT.at_r,TT.at_len 5 _ h5] at C
  exact(Qat (l:=[u.at 5]) Z (by simp) C hL (fun k j=>Zl (T.out k j) b1.size) (H2.out.below b1)).mono (fun e w' J=>J.after b1)
 clear K hu aa ae h5 V E HS EG;simp only[Tv]
 go_wp2_with fail
 refine(CM.out _).mono ?_
 rintro e' R J;have FF:Hid (QO w b O A s (s.next ⟨6,a,D,F,(k:Int),o,y,z⟩) (s.goC ⟨6,a,D,F,(k:Int),o,y,z⟩) e' R):=ad.out _ _ (J.after P.out);rcases J with ⟨h1,rfl,h3⟩|⟨h1,rfl,h3⟩
 rotate_left
 ·exact⟨Z,FF.out⟩
 clear h1 h3 CM;go_wp2
 exact Xz (v:=.tuple #[]) (by simp[results,results212,go_sem]) Z FF.out
theorem Qlt {A:Nat->Prop}{s:JSt}{x:Qt}(hA:∀ k,A k->k<w.heap.size) (hJ:JOk s) (h:SAt w b O A s) (j:intsL.In w Q x.regs [.slice rg x.regs.length rc]) (i:intsL.In w Q x.args [.slice ag x.args.length ac]) (M:x.regs.length<=rc) (P:ZB x) (hf:x.form s.m.length=0) (n:x.op=7) :
 Calls prog 212 #[Pv b 0,Qd6 x rg ag rc ac] w fun e w'=>QO w b O A s (s.next x) (s.goC x) e w':=by
 have hE:=Qc5 (s:=s) n;obtain⟨op,a,f,I,W,o,y,z⟩:=x
 have n:op=7:=n;subst n;have HE:=Qa hE;obtain⟨f1,f2,f3,-⟩:=Q6 hf
 have HF:=Qa (Xh f1 (Xh f2 f3));obtain⟨ra,rb,N⟩:=P
 have HI:=Qa (Xh ra (Xh rb N));have hL:=hJ.vals;have B:=Qa (QgD hA hJ h j i M #[Iv 7,Iv a,Iv f,Iv I,Iv W,Iv o,.slice rg y.length rc,.slice ag z.length ac]);clear h hA hJ j i hE hf f1 f2 f3 ra rb N M;go_enter func212,ntmps212
 go_upto_region 1 with fail
 generalize w.alloc (.cells #[Iv 7,Iv a,Iv f,Iv I,Iv W,Iv o,.slice rg y.length rc,.slice ag z.length ac] 78)=K at B |-;generalize w.heap.size=X at B |-;obtain⟨HJ,H0,ai,H,HR,HG,HB,HA,HO,X1,af⟩:=B.out
 clear B;obtain⟨x0,x1,x2,x3,x4,-,x6,x7⟩:=QW X1.out
 obtain⟨k,D⟩:=Xc (HF.out.1 (by simp)).1
 have D:W=(k:Int):=D;subst D;have ae:k<=7:=by have:=(HF.out.1 (by simp)).2;simp only at this;omega
 have EG:Hid (s.fieldC a k≠0->s.goC ⟨7,a,f,I,(k:Int),o,y,z⟩=s.fieldC a k):=fun d=>by
  unfold JSt.goC;rw[HE.out]
  unfold JSt.fieldC at d |-;simp only[Int.toNat_natCast]
  cases F:s.at a with
  | none=>unfold JSt.want;rw[F];rfl
  | some t =>
    rw[F] at d
    simp only at d |-
    by_cases q:s.want a 3 true=0
    ·rw[Qx q] at d |-
     rw[Xs q]
     by_cases U:k<t.2.2.length
     ·rw[Xs U] at d;exact absurd Z d
     ·rw[Xk (by omega),Xr U];rfl
    ·rw[Xr q,Ql q,Ql q]
 have ab:Hid (∀ t u,s.fieldC a k=0->s.at a=some t->t.2.2[k]?=some u->s.goC ⟨7,a,f,I,(k:Int),o,y,z⟩=s.beC f (u.at 5)/\s.next ⟨7,a,f,I,(k:Int),o,y,z⟩=s):=fun t u h0 F J=>by
  have q:s.want a 3 true=0:=by
   unfold JSt.fieldC at h0;exact(QD h0).1
  rw[QT (by simp) (by simp)]
  unfold JSt.goC JSt.beC;rw[HE.out]
  simp only[Int.toNat_natCast,F,if_pos q,J]
  cases s.at f with
  | none=>exact⟨Z,by simp⟩
  | some v =>
    simp only
    have e:ZU (u.at 5=v)=ZU (v=u.at 5):=Qf2 (by rw[Qa6];exact⟨fun e=>e.symm,fun e=>e.symm⟩);rw[e]
    cases ZU (v=u.at 5) with
    | true=>exact⟨by show Qv 0 (QZ s.L.length 0)=_;rw[QbO hL];rfl,by simp⟩
    | false=>exact⟨Z,by simp⟩
 have ad:Hid (∀ t∈s.L,t.count<=100000):=fun t ht=>Zt (Z3 (HJ.out.types t ht)) (by omega);go_upto_region 17 with fail
 have BD:Hid (Below K.heap.size K K.drew):=Qb2 Zr;have C1:Hid (Calls prog 245 #[Pv b 0,Iv a,Iv k] K.drew fun e w'=>ZG (s.fieldC a k) (QnH w' A s a k) e/\Below K.drew.heap.size K.drew w'):=QdX a k (by omega) hL HO.out (H.out.below BD.out)
 have DM:Hid (∀ (u:TT 5) (p:Option Addr) (c:Nat) (G:World),TIn G (fun g=>¬ A g) u p->SAt G b O A s->(∀ k,O k->k<G.heap.size)->Calls prog 246 #[Pv b 0,Iv f,.agg #[Iv u.kind,Iv u.r,.slice p u.len c]] G fun e w'=>ZG (s.beC f (u.at 5)) VNone e/\Below G.heap.size G w'):=fun u p c G J hs ho=>by
  have h5:u.height<=5:=by have:=TT.height_lt u;omega
  have:=Qdi (s:=s) f (t:=u.at 5) (p:=p) (c:=c) (TIn.at 5 h5 J) hL ad.out ho hs
  rw[show Tv (u.at 5) p c=.agg #[Iv u.kind,Iv u.r,.slice p u.len c] by simp only[Tv,TT.at_kind,TT.at_r,TT.at_len 5 _ h5]] at this
  exact this
 go_region_with (first
  | (go_at_call 245;refine(C1.out).mono ?_;rintro e' w2 ⟨hq,R⟩;have C:=Qa (HB.out.trans ((Zx R).mono HB.out.size));rcases hq with ⟨l,y2,rfl,t,u,p,c,F,J,rfl,S⟩|⟨l,rfl⟩;rotate_left;exact⟨Z,QO.bad (EG.out l) l (Yh H0.out C.out)⟩;have ah:=Qk x2 (Zx R);have H2:=Qa (H.out.below (Zx R));have aa:=Qa (fun k U=>Zl (HO.out k U) (Zx R).size);have HU:=Qa S;have E:=Qa (ab.out t u l F J);clear S F J l R)
  | (go_at_call 246;refine(DM.out _ _ _ _ HU.out H2.out aa.out).mono ?_;rintro e' w3 ⟨hq,b3⟩;have T:=Qa (C.out.trans (b3.mono C.out.size));rcases hq with ⟨l,y3,rfl,hy⟩|⟨l,rfl⟩;rotate_left;exact⟨Z,QO.bad E.out.1 l (Yh H0.out T.out)⟩;subst hy;have V:=Qa l;clear l b3))
 all_goals
  have FF:Hid (QO w b O A s (s.next ⟨7,a,f,I,(k:Int),o,y,z⟩) (s.goC ⟨7,a,f,I,(k:Int),o,y,z⟩) (.returned (.tuple #[])) w3):=QO.none H0.out T.out (by rw[E.out.1,V.out]) E.out.2;go_wp2
  exact Xz (v:=.tuple #[]) (by simp[results,results212,go_sem]) Z FF.out
def QnD (w6:World) (b X mg mo nb cb k:Nat) (ds:List Value) (t:Tmp) (v:Value) (w:World):Prop :=
 match ([(4,fun v w=>∃ B,v=.pointer (some ⟨B,0,none⟩)/\w6.heap.size<=B/\∃ c,c.size=12/\Blk w B c 86)]:List (Tmp × (Value->World->Prop))).lookup t with
 | some p=>p v w
 | none=>v=(([(0,.pointer (some ⟨b,0,none⟩)),(3,.pointer (some ⟨X,0,none⟩)),(5,.pointer (some ⟨b,0,none⟩)),(6,.pointer (some ⟨b,0,none⟩)),(7,.pointer (some ⟨b,2,none⟩)),(8,.pointer (some ⟨b,5,none⟩)),(9,.slice (some ⟨mg,mo,none⟩) nb cb),(10,.pointer (some ⟨X,0,none⟩)),(11,.int .i64 (k:Int)),(12,.pointer (some ⟨mg,mo+k*12,none⟩)),(13,.agg ds.toArray)]:List (Tmp × Value)).lookup t).getD undef
theorem jt1 {j i u z:Nat}(J:w6.cell? ⟨b,5,none⟩=some (.slice (some ⟨j,i,none⟩) u z)) (A:w6.cell? ⟨X,0,none⟩=some (Iv (k:Int))) (D:Hid (w6.rangeAt j (i+k*12) ds)) (x:ds.length=12) (C:(k:Int)<u){Q:Exit->Act->World->Prop}
 (a:Act) (m:Nat) (G:a.tmps.size=m) (r:29<=m) (I:a.tmps.getD 0 undef=Pv b 0) (s:a.tmps.getD 3 undef=Pv X 0)
 (hend:∀ ops vs w',vs 13=.agg ds.toArray->(fun v w=>∃ B,v=Pv B 0/\w6.heap.size<=B/\∃ c,c.size=12/\Blk w B c 86) (vs 4) w'->Below w6.heap.size w6 w'->wpList prog ops Q (Qam 10 ((Tryz.f250.body.bind (Qi 1)).getD .skip)) (QM a vs [5,6,7,8,9,10,11,12,13,4]) w') :
 Code.wp prog ((Tryz.f250.body.bind (Qi 1)).getD .skip) Q a w6:=by
 conv=>arg 2;whnf
 refine Qg 10 (QnD w6 b X j i u z k ds) (fun w=>Below w6.heap.size w6 w) (fun w w'=>Below w.heap.size w w') (outs:=[0,3]) (gs:=[]) (bs:=[true,true,true,true,true,true,true,true,true,true]) (by kernel_rfl) (n:=29) G r (by kernel_rfl) (by kernel_rfl) ?hR ?hG (QI Zr 1) ⟨I,s,Y⟩ ?hA ?hend
 case hR =>
  intro t v w w' E h;unfold QnD at h |-;split at h
  ·rename_i p l
   simp only[List.lookup_cons,List.lookup_nil] at l
   split at l
   ·cases l;exact(by obtain⟨B,e,H,c,s,y⟩:=h;exact⟨B,e,H,c,s,(E.block B (XC y)).trans y⟩)
   ·cases l
  ·exact h
 case hG=>exact Y
 case hend=>exact fun ops vs w' d f=>hend ops vs w' (f 13 (by kernel_rfl)) (f 4 (by kernel_rfl)) d
 case hA =>
  repeat
   refine⟨fun a w d f K o=>?_,?_⟩
   focus first
    | obtain⟨g,-⟩:=f
      conv at g=>whnf;rhs;whnf
      have L:=Qk J d;have M:=Qk A d;go_simp;exact o _ _ Zr d Z
    | clear f
      go_simp;exact o _ _ (Zd _ _) (d.alloc d.size _) ⟨_,Z,d.size,_,Z,Qe _ _ _⟩
    | obtain⟨g,F,-⟩:=f
      conv at g=>whnf;rhs;whnf
      conv at F=>whnf;rhs;whnf
      go_simp;exact o _ _ Zr d Z
    | obtain⟨g,-⟩:=f
      conv at g=>whnf;rhs;whnf
      obtain⟨N,q⟩:=underBk
      refine wp_load_mid 86 (.tmp 12) Z j (i+k*12) g ds _ (Qae D.out d) q Z (by rw[x];exact sizeBk) ?_;exact o _ _ Zr d Z
  trivial
def QnK (w2:World) (b X C N ac n1 d1 Kn rc:Nat) (ag rg p1:Option Addr) (ps:List (TT 6)) (regs:List Int) (t:Tmp) (v:Value) (w:World):Prop :=
 match ([(27,fun v w=>∃ g,v=.slice (some ⟨g,0,none⟩) n1 n1/\w2.heap.size<=g/\Qcy w g n1 (ps.map (Qaj regs)))]:List (Tmp × (Value->World->Prop))).lookup t with
 | some p=>p v w
 | none=>v=(([(0,.pointer (some ⟨b,0,none⟩)),(3,.pointer (some ⟨X,0,none⟩)),(4,.pointer (some ⟨C,0,none⟩)),(20,.pointer (some ⟨b,0,none⟩)),(21,.pointer (some ⟨X,2,none⟩)),(22,.slice ag N ac),(23,.pointer (some ⟨C,1,none⟩)),(24,.slice p1 n1 d1),(25,.pointer (some ⟨X,1,none⟩)),(26,.slice rg Kn rc)]:List (Tmp × Value)).lookup t).getD undef
theorem jt3 {C d d1 j:Nat}{p1:Option Addr}{i:List (TT 6)}{R:Nat->Prop}(F:w2.cell? ⟨X,1,none⟩=some (.slice rg j rc)) (P:w2.cell? ⟨X,2,none⟩=some (.slice ag N ac)) (G:w2.cell? ⟨C,1,none⟩=some (.slice p1 d d1)) (M:Hid (regs.length=j)) (o:Hid (i.length=d)) (r:d<=1000) (O:Hid (intsL.In w2 Q regs [.slice rg j rc])) (I:Hid (LIn w2 R i p1)) (B:Hid (∀ x∈i,x.count<=2000)){Q:Exit->Act->World->Prop}
 (a:Act) (m:Nat) (S:a.tmps.size=m) (l:29<=m) (U:a.tmps.getD 0 undef=Pv b 0) (D:a.tmps.getD 3 undef=Pv X 0) (A:a.tmps.getD 4 undef=Pv C 0)
 (hend:∀ ops vs w',vs 22=.slice ag N ac->vs 20=Pv b 0->(fun v w=>∃ g,v=.slice (some ⟨g,0,none⟩) d d/\w2.heap.size<=g/\Qcy w g d (i.map (Qaj regs))) (vs 27) w'->Below w2.heap.size w2 w'->wpList prog ops Q (Qam 8 ((Tryz.f250.body.bind (Qi 3)).getD .skip)) (QM a vs [20,21,22,23,24,25,26,27]) w') :
 Code.wp prog ((Tryz.f250.body.bind (Qi 3)).getD .skip) Q a w2:=by
 conv=>arg 2;whnf
 refine Qg 8 (QnK w2 b X C N ac d d1 j rc ag rg p1 i regs) (fun w=>Below w2.heap.size w2 w) (fun w w'=>Below w.heap.size w w') (outs:=[0,3,4]) (gs:=[]) (bs:=[true,true,true,true,true,true,true,true]) (by kernel_rfl) (n:=29) S l (by kernel_rfl) (by kernel_rfl) ?hR ?hG (QI Zr 1) ⟨U,D,A,Y⟩ ?hA ?hend
 case hR =>
  intro t v w w' J h;unfold QnK at h |-;split at h
  ·rename_i p k
   simp only[List.lookup_cons,List.lookup_nil] at k
   split at k
   ·cases k;exact(by obtain⟨g,e,T,H⟩:=h;exact⟨g,e,T,H.below J⟩)
   ·cases k
  ·exact h
 case hG=>exact Y
 case hend=>exact fun ops vs w' c f=>hend ops vs w' (f 22 (by kernel_rfl)) (f 20 (by kernel_rfl)) (f 27 (by kernel_rfl)) c
 case hA =>
  iterate 7
   refine⟨fun a w c f K u=>?_,?_⟩
   ·obtain⟨y,-⟩:=f
    conv at y=>whnf;rhs;whnf
    have W:=Qk P c;have u1:=Qk G c;have V:=Qk F c;go_simp;exact u _ _ Zr c Z
  refine⟨fun a w c f K u=>?_,?_⟩
  ·obtain⟨y,L,-⟩:=f
   conv at y=>whnf;rhs;whnf
   conv at L=>whnf;rhs;whnf
   go_simp;refine Xm (QaP M.out o.out r (Ya O.out c) (I.out.below c) B.out) ?_;rintro r7 w7 ⟨E,rfl,q,s,z⟩;go_simp;exact u _ _ z (c.trans (z.mono c.size)) ⟨E,Z,Zt c.size q,s⟩
  trivial
theorem Qb5 {A:Nat->Prop}{s:JSt}{x:MTo}(hJ:JOk s) (hO:∀ k,O k->k<w.heap.size) (h:SAt w b O A s) (n:intsL.In w Q x.regs [.slice rg x.regs.length rc]) (i:intsL.In w Q x.args [.slice ag x.args.length ac]) (ai:x.regs.length<=16) (bg:x.args.length<=8) (aj:0<=x.block/\x.block<s.f.blocks.length) :
 Calls prog 250 #[Pv b 0,toV x rg ag rc ac] w fun e w'=>ZG (s.to x) VNone e/\Below w.heap.size w w':=by
 have HJ:=Qa hJ;have HO:=Qa hO;have hL:=hJ.vals;obtain⟨xb,c,d⟩:=x
 simp only at n i ai bg aj
 obtain⟨k,rfl⟩:=Xc aj.1
 have bh:k<s.f.blocks.length:=by omega
 have D:s.f.blocks[k]?=some s.f.blocks[k]:=Zg bh;generalize s.f.blocks[k]=g at D;have b1:=Zd w (.cells #[Iv (k:Int),.slice rg c.length rc,.slice ag d.length ac] 82);have ad:=Qe w #[Iv (k:Int),.slice rg c.length rc,.slice ag d.length ac] 82;have K1:=Qa (h.below b1);have an:Hid (intsL.In (w.alloc (.cells #[Iv (k:Int),.slice rg c.length rc,.slice ag d.length ac] 82)) Q c [.slice rg c.length rc]):=Ya n b1;have ar:Hid (intsL.In (w.alloc (.cells #[Iv (k:Int),.slice rg c.length rc,.slice ag d.length ac] 82)) Q d [.slice ag d.length ac]):=Ya i b1;have U:=Qa b1;have q:=Qa ad;clear h n i b1 ad hJ hO;go_enter func250,ntmps250
 go_upto_region 1 with fail
 obtain⟨X,hX⟩:∃ X,w.heap.size=X:=⟨_,Z⟩
 generalize bt:w.alloc (.cells #[Iv (k:Int),.slice rg c.length rc,.slice ag d.length ac] 82)=w1 at K1 an ar U q |-;rw[hX] at q
 rw[hX]
 clear bt hX;have x0:=Qb q.out 0 _ Z;have x1:=Qb q.out 1 _ Z;have x2:=Qb q.out 2 _ Z;obtain⟨pm,cm,hh,a1,c1,a2,c2,a3,c3,aL,cL,R⟩:=K1.out.read
 obtain⟨-,-,-,-,-,q5,-⟩:=R.cells
 obtain⟨fa,fc,fb,fd,fe,ff,a6,-,-,av,-⟩:=Qas R.fn
 simp only[List.cons.injEq,Value.slice.injEq,and_true,true_and] at a6
 obtain⟨-,-,rfl,rfl⟩:=a6
 obtain⟨mg,mo,l,m,u,rfl,p,bf,af,V⟩:=Qbo av D
 have a4:=Qa p;have ap:Hid ((Qp 6).In w1 (fun g=>¬ A g) g.params [.slice l g.params.length m]):=af;have ao:Hid (u.length=10):=bf;have ab:=Qa V;have a7:(k:Int)<s.f.blocks.length:=by omega
 have bd:=Qa (HJ.out.mod.2 s.f HJ.out.fn);have be:Hid (g∈s.f.blocks):=Zm D;have G:=Qa (bd.out.blocks g be.out);have bc:Hid (¬ MBlock.great g):=fun hg=>HJ.out.tiny (.inr ⟨s.f,HJ.out.fn,.inr (.inr (.inr ⟨g,be.out,hg⟩))⟩);have bn:Hid (∀ t∈g.params,t.count<=2000):=fun t ht=>Xo fun bk=>bc.out (.inr (.inl (.inr ⟨t,ht,bk⟩)));have bo:Hid (∀ t∈s.L,t.count<=100000):=fun t ht=>Zt (Z3 (HJ.out.types t ht)) (by omega);have E:Hid (s.to ⟨(k:Int),c,d⟩=Qv (passC s.H s.f.regs c g.regs) (s.handC d (g.params.map (Qaj c)))):=Qnj D G.out.params.2;clear R av p af V bf D aj;generalize bv:s.f.blocks.length=nb at q5 bh a7;refine jt1 q5 x0 a4 (by simp[ao.out]) a7 _ _ Z (Xg (by kernel_rfl)) Z Z ?_;rintro bq vs o ae ⟨B,az,hB,cB,au,K⟩ b5;show wpList _ bq _ [_] (QM _ vs [5,6,7,8,9,10,11,12,13,4]) o;simp only[QM,Act.put,List.setIfInBounds_toArray,List.set_cons_zero,List.set_cons_succ,ae,az]
 have a:(Value.int .i64 g.regs::Value.slice l g.params.length m::u).length=12:=by simp[ao.out]
 have TH:Hid (o.there B 0 (Value.int .i64 g.regs::Value.slice l g.params.length m::u).toArray.size):=by
  intro j hj;rw[List.size_toArray,a] at hj
  rw[XK]
  refine⟨?_,Qj K j⟩
  rw[Qb K j cB[j] (by simp)];rfl
 have TS:Hid ((prog.info? 86).map (·.size)=some (Value.int .i64 g.regs::Value.slice l g.params.length m::u).toArray.size):=by show _=_;rw[List.size_toArray,a];exact sizeBk
 have TO:Hid ((Value.int .i64 g.regs::Value.slice l g.params.length m::u).toArray.all (·.oneCell')=true):=by
  refine all_oneCell_toArray fun v hv=>?_;simp only[List.mem_cons] at hv
  rcases hv with rfl | rfl | hv
  ·rfl
  ·rfl
  ·exact ab.out v hv
 have B6:Hid (Blk (o.setCells B 0 (Value.int .i64 g.regs::Value.slice l g.params.length m::u).toArray.toList) B (Value.int .i64 g.regs::Value.slice l g.params.length m::u).toArray 86):=by
  have h0:Blk o B ([]++cB.toList).toArray 86:=by rw[List.nil_append,Array.toArray_toList];exact K
  have:=Blk.sets (Value.int .i64 g.regs::Value.slice l g.params.length m::u) [] cB.toList o (by rw[a];simp[au]) h0
  exact this
 have C:Hid (Below w1.heap.size w1 (o.setCells B 0 (Value.int .i64 g.regs::Value.slice l g.params.length m::u).toArray.toList)):=by
  have:=Qz.setCells (O:=fun k=>k=B) (O':=fun k=>k=B) (b:=B) Z (Value.int .i64 g.regs::Value.slice l g.params.length m::u).toArray.toList 0 _ (Qz.refl _ o)
  exact b5.trans (this.below b5.size (fun k hk=>by omega))
 clear K hB au b5 ae az a;generalize a5:g.regs=gr at E G B6 C TH TS TO |-;have bm:Hid (g.regs=gr):=a5;generalize ak:g.params.length=M at ap B6 C TH TS TO |-;have aw:Hid (g.params.length=M):=ak;have bu:M<=8:=by rw[<-ak];exact G.out.params.1
 have y0:(o.setCells B 0 (Value.int .i64 gr::Value.slice l M m::u).toArray.toList).cell? ⟨B,0,none⟩=some (Iv gr):=Qb B6.out 0 _ Z;have y1:(o.setCells B 0 (Value.int .i64 gr::Value.slice l M m::u).toArray.toList).cell? ⟨B,1,none⟩=some (.slice l M m):=Qb B6.out 1 _ Z;generalize br:(Value.int .i64 gr::Value.slice l M m::u).toArray=r at B6 C TH TS TO y0 y1 |-;have K6:=Qa (K1.out.below C.out);have z:Hid (intsL.In (o.setCells B 0 r.toList) Q c [.slice rg c.length rc]):=Ya an.out C.out;have F:Hid (intsL.In (o.setCells B 0 r.toList) Q d [.slice ag d.length ac]):=Ya ar.out C.out;have aq:Hid ((Qp 6).In (o.setCells B 0 r.toList) (fun g=>¬ A g) g.params [.slice l M m]):=Ya ap.out C.out;have BW:Hid (Below w.heap.size w (o.setCells B 0 r.toList)):=U.out.trans (C.out.mono U.out.size);have bl:Hid (s.f.regs<=gr):=by have:=G.out.regs.1;rw[bm.out] at this;exact this
 have P:=Qk x1 C.out;have I:=Qk x2 C.out;clear a5 ak br K1 an ar ap U C B6 q5 x0 x1 x2 ao ab bc q a4;go_upto_region 2 with (refine wpList_store_mid Z 86 (.tmp 4) (.tmp 13) Z B 0 r Z Z TH.out TS.out TO.out ?_)
 clear TH TS TO;generalize o.setCells B 0 r.toList=w6 at K6 z F aq BW P I y0 y1 |-;obtain⟨Kn,am⟩:∃ Kn,c.length=Kn:=⟨_,Z⟩
 have HK:=Qa am;rw[am] at P z ai
 clear am;obtain⟨N,hN⟩:∃ N,d.length=N:=⟨_,Z⟩
 have HN:=Qa hN;rw[hN] at I F bg
 clear hN;have CP:=Qa (Qev gr HK.out (by omega) z.out bd.out.regs.1 bl.out K6.out);go_wp2_with fail
 refine CP.out.mono ?_;rintro e' w7 ⟨hO,T⟩;have J:=Qa (BW.out.trans (T.mono BW.out.size));rcases hO with ⟨S,y,rfl,hy⟩|⟨S,rfl⟩
 rotate_left
 ·exact⟨Z,.inr ⟨by rw[E.out,Ql S];exact S,by rw[E.out,Ql S]⟩,J.out⟩
 subst hy;have E2:Hid (s.to ⟨(k:Int),c,d⟩=s.handC d (g.params.map (Qaj c))):=by show _=_;rw[E.out,Qx S]
 have K7:=Qa (K6.out.below T);have a8:Hid (intsL.In w7 Q c [.slice rg Kn rc]):=Ya z.out T;have ax:Hid (intsL.In w7 Q d [.slice ag N ac]):=Ya F.out T;have bi:=Qa (QX (Ya aq.out T)).1;have ba:=Qk P T;have bj:=Qk I T;have a9:=Qk y1 T;clear S CP E T K6 z F aq P I y0 y1 BW;go_upto_region 3 with fail
 refine jt3 ba bj a9 HK aw (by omega) a8 bi bn _ _ Z (Xg (by kernel_rfl)) Z Z Z ?_;rintro bb bp w8 W aa ⟨gP,ah,bs,ay⟩ b8;show wpList _ bb _ [_] (QM _ bp [20,21,22,23,24,25,26,27]) w8;simp only[QM,Act.put,List.setIfInBounds_toArray,List.set_cons_zero,List.set_cons_succ,W,aa,ah]
 have al:=Qa (J.out.trans (b8.mono J.out.size))
 have CH:Hid (Calls prog 251 #[Pv b 0,.slice ag N ac,.slice (some ⟨gP,0,none⟩) M M] w8 fun e w'=>ZG (s.handC d (g.params.map (Qaj c))) VNone e/\Below w8.heap.size w8 w') :=
  QaH HN.out (by omega) (by rw[XN,aw.out]) (by omega) (Ya ax.out b8) ay.lin hL bo.out (fun k hk=>Zl (HO.out k hk) al.out.size) (K7.out.below b8)
 clear ay bs b8 W aa ah K7 a8 ax bi ba bj a9 J;go_wp2_with fail
 refine CH.out.mono ?_;rintro e' w9 ⟨hO,b9⟩;have a0:=Qa (al.out.trans (b9.mono al.out.size));have FF:Hid (ZG (s.to ⟨(k:Int),c,d⟩) VNone e'):=by show ZG _ _ _;rw[E2.out];exact hO
 rcases hO with ⟨S,y,rfl,hy⟩|⟨S,rfl⟩
 rotate_left
 ·exact⟨Z,FF.out,a0.out⟩
 subst hy;clear S CH E2 b9;go_wp2
 exact Xz (v:=.tuple #[]) (by simp[results,results250,go_sem]) Z ⟨FF.out,a0.out⟩
theorem Xv:type_of% @of_decide_eq_true:=@of_decide_eq_true
def Qjp (H:List Bool) (regs:Int):Int:=if (Qal H).all (fun r=>decide (r<regs)) then 0 else 12
theorem Qg7 {A:Nat->Prop}{s:JSt}(r:Int) (n:w.cell? ⟨B,0,none⟩=some (Pv b 0)) (h:SAt w b O A s) :
 Calls prog 276 #[Iv r,Pv B 0] w fun e w'=>e=.returned (.bool (decide (r>=s.f.regs)))/\w'=w:=by
 obtain⟨i,l,p,o,t,d,q,g,k,j,c,R⟩:=h.read
 obtain⟨-,-,a,-⟩:=R.cells
 clear R h;generalize s.f.regs=m at a |-;go_enter func276,ntmps276
 go_wp2
 go_ret;exact⟨Z,Z⟩
theorem enters_left1:Qah 276:=fun _ _=>by kernel_rfl
theorem QfV {A:Nat->Prop}{s:JSt}(K:l.length=N) (S:N<=100000) (F:intsL.In w Q l [.slice p N c]) (L:w.cell? ⟨B,0,none⟩=some (Pv b 0)) (h:SAt w b O A s) :
 Calls prog 287 #[.slice p N c,.func (.func 276) #[] #[Pv B 0]] w fun e w'=>(∃ i:Int,e=.returned (Iv i)/\(0<=i↔∃ x∈l,s.f.regs<=x))/\w'=w:=by
 have T:=Qa F;have J:=Qa K;have C:=Qa (fun r=>Qg7 r L h);have U:=enters_left1;unfold Qah at U;clear F K h L;generalize s.f.regs=t at C |-;go_enter func287,ntmps287
 go_wp2
 go_loop [8] (fun i=>∃ k:Nat,k<=N/\i=Iv k/\∀ (j:Nat) (y:Int),j<k->l[j]?=some y->y<t) (fun i=>N - (intOf i).toNat)
 case atStart=>exact⟨0,Xb _,Z,fun j y D=>by omega⟩
 case round =>
  obtain⟨k,X,rfl,H⟩:=hrel
  have I:=Qa H;clear H;by_cases q:k<N
  ·have u:(k:Int)<N:=by omega
   have m:k<l.length:=by rw[J.out];exact q
   obtain⟨g,o,rfl,-,V,E⟩:=ZI T.out m
   obtain⟨y,n⟩:∃ y,l[k]?=some y:=⟨_,Zg m⟩
   rw[show l.getD k 0=y by rw[List.getD_eq_getElem?_getD,n];rfl] at E
   have G:=Qa n;have v:=Qa (C.out y);clear n m;by_cases a:t<=y
   ·rw[show decide (y>=t)=true from Xt a] at v
    have M:Hid (∃ x∈l,t<=x):=⟨y,Zm G.out,a⟩;clear a;go_wp2_with (go_at_call 276;refine(v.out).mono ?_;rintro e w' ⟨rfl,d⟩;have d:=d.symm;subst d)
    go_ret;exact⟨⟨k,Z,by simp only[M.out,iff_true];omega⟩,Z⟩
   ·rw[show decide (y>=t)=false from Xu a] at v
    have z:=Qa (Int.not_le.1 a);clear a;go_wp2_with (go_at_call 276;refine(v.out).mono ?_;rintro e w' ⟨rfl,d⟩;have d:=d.symm;subst d)
    go_round
    case rel =>
     refine⟨k+1,q,by go_num,fun j P D n=>?_⟩
     rcases Nat.lt_or_ge j k with h | h
     ·exact I.out j P h n
     ·have:j=k:=by omega
      subst this;have e:=G.out.symm.trans n;injection e with e
      subst e;exact z.out
    case measure=>simp[intOf];omega
  ·have u:¬ (k:Int)<N:=by omega
   go_wp2
   go_ret;refine⟨⟨-1,Z,by omega,fun hm=>?_⟩,Z⟩
   obtain⟨x,R,W⟩:=hm
   obtain⟨j,D,e⟩:=List.mem_iff_getElem.1 R
   have:=I.out j x (by have:=J.out;omega) (by rw[Zg D,e])
   omega
theorem Qdo {A:Nat->Prop}{s:JSt}(k:l.length=N) (d:N<=100000) (n:intsL.In w Q l [.slice p N c]) (m:w.cell? ⟨B,0,none⟩=some (Pv b 0)) (h:SAt w b O A s) :
 Calls prog 277 #[.slice p N c,.func (.func 276) #[] #[Pv B 0]] w fun e w'=>e=.returned (.bool (!(l.all (fun r=>decide (r<s.f.regs)))))/\w'=w:=by
 have C:=Qa (QfV k d n m h);clear n k h m;go_enter func277,ntmps277
 go_wp2_with fail
 refine C.out.mono ?_;rintro e w' ⟨⟨i,rfl,j⟩,g⟩;have g:=g.symm;subst g
 have E:Hid ((!(l.all (fun r=>decide (r<s.f.regs))))=decide (i>=0)):=by
  show _=_;rw[Bool.eq_iff_iff]
  simp only[Bool.not_eq_true',decide_eq_true_eq,ge_iff_le,j]
  rw[<-Bool.not_eq_true,Xe]
  constructor
  ·intro h;exact Classical.byContradiction fun o=>h (fun x a=>Xt (Int.not_le.1 (fun q=>o ⟨x,a,q⟩)))
  ·rintro ⟨x,a,t⟩ h
   have:=Xv (h x a)
   omega
 clear C j;go_wp2
 go_ret;exact⟨by rw[E.out];rfl,Z⟩
theorem QgQ {A:Nat->Prop}{s:JSt}(L:s.H.length<=16) (h:SAt w b O A s) :
 Calls prog 252 #[Pv b 0] w fun e w'=>ZG (Qjp s.H s.f.regs) VNone e/\Below w.heap.size w w':=by
 have D:∀ (fn:Fn) (first cap:Array Value) (w:World),(Instr.makeFunc fn first cap).run prog w=.ok (.func fn first cap) w:=fun _ _ _ _=>rfl;have u:=Zd w (.cells #[Pv b 0] 234);have H:=Qa (h.below u);have o:=Qa u;have j:=Qe w #[Pv b 0] 234;have k:=Qb j 0 _ Z;obtain⟨G,K,S,M,U,F,T,W,Q,P,V,R⟩:=H.out.read
 obtain⟨-,y,-⟩:=R.cells
 have x:=Qa (Qic R.held);clear R h u j;go_enter func252,ntmps252
 go_upto_region 1 with fail
 generalize w.alloc (.cells #[Pv b 0] 234)=I at H o k y x |-;obtain⟨X,j⟩:∃ X,w.heap.size=X:=⟨_,Z⟩
 rw[j] at k |-
 rw[<-j]
 have p:=Qa j;go_wp2_with fail
 refine x.out.mono ?_;rintro C N ⟨a,c,rfl,g,l⟩;have B:=Qa (H.out.below l);have m:=Qa (o.out.trans (l.mono o.out.size));have t:=Qa (Qdo Z (by have:=Qjv s.H;omega) g (Qk k l) B.out);have y0:=Qk k l;clear g l x k y;generalize (Qal s.H).length=J at t |-;have E:Hid (Qjp s.H s.f.regs=if (Qal s.H).all (fun r=>decide (r<s.f.regs)) then 0 else 12):=rfl;generalize (Qal s.H).all (fun r=>decide (r<s.f.regs))=q at t E;rw[p.out]
 go_wp2_with (go_at_call 277;refine(t.out).mono ?_;rintro e w' ⟨rfl,i⟩;have i:=i.symm;subst i)
 refine(QbC _ _ _).mono ?_
 rintro C w' ⟨i,⟨n,rfl⟩|⟨n,rfl⟩⟩
 rotate_left
 ·exact⟨Z,ZG.bad (d:=12) (by rw[E.out,show q=false by simpa using n];rfl) (by decide),by rw[i];exact m.out⟩
 have i:=i.symm;subst i;have z:Hid (Qjp s.H s.f.regs=0):=by show _=_;rw[E.out,show q=true by simpa using n];rfl
 clear n;go_wp2
 exact Xz (v:=.tuple #[]) (by simp[results,results252,go_sem]) Z ⟨ZG.good z.out Z,m.out⟩
structure EnT (w wc:World) (b X:Nat) (O A Q:Nat->Prop) (s:JSt) (x:ZA) (e:EP):Prop where
 st:SAt wc b O A s
 box:Blk wc X (QbV x e) 84
 lists:Qdl wc Q x e
 bel:Below w.heap.size w wc
theorem EnT.below {wc:World}{A:Nat->Prop}{s:JSt}{x:ZA}{e:EP}(h:EnT w wc b X O A Q s x e) (k:Below wc.heap.size wc w'):EnT w w' b X O A Q s x e :=
 ⟨h.st.below k,(k.block X (XC h.box)).trans h.box,h.lists.below k,h.bel.trans (k.mono h.bel.size)⟩
theorem EnT.cells {wc:World}{A:Nat->Prop}{s:JSt}{x:ZA}{e:EP}(h:EnT w wc b X O A Q s x e):wc.cell? ⟨X,0,none⟩=some (Iv x.op)/\wc.cell? ⟨X,1,none⟩=some (Iv x.a)/\wc.cell? ⟨X,2,none⟩=some (Iv x.yes.block)/\wc.cell? ⟨X,3,none⟩=some (.slice e.pYR x.yes.regs.length e.cYR)/\wc.cell? ⟨X,4,none⟩=some (.slice e.pYA x.yes.args.length e.cYA)/\wc.cell? ⟨X,5,none⟩=some (Iv x.no.block)/\wc.cell? ⟨X,6,none⟩=some (.slice e.pNR x.no.regs.length e.cNR)/\wc.cell? ⟨X,7,none⟩=some (.slice e.pNA x.no.args.length e.cNA)/\wc.cell? ⟨X,8,none⟩=some (.slice e.pA x.args.length e.cA) :=
 ⟨Qb h.box 0 _ Z,Qb h.box 1 _ Z,Qb h.box 2 _ Z,Qb h.box 3 _ Z,Qb h.box 4 _ Z,Qb h.box 5 _ Z,Qb h.box 6 _ Z,Qb h.box 7 _ Z,Qb h.box 8 _ Z⟩
theorem Qky {A:Nat->Prop}{s:JSt}{x:ZA}{e:EP}(hJ:JOk s) (hO:∀ k,O k->k<w.heap.size) (h:SAt w b O A s) (hx:Qdl w Q x e) (T:-9223372036854775808<=x.a/\x.a<=9223372036854775807) (hf:x.form s.f.blocks.length=0) :
 Calls prog 214 #[Pv b 0,.agg (QbV x e)] w fun r w'=>ZG (s.fin x) VNone r/\Below w.heap.size w w':=by
 have C:=Qa hJ;have M:=Qa hO;have hL:=hJ.vals;have b1:=Zd w (.cells (QbV x e) 84);have S0:Hid (EnT w (w.alloc (.cells (QbV x e) 84)) b w.heap.size O A Q s x e):=⟨h.below b1,Qe w _ _,hx.below b1,b1⟩;have u:=Qa (C.out.mod.2 s.f C.out.fn);have P:=Qa (QjY u.out.many.2 hf);have ab:=Qa T;have ac:Hid (∀ t∈s.L,t.count<=100000):=fun t ht=>Zt (Z3 (C.out.types t ht)) (by omega);have E1:s.fin x=if x.op=1 then s.to x.yes else if x.op=2 then Qv (s.want x.a 1 false) (Qv (s.to x.yes) (s.to x.no)) else Qv (s.args x.args s.f.results (QhC s.f.regs.toNat)) (if (Qal s.H).all (fun r=>decide (r<s.f.regs)) then 0 else 12):=by rw[JSt.fin,Xr (by rw[hf];simp)]
 have i:=Qa E1;clear h hx b1 hJ hO T hf E1;go_enter func214,ntmps214
 go_upto_region 1 with fail
 obtain⟨X,hX⟩:∃ X,w.heap.size=X:=⟨_,Z⟩
 unfold QbV at S0;generalize ad:w.alloc (.cells #[Iv x.op,Iv x.a,Iv x.yes.block,.slice e.pYR x.yes.regs.length e.cYR,.slice e.pYA x.yes.args.length e.cYA,Iv x.no.block,.slice e.pNR x.no.regs.length e.cNR,.slice e.pNA x.no.args.length e.cNA,.slice e.pA x.args.length e.cA] 84)=w1 at S0 |-;have S:Hid (EnT w w1 b X O A Q s x e):=by rw[<-hX];exact S0.out
 rw[hX]
 clear ad hX S0;obtain⟨D,V,x2,x3,x4,x5,W,x7,G⟩:=S.out.cells
 rcases P.out.1 with g | g | g
 ·have l:Hid (s.fin x=s.to x.yes):=by show _=_;rw[i.out,Xs g]
  have F:Hid (x.yes.form s.f.blocks.length true=0):=by have:=P.out.2.2.2.2.1;rw[g] at this;exact this
  rw[g] at D
  clear i;go_wp2_with fail
  refine(Qb5 (x:=x.yes) C.out (fun k q=>Zl (M.out k q) S.out.bel.size) S.out.st S.out.lists.yr S.out.lists.ya (QaB F.out).2.1 (QaB F.out).2.2 (QaB F.out).1).mono ?_
  rintro e9 w9 ⟨p,o⟩;have j:=Qa (S.out.below o);rcases p with ⟨c,y,rfl,m⟩|⟨c,rfl⟩
  rotate_left
  ·exact⟨Z,.inr ⟨by rw[l.out];exact c,by rw[l.out]⟩,j.out.bel⟩
  subst m;have N:Hid (s.fin x=0):=by show _=_;rw[l.out];exact c
  clear c o;go_wp2
  exact Xz (v:=.tuple #[]) (by simp[results,results214,go_sem]) Z ⟨ZG.good N.out Z,j.out.bel⟩
 ·have l:Hid (s.fin x=Qv (s.want x.a 1 false) (Qv (s.to x.yes) (s.to x.no))):=by show _=_;rw[i.out,Xr (by omega),Xs g]
  have F:Hid (x.yes.form s.f.blocks.length true=0):=by have:=P.out.2.2.2.2.1;rw[g] at this;exact this
  have h2:Hid (x.no.form s.f.blocks.length true=0):=by have:=P.out.2.2.2.2.2;rw[g] at this;exact this
  rw[g] at D
  have CI:=Qa (fun d=>Qbx x.a ab.out d hL (fun k q=>Zl (M.out k q) S.out.bel.size) S.out.st);clear i;go_wp2_with fail
  refine(CI.out _).mono ?_
  rintro e8 w8 ⟨p,I⟩;have E:=Qa (S.out.below I);rcases p with ⟨c,y,rfl,m⟩|⟨c,rfl⟩
  rotate_left
  ·exact⟨Z,.inr ⟨by rw[l.out,Ql c];exact c,by rw[l.out,Ql c]⟩,E.out.bel⟩
  subst m;have B:Hid (s.fin x=Qv (s.to x.yes) (s.to x.no)):=by show _=_;rw[l.out,Qx c]
  clear c I l S CI;have S:=E;clear E D V x2 x3 x4 x5 W x7 G;obtain⟨D,V,x2,x3,x4,x5,W,x7,G⟩:=S.out.cells
  go_wp2_with fail
  refine(Qb5 (x:=x.yes) C.out (fun k q=>Zl (M.out k q) S.out.bel.size) S.out.st S.out.lists.yr S.out.lists.ya (QaB F.out).2.1 (QaB F.out).2.2 (QaB F.out).1).mono ?_
  rintro e9 w9 ⟨p,o⟩;have j:=Qa (S.out.below o);rcases p with ⟨c,y,rfl,m⟩|⟨c,rfl⟩
  rotate_left
  ·exact⟨Z,.inr ⟨by rw[B.out,Ql c];exact c,by rw[B.out,Ql c]⟩,j.out.bel⟩
  subst m;have E4:Hid (s.fin x=s.to x.no):=by show _=_;rw[B.out,Qx c]
  clear c o B S;have S:=j;clear j D V x2 x3 x4 x5 W x7 G;obtain⟨D,V,x2,x3,x4,x5,W,x7,G⟩:=S.out.cells
  go_wp2_with fail
  refine(Qb5 (x:=x.no) C.out (fun k q=>Zl (M.out k q) S.out.bel.size) S.out.st S.out.lists.nr S.out.lists.na (QaB h2.out).2.1 (QaB h2.out).2.2 (QaB h2.out).1).mono ?_
  rintro e9 w9 ⟨p,o⟩;have j:=Qa (S.out.below o);rcases p with ⟨c,y,rfl,m⟩|⟨c,rfl⟩
  rotate_left
  ·exact⟨Z,.inr ⟨by rw[E4.out];exact c,by rw[E4.out]⟩,j.out.bel⟩
  subst m;have N:Hid (s.fin x=0):=by show _=_;rw[E4.out];exact c
  clear c o;go_wp2
  exact Xz (v:=.tuple #[]) (by simp[results,results214,go_sem]) Z ⟨ZG.good N.out Z,j.out.bel⟩
 ·have U:=u.out.regs.1;obtain⟨n,hn⟩:=Xc U
  have l:Hid (s.fin x=Qv (s.handC x.args s.f.results) (Qjp s.H s.f.regs)):=by show _=_;rw[i.out,Xr (by omega),Xr (by omega),QmA hn u.out.results.2];rfl
  have aa:x.args.length<=8:=P.out.2.2.2.1;obtain⟨pm,cm,hh,a1,c1,a2,c2,a3,c3,aL,cL,R⟩:=S.out.st.read
  obtain⟨-,-,-,-,q4,-⟩:=R.cells
  obtain⟨fa,fc,fb,fd,fe,ff,K,-,z,-,-⟩:=Qas R.fn
  simp only[List.cons.injEq,Value.slice.injEq,and_true,true_and] at K
  obtain⟨⟨-,-⟩,⟨rfl,rfl⟩,-⟩:=K
  have J:=Qa (QX z).1
  have CH:Hid (Calls prog 251 #[Pv b 0,.slice e.pA x.args.length e.cA,.slice a2 s.f.results.length c2] w1.drew fun e w'=>ZG (s.handC x.args s.f.results) VNone e/\Below w1.drew.heap.size w1.drew w') :=
   QaH Z (by omega) Z (by have:=u.out.results.1;omega) (Ya S.out.lists.ar (Qb2 Zr)) J.out.drew hL ac.out (fun k q=>Zl (M.out k q) S.out.bel.size) (S.out.st.below (Qb2 Zr))
  rw[g] at D
  clear i R z J hn U;generalize s.f.results.length=nr at q4 CH;generalize x.args.length=na at G CH aa;go_upto_region 9 with fail
  go_region_with (go_at_call 251;refine(CH.out).mono ?_;rintro e8 w8 ⟨p,I⟩;have E:=Qa (S.out.below (Zx I));rcases p with ⟨c,y,rfl,m⟩|⟨c,rfl⟩;rotate_left;exact⟨Z,.inr ⟨by rw[l.out,Ql c];exact c,by rw[l.out,Ql c]⟩,E.out.bel⟩;subst m;have B:Hid (s.fin x=Qjp s.H s.f.regs):=(by show _=_;rw[l.out,Qx c]);clear c I)
  all_goals
   have CV:=Qa (QgQ C.out.regs E.out.st);go_wp2_with fail
   refine CV.out.mono ?_;rintro e9 w9 ⟨p,o⟩;have j:=Qa (E.out.below o);rcases p with ⟨c,y,rfl,m⟩|⟨c,rfl⟩
   rotate_left
   ·exact⟨Z,.inr ⟨by rw[B.out];exact c,by rw[B.out]⟩,j.out.bel⟩
   subst m;have N:Hid (s.fin x=0):=by show _=_;rw[B.out];exact c
   clear c o;go_wp2
   exact Xz (v:=.tuple #[]) (by simp[results,results214,go_sem]) Z ⟨ZG.good N.out Z,j.out.bel⟩
theorem Qcs {a:Nat}(c:Int) (b:Blk w a #[Iv 0] 3) :
 CallsD prog 238 #[Qfr a] (.panicking (Qe1 c)) w fun e u' w' =>
  e=.returned (.tuple #[])/\u'=.panicking [{ v:=.iface 304 (Iv c),recovered:=true }]/\(Blk w' a #[Iv c] 3/\Chg a w w'):=by
 have d:=b.lt;have h:=Qb b 0 _ Z;have f:=Qj b 0;have k:=Qa b;refine callsD_of_wpS func238 Z fun n m g=>?_;apply wpS_seq
 apply wpS_region
 simp[wpOpsS,go_sem,recoverD,g,ntmps238,Exit.thenS]
 rw[show (#[Qfr a]++((Array.replicate 15 undef).setIfInBounds 3 (Value.iface 304 (Iv c))).setIfInBounds 0 (Value.iface 304 (Iv c)):Array Value)=#[Qfr a,Value.iface 304 (Iv c),undef,undef,Value.iface 304 (Iv c),undef,undef,undef,undef,undef,undef,undef,undef,undef,undef,undef] from Z]
 refine wpS_of_wp ?_;have j:∀ w:World,(Instr.typeAssert (.iface 304 (Iv c)) 20 304 true).run prog w=.ok (.tuple #[Iv c,.bool true]) w:=fun _=>by kernel_rfl
 clear b;go_wp2
 have i:Blk (w.setCell ⟨a,0,none⟩ (Iv c)) a #[Iv c] 3:=by
  have:=Qh k.out 0 (Iv c)
  simpa using this
 have l:Chg a w (w.setCell ⟨a,0,none⟩ (Iv c)):=Chg.set w 0 _ d;exact(show bodyPostS _ _ _ _ _ _ _ _ _ from ⟨Z,_,Z,.tuple #[],by simp[results,results238,go_sem],Z,Z,i,l⟩)
theorem QfH (a:Nat) :
 CallsD prog 238 #[Qfr a] .returning w fun e u' w'=>e=.returned (.tuple #[])/\u'=.returning/\w'=w:=by
 refine callsD_of_wpS func238 Z fun b d c=>?_;apply wpS_seq
 apply wpS_region
 simp[wpOpsS,go_sem,recoverD,c,ntmps238,Exit.thenS]
 rw[show (#[Qfr a]++((Array.replicate 15 undef).setIfInBounds 3 (Value.nilIface)).setIfInBounds 0 (Value.nilIface):Array Value)=#[Qfr a,Value.nilIface,undef,undef,Value.nilIface,undef,undef,undef,undef,undef,undef,undef,undef,undef,undef,undef] from Z]
 refine wpS_of_wp ?_;go_wp2_with fail
 cases b
 simp_all [bodyPostS,results,results238]
def QmN (Fb:Nat) (R1:World->Prop) (R2:Int->World->Prop) (en:Ending) (w2:World):Prop :=
 Blk w2 Fb #[Iv 0] 3/\((en=.returned (.tuple #[])/\R1 w2)\/(∃ c,en=.panicked (Qe1 c)/\R2 c w2))
def QfF (Fb:Nat) (R1:World->Prop) (R2:Int->World->Prop) (en:Ending) (w':World):Prop :=
 (∃ w2,R1 w2/\en=.returned (Iv 0)/\Chg Fb w2 w')\/(∃ w2,∃ c:Int,R2 c w2/\en=.returned (Iv c)/\Chg Fb w2 w')
theorem QcI (F:Nat) (a:Array Value) (e:Qah F) (h:World->Prop) (n:Int->World->Prop) (d:Calls prog F a (w.alloc (.cells #[Iv 0] 3)) fun en w2=>QmN w.heap.size h n en w2) :
 Calls prog 210 #[.func (.func F) #[] a] w fun en w'=>QfF w.heap.size h n en w':=by
 have y:∀ (fn:Fn) (first cap:Array Value) (w:World),(Instr.makeFunc fn first cap).run prog w=.ok (.func fn first cap) w:=fun _ _ _ _=>rfl;have q:=e;unfold Qah at q;have o:Hid (Calls prog F a (w.alloc (.cells #[Iv 0] 3)) fun en w2=>QmN w.heap.size h n en w2):=d;clear d e;go_enter_defers func210,ntmps210
 go_wp2_with fail
 refine o.out.mono ?_;rintro B b ⟨j,⟨rfl,i⟩|⟨c,rfl,i⟩⟩
 ·have g:=Qa j;have m:=Qb g.out 0 _ Z;have l:=Qj g.out 0;have z:Hid (h b):=i;clear j i o q;go_wp2
  have p:Blk (b.setCell ⟨w.heap.size,0,none⟩ (Iv 0)) w.heap.size #[Iv 0] 3:=by
   have:=Qh g.out 0 (Iv 0)
   simpa using this
  have r:Chg w.heap.size b (b.setCell ⟨w.heap.size,0,none⟩ (Iv 0)):=Chg.set b 0 _ g.out.lt;clear m l;generalize b.setCell ⟨w.heap.size,0,none⟩ (Iv 0)=x at p r |-;refine leaves_cons (f:=238) (args:=#[Qfr w.heap.size]) (by simp) (by simp[go_sem]) ?_;refine(QfH w.heap.size).mono ?_
  rintro s u A ⟨rfl,rfl,rfl⟩;have k:=Qb p 0 _ Z;exact⟨Iv 0,by simp[results,results210,go_sem,k],.inl ⟨b,z.out,Z,r⟩⟩
 ·show bodyPostD _ _ _ _ _ _;refine leaves_cons (f:=238) (args:=#[Qfr w.heap.size]) (by simp) (by simp[go_sem]) ?_;refine(Qcs c j).mono ?_
  rintro s u x ⟨rfl,rfl,v,t⟩;have k:=Qb v 0 _ Z;exact⟨Iv c,by simp[results,results210,go_sem,k],.inr ⟨b,c,i,Z,t⟩⟩
theorem QlA {A:Nat->Prop}{s:JSt}{x:Qt}(i:∀ k,A k->k<w.heap.size) (j:JOk s) (h:SAt w b O A s) (c:intsL.In w Q x.regs [.slice rg x.regs.length rc]) (a:intsL.In w Q x.args [.slice ag x.args.length ac]) (f:x.regs.length<=rc) (d:ZB x) (g:x.form s.m.length=0) :
 Calls prog 212 #[Pv b 0,Qd6 x rg ag rc ac] w fun e w'=>QO w b O A s (s.next x) (s.goC x) e w':=by
 obtain⟨-,-,-,l⟩:=Q6 g
 rcases l with e | e | e | e | e | e | e | e | e | e | e | e | e | e
 ·exact QlV i j h c a f d g e
 ·exact Qls i j h c a f d g e
 ·exact Ql4 i j h c a f d g e
 ·exact QkJ i j h c a f d g e
 ·exact QjB i j h c a f d g e
 ·exact QlL i j h c a f d g e
 ·exact Qlt i j h c a f d g e
 ·exact Qin i j h c a f d g e
 ·exact Qkg i j h c a f d g e
 ·exact QiC i j h c a f d g e
 ·exact Ql9 i j h c a f d g e
 ·exact QmK i j h c a f d g e
 ·exact QlY i j h c a f d g e
 ·exact QkD i j h c a f d g e
theorem STo.seal {wc w9:World}{g:Nat}{A:Nat->Prop}{s:JSt}(l:∀ k,O k->k<w.heap.size) (f:Below w.heap.size w wc) (o:w.heap.size<=g/\g<wc.heap.size) (h:STo wc w2 b O (fun k=>A k\/(w.heap.size<=k/\k<wc.heap.size)) s) (c:Chg g w2 w9):STo w w9 b O A s:=by
 obtain⟨N,i,j,d⟩:=h
 have q:=f.size;have p:=d.size;have r:=c.size;refine⟨fun k=>N k\/(w.heap.size<=k/\k<wc.heap.size),fun k a=>?_,?_,?_⟩
 ·rcases a with a | a
  ·have:=i k a;omega
  ·omega
 ·refine j.keep (fun k m a=>c.block k m (fun e=>?_)) (fun k a _=>?_) (fun k a _ e=>a ?_) (fun k a=>?_)
  ·subst e;rcases a with a | a
   ·rcases a with a | a
    ·have:=l k a;omega
    ·have:=i k a;omega
   ·exact a (.inl (.inr o))
  ·rcases a with a | a
   ·exact .inl a
   ·exact .inr (.inl a)
  ·rcases e with e | e | e
   ·exact .inl (.inl e)
   ·exact .inr e
   ·exact .inl (.inr e)
  ·rcases a with a | a
   ·have:=j.sub k (.inl a)
    rcases this with (h | h) | h
    ·exact .inl h
    ·exact .inr (.inr h)
    ·exact .inr (.inl h)
   ·exact .inr a
 ·refine⟨c.os.trans (d.os.trans f.os),c.tape.trans (d.tape.trans f.tape),c.output.trans (d.output.trans f.output),by omega,fun k a n=>?_,fun k a=>?_⟩
  ·exact(c.block k (by omega) (by omega)).trans ((d.block k (by omega) n).trans (f.block k a))
  ·rcases a with a | a | a
   ·exact .inl a
   ·have:=i k a;exact .inr (by omega)
   ·exact .inr a.1
theorem SAt.wall {wc:World}{A:Nat->Prop}{s:JSt}(h:SAt w b O A s) (c:Below w.heap.size w wc):SAt wc b O (fun k=>A k\/(w.heap.size<=k/\k<wc.heap.size)) s :=
 h.keep (fun g d _=>c.block g d) (fun _ h _=>h) (fun k a f e=>by rcases e with e | e;exact a e;omega) (fun k a=>.inl (h.sub k a))
theorem enters_ins1:Qah 211:=fun _ _=>by kernel_rfl
theorem enters_end1:Qah 213:=fun _ _=>by kernel_rfl
def Qod (b S0 X nm cm rc ac:Nat) (cf:Int) (pm rg ag:Option Addr) (x:Qt) (t:Tmp) (v:Value) (w:World):Prop :=
 v=(([(2,Pv S0 0),(3,Pv X 0),(6,Pv b 0),(7,Pv b 0),(8,Pv b 0),(9,.agg #[.slice pm nm cm]),(10,.agg #[Iv x.op,Iv x.a,Iv x.b,Iv x.c,Iv x.k,Iv x.n,.slice rg x.regs.length rc,.slice ag x.args.length ac]),(11,Iv cf),(5,Iv cf)]:List (Tmp × Value)).lookup t).getD undef
theorem ji1 {o f:Nat}{l:Int}{x:Qt}(I:w6.cell? ⟨o,0,none⟩=some (Pv b 0)) (z:w6.cell? ⟨b,0,none⟩=some (.slice pm f cm)) (u:w6.cell? ⟨X,0,none⟩=some (Iv x.op)) (A:w6.cell? ⟨X,1,none⟩=some (Iv x.a)) (L:w6.cell? ⟨X,2,none⟩=some (Iv x.b)) (B:w6.cell? ⟨X,3,none⟩=some (Iv x.c)) (F:w6.cell? ⟨X,4,none⟩=some (Iv x.k)) (G:w6.cell? ⟨X,5,none⟩=some (Iv x.n)) (H:w6.cell? ⟨X,6,none⟩=some (.slice rg x.regs.length rc)) (E:w6.cell? ⟨X,7,none⟩=some (.slice ag x.args.length ac)) (j:f<2305843009213693952) (s:Hid (x.form f=l))
 (a:Act) (m:Nat) (J:a.tmps.size=m) (i:17<=m) (C:a.tmps.getD 2 undef=Pv o 0) (y:a.tmps.getD 3 undef=Pv X 0) :
 Code.wp prog ((Tryz.f164.body.bind (Qi 1)).getD .skip) (fun e a' w'=>e=.normal/\∃ vs,a'=QM a vs [6,7,8,9,10,11,5]/\vs 5=Iv l/\Below w6.heap.size w6 w') a w6:=by
 conv=>arg 2;whnf
 refine QaY (Qod b o X f cm rc ac l pm rg ag x) (fun w=>Below w6.heap.size w6 w) (fun w w'=>Below w.heap.size w w') (outs:=[2,3]) (gs:=[]) (bs:=[true,true,true,true,true,true,true]) (by kernel_rfl) (n:=17) J i (by kernel_rfl) ?hR ?hG (QI Zr 1) ⟨C,y,Y⟩ ?hA ?hend
 case hR=>exact fun t v w w' _ h=>h
 case hG=>exact Y
 case hend=>exact fun vs w' d g=>⟨Z,vs,Z,g 5 (by kernel_rfl),d⟩
 case hA =>
  repeat
   refine⟨fun a w d g K r=>?_,?_⟩
   focus first
    | obtain⟨p,-⟩:=g
      conv at p=>whnf;rhs;whnf
      have N:=Qk I d;have V:=Qk z d;have T:=Qk u d;have R:=Qk A d;have M:=Qk L d;have P:=Qk B d;have W:=Qk F d;have c7:=Qk G d;have Q:=Qk H d;have U:=Qk E d;go_simp;exact r _ _ Zr d Z
    | obtain⟨p,D,-⟩:=g
      conv at p=>whnf;rhs;whnf
      conv at D=>whnf;rhs;whnf
      go_simp;refine Xm (QgC f x ⟨rg,rc,ag,ac⟩ pm cm _ j) ?_;rw[s.out];rintro S O ⟨rfl,q⟩;go_simp;exact r _ _ q (d.trans (q.mono d.size)) Z
  trivial
theorem Qi3 {t:Nat}{A:Nat->Prop}{s:JSt}{x:Qt}(y:Blk w t #[Pv b 0] 234) (g:Blk w X #[Iv x.op,Iv x.a,Iv x.b,Iv x.c,Iv x.k,Iv x.n,.slice rg x.regs.length rc,.slice ag x.args.length ac] 78) (o:∀ k,A k->k<w.heap.size) (u:JOk s) (h:SAt w b O A s) (f:intsL.In w Q x.regs [.slice rg x.regs.length rc]) (d:intsL.In w Q x.args [.slice ag x.args.length ac]) (j:x.regs.length<=rc) (i:ZB x) (r:x.form s.m.length=0) :
 Calls prog 211 #[Pv t 0,Pv X 0] w fun e w'=>QO w b O A s (s.next x) (s.goC x) e w':=by
 have C:=Qa (QlA o u h f d j i r);have L:=Qb y 0 _ Z;have B:=Qb g 0 _ Z;have D:=Qb g 1 _ Z;have M:=Qb g 2 _ Z;have E:=Qb g 3 _ Z;have I:=Qb g 4 _ Z;have J:=Qb g 5 _ Z;have K:=Qb g 6 _ Z;have H:=Qb g 7 _ Z;clear y g o u h f d j i r;go_enter func211,ntmps211
 go_wp2_with fail
 refine C.out.mono ?_;rintro G F q;have l:=Qa q;rcases q with ⟨z,rfl,p⟩|⟨z,rfl,p⟩
 rotate_left
 ·exact⟨Z,l.out⟩
 clear z p C;go_wp2
 exact Xz (v:=.tuple #[]) (by simp[results,results211,go_sem]) Z l.out
theorem QjT {A:Nat->Prop}{s:JSt}{x:Qt}(hA:∀ k,A k->k<w.heap.size) (hJ:JOk s) (h:SAt w b O A s) (o:intsL.In w Q x.regs [.slice rg x.regs.length rc]) (i:intsL.In w Q x.args [.slice ag x.args.length ac]) (J:x.regs.length<=rc) (u:ZB x) :
 Calls prog 164 #[Pv b 0,Qd6 x rg ag rc ac] w fun e w'=>e=.returned (Iv (s.code x))/\STo w w' b O A (s.ins x):=by
 have ai:∀ (fn:Fn) (first cap:Array Value) (w:World),(Instr.makeFunc fn first cap).run prog w=.ok (.func fn first cap) w:=fun _ _ _ _=>rfl;have HJ:=Qa hJ;have H0:=Qa h;have y:=Qa hA;have ad:=Qa u;have ae:=Qa J;have b1:=Zd w (.cells #[Pv b 0] 234);have b2:=Zd (w.alloc (.cells #[Pv b 0] 234)) (.cells #[Iv x.op,Iv x.a,Iv x.b,Iv x.c,Iv x.k,Iv x.n,.slice rg x.regs.length rc,.slice ag x.args.length ac] 78);have V:=b1.trans (b2.mono b1.size);have HB:=Qa V;have H:=Qa (h.below V);have HR:Hid (intsL.In _ Q x.regs [.slice rg x.regs.length rc]):=Ya o V;have HG:Hid (intsL.In _ Q x.args [.slice ag x.args.length ac]):=Ya i V;have hS:Blk ((w.alloc (.cells #[Pv b 0] 234)).alloc (.cells #[Iv x.op,Iv x.a,Iv x.b,Iv x.c,Iv x.k,Iv x.n,.slice rg x.regs.length rc,.slice ag x.args.length ac] 78)) w.heap.size #[Pv b 0] 234:=(Blk.new _ _ _:Blk (w.alloc (.cells #[Pv b 0] 234)) w.heap.size _ _).below b2
 have M:Blk ((w.alloc (.cells #[Pv b 0] 234)).alloc (.cells #[Iv x.op,Iv x.a,Iv x.b,Iv x.c,Iv x.k,Iv x.n,.slice rg x.regs.length rc,.slice ag x.args.length ac] 78)) (w.heap.size+1) #[Iv x.op,Iv x.a,Iv x.b,Iv x.c,Iv x.k,Iv x.n,.slice rg x.regs.length rc,.slice ag x.args.length ac] 78:=by
  have:=Blk.new (w.alloc (.cells #[Pv b 0] 234)) #[Iv x.op,Iv x.a,Iv x.b,Iv x.c,Iv x.k,Iv x.n,.slice rg x.regs.length rc,.slice ag x.args.length ac] 78
  simpa using this
 have P:=Qa hS;have g:=Qa M;clear hS M b1 b2 V h hA hJ o i J u;go_enter func164,ntmps164
 go_upto_region 1 with fail
 generalize (w.alloc (.cells #[Pv b 0] 234)).alloc (.cells #[Iv x.op,Iv x.a,Iv x.b,Iv x.c,Iv x.k,Iv x.n,.slice rg x.regs.length rc,.slice ag x.args.length ac] 78)=w1 at HB H HR HG P g |-;obtain⟨S0,I⟩:∃ S0,w.heap.size=S0:=⟨_,Z⟩
 obtain⟨X,M⟩:∃ X,S0+1=X:=⟨_,Z⟩
 rw[I] at P g |-
 rw[M] at g |-
 clear M I;have s0:=Qb P.out 0 _ Z;have x0:=Qb g.out 0 _ Z;have x1:=Qb g.out 1 _ Z;have x2:=Qb g.out 2 _ Z;have x3:=Qb g.out 3 _ Z;have x4:=Qb g.out 4 _ Z;have x5:=Qb g.out 5 _ Z;have x6:=Qb g.out 6 _ Z;have x7:=Qb g.out 7 _ Z;obtain⟨pm,cm,hh,a1,c1,a2,c2,a3,c3,aL,cL,RR⟩:=H.out.read
 obtain⟨q0,-⟩:=RR.cells
 obtain⟨E,W⟩:∃ E,x.form s.m.length=E:=⟨_,Z⟩
 have q:Hid (x.form s.m.length=E):=W;clear W RR;refine Code.wp_mono ?_ (ji1 s0 q0 x0 x1 x2 x3 x4 x5 x6 x7 (by have:=HJ.out.mod.1.2;omega) q _ _ Z (Xg (by kernel_rfl)) Z Z);rintro ee aa d ⟨rfl,vs,rfl,L,C⟩;simp only[QM,Act.put,List.setIfInBounds_toArray,List.set_cons_zero,List.set_cons_succ,L]
 have l:=Qa (HB.out.trans (C.mono HB.out.size));have T:=Qa (P.out.below C);have ab:=Qa (g.out.below C);have K:Hid (intsL.In d Q x.regs [.slice rg x.regs.length rc]):=Ya HR.out C;have S:Hid (intsL.In d Q x.args [.slice ag x.args.length ac]):=Ya HG.out C;clear C L s0 x0 x1 x2 x3 x4 x5 x6 x7 q0 P g HR HG HB H;by_cases r:E=0
 rotate_left
 ·have ah:(E != 0)=true:=by simpa using r
  have E1:Hid (s.code x=E):=by show _=_;unfold JSt.code;rw[q.out,Xs r]
  have E2:Hid (s.ins x=s):=by show _=_;unfold JSt.ins;rw[Xr (by rw[E1.out];exact r)]
  go_wp2_with fail
  go_ret;exact⟨by rw[E1.out];rfl,by rw[E2.out];exact Yh H0.out l.out⟩
 subst r;have EC:=Qa (QlI q.out);have D:=Zd d (.cells #[Iv 0] 3);have t:=l.out.trans (D.mono l.out.size);have af:=Qa t
 have CK:Hid (Calls prog 210 #[.func (.func 211) #[] #[Pv S0 0,Pv X 0]] d fun en w'=>QfF d.heap.size (fun f=>s.goC x=0/\STo (d.alloc (.cells #[Iv 0] 3)) f b O (fun k=>A k\/(w.heap.size<=k/\k<(d.alloc (.cells #[Iv 0] 3)).heap.size)) (s.next x)) (fun c f=>s.goC x=c/\c≠0/\STo (d.alloc (.cells #[Iv 0] 3)) f b O (fun k=>A k\/(w.heap.size<=k/\k<(d.alloc (.cells #[Iv 0] 3)).heap.size)) s) en w'):=by
  refine QcI _ _ enters_ins1 _ _ ?_;refine(Qi3 (A:=fun k=>A k\/(w.heap.size<=k/\k<(d.alloc (.cells #[Iv 0] 3)).heap.size)) (T.out.below D) (ab.out.below D) (fun k p=>?_) HJ.out (H0.out.wall t) (Ya K.out D) (Ya S.out D) ae.out ad.out q.out).mono ?_
  ·rcases p with p | p
   ·exact Zl (y.out k p) t.size
   ·exact p.2
  ·intro en f hd
   have B:STo (d.alloc (.cells #[Iv 0] 3)) f b O (fun k=>A k\/(w.heap.size<=k/\k<(d.alloc (.cells #[Iv 0] 3)).heap.size)) s\/STo (d.alloc (.cells #[Iv 0] 3)) f b O (fun k=>A k\/(w.heap.size<=k/\k<(d.alloc (.cells #[Iv 0] 3)).heap.size)) (s.next x):=by
    rcases hd with ⟨-,-,h⟩|⟨-,-,h⟩
    ·exact .inr h
    ·exact .inl h
   have j:Blk f d.heap.size #[Iv 0] 3:=by
    have hn:Blk (d.alloc (.cells #[Iv 0] 3)) d.heap.size #[Iv 0] 3:=Blk.new _ _ _;have U:¬ O d.heap.size:=fun e=>by have F:=y.out _ (H0.out.sub _ e);have G:=l.out.size;omega
    rcases B with ⟨N,-,-,st⟩|⟨N,-,-,st⟩
    ·exact(st.block _ hn.lt U).trans hn
    ·exact(st.block _ hn.lt U).trans hn
   rcases hd with ⟨F,G,h3⟩|⟨F,G,h3⟩
   ·exact⟨j,.inl ⟨G,F,h3⟩⟩
   ·exact⟨j,.inr ⟨_,G,Z,F,h3⟩⟩
 have z:Hid (∀ f v s',STo (d.alloc (.cells #[Iv 0] 3)) f b O (fun k=>A k\/(w.heap.size<=k/\k<(d.alloc (.cells #[Iv 0] 3)).heap.size)) s'->Chg d.heap.size f v->STo w v b O A s'):=fun f v s' F G=>STo.seal (fun k p=>y.out k (H0.out.sub k p)) af.out ⟨l.out.size,by simp⟩ F G;clear D t T ab K S;go_wp2_with fail
 refine CK.out.mono ?_;intro e' v p
 have FF:Hid (e'=.returned (Iv (s.code x))/\STo w v b O A (s.ins x)):=by
  rcases p with ⟨f,⟨g1,g2⟩,rfl,g3⟩|⟨f,c,⟨g1,g2,g3⟩,rfl,g4⟩
  ·have R:s.code x=0:=by rw[EC.out,g1]
   refine⟨by rw[R],?_⟩
   unfold JSt.ins;rw[Xs R]
   exact z.out f v _ g2 g3
  ·have R:s.code x=c:=by rw[EC.out,g1]
   refine⟨by rw[R],?_⟩
   unfold JSt.ins;rw[Xr (by rw[R];exact g2)]
   exact z.out f v _ g3 g4
 obtain⟨rfl,-⟩:=id FF.out
 clear p CK z;go_wp2
 go_ret;exact⟨Z,FF.out.2⟩
def Qn1 (b S0 X fl c1 fm c2 bl c3:Nat) (fr cf:Int) (a1 a2 a3:Option Addr) (x:ZA) (e:EP) (t:Tmp) (v:Value) (w:World):Prop :=
 v=(([(2,Pv S0 0),(3,Pv X 0),(6,Pv b 0),(7,Pv b 0),(8,Pv b 2),(9,.agg #[Iv fr,.slice a1 fl c1,.slice a2 fm c2,.slice a3 bl c3]),(10,.agg (QbV x e)),(11,Iv cf),(5,Iv cf)]:List (Tmp × Value)).lookup t).getD undef
theorem jE1 {o B r A q g p:Nat}{l:Int}{z u C:Option Addr}{x:ZA}{e:EP}(N:w6.cell? ⟨o,0,none⟩=some (Pv b 0)) (O:w6.cell? ⟨b,2,none⟩=some (Iv fr)) (H:w6.cell? ⟨b,3,none⟩=some (.slice z B r)) (J:w6.cell? ⟨b,4,none⟩=some (.slice u A q)) (M:w6.cell? ⟨b,5,none⟩=some (.slice C g p)) (G:Hid (w6.rangeAt X 0 (QbV x e).toList)) (I:Hid (x.yes.regs.length<2305843009213693952/\x.yes.args.length<2305843009213693952/\x.no.regs.length<2305843009213693952/\x.no.args.length<2305843009213693952)) (k:g<2305843009213693952) (D:Hid (x.form g=l))
 (a:Act) (m:Nat) (P:a.tmps.size=m) (j:17<=m) (F:a.tmps.getD 2 undef=Pv o 0) (E:a.tmps.getD 3 undef=Pv X 0) :
 Code.wp prog ((Tryz.f165.body.bind (Qi 1)).getD .skip) (fun e a' w'=>e=.normal/\∃ vs,a'=QM a vs [6,7,8,9,10,11,5]/\vs 5=Iv l/\Below w6.heap.size w6 w') a w6:=by
 conv=>arg 2;whnf
 refine QaY (Qn1 b o X B r A q g p fr l z u C x e) (fun w=>Below w6.heap.size w6 w) (fun w w'=>Below w.heap.size w w') (outs:=[2,3]) (gs:=[]) (bs:=[true,true,true,true,true,true,true]) (by kernel_rfl) (n:=17) P j (by kernel_rfl) ?hR ?hG (QI Zr 1) ⟨F,E,Y⟩ ?hA ?hend
 case hR=>exact fun t v w w' _ h=>h
 case hG=>exact Y
 case hend=>exact fun vs w' c f=>⟨Z,vs,Z,f 5 (by kernel_rfl),c⟩
 case hA =>
  repeat
   refine⟨fun a w c f K s=>?_,?_⟩
   focus first
    | obtain⟨d,-⟩:=f
      conv at d=>whnf;rhs;whnf
      have R:=Qk N c;have r:=Qk O c;have q:=Qk H c;have p:=Qk J c;have Q:=Qk M c;go_simp;exact s _ _ Zr c Z
    | obtain⟨d,-⟩:=f
      conv at d=>whnf;rhs;whnf
      obtain⟨U,i⟩:=underEnd
      refine wp_load_mid 84 (.tmp 3) Z X 0 d (QbV x e).toList _ (Qae G.out c) i Z sizeEnd ?_;exact s _ _ Zr c Z
    | obtain⟨d,L,-⟩:=f
      conv at d=>whnf;rhs;whnf
      conv at L=>whnf;rhs;whnf
      go_simp;refine Xm (QgN (x:=x) (e:=e) I.out k) ?_;rw[D.out];rintro T S ⟨rfl,y⟩;go_simp;exact s _ _ y (c.trans (y.mono c.size)) Z
  trivial
theorem QeI {c:Array Value}(h:Blk w X c t):w.rangeAt X 0 c.toList:=fun j v a=>by
 rw[XK]
 rw[Array.getElem?_toList] at a
 exact Qb h j v a
theorem QiM {u:Nat}{A:Nat->Prop}{s:JSt}{x:ZA}{e:EP}(D:Blk w u #[Pv b 0] 234) (E:Blk w X (QbV x e) 84) (z:JOk s) (B:∀ k,O k->k<w.heap.size) (h:SAt w b O A s) (t:Qdl w Q x e) (g:-9223372036854775808<=x.a/\x.a<=9223372036854775807) (p:x.form s.f.blocks.length=0) :
 Calls prog 213 #[Pv u 0,Pv X 0] w fun r w'=>ZG (s.fin x) VNone r/\Below w.heap.size w w':=by
 have C:=Qa (Qky z B h t g p);have K:=Qb D 0 _ Z;have q:=Qa (QeI E);clear D E z h t g p B;obtain⟨L,d⟩:=underEnd
 have j:=Qa d;clear d;generalize c:QbV x e=m at C q;have i:Hid ((prog.info? 84).map (·.size)=some m.toList.length):=by show _=_;rw[<-c];exact sizeEnd
 clear c;go_enter func213,ntmps213
 go_wp2_with (refine wpList_load_mid Z 84 (.tmp 1) Z X 0 Z m.toList _ q.out j.out Z i.out ?_)
 refine C.out.mono ?_;rintro J I o;have l:=Qa o;obtain⟨G,H⟩:=o
 rcases G with ⟨n,y,rfl,F⟩|⟨n,rfl⟩
 rotate_left
 ·exact⟨Z,l.out⟩
 subst F;clear n H C;go_wp2
 exact Xz (v:=.tuple #[]) (by simp[results,results213,go_sem]) Z l.out
theorem Qke {A:Nat->Prop}{s:JSt}{x:ZA}{e:EP}(hA:∀ k,A k->k<w.heap.size) (hJ:JOk s) (h:SAt w b O A s) (hx:Qdl w Q x e) (N:-9223372036854775808<=x.a/\x.a<=9223372036854775807) (hs:x.yes.regs.length<2305843009213693952/\x.yes.args.length<2305843009213693952/\x.no.regs.length<2305843009213693952/\x.no.args.length<2305843009213693952) :
 Calls prog 165 #[Pv b 0,.agg (QbV x e)] w fun r w'=>r=.returned (Iv (s.fin x))/\Below w.heap.size w w':=by
 have af:∀ (fn:Fn) (first cap:Array Value) (w:World),(Instr.makeFunc fn first cap).run prog w=.ok (.func fn first cap) w:=fun _ _ _ _=>rfl;have U:=Qa hJ;have H0:=Qa h;have ac:=Qa hA;have W:=Qa N;have ad:=Qa hs;have b1:=Zd w (.cells #[Pv b 0] 234);have b2:=Zd (w.alloc (.cells #[Pv b 0] 234)) (.cells #[Iv x.op,Iv x.a,Iv x.yes.block,.slice e.pYR x.yes.regs.length e.cYR,.slice e.pYA x.yes.args.length e.cYA,Iv x.no.block,.slice e.pNR x.no.regs.length e.cNR,.slice e.pNA x.no.args.length e.cNA,.slice e.pA x.args.length e.cA] 84);have S:=b1.trans (b2.mono b1.size);have T:=Qa S;have H:=Qa (h.below S);have q:=Qa (hx.below S);have hS:Blk ((w.alloc (.cells #[Pv b 0] 234)).alloc (.cells #[Iv x.op,Iv x.a,Iv x.yes.block,.slice e.pYR x.yes.regs.length e.cYR,.slice e.pYA x.yes.args.length e.cYA,Iv x.no.block,.slice e.pNR x.no.regs.length e.cNR,.slice e.pNA x.no.args.length e.cNA,.slice e.pA x.args.length e.cA] 84)) w.heap.size #[Pv b 0] 234:=(Blk.new _ _ _:Blk (w.alloc (.cells #[Pv b 0] 234)) w.heap.size _ _).below b2
 have C:Blk ((w.alloc (.cells #[Pv b 0] 234)).alloc (.cells #[Iv x.op,Iv x.a,Iv x.yes.block,.slice e.pYR x.yes.regs.length e.cYR,.slice e.pYA x.yes.args.length e.cYA,Iv x.no.block,.slice e.pNR x.no.regs.length e.cNR,.slice e.pNA x.no.args.length e.cNA,.slice e.pA x.args.length e.cA] 84)) (w.heap.size+1) (QbV x e) 84:=by
  have:=Blk.new (w.alloc (.cells #[Pv b 0] 234)) (QbV x e) 84
  simpa using this
 have D:=Qa hS;have v:=Qa C;clear hS C b1 b2 S h hA hJ hx N hs;go_enter func165,ntmps165
 go_upto_region 1 with fail
 generalize (w.alloc (.cells #[Pv b 0] 234)).alloc (.cells #[Iv x.op,Iv x.a,Iv x.yes.block,.slice e.pYR x.yes.regs.length e.cYR,.slice e.pYA x.yes.args.length e.cYA,Iv x.no.block,.slice e.pNR x.no.regs.length e.cNR,.slice e.pNA x.no.args.length e.cNA,.slice e.pA x.args.length e.cA] 84)=w1 at T H q D v |-;obtain⟨R,n⟩:∃ R,R=w.heap.size:=⟨_,Z⟩
 obtain⟨X,C⟩:∃ X,X=R+1:=⟨_,Z⟩
 rw[<-n] at D v |-
 rw[<-C] at v |-
 have J:=Qa n;clear C n;have s0:=Qb D.out 0 _ Z;have F:=Qa (QeI v.out);obtain⟨pm,cm,hh,a1,c1,a2,c2,a3,c3,aL,cL,RR⟩:=H.out.read
 obtain⟨-,-,q2,q3,q4,q5,-⟩:=RR.cells
 obtain⟨z,L⟩:∃ z,x.form s.f.blocks.length=z:=⟨_,Z⟩
 have m:Hid (x.form s.f.blocks.length=z):=L;have ab:=Qa (U.out.mod.2 s.f U.out.fn);clear L RR;refine Code.wp_mono ?_ (jE1 s0 q2 q3 q4 q5 F ad (by have:=ab.out.many.2;omega) m _ _ Z (Xg (by kernel_rfl)) Z Z);rintro ee aa i ⟨rfl,vs,rfl,B,G⟩;simp only[QM,Act.put,List.setIfInBounds_toArray,List.set_cons_zero,List.set_cons_succ,B]
 have l:=Qa (T.out.trans (G.mono T.out.size));have E:=Qa (D.out.below G);have M:=Qa (v.out.below G);have K:=Qa (q.out.below G);clear G B s0 q2 q3 q4 q5 D v T H F q;by_cases t:z=0
 rotate_left
 ·have ae:(z != 0)=true:=by simpa using t
  have E1:Hid (s.fin x=z):=by show _=_;unfold JSt.fin;rw[m.out,Xs t]
  go_wp2_with fail
  go_ret;exact⟨by rw[E1.out];rfl,by first | exact l.out | (rw[J.out];exact l.out)⟩
 subst t;have I:=Zd i (.cells #[Iv 0] 3);have g:=l.out.trans (I.mono l.out.size)
 have CK:Hid (Calls prog 210 #[.func (.func 213) #[] #[Pv R 0,Pv X 0]] i fun en w'=>QfF i.heap.size (fun d=>s.fin x=0/\Below (i.alloc (.cells #[Iv 0] 3)).heap.size (i.alloc (.cells #[Iv 0] 3)) d) (fun c d=>s.fin x=c/\Below (i.alloc (.cells #[Iv 0] 3)).heap.size (i.alloc (.cells #[Iv 0] 3)) d) en w'):=by
  refine QcI _ _ enters_end1 _ _ ?_;refine(QiM (E.out.below I) (M.out.below I) U.out (fun k P=>Zl (ac.out k (H0.out.sub k P)) g.size) (H0.out.below g) (K.out.below I) W.out m.out).mono ?_
  rintro en d ⟨hd,o⟩;have j:Blk d i.heap.size #[Iv 0] 3:=(Blk.new i #[Iv 0] 3).below o;rcases hd with ⟨hc,y,rfl,hy⟩|⟨hc,rfl⟩
  ·subst hy;exact⟨j,.inl ⟨Z,hc,o⟩⟩
  ·exact⟨j,.inr ⟨_,Z,Z,o⟩⟩
 have u:Hid (∀ d p,Below (i.alloc (.cells #[Iv 0] 3)).heap.size (i.alloc (.cells #[Iv 0] 3)) d->Chg i.heap.size d p->Below w.heap.size w p):=fun d p h1 h2 =>
  Chg.last (g.trans (h1.mono g.size)) h2 l.out.size (Zt g.size h1.size)
 clear I g E M K;go_wp2_with fail
 refine CK.out.mono ?_;intro e' p P
 have FF:Hid (e'=.returned (Iv (s.fin x))/\Below w.heap.size w p):=by
  rcases P with ⟨d,⟨V,g2⟩,rfl,g3⟩|⟨d,c,⟨V,g2⟩,rfl,g4⟩
  ·exact⟨by rw[V],u.out d p g2 g3⟩
  ·exact⟨by rw[V],u.out d p g2 g4⟩
 obtain⟨rfl,-⟩:=id FF.out
 clear P CK u;go_wp2
 go_ret;first | exact⟨Z,FF.out.2⟩ | exact⟨Z,by rw[J.out];exact FF.out.2⟩
def Qcw {n:Nat}(w:World) (Q:Nat->Prop) (l:List (TT n)) (e:Ending) (w':World):Prop :=
 ∃ v ds,e=.returned v/\w'.ownsRow 0 105 3 v l.length ds/\(∀ g,v.ownBlock=some g->w.heap.size<=g)/\(∀ i x,l[i]?=some x->(Lay.tt n).In w Q x ((ds.drop (i*3)).take 3))/\Below w.heap.size w w'
theorem Qhi {l:List (TT n)}(hN:l.length=N) (ah:N<=5000) (hl:(Qp n).In w Q l [.slice p N c]) :
 Calls prog 209 #[.slice p N c] w fun e w'=>Qcw w Q l e w':=by
 obtain⟨i0,hi,W,K,V⟩:=pInfoT
 have q:∀ (w:World) (a:Option Addr) (n c n' T:Nat),(binOp .eql 80 (.slice a n c) (.slice none n' T)).run prog w=.ok (.bool a.isNone) w:=fun w a n c n' T=>Lib.run_eql_slice_nil w _ _ a n c n' T pUnderT;have C:=Qa hl;have z:=Qa hN;clear hl hN
 cases p with
 | none =>
   have v:l=[]:=by
    rcases l with _ | ⟨x,r⟩
    ·rfl
    ·obtain⟨g,o,A,e,-⟩:=Yf C.out (i:=0) (x:=x) Z
     cases e
   subst v;have R:N=0:=by have:=z.out;simpa using this.symm
   subst R;have E:Hid (Qcw w Q ([]:List (TT n)) (.returned (Nv)) w):=⟨Nv,[],Z,⟨Z,.inl ⟨Z,Z⟩⟩,fun g U=>by simp[Value.ownBlock] at U,fun i x X=>by simp at X,Zr⟩;clear C z;go_enter func209,ntmps209
   go_wp2
   go_ret;exact E.out
 | some ad =>
   have b1:=Zd w (.cells #[] 105);have d:(w.alloc (.cells #[] 105)).ownsRow 0 105 3 (.slice (some ⟨w.heap.size,0,none⟩) 0 0) 0 []:=⟨Z,.inr ⟨w.heap.size,0,#[],Z,Xb _,Qe w _ _,Ze,by unfold maxLen;omega,Z,Z⟩⟩;have s:=Qa b1;have f:=Qa d;by_cases ae:N=0
   ·subst ae;have v:l=[]:=Xf.1 z.out;subst v;have ha:Hid (∀ (t:TypeId) (F:World),(Builtin.append_ #[80,80] t #[.slice (some ⟨w.heap.size,0,none⟩) 0 0,.slice (some ad) 0 c]).run prog F=.ok (.slice (some ⟨w.heap.size,0,none⟩) 0 0) F):=fun (t:TypeId) (F:World)=>run_append_nothing (P:=prog) F 80 80 t 105 i0 pUnderT hi (some ⟨w.heap.size,0,none⟩) 0 0 Ze (.slice (some ad) 0 c) (Src.ofSlice F pUnderT ad 0 c [] (by simp) (fun j u h=>by simp at h) (fun u h=>by cases h));have E:Hid (Qcw w Q ([]:List (TT n)) (.returned (.slice (some ⟨w.heap.size,0,none⟩) 0 0)) (w.alloc (.cells #[] 105))):=⟨_,[],Z,f.out,fun g U=>by simp[Value.ownBlock] at U;omega,fun i x X=>by simp at X,s.out⟩;clear C z s f d b1;generalize ac:w.alloc (.cells #[] 105)=w1 at E;go_enter func209,ntmps209
    go_wp2_with (at_builtin;refine QaK Z (.tmp 5) (.tmp 6) 80 Z (.slice (some ⟨w.heap.size,0,none⟩) 0 0) (.slice (some ad) 0 c) Z Z (ha.out _ _) ?_)
    go_ret;first | exact E.out | (rw[ac];exact E.out)
   ·obtain⟨H,I,e0⟩:∃ H I,(some ad)=some (⟨H,I,none⟩:Addr):=by
     obtain⟨g,o,dd,e,-⟩:=Yf C.out (Zg (show 0<l.length by have:=z.out;omega))
     exact⟨g,o,e⟩
    cases e0
    obtain⟨A,d1,d2,d3,d4⟩:=Lay.flat C.out (fun y cs hy=>by obtain⟨ya,yc,e,-⟩:=hy;subst e;exact QlU _ _ _ _ _)
    have D:A.length=N*3:=by rw[<-z.out];exact d1
    have L:=Qa D;have aa:Hid (∀ (j:Nat) (u:Value),A[j]?=some u->(w.alloc (.cells #[] 105)).cell? ((⟨H,I,none⟩:Addr).add j)=some u):=fun j u hj=>Qk (d2 j u hj) s.out;have ag:=Qa d3
    have G:Hid (∀ B g b,B.ownsRow 0 105 3 (.slice (some ⟨g,0,none⟩) N b) N A->(w.alloc (.cells #[] 105)).grownBy B (some w.heap.size)->(w.heap.size=g\/g=w.heap.size+1)->Qcw w Q l (.returned (.slice (some ⟨g,0,none⟩) N b)) B):=by
     intro B g b J m M;have S:=m.size;refine⟨_,A,Z,by rw[z.out];exact J,fun g' af=>?_,d4,⟨m.os.trans s.out.os,m.tape.trans s.out.tape,m.output.trans s.out.output,by simp at S;omega,fun k hk=>?_⟩⟩
     ·simp[Value.ownBlock] at af
      omega
     ·exact(m.block k (by simp;omega) (fun e=>by injection e with e;omega)).trans (s.out.block k hk)
    clear C s d1 D d2 d3 d4 d b1;have ab:0<N:=by omega
    have O:Hid (0<=(w.alloc (.cells #[] 105)).heap.size):=Xb _;go_enter func209,ntmps209
    go_wp2_with (at_builtin;refine wpList_append_lies _ Z (.tmp 5) (.tmp 6) 80 Z 0 105 i0 (.agg #[Iv 0,Iv 0,Nv]) 3 40 pUnderT hi W K V Z (by decide) _ _ _ Z f.out ⟨H,I,none⟩ N c A Z L.out aa.out ag.out ab (by unfold maxLen;omega) (by omega) O.out (w.heap.size+1) (by simp) ?_)
    intro g2 b B J m M r4;have Z9:=Qa (G.out B g2 b (by simpa using J) (by simpa[Value.ownBlock] using m) (by simpa[Value.ownBlock] using M));clear J m M r4 G f;go_wp2
    go_ret;first | exact Z9.out | simpa using Z9.out
def Qgv (m:List (MFunc 6)) (f b:Int):Bool:=decide (0<=f)&&(match m[f.toNat]? with | none=>false | some g=>decide (0<=b)&&decide (b<(g.blocks.length:Int)))
theorem Qjr {m:List (MFunc 6)}{f b:Int}(h:Qgv m f b=true):∃ (i j:Nat) (fn:MFunc 6) (g:MBlock 6),f=(i:Int)/\b=(j:Int)/\m[i]?=some fn/\fn.blocks[j]?=some g:=by
 unfold Qgv at h;simp only[Bool.and_eq_true,decide_eq_true_eq] at h
 obtain⟨c,a⟩:=h
 obtain⟨i,rfl⟩:=Xc c
 rw[XT] at a
 cases e:m[i]? with
 | none=>rw[e] at a;cases a
 | some fn =>
   rw[e] at a
   simp only[Bool.and_eq_true,decide_eq_true_eq] at a
   obtain⟨j,rfl⟩:=Xc a.1
   exact⟨i,j,fn,_,Z,Z,e,Zg (by omega)⟩
theorem Qkn {m:List (MFunc 6)}(f b:Int) (j:m.length<=100000) (n:(QaN 6).In w All m [.slice p m.length c]) :
 Calls prog 207 #[.agg #[.slice p m.length c],Iv f,Iv b] w fun e w'=>e=.returned (.bool (Qgv m f b))/\Below w.heap.size w w':=by
 have r:=Zd w (.cells #[.slice p m.length c] 24);have d:=Qa r;have s:=Qb (Qe w #[.slice p m.length c] 24) 0 _ Z;by_cases u:0<=f
 rotate_left
 ·have E:Hid (Qgv m f b=false):=by show _=_;unfold Qgv;rw[Xu u];rfl
  have C:decide (f>=0)=false:=Xu u;clear n r;generalize m.length=v at s d;go_enter func207,ntmps207
  go_wp2
  go_ret;exact⟨by rw[E.out];rfl,d.out⟩
 obtain⟨i,rfl⟩:=Xc u
 by_cases t:i<m.length
 rotate_left
 ·have E:Hid (Qgv m (i:Int) b=false):=by show _=_;unfold Qgv;rw[XT,Xk (by omega)];simp
  have h:¬ (i:Int)<m.length:=by omega
  clear n r;generalize m.length=v at s d t h j;go_enter func207,ntmps207
  go_wp2
  go_ret;exact⟨by rw[E.out];rfl,d.out⟩
 have o:m[i]?=some m[i]:=Zg t;generalize m[i]=g at o;obtain⟨y,A,H,K,G,J,L,I,rfl,z,D,B,F,-,-⟩:=QdR n o
 have x:y<w.heap.size:=Xi w ⟨y,A+i*4,none⟩ z;have E:Hid (Qgv m (i:Int) b=(decide (0<=b)&&decide (b<(g.blocks.length:Int)))):=by show _=_;unfold Qgv;rw[XT,o];simp
 have h:(i:Int)<m.length:=by omega
 clear n r z D B o;generalize m.length=v at s d t h j;generalize g.blocks.length=q at F E;by_cases a:0<=b
 rotate_left
 ·have l:decide (b>=0)=false:=Xu a;rw[show (decide (0<=b)&&decide (b<(q:Int)))=false by rw[Xu a];rfl] at E
  go_enter func207,ntmps207
  go_wp2
  go_ret;exact⟨by rw[E.out];rfl,d.out⟩
 ·have l:decide (b>=0)=true:=Xt a;rw[show (decide (0<=b)&&decide (b<(q:Int)))=decide (b<(q:Int)) by rw[Xt a];rfl] at E
  by_cases k:b<(q:Int)
  ·rw[Xt k] at E
   go_enter func207,ntmps207
   go_wp2
   go_ret;exact⟨by rw[E.out];rfl,d.out⟩
  ·rw[Xu k] at E
   go_enter func207,ntmps207
   go_wp2
   go_ret;exact⟨by rw[E.out];rfl,d.out⟩
theorem Qnc (c:cs.length=12) :
 Blk ((w1.alloc (.cells #[Iv 0,Nv,Nv,Iv 0,Iv 0,Iv 0,Nv,Nv,Iv 0,Nv,Nv,Nv] 86)).setCells w1.heap.size 0 cs.toArray.toList) w1.heap.size cs.toArray 86/\Below w1.heap.size w1 ((w1.alloc (.cells #[Iv 0,Nv,Nv,Iv 0,Iv 0,Iv 0,Nv,Nv,Iv 0,Nv,Nv,Nv] 86)).setCells w1.heap.size 0 cs.toArray.toList)/\(w1.alloc (.cells #[Iv 0,Nv,Nv,Iv 0,Iv 0,Iv 0,Nv,Nv,Iv 0,Nv,Nv,Nv] 86)).there w1.heap.size 0 cs.toArray.size:=by
 have a:=Qe w1 #[Iv 0,Nv,Nv,Iv 0,Iv 0,Iv 0,Nv,Nv,Iv 0,Nv,Nv,Nv] 86;refine⟨?_,?_,?_⟩
 ·have d:Blk (w1.alloc (.cells #[Iv 0,Nv,Nv,Iv 0,Iv 0,Iv 0,Nv,Nv,Iv 0,Nv,Nv,Nv] 86)) w1.heap.size ([]++(#[Iv 0,Nv,Nv,Iv 0,Iv 0,Iv 0,Nv,Nv,Iv 0,Nv,Nv,Nv]:Array Value).toList).toArray 86:=a;exact Blk.sets cs [] (#[Iv 0,Nv,Nv,Iv 0,Iv 0,Iv 0,Nv,Nv,Iv 0,Nv,Nv,Nv]:Array Value).toList _ (by rw[c];rfl) d
 ·have:=Qz.setCells (O:=fun k=>k=w1.heap.size) (O':=fun k=>k=w1.heap.size) (b:=w1.heap.size) Z cs.toArray.toList 0 _ (Qz.refl _ (w1.alloc (.cells #[Iv 0,Nv,Nv,Iv 0,Iv 0,Iv 0,Nv,Nv,Iv 0,Nv,Nv,Nv] 86)))
  exact(Zd w1 _).trans (this.below (by simp) (fun k e=>by omega))
 ·intro j hj;rw[List.size_toArray,c] at hj
  rw[XK]
  refine⟨?_,Qj a j⟩
  rw[Qb a j ((#[Iv 0,Nv,Nv,Iv 0,Iv 0,Iv 0,Nv,Nv,Iv 0,Nv,Nv,Nv]:Array Value)[j]'hj) (by simp)];rfl
theorem Qad {xs:List Value}(h:w.ownsRow 0 e s v n xs) (l:Below w.heap.size w w'):w'.ownsRow 0 e s v n xs:=by
 obtain⟨k,i⟩:=h
 refine⟨k,?_⟩
 rcases i with d | ⟨g,b,a,j,f,c,r⟩
 ·exact .inl d
 ·exact .inr ⟨g,b,a,j,f,(l.block g (XC c)).trans c,r⟩
theorem QiW {xs:List Value}(h:w.ownsRow 0 e s v n xs):∃ a c,v=.slice a n c:=by
 obtain⟨m,f⟩:=h
 rcases f with ⟨b,i⟩|⟨g,k,d,j,l,o,r⟩
 ·exact⟨none,0,by rw[b,i]⟩
 ·exact⟨_,_,j⟩
def QnN (w7:World) (M9 F10 B11 nm cm n1 d1 n2 d2 n3 d3 np cp:Nat) (fr br:Int) (pm p1 p2 p3 pp:Option Addr) (ps:List (TT 6)) (QP:Nat->Prop) (t:Tmp) (v:Value) (w:World):Prop :=
 match ([(39,fun v w=>∃ hh,v=.pointer (some ⟨hh,0,none⟩)/\w7.heap.size<=hh/\Qo w hh (QbW br)),(43,fun v w=>∃ a c ds,v=.slice a np c/\w.ownsRow 0 105 3 (.slice a np c) np ds/\(∀ g,(Value.slice a np c).ownBlock=some g->w7.heap.size<=g)/\(∀ i x,ps[i]?=some x->(Lay.tt 6).In w7 QP x ((ds.drop (i*3)).take 3))),(44,fun v w=>∃ hh a c ds,v=.agg #[.slice pm nm cm,.pointer (some ⟨hh,0,none⟩),.int .i64 fr,.slice p1 n1 d1,.slice p2 n2 d2,.slice p3 n3 d3,.slice a np c]/\w7.heap.size<=hh/\Qo w hh (QbW br)/\w.ownsRow 0 105 3 (.slice a np c) np ds/\(∀ g,(Value.slice a np c).ownBlock=some g->w7.heap.size<=g)/\(∀ i x,ps[i]?=some x->(Lay.tt 6).In w7 QP x ((ds.drop (i*3)).take 3))),(45,fun v w=>∃ B hh a c ds,v=.pointer (some ⟨B,0,none⟩)/\w7.heap.size<=B/\w.heap[B]?=some (.cells #[.slice pm nm cm,.pointer (some ⟨hh,0,none⟩),.int .i64 fr,.slice p1 n1 d1,.slice p2 n2 d2,.slice p3 n3 d3,.slice a np c] 279 (0,0))/\w7.heap.size<=hh/\Qo w hh (QbW br)/\w.ownsRow 0 105 3 (.slice a np c) np ds/\(∀ g,(Value.slice a np c).ownBlock=some g->w7.heap.size<=g)/\(∀ i x,ps[i]?=some x->(Lay.tt 6).In w7 QP x ((ds.drop (i*3)).take 3))),(6,fun v w=>∃ B hh a c ds,v=.pointer (some ⟨B,0,none⟩)/\w7.heap.size<=B/\w.heap[B]?=some (.cells #[.slice pm nm cm,.pointer (some ⟨hh,0,none⟩),.int .i64 fr,.slice p1 n1 d1,.slice p2 n2 d2,.slice p3 n3 d3,.slice a np c] 279 (0,0))/\w7.heap.size<=hh/\Qo w hh (QbW br)/\w.ownsRow 0 105 3 (.slice a np c) np ds/\(∀ g,(Value.slice a np c).ownBlock=some g->w7.heap.size<=g)/\(∀ i x,ps[i]?=some x->(Lay.tt 6).In w7 QP x ((ds.drop (i*3)).take 3)))]:List (Tmp × (Value->World->Prop))).lookup t with
 | some p=>p v w
 | none=>v=(([(9,.pointer (some ⟨M9,0,none⟩)),(10,.pointer (some ⟨F10,0,none⟩)),(11,.pointer (some ⟨B11,0,none⟩)),(36,.agg #[.slice pm nm cm]),(37,.pointer (some ⟨B11,0,none⟩)),(38,.int .i64 br),(40,.agg #[.int .i64 fr,.slice p1 n1 d1,.slice p2 n2 d2,.slice p3 n3 d3]),(41,.pointer (some ⟨B11,1,none⟩)),(42,.slice pp np cp),(46,.agg #[.int .i64 0,.int .i64 0])]:List (Tmp × Value)).lookup t).getD undef
theorem jn9 {d:World}{M9 r F L P d1 M S U R f cp:Nat}{D:Int}{p1 N I pp:Option Addr}{H:List (TT 6)}{G:Nat->Prop}(m0:d.cell? ⟨M9,0,none⟩=some (.slice pm L cm)) (f0:d.cell? ⟨r,0,none⟩=some (Iv fr)) (f1:d.cell? ⟨r,1,none⟩=some (.slice p1 P d1)) (f2:d.cell? ⟨r,2,none⟩=some (.slice N M S)) (f3:d.cell? ⟨r,3,none⟩=some (.slice I U R)) (y0:d.cell? ⟨F,0,none⟩=some (Iv D)) (y1:d.cell? ⟨F,1,none⟩=some (.slice pp f cp)) (af:-9223372036854775808<=D/\D<=9223372036854775807) (V:Hid (H.length=f)) (aa:f<=5000) (HP:Hid ((Qp 6).In d G H [.slice pp f cp])) (ac:Hid (∀ (i:Nat) (x:TT 6) (cs:List Value){w:World},H[i]?=some x->(Lay.tt 6).In w G x cs->Below d.heap.size d w->(Lay.tt 6).In d G x cs)){Q:Exit->Act->World->Prop}
 (a:Act) (m:Nat) (hn:a.tmps.size=m) (ab:47<=m) (h9:a.tmps.getD 9 undef=Pv M9 0) (ae:a.tmps.getD 10 undef=Pv r 0) (ak:a.tmps.getD 11 undef=Pv F 0)
 (hend:∀ ops vs w',vs 46=.agg #[Iv 0,Iv 0]->(fun v w=>∃ B hh a c ds,v=Pv B 0/\d.heap.size<=B/\w.heap[B]?=some (.cells #[.slice pm L cm,Pv hh 0,Iv fr,.slice p1 P d1,.slice N M S,.slice I U R,.slice a f c] 279 (0,0))/\d.heap.size<=hh/\Qo w hh (QbW D)/\w.ownsRow 0 105 3 (.slice a f c) f ds/\(∀ g,(Value.slice a f c).ownBlock=some g->d.heap.size<=g)/\(∀ i x,H[i]?=some x->(Lay.tt 6).In d G x ((ds.drop (i*3)).take 3))) (vs 6) w'->Below d.heap.size d w'->wpList prog ops Q (Qam 12 ((Tryz.f163.body.bind (Qi 9)).getD .skip)) (QM a vs [36,37,38,39,40,41,42,43,44,45,46,6]) w') :
 Code.wp prog ((Tryz.f163.body.bind (Qi 9)).getD .skip) Q a d:=by
 conv=>arg 2;whnf
 refine Qg 12 (QnN d M9 r F L cm P d1 M S U R f cp fr D pm p1 N I pp H G) (fun w=>Below d.heap.size d w) (fun w w'=>Below w.heap.size w w') (outs:=[9,10,11]) (gs:=[]) (bs:=[true,true,true,true,true,true,true,true,true,true,true,true]) (by kernel_rfl) (n:=47) hn ab (by kernel_rfl) (by kernel_rfl) ?hR ?hG (QI Zr 1) ⟨h9,ae,ak,Y⟩ ?hA ?hend
 case hR =>
  intro t v w w' C h;unfold QnN at h |-;split at h
  ·rename_i p u
   simp only[List.lookup_cons,List.lookup_nil] at u
   split at u
   ·cases u;exact(by obtain⟨hh,e,o,q⟩:=h;exact⟨hh,e,o,q.below C⟩)
   ·split at u
    ·cases u;exact(by obtain⟨a,c,ds,e,o,q,s⟩:=h;exact⟨a,c,ds,e,Qad o C,q,s⟩)
    ·split at u
     ·cases u;exact(by obtain⟨hh,a,c,ds,e,o,q,s,J,W⟩:=h;exact⟨hh,a,c,ds,e,o,q.below C,Qad s C,J,W⟩)
     ·split at u
      ·cases u;exact(by obtain⟨B,hh,a,c,ds,e,E,z,o,q,s,J,W⟩:=h;exact⟨B,hh,a,c,ds,e,E,(C.block B (XC z)).trans z,o,q.below C,Qad s C,J,W⟩)
      ·split at u
       ·cases u;exact(by obtain⟨B,hh,a,c,ds,e,E,z,o,q,s,J,W⟩:=h;exact⟨B,hh,a,c,ds,e,E,(C.block B (XC z)).trans z,o,q.below C,Qad s C,J,W⟩)
       ·cases u
  ·exact h
 case hG=>exact Y
 case hend=>exact fun ops vs w' b k=>hend ops vs w' (k 46 (by kernel_rfl)) (k 6 (by kernel_rfl)) b
 case hA =>
  iterate 3
   refine⟨fun a w b k K l=>?_,?_⟩
   ·obtain⟨j,-⟩:=k
    conv at j=>whnf;rhs;whnf
    have u0:=Qk m0 b;have u1:=Qk y0 b;go_simp;exact l _ _ Zr b Z
  refine⟨fun a w b k K l=>?_,?_⟩
  ·obtain⟨j,-⟩:=k
   conv at j=>whnf;rhs;whnf
   go_simp;refine Xm (QkR _ D af) ?_;rintro r7 w8 ⟨rfl,ad,A⟩;go_simp;exact l _ _ A (b.trans (A.mono b.size)) ⟨_,Z,b.size,ad⟩
  iterate 3
   refine⟨fun a w b k K l=>?_,?_⟩
   ·obtain⟨j,-⟩:=k
    conv at j=>whnf;rhs;whnf
    have u0:=Qk f0 b;have u1:=Qk f1 b;have u2:=Qk f2 b;have u3:=Qk f3 b;have u4:=Qk y1 b;go_simp;exact l _ _ Zr b Z
  refine⟨fun a w b k K l=>?_,?_⟩
  ·obtain⟨j,-⟩:=k
   conv at j=>whnf;rhs;whnf
   go_simp;refine Xm (Qhi V.out aa (Ya HP.out b)) ?_;rintro r7 w8 ⟨v8,ai,rfl,o1,o2,o3,A⟩;rw[V.out] at o1
   obtain⟨a8,c8,rfl⟩:=QiW o1
   go_simp;exact l _ _ A (b.trans (A.mono b.size)) ⟨a8,c8,ai,Z,o1,fun g hg=>Zt b.size (o2 g hg),fun i x hx=>ac.out i x _ hx (o3 i x hx) b⟩
  refine⟨fun a w b k K l=>?_,?_⟩
  ·obtain⟨j,k1,k2,X,-⟩:=k
   conv at j=>whnf;rhs;whnf
   have k1:(fun v w=>∃ hh,v=Pv hh 0/\d.heap.size<=hh/\Qo w hh (QbW D)) (a.tmps.getD 39 undef) w:=k1;generalize aj:a.tmps.getD 39 undef=an at k1;conv at k2=>whnf;rhs;whnf
   have X:(fun v w=>∃ a c ds,v=.slice a f c/\w.ownsRow 0 105 3 (.slice a f c) f ds/\(∀ g,(Value.slice a f c).ownBlock=some g->d.heap.size<=g)/\(∀ i x,H[i]?=some x->(Lay.tt 6).In d G x ((ds.drop (i*3)).take 3))) (a.tmps.getD 43 undef) w:=X;generalize al:a.tmps.getD 43 undef=am at X;obtain⟨hh,rfl,E,z⟩:=k1
   obtain⟨O,T,y,rfl,o,q,s⟩:=X
   have j0:a.tmps[36]?.getD undef=.agg #[.slice pm L cm]:=by simpa using j
   have j1:a.tmps[39]?.getD undef=Pv hh 0:=by simpa using aj
   have j2:a.tmps[40]?.getD undef=.agg #[Iv fr,.slice p1 P d1,.slice N M S,.slice I U R]:=by simpa using k2
   have j3:a.tmps[43]?.getD undef=.slice O f T:=by simpa using al
   go_simp;exact l _ _ Zr b ⟨hh,O,T,y,Z,E,z,o,q,s⟩
  refine⟨fun a w b k K l=>?_,?_⟩
  ·obtain⟨j,-⟩:=k
   have j:(fun v w=>∃ hh a c ds,v=.agg #[.slice pm L cm,Pv hh 0,Iv fr,.slice p1 P d1,.slice N M S,.slice I U R,.slice a f c]/\d.heap.size<=hh/\Qo w hh (QbW D)/\w.ownsRow 0 105 3 (.slice a f c) f ds/\(∀ g,(Value.slice a f c).ownBlock=some g->d.heap.size<=g)/\(∀ i x,H[i]?=some x->(Lay.tt 6).In d G x ((ds.drop (i*3)).take 3))) (a.tmps.getD 44 undef) w:=j;generalize ag:a.tmps.getD 44 undef=ah at j;obtain⟨hh,O,T,y,rfl,E,z,o,q,s⟩:=j
   go_simp;have A:=Zd w (.cells #[.slice pm L cm,Pv hh 0,Iv fr,.slice p1 P d1,.slice N M S,.slice I U R,.slice O f T] 279);exact l _ _ A (b.trans (A.mono b.size)) ⟨w.heap.size,hh,O,T,y,Z,b.size,Qe _ _ _,E,z.below A,Qad o A,q,s⟩
  refine⟨fun a w b k K l=>?_,?_⟩
  ·clear k;go_simp;exact l _ _ Zr b Z
  refine⟨fun a w b k K l=>?_,?_⟩
  ·obtain⟨j,-⟩:=k
   have j:(fun v w=>∃ B hh a c ds,v=Pv B 0/\d.heap.size<=B/\w.heap[B]?=some (.cells #[.slice pm L cm,Pv hh 0,Iv fr,.slice p1 P d1,.slice N M S,.slice I U R,.slice a f c] 279 (0,0))/\d.heap.size<=hh/\Qo w hh (QbW D)/\w.ownsRow 0 105 3 (.slice a f c) f ds/\(∀ g,(Value.slice a f c).ownBlock=some g->d.heap.size<=g)/\(∀ i x,H[i]?=some x->(Lay.tt 6).In d G x ((ds.drop (i*3)).take 3))) (a.tmps.getD 45 undef) w:=j;generalize ag:a.tmps.getD 45 undef=ah at j;obtain⟨B,hh,O,T,y,rfl,E,z,h0,o,q,s,J⟩:=j
   go_simp;exact l _ _ Zr b ⟨B,hh,O,T,y,Z,E,z,h0,o,q,s,J⟩
  trivial
def QmM (w:World) (m:List (MFunc 6)) (f b:Int) (e:Ending) (w':World):Prop :=
 Below w.heap.size w w'/\(((modFault m).1≠0/\e=.returned (.tuple #[.pointer none,QG (modFault m)])) \/
  ((modFault m).1=0/\Qgv m f b=false/\e=.returned (.tuple #[.pointer none,.agg #[Iv 1,Iv (-1)]])) \/
  ((modFault m).1=0/\Qgv m f b=true/\∃ (i j:Nat) (fn:MFunc 6) (g:MBlock 6) (B:Nat) (O A:Nat->Prop),f=(i:Int)/\b=(j:Int)/\m[i]?=some fn/\fn.blocks[j]?=some g/\e=.returned (.tuple #[Pv B 0,.agg #[Iv 0,Iv 0]])/\SAt w' B O A (JSt.start m fn g)/\∀ k,A k->w.heap.size<=k/\k<w'.heap.size))
theorem Qkz {m:List (MFunc 6)}(f b:Int) (bh:¬ Qm m) (hm:(QaN 6).In w All m [.slice p m.length c]) :
 Calls prog 163 #[.agg #[.slice p m.length c],Iv f,Iv b] w fun e w'=>QmM w m f b e w':=by
 have ar:Qbf m:=ZD bh;have a7:=Qa ar;have b1:=Zd w (.cells #[.slice p m.length c] 24);have b2:=Zd (w.alloc (.cells #[.slice p m.length c] 24)) (.cells #[Iv 0,Iv 0] 32);have bb:=b1.trans (b2.mono b1.size);have HB:=Qa bb;have hX:Blk ((w.alloc (.cells #[.slice p m.length c] 24)).alloc (.cells #[Iv 0,Iv 0] 32)) w.heap.size #[.slice p m.length c] 24:=(Blk.new _ _ _:Blk (w.alloc (.cells #[.slice p m.length c] 24)) w.heap.size _ _).below b2
 have hR:Blk ((w.alloc (.cells #[.slice p m.length c] 24)).alloc (.cells #[Iv 0,Iv 0] 32)) (w.heap.size+1) #[Iv 0,Iv 0] 32:=by
  have:=Blk.new (w.alloc (.cells #[.slice p m.length c] 24)) #[Iv 0,Iv 0] 32
  simpa using this
 have HX:=Qa hX;have HR:=Qa hR;have HM:=Qa hm;have am:Hid ((QaN 6).In _ All m [.slice p m.length c]):=Ya hm bb;have ck:m.length<=100000:=ar.1;clear hX hR b1 b2 bb hm ar bh;go_enter func163,ntmps163
 go_upto_region 1 with fail
 generalize (w.alloc (.cells #[.slice p m.length c] 24)).alloc (.cells #[Iv 0,Iv 0] 32)=w1 at HB HX HR am |-;obtain⟨X,hX⟩:∃ X,X=w.heap.size:=⟨_,Yz⟩
 obtain⟨R,hR⟩:∃ R,R=X+1:=⟨_,Yz⟩
 rw[<-hX] at HX HR |-
 rw[<-hR] at HR |-
 have c3:=Qa hX;have H:Hid (w.heap.size<=R):=by show _<=_;omega
 have c5:¬ X=R:=by omega
 clear hX hR;have x0:=Qb HX.out 0 _ Yz;have CC:=Qa (Qb9 am.out a7.out);unfold Rd at CC;go_wp2_with fail
 refine CC.out.mono ?_;rintro e2 w2 ⟨rfl,b2⟩;have ao:=Qa (HB.out.trans (b2.mono HB.out.size));have bp:=Qa (HX.out.below b2);have al:=Qa (HR.out.below b2);clear b2 CC x0 HX HR HB am;have b3:=Zd w2 (.cells #[Iv (modFault m).1,Iv (modFault m).2] 32);have J:=Qa (ao.out.trans (b3.mono ao.out.size));have ad:=Qa (bp.out.below b3);have t:=Qa (al.out.below b3);have bo:=Blk.new w2 #[Iv (modFault m).1,Iv (modFault m).2] 32;have y:=Qa bo;have cr:¬ w2.heap.size=R:=by have:=al.out.lt;omega
 clear b3 bo ao bp al;go_upto_region 2 with fail
 generalize w2.alloc (.cells #[Iv (modFault m).1,Iv (modFault m).2] 32)=w3 at J ad t y |-;generalize w2.heap.size=F8 at y cr |-;obtain⟨L,a0,ay⟩:∃ L a0,modFault m=(L,a0):=⟨_,_,Yz⟩
 rw[ay] at y |-
 have ak:=Qa ay;clear ay;simp only at y |-
 have y0:=Qb y.out 0 _ Yz;have y1:=Qb y.out 1 _ Yz;by_cases ac:L=0
 rotate_left
 ·have cy:(L != 0)=true:=by simpa using ac
  have r0:=Qb t.out 0 _ Yz;have r1:=Qb t.out 1 _ Yz;have z0:=Qj t.out 0;have z1:=Qj t.out 1;have ct:=Qa ac;clear ac;go_upto_region 3 with fail
  go_region
  all_goals
   have K:Blk ((w3.setCell ⟨R,0,none⟩ (Iv L)).setCell ⟨R,1,none⟩ (Iv a0)).drew R #[Iv L,Iv a0] 32:=by
    have h9:Blk ((w3.setCell ⟨R,0,none⟩ (Iv L)).setCell ⟨R,1,none⟩ (Iv a0)) R #[Iv L,Iv a0] 32:=by
     have:=Qh (Qh t.out 0 (Iv L)) 1 (Iv a0)
     simpa using this
    exact h9
   have D3:Below w.heap.size w ((w3.setCell ⟨R,0,none⟩ (Iv L)).setCell ⟨R,1,none⟩ (Iv a0)).drew:=Qb2 ((J.out.setCell (p:=⟨R,0,none⟩) H.out _).setCell (p:=⟨R,1,none⟩) H.out _);clear y0 y1 r0 r1 z0 z1;generalize ((w3.setCell ⟨R,0,none⟩ (Iv L)).setCell ⟨R,1,none⟩ (Iv a0)).drew=w9 at K D3 |-;have q0:=Qb K 0 _ Yz;have q1:=Qb K 1 _ Yz;go_wp2
   exact Xy (v:=.tuple #[.pointer none,.agg #[Iv L,Iv a0]]) (by simp[results,results163,go_sem,q0,q1]) Yz ⟨D3,.inl ⟨by rw[ak.out];exact ct.out,by rw[ak.out]⟩⟩
 subst ac;have x3:=Qb ad.out 0 _ Yz;have CH:=Qa (Qkn f b ck (Ya HM.out J.out));have HZ:Hid ((modFault m).1=0):=by show _=_;rw[ak.out]
 clear y1;go_wp2_with fail
 refine CH.out.mono ?_;rintro e4 w4 ⟨rfl,b4⟩;have S:=Qa (J.out.trans (b4.mono J.out.size));have bq:=Qa (ad.out.below b4);have z:=Qa (t.out.below b4);clear b4 CH x3 y0 ad t J y
 cases hhb:Qgv m f b with
 | false =>
   have r0:=Qb z.out 0 _ Yz;have r1:=Qb z.out 1 _ Yz;have z0:=Qj z.out 0;have z1:=Qj z.out 1;have az:=Qa hhb;clear hhb;go_wp2_with fail
   have K:Blk ((w4.setCell ⟨R,0,none⟩ (Iv 1)).setCell ⟨R,1,none⟩ (Iv (-1))) R #[Iv 1,Iv (-1)] 32:=by
    have:=Qh (Qh z.out 0 (Iv 1)) 1 (Iv (-1))
    simpa using this
   have D3:Below w.heap.size w ((w4.setCell ⟨R,0,none⟩ (Iv 1)).setCell ⟨R,1,none⟩ (Iv (-1))):=(S.out.setCell (p:=⟨R,0,none⟩) H.out _).setCell (p:=⟨R,1,none⟩) H.out _;clear r0 r1 z0 z1;generalize (w4.setCell ⟨R,0,none⟩ (Iv 1)).setCell ⟨R,1,none⟩ (Iv (-1))=w9 at K D3 |-;have q0:=Qb K 0 _ Yz;have q1:=Qb K 1 _ Yz;exact Xy (v:=.tuple #[.pointer none,.agg #[Iv 1,Iv (-1)]]) (by simp[results,results163,go_sem,q0,q1]) Yz ⟨D3,.inr (.inl ⟨HZ.out,az.out,Yz⟩)⟩
 | true =>
   obtain⟨i,j,a,g,rfl,rfl,T,U⟩:=Qjr hhb
   have az:=Qa hhb;have x4:=Qb bq.out 0 _ Yz;have CO:=Qa (Qgg m p c w4 (Ya HM.out S.out) a7.out);have c8:i<m.length:=(Zi T).1;have a2:(i:Int)<m.length:=by omega
   have cz:j<a.blocks.length:=(Zi U).1;have bu:(j:Int)<a.blocks.length:=by omega
   clear hhb;go_wp2_with fail
   refine CO.out.mono ?_;rintro e5 l ⟨v5,rfl,⟨pm,M,rfl,O⟩,b5⟩;have bw:=Qa (S.out.trans (b5.mono S.out.size));have bd:=Qa (z.out.below b5);have ag:=Qa O;have c7:=bd.out.lt;clear b5 CO x4 bq z S;obtain⟨s,u,ds,e1,e2,e3,W,aq⟩:=Yf O T
   subst e1;obtain⟨p1,d1,p2,d2,p3,d3,rfl,cg,cv,a4,co⟩:=Qas aq
   obtain⟨V,P,pp,cp,es,rfl,E,bv,aj,ae⟩:=Qbo a4 U
   have v0:l.cell? ⟨s,u+i*4,none⟩=some (Iv a.regs):=W 0 (by decide);have v1:l.cell? ⟨s,u+i*4+1,none⟩=some (.slice p1 a.params.length d1):=W 1 (by decide);have v2:l.cell? ⟨s,u+i*4+2,none⟩=some (.slice p2 a.results.length d2):=W 2 (by decide);have v3:l.cell? ⟨s,u+i*4+3,none⟩=some (.slice (some ⟨V,P,none⟩) a.blocks.length d3):=W 3 (by decide);have cd:Hid ((ZR 6).In l (Qcv w4.heap.size) a [Iv a.regs,.slice p1 a.params.length d1,.slice p2 a.results.length d2,.slice (some ⟨V,P,none⟩) a.blocks.length d3]):=aq;have cn:Hid ((Qp 6).In l (Qcv w4.heap.size) g.params [.slice pp g.params.length cp]):=aj;have cf:=Qa E;have ah:=Qa ae;have C:(Value.int .i64 g.regs::Value.slice pp g.params.length cp::es).length=12:=by simp[bv]
   have b0:=Zo HZ.out;have ax:=b0.2 a (Zm T);have bj:=ax.blocks g (Zm U);have an:=Qa (Xh ax bj);have a8:=Qa (Xh T U);have bn:s<l.heap.size:=Xi l ⟨s,u+i*4,none⟩ v0;clear W aq a4 E aj ae O cg cv co e2 e3 bv b0 ax bj T U;have b6:=Zd l (.cells #[.slice (some ⟨s,u,none⟩) m.length M] 24);have b7:=Zd (l.alloc (.cells #[.slice (some ⟨s,u,none⟩) m.length M] 24)) (.cells #[Iv a.regs,.slice p1 a.params.length d1,.slice p2 a.results.length d2,.slice (some ⟨V,P,none⟩) a.blocks.length d3] 89);have a9:=b6.trans (b7.mono b6.size);have A:=Qa a9;have ba:Blk ((l.alloc (.cells #[.slice (some ⟨s,u,none⟩) m.length M] 24)).alloc (.cells #[Iv a.regs,.slice p1 a.params.length d1,.slice p2 a.results.length d2,.slice (some ⟨V,P,none⟩) a.blocks.length d3] 89)) l.heap.size #[.slice (some ⟨s,u,none⟩) m.length M] 24:=(Blk.new _ _ _:Blk (l.alloc (.cells #[.slice (some ⟨s,u,none⟩) m.length M] 24)) l.heap.size _ _).below b7
   have bs:Blk ((l.alloc (.cells #[.slice (some ⟨s,u,none⟩) m.length M] 24)).alloc (.cells #[Iv a.regs,.slice p1 a.params.length d1,.slice p2 a.results.length d2,.slice (some ⟨V,P,none⟩) a.blocks.length d3] 89)) (l.heap.size+1) #[Iv a.regs,.slice p1 a.params.length d1,.slice p2 a.results.length d2,.slice (some ⟨V,P,none⟩) a.blocks.length d3] 89:=by
    have:=Blk.new (l.alloc (.cells #[.slice (some ⟨s,u,none⟩) m.length M] 24)) #[Iv a.regs,.slice p1 a.params.length d1,.slice p2 a.results.length d2,.slice (some ⟨V,P,none⟩) a.blocks.length d3] 89
    simpa using this
   have F:=Qa ba;have d:=Qa bs;clear b6 b7 a9 ba bs;generalize cb:m.length=nm at F d A a2 ag;have b9:=Qa cb;generalize ce:a.blocks.length=nb at v3 d A F bu;have cw:=Qa ce;go_upto_region 8 with fail
   generalize (l.alloc (.cells #[.slice (some ⟨s,u,none⟩) nm M] 24)).alloc (.cells #[Iv a.regs,.slice p1 a.params.length d1,.slice p2 a.results.length d2,.slice (some ⟨V,P,none⟩) nb d3] 89)=w6 at A F d |-;obtain⟨M9,a5⟩:∃ M9,M9=l.heap.size:=⟨_,Yz⟩
   obtain⟨be,ai⟩:∃ be,be=M9+1:=⟨_,Yz⟩
   rw[<-a5] at F d |-
   rw[<-ai] at d |-
   clear a5 ai v0 v1 v2 v3 bn;have f0:=Qb d.out 0 _ Yz;have f1:=Qb d.out 1 _ Yz;have f2:=Qb d.out 2 _ Yz;have f3:=Qb d.out 3 _ Yz;have m0:=Qb F.out 0 _ Yz;have N:=Qa (Qae cf.out A.out);generalize au:(Value.int .i64 g.regs::Value.slice pp g.params.length cp::es)=cs at N C;have bg:=Qa au;obtain⟨a3,bt,bz⟩:=Qnc (w1:=w6) C
   have ab:=Qa a3;have o:=Qa bt;have TH:=Qa bz;have TS:Hid ((prog.info? 86).map (·.size)=some cs.length):=by show _=_;rw[C];exact sizeBk
   have bk:Hid ((prog.info? 86).map (·.size)=some cs.toArray.size):=by show _=_;rw[List.size_toArray];exact TS.out
   have TO:Hid (cs.toArray.all (·.oneCell')=true):=by
    refine all_oneCell_toArray fun v hv=>?_;rw[<-au] at hv
    simp only[List.mem_cons] at hv
    rcases hv with rfl | rfl | hv
    ·rfl
    ·rfl
    ·exact ah.out v hv
   clear a3 bt bz au C;go_upto_region 9 with (first | (refine wpList_load_mid Yz 86 (.tmp 34) Yz V (P+j*12) Yz cs _ N.out underlying86 Yz TS.out ?_) | (refine wpList_store_mid Yz 86 (.tmp 11) (.tmp 35) Yz w6.heap.size 0 cs.toArray Yz Yz TH.out bk.out TO.out ?_))
   clear TH TS bk TO N;generalize (w6.alloc (.cells #[Iv 0,Nv,Nv,Iv 0,Iv 0,Iv 0,Nv,Nv,Iv 0,Nv,Nv,Nv] 86)).setCells w6.heap.size 0 cs.toArray.toList=D at ab o |-;generalize w6.heap.size=cu at ab |-;have Q:Hid (Blk D cu (Value.int .i64 g.regs::Value.slice pp g.params.length cp::es).toArray 86):=by rw[bg.out];exact ab.out
   have y0:=Qb Q.out 0 _ Yz;have y1:=Qb Q.out 1 _ Yz;have f0:=Qk f0 o.out;have f1:=Qk f1 o.out;have f2:=Qk f2 o.out;have f3:=Qk f3 o.out;have m0:=Qk m0 o.out;have I:=Qa (A.out.trans (o.out.mono A.out.size));have ap:=Qa (bw.out.trans (I.out.mono bw.out.size));have bm:=Qa (bd.out.below I.out);have ci:Hid ((Qp 6).In D (fun k=>k<D.heap.size) g.params [.slice pp g.params.length cp]):=Yc (Ya cn.out I.out) (fun k _ hl=>hl);have cl:Hid (∀ (i:Nat) (x:TT 6) (cs:List Value) {w:World},g.params[i]?=some x->(Lay.tt 6).In w (fun k=>k<D.heap.size) x cs->Below D.heap.size D w->(Lay.tt 6).In D (fun k=>k<D.heap.size) x cs):=fun i x cs w _ h hb=>(Lay.tt 6).keep (fun k n _=>(hb.block k n).symm) (fun _ h _=>h) h;have cq:-9223372036854775808<=g.regs/\g.regs<=9223372036854775807:=by have h1:=an.out.2.regs;have h2:=an.out.1.regs;omega
   have cc:g.params.length<=5000:=by have:=an.out.2.params.1;omega
   clear ab Q bg A o F d ah;refine jn9 m0 f0 f1 f2 f3 y0 y1 cq (show Hid (g.params.length=g.params.length) from Yz) cc ci cl _ _ Yz (Xg (by kernel_rfl)) Yz Yz Yz ?_;rintro ch vs r af ⟨B,hh,aa,ca,ds,bx,br,a1,bc,av,aw,bi,bl⟩ b8;show wpList _ ch _ [_] (QM _ vs [36,37,38,39,40,41,42,43,44,45,46,6]) r;simp only[QM,Act.put,List.setIfInBounds_toArray,List.set_cons_zero,List.set_cons_succ,af,bx]
   have G:=Qa (bm.out.below b8);have cj:=Qa (ap.out.trans (b8.mono ap.out.size));have c2:=bm.out.lt;have Z:Hid (∀ w9,Below D.heap.size r w9\/(∀ k,k≠R->w9.heap[k]?=r.heap[k]?)->True):=fun _ _=>trivial
   have ST:Hid (SAt r B (fun k=>D.heap.size<=k/\k<r.heap.size) (fun k=>D.heap.size<=k/\k<r.heap.size) (JSt.start m a g)):=by
    have bf:=I.out.trans (b8.mono I.out.size);have c6:=I.out.size;have c4:=b8.size;refine⟨some ⟨s,u,none⟩,M,hh,p1,d1,p2,d2,some ⟨V,P,none⟩,d3,.slice aa g.params.length ca,?_,?_,?_,⟨av,bc,av.lt⟩,?_,⟨br,XC a1⟩,fun k n=>n⟩
    ·rw[a1]
     show _=some (Obj.cells #[.slice (some ⟨s,u,none⟩) m.length M,_,_,_,_,.slice (some ⟨V,P,none⟩) a.blocks.length d3,_] _ _);rw[b9.out,cw.out];rfl
    ·show (QaN 6).In r _ m [.slice (some ⟨s,u,none⟩) m.length M];have h0:=ag.out;rw[<-b9.out] at h0
     exact(QaN 6).keep (fun k _ hl=>bf.block k hl) (fun k _ hl e=>by omega) h0
    ·exact(ZR 6).keep (fun k _ hl=>bf.block k hl) (fun k _ hl e=>by omega) cd.out
    ·refine⟨ds,aw,fun k n=>⟨bi k n,?_⟩,fun i x hx=>(Lay.tt 6).keep (fun k n _=>b8.block k n) (fun k n _ e=>by omega) (bl i x hx)⟩
     obtain⟨-,q⟩:=id aw
     rcases q with ⟨e,-⟩|⟨g',cx,c1,e,-,hq,-⟩
     ·rw[e] at n;simp[Value.ownBlock] at n
     ·rw[e] at n;simp[Value.ownBlock] at n;subst n;exact XC hq
   have r0:=Qb G.out 0 _ Yz;have r1:=Qb G.out 1 _ Yz;have z0:=Qj G.out 0;have z1:=Qj G.out 1;clear af bx br a1 bc av aw bi bl b8 f0 f1 f2 f3 y0 y1 m0 Z;go_wp2_with fail
   have K:Blk ((r.setCell ⟨R,0,none⟩ (Iv 0)).setCell ⟨R,1,none⟩ (Iv 0)) R #[Iv 0,Iv 0] 32:=by
    have:=Qh (Qh G.out 0 (Iv 0)) 1 (Iv 0)
    simpa using this
   have D3:Below w.heap.size w ((r.setCell ⟨R,0,none⟩ (Iv 0)).setCell ⟨R,1,none⟩ (Iv 0)):=(cj.out.setCell (p:=⟨R,0,none⟩) H.out _).setCell (p:=⟨R,1,none⟩) H.out _
   have D4:SAt ((r.setCell ⟨R,0,none⟩ (Iv 0)).setCell ⟨R,1,none⟩ (Iv 0)) B (fun k=>D.heap.size<=k/\k<r.heap.size) (fun k=>D.heap.size<=k/\k<r.heap.size) (JSt.start m a g):=by
    have a6:∀ k,((r.setCell ⟨R,0,none⟩ (Iv 0)).setCell ⟨R,1,none⟩ (Iv 0)).heap[k]?=r.heap[k]?:=fun k=>by
     by_cases n:k=R
     ·subst n;exact K.trans G.out.symm
     ·rw[Xd _ _ _ _ n,Xd _ _ _ _ n]
    exact ST.out.keep (fun k _ _=>a6 k) (fun _ h _=>h) (fun _ h _=>h) (fun _ h=>h)
   have D5:∀ k,(D.heap.size<=k/\k<r.heap.size)->w.heap.size<=k/\k<((r.setCell ⟨R,0,none⟩ (Iv 0)).setCell ⟨R,1,none⟩ (Iv 0)).heap.size:=fun k n=>by
    have:=ap.out.size
    simp
    omega
   clear r0 r1 z0 z1;generalize (r.setCell ⟨R,0,none⟩ (Iv 0)).setCell ⟨R,1,none⟩ (Iv 0)=w9 at K D3 D4 D5 |-;have q0:=Qb K 0 _ Yz;have q1:=Qb K 1 _ Yz;exact Xy (v:=.tuple #[Pv B 0,.agg #[Iv 0,Iv 0]]) (by simp[results,results163,go_sem,q0,q1]) Yz ⟨D3,.inr (.inr ⟨HZ.out,az.out,i,j,a,g,B,_,_,Yz,Yz,a8.out.1,a8.out.2,Yz,D4,D5⟩)⟩
def SOk (w:World) (b B0:Nat) (s:JSt):Prop:=∃ O A,SAt w b O A s/\(∀ k,A k->B0<=k/\k<w.heap.size)/\JOk s
section
variable {w w':World}{b B0:Nat}{s:JSt}
theorem SOk.below (h:SOk w b B0 s) (k:Below w.heap.size w w'):SOk w' b B0 s:=by
 obtain⟨O,A,f,a,e⟩:=h
 exact⟨O,A,f.below k,fun c d=>⟨(a c d).1,Zl (a c d).2 k.size⟩,e⟩
theorem STo.ok {A:Nat->Prop}{d:JSt}(h:STo w w' b O A d) (f:∀ k,A k->B0<=k/\k<w.heap.size) (g:∀ k,O k->A k) (m:B0<=w.heap.size) (j:JOk d):SOk w' b B0 d/\Below B0 w w':=by
 obtain⟨N,l,i,a⟩:=h
 have e:=a.size;refine⟨⟨_,_,i,fun k c=>?_,j⟩,⟨a.os,a.tape,a.output,a.size,fun k c=>a.block k (by omega) (fun e=>by have:=f k (g k e);omega)⟩⟩
 rcases c with c | c
 ·have:=f k c;omega
 ·have:=l k c;omega
theorem SOk.ins (h:SOk w b B0 s) (l:B0<=w.heap.size){x:Qt}(c:intsL.In w Q x.regs [.slice rg x.regs.length rc]) (a:intsL.In w Q x.args [.slice ag x.args.length ac]) (f:x.regs.length<=rc) (d:ZB x) :
 Calls prog 164 #[Pv b 0,Qd6 x rg ag rc ac] w fun e w'=>e=.returned (Iv (s.code x))/\SOk w' b B0 (s.ins x)/\Below B0 w w':=by
 obtain⟨O,A,j,g,i⟩:=h
 refine(QjT (fun k n=>(g k n).2) i j c a f d).mono ?_
 rintro e w' ⟨rfl,m⟩;exact⟨Z,m.ok g j.sub l (i.ins x)⟩
theorem SOk.end_ (h:SOk w b B0 s){x:ZA}{e:EP}(d:Qdl w Q x e) (c:-9223372036854775808<=x.a/\x.a<=9223372036854775807) (i:x.yes.regs.length<2305843009213693952/\x.yes.args.length<2305843009213693952/\x.no.regs.length<2305843009213693952/\x.no.args.length<2305843009213693952) :
 Calls prog 165 #[Pv b 0,.agg (QbV x e)] w fun r w'=>r=.returned (Iv (s.fin x))/\Below w.heap.size w w':=by
 obtain⟨O,A,j,f,g⟩:=h
 exact Qke (fun k l=>(f k l).2) g j d c i
end
def Qki (w w':World) (e:Ending):Prop:=∃ G1 G2,e=.returned (.agg #[.slice (some ⟨G2,0,none⟩) 1 1])/\Blk w' G1 #[Iv 0,Nv,Nv,Iv 3,Iv 0,Iv 0,Nv,Nv,Iv 0,Nv,Nv,Nv] 86/\Blk w' G2 #[Iv 0,Nv,Nv,.slice (some ⟨G1,0,none⟩) 1 1] 89/\w.heap.size<=G1/\w.heap.size<=G2/\G1≠G2/\Below w.heap.size w w'
theorem QiJ (w:World):Calls prog 39 #[] w fun e w'=>Qki w w' e:=by
 have c:=Qf ((Bxs.start w).new #[Nv] 24);go_enter func39,ntmps39
 go_upto_region 1 with fail
 generalize w.alloc (.cells #[Nv] 24)=b at c |-;generalize w.heap.size=R at c |-;have g:=c.out.new #[Iv 0,Nv,Nv,Iv 3,Iv 0,Iv 0,Nv,Nv,Iv 0,Nv,Nv,Nv] 86;have d:=g.new #[Iv 0,Nv,Nv,.slice (some ⟨b.heap.size,0,none⟩) 1 1] 89;rw[World.size_alloc] at d
 have k:=d.cell (a:=[_,_]) 0 _ Z;have j:=d.free (a:=[_,_]) 0;have f:=Qf (d.set (a:=[_,_]) 0 (.slice (some ⟨b.heap.size+1,0,none⟩) 1 1));clear g d;go_wp2
 have i:=f.out.cell (a:=[_,_]) 0 _ Z;have h:b.heap.size≠b.heap.size+1:=by omega
 exact Xy (v:=.agg #[.slice (some ⟨b.heap.size+1,0,none⟩) 1 1]) (by simp[results,results39,go_sem,i]) Z ⟨_,_,Z,f.out.at (a:=[_]),f.out.at (a:=[]),c.out.bel.size,Nat.le_succ_of_le c.out.bel.size,h,f.out.bel⟩
theorem QbD {α:Type}{A:Lay α}{c:Array Value}{x:α}(h:Blk w G c t) (f:c.toList=cs) (d:A.In w All x cs):A.list.In w All [x] [.slice (some ⟨G,0,none⟩) 1 1]:=by
 refine⟨some ⟨G,0,none⟩,1,Z,fun i y b=>?_⟩
 have g:i=0:=by
  have:=(Zi b).1
  simp at this;exact this
 subst g;simp at b
 subst b;refine⟨G,0,cs,Z,Y,h.lt,fun j k=>?_,d⟩
 have e:=A.len d;have a:j<c.size:=by rw[<-f] at e;simp at e;omega
 rw[Nat.zero_mul,XK,<-f,Array.getElem?_toList]
 exact(Qb h j c[j] (Xj a)).trans (Xj a).symm
end Go.Proofs.YtjhdpajpibdnaafGreat
