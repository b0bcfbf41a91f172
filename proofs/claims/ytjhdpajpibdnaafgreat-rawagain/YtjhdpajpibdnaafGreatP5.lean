import Derived.Test.YtjhdpajpibdnaafGreatP4
set_option maxHeartbeats 16000000
set_option maxRecDepth 100000
namespace Go.Proofs.YtjhdpajpibdnaafGreat
open Go.ChangeShapes Go.WideShapes Go.ChangeAt Go.RowKit _root_.Go.Proofs.Tryz
set_option linter.unusedSimpArgs false
set_option linter.unusedVariables false
variable {w w' w6 w1 w2:World}{n b c k m rc ac X j B i cm g N d f fi cap bp q R pages id bi cc funcs s ci rl al ca ri vl most cR cA G:Nat}{O Q O':Nat→Prop}{l xs regs inp:List Int}{p a rg ag pm pi pa pR pA ra aa:Option Addr}{t e:TypeId}{v:Value}{P:Program}{L bs:List Bool}{x ya xc xk fr xa xb xn yb:Int}{ds cs:List Value}{ops:Array Oper}
theorem Zf (w:World) (c:Int):Calls prog 268 #[.bool true,Iv c] w fun e w'=>e=.returned (.tuple #[])/\w'=w:=by
 go_enter func268,ntmps268
 go_wp2
 exact Xz (v:=.tuple #[]) (by simp[results,results268,go_sem]) Z ⟨Z,Z⟩
theorem Zj (w:World) (c:Int):Calls prog 268 #[.bool false,Iv c] w fun e w'=>e=.panicked (QeK c)/\w'=w:=by
 go_enter func268,ntmps268
 go_wp2
 exact⟨Z,Z,Z⟩
theorem QbB (w:World) (ok:Bool) (c:Int):Calls prog 268 #[.bool ok,Iv c] w fun e w'=>w'=w/\((ok=true/\e=.returned (.tuple #[]))\/(ok=false/\e=.panicked (QeK c))):=by
 cases ok
 ·exact(Zj w c).mono (fun e w' h=>⟨h.2,.inr ⟨Z,h.1⟩⟩)
 ·exact(Zf w c).mono (fun e w' h=>⟨h.2,.inl ⟨Z,h.1⟩⟩)
def ZG (c:Int) (V:Value->Prop) (e:Ending):Prop:=(c=0/\∃ x,e=.returned x/\V x)\/(c≠0/\e=.panicked (QeK c))
theorem ZG.good {c:Int}{V:Value->Prop}{x:Value}(h:c=0) (a:V x):ZG c V (.returned x):=.inl ⟨h,x,Z,a⟩
theorem ZG.bad {c d:Int}{V:Value->Prop}(h:c=d) (a:d≠0):ZG c V (.panicked (QeK d)):=.inr ⟨by omega,by rw[h]⟩
def QmF (w:World) (A:Nat->Prop) (s:JSt) (a:Int) (x:Value):Prop:=∃ (t:TT 6) (p:Option Addr) (c:Nat),s.at a=some t/\x=Tv t p c/\TIn w (fun g=>¬ A g) t p/\t.ok
def JSt.has (s:JSt) (a:Int):Int:=match s.at a with | none=>1 | some _=>0
theorem Qb7 {w:World}{A:Nat->Prop}{s:JSt}(a:Int) (o:s.L.length<=80) (h:SAt w b O A s) :
 Calls prog 270 #[Pv b 0,Iv a] w fun e w'=>ZG (s.has a) (QmF w' A s a) e/\Below w.heap.size w w':=by
 have F:=Zd w (.cells #[Iv 0,Iv 0,Nv] 105);obtain⟨pm,cm,hh,a1,c1,a2,c2,a3,c3,aL,cL,R⟩:=h.read
 obtain⟨-,-,-,-,-,-,n⟩:=(R.below F).cells
 have C:=Qa R.row;have j:=Qa F;have f:Hid (Blk (w.alloc (.cells #[Iv 0,Iv 0,Nv] 105)) w.heap.size #[Iv 0,Iv 0,Nv] 105):=Blk.new _ _ _;clear R h F;go_enter func270,ntmps270
 go_upto_region 1 with fail
 generalize w.alloc (.cells #[Iv 0,Iv 0,Nv] 105)=G at n C j f |-;by_cases I:0<=a
 rotate_left
 ·have T:decide (a>=0)=false:=by simpa using I
  have E:Hid (s.has a=1):=by show _=_;unfold JSt.has JSt.at;rw[Xs (by omega)]
  generalize s.L.length=N at n o;go_wp2_with fail
  refine(Zj _ 1).mono ?_
  rintro K w' ⟨rfl,k⟩;subst k;exact⟨Z,ZG.bad E.out (by decide),j.out⟩
 obtain⟨i,rfl⟩:=Xc I
 by_cases u:i<s.L.length
 rotate_left
 ·have E:Hid (s.has (i:Int)=1):=by
   show _=_;unfold JSt.has JSt.at;rw[Xr (by omega),XT,Xk (by omega)]
  have y:¬ (i:Int)<s.L.length:=by omega
  generalize s.L.length=N at n y u o;go_wp2_with fail
  refine(Zj _ 1).mono ?_
  rintro K w' ⟨rfl,k⟩;subst k;exact⟨Z,ZG.bad E.out (by decide),j.out⟩
 have d:s.L[i]?=some s.L[i]:=Zg u;generalize s.L[i]=t at d;have q:s.at (i:Int)=some t:=by unfold JSt.at;rw[Xr (by omega)];exact d
 obtain⟨g,p,c,rfl,z,M,J,P,H⟩:=C.out i t d
 have E:Hid (s.has (i:Int)=0):=by show _=_;unfold JSt.has;rw[q]
 have l:=Xi w ⟨g,i*3,none⟩ z;have e0:=Qk z j.out;have e1:=Qk M j.out;have e2:=Qk J j.out;have S:¬ w.heap.size=g:=fun e=>by have:g<w.heap.size:=l;omega
 have D:Hid (TIn w (fun g=>¬ A g) t p/\t.ok):=⟨P,H⟩;have W:=Qa q;have x:(i:Int)<s.L.length:=by omega
 clear z M J P H d q C l;have y0:=Qb f.out 0 _ Z;have y1:=Qb f.out 1 _ Z;have y2:=Qb f.out 2 _ Z;have z0:=Qj f.out 0;have z1:=Qj f.out 1;have z2:=Qj f.out 2;generalize X:s.L.length=N at n u x o;go_wp2_with (go_at_call 268;refine(Zf _ _).mono ?_;rintro K w' ⟨rfl,k⟩;have k:=k.symm;subst k)
 have m:=f.out.set3 (Iv t.kind) (Iv t.r) (.slice p t.len c);have B:Below w.heap.size w (((G.setCell ⟨w.heap.size,0,none⟩ (Iv t.kind)).setCell ⟨w.heap.size,1,none⟩ (Iv t.r)).setCell ⟨w.heap.size,2,none⟩ (.slice p t.len c)):=((j.out.setCell Ze _).setCell Ze _).setCell Ze _;generalize ((G.setCell ⟨w.heap.size,0,none⟩ (Iv t.kind)).setCell ⟨w.heap.size,1,none⟩ (Iv t.r)).setCell ⟨w.heap.size,2,none⟩ (.slice p t.len c)=w9 at m B |-;have U:=Qb m 0 _ Z;have Q:=Qb m 1 _ Z;have V:=Qb m 2 _ Z;exact Xy (v:=Tv t p c) (by simp[results,results270,go_sem,U,Q,V]) Z ⟨ZG.good E.out ⟨t,p,c,W.out,Z,D.out.1.below B,D.out.2⟩,B⟩
theorem QgC {s:JSt}{a b:Int}{c:Bool}(h:s.has a≠0):s.want a b c=s.has a:=by
 unfold JSt.has JSt.want at *
 cases e:s.at a with
 | none=>rfl
 | some t=>rw[e] at h;exact absurd Z h
theorem SAt.more {w:World}{A:Nat->Prop}{s:JSt}(f:∀ k,O k->k<w.heap.size) (h:SAt w b O A s) (k:Below w.heap.size w w'):SAt w' b O (fun k=>A k\/w.heap.size<=k) s :=
 h.keep (fun g c _=>k.block g c) (fun _ h _=>h) (fun k a d e=>by rcases e with e | e;exact a e;omega) (fun k a=>.inl (h.sub k a))
theorem TIn.over {w w9:World}{A:Nat->Prop}{n:Nat}{t:TT n}{p:Option Addr}(h:TIn w2 (fun g=>¬ (A g\/w.heap.size<=g)) t p) (b:Below w.heap.size w w2) (c:Below w.heap.size w w9):TIn w9 (fun g=>¬ (A g\/w.heap.size<=g)) t p :=
 h.keep (fun k a _=>(c.block k (Nat.lt_of_not_le (fun e=>a (.inr e)))).trans (b.block k (Nat.lt_of_not_le (fun e=>a (.inr e)))).symm) (fun _ h _=>h)
theorem TIn.less {w:World}{A:Nat->Prop}{n:Nat}{t:TT n}{p:Option Addr}(h:TIn w2 (fun g=>¬ (A g\/w.heap.size<=g)) t p):TIn w2 (fun g=>¬ A g) t p:=h.mono (fun k a _ e=>a (.inl e))
structure QhC (w wc:World) (R B:Nat) (A:Nat->Prop){n:Nat}(t:TT n) (p:Option Addr) (c:Nat):Prop where
 bel:Below w.heap.size w wc
 res:Blk wc R #[Iv 0,Iv 0,Nv] 105
 box:Blk wc B #[Iv t.kind,Iv t.r,.slice p t.len c] 105
 lay:TIn wc (fun g=>¬ (A g\/w.heap.size<=g)) t p
 farR:w.heap.size<=R
 farB:w.heap.size<=B
 ne:¬ B=R
section
variable {w wc w9:World}{R B:Nat}{A:Nat->Prop}{n:Nat}{t:TT n}{p:Option Addr}{c:Nat}
theorem QhC.below (h:QhC w wc R B A t p c) (k:Below wc.heap.size wc w9):QhC w w9 R B A t p c :=
 ⟨h.bel.trans (k.mono h.bel.size),h.res.below k,h.box.below k,h.lay.below k,h.farR,h.farB,h.ne⟩
theorem QhC.cells (h:QhC w wc R B A t p c):wc.cell? ⟨B,0,none⟩=some (Iv t.kind)/\wc.cell? ⟨B,1,none⟩=some (Iv t.r)/\wc.cell? ⟨B,2,none⟩=some (.slice p t.len c) /\
 wc.cell? ⟨R,0,none⟩=some (Iv 0)/\wc.cell? ⟨R,1,none⟩=some (Iv 0)/\wc.cell? ⟨R,2,none⟩=some (Nv)/\wc.frozen? ⟨R,0,none⟩=false/\wc.frozen? ⟨R,1,none⟩=false/\wc.frozen? ⟨R,2,none⟩=false :=
 ⟨Qb h.box 0 _ Z,Qb h.box 1 _ Z,Qb h.box 2 _ Z,Qb h.res 0 _ Z,Qb h.res 1 _ Z,Qb h.res 2 _ Z,Qj h.res 0,Qj h.res 1,Qj h.res 2⟩
theorem QnA {k r:Int}{q:Option Addr}{l:Nat}(c:Below w.heap.size w wc) (b:Blk wc R #[Iv 0,Iv 0,Nv] 105) (a:w.heap.size<=R) :
 Blk (((wc.setCell ⟨R,0,none⟩ (Iv k)).setCell ⟨R,1,none⟩ (Iv r)).setCell ⟨R,2,none⟩ (.slice q l d)) R #[Iv k,Iv r,.slice q l d] 105/\Below w.heap.size w (((wc.setCell ⟨R,0,none⟩ (Iv k)).setCell ⟨R,1,none⟩ (Iv r)).setCell ⟨R,2,none⟩ (.slice q l d)) :=
 ⟨b.set3 _ _ _,((c.setCell (p:=⟨R,0,none⟩) a _).setCell (p:=⟨R,1,none⟩) a _).setCell (p:=⟨R,2,none⟩) a _⟩
theorem QhC.mk1 (a:Below w.heap.size w wc) (d:Blk wc R #[Iv 0,Iv 0,Nv] 105) (f:w.heap.size<=R) (e:TIn wc (fun g=>¬ (A g\/w.heap.size<=g)) t p) :
 QhC w (wc.alloc (.cells #[Iv t.kind,Iv t.r,.slice p t.len c] 105)) R wc.heap.size A t p c:=by
 have b:=Zd wc (.cells #[Iv t.kind,Iv t.r,.slice p t.len c] 105);have h:=d.lt;exact⟨a.trans (b.mono a.size),d.below b,Blk.new _ _ _,e.alloc _,f,a.size,by omega⟩
end
theorem QhC.told {w wc:World}{R B:Nat}{A:Nat->Prop}{s:JSt}{a:Int}{t:TT 6}{p:Option Addr}{c:Nat}(h:QhC w wc R B A t p c) (g:s.at a=some t) (b:t.ok) :
 ∃ w9,w9=((wc.setCell ⟨R,0,none⟩ (Iv t.kind)).setCell ⟨R,1,none⟩ (Iv t.r)).setCell ⟨R,2,none⟩ (.slice p t.len c)/\w9.cell? ⟨R,0,none⟩=some (Iv t.kind)/\w9.cell? ⟨R,1,none⟩=some (Iv t.r)/\w9.cell? ⟨R,2,none⟩=some (.slice p t.len c) /\
  QmF w9 A s a (Tv t p c)/\Below w.heap.size w w9:=by
 obtain⟨e,f⟩:=QnA (k:=t.kind) (r:=t.r) (q:=p) (l:=t.len) (d:=c) h.bel h.res h.farR
 exact⟨_,Z,Qb e 0 _ Z,Qb e 1 _ Z,Qb e 2 _ Z,⟨t,p,c,g,Z,(h.lay.over h.bel f).less,b⟩,f⟩
theorem QeZ {w:World}{A:Nat->Prop}{s:JSt}(a d:Int) (W:s.L.length<=80) (G:∀ k,O k->k<w.heap.size) (h:SAt w b O A s) :
 Calls prog 266 #[Pv b 0,Iv a,Iv d] w fun e w'=>ZG (s.want a d false) (QmF w' A s a) e/\Below w.heap.size w w':=by
 have J:=Zd w (.cells #[Iv 0,Iv 0,Nv] 105);have C:=Qa (h.more G J);have m:=Qa J;have o:Hid (Blk (w.alloc (.cells #[Iv 0,Iv 0,Nv] 105)) w.heap.size #[Iv 0,Iv 0,Nv] 105):=Blk.new _ _ _;clear h J;go_enter func266,ntmps266
 go_upto_region 1 with fail
 generalize w.alloc (.cells #[Iv 0,Iv 0,Nv] 105)=w1 at C m o |-;obtain⟨R,F⟩:∃ R,w.heap.size=R:=⟨_,Z⟩
 have HR:=Qa (Nat.le_of_eq F);rw[F] at o |-
 clear F;go_wp2_with fail
 refine(Qb7 a W C.out).mono ?_
 rintro N H ⟨G,D⟩;have Q:Hid (Below w.heap.size w H):=m.out.trans (D.mono m.out.size);have V:=Qa (o.out.below D);rcases G with ⟨z,x,rfl,t,p,c,M,rfl,K,j⟩|⟨z,rfl⟩
 rotate_left
 ·exact⟨Z,.inr ⟨by rw[QgC z];exact z,by rw[QgC z]⟩,Q.out⟩
 have f:=Qa (QhC.mk1 (c:=c) Q.out V.out HR.out K);have y:=Qa (Xh M j);clear K M j D o m C V;go_upto_region 2 with fail
 generalize H.alloc (.cells #[Iv t.kind,Iv t.r,.slice p t.len c] 105)=w3 at f |-;generalize H.heap.size=B at f |-;obtain⟨y0,y1,y2,r0,r1,r2,z0,z1,z2⟩:=f.out.cells
 have aa:=f.out.ne;by_cases u:t.kind=d
 rotate_left
 ·have i:(t.kind==d)=false:=by simpa using u
  have E:Hid (s.want a d false=9):=by show _=_;unfold JSt.want;rw[y.out.1];simp[u]
  generalize t.kind=tk at y0 u i;go_wp2_with fail
  refine(Zj _ 9).mono ?_
  rintro N w' ⟨rfl,g⟩;subst g;exact⟨Z,ZG.bad E.out (by decide),f.out.bel⟩
 ·subst u;have i:(t.kind==t.kind)=true:=by simp
  have E:Hid (s.want a t.kind false=0):=by show _=_;unfold JSt.want;rw[y.out.1];simp
  obtain⟨I,P,n,l,q,S,T⟩:=f.out.told y.out.1 y.out.2
  have U:=Qa (Xh S T);have X:Hid (I.cell? ⟨R,0,none⟩=some (Iv t.kind)/\I.cell? ⟨R,1,none⟩=some (Iv t.r)/\I.cell? ⟨R,2,none⟩=some (.slice p t.len c)):=⟨n,l,q⟩;have H9:=Qa P;clear S T n l q P;go_wp2_with (go_at_call 268;refine(Zf _ _).mono ?_;rintro N w' ⟨rfl,g⟩;have g:=g.symm;subst g)
  rw[<-H9.out]
  obtain⟨n,l,q⟩:=X.out
  exact Xy (v:=Tv t p c) (by simp[results,results266,go_sem,n,l,q]) Z ⟨ZG.good E.out U.out.1,U.out.2⟩
theorem Qfi {s:JSt}{a b:Int}(h:s.want a b false≠0):s.want a b true=s.want a b false:=by
 unfold JSt.want at *
 cases e:s.at a with
 | none=>rfl
 | some t =>
   rw[e] at h
   by_cases c:t.kind=b
   ·simp[c] at h
   ·simp[c]
theorem Qg3 {s:JSt}{a b:Int}{t:TT 6}(h:s.want a b false=0) (d:s.at a=some t):s.want a b true=if hHas s.H t.r then 0 else 10:=by
 unfold JSt.want at *;rw[d] at h |-
 by_cases c:t.kind=b
 ·simp only[c,if_true,Bool.true_and]
  cases hHas s.H t.r<;>rfl
 ·simp[c] at h
theorem Qab {w:World}{A:Nat->Prop}{s:JSt}(a d:Int) (hL:s.L.length<=80) (l:∀ k,O k->k<w.heap.size) (h:SAt w b O A s) :
 Calls prog 248 #[Pv b 0,Iv a,Iv d] w fun e w'=>ZG (s.want a d true) (QmF w' A s a) e/\Below w.heap.size w w':=by
 have Q:=Zd w (.cells #[Iv 0,Iv 0,Nv] 105);have o:=Qa (h.more l Q);have j:=Qa Q;have F:Hid (Blk (w.alloc (.cells #[Iv 0,Iv 0,Nv] 105)) w.heap.size #[Iv 0,Iv 0,Nv] 105):=Blk.new _ _ _;have HO:=Qa l;clear h Q l;go_enter func248,ntmps248
 go_upto_region 1 with fail
 generalize w.alloc (.cells #[Iv 0,Iv 0,Nv] 105)=w1 at o j F |-;obtain⟨R,M⟩:∃ R,w.heap.size=R:=⟨_,Z⟩
 have HR:=Qa (Nat.le_of_eq M);rw[M] at F |-
 clear M;go_wp2_with fail
 refine(QeZ a d hL (fun k hk=>Zl (HO.out k hk) j.out.size) o.out).mono ?_
 rintro U G ⟨l,y⟩;have B2:Hid (Below w.heap.size w G):=j.out.trans (y.mono j.out.size);have X2:=Qa (F.out.below y);have H2:=Qa (o.out.below y);rcases l with ⟨i,x,rfl,t,p,c,K,rfl,T,n⟩|⟨i,rfl⟩
 rotate_left
 ·exact⟨Z,.inr ⟨by rw[Qfi i];exact i,by rw[Qfi i]⟩,B2.out⟩
 have g:=Qa (QhC.mk1 (c:=c) B2.out X2.out HR.out T);have HA:=Qa (Xh K n);have E:=Qa (Qg3 i K);have J:=Qa (H2.out.below (Zd G (.cells #[Iv t.kind,Iv t.r,.slice p t.len c] 105)));clear T K n y F j o X2 i H2;go_upto_region 2 with fail
 generalize G.alloc (.cells #[Iv t.kind,Iv t.r,.slice p t.len c] 105)=S at g J |-;generalize G.heap.size=B at g |-;obtain⟨y0,y1,y2,r0,r1,r2,z0,z1,z2⟩:=g.out.cells
 have aa:=g.out.ne;obtain⟨pm,cm,W,a1,c1,a2,c2,a3,c3,aL,cL,N⟩:=J.out.read
 obtain⟨-,q1,-⟩:=N.cells
 have C:Hid (∀ m,Calls prog 272 #[Pv W 0,Iv t.r] (S.drewN m) fun e w'=>e=.returned (.bool (hHas s.H t.r))/\w'=S.drewN m):=fun m=>Qcy t.r (show Qo (S.drewN m) W s.H from N.held);clear N;generalize hHas s.H t.r=q at E C;go_region_with (first | (go_at_call 272;refine(C.out _).mono ?_;rintro U w' ⟨rfl,f⟩;have f:=f.symm;subst f) | (go_at_call 268;refine(QbB _ _ _).mono ?_;rintro U w' ⟨f,⟨D,rfl⟩|⟨D,rfl⟩⟩;rotate_left;exact⟨Z,ZG.bad (by rw[E.out,D];rfl) (by decide),by rw[f];exact QI g.out.bel _⟩;have f:=f.symm;subst f))
 all_goals
  have E9:Hid (s.want a d true=0):=by show _=_;rw[E.out,D];rfl
  clear D J E C;have V:=g.out.below (QI Zr 1);obtain⟨P,h9,z,u,I,hv,hb⟩:=V.told HA.out.1 HA.out.2
  have HV:=Qa (Xh hv hb);have X:Hid (P.cell? ⟨R,0,none⟩=some (Iv t.kind)/\P.cell? ⟨R,1,none⟩=some (Iv t.r)/\P.cell? ⟨R,2,none⟩=some (.slice p t.len c)):=⟨z,u,I⟩;have H9:=Qa h9;clear hv hb z u I h9 V;go_wp2
  rw[<-H9.out]
  obtain⟨z,u,I⟩:=X.out
  exact Xy (v:=Tv t p c) (by simp[results,results248,go_sem,z,u,I]) Z ⟨ZG.good E9.out HV.out.1,HV.out.2⟩
abbrev VNone:Value->Prop:=fun x=>x=.tuple #[]
theorem QbK {A:Nat->Prop}{s:JSt}(J:l.length=N) (V:N<=100000) (E:intsL.In w Q l [.slice p N c]) (P:s.L.length<=80) (z:∀ k,O k->k<w.heap.size) (h:SAt w b O A s) :
 Calls prog 240 #[Pv b 0,.slice p N c] w fun e w'=>ZG (Qu (fun a=>s.want a 1 false) l) VNone e/\Below w.heap.size w w':=by
 have H:=Qa h;have X:=Qa z;have W:=Qa E;have C:=Qa J;clear h z E J;go_enter func240,ntmps240
 go_wp2
 go_loopw [8] (fun i wr=>∃ k:Nat,k<=N/\i=Iv k/\Below w.heap.size w wr/\∀ (j:Nat) (y:Int),j<k->l[j]?=some y->s.want y 1 false=0) (fun i _=>N - (intOf i).toNat)
 case atStart=>exact⟨0,Xb _,Z,Zr,fun j y U=>by omega⟩
 case round =>
  obtain⟨k,F,rfl,I,K⟩:=hrel
  have n:=Qa I;have u:=Qa K;clear I K;by_cases r:k<N
  ·have t:(k:Int)<N:=by omega
   have f:k<l.length:=by rw[C.out];exact r
   obtain⟨g,o,rfl,-,hg,m⟩:=ZI W.out f
   obtain⟨y,d⟩:∃ y,l[k]?=some y:=⟨_,Zg f⟩
   rw[show l.getD k 0=y by rw[List.getD_eq_getElem?_getD,d];rfl] at m
   have B:=Qa d;clear d;have R:=Qk m n.out;clear m f;go_wp2_with fail
   refine(QeZ y 1 P (fun k F=>Zl (X.out k F) n.out.size) (H.out.below n.out)).mono ?_
   rintro e' T ⟨z,D⟩;have G:Hid (Below w.heap.size w T):=n.out.trans (D.mono n.out.size);rcases z with ⟨q,x,rfl,-⟩|⟨q,rfl⟩
   rotate_left
   ·exact⟨Z,.inr ⟨by rw[Qav B.out u.out q];exact q,by rw[Qav B.out u.out q]⟩,G.out⟩
   have M:=Qa q;clear q D R;go_wp2
   go_roundw
   case rel =>
    refine⟨k+1,r,by go_num,G.out,fun j S U d=>?_⟩
    rcases Nat.lt_or_ge j k with h | h
    ·exact u.out j S h d
    ·have:j=k:=by omega
     subst this;have e:=B.out.symm.trans d;injection e with e
     subst e;exact M.out
   case measure=>simp[intOf];omega
  ·have t:¬ (k:Int)<N:=by omega
   go_wp2
   exact Xz (v:=.tuple #[]) (by simp[results,results240,go_sem]) Z ⟨ZG.good (Qac (fun j y d=>u.out j y (by have:=(Zi d).1;rw[C.out] at this;omega) d)) Z,n.out⟩
def Q0 (n m:Nat):Int:=if 80<n+m then 2 else 0
theorem Qfm {A:Nat->Prop}{s:JSt}(n:Nat) (t:n<=1000) (i:s.L.length<=80) (h:SAt w b O A s) :
 Calls prog 267 #[Pv b 0,Iv n] w fun e w'=>ZG (Q0 s.L.length n) VNone e/\w'=w:=by
 obtain⟨y,z,x,m,u,r,l,p,q,o,B,g⟩:=h.read
 obtain⟨-,-,-,-,-,-,k⟩:=g.cells
 clear h g;generalize s.L.length=c at k i |-;by_cases d:80<c+n
 ·have E:Hid (Q0 c n=2):=Xs d;have f:decide ((c:Int)+n<=80)=false:=Xu (by omega);clear d;go_enter func267,ntmps267
  go_wp2_with fail
  refine(Zj _ 2).mono ?_
  rintro j w' ⟨rfl,a⟩;subst a;exact⟨Z,ZG.bad E.out (by decide),Z⟩
 ·have E:Hid (Q0 c n=0):=Xr d;have f:decide ((c:Int)+n<=80)=true:=Xt (by omega);clear d;go_enter func267,ntmps267
  go_wp2_with (go_at_call 268;refine(Zf _ _).mono ?_;rintro j w' ⟨rfl,a⟩;have a:=a.symm;subst a)
  exact Xz (v:=.tuple #[]) (by simp[results,results267,go_sem]) Z ⟨ZG.good E.out Z,Z⟩
def QO (w:World) (b:Nat) (O A:Nat->Prop) (s s':JSt) (c:Int) (e:Ending) (w':World):Prop :=
 (c=0/\e=.returned (.tuple #[])/\STo w w' b O A s')\/(c≠0/\e=.panicked (QeK c)/\STo w w' b O A s)
theorem STo.of_below {A:Nat->Prop}{s:JSt}(h:SAt w b O A s) (a:Below w.heap.size w w'):STo w w' b O A s:=(STo.same (h.below a)).after a
theorem Yh:type_of% @STo.of_below:=@STo.of_below
theorem QO.after {A:Nat->Prop}{s i:JSt}{c:Int}{e:Ending}(h:QO w1 b O A s i c e w') (g:Below w.heap.size w w1):QO w b O A s i c e w':=by
 rcases h with ⟨a,d,f⟩|⟨a,d,f⟩
 ·exact .inl ⟨a,d,f.after g⟩
 ·exact .inr ⟨a,d,f.after g⟩
theorem QO.bad {A:Nat->Prop}{s e:JSt}{c d:Int}(h:c=d) (f:d≠0) (a:STo w w' b O A s):QO w b O A s e c (.panicked (QeK d)) w':=.inr ⟨by omega,by rw[h],a⟩
theorem Qay {A:Nat->Prop}{s:JSt}{l:List (TT 6)}(hn:l.length=n) (al:n<=8) (hl:(Qp 6).In w (fun g=>¬ A g) l [.slice p n c]) (X:s.L.length<=80) (hA:∀ k,A k->k<w.heap.size) (h:SAt w b O A s) :
 Calls prog 244 #[Pv b 0,.slice p n c] w fun e w'=>QO w b O A s { s with L:=s.L++l } (Q0 s.L.length n) e w':=by
 obtain⟨i0,hi,V,ae,ac⟩:=pInfoT
 have H:=Qa h;have B:=Qa hl;have N:=Qa hn;have C:=Qa (Qfm n (by omega) X h);have W:=Qa hA;clear h hl hn hA;by_cases K:80<s.L.length+n
 ·rw[show Q0 s.L.length n=2 from Xs K] at C |-
  clear K;go_enter func244,ntmps244
  go_wp2_with fail
  refine C.out.mono ?_;rintro e' w' ⟨⟨U,-⟩|⟨U,rfl⟩,d⟩
  ·cases U
  subst d;exact⟨Z,.inr ⟨by decide,Z,STo.same H.out⟩⟩
 rw[show Q0 s.L.length n=0 from Xr K] at C |-
 obtain⟨m,r,xs,Q,f6,D,J,i⟩:=H.out.pushL W.out
 have E:=Qa i;have z:=Qa J
 have C2:Hid (Calls prog 267 #[Pv b 0,Iv n] w fun e w'=>e=.returned (.tuple #[])/\w'=w):=C.out.mono (fun e w' h=>by
  rcases h with ⟨⟨-,x,rfl,hx⟩|⟨U,-⟩,d⟩
  ·exact⟨by rw[hx],d⟩
  ·exact absurd Z U)
 clear i J C;by_cases ab:n=0
 ·subst ab;have ag:l=[]:=Xf.1 N.out;subst ag
  have ha:Hid (∀ (t:TypeId) (F:World),(Builtin.append_ #[80,80] t #[.slice m s.L.length r,.slice p 0 c]).run prog F=.ok (.slice m s.L.length r) F):=fun (t:TypeId) (F:World)=>run_append_nothing (P:=prog) F 80 80 t 105 i0 pUnderT hi m s.L.length r D (.slice p 0 c) (by cases p with
   | none=>exact Src.ofNil F pUnderT c
   | some ad=>exact Src.ofSlice F pUnderT ad 0 c [] (by simp) (fun j u h=>by simp at h) (fun u h=>by cases h))
  have HZ:Hid (STo w (w.setCell ⟨b,6,none⟩ (.slice m s.L.length r)) b O A { s with L:=s.L++[] }):=by
   have e:∀ k,(w.setCell ⟨b,6,none⟩ (.slice m s.L.length r)).heap[k]?=w.heap[k]?:=fun k=>H.out.same6 Q k;have hb:Below w.heap.size w (w.setCell ⟨b,6,none⟩ (.slice m s.L.length r)):=⟨Z,Z,Z,by simp,fun k _=>e k⟩;rw[List.append_nil]
   exact Yh H.out hb
  clear E z B;generalize s.L.length=nL at Q ha HZ X D K;go_enter func244,ntmps244
  go_wp2_with (first | (go_at_call 267;refine(C2.out).mono ?_;rintro e w' ⟨rfl,d⟩;have d:=d.symm;subst d) | (at_builtin;refine QaK Z (.tmp 12) (.tmp 13) 80 Z (.slice m nL r) (.slice p 0 c) Z Z (ha.out _ _) ?_))
  exact Xz (v:=.tuple #[]) (by simp[results,results244,go_sem]) Z (.inl ⟨Z,Z,HZ.out⟩)
 ·obtain⟨g0,o0,rfl⟩:∃ g0 o0,p=some ⟨g0,o0,none⟩:=by
   obtain⟨g,o,dd,e,-⟩:=Yf B.out (Zg (show 0<l.length by have:=N.out;omega))
   exact⟨g,o,e⟩
  obtain⟨S,d1,d2,d3,d4⟩:=Lay.flat B.out (fun y cs hy=>by obtain⟨ya,yc,e,-⟩:=hy;subst e;exact QlB _ _ _ _ _)
  have I:S.length=n*3:=by rw[<-N.out];exact d1
  have aa:=Qa I;have af:=Qa d2;have ak:=Qa d3
  have f:Hid (∀ q g a,q.ownsRow 0 105 3 (.slice (some ⟨g,0,none⟩) (s.L.length+n) a) (s.L.length+n) (xs++S)->w.grownBy q (Value.slice m s.L.length r).ownBlock->((Value.slice m s.L.length r).ownBlock=some g\/g=w.heap.size)->g<q.heap.size->q.cell? ⟨b,6,none⟩=some (.slice m s.L.length r)/\q.frozen? ⟨b,6,none⟩=false/\STo w (q.setCell ⟨b,6,none⟩ (.slice (some ⟨g,0,none⟩) (s.L.length+n) a)) b O A { s with L:=s.L++l }):=by
   intro q g a G M T R;rw[<-N.out] at G |-
   exact E.out q g a l S d1 G M T R d4
  clear E B d1 I d2 d3 d4;have ah:Hid (0<=w.heap.size):=Xb _;have ai:s.L.length+n<=80:=by omega
  have aj:0<n:=by omega
  generalize s.L.length=nL at Q z f X D K ai;go_enter func244,ntmps244
  go_wp2_with (first | (go_at_call 267;refine(C2.out).mono ?_;rintro e w' ⟨rfl,d⟩;have d:=d.symm;subst d) | (at_builtin;refine wpList_append_lies _ Z (.tmp 12) (.tmp 13) 80 Z 0 105 i0 (.agg #[Iv 0,Iv 0,Nv]) 3 40 pUnderT hi V ae ac Z (by decide) _ _ _ Z z.out ⟨g0,o0,none⟩ n c S Z aa.out af.out ak.out aj (by unfold maxLen;omega) (by omega) ah.out w.heap.size Z ?_))
  intro g2 a q G M T R;obtain⟨am,an,z9⟩:=f.out q g2 a G M T R
  have Z9:=Qa z9;clear G M T R f z z9 Q f6;go_wp2
  exact Xz (v:=.tuple #[]) (by simp[results,results244,go_sem]) Z (.inl ⟨Z,Z,Z9.out⟩)
theorem Qeq {A:Nat->Prop}(o:∀ k,A k->k<w.heap.size){t:TT 6}(n:TIn w (fun g=>¬ A g) t p) (m:t.ok) :
 (Qp 6).In (w.alloc (.cells #[Iv t.kind,Iv t.r,.slice p t.len c] 105)) (fun g=>¬ A g) [t] [.slice (some ⟨w.heap.size,0,none⟩) 1 d]:=by
 refine⟨some ⟨w.heap.size,0,none⟩,d,Z,fun i x l=>?_⟩
 have q:i<1:=by simpa using (Zi l).1
 have b:i=0:=by omega
 subst b;simp at l
 subst l;have a:=Qe w #[Iv t.kind,Iv t.r,.slice p t.len c] 105;refine⟨w.heap.size,0,[Iv t.kind,Iv t.r,.slice p t.len c],Z,fun e=>by have:=o _ e;omega,XC a,fun j f=>?_,p,c,Z,n.alloc _,m⟩
 have f:j<3:=f;match j,f with
 | 0,_=>exact Qb a 0 _ Z
 | 1,_=>exact Qb a 1 _ Z
 | 2,_=>exact Qb a 2 _ Z
 | j+3,h=>exact absurd h (by omega)
theorem QbQ {A:Nat->Prop}{s:JSt}(m:s.L.length<=80) (g:∀ k,A k->k<w.heap.size) (h:SAt w b O A s) :
 Calls prog 239 #[Pv b 0] w fun e w'=>QO w b O A s { s with L:=s.L++[tInt] } (Q0 s.L.length 1) e w':=by
 have C:Hid (∀ d,Calls prog 244 #[Pv b 0,.slice (some ⟨w.heap.size,0,none⟩) 1 d] (w.alloc (.cells #[Iv 1,Iv 0,Nv] 105)) fun e w'=>QO w b O A s { s with L:=s.L++[tInt] } (Q0 s.L.length 1) e w'):=fun d=>by
  have f:=Zd w (.cells #[Iv 1,Iv 0,Nv] 105);refine(Qay (l:=[tInt]) Z (by decide) (Qeq (t:=tInt) (p:=none) (c:=0) (d:=d) g (fun i x r=>by simp[tInt] at r) (by unfold TT.ok;simp[tInt])) m (fun k q=>Zl (g k q) f.size) (h.below f)).mono (fun e w' a=>a.after f)
 clear h m g;go_enter func239,ntmps239
 go_wp2_with fail
 refine(C.out _).mono ?_
 rintro u w' a;have o:=Qa a;rcases a with ⟨j,rfl,n⟩|⟨j,rfl,n⟩
 rotate_left
 ·exact⟨Z,o.out⟩
 clear j n;go_wp2
 exact Xz (v:=.tuple #[]) (by simp[results,results239,go_sem]) Z o.out
theorem Qkp (w:World) (Q:Nat->Prop) (k r:Int):TIn (n:=6) w Q (mkT k r []) none:=fun i x a=>by simp at a
theorem Qkc {k r:Int}(h:-9223372036854775808<=r/\r<=9223372036854775807) (a:-9223372036854775808<=k/\k<=9223372036854775807):TT.ok (n:=6) (mkT k r []):=by
 unfold TT.ok;simp
 omega
theorem QcE {A:Nat->Prop}{s:JSt}(k r:Int) (m:0<=r/\r<=1000) (f:0<=k/\k<=4) (d:Nat) (i:s.L.length<=80) (g:∀ k,A k->k<w.heap.size) (h:SAt w b O A s) :
 Calls prog 244 #[Pv b 0,.slice (some ⟨w.heap.size,0,none⟩) 1 d] (w.alloc (.cells #[Iv k,Iv r,Nv] 105)) fun e w'=>QO w b O A s { s with L:=s.L++[mkT k r []] } (Q0 s.L.length 1) e w':=by
 have a:=Zd w (.cells #[Iv k,Iv r,Nv] 105);exact(Qay (l:=[mkT k r []]) Z (by simp) (Qeq (t:=mkT k r []) (p:=none) (c:=0) (d:=d) g (Qkp _ _ _ _) (Qkc (by omega) (by omega))) i (fun k f=>Zl (g k f) a.size) (h.below a)).mono (fun e w' j=>j.after a)
def JSt.openC (s:JSt):Int:=if 80<s.L.length+1\/s.H.length=16 then 2 else 0
def JSt.openS (s:JSt):JSt:={ s with H:=s.H++[true],L:=s.L++[mkT 2 s.H.length []] }
theorem QiG {A:Nat->Prop}{s:JSt}(X:s.H.length<=16) (P:s.L.length<=80) (R:∀ k,A k->k<w.heap.size) (h:SAt w b O A s) :
 Calls prog 241 #[Pv b 0] w fun e w'=>QO w b O A s s.openS s.openC e w':=by
 have H:=Qa h;have T:=Qa R;have C:=Qa (Qfm 1 (by decide) P h);clear h R;by_cases n:80<s.L.length+1
 ·rw[show Q0 s.L.length 1=2 from Xs n] at C
  have E:Hid (s.openC=2):=Xs (.inl n);clear n;go_enter func241,ntmps241
  go_wp2_with fail
  refine C.out.mono ?_;rintro y w' ⟨⟨q,-⟩|⟨q,rfl⟩,a⟩
  ·cases q
  subst a;exact⟨Yz,QO.bad E.out (by decide) (STo.same H.out)⟩
 rw[show Q0 s.L.length 1=0 from Xr n] at C
 have M:Hid (Calls prog 267 #[Pv b 0,Iv 1] w fun e w'=>e=.returned (.tuple #[])/\w'=w):=C.out.mono (fun e w' h=>by
  rcases h with ⟨⟨-,x,rfl,W⟩|⟨q,-⟩,a⟩
  ·exact⟨by rw[W],a⟩
  ·exact absurd Yz q)
 clear C;obtain⟨hh,q1,f,i⟩:=H.out.setH T.out
 have m:=Qa (QcP f);have D:=Qa i;clear f i;by_cases l:s.H.length=16
 ·have E:Hid (s.openC=2):=Xs (.inr l);rw[show QbH s.H=-1 by unfold QbH;rw[Xr (by omega)],show QcO s.H=s.H by unfold QcO;rw[Xr (by omega)]] at m
  clear l n;go_enter func241,ntmps241
  go_wp2_with (first | (go_at_call 267;refine(M.out).mono ?_;rintro e w' ⟨rfl,a⟩;have a:=a.symm;subst a) | (go_at_call 237;refine(m.out).mono ?_;rintro e r ⟨rfl,c,g⟩;have Z:=Qa (D.out r _ c g);clear c g))
  refine(Zj _ 2).mono ?_
  rintro y w' ⟨rfl,a⟩;subst a;exact⟨Yz,QO.bad E.out (by decide) Z.out⟩
 ·have E:Hid (s.openC=0):=Xr (by omega);have j:s.H.length<16:=by omega
  rw[show QbH s.H=(s.H.length:Int) by unfold QbH;rw[Xs j],show QcO s.H=s.H++[true] by unfold QcO;rw[Xs j]] at m
  have J:s.H.length<=1000:=by omega
  generalize p:s.H.length=I at m j J;have t:=Qa p;have V:decide ((I:Int)>=0)=true:=Xt (by omega);clear p l;go_enter func241,ntmps241
  go_wp2_with (first | (go_at_call 267;refine(M.out).mono ?_;rintro e w' ⟨rfl,a⟩;have a:=a.symm;subst a) | (go_at_call 237;refine(m.out).mono ?_;rintro e r ⟨rfl,c,g⟩;have Z:=Qa (D.out r _ c g);clear c g))
  refine(Zf _ _).mono ?_
  rintro y w' ⟨rfl,a⟩;have a:=a.symm;subst a;obtain⟨N,G,Q,K⟩:=Z.out
  have u:=Qa (Xh G K);have S:=Qa (fun d=>QcE 2 (I:Int) (by omega) (by decide) d (by exact P) (fun k o=>by rcases o with o | o;exact Zl (T.out k o) K.size;exact(G k o).2) Q);clear G Q K Z D m M;go_wp2_with fail
  refine(S.out _).mono ?_
  rintro y w2 U;rcases U with ⟨z,rfl,B⟩|⟨z,rfl,B⟩
  rotate_left
  ·exact absurd (Xr n) z
  have F:=Qa (STo.join u.out.1 u.out.2 B);clear z B S u;go_wp2
  refine Xz (v:=.tuple #[]) (by simp[results,results241,go_sem]) Yz (.inl ⟨E.out,Yz,?_⟩);have e:s.openS={ ({ s with H:=s.H++[true] }) with L:=({ s with H:=s.H++[true] }).L++[mkT 2 (I:Int) []] }:=by unfold JSt.openS;rw[t.out]
  rw[e]
  exact F.out
def JSt.freeC (s:JSt) (a:Int):Int:=match s.at a with
 | none=>1
 | some t=>Qv (s.want a 2 true) (if t.r<s.f.regs then 11 else 0)
def JSt.freeS (s:JSt) (a:Int):JSt:={ s with H:=s.H.set (match s.at a with | none=>0 | some t=>t.r.toNat) false }
theorem Qhy {s:JSt}{a:Int}(h:s.want a 2 true≠0):s.freeC a=s.want a 2 true:=by
 unfold JSt.freeC
 cases e:s.at a with
 | none=>unfold JSt.want;rw[e]
 | some t=>show Qv _ _=_;unfold Qv;rw[Xr h]
theorem Qjh {A:Nat->Prop}{s:JSt}(a:Int) (U:s.L.length<=80) (N:∀ k,A k->k<w.heap.size) (h:SAt w b O A s) :
 Calls prog 242 #[Pv b 0,Iv a] w fun e w'=>QO w b O A s (s.freeS a) (s.freeC a) e w':=by
 have H:=Qa h;have Q:=Qa N;clear h N;have ab:∀ (k r:Int) (p:Option Addr) (l c:Nat) (w:World),(Instr.field 105 (.agg #[Iv k,Iv r,.slice p l c]) 1).run prog w=.ok (Iv r) w:=fun _ _ _ _ _ _=>by kernel_rfl
 go_enter func242,ntmps242
 go_wp2_with fail
 refine(Qab a 2 U (fun k F=>Q.out k (H.out.sub k F)) H.out).mono ?_
 rintro K w2 ⟨X,D⟩;have B:=Qa D;have P:=Qa (H.out.below D);clear D;rcases X with ⟨m,x,rfl,t,p,c,z,rfl,T,G⟩|⟨m,rfl⟩
 rotate_left
 ·exact⟨Yz,QO.bad (Qhy m) m (Yh H.out B.out)⟩
 have E:Hid (s.freeC a=if t.r<s.f.regs then 11 else 0):=by show _=_;unfold JSt.freeC Qv;rw[z];simp only[m,if_true]
 have j:hHas s.H t.r=true:=by
  obtain⟨t',n,e2,e3⟩:=Z4 m
  rw[z] at n
  cases n
  exact e3 Yz
 have J:Hid (s.freeS a={ s with H:=Qf8 s.H t.r }):=by show _=_;unfold JSt.freeS Qf8;rw[z,j];rfl
 obtain⟨pm,cm,hh,a1,c1,a2,c2,a3,c3,aL,cL,R⟩:=P.out.read
 obtain⟨-,q1,V,-⟩:=R.cells
 clear R T G z m j;obtain⟨aa,y,d,i⟩:=P.out.setH (fun k F=>Zl (Q.out k F) B.out.size)
 have n:=q1.symm.trans y;simp only[Option.some.injEq,Value.pointer.injEq,Addr.mk.injEq,and_true] at n
 subst n;have M:=Qa (QiY t.r d);have W:=Qa i;clear d i y;simp only[Tv]
 generalize s.f.regs=I at V E;generalize t.r=C at E M J |-;by_cases g:C<I
 ·rw[Xs g] at E
  have hg:decide (C>=I)=false:=Xu (by omega);clear g;go_wp2_with fail
  refine(Zj _ 11).mono ?_
  rintro K w' ⟨rfl,q⟩;subst q;exact⟨Yz,QO.bad E.out (by decide) (Yh H.out B.out)⟩
 ·rw[Xr g] at E
  have hg:decide (C>=I)=true:=Xt (by omega);clear g;go_wp2_with fail
  refine(Zf _ _).mono ?_
  rintro K w' ⟨rfl,q⟩;have q:=q.symm;subst q;go_wp2_with (go_at_call 269;refine(M.out).mono ?_;rintro e S ⟨rfl,o,u⟩;have Z:=Qa (W.out S _ o u);clear o u)
  exact Xz (v:=.tuple #[]) (by simp[results,results242,go_sem]) Yz (.inl ⟨E.out,Yz,by rw[J.out];exact Z.out.after B.out⟩)
def JSt.arrayC (s:JSt) (a b:Int):Int:=Qv (Qv (s.want a 2 true) (s.want b 1 false)) (Q0 s.L.length 1)
theorem Ql {a b:Int}(h:a≠0):Qv a b=a:=by unfold Qv;rw[Xr h]
theorem Qx {a b:Int}(h:a=0):Qv a b=b:=by unfold Qv;rw[Xs h]
theorem QlT (a:Int) (g:-9223372036854775808<=a/\a<=9223372036854775807) (d:Nat):intsL.In (w.alloc (.cells #[Iv a] 3)) All [a] [.slice (some ⟨w.heap.size,0,none⟩) 1 d]:=by
 refine⟨_,d,Z,fun i x e=>?_⟩
 have k:i<1:=by simpa using (Zi e).1
 have b:i=0:=by omega
 subst b;simp at e
 subst e;have f:=Qe w #[Iv a] 3;refine⟨w.heap.size,0,[Iv a],Z,Y,XC f,fun j c=>?_,Z,g⟩
 have c:j<1:=c;match j,c with
 | 0,_=>exact Qb f 0 _ Z
 | j+1,h=>exact absurd h (by omega)
theorem Qkt (a b:Int) (l:-9223372036854775808<=a/\a<=9223372036854775807) (k:-9223372036854775808<=b/\b<=9223372036854775807) (d:Nat):intsL.In (w.alloc (.cells #[Iv a,Iv b] 3)) All [a,b] [.slice (some ⟨w.heap.size,0,none⟩) 2 d]:=by
 refine⟨_,d,Z,fun i x e=>?_⟩
 have g:i<2:=by simpa using (Zi e).1
 have f:=Qe w #[Iv a,Iv b] 3;match i,g with
 | 0,_ =>
   simp at e
   subst e;refine⟨w.heap.size,0,[Iv a],Z,Y,XC f,fun j c=>?_,Z,l⟩
   have c:j<1:=c;match j,c with
   | 0,_=>exact Qb f 0 _ Z
   | j+1,h=>exact absurd h (by omega)
 | 1,_ =>
   simp at e
   subst e;refine⟨w.heap.size,0,[Iv b],Z,Y,XC f,fun j c=>?_,Z,k⟩
   have c:j<1:=c;match j,c with
   | 0,_=>exact Qb f 1 _ Z
   | j+1,h=>exact absurd h (by omega)
 | i+2,h=>exact absurd h (by omega)
theorem Qe9 {s:JSt}{a:Int}:Qu (fun a=>s.want a 1 false) [a]=s.want a 1 false:=by
 show (if s.want a 1 false≠0 then s.want a 1 false else 0)=_;split
 ·rfl
 ·rename_i h;exact(Xq.1 h).symm
theorem Qja {s:JSt}{a b:Int}:Qu (fun a=>s.want a 1 false) [a,b]=Qv (s.want a 1 false) (s.want b 1 false):=by
 show (if s.want a 1 false≠0 then s.want a 1 false else Qu (fun a=>s.want a 1 false) [b])=_;rw[Qe9]
 by_cases h:s.want a 1 false=0
 ·rw[Xr (by simpa using h),Qx h]
 ·rw[Xs h,Ql h]
theorem QbF {A:Nat->Prop}{s:JSt}(a:Int) (j:-9223372036854775808<=a/\a<=9223372036854775807) (d:Nat) (g:s.L.length<=80) (i:∀ k,O k->k<w.heap.size) (h:SAt w b O A s) :
 Calls prog 240 #[Pv b 0,.slice (some ⟨w.heap.size,0,none⟩) 1 d] (w.alloc (.cells #[Iv a] 3)) fun e w'=>ZG (s.want a 1 false) VNone e/\Below w.heap.size w w':=by
 have c:=Zd w (.cells #[Iv a] 3)
 have:=QbK (l:=[a]) Z (by simp) (QlT a j d) g (fun k f=>Zl (i k f) c.size) (h.below c)
 rw[Qe9] at this
 exact this.mono (fun e w' h=>⟨h.1,c.trans (h.2.mono c.size)⟩)
theorem Qfh {A:Nat->Prop}{s:JSt}(a a':Int) (j:-9223372036854775808<=a/\a<=9223372036854775807) (f:-9223372036854775808<=a'/\a'<=9223372036854775807) (d:Nat) (i:s.L.length<=80) (m:∀ k,O k->k<w.heap.size) (h:SAt w b O A s) :
 Calls prog 240 #[Pv b 0,.slice (some ⟨w.heap.size,0,none⟩) 2 d] (w.alloc (.cells #[Iv a,Iv a'] 3)) fun e w'=>ZG (Qv (s.want a 1 false) (s.want a' 1 false)) VNone e/\Below w.heap.size w w':=by
 have c:=Zd w (.cells #[Iv a,Iv a'] 3)
 have:=QbK (l:=[a,a']) Z (by simp) (Qkt a a' j f d) i (fun k g=>Zl (m k g) c.size) (h.below c)
 rw[Qja] at this
 exact this.mono (fun e w' h=>⟨h.1,c.trans (h.2.mono c.size)⟩)
theorem QgX {A:Nat->Prop}{s:JSt}(a a':Int) (m:-9223372036854775808<=a'/\a'<=9223372036854775807) (hH:s.H.length<=16) (y:s.L.length<=80) (S:∀ k,A k->k<w.heap.size) (h:SAt w b O A s) :
 Calls prog 247 #[Pv b 0,Iv a,Iv a'] w fun e w'=>∀ t,(s.at a=some t\/(s.at a=none/\t=tInt))->QO w b O A s { s with L:=s.L++[mkT 4 t.r []] } (s.arrayC a a') e w':=by
 have H:=Qa h;have U:=Qa S;have HI:=Qa m;clear h S m;have X:∀ (k r:Int) (p:Option Addr) (l c:Nat) (w:World),(Instr.field 105 (.agg #[Iv k,Iv r,.slice p l c]) 1).run prog w=.ok (Iv r) w:=fun _ _ _ _ _ _=>by kernel_rfl
 go_enter func247,ntmps247
 go_wp2_with fail
 refine(Qab a 2 y (fun k g=>U.out k (H.out.sub k g)) H.out).mono ?_
 rintro B w2 ⟨D,u⟩;have K:=Qa u;have G:=Qa (H.out.below u);have j:=Qa (fun k g=>Zl (U.out k g) u.size);clear u;rcases D with ⟨f,x,rfl,t,p,c,z,rfl,V,I⟩|⟨f,rfl⟩
 rotate_left
 ·exact⟨Z,fun t _=>QO.bad (by unfold JSt.arrayC;rw[Ql f,Ql f]) f (Yh H.out K.out)⟩
 have E:Hid (s.arrayC a a'=Qv (s.want a' 1 false) (Q0 s.L.length 1)):=by show _=_;unfold JSt.arrayC;rw[Qx f]
 have R:0<=t.r/\t.r<=1000:=by
  obtain⟨t',M,e2,e3⟩:=Z4 f
  rw[z] at M
  cases M
  have:=ZW (e3 Z)
  omega
 have n:=Qa z;have HR:=Qa R;clear V I z f R;simp only[Tv]
 have C:=Qa (fun d=>QbF a' HI.out d y (fun k g=>j.out k (G.out.sub k g)) G.out);go_wp2_with fail
 refine(C.out _).mono ?_
 rintro B w3 ⟨D,q⟩;have o:=Qa (K.out.trans (q.mono K.out.size));have W:=Qa (G.out.below q);have J:=Qa (fun k g=>Zl (j.out k g) q.size);rcases D with ⟨f,x,rfl,hx⟩|⟨f,rfl⟩
 rotate_left
 ·exact⟨Z,fun t _=>QO.bad (by rw[E.out,Ql f]) f (Yh H.out o.out)⟩
 subst hx;have E2:Hid (s.arrayC a a'=Q0 s.L.length 1):=by show _=_;rw[E.out,Qx f]
 clear q f E C;have T:=Qa (fun d=>QcE 4 t.r HR.out (by decide) d y J.out W.out);go_wp2_with fail
 refine(T.out _).mono ?_
 rintro B w4 N
 have F:Hid (∀ t,(s.at a=some t\/(s.at a=none/\t=tInt))->QO w b O A s { s with L:=s.L++[mkT 4 t.r []] } (s.arrayC a a') B w4):=fun t' i=>by
  rcases i with i | ⟨i,-⟩
  ·have e:=i.symm.trans n.out;injection e with e
   subst e;rw[E2.out]
   exact N.after o.out
  ·rw[n.out] at i;cases i
 rcases N with ⟨P,rfl,Q⟩|⟨P,rfl,Q⟩
 rotate_left
 ·exact⟨Z,F.out⟩
 clear P Q T;go_wp2
 exact Xz (v:=.tuple #[]) (by simp[results,results247,go_sem]) Z F.out
theorem Qb1 {a:World}(h:Below B a w):Below B a w.drew:=⟨h.os,h.tape,h.output,h.size,h.block⟩
theorem Zx (h:Below w.drew.heap.size w.drew w'):Below w.heap.size w w':=⟨h.os,h.tape,h.output,h.size,h.block⟩
noncomputable def JSt.beC (s:JSt) (a:Int) (t:TT 6):Int:=match s.at a with | none=>1 | some v=>if ZQ (v=t) then 0 else 9
theorem Qiv {s:JSt}{a:Int}{t:TT 6}(h:s.has a≠0):s.beC a t=s.has a:=by
 unfold JSt.has JSt.beC at *
 cases e:s.at a with
 | none=>rfl
 | some t=>rw[e] at h;exact absurd Z h
theorem Qlj {s:JSt}{a:Int}{t v:TT 6}(h:s.at a=some v):s.beC a t=if ZQ (v=t) then 0 else 9:=by unfold JSt.beC;rw[h]
theorem Qc7 {A:Nat->Prop}{s:JSt}(a:Int){t:TT 6}(R:TIn w Q t p) (hL:s.L.length<=80) (j:∀ x∈s.L,x.count<=100000) (hO:∀ k,O k->k<w.heap.size) (h:SAt w b O A s) :
 Calls prog 246 #[Pv b 0,Iv a,Tv t p c] w fun e w'=>ZG (s.beC a t) VNone e/\Below w.heap.size w w':=by
 have H:=Zd w (.cells #[Iv t.kind,Iv t.r,.slice p t.len c] 105);have I:=Qa (h.below H);have l:=Qa H;have J:=Qa (R.below H);have o:Hid (Blk (w.alloc (.cells #[Iv t.kind,Iv t.r,.slice p t.len c] 105)) w.heap.size #[Iv t.kind,Iv t.r,.slice p t.len c] 105):=Blk.new _ _ _;have P:=Qa j;clear h H hO R j;go_enter func246,ntmps246
 go_upto_region 1 with fail
 generalize w.alloc (.cells #[Iv t.kind,Iv t.r,.slice p t.len c] 105)=m at I l J o |-;obtain⟨X,W⟩:∃ X,w.heap.size=X:=⟨_,Z⟩
 rw[W] at o |-
 rw[<-W]
 have C:Hid (∀ f,Below m.heap.size m f->Calls prog 270 #[Pv b 0,Iv a] f fun e w'=>ZG (s.has a) (QmF w' A s a) e/\Below f.heap.size f w'):=fun f N=>Qb7 a hL (I.out.below N)
 have D:Hid (∀ (v:TT 6) (q:Option Addr) (d:Nat) (f:World),s.at a=some v->TIn f (fun g=>¬ A g) v q->Below m.heap.size m f->Calls prog 261 #[Tv v q d,Tv t p c] f fun e w'=>ZM e (v=t)/\Below f.heap.size f w') :=
  fun v q d f F n N=>same_any 6 v t q p d c f n.all (J.out.below N).all (P.out v (QdO F).1)
 clear I J P;have y0:=Qb o.out 0 _ Z;have y1:=Qb o.out 1 _ Z;have y2:=Qb o.out 2 _ Z;clear o
 go_region_with (first
  | (go_at_call 270;refine(C.out _ (Qb1 Zr)).mono ?_;rintro U w2 ⟨⟨B,x,rfl,v,q,d,F,rfl,y,-⟩|⟨B,rfl⟩,K⟩;rotate_left;exact⟨Z,.inr ⟨by rw[Qiv B];exact B,by rw[Qiv B]⟩,l.out.trans ((Zx K).mono l.out.size)⟩;have i:Below m.heap.size m w2:=Zx K;have y3:=Qk y0 i;have y4:=Qk y1 i;have y5:=Qk y2 i;have M:=Qa i;have G:=Qa (Xh F y);clear F y B K i)
  | (go_at_call 261;refine(D.out _ _ _ _ G.out.1 G.out.2 M.out).mono ?_;rintro U w3 ⟨⟨T,rfl,z⟩,S⟩;have V:=Qa (M.out.trans (S.mono M.out.size));have u:=Qa z;clear S z)
  | (go_at_call 268;refine(QbB _ _ _).mono ?_;rintro U w' ⟨E,⟨n,rfl⟩|⟨n,rfl⟩⟩;rotate_left;exact⟨Z,ZG.bad (by rw[Qlj G.out.1,show ZQ _=T from Bool.eq_iff_iff.2 (Qa4.trans u.out.symm),n];rfl) (by decide),by rw[E];exact l.out.trans (V.out.mono l.out.size)⟩;have E:=E.symm;subst E))
 all_goals
  have E9:Hid (s.beC a t=0):=by show _=_;rw[Qlj G.out.1,show ZQ _=T from Bool.eq_iff_iff.2 (Qa4.trans u.out.symm),n];rfl
  have B9:Hid (Below w.heap.size w w3):=l.out.trans (V.out.mono l.out.size);clear n;go_wp2
  exact Xz (v:=.tuple #[]) (by simp[results,results246,go_sem]) Z ⟨ZG.good E9.out Z,B9.out⟩
theorem Qeh {o:Oper}{a:Act}{w:World}{K:Act->World->Prop}{Q:Exit->Act->World->Prop}{E:Prop}(b:o.guard=none) (F:Nat) (x y:Operand) (t u:TypeId)
 (k:o.op=.call { callee:=.value (.func F),args:=#[x,y],argTypes:=#[t,u] }) (i:∀ (args:Array Value) (w:World),(callFunc F args).run P w=.ok (.enter F args) w) (v z:Value) (c:a.eval x=v) (d:a.eval y=z) {R:Ending->World->Prop} (C:Calls P F #[v,z] w R)
 (h:∀ en w',R en w'->QnK K Q o a en w'):if Region.wanted o (yielded ops a.tmps)=true then Oper.wp P o a w K Q else E:=by
 have f:Region.wanted o (yielded ops a.tmps)=true:=by simp[Region.wanted,b]
 rw[Xs f]
 unfold Oper.wp
 have e:(execOp a.eval o).run P w=.ok (.enter F #[v,z]) w:=by
  have g:a.eval (.func F)=.func (.func F) #[] #[]:=rfl;unfold execOp;simp[k,resolve,invoke,Deferred.ofValue,c,d,i,g,Result.andThen]
 rw[e,Oper.upon_enter]
 refine C.mono fun en w' j=>?_
 have:=h en w' j
 cases en<;>exact this
theorem Qby {s:JSt}:∀ {l m:List Int}{x y:List (TT 6)},s.fields l=some x->s.fields m=some y->s.fields (l++m)=some (x++y)
 | [],m,x,y,h1,h2=>by simp[JSt.fields] at h1;subst h1;exact h2
 | k::r,m,x,y,h1,h2=>by
   simp only[JSt.fields] at h1
   show s.fields (k::(r++m))=_;simp only[JSt.fields]
   cases hk:s.at k with
   | none=>simp[hk] at h1
   | some t =>
     simp only[hk] at h1
     cases hr:s.fields r with
     | none=>simp[hr] at h1
     | some l =>
       simp only[hr,Option.some.injEq] at h1
       subst h1;rw[Qby hr h2]
       rfl
theorem Qf9 {s:JSt}{y:Int}{t:TT 6}{L:List (TT 6)}(a:l[k]?=some y) (b:s.at y=some t) (h:s.fields (l.take k)=some L):s.fields (l.take (k+1))=some (L++[t]):=by
 rw[XV,a]
 exact Qby h (by simp[JSt.fields,b])
theorem QdL {s:JSt}:∀ {l:List Int}{y:Int},y∈l->s.at y=none->s.fields l=none
 | k::r,y,a,h=>by
   simp only[JSt.fields]
   rcases List.mem_cons.1 a with rfl | a
   ·rw[h]
   ·rw[QdL a h]
    cases s.at k<;>rfl
def JSt.tupleC (s:JSt) (a:Int) (args:List Int):Int:=Qv (s.want a 2 true) (match s.at a with
 | none=>0
 | some t=>match s.fields args with
   | none=>1
   | some l=>if 4<TT.height (n:=7) (mkT 3 t.r l) then 19 else Q0 s.L.length 1)
def JSt.tupleS (s:JSt) (a:Int) (args:List Int):JSt:={ s with L:=s.L++(match s.at a with
 | none=>[]
 | some t=>match s.fields args with
   | none=>[]
   | some l=>[TT.at (n:=7) 5 (mkT 3 t.r l)]) }
theorem Qf3 {R:Int}{r:Int}{l:List (TT 6)}(b:0<=r/\r<R) (c:l.length<=8) (h:∀ t∈l,t.check R=0):TT.check (n:=7) R (mkT 3 r l)=if 4<TT.height (n:=7) (mkT 3 r l) then 19 else 0:=by
 show (if 4<TT.height (n:=7) (mkT 3 r l) then 19 else TT.fault (n:=7) R (mkT 3 r l))=_
 have:TT.fault (n:=7) R (mkT 3 r l)=0:=by
  show (if ownC 3 r l.length R≠0 then ownC 3 r l.length R else Qu (TT.fault R) l)=0
  have:ownC 3 r l.length R=0:=by
   unfold ownC;rw[Xr (by omega),Xr (by omega),Xr (by omega),Xr (by omega),Xr (by omega)]
  rw[this]
  simp only[ne_eq,not_true_eq_false,if_false]
  exact QF.2 fun y a=>(QW.1 (h y a)).2
 rw[this]
structure TuS (w wc:World) (B lo:Nat) (A:Nat->Prop) (r:Int) (v:Value) (L:List (TT 6)):Prop where
 bel:Below w.heap.size w wc
 box:Blk wc B #[Iv 3,Iv r,v] 105
 row:TRq wc (fun g=>lo<=g) (fun g=>¬ (A g\/w.heap.size<=g)) v L
 lo1:B<lo
 lo2:lo<=wc.heap.size
 far:w.heap.size<=B
section
variable {w wc w9:World}{B lo:Nat}{A:Nat->Prop}{r:Int}{v:Value}{L:List (TT 6)}
theorem TRq.below {w:World}{v:Value}{L:List (TT 6)}(h:TRq w O Q v L) (k:Below w.heap.size w w'):TRq w' O Q v L:=h.keep (fun g b _=>k.block g b) (fun _ a=>h.own a) (fun _ h _=>h)
theorem TuS.below (h:TuS w wc B lo A r v L) (k:Below wc.heap.size wc w9):TuS w w9 B lo A r v L :=
 ⟨h.bel.trans (k.mono h.bel.size),h.box.below k,h.row.below k,h.lo1,Zt h.lo2 k.size,h.far⟩
theorem TuS.push {xs:List Value}{t:TT 6}(h:TuS w wc B lo A r (.slice a L.length c) L) (j:wc.ownsRow 0 105 3 (.slice a L.length c) L.length xs) (S:(Lay.tt 6).In wc (fun g=>¬ (A g\/w.heap.size<=g)) t [Iv t.kind,Iv t.r,.slice p t.len d])
 (V:w9.ownsRow 0 105 3 (.slice (some ⟨g,0,none⟩) (L.length+1) cap) (L.length+1) (xs++[Iv t.kind,Iv t.r,.slice p t.len d])) (n:wc.grownBy w9 (Value.slice a L.length c).ownBlock) (v:(Value.slice a L.length c).ownBlock=some g\/g=wc.heap.size) :
 w9.cell? ⟨B,2,none⟩=some (.slice a L.length c)/\w9.frozen? ⟨B,2,none⟩=false/\TuS w (w9.setCell ⟨B,2,none⟩ (.slice (some ⟨g,0,none⟩) (L.length+1) cap)) B lo A r (.slice (some ⟨g,0,none⟩) (L.length+1) cap) (L++[t]):=by
 have ab:=n.size;have q:=h.lo1;have O:=h.lo2;have H:=h.box.lt;have aa:=h.bel.size;have b:∀ k,(Value.slice a L.length c).ownBlock=some k->lo<=k:=fun k f=>h.row.own f;have F:Blk w9 B #[Iv 3,Iv r,.slice a L.length c] 105:=(n.block B H (fun e=>by have:=b B e.symm;omega)).trans h.box
 have o:lo<=g:=by
  rcases v with v | v
  ·exact b g v
  ·omega
 have D:g≠B:=by omega
 have G:=h.far
 have u:∀ k,k<w.heap.size->(w9.setCell ⟨B,2,none⟩ (.slice (some ⟨g,0,none⟩) (L.length+1) cap)).heap[k]?=wc.heap[k]?:=fun k f=>by
  rw[Xd _ _ _ _ (show k≠B by omega),n.block k (by omega) (fun e=>by have:=b k e.symm;omega)]
 refine⟨Qb F 2 _ Z,Qj F 2,⟨⟨n.os.trans h.bel.os,n.tape.trans h.bel.tape,n.output.trans h.bel.output,by simp;omega,fun k f=>(u k f).trans (h.bel.block k f)⟩,?_,?_,q,by simp;omega,G⟩⟩
 ·have:=Qh F 2 (.slice (some ⟨g,0,none⟩) (L.length+1) cap)
  simpa using this
 ·obtain⟨m,R,q2,U⟩:=h.row
  have e:m=xs:=by
   obtain⟨T,W⟩:=R
   obtain⟨f1,X⟩:=j
   rcases W with ⟨z,I⟩|⟨g1,Q,N,z,I,e5,e6,e7,e8,e9⟩
   ·have:L.length=0:=I
    rw[Xf.1 (show m.length=0 by rw[T,this]),Xf.1 (show xs.length=0 by rw[f1,this])]
   ·rcases X with ⟨y,f4⟩|⟨g2,J,K,y,f4,M,f6,f7,f8,f9⟩
    ·rw[y] at z;cases z
    ·rw[z] at y
     cases y
     rw[e5] at M
     cases M
     rw[<-e9,<-f9]
  subst e;refine⟨m++[Iv t.kind,Iv t.r,.slice p t.len d],?_,fun k f=>?_,?_⟩
  ·rw[List.length_append]
   exact Qe3 V (Xd _ _ _ _ D)
  ·simp[Value.ownBlock] at f
   subst f;exact o
  ·have l:∀ {x:TT 6} {C:List Value},(Lay.tt 6).In wc (fun g=>¬ (A g\/w.heap.size<=g)) x C->(Lay.tt 6).In (w9.setCell ⟨B,2,none⟩ (.slice (some ⟨g,0,none⟩) (L.length+1) cap)) (fun g=>¬ (A g\/w.heap.size<=g)) x C:=fun j=>(Lay.tt 6).keep (fun k f _=>u k (Nat.lt_of_not_le (fun e=>f (.inr e)))) (fun _ h _=>h) j;refine QcX (s:=3) (P:=fun x C=>(Lay.tt 6).In _ _ x C) R.1 (fun i x j=>l (U i x j)) (fun i x j=>?_);have hi:i<1:=by simpa using (Zi j).1
   have E:i=0:=by omega
   subst E;simp at j
   subst j;exact l S
end
theorem QdW {w:World}{v:Value}{xs:List Value}(h:w.ownsRow 0 e s v n xs) (j:Below w.heap.size w w'):w'.ownsRow 0 e s v n xs:=by
 obtain⟨d,i⟩:=h
 refine⟨d,?_⟩
 rcases i with k | ⟨g,b,a,l,f,c,r⟩
 ·exact .inl k
 ·exact .inr ⟨g,b,a,l,f,(j.block g (XC c)).trans c,r⟩
theorem TuS.lin {w wc:World}{B lo:Nat}{A:Nat->Prop}{r:Int}{L:List (TT 6)}(h:TuS w wc B lo A r (.slice a N c) L) (v:∀ k,A k->k<w.heap.size):LIn wc (fun g=>¬ A g) L a/\N=L.length/\∀ x∈L,x.ok:=by
 obtain⟨f,j,e,t,b,-⟩:=h.row.form
 simp only[Value.slice.injEq] at e
 obtain⟨rfl,rfl,rfl⟩:=e
 have s:=h.lo1;have z:=h.far;refine⟨fun i x d=>?_,Z,fun x d=>?_⟩
 ·obtain⟨g,f,j,e,o,l,m,n,p⟩:=b i x d
  subst e;have y:lo<=g:=h.row.own Z;refine⟨g,0,f,j,Z,fun e=>by have:=v g e;omega,?_,?_,?_,n.mono (fun k q _ e=>q (.inl e))⟩
  ·rw[XK];exact o
  ·rw[XK];exact l
  ·rw[XK];exact m
 ·obtain⟨i,u,e⟩:=List.mem_iff_getElem.1 d
  obtain⟨g,f,j,e,o,l,m,n,p⟩:=b i x (by rw[Zg u,e])
  exact p
theorem QhM {r:Int}{l:List (TT 6)}(h:∀ x∈l,x.count<=4681) (d:l.length<=8):TT.count (n:=7) (mkT 3 r l)<=100000:=by
 show 1+(l.map TT.count).sum<=100000;have b:=sum_le_mul (l.map TT.count) 4681 (fun x a=>by obtain⟨y,c,rfl⟩:=List.mem_map.1 a;exact h y c);rw[XN] at b
 have e:l.length*4681<=8*4681:=Xp _ d;omega
theorem QhJ {w:World}{A:Nat->Prop}(f:∀ k,A k->k<w.heap.size){r:Int}{L:List (TT 6)}(i:0<=r/\r<=1000) (h:¬ 4<TT.height (n:=7) (mkT 3 r L)) (e:LIn w (fun g=>¬ A g) L p) (a:∀ x∈L,x.ok) :
 (Qp 6).In (w.alloc (.cells #[Iv 3,Iv r,.slice p L.length c] 105)) (fun g=>¬ A g) [TT.at (n:=7) 5 (mkT 3 r L)] [.slice (some ⟨w.heap.size,0,none⟩) 1 d]:=by
 have b:TT.height (n:=7) (mkT 3 r L)<=5:=by omega
 have:=Qeq (t:=TT.at (n:=7) 5 (mkT 3 r L)) (p:=p) (c:=c) (d:=d) f (TIn.at 5 b (LIn.tree e)) (TT.at_ok 5 ⟨⟨by show -9223372036854775808<=r;omega,by show r<=9223372036854775807;omega⟩,a⟩)
 rw[TT.at_kind,TT.at_r,TT.at_len 5 _ b] at this
 exact this
theorem enters_value:Qah 270:=fun _ _=>by kernel_rfl
theorem Qhq {w:World}{A:Nat->Prop}{s:JSt}(a:Int){args:List Int}(hN:args.length=N) (az:N<=8) (hl:intsL.In w Q args [.slice pa N ca]) (hJ:JOk s) (hA:∀ k,A k->k<w.heap.size) (h:SAt w b O A s) :
 Calls prog 243 #[Pv b 0,Iv a,.slice pa N ca] w fun e w'=>QO w b O A s (s.tupleS a args) (s.tupleC a args) e w':=by
 have av:∀ (k r:Int) (p:Option Addr) (l c:Nat) (w:World),(Instr.field 105 (.agg #[Iv k,Iv r,.slice p l c]) 1).run prog w=.ok (Iv r) w:=fun _ _ _ _ _ _=>by kernel_rfl
 obtain⟨i0,hi,am,al,aq⟩:=pInfoT
 have H:=Qa h;have HA:=Qa hA;have HO:Hid (∀ k,O k->k<w.heap.size):=fun k V=>hA k (h.sub k V);have HL:=Qa hl;have HN:=Qa hN;have HJ:=Qa hJ;have hL:=hJ.vals;clear h hA hl hN hJ;go_enter func243,ntmps243
 go_wp2_with fail
 refine(Qab a 2 hL HO.out H.out).mono ?_
 rintro e' w2 ⟨hO,b2⟩;have HB:=Qa b2;clear b2;rcases hO with ⟨j,x,rfl,t,p,c,ha,rfl,ht,J⟩|⟨j,rfl⟩
 rotate_left
 ·exact⟨Z,QO.bad (by unfold JSt.tupleC;rw[Ql j]) j (Yh H.out HB.out)⟩
 have hr:0<=t.r/\t.r<s.H.length:=by
  obtain⟨t',e1,e2,e3⟩:=Z4 j
  rw[ha] at e1
  cases e1
  exact ZW (e3 Z)
 have HR:=Qa hr;have E:Hid (s.tupleC a args=match s.fields args with | none=>1 | some l=>if 4<TT.height (n:=7) (mkT 3 t.r l) then 19 else Q0 s.L.length 1):=by show _=_;unfold JSt.tupleC;rw[Qx j,ha]
 have ES:Hid (∀ l,s.fields args=some l->s.tupleS a args={ s with L:=s.L++[TT.at (n:=7) 5 (mkT 3 t.r l)] }):=fun l hl=>by unfold JSt.tupleS;rw[ha,hl]
 clear hr j ha ht J;simp only[Tv]
 go_upto_region 1 with fail
 have T0:Hid (TuS w (w2.alloc (.cells #[Iv 3,Iv t.r,Nv] 105)) w2.heap.size (w2.heap.size+1) A t.r (Nv) []) :=
  ⟨HB.out.trans ((Zd _ _).mono HB.out.size),Blk.new _ _ _,⟨[],⟨Z,.inl ⟨Z,Z⟩⟩,fun g hg=>by simp[Value.ownBlock] at hg,fun i x hx=>by simp at hx⟩,Nat.lt_succ_self _,by simp,HB.out.size⟩
 generalize w2.alloc (.cells #[Iv 3,Iv t.r,Nv] 105)=w3 at T0 |-;generalize w2.heap.size=B at T0 |-;generalize t.r=r at T0 HR E ES |-;clear HB;go_wp2
 go_loopw [16] (fun i wr=>∃ (k:Nat) (v:Value) (L:List (TT 6)),k<=N/\i=Iv k/\TuS w wr B (B+1) A r v L/\s.fields (args.take k)=some L) (fun i _=>N - (intOf i).toNat)
 case atStart=>exact⟨0,_,_,Xb _,Z,T0.out,Z⟩
 case round =>
  clear T0;obtain⟨k,v,L,V,rfl,hT,hf⟩:=hrel
  have HF:=Qa hf
  have ag:Hid (L.length=k):=by
   show _=_
   have:=(QaD hf).1
   rw[List.length_take,HN.out] at this
   omega
  have ae:L.length<=8:=by have:=ag.out;omega
  obtain⟨aL,W,rfl,ar,-,xs,ab⟩:=hT.row.form
  have D:=Qa hT;have ao:=Qa ab;clear hf hT ab;by_cases aj:k<N
  ·have ad:(k:Int)<N:=by omega
   have U:k<args.length:=by rw[HN.out];exact aj
   obtain⟨g,o,rfl,-,hg,S⟩:=ZI HL.out U
   obtain⟨y,hy⟩:∃ y,args[k]?=some y:=⟨_,Zg U⟩
   rw[show args.getD k 0=y by rw[List.getD_eq_getElem?_getD,hy];rfl] at S
   have HX:=Qa hy;have y0:=Qk S D.out.bel;have z2:=Qb D.out.box 2 _ Z;clear S U hy;go_upto_region 4 with fail
   have BD:Hid (Below w.heap.size w wr.drew):=Qb1 D.out.bel
   go_region_law (first
    | (refine Qeh Z 270 (.tmp 22) (.tmp 23) 234 3 Z enters_value (.pointer (some ⟨b,0,none⟩)) (.int .i64 y) (by simp[Act.eval,Act.put]) (by simp[Act.eval,Act.put]) (Qb7 y hL (H.out.more HO.out BD.out)) ?_
       rintro e' I ⟨hO,T⟩;rcases hO with ⟨j,x,rfl,u,q,d,hu,rfl,ai,J⟩|⟨j,rfl⟩
       rotate_left
       ·have ah:s.at y=none:=by
         unfold JSt.has at j
         cases e:s.at y with
         | none=>rfl
         | some t=>rw[e] at j;exact absurd Z j
        exact⟨Z,QO.bad (d:=s.has y) (by rw[E.out,QdL (Zm HX.out) ah];unfold JSt.has;rw[ah]) j (Yh H.out (BD.out.trans (T.mono BD.out.size)))⟩
       have T4:=Qa (D.out.below (Zx T));have HU:=Qa hu;have I4:Hid ((Lay.tt 6).In I (fun g=>¬ (A g\/w.heap.size<=g)) u [Iv u.kind,Iv u.r,.slice q u.len d]):=⟨q,d,Z,ai,J⟩;have z4:=Qb T4.out.box 2 _ Z;have an:=T4.out.box.lt;have z:=Qa (QdW ao.out (Zx T));clear hu ai J T j;dsimp only [QnK])
    | (refine step_append_lies _ Z (.tmp 21) (.tmp 25) 80 Z 0 105 i0 (.agg #[.int .i64 0,.int .i64 0,.slice none 0 0]) 3 40 pUnderT hi am al aq Z (by decide) (.slice aL L.length W) L.length xs (by simp[Act.eval,Act.put]) (z.out.alloc _) ⟨I.heap.size,0,none⟩ 1 1 [.int .i64 u.kind,.int .i64 u.r,.slice q u.len d] (by simp[Act.eval,Act.put]) Z (QjN _ _ _) (QlB _ _ _ _ _) (by decide) (by unfold maxLen;omega) (by omega) (Xb _) (I.heap.size+1) (by simp) ?_
       intro g2 X w9 h1 h2 h3 G;have b5:=Zd I (.cells #[Iv u.kind,Iv u.r,.slice q u.len d] 105);obtain⟨z9,f9,t9⟩:=(T4.out.below b5).push (QdW z.out b5) (Ya I4.out b5) h1 h2 (by simpa using h3)
       have T9:=Qa t9;clear h1 h2 h3 G b5 t9))
   all_goals
    have FF:=Qa (Qf9 HX.out HU.out HF.out);clear T4 HU I4 z4 z z9 f9 an;generalize w9.setCell ⟨B,2,none⟩ (.slice (some ⟨g2,0,none⟩) (L.length+1) X)=au at T9 |-;go_wp2
    go_roundw
    case rel=>exact⟨k+1,_,L++[u],aj,by go_num,T9.out,FF.out⟩
    case measure=>simp[intOf];omega
  ·have aw:k=N:=by omega
   have ad:¬ (k:Int)<N:=by omega
   have K:s.fields args=some L:=by
    have:=HF.out
    rwa [XO (by rw[HN.out];omega)] at this
   obtain⟨C,-,P⟩:=D.out.lin HA.out
   have R:∀ x∈L,x.check s.H.length=0:=fun x hx=>HJ.out.types x ((QaD K).2 x hx);have EC:Hid (TT.check (n:=7) (s.H.length:Int) (mkT 3 r L)=if 4<TT.height (n:=7) (mkT 3 r L) then 19 else 0):=Qf3 HR.out ae R;have E2:Hid (s.tupleC a args=if 4<TT.height (n:=7) (mkT 3 r L) then 19 else Q0 s.L.length 1):=by show _=_;rw[E.out,K]
   have ak:=Qa (ES.out L K);have ac:=Qa (Xh C P);have ap:Hid (TT.count (n:=7) (mkT 3 r L)<=100000):=QhM (fun x hx=>Qaf (R x hx)) ae;have H9:=Qa (H.out.below D.out.bel);obtain⟨pm,cm,hh,a1,c1,a2,c2,a3,c3,ay,ax,RR⟩:=H9.out.read
   obtain⟨-,q1,-⟩:=RR.cells
   have CL:Hid (∀ m,Calls prog 271 #[Pv hh 0] (wr.drewN m) fun e w'=>e=.returned (Iv (s.H.length:Int))/\w'=wr.drewN m):=fun m=>Qkk (show Qo (wr.drewN m) hh s.H from RR.held);have CC:Hid (Calls prog 223 #[.agg #[Iv 3,Iv r,.slice aL L.length W],Iv (s.H.length:Int)] wr.drew fun e w'=>e=.returned (Iv (TT.check (n:=7) (s.H.length:Int) (mkT 3 r L)))/\Below wr.drew.heap.size wr.drew w'):=check_any 7 (mkT 3 r L) aL W _ wr.drew (TIn.all (LIn.tree C).drew) ap.out;obtain⟨z0,z1,z2⟩:=Qlb D.out.box
   clear K C P R RR HF ag;generalize TT.check (n:=7) (s.H.length:Int) (mkT 3 r L)=ck at EC CC;generalize (s.H.length:Int)=nH at CL CC;go_upto_region 6 with fail
   go_region_with (first
    | (go_at_call 271;refine(CL.out _).mono ?_;rintro e w' ⟨rfl,M⟩;have M:=M.symm;subst M)
    | (go_at_call 223;refine(CC.out).mono ?_;rintro e I ⟨rfl,T⟩;have B4:=Qa (Zx T);clear T)
    | (go_at_call 268;refine(QbB _ _ _).mono ?_;rintro e' w' ⟨M,⟨hq,rfl⟩|⟨hq,rfl⟩⟩;rotate_left;exact⟨Z,QO.bad (d:=19) (by rw[E2.out];have f:ck≠0:=(by simpa using hq);rw[EC.out] at f;by_cases G:4<TT.height (n:=7) (mkT 3 r L);rw[Xs G];rw[Xr G] at f;exact absurd Z f) (by decide) (by rw[M];exact Yh H.out (D.out.bel.trans (B4.out.mono D.out.bel.size)))⟩;have M:=M.symm;subst M))
   all_goals
    have f:ck=0:=by simpa using hq
    have G:¬ 4<TT.height (n:=7) (mkT 3 r L):=fun G=>by
     have:=EC.out
     rw[Xs G,f] at this
     cases this
    have E3:Hid (s.tupleC a args=Q0 s.L.length 1):=by show _=_;rw[E2.out,Xr G]
    have T5:=Qa (D.out.below B4.out);have af:Hid (∀ k,A k->k<I.heap.size):=fun k V=>Zl (HA.out k V) T5.out.bel.size
    have CM:Hid (∀ d,Calls prog 244 #[Pv b 0,.slice (some ⟨I.heap.size,0,none⟩) 1 d] (I.alloc (.cells #[Iv 3,Iv r,.slice aL L.length W] 105)) fun e w'=>QO w b O A s (s.tupleS a args) (s.tupleC a args) e w'):=fun d=>by
     have b1:=Zd I (.cells #[Iv 3,Iv r,.slice aL L.length W] 105);have aa:=T5.out.bel.trans (b1.mono T5.out.bel.size);rw[ak.out,E3.out]
     exact(Qay (l:=[TT.at (n:=7) 5 (mkT 3 r L)]) Z (by simp) (QhJ (c:=W) (d:=d) af.out (by have:=HR.out;have:=HJ.out.regs;omega) G (ac.out.1.below B4.out) ac.out.2) hL (fun k V=>Zl (af.out k V) b1.size) (H.out.below aa)).mono (fun e w' hd=>hd.after aa)
    obtain⟨y0,y1,y2⟩:=Qlb T5.out.box
    clear hq f G CC CL E3;go_wp2_with fail
    refine(CM.out _).mono ?_
    rintro e' w5 hd;have F:=Qa hd;rcases hd with ⟨h1,rfl,h3⟩|⟨h1,rfl,h3⟩
    rotate_left
    ·exact⟨Z,F.out⟩
    clear h1 h3 CM;go_wp2
    exact Xz (v:=.tuple #[]) (by simp[results,results243,go_sem]) Z F.out
def Lay.listC {α:Type}(A:Lay α):Lay (List α) where
 size:=1
 In:=fun w O l cs=>(∃ a c,cs=[.slice a l.length c]/\l.length<=c)/\A.list.In w O l cs
 len:=fun h=>A.list.len h.2
 keep:=fun hb hl h=>⟨h.1,A.list.keep hb hl h.2⟩
def Lay.Sub {α:Type}(A B:Lay α):Prop:=A.size=B.size/\∀ {w:World}{O:Nat->Prop}{x:α}{cs:List Value},A.In w O x cs->B.In w O x cs
theorem Lay.Sub.refl {α:Type}(A:Lay α):Lay.Sub A A:=⟨Z,id⟩
theorem Lay.Sub.listC {α:Type}(A:Lay α):Lay.Sub A.listC A.list:=⟨Z,fun h=>h.2⟩
theorem Lay.Sub.pair {α β:Type}{A a:Lay α}{B b:Lay β}(h:Lay.Sub A a) (k:Lay.Sub B b):Lay.Sub (A.pair B) (a.pair b) :=
 ⟨by show A.size+B.size=a.size+b.size;rw[h.1,k.1],fun ⟨g,c,e,d,f⟩=>⟨g,c,e,h.2 d,k.2 f⟩⟩
theorem Lay.Sub.list {α:Type}{A b:Lay α}(h:Lay.Sub A b):Lay.Sub A.list b.list :=
 ⟨Z,fun ⟨a,c,e,k⟩=>⟨a,c,e,fun i x j=>by
  obtain⟨g,o,n,m,p,l,f,d⟩:=k i x j
  exact⟨g,o,n,m,p,l,by rw[<-h.1];exact f,h.2 d⟩⟩⟩
section
open Go.Deep
theorem Lay.Sub.via {α β:Type}{A a:Lay α}(h:Lay.Sub A a) (f:β->α):Lay.Sub (A.via f) (a.via f):=⟨h.1,fun k=>h.2 k⟩
theorem Qy.listC {α:Type}{A:Lay α}{B:α->Prop}(h:P.underlying t=some (.slice e)) (r:P.cellsOf t=1) (C:Qy P e A n B) (v:0<A.size) (f:0<P.bytesOf e):Qy P t A.listC n (fun l=>l.length<1152921504606846976) :=
 ⟨r,fun {H F w i d m o I x} u j z=>by
  obtain⟨l,k,E⟩:=(Qy.list h r C v f).2 u j z
  refine⟨l,⟨?_,k⟩,E⟩
  obtain⟨a,c,e,_⟩:=k
  refine⟨a,c,e,?_⟩
  rcases DataW.trod_slice h j with ⟨b,_⟩|⟨G,D,y,g,p,q,_,b,_,_,s,_⟩
  ·rw[e] at b
   simp at b
   simp[b.2.1]
  ·rw[e] at b
   simp at b
   omega⟩
abbrev intsC:Lay (List Int):=Lay.int.listC
def insC:Lay Qs:=(Lay.int.pair (Lay.int.pair (Lay.int.pair (Lay.int.pair (Lay.int.pair (Lay.int.pair (intsC.pair intsC))))))).via (fun x=>(x.op,x.a,x.b,x.c,x.k,x.n,x.regs,x.args))
def toC:Lay MTo:=(Lay.int.pair (intsC.pair intsC)).via (fun x=>(x.block,x.regs,x.args))
def endC:Lay ZA:=(Lay.int.pair (Lay.int.pair (toC.pair (toC.pair intsC)))).via (fun x=>(x.op,x.a,x.yes,x.no,x.args))
def Qbh (n:Nat):Lay (MBlock n):=(Lay.int.pair ((Qp n).pair (insC.list.pair endC))).via (fun x=>(x.regs,x.params,x.code,x.fin))
def QeD (n:Nat):Lay (MFunc n):=(Lay.int.pair ((Qp n).pair ((Qp n).pair (Qbh n).list))).via (fun x=>(x.regs,x.params,x.results,x.blocks))
abbrev QhH (n:Nat):Lay (List (MFunc n)):=(QeD n).list
theorem ints_sub:Lay.Sub intsC intsL:=Lay.Sub.listC _
theorem ins_sub:Lay.Sub insC insL:=.via (.pair (.refl _) (.pair (.refl _) (.pair (.refl _) (.pair (.refl _) (.pair (.refl _) (.pair (.refl _) (.pair ints_sub ints_sub))))))) _
theorem to_sub:Lay.Sub toC toL:=.via (.pair (.refl _) (.pair ints_sub ints_sub)) _
theorem end_sub:Lay.Sub endC endL:=.via (.pair (.refl _) (.pair (.refl _) (.pair to_sub (.pair to_sub ints_sub)))) _
theorem QiR (n:Nat):Lay.Sub (Qbh n) (Zo n):=.via (.pair (.refl _) (.pair (.refl _) (.pair (.list ins_sub) end_sub))) _
theorem QkG (n:Nat):Lay.Sub (QeD n) (ZS n):=.via (.pair (.refl _) (.pair (.refl _) (.pair (.refl _) (.list (QiR n))))) _
theorem QfY (n:Nat):Lay.Sub (QhH n) (QaN n):=.list (QkG n)
section
variable {w:World}{O:Nat->Prop}{cs:List Value}
theorem QhX {x:Qs}(h:insC.In w O x cs):∃ a c b d,cs=[Iv x.op,Iv x.a,Iv x.b,Iv x.c,Iv x.k,Iv x.n,.slice a x.regs.length c,.slice b x.args.length d]/\intsL.In w O x.regs [.slice a x.regs.length c]/\intsL.In w O x.args [.slice b x.args.length d]/\x.regs.length<=c/\x.args.length<=d:=by
 obtain⟨_,_,rfl,⟨rfl,_⟩,_,_,rfl,⟨rfl,_⟩,_,_,rfl,⟨rfl,_⟩,_,_,rfl,⟨rfl,_⟩,_,_,rfl,⟨rfl,_⟩,_,_,rfl,⟨rfl,_⟩,_,_,rfl,⟨⟨a,c,rfl,f⟩,e⟩,⟨b,d,rfl,g⟩,i⟩:=h
 exact⟨a,c,b,d,Z,e,i,f,g⟩
end
theorem QbP (n:Nat):Qy prog 76 intsC n (fun l=>l.length<1152921504606846976):=Qy.listC underlying76 (by kernel_rfl) (QaT n) (by decide) (by rw[show prog.bytesOf 3=8 from by kernel_rfl];decide)
theorem Qjv (n:Nat):Qy prog 78 insC n (fun x=>x.regs.length<1152921504606846976/\x.args.length<1152921504606846976):=by
 have h:=Qy.struct (n:=n) (A:=Lay.int.pair (Lay.int.pair (Lay.int.pair (Lay.int.pair (Lay.int.pair (Lay.int.pair (intsC.pair intsC))))))) underlying78 (by kernel_rfl) (QH.cons Z Z (QaT n) (QH.cons Z Z (QaT n) (QH.cons Z Z (QaT n) (QH.cons Z Z (QaT n) (QH.cons Z Z (QaT n) (QH.cons Z Z (QlJ n) (QH.cons Z Z (QbP n) (QH.last Z Z (QbP n)))))))));have e:=h.via (f:=fun x:Qs=>(x.op,x.a,x.b,x.c,x.k,x.n,x.regs,x.args)) (fun d=>⟨d.1,d.2.1,d.2.2.1,d.2.2.2.1,d.2.2.2.2.1,d.2.2.2.2.2.1,d.2.2.2.2.2.2.1,d.2.2.2.2.2.2.2⟩) (fun d=>rfl);exact⟨e.1,fun i l g=>by obtain⟨d,m,j⟩:=e.2 i l g;exact⟨d,m,j.2.2.2.2.2.2⟩⟩
theorem Qgn (n:Nat):Qy prog 82 toC n (fun x=>x.regs.length<1152921504606846976/\x.args.length<1152921504606846976):=by
 have h:=Qy.struct (n:=n) (A:=Lay.int.pair (intsC.pair intsC)) underlying82 (by kernel_rfl) (QH.cons Z Z (QaT n) (QH.cons Z Z (QbP n) (QH.last Z Z (QbP n))));have a:=h.via (f:=fun x:MTo=>(x.block,x.regs,x.args)) (fun d=>⟨d.1,d.2.1,d.2.2⟩) (fun d=>rfl);exact⟨a.1,fun c g b=>by obtain⟨d,i,e⟩:=a.2 c g b;exact⟨d,i,e.2⟩⟩
theorem QjC (n:Nat):Qy prog 84 endC n (fun x=>(x.yes.regs.length<1152921504606846976/\x.yes.args.length<1152921504606846976)/\(x.no.regs.length<1152921504606846976/\x.no.args.length<1152921504606846976)/\x.args.length<1152921504606846976):=by
 have h:=Qy.struct (n:=n) (A:=Lay.int.pair (Lay.int.pair (toC.pair (toC.pair intsC)))) underlying84 (by kernel_rfl) (QH.cons Z Z (QaT n) (QH.cons Z Z (QaT n) (QH.cons Z Z (Qgn n) (QH.cons Z Z (Qgn n) (QH.last Z Z (QbP n))))));have b:=h.via (f:=fun x:ZA=>(x.op,x.a,x.yes,x.no,x.args)) (fun d=>⟨d.1,d.2.1,d.2.2.1,d.2.2.2.1,d.2.2.2.2⟩) (fun d=>rfl);exact⟨b.1,fun e i c=>by obtain⟨d,j,g⟩:=b.2 e i c;exact⟨d,j,g.2.2⟩⟩
theorem Qho (n:Nat):Qy prog 79 insC.list n (fun l=>l.length<1152921504606846976):=Qy.list underlying79 (by kernel_rfl) (Qjv n) (by decide) (by rw[show prog.bytesOf 78=96 from by kernel_rfl];decide)
theorem QfD (n:Nat):Qy prog 86 (Qbh n) n (fun _=>True):=by
 have h:=Qy.struct (n:=n) (A:=Lay.int.pair ((Qp n).pair (insC.list.pair endC))) underlying86 (by kernel_rfl) (QH.cons Z Z (QaT n) (QH.cons Z Z (Qfw n) (QH.cons Z Z (Qho n) (QH.last Z Z (QjC n)))));have a:=h.via (f:=fun x:MBlock n=>(x.regs,x.params,x.code,x.fin)) (fun d=>⟨d.1,d.2.1,d.2.2.1,d.2.2.2⟩) (fun d=>rfl);exact⟨a.1,fun c e b=>by obtain⟨d,g,i⟩:=a.2 c e b;exact⟨d,g,Y⟩⟩
theorem QeC (n:Nat):Qy prog 87 (Qbh n).list n (fun l=>l.length<1152921504606846976):=Qy.list underlying87 (by kernel_rfl) (QfD n) (by show 0<12;decide) (by rw[show prog.bytesOf 86=208 from by kernel_rfl];decide)
theorem Qg6 (n:Nat):Qy prog 89 (QeD n) n (fun _=>True):=by
 have h:=Qy.struct (n:=n) (A:=Lay.int.pair ((Qp n).pair ((Qp n).pair (Qbh n).list))) underlying89 (by kernel_rfl) (QH.cons Z Z (QaT n) (QH.cons Z Z (Qfw n) (QH.cons Z Z (Qfw n) (QH.last Z Z (QeC n)))));have a:=h.via (f:=fun x:MFunc n=>(x.regs,x.params,x.results,x.blocks)) (fun d=>⟨d.1,d.2.1,d.2.2.1,d.2.2.2⟩) (fun d=>rfl);exact⟨a.1,fun c e b=>by obtain⟨d,g,i⟩:=a.2 c e b;exact⟨d,g,Y⟩⟩
theorem QfF (n:Nat):Qy prog 22 (QhH n) n (fun l=>l.length<1152921504606846976):=Qy.list underlying22 (by kernel_rfl) (Qg6 n) (by show 0<4;decide) (by rw[show prog.bytesOf 89=80 from by kernel_rfl];decide)
theorem Qfb (n:Nat):Qy prog 24 (QhH n) n (fun _=>True):=by
 have h:=Qy.struct (n:=n) (A:=QhH n) underlying24 (by kernel_rfl) (QH.last Z Z (QfF n));exact⟨h.1,fun b c a=>by obtain⟨d,e,f⟩:=h.2 b c a;exact⟨d,e,Y⟩⟩
end
abbrev Qed (x:Qs) (rg ag:Option Addr) (rc ac:Nat):Value:=.agg #[Iv x.op,Iv x.a,Iv x.b,Iv x.c,Iv x.k,Iv x.n,.slice rg x.regs.length rc,.slice ag x.args.length ac]
def ZB (x:Qs):Prop:=(-9223372036854775808<=x.a/\x.a<=9223372036854775807)/\(-9223372036854775808<=x.b/\x.b<=9223372036854775807)/\(-9223372036854775808<=x.c/\x.c<=9223372036854775807)
theorem QkN {x:Qs}(h:insC.In w O x cs):ZB x:=by
 obtain⟨_,_,rfl,⟨rfl,_⟩,_,_,rfl,⟨rfl,e⟩,_,_,rfl,⟨rfl,f⟩,_,_,rfl,⟨rfl,g⟩,_,_,rfl,⟨rfl,_⟩,_,_,rfl,⟨rfl,_⟩,_,_,rfl,⟨⟨a,c,rfl,i⟩,j⟩,⟨b,d,rfl,k⟩,l⟩:=h
 exact⟨e,f,g⟩
noncomputable def JSt.goC (s:JSt) (x:Qs):Int:=Qv (s.makes x).1 (Q0 s.L.length (s.makes x).2.length)
theorem Ql6 {s:JSt}{x:Qs}(a:x.form s.m.length=0):s.code x=s.goC x:=by
 unfold JSt.code JSt.goC Qv Q0;rw[Xr (by rw[a];simp)]
 by_cases h:(s.makes x).1=0
 ·rw[Xr (by rw[h];simp),Xs h]
 ·rw[Xs h,Xr h]
theorem QbE (h:n<=80):Q0 n 0=0:=Xr (by omega)
theorem QfZ {a:Int}:Qv a 0=a:=by unfold Qv;split<;>simp_all
theorem QO.to {A:Nat->Prop}{s f g:JSt}{c a:Int}{e:Ending}(l:QO w b O A s f c e w') (m:a=c) (k:c=0->g=f):QO w b O A s g a e w':=by
 subst m;rcases l with ⟨d,i,j⟩ | h
 ·exact .inl ⟨d,i,by rw[k d];exact j⟩
 ·exact .inr h
theorem QO.none {A:Nat->Prop}{s c:JSt}{a:Int}(h:SAt w b O A s) (d:Below w.heap.size w w') (f:a=0) (e:c=s):QO w b O A s c a (.returned (.tuple #[])) w':=.inl ⟨f,Z,by rw[e];exact Yh h d⟩
theorem QT {s:JSt}{x:Qs}(a:x.op≠3) (b:x.op≠4):s.next x={ s with L:=s.L++(s.makes x).2 }:=by unfold JSt.next;rw[Xr a,Xr b]
structure Qn9 (w:World) (b:Nat) (O A Q:Nat->Prop) (s:JSt) (c:Array Value) (xr xs:List Int) (rg ag:Option Addr) (rc ac:Nat) (w1:World) (X:Nat):Prop where
 HJ:Hid (JOk s)
 H0:Hid (SAt w b O A s)
 HA0:Hid (∀ k,A k->k<w.heap.size)
 H:Hid (SAt w1 b O A s)
 HR:Hid (intsL.In w1 Q xr [.slice rg xr.length rc])
 HG:Hid (intsL.In w1 Q xs [.slice ag xs.length ac])
 HB:Hid (Below w.heap.size w w1)
 HA:Hid (∀ k,A k->k<w1.heap.size)
 HO:Hid (∀ k,O k->k<w1.heap.size)
 X1:Hid (Blk w1 X c 78)
 HRC:Hid (xr.length<=rc)
theorem Qgj {A:Nat->Prop}{s:JSt}{f:List Int}(j:∀ k,A k->k<w.heap.size) (l:JOk s) (h:SAt w b O A s) (a:intsL.In w Q f [.slice rg f.length rc]) (d:intsL.In w Q xs [.slice ag xs.length ac]) (i:f.length<=rc) (c:Array Value):Qn9 w b O A Q s c f xs rg ag rc ac (w.alloc (.cells c 78)) w.heap.size :=
 have e:=Zd w (.cells c 78);⟨l,h,j,h.below e,Ya a e,Ya d e,e,fun k g=>Zl (j k g) e.size,fun k g=>Zl (j k (h.sub k g)) e.size,Blk.new _ _ _,i⟩
theorem QV {f g d c b a e i:Value}(h:Blk w X #[f,g,d,c,b,a,e,i] t):w.cell? ⟨X,0,none⟩=some f/\w.cell? ⟨X,1,none⟩=some g/\w.cell? ⟨X,2,none⟩=some d/\w.cell? ⟨X,3,none⟩=some c/\w.cell? ⟨X,4,none⟩=some b/\w.cell? ⟨X,5,none⟩=some a/\w.cell? ⟨X,6,none⟩=some e/\w.cell? ⟨X,7,none⟩=some i :=
 ⟨Qb h 0 _ Z,Qb h 1 _ Z,Qb h 2 _ Z,Qb h 3 _ Z,Qb h 4 _ Z,Qb h 5 _ Z,Qb h 6 _ Z,Qb h 7 _ Z⟩
theorem QlP {A:Nat->Prop}{s:JSt}{x:Qs}(G:∀ k,A k->k<w.heap.size) (y:JOk s) (h:SAt w b O A s) (a:intsL.In w Q x.regs [.slice rg x.regs.length rc]) (c:intsL.In w Q x.args [.slice ag x.args.length ac]) (p:x.regs.length<=rc) (t:ZB x) (D:x.form s.m.length=0) (d:x.op=1) :
 Calls prog 212 #[Pv b 0,Qed x rg ag rc ac] w fun e w'=>QO w b O A s (s.next x) (s.goC x) e w':=by
 have C:=Z1 (s:=s) (.inl d);obtain⟨op,f,l,g,j,o,i,n⟩:=x
 have d:op=1:=d;subst d;have N:=Qa C;obtain⟨R,J,K,-⟩:=Q5 D
 have HF:=Qa (Xh R (Xh J K));obtain⟨P,I,q⟩:=t
 have HI:=Qa (Xh P (Xh I q));have T:=y.vals;have B:=Qa (Qgj G y h a c p #[Iv 1,Iv f,Iv l,Iv g,Iv j,Iv o,.slice rg i.length rc,.slice ag n.length ac]);clear h G y a c C D R J K P I q p;go_enter func212,ntmps212
 go_upto_region 1 with fail
 generalize w.alloc (.cells #[Iv 1,Iv f,Iv l,Iv g,Iv j,Iv o,.slice rg i.length rc,.slice ag n.length ac] 78)=w1 at B |-;generalize w.heap.size=X at B |-;obtain⟨HJ,H0,U,H,HR,HG,HB,HA,HO,X1,W⟩:=B.out
 clear B;obtain⟨x0,x1,x2,x3,x4,-,x6,x7⟩:=QV X1.out
 have z:Hid (∀ e r,QO w b O A s { s with L:=s.L++[tInt] } (Q0 s.L.length 1) e r->QO w b O A s (s.next ⟨1,f,l,g,j,o,i,n⟩) (s.goC ⟨1,f,l,g,j,o,i,n⟩) e r):=fun e r u=>u.to (by unfold JSt.goC;rw[N.out];rfl) (fun _=>by rw[QT (by simp) (by simp),N.out]);have M:=Qa (QbQ T HA.out H.out);go_wp2_with fail
 refine M.out.mono ?_;rintro V r u;have S:Hid (QO w b O A s (s.next ⟨1,f,l,g,j,o,i,n⟩) (s.goC ⟨1,f,l,g,j,o,i,n⟩) V r):=z.out _ _ (u.after HB.out);rcases u with ⟨E,rfl,F⟩|⟨E,rfl,F⟩
 rotate_left
 ·exact⟨Z,S.out⟩
 clear E F M;go_wp2
 exact Xz (v:=.tuple #[]) (by simp[results,results212,go_sem]) Z S.out
theorem QmA {A:Nat->Prop}{s:JSt}{x:Qs}(G:∀ k,A k->k<w.heap.size) (y:JOk s) (h:SAt w b O A s) (a:intsL.In w Q x.regs [.slice rg x.regs.length rc]) (c:intsL.In w Q x.args [.slice ag x.args.length ac]) (p:x.regs.length<=rc) (t:ZB x) (D:x.form s.m.length=0) (d:x.op=12) :
 Calls prog 212 #[Pv b 0,Qed x rg ag rc ac] w fun e w'=>QO w b O A s (s.next x) (s.goC x) e w':=by
 have C:=Z1 (s:=s) (.inr d);obtain⟨op,f,l,g,j,o,i,n⟩:=x
 have d:op=12:=d;subst d;have N:=Qa C;obtain⟨R,J,K,-⟩:=Q5 D
 have HF:=Qa (Xh R (Xh J K));obtain⟨P,I,q⟩:=t
 have HI:=Qa (Xh P (Xh I q));have T:=y.vals;have B:=Qa (Qgj G y h a c p #[Iv 12,Iv f,Iv l,Iv g,Iv j,Iv o,.slice rg i.length rc,.slice ag n.length ac]);clear h G y a c C D R J K P I q p;go_enter func212,ntmps212
 go_upto_region 1 with fail
 generalize w.alloc (.cells #[Iv 12,Iv f,Iv l,Iv g,Iv j,Iv o,.slice rg i.length rc,.slice ag n.length ac] 78)=w1 at B |-;generalize w.heap.size=X at B |-;obtain⟨HJ,H0,U,H,HR,HG,HB,HA,HO,X1,W⟩:=B.out
 clear B;obtain⟨x0,x1,x2,x3,x4,-,x6,x7⟩:=QV X1.out
 have z:Hid (∀ e r,QO w b O A s { s with L:=s.L++[tInt] } (Q0 s.L.length 1) e r->QO w b O A s (s.next ⟨12,f,l,g,j,o,i,n⟩) (s.goC ⟨12,f,l,g,j,o,i,n⟩) e r):=fun e r u=>u.to (by unfold JSt.goC;rw[N.out];rfl) (fun _=>by rw[QT (by simp) (by simp),N.out]);have M:=Qa (QbQ T HA.out H.out);go_wp2_with fail
 refine M.out.mono ?_;rintro V r u;have S:Hid (QO w b O A s (s.next ⟨12,f,l,g,j,o,i,n⟩) (s.goC ⟨12,f,l,g,j,o,i,n⟩) V r):=z.out _ _ (u.after HB.out);rcases u with ⟨E,rfl,F⟩|⟨E,rfl,F⟩
 rotate_left
 ·exact⟨Z,S.out⟩
 clear E F M;go_wp2
 exact Xz (v:=.tuple #[]) (by simp[results,results212,go_sem]) Z S.out
theorem Ql5 {A:Nat->Prop}{s:JSt}{x:Qs}(V:∀ k,A k->k<w.heap.size) (F:JOk s) (h:SAt w b O A s) (a:intsL.In w Q x.regs [.slice rg x.regs.length rc]) (c:intsL.In w Q x.args [.slice ag x.args.length ac]) (r:x.regs.length<=rc) (C:ZB x) (N:x.form s.m.length=0) (i:x.op=2) :
 Calls prog 212 #[Pv b 0,Qed x rg ag rc ac] w fun e w'=>QO w b O A s (s.next x) (s.goC x) e w':=by
 have P:=QbO (s:=s) i;obtain⟨op,f,g,j,n,p,l,o⟩:=x
 have i:op=2:=i;subst i;have HE:=Qa P;obtain⟨f1,f2,f3,-⟩:=Q5 N
 have HF:=Qa (Xh f1 (Xh f2 f3));obtain⟨ra,rb,u⟩:=C
 have W:=Qa (Xh ra (Xh rb u));have K:=F.vals;have B:=Qa (Qgj V F h a c r #[Iv 2,Iv f,Iv g,Iv j,Iv n,Iv p,.slice rg l.length rc,.slice ag o.length ac]);clear h V F a c P N f1 f2 f3 ra rb u r;go_enter func212,ntmps212
 go_upto_region 1 with fail
 generalize w.alloc (.cells #[Iv 2,Iv f,Iv g,Iv j,Iv n,Iv p,.slice rg l.length rc,.slice ag o.length ac] 78)=w1 at B |-;generalize w.heap.size=X at B |-;obtain⟨HJ,H0,aa,H,HR,HG,HB,HA,HO,X1,ab⟩:=B.out
 clear B;obtain⟨x0,x1,x2,x3,x4,-,x6,x7⟩:=QV X1.out
 have M:Hid (s.goC ⟨2,f,g,j,n,p,l,o⟩=Qv (Qv (s.want f 1 false) (s.want g 1 false)) (Q0 s.L.length 1)):=by show _=_;unfold JSt.goC;rw[HE.out];rfl
 have U:=Qa (fun d=>Qfh f g W.out.1 W.out.2.1 d K HO.out H.out);go_wp2_with fail
 refine(U.out _).mono ?_
 rintro R w2 ⟨hq,t⟩;have y:=Qa (HB.out.trans (t.mono HB.out.size));have H2:=Qa (H.out.below t);have E:=Qa (fun k I=>Zl (HA.out k I) t.size);have ad:=Qa (fun k I=>Zl (HO.out k I) t.size);rcases hq with ⟨q,y2,rfl,hy⟩|⟨q,rfl⟩
 rotate_left
 ·exact⟨Z,QO.bad ((fun q=>by rw[M.out,Ql q]) q) q (Yh H0.out y.out)⟩
 subst hy;have G:=Qa q;clear q t U;have J:Hid (∀ e z,QO w b O A s { s with L:=s.L++[tInt] } (Q0 s.L.length 1) e z->QO w b O A s (s.next ⟨2,f,g,j,n,p,l,o⟩) (s.goC ⟨2,f,g,j,n,p,l,o⟩) e z):=fun e z D=>D.to (by rw[M.out,Qx G.out]) (fun _=>by rw[QT (by simp) (by simp),HE.out]);have CM:=Qa (QbQ K E.out H2.out);go_wp2_with fail
 refine CM.out.mono ?_;rintro R z D;have FF:Hid (QO w b O A s (s.next ⟨2,f,g,j,n,p,l,o⟩) (s.goC ⟨2,f,g,j,n,p,l,o⟩) R z):=J.out _ _ (D.after y.out);rcases D with ⟨S,rfl,T⟩|⟨S,rfl,T⟩
 rotate_left
 ·exact⟨Z,FF.out⟩
 clear S T CM;go_wp2
 exact Xz (v:=.tuple #[]) (by simp[results,results212,go_sem]) Z FF.out
theorem QlX {A:Nat->Prop}{s:JSt}{x:Qs}(K:∀ k,A k->k<w.heap.size) (D:JOk s) (h:SAt w b O A s) (c:intsL.In w Q x.regs [.slice rg x.regs.length rc]) (d:intsL.In w Q x.args [.slice ag x.args.length ac]) (r:x.regs.length<=rc) (y:ZB x) (G:x.form s.m.length=0) (f:x.op=3) :
 Calls prog 212 #[Pv b 0,Qed x rg ag rc ac] w fun e w'=>QO w b O A s (s.next x) (s.goC x) e w':=by
 have F:=QbM (s:=s) f;obtain⟨op,i,o,j,n,q,l,p⟩:=x
 have f:op=3:=f;subst f;have S:=Qa F;obtain⟨U,N,P,-⟩:=Q5 G
 have HF:=Qa (Xh U (Xh N P));obtain⟨T,M,t⟩:=y
 have HI:=Qa (Xh T (Xh M t));have W:=D.vals;have B:=Qa (Qgj K D h c d r #[Iv 3,Iv i,Iv o,Iv j,Iv n,Iv q,.slice rg l.length rc,.slice ag p.length ac]);clear h K D c d F G U N P T M t r;go_enter func212,ntmps212
 go_upto_region 1 with fail
 generalize w.alloc (.cells #[Iv 3,Iv i,Iv o,Iv j,Iv n,Iv q,.slice rg l.length rc,.slice ag p.length ac] 78)=w1 at B |-;generalize w.heap.size=X at B |-;obtain⟨HJ,H0,aa,H,HR,HG,HB,HA,HO,X1,ab⟩:=B.out
 clear B;obtain⟨x0,x1,x2,x3,x4,-,x6,x7⟩:=QV X1.out
 have E:Hid (∀ e u,QO w b O A s s.openS s.openC e u->QO w b O A s (s.next ⟨3,i,o,j,n,q,l,p⟩) (s.goC ⟨3,i,o,j,n,q,l,p⟩) e u):=fun e u z=>z.to (by
  unfold JSt.goC;rw[S.out]
  by_cases a:s.H.length=16
  ·rw[Xs a]
   show Qv 2 _=s.openC;unfold JSt.openC;rw[Xs (Or.inr a)];rfl
  ·rw[Xr a]
   show Qv 0 (Q0 s.L.length 1)=s.openC;rw[Qx Z]
   unfold Q0 JSt.openC;by_cases g:80<s.L.length+1
   ·rw[Xs g,Xs (Or.inl g)]
   ·rw[Xr g,Xr (by omega)]) (fun C=>by
  unfold JSt.openC at C;unfold JSt.next JSt.openS
  rw[S.out]
  by_cases a:s.H.length=16
  ·rw[Xs (Or.inr a)] at C;cases C
  ·rw[Xr a];rfl)
 have R:=Qa (QiG HJ.out.regs W HA.out H.out);go_wp2_with fail
 refine R.out.mono ?_;rintro e' u z;have V:Hid (QO w b O A s (s.next ⟨3,i,o,j,n,q,l,p⟩) (s.goC ⟨3,i,o,j,n,q,l,p⟩) e' u):=E.out _ _ (z.after HB.out);rcases z with ⟨I,rfl,J⟩|⟨I,rfl,J⟩
 rotate_left
 ·exact⟨Z,V.out⟩
 clear I J R;go_wp2
 exact Xz (v:=.tuple #[]) (by simp[results,results212,go_sem]) Z V.out
theorem Qj5 {A:Nat->Prop}{s:JSt}{x:Qs}(M:∀ k,A k->k<w.heap.size) (D:JOk s) (h:SAt w b O A s) (c:intsL.In w Q x.regs [.slice rg x.regs.length rc]) (d:intsL.In w Q x.args [.slice ag x.args.length ac]) (q:x.regs.length<=rc) (z:ZB x) (I:x.form s.m.length=0) (g:x.op=4) :
 Calls prog 212 #[Pv b 0,Qed x rg ag rc ac] w fun e w'=>QO w b O A s (s.next x) (s.goC x) e w':=by
 have G:=Qaz (s:=s) g;obtain⟨op,a,n,i,l,p,j,o⟩:=x
 have g:op=4:=g;subst g;have T:=Qa G;obtain⟨V,P,R,-⟩:=Q5 I
 have HF:=Qa (Xh V (Xh P R));obtain⟨U,N,u⟩:=z
 have HI:=Qa (Xh U (Xh N u));have F:=D.vals;have B:=Qa (Qgj M D h c d q #[Iv 4,Iv a,Iv n,Iv i,Iv l,Iv p,.slice rg j.length rc,.slice ag o.length ac]);clear h M D c d G I V P R U N u q;go_enter func212,ntmps212
 go_upto_region 1 with fail
 generalize w.alloc (.cells #[Iv 4,Iv a,Iv n,Iv i,Iv l,Iv p,.slice rg j.length rc,.slice ag o.length ac] 78)=w1 at B |-;generalize w.heap.size=X at B |-;obtain⟨HJ,H0,aa,H,HR,HG,HB,HA,HO,X1,ab⟩:=B.out
 clear B;obtain⟨x0,x1,x2,x3,x4,-,x6,x7⟩:=QV X1.out
 have E:Hid (∀ e y,QO w b O A s (s.freeS a) (s.freeC a) e y->QO w b O A s (s.next ⟨4,a,n,i,l,p,j,o⟩) (s.goC ⟨4,a,n,i,l,p,j,o⟩) e y):=fun e y C=>C.to (by
  unfold JSt.goC JSt.freeC;rw[T.out]
  show Qv (match s.at a with | none=>(1,[]) | some t=>(Qv (s.want a 2 true) (if t.r<s.f.regs then 11 else 0),[])).1 _=_
  cases s.at a with
  | none=>rfl
  | some t=>show Qv _ (Q0 s.L.length 0)=_;rw[QbE F,QfZ]) (fun h0=>by
  unfold JSt.next JSt.freeS
  rw[T.out]
  show ({ s with H:=_,L:=s.L++(match s.at a with | none=>(1,[]) | some t=>(Qv (s.want a 2 true) (if t.r<s.f.regs then 11 else 0),[])).2 }:JSt)=_
  cases s.at a with
  | none=>simp
  | some t=>simp)
 have S:=Qa (Qjh a F HA.out H.out);go_wp2_with fail
 refine S.out.mono ?_;rintro e' y C;have W:Hid (QO w b O A s (s.next ⟨4,a,n,i,l,p,j,o⟩) (s.goC ⟨4,a,n,i,l,p,j,o⟩) e' y):=E.out _ _ (C.after HB.out);rcases C with ⟨J,rfl,K⟩|⟨J,rfl,K⟩
 rotate_left
 ·exact⟨Z,W.out⟩
 clear J K S;go_wp2
 exact Xz (v:=.tuple #[]) (by simp[results,results212,go_sem]) Z W.out
theorem Qjs {A:Nat->Prop}{s:JSt}{x:Qs}(P:∀ k,A k->k<w.heap.size) (I:JOk s) (h:SAt w b O A s) (d:intsL.In w Q x.regs [.slice rg x.regs.length rc]) (f:intsL.In w Q x.args [.slice ag x.args.length ac]) (C:x.regs.length<=rc) (F:ZB x) (L:x.form s.m.length=0) (j:x.op=5) :
 Calls prog 212 #[Pv b 0,Qed x rg ag rc ac] w fun e w'=>QO w b O A s (s.next x) (s.goC x) e w':=by
 have K:=Qbp (s:=s) j;obtain⟨op,a,y,p,u,z,q,i⟩:=x
 have j:op=5:=j;subst j;have V:=Qa K;obtain⟨f1,S,T,-⟩:=Q5 L
 have HF:=Qa (Xh f1 (Xh S T));obtain⟨W,R,D⟩:=F
 have HI:=Qa (Xh W (Xh R D));have hL:=I.vals;have B:=Qa (Qgj P I h d f C #[Iv 5,Iv a,Iv y,Iv p,Iv u,Iv z,.slice rg q.length rc,.slice ag i.length ac]);clear h P I d f K L f1 S T W R D C;go_enter func212,ntmps212
 go_upto_region 1 with fail
 generalize w.alloc (.cells #[Iv 5,Iv a,Iv y,Iv p,Iv u,Iv z,.slice rg q.length rc,.slice ag i.length ac] 78)=w1 at B |-;generalize w.heap.size=X at B |-;obtain⟨HJ,H0,aa,H,HR,HG,HB,HA,HO,X1,ab⟩:=B.out
 clear B;obtain⟨x0,x1,x2,x3,x4,-,x6,x7⟩:=QV X1.out
 have J:Hid (∀ e E,QO w b O A s (s.tupleS a i) (s.tupleC a i) e E->QO w b O A s (s.next ⟨5,a,y,p,u,z,q,i⟩) (s.goC ⟨5,a,y,p,u,z,q,i⟩) e E):=fun e E G=>G.to (by
  unfold JSt.goC JSt.tupleC;rw[V.out]
  simp only
  cases ha:s.at a with
  | none=>unfold JSt.want;rw[ha];rfl
  | some t =>
    simp only
    by_cases g:s.want a 2 true=0
    ·rw[Xs g,Qx g]
     cases s.fields i with
     | none=>rfl
     | some l =>
       simp only
       by_cases o:4<TT.height (n:=7) (mkT 3 t.r l)
       ·rw[Xs o,Xs o];rfl
       ·rw[Xr o,Xr o];rfl
    ·rw[Xr g,Ql g,Ql g]) (fun c=>by
  rw[QT (by simp) (by simp),V.out]
  unfold JSt.tupleC at c;unfold JSt.tupleS;simp only
  cases ha:s.at a with
  | none=>rfl
  | some t =>
    rw[ha] at c
    simp only at c |-
    by_cases g:s.want a 2 true=0
    ·rw[Qx g] at c
     rw[Xs g]
     cases hl:s.fields i with
     | none=>simp[hl] at c
     | some l =>
       rw[hl] at c
       simp only at c |-
       by_cases o:4<TT.height (n:=7) (mkT 3 t.r l)
       ·rw[Xs o] at c;cases c
       ·rw[Xr o]
    ·rw[Ql g] at c;exact absurd c g)
 have U:=Qa (Qhq a Z (HF.out.2.2 Z) HG.out HJ.out HA.out H.out);go_wp2_with fail
 refine U.out.mono ?_;rintro e' E G;have FF:Hid (QO w b O A s (s.next ⟨5,a,y,p,u,z,q,i⟩) (s.goC ⟨5,a,y,p,u,z,q,i⟩) e' E):=J.out _ _ (G.after HB.out);rcases G with ⟨M,rfl,N⟩|⟨M,rfl,N⟩
 rotate_left
 ·exact⟨Z,FF.out⟩
 clear M N U;go_wp2
 exact Xz (v:=.tuple #[]) (by simp[results,results212,go_sem]) Z FF.out
theorem Qi0 {A:Nat->Prop}{s:JSt}{x:Qs}(M:∀ k,A k->k<w.heap.size) (D:JOk s) (h:SAt w b O A s) (c:intsL.In w Q x.regs [.slice rg x.regs.length rc]) (d:intsL.In w Q x.args [.slice ag x.args.length ac]) (q:x.regs.length<=rc) (z:ZB x) (I:x.form s.m.length=0) (f:x.op=8) :
 Calls prog 212 #[Pv b 0,Qed x rg ag rc ac] w fun e w'=>QO w b O A s (s.next x) (s.goC x) e w':=by
 have G:=Qbs (s:=s) f;obtain⟨op,a,g,j,n,p,l,o⟩:=x
 have f:op=8:=f;subst f;have E:=Qa G;obtain⟨U,P,R,-⟩:=Q5 I
 have HF:=Qa (Xh U (Xh P R));obtain⟨T,N,u⟩:=z
 have HI:=Qa (Xh T (Xh N u));have hL:=D.vals;have B:=Qa (Qgj M D h c d q #[Iv 8,Iv a,Iv g,Iv j,Iv n,Iv p,.slice rg l.length rc,.slice ag o.length ac]);clear h M D c d G I U P R T N u q;go_enter func212,ntmps212
 go_upto_region 1 with fail
 generalize w.alloc (.cells #[Iv 8,Iv a,Iv g,Iv j,Iv n,Iv p,.slice rg l.length rc,.slice ag o.length ac] 78)=w1 at B |-;generalize w.heap.size=X at B |-;obtain⟨HJ,H0,aa,H,HR,HG,HB,HA,HO,X1,ab⟩:=B.out
 clear B;obtain⟨x0,x1,x2,x3,x4,-,x6,x7⟩:=QV X1.out
 have F:Hid (∀ e y,(∀ t,(s.at a=some t\/(s.at a=none/\t=tInt))->QO w b O A s { s with L:=s.L++[mkT 4 t.r []] } (s.arrayC a g) e y)->QO w b O A s (s.next ⟨8,a,g,j,n,p,l,o⟩) (s.goC ⟨8,a,g,j,n,p,l,o⟩) e y):=fun e y i=>by
  cases ha:s.at a with
  | none =>
    refine(i tInt (.inr ⟨ha,Z⟩)).to (by unfold JSt.goC JSt.arrayC;rw[E.out];simp only[ha];unfold JSt.want;rw[ha];rfl) (fun C=>?_)
    unfold JSt.arrayC JSt.want at C;rw[ha] at C
    cases C
  | some t =>
    refine(i t (.inl ha)).to (by unfold JSt.goC JSt.arrayC;rw[E.out];simp only[ha];rfl) (fun C=>?_)
    rw[QT (by simp) (by simp),E.out]
    simp only[ha]
 have S:=Qa (QgX a g HI.out.2.1 HJ.out.regs hL HA.out H.out);go_wp2_with fail
 refine S.out.mono ?_;rintro e' y i;have V:Hid (QO w b O A s (s.next ⟨8,a,g,j,n,p,l,o⟩) (s.goC ⟨8,a,g,j,n,p,l,o⟩) e' y):=F.out _ _ (fun t W=>(i t W).after HB.out);have i:=i ((s.at a).getD tInt) (by cases s.at a with | none=>exact .inr ⟨Z,Z⟩ | some t=>exact .inl Z);rcases i with ⟨J,rfl,K⟩|⟨J,rfl,K⟩
 rotate_left
 ·exact⟨Z,V.out⟩
 clear J K S;go_wp2
 exact Xz (v:=.tuple #[]) (by simp[results,results212,go_sem]) Z V.out
theorem QkF {A:Nat->Prop}{s:JSt}{x:Qs}(hA:∀ k,A k->k<w.heap.size) (R:JOk s) (h:SAt w b O A s) (c:intsL.In w Q x.regs [.slice rg x.regs.length rc]) (f:intsL.In w Q x.args [.slice ag x.args.length ac]) (z:x.regs.length<=rc) (I:ZB x) (hf:x.form s.m.length=0) (j:x.op=9) :
 Calls prog 212 #[Pv b 0,Qed x rg ag rc ac] w fun e w'=>QO w b O A s (s.next x) (s.goC x) e w':=by
 have hE:=Qa5 (s:=s) j;obtain⟨op,g,i,l,o,t,n,r⟩:=x
 have j:op=9:=j;subst j;have HE:=Qa hE;obtain⟨f1,f2,f3,-⟩:=Q5 hf
 have HF:=Qa (Xh f1 (Xh f2 f3));obtain⟨ra,rb,D⟩:=I
 have HI:=Qa (Xh ra (Xh rb D));have K:=R.vals;have B:=Qa (Qgj hA R h c f z #[Iv 9,Iv g,Iv i,Iv l,Iv o,Iv t,.slice rg n.length rc,.slice ag r.length ac]);clear h hA R c f hE hf f1 f2 f3 ra rb D z;go_enter func212,ntmps212
 go_upto_region 1 with fail
 generalize w.alloc (.cells #[Iv 9,Iv g,Iv i,Iv l,Iv o,Iv t,.slice rg n.length rc,.slice ag r.length ac] 78)=w1 at B |-;generalize w.heap.size=X at B |-;obtain⟨HJ,H0,aa,H,HR,HG,HB,HA,HO,X1,ab⟩:=B.out
 clear B;obtain⟨x0,x1,x2,x3,x4,-,x6,x7⟩:=QV X1.out
 have M:Hid (s.goC ⟨9,g,i,l,o,t,n,r⟩=Qv (Qv (s.want g 4 true) (s.want i 1 false)) (Q0 s.L.length 1)):=by show _=_;unfold JSt.goC;rw[HE.out];rfl
 have C1:=Qa (Qab g 4 K HO.out H.out);go_wp2_with fail
 refine(C1.out ).mono ?_
 rintro N w2 ⟨S,u⟩;have p:=Qa (HB.out.trans (u.mono HB.out.size));have H2:=Qa (H.out.below u);have P:=Qa (fun k q=>Zl (HA.out k q) u.size);have E:=Qa (fun k q=>Zl (HO.out k q) u.size);rcases S with ⟨a,y2,rfl,W⟩|⟨a,rfl⟩
 rotate_left
 ·exact⟨Z,QO.bad ((fun a=>by rw[M.out,Ql (by rw[Ql a];exact a),Ql a]) a) a (Yh H0.out p.out)⟩
 have C:=Qa a;have x2:=Qk x2 u;clear a u C1;have C2:=Qa (fun d=>QbF i HI.out.2.1 d K E.out H2.out);go_wp2_with fail
 refine(C2.out _).mono ?_
 rintro N w3 ⟨S,y⟩;have G:=Qa (p.out.trans (y.mono p.out.size));have H3:=Qa (H2.out.below y);have U:=Qa (fun k q=>Zl (P.out k q) y.size);have ad:=Qa (fun k q=>Zl (E.out k q) y.size);rcases S with ⟨a,y3,rfl,W⟩|⟨a,rfl⟩
 rotate_left
 ·exact⟨Z,QO.bad ((fun a=>by rw[M.out,Qx C.out,Ql a]) a) a (Yh H0.out G.out)⟩
 subst W;have T:=Qa a;clear a y C2;have V:Hid (∀ e F,QO w b O A s { s with L:=s.L++[tInt] } (Q0 s.L.length 1) e F->QO w b O A s (s.next ⟨9,g,i,l,o,t,n,r⟩) (s.goC ⟨9,g,i,l,o,t,n,r⟩) e F):=fun e F J=>J.to (by rw[M.out,Qx C.out,Qx T.out]) (fun _=>by rw[QT (by simp) (by simp),HE.out]);have CM:=Qa (QbQ K U.out H3.out);go_wp2_with fail
 refine CM.out.mono ?_;rintro N F J;have FF:Hid (QO w b O A s (s.next ⟨9,g,i,l,o,t,n,r⟩) (s.goC ⟨9,g,i,l,o,t,n,r⟩) N F):=V.out _ _ (J.after G.out);rcases J with ⟨h1,rfl,h3⟩|⟨h1,rfl,h3⟩
 rotate_left
 ·exact⟨Z,FF.out⟩
 clear h1 h3 CM;go_wp2
 exact Xz (v:=.tuple #[]) (by simp[results,results212,go_sem]) Z FF.out
theorem Qiq {A:Nat->Prop}{s:JSt}{x:Qs}(hA:∀ k,A k->k<w.heap.size) (M:JOk s) (h:SAt w b O A s) (c:intsL.In w Q x.regs [.slice rg x.regs.length rc]) (f:intsL.In w Q x.args [.slice ag x.args.length ac]) (r:x.regs.length<=rc) (F:ZB x) (V:x.form s.m.length=0) (g:x.op=10) :
 Calls prog 212 #[Pv b 0,Qed x rg ag rc ac] w fun e w'=>QO w b O A s (s.next x) (s.goC x) e w':=by
 have W:=QaE (s:=s) g;obtain⟨op,i,p,l,C,G,t,E⟩:=x
 have g:op=10:=g;subst g;have HE:=Qa W;obtain⟨f1,f2,f3,-⟩:=Q5 V
 have HF:=Qa (Xh f1 (Xh f2 f3));obtain⟨ra,rb,y⟩:=F
 have HI:=Qa (Xh ra (Xh rb y));have I:=M.vals;have B:=Qa (Qgj hA M h c f r #[Iv 10,Iv i,Iv p,Iv l,Iv C,Iv G,.slice rg t.length rc,.slice ag E.length ac]);clear h hA M c f W V f1 f2 f3 ra rb y r;go_enter func212,ntmps212
 go_upto_region 1 with fail
 generalize w.alloc (.cells #[Iv 10,Iv i,Iv p,Iv l,Iv C,Iv G,.slice rg t.length rc,.slice ag E.length ac] 78)=w1 at B |-;generalize w.heap.size=X at B |-;obtain⟨HJ,R,aa,H,HR,HG,HB,HA,U,X1,ab⟩:=B.out
 clear B;obtain⟨x0,x1,x2,T,x4,-,x6,x7⟩:=QV X1.out
 have J:Hid (s.goC ⟨10,i,p,l,C,G,t,E⟩=Qv (s.want i 4 true) (Qv (s.want p 1 false) (s.want l 1 false))):=by show _=_;unfold JSt.goC;rw[HE.out];show Qv _ (Q0 s.L.length 0)=_;rw[QbE I,QfZ]
 have C1:=Qa (Qab i 4 I U.out H.out);go_wp2_with fail
 refine(C1.out ).mono ?_
 rintro e' w2 ⟨N,j⟩;have n:=Qa (HB.out.trans (j.mono HB.out.size));have H2:=Qa (H.out.below j);have K:=Qa (fun k o=>Zl (HA.out k o) j.size);have z:=Qa (fun k o=>Zl (U.out k o) j.size);rcases N with ⟨a,y2,rfl,S⟩|⟨a,rfl⟩
 rotate_left
 ·exact⟨Z,QO.bad ((fun a=>by rw[J.out,Ql a]) a) a (Yh R.out n.out)⟩
 have u:=Qa a;have x2:=Qk x2 j;have T:=Qk T j;clear a j C1;have C2:=Qa (fun d=>Qfh p l HI.out.2.1 HI.out.2.2 d I z.out H2.out);go_wp2_with fail
 refine(C2.out _).mono ?_
 rintro e' w3 ⟨N,q⟩;have D:=Qa (n.out.trans (q.mono n.out.size));have H3:=Qa (H2.out.below q);have ae:=Qa (fun k o=>Zl (K.out k o) q.size);have ad:=Qa (fun k o=>Zl (z.out k o) q.size);rcases N with ⟨a,y3,rfl,S⟩|⟨a,rfl⟩
 rotate_left
 ·exact⟨Z,QO.bad ((fun a=>by rw[J.out,Qx u.out]) a) a (Yh R.out D.out)⟩
 subst S;have P:=Qa a;clear a q C2;have FF:Hid (QO w b O A s (s.next ⟨10,i,p,l,C,G,t,E⟩) (s.goC ⟨10,i,p,l,C,G,t,E⟩) (.returned (.tuple #[])) w3):=QO.none R.out D.out (by rw[J.out,Qx u.out,P.out]) (by rw[QT (by simp) (by simp),HE.out];simp);go_wp2
 exact Xz (v:=.tuple #[]) (by simp[results,results212,go_sem]) Z FF.out
theorem Qma {A:Nat->Prop}{s:JSt}{x:Qs}(U:∀ k,A k->k<w.heap.size) (E:JOk s) (h:SAt w b O A s) (a:intsL.In w Q x.regs [.slice rg x.regs.length rc]) (c:intsL.In w Q x.args [.slice ag x.args.length ac]) (q:x.regs.length<=rc) (z:ZB x) (M:x.form s.m.length=0) (f:x.op=11) :
 Calls prog 212 #[Pv b 0,Qed x rg ag rc ac] w fun e w'=>QO w b O A s (s.next x) (s.goC x) e w':=by
 have N:=QbJ (s:=s) f;obtain⟨op,d,l,g,j,o,i,n⟩:=x
 have f:op=11:=f;subst f;have HE:=Qa N;obtain⟨f1,W,f3,-⟩:=Q5 M
 have HF:=Qa (Xh f1 (Xh W f3));obtain⟨ra,V,t⟩:=z
 have HI:=Qa (Xh ra (Xh V t));have J:=E.vals;have B:=Qa (Qgj U E h a c q #[Iv 11,Iv d,Iv l,Iv g,Iv j,Iv o,.slice rg i.length rc,.slice ag n.length ac]);clear h U E a c N M f1 W f3 ra V t q;go_enter func212,ntmps212
 go_upto_region 1 with fail
 generalize w.alloc (.cells #[Iv 11,Iv d,Iv l,Iv g,Iv j,Iv o,.slice rg i.length rc,.slice ag n.length ac] 78)=w1 at B |-;generalize w.heap.size=X at B |-;obtain⟨HJ,H0,aa,H,HR,HG,HB,HA,HO,X1,ab⟩:=B.out
 clear B;obtain⟨x0,x1,x2,x3,x4,-,x6,x7⟩:=QV X1.out
 have K:Hid (s.goC ⟨11,d,l,g,j,o,i,n⟩=Qv (s.want d 4 true) (Q0 s.L.length 1)):=by show _=_;unfold JSt.goC;rw[HE.out];rfl
 have T:=Qa (Qab d 4 J HO.out H.out);go_wp2_with fail
 refine(T.out ).mono ?_
 rintro P w2 ⟨hq,r⟩;have u:=Qa (HB.out.trans (r.mono HB.out.size));have H2:=Qa (H.out.below r);have D:=Qa (fun k G=>Zl (HA.out k G) r.size);have ad:=Qa (fun k G=>Zl (HO.out k G) r.size);rcases hq with ⟨p,y2,rfl,hy⟩|⟨p,rfl⟩
 rotate_left
 ·exact⟨Z,QO.bad ((fun p=>by rw[K.out,Ql p]) p) p (Yh H0.out u.out)⟩
 have F:=Qa p;clear p r T;have I:Hid (∀ e y,QO w b O A s { s with L:=s.L++[tInt] } (Q0 s.L.length 1) e y->QO w b O A s (s.next ⟨11,d,l,g,j,o,i,n⟩) (s.goC ⟨11,d,l,g,j,o,i,n⟩) e y):=fun e y C=>C.to (by rw[K.out,Qx F.out]) (fun _=>by rw[QT (by simp) (by simp),HE.out]);have CM:=Qa (QbQ J D.out H2.out);go_wp2_with fail
 refine CM.out.mono ?_;rintro P y C;have FF:Hid (QO w b O A s (s.next ⟨11,d,l,g,j,o,i,n⟩) (s.goC ⟨11,d,l,g,j,o,i,n⟩) P y):=I.out _ _ (C.after u.out);rcases C with ⟨R,rfl,S⟩|⟨R,rfl,S⟩
 rotate_left
 ·exact⟨Z,FF.out⟩
 clear R S CM;go_wp2
 exact Xz (v:=.tuple #[]) (by simp[results,results212,go_sem]) Z FF.out
theorem Qlv {A:Nat->Prop}{s:JSt}{x:Qs}(M:∀ k,A k->k<w.heap.size) (D:JOk s) (h:SAt w b O A s) (a:intsL.In w Q x.regs [.slice rg x.regs.length rc]) (c:intsL.In w Q x.args [.slice ag x.args.length ac]) (j:x.regs.length<=rc) (y:ZB x) (J:x.form s.m.length=0) (f:x.op=13) :
 Calls prog 212 #[Pv b 0,Qed x rg ag rc ac] w fun e w'=>QO w b O A s (s.next x) (s.goC x) e w':=by
 have I:=QbC (s:=s) f;obtain⟨op,g,t,n,r,z,o,u⟩:=x
 have f:op=13:=f;subst f;have T:=Qa I;obtain⟨V,R,S,-⟩:=Q5 J
 have HF:=Qa (Xh V (Xh R S));obtain⟨U,N,p⟩:=y
 have HI:=Qa (Xh U (Xh N p));have F:=D.vals;have B:=Qa (Qgj M D h a c j #[Iv 13,Iv g,Iv t,Iv n,Iv r,Iv z,.slice rg o.length rc,.slice ag u.length ac]);clear h M D a c I J V R S U N p j;go_enter func212,ntmps212
 go_upto_region 1 with fail
 generalize w.alloc (.cells #[Iv 13,Iv g,Iv t,Iv n,Iv r,Iv z,.slice rg o.length rc,.slice ag u.length ac] 78)=w1 at B |-;generalize w.heap.size=X at B |-;obtain⟨HJ,P,aa,H,HR,HG,W,HA,HO,X1,ab⟩:=B.out
 clear B;obtain⟨x0,x1,x2,x3,x4,-,x6,x7⟩:=QV X1.out
 have G:Hid (s.goC ⟨13,g,t,n,r,z,o,u⟩=s.want g 1 false):=by show _=_;unfold JSt.goC;rw[T.out];show Qv _ (Q0 s.L.length 0)=_;rw[QbE F,QfZ]
 have K:=Qa (fun d=>QbF g HI.out.1 d F HO.out H.out);go_wp2_with fail
 refine(K.out _).mono ?_
 rintro e' w2 ⟨hq,l⟩;have q:=Qa (W.out.trans (l.mono W.out.size));have H2:=Qa (H.out.below l);have ad:=Qa (fun k E=>Zl (HA.out k E) l.size);have ae:=Qa (fun k E=>Zl (HO.out k E) l.size);rcases hq with ⟨i,y2,rfl,hy⟩|⟨i,rfl⟩
 rotate_left
 ·exact⟨Z,QO.bad ((fun i=>by rw[G.out]) i) i (Yh P.out q.out)⟩
 subst hy;have C:=Qa i;clear i l K;have FF:Hid (QO w b O A s (s.next ⟨13,g,t,n,r,z,o,u⟩) (s.goC ⟨13,g,t,n,r,z,o,u⟩) (.returned (.tuple #[])) w2):=QO.none P.out q.out (by rw[G.out,C.out]) (by rw[QT (by simp) (by simp),T.out];simp);go_wp2
 exact Xz (v:=.tuple #[]) (by simp[results,results212,go_sem]) Z FF.out
def JSt.fieldC (s:JSt) (a:Int) (k:Nat):Int:=Qv (s.want a 3 true) (match s.at a with | none=>0 | some t=>if k<t.2.2.length then 0 else 9)
def QnJ (w:World) (A:Nat->Prop) (s:JSt) (a:Int) (k:Nat) (x:Value):Prop:=∃ (t:TT 6) (u:TT 5) (p:Option Addr) (c:Nat),s.at a=some t/\t.2.2[k]?=some u/\x=Tv u p c/\TIn w (fun g=>¬ A g) u p
theorem QcI {s:JSt}{a:Int}(h:s.want a 3 true≠0):s.fieldC a k=s.want a 3 true:=by unfold JSt.fieldC Qv;rw[Xr h]
theorem Qi2 {s:JSt}{a:Int}{t:TT 6}(h:s.want a 3 true=0) (b:s.at a=some t):s.fieldC a k=if k<t.2.2.length then 0 else 9:=by unfold JSt.fieldC Qv;rw[Xs h,b]
theorem QdD {A:Nat->Prop}{s:JSt}(a:Int) (k:Nat) (Q:k<=100) (hL:s.L.length<=80) (z:∀ k,O k->k<w.heap.size) (h:SAt w b O A s) :
 Calls prog 245 #[Pv b 0,Iv a,Iv k] w fun e w'=>ZG (s.fieldC a k) (QnJ w' A s a k) e/\Below w.heap.size w w':=by
 have W:=Zd w (.cells #[Iv 0,Iv 0,Nv] 105);have I:=Qa (h.more z W);have n:=Qa W;have G:Hid (Blk (w.alloc (.cells #[Iv 0,Iv 0,Nv] 105)) w.heap.size #[Iv 0,Iv 0,Nv] 105):=Blk.new _ _ _;have HO:=Qa z;clear h W z;go_enter func245,ntmps245
 go_upto_region 1 with fail
 generalize w.alloc (.cells #[Iv 0,Iv 0,Nv] 105)=w1 at I n G |-;obtain⟨R,N⟩:∃ R,w.heap.size=R:=⟨_,Z⟩
 have HR:=Qa (Nat.le_of_eq N);rw[N] at G |-
 clear N;go_wp2_with fail
 refine(Qab a 3 hL (fun k hk=>Zl (HO.out k hk) n.out.size) I.out).mono ?_
 rintro e' P ⟨z,M⟩;have B2:Hid (Below w.heap.size w P):=n.out.trans (M.mono n.out.size);have X2:=Qa (G.out.below M);rcases z with ⟨m,x,rfl,t,p,c,J,rfl,X,U⟩|⟨m,rfl⟩
 rotate_left
 ·exact⟨Z,.inr ⟨by rw[QcI m];exact m,by rw[QcI m]⟩,B2.out⟩
 have f:=Qa (QhC.mk1 (c:=c) B2.out X2.out HR.out X);have HA:=Qa J;have E:=Qa (Qi2 (k:=k) m J);clear X J U M G n I X2 m;go_upto_region 2 with fail
 generalize P.alloc (.cells #[Iv t.kind,Iv t.r,.slice p t.len c] 105)=w3 at f |-;generalize P.heap.size=B at f |-;obtain⟨y0,y1,y2,r0,r1,r2,z0,z1,z2⟩:=f.out.cells
 have aa:=f.out.ne;have D:Hid (t.len=t.2.2.length):=TT.len_eq t;by_cases i:k<t.2.2.length
 rotate_left
 ·have K:Hid (s.fieldC a k=9):=by show _=_;rw[E.out,Xr i]
  have j:¬ (k:Int)<t.len:=by rw[D.out];omega
  clear i;generalize t.len=tl at y2 j;go_wp2_with fail
  refine(Zj _ 9).mono ?_
  rintro e' w' ⟨rfl,y⟩;subst y;exact⟨Z,ZG.bad K.out (by decide),f.out.bel⟩
 ·have K:Hid (s.fieldC a k=0):=by show _=_;rw[E.out,Xs i]
  have j:(k:Int)<t.len:=by rw[D.out];omega
  have S:Hid (t.2.2[k]?=some t.2.2[k]):=Zg i;generalize t.2.2[k]=u at S;obtain⟨g,o,C,F,rfl,V,u0,u1,u2,ut⟩:=f.out.lay k u S.out
  have UT:Hid (TIn w3 (fun g=>¬ (A g\/w.heap.size<=g)) u C):=ut;have ad:¬ R=g:=fun e=>by subst e;exact V (.inr f.out.farR)
  have ab:¬ B=g:=fun e=>by subst e;exact V (.inr f.out.farB)
  clear ut i V;obtain⟨x9,b9⟩:=QnA (k:=u.kind) (r:=u.r) (q:=C) (l:=u.len) (d:=F) f.out.bel f.out.res f.out.farR
  have H:=Qa x9;have T:=Qa b9;clear x9 b9;generalize ac:t.len=tl at y2 j;go_wp2_with (go_at_call 268;refine(Zf _ _).mono ?_;rintro e' w' ⟨rfl,y⟩;have y:=y.symm;subst y)
  generalize ((w3.setCell ⟨R,0,none⟩ (Iv u.kind)).setCell ⟨R,1,none⟩ (Iv u.r)).setCell ⟨R,2,none⟩ (.slice C u.len F)=w9 at H T |-;have x0:=Qb H.out 0 _ Z;have x1:=Qb H.out 1 _ Z;have x2:=Qb H.out 2 _ Z;exact Xy (v:=Tv u C F) (by simp[results,results245,go_sem,x0,x1,x2]) Z ⟨ZG.good K.out ⟨t,u,C,F,HA.out,S.out,Z,(UT.out.over f.out.bel T.out).less⟩,T.out⟩
theorem Qhx (x:Int) (A:l.length=N) (E:N<=100000) (z:intsL.In w Q l [.slice p N c]) :
 Calls prog 288 #[.slice p N c,Iv x] w fun e w'=>(∃ i:Int,e=.returned (Iv i)/\(0<=i↔x∈l))/\w'=w:=by
 have F:=Qa z;have t:=Qa A;clear z A;go_enter func288,ntmps288
 go_wp2
 go_loop [8] (fun i=>∃ k:Nat,k<=N/\i=Iv k/\∀ (j:Nat) (y:Int),j<k->l[j]?=some y->x≠y) (fun i=>N - (intOf i).toNat)
 case atStart=>exact⟨0,Xb _,Z,fun j y r=>by omega⟩
 case round =>
  obtain⟨k,G,rfl,B⟩:=hrel
  have u:=Qa B;clear B;by_cases f:k<N
  ·have n:(k:Int)<N:=by omega
   have b:k<l.length:=by rw[t.out];exact f
   obtain⟨g,o,rfl,-,H,s⟩:=ZI F.out b
   obtain⟨y,d⟩:∃ y,l[k]?=some y:=⟨_,Zg b⟩
   rw[show l.getD k 0=y by rw[List.getD_eq_getElem?_getD,d];rfl] at s
   have v:=Qa d;clear d b;by_cases a:x=y
   ·have m:(x==y)=true:=by simpa using a
    have D:Hid (x∈l):=by show _;rw[a];exact Zm v.out
    clear a;go_wp2
    go_ret;exact⟨⟨k,Z,by simp[D.out]⟩,Z⟩
   ·have m:(x==y)=false:=by simpa using a
    have q:=Qa a;clear a;go_wp2
    go_round
    case rel =>
     refine⟨k+1,f,by go_num,fun j C r d=>?_⟩
     rcases Nat.lt_or_ge j k with h | h
     ·exact u.out j C h d
     ·have:j=k:=by omega
      subst this;have e:=v.out.symm.trans d;injection e with e
      subst e;exact q.out
    case measure=>simp[intOf];omega
  ·have n:¬ (k:Int)<N:=by omega
   go_wp2
   go_ret;refine⟨⟨-1,Z,by omega,fun hm=>?_⟩,Z⟩
   obtain⟨j,r,e⟩:=List.mem_iff_getElem.1 hm
   exact absurd e.symm (u.out j _ (by have:=t.out;omega) (Zg r))
theorem Qeb (x:Int) (d:l.length=N) (b:N<=100000) (g:intsL.In w Q l [.slice p N c]) :
 Calls prog 279 #[.slice p N c,Iv x] w fun e w'=>e=.returned (.bool (inB l x))/\w'=w:=by
 have C:=Qa (Qhx x d b g);clear g d;go_enter func279,ntmps279
 go_wp2_with fail
 refine C.out.mono ?_;rintro e w' ⟨⟨i,rfl,f⟩,a⟩;have a:=a.symm;subst a
 have E:Hid (inB l x=decide (i>=0)):=by
  show _=_;rw[Bool.eq_iff_iff,inB_iff]
  simp[f]
 clear C f;go_wp2
 go_ret;exact⟨by rw[E.out];rfl,Z⟩
theorem Qf7 (H:List Bool) (l:List Int)(a:l[k]?=some x):QL H (l.take k) (l.drop k)=if hHas H x then (if inB (l.take k) x then 13 else QL H (l.take (k+1)) (l.drop (k+1))) else 10:=by
 obtain⟨b,e⟩:=Zi a
 rw[List.drop_eq_getElem_cons b,e,QL,XV,a]
 rfl
def Qcc (H:List Bool) (l:List Int) (asked:Int):Int:=if (l.length:Int)=asked then QL H [] l else 2
theorem Qd5 {A:Nat->Prop}{s:JSt}(d:Int) (L:l.length=N) (U:N<=100000) (R:N<=c) (K:intsL.In w Q l [.slice p N c]) (h:SAt w b O A s) :
 Calls prog 273 #[Pv b 0,.slice p N c,Iv d] w fun e w'=>ZG (Qcc s.H l d) VNone e/\w'=w:=by
 have M:=Qa K;have z:=Qa L;obtain⟨pm,cm,hh,X,c1,a2,W,a3,c3,aL,cL,I⟩:=h.read
 obtain⟨-,q1,-⟩:=I.cells
 have S:=Qa I.held;clear h K L I;by_cases j:(N:Int)=d
 rotate_left
 ·have t:((N:Int)==d)=false:=by simpa using j
  have E:Hid (Qcc s.H l d=2):=by show _=_;unfold Qcc;rw[z.out,Xr j]
  go_enter func273,ntmps273
  go_wp2_with fail
  refine(Zj _ 2).mono ?_
  rintro n w' ⟨rfl,a⟩;subst a;exact⟨Z,ZG.bad E.out (by decide),Z⟩
 subst j;have t:((N:Int)==(N:Int))=true:=by simp
 have E:Hid (Qcc s.H l N=QL s.H [] l):=by show _=_;unfold Qcc;rw[z.out,Xs Z]
 go_enter func273,ntmps273
 go_wp2_with (go_at_call 268;refine(Zf _ _).mono ?_;rintro n w' ⟨rfl,a⟩;have a:=a.symm;subst a)
 go_loop [15] (fun i=>∃ k:Nat,k<=N/\i=Iv k/\QL s.H [] l=QL s.H (l.take k) (l.drop k)) (fun i=>N - (intOf i).toNat)
 case atStart=>exact⟨0,Xb _,Z,Z⟩
 case round =>
  obtain⟨k,hk,rfl,P⟩:=hrel
  have J:=Qa P;clear P;by_cases r:k<N
  ·have u:(k:Int)<N:=by omega
   have V:k<=c:=by omega
   have f:k<l.length:=by rw[z.out];exact r
   obtain⟨g,o,rfl,-,hg,G⟩:=ZI M.out f
   obtain⟨y,x⟩:∃ y,l[k]?=some y:=⟨_,Zg f⟩
   rw[show l.getD k 0=y by rw[List.getD_eq_getElem?_getD,x];rfl] at G
   have B:=Qa (J.out.trans (Qf7 s.H l x));have C:=Qa (Qcy y S.out)
   cases hq:hHas s.H y with
   | false =>
     rw[hq] at C
     have m:Hid (Qcc s.H l N=10):=by show _=_;rw[E.out,B.out,hq];rfl
     clear x f hq;go_wp2_with (go_at_call 272;refine(C.out).mono ?_;rintro e w' ⟨rfl,a⟩;have a:=a.symm;subst a)
     refine(Zj _ 10).mono ?_
     rintro n w' ⟨rfl,a⟩;subst a;exact⟨Z,ZG.bad m.out (by decide),Z⟩
   | true =>
     rw[hq] at C
     have D:Hid (∀ F,Calls prog 279 #[.slice (some ⟨g,o,none⟩) k F,Iv y] w fun e w'=>e=.returned (.bool (inB (l.take k) y))/\w'=w):=fun F=>Qeb y (by rw[List.length_take];omega) (by omega) (Qjy M.out (Nat.le_of_lt f) F);have q:Hid (QL s.H [] l=if inB (l.take k) y then 13 else QL s.H (l.take (k+1)) (l.drop (k+1))):=by show _=_;rw[B.out,hq];rfl
     clear x f hq B
     cases hi:inB (l.take k) y with
     | true =>
       rw[hi] at D
       have m:Hid (Qcc s.H l N=13):=by show _=_;rw[E.out,q.out,hi];rfl
       clear hi;go_wp2_with (go_at_call 272;refine(C.out).mono ?_;rintro e w' ⟨rfl,a⟩;have a:=a.symm;subst a)
       refine(Zf _ _).mono ?_
       rintro n w' ⟨rfl,a⟩;have a:=a.symm;subst a;go_wp2_with (go_at_call 279;refine(D.out _).mono ?_;rintro e w' ⟨rfl,a⟩;have a:=a.symm;subst a)
       refine(Zj _ 13).mono ?_
       rintro n w' ⟨rfl,a⟩;subst a;exact⟨Z,ZG.bad m.out (by decide),Z⟩
     | false =>
       rw[hi] at D
       have m:Hid (QL s.H [] l=QL s.H (l.take (k+1)) (l.drop (k+1))):=by show _=_;rw[q.out,hi];rfl
       clear hi;go_wp2_with (go_at_call 272;refine(C.out).mono ?_;rintro e w' ⟨rfl,a⟩;have a:=a.symm;subst a)
       refine(Zf _ _).mono ?_
       rintro n w' ⟨rfl,a⟩;have a:=a.symm;subst a;go_wp2_with (go_at_call 279;refine(D.out _).mono ?_;rintro e w' ⟨rfl,a⟩;have a:=a.symm;subst a)
       refine(Zf _ _).mono ?_
       rintro n w' ⟨rfl,a⟩;have a:=a.symm;subst a;go_wp2
       go_round
       case rel=>exact⟨k+1,r,by go_num,m.out⟩
       case measure=>simp[intOf];omega
  ·have u:¬ (k:Int)<N:=by omega
   have T:k=N:=by omega
   have m:Hid (Qcc s.H l N=0):=by
    show _=_;rw[E.out,J.out,List.drop_of_length_le (by rw[z.out];omega)]
    rfl
   go_wp2
   exact Xz (v:=.tuple #[]) (by simp[results,results273,go_sem]) Z ⟨ZG.good m.out Z,Z⟩
noncomputable def JSt.handC (s:JSt) (l:List Int) (ts:List (TT 6)):Int:=if l.length=ts.length then Qu (fun p:Int × TT 6=>s.beC p.1 p.2) (l.zip ts) else 2
theorem QaJ {A R:Nat->Prop}{s:JSt}{ts:List (TT 6)}{V:Option Addr}{M:Nat}(hN:l.length=N) (ab:N<=100000) (hM:ts.length=M) (aa:M<=100000) (hl:intsL.In w Q l [.slice p N c]) (U:LIn w R ts V)
 (hL:s.L.length<=80) (n:∀ x∈s.L,x.count<=100000) (K:∀ k,O k->k<w.heap.size) (h:SAt w b O A s) :
 Calls prog 251 #[Pv b 0,.slice p N c,.slice V M d] w fun e w'=>ZG (s.handC l ts) VNone e/\Below w.heap.size w w':=by
 have H:=Qa h;have HO:=Qa K;have HL:=Qa hl;have HT:=Qa U;have J:=Qa hN;have P:=Qa hM;have HC:=Qa n;clear h K hl hN U hM n;by_cases B:N=M
 rotate_left
 ·have D:((N:Int)==(M:Int))=false:=by simp;omega
  have E:Hid (s.handC l ts=2):=by show _=_;unfold JSt.handC;rw[J.out,P.out,Xr B]
  go_enter func251,ntmps251
  go_wp2_with fail
  refine(Zj _ 2).mono ?_
  rintro X w' ⟨rfl,C⟩;subst C;exact⟨Z,ZG.bad E.out (by decide),Zr⟩
 subst B;have D:((N:Int)==(N:Int))=true:=by simp
 have E:Hid (s.handC l ts=Qu (fun p:Int × TT 6=>s.beC p.1 p.2) (l.zip ts)):=by show _=_;unfold JSt.handC;rw[J.out,P.out,Xs Z]
 go_enter func251,ntmps251
 go_wp2_with (go_at_call 268;refine(Zf _ _).mono ?_;rintro X w' ⟨rfl,C⟩;have C:=C.symm;subst C)
 go_loopw [16] (fun i wr=>∃ k:Nat,k<=N/\i=Iv k/\Below w.heap.size w wr/\∀ (j:Nat) (y:Int × TT 6),j<k->(l.zip ts)[j]?=some y->s.beC y.1 y.2=0) (fun i _=>N - (intOf i).toNat)
 case atStart=>exact⟨0,Xb _,Z,Zr,fun j y hj=>by omega⟩
 case round =>
  obtain⟨k,hk,rfl,hB,hz⟩:=hrel
  have a:=Qa hB;have T:=Qa hz;clear hB hz;by_cases q:k<N
  ·have G:(k:Int)<N:=by omega
   have r:k<l.length:=by rw[J.out];exact q
   have F:k<ts.length:=by rw[P.out];exact q
   obtain⟨g,o,rfl,-,hg,u⟩:=ZI HL.out r
   obtain⟨y,f⟩:∃ y,l[k]?=some y:=⟨_,Zg r⟩
   obtain⟨t,z⟩:∃ t,ts[k]?=some t:=⟨_,Zg F⟩
   rw[show l.getD k 0=y by rw[List.getD_eq_getElem?_getD,f];rfl] at u
   obtain⟨g2,o2,p2,c2,rfl,-,d0,d1,W,m⟩:=HT.out.at z
   have HX:Hid ((l.zip ts)[k]?=some (y,t)):=by show _=_;rw[List.getElem?_zip_eq_some];exact⟨f,z⟩
   have y0:=Qk u a.out;have z0:=Qk d0 a.out;have z1:=Qk d1 a.out;have z2:=Qk W a.out;have HK:=Qa (m.below a.out);clear u r F d0 d1 W f z m;go_wp2_with fail
   refine(Qc7 y HK.out hL HC.out (fun k hk=>Zl (HO.out k hk) a.out.size) (H.out.below a.out)).mono ?_
   rintro X w2 ⟨K,b2⟩;have B2:Hid (Below w.heap.size w w2):=a.out.trans (b2.mono a.out.size);rcases K with ⟨I,x,rfl,-⟩|⟨I,rfl⟩
   rotate_left
   ·have e9:s.handC l ts=s.beC y t:=by rw[E.out,Qav HX.out T.out I]
    exact⟨Z,.inr ⟨by rw[e9];exact I,by rw[e9]⟩,B2.out⟩
   have S:=Qa I;clear I b2 y0 z0 z1 z2;go_wp2
   go_roundw
   case rel =>
    refine⟨k+1,q,by go_num,B2.out,fun j y' hj f=>?_⟩
    rcases Nat.lt_or_ge j k with h | h
    ·exact T.out j y' h f
    ·have:j=k:=by omega
     subst this;have e:=HX.out.symm.trans f;injection e with e
     subst e;exact S.out
   case measure=>simp[intOf];omega
  ·have G:¬ (k:Int)<N:=by omega
   go_wp2
   exact Xz (v:=.tuple #[]) (by simp[results,results251,go_sem]) Z ⟨ZG.good (by rw[E.out];exact Qac (fun j y f=>T.out j y (by have:=(Zi f).1;rw[List.length_zip,J.out,P.out] at this;omega) f)) Z,a.out⟩
theorem QiF (d:l.length=N) (a:intsL.In w Q l [.slice p N c]):Qlf w p N (fun i=>l.getD i 0):=fun i b=>by
 obtain⟨g,o,e,-,-,h⟩:=ZI a (show i<l.length by omega)
 exact⟨g,o,e,h⟩
theorem Qkd {t:TT 6}{e:Ending}(h:Qgf w w' (t.ren regs.length (fun i=>regs.getD i 0)) e):∃ a c q,e=.returned (.tuple #[Tv (Qaj regs t) a c,.bool q])/\TIn w' (Qcv w.heap.size) (Qaj regs t) a/\Below w.heap.size w w':=by
 unfold Qaj
 cases hr:t.ren regs.length (fun i=>regs.getD i 0) with
 | none =>
   rw[hr] at h
   obtain⟨rfl,g⟩:=h
   exact⟨none,0,false,Z,fun i x d=>by simp[zeroTT] at d,g⟩
 | some u =>
   rw[hr] at h
   obtain⟨a,c,rfl,f,b⟩:=h
   exact⟨a,c,true,Z,f,b⟩
theorem QaX {R:Nat->Prop}{ts:List (TT 6)}{L:Option Addr}{M:Nat}(F:regs.length=N) (hM:ts.length=M) (ac:M<=1000) (hl:intsL.In w Q regs [.slice p N c]) (K:LIn w R ts L) (j:∀ x∈ts,x.count<=2000) :
 Calls prog 274 #[.slice L M d,.slice p N c] w fun e w'=>∃ g,e=.returned (.slice (some ⟨g,0,none⟩) M M)/\w.heap.size<=g/\QcB w' g M (ts.map (Qaj regs))/\Below w.heap.size w w':=by
 have HM:=Qa hM;have HI:=Qa (QiF F hl);have HT:=Qa K;have HC:=Qa j;have HN:=Qa F;have J:=Qh1 w M (by omega);have E:Hid (Below w.heap.size w (w.alloc (.cells (madeCells #[Iv 0,Iv 0,Nv] (M*3)) 105))):=Zd _ _;have A:Hid (QcB (w.alloc (.cells (madeCells #[Iv 0,Iv 0,Nv] (M*3)) 105)) w.heap.size M ([]:List (TT 6))):=⟨_,Qe w _ _,size_madeCells _ _,fun i x hx=>by simp at hx⟩;clear hM hl K j F;go_enter func274,ntmps274
 go_wp2
 generalize w.alloc (.cells (madeCells #[Iv 0,Iv 0,Nv] (M*3)) 105)=w1 at E A |-;obtain⟨G,y⟩:∃ G,G=w.heap.size:=⟨_,Z⟩
 rw[<-y] at A |-
 have z:=Qa (Nat.le_of_eq y.symm);have HE:=Qa y;clear J y;go_loopw [13] (fun i wr=>∃ q:Nat,q<=M/\i=Iv q/\QcB wr G M ((ts.take q).map (Qaj regs))/\Below w.heap.size w wr) (fun i _=>M - (intOf i).toNat)
 case atStart=>exact⟨0,Xb _,Z,A.out,E.out⟩
 case round =>
  clear A E;obtain⟨q,hq,rfl,T,hB⟩:=hrel
  have f:=Qa hB;have Y:=Qa T;clear hB T;by_cases m:q<M
  ·have ab:(q:Int)<M:=by omega
   have v:q<ts.length:=by rw[HM.out];exact m
   obtain⟨t,a⟩:∃ t,ts[q]?=some t:=⟨_,Zg v⟩
   obtain⟨g2,o2,D,B,rfl,-,d0,d1,P,b⟩:=HT.out.at a
   have V:=Qk d0 f.out;have W:=Qk d1 f.out;have U:=Qk P f.out
   have C:Hid (∀ n,Below wr.heap.size wr n->Calls prog 285 #[Tv t D B,.slice p N c] n fun e w'=>∃ a' c' S,e=.returned (.tuple #[Tv (Qaj regs t) a' c',.bool S])/\TIn w' (Qcv n.heap.size) (Qaj regs t) a'/\Below n.heap.size n w'):=fun n hb=>by
    have u:=f.out.trans (hb.mono f.out.size)
    have:=rename_any 6 t D B p N c (fun i=>regs.getD i 0) n (b.below u).all (HC.out t (Zm a)) (HI.out.below u)
    refine this.mono (fun e w' h=>?_);rw[<-HN.out] at h
    exact Qkd h
   have HS:Hid ((ts.take (q+1)).map (Qaj regs)=(ts.take q).map (Qaj regs)++[Qaj regs t]):=by show _=_;rw[XV,a,List.map_append];rfl
   have s:Hid (((ts.take q).map (Qaj regs)).length=q):=by show _=_;rw[XN,List.length_take];omega
   clear d0 d1 P b a v;simp only[Tv] at C
   generalize t.kind=tk at V C;generalize t.r=tr at W C;generalize t.len=tl at U C;have ad:q*3+2<M*3:=by omega
   go_wp2_with fail
   have o:Below wr.heap.size wr (wr.alloc (.cells #[Iv tk,Iv tr,.slice D tl B] 105)):=(Below.refl _ wr).alloc Ze _;refine(C.out _ o).mono ?_
   rintro e H ⟨a4,O,S,rfl,t4,I⟩;have l:=Y.out.below (o.trans (I.mono o.size));have B4:Hid (Below w.heap.size w H):=f.out.trans ((o.trans (I.mono o.size)).mono f.out.size);obtain⟨v0,r0⟩:=l.has (q*3) (by omega)
   obtain⟨v1,r1⟩:=l.has (q*3+1) (by omega)
   obtain⟨v2,r2⟩:=l.has (q*3+2) (by omega)
   have f0:=l.frozen (q*3);have f1:=l.frozen (q*3+1);have f2:=l.frozen (q*3+2);have t5:TIn H (Qcv (G+1)) (Qaj regs t) a4:=t4.mono (fun k hk _=>by have:=Y.out.lt;have:wr.heap.size<=k:=Zt o.size hk;omega);have X:=Qa (l.set (c:=O) s.out m t5);have Z6:Hid (Below w.heap.size w (((H.setCell ⟨G,q*3,none⟩ (Iv (Qaj regs t).kind)).setCell ⟨G,q*3+1,none⟩ (Iv (Qaj regs t).r)).setCell ⟨G,q*3+2,none⟩ (.slice a4 (Qaj regs t).len O))):=((B4.out.setCell (p:=⟨G,q*3,none⟩) z.out _).setCell (p:=⟨G,q*3+1,none⟩) z.out _).setCell (p:=⟨G,q*3+2,none⟩) z.out _;clear l t5 t4 I o C V W U;simp only[Tv] at X Z6 |-
   go_wp2
   go_roundw
   case rel=>exact⟨q+1,m,by go_num,by rw[HS.out];exact X.out,Z6.out⟩
   case measure=>simp[intOf];omega
  ·have aa:¬ (q:Int)<M:=by omega
   have e:ts.take q=ts:=XO (by rw[HM.out];omega);rw[e] at Y
   go_wp2
   go_ret;exact⟨G,Z,z.out,Y.out,f.out⟩
abbrev Qol (Z:Type):=List (Nat × (Z->World->(Nat->Prop)->Prop))
theorem Qgd {m:Nat}{too:Nat->Int}(b:∀ i,i<m->-9223372036854775808<=too i/\too i<=9223372036854775807):{n:Nat}->{t u:TT n}->t.ok->t.ren m too=some u->u.ok
 | 0,t,_,_,_=>Empty.elim t
 | n+1,t,u,hok,h=>by
   simp only[TT.ren] at h
   cases e1:ZJ m too t.1 t.2.1 with
   | none=>simp[e1] at h
   | some r1 =>
     simp only[e1] at h
     cases e2:ZV (TT.ren m too) t.2.2 with
     | none=>simp[e2] at h
     | some l1 =>
       simp only[e2] at h
       have h:=Xn h;subst h;refine⟨?_,fun x e=>?_⟩
       ·show -9223372036854775808<=r1/\r1<=9223372036854775807;unfold ZJ at e1;split at e1
        ·cases e1;exact hok.1
        split at e1
        ·cases e1
        rename_i g j
        split at e1
        ·cases e1
        ·cases e1;exact b _ (by omega)
       ·obtain⟨f,d⟩:=ZR.1 e2
        obtain⟨i,c⟩:=List.getElem?_of_mem e
        have a:i<t.2.2.length:=by rw[<-f];exact(Zi c).1
        have:=d i t.2.2[i] (Zg a)
        rw[c] at this
        exact Qgd b (hok.2 _ (List.getElem_mem a)) this
theorem Qil (h:intsL.In w Q l [.slice a m c]):∀ x∈l,-9223372036854775808<=x/\x<=9223372036854775807:=fun x d=>by
 obtain⟨i,b⟩:=List.getElem?_of_mem d
 obtain⟨g,o,f,_,_,_,_,_,e⟩:=Yf h b
 exact e
theorem QdC {m:List (MFunc 6)}(h:(QaN 6).In w Q m [.slice p n c]){g:MFunc 6}(d:m[k]?=some g) :
 ∃ mg mo a1 c1 a2 c2 a3 c3,p=some ⟨mg,mo,none⟩/\w.cell? ⟨mg,mo+k*4,none⟩=some (Iv g.regs)/\w.cell? ⟨mg,mo+k*4+1,none⟩=some (.slice a1 g.params.length c1)/\w.cell? ⟨mg,mo+k*4+2,none⟩=some (.slice a2 g.results.length c2)/\w.cell? ⟨mg,mo+k*4+3,none⟩=some (.slice a3 g.blocks.length c3) /\
  (Qp 6).In w Q g.params [.slice a1 g.params.length c1]/\(Qp 6).In w Q g.results [.slice a2 g.results.length c2]:=by
 obtain⟨mg,mo,q,f,o,j,a,i⟩:=Yf h d
 obtain⟨a1,c1,a2,c2,a3,c3,rfl,b,e,l,r⟩:=Qas i
 exact⟨mg,mo,a1,c1,a2,c2,a3,c3,f,a 0 (by decide),a 1 (by decide),a 2 (by decide),a 3 (by decide),b,e⟩
theorem QlE (h:∀ x∈regs,-9223372036854775808<=x/\x<=9223372036854775807){t:TT 6}(c:t.ok):(Qaj regs t).ok:=by
 unfold Qaj
 cases e:t.ren regs.length (fun i=>regs.getD i 0) with
 | none=>exact⟨⟨by decide,by decide⟩,fun x b=>by simp[zeroTT] at b⟩
 | some u=>exact Qgd (fun i a=>h (regs.getD i 0) (by simp[List.getD,a])) c e
theorem QcB.types {M:Nat}{A:Nat->Prop}{l:List (TT 6)}(h:QcB w G M l) (t:l.length=M) (e:∀ x∈l,x.ok) (m:∀ k,G<=k->¬ A k):(Qp 6).In w (fun g=>¬ A g) l [.slice (some ⟨G,0,none⟩) M M]:=by
 obtain⟨q,b,y,p⟩:=h.row
 subst t;refine⟨_,_,Z,fun i x f=>?_⟩
 obtain⟨a,c,s,u,n,o⟩:=p i x f
 refine⟨G,0,[Iv x.kind,Iv x.r,.slice a x.len c],Z,m G Ze,XC b,fun j d=>?_,a,c,Z,o.mono (fun k v _=>m k (by omega)),e x (Zm f)⟩
 have d:j<3:=d;show w.cell? ⟨G,0+i*3+j,none⟩=_;rw[XK]
 match j,d with
 | 0,_=>exact Qb b _ _ s
 | 1,_=>exact Qb b _ _ u
 | 2,_=>exact Qb b _ _ n
 | j+3,h=>exact absurd h (by omega)
noncomputable def JSt.callC (s:JSt) (x:Qs):Int:=match s.m[x.k.toNat]? with
 | none=>0
 | some g=>Qv (Qcc s.H x.regs g.regs) (Qv (s.handC x.args (g.params.map (Qaj x.regs))) (Q0 s.L.length g.results.length))
def JSt.callS (s:JSt) (x:Qs):JSt:={ s with L:=s.L++(match s.m[x.k.toNat]? with | none=>[] | some g=>g.results.map (Qaj x.regs)) }
def QnB (w2:World) (b X mg mo nm cm k n1 d1 n2 d2 n3 d3:Nat) (fr:Int) (p1 p2 p3:Option Addr) (t:Tmp) (v:Value) (w:World):Prop :=
 match ([(4,fun v w=>∃ B,v=.pointer (some ⟨B,0,none⟩)/\w2.heap.size<=B/\Blk w B #[.int .i64 0,.slice none 0 0,.slice none 0 0,.slice none 0 0] 89)]:List (Tmp × (Value->World->Prop))).lookup t with
 | some p=>p v w
 | none=>v=(([(0,.pointer (some ⟨b,0,none⟩)),(3,.pointer (some ⟨X,0,none⟩)),(5,.pointer (some ⟨b,0,none⟩)),(6,.pointer (some ⟨b,0,none⟩)),(7,.pointer (some ⟨b,0,none⟩)),(8,.pointer (some ⟨b,0,none⟩)),(9,.slice (some ⟨mg,mo,none⟩) nm cm),(10,.pointer (some ⟨X,4,none⟩)),(11,.int .i64 (k:Int)),(12,.pointer (some ⟨mg,mo+k*4,none⟩)),(13,.agg #[.int .i64 fr,.slice p1 n1 d1,.slice p2 n2 d2,.slice p3 n3 d3])]:List (Tmp × Value)).lookup t).getD undef
theorem jc1 {g d A z d1 s r y j:Nat}{p1 u q:Option Addr}(D:w2.cell? ⟨b,0,none⟩=some (.slice (some ⟨g,d,none⟩) A cm)) (R:w2.cell? ⟨X,4,none⟩=some (Iv (k:Int))) (O:w2.cell? ⟨g,d+k*4,none⟩=some (Iv fr)) (P:w2.cell? ⟨g,d+k*4+1,none⟩=some (.slice p1 z d1)) (M:w2.cell? ⟨g,d+k*4+2,none⟩=some (.slice u s r)) (N:w2.cell? ⟨g,d+k*4+3,none⟩=some (.slice q y j)) (G:(k:Int)<A){Q:Exit->Act->World->Prop}
 (a:Act) (m:Nat) (I:a.tmps.size=m) (l:36<=m) (E:a.tmps.getD 0 undef=Pv b 0) (J:a.tmps.getD 3 undef=Pv X 0)
 (hend:∀ ops vs w',vs 13=.agg #[Iv fr,.slice p1 z d1,.slice u s r,.slice q y j]->(fun v w=>∃ B,v=Pv B 0/\w2.heap.size<=B/\Blk w B #[Iv 0,Nv,Nv,Nv] 89) (vs 4) w'->Below w2.heap.size w2 w'->wpList prog ops Q (Qam 10 ((Tryz.f249.body.bind (Qi 1)).getD .skip)) (QM a vs [5,6,7,8,9,10,11,12,13,4]) w') :
 Code.wp prog ((Tryz.f249.body.bind (Qi 1)).getD .skip) Q a w2:=by
 conv=>arg 2;whnf
 refine Qg 10 (QnB w2 b X g d A cm k z d1 s r y j fr p1 u q) (fun w=>Below w2.heap.size w2 w) (fun w w'=>Below w.heap.size w w') (outs:=[0,3]) (gs:=[]) (bs:=[true,true,true,true,true,true,true,true,true,true]) (by kernel_rfl) (n:=36) I l (by kernel_rfl) (by kernel_rfl) ?hR ?hG (QI Zr 1) ⟨E,J,Y⟩ ?hA ?hend
 case hR =>
  intro t v w w' L h;unfold QnB at h |-;split at h
  ·rename_i p i
   simp only[List.lookup_cons,List.lookup_nil] at i
   split at i
   ·cases i;exact(by obtain⟨B,e,H,C⟩:=h;exact⟨B,e,H,(L.block B (XC C)).trans C⟩)
   ·cases i
  ·exact h
 case hG=>exact Y
 case hend=>exact fun ops vs w' c f=>hend ops vs w' (f 13 (by kernel_rfl)) (f 4 (by kernel_rfl)) c
 case hA =>
  repeat
   refine⟨fun a w c f K o=>?_,?_⟩
   focus first
    | obtain⟨x,-⟩:=f
      conv at x=>whnf;rhs;whnf
      have c0:=Qk D c;have V:=Qk R c;have S:=Qk O c;have U:=Qk P c;have T:=Qk M c;have W:=Qk N c;go_simp;exact o _ _ Zr c Z
    | clear f
      go_simp;exact o _ _ (Zd _ _) (c.alloc c.size _) ⟨_,Z,c.size,Qe _ _ _⟩
    | obtain⟨x,F,-⟩:=f
      conv at x=>whnf;rhs;whnf
      conv at F=>whnf;rhs;whnf
      go_simp;exact o _ _ Zr c Z
  trivial
def QnD (w2:World) (b X C N ac n1 d1 Kn rc:Nat) (ag rg p1:Option Addr) (ps:List (TT 6)) (regs:List Int) (t:Tmp) (v:Value) (w:World):Prop :=
 match ([(27,fun v w=>∃ g,v=.slice (some ⟨g,0,none⟩) n1 n1/\w2.heap.size<=g/\QcB w g n1 (ps.map (Qaj regs)))]:List (Tmp × (Value->World->Prop))).lookup t with
 | some p=>p v w
 | none=>v=(([(0,.pointer (some ⟨b,0,none⟩)),(3,.pointer (some ⟨X,0,none⟩)),(4,.pointer (some ⟨C,0,none⟩)),(20,.pointer (some ⟨b,0,none⟩)),(21,.pointer (some ⟨X,7,none⟩)),(22,.slice ag N ac),(23,.pointer (some ⟨C,1,none⟩)),(24,.slice p1 n1 d1),(25,.pointer (some ⟨X,6,none⟩)),(26,.slice rg Kn rc)]:List (Tmp × Value)).lookup t).getD undef
theorem jc3 {C f d1 j:Nat}{p1:Option Addr}{i:List (TT 6)}{R:Nat->Prop}(J:w2.cell? ⟨X,6,none⟩=some (.slice rg j rc)) (O:w2.cell? ⟨X,7,none⟩=some (.slice ag N ac)) (B:w2.cell? ⟨C,1,none⟩=some (.slice p1 f d1)) (F:Hid (regs.length=j)) (s:Hid (i.length=f)) (u:f<=1000) (U:Hid (intsL.In w2 Q regs [.slice rg j rc])) (M:Hid (LIn w2 R i p1)) (A:Hid (∀ x∈i,x.count<=2000)){Q:Exit->Act->World->Prop}
 (a:Act) (m:Nat) (H:a.tmps.size=m) (o:36<=m) (D:a.tmps.getD 0 undef=Pv b 0) (L:a.tmps.getD 3 undef=Pv X 0) (P:a.tmps.getD 4 undef=Pv C 0)
 (hend:∀ ops vs w',vs 22=.slice ag N ac->vs 20=Pv b 0->(fun v w=>∃ g,v=.slice (some ⟨g,0,none⟩) f f/\w2.heap.size<=g/\QcB w g f (i.map (Qaj regs))) (vs 27) w'->Below w2.heap.size w2 w'->wpList prog ops Q (Qam 8 ((Tryz.f249.body.bind (Qi 3)).getD .skip)) (QM a vs [20,21,22,23,24,25,26,27]) w') :
 Code.wp prog ((Tryz.f249.body.bind (Qi 3)).getD .skip) Q a w2:=by
 conv=>arg 2;whnf
 refine Qg 8 (QnD w2 b X C N ac f d1 j rc ag rg p1 i regs) (fun w=>Below w2.heap.size w2 w) (fun w w'=>Below w.heap.size w w') (outs:=[0,3,4]) (gs:=[]) (bs:=[true,true,true,true,true,true,true,true]) (by kernel_rfl) (n:=36) H o (by kernel_rfl) (by kernel_rfl) ?hR ?hG (QI Zr 1) ⟨D,L,P,Y⟩ ?hA ?hend
 case hR =>
  intro t v w w' S h;unfold QnD at h |-;split at h
  ·rename_i p k
   simp only[List.lookup_cons,List.lookup_nil] at k
   split at k
   ·cases k;exact(by obtain⟨g,e,G,I⟩:=h;exact⟨g,e,G,I.below S⟩)
   ·cases k
  ·exact h
 case hG=>exact Y
 case hend=>exact fun ops vs w' c d=>hend ops vs w' (d 22 (by kernel_rfl)) (d 20 (by kernel_rfl)) (d 27 (by kernel_rfl)) c
 case hA =>
  iterate 7
   refine⟨fun a w c d K q=>?_,?_⟩
   ·obtain⟨r,-⟩:=d
    conv at r=>whnf;rhs;whnf
    have V:=Qk O c;have u1:=Qk B c;have u2:=Qk J c;go_simp;exact q _ _ Zr c Z
  refine⟨fun a w c d K q=>?_,?_⟩
  ·obtain⟨r,E,-⟩:=d
   conv at r=>whnf;rhs;whnf
   conv at E=>whnf;rhs;whnf
   go_simp;refine Xm (QaX F.out s.out u (Ya U.out c) (M.out.below c) A.out) ?_;rintro W w7 ⟨T,rfl,l,y,z⟩;go_simp;exact q _ _ z (c.trans (z.mono c.size)) ⟨T,Z,Zt c.size l,y⟩
  trivial
theorem Qia {A:Nat->Prop}{s:JSt}{x:Qs}(hA:∀ k,A k->k<w.heap.size) (hJ:JOk s) (h:SAt w b O A s) (l:intsL.In w Q x.regs [.slice rg x.regs.length rc]) (n:intsL.In w Q x.args [.slice ag x.args.length ac]) (am:x.regs.length<=rc) (a8:x.regs.length<=6) (au:x.args.length<=8) (ai:0<=x.k/\x.k<s.m.length) :
 Calls prog 249 #[Pv b 0,Qed x rg ag rc ac] w fun e w'=>QO w b O A s (s.callS x) (s.callC x) e w':=by
 obtain⟨G,I,J,F,xk,M,a,f⟩:=x
 simp only at l n am a8 au ai
 have HJ:=Qa hJ;have H0:=Qa h;have HA:=Qa hA;have hL:=hJ.vals;have b1:=Zd w (.cells #[Iv G,Iv I,Iv J,Iv F,Iv xk,Iv M,.slice rg a.length rc,.slice ag f.length ac] 78);have H:=Qa (h.below b1);have HR:Hid (intsL.In _ Q a [.slice rg a.length rc]):=Ya l b1;have HG:Hid (intsL.In _ Q f [.slice ag f.length ac]):=Ya n b1;have HB:=Qa b1;have X1:Hid (Blk (w.alloc (.cells #[Iv G,Iv I,Iv J,Iv F,Iv xk,Iv M,.slice rg a.length rc,.slice ag f.length ac] 78)) w.heap.size #[Iv G,Iv I,Iv J,Iv F,Iv xk,Iv M,.slice rg a.length rc,.slice ag f.length ac] 78):=Blk.new _ _ _;clear h hA hJ b1 l n;obtain⟨k,rfl⟩:=Xc ai.1
 have aq:k<s.m.length:=by omega
 have q:s.m[k]?=some s.m[k]:=Zg aq;generalize s.m[k]=g at q;have a0:Hid (g∈s.m):=Zm q
 have E:Hid (s.callC ⟨G,I,J,F,(k:Int),M,a,f⟩=Qv (Qcc s.H a g.regs) (Qv (s.handC f (g.params.map (Qaj a))) (Q0 s.L.length g.results.length))):=by
  show _=_;unfold JSt.callC;simp only[Int.toNat_natCast,q]
 have ES:Hid (s.callS ⟨G,I,J,F,(k:Int),M,a,f⟩={ s with L:=s.L++g.results.map (Qaj a) }):=by
  show _=_;unfold JSt.callS;simp only[Int.toNat_natCast,q]
 have av:=Qa (HJ.out.mod.2 g a0.out);have ay:Hid (¬ MFunc.great g):=fun hg=>HJ.out.tiny (.inr ⟨g,a0.out,hg⟩);have bk:Hid (∀ t∈g.params,t.count<=2000):=fun t ht=>Xo fun ao=>ay.out (.inr (.inl (.inr ⟨t,ht,ao⟩)));have bi:Hid (∀ t∈g.results,t.count<=2000):=fun t ht=>Xo fun ao=>ay.out (.inr (.inr (.inl (.inr ⟨t,ht,ao⟩))));have bl:Hid (∀ t∈s.L,t.count<=100000):=fun t ht=>Zt (Qaf (HJ.out.types t ht)) (by omega);have bd:(k:Int)<s.m.length:=by omega
 go_enter func249,ntmps249
 go_upto_region 1 with fail
 generalize w.alloc (.cells #[Iv G,Iv I,Iv J,Iv F,Iv (k:Int),Iv M,.slice rg a.length rc,.slice ag f.length ac] 78)=w1 at H HR HG HB X1 |-;obtain⟨X,hX⟩:∃ X,w.heap.size=X:=⟨_,Z⟩
 rw[hX] at X1 |-
 clear hX;have x4:=Qb X1.out 4 _ Z;have x6:=Qb X1.out 6 _ Z;have x7:=Qb X1.out 7 _ Z;obtain⟨pm,cm,hh,a1,c1,a2,c2,a3,c3,aL,cL,RR⟩:=H.out.read
 obtain⟨q0,-⟩:=RR.cells
 obtain⟨mg,mo,p1,d1,S,D,p3,d3,rfl,f0,f1,f2,f3,hP,a9⟩:=QdC RR.mod q
 have ak:Hid ((Qp 6).In w1 (fun g=>¬ A g) g.params [.slice p1 g.params.length d1]):=hP;have af:Hid ((Qp 6).In w1 (fun g=>¬ A g) g.results [.slice S g.results.length D]):=a9;clear RR hP a9 q ai;generalize s.m.length=nm at q0 aq bd;generalize bj:g.regs=fr at f0 E;generalize ah:g.params.length=T at f1 ak;have a6:=Qa ah;generalize an:g.results.length=o at f2 af E;have ba:=Qa an;generalize g.blocks.length=n3 at f3;have bm:T<=8:=by rw[<-ah];exact av.out.params.1
 have bn:o<=8:=by rw[<-an];exact av.out.results.1
 clear ah an bj;refine jc1 q0 x4 f0 f1 f2 f3 bd _ _ Z (Xg (by kernel_rfl)) Z Z ?_;rintro aj vs w5 U ⟨C,ap,hC,j⟩ b5;show wpList _ aj _ [_] (QM _ vs [5,6,7,8,9,10,11,12,13,4]) w5;simp only[QM,Act.put,List.setIfInBounds_toArray,List.set_cons_zero,List.set_cons_succ,U,ap]
 have e0:=Qb j 0 _ Z;have e1:=Qb j 1 _ Z;have e2:=Qb j 2 _ Z;have e3:=Qb j 3 _ Z;have ef:∀ i,w5.frozen? ⟨C,i,none⟩=false:=fun i=>Qj j i
 have B6:Hid (Blk ((((w5.setCell ⟨C,0,none⟩ (Iv fr)).setCell ⟨C,1,none⟩ (.slice p1 T d1)).setCell ⟨C,2,none⟩ (.slice S o D)).setCell ⟨C,3,none⟩ (.slice p3 n3 d3)) C #[Iv fr,.slice p1 T d1,.slice S o D,.slice p3 n3 d3] 89):=by
  have h3:=Qh (Qh (Qh (Qh j 0 (Iv fr)) 1 (.slice p1 T d1)) 2 (.slice S o D)) 3 (.slice p3 n3 d3);exact h3
 have B:Hid (Below w1.heap.size w1 ((((w5.setCell ⟨C,0,none⟩ (Iv fr)).setCell ⟨C,1,none⟩ (.slice p1 T d1)).setCell ⟨C,2,none⟩ (.slice S o D)).setCell ⟨C,3,none⟩ (.slice p3 n3 d3))) :=
  (((b5.setCell (p:=⟨C,0,none⟩) hC _).setCell (p:=⟨C,1,none⟩) hC _).setCell (p:=⟨C,2,none⟩) hC _).setCell (p:=⟨C,3,none⟩) hC _
 clear j hC b5 U ap q0 f0 f1 f2 f3;go_upto_region 2 with fail
 generalize ((((w5.setCell ⟨C,0,none⟩ (Iv fr)).setCell ⟨C,1,none⟩ (.slice p1 T d1)).setCell ⟨C,2,none⟩ (.slice S o D)).setCell ⟨C,3,none⟩ (.slice p3 n3 d3))=w6 at B6 B |-;clear e0 e1 e2 e3 ef;obtain⟨e0,e1,e2,e3⟩:=Qmj B6.out
 have x6:=Qk x6 B.out;have x7:=Qk x7 B.out;have H6:=Qa (H.out.below B.out);have R:=Qa (HB.out.trans (B.out.mono HB.out.size));have r:Hid (intsL.In w6 Q a [.slice rg a.length rc]):=Ya HR.out B.out;have ad:Hid (intsL.In w6 Q f [.slice ag f.length ac]):=Ya HG.out B.out;have aw:Hid ((Qp 6).In w6 (fun g=>¬ A g) g.params [.slice p1 T d1]):=Ya ak.out B.out;have bc:Hid ((Qp 6).In w6 (fun g=>¬ A g) g.results [.slice S o D]):=Ya af.out B.out;clear H HB HR HG ak af B B6 X1 x4;obtain⟨K,hK⟩:∃ K,a.length=K:=⟨_,Z⟩
 have HK:=Qa hK;rw[hK] at x6 r am a8
 clear hK;obtain⟨N,hN⟩:∃ N,f.length=N:=⟨_,Z⟩
 have HN:=Qa hN;rw[hN] at x7 ad au
 clear hN;have CL:=Qa (Qd5 fr HK.out (by omega) am r.out H6.out);go_wp2_with fail
 refine CL.out.mono ?_;rintro e' w' ⟨hO,hw⟩;have hw:=hw.symm;subst hw;rcases hO with ⟨z,y,rfl,hy⟩|⟨z,rfl⟩
 rotate_left
 ·exact⟨Z,QO.bad (by rw[E.out,Ql z]) z (Yh H0.out R.out)⟩
 subst hy;have E2:Hid (s.callC ⟨G,I,J,F,(k:Int),M,a,f⟩=Qv (s.handC f (g.params.map (Qaj a))) (Q0 s.L.length o)):=by show _=_;rw[E.out,Qx z]
 clear z CL E;go_upto_region 3 with fail
 refine jc3 x6 x7 e1 HK a6 (by omega) r (Qa (QX aw.out).1) bk _ _ Z (Xg (by kernel_rfl)) Z Z Z ?_;rintro aj vs w7 ab V ⟨gP,W,bg,be⟩ b7;show wpList _ aj _ [_] (QM _ vs [20,21,22,23,24,25,26,27]) w7;simp only[QM,Act.put,List.setIfInBounds_toArray,List.set_cons_zero,List.set_cons_succ,ab,V,W]
 have H7:=Qa (H6.out.below b7);have P:=Qa (R.out.trans (b7.mono R.out.size))
 have CH:Hid (Calls prog 251 #[Pv b 0,.slice ag N ac,.slice (some ⟨gP,0,none⟩) T T] w7 fun e w'=>ZG (s.handC f (g.params.map (Qaj a))) VNone e/\Below w7.heap.size w7 w') :=
  QaJ HN.out (by omega) (by rw[XN,a6.out]) (by omega) (Ya ad.out b7) be.lin hL bl.out (fun k hk=>Zl (HA.out k (H0.out.sub k hk)) P.out.size) H7.out
 have a7:Hid ((Qp 6).In w7 (fun g=>¬ A g) g.results [.slice S o D]):=Ya bc.out b7;have bb:Hid (intsL.In w7 Q a [.slice rg K rc]):=Ya r.out b7;have ax:=Qk e2 b7;have bf:=Qk x6 b7;clear be bg b7 ab V W H6 R r ad aw bc e0 e1 e2 e3 x6 x7;go_wp2_with fail
 refine CH.out.mono ?_;rintro e' w8 ⟨hO,b8⟩;have H8:=Qa (H7.out.below b8);have u:=Qa (P.out.trans (b8.mono P.out.size));rcases hO with ⟨z,y,rfl,hy⟩|⟨z,rfl⟩
 rotate_left
 ·exact⟨Z,QO.bad (by rw[E2.out,Ql z]) z (Yh H0.out u.out)⟩
 subst hy;have E3:Hid (s.callC ⟨G,I,J,F,(k:Int),M,a,f⟩=Q0 s.L.length o):=by show _=_;rw[E2.out,Qx z]
 have al:Hid ((Qp 6).In w8 (fun g=>¬ A g) g.results [.slice S o D]):=Ya a7.out b8;have ae:Hid (intsL.In w8 Q a [.slice rg K rc]):=Ya bb.out b8;have a4:=Qk ax b8;have az:=Qk bf b8;clear z CH E2 b8 a7 bb ax bf H7 P;have CR:=Qa (QaX (d:=D) (c:=rc) HK.out ba.out (by omega) ae.out (QX al.out).1 bi.out);go_wp2_with fail
 refine CR.out.mono ?_;rintro e' w9 ⟨gR,rfl,bh,ar,b9⟩;have a5:=Qa (u.out.trans (b9.mono u.out.size))
 have CM:Hid (Calls prog 244 #[Pv b 0,.slice (some ⟨gR,0,none⟩) o o] w9 fun e w'=>QO w b O A s (s.callS ⟨G,I,J,F,(k:Int),M,a,f⟩) (s.callC ⟨G,I,J,F,(k:Int),M,a,f⟩) e w'):=by
  rw[ES.out,E3.out]
  have aa:(g.results.map (Qaj a)).length=o:=by rw[XN,ba.out]
  refine(Qay aa (by omega) (ar.types aa (fun y hy=>?_) (fun k hk e=>?_)) hL (fun k hk=>Zl (HA.out k hk) a5.out.size) (H8.out.below b9)).mono (fun e w' hd=>hd.after a5.out)
  ·obtain⟨t,ht,rfl⟩:=List.mem_map.1 hy
   exact QlE (Qil ae.out) ((QX al.out).2 t ht)
  ·have h1:=HA.out k e;have h2:=u.out.size;omega
 clear ar bh b9 CR al ae a4 az H8 u E3;go_wp2_with fail
 refine CM.out.mono ?_;rintro e' bo hd;have FF:=Qa hd;rcases hd with ⟨h1,rfl,h3⟩|⟨h1,rfl,h3⟩
 rotate_left
 ·exact⟨Z,FF.out⟩
 clear h1 h3 CM;go_wp2
 exact Xz (v:=.tuple #[]) (by simp[results,results249,go_sem]) Z FF.out
def passC (H:List Bool) (kept:Int) (l:List Int) (asked:Int):Int:=if (l.length:Int)=asked then Qv (Qdn kept.toNat l) (hPass H [] l) else 2
theorem QkO (a:k<n) (h:l.getD k 0≠(k:Int)):Qdn n l=11:=by
 unfold Qdn;rw[Xr]
 intro e;rw[Xe] at e
 have:=e k (List.mem_range.2 a)
 exact h (by simpa using this)
theorem Qk2 (h:∀ k,k<n->l.getD k 0=(k:Int)):Qdn n l=0:=by
 unfold Qdn;rw[Xs]
 rw[Xe]
 intro k a;exact Xt (h k (List.mem_range.1 a))
theorem Qeo {A:Nat->Prop}{s:JSt}(a:Int) (hN:l.length=N) (V:N<=100000) (hl:intsL.In w Q l [.slice p N c]) (I:0<=s.f.regs) (D:s.f.regs<=a) (h:SAt w b O A s) :
 Calls prog 275 #[Pv b 0,.slice p N c,Iv a] w fun e w'=>ZG (passC s.H s.f.regs l a) VNone e/\Below w.heap.size w w':=by
 have HL:=Qa hl;have J:=Qa hN;obtain⟨pm,cm,hh,a1,c1,a2,c2,a3,c3,aL,cL,X⟩:=h.read
 obtain⟨-,q1,q2,-⟩:=X.cells
 have HH:=Qa X.held;clear h hl hN X;by_cases n:(N:Int)=a
 rotate_left
 ·have B:((N:Int)==a)=false:=by simpa using n
  have E:Hid (passC s.H s.f.regs l a=2):=by show _=_;unfold passC;rw[J.out,Xr n]
  go_enter func275,ntmps275
  go_wp2_with fail
  refine(Zj _ 2).mono ?_
  rintro q w' ⟨rfl,d⟩;subst d;exact⟨Z,ZG.bad E.out (by decide),Zr⟩
 subst n;have B:((N:Int)==(N:Int))=true:=by simp
 obtain⟨M,U⟩:∃ M:Nat,s.f.regs=(M:Int):=Xc I
 have E:Hid (passC s.H s.f.regs l N=Qv (Qdn M l) (hPass s.H [] l)):=by show _=_;unfold passC;rw[J.out,Xs Z,U];rfl
 rw[U] at q2 D
 have ac:M<=N:=by omega
 have P:Hid (passC s.H s.f.regs l N=passC s.H s.f.regs l N):=rfl;clear I D P;generalize passC s.H s.f.regs l N=pc at E |-;clear U;go_enter func275,ntmps275
 go_wp2_with (go_at_call 268;refine(Zf _ _).mono ?_;rintro q w' ⟨rfl,d⟩;have d:=d.symm;subst d)
 go_loop [18] (fun i=>∃ k:Nat,k<=M/\i=Iv k/\∀ j,j<k->l.getD j 0=(j:Int)) (fun i=>M - (intOf i).toNat)
 case atStart=>exact⟨0,Xb _,Z,fun j hj=>by omega⟩
 case round =>
  obtain⟨k,hk,rfl,hz⟩:=hrel
  have L:=Qa hz;clear hz;by_cases u:k<M
  ·have G:(k:Int)<M:=by omega
   have aa:(k:Int)<N:=by omega
   have z:k<l.length:=by rw[J.out];omega
   obtain⟨g,o,rfl,-,hg,F⟩:=ZI HL.out z
   clear z;by_cases m:l.getD k 0=(k:Int)
   ·have HY:=Qa m;rw[m] at F
    have ab:((k:Int)==(k:Int))=true:=by simp
    clear m;go_wp2_with (go_at_call 268;refine(Zf _ _).mono ?_;rintro q w' ⟨rfl,d⟩;have d:=d.symm;subst d)
    go_round
    case rel =>
     refine⟨k+1,u,by go_num,fun j hj=>?_⟩
     rcases Nat.lt_or_ge j k with h | h
     ·exact L.out j h
     ·have:j=k:=by omega
      subst this;exact HY.out
    case measure=>simp[intOf];omega
   ·have t:Hid (pc=11):=by show _=_;rw[E.out,QkO u m];rfl
    have W:(l.getD k 0==(k:Int))=false:=by simpa using m
    generalize l.getD k 0=y at F m W;clear m;go_wp2_with fail
    refine(Zj _ 11).mono ?_
    rintro q w' ⟨rfl,d⟩;subst d;exact⟨Z,ZG.bad t.out (by decide),Zr⟩
  ·have G:¬ (k:Int)<M:=by omega
   have T:k=M:=by omega
   have t:Hid (pc=hPass s.H [] l):=by show _=_;rw[E.out,Qk2 (fun j hj=>L.out j (by omega))];rfl
   have C:=Qa (Qij J.out V HL.out HH.out);generalize hPass s.H [] l=K at t C;clear L T;by_cases r:K=0
   ·have R:(K==0)=true:=by simpa using r
    subst r;go_wp2_with (first | (go_at_call 286;refine(C.out).mono ?_;rintro q w2 ⟨rfl,x⟩;have S:=Qa x;clear x) | (go_at_call 268;refine(Zf _ _).mono ?_;rintro q w' ⟨rfl,d⟩;have d:=d.symm;subst d))
    exact Xz (v:=.tuple #[]) (by simp[results,results275,go_sem]) Z ⟨ZG.good t.out Z,S.out⟩
   ·have R:(K==0)=false:=by simpa using r
    have H0:=Qa r;clear r;go_wp2_with (go_at_call 286;refine(C.out).mono ?_;rintro q w2 ⟨rfl,x⟩;have S:=Qa x;clear x)
    refine(Zj _ K).mono ?_
    rintro q w' ⟨rfl,d⟩;subst d;exact⟨Z,ZG.bad t.out H0.out,S.out⟩
theorem Qgr {s:JSt}{r:Int}(f:∀ x∈regs,hHas s.H x=true) (g:(regs.length:Int)=r){t:TT 6}(d:t.check r=0):t.ren regs.length (fun i=>regs.getD i 0)=some (Qaj regs t):=by
 obtain⟨u,c,-⟩:=Qgc (m:=regs.length) (too:=fun i=>regs.getD i 0) (a:=r) (b:=s.H.length) (by omega) (fun i e=>ZW (f (regs.getD i 0) (by simp[List.getD,e]))) d
 unfold Qaj;rw[c]
 rfl
theorem QdH {s:JSt}{ts d:List (TT 6)}(a:d.length=ts.length) (h:∀ (i:Nat) t u,ts[i]?=some t->d[i]?=some u->t.ren regs.length (fun i=>regs.getD i 0)=some u):s.handC l d=s.args l ts regs:=by
 unfold JSt.handC JSt.args;rw[a]
 by_cases c:l.length=ts.length
 ·rw[Xs c,Xs c]
  refine Qa0 (by rw[List.length_zip,List.length_zip,a]) (fun i p q f g=>?_);rw[List.getElem?_zip_eq_some] at f g
  obtain⟨k,m⟩:=f
  obtain⟨b,n⟩:=g
  rw[k] at b
  injection b with b
  have j:=h i q.2 p.2 n m;show s.beC p.1 p.2=s.arg regs q.1 q.2;unfold JSt.beC JSt.arg;rw[<-b]
  cases s.at p.1 with
  | none=>rfl
  | some u =>
    show (if ZQ (u=p.2) then (0:Int) else 9)=if ZQ (q.2.ren regs.length (fun i=>regs.getD i 0)=some u) then 0 else 9
    rw[j]
    have:ZQ (u=p.2)=ZQ (some p.2=some u):=QfH (by rw[Qa4];exact⟨fun e=>by rw[e],fun e=>(Xn e).symm⟩)
    rw[this]
 ·rw[Xr c,Xr c]
theorem QeR {s:JSt}{ts:List (TT 6)}(h:∀ t∈ts,t.ren regs.length (fun i=>regs.getD i 0)=some (Qaj regs t)):s.handC l (ts.map (Qaj regs))=s.args l ts regs :=
 QdH (by rw[XN]) (fun i t u b a=>by
  rw[XS,b] at a
  injection a with a
  rw[<-a]
  exact h t (Zm b))
theorem QgD {m:Nat}{too:Nat->Int}{a:Int}(f:a<=m) (c:∀ i,i<m->too i=(i:Int)):{n:Nat}->{t:TT n}->t.fault a=0->t.ren m too=some t
 | 0,t,_=>Empty.elim t
 | n+1,t,h=>by
   obtain⟨b,e⟩:=TT.fault_zero h
   have d:ZJ m too t.1 t.2.1=some t.2.1:=by
    unfold ownC at b;split at b
    ·cases b
    split at b
    ·cases b
    split at b
    ·cases b
    split at b
    ·cases b
    split at b
    ·cases b
    rename_i v q r u s
    by_cases j:t.1=1
    ·rw[ZJ,Xs j]
    ·have:=c t.2.1.toNat (by omega)
     rw[ZJ,Xr j,Xr (by omega),Xr (by omega),this]
     congr 1
     omega
   have p:ZV (TT.ren m too) t.2.2=some t.2.2:=by
    generalize t.2.2=l at e
    induction l with
    | nil=>rfl
    | cons x xs ih =>
      have k:=QgD f c (e x (by simp));have g:=ih (fun y o=>e y (by simp[o]));simp[ZV,k,g]
   simp only[TT.ren,d,p]
   rfl
theorem QeL {H:List Bool}:∀ {rest ahead:List Int},hPass H ahead rest=0->∀ x∈rest,hHas H x=true
 | [],ahead,h,x,a=>by cases a
 | r::rest,ahead,h,x,a=>by
   simp only[hPass] at h
   split at h
   ·rename_i b
    split at h
    ·cases h
    ·rcases List.mem_cons.1 a with rfl | a
     ·exact b
     ·exact QeL h x a
   ·cases h
theorem Qnf {s:JSt}{g:MBlock 6}{a:List Int}(h:s.f.blocks[k]?=some g) (e:∀ t∈g.params,t.check g.regs=0):s.to ⟨(k:Int),a,xs⟩=Qv (passC s.H s.f.regs a g.regs) (s.handC xs (g.params.map (Qaj a))):=by
 unfold JSt.to passC;simp only[Int.toNat_natCast,h]
 by_cases d:(a.length:Int)=g.regs
 ·rw[Xs d,Xs d]
  by_cases b:Qdn s.f.regs.toNat a=0
  ·rw[Qx b,Qx b]
   by_cases c:hPass s.H [] a=0
   ·rw[Qx c,Qx c,QeR (fun t i=>Qgr (s:=s) (QeL c) d (e t i))]
   ·rw[Ql c,Ql c]
  ·rw[Ql b,Ql b];rw[Ql b]
 ·rw[Xr d,Xr d];rfl
theorem Qmo {s:JSt}(d:s.f.regs=(n:Int)) (g:∀ t∈s.f.results,t.check s.f.regs=0):s.handC l s.f.results=s.args l s.f.results (QhA s.f.regs.toNat) :=
 QdH Z (fun i t u e b=>by
  rw[e] at b
  injection b with b
  rw[<-b,d,XT]
  have:=g t (Zm e)
  refine QgD (a:=s.f.regs) (by rw[d];unfold QhA;simp) (fun i c=>?_) (QW.1 this).2;unfold QhA at c |-;simp at c
  simp[List.getD,c])
theorem QkJ {A:Nat->Prop}{s:JSt}{x:Qs}(hA:∀ k,A k->k<w.heap.size) (M:JOk s) (h:SAt w b O A s) (l:intsL.In w Q x.regs [.slice rg x.regs.length rc]) (n:intsL.In w Q x.args [.slice ag x.args.length ac]) (z:x.regs.length<=rc) (F:ZB x) (V:x.form s.m.length=0) (q:x.op=14) :
 Calls prog 212 #[Pv b 0,Qed x rg ag rc ac] w fun e w'=>QO w b O A s (s.next x) (s.goC x) e w':=by
 have W:=Qa6 (s:=s) q;obtain⟨op,d,i,f,p,j,a,c⟩:=x
 have q:op=14:=q;subst q;have HE:=Qa W;obtain⟨f1,f2,f3,-⟩:=Q5 V
 have C:=Qa (Xh f1 (Xh f2 f3));obtain⟨ra,rb,D⟩:=F
 have HI:=Qa (Xh ra (Xh rb D));have hL:=M.vals;have B:=Qa (Qgj hA M h l n z #[Iv 14,Iv d,Iv i,Iv f,Iv p,Iv j,.slice rg a.length rc,.slice ag c.length ac]);clear h hA M l n W V f1 f2 f3 ra rb D z;go_enter func212,ntmps212
 go_upto_region 1 with fail
 generalize w.alloc (.cells #[Iv 14,Iv d,Iv i,Iv f,Iv p,Iv j,.slice rg a.length rc,.slice ag c.length ac] 78)=w1 at B |-;generalize w.heap.size=X at B |-;obtain⟨U,H0,aa,H,HR,HG,HB,HA,HO,X1,J⟩:=B.out
 clear B;obtain⟨x0,x1,x2,x3,x4,-,x6,x7⟩:=QV X1.out
 have R:Hid (∀ e E,QO w b O A s (s.callS ⟨14,d,i,f,p,j,a,c⟩) (s.callC ⟨14,d,i,f,p,j,a,c⟩) e E->QO w b O A s (s.next ⟨14,d,i,f,p,j,a,c⟩) (s.goC ⟨14,d,i,f,p,j,a,c⟩) e E):=fun e E I=>(by
  have hk:=C.out.2.1 Z;obtain⟨k,u⟩:=Xc hk.1
  have u:p=(k:Int):=u;subst u;have N:k<s.m.length:=by have:=hk.2.1;omega
  have o:s.m[k]?=some s.m[k]:=Zg N;generalize s.m[k]=g at o;have K:g∈s.m:=Zm o;have P:=U.out.mod.2 g K;have T:s.callC ⟨14,d,i,f,(k:Int),j,a,c⟩=Qv (Qcc s.H a g.regs) (Qv (s.handC c (g.params.map (Qaj a))) (Q0 s.L.length g.results.length)):=by unfold JSt.callC;simp only[Int.toNat_natCast,o]
  have e2:s.makes ⟨14,d,i,f,(k:Int),j,a,c⟩=if (a.length:Int)=g.regs then (Qv (QL s.H [] a) (s.args c g.params a),g.results.map (Qaj a)) else (2,[]):=by rw[HE.out];simp only[Int.toNat_natCast,o]
  have S:s.goC ⟨14,d,i,f,(k:Int),j,a,c⟩=s.callC ⟨14,d,i,f,(k:Int),j,a,c⟩:=by
   rw[T]
   unfold JSt.goC Qcc;rw[e2]
   by_cases r:(a.length:Int)=g.regs
   ·rw[Xs r,Xs r]
    by_cases y:QL s.H [] a=0
    ·rw[QeR (fun t ht=>Qgr (s:=s) (ZC y) r (P.params.2 t ht)),Qx y,XN,Qx y]
    ·rw[Ql y,Ql y,Ql y]
   ·rw[Xr r,Xr r];rfl
  refine I.to S (fun G=>?_);rw[QT (by simp) (by simp),e2]
  unfold JSt.callS;simp only[Int.toNat_natCast,o]
  rw[T] at G
  unfold Qcc at G;by_cases r:(a.length:Int)=g.regs
  ·rw[Xs r]
  ·rw[Xr r] at G;cases G)
 have CM:=Qa (Qia (x:=⟨14,d,i,f,p,j,a,c⟩) HA.out U.out H.out HR.out HG.out J.out (C.out.2.1 Z).2.2.1 (C.out.2.1 Z).2.2.2 ⟨(C.out.2.1 Z).1,(C.out.2.1 Z).2.1⟩);have x5:=Qb X1.out 5 _ Z;go_wp2_with fail
 refine CM.out.mono ?_;rintro e' E I;have FF:Hid (QO w b O A s (s.next ⟨14,d,i,f,p,j,a,c⟩) (s.goC ⟨14,d,i,f,p,j,a,c⟩) e' E):=R.out _ _ (I.after HB.out);rcases I with ⟨h1,rfl,h3⟩|⟨h1,rfl,h3⟩
 rotate_left
 ·exact⟨Z,FF.out⟩
 clear h1 h3 CM;go_wp2
 exact Xz (v:=.tuple #[]) (by simp[results,results212,go_sem]) Z FF.out
theorem Qlq {A:Nat->Prop}{s:JSt}{x:Qs}(hA:∀ k,A k->k<w.heap.size) (hJ:JOk s) (h:SAt w b O A s) (f:intsL.In w Q x.regs [.slice rg x.regs.length rc]) (i:intsL.In w Q x.args [.slice ag x.args.length ac]) (V:x.regs.length<=rc) (aa:ZB x) (hf:x.form s.m.length=0) (j:x.op=6) :
 Calls prog 212 #[Pv b 0,Qed x rg ag rc ac] w fun e w'=>QO w b O A s (s.next x) (s.goC x) e w':=by
 have hE:=Qc6 (s:=s) j;obtain⟨op,a,D,o,xk,E,C,z⟩:=x
 have j:op=6:=j;subst j;have HE:=Qa hE;obtain⟨f1,f2,f3,-⟩:=Q5 hf
 have HF:=Qa (Xh f1 (Xh f2 f3));obtain⟨ra,rb,P⟩:=aa
 have HI:=Qa (Xh ra (Xh rb P));have hL:=hJ.vals;have B:=Qa (Qgj hA hJ h f i V #[Iv 6,Iv a,Iv D,Iv o,Iv xk,Iv E,.slice rg C.length rc,.slice ag z.length ac]);clear h hA hJ f i hE hf f1 f2 f3 ra rb P V;go_enter func212,ntmps212
 go_upto_region 1 with fail
 generalize w.alloc (.cells #[Iv 6,Iv a,Iv D,Iv o,Iv xk,Iv E,.slice rg C.length rc,.slice ag z.length ac] 78)=w1 at B |-;generalize w.heap.size=X at B |-;obtain⟨HJ,H0,ai,H,HR,HG,HB,HA,HO,X1,aj⟩:=B.out
 clear B;obtain⟨x0,x1,x2,x3,x4,-,x6,x7⟩:=QV X1.out
 obtain⟨k,G⟩:=Xc (HF.out.1 (by simp)).1
 have G:xk=(k:Int):=G;subst G;have ak:k<=7:=by have:=(HF.out.1 (by simp)).2;simp only at this;omega
 have EG:Hid (s.goC ⟨6,a,D,o,(k:Int),E,C,z⟩=Qv (s.fieldC a k) (Q0 s.L.length 1)):=by
  show _=_;unfold JSt.goC JSt.fieldC;rw[HE.out]
  simp only[Int.toNat_natCast]
  cases J:s.at a with
  | none=>unfold JSt.want;rw[J];rfl
  | some t =>
    simp only
    by_cases q:s.want a 3 true=0
    ·rw[Xs q,Qx q]
     by_cases n:k<t.2.2.length
     ·rw[Zg n,Xs n];rfl
     ·rw[Xk (by omega),Xr n];rfl
    ·rw[Xr q,Ql q];rw[Ql q,Ql q]
 have C1:=Qa (QdD a k (by omega) hL HO.out H.out);go_wp2_with fail
 refine(C1.out ).mono ?_
 rintro e' w2 ⟨hq,M⟩;have R:=Qa (HB.out.trans (M.mono HB.out.size));have H2:=Qa (H.out.below M);have U:=Qa (fun k n=>Zl (HA.out k n) M.size);have ah:=Qa (fun k n=>Zl (HO.out k n) M.size);rcases hq with ⟨I,y2,rfl,hy⟩|⟨I,rfl⟩
 rotate_left
 ·exact⟨Z,QO.bad ((fun I=>by rw[EG.out,Ql I]) I) I (Yh H0.out R.out)⟩
 have W:=Qa I;clear I M C1;obtain⟨t,u,p,c,J,hu,rfl,S⟩:=hy
 have ad:=TT.height_lt u;have h5:u.height<=5:=by omega
 have N:t.check s.H.length=0:=HJ.out.types t (QdO J).1
 have F:u.ok:=by
  obtain⟨pm,cm,hh,a1,c1,a2,c2,a3,c3,aL,cL,RR⟩:=H0.out.read
  obtain⟨-,hn,-,af⟩:=QdO J
  obtain⟨g,a',c',e,-,-,-,-,ae⟩:=RR.row _ t af
  exact ae.2 u (Zm hu)
 have HS:Hid (s.next ⟨6,a,D,o,(k:Int),E,C,z⟩={ s with L:=s.L++[u.at 5] }):=by
  show _=_;rw[QT (by simp) (by simp),HE.out]
  have q:s.want a 3 true=0:=by
   have:=W.out
   unfold JSt.fieldC at this;exact(QD this).1
  simp only[Int.toNat_natCast,J,if_pos q,hu]
 have ab:Hid (∀ e T,QO w b O A s { s with L:=s.L++[u.at 5] } (Q0 s.L.length 1) e T->QO w b O A s (s.next ⟨6,a,D,o,(k:Int),E,C,z⟩) (s.goC ⟨6,a,D,o,(k:Int),E,C,z⟩) e T):=fun e T K=>K.to (by rw[EG.out,Qx W.out]) (fun _=>HS.out)
 have CM:Hid (∀ d,Calls prog 244 #[Pv b 0,.slice (some ⟨w2.heap.size,0,none⟩) 1 d] (w2.alloc (.cells #[Iv u.kind,Iv u.r,.slice p u.len c] 105)) fun e w'=>QO w2 b O A s { s with L:=s.L++[u.at 5] } (Q0 s.L.length 1) e w'):=fun d=>by
  have b1:=Zd w2 (.cells #[Iv u.kind,Iv u.r,.slice p u.len c] 105);have y:=Qeq (t:=u.at 5) (p:=p) (c:=c) (d:=d) U.out (TIn.at 5 h5 S) (TT.at_ok 5 F);rw[TT.at_kind,TT.at_r,TT.at_len 5 _ h5] at y
  exact(Qay (l:=[u.at 5]) Z (by simp) y hL (fun k n=>Zl (U.out k n) b1.size) (H2.out.below b1)).mono (fun e w' K=>K.after b1)
 clear J hu S ad h5 N F HS EG;simp only[Tv]
 go_wp2_with fail
 refine(CM.out _).mono ?_
 rintro e' T K;have FF:Hid (QO w b O A s (s.next ⟨6,a,D,o,(k:Int),E,C,z⟩) (s.goC ⟨6,a,D,o,(k:Int),E,C,z⟩) e' T):=ab.out _ _ (K.after R.out);rcases K with ⟨h1,rfl,h3⟩|⟨h1,rfl,h3⟩
 rotate_left
 ·exact⟨Z,FF.out⟩
 clear h1 h3 CM;go_wp2
 exact Xz (v:=.tuple #[]) (by simp[results,results212,go_sem]) Z FF.out
theorem Ql7 {A:Nat->Prop}{s:JSt}{x:Qs}(hA:∀ k,A k->k<w.heap.size) (hJ:JOk s) (h:SAt w b O A s) (i:intsL.In w Q x.regs [.slice rg x.regs.length rc]) (j:intsL.In w Q x.args [.slice ag x.args.length ac]) (S:x.regs.length<=rc) (T:ZB x) (hf:x.form s.m.length=0) (n:x.op=7) :
 Calls prog 212 #[Pv b 0,Qed x rg ag rc ac] w fun e w'=>QO w b O A s (s.next x) (s.goC x) e w':=by
 have hE:=QcL (s:=s) n;obtain⟨op,a,f,o,xk,I,E,C⟩:=x
 have n:op=7:=n;subst n;have HE:=Qa hE;obtain⟨f1,f2,f3,-⟩:=Q5 hf
 have HF:=Qa (Xh f1 (Xh f2 f3));obtain⟨ra,rb,P⟩:=T
 have HI:=Qa (Xh ra (Xh rb P));have hL:=hJ.vals;have B:=Qa (Qgj hA hJ h i j S #[Iv 7,Iv a,Iv f,Iv o,Iv xk,Iv I,.slice rg E.length rc,.slice ag C.length ac]);clear h hA hJ i j hE hf f1 f2 f3 ra rb P S;go_enter func212,ntmps212
 go_upto_region 1 with fail
 generalize w.alloc (.cells #[Iv 7,Iv a,Iv f,Iv o,Iv xk,Iv I,.slice rg E.length rc,.slice ag C.length ac] 78)=K at B |-;generalize w.heap.size=X at B |-;obtain⟨HJ,H0,ae,H,HR,HG,HB,HA,HO,X1,af⟩:=B.out
 clear B;obtain⟨x0,x1,x2,x3,x4,-,x6,x7⟩:=QV X1.out
 obtain⟨k,G⟩:=Xc (HF.out.1 (by simp)).1
 have G:xk=(k:Int):=G;subst G;have ah:k<=7:=by have:=(HF.out.1 (by simp)).2;simp only at this;omega
 have EG:Hid (s.fieldC a k≠0->s.goC ⟨7,a,f,o,(k:Int),I,E,C⟩=s.fieldC a k):=fun d=>by
  unfold JSt.goC;rw[HE.out]
  unfold JSt.fieldC at d |-;simp only[Int.toNat_natCast]
  cases D:s.at a with
  | none=>unfold JSt.want;rw[D];rfl
  | some t =>
    rw[D] at d
    simp only at d |-
    by_cases q:s.want a 3 true=0
    ·rw[Qx q] at d |-
     rw[Xs q]
     by_cases U:k<t.2.2.length
     ·rw[Xs U] at d;exact absurd Z d
     ·rw[Xk (by omega),Xr U];rfl
    ·rw[Xr q,Ql q,Ql q]
 have aa:Hid (∀ t u,s.fieldC a k=0->s.at a=some t->t.2.2[k]?=some u->s.goC ⟨7,a,f,o,(k:Int),I,E,C⟩=s.beC f (u.at 5)/\s.next ⟨7,a,f,o,(k:Int),I,E,C⟩=s):=fun t u h0 D J=>by
  have q:s.want a 3 true=0:=by
   unfold JSt.fieldC at h0;exact(QD h0).1
  rw[QT (by simp) (by simp)]
  unfold JSt.goC JSt.beC;rw[HE.out]
  simp only[Int.toNat_natCast,D,if_pos q,J]
  cases s.at f with
  | none=>exact⟨Z,by simp⟩
  | some v =>
    simp only
    have e:ZQ (u.at 5=v)=ZQ (v=u.at 5):=QfH (by rw[Qa4];exact⟨fun e=>e.symm,fun e=>e.symm⟩);rw[e]
    cases ZQ (v=u.at 5) with
    | true=>exact⟨by show Qv 0 (Q0 s.L.length 0)=_;rw[QbE hL];rfl,by simp⟩
    | false=>exact⟨Z,by simp⟩
 have ab:Hid (∀ t∈s.L,t.count<=100000):=fun t ht=>Zt (Qaf (HJ.out.types t ht)) (by omega);go_upto_region 17 with fail
 have BD:Hid (Below K.heap.size K K.drew):=Qb1 Zr;have C1:Hid (Calls prog 245 #[Pv b 0,Iv a,Iv k] K.drew fun e w'=>ZG (s.fieldC a k) (QnJ w' A s a k) e/\Below K.drew.heap.size K.drew w'):=QdD a k (by omega) hL HO.out (H.out.below BD.out)
 have DM:Hid (∀ (u:TT 5) (p:Option Addr) (c:Nat) (z:World),TIn z (fun g=>¬ A g) u p->SAt z b O A s->(∀ k,O k->k<z.heap.size)->Calls prog 246 #[Pv b 0,Iv f,.agg #[Iv u.kind,Iv u.r,.slice p u.len c]] z fun e w'=>ZG (s.beC f (u.at 5)) VNone e/\Below z.heap.size z w'):=fun u p c z J hs ho=>by
  have h5:u.height<=5:=by have:=TT.height_lt u;omega
  have:=Qc7 (s:=s) f (t:=u.at 5) (p:=p) (c:=c) (TIn.at 5 h5 J) hL ab.out ho hs
  rw[show Tv (u.at 5) p c=.agg #[Iv u.kind,Iv u.r,.slice p u.len c] by simp only[Tv,TT.at_kind,TT.at_r,TT.at_len 5 _ h5]] at this
  exact this
 go_region_with (first
  | (go_at_call 245;refine(C1.out).mono ?_;rintro e' w2 ⟨hq,N⟩;have y:=Qa (HB.out.trans ((Zx N).mono HB.out.size));rcases hq with ⟨l,y2,rfl,t,u,p,c,D,J,rfl,R⟩|⟨l,rfl⟩;rotate_left;exact⟨Z,QO.bad (EG.out l) l (Yh H0.out y.out)⟩;have ad:=Qk x2 (Zx N);have H2:=Qa (H.out.below (Zx N));have V:=Qa (fun k U=>Zl (HO.out k U) (Zx N).size);have HU:=Qa R;have F:=Qa (aa.out t u l D J);clear R D J l N)
  | (go_at_call 246;refine(DM.out _ _ _ _ HU.out H2.out V.out).mono ?_;rintro e' w3 ⟨hq,b3⟩;have M:=Qa (y.out.trans (b3.mono y.out.size));rcases hq with ⟨l,y3,rfl,hy⟩|⟨l,rfl⟩;rotate_left;exact⟨Z,QO.bad F.out.1 l (Yh H0.out M.out)⟩;subst hy;have W:=Qa l;clear l b3))
 all_goals
  have FF:Hid (QO w b O A s (s.next ⟨7,a,f,o,(k:Int),I,E,C⟩) (s.goC ⟨7,a,f,o,(k:Int),I,E,C⟩) (.returned (.tuple #[])) w3):=QO.none H0.out M.out (by rw[F.out.1,W.out]) F.out.2;go_wp2
  exact Xz (v:=.tuple #[]) (by simp[results,results212,go_sem]) Z FF.out
def QnI (w6:World) (b X mg mo nb cb k:Nat) (ds:List Value) (t:Tmp) (v:Value) (w:World):Prop :=
 match ([(4,fun v w=>∃ B,v=.pointer (some ⟨B,0,none⟩)/\w6.heap.size<=B/\∃ c,c.size=12/\Blk w B c 86)]:List (Tmp × (Value->World->Prop))).lookup t with
 | some p=>p v w
 | none=>v=(([(0,.pointer (some ⟨b,0,none⟩)),(3,.pointer (some ⟨X,0,none⟩)),(5,.pointer (some ⟨b,0,none⟩)),(6,.pointer (some ⟨b,0,none⟩)),(7,.pointer (some ⟨b,2,none⟩)),(8,.pointer (some ⟨b,5,none⟩)),(9,.slice (some ⟨mg,mo,none⟩) nb cb),(10,.pointer (some ⟨X,0,none⟩)),(11,.int .i64 (k:Int)),(12,.pointer (some ⟨mg,mo+k*12,none⟩)),(13,.agg ds.toArray)]:List (Tmp × Value)).lookup t).getD undef
theorem jt1 {o j x z:Nat}(A:w6.cell? ⟨b,5,none⟩=some (.slice (some ⟨o,j,none⟩) x z)) (H:w6.cell? ⟨X,0,none⟩=some (Iv (k:Int))) (J:Hid (w6.rangeAt o (j+k*12) ds)) (q:ds.length=12) (E:(k:Int)<x){Q:Exit->Act->World->Prop}
 (a:Act) (m:Nat) (G:a.tmps.size=m) (r:29<=m) (C:a.tmps.getD 0 undef=Pv b 0) (u:a.tmps.getD 3 undef=Pv X 0)
 (hend:∀ ops vs w',vs 13=.agg ds.toArray->(fun v w=>∃ B,v=Pv B 0/\w6.heap.size<=B/\∃ c,c.size=12/\Blk w B c 86) (vs 4) w'->Below w6.heap.size w6 w'->wpList prog ops Q (Qam 10 ((Tryz.f250.body.bind (Qi 1)).getD .skip)) (QM a vs [5,6,7,8,9,10,11,12,13,4]) w') :
 Code.wp prog ((Tryz.f250.body.bind (Qi 1)).getD .skip) Q a w6:=by
 conv=>arg 2;whnf
 refine Qg 10 (QnI w6 b X o j x z k ds) (fun w=>Below w6.heap.size w6 w) (fun w w'=>Below w.heap.size w w') (outs:=[0,3]) (gs:=[]) (bs:=[true,true,true,true,true,true,true,true,true,true]) (by kernel_rfl) (n:=29) G r (by kernel_rfl) (by kernel_rfl) ?hR ?hG (QI Zr 1) ⟨C,u,Y⟩ ?hA ?hend
 case hR =>
  intro t v w w' I h;unfold QnI at h |-;split at h
  ·rename_i p l
   simp only[List.lookup_cons,List.lookup_nil] at l
   split at l
   ·cases l;exact(by obtain⟨B,e,F,c,u,y⟩:=h;exact⟨B,e,F,c,u,(I.block B (XC y)).trans y⟩)
   ·cases l
  ·exact h
 case hG=>exact Y
 case hend=>exact fun ops vs w' d f=>hend ops vs w' (f 13 (by kernel_rfl)) (f 4 (by kernel_rfl)) d
 case hA =>
  repeat
   refine⟨fun a w d f K i=>?_,?_⟩
   focus first
    | obtain⟨g,-⟩:=f
      conv at g=>whnf;rhs;whnf
      have N:=Qk A d;have L:=Qk H d;go_simp;exact i _ _ Zr d Z
    | clear f
      go_simp;exact i _ _ (Zd _ _) (d.alloc d.size _) ⟨_,Z,d.size,_,Z,Qe _ _ _⟩
    | obtain⟨g,D,-⟩:=f
      conv at g=>whnf;rhs;whnf
      conv at D=>whnf;rhs;whnf
      go_simp;exact i _ _ Zr d Z
    | obtain⟨g,-⟩:=f
      conv at g=>whnf;rhs;whnf
      obtain⟨M,s⟩:=underBk
      refine wp_load_mid 86 (.tmp 12) Z o (j+k*12) g ds _ (Z3 J.out d) s Z (by rw[q];exact sizeBk) ?_;exact i _ _ Zr d Z
  trivial
def QnE (w2:World) (b X C N ac n1 d1 Kn rc:Nat) (ag rg p1:Option Addr) (ps:List (TT 6)) (regs:List Int) (t:Tmp) (v:Value) (w:World):Prop :=
 match ([(27,fun v w=>∃ g,v=.slice (some ⟨g,0,none⟩) n1 n1/\w2.heap.size<=g/\QcB w g n1 (ps.map (Qaj regs)))]:List (Tmp × (Value->World->Prop))).lookup t with
 | some p=>p v w
 | none=>v=(([(0,.pointer (some ⟨b,0,none⟩)),(3,.pointer (some ⟨X,0,none⟩)),(4,.pointer (some ⟨C,0,none⟩)),(20,.pointer (some ⟨b,0,none⟩)),(21,.pointer (some ⟨X,2,none⟩)),(22,.slice ag N ac),(23,.pointer (some ⟨C,1,none⟩)),(24,.slice p1 n1 d1),(25,.pointer (some ⟨X,1,none⟩)),(26,.slice rg Kn rc)]:List (Tmp × Value)).lookup t).getD undef
theorem jt3 {C f d1 j:Nat}{p1:Option Addr}{i:List (TT 6)}{R:Nat->Prop}(D:w2.cell? ⟨X,1,none⟩=some (.slice rg j rc)) (S:w2.cell? ⟨X,2,none⟩=some (.slice ag N ac)) (B:w2.cell? ⟨C,1,none⟩=some (.slice p1 f d1)) (G:Hid (regs.length=j)) (s:Hid (i.length=f)) (u:f<=1000) (U:Hid (intsL.In w2 Q regs [.slice rg j rc])) (M:Hid (LIn w2 R i p1)) (A:Hid (∀ x∈i,x.count<=2000)){Q:Exit->Act->World->Prop}
 (a:Act) (m:Nat) (I:a.tmps.size=m) (o:29<=m) (E:a.tmps.getD 0 undef=Pv b 0) (L:a.tmps.getD 3 undef=Pv X 0) (O:a.tmps.getD 4 undef=Pv C 0)
 (hend:∀ ops vs w',vs 22=.slice ag N ac->vs 20=Pv b 0->(fun v w=>∃ g,v=.slice (some ⟨g,0,none⟩) f f/\w2.heap.size<=g/\QcB w g f (i.map (Qaj regs))) (vs 27) w'->Below w2.heap.size w2 w'->wpList prog ops Q (Qam 8 ((Tryz.f250.body.bind (Qi 3)).getD .skip)) (QM a vs [20,21,22,23,24,25,26,27]) w') :
 Code.wp prog ((Tryz.f250.body.bind (Qi 3)).getD .skip) Q a w2:=by
 conv=>arg 2;whnf
 refine Qg 8 (QnE w2 b X C N ac f d1 j rc ag rg p1 i regs) (fun w=>Below w2.heap.size w2 w) (fun w w'=>Below w.heap.size w w') (outs:=[0,3,4]) (gs:=[]) (bs:=[true,true,true,true,true,true,true,true]) (by kernel_rfl) (n:=29) I o (by kernel_rfl) (by kernel_rfl) ?hR ?hG (QI Zr 1) ⟨E,L,O,Y⟩ ?hA ?hend
 case hR =>
  intro t v w w' P h;unfold QnE at h |-;split at h
  ·rename_i p k
   simp only[List.lookup_cons,List.lookup_nil] at k
   split at k
   ·cases k;exact(by obtain⟨g,e,H,J⟩:=h;exact⟨g,e,H,J.below P⟩)
   ·cases k
  ·exact h
 case hG=>exact Y
 case hend=>exact fun ops vs w' c d=>hend ops vs w' (d 22 (by kernel_rfl)) (d 20 (by kernel_rfl)) (d 27 (by kernel_rfl)) c
 case hA =>
  iterate 7
   refine⟨fun a w c d K q=>?_,?_⟩
   ·obtain⟨r,-⟩:=d
    conv at r=>whnf;rhs;whnf
    have V:=Qk S c;have u1:=Qk B c;have u2:=Qk D c;go_simp;exact q _ _ Zr c Z
  refine⟨fun a w c d K q=>?_,?_⟩
  ·obtain⟨r,F,-⟩:=d
   conv at r=>whnf;rhs;whnf
   conv at F=>whnf;rhs;whnf
   go_simp;refine Xm (QaX G.out s.out u (Ya U.out c) (M.out.below c) A.out) ?_;rintro W w7 ⟨T,rfl,l,y,z⟩;go_simp;exact q _ _ z (c.trans (z.mono c.size)) ⟨T,Z,Zt c.size l,y⟩
  trivial
theorem Qcb {A:Nat->Prop}{s:JSt}{x:MTo}(hJ:JOk s) (hO:∀ k,O k->k<w.heap.size) (h:SAt w b O A s) (m:intsL.In w Q x.regs [.slice rg x.regs.length rc]) (n:intsL.In w Q x.args [.slice ag x.args.length ac]) (ad:x.regs.length<=16) (aw:x.args.length<=8) (al:0<=x.block/\x.block<s.f.blocks.length) :
 Calls prog 250 #[Pv b 0,toV x rg ag rc ac] w fun e w'=>ZG (s.to x) VNone e/\Below w.heap.size w w':=by
 have HJ:=Qa hJ;have HO:=Qa hO;have hL:=hJ.vals;obtain⟨xb,c,d⟩:=x
 simp only at m n ad aw al
 obtain⟨k,rfl⟩:=Xc al.1
 have a6:k<s.f.blocks.length:=by omega
 have D:s.f.blocks[k]?=some s.f.blocks[k]:=Zg a6;generalize s.f.blocks[k]=g at D;have b1:=Zd w (.cells #[Iv (k:Int),.slice rg c.length rc,.slice ag d.length ac] 82);have V:=Qe w #[Iv (k:Int),.slice rg c.length rc,.slice ag d.length ac] 82;have K1:=Qa (h.below b1);have aq:Hid (intsL.In (w.alloc (.cells #[Iv (k:Int),.slice rg c.length rc,.slice ag d.length ac] 82)) Q c [.slice rg c.length rc]):=Ya m b1;have ao:Hid (intsL.In (w.alloc (.cells #[Iv (k:Int),.slice rg c.length rc,.slice ag d.length ac] 82)) Q d [.slice ag d.length ac]):=Ya n b1;have J:=Qa b1;have u:=Qa V;clear h m n b1 V hJ hO;go_enter func250,ntmps250
 go_upto_region 1 with fail
 obtain⟨X,hX⟩:∃ X,w.heap.size=X:=⟨_,Z⟩
 generalize bq:w.alloc (.cells #[Iv (k:Int),.slice rg c.length rc,.slice ag d.length ac] 82)=w1 at K1 aq ao J u |-;rw[hX] at u
 rw[hX]
 clear bq hX;have x0:=Qb u.out 0 _ Z;have x1:=Qb u.out 1 _ Z;have x2:=Qb u.out 2 _ Z;obtain⟨pm,cm,hh,a1,c1,a2,c2,a3,c3,aL,cL,R⟩:=K1.out.read
 obtain⟨-,-,-,-,-,q5,-⟩:=R.cells
 obtain⟨fa,fc,fb,fd,fe,ff,bj,-,-,bb,-⟩:=Qas R.fn
 simp only[List.cons.injEq,Value.slice.injEq,and_true,true_and] at bj
 obtain⟨-,-,rfl,rfl⟩:=bj
 obtain⟨mg,mo,i,l,r,rfl,o,bh,ae,W⟩:=Qbn bb D
 have au:=Qa o;have ap:Hid ((Qp 6).In w1 (fun g=>¬ A g) g.params [.slice i g.params.length l]):=ae;have aj:Hid (r.length=10):=bh;have ah:=Qa W;have bf:(k:Int)<s.f.blocks.length:=by omega
 have av:=Qa (HJ.out.mod.2 s.f HJ.out.fn);have a8:Hid (g∈s.f.blocks):=Zm D;have I:=Qa (av.out.blocks g a8.out);have a5:Hid (¬ MBlock.great g):=fun hg=>HJ.out.tiny (.inr ⟨s.f,HJ.out.fn,.inr (.inr (.inr ⟨g,a8.out,hg⟩))⟩);have br:Hid (∀ t∈g.params,t.count<=2000):=fun t ht=>Xo fun bs=>a5.out (.inr (.inl (.inr ⟨t,ht,bs⟩)));have bt:Hid (∀ t∈s.L,t.count<=100000):=fun t ht=>Zt (Qaf (HJ.out.types t ht)) (by omega);have E:Hid (s.to ⟨(k:Int),c,d⟩=Qv (passC s.H s.f.regs c g.regs) (s.handC d (g.params.map (Qaj c)))):=Qnf D I.out.params.2;clear R bb o ae W bh D al;generalize bv:s.f.blocks.length=nb at q5 a6 bf;refine jt1 q5 x0 au (by simp[aj.out]) bf _ _ Z (Xg (by kernel_rfl)) Z Z ?_;rintro bp vs p af ⟨B,a7,hB,cB,bi,M⟩ b5;show wpList _ bp _ [_] (QM _ vs [5,6,7,8,9,10,11,12,13,4]) p;simp only[QM,Act.put,List.setIfInBounds_toArray,List.set_cons_zero,List.set_cons_succ,af,a7]
 have a:(Value.int .i64 g.regs::Value.slice i g.params.length l::r).length=12:=by simp[aj.out]
 have TH:Hid (p.there B 0 (Value.int .i64 g.regs::Value.slice i g.params.length l::r).toArray.size):=by
  intro j hj;rw[List.size_toArray,a] at hj
  rw[XK]
  refine⟨?_,Qj M j⟩
  rw[Qb M j cB[j] (by simp)];rfl
 have TS:Hid ((prog.info? 86).map (·.size)=some (Value.int .i64 g.regs::Value.slice i g.params.length l::r).toArray.size):=by show _=_;rw[List.size_toArray,a];exact sizeBk
 have TO:Hid ((Value.int .i64 g.regs::Value.slice i g.params.length l::r).toArray.all (·.oneCell')=true):=by
  refine all_oneCell_toArray fun v hv=>?_;simp only[List.mem_cons] at hv
  rcases hv with rfl | rfl | hv
  ·rfl
  ·rfl
  ·exact ah.out v hv
 have B6:Hid (Blk (p.setCells B 0 (Value.int .i64 g.regs::Value.slice i g.params.length l::r).toArray.toList) B (Value.int .i64 g.regs::Value.slice i g.params.length l::r).toArray 86):=by
  have h0:Blk p B ([]++cB.toList).toArray 86:=by rw[List.nil_append,Array.toArray_toList];exact M
  have:=Blk.sets (Value.int .i64 g.regs::Value.slice i g.params.length l::r) [] cB.toList p (by rw[a];simp[bi]) h0
  exact this
 have z:Hid (Below w1.heap.size w1 (p.setCells B 0 (Value.int .i64 g.regs::Value.slice i g.params.length l::r).toArray.toList)):=by
  have:=Qz.setCells (O:=fun k=>k=B) (O':=fun k=>k=B) (b:=B) Z (Value.int .i64 g.regs::Value.slice i g.params.length l::r).toArray.toList 0 _ (Qz.refl _ p)
  exact b5.trans (this.below b5.size (fun k hk=>by omega))
 clear M hB bi b5 af a7 a;generalize bd:g.regs=gr at E I B6 z TH TS TO |-;have bl:Hid (g.regs=gr):=bd;generalize am:g.params.length=T at ap B6 z TH TS TO |-;have ba:Hid (g.params.length=T):=am;have bu:T<=8:=by rw[<-am];exact I.out.params.1
 have y0:(p.setCells B 0 (Value.int .i64 gr::Value.slice i T l::r).toArray.toList).cell? ⟨B,0,none⟩=some (Iv gr):=Qb B6.out 0 _ Z;have y1:(p.setCells B 0 (Value.int .i64 gr::Value.slice i T l::r).toArray.toList).cell? ⟨B,1,none⟩=some (.slice i T l):=Qb B6.out 1 _ Z;generalize bk:(Value.int .i64 gr::Value.slice i T l::r).toArray=q at B6 z TH TS TO y0 y1 |-;have K6:=Qa (K1.out.below z.out);have C:Hid (intsL.In (p.setCells B 0 q.toList) Q c [.slice rg c.length rc]):=Ya aq.out z.out;have G:Hid (intsL.In (p.setCells B 0 q.toList) Q d [.slice ag d.length ac]):=Ya ao.out z.out;have ak:Hid ((Qp 6).In (p.setCells B 0 q.toList) (fun g=>¬ A g) g.params [.slice i T l]):=Ya ap.out z.out;have BW:Hid (Below w.heap.size w (p.setCells B 0 q.toList)):=J.out.trans (z.out.mono J.out.size);have bo:Hid (s.f.regs<=gr):=by have:=I.out.regs.1;rw[bl.out] at this;exact this
 have S:=Qk x1 z.out;have F:=Qk x2 z.out;clear bd am bk K1 aq ao ap J z B6 q5 x0 x1 x2 aj ah a5 u au;go_upto_region 2 with (refine wpList_store_mid Z 86 (.tmp 4) (.tmp 13) Z B 0 q Z Z TH.out TS.out TO.out ?_)
 clear TH TS TO;generalize p.setCells B 0 q.toList=w6 at K6 C G ak BW S F y0 y1 |-;obtain⟨Kn,an⟩:∃ Kn,c.length=Kn:=⟨_,Z⟩
 have HK:=Qa an;rw[an] at S C ad
 clear an;obtain⟨N,hN⟩:∃ N,d.length=N:=⟨_,Z⟩
 have HN:=Qa hN;rw[hN] at F G aw
 clear hN;have CP:=Qa (Qeo gr HK.out (by omega) C.out av.out.regs.1 bo.out K6.out);go_wp2_with fail
 refine CP.out.mono ?_;rintro e' w7 ⟨hO,K⟩;have P:=Qa (BW.out.trans (K.mono BW.out.size));rcases hO with ⟨U,y,rfl,hy⟩|⟨U,rfl⟩
 rotate_left
 ·exact⟨Z,.inr ⟨by rw[E.out,Ql U];exact U,by rw[E.out,Ql U]⟩,P.out⟩
 subst hy;have E2:Hid (s.to ⟨(k:Int),c,d⟩=s.handC d (g.params.map (Qaj c))):=by show _=_;rw[E.out,Qx U]
 have K7:=Qa (K6.out.below K);have be:Hid (intsL.In w7 Q c [.slice rg Kn rc]):=Ya C.out K;have a0:Hid (intsL.In w7 Q d [.slice ag N ac]):=Ya G.out K;have ax:=Qa (QX (Ya ak.out K)).1;have bc:=Qk S K;have a9:=Qk F K;have ay:=Qk y1 K;clear U CP E K K6 C G ak S F y0 y1 BW;go_upto_region 3 with fail
 refine jt3 bc a9 ay HK ba (by omega) be ax br _ _ Z (Xg (by kernel_rfl)) Z Z Z ?_;rintro a4 bn w8 ai aa ⟨gP,ab,bm,bg⟩ b8;show wpList _ a4 _ [_] (QM _ bn [20,21,22,23,24,25,26,27]) w8;simp only[QM,Act.put,List.setIfInBounds_toArray,List.set_cons_zero,List.set_cons_succ,ai,aa,ab]
 have ar:=Qa (P.out.trans (b8.mono P.out.size))
 have CH:Hid (Calls prog 251 #[Pv b 0,.slice ag N ac,.slice (some ⟨gP,0,none⟩) T T] w8 fun e w'=>ZG (s.handC d (g.params.map (Qaj c))) VNone e/\Below w8.heap.size w8 w') :=
  QaJ HN.out (by omega) (by rw[XN,ba.out]) (by omega) (Ya a0.out b8) bg.lin hL bt.out (fun k hk=>Zl (HO.out k hk) ar.out.size) (K7.out.below b8)
 clear bg bm b8 ai aa ab K7 be a0 ax bc a9 ay P;go_wp2_with fail
 refine CH.out.mono ?_;rintro e' w9 ⟨hO,b9⟩;have az:=Qa (ar.out.trans (b9.mono ar.out.size));have FF:Hid (ZG (s.to ⟨(k:Int),c,d⟩) VNone e'):=by show ZG _ _ _;rw[E2.out];exact hO
 rcases hO with ⟨U,y,rfl,hy⟩|⟨U,rfl⟩
 rotate_left
 ·exact⟨Z,FF.out,az.out⟩
 subst hy;clear U CH E2 b9;go_wp2
 exact Xz (v:=.tuple #[]) (by simp[results,results250,go_sem]) Z ⟨FF.out,az.out⟩
theorem Xv:type_of% @of_decide_eq_true:=@of_decide_eq_true
def QhW (H:List Bool) (regs:Int):Int:=if (Qan H).all (fun r=>decide (r<regs)) then 0 else 12
theorem Qht {A:Nat->Prop}{s:JSt}(r:Int) (j:w.cell? ⟨B,0,none⟩=some (Pv b 0)) (h:SAt w b O A s) :
 Calls prog 276 #[Iv r,Pv B 0] w fun e w'=>e=.returned (.bool (decide (r>=s.f.regs)))/\w'=w:=by
 obtain⟨g,q,t,k,n,c,i,o,p,m,d,R⟩:=h.read
 obtain⟨-,-,a,-⟩:=R.cells
 clear R h;generalize s.f.regs=l at a |-;go_enter func276,ntmps276
 go_wp2
 go_ret;exact⟨Z,Z⟩
theorem enters_left1:Qah 276:=fun _ _=>by kernel_rfl
theorem Qfz {A:Nat->Prop}{s:JSt}(K:l.length=N) (T:N<=100000) (I:intsL.In w Q l [.slice p N c]) (J:w.cell? ⟨B,0,none⟩=some (Pv b 0)) (h:SAt w b O A s) :
 Calls prog 287 #[.slice p N c,.func (.func 276) #[] #[Pv B 0]] w fun e w'=>(∃ i:Int,e=.returned (Iv i)/\(0<=i↔∃ x∈l,s.f.regs<=x))/\w'=w:=by
 have U:=Qa I;have F:=Qa K;have C:=Qa (fun r=>Qht r J h);have M:=enters_left1;unfold Qah at M;clear I K h J;generalize s.f.regs=t at C |-;go_enter func287,ntmps287
 go_wp2
 go_loop [8] (fun i=>∃ k:Nat,k<=N/\i=Iv k/\∀ (j:Nat) (y:Int),j<k->l[j]?=some y->y<t) (fun i=>N - (intOf i).toNat)
 case atStart=>exact⟨0,Xb _,Z,fun j y D=>by omega⟩
 case round =>
  obtain⟨k,W,rfl,L⟩:=hrel
  have G:=Qa L;clear L;by_cases q:k<N
  ·have u:(k:Int)<N:=by omega
   have m:k<l.length:=by rw[F.out];exact q
   obtain⟨g,o,rfl,-,X,E⟩:=ZI U.out m
   obtain⟨y,n⟩:∃ y,l[k]?=some y:=⟨_,Zg m⟩
   rw[show l.getD k 0=y by rw[List.getD_eq_getElem?_getD,n];rfl] at E
   have H:=Qa n;have v:=Qa (C.out y);clear n m;by_cases a:t<=y
   ·rw[show decide (y>=t)=true from Xt a] at v
    have S:Hid (∃ x∈l,t<=x):=⟨y,Zm H.out,a⟩;clear a;go_wp2_with (go_at_call 276;refine(v.out).mono ?_;rintro e w' ⟨rfl,d⟩;have d:=d.symm;subst d)
    go_ret;exact⟨⟨k,Z,by simp only[S.out,iff_true];omega⟩,Z⟩
   ·rw[show decide (y>=t)=false from Xu a] at v
    have z:=Qa (Int.not_le.1 a);clear a;go_wp2_with (go_at_call 276;refine(v.out).mono ?_;rintro e w' ⟨rfl,d⟩;have d:=d.symm;subst d)
    go_round
    case rel =>
     refine⟨k+1,q,by go_num,fun j P D n=>?_⟩
     rcases Nat.lt_or_ge j k with h | h
     ·exact G.out j P h n
     ·have:j=k:=by omega
      subst this;have e:=H.out.symm.trans n;injection e with e
      subst e;exact z.out
    case measure=>simp[intOf];omega
  ·have u:¬ (k:Int)<N:=by omega
   go_wp2
   go_ret;refine⟨⟨-1,Z,by omega,fun hm=>?_⟩,Z⟩
   obtain⟨x,R,V⟩:=hm
   obtain⟨j,D,e⟩:=List.mem_iff_getElem.1 R
   have:=G.out j x (by have:=F.out;omega) (by rw[Zg D,e])
   omega
theorem Qdp {A:Nat->Prop}{s:JSt}(k:l.length=N) (g:N<=100000) (n:intsL.In w Q l [.slice p N c]) (j:w.cell? ⟨B,0,none⟩=some (Pv b 0)) (h:SAt w b O A s) :
 Calls prog 277 #[.slice p N c,.func (.func 276) #[] #[Pv B 0]] w fun e w'=>e=.returned (.bool (!(l.all (fun r=>decide (r<s.f.regs)))))/\w'=w:=by
 have C:=Qa (Qfz k g n j h);clear n k h j;go_enter func277,ntmps277
 go_wp2_with fail
 refine C.out.mono ?_;rintro e w' ⟨⟨i,rfl,m⟩,d⟩;have d:=d.symm;subst d
 have E:Hid ((!(l.all (fun r=>decide (r<s.f.regs))))=decide (i>=0)):=by
  show _=_;rw[Bool.eq_iff_iff]
  simp only[Bool.not_eq_true',decide_eq_true_eq,ge_iff_le,m]
  rw[<-Bool.not_eq_true,Xe]
  constructor
  ·intro h;exact Classical.byContradiction fun o=>h (fun x a=>Xt (Int.not_le.1 (fun q=>o ⟨x,a,q⟩)))
  ·rintro ⟨x,a,t⟩ h
   have:=Xv (h x a)
   omega
 clear C m;go_wp2
 go_ret;exact⟨by rw[E.out];rfl,Z⟩
theorem Qhi {A:Nat->Prop}{s:JSt}(J:s.H.length<=16) (h:SAt w b O A s) :
 Calls prog 252 #[Pv b 0] w fun e w'=>ZG (QhW s.H s.f.regs) VNone e/\Below w.heap.size w w':=by
 have C:∀ (fn:Fn) (first cap:Array Value) (w:World),(Instr.makeFunc fn first cap).run prog w=.ok (.func fn first cap) w:=fun _ _ _ _=>rfl;have p:=Zd w (.cells #[Pv b 0] 234);have H:=Qa (h.below p);have t:=Qa p;have j:=Qe w #[Pv b 0] 234;have l:=Qb j 0 _ Z;obtain⟨T,U,S,I,Q,P,F,M,N,K,V,R⟩:=H.out.read
 obtain⟨-,y,-⟩:=R.cells
 have x:=Qa (Qis R.held);clear R h p j;go_enter func252,ntmps252
 go_upto_region 1 with fail
 generalize w.alloc (.cells #[Pv b 0] 234)=G at H t l y x |-;obtain⟨X,j⟩:∃ X,w.heap.size=X:=⟨_,Z⟩
 rw[j] at l |-
 rw[<-j]
 have o:=Qa j;go_wp2_with fail
 refine x.out.mono ?_;rintro z w2 ⟨a,c,rfl,g,k⟩;have D:=Qa (H.out.below k);have m:=Qa (t.out.trans (k.mono t.out.size));have u:=Qa (Qdp Z (by have:=QiO s.H;omega) g (Qk l k) D.out);have L:=Qk l k;clear g k x l y;generalize (Qan s.H).length=W at u |-;have E:Hid (QhW s.H s.f.regs=if (Qan s.H).all (fun r=>decide (r<s.f.regs)) then 0 else 12):=rfl;generalize (Qan s.H).all (fun r=>decide (r<s.f.regs))=q at u E;rw[o.out]
 go_wp2_with (go_at_call 277;refine(u.out).mono ?_;rintro e w' ⟨rfl,i⟩;have i:=i.symm;subst i)
 refine(QbB _ _ _).mono ?_
 rintro z w' ⟨i,⟨n,rfl⟩|⟨n,rfl⟩⟩
 rotate_left
 ·exact⟨Z,ZG.bad (d:=12) (by rw[E.out,show q=false by simpa using n];rfl) (by decide),by rw[i];exact m.out⟩
 have i:=i.symm;subst i;have B:Hid (QhW s.H s.f.regs=0):=by show _=_;rw[E.out,show q=true by simpa using n];rfl
 clear n;go_wp2
 exact Xz (v:=.tuple #[]) (by simp[results,results252,go_sem]) Z ⟨ZG.good B.out Z,m.out⟩
structure EnT (w wc:World) (b X:Nat) (O A Q:Nat->Prop) (s:JSt) (x:ZA) (e:EP):Prop where
 st:SAt wc b O A s
 box:Blk wc X (QbW x e) 84
 lists:Qdq wc Q x e
 bel:Below w.heap.size w wc
theorem EnT.below {wc:World}{A:Nat->Prop}{s:JSt}{x:ZA}{e:EP}(h:EnT w wc b X O A Q s x e) (k:Below wc.heap.size wc w'):EnT w w' b X O A Q s x e :=
 ⟨h.st.below k,(k.block X (XC h.box)).trans h.box,h.lists.below k,h.bel.trans (k.mono h.bel.size)⟩
theorem EnT.cells {wc:World}{A:Nat->Prop}{s:JSt}{x:ZA}{e:EP}(h:EnT w wc b X O A Q s x e):wc.cell? ⟨X,0,none⟩=some (Iv x.op)/\wc.cell? ⟨X,1,none⟩=some (Iv x.a)/\wc.cell? ⟨X,2,none⟩=some (Iv x.yes.block)/\wc.cell? ⟨X,3,none⟩=some (.slice e.pYR x.yes.regs.length e.cYR)/\wc.cell? ⟨X,4,none⟩=some (.slice e.pYA x.yes.args.length e.cYA)/\wc.cell? ⟨X,5,none⟩=some (Iv x.no.block)/\wc.cell? ⟨X,6,none⟩=some (.slice e.pNR x.no.regs.length e.cNR)/\wc.cell? ⟨X,7,none⟩=some (.slice e.pNA x.no.args.length e.cNA)/\wc.cell? ⟨X,8,none⟩=some (.slice e.pA x.args.length e.cA) :=
 ⟨Qb h.box 0 _ Z,Qb h.box 1 _ Z,Qb h.box 2 _ Z,Qb h.box 3 _ Z,Qb h.box 4 _ Z,Qb h.box 5 _ Z,Qb h.box 6 _ Z,Qb h.box 7 _ Z,Qb h.box 8 _ Z⟩
theorem QkC {A:Nat->Prop}{s:JSt}{x:ZA}{e:EP}(hJ:JOk s) (hO:∀ k,O k->k<w.heap.size) (h:SAt w b O A s) (hx:Qdq w Q x e) (N:-9223372036854775808<=x.a/\x.a<=9223372036854775807) (hf:x.form s.f.blocks.length=0) :
 Calls prog 214 #[Pv b 0,.agg (QbW x e)] w fun r w'=>ZG (s.fin x) VNone r/\Below w.heap.size w w':=by
 have C:=Qa hJ;have J:=Qa hO;have hL:=hJ.vals;have b1:=Zd w (.cells (QbW x e) 84);have S0:Hid (EnT w (w.alloc (.cells (QbW x e) 84)) b w.heap.size O A Q s x e):=⟨h.below b1,Qe w _ _,hx.below b1,b1⟩;have q:=Qa (C.out.mod.2 s.f C.out.fn);have P:=Qa (QkL q.out.many.2 hf);have ac:=Qa N;have ad:Hid (∀ t∈s.L,t.count<=100000):=fun t ht=>Zt (Qaf (C.out.types t ht)) (by omega);have E1:s.fin x=if x.op=1 then s.to x.yes else if x.op=2 then Qv (s.want x.a 1 false) (Qv (s.to x.yes) (s.to x.no)) else Qv (s.args x.args s.f.results (QhA s.f.regs.toNat)) (if (Qan s.H).all (fun r=>decide (r<s.f.regs)) then 0 else 12):=by rw[JSt.fin,Xr (by rw[hf];simp)]
 have i:=Qa E1;clear h hx b1 hJ hO N hf E1;go_enter func214,ntmps214
 go_upto_region 1 with fail
 obtain⟨X,hX⟩:∃ X,w.heap.size=X:=⟨_,Z⟩
 unfold QbW at S0;generalize ab:w.alloc (.cells #[Iv x.op,Iv x.a,Iv x.yes.block,.slice e.pYR x.yes.regs.length e.cYR,.slice e.pYA x.yes.args.length e.cYA,Iv x.no.block,.slice e.pNR x.no.regs.length e.cNR,.slice e.pNA x.no.args.length e.cNA,.slice e.pA x.args.length e.cA] 84)=w1 at S0 |-;have S:Hid (EnT w w1 b X O A Q s x e):=by rw[<-hX];exact S0.out
 rw[hX]
 clear ab hX S0;obtain⟨F,x1,W,x3,x4,x5,V,x7,T⟩:=S.out.cells
 rcases P.out.1 with g | g | g
 ·have j:Hid (s.fin x=s.to x.yes):=by show _=_;rw[i.out,Xs g]
  have E:Hid (x.yes.form s.f.blocks.length true=0):=by have:=P.out.2.2.2.2.1;rw[g] at this;exact this
  rw[g] at F
  clear i;go_wp2_with fail
  refine(Qcb (x:=x.yes) C.out (fun k u=>Zl (J.out k u) S.out.bel.size) S.out.st S.out.lists.yr S.out.lists.ya (QaF E.out).2.1 (QaF E.out).2.2 (QaF E.out).1).mono ?_
  rintro e9 w9 ⟨m,o⟩;have l:=Qa (S.out.below o);rcases m with ⟨c,y,rfl,p⟩|⟨c,rfl⟩
  rotate_left
  ·exact⟨Z,.inr ⟨by rw[j.out];exact c,by rw[j.out]⟩,l.out.bel⟩
  subst p;have K:Hid (s.fin x=0):=by show _=_;rw[j.out];exact c
  clear c o;go_wp2
  exact Xz (v:=.tuple #[]) (by simp[results,results214,go_sem]) Z ⟨ZG.good K.out Z,l.out.bel⟩
 ·have j:Hid (s.fin x=Qv (s.want x.a 1 false) (Qv (s.to x.yes) (s.to x.no))):=by show _=_;rw[i.out,Xr (by omega),Xs g]
  have E:Hid (x.yes.form s.f.blocks.length true=0):=by have:=P.out.2.2.2.2.1;rw[g] at this;exact this
  have h2:Hid (x.no.form s.f.blocks.length true=0):=by have:=P.out.2.2.2.2.2;rw[g] at this;exact this
  rw[g] at F
  have CI:=Qa (fun d=>QbF x.a ac.out d hL (fun k u=>Zl (J.out k u) S.out.bel.size) S.out.st);clear i;go_wp2_with fail
  refine(CI.out _).mono ?_
  rintro e8 w8 ⟨m,I⟩;have D:=Qa (S.out.below I);rcases m with ⟨c,y,rfl,p⟩|⟨c,rfl⟩
  rotate_left
  ·exact⟨Z,.inr ⟨by rw[j.out,Ql c];exact c,by rw[j.out,Ql c]⟩,D.out.bel⟩
  subst p;have z:Hid (s.fin x=Qv (s.to x.yes) (s.to x.no)):=by show _=_;rw[j.out,Qx c]
  clear c I j S CI;have S:=D;clear D F x1 W x3 x4 x5 V x7 T;obtain⟨F,x1,W,x3,x4,x5,V,x7,T⟩:=S.out.cells
  go_wp2_with fail
  refine(Qcb (x:=x.yes) C.out (fun k u=>Zl (J.out k u) S.out.bel.size) S.out.st S.out.lists.yr S.out.lists.ya (QaF E.out).2.1 (QaF E.out).2.2 (QaF E.out).1).mono ?_
  rintro e9 w9 ⟨m,o⟩;have l:=Qa (S.out.below o);rcases m with ⟨c,y,rfl,p⟩|⟨c,rfl⟩
  rotate_left
  ·exact⟨Z,.inr ⟨by rw[z.out,Ql c];exact c,by rw[z.out,Ql c]⟩,l.out.bel⟩
  subst p;have E4:Hid (s.fin x=s.to x.no):=by show _=_;rw[z.out,Qx c]
  clear c o z S;have S:=l;clear l F x1 W x3 x4 x5 V x7 T;obtain⟨F,x1,W,x3,x4,x5,V,x7,T⟩:=S.out.cells
  go_wp2_with fail
  refine(Qcb (x:=x.no) C.out (fun k u=>Zl (J.out k u) S.out.bel.size) S.out.st S.out.lists.nr S.out.lists.na (QaF h2.out).2.1 (QaF h2.out).2.2 (QaF h2.out).1).mono ?_
  rintro e9 w9 ⟨m,o⟩;have l:=Qa (S.out.below o);rcases m with ⟨c,y,rfl,p⟩|⟨c,rfl⟩
  rotate_left
  ·exact⟨Z,.inr ⟨by rw[E4.out];exact c,by rw[E4.out]⟩,l.out.bel⟩
  subst p;have K:Hid (s.fin x=0):=by show _=_;rw[E4.out];exact c
  clear c o;go_wp2
  exact Xz (v:=.tuple #[]) (by simp[results,results214,go_sem]) Z ⟨ZG.good K.out Z,l.out.bel⟩
 ·have M:=q.out.regs.1;obtain⟨n,hn⟩:=Xc M
  have j:Hid (s.fin x=Qv (s.handC x.args s.f.results) (QhW s.H s.f.regs)):=by show _=_;rw[i.out,Xr (by omega),Xr (by omega),Qmo hn q.out.results.2];rfl
  have aa:x.args.length<=8:=P.out.2.2.2.1;obtain⟨pm,cm,hh,a1,c1,a2,c2,a3,c3,aL,cL,R⟩:=S.out.st.read
  obtain⟨-,-,-,-,q4,-⟩:=R.cells
  obtain⟨fa,fc,fb,fd,fe,ff,U,-,B,-,-⟩:=Qas R.fn
  simp only[List.cons.injEq,Value.slice.injEq,and_true,true_and] at U
  obtain⟨⟨-,-⟩,⟨rfl,rfl⟩,-⟩:=U
  have G:=Qa (QX B).1
  have CH:Hid (Calls prog 251 #[Pv b 0,.slice e.pA x.args.length e.cA,.slice a2 s.f.results.length c2] w1.drew fun e w'=>ZG (s.handC x.args s.f.results) VNone e/\Below w1.drew.heap.size w1.drew w') :=
   QaJ Z (by omega) Z (by have:=q.out.results.1;omega) (Ya S.out.lists.ar (Qb1 Zr)) G.out.drew hL ad.out (fun k u=>Zl (J.out k u) S.out.bel.size) (S.out.st.below (Qb1 Zr))
  rw[g] at F
  clear i R B G hn M;generalize s.f.results.length=nr at q4 CH;generalize x.args.length=na at T CH aa;go_upto_region 9 with fail
  go_region_with (go_at_call 251;refine(CH.out).mono ?_;rintro e8 w8 ⟨m,I⟩;have D:=Qa (S.out.below (Zx I));rcases m with ⟨c,y,rfl,p⟩|⟨c,rfl⟩;rotate_left;exact⟨Z,.inr ⟨by rw[j.out,Ql c];exact c,by rw[j.out,Ql c]⟩,D.out.bel⟩;subst p;have z:Hid (s.fin x=QhW s.H s.f.regs):=(by show _=_;rw[j.out,Qx c]);clear c I)
  all_goals
   have CV:=Qa (Qhi C.out.regs D.out.st);go_wp2_with fail
   refine CV.out.mono ?_;rintro e9 w9 ⟨m,o⟩;have l:=Qa (D.out.below o);rcases m with ⟨c,y,rfl,p⟩|⟨c,rfl⟩
   rotate_left
   ·exact⟨Z,.inr ⟨by rw[z.out];exact c,by rw[z.out]⟩,l.out.bel⟩
   subst p;have K:Hid (s.fin x=0):=by show _=_;rw[z.out];exact c
   clear c o;go_wp2
   exact Xz (v:=.tuple #[]) (by simp[results,results214,go_sem]) Z ⟨ZG.good K.out Z,l.out.bel⟩
theorem Qcs {a:Nat}(c:Int) (b:Blk w a #[Iv 0] 3) :
 CallsD prog 238 #[Qfr a] (.panicking (QeK c)) w fun e u' w' =>
  e=.returned (.tuple #[])/\u'=.panicking [{ v:=.iface 304 (Iv c),recovered:=true }]/\(Blk w' a #[Iv c] 3/\Chg a w w'):=by
 have d:=b.lt;have f:=Qb b 0 _ Z;have h:=Qj b 0;have i:=Qa b;refine callsD_of_wpS func238 Z fun m n j=>?_;apply wpS_seq
 apply wpS_region
 simp[wpOpsS,go_sem,recoverD,j,ntmps238,Exit.thenS]
 rw[show (#[Qfr a]++((Array.replicate 15 undef).setIfInBounds 3 (Value.iface 304 (Iv c))).setIfInBounds 0 (Value.iface 304 (Iv c)):Array Value)=#[Qfr a,Value.iface 304 (Iv c),undef,undef,Value.iface 304 (Iv c),undef,undef,undef,undef,undef,undef,undef,undef,undef,undef,undef] from Z]
 refine wpS_of_wp ?_;have k:∀ w:World,(Instr.typeAssert (.iface 304 (Iv c)) 20 304 true).run prog w=.ok (.tuple #[Iv c,.bool true]) w:=fun _=>by kernel_rfl
 clear b;go_wp2
 have l:Blk (w.setCell ⟨a,0,none⟩ (Iv c)) a #[Iv c] 3:=by
  have:=Qh i.out 0 (Iv c)
  simpa using this
 have g:Chg a w (w.setCell ⟨a,0,none⟩ (Iv c)):=Chg.set w 0 _ d;exact(show bodyPostS _ _ _ _ _ _ _ _ _ from ⟨Z,_,Z,.tuple #[],by simp[results,results238,go_sem],Z,Z,l,g⟩)
theorem QfE (a:Nat) :
 CallsD prog 238 #[Qfr a] .returning w fun e u' w'=>e=.returned (.tuple #[])/\u'=.returning/\w'=w:=by
 refine callsD_of_wpS func238 Z fun b d c=>?_;apply wpS_seq
 apply wpS_region
 simp[wpOpsS,go_sem,recoverD,c,ntmps238,Exit.thenS]
 rw[show (#[Qfr a]++((Array.replicate 15 undef).setIfInBounds 3 (Value.nilIface)).setIfInBounds 0 (Value.nilIface):Array Value)=#[Qfr a,Value.nilIface,undef,undef,Value.nilIface,undef,undef,undef,undef,undef,undef,undef,undef,undef,undef,undef] from Z]
 refine wpS_of_wp ?_;go_wp2_with fail
 cases b
 simp_all [bodyPostS,results,results238]
def QmP (Fb:Nat) (R1:World->Prop) (R2:Int->World->Prop) (en:Ending) (w2:World):Prop :=
 Blk w2 Fb #[Iv 0] 3/\((en=.returned (.tuple #[])/\R1 w2)\/(∃ c,en=.panicked (QeK c)/\R2 c w2))
def QfX (Fb:Nat) (R1:World->Prop) (R2:Int->World->Prop) (en:Ending) (w':World):Prop :=
 (∃ w2,R1 w2/\en=.returned (Iv 0)/\Chg Fb w2 w')\/(∃ w2,∃ c:Int,R2 c w2/\en=.returned (Iv c)/\Chg Fb w2 w')
theorem Qdh (F:Nat) (a:Array Value) (e:Qah F) (i:World->Prop) (n:Int->World->Prop) (d:Calls prog F a (w.alloc (.cells #[Iv 0] 3)) fun en w2=>QmP w.heap.size i n en w2) :
 Calls prog 210 #[.func (.func F) #[] a] w fun en w'=>QfX w.heap.size i n en w':=by
 have v:∀ (fn:Fn) (first cap:Array Value) (w:World),(Instr.makeFunc fn first cap).run prog w=.ok (.func fn first cap) w:=fun _ _ _ _=>rfl;have p:=e;unfold Qah at p;have r:Hid (Calls prog F a (w.alloc (.cells #[Iv 0] 3)) fun en w2=>QmP w.heap.size i n en w2):=d;clear d e;go_enter_defers func210,ntmps210
 go_wp2_with fail
 refine r.out.mono ?_;rintro A b ⟨m,⟨rfl,g⟩|⟨c,rfl,g⟩⟩
 ·have h:=Qa m;have k:=Qb h.out 0 _ Z;have l:=Qj h.out 0;have z:Hid (i b):=g;clear m g r p;go_wp2
  have q:Blk (b.setCell ⟨w.heap.size,0,none⟩ (Iv 0)) w.heap.size #[Iv 0] 3:=by
   have:=Qh h.out 0 (Iv 0)
   simpa using this
  have o:Chg w.heap.size b (b.setCell ⟨w.heap.size,0,none⟩ (Iv 0)):=Chg.set b 0 _ h.out.lt;clear k l;generalize b.setCell ⟨w.heap.size,0,none⟩ (Iv 0)=u at q o |-;refine leaves_cons (f:=238) (args:=#[Qfr w.heap.size]) (by simp) (by simp[go_sem]) ?_;refine(QfE w.heap.size).mono ?_
  rintro s x B ⟨rfl,rfl,rfl⟩;have j:=Qb q 0 _ Z;exact⟨Iv 0,by simp[results,results210,go_sem,j],.inl ⟨b,z.out,Z,o⟩⟩
 ·show bodyPostD _ _ _ _ _ _;refine leaves_cons (f:=238) (args:=#[Qfr w.heap.size]) (by simp) (by simp[go_sem]) ?_;refine(Qcs c m).mono ?_
  rintro s x u ⟨rfl,rfl,t,y⟩;have j:=Qb t 0 _ Z;exact⟨Iv c,by simp[results,results210,go_sem,j],.inr ⟨b,c,g,Z,y⟩⟩
theorem Qlo {A:Nat->Prop}{s:JSt}{x:Qs}(j:∀ k,A k->k<w.heap.size) (i:JOk s) (h:SAt w b O A s) (a:intsL.In w Q x.regs [.slice rg x.regs.length rc]) (c:intsL.In w Q x.args [.slice ag x.args.length ac]) (f:x.regs.length<=rc) (d:ZB x) (g:x.form s.m.length=0) :
 Calls prog 212 #[Pv b 0,Qed x rg ag rc ac] w fun e w'=>QO w b O A s (s.next x) (s.goC x) e w':=by
 obtain⟨-,-,-,l⟩:=Q5 g
 rcases l with e | e | e | e | e | e | e | e | e | e | e | e | e | e
 ·exact QlP j i h a c f d g e
 ·exact Ql5 j i h a c f d g e
 ·exact QlX j i h a c f d g e
 ·exact Qj5 j i h a c f d g e
 ·exact Qjs j i h a c f d g e
 ·exact Qlq j i h a c f d g e
 ·exact Ql7 j i h a c f d g e
 ·exact Qi0 j i h a c f d g e
 ·exact QkF j i h a c f d g e
 ·exact Qiq j i h a c f d g e
 ·exact Qma j i h a c f d g e
 ·exact QmA j i h a c f d g e
 ·exact Qlv j i h a c f d g e
 ·exact QkJ j i h a c f d g e
theorem STo.seal {wc w9:World}{i:Nat}{A:Nat->Prop}{s:JSt}(n:∀ k,O k->k<w.heap.size) (f:Below w.heap.size w wc) (m:w.heap.size<=i/\i<wc.heap.size) (h:STo wc w2 b O (fun k=>A k\/(w.heap.size<=k/\k<wc.heap.size)) s) (c:Chg i w2 w9):STo w w9 b O A s:=by
 obtain⟨N,g,j,d⟩:=h
 have q:=f.size;have r:=d.size;have p:=c.size;refine⟨fun k=>N k\/(w.heap.size<=k/\k<wc.heap.size),fun k a=>?_,?_,?_⟩
 ·rcases a with a | a
  ·have:=g k a;omega
  ·omega
 ·refine j.keep (fun k o a=>c.block k o (fun e=>?_)) (fun k a _=>?_) (fun k a _ e=>a ?_) (fun k a=>?_)
  ·subst e;rcases a with a | a
   ·rcases a with a | a
    ·have:=n k a;omega
    ·have:=g k a;omega
   ·exact a (.inl (.inr m))
  ·rcases a with a | a
   ·exact .inl a
   ·exact .inr (.inl a)
  ·rcases e with e | e | e
   ·exact .inl (.inl e)
   ·exact .inr e
   ·exact .inl (.inr e)
  ·rcases a with a | a
   ·have:=j.sub k (.inl a)
    rcases this with (h | h) | h
    ·exact .inl h
    ·exact .inr (.inr h)
    ·exact .inr (.inl h)
   ·exact .inr a
 ·refine⟨c.os.trans (d.os.trans f.os),c.tape.trans (d.tape.trans f.tape),c.output.trans (d.output.trans f.output),by omega,fun k a l=>?_,fun k a=>?_⟩
  ·exact(c.block k (by omega) (by omega)).trans ((d.block k (by omega) l).trans (f.block k a))
  ·rcases a with a | a | a
   ·exact .inl a
   ·have:=g k a;exact .inr (by omega)
   ·exact .inr a.1
theorem SAt.wall {wc:World}{A:Nat->Prop}{s:JSt}(h:SAt w b O A s) (c:Below w.heap.size w wc):SAt wc b O (fun k=>A k\/(w.heap.size<=k/\k<wc.heap.size)) s :=
 h.keep (fun g d _=>c.block g d) (fun _ h _=>h) (fun k a f e=>by rcases e with e | e;exact a e;omega) (fun k a=>.inl (h.sub k a))
theorem enters_ins1:Qah 211:=fun _ _=>by kernel_rfl
theorem enters_end1:Qah 213:=fun _ _=>by kernel_rfl
def Qob (b S0 X nm cm rc ac:Nat) (cf:Int) (pm rg ag:Option Addr) (x:Qs) (t:Tmp) (v:Value) (w:World):Prop :=
 v=(([(2,Pv S0 0),(3,Pv X 0),(6,Pv b 0),(7,Pv b 0),(8,Pv b 0),(9,.agg #[.slice pm nm cm]),(10,.agg #[Iv x.op,Iv x.a,Iv x.b,Iv x.c,Iv x.k,Iv x.n,.slice rg x.regs.length rc,.slice ag x.args.length ac]),(11,Iv cf),(5,Iv cf)]:List (Tmp × Value)).lookup t).getD undef
theorem ji1 {o f:Nat}{p:Int}{x:Qs}(B:w6.cell? ⟨o,0,none⟩=some (Pv b 0)) (F:w6.cell? ⟨b,0,none⟩=some (.slice pm f cm)) (E:w6.cell? ⟨X,0,none⟩=some (Iv x.op)) (y:w6.cell? ⟨X,1,none⟩=some (Iv x.a)) (I:w6.cell? ⟨X,2,none⟩=some (Iv x.b)) (u:w6.cell? ⟨X,3,none⟩=some (Iv x.c)) (L:w6.cell? ⟨X,4,none⟩=some (Iv x.k)) (J:w6.cell? ⟨X,5,none⟩=some (Iv x.n)) (D:w6.cell? ⟨X,6,none⟩=some (.slice rg x.regs.length rc)) (H:w6.cell? ⟨X,7,none⟩=some (.slice ag x.args.length ac)) (j:f<2305843009213693952) (s:Hid (x.form f=p))
 (a:Act) (m:Nat) (A:a.tmps.size=m) (i:17<=m) (C:a.tmps.getD 2 undef=Pv o 0) (G:a.tmps.getD 3 undef=Pv X 0) :
 Code.wp prog ((Tryz.f164.body.bind (Qi 1)).getD .skip) (fun e a' w'=>e=.normal/\∃ vs,a'=QM a vs [6,7,8,9,10,11,5]/\vs 5=Iv p/\Below w6.heap.size w6 w') a w6:=by
 conv=>arg 2;whnf
 refine QaY (Qob b o X f cm rc ac p pm rg ag x) (fun w=>Below w6.heap.size w6 w) (fun w w'=>Below w.heap.size w w') (outs:=[2,3]) (gs:=[]) (bs:=[true,true,true,true,true,true,true]) (by kernel_rfl) (n:=17) A i (by kernel_rfl) ?hR ?hG (QI Zr 1) ⟨C,G,Y⟩ ?hA ?hend
 case hR=>exact fun t v w w' _ h=>h
 case hG=>exact Y
 case hend=>exact fun vs w' d g=>⟨Z,vs,Z,g 5 (by kernel_rfl),d⟩
 case hA =>
  repeat
   refine⟨fun a w d g K q=>?_,?_⟩
   focus first
    | obtain⟨l,-⟩:=g
      conv at l=>whnf;rhs;whnf
      have W:=Qk B d;have S:=Qk F d;have M:=Qk E d;have P:=Qk y d;have N:=Qk I d;have T:=Qk u d;have c6:=Qk L d;have U:=Qk J d;have Q:=Qk D d;have O:=Qk H d;go_simp;exact q _ _ Zr d Z
    | obtain⟨l,z,-⟩:=g
      conv at l=>whnf;rhs;whnf
      conv at z=>whnf;rhs;whnf
      go_simp;refine Xm (Qgv f x ⟨rg,rc,ag,ac⟩ pm cm _ j) ?_;rw[s.out];rintro R V ⟨rfl,r⟩;go_simp;exact q _ _ r (d.trans (r.mono d.size)) Z
  trivial
theorem Qi5 {y:Nat}{A:Nat->Prop}{s:JSt}{x:Qs}(p:Blk w y #[Pv b 0] 234) (g:Blk w X #[Iv x.op,Iv x.a,Iv x.b,Iv x.c,Iv x.k,Iv x.n,.slice rg x.regs.length rc,.slice ag x.args.length ac] 78) (u:∀ k,A k->k<w.heap.size) (t:JOk s) (h:SAt w b O A s) (d:intsL.In w Q x.regs [.slice rg x.regs.length rc]) (f:intsL.In w Q x.args [.slice ag x.args.length ac]) (j:x.regs.length<=rc) (i:ZB x) (l:x.form s.m.length=0) :
 Calls prog 211 #[Pv y 0,Pv X 0] w fun e w'=>QO w b O A s (s.next x) (s.goC x) e w':=by
 have C:=Qa (Qlo u t h d f j i l);have F:=Qb p 0 _ Z;have H:=Qb g 0 _ Z;have D:=Qb g 1 _ Z;have J:=Qb g 2 _ Z;have B:=Qb g 3 _ Z;have M:=Qb g 4 _ Z;have L:=Qb g 5 _ Z;have G:=Qb g 6 _ Z;have I:=Qb g 7 _ Z;clear p g u t h d f j i l;go_enter func211,ntmps211
 go_wp2_with fail
 refine C.out.mono ?_;rintro E K o;have z:=Qa o;rcases o with ⟨q,rfl,r⟩|⟨q,rfl,r⟩
 rotate_left
 ·exact⟨Z,z.out⟩
 clear q r C;go_wp2
 exact Xz (v:=.tuple #[]) (by simp[results,results211,go_sem]) Z z.out
theorem QjK {A:Nat->Prop}{s:JSt}{x:Qs}(hA:∀ k,A k->k<w.heap.size) (hJ:JOk s) (h:SAt w b O A s) (i:intsL.In w Q x.regs [.slice rg x.regs.length rc]) (j:intsL.In w Q x.args [.slice ag x.args.length ac]) (T:x.regs.length<=rc) (u:ZB x) :
 Calls prog 164 #[Pv b 0,Qed x rg ag rc ac] w fun e w'=>e=.returned (Iv (s.code x))/\STo w w' b O A (s.ins x):=by
 have ah:∀ (fn:Fn) (first cap:Array Value) (w:World),(Instr.makeFunc fn first cap).run prog w=.ok (.func fn first cap) w:=fun _ _ _ _=>rfl;have HJ:=Qa hJ;have H0:=Qa h;have y:=Qa hA;have ae:=Qa u;have ab:=Qa T;have b1:=Zd w (.cells #[Pv b 0] 234);have b2:=Zd (w.alloc (.cells #[Pv b 0] 234)) (.cells #[Iv x.op,Iv x.a,Iv x.b,Iv x.c,Iv x.k,Iv x.n,.slice rg x.regs.length rc,.slice ag x.args.length ac] 78);have bb:=b1.trans (b2.mono b1.size);have HB:=Qa bb;have H:=Qa (h.below bb);have HR:Hid (intsL.In _ Q x.regs [.slice rg x.regs.length rc]):=Ya i bb;have HG:Hid (intsL.In _ Q x.args [.slice ag x.args.length ac]):=Ya j bb;have hS:Blk ((w.alloc (.cells #[Pv b 0] 234)).alloc (.cells #[Iv x.op,Iv x.a,Iv x.b,Iv x.c,Iv x.k,Iv x.n,.slice rg x.regs.length rc,.slice ag x.args.length ac] 78)) w.heap.size #[Pv b 0] 234:=(Blk.new _ _ _:Blk (w.alloc (.cells #[Pv b 0] 234)) w.heap.size _ _).below b2
 have J:Blk ((w.alloc (.cells #[Pv b 0] 234)).alloc (.cells #[Iv x.op,Iv x.a,Iv x.b,Iv x.c,Iv x.k,Iv x.n,.slice rg x.regs.length rc,.slice ag x.args.length ac] 78)) (w.heap.size+1) #[Iv x.op,Iv x.a,Iv x.b,Iv x.c,Iv x.k,Iv x.n,.slice rg x.regs.length rc,.slice ag x.args.length ac] 78:=by
  have:=Blk.new (w.alloc (.cells #[Pv b 0] 234)) #[Iv x.op,Iv x.a,Iv x.b,Iv x.c,Iv x.k,Iv x.n,.slice rg x.regs.length rc,.slice ag x.args.length ac] 78
  simpa using this
 have I:=Qa hS;have g:=Qa J;clear hS J b1 b2 bb h hA hJ i j T u;go_enter func164,ntmps164
 go_upto_region 1 with fail
 generalize (w.alloc (.cells #[Pv b 0] 234)).alloc (.cells #[Iv x.op,Iv x.a,Iv x.b,Iv x.c,Iv x.k,Iv x.n,.slice rg x.regs.length rc,.slice ag x.args.length ac] 78)=w1 at HB H HR HG I g |-;obtain⟨S0,P⟩:∃ S0,w.heap.size=S0:=⟨_,Z⟩
 obtain⟨X,J⟩:∃ X,S0+1=X:=⟨_,Z⟩
 rw[P] at I g |-
 rw[J] at g |-
 clear J P;have s0:=Qb I.out 0 _ Z;have x0:=Qb g.out 0 _ Z;have x1:=Qb g.out 1 _ Z;have x2:=Qb g.out 2 _ Z;have x3:=Qb g.out 3 _ Z;have x4:=Qb g.out 4 _ Z;have x5:=Qb g.out 5 _ Z;have x6:=Qb g.out 6 _ Z;have x7:=Qb g.out 7 _ Z;obtain⟨pm,cm,hh,a1,c1,a2,c2,a3,c3,aL,cL,RR⟩:=H.out.read
 obtain⟨q0,-⟩:=RR.cells
 obtain⟨E,S⟩:∃ E,x.form s.m.length=E:=⟨_,Z⟩
 have t:Hid (x.form s.m.length=E):=S;clear S RR;refine Code.wp_mono ?_ (ji1 s0 q0 x0 x1 x2 x3 x4 x5 x6 x7 (by have:=HJ.out.mod.1.2;omega) t _ _ Z (Xg (by kernel_rfl)) Z Z);rintro ee aa d ⟨rfl,vs,rfl,M,G⟩;simp only[QM,Act.put,List.setIfInBounds_toArray,List.set_cons_zero,List.set_cons_succ,M]
 have l:=Qa (HB.out.trans (G.mono HB.out.size));have U:=Qa (I.out.below G);have L:=Qa (g.out.below G);have W:Hid (intsL.In d Q x.regs [.slice rg x.regs.length rc]):=Ya HR.out G;have K:Hid (intsL.In d Q x.args [.slice ag x.args.length ac]):=Ya HG.out G;clear G M s0 x0 x1 x2 x3 x4 x5 x6 x7 q0 I g HR HG HB H;by_cases q:E=0
 rotate_left
 ·have af:(E != 0)=true:=by simpa using q
  have E1:Hid (s.code x=E):=by show _=_;unfold JSt.code;rw[t.out,Xs q]
  have E2:Hid (s.ins x=s):=by show _=_;unfold JSt.ins;rw[Xr (by rw[E1.out];exact q)]
  go_wp2_with fail
  go_ret;exact⟨by rw[E1.out];rfl,by rw[E2.out];exact Yh H0.out l.out⟩
 subst q;have EC:=Qa (Ql6 t.out);have C:=Zd d (.cells #[Iv 0] 3);have r:=l.out.trans (C.mono l.out.size);have ad:=Qa r
 have CK:Hid (Calls prog 210 #[.func (.func 211) #[] #[Pv S0 0,Pv X 0]] d fun en w'=>QfX d.heap.size (fun f=>s.goC x=0/\STo (d.alloc (.cells #[Iv 0] 3)) f b O (fun k=>A k\/(w.heap.size<=k/\k<(d.alloc (.cells #[Iv 0] 3)).heap.size)) (s.next x)) (fun c f=>s.goC x=c/\c≠0/\STo (d.alloc (.cells #[Iv 0] 3)) f b O (fun k=>A k\/(w.heap.size<=k/\k<(d.alloc (.cells #[Iv 0] 3)).heap.size)) s) en w'):=by
  refine Qdh _ _ enters_ins1 _ _ ?_;refine(Qi5 (A:=fun k=>A k\/(w.heap.size<=k/\k<(d.alloc (.cells #[Iv 0] 3)).heap.size)) (U.out.below C) (L.out.below C) (fun k p=>?_) HJ.out (H0.out.wall r) (Ya W.out C) (Ya K.out C) ab.out ae.out t.out).mono ?_
  ·rcases p with p | p
   ·exact Zl (y.out k p) r.size
   ·exact p.2
  ·intro en f hd
   have z:STo (d.alloc (.cells #[Iv 0] 3)) f b O (fun k=>A k\/(w.heap.size<=k/\k<(d.alloc (.cells #[Iv 0] 3)).heap.size)) s\/STo (d.alloc (.cells #[Iv 0] 3)) f b O (fun k=>A k\/(w.heap.size<=k/\k<(d.alloc (.cells #[Iv 0] 3)).heap.size)) (s.next x):=by
    rcases hd with ⟨-,-,h⟩|⟨-,-,h⟩
    ·exact .inr h
    ·exact .inl h
   have o:Blk f d.heap.size #[Iv 0] 3:=by
    have hn:Blk (d.alloc (.cells #[Iv 0] 3)) d.heap.size #[Iv 0] 3:=Blk.new _ _ _;have R:¬ O d.heap.size:=fun e=>by have F:=y.out _ (H0.out.sub _ e);have D:=l.out.size;omega
    rcases z with ⟨N,-,-,st⟩|⟨N,-,-,st⟩
    ·exact(st.block _ hn.lt R).trans hn
    ·exact(st.block _ hn.lt R).trans hn
   rcases hd with ⟨F,D,h3⟩|⟨F,D,h3⟩
   ·exact⟨o,.inl ⟨D,F,h3⟩⟩
   ·exact⟨o,.inr ⟨_,D,Z,F,h3⟩⟩
 have B:Hid (∀ f v s',STo (d.alloc (.cells #[Iv 0] 3)) f b O (fun k=>A k\/(w.heap.size<=k/\k<(d.alloc (.cells #[Iv 0] 3)).heap.size)) s'->Chg d.heap.size f v->STo w v b O A s'):=fun f v s' F D=>STo.seal (fun k p=>y.out k (H0.out.sub k p)) ad.out ⟨l.out.size,by simp⟩ F D;clear C r U L W K;go_wp2_with fail
 refine CK.out.mono ?_;intro e' v p
 have FF:Hid (e'=.returned (Iv (s.code x))/\STo w v b O A (s.ins x)):=by
  rcases p with ⟨f,⟨g1,g2⟩,rfl,g3⟩|⟨f,c,⟨g1,g2,g3⟩,rfl,g4⟩
  ·have V:s.code x=0:=by rw[EC.out,g1]
   refine⟨by rw[V],?_⟩
   unfold JSt.ins;rw[Xs V]
   exact B.out f v _ g2 g3
  ·have V:s.code x=c:=by rw[EC.out,g1]
   refine⟨by rw[V],?_⟩
   unfold JSt.ins;rw[Xr (by rw[V];exact g2)]
   exact B.out f v _ g3 g4
 obtain⟨rfl,-⟩:=id FF.out
 clear p CK B;go_wp2
 go_ret;exact⟨Z,FF.out.2⟩
def Qn4 (b S0 X fl c1 fm c2 bl c3:Nat) (fr cf:Int) (a1 a2 a3:Option Addr) (x:ZA) (e:EP) (t:Tmp) (v:Value) (w:World):Prop :=
 v=(([(2,Pv S0 0),(3,Pv X 0),(6,Pv b 0),(7,Pv b 0),(8,Pv b 2),(9,.agg #[Iv fr,.slice a1 fl c1,.slice a2 fm c2,.slice a3 bl c3]),(10,.agg (QbW x e)),(11,Iv cf),(5,Iv cf)]:List (Tmp × Value)).lookup t).getD undef
theorem jE1 {q C p A i g l:Nat}{r:Int}{u B y:Option Addr}{x:ZA}{e:EP}(J:w6.cell? ⟨q,0,none⟩=some (Pv b 0)) (I:w6.cell? ⟨b,2,none⟩=some (Iv fr)) (E:w6.cell? ⟨b,3,none⟩=some (.slice u C p)) (P:w6.cell? ⟨b,4,none⟩=some (.slice B A i)) (F:w6.cell? ⟨b,5,none⟩=some (.slice y g l)) (M:Hid (w6.rangeAt X 0 (QbW x e).toList)) (O:Hid (x.yes.regs.length<2305843009213693952/\x.yes.args.length<2305843009213693952/\x.no.regs.length<2305843009213693952/\x.no.args.length<2305843009213693952)) (s:g<2305843009213693952) (D:Hid (x.form g=r))
 (a:Act) (m:Nat) (H:a.tmps.size=m) (j:17<=m) (L:a.tmps.getD 2 undef=Pv q 0) (N:a.tmps.getD 3 undef=Pv X 0) :
 Code.wp prog ((Tryz.f165.body.bind (Qi 1)).getD .skip) (fun e a' w'=>e=.normal/\∃ vs,a'=QM a vs [6,7,8,9,10,11,5]/\vs 5=Iv r/\Below w6.heap.size w6 w') a w6:=by
 conv=>arg 2;whnf
 refine QaY (Qn4 b q X C p A i g l fr r u B y x e) (fun w=>Below w6.heap.size w6 w) (fun w w'=>Below w.heap.size w w') (outs:=[2,3]) (gs:=[]) (bs:=[true,true,true,true,true,true,true]) (by kernel_rfl) (n:=17) H j (by kernel_rfl) ?hR ?hG (QI Zr 1) ⟨L,N,Y⟩ ?hA ?hend
 case hR=>exact fun t v w w' _ h=>h
 case hG=>exact Y
 case hend=>exact fun vs w' c f=>⟨Z,vs,Z,f 5 (by kernel_rfl),c⟩
 case hA =>
  repeat
   refine⟨fun a w c f K k=>?_,?_⟩
   focus first
    | obtain⟨d,-⟩:=f
      conv at d=>whnf;rhs;whnf
      have U:=Qk J c;have p:=Qk I c;have i:=Qk E c;have l:=Qk P c;have Q:=Qk F c;go_simp;exact k _ _ Zr c Z
    | obtain⟨d,-⟩:=f
      conv at d=>whnf;rhs;whnf
      obtain⟨S,o⟩:=underEnd
      refine wp_load_mid 84 (.tmp 3) Z X 0 d (QbW x e).toList _ (Z3 M.out c) o Z sizeEnd ?_;exact k _ _ Zr c Z
    | obtain⟨d,G,-⟩:=f
      conv at d=>whnf;rhs;whnf
      conv at G=>whnf;rhs;whnf
      go_simp;refine Xm (QgK (x:=x) (e:=e) O.out s) ?_;rw[D.out];rintro R T ⟨rfl,z⟩;go_simp;exact k _ _ z (c.trans (z.mono c.size)) Z
  trivial
theorem QeU {c:Array Value}(h:Blk w X c t):w.rangeAt X 0 c.toList:=fun j v a=>by
 rw[XK]
 rw[Array.getElem?_toList] at a
 exact Qb h j v a
theorem QhI {u:Nat}{A:Nat->Prop}{s:JSt}{x:ZA}{e:EP}(n:Blk w u #[Pv b 0] 234) (z:Blk w X (QbW x e) 84) (q:JOk s) (t:∀ k,O k->k<w.heap.size) (h:SAt w b O A s) (o:Qdq w Q x e) (g:-9223372036854775808<=x.a/\x.a<=9223372036854775807) (l:x.form s.f.blocks.length=0) :
 Calls prog 213 #[Pv u 0,Pv X 0] w fun r w'=>ZG (s.fin x) VNone r/\Below w.heap.size w w':=by
 have C:=Qa (QkC q t h o g l);have J:=Qb n 0 _ Z;have p:=Qa (QeU z);clear n z q h o g l t;obtain⟨L,d⟩:=underEnd
 have i:=Qa d;clear d;generalize c:QbW x e=B at C p;have j:Hid ((prog.info? 84).map (·.size)=some B.toList.length):=by show _=_;rw[<-c];exact sizeEnd
 clear c;go_enter func213,ntmps213
 go_wp2_with (refine wpList_load_mid Z 84 (.tmp 1) Z X 0 Z B.toList _ p.out i.out Z j.out ?_)
 refine C.out.mono ?_;rintro I K m;have D:=Qa m;obtain⟨G,H⟩:=m
 rcases G with ⟨E,y,rfl,F⟩|⟨E,rfl⟩
 rotate_left
 ·exact⟨Z,D.out⟩
 subst F;clear E H C;go_wp2
 exact Xz (v:=.tuple #[]) (by simp[results,results213,go_sem]) Z D.out
theorem Qj9 {A:Nat->Prop}{s:JSt}{x:ZA}{e:EP}(hA:∀ k,A k->k<w.heap.size) (hJ:JOk s) (h:SAt w b O A s) (hx:Qdq w Q x e) (I:-9223372036854775808<=x.a/\x.a<=9223372036854775807) (hs:x.yes.regs.length<2305843009213693952/\x.yes.args.length<2305843009213693952/\x.no.regs.length<2305843009213693952/\x.no.args.length<2305843009213693952) :
 Calls prog 165 #[Pv b 0,.agg (QbW x e)] w fun r w'=>r=.returned (Iv (s.fin x))/\Below w.heap.size w w':=by
 have ae:∀ (fn:Fn) (first cap:Array Value) (w:World),(Instr.makeFunc fn first cap).run prog w=.ok (.func fn first cap) w:=fun _ _ _ _=>rfl;have HJ:=Qa hJ;have H0:=Qa h;have ab:=Qa hA;have ac:=Qa I;have U:=Qa hs;have b1:=Zd w (.cells #[Pv b 0] 234);have b2:=Zd (w.alloc (.cells #[Pv b 0] 234)) (.cells #[Iv x.op,Iv x.a,Iv x.yes.block,.slice e.pYR x.yes.regs.length e.cYR,.slice e.pYA x.yes.args.length e.cYA,Iv x.no.block,.slice e.pNR x.no.regs.length e.cNR,.slice e.pNA x.no.args.length e.cNA,.slice e.pA x.args.length e.cA] 84);have T:=b1.trans (b2.mono b1.size);have P:=Qa T;have H:=Qa (h.below T);have m:=Qa (hx.below T);have hS:Blk ((w.alloc (.cells #[Pv b 0] 234)).alloc (.cells #[Iv x.op,Iv x.a,Iv x.yes.block,.slice e.pYR x.yes.regs.length e.cYR,.slice e.pYA x.yes.args.length e.cYA,Iv x.no.block,.slice e.pNR x.no.regs.length e.cNR,.slice e.pNA x.no.args.length e.cNA,.slice e.pA x.args.length e.cA] 84)) w.heap.size #[Pv b 0] 234:=(Blk.new _ _ _:Blk (w.alloc (.cells #[Pv b 0] 234)) w.heap.size _ _).below b2
 have D:Blk ((w.alloc (.cells #[Pv b 0] 234)).alloc (.cells #[Iv x.op,Iv x.a,Iv x.yes.block,.slice e.pYR x.yes.regs.length e.cYR,.slice e.pYA x.yes.args.length e.cYA,Iv x.no.block,.slice e.pNR x.no.regs.length e.cNR,.slice e.pNA x.no.args.length e.cNA,.slice e.pA x.args.length e.cA] 84)) (w.heap.size+1) (QbW x e) 84:=by
  have:=Blk.new (w.alloc (.cells #[Pv b 0] 234)) (QbW x e) 84
  simpa using this
 have C:=Qa hS;have v:=Qa D;clear hS D b1 b2 T h hA hJ hx I hs;go_enter func165,ntmps165
 go_upto_region 1 with fail
 generalize (w.alloc (.cells #[Pv b 0] 234)).alloc (.cells #[Iv x.op,Iv x.a,Iv x.yes.block,.slice e.pYR x.yes.regs.length e.cYR,.slice e.pYA x.yes.args.length e.cYA,Iv x.no.block,.slice e.pNR x.no.regs.length e.cNR,.slice e.pNA x.no.args.length e.cNA,.slice e.pA x.args.length e.cA] 84)=w1 at P H m C v |-;obtain⟨R,q⟩:∃ R,R=w.heap.size:=⟨_,Z⟩
 obtain⟨X,D⟩:∃ X,X=R+1:=⟨_,Z⟩
 rw[<-q] at C v |-
 rw[<-D] at v |-
 have K:=Qa q;clear D q;have s0:=Qb C.out 0 _ Z;have G:=Qa (QeU v.out);obtain⟨pm,cm,hh,a1,c1,a2,c2,a3,c3,aL,cL,RR⟩:=H.out.read
 obtain⟨-,-,q2,q3,q4,q5,-⟩:=RR.cells
 obtain⟨z,L⟩:∃ z,x.form s.f.blocks.length=z:=⟨_,Z⟩
 have u:Hid (x.form s.f.blocks.length=z):=L;have V:=Qa (HJ.out.mod.2 s.f HJ.out.fn);clear L RR;refine Code.wp_mono ?_ (jE1 s0 q2 q3 q4 q5 G U (by have:=V.out.many.2;omega) u _ _ Z (Xg (by kernel_rfl)) Z Z);rintro ee aa i ⟨rfl,vs,rfl,F,N⟩;simp only[QM,Act.put,List.setIfInBounds_toArray,List.set_cons_zero,List.set_cons_succ,F]
 have j:=Qa (P.out.trans (N.mono P.out.size));have M:=Qa (C.out.below N);have E:=Qa (v.out.below N);have J:=Qa (m.out.below N);clear N F s0 q2 q3 q4 q5 C v P H G m;by_cases n:z=0
 rotate_left
 ·have ad:(z != 0)=true:=by simpa using n
  have E1:Hid (s.fin x=z):=by show _=_;unfold JSt.fin;rw[u.out,Xs n]
  go_wp2_with fail
  go_ret;exact⟨by rw[E1.out];rfl,by first | exact j.out | (rw[K.out];exact j.out)⟩
 subst n;have B:=Zd i (.cells #[Iv 0] 3);have g:=j.out.trans (B.mono j.out.size)
 have CK:Hid (Calls prog 210 #[.func (.func 213) #[] #[Pv R 0,Pv X 0]] i fun en w'=>QfX i.heap.size (fun d=>s.fin x=0/\Below (i.alloc (.cells #[Iv 0] 3)).heap.size (i.alloc (.cells #[Iv 0] 3)) d) (fun c d=>s.fin x=c/\Below (i.alloc (.cells #[Iv 0] 3)).heap.size (i.alloc (.cells #[Iv 0] 3)) d) en w'):=by
  refine Qdh _ _ enters_end1 _ _ ?_;refine(QhI (M.out.below B) (E.out.below B) HJ.out (fun k S=>Zl (ab.out k (H0.out.sub k S)) g.size) (H0.out.below g) (J.out.below B) ac.out u.out).mono ?_
  rintro en d ⟨hd,p⟩;have l:Blk d i.heap.size #[Iv 0] 3:=(Blk.new i #[Iv 0] 3).below p;rcases hd with ⟨hc,y,rfl,hy⟩|⟨hc,rfl⟩
  ·subst hy;exact⟨l,.inl ⟨Z,hc,p⟩⟩
  ·exact⟨l,.inr ⟨_,Z,Z,p⟩⟩
 have t:Hid (∀ d o,Below (i.alloc (.cells #[Iv 0] 3)).heap.size (i.alloc (.cells #[Iv 0] 3)) d->Chg i.heap.size d o->Below w.heap.size w o):=fun d o h1 h2 =>
  Chg.last (g.trans (h1.mono g.size)) h2 j.out.size (Zt g.size h1.size)
 clear B g M E J;go_wp2_with fail
 refine CK.out.mono ?_;intro e' o S
 have FF:Hid (e'=.returned (Iv (s.fin x))/\Below w.heap.size w o):=by
  rcases S with ⟨d,⟨W,g2⟩,rfl,g3⟩|⟨d,c,⟨W,g2⟩,rfl,g4⟩
  ·exact⟨by rw[W],t.out d o g2 g3⟩
  ·exact⟨by rw[W],t.out d o g2 g4⟩
 obtain⟨rfl,-⟩:=id FF.out
 clear S CK t;go_wp2
 go_ret;first | exact⟨Z,FF.out.2⟩ | exact⟨Z,by rw[K.out];exact FF.out.2⟩
def Qcx {n:Nat}(w:World) (Q:Nat->Prop) (l:List (TT n)) (e:Ending) (w':World):Prop :=
 ∃ v ds,e=.returned v/\w'.ownsRow 0 105 3 v l.length ds/\(∀ g,v.ownBlock=some g->w.heap.size<=g)/\(∀ i x,l[i]?=some x->(Lay.tt n).In w Q x ((ds.drop (i*3)).take 3))/\Below w.heap.size w w'
theorem Qhl {l:List (TT n)}(hN:l.length=N) (af:N<=5000) (hl:(Qp n).In w Q l [.slice p N c]) :
 Calls prog 209 #[.slice p N c] w fun e w'=>Qcx w Q l e w':=by
 obtain⟨i0,hi,K,V,U⟩:=pInfoT
 have q:∀ (w:World) (a:Option Addr) (n c n' S:Nat),(binOp .eql 80 (.slice a n c) (.slice none n' S)).run prog w=.ok (.bool a.isNone) w:=fun w a n c n' S=>Lib.run_eql_slice_nil w _ _ a n c n' S pUnderT;have B:=Qa hl;have v:=Qa hN;clear hl hN
 cases p with
 | none =>
   have z:l=[]:=by
    rcases l with _ | ⟨x,r⟩
    ·rfl
    ·obtain⟨g,o,C,e,-⟩:=Yf B.out (i:=0) (x:=x) Z
     cases e
   subst z;have R:N=0:=by have:=v.out;simpa using this.symm
   subst R;have D:Hid (Qcx w Q ([]:List (TT n)) (.returned (Nv)) w):=⟨Nv,[],Z,⟨Z,.inl ⟨Z,Z⟩⟩,fun g hg=>by simp[Value.ownBlock] at hg,fun i x O=>by simp at O,Zr⟩;clear B v;go_enter func209,ntmps209
   go_wp2
   go_ret;exact D.out
 | some ad =>
   have b1:=Zd w (.cells #[] 105);have d:(w.alloc (.cells #[] 105)).ownsRow 0 105 3 (.slice (some ⟨w.heap.size,0,none⟩) 0 0) 0 []:=⟨Z,.inr ⟨w.heap.size,0,#[],Z,Xb _,Qe w _ _,Ze,by unfold maxLen;omega,Z,Z⟩⟩;have s:=Qa b1;have f:=Qa d;by_cases T:N=0
   ·subst T;have z:l=[]:=Xf.1 v.out;subst z;have ha:Hid (∀ (t:TypeId) (G:World),(Builtin.append_ #[80,80] t #[.slice (some ⟨w.heap.size,0,none⟩) 0 0,.slice (some ad) 0 c]).run prog G=.ok (.slice (some ⟨w.heap.size,0,none⟩) 0 0) G):=fun (t:TypeId) (G:World)=>run_append_nothing (P:=prog) G 80 80 t 105 i0 pUnderT hi (some ⟨w.heap.size,0,none⟩) 0 0 Ze (.slice (some ad) 0 c) (Src.ofSlice G pUnderT ad 0 c [] (by simp) (fun j u h=>by simp at h) (fun u h=>by cases h));have D:Hid (Qcx w Q ([]:List (TT n)) (.returned (.slice (some ⟨w.heap.size,0,none⟩) 0 0)) (w.alloc (.cells #[] 105))):=⟨_,[],Z,f.out,fun g hg=>by simp[Value.ownBlock] at hg;omega,fun i x O=>by simp at O,s.out⟩;clear B v s f d b1;generalize L:w.alloc (.cells #[] 105)=w1 at D;go_enter func209,ntmps209
    go_wp2_with (at_builtin;refine QaK Z (.tmp 5) (.tmp 6) 80 Z (.slice (some ⟨w.heap.size,0,none⟩) 0 0) (.slice (some ad) 0 c) Z Z (ha.out _ _) ?_)
    go_ret;first | exact D.out | (rw[L];exact D.out)
   ·obtain⟨J,H,e0⟩:∃ J H,(some ad)=some (⟨J,H,none⟩:Addr):=by
     obtain⟨g,o,dd,e,-⟩:=Yf B.out (Zg (show 0<l.length by have:=v.out;omega))
     exact⟨g,o,e⟩
    cases e0
    obtain⟨C,d1,d2,d3,d4⟩:=Lay.flat B.out (fun y cs hy=>by obtain⟨ya,yc,e,-⟩:=hy;subst e;exact QlB _ _ _ _ _)
    have E:C.length=N*3:=by rw[<-v.out];exact d1
    have M:=Qa E;have W:Hid (∀ (j:Nat) (u:Value),C[j]?=some u->(w.alloc (.cells #[] 105)).cell? ((⟨J,H,none⟩:Addr).add j)=some u):=fun j u hj=>Qk (d2 j u hj) s.out;have ae:=Qa d3
    have F:Hid (∀ A g b,A.ownsRow 0 105 3 (.slice (some ⟨g,0,none⟩) N b) N C->(w.alloc (.cells #[] 105)).grownBy A (some w.heap.size)->(w.heap.size=g\/g=w.heap.size+1)->Qcx w Q l (.returned (.slice (some ⟨g,0,none⟩) N b)) A):=by
     intro A g b I m r3;have ac:=m.size;refine⟨_,C,Z,by rw[v.out];exact I,fun g' aa=>?_,d4,⟨m.os.trans s.out.os,m.tape.trans s.out.tape,m.output.trans s.out.output,by simp at ac;omega,fun k hk=>?_⟩⟩
     ·simp[Value.ownBlock] at aa
      omega
     ·exact(m.block k (by simp;omega) (fun e=>by injection e with e;omega)).trans (s.out.block k hk)
    clear B s d1 E d2 d3 d4 d b1;have ab:0<N:=by omega
    have X:Hid (0<=(w.alloc (.cells #[] 105)).heap.size):=Xb _;go_enter func209,ntmps209
    go_wp2_with (at_builtin;refine wpList_append_lies _ Z (.tmp 5) (.tmp 6) 80 Z 0 105 i0 (.agg #[Iv 0,Iv 0,Nv]) 3 40 pUnderT hi K V U Z (by decide) _ _ _ Z f.out ⟨J,H,none⟩ N c C Z M.out W.out ae.out ab (by unfold maxLen;omega) (by omega) X.out (w.heap.size+1) (by simp) ?_)
    intro g2 b A I m r3 r4;have Z9:=Qa (F.out A g2 b (by simpa using I) (by simpa[Value.ownBlock] using m) (by simpa[Value.ownBlock] using r3));clear I m r3 r4 F f;go_wp2
    go_ret;first | exact Z9.out | simpa using Z9.out
def Qge (m:List (MFunc 6)) (f b:Int):Bool:=decide (0<=f)&&(match m[f.toNat]? with | none=>false | some g=>decide (0<=b)&&decide (b<(g.blocks.length:Int)))
theorem Qih {m:List (MFunc 6)}{f b:Int}(h:Qge m f b=true):∃ (i j:Nat) (fn:MFunc 6) (g:MBlock 6),f=(i:Int)/\b=(j:Int)/\m[i]?=some fn/\fn.blocks[j]?=some g:=by
 unfold Qge at h;simp only[Bool.and_eq_true,decide_eq_true_eq] at h
 obtain⟨c,a⟩:=h
 obtain⟨i,rfl⟩:=Xc c
 rw[XT] at a
 cases e:m[i]? with
 | none=>rw[e] at a;cases a
 | some fn =>
   rw[e] at a
   simp only[Bool.and_eq_true,decide_eq_true_eq] at a
   obtain⟨j,rfl⟩:=Xc a.1
   exact⟨i,j,fn,_,Z,Z,e,Zg (by omega)⟩
theorem Qk1 {m:List (MFunc 6)}(f b:Int) (l:m.length<=100000) (o:(QaN 6).In w All m [.slice p m.length c]) :
 Calls prog 207 #[.agg #[.slice p m.length c],Iv f,Iv b] w fun e w'=>e=.returned (.bool (Qge m f b))/\Below w.heap.size w w':=by
 have r:=Zd w (.cells #[.slice p m.length c] 24);have d:=Qa r;have u:=Qb (Qe w #[.slice p m.length c] 24) 0 _ Z;by_cases s:0<=f
 rotate_left
 ·have E:Hid (Qge m f b=false):=by show _=_;unfold Qge;rw[Xu s];rfl
  have A:decide (f>=0)=false:=Xu s;clear o r;generalize m.length=z at u d;go_enter func207,ntmps207
  go_wp2
  go_ret;exact⟨by rw[E.out];rfl,d.out⟩
 obtain⟨i,rfl⟩:=Xc s
 by_cases t:i<m.length
 rotate_left
 ·have E:Hid (Qge m (i:Int) b=false):=by show _=_;unfold Qge;rw[XT,Xk (by omega)];simp
  have h:¬ (i:Int)<m.length:=by omega
  clear o r;generalize m.length=z at u d t h l;go_enter func207,ntmps207
  go_wp2
  go_ret;exact⟨by rw[E.out];rfl,d.out⟩
 have q:m[i]?=some m[i]:=Zg t;generalize m[i]=g at q;obtain⟨y,B,H,L,K,G,I,J,rfl,x,F,C,D,-,-⟩:=QdC o q
 have v:y<w.heap.size:=Xi w ⟨y,B+i*4,none⟩ x;have E:Hid (Qge m (i:Int) b=(decide (0<=b)&&decide (b<(g.blocks.length:Int)))):=by show _=_;unfold Qge;rw[XT,q];simp
 have h:(i:Int)<m.length:=by omega
 clear o r x F C q;generalize m.length=z at u d t h l;generalize g.blocks.length=n at D E;by_cases a:0<=b
 rotate_left
 ·have j:decide (b>=0)=false:=Xu a;rw[show (decide (0<=b)&&decide (b<(n:Int)))=false by rw[Xu a];rfl] at E
  go_enter func207,ntmps207
  go_wp2
  go_ret;exact⟨by rw[E.out];rfl,d.out⟩
 ·have j:decide (b>=0)=true:=Xt a;rw[show (decide (0<=b)&&decide (b<(n:Int)))=decide (b<(n:Int)) by rw[Xt a];rfl] at E
  by_cases k:b<(n:Int)
  ·rw[Xt k] at E
   go_enter func207,ntmps207
   go_wp2
   go_ret;exact⟨by rw[E.out];rfl,d.out⟩
  ·rw[Xu k] at E
   go_enter func207,ntmps207
   go_wp2
   go_ret;exact⟨by rw[E.out];rfl,d.out⟩
theorem Qno (c:cs.length=12) :
 Blk ((w1.alloc (.cells #[Iv 0,Nv,Nv,Iv 0,Iv 0,Iv 0,Nv,Nv,Iv 0,Nv,Nv,Nv] 86)).setCells w1.heap.size 0 cs.toArray.toList) w1.heap.size cs.toArray 86/\Below w1.heap.size w1 ((w1.alloc (.cells #[Iv 0,Nv,Nv,Iv 0,Iv 0,Iv 0,Nv,Nv,Iv 0,Nv,Nv,Nv] 86)).setCells w1.heap.size 0 cs.toArray.toList)/\(w1.alloc (.cells #[Iv 0,Nv,Nv,Iv 0,Iv 0,Iv 0,Nv,Nv,Iv 0,Nv,Nv,Nv] 86)).there w1.heap.size 0 cs.toArray.size:=by
 have a:=Qe w1 #[Iv 0,Nv,Nv,Iv 0,Iv 0,Iv 0,Nv,Nv,Iv 0,Nv,Nv,Nv] 86;refine⟨?_,?_,?_⟩
 ·have d:Blk (w1.alloc (.cells #[Iv 0,Nv,Nv,Iv 0,Iv 0,Iv 0,Nv,Nv,Iv 0,Nv,Nv,Nv] 86)) w1.heap.size ([]++(#[Iv 0,Nv,Nv,Iv 0,Iv 0,Iv 0,Nv,Nv,Iv 0,Nv,Nv,Nv]:Array Value).toList).toArray 86:=a;exact Blk.sets cs [] (#[Iv 0,Nv,Nv,Iv 0,Iv 0,Iv 0,Nv,Nv,Iv 0,Nv,Nv,Nv]:Array Value).toList _ (by rw[c];rfl) d
 ·have:=Qz.setCells (O:=fun k=>k=w1.heap.size) (O':=fun k=>k=w1.heap.size) (b:=w1.heap.size) Z cs.toArray.toList 0 _ (Qz.refl _ (w1.alloc (.cells #[Iv 0,Nv,Nv,Iv 0,Iv 0,Iv 0,Nv,Nv,Iv 0,Nv,Nv,Nv] 86)))
  exact(Zd w1 _).trans (this.below (by simp) (fun k e=>by omega))
 ·intro j hj;rw[List.size_toArray,c] at hj
  rw[XK]
  refine⟨?_,Qj a j⟩
  rw[Qb a j ((#[Iv 0,Nv,Nv,Iv 0,Iv 0,Iv 0,Nv,Nv,Iv 0,Nv,Nv,Nv]:Array Value)[j]'hj) (by simp)];rfl
theorem Qad {xs:List Value}(h:w.ownsRow 0 e s v n xs) (j:Below w.heap.size w w'):w'.ownsRow 0 e s v n xs:=by
 obtain⟨d,i⟩:=h
 refine⟨d,?_⟩
 rcases i with k | ⟨g,b,a,l,f,c,r⟩
 ·exact .inl k
 ·exact .inr ⟨g,b,a,l,f,(j.block g (XC c)).trans c,r⟩
theorem QiD {xs:List Value}(h:w.ownsRow 0 e s v n xs):∃ a c,v=.slice a n c:=by
 obtain⟨l,b⟩:=h
 rcases b with ⟨i,d⟩|⟨g,j,f,k,m,o,r⟩
 ·exact⟨none,0,by rw[i,d]⟩
 ·exact⟨_,_,k⟩
def QnP (w7:World) (M9 F10 B11 nm cm n1 d1 n2 d2 n3 d3 np cp:Nat) (fr br:Int) (pm p1 p2 p3 pp:Option Addr) (ps:List (TT 6)) (QP:Nat->Prop) (t:Tmp) (v:Value) (w:World):Prop :=
 match ([(39,fun v w=>∃ hh,v=.pointer (some ⟨hh,0,none⟩)/\w7.heap.size<=hh/\Qo w hh (QbV br)),(43,fun v w=>∃ a c ds,v=.slice a np c/\w.ownsRow 0 105 3 (.slice a np c) np ds/\(∀ g,(Value.slice a np c).ownBlock=some g->w7.heap.size<=g)/\(∀ i x,ps[i]?=some x->(Lay.tt 6).In w7 QP x ((ds.drop (i*3)).take 3))),(44,fun v w=>∃ hh a c ds,v=.agg #[.slice pm nm cm,.pointer (some ⟨hh,0,none⟩),.int .i64 fr,.slice p1 n1 d1,.slice p2 n2 d2,.slice p3 n3 d3,.slice a np c]/\w7.heap.size<=hh/\Qo w hh (QbV br)/\w.ownsRow 0 105 3 (.slice a np c) np ds/\(∀ g,(Value.slice a np c).ownBlock=some g->w7.heap.size<=g)/\(∀ i x,ps[i]?=some x->(Lay.tt 6).In w7 QP x ((ds.drop (i*3)).take 3))),(45,fun v w=>∃ B hh a c ds,v=.pointer (some ⟨B,0,none⟩)/\w7.heap.size<=B/\w.heap[B]?=some (.cells #[.slice pm nm cm,.pointer (some ⟨hh,0,none⟩),.int .i64 fr,.slice p1 n1 d1,.slice p2 n2 d2,.slice p3 n3 d3,.slice a np c] 279 (0,0))/\w7.heap.size<=hh/\Qo w hh (QbV br)/\w.ownsRow 0 105 3 (.slice a np c) np ds/\(∀ g,(Value.slice a np c).ownBlock=some g->w7.heap.size<=g)/\(∀ i x,ps[i]?=some x->(Lay.tt 6).In w7 QP x ((ds.drop (i*3)).take 3))),(6,fun v w=>∃ B hh a c ds,v=.pointer (some ⟨B,0,none⟩)/\w7.heap.size<=B/\w.heap[B]?=some (.cells #[.slice pm nm cm,.pointer (some ⟨hh,0,none⟩),.int .i64 fr,.slice p1 n1 d1,.slice p2 n2 d2,.slice p3 n3 d3,.slice a np c] 279 (0,0))/\w7.heap.size<=hh/\Qo w hh (QbV br)/\w.ownsRow 0 105 3 (.slice a np c) np ds/\(∀ g,(Value.slice a np c).ownBlock=some g->w7.heap.size<=g)/\(∀ i x,ps[i]?=some x->(Lay.tt 6).In w7 QP x ((ds.drop (i*3)).take 3)))]:List (Tmp × (Value->World->Prop))).lookup t with
 | some p=>p v w
 | none=>v=(([(9,.pointer (some ⟨M9,0,none⟩)),(10,.pointer (some ⟨F10,0,none⟩)),(11,.pointer (some ⟨B11,0,none⟩)),(36,.agg #[.slice pm nm cm]),(37,.pointer (some ⟨B11,0,none⟩)),(38,.int .i64 br),(40,.agg #[.int .i64 fr,.slice p1 n1 d1,.slice p2 n2 d2,.slice p3 n3 d3]),(41,.pointer (some ⟨B11,1,none⟩)),(42,.slice pp np cp),(46,.agg #[.int .i64 0,.int .i64 0])]:List (Tmp × Value)).lookup t).getD undef
theorem jn9 {d:World}{M9 r F O U d1 M J T N f cp:Nat}{E:Int}{p1 R I pp:Option Addr}{H:List (TT 6)}{G:Nat->Prop}(m0:d.cell? ⟨M9,0,none⟩=some (.slice pm O cm)) (f0:d.cell? ⟨r,0,none⟩=some (Iv fr)) (f1:d.cell? ⟨r,1,none⟩=some (.slice p1 U d1)) (f2:d.cell? ⟨r,2,none⟩=some (.slice R M J)) (f3:d.cell? ⟨r,3,none⟩=some (.slice I T N)) (y0:d.cell? ⟨F,0,none⟩=some (Iv E)) (y1:d.cell? ⟨F,1,none⟩=some (.slice pp f cp)) (ag:-9223372036854775808<=E/\E<=9223372036854775807) (V:Hid (H.length=f)) (aj:f<=5000) (HP:Hid ((Qp 6).In d G H [.slice pp f cp])) (af:Hid (∀ (i:Nat) (x:TT 6) (cs:List Value){w:World},H[i]?=some x->(Lay.tt 6).In w G x cs->Below d.heap.size d w->(Lay.tt 6).In d G x cs)){Q:Exit->Act->World->Prop}
 (a:Act) (m:Nat) (hn:a.tmps.size=m) (aa:47<=m) (h9:a.tmps.getD 9 undef=Pv M9 0) (ac:a.tmps.getD 10 undef=Pv r 0) (ab:a.tmps.getD 11 undef=Pv F 0)
 (hend:∀ ops vs w',vs 46=.agg #[Iv 0,Iv 0]->(fun v w=>∃ B hh a c ds,v=Pv B 0/\d.heap.size<=B/\w.heap[B]?=some (.cells #[.slice pm O cm,Pv hh 0,Iv fr,.slice p1 U d1,.slice R M J,.slice I T N,.slice a f c] 279 (0,0))/\d.heap.size<=hh/\Qo w hh (QbV E)/\w.ownsRow 0 105 3 (.slice a f c) f ds/\(∀ g,(Value.slice a f c).ownBlock=some g->d.heap.size<=g)/\(∀ i x,H[i]?=some x->(Lay.tt 6).In d G x ((ds.drop (i*3)).take 3))) (vs 6) w'->Below d.heap.size d w'->wpList prog ops Q (Qam 12 ((Tryz.f163.body.bind (Qi 9)).getD .skip)) (QM a vs [36,37,38,39,40,41,42,43,44,45,46,6]) w') :
 Code.wp prog ((Tryz.f163.body.bind (Qi 9)).getD .skip) Q a d:=by
 conv=>arg 2;whnf
 refine Qg 12 (QnP d M9 r F O cm U d1 M J T N f cp fr E pm p1 R I pp H G) (fun w=>Below d.heap.size d w) (fun w w'=>Below w.heap.size w w') (outs:=[9,10,11]) (gs:=[]) (bs:=[true,true,true,true,true,true,true,true,true,true,true,true]) (by kernel_rfl) (n:=47) hn aa (by kernel_rfl) (by kernel_rfl) ?hR ?hG (QI Zr 1) ⟨h9,ac,ab,Y⟩ ?hA ?hend
 case hR =>
  intro t v w w' C h;unfold QnP at h |-;split at h
  ·rename_i p u
   simp only[List.lookup_cons,List.lookup_nil] at u
   split at u
   ·cases u;exact(by obtain⟨hh,e,q,l⟩:=h;exact⟨hh,e,q,l.below C⟩)
   ·split at u
    ·cases u;exact(by obtain⟨a,c,ds,e,q,l,s⟩:=h;exact⟨a,c,ds,e,Qad q C,l,s⟩)
    ·split at u
     ·cases u;exact(by obtain⟨hh,a,c,ds,e,q,l,s,S,W⟩:=h;exact⟨hh,a,c,ds,e,q,l.below C,Qad s C,S,W⟩)
     ·split at u
      ·cases u;exact(by obtain⟨B,hh,a,c,ds,e,D,y,q,l,s,S,W⟩:=h;exact⟨B,hh,a,c,ds,e,D,(C.block B (XC y)).trans y,q,l.below C,Qad s C,S,W⟩)
      ·split at u
       ·cases u;exact(by obtain⟨B,hh,a,c,ds,e,D,y,q,l,s,S,W⟩:=h;exact⟨B,hh,a,c,ds,e,D,(C.block B (XC y)).trans y,q,l.below C,Qad s C,S,W⟩)
       ·cases u
  ·exact h
 case hG=>exact Y
 case hend=>exact fun ops vs w' b k=>hend ops vs w' (k 46 (by kernel_rfl)) (k 6 (by kernel_rfl)) b
 case hA =>
  iterate 3
   refine⟨fun a w b k K o=>?_,?_⟩
   ·obtain⟨j,-⟩:=k
    conv at j=>whnf;rhs;whnf
    have u0:=Qk m0 b;have u1:=Qk y0 b;go_simp;exact o _ _ Zr b Z
  refine⟨fun a w b k K o=>?_,?_⟩
  ·obtain⟨j,-⟩:=k
   conv at j=>whnf;rhs;whnf
   go_simp;refine Xm (Qkn _ E ag) ?_;rintro r7 w8 ⟨rfl,ah,A⟩;go_simp;exact o _ _ A (b.trans (A.mono b.size)) ⟨_,Z,b.size,ah⟩
  iterate 3
   refine⟨fun a w b k K o=>?_,?_⟩
   ·obtain⟨j,-⟩:=k
    conv at j=>whnf;rhs;whnf
    have u0:=Qk f0 b;have u1:=Qk f1 b;have u2:=Qk f2 b;have u3:=Qk f3 b;have u4:=Qk y1 b;go_simp;exact o _ _ Zr b Z
  refine⟨fun a w b k K o=>?_,?_⟩
  ·obtain⟨j,-⟩:=k
   conv at j=>whnf;rhs;whnf
   go_simp;refine Xm (Qhl V.out aj (Ya HP.out b)) ?_;rintro r7 w8 ⟨v8,ae,rfl,o1,o2,o3,A⟩;rw[V.out] at o1
   obtain⟨a8,c8,rfl⟩:=QiD o1
   go_simp;exact o _ _ A (b.trans (A.mono b.size)) ⟨a8,c8,ae,Z,o1,fun g hg=>Zt b.size (o2 g hg),fun i x hx=>af.out i x _ hx (o3 i x hx) b⟩
  refine⟨fun a w b k K o=>?_,?_⟩
  ·obtain⟨j,X,k2,k3,-⟩:=k
   conv at j=>whnf;rhs;whnf
   have X:(fun v w=>∃ hh,v=Pv hh 0/\d.heap.size<=hh/\Qo w hh (QbV E)) (a.tmps.getD 39 undef) w:=X;generalize ai:a.tmps.getD 39 undef=an at X;conv at k2=>whnf;rhs;whnf
   have k3:(fun v w=>∃ a c ds,v=.slice a f c/\w.ownsRow 0 105 3 (.slice a f c) f ds/\(∀ g,(Value.slice a f c).ownBlock=some g->d.heap.size<=g)/\(∀ i x,H[i]?=some x->(Lay.tt 6).In d G x ((ds.drop (i*3)).take 3))) (a.tmps.getD 43 undef) w:=k3;generalize ak:a.tmps.getD 43 undef=am at k3;obtain⟨hh,rfl,D,y⟩:=X
   obtain⟨L,P,z,rfl,q,l,s⟩:=k3
   have j0:a.tmps[36]?.getD undef=.agg #[.slice pm O cm]:=by simpa using j
   have j1:a.tmps[39]?.getD undef=Pv hh 0:=by simpa using ai
   have j2:a.tmps[40]?.getD undef=.agg #[Iv fr,.slice p1 U d1,.slice R M J,.slice I T N]:=by simpa using k2
   have j3:a.tmps[43]?.getD undef=.slice L f P:=by simpa using ak
   go_simp;exact o _ _ Zr b ⟨hh,L,P,z,Z,D,y,q,l,s⟩
  refine⟨fun a w b k K o=>?_,?_⟩
  ·obtain⟨j,-⟩:=k
   have j:(fun v w=>∃ hh a c ds,v=.agg #[.slice pm O cm,Pv hh 0,Iv fr,.slice p1 U d1,.slice R M J,.slice I T N,.slice a f c]/\d.heap.size<=hh/\Qo w hh (QbV E)/\w.ownsRow 0 105 3 (.slice a f c) f ds/\(∀ g,(Value.slice a f c).ownBlock=some g->d.heap.size<=g)/\(∀ i x,H[i]?=some x->(Lay.tt 6).In d G x ((ds.drop (i*3)).take 3))) (a.tmps.getD 44 undef) w:=j;generalize al:a.tmps.getD 44 undef=ad at j;obtain⟨hh,L,P,z,rfl,D,y,q,l,s⟩:=j
   go_simp;have A:=Zd w (.cells #[.slice pm O cm,Pv hh 0,Iv fr,.slice p1 U d1,.slice R M J,.slice I T N,.slice L f P] 279);exact o _ _ A (b.trans (A.mono b.size)) ⟨w.heap.size,hh,L,P,z,Z,b.size,Qe _ _ _,D,y.below A,Qad q A,l,s⟩
  refine⟨fun a w b k K o=>?_,?_⟩
  ·clear k;go_simp;exact o _ _ Zr b Z
  refine⟨fun a w b k K o=>?_,?_⟩
  ·obtain⟨j,-⟩:=k
   have j:(fun v w=>∃ B hh a c ds,v=Pv B 0/\d.heap.size<=B/\w.heap[B]?=some (.cells #[.slice pm O cm,Pv hh 0,Iv fr,.slice p1 U d1,.slice R M J,.slice I T N,.slice a f c] 279 (0,0))/\d.heap.size<=hh/\Qo w hh (QbV E)/\w.ownsRow 0 105 3 (.slice a f c) f ds/\(∀ g,(Value.slice a f c).ownBlock=some g->d.heap.size<=g)/\(∀ i x,H[i]?=some x->(Lay.tt 6).In d G x ((ds.drop (i*3)).take 3))) (a.tmps.getD 45 undef) w:=j;generalize al:a.tmps.getD 45 undef=ad at j;obtain⟨B,hh,L,P,z,rfl,D,y,h0,q,l,s,S⟩:=j
   go_simp;exact o _ _ Zr b ⟨B,hh,L,P,z,Z,D,y,h0,q,l,s,S⟩
  trivial
def Qmn (w:World) (m:List (MFunc 6)) (f b:Int) (e:Ending) (w':World):Prop :=
 Below w.heap.size w w'/\(((modFault m).1≠0/\e=.returned (.tuple #[.pointer none,QG (modFault m)])) \/
  ((modFault m).1=0/\Qge m f b=false/\e=.returned (.tuple #[.pointer none,.agg #[Iv 1,Iv (-1)]])) \/
  ((modFault m).1=0/\Qge m f b=true/\∃ (i j:Nat) (fn:MFunc 6) (g:MBlock 6) (B:Nat) (O A:Nat->Prop),f=(i:Int)/\b=(j:Int)/\m[i]?=some fn/\fn.blocks[j]?=some g/\e=.returned (.tuple #[Pv B 0,.agg #[Iv 0,Iv 0]])/\SAt w' B O A (JSt.start m fn g)/\∀ k,A k->w.heap.size<=k/\k<w'.heap.size))
theorem Qj7 {m:List (MFunc 6)}(f b:Int) (bl:¬ Qm m) (hm:(QaN 6).In w All m [.slice p m.length c]) :
 Calls prog 163 #[.agg #[.slice p m.length c],Iv f,Iv b] w fun e w'=>Qmn w m f b e w':=by
 have aq:Qbe m:=ZD bl;have a5:=Qa aq;have b1:=Zd w (.cells #[.slice p m.length c] 24);have b2:=Zd (w.alloc (.cells #[.slice p m.length c] 24)) (.cells #[Iv 0,Iv 0] 32);have bb:=b1.trans (b2.mono b1.size);have HB:=Qa bb;have hX:Blk ((w.alloc (.cells #[.slice p m.length c] 24)).alloc (.cells #[Iv 0,Iv 0] 32)) w.heap.size #[.slice p m.length c] 24:=(Blk.new _ _ _:Blk (w.alloc (.cells #[.slice p m.length c] 24)) w.heap.size _ _).below b2
 have hR:Blk ((w.alloc (.cells #[.slice p m.length c] 24)).alloc (.cells #[Iv 0,Iv 0] 32)) (w.heap.size+1) #[Iv 0,Iv 0] 32:=by
  have:=Blk.new (w.alloc (.cells #[.slice p m.length c] 24)) #[Iv 0,Iv 0] 32
  simpa using this
 have HX:=Qa hX;have HR:=Qa hR;have HM:=Qa hm;have av:Hid ((QaN 6).In _ All m [.slice p m.length c]):=Ya hm bb;have ci:m.length<=100000:=aq.1;clear hX hR b1 b2 bb hm aq bl;go_enter func163,ntmps163
 go_upto_region 1 with fail
 generalize (w.alloc (.cells #[.slice p m.length c] 24)).alloc (.cells #[Iv 0,Iv 0] 32)=w1 at HB HX HR av |-;obtain⟨X,hX⟩:∃ X,X=w.heap.size:=⟨_,Yz⟩
 obtain⟨R,hR⟩:∃ R,R=X+1:=⟨_,Yz⟩
 rw[<-hX] at HX HR |-
 rw[<-hR] at HR |-
 have c2:=Qa hX;have I:Hid (w.heap.size<=R):=by show _<=_;omega
 have c3:¬ X=R:=by omega
 clear hX hR;have x0:=Qb HX.out 0 _ Yz;have CC:=Qa (Qb4 av.out a5.out);unfold Rd at CC;go_wp2_with fail
 refine CC.out.mono ?_;rintro e2 w2 ⟨rfl,b2⟩;have au:=Qa (HB.out.trans (b2.mono HB.out.size));have bd:=Qa (HX.out.below b2);have ao:=Qa (HR.out.below b2);clear b2 CC x0 HX HR HB av;have b3:=Zd w2 (.cells #[Iv (modFault m).1,Iv (modFault m).2] 32);have F:=Qa (au.out.trans (b3.mono au.out.size));have ad:=Qa (bd.out.below b3);have s:=Qa (ao.out.below b3);have bk:=Blk.new w2 #[Iv (modFault m).1,Iv (modFault m).2] 32;have y:=Qa bk;have cg:¬ w2.heap.size=R:=by have:=ao.out.lt;omega
 clear b3 bk au bd ao;go_upto_region 2 with fail
 generalize w2.alloc (.cells #[Iv (modFault m).1,Iv (modFault m).2] 32)=w3 at F ad s y |-;generalize w2.heap.size=F8 at y cg |-;obtain⟨L,a0,ay⟩:∃ L a0,modFault m=(L,a0):=⟨_,_,Yz⟩
 rw[ay] at y |-
 have a1:=Qa ay;clear ay;simp only at y |-
 have y0:=Qb y.out 0 _ Yz;have y1:=Qb y.out 1 _ Yz;by_cases ab:L=0
 rotate_left
 ·have cy:(L != 0)=true:=by simpa using ab
  have r0:=Qb s.out 0 _ Yz;have r1:=Qb s.out 1 _ Yz;have z0:=Qj s.out 0;have z1:=Qj s.out 1;have cb:=Qa ab;clear ab;go_upto_region 3 with fail
  go_region
  all_goals
   have K:Blk ((w3.setCell ⟨R,0,none⟩ (Iv L)).setCell ⟨R,1,none⟩ (Iv a0)).drew R #[Iv L,Iv a0] 32:=by
    have h9:Blk ((w3.setCell ⟨R,0,none⟩ (Iv L)).setCell ⟨R,1,none⟩ (Iv a0)) R #[Iv L,Iv a0] 32:=by
     have:=Qh (Qh s.out 0 (Iv L)) 1 (Iv a0)
     simpa using this
    exact h9
   have D3:Below w.heap.size w ((w3.setCell ⟨R,0,none⟩ (Iv L)).setCell ⟨R,1,none⟩ (Iv a0)).drew:=Qb1 ((F.out.setCell (p:=⟨R,0,none⟩) I.out _).setCell (p:=⟨R,1,none⟩) I.out _);clear y0 y1 r0 r1 z0 z1;generalize ((w3.setCell ⟨R,0,none⟩ (Iv L)).setCell ⟨R,1,none⟩ (Iv a0)).drew=w9 at K D3 |-;have q0:=Qb K 0 _ Yz;have q1:=Qb K 1 _ Yz;go_wp2
   exact Xy (v:=.tuple #[.pointer none,.agg #[Iv L,Iv a0]]) (by simp[results,results163,go_sem,q0,q1]) Yz ⟨D3,.inl ⟨by rw[a1.out];exact cb.out,by rw[a1.out]⟩⟩
 subst ab;have x3:=Qb ad.out 0 _ Yz;have CH:=Qa (Qk1 f b ci (Ya HM.out F.out));have HZ:Hid ((modFault m).1=0):=by show _=_;rw[a1.out]
 clear y1;go_wp2_with fail
 refine CH.out.mono ?_;rintro e4 w4 ⟨rfl,b4⟩;have P:=Qa (F.out.trans (b4.mono F.out.size));have a4:=Qa (ad.out.below b4);have A:=Qa (s.out.below b4);clear b4 CH x3 y0 ad s F y
 cases hhb:Qge m f b with
 | false =>
   have r0:=Qb A.out 0 _ Yz;have r1:=Qb A.out 1 _ Yz;have z0:=Qj A.out 0;have z1:=Qj A.out 1;have az:=Qa hhb;clear hhb;go_wp2_with fail
   have K:Blk ((w4.setCell ⟨R,0,none⟩ (Iv 1)).setCell ⟨R,1,none⟩ (Iv (-1))) R #[Iv 1,Iv (-1)] 32:=by
    have:=Qh (Qh A.out 0 (Iv 1)) 1 (Iv (-1))
    simpa using this
   have D3:Below w.heap.size w ((w4.setCell ⟨R,0,none⟩ (Iv 1)).setCell ⟨R,1,none⟩ (Iv (-1))):=(P.out.setCell (p:=⟨R,0,none⟩) I.out _).setCell (p:=⟨R,1,none⟩) I.out _;clear r0 r1 z0 z1;generalize (w4.setCell ⟨R,0,none⟩ (Iv 1)).setCell ⟨R,1,none⟩ (Iv (-1))=w9 at K D3 |-;have q0:=Qb K 0 _ Yz;have q1:=Qb K 1 _ Yz;exact Xy (v:=.tuple #[.pointer none,.agg #[Iv 1,Iv (-1)]]) (by simp[results,results163,go_sem,q0,q1]) Yz ⟨D3,.inr (.inl ⟨HZ.out,az.out,Yz⟩)⟩
 | true =>
   obtain⟨i,j,a,g,rfl,rfl,Q,O⟩:=Qih hhb
   have az:=Qa hhb;have x4:=Qb a4.out 0 _ Yz;have CO:=Qa (QgJ m p c w4 (Ya HM.out P.out) a5.out);have c8:i<m.length:=(Zi Q).1;have be:(i:Int)<m.length:=by omega
   have c1:j<a.blocks.length:=(Zi O).1;have bf:(j:Int)<a.blocks.length:=by omega
   clear hhb;go_wp2_with fail
   refine CO.out.mono ?_;rintro e5 l ⟨v5,rfl,⟨pm,M,rfl,S⟩,b5⟩;have bt:=Qa (P.out.trans (b5.mono P.out.size));have bx:=Qa (A.out.below b5);have ah:=Qa S;have c5:=bx.out.lt;clear b5 CO x4 a4 A P;obtain⟨t,u,ds,e1,e2,e3,W,ap⟩:=Yf S Q
   subst e1;obtain⟨p1,d1,p2,d2,p3,d3,rfl,cn,cf,bj,cl⟩:=Qas ap
   obtain⟨N,V,pp,cp,es,rfl,D,bw,ai,ae⟩:=Qbn bj O
   have v0:l.cell? ⟨t,u+i*4,none⟩=some (Iv a.regs):=W 0 (by decide);have v1:l.cell? ⟨t,u+i*4+1,none⟩=some (.slice p1 a.params.length d1):=W 1 (by decide);have v2:l.cell? ⟨t,u+i*4+2,none⟩=some (.slice p2 a.results.length d2):=W 2 (by decide);have v3:l.cell? ⟨t,u+i*4+3,none⟩=some (.slice (some ⟨N,V,none⟩) a.blocks.length d3):=W 3 (by decide);have ct:Hid ((ZS 6).In l (Qcv w4.heap.size) a [Iv a.regs,.slice p1 a.params.length d1,.slice p2 a.results.length d2,.slice (some ⟨N,V,none⟩) a.blocks.length d3]):=ap;have co:Hid ((Qp 6).In l (Qcv w4.heap.size) g.params [.slice pp g.params.length cp]):=ai;have ce:=Qa D;have aj:=Qa ae;have C:(Value.int .i64 g.regs::Value.slice pp g.params.length cp::es).length=12:=by simp[bw]
   have b0:=Zn HZ.out;have ax:=b0.2 a (Zm Q);have bm:=ax.blocks g (Zm O);have an:=Qa (Xh ax bm);have a8:=Qa (Xh Q O);have bs:t<l.heap.size:=Xi l ⟨t,u+i*4,none⟩ v0;clear W ap bj D ai ae S cn cf cl e2 e3 bw b0 ax bm Q O;have b6:=Zd l (.cells #[.slice (some ⟨t,u,none⟩) m.length M] 24);have b7:=Zd (l.alloc (.cells #[.slice (some ⟨t,u,none⟩) m.length M] 24)) (.cells #[Iv a.regs,.slice p1 a.params.length d1,.slice p2 a.results.length d2,.slice (some ⟨N,V,none⟩) a.blocks.length d3] 89);have a6:=b6.trans (b7.mono b6.size);have z:=Qa a6;have bp:Blk ((l.alloc (.cells #[.slice (some ⟨t,u,none⟩) m.length M] 24)).alloc (.cells #[Iv a.regs,.slice p1 a.params.length d1,.slice p2 a.results.length d2,.slice (some ⟨N,V,none⟩) a.blocks.length d3] 89)) l.heap.size #[.slice (some ⟨t,u,none⟩) m.length M] 24:=(Blk.new _ _ _:Blk (l.alloc (.cells #[.slice (some ⟨t,u,none⟩) m.length M] 24)) l.heap.size _ _).below b7
   have br:Blk ((l.alloc (.cells #[.slice (some ⟨t,u,none⟩) m.length M] 24)).alloc (.cells #[Iv a.regs,.slice p1 a.params.length d1,.slice p2 a.results.length d2,.slice (some ⟨N,V,none⟩) a.blocks.length d3] 89)) (l.heap.size+1) #[Iv a.regs,.slice p1 a.params.length d1,.slice p2 a.results.length d2,.slice (some ⟨N,V,none⟩) a.blocks.length d3] 89:=by
    have:=Blk.new (l.alloc (.cells #[.slice (some ⟨t,u,none⟩) m.length M] 24)) #[Iv a.regs,.slice p1 a.params.length d1,.slice p2 a.results.length d2,.slice (some ⟨N,V,none⟩) a.blocks.length d3] 89
    simpa using this
   have H:=Qa bp;have d:=Qa br;clear b6 b7 a6 bp br;generalize cc:m.length=nm at H d z be ah;have bn:=Qa cc;generalize ch:a.blocks.length=nb at v3 d z H bf;have cq:=Qa ch;go_upto_region 8 with fail
   generalize (l.alloc (.cells #[.slice (some ⟨t,u,none⟩) nm M] 24)).alloc (.cells #[Iv a.regs,.slice p1 a.params.length d1,.slice p2 a.results.length d2,.slice (some ⟨N,V,none⟩) nb d3] 89)=w6 at z H d |-;obtain⟨M9,bg⟩:∃ M9,M9=l.heap.size:=⟨_,Yz⟩
   obtain⟨bc,ag⟩:∃ bc,bc=M9+1:=⟨_,Yz⟩
   rw[<-bg] at H d |-
   rw[<-ag] at d |-
   clear bg ag v0 v1 v2 v3 bs;have f0:=Qb d.out 0 _ Yz;have f1:=Qb d.out 1 _ Yz;have f2:=Qb d.out 2 _ Yz;have f3:=Qb d.out 3 _ Yz;have m0:=Qb H.out 0 _ Yz;have T:=Qa (Z3 ce.out z.out);generalize ak:(Value.int .i64 g.regs::Value.slice pp g.params.length cp::es)=cs at T C;have bv:=Qa ak;obtain⟨a3,b9,a9⟩:=Qno (w1:=w6) C
   have ac:=Qa a3;have r:=Qa b9;have TH:=Qa a9;have TS:Hid ((prog.info? 86).map (·.size)=some cs.length):=by show _=_;rw[C];exact sizeBk
   have bi:Hid ((prog.info? 86).map (·.size)=some cs.toArray.size):=by show _=_;rw[List.size_toArray];exact TS.out
   have TO:Hid (cs.toArray.all (·.oneCell')=true):=by
    refine all_oneCell_toArray fun v hv=>?_;rw[<-ak] at hv
    simp only[List.mem_cons] at hv
    rcases hv with rfl | rfl | hv
    ·rfl
    ·rfl
    ·exact aj.out v hv
   clear a3 b9 a9 ak C;go_upto_region 9 with (first | (refine wpList_load_mid Yz 86 (.tmp 34) Yz N (V+j*12) Yz cs _ T.out underlying86 Yz TS.out ?_) | (refine wpList_store_mid Yz 86 (.tmp 11) (.tmp 35) Yz w6.heap.size 0 cs.toArray Yz Yz TH.out bi.out TO.out ?_))
   clear TH TS bi TO T;generalize (w6.alloc (.cells #[Iv 0,Nv,Nv,Iv 0,Iv 0,Iv 0,Nv,Nv,Iv 0,Nv,Nv,Nv] 86)).setCells w6.heap.size 0 cs.toArray.toList=E at ac r |-;generalize w6.heap.size=cw at ac |-;have U:Hid (Blk E cw (Value.int .i64 g.regs::Value.slice pp g.params.length cp::es).toArray 86):=by rw[bv.out];exact ac.out
   have y0:=Qb U.out 0 _ Yz;have y1:=Qb U.out 1 _ Yz;have f0:=Qk f0 r.out;have f1:=Qk f1 r.out;have f2:=Qk f2 r.out;have f3:=Qk f3 r.out;have m0:=Qk m0 r.out;have J:=Qa (z.out.trans (r.out.mono z.out.size));have aw:=Qa (bt.out.trans (J.out.mono bt.out.size));have bq:=Qa (bx.out.below J.out);have cd:Hid ((Qp 6).In E (fun k=>k<E.heap.size) g.params [.slice pp g.params.length cp]):=Yc (Ya co.out J.out) (fun k _ hl=>hl);have cj:Hid (∀ (i:Nat) (x:TT 6) (cs:List Value) {w:World},g.params[i]?=some x->(Lay.tt 6).In w (fun k=>k<E.heap.size) x cs->Below E.heap.size E w->(Lay.tt 6).In E (fun k=>k<E.heap.size) x cs):=fun i x cs w _ h hb=>(Lay.tt 6).keep (fun k n _=>(hb.block k n).symm) (fun _ h _=>h) h;have ck:-9223372036854775808<=g.regs/\g.regs<=9223372036854775807:=by have h1:=an.out.2.regs;have h2:=an.out.1.regs;omega
   have cu:g.params.length<=5000:=by have:=an.out.2.params.1;omega
   clear ac U bv z r H d aj;refine jn9 m0 f0 f1 f2 f3 y0 y1 ck (show Hid (g.params.length=g.params.length) from Yz) cu cd cj _ _ Yz (Xg (by kernel_rfl)) Yz Yz Yz ?_;rintro cr vs o af ⟨B,hh,aa,ca,ds,bh,bo,al,a2,ar,am,bu,bz⟩ b8;show wpList _ cr _ [_] (QM _ vs [36,37,38,39,40,41,42,43,44,45,46,6]) o;simp only[QM,Act.put,List.setIfInBounds_toArray,List.set_cons_zero,List.set_cons_succ,af,bh]
   have G:=Qa (bq.out.below b8);have cv:=Qa (aw.out.trans (b8.mono aw.out.size));have c4:=bq.out.lt;have Z:Hid (∀ w9,Below E.heap.size o w9\/(∀ k,k≠R->w9.heap[k]?=o.heap[k]?)->True):=fun _ _=>trivial
   have ST:Hid (SAt o B (fun k=>E.heap.size<=k/\k<o.heap.size) (fun k=>E.heap.size<=k/\k<o.heap.size) (JSt.start m a g)):=by
    have a7:=J.out.trans (b8.mono J.out.size);have cz:=J.out.size;have c7:=b8.size;refine⟨some ⟨t,u,none⟩,M,hh,p1,d1,p2,d2,some ⟨N,V,none⟩,d3,.slice aa g.params.length ca,?_,?_,?_,⟨ar,a2,ar.lt⟩,?_,⟨bo,XC al⟩,fun k n=>n⟩
    ·rw[al]
     show _=some (Obj.cells #[.slice (some ⟨t,u,none⟩) m.length M,_,_,_,_,.slice (some ⟨N,V,none⟩) a.blocks.length d3,_] _ _);rw[bn.out,cq.out];rfl
    ·show (QaN 6).In o _ m [.slice (some ⟨t,u,none⟩) m.length M];have h0:=ah.out;rw[<-bn.out] at h0
     exact(QaN 6).keep (fun k _ hl=>a7.block k hl) (fun k _ hl e=>by omega) h0
    ·exact(ZS 6).keep (fun k _ hl=>a7.block k hl) (fun k _ hl e=>by omega) ct.out
    ·refine⟨ds,am,fun k n=>⟨bu k n,?_⟩,fun i x hx=>(Lay.tt 6).keep (fun k n _=>b8.block k n) (fun k n _ e=>by omega) (bz i x hx)⟩
     obtain⟨-,q⟩:=id am
     rcases q with ⟨e,-⟩|⟨g',cx,c6,e,-,hq,-⟩
     ·rw[e] at n;simp[Value.ownBlock] at n
     ·rw[e] at n;simp[Value.ownBlock] at n;subst n;exact XC hq
   have r0:=Qb G.out 0 _ Yz;have r1:=Qb G.out 1 _ Yz;have z0:=Qj G.out 0;have z1:=Qj G.out 1;clear af bh bo al a2 ar am bu bz b8 f0 f1 f2 f3 y0 y1 m0 Z;go_wp2_with fail
   have K:Blk ((o.setCell ⟨R,0,none⟩ (Iv 0)).setCell ⟨R,1,none⟩ (Iv 0)) R #[Iv 0,Iv 0] 32:=by
    have:=Qh (Qh G.out 0 (Iv 0)) 1 (Iv 0)
    simpa using this
   have D3:Below w.heap.size w ((o.setCell ⟨R,0,none⟩ (Iv 0)).setCell ⟨R,1,none⟩ (Iv 0)):=(cv.out.setCell (p:=⟨R,0,none⟩) I.out _).setCell (p:=⟨R,1,none⟩) I.out _
   have D4:SAt ((o.setCell ⟨R,0,none⟩ (Iv 0)).setCell ⟨R,1,none⟩ (Iv 0)) B (fun k=>E.heap.size<=k/\k<o.heap.size) (fun k=>E.heap.size<=k/\k<o.heap.size) (JSt.start m a g):=by
    have ba:∀ k,((o.setCell ⟨R,0,none⟩ (Iv 0)).setCell ⟨R,1,none⟩ (Iv 0)).heap[k]?=o.heap[k]?:=fun k=>by
     by_cases n:k=R
     ·subst n;exact K.trans G.out.symm
     ·rw[Xd _ _ _ _ n,Xd _ _ _ _ n]
    exact ST.out.keep (fun k _ _=>ba k) (fun _ h _=>h) (fun _ h _=>h) (fun _ h=>h)
   have D5:∀ k,(E.heap.size<=k/\k<o.heap.size)->w.heap.size<=k/\k<((o.setCell ⟨R,0,none⟩ (Iv 0)).setCell ⟨R,1,none⟩ (Iv 0)).heap.size:=fun k n=>by
    have:=aw.out.size
    simp
    omega
   clear r0 r1 z0 z1;generalize (o.setCell ⟨R,0,none⟩ (Iv 0)).setCell ⟨R,1,none⟩ (Iv 0)=w9 at K D3 D4 D5 |-;have q0:=Qb K 0 _ Yz;have q1:=Qb K 1 _ Yz;exact Xy (v:=.tuple #[Pv B 0,.agg #[Iv 0,Iv 0]]) (by simp[results,results163,go_sem,q0,q1]) Yz ⟨D3,.inr (.inr ⟨HZ.out,az.out,i,j,a,g,B,_,_,Yz,Yz,a8.out.1,a8.out.2,Yz,D4,D5⟩)⟩
def SOk (w:World) (b B0:Nat) (s:JSt):Prop:=∃ O A,SAt w b O A s/\(∀ k,A k->B0<=k/\k<w.heap.size)/\JOk s
section
variable {w w':World}{b B0:Nat}{s:JSt}
theorem SOk.below (h:SOk w b B0 s) (k:Below w.heap.size w w'):SOk w' b B0 s:=by
 obtain⟨O,A,e,c,f⟩:=h
 exact⟨O,A,e.below k,fun d a=>⟨(c d a).1,Zl (c d a).2 k.size⟩,f⟩
theorem STo.ok {A:Nat->Prop}{d:JSt}(h:STo w w' b O A d) (f:∀ k,A k->B0<=k/\k<w.heap.size) (l:∀ k,O k->A k) (m:B0<=w.heap.size) (j:JOk d):SOk w' b B0 d/\Below B0 w w':=by
 obtain⟨N,g,i,c⟩:=h
 have e:=c.size;refine⟨⟨_,_,i,fun k a=>?_,j⟩,⟨c.os,c.tape,c.output,c.size,fun k a=>c.block k (by omega) (fun e=>by have:=f k (l k e);omega)⟩⟩
 rcases a with a | a
 ·have:=f k a;omega
 ·have:=g k a;omega
theorem SOk.ins (h:SOk w b B0 s) (m:B0<=w.heap.size){x:Qs}(a:intsL.In w Q x.regs [.slice rg x.regs.length rc]) (c:intsL.In w Q x.args [.slice ag x.args.length ac]) (f:x.regs.length<=rc) (d:ZB x) :
 Calls prog 164 #[Pv b 0,Qed x rg ag rc ac] w fun e w'=>e=.returned (Iv (s.code x))/\SOk w' b B0 (s.ins x)/\Below B0 w w':=by
 obtain⟨O,A,g,i,j⟩:=h
 refine(QjK (fun k l=>(i k l).2) j g a c f d).mono ?_
 rintro e w' ⟨rfl,n⟩;exact⟨Z,n.ok i g.sub m (j.ins x)⟩
theorem SOk.end_ (h:SOk w b B0 s){x:ZA}{e:EP}(f:Qdq w Q x e) (c:-9223372036854775808<=x.a/\x.a<=9223372036854775807) (l:x.yes.regs.length<2305843009213693952/\x.yes.args.length<2305843009213693952/\x.no.regs.length<2305843009213693952/\x.no.args.length<2305843009213693952) :
 Calls prog 165 #[Pv b 0,.agg (QbW x e)] w fun r w'=>r=.returned (Iv (s.fin x))/\Below w.heap.size w w':=by
 obtain⟨O,A,g,i,j⟩:=h
 exact Qj9 (fun k d=>(i k d).2) j g f c l
end
def QkM (w w':World) (e:Ending):Prop:=∃ G1 G2,e=.returned (.agg #[.slice (some ⟨G2,0,none⟩) 1 1])/\Blk w' G1 #[Iv 0,Nv,Nv,Iv 3,Iv 0,Iv 0,Nv,Nv,Iv 0,Nv,Nv,Nv] 86/\Blk w' G2 #[Iv 0,Nv,Nv,.slice (some ⟨G1,0,none⟩) 1 1] 89/\w.heap.size<=G1/\w.heap.size<=G2/\G1≠G2/\Below w.heap.size w w'
theorem Qh7 (w:World):Calls prog 39 #[] w fun e w'=>QkM w w' e:=by
 have c:=Qf ((Bxs.start w).new #[Nv] 24);go_enter func39,ntmps39
 go_upto_region 1 with fail
 generalize w.alloc (.cells #[Nv] 24)=b at c |-;generalize w.heap.size=R at c |-;have g:=c.out.new #[Iv 0,Nv,Nv,Iv 3,Iv 0,Iv 0,Nv,Nv,Iv 0,Nv,Nv,Nv] 86;have d:=g.new #[Iv 0,Nv,Nv,.slice (some ⟨b.heap.size,0,none⟩) 1 1] 89;rw[World.size_alloc] at d
 have j:=d.cell (a:=[_,_]) 0 _ Z;have k:=d.free (a:=[_,_]) 0;have f:=Qf (d.set (a:=[_,_]) 0 (.slice (some ⟨b.heap.size+1,0,none⟩) 1 1));clear g d;go_wp2
 have i:=f.out.cell (a:=[_,_]) 0 _ Z;have h:b.heap.size≠b.heap.size+1:=by omega
 exact Xy (v:=.agg #[.slice (some ⟨b.heap.size+1,0,none⟩) 1 1]) (by simp[results,results39,go_sem,i]) Z ⟨_,_,Z,f.out.at (a:=[_]),f.out.at (a:=[]),c.out.bel.size,Nat.le_succ_of_le c.out.bel.size,h,f.out.bel⟩
def T00:MTo:=⟨0,[],[]⟩
def E00:ZA:=⟨3,0,T00,T00,[]⟩
theorem QbR {α:Type}{A:Lay α}{c:Array Value}{x:α}(h:Blk w G c t) (f:c.toList=cs) (d:A.In w All x cs):A.list.In w All [x] [.slice (some ⟨G,0,none⟩) 1 1]:=by
 refine⟨some ⟨G,0,none⟩,1,Z,fun i y b=>?_⟩
 have g:i=0:=by
  have:=(Zi b).1
  simp at this;exact this
 subst g;simp at b
 subst b;refine⟨G,0,cs,Z,Y,h.lt,fun j k=>?_,d⟩
 have e:=A.len d;have a:j<c.size:=by rw[<-f] at e;simp at e;omega
 rw[Nat.zero_mul,XK,<-f,Array.getElem?_toList]
 exact(Qb h j c[j] (Xj a)).trans (Xj a).symm
def bI (k:Int):Qs:=⟨k,0,0,0,0,0,[],[]⟩
end Go.Proofs.YtjhdpajpibdnaafGreat
