import Derived.Test.YtjhdpajpibdnaafGreatP4
set_option maxHeartbeats 16000000
set_option maxRecDepth 100000
namespace Go.Proofs.YtjhdpajpibdnaafGreat
open Go.ChangeShapes Go.WideShapes Go.ChangeAt Go.RowKit _root_.Go.Proofs.Tryz
set_option linter.unusedSimpArgs false
set_option linter.unusedVariables false
variable {w w' w6 w1 w2:World}{n b c k m rc ac X j B i cm g N d f fi cap bp q R pages id bi cc funcs s ci rl al ca ri vl most cR cA G:Nat}{O Q O':Nat→Prop}{l xs regs inp:List Int}{p a rg ag pm pi pa pR pA ra aa:Option Addr}{t e:TypeId}{v:Value}{P:Program}{L bs:List Bool}{x ya xc xk fr xa xb xn yb:Int}{ds cs:List Value}{ops:Array Oper}
theorem Zh (w:World) (c:Int):Calls prog 268 #[.bool true,Iv c] w fun e w'=>e=.returned (.tuple #[])/\w'=w:=by
 go_enter func268,ntmps268
 go_wp2
 exact Xz (v:=.tuple #[]) (by simp[results,results268,go_sem]) Z ⟨Z,Z⟩
theorem Zf (w:World) (c:Int):Calls prog 268 #[.bool false,Iv c] w fun e w'=>e=.panicked (QeY c)/\w'=w:=by
 go_enter func268,ntmps268
 go_wp2
 exact⟨Z,Z,Z⟩
theorem QbU (w:World) (ok:Bool) (c:Int):Calls prog 268 #[.bool ok,Iv c] w fun e w'=>w'=w/\((ok=true/\e=.returned (.tuple #[]))\/(ok=false/\e=.panicked (QeY c))):=by
 cases ok
 ·exact(Zf w c).mono (fun e w' h=>⟨h.2,.inr ⟨Z,h.1⟩⟩)
 ·exact(Zh w c).mono (fun e w' h=>⟨h.2,.inl ⟨Z,h.1⟩⟩)
def ZG (c:Int) (V:Value->Prop) (e:Ending):Prop:=(c=0/\∃ x,e=.returned x/\V x)\/(c≠0/\e=.panicked (QeY c))
theorem ZG.good {c:Int}{V:Value->Prop}{x:Value}(h:c=0) (a:V x):ZG c V (.returned x):=.inl ⟨h,x,Z,a⟩
theorem ZG.bad {c d:Int}{V:Value->Prop}(h:c=d) (a:d≠0):ZG c V (.panicked (QeY d)):=.inr ⟨by omega,by rw[h]⟩
def Qmp (w:World) (A:Nat->Prop) (s:JSt) (a:Int) (x:Value):Prop:=∃ (t:TT 6) (p:Option Addr) (c:Nat),s.at a=some t/\x=Tv t p c/\TIn w (fun g=>¬ A g) t p/\t.ok
def JSt.has (s:JSt) (a:Int):Int:=match s.at a with | none=>1 | some _=>0
theorem Qcb {w:World}{A:Nat->Prop}{s:JSt}(a:Int) (F:s.L.length<=80) (h:SAt w b O A s) :
 Calls prog 270 #[Pv b 0,Iv a] w fun e w'=>ZG (s.has a) (Qmp w' A s a) e/\Below w.heap.size w w':=by
 have q:=Zd w (.cells #[Iv 0,Iv 0,Nv] 105);obtain⟨pm,cm,hh,a1,c1,a2,c2,a3,c3,aL,cL,R⟩:=h.read
 obtain⟨-,-,-,-,-,-,m⟩:=(R.below q).cells
 have B:=Qa R.row;have k:=Qa q;have f:Hid (Blk (w.alloc (.cells #[Iv 0,Iv 0,Nv] 105)) w.heap.size #[Iv 0,Iv 0,Nv] 105):=Blk.new _ _ _;clear R h q;go_enter func270,ntmps270
 go_upto_region 1 with fail
 generalize w.alloc (.cells #[Iv 0,Iv 0,Nv] 105)=G at m B k f |-;by_cases P:0<=a
 rotate_left
 ·have U:decide (a>=0)=false:=by simpa using P
  have E:Hid (s.has a=1):=by show _=_;unfold JSt.has JSt.at;rw[Xs (by omega)]
  generalize s.L.length=J at m F;go_wp2_with fail
  refine(Zf _ 1).mono ?_
  rintro I w' ⟨rfl,j⟩;subst j;exact⟨Z,ZG.bad E.out (by decide),k.out⟩
 obtain⟨i,rfl⟩:=Xc P
 by_cases y:i<s.L.length
 rotate_left
 ·have E:Hid (s.has (i:Int)=1):=by
   show _=_;unfold JSt.has JSt.at;rw[Xr (by omega),XT,Xk (by omega)]
  have u:¬ (i:Int)<s.L.length:=by omega
  generalize s.L.length=J at m u y F;go_wp2_with fail
  refine(Zf _ 1).mono ?_
  rintro I w' ⟨rfl,j⟩;subst j;exact⟨Z,ZG.bad E.out (by decide),k.out⟩
 have d:s.L[i]?=some s.L[i]:=Zg y;generalize s.L[i]=t at d;have C:s.at (i:Int)=some t:=by unfold JSt.at;rw[Xr (by omega)];exact d
 obtain⟨g,p,c,rfl,x,K,M,H,N⟩:=B.out i t d
 have E:Hid (s.has (i:Int)=0):=by show _=_;unfold JSt.has;rw[C]
 have l:=Xi w ⟨g,i*3,none⟩ x;have e0:=Qk x k.out;have e1:=Qk K k.out;have e2:=Qk M k.out;have T:¬ w.heap.size=g:=fun e=>by have:g<w.heap.size:=l;omega
 have D:Hid (TIn w (fun g=>¬ A g) t p/\t.ok):=⟨H,N⟩;have S:=Qa C;have o:(i:Int)<s.L.length:=by omega
 clear x K M H N d C B l;have y0:=Qb f.out 0 _ Z;have y1:=Qb f.out 1 _ Z;have y2:=Qb f.out 2 _ Z;have z0:=Qj f.out 0;have z1:=Qj f.out 1;have z2:=Qj f.out 2;generalize Q:s.L.length=J at m y o F;go_wp2_with (go_at_call 268;refine(Zh _ _).mono ?_;rintro I w' ⟨rfl,j⟩;have j:=j.symm;subst j)
 have n:=f.out.set3 (Iv t.kind) (Iv t.r) (.slice p t.len c);have z:Below w.heap.size w (((G.setCell ⟨w.heap.size,0,none⟩ (Iv t.kind)).setCell ⟨w.heap.size,1,none⟩ (Iv t.r)).setCell ⟨w.heap.size,2,none⟩ (.slice p t.len c)):=((k.out.setCell Ze _).setCell Ze _).setCell Ze _;generalize ((G.setCell ⟨w.heap.size,0,none⟩ (Iv t.kind)).setCell ⟨w.heap.size,1,none⟩ (Iv t.r)).setCell ⟨w.heap.size,2,none⟩ (.slice p t.len c)=w9 at n z |-;have W:=Qb n 0 _ Z;have V:=Qb n 1 _ Z;have X:=Qb n 2 _ Z;exact Xy (v:=Tv t p c) (by simp[results,results270,go_sem,W,V,X]) Z ⟨ZG.good E.out ⟨t,p,c,S.out,Z,D.out.1.below z,D.out.2⟩,z⟩
theorem Qgg {s:JSt}{a c:Int}{b:Bool}(h:s.has a≠0):s.want a c b=s.has a:=by
 unfold JSt.has JSt.want at *
 cases e:s.at a with
 | none=>rfl
 | some t=>rw[e] at h;exact absurd Z h
theorem SAt.more {w:World}{A:Nat->Prop}{s:JSt}(d:∀ k,O k->k<w.heap.size) (h:SAt w b O A s) (k:Below w.heap.size w w'):SAt w' b O (fun k=>A k\/w.heap.size<=k) s :=
 h.keep (fun g c _=>k.block g c) (fun _ h _=>h) (fun k a f e=>by rcases e with e | e;exact a e;omega) (fun k a=>.inl (h.sub k a))
theorem TIn.over {w w9:World}{A:Nat->Prop}{n:Nat}{t:TT n}{p:Option Addr}(h:TIn w2 (fun g=>¬ (A g\/w.heap.size<=g)) t p) (b:Below w.heap.size w w2) (c:Below w.heap.size w w9):TIn w9 (fun g=>¬ (A g\/w.heap.size<=g)) t p :=
 h.keep (fun k a _=>(c.block k (Nat.lt_of_not_le (fun e=>a (.inr e)))).trans (b.block k (Nat.lt_of_not_le (fun e=>a (.inr e)))).symm) (fun _ h _=>h)
theorem TIn.less {w:World}{A:Nat->Prop}{n:Nat}{t:TT n}{p:Option Addr}(h:TIn w2 (fun g=>¬ (A g\/w.heap.size<=g)) t p):TIn w2 (fun g=>¬ A g) t p:=h.mono (fun k a _ e=>a (.inl e))
structure QhB (w wc:World) (R B:Nat) (A:Nat->Prop){n:Nat}(t:TT n) (p:Option Addr) (c:Nat):Prop where
 bel:Below w.heap.size w wc
 res:Blk wc R #[Iv 0,Iv 0,Nv] 105
 box:Blk wc B #[Iv t.kind,Iv t.r,.slice p t.len c] 105
 lay:TIn wc (fun g=>¬ (A g\/w.heap.size<=g)) t p
 farR:w.heap.size<=R
 farB:w.heap.size<=B
 ne:¬ B=R
section
variable {w wc w9:World}{R B:Nat}{A:Nat->Prop}{n:Nat}{t:TT n}{p:Option Addr}{c:Nat}
theorem QhB.below (h:QhB w wc R B A t p c) (k:Below wc.heap.size wc w9):QhB w w9 R B A t p c :=
 ⟨h.bel.trans (k.mono h.bel.size),h.res.below k,h.box.below k,h.lay.below k,h.farR,h.farB,h.ne⟩
theorem QhB.cells (h:QhB w wc R B A t p c):wc.cell? ⟨B,0,none⟩=some (Iv t.kind)/\wc.cell? ⟨B,1,none⟩=some (Iv t.r)/\wc.cell? ⟨B,2,none⟩=some (.slice p t.len c) /\
 wc.cell? ⟨R,0,none⟩=some (Iv 0)/\wc.cell? ⟨R,1,none⟩=some (Iv 0)/\wc.cell? ⟨R,2,none⟩=some (Nv)/\wc.frozen? ⟨R,0,none⟩=false/\wc.frozen? ⟨R,1,none⟩=false/\wc.frozen? ⟨R,2,none⟩=false :=
 ⟨Qb h.box 0 _ Z,Qb h.box 1 _ Z,Qb h.box 2 _ Z,Qb h.res 0 _ Z,Qb h.res 1 _ Z,Qb h.res 2 _ Z,Qj h.res 0,Qj h.res 1,Qj h.res 2⟩
theorem QnJ {k r:Int}{q:Option Addr}{l:Nat}(b:Below w.heap.size w wc) (c:Blk wc R #[Iv 0,Iv 0,Nv] 105) (a:w.heap.size<=R) :
 Blk (((wc.setCell ⟨R,0,none⟩ (Iv k)).setCell ⟨R,1,none⟩ (Iv r)).setCell ⟨R,2,none⟩ (.slice q l d)) R #[Iv k,Iv r,.slice q l d] 105/\Below w.heap.size w (((wc.setCell ⟨R,0,none⟩ (Iv k)).setCell ⟨R,1,none⟩ (Iv r)).setCell ⟨R,2,none⟩ (.slice q l d)) :=
 ⟨c.set3 _ _ _,((b.setCell (p:=⟨R,0,none⟩) a _).setCell (p:=⟨R,1,none⟩) a _).setCell (p:=⟨R,2,none⟩) a _⟩
theorem QhB.mk1 (a:Below w.heap.size w wc) (b:Blk wc R #[Iv 0,Iv 0,Nv] 105) (h:w.heap.size<=R) (f:TIn wc (fun g=>¬ (A g\/w.heap.size<=g)) t p) :
 QhB w (wc.alloc (.cells #[Iv t.kind,Iv t.r,.slice p t.len c] 105)) R wc.heap.size A t p c:=by
 have d:=Zd wc (.cells #[Iv t.kind,Iv t.r,.slice p t.len c] 105);have e:=b.lt;exact⟨a.trans (d.mono a.size),b.below d,Blk.new _ _ _,f.alloc _,h,a.size,by omega⟩
end
theorem QhB.told {w wc:World}{R B:Nat}{A:Nat->Prop}{s:JSt}{a:Int}{t:TT 6}{p:Option Addr}{c:Nat}(h:QhB w wc R B A t p c) (g:s.at a=some t) (b:t.ok) :
 ∃ w9,w9=((wc.setCell ⟨R,0,none⟩ (Iv t.kind)).setCell ⟨R,1,none⟩ (Iv t.r)).setCell ⟨R,2,none⟩ (.slice p t.len c)/\w9.cell? ⟨R,0,none⟩=some (Iv t.kind)/\w9.cell? ⟨R,1,none⟩=some (Iv t.r)/\w9.cell? ⟨R,2,none⟩=some (.slice p t.len c) /\
  Qmp w9 A s a (Tv t p c)/\Below w.heap.size w w9:=by
 obtain⟨e,f⟩:=QnJ (k:=t.kind) (r:=t.r) (q:=p) (l:=t.len) (d:=c) h.bel h.res h.farR
 exact⟨_,Z,Qb e 0 _ Z,Qb e 1 _ Z,Qb e 2 _ Z,⟨t,p,c,g,Z,(h.lay.over h.bel f).less,b⟩,f⟩
theorem Qfh {w:World}{A:Nat->Prop}{s:JSt}(a d:Int) (hL:s.L.length<=80) (G:∀ k,O k->k<w.heap.size) (h:SAt w b O A s) :
 Calls prog 266 #[Pv b 0,Iv a,Iv d] w fun e w'=>ZG (s.want a d false) (Qmp w' A s a) e/\Below w.heap.size w w':=by
 have C:=Zd w (.cells #[Iv 0,Iv 0,Nv] 105);have I:=Qa (h.more G C);have o:=Qa C;have n:Hid (Blk (w.alloc (.cells #[Iv 0,Iv 0,Nv] 105)) w.heap.size #[Iv 0,Iv 0,Nv] 105):=Blk.new _ _ _;clear h C;go_enter func266,ntmps266
 go_upto_region 1 with fail
 generalize w.alloc (.cells #[Iv 0,Iv 0,Nv] 105)=w1 at I o n |-;obtain⟨R,F⟩:∃ R,w.heap.size=R:=⟨_,Z⟩
 have HR:=Qa (Nat.le_of_eq F);rw[F] at n |-
 clear F;go_wp2_with fail
 refine(Qcb a hL I.out).mono ?_
 rintro N H ⟨G,J⟩;have S:Hid (Below w.heap.size w H):=o.out.trans (J.mono o.out.size);have P:=Qa (n.out.below J);rcases G with ⟨u,x,rfl,t,p,c,T,rfl,U,i⟩|⟨u,rfl⟩
 rotate_left
 ·exact⟨Z,.inr ⟨by rw[Qgg u];exact u,by rw[Qgg u]⟩,S.out⟩
 have f:=Qa (QhB.mk1 (c:=c) S.out P.out HR.out U);have m:=Qa (Xh T i);clear U T i J n o I P;go_upto_region 2 with fail
 generalize H.alloc (.cells #[Iv t.kind,Iv t.r,.slice p t.len c] 105)=w3 at f |-;generalize H.heap.size=B at f |-;obtain⟨y0,y1,y2,r0,r1,r2,z0,z1,z2⟩:=f.out.cells
 have W:=f.out.ne;by_cases l:t.kind=d
 rotate_left
 ·have j:(t.kind==d)=false:=by simpa using l
  have E:Hid (s.want a d false=9):=by show _=_;unfold JSt.want;rw[m.out.1];simp[l]
  generalize t.kind=tk at y0 l j;go_wp2_with fail
  refine(Zf _ 9).mono ?_
  rintro N w' ⟨rfl,g⟩;subst g;exact⟨Z,ZG.bad E.out (by decide),f.out.bel⟩
 ·subst l;have j:(t.kind==t.kind)=true:=by simp
  have E:Hid (s.want a t.kind false=0):=by show _=_;unfold JSt.want;rw[m.out.1];simp
  obtain⟨D,V,y,q,z,M,K⟩:=f.out.told m.out.1 m.out.2
  have Q:=Qa (Xh M K);have X:Hid (D.cell? ⟨R,0,none⟩=some (Iv t.kind)/\D.cell? ⟨R,1,none⟩=some (Iv t.r)/\D.cell? ⟨R,2,none⟩=some (.slice p t.len c)):=⟨y,q,z⟩;have H9:=Qa V;clear M K y q z V;go_wp2_with (go_at_call 268;refine(Zh _ _).mono ?_;rintro N w' ⟨rfl,g⟩;have g:=g.symm;subst g)
  rw[<-H9.out]
  obtain⟨y,q,z⟩:=X.out
  exact Xy (v:=Tv t p c) (by simp[results,results266,go_sem,y,q,z]) Z ⟨ZG.good E.out Q.out.1,Q.out.2⟩
theorem QeQ {s:JSt}{a b:Int}(h:s.want a b false≠0):s.want a b true=s.want a b false:=by
 unfold JSt.want at *
 cases e:s.at a with
 | none=>rfl
 | some t =>
   rw[e] at h
   by_cases c:t.kind=b
   ·simp[c] at h
   ·simp[c]
theorem Qhv {s:JSt}{a b:Int}{t:TT 6}(h:s.want a b false=0) (d:s.at a=some t):s.want a b true=if hHas s.H t.r then 0 else 10:=by
 unfold JSt.want at *;rw[d] at h |-
 by_cases c:t.kind=b
 ·simp only[c,if_true,Bool.true_and]
  cases hHas s.H t.r<;>rfl
 ·simp[c] at h
theorem Qad {w:World}{A:Nat->Prop}{s:JSt}(a d:Int) (hL:s.L.length<=80) (j:∀ k,O k->k<w.heap.size) (h:SAt w b O A s) :
 Calls prog 248 #[Pv b 0,Iv a,Iv d] w fun e w'=>ZG (s.want a d true) (Qmp w' A s a) e/\Below w.heap.size w w':=by
 have K:=Zd w (.cells #[Iv 0,Iv 0,Nv] 105);have u:=Qa (h.more j K);have n:=Qa K;have y:Hid (Blk (w.alloc (.cells #[Iv 0,Iv 0,Nv] 105)) w.heap.size #[Iv 0,Iv 0,Nv] 105):=Blk.new _ _ _;have HO:=Qa j;clear h K j;go_enter func248,ntmps248
 go_upto_region 1 with fail
 generalize w.alloc (.cells #[Iv 0,Iv 0,Nv] 105)=w1 at u n y |-;obtain⟨R,N⟩:∃ R,w.heap.size=R:=⟨_,Z⟩
 have HR:=Qa (Nat.le_of_eq N);rw[N] at y |-
 clear N;go_wp2_with fail
 refine(Qfh a d hL (fun k hk=>Zl (HO.out k hk) n.out.size) u.out).mono ?_
 rintro e' o ⟨j,G⟩;have B2:Hid (Below w.heap.size w o):=n.out.trans (G.mono n.out.size);have X2:=Qa (y.out.below G);have H2:=Qa (u.out.below G);rcases j with ⟨i,x,rfl,t,p,c,Q,rfl,ht,l⟩|⟨i,rfl⟩
 rotate_left
 ·exact⟨Z,.inr ⟨by rw[QeQ i];exact i,by rw[QeQ i]⟩,B2.out⟩
 have g:=Qa (QhB.mk1 (c:=c) B2.out X2.out HR.out ht);have W:=Qa (Xh Q l);have E:=Qa (Qhv i Q);have S:=Qa (H2.out.below (Zd o (.cells #[Iv t.kind,Iv t.r,.slice p t.len c] 105)));clear ht Q l G y n u X2 i H2;go_upto_region 2 with fail
 generalize o.alloc (.cells #[Iv t.kind,Iv t.r,.slice p t.len c] 105)=P at g S |-;generalize o.heap.size=B at g |-;obtain⟨y0,y1,y2,r0,r1,r2,z0,z1,z2⟩:=g.out.cells
 have aa:=g.out.ne;obtain⟨pm,cm,T,a1,c1,a2,c2,a3,c3,aL,cL,J⟩:=S.out.read
 obtain⟨-,q1,-⟩:=J.cells
 have C:Hid (∀ m,Calls prog 272 #[Pv T 0,Iv t.r] (P.drewN m) fun e w'=>e=.returned (.bool (hHas s.H t.r))/\w'=P.drewN m):=fun m=>QcA t.r (show Qo (P.drewN m) T s.H from J.held);clear J;generalize hHas s.H t.r=q at E C;go_region_with (first | (go_at_call 272;refine(C.out _).mono ?_;rintro e' w' ⟨rfl,f⟩;have f:=f.symm;subst f) | (go_at_call 268;refine(QbU _ _ _).mono ?_;rintro e' w' ⟨f,⟨D,rfl⟩|⟨D,rfl⟩⟩;rotate_left;exact⟨Z,ZG.bad (by rw[E.out,D];rfl) (by decide),by rw[f];exact QI g.out.bel _⟩;have f:=f.symm;subst f))
 all_goals
  have E9:Hid (s.want a d true=0):=by show _=_;rw[E.out,D];rfl
  clear D S E C;have T4:=g.out.below (QI Zr 1);obtain⟨M,h9,F,z,I,U,V⟩:=T4.told W.out.1 W.out.2
  have HV:=Qa (Xh U V);have X:Hid (M.cell? ⟨R,0,none⟩=some (Iv t.kind)/\M.cell? ⟨R,1,none⟩=some (Iv t.r)/\M.cell? ⟨R,2,none⟩=some (.slice p t.len c)):=⟨F,z,I⟩;have H9:=Qa h9;clear U V F z I h9 T4;go_wp2
  rw[<-H9.out]
  obtain⟨F,z,I⟩:=X.out
  exact Xy (v:=Tv t p c) (by simp[results,results248,go_sem,F,z,I]) Z ⟨ZG.good E9.out HV.out.1,HV.out.2⟩
abbrev VNone:Value->Prop:=fun x=>x=.tuple #[]
theorem QbG {A:Nat->Prop}{s:JSt}(C:l.length=N) (T:N<=100000) (E:intsL.In w Q l [.slice p N c]) (X:s.L.length<=80) (z:∀ k,O k->k<w.heap.size) (h:SAt w b O A s) :
 Calls prog 240 #[Pv b 0,.slice p N c] w fun e w'=>ZG (Qu (fun a=>s.want a 1 false) l) VNone e/\Below w.heap.size w w':=by
 have H:=Qa h;have V:=Qa z;have U:=Qa E;have I:=Qa C;clear h z E C;go_enter func240,ntmps240
 go_wp2
 go_loopw [8] (fun i wr=>∃ k:Nat,k<=N/\i=Iv k/\Below w.heap.size w wr/\∀ (j:Nat) (y:Int),j<k->l[j]?=some y->s.want y 1 false=0) (fun i _=>N - (intOf i).toNat)
 case atStart=>exact⟨0,Xb _,Z,Zr,fun j y S=>by omega⟩
 case round =>
  obtain⟨k,K,rfl,D,F⟩:=hrel
  have n:=Qa D;have u:=Qa F;clear D F;by_cases r:k<N
  ·have t:(k:Int)<N:=by omega
   have f:k<l.length:=by rw[I.out];exact r
   obtain⟨g,o,rfl,-,hg,m⟩:=ZH U.out f
   obtain⟨y,d⟩:∃ y,l[k]?=some y:=⟨_,Zg f⟩
   rw[show l.getD k 0=y by rw[List.getD_eq_getElem?_getD,d];rfl] at m
   have B:=Qa d;clear d;have W:=Qk m n.out;clear m f;go_wp2_with fail
   refine(Qfh y 1 X (fun k K=>Zl (V.out k K) n.out.size) (H.out.below n.out)).mono ?_
   rintro e' R ⟨z,J⟩;have G:Hid (Below w.heap.size w R):=n.out.trans (J.mono n.out.size);rcases z with ⟨q,x,rfl,-⟩|⟨q,rfl⟩
   rotate_left
   ·exact⟨Z,.inr ⟨by rw[Qau B.out u.out q];exact q,by rw[Qau B.out u.out q]⟩,G.out⟩
   have P:=Qa q;clear q J W;go_wp2
   go_roundw
   case rel =>
    refine⟨k+1,r,by go_num,G.out,fun j M S d=>?_⟩
    rcases Nat.lt_or_ge j k with h | h
    ·exact u.out j M h d
    ·have:j=k:=by omega
     subst this;have e:=B.out.symm.trans d;injection e with e
     subst e;exact P.out
   case measure=>simp[intOf];omega
  ·have t:¬ (k:Int)<N:=by omega
   go_wp2
   exact Xz (v:=.tuple #[]) (by simp[results,results240,go_sem]) Z ⟨ZG.good (Qae (fun j y d=>u.out j y (by have:=(Zi d).1;rw[I.out] at this;omega) d)) Z,n.out⟩
def QY (n m:Nat):Int:=if 80<n+m then 2 else 0
theorem QeR {A:Nat->Prop}{s:JSt}(n:Nat) (m:n<=1000) (k:s.L.length<=80) (h:SAt w b O A s) :
 Calls prog 267 #[Pv b 0,Iv n] w fun e w'=>ZG (QY s.L.length n) VNone e/\w'=w:=by
 obtain⟨u,r,l,x,z,p,q,y,t,o,B,g⟩:=h.read
 obtain⟨-,-,-,-,-,-,i⟩:=g.cells
 clear h g;generalize s.L.length=a at i k |-;by_cases d:80<a+n
 ·have E:Hid (QY a n=2):=Xs d;have f:decide ((a:Int)+n<=80)=false:=Xu (by omega);clear d;go_enter func267,ntmps267
  go_wp2_with fail
  refine(Zf _ 2).mono ?_
  rintro j w' ⟨rfl,c⟩;subst c;exact⟨Z,ZG.bad E.out (by decide),Z⟩
 ·have E:Hid (QY a n=0):=Xr d;have f:decide ((a:Int)+n<=80)=true:=Xt (by omega);clear d;go_enter func267,ntmps267
  go_wp2_with (go_at_call 268;refine(Zh _ _).mono ?_;rintro j w' ⟨rfl,c⟩;have c:=c.symm;subst c)
  exact Xz (v:=.tuple #[]) (by simp[results,results267,go_sem]) Z ⟨ZG.good E.out Z,Z⟩
def QO (w:World) (b:Nat) (O A:Nat->Prop) (s s':JSt) (c:Int) (e:Ending) (w':World):Prop :=
 (c=0/\e=.returned (.tuple #[])/\STo w w' b O A s')\/(c≠0/\e=.panicked (QeY c)/\STo w w' b O A s)
theorem STo.of_below {A:Nat->Prop}{s:JSt}(h:SAt w b O A s) (a:Below w.heap.size w w'):STo w w' b O A s:=(STo.same (h.below a)).after a
theorem Yh:type_of% @STo.of_below:=@STo.of_below
theorem QO.after {A:Nat->Prop}{s i:JSt}{c:Int}{e:Ending}(h:QO w1 b O A s i c e w') (g:Below w.heap.size w w1):QO w b O A s i c e w':=by
 rcases h with ⟨a,d,f⟩|⟨a,d,f⟩
 ·exact .inl ⟨a,d,f.after g⟩
 ·exact .inr ⟨a,d,f.after g⟩
theorem QO.bad {A:Nat->Prop}{s a:JSt}{c d:Int}(h:c=d) (f:d≠0) (e:STo w w' b O A s):QO w b O A s a c (.panicked (QeY d)) w':=.inr ⟨by omega,by rw[h],e⟩
theorem Qax {A:Nat->Prop}{s:JSt}{l:List (TT 6)}(hn:l.length=n) (am:n<=8) (hl:(Qp 6).In w (fun g=>¬ A g) l [.slice p n c]) (hL:s.L.length<=80) (hA:∀ k,A k->k<w.heap.size) (h:SAt w b O A s) :
 Calls prog 244 #[Pv b 0,.slice p n c] w fun e w'=>QO w b O A s { s with L:=s.L++l } (QY s.L.length n) e w':=by
 obtain⟨i0,hi,ag,W,ai⟩:=pInfoT
 have H:=Qa h;have z:=Qa hl;have T:=Qa hn;have C:=Qa (QeR n (by omega) hL h);have aj:=Qa hA;clear h hl hn hA;by_cases K:80<s.L.length+n
 ·rw[show QY s.L.length n=2 from Xs K] at C |-
  clear K;go_enter func244,ntmps244
  go_wp2_with fail
  refine C.out.mono ?_;rintro e' w' ⟨⟨S,-⟩|⟨S,rfl⟩,f⟩
  ·cases S
  subst f;exact⟨Z,.inr ⟨by decide,Z,STo.same H.out⟩⟩
 rw[show QY s.L.length n=0 from Xr K] at C |-
 obtain⟨m,r,xs,N,f6,E,I,i⟩:=H.out.pushL aj.out
 have D:=Qa i;have B:=Qa I
 have C2:Hid (Calls prog 267 #[Pv b 0,Iv n] w fun e w'=>e=.returned (.tuple #[])/\w'=w):=C.out.mono (fun e w' h=>by
  rcases h with ⟨⟨-,x,rfl,hx⟩|⟨S,-⟩,f⟩
  ·exact⟨by rw[hx],f⟩
  ·exact absurd Z S)
 clear i I C;by_cases aa:n=0
 ·subst aa;have ab:l=[]:=Xf.1 T.out;subst ab
  have ha:Hid (∀ (t:TypeId) (F:World),(Builtin.append_ #[80,80] t #[.slice m s.L.length r,.slice p 0 c]).run prog F=.ok (.slice m s.L.length r) F):=fun (t:TypeId) (F:World)=>run_append_nothing (P:=prog) F 80 80 t 105 i0 pUnderT hi m s.L.length r E (.slice p 0 c) (by cases p with
   | none=>exact Src.ofNil F pUnderT c
   | some ad=>exact Src.ofSlice F pUnderT ad 0 c [] (by simp) (fun j u h=>by simp at h) (fun u h=>by cases h))
  have HZ:Hid (STo w (w.setCell ⟨b,6,none⟩ (.slice m s.L.length r)) b O A { s with L:=s.L++[] }):=by
   have e:∀ k,(w.setCell ⟨b,6,none⟩ (.slice m s.L.length r)).heap[k]?=w.heap[k]?:=fun k=>H.out.same6 N k;have hb:Below w.heap.size w (w.setCell ⟨b,6,none⟩ (.slice m s.L.length r)):=⟨Z,Z,Z,by simp,fun k _=>e k⟩;rw[List.append_nil]
   exact Yh H.out hb
  clear D B z;generalize s.L.length=nL at N ha HZ hL E K;go_enter func244,ntmps244
  go_wp2_with (first | (go_at_call 267;refine(C2.out).mono ?_;rintro e w' ⟨rfl,f⟩;have f:=f.symm;subst f) | (at_builtin;refine QaM Z (.tmp 12) (.tmp 13) 80 Z (.slice m nL r) (.slice p 0 c) Z Z (ha.out _ _) ?_))
  exact Xz (v:=.tuple #[]) (by simp[results,results244,go_sem]) Z (.inl ⟨Z,Z,HZ.out⟩)
 ·obtain⟨g0,o0,rfl⟩:∃ g0 o0,p=some ⟨g0,o0,none⟩:=by
   obtain⟨g,o,dd,e,-⟩:=Yf z.out (Zg (show 0<l.length by have:=T.out;omega))
   exact⟨g,o,e⟩
  obtain⟨M,d1,d2,d3,d4⟩:=Lay.flat z.out (fun y cs hy=>by obtain⟨ya,yc,e,-⟩:=hy;subst e;exact QlS _ _ _ _ _)
  have G:M.length=n*3:=by rw[<-T.out];exact d1
  have ae:=Qa G;have af:=Qa d2;have ah:=Qa d3
  have d:Hid (∀ q g a,q.ownsRow 0 105 3 (.slice (some ⟨g,0,none⟩) (s.L.length+n) a) (s.L.length+n) (xs++M)->w.grownBy q (Value.slice m s.L.length r).ownBlock->((Value.slice m s.L.length r).ownBlock=some g\/g=w.heap.size)->g<q.heap.size->q.cell? ⟨b,6,none⟩=some (.slice m s.L.length r)/\q.frozen? ⟨b,6,none⟩=false/\STo w (q.setCell ⟨b,6,none⟩ (.slice (some ⟨g,0,none⟩) (s.L.length+n) a)) b O A { s with L:=s.L++l }):=by
   intro q g a J U R Q;rw[<-T.out] at J |-
   exact D.out q g a l M d1 J U R Q d4
  clear D z d1 G d2 d3 d4;have V:Hid (0<=w.heap.size):=Xb _;have X:s.L.length+n<=80:=by omega
  have ac:0<n:=by omega
  generalize s.L.length=nL at N B d hL E K X;go_enter func244,ntmps244
  go_wp2_with (first | (go_at_call 267;refine(C2.out).mono ?_;rintro e w' ⟨rfl,f⟩;have f:=f.symm;subst f) | (at_builtin;refine wpList_append_lies _ Z (.tmp 12) (.tmp 13) 80 Z 0 105 i0 (.agg #[Iv 0,Iv 0,Nv]) 3 40 pUnderT hi ag W ai Z (by decide) _ _ _ Z B.out ⟨g0,o0,none⟩ n c M Z ae.out af.out ah.out ac (by unfold maxLen;omega) (by omega) V.out w.heap.size Z ?_))
  intro g2 a q J U R Q;obtain⟨al,ak,z9⟩:=d.out q g2 a J U R Q
  have Z9:=Qa z9;clear J U R Q d B z9 N f6;go_wp2
  exact Xz (v:=.tuple #[]) (by simp[results,results244,go_sem]) Z (.inl ⟨Z,Z,Z9.out⟩)
theorem Qd0 {A:Nat->Prop}(o:∀ k,A k->k<w.heap.size){t:TT 6}(n:TIn w (fun g=>¬ A g) t p) (b:t.ok) :
 (Qp 6).In (w.alloc (.cells #[Iv t.kind,Iv t.r,.slice p t.len c] 105)) (fun g=>¬ A g) [t] [.slice (some ⟨w.heap.size,0,none⟩) 1 d]:=by
 refine⟨some ⟨w.heap.size,0,none⟩,d,Z,fun i x m=>?_⟩
 have q:i<1:=by simpa using (Zi m).1
 have f:i=0:=by omega
 subst f;simp at m
 subst m;have a:=Qe w #[Iv t.kind,Iv t.r,.slice p t.len c] 105;refine⟨w.heap.size,0,[Iv t.kind,Iv t.r,.slice p t.len c],Z,fun e=>by have:=o _ e;omega,XC a,fun j l=>?_,p,c,Z,n.alloc _,b⟩
 have l:j<3:=l;match j,l with
 | 0,_=>exact Qb a 0 _ Z
 | 1,_=>exact Qb a 1 _ Z
 | 2,_=>exact Qb a 2 _ Z
 | j+3,h=>exact absurd h (by omega)
theorem Qby {A:Nat->Prop}{s:JSt}(o:s.L.length<=80) (f:∀ k,A k->k<w.heap.size) (h:SAt w b O A s) :
 Calls prog 239 #[Pv b 0] w fun e w'=>QO w b O A s { s with L:=s.L++[tInt] } (QY s.L.length 1) e w':=by
 have C:Hid (∀ d,Calls prog 244 #[Pv b 0,.slice (some ⟨w.heap.size,0,none⟩) 1 d] (w.alloc (.cells #[Iv 1,Iv 0,Nv] 105)) fun e w'=>QO w b O A s { s with L:=s.L++[tInt] } (QY s.L.length 1) e w'):=fun d=>by
  have g:=Zd w (.cells #[Iv 1,Iv 0,Nv] 105);refine(Qax (l:=[tInt]) Z (by decide) (Qd0 (t:=tInt) (p:=none) (c:=0) (d:=d) f (fun i x r=>by simp[tInt] at r) (by unfold TT.ok;simp[tInt])) o (fun k q=>Zl (f k q) g.size) (h.below g)).mono (fun e w' a=>a.after g)
 clear h o f;go_enter func239,ntmps239
 go_wp2_with fail
 refine(C.out _).mono ?_
 rintro u w' a;have n:=Qa a;rcases a with ⟨j,rfl,m⟩|⟨j,rfl,m⟩
 rotate_left
 ·exact⟨Z,n.out⟩
 clear j m;go_wp2
 exact Xz (v:=.tuple #[]) (by simp[results,results239,go_sem]) Z n.out
theorem Qkc (w:World) (Q:Nat->Prop) (k r:Int):TIn (n:=6) w Q (mkT k r []) none:=fun i x a=>by simp at a
theorem Qkm {k r:Int}(h:-9223372036854775808<=r/\r<=9223372036854775807) (a:-9223372036854775808<=k/\k<=9223372036854775807):TT.ok (n:=6) (mkT k r []):=by
 unfold TT.ok;simp
 omega
theorem QcP {A:Nat->Prop}{s:JSt}(k r:Int) (m:0<=r/\r<=1000) (g:0<=k/\k<=4) (d:Nat) (j:s.L.length<=80) (f:∀ k,A k->k<w.heap.size) (h:SAt w b O A s) :
 Calls prog 244 #[Pv b 0,.slice (some ⟨w.heap.size,0,none⟩) 1 d] (w.alloc (.cells #[Iv k,Iv r,Nv] 105)) fun e w'=>QO w b O A s { s with L:=s.L++[mkT k r []] } (QY s.L.length 1) e w':=by
 have a:=Zd w (.cells #[Iv k,Iv r,Nv] 105);exact(Qax (l:=[mkT k r []]) Z (by simp) (Qd0 (t:=mkT k r []) (p:=none) (c:=0) (d:=d) f (Qkc _ _ _ _) (Qkm (by omega) (by omega))) j (fun k g=>Zl (f k g) a.size) (h.below a)).mono (fun e w' i=>i.after a)
def JSt.openC (s:JSt):Int:=if 80<s.L.length+1\/s.H.length=16 then 2 else 0
def JSt.openS (s:JSt):JSt:={ s with H:=s.H++[true],L:=s.L++[mkT 2 s.H.length []] }
theorem Qjv {A:Nat->Prop}{s:JSt}(hH:s.H.length<=16) (T:s.L.length<=80) (R:∀ k,A k->k<w.heap.size) (h:SAt w b O A s) :
 Calls prog 241 #[Pv b 0] w fun e w'=>QO w b O A s s.openS s.openC e w':=by
 have H:=Qa h;have Q:=Qa R;have C:=Qa (QeR 1 (by decide) T h);clear h R;by_cases n:80<s.L.length+1
 ·rw[show QY s.L.length 1=2 from Xs n] at C
  have E:Hid (s.openC=2):=Xs (.inl n);clear n;go_enter func241,ntmps241
  go_wp2_with fail
  refine C.out.mono ?_;rintro z w' ⟨⟨q,-⟩|⟨q,rfl⟩,a⟩
  ·cases q
  subst a;exact⟨Yz,QO.bad E.out (by decide) (STo.same H.out)⟩
 rw[show QY s.L.length 1=0 from Xr n] at C
 have t:Hid (Calls prog 267 #[Pv b 0,Iv 1] w fun e w'=>e=.returned (.tuple #[])/\w'=w):=C.out.mono (fun e w' h=>by
  rcases h with ⟨⟨-,x,rfl,W⟩|⟨q,-⟩,a⟩
  ·exact⟨by rw[W],a⟩
  ·exact absurd Yz q)
 clear C;obtain⟨X,q1,f,i⟩:=H.out.setH Q.out
 have m:=Qa (Qc4 f);have K:=Qa i;clear f i;by_cases l:s.H.length=16
 ·have E:Hid (s.openC=2):=Xs (.inr l);rw[show QbL s.H=-1 by unfold QbL;rw[Xr (by omega)],show Qc6 s.H=s.H by unfold Qc6;rw[Xr (by omega)]] at m
  clear l n;go_enter func241,ntmps241
  go_wp2_with (first | (go_at_call 267;refine(t.out).mono ?_;rintro e w' ⟨rfl,a⟩;have a:=a.symm;subst a) | (go_at_call 237;refine(m.out).mono ?_;rintro e r ⟨rfl,g,c⟩;have Z:=Qa (K.out r _ g c);clear g c))
  refine(Zf _ 2).mono ?_
  rintro z w' ⟨rfl,a⟩;subst a;exact⟨Yz,QO.bad E.out (by decide) Z.out⟩
 ·have E:Hid (s.openC=0):=Xr (by omega);have j:s.H.length<16:=by omega
  rw[show QbL s.H=(s.H.length:Int) by unfold QbL;rw[Xs j],show Qc6 s.H=s.H++[true] by unfold Qc6;rw[Xs j]] at m
  have I:s.H.length<=1000:=by omega
  generalize o:s.H.length=J at m j I;have u:=Qa o;have U:decide ((J:Int)>=0)=true:=Xt (by omega);clear o l;go_enter func241,ntmps241
  go_wp2_with (first | (go_at_call 267;refine(t.out).mono ?_;rintro e w' ⟨rfl,a⟩;have a:=a.symm;subst a) | (go_at_call 237;refine(m.out).mono ?_;rintro e r ⟨rfl,g,c⟩;have Z:=Qa (K.out r _ g c);clear g c))
  refine(Zh _ _).mono ?_
  rintro z w' ⟨rfl,a⟩;have a:=a.symm;subst a;obtain⟨N,G,S,M⟩:=Z.out
  have y:=Qa (Xh G M);have P:=Qa (fun d=>QcP 2 (J:Int) (by omega) (by decide) d (by exact T) (fun k p=>by rcases p with p | p;exact Zl (Q.out k p) M.size;exact(G k p).2) S);clear G S M Z K m t;go_wp2_with fail
  refine(P.out _).mono ?_
  rintro z w2 V;rcases V with ⟨B,rfl,D⟩|⟨B,rfl,D⟩
  rotate_left
  ·exact absurd (Xr n) B
  have F:=Qa (STo.join y.out.1 y.out.2 D);clear B D P y;go_wp2
  refine Xz (v:=.tuple #[]) (by simp[results,results241,go_sem]) Yz (.inl ⟨E.out,Yz,?_⟩);have e:s.openS={ ({ s with H:=s.H++[true] }) with L:=({ s with H:=s.H++[true] }).L++[mkT 2 (J:Int) []] }:=by unfold JSt.openS;rw[u.out]
  rw[e]
  exact F.out
def JSt.freeC (s:JSt) (a:Int):Int:=match s.at a with
 | none=>1
 | some t=>Qv (s.want a 2 true) (if t.r<s.f.regs then 11 else 0)
def JSt.freeS (s:JSt) (a:Int):JSt:={ s with H:=s.H.set (match s.at a with | none=>0 | some t=>t.r.toNat) false }
theorem Qg8 {s:JSt}{a:Int}(h:s.want a 2 true≠0):s.freeC a=s.want a 2 true:=by
 unfold JSt.freeC
 cases e:s.at a with
 | none=>unfold JSt.want;rw[e]
 | some t=>show Qv _ _=_;unfold Qv;rw[Xr h]
theorem Qjt {A:Nat->Prop}{s:JSt}(a:Int) (hL:s.L.length<=80) (P:∀ k,A k->k<w.heap.size) (h:SAt w b O A s) :
 Calls prog 242 #[Pv b 0,Iv a] w fun e w'=>QO w b O A s (s.freeS a) (s.freeC a) e w':=by
 have H:=Qa h;have K:=Qa P;clear h P;have aa:∀ (k r:Int) (p:Option Addr) (l c:Nat) (w:World),(Instr.field 105 (.agg #[Iv k,Iv r,.slice p l c]) 1).run prog w=.ok (Iv r) w:=fun _ _ _ _ _ _=>by kernel_rfl
 go_enter func242,ntmps242
 go_wp2_with fail
 refine(Qad a 2 hL (fun k I=>K.out k (H.out.sub k I)) H.out).mono ?_
 rintro M w2 ⟨W,G⟩;have B:=Qa G;have N:=Qa (H.out.below G);clear G;rcases W with ⟨m,x,rfl,t,p,c,z,rfl,ht,C⟩|⟨m,rfl⟩
 rotate_left
 ·exact⟨Yz,QO.bad (Qg8 m) m (Yh H.out B.out)⟩
 have E:Hid (s.freeC a=if t.r<s.f.regs then 11 else 0):=by show _=_;unfold JSt.freeC Qv;rw[z];simp only[m,if_true]
 have j:hHas s.H t.r=true:=by
  obtain⟨t',q,e2,V⟩:=Z4 m
  rw[z] at q
  cases q
  exact V Yz
 have R:Hid (s.freeS a={ s with H:=QfT s.H t.r }):=by show _=_;unfold JSt.freeS QfT;rw[z,j];rfl
 obtain⟨pm,cm,hh,a1,c1,a2,c2,a3,c3,aL,cL,J⟩:=N.out.read
 obtain⟨-,T,U,-⟩:=J.cells
 clear J ht C z m j;obtain⟨X,u,d,i⟩:=N.out.setH (fun k I=>Zl (K.out k I) B.out.size)
 have q:=T.symm.trans u;simp only[Option.some.injEq,Value.pointer.injEq,Addr.mk.injEq,and_true] at q
 subst q;have Q:=Qa (QhP t.r d);have HS:=Qa i;clear d i u;simp only[Tv]
 generalize s.f.regs=F at U E;generalize t.r=D at E Q R |-;by_cases g:D<F
 ·rw[Xs g] at E
  have hg:decide (D>=F)=false:=Xu (by omega);clear g;go_wp2_with fail
  refine(Zf _ 11).mono ?_
  rintro M w' ⟨rfl,o⟩;subst o;exact⟨Yz,QO.bad E.out (by decide) (Yh H.out B.out)⟩
 ·rw[Xr g] at E
  have hg:decide (D>=F)=true:=Xt (by omega);clear g;go_wp2_with fail
  refine(Zh _ _).mono ?_
  rintro M w' ⟨rfl,o⟩;have o:=o.symm;subst o;go_wp2_with (go_at_call 269;refine(Q.out).mono ?_;rintro e S ⟨rfl,y,n⟩;have Z:=Qa (HS.out S _ y n);clear y n)
  exact Xz (v:=.tuple #[]) (by simp[results,results242,go_sem]) Yz (.inl ⟨E.out,Yz,by rw[R.out];exact Z.out.after B.out⟩)
def JSt.arrayC (s:JSt) (a b:Int):Int:=Qv (Qv (s.want a 2 true) (s.want b 1 false)) (QY s.L.length 1)
theorem Ql {a b:Int}(h:a≠0):Qv a b=a:=by unfold Qv;rw[Xr h]
theorem Qx {a b:Int}(h:a=0):Qv a b=b:=by unfold Qv;rw[Xs h]
theorem Qlw (a:Int) (g:-9223372036854775808<=a/\a<=9223372036854775807) (d:Nat):intsL.In (w.alloc (.cells #[Iv a] 3)) All [a] [.slice (some ⟨w.heap.size,0,none⟩) 1 d]:=by
 refine⟨_,d,Z,fun i x e=>?_⟩
 have k:i<1:=by simpa using (Zi e).1
 have b:i=0:=by omega
 subst b;simp at e
 subst e;have f:=Qe w #[Iv a] 3;refine⟨w.heap.size,0,[Iv a],Z,Y,XC f,fun j c=>?_,Z,g⟩
 have c:j<1:=c;match j,c with
 | 0,_=>exact Qb f 0 _ Z
 | j+1,h=>exact absurd h (by omega)
theorem Qkv (a b:Int) (l:-9223372036854775808<=a/\a<=9223372036854775807) (g:-9223372036854775808<=b/\b<=9223372036854775807) (d:Nat):intsL.In (w.alloc (.cells #[Iv a,Iv b] 3)) All [a,b] [.slice (some ⟨w.heap.size,0,none⟩) 2 d]:=by
 refine⟨_,d,Z,fun i x e=>?_⟩
 have k:i<2:=by simpa using (Zi e).1
 have f:=Qe w #[Iv a,Iv b] 3;match i,k with
 | 0,_ =>
   simp at e
   subst e;refine⟨w.heap.size,0,[Iv a],Z,Y,XC f,fun j c=>?_,Z,l⟩
   have c:j<1:=c;match j,c with
   | 0,_=>exact Qb f 0 _ Z
   | j+1,h=>exact absurd h (by omega)
 | 1,_ =>
   simp at e
   subst e;refine⟨w.heap.size,0,[Iv b],Z,Y,XC f,fun j c=>?_,Z,g⟩
   have c:j<1:=c;match j,c with
   | 0,_=>exact Qb f 1 _ Z
   | j+1,h=>exact absurd h (by omega)
 | i+2,h=>exact absurd h (by omega)
theorem QeK {s:JSt}{a:Int}:Qu (fun a=>s.want a 1 false) [a]=s.want a 1 false:=by
 show (if s.want a 1 false≠0 then s.want a 1 false else 0)=_;split
 ·rfl
 ·rename_i h;exact(Xq.1 h).symm
theorem Qi4 {s:JSt}{a b:Int}:Qu (fun a=>s.want a 1 false) [a,b]=Qv (s.want a 1 false) (s.want b 1 false):=by
 show (if s.want a 1 false≠0 then s.want a 1 false else Qu (fun a=>s.want a 1 false) [b])=_;rw[QeK]
 by_cases h:s.want a 1 false=0
 ·rw[Xr (by simpa using h),Qx h]
 ·rw[Xs h,Ql h]
theorem QbP {A:Nat->Prop}{s:JSt}(a:Int) (i:-9223372036854775808<=a/\a<=9223372036854775807) (d:Nat) (g:s.L.length<=80) (f:∀ k,O k->k<w.heap.size) (h:SAt w b O A s) :
 Calls prog 240 #[Pv b 0,.slice (some ⟨w.heap.size,0,none⟩) 1 d] (w.alloc (.cells #[Iv a] 3)) fun e w'=>ZG (s.want a 1 false) VNone e/\Below w.heap.size w w':=by
 have c:=Zd w (.cells #[Iv a] 3)
 have:=QbG (l:=[a]) Z (by simp) (Qlw a i d) g (fun k j=>Zl (f k j) c.size) (h.below c)
 rw[QeK] at this
 exact this.mono (fun e w' h=>⟨h.1,c.trans (h.2.mono c.size)⟩)
theorem Qe9 {A:Nat->Prop}{s:JSt}(a a':Int) (j:-9223372036854775808<=a/\a<=9223372036854775807) (f:-9223372036854775808<=a'/\a'<=9223372036854775807) (d:Nat) (i:s.L.length<=80) (g:∀ k,O k->k<w.heap.size) (h:SAt w b O A s) :
 Calls prog 240 #[Pv b 0,.slice (some ⟨w.heap.size,0,none⟩) 2 d] (w.alloc (.cells #[Iv a,Iv a'] 3)) fun e w'=>ZG (Qv (s.want a 1 false) (s.want a' 1 false)) VNone e/\Below w.heap.size w w':=by
 have c:=Zd w (.cells #[Iv a,Iv a'] 3)
 have:=QbG (l:=[a,a']) Z (by simp) (Qkv a a' j f d) i (fun k m=>Zl (g k m) c.size) (h.below c)
 rw[Qi4] at this
 exact this.mono (fun e w' h=>⟨h.1,c.trans (h.2.mono c.size)⟩)
theorem QgZ {A:Nat->Prop}{s:JSt}(a a':Int) (o:-9223372036854775808<=a'/\a'<=9223372036854775807) (hH:s.H.length<=16) (K:s.L.length<=80) (S:∀ k,A k->k<w.heap.size) (h:SAt w b O A s) :
 Calls prog 247 #[Pv b 0,Iv a,Iv a'] w fun e w'=>∀ t,(s.at a=some t\/(s.at a=none/\t=tInt))->QO w b O A s { s with L:=s.L++[mkT 4 t.r []] } (s.arrayC a a') e w':=by
 have H:=Qa h;have N:=Qa S;have W:=Qa o;clear h S o;have aa:∀ (k r:Int) (p:Option Addr) (l c:Nat) (w:World),(Instr.field 105 (.agg #[Iv k,Iv r,.slice p l c]) 1).run prog w=.ok (Iv r) w:=fun _ _ _ _ _ _=>by kernel_rfl
 go_enter func247,ntmps247
 go_wp2_with fail
 refine(Qad a 2 K (fun k g=>N.out k (H.out.sub k g)) H.out).mono ?_
 rintro y w2 ⟨z,u⟩;have J:=Qa u;have D:=Qa (H.out.below u);have j:=Qa (fun k g=>Zl (N.out k g) u.size);clear u;rcases z with ⟨f,x,rfl,t,p,c,I,rfl,ht,G⟩|⟨f,rfl⟩
 rotate_left
 ·exact⟨Z,fun t _=>QO.bad (by unfold JSt.arrayC;rw[Ql f,Ql f]) f (Yh H.out J.out)⟩
 have E:Hid (s.arrayC a a'=Qv (s.want a' 1 false) (QY s.L.length 1)):=by show _=_;unfold JSt.arrayC;rw[Qx f]
 have P:0<=t.r/\t.r<=1000:=by
  obtain⟨V,T,e2,X⟩:=Z4 f
  rw[I] at T
  cases T
  have:=ZZ (X Z)
  omega
 have m:=Qa I;have HR:=Qa P;clear ht G I f P;simp only[Tv]
 have C:=Qa (fun d=>QbP a' W.out d K (fun k g=>j.out k (D.out.sub k g)) D.out);go_wp2_with fail
 refine(C.out _).mono ?_
 rintro y w3 ⟨z,q⟩;have n:=Qa (J.out.trans (q.mono J.out.size));have H3:=Qa (D.out.below q);have B:=Qa (fun k g=>Zl (j.out k g) q.size);rcases z with ⟨f,x,rfl,hx⟩|⟨f,rfl⟩
 rotate_left
 ·exact⟨Z,fun t _=>QO.bad (by rw[E.out,Ql f]) f (Yh H.out n.out)⟩
 subst hx;have E2:Hid (s.arrayC a a'=QY s.L.length 1):=by show _=_;rw[E.out,Qx f]
 clear q f E C;have M:=Qa (fun d=>QcP 4 t.r HR.out (by decide) d K B.out H3.out);go_wp2_with fail
 refine(M.out _).mono ?_
 rintro y w4 U
 have F:Hid (∀ t,(s.at a=some t\/(s.at a=none/\t=tInt))->QO w b O A s { s with L:=s.L++[mkT 4 t.r []] } (s.arrayC a a') y w4):=fun V i=>by
  rcases i with i | ⟨i,-⟩
  ·have e:=i.symm.trans m.out;injection e with e
   subst e;rw[E2.out]
   exact U.after n.out
  ·rw[m.out] at i;cases i
 rcases U with ⟨Q,rfl,R⟩|⟨Q,rfl,R⟩
 rotate_left
 ·exact⟨Z,F.out⟩
 clear Q R M;go_wp2
 exact Xz (v:=.tuple #[]) (by simp[results,results247,go_sem]) Z F.out
theorem Qb5 {a:World}(h:Below B a w):Below B a w.drew:=⟨h.os,h.tape,h.output,h.size,h.block⟩
theorem Zx (h:Below w.drew.heap.size w.drew w'):Below w.heap.size w w':=⟨h.os,h.tape,h.output,h.size,h.block⟩
noncomputable def JSt.beC (s:JSt) (a:Int) (t:TT 6):Int:=match s.at a with | none=>1 | some v=>if ZR (v=t) then 0 else 9
theorem QhQ {s:JSt}{a:Int}{t:TT 6}(h:s.has a≠0):s.beC a t=s.has a:=by
 unfold JSt.has JSt.beC at *
 cases e:s.at a with
 | none=>rfl
 | some t=>rw[e] at h;exact absurd Z h
theorem Qlk {s:JSt}{a:Int}{t v:TT 6}(h:s.at a=some v):s.beC a t=if ZR (v=t) then 0 else 9:=by unfold JSt.beC;rw[h]
theorem QcN {A:Nat->Prop}{s:JSt}(a:Int){t:TT 6}(U:TIn w Q t p) (hL:s.L.length<=80) (j:∀ x∈s.L,x.count<=100000) (hO:∀ k,O k->k<w.heap.size) (h:SAt w b O A s) :
 Calls prog 246 #[Pv b 0,Iv a,Tv t p c] w fun e w'=>ZG (s.beC a t) VNone e/\Below w.heap.size w w':=by
 have F:=Zd w (.cells #[Iv t.kind,Iv t.r,.slice p t.len c] 105);have K:=Qa (h.below F);have l:=Qa F;have J:=Qa (U.below F);have n:Hid (Blk (w.alloc (.cells #[Iv t.kind,Iv t.r,.slice p t.len c] 105)) w.heap.size #[Iv t.kind,Iv t.r,.slice p t.len c] 105):=Blk.new _ _ _;have R:=Qa j;clear h F hO U j;go_enter func246,ntmps246
 go_upto_region 1 with fail
 generalize w.alloc (.cells #[Iv t.kind,Iv t.r,.slice p t.len c] 105)=m at K l J n |-;obtain⟨X,V⟩:∃ X,w.heap.size=X:=⟨_,Z⟩
 rw[V] at n |-
 rw[<-V]
 have C:Hid (∀ f,Below m.heap.size m f->Calls prog 270 #[Pv b 0,Iv a] f fun e w'=>ZG (s.has a) (Qmp w' A s a) e/\Below f.heap.size f w'):=fun f I=>Qcb a hL (K.out.below I)
 have D:Hid (∀ (v:TT 6) (q:Option Addr) (d:Nat) (f:World),s.at a=some v->TIn f (fun g=>¬ A g) v q->Below m.heap.size m f->Calls prog 261 #[Tv v q d,Tv t p c] f fun e w'=>ZL e (v=t)/\Below f.heap.size f w') :=
  fun v q d f E o I=>same_any 6 v t q p d c f o.all (J.out.below I).all (R.out v (QdU E).1)
 clear K J R;have y0:=Qb n.out 0 _ Z;have y1:=Qb n.out 1 _ Z;have y2:=Qb n.out 2 _ Z;clear n
 go_region_with (first
  | (go_at_call 270;refine(C.out _ (Qb5 Zr)).mono ?_;rintro S w2 ⟨⟨z,x,rfl,v,q,d,E,rfl,B,-⟩|⟨z,rfl⟩,N⟩;rotate_left;exact⟨Z,.inr ⟨by rw[QhQ z];exact z,by rw[QhQ z]⟩,l.out.trans ((Zx N).mono l.out.size)⟩;have i:Below m.heap.size m w2:=Zx N;have y3:=Qk y0 i;have y4:=Qk y1 i;have y5:=Qk y2 i;have M:=Qa i;have H:=Qa (Xh E B);clear E B z N i)
  | (go_at_call 261;refine(D.out _ _ _ _ H.out.1 H.out.2 M.out).mono ?_;rintro S w3 ⟨⟨W,rfl,u⟩,T⟩;have P:=Qa (M.out.trans (T.mono M.out.size));have y:=Qa u;clear T u)
  | (go_at_call 268;refine(QbU _ _ _).mono ?_;rintro S w' ⟨G,⟨o,rfl⟩|⟨o,rfl⟩⟩;rotate_left;exact⟨Z,ZG.bad (by rw[Qlk H.out.1,show ZR _=W from Bool.eq_iff_iff.2 (Qa5.trans y.out.symm),o];rfl) (by decide),by rw[G];exact l.out.trans (P.out.mono l.out.size)⟩;have G:=G.symm;subst G))
 all_goals
  have E9:Hid (s.beC a t=0):=by show _=_;rw[Qlk H.out.1,show ZR _=W from Bool.eq_iff_iff.2 (Qa5.trans y.out.symm),o];rfl
  have B9:Hid (Below w.heap.size w w3):=l.out.trans (P.out.mono l.out.size);clear o;go_wp2
  exact Xz (v:=.tuple #[]) (by simp[results,results246,go_sem]) Z ⟨ZG.good E9.out Z,B9.out⟩
theorem Qd6 {o:Oper}{a:Act}{w:World}{K:Act->World->Prop}{Q:Exit->Act->World->Prop}{E:Prop}(b:o.guard=none) (F:Nat) (x y:Operand) (t u:TypeId)
 (e:o.op=.call { callee:=.value (.func F),args:=#[x,y],argTypes:=#[t,u] }) (g:∀ (args:Array Value) (w:World),(callFunc F args).run P w=.ok (.enter F args) w) (v z:Value) (k:a.eval x=v) (f:a.eval y=z) {R:Ending->World->Prop} (C:Calls P F #[v,z] w R)
 (h:∀ en w',R en w'->Qnx K Q o a en w'):if Region.wanted o (yielded ops a.tmps)=true then Oper.wp P o a w K Q else E:=by
 have c:Region.wanted o (yielded ops a.tmps)=true:=by simp[Region.wanted,b]
 rw[Xs c]
 unfold Oper.wp
 have j:(execOp a.eval o).run P w=.ok (.enter F #[v,z]) w:=by
  have i:a.eval (.func F)=.func (.func F) #[] #[]:=rfl;unfold execOp;simp[e,resolve,invoke,Deferred.ofValue,k,f,g,i,Result.andThen]
 rw[j,Oper.upon_enter]
 refine C.mono fun en w' d=>?_
 have:=h en w' d
 cases en<;>exact this
theorem QbJ {s:JSt}:∀ {l m:List Int}{x y:List (TT 6)},s.fields l=some x->s.fields m=some y->s.fields (l++m)=some (x++y)
 | [],m,x,y,h1,h2=>by simp[JSt.fields] at h1;subst h1;exact h2
 | k::r,m,x,y,h1,h2=>by
   simp only[JSt.fields] at h1
   show s.fields (k::(r++m))=_;simp only[JSt.fields]
   cases hk:s.at k with
   | none=>simp[hk] at h1
   | some t =>
     simp only[hk] at h1
     cases hr:s.fields r with
     | none=>simp[hr] at h1
     | some l =>
       simp only[hr,Option.some.injEq] at h1
       subst h1;rw[QbJ hr h2]
       rfl
theorem Qf3 {s:JSt}{y:Int}{t:TT 6}{L:List (TT 6)}(a:l[k]?=some y) (b:s.at y=some t) (h:s.fields (l.take k)=some L):s.fields (l.take (k+1))=some (L++[t]):=by
 rw[XV,a]
 exact QbJ h (by simp[JSt.fields,b])
theorem Qdy {s:JSt}:∀ {l:List Int}{y:Int},y∈l->s.at y=none->s.fields l=none
 | k::r,y,a,h=>by
   simp only[JSt.fields]
   rcases List.mem_cons.1 a with rfl | a
   ·rw[h]
   ·rw[Qdy a h]
    cases s.at k<;>rfl
def JSt.tupleC (s:JSt) (a:Int) (args:List Int):Int:=Qv (s.want a 2 true) (match s.at a with
 | none=>0
 | some t=>match s.fields args with
   | none=>1
   | some l=>if 4<TT.height (n:=7) (mkT 3 t.r l) then 19 else QY s.L.length 1)
def JSt.tupleS (s:JSt) (a:Int) (args:List Int):JSt:={ s with L:=s.L++(match s.at a with
 | none=>[]
 | some t=>match s.fields args with
   | none=>[]
   | some l=>[TT.at (n:=7) 5 (mkT 3 t.r l)]) }
theorem Qf4 {R:Int}{r:Int}{l:List (TT 6)}(b:0<=r/\r<R) (c:l.length<=8) (h:∀ t∈l,t.check R=0):TT.check (n:=7) R (mkT 3 r l)=if 4<TT.height (n:=7) (mkT 3 r l) then 19 else 0:=by
 show (if 4<TT.height (n:=7) (mkT 3 r l) then 19 else TT.fault (n:=7) R (mkT 3 r l))=_
 have:TT.fault (n:=7) R (mkT 3 r l)=0:=by
  show (if ownC 3 r l.length R≠0 then ownC 3 r l.length R else Qu (TT.fault R) l)=0
  have:ownC 3 r l.length R=0:=by
   unfold ownC;rw[Xr (by omega),Xr (by omega),Xr (by omega),Xr (by omega),Xr (by omega)]
  rw[this]
  simp only[ne_eq,not_true_eq_false,if_false]
  exact QE.2 fun y a=>(QU.1 (h y a)).2
 rw[this]
structure TuS (w wc:World) (B lo:Nat) (A:Nat->Prop) (r:Int) (v:Value) (L:List (TT 6)):Prop where
 bel:Below w.heap.size w wc
 box:Blk wc B #[Iv 3,Iv r,v] 105
 row:TRq wc (fun g=>lo<=g) (fun g=>¬ (A g\/w.heap.size<=g)) v L
 lo1:B<lo
 lo2:lo<=wc.heap.size
 far:w.heap.size<=B
section
variable {w wc w9:World}{B lo:Nat}{A:Nat->Prop}{r:Int}{v:Value}{L:List (TT 6)}
theorem TRq.below {w:World}{v:Value}{L:List (TT 6)}(h:TRq w O Q v L) (k:Below w.heap.size w w'):TRq w' O Q v L:=h.keep (fun g b _=>k.block g b) (fun _ a=>h.own a) (fun _ h _=>h)
theorem TuS.below (h:TuS w wc B lo A r v L) (k:Below wc.heap.size wc w9):TuS w w9 B lo A r v L :=
 ⟨h.bel.trans (k.mono h.bel.size),h.box.below k,h.row.below k,h.lo1,Zt h.lo2 k.size,h.far⟩
theorem TuS.push {xs:List Value}{t:TT 6}(h:TuS w wc B lo A r (.slice a L.length c) L) (j:wc.ownsRow 0 105 3 (.slice a L.length c) L.length xs) (ht:(Lay.tt 6).In wc (fun g=>¬ (A g\/w.heap.size<=g)) t [Iv t.kind,Iv t.r,.slice p t.len d])
 (U:w9.ownsRow 0 105 3 (.slice (some ⟨g,0,none⟩) (L.length+1) cap) (L.length+1) (xs++[Iv t.kind,Iv t.r,.slice p t.len d])) (n:wc.grownBy w9 (Value.slice a L.length c).ownBlock) (z:(Value.slice a L.length c).ownBlock=some g\/g=wc.heap.size) :
 w9.cell? ⟨B,2,none⟩=some (.slice a L.length c)/\w9.frozen? ⟨B,2,none⟩=false/\TuS w (w9.setCell ⟨B,2,none⟩ (.slice (some ⟨g,0,none⟩) (L.length+1) cap)) B lo A r (.slice (some ⟨g,0,none⟩) (L.length+1) cap) (L++[t]):=by
 have aa:=n.size;have q:=h.lo1;have M:=h.lo2;have F:=h.box.lt;have T:=h.bel.size;have b:∀ k,(Value.slice a L.length c).ownBlock=some k->lo<=k:=fun k f=>h.row.own f;have D:Blk w9 B #[Iv 3,Iv r,.slice a L.length c] 105:=(n.block B F (fun e=>by have:=b B e.symm;omega)).trans h.box
 have o:lo<=g:=by
  rcases z with z | z
  ·exact b g z
  ·omega
 have G:g≠B:=by omega
 have H:=h.far
 have u:∀ k,k<w.heap.size->(w9.setCell ⟨B,2,none⟩ (.slice (some ⟨g,0,none⟩) (L.length+1) cap)).heap[k]?=wc.heap[k]?:=fun k f=>by
  rw[Xd _ _ _ _ (show k≠B by omega),n.block k (by omega) (fun e=>by have:=b k e.symm;omega)]
 refine⟨Qb D 2 _ Z,Qj D 2,⟨⟨n.os.trans h.bel.os,n.tape.trans h.bel.tape,n.output.trans h.bel.output,by simp;omega,fun k f=>(u k f).trans (h.bel.block k f)⟩,?_,?_,q,by simp;omega,H⟩⟩
 ·have:=Qh D 2 (.slice (some ⟨g,0,none⟩) (L.length+1) cap)
  simpa using this
 ·obtain⟨m,I,q2,W⟩:=h.row
  have e:m=xs:=by
   obtain⟨e1,V⟩:=I
   obtain⟨f1,X⟩:=j
   rcases V with ⟨y,Q⟩|⟨g1,O,K,y,Q,e5,e6,e7,e8,e9⟩
   ·have:L.length=0:=Q
    rw[Xf.1 (show m.length=0 by rw[e1,this]),Xf.1 (show xs.length=0 by rw[f1,this])]
   ·rcases X with ⟨v,S⟩|⟨g2,R,N,v,S,J,f6,f7,f8,f9⟩
    ·rw[v] at y;cases y
    ·rw[y] at v
     cases v
     rw[e5] at J
     cases J
     rw[<-e9,<-f9]
  subst e;refine⟨m++[Iv t.kind,Iv t.r,.slice p t.len d],?_,fun k f=>?_,?_⟩
  ·rw[List.length_append]
   exact Qe5 U (Xd _ _ _ _ G)
  ·simp[Value.ownBlock] at f
   subst f;exact o
  ·have l:∀ {x:TT 6} {C:List Value},(Lay.tt 6).In wc (fun g=>¬ (A g\/w.heap.size<=g)) x C->(Lay.tt 6).In (w9.setCell ⟨B,2,none⟩ (.slice (some ⟨g,0,none⟩) (L.length+1) cap)) (fun g=>¬ (A g\/w.heap.size<=g)) x C:=fun j=>(Lay.tt 6).keep (fun k f _=>u k (Nat.lt_of_not_le (fun e=>f (.inr e)))) (fun _ h _=>h) j;refine QcV (s:=3) (P:=fun x C=>(Lay.tt 6).In _ _ x C) I.1 (fun i x j=>l (W i x j)) (fun i x j=>?_);have hi:i<1:=by simpa using (Zi j).1
   have E:i=0:=by omega
   subst E;simp at j
   subst j;exact l ht
end
theorem QdA {w:World}{v:Value}{xs:List Value}(h:w.ownsRow 0 e s v n xs) (i:Below w.heap.size w w'):w'.ownsRow 0 e s v n xs:=by
 obtain⟨d,f⟩:=h
 refine⟨d,?_⟩
 rcases f with j | ⟨g,a,b,l,k,c,r⟩
 ·exact .inl j
 ·exact .inr ⟨g,a,b,l,k,(i.block g (XC c)).trans c,r⟩
theorem TuS.lin {w wc:World}{B lo:Nat}{A:Nat->Prop}{r:Int}{L:List (TT 6)}(h:TuS w wc B lo A r (.slice a N c) L) (t:∀ k,A k->k<w.heap.size):LIn wc (fun g=>¬ A g) L a/\N=L.length/\∀ x∈L,x.ok:=by
 obtain⟨d,f,e,v,b,-⟩:=h.row.form
 simp only[Value.slice.injEq] at e
 obtain⟨rfl,rfl,rfl⟩:=e
 have s:=h.lo1;have y:=h.far;refine⟨fun i x j=>?_,Z,fun x j=>?_⟩
 ·obtain⟨g,d,f,e,o,l,m,n,p⟩:=b i x j
  subst e;have z:lo<=g:=h.row.own Z;refine⟨g,0,d,f,Z,fun e=>by have:=t g e;omega,?_,?_,?_,n.mono (fun k u _ e=>u (.inl e))⟩
  ·rw[XK];exact o
  ·rw[XK];exact l
  ·rw[XK];exact m
 ·obtain⟨i,q,e⟩:=List.mem_iff_getElem.1 j
  obtain⟨g,d,f,e,o,l,m,n,p⟩:=b i x (by rw[Zg q,e])
  exact p
theorem Qh9 {r:Int}{l:List (TT 6)}(h:∀ x∈l,x.count<=4681) (c:l.length<=8):TT.count (n:=7) (mkT 3 r l)<=100000:=by
 show 1+(l.map TT.count).sum<=100000;have a:=sum_le_mul (l.map TT.count) 4681 (fun x d=>by obtain⟨y,b,rfl⟩:=List.mem_map.1 d;exact h y b);rw[XN] at a
 have e:l.length*4681<=8*4681:=Xp _ c;omega
theorem Qiz {w:World}{A:Nat->Prop}(e:∀ k,A k->k<w.heap.size){r:Int}{L:List (TT 6)}(h:0<=r/\r<=1000) (i:¬ 4<TT.height (n:=7) (mkT 3 r L)) (f:LIn w (fun g=>¬ A g) L p) (a:∀ x∈L,x.ok) :
 (Qp 6).In (w.alloc (.cells #[Iv 3,Iv r,.slice p L.length c] 105)) (fun g=>¬ A g) [TT.at (n:=7) 5 (mkT 3 r L)] [.slice (some ⟨w.heap.size,0,none⟩) 1 d]:=by
 have b:TT.height (n:=7) (mkT 3 r L)<=5:=by omega
 have:=Qd0 (t:=TT.at (n:=7) 5 (mkT 3 r L)) (p:=p) (c:=c) (d:=d) e (TIn.at 5 b (LIn.tree f)) (TT.at_ok 5 ⟨⟨by show -9223372036854775808<=r;omega,by show r<=9223372036854775807;omega⟩,a⟩)
 rw[TT.at_kind,TT.at_r,TT.at_len 5 _ b] at this
 exact this
theorem enters_value:Qag 270:=fun _ _=>by kernel_rfl
theorem Qhq {w:World}{A:Nat->Prop}{s:JSt}(a:Int){args:List Int}(hN:args.length=N) (ar:N<=8) (hl:intsL.In w Q args [.slice pa N ca]) (hJ:JOk s) (hA:∀ k,A k->k<w.heap.size) (h:SAt w b O A s) :
 Calls prog 243 #[Pv b 0,Iv a,.slice pa N ca] w fun e w'=>QO w b O A s (s.tupleS a args) (s.tupleC a args) e w':=by
 have ay:∀ (k r:Int) (p:Option Addr) (l c:Nat) (w:World),(Instr.field 105 (.agg #[Iv k,Iv r,.slice p l c]) 1).run prog w=.ok (Iv r) w:=fun _ _ _ _ _ _=>by kernel_rfl
 obtain⟨i0,hi,al,an,aq⟩:=pInfoT
 have H:=Qa h;have HA:=Qa hA;have HO:Hid (∀ k,O k->k<w.heap.size):=fun k W=>hA k (h.sub k W);have HL:=Qa hl;have HN:=Qa hN;have HJ:=Qa hJ;have hL:=hJ.vals;clear h hA hl hN hJ;go_enter func243,ntmps243
 go_wp2_with fail
 refine(Qad a 2 hL HO.out H.out).mono ?_
 rintro e' w2 ⟨hO,b2⟩;have HB:=Qa b2;clear b2;rcases hO with ⟨j,x,rfl,t,p,c,ha,rfl,ht,J⟩|⟨j,rfl⟩
 rotate_left
 ·exact⟨Z,QO.bad (by unfold JSt.tupleC;rw[Ql j]) j (Yh H.out HB.out)⟩
 have hr:0<=t.r/\t.r<s.H.length:=by
  obtain⟨t',e1,e2,e3⟩:=Z4 j
  rw[ha] at e1
  cases e1
  exact ZZ (e3 Z)
 have HR:=Qa hr;have E:Hid (s.tupleC a args=match s.fields args with | none=>1 | some l=>if 4<TT.height (n:=7) (mkT 3 t.r l) then 19 else QY s.L.length 1):=by show _=_;unfold JSt.tupleC;rw[Qx j,ha]
 have ES:Hid (∀ l,s.fields args=some l->s.tupleS a args={ s with L:=s.L++[TT.at (n:=7) 5 (mkT 3 t.r l)] }):=fun l hl=>by unfold JSt.tupleS;rw[ha,hl]
 clear hr j ha ht J;simp only[Tv]
 go_upto_region 1 with fail
 have T0:Hid (TuS w (w2.alloc (.cells #[Iv 3,Iv t.r,Nv] 105)) w2.heap.size (w2.heap.size+1) A t.r (Nv) []) :=
  ⟨HB.out.trans ((Zd _ _).mono HB.out.size),Blk.new _ _ _,⟨[],⟨Z,.inl ⟨Z,Z⟩⟩,fun g hg=>by simp[Value.ownBlock] at hg,fun i x hx=>by simp at hx⟩,Nat.lt_succ_self _,by simp,HB.out.size⟩
 generalize w2.alloc (.cells #[Iv 3,Iv t.r,Nv] 105)=w3 at T0 |-;generalize w2.heap.size=B at T0 |-;generalize t.r=r at T0 HR E ES |-;clear HB;go_wp2
 go_loopw [16] (fun i wr=>∃ (k:Nat) (v:Value) (L:List (TT 6)),k<=N/\i=Iv k/\TuS w wr B (B+1) A r v L/\s.fields (args.take k)=some L) (fun i _=>N - (intOf i).toNat)
 case atStart=>exact⟨0,_,_,Xb _,Z,T0.out,Z⟩
 case round =>
  clear T0;obtain⟨k,v,L,W,rfl,hT,hf⟩:=hrel
  have HF:=Qa hf
  have aa:Hid (L.length=k):=by
   show _=_
   have:=(QaF hf).1
   rw[List.length_take,HN.out] at this
   omega
  have X:L.length<=8:=by have:=aa.out;omega
  obtain⟨aL,V,rfl,az,-,xs,ad⟩:=hT.row.form
  have D:=Qa hT;have ao:=Qa ad;clear hf hT ad;by_cases ab:k<N
  ·have af:(k:Int)<N:=by omega
   have R:k<args.length:=by rw[HN.out];exact ab
   obtain⟨g,o,rfl,-,hg,U⟩:=ZH HL.out R
   obtain⟨y,hy⟩:∃ y,args[k]?=some y:=⟨_,Zg R⟩
   rw[show args.getD k 0=y by rw[List.getD_eq_getElem?_getD,hy];rfl] at U
   have HX:=Qa hy;have y0:=Qk U D.out.bel;have z2:=Qb D.out.box 2 _ Z;clear U R hy;go_upto_region 4 with fail
   have BD:Hid (Below w.heap.size w wr.drew):=Qb5 D.out.bel
   go_region_law (first
    | (refine Qd6 Z 270 (.tmp 22) (.tmp 23) 234 3 Z enters_value (.pointer (some ⟨b,0,none⟩)) (.int .i64 y) (by simp[Act.eval,Act.put]) (by simp[Act.eval,Act.put]) (Qcb y hL (H.out.more HO.out BD.out)) ?_
       rintro e' K ⟨hO,S⟩;rcases hO with ⟨j,x,rfl,u,q,d,hu,rfl,aj,J⟩|⟨j,rfl⟩
       rotate_left
       ·have ae:s.at y=none:=by
         unfold JSt.has at j
         cases e:s.at y with
         | none=>rfl
         | some t=>rw[e] at j;exact absurd Z j
        exact⟨Z,QO.bad (d:=s.has y) (by rw[E.out,Qdy (Zm HX.out) ae];unfold JSt.has;rw[ae]) j (Yh H.out (BD.out.trans (S.mono BD.out.size)))⟩
       have T4:=Qa (D.out.below (Zx S));have HU:=Qa hu;have I4:Hid ((Lay.tt 6).In K (fun g=>¬ (A g\/w.heap.size<=g)) u [Iv u.kind,Iv u.r,.slice q u.len d]):=⟨q,d,Z,aj,J⟩;have z4:=Qb T4.out.box 2 _ Z;have am:=T4.out.box.lt;have C:=Qa (QdA ao.out (Zx S));clear hu aj J S j;dsimp only [Qnx])
    | (refine step_append_lies _ Z (.tmp 21) (.tmp 25) 80 Z 0 105 i0 (.agg #[.int .i64 0,.int .i64 0,.slice none 0 0]) 3 40 pUnderT hi al an aq Z (by decide) (.slice aL L.length V) L.length xs (by simp[Act.eval,Act.put]) (C.out.alloc _) ⟨K.heap.size,0,none⟩ 1 1 [.int .i64 u.kind,.int .i64 u.r,.slice q u.len d] (by simp[Act.eval,Act.put]) Z (Qk0 _ _ _) (QlS _ _ _ _ _) (by decide) (by unfold maxLen;omega) (by omega) (Xb _) (K.heap.size+1) (by simp) ?_
       intro g2 ag w9 h1 h2 h3 G;have b5:=Zd K (.cells #[Iv u.kind,Iv u.r,.slice q u.len d] 105);obtain⟨z9,f9,t9⟩:=(T4.out.below b5).push (QdA C.out b5) (Ya I4.out b5) h1 h2 (by simpa using h3)
       have T9:=Qa t9;clear h1 h2 h3 G b5 t9))
   all_goals
    have FF:=Qa (Qf3 HX.out HU.out HF.out);clear T4 HU I4 z4 C z9 f9 am;generalize w9.setCell ⟨B,2,none⟩ (.slice (some ⟨g2,0,none⟩) (L.length+1) ag)=ax at T9 |-;go_wp2
    go_roundw
    case rel=>exact⟨k+1,_,L++[u],ab,by go_num,T9.out,FF.out⟩
    case measure=>simp[intOf];omega
  ·have av:k=N:=by omega
   have af:¬ (k:Int)<N:=by omega
   have I:s.fields args=some L:=by
    have:=HF.out
    rwa [XO (by rw[HN.out];omega)] at this
   obtain⟨z,-,M⟩:=D.out.lin HA.out
   have T:∀ x∈L,x.check s.H.length=0:=fun x hx=>HJ.out.types x ((QaF I).2 x hx);have EC:Hid (TT.check (n:=7) (s.H.length:Int) (mkT 3 r L)=if 4<TT.height (n:=7) (mkT 3 r L) then 19 else 0):=Qf4 HR.out X T;have E2:Hid (s.tupleC a args=if 4<TT.height (n:=7) (mkT 3 r L) then 19 else QY s.L.length 1):=by show _=_;rw[E.out,I]
   have ap:=Qa (ES.out L I);have ah:=Qa (Xh z M);have ak:Hid (TT.count (n:=7) (mkT 3 r L)<=100000):=Qh9 (fun x hx=>Z1 (T x hx)) X;have H9:=Qa (H.out.below D.out.bel);obtain⟨pm,cm,hh,a1,c1,a2,c2,a3,c3,aw,au,RR⟩:=H9.out.read
   obtain⟨-,q1,-⟩:=RR.cells
   have CL:Hid (∀ m,Calls prog 271 #[Pv hh 0] (wr.drewN m) fun e w'=>e=.returned (Iv (s.H.length:Int))/\w'=wr.drewN m):=fun m=>Qkk (show Qo (wr.drewN m) hh s.H from RR.held);have CC:Hid (Calls prog 223 #[.agg #[Iv 3,Iv r,.slice aL L.length V],Iv (s.H.length:Int)] wr.drew fun e w'=>e=.returned (Iv (TT.check (n:=7) (s.H.length:Int) (mkT 3 r L)))/\Below wr.drew.heap.size wr.drew w'):=check_any 7 (mkT 3 r L) aL V _ wr.drew (TIn.all (LIn.tree z).drew) ak.out;obtain⟨z0,z1,z2⟩:=Qlc D.out.box
   clear I z M T RR HF aa;generalize TT.check (n:=7) (s.H.length:Int) (mkT 3 r L)=ck at EC CC;generalize (s.H.length:Int)=nH at CL CC;go_upto_region 6 with fail
   go_region_with (first
    | (go_at_call 271;refine(CL.out _).mono ?_;rintro e w' ⟨rfl,P⟩;have P:=P.symm;subst P)
    | (go_at_call 223;refine(CC.out).mono ?_;rintro e K ⟨rfl,S⟩;have B4:=Qa (Zx S);clear S)
    | (go_at_call 268;refine(QbU _ _ _).mono ?_;rintro e' w' ⟨P,⟨hq,rfl⟩|⟨hq,rfl⟩⟩;rotate_left;exact⟨Z,QO.bad (d:=19) (by rw[E2.out];have f:ck≠0:=(by simpa using hq);rw[EC.out] at f;by_cases G:4<TT.height (n:=7) (mkT 3 r L);rw[Xs G];rw[Xr G] at f;exact absurd Z f) (by decide) (by rw[P];exact Yh H.out (D.out.bel.trans (B4.out.mono D.out.bel.size)))⟩;have P:=P.symm;subst P))
   all_goals
    have f:ck=0:=by simpa using hq
    have G:¬ 4<TT.height (n:=7) (mkT 3 r L):=fun G=>by
     have:=EC.out
     rw[Xs G,f] at this
     cases this
    have E3:Hid (s.tupleC a args=QY s.L.length 1):=by show _=_;rw[E2.out,Xr G]
    have T5:=Qa (D.out.below B4.out);have ac:Hid (∀ k,A k->k<K.heap.size):=fun k W=>Zl (HA.out k W) T5.out.bel.size
    have CM:Hid (∀ d,Calls prog 244 #[Pv b 0,.slice (some ⟨K.heap.size,0,none⟩) 1 d] (K.alloc (.cells #[Iv 3,Iv r,.slice aL L.length V] 105)) fun e w'=>QO w b O A s (s.tupleS a args) (s.tupleC a args) e w'):=fun d=>by
     have b1:=Zd K (.cells #[Iv 3,Iv r,.slice aL L.length V] 105);have ai:=T5.out.bel.trans (b1.mono T5.out.bel.size);rw[ap.out,E3.out]
     exact(Qax (l:=[TT.at (n:=7) 5 (mkT 3 r L)]) Z (by simp) (Qiz (c:=V) (d:=d) ac.out (by have:=HR.out;have:=HJ.out.regs;omega) G (ah.out.1.below B4.out) ah.out.2) hL (fun k W=>Zl (ac.out k W) b1.size) (H.out.below ai)).mono (fun e w' hd=>hd.after ai)
    obtain⟨y0,y1,y2⟩:=Qlc T5.out.box
    clear hq f G CC CL E3;go_wp2_with fail
    refine(CM.out _).mono ?_
    rintro e' w5 hd;have F:=Qa hd;rcases hd with ⟨h1,rfl,h3⟩|⟨h1,rfl,h3⟩
    rotate_left
    ·exact⟨Z,F.out⟩
    clear h1 h3 CM;go_wp2
    exact Xz (v:=.tuple #[]) (by simp[results,results243,go_sem]) Z F.out
def Lay.listC {α:Type}(A:Lay α):Lay (List α) where
 size:=1
 In:=fun w O l cs=>(∃ a c,cs=[.slice a l.length c]/\l.length<=c)/\A.list.In w O l cs
 len:=fun h=>A.list.len h.2
 keep:=fun hb hl h=>⟨h.1,A.list.keep hb hl h.2⟩
def Lay.Sub {α:Type}(A B:Lay α):Prop:=A.size=B.size/\∀ {w:World}{O:Nat->Prop}{x:α}{cs:List Value},A.In w O x cs->B.In w O x cs
theorem Lay.Sub.refl {α:Type}(A:Lay α):Lay.Sub A A:=⟨Z,id⟩
theorem Lay.Sub.listC {α:Type}(A:Lay α):Lay.Sub A.listC A.list:=⟨Z,fun h=>h.2⟩
theorem Lay.Sub.pair {α β:Type}{A a:Lay α}{B b:Lay β}(h:Lay.Sub A a) (k:Lay.Sub B b):Lay.Sub (A.pair B) (a.pair b) :=
 ⟨by show A.size+B.size=a.size+b.size;rw[h.1,k.1],fun ⟨f,g,e,c,d⟩=>⟨f,g,e,h.2 c,k.2 d⟩⟩
theorem Lay.Sub.list {α:Type}{A b:Lay α}(h:Lay.Sub A b):Lay.Sub A.list b.list :=
 ⟨Z,fun ⟨a,c,e,k⟩=>⟨a,c,e,fun i x p=>by
  obtain⟨g,o,f,m,l,d,n,j⟩:=k i x p
  exact⟨g,o,f,m,l,d,by rw[<-h.1];exact n,h.2 j⟩⟩⟩
section
open Go.Deep
theorem Lay.Sub.via {α β:Type}{A a:Lay α}(h:Lay.Sub A a) (f:β->α):Lay.Sub (A.via f) (a.via f):=⟨h.1,fun k=>h.2 k⟩
theorem Qy.listC {α:Type}{A:Lay α}{B:α->Prop}(h:P.underlying t=some (.slice e)) (p:P.cellsOf t=1) (v:Qy P e A n B) (D:0<A.size) (g:0<P.bytesOf e):Qy P t A.listC n (fun l=>l.length<1152921504606846976) :=
 ⟨p,fun {H y w i f r o I x} C j u=>by
  obtain⟨l,k,s⟩:=(Qy.list h p v D g).2 C j u
  refine⟨l,⟨?_,k⟩,s⟩
  obtain⟨a,c,e,_⟩:=k
  refine⟨a,c,e,?_⟩
  rcases DataW.trod_slice h j with ⟨b,_⟩|⟨G,z,E,d,m,q,_,b,_,_,F,_⟩
  ·rw[e] at b
   simp at b
   simp[b.2.1]
  ·rw[e] at b
   simp at b
   omega⟩
abbrev intsC:Lay (List Int):=Lay.int.listC
def insC:Lay Qs:=(Lay.int.pair (Lay.int.pair (Lay.int.pair (Lay.int.pair (Lay.int.pair (Lay.int.pair (intsC.pair intsC))))))).via (fun x=>(x.op,x.a,x.b,x.c,x.k,x.n,x.regs,x.args))
def toC:Lay MTo:=(Lay.int.pair (intsC.pair intsC)).via (fun x=>(x.block,x.regs,x.args))
def endC:Lay ZC:=(Lay.int.pair (Lay.int.pair (toC.pair (toC.pair intsC)))).via (fun x=>(x.op,x.a,x.yes,x.no,x.args))
def Qbh (n:Nat):Lay (MBlock n):=(Lay.int.pair ((Qp n).pair (insC.list.pair endC))).via (fun x=>(x.regs,x.params,x.code,x.fin))
def QeJ (n:Nat):Lay (MFunc n):=(Lay.int.pair ((Qp n).pair ((Qp n).pair (Qbh n).list))).via (fun x=>(x.regs,x.params,x.results,x.blocks))
abbrev QhY (n:Nat):Lay (List (MFunc n)):=(QeJ n).list
theorem ints_sub:Lay.Sub intsC intsL:=Lay.Sub.listC _
theorem ins_sub:Lay.Sub insC insL:=.via (.pair (.refl _) (.pair (.refl _) (.pair (.refl _) (.pair (.refl _) (.pair (.refl _) (.pair (.refl _) (.pair ints_sub ints_sub))))))) _
theorem to_sub:Lay.Sub toC toL:=.via (.pair (.refl _) (.pair ints_sub ints_sub)) _
theorem end_sub:Lay.Sub endC endL:=.via (.pair (.refl _) (.pair (.refl _) (.pair to_sub (.pair to_sub ints_sub)))) _
theorem Qjh (n:Nat):Lay.Sub (Qbh n) (Zn n):=.via (.pair (.refl _) (.pair (.refl _) (.pair (.list ins_sub) end_sub))) _
theorem Qj3 (n:Nat):Lay.Sub (QeJ n) (ZS n):=.via (.pair (.refl _) (.pair (.refl _) (.pair (.refl _) (.list (Qjh n))))) _
theorem QfD (n:Nat):Lay.Sub (QhY n) (QaN n):=.list (Qj3 n)
section
variable {w:World}{O:Nat->Prop}{cs:List Value}
theorem QjB {x:Qs}(h:insC.In w O x cs):∃ a c b d,cs=[Iv x.op,Iv x.a,Iv x.b,Iv x.c,Iv x.k,Iv x.n,.slice a x.regs.length c,.slice b x.args.length d]/\intsL.In w O x.regs [.slice a x.regs.length c]/\intsL.In w O x.args [.slice b x.args.length d]/\x.regs.length<=c/\x.args.length<=d:=by
 obtain⟨_,_,rfl,⟨rfl,_⟩,_,_,rfl,⟨rfl,_⟩,_,_,rfl,⟨rfl,_⟩,_,_,rfl,⟨rfl,_⟩,_,_,rfl,⟨rfl,_⟩,_,_,rfl,⟨rfl,_⟩,_,_,rfl,⟨⟨a,c,rfl,f⟩,g⟩,⟨b,d,rfl,e⟩,i⟩:=h
 exact⟨a,c,b,d,Z,g,i,f,e⟩
end
theorem QbR (n:Nat):Qy prog 76 intsC n (fun l=>l.length<1152921504606846976):=Qy.listC underlying76 (by kernel_rfl) (QaR n) (by decide) (by rw[show prog.bytesOf 3=8 from by kernel_rfl];decide)
theorem QhN (n:Nat):Qy prog 78 insC n (fun x=>x.regs.length<1152921504606846976/\x.args.length<1152921504606846976):=by
 have h:=Qy.struct (n:=n) (A:=Lay.int.pair (Lay.int.pair (Lay.int.pair (Lay.int.pair (Lay.int.pair (Lay.int.pair (intsC.pair intsC))))))) underlying78 (by kernel_rfl) (QH.cons Z Z (QaR n) (QH.cons Z Z (QaR n) (QH.cons Z Z (QaR n) (QH.cons Z Z (QaR n) (QH.cons Z Z (QaR n) (QH.cons Z Z (Ql6 n) (QH.cons Z Z (QbR n) (QH.last Z Z (QbR n)))))))));have e:=h.via (f:=fun x:Qs=>(x.op,x.a,x.b,x.c,x.k,x.n,x.regs,x.args)) (fun d=>⟨d.1,d.2.1,d.2.2.1,d.2.2.2.1,d.2.2.2.2.1,d.2.2.2.2.2.1,d.2.2.2.2.2.2.1,d.2.2.2.2.2.2.2⟩) (fun d=>rfl);exact⟨e.1,fun m l g=>by obtain⟨d,i,j⟩:=e.2 m l g;exact⟨d,i,j.2.2.2.2.2.2⟩⟩
theorem QgB (n:Nat):Qy prog 82 toC n (fun x=>x.regs.length<1152921504606846976/\x.args.length<1152921504606846976):=by
 have h:=Qy.struct (n:=n) (A:=Lay.int.pair (intsC.pair intsC)) underlying82 (by kernel_rfl) (QH.cons Z Z (QaR n) (QH.cons Z Z (QbR n) (QH.last Z Z (QbR n))));have a:=h.via (f:=fun x:MTo=>(x.block,x.regs,x.args)) (fun d=>⟨d.1,d.2.1,d.2.2⟩) (fun d=>rfl);exact⟨a.1,fun i g b=>by obtain⟨d,c,e⟩:=a.2 i g b;exact⟨d,c,e.2⟩⟩
theorem Qiu (n:Nat):Qy prog 84 endC n (fun x=>(x.yes.regs.length<1152921504606846976/\x.yes.args.length<1152921504606846976)/\(x.no.regs.length<1152921504606846976/\x.no.args.length<1152921504606846976)/\x.args.length<1152921504606846976):=by
 have h:=Qy.struct (n:=n) (A:=Lay.int.pair (Lay.int.pair (toC.pair (toC.pair intsC)))) underlying84 (by kernel_rfl) (QH.cons Z Z (QaR n) (QH.cons Z Z (QaR n) (QH.cons Z Z (QgB n) (QH.cons Z Z (QgB n) (QH.last Z Z (QbR n))))));have b:=h.via (f:=fun x:ZC=>(x.op,x.a,x.yes,x.no,x.args)) (fun d=>⟨d.1,d.2.1,d.2.2.1,d.2.2.2.1,d.2.2.2.2⟩) (fun d=>rfl);exact⟨b.1,fun j i c=>by obtain⟨d,e,g⟩:=b.2 j i c;exact⟨d,e,g.2.2⟩⟩
theorem Qg1 (n:Nat):Qy prog 79 insC.list n (fun l=>l.length<1152921504606846976):=Qy.list underlying79 (by kernel_rfl) (QhN n) (by decide) (by rw[show prog.bytesOf 78=96 from by kernel_rfl];decide)
theorem Qf2 (n:Nat):Qy prog 86 (Qbh n) n (fun _=>True):=by
 have h:=Qy.struct (n:=n) (A:=Lay.int.pair ((Qp n).pair (insC.list.pair endC))) underlying86 (by kernel_rfl) (QH.cons Z Z (QaR n) (QH.cons Z Z (QfW n) (QH.cons Z Z (Qg1 n) (QH.last Z Z (Qiu n)))));have a:=h.via (f:=fun x:MBlock n=>(x.regs,x.params,x.code,x.fin)) (fun d=>⟨d.1,d.2.1,d.2.2.1,d.2.2.2⟩) (fun d=>rfl);exact⟨a.1,fun g e b=>by obtain⟨d,c,i⟩:=a.2 g e b;exact⟨d,c,Y⟩⟩
theorem Qfo (n:Nat):Qy prog 87 (Qbh n).list n (fun l=>l.length<1152921504606846976):=Qy.list underlying87 (by kernel_rfl) (Qf2 n) (by show 0<12;decide) (by rw[show prog.bytesOf 86=208 from by kernel_rfl];decide)
theorem Qhe (n:Nat):Qy prog 89 (QeJ n) n (fun _=>True):=by
 have h:=Qy.struct (n:=n) (A:=Lay.int.pair ((Qp n).pair ((Qp n).pair (Qbh n).list))) underlying89 (by kernel_rfl) (QH.cons Z Z (QaR n) (QH.cons Z Z (QfW n) (QH.cons Z Z (QfW n) (QH.last Z Z (Qfo n)))));have a:=h.via (f:=fun x:MFunc n=>(x.regs,x.params,x.results,x.blocks)) (fun d=>⟨d.1,d.2.1,d.2.2.1,d.2.2.2⟩) (fun d=>rfl);exact⟨a.1,fun g e b=>by obtain⟨d,c,i⟩:=a.2 g e b;exact⟨d,c,Y⟩⟩
theorem QfH (n:Nat):Qy prog 22 (QhY n) n (fun l=>l.length<1152921504606846976):=Qy.list underlying22 (by kernel_rfl) (Qhe n) (by show 0<4;decide) (by rw[show prog.bytesOf 89=80 from by kernel_rfl];decide)
theorem QeF (n:Nat):Qy prog 24 (QhY n) n (fun _=>True):=by
 have h:=Qy.struct (n:=n) (A:=QhY n) underlying24 (by kernel_rfl) (QH.last Z Z (QfH n));exact⟨h.1,fun e c a=>by obtain⟨d,b,f⟩:=h.2 e c a;exact⟨d,b,Y⟩⟩
end
abbrev Qed (x:Qs) (rg ag:Option Addr) (rc ac:Nat):Value:=.agg #[Iv x.op,Iv x.a,Iv x.b,Iv x.c,Iv x.k,Iv x.n,.slice rg x.regs.length rc,.slice ag x.args.length ac]
def ZD (x:Qs):Prop:=(-9223372036854775808<=x.a/\x.a<=9223372036854775807)/\(-9223372036854775808<=x.b/\x.b<=9223372036854775807)/\(-9223372036854775808<=x.c/\x.c<=9223372036854775807)
theorem QkV {x:Qs}(h:insC.In w O x cs):ZD x:=by
 obtain⟨_,_,rfl,⟨rfl,_⟩,_,_,rfl,⟨rfl,g⟩,_,_,rfl,⟨rfl,e⟩,_,_,rfl,⟨rfl,f⟩,_,_,rfl,⟨rfl,_⟩,_,_,rfl,⟨rfl,_⟩,_,_,rfl,⟨⟨a,c,rfl,i⟩,j⟩,⟨b,d,rfl,k⟩,l⟩:=h
 exact⟨g,e,f⟩
noncomputable def JSt.goC (s:JSt) (x:Qs):Int:=Qv (s.makes x).1 (QY s.L.length (s.makes x).2.length)
theorem Ql3 {s:JSt}{x:Qs}(a:x.form s.m.length=0):s.code x=s.goC x:=by
 unfold JSt.code JSt.goC Qv QY;rw[Xr (by rw[a];simp)]
 by_cases h:(s.makes x).1=0
 ·rw[Xr (by rw[h];simp),Xs h]
 ·rw[Xs h,Xr h]
theorem QbT (h:n<=80):QY n 0=0:=Xr (by omega)
theorem Qfy {a:Int}:Qv a 0=a:=by unfold Qv;split<;>simp_all
theorem QO.to {A:Nat->Prop}{s d f:JSt}{c g:Int}{e:Ending}(i:QO w b O A s d c e w') (m:g=c) (l:c=0->f=d):QO w b O A s f g e w':=by
 subst m;rcases i with ⟨a,j,k⟩ | h
 ·exact .inl ⟨a,j,by rw[l a];exact k⟩
 ·exact .inr h
theorem QO.none {A:Nat->Prop}{s a:JSt}{c:Int}(h:SAt w b O A s) (d:Below w.heap.size w w') (f:c=0) (e:a=s):QO w b O A s a c (.returned (.tuple #[])) w':=.inl ⟨f,Z,by rw[e];exact Yh h d⟩
theorem QT {s:JSt}{x:Qs}(b:x.op≠3) (a:x.op≠4):s.next x={ s with L:=s.L++(s.makes x).2 }:=by unfold JSt.next;rw[Xr b,Xr a]
structure QnW (w:World) (b:Nat) (O A Q:Nat->Prop) (s:JSt) (c:Array Value) (xr xs:List Int) (rg ag:Option Addr) (rc ac:Nat) (w1:World) (X:Nat):Prop where
 HJ:Hid (JOk s)
 H0:Hid (SAt w b O A s)
 HA0:Hid (∀ k,A k->k<w.heap.size)
 H:Hid (SAt w1 b O A s)
 HR:Hid (intsL.In w1 Q xr [.slice rg xr.length rc])
 HG:Hid (intsL.In w1 Q xs [.slice ag xs.length ac])
 HB:Hid (Below w.heap.size w w1)
 HA:Hid (∀ k,A k->k<w1.heap.size)
 HO:Hid (∀ k,O k->k<w1.heap.size)
 X1:Hid (Blk w1 X c 78)
 HRC:Hid (xr.length<=rc)
theorem Qgr {A:Nat->Prop}{s:JSt}{f:List Int}(i:∀ k,A k->k<w.heap.size) (l:JOk s) (h:SAt w b O A s) (d:intsL.In w Q f [.slice rg f.length rc]) (a:intsL.In w Q xs [.slice ag xs.length ac]) (g:f.length<=rc) (c:Array Value):QnW w b O A Q s c f xs rg ag rc ac (w.alloc (.cells c 78)) w.heap.size :=
 have e:=Zd w (.cells c 78);⟨l,h,i,h.below e,Ya d e,Ya a e,e,fun k j=>Zl (i k j) e.size,fun k j=>Zl (i k (h.sub k j)) e.size,Blk.new _ _ _,g⟩
theorem QV {g d f i a b e c:Value}(h:Blk w X #[g,d,f,i,a,b,e,c] t):w.cell? ⟨X,0,none⟩=some g/\w.cell? ⟨X,1,none⟩=some d/\w.cell? ⟨X,2,none⟩=some f/\w.cell? ⟨X,3,none⟩=some i/\w.cell? ⟨X,4,none⟩=some a/\w.cell? ⟨X,5,none⟩=some b/\w.cell? ⟨X,6,none⟩=some e/\w.cell? ⟨X,7,none⟩=some c :=
 ⟨Qb h 0 _ Z,Qb h 1 _ Z,Qb h 2 _ Z,Qb h 3 _ Z,Qb h 4 _ Z,Qb h 5 _ Z,Qb h 6 _ Z,Qb h 7 _ Z⟩
theorem QlC {A:Nat->Prop}{s:JSt}{x:Qs}(N:∀ k,A k->k<w.heap.size) (y:JOk s) (h:SAt w b O A s) (c:intsL.In w Q x.regs [.slice rg x.regs.length rc]) (a:intsL.In w Q x.args [.slice ag x.args.length ac]) (q:x.regs.length<=rc) (r:ZD x) (P:x.form s.m.length=0) (d:x.op=1) :
 Calls prog 212 #[Pv b 0,Qed x rg ag rc ac] w fun e w'=>QO w b O A s (s.next x) (s.goC x) e w':=by
 have J:=Qaa (s:=s) (.inl d);obtain⟨op,o,l,i,f,g,n,j⟩:=x
 have d:op=1:=d;subst d;have S:=Qa J;obtain⟨R,M,D,-⟩:=Q6 P
 have HF:=Qa (Xh R (Xh M D));obtain⟨K,C,t⟩:=r
 have HI:=Qa (Xh K (Xh C t));have hL:=y.vals;have B:=Qa (Qgr N y h c a q #[Iv 1,Iv o,Iv l,Iv i,Iv f,Iv g,.slice rg n.length rc,.slice ag j.length ac]);clear h N y c a J P R M D K C t q;go_enter func212,ntmps212
 go_upto_region 1 with fail
 generalize w.alloc (.cells #[Iv 1,Iv o,Iv l,Iv i,Iv f,Iv g,.slice rg n.length rc,.slice ag j.length ac] 78)=w1 at B |-;generalize w.heap.size=X at B |-;obtain⟨HJ,H0,aa,H,HR,HG,V,U,HO,W,ab⟩:=B.out
 clear B;obtain⟨x0,x1,x2,x3,x4,-,x6,x7⟩:=QV W.out
 have z:Hid (∀ e p,QO w b O A s { s with L:=s.L++[tInt] } (QY s.L.length 1) e p->QO w b O A s (s.next ⟨1,o,l,i,f,g,n,j⟩) (s.goC ⟨1,o,l,i,f,g,n,j⟩) e p):=fun e p u=>u.to (by unfold JSt.goC;rw[S.out];rfl) (fun _=>by rw[QT (by simp) (by simp),S.out]);have F:=Qa (Qby hL U.out H.out);go_wp2_with fail
 refine F.out.mono ?_;rintro T p u;have E:Hid (QO w b O A s (s.next ⟨1,o,l,i,f,g,n,j⟩) (s.goC ⟨1,o,l,i,f,g,n,j⟩) T p):=z.out _ _ (u.after V.out);rcases u with ⟨G,rfl,I⟩|⟨G,rfl,I⟩
 rotate_left
 ·exact⟨Z,E.out⟩
 clear G I F;go_wp2
 exact Xz (v:=.tuple #[]) (by simp[results,results212,go_sem]) Z E.out
theorem Qmv {A:Nat->Prop}{s:JSt}{x:Qs}(N:∀ k,A k->k<w.heap.size) (y:JOk s) (h:SAt w b O A s) (c:intsL.In w Q x.regs [.slice rg x.regs.length rc]) (a:intsL.In w Q x.args [.slice ag x.args.length ac]) (q:x.regs.length<=rc) (r:ZD x) (P:x.form s.m.length=0) (d:x.op=12) :
 Calls prog 212 #[Pv b 0,Qed x rg ag rc ac] w fun e w'=>QO w b O A s (s.next x) (s.goC x) e w':=by
 have J:=Qaa (s:=s) (.inr d);obtain⟨op,o,l,i,f,g,n,j⟩:=x
 have d:op=12:=d;subst d;have S:=Qa J;obtain⟨R,M,D,-⟩:=Q6 P
 have HF:=Qa (Xh R (Xh M D));obtain⟨K,C,t⟩:=r
 have HI:=Qa (Xh K (Xh C t));have hL:=y.vals;have B:=Qa (Qgr N y h c a q #[Iv 12,Iv o,Iv l,Iv i,Iv f,Iv g,.slice rg n.length rc,.slice ag j.length ac]);clear h N y c a J P R M D K C t q;go_enter func212,ntmps212
 go_upto_region 1 with fail
 generalize w.alloc (.cells #[Iv 12,Iv o,Iv l,Iv i,Iv f,Iv g,.slice rg n.length rc,.slice ag j.length ac] 78)=w1 at B |-;generalize w.heap.size=X at B |-;obtain⟨HJ,H0,aa,H,HR,HG,V,U,HO,W,ab⟩:=B.out
 clear B;obtain⟨x0,x1,x2,x3,x4,-,x6,x7⟩:=QV W.out
 have z:Hid (∀ e p,QO w b O A s { s with L:=s.L++[tInt] } (QY s.L.length 1) e p->QO w b O A s (s.next ⟨12,o,l,i,f,g,n,j⟩) (s.goC ⟨12,o,l,i,f,g,n,j⟩) e p):=fun e p u=>u.to (by unfold JSt.goC;rw[S.out];rfl) (fun _=>by rw[QT (by simp) (by simp),S.out]);have F:=Qa (Qby hL U.out H.out);go_wp2_with fail
 refine F.out.mono ?_;rintro T p u;have E:Hid (QO w b O A s (s.next ⟨12,o,l,i,f,g,n,j⟩) (s.goC ⟨12,o,l,i,f,g,n,j⟩) T p):=z.out _ _ (u.after V.out);rcases u with ⟨G,rfl,I⟩|⟨G,rfl,I⟩
 rotate_left
 ·exact⟨Z,E.out⟩
 clear G I F;go_wp2
 exact Xz (v:=.tuple #[]) (by simp[results,results212,go_sem]) Z E.out
theorem Qlp {A:Nat->Prop}{s:JSt}{x:Qs}(hA:∀ k,A k->k<w.heap.size) (G:JOk s) (h:SAt w b O A s) (c:intsL.In w Q x.regs [.slice rg x.regs.length rc]) (a:intsL.In w Q x.args [.slice ag x.args.length ac]) (u:x.regs.length<=rc) (y:ZD x) (hf:x.form s.m.length=0) (g:x.op=2) :
 Calls prog 212 #[Pv b 0,Qed x rg ag rc ac] w fun e w'=>QO w b O A s (s.next x) (s.goC x) e w':=by
 have V:=QbI (s:=s) g;obtain⟨op,i,f,n,j,l,q,o⟩:=x
 have g:op=2:=g;subst g;have HE:=Qa V;obtain⟨f1,f2,M,-⟩:=Q6 hf
 have HF:=Qa (Xh f1 (Xh f2 M));obtain⟨W,K,z⟩:=y
 have P:=Qa (Xh W (Xh K z));have hL:=G.vals;have B:=Qa (Qgr hA G h c a u #[Iv 2,Iv i,Iv f,Iv n,Iv j,Iv l,.slice rg q.length rc,.slice ag o.length ac]);clear h hA G c a V hf f1 f2 M W K z u;go_enter func212,ntmps212
 go_upto_region 1 with fail
 generalize w.alloc (.cells #[Iv 2,Iv i,Iv f,Iv n,Iv j,Iv l,.slice rg q.length rc,.slice ag o.length ac] 78)=w1 at B |-;generalize w.heap.size=X at B |-;obtain⟨HJ,H0,ab,H,HR,HG,HB,HA,HO,X1,ad⟩:=B.out
 clear B;obtain⟨x0,x1,x2,x3,x4,-,x6,x7⟩:=QV X1.out
 have EG:Hid (s.goC ⟨2,i,f,n,j,l,q,o⟩=Qv (Qv (s.want i 1 false) (s.want f 1 false)) (QY s.L.length 1)):=by show _=_;unfold JSt.goC;rw[HE.out];rfl
 have C1:=Qa (fun d=>Qe9 i f P.out.1 P.out.2.1 d hL HO.out H.out);go_wp2_with fail
 refine(C1.out _).mono ?_
 rintro S w2 ⟨hq,C⟩;have t:=Qa (HB.out.trans (C.mono HB.out.size));have H2:=Qa (H.out.below C);have E:=Qa (fun k J=>Zl (HA.out k J) C.size);have aa:=Qa (fun k J=>Zl (HO.out k J) C.size);rcases hq with ⟨p,y2,rfl,hy⟩|⟨p,rfl⟩
 rotate_left
 ·exact⟨Z,QO.bad ((fun p=>by rw[EG.out,Ql p]) p) p (Yh H0.out t.out)⟩
 subst hy;have F:=Qa p;clear p C C1;have I:Hid (∀ e r,QO w b O A s { s with L:=s.L++[tInt] } (QY s.L.length 1) e r->QO w b O A s (s.next ⟨2,i,f,n,j,l,q,o⟩) (s.goC ⟨2,i,f,n,j,l,q,o⟩) e r):=fun e r D=>D.to (by rw[EG.out,Qx F.out]) (fun _=>by rw[QT (by simp) (by simp),HE.out]);have R:=Qa (Qby hL E.out H2.out);go_wp2_with fail
 refine R.out.mono ?_;rintro S r D;have N:Hid (QO w b O A s (s.next ⟨2,i,f,n,j,l,q,o⟩) (s.goC ⟨2,i,f,n,j,l,q,o⟩) S r):=I.out _ _ (D.after t.out);rcases D with ⟨T,rfl,U⟩|⟨T,rfl,U⟩
 rotate_left
 ·exact⟨Z,N.out⟩
 clear T U R;go_wp2
 exact Xz (v:=.tuple #[]) (by simp[results,results212,go_sem]) Z N.out
theorem QlN {A:Nat->Prop}{s:JSt}{x:Qs}(S:∀ k,A k->k<w.heap.size) (C:JOk s) (h:SAt w b O A s) (d:intsL.In w Q x.regs [.slice rg x.regs.length rc]) (c:intsL.In w Q x.args [.slice ag x.args.length ac]) (t:x.regs.length<=rc) (u:ZD x) (T:x.form s.m.length=0) (f:x.op=3) :
 Calls prog 212 #[Pv b 0,Qed x rg ag rc ac] w fun e w'=>QO w b O A s (s.next x) (s.goC x) e w':=by
 have N:=Qbx (s:=s) f;obtain⟨op,q,o,l,i,j,p,n⟩:=x
 have f:op=3:=f;subst f;have V:=Qa N;obtain⟨U,R,G,-⟩:=Q6 T
 have HF:=Qa (Xh U (Xh R G));obtain⟨P,F,y⟩:=u
 have HI:=Qa (Xh P (Xh F y));have hL:=C.vals;have B:=Qa (Qgr S C h d c t #[Iv 3,Iv q,Iv o,Iv l,Iv i,Iv j,.slice rg p.length rc,.slice ag n.length ac]);clear h S C d c N T U R G P F y t;go_enter func212,ntmps212
 go_upto_region 1 with fail
 generalize w.alloc (.cells #[Iv 3,Iv q,Iv o,Iv l,Iv i,Iv j,.slice rg p.length rc,.slice ag n.length ac] 78)=w1 at B |-;generalize w.heap.size=X at B |-;obtain⟨HJ,H0,aa,H,HR,HG,HB,HA,HO,X1,ab⟩:=B.out
 clear B;obtain⟨x0,x1,x2,x3,x4,-,x6,x7⟩:=QV X1.out
 have D:Hid (∀ e r,QO w b O A s s.openS s.openC e r->QO w b O A s (s.next ⟨3,q,o,l,i,j,p,n⟩) (s.goC ⟨3,q,o,l,i,j,p,n⟩) e r):=fun e r z=>z.to (by
  unfold JSt.goC;rw[V.out]
  by_cases a:s.H.length=16
  ·rw[Xs a]
   show Qv 2 _=s.openC;unfold JSt.openC;rw[Xs (Or.inr a)];rfl
  ·rw[Xr a]
   show Qv 0 (QY s.L.length 1)=s.openC;rw[Qx Z]
   unfold QY JSt.openC;by_cases g:80<s.L.length+1
   ·rw[Xs g,Xs (Or.inl g)]
   ·rw[Xr g,Xr (by omega)]) (fun E=>by
  unfold JSt.openC at E;unfold JSt.next JSt.openS
  rw[V.out]
  by_cases a:s.H.length=16
  ·rw[Xs (Or.inr a)] at E;cases E
  ·rw[Xr a];rfl)
 have J:=Qa (Qjv HJ.out.regs hL HA.out H.out);go_wp2_with fail
 refine J.out.mono ?_;rintro W r z;have I:Hid (QO w b O A s (s.next ⟨3,q,o,l,i,j,p,n⟩) (s.goC ⟨3,q,o,l,i,j,p,n⟩) W r):=D.out _ _ (z.after HB.out);rcases z with ⟨K,rfl,M⟩|⟨K,rfl,M⟩
 rotate_left
 ·exact⟨Z,I.out⟩
 clear K M J;go_wp2
 exact Xz (v:=.tuple #[]) (by simp[results,results212,go_sem]) Z I.out
theorem Qk3 {A:Nat->Prop}{s:JSt}{x:Qs}(S:∀ k,A k->k<w.heap.size) (D:JOk s) (h:SAt w b O A s) (d:intsL.In w Q x.regs [.slice rg x.regs.length rc]) (c:intsL.In w Q x.args [.slice ag x.args.length ac]) (u:x.regs.length<=rc) (y:ZD x) (T:x.form s.m.length=0) (g:x.op=4) :
 Calls prog 212 #[Pv b 0,Qed x rg ag rc ac] w fun e w'=>QO w b O A s (s.next x) (s.goC x) e w':=by
 have N:=Qaq (s:=s) g;obtain⟨op,a,o,l,i,j,p,n⟩:=x
 have g:op=4:=g;subst g;have V:=Qa N;obtain⟨U,R,G,-⟩:=Q6 T
 have HF:=Qa (Xh U (Xh R G));obtain⟨P,F,z⟩:=y
 have HI:=Qa (Xh P (Xh F z));have W:=D.vals;have B:=Qa (Qgr S D h d c u #[Iv 4,Iv a,Iv o,Iv l,Iv i,Iv j,.slice rg p.length rc,.slice ag n.length ac]);clear h S D d c N T U R G P F z u;go_enter func212,ntmps212
 go_upto_region 1 with fail
 generalize w.alloc (.cells #[Iv 4,Iv a,Iv o,Iv l,Iv i,Iv j,.slice rg p.length rc,.slice ag n.length ac] 78)=w1 at B |-;generalize w.heap.size=X at B |-;obtain⟨HJ,H0,aa,H,HR,HG,HB,HA,HO,X1,ab⟩:=B.out
 clear B;obtain⟨x0,x1,x2,x3,x4,-,x6,x7⟩:=QV X1.out
 have E:Hid (∀ e q,QO w b O A s (s.freeS a) (s.freeC a) e q->QO w b O A s (s.next ⟨4,a,o,l,i,j,p,n⟩) (s.goC ⟨4,a,o,l,i,j,p,n⟩) e q):=fun e q C=>C.to (by
  unfold JSt.goC JSt.freeC;rw[V.out]
  show Qv (match s.at a with | none=>(1,[]) | some t=>(Qv (s.want a 2 true) (if t.r<s.f.regs then 11 else 0),[])).1 _=_
  cases s.at a with
  | none=>rfl
  | some t=>show Qv _ (QY s.L.length 0)=_;rw[QbT W,Qfy]) (fun h0=>by
  unfold JSt.next JSt.freeS
  rw[V.out]
  show ({ s with H:=_,L:=s.L++(match s.at a with | none=>(1,[]) | some t=>(Qv (s.want a 2 true) (if t.r<s.f.regs then 11 else 0),[])).2 }:JSt)=_
  cases s.at a with
  | none=>simp
  | some t=>simp)
 have J:=Qa (Qjt a W HA.out H.out);go_wp2_with fail
 refine J.out.mono ?_;rintro e' q C;have I:Hid (QO w b O A s (s.next ⟨4,a,o,l,i,j,p,n⟩) (s.goC ⟨4,a,o,l,i,j,p,n⟩) e' q):=E.out _ _ (C.after HB.out);rcases C with ⟨K,rfl,M⟩|⟨K,rfl,M⟩
 rotate_left
 ·exact⟨Z,I.out⟩
 clear K M J;go_wp2
 exact Xz (v:=.tuple #[]) (by simp[results,results212,go_sem]) Z I.out
theorem Qh5 {A:Nat->Prop}{s:JSt}{x:Qs}(V:∀ k,A k->k<w.heap.size) (I:JOk s) (h:SAt w b O A s) (d:intsL.In w Q x.regs [.slice rg x.regs.length rc]) (c:intsL.In w Q x.args [.slice ag x.args.length ac]) (D:x.regs.length<=rc) (E:ZD x) (W:x.form s.m.length=0) (j:x.op=5) :
 Calls prog 212 #[Pv b 0,Qed x rg ag rc ac] w fun e w'=>QO w b O A s (s.next x) (s.goC x) e w':=by
 have S:=Qbk (s:=s) j;obtain⟨op,a,y,u,p,q,z,g⟩:=x
 have j:op=5:=j;subst j;have HE:=Qa S;obtain⟨f1,U,L,-⟩:=Q6 W
 have HF:=Qa (Xh f1 (Xh U L));obtain⟨T,K,F⟩:=E
 have HI:=Qa (Xh T (Xh K F));have hL:=I.vals;have B:=Qa (Qgr V I h d c D #[Iv 5,Iv a,Iv y,Iv u,Iv p,Iv q,.slice rg z.length rc,.slice ag g.length ac]);clear h V I d c S W f1 U L T K F D;go_enter func212,ntmps212
 go_upto_region 1 with fail
 generalize w.alloc (.cells #[Iv 5,Iv a,Iv y,Iv u,Iv p,Iv q,.slice rg z.length rc,.slice ag g.length ac] 78)=w1 at B |-;generalize w.heap.size=X at B |-;obtain⟨HJ,H0,aa,H,HR,HG,HB,HA,HO,X1,ab⟩:=B.out
 clear B;obtain⟨x0,x1,x2,x3,x4,-,x6,x7⟩:=QV X1.out
 have J:Hid (∀ e C,QO w b O A s (s.tupleS a g) (s.tupleC a g) e C->QO w b O A s (s.next ⟨5,a,y,u,p,q,z,g⟩) (s.goC ⟨5,a,y,u,p,q,z,g⟩) e C):=fun e C G=>G.to (by
  unfold JSt.goC JSt.tupleC;rw[HE.out]
  simp only
  cases ha:s.at a with
  | none=>unfold JSt.want;rw[ha];rfl
  | some t =>
    simp only
    by_cases i:s.want a 2 true=0
    ·rw[Xs i,Qx i]
     cases s.fields g with
     | none=>rfl
     | some l =>
       simp only
       by_cases o:4<TT.height (n:=7) (mkT 3 t.r l)
       ·rw[Xs o,Xs o];rfl
       ·rw[Xr o,Xr o];rfl
    ·rw[Xr i,Ql i,Ql i]) (fun f=>by
  rw[QT (by simp) (by simp),HE.out]
  unfold JSt.tupleC at f;unfold JSt.tupleS;simp only
  cases ha:s.at a with
  | none=>rfl
  | some t =>
    rw[ha] at f
    simp only at f |-
    by_cases i:s.want a 2 true=0
    ·rw[Qx i] at f
     rw[Xs i]
     cases hl:s.fields g with
     | none=>simp[hl] at f
     | some l =>
       rw[hl] at f
       simp only at f |-
       by_cases o:4<TT.height (n:=7) (mkT 3 t.r l)
       ·rw[Xs o] at f;cases f
       ·rw[Xr o]
    ·rw[Ql i] at f;exact absurd f i)
 have N:=Qa (Qhq a Z (HF.out.2.2 Z) HG.out HJ.out HA.out H.out);go_wp2_with fail
 refine N.out.mono ?_;rintro e' C G;have M:Hid (QO w b O A s (s.next ⟨5,a,y,u,p,q,z,g⟩) (s.goC ⟨5,a,y,u,p,q,z,g⟩) e' C):=J.out _ _ (G.after HB.out);rcases G with ⟨P,rfl,R⟩|⟨P,rfl,R⟩
 rotate_left
 ·exact⟨Z,M.out⟩
 clear P R N;go_wp2
 exact Xz (v:=.tuple #[]) (by simp[results,results212,go_sem]) Z M.out
theorem QiC {A:Nat->Prop}{s:JSt}{x:Qs}(T:∀ k,A k->k<w.heap.size) (D:JOk s) (h:SAt w b O A s) (d:intsL.In w Q x.regs [.slice rg x.regs.length rc]) (c:intsL.In w Q x.args [.slice ag x.args.length ac]) (u:x.regs.length<=rc) (y:ZD x) (U:x.form s.m.length=0) (f:x.op=8) :
 Calls prog 212 #[Pv b 0,Qed x rg ag rc ac] w fun e w'=>QO w b O A s (s.next x) (s.goC x) e w':=by
 have P:=Qbs (s:=s) f;obtain⟨op,a,g,n,j,l,p,o⟩:=x
 have f:op=8:=f;subst f;have F:=Qa P;obtain⟨V,S,I,-⟩:=Q6 U
 have HF:=Qa (Xh V (Xh S I));obtain⟨R,G,z⟩:=y
 have W:=Qa (Xh R (Xh G z));have hL:=D.vals;have B:=Qa (Qgr T D h d c u #[Iv 8,Iv a,Iv g,Iv n,Iv j,Iv l,.slice rg p.length rc,.slice ag o.length ac]);clear h T D d c P U V S I R G z u;go_enter func212,ntmps212
 go_upto_region 1 with fail
 generalize w.alloc (.cells #[Iv 8,Iv a,Iv g,Iv n,Iv j,Iv l,.slice rg p.length rc,.slice ag o.length ac] 78)=w1 at B |-;generalize w.heap.size=X at B |-;obtain⟨HJ,H0,aa,H,HR,HG,HB,HA,HO,X1,ab⟩:=B.out
 clear B;obtain⟨x0,x1,x2,x3,x4,-,x6,x7⟩:=QV X1.out
 have E:Hid (∀ e q,(∀ t,(s.at a=some t\/(s.at a=none/\t=tInt))->QO w b O A s { s with L:=s.L++[mkT 4 t.r []] } (s.arrayC a g) e q)->QO w b O A s (s.next ⟨8,a,g,n,j,l,p,o⟩) (s.goC ⟨8,a,g,n,j,l,p,o⟩) e q):=fun e q i=>by
  cases ha:s.at a with
  | none =>
    refine(i tInt (.inr ⟨ha,Z⟩)).to (by unfold JSt.goC JSt.arrayC;rw[F.out];simp only[ha];unfold JSt.want;rw[ha];rfl) (fun C=>?_)
    unfold JSt.arrayC JSt.want at C;rw[ha] at C
    cases C
  | some t =>
    refine(i t (.inl ha)).to (by unfold JSt.goC JSt.arrayC;rw[F.out];simp only[ha];rfl) (fun C=>?_)
    rw[QT (by simp) (by simp),F.out]
    simp only[ha]
 have K:=Qa (QgZ a g W.out.2.1 HJ.out.regs hL HA.out H.out);go_wp2_with fail
 refine K.out.mono ?_;rintro e' q i;have J:Hid (QO w b O A s (s.next ⟨8,a,g,n,j,l,p,o⟩) (s.goC ⟨8,a,g,n,j,l,p,o⟩) e' q):=E.out _ _ (fun t ht=>(i t ht).after HB.out);have i:=i ((s.at a).getD tInt) (by cases s.at a with | none=>exact .inr ⟨Z,Z⟩ | some t=>exact .inl Z);rcases i with ⟨M,rfl,N⟩|⟨M,rfl,N⟩
 rotate_left
 ·exact⟨Z,J.out⟩
 clear M N K;go_wp2
 exact Xz (v:=.tuple #[]) (by simp[results,results212,go_sem]) Z J.out
theorem Qj5 {A:Nat->Prop}{s:JSt}{x:Qs}(hA:∀ k,A k->k<w.heap.size) (R:JOk s) (h:SAt w b O A s) (f:intsL.In w Q x.regs [.slice rg x.regs.length rc]) (c:intsL.In w Q x.args [.slice ag x.args.length ac]) (C:x.regs.length<=rc) (G:ZD x) (hf:x.form s.m.length=0) (i:x.op=9) :
 Calls prog 212 #[Pv b 0,Qed x rg ag rc ac] w fun e w'=>QO w b O A s (s.next x) (s.goC x) e w':=by
 have hE:=Qba (s:=s) i;obtain⟨op,j,g,o,l,n,r,q⟩:=x
 have i:op=9:=i;subst i;have HE:=Qa hE;obtain⟨f1,f2,f3,-⟩:=Q6 hf
 have HF:=Qa (Xh f1 (Xh f2 f3));obtain⟨ra,W,I⟩:=G
 have HI:=Qa (Xh ra (Xh W I));have U:=R.vals;have B:=Qa (Qgr hA R h f c C #[Iv 9,Iv j,Iv g,Iv o,Iv l,Iv n,.slice rg r.length rc,.slice ag q.length ac]);clear h hA R f c hE hf f1 f2 f3 ra W I C;go_enter func212,ntmps212
 go_upto_region 1 with fail
 generalize w.alloc (.cells #[Iv 9,Iv j,Iv g,Iv o,Iv l,Iv n,.slice rg r.length rc,.slice ag q.length ac] 78)=w1 at B |-;generalize w.heap.size=X at B |-;obtain⟨HJ,H0,ab,H,HR,HG,HB,HA,HO,X1,ad⟩:=B.out
 clear B;obtain⟨x0,x1,x2,x3,x4,-,x6,x7⟩:=QV X1.out
 have V:Hid (s.goC ⟨9,j,g,o,l,n,r,q⟩=Qv (Qv (s.want j 4 true) (s.want g 1 false)) (QY s.L.length 1)):=by show _=_;unfold JSt.goC;rw[HE.out];rfl
 have C1:=Qa (Qad j 4 U HO.out H.out);go_wp2_with fail
 refine(C1.out ).mono ?_
 rintro M w2 ⟨S,u⟩;have p:=Qa (HB.out.trans (u.mono HB.out.size));have H2:=Qa (H.out.below u);have K:=Qa (fun k t=>Zl (HA.out k t) u.size);have E:=Qa (fun k t=>Zl (HO.out k t) u.size);rcases S with ⟨a,y2,rfl,hy⟩|⟨a,rfl⟩
 rotate_left
 ·exact⟨Z,QO.bad ((fun a=>by rw[V.out,Ql (by rw[Ql a];exact a),Ql a]) a) a (Yh H0.out p.out)⟩
 have z:=Qa a;have x2:=Qk x2 u;clear a u C1;have C2:=Qa (fun d=>QbP g HI.out.2.1 d U E.out H2.out);go_wp2_with fail
 refine(C2.out _).mono ?_
 rintro M w3 ⟨S,D⟩;have F:=Qa (p.out.trans (D.mono p.out.size));have H3:=Qa (H2.out.below D);have N:=Qa (fun k t=>Zl (K.out k t) D.size);have aa:=Qa (fun k t=>Zl (E.out k t) D.size);rcases S with ⟨a,y3,rfl,hy⟩|⟨a,rfl⟩
 rotate_left
 ·exact⟨Z,QO.bad ((fun a=>by rw[V.out,Qx z.out,Ql a]) a) a (Yh H0.out F.out)⟩
 subst hy;have P:=Qa a;clear a D C2;have T:Hid (∀ e y,QO w b O A s { s with L:=s.L++[tInt] } (QY s.L.length 1) e y->QO w b O A s (s.next ⟨9,j,g,o,l,n,r,q⟩) (s.goC ⟨9,j,g,o,l,n,r,q⟩) e y):=fun e y J=>J.to (by rw[V.out,Qx z.out,Qx P.out]) (fun _=>by rw[QT (by simp) (by simp),HE.out]);have CM:=Qa (Qby U N.out H3.out);go_wp2_with fail
 refine CM.out.mono ?_;rintro M y J;have FF:Hid (QO w b O A s (s.next ⟨9,j,g,o,l,n,r,q⟩) (s.goC ⟨9,j,g,o,l,n,r,q⟩) M y):=T.out _ _ (J.after F.out);rcases J with ⟨h1,rfl,h3⟩|⟨h1,rfl,h3⟩
 rotate_left
 ·exact⟨Z,FF.out⟩
 clear h1 h3 CM;go_wp2
 exact Xz (v:=.tuple #[]) (by simp[results,results212,go_sem]) Z FF.out
theorem Qi9 {A:Nat->Prop}{s:JSt}{x:Qs}(hA:∀ k,A k->k<w.heap.size) (M:JOk s) (h:SAt w b O A s) (f:intsL.In w Q x.regs [.slice rg x.regs.length rc]) (c:intsL.In w Q x.args [.slice ag x.args.length ac]) (t:x.regs.length<=rc) (E:ZD x) (hf:x.form s.m.length=0) (g:x.op=10) :
 Calls prog 212 #[Pv b 0,Qed x rg ag rc ac] w fun e w'=>QO w b O A s (s.next x) (s.goC x) e w':=by
 have hE:=QaC (s:=s) g;obtain⟨op,p,l,j,q,r,F,u⟩:=x
 have g:op=10:=g;subst g;have HE:=Qa hE;obtain⟨f1,f2,V,-⟩:=Q6 hf
 have HF:=Qa (Xh f1 (Xh f2 V));obtain⟨ra,S,G⟩:=E
 have W:=Qa (Xh ra (Xh S G));have P:=M.vals;have B:=Qa (Qgr hA M h f c t #[Iv 10,Iv p,Iv l,Iv j,Iv q,Iv r,.slice rg F.length rc,.slice ag u.length ac]);clear h hA M f c hE hf f1 f2 V ra S G t;go_enter func212,ntmps212
 go_upto_region 1 with fail
 generalize w.alloc (.cells #[Iv 10,Iv p,Iv l,Iv j,Iv q,Iv r,.slice rg F.length rc,.slice ag u.length ac] 78)=w1 at B |-;generalize w.heap.size=X at B |-;obtain⟨HJ,J,ad,H,HR,HG,HB,HA,HO,X1,ae⟩:=B.out
 clear B;obtain⟨x0,x1,x2,x3,x4,-,x6,x7⟩:=QV X1.out
 have R:Hid (s.goC ⟨10,p,l,j,q,r,F,u⟩=Qv (s.want p 4 true) (Qv (s.want l 1 false) (s.want j 1 false))):=by show _=_;unfold JSt.goC;rw[HE.out];show Qv _ (QY s.L.length 0)=_;rw[QbT P,Qfy]
 have C1:=Qa (Qad p 4 P HO.out H.out);go_wp2_with fail
 refine(C1.out ).mono ?_
 rintro e' w2 ⟨N,n⟩;have i:=Qa (HB.out.trans (n.mono HB.out.size));have H2:=Qa (H.out.below n);have I:=Qa (fun k o=>Zl (HA.out k o) n.size);have C:=Qa (fun k o=>Zl (HO.out k o) n.size);rcases N with ⟨a,y2,rfl,T⟩|⟨a,rfl⟩
 rotate_left
 ·exact⟨Z,QO.bad ((fun a=>by rw[R.out,Ql a]) a) a (Yh J.out i.out)⟩
 have y:=Qa a;have x2:=Qk x2 n;have x3:=Qk x3 n;clear a n C1;have U:=Qa (fun d=>Qe9 l j W.out.2.1 W.out.2.2 d P C.out H2.out);go_wp2_with fail
 refine(U.out _).mono ?_
 rintro e' w3 ⟨N,z⟩;have D:=Qa (i.out.trans (z.mono i.out.size));have H3:=Qa (H2.out.below z);have ab:=Qa (fun k o=>Zl (I.out k o) z.size);have aa:=Qa (fun k o=>Zl (C.out k o) z.size);rcases N with ⟨a,y3,rfl,T⟩|⟨a,rfl⟩
 rotate_left
 ·exact⟨Z,QO.bad ((fun a=>by rw[R.out,Qx y.out]) a) a (Yh J.out D.out)⟩
 subst T;have K:=Qa a;clear a z U;have FF:Hid (QO w b O A s (s.next ⟨10,p,l,j,q,r,F,u⟩) (s.goC ⟨10,p,l,j,q,r,F,u⟩) (.returned (.tuple #[])) w3):=QO.none J.out D.out (by rw[R.out,Qx y.out,K.out]) (by rw[QT (by simp) (by simp),HE.out];simp);go_wp2
 exact Xz (v:=.tuple #[]) (by simp[results,results212,go_sem]) Z FF.out
theorem QlT {A:Nat->Prop}{s:JSt}{x:Qs}(W:∀ k,A k->k<w.heap.size) (F:JOk s) (h:SAt w b O A s) (c:intsL.In w Q x.regs [.slice rg x.regs.length rc]) (a:intsL.In w Q x.args [.slice ag x.args.length ac]) (t:x.regs.length<=rc) (u:ZD x) (hf:x.form s.m.length=0) (d:x.op=11) :
 Calls prog 212 #[Pv b 0,Qed x rg ag rc ac] w fun e w'=>QO w b O A s (s.next x) (s.goC x) e w':=by
 have T:=QbS (s:=s) d;obtain⟨op,f,n,j,g,i,p,l⟩:=x
 have d:op=11:=d;subst d;have HE:=Qa T;obtain⟨f1,V,K,-⟩:=Q6 hf
 have HF:=Qa (Xh f1 (Xh V K));obtain⟨U,J,y⟩:=u
 have HI:=Qa (Xh U (Xh J y));have hL:=F.vals;have B:=Qa (Qgr W F h c a t #[Iv 11,Iv f,Iv n,Iv j,Iv g,Iv i,.slice rg p.length rc,.slice ag l.length ac]);clear h W F c a T hf f1 V K U J y t;go_enter func212,ntmps212
 go_upto_region 1 with fail
 generalize w.alloc (.cells #[Iv 11,Iv f,Iv n,Iv j,Iv g,Iv i,.slice rg p.length rc,.slice ag l.length ac] 78)=w1 at B |-;generalize w.heap.size=X at B |-;obtain⟨HJ,H0,ab,H,HR,HG,HB,HA,HO,X1,ad⟩:=B.out
 clear B;obtain⟨x0,x1,x2,x3,x4,-,x6,x7⟩:=QV X1.out
 have EG:Hid (s.goC ⟨11,f,n,j,g,i,p,l⟩=Qv (s.want f 4 true) (QY s.L.length 1)):=by show _=_;unfold JSt.goC;rw[HE.out];rfl
 have C1:=Qa (Qad f 4 hL HO.out H.out);go_wp2_with fail
 refine(C1.out ).mono ?_
 rintro P w2 ⟨hq,z⟩;have r:=Qa (HB.out.trans (z.mono HB.out.size));have H2:=Qa (H.out.below z);have D:=Qa (fun k I=>Zl (HA.out k I) z.size);have aa:=Qa (fun k I=>Zl (HO.out k I) z.size);rcases hq with ⟨o,y2,rfl,hy⟩|⟨o,rfl⟩
 rotate_left
 ·exact⟨Z,QO.bad ((fun o=>by rw[EG.out,Ql o]) o) o (Yh H0.out r.out)⟩
 have E:=Qa o;clear o z C1;have G:Hid (∀ e q,QO w b O A s { s with L:=s.L++[tInt] } (QY s.L.length 1) e q->QO w b O A s (s.next ⟨11,f,n,j,g,i,p,l⟩) (s.goC ⟨11,f,n,j,g,i,p,l⟩) e q):=fun e q C=>C.to (by rw[EG.out,Qx E.out]) (fun _=>by rw[QT (by simp) (by simp),HE.out]);have N:=Qa (Qby hL D.out H2.out);go_wp2_with fail
 refine N.out.mono ?_;rintro P q C;have M:Hid (QO w b O A s (s.next ⟨11,f,n,j,g,i,p,l⟩) (s.goC ⟨11,f,n,j,g,i,p,l⟩) P q):=G.out _ _ (C.after r.out);rcases C with ⟨R,rfl,S⟩|⟨R,rfl,S⟩
 rotate_left
 ·exact⟨Z,M.out⟩
 clear R S N;go_wp2
 exact Xz (v:=.tuple #[]) (by simp[results,results212,go_sem]) Z M.out
theorem QlA {A:Nat->Prop}{s:JSt}{x:Qs}(N:∀ k,A k->k<w.heap.size) (D:JOk s) (h:SAt w b O A s) (c:intsL.In w Q x.regs [.slice rg x.regs.length rc]) (a:intsL.In w Q x.args [.slice ag x.args.length ac]) (p:x.regs.length<=rc) (t:ZD x) (R:x.form s.m.length=0) (f:x.op=13) :
 Calls prog 212 #[Pv b 0,Qed x rg ag rc ac] w fun e w'=>QO w b O A s (s.next x) (s.goC x) e w':=by
 have J:=QbC (s:=s) f;obtain⟨op,g,r,o,j,l,u,q⟩:=x
 have f:op=13:=f;subst f;have V:=Qa J;obtain⟨S,M,G,-⟩:=Q6 R
 have HF:=Qa (Xh S (Xh M G));obtain⟨K,F,y⟩:=t
 have HI:=Qa (Xh K (Xh F y));have W:=D.vals;have B:=Qa (Qgr N D h c a p #[Iv 13,Iv g,Iv r,Iv o,Iv j,Iv l,.slice rg u.length rc,.slice ag q.length ac]);clear h N D c a J R S M G K F y p;go_enter func212,ntmps212
 go_upto_region 1 with fail
 generalize w.alloc (.cells #[Iv 13,Iv g,Iv r,Iv o,Iv j,Iv l,.slice rg u.length rc,.slice ag q.length ac] 78)=w1 at B |-;generalize w.heap.size=X at B |-;obtain⟨HJ,I,ad,H,HR,HG,P,HA,T,X1,ae⟩:=B.out
 clear B;obtain⟨x0,x1,x2,x3,x4,-,x6,x7⟩:=QV X1.out
 have EG:Hid (s.goC ⟨13,g,r,o,j,l,u,q⟩=s.want g 1 false):=by show _=_;unfold JSt.goC;rw[V.out];show Qv _ (QY s.L.length 0)=_;rw[QbT W,Qfy]
 have U:=Qa (fun d=>QbP g HI.out.1 d W T.out H.out);go_wp2_with fail
 refine(U.out _).mono ?_
 rintro e' w2 ⟨hq,z⟩;have n:=Qa (P.out.trans (z.mono P.out.size));have H2:=Qa (H.out.below z);have aa:=Qa (fun k E=>Zl (HA.out k E) z.size);have ab:=Qa (fun k E=>Zl (T.out k E) z.size);rcases hq with ⟨i,y2,rfl,hy⟩|⟨i,rfl⟩
 rotate_left
 ·exact⟨Z,QO.bad ((fun i=>by rw[EG.out]) i) i (Yh I.out n.out)⟩
 subst hy;have C:=Qa i;clear i z U;have FF:Hid (QO w b O A s (s.next ⟨13,g,r,o,j,l,u,q⟩) (s.goC ⟨13,g,r,o,j,l,u,q⟩) (.returned (.tuple #[])) w2):=QO.none I.out n.out (by rw[EG.out,C.out]) (by rw[QT (by simp) (by simp),V.out];simp);go_wp2
 exact Xz (v:=.tuple #[]) (by simp[results,results212,go_sem]) Z FF.out
def JSt.fieldC (s:JSt) (a:Int) (k:Nat):Int:=Qv (s.want a 3 true) (match s.at a with | none=>0 | some t=>if k<t.2.2.length then 0 else 9)
def QnG (w:World) (A:Nat->Prop) (s:JSt) (a:Int) (k:Nat) (x:Value):Prop:=∃ (t:TT 6) (u:TT 5) (p:Option Addr) (c:Nat),s.at a=some t/\t.2.2[k]?=some u/\x=Tv u p c/\TIn w (fun g=>¬ A g) u p
theorem QcQ {s:JSt}{a:Int}(h:s.want a 3 true≠0):s.fieldC a k=s.want a 3 true:=by unfold JSt.fieldC Qv;rw[Xr h]
theorem Qib {s:JSt}{a:Int}{t:TT 6}(h:s.want a 3 true=0) (b:s.at a=some t):s.fieldC a k=if k<t.2.2.length then 0 else 9:=by unfold JSt.fieldC Qv;rw[Xs h,b]
theorem QdH {A:Nat->Prop}{s:JSt}(a:Int) (k:Nat) (S:k<=100) (hL:s.L.length<=80) (y:∀ k,O k->k<w.heap.size) (h:SAt w b O A s) :
 Calls prog 245 #[Pv b 0,Iv a,Iv k] w fun e w'=>ZG (s.fieldC a k) (QnG w' A s a k) e/\Below w.heap.size w w':=by
 have J:=Zd w (.cells #[Iv 0,Iv 0,Nv] 105);have T:=Qa (h.more y J);have C:=Qa J;have G:Hid (Blk (w.alloc (.cells #[Iv 0,Iv 0,Nv] 105)) w.heap.size #[Iv 0,Iv 0,Nv] 105):=Blk.new _ _ _;have HO:=Qa y;clear h J y;go_enter func245,ntmps245
 go_upto_region 1 with fail
 generalize w.alloc (.cells #[Iv 0,Iv 0,Nv] 105)=w1 at T C G |-;obtain⟨R,K⟩:∃ R,w.heap.size=R:=⟨_,Z⟩
 have HR:=Qa (Nat.le_of_eq K);rw[K] at G |-
 clear K;go_wp2_with fail
 refine(Qad a 3 hL (fun k hk=>Zl (HO.out k hk) C.out.size) T.out).mono ?_
 rintro e' P ⟨y,W⟩;have B2:Hid (Below w.heap.size w P):=C.out.trans (W.mono C.out.size);have X2:=Qa (G.out.below W);rcases y with ⟨m,x,rfl,t,p,c,Q,rfl,ht,N⟩|⟨m,rfl⟩
 rotate_left
 ·exact⟨Z,.inr ⟨by rw[QcQ m];exact m,by rw[QcQ m]⟩,B2.out⟩
 have f:=Qa (QhB.mk1 (c:=c) B2.out X2.out HR.out ht);have HA:=Qa Q;have E:=Qa (Qib (k:=k) m Q);clear ht Q N W G C T X2 m;go_upto_region 2 with fail
 generalize P.alloc (.cells #[Iv t.kind,Iv t.r,.slice p t.len c] 105)=w3 at f |-;generalize P.heap.size=B at f |-;obtain⟨y0,y1,y2,r0,r1,r2,z0,z1,z2⟩:=f.out.cells
 have aa:=f.out.ne;have D:Hid (t.len=t.2.2.length):=TT.len_eq t;by_cases i:k<t.2.2.length
 rotate_left
 ·have U:Hid (s.fieldC a k=9):=by show _=_;rw[E.out,Xr i]
  have j:¬ (k:Int)<t.len:=by rw[D.out];omega
  clear i;generalize t.len=tl at y2 j;go_wp2_with fail
  refine(Zf _ 9).mono ?_
  rintro e' w' ⟨rfl,n⟩;subst n;exact⟨Z,ZG.bad U.out (by decide),f.out.bel⟩
 ·have U:Hid (s.fieldC a k=0):=by show _=_;rw[E.out,Xs i]
  have j:(k:Int)<t.len:=by rw[D.out];omega
  have I:Hid (t.2.2[k]?=some t.2.2[k]):=Zg i;generalize t.2.2[k]=u at I;obtain⟨g,o,z,H,rfl,V,u0,u1,u2,ut⟩:=f.out.lay k u I.out
  have UT:Hid (TIn w3 (fun g=>¬ (A g\/w.heap.size<=g)) u z):=ut;have ac:¬ R=g:=fun e=>by subst e;exact V (.inr f.out.farR)
  have ab:¬ B=g:=fun e=>by subst e;exact V (.inr f.out.farB)
  clear ut i V;obtain⟨x9,X⟩:=QnJ (k:=u.kind) (r:=u.r) (q:=z) (l:=u.len) (d:=H) f.out.bel f.out.res f.out.farR
  have F:=Qa x9;have M:=Qa X;clear x9 X;generalize ad:t.len=tl at y2 j;go_wp2_with (go_at_call 268;refine(Zh _ _).mono ?_;rintro e' w' ⟨rfl,n⟩;have n:=n.symm;subst n)
  generalize ((w3.setCell ⟨R,0,none⟩ (Iv u.kind)).setCell ⟨R,1,none⟩ (Iv u.r)).setCell ⟨R,2,none⟩ (.slice z u.len H)=w9 at F M |-;have x0:=Qb F.out 0 _ Z;have x1:=Qb F.out 1 _ Z;have x2:=Qb F.out 2 _ Z;exact Xy (v:=Tv u z H) (by simp[results,results245,go_sem,x0,x1,x2]) Z ⟨ZG.good U.out ⟨t,u,z,H,HA.out,I.out,Z,(UT.out.over f.out.bel M.out).less⟩,M.out⟩
theorem Qhx (x:Int) (t:l.length=N) (E:N<=100000) (z:intsL.In w Q l [.slice p N c]) :
 Calls prog 288 #[.slice p N c,Iv x] w fun e w'=>(∃ i:Int,e=.returned (Iv i)/\(0<=i↔x∈l))/\w'=w:=by
 have F:=Qa z;have B:=Qa t;clear z t;go_enter func288,ntmps288
 go_wp2
 go_loop [8] (fun i=>∃ k:Nat,k<=N/\i=Iv k/\∀ (j:Nat) (y:Int),j<k->l[j]?=some y->x≠y) (fun i=>N - (intOf i).toNat)
 case atStart=>exact⟨0,Xb _,Z,fun j y r=>by omega⟩
 case round =>
  obtain⟨k,H,rfl,A⟩:=hrel
  have u:=Qa A;clear A;by_cases f:k<N
  ·have m:(k:Int)<N:=by omega
   have b:k<l.length:=by rw[B.out];exact f
   obtain⟨g,o,rfl,-,G,s⟩:=ZH F.out b
   obtain⟨y,d⟩:∃ y,l[k]?=some y:=⟨_,Zg b⟩
   rw[show l.getD k 0=y by rw[List.getD_eq_getElem?_getD,d];rfl] at s
   have v:=Qa d;clear d b;by_cases a:x=y
   ·have n:(x==y)=true:=by simpa using a
    have C:Hid (x∈l):=by show _;rw[a];exact Zm v.out
    clear a;go_wp2
    go_ret;exact⟨⟨k,Z,by simp[C.out]⟩,Z⟩
   ·have n:(x==y)=false:=by simpa using a
    have q:=Qa a;clear a;go_wp2
    go_round
    case rel =>
     refine⟨k+1,f,by go_num,fun j D r d=>?_⟩
     rcases Nat.lt_or_ge j k with h | h
     ·exact u.out j D h d
     ·have:j=k:=by omega
      subst this;have e:=v.out.symm.trans d;injection e with e
      subst e;exact q.out
    case measure=>simp[intOf];omega
  ·have m:¬ (k:Int)<N:=by omega
   go_wp2
   go_ret;refine⟨⟨-1,Z,by omega,fun hm=>?_⟩,Z⟩
   obtain⟨j,r,e⟩:=List.mem_iff_getElem.1 hm
   exact absurd e.symm (u.out j _ (by have:=B.out;omega) (Zg r))
theorem Qd5 (x:Int) (d:l.length=N) (b:N<=100000) (g:intsL.In w Q l [.slice p N c]) :
 Calls prog 279 #[.slice p N c,Iv x] w fun e w'=>e=.returned (.bool (inB l x))/\w'=w:=by
 have C:=Qa (Qhx x d b g);clear g d;go_enter func279,ntmps279
 go_wp2_with fail
 refine C.out.mono ?_;rintro e w' ⟨⟨i,rfl,f⟩,a⟩;have a:=a.symm;subst a
 have E:Hid (inB l x=decide (i>=0)):=by
  show _=_;rw[Bool.eq_iff_iff,inB_iff]
  simp[f]
 clear C f;go_wp2
 go_ret;exact⟨by rw[E.out];rfl,Z⟩
theorem Qf6 (H:List Bool) (l:List Int)(a:l[k]?=some x):QL H (l.take k) (l.drop k)=if hHas H x then (if inB (l.take k) x then 13 else QL H (l.take (k+1)) (l.drop (k+1))) else 10:=by
 obtain⟨b,e⟩:=Zi a
 rw[List.drop_eq_getElem_cons b,e,QL,XV,a]
 rfl
def Qb2 (H:List Bool) (l:List Int) (asked:Int):Int:=if (l.length:Int)=asked then QL H [] l else 2
theorem Qd3 {A:Nat->Prop}{s:JSt}(d:Int) (J:l.length=N) (S:N<=100000) (U:N<=c) (L:intsL.In w Q l [.slice p N c]) (h:SAt w b O A s) :
 Calls prog 273 #[Pv b 0,.slice p N c,Iv d] w fun e w'=>ZG (Qb2 s.H l d) VNone e/\w'=w:=by
 have P:=Qa L;have z:=Qa J;obtain⟨pm,cm,W,a1,c1,a2,c2,a3,c3,X,cL,B⟩:=h.read
 obtain⟨-,q1,-⟩:=B.cells
 have T:=Qa B.held;clear h L J B;by_cases m:(N:Int)=d
 rotate_left
 ·have q:((N:Int)==d)=false:=by simpa using m
  have E:Hid (Qb2 s.H l d=2):=by show _=_;unfold Qb2;rw[z.out,Xr m]
  go_enter func273,ntmps273
  go_wp2_with fail
  refine(Zf _ 2).mono ?_
  rintro n w' ⟨rfl,a⟩;subst a;exact⟨Z,ZG.bad E.out (by decide),Z⟩
 subst m;have q:((N:Int)==(N:Int))=true:=by simp
 have E:Hid (Qb2 s.H l N=QL s.H [] l):=by show _=_;unfold Qb2;rw[z.out,Xs Z]
 go_enter func273,ntmps273
 go_wp2_with (go_at_call 268;refine(Zh _ _).mono ?_;rintro n w' ⟨rfl,a⟩;have a:=a.symm;subst a)
 go_loop [15] (fun i=>∃ k:Nat,k<=N/\i=Iv k/\QL s.H [] l=QL s.H (l.take k) (l.drop k)) (fun i=>N - (intOf i).toNat)
 case atStart=>exact⟨0,Xb _,Z,Z⟩
 case round =>
  obtain⟨k,hk,rfl,M⟩:=hrel
  have K:=Qa M;clear M;by_cases r:k<N
  ·have t:(k:Int)<N:=by omega
   have R:k<=c:=by omega
   have f:k<l.length:=by rw[z.out];exact r
   obtain⟨g,o,rfl,-,hg,F⟩:=ZH P.out f
   obtain⟨y,x⟩:∃ y,l[k]?=some y:=⟨_,Zg f⟩
   rw[show l.getD k 0=y by rw[List.getD_eq_getElem?_getD,x];rfl] at F
   have I:=Qa (K.out.trans (Qf6 s.H l x));have C:=Qa (QcA y T.out)
   cases hq:hHas s.H y with
   | false =>
     rw[hq] at C
     have j:Hid (Qb2 s.H l N=10):=by show _=_;rw[E.out,I.out,hq];rfl
     clear x f hq;go_wp2_with (go_at_call 272;refine(C.out).mono ?_;rintro e w' ⟨rfl,a⟩;have a:=a.symm;subst a)
     refine(Zf _ 10).mono ?_
     rintro n w' ⟨rfl,a⟩;subst a;exact⟨Z,ZG.bad j.out (by decide),Z⟩
   | true =>
     rw[hq] at C
     have D:Hid (∀ G,Calls prog 279 #[.slice (some ⟨g,o,none⟩) k G,Iv y] w fun e w'=>e=.returned (.bool (inB (l.take k) y))/\w'=w):=fun G=>Qd5 y (by rw[List.length_take];omega) (by omega) (QhX P.out (Nat.le_of_lt f) G);have u:Hid (QL s.H [] l=if inB (l.take k) y then 13 else QL s.H (l.take (k+1)) (l.drop (k+1))):=by show _=_;rw[I.out,hq];rfl
     clear x f hq I
     cases hi:inB (l.take k) y with
     | true =>
       rw[hi] at D
       have j:Hid (Qb2 s.H l N=13):=by show _=_;rw[E.out,u.out,hi];rfl
       clear hi;go_wp2_with (go_at_call 272;refine(C.out).mono ?_;rintro e w' ⟨rfl,a⟩;have a:=a.symm;subst a)
       refine(Zh _ _).mono ?_
       rintro n w' ⟨rfl,a⟩;have a:=a.symm;subst a;go_wp2_with (go_at_call 279;refine(D.out _).mono ?_;rintro e w' ⟨rfl,a⟩;have a:=a.symm;subst a)
       refine(Zf _ 13).mono ?_
       rintro n w' ⟨rfl,a⟩;subst a;exact⟨Z,ZG.bad j.out (by decide),Z⟩
     | false =>
       rw[hi] at D
       have j:Hid (QL s.H [] l=QL s.H (l.take (k+1)) (l.drop (k+1))):=by show _=_;rw[u.out,hi];rfl
       clear hi;go_wp2_with (go_at_call 272;refine(C.out).mono ?_;rintro e w' ⟨rfl,a⟩;have a:=a.symm;subst a)
       refine(Zh _ _).mono ?_
       rintro n w' ⟨rfl,a⟩;have a:=a.symm;subst a;go_wp2_with (go_at_call 279;refine(D.out _).mono ?_;rintro e w' ⟨rfl,a⟩;have a:=a.symm;subst a)
       refine(Zh _ _).mono ?_
       rintro n w' ⟨rfl,a⟩;have a:=a.symm;subst a;go_wp2
       go_round
       case rel=>exact⟨k+1,r,by go_num,j.out⟩
       case measure=>simp[intOf];omega
  ·have t:¬ (k:Int)<N:=by omega
   have V:k=N:=by omega
   have j:Hid (Qb2 s.H l N=0):=by
    show _=_;rw[E.out,K.out,List.drop_of_length_le (by rw[z.out];omega)]
    rfl
   go_wp2
   exact Xz (v:=.tuple #[]) (by simp[results,results273,go_sem]) Z ⟨ZG.good j.out Z,Z⟩
noncomputable def JSt.handC (s:JSt) (l:List Int) (ts:List (TT 6)):Int:=if l.length=ts.length then Qu (fun p:Int × TT 6=>s.beC p.1 p.2) (l.zip ts) else 2
theorem QaD {A R:Nat->Prop}{s:JSt}{ts:List (TT 6)}{pt:Option Addr}{M:Nat}(U:l.length=N) (ab:N<=100000) (hM:ts.length=M) (aa:M<=100000) (hl:intsL.In w Q l [.slice p N c]) (ht:LIn w R ts pt)
 (hL:s.L.length<=80) (m:∀ x∈s.L,x.count<=100000) (K:∀ k,O k->k<w.heap.size) (h:SAt w b O A s) :
 Calls prog 251 #[Pv b 0,.slice p N c,.slice pt M d] w fun e w'=>ZG (s.handC l ts) VNone e/\Below w.heap.size w w':=by
 have H:=Qa h;have HO:=Qa K;have HL:=Qa hl;have HT:=Qa ht;have P:=Qa U;have J:=Qa hM;have HC:=Qa m;clear h K hl U ht hM m;by_cases I:N=M
 rotate_left
 ·have B:((N:Int)==(M:Int))=false:=by simp;omega
  have E:Hid (s.handC l ts=2):=by show _=_;unfold JSt.handC;rw[P.out,J.out,Xr I]
  go_enter func251,ntmps251
  go_wp2_with fail
  refine(Zf _ 2).mono ?_
  rintro V w' ⟨rfl,D⟩;subst D;exact⟨Z,ZG.bad E.out (by decide),Zr⟩
 subst I;have B:((N:Int)==(N:Int))=true:=by simp
 have E:Hid (s.handC l ts=Qu (fun p:Int × TT 6=>s.beC p.1 p.2) (l.zip ts)):=by show _=_;unfold JSt.handC;rw[P.out,J.out,Xs Z]
 go_enter func251,ntmps251
 go_wp2_with (go_at_call 268;refine(Zh _ _).mono ?_;rintro V w' ⟨rfl,D⟩;have D:=D.symm;subst D)
 go_loopw [16] (fun i wr=>∃ k:Nat,k<=N/\i=Iv k/\Below w.heap.size w wr/\∀ (j:Nat) (y:Int × TT 6),j<k->(l.zip ts)[j]?=some y->s.beC y.1 y.2=0) (fun i _=>N - (intOf i).toNat)
 case atStart=>exact⟨0,Xb _,Z,Zr,fun j y hj=>by omega⟩
 case round =>
  obtain⟨k,hk,rfl,X,hz⟩:=hrel
  have a:=Qa X;have S:=Qa hz;clear X hz;by_cases r:k<N
  ·have G:(k:Int)<N:=by omega
   have q:k<l.length:=by rw[P.out];exact r
   have C:k<ts.length:=by rw[J.out];exact r
   obtain⟨g,o,rfl,-,hg,z⟩:=ZH HL.out q
   obtain⟨y,f⟩:∃ y,l[k]?=some y:=⟨_,Zg q⟩
   obtain⟨t,u⟩:∃ t,ts[k]?=some t:=⟨_,Zg C⟩
   rw[show l.getD k 0=y by rw[List.getD_eq_getElem?_getD,f];rfl] at z
   obtain⟨g2,o2,p2,c2,rfl,-,W,d1,d2,n⟩:=HT.out.at u
   have HX:Hid ((l.zip ts)[k]?=some (y,t)):=by show _=_;rw[List.getElem?_zip_eq_some];exact⟨f,u⟩
   have y0:=Qk z a.out;have z0:=Qk W a.out;have z1:=Qk d1 a.out;have z2:=Qk d2 a.out;have HK:=Qa (n.below a.out);clear z q C W d1 d2 f u n;go_wp2_with fail
   refine(QcN y HK.out hL HC.out (fun k hk=>Zl (HO.out k hk) a.out.size) (H.out.below a.out)).mono ?_
   rintro V w2 ⟨K,b2⟩;have B2:Hid (Below w.heap.size w w2):=a.out.trans (b2.mono a.out.size);rcases K with ⟨F,x,rfl,-⟩|⟨F,rfl⟩
   rotate_left
   ·have e9:s.handC l ts=s.beC y t:=by rw[E.out,Qau HX.out S.out F]
    exact⟨Z,.inr ⟨by rw[e9];exact F,by rw[e9]⟩,B2.out⟩
   have T:=Qa F;clear F b2 y0 z0 z1 z2;go_wp2
   go_roundw
   case rel =>
    refine⟨k+1,r,by go_num,B2.out,fun j y' hj f=>?_⟩
    rcases Nat.lt_or_ge j k with h | h
    ·exact S.out j y' h f
    ·have:j=k:=by omega
     subst this;have e:=HX.out.symm.trans f;injection e with e
     subst e;exact T.out
   case measure=>simp[intOf];omega
  ·have G:¬ (k:Int)<N:=by omega
   go_wp2
   exact Xz (v:=.tuple #[]) (by simp[results,results251,go_sem]) Z ⟨ZG.good (by rw[E.out];exact Qae (fun j y f=>S.out j y (by have:=(Zi f).1;rw[List.length_zip,P.out,J.out] at this;omega) f)) Z,a.out⟩
theorem Qia (b:l.length=N) (a:intsL.In w Q l [.slice p N c]):Qlj w p N (fun i=>l.getD i 0):=fun i d=>by
 obtain⟨g,o,e,-,-,h⟩:=ZH a (show i<l.length by omega)
 exact⟨g,o,e,h⟩
theorem Qk1 {t:TT 6}{e:Ending}(h:Qgv w w' (t.ren regs.length (fun i=>regs.getD i 0)) e):∃ a c q,e=.returned (.tuple #[Tv (Qaj regs t) a c,.bool q])/\TIn w' (Qcs w.heap.size) (Qaj regs t) a/\Below w.heap.size w w':=by
 unfold Qaj
 cases hr:t.ren regs.length (fun i=>regs.getD i 0) with
 | none =>
   rw[hr] at h
   obtain⟨rfl,b⟩:=h
   exact⟨none,0,false,Z,fun i x g=>by simp[zeroTT] at g,b⟩
 | some u =>
   rw[hr] at h
   obtain⟨a,c,rfl,d,f⟩:=h
   exact⟨a,c,true,Z,d,f⟩
theorem Qa0 {R:Nat->Prop}{ts:List (TT 6)}{pt:Option Addr}{M:Nat}(B:regs.length=N) (hM:ts.length=M) (ab:M<=1000) (W:intsL.In w Q regs [.slice p N c]) (ht:LIn w R ts pt) (j:∀ x∈ts,x.count<=2000) :
 Calls prog 274 #[.slice pt M d,.slice p N c] w fun e w'=>∃ g,e=.returned (.slice (some ⟨g,0,none⟩) M M)/\w.heap.size<=g/\QcC w' g M (ts.map (Qaj regs))/\Below w.heap.size w w':=by
 have K:=Qa hM;have HI:=Qa (Qia B W);have HT:=Qa ht;have HC:=Qa j;have HN:=Qa B;have J:=Qh7 w M (by omega);have H:Hid (Below w.heap.size w (w.alloc (.cells (madeCells #[Iv 0,Iv 0,Nv] (M*3)) 105))):=Zd _ _;have A:Hid (QcC (w.alloc (.cells (madeCells #[Iv 0,Iv 0,Nv] (M*3)) 105)) w.heap.size M ([]:List (TT 6))):=⟨_,Qe w _ _,size_madeCells _ _,fun i x hx=>by simp at hx⟩;clear hM W ht j B;go_enter func274,ntmps274
 go_wp2
 generalize w.alloc (.cells (madeCells #[Iv 0,Iv 0,Nv] (M*3)) 105)=w1 at H A |-;obtain⟨G,y⟩:∃ G,G=w.heap.size:=⟨_,Z⟩
 rw[<-y] at A |-
 have z:=Qa (Nat.le_of_eq y.symm);have HE:=Qa y;clear J y;go_loopw [13] (fun i wr=>∃ q:Nat,q<=M/\i=Iv q/\QcC wr G M ((ts.take q).map (Qaj regs))/\Below w.heap.size w wr) (fun i _=>M - (intOf i).toNat)
 case atStart=>exact⟨0,Xb _,Z,A.out,H.out⟩
 case round =>
  clear A H;obtain⟨q,hq,rfl,hY,S⟩:=hrel
  have f:=Qa S;have Y:=Qa hY;clear S hY;by_cases n:q<M
  ·have ac:(q:Int)<M:=by omega
   have u:q<ts.length:=by rw[K.out];exact n
   obtain⟨t,a⟩:∃ t,ts[q]?=some t:=⟨_,Zg u⟩
   obtain⟨g2,o2,F,D,rfl,-,P,U,d2,l⟩:=HT.out.at a
   have z0:=Qk P f.out;have T:=Qk U f.out;have z2:=Qk d2 f.out
   have C:Hid (∀ m,Below wr.heap.size wr m->Calls prog 285 #[Tv t F D,.slice p N c] m fun e w'=>∃ a' c' qb,e=.returned (.tuple #[Tv (Qaj regs t) a' c',.bool qb])/\TIn w' (Qcs m.heap.size) (Qaj regs t) a'/\Below m.heap.size m w'):=fun m hb=>by
    have s:=f.out.trans (hb.mono f.out.size)
    have:=rename_any 6 t F D p N c (fun i=>regs.getD i 0) m (l.below s).all (HC.out t (Zm a)) (HI.out.below s)
    refine this.mono (fun e w' h=>?_);rw[<-HN.out] at h
    exact Qk1 h
   have HS:Hid ((ts.take (q+1)).map (Qaj regs)=(ts.take q).map (Qaj regs)++[Qaj regs t]):=by show _=_;rw[XV,a,List.map_append];rfl
   have v:Hid (((ts.take q).map (Qaj regs)).length=q):=by show _=_;rw[XN,List.length_take];omega
   clear P U d2 l a u;simp only[Tv] at C
   generalize t.kind=tk at z0 C;generalize t.r=tr at T C;generalize t.len=tl at z2 C;have ad:q*3+2<M*3:=by omega
   go_wp2_with fail
   have o:Below wr.heap.size wr (wr.alloc (.cells #[Iv tk,Iv tr,.slice F tl D] 105)):=(Below.refl _ wr).alloc Ze _;refine(C.out _ o).mono ?_
   rintro e I ⟨a4,O,qb,rfl,t4,E⟩;have b:=Y.out.below (o.trans (E.mono o.size));have B4:Hid (Below w.heap.size w I):=f.out.trans ((o.trans (E.mono o.size)).mono f.out.size);obtain⟨v0,r0⟩:=b.has (q*3) (by omega)
   obtain⟨v1,r1⟩:=b.has (q*3+1) (by omega)
   obtain⟨v2,r2⟩:=b.has (q*3+2) (by omega)
   have f0:=b.frozen (q*3);have f1:=b.frozen (q*3+1);have f2:=b.frozen (q*3+2);have X:TIn I (Qcs (G+1)) (Qaj regs t) a4:=t4.mono (fun k hk _=>by have:=Y.out.lt;have:wr.heap.size<=k:=Zt o.size hk;omega);have V:=Qa (b.set (c:=O) v.out n X);have L:Hid (Below w.heap.size w (((I.setCell ⟨G,q*3,none⟩ (Iv (Qaj regs t).kind)).setCell ⟨G,q*3+1,none⟩ (Iv (Qaj regs t).r)).setCell ⟨G,q*3+2,none⟩ (.slice a4 (Qaj regs t).len O))):=((B4.out.setCell (p:=⟨G,q*3,none⟩) z.out _).setCell (p:=⟨G,q*3+1,none⟩) z.out _).setCell (p:=⟨G,q*3+2,none⟩) z.out _;clear b X t4 E o C z0 T z2;simp only[Tv] at V L |-
   go_wp2
   go_roundw
   case rel=>exact⟨q+1,n,by go_num,by rw[HS.out];exact V.out,L.out⟩
   case measure=>simp[intOf];omega
  ·have aa:¬ (q:Int)<M:=by omega
   have e:ts.take q=ts:=XO (by rw[K.out];omega);rw[e] at Y
   go_wp2
   go_ret;exact⟨G,Z,z.out,Y.out,f.out⟩
abbrev Qol (Z:Type):=List (Nat × (Z->World->(Nat->Prop)->Prop))
theorem Qgm {m:Nat}{too:Nat->Int}(b:∀ i,i<m->-9223372036854775808<=too i/\too i<=9223372036854775807):{n:Nat}->{t u:TT n}->t.ok->t.ren m too=some u->u.ok
 | 0,t,_,_,_=>Empty.elim t
 | n+1,t,u,hok,h=>by
   simp only[TT.ren] at h
   cases e1:ZK m too t.1 t.2.1 with
   | none=>simp[e1] at h
   | some r1 =>
     simp only[e1] at h
     cases e2:ZU (TT.ren m too) t.2.2 with
     | none=>simp[e2] at h
     | some l1 =>
       simp only[e2] at h
       have h:=Xn h;subst h;refine⟨?_,fun x f=>?_⟩
       ·show -9223372036854775808<=r1/\r1<=9223372036854775807;unfold ZK at e1;split at e1
        ·cases e1;exact hok.1
        split at e1
        ·cases e1
        rename_i g j
        split at e1
        ·cases e1
        ·cases e1;exact b _ (by omega)
       ·obtain⟨d,e⟩:=ZV.1 e2
        obtain⟨i,c⟩:=List.getElem?_of_mem f
        have a:i<t.2.2.length:=by rw[<-d];exact(Zi c).1
        have:=e i t.2.2[i] (Zg a)
        rw[c] at this
        exact Qgm b (hok.2 _ (List.getElem_mem a)) this
theorem Qju (h:intsL.In w Q l [.slice a m c]):∀ x∈l,-9223372036854775808<=x/\x<=9223372036854775807:=fun x e=>by
 obtain⟨i,d⟩:=List.getElem?_of_mem e
 obtain⟨g,o,f,_,_,_,_,_,b⟩:=Yf h d
 exact b
theorem QdD {m:List (MFunc 6)}(h:(QaN 6).In w Q m [.slice p n c]){g:MFunc 6}(i:m[k]?=some g) :
 ∃ mg mo a1 c1 a2 c2 a3 c3,p=some ⟨mg,mo,none⟩/\w.cell? ⟨mg,mo+k*4,none⟩=some (Iv g.regs)/\w.cell? ⟨mg,mo+k*4+1,none⟩=some (.slice a1 g.params.length c1)/\w.cell? ⟨mg,mo+k*4+2,none⟩=some (.slice a2 g.results.length c2)/\w.cell? ⟨mg,mo+k*4+3,none⟩=some (.slice a3 g.blocks.length c3) /\
  (Qp 6).In w Q g.params [.slice a1 g.params.length c1]/\(Qp 6).In w Q g.results [.slice a2 g.results.length c2]:=by
 obtain⟨mg,mo,l,f,q,j,a,d⟩:=Yf h i
 obtain⟨a1,c1,a2,c2,a3,c3,rfl,b,e,o,r⟩:=Qav d
 exact⟨mg,mo,a1,c1,a2,c2,a3,c3,f,a 0 (by decide),a 1 (by decide),a 2 (by decide),a 3 (by decide),b,e⟩
theorem QlW (h:∀ x∈regs,-9223372036854775808<=x/\x<=9223372036854775807){t:TT 6}(a:t.ok):(Qaj regs t).ok:=by
 unfold Qaj
 cases e:t.ren regs.length (fun i=>regs.getD i 0) with
 | none=>exact⟨⟨by decide,by decide⟩,fun x c=>by simp[zeroTT] at c⟩
 | some u=>exact Qgm (fun i b=>h (regs.getD i 0) (by simp[List.getD,b])) a e
theorem QcC.types {M:Nat}{A:Nat->Prop}{l:List (TT 6)}(h:QcC w G M l) (t:l.length=M) (d:∀ x∈l,x.ok) (f:∀ k,G<=k->¬ A k):(Qp 6).In w (fun g=>¬ A g) l [.slice (some ⟨G,0,none⟩) M M]:=by
 obtain⟨q,b,v,n⟩:=h.row
 subst t;refine⟨_,_,Z,fun i x m=>?_⟩
 obtain⟨a,c,u,p,s,o⟩:=n i x m
 refine⟨G,0,[Iv x.kind,Iv x.r,.slice a x.len c],Z,f G Ze,XC b,fun j e=>?_,a,c,Z,o.mono (fun k y _=>f k (by omega)),d x (Zm m)⟩
 have e:j<3:=e;show w.cell? ⟨G,0+i*3+j,none⟩=_;rw[XK]
 match j,e with
 | 0,_=>exact Qb b _ _ u
 | 1,_=>exact Qb b _ _ p
 | 2,_=>exact Qb b _ _ s
 | j+3,h=>exact absurd h (by omega)
noncomputable def JSt.callC (s:JSt) (x:Qs):Int:=match s.m[x.k.toNat]? with
 | none=>0
 | some g=>Qv (Qb2 s.H x.regs g.regs) (Qv (s.handC x.args (g.params.map (Qaj x.regs))) (QY s.L.length g.results.length))
def JSt.callS (s:JSt) (x:Qs):JSt:={ s with L:=s.L++(match s.m[x.k.toNat]? with | none=>[] | some g=>g.results.map (Qaj x.regs)) }
def Qnw (w2:World) (b X mg mo nm cm k n1 d1 n2 d2 n3 d3:Nat) (fr:Int) (p1 p2 p3:Option Addr) (t:Tmp) (v:Value) (w:World):Prop :=
 match ([(4,fun v w=>∃ B,v=.pointer (some ⟨B,0,none⟩)/\w2.heap.size<=B/\Blk w B #[.int .i64 0,.slice none 0 0,.slice none 0 0,.slice none 0 0] 89)]:List (Tmp × (Value->World->Prop))).lookup t with
 | some p=>p v w
 | none=>v=(([(0,.pointer (some ⟨b,0,none⟩)),(3,.pointer (some ⟨X,0,none⟩)),(5,.pointer (some ⟨b,0,none⟩)),(6,.pointer (some ⟨b,0,none⟩)),(7,.pointer (some ⟨b,0,none⟩)),(8,.pointer (some ⟨b,0,none⟩)),(9,.slice (some ⟨mg,mo,none⟩) nm cm),(10,.pointer (some ⟨X,4,none⟩)),(11,.int .i64 (k:Int)),(12,.pointer (some ⟨mg,mo+k*4,none⟩)),(13,.agg #[.int .i64 fr,.slice p1 n1 d1,.slice p2 n2 d2,.slice p3 n3 d3])]:List (Tmp × Value)).lookup t).getD undef
theorem jc1 {d f x u d1 j q r l:Nat}{p1 o A:Option Addr}(R:w2.cell? ⟨b,0,none⟩=some (.slice (some ⟨d,f,none⟩) x cm)) (H:w2.cell? ⟨X,4,none⟩=some (Iv (k:Int))) (D:w2.cell? ⟨d,f+k*4,none⟩=some (Iv fr)) (N:w2.cell? ⟨d,f+k*4+1,none⟩=some (.slice p1 u d1)) (M:w2.cell? ⟨d,f+k*4+2,none⟩=some (.slice o j q)) (F:w2.cell? ⟨d,f+k*4+3,none⟩=some (.slice A r l)) (P:(k:Int)<x){Q:Exit->Act->World->Prop}
 (a:Act) (m:Nat) (E:a.tmps.size=m) (s:36<=m) (O:a.tmps.getD 0 undef=Pv b 0) (L:a.tmps.getD 3 undef=Pv X 0)
 (hend:∀ ops vs w',vs 13=.agg #[Iv fr,.slice p1 u d1,.slice o j q,.slice A r l]->(fun v w=>∃ B,v=Pv B 0/\w2.heap.size<=B/\Blk w B #[Iv 0,Nv,Nv,Nv] 89) (vs 4) w'->Below w2.heap.size w2 w'->wpList prog ops Q (Qan 10 ((Tryz.f249.body.bind (Qi 1)).getD .skip)) (QM a vs [5,6,7,8,9,10,11,12,13,4]) w') :
 Code.wp prog ((Tryz.f249.body.bind (Qi 1)).getD .skip) Q a w2:=by
 conv=>arg 2;whnf
 refine Qg 10 (Qnw w2 b X d f x cm k u d1 j q r l fr p1 o A) (fun w=>Below w2.heap.size w2 w) (fun w w'=>Below w.heap.size w w') (outs:=[0,3]) (gs:=[]) (bs:=[true,true,true,true,true,true,true,true,true,true]) (by kernel_rfl) (n:=36) E s (by kernel_rfl) (by kernel_rfl) ?hR ?hG (QI Zr 1) ⟨O,L,Y⟩ ?hA ?hend
 case hR =>
  intro t v w w' I h;unfold Qnw at h |-;split at h
  ·rename_i p i
   simp only[List.lookup_cons,List.lookup_nil] at i
   split at i
   ·cases i;exact(by obtain⟨B,e,J,C⟩:=h;exact⟨B,e,J,(I.block B (XC C)).trans C⟩)
   ·cases i
  ·exact h
 case hG=>exact Y
 case hend=>exact fun ops vs w' c g=>hend ops vs w' (g 13 (by kernel_rfl)) (g 4 (by kernel_rfl)) c
 case hA =>
  repeat
   refine⟨fun a w c g K z=>?_,?_⟩
   focus first
    | obtain⟨y,-⟩:=g
      conv at y=>whnf;rhs;whnf
      have U:=Qk R c;have W:=Qk H c;have S:=Qk D c;have V:=Qk N c;have T:=Qk M c;have c5:=Qk F c;go_simp;exact z _ _ Zr c Z
    | clear g
      go_simp;exact z _ _ (Zd _ _) (c.alloc c.size _) ⟨_,Z,c.size,Qe _ _ _⟩
    | obtain⟨y,G,-⟩:=g
      conv at y=>whnf;rhs;whnf
      conv at G=>whnf;rhs;whnf
      go_simp;exact z _ _ Zr c Z
  trivial
def QnO (w2:World) (b X C N ac n1 d1 Kn rc:Nat) (ag rg p1:Option Addr) (ps:List (TT 6)) (regs:List Int) (t:Tmp) (v:Value) (w:World):Prop :=
 match ([(27,fun v w=>∃ g,v=.slice (some ⟨g,0,none⟩) n1 n1/\w2.heap.size<=g/\QcC w g n1 (ps.map (Qaj regs)))]:List (Tmp × (Value->World->Prop))).lookup t with
 | some p=>p v w
 | none=>v=(([(0,.pointer (some ⟨b,0,none⟩)),(3,.pointer (some ⟨X,0,none⟩)),(4,.pointer (some ⟨C,0,none⟩)),(20,.pointer (some ⟨b,0,none⟩)),(21,.pointer (some ⟨X,7,none⟩)),(22,.slice ag N ac),(23,.pointer (some ⟨C,1,none⟩)),(24,.slice p1 n1 d1),(25,.pointer (some ⟨X,6,none⟩)),(26,.slice rg Kn rc)]:List (Tmp × Value)).lookup t).getD undef
theorem jc3 {C d d1 k:Nat}{p1:Option Addr}{i:List (TT 6)}{R:Nat->Prop}(P:w2.cell? ⟨X,6,none⟩=some (.slice rg k rc)) (G:w2.cell? ⟨X,7,none⟩=some (.slice ag N ac)) (M:w2.cell? ⟨C,1,none⟩=some (.slice p1 d d1)) (I:Hid (regs.length=k)) (y:Hid (i.length=d)) (o:d<=1000) (J:Hid (intsL.In w2 Q regs [.slice rg k rc])) (O:Hid (LIn w2 R i p1)) (B:Hid (∀ x∈i,x.count<=2000)){Q:Exit->Act->World->Prop}
 (a:Act) (m:Nat) (A:a.tmps.size=m) (q:36<=m) (S:a.tmps.getD 0 undef=Pv b 0) (H:a.tmps.getD 3 undef=Pv X 0) (L:a.tmps.getD 4 undef=Pv C 0)
 (hend:∀ ops vs w',vs 22=.slice ag N ac->vs 20=Pv b 0->(fun v w=>∃ g,v=.slice (some ⟨g,0,none⟩) d d/\w2.heap.size<=g/\QcC w g d (i.map (Qaj regs))) (vs 27) w'->Below w2.heap.size w2 w'->wpList prog ops Q (Qan 8 ((Tryz.f249.body.bind (Qi 3)).getD .skip)) (QM a vs [20,21,22,23,24,25,26,27]) w') :
 Code.wp prog ((Tryz.f249.body.bind (Qi 3)).getD .skip) Q a w2:=by
 conv=>arg 2;whnf
 refine Qg 8 (QnO w2 b X C N ac d d1 k rc ag rg p1 i regs) (fun w=>Below w2.heap.size w2 w) (fun w w'=>Below w.heap.size w w') (outs:=[0,3,4]) (gs:=[]) (bs:=[true,true,true,true,true,true,true,true]) (by kernel_rfl) (n:=36) A q (by kernel_rfl) (by kernel_rfl) ?hR ?hG (QI Zr 1) ⟨S,H,L,Y⟩ ?hA ?hend
 case hR =>
  intro t v w w' E h;unfold QnO at h |-;split at h
  ·rename_i p j
   simp only[List.lookup_cons,List.lookup_nil] at j
   split at j
   ·cases j;exact(by obtain⟨g,e,F,T⟩:=h;exact⟨g,e,F,T.below E⟩)
   ·cases j
  ·exact h
 case hG=>exact Y
 case hend=>exact fun ops vs w' c f=>hend ops vs w' (f 22 (by kernel_rfl)) (f 20 (by kernel_rfl)) (f 27 (by kernel_rfl)) c
 case hA =>
  iterate 7
   refine⟨fun a w c f K u=>?_,?_⟩
   ·obtain⟨s,-⟩:=f
    conv at s=>whnf;rhs;whnf
    have V:=Qk G c;have W:=Qk M c;have u2:=Qk P c;go_simp;exact u _ _ Zr c Z
  refine⟨fun a w c f K u=>?_,?_⟩
  ·obtain⟨s,D,-⟩:=f
   conv at s=>whnf;rhs;whnf
   conv at D=>whnf;rhs;whnf
   go_simp;refine Xm (Qa0 I.out y.out o (Ya J.out c) (O.out.below c) B.out) ?_;rintro r7 w7 ⟨U,rfl,r,l,z⟩;go_simp;exact u _ _ z (c.trans (z.mono c.size)) ⟨U,Z,Zt c.size r,l⟩
  trivial
theorem QhF {A:Nat->Prop}{s:JSt}{x:Qs}(hA:∀ k,A k->k<w.heap.size) (hJ:JOk s) (h:SAt w b O A s) (j:intsL.In w Q x.regs [.slice rg x.regs.length rc]) (l:intsL.In w Q x.args [.slice ag x.args.length ac]) (aj:x.regs.length<=rc) (bc:x.regs.length<=6) (ap:x.args.length<=8) (al:0<=x.k/\x.k<s.m.length) :
 Calls prog 249 #[Pv b 0,Qed x rg ag rc ac] w fun e w'=>QO w b O A s (s.callS x) (s.callC x) e w':=by
 obtain⟨G,F,M,B,xk,I,a,f⟩:=x
 simp only at j l aj bc ap al
 have HJ:=Qa hJ;have H0:=Qa h;have HA:=Qa hA;have hL:=hJ.vals;have b1:=Zd w (.cells #[Iv G,Iv F,Iv M,Iv B,Iv xk,Iv I,.slice rg a.length rc,.slice ag f.length ac] 78);have H:=Qa (h.below b1);have HR:Hid (intsL.In _ Q a [.slice rg a.length rc]):=Ya j b1;have HG:Hid (intsL.In _ Q f [.slice ag f.length ac]):=Ya l b1;have HB:=Qa b1;have X1:Hid (Blk (w.alloc (.cells #[Iv G,Iv F,Iv M,Iv B,Iv xk,Iv I,.slice rg a.length rc,.slice ag f.length ac] 78)) w.heap.size #[Iv G,Iv F,Iv M,Iv B,Iv xk,Iv I,.slice rg a.length rc,.slice ag f.length ac] 78):=Blk.new _ _ _;clear h hA hJ b1 j l;obtain⟨k,rfl⟩:=Xc al.1
 have au:k<s.m.length:=by omega
 have q:s.m[k]?=some s.m[k]:=Zg au;generalize s.m[k]=g at q;have ax:Hid (g∈s.m):=Zm q
 have E:Hid (s.callC ⟨G,F,M,B,(k:Int),I,a,f⟩=Qv (Qb2 s.H a g.regs) (Qv (s.handC f (g.params.map (Qaj a))) (QY s.L.length g.results.length))):=by
  show _=_;unfold JSt.callC;simp only[Int.toNat_natCast,q]
 have ES:Hid (s.callS ⟨G,F,M,B,(k:Int),I,a,f⟩={ s with L:=s.L++g.results.map (Qaj a) }):=by
  show _=_;unfold JSt.callS;simp only[Int.toNat_natCast,q]
 have a0:=Qa (HJ.out.mod.2 g ax.out);have az:Hid (¬ MFunc.great g):=fun hg=>HJ.out.tiny (.inr ⟨g,ax.out,hg⟩);have bi:Hid (∀ t∈g.params,t.count<=2000):=fun t ht=>Xo fun ai=>az.out (.inr (.inl (.inr ⟨t,ht,ai⟩)));have bk:Hid (∀ t∈g.results,t.count<=2000):=fun t ht=>Xo fun ai=>az.out (.inr (.inr (.inl (.inr ⟨t,ht,ai⟩))));have bl:Hid (∀ t∈s.L,t.count<=100000):=fun t ht=>Zt (Z1 (HJ.out.types t ht)) (by omega);have bb:(k:Int)<s.m.length:=by omega
 go_enter func249,ntmps249
 go_upto_region 1 with fail
 generalize w.alloc (.cells #[Iv G,Iv F,Iv M,Iv B,Iv (k:Int),Iv I,.slice rg a.length rc,.slice ag f.length ac] 78)=w1 at H HR HG HB X1 |-;obtain⟨X,hX⟩:∃ X,w.heap.size=X:=⟨_,Z⟩
 rw[hX] at X1 |-
 clear hX;have x4:=Qb X1.out 4 _ Z;have x6:=Qb X1.out 6 _ Z;have x7:=Qb X1.out 7 _ Z;obtain⟨pm,cm,hh,a1,c1,a2,c2,a3,c3,aL,cL,RR⟩:=H.out.read
 obtain⟨q0,-⟩:=RR.cells
 obtain⟨mg,mo,p1,d1,P,D,p3,d3,rfl,f0,f1,f2,f3,hP,a8⟩:=QdD RR.mod q
 have am:Hid ((Qp 6).In w1 (fun g=>¬ A g) g.params [.slice p1 g.params.length d1]):=hP;have ah:Hid ((Qp 6).In w1 (fun g=>¬ A g) g.results [.slice P g.results.length D]):=a8;clear RR hP a8 q al;generalize s.m.length=nm at q0 au bb;generalize bh:g.regs=fr at f0 E;generalize ae:g.params.length=S at f1 am;have be:=Qa ae;generalize af:g.results.length=o at f2 ah E;have a5:=Qa af;generalize g.blocks.length=n3 at f3;have bm:S<=8:=by rw[<-ae];exact a0.out.params.1
 have bn:o<=8:=by rw[<-af];exact a0.out.results.1
 clear ae af bh;refine jc1 q0 x4 f0 f1 f2 f3 bb _ _ Z (Xg (by kernel_rfl)) Z Z ?_;rintro ak vs w5 ab ⟨C,a7,hC,n⟩ b5;show wpList _ ak _ [_] (QM _ vs [5,6,7,8,9,10,11,12,13,4]) w5;simp only[QM,Act.put,List.setIfInBounds_toArray,List.set_cons_zero,List.set_cons_succ,ab,a7]
 have e0:=Qb n 0 _ Z;have e1:=Qb n 1 _ Z;have e2:=Qb n 2 _ Z;have e3:=Qb n 3 _ Z;have ef:∀ i,w5.frozen? ⟨C,i,none⟩=false:=fun i=>Qj n i
 have B6:Hid (Blk ((((w5.setCell ⟨C,0,none⟩ (Iv fr)).setCell ⟨C,1,none⟩ (.slice p1 S d1)).setCell ⟨C,2,none⟩ (.slice P o D)).setCell ⟨C,3,none⟩ (.slice p3 n3 d3)) C #[Iv fr,.slice p1 S d1,.slice P o D,.slice p3 n3 d3] 89):=by
  have h3:=Qh (Qh (Qh (Qh n 0 (Iv fr)) 1 (.slice p1 S d1)) 2 (.slice P o D)) 3 (.slice p3 n3 d3);exact h3
 have J:Hid (Below w1.heap.size w1 ((((w5.setCell ⟨C,0,none⟩ (Iv fr)).setCell ⟨C,1,none⟩ (.slice p1 S d1)).setCell ⟨C,2,none⟩ (.slice P o D)).setCell ⟨C,3,none⟩ (.slice p3 n3 d3))) :=
  (((b5.setCell (p:=⟨C,0,none⟩) hC _).setCell (p:=⟨C,1,none⟩) hC _).setCell (p:=⟨C,2,none⟩) hC _).setCell (p:=⟨C,3,none⟩) hC _
 clear n hC b5 ab a7 q0 f0 f1 f2 f3;go_upto_region 2 with fail
 generalize ((((w5.setCell ⟨C,0,none⟩ (Iv fr)).setCell ⟨C,1,none⟩ (.slice p1 S d1)).setCell ⟨C,2,none⟩ (.slice P o D)).setCell ⟨C,3,none⟩ (.slice p3 n3 d3))=w6 at B6 J |-;clear e0 e1 e2 e3 ef;obtain⟨e0,e1,e2,e3⟩:=QmH B6.out
 have x6:=Qk x6 J.out;have x7:=Qk x7 J.out;have H6:=Qa (H.out.below J.out);have R:=Qa (HB.out.trans (J.out.mono HB.out.size));have u:Hid (intsL.In w6 Q a [.slice rg a.length rc]):=Ya HR.out J.out;have ad:Hid (intsL.In w6 Q f [.slice ag f.length ac]):=Ya HG.out J.out;have a9:Hid ((Qp 6).In w6 (fun g=>¬ A g) g.params [.slice p1 S d1]):=Ya am.out J.out;have aq:Hid ((Qp 6).In w6 (fun g=>¬ A g) g.results [.slice P o D]):=Ya ah.out J.out;clear H HB HR HG am ah J B6 X1 x4;obtain⟨K,hK⟩:∃ K,a.length=K:=⟨_,Z⟩
 have HK:=Qa hK;rw[hK] at x6 u aj bc
 clear hK;obtain⟨N,hN⟩:∃ N,f.length=N:=⟨_,Z⟩
 have HN:=Qa hN;rw[hN] at x7 ad ap
 clear hN;have CL:=Qa (Qd3 fr HK.out (by omega) aj u.out H6.out);go_wp2_with fail
 refine CL.out.mono ?_;rintro e' w' ⟨hO,hw⟩;have hw:=hw.symm;subst hw;rcases hO with ⟨z,y,rfl,hy⟩|⟨z,rfl⟩
 rotate_left
 ·exact⟨Z,QO.bad (by rw[E.out,Ql z]) z (Yh H0.out R.out)⟩
 subst hy;have E2:Hid (s.callC ⟨G,F,M,B,(k:Int),I,a,f⟩=Qv (s.handC f (g.params.map (Qaj a))) (QY s.L.length o)):=by show _=_;rw[E.out,Qx z]
 clear z CL E;go_upto_region 3 with fail
 refine jc3 x6 x7 e1 HK be (by omega) u (Qa (QW a9.out).1) bi _ _ Z (Xg (by kernel_rfl)) Z Z Z ?_;rintro ak vs w7 W U ⟨gP,V,bj,a4⟩ b7;show wpList _ ak _ [_] (QM _ vs [20,21,22,23,24,25,26,27]) w7;simp only[QM,Act.put,List.setIfInBounds_toArray,List.set_cons_zero,List.set_cons_succ,W,U,V]
 have H7:=Qa (H6.out.below b7);have T:=Qa (R.out.trans (b7.mono R.out.size))
 have CH:Hid (Calls prog 251 #[Pv b 0,.slice ag N ac,.slice (some ⟨gP,0,none⟩) S S] w7 fun e w'=>ZG (s.handC f (g.params.map (Qaj a))) VNone e/\Below w7.heap.size w7 w') :=
  QaD HN.out (by omega) (by rw[XN,be.out]) (by omega) (Ya ad.out b7) a4.lin hL bl.out (fun k hk=>Zl (HA.out k (H0.out.sub k hk)) T.out.size) H7.out
 have ay:Hid ((Qp 6).In w7 (fun g=>¬ A g) g.results [.slice P o D]):=Ya aq.out b7;have av:Hid (intsL.In w7 Q a [.slice rg K rc]):=Ya u.out b7;have aw:=Qk e2 b7;have ar:=Qk x6 b7;clear a4 bj b7 W U V H6 R u ad a9 aq e0 e1 e2 e3 x6 x7;go_wp2_with fail
 refine CH.out.mono ?_;rintro e' w8 ⟨hO,b8⟩;have H8:=Qa (H7.out.below b8);have r:=Qa (T.out.trans (b8.mono T.out.size));rcases hO with ⟨z,y,rfl,hy⟩|⟨z,rfl⟩
 rotate_left
 ·exact⟨Z,QO.bad (by rw[E2.out,Ql z]) z (Yh H0.out r.out)⟩
 subst hy;have E3:Hid (s.callC ⟨G,F,M,B,(k:Int),I,a,f⟩=QY s.L.length o):=by show _=_;rw[E2.out,Qx z]
 have ao:Hid ((Qp 6).In w8 (fun g=>¬ A g) g.results [.slice P o D]):=Ya ay.out b8;have an:Hid (intsL.In w8 Q a [.slice rg K rc]):=Ya av.out b8;have bf:=Qk aw b8;have a6:=Qk ar b8;clear z CH E2 b8 ay av aw ar H7 T;have CR:=Qa (Qa0 (d:=D) (c:=rc) HK.out a5.out (by omega) an.out (QW ao.out).1 bk.out);go_wp2_with fail
 refine CR.out.mono ?_;rintro e' w9 ⟨gR,rfl,bg,ba,b9⟩;have bd:=Qa (r.out.trans (b9.mono r.out.size))
 have CM:Hid (Calls prog 244 #[Pv b 0,.slice (some ⟨gR,0,none⟩) o o] w9 fun e w'=>QO w b O A s (s.callS ⟨G,F,M,B,(k:Int),I,a,f⟩) (s.callC ⟨G,F,M,B,(k:Int),I,a,f⟩) e w'):=by
  rw[ES.out,E3.out]
  have aa:(g.results.map (Qaj a)).length=o:=by rw[XN,a5.out]
  refine(Qax aa (by omega) (ba.types aa (fun y hy=>?_) (fun k hk e=>?_)) hL (fun k hk=>Zl (HA.out k hk) bd.out.size) (H8.out.below b9)).mono (fun e w' hd=>hd.after bd.out)
  ·obtain⟨t,ht,rfl⟩:=List.mem_map.1 hy
   exact QlW (Qju an.out) ((QW ao.out).2 t ht)
  ·have h1:=HA.out k e;have h2:=r.out.size;omega
 clear ba bg b9 CR ao an bf a6 H8 r E3;go_wp2_with fail
 refine CM.out.mono ?_;rintro e' bo hd;have FF:=Qa hd;rcases hd with ⟨h1,rfl,h3⟩|⟨h1,rfl,h3⟩
 rotate_left
 ·exact⟨Z,FF.out⟩
 clear h1 h3 CM;go_wp2
 exact Xz (v:=.tuple #[]) (by simp[results,results249,go_sem]) Z FF.out
def passC (H:List Bool) (kept:Int) (l:List Int) (asked:Int):Int:=if (l.length:Int)=asked then Qv (Qdp kept.toNat l) (hPass H [] l) else 2
theorem QjM (a:k<n) (h:l.getD k 0≠(k:Int)):Qdp n l=11:=by
 unfold Qdp;rw[Xr]
 intro e;rw[Xe] at e
 have:=e k (List.mem_range.2 a)
 exact h (by simpa using this)
theorem Qkb (h:∀ k,k<n->l.getD k 0=(k:Int)):Qdp n l=0:=by
 unfold Qdp;rw[Xs]
 rw[Xe]
 intro k a;exact Xt (h k (List.mem_range.1 a))
theorem Qeb {A:Nat->Prop}{s:JSt}(a:Int) (hN:l.length=N) (U:N<=100000) (hl:intsL.In w Q l [.slice p N c]) (x:0<=s.f.regs) (B:s.f.regs<=a) (h:SAt w b O A s) :
 Calls prog 275 #[Pv b 0,.slice p N c,Iv a] w fun e w'=>ZG (passC s.H s.f.regs l a) VNone e/\Below w.heap.size w w':=by
 have HL:=Qa hl;have K:=Qa hN;obtain⟨pm,cm,hh,a1,c1,a2,c2,a3,c3,aL,cL,P⟩:=h.read
 obtain⟨-,q1,q2,-⟩:=P.cells
 have HH:=Qa P.held;clear h hl hN P;by_cases q:(N:Int)=a
 rotate_left
 ·have r:((N:Int)==a)=false:=by simpa using q
  have E:Hid (passC s.H s.f.regs l a=2):=by show _=_;unfold passC;rw[K.out,Xr q]
  go_enter func275,ntmps275
  go_wp2_with fail
  refine(Zf _ 2).mono ?_
  rintro n w' ⟨rfl,d⟩;subst d;exact⟨Z,ZG.bad E.out (by decide),Zr⟩
 subst q;have r:((N:Int)==(N:Int))=true:=by simp
 obtain⟨M,X⟩:∃ M:Nat,s.f.regs=(M:Int):=Xc x
 have E:Hid (passC s.H s.f.regs l N=Qv (Qdp M l) (hPass s.H [] l)):=by show _=_;unfold passC;rw[K.out,Xs Z,X];rfl
 rw[X] at q2 B
 have ac:M<=N:=by omega
 have S:Hid (passC s.H s.f.regs l N=passC s.H s.f.regs l N):=rfl;clear x B S;generalize passC s.H s.f.regs l N=pc at E |-;clear X;go_enter func275,ntmps275
 go_wp2_with (go_at_call 268;refine(Zh _ _).mono ?_;rintro n w' ⟨rfl,d⟩;have d:=d.symm;subst d)
 go_loop [18] (fun i=>∃ k:Nat,k<=M/\i=Iv k/\∀ j,j<k->l.getD j 0=(j:Int)) (fun i=>M - (intOf i).toNat)
 case atStart=>exact⟨0,Xb _,Z,fun j hj=>by omega⟩
 case round =>
  obtain⟨k,hk,rfl,hz⟩:=hrel
  have R:=Qa hz;clear hz;by_cases t:k<M
  ·have G:(k:Int)<M:=by omega
   have aa:(k:Int)<N:=by omega
   have u:k<l.length:=by rw[K.out];omega
   obtain⟨g,o,rfl,-,hg,z⟩:=ZH HL.out u
   clear u;by_cases m:l.getD k 0=(k:Int)
   ·have HY:=Qa m;rw[m] at z
    have ab:((k:Int)==(k:Int))=true:=by simp
    clear m;go_wp2_with (go_at_call 268;refine(Zh _ _).mono ?_;rintro n w' ⟨rfl,d⟩;have d:=d.symm;subst d)
    go_round
    case rel =>
     refine⟨k+1,t,by go_num,fun j hj=>?_⟩
     rcases Nat.lt_or_ge j k with h | h
     ·exact R.out j h
     ·have:j=k:=by omega
      subst this;exact HY.out
    case measure=>simp[intOf];omega
   ·have D:Hid (pc=11):=by show _=_;rw[E.out,QjM t m];rfl
    have L:(l.getD k 0==(k:Int))=false:=by simpa using m
    generalize l.getD k 0=y at z m L;clear m;go_wp2_with fail
    refine(Zf _ 11).mono ?_
    rintro n w' ⟨rfl,d⟩;subst d;exact⟨Z,ZG.bad D.out (by decide),Zr⟩
  ·have G:¬ (k:Int)<M:=by omega
   have T:k=M:=by omega
   have D:Hid (pc=hPass s.H [] l):=by show _=_;rw[E.out,Qkb (fun j hj=>R.out j (by omega))];rfl
   have C:=Qa (Qi1 K.out U HL.out HH.out);generalize hPass s.H [] l=J at D C;clear R T;by_cases F:J=0
   ·have W:(J==0)=true:=by simpa using F
    subst F;go_wp2_with (first | (go_at_call 286;refine(C.out).mono ?_;rintro n w2 ⟨rfl,I⟩;have V:=Qa I;clear I) | (go_at_call 268;refine(Zh _ _).mono ?_;rintro n w' ⟨rfl,d⟩;have d:=d.symm;subst d))
    exact Xz (v:=.tuple #[]) (by simp[results,results275,go_sem]) Z ⟨ZG.good D.out Z,V.out⟩
   ·have W:(J==0)=false:=by simpa using F
    have H0:=Qa F;clear F;go_wp2_with (go_at_call 286;refine(C.out).mono ?_;rintro n w2 ⟨rfl,I⟩;have V:=Qa I;clear I)
    refine(Zf _ J).mono ?_
    rintro n w' ⟨rfl,d⟩;subst d;exact⟨Z,ZG.bad D.out H0.out,V.out⟩
theorem Qgs {s:JSt}{r:Int}(f:∀ x∈regs,hHas s.H x=true) (g:(regs.length:Int)=r){t:TT 6}(c:t.check r=0):t.ren regs.length (fun i=>regs.getD i 0)=some (Qaj regs t):=by
 obtain⟨u,e,-⟩:=Qfx (m:=regs.length) (too:=fun i=>regs.getD i 0) (a:=r) (b:=s.H.length) (by omega) (fun i d=>ZZ (f (regs.getD i 0) (by simp[List.getD,d]))) c
 unfold Qaj;rw[e]
 rfl
theorem QdO {s:JSt}{ts d:List (TT 6)}(a:d.length=ts.length) (h:∀ (i:Nat) t u,ts[i]?=some t->d[i]?=some u->t.ren regs.length (fun i=>regs.getD i 0)=some u):s.handC l d=s.args l ts regs:=by
 unfold JSt.handC JSt.args;rw[a]
 by_cases c:l.length=ts.length
 ·rw[Xs c,Xs c]
  refine QaS (by rw[List.length_zip,List.length_zip,a]) (fun i p q f g=>?_);rw[List.getElem?_zip_eq_some] at f g
  obtain⟨j,k⟩:=f
  obtain⟨b,m⟩:=g
  rw[j] at b
  injection b with b
  have n:=h i q.2 p.2 m k;show s.beC p.1 p.2=s.arg regs q.1 q.2;unfold JSt.beC JSt.arg;rw[<-b]
  cases s.at p.1 with
  | none=>rfl
  | some u =>
    show (if ZR (u=p.2) then (0:Int) else 9)=if ZR (q.2.ren regs.length (fun i=>regs.getD i 0)=some u) then 0 else 9
    rw[n]
    have:ZR (u=p.2)=ZR (some p.2=some u):=QfN (by rw[Qa5];exact⟨fun e=>by rw[e],fun e=>(Xn e).symm⟩)
    rw[this]
 ·rw[Xr c,Xr c]
theorem Qfj {s:JSt}{ts:List (TT 6)}(h:∀ t∈ts,t.ren regs.length (fun i=>regs.getD i 0)=some (Qaj regs t)):s.handC l (ts.map (Qaj regs))=s.args l ts regs :=
 QdO (by rw[XN]) (fun i t u b a=>by
  rw[XS,b] at a
  injection a with a
  rw[<-a]
  exact h t (Zm b))
theorem QgM {m:Nat}{too:Nat->Int}{a:Int}(g:a<=m) (c:∀ i,i<m->too i=(i:Int)):{n:Nat}->{t:TT n}->t.fault a=0->t.ren m too=some t
 | 0,t,_=>Empty.elim t
 | n+1,t,h=>by
   obtain⟨b,e⟩:=TT.fault_zero h
   have d:ZK m too t.1 t.2.1=some t.2.1:=by
    unfold ownC at b;split at b
    ·cases b
    split at b
    ·cases b
    split at b
    ·cases b
    split at b
    ·cases b
    split at b
    ·cases b
    rename_i r s q u v
    by_cases j:t.1=1
    ·rw[ZK,Xs j]
    ·have:=c t.2.1.toNat (by omega)
     rw[ZK,Xr j,Xr (by omega),Xr (by omega),this]
     congr 1
     omega
   have o:ZU (TT.ren m too) t.2.2=some t.2.2:=by
    generalize t.2.2=l at e
    induction l with
    | nil=>rfl
    | cons x xs ih =>
      have p:=QgM g c (e x (by simp));have f:=ih (fun y k=>e y (by simp[k]));simp[ZU,p,f]
   simp only[TT.ren,d,o]
   rfl
theorem QeA {H:List Bool}:∀ {rest ahead:List Int},hPass H ahead rest=0->∀ x∈rest,hHas H x=true
 | [],ahead,h,x,a=>by cases a
 | r::rest,ahead,h,x,a=>by
   simp only[hPass] at h
   split at h
   ·rename_i b
    split at h
    ·cases h
    ·rcases List.mem_cons.1 a with rfl | a
     ·exact b
     ·exact QeA h x a
   ·cases h
theorem Qnf {s:JSt}{g:MBlock 6}{a:List Int}(i:s.f.blocks[k]?=some g) (h:∀ t∈g.params,t.check g.regs=0):s.to ⟨(k:Int),a,xs⟩=Qv (passC s.H s.f.regs a g.regs) (s.handC xs (g.params.map (Qaj a))):=by
 unfold JSt.to passC;simp only[Int.toNat_natCast,i]
 by_cases d:(a.length:Int)=g.regs
 ·rw[Xs d,Xs d]
  by_cases b:Qdp s.f.regs.toNat a=0
  ·rw[Qx b,Qx b]
   by_cases c:hPass s.H [] a=0
   ·rw[Qx c,Qx c,Qfj (fun t e=>Qgs (s:=s) (QeA c) d (h t e))]
   ·rw[Ql c,Ql c]
  ·rw[Ql b,Ql b];rw[Ql b]
 ·rw[Xr d,Xr d];rfl
theorem QmY {s:JSt}(d:s.f.regs=(n:Int)) (g:∀ t∈s.f.results,t.check s.f.regs=0):s.handC l s.f.results=s.args l s.f.results (QhC s.f.regs.toNat) :=
 QdO Z (fun i t u e b=>by
  rw[e] at b
  injection b with b
  rw[<-b,d,XT]
  have:=g t (Zm e)
  refine QgM (a:=s.f.regs) (by rw[d];unfold QhC;simp) (fun i c=>?_) (QU.1 this).2;unfold QhC at c |-;simp at c
  simp[List.getD,c])
theorem QkB {A:Nat->Prop}{s:JSt}{x:Qs}(hA:∀ k,A k->k<w.heap.size) (K:JOk s) (h:SAt w b O A s) (o:intsL.In w Q x.regs [.slice rg x.regs.length rc]) (n:intsL.In w Q x.args [.slice ag x.args.length ac]) (D:x.regs.length<=rc) (E:ZD x) (hf:x.form s.m.length=0) (q:x.op=14) :
 Calls prog 212 #[Pv b 0,Qed x rg ag rc ac] w fun e w'=>QO w b O A s (s.next x) (s.goC x) e w':=by
 have hE:=Qa4 (s:=s) q;obtain⟨op,j,i,f,p,d,a,c⟩:=x
 have q:op=14:=q;subst q;have HE:=Qa hE;obtain⟨f1,f2,U,-⟩:=Q6 hf
 have C:=Qa (Xh f1 (Xh f2 U));obtain⟨ra,T,F⟩:=E
 have HI:=Qa (Xh ra (Xh T F));have hL:=K.vals;have B:=Qa (Qgr hA K h o n D #[Iv 14,Iv j,Iv i,Iv f,Iv p,Iv d,.slice rg a.length rc,.slice ag c.length ac]);clear h hA K o n hE hf f1 f2 U ra T F D;go_enter func212,ntmps212
 go_upto_region 1 with fail
 generalize w.alloc (.cells #[Iv 14,Iv j,Iv i,Iv f,Iv p,Iv d,.slice rg a.length rc,.slice ag c.length ac] 78)=w1 at B |-;generalize w.heap.size=X at B |-;obtain⟨HJ,H0,aa,H,HR,HG,HB,HA,HO,X1,S⟩:=B.out
 clear B;obtain⟨x0,x1,x2,x3,x4,-,x6,x7⟩:=QV X1.out
 have N:Hid (∀ e z,QO w b O A s (s.callS ⟨14,j,i,f,p,d,a,c⟩) (s.callC ⟨14,j,i,f,p,d,a,c⟩) e z->QO w b O A s (s.next ⟨14,j,i,f,p,d,a,c⟩) (s.goC ⟨14,j,i,f,p,d,a,c⟩) e z):=fun e z I=>(by
  have hk:=C.out.2.1 Z;obtain⟨k,u⟩:=Xc hk.1
  have u:p=(k:Int):=u;subst u;have J:k<s.m.length:=by have:=hk.2.1;omega
  have l:s.m[k]?=some s.m[k]:=Zg J;generalize s.m[k]=g at l;have P:g∈s.m:=Zm l;have R:=HJ.out.mod.2 g P;have e1:s.callC ⟨14,j,i,f,(k:Int),d,a,c⟩=Qv (Qb2 s.H a g.regs) (Qv (s.handC c (g.params.map (Qaj a))) (QY s.L.length g.results.length)):=by unfold JSt.callC;simp only[Int.toNat_natCast,l]
  have e2:s.makes ⟨14,j,i,f,(k:Int),d,a,c⟩=if (a.length:Int)=g.regs then (Qv (QL s.H [] a) (s.args c g.params a),g.results.map (Qaj a)) else (2,[]):=by rw[HE.out];simp only[Int.toNat_natCast,l]
  have M:s.goC ⟨14,j,i,f,(k:Int),d,a,c⟩=s.callC ⟨14,j,i,f,(k:Int),d,a,c⟩:=by
   rw[e1]
   unfold JSt.goC Qb2;rw[e2]
   by_cases r:(a.length:Int)=g.regs
   ·rw[Xs r,Xs r]
    by_cases y:QL s.H [] a=0
    ·rw[Qfj (fun t ht=>Qgs (s:=s) (ZF y) r (R.params.2 t ht)),Qx y,XN,Qx y]
    ·rw[Ql y,Ql y,Ql y]
   ·rw[Xr r,Xr r];rfl
  refine I.to M (fun G=>?_);rw[QT (by simp) (by simp),e2]
  unfold JSt.callS;simp only[Int.toNat_natCast,l]
  rw[e1] at G
  unfold Qb2 at G;by_cases r:(a.length:Int)=g.regs
  ·rw[Xs r]
  ·rw[Xr r] at G;cases G)
 have W:=Qa (QhF (x:=⟨14,j,i,f,p,d,a,c⟩) HA.out HJ.out H.out HR.out HG.out S.out (C.out.2.1 Z).2.2.1 (C.out.2.1 Z).2.2.2 ⟨(C.out.2.1 Z).1,(C.out.2.1 Z).2.1⟩);have x5:=Qb X1.out 5 _ Z;go_wp2_with fail
 refine W.out.mono ?_;rintro e' z I;have V:Hid (QO w b O A s (s.next ⟨14,j,i,f,p,d,a,c⟩) (s.goC ⟨14,j,i,f,p,d,a,c⟩) e' z):=N.out _ _ (I.after HB.out);rcases I with ⟨h1,rfl,h3⟩|⟨h1,rfl,h3⟩
 rotate_left
 ·exact⟨Z,V.out⟩
 clear h1 h3 W;go_wp2
 exact Xz (v:=.tuple #[]) (by simp[results,results212,go_sem]) Z V.out
theorem QlZ {A:Nat->Prop}{s:JSt}{x:Qs}(hA:∀ k,A k->k<w.heap.size) (hJ:JOk s) (h:SAt w b O A s) (f:intsL.In w Q x.regs [.slice rg x.regs.length rc]) (i:intsL.In w Q x.args [.slice ag x.args.length ac]) (S:x.regs.length<=rc) (P:ZD x) (hf:x.form s.m.length=0) (j:x.op=6) :
 Calls prog 212 #[Pv b 0,Qed x rg ag rc ac] w fun e w'=>QO w b O A s (s.next x) (s.goC x) e w':=by
 have hE:=QcW (s:=s) j;obtain⟨op,a,F,o,xk,E,D,q⟩:=x
 have j:op=6:=j;subst j;have HE:=Qa hE;obtain⟨f1,f2,f3,-⟩:=Q6 hf
 have HF:=Qa (Xh f1 (Xh f2 f3));obtain⟨ra,rb,T⟩:=P
 have HI:=Qa (Xh ra (Xh rb T));have hL:=hJ.vals;have B:=Qa (Qgr hA hJ h f i S #[Iv 6,Iv a,Iv F,Iv o,Iv xk,Iv E,.slice rg D.length rc,.slice ag q.length ac]);clear h hA hJ f i hE hf f1 f2 f3 ra rb T S;go_enter func212,ntmps212
 go_upto_region 1 with fail
 generalize w.alloc (.cells #[Iv 6,Iv a,Iv F,Iv o,Iv xk,Iv E,.slice rg D.length rc,.slice ag q.length ac] 78)=w1 at B |-;generalize w.heap.size=X at B |-;obtain⟨HJ,H0,ai,H,HR,HG,HB,HA,HO,X1,aj⟩:=B.out
 clear B;obtain⟨x0,x1,x2,x3,x4,-,x6,x7⟩:=QV X1.out
 obtain⟨k,G⟩:=Xc (HF.out.1 (by simp)).1
 have G:xk=(k:Int):=G;subst G;have ah:k<=7:=by have:=(HF.out.1 (by simp)).2;simp only at this;omega
 have EG:Hid (s.goC ⟨6,a,F,o,(k:Int),E,D,q⟩=Qv (s.fieldC a k) (QY s.L.length 1)):=by
  show _=_;unfold JSt.goC JSt.fieldC;rw[HE.out]
  simp only[Int.toNat_natCast]
  cases J:s.at a with
  | none=>unfold JSt.want;rw[J];rfl
  | some t =>
    simp only
    by_cases z:s.want a 3 true=0
    ·rw[Xs z,Qx z]
     by_cases n:k<t.2.2.length
     ·rw[Zg n,Xs n];rfl
     ·rw[Xk (by omega),Xr n];rfl
    ·rw[Xr z,Ql z];rw[Ql z,Ql z]
 have C1:=Qa (QdH a k (by omega) hL HO.out H.out);go_wp2_with fail
 refine(C1.out ).mono ?_
 rintro e' w2 ⟨hq,b2⟩;have V:=Qa (HB.out.trans (b2.mono HB.out.size));have H2:=Qa (H.out.below b2);have R:=Qa (fun k n=>Zl (HA.out k n) b2.size);have af:=Qa (fun k n=>Zl (HO.out k n) b2.size);rcases hq with ⟨I,y2,rfl,hy⟩|⟨I,rfl⟩
 rotate_left
 ·exact⟨Z,QO.bad ((fun I=>by rw[EG.out,Ql I]) I) I (Yh H0.out V.out)⟩
 have M:=Qa I;clear I b2 C1;obtain⟨t,u,p,c,J,hu,rfl,N⟩:=hy
 have aa:=TT.height_lt u;have h5:u.height<=5:=by omega
 have W:t.check s.H.length=0:=HJ.out.types t (QdU J).1
 have C:u.ok:=by
  obtain⟨pm,cm,hh,a1,c1,a2,c2,a3,c3,aL,cL,RR⟩:=H0.out.read
  obtain⟨-,hn,-,ab⟩:=QdU J
  obtain⟨g,a',c',e,-,-,-,-,ad⟩:=RR.row _ t ab
  exact ad.2 u (Zm hu)
 have HS:Hid (s.next ⟨6,a,F,o,(k:Int),E,D,q⟩={ s with L:=s.L++[u.at 5] }):=by
  show _=_;rw[QT (by simp) (by simp),HE.out]
  have z:s.want a 3 true=0:=by
   have:=M.out
   unfold JSt.fieldC at this;exact(QD this).1
  simp only[Int.toNat_natCast,J,if_pos z,hu]
 have ae:Hid (∀ e U,QO w b O A s { s with L:=s.L++[u.at 5] } (QY s.L.length 1) e U->QO w b O A s (s.next ⟨6,a,F,o,(k:Int),E,D,q⟩) (s.goC ⟨6,a,F,o,(k:Int),E,D,q⟩) e U):=fun e U K=>K.to (by rw[EG.out,Qx M.out]) (fun _=>HS.out)
 have CM:Hid (∀ d,Calls prog 244 #[Pv b 0,.slice (some ⟨w2.heap.size,0,none⟩) 1 d] (w2.alloc (.cells #[Iv u.kind,Iv u.r,.slice p u.len c] 105)) fun e w'=>QO w2 b O A s { s with L:=s.L++[u.at 5] } (QY s.L.length 1) e w'):=fun d=>by
  have b1:=Zd w2 (.cells #[Iv u.kind,Iv u.r,.slice p u.len c] 105);have y:=Qd0 (t:=u.at 5) (p:=p) (c:=c) (d:=d) R.out (TIn.at 5 h5 N) (TT.at_ok 5 C);rw[TT.at_kind,TT.at_r,TT.at_len 5 _ h5] at y
  exact(Qax (l:=[u.at 5]) Z (by simp) y hL (fun k n=>Zl (R.out k n) b1.size) (H2.out.below b1)).mono (fun e w' K=>K.after b1)
 clear J hu N aa h5 W C HS EG;simp only[Tv]
 go_wp2_with fail
 refine(CM.out _).mono ?_
 rintro e' U K;have FF:Hid (QO w b O A s (s.next ⟨6,a,F,o,(k:Int),E,D,q⟩) (s.goC ⟨6,a,F,o,(k:Int),E,D,q⟩) e' U):=ae.out _ _ (K.after V.out);rcases K with ⟨h1,rfl,h3⟩|⟨h1,rfl,h3⟩
 rotate_left
 ·exact⟨Z,FF.out⟩
 clear h1 h3 CM;go_wp2
 exact Xz (v:=.tuple #[]) (by simp[results,results212,go_sem]) Z FF.out
theorem Qlm {A:Nat->Prop}{s:JSt}{x:Qs}(hA:∀ k,A k->k<w.heap.size) (hJ:JOk s) (h:SAt w b O A s) (i:intsL.In w Q x.regs [.slice rg x.regs.length rc]) (j:intsL.In w Q x.args [.slice ag x.args.length ac]) (P:x.regs.length<=rc) (N:ZD x) (hf:x.form s.m.length=0) (n:x.op=7) :
 Calls prog 212 #[Pv b 0,Qed x rg ag rc ac] w fun e w'=>QO w b O A s (s.next x) (s.goC x) e w':=by
 have hE:=QcM (s:=s) n;obtain⟨op,a,f,o,xk,G,F,q⟩:=x
 have n:op=7:=n;subst n;have HE:=Qa hE;obtain⟨f1,f2,f3,-⟩:=Q6 hf
 have HF:=Qa (Xh f1 (Xh f2 f3));obtain⟨ra,rb,S⟩:=N
 have HI:=Qa (Xh ra (Xh rb S));have hL:=hJ.vals;have B:=Qa (Qgr hA hJ h i j P #[Iv 7,Iv a,Iv f,Iv o,Iv xk,Iv G,.slice rg F.length rc,.slice ag q.length ac]);clear h hA hJ i j hE hf f1 f2 f3 ra rb S P;go_enter func212,ntmps212
 go_upto_region 1 with fail
 generalize w.alloc (.cells #[Iv 7,Iv a,Iv f,Iv o,Iv xk,Iv G,.slice rg F.length rc,.slice ag q.length ac] 78)=J at B |-;generalize w.heap.size=X at B |-;obtain⟨HJ,V,ah,H,HR,HG,HB,HA,HO,X1,ai⟩:=B.out
 clear B;obtain⟨x0,x1,x2,x3,x4,-,x6,x7⟩:=QV X1.out
 obtain⟨k,y⟩:=Xc (HF.out.1 (by simp)).1
 have y:xk=(k:Int):=y;subst y;have af:k<=7:=by have:=(HF.out.1 (by simp)).2;simp only at this;omega
 have EG:Hid (s.fieldC a k≠0->s.goC ⟨7,a,f,o,(k:Int),G,F,q⟩=s.fieldC a k):=fun d=>by
  unfold JSt.goC;rw[HE.out]
  unfold JSt.fieldC at d |-;simp only[Int.toNat_natCast]
  cases E:s.at a with
  | none=>unfold JSt.want;rw[E];rfl
  | some t =>
    rw[E] at d
    simp only at d |-
    by_cases D:s.want a 3 true=0
    ·rw[Qx D] at d |-
     rw[Xs D]
     by_cases U:k<t.2.2.length
     ·rw[Xs U] at d;exact absurd Z d
     ·rw[Xk (by omega),Xr U];rfl
    ·rw[Xr D,Ql D,Ql D]
 have aa:Hid (∀ t u,s.fieldC a k=0->s.at a=some t->t.2.2[k]?=some u->s.goC ⟨7,a,f,o,(k:Int),G,F,q⟩=s.beC f (u.at 5)/\s.next ⟨7,a,f,o,(k:Int),G,F,q⟩=s):=fun t u h0 E K=>by
  have D:s.want a 3 true=0:=by
   unfold JSt.fieldC at h0;exact(QD h0).1
  rw[QT (by simp) (by simp)]
  unfold JSt.goC JSt.beC;rw[HE.out]
  simp only[Int.toNat_natCast,E,if_pos D,K]
  cases s.at f with
  | none=>exact⟨Z,by simp⟩
  | some v =>
    simp only
    have e:ZR (u.at 5=v)=ZR (v=u.at 5):=QfN (by rw[Qa5];exact⟨fun e=>e.symm,fun e=>e.symm⟩);rw[e]
    cases ZR (v=u.at 5) with
    | true=>exact⟨by show Qv 0 (QY s.L.length 0)=_;rw[QbT hL];rfl,by simp⟩
    | false=>exact⟨Z,by simp⟩
 have ad:Hid (∀ t∈s.L,t.count<=100000):=fun t ht=>Zt (Z1 (HJ.out.types t ht)) (by omega);go_upto_region 17 with fail
 have BD:Hid (Below J.heap.size J J.drew):=Qb5 Zr;have C1:Hid (Calls prog 245 #[Pv b 0,Iv a,Iv k] J.drew fun e w'=>ZG (s.fieldC a k) (QnG w' A s a k) e/\Below J.drew.heap.size J.drew w'):=QdH a k (by omega) hL HO.out (H.out.below BD.out)
 have DM:Hid (∀ (u:TT 5) (p:Option Addr) (c:Nat) (C:World),TIn C (fun g=>¬ A g) u p->SAt C b O A s->(∀ k,O k->k<C.heap.size)->Calls prog 246 #[Pv b 0,Iv f,.agg #[Iv u.kind,Iv u.r,.slice p u.len c]] C fun e w'=>ZG (s.beC f (u.at 5)) VNone e/\Below C.heap.size C w'):=fun u p c C K hs ho=>by
  have h5:u.height<=5:=by have:=TT.height_lt u;omega
  have:=QcN (s:=s) f (t:=u.at 5) (p:=p) (c:=c) (TIn.at 5 h5 K) hL ad.out ho hs
  rw[show Tv (u.at 5) p c=.agg #[Iv u.kind,Iv u.r,.slice p u.len c] by simp only[Tv,TT.at_kind,TT.at_r,TT.at_len 5 _ h5]] at this
  exact this
 go_region_with (first
  | (go_at_call 245;refine(C1.out).mono ?_;rintro e' w2 ⟨hq,T⟩;have I:=Qa (HB.out.trans ((Zx T).mono HB.out.size));rcases hq with ⟨l,y2,rfl,t,u,p,c,E,K,rfl,M⟩|⟨l,rfl⟩;rotate_left;exact⟨Z,QO.bad (EG.out l) l (Yh V.out I.out)⟩;have ae:=Qk x2 (Zx T);have H2:=Qa (H.out.below (Zx T));have W:=Qa (fun k U=>Zl (HO.out k U) (Zx T).size);have HU:=Qa M;have z:=Qa (aa.out t u l E K);clear M E K l T)
  | (go_at_call 246;refine(DM.out _ _ _ _ HU.out H2.out W.out).mono ?_;rintro e' w3 ⟨hq,b3⟩;have R:=Qa (I.out.trans (b3.mono I.out.size));rcases hq with ⟨l,y3,rfl,hy⟩|⟨l,rfl⟩;rotate_left;exact⟨Z,QO.bad z.out.1 l (Yh V.out R.out)⟩;subst hy;have ab:=Qa l;clear l b3))
 all_goals
  have FF:Hid (QO w b O A s (s.next ⟨7,a,f,o,(k:Int),G,F,q⟩) (s.goC ⟨7,a,f,o,(k:Int),G,F,q⟩) (.returned (.tuple #[])) w3):=QO.none V.out R.out (by rw[z.out.1,ab.out]) z.out.2;go_wp2
  exact Xz (v:=.tuple #[]) (by simp[results,results212,go_sem]) Z FF.out
def QnM (w6:World) (b X mg mo nb cb k:Nat) (ds:List Value) (t:Tmp) (v:Value) (w:World):Prop :=
 match ([(4,fun v w=>∃ B,v=.pointer (some ⟨B,0,none⟩)/\w6.heap.size<=B/\∃ c,c.size=12/\Blk w B c 86)]:List (Tmp × (Value->World->Prop))).lookup t with
 | some p=>p v w
 | none=>v=(([(0,.pointer (some ⟨b,0,none⟩)),(3,.pointer (some ⟨X,0,none⟩)),(5,.pointer (some ⟨b,0,none⟩)),(6,.pointer (some ⟨b,0,none⟩)),(7,.pointer (some ⟨b,2,none⟩)),(8,.pointer (some ⟨b,5,none⟩)),(9,.slice (some ⟨mg,mo,none⟩) nb cb),(10,.pointer (some ⟨X,0,none⟩)),(11,.int .i64 (k:Int)),(12,.pointer (some ⟨mg,mo+k*12,none⟩)),(13,.agg ds.toArray)]:List (Tmp × Value)).lookup t).getD undef
theorem jt1 {i l r y:Nat}(I:w6.cell? ⟨b,5,none⟩=some (.slice (some ⟨i,l,none⟩) r y)) (J:w6.cell? ⟨X,0,none⟩=some (Iv (k:Int))) (F:Hid (w6.rangeAt i (l+k*12) ds)) (u:ds.length=12) (H:(k:Int)<r){Q:Exit->Act->World->Prop}
 (a:Act) (m:Nat) (A:a.tmps.size=m) (x:29<=m) (G:a.tmps.getD 0 undef=Pv b 0) (q:a.tmps.getD 3 undef=Pv X 0)
 (hend:∀ ops vs w',vs 13=.agg ds.toArray->(fun v w=>∃ B,v=Pv B 0/\w6.heap.size<=B/\∃ c,c.size=12/\Blk w B c 86) (vs 4) w'->Below w6.heap.size w6 w'->wpList prog ops Q (Qan 10 ((Tryz.f250.body.bind (Qi 1)).getD .skip)) (QM a vs [5,6,7,8,9,10,11,12,13,4]) w') :
 Code.wp prog ((Tryz.f250.body.bind (Qi 1)).getD .skip) Q a w6:=by
 conv=>arg 2;whnf
 refine Qg 10 (QnM w6 b X i l r y k ds) (fun w=>Below w6.heap.size w6 w) (fun w w'=>Below w.heap.size w w') (outs:=[0,3]) (gs:=[]) (bs:=[true,true,true,true,true,true,true,true,true,true]) (by kernel_rfl) (n:=29) A x (by kernel_rfl) (by kernel_rfl) ?hR ?hG (QI Zr 1) ⟨G,q,Y⟩ ?hA ?hend
 case hR =>
  intro t v w w' D h;unfold QnM at h |-;split at h
  ·rename_i p j
   simp only[List.lookup_cons,List.lookup_nil] at j
   split at j
   ·cases j;exact(by obtain⟨B,e,E,c,q,z⟩:=h;exact⟨B,e,E,c,q,(D.block B (XC z)).trans z⟩)
   ·cases j
  ·exact h
 case hG=>exact Y
 case hend=>exact fun ops vs w' d f=>hend ops vs w' (f 13 (by kernel_rfl)) (f 4 (by kernel_rfl)) d
 case hA =>
  repeat
   refine⟨fun a w d f K o=>?_,?_⟩
   focus first
    | obtain⟨g,-⟩:=f
      conv at g=>whnf;rhs;whnf
      have M:=Qk I d;have N:=Qk J d;go_simp;exact o _ _ Zr d Z
    | clear f
      go_simp;exact o _ _ (Zd _ _) (d.alloc d.size _) ⟨_,Z,d.size,_,Z,Qe _ _ _⟩
    | obtain⟨g,C,-⟩:=f
      conv at g=>whnf;rhs;whnf
      conv at C=>whnf;rhs;whnf
      go_simp;exact o _ _ Zr d Z
    | obtain⟨g,-⟩:=f
      conv at g=>whnf;rhs;whnf
      obtain⟨L,s⟩:=underBk
      refine wp_load_mid 86 (.tmp 12) Z i (l+k*12) g ds _ (Qaf F.out d) s Z (by rw[u];exact sizeBk) ?_;exact o _ _ Zr d Z
  trivial
def QnF (w2:World) (b X C N ac n1 d1 Kn rc:Nat) (ag rg p1:Option Addr) (ps:List (TT 6)) (regs:List Int) (t:Tmp) (v:Value) (w:World):Prop :=
 match ([(27,fun v w=>∃ g,v=.slice (some ⟨g,0,none⟩) n1 n1/\w2.heap.size<=g/\QcC w g n1 (ps.map (Qaj regs)))]:List (Tmp × (Value->World->Prop))).lookup t with
 | some p=>p v w
 | none=>v=(([(0,.pointer (some ⟨b,0,none⟩)),(3,.pointer (some ⟨X,0,none⟩)),(4,.pointer (some ⟨C,0,none⟩)),(20,.pointer (some ⟨b,0,none⟩)),(21,.pointer (some ⟨X,2,none⟩)),(22,.slice ag N ac),(23,.pointer (some ⟨C,1,none⟩)),(24,.slice p1 n1 d1),(25,.pointer (some ⟨X,1,none⟩)),(26,.slice rg Kn rc)]:List (Tmp × Value)).lookup t).getD undef
theorem jt3 {C d d1 k:Nat}{p1:Option Addr}{i:List (TT 6)}{R:Nat->Prop}(O:w2.cell? ⟨X,1,none⟩=some (.slice rg k rc)) (U:w2.cell? ⟨X,2,none⟩=some (.slice ag N ac)) (L:w2.cell? ⟨C,1,none⟩=some (.slice p1 d d1)) (H:Hid (regs.length=k)) (y:Hid (i.length=d)) (o:d<=1000) (I:Hid (intsL.In w2 Q regs [.slice rg k rc])) (M:Hid (LIn w2 R i p1)) (B:Hid (∀ x∈i,x.count<=2000)){Q:Exit->Act->World->Prop}
 (a:Act) (m:Nat) (A:a.tmps.size=m) (q:29<=m) (P:a.tmps.getD 0 undef=Pv b 0) (G:a.tmps.getD 3 undef=Pv X 0) (J:a.tmps.getD 4 undef=Pv C 0)
 (hend:∀ ops vs w',vs 22=.slice ag N ac->vs 20=Pv b 0->(fun v w=>∃ g,v=.slice (some ⟨g,0,none⟩) d d/\w2.heap.size<=g/\QcC w g d (i.map (Qaj regs))) (vs 27) w'->Below w2.heap.size w2 w'->wpList prog ops Q (Qan 8 ((Tryz.f250.body.bind (Qi 3)).getD .skip)) (QM a vs [20,21,22,23,24,25,26,27]) w') :
 Code.wp prog ((Tryz.f250.body.bind (Qi 3)).getD .skip) Q a w2:=by
 conv=>arg 2;whnf
 refine Qg 8 (QnF w2 b X C N ac d d1 k rc ag rg p1 i regs) (fun w=>Below w2.heap.size w2 w) (fun w w'=>Below w.heap.size w w') (outs:=[0,3,4]) (gs:=[]) (bs:=[true,true,true,true,true,true,true,true]) (by kernel_rfl) (n:=29) A q (by kernel_rfl) (by kernel_rfl) ?hR ?hG (QI Zr 1) ⟨P,G,J,Y⟩ ?hA ?hend
 case hR =>
  intro t v w w' E h;unfold QnF at h |-;split at h
  ·rename_i p j
   simp only[List.lookup_cons,List.lookup_nil] at j
   split at j
   ·cases j;exact(by obtain⟨g,e,F,S⟩:=h;exact⟨g,e,F,S.below E⟩)
   ·cases j
  ·exact h
 case hG=>exact Y
 case hend=>exact fun ops vs w' c f=>hend ops vs w' (f 22 (by kernel_rfl)) (f 20 (by kernel_rfl)) (f 27 (by kernel_rfl)) c
 case hA =>
  iterate 7
   refine⟨fun a w c f K u=>?_,?_⟩
   ·obtain⟨s,-⟩:=f
    conv at s=>whnf;rhs;whnf
    have V:=Qk U c;have W:=Qk L c;have u2:=Qk O c;go_simp;exact u _ _ Zr c Z
  refine⟨fun a w c f K u=>?_,?_⟩
  ·obtain⟨s,D,-⟩:=f
   conv at s=>whnf;rhs;whnf
   conv at D=>whnf;rhs;whnf
   go_simp;refine Xm (Qa0 H.out y.out o (Ya I.out c) (M.out.below c) B.out) ?_;rintro r7 w7 ⟨T,rfl,r,l,z⟩;go_simp;exact u _ _ z (c.trans (z.mono c.size)) ⟨T,Z,Zt c.size r,l⟩
  trivial
theorem Qca {A:Nat->Prop}{s:JSt}{x:MTo}(hJ:JOk s) (hO:∀ k,O k->k<w.heap.size) (h:SAt w b O A s) (m:intsL.In w Q x.regs [.slice rg x.regs.length rc]) (n:intsL.In w Q x.args [.slice ag x.args.length ac]) (af:x.regs.length<=16) (au:x.args.length<=8) (aq:0<=x.block/\x.block<s.f.blocks.length) :
 Calls prog 250 #[Pv b 0,toV x rg ag rc ac] w fun e w'=>ZG (s.to x) VNone e/\Below w.heap.size w w':=by
 have HJ:=Qa hJ;have HO:=Qa hO;have hL:=hJ.vals;obtain⟨xb,c,d⟩:=x
 simp only at m n af au aq
 obtain⟨k,rfl⟩:=Xc aq.1
 have bb:k<s.f.blocks.length:=by omega
 have z:s.f.blocks[k]?=some s.f.blocks[k]:=Zg bb;generalize s.f.blocks[k]=g at z;have b1:=Zd w (.cells #[Iv (k:Int),.slice rg c.length rc,.slice ag d.length ac] 82);have ae:=Qe w #[Iv (k:Int),.slice rg c.length rc,.slice ag d.length ac] 82;have K1:=Qa (h.below b1);have al:Hid (intsL.In (w.alloc (.cells #[Iv (k:Int),.slice rg c.length rc,.slice ag d.length ac] 82)) Q c [.slice rg c.length rc]):=Ya m b1;have an:Hid (intsL.In (w.alloc (.cells #[Iv (k:Int),.slice rg c.length rc,.slice ag d.length ac] 82)) Q d [.slice ag d.length ac]):=Ya n b1;have T:=Qa b1;have r:=Qa ae;clear h m n b1 ae hJ hO;go_enter func250,ntmps250
 go_upto_region 1 with fail
 obtain⟨X,hX⟩:∃ X,w.heap.size=X:=⟨_,Z⟩
 generalize bs:w.alloc (.cells #[Iv (k:Int),.slice rg c.length rc,.slice ag d.length ac] 82)=w1 at K1 al an T r |-;rw[hX] at r
 rw[hX]
 clear bs hX;have x0:=Qb r.out 0 _ Z;have x1:=Qb r.out 1 _ Z;have x2:=Qb r.out 2 _ Z;obtain⟨pm,cm,hh,a1,c1,a2,c2,a3,c3,aL,cL,R⟩:=K1.out.read
 obtain⟨-,-,-,-,-,q5,-⟩:=R.cells
 obtain⟨fa,fc,fb,fd,fe,ff,az,-,-,a4,-⟩:=Qav R.fn
 simp only[List.cons.injEq,Value.slice.injEq,and_true,true_and] at az
 obtain⟨-,-,rfl,rfl⟩:=az
 obtain⟨mg,mo,l,i,q,rfl,p,a7,ah,ad⟩:=Qbo a4 z
 have bi:=Qa p;have ao:Hid ((Qp 6).In w1 (fun g=>¬ A g) g.params [.slice l g.params.length i]):=ah;have ap:Hid (q.length=10):=a7;have V:=Qa ad;have bh:(k:Int)<s.f.blocks.length:=by omega
 have bg:=Qa (HJ.out.mod.2 s.f HJ.out.fn);have a8:Hid (g∈s.f.blocks):=Zm z;have S:=Qa (bg.out.blocks g a8.out);have ba:Hid (¬ MBlock.great g):=fun hg=>HJ.out.tiny (.inr ⟨s.f,HJ.out.fn,.inr (.inr (.inr ⟨g,a8.out,hg⟩))⟩);have bm:Hid (∀ t∈g.params,t.count<=2000):=fun t ht=>Xo fun bl=>ba.out (.inr (.inl (.inr ⟨t,ht,bl⟩)));have bt:Hid (∀ t∈s.L,t.count<=100000):=fun t ht=>Zt (Z1 (HJ.out.types t ht)) (by omega);have E:Hid (s.to ⟨(k:Int),c,d⟩=Qv (passC s.H s.f.regs c g.regs) (s.handC d (g.params.map (Qaj c)))):=Qnf z S.out.params.2;clear R a4 p ah ad a7 z aq;generalize bv:s.f.blocks.length=nb at q5 bb bh;refine jt1 q5 x0 bi (by simp[ap.out]) bh _ _ Z (Xg (by kernel_rfl)) Z Z ?_;rintro bo vs o ai ⟨B,bf,hB,cB,a9,P⟩ b5;show wpList _ bo _ [_] (QM _ vs [5,6,7,8,9,10,11,12,13,4]) o;simp only[QM,Act.put,List.setIfInBounds_toArray,List.set_cons_zero,List.set_cons_succ,ai,bf]
 have a:(Value.int .i64 g.regs::Value.slice l g.params.length i::q).length=12:=by simp[ap.out]
 have TH:Hid (o.there B 0 (Value.int .i64 g.regs::Value.slice l g.params.length i::q).toArray.size):=by
  intro j hj;rw[List.size_toArray,a] at hj
  rw[XK]
  refine⟨?_,Qj P j⟩
  rw[Qb P j cB[j] (by simp)];rfl
 have TS:Hid ((prog.info? 86).map (·.size)=some (Value.int .i64 g.regs::Value.slice l g.params.length i::q).toArray.size):=by show _=_;rw[List.size_toArray,a];exact sizeBk
 have TO:Hid ((Value.int .i64 g.regs::Value.slice l g.params.length i::q).toArray.all (·.oneCell')=true):=by
  refine all_oneCell_toArray fun v hv=>?_;simp only[List.mem_cons] at hv
  rcases hv with rfl | rfl | hv
  ·rfl
  ·rfl
  ·exact V.out v hv
 have B6:Hid (Blk (o.setCells B 0 (Value.int .i64 g.regs::Value.slice l g.params.length i::q).toArray.toList) B (Value.int .i64 g.regs::Value.slice l g.params.length i::q).toArray 86):=by
  have h0:Blk o B ([]++cB.toList).toArray 86:=by rw[List.nil_append,Array.toArray_toList];exact P
  have:=Blk.sets (Value.int .i64 g.regs::Value.slice l g.params.length i::q) [] cB.toList o (by rw[a];simp[a9]) h0
  exact this
 have D:Hid (Below w1.heap.size w1 (o.setCells B 0 (Value.int .i64 g.regs::Value.slice l g.params.length i::q).toArray.toList)):=by
  have:=Qz.setCells (O:=fun k=>k=B) (O':=fun k=>k=B) (b:=B) Z (Value.int .i64 g.regs::Value.slice l g.params.length i::q).toArray.toList 0 _ (Qz.refl _ o)
  exact b5.trans (this.below b5.size (fun k hk=>by omega))
 clear P hB a9 b5 ai bf a;generalize aw:g.regs=gr at E S B6 D TH TS TO |-;have br:Hid (g.regs=gr):=aw;generalize ak:g.params.length=M at ao B6 D TH TS TO |-;have bj:Hid (g.params.length=M):=ak;have bu:M<=8:=by rw[<-ak];exact S.out.params.1
 have y0:(o.setCells B 0 (Value.int .i64 gr::Value.slice l M i::q).toArray.toList).cell? ⟨B,0,none⟩=some (Iv gr):=Qb B6.out 0 _ Z;have y1:(o.setCells B 0 (Value.int .i64 gr::Value.slice l M i::q).toArray.toList).cell? ⟨B,1,none⟩=some (.slice l M i):=Qb B6.out 1 _ Z;generalize bk:(Value.int .i64 gr::Value.slice l M i::q).toArray=u at B6 D TH TS TO y0 y1 |-;have K6:=Qa (K1.out.below D.out);have C:Hid (intsL.In (o.setCells B 0 u.toList) Q c [.slice rg c.length rc]):=Ya al.out D.out;have I:Hid (intsL.In (o.setCells B 0 u.toList) Q d [.slice ag d.length ac]):=Ya an.out D.out;have ar:Hid ((Qp 6).In (o.setCells B 0 u.toList) (fun g=>¬ A g) g.params [.slice l M i]):=Ya ao.out D.out;have BW:Hid (Below w.heap.size w (o.setCells B 0 u.toList)):=T.out.trans (D.out.mono T.out.size);have bq:Hid (s.f.regs<=gr):=by have:=S.out.regs.1;rw[br.out] at this;exact this
 have G:=Qk x1 D.out;have F:=Qk x2 D.out;clear aw ak bk K1 al an ao T D B6 q5 x0 x1 x2 ap V ba r bi;go_upto_region 2 with (refine wpList_store_mid Z 86 (.tmp 4) (.tmp 13) Z B 0 u Z Z TH.out TS.out TO.out ?_)
 clear TH TS TO;generalize o.setCells B 0 u.toList=w6 at K6 C I ar BW G F y0 y1 |-;obtain⟨Kn,aj⟩:∃ Kn,c.length=Kn:=⟨_,Z⟩
 have HK:=Qa aj;rw[aj] at G C af
 clear aj;obtain⟨N,hN⟩:∃ N,d.length=N:=⟨_,Z⟩
 have HN:=Qa hN;rw[hN] at F I au
 clear hN;have CP:=Qa (Qeb gr HK.out (by omega) C.out bg.out.regs.1 bq.out K6.out);go_wp2_with fail
 refine CP.out.mono ?_;rintro e' w7 ⟨hO,J⟩;have K:=Qa (BW.out.trans (J.mono BW.out.size));rcases hO with ⟨U,y,rfl,hy⟩|⟨U,rfl⟩
 rotate_left
 ·exact⟨Z,.inr ⟨by rw[E.out,Ql U];exact U,by rw[E.out,Ql U]⟩,K.out⟩
 subst hy;have E2:Hid (s.to ⟨(k:Int),c,d⟩=s.handC d (g.params.map (Qaj c))):=by show _=_;rw[E.out,Qx U]
 have K7:=Qa (K6.out.below J);have ay:Hid (intsL.In w7 Q c [.slice rg Kn rc]):=Ya C.out J;have be:Hid (intsL.In w7 Q d [.slice ag N ac]):=Ya I.out J;have a5:=Qa (QW (Ya ar.out J)).1;have bd:=Qk G J;have a0:=Qk F J;have a6:=Qk y1 J;clear U CP E J K6 C I ar G F y0 y1 BW;go_upto_region 3 with fail
 refine jt3 bd a0 a6 HK bj (by omega) ay a5 bm _ _ Z (Xg (by kernel_rfl)) Z Z Z ?_;rintro ax bp w8 ab W ⟨gP,aa,bn,bc⟩ b8;show wpList _ ax _ [_] (QM _ bp [20,21,22,23,24,25,26,27]) w8;simp only[QM,Act.put,List.setIfInBounds_toArray,List.set_cons_zero,List.set_cons_succ,ab,W,aa]
 have am:=Qa (K.out.trans (b8.mono K.out.size))
 have CH:Hid (Calls prog 251 #[Pv b 0,.slice ag N ac,.slice (some ⟨gP,0,none⟩) M M] w8 fun e w'=>ZG (s.handC d (g.params.map (Qaj c))) VNone e/\Below w8.heap.size w8 w') :=
  QaD HN.out (by omega) (by rw[XN,bj.out]) (by omega) (Ya be.out b8) bc.lin hL bt.out (fun k hk=>Zl (HO.out k hk) am.out.size) (K7.out.below b8)
 clear bc bn b8 ab W aa K7 ay be a5 bd a0 a6 K;go_wp2_with fail
 refine CH.out.mono ?_;rintro e' w9 ⟨hO,b9⟩;have av:=Qa (am.out.trans (b9.mono am.out.size));have FF:Hid (ZG (s.to ⟨(k:Int),c,d⟩) VNone e'):=by show ZG _ _ _;rw[E2.out];exact hO
 rcases hO with ⟨U,y,rfl,hy⟩|⟨U,rfl⟩
 rotate_left
 ·exact⟨Z,FF.out,av.out⟩
 subst hy;clear U CH E2 b9;go_wp2
 exact Xz (v:=.tuple #[]) (by simp[results,results250,go_sem]) Z ⟨FF.out,av.out⟩
theorem Xv:type_of% @of_decide_eq_true:=@of_decide_eq_true
def Qja (H:List Bool) (regs:Int):Int:=if (Qam H).all (fun r=>decide (r<regs)) then 0 else 12
theorem Qhm {A:Nat->Prop}{s:JSt}(r:Int) (i:w.cell? ⟨B,0,none⟩=some (Pv b 0)) (h:SAt w b O A s) :
 Calls prog 276 #[Iv r,Pv B 0] w fun e w'=>e=.returned (.bool (decide (r>=s.f.regs)))/\w'=w:=by
 obtain⟨g,t,d,j,o,n,p,l,c,k,q,R⟩:=h.read
 obtain⟨-,-,a,-⟩:=R.cells
 clear R h;generalize s.f.regs=m at a |-;go_enter func276,ntmps276
 go_wp2
 go_ret;exact⟨Z,Z⟩
theorem enters_left1:Qag 276:=fun _ _=>by kernel_rfl
theorem Qft {A:Nat->Prop}{s:JSt}(F:l.length=N) (S:N<=100000) (J:intsL.In w Q l [.slice p N c]) (H:w.cell? ⟨B,0,none⟩=some (Pv b 0)) (h:SAt w b O A s) :
 Calls prog 287 #[.slice p N c,.func (.func 276) #[] #[Pv B 0]] w fun e w'=>(∃ i:Int,e=.returned (Iv i)/\(0<=i↔∃ x∈l,s.f.regs<=x))/\w'=w:=by
 have T:=Qa J;have L:=Qa F;have C:=Qa (fun r=>Qhm r H h);have R:=enters_left1;unfold Qag at R;clear J F h H;generalize s.f.regs=t at C |-;go_enter func287,ntmps287
 go_wp2
 go_loop [8] (fun i=>∃ k:Nat,k<=N/\i=Iv k/\∀ (j:Nat) (y:Int),j<k->l[j]?=some y->y<t) (fun i=>N - (intOf i).toNat)
 case atStart=>exact⟨0,Xb _,Z,fun j y D=>by omega⟩
 case round =>
  obtain⟨k,X,rfl,K⟩:=hrel
  have G:=Qa K;clear K;by_cases q:k<N
  ·have u:(k:Int)<N:=by omega
   have d:k<l.length:=by rw[L.out];exact q
   obtain⟨g,o,rfl,-,W,E⟩:=ZH T.out d
   obtain⟨y,n⟩:∃ y,l[k]?=some y:=⟨_,Zg d⟩
   rw[show l.getD k 0=y by rw[List.getD_eq_getElem?_getD,n];rfl] at E
   have I:=Qa n;have v:=Qa (C.out y);clear n d;by_cases a:t<=y
   ·rw[show decide (y>=t)=true from Xt a] at v
    have M:Hid (∃ x∈l,t<=x):=⟨y,Zm I.out,a⟩;clear a;go_wp2_with (go_at_call 276;refine(v.out).mono ?_;rintro e w' ⟨rfl,m⟩;have m:=m.symm;subst m)
    go_ret;exact⟨⟨k,Z,by simp only[M.out,iff_true];omega⟩,Z⟩
   ·rw[show decide (y>=t)=false from Xu a] at v
    have z:=Qa (Int.not_le.1 a);clear a;go_wp2_with (go_at_call 276;refine(v.out).mono ?_;rintro e w' ⟨rfl,m⟩;have m:=m.symm;subst m)
    go_round
    case rel =>
     refine⟨k+1,q,by go_num,fun j P D n=>?_⟩
     rcases Nat.lt_or_ge j k with h | h
     ·exact G.out j P h n
     ·have:j=k:=by omega
      subst this;have e:=I.out.symm.trans n;injection e with e
      subst e;exact z.out
    case measure=>simp[intOf];omega
  ·have u:¬ (k:Int)<N:=by omega
   go_wp2
   go_ret;refine⟨⟨-1,Z,by omega,fun hm=>?_⟩,Z⟩
   obtain⟨x,U,V⟩:=hm
   obtain⟨j,D,e⟩:=List.mem_iff_getElem.1 U
   have:=G.out j x (by have:=L.out;omega) (by rw[Zg D,e])
   omega
theorem Qdo {A:Nat->Prop}{s:JSt}(j:l.length=N) (d:N<=100000) (n:intsL.In w Q l [.slice p N c]) (k:w.cell? ⟨B,0,none⟩=some (Pv b 0)) (h:SAt w b O A s) :
 Calls prog 277 #[.slice p N c,.func (.func 276) #[] #[Pv B 0]] w fun e w'=>e=.returned (.bool (!(l.all (fun r=>decide (r<s.f.regs)))))/\w'=w:=by
 have C:=Qa (Qft j d n k h);clear n j h k;go_enter func277,ntmps277
 go_wp2_with fail
 refine C.out.mono ?_;rintro e w' ⟨⟨i,rfl,m⟩,a⟩;have a:=a.symm;subst a
 have E:Hid ((!(l.all (fun r=>decide (r<s.f.regs))))=decide (i>=0)):=by
  show _=_;rw[Bool.eq_iff_iff]
  simp only[Bool.not_eq_true',decide_eq_true_eq,ge_iff_le,m]
  rw[<-Bool.not_eq_true,Xe]
  constructor
  ·intro h;exact Classical.byContradiction fun q=>h (fun x g=>Xt (Int.not_le.1 (fun o=>q ⟨x,g,o⟩)))
  ·rintro ⟨x,g,t⟩ h
   have:=Xv (h x g)
   omega
 clear C m;go_wp2
 go_ret;exact⟨by rw[E.out];rfl,Z⟩
theorem Qg9 {A:Nat->Prop}{s:JSt}(W:s.H.length<=16) (h:SAt w b O A s) :
 Calls prog 252 #[Pv b 0] w fun e w'=>ZG (Qja s.H s.f.regs) VNone e/\Below w.heap.size w w':=by
 have D:∀ (fn:Fn) (first cap:Array Value) (w:World),(Instr.makeFunc fn first cap).run prog w=.ok (.func fn first cap) w:=fun _ _ _ _=>rfl;have o:=Zd w (.cells #[Pv b 0] 234);have H:=Qa (h.below o);have u:=Qa o;have j:=Qe w #[Pv b 0] 234;have l:=Qb j 0 _ Z;obtain⟨Q,L,F,S,U,J,K,T,P,I,V,R⟩:=H.out.read
 obtain⟨-,y,-⟩:=R.cells
 have t:=Qa (QhJ R.held);clear R h o j;go_enter func252,ntmps252
 go_upto_region 1 with fail
 generalize w.alloc (.cells #[Pv b 0] 234)=G at H u l y t |-;obtain⟨X,j⟩:∃ X,w.heap.size=X:=⟨_,Z⟩
 rw[j] at l |-
 rw[<-j]
 have p:=Qa j;go_wp2_with fail
 refine t.out.mono ?_;rintro z N ⟨a,c,rfl,g,m⟩;have B:=Qa (H.out.below m);have k:=Qa (u.out.trans (m.mono u.out.size));have x:=Qa (Qdo Z (by have:=Qit s.H;omega) g (Qk l m) B.out);have y0:=Qk l m;clear g m t l y;generalize (Qam s.H).length=M at x |-;have E:Hid (Qja s.H s.f.regs=if (Qam s.H).all (fun r=>decide (r<s.f.regs)) then 0 else 12):=rfl;generalize (Qam s.H).all (fun r=>decide (r<s.f.regs))=q at x E;rw[p.out]
 go_wp2_with (go_at_call 277;refine(x.out).mono ?_;rintro e w' ⟨rfl,i⟩;have i:=i.symm;subst i)
 refine(QbU _ _ _).mono ?_
 rintro z w' ⟨i,⟨n,rfl⟩|⟨n,rfl⟩⟩
 rotate_left
 ·exact⟨Z,ZG.bad (d:=12) (by rw[E.out,show q=false by simpa using n];rfl) (by decide),by rw[i];exact k.out⟩
 have i:=i.symm;subst i;have C:Hid (Qja s.H s.f.regs=0):=by show _=_;rw[E.out,show q=true by simpa using n];rfl
 clear n;go_wp2
 exact Xz (v:=.tuple #[]) (by simp[results,results252,go_sem]) Z ⟨ZG.good C.out Z,k.out⟩
structure EnT (w wc:World) (b X:Nat) (O A Q:Nat->Prop) (s:JSt) (x:ZC) (e:EP):Prop where
 st:SAt wc b O A s
 box:Blk wc X (QbW x e) 84
 lists:Qdn wc Q x e
 bel:Below w.heap.size w wc
theorem EnT.below {wc:World}{A:Nat->Prop}{s:JSt}{x:ZC}{e:EP}(h:EnT w wc b X O A Q s x e) (k:Below wc.heap.size wc w'):EnT w w' b X O A Q s x e :=
 ⟨h.st.below k,(k.block X (XC h.box)).trans h.box,h.lists.below k,h.bel.trans (k.mono h.bel.size)⟩
theorem EnT.cells {wc:World}{A:Nat->Prop}{s:JSt}{x:ZC}{e:EP}(h:EnT w wc b X O A Q s x e):wc.cell? ⟨X,0,none⟩=some (Iv x.op)/\wc.cell? ⟨X,1,none⟩=some (Iv x.a)/\wc.cell? ⟨X,2,none⟩=some (Iv x.yes.block)/\wc.cell? ⟨X,3,none⟩=some (.slice e.pYR x.yes.regs.length e.cYR)/\wc.cell? ⟨X,4,none⟩=some (.slice e.pYA x.yes.args.length e.cYA)/\wc.cell? ⟨X,5,none⟩=some (Iv x.no.block)/\wc.cell? ⟨X,6,none⟩=some (.slice e.pNR x.no.regs.length e.cNR)/\wc.cell? ⟨X,7,none⟩=some (.slice e.pNA x.no.args.length e.cNA)/\wc.cell? ⟨X,8,none⟩=some (.slice e.pA x.args.length e.cA) :=
 ⟨Qb h.box 0 _ Z,Qb h.box 1 _ Z,Qb h.box 2 _ Z,Qb h.box 3 _ Z,Qb h.box 4 _ Z,Qb h.box 5 _ Z,Qb h.box 6 _ Z,Qb h.box 7 _ Z,Qb h.box 8 _ Z⟩
theorem QkZ {A:Nat->Prop}{s:JSt}{x:ZC}{e:EP}(hJ:JOk s) (hO:∀ k,O k->k<w.heap.size) (h:SAt w b O A s) (hx:Qdn w Q x e) (I:-9223372036854775808<=x.a/\x.a<=9223372036854775807) (hf:x.form s.f.blocks.length=0) :
 Calls prog 214 #[Pv b 0,.agg (QbW x e)] w fun r w'=>ZG (s.fin x) VNone r/\Below w.heap.size w w':=by
 have C:=Qa hJ;have K:=Qa hO;have hL:=hJ.vals;have b1:=Zd w (.cells (QbW x e) 84);have S0:Hid (EnT w (w.alloc (.cells (QbW x e) 84)) b w.heap.size O A Q s x e):=⟨h.below b1,Qe w _ _,hx.below b1,b1⟩;have q:=Qa (C.out.mod.2 s.f C.out.fn);have T:=Qa (Qj4 q.out.many.2 hf);have aa:=Qa I;have ad:Hid (∀ t∈s.L,t.count<=100000):=fun t ht=>Zt (Z1 (C.out.types t ht)) (by omega);have E1:s.fin x=if x.op=1 then s.to x.yes else if x.op=2 then Qv (s.want x.a 1 false) (Qv (s.to x.yes) (s.to x.no)) else Qv (s.args x.args s.f.results (QhC s.f.regs.toNat)) (if (Qam s.H).all (fun r=>decide (r<s.f.regs)) then 0 else 12):=by rw[JSt.fin,Xr (by rw[hf];simp)]
 have i:=Qa E1;clear h hx b1 hJ hO I hf E1;go_enter func214,ntmps214
 go_upto_region 1 with fail
 obtain⟨X,hX⟩:∃ X,w.heap.size=X:=⟨_,Z⟩
 unfold QbW at S0;generalize ac:w.alloc (.cells #[Iv x.op,Iv x.a,Iv x.yes.block,.slice e.pYR x.yes.regs.length e.cYR,.slice e.pYA x.yes.args.length e.cYA,Iv x.no.block,.slice e.pNR x.no.regs.length e.cNR,.slice e.pNA x.no.args.length e.cNA,.slice e.pA x.args.length e.cA] 84)=V at S0 |-;have S:Hid (EnT w V b X O A Q s x e):=by rw[<-hX];exact S0.out
 rw[hX]
 clear ac hX S0;obtain⟨F,x1,x2,x3,W,x5,x6,x7,P⟩:=S.out.cells
 rcases T.out.1 with g | g | g
 ·have j:Hid (s.fin x=s.to x.yes):=by show _=_;rw[i.out,Xs g]
  have E:Hid (x.yes.form s.f.blocks.length true=0):=by have:=T.out.2.2.2.2.1;rw[g] at this;exact this
  rw[g] at F
  clear i;go_wp2_with fail
  refine(Qca (x:=x.yes) C.out (fun k u=>Zl (K.out k u) S.out.bel.size) S.out.st S.out.lists.yr S.out.lists.ya (QaG E.out).2.1 (QaG E.out).2.2 (QaG E.out).1).mono ?_
  rintro e9 w9 ⟨o,p⟩;have l:=Qa (S.out.below p);rcases o with ⟨c,y,rfl,m⟩|⟨c,rfl⟩
  rotate_left
  ·exact⟨Z,.inr ⟨by rw[j.out];exact c,by rw[j.out]⟩,l.out.bel⟩
  subst m;have J:Hid (s.fin x=0):=by show _=_;rw[j.out];exact c
  clear c p;go_wp2
  exact Xz (v:=.tuple #[]) (by simp[results,results214,go_sem]) Z ⟨ZG.good J.out Z,l.out.bel⟩
 ·have j:Hid (s.fin x=Qv (s.want x.a 1 false) (Qv (s.to x.yes) (s.to x.no))):=by show _=_;rw[i.out,Xr (by omega),Xs g]
  have E:Hid (x.yes.form s.f.blocks.length true=0):=by have:=T.out.2.2.2.2.1;rw[g] at this;exact this
  have h2:Hid (x.no.form s.f.blocks.length true=0):=by have:=T.out.2.2.2.2.2;rw[g] at this;exact this
  rw[g] at F
  have CI:=Qa (fun d=>QbP x.a aa.out d hL (fun k u=>Zl (K.out k u) S.out.bel.size) S.out.st);clear i;go_wp2_with fail
  refine(CI.out _).mono ?_
  rintro e8 w8 ⟨o,N⟩;have D:=Qa (S.out.below N);rcases o with ⟨c,y,rfl,m⟩|⟨c,rfl⟩
  rotate_left
  ·exact⟨Z,.inr ⟨by rw[j.out,Ql c];exact c,by rw[j.out,Ql c]⟩,D.out.bel⟩
  subst m;have B:Hid (s.fin x=Qv (s.to x.yes) (s.to x.no)):=by show _=_;rw[j.out,Qx c]
  clear c N j S CI;have S:=D;clear D F x1 x2 x3 W x5 x6 x7 P;obtain⟨F,x1,x2,x3,W,x5,x6,x7,P⟩:=S.out.cells
  go_wp2_with fail
  refine(Qca (x:=x.yes) C.out (fun k u=>Zl (K.out k u) S.out.bel.size) S.out.st S.out.lists.yr S.out.lists.ya (QaG E.out).2.1 (QaG E.out).2.2 (QaG E.out).1).mono ?_
  rintro e9 w9 ⟨o,p⟩;have l:=Qa (S.out.below p);rcases o with ⟨c,y,rfl,m⟩|⟨c,rfl⟩
  rotate_left
  ·exact⟨Z,.inr ⟨by rw[B.out,Ql c];exact c,by rw[B.out,Ql c]⟩,l.out.bel⟩
  subst m;have E4:Hid (s.fin x=s.to x.no):=by show _=_;rw[B.out,Qx c]
  clear c p B S;have S:=l;clear l F x1 x2 x3 W x5 x6 x7 P;obtain⟨F,x1,x2,x3,W,x5,x6,x7,P⟩:=S.out.cells
  go_wp2_with fail
  refine(Qca (x:=x.no) C.out (fun k u=>Zl (K.out k u) S.out.bel.size) S.out.st S.out.lists.nr S.out.lists.na (QaG h2.out).2.1 (QaG h2.out).2.2 (QaG h2.out).1).mono ?_
  rintro e9 w9 ⟨o,p⟩;have l:=Qa (S.out.below p);rcases o with ⟨c,y,rfl,m⟩|⟨c,rfl⟩
  rotate_left
  ·exact⟨Z,.inr ⟨by rw[E4.out];exact c,by rw[E4.out]⟩,l.out.bel⟩
  subst m;have J:Hid (s.fin x=0):=by show _=_;rw[E4.out];exact c
  clear c p;go_wp2
  exact Xz (v:=.tuple #[]) (by simp[results,results214,go_sem]) Z ⟨ZG.good J.out Z,l.out.bel⟩
 ·have G:=q.out.regs.1;obtain⟨n,hn⟩:=Xc G
  have j:Hid (s.fin x=Qv (s.handC x.args s.f.results) (Qja s.H s.f.regs)):=by show _=_;rw[i.out,Xr (by omega),Xr (by omega),QmY hn q.out.results.2];rfl
  have ab:x.args.length<=8:=T.out.2.2.2.1;obtain⟨pm,cm,hh,a1,c1,a2,c2,a3,c3,aL,cL,R⟩:=S.out.st.read
  obtain⟨-,-,-,-,q4,-⟩:=R.cells
  obtain⟨fa,fc,fb,fd,fe,ff,M,-,z,-,-⟩:=Qav R.fn
  simp only[List.cons.injEq,Value.slice.injEq,and_true,true_and] at M
  obtain⟨⟨-,-⟩,⟨rfl,rfl⟩,-⟩:=M
  have U:=Qa (QW z).1
  have CH:Hid (Calls prog 251 #[Pv b 0,.slice e.pA x.args.length e.cA,.slice a2 s.f.results.length c2] V.drew fun e w'=>ZG (s.handC x.args s.f.results) VNone e/\Below V.drew.heap.size V.drew w') :=
   QaD Z (by omega) Z (by have:=q.out.results.1;omega) (Ya S.out.lists.ar (Qb5 Zr)) U.out.drew hL ad.out (fun k u=>Zl (K.out k u) S.out.bel.size) (S.out.st.below (Qb5 Zr))
  rw[g] at F
  clear i R z U hn G;generalize s.f.results.length=nr at q4 CH;generalize x.args.length=na at P CH ab;go_upto_region 9 with fail
  go_region_with (go_at_call 251;refine(CH.out).mono ?_;rintro e8 w8 ⟨o,N⟩;have D:=Qa (S.out.below (Zx N));rcases o with ⟨c,y,rfl,m⟩|⟨c,rfl⟩;rotate_left;exact⟨Z,.inr ⟨by rw[j.out,Ql c];exact c,by rw[j.out,Ql c]⟩,D.out.bel⟩;subst m;have B:Hid (s.fin x=Qja s.H s.f.regs):=(by show _=_;rw[j.out,Qx c]);clear c N)
  all_goals
   have CV:=Qa (Qg9 C.out.regs D.out.st);go_wp2_with fail
   refine CV.out.mono ?_;rintro e9 w9 ⟨o,p⟩;have l:=Qa (D.out.below p);rcases o with ⟨c,y,rfl,m⟩|⟨c,rfl⟩
   rotate_left
   ·exact⟨Z,.inr ⟨by rw[B.out];exact c,by rw[B.out]⟩,l.out.bel⟩
   subst m;have J:Hid (s.fin x=0):=by show _=_;rw[B.out];exact c
   clear c p;go_wp2
   exact Xz (v:=.tuple #[]) (by simp[results,results214,go_sem]) Z ⟨ZG.good J.out Z,l.out.bel⟩
theorem Qcr {a:Nat}(c:Int) (b:Blk w a #[Iv 0] 3) :
 CallsD prog 238 #[Qfr a] (.panicking (QeY c)) w fun e u' w' =>
  e=.returned (.tuple #[])/\u'=.panicking [{ v:=.iface 304 (Iv c),recovered:=true }]/\(Blk w' a #[Iv c] 3/\Chg a w w'):=by
 have d:=b.lt;have h:=Qb b 0 _ Z;have f:=Qj b 0;have l:=Qa b;refine callsD_of_wpS func238 Z fun n m k=>?_;apply wpS_seq
 apply wpS_region
 simp[wpOpsS,go_sem,recoverD,k,ntmps238,Exit.thenS]
 rw[show (#[Qfr a]++((Array.replicate 15 undef).setIfInBounds 3 (Value.iface 304 (Iv c))).setIfInBounds 0 (Value.iface 304 (Iv c)):Array Value)=#[Qfr a,Value.iface 304 (Iv c),undef,undef,Value.iface 304 (Iv c),undef,undef,undef,undef,undef,undef,undef,undef,undef,undef,undef] from Z]
 refine wpS_of_wp ?_;have i:∀ w:World,(Instr.typeAssert (.iface 304 (Iv c)) 20 304 true).run prog w=.ok (.tuple #[Iv c,.bool true]) w:=fun _=>by kernel_rfl
 clear b;go_wp2
 have g:Blk (w.setCell ⟨a,0,none⟩ (Iv c)) a #[Iv c] 3:=by
  have:=Qh l.out 0 (Iv c)
  simpa using this
 have j:Chg a w (w.setCell ⟨a,0,none⟩ (Iv c)):=Chg.set w 0 _ d;exact(show bodyPostS _ _ _ _ _ _ _ _ _ from ⟨Z,_,Z,.tuple #[],by simp[results,results238,go_sem],Z,Z,g,j⟩)
theorem QfL (a:Nat) :
 CallsD prog 238 #[Qfr a] .returning w fun e u' w'=>e=.returned (.tuple #[])/\u'=.returning/\w'=w:=by
 refine callsD_of_wpS func238 Z fun c d b=>?_;apply wpS_seq
 apply wpS_region
 simp[wpOpsS,go_sem,recoverD,b,ntmps238,Exit.thenS]
 rw[show (#[Qfr a]++((Array.replicate 15 undef).setIfInBounds 3 (Value.nilIface)).setIfInBounds 0 (Value.nilIface):Array Value)=#[Qfr a,Value.nilIface,undef,undef,Value.nilIface,undef,undef,undef,undef,undef,undef,undef,undef,undef,undef,undef] from Z]
 refine wpS_of_wp ?_;go_wp2_with fail
 cases c
 simp_all [bodyPostS,results,results238]
def QmU (Fb:Nat) (R1:World->Prop) (R2:Int->World->Prop) (en:Ending) (w2:World):Prop :=
 Blk w2 Fb #[Iv 0] 3/\((en=.returned (.tuple #[])/\R1 w2)\/(∃ c,en=.panicked (QeY c)/\R2 c w2))
def QfP (Fb:Nat) (R1:World->Prop) (R2:Int->World->Prop) (en:Ending) (w':World):Prop :=
 (∃ w2,R1 w2/\en=.returned (Iv 0)/\Chg Fb w2 w')\/(∃ w2,∃ c:Int,R2 c w2/\en=.returned (Iv c)/\Chg Fb w2 w')
theorem QcE (F:Nat) (a:Array Value) (e:Qag F) (g:World->Prop) (k:Int->World->Prop) (b:Calls prog F a (w.alloc (.cells #[Iv 0] 3)) fun en w2=>QmU w.heap.size g k en w2) :
 Calls prog 210 #[.func (.func F) #[] a] w fun en w'=>QfP w.heap.size g k en w':=by
 have z:∀ (fn:Fn) (first cap:Array Value) (w:World),(Instr.makeFunc fn first cap).run prog w=.ok (.func fn first cap) w:=fun _ _ _ _=>rfl;have o:=e;unfold Qag at o;have p:Hid (Calls prog F a (w.alloc (.cells #[Iv 0] 3)) fun en w2=>QmU w.heap.size g k en w2):=b;clear b e;go_enter_defers func210,ntmps210
 go_wp2_with fail
 refine p.out.mono ?_;rintro A d ⟨l,⟨rfl,h⟩|⟨c,rfl,h⟩⟩
 ·have i:=Qa l;have j:=Qb i.out 0 _ Z;have m:=Qj i.out 0;have v:Hid (g d):=h;clear l h p o;go_wp2
  have q:Blk (d.setCell ⟨w.heap.size,0,none⟩ (Iv 0)) w.heap.size #[Iv 0] 3:=by
   have:=Qh i.out 0 (Iv 0)
   simpa using this
  have r:Chg w.heap.size d (d.setCell ⟨w.heap.size,0,none⟩ (Iv 0)):=Chg.set d 0 _ i.out.lt;clear j m;generalize d.setCell ⟨w.heap.size,0,none⟩ (Iv 0)=t at q r |-;refine leaves_cons (f:=238) (args:=#[Qfr w.heap.size]) (by simp) (by simp[go_sem]) ?_;refine(QfL w.heap.size).mono ?_
  rintro y s B ⟨rfl,rfl,rfl⟩;have n:=Qb q 0 _ Z;exact⟨Iv 0,by simp[results,results210,go_sem,n],.inl ⟨d,v.out,Z,r⟩⟩
 ·show bodyPostD _ _ _ _ _ _;refine leaves_cons (f:=238) (args:=#[Qfr w.heap.size]) (by simp) (by simp[go_sem]) ?_;refine(Qcr c l).mono ?_
  rintro y s t ⟨rfl,rfl,x,u⟩;have n:=Qb x 0 _ Z;exact⟨Iv c,by simp[results,results210,go_sem,n],.inr ⟨d,c,h,Z,u⟩⟩
theorem Ql7 {A:Nat->Prop}{s:JSt}{x:Qs}(i:∀ k,A k->k<w.heap.size) (j:JOk s) (h:SAt w b O A s) (c:intsL.In w Q x.regs [.slice rg x.regs.length rc]) (a:intsL.In w Q x.args [.slice ag x.args.length ac]) (f:x.regs.length<=rc) (d:ZD x) (g:x.form s.m.length=0) :
 Calls prog 212 #[Pv b 0,Qed x rg ag rc ac] w fun e w'=>QO w b O A s (s.next x) (s.goC x) e w':=by
 obtain⟨-,-,-,l⟩:=Q6 g
 rcases l with e | e | e | e | e | e | e | e | e | e | e | e | e | e
 ·exact QlC i j h c a f d g e
 ·exact Qlp i j h c a f d g e
 ·exact QlN i j h c a f d g e
 ·exact Qk3 i j h c a f d g e
 ·exact Qh5 i j h c a f d g e
 ·exact QlZ i j h c a f d g e
 ·exact Qlm i j h c a f d g e
 ·exact QiC i j h c a f d g e
 ·exact Qj5 i j h c a f d g e
 ·exact Qi9 i j h c a f d g e
 ·exact QlT i j h c a f d g e
 ·exact Qmv i j h c a f d g e
 ·exact QlA i j h c a f d g e
 ·exact QkB i j h c a f d g e
theorem STo.seal {wc w9:World}{i:Nat}{A:Nat->Prop}{s:JSt}(m:∀ k,O k->k<w.heap.size) (f:Below w.heap.size w wc) (o:w.heap.size<=i/\i<wc.heap.size) (h:STo wc w2 b O (fun k=>A k\/(w.heap.size<=k/\k<wc.heap.size)) s) (c:Chg i w2 w9):STo w w9 b O A s:=by
 obtain⟨N,g,j,d⟩:=h
 have r:=f.size;have q:=d.size;have p:=c.size;refine⟨fun k=>N k\/(w.heap.size<=k/\k<wc.heap.size),fun k a=>?_,?_,?_⟩
 ·rcases a with a | a
  ·have:=g k a;omega
  ·omega
 ·refine j.keep (fun k n a=>c.block k n (fun e=>?_)) (fun k a _=>?_) (fun k a _ e=>a ?_) (fun k a=>?_)
  ·subst e;rcases a with a | a
   ·rcases a with a | a
    ·have:=m k a;omega
    ·have:=g k a;omega
   ·exact a (.inl (.inr o))
  ·rcases a with a | a
   ·exact .inl a
   ·exact .inr (.inl a)
  ·rcases e with e | e | e
   ·exact .inl (.inl e)
   ·exact .inr e
   ·exact .inl (.inr e)
  ·rcases a with a | a
   ·have:=j.sub k (.inl a)
    rcases this with (h | h) | h
    ·exact .inl h
    ·exact .inr (.inr h)
    ·exact .inr (.inl h)
   ·exact .inr a
 ·refine⟨c.os.trans (d.os.trans f.os),c.tape.trans (d.tape.trans f.tape),c.output.trans (d.output.trans f.output),by omega,fun k a l=>?_,fun k a=>?_⟩
  ·exact(c.block k (by omega) (by omega)).trans ((d.block k (by omega) l).trans (f.block k a))
  ·rcases a with a | a | a
   ·exact .inl a
   ·have:=g k a;exact .inr (by omega)
   ·exact .inr a.1
theorem SAt.wall {wc:World}{A:Nat->Prop}{s:JSt}(h:SAt w b O A s) (c:Below w.heap.size w wc):SAt wc b O (fun k=>A k\/(w.heap.size<=k/\k<wc.heap.size)) s :=
 h.keep (fun g d _=>c.block g d) (fun _ h _=>h) (fun k a f e=>by rcases e with e | e;exact a e;omega) (fun k a=>.inl (h.sub k a))
theorem enters_ins1:Qag 211:=fun _ _=>by kernel_rfl
theorem enters_end1:Qag 213:=fun _ _=>by kernel_rfl
def Qn6 (b S0 X nm cm rc ac:Nat) (cf:Int) (pm rg ag:Option Addr) (x:Qs) (t:Tmp) (v:Value) (w:World):Prop :=
 v=(([(2,Pv S0 0),(3,Pv X 0),(6,Pv b 0),(7,Pv b 0),(8,Pv b 0),(9,.agg #[.slice pm nm cm]),(10,.agg #[Iv x.op,Iv x.a,Iv x.b,Iv x.c,Iv x.k,Iv x.n,.slice rg x.regs.length rc,.slice ag x.args.length ac]),(11,Iv cf),(5,Iv cf)]:List (Tmp × Value)).lookup t).getD undef
theorem ji1 {j f:Nat}{l:Int}{x:Qs}(I:w6.cell? ⟨j,0,none⟩=some (Pv b 0)) (D:w6.cell? ⟨b,0,none⟩=some (.slice pm f cm)) (J:w6.cell? ⟨X,0,none⟩=some (Iv x.op)) (F:w6.cell? ⟨X,1,none⟩=some (Iv x.a)) (L:w6.cell? ⟨X,2,none⟩=some (Iv x.b)) (C:w6.cell? ⟨X,3,none⟩=some (Iv x.c)) (z:w6.cell? ⟨X,4,none⟩=some (Iv x.k)) (G:w6.cell? ⟨X,5,none⟩=some (Iv x.n)) (E:w6.cell? ⟨X,6,none⟩=some (.slice rg x.regs.length rc)) (A:w6.cell? ⟨X,7,none⟩=some (.slice ag x.args.length ac)) (i:f<2305843009213693952) (u:Hid (x.form f=l))
 (a:Act) (m:Nat) (s:a.tmps.size=m) (o:17<=m) (H:a.tmps.getD 2 undef=Pv j 0) (B:a.tmps.getD 3 undef=Pv X 0) :
 Code.wp prog ((Tryz.f164.body.bind (Qi 1)).getD .skip) (fun e a' w'=>e=.normal/\∃ vs,a'=QM a vs [6,7,8,9,10,11,5]/\vs 5=Iv l/\Below w6.heap.size w6 w') a w6:=by
 conv=>arg 2;whnf
 refine QaQ (Qn6 b j X f cm rc ac l pm rg ag x) (fun w=>Below w6.heap.size w6 w) (fun w w'=>Below w.heap.size w w') (outs:=[2,3]) (gs:=[]) (bs:=[true,true,true,true,true,true,true]) (by kernel_rfl) (n:=17) s o (by kernel_rfl) ?hR ?hG (QI Zr 1) ⟨H,B,Y⟩ ?hA ?hend
 case hR=>exact fun t v w w' _ h=>h
 case hG=>exact Y
 case hend=>exact fun vs w' d g=>⟨Z,vs,Z,g 5 (by kernel_rfl),d⟩
 case hA =>
  repeat
   refine⟨fun a w d g K r=>?_,?_⟩
   focus first
    | obtain⟨p,-⟩:=g
      conv at p=>whnf;rhs;whnf
      have Q:=Qk I d;have U:=Qk D d;have M:=Qk J d;have T:=Qk F d;have O:=Qk L d;have c5:=Qk C d;have N:=Qk z d;have R:=Qk G d;have S:=Qk E d;have W:=Qk A d;go_simp;exact r _ _ Zr d Z
    | obtain⟨p,y,-⟩:=g
      conv at p=>whnf;rhs;whnf
      conv at y=>whnf;rhs;whnf
      go_simp;refine Xm (Qgz f x ⟨rg,rc,ag,ac⟩ pm cm _ i) ?_;rw[u.out];rintro P V ⟨rfl,q⟩;go_simp;exact r _ _ q (d.trans (q.mono d.size)) Z
  trivial
theorem Qi3 {o:Nat}{A:Nat->Prop}{s:JSt}{x:Qs}(r:Blk w o #[Pv b 0] 234) (g:Blk w X #[Iv x.op,Iv x.a,Iv x.b,Iv x.c,Iv x.k,Iv x.n,.slice rg x.regs.length rc,.slice ag x.args.length ac] 78) (t:∀ k,A k->k<w.heap.size) (u:JOk s) (h:SAt w b O A s) (f:intsL.In w Q x.regs [.slice rg x.regs.length rc]) (d:intsL.In w Q x.args [.slice ag x.args.length ac]) (j:x.regs.length<=rc) (i:ZD x) (y:x.form s.m.length=0) :
 Calls prog 211 #[Pv o 0,Pv X 0] w fun e w'=>QO w b O A s (s.next x) (s.goC x) e w':=by
 have C:=Qa (Ql7 t u h f d j i y);have K:=Qb r 0 _ Z;have L:=Qb g 0 _ Z;have I:=Qb g 1 _ Z;have M:=Qb g 2 _ Z;have G:=Qb g 3 _ Z;have E:=Qb g 4 _ Z;have J:=Qb g 5 _ Z;have H:=Qb g 6 _ Z;have F:=Qb g 7 _ Z;clear r g t u h f d j i y;go_enter func211,ntmps211
 go_wp2_with fail
 refine C.out.mono ?_;rintro D B z;have l:=Qa z;rcases z with ⟨p,rfl,q⟩|⟨p,rfl,q⟩
 rotate_left
 ·exact⟨Z,l.out⟩
 clear p q C;go_wp2
 exact Xz (v:=.tuple #[]) (by simp[results,results211,go_sem]) Z l.out
theorem QkF {A:Nat->Prop}{s:JSt}{x:Qs}(hA:∀ k,A k->k<w.heap.size) (hJ:JOk s) (h:SAt w b O A s) (l:intsL.In w Q x.regs [.slice rg x.regs.length rc]) (o:intsL.In w Q x.args [.slice ag x.args.length ac]) (L:x.regs.length<=rc) (u:ZD x) :
 Calls prog 164 #[Pv b 0,Qed x rg ag rc ac] w fun e w'=>e=.returned (Iv (s.code x))/\STo w w' b O A (s.ins x):=by
 have ai:∀ (fn:Fn) (first cap:Array Value) (w:World),(Instr.makeFunc fn first cap).run prog w=.ok (.func fn first cap) w:=fun _ _ _ _=>rfl;have HJ:=Qa hJ;have H0:=Qa h;have z:=Qa hA;have ae:=Qa u;have af:=Qa L;have b1:=Zd w (.cells #[Pv b 0] 234);have b2:=Zd (w.alloc (.cells #[Pv b 0] 234)) (.cells #[Iv x.op,Iv x.a,Iv x.b,Iv x.c,Iv x.k,Iv x.n,.slice rg x.regs.length rc,.slice ag x.args.length ac] 78);have K:=b1.trans (b2.mono b1.size);have HB:=Qa K;have H:=Qa (h.below K);have HR:Hid (intsL.In _ Q x.regs [.slice rg x.regs.length rc]):=Ya l K;have HG:Hid (intsL.In _ Q x.args [.slice ag x.args.length ac]):=Ya o K;have hS:Blk ((w.alloc (.cells #[Pv b 0] 234)).alloc (.cells #[Iv x.op,Iv x.a,Iv x.b,Iv x.c,Iv x.k,Iv x.n,.slice rg x.regs.length rc,.slice ag x.args.length ac] 78)) w.heap.size #[Pv b 0] 234:=(Blk.new _ _ _:Blk (w.alloc (.cells #[Pv b 0] 234)) w.heap.size _ _).below b2
 have W:Blk ((w.alloc (.cells #[Pv b 0] 234)).alloc (.cells #[Iv x.op,Iv x.a,Iv x.b,Iv x.c,Iv x.k,Iv x.n,.slice rg x.regs.length rc,.slice ag x.args.length ac] 78)) (w.heap.size+1) #[Iv x.op,Iv x.a,Iv x.b,Iv x.c,Iv x.k,Iv x.n,.slice rg x.regs.length rc,.slice ag x.args.length ac] 78:=by
  have:=Blk.new (w.alloc (.cells #[Pv b 0] 234)) #[Iv x.op,Iv x.a,Iv x.b,Iv x.c,Iv x.k,Iv x.n,.slice rg x.regs.length rc,.slice ag x.args.length ac] 78
  simpa using this
 have T:=Qa hS;have g:=Qa W;clear hS W b1 b2 K h hA hJ l o L u;go_enter func164,ntmps164
 go_upto_region 1 with fail
 generalize (w.alloc (.cells #[Pv b 0] 234)).alloc (.cells #[Iv x.op,Iv x.a,Iv x.b,Iv x.c,Iv x.k,Iv x.n,.slice rg x.regs.length rc,.slice ag x.args.length ac] 78)=w1 at HB H HR HG T g |-;obtain⟨S0,S⟩:∃ S0,w.heap.size=S0:=⟨_,Z⟩
 obtain⟨X,W⟩:∃ X,S0+1=X:=⟨_,Z⟩
 rw[S] at T g |-
 rw[W] at g |-
 clear W S;have s0:=Qb T.out 0 _ Z;have x0:=Qb g.out 0 _ Z;have x1:=Qb g.out 1 _ Z;have x2:=Qb g.out 2 _ Z;have x3:=Qb g.out 3 _ Z;have x4:=Qb g.out 4 _ Z;have x5:=Qb g.out 5 _ Z;have x6:=Qb g.out 6 _ Z;have x7:=Qb g.out 7 _ Z;obtain⟨pm,cm,hh,a1,c1,a2,c2,a3,c3,aL,cL,RR⟩:=H.out.read
 obtain⟨q0,-⟩:=RR.cells
 obtain⟨G,P⟩:∃ G,x.form s.m.length=G:=⟨_,Z⟩
 have q:Hid (x.form s.m.length=G):=P;clear P RR;refine Code.wp_mono ?_ (ji1 s0 q0 x0 x1 x2 x3 x4 x5 x6 x7 (by have:=HJ.out.mod.1.2;omega) q _ _ Z (Xg (by kernel_rfl)) Z Z);rintro ee aa d ⟨rfl,vs,rfl,ab,D⟩;simp only[QM,Act.put,List.setIfInBounds_toArray,List.set_cons_zero,List.set_cons_succ,ab]
 have i:=Qa (HB.out.trans (D.mono HB.out.size));have M:=Qa (T.out.below D);have U:=Qa (g.out.below D);have I:Hid (intsL.In d Q x.regs [.slice rg x.regs.length rc]):=Ya HR.out D;have V:Hid (intsL.In d Q x.args [.slice ag x.args.length ac]):=Ya HG.out D;clear D ab s0 x0 x1 x2 x3 x4 x5 x6 x7 q0 T g HR HG HB H;by_cases r:G=0
 rotate_left
 ·have ah:(G != 0)=true:=by simpa using r
  have E1:Hid (s.code x=G):=by show _=_;unfold JSt.code;rw[q.out,Xs r]
  have E2:Hid (s.ins x=s):=by show _=_;unfold JSt.ins;rw[Xr (by rw[E1.out];exact r)]
  go_wp2_with fail
  go_ret;exact⟨by rw[E1.out];rfl,by rw[E2.out];exact Yh H0.out i.out⟩
 subst r;have EC:=Qa (Ql3 q.out);have F:=Zd d (.cells #[Iv 0] 3);have t:=i.out.trans (F.mono i.out.size);have ad:=Qa t
 have CK:Hid (Calls prog 210 #[.func (.func 211) #[] #[Pv S0 0,Pv X 0]] d fun en w'=>QfP d.heap.size (fun f=>s.goC x=0/\STo (d.alloc (.cells #[Iv 0] 3)) f b O (fun k=>A k\/(w.heap.size<=k/\k<(d.alloc (.cells #[Iv 0] 3)).heap.size)) (s.next x)) (fun c f=>s.goC x=c/\c≠0/\STo (d.alloc (.cells #[Iv 0] 3)) f b O (fun k=>A k\/(w.heap.size<=k/\k<(d.alloc (.cells #[Iv 0] 3)).heap.size)) s) en w'):=by
  refine QcE _ _ enters_ins1 _ _ ?_;refine(Qi3 (A:=fun k=>A k\/(w.heap.size<=k/\k<(d.alloc (.cells #[Iv 0] 3)).heap.size)) (M.out.below F) (U.out.below F) (fun k p=>?_) HJ.out (H0.out.wall t) (Ya I.out F) (Ya V.out F) af.out ae.out q.out).mono ?_
  ·rcases p with p | p
   ·exact Zl (z.out k p) t.size
   ·exact p.2
  ·intro en f hd
   have v:STo (d.alloc (.cells #[Iv 0] 3)) f b O (fun k=>A k\/(w.heap.size<=k/\k<(d.alloc (.cells #[Iv 0] 3)).heap.size)) s\/STo (d.alloc (.cells #[Iv 0] 3)) f b O (fun k=>A k\/(w.heap.size<=k/\k<(d.alloc (.cells #[Iv 0] 3)).heap.size)) (s.next x):=by
    rcases hd with ⟨-,-,h⟩|⟨-,-,h⟩
    ·exact .inr h
    ·exact .inl h
   have j:Blk f d.heap.size #[Iv 0] 3:=by
    have hn:Blk (d.alloc (.cells #[Iv 0] 3)) d.heap.size #[Iv 0] 3:=Blk.new _ _ _;have R:¬ O d.heap.size:=fun e=>by have E:=z.out _ (H0.out.sub _ e);have C:=i.out.size;omega
    rcases v with ⟨N,-,-,st⟩|⟨N,-,-,st⟩
    ·exact(st.block _ hn.lt R).trans hn
    ·exact(st.block _ hn.lt R).trans hn
   rcases hd with ⟨E,C,h3⟩|⟨E,C,h3⟩
   ·exact⟨j,.inl ⟨C,E,h3⟩⟩
   ·exact⟨j,.inr ⟨_,C,Z,E,h3⟩⟩
 have y:Hid (∀ f B s',STo (d.alloc (.cells #[Iv 0] 3)) f b O (fun k=>A k\/(w.heap.size<=k/\k<(d.alloc (.cells #[Iv 0] 3)).heap.size)) s'->Chg d.heap.size f B->STo w B b O A s'):=fun f B s' E C=>STo.seal (fun k p=>z.out k (H0.out.sub k p)) ad.out ⟨i.out.size,by simp⟩ E C;clear F t M U I V;go_wp2_with fail
 refine CK.out.mono ?_;intro e' B p
 have FF:Hid (e'=.returned (Iv (s.code x))/\STo w B b O A (s.ins x)):=by
  rcases p with ⟨f,⟨g1,g2⟩,rfl,g3⟩|⟨f,c,⟨g1,g2,g3⟩,rfl,g4⟩
  ·have J:s.code x=0:=by rw[EC.out,g1]
   refine⟨by rw[J],?_⟩
   unfold JSt.ins;rw[Xs J]
   exact y.out f B _ g2 g3
  ·have J:s.code x=c:=by rw[EC.out,g1]
   refine⟨by rw[J],?_⟩
   unfold JSt.ins;rw[Xr (by rw[J];exact g2)]
   exact y.out f B _ g3 g4
 obtain⟨rfl,-⟩:=id FF.out
 clear p CK y;go_wp2
 go_ret;exact⟨Z,FF.out.2⟩
def Qob (b S0 X fl c1 fm c2 bl c3:Nat) (fr cf:Int) (a1 a2 a3:Option Addr) (x:ZC) (e:EP) (t:Tmp) (v:Value) (w:World):Prop :=
 v=(([(2,Pv S0 0),(3,Pv X 0),(6,Pv b 0),(7,Pv b 0),(8,Pv b 2),(9,.agg #[Iv fr,.slice a1 fl c1,.slice a2 fm c2,.slice a3 bl c3]),(10,.agg (QbW x e)),(11,Iv cf),(5,Iv cf)]:List (Tmp × Value)).lookup t).getD undef
theorem jE1 {k C r A i g p:Nat}{l:Int}{y u z:Option Addr}{x:ZC}{e:EP}(M:w6.cell? ⟨k,0,none⟩=some (Pv b 0)) (E:w6.cell? ⟨b,2,none⟩=some (Iv fr)) (I:w6.cell? ⟨b,3,none⟩=some (.slice y C r)) (O:w6.cell? ⟨b,4,none⟩=some (.slice u A i)) (P:w6.cell? ⟨b,5,none⟩=some (.slice z g p)) (J:Hid (w6.rangeAt X 0 (QbW x e).toList)) (L:Hid (x.yes.regs.length<2305843009213693952/\x.yes.args.length<2305843009213693952/\x.no.regs.length<2305843009213693952/\x.no.args.length<2305843009213693952)) (j:g<2305843009213693952) (F:Hid (x.form g=l))
 (a:Act) (m:Nat) (D:a.tmps.size=m) (q:17<=m) (N:a.tmps.getD 2 undef=Pv k 0) (H:a.tmps.getD 3 undef=Pv X 0) :
 Code.wp prog ((Tryz.f165.body.bind (Qi 1)).getD .skip) (fun e a' w'=>e=.normal/\∃ vs,a'=QM a vs [6,7,8,9,10,11,5]/\vs 5=Iv l/\Below w6.heap.size w6 w') a w6:=by
 conv=>arg 2;whnf
 refine QaQ (Qob b k X C r A i g p fr l y u z x e) (fun w=>Below w6.heap.size w6 w) (fun w w'=>Below w.heap.size w w') (outs:=[2,3]) (gs:=[]) (bs:=[true,true,true,true,true,true,true]) (by kernel_rfl) (n:=17) D q (by kernel_rfl) ?hR ?hG (QI Zr 1) ⟨N,H,Y⟩ ?hA ?hend
 case hR=>exact fun t v w w' _ h=>h
 case hG=>exact Y
 case hend=>exact fun vs w' c f=>⟨Z,vs,Z,f 5 (by kernel_rfl),c⟩
 case hA =>
  repeat
   refine⟨fun a w c f K s=>?_,?_⟩
   focus first
    | obtain⟨d,-⟩:=f
      conv at d=>whnf;rhs;whnf
      have T:=Qk M c;have r:=Qk E c;have i:=Qk I c;have p:=Qk O c;have R:=Qk P c;go_simp;exact s _ _ Zr c Z
    | obtain⟨d,-⟩:=f
      conv at d=>whnf;rhs;whnf
      obtain⟨Q,o⟩:=underEnd
      refine wp_load_mid 84 (.tmp 3) Z X 0 d (QbW x e).toList _ (Qaf J.out c) o Z sizeEnd ?_;exact s _ _ Zr c Z
    | obtain⟨d,G,-⟩:=f
      conv at d=>whnf;rhs;whnf
      conv at G=>whnf;rhs;whnf
      go_simp;refine Xm (Qgx (x:=x) (e:=e) L.out j) ?_;rw[F.out];rintro S U ⟨rfl,B⟩;go_simp;exact s _ _ B (c.trans (B.mono c.size)) Z
  trivial
theorem QeS {c:Array Value}(h:Blk w X c t):w.rangeAt X 0 c.toList:=fun j v a=>by
 rw[XK]
 rw[Array.getElem?_toList] at a
 exact Qb h j v a
theorem QhE {n:Nat}{A:Nat->Prop}{s:JSt}{x:ZC}{e:EP}(p:Blk w n #[Pv b 0] 234) (u:Blk w X (QbW x e) 84) (t:JOk s) (o:∀ k,O k->k<w.heap.size) (h:SAt w b O A s) (E:Qdn w Q x e) (g:-9223372036854775808<=x.a/\x.a<=9223372036854775807) (z:x.form s.f.blocks.length=0) :
 Calls prog 213 #[Pv n 0,Pv X 0] w fun r w'=>ZG (s.fin x) VNone r/\Below w.heap.size w w':=by
 have C:=Qa (QkZ t o h E g z);have L:=Qb p 0 _ Z;have q:=Qa (QeS u);clear p u t h E g z o;obtain⟨J,c⟩:=underEnd
 have i:=Qa c;clear c;generalize d:QbW x e=l at C q;have j:Hid ((prog.info? 84).map (·.size)=some l.toList.length):=by show _=_;rw[<-d];exact sizeEnd
 clear d;go_enter func213,ntmps213
 go_wp2_with (refine wpList_load_mid Z 84 (.tmp 1) Z X 0 Z l.toList _ q.out i.out Z j.out ?_)
 refine C.out.mono ?_;rintro K I D;have m:=Qa D;obtain⟨H,G⟩:=D
 rcases H with ⟨B,y,rfl,F⟩|⟨B,rfl⟩
 rotate_left
 ·exact⟨Z,m.out⟩
 subst F;clear B G C;go_wp2
 exact Xz (v:=.tuple #[]) (by simp[results,results213,go_sem]) Z m.out
theorem QjR {A:Nat->Prop}{s:JSt}{x:ZC}{e:EP}(hA:∀ k,A k->k<w.heap.size) (hJ:JOk s) (h:SAt w b O A s) (hx:Qdn w Q x e) (B:-9223372036854775808<=x.a/\x.a<=9223372036854775807) (hs:x.yes.regs.length<2305843009213693952/\x.yes.args.length<2305843009213693952/\x.no.regs.length<2305843009213693952/\x.no.args.length<2305843009213693952) :
 Calls prog 165 #[Pv b 0,.agg (QbW x e)] w fun r w'=>r=.returned (Iv (s.fin x))/\Below w.heap.size w w':=by
 have af:∀ (fn:Fn) (first cap:Array Value) (w:World),(Instr.makeFunc fn first cap).run prog w=.ok (.func fn first cap) w:=fun _ _ _ _=>rfl;have U:=Qa hJ;have H0:=Qa h;have ac:=Qa hA;have V:=Qa B;have ab:=Qa hs;have b1:=Zd w (.cells #[Pv b 0] 234);have b2:=Zd (w.alloc (.cells #[Pv b 0] 234)) (.cells #[Iv x.op,Iv x.a,Iv x.yes.block,.slice e.pYR x.yes.regs.length e.cYR,.slice e.pYA x.yes.args.length e.cYA,Iv x.no.block,.slice e.pNR x.no.regs.length e.cNR,.slice e.pNA x.no.args.length e.cNA,.slice e.pA x.args.length e.cA] 84);have R:=b1.trans (b2.mono b1.size);have S:=Qa R;have H:=Qa (h.below R);have m:=Qa (hx.below R);have hS:Blk ((w.alloc (.cells #[Pv b 0] 234)).alloc (.cells #[Iv x.op,Iv x.a,Iv x.yes.block,.slice e.pYR x.yes.regs.length e.cYR,.slice e.pYA x.yes.args.length e.cYA,Iv x.no.block,.slice e.pNR x.no.regs.length e.cNR,.slice e.pNA x.no.args.length e.cNA,.slice e.pA x.args.length e.cA] 84)) w.heap.size #[Pv b 0] 234:=(Blk.new _ _ _:Blk (w.alloc (.cells #[Pv b 0] 234)) w.heap.size _ _).below b2
 have L:Blk ((w.alloc (.cells #[Pv b 0] 234)).alloc (.cells #[Iv x.op,Iv x.a,Iv x.yes.block,.slice e.pYR x.yes.regs.length e.cYR,.slice e.pYA x.yes.args.length e.cYA,Iv x.no.block,.slice e.pNR x.no.regs.length e.cNR,.slice e.pNA x.no.args.length e.cNA,.slice e.pA x.args.length e.cA] 84)) (w.heap.size+1) (QbW x e) 84:=by
  have:=Blk.new (w.alloc (.cells #[Pv b 0] 234)) (QbW x e) 84
  simpa using this
 have I:=Qa hS;have z:=Qa L;clear hS L b1 b2 R h hA hJ hx B hs;go_enter func165,ntmps165
 go_upto_region 1 with fail
 generalize (w.alloc (.cells #[Pv b 0] 234)).alloc (.cells #[Iv x.op,Iv x.a,Iv x.yes.block,.slice e.pYR x.yes.regs.length e.cYR,.slice e.pYA x.yes.args.length e.cYA,Iv x.no.block,.slice e.pNR x.no.regs.length e.cNR,.slice e.pNA x.no.args.length e.cNA,.slice e.pA x.args.length e.cA] 84)=w1 at S H m I z |-;obtain⟨P,p⟩:∃ P,P=w.heap.size:=⟨_,Z⟩
 obtain⟨X,L⟩:∃ X,X=P+1:=⟨_,Z⟩
 rw[<-p] at I z |-
 rw[<-L] at z |-
 have C:=Qa p;clear L p;have s0:=Qb I.out 0 _ Z;have G:=Qa (QeS z.out);obtain⟨pm,cm,hh,a1,c1,a2,c2,a3,c3,aL,cL,RR⟩:=H.out.read
 obtain⟨-,-,q2,q3,q4,q5,-⟩:=RR.cells
 obtain⟨v,F⟩:∃ v,x.form s.f.blocks.length=v:=⟨_,Z⟩
 have n:Hid (x.form s.f.blocks.length=v):=F;have ad:=Qa (U.out.mod.2 s.f U.out.fn);clear F RR;refine Code.wp_mono ?_ (jE1 s0 q2 q3 q4 q5 G ab (by have:=ad.out.many.2;omega) n _ _ Z (Xg (by kernel_rfl)) Z Z);rintro ee aa i ⟨rfl,vs,rfl,N,D⟩;simp only[QM,Act.put,List.setIfInBounds_toArray,List.set_cons_zero,List.set_cons_succ,N]
 have j:=Qa (S.out.trans (D.mono S.out.size));have E:=Qa (I.out.below D);have J:=Qa (z.out.below D);have M:=Qa (m.out.below D);clear D N s0 q2 q3 q4 q5 I z S H G m;by_cases t:v=0
 rotate_left
 ·have ae:(v != 0)=true:=by simpa using t
  have E1:Hid (s.fin x=v):=by show _=_;unfold JSt.fin;rw[n.out,Xs t]
  go_wp2_with fail
  go_ret;exact⟨by rw[E1.out];rfl,by first | exact j.out | (rw[C.out];exact j.out)⟩
 subst t;have K:=Zd i (.cells #[Iv 0] 3);have g:=j.out.trans (K.mono j.out.size)
 have CK:Hid (Calls prog 210 #[.func (.func 213) #[] #[Pv P 0,Pv X 0]] i fun en w'=>QfP i.heap.size (fun d=>s.fin x=0/\Below (i.alloc (.cells #[Iv 0] 3)).heap.size (i.alloc (.cells #[Iv 0] 3)) d) (fun c d=>s.fin x=c/\Below (i.alloc (.cells #[Iv 0] 3)).heap.size (i.alloc (.cells #[Iv 0] 3)) d) en w'):=by
  refine QcE _ _ enters_end1 _ _ ?_;refine(QhE (E.out.below K) (J.out.below K) U.out (fun k T=>Zl (ac.out k (H0.out.sub k T)) g.size) (H0.out.below g) (M.out.below K) V.out n.out).mono ?_
  rintro en d ⟨hd,q⟩;have l:Blk d i.heap.size #[Iv 0] 3:=(Blk.new i #[Iv 0] 3).below q;rcases hd with ⟨hc,y,rfl,hy⟩|⟨hc,rfl⟩
  ·subst hy;exact⟨l,.inl ⟨Z,hc,q⟩⟩
  ·exact⟨l,.inr ⟨_,Z,Z,q⟩⟩
 have o:Hid (∀ d u,Below (i.alloc (.cells #[Iv 0] 3)).heap.size (i.alloc (.cells #[Iv 0] 3)) d->Chg i.heap.size d u->Below w.heap.size w u):=fun d u h1 h2 =>
  Chg.last (g.trans (h1.mono g.size)) h2 j.out.size (Zt g.size h1.size)
 clear K g E J M;go_wp2_with fail
 refine CK.out.mono ?_;intro e' u T
 have FF:Hid (e'=.returned (Iv (s.fin x))/\Below w.heap.size w u):=by
  rcases T with ⟨d,⟨g1,W⟩,rfl,g3⟩|⟨d,c,⟨g1,W⟩,rfl,g4⟩
  ·exact⟨by rw[g1],o.out d u W g3⟩
  ·exact⟨by rw[g1],o.out d u W g4⟩
 obtain⟨rfl,-⟩:=id FF.out
 clear T CK o;go_wp2
 go_ret;first | exact⟨Z,FF.out.2⟩ | exact⟨Z,by rw[C.out];exact FF.out.2⟩
def Qcw {n:Nat}(w:World) (Q:Nat->Prop) (l:List (TT n)) (e:Ending) (w':World):Prop :=
 ∃ v ds,e=.returned v/\w'.ownsRow 0 105 3 v l.length ds/\(∀ g,v.ownBlock=some g->w.heap.size<=g)/\(∀ i x,l[i]?=some x->(Lay.tt n).In w Q x ((ds.drop (i*3)).take 3))/\Below w.heap.size w w'
theorem Qhp {l:List (TT n)}(hN:l.length=N) (ag:N<=5000) (hl:(Qp n).In w Q l [.slice p N c]) :
 Calls prog 209 #[.slice p N c] w fun e w'=>Qcw w Q l e w':=by
 obtain⟨i0,hi,aa,L,ae⟩:=pInfoT
 have q:∀ (w:World) (a:Option Addr) (n c O c':Nat),(binOp .eql 80 (.slice a n c) (.slice none O c')).run prog w=.ok (.bool a.isNone) w:=fun w a n c O c'=>Lib.run_eql_slice_nil w _ _ a n c O c' pUnderT;have C:=Qa hl;have z:=Qa hN;clear hl hN
 cases p with
 | none =>
   have v:l=[]:=by
    rcases l with _ | ⟨x,r⟩
    ·rfl
    ·obtain⟨g,o,A,e,-⟩:=Yf C.out (i:=0) (x:=x) Z
     cases e
   subst v;have S:N=0:=by have:=z.out;simpa using this.symm
   subst S;have E:Hid (Qcw w Q ([]:List (TT n)) (.returned (Nv)) w):=⟨Nv,[],Z,⟨Z,.inl ⟨Z,Z⟩⟩,fun g hg=>by simp[Value.ownBlock] at hg,fun i x hx=>by simp at hx,Zr⟩;clear C z;go_enter func209,ntmps209
   go_wp2
   go_ret;exact E.out
 | some ad =>
   have M:=Zd w (.cells #[] 105);have d:(w.alloc (.cells #[] 105)).ownsRow 0 105 3 (.slice (some ⟨w.heap.size,0,none⟩) 0 0) 0 []:=⟨Z,.inr ⟨w.heap.size,0,#[],Z,Xb _,Qe w _ _,Ze,by unfold maxLen;omega,Z,Z⟩⟩;have m:=Qa M;have f:=Qa d;by_cases R:N=0
   ·subst R;have v:l=[]:=Xf.1 z.out;subst v;have ha:Hid (∀ (t:TypeId) (D:World),(Builtin.append_ #[80,80] t #[.slice (some ⟨w.heap.size,0,none⟩) 0 0,.slice (some ad) 0 c]).run prog D=.ok (.slice (some ⟨w.heap.size,0,none⟩) 0 0) D):=fun (t:TypeId) (D:World)=>run_append_nothing (P:=prog) D 80 80 t 105 i0 pUnderT hi (some ⟨w.heap.size,0,none⟩) 0 0 Ze (.slice (some ad) 0 c) (Src.ofSlice D pUnderT ad 0 c [] (by simp) (fun j u h=>by simp at h) (fun u h=>by cases h));have E:Hid (Qcw w Q ([]:List (TT n)) (.returned (.slice (some ⟨w.heap.size,0,none⟩) 0 0)) (w.alloc (.cells #[] 105))):=⟨_,[],Z,f.out,fun g hg=>by simp[Value.ownBlock] at hg;omega,fun i x hx=>by simp at hx,m.out⟩;clear C z m f d M;generalize V:w.alloc (.cells #[] 105)=w1 at E;go_enter func209,ntmps209
    go_wp2_with (at_builtin;refine QaM Z (.tmp 5) (.tmp 6) 80 Z (.slice (some ⟨w.heap.size,0,none⟩) 0 0) (.slice (some ad) 0 c) Z Z (ha.out _ _) ?_)
    go_ret;first | exact E.out | (rw[V];exact E.out)
   ·obtain⟨I,H,e0⟩:∃ I H,(some ad)=some (⟨I,H,none⟩:Addr):=by
     obtain⟨g,o,dd,e,-⟩:=Yf C.out (Zg (show 0<l.length by have:=z.out;omega))
     exact⟨g,o,e⟩
    cases e0
    obtain⟨A,d1,d2,d3,d4⟩:=Lay.flat C.out (fun y cs hy=>by obtain⟨ya,yc,e,-⟩:=hy;subst e;exact QlS _ _ _ _ _)
    have F:A.length=N*3:=by rw[<-z.out];exact d1
    have U:=Qa F;have W:Hid (∀ (j:Nat) (u:Value),A[j]?=some u->(w.alloc (.cells #[] 105)).cell? ((⟨I,H,none⟩:Addr).add j)=some u):=fun j u hj=>Qk (d2 j u hj) m.out;have ab:=Qa d3
    have G:Hid (∀ B g b,B.ownsRow 0 105 3 (.slice (some ⟨g,0,none⟩) N b) N A->(w.alloc (.cells #[] 105)).grownBy B (some w.heap.size)->(w.heap.size=g\/g=w.heap.size+1)->Qcw w Q l (.returned (.slice (some ⟨g,0,none⟩) N b)) B):=by
     intro B g b J s X;have af:=s.size;refine⟨_,A,Z,by rw[z.out];exact J,fun g' ac=>?_,d4,⟨s.os.trans m.out.os,s.tape.trans m.out.tape,s.output.trans m.out.output,by simp at af;omega,fun k hk=>?_⟩⟩
     ·simp[Value.ownBlock] at ac
      omega
     ·exact(s.block k (by simp;omega) (fun e=>by injection e with e;omega)).trans (m.out.block k hk)
    clear C m d1 F d2 d3 d4 d M;have T:0<N:=by omega
    have K:Hid (0<=(w.alloc (.cells #[] 105)).heap.size):=Xb _;go_enter func209,ntmps209
    go_wp2_with (at_builtin;refine wpList_append_lies _ Z (.tmp 5) (.tmp 6) 80 Z 0 105 i0 (.agg #[Iv 0,Iv 0,Nv]) 3 40 pUnderT hi aa L ae Z (by decide) _ _ _ Z f.out ⟨I,H,none⟩ N c A Z U.out W.out ab.out T (by unfold maxLen;omega) (by omega) K.out (w.heap.size+1) (by simp) ?_)
    intro g2 b B J s X r4;have Z9:=Qa (G.out B g2 b (by simpa using J) (by simpa[Value.ownBlock] using s) (by simpa[Value.ownBlock] using X));clear J s X r4 G f;go_wp2
    go_ret;first | exact Z9.out | simpa using Z9.out
def Qgu (m:List (MFunc 6)) (f b:Int):Bool:=decide (0<=f)&&(match m[f.toNat]? with | none=>false | some g=>decide (0<=b)&&decide (b<(g.blocks.length:Int)))
theorem Qh1 {m:List (MFunc 6)}{f b:Int}(h:Qgu m f b=true):∃ (i j:Nat) (fn:MFunc 6) (g:MBlock 6),f=(i:Int)/\b=(j:Int)/\m[i]?=some fn/\fn.blocks[j]?=some g:=by
 unfold Qgu at h;simp only[Bool.and_eq_true,decide_eq_true_eq] at h
 obtain⟨c,a⟩:=h
 obtain⟨i,rfl⟩:=Xc c
 rw[XT] at a
 cases e:m[i]? with
 | none=>rw[e] at a;cases a
 | some fn =>
   rw[e] at a
   simp only[Bool.and_eq_true,decide_eq_true_eq] at a
   obtain⟨j,rfl⟩:=Xc a.1
   exact⟨i,j,fn,_,Z,Z,e,Zg (by omega)⟩
theorem QkP {m:List (MFunc 6)}(f b:Int) (j:m.length<=100000) (r:(QaN 6).In w All m [.slice p m.length c]) :
 Calls prog 207 #[.agg #[.slice p m.length c],Iv f,Iv b] w fun e w'=>e=.returned (.bool (Qgu m f b))/\Below w.heap.size w w':=by
 have n:=Zd w (.cells #[.slice p m.length c] 24);have d:=Qa n;have u:=Qb (Qe w #[.slice p m.length c] 24) 0 _ Z;by_cases t:0<=f
 rotate_left
 ·have E:Hid (Qgu m f b=false):=by show _=_;unfold Qgu;rw[Xu t];rfl
  have C:decide (f>=0)=false:=Xu t;clear r n;generalize m.length=z at u d;go_enter func207,ntmps207
  go_wp2
  go_ret;exact⟨by rw[E.out];rfl,d.out⟩
 obtain⟨i,rfl⟩:=Xc t
 by_cases s:i<m.length
 rotate_left
 ·have E:Hid (Qgu m (i:Int) b=false):=by show _=_;unfold Qgu;rw[XT,Xk (by omega)];simp
  have h:¬ (i:Int)<m.length:=by omega
  clear r n;generalize m.length=z at u d s h j;go_enter func207,ntmps207
  go_wp2
  go_ret;exact⟨by rw[E.out];rfl,d.out⟩
 have q:m[i]?=some m[i]:=Zg s;generalize m[i]=g at q;obtain⟨x,F,J,L,G,H,K,I,rfl,v,D,B,A,-,-⟩:=QdD r q
 have y:x<w.heap.size:=Xi w ⟨x,F+i*4,none⟩ v;have E:Hid (Qgu m (i:Int) b=(decide (0<=b)&&decide (b<(g.blocks.length:Int)))):=by show _=_;unfold Qgu;rw[XT,q];simp
 have h:(i:Int)<m.length:=by omega
 clear r n v D B q;generalize m.length=z at u d s h j;generalize g.blocks.length=o at A E;by_cases a:0<=b
 rotate_left
 ·have k:decide (b>=0)=false:=Xu a;rw[show (decide (0<=b)&&decide (b<(o:Int)))=false by rw[Xu a];rfl] at E
  go_enter func207,ntmps207
  go_wp2
  go_ret;exact⟨by rw[E.out];rfl,d.out⟩
 ·have k:decide (b>=0)=true:=Xt a;rw[show (decide (0<=b)&&decide (b<(o:Int)))=decide (b<(o:Int)) by rw[Xt a];rfl] at E
  by_cases l:b<(o:Int)
  ·rw[Xt l] at E
   go_enter func207,ntmps207
   go_wp2
   go_ret;exact⟨by rw[E.out];rfl,d.out⟩
  ·rw[Xu l] at E
   go_enter func207,ntmps207
   go_wp2
   go_ret;exact⟨by rw[E.out];rfl,d.out⟩
theorem Qnv (c:cs.length=12) :
 Blk ((w1.alloc (.cells #[Iv 0,Nv,Nv,Iv 0,Iv 0,Iv 0,Nv,Nv,Iv 0,Nv,Nv,Nv] 86)).setCells w1.heap.size 0 cs.toArray.toList) w1.heap.size cs.toArray 86/\Below w1.heap.size w1 ((w1.alloc (.cells #[Iv 0,Nv,Nv,Iv 0,Iv 0,Iv 0,Nv,Nv,Iv 0,Nv,Nv,Nv] 86)).setCells w1.heap.size 0 cs.toArray.toList)/\(w1.alloc (.cells #[Iv 0,Nv,Nv,Iv 0,Iv 0,Iv 0,Nv,Nv,Iv 0,Nv,Nv,Nv] 86)).there w1.heap.size 0 cs.toArray.size:=by
 have a:=Qe w1 #[Iv 0,Nv,Nv,Iv 0,Iv 0,Iv 0,Nv,Nv,Iv 0,Nv,Nv,Nv] 86;refine⟨?_,?_,?_⟩
 ·have d:Blk (w1.alloc (.cells #[Iv 0,Nv,Nv,Iv 0,Iv 0,Iv 0,Nv,Nv,Iv 0,Nv,Nv,Nv] 86)) w1.heap.size ([]++(#[Iv 0,Nv,Nv,Iv 0,Iv 0,Iv 0,Nv,Nv,Iv 0,Nv,Nv,Nv]:Array Value).toList).toArray 86:=a;exact Blk.sets cs [] (#[Iv 0,Nv,Nv,Iv 0,Iv 0,Iv 0,Nv,Nv,Iv 0,Nv,Nv,Nv]:Array Value).toList _ (by rw[c];rfl) d
 ·have:=Qz.setCells (O:=fun k=>k=w1.heap.size) (O':=fun k=>k=w1.heap.size) (b:=w1.heap.size) Z cs.toArray.toList 0 _ (Qz.refl _ (w1.alloc (.cells #[Iv 0,Nv,Nv,Iv 0,Iv 0,Iv 0,Nv,Nv,Iv 0,Nv,Nv,Nv] 86)))
  exact(Zd w1 _).trans (this.below (by simp) (fun k e=>by omega))
 ·intro j hj;rw[List.size_toArray,c] at hj
  rw[XK]
  refine⟨?_,Qj a j⟩
  rw[Qb a j ((#[Iv 0,Nv,Nv,Iv 0,Iv 0,Iv 0,Nv,Nv,Iv 0,Nv,Nv,Nv]:Array Value)[j]'hj) (by simp)];rfl
theorem Z3 {xs:List Value}(h:w.ownsRow 0 e s v n xs) (i:Below w.heap.size w w'):w'.ownsRow 0 e s v n xs:=by
 obtain⟨d,f⟩:=h
 refine⟨d,?_⟩
 rcases f with j | ⟨g,a,b,l,k,c,r⟩
 ·exact .inl j
 ·exact .inr ⟨g,a,b,l,k,(i.block g (XC c)).trans c,r⟩
theorem QjE {xs:List Value}(h:w.ownsRow 0 e s v n xs):∃ a c,v=.slice a n c:=by
 obtain⟨m,b⟩:=h
 rcases b with ⟨i,f⟩|⟨g,d,j,k,o,l,r⟩
 ·exact⟨none,0,by rw[i,f]⟩
 ·exact⟨_,_,k⟩
def QnE (w7:World) (M9 F10 B11 nm cm n1 d1 n2 d2 n3 d3 np cp:Nat) (fr br:Int) (pm p1 p2 p3 pp:Option Addr) (ps:List (TT 6)) (QP:Nat->Prop) (t:Tmp) (v:Value) (w:World):Prop :=
 match ([(39,fun v w=>∃ hh,v=.pointer (some ⟨hh,0,none⟩)/\w7.heap.size<=hh/\Qo w hh (QbV br)),(43,fun v w=>∃ a c ds,v=.slice a np c/\w.ownsRow 0 105 3 (.slice a np c) np ds/\(∀ g,(Value.slice a np c).ownBlock=some g->w7.heap.size<=g)/\(∀ i x,ps[i]?=some x->(Lay.tt 6).In w7 QP x ((ds.drop (i*3)).take 3))),(44,fun v w=>∃ hh a c ds,v=.agg #[.slice pm nm cm,.pointer (some ⟨hh,0,none⟩),.int .i64 fr,.slice p1 n1 d1,.slice p2 n2 d2,.slice p3 n3 d3,.slice a np c]/\w7.heap.size<=hh/\Qo w hh (QbV br)/\w.ownsRow 0 105 3 (.slice a np c) np ds/\(∀ g,(Value.slice a np c).ownBlock=some g->w7.heap.size<=g)/\(∀ i x,ps[i]?=some x->(Lay.tt 6).In w7 QP x ((ds.drop (i*3)).take 3))),(45,fun v w=>∃ B hh a c ds,v=.pointer (some ⟨B,0,none⟩)/\w7.heap.size<=B/\w.heap[B]?=some (.cells #[.slice pm nm cm,.pointer (some ⟨hh,0,none⟩),.int .i64 fr,.slice p1 n1 d1,.slice p2 n2 d2,.slice p3 n3 d3,.slice a np c] 279 (0,0))/\w7.heap.size<=hh/\Qo w hh (QbV br)/\w.ownsRow 0 105 3 (.slice a np c) np ds/\(∀ g,(Value.slice a np c).ownBlock=some g->w7.heap.size<=g)/\(∀ i x,ps[i]?=some x->(Lay.tt 6).In w7 QP x ((ds.drop (i*3)).take 3))),(6,fun v w=>∃ B hh a c ds,v=.pointer (some ⟨B,0,none⟩)/\w7.heap.size<=B/\w.heap[B]?=some (.cells #[.slice pm nm cm,.pointer (some ⟨hh,0,none⟩),.int .i64 fr,.slice p1 n1 d1,.slice p2 n2 d2,.slice p3 n3 d3,.slice a np c] 279 (0,0))/\w7.heap.size<=hh/\Qo w hh (QbV br)/\w.ownsRow 0 105 3 (.slice a np c) np ds/\(∀ g,(Value.slice a np c).ownBlock=some g->w7.heap.size<=g)/\(∀ i x,ps[i]?=some x->(Lay.tt 6).In w7 QP x ((ds.drop (i*3)).take 3)))]:List (Tmp × (Value->World->Prop))).lookup t with
 | some p=>p v w
 | none=>v=(([(9,.pointer (some ⟨M9,0,none⟩)),(10,.pointer (some ⟨F10,0,none⟩)),(11,.pointer (some ⟨B11,0,none⟩)),(36,.agg #[.slice pm nm cm]),(37,.pointer (some ⟨B11,0,none⟩)),(38,.int .i64 br),(40,.agg #[.int .i64 fr,.slice p1 n1 d1,.slice p2 n2 d2,.slice p3 n3 d3]),(41,.pointer (some ⟨B11,1,none⟩)),(42,.slice pp np cp),(46,.agg #[.int .i64 0,.int .i64 0])]:List (Tmp × Value)).lookup t).getD undef
theorem jn9 {d:World}{M9 r F L S d1 I N T O f cp:Nat}{E:Int}{p1 M U pp:Option Addr}{G:List (TT 6)}{H:Nat->Prop}(m0:d.cell? ⟨M9,0,none⟩=some (.slice pm L cm)) (f0:d.cell? ⟨r,0,none⟩=some (Iv fr)) (f1:d.cell? ⟨r,1,none⟩=some (.slice p1 S d1)) (f2:d.cell? ⟨r,2,none⟩=some (.slice M I N)) (f3:d.cell? ⟨r,3,none⟩=some (.slice U T O)) (y0:d.cell? ⟨F,0,none⟩=some (Iv E)) (y1:d.cell? ⟨F,1,none⟩=some (.slice pp f cp)) (ac:-9223372036854775808<=E/\E<=9223372036854775807) (V:Hid (G.length=f)) (af:f<=5000) (HP:Hid ((Qp 6).In d H G [.slice pp f cp])) (aj:Hid (∀ (i:Nat) (x:TT 6) (cs:List Value){w:World},G[i]?=some x->(Lay.tt 6).In w H x cs->Below d.heap.size d w->(Lay.tt 6).In d H x cs)){Q:Exit->Act->World->Prop}
 (a:Act) (m:Nat) (hn:a.tmps.size=m) (ak:47<=m) (h9:a.tmps.getD 9 undef=Pv M9 0) (ae:a.tmps.getD 10 undef=Pv r 0) (ad:a.tmps.getD 11 undef=Pv F 0)
 (hend:∀ ops vs w',vs 46=.agg #[Iv 0,Iv 0]->(fun v w=>∃ B hh a c ds,v=Pv B 0/\d.heap.size<=B/\w.heap[B]?=some (.cells #[.slice pm L cm,Pv hh 0,Iv fr,.slice p1 S d1,.slice M I N,.slice U T O,.slice a f c] 279 (0,0))/\d.heap.size<=hh/\Qo w hh (QbV E)/\w.ownsRow 0 105 3 (.slice a f c) f ds/\(∀ g,(Value.slice a f c).ownBlock=some g->d.heap.size<=g)/\(∀ i x,G[i]?=some x->(Lay.tt 6).In d H x ((ds.drop (i*3)).take 3))) (vs 6) w'->Below d.heap.size d w'->wpList prog ops Q (Qan 12 ((Tryz.f163.body.bind (Qi 9)).getD .skip)) (QM a vs [36,37,38,39,40,41,42,43,44,45,46,6]) w') :
 Code.wp prog ((Tryz.f163.body.bind (Qi 9)).getD .skip) Q a d:=by
 conv=>arg 2;whnf
 refine Qg 12 (QnE d M9 r F L cm S d1 I N T O f cp fr E pm p1 M U pp G H) (fun w=>Below d.heap.size d w) (fun w w'=>Below w.heap.size w w') (outs:=[9,10,11]) (gs:=[]) (bs:=[true,true,true,true,true,true,true,true,true,true,true,true]) (by kernel_rfl) (n:=47) hn ak (by kernel_rfl) (by kernel_rfl) ?hR ?hG (QI Zr 1) ⟨h9,ae,ad,Y⟩ ?hA ?hend
 case hR =>
  intro t v w w' A h;unfold QnE at h |-;split at h
  ·rename_i p u
   simp only[List.lookup_cons,List.lookup_nil] at u
   split at u
   ·cases u;exact(by obtain⟨hh,e,o,l⟩:=h;exact⟨hh,e,o,l.below A⟩)
   ·split at u
    ·cases u;exact(by obtain⟨a,c,ds,e,o,l,s⟩:=h;exact⟨a,c,ds,e,Z3 o A,l,s⟩)
    ·split at u
     ·cases u;exact(by obtain⟨hh,a,c,ds,e,o,l,s,P,W⟩:=h;exact⟨hh,a,c,ds,e,o,l.below A,Z3 s A,P,W⟩)
     ·split at u
      ·cases u;exact(by obtain⟨B,hh,a,c,ds,e,D,y,o,l,s,P,W⟩:=h;exact⟨B,hh,a,c,ds,e,D,(A.block B (XC y)).trans y,o,l.below A,Z3 s A,P,W⟩)
      ·split at u
       ·cases u;exact(by obtain⟨B,hh,a,c,ds,e,D,y,o,l,s,P,W⟩:=h;exact⟨B,hh,a,c,ds,e,D,(A.block B (XC y)).trans y,o,l.below A,Z3 s A,P,W⟩)
       ·cases u
  ·exact h
 case hG=>exact Y
 case hend=>exact fun ops vs w' b k=>hend ops vs w' (k 46 (by kernel_rfl)) (k 6 (by kernel_rfl)) b
 case hA =>
  iterate 3
   refine⟨fun a w b k K q=>?_,?_⟩
   ·obtain⟨j,-⟩:=k
    conv at j=>whnf;rhs;whnf
    have u0:=Qk m0 b;have u1:=Qk y0 b;go_simp;exact q _ _ Zr b Z
  refine⟨fun a w b k K q=>?_,?_⟩
  ·obtain⟨j,-⟩:=k
   conv at j=>whnf;rhs;whnf
   go_simp;refine Xm (QkK _ E ac) ?_;rintro r7 w8 ⟨rfl,ai,C⟩;go_simp;exact q _ _ C (b.trans (C.mono b.size)) ⟨_,Z,b.size,ai⟩
  iterate 3
   refine⟨fun a w b k K q=>?_,?_⟩
   ·obtain⟨j,-⟩:=k
    conv at j=>whnf;rhs;whnf
    have u0:=Qk f0 b;have u1:=Qk f1 b;have u2:=Qk f2 b;have u3:=Qk f3 b;have u4:=Qk y1 b;go_simp;exact q _ _ Zr b Z
  refine⟨fun a w b k K q=>?_,?_⟩
  ·obtain⟨j,-⟩:=k
   conv at j=>whnf;rhs;whnf
   go_simp;refine Xm (Qhp V.out af (Ya HP.out b)) ?_;rintro r7 w8 ⟨v8,ab,rfl,o1,o2,o3,C⟩;rw[V.out] at o1
   obtain⟨a8,c8,rfl⟩:=QjE o1
   go_simp;exact q _ _ C (b.trans (C.mono b.size)) ⟨a8,c8,ab,Z,o1,fun g hg=>Zt b.size (o2 g hg),fun i x hx=>aj.out i x _ hx (o3 i x hx) b⟩
  refine⟨fun a w b k K q=>?_,?_⟩
  ·obtain⟨j,k1,k2,X,-⟩:=k
   conv at j=>whnf;rhs;whnf
   have k1:(fun v w=>∃ hh,v=Pv hh 0/\d.heap.size<=hh/\Qo w hh (QbV E)) (a.tmps.getD 39 undef) w:=k1;generalize aa:a.tmps.getD 39 undef=am at k1;conv at k2=>whnf;rhs;whnf
   have X:(fun v w=>∃ a c ds,v=.slice a f c/\w.ownsRow 0 105 3 (.slice a f c) f ds/\(∀ g,(Value.slice a f c).ownBlock=some g->d.heap.size<=g)/\(∀ i x,G[i]?=some x->(Lay.tt 6).In d H x ((ds.drop (i*3)).take 3))) (a.tmps.getD 43 undef) w:=X;generalize ag:a.tmps.getD 43 undef=an at X;obtain⟨hh,rfl,D,y⟩:=k1
   obtain⟨J,R,z,rfl,o,l,s⟩:=X
   have j0:a.tmps[36]?.getD undef=.agg #[.slice pm L cm]:=by simpa using j
   have j1:a.tmps[39]?.getD undef=Pv hh 0:=by simpa using aa
   have j2:a.tmps[40]?.getD undef=.agg #[Iv fr,.slice p1 S d1,.slice M I N,.slice U T O]:=by simpa using k2
   have j3:a.tmps[43]?.getD undef=.slice J f R:=by simpa using ag
   go_simp;exact q _ _ Zr b ⟨hh,J,R,z,Z,D,y,o,l,s⟩
  refine⟨fun a w b k K q=>?_,?_⟩
  ·obtain⟨j,-⟩:=k
   have j:(fun v w=>∃ hh a c ds,v=.agg #[.slice pm L cm,Pv hh 0,Iv fr,.slice p1 S d1,.slice M I N,.slice U T O,.slice a f c]/\d.heap.size<=hh/\Qo w hh (QbV E)/\w.ownsRow 0 105 3 (.slice a f c) f ds/\(∀ g,(Value.slice a f c).ownBlock=some g->d.heap.size<=g)/\(∀ i x,G[i]?=some x->(Lay.tt 6).In d H x ((ds.drop (i*3)).take 3))) (a.tmps.getD 44 undef) w:=j;generalize ah:a.tmps.getD 44 undef=al at j;obtain⟨hh,J,R,z,rfl,D,y,o,l,s⟩:=j
   go_simp;have C:=Zd w (.cells #[.slice pm L cm,Pv hh 0,Iv fr,.slice p1 S d1,.slice M I N,.slice U T O,.slice J f R] 279);exact q _ _ C (b.trans (C.mono b.size)) ⟨w.heap.size,hh,J,R,z,Z,b.size,Qe _ _ _,D,y.below C,Z3 o C,l,s⟩
  refine⟨fun a w b k K q=>?_,?_⟩
  ·clear k;go_simp;exact q _ _ Zr b Z
  refine⟨fun a w b k K q=>?_,?_⟩
  ·obtain⟨j,-⟩:=k
   have j:(fun v w=>∃ B hh a c ds,v=Pv B 0/\d.heap.size<=B/\w.heap[B]?=some (.cells #[.slice pm L cm,Pv hh 0,Iv fr,.slice p1 S d1,.slice M I N,.slice U T O,.slice a f c] 279 (0,0))/\d.heap.size<=hh/\Qo w hh (QbV E)/\w.ownsRow 0 105 3 (.slice a f c) f ds/\(∀ g,(Value.slice a f c).ownBlock=some g->d.heap.size<=g)/\(∀ i x,G[i]?=some x->(Lay.tt 6).In d H x ((ds.drop (i*3)).take 3))) (a.tmps.getD 45 undef) w:=j;generalize ah:a.tmps.getD 45 undef=al at j;obtain⟨B,hh,J,R,z,rfl,D,y,h0,o,l,s,P⟩:=j
   go_simp;exact q _ _ Zr b ⟨B,hh,J,R,z,Z,D,y,h0,o,l,s,P⟩
  trivial
def Qmo (w:World) (m:List (MFunc 6)) (f b:Int) (e:Ending) (w':World):Prop :=
 Below w.heap.size w w'/\(((modFault m).1≠0/\e=.returned (.tuple #[.pointer none,QG (modFault m)])) \/
  ((modFault m).1=0/\Qgu m f b=false/\e=.returned (.tuple #[.pointer none,.agg #[Iv 1,Iv (-1)]])) \/
  ((modFault m).1=0/\Qgu m f b=true/\∃ (i j:Nat) (fn:MFunc 6) (g:MBlock 6) (B:Nat) (O A:Nat->Prop),f=(i:Int)/\b=(j:Int)/\m[i]?=some fn/\fn.blocks[j]?=some g/\e=.returned (.tuple #[Pv B 0,.agg #[Iv 0,Iv 0]])/\SAt w' B O A (JSt.start m fn g)/\∀ k,A k->w.heap.size<=k/\k<w'.heap.size))
theorem QkD {m:List (MFunc 6)}(f b:Int) (bu:¬ Qm m) (hm:(QaN 6).In w All m [.slice p m.length c]) :
 Calls prog 163 #[.agg #[.slice p m.length c],Iv f,Iv b] w fun e w'=>Qmo w m f b e w':=by
 have al:Qbe m:=ZB bu;have bl:=Qa al;have b1:=Zd w (.cells #[.slice p m.length c] 24);have b2:=Zd (w.alloc (.cells #[.slice p m.length c] 24)) (.cells #[Iv 0,Iv 0] 32);have bb:=b1.trans (b2.mono b1.size);have HB:=Qa bb;have hX:Blk ((w.alloc (.cells #[.slice p m.length c] 24)).alloc (.cells #[Iv 0,Iv 0] 32)) w.heap.size #[.slice p m.length c] 24:=(Blk.new _ _ _:Blk (w.alloc (.cells #[.slice p m.length c] 24)) w.heap.size _ _).below b2
 have hR:Blk ((w.alloc (.cells #[.slice p m.length c] 24)).alloc (.cells #[Iv 0,Iv 0] 32)) (w.heap.size+1) #[Iv 0,Iv 0] 32:=by
  have:=Blk.new (w.alloc (.cells #[.slice p m.length c] 24)) #[Iv 0,Iv 0] 32
  simpa using this
 have HX:=Qa hX;have HR:=Qa hR;have HM:=Qa hm;have ak:Hid ((QaN 6).In _ All m [.slice p m.length c]):=Ya hm bb;have ce:m.length<=100000:=al.1;clear hX hR b1 b2 bb hm al bu;go_enter func163,ntmps163
 go_upto_region 1 with fail
 generalize (w.alloc (.cells #[.slice p m.length c] 24)).alloc (.cells #[Iv 0,Iv 0] 32)=w1 at HB HX HR ak |-;obtain⟨X,hX⟩:∃ X,X=w.heap.size:=⟨_,Yz⟩
 obtain⟨R,hR⟩:∃ R,R=X+1:=⟨_,Yz⟩
 rw[<-hX] at HX HR |-
 rw[<-hR] at HR |-
 have c5:=Qa hX;have G:Hid (w.heap.size<=R):=by show _<=_;omega
 have c4:¬ X=R:=by omega
 clear hX hR;have x0:=Qb HX.out 0 _ Yz;have CC:=Qa (Qce ak.out bl.out);unfold Rd at CC;go_wp2_with fail
 refine CC.out.mono ?_;rintro e2 w2 ⟨rfl,b2⟩;have ay:=Qa (HB.out.trans (b2.mono HB.out.size));have bp:=Qa (HX.out.below b2);have ap:=Qa (HR.out.below b2);clear b2 CC x0 HX HR HB ak;have b3:=Zd w2 (.cells #[Iv (modFault m).1,Iv (modFault m).2] 32);have J:=Qa (ay.out.trans (b3.mono ay.out.size));have ac:=Qa (bp.out.below b3);have o:=Qa (ap.out.below b3);have bz:=Blk.new w2 #[Iv (modFault m).1,Iv (modFault m).2] 32;have z:=Qa bz;have cq:¬ w2.heap.size=R:=by have:=ap.out.lt;omega
 clear b3 bz ay bp ap;go_upto_region 2 with fail
 generalize w2.alloc (.cells #[Iv (modFault m).1,Iv (modFault m).2] 32)=w3 at J ac o z |-;generalize w2.heap.size=F8 at z cq |-;obtain⟨L,a0,ar⟩:∃ L a0,modFault m=(L,a0):=⟨_,_,Yz⟩
 rw[ar] at z |-
 have am:=Qa ar;clear ar;simp only at z |-
 have y0:=Qb z.out 0 _ Yz;have y1:=Qb z.out 1 _ Yz;by_cases ad:L=0
 rotate_left
 ·have cx:(L != 0)=true:=by simpa using ad
  have r0:=Qb o.out 0 _ Yz;have r1:=Qb o.out 1 _ Yz;have z0:=Qj o.out 0;have z1:=Qj o.out 1;have cu:=Qa ad;clear ad;go_upto_region 3 with fail
  go_region
  all_goals
   have K:Blk ((w3.setCell ⟨R,0,none⟩ (Iv L)).setCell ⟨R,1,none⟩ (Iv a0)).drew R #[Iv L,Iv a0] 32:=by
    have h9:Blk ((w3.setCell ⟨R,0,none⟩ (Iv L)).setCell ⟨R,1,none⟩ (Iv a0)) R #[Iv L,Iv a0] 32:=by
     have:=Qh (Qh o.out 0 (Iv L)) 1 (Iv a0)
     simpa using this
    exact h9
   have D3:Below w.heap.size w ((w3.setCell ⟨R,0,none⟩ (Iv L)).setCell ⟨R,1,none⟩ (Iv a0)).drew:=Qb5 ((J.out.setCell (p:=⟨R,0,none⟩) G.out _).setCell (p:=⟨R,1,none⟩) G.out _);clear y0 y1 r0 r1 z0 z1;generalize ((w3.setCell ⟨R,0,none⟩ (Iv L)).setCell ⟨R,1,none⟩ (Iv a0)).drew=w9 at K D3 |-;have q0:=Qb K 0 _ Yz;have q1:=Qb K 1 _ Yz;go_wp2
   exact Xy (v:=.tuple #[.pointer none,.agg #[Iv L,Iv a0]]) (by simp[results,results163,go_sem,q0,q1]) Yz ⟨D3,.inl ⟨by rw[am.out];exact cu.out,by rw[am.out]⟩⟩
 subst ad;have x3:=Qb ac.out 0 _ Yz;have CH:=Qa (QkP f b ce (Ya HM.out J.out));have HZ:Hid ((modFault m).1=0):=by show _=_;rw[am.out]
 clear y1;go_wp2_with fail
 refine CH.out.mono ?_;rintro e4 w4 ⟨rfl,b4⟩;have N:=Qa (J.out.trans (b4.mono J.out.size));have bc:=Qa (ac.out.below b4);have A:=Qa (o.out.below b4);clear b4 CH x3 y0 ac o J z
 cases hhb:Qgu m f b with
 | false =>
   have r0:=Qb A.out 0 _ Yz;have r1:=Qb A.out 1 _ Yz;have z0:=Qj A.out 0;have z1:=Qj A.out 1;have a1:=Qa hhb;clear hhb;go_wp2_with fail
   have K:Blk ((w4.setCell ⟨R,0,none⟩ (Iv 1)).setCell ⟨R,1,none⟩ (Iv (-1))) R #[Iv 1,Iv (-1)] 32:=by
    have:=Qh (Qh A.out 0 (Iv 1)) 1 (Iv (-1))
    simpa using this
   have D3:Below w.heap.size w ((w4.setCell ⟨R,0,none⟩ (Iv 1)).setCell ⟨R,1,none⟩ (Iv (-1))):=(N.out.setCell (p:=⟨R,0,none⟩) G.out _).setCell (p:=⟨R,1,none⟩) G.out _;clear r0 r1 z0 z1;generalize (w4.setCell ⟨R,0,none⟩ (Iv 1)).setCell ⟨R,1,none⟩ (Iv (-1))=w9 at K D3 |-;have q0:=Qb K 0 _ Yz;have q1:=Qb K 1 _ Yz;exact Xy (v:=.tuple #[.pointer none,.agg #[Iv 1,Iv (-1)]]) (by simp[results,results163,go_sem,q0,q1]) Yz ⟨D3,.inr (.inl ⟨HZ.out,a1.out,Yz⟩)⟩
 | true =>
   obtain⟨i,j,a,g,rfl,rfl,Q,P⟩:=Qh1 hhb
   have a1:=Qa hhb;have x4:=Qb bc.out 0 _ Yz;have CO:=Qa (Qgn m p c w4 (Ya HM.out N.out) bl.out);have c8:i<m.length:=(Zi Q).1;have bq:(i:Int)<m.length:=by omega
   have c1:j<a.blocks.length:=(Zi P).1;have bw:(j:Int)<a.blocks.length:=by omega
   clear hhb;go_wp2_with fail
   refine CO.out.mono ?_;rintro e5 l ⟨v5,rfl,⟨pm,S,rfl,T⟩,b5⟩;have a4:=Qa (N.out.trans (b5.mono N.out.size));have a5:=Qa (A.out.below b5);have ag:=Qa T;have c2:=a5.out.lt;clear b5 CO x4 bc A N;obtain⟨s,u,ds,e1,e2,e3,W,ao⟩:=Yf T Q
   subst e1;obtain⟨p1,d1,p2,d2,p3,d3,rfl,cc,cr,bh,co⟩:=Qav ao
   obtain⟨O,M,pp,cp,es,rfl,C,bj,ai,ah⟩:=Qbo bh P
   have v0:l.cell? ⟨s,u+i*4,none⟩=some (Iv a.regs):=W 0 (by decide);have v1:l.cell? ⟨s,u+i*4+1,none⟩=some (.slice p1 a.params.length d1):=W 1 (by decide);have v2:l.cell? ⟨s,u+i*4+2,none⟩=some (.slice p2 a.results.length d2):=W 2 (by decide);have v3:l.cell? ⟨s,u+i*4+3,none⟩=some (.slice (some ⟨O,M,none⟩) a.blocks.length d3):=W 3 (by decide);have cg:Hid ((ZS 6).In l (Qcs w4.heap.size) a [Iv a.regs,.slice p1 a.params.length d1,.slice p2 a.results.length d2,.slice (some ⟨O,M,none⟩) a.blocks.length d3]):=ao;have ch:Hid ((Qp 6).In l (Qcs w4.heap.size) g.params [.slice pp g.params.length cp]):=ai;have cw:=Qa C;have af:=Qa ah;have E:(Value.int .i64 g.regs::Value.slice pp g.params.length cp::es).length=12:=by simp[bj]
   have bm:=Zo HZ.out;have aq:=bm.2 a (Zm Q);have ba:=aq.blocks g (Zm P);have ax:=Qa (Xh aq ba);have a8:=Qa (Xh Q P);have bx:s<l.heap.size:=Xi l ⟨s,u+i*4,none⟩ v0;clear W ao bh C ai ah T cc cr co e2 e3 bj bm aq ba Q P;have b6:=Zd l (.cells #[.slice (some ⟨s,u,none⟩) m.length S] 24);have b7:=Zd (l.alloc (.cells #[.slice (some ⟨s,u,none⟩) m.length S] 24)) (.cells #[Iv a.regs,.slice p1 a.params.length d1,.slice p2 a.results.length d2,.slice (some ⟨O,M,none⟩) a.blocks.length d3] 89);have bv:=b6.trans (b7.mono b6.size);have y:=Qa bv;have a2:Blk ((l.alloc (.cells #[.slice (some ⟨s,u,none⟩) m.length S] 24)).alloc (.cells #[Iv a.regs,.slice p1 a.params.length d1,.slice p2 a.results.length d2,.slice (some ⟨O,M,none⟩) a.blocks.length d3] 89)) l.heap.size #[.slice (some ⟨s,u,none⟩) m.length S] 24:=(Blk.new _ _ _:Blk (l.alloc (.cells #[.slice (some ⟨s,u,none⟩) m.length S] 24)) l.heap.size _ _).below b7
   have br:Blk ((l.alloc (.cells #[.slice (some ⟨s,u,none⟩) m.length S] 24)).alloc (.cells #[Iv a.regs,.slice p1 a.params.length d1,.slice p2 a.results.length d2,.slice (some ⟨O,M,none⟩) a.blocks.length d3] 89)) (l.heap.size+1) #[Iv a.regs,.slice p1 a.params.length d1,.slice p2 a.results.length d2,.slice (some ⟨O,M,none⟩) a.blocks.length d3] 89:=by
    have:=Blk.new (l.alloc (.cells #[.slice (some ⟨s,u,none⟩) m.length S] 24)) #[Iv a.regs,.slice p1 a.params.length d1,.slice p2 a.results.length d2,.slice (some ⟨O,M,none⟩) a.blocks.length d3] 89
    simpa using this
   have F:=Qa a2;have d:=Qa br;clear b6 b7 bv a2 br;generalize cb:m.length=nm at F d y bq ag;have bk:=Qa cb;generalize cd:a.blocks.length=nb at v3 d y F bw;have cn:=Qa cd;go_upto_region 8 with fail
   generalize (l.alloc (.cells #[.slice (some ⟨s,u,none⟩) nm S] 24)).alloc (.cells #[Iv a.regs,.slice p1 a.params.length d1,.slice p2 a.results.length d2,.slice (some ⟨O,M,none⟩) nb d3] 89)=w6 at y F d |-;obtain⟨M9,b9⟩:∃ M9,M9=l.heap.size:=⟨_,Yz⟩
   obtain⟨a3,aj⟩:∃ a3,a3=M9+1:=⟨_,Yz⟩
   rw[<-b9] at F d |-
   rw[<-aj] at d |-
   clear b9 aj v0 v1 v2 v3 bx;have f0:=Qb d.out 0 _ Yz;have f1:=Qb d.out 1 _ Yz;have f2:=Qb d.out 2 _ Yz;have f3:=Qb d.out 3 _ Yz;have m0:=Qb F.out 0 _ Yz;have U:=Qa (Qaf cw.out y.out);generalize an:(Value.int .i64 g.regs::Value.slice pp g.params.length cp::es)=cs at U E;have bs:=Qa an;obtain⟨a6,bo,bg⟩:=Qnv (w1:=w6) E
   have ab:=Qa a6;have t:=Qa bo;have TH:=Qa bg;have TS:Hid ((prog.info? 86).map (·.size)=some cs.length):=by show _=_;rw[E];exact sizeBk
   have bn:Hid ((prog.info? 86).map (·.size)=some cs.toArray.size):=by show _=_;rw[List.size_toArray];exact TS.out
   have TO:Hid (cs.toArray.all (·.oneCell')=true):=by
    refine all_oneCell_toArray fun v hv=>?_;rw[<-an] at hv
    simp only[List.mem_cons] at hv
    rcases hv with rfl | rfl | hv
    ·rfl
    ·rfl
    ·exact af.out v hv
   clear a6 bo bg an E;go_upto_region 9 with (first | (refine wpList_load_mid Yz 86 (.tmp 34) Yz O (M+j*12) Yz cs _ U.out underlying86 Yz TS.out ?_) | (refine wpList_store_mid Yz 86 (.tmp 11) (.tmp 35) Yz w6.heap.size 0 cs.toArray Yz Yz TH.out bn.out TO.out ?_))
   clear TH TS bn TO U;generalize (w6.alloc (.cells #[Iv 0,Nv,Nv,Iv 0,Iv 0,Iv 0,Nv,Nv,Iv 0,Nv,Nv,Nv] 86)).setCells w6.heap.size 0 cs.toArray.toList=D at ab t |-;generalize w6.heap.size=cv at ab |-;have V:Hid (Blk D cv (Value.int .i64 g.regs::Value.slice pp g.params.length cp::es).toArray 86):=by rw[bs.out];exact ab.out
   have y0:=Qb V.out 0 _ Yz;have y1:=Qb V.out 1 _ Yz;have f0:=Qk f0 t.out;have f1:=Qk f1 t.out;have f2:=Qk f2 t.out;have f3:=Qk f3 t.out;have m0:=Qk m0 t.out;have H:=Qa (y.out.trans (t.out.mono y.out.size));have av:=Qa (a4.out.trans (H.out.mono a4.out.size));have be:=Qa (a5.out.below H.out);have cj:Hid ((Qp 6).In D (fun k=>k<D.heap.size) g.params [.slice pp g.params.length cp]):=Yc (Ya ch.out H.out) (fun k _ hl=>hl);have ct:Hid (∀ (i:Nat) (x:TT 6) (cs:List Value) {w:World},g.params[i]?=some x->(Lay.tt 6).In w (fun k=>k<D.heap.size) x cs->Below D.heap.size D w->(Lay.tt 6).In D (fun k=>k<D.heap.size) x cs):=fun i x cs w _ h hb=>(Lay.tt 6).keep (fun k n _=>(hb.block k n).symm) (fun _ h _=>h) h;have cf:-9223372036854775808<=g.regs/\g.regs<=9223372036854775807:=by have h1:=ax.out.2.regs;have h2:=ax.out.1.regs;omega
   have ck:g.params.length<=5000:=by have:=ax.out.2.params.1;omega
   clear ab V bs y t F d af;refine jn9 m0 f0 f1 f2 f3 y0 y1 cf (show Hid (g.params.length=g.params.length) from Yz) ck cj ct _ _ Yz (Xg (by kernel_rfl)) Yz Yz Yz ?_;rintro cl vs r ae ⟨B,hh,aa,ca,ds,b0,bi,au,a9,az,aw,bt,a7⟩ b8;show wpList _ cl _ [_] (QM _ vs [36,37,38,39,40,41,42,43,44,45,46,6]) r;simp only[QM,Act.put,List.setIfInBounds_toArray,List.set_cons_zero,List.set_cons_succ,ae,b0]
   have I:=Qa (be.out.below b8);have ci:=Qa (av.out.trans (b8.mono av.out.size));have c3:=be.out.lt;have Z:Hid (∀ w9,Below D.heap.size r w9\/(∀ k,k≠R->w9.heap[k]?=r.heap[k]?)->True):=fun _ _=>trivial
   have ST:Hid (SAt r B (fun k=>D.heap.size<=k/\k<r.heap.size) (fun k=>D.heap.size<=k/\k<r.heap.size) (JSt.start m a g)):=by
    have bd:=H.out.trans (b8.mono H.out.size);have c6:=H.out.size;have c7:=b8.size;refine⟨some ⟨s,u,none⟩,S,hh,p1,d1,p2,d2,some ⟨O,M,none⟩,d3,.slice aa g.params.length ca,?_,?_,?_,⟨az,a9,az.lt⟩,?_,⟨bi,XC au⟩,fun k n=>n⟩
    ·rw[au]
     show _=some (Obj.cells #[.slice (some ⟨s,u,none⟩) m.length S,_,_,_,_,.slice (some ⟨O,M,none⟩) a.blocks.length d3,_] _ _);rw[bk.out,cn.out];rfl
    ·show (QaN 6).In r _ m [.slice (some ⟨s,u,none⟩) m.length S];have h0:=ag.out;rw[<-bk.out] at h0
     exact(QaN 6).keep (fun k _ hl=>bd.block k hl) (fun k _ hl e=>by omega) h0
    ·exact(ZS 6).keep (fun k _ hl=>bd.block k hl) (fun k _ hl e=>by omega) cg.out
    ·refine⟨ds,aw,fun k n=>⟨bt k n,?_⟩,fun i x hx=>(Lay.tt 6).keep (fun k n _=>b8.block k n) (fun k n _ e=>by omega) (a7 i x hx)⟩
     obtain⟨-,q⟩:=id aw
     rcases q with ⟨e,-⟩|⟨g',cy,cz,e,-,hq,-⟩
     ·rw[e] at n;simp[Value.ownBlock] at n
     ·rw[e] at n;simp[Value.ownBlock] at n;subst n;exact XC hq
   have r0:=Qb I.out 0 _ Yz;have r1:=Qb I.out 1 _ Yz;have z0:=Qj I.out 0;have z1:=Qj I.out 1;clear ae b0 bi au a9 az aw bt a7 b8 f0 f1 f2 f3 y0 y1 m0 Z;go_wp2_with fail
   have K:Blk ((r.setCell ⟨R,0,none⟩ (Iv 0)).setCell ⟨R,1,none⟩ (Iv 0)) R #[Iv 0,Iv 0] 32:=by
    have:=Qh (Qh I.out 0 (Iv 0)) 1 (Iv 0)
    simpa using this
   have D3:Below w.heap.size w ((r.setCell ⟨R,0,none⟩ (Iv 0)).setCell ⟨R,1,none⟩ (Iv 0)):=(ci.out.setCell (p:=⟨R,0,none⟩) G.out _).setCell (p:=⟨R,1,none⟩) G.out _
   have D4:SAt ((r.setCell ⟨R,0,none⟩ (Iv 0)).setCell ⟨R,1,none⟩ (Iv 0)) B (fun k=>D.heap.size<=k/\k<r.heap.size) (fun k=>D.heap.size<=k/\k<r.heap.size) (JSt.start m a g):=by
    have bf:∀ k,((r.setCell ⟨R,0,none⟩ (Iv 0)).setCell ⟨R,1,none⟩ (Iv 0)).heap[k]?=r.heap[k]?:=fun k=>by
     by_cases n:k=R
     ·subst n;exact K.trans I.out.symm
     ·rw[Xd _ _ _ _ n,Xd _ _ _ _ n]
    exact ST.out.keep (fun k _ _=>bf k) (fun _ h _=>h) (fun _ h _=>h) (fun _ h=>h)
   have D5:∀ k,(D.heap.size<=k/\k<r.heap.size)->w.heap.size<=k/\k<((r.setCell ⟨R,0,none⟩ (Iv 0)).setCell ⟨R,1,none⟩ (Iv 0)).heap.size:=fun k n=>by
    have:=av.out.size
    simp
    omega
   clear r0 r1 z0 z1;generalize (r.setCell ⟨R,0,none⟩ (Iv 0)).setCell ⟨R,1,none⟩ (Iv 0)=w9 at K D3 D4 D5 |-;have q0:=Qb K 0 _ Yz;have q1:=Qb K 1 _ Yz;exact Xy (v:=.tuple #[Pv B 0,.agg #[Iv 0,Iv 0]]) (by simp[results,results163,go_sem,q0,q1]) Yz ⟨D3,.inr (.inr ⟨HZ.out,a1.out,i,j,a,g,B,_,_,Yz,Yz,a8.out.1,a8.out.2,Yz,D4,D5⟩)⟩
def SOk (w:World) (b B0:Nat) (s:JSt):Prop:=∃ O A,SAt w b O A s/\(∀ k,A k->B0<=k/\k<w.heap.size)/\JOk s
section
variable {w w':World}{b B0:Nat}{s:JSt}
theorem SOk.below (h:SOk w b B0 s) (k:Below w.heap.size w w'):SOk w' b B0 s:=by
 obtain⟨O,A,e,a,f⟩:=h
 exact⟨O,A,e.below k,fun c d=>⟨(a c d).1,Zl (a c d).2 k.size⟩,f⟩
theorem STo.ok {A:Nat->Prop}{d:JSt}(h:STo w w' b O A d) (f:∀ k,A k->B0<=k/\k<w.heap.size) (j:∀ k,O k->A k) (m:B0<=w.heap.size) (l:JOk d):SOk w' b B0 d/\Below B0 w w':=by
 obtain⟨N,g,i,a⟩:=h
 have e:=a.size;refine⟨⟨_,_,i,fun k c=>?_,l⟩,⟨a.os,a.tape,a.output,a.size,fun k c=>a.block k (by omega) (fun e=>by have:=f k (j k e);omega)⟩⟩
 rcases c with c | c
 ·have:=f k c;omega
 ·have:=g k c;omega
theorem SOk.ins (h:SOk w b B0 s) (l:B0<=w.heap.size){x:Qs}(c:intsL.In w Q x.regs [.slice rg x.regs.length rc]) (a:intsL.In w Q x.args [.slice ag x.args.length ac]) (f:x.regs.length<=rc) (d:ZD x) :
 Calls prog 164 #[Pv b 0,Qed x rg ag rc ac] w fun e w'=>e=.returned (Iv (s.code x))/\SOk w' b B0 (s.ins x)/\Below B0 w w':=by
 obtain⟨O,A,g,i,j⟩:=h
 refine(QkF (fun k n=>(i k n).2) j g c a f d).mono ?_
 rintro e w' ⟨rfl,m⟩;exact⟨Z,m.ok i g.sub l (j.ins x)⟩
theorem SOk.end_ (h:SOk w b B0 s){x:ZC}{e:EP}(l:Qdn w Q x e) (c:-9223372036854775808<=x.a/\x.a<=9223372036854775807) (i:x.yes.regs.length<2305843009213693952/\x.yes.args.length<2305843009213693952/\x.no.regs.length<2305843009213693952/\x.no.args.length<2305843009213693952) :
 Calls prog 165 #[Pv b 0,.agg (QbW x e)] w fun r w'=>r=.returned (Iv (s.fin x))/\Below w.heap.size w w':=by
 obtain⟨O,A,d,f,g⟩:=h
 exact QjR (fun k j=>(f k j).2) g d l c i
end
def Qkf (w w':World) (e:Ending):Prop:=∃ G1 G2,e=.returned (.agg #[.slice (some ⟨G2,0,none⟩) 1 1])/\Blk w' G1 #[Iv 0,Nv,Nv,Iv 3,Iv 0,Iv 0,Nv,Nv,Iv 0,Nv,Nv,Nv] 86/\Blk w' G2 #[Iv 0,Nv,Nv,.slice (some ⟨G1,0,none⟩) 1 1] 89/\w.heap.size<=G1/\w.heap.size<=G2/\G1≠G2/\Below w.heap.size w w'
theorem Qjj (w:World):Calls prog 39 #[] w fun e w'=>Qkf w w' e:=by
 have d:=Qf ((Bxs.start w).new #[Nv] 24);go_enter func39,ntmps39
 go_upto_region 1 with fail
 generalize w.alloc (.cells #[Nv] 24)=b at d |-;generalize w.heap.size=R at d |-;have g:=d.out.new #[Iv 0,Nv,Nv,Iv 3,Iv 0,Iv 0,Nv,Nv,Iv 0,Nv,Nv,Nv] 86;have c:=g.new #[Iv 0,Nv,Nv,.slice (some ⟨b.heap.size,0,none⟩) 1 1] 89;rw[World.size_alloc] at c
 have j:=c.cell (a:=[_,_]) 0 _ Z;have k:=c.free (a:=[_,_]) 0;have f:=Qf (c.set (a:=[_,_]) 0 (.slice (some ⟨b.heap.size+1,0,none⟩) 1 1));clear g c;go_wp2
 have h:=f.out.cell (a:=[_,_]) 0 _ Z;have i:b.heap.size≠b.heap.size+1:=by omega
 exact Xy (v:=.agg #[.slice (some ⟨b.heap.size+1,0,none⟩) 1 1]) (by simp[results,results39,go_sem,h]) Z ⟨_,_,Z,f.out.at (a:=[_]),f.out.at (a:=[]),d.out.bel.size,Nat.le_succ_of_le d.out.bel.size,i,f.out.bel⟩
theorem QbB {α:Type}{A:Lay α}{c:Array Value}{x:α}(h:Blk w G c t) (d:c.toList=cs) (f:A.In w All x cs):A.list.In w All [x] [.slice (some ⟨G,0,none⟩) 1 1]:=by
 refine⟨some ⟨G,0,none⟩,1,Z,fun i y b=>?_⟩
 have g:i=0:=by
  have:=(Zi b).1
  simp at this;exact this
 subst g;simp at b
 subst b;refine⟨G,0,cs,Z,Y,h.lt,fun j k=>?_,f⟩
 have e:=A.len f;have a:j<c.size:=by rw[<-d] at e;simp at e;omega
 rw[Nat.zero_mul,XK,<-d,Array.getElem?_toList]
 exact(Qb h j c[j] (Xj a)).trans (Xj a).symm
end Go.Proofs.YtjhdpajpibdnaafGreat
