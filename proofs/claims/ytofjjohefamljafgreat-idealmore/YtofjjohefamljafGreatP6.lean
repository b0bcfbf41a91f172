import Derived.Test.YtofjjohefamljafGreatP5
import Derived.SizedLaws
import Derived.Lib.SliceRun
set_option maxHeartbeats 16000000
set_option maxRecDepth 100000
namespace Go.Proofs.YtofjjohefamljafGreat
open Go.ChangeShapes Go.WideShapes Go.ChangeAt Go.RowKit _root_.Go.Proofs.Tryz
set_option linter.unusedSimpArgs false
set_option linter.unusedVariables false
variable {w w' w6 wr wc w1:World}{n c b B g m k i j X cm rc ac rl al fi N bh q R bi cap most lo id d f x ci na ca o lm G pages:Nat}{O O' Q2 OO:Nat→Prop}{a p ra aa pm pi pa:Option Addr}{v u v0:Value}{t bt e:TypeId}{xa xb xc xk xn words fu pg:Int}{Q:Exit→Act→World→Prop}{P:Program}{l:List Oper}{bs:List Bool}{cs xs:List Value}{inp:List Int}{x0:Operand}
section
open Go.Deep
def Wt {H:Type}(P:Program) (t:TypeId) (d:DataW H):Prop:=∀ n∈d.weights P t,n<=reachBytes
def Qw (P:Program) (t:TypeId){α:Type}(A:Lay α) (n:Nat) (Bd:α->Prop):Prop :=
 P.cellsOf t=A.size/\∀ {H:Type} {enc:TypeId × Value->H} {w:World} {base:Nat} {spare:Nat->Bool} {held:Bool} {fuel:Nat} {cs:List Value} {x:DataW H × List MemPlace},
  fuel<=n->DataW.trod enc P w base spare held fuel t cs=some x->Wt P t x.1->∃ d,A.In w (fun _=>True) d cs/\Bd d
theorem Qw.int (n:Nat) (h:P.underlying t=some (.int .i64)) (a:P.cellsOf t=1):Qw P t Lay.int n (fun _=>True) :=
 ⟨a,fun _ c _=>by
  obtain⟨k,e,_,b⟩:=DataW.trod_int h c
  exact⟨k,⟨e,Go.bounds_i64 b⟩,Y⟩⟩
theorem Qbc {H:Type}{P:Program}{e:TypeId}:∀ {l:List (DataW H)}{d:DataW H},d∈l->∀ n∈d.weights P e,n∈DataW.weightsAll P e l
 | d0::l,d,h,n,hn=>by
   simp only[DataW.weightsAll,List.mem_append]
   rcases List.mem_cons.1 h with rfl | h
   ·exact .inl hn
   ·exact .inr (Qbc h n hn)
theorem Qw.list {α:Type}{A:Lay α}{Bd:α->Prop}(h:P.underlying t=some (.slice e)) (hc:P.cellsOf t=1) (hA:Qw P e A n Bd) (G:0<A.size) (K:0<P.bytesOf e):Qw P t A.list n (fun l=>l.length<1152921504606846976) :=
 ⟨hc,fun {H ab w B S X aa cs x} hf h' W=>by
  rcases DataW.trod_slice h h' with ⟨I,_⟩|⟨a,s,Q,c,g,q,rfl,I,ex,hb,hl,hm,V,N,_,_⟩
  ·exact⟨[],by rw[I];exact Yg A _ _ _ _,by simp⟩
  ·have ae:(c.length+g.length)*P.bytesOf e<=reachBytes:=W _ (by rw[ex];simp[DataW.weights,h])
   have ad:s<1152921504606846976:=by
    have h1:c.length*1<=(c.length+g.length)*P.bytesOf e:=Nat.mul_le_mul (by omega) K;have h2:reachBytes<1152921504606846976:=by decide
    omega
   have D:∀ i,i<s->∃ y,c[i]?=some y/\Wt P e y.1:=fun i E=>by
    refine⟨c[i]'(by omega),Zg (by omega),fun k hk=>W k ?_⟩
    rw[ex]
    simp only[DataW.weights,h,List.mem_cons,List.mem_append]
    exact .inr (.inl (Qbc (List.mem_map_of_mem (List.getElem_mem (by omega))) k hk))
   obtain⟨l,O,hp⟩:=QfC (P:=fun i (d:α)=>∃ f,w.cells? B (a.add (i*A.size)) A.size=some f/\A.In w (fun _=>True) d f) s (fun i E=>by
    have T:=N i E;obtain⟨y,hy,L⟩:=D i E
    rw[hy,hA.1] at T
    rw[Option.bind_eq_some_iff] at T
    obtain⟨f,p,J⟩:=T
    obtain⟨d,F,_⟩:=hA.2 (by omega) J L
    exact⟨d,f,p,F⟩)
   refine⟨l,⟨some a,Q,by rw[I,O],fun i x U=>?_⟩,by omega⟩
   obtain⟨f,p,F⟩:=hp i x U
   obtain⟨_,ac,o⟩:=World.cells?_some p
   obtain⟨b,z,C⟩:=a
   have r:C=none:=by
    have E:0<l.length:=Nat.lt_of_le_of_lt (Xb i) (Zi U).1;obtain⟨M,v,R⟩:=hp 0 l[0] (Zg E)
    have m:0<M.length:=by rw[A.len R];exact G
    have:=(World.cells?_some v).2.2 0 G
    rw[Zg m] at this
    simpa[Addr.add] using World.cell?_spot this
   subst r
   have u:∀ j,j<A.size->w.cell? ⟨b,z+i*A.size+j,none⟩=f[j]?:=fun j hj=>by
    have:=o j hj
    rw[Go.WideShapes.add_plain,Go.WideShapes.add_plain] at this
    exact this
   refine⟨b,z,f,Z,Y,?_,u,F⟩
   have m:0<f.length:=by rw[A.len F];exact G
   have:=u 0 G
   rw[Zg m] at this
   exact Xi w _ this⟩
def QD (P:Program) (fs:Array Field):Nat->Nat->{α:Type}->Lay α->Nat->(α->Prop)->Prop:=fun i o α A n Bd =>
 ∀ (H:Type) (enc:TypeId × Value->H) (w:World) (base:Nat) (spare:Nat->Bool) (held:Bool) (fuel:Nat) (cs:List Value) (xs:List (DataW H × List MemPlace)),
  fuel<=n->cs.length=o+A.size->xs.length=fs.size->(∀ (j:Nat) (f:Field),fs[j]?=some f->DataW.trod enc P w base spare held fuel f.type ((cs.drop f.offset).take (P.cellsOf f.type))=xs[j]?) ->
  (∀ (j:Nat) (f:Field) x,fs[j]?=some f->xs[j]?=some x->Wt P f.type x.1)->∃ d,A.In w (fun _=>True) d (cs.drop o)/\Bd d
theorem QD.last {fs:Array Field}{f:Field}{α:Type}{A:Lay α}{e:α->Prop}(b:fs[i]?=some f) (t:f.offset=o) (j:Qw P f.type A n e):QD P fs i o A n e:=by
 intro H s w k a l c u v r y x h p;have g:=h i f b;have z:i<fs.size:=(Array.getElem?_eq_some_iff.1 b).1;rw[Zg (by omega),t,j.1] at g
 obtain⟨d,m,q⟩:=j.2 r g (p i f _ b (Zg (by omega)))
 refine⟨d,?_,q⟩
 rwa [XO (by simp;omega)] at m
theorem QD.cons {fs:Array Field}{f:Field}{α β:Type}{A:Lay α}{B:Lay β}{p:α->Prop}{j:β->Prop}(c:fs[i]?=some f) (D:f.offset=o) (s:Qw P f.type A n p) (v:QD P fs (i+1) (o+A.size) B n j):QD P fs i o (A.pair B) n (fun x=>p x.1/\j x.2):=by
 intro H u w m b q r I F l G t h k;have g:=h i f c;have J:i<fs.size:=(Array.getElem?_eq_some_iff.1 c).1;rw[Zg (by omega),D,s.1] at g
 obtain⟨d,C,y⟩:=s.2 l g (k i f _ c (Zg (by omega)))
 have E:(A.pair B).size=A.size+B.size:=rfl;obtain⟨e,z,a⟩:=v _ _ _ _ _ _ _ _ _ l (by omega) t h k
 refine⟨(d,e),⟨_,_,?_,C,z⟩,y,a⟩
 rw[<-List.drop_drop,List.take_append_drop]
theorem Qw.struct {fs:Array Field}{α:Type}{A:Lay α}{i:α->Prop}(h:P.underlying t=some (.struct fs)) (p:P.cellsOf t=A.size) (s:QD P fs 0 0 A n i):Qw P t A n i :=
 ⟨p,fun {H v w g e l o G x} I r u=>by
  obtain⟨F,m,rfl,C,b,a,c⟩:=DataW.trod_struct h r
  obtain⟨d,D,B⟩:=s _ _ _ _ _ _ _ _ _ (by omega) (by rw[b,p];omega) a c (fun j f y z E k q=>u k (by
   rw[C]
   simp only[DataW.weights,h]
   exact DataW.weights_mem_each (j:=j) (t:=f.type) (d:=y.1) (by simp[z]) (by simp[E]) k q))
  exact⟨d,by simpa using D,B⟩⟩
theorem Qw.via {α β:Type}{A:Lay α}{f:β->α}{a:α->Prop}(h:Qw P t A n a) (g:α->β) (b:∀ d,f (g d)=d):Qw P t (A.via f) n (fun x=>a (f x)) :=
 ⟨h.1,fun k j e=>by
  obtain⟨d,c,i⟩:=h.2 k j e
  exact⟨g d,by show A.In _ _ (f (g d)) _;rw[b];exact c,by show a (f (g d));rw[b];exact i⟩⟩
theorem own:ownKnob prog.godebug=none:=by kernel_rfl
theorem laidOut:laidOutB prog=true:=by kernel_rfl
theorem fieldsT:∃ f0 f1 f2:Field,prog.underlying 92=some (.struct #[f0,f1,f2]) /\
 (f0.offset=0/\prog.cellsOf f0.type=1/\prog.underlying f0.type=some (.int .i64))/\(f1.offset=1/\prog.cellsOf f1.type=1/\prog.underlying f1.type=some (.int .i64)) /\
 (f2.offset=2/\prog.cellsOf f2.type=1/\f2.type=67) :=
 ⟨_,_,_,underlying92,⟨Z,by kernel_rfl,by kernel_rfl⟩,⟨Z,by kernel_rfl,by kernel_rfl⟩,⟨Z,by kernel_rfl,Z⟩⟩
theorem Qlc (n:Nat):Qw prog 92 (Lay.tt n) n (fun _=>True) :=
 ⟨by kernel_rfl,fun {H o w f d g b s x} m l v=>by
  obtain⟨y,r,u,e,i,q,j⟩:=fieldsT
  obtain⟨t,a,c,h,p,k⟩:=Qjm (ti:=0) underlying67 e (by kernel_rfl) i q j n b m l
  exact⟨t,⟨a,c,h,p,k⟩,Y⟩⟩
theorem Qa4 (n:Nat):Qw prog 3 Lay.int n (fun _=>True):=Qw.int n underlying3 (by kernel_rfl)
theorem Qj7 (n:Nat):Qw prog 2 Lay.int n (fun _=>True):=Qw.int n underlying2 (by kernel_rfl)
theorem Qfp (n:Nat):Qw prog 67 (QM n) n (fun l=>l.length<1152921504606846976):=Qw.list underlying67 (by kernel_rfl) (Qlc n) (by show 0<3;decide) (by rw[show prog.bytesOf 92=40 from by kernel_rfl];decide)
end
def Lay.listC {α:Type}(A:Lay α):Lay (List α) where
 size:=1
 In:=fun w O l cs=>(∃ a c,cs=[.slice a l.length c]/\l.length<=c)/\A.list.In w O l cs
 len:=fun h=>A.list.len h.2
 keep:=fun hb hl h=>⟨h.1,A.list.keep hb hl h.2⟩
theorem QaD.listC {α:Type}{A:Lay α}(h:P.underlying t=some (.slice e)) (p:P.cellsOf t=1) (B:QaD P e A n) (v:0<A.size):QaD P t A.listC (n+1) :=
 ⟨p,fun {H r w j f m o D x} z g=>by
  obtain⟨l,k⟩:=(QaD.list h p B v).2 z g
  refine⟨l,?_,k⟩
  obtain⟨a,c,e,_⟩:=k
  refine⟨a,c,e,?_⟩
  rcases DataW.trod_slice h g with ⟨b,_⟩|⟨C,u,s,d,i,q,_,b,_,_,y,_⟩
  ·rw[e] at b
   simp at b
   simp[b.2.1]
  ·rw[e] at b
   simp at b
   omega⟩
def Lay.Sub {α:Type}(A B:Lay α):Prop:=A.size=B.size/\∀ {w:World}{O:Nat->Prop}{x:α}{cs:List Value},A.In w O x cs->B.In w O x cs
theorem Lay.Sub.refl {α:Type}(A:Lay α):Lay.Sub A A:=⟨Z,id⟩
theorem Lay.Sub.listC {α:Type}(A:Lay α):Lay.Sub A.listC A.list:=⟨Z,fun h=>h.2⟩
theorem Lay.Sub.pair {α β:Type}{A a:Lay α}{B b:Lay β}(h:Lay.Sub A a) (k:Lay.Sub B b):Lay.Sub (A.pair B) (a.pair b) :=
 ⟨by show A.size+B.size=a.size+b.size;rw[h.1,k.1],fun ⟨c,f,e,g,d⟩=>⟨c,f,e,h.2 g,k.2 d⟩⟩
theorem Lay.Sub.list {α:Type}{A b:Lay α}(h:Lay.Sub A b):Lay.Sub A.list b.list :=
 ⟨Z,fun ⟨a,c,e,k⟩=>⟨a,c,e,fun i x l=>by
  obtain⟨g,o,m,p,f,j,d,n⟩:=k i x l
  exact⟨g,o,m,p,f,j,by rw[<-h.1];exact d,h.2 n⟩⟩⟩
section
open Go.Deep
theorem Lay.Sub.via {α β:Type}{A a:Lay α}(h:Lay.Sub A a) (f:β->α):Lay.Sub (A.via f) (a.via f):=⟨h.1,fun k=>h.2 k⟩
theorem Qw.listC {α:Type}{A:Lay α}{y:α->Prop}(h:P.underlying t=some (.slice e)) (r:P.cellsOf t=1) (F:Qw P e A n y) (C:0<A.size) (d:0<P.bytesOf e):Qw P t A.listC n (fun l=>l.length<1152921504606846976) :=
 ⟨r,fun {H u w k g o p I x} E i s=>by
  obtain⟨l,m,z⟩:=(Qw.list h r F C d).2 E i s
  refine⟨l,⟨?_,m⟩,z⟩
  obtain⟨a,c,e,_⟩:=m
  refine⟨a,c,e,?_⟩
  rcases DataW.trod_slice h i with ⟨b,_⟩|⟨G,B,v,f,j,q,_,b,_,_,D,_⟩
  ·rw[e] at b
   simp at b
   simp[b.2.1]
  ·rw[e] at b
   simp at b
   omega⟩
abbrev intsC:Lay (List Int):=Lay.int.listC
def insC:Lay Qz:=(Lay.int.pair (Lay.int.pair (Lay.int.pair (Lay.int.pair (Lay.int.pair (Lay.int.pair (intsC.pair intsC))))))).via (fun x=>(x.op,x.a,x.b,x.c,x.k,x.n,x.regs,x.args))
def toC:Lay MTo:=(Lay.int.pair (intsC.pair intsC)).via (fun x=>(x.block,x.regs,x.args))
def endC:Lay Qax:=(Lay.int.pair (Lay.int.pair (toC.pair (toC.pair intsC)))).via (fun x=>(x.op,x.a,x.yes,x.no,x.args))
def Qea (n:Nat):Lay (Qk n):=(Lay.int.pair ((QM n).pair (insC.list.pair endC))).via (fun x=>(x.regs,x.params,x.code,x.fin))
def Qjx (n:Nat):Lay (Qe n):=(Lay.int.pair ((QM n).pair ((QM n).pair (Qea n).list))).via (fun x=>(x.regs,x.params,x.results,x.blocks))
abbrev Qlh (n:Nat):Lay (List (Qe n)):=(Qjx n).list
theorem ints_sub:Lay.Sub intsC intsL:=Lay.Sub.listC _
theorem ins_sub:Lay.Sub insC insL:=.via (.pair (.refl _) (.pair (.refl _) (.pair (.refl _) (.pair (.refl _) (.pair (.refl _) (.pair (.refl _) (.pair ints_sub ints_sub))))))) _
theorem to_sub:Lay.Sub toC toL:=.via (.pair (.refl _) (.pair ints_sub ints_sub)) _
theorem end_sub:Lay.Sub endC endL:=.via (.pair (.refl _) (.pair (.refl _) (.pair to_sub (.pair to_sub ints_sub)))) _
theorem QgZ (n:Nat):Lay.Sub (Qea n) (Zu n):=.via (.pair (.refl _) (.pair (.refl _) (.pair (.list ins_sub) end_sub))) _
theorem Qip (n:Nat):Lay.Sub (Qjx n) (QaH n):=.via (.pair (.refl _) (.pair (.refl _) (.pair (.refl _) (.list (QgZ n))))) _
theorem Qjt (n:Nat):Lay.Sub (Qlh n) (Qam n):=.list (Qip n)
theorem QbC (n:Nat):Qw prog 63 intsC n (fun l=>l.length<1152921504606846976):=Qw.listC underlying63 (by kernel_rfl) (Qa4 n) (by decide) (by rw[show prog.bytesOf 3=8 from by kernel_rfl];decide)
theorem Qhx (n:Nat):Qw prog 65 insC n (fun x=>x.regs.length<1152921504606846976/\x.args.length<1152921504606846976):=by
 have h:=Qw.struct (n:=n) (A:=Lay.int.pair (Lay.int.pair (Lay.int.pair (Lay.int.pair (Lay.int.pair (Lay.int.pair (intsC.pair intsC))))))) underlying65 (by kernel_rfl) (QD.cons Z Z (Qa4 n) (QD.cons Z Z (Qa4 n) (QD.cons Z Z (Qa4 n) (QD.cons Z Z (Qa4 n) (QD.cons Z Z (Qa4 n) (QD.cons Z Z (Qj7 n) (QD.cons Z Z (QbC n) (QD.last Z Z (QbC n)))))))));have e:=h.via (f:=fun x:Qz=>(x.op,x.a,x.b,x.c,x.k,x.n,x.regs,x.args)) (fun d=>⟨d.1,d.2.1,d.2.2.1,d.2.2.2.1,d.2.2.2.2.1,d.2.2.2.2.2.1,d.2.2.2.2.2.2.1,d.2.2.2.2.2.2.2⟩) (fun d=>rfl);exact⟨e.1,fun m l i=>by obtain⟨d,g,j⟩:=e.2 m l i;exact⟨d,g,j.2.2.2.2.2.2⟩⟩
theorem Qfw (n:Nat):Qw prog 69 toC n (fun x=>x.regs.length<1152921504606846976/\x.args.length<1152921504606846976):=by
 have h:=Qw.struct (n:=n) (A:=Lay.int.pair (intsC.pair intsC)) underlying69 (by kernel_rfl) (QD.cons Z Z (Qa4 n) (QD.cons Z Z (QbC n) (QD.last Z Z (QbC n))));have a:=h.via (f:=fun x:MTo=>(x.block,x.regs,x.args)) (fun d=>⟨d.1,d.2.1,d.2.2⟩) (fun d=>rfl);exact⟨a.1,fun i g c=>by obtain⟨d,b,e⟩:=a.2 i g c;exact⟨d,b,e.2⟩⟩
theorem Qg1 (n:Nat):Qw prog 71 endC n (fun x=>(x.yes.regs.length<1152921504606846976/\x.yes.args.length<1152921504606846976)/\(x.no.regs.length<1152921504606846976/\x.no.args.length<1152921504606846976)/\x.args.length<1152921504606846976):=by
 have h:=Qw.struct (n:=n) (A:=Lay.int.pair (Lay.int.pair (toC.pair (toC.pair intsC)))) underlying71 (by kernel_rfl) (QD.cons Z Z (Qa4 n) (QD.cons Z Z (Qa4 n) (QD.cons Z Z (Qfw n) (QD.cons Z Z (Qfw n) (QD.last Z Z (QbC n))))));have b:=h.via (f:=fun x:Qax=>(x.op,x.a,x.yes,x.no,x.args)) (fun d=>⟨d.1,d.2.1,d.2.2.1,d.2.2.2.1,d.2.2.2.2⟩) (fun d=>rfl);exact⟨b.1,fun j i e=>by obtain⟨d,c,g⟩:=b.2 j i e;exact⟨d,c,g.2.2⟩⟩
theorem Qgt (n:Nat):Qw prog 66 insC.list n (fun l=>l.length<1152921504606846976):=Qw.list underlying66 (by kernel_rfl) (Qhx n) (by decide) (by rw[show prog.bytesOf 65=96 from by kernel_rfl];decide)
theorem Qff (n:Nat):Qw prog 73 (Qea n) n (fun _=>True):=by
 have h:=Qw.struct (n:=n) (A:=Lay.int.pair ((QM n).pair (insC.list.pair endC))) underlying73 (by kernel_rfl) (QD.cons Z Z (Qa4 n) (QD.cons Z Z (Qfp n) (QD.cons Z Z (Qgt n) (QD.last Z Z (Qg1 n)))));have a:=h.via (f:=fun x:Qk n=>(x.regs,x.params,x.code,x.fin)) (fun d=>⟨d.1,d.2.1,d.2.2.1,d.2.2.2⟩) (fun d=>rfl);exact⟨a.1,fun g e c=>by obtain⟨d,b,i⟩:=a.2 g e c;exact⟨d,b,Y⟩⟩
theorem Qef (n:Nat):Qw prog 74 (Qea n).list n (fun l=>l.length<1152921504606846976):=Qw.list underlying74 (by kernel_rfl) (Qff n) (by show 0<12;decide) (by rw[show prog.bytesOf 73=208 from by kernel_rfl];decide)
theorem Qgr (n:Nat):Qw prog 76 (Qjx n) n (fun _=>True):=by
 have h:=Qw.struct (n:=n) (A:=Lay.int.pair ((QM n).pair ((QM n).pair (Qea n).list))) underlying76 (by kernel_rfl) (QD.cons Z Z (Qa4 n) (QD.cons Z Z (Qfp n) (QD.cons Z Z (Qfp n) (QD.last Z Z (Qef n)))));have a:=h.via (f:=fun x:Qe n=>(x.regs,x.params,x.results,x.blocks)) (fun d=>⟨d.1,d.2.1,d.2.2.1,d.2.2.2⟩) (fun d=>rfl);exact⟨a.1,fun g e c=>by obtain⟨d,b,i⟩:=a.2 g e c;exact⟨d,b,Y⟩⟩
theorem Qe1 (n:Nat):Qw prog 22 (Qlh n) n (fun l=>l.length<1152921504606846976):=Qw.list underlying22 (by kernel_rfl) (Qgr n) (by show 0<4;decide) (by rw[show prog.bytesOf 76=80 from by kernel_rfl];decide)
theorem Qg6 (n:Nat):Qw prog 24 (Qlh n) n (fun _=>True):=by
 have h:=Qw.struct (n:=n) (A:=Qlh n) underlying24 (by kernel_rfl) (QD.last Z Z (Qe1 n));exact⟨h.1,fun e c b=>by obtain⟨d,a,f⟩:=h.2 e c b;exact⟨d,a,Y⟩⟩
end
def Qjc (w:World) (O:Nat->Prop) (c:Int) (l:List (TT 6)) (e:Ending) (w':World):Prop :=
 ∃ a n d,e=.returned (.tuple #[.slice a n d,.int .i64 c])/\(c=0->n=l.length/\n<=d/\(QM 6).In w' (fun g=>¬ O g) l [.slice a n d])/\Below w.heap.size w w'
theorem QjP (w:World) (O:Nat->Prop) (n:∀ k,O k->k<w.heap.size){t:TT 6}(h:TIn w (fun g=>¬ O g) t a) (f:t.ok) :
 (QM 6).In (w.alloc (.cells #[.int .i64 t.kind,.int .i64 t.r,.slice a t.len c] 92)) (fun g=>¬ O g) [t] [.slice (some ⟨w.heap.size,0,none⟩) 1 d]:=by
 refine⟨some ⟨w.heap.size,0,none⟩,d,Z,fun i x b=>?_⟩
 cases i with
 | succ i=>simp at b
 | zero =>
   have b:t=x:=by simpa using b
   subst b;refine⟨w.heap.size,0,[.int .i64 t.kind,.int .i64 t.r,.slice a t.len c],Z,fun e=>by have:=n _ e;omega,by simp,fun j l=>?_,a,c,Z,h.alloc _,f⟩
   have l:j<3:=l;have m:=Qh w #[.int .i64 t.kind,.int .i64 t.r,.slice a t.len c] 92;match j,l with
   | 0,_=>exact Qa m 0 _ Z
   | 1,_=>exact Qa m 1 _ Z
   | 2,_=>exact Qa m 2 _ Z
theorem QjE (w:World) (Q:Nat->Prop) (k r:Int) (a:Option Addr):TIn w Q (mkT k r []:TT 6) a:=fun i x b=>by simp at b
structure MkS (w w2:World) (b X:Nat) (O:Nat->Prop) (s:JSt) (x:Qz) (rg ag:Option Addr) (rc ac:Nat) (na:Option Addr):Prop where
 known:KAt w2 b O s
 box:w2.heap[X]?=some (.cells #[.int .i64 x.op,.int .i64 x.a,.int .i64 x.b,.int .i64 x.c,.int .i64 x.k,.int .i64 x.n,.slice rg x.regs.length rc,.slice ag x.args.length ac] 65 (0,0))
 num:(QM 6).In w2 (fun g=>¬ O g) [tInt] [.slice na 1 1]
 bel:Below w.heap.size w w2
 own:∀ k,O k->k<w.heap.size
 ok:JOk s
theorem MkS.start {w:World}{b:Nat}{O:Nat->Prop}{s:JSt}(x:Qz) (g i:Option Addr) (e f:Nat) (m:∀ k,O k->k<w.heap.size) (p:JOk s) (h:KAt w b O s) :
 MkS w ((w.alloc (.cells #[.int .i64 x.op,.int .i64 x.a,.int .i64 x.b,.int .i64 x.c,.int .i64 x.k,.int .i64 x.n,.slice g x.regs.length e,.slice i x.args.length f] 65)).alloc (.cells #[.int .i64 1,.int .i64 0,.slice none 0 0] 92)) b w.heap.size O s x g i e f (some ⟨w.heap.size+1,0,none⟩):=by
 have j:=QbH w (.cells #[.int .i64 x.op,.int .i64 x.a,.int .i64 x.b,.int .i64 x.c,.int .i64 x.k,.int .i64 x.n,.slice g x.regs.length e,.slice i x.args.length f] 65);have l:=QbH (w.alloc (.cells #[.int .i64 x.op,.int .i64 x.a,.int .i64 x.b,.int .i64 x.c,.int .i64 x.k,.int .i64 x.n,.slice g x.regs.length e,.slice i x.args.length f] 65)) (.cells #[.int .i64 1,.int .i64 0,.slice none 0 0] 92);refine⟨(h.below j).below l,(l.block _ (by simp)).trans (Qh _ _ _),?_,j.trans (l.mono j.size),m,p⟩
 have:=QjP (w.alloc (.cells #[.int .i64 x.op,.int .i64 x.a,.int .i64 x.b,.int .i64 x.c,.int .i64 x.k,.int .i64 x.n,.slice g x.regs.length e,.slice i x.args.length f] 65)) O (fun k q=>by have:=m k q;simp;omega) (t:=tInt) (a:=none) (c:=0) (d:=1) (QjE _ _ _ _ _) ⟨by decide,fun x o=>by cases o⟩
 rw[World.size_alloc] at this
 exact this
section
variable {w w2 w3:World}{b X:Nat}{O:Nat->Prop}{s:JSt}{x:Qz}{rg ag:Option Addr}{rc ac:Nat}{na:Option Addr}
theorem MkS.below (h:MkS w w2 b X O s x rg ag rc ac na) (k:Below w2.heap.size w2 w3):MkS w w3 b X O s x rg ag rc ac na :=
 ⟨h.known.below k,(k.block X (XC h.box)).trans h.box,Ya h.num k,h.bel.trans (k.mono h.bel.size),h.own,h.ok⟩
theorem MkS.lt (h:MkS w w2 b X O s x rg ag rc ac na):∀ k,O k->k<w2.heap.size:=fun k a=>Zl (h.own k a) h.bel.size
theorem MkS.cells (h:MkS w w2 b X O s x rg ag rc ac na):w2.cell? ⟨X,0,none⟩=some (.int .i64 x.op)/\w2.cell? ⟨X,1,none⟩=some (.int .i64 x.a)/\w2.cell? ⟨X,2,none⟩=some (.int .i64 x.b)/\w2.cell? ⟨X,3,none⟩=some (.int .i64 x.c)/\w2.cell? ⟨X,4,none⟩=some (.int .i64 x.k)/\w2.cell? ⟨X,6,none⟩=some (.slice rg x.regs.length rc)/\w2.cell? ⟨X,7,none⟩=some (.slice ag x.args.length ac) :=
 ⟨Qa h.box 0 _ Z,Qa h.box 1 _ Z,Qa h.box 2 _ Z,Qa h.box 3 _ Z,Qa h.box 4 _ Z,Qa h.box 6 _ Z,Qa h.box 7 _ Z⟩
theorem Qjc.nil {c:Int}(h:Below w.heap.size w w3):Qjc w O c [] (.returned (.tuple #[.slice none 0 0,.int .i64 c])) w3 :=
 ⟨none,0,0,Z,fun _=>⟨Z,Ze,Yg _ _ _ _ _⟩,h⟩
theorem Qjc.num {c:Int}(h:MkS w w2 b X O s x rg ag rc ac na) (k:Below w2.heap.size w2 w3):Qjc w O c [tInt] (.returned (.tuple #[.slice na 1 1,.int .i64 c])) w3 :=
 ⟨na,1,1,Z,fun _=>⟨Z,Ze,(h.below k).num⟩,(h.below k).bel⟩
end
theorem QbD (b:Nat):∀ (vs:List Value) (w:World) (j:Nat),(w.setCells b j vs).heap.size=w.heap.size
 | [],w,j=>rfl
 | v::vs,w,j=>(QbD b vs _ _).trans (by simp)
abbrev Qlj (Z:Type):=List (Nat × (Z->World->(Nat->Prop)->Prop))
def QdF {Z:Type}(D:Qlj Z):Prop:=∀ x∈D,∀ z w w' O,(∀ k,O k->k<w.heap.size->w'.heap[k]?=w.heap[k]?)->x.2 z w O->x.2 z w' O
def QiX (w00:World) (Ai:List (Nat × Tmp × Nat × TypeId)) (S:Nat->Bool) (a:Act) (w:World) (O:Nat->Prop):Prop :=
 (∀ k,O k->w00.heap.size<=k/\k<w.heap.size)/\∀ y∈Ai,S y.1=true->∀ B,a.tmps.getD y.2.1 undef=.pointer (some ⟨B,0,none⟩)->¬ O B
def DMz (n:Nat) (a0:Act) (w00:World) (ds:List Tmp) (Ti:List (Nat × Tmp)) (Ai Oi:List (Nat × Tmp × Nat × TypeId)){Z:Type}(M:Z->List (Tmp × Value)) (C:Z->List (Tmp × List Value)) (D:Qlj Z) (z:Z) (S:Nat->Bool) (a:Act) (w:World):Prop :=
 DI n a0 w00 ds Ti Ai Oi (M z) (C z) S a w/\∀ x∈D,S x.1=true->∃ O,x.2 z w O/\QiX w00 Ai S a w O
def DM (n:Nat) (a0:Act) (w00:World) (ds:List Tmp) (Ti:List (Nat × Tmp)) (Ai Oi:List (Nat × Tmp × Nat × TypeId)){Z:Type}(M:Z->List (Tmp × Value)) (C:Z->List (Tmp × List Value)) (D:Qlj Z) (S:Nat->Bool) (a:Act) (w:World):Prop :=
 ∃ z,DMz n a0 w00 ds Ti Ai Oi M C D z S a w
section
variable {n i:Nat}{a0 a:Act}{w00 w w':World}{l:List Oper}{Ti:List (Nat × Tmp)}{Ai Oi:List (Nat × Tmp × Nat × TypeId)}{Z:Type}{M:Z->List (Tmp × Value)}{C:Z->List (Tmp × List Value)}{D:Qlj Z}{z z':Z}{S:Nat->Bool}{t:Tmp}{v:Value}{s:Nat}{ty:TypeId}
theorem QjF (h:((D.map (·.1)).all fun j=>j != i)=true):∀ x∈D,x.1≠i:=fun x a=>by
 have:=Xe.1 h x.1 (List.mem_map.2 ⟨x,a,Yz⟩)
 simpa using this
theorem QdT (d:diB l n Ti Ai Oi=true) (h:(i,t)∈Ti):∀ x∈Ai,x.2.1≠t:=by
 simp only[diB,Bool.and_eq_true] at d
 obtain⟨g,⟨⟨a,c⟩,b⟩,j⟩:=d
 exact fun x f e=>QbN a (List.mem_map.2 ⟨(i,t),h,Yz⟩) (e ▸ List.mem_map.2 ⟨x,f,Yz⟩)
theorem QeU (b:diB l n Ti Ai Oi=true) (c:t∈Ti.map (·.2)++Ai.map (·.2.1)):t<n:=by
 simp only[diB,Bool.and_eq_true] at b
 have a:=Xe.1 b.2.1.2 t c;simp only[Bool.and_eq_true,decide_eq_true_eq] at a
 exact a.1
theorem QiX.pure (d:∀ x∈Ai,x.2.1≠t) (b:t<a.tmps.size) (c:(Ai.all fun x=>x.1 != i)=true) (hb:w.heap.size<=w'.heap.size) (h:QiX w00 Ai S a w O):QiX w00 Ai (Zp i S) (a.put (some t) v) w' O :=
 ⟨fun k f=>⟨(h.1 k f).1,Zl (h.1 k f).2 hb⟩,fun y e j B g=>by
  rw[Zc b,Xr (d y e)] at g
  exact h.2 y e (Q5 (by have:=Xe.1 c y e;simpa using this) j) B g⟩
theorem DMz.pure (d:QdF D) (m:diB l n Ti Ai Oi=true) (f:DMz n a0 w00 (Ql l) Ti Ai Oi M C D z S a w) (o:(i,t)∈Ti) (q:(M z).lookup t=some v) (p:S i=false) (hb:Below w.heap.size w w')
 (c:(Ai.all fun x=>x.1 != i)=true) (g:(Oi.all fun x=>x.1 != i)=true) (b:((D.map (·.1)).all fun j=>j != i)=true):DM n a0 w00 (Ql l) Ti Ai Oi M C D (Zp i S) (a.put (some t) v) w':=by
 have h:=QjF b;refine⟨z,DI.pure m f.1 o q p hb c g,fun x e u=>?_⟩
 obtain⟨O,y,s⟩:=f.2 x e (Q5 (h x e) u)
 exact⟨O,d x e z w w' O (fun k _ r=>hb.block k r) y,s.pure (QdT m o) (by rw[f.1.size];exact QeU m (List.mem_append_left _ (List.mem_map.2 ⟨(i,t),o,Yz⟩))) c hb.size⟩
theorem DMz.alloc (A:QdF D) (h:diB l n Ti Ai Oi=true) (p:DMz n a0 w00 (Ql l) Ti Ai Oi M C D z S a w) (G:(i,t,s,ty)∈Ai){c:Array Value}(N:c.size=s) (P:S i=false) (v:ZZ l S)
 (r:(Ti.all fun x=>x.1 != i)=true) (E:(Oi.all fun x=>x.1 != i)=true) (d:((D.map (·.1)).all fun j=>j != i)=true):DM n a0 w00 (Ql l) Ti Ai Oi M C D (Zp i S) (a.put (some t) (.pointer (some ⟨w.heap.size,0,none⟩))) (w.alloc (.cells c ty)):=by
 have I:Below w.heap.size w (w.alloc (.cells c ty)):=QbH w _;have q:=QjF d;refine⟨z,DI.alloc h p.1 G N P v r E,fun x o K=>?_⟩
 obtain⟨O,Q,m⟩:=p.2 x o (Q5 (q x o) K)
 have F:t<a.tmps.size:=by rw[p.1.size];exact QeU h (List.mem_append_right _ (List.mem_map.2 ⟨(i,t,s,ty),G,Yz⟩))
 refine⟨O,A x o z w _ O (fun k _ g=>I.block k g) Q,fun k g=>⟨(m.1 k g).1,Zl (m.1 k g).2 I.size⟩,fun y J u B b H=>?_⟩
 rw[Zc F] at b
 by_cases e:y.2.1=t
 ·rw[Xs e] at b
  simp at b
  subst b
  have:=(m.1 _ H).2
  omega
 ·rw[Xr e] at b
  refine m.2 y J (Q5 (fun L=>e ?_) u) B b H;simp only[diB,Bool.and_eq_true] at h
  exact congrArg (·.2.1) (ZP (f:=fun x:Nat × Tmp × Nat × TypeId=>x.1) h.1.1.2 y J _ G L)
theorem DMz.store (A:QdF D) (R:diB l n Ti Ai Oi=true) (I:DMz n a0 w00 (Ql l) Ti Ai Oi M C D z S a w) (X:(i,t,s,ty)∈Oi){c:Array Value}(K:(j,t,s,ty)∈Ai) (d:S j=true) (J:a.tmps.getD t undef=.pointer (some ⟨B,0,none⟩)) (h:Blk w B c ty) (G:c.size=s) (H:w00.heap.size<=B) (T:(C z).lookup t=some cs) (E:cs.length=s) (V:S i=false) (v:ZZ l S)
 (r:(Ti.all fun x=>x.1 != i)=true) (g:(Ai.all fun x=>x.1 != i)=true) (f:((D.map (·.1)).all fun j=>j != i)=true):DM n a0 w00 (Ql l) Ti Ai Oi M C D (Zp i S) a (w.setCells B 0 cs):=by
 have p:=QjF f;refine⟨z,DI.store R I.1 X K d J h G H T E V v r g,fun x m P=>?_⟩
 obtain⟨O,W,F⟩:=I.2 x m (Q5 (p x m) P)
 have N:=ZT w B 0 cs;have q:(w.setCells B 0 cs).heap.size=w.heap.size:=QbD B cs w 0;refine⟨O,A x m z w _ O (fun k b _=>N k fun e=>?_) W,fun k b=>by rw[q];exact F.1 k b,fun y L u U o Q=>?_⟩
 ·subst e;exact F.2 _ K d k J b
 ·exact F.2 y L (Q5 (by have:=Xe.1 g y L;simpa using this) u) U o Q
theorem DMz.call (I:QdF D) (s:diB l n Ti Ai Oi=true) (b:DMz n a0 w00 (Ql l) Ti Ai Oi M C D z S a w) (A:(i,t)∈Ti) (X:(M z').lookup t=some v) (P:S i=false) (H:ZZ l S) (hb:Below w.heap.size w w')
 (g:(Ai.all fun x=>x.1 != i)=true) (Q:(Oi.all fun x=>x.1 != i)=true)
 (r:List Nat) (K:(r.all fun j=>match l[j]? with | some o=>QfW o i | none=>false)=true)
 (hM:∀ x∈Ti,x.1∈r\/x.1=i\/(M z).lookup x.2=(M z').lookup x.2) (hC:∀ x∈Oi,x.1∈r\/(C z).lookup x.2.1=(C z').lookup x.2.1)
 (W:∀ x∈D,(x.1=i/\∃ O,x.2 z' w' O/\∀ k,O k->w.heap.size<=k/\k<w'.heap.size)\/(x.1≠i/\∀ w O,x.2 z w O->x.2 z' w O)):DM n a0 w00 (Ql l) Ti Ai Oi M C D (Zp i S) (a.put (some t) v) w':=by
 have m:∀ j∈r,S j=true->False:=fun j hj d=>by
  have:=Xe.1 K j hj
  cases ho:l[j]? with
  | none=>rw[ho] at this;simp at this
  | some o =>
    rw[ho] at this
    have:=Qgw.at (H j o ho d) i this
    rw[P] at this
    cases this
 have G:DI n a0 w00 (Ql l) Ti Ai Oi (M z') (C z') S a w:=by
  refine⟨b.1.size,b.1.defers,b.1.outer,b.1.bel,fun x e d u V=>?_,b.1.new,b.1.ne,fun x e d c hc=>?_⟩
  ·rcases hM x e with h | h | h
   ·exact(m _ h d).elim
   ·rw[h,P] at d;cases d
   ·exact b.1.vals x e d u (h.trans V)
  ·rcases hC x e with h | h
   ·exact(m _ h d).elim
   ·exact b.1.did x e d c (h.trans hc)
 have p:t<a.tmps.size:=by rw[b.1.size];exact QeU s (List.mem_append_left _ (List.mem_map.2 ⟨(i,t),A,Yz⟩))
 refine⟨z',DI.pure s G A X P hb g Q,fun x e d=>?_⟩
 rcases W x e with ⟨_,O,R,L⟩|⟨E,R⟩
 ·refine⟨O,R,fun k q=>⟨Zt b.1.bel.size (L k q).1,(L k q).2⟩,fun y T F B f hO=>?_⟩
  rw[Zc p,Xr (QdT s A y T)] at f
  have J:S y.1=true:=Q5 (by have:=Xe.1 g y T;simpa using this) F;obtain⟨B',N,U,c,h5,h6⟩:=b.1.new y T J
  rw[N] at f
  simp at f
  subst f
  have:=h5.lt
  have:=(L _ hO).1
  omega
 ·obtain⟨O,N,U⟩:=b.2 x e (Q5 E d)
  exact⟨O,I x e z' w w' O (fun k _ q=>hb.block k q) (R w O N),U.pure (QdT s A) p g hb.size⟩
end
theorem Qfo.types {M:Nat}{A:Nat->Prop}{l:List (TT 6)}(h:Qfo w G M l) (q:l.length=M) (d:∀ x∈l,x.ok) (m:∀ k,G<=k->¬ A k):(QM 6).In w (fun g=>¬ A g) l [.slice (some ⟨G,0,none⟩) M M]:=by
 obtain⟨p,b,y,t⟩:=h.row
 subst q;refine⟨_,_,Z,fun i x f=>?_⟩
 obtain⟨a,c,s,u,n,o⟩:=t i x f
 refine⟨G,0,[.int .i64 x.kind,.int .i64 x.r,.slice a x.len c],Z,m G Ze,XC b,fun j e=>?_,a,c,Z,o.mono (fun k v _=>m k (by omega)),d x (Zm f)⟩
 have e:j<3:=e;show w.cell? ⟨G,0+i*3+j,none⟩=_;rw[XK]
 match j,e with
 | 0,_=>exact Qa b _ _ s
 | 1,_=>exact Qa b _ _ u
 | 2,_=>exact Qa b _ _ n
 | j+3,h=>exact absurd h (by omega)
def Qf2 {n:Nat}(w:World) (Q:Nat->Prop) (l:List (TT n)) (e:Ending) (w':World):Prop :=
 ∃ v ds,e=.returned v/\w'.ownsRow 0 92 3 v l.length ds/\(∀ g,v.ownBlock=some g->w.heap.size<=g)/\(∀ i x,l[i]?=some x->(Lay.tt n).In w Q x ((ds.drop (i*3)).take 3))/\Below w.heap.size w w'
def Qgp {n:Nat}(lo:Nat) (w:World) (g N i:Nat) (l:List (TT n)):Prop :=
 ∃ cur,w.heap[g]?=some (.cells cur 92 (0,0))/\N*3<=cur.size/\∀ (j:Nat) (x:TT n),l[j]?=some x->∃ a c,cur[j*3]?=some (.int .i64 x.kind)/\cur[j*3+1]?=some (.int .i64 x.r)/\cur[j*3+2]?=some (.slice a x.len c)/\TIn w (fun k=>k≠g/\(j<i->lo<=k)) x a
section
variable {n lo g N i:Nat}{w w':World}{l:List (TT n)}
theorem Qgp.below (h:Qgp lo w g N i l) (b:Below w.heap.size w w'):Qgp lo w' g N i l:=by
 obtain⟨d,e,n,p⟩:=h
 refine⟨d,(b.block g (XC e)).trans e,n,fun j x f=>?_⟩
 obtain⟨a,c,o,q,k,m⟩:=p j x f
 exact⟨a,c,o,q,k,m.below b⟩
theorem Qgp.lt (h:Qgp lo w g N i l):g<w.heap.size:=by obtain⟨a,b,-⟩:=h;exact XC b
theorem Qgp.free (h:Qgp lo w g N i l) (k:Nat):w.frozen? ⟨g,k,none⟩=false:=by obtain⟨a,b,-⟩:=h;exact Qf b k
theorem Qgp.at (h:Qgp lo w g N i l){x:TT n}(b:l[j]?=some x):∃ a c,w.cell? ⟨g,j*3+2,none⟩=some (.slice a x.len c)/\TIn w (fun k=>k≠g/\(j<i->lo<=k)) x a:=by
 obtain⟨f,o,p,m⟩:=h
 obtain⟨a,c,q,r,d,e⟩:=m j x b
 exact⟨a,c,Qa o _ _ d,e⟩
theorem Qgp.set (h:Qgp lo w g N i l){x:TT n}(q:l[i]?=some x) (u:i<N) (r:TIn w (fun k=>k≠g/\lo<=k) x a):Qgp lo (w.setCell ⟨g,i*3+2,none⟩ (.slice a x.len c)) g N (i+1) l:=by
 obtain⟨A,C,z,B⟩:=h
 refine⟨_,Qo C (i*3+2) (.slice a x.len c),by simpa using z,fun j y m=>?_⟩
 obtain⟨b,d,o,p,s,v⟩:=B j y m
 by_cases t:j=i
 ·subst t;rw[q] at m
  injection m with m
  subst m;refine⟨a,c,?_,?_,?_,(r.setCell (fun e=>e.1 Z) _).mono (fun k f _=>⟨f.1,fun _=>f.2⟩)⟩
  ·rw[Array.getElem?_setIfInBounds,Xr (by omega)];exact o
  ·rw[Array.getElem?_setIfInBounds,Xr (by omega)];exact p
  ·rw[Array.getElem?_setIfInBounds,Xs Z,Xs (by omega)]
 ·refine⟨b,d,?_,?_,?_,(v.setCell (fun e=>e.1 Z) _).mono (fun k f _=>⟨f.1,fun h=>f.2 (by omega)⟩)⟩
  ·rw[Array.getElem?_setIfInBounds,Xr (by omega)];exact o
  ·rw[Array.getElem?_setIfInBounds,Xr (by omega)];exact p
  ·rw[Array.getElem?_setIfInBounds,Xr (by omega)];exact s
end
theorem Qf2.row {n:Nat}{w w':World}{Q:Nat->Prop}{l:List (TT n)}{e:Ending}(h:Qf2 w Q l e w'):∃ a c,e=.returned (.slice a l.length c)/\l.length<=c/\Below w.heap.size w w'/\(l≠[]->∃ g,a=some ⟨g,0,none⟩/\w.heap.size<=g/\Qgp w.heap.size w' g l.length 0 l):=by
 obtain⟨v,z,rfl,⟨J,D⟩,s,B,m⟩:=h
 rcases D with ⟨rfl,t⟩|⟨g,b,d,rfl,-,E,r,L,G,y⟩
 ·have C:l=[]:=Xf.1 t;subst C;exact⟨none,0,Z,Ze,m,fun e=>absurd Z e⟩
 ·refine⟨some ⟨g,0,none⟩,b,Z,r,m,fun _=>⟨g,Z,s g Z,d,E,?_,fun j x p=>?_⟩⟩
  ·have:l.length*3<=b*3:=Xp _ r
   omega
  ·have K:j<l.length:=(Zi p).1;obtain⟨a,c,e,A,I⟩:=B j x p
   have f:∀ i u,i<3->((z.drop (j*3)).take 3)[i]?=some u->d[j*3+i]?=some u:=fun i u F o=>by
    rw[XR,Xs F,List.getElem?_drop,<-y,XR,Xs (by omega),Array.getElem?_toList] at o
    exact o
   rw[e] at f
   have H:=s g Z;exact⟨a,c,f 0 _ (by omega) Z,f 1 _ (by omega) Z,f 2 _ (by omega) Z,(TIn.keep (O':=fun k=>k<w.heap.size) (fun k _ q=>m.block k q) (fun _ _ h=>h) A).mono (fun k q _=>⟨by omega,fun e=>absurd e (by omega)⟩)⟩
def T00:MTo:=⟨0,[],[]⟩
def E00:Qax:=⟨3,0,T00,T00,[]⟩
def I00:Qz:=⟨1,1,0,0,0,0,[],[]⟩
def M0:List (Qe 1):=[⟨0,[],[],[⟨0,[],[I00],E00⟩]⟩]
theorem QaJ {α:Type}{A:Lay α}{c:Array Value}{x:α}(h:Blk w G c t) (d:c.toList=cs) (e:A.In w All x cs):A.list.In w All [x] [.slice (some ⟨G,0,none⟩) 1 1]:=by
 refine⟨some ⟨G,0,none⟩,1,Z,fun i y b=>?_⟩
 have g:i=0:=by
  have:=(Zi b).1
  simp at this;exact this
 subst g;simp at b
 subst b;refine⟨G,0,cs,Z,Y,h.lt,fun j k=>?_,e⟩
 have f:=A.len e;have a:j<c.size:=by rw[<-d] at f;simp at f;omega
 rw[Nat.zero_mul,XK,<-d,Array.getElem?_toList]
 exact(Qa h j c[j] (Xj a)).trans (Xj a).symm
theorem Qkr (w:World):EIn w All E00 ⟨none,0,none,0,none,0,none,0,none,0⟩ :=
 ⟨⟨Yg _ _ _ _ _,Yg _ _ _ _ _,by decide⟩,⟨Yg _ _ _ _ _,Yg _ _ _ _ _,by decide⟩,Yg _ _ _ _ _,by decide,by decide⟩
def QiQ (w w':World) (e:Ending):Prop:=∃ G1 G2,e=.returned (.agg #[.slice (some ⟨G2,0,none⟩) 1 1])/\Blk w' G1 #[.int .i64 0,.slice none 0 0,.slice none 0 0,.int .i64 3,.int .i64 0,.int .i64 0,.slice none 0 0,.slice none 0 0,.int .i64 0,.slice none 0 0,.slice none 0 0,.slice none 0 0] 73/\Blk w' G2 #[.int .i64 0,.slice none 0 0,.slice none 0 0,.slice (some ⟨G1,0,none⟩) 1 1] 76/\w.heap.size<=G1/\w.heap.size<=G2/\G1≠G2/\Below w.heap.size w w'
theorem Qex (w:World):Calls prog 27 #[] w fun e w'=>QiQ w w' e:=by
 refine Qv (n:=7) func27 Z Z Z <| fun a s=>?_
 have I:=Ye w;replace s:Fr 7 a []:=s;refine XW fun P B=>rg s fun x=>Qf1 I Y Z <| fun D T l r=>Yb fun Q M=>B _ _ <| XW fun S C=>rg M fun x=>fun R E=>Q9 (t:=1) (v:=.agg #[.int .i64 3,.int .i64 0,.int .i64 0,.slice none 0 0,.slice none 0 0,.int .i64 0,.slice none 0 0,.slice none 0 0,.slice none 0 0]) (w':=D) E Z Z Z (fun K f=>?_) ?_
 ·go_simp
  exact f
 clear E;intro L h;refine Q9 (t:=2) (v:=.agg #[.int .i64 0,.slice none 0 0,.slice none 0 0,.int .i64 3,.int .i64 0,.int .i64 0,.slice none 0 0,.slice none 0 0,.int .i64 0,.slice none 0 0,.slice none 0 0,.slice none 0 0]) (w':=D) h Z Z Z (fun K f=>?_) ?_
 ·have q:L.tmps[1]?.getD undef=.agg #[.int .i64 3,.int .i64 0,.int .i64 0,.slice none 0 0,.slice none 0 0,.int .i64 0,.slice none 0 0,.slice none 0 0,.slice none 0 0]:=h.sl2 1 _ Z
  go_simp;exact f
 clear h;intro N j;refine Qjl (t:=3) #[.int .i64 0,.slice none 0 0,.slice none 0 0,.int .i64 3,.int .i64 0,.int .i64 0,.slice none 0 0,.slice none 0 0,.int .i64 0,.slice none 0 0,.slice none 0 0,.slice none 0 0] 73 1 j l Z Z Z (fun K f=>?_) ?_
 ·have q:N.tmps[2]?.getD undef=.agg #[.int .i64 0,.slice none 0 0,.slice none 0 0,.int .i64 3,.int .i64 0,.int .i64 0,.slice none 0 0,.slice none 0 0,.int .i64 0,.slice none 0 0,.slice none 0 0,.slice none 0 0]:=j.sl2 2 _ Z
  go_simp;exact f
 clear j l;intro J O m o r i;clear r;refine Q9 (t:=4) (v:=.agg #[.int .i64 0,.slice none 0 0,.slice none 0 0,.slice (some ⟨m,0,none⟩) 1 1]) (w':=O) i Z Z Z (fun K f=>?_) ?_
 ·have q:J.tmps[3]?.getD undef=.slice (some ⟨m,0,none⟩) 1 1:=i.sl2 3 _ Z
  go_simp;exact f
 clear i;intro y d;refine Qjl (t:=5) #[.int .i64 0,.slice none 0 0,.slice none 0 0,.slice (some ⟨m,0,none⟩) 1 1] 76 1 d o Z Z Z (fun K f=>?_) ?_
 ·have q:y.tmps[4]?.getD undef=.agg #[.int .i64 0,.slice none 0 0,.slice none 0 0,.slice (some ⟨m,0,none⟩) 1 1]:=d.sl2 4 _ Z
  go_simp;exact f
 clear d o;intro A z g k r c;clear r;refine Q9 (t:=6) (v:=.agg #[.slice (some ⟨g,0,none⟩) 1 1]) (w':=z) c Z Z Z (fun K f=>?_) ?_
 ·have q:A.tmps[5]?.getD undef=.slice (some ⟨g,0,none⟩) 1 1:=c.sl2 5 _ Z
  go_simp;exact f
 clear c;intro H p;refine St.go p <| sT 2 k Z Z infModule Z Z Z <| fun G b=>Yb fun F u=>C _ _ ?_
 refine XA ?_;with_reducible repeat first | refine Qg ?_ | refine Qd ?_
 exact QJ 2 u b Z Z Z underlying24 Z infModule ⟨m,g,Z,b.get 1 Z,b.get 0 Z,b.new 1 _ Z,b.new 0 _ Z,fun e=>absurd (b.nd 1 0 _ _ Z Z e) (by decide),b.bel⟩
def bI (k:Int):Qz:=⟨k,0,0,0,0,0,[],[]⟩
def fI:Qz:=⟨1,0,0,0,0,5,[],[]⟩
def fE:Qax:=⟨3,0,⟨0,[],[]⟩,⟨0,[],[]⟩,[0]⟩
def fB:Qk 6:=⟨0,[],[fI],fE⟩
def fF:Qe 6:=⟨0,[],[tInt],[fB]⟩
def five6:List (Qe 6):=[fF]
theorem five_fault:Qr five6=(0,0):=by decide +kernel
abbrev fBc (G1 Gc Gi:Nat):Array Value:=#[.int .i64 0,.slice none 0 0,.slice (some ⟨Gc,0,none⟩) 1 1,.int .i64 3,.int .i64 0,.int .i64 0,.slice none 0 0,.slice none 0 0,.int .i64 0,.slice none 0 0,.slice none 0 0,.slice (some ⟨Gi,0,none⟩) 1 1]
theorem Qll (w:World):intsL.In w All ([]:List Int) [.slice none 0 0]:=Yg _ _ _ _ _
theorem QjM (w:World):(Lay.tt 6).In w All tInt [.int .i64 1,.int .i64 0,.slice none 0 0]:=⟨none,0,Z,fun i x h=>by simp[tInt] at h,by unfold tInt;exact⟨by decide,fun x h=>by simp at h⟩⟩
theorem Qj5 {c h e d g:Nat}(r:Blk w c (fBc c d g) 73) (o:Blk w h #[.int .i64 0,.slice none 0 0,.slice (some ⟨e,0,none⟩) 1 1,.slice (some ⟨c,0,none⟩) 1 1] 76) (n:Blk w e #[.int .i64 1,.int .i64 0,.slice none 0 0] 92) (j:Blk w d #[.int .i64 1,.int .i64 0,.int .i64 0,.int .i64 0,.int .i64 0,.int .i64 5,.slice none 0 0,.slice none 0 0] 65) (s:Blk w g #[.int .i64 0] 3) :
 (Qam 6).In w All five6 [.slice (some ⟨h,0,none⟩) 1 1]:=by
 have a:=Qll w;have i:(QM 6).In w All ([]:List (TT 6)) [.slice none 0 0]:=Yg _ _ _ _ _;have q:(QM 6).In w All [tInt] [.slice (some ⟨e,0,none⟩) 1 1]:=QaJ n Z (QjM w);have p:insL.list.In w All [fI] [.slice (some ⟨d,0,none⟩) 1 1]:=QaJ j Z (Qdh (x:=fI) a a (by decide));have k:intsL.In w All [0] [.slice (some ⟨g,0,none⟩) 1 1]:=QaJ s Z ⟨Z,by decide⟩;have l:EIn w All fE ⟨none,0,none,0,none,0,none,0,some ⟨g,0,none⟩,1⟩:=⟨⟨a,a,by decide⟩,⟨a,a,by decide⟩,k,by decide,by decide⟩;have m:(Zu 6).list.In w All [fB] [.slice (some ⟨c,0,none⟩) 1 1]:=QaJ r Z (QbM (x:=fB) (b:=⟨none,0,some ⟨d,0,none⟩,1,_⟩) ⟨i,p,l,by decide⟩);exact QaJ o Z (QcC (x:=fF) (f:=⟨none,0,some ⟨e,0,none⟩,1,some ⟨c,0,none⟩,1⟩) ⟨i,q,m,by decide⟩)
def two1:List Qz:=[bI 3,⟨1,0,0,0,0,1,[],[]⟩,bI 4,bI 4]
def tB:Qk 6:=⟨0,[],two1,E00⟩
def tF:Qe 6:=⟨0,[],[],[tB]⟩
def two6:List (Qe 6):=[tF]
theorem two_fault:Qr two6=(0,0):=by decide +kernel
theorem QfQ {f:Qe 6}(j:f.params=[]) (m:f.results.length<=1) (a:∀ t∈f.results,t.count<=1){b:Qk 6}(hb:f.blocks=[b]) (bp:b.params=[]) (q:b.code.length<=40) (o:b.fin.yes.regs=[]/\b.fin.yes.args=[]/\b.fin.no.regs=[]/\b.fin.no.args=[]/\b.fin.args.length<=1) (p:∀ x∈b.code,x.regs=[]/\x.args=[]):¬ QL [f]:=by
 rintro (h | ⟨x,e,h⟩)
 ·exact absurd h (by simp)
 ·simp only[List.mem_singleton] at e
  subst e;rcases h with h | h | h | ⟨y,d,h⟩
  ·rw[hb] at h;exact absurd h (by simp)
  ·rw[j] at h
   rcases h with h | ⟨t,a,_⟩
   ·exact absurd h (by simp)
   ·cases a
  ·rcases h with h | ⟨t,c,h⟩
   ·have:=m;omega
   ·have:=a t c;omega
  ·rw[hb] at d
   simp only[List.mem_singleton] at d
   subst d;obtain⟨i,l,n,g,r⟩:=o
   rcases h with h | h | h | h | h | h | h | ⟨z,k,h⟩
   ·omega
   ·rw[bp] at h
    rcases h with h | ⟨t,a,_⟩
    ·exact absurd h (by simp)
    ·cases a
   ·omega
   ·rw[i] at h;exact absurd h (by simp)
   ·rw[l] at h;exact absurd h (by simp)
   ·rw[n] at h;exact absurd h (by simp)
   ·rw[g] at h;exact absurd h (by simp)
   ·have hb:=p z k;rw[hb.1,hb.2] at h
    exact absurd h (by simp)
theorem five_not:¬ QL five6:=QfQ (b:=fB) Z (by decide) (fun t a=>by simp only[fF,List.mem_singleton] at a;subst a;decide) Z Z (by decide) ⟨Z,Z,Z,Z,by decide⟩ (fun x c=>by simp only[fB,List.mem_singleton] at c;subst c;exact⟨Z,Z⟩)
theorem two_not:¬ QL two6:=QfQ (b:=tB) Z (by decide) (fun t c=>by cases c) Z Z (by decide) ⟨Z,Z,Z,Z,by decide⟩ (fun x a=>by have a:x∈two1:=a;simp only[two1,List.mem_cons,List.not_mem_nil,or_false] at a;rcases a with rfl | rfl | rfl | rfl<;>exact⟨Z,Z⟩)
theorem Qj8 {α:Type}{A:Lay α}{cs:Array Value}{l:List α}(h:Blk w G cs t) (f:l.length=n) (a:∀ (i:Nat) x,l[i]?=some x->∃ ds,A.In w All x ds/\∀ j,j<A.size->∃ v,ds[j]?=some v/\cs[i*A.size+j]?=some v):A.list.In w All l [.slice (some ⟨G,0,none⟩) n n] :=
 ⟨_,_,by rw[f],fun i x c=>by
  obtain⟨ds,g,e⟩:=a i x c
  refine⟨G,0,ds,Z,Y,h.lt,fun j d=>?_,g⟩
  obtain⟨v,k,b⟩:=e j d
  rw[XK,k]
  exact Qa h _ v b⟩
abbrev tCode:Array Value:=#[.int .i64 3,.int .i64 0,.int .i64 0,.int .i64 0,.int .i64 0,.int .i64 0,.slice none 0 0,.slice none 0 0,.int .i64 1,.int .i64 0,.int .i64 0,.int .i64 0,.int .i64 0,.int .i64 1,.slice none 0 0,.slice none 0 0,.int .i64 4,.int .i64 0,.int .i64 0,.int .i64 0,.int .i64 0,.int .i64 0,.slice none 0 0,.slice none 0 0,.int .i64 4,.int .i64 0,.int .i64 0,.int .i64 0,.int .i64 0,.int .i64 0,.slice none 0 0,.slice none 0 0]
theorem Qlg {e k d:Nat}(p:Blk w e #[.int .i64 0,.slice none 0 0,.slice (some ⟨d,0,none⟩) 4 4,.int .i64 3,.int .i64 0,.int .i64 0,.slice none 0 0,.slice none 0 0,.int .i64 0,.slice none 0 0,.slice none 0 0,.slice none 0 0] 73) (n:Blk w k #[.int .i64 0,.slice none 0 0,.slice none 0 0,.slice (some ⟨e,0,none⟩) 1 1] 76) (l:Blk w d tCode 65) :
 (Qam 6).In w All two6 [.slice (some ⟨k,0,none⟩) 1 1]:=by
 have c:=Qll w;have g:(QM 6).In w All ([]:List (TT 6)) [.slice none 0 0]:=Yg _ _ _ _ _
 have o:insL.list.In w All two1 [.slice (some ⟨d,0,none⟩) 4 4]:=by
  refine Qj8 l Z (fun i x a=>?_);match i,a with
  | 0,a=>cases a;exact⟨_,Qdh (x:=bI 3) c c (by decide),fun j h=>by rcases j with _ | _ | _ | _ | _ | _ | _ | _ | j<;>first | exact⟨_,Z,Z⟩ | (exfalso;have:insL.size=8:=rfl;omega)⟩
  | 1,a=>cases a;exact⟨_,Qdh (x:=⟨1,0,0,0,0,1,[],[]⟩) c c (by decide),fun j h=>by rcases j with _ | _ | _ | _ | _ | _ | _ | _ | j<;>first | exact⟨_,Z,Z⟩ | (exfalso;have:insL.size=8:=rfl;omega)⟩
  | 2,a=>cases a;exact⟨_,Qdh (x:=bI 4) c c (by decide),fun j h=>by rcases j with _ | _ | _ | _ | _ | _ | _ | _ | j<;>first | exact⟨_,Z,Z⟩ | (exfalso;have:insL.size=8:=rfl;omega)⟩
  | 3,a=>cases a;exact⟨_,Qdh (x:=bI 4) c c (by decide),fun j h=>by rcases j with _ | _ | _ | _ | _ | _ | _ | _ | j<;>first | exact⟨_,Z,Z⟩ | (exfalso;have:insL.size=8:=rfl;omega)⟩
  | i+4,a=>exact absurd (Zi a).1 (by show ¬ i+4<4;omega)
 have m:(Zu 6).list.In w All [tB] [.slice (some ⟨e,0,none⟩) 1 1]:=QaJ p Z (QbM (x:=tB) (b:=⟨none,0,some ⟨d,0,none⟩,4,_⟩) ⟨g,o,Qkr w,by decide⟩);exact QaJ n Z (QcC (x:=tF) (f:=⟨none,0,none,0,some ⟨e,0,none⟩,1⟩) ⟨g,g,m,by decide⟩)
theorem Qi8 (w:World):Calls prog 26 #[] w fun e w'=>∃ G2,e=.returned (.agg #[.slice (some ⟨G2,0,none⟩) 1 1])/\(Qam 6).In w' All five6 [.slice (some ⟨G2,0,none⟩) 1 1]/\Below w.heap.size w w':=by
 have k:=QbF ((Bxs.start w).new #[.slice none 0 0] 24);go_enter func26,ntmps26
 go_upto_region 1 with fail
 generalize w.alloc (.cells #[.slice none 0 0] 24)=z at k |-;generalize w.heap.size=R at k |-;go_wp2_with fail
 refine(Qex z).mono ?_
 rintro M B ⟨q,G2,rfl,F,y,u,D,x,E⟩;have m:=QbF (((k.out.made E F u).add y (Zt k.out.bel.size D) (fun b A=>by simp only[List.mem_cons,List.not_mem_nil,or_false] at A;rcases A with rfl | rfl;exact x;exact fun e=>by have L:R<z.heap.size:=(k.out.at (a:=[])).lt;have e:R=G2:=e;omega)).new #[.slice (some ⟨G2,0,none⟩) 1 1] 24);clear F y u D x E k;go_upto_region 2 with fail
 generalize B.alloc (.cells #[.slice (some ⟨G2,0,none⟩) 1 1] 24)=o at m |-;generalize B.heap.size=Y at m |-;have r:=QbF (m.out.new #[.int .i64 1,.int .i64 0,.slice none 0 0] 92);have d:=m.out.cell (a:=[]) 0 _ Z;have J:=r.out.cell (a:=[_,_]) 2 _ Z;have l:=r.out.free (a:=[_,_]) 2;go_upto_region 3 with fail
 have i:=QbF (r.out.set (a:=[_,_]) 2 (.slice (some ⟨o.heap.size,0,none⟩) 1 1));clear m r d J l;generalize (o.alloc (.cells #[.int .i64 1,.int .i64 0,.slice none 0 0] 92)).setCell ⟨G2,2,none⟩ (.slice (some ⟨o.heap.size,0,none⟩) 1 1)=h at i |-;generalize o.heap.size=T at i |-;have n:=QbF (i.out.new #[.int .i64 1,.int .i64 0,.int .i64 0,.int .i64 0,.int .i64 0,.int .i64 5,.slice none 0 0,.slice none 0 0] 65);have d:h.cell? ⟨Y,0,none⟩=some (.slice (some ⟨G2,0,none⟩) 1 1):=i.out.cell (a:=[_]) 0 _ Z;have s:h.cell? ⟨G2,3,none⟩=some (.slice (some ⟨q,0,none⟩) 1 1):=i.out.cell (a:=[_,_]) 3 _ Z;have t:=n.out.cell (a:=[_,_,_,_]) 2 _ Z;have l:=n.out.free (a:=[_,_,_,_]) 2;go_upto_region 4 with fail
 have j:=QbF (n.out.set (a:=[_,_,_,_]) 2 (.slice (some ⟨h.heap.size,0,none⟩) 1 1));clear i n d s t l;generalize (h.alloc (.cells #[.int .i64 1,.int .i64 0,.int .i64 0,.int .i64 0,.int .i64 0,.int .i64 5,.slice none 0 0,.slice none 0 0] 65)).setCell ⟨q,2,none⟩ (.slice (some ⟨h.heap.size,0,none⟩) 1 1)=f at j |-;generalize h.heap.size=C at j |-;have p:=QbF (j.out.new #[.int .i64 0] 3);have d:f.cell? ⟨Y,0,none⟩=some (.slice (some ⟨G2,0,none⟩) 1 1):=j.out.cell (a:=[_,_]) 0 _ Z;have s:f.cell? ⟨G2,3,none⟩=some (.slice (some ⟨q,0,none⟩) 1 1):=j.out.cell (a:=[_,_,_]) 3 _ Z;have t:=p.out.cell (a:=[_,_,_,_,_]) 11 _ Z;have l:=p.out.free (a:=[_,_,_,_,_]) 11;go_upto_region 5 with fail
 have g:=QbF (p.out.set (a:=[_,_,_,_,_]) 11 (.slice (some ⟨f.heap.size,0,none⟩) 1 1));clear j p d s t l;generalize (f.alloc (.cells #[.int .i64 0] 3)).setCell ⟨q,11,none⟩ (.slice (some ⟨f.heap.size,0,none⟩) 1 1)=H at g |-;generalize f.heap.size=I at g |-;have d:H.cell? ⟨Y,0,none⟩=some (.slice (some ⟨G2,0,none⟩) 1 1):=g.out.cell (a:=[_,_,_]) 0 _ Z;have K:=g.out.cell (a:=[_,_,_,_,_,_]) 0 _ Z;have N:=g.out.free (a:=[_,_,_,_,_,_]) 0;have c:=QbF (g.out.set (a:=[_,_,_,_,_,_]) 0 (.slice (some ⟨G2,0,none⟩) 1 1));go_wp2
 have G:=c.out.cell (a:=[_,_,_,_,_,_]) 0 _ Z;refine Xy (v:=.agg #[.slice (some ⟨G2,0,none⟩) 1 1]) (by simp[results,results26,go_sem,G]) Z ⟨G2,Z,?_,c.out.bel⟩;exact Qj5 (c.out.at (a:=[_,_,_,_,_])) (c.out.at (a:=[_,_,_,_])) (c.out.at (a:=[_,_])) (c.out.at (a:=[_])) (c.out.at (a:=[]))
def Qb9 (w:World) (a:Option Addr) (l:List Int):Prop:=∀ i x,l[i]?=some x->∃ g o,a=some ⟨g,o,none⟩/\w.cell? ⟨g,o+i,none⟩=some (.int .i64 x)
theorem Qb9.below {l:List Int}(h:Qb9 w a l) (b:Below w.heap.size w w'):Qb9 w' a l:=fun i x d=>by
 obtain⟨g,o,e,c⟩:=h i x d
 exact⟨g,o,e,QI c b⟩
theorem QhC.lg {l:List Int}(h:QhC lo l (.slice a n c) w):n=l.length/\Qb9 w a l:=by
 obtain⟨s,o,e,p,j,t⟩:=h
 simp only[Value.slice.injEq] at e
 obtain⟨rfl,rfl,rfl⟩:=e
 refine⟨Z,fun i x b=>?_⟩
 have u:=(Zi b).1;rcases j.2 with ⟨e,r⟩|⟨g,q,m,e,-,k,-,-,-,f⟩
 ·omega
 ·simp only[Value.slice.injEq] at e
  have d:(l.map (Value.int .i64))[i]?=some (.int .i64 x):=by simp[b]
  rw[<-f,XR,Xs (by omega)] at d
  exact⟨g,0,e.1,Qa k _ _ (by rw[XK];simpa using d)⟩
theorem Qb9.nil (w:World) (a:Option Addr):Qb9 w a []:=fun i x b=>by simp at b
theorem Qb9.take {l:List Int}(h:Qb9 w a l) (k:Nat):Qb9 w a (l.take k):=fun i x b=>by
 rw[XR] at b
 split at b
 ·exact h i x b
 ·cases b
theorem QcO {l:List Int}{b:Option Addr}(j:l.length=N) (s:N<=100000) (q:Qb9 w a l) (p:Qb9 w b l) :
 Calls prog 25 #[.slice a N c,.slice b N d] w fun e w'=>e=.returned (.bool true)/\∃ m,w'=w.drewN m:=by
 have u:=Qb q;have r:=Qb p;have n:Hid (l.length=N):=j;clear q p j;go_enter func25,ntmps25
 go_wp2
 go_loopw [5] (fun i wr=>∃ k m:Nat,k<=N/\i=.int .i64 k/\wr=w.drewN m) (fun i _=>N - (intOf i).toNat)
 case atStart=>exact⟨0,0,Xb _,Z,Z⟩
 case round =>
  obtain⟨k,m,B,rfl,rfl⟩:=hrel
  by_cases h:k<N
  ·have f:l[k]?=some (l[k]'(by rw[n.out];exact h)):=Zg _;generalize l[k]'(by rw[n.out];exact h)=y at f;obtain⟨g,o,rfl,z⟩:=u.out k y f
   obtain⟨C,A,rfl,v⟩:=r.out k y f
   have x:(k:Int)<N:=by omega
   have t:(0:Int)<=k:=by omega
   clear f;go_wp2_with fail
   go_quiet (fail)
   go_wp2
   go_roundw
   case rel=>exact⟨k+1,_,by omega,by go_num,Z⟩
   case measure=>simp[intOf];omega
  ·go_wp2
   go_ret;exact⟨Z,_,Z⟩
theorem Qb3 {l:List Int}{b:Option Addr}(g:l.length=N) (f:N<=100000) (j:Qb9 w a l) (h:Qb9 w b l) :
 Calls prog 25 #[.slice a N c,.slice b N d] w fun e w'=>e=.returned (.bool true)/\Below w.heap.size w w' :=
 (QcO g f j h).mono fun e w' ⟨k,m,i⟩=>⟨k,by rw[i];exact QH Zr _⟩
theorem Qb9.drewN {l:List Int}(h:Qb9 w a l) (n:Nat):Qb9 (w.drewN n) a l:=h.below (QH Zr n)
theorem Qdc {fin fuel:Int}{l r:List Int}{i b g:Option Addr}{c' d':Nat}(G:l.length<=100000) (H:r.length<=100000) (y:Qb9 w a l) (z:Qb9 w i l) (A:Qb9 w b r) (x:Qb9 w g r) :
 Calls prog 23 #[.agg #[.int .i64 fin,.slice a l.length c,.slice b r.length d,.int .i64 fuel],.agg #[.int .i64 fin,.slice i l.length c',.slice g r.length d',.int .i64 fuel]] w fun e w'=>e=.returned (.bool true)/\Below w.heap.size w w':=by
 have B:Hid (∀ f,Below w.heap.size w f->Calls prog 25 #[.slice a l.length c,.slice i l.length c'] f fun e w'=>e=.returned (.bool true)/\Below f.heap.size f w'):=fun f m=>Qb3 Z G (y.below m) (z.below m);have v:Hid (∀ f,Below w.heap.size w f->Calls prog 25 #[.slice b r.length d,.slice g r.length d'] f fun e w'=>e=.returned (.bool true)/\Below f.heap.size f w'):=fun f m=>Qb3 Z H (A.below m) (x.below m);have n:=Qb (Qai w (.cells #[.int .i64 fin,.slice a l.length c,.slice b r.length d,.int .i64 fuel] 44) (.cells #[.int .i64 fin,.slice i l.length c',.slice g r.length d',.int .i64 fuel] 44));clear y z A x;go_enter func23,ntmps23
 go_upto_region 1 with fail
 have j:=Qf3 w #[.int .i64 fin,.slice a l.length c,.slice b r.length d,.int .i64 fuel] 44 (.cells #[.int .i64 fin,.slice i l.length c',.slice g r.length d',.int .i64 fuel] 44);have h:=QbI w (.cells #[.int .i64 fin,.slice a l.length c,.slice b r.length d,.int .i64 fuel] 44) #[.int .i64 fin,.slice i l.length c',.slice g r.length d',.int .i64 fuel] 44;generalize (w.alloc (.cells #[.int .i64 fin,.slice a l.length c,.slice b r.length d,.int .i64 fuel] 44)).alloc (.cells #[.int .i64 fin,.slice i l.length c',.slice g r.length d',.int .i64 fuel] 44)=J at n j h |-;generalize w.heap.size+1=Y at h |-;generalize w.heap.size=X at j |-;have F:=Qa j 0 _ Z;have I:=Qa j 1 _ Z;have t:=Qa j 2 _ Z;have o:=Qa j 3 _ Z;have C:=Qa h 0 _ Z;have K:=Qa h 1 _ Z;have u:=Qa h 2 _ Z;have p:=Qa h 3 _ Z;clear j h;go_wp2_with fail
 refine(B.out J n.out).mono ?_
 rintro L E ⟨rfl,k⟩;have s:=Qb (n.out.trans (k.mono n.out.size));have t:=QI t k;have u:=QI u k;have o:=QI o k;have p:=QI p k;clear B F I C K k n;go_wp2_with fail
 refine(v.out E s.out).mono ?_
 rintro N M ⟨rfl,q⟩;have D:=Qb (s.out.trans (q.mono s.out.size));have o:=QI o q;have p:=QI p q;clear v t u q s;go_wp2
 go_ret;exact⟨Z,D.out⟩
theorem Qle (w:World) (c a:Int):Calls prog 37 #[.int .i64 c,.int .i64 a] w fun e w'=>e=.returned (Z8 c a)/\Below w.heap.size w w':=by
 have d:=Qb (QY w (.cells #[.int .i64 0,.int .i64 0] 32));have b:=Qb (Qh w #[.int .i64 0,.int .i64 0] 32);go_enter func37,ntmps37
 go_upto_region 1 with fail
 generalize w.alloc (.cells #[.int .i64 0,.int .i64 0] 32)=q at d b |-;have j:Hid (w.heap.size<=w.heap.size):=Ze;generalize h:w.heap.size=X at b j d |-;have f:=Qb h;clear h;have l:=Qa b.out 0 _ Z;have m:=Qa b.out 1 _ Z;have o:=Qf b.out 0;have n:=Qf b.out 1;go_wp2
 have g:=Zs b.out (.int .i64 c) (.int .i64 a);have k:=Qa g 0 _ Z;have i:=Qa g 1 _ Z;refine Xy (v:=Z8 c a) (by simp[results,results37,go_sem,k,i]) Z ⟨Z,?_⟩;rw[<-f.out] at d |-
 exact(d.out.setCell (p:=⟨_,0,none⟩) Ze _).setCell (p:=⟨_,1,none⟩) Ze _
def QaP (n:Nat) (fu pg:Int):Value:=if 200<n\/fu<0\/20000<fu\/pg<0\/64<pg then Z8 1 (-1) else Z8 0 0
theorem Qec (h:200<n\/fu<0\/20000<fu\/pg<0\/64<pg):QaP n fu pg=Z8 1 (-1):=Xs h
theorem Qd8 (h:¬ (200<n\/fu<0\/20000<fu\/pg<0\/64<pg)):QaP n fu pg=Z8 0 0:=Xr h
theorem QcT (w:World) (p:Option Addr) (n c:Nat) (b g:Int) (hn:n<1152921504606846976) :
 Calls prog 12 #[.slice p n c,.int .i64 b,.int .i64 g] w fun e w'=>e=.returned (QaP n b g)/\Below w.heap.size w w':=by
 have k:=Qb (QY w (.cells #[.int .i64 0,.int .i64 0] 32));have l:=Qb (Qh w #[.int .i64 0,.int .i64 0] 32);go_enter func12,ntmps12
 go_upto_region 1 with fail
 generalize w.alloc (.cells #[.int .i64 0,.int .i64 0] 32)=C at k l |-;have Q:Hid (w.heap.size<=w.heap.size):=Ze;generalize O:w.heap.size=X at l Q k |-;have d:=Qb O;clear O;have x:=Qa l.out 0 _ Z;have y:=Qa l.out 1 _ Z;have F:=Qf l.out 0;have A:=Qf l.out 1;have f:(200<n\/b<0\/20000<b\/g<0\/64<g)->Hid (QaP n b g=Z8 1 (-1)):=fun h=>Qec h;have s:¬ (200<n\/b<0\/20000<b\/g<0\/64<g)->Hid (QaP n b g=Z8 0 0):=fun h=>Qd8 h;have o:Hid (∀ z,Calls prog 37 #[.int .i64 1,.int .i64 (-1)] z fun e w'=>e=.returned (Z8 1 (-1))/\Below z.heap.size z w'):=fun z=>Qle z 1 (-1);by_cases t:200<n
 ·have E:=f (.inl t);have D:decide ((n:Int)>200)=true:=Xt (by omega);clear f s t;go_wp2_with fail
  refine(o.out C).mono ?_
  rintro G J ⟨rfl,j⟩;have a:=Qb (Blk.below l.out j);have x:=Qa a.out 0 _ Z;have y:=Qa a.out 1 _ Z;have F:=Qf a.out 0;have A:=Qf a.out 1;have r:=Qb (k.out.trans (j.mono (by have I:=k.out.size;have K:=d.out;omega)));have i:=Qb (Zs a.out (.int .i64 1) (.int .i64 (-1)));go_wp2
  have m:=Qa i.out 0 _ Z;have q:=Qa i.out 1 _ Z;refine Xy (v:=QaP n b g) (by rw[E.out];simp[results,results12,go_sem,m,q,Z8]) Z ⟨Z,?_⟩;rw[d.out]
  exact(r.out.setCell (p:=⟨_,0,none⟩) Ze _).setCell (p:=⟨_,1,none⟩) Ze _
 by_cases u:b<0
 ·have E:=f (.inr (.inl u));have D:decide ((n:Int)>200)=false:=Xu (by omega);have H:decide (b<0)=true:=Xt (by omega);clear f s t u;go_wp2_with fail
  refine(o.out C).mono ?_
  rintro G J ⟨rfl,j⟩;have a:=Qb (Blk.below l.out j);have x:=Qa a.out 0 _ Z;have y:=Qa a.out 1 _ Z;have F:=Qf a.out 0;have A:=Qf a.out 1;have r:=Qb (k.out.trans (j.mono (by have I:=k.out.size;have K:=d.out;omega)));have i:=Qb (Zs a.out (.int .i64 1) (.int .i64 (-1)));go_wp2
  have m:=Qa i.out 0 _ Z;have q:=Qa i.out 1 _ Z;refine Xy (v:=QaP n b g) (by rw[E.out];simp[results,results12,go_sem,m,q,Z8]) Z ⟨Z,?_⟩;rw[d.out]
  exact(r.out.setCell (p:=⟨_,0,none⟩) Ze _).setCell (p:=⟨_,1,none⟩) Ze _
 by_cases B:20000<b
 ·have E:=f (.inr (.inr (.inl B)));have D:decide ((n:Int)>200)=false:=Xu (by omega);have H:decide (b<0)=false:=Xu (by omega);have M:decide (b>20000)=true:=Xt (by omega);clear f s t u B;go_wp2_with fail
  refine(o.out C).mono ?_
  rintro G J ⟨rfl,j⟩;have a:=Qb (Blk.below l.out j);have x:=Qa a.out 0 _ Z;have y:=Qa a.out 1 _ Z;have F:=Qf a.out 0;have A:=Qf a.out 1;have r:=Qb (k.out.trans (j.mono (by have I:=k.out.size;have K:=d.out;omega)));have i:=Qb (Zs a.out (.int .i64 1) (.int .i64 (-1)));go_wp2
  have m:=Qa i.out 0 _ Z;have q:=Qa i.out 1 _ Z;refine Xy (v:=QaP n b g) (by rw[E.out];simp[results,results12,go_sem,m,q,Z8]) Z ⟨Z,?_⟩;rw[d.out]
  exact(r.out.setCell (p:=⟨_,0,none⟩) Ze _).setCell (p:=⟨_,1,none⟩) Ze _
 by_cases L:g<0
 ·have E:=f (.inr (.inr (.inr (.inl L))));have D:decide ((n:Int)>200)=false:=Xu (by omega);have H:decide (b<0)=false:=Xu (by omega);have M:decide (b>20000)=false:=Xu (by omega);have P:decide (g<0)=true:=Xt (by omega);clear f s t u B L;go_wp2_with fail
  refine(o.out C).mono ?_
  rintro G J ⟨rfl,j⟩;have a:=Qb (Blk.below l.out j);have x:=Qa a.out 0 _ Z;have y:=Qa a.out 1 _ Z;have F:=Qf a.out 0;have A:=Qf a.out 1;have r:=Qb (k.out.trans (j.mono (by have I:=k.out.size;have K:=d.out;omega)));have i:=Qb (Zs a.out (.int .i64 1) (.int .i64 (-1)));go_wp2
  have m:=Qa i.out 0 _ Z;have q:=Qa i.out 1 _ Z;refine Xy (v:=QaP n b g) (by rw[E.out];simp[results,results12,go_sem,m,q,Z8]) Z ⟨Z,?_⟩;rw[d.out]
  exact(r.out.setCell (p:=⟨_,0,none⟩) Ze _).setCell (p:=⟨_,1,none⟩) Ze _
 by_cases N:64<g
 ·have E:=f (.inr (.inr (.inr (.inr N))));have D:decide ((n:Int)>200)=false:=Xu (by omega);have H:decide (b<0)=false:=Xu (by omega);have M:decide (b>20000)=false:=Xu (by omega);have P:decide (g<0)=false:=Xu (by omega);have R:decide (g>64)=true:=Xt (by omega);clear f s t u B L N;go_wp2_with fail
  refine(o.out C).mono ?_
  rintro G J ⟨rfl,j⟩;have a:=Qb (Blk.below l.out j);have x:=Qa a.out 0 _ Z;have y:=Qa a.out 1 _ Z;have F:=Qf a.out 0;have A:=Qf a.out 1;have r:=Qb (k.out.trans (j.mono (by have I:=k.out.size;have K:=d.out;omega)));have i:=Qb (Zs a.out (.int .i64 1) (.int .i64 (-1)));go_wp2
  have m:=Qa i.out 0 _ Z;have q:=Qa i.out 1 _ Z;refine Xy (v:=QaP n b g) (by rw[E.out];simp[results,results12,go_sem,m,q,Z8]) Z ⟨Z,?_⟩;rw[d.out]
  exact(r.out.setCell (p:=⟨_,0,none⟩) Ze _).setCell (p:=⟨_,1,none⟩) Ze _
 have E:=s (by omega);have D:decide ((n:Int)>200)=false:=Xu (by omega);have H:decide (b<0)=false:=Xu (by omega);have M:decide (b>20000)=false:=Xu (by omega);have P:decide (g<0)=false:=Xu (by omega);have R:decide (g>64)=false:=Xu (by omega);clear f s t u B L N;have i:=Qb (Zs l.out (.int .i64 0) (.int .i64 0));go_wp2
 have m:=Qa i.out 0 _ Z;have q:=Qa i.out 1 _ Z;refine Xy (v:=QaP n b g) (by rw[E.out];simp[results,results12,go_sem,m,q,Z8]) Z ⟨Z,?_⟩;rw[d.out]
 exact(k.out.setCell (p:=⟨_,0,none⟩) Ze _).setCell (p:=⟨_,1,none⟩) Ze _
theorem QgL {l:List Int}(h:intsL.In w O l [.slice a n c]):∀ x∈l,Zh x:=fun x b=>by
 obtain⟨i,j⟩:=List.mem_iff_getElem?.1 b
 obtain⟨g,o,k,-,-,-,-,e,f,d⟩:=Yf h j
 exact⟨f,d⟩
theorem Qjo {m:List (Qe 6)}(h:(Qam 6).In w O m [.slice a n c]):M64 m:=fun u o v e x b=>by
 obtain⟨i,t⟩:=List.mem_iff_getElem?.1 o
 obtain⟨_,_,_,-,-,-,-,r⟩:=Yf h t
 obtain⟨_,_,_,_,_,_,rfl,-,-,g,-⟩:=Qev r
 obtain⟨j,d⟩:=List.mem_iff_getElem?.1 e
 obtain⟨_,_,_,-,-,-,-,p⟩:=Yf g d
 obtain⟨_,_,_,_,_,rfl,-,l,-⟩:=Qdl p
 obtain⟨k,f⟩:=List.mem_iff_getElem?.1 b
 obtain⟨_,_,_,-,-,-,-,q⟩:=Yf l f
 obtain⟨_,_,_,_,rfl,-,-,s⟩:=QfD q
 exact s.2.2.2.2.2
theorem QhZ {m:List (Qe 6)}(d:(Qam 6).In w All m [.slice pm m.length cm]) (g:Qcl m) (a:intsL.In w All inp [.slice pi inp.length ci]) (b:(Qr m).1=0) (i:inp.length<=200) (c:most<=20000) (h:pages<=64) :
 Calls prog 21 #[.agg #[.slice pm m.length cm],.slice pi inp.length ci,.int .i64 (most:Int),.int .i64 (pages:Int)] w fun e w'=>Qd0 w m inp most pages e w' :=
 Qja makeArr_any b (Qjo d) c (QeA b ⟨by omega,QgL a⟩ (by omega)) (fun j f=>QiJ (Ya d f) g (Ya a f) b (QgL a) i c h)
theorem five_runs:∃ M',IM.steps five6 aOp 9 2 (IM.start [] 0)=some M'/\M'.done=true/\M'.fin=0/\M'.back=[5]/\M'.out=[]/\M'.fuel=2:=⟨_,Z,Z,Z,Z,Z,Z⟩
theorem two_runs:∃ N,IM.steps two6 aOp 9 3 (IM.start [] 0)=some N/\N.done=false/\IM.step two6 aOp 9 N=none/\IM.place two6 N=3:=⟨_,Z,Z,Z,Z⟩
theorem Qiy {e:Ending}(h:Qd0 w five6 [] 9 0 e w'):Below w.heap.size w w'/\∃ a c b d,e=.returned (.tuple #[.agg #[.int .i64 0,.slice a 1 c,.slice b 0 d,.int .i64 2],Z8 0 0])/\Qb9 w' a [5]:=by
 obtain⟨A,j,i,s,p,t,u⟩:=five_runs
 refine⟨h.1,?_⟩
 rcases h.2 with ⟨y,⟨k,N,-,m,q,l,-⟩,-⟩|⟨k,C,-,o,r,v,n,rfl⟩
 ·exact(QcN j i m q l).elim
 ·have:=Qc9 o r j i
  subst this;obtain⟨z,B,rfl,g,x⟩:=n
  obtain⟨a,c,rfl,-⟩:=id g
  obtain⟨b,d,rfl,-⟩:=id x
  have f:=g.lg;rw[s,u]
  rw[p] at f |-
  rw[t]
  exact⟨a,c,b,d,Z,f.2⟩
theorem Qj2 {e:Ending}(h:Qd0 w two6 [] 9 0 e w'):Below w.heap.size w w'/\e=.returned (.tuple #[.agg #[.int .i64 0,.slice none 0 0,.slice none 0 0,.int .i64 0],Z8 20 3]):=by
 obtain⟨q,c,b,d,l⟩:=two_runs
 refine⟨h.1,?_⟩
 rcases h.2 with ⟨n,⟨k,N,-,i,g,f,a⟩,rfl⟩|⟨k,p,-,m,j,v,o,rfl⟩
 ·have:=QhL i g f c b d
  subst this;rw[a,l]
 ·exact(QcN m j c b d).elim
theorem QcX (w:World):Calls prog 6 #[] w fun e w'=>e=.returned (.bool true)/\Below w.heap.size w w':=by
 go_enter func6,ntmps6
 go_wp2_with fail
 refine(Qi8 w).mono ?_
 rintro e1 w1 ⟨G2,rfl,H,W⟩;have q:=Qb (QhZ (inp:=[]) (most:=9) (pages:=0) H (Qbp five_not) (Qll w1) (congrArg Prod.fst five_fault) (by decide) (by decide) (by decide));have D:=Qb W;clear H W;go_wp2_with fail
 refine q.out.mono ?_;rintro e2 s p;obtain⟨R,a,c,b,d,rfl,M⟩:=Qiy p
 have B0:=Qb (D.out.trans (R.mono D.out.size));have B2:=Qb (Bxs.start s);have HL:=Qb M;clear p R M q D;have h:=(B2.out.new #[.int .i64 0,.slice a 1 c,.slice b 0 d,.int .i64 2] 44).new #[.int .i64 0,.int .i64 0] 32;rw[World.size_alloc] at h
 have h:=Qb h;go_upto_region 2 with fail
 generalize (s.alloc (.cells #[.int .i64 0,.slice a 1 c,.slice b 0 d,.int .i64 2] 44)).alloc (.cells #[.int .i64 0,.int .i64 0] 32)=A at h |-;generalize s.heap.size+1=F at h |-;generalize s.heap.size=O at h |-;clear B2;go_wp2_with fail
 refine(Qex A).mono ?_
 rintro e4 I ⟨S,k,rfl,X,N,E,U,J,b4⟩
 have m:=Qb (((h.out.made b4 X E).add N (Zt h.out.bel.size U) (fun b Q=>by
  simp only[List.mem_cons,List.not_mem_nil,or_false] at Q
  have h8:O<A.heap.size:=(h.out.at (a:=[_])).lt;have h9:F<A.heap.size:=(h.out.at (a:=[])).lt;rcases Q with rfl | rfl | rfl
  ·exact J
  ·exact fun e=>by have e:F=k:=e;omega
  ·exact fun e=>by have e:O=k:=e;omega)).new #[.slice (some ⟨k,0,none⟩) 1 1] 24)
 clear X N E U J b4 h;go_upto_region 3 with fail
 generalize I.alloc (.cells #[.slice (some ⟨k,0,none⟩) 1 1] 24)=n at m |-;generalize I.heap.size=Y at m |-;have t:=Qb (m.out.new tCode 65);have v:n.cell? ⟨Y,0,none⟩=some (.slice (some ⟨k,0,none⟩) 1 1):=m.out.cell (a:=[]) 0 _ Z;have g3:n.cell? ⟨k,3,none⟩=some (.slice (some ⟨S,0,none⟩) 1 1):=m.out.cell (a:=[_]) 3 _ Z;have c2:=t.out.cell (a:=[_,_,_]) 2 _ Z;have z2:=t.out.free (a:=[_,_,_]) 2;go_upto_region 4 with fail
 have j:=Qb (t.out.set (a:=[_,_,_]) 2 (.slice (some ⟨n.heap.size,0,none⟩) 4 4));clear m t v g3 c2 z2;generalize (n.alloc (.cells tCode 65)).setCell ⟨S,2,none⟩ (.slice (some ⟨n.heap.size,0,none⟩) 4 4)=z at j |-;generalize n.heap.size=C at j |-;have v:z.cell? ⟨Y,0,none⟩=some (.slice (some ⟨k,0,none⟩) 1 1):=j.out.cell (a:=[_]) 0 _ Z;have T:=Qlg (w:=z) (j.out.at (a:=[_,_,_])) (j.out.at (a:=[_,_])) (j.out.at (a:=[]));have q:=Qb (QhZ (inp:=[]) (most:=9) (pages:=0) T (Qbp two_not) (Qll z) (congrArg Prod.fst two_fault) (by decide) (by decide) (by decide));clear T;go_wp2_with fail
 refine q.out.mono ?_;rintro e7 u p;obtain⟨K,rfl⟩:=Qj2 p
 have f:=(j.out.below K).new #[.int .i64 0,.slice none 0 0,.slice none 0 0,.int .i64 0] 44 |>.new #[.int .i64 20,.int .i64 3] 32
 rw[World.size_alloc] at f
 have f:=Qb f;clear p K q j v;go_upto_region 5 with fail
 generalize (u.alloc (.cells #[.int .i64 0,.slice none 0 0,.slice none 0 0,.int .i64 0] 44)).alloc (.cells #[.int .i64 20,.int .i64 3] 32)=g at f |-;generalize u.heap.size+1=G at f |-;generalize u.heap.size=O2 at f |-;have f0:g.cell? ⟨F,0,none⟩=some (.int .i64 0):=f.out.cell (a:=[_,_,_,_,_,_]) 0 _ Z;have o0:g.cell? ⟨O,0,none⟩=some (.int .i64 0):=f.out.cell (a:=[_,_,_,_,_,_,_]) 0 _ Z;have o1:g.cell? ⟨O,1,none⟩=some (.slice a 1 c):=f.out.cell (a:=[_,_,_,_,_,_,_]) 1 _ Z;have o2:g.cell? ⟨O,2,none⟩=some (.slice b 0 d):=f.out.cell (a:=[_,_,_,_,_,_,_]) 2 _ Z;have o3:g.cell? ⟨O,3,none⟩=some (.int .i64 2):=f.out.cell (a:=[_,_,_,_,_,_,_]) 3 _ Z;have B:=Qb (HL.out.below f.out.bel);have L:=Qb (f.out.new #[.int .i64 5] 2)
 have P:Qb9 (g.alloc (.cells #[.int .i64 5] 2)) (some ⟨g.heap.size,0,none⟩) [5]:=fun i x o=>by
  match i,o with
  | 0,o=>cases o;exact⟨g.heap.size,0,Z,Qa (Qh g #[.int .i64 5] 2) 0 _ Z⟩
  | i+1,o=>exact absurd (Zi o).1 (by simp)
 have CS:Hid (Calls prog 23 #[.agg #[.int .i64 0,.slice a 1 c,.slice b 0 d,.int .i64 2],.agg #[.int .i64 0,.slice (some ⟨g.heap.size,0,none⟩) 1 1,.slice none 0 0,.int .i64 2]] (g.alloc (.cells #[.int .i64 5] 2)) fun e w'=>e=.returned (.bool true)/\Below (g.alloc (.cells #[.int .i64 5] 2)).heap.size (g.alloc (.cells #[.int .i64 5] 2)) w'):=Qdc (l:=[5]) (r:=[]) (by decide) (by decide) (B.out.below (QY _ _)) P (Qb9.nil _ _) (Qb9.nil _ _);clear P;go_wp2_with fail
 refine CS.out.mono ?_;rintro e9 V ⟨rfl,b9⟩;have y:=Qb (L.out.below b9);have p0:V.cell? ⟨G,0,none⟩=some (.int .i64 20):=y.out.cell (a:=[_]) 0 _ Z;have p1:V.cell? ⟨G,1,none⟩=some (.int .i64 3):=y.out.cell (a:=[_]) 1 _ Z;clear b9 CS L f0 o0 o1 o2 o3;go_wp2
 go_ret;exact⟨Z,B0.out.trans (y.out.bel.mono B0.out.size)⟩
theorem QdI (w:World) (n k:Int) (h:n<0\/k<n):Calls prog 33 #[.int .i64 n,.int .i64 k] w fun e w'=>e=.returned (.bool false)/\w'=w:=by
 by_cases a:n<0
 ·have b:decide (n>=0)=false:=Xu (by omega);clear h a;go_enter func33,ntmps33
  go_wp2
  go_ret;exact⟨Z,Z⟩
 ·have b:decide (n>=0)=true:=Xt (by omega);have c:decide (n<=k)=false:=Xu (by omega);clear h a;go_enter func33,ntmps33
  go_wp2
  go_ret;exact⟨Z,Z⟩
theorem QfK (w:World) (n k:Int) (h:0<=n/\n<=k):Calls prog 33 #[.int .i64 n,.int .i64 k] w fun e w'=>e=.returned (.bool true)/\w'=w:=by
 have b:decide (n>=0)=true:=Xt h.1;have a:decide (n<=k)=true:=Xt h.2;clear h;go_enter func33,ntmps33
 go_wp2
 go_ret;exact⟨Z,Z⟩
def QfT {dd:Nat}(m:List (Qe dd)) (n:Nat) (fu pg:Int) (c a:Int):Prop:=(c≠0/\Qr m=(c,a))\/((Qr m).1=0/\(200<n\/fu<0\/20000<fu\/pg<0\/64<pg)/\c=1/\a=-1)
theorem QfT.ne {b:Nat}{m:List (Qe b)}{c a:Int}(h:QfT m n fu pg c a):c≠0:=by
 rcases h with h | h
 ·exact h.1
 ·rw[h.2.2.1];decide
theorem Qj3 {M:Nat}{m:List (Qe M)}{c a:Int}(G:(Qam M).In w All m [.slice pm m.length cm]) (C:Qcl m) (hn:n<1152921504606846976) (I:QfT m n fu pg c a) :
 Calls prog 10 #[.agg #[.slice pm m.length cm],.slice pi n ci,.int .i64 fu,.int .i64 pg] w fun e w'=>e=.returned (.tuple #[.pointer none,Z8 c a])/\Below w.heap.size w w':=by
 have P:=Qb G;have U:=Qb C;have L:=Qb I;have HN:=Qb hn;have j:=Qb ((((Bxs.start w).new #[.slice pm m.length cm] 24)).new #[.int .i64 0,.int .i64 0] 32);clear G C I hn;go_enter func10,ntmps10
 go_upto_region 1 with fail
 rw[World.size_alloc] at j
 generalize (w.alloc (.cells #[.slice pm m.length cm] 24)).alloc (.cells #[.int .i64 0,.int .i64 0] 32)=t at j |-;generalize w.heap.size+1=Y at j |-;generalize w.heap.size=X at j |-;have R:t.cell? ⟨X,0,none⟩=some (.slice pm m.length cm):=j.out.cell (a:=[_]) 0 _ Z;obtain⟨d,g,l⟩:∃ d g,Qr m=(d,g):=⟨_,_,Z⟩
 have q:=Qb (Qdo (Ya P.out j.out.bel) U.out);rw[l] at q
 have q:Hid (Calls prog 32 #[.agg #[.slice pm m.length cm]] t fun e w'=>e=.returned (Z8 d g)/\Below t.heap.size t w'):=q.out;have k:=Qb l;clear l;go_upto_region 2 with (go_at_call 32;refine q.out.mono ?_;rintro z J ⟨rfl,K⟩)
 have h:=Qb ((j.out.below K).new #[.int .i64 d,.int .i64 g] 32);clear q K j R;generalize J.alloc (.cells #[.int .i64 d,.int .i64 g] 32)=p at h |-;generalize J.heap.size=F at h |-;have O:p.cell? ⟨F,0,none⟩=some (.int .i64 d):=h.out.cell (a:=[]) 0 _ Z;have W:p.cell? ⟨F,1,none⟩=some (.int .i64 g):=h.out.cell (a:=[]) 1 _ Z;have y0:=h.out.cell (a:=[_]) 0 _ Z;have y1:=h.out.cell (a:=[_]) 1 _ Z;have z0:=h.out.free (a:=[_]) 0;have z1:=h.out.free (a:=[_]) 1
 have x:Hid (∀ c a:Int,(((p.setCell ⟨Y,0,none⟩ (.int .i64 c)).setCell ⟨Y,1,none⟩ (.int .i64 a)).cell? ⟨Y,0,none⟩=some (.int .i64 c)/\((p.setCell ⟨Y,0,none⟩ (.int .i64 c)).setCell ⟨Y,1,none⟩ (.int .i64 a)).cell? ⟨Y,1,none⟩=some (.int .i64 a))/\Below w.heap.size w ((p.setCell ⟨Y,0,none⟩ (.int .i64 c)).setCell ⟨Y,1,none⟩ (.int .i64 a))):=fun c a=>by
  have A:=(h.out.set (a:=[_]) 0 (.int .i64 c)).set (a:=[_]) 1 (.int .i64 a);exact⟨⟨A.cell (a:=[_]) 0 _ Z,A.cell (a:=[_]) 1 _ Z⟩,A.bel⟩
 by_cases i:d=0
 ·subst i
  have E:Hid ((200<n\/fu<0\/20000<fu\/pg<0\/64<pg)/\c=1/\a=-1):=by
   rcases L.out with ⟨o,r⟩|⟨-,o⟩
   ·rw[k.out] at r;cases r;exact absurd Z o
   ·exact o
  have D:=Qb (x.out 1 (-1));clear x;by_cases hn:200<n
  ·have u:Hid (∀ b,Calls prog 33 #[.int .i64 (n:Int),.int .i64 200] b fun e w'=>e=.returned (.bool false)/\w'=b):=fun b=>QdI b _ _ (.inr (by omega));clear hn;go_upto_region 5 with (go_at_call 33;with_reducible refine(u.out _).mono ?_;rintro z w' ⟨rfl,f⟩;have f:=f.symm;subst f)
   go_wp2
   exact Xy (v:=.tuple #[.pointer none,Z8 c a]) (by rw[E.out.2.1,E.out.2.2];simp[results,results10,go_sem,D.out.1.1,D.out.1.2,Z8]) Z ⟨Z,D.out.2⟩
  ·have u:Hid (∀ b,Calls prog 33 #[.int .i64 (n:Int),.int .i64 200] b fun e w'=>e=.returned (.bool true)/\w'=b):=fun b=>QfK b _ _ ⟨by omega,by omega⟩;by_cases B:0<=fu/\fu<=20000
   ·have y:Hid (∀ b,Calls prog 33 #[.int .i64 fu,.int .i64 20000] b fun e w'=>e=.returned (.bool true)/\w'=b):=fun b=>QfK b _ _ B;have T:Hid (∀ b,Calls prog 33 #[.int .i64 pg,.int .i64 64] b fun e w'=>e=.returned (.bool false)/\w'=b):=fun b=>QdI b _ _ (by have:=E.out.1;omega);clear hn B;go_upto_region 5 with (go_at_call 33;(first | with_reducible refine(u.out _).mono ?_ | with_reducible refine(y.out _).mono ?_ | with_reducible refine(T.out _).mono ?_);rintro z w' ⟨rfl,f⟩;have f:=f.symm;subst f)
    go_wp2
    exact Xy (v:=.tuple #[.pointer none,Z8 c a]) (by rw[E.out.2.1,E.out.2.2];simp[results,results10,go_sem,D.out.1.1,D.out.1.2,Z8]) Z ⟨Z,D.out.2⟩
   ·have y:Hid (∀ b,Calls prog 33 #[.int .i64 fu,.int .i64 20000] b fun e w'=>e=.returned (.bool false)/\w'=b):=fun b=>QdI b _ _ (by omega);clear hn B;go_upto_region 5 with (go_at_call 33;(first | with_reducible refine(u.out _).mono ?_ | with_reducible refine(y.out _).mono ?_);rintro z w' ⟨rfl,f⟩;have f:=f.symm;subst f)
    go_wp2
    exact Xy (v:=.tuple #[.pointer none,Z8 c a]) (by rw[E.out.2.1,E.out.2.2];simp[results,results10,go_sem,D.out.1.1,D.out.1.2,Z8]) Z ⟨Z,D.out.2⟩
 ·have d0:(d != 0)=true:=bne_iff_ne.2 i
  have E:Hid (c=d/\a=g):=by
   rcases L.out with ⟨o,r⟩|⟨o,-⟩
   ·rw[k.out] at r;cases r;exact⟨Z,Z⟩
   ·rw[k.out] at o;exact absurd o i
  have D:=Qb (x.out d g);clear i x;go_upto_region 3 with fail
  go_region
  all_goals
   go_wp2_with fail
   have H:=D.out;generalize (p.setCell ⟨Y,0,none⟩ (.int .i64 d)).setCell ⟨Y,1,none⟩ (.int .i64 g)=N at H |-;obtain⟨⟨S,q1⟩,s⟩:=H
   have Q:N.drew.cell? ⟨Y,0,none⟩=some (.int .i64 d):=S;have V:N.drew.cell? ⟨Y,1,none⟩=some (.int .i64 g):=q1;exact Xy (v:=.tuple #[.pointer none,Z8 c a]) (by rw[E.out.1,E.out.2];simp[results,results10,go_sem,Q,V,Z8]) Z ⟨Z,⟨s.os,s.tape,s.output,s.size,s.block⟩⟩
abbrev Qh3 (c a:Int):Value:=.tuple #[.agg #[.int .i64 0,.slice none 0 0,.slice none 0 0,.int .i64 0],Z8 c a]
theorem Qka {y:Nat}{m:List (Qe y)}{c a:Int}(s:(Qam y).In w All m [.slice pm m.length cm]) (r:Qcl m) (hn:n<1152921504606846976) (k:QfT m n fu pg c a) :
 Calls prog 21 #[.agg #[.slice pm m.length cm],.slice pi n ci,.int .i64 fu,.int .i64 pg] w fun e w'=>e=.returned (Qh3 c a)/\Below w.heap.size w w':=by
 have f:=((((Bxs.start w).new #[.slice pm m.length cm] 24)).new #[.int .i64 0,.slice none 0 0,.slice none 0 0,.int .i64 0] 44).new #[.int .i64 0,.int .i64 0] 32;rw[World.size_alloc,World.size_alloc] at f
 have f:=Qb f;have l:Hid (∀ j,Below w.heap.size w j->Calls prog 10 #[.agg #[.slice pm m.length cm],.slice pi n ci,.int .i64 fu,.int .i64 pg] j fun e w'=>e=.returned (.tuple #[.pointer none,Z8 c a])/\Below j.heap.size j w'):=fun j K=>Qj3 (Ya s K) r hn k;have J:(c != 0)=true:=bne_iff_ne.2 k.ne;have d1:decide (c=0)=false:=Xu k.ne;clear s r hn k;go_enter func21,ntmps21
 go_upto_region 1 with fail
 generalize ((w.alloc (.cells #[.slice pm m.length cm] 24)).alloc (.cells #[.int .i64 0,.slice none 0 0,.slice none 0 0,.int .i64 0] 44)).alloc (.cells #[.int .i64 0,.int .i64 0] 32)=u at f |-;generalize w.heap.size+1+1=g at f |-;generalize w.heap.size+1=d at f |-;generalize w.heap.size=X at f |-;have l:=Qb (l.out u f.out.bel);have E:u.cell? ⟨X,0,none⟩=some (.slice pm m.length cm):=f.out.cell (a:=[_,_]) 0 _ Z;go_upto_region 2 with (go_at_call 10;refine l.out.mono ?_;rintro e' q ⟨rfl,z⟩)
 have o:=Qb ((f.out.below z).new #[.int .i64 c,.int .i64 a] 32);clear f l E z;generalize q.alloc (.cells #[.int .i64 c,.int .i64 a] 32)=I at o |-;generalize q.heap.size=F at o |-;have T:(c==0)=false:=by simpa using J
 go_loopw [] (fun wr=>Hid (wr=I)) (fun _=>0)
 case atStart=>exact Z
 case round =>
  have b:=o.out;rw[<-hrel.out] at b
  have b:=Qb b;clear hrel o;have c0:wr.cell? ⟨F,0,none⟩=some (.int .i64 c):=b.out.cell (a:=[]) 0 _ Z;have S:wr.cell? ⟨F,1,none⟩=some (.int .i64 a):=b.out.cell (a:=[]) 1 _ Z;have Q:=b.out.cell (a:=[_,_]) 0 _ Z;have R:=b.out.cell (a:=[_,_]) 1 _ Z;have N:=b.out.cell (a:=[_,_]) 2 _ Z;have V:=b.out.cell (a:=[_,_]) 3 _ Z;have z0:=b.out.free (a:=[_,_]) 0;have U:=b.out.free (a:=[_,_]) 1;have z2:=b.out.free (a:=[_,_]) 2;have O:=b.out.free (a:=[_,_]) 3;have W:=b.out.cell (a:=[_]) 0 _ Z;have s1:=b.out.cell (a:=[_]) 1 _ Z;have P:=b.out.free (a:=[_]) 0;have y1:=b.out.free (a:=[_]) 1;have p:¬ d=g:=fun e=>by have:=b.out.nd;simp[e] at this
  have x:¬ g=d:=fun e=>p e.symm;have A:¬ F=d:=fun e=>by have:=b.out.nd;simp[e] at this
  have H:¬ F=g:=fun e=>by have:=b.out.nd;simp[e] at this
  go_upto_region 5 with fail
  go_region
  all_goals
   go_wp2_with fail
   have t:=(((((b.out.set (a:=[_,_]) 0 (.int .i64 0)).set (a:=[_,_]) 1 (.slice none 0 0)).set (a:=[_,_]) 2 (.slice none 0 0)).set (a:=[_,_]) 3 (.int .i64 0)).set (a:=[_]) 0 (.int .i64 c)).set (a:=[_]) 1 (.int .i64 a);generalize ((((((wr.setCell ⟨d,0,none⟩ (.int .i64 0)).setCell ⟨d,1,none⟩ (.slice none 0 0)).setCell ⟨d,2,none⟩ (.slice none 0 0)).setCell ⟨d,3,none⟩ (.int .i64 0)).setCell ⟨g,0,none⟩ (.int .i64 c)).setCell ⟨g,1,none⟩ (.int .i64 a))=i at t |-;have h:=t.drew;have D:i.drew.cell? ⟨d,0,none⟩=some (.int .i64 0):=h.cell (a:=[_,_]) 0 _ Z;have L:i.drew.cell? ⟨d,1,none⟩=some (.slice none 0 0):=h.cell (a:=[_,_]) 1 _ Z;have M:i.drew.cell? ⟨d,2,none⟩=some (.slice none 0 0):=h.cell (a:=[_,_]) 2 _ Z;have B:i.drew.cell? ⟨d,3,none⟩=some (.int .i64 0):=h.cell (a:=[_,_]) 3 _ Z;have C:i.drew.cell? ⟨g,0,none⟩=some (.int .i64 c):=h.cell (a:=[_]) 0 _ Z;have G:i.drew.cell? ⟨g,1,none⟩=some (.int .i64 a):=h.cell (a:=[_]) 1 _ Z;exact Xy (v:=Qh3 c a) (by simp[results,results21,go_sem,D,L,M,B,C,G,Z8]) Z ⟨Z,h.bel⟩
def KTo (wA w:World) (b:Nat) (O:Nat->Prop) (s:JSt):Prop:=∃ O',KAt w b O' s/\QN O O' wA w/\∀ k,O' k->k<w.heap.size
theorem ZZ.via {S:Nat->Bool}(a:ZZ l S){o:Oper}(c:l[q]?=some o) (d:Qbt l 24 o i=true) (b:S q=true):S i=true :=
 QaU (all:=l) (S:=fun j=>S j=true) a 24 o d (a q o c b)
theorem ZZ.no {S:Nat->Bool}(a:ZZ l S){o:Oper}(b:l[q]?=some o) (d:Qbt l 24 o i=true) (c:S i=false):S q=false:=by
 cases h:S q with
 | false=>rfl
 | true=>have:=a.via b d h;rw[c] at this;cases this
theorem QaF {S:Nat->Bool}(h:j≠i):Zp i S j=S j:=by
 have:(j==i)=false:=by simpa using h
 unfold Zp;rw[this,Bool.false_or]
def hTi:List (Nat × Tmp):=[(0,38),(1,39),(2,40),(3,41),(4,42),(5,43),(6,44),(7,45),(8,46),(9,47),(10,48),(11,49),(12,50),(13,51),(14,52)]
def hMv (b hh rn rc G g2 cap2:Nat) (ra:Option Addr):List (Tmp × Value):=[(38,.pointer (some ⟨b,0,none⟩)),(39,.pointer (some ⟨b,0,none⟩)),(40,.pointer (some ⟨b,5,none⟩)),(41,.pointer (some ⟨hh,0,none⟩)),(42,.pointer (some ⟨b,0,none⟩)),(43,.pointer (some ⟨b,0,none⟩)),(44,.pointer (some ⟨b,5,none⟩)),(45,.pointer (some ⟨hh,0,none⟩)),(46,.pointer (some ⟨hh,0,none⟩)),(47,.pointer (some ⟨hh,0,none⟩)),(48,.slice ra rn rc),(49,.slice (some ⟨G,0,none⟩) 1 1),(50,.slice (some ⟨g2,0,none⟩) (rn+1) cap2),(51,.pointer (some ⟨hh,0,none⟩)),(52,.pointer (some ⟨hh,0,none⟩))]
def HIv (n:Nat) (a0:Act) (wA:World) (b:Nat) (O:Nat->Prop) (s:JSt) (hh rn rc:Nat) (ra:Option Addr) (S:Nat->Bool) (a:Act) (w:World):Prop :=
 a.tmps.size=n/\a.defers=[]/\(∀ t,([38,39,40,41,42,43,44,45,46,47,48,49,50,51,52]:List Tmp).contains t=false->a.tmps.getD t undef=a0.tmps.getD t undef)/\∃ G g2 cap2,
  (∀ x∈hTi,S x.1=true->∀ v,(hMv b hh rn rc G g2 cap2 ra).lookup x.2=some v->a.tmps.getD x.2 undef=v) /\
  (S 15=false->wA.grownBy w (Value.slice ra rn rc).ownBlock/\(S 12=false->Below wA.heap.size wA w/\(S 11=true->wA.heap.size<=G/\w.heap[G]?=some (.cells #[.bool true] 4 (0,0)))) /\
   (S 12=true->w.ownsRow 0 4 1 (.slice (some ⟨g2,0,none⟩) (rn+1) cap2) (rn+1) (s.H.map Value.bool++[.bool true])/\((Value.slice ra rn rc).ownBlock=some g2\/wA.heap.size<=g2)/\g2<w.heap.size)) /\
  (S 15=true->KTo wA w b O { s with H:=s.H++[true] })
section
variable {n:Nat}{a0 a:Act}{wA w w':World}{b hh rn rc:Nat}{O:Nat->Prop}{s:JSt}{ra:Option Addr}{S:Nat->Bool}
theorem hTi_lt:∀ x∈hTi,x.2<53/\([38,39,40,41,42,43,44,45,46,47,48,49,50,51,52]:List Tmp).contains x.2=true:=by decide
theorem HIv.pure {t:Tmp}(r:HIv n a0 wA b O s hh rn rc ra S a w) (hn:53<=n) (o:(i,t)∈hTi) (z:∀ G g2 cap2,(hMv b hh rn rc G g2 cap2 ra).lookup t=some v) (g:i≠11) (j:i≠12) (f:i≠15):HIv n a0 wA b O s hh rn rc ra (Zp i S) (a.put (some t) v) w:=by
 obtain⟨m,D,E,G,g2,cap2,C,F,H⟩:=r
 obtain⟨q,k⟩:=hTi_lt _ o
 have d:t<a.tmps.size:=by rw[m];exact Zl q hn
 refine⟨by rw[<-m];simp[Act.put],D,fun u h=>?_,G,g2,cap2,fun x l A B c=>?_,?_,?_⟩
 ·have:u≠t:=fun e=>by subst e;rw[k] at h;cases h
  rw[Zc d,Xr this];exact E u h
 ·rw[Zc d]
  by_cases e:x.2=t
  ·rw[Xs e];rw[e,z] at c;exact Xn c
  ·rw[Xr e]
   refine C x l (Q5 (fun p=>e ?_) A) B c
   have:∀ x∈hTi,∀ y∈hTi,x.1=y.1->x.2=y.2:=by decide
   exact this x l (i,t) o p
 ·rw[QaF (Ne.symm f),QaF (Ne.symm j),QaF (Ne.symm g)];exact F
 ·rw[QaF (Ne.symm f)];exact H
end
def TRi (w:World) (lo hi:Nat) (v:Value) (ts:List (TT 6)):Prop :=
 ∃ xs,w.ownsRow 0 92 3 v ts.length xs/\(∀ g,v.ownBlock=some g->lo<=g/\g<hi)/\∀ i x,ts[i]?=some x->(Lay.tt 6).In w (fun k=>lo<=k/\k<hi/\v.ownBlock≠some k) x ((xs.drop (i*3)).take 3)
theorem TRi.below {w w':World}{d:Nat}{e:List (TT 6)}(h:TRi w lo d v e) (k:Below w.heap.size w w'):TRi w' lo d v e:=by
 obtain⟨j,⟨q,m⟩,o,n⟩:=h
 refine⟨j,⟨q,?_⟩,o,fun i x l=>Ya (n i x l) k⟩
 rcases m with p | ⟨g,a,b,rfl,f,c,r⟩
 ·exact .inl p
 ·exact .inr ⟨g,a,b,Z,f,(k.block g (XC c)).trans c,r⟩
structure KZ where
 h:Nat
 lo:Nat
 hi:Nat
 lo2:Nat
 hi2:Nat
 B:Nat
 c:Nat
 a:Option Addr
def kTi:List (Nat × Tmp):=[(0,17),(1,18),(2,19),(3,20),(4,21),(5,22),(6,23),(7,24),(8,25),(9,26),(10,27),(11,28),(12,29),(13,30),(14,6)]
def kMv (X mg mo nm cm fi Bk n1 d1 fl fc fm fd fn ff:Nat) (fr gr:Int) (fa fb fe p1:Option Addr) (z:KZ):List (Tmp × Value):=[(17,.agg #[.slice (some ⟨mg,mo,none⟩) nm cm]),(18,.pointer (some ⟨X,0,none⟩)),(19,.slice (some ⟨mg,mo,none⟩) nm cm),(20,.int .i64 (fi:Int)),(21,.pointer (some ⟨mg,mo+fi*4,none⟩)),(22,.agg #[.int .i64 fr,.slice fa fl fc,.slice fb fm fd,.slice fe fn ff]),(23,.pointer (some ⟨Bk,0,none⟩)),(24,.int .i64 gr),(25,.pointer (some ⟨z.h,0,none⟩)),(26,.pointer (some ⟨Bk,1,none⟩)),(27,.slice p1 n1 d1),(28,.slice z.a n1 z.c),(29,.agg #[.slice (some ⟨mg,mo,none⟩) nm cm,.int .i64 fr,.slice fa fl fc,.slice fb fm fd,.slice fe fn ff,.pointer (some ⟨z.h,0,none⟩),.slice z.a n1 z.c]),(30,.pointer (some ⟨z.B,0,none⟩)),(6,.pointer (some ⟨z.B,0,none⟩))]
structure KIv (X mg mo nm cm fi Bk n1 d1 fl fc fm fd fn ff:Nat) (fr gr:Int) (fa fb fe p1:Option Addr) (n:Nat) (a0:Act) (w6:World) (ts:List (TT 6)) (z:KZ) (S:Nat->Bool) (a:Act) (w:World):Prop where
 size:a.tmps.size=n
 defers:a.defers=[]
 outer:∀ t,([17,18,19,20,21,22,23,24,25,26,27,28,29,30,6]:List Tmp).contains t=false->a.tmps.getD t undef=a0.tmps.getD t undef
 vals:∀ x∈kTi,S x.1=true->∀ v,(kMv X mg mo nm cm fi Bk n1 d1 fl fc fm fd fn ff fr gr fa fb fe p1 z).lookup x.2=some v->a.tmps.getD x.2 undef=v
 bel:Below w6.heap.size w6 w
 held:S 8=true->w6.heap.size<=z.lo/\z.hi<=w.heap.size/\QS w z.h (fun k=>z.lo<=k/\k<z.hi) (Qh9 gr)
 row:S 11=true->w6.heap.size<=z.lo2/\z.hi2<=w.heap.size/\TRi w z.lo2 z.hi2 (.slice z.a n1 z.c) ts
 apart:S 8=true->S 11=true->z.hi<=z.lo2\/z.hi2<=z.lo
 box:S 13=true->w6.heap.size<=z.B/\z.hi<=z.B/\z.hi2<=z.B/\Blk w z.B #[.slice (some ⟨mg,mo,none⟩) nm cm,.int .i64 fr,.slice fa fl fc,.slice fb fm fd,.slice fe fn ff,.pointer (some ⟨z.h,0,none⟩),.slice z.a n1 z.c] 155
section
variable {X mg mo nm cm fi Bk n1 d1 fl fc fm fd fn ff:Nat}{fr gr:Int}{fa fb fe p1:Option Addr}{n:Nat}{a0 a:Act}{w6 w w':World}{ts:List (TT 6)}{z:KZ}{S:Nat->Bool}
theorem kTi_lt:∀ x∈kTi,x.2<31/\([17,18,19,20,21,22,23,24,25,26,27,28,29,30,6]:List Tmp).contains x.2=true:=by decide
theorem kTi_ne:∀ x∈kTi,∀ y∈kTi,x.1=y.1->x.2=y.2:=by decide
theorem KIv.put {b:KZ}{t:Tmp}(f:KIv X mg mo nm cm fi Bk n1 d1 fl fc fm fd fn ff fr gr fa fb fe p1 n a0 w6 ts z S a w) (hn:31<=n) (q:(i,t)∈kTi) (y:(kMv X mg mo nm cm fi Bk n1 d1 fl fc fm fd fn ff fr gr fa fb fe p1 b).lookup t=some v) (E:∀ x∈kTi,x.1≠i->S x.1=true->(kMv X mg mo nm cm fi Bk n1 d1 fl fc fm fd fn ff fr gr fa fb fe p1 b).lookup x.2=(kMv X mg mo nm cm fi Bk n1 d1 fl fc fm fd fn ff fr gr fa fb fe p1 z).lookup x.2)
 (I:Below w6.heap.size w6 w') (F:Zp i S 8=true->w6.heap.size<=b.lo/\b.hi<=w'.heap.size/\QS w' b.h (fun k=>b.lo<=k/\k<b.hi) (Qh9 gr)) (G:Zp i S 11=true->w6.heap.size<=b.lo2/\b.hi2<=w'.heap.size/\TRi w' b.lo2 b.hi2 (.slice b.a n1 b.c) ts)
 (D:Zp i S 8=true->Zp i S 11=true->b.hi<=b.lo2\/b.hi2<=b.lo) (H:Zp i S 13=true->w6.heap.size<=b.B/\b.hi<=b.B/\b.hi2<=b.B/\Blk w' b.B #[.slice (some ⟨mg,mo,none⟩) nm cm,.int .i64 fr,.slice fa fl fc,.slice fb fm fd,.slice fe fn ff,.pointer (some ⟨b.h,0,none⟩),.slice b.a n1 b.c] 155) :
 KIv X mg mo nm cm fi Bk n1 d1 fl fc fm fd fn ff fr gr fa fb fe p1 n a0 w6 ts b (Zp i S) (a.put (some t) v) w':=by
 obtain⟨s,p⟩:=kTi_lt _ q
 have g:t<a.tmps.size:=by rw[f.size];exact Zl s hn
 refine⟨by rw[<-f.size];simp[Act.put],f.defers,fun u m=>?_,fun x o A C d=>?_,I,F,G,D,H⟩
 ·have:u≠t:=fun e=>by subst e;rw[p] at m;cases m
  rw[Zc g,Xr this];exact f.outer u m
 ·rw[Zc g]
  by_cases e:x.2=t
  ·rw[Xs e];rw[e,y] at d;exact Xn d
  ·rw[Xr e]
   have j:x.1≠i:=fun r=>e (kTi_ne x o (i,t) q r);have l:=Q5 j A;rw[E x o j l] at d
   exact f.vals x o l C d
theorem KIv.pure {t:Tmp}(b:KIv X mg mo nm cm fi Bk n1 d1 fl fc fm fd fn ff fr gr fa fb fe p1 n a0 w6 ts z S a w) (hn:31<=n) (g:(i,t)∈kTi) (f:(kMv X mg mo nm cm fi Bk n1 d1 fl fc fm fd fn ff fr gr fa fb fe p1 z).lookup t=some v) (e:i≠8) (c:i≠11) (d:i≠13):KIv X mg mo nm cm fi Bk n1 d1 fl fc fm fd fn ff fr gr fa fb fe p1 n a0 w6 ts z (Zp i S) (a.put (some t) v) w:=by
 refine b.put hn g f (fun _ _ _ _=>rfl) b.bel ?_ ?_ ?_ ?_
 ·rw[QaF (Ne.symm e)];exact b.held
 ·rw[QaF (Ne.symm c)];exact b.row
 ·rw[QaF (Ne.symm e),QaF (Ne.symm c)];exact b.apart
 ·rw[QaF (Ne.symm d)];exact b.box
end
def Qmr (X mg mo nm cm fi Bk n1 d1 fl fc fm fd fn ff:Nat) (fr gr:Int) (fa fb fe p1:Option Addr) (w6 w':World) (ts:List (TT 6)) (B:Nat):Prop :=
 ∃ h vL O',Blk w' B #[.slice (some ⟨mg,mo,none⟩) nm cm,.int .i64 fr,.slice fa fl fc,.slice fb fm fd,.slice fe fn ff,.pointer (some ⟨h,0,none⟩),vL] 155/\QS w' h O' (Qh9 gr)/\(∃ xs,w'.ownsRow 0 92 3 vL ts.length xs/\(∀ g,vL.ownBlock=some g->O' g)/\∀ i x,ts[i]?=some x->(Lay.tt 6).In w' (fun g=>¬ O' g/\w6.heap.size<=g) x ((xs.drop (i*3)).take 3))/\O' B/\(∀ k,O' k->w6.heap.size<=k/\k<w'.heap.size)/\Below w6.heap.size w6 w'
theorem KIv.fin {X A t v D fi C j E fl fc fm fd fn p:Nat}{fr s:Int}{F fb fe m:Option Addr}{n:Nat}{a0 a:Act}{u w:World}{y:List (TT 6)}{z:KZ}{S:Nat->Bool}(f:KIv X A t v D fi C j E fl fc fm fd fn p fr s F fb fe m n a0 u y z S a w) (q:S 8=true) (d:S 11=true) (o:S 13=true):Qmr X A t v D fi C j E fl fc fm fd fn p fr s F fb fe m u w y z.B:=by
 obtain⟨m,Q,K⟩:=f.held q
 obtain⟨V,P,L,M,N,I⟩:=f.row d
 have T:=f.apart q d;obtain⟨G,O,U,r⟩:=f.box o
 have l:=XC r;refine⟨z.h,_,fun k=>k=z.B\/(z.lo<=k/\k<z.hi)\/(Value.slice z.a j z.c).ownBlock=some k,r,K.mono (fun k b=>.inr (.inl b)),⟨L,M,fun g J=>.inr (.inr J),fun i x H=>?_⟩,.inl Z,fun k b=>?_,f.bel⟩
 ·refine(Lay.tt 6).keep (fun _ _ _=>rfl) (fun k b R=>⟨fun e=>?_,by omega⟩) (I i x H)
  rcases e with e | e | e
  ·omega
  ·omega
  ·exact b.2.2 e
 ·rcases b with rfl | b | b
  ·exact⟨G,l⟩
  ·omega
  ·have:=N k b;omega
structure Tup (wA wr:World) (B:Nat) (O:Nat->Prop) (r:Int) (v:Value) (l:List (TT 6)):Prop where
 bel:Below wA.heap.size wA wr
 hB:wA.heap.size<=B
 box:Blk wr B #[.int .i64 3,.int .i64 r,v] 92
 row:∃ xs,wr.ownsRow (B+1) 92 3 v l.length xs/\∀ i x,l[i]?=some x->(Lay.tt 6).In wr (fun g=>¬ O g/\g<wA.heap.size) x ((xs.drop (i*3)).take 3)
section
variable {wA wr w':World}{B:Nat}{O:Nat->Prop}{r:Int}{v:Value}{l:List (TT 6)}
theorem Tup.below (h:Tup wA wr B O r v l) (k:Below wr.heap.size wr w'):Tup wA w' B O r v l:=by
 obtain⟨e,o,d,j,⟨t,n⟩,s⟩:=h
 refine⟨e.trans (k.mono e.size),o,(k.block B (XC d)).trans d,j,⟨t,?_⟩,fun i x m=>Ya (s i x m) k⟩
 rcases n with p | ⟨g,a,b,rfl,f,c,q⟩
 ·exact Or.inl p
 ·exact Or.inr ⟨g,a,b,Z,f,(k.block g (XC c)).trans c,q⟩
theorem Tup.form (h:Tup wA wr B O r v l):∃ a c xs,v=.slice a l.length c/\wr.ownsRow (B+1) 92 3 (.slice a l.length c) l.length xs/\(∀ i x,l[i]?=some x->(Lay.tt 6).In wr (fun g=>¬ O g/\g<wA.heap.size) x ((xs.drop (i*3)).take 3))/\wr.cell? ⟨B,2,none⟩=some (.slice a l.length c):=by
 obtain⟨o,s,f,xs,b,j⟩:=h
 obtain⟨p,k⟩:=id b
 rcases k with ⟨rfl,e⟩|⟨g,d,m,rfl,n,t,q⟩
 ·refine⟨none,0,xs,by rw[e],by rw[e] at b |-;exact b,j,?_⟩
  rw[Qa f 2 _ Z,e];rfl
 ·exact⟨some ⟨g,0,none⟩,d,xs,Z,b,j,Qa f 2 _ Z⟩
theorem Tup.tree (h:Tup wA wr B O r v l) (z:∀ k,O k->k<wA.heap.size):∃ a c,v=.slice a l.length c/\TIn wr (fun g=>¬ O g) (mkT 3 r l:TT 7) a/\∀ x∈l,x.ok:=by
 obtain⟨a,c,A,rfl,D,q,-⟩:=h.form
 refine⟨a,c,Z,fun i x b=>?_,fun x b=>?_⟩
 ·obtain⟨K,C⟩:=D
  have t:i<l.length:=(Zi b).1;rcases C with ⟨_,Q⟩|⟨g,E,G,e,L,I,M,P,J,w⟩
  ·omega
  ·obtain⟨m,n,p,s,o⟩:=q i x b
   have N:=h.hB
   have d:∀ j u,j<3->((A.drop (i*3)).take 3)[j]?=some u->wr.cell? ⟨g,i*3+j,none⟩=some u:=fun j u F f=>by
    rw[XR,Xs F,List.getElem?_drop,<-w,XR,Xs (by omega),Array.getElem?_toList] at f
    exact Qa I _ u f
   rw[p] at d
   simp only[Value.slice.injEq] at e
   refine⟨g,0,m,n,e.1,fun H=>by have:=z g H;omega,?_,?_,?_,s.mono (fun k y _=>y.1)⟩
   ·rw[XK];exact d 0 _ (by omega) Z
   ·rw[XK];exact d 1 _ (by omega) Z
   ·rw[XK];exact d 2 _ (by omega) Z
 ·obtain⟨i,t⟩:=List.getElem?_of_mem b
  obtain⟨m,n,p,s,o⟩:=q i x t
  exact o
theorem Tup.push {w9:World}{t:TT 6}{s:Option Addr}{y:Nat}(b:Below wA.heap.size wA wr) (K:wA.heap.size<=B) (j:Blk wr B #[.int .i64 3,.int .i64 r,.slice a l.length c] 92)
 (m:∀ i x,l[i]?=some x->(Lay.tt 6).In wr (fun g=>¬ O g/\g<wA.heap.size) x ((xs.drop (i*3)).take 3)) (p:xs.length=l.length*3) (F:TIn wr (fun g=>¬ O g/\g<wA.heap.size) t s) (w:t.ok) (d:∀ k,(Value.slice a l.length c).ownBlock=some k->B+1<=k)
 (L:w9.ownsRow (B+1) 92 3 (.slice (some ⟨g,0,none⟩) (l.length+1) cap) (l.length+1) (xs++[.int .i64 t.kind,.int .i64 t.r,.slice s t.len y])) (n:wr.grownBy w9 (Value.slice a l.length c).ownBlock) :
 w9.cell? ⟨B,2,none⟩=some (.slice a l.length c)/\w9.frozen? ⟨B,2,none⟩=false/\Tup wA (w9.setCell ⟨B,2,none⟩ (.slice (some ⟨g,0,none⟩) (l.length+1) cap)) B O r (.slice (some ⟨g,0,none⟩) (l.length+1) cap) (l++[t]):=by
 have u:B<wr.heap.size:=XC j;have z:w9.heap[B]?=some (.cells #[.int .i64 3,.int .i64 r,.slice a l.length c] 92 (0,0)):=(n.block B u (fun e=>by have:=d B e.symm;omega)).trans j
 have f:∀ {x:TT 6} {A:List Value},(Lay.tt 6).In wr (fun g=>¬ O g/\g<wA.heap.size) x A->(Lay.tt 6).In (w9.setCell ⟨B,2,none⟩ (.slice (some ⟨g,0,none⟩) (l.length+1) cap)) (fun g=>¬ O g/\g<wA.heap.size) x A:=fun {x A} h =>
  (Lay.tt 6).keep (fun k o J=>(Xd _ _ _ _ (show k≠B by have:=o.2;omega)).trans (n.block k J (fun e=>by have:=d k e.symm;have:=o.2;omega))) (fun _ o _=>o) h
 refine⟨Qa z 2 _ Z,Qf z 2,?_,K,?_,xs++[.int .i64 t.kind,.int .i64 t.r,.slice s t.len y],?_,?_⟩
 ·refine⟨n.os.trans b.os,n.tape.trans b.tape,n.output.trans b.output,by have:=n.size;have:=b.size;simp;omega,fun k o=>?_⟩
  have M:=b.size;rw[Xd _ _ _ _ (show k≠B by omega),n.block k (by omega) (fun e=>by have:=d k e.symm;omega)]
  exact b.block k o
 ·show (w9.setCell ⟨B,2,none⟩ _).heap[B]?=_;rw[Qo z];rfl
 ·obtain⟨G,I⟩:=L
  rw[List.length_append]
  refine⟨G,?_⟩
  rcases I with ⟨e,_⟩|⟨Q,E,D,e,H,N,q⟩
  ·cases e
  ·cases e
   exact Or.inr ⟨g,cap,D,Z,H,(Xd _ _ _ _ (show g≠B by omega)).trans N,q⟩
 ·intro i x h;rw[List.getElem?_append] at h
  split at h
  ·rename_i P
   rw[List.drop_append_of_le_length (by omega),List.take_append_of_le_length (by simp;omega)]
   exact f (m i x h)
  ·rename_i P
   have v:=(Zi h).1;have C:i=l.length:=by simp at v;omega
   subst C;rw[Nat.sub_self] at h
   have h:t=x:=by simpa using h
   subst h;rw[List.drop_append,List.drop_of_length_le (by omega),p,Nat.sub_self,List.drop_zero,List.nil_append]
   exact f ⟨s,y,Z,F,w⟩
end
theorem KTo.same {s:JSt}(h:KAt wc b O s) (hb:Below w.heap.size w wc) (c:∀ k,O k->k<w.heap.size):KTo w wc b O s :=
 ⟨O,h,⟨hb.os,hb.tape,hb.output,hb.size,fun k a _=>hb.block k a,fun k a=>.inl a⟩,fun k a=>Zl (c k a) hb.size⟩
theorem KTo.after {d:World}{s:JSt}(h:KTo d wc b O s) (hb:Below w.heap.size w d):KTo w wc b O s:=by
 obtain⟨f,j,a,i⟩:=h
 exact⟨f,j,⟨a.os.trans hb.os,a.tape.trans hb.tape,a.output.trans hb.output,Zt hb.size a.size,fun k c g=>(a.block k (Zl c hb.size) g).trans (hb.block k c),fun k c=>(a.own k c).imp id fun e=>Zt hb.size e⟩,i⟩
theorem KTo.then {f:World}{i:Nat->Prop}{s:JSt}(h:KTo f wc b i s) (a:QN O i w f) (n:∀ k,O k->k<w.heap.size):KTo w wc b O s:=by
 obtain⟨j,l,c,m⟩:=h
 refine⟨j,l,⟨c.os.trans a.os,c.tape.trans a.tape,c.output.trans a.output,Zt a.size c.size,fun k d g=>(c.block k (Zl d a.size) (fun e=>?_)).trans (a.block k d g),fun k d=>?_⟩,m⟩
 ·rcases a.own k e with e | e
  ·exact g e
  ·omega
 ·rcases c.own k d with e | e
  ·exact a.own k e
  ·exact .inr (Zt a.size e)
structure InS (w wc:World) (b X:Nat) (O Q:Nat->Prop) (s:JSt) (x:Qz) (rg ag:Option Addr) (rc ac:Nat):Prop where
 known:KAt wc b O s
 box:wc.heap[X]?=some (.cells #[.int .i64 x.op,.int .i64 x.a,.int .i64 x.b,.int .i64 x.c,.int .i64 x.k,.int .i64 x.n,.slice rg x.regs.length rc,.slice ag x.args.length ac] 65 (0,0))
 regs:intsL.In wc Q x.regs [.slice rg x.regs.length rc]
 args:intsL.In wc Q x.args [.slice ag x.args.length ac]
 bel:Below w.heap.size w wc
 own:∀ k,O k->k<w.heap.size
 far:w.heap.size<=X
theorem InS.below {Q:Nat->Prop}{s:JSt}{x:Qz}{a c:Option Addr}{w9:World}(h:InS w wc b X O Q s x a c rc ac) (k:Below wc.heap.size wc w9):InS w w9 b X O Q s x a c rc ac :=
 ⟨h.known.below k,(k.block X (XC h.box)).trans h.box,Ya h.regs k,Ya h.args k,h.bel.trans (k.mono h.bel.size),h.own,h.far⟩
theorem InS.lt {Q:Nat->Prop}{s:JSt}{x:Qz}{c d:Option Addr}(h:InS w wc b X O Q s x c d rc ac):∀ k,O k->k<wc.heap.size:=fun k a=>Zl (h.own k a) h.bel.size
theorem InS.cells {Q:Nat->Prop}{s:JSt}{x:Qz}{d e:Option Addr}(h:InS w wc b X O Q s x d e rc ac):wc.cell? ⟨X,0,none⟩=some (.int .i64 x.op)/\wc.cell? ⟨X,1,none⟩=some (.int .i64 x.a)/\wc.cell? ⟨X,2,none⟩=some (.int .i64 x.b)/\wc.cell? ⟨X,3,none⟩=some (.int .i64 x.c)/\wc.cell? ⟨X,4,none⟩=some (.int .i64 x.k)/\wc.cell? ⟨X,5,none⟩=some (.int .i64 x.n)/\wc.cell? ⟨X,6,none⟩=some (.slice d x.regs.length rc)/\wc.cell? ⟨X,7,none⟩=some (.slice e x.args.length ac) :=
 ⟨Qa h.box 0 _ Z,Qa h.box 1 _ Z,Qa h.box 2 _ Z,Qa h.box 3 _ Z,Qa h.box 4 _ Z,Qa h.box 5 _ Z,Qa h.box 6 _ Z,Qa h.box 7 _ Z⟩
structure RfS (w wr:World) (X R:Nat) (pm:Option Addr) (N cm:Nat):Prop where
 bel:Below w.heap.size w wr
 x:Blk wr X #[.slice pm N cm] 24
 r:Blk wr R #[.int .i64 0,.int .i64 0] 32
theorem RfS.below (h:RfS w wr X R pm N cm) (k:Below wr.heap.size wr w'):RfS w w' X R pm N cm :=
 ⟨h.bel.trans (k.mono h.bel.size),(k.block X (XC h.x)).trans h.x,(k.block R (XC h.r)).trans h.r⟩
theorem RfS.step (h:RfS w wr X R pm N cm) (k:QN O O' wr w') (b:¬ O X) (a:¬ O R) (c:∀ k,O k->w.heap.size<=k):RfS w w' X R pm N cm :=
 ⟨h.bel.trans (k.below h.bel.size c),(k.block X (XC h.x) b).trans h.x,(k.block R (XC h.r) a).trans h.r⟩
structure RfI (w wr:World) (X R Bx B:Nat) (pm:Option Addr) (N cm:Nat) (cs:Array Value) (s:JSt) (O:Nat->Prop):Prop where
 top:RfS w wr X R pm N cm
 box:Blk wr Bx cs 73
 known:KAt wr B O s
 own:∀ k,O k->w.heap.size<=k/\k<wr.heap.size
 nx:¬ O X
 nr:¬ O R
 nb:¬ O Bx
theorem RfI.to {f:Nat}{cs:Array Value}{s g:JSt}(h:RfI w wr X R f B pm N cm cs s O) (k:KTo wr w' B O g):∃ O',RfI w w' X R f B pm N cm cs g O':=by
 obtain⟨O',l,d,j⟩:=k
 have a:∀ {b:Nat},¬ O b->b<wr.heap.size->¬ O' b:=fun {b} i n e=>by rcases d.own b e with e | e;exact i e;omega
 have m:=h.top.bel.size;exact⟨O',h.top.step d h.nx h.nr (fun k c=>(h.own k c).1),(d.block f (XC h.box) h.nb).trans h.box,l,fun k c=>⟨by rcases d.own k c with e | e;exact(h.own k e).1;omega,j k c⟩,a h.nx (XC h.top.x),a h.nr (XC h.top.r),a h.nb (XC h.box)⟩
theorem Qie {i:Nat}{m:List (Qe i)}(l:(Qam i).In w All m [.slice pm m.length cm]) (h:QL m\/3000<fu) :
 Calls prog 8 #[.agg #[.slice pm m.length cm],.int .i64 fu] w fun e w'=>e=.returned (.bool true)/\Below w.heap.size w w':=by
 have c:=Qb ((Bxs.start w).new #[.slice pm m.length cm] 24);have b:Hid (∀ d,Below w.heap.size w d->Calls prog 7 #[.agg #[.slice pm m.length cm]] d fun e w'=>e=.returned (.bool (bdec (QL m)))/\Below d.heap.size d w'):=fun d p=>Qa2 i m pm cm d (Ya l p);clear l;have H:=Qb h;clear h;go_enter func8,ntmps8
 go_upto_region 1 with fail
 generalize w.alloc (.cells #[.slice pm m.length cm] 24)=k at c |-;generalize w.heap.size=X at c |-;have q:k.cell? ⟨X,0,none⟩=some (.slice pm m.length cm):=c.out.cell (a:=[]) 0 _ Z;by_cases f:QL m
 ·have b:=Qb (b.out k c.out.bel);rw[show bdec (QL m)=true from QB f] at b
  clear f;go_wp2_with fail
  refine b.out.mono ?_;rintro n o ⟨rfl,g⟩;have j:=Qb (c.out.below g);clear g;go_wp2
  go_ret;exact⟨Z,j.out.bel⟩
 ·have b:=Qb (b.out k c.out.bel);rw[show bdec (QL m)=false from Qx f] at b
  have r:decide (fu>3000)=true:=Xt (by have:=H.out;rcases this with e | e;exact absurd e f;exact e);clear f;go_wp2_with fail
  refine b.out.mono ?_;rintro n o ⟨rfl,g⟩;have j:=Qb (c.out.below g);clear g;go_wp2
  go_ret;exact⟨Z,j.out.bel⟩
theorem Qkd {d:Nat}{m:List (Qe d)}(g:(Qam d).In w All m [.slice pm m.length cm]) (h:¬ (QL m\/3000<fu)) :
 Calls prog 8 #[.agg #[.slice pm m.length cm],.int .i64 fu] w fun e w'=>e=.returned (.bool false)/\Below w.heap.size w w':=by
 have c:=Qb ((Bxs.start w).new #[.slice pm m.length cm] 24);have b:=Qa2 d m pm cm _ (Ya g (QY w (.cells #[.slice pm m.length cm] 24)));rw[show bdec (QL m)=false from Qx (fun e=>h (.inl e))] at b
 have b:Hid (Calls prog 7 #[.agg #[.slice pm m.length cm]] (w.alloc (.cells #[.slice pm m.length cm] 24)) fun e w'=>e=.returned (.bool false)/\Below (w.alloc (.cells #[.slice pm m.length cm] 24)).heap.size (w.alloc (.cells #[.slice pm m.length cm] 24)) w'):=b;have o:decide (fu>3000)=false:=Xu (fun e=>h (.inr e));clear g h;go_enter func8,ntmps8
 go_upto_region 1 with fail
 generalize w.alloc (.cells #[.slice pm m.length cm] 24)=j at c b |-;generalize w.heap.size=X at c |-;have n:j.cell? ⟨X,0,none⟩=some (.slice pm m.length cm):=c.out.cell (a:=[]) 0 _ Z;go_wp2_with fail
 refine b.out.mono ?_;rintro k l ⟨rfl,f⟩;have i:=Qb (c.out.below f);clear f;go_wp2
 go_ret;exact⟨Z,i.out.bel⟩
theorem QlX (c a:Int) (w:World):(Instr.field 32 (.agg #[.int .i64 c,.int .i64 a]) 0).run prog w=.ok (.int .i64 c) w:=by
 have b:=underlying32
 first
  | rfl
  | simp[Instr.run,go_sem,b]
def QlS (St:Prop) (Fin:IM->Prop) (w:World) (e:Ending) (w':World):Prop:=Below w.heap.size w w'/\((St/\∃ c a,c≠0/\e=.returned (Qh3 c a))\/∃ A v,Fin A/\Qlw w.heap.size A v w'/\e=.returned (.tuple #[v,Z8 0 0]))
theorem Qks (a:Int):∃ k:Nat,k<50/\wrap64 ((IntKind.u64.wrap a).tmod 50)=(k:Int):=by
 have b:0<=IntKind.u64.wrap a:=by
  simp only[IntKind.wrap,IntKind.signed,IntKind.bits,Bool.false_and]
  rw[Xr (by decide)]
  omega
 rw[Int.tmod_eq_emod_of_nonneg b]
 refine⟨(IntKind.u64.wrap a%50).toNat,by omega,?_⟩
 have c:0<=IntKind.u64.wrap a%50/\IntKind.u64.wrap a%50<50:=by omega
 generalize IntKind.u64.wrap a%50=z at c |-;unfold wrap64;omega
theorem Qhi {dd:Nat}{m:List (Qe dd)}{mo:Int}{St:Nat->Nat->Prop}{Fin:Nat->Nat->IM->Prop}(hM:(Qam dd).In w All m [.slice pm m.length cm]) (hI:intsL.In w All inp [.slice pi inp.length ci]) (hn:inp.length<1152921504606846976)
 (HL:∀ f p A,Fin f p A->A.out.length<=100000/\A.back.length<=100000)
 (H1:∀ f f' p p' A,f<=f'->p<=p'->Fin f p A->A.fin≠6->A.fin≠7->¬ St f' p'/\∀ B,Fin f' p' B->B.fin=A.fin/\B.back=A.back/\B.out=A.out/\B.fuel=A.fuel)
 (H2:∀ f f' p p' A,f<=f'->p<=p'->Fin f p A->(A.fin=6\/A.fin=7)->∀ B,Fin f' p' B->A.fuel<=B.fuel/\∃ l,B.out=A.out++l)
 (KR:¬ QL m->inp.length<=200->∀ fN pN:Nat,fN<=20000->pN<=64->∀ wx,(Qam dd).In wx All m [.slice pm m.length cm]->intsL.In wx All inp [.slice pi inp.length ci]->Calls prog 21 #[.agg #[.slice pm m.length cm],.slice pi inp.length ci,.int .i64 (fN:Int),.int .i64 (pN:Int)] wx fun e w'=>QlS (St fN pN) (Fin fN pN) wx e w') :
 Calls prog 5 #[.agg #[.slice pm m.length cm],.slice pi inp.length ci,.int .i64 fu,.int .i64 pg,.int .i64 mo] w fun e w'=>e=.returned (.bool true)/\Below w.heap.size w w':=by
 have B1:=Qb ((Bxs.start w).new #[.slice pm m.length cm] 24);have HM:=Qb hM;have HI:=Qb hI;have af:=Qb KR;have ac:=Qb HL;have ai:=Qb H1;have ak:=Qb H2;have CS:Hid (∀ wx,Calls prog 12 #[.slice pi inp.length ci,.int .i64 fu,.int .i64 pg] wx fun e w'=>e=.returned (QaP inp.length fu pg)/\Below wx.heap.size wx w'):=fun wx=>QcT wx pi inp.length ci fu pg hn;clear hM hI hn KR HL H1 H2;go_enter func5,ntmps5
 go_upto_region 1 with fail
 generalize w.alloc (.cells #[.slice pm m.length cm] 24)=w1 at B1 |-;generalize w.heap.size=X at B1 |-;go_wp2_with fail
 refine(QcX w1).mono ?_
 rintro V w2 ⟨rfl,b2⟩;have R:=Qb (B1.out.below b2);clear b2 B1;have z:w2.cell? ⟨X,0,none⟩=some (.slice pm m.length cm):=R.out.cell (a:=[]) 0 _ Z;by_cases hl:QL m\/3000<fu
 ·have CL:=Qb (Qie (Ya HM.out R.out.bel) hl);clear hl;go_wp2_with fail
  refine CL.out.mono ?_;rintro e3 w3 ⟨rfl,b3⟩;have T:=Qb (R.out.below b3);clear b3;go_wp2
  go_ret;exact⟨Z,T.out.bel⟩
 have CL:=Qb (Qkd (Ya HM.out R.out.bel) hl);have HG:=Qb hl;clear hl;go_wp2_with fail
 refine CL.out.mono ?_;rintro e3 w3 ⟨rfl,b3⟩;have T:=Qb (R.out.below b3);clear b3 R CL z;have z:w3.cell? ⟨X,0,none⟩=some (.slice pm m.length cm):=T.out.cell (a:=[]) 0 _ Z;by_cases hs:200<inp.length\/fu<0\/20000<fu\/pg<0\/64<pg
 ·rw[Qec hs] at CS
  clear hs;go_wp2_with fail
  refine(CS.out w3).mono ?_
  rintro e4 w4 ⟨rfl,b4⟩;have C:=Qb (T.out.below b4);clear b4;have ad:=QlX;simp only[Z8]
  go_wp2
  go_ret;exact⟨Z,C.out.bel⟩
 rw[Qd8 hs] at CS
 have HS:=Qb hs;clear hs;go_wp2_with fail
 refine(CS.out w3).mono ?_
 rintro e4 w4 ⟨rfl,b4⟩;have C:=Qb (T.out.below b4);clear b4 T z;have ad:=QlX;simp only[Z8]
 go_upto_region 6 with fail
 obtain⟨g,am,hk⟩:=Qks mo
 generalize wrap64 ((IntKind.u64.wrap mo).tmod 50)=K at hk |-;subst hk;obtain⟨fN,rfl⟩:∃ k:Nat,fu=(k:Int):=⟨fu.toNat,by have:=HS.out;omega⟩
 obtain⟨pN,rfl⟩:∃ k:Nat,pg=(k:Int):=⟨pg.toNat,by have:=HS.out;omega⟩
 have ar:fN<=3000:=by have:=HG.out;omega
 have aj:pN<=64:=by have:=HS.out;omega
 have CR:=Qb (af.out (fun e=>HG.out (.inl e)) (by have:=HS.out;omega) fN pN (by omega) aj w4 (Ya HM.out C.out.bel) (Ya HI.out C.out.bel));have z:w4.cell? ⟨X,0,none⟩=some (.slice pm m.length cm):=C.out.cell (a:=[]) 0 _ Z;go_wp2_with fail
 refine CR.out.mono ?_;rintro e5 w5 ⟨b5,hE⟩;rcases hE with ⟨-,c,a,hc,rfl⟩|⟨A,v,hA,⟨vb,vo,rfl,H,M⟩,rfl⟩
 ·have d0:(c != 0)=true:=bne_iff_ne.2 hc;have B5:=Qb (C.out.below b5);clear b5 CR z C hc;simp only[Qh3,Z8]
  go_wp2
  go_ret;exact⟨Z,((B5.out.new _ _).new _ _).bel⟩
 obtain⟨ab,cb,rfl,-⟩:=id H
 obtain⟨ao,U,rfl,-⟩:=id M
 have r:=((C.out.below b5).new #[.int .i64 A.fin,.slice ab A.back.length cb,.slice ao A.out.length U,.int .i64 A.fuel] 44).new #[.int .i64 0,.int .i64 0] 32;rw[World.size_alloc] at r
 have r:=Qb r;have o:=Qb (H.lg.2);have h:=Qb (M.lg.2);have HA:=Qb hA;clear b5 H M hA CR z C;go_upto_region 7 with fail
 have b6:=Qb (Qai w5 (.cells #[.int .i64 A.fin,.slice ab A.back.length cb,.slice ao A.out.length U,.int .i64 A.fuel] 44) (.cells #[.int .i64 0,.int .i64 0] 32));have o:=Qb (o.out.below b6.out);have h:=Qb (h.out.below b6.out);clear b6;generalize (w5.alloc (.cells #[.int .i64 A.fin,.slice ab A.back.length cb,.slice ao A.out.length U,.int .i64 A.fuel] 44)).alloc (.cells #[.int .i64 0,.int .i64 0] 32)=w6 at r o h |-;generalize w5.heap.size+1=F1 at r |-;generalize w5.heap.size=O1 at r |-;have f0:w6.cell? ⟨F1,0,none⟩=some (.int .i64 0):=r.out.cell (a:=[]) 0 _ Z;have z:w6.cell? ⟨X,0,none⟩=some (.slice pm m.length cm):=r.out.cell (a:=[_,_]) 0 _ Z
 have y:Hid (Calls prog 21 #[.agg #[.slice pm m.length cm],.slice pi inp.length ci,.int .i64 ((fN:Int)+(g:Int)),.int .i64 (min ((pN:Int)+(g:Int)) 64)] w6 fun e w'=>QlS (St (fN+g) (min (pN+g) 64)) (Fin (fN+g) (min (pN+g) 64)) w6 e w'):=by
  have e1:((fN+g:Nat):Int)=(fN:Int)+(g:Int):=by omega
  have V:((min (pN+g) 64:Nat):Int)=min ((pN:Int)+(g:Int)) 64:=by omega
  have:=af.out (fun e=>HG.out (.inl e)) (by have:=HS.out;omega) (fN+g) (min (pN+g) 64) (by omega) (by omega) w6 (Ya HM.out r.out.bel) (Ya HI.out r.out.bel)
  rw[e1,V] at this
  exact this
 have D:=Qb (ai.out fN (fN+g) pN (min (pN+g) 64) A (by omega) (by omega) HA.out);have L:=Qb (ak.out fN (fN+g) pN (min (pN+g) 64) A (by omega) (by omega) HA.out);generalize fN+g=f2 at y D L;generalize min (pN+g) 64=p2 at y D L;go_wp2_with fail
 refine y.out.mono ?_;rintro e7 J ⟨S,hE⟩;rcases hE with ⟨W,c,a,hc,rfl⟩|⟨B,v,hB,⟨vb,vo,rfl,H,M⟩,rfl⟩
 ·have d0:(c != 0)=true:=bne_iff_ne.2 hc
  have j:A.fin=7\/A.fin=6:=by
   by_cases O:A.fin=6
   ·exact .inr O
   by_cases P:A.fin=7
   ·exact .inl P
   exact absurd W (D.out O P).1
  have al:=Qb j;have b:=((r.out.below S).new #[.int .i64 0,.slice none 0 0,.slice none 0 0,.int .i64 0] 44).new #[.int .i64 c,.int .i64 a] 32;rw[World.size_alloc] at b
  have b:=Qb b;clear S y z f0 hc W j r;simp only[Qh3,Z8]
  go_upto_region 10 with fail
  generalize (J.alloc (.cells #[.int .i64 0,.slice none 0 0,.slice none 0 0,.int .i64 0] 44)).alloc (.cells #[.int .i64 c,.int .i64 a] 32)=q at b |-;generalize J.heap.size+1=F2 at b |-;generalize J.heap.size=O2 at b |-;have g0:q.cell? ⟨F2,0,none⟩=some (.int .i64 c):=b.out.cell (a:=[]) 0 _ Z;have Q:q.cell? ⟨O1,0,none⟩=some (.int .i64 A.fin):=b.out.cell (a:=[_,_,_]) 0 _ Z;rcases al.out with x | x
  ·rw[x] at Q
   clear x;go_wp2
   go_ret;exact⟨Z,b.out.bel⟩
  ·rw[x] at Q
   clear x;go_wp2
   go_ret;exact⟨Z,b.out.bel⟩
 obtain⟨bb,u,rfl,-⟩:=id H
 obtain⟨N,i,rfl,F,-⟩:=id M
 have ae:=H.lg.2;have ah:=M.lg.2;have ag:=ac.out _ _ _ HA.out;have aa:=ac.out _ _ _ hB;have b:=((r.out.below S).new #[.int .i64 B.fin,.slice bb B.back.length u,.slice N B.out.length i,.int .i64 B.fuel] 44).new #[.int .i64 0,.int .i64 0] 32;rw[World.size_alloc] at b
 have b:=Qb b;have b8:=Qai J (.cells #[.int .i64 B.fin,.slice bb B.back.length u,.slice N B.out.length i,.int .i64 B.fuel] 44) (.cells #[.int .i64 0,.int .i64 0] 32);have o:=Qb ((o.out.below S).below b8);have h:=Qb ((h.out.below S).below b8);have G:=Qb (ae.below b8);have E:=Qb (ah.below b8);have HB:=Qb hB;have HN:=Qb (Xh ag (Xh aa F));clear S b8 H M ae ah hB F ag aa y f0 z r;go_upto_region 10 with fail
 generalize (J.alloc (.cells #[.int .i64 B.fin,.slice bb B.back.length u,.slice N B.out.length i,.int .i64 B.fuel] 44)).alloc (.cells #[.int .i64 0,.int .i64 0] 32)=q at b o h G E |-;generalize J.heap.size+1=F2 at b |-;generalize J.heap.size=O2 at b |-;have g0:q.cell? ⟨F2,0,none⟩=some (.int .i64 0):=b.out.cell (a:=[]) 0 _ Z;have Q:q.cell? ⟨O1,0,none⟩=some (.int .i64 A.fin):=b.out.cell (a:=[_,_,_]) 0 _ Z;have o1:q.cell? ⟨O1,1,none⟩=some (.slice ab A.back.length cb):=b.out.cell (a:=[_,_,_]) 1 _ Z;have o2:q.cell? ⟨O1,2,none⟩=some (.slice ao A.out.length U):=b.out.cell (a:=[_,_,_]) 2 _ Z;have o3:q.cell? ⟨O1,3,none⟩=some (.int .i64 A.fuel):=b.out.cell (a:=[_,_,_]) 3 _ Z;have p0:q.cell? ⟨O2,0,none⟩=some (.int .i64 B.fin):=b.out.cell (a:=[_]) 0 _ Z;have p1:q.cell? ⟨O2,1,none⟩=some (.slice bb B.back.length u):=b.out.cell (a:=[_]) 1 _ Z;have p2:q.cell? ⟨O2,2,none⟩=some (.slice N B.out.length i):=b.out.cell (a:=[_]) 2 _ Z;have p3:q.cell? ⟨O2,3,none⟩=some (.int .i64 B.fuel):=b.out.cell (a:=[_]) 3 _ Z;by_cases j:A.fin=6\/A.fin=7
 ·obtain⟨I,l,s⟩:=L.out j B HB.out
  have t:A.out.length<=B.out.length:=by rw[s,List.length_append];omega
  have hcut:Qb9 q N A.out:=by
   have:=E.out.take A.out.length
   rwa [s,List.take_left'] at this
   rfl
  have CQ:Hid (∀ n,Calls prog 25 #[.slice ao A.out.length U,.slice N A.out.length i] (q.drewN n) fun e w'=>e=.returned (.bool true)/\∃ m,w'=(q.drewN n).drewN m):=fun n=>QcO Z HN.out.1.1 (h.out.drewN n) (hcut.drewN n);have ap:A.out.length<=i:=Zt t HN.out.2.2;have d1:decide ((A.out.length:Int)<=(B.out.length:Int))=true:=Xt (by omega);have d2:decide ((A.fuel:Int)<=(B.fuel:Int))=true:=Xt (by omega);have d3:decide (A.out.length<=B.out.length)=true:=Xt t;have d4:decide (A.fuel<=B.fuel)=true:=Xt I;have au:(A.out.length:Int)<=(i:Int):=by omega
  have aq:(0:Int)<=(A.out.length:Int):=by omega
  have an:=Qb I;clear s hcut I t;rcases j with x | x
  ·rw[x] at Q
   clear x;go_upto_region 14 with fail
   go_quiet ((go_at_call 25;exact Calls.quiet_of (CQ.out _)))
   go_wp2
   go_ret;exact⟨Z,(b.out.drewN _).bel⟩
  ·rw[x] at Q
   clear x;go_upto_region 14 with fail
   go_quiet ((go_at_call 25;exact Calls.quiet_of (CQ.out _)))
   go_wp2
   go_ret;exact⟨Z,(b.out.drewN _).bel⟩
 ·have O:¬ A.fin=6:=fun e=>j (.inl e);have P:¬ A.fin=7:=fun e=>j (.inr e);obtain⟨e1,V,e3,e4⟩:=(D.out O P).2 B HB.out
  rw[e1] at p0
  rw[V] at p1 G
  rw[e3] at p2 E
  rw[e4] at p3
  have d6:(A.fin != 6)=true:=bne_iff_ne.2 O;have d7:(A.fin != 7)=true:=bne_iff_ne.2 P;have CQ:=Qb (Qdc (fin:=A.fin) (fuel:=(A.fuel:Int)) (c:=cb) (c':=u) (d:=U) (d':=i) HN.out.1.2 HN.out.1.1 o.out G.out h.out E.out);clear j O P e1 V e3 e4;go_wp2_with fail
  refine CQ.out.mono ?_;rintro e9 w9 ⟨rfl,b9⟩;have B9:=Qb (b.out.below b9);clear b9 CQ Q o1 o2 o3 p0 p1 p2 p3 g0;go_wp2
  go_ret;exact⟨Z,B9.out.bel⟩
theorem QfV {m:List (Qe n)}{g:Int}(f:(Qam n).In w All m [.slice pm m.length cm]) (d:intsL.In w All inp [.slice pi inp.length ci]) (hn:inp.length<1152921504606846976) (fm:(Qr m).1≠0) :
 Calls prog 5 #[.agg #[.slice pm m.length cm],.slice pi inp.length ci,.int .i64 fu,.int .i64 pg,.int .i64 g] w fun e w'=>e=.returned (.bool true)/\Below w.heap.size w w':=by
 refine Qhi (St:=fun _ _=>True) (Fin:=fun _ _ _=>False) f d hn (fun _ _ _ h=>h.elim) (fun _ _ _ _ _ _ _ h=>h.elim) (fun _ _ _ _ _ _ _ h=>h.elim) ?_;intro b r l q p k j i o;exact(Qka (c:=(Qr m).1) (a:=(Qr m).2) i (Qbp b) hn (.inl ⟨fm,Z⟩)).mono fun e w' h=>⟨h.2,.inl ⟨Y,_,_,fm,h.1⟩⟩
theorem Qg3 {m:List (Qe n)}{R:Int}(s:(Qam n).In w All m [.slice pm m.length cm]) (q:intsL.In w All inp [.slice pi inp.length ci]) (hn:inp.length<1152921504606846976) :
 Calls prog 5 #[.agg #[.slice pm m.length cm],.slice pi inp.length ci,.int .i64 fu,.int .i64 pg,.int .i64 R] w fun e w'=>e=.returned (.bool true)/\Below w.heap.size w w':=by
 by_cases I:(Qr m).1=0
 ·have K:m.length=(m.map (Qe.at 5)).length:=(XN _).symm;have d:(Qam 6).In w All (m.map (Qe.at 5)) [.slice pm (m.map (Qe.at 5)).length cm]:=by rw[<-K];exact QkM (Qkl I) s
  rw[K]
  generalize m.map (Qe.at 5)=u at d |-;by_cases t:(Qr u).1=0
  rotate_left
  ·exact QfV d q hn t
  have E:=Qjo d;have j:=QgL q;refine Qhi (St:=fun f p=>∃ N k,IM.steps u aOp f k (IM.start inp p)=some N/\N.done=false/\IM.step u aOp f N=none) (Fin:=fun f p A=>∃ k,k<=30000/\inp.length<=200/\p<=64/\IM.steps u aOp f k (IM.start inp p)=some A/\A.done=true) d q hn ?_ ?_ ?_ ?_
  ·rintro f p A ⟨k,r,i,g,o,-⟩;have J:=Qbx t E (fun k a b c h S T=>QfG S T h) (QeA t ⟨by omega,j⟩ (show p<=1000 by omega)) k r o
   have:=J.out
   exact⟨by omega,by omega⟩
  ·rintro f M p p' A l g ⟨k,r,i,G,o,z⟩ W h7;obtain⟨q1,Q⟩:=Qg4 l g o z W h7
   exact⟨fun ⟨N,k,y,D,x⟩=>q1 N k y D x,fun B ⟨k,_,_,_,C,F⟩=>Q B k C F⟩
  ·rintro f M p p' A l g ⟨k,r,i,G,o,z⟩ H B ⟨X,_,_,_,C,F⟩;exact Qhd l g o z H B X C F
  ·intro P i fN pN l g wx h1 V;refine(QhZ h1 (Qbp P) V t i l g).mono fun e w' h=>⟨h.1,?_⟩
   rcases h.2 with ⟨L,⟨k,N,-,y,D,x,-⟩,rfl⟩|⟨k,M',r,s,U,v,O,rfl⟩
   ·exact .inl ⟨⟨N,k,y,D,x⟩,20,L,by decide,Z⟩
   ·exact .inr ⟨M',v,⟨k,by omega,i,g,s,U⟩,O,Z⟩
 ·exact QfV s q hn I
end Go.Proofs.YtofjjohefamljafGreat
