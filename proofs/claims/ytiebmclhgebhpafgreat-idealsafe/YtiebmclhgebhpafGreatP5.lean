import Derived.Test.YtiebmclhgebhpafGreatP4
import Derived.Deep.Upon
import Derived.SizedLaws
set_option maxHeartbeats 16000000
set_option maxRecDepth 100000
namespace Go.Proofs.YtiebmclhgebhpafGreat
open Go.ChangeShapes Go.WideShapes Go.ChangeAt Go.RowKit _root_.Go.Proofs.Tryz
set_option linter.unusedSimpArgs false
set_option linter.unusedVariables false
variable {w w' w6 w2 wc wr w1:World}{n b c X k m i B rc ac g cm N j fi bi bh R f q id cap most na ca fm d x fl cR rl al fc fd cA bl pages o ci lm cL fe:Nat}{O O' Q2 OO:Nat→Prop}{a p ag pm pa pR pA ra pi aa fp fq:Option Addr}{v u:Value}{Q:Exit→Act→World→Prop}{l inp:List Int}{t bt e:TypeId}{xa xc xb xk fr words xop xn:Int}{P:Program}{cs xs ds:List Value}{bs:List Bool}{ops:Array Oper}
abbrev Tg:=Nat->Nat
def mk (s:Nat) (w:World) (z:Tg):Tg:=fun x=>if x<w.heap.size then z x else s
def RT (s s':World × Tg):Prop:=Below s.1.heap.size s.1 s'.1/\∀ x,x<s.1.heap.size->s'.2 x=s.2 x
theorem RT.mk {s:Nat}{z:Tg}(b:Below w.heap.size w w'):RT (w,z) (w',mk s w z):=⟨b,fun x a=>by simp only[Proofs.YtiebmclhgebhpafGreat.mk];rw[Xs a]⟩
theorem RT.refl (s:World × Tg):RT s s:=⟨Zr,fun _ _=>rfl⟩
theorem Qd9 {s:Nat}{z:Tg}(h:w.heap.size<=x):mk s w z x=s:=by simp only[mk];rw[Xr (by omega)]
def H33 (lo pages:Nat) (v:Value) (s:World × Tg):Prop:=∃ bm,v=Pv (bm+1) 0/\HIn s.1 (bm+1) (fun x=>x=bm\/x=bm+1) (Qc.new pages) ⟨bm,.map [],fun _=>0,fun _ _=>False⟩/\s.2 bm=33/\s.2 (bm+1)=33/\lo<=bm
def M35 (lo:Nat) (m:List (MFunc 6)) (v:Value) (s:World × Tg):Prop:=∃ a c,v=.agg #[.slice a m.length c]/\(Qar 6).In s.1 (fun x=>x<s.1.heap.size/\s.2 x=35) m [.slice a m.length c]
def I37 (lo:Nat) (l:List Int) (v:Value) (s:World × Tg):Prop:=∃ a c,v=.slice a l.length c/\l.length<=c/\s.1.ownsRow 0 2 1 (.slice a l.length c) l.length (l.map (Value.int .i64))/\∀ x,(Value.slice a l.length c).ownBlock=some x->s.2 x=37
abbrev frm0:Array Value:=#[Iv 0,Iv 0,Iv 0,Iv 0,Nv]
def F40 (lo:Nat) (v:Value) (s:World × Tg):Prop:=∃ c,v=Pv c 0/\Blk s.1 c frm0 100/\lo<=c/\s.2 c=40
def C41 (lo:Nat) (v:Value) (s:World × Tg):Prop:=∃ c r,v=.slice (some ⟨r,0,none⟩) 1 1/\Blk s.1 r #[Pv c 0] 97/\Blk s.1 c frm0 100/\lo<=c/\lo<=r/\s.2 c=40/\s.2 r=41
section
variable {lo pages:Nat}{m:List (MFunc 6)}{l:List Int}{v:Value}{s s':World × Tg}
theorem H33.keep (h:H33 lo pages v s) (r:RT s s'):H33 lo pages v s':=by
 obtain⟨b,d,a,e,f,c⟩:=h
 exact⟨b,d,a.below r.1,(r.2 _ (a.lt _ (.inl Z))).trans e,(r.2 _ (a.lt _ (.inr Z))).trans f,c⟩
theorem M35.keep (h:M35 lo m v s) (r:RT s s'):M35 lo m v s':=by
 obtain⟨a,c,f,e⟩:=h
 exact⟨a,c,f,(Qar 6).keep (fun k d b=>r.1.block k b) (fun k d b=>⟨Zl b r.1.size,(r.2 k b).trans d.2⟩) e⟩
theorem I37.keep (h:I37 lo l v s) (r:RT s s'):I37 lo l v s':=by
 obtain⟨a,c,f,g,d,i⟩:=h
 have e:∀ x,(Value.slice a l.length c).ownBlock=some x->x<s.1.heap.size:=fun x b=>XC (QT d b).choose_spec;exact⟨a,c,f,g,QM d (fun x b=>r.1.block x (e x b)),fun x b=>(r.2 x (e x b)).trans (i x b)⟩
theorem F40.keep (h:F40 lo v s) (r:RT s s'):F40 lo v s':=by
 obtain⟨c,e,a,b,d⟩:=h
 exact⟨c,e,Blk.below a r.1,b,(r.2 c (XC a)).trans d⟩
theorem C41.keep (h:C41 lo v s) (r:RT s s'):C41 lo v s':=by
 obtain⟨c,b,g,a,d,j,i,e,f⟩:=h
 exact⟨c,b,g,Blk.below a r.1,Blk.below d r.1,j,i,(r.2 c (XC d)).trans e,(r.2 b (XC a)).trans f⟩
end
theorem QmG {lo pages:Nat}{m:List (MFunc 6)}{z:Tg}{a r:Nat}(aa:lo<=w.heap.size)
 (o:H33 lo pages (Pv (a+1) 0) (w,z)) (I:M35 lo m (.agg #[.slice pm m.length cm]) (w,z)) (q:I37 lo inp (.slice pi inp.length ci) (w,z)) (E:∀ x∈inp,ZE x)
 (N:Blk w r #[Pv c 0] 97) (K:Blk w c frm0 100) (T:lo<=c) (S:lo<=r) (D:z c=40) (G:z r=41) :
 ∃ g,MAt (w.alloc (.cells #[Pv (a+1) 0,.slice pm m.length cm,.slice pi inp.length ci,Iv most,.slice (some ⟨r,0,none⟩) 1 1,Iv 0,Nv,Nv,Iv 0,.bool false,Iv 0,Iv 0] 52)) w.heap.size most m (IM.start inp pages) 0 0 g/\∀ x,g.A x->lo<=x:=by
 obtain⟨u,e,H,t,v,M⟩:=o
 obtain rfl:a=u:=by simpa using e
 obtain⟨J,F,s,HM⟩:=I
 obtain⟨rfl,rfl⟩:pm=J/\cm=F:=by simpa using s
 obtain⟨J,F,s,d,L,V⟩:=q
 obtain⟨rfl,rfl⟩:pi=J/\ci=F:=by simpa using s
 have B:=Zb w (.cells #[Pv (a+1) 0,.slice pm m.length cm,.slice pi inp.length ci,Iv most,.slice (some ⟨r,0,none⟩) 1 1,Iv 0,Nv,Nv,Iv 0,.bool false,Iv 0,Iv 0] 52);have n:=Qe w #[Pv (a+1) 0,.slice pm m.length cm,.slice pi inp.length ci,Iv most,.slice (some ⟨r,0,none⟩) 1 1,Iv 0,Nv,Nv,Iv 0,.bool false,Iv 0,Iv 0] 52;generalize w.alloc (.cells #[Pv (a+1) 0,.slice pm m.length cm,.slice pi inp.length ci,Iv most,.slice (some ⟨r,0,none⟩) 1 1,Iv 0,Nv,Nv,Iv 0,.bool false,Iv 0,Iv 0] 52)=w' at B n |-;have lc:=XC K;have lr:=XC N;have W:a<w.heap.size:=H.lt _ (.inl Z);have Q:a+1<w.heap.size:=H.lt _ (.inr Z);have t:z a=33:=t;have v:z (a+1)=33:=v;have M:lo<=a:=M
 have P:∀ k,k<w.heap.size->z k≠33->z k≠40->z k≠41->¬ (k=a\/k=a+1\/k=c\/k=r\/k=w.heap.size):=fun k f j p U h=>by
  rcases h with rfl | rfl | rfl | rfl | rfl
  ·exact j t
  ·exact j v
  ·exact p D
  ·exact U G
  ·omega
 have l:¬ (c=a\/c=a+1):=fun h=>by rcases h with rfl | rfl<;>omega
 have C:¬ (r=a\/r=a+1):=fun h=>by rcases h with rfl | rfl<;>omega
 refine⟨⟨a+1,fun x=>x=a\/x=a+1,⟨a,.map [],fun _=>0,fun _ _=>False⟩,fun x=>x=a\/x=a+1\/x=c\/x=r\/x=w.heap.size,pm,cm,pi,ci,.slice (some ⟨r,0,none⟩) 1 1,Nv,Nv,⟨c,Nv⟩,[],0⟩,⟨n,H.below B,?_,?_,d,?_,?_,?_,?_,?_,?_,?_,?_,?_,Xb _⟩,?_⟩
 ·exact(Qar 6).keep (fun k f d=>B.block k d) (fun k f d=>⟨P k d (by have:=f.2;simp only at this;omega) (by have:=f.2;simp only at this;omega) (by have:=f.2;simp only at this;omega),d⟩) HM
 ·refine Ya (Qg4 (O:=Imm _ w.heap.size) L E (fun x b=>?_)) B;have j:=XC (QT L b).choose_spec;have p:z x=37:=V x b;exact⟨P x j (by omega) (by omega) (by omega),j⟩
 ·refine⟨Z,.inr ⟨r,1,_,Z,Xb _,(B.block r lr).trans N,Ze,by unfold maxLen;omega,Z,Z⟩⟩
 ·exact⟨none,0,Z,fun i x b=>by cases b⟩
 ·exact⟨Z,.inl ⟨Z,Z⟩⟩
 ·refine⟨⟨⟨(B.block c lc).trans K,?_⟩,⟨.inr (.inr (.inl Z)),l⟩,fun g R=>by cases R⟩,(fun y X=>by cases X),Y⟩
  exact⟨Z,.inl ⟨Z,Z⟩⟩
 ·exact⟨.inr (.inr (.inr (.inr Z))),fun h=>by rcases h with h | h<;>omega⟩
 ·intro x b
  cases b
  exact⟨.inr (.inr (.inr (.inl Z))),C⟩
 ·intro x b
  cases b
 ·exact fun x b=>b.elim .inl (fun h=>.inr (.inl h))
 ·have:=B.size
  have p:=XC n;rintro x (rfl | rfl | rfl | rfl | rfl)<;>omega
 ·rintro x (rfl | rfl | rfl | rfl | rfl)<;>omega
def Qh3 {α:Type}(A:Lay α) (w w':World) (l:List α) (e:Ending):Prop:=∃ a' c',e=.returned (.slice a' l.length c')/\A.list.In w' (QdN w.heap.size) l [.slice a' l.length c']/\Below w.heap.size w w'
def iv (l:List Int):List Value:=l.map (fun x=>Value.int .i64 x)
theorem Qkk {lo:Nat}(h:w.ownsRow lo e 1 v l.length (iv l)) (hb:∀ x∈l,I64 x):intsL.In w (QdN lo) l [v] :=
 Qag.lay (A:=Lay.int) (e:=e) (xs:=iv l) ⟨h,fun i x a=>by
  have c:Lay.int.size=1:=rfl;rw[c,XL]
  have d:((iv l).drop i).take 1=[Iv x]:=by
   obtain⟨b,e⟩:=Zi a
   unfold iv;rw[<-List.map_drop,List.drop_eq_getElem_cons b]
   simp[e]
  rw[d]
  exact⟨Z,hb x (Zm a)⟩⟩
theorem Qka (h:intsL.In w O l [.slice a m c]):∀ x∈l,I64 x:=by
 intro x b;obtain⟨i,e⟩:=List.mem_iff_getElem?.1 b
 obtain⟨g,o,f,_,_,_,_,d⟩:=Yf h e
 exact d.2
theorem Qkf (h:intsL.In w O l [.slice a m c]) (k:0<l.length) :
 ∃ ad,a=some ad/\ad.block<w.heap.size/\∀ j v,(iv l)[j]?=some v->w.cell? (ad.add j)=some v:=by
 obtain⟨g,o,e,_,d,_⟩:=ZW h k
 refine⟨⟨g,o,none⟩,e,d,fun j v f=>?_⟩
 have b:j<l.length:=by have:=(Zi f).1;simpa[iv] using this
 obtain⟨p,q,i,_,_,n⟩:=ZW h b
 rw[e] at i
 cases i
 rw[show (⟨g,o,none⟩:Addr).add j=⟨g,o+j,none⟩ from by unfold Addr.add;split<;>simp_all,n,<-f]
 simp[iv,List.getD,b]
theorem Qdz (l:List Int):(iv l).length=l.length:=by simp[iv]
theorem Qma (l:List Int):∀ v∈iv l,v.oneCell'=true:=by
 intro v a;obtain⟨x,_,rfl⟩:=List.mem_map.1 a
 rfl
theorem underIs:prog.underlying 76=some (.slice 3):=by kernel_rfl
theorem infoI:(prog.info? 3).map (fun i=>(i.zero,i.size,i.bytes))=some (some (Iv 0),1,8):=by kernel_rfl
theorem infoI1:(prog.info? 3).map (·.size)=some 1:=by kernel_rfl
theorem Qbf (l:List Int) (p:Option Addr) (c:Nat) (w:World) (i:intsL.In w All l [.slice p l.length c]) (t:l.length<=4294967296) :
 Calls prog 231 #[.slice p l.length c] w fun e w'=>Qh3 Lay.int w w' l e:=by
 have s:Hid _:=i;have A:Hid _:=Qka i;clear i;have n:=fun y=>run_make_row' (P:=prog) 76 3 (Iv 0) 8 underIs infoI Z .i64 .i64 l.length (by omega) (by omega) y
 have f:(w.alloc (.cells (madeCells #[Iv 0] l.length) 3)).heap[w.heap.size]?=some (.cells (madeCells #[Iv 0] l.length).toList.toArray 3 (0,0)):=by
  rw[Array.toArray_toList];exact Qe w _ _
 have b:(iv l).length=Nat.min l.length l.length:=by rw[Qdz];exact(Nat.min_self _).symm
 have d:Hid (0<(iv l).length->(some ⟨w.heap.size,0,none⟩:Option Addr)=some ⟨w.heap.size,0,none⟩/\∃ k,p=some k/\∀ j v,(iv l)[j]?=some v->(w.alloc (.cells (madeCells #[Iv 0] l.length) 3)).cell? (k.add j)=some v):=by
  intro r;rw[Qdz] at r
  obtain⟨k,e,o,x⟩:=Qkf s.out r
  exact⟨Z,k,e,fun j v z=>(XU (w:=w) (a:=k.add j) (Below.heap_alloc _ _ _ (by unfold Addr.add;split<;>exact o))).trans (x j v z)⟩
 have g:0+(iv l).length<=(madeCells #[Iv 0] l.length).toList.length:=by rw[Qdz,toList_madeCells_one];simp
 have m:Hid (Below w.heap.size w (w.alloc (.cells (madeCells #[Iv 0] l.length) 3))):=(Below.refl _ w).alloc Ze _;go_enter func231,ntmps231
 go_wp2_with (refine wpList_copy_splice Z (.tmp 7) (.tmp 8) 76 76 Z 3 underIs infoI1 _ _ l.length l.length l.length c Z Z w.heap.size 0 (madeCells #[Iv 0] l.length).toList 3 f (iv l) b d.out g (Qma l) w.heap.size w m.out Ze ?_)
 ·intro w' q h;clear d g m f b
  have R:Hid (Qh3 Lay.int w w' l (.returned (.slice (some ⟨w.heap.size,0,none⟩) l.length l.length))):=by
   have u:splice (madeCells #[Iv 0] l.length).toList 0 (iv l)=iv l:=by
    rw[toList_madeCells_one];simp[splice,Qdz]
   rw[u] at q
   refine⟨_,_,Z,Qkk ⟨by rw[Qdz,XL],Or.inr ⟨w.heap.size,l.length,(iv l).toArray,Z,Ze,q.out,Ze,by unfold maxLen;omega,by simp[Qdz],?_⟩⟩ A.out,h⟩
   rw[XL,<-Qdz l];simp
  clear q h n;go_wp2
  go_ret;exact R.out
theorem Qae {rest:List Oper}{o:Oper}{a:Act}(c:o.guard=none) (s x:Operand) (t:TypeId)
 (f:o.op=.call { callee:=.builtin .append,args:=#[s,x],argTypes:=#[t,t] }) (v d:Value) (i:a.eval s=v) (g:a.eval x=d) (b:(Builtin.append_ #[t,t] o.type #[v,d]).run P w=.ok v w)
 (h:wpList P ops Q rest (a.put o.dst v) w):wpList P ops Q (o::rest) a w:=by
 refine wpList_plain c fun K e=>?_;unfold Oper.wp;simp[execOp,f,resolve,invoke,builtin,i,g,b,Result.andThen]
 exact e _ _ h
abbrev FV:Value:=.func (.func 261) #[] #[]
theorem Qjd (n:Nat) (I:Qej 261 n) (l m:List (TT n)) (a b:Option Addr) (c d:Nat) (w:World) (J:LIn w All l a) (G:LIn w All m b) (aa:l.length<=100000) (v:∀ x∈l,x.count<=100000) :
 Calls prog 260 #[.slice a l.length c,.slice b m.length d,FV] w fun e w'=>Zn e (l=m)/\Below w.heap.size w w':=by
 have IH:Hid (Qej 261 n):=I;have hl:Hid (LIn w All l a):=J;have hm:Hid (LIn w All m b):=G;have T:Hid (∀ x∈l,x.count<=100000):=v;clear I J G v;by_cases k:l.length=m.length
 ·have D:((l.length:Int) != (m.length:Int))=false:=by simp;omega
  have E:Hid (l.length=m.length):=k;clear k;go_enter func260,ntmps260
  go_wp2_with fail
  go_loopw [17] (fun i wr=>∃ q:Nat,q<=l.length/\i=Iv q/\(∀ j,j<q->l[j]?=m[j]?)/\Below w.heap.size w wr) (fun i _=>l.length - (intOf i).toNat)
  case atStart=>exact⟨0,Xb _,Z,fun j hj=>by omega,Zr⟩
  case round =>
   obtain⟨q,hq,rfl,u,H⟩:=hrel
   have A:Hid (∀ j,j<q->l[j]?=m[j]?):=u;have B:Hid (Below w.heap.size w wr):=H;clear u H;by_cases O:q<l.length
   ·have K:l[q]?=some l[q]:=Zg O;have U:q<m.length:=by have:=E.out;omega
    have M:m[q]?=some m[q]:=Zg U;generalize l[q]=x at K;generalize m[q]=y at M;obtain⟨g,o,a',W,rfl,_,Q,d1,d2,hk⟩:=LIn.at (hl.out.below B.out) K
    obtain⟨g',o',X,S,rfl,_,V,d4,d5,z⟩:=LIn.at (hm.out.below B.out) M
    have C:Hid (∀ F,Below wr.heap.size wr F->Calls prog 261 #[Tv x a' W,Tv y X S] F fun e w'=>Zn e (x=y)/\Below F.heap.size F w') :=
     fun F H=>IH.out x y a' X W S _ (hk.below H) (z.below H) (T.out x (Zm K))
    have f:Hid (l[q]?=some x):=K;have s:Hid (m[q]?=some y):=M;have hg:g<wr.heap.size:=Xi wr ⟨g,o+q*3,none⟩ Q;have ad:g'<wr.heap.size:=Xi wr ⟨g',o'+q*3,none⟩ V;clear hk z K M;simp only[Tv] at C
    generalize x.kind=kx at C Q;generalize x.r=rx at C d1;generalize x.len=lx at C d2;generalize y.kind=ky at C V;generalize y.r=ry at C d4;generalize y.len=ly at C d5;have ab:(0:Int)<=q:=by omega
    have P:(q:Int)<l.length:=by omega
    have ac:(q:Int)<m.length:=by omega
    go_wp2_with fail
    have N:Below wr.heap.size wr ((wr.alloc (.cells #[Iv kx,Iv rx,.slice a' lx W] 105)).alloc (.cells #[Iv ky,Iv ry,.slice X ly S] 105)):=((Below.refl _ wr).alloc Ze _).alloc (by simp) _;refine(C.out _ N).mono ?_
    rintro r w5 ⟨⟨p,rfl,L⟩,b5⟩;have HB:Hid (Below w.heap.size w w5):=(B.out.trans (N.mono B.out.size)).trans (b5.mono (Zt B.out.size N.size));clear C b5 B Q d1 d2 V d4 d5 N
    cases p with
    | true =>
      have t:x=y:=L.1 Z
      have A2:Hid (∀ j,j<q+1->l[j]?=m[j]?):=fun j hj=>by
       by_cases e:j=q
       ·subst e;rw[f.out,s.out,t]
       ·exact A.out j (by omega)
      clear L t f s A;go_wp2
      go_roundw
      case rel=>exact⟨q+1,by omega,by go_num,A2.out,HB.out⟩
      case measure=>simp[intOf];omega
    | false =>
      have t:Hid (¬ l=m):=fun h=>by
       have h1:=f.out;rw[h,s.out] at h1
       have:=L.2 (Xn h1).symm
       cases this
      clear L f s A;go_wp2
      go_ret;exact⟨Zn.no t.out,HB.out⟩
   ·have R:Hid (l=m):=by
     have:=E.out
     refine List.ext_getElem? (fun i=>?_);by_cases hi:i<q
     ·exact A.out i hi
     ·rw[Xk (by omega),Xk (by omega)]
    have P:¬ (q:Int)<l.length:=by omega
    clear A;go_wp2
    go_ret;exact⟨Zn.yes R.out,B.out⟩
 ·have D:((l.length:Int) != (m.length:Int))=true:=by simp;omega
  have E:Hid (l.length≠m.length):=k;clear k;go_enter func260,ntmps260
  go_wp2
  go_ret;exact⟨Zn.no (fun h=>E.out (by rw[h])),Zr⟩
theorem same_any:∀ n,Qej 261 n:=by
 intro n
 induction n with
 | zero=>intro t;exact Empty.elim t
 | succ n ih =>
   intro t u a b c d w A y H;have i:∀ x∈t.2.2,x.count<=100000:=fun x L=>by have:=t.count_kid L;omega
   have f:t.2.2.length<=100000:=by have:=t.len_lt_count;rw[t.len_eq] at this;omega
   have C:Hid (∀ g,Below w.heap.size w g->Calls prog 260 #[.slice a t.2.2.length c,.slice b u.2.2.length d,FV] g fun e J=>Zn e (t.2.2=u.2.2)/\Below g.heap.size g J) :=
    fun g D=>Qjd n ih t.2.2 u.2.2 a b c d g (A.below D) (y.below D) f i
   rw[TT.eq_iff]
   simp only[Tv,TT.len_eq] at C |-
   generalize t.2.2.length=p at C |-;generalize u.2.2.length=q at C |-;generalize (t.2.2=u.2.2)=E at C |-;generalize t.kind=k;generalize t.r=r;generalize u.kind=o;generalize u.r=s;clear i f H A y ih t u;by_cases j:k=o
   ·subst j;by_cases m:r=s
    ·subst m;go_enter func261,ntmps261
     go_wp2_with fail
     have l:Below w.heap.size w ((w.alloc (.cells #[Iv k,Iv r,.slice a p c] 105)).alloc (.cells #[Iv k,Iv r,.slice b q d] 105)):=((Below.refl _ w).alloc Ze _).alloc (by simp) _;refine(C.out _ l).mono ?_
     rintro e I ⟨⟨v,rfl,z⟩,F⟩;have B:Hid (Below w.heap.size w I):=l.trans (F.mono l.size);have V:Hid (v=true↔E):=z;clear F C z l
     cases v
     all_goals
      go_wp2
      go_ret
     ·exact⟨Zn.no (fun h=>by have:=V.out.2 h.2.2;cases this),B.out⟩
     ·exact⟨Zn.yes (by have:=V.out;simpa using this),B.out⟩
    ·have K:(r==s)=false:=by simpa using m
     have R:Hid (¬ r=s):=m;clear m;go_enter func261,ntmps261
     go_wp2_with fail
     go_ret;exact⟨Zn.no (fun h=>R.out h.2.1),((Below.refl _ w).alloc Ze _).alloc (by simp) _⟩
   ·have G:(k==o)=false:=by simpa using j
    have R:Hid (¬ k=o):=j;clear j;go_enter func261,ntmps261
    go_wp2_with fail
    go_ret;exact⟨Zn.no (fun h=>R.out h.1),((Below.refl _ w).alloc Ze _).alloc (by simp) _⟩
theorem Qln {f:FuncId}{args:Array Value}{A:Prop}(h:Calls prog f args w fun e w'=>Zn e A/\Below w.heap.size w w'):Rd prog f args w (.bool (bdec A)) :=
 h.mono fun e w' h=>by
  obtain⟨⟨q,rfl,a⟩,b⟩:=h
  exact⟨by rw[Qjr a],b⟩
theorem QeF {l m:List (TT n)}{q:Option Addr}(b:(Qt n).In w All l [.slice p l.length c]) (e:(Qt n).In w All m [.slice q m.length d]) (a:QcH l):Rd prog 61 #[.slice p l.length c,.slice q m.length d] w (.bool (bdec (l=m))) :=
 Qln (Qff n (samet_any n) l m p q c d w (Q8 b).1 (Q8 e).1 (by have:=a.1;omega) a.2)
section
variable {α:Type}{A:Lay α}{e:TypeId}{w w':World}{lo g n q s:Nat}{l:List α}{xs:List Value}{x:α}{ds:List Value}
theorem Qag.start (q:A.size=s) (h:w.ownsRow lo e s (.slice (some ⟨g,0,none⟩) m m) m xs):Qag A e w lo (.slice (some ⟨g,0,none⟩) 0 m) (l.take 0) []:=by
 subst q;obtain⟨t,o⟩:=h
 rcases o with ⟨a,_⟩|⟨r,j,d,a,k,n,p,f,c,b⟩
 ·simp at a
 ·simp only[Value.slice.injEq,Option.some.injEq,Addr.mk.injEq,and_true,true_and] at a
  obtain⟨rfl,rfl⟩:=a
  exact⟨⟨by simp,.inr ⟨g,m,d,Z,k,n,Xb _,f,c,by simp⟩⟩,fun i x h=>by simp at h⟩
theorem Qag.blk (h:Qag A e w lo (.slice (some ⟨g,0,none⟩) q n) l xs) (p:A.size=s):∃ c,Blk w g c e/\c.size=n*s:=by
 subst p;obtain⟨u,m⟩:=h.own
 rcases m with ⟨a,_⟩|⟨t,i,f,a,r,j,o,k,d,b⟩
 ·simp at a
 ·simp only[Value.slice.injEq,Option.some.injEq,Addr.mk.injEq,and_true,true_and] at a
  obtain⟨rfl,-,rfl⟩:=a
  exact⟨f,j,d⟩
theorem Qag.fillq (h:Qag A e w lo (.slice (some ⟨g,0,none⟩) q n) (l.take q) xs) (f:A.size=s) (i:q<l.length) (hn:l.length=n) (b:l[q]?=some x) (d:A.In w (fun k=>lo<=k/\k≠g) x ds) (c:w'=w.setCells g (0+q*s) ds) :
 ∃ xs',Qag A e w' lo (.slice (some ⟨g,0,none⟩) (q+1) n) (l.take (q+1)) xs':=by
 subst f c;have a:(l.take q).length=q:=by simp;omega
 have T:l.take (q+1)=l.take q++[x]:=by rw[XV,b];rfl
 have:=Qag.fill (l:=l.take q) (g:=g) (n:=n) (by rw[a];exact h) d (by omega)
 rw[a] at this
 rw[T,XK]
 exact⟨_,this⟩
theorem Qag.done (h:Qag A e w lo (.slice (some ⟨g,0,none⟩) q n) (l.take q) xs) (a:q=l.length):A.list.In w (QdN lo) l [.slice (some ⟨g,0,none⟩) l.length n]:=by
 have:=h.lay
 subst a;rw[List.take_length] at this
 exact this
end
theorem Qb2 {z:Value}{s:Nat}(h:(prog.info? t).map (fun i=>(i.zero,i.size,i.bytes))=some (some z,s,b)):∃ i,prog.info? t=some i/\i.zero=some z/\i.size=s/\i.bytes=b:=by
 obtain⟨i,a,e⟩:=Option.map_eq_some_iff.1 h
 simp only[Prod.mk.injEq] at e
 exact⟨i,a,e⟩
theorem infoIns:(prog.info? 78).map (fun i=>(i.zero,i.size,i.bytes))=some (some (.agg #[Iv 0,Iv 0,Iv 0,Iv 0,Iv 0,Iv 0,Nv,Nv]),8,96):=by kernel_rfl
theorem infoBlock:(prog.info? 86).map (fun i=>(i.zero,i.size,i.bytes))=some (some (.agg #[Iv 0,Nv,Nv,Iv 0,Iv 0,Iv 0,Nv,Nv,Iv 0,Nv,Nv,Nv]),12,208):=by kernel_rfl
theorem infoFunc:(prog.info? 89).map (fun i=>(i.zero,i.size,i.bytes))=some (some (.agg #[Iv 0,Nv,Nv,Nv]),4,80):=by kernel_rfl
section
open Go.Deep
def Wt {H:Type}(P:Program) (t:TypeId) (d:DataW H):Prop:=∀ n∈d.weights P t,n<=reachBytes
def QF (P:Program) (t:TypeId){α:Type}(A:Lay α) (n:Nat) (Bd:α->Prop):Prop :=
 P.cellsOf t=A.size/\∀ {H:Type} {enc:TypeId × Value->H} {w:World} {base:Nat} {spare:Nat->Bool} {held:Bool} {fuel:Nat} {cs:List Value} {x:DataW H × List MemPlace},
  fuel<=n->DataW.trod enc P w base spare held fuel t cs=some x->Wt P t x.1->∃ d,A.In w (fun _=>True) d cs/\Bd d
theorem QF.int (n:Nat) (h:P.underlying t=some (.int .i64)) (c:P.cellsOf t=1):QF P t Lay.int n (fun _=>True) :=
 ⟨c,fun _ a _=>by
  obtain⟨k,e,_,b⟩:=DataW.trod_int h a
  exact⟨k,⟨e,Go.bounds_i64 b⟩,Y⟩⟩
theorem QbI {H:Type}{P:Program}{e:TypeId}:∀ {l:List (DataW H)}{d:DataW H},d∈l->∀ n∈d.weights P e,n∈DataW.weightsAll P e l
 | d0::l,d,h,n,hn=>by
   simp only[DataW.weightsAll,List.mem_append]
   rcases List.mem_cons.1 h with rfl | h
   ·exact .inl hn
   ·exact .inr (QbI h n hn)
theorem QF.list {α:Type}{A:Lay α}{Bd:α->Prop}(h:P.underlying t=some (.slice e)) (hc:P.cellsOf t=1) (hA:QF P e A n Bd) (G:0<A.size) (T:0<P.bytesOf e):QF P t A.list n (fun l=>l.length<1152921504606846976) :=
 ⟨hc,fun {H ac w z I U X cs x} hf h' hw=>by
  rcases DataW.trod_slice h h' with ⟨M,_⟩|⟨a,r,Q,c,g,q,rfl,M,ex,hb,hl,hm,V,L,_,_⟩
  ·exact⟨[],by rw[M];exact Yg A _ _ _ _,by simp⟩
  ·have aa:(c.length+g.length)*P.bytesOf e<=reachBytes:=hw _ (by rw[ex];simp[DataW.weights,h])
   have ad:r<1152921504606846976:=by
    have h1:c.length*1<=(c.length+g.length)*P.bytesOf e:=Nat.mul_le_mul (by omega) T;have h2:reachBytes<1152921504606846976:=by decide
    omega
   have C:∀ i,i<r->∃ y,c[i]?=some y/\Wt P e y.1:=fun i D=>by
    refine⟨c[i]'(by omega),Zg (by omega),fun k hk=>hw k ?_⟩
    rw[ex]
    simp only[DataW.weights,h,List.mem_cons,List.mem_append]
    exact .inr (.inl (QbI (List.mem_map_of_mem (List.getElem_mem (by omega))) k hk))
   obtain⟨l,K,W⟩:=QkB (P:=fun i (d:α)=>∃ f,w.cells? z (a.add (i*A.size)) A.size=some f/\A.In w (fun _=>True) d f) r (fun i D=>by
    have R:=L i D;obtain⟨y,hy,O⟩:=C i D
    rw[hy,hA.1] at R
    rw[Option.bind_eq_some_iff] at R
    obtain⟨f,p,N⟩:=R
    obtain⟨d,F,_⟩:=hA.2 (by omega) N O
    exact⟨d,f,p,F⟩)
   refine⟨l,⟨some a,Q,by rw[M,K],fun i x hx=>?_⟩,by omega⟩
   obtain⟨f,p,F⟩:=W i x hx
   obtain⟨_,ab,m⟩:=World.cells?_some p
   obtain⟨b,u,E⟩:=a
   have o:E=none:=by
    have D:0<l.length:=Nat.lt_of_le_of_lt (Xb i) (Zi hx).1;obtain⟨J,v,S⟩:=W 0 l[0] (Zg D)
    have s:0<J.length:=by rw[A.len S];exact G
    have:=(World.cells?_some v).2.2 0 G
    rw[Zg s] at this
    simpa[Addr.add] using World.cell?_spot this
   subst o
   have B:∀ j,j<A.size->w.cell? ⟨b,u+i*A.size+j,none⟩=f[j]?:=fun j hj=>by
    have:=m j hj
    rw[Go.WideShapes.add_plain,Go.WideShapes.add_plain] at this
    exact this
   refine⟨b,u,f,Z,Y,?_,B,F⟩
   have s:0<f.length:=by rw[A.len F];exact G
   have:=B 0 G
   rw[Zg s] at this
   exact Xi w _ this⟩
def QK (P:Program) (fs:Array Field):Nat->Nat->{α:Type}->Lay α->Nat->(α->Prop)->Prop:=fun i o α A n Bd =>
 ∀ (H:Type) (enc:TypeId × Value->H) (w:World) (base:Nat) (spare:Nat->Bool) (held:Bool) (fuel:Nat) (cs:List Value) (xs:List (DataW H × List MemPlace)),
  fuel<=n->cs.length=o+A.size->xs.length=fs.size->(∀ (j:Nat) (f:Field),fs[j]?=some f->DataW.trod enc P w base spare held fuel f.type ((cs.drop f.offset).take (P.cellsOf f.type))=xs[j]?) ->
  (∀ (j:Nat) (f:Field) x,fs[j]?=some f->xs[j]?=some x->Wt P f.type x.1)->∃ d,A.In w (fun _=>True) d (cs.drop o)/\Bd d
theorem QK.last {fs:Array Field}{f:Field}{α:Type}{A:Lay α}{e:α->Prop}(b:fs[i]?=some f) (s:f.offset=o) (l:QF P f.type A n e):QK P fs i o A n e:=by
 intro H r w j a c k y v t x u h q;have g:=h i f b;have z:i<fs.size:=(Array.getElem?_eq_some_iff.1 b).1;rw[Zg (by omega),s,l.1] at g
 obtain⟨d,p,m⟩:=l.2 t g (q i f _ b (Zg (by omega)))
 refine⟨d,?_,m⟩
 rwa [XO (by simp;omega)] at p
theorem QK.cons {fs:Array Field}{f:Field}{α β:Type}{A:Lay α}{B:Lay β}{k:α->Prop}{q:β->Prop}(c:fs[i]?=some f) (u:f.offset=o) (r:QF P f.type A n k) (v:QK P fs (i+1) (o+A.size) B n q):QK P fs i o (A.pair B) n (fun x=>k x.1/\q x.2):=by
 intro H C w p a j l J F s E D h m;have g:=h i f c;have G:i<fs.size:=(Array.getElem?_eq_some_iff.1 c).1;rw[Zg (by omega),u,r.1] at g
 obtain⟨d,t,y⟩:=r.2 s g (m i f _ c (Zg (by omega)))
 have I:(A.pair B).size=A.size+B.size:=rfl;obtain⟨e,z,b⟩:=v _ _ _ _ _ _ _ _ _ s (by omega) D h m
 refine⟨(d,e),⟨_,_,?_,t,z⟩,y,b⟩
 rw[<-List.drop_drop,List.take_append_drop]
theorem QF.struct {fs:Array Field}{α:Type}{A:Lay α}{i:α->Prop}(h:P.underlying t=some (.struct fs)) (l:P.cellsOf t=A.size) (q:QK P fs 0 0 A n i):QF P t A n i :=
 ⟨l,fun {H E w p a g o I x} G s z=>by
  obtain⟨F,m,rfl,v,b,c,e⟩:=DataW.trod_struct h s
  obtain⟨d,r,D⟩:=q _ _ _ _ _ _ _ _ _ (by omega) (by rw[b,l];omega) c e (fun j f y B C k u=>z k (by
   rw[v]
   simp only[DataW.weights,h]
   exact DataW.weights_mem_each (j:=j) (t:=f.type) (d:=y.1) (by simp[B]) (by simp[C]) k u))
  exact⟨d,by simpa using r,D⟩⟩
theorem QF.via {α β:Type}{A:Lay α}{f:β->α}{a:α->Prop}(h:QF P t A n a) (g:α->β) (b:∀ d,f (g d)=d):QF P t (A.via f) n (fun x=>a (f x)) :=
 ⟨h.1,fun k e j=>by
  obtain⟨d,i,c⟩:=h.2 k e j
  exact⟨g d,by show A.In _ _ (f (g d)) _;rw[b];exact i,by show a (f (g d));rw[b];exact c⟩⟩
theorem own:ownKnob prog.godebug=none:=by kernel_rfl
theorem laidOut:laidOutB prog=true:=by kernel_rfl
theorem fieldsT:∃ f0 f1 f2:Field,prog.underlying 105=some (.struct #[f0,f1,f2]) /\
 (f0.offset=0/\prog.cellsOf f0.type=1/\prog.underlying f0.type=some (.int .i64))/\(f1.offset=1/\prog.cellsOf f1.type=1/\prog.underlying f1.type=some (.int .i64)) /\
 (f2.offset=2/\prog.cellsOf f2.type=1/\f2.type=80) :=
 ⟨_,_,_,underlying105,⟨Z,by kernel_rfl,by kernel_rfl⟩,⟨Z,by kernel_rfl,by kernel_rfl⟩,⟨Z,by kernel_rfl,Z⟩⟩
theorem Qm1 (n:Nat):QF prog 105 (Lay.tt n) n (fun _=>True) :=
 ⟨by kernel_rfl,fun {H i w g d f b u x} o h r=>by
  obtain⟨y,s,v,e,k,l,p⟩:=fieldsT
  obtain⟨t,a,c,j,m,q⟩:=Qmx (ti:=0) underlying80 e (by kernel_rfl) k l p n b o h
  exact⟨t,⟨a,c,j,m,q⟩,Y⟩⟩
theorem Qbj (n:Nat):QF prog 3 Lay.int n (fun _=>True):=QF.int n underlying3 (by kernel_rfl)
theorem QlC (n:Nat):QF prog 2 Lay.int n (fun _=>True):=QF.int n underlying2 (by kernel_rfl)
theorem QgK (n:Nat):QF prog 80 (Qt n) n (fun l=>l.length<1152921504606846976):=QF.list underlying80 (by kernel_rfl) (Qm1 n) (by show 0<3;decide) (by rw[show prog.bytesOf 105=40 from by kernel_rfl];decide)
end
def QjK {α:Type}(A:Lay α) (w w':World) (x:α) (e:Ending):Prop:=∃ ds:List Value,e=.returned (.agg ds.toArray)/\A.In w' (QdN w.heap.size) x ds/\Below w.heap.size w w'
theorem Qng (a:World) (z:Array Value) (t:TypeId)(c:cs.length=z.size):(a.alloc (.cells z t)).there a.heap.size 0 cs.toArray.size/\Blk ((a.alloc (.cells z t)).setCells a.heap.size 0 cs) a.heap.size cs.toArray t/\Below a.heap.size a ((a.alloc (.cells z t)).setCells a.heap.size 0 cs):=by
 have b:=Blk.new a z t;refine⟨Blk.there b (by simp[c]),?_,?_⟩
 ·have d:Blk (a.alloc (.cells z t)) a.heap.size ([]++z.toList).toArray t:=b;exact Blk.sets cs [] z.toList _ (by simpa using c) d
 ·exact QI Ze cs _ _ 0 (ZR a _)
theorem Blk.setsA {c:Array Value}(h:Blk w R c t) (a:List Value) (b:a.length=c.size):Blk (w.setCells R 0 a) R a.toArray t:=Blk.sets a [] c.toList w (by simpa using b) h
theorem infoType0:(prog.info? 105).map (fun i=>(i.zero,i.size,i.bytes))=some (some (.agg #[Iv 0,Iv 0,Nv]),3,40):=by kernel_rfl
theorem QbO {z:Value}{s:Nat}(h:(prog.info? t).map (fun i=>(i.zero,i.size,i.bytes))=some (some z,s,b)):(prog.info? t).map (·.size)=some s:=by
 obtain⟨i,a,-,c,-⟩:=Qb2 h
 rw[a];simp[c]
theorem Qcl {fn:Func}{R:Ending->World->Prop}{a:Act}{t:Tmp}{ty:TypeId}{c:Array Value}{d:TypeDesc}(f:fn.results=#[.cell t ty]) (b:a.tmps.getD t undef=Pv B 0) (k:a.defers=[]) (h:Blk w B c bt)
 (j:prog.underlying ty=some d) (i:d.isRow=true) (hi:(prog.info? ty).map (·.size)=some c.size) (g:R (.returned (.agg c)) w):bodyPost prog fn R .ret a w:=by
 refine Xy ?_ k g;have e:=run_loadVar_mid (P:=prog) w B 0 ty c.toList d (Blk.range (by simpa using h)) j i (by simpa using hi);simp only[Array.toArray_toList] at e
 rw[Za] at b
 simp[results,f,b,asAddr,e]
theorem Qam {α:Type}{A:Lay α}{F K:FuncId}{l:List α}
 (hF:F=122/\A.size=3\/F=186/\A.size=8\/F=124/\A.size=12\/F=76/\A.size=4)
 (L:Qdw K) (V:A.list.In w All l [.slice p l.length c]) (hb:l.length<=4294967296) (M:∀ (w:World) (O:Nat->Prop) (x:α) (ds:List Value),A.In w O x ds->∀ v∈ds,v.oneCell'=true)
 (T:∀ x∈l,∀ ds wx,A.In wx All x ds->Calls prog K #[.agg ds.toArray] wx fun e w'=>QjK A wx w' x e) :
 Calls prog F #[.slice p l.length c,.func (.func K) #[] #[]] w fun e w'=>Qh3 A w w' l e:=by
 have hl:=Qi V;have hf:=Qi T;have h1:=Qi M;have hE:∀ (args:Array Value) (w:World),(callFunc K args).run prog w=.ok (.enter K args) w:=L;clear V T M L;rcases hF with ⟨rfl,s⟩|⟨rfl,s⟩|⟨rfl,s⟩|⟨rfl,s⟩
 have I:=underlying105;have r:=QbO infoType0;have G:=Qi fun (wx:World) (cs:List Value) (h:cs.length=3)=>Qng wx #[Iv 0,Iv 0,Nv] 105 h;obtain⟨D,t,m,b,f⟩:=Qb2 infoType0
 obtain⟨B,u,a,d⟩:=run_make_full (P:=prog) w w.heap.size 80 105 D _ 3 underlying80 t m b .i64 .i64 l.length (by rw[f];omega) (by unfold maxLen;omega) Ze
 clear t m b f;have H:Hid (Below w.heap.size w B):=(Below.refl _ w).grown d Ze (fun k r=>by cases r);have U:=Qi (Qag.start (l:=l) s a);clear d a;go_enter func122,ntmps122
 rotate_left
 have I:=underlying78;have r:=QbO infoIns;have G:=Qi fun (wx:World) (cs:List Value) (h:cs.length=8)=>Qng wx #[Iv 0,Iv 0,Iv 0,Iv 0,Iv 0,Iv 0,Nv,Nv] 78 h;obtain⟨D,t,m,b,f⟩:=Qb2 infoIns
 obtain⟨B,u,a,d⟩:=run_make_full (P:=prog) w w.heap.size 79 78 D _ 8 underlying79 t m b .i64 .i64 l.length (by rw[f];omega) (by unfold maxLen;omega) Ze
 clear t m b f;have H:Hid (Below w.heap.size w B):=(Below.refl _ w).grown d Ze (fun k r=>by cases r);have U:=Qi (Qag.start (l:=l) s a);clear d a;go_enter func186,ntmps186
 rotate_left
 have I:=underlying86;have r:=QbO infoBlock;have G:=Qi fun (wx:World) (cs:List Value) (h:cs.length=12)=>Qng wx #[Iv 0,Nv,Nv,Iv 0,Iv 0,Iv 0,Nv,Nv,Iv 0,Nv,Nv,Nv] 86 h;obtain⟨D,t,m,b,f⟩:=Qb2 infoBlock
 obtain⟨B,u,a,d⟩:=run_make_full (P:=prog) w w.heap.size 87 86 D _ 12 underlying87 t m b .i64 .i64 l.length (by rw[f];omega) (by unfold maxLen;omega) Ze
 clear t m b f;have H:Hid (Below w.heap.size w B):=(Below.refl _ w).grown d Ze (fun k r=>by cases r);have U:=Qi (Qag.start (l:=l) s a);clear d a;go_enter func124,ntmps124
 rotate_left
 have I:=underlying89;have r:=QbO infoFunc;have G:=Qi fun (wx:World) (cs:List Value) (h:cs.length=4)=>Qng wx #[Iv 0,Nv,Nv,Nv] 89 h;obtain⟨D,t,m,b,f⟩:=Qb2 infoFunc
 obtain⟨B,u,a,d⟩:=run_make_full (P:=prog) w w.heap.size 22 89 D _ 4 underlying22 t m b .i64 .i64 l.length (by rw[f];omega) (by unfold maxLen;omega) Ze
 clear t m b f;have H:Hid (Below w.heap.size w B):=(Below.refl _ w).grown d Ze (fun k r=>by cases r);have U:=Qi (Qag.start (l:=l) s a);clear d a;go_enter func76,ntmps76
 rotate_left
 all_goals
  go_wp2_with fail
  go_loopw [13] (fun i wr=>∃ q:Nat,q<=l.length/\i=Iv q/\(∃ e xs,Qag A e wr w.heap.size (.slice (some ⟨w.heap.size,0,none⟩) q l.length) (l.take q) xs)/\Below w.heap.size w wr) (fun i _=>l.length - (intOf i).toNat)
  case atStart=>exact⟨0,Xb _,Yz,⟨_,_,U.out⟩,H.out⟩
  case round =>
   obtain⟨q,hq,rfl,⟨e,xs,hA⟩,hB⟩:=hrel
   have HA:=Qi hA;have E:=Qi hB;clear hA hB H U u;obtain⟨z,aa⟩:∃ z,z=wr:=⟨_,Yz⟩
   subst aa;by_cases S:q<l.length
   rotate_left
   ·have J:¬ (q:Int)<l.length:=by omega
    have R:Hid (Qh3 A w z l (.returned (.slice (some ⟨w.heap.size,0,none⟩) l.length l.length))):=⟨_,_,Yz,HA.out.done (by omega),E.out⟩;clear HA E;go_wp2
    go_ret;exact R.out
   have J:(q:Int)<l.length:=by omega
   have hx:l[q]?=some l[q]:=Zg S;generalize l[q]=x at hx;obtain⟨g,o,ds,rfl,-,-,E3,I3⟩:=Yf (Ya hl.out E.out) hx
   have hn:=A.len I3;rw[s] at hn E3
   have RG:=Qi (show z.rangeAt g (o+q*_) ds from fun j v hj=>(E3 j (by rw[<-hn];exact(Zi hj).1)).trans hj);have TO:=Qi (all_oneCell_toArray (h1.out _ _ _ _ I3));obtain⟨M1,M2,M3⟩:=G.out z ds hn
   have HM:=Qi M1;have N:=Qi (r.trans (congrArg some hn.symm));have CC:=Qi (hf.out x (Zm hx) ds _ (Ya I3 M3));have B2:=Qi M2;have W:=Qi M3;have HX:=Qi hx;clear M1 M2 M3 E3 I3 hx hn;go_upto_region 5 with (first | (refine wpList_load_mid Yz _ (.tmp 16) Yz g _ Yz ds _ RG.out I Yz N.out ?_) | (refine wpList_store_mid Yz _ (.tmp 7) (.tmp 17) Yz z.heap.size 0 ds.toArray Yz Yz HM.out N.out TO.out ?_))
   clear HM RG TO;generalize World.setCells _ _ _ _=w3 at B2 W CC |-;generalize z.heap.size=Z at B2 |-;have RZ:Hid (w3.rangeAt Z 0 ds):=Blk.range B2.out;clear B2;go_wp2_with (refine wpList_load_mid Yz _ (.tmp 7) Yz Z 0 Yz ds _ RZ.out I Yz N.out ?_)
   refine CC.out.mono ?_;rintro _ w8 ⟨d2,rfl,I8,B8⟩;have y:=A.len I8;rw[s] at y
   have b8:=W.out.trans (B8.mono W.out.size);have C:=HA.out.below b8;obtain⟨cg,X,Q⟩:=C.blk s
   have s1:=(HA.out.lo_le (g:=w.heap.size) Yz).2;have s2:=W.out.size;have NX:=Qi (C.fillq s S Yz HX.out (Yc I8 (fun k r _=>⟨by have:_<=k:=r;omega,by have:_<=k:=r;omega⟩)) Yz);have BX:=Qi (QI Ze d2 _ _ (q*A.size) (E.out.trans (b8.mono E.out.size)));have TO:=Qi (all_oneCell_toArray (h1.out _ _ _ _ I8));have N:=Qi (r.trans (congrArg some y.symm));have HT:=Qi (Blk.there (o:=q*A.size) (n:=d2.length) X (by rw[Q,y,s];omega));clear y b8 C X Q I8 B8 CC RZ W HA E hl hf h1 G s1 s2;rw[XK] at NX
   rw[s] at BX HT
   go_wp2_with (refine wpList_store_mid Yz _ (.tmp 23) (.tmp 22) Yz w.heap.size _ d2.toArray Yz Yz HT.out N.out TO.out ?_)
   go_roundw
   case rel=>exact⟨q+1,by omega,by go_num,(by obtain⟨_,h⟩:=NX.out;exact⟨_,_,h⟩),BX.out⟩
   case measure=>simp[intOf];omega
structure Bxs (w wx:World) (l:List (Nat × Array Value × TypeId)):Prop where
 bel:Below w.heap.size w wx
 ge:∀ b∈l,w.heap.size<=b.1
 box:∀ b∈l,Blk wx b.1 b.2.1 b.2.2
 nd:(l.map (·.1)).Nodup
section
variable {w wx w':World}{l a z:List (Nat × Array Value × TypeId)}{B:Nat}{c:Array Value}{t:TypeId}
theorem Bxs.start (w:World):Bxs w w []:=⟨Zr,fun _ h=>by simp at h,fun _ h=>by simp at h,by simp⟩
theorem Bxs.below (h:Bxs w wx l) (k:Below wx.heap.size wx w'):Bxs w w' l:=⟨h.bel.trans (k.mono h.bel.size),h.ge,fun b a=>(h.box b a).below k,h.nd⟩
theorem Bxs.add (h:Bxs w wx l) (hb:Blk wx B c t) (d:w.heap.size<=B) (hn:∀ b∈l,b.1≠B):Bxs w wx ((B,c,t)::l) :=
 ⟨h.bel,fun b a=>by rcases List.mem_cons.1 a with rfl | e;exact d;exact h.ge b e,fun b a=>by rcases List.mem_cons.1 a with rfl | e;exact hb;exact h.box b e,by
  simp only[List.map_cons,List.nodup_cons]
  refine⟨fun e=>?_,h.nd⟩
  obtain⟨b,a,e⟩:=List.mem_map.1 e
  exact hn b a e⟩
theorem Bxs.new (h:Bxs w wx l) (c:Array Value) (t:TypeId):Bxs w (wx.alloc (.cells c t)) ((wx.heap.size,c,t)::l) :=
 (h.below (ZR _ _)).add (Blk.new _ _ _) h.bel.size (fun b a e=>by have:=(h.box b a).lt;omega)
theorem Bxs.made (h:Bxs w wx l) (k:Below wx.heap.size wx w') (hb:Blk w' B c t) (d:wx.heap.size<=B):Bxs w w' ((B,c,t)::l) :=
 (h.below k).add hb (Zt h.bel.size d) (fun b a e=>by have:=(h.box b a).lt;omega)
theorem Bxs.at (h:Bxs w wx (a++(B,c,t)::z)):Blk wx B c t:=h.box (B,c,t) (by simp)
theorem Bxs.cell (h:Bxs w wx (a++(B,c,t)::z)) (i:Nat) (v:Value) (b:c[i]?=some v):wx.cell? ⟨B,i,none⟩=some v:=Qa h.at i v b
theorem Bxs.free (h:Bxs w wx (a++(B,c,t)::z)) (i:Nat):wx.frozen? ⟨B,i,none⟩=false:=Qd h.at i
theorem Bxs.set (h:Bxs w wx (a++(B,c,t)::z)) (i:Nat) (v:Value):Bxs w (wx.setCell ⟨B,i,none⟩ v) (a++(B,c.setIfInBounds i v,t)::z):=by
 have f:∀ b∈a++z,b.1≠B:=fun b d e=>by
  have j:=h.nd;rw[List.map_append,List.map_cons,List.nodup_append] at j
  obtain⟨-,g,k⟩:=j
  rw[List.nodup_cons] at g
  rcases List.mem_append.1 d with d | d
  ·exact k b.1 (List.mem_map_of_mem d) B (by simp) e
  ·exact g.1 (List.mem_map.2 ⟨b,d,e⟩)
 refine⟨h.bel.setCell (p:=⟨B,i,none⟩) (h.ge (B,c,t) (by simp)) v,fun b d=>?_,fun b d=>?_,?_⟩
 ·simp only[List.mem_append,List.mem_cons] at d
  rcases d with d | rfl | d
  ·exact h.ge b (by simp[d])
  ·exact h.ge (B,c,t) (by simp)
  ·exact h.ge b (by simp[d])
 ·simp only[List.mem_append,List.mem_cons] at d
  rcases d with d | rfl | d
  ·exact(Xd _ _ _ _ (f b (by simp[d]))).trans (h.box b (by simp[d]))
  ·have:=Qm h.at i v
   simpa using this
  ·exact(Xd _ _ _ _ (f b (by simp[d]))).trans (h.box b (by simp[d]))
 ·have:=h.nd
  simpa using this
end
def NuI (lo:Nat) (l:List Int) (v:Value) (w:World):Prop:=∃ p c,v=.slice p l.length c/\intsL.In w (QdN lo) l [v]
theorem NuI.below {lo:Nat}(b:Below w.heap.size w w') (h:NuI lo l v w):NuI lo l v w':=by
 obtain⟨p,c,rfl,h⟩:=h
 exact⟨p,c,Z,Ya h b⟩
theorem NuI.move {lo a:Nat}(h:NuI lo l v w) (hb:∀ k,lo<=k->w'.heap[k]?=w.heap[k]?) (d:a<=lo):NuI a l v w':=by
 obtain⟨p,c,rfl,h⟩:=h
 exact⟨p,c,Z,intsL.keep (fun k b _=>hb k b) (fun k b _=>Zt d b) h⟩
theorem Qk8 {F:FuncId}(hF:F=232/\(∃ n,cs=[Iv n])\/F=187/\∃ a b c d e f,cs=[Iv a,Iv b,Iv c,Iv d,Iv e,Iv f])
 {l j:List Int}    (B:intsL.In w All l [.slice pR l.length cR]) (C:intsL.In w All j [.slice pA j.length cA]) (b1:l.length<=4294967296) (b2:j.length<=4294967296) :
 Calls prog F #[.agg (cs++[Value.slice pR l.length cR,Value.slice pA j.length cA]).toArray] w fun e w'=>∃ u v,e=.returned (.agg (cs++[u,v]).toArray)/\NuI w.heap.size l u w'/\NuI w.heap.size j v w'/\Below w.heap.size w w':=by
 have D:=Qi B;have hg:=Qi C;clear B C;obtain⟨o,J⟩:∃ o,cs.length=o:=⟨_,Z⟩
 obtain⟨z,r⟩:∃ o,cs.length+1=o:=⟨_,Z⟩
 rcases hF with ⟨rfl,n,rfl⟩|⟨rfl,n1,n2,n3,n4,n5,n6,rfl⟩
 have p:=Qi (((Bxs.start w).new #[Iv n,.slice pR l.length cR,.slice pA j.length cA] 82).new #[Iv 0,Nv,Nv] 82);have N:=underlying82;have q:(prog.info? 82).map (·.size)=some 3:=by kernel_rfl
 go_enter func232,ntmps232
 rotate_left
 have p:=Qi (((Bxs.start w).new #[Iv n1,Iv n2,Iv n3,Iv n4,Iv n5,Iv n6,.slice pR l.length cR,.slice pA j.length cA] 78).new #[Iv 0,Iv 0,Iv 0,Iv 0,Iv 0,Iv 0,Nv,Nv] 78);have N:=underlying78;have q:(prog.info? 78).map (·.size)=some 8:=by kernel_rfl
 go_enter func187,ntmps187
 all_goals
  go_upto_region 1 with fail
  generalize World.alloc (World.alloc w _) _=s at p |-;have V:s.cell? ⟨w.heap.size,o,none⟩=some (.slice pR l.length cR):=p.out.cell (a:=[_]) o _ (by subst J;rfl);have R:s.cell? ⟨w.heap.size,z,none⟩=some (.slice pA j.length cA):=p.out.cell (a:=[_]) z _ (by subst r;rfl);simp only[List.length_cons,List.length_nil,Nat.zero_add,Nat.reduceAdd] at J r
  refine Qj 7 (Qll [(5,NuI s.heap.size l),(8,NuI s.heap.size j)] [(1,Pv w.heap.size 0),(3,Pv w.heap.size o),(4,.slice pR l.length cR),(6,Pv w.heap.size z),(7,.slice pA j.length cA),(9,Pv w.heap.size o)]) (fun L=>Below s.heap.size s L) (fun w w'=>Below w.heap.size w w') (by kernel_rfl) (outs:=[1]) (gs:=[]) (bs:=[true,true,true,true,true,true,true]) (n:=12) Z Ze (by kernel_rfl) (by kernel_rfl) ?hR ?hG (Qh Zr 1) ⟨Z,Y⟩ ?hA ?hend
  case hR=>exact fun t v w w' D h=>h.keep ⟨NuI.below D,NuI.below D,Y⟩
  case hG=>exact Y
  case hA =>
   subst J r
   repeat
    refine⟨fun a L g i K W=>?_,?_⟩
    focus
     obtain⟨k0,-⟩:=i
     conv at k0=>whnf;rhs;whnf
     have c0:=Qn V g;have c1:=Qn R g;have hw:=p.out.bel.trans (g.mono p.out.bel.size);go_simp
     first
      | with_reducible refine Xm (Qbf _ _ _ L (Ya D.out hw) b1) ?_
        rintro e w9 ⟨U,P,rfl,X,E⟩;exact W _ _ E (g.trans (E.mono g.size)) ⟨U,P,Z,Yc X (fun k i _=>Zt g.size i)⟩
      | with_reducible refine Xm (Qbf _ _ _ L (Ya hg.out hw) b2) ?_
        rintro e w9 ⟨U,P,rfl,X,E⟩;exact W _ _ E (g.trans (E.mono g.size)) ⟨U,P,Z,Yc X (fun k i _=>Zt g.size i)⟩
      | exact W _ _ Zr g Z
   trivial
  case hend =>
   rintro S x y g i;have H:NuI _ _ (x 5) y:=i 5 (by kernel_rfl);have I:NuI _ _ (x 8) y:=i 8 (by kernel_rfl);obtain⟨p5,c5,e5,-⟩:=id H
   obtain⟨p8,c8,T,-⟩:=id I
   rw[e5] at H
   rw[T] at I
   have e9:x 9=Pv w.heap.size o:=i 9 (by kernel_rfl);have M:=p.out.below g;have c0:=Qn V g;have c1:=Qn R g;have z0:=M.free (a:=[_]) o;have z1:=M.free (a:=[_]) z;have G:=(M.set (a:=[_]) o (.slice p5 l.length c5)).set (a:=[_]) z (.slice p8 j.length c8);have Q:=Qi (G.at (a:=[_]));have e1:∀ o,(w.alloc o).heap.size=w.heap.size+1:=fun o=>by simp
   have A:=G.at (a:=[]);have m:=(p.out.at (a:=[])).lt;rw[e1] at A m
   replace A:=Qi A;replace m:=Qi m;clear e1;have E6:=Qi G.bel;have K5:=Qi H;have K8:=Qi I
   have hO:Hid (∀ k,s.heap.size<=k->((y.setCell ⟨w.heap.size,o,none⟩ (.slice p5 l.length c5)).setCell ⟨w.heap.size,z,none⟩ (.slice p8 j.length c8)).heap[k]?=y.heap[k]?):=fun k h=>by
    have:=(p.out.at (a:=[_])).lt
    rw[Xd _ _ _ _ (show k≠w.heap.size by omega),Xd _ _ _ _ (show k≠w.heap.size by omega)]
   subst J r;show wpList _ S _ [_,_,_] (QC _ x [3,4,5,6,7,8,9]) y;simp only[QC,Act.put,List.setIfInBounds_toArray,List.set_cons_zero,List.set_cons_succ,e5,T,e9]
   clear H I i e5 T e9 M G p D hg V R g;go_upto_region 2 with fail
   generalize World.setCell (World.setCell y _ _) _ _=w6 at Q A E6 hO |-;have O:=Q.out;simp only[List.setIfInBounds_toArray,List.set_cons_zero,List.set_cons_succ] at O
   have RZ:=Qi (Blk.range O);clear Q O;go_wp2_with (first | (refine wpList_load_mid Z _ (.tmp 1) Z w.heap.size 0 Z _ _ RZ.out N Z q ?_) | (refine wpList_store_mid Z _ (.tmp 2) (.tmp 11) Z (w.heap.size+1) 0 _ Z Z (Blk.there A.out Ze) q (all_oneCell_toArray (Xe.1 Z)) ?_))
   have i:∀ x k,s.heap.size<=k->(w6.setCells (w.heap.size+1) 0 x).heap[k]?=y.heap[k]?:=fun x k h=>(QO (by have:=m.out;omega) x 0 w6).trans (hO.out k h);have h3:w.heap.size<=s.heap.size:=by have:=m.out;omega
   exact Qcl (t:=2) Z Z Z (Blk.setsA A.out _ Z) N Z q ⟨_,_,Z,K5.out.move (i _) h3,K8.out.move (i _) h3,QI (by omega) _ _ _ 0 E6.out⟩
def NuT (lo:Nat) (x:MTo) (v:Value) (w:World):Prop:=∃ a b,v=.agg #[Iv x.block,a,b]/\NuI lo x.regs a w/\NuI lo x.args b w
theorem NuT.below {lo:Nat}{x:MTo}(b:Below w.heap.size w w') (h:NuT lo x v w):NuT lo x v w':=by
 obtain⟨p,q,rfl,h,k⟩:=h
 exact⟨p,q,Z,h.below b,k.below b⟩
theorem NuI.in {lo:Nat}(h:NuI lo l v w):intsL.In w (QdN lo) l [v]:=by obtain⟨p,c,rfl,h⟩:=h;exact h
theorem NuI.lo {lo a:Nat}(h:NuI lo l v w) (b:a<=lo):NuI a l v w:=h.move (fun _ _=>rfl) b
theorem Qlb {x:MTo}(h:Qig w All x pR cR pA cA) (a:x.regs.length<=4294967296) (b:x.args.length<=4294967296):Calls prog 232 #[.agg #[Iv x.block,.slice pR x.regs.length cR,.slice pA x.args.length cA]] w fun e w'=>∃ v,e=.returned v/\NuT w.heap.size x v w'/\Below w.heap.size w w' :=
 (Qk8 (cs:=[Iv x.block]) (.inl ⟨Z,_,Z⟩) h.regs h.args a b).mono fun e w' ⟨u,v,c,f,d,g⟩=>⟨_,c,⟨u,v,Z,f,d⟩,g⟩
theorem Qls {x:MEnd}{i:EP}(h0:EIn w All x i) (r:x.small) :
 Calls prog 188 #[.agg #[Iv x.op,Iv x.a,Iv x.yes.block,.slice i.pYR x.yes.regs.length i.cYR,.slice i.pYA x.yes.args.length i.cYA,Iv x.no.block,.slice i.pNR x.no.regs.length i.cNR,.slice i.pNA x.no.args.length i.cNA,.slice i.pA x.args.length i.cA]] w fun e w'=>QjK endL w w' x e:=by
 have H:=Qi h0;have I:x.yes.regs.length<=4294967296:=by have:=r.1.1;omega
 have R:x.yes.args.length<=4294967296:=by have:=r.1.2;omega
 have W:x.no.regs.length<=4294967296:=by have:=r.2.1.1;omega
 have L:x.no.args.length<=4294967296:=by have:=r.2.1.2;omega
 have U:x.args.length<=4294967296:=by have:=r.2.2;omega
 clear h0 r;have g:=Qi (((Bxs.start w).new #[Iv x.op,Iv x.a,Iv x.yes.block,.slice i.pYR x.yes.regs.length i.cYR,.slice i.pYA x.yes.args.length i.cYA,Iv x.no.block,.slice i.pNR x.no.regs.length i.cNR,.slice i.pNA x.no.args.length i.cNA,.slice i.pA x.args.length i.cA] 84).new #[Iv 0,Iv 0,Iv 0,Nv,Nv,Iv 0,Nv,Nv,Nv] 84);go_enter func188,ntmps188
 go_upto_region 1 with fail
 generalize World.alloc (World.alloc w _) _=m at g |-;refine Qj 10 (Qll [(5,NuT m.heap.size x.yes),(8,NuT m.heap.size x.no),(11,NuI m.heap.size x.args)] [(1,Pv w.heap.size 0),(3,Pv w.heap.size 2),(4,.agg #[Iv x.yes.block,.slice i.pYR x.yes.regs.length i.cYR,.slice i.pYA x.yes.args.length i.cYA]),(6,Pv w.heap.size 5),(7,.agg #[Iv x.no.block,.slice i.pNR x.no.regs.length i.cNR,.slice i.pNA x.no.args.length i.cNA]),(9,Pv w.heap.size 8),(10,.slice i.pA x.args.length i.cA),(12,Pv w.heap.size 2)]) (fun Q=>Below m.heap.size m Q) (fun w w'=>Below w.heap.size w w') (by kernel_rfl) (outs:=[1]) (gs:=[]) (bs:=[true,true,true,true,true,true,true,true,true,true]) (n:=16) Z Ze (by kernel_rfl) (by kernel_rfl) ?hR ?hG (Qh Zr 1) ⟨Z,Y⟩ ?hA ?hend
 case hR=>exact fun t v w w' X h=>h.keep ⟨NuT.below X,NuT.below X,NuI.below X,Y⟩
 case hG=>exact Y
 case hA =>
  have u:=fun j=>g.out.cell (a:=[_]) j
  repeat
   refine⟨fun a Q b d K E=>?_,?_⟩
   focus
    obtain⟨k0,-⟩:=d
    conv at k0=>whnf;rhs;whnf
    have c2:=Qn (u 2 _ Z) b;have c3:=Qn (u 3 _ Z) b;have c4:=Qn (u 4 _ Z) b;have c5:=Qn (u 5 _ Z) b;have c6:=Qn (u 6 _ Z) b;have c7:=Qn (u 7 _ Z) b;have c8:=Qn (u 8 _ Z) b;have f:=g.out.bel.trans (b.mono g.out.bel.size);go_simp
    first
     | with_reducible refine Xm (Qlb (H.out.yes.below f) I R) ?_
       rintro e w9 ⟨v9,rfl,⟨M,O,rfl,F,B⟩,l⟩;exact E _ _ l (b.trans (l.mono b.size)) ⟨M,O,Z,F.lo b.size,B.lo b.size⟩
     | with_reducible refine Xm (Qlb (H.out.no.below f) W L) ?_
       rintro e w9 ⟨v9,rfl,⟨M,O,rfl,F,B⟩,l⟩;exact E _ _ l (b.trans (l.mono b.size)) ⟨M,O,Z,F.lo b.size,B.lo b.size⟩
     | with_reducible refine Xm (Qbf _ _ _ Q (Ya H.out.args f) U) ?_
       rintro e w9 ⟨p9,c9,rfl,B,l⟩;exact E _ _ l (b.trans (l.mono b.size)) ⟨p9,c9,Z,Yc B (fun k d _=>Zt b.size d)⟩
     | exact E _ _ Zr b Z
  trivial
 case hend =>
  rintro J C y b d;obtain⟨y1,y2,e5,V,P⟩:NuT _ _ (C 5) y:=d 5 (by kernel_rfl)
  obtain⟨n1,n2,e8,N,G⟩:NuT _ _ (C 8) y:=d 8 (by kernel_rfl)
  have D:NuI _ _ (C 11) y:=d 11 (by kernel_rfl);have A:C 12=Pv w.heap.size 2:=d 12 (by kernel_rfl);obtain⟨q1,d1,rfl,-⟩:=id V
  obtain⟨q2,d2,rfl,-⟩:=id P
  obtain⟨q3,d3,rfl,-⟩:=id N
  obtain⟨q4,d4,rfl,-⟩:=id G
  obtain⟨q5,d5,q,-⟩:=id D
  rw[q] at D
  have c:=g.out.below b;have z2:=c.free (a:=[_]) 2;have z3:=c.free (a:=[_]) 3;have z4:=c.free (a:=[_]) 4;have z5:=c.free (a:=[_]) 5;have z6:=c.free (a:=[_]) 6;have z7:=c.free (a:=[_]) 7;have z8:=c.free (a:=[_]) 8;have c2:=c.cell (a:=[_]) 2 _ Z;have c3:=c.cell (a:=[_]) 3 _ Z;have c4:=c.cell (a:=[_]) 4 _ Z;have c5:=c.cell (a:=[_]) 5 _ Z;have c6:=c.cell (a:=[_]) 6 _ Z;have c7:=c.cell (a:=[_]) 7 _ Z;have c8:=c.cell (a:=[_]) 8 _ Z;have s:=((((((c.set (a:=[_]) 2 (Iv x.yes.block)).set (a:=[_]) 3 (.slice q1 x.yes.regs.length d1)).set (a:=[_]) 4 (.slice q2 x.yes.args.length d2)).set (a:=[_]) 5 (Iv x.no.block)).set (a:=[_]) 6 (.slice q3 x.no.regs.length d3)).set (a:=[_]) 7 (.slice q4 x.no.args.length d4)).set (a:=[_]) 8 (.slice q5 x.args.length d5);simp only[List.setIfInBounds_toArray,List.set_cons_zero,List.set_cons_succ] at s
  generalize f:World.setCell _ _ _=w6 at s;have e1:∀ o,(w.alloc o).heap.size=w.heap.size+1:=fun o=>by simp
  have z:=s.at (a:=[]);have RZ:=Qi (Blk.range (s.at (a:=[_])));have S:=(g.out.at (a:=[])).lt;have aa:=(g.out.at (a:=[_])).lt;rw[e1] at z S
  replace z:=Qi z;have E6:=Qi s.bel;have T:=Qi (show EIn y (QdN m.heap.size) x ⟨q1,d1,q2,d2,q3,d3,q4,d4,q5,d5⟩ from ⟨⟨V.in,P.in,H.out.yes.bnd⟩,⟨N.in,G.in,H.out.no.bnd⟩,D.in,H.out.bnd⟩)
  have hO:Hid (∀ k,m.heap.size<=k->w6.heap[k]?=y.heap[k]?):=fun k h=>by
   rw[<-f]
   iterate 7 rw[Xd _ _ _ _ (show k≠w.heap.size by omega)]
  show wpList _ J _ [_,_,_,_,_] (QC _ C [3,4,5,6,7,8,9,10,11,12]) y;simp only[QC,Act.put,List.setIfInBounds_toArray,List.set_cons_zero,List.set_cons_succ,e5,e8,q,A]
  clear e5 e8 q A c s b g H e1 V P N G D d;replace f:=Qi f;go_upto_region 2 with fail
  rw[f.out]
  clear f c2 c3 c4 c5 c6 c7 c8 z2 z3 z4 z5 z6 z7 z8;have hu:=underlying84;have p:(prog.info? 84).map (·.size)=some 9:=by kernel_rfl
  go_wp2_with (first | (refine wpList_load_mid Z _ (.tmp 1) Z w.heap.size 0 Z _ _ RZ.out hu Z p ?_) | (refine wpList_store_mid Z _ (.tmp 2) (.tmp 15) Z (w.heap.size+1) 0 _ Z Z (Blk.there z.out Ze) p (all_oneCell_toArray (Xe.1 Z)) ?_))
  exact Qcl (t:=2) Z Z Z (Blk.setsA z.out _ Z) hu Z p ⟨_,Z,Qg9 (T.out.keep (fun k d _=>(QO (by have:_<=k:=d;omega) _ 0 w6).trans (hO.out k d)) (fun k d _=>by have:_<=k:=d;show _<=k;omega)),QI (by omega) _ _ _ 0 E6.out⟩
def Qm9 (n:Nat):Prop:=∀ (t:TT n) (ds:List Value) (w:World),(Lay.tt n).In w All t ds->t.count<=100000->Calls prog 123 #[.agg ds.toArray] w fun e w'=>QjK (Lay.tt n) w w' t e
theorem QmK (w:World) (O:Nat->Prop) (x:TT n) (b:List Value) (h:(Lay.tt n).In w O x b):∀ v∈b,v.oneCell'=true:=by
 obtain⟨a,c,rfl,-⟩:=h
 exact Xe.1 Z
theorem enters1:Qdw 123:=fun _ _=>by kernel_rfl
theorem enters2:Qdw 187:=fun _ _=>by kernel_rfl
theorem enters3:Qdw 125:=fun _ _=>by kernel_rfl
theorem enters4:Qdw 77:=fun _ _=>by kernel_rfl
theorem cOwnType_:∀ n,Qm9 n:=by
 intro n
 induction n with
 | zero=>intro t;exact Empty.elim t
 | succ n ih =>
   intro t B w s R;have y:∀ x∈t.2.2,x.count<=100000:=fun x z=>by have:=t.count_kid z;omega
   have C:t.2.2.length<=100000:=by have:=t.len_lt_count;rw[t.len_eq] at this;omega
   obtain⟨p,c,rfl,s,j⟩:=s
   have d:Hid _:=Qft (c:=c) s.list j.2;clear s;simp only[TT.len_eq]
   have f:=Qi (((Bxs.start w).new #[Iv t.kind,Iv t.r,.slice p t.2.2.length c] 105).new #[Iv 0,Iv 0,Nv] 105);have v:∀ o,(w.alloc o).heap.size=w.heap.size+1:=fun o=>by simp
   have e:Hid (w.heap.size+1<((w.alloc (.cells #[Iv t.kind,Iv t.r,.slice p t.2.2.length c] 105)).alloc (.cells #[Iv 0,Iv 0,Nv] 105)).heap.size):=by have:=(f.out.at (a:=[])).lt;rw[v] at this;exact this
   go_enter func123,ntmps123
   go_upto_region 1 with fail
   generalize World.alloc (World.alloc w _) _=Q at f e |-;have J:=f.out.cell (a:=[_]) 2 _ Z;have F:=Qi (Qam (A:=Lay.tt n) (.inl ⟨Z,Z⟩) enters1 (Ya d.out f.out.bel) (by omega) QmK (fun x z B O h=>ih x B O h (y x z)));go_wp2_with fail
   refine F.out.mono ?_;rintro _ u ⟨l,q,rfl,E,L⟩;have m:=f.out.below L;have J:=m.cell (a:=[_]) 2 _ Z;have P:=m.free (a:=[_]) 2;have i:=m.set (a:=[_]) 2 (.slice l t.2.2.length q);simp only[List.setIfInBounds_toArray,List.set_cons_zero,List.set_cons_succ] at i
   have g:=i.at (a:=[]);rw[v] at g
   replace g:=Qi g;have G:=Qi i.bel;have K:=Qi (Blk.range (i.at (a:=[_])));have H:Hid (∀ k,Q.heap.size<=k->(u.setCell ⟨w.heap.size,2,none⟩ (.slice l t.2.2.length q)).heap[k]?=u.heap[k]?):=fun k h=>Xd _ _ _ _ (show k≠w.heap.size by have:=e.out;omega);have N:=Qi E;clear F m i f E L d v;go_upto_region 2 with fail
   generalize World.setCell u _ _=I at g G K H |-;clear J P;have D:=underlying105;have b:=QbO infoType0;go_wp2_with (first | (refine wpList_load_mid Z _ (.tmp 1) Z w.heap.size 0 Z _ _ K.out D Z b ?_) | (refine wpList_store_mid Z _ (.tmp 2) (.tmp 7) Z (w.heap.size+1) 0 _ Z Z (Blk.there g.out Ze) b (all_oneCell_toArray (Xe.1 Z)) ?_))
   have S:=e.out;have M:=Q8 (Lay.keep (Qt n) (w':=I.setCells (w.heap.size+1) 0 [Iv t.kind,Iv t.r,.slice l t.2.2.length q]) (O':=QdN w.heap.size) (fun k d _=>(QO (by have:_<=k:=d;omega) _ 0 I).trans (H.out k d)) (fun k d _=>by have:_<=k:=d;show _<=k;omega) N.out);exact Qcl (t:=2) Z Z Z (Blk.setsA g.out _ Z) D Z b ⟨_,Z,⟨l,q,by rw[TT.len_eq],M.1,j⟩,QI (by omega) _ _ _ 0 G.out⟩
theorem Qd0 {α:Type}{A:Lay α}{lo:Nat}{x:α}(h:A.In w (QdN lo) x ds){p:Addr}(a:p.block<lo) (v:Value):A.In (w.setCell p v) (QdN lo) x ds:=Lay.setCell h (fun e=>by have:lo<=p.block:=e;omega) v
theorem QbX {α:Type}{A:Lay α}{lo hi:Nat}{x:α}(h:A.In w (QdN hi) x ds) (b:lo<=hi):A.In w (QdN lo) x ds:=Yc h (fun k a _=>Zt b a)
theorem QnC (w:World) (O:Nat->Prop) (x:Qx) (a:List Value) (h:insL.In w O x a):∀ v∈a,v.oneCell'=true:=by
 obtain⟨i,rfl,-⟩:=Qeu h
 exact Xe.1 Z
theorem Qmn (w:World) (O:Nat->Prop) (x:MEnd) (a:List Value) (h:endL.In w O x a):∀ v∈a,v.oneCell'=true:=by
 obtain⟨i,rfl,-⟩:=Qha h
 exact Xe.1 Z
theorem Qnn (w:World) (O:Nat->Prop) (x:MBlock n) (a:List Value) (h:(ZV n).In w O x a):∀ v∈a,v.oneCell'=true:=by
 obtain⟨i,rfl,-⟩:=Qcm h
 exact Xe.1 Z
theorem Qnj (w:World) (O:Nat->Prop) (x:MFunc n) (a:List Value) (h:(QaF n).In w O x a):∀ v∈a,v.oneCell'=true:=by
 obtain⟨i,rfl,-⟩:=QdD h
 exact Xe.1 Z
theorem Qdv {l:List (TT n)}(h:(Qt n).In w All l [.slice p l.length c]) (a:QcH l):Calls prog 122 #[.slice p l.length c,.func (.func 123) #[] #[]] w fun e w'=>Qh3 (Lay.tt n) w w' l e :=
 Qam (.inl ⟨Z,Z⟩) enters1 h (by have:=a.1;omega) QmK (fun x b d f h=>cOwnType_ n x d f h (a.2 x b))
theorem QlT {l:List Qx}(h:insL.list.In w All l [.slice p l.length c]) (t:l.length<=100000) (j:∀ x∈l,x.small):Calls prog 186 #[.slice p l.length c,.func (.func 187) #[] #[]] w fun e w'=>Qh3 insL w w' l e :=
 Qam (.inr (.inl ⟨Z,Z⟩)) enters2 h (by omega) QnC (fun x g r s h=>by
  obtain⟨i,rfl,f⟩:=Qeu h
  refine(Qk8 (cs:=[Iv x.op,Iv x.a,Iv x.b,Iv x.c,Iv x.k,Iv x.n]) (.inr ⟨Z,_,_,_,_,_,_,Z⟩) f.regs f.args (by have:=(j x g).1;omega) (by have:=(j x g).2;omega)).mono ?_
  rintro e w' ⟨u,v,rfl,⟨a,c,rfl,o⟩,⟨b,d,rfl,m⟩,q⟩;exact⟨_,Z,Qd4 o m f.bnd,q⟩)
theorem QiW {x:MBlock n}(h:(ZV n).In w All x ds) (hs:x.small):Calls prog 125 #[.agg ds.toArray] w fun e w'=>QjK (ZV n) w w' x e:=by
 obtain⟨i,rfl,hb⟩:=Qcm h
 have H:=Qi hb;have K:=Qi hs;clear h hb hs;have A:=Qi (((Bxs.start w).new #[Iv x.regs,.slice i.pP x.params.length i.cP,.slice i.pC x.code.length i.cC,Iv x.fin.op,Iv x.fin.a,Iv x.fin.yes.block,.slice i.e.pYR x.fin.yes.regs.length i.e.cYR,.slice i.e.pYA x.fin.yes.args.length i.e.cYA,Iv x.fin.no.block,.slice i.e.pNR x.fin.no.regs.length i.e.cNR,.slice i.e.pNA x.fin.no.args.length i.e.cNA,.slice i.e.pA x.fin.args.length i.e.cA] 86).new #[Iv 0,Nv,Nv,Iv 0,Iv 0,Iv 0,Nv,Nv,Iv 0,Nv,Nv,Nv] 86);have V:∀ o,(w.alloc o).heap.size=w.heap.size+1:=fun o=>by simp
 have b:=Qi ((A.out.at (a:=[])).lt);rw[V] at b
 go_enter func125,ntmps125
 go_upto_region 1 with fail
 generalize World.alloc (World.alloc w _) _=z at A b |-;have c1:=A.out.cell (a:=[_]) 1 _ Z;have C1:=Qi (Qdv (Ya H.out.params A.out.bel) K.out.2.1);go_wp2_with fail
 refine C1.out.mono ?_;rintro _ w4 ⟨r,u,rfl,I1,B4⟩;have P:=A.out.below B4;replace c1:=P.cell (a:=[_]) 1 _ Z;have z1:=P.free (a:=[_]) 1;have B:=Qi (P.set (a:=[_]) 1 (.slice r x.params.length u));have J1:=Qi (Qd0 I1 (p:=⟨w.heap.size,1,none⟩) (by have:=b.out;show w.heap.size<_;omega) (.slice r x.params.length u));have b5:=Qi B4.size;clear P C1 I1 B4 A;go_upto_region 2 with fail
 generalize F:World.setCell w4 _ _=w5 at B J1 |-;have s:Hid (z.heap.size<=w5.heap.size):=by show _<=_;rw[<-F];simpa using b5.out
 clear F b5 c1 z1;have c2:=B.out.cell (a:=[_]) 2 _ Z;have C2:=Qi (QlT (Ya H.out.code B.out.bel) K.out.1 K.out.2.2.2);go_wp2_with fail
 refine C2.out.mono ?_;rintro _ w6 ⟨j,l,rfl,I2,O⟩;have N:=B.out.below O;replace c2:=N.cell (a:=[_]) 2 _ Z;have z2:=N.free (a:=[_]) 2;have g:=N.set (a:=[_]) 2 (.slice j x.code.length l);have T:w.heap.size<z.heap.size:=by have:=b.out;omega
 have S:=Qi (Qd0 (Ya J1.out O) (p:=⟨w.heap.size,2,none⟩) T (.slice j x.code.length l));have K2:=Qi (Qd0 (QbX I2 s.out) (p:=⟨w.heap.size,2,none⟩) T (.slice j x.code.length l));have b7:=Qi (Zt s.out O.size);simp only[List.setIfInBounds_toArray,List.set_cons_zero,List.set_cons_succ] at g
 replace g:=Qi g;clear N C2 I2 O B J1;go_upto_region 3 with fail
 generalize L:World.setCell w6 _ _=w7 at g S K2 |-;have C:Hid (z.heap.size<=w7.heap.size):=by show _<=_;rw[<-L];simpa using b7.out
 clear L b7 c2 z2 s;have hE:=Qi (QlX (g.out.at (a:=[_])) 3 9 Z);have C3:=Qi (Qls (H.out.fin.below g.out.bel) K.out.2.2.1);have hu:=underlying84;have E:(prog.info? 84).map (·.size)=some 9:=by kernel_rfl
 have T:w.heap.size<z.heap.size:=by have:=b.out;omega
 go_wp2_with (refine wpList_load_mid Z _ (.tmp 11) Z w.heap.size 3 Z _ _ hE.out hu Z E ?_)
 refine C3.out.mono ?_;rintro _ f ⟨c,rfl,M,R⟩;have J:=endL.len M;have he:=Qi (all_oneCell_toArray (Qmn _ _ _ _ M));have Q:=g.out.below R;have U:=Q.at (a:=[_]);have HT:=Qi (Blk.there (o:=3) (n:=c.toArray.size) U (by rw[List.size_toArray,J];exact Ze));have HK:=Qi (E.trans (congrArg some J.symm));have HZ:=Blk.sets c [Iv x.regs,.slice r x.params.length u,.slice j x.code.length l] _ f (by rw[J];rfl) U;have hR:=Q.at (a:=[]);rw[V] at hR
 have R6:Hid (Blk (f.setCells w.heap.size 3 c) (w.heap.size+1) _ _):=(QO (by omega) c 3 f).trans hR;have E6:=Qi (QI Ze c f w 3 Q.bel);have RZ:=Qi (Blk.range HZ);have hO:Hid (∀ k,z.heap.size<=k->(f.setCells w.heap.size 3 c).heap[k]?=f.heap[k]?):=fun k h=>QO (by omega) c 3 f;have L1:=Qi (Ya S.out R);have L2:=Qi (Ya K2.out R);have L3:=Qi (QbX M C.out);have aa:=H.out.bnd;clear Q U HZ hR C3 S K2 M R hE g H K C V;go_upto_region 4 with (refine wpList_store_mid Z _ (.tmp 14) (.tmp 13) Z w.heap.size 3 c.toArray Z Z HT.out HK.out he.out ?_)
 generalize World.setCells f _ _ _=w9 at R6 E6 RZ hO |-;have D:=underlying86;have m:([Iv x.regs,.slice r x.params.length u,.slice j x.code.length l]++c:List Value).length=12:=by rw[List.length_append,J];rfl
 have d:=Qi ((QbO infoBlock).trans (congrArg some m.symm));have y:=Qi m;have G:=Qi (all_oneCell_toArray (cs:=[Iv x.regs,.slice r x.params.length u,.slice j x.code.length l]++c) (fun v hv=>(List.mem_append.1 hv).elim (fun h=>Xe.1 (rfl:([Iv x.regs,.slice r x.params.length u,.slice j x.code.length l]:List Value).all (·.oneCell')=true) v h) (Qmn _ _ _ _ L3.out v)));generalize I:([Iv x.regs,.slice r x.params.length u,.slice j x.code.length l]++c:List Value)=q at RZ d y G;replace I:=Qi I;clear m HT HK he J;go_wp2_with (first | (refine wpList_load_mid Z _ (.tmp 1) Z w.heap.size 0 Z q _ RZ.out D Z d.out ?_) | (refine wpList_store_mid Z _ (.tmp 2) (.tmp 15) Z (w.heap.size+1) 0 q.toArray Z Z (Blk.there R6.out (by rw[List.size_toArray,y.out];exact Ze)) d.out G.out ?_))
 have W:∀ k,z.heap.size<=k->(w9.setCells (w.heap.size+1) 0 q).heap[k]?=f.heap[k]?:=fun k h=>(QO (by have:=b.out;omega) _ 0 w9).trans (hO.out k h);have X:w.heap.size<=z.heap.size:=by omega
 replace I:=I.out;subst I;refine Qcl (t:=2) Z Z Z (Blk.setsA R6.out _ y.out) D Z d.out ⟨_,Z,?_,QI (by omega) _ _ _ 0 E6.out⟩;exact QgU (Lay.keep _ (fun k h _=>W k h) (fun k h _=>Zt X h) L1.out) (Lay.keep _ (fun k h _=>W k h) (fun k h _=>Zt X h) L2.out) (Lay.keep _ (fun k h _=>W k h) (fun k h _=>Zt X h) L3.out) aa
theorem QkG {x:MFunc n}(h:(QaF n).In w All x ds) (hs:x.small):Calls prog 77 #[.agg ds.toArray] w fun e w'=>QjK (QaF n) w w' x e:=by
 obtain⟨i,rfl,hb⟩:=QdD h
 have H:=Qi hb;have u:=Qi hs;clear h hb hs;have f:=Qi (((Bxs.start w).new #[Iv x.regs,.slice i.pP x.params.length i.cP,.slice i.pR x.results.length i.cR,.slice i.pB x.blocks.length i.cB] 89).new #[Iv 0,Nv,Nv,Nv] 89);have J:∀ o,(w.alloc o).heap.size=w.heap.size+1:=fun o=>by simp
 have b:=Qi ((f.out.at (a:=[])).lt);rw[J] at b
 go_enter func77,ntmps77
 go_upto_region 1 with fail
 generalize World.alloc (World.alloc w _) _=v at f b |-;have c1:=f.out.cell (a:=[_]) 1 _ Z;have C1:=Qi (Qdv (Ya H.out.params f.out.bel) u.out.2.1);go_wp2_with fail
 refine C1.out.mono ?_;rintro _ w4 ⟨X,d1,rfl,I1,U⟩;have C:=f.out.below U;replace c1:=C.cell (a:=[_]) 1 _ Z;have z1:=C.free (a:=[_]) 1;have l:=Qi (C.set (a:=[_]) 1 (.slice X x.params.length d1));have N:=Qi (Qd0 I1 (p:=⟨w.heap.size,1,none⟩) (by have:=b.out;show w.heap.size<_;omega) (.slice X x.params.length d1));have b5:=Qi U.size;clear C C1 I1 U f;go_upto_region 2 with fail
 generalize r:World.setCell w4 _ _=w5 at l N |-;have d:Hid (v.heap.size<=w5.heap.size):=by show _<=_;rw[<-r];simpa using b5.out
 clear r b5 c1 z1;have c2:=l.out.cell (a:=[_]) 2 _ Z;have C2:=Qi (Qdv (Ya H.out.results l.out.bel) u.out.2.2.1);go_wp2_with fail
 refine C2.out.mono ?_;rintro _ w6 ⟨M,P,rfl,W,B⟩;have z:=l.out.below B;replace c2:=z.cell (a:=[_]) 2 _ Z;have z2:=z.free (a:=[_]) 2;have g:=Qi (z.set (a:=[_]) 2 (.slice M x.results.length P));have q:w.heap.size<v.heap.size:=by have:=b.out;omega
 have I:=Qi (Qd0 (Ya N.out B) (p:=⟨w.heap.size,2,none⟩) q (.slice M x.results.length P));have Q:=Qi (Qd0 (QbX W d.out) (p:=⟨w.heap.size,2,none⟩) q (.slice M x.results.length P));have b7:=Qi (Zt d.out B.size);clear z C2 W B l N;go_upto_region 3 with fail
 generalize s:World.setCell w6 _ _=w7 at g I Q |-;have m:Hid (v.heap.size<=w7.heap.size):=by show _<=_;rw[<-s];simpa using b7.out
 clear s b7 c2 z2 d;have c3:=g.out.cell (a:=[_]) 3 _ Z;have C3:=Qi (Qam (A:=ZV n) (.inr (.inr (.inl ⟨Z,Z⟩))) enters3 (Ya H.out.blocks g.out.bel) (by have:=u.out.1;omega) Qnn (fun y hy ds wx h=>QiW h (u.out.2.2.2 y hy)));go_wp2_with fail
 refine C3.out.mono ?_;rintro _ w8 ⟨F,D,rfl,V,G⟩;have E:=g.out.below G;replace c3:=E.cell (a:=[_]) 3 _ Z;have z3:=E.free (a:=[_]) 3;have j:=E.set (a:=[_]) 3 (.slice F x.blocks.length D);simp only[List.setIfInBounds_toArray,List.set_cons_zero,List.set_cons_succ] at j
 have S:=j.at (a:=[]);rw[J] at S
 have O:=Qi S;have E6:=Qi j.bel;have RZ:=Qi (Blk.range (j.at (a:=[_])));have L1:=Qi (Qd0 (Ya I.out G) (p:=⟨w.heap.size,3,none⟩) q (.slice F x.blocks.length D));have L2:=Qi (Qd0 (Ya Q.out G) (p:=⟨w.heap.size,3,none⟩) q (.slice F x.blocks.length D));have L3:=Qi (Qd0 (QbX V m.out) (p:=⟨w.heap.size,3,none⟩) q (.slice F x.blocks.length D));have R:=H.out.bnd;clear E j S C3 I Q V G g H u m J;go_upto_region 4 with fail
 generalize World.setCell w8 _ _=T at O E6 RZ L1 L2 L3 |-;clear c3 z3;have hu:=underlying89;have c:=QbO infoFunc;go_wp2_with (first | (refine wpList_load_mid Z _ (.tmp 1) Z w.heap.size 0 Z _ _ RZ.out hu Z c ?_) | (refine wpList_store_mid Z _ (.tmp 2) (.tmp 15) Z (w.heap.size+1) 0 _ Z Z (Blk.there O.out Ze) c (all_oneCell_toArray (Xe.1 Z)) ?_))
 have K:∀ vs k,v.heap.size<=k->(T.setCells (w.heap.size+1) 0 vs).heap[k]?=T.heap[k]?:=fun vs k h=>QO (by have:=b.out;omega) _ 0 T;have L:w.heap.size<=v.heap.size:=by omega
 exact Qcl (t:=2) Z Z Z (Blk.setsA O.out _ Z) hu Z c ⟨_,Z,QiL (Lay.keep _ (fun k h _=>K _ k h) (fun k h _=>Zt L h) L1.out) (Lay.keep _ (fun k h _=>K _ k h) (fun k h _=>Zt L h) L2.out) (Lay.keep _ (fun k h _=>K _ k h) (fun k h _=>Zt L h) L3.out) R,QI (by omega) _ _ _ 0 E6.out⟩
theorem Qj8 (m:List (MFunc n)) (p:Option Addr) (c:Nat) (w:World) (h:(Qar n).In w All m [.slice p m.length c]) (g:Qcz m) :
 Calls prog 47 #[.agg #[.slice p m.length c]] w fun e w'=>∃ v,e=.returned v/\(∃ a' c',v=.agg #[.slice a' m.length c']/\(Qar n).In w' (QdN w.heap.size) m [.slice a' m.length c'])/\Below w.heap.size w w':=by
 have H:=Qi h;have q:=Qi g;clear h g;have d:=Qi (((Bxs.start w).new #[.slice p m.length c] 24).new #[Nv] 24);have k:∀ o,(w.alloc o).heap.size=w.heap.size+1:=fun o=>by simp
 have b:=Qi ((d.out.at (a:=[])).lt);rw[k] at b
 go_enter func47,ntmps47
 go_upto_region 1 with fail
 generalize World.alloc (World.alloc w _) _=E at d b |-;have L:=d.out.cell (a:=[_]) 0 _ Z;have r:=Qi (Qam (A:=QaF n) (.inr (.inr (.inr ⟨Z,Z⟩))) enters4 (Ya H.out d.out.bel) (by have:=q.out.1;omega) Qnj (fun y D F J h=>QkG h (q.out.2 y D)));go_wp2_with fail
 refine r.out.mono ?_;rintro _ I ⟨i,j,rfl,s,u⟩;have l:=d.out.below u;have f:=l.at (a:=[]);rw[k] at f
 have G:=Qa f 0 _ Z;have K:=Qd f 0;have x:w.heap.size+1<E.heap.size:=b.out;have B:=Qi (Qm f 0 (.slice i m.length j));have C:=Qi (Qd0 s (p:=⟨w.heap.size+1,0,none⟩) x (.slice i m.length j));have z:=Qi (l.bel.setCell (p:=⟨w.heap.size+1,0,none⟩) (by show w.heap.size<=w.heap.size+1;omega) (.slice i m.length j));clear l r s u d f k H q b;go_wp2
 exact Qcl (t:=2) Z Z Z B.out underlying24 Z (by kernel_rfl) ⟨_,Z,⟨i,j,Z,QbX C.out (by omega)⟩,z.out⟩
theorem Qit (x:MTo) (bl:Nat):x.form bl true=if rangeC x.block 0 ((bl:Int) - 1)=0 then handedC x.regs.length 16 x.args.length else rangeC x.block 0 ((bl:Int) - 1):=by
 unfold MTo.form rangeC handedC manyC;simp only[Bool.true_eq_false,if_false]
 repeat' split
 all_goals omega
theorem Qiv (x:MTo) (bl:Nat):x.form bl false=if x.block=0/\x.regs.length=0/\x.args.length=0 then 0 else 4:=by
 unfold MTo.form;simp only[if_true]
 repeat' split
 all_goals omega
theorem QhL (e:MEnd) (bl:Nat):e.form bl=if e.op<1\/3<e.op then 3 else if (e.op≠2/\e.a≠0)\/(e.op≠3/\0<e.args.length) then 4 else if 8<e.args.length then 2
 else if e.yes.form bl (e.op != 3)=0 then e.no.form bl (e.op==2) else e.yes.form bl (e.op != 3):=by
 unfold MEnd.form;have g:decide (e.op≠3)=(e.op != 3):=by by_cases h:e.op=3<;>simp[h]
 have i:decide (e.op=2)=(e.op==2):=by by_cases h:e.op=2<;>simp[h]
 rw[g,i]
 by_cases d:e.op<1\/3<e.op
 ·simp[d]
 ·rw[Xr d,Xr d]
  by_cases b:(e.op≠2/\e.a≠0)\/(e.op≠3/\0<e.args.length)
  ·rw[Xs b,Xs (b.imp (fun h=>⟨h.2,h.1⟩) (fun h=>⟨h.2,h.1⟩))]
  ·rw[Xr b,Xr (fun h=>b (h.imp (fun h=>⟨h.2,h.1⟩) (fun h=>⟨h.2,h.1⟩)))]
   by_cases c:8<e.args.length
   ·simp[c]
   ·rw[Xr c,Xr c]
    by_cases f:e.yes.form bl (e.op != 3)=0
    ·simp[f]
    ·simp[f]
theorem QlF {a:Int}{b c:Nat}{fb:Option Addr}:Rd prog 230 #[.agg #[Iv fr,.slice fp fl fc,.slice fq fm fd,.slice fb bl fe],.agg #[Iv a,.slice pR b cR,.slice pA c cA],.bool false] w (Iv (if a=0/\b=0/\c=0 then 0 else 4)):=by
 unfold Rd;rcases (show a=0/\b=0/\c=0\/¬ a=0\/a=0/\(0:Int)<b\/a=0/\b=0/\(0:Int)<c by omega) with ⟨rfl,rfl,rfl⟩ | g | ⟨rfl,g⟩|⟨rfl,rfl,g⟩
 rw[Xs ⟨Z,Z,Z⟩]
 rotate_left
 all_goals
  try rw[Xr (by omega)]
  try rw[<-bne_iff_ne,bne,Bool.not_eq_true'] at g
  go_enter func230,ntmps230
  go_wp2
  go_ret;exact⟨Z,Qih _ _ _⟩
theorem QlS {a:Int}{b c:Nat}{fb:Option Addr}(t:bl<2305843009213693952):Rd prog 230 #[.agg #[Iv fr,.slice fp fl fc,.slice fq fm fd,.slice fb bl fe],.agg #[Iv a,.slice pR b cR,.slice pA c cA],.bool true] w (Iv (if rangeC a 0 ((bl:Int) - 1)=0 then handedC b 16 c else rangeC a 0 ((bl:Int) - 1))):=by
 have C:Hid (∀ d:World,Calls prog 262 #[Iv a,Iv 0,Iv ((bl:Int) - 1)] d fun e n=>e=.returned (Iv (rangeC a 0 ((bl:Int) - 1)))/\Below d.heap.size d n):=fun d=>QaX;have j:Hid (∀ d:World,Calls prog 264 #[.slice pR b cR,Iv 16,.slice pA c cA] d fun e n=>e=.returned (Iv (handedC b 16 c))/\Below d.heap.size d n):=fun d=>QbE;generalize rangeC a 0 ((bl:Int) - 1)=v at C |-;generalize handedC b 16 c=u at j |-;have g:Blk ((w.alloc (.cells #[Iv fr,.slice fp fl fc,.slice fq fm fd,.slice fb bl fe] 89)).alloc (.cells #[Iv a,.slice pR b cR,.slice pA c cA] 82)) (w.heap.size+1) #[Iv a,.slice pR b cR,.slice pA c cA] 82:=Blk.new2 _ _ _ _;have f:Hid (Below w.heap.size w ((w.alloc (.cells #[Iv fr,.slice fp fl fc,.slice fq fm fd,.slice fb bl fe] 89)).alloc (.cells #[Iv a,.slice pR b cR,.slice pA c cA] 82))):=Qih _ _ _;unfold Rd;by_cases k:v=0
 ·subst k;rw[Xs Z]
  go_enter func230,ntmps230
  go_wp2_with fail
  generalize ((w.alloc (.cells #[Iv fr,.slice fp fl fc,.slice fq fm fd,.slice fb bl fe] 89)).alloc (.cells #[Iv a,.slice pR b cR,.slice pA c cA] 82))=p at g f |-;refine(C.out _).mono ?_
  rintro e m ⟨rfl,h⟩;have l:=(h.block _ (XC g)).trans g;have i:Hid (Below w.heap.size w m):=f.out.trans (h.mono f.out.size);have y:=Qa l 1 _ Z;have x:=Qa l 2 _ Z;clear h C g f l;go_wp2_with fail
  refine(j.out _).mono ?_
  rintro e s ⟨rfl,o⟩;have r:Hid (Below w.heap.size w s):=i.out.trans (o.mono i.out.size);clear o j i;go_wp2
  go_ret;exact⟨Z,r.out⟩
 ·rw[Xr k]
  have q:(v==0)=false:=by simpa using k
  go_enter func230,ntmps230
  go_wp2_with fail
  generalize ((w.alloc (.cells #[Iv fr,.slice fp fl fc,.slice fq fm fd,.slice fb bl fe] 89)).alloc (.cells #[Iv a,.slice pR b cR,.slice pA c cA] 82))=p at g f |-;refine(C.out _).mono ?_
  rintro e m ⟨rfl,h⟩;have i:Hid (Below w.heap.size w m):=f.out.trans (h.mono f.out.size);clear h C j g f;go_wp2
  go_ret;exact⟨Z,i.out⟩
theorem Qd6 {x:MTo}{fb:Option Addr}(a:Bool)(b:bl<2305843009213693952) :
 Rd prog 230 #[.agg #[Iv fr,.slice fp fl fc,.slice fq fm fd,.slice fb bl fe],.agg #[Iv x.block,.slice pR x.regs.length cR,.slice pA x.args.length cA],.bool a] w (Iv (x.form bl a)):=by
 cases a
 ·rw[Qiv];exact QlF
 ·rw[Qit];exact QlS b
theorem Qj1 {a r v x:Int}{b m f j A:Option Addr}{n o k d i c l p q B:Nat}{fb:Option Addr}{u G:Int}(I:¬ (a<1\/3<a)) (K:¬ ((a≠2/\r≠0)\/(a≠3/\0<q))) (J:¬ 8<q)
 (H:Hid (∀ wx:World,Calls prog 230 #[.agg #[Iv fr,.slice fp fl fc,.slice fq fm fd,.slice fb bl fe],.agg #[Iv v,.slice b n o,.slice m k d],.bool (a != 3)] wx fun e w'=>e=.returned (Iv u)/\Below wx.heap.size wx w'))
 (C:Hid (∀ wx:World,Calls prog 230 #[.agg #[Iv fr,.slice fp fl fc,.slice fq fm fd,.slice fb bl fe],.agg #[Iv x,.slice f i c,.slice j l p],.bool (a==2)] wx fun e w'=>e=.returned (Iv G)/\Below wx.heap.size wx w')) :
 Rd prog 185 #[.agg #[Iv fr,.slice fp fl fc,.slice fq fm fd,.slice fb bl fe],.agg #[Iv a,Iv r,Iv v,.slice b n o,.slice m k d,Iv x,.slice f i c,.slice j l p,.slice A q B]] w (Iv (if u=0 then G else u)):=by
 obtain⟨s,t⟩:∃ s,s=(w.alloc (.cells #[Iv fr,.slice fp fl fc,.slice fq fm fd,.slice fb bl fe] 89)).alloc (.cells #[Iv a,Iv r,Iv v,.slice b n o,.slice m k d,Iv x,.slice f i c,.slice j l p,.slice A q B] 84):=⟨_,Z⟩
 have h:Blk s w.heap.size #[Iv fr,.slice fp fl fc,.slice fq fm fd,.slice fb bl fe] 89:=by rw[t];exact Blk.new1 _ _ _ _ _
 have g:Blk s (w.heap.size+1) #[Iv a,Iv r,Iv v,.slice b n o,.slice m k d,Iv x,.slice f i c,.slice j l p,.slice A q B] 84:=by rw[t];exact Blk.new2 _ _ _ _
 have D:Hid (Below w.heap.size w s):=by rw[t];exact Qih _ _ _
 unfold Rd;have P:¬ (8:Int)<q:=by omega
 rcases (show a=1/\r=0/\q=0\/a=2/\q=0\/a=3/\r=0 by omega) with ⟨rfl,rfl,rfl⟩|⟨rfl,rfl⟩|⟨rfl,rfl⟩
 all_goals
  clear I K J;go_enter func185,ntmps185
  go_wp2_with fail
  rw[<-t]
  clear t;refine(H.out _).mono ?_
  rintro e L ⟨rfl,z⟩;replace h:=(z.block _ (XC h)).trans h;replace g:=(z.block _ (XC g)).trans g;have y:Hid (Below w.heap.size w L):=D.out.trans (z.mono D.out.size);clear z H D;by_cases E:u=0
  ·subst E;have U:=Qa h 0 _ Z;have Q:=Qa h 1 _ Z;have X:=Qa h 2 _ Z;have T:=Qa h 3 _ Z;have R:=Qa g 0 _ Z;have V:=Qa g 5 _ Z;have W:=Qa g 6 _ Z;have S:=Qa g 7 _ Z;clear h g;go_wp2_with fail
   refine(C.out _).mono ?_
   rintro e O ⟨rfl,F⟩;have N:Hid (Below w.heap.size w O):=y.out.trans (F.mono y.out.size);clear F C y;go_wp2
   go_ret;exact⟨Z,N.out⟩
  ·have M:(u==0)=false:=by simpa using E
   clear C h g;go_wp2
   go_ret;exact⟨Z,y.out⟩
theorem QgG {a c t u:Int}{d n i k r:Option Addr}{o p l f j e m q b s:Nat}{fb:Option Addr}{v:Int}(h:(v=3/\(a<1\/3<a))\/(v=4/\¬ (a<1\/3<a)/\((a≠2/\c≠0)\/(a≠3/\0<b)))\/(v=2/\¬ (a<1\/3<a)/\¬ ((a≠2/\c≠0)\/(a≠3/\0<b))/\8<b)) :
 Rd prog 185 #[.agg #[Iv fr,.slice fp fl fc,.slice fq fm fd,.slice fb bl fe],.agg #[Iv a,Iv c,Iv t,.slice d o p,.slice n l f,Iv u,.slice i j e,.slice k m q,.slice r b s]] w (Iv v):=by
 unfold Rd;rcases (show v=3/\a<1\/v=3/\¬ a<1/\3<a\/v=4/\a=1/\c=0/\(0:Int)<b\/v=4/\a=1/\¬ c=0\/v=4/\a=2/\(0:Int)<b\/v=4/\a=3/\¬ c=0\/v=2/\a=3/\c=0/\(8:Int)<b by omega) with ⟨rfl,g⟩|⟨rfl,x,g⟩|⟨rfl,rfl,rfl,g⟩|⟨rfl,rfl,g⟩|⟨rfl,rfl,g⟩|⟨rfl,rfl,g⟩|⟨rfl,rfl,rfl,g⟩
 all_goals
  try rw[<-bne_iff_ne,bne,Bool.not_eq_true'] at g
  clear h;go_enter func185,ntmps185
  go_wp2
  go_ret;exact⟨Z,Qih _ _ _⟩
theorem QkI {x:MEnd}{e:EP}{fb:Option Addr}(g:x.yes.regs.length<2305843009213693952/\x.yes.args.length<2305843009213693952/\x.no.regs.length<2305843009213693952/\x.no.args.length<2305843009213693952) (d:bl<2305843009213693952):Rd prog 185 #[.agg #[Iv fr,.slice fp fl fc,.slice fq fm fd,.slice fb bl fe],.agg #[Iv x.op,Iv x.a,Iv x.yes.block,.slice e.pYR x.yes.regs.length e.cYR,.slice e.pYA x.yes.args.length e.cYA,Iv x.no.block,.slice e.pNR x.no.regs.length e.cNR,.slice e.pNA x.no.args.length e.cNA,.slice e.pA x.args.length e.cA]] w (Iv (x.form bl)):=by
 rw[QhL]
 by_cases b:x.op<1\/3<x.op
 ·rw[Xs b];exact QgG (.inl ⟨Z,b⟩)
 rw[Xr b]
 by_cases c:(x.op≠2/\x.a≠0)\/(x.op≠3/\0<x.args.length)
 ·rw[Xs c];exact QgG (.inr (.inl ⟨Z,b,c⟩))
 rw[Xr c]
 by_cases f:8<x.args.length
 ·rw[Xs f];exact QgG (.inr (.inr ⟨Z,b,c,f⟩))
 rw[Xr f]
 exact Qj1 b c f (fun _=>Qd6 _ d) (fun _=>Qd6 _ d)
theorem typeFault_any:∀ n,QeS 127 n:=by
 intro n
 induction n with
 | zero=>intro t;exact Empty.elim t
 | succ n ih =>
   intro t a c b w ht X;have IH:Hid (QeS 127 n):=ih;clear ih;have hT:Hid (LIn w All t.2.2 a):=ht.list;have S:Hid (∀ x∈t.2.2,x.count<=100000):=fun x J=>by have:=t.count_kid J;omega
   have G:t.2.2.length<=100000:=by have:=t.len_lt_count;rw[t.len_eq] at this;omega
   have m:Hid (t.fault b=if ownC t.kind t.r t.2.2.length b≠0 then ownC t.kind t.r t.2.2.length b else QD (TT.fault b) t.2.2):=rfl;generalize t.fault b=h at m |-;simp only[Tv,TT.len_eq]
   generalize t.2.2=l at hT S m G |-;generalize t.kind=k at m |-;generalize t.r=r at m |-;clear ht X t;generalize N:l.length=d at m G |-;have U:Hid (l.length=d):=N;clear N;rcases (show k<1\/(¬ k<1/\4<k)\/k=1\/k=2\/k=4\/k=3 by omega) with p | ⟨p,E⟩ | rfl | rfl | rfl | rfl
   ·have f:=m.out;rw[show ownC _ _ d b=3 by unfold ownC;repeat' split;all_goals omega] at f
    clear m;replace f:Hid (h=3):=by show h=3;simpa using f
    go_enter func127,ntmps127
    go_wp2_with fail
    go_ret;exact⟨by rw[f.out];rfl,(Below.refl _ w).alloc Ze _⟩
   ·have f:=m.out;rw[show ownC _ _ d b=3 by unfold ownC;repeat' split;all_goals omega] at f
    clear m;replace f:Hid (h=3):=by show h=3;simpa using f
    go_enter func127,ntmps127
    go_wp2_with fail
    go_ret;exact⟨by rw[f.out];rfl,(Below.refl _ w).alloc Ze _⟩
   ·rcases (show r≠0\/(r=0/\0<d)\/(r=0/\d=0) by omega) with p | ⟨rfl,p⟩|⟨rfl,p⟩
    ·have z:(r != 0)=true:=by simpa using p
     have f:=m.out;rw[show ownC _ _ d b=4 by unfold ownC;repeat' split;all_goals omega] at f
     clear m;replace f:Hid (h=4):=by show h=4;simpa using f
     go_enter func127,ntmps127
     go_wp2_with fail
     go_ret;exact⟨by rw[f.out];rfl,(Below.refl _ w).alloc Ze _⟩
    ·have z:(0:Int)<(d:Int):=by omega
     have f:=m.out;rw[show ownC _ _ d b=4 by unfold ownC;repeat' split;all_goals omega] at f
     clear m;replace f:Hid (h=4):=by show h=4;simpa using f
     go_enter func127,ntmps127
     go_wp2_with fail
     go_ret;exact⟨by rw[f.out];rfl,(Below.refl _ w).alloc Ze _⟩
    ·have z:¬ (0:Int)<(d:Int):=by omega
     have F:¬ (8:Int)<(d:Int):=by omega
     have f:=m.out;rw[show ownC _ _ d b=0 by unfold ownC;repeat' split;all_goals omega] at f
     clear m;have R:Hid (h=QD (TT.fault b) l):=by show h=QD (TT.fault b) l;simpa using f
     clear f
     have T:Hid (h=0):=by
      have D:l=[]:=Xf.1 (U.out.trans p)
      have:=R.out
      rw[D] at this
      exact this
     subst p;clear R z F;go_enter func127,ntmps127
     go_wp2_with fail
     have B:=Bx.start w 1 0 a 0 c;generalize w.alloc (.cells #[Iv 1,Iv 0,.slice a 0 c] 105)=I at B |-;have s:Hid (Bx w I 1 0 a 0 c):=B;clear B;go_loopw [5] (fun i wr=>i=Iv 0/\Bx w wr 1 0 a 0 c) (fun _ _=>0)
     case atStart=>exact⟨Z,s.out⟩
     case round =>
      clear s;obtain⟨rfl,u⟩:=hrel
      have s:Hid (Bx w wr 1 0 a 0 c):=u;have V:wr.cell? ⟨w.heap.size,2,none⟩=some (.slice a 0 c):=Qa u.box 2 _ Z;clear u;go_wp2
      go_ret;exact⟨by rw[T.out];rfl,s.out.bel⟩
   ·rcases (show 0<d\/(d=0/\r<0)\/(d=0/\0<=r/\b<=r)\/(d=0/\0<=r/\r<b) by omega) with p | ⟨p,E⟩|⟨p,E,Q⟩|⟨p,E,Q⟩
    ·have z:(0:Int)<(d:Int):=by omega
     have f:=m.out;rw[show ownC _ _ d b=4 by unfold ownC;repeat' split;all_goals omega] at f
     clear m;replace f:Hid (h=4):=by show h=4;simpa using f
     go_enter func127,ntmps127
     go_wp2_with fail
     go_ret;exact⟨by rw[f.out];rfl,(Below.refl _ w).alloc Ze _⟩
    ·have z:¬ (0:Int)<(d:Int):=by omega
     have F:¬ (8:Int)<(d:Int):=by omega
     have f:=m.out;rw[show ownC _ _ d b=1 by unfold ownC;repeat' split;all_goals omega] at f
     clear m;replace f:Hid (h=1):=by show h=1;simpa using f
     go_enter func127,ntmps127
     go_wp2_with fail
     go_ret;exact⟨by rw[f.out];rfl,(Below.refl _ w).alloc Ze _⟩
    ·have z:¬ (0:Int)<(d:Int):=by omega
     have F:¬ (8:Int)<(d:Int):=by omega
     have f:=m.out;rw[show ownC _ _ d b=1 by unfold ownC;repeat' split;all_goals omega] at f
     clear m;replace f:Hid (h=1):=by show h=1;simpa using f
     go_enter func127,ntmps127
     go_wp2_with fail
     go_ret;exact⟨by rw[f.out];rfl,(Below.refl _ w).alloc Ze _⟩
    ·have z:¬ (0:Int)<(d:Int):=by omega
     have F:¬ (8:Int)<(d:Int):=by omega
     have f:=m.out;rw[show ownC _ _ d b=0 by unfold ownC;repeat' split;all_goals omega] at f
     clear m;have R:Hid (h=QD (TT.fault b) l):=by show h=QD (TT.fault b) l;simpa using f
     clear f
     have T:Hid (h=0):=by
      have D:l=[]:=Xf.1 (U.out.trans p)
      have:=R.out
      rw[D] at this
      exact this
     subst p;clear R z F;go_enter func127,ntmps127
     go_wp2_with fail
     have B:=Bx.start w 2 r a 0 c;generalize w.alloc (.cells #[Iv 2,Iv r,.slice a 0 c] 105)=I at B |-;have s:Hid (Bx w I 2 r a 0 c):=B;clear B;go_loopw [5] (fun i wr=>i=Iv 0/\Bx w wr 2 r a 0 c) (fun _ _=>0)
     case atStart=>exact⟨Z,s.out⟩
     case round =>
      clear s;obtain⟨rfl,u⟩:=hrel
      have s:Hid (Bx w wr 2 r a 0 c):=u;have V:wr.cell? ⟨w.heap.size,2,none⟩=some (.slice a 0 c):=Qa u.box 2 _ Z;clear u;go_wp2
      go_ret;exact⟨by rw[T.out];rfl,s.out.bel⟩
   ·rcases (show 0<d\/(d=0/\r<0)\/(d=0/\0<=r/\b<=r)\/(d=0/\0<=r/\r<b) by omega) with p | ⟨p,E⟩|⟨p,E,Q⟩|⟨p,E,Q⟩
    ·have z:(0:Int)<(d:Int):=by omega
     have f:=m.out;rw[show ownC _ _ d b=4 by unfold ownC;repeat' split;all_goals omega] at f
     clear m;replace f:Hid (h=4):=by show h=4;simpa using f
     go_enter func127,ntmps127
     go_wp2_with fail
     go_ret;exact⟨by rw[f.out];rfl,(Below.refl _ w).alloc Ze _⟩
    ·have z:¬ (0:Int)<(d:Int):=by omega
     have F:¬ (8:Int)<(d:Int):=by omega
     have f:=m.out;rw[show ownC _ _ d b=1 by unfold ownC;repeat' split;all_goals omega] at f
     clear m;replace f:Hid (h=1):=by show h=1;simpa using f
     go_enter func127,ntmps127
     go_wp2_with fail
     go_ret;exact⟨by rw[f.out];rfl,(Below.refl _ w).alloc Ze _⟩
    ·have z:¬ (0:Int)<(d:Int):=by omega
     have F:¬ (8:Int)<(d:Int):=by omega
     have f:=m.out;rw[show ownC _ _ d b=1 by unfold ownC;repeat' split;all_goals omega] at f
     clear m;replace f:Hid (h=1):=by show h=1;simpa using f
     go_enter func127,ntmps127
     go_wp2_with fail
     go_ret;exact⟨by rw[f.out];rfl,(Below.refl _ w).alloc Ze _⟩
    ·have z:¬ (0:Int)<(d:Int):=by omega
     have F:¬ (8:Int)<(d:Int):=by omega
     have f:=m.out;rw[show ownC _ _ d b=0 by unfold ownC;repeat' split;all_goals omega] at f
     clear m;have R:Hid (h=QD (TT.fault b) l):=by show h=QD (TT.fault b) l;simpa using f
     clear f
     have T:Hid (h=0):=by
      have D:l=[]:=Xf.1 (U.out.trans p)
      have:=R.out
      rw[D] at this
      exact this
     subst p;clear R z F;go_enter func127,ntmps127
     go_wp2_with fail
     have B:=Bx.start w 4 r a 0 c;generalize w.alloc (.cells #[Iv 4,Iv r,.slice a 0 c] 105)=I at B |-;have s:Hid (Bx w I 4 r a 0 c):=B;clear B;go_loopw [5] (fun i wr=>i=Iv 0/\Bx w wr 4 r a 0 c) (fun _ _=>0)
     case atStart=>exact⟨Z,s.out⟩
     case round =>
      clear s;obtain⟨rfl,u⟩:=hrel
      have s:Hid (Bx w wr 4 r a 0 c):=u;have V:wr.cell? ⟨w.heap.size,2,none⟩=some (.slice a 0 c):=Qa u.box 2 _ Z;clear u;go_wp2
      go_ret;exact⟨by rw[T.out];rfl,s.out.bel⟩
   ·rcases (show 8<d\/(d<=8/\r<0)\/(d<=8/\0<=r/\b<=r)\/(d<=8/\0<=r/\r<b) by omega) with p | ⟨p,E⟩|⟨p,E,Q⟩|⟨p,E,Q⟩
    ·have z:(8:Int)<(d:Int):=by omega
     have f:=m.out;rw[show ownC _ _ d b=2 by unfold ownC;repeat' split;all_goals omega] at f
     clear m;replace f:Hid (h=2):=by show h=2;simpa using f
     go_enter func127,ntmps127
     go_wp2_with fail
     go_ret;exact⟨by rw[f.out];rfl,(Below.refl _ w).alloc Ze _⟩
    ·have z:¬ (8:Int)<(d:Int):=by omega
     have f:=m.out;rw[show ownC _ _ d b=1 by unfold ownC;repeat' split;all_goals omega] at f
     clear m;replace f:Hid (h=1):=by show h=1;simpa using f
     go_enter func127,ntmps127
     go_wp2_with fail
     go_ret;exact⟨by rw[f.out];rfl,(Below.refl _ w).alloc Ze _⟩
    ·have z:¬ (8:Int)<(d:Int):=by omega
     have f:=m.out;rw[show ownC _ _ d b=1 by unfold ownC;repeat' split;all_goals omega] at f
     clear m;replace f:Hid (h=1):=by show h=1;simpa using f
     go_enter func127,ntmps127
     go_wp2_with fail
     go_ret;exact⟨by rw[f.out];rfl,(Below.refl _ w).alloc Ze _⟩
    ·have z:¬ (8:Int)<(d:Int):=by omega
     have f:=m.out;rw[show ownC _ _ d b=0 by unfold ownC;repeat' split;all_goals omega] at f
     clear m;have R:Hid (h=QD (TT.fault b) l):=by show h=QD (TT.fault b) l;simpa using f
     clear f;go_enter func127,ntmps127
     go_wp2_with fail
     have B:=Bx.start w 3 r a d c;generalize w.alloc (.cells #[Iv 3,Iv r,.slice a d c] 105)=I at B |-;have s:Hid (Bx w I 3 r a d c):=B;clear B;go_loopw [5] (fun i wr=>∃ q:Nat,q<=d/\i=Iv q/\(∀ (j:Nat) x,j<q->l[j]?=some x->x.fault b=0)/\Bx w wr 3 r a d c) (fun i _=>d - (intOf i).toNat)
     case atStart=>exact⟨0,Xb _,Z,fun j x hj=>by omega,s.out⟩
     case round =>
      clear s;obtain⟨q,hq,rfl,H,u⟩:=hrel
      have A:Hid (∀ (j:Nat) x,j<q->l[j]?=some x->x.fault b=0):=H;have s:Hid (Bx w wr 3 r a d c):=u;have V:wr.cell? ⟨w.heap.size,2,none⟩=some (.slice a d c):=Qa u.box 2 _ Z;clear H;by_cases ac:q<d
      ·have O:q<l.length:=by have:=U.out;omega
       have J:l[q]?=some l[q]:=Zg O;generalize l[q]=x at J;clear O;obtain⟨g,o,a',c',rfl,_,d0,d1,d2,hk⟩:=LIn.at (hT.out.below u.bel) J
       have P:Hid (l[q]?=some x):=J;have ad:(0:Int)<=q:=by omega
       have aa:(q:Int)<d:=by omega
       have C:Hid (∀ L,Below wr.heap.size wr L->Calls prog 127 #[Tv x a' c',Iv b] L fun e w'=>e=.returned (Iv (x.fault b))/\Below L.heap.size L w') :=
        fun L hb=>IH.out x a' c' b L (hk.below hb) (S.out x (Zm J))
       clear u hk J;simp only[Tv] at C
       generalize x.kind=kx at C d0;generalize x.r=rx at C d1;generalize x.len=lx at C d2;go_wp2_with fail
       refine(C.out _ Zr).mono ?_
       rintro e w2 ⟨rfl,b2⟩;have X2:Hid (Bx w w2 3 r (some ⟨g,o,none⟩) d c):=s.out.below b2;clear s b2 C d0 d1 d2 V;by_cases K:x.fault b=0
       ·have A2:Hid (∀ (j:Nat) x,j<q+1->l[j]?=some x->x.fault b=0):=fun j y hj M=>by
         by_cases e:j=q
         ·subst e;rw[P.out] at M
          cases M
          exact K
         ·exact A.out j y (by omega) M
        rw[K]
        clear K A;go_wp2
        go_roundw
        case rel=>exact⟨q+1,by omega,by go_num,A2.out,X2.out⟩
        case measure=>simp[intOf];omega
       ·have W:Hid (h=x.fault b):=R.out.trans (QdE P.out A.out K);have ab:(x.fault b != 0)=true:=by simpa using K
        generalize x.fault b=v at ab W |-;clear K A;go_wp2
        go_ret;exact⟨by rw[W.out];rfl,X2.out.bel⟩
      ·have W:Hid (h=0):=R.out.trans (QbN (fun j y M=>A.out j y (by have:=(Zi M).1;have:=U.out;omega) M));have aa:¬ (q:Int)<d:=by omega
       clear u A;go_wp2
       go_ret;exact⟨by rw[W.out];rfl,s.out.bel⟩
theorem QdR {α:Type}(f:α->Nat) (l:List α) (i:Nat) (x:α) (h:l[i]?=some x):((l.map f).take (i+1)).foldl max 0=max (((l.map f).take i).foldl max 0) (f x):=by
 rw[XV,XS,h]
 simp
theorem QcB (l:List Nat) (i:Nat):(l.take i).foldl max 0<=l.foldl max 0:=by
 rw[Qbb]
 exact⟨Xb _,fun x a=>(Qbb.1 (Nat.le_refl (l.foldl max 0))).2 x (List.mem_of_mem_take a)⟩
theorem deepOf_any:∀ (n:Nat) (t:TT n) (a:Option Addr) (c:Nat) (w:World) (m:Nat),TIn w All t a->t.count<=100000->m<=4 ->
 Calls prog 126 #[Tv t a c,Iv m] w fun e w'=>e=.returned (Iv ((min t.height (m+1):Nat):Int))/\Below w.heap.size w w':=by
 intro n
 induction n with
 | zero=>intro t;exact Empty.elim t
 | succ n ih =>
   intro t a c w m ht J ad
   have IH:Hid (∀ (t:TT n) (a:Option Addr) (c:Nat) (w:World) (m:Nat),TIn w All t a->t.count<=100000->m<=4 ->
    Calls prog 126 #[Tv t a c,Iv m] w fun e w'=>e=.returned (Iv ((min t.height (m+1):Nat):Int))/\Below w.heap.size w w'):=ih
   clear ih;have hT:Hid (LIn w All t.2.2 a):=ht.list;have E:Hid (∀ x∈t.2.2,x.count<=100000):=fun x f=>by have:=t.count_kid f;omega
   have u:t.2.2.length<=100000:=by have:=t.len_lt_count;rw[t.len_eq] at this;omega
   have D:Hid (t.height=(t.2.2.map (fun x=>1+x.height)).foldl max 0):=rfl;generalize t.height=h at D |-;simp only[Tv,TT.len_eq]
   generalize t.2.2=l at hT E D u |-;generalize t.kind=k;generalize t.r=r;clear ht J t;generalize d:((min h (m+1):Nat):Int)=b;have O:Hid (((min h (m+1):Nat):Int)=b):=d;clear d;go_enter func126,ntmps126
   go_wp2_with fail
   have M:Hid (Bx w (w.alloc (.cells #[Iv k,Iv r,.slice a l.length c] 105)) k r a l.length c):=Bx.start w k r a l.length c;generalize w.alloc (.cells #[Iv k,Iv r,.slice a l.length c] 105)=w1 at M |-;go_loopw [5,6] (fun v i wr=>∃ q y:Nat,q<=l.length/\i=Iv q/\v=Iv y/\y=min (((l.map (fun x=>1+x.height)).take q).foldl max 0) (m+1)/\Bx w wr k r a l.length c) (fun _ i _=>l.length - (intOf i).toNat)
   case atStart=>exact⟨0,0,Xb _,Yz,Yz,by simp,M.out⟩
   case round =>
    clear M;obtain⟨q,y,hq,rfl,rfl,W,j⟩:=hrel
    have Y:Hid (y=min (((l.map (fun x=>1+x.height)).take q).foldl max 0) (m+1)):=W;have A:Hid (Bx w wr k r a l.length c):=j;have e2:wr.cell? ⟨w.heap.size,2,none⟩=some (.slice a l.length c):=Qa j.box 2 _ Yz;have af:(y:Int)<=5:=by omega
    clear W;by_cases H:q<l.length
    ·have ac:(0:Int)<=q:=by omega
     have K:(q:Int)<l.length:=by omega
     by_cases p:y<=m
     ·have f:l[q]?=some l[q]:=Zg H;generalize l[q]=x at f;obtain⟨g,o,a',c',rfl,_,P,U,X,N⟩:=LIn.at (hT.out.below j.bel) f
      have G:=QdR (fun x:TT n=>1+x.height) l q x f;have B:(y:Int)<=m:=by omega
      by_cases T:m=0
      ·have L:((m:Int)==0)=true:=by simp;omega
       have F:Hid (b=1):=by
        have Q:=QcB (l.map (fun x=>1+x.height)) (q+1);have S:=D.out;have R:=O.out;rw[G] at Q
        show b=1;omega
       clear j N f T G p;go_wp2_with fail
       go_ret;exact⟨by rw[F.out];rfl,A.out.bel⟩
      ·have L:((m:Int)==0)=false:=by simp;omega
       have C:Hid (∀ s,Below wr.heap.size wr s->Calls prog 126 #[Tv x a' c',Iv ((m:Int) - 1)] s fun e w'=>e=.returned (Iv ((min x.height m:Nat):Int))/\Below s.heap.size s w'):=fun s hb=>by
        have:=IH.out x a' c' s (m - 1) (N.below hb) (E.out x (Zm f)) (by omega)
        rw[show ((m - 1:Nat):Int)=(m:Int) - 1 by omega,show m - 1+1=m by omega] at this
        exact this
       have ae:(1:Int)<=m:=by omega
       have aa:(m:Int)<=4:=by omega
       generalize I:min x.height m=z at C;have ab:(z:Int)<=4:=by omega
       have Z:Hid (max y (1+z)=min (((l.map (fun x=>1+x.height)).take (q+1)).foldl max 0) (m+1)):=by
        rw[G]
        have:=Y.out
        show _=_;omega
       clear j N f T G I Y p;simp only[Tv] at C
       generalize x.kind=kx at C P;generalize x.r=rx at C U;generalize x.len=lx at C X;go_wp2_with fail
       refine(C.out _ Zr).mono ?_
       rintro e w2 ⟨rfl,b2⟩;have V:Hid (Bx w w2 k r (some ⟨g,o,none⟩) l.length c):=A.out.below b2;clear A b2 C P U X e2;by_cases hd:(y:Int)<1+z
       ·go_wp2
        go_roundw
        case rel=>exact⟨q+1,1+z,by omega,by go_num,by go_num,by rw[<-Z.out];omega,V.out⟩
        case measure=>simp[intOf];omega
       ·go_wp2
        go_roundw
        case rel=>exact⟨q+1,y,by omega,by go_num,Yz,by rw[<-Z.out];omega,V.out⟩
        case measure=>simp[intOf];omega
     ·have F:Hid (b=y):=by
       have Q:=QcB (l.map (fun x=>1+x.height)) q;have S:=D.out;have R:=O.out
       have:=Y.out
       show b=y;omega
      have B:¬ (y:Int)<=m:=by omega
      clear j p Y;go_wp2
      go_ret;exact⟨by rw[F.out];rfl,A.out.bel⟩
    ·have F:Hid (b=y):=by
      have S:=D.out;have R:=O.out
      have:=Y.out
      rw[XO (by simp;omega)] at this
      show b=y;omega
     have K:¬ (q:Int)<l.length:=by omega
     clear j Y;go_wp2
     go_ret;exact⟨by rw[F.out];rfl,A.out.bel⟩
def QiE (f:Nat):Prop:=∀ (n:Nat) (t:TT n) (a:Option Addr) (c:Nat) (regs:Int) (w:World),TIn w All t a->t.count<=100000 ->
 Calls prog f #[Tv t a c,Iv regs] w fun e w'=>e=.returned (Iv (t.check regs))/\Below w.heap.size w w'
theorem typeFaultT_any:QiE 78:=by
 intro n t a c b w s o
 have g:Hid (∀ d,Below w.heap.size w d->Calls prog 126 #[Tv t a c,Iv 4] d fun e p=>e=.returned (Iv ((min t.height 5:Nat):Int))/\Below d.heap.size d p) :=
  fun d u=>deepOf_any n t a c d 4 (s.below u) o (by omega)
 have i:Hid (∀ d,Below w.heap.size w d->Calls prog 127 #[Tv t a c,Iv b] d fun e p=>e=.returned (Iv (t.fault b))/\Below d.heap.size d p) :=
  fun d u=>typeFault_any n t a c b d (s.below u) o
 have E:Hid (t.check b=if 4<t.height then 19 else t.fault b):=rfl;generalize t.check b=j at E |-;clear s o;simp only[Tv] at g i |-
 generalize t.kind=k at g i |-;generalize t.r=r at g i |-;generalize t.len=f at g i |-;generalize t.fault b=v at i E;generalize x:min t.height 5=q at g;go_enter func78,ntmps78
 go_wp2_with fail
 have m:=Bx.start w k r a f c;generalize w.alloc (.cells #[Iv k,Iv r,.slice a f c] 105)=I at m |-;refine(g.out _ m.bel).mono ?_
 rintro e G ⟨rfl,z⟩;have h:Hid (Bx w G k r a f c):=m.below z;have A:=Qa h.out.box 0 _ Z;have C:=Qa h.out.box 1 _ Z;have B:=Qa h.out.box 2 _ Z;clear m z g;by_cases l:4<t.height
 ·have R:Hid (j=19):=by have:=E.out;rwa [Xs l] at this
  have F:(4:Int)<q:=by omega
  clear l x;go_wp2_with fail
  go_ret;exact⟨by rw[R.out];rfl,h.out.bel⟩
 ·have R:Hid (j=v):=by have:=E.out;rwa [Xr l] at this
  have F:¬ (4:Int)<q:=by omega
  clear l x;go_wp2_with fail
  refine(i.out _ h.out.bel).mono ?_
  rintro e H ⟨rfl,y⟩;have D:Hid (Bx w H k r a f c):=h.out.below y;clear h y i A C B;go_wp2_with fail
  go_ret;exact⟨by rw[R.out];rfl,D.out.bel⟩
theorem Qgs (k r:Int) (a:Option Addr) (len c:Nat) (regs:Int) (w:World) :
 Calls prog 282 #[.agg #[Iv k,Iv r,.slice a len c],Iv regs] w fun e w'=>e=.returned (Iv (ownC k r len regs))/\Below w.heap.size w w':=by
 rcases (show k<1\/(¬ k<1/\4<k)\/k=1\/k=2\/k=4\/k=3 by omega) with b | ⟨b,f⟩ | rfl | rfl | rfl | rfl
 ·rw[show ownC _ _ len regs=3 by unfold ownC;repeat' split;all_goals omega]
  go_enter func282,ntmps282
  go_wp2_with fail
  go_ret;exact⟨Z,(Below.refl _ w).alloc Ze _⟩
 ·rw[show ownC _ _ len regs=3 by unfold ownC;repeat' split;all_goals omega]
  go_enter func282,ntmps282
  go_wp2_with fail
  go_ret;exact⟨Z,(Below.refl _ w).alloc Ze _⟩
 ·rcases (show r≠0\/(r=0/\0<len)\/(r=0/\len=0) by omega) with b | ⟨rfl,b⟩|⟨rfl,b⟩
  ·have d:(r != 0)=true:=by simpa using b
   rw[show ownC _ _ len regs=4 by unfold ownC;repeat' split;all_goals omega]
   go_enter func282,ntmps282
   go_wp2_with fail
   go_ret;exact⟨Z,(Below.refl _ w).alloc Ze _⟩
  ·have d:(0:Int)<(len:Int):=by omega
   rw[show ownC _ _ len regs=4 by unfold ownC;repeat' split;all_goals omega]
   go_enter func282,ntmps282
   go_wp2_with fail
   go_ret;exact⟨Z,(Below.refl _ w).alloc Ze _⟩
  ·have d:¬ (0:Int)<(len:Int):=by omega
   have g:¬ (8:Int)<(len:Int):=by omega
   rw[show ownC _ _ len regs=0 by unfold ownC;repeat' split;all_goals omega]
   go_enter func282,ntmps282
   go_wp2_with fail
   go_ret;exact⟨Z,(Below.refl _ w).alloc Ze _⟩
 ·rcases (show 0<len\/(len=0/\r<0)\/(len=0/\0<=r/\regs<=r)\/(len=0/\0<=r/\r<regs) by omega) with b | ⟨b,f⟩|⟨b,f,h⟩|⟨b,f,h⟩
  ·have d:(0:Int)<(len:Int):=by omega
   rw[show ownC _ _ len regs=4 by unfold ownC;repeat' split;all_goals omega]
   go_enter func282,ntmps282
   go_wp2_with fail
   go_ret;exact⟨Z,(Below.refl _ w).alloc Ze _⟩
  ·have d:¬ (0:Int)<(len:Int):=by omega
   have g:¬ (8:Int)<(len:Int):=by omega
   rw[show ownC _ _ len regs=1 by unfold ownC;repeat' split;all_goals omega]
   go_enter func282,ntmps282
   go_wp2_with fail
   go_ret;exact⟨Z,(Below.refl _ w).alloc Ze _⟩
  ·have d:¬ (0:Int)<(len:Int):=by omega
   have g:¬ (8:Int)<(len:Int):=by omega
   rw[show ownC _ _ len regs=1 by unfold ownC;repeat' split;all_goals omega]
   go_enter func282,ntmps282
   go_wp2_with fail
   go_ret;exact⟨Z,(Below.refl _ w).alloc Ze _⟩
  ·have d:¬ (0:Int)<(len:Int):=by omega
   have g:¬ (8:Int)<(len:Int):=by omega
   rw[show ownC _ _ len regs=0 by unfold ownC;repeat' split;all_goals omega]
   go_enter func282,ntmps282
   go_wp2_with fail
   go_ret;exact⟨Z,(Below.refl _ w).alloc Ze _⟩
 ·rcases (show 0<len\/(len=0/\r<0)\/(len=0/\0<=r/\regs<=r)\/(len=0/\0<=r/\r<regs) by omega) with b | ⟨b,f⟩|⟨b,f,h⟩|⟨b,f,h⟩
  ·have d:(0:Int)<(len:Int):=by omega
   rw[show ownC _ _ len regs=4 by unfold ownC;repeat' split;all_goals omega]
   go_enter func282,ntmps282
   go_wp2_with fail
   go_ret;exact⟨Z,(Below.refl _ w).alloc Ze _⟩
  ·have d:¬ (0:Int)<(len:Int):=by omega
   have g:¬ (8:Int)<(len:Int):=by omega
   rw[show ownC _ _ len regs=1 by unfold ownC;repeat' split;all_goals omega]
   go_enter func282,ntmps282
   go_wp2_with fail
   go_ret;exact⟨Z,(Below.refl _ w).alloc Ze _⟩
  ·have d:¬ (0:Int)<(len:Int):=by omega
   have g:¬ (8:Int)<(len:Int):=by omega
   rw[show ownC _ _ len regs=1 by unfold ownC;repeat' split;all_goals omega]
   go_enter func282,ntmps282
   go_wp2_with fail
   go_ret;exact⟨Z,(Below.refl _ w).alloc Ze _⟩
  ·have d:¬ (0:Int)<(len:Int):=by omega
   have g:¬ (8:Int)<(len:Int):=by omega
   rw[show ownC _ _ len regs=0 by unfold ownC;repeat' split;all_goals omega]
   go_enter func282,ntmps282
   go_wp2_with fail
   go_ret;exact⟨Z,(Below.refl _ w).alloc Ze _⟩
 ·rcases (show 8<len\/(len<=8/\r<0)\/(len<=8/\0<=r/\regs<=r)\/(len<=8/\0<=r/\r<regs) by omega) with b | ⟨b,f⟩|⟨b,f,h⟩|⟨b,f,h⟩
  ·have d:(8:Int)<(len:Int):=by omega
   rw[show ownC _ _ len regs=2 by unfold ownC;repeat' split;all_goals omega]
   go_enter func282,ntmps282
   go_wp2_with fail
   go_ret;exact⟨Z,(Below.refl _ w).alloc Ze _⟩
  ·have d:¬ (8:Int)<(len:Int):=by omega
   rw[show ownC _ _ len regs=1 by unfold ownC;repeat' split;all_goals omega]
   go_enter func282,ntmps282
   go_wp2_with fail
   go_ret;exact⟨Z,(Below.refl _ w).alloc Ze _⟩
  ·have d:¬ (8:Int)<(len:Int):=by omega
   rw[show ownC _ _ len regs=1 by unfold ownC;repeat' split;all_goals omega]
   go_enter func282,ntmps282
   go_wp2_with fail
   go_ret;exact⟨Z,(Below.refl _ w).alloc Ze _⟩
  ·have d:¬ (8:Int)<(len:Int):=by omega
   rw[show ownC _ _ len regs=0 by unfold ownC;repeat' split;all_goals omega]
   go_enter func282,ntmps282
   go_wp2_with fail
   go_ret;exact⟨Z,(Below.refl _ w).alloc Ze _⟩
theorem firstCode_any:∀ n,QeS 258 n:=by
 intro n
 induction n with
 | zero=>intro t;exact Empty.elim t
 | succ n ih =>
   intro t a c b w ht J;have IH:Hid (QeS 258 n):=ih;clear ih;have hT:Hid (LIn w All t.2.2 a):=ht.list;have F:Hid (∀ x∈t.2.2,x.count<=100000):=fun x p=>by have:=t.count_kid p;omega
   have D:t.2.2.length<=100000:=by have:=t.len_lt_count;rw[t.len_eq] at this;omega
   have f:Hid (t.fault b=if ownC t.kind t.r t.2.2.length b≠0 then ownC t.kind t.r t.2.2.length b else QD (TT.fault b) t.2.2):=rfl;generalize t.fault b=d at f |-;simp only[Tv,TT.len_eq]
   generalize t.2.2=l at hT F f D |-;generalize t.kind=k at f |-;generalize t.r=r at f |-;clear ht J t;go_enter func258,ntmps258
   go_wp2_with fail
   have S:Hid (Bx w (w.alloc (.cells #[Iv k,Iv r,.slice a l.length c] 105)) k r a l.length c):=Bx.start w k r a l.length c;refine(Qgs k r a l.length c b _).mono ?_
   rintro e T ⟨rfl,U⟩;have m:Hid (Bx w T k r a l.length c):=S.out.below U;clear S U;by_cases u:ownC k r l.length b=0
   ·have R:Hid (d=QD (TT.fault b) l):=by
     have:=f.out
     rw[u] at this
     show d=QD (TT.fault b) l;simpa using this
    rw[u]
    clear u f;have e2:T.cell? ⟨w.heap.size,2,none⟩=some (.slice a l.length c):=Qa m.out.box 2 _ Z;go_wp2_with fail
    clear e2;go_loopw [18] (fun i wr=>∃ q:Nat,q<=l.length/\i=Iv q/\(∀ (j:Nat) x,j<q->l[j]?=some x->x.fault b=0)/\Bx w wr k r a l.length c) (fun i _=>l.length - (intOf i).toNat)
    case atStart=>exact⟨0,Xb _,Z,fun j x hj=>by omega,m.out⟩
    case round =>
     clear m;obtain⟨q,hq,rfl,h,H⟩:=hrel
     have A:Hid (∀ (j:Nat) x,j<q->l[j]?=some x->x.fault b=0):=h;have m:Hid (Bx w wr k r a l.length c):=H;clear h;by_cases I:q<l.length
     ·have p:l[q]?=some l[q]:=Zg I;generalize l[q]=x at p;obtain⟨g,o,O,N,rfl,_,Q,W,d2,V⟩:=LIn.at (hT.out.below H.bel) p
      have E:Hid (l[q]?=some x):=p;have aa:(0:Int)<=q:=by omega
      have K:(q:Int)<l.length:=by omega
      have C:Hid (∀ z,Below wr.heap.size wr z->Calls prog 258 #[Tv x O N,Iv b] z fun e w'=>e=.returned (Iv (x.fault b))/\Below z.heap.size z w') :=
       fun z hb=>IH.out x O N b z (V.below hb) (F.out x (Zm p))
      clear H V p;simp only[Tv] at C
      generalize x.kind=kx at C Q;generalize x.r=rx at C W;generalize x.len=lx at C d2;go_wp2_with fail
      have M:Below wr.heap.size wr (wr.alloc (.cells #[Iv kx,Iv rx,.slice O lx N] 105)):=(Below.refl _ wr).alloc Ze _;refine(C.out _ M).mono ?_
      rintro e w2 ⟨rfl,b2⟩;have X:Hid (Bx w w2 k r (some ⟨g,o,none⟩) l.length c):=(m.out.below M).below b2;clear m b2 M C Q W d2;by_cases s:x.fault b=0
      ·have A2:Hid (∀ (j:Nat) x,j<q+1->l[j]?=some x->x.fault b=0):=fun j y hj B=>by
        by_cases e:j=q
        ·subst e;rw[E.out] at B
         cases B
         exact s
        ·exact A.out j y (by omega) B
       rw[s]
       clear s A;go_wp2
       go_roundw
       case rel=>exact⟨q+1,by omega,by go_num,A2.out,X.out⟩
       case measure=>simp[intOf];omega
      ·have G:Hid (d=x.fault b):=R.out.trans (QdE E.out A.out s);have P:(x.fault b != 0)=true:=by simpa using s
       generalize x.fault b=v at P G |-;clear s A;go_wp2
       go_ret;exact⟨by rw[G.out];rfl,X.out.bel⟩
     ·have G:Hid (d=0):=R.out.trans (QbN (fun j y B=>A.out j y (by have:=(Zi B).1;omega) B));have K:¬ (q:Int)<l.length:=by omega
      clear H A;go_wp2
      go_ret;exact⟨by rw[G.out];rfl,m.out.bel⟩
   ·have R:Hid (d=ownC k r l.length b):=by
     have:=f.out
     rwa [Xs u] at this
    have L:(ownC k r l.length b != 0)=true:=by simpa using u
    generalize ownC k r l.length b=v at L R |-;clear u f;go_wp2_with fail
    go_ret;exact⟨by rw[R.out];rfl,m.out.bel⟩
theorem QiQ {l:List (TT n)}{k r:Int}:m<TT.height (n:=n+1) (mkT k r l)↔∃ (i:Nat) (x:TT n),l[i]?=some x/\m<1+x.height:=by
 rw[<-Nat.not_le,Zo]
 constructor
 ·intro h;simp only[Classical.not_forall] at h
  obtain⟨x,a,b⟩:=h
  obtain⟨i,c,rfl⟩:=List.mem_iff_getElem.1 a
  exact⟨i,_,Zg c,by omega⟩
 ·rintro ⟨i,x,a,b⟩ h
  have:=h x (Zm (l:=l) a)
  omega
theorem deeper_any:∀ (n:Nat) (t:TT n) (a:Option Addr) (c:Nat) (w:World) (m:Nat),TIn w All t a->t.count<=100000->m<=4 ->
 Calls prog 257 #[Tv t a c,Iv m] w fun e w'=>e=.returned (.bool (decide (m<t.height)))/\Below w.heap.size w w':=by
 intro n
 induction n with
 | zero=>intro t;exact Empty.elim t
 | succ n ih =>
   intro t a c w m V H ab
   have IH:Hid (∀ (t:TT n) (a:Option Addr) (c:Nat) (w:World) (m:Nat),TIn w All t a->t.count<=100000->m<=4 ->
    Calls prog 257 #[Tv t a c,Iv m] w fun e w'=>e=.returned (.bool (decide (m<t.height)))/\Below w.heap.size w w'):=ih
   clear ih;have X:Hid (LIn w All t.2.2 a):=V.list;have B:Hid (∀ x∈t.2.2,x.count<=100000):=fun x b=>by have:=t.count_kid b;omega
   have p:t.2.2.length<=100000:=by have:=t.len_lt_count;rw[t.len_eq] at this;omega
   have z:Hid (m<t.height↔∃ (i:Nat) (x:TT n),t.2.2[i]?=some x/\m<1+x.height):=QiQ;generalize t.height=h at z |-;simp only[Tv,TT.len_eq]
   generalize t.2.2=l at X B z p |-;generalize t.kind=k;generalize t.r=r;clear V H t;go_enter func257,ntmps257
   go_wp2_with fail
   have L:Hid (Bx w (w.alloc (.cells #[Iv k,Iv r,.slice a l.length c] 105)) k r a l.length c):=Bx.start w k r a l.length c;generalize w.alloc (.cells #[Iv k,Iv r,.slice a l.length c] 105)=w1 at L |-;go_loopw [10] (fun i wr=>∃ q:Nat,q<=l.length/\i=Iv q/\(∀ (j:Nat) x,j<q->l[j]?=some x->1+x.height<=m)/\Bx w wr k r a l.length c) (fun i _=>l.length - (intOf i).toNat)
   case atStart=>exact⟨0,Xb _,Z,fun j x hj=>by omega,L.out⟩
   case round =>
    clear L;obtain⟨q,hq,rfl,d,D⟩:=hrel
    have A:Hid (∀ (j:Nat) x,j<q->l[j]?=some x->1+x.height<=m):=d;have F:Hid (Bx w wr k r a l.length c):=D;clear d;by_cases G:q<l.length
    ·have b:l[q]?=some l[q]:=Zg G;generalize l[q]=x at b;obtain⟨g,o,Q,P,rfl,_,K,S,U,M⟩:=LIn.at (X.out.below D.bel) b
     have hg:g<wr.heap.size:=Xi wr ⟨g,o+q*3,none⟩ K;have v:Hid (l[q]?=some x):=b;have aa:(0:Int)<=q:=by omega
     have I:(q:Int)<l.length:=by omega
     by_cases R:m=0
     ·have s:Hid (m<h):=z.out.2 ⟨q,x,b,by omega⟩;have J:((m:Int)==0)=true:=by simp;omega
      clear D M b R;go_wp2_with fail
      go_ret;exact⟨by rw[Xt s.out];rfl,(F.out.alloc _).bel⟩
     ·have J:((m:Int)==0)=false:=by simp;omega
      have C:Hid (∀ f,Below wr.heap.size wr f->Calls prog 257 #[Tv x Q P,Iv ((m:Int) - 1)] f fun e w'=>e=.returned (.bool (decide (m - 1<x.height)))/\Below f.heap.size f w'):=fun f hb=>by
       have:=IH.out x Q P f (m - 1) (M.below hb) (B.out x (Zm b)) (by omega)
       rw[show ((m - 1:Nat):Int)=(m:Int) - 1 by omega] at this
       exact this
      have ac:(1:Int)<=m:=by omega
      have ad:(m:Int)<=4:=by omega
      have u:Hid (1<=m):=by show 1<=m;omega
      clear D M b R;simp only[Tv] at C
      generalize x.kind=kx at C K;generalize x.r=rx at C S;generalize x.len=lx at C U;go_wp2_with fail
      have O:Below wr.heap.size wr (wr.alloc (.cells #[Iv kx,Iv rx,.slice Q lx P] 105)):=(Below.refl _ wr).alloc Ze _;refine(C.out _ O).mono ?_
      rintro e w2 ⟨rfl,W⟩;have T:Hid (Bx w w2 k r (some ⟨g,o,none⟩) l.length c):=(F.out.below O).below W;clear F W O C K S U;by_cases E:m - 1<x.height
      ·have s:Hid (m<h):=z.out.2 ⟨q,x,v.out,by have:=u.out;omega⟩;rw[Xt E]
       clear E;go_wp2
       go_ret;exact⟨by rw[Xt s.out];rfl,T.out.bel⟩
      ·have A2:Hid (∀ (j:Nat) x,j<q+1->l[j]?=some x->1+x.height<=m):=fun j y hj N=>by
        by_cases e:j=q
        ·subst e;rw[v.out] at N
         cases N
         have:=u.out
         omega
        ·exact A.out j y (by omega) N
       rw[Xu E]
       clear E A;go_wp2
       go_roundw
       case rel=>exact⟨q+1,by omega,by go_num,A2.out,T.out⟩
       case measure=>simp[intOf];omega
    ·have s:Hid (¬ m<h):=fun hc=>by
      obtain⟨i,x,b,h3⟩:=z.out.1 hc
      have:=A.out i x (by have:=(Zi b).1;omega) b
      omega
     have I:¬ (q:Int)<l.length:=by omega
     clear D A;go_wp2
     go_ret;exact⟨by rw[Xu s.out];rfl,F.out.bel⟩
theorem check_any:QiE 223:=by
 intro n t a c b w q o
 have j:Hid (∀ d,Below w.heap.size w d->Calls prog 257 #[Tv t a c,Iv 4] d fun e p=>e=.returned (.bool (decide (4<t.height)))/\Below d.heap.size d p) :=
  fun d s=>deeper_any n t a c d 4 (q.below s) o (by omega)
 have h:Hid (∀ d,Below w.heap.size w d->Calls prog 258 #[Tv t a c,Iv b] d fun e p=>e=.returned (Iv (t.fault b))/\Below d.heap.size d p) :=
  fun d s=>firstCode_any n t a c b d (q.below s) o
 have E:Hid (t.check b=if 4<t.height then 19 else t.fault b):=rfl;generalize t.check b=l at E |-;clear q o;simp only[Tv] at j h |-
 generalize t.kind=k at j h |-;generalize t.r=r at j h |-;generalize t.len=f at j h |-;generalize t.fault b=v at h E;go_enter func223,ntmps223
 go_wp2_with fail
 have m:=Bx.start w k r a f c;generalize w.alloc (.cells #[Iv k,Iv r,.slice a f c] 105)=F at m |-;refine(j.out _ m.bel).mono ?_
 rintro e C ⟨rfl,x⟩;have g:Hid (Bx w C k r a f c):=m.below x;have y:=Qa g.out.box 0 _ Z;have A:=Qa g.out.box 1 _ Z;have z:=Qa g.out.box 2 _ Z;clear m x j;by_cases i:4<t.height
 ·rw[Xt i]
  have R:Hid (l=19):=by have:=E.out;rwa [Xs i] at this
  clear i;go_wp2_with fail
  go_ret;exact⟨by rw[R.out];rfl,g.out.bel⟩
 ·rw[Xu i]
  have R:Hid (l=v):=by have:=E.out;rwa [Xr i] at this
  clear i;go_wp2_with fail
  refine(h.out _ g.out.bel).mono ?_
  rintro e D ⟨rfl,u⟩;have B:Hid (Bx w D k r a f c):=g.out.below u;clear g u h y A z;go_wp2_with fail
  go_ret;exact⟨by rw[R.out];rfl,B.out.bel⟩
abbrev Qv (p:Int × Int):Value:=.agg #[Iv p.1,Iv p.2]
def atF (c p:Int):Int × Int:=if c=0 then (0,0) else (c,p)
theorem QfF {α:Type}{f:Nat->α->Int × Int}:∀ {l:List α}{j:Nat},firstF (fun i x=>atF (f i x).1 (f i x).2) j l=firstF f j l
 | [],_=>rfl
 | x::xs,j=>by
   simp only[firstF,atF]
   by_cases h:(f j x).1=0
   ·simp only[h,if_true,ne_eq,not_true_eq_false,if_false]
    exact QfF
   ·simp[h]
def MFunc.code {n:Nat}(f:Nat) (x:MFunc n):Int :=
 if x.regs<0\/6<x.regs then 1 else if listC x.regs x.params≠0 then listC x.regs x.params else if listC x.regs x.results≠0 then listC x.regs x.results
 else if x.blocks.length<1\/12<x.blocks.length then 2 else if f=0/\¬ (x.regs=0/\x.params.length=0/\x.results.all (fun t=>t.kind==1)=true) then 18 else 0
theorem MFunc.fault_eq (a f:Nat) (x:MFunc n):MFunc.fault a f x=if x.code f=0 then firstF (fun b y=>MBlock.fault a f x b y) 0 x.blocks else (x.code f,10000*(f:Int)+9999):=by
 unfold MFunc.fault MFunc.code;generalize listC x.regs x.params=d;generalize listC x.regs x.results=e;generalize firstF (fun b y=>MBlock.fault a f x b y) 0 x.blocks=c;repeat' split
 all_goals first | rfl | (exfalso;omega) | contradiction
def MBlock.code' {n:Nat}(fn:MFunc n) (b:Nat) (x:MBlock n):Int :=
 if x.regs<fn.regs\/16<x.regs then 1 else if listC x.regs x.params≠0 then listC x.regs x.params
 else if b=0/\(x.regs≠fn.regs\/Qbr x.params fn.params=false) then 9 else if 40<x.code.length then 2 else 0
theorem MBlock.fault_eq (a f:Nat) (fn:MFunc n) (b:Nat) (x:MBlock n):MBlock.fault a f fn b x =
 if x.code' fn b=0 then (if (firstF (fun i y=>(Qx.form a y,(10000*f+100*b+i:Int))) 0 x.code).1=0 then atF (x.fin.form fn.blocks.length) (10000*(f:Int)+100*(b:Int)+91)
  else firstF (fun i y=>(Qx.form a y,(10000*f+100*b+i:Int))) 0 x.code) else (x.code' fn b,10000*(f:Int)+100*(b:Int)+90):=by
 unfold MBlock.fault MBlock.code' atF;generalize firstF (fun i y=>(Qx.form a y,(10000*f+100*b+i:Int))) 0 x.code=c;generalize x.fin.form fn.blocks.length=d;generalize listC x.regs x.params=e;repeat' split
 all_goals first | rfl | (exfalso;omega) | contradiction
def idxK {n:Nat}:Nat->List (TT n)->Int
 | _,[]=>-1
 | i,t::ts=>if t.kind=1 then idxK (i+1) ts else (i:Int)
theorem QiF {l:List (TT n)}{x:TT n}(h:l[q]?=some x):idxK q (l.drop q)=if x.kind=1 then idxK (q+1) (l.drop (q+1)) else (q:Int):=by
 obtain⟨a,rfl⟩:=Zi h
 rw[List.drop_eq_getElem_cons a]
 rfl
theorem Qg5 {n:Nat}:∀ (l:List (TT n)) (j:Nat),(0<=idxK j l)↔¬ l.all (fun t=>t.kind==1)=true
 | [],j=>by simp[idxK]
 | y::ys,j=>by
   by_cases h:y.kind=1
   ·simp only[idxK,h,if_true,List.all_cons,beq_self_eq_true,Bool.true_and]
    exact Qg5 ys (j+1)
   ·simp[idxK,h]
theorem Qfx {t:TT n}{regs:Int}(b:TIn w All t a) (d:t.count<=100000):Rd prog 78 #[Tv t a c,Iv regs] w (Iv (t.check regs)):=typeFaultT_any n t a c regs w b d
theorem Qkb {t:TT n}{regs:Int}(b:TIn w All t a) (d:t.count<=100000):Rd prog 223 #[Tv t a c,Iv regs] w (Iv (t.check regs)):=check_any n t a c regs w b d
theorem Qc9 {α:Type}{f:α->Int}{l:List α}{x:α}(h:l[q]?=some x):QD f (l.drop q)=if f x≠0 then f x else QD f (l.drop (q+1)):=by
 obtain⟨a,rfl⟩:=Zi h
 rw[List.drop_eq_getElem_cons a]
 rfl
theorem Qbi {l:List (TT n)}{regs:Int}(f:(Qt n).In w All l [.slice p l.length c]) (b:QcH l) :
 Rd prog 51 #[.slice p l.length c,Iv regs] w (Iv (listC regs l)):=by
 have L:=Qi (Q8 f).1;have J:=Qi b.2;by_cases j:8<l.length
 ·have E:Hid (listC regs l=2):=Xs j;have d:decide ((l.length:Int)>8)=true:=Xt (by omega);clear j b f;go_enter func51,ntmps51
  go_wp2
  go_ret;exact⟨by rw[E.out];rfl,Zr⟩
 have E:Hid (listC regs l=QD (TT.check regs) (l.drop 0)):=Xr j;have d:decide ((l.length:Int)>8)=false:=Xu (by omega);have j:l.length<=8:=by omega
 generalize listC regs l=V at E |-;clear b f;go_enter func51,ntmps51
 go_wp2
 go_loopw [5] (fun i wr=>∃ q:Nat,q<=l.length/\i=Iv q/\Hid (V=QD (TT.check regs) (l.drop q))/\Hid (Below w.heap.size w wr)) (fun i _=>l.length - (intOf i).toNat)
 case atStart=>exact⟨0,Xb _,Z,E,Zr⟩
 case round =>
  obtain⟨q,N,rfl,e,k⟩:=hrel
  clear E;by_cases h:q<l.length
  ·have s:l[q]?=some l[q]:=Zg h;have z:=Qi (J.out _ (List.getElem_mem h));generalize l[q]=t at s z;obtain⟨g,o,D,G,rfl,-,H,B,K,In⟩:=LIn.at (TIn.below L.out k.out) s
   have P:(q:Int)<l.length:=by omega
   have a:=Qi (e.out.trans (Qc9 s));have C:Hid (∀ u,Below wr.heap.size wr u->Rd prog 78 #[.agg #[Iv t.kind,Iv t.r,.slice D t.len G],Iv regs] u (Iv (t.check regs))):=fun u I=>Qfx (In.below I) z.out;clear s e In;generalize t.check regs=v at a C;have C:=Qi (C.out wr Zr);go_wp2_with fail
   refine C.out.mono ?_;rintro M F ⟨rfl,A⟩;have y:Hid (Below w.heap.size w F):=k.out.trans (A.mono k.out.size);clear A C H B K;by_cases m:v=0
   ·subst m;have a:=Qi (a.out.trans (Xr (by simp)));go_wp2
    go_roundw
    case rel=>exact⟨q+1,by omega,by go_num,a,y⟩
    case measure=>simp[intOf];omega
   ·have a:=Qi (a.out.trans (Xs m));have O:(v != 0)=true:=bne_iff_ne.2 m;clear m;go_wp2
    go_ret;exact⟨by rw[a.out];rfl,y.out⟩
  ·have x:q=l.length:=by omega
   subst x;go_wp2
   go_ret;exact⟨by rw[e.out,List.drop_length];rfl,k.out⟩
theorem QaR {l:List (TT n)}{regs:Int}(f:(Qt n).In w All l [.slice p l.length c]) (b:QcH l) :
 Rd prog 178 #[.slice p l.length c,Iv regs] w (Iv (listC regs l)):=by
 have L:=Qi (Q8 f).1;have J:=Qi b.2;by_cases j:8<l.length
 ·have E:Hid (listC regs l=2):=Xs j;have d:decide ((l.length:Int)>8)=true:=Xt (by omega);clear j b f;go_enter func178,ntmps178
  go_wp2
  go_ret;exact⟨by rw[E.out];rfl,Zr⟩
 have E:Hid (listC regs l=QD (TT.check regs) (l.drop 0)):=Xr j;have d:decide ((l.length:Int)>8)=false:=Xu (by omega);have j:l.length<=8:=by omega
 generalize listC regs l=V at E |-;clear b f;go_enter func178,ntmps178
 go_wp2
 go_loopw [13] (fun i wr=>∃ q:Nat,q<=l.length/\i=Iv q/\Hid (V=QD (TT.check regs) (l.drop q))/\Hid (Below w.heap.size w wr)) (fun i _=>l.length - (intOf i).toNat)
 case atStart=>exact⟨0,Xb _,Z,E,Zr⟩
 case round =>
  obtain⟨q,N,rfl,e,k⟩:=hrel
  clear E;by_cases h:q<l.length
  ·have s:l[q]?=some l[q]:=Zg h;have z:=Qi (J.out _ (List.getElem_mem h));generalize l[q]=t at s z;obtain⟨g,o,A,B,rfl,-,H,F,K,In⟩:=LIn.at (TIn.below L.out k.out) s
   have P:(q:Int)<l.length:=by omega
   have a:=Qi (e.out.trans (Qc9 s));have C:Hid (∀ u,Below wr.heap.size wr u->Rd prog 223 #[.agg #[Iv t.kind,Iv t.r,.slice A t.len B],Iv regs] u (Iv (t.check regs))):=fun u I=>Qkb (In.below I) z.out;clear s e In;generalize t.check regs=v at a C;have C:=Qi (C.out _ (ZR wr (.cells #[Iv t.kind,Iv t.r,.slice A t.len B] 105)));go_wp2_with fail
   refine C.out.mono ?_;rintro M G ⟨rfl,D⟩;have y:Hid (Below w.heap.size w G):=k.out.trans (((ZR wr _).trans (D.mono (ZR wr _).size)).mono k.out.size);clear D C H F K;by_cases m:v=0
   ·subst m;have a:=Qi (a.out.trans (Xr (by simp)));go_wp2
    go_roundw
    case rel=>exact⟨q+1,by omega,by go_num,a,y⟩
    case measure=>simp[intOf];omega
   ·have a:=Qi (a.out.trans (Xs m));have O:(v != 0)=true:=bne_iff_ne.2 m;clear m;go_wp2
    go_ret;exact⟨by rw[a.out];rfl,y.out⟩
  ·have x:q=l.length:=by omega
   subst x;go_wp2
   go_ret;exact⟨by rw[e.out,List.drop_length];rfl,k.out⟩
theorem QbR {xp:Int}:Rd prog 117 #[Iv xc,Iv xp] w (Qv (atF xc xp)):=by
 have b:=Qi ((Bxs.start w).new #[Iv 0,Iv 0] 32);go_enter func117,ntmps117
 go_upto_region 1 with fail
 generalize w.alloc (.cells #[Iv 0,Iv 0] 32)=i at b |-;generalize w.heap.size=R at b |-;have l:=b.out.cell (a:=[]) 0 _ Z;have k:=b.out.cell (a:=[]) 1 _ Z;have g:=b.out.free (a:=[]) 0;have j:=b.out.free (a:=[]) 1;have f:Hid (∀ c p:Int,_):=fun c p=>(b.out.set (a:=[]) 0 (Iv c)).set (a:=[]) 1 (Iv p);by_cases h:xc=0
 ·subst h;go_wp2
  exact Xy (v:=Qv (atF 0 xp)) (by simp[results,results117,go_sem,(f.out 0 0).cell (a:=[]) 0 _ Z,(f.out 0 0).cell (a:=[]) 1 _ Z,atF,Qv]) Z ⟨Z,(f.out 0 0).bel⟩
 ·have d:(xc==0)=false:=by simpa using h
  have e:=Qi h;clear h;go_wp2
  exact Xy (v:=Qv (atF xc xp)) (by simp[results,results117,go_sem,(f.out xc xp).cell (a:=[]) 0 _ Z,(f.out xc xp).cell (a:=[]) 1 _ Z,atF,Qv,e.out]) Z ⟨Z,(f.out xc xp).bel⟩
theorem Qav {xp:Int}:Rd prog 49 #[Iv xc,Iv xp] w (Qv (xc,xp)):=by
 have b:=Qi ((Bxs.start w).new #[Iv 0,Iv 0] 32);go_enter func49,ntmps49
 go_upto_region 1 with fail
 generalize w.alloc (.cells #[Iv 0,Iv 0] 32)=e at b |-;generalize w.heap.size=R at b |-;have h:=b.out.cell (a:=[]) 0 _ Z;have g:=b.out.cell (a:=[]) 1 _ Z;have d:=b.out.free (a:=[]) 0;have f:=b.out.free (a:=[]) 1;have c:=Qi ((b.out.set (a:=[]) 0 (Iv xc)).set (a:=[]) 1 (Iv xp));go_wp2
 exact Xy (v:=Qv (xc,xp)) (by simp[results,results49,go_sem,c.out.cell (a:=[]) 0 _ Z,c.out.cell (a:=[]) 1 _ Z]) Z ⟨Z,c.out.bel⟩
theorem Qia {l:List (TT n)}(d:(Qt n).In w All l [.slice p l.length c]) (x:l.length<=100000) :
 Rd prog 259 #[.slice p l.length c,.func (.func 225) #[] #[]] w (Iv (idxK 0 l)):=by
 have y:=Qi (Q8 d).1;have E:Hid (idxK 0 l=idxK 0 (l.drop 0)):=rfl;have B:∀ (args:Array Value) (w:World),(callFunc 225 args).run prog w=.ok (.enter 225 args) w:=fun _ _=>by kernel_rfl
 generalize idxK 0 l=V at E |-;clear d;go_enter func259,ntmps259
 go_wp2
 go_loopw [8] (fun i wr=>∃ q:Nat,q<=l.length/\i=Iv q/\Hid (V=idxK q (l.drop q))/\Hid (Below w.heap.size w wr)) (fun i _=>l.length - (intOf i).toNat)
 case atStart=>exact⟨0,Xb _,Z,E,Zr⟩
 case round =>
  obtain⟨q,A,rfl,e,k⟩:=hrel
  clear E;by_cases h:q<l.length
  ·have f:l[q]?=some l[q]:=Zg h;generalize l[q]=t at f;obtain⟨g,o,v,u,rfl,-,s,C,D,In⟩:=LIn.at (TIn.below y.out k.out) f
   have z:(q:Int)<l.length:=by omega
   have b:=Qi (e.out.trans (QiF f));have m:Hid (Below w.heap.size w (wr.alloc (.cells #[Iv t.kind,Iv t.r,.slice v t.len u] 105))):=k.out.trans ((ZR wr _).mono k.out.size);clear f e In;by_cases a:t.kind=1
   ·have b:=Qi (b.out.trans (Xs a));rw[a] at s m
    clear a;go_wp2
    go_roundw
    case rel=>exact⟨q+1,by omega,by go_num,b,m⟩
    case measure=>simp[intOf];omega
   ·have b:=Qi (b.out.trans (Xr a));have F:(t.kind != 1)=true:=bne_iff_ne.2 a;clear a;go_wp2
    go_ret;exact⟨by rw[b.out];rfl,m.out⟩
  ·have j:q=l.length:=by omega
   subst j;go_wp2
   go_ret;exact⟨by rw[e.out,List.drop_length];rfl,k.out⟩
theorem QeO {l:List (TT n)}(a:(Qt n).In w All l [.slice p l.length c]) (b:l.length<=100000) :
 Rd prog 224 #[.slice p l.length c,.func (.func 225) #[] #[]] w (.bool (decide (0<=idxK 0 l))):=by
 have C:=Qi (Qia a b);clear a;go_enter func224,ntmps224
 go_wp2_with fail
 refine C.out.mono ?_;rintro f g ⟨rfl,d⟩;have e:=Qi d;clear d C;go_wp2
 go_ret;exact⟨Z,e.out⟩
def MFunc.begins {n:Nat}(x:MFunc n):Prop:=x.regs=0/\x.params.length=0/\x.results.all (fun t=>t.kind==1)=true
def MBlock.takes {n:Nat}(fn:MFunc n) (x:MBlock n):Prop:=x.regs=fn.regs/\x.params=fn.params
theorem QkW {fn:MFunc n}{x:MBlock n}(h:¬ x.takes fn):x.regs≠fn.regs\/Qbr x.params fn.params=false:=by
 by_cases a:x.regs=fn.regs
 ·refine .inr ?_
  cases e:Qbr x.params fn.params with
  | false=>rfl
  | true=>exact absurd ⟨a,Qbm.1 e⟩ h
 ·exact .inl a
theorem QjP {fn:MFunc n}{x:MBlock n}(h:x.takes fn):¬ (x.regs≠fn.regs\/Qbr x.params fn.params=false):=by
 rintro (a | a)
 ·exact a h.1
 ·rw[Qbm.2 h.2] at a;cases a
abbrev bkA {n:Nat}(m:List (MFunc n)) (p:Option Addr) (c:Nat) (x:MFunc n) (fp:FP) (fi:Nat) (y:MBlock n) (bp:BP) (bi:Nat):Array Value:=#[.slice p m.length c,Iv x.regs,.slice fp.pP x.params.length fp.cP,.slice fp.pR x.results.length fp.cR,.slice fp.pB x.blocks.length fp.cB,Iv (fi:Int),Iv y.regs,.slice bp.pP y.params.length bp.cP,.slice bp.pC y.code.length bp.cC,Iv y.fin.op,Iv y.fin.a,Iv y.fin.yes.block,.slice bp.e.pYR y.fin.yes.regs.length bp.e.cYR,.slice bp.e.pYA y.fin.yes.args.length bp.e.cYA,Iv y.fin.no.block,.slice bp.e.pNR y.fin.no.regs.length bp.e.cNR,.slice bp.e.pNA y.fin.no.args.length bp.e.cNA,.slice bp.e.pA y.fin.args.length bp.e.cA,Iv (bi:Int)]
theorem Qfg {m:List (MFunc n)}{x:MFunc n}{fp:FP}(f:FIn w All x fp) (g:x.small) :
 Rd prog 179 #[.agg #[.slice p m.length c,Iv x.regs,.slice fp.pP x.params.length fp.cP,.slice fp.pR x.results.length fp.cR,.slice fp.pB x.blocks.length fp.cB,Iv (fi:Int)]] w (.bool (bdec x.begins)):=by
 have e:=Qi (ZR w (.cells #[.slice p m.length c,Iv x.regs,.slice fp.pP x.params.length fp.cP,.slice fp.pR x.results.length fp.cR,.slice fp.pB x.blocks.length fp.cB,Iv (fi:Int)] 139));have i:=Qi (Blk.new w #[.slice p m.length c,Iv x.regs,.slice fp.pP x.params.length fp.cP,.slice fp.pR x.results.length fp.cR,.slice fp.pB x.blocks.length fp.cB,Iv (fi:Int)] 139);have C:=Qi (QeO (Ya f.results e.out) (by have:=g.2.2.1.1;omega));have l:x.begins↔x.regs=0/\x.params.length=0/\¬ 0<=idxK 0 x.results:=by unfold MFunc.begins;rw[Qg5,Classical.not_not]
 have a:=Qi l;clear l;generalize idxK 0 x.results=o at C a;clear f g;go_enter func179,ntmps179
 go_upto_region 1 with fail
 generalize w.alloc (.cells #[.slice p m.length c,Iv x.regs,.slice fp.pP x.params.length fp.cP,.slice fp.pR x.results.length fp.cR,.slice fp.pB x.blocks.length fp.cB,Iv (fi:Int)] 139)=y at e i C |-;generalize q:w.heap.size=X at i |-;have v:=Qi q;clear q;have z:=Qa i.out 1 _ Z;have D:=Qa i.out 2 _ Z;have F:=Qa i.out 3 _ Z;by_cases b:x.regs=0
 ·have t:(x.regs==0)=true:=by simpa using b
  by_cases d:x.params.length=0
  ·have u:((x.params.length:Int)==0)=true:=by simpa using d
   have j:Hid (bdec x.begins=!(decide (0<=o))):=by
    by_cases k:0<=o
    ·exact(Qy (fun h=>(a.out.1 h).2.2 k)).trans (by simp[k])
    ·exact(QG (a.out.2 ⟨b,d,k⟩)).trans (by simp[k])
   clear b d a;go_wp2_with fail
   refine C.out.mono ?_;rintro B E ⟨rfl,r⟩;have s:=Qi (e.out.trans (r.mono e.out.size));clear r C;go_wp2
   go_ret;exact⟨by rw[j.out];rfl,s.out⟩
  ·have u:((x.params.length:Int)==0)=false:=by simpa using d
   have j:=Qi (Qy (A:=x.begins) (fun h=>d (a.out.1 h).2.1));clear b d a;go_wp2
   go_ret;exact⟨by rw[j.out];rfl,e.out⟩
 ·have t:(x.regs==0)=false:=by simpa using b
  have j:=Qi (Qy (A:=x.begins) (fun h=>b (a.out.1 h).1));clear b a;go_wp2
  go_ret;exact⟨by rw[j.out];rfl,e.out⟩
theorem QeY {m:List (MFunc n)}{x:MFunc n}{fp:FP}(j:FIn w All x fp) (g:x.small) :
 Rd prog 116 #[.agg #[.slice p m.length c,Iv x.regs,.slice fp.pP x.params.length fp.cP,.slice fp.pR x.results.length fp.cR,.slice fp.pB x.blocks.length fp.cB,Iv (fi:Int)]] w (Iv (x.code fi)):=by
 have q:=Qi (ZR w (.cells #[.slice p m.length c,Iv x.regs,.slice fp.pP x.params.length fp.cP,.slice fp.pR x.results.length fp.cR,.slice fp.pB x.blocks.length fp.cB,Iv (fi:Int)] 139));have b:=Qi (Blk.new w #[.slice p m.length c,Iv x.regs,.slice fp.pP x.params.length fp.cP,.slice fp.pR x.results.length fp.cR,.slice fp.pB x.blocks.length fp.cB,Iv (fi:Int)] 139);have z:Hid (∀ d,Below w.heap.size w d->Calls prog 178 #[.slice fp.pP x.params.length fp.cP,Iv x.regs] d fun e y=>e=.returned (Iv (listC x.regs x.params))/\Below d.heap.size d y):=fun d A=>QaR (regs:=x.regs) (Ya j.params A) g.2.1;have o:Hid (∀ d,Below w.heap.size w d->Calls prog 178 #[.slice fp.pR x.results.length fp.cR,Iv x.regs] d fun e y=>e=.returned (Iv (listC x.regs x.results))/\Below d.heap.size d y):=fun d A=>QaR (regs:=x.regs) (Ya j.results A) g.2.2.1;have f:Hid (∀ d,Below w.heap.size w d->Calls prog 179 #[.agg #[.slice p m.length c,Iv x.regs,.slice fp.pP x.params.length fp.cP,.slice fp.pR x.results.length fp.cR,.slice fp.pB x.blocks.length fp.cB,Iv (fi:Int)]] d fun e y=>e=.returned (.bool (bdec x.begins))/\Below d.heap.size d y):=fun d A=>Qfg (j.below A) g;have aa:=g.1;have a:Hid (x.code fi=if x.regs<0\/6<x.regs then 1 else if listC x.regs x.params≠0 then listC x.regs x.params else if listC x.regs x.results≠0 then listC x.regs x.results else if x.blocks.length<1\/12<x.blocks.length then 2 else if fi=0/\¬ (x.regs=0/\x.params.length=0/\x.results.all (fun t=>t.kind==1)=true) then 18 else 0):=rfl;generalize x.code fi=V at a |-;generalize listC x.regs x.params=S at a z;generalize listC x.regs x.results=U at a o;clear j g;go_enter func116,ntmps116
 go_upto_region 1 with fail
 generalize w.alloc (.cells #[.slice p m.length c,Iv x.regs,.slice fp.pP x.params.length fp.cP,.slice fp.pR x.results.length fp.cR,.slice fp.pB x.blocks.length fp.cB,Iv (fi:Int)] 139)=w1 at q b |-;generalize R:w.heap.size=X at b |-;have HX:=Qi R;clear R;have G:=Qa b.out 1 _ Z;have I:=Qa b.out 2 _ Z;have J:=Qa b.out 3 _ Z;have D:=Qa b.out 4 _ Z;have C:=Qa b.out 5 _ Z;by_cases s:x.regs<0\/6<x.regs
 ·have E:=Qi (a.out.trans (Xs s));by_cases k:x.regs<0
  ·have H:decide (x.regs<0)=true:=Xt k;clear k s a z o f;go_wp2
   go_ret;exact⟨by rw[E.out];rfl,q.out⟩
  ·have H:decide (x.regs<0)=false:=Xu k;have P:decide (x.regs>6)=true:=Xt (by omega);clear k s a z o f;go_wp2
   go_ret;exact⟨by rw[E.out];rfl,q.out⟩
 replace a:=Qi (a.out.trans (Xr s));have H:decide (x.regs<0)=false:=Xu (by omega);have P:decide (x.regs>6)=false:=Xu (by omega);clear s;go_wp2_with fail
 refine(z.out w1 q.out).mono ?_
 rintro M w2 ⟨rfl,O⟩;have F:=Qi (q.out.trans (O.mono q.out.size));have b:=Qi (b.out.below O);clear O z G I J D C;have G:=Qa b.out 1 _ Z;have I:=Qa b.out 2 _ Z;have J:=Qa b.out 3 _ Z;have D:=Qa b.out 4 _ Z;have C:=Qa b.out 5 _ Z;by_cases v:S=0
 rotate_left
 ·have E:=Qi (a.out.trans (Xs v));have Q:(S != 0)=true:=bne_iff_ne.2 v;clear v a o f;go_wp2
  go_ret;exact⟨by rw[E.out];rfl,F.out⟩
 replace a:=Qi (a.out.trans (Xr (fun h=>h v)));subst v;go_wp2_with fail
 refine(o.out w2 F.out).mono ?_
 rintro M T ⟨rfl,L⟩;have i:=Qi (F.out.trans (L.mono F.out.size));have b:=Qi (b.out.below L);clear L o G I J D C;have x0:=Qa b.out 0 _ Z;have G:=Qa b.out 1 _ Z;have I:=Qa b.out 2 _ Z;have J:=Qa b.out 3 _ Z;have D:=Qa b.out 4 _ Z;have C:=Qa b.out 5 _ Z;by_cases u:U=0
 rotate_left
 ·have E:=Qi (a.out.trans (Xs u));have Q:(U != 0)=true:=bne_iff_ne.2 u;clear u a f;go_wp2
  go_ret;exact⟨by rw[E.out];rfl,i.out⟩
 replace a:=Qi (a.out.trans (Xr (fun h=>h u)));subst u;by_cases B:x.blocks.length<1\/12<x.blocks.length
 ·have E:=Qi (a.out.trans (Xs B));by_cases k:x.blocks.length<1
  ·have H:decide ((x.blocks.length:Int)<1)=true:=Xt (by omega);clear k B a f;go_wp2
   go_ret;exact⟨by rw[E.out];rfl,i.out⟩
  ·have H:decide ((x.blocks.length:Int)<1)=false:=Xu (by omega);have P:decide ((x.blocks.length:Int)>12)=true:=Xt (by omega);clear k B a f;go_wp2
   go_ret;exact⟨by rw[E.out];rfl,i.out⟩
 replace a:=Qi (a.out.trans (Xr B));have Q:decide ((x.blocks.length:Int)<1)=false:=Xu (by omega);have d4:decide ((x.blocks.length:Int)>12)=false:=Xu (by omega);clear B;by_cases K:fi=0
 rotate_left
 ·have E:=Qi (a.out.trans (Xr (fun h=>K h.1)));have d5:((fi:Int)==0)=false:=by simpa using K
  clear K a f;go_wp2
  go_ret;exact⟨by rw[E.out];rfl,i.out⟩
 subst K;by_cases l:x.begins
 ·have E:=Qi (a.out.trans (Xr (fun h=>h.2 l)));have f:=Qi (f.out T i.out);rw[QG l] at f
  clear l a;go_wp2_with fail
  refine f.out.mono ?_;rintro M W ⟨rfl,r⟩;have N:=Qi (i.out.trans (r.mono i.out.size));clear r f;go_wp2
  go_ret;exact⟨by rw[E.out];rfl,N.out⟩
 ·have E:=Qi (a.out.trans (Xs ⟨Z,l⟩));have f:=Qi (f.out T i.out);rw[Qy l] at f
  clear l a;go_wp2_with fail
  refine f.out.mono ?_;rintro M W ⟨rfl,r⟩;have N:=Qi (i.out.trans (r.mono i.out.size));clear r f;go_wp2
  go_ret;exact⟨by rw[E.out];rfl,N.out⟩
theorem Z6 {rest:List Oper}{op:Oper}{a:Act}(f:Region.wanted op (yielded ops a.tmps)=true) (ty:TypeId) (x:Operand) (g:op.op=.load ty x)
 (b o:Nat) (k:a.eval x=Pv b o) (cs:List Value) (d:TypeDesc) (j:w.rangeAt b o cs) (i:P.underlying ty=some d) (e:d.isRow=true) (hi:(P.info? ty).map (·.size)=some cs.length)
 (h:wpList P ops Q rest (a.put op.dst (.agg cs.toArray)) w):wpList P ops Q (op::rest) a w :=
 wpList_step fun K c=>by
  rw[Xs f]
  exact wp_load_mid ty x g b o k cs d j i e hi (c _ _ h)
theorem bkSize:(prog.info? 194).map (·.size)=some 19:=by kernel_rfl
theorem QjR {m:List (MFunc n)}{x:MFunc n}{fp:FP}{y:MBlock n}{b:BP}(k:FIn w All x fp) (o:x.small) (j:BIn w All y b) (d:y.small) :
 Rd prog 226 #[.agg (bkA m p c x fp fi y b bi)] w (.bool (bdec (y.takes x))):=by
 have l:=Qi (ZR w (.cells (bkA m p c x fp fi y b bi) 194));have i:=Qi (Blk.new w (bkA m p c x fp fi y b bi) 194);have C:Hid (∀ g,Below w.heap.size w g->Calls prog 260 #[.slice b.pP y.params.length b.cP,.slice fp.pP x.params.length fp.cP,FV] g fun e F=>Zn e (y.params=x.params)/\Below g.heap.size g F):=fun g t=>Qjd n (same_any n) _ _ _ _ _ _ g (Q8 (Ya j.params t)).1 (Q8 (Ya k.params t)).1 (by have:=d.2.1.1;omega) d.2.1.2;clear k o j d;unfold Rd;go_enter func226,ntmps226
 go_upto_region 1 with fail
 generalize w.alloc (.cells #[.slice p m.length c,Iv x.regs,.slice fp.pP x.params.length fp.cP,.slice fp.pR x.results.length fp.cR,.slice fp.pB x.blocks.length fp.cB,Iv (fi:Int),Iv y.regs,.slice b.pP y.params.length b.cP,.slice b.pC y.code.length b.cC,Iv y.fin.op,Iv y.fin.a,Iv y.fin.yes.block,.slice b.e.pYR y.fin.yes.regs.length b.e.cYR,.slice b.e.pYA y.fin.yes.args.length b.e.cYA,Iv y.fin.no.block,.slice b.e.pNR y.fin.no.regs.length b.e.cNR,.slice b.e.pNA y.fin.no.args.length b.e.cNA,.slice b.e.pA y.fin.args.length b.e.cA,Iv (bi:Int)] 194)=z at l i |-;generalize s:w.heap.size=X at i |-;have G:=Qi s;clear s;have J:=Qa i.out 1 _ Z;have L:=Qa i.out 2 _ Z;have I:=Qa i.out 6 _ Z;have H:=Qa i.out 7 _ Z;by_cases f:y.regs=x.regs
 ·have D:(y.regs==x.regs)=true:=by simpa using f
  have B:=Qi f;clear f;go_wp2_with fail
  refine(C.out z l.out).mono ?_
  rintro K M ⟨⟨q,rfl,r⟩,u⟩;have v:=Qi (l.out.trans (u.mono l.out.size));have E:Hid (bdec (y.takes x)=q):=(Qjr (r.trans ⟨fun h=>⟨B.out,h⟩,fun h=>h.2⟩)).symm;clear u C r;go_wp2
  go_ret;exact⟨by rw[E.out];rfl,v.out⟩
 ·have D:(y.regs==x.regs)=false:=by simpa using f
  have E:=Qi (Qy (A:=y.takes x) (fun h=>f h.1));clear f C;go_wp2
  go_ret;exact⟨by rw[E.out];rfl,l.out⟩
theorem QeQ {m:List (MFunc n)}{x:MFunc n}{fp:FP}{y:MBlock n}{b:BP}(z:FIn w All x fp) (B:x.small) (r:BIn w All y b) (o:y.small) :
 Rd prog 180 #[.agg (bkA m p c x fp fi y b bi)] w (Iv (y.code' x bi)):=by
 have t:=Qi (ZR w (.cells (bkA m p c x fp fi y b bi) 194));have g:=Qi (Blk.new w (bkA m p c x fp fi y b bi) 194);have C:Hid (∀ j,Below w.heap.size w j->Calls prog 178 #[.slice b.pP y.params.length b.cP,Iv y.regs] j fun e M=>e=.returned (Iv (listC y.regs y.params))/\Below j.heap.size j M):=fun j I=>QaR (Ya r.params I) o.2.1;have f:Hid (∀ j,Below w.heap.size w j->Calls prog 226 #[.agg #[.slice p m.length c,Iv x.regs,.slice fp.pP x.params.length fp.cP,.slice fp.pR x.results.length fp.cR,.slice fp.pB x.blocks.length fp.cB,Iv (fi:Int),Iv y.regs,.slice b.pP y.params.length b.cP,.slice b.pC y.code.length b.cC,Iv y.fin.op,Iv y.fin.a,Iv y.fin.yes.block,.slice b.e.pYR y.fin.yes.regs.length b.e.cYR,.slice b.e.pYA y.fin.yes.args.length b.e.cYA,Iv y.fin.no.block,.slice b.e.pNR y.fin.no.regs.length b.e.cNR,.slice b.e.pNA y.fin.no.args.length b.e.cNA,.slice b.e.pA y.fin.args.length b.e.cA,Iv (bi:Int)]] j fun e M=>e=.returned (.bool (bdec (y.takes x)))/\Below j.heap.size j M):=fun j I=>QjR (z.below I) B (r.below I) o;have T:=o.1;have d:Hid (y.code' x bi=if y.regs<x.regs\/16<y.regs then 1 else if listC y.regs y.params≠0 then listC y.regs y.params else if bi=0/\(y.regs≠x.regs\/Qbr y.params x.params=false) then 9 else if 40<y.code.length then 2 else 0):=rfl;generalize y.code' x bi=V at d |-;generalize listC y.regs y.params=S at d C;clear z B r o;unfold Rd;go_enter func180,ntmps180
 go_upto_region 1 with fail
 generalize w.alloc (.cells #[.slice p m.length c,Iv x.regs,.slice fp.pP x.params.length fp.cP,.slice fp.pR x.results.length fp.cR,.slice fp.pB x.blocks.length fp.cB,Iv (fi:Int),Iv y.regs,.slice b.pP y.params.length b.cP,.slice b.pC y.code.length b.cC,Iv y.fin.op,Iv y.fin.a,Iv y.fin.yes.block,.slice b.e.pYR y.fin.yes.regs.length b.e.cYR,.slice b.e.pYA y.fin.yes.args.length b.e.cYA,Iv y.fin.no.block,.slice b.e.pNR y.fin.no.regs.length b.e.cNR,.slice b.e.pNA y.fin.no.args.length b.e.cNA,.slice b.e.pA y.fin.args.length b.e.cA,Iv (bi:Int)] 194)=W at t g |-;generalize R:w.heap.size=X at g |-;have HX:=Qi R;clear R;have x1:=Qa g.out 1 _ Z;have x6:=Qa g.out 6 _ Z;have U:=Qa g.out 7 _ Z;have s:=Qa g.out 8 _ Z;have A:=Qa g.out 18 _ Z;by_cases u:y.regs<x.regs\/16<y.regs
 ·have E:=Qi (d.out.trans (Xs u));by_cases G:y.regs<x.regs
  ·have P:decide (y.regs<x.regs)=true:=Xt G;clear G u d C f;go_wp2
   go_ret;exact⟨by rw[E.out];rfl,t.out⟩
  ·have P:decide (y.regs<x.regs)=false:=Xu G;have d2:decide (y.regs>16)=true:=Xt (by omega);clear G u d C f;go_wp2
   go_ret;exact⟨by rw[E.out];rfl,t.out⟩
 replace d:=Qi (d.out.trans (Xr u));have P:decide (y.regs<x.regs)=false:=Xu (by omega);have d2:decide (y.regs>16)=false:=Xu (by omega);clear u;go_wp2_with fail
 refine(C.out W t.out).mono ?_
 rintro K Q ⟨rfl,N⟩;have i:=Qi (t.out.trans (N.mono t.out.size));replace g:=Qi (g.out.below N);have L:=Qi (Blk.range (c:=(bkA m p c x fp fi y b bi).toList) g.out);clear N C x1 x6 U s A;have s:=Qa g.out 8 _ Z;have A:=Qa g.out 18 _ Z;by_cases v:S=0
 rotate_left
 ·have E:=Qi (d.out.trans (Xs v));have d3:(S != 0)=true:=bne_iff_ne.2 v;clear v d f;go_wp2
  go_ret;exact⟨by rw[E.out];rfl,i.out⟩
 replace d:=Qi (d.out.trans (Xr (fun h=>h v)));subst v;by_cases l:bi=0/\¬ y.takes x
 ·have E:=Qi (d.out.trans (Xs ⟨l.1,QkW l.2⟩));have f:=Qi (f.out Q i.out);rw[Qy l.2] at f
  have D:=l.1;subst D;clear l d;go_wp2_with (refine Z6 Z 194 (.tmp 1) Z X 0 Z (bkA m p c x fp fi y b 0).toList _ L.out underlying194 Z bkSize ?_)
  refine f.out.mono ?_;rintro K O ⟨rfl,k⟩;have F:=Qi (i.out.trans (k.mono i.out.size));clear k f;go_wp2
  go_ret;exact⟨by rw[E.out];rfl,F.out⟩
 replace d:=Qi (d.out.trans (Xr (fun h=>l ⟨h.1,fun H=>QjP H h.2⟩)));by_cases D:bi=0
 ·subst D;have H:y.takes x:=Classical.byContradiction (fun h=>l ⟨Z,h⟩);have f:=Qi (f.out Q i.out);rw[QG H] at f
  clear l H;by_cases q:40<y.code.length
  ·have J:decide ((y.code.length:Int)>40)=true:=Xt (by omega);have E:=Qi (d.out.trans (Xs q));clear q d;go_wp2_with (refine Z6 Z 194 (.tmp 1) Z X 0 Z (bkA m p c x fp fi y b 0).toList _ L.out underlying194 Z bkSize ?_)
   refine f.out.mono ?_;rintro K O ⟨rfl,k⟩;have F:=Qi (i.out.trans (k.mono i.out.size));have s:=Qn s k;clear k f;go_wp2
   go_ret;exact⟨by rw[E.out];rfl,F.out⟩
  ·have J:decide ((y.code.length:Int)>40)=false:=Xu (by omega);have E:=Qi (d.out.trans (Xr q));clear q d;go_wp2_with (refine Z6 Z 194 (.tmp 1) Z X 0 Z (bkA m p c x fp fi y b 0).toList _ L.out underlying194 Z bkSize ?_)
   refine f.out.mono ?_;rintro K O ⟨rfl,k⟩;have F:=Qi (i.out.trans (k.mono i.out.size));have s:=Qn s k;clear k f;go_wp2
   go_ret;exact⟨by rw[E.out];rfl,F.out⟩
 ·have d5:((bi:Int)==0)=false:=by simpa using D
  clear l D f;by_cases q:40<y.code.length
  ·have J:decide ((y.code.length:Int)>40)=true:=Xt (by omega);have E:=Qi (d.out.trans (Xs q));clear q d;go_wp2
   go_ret;exact⟨by rw[E.out];rfl,i.out⟩
  ·have J:decide ((y.code.length:Int)>40)=false:=Xu (by omega);have E:=Qi (d.out.trans (Xr q));clear q d;go_wp2
   go_ret;exact⟨by rw[E.out];rfl,i.out⟩
theorem FbS.start0 (w:World):FbS w (w.alloc (.cells #[Iv 0,Iv 0] 32)) w.heap.size []:=⟨ZR w _,Ze,Blk.new _ _ _,fun i b a=>by simp at a⟩
theorem Qii {l:List Qx}{Bc:Nat}(G:Nat->Qx->Int × Int) (J:insL.list.In w All l [.slice p l.length c]) (aa:l.length<=100000)
 (t:∀ (i:Nat) x (z:IP) wx,l[i]?=some x->IIn wx All x z->Below w.heap.size w wx->Rd prog 183 #[Iv (i:Int),.agg #[Iv x.op,Iv x.a,Iv x.b,Iv x.c,Iv x.k,Iv x.n,.slice z.pR x.regs.length z.cR,.slice z.pA x.args.length z.cA],Pv Bc 0] wx (Qv (G i x))) :
 Rd prog 182 #[.slice p l.length c,.func (.func 183) #[] #[Pv Bc 0]] w (Qv (firstF G 0 l)):=by
 have HL:=Qi J;have HC:=Qi t;have S:=Qi (FbS.start0 w);have hE:∀ (args:Array Value) (w:World),(callFunc 183 args).run prog w=.ok (.enter 183 args) w:=fun _ _=>by kernel_rfl
 clear J t;unfold Rd;go_enter func182,ntmps182
 go_upto_region 1 with fail
 generalize w.alloc (.cells #[Iv 0,Iv 0] 32)=w1 at S |-;generalize w.heap.size=R at S |-;go_wp2_with fail
 go_loopw [10] (fun i wr=>∃ q:Nat,q<=l.length/\i=Iv q/\FbS w wr R []/\∀ (j:Nat) x,j<q->l[j]?=some x->(G j x).1=0) (fun i _=>l.length - (intOf i).toNat)
 case atStart=>exact⟨0,Xb _,Yz,S.out,fun j z F=>absurd F (XG _)⟩
 case round =>
  obtain⟨q,hq,rfl,hs,A⟩:=hrel
  have e:=Qi hs;have C:=Qi A;clear hs A S;obtain⟨K,Q⟩:∃ K,K=wr:=⟨_,Yz⟩
  subst Q;by_cases U:q<l.length
  rotate_left
  ·have I:¬ (q:Int)<l.length:=by omega
   have E:firstF G 0 l=(0,0):=Zv fun j x F=>by rw[XK];exact C.out j x (by have:=(Zi F).1;omega) F
   obtain⟨r0,r1,z0,z1⟩:=e.out.cells
   have D:=Qi (e.out.fin 0 0);go_wp2_with fail
   generalize World.setCell _ _ _=W at D |-;exact Xy (v:=.agg #[Iv 0,Iv 0]) (by simp[results,results182,go_sem,Qa D.out.1 0 _ Yz,Qa D.out.1 1 _ Yz]) Yz ⟨by first | rfl | rw[E],D.out.2⟩
  have I:(q:Int)<l.length:=by omega
  have L:l[q]?=some l[q]:=Zg U;generalize l[q]=x at L;have O:=Qi L;obtain⟨g,o,z,rfl,h,X⟩:=Qho HL.out L
  have HI:=Qi X;have v0:=Qn (show w.cell? ⟨g,o+q*8,none⟩=_ from h 0 _ Yz) e.out.bel;have v1:=Qn (show w.cell? ⟨g,o+q*8+1,none⟩=_ from h 1 _ Yz) e.out.bel;have v2:=Qn (show w.cell? ⟨g,o+q*8+2,none⟩=_ from h 2 _ Yz) e.out.bel;have v3:=Qn (show w.cell? ⟨g,o+q*8+3,none⟩=_ from h 3 _ Yz) e.out.bel;have v4:=Qn (show w.cell? ⟨g,o+q*8+4,none⟩=_ from h 4 _ Yz) e.out.bel;have v5:=Qn (show w.cell? ⟨g,o+q*8+5,none⟩=_ from h 5 _ Yz) e.out.bel;have v6:=Qn (show w.cell? ⟨g,o+q*8+6,none⟩=_ from h 6 _ Yz) e.out.bel;have v7:=Qn (show w.cell? ⟨g,o+q*8+7,none⟩=_ from h 7 _ Yz) e.out.bel;have d:=Qi (e.out.new #[Iv x.op,Iv x.a,Iv x.b,Iv x.c,Iv x.k,Iv x.n,.slice z.pR x.regs.length z.cR,.slice z.pA x.args.length z.cA] 78);clear L h X;go_upto_region 4 with fail
  generalize K.alloc (.cells #[Iv x.op,Iv x.a,Iv x.b,Iv x.c,Iv x.k,Iv x.n,.slice z.pR x.regs.length z.cR,.slice z.pA x.args.length z.cA] 78)=w3 at d |-;generalize K.heap.size=Z at d |-;clear e v0 v1 v2 v3 v4 v5 v6 v7;have t0:=Qa (d.out.box 0 _ Yz) 0 _ Yz;have t1:=Qa (d.out.box 0 _ Yz) 1 _ Yz;have t2:=Qa (d.out.box 0 _ Yz) 2 _ Yz;have t3:=Qa (d.out.box 0 _ Yz) 3 _ Yz;have t4:=Qa (d.out.box 0 _ Yz) 4 _ Yz;have t5:=Qa (d.out.box 0 _ Yz) 5 _ Yz;have t6:=Qa (d.out.box 0 _ Yz) 6 _ Yz;have t7:=Qa (d.out.box 0 _ Yz) 7 _ Yz;have P:=Qi (HC.out q x z w3 O.out (HI.out.below d.out.bel) d.out.bel);unfold Rd at P;obtain⟨s,B,N⟩:∃ s B,G q x=(s,B):=⟨_,_,Yz⟩
  rw[N] at P
  have M:=Qi N;clear N;go_wp2_with fail
  refine P.out.mono ?_;rintro _ w8 ⟨rfl,b8⟩;have y:=Qi ((d.out.below b8).new #[Iv s,Iv B] 32);clear b8 d;simp only[Qv]
  go_upto_region 5 with fail
  generalize w8.alloc (.cells #[Iv s,Iv B] 32)=w9 at y |-;generalize w8.heap.size=F8 at y |-;have f0:=Qa (y.out.box 0 _ Yz) 0 _ Yz;have f1:=Qa (y.out.box 0 _ Yz) 1 _ Yz;have V:Hid (FbS w w9 R []):=⟨y.out.bel,y.out.ge,y.out.r,fun i b hb=>by simp at hb⟩;clear y;by_cases m:s=0
  ·subst m;go_wp2
   go_roundw
   case rel =>
    refine⟨q+1,by omega,by go_num,V.out,fun j u F H=>?_⟩
    by_cases T:j<q
    ·exact C.out j u T H
    ·have:j=q:=by omega
     subst this;rw[O.out] at H
     cases H
     rw[M.out]
   case measure=>simp[intOf];omega
  ·have d9:(s != 0)=true:=by simpa using m
   have E:firstF G 0 l=(s,B):=by
    have hF:=ZT (f:=G) (j:=0) O.out (fun j u F H=>by rw[XK];exact C.out j u F H) (by rw[XK,M.out];exact m);rw[XK,M.out] at hF
    exact hF
   clear m;obtain⟨r0,r1,z0,z1⟩:=V.out.cells
   have D:=Qi (V.out.fin s B);go_wp2_with fail
   generalize World.setCell _ _ _=W at D |-;exact Xy (v:=.agg #[Iv s,Iv B]) (by simp[results,results182,go_sem,Qa D.out.1 0 _ Yz,Qa D.out.1 1 _ Yz]) Yz ⟨by first | rfl | rw[E],D.out.2⟩
theorem QgI {l:List (MBlock n)}{Bc:Nat}(G:Nat->(MBlock n)->Int × Int) (O:(ZV n).list.In w All l [.slice p l.length c]) (ae:l.length<=100000)
 (t:∀ (i:Nat) x (z:BP) wx,l[i]?=some x->BIn wx All x z->Below w.heap.size w wx->Rd prog 120 #[Iv (i:Int),.agg #[Iv x.regs,.slice z.pP x.params.length z.cP,.slice z.pC x.code.length z.cC,Iv x.fin.op,Iv x.fin.a,Iv x.fin.yes.block,.slice z.e.pYR x.fin.yes.regs.length z.e.cYR,.slice z.e.pYA x.fin.yes.args.length z.e.cYA,Iv x.fin.no.block,.slice z.e.pNR x.fin.no.regs.length z.e.cNR,.slice z.e.pNA x.fin.no.args.length z.e.cNA,.slice z.e.pA x.fin.args.length z.e.cA],Pv Bc 0] wx (Qv (G i x))) :
 Rd prog 119 #[.slice p l.length c,.func (.func 120) #[] #[Pv Bc 0]] w (Qv (firstF G 0 l)):=by
 have HL:=Qi O;have HC:=Qi t;have S:=Qi (FbS.start0 w);have hE:∀ (args:Array Value) (w:World),(callFunc 120 args).run prog w=.ok (.enter 120 args) w:=fun _ _=>by kernel_rfl
 clear O t;unfold Rd;go_enter func119,ntmps119
 go_upto_region 1 with fail
 generalize w.alloc (.cells #[Iv 0,Iv 0] 32)=w1 at S |-;generalize w.heap.size=R at S |-;go_wp2_with fail
 go_loopw [10] (fun i wr=>∃ q:Nat,q<=l.length/\i=Iv q/\FbS w wr R []/\∀ (j:Nat) x,j<q->l[j]?=some x->(G j x).1=0) (fun i _=>l.length - (intOf i).toNat)
 case atStart=>exact⟨0,Xb _,Yz,S.out,fun j z m=>absurd m (XG _)⟩
 case round =>
  obtain⟨q,hq,rfl,hs,B⟩:=hrel
  have K:=Qi hs;have F:=Qi B;clear hs B S;obtain⟨A,aa⟩:∃ A,A=wr:=⟨_,Yz⟩
  subst aa;by_cases ac:q<l.length
  rotate_left
  ·have L:¬ (q:Int)<l.length:=by omega
   have E:firstF G 0 l=(0,0):=Zv fun j x m=>by rw[XK];exact F.out j x (by have:=(Zi m).1;omega) m
   obtain⟨r0,r1,z0,z1⟩:=K.out.cells
   have D:=Qi (K.out.fin 0 0);go_wp2_with fail
   generalize World.setCell _ _ _=ad at D |-;exact Xy (v:=.agg #[Iv 0,Iv 0]) (by simp[results,results119,go_sem,Qa D.out.1 0 _ Yz,Qa D.out.1 1 _ Yz]) Yz ⟨by first | rfl | rw[E],D.out.2⟩
  have L:(q:Int)<l.length:=by omega
  have Q:l[q]?=some l[q]:=Zg ac;generalize l[q]=x at Q;have V:=Qi Q;obtain⟨g,o,z,rfl,X,I3⟩:=Qcb HL.out Q
  have HI:=Qi I3;generalize k:([Iv x.regs,.slice z.pP x.params.length z.cP,.slice z.pC x.code.length z.cC,Iv x.fin.op,Iv x.fin.a,Iv x.fin.yes.block,.slice z.e.pYR x.fin.yes.regs.length z.e.cYR,.slice z.e.pYA x.fin.yes.args.length z.e.cYA,Iv x.fin.no.block,.slice z.e.pNR x.fin.no.regs.length z.e.cNR,.slice z.e.pNA x.fin.no.args.length z.e.cNA,.slice z.e.pA x.fin.args.length z.e.cA]:List Value)=d at X;have hl:d.length=12:=by rw[<-k];rfl
  have I:=Qi (Qmy.of A hl);have TO:Hid (d.toArray.all (·.oneCell')=true):=by show _=_;rw[<-k];exact all_oneCell_toArray (Xe.1 Yz)
  have RG:Hid (A.rangeAt g (o+q*12) d):=fun j v m=>Qn (X j v m) K.out.bel;clear Q X I3 hl;go_upto_region 4 with (first | (refine wpList_load_mid Yz 86 (.tmp 13) Yz g (o+q*12) Yz d _ RG.out underlying86 Yz I.out.size ?_) | (refine wpList_store_mid Yz 86 (.tmp 6) (.tmp 14) Yz A.heap.size 0 d.toArray Yz Yz I.out.there I.out.size2 TO.out ?_))
  have H:=Qi ((K.out.below I.out.bel).add I.out.blk);have TS:=Qi I.out.size;clear K RG TO I;generalize (A.alloc (.cells #[Iv 0,Nv,Nv,Iv 0,Iv 0,Iv 0,Nv,Nv,Iv 0,Nv,Nv,Nv] 86)).setCells A.heap.size 0 d=P at H |-;generalize A.heap.size=Z at H |-;have RZ:Hid (P.rangeAt Z 0 d):=Blk.range (H.out.box 0 _ Yz);have W:=Qi (HC.out q x z P V.out (HI.out.below H.out.bel) H.out.bel);unfold Rd at W;have M:Hid (([Iv x.regs,.slice z.pP x.params.length z.cP,.slice z.pC x.code.length z.cC,Iv x.fin.op,Iv x.fin.a,Iv x.fin.yes.block,.slice z.e.pYR x.fin.yes.regs.length z.e.cYR,.slice z.e.pYA x.fin.yes.args.length z.e.cYA,Iv x.fin.no.block,.slice z.e.pNR x.fin.no.regs.length z.e.cNR,.slice z.e.pNA x.fin.no.args.length z.e.cNA,.slice z.e.pA x.fin.args.length z.e.cA]:List Value)=d):=k;have N:Hid (Calls prog 120 #[Iv (q:Int),.agg d.toArray,Pv Bc 0] P fun e w'=>e=.returned (Qv (G q x))/\Below P.heap.size P w'):=by rw[<-M.out];exact W.out
  clear W M k;obtain⟨s,C,U⟩:∃ s C,G q x=(s,C):=⟨_,_,Yz⟩
  rw[U] at N
  have T:=Qi U;clear U;go_wp2_with (refine wpList_load_mid Yz 86 (.tmp 6) Yz Z 0 Yz d _ RZ.out underlying86 Yz TS.out ?_)
  refine N.out.mono ?_;rintro _ w8 ⟨rfl,b8⟩;have y:=Qi ((H.out.below b8).new #[Iv s,Iv C] 32);clear b8 H;simp only[Qv]
  go_upto_region 5 with fail
  generalize w8.alloc (.cells #[Iv s,Iv C] 32)=w9 at y |-;generalize w8.heap.size=F8 at y |-;have f0:=Qa (y.out.box 0 _ Yz) 0 _ Yz;have f1:=Qa (y.out.box 0 _ Yz) 1 _ Yz;have S8:Hid (FbS w w9 R []):=⟨y.out.bel,y.out.ge,y.out.r,fun i b hb=>by simp at hb⟩;clear y;by_cases h:s=0
  ·subst h;go_wp2
   go_roundw
   case rel =>
    refine⟨q+1,by omega,by go_num,S8.out,fun j u m J=>?_⟩
    by_cases ab:j<q
    ·exact F.out j u ab J
    ·have:j=q:=by omega
     subst this;rw[V.out] at J
     cases J
     rw[T.out]
   case measure=>simp[intOf];omega
  ·have d9:(s != 0)=true:=by simpa using h
   have E:firstF G 0 l=(s,C):=by
    have hF:=ZT (f:=G) (j:=0) V.out (fun j u m J=>by rw[XK];exact F.out j u m J) (by rw[XK,T.out];exact h);rw[XK,T.out] at hF
    exact hF
   clear h;obtain⟨r0,r1,z0,z1⟩:=S8.out.cells
   have D:=Qi (S8.out.fin s C);go_wp2_with fail
   generalize World.setCell _ _ _=ad at D |-;exact Xy (v:=.agg #[Iv s,Iv C]) (by simp[results,results119,go_sem,Qa D.out.1 0 _ Yz,Qa D.out.1 1 _ Yz]) Yz ⟨by first | rfl | rw[E],D.out.2⟩
theorem Qhy {l:List (MFunc n)}{Bc:Nat}(G:Nat->(MFunc n)->Int × Int) (H:(Qar n).In w All l [.slice p l.length c]) (aa:l.length<=100000)
 (h:∀ (i:Nat) x (z:FP) wx,l[i]?=some x->FIn wx All x z->Below w.heap.size w wx->Rd prog 74 #[Iv (i:Int),.agg #[Iv x.regs,.slice z.pP x.params.length z.cP,.slice z.pR x.results.length z.cR,.slice z.pB x.blocks.length z.cB],Pv Bc 0] wx (Qv (G i x))) :
 Rd prog 73 #[.slice p l.length c,.func (.func 74) #[] #[Pv Bc 0]] w (Qv (firstF G 0 l)):=by
 have HL:=Qi H;have HC:=Qi h;have S:=Qi (FbS.start0 w);have hE:∀ (args:Array Value) (w:World),(callFunc 74 args).run prog w=.ok (.enter 74 args) w:=fun _ _=>by kernel_rfl
 clear H h;unfold Rd;go_enter func73,ntmps73
 go_upto_region 1 with fail
 generalize w.alloc (.cells #[Iv 0,Iv 0] 32)=w1 at S |-;generalize w.heap.size=R at S |-;go_wp2_with fail
 go_loopw [10] (fun i wr=>∃ q:Nat,q<=l.length/\i=Iv q/\FbS w wr R []/\∀ (j:Nat) x,j<q->l[j]?=some x->(G j x).1=0) (fun i _=>l.length - (intOf i).toNat)
 case atStart=>exact⟨0,Xb _,Yz,S.out,fun j z A=>absurd A (XG _)⟩
 case round =>
  obtain⟨q,hq,rfl,hs,s⟩:=hrel
  have m:=Qi hs;have y:=Qi s;clear hs s S;obtain⟨I,O⟩:∃ I,I=wr:=⟨_,Yz⟩
  subst O;by_cases Q:q<l.length
  rotate_left
  ·have F:¬ (q:Int)<l.length:=by omega
   have E:firstF G 0 l=(0,0):=Zv fun j x A=>by rw[XK];exact y.out j x (by have:=(Zi A).1;omega) A
   obtain⟨r0,r1,z0,z1⟩:=m.out.cells
   have D:=Qi (m.out.fin 0 0);go_wp2_with fail
   generalize World.setCell _ _ _=U at D |-;exact Xy (v:=.agg #[Iv 0,Iv 0]) (by simp[results,results73,go_sem,Qa D.out.1 0 _ Yz,Qa D.out.1 1 _ Yz]) Yz ⟨by first | rfl | rw[E],D.out.2⟩
  have F:(q:Int)<l.length:=by omega
  have J:l[q]?=some l[q]:=Zg Q;generalize l[q]=x at J;have M:=Qi J;obtain⟨g,o,z,rfl,C,V⟩:=QbU HL.out J
  have HI:=Qi V;have v0:=Qn (show w.cell? ⟨g,o+q*4,none⟩=_ from C 0 _ Yz) m.out.bel;have v1:=Qn (show w.cell? ⟨g,o+q*4+1,none⟩=_ from C 1 _ Yz) m.out.bel;have v2:=Qn (show w.cell? ⟨g,o+q*4+2,none⟩=_ from C 2 _ Yz) m.out.bel;have v3:=Qn (show w.cell? ⟨g,o+q*4+3,none⟩=_ from C 3 _ Yz) m.out.bel;have a:=Qi (m.out.new #[Iv x.regs,.slice z.pP x.params.length z.cP,.slice z.pR x.results.length z.cR,.slice z.pB x.blocks.length z.cB] 89);clear J C V;go_upto_region 4 with fail
  generalize I.alloc (.cells #[Iv x.regs,.slice z.pP x.params.length z.cP,.slice z.pR x.results.length z.cR,.slice z.pB x.blocks.length z.cB] 89)=w3 at a |-;generalize I.heap.size=Z at a |-;clear m v0 v1 v2 v3;have t0:=Qa (a.out.box 0 _ Yz) 0 _ Yz;have t1:=Qa (a.out.box 0 _ Yz) 1 _ Yz;have t2:=Qa (a.out.box 0 _ Yz) 2 _ Yz;have t3:=Qa (a.out.box 0 _ Yz) 3 _ Yz;have N:=Qi (HC.out q x z w3 M.out (HI.out.below a.out.bel) a.out.bel);unfold Rd at N;obtain⟨e,t,L⟩:∃ e t,G q x=(e,t):=⟨_,_,Yz⟩
  rw[L] at N
  have K:=Qi L;clear L;go_wp2_with fail
  refine N.out.mono ?_;rintro _ w8 ⟨rfl,W⟩;have k:=Qi ((a.out.below W).new #[Iv e,Iv t] 32);clear W a;simp only[Qv]
  go_upto_region 5 with fail
  generalize w8.alloc (.cells #[Iv e,Iv t] 32)=w9 at k |-;generalize w8.heap.size=F8 at k |-;have f0:=Qa (k.out.box 0 _ Yz) 0 _ Yz;have f1:=Qa (k.out.box 0 _ Yz) 1 _ Yz;have T:Hid (FbS w w9 R []):=⟨k.out.bel,k.out.ge,k.out.r,fun i b hb=>by simp at hb⟩;clear k;by_cases d:e=0
  ·subst d;go_wp2
   go_roundw
   case rel =>
    refine⟨q+1,by omega,by go_num,T.out,fun j u A B=>?_⟩
    by_cases P:j<q
    ·exact y.out j u P B
    ·have:j=q:=by omega
     subst this;rw[M.out] at B
     cases B
     rw[K.out]
   case measure=>simp[intOf];omega
  ·have d9:(e != 0)=true:=by simpa using d
   have E:firstF G 0 l=(e,t):=by
    have X:=ZT (f:=G) (j:=0) M.out (fun j u A B=>by rw[XK];exact y.out j u A B) (by rw[XK,K.out];exact d);rw[XK,K.out] at X
    exact X
   clear d;obtain⟨r0,r1,z0,z1⟩:=T.out.cells
   have D:=Qi (T.out.fin e t);go_wp2_with fail
   generalize World.setCell _ _ _=U at D |-;exact Xy (v:=.agg #[Iv e,Iv t]) (by simp[results,results73,go_sem,Qa D.out.1 0 _ Yz,Qa D.out.1 1 _ Yz]) Yz ⟨by first | rfl | rw[E],D.out.2⟩
abbrev iA (z:Qx) (zi:IP):Array Value:=#[Iv z.op,Iv z.a,Iv z.b,Iv z.c,Iv z.k,Iv z.n,.slice zi.pR z.regs.length zi.cR,.slice zi.pA z.args.length zi.cA]
abbrev fA {n:Nat}(x:MFunc n) (fp:FP):Array Value:=#[Iv x.regs,.slice fp.pP x.params.length fp.cP,.slice fp.pR x.results.length fp.cR,.slice fp.pB x.blocks.length fp.cB]
abbrev eA {n:Nat}(y:MBlock n) (bp:BP):Array Value:=#[Iv y.fin.op,Iv y.fin.a,Iv y.fin.yes.block,.slice bp.e.pYR y.fin.yes.regs.length bp.e.cYR,.slice bp.e.pYA y.fin.yes.args.length bp.e.cYA,Iv y.fin.no.block,.slice bp.e.pNR y.fin.no.regs.length bp.e.cNR,.slice bp.e.pNA y.fin.no.args.length bp.e.cNA,.slice bp.e.pA y.fin.args.length bp.e.cA]
abbrev bA {n:Nat}(y:MBlock n) (bp:BP):Array Value:=#[Iv y.regs,.slice bp.pP y.params.length bp.cP,.slice bp.pC y.code.length bp.cC,Iv y.fin.op,Iv y.fin.a,Iv y.fin.yes.block,.slice bp.e.pYR y.fin.yes.regs.length bp.e.cYR,.slice bp.e.pYA y.fin.yes.args.length bp.e.cYA,Iv y.fin.no.block,.slice bp.e.pNR y.fin.no.regs.length bp.e.cNR,.slice bp.e.pNA y.fin.no.args.length bp.e.cNA,.slice bp.e.pA y.fin.args.length bp.e.cA]
abbrev lA {n:Nat}(m:List (MFunc n)) (p:Option Addr) (c:Nat) (x:MFunc n) (fp:FP) (fi:Nat):Array Value:=#[.slice p m.length c,Iv x.regs,.slice fp.pP x.params.length fp.cP,.slice fp.pR x.results.length fp.cR,.slice fp.pB x.blocks.length fp.cB,Iv (fi:Int)]
theorem bkSizeE:(prog.info? 84).map (·.size)=some 9:=by kernel_rfl
def QoL (w6:World) (Bc X q N c fi bi:Nat) (p:Option Addr) (z:Qx) (zi:IP) (vf vp v0 v1:Int) (t:Tmp) (v:Value) (w:World):Prop :=
 v=(([(2,Pv Bc 0),(4,Pv X 0),(0,Iv (q:Int)),(6,Pv Bc 0),(7,Pv Bc 0),(8,.agg #[.slice p N c]),(9,.agg (iA z zi)),(10,Iv vf),(11,Pv Bc 0),(12,Pv Bc 5),(13,Iv (fi:Int)),(14,Pv Bc 18),(15,Iv (bi:Int)),(16,Iv (q:Int)),(17,Iv vp),(18,.agg #[Iv v0,Iv v1])]:List (Tmp × Value)).lookup t).getD undef
theorem kd1 {Bc:Nat}{z:Qx}{r:IP}{u x o s:Int}(I:w6.cell? ⟨Bc,0,none⟩=some (.slice p N c)) (C:w6.cell? ⟨Bc,5,none⟩=some (Iv (fi:Int))) (y:w6.cell? ⟨Bc,18,none⟩=some (Iv (bi:Int))) (d:Hid (Blk w6 X (iA z r) 78)) (J:Hid (∀ w,Below w6.heap.size w6 w->Calls prog 184 #[.agg #[.slice p N c],.agg (iA z r)] w fun e w'=>e=.returned (Iv u)/\Below w.heap.size w w')) (L:Hid (∀ w,Below w6.heap.size w6 w->Calls prog 130 #[Iv (fi:Int),Iv (bi:Int),Iv (q:Int)] w fun e w'=>e=.returned (Iv x)/\Below w.heap.size w w')) (H:Hid (∀ w,Below w6.heap.size w6 w->Calls prog 117 #[Iv u,Iv x] w fun e w'=>e=.returned (.agg #[Iv o,Iv s])/\Below w.heap.size w w'))
 (a:Act) (m:Nat) (hn:a.tmps.size=m) (l:19<=m) (F:a.tmps.getD 2 undef=Pv Bc 0) (M:a.tmps.getD 4 undef=Pv X 0) (E:a.tmps.getD 0 undef=Iv (q:Int))
 (hend:∀ ops vs w',vs 18=.agg #[Iv o,Iv s]->Below w6.heap.size w6 w'->wpList prog ops Q (QaI 13 ((Tryz.f183.body.bind (Qf 1)).getD .skip)) (QC a vs [6,7,8,9,10,11,12,13,14,15,16,17,18]) w') :
 Code.wp prog ((Tryz.f183.body.bind (Qf 1)).getD .skip) Q a w6:=by
 conv=>arg 2;whnf
 refine Qj 13 (QoL w6 Bc X q N c fi bi p z r u x o s) (fun w=>Below w6.heap.size w6 w) (fun w w'=>Below w.heap.size w w') (outs:=[2,4,0]) (gs:=[]) (bs:=[true,true,true,true,true,true,true,true,true,true,true,true,true]) (by kernel_rfl) (n:=19) hn l (by kernel_rfl) (by kernel_rfl) ?hR ?hG (Qh Zr 1) ⟨F,M,E,Y⟩ ?hA ?hend
 case hR=>exact fun t v w w' _ h=>h
 case hG=>exact Y
 case hend=>exact fun ops vs w' b i=>hend ops vs w' (i 18 (by kernel_rfl)) b
 case hA =>
  repeat
   refine⟨fun a w b i K k=>?_,?_⟩
   focus first
    | obtain⟨g,-⟩:=i
      conv at g=>whnf;rhs;whnf
      have V:=Qn I b;have O:=Qn (Qa d.out 0 _ Z) b;have c2:=Qn (Qa d.out 1 _ Z) b;have U:=Qn (Qa d.out 2 _ Z) b;have S:=Qn (Qa d.out 3 _ Z) b;have c5:=Qn (Qa d.out 4 _ Z) b;have W:=Qn (Qa d.out 5 _ Z) b;have P:=Qn (Qa d.out 6 _ Z) b;have T:=Qn (Qa d.out 7 _ Z) b;have R:=Qn C b;have G:=Qn y b;go_simp;exact k _ _ Zr b Z
    | obtain⟨g,j,-⟩:=i
      conv at g=>whnf;rhs;whnf
      conv at j=>whnf;rhs;whnf
      go_simp;refine Xm (J.out w b) ?_;rintro A B ⟨rfl,f⟩;go_simp;exact k _ _ f (b.trans (f.mono b.size)) Z
    | obtain⟨g,j,-⟩:=i
      conv at g=>whnf;rhs;whnf
      conv at j=>whnf;rhs;whnf
      go_simp;refine Xm (H.out w b) ?_;rintro A B ⟨rfl,f⟩;go_simp;exact k _ _ f (b.trans (f.mono b.size)) Z
    | obtain⟨g,j,D,-⟩:=i
      conv at g=>whnf;rhs;whnf
      conv at j=>whnf;rhs;whnf
      conv at D=>whnf;rhs;whnf
      go_simp;refine Xm (L.out w b) ?_;rintro A B ⟨rfl,f⟩;go_simp;exact k _ _ f (b.trans (f.mono b.size)) Z
  trivial
def Qon {n:Nat}(w6:World) (X fi bi:Nat) (x:MFunc n) (fp:FP) (y:MBlock n) (bp:BP) (vf vp v0 v1:Int) (t:Tmp) (v:Value) (w:World):Prop :=
 v=(([(1,Pv X 0),(26,Pv X 0),(27,Pv X 1),(28,.agg (fA x fp)),(29,Pv X 6),(30,Pv X 9),(31,.agg (eA y bp)),(32,Iv vf),(33,Pv X 0),(34,Pv X 5),(35,Iv (fi:Int)),(36,Pv X 18),(37,Iv (bi:Int)),(38,Iv vp),(39,.agg #[Iv v0,Iv v1])]:List (Tmp × Value)).lookup t).getD undef
theorem kd7 {m:List (MFunc n)}{x:MFunc n}{fp:FP}{y:MBlock n}{l:BP}{z A r s:Int}(i:Hid (Blk w6 X (bkA m p c x fp fi y l bi) 194)) (u:Hid (w6.rangeAt X 9 (eA y l).toList)) (G:Hid (∀ w,Below w6.heap.size w6 w->Calls prog 185 #[.agg (fA x fp),.agg (eA y l)] w fun e w'=>e=.returned (Iv z)/\Below w.heap.size w w')) (H:Hid (∀ w,Below w6.heap.size w6 w->Calls prog 131 #[Iv (fi:Int),Iv (bi:Int)] w fun e w'=>e=.returned (Iv A)/\Below w.heap.size w w')) (F:Hid (∀ w,Below w6.heap.size w6 w->Calls prog 117 #[Iv z,Iv A] w fun e w'=>e=.returned (.agg #[Iv r,Iv s])/\Below w.heap.size w w'))
 (a:Act) (m:Nat) (hn:a.tmps.size=m) (q:40<=m) (E:a.tmps.getD 1 undef=Pv X 0)
 (hend:∀ ops vs w',vs 39=.agg #[Iv r,Iv s]->Below w6.heap.size w6 w'->wpList prog ops Q (QaI 14 ((Tryz.f121.body.bind (Qf 7)).getD .skip)) (QC a vs [26,27,28,29,30,31,32,33,34,35,36,37,38,39]) w') :
 Code.wp prog ((Tryz.f121.body.bind (Qf 7)).getD .skip) Q a w6:=by
 conv=>arg 2;whnf
 refine Qj 14 (Qon w6 X fi bi x fp y l z A r s) (fun w=>Below w6.heap.size w6 w) (fun w w'=>Below w.heap.size w w') (outs:=[1]) (gs:=[]) (bs:=[true,true,true,true,true,true,true,true,true,true,true,true,true,true]) (by kernel_rfl) (n:=40) hn q (by kernel_rfl) (by kernel_rfl) ?hR ?hG (Qh Zr 1) ⟨E,Y⟩ ?hA ?hend
 case hR=>exact fun t v w w' _ h=>h
 case hG=>exact Y
 case hend=>exact fun ops vs w' b g=>hend ops vs w' (g 39 (by kernel_rfl)) b
 case hA =>
  repeat
   refine⟨fun a w b g K o=>?_,?_⟩
   focus first
    | obtain⟨d,-⟩:=g
      conv at d=>whnf;rhs;whnf
      have M:=Qn (Qa i.out 1 _ Z) b;have I:=Qn (Qa i.out 2 _ Z) b;have N:=Qn (Qa i.out 3 _ Z) b;have L:=Qn (Qa i.out 4 _ Z) b;have J:=Qn (Qa i.out 5 _ Z) b;have O:=Qn (Qa i.out 18 _ Z) b;go_simp;exact o _ _ Zr b Z
    | obtain⟨d,-⟩:=g
      conv at d=>whnf;rhs;whnf
      exact wp_load_mid 84 (.tmp 30) Z X 9 d (eA y l).toList _ (fun j v D=>Qn (u.out j v D) b) underlying84 Z bkSizeE (o _ _ Zr b Z)
    | obtain⟨d,k,-⟩:=g
      conv at d=>whnf;rhs;whnf
      conv at k=>whnf;rhs;whnf
      go_simp;refine Xm (G.out w b) ?_;rintro B C ⟨rfl,f⟩;go_simp;exact o _ _ f (b.trans (f.mono b.size)) Z
    | obtain⟨d,k,-⟩:=g
      conv at d=>whnf;rhs;whnf
      conv at k=>whnf;rhs;whnf
      go_simp;refine Xm (H.out w b) ?_;rintro B C ⟨rfl,f⟩;go_simp;exact o _ _ f (b.trans (f.mono b.size)) Z
    | obtain⟨d,k,-⟩:=g
      conv at d=>whnf;rhs;whnf
      conv at k=>whnf;rhs;whnf
      go_simp;refine Xm (F.out w b) ?_;rintro B C ⟨rfl,f⟩;go_simp;exact o _ _ f (b.trans (f.mono b.size)) Z
  trivial
theorem QiP {m:List (MFunc n)}{x:MFunc n}{fp:FP}{y:MBlock n}{D:BP}{Bc:Nat}{z:Qx}{h:IP}(F:q<1000000) (I:m.length<=100000) (o:fi<1000000) (l:bi<1000000) (d:Blk w Bc (bkA m p c x fp fi y D bi) 194) :
 Rd prog 183 #[Iv (q:Int),.agg (iA z h),Pv Bc 0] w (Qv (atF (z.form m.length) (10000*(fi:Int)+100*(bi:Int)+(q:Int)))):=by
 have f:=((Bxs.start w).new (iA z h) 78).new #[Iv 0,Iv 0] 32;rw[World.size_alloc] at f
 have f:=Qi f;have E:=Qi d;have G:Hid (∀ b:World,Calls prog 184 #[.agg #[.slice p m.length c],.agg (iA z h)] b fun e j=>e=.returned (Iv (z.form m.length))/\Below b.heap.size b j):=fun b=>Qkl m.length z h p c b (by omega);have H:Hid (∀ b:World,Calls prog 130 #[Iv (fi:Int),Iv (bi:Int),Iv (q:Int)] b fun e j=>e=.returned (Iv (10000*(fi:Int)+100*(bi:Int)+(q:Int)))/\Below b.heap.size b j):=fun b=>Qei ⟨o,l,F⟩;have t:Hid (∀ b:World,Calls prog 117 #[Iv (z.form m.length),Iv (10000*(fi:Int)+100*(bi:Int)+(q:Int))] b fun e j=>e=.returned (.agg #[Iv (atF (z.form m.length) (10000*(fi:Int)+100*(bi:Int)+(q:Int))).1,Iv (atF (z.form m.length) (10000*(fi:Int)+100*(bi:Int)+(q:Int))).2])/\Below b.heap.size b j):=fun b=>QbR;generalize A:atF (z.form m.length) (10000*(fi:Int)+100*(bi:Int)+(q:Int))=v at t |-;clear d A;unfold Rd;go_enter func183,ntmps183
 go_upto_region 1 with fail
 generalize (w.alloc (.cells (iA z h) 78)).alloc (.cells #[Iv 0,Iv 0] 32)=J at f |-;generalize w.heap.size+1=R at f |-;generalize w.heap.size=X at f |-;have g:=Qi (E.out.below f.out.bel);refine kd1 (Qa g.out 0 _ Z) (Qa g.out 5 _ Z) (Qa g.out 18 _ Z) (f.out.at (a:=[_])) (fun b _=>G.out b) (fun b _=>H.out b) (fun b _=>t.out b) _ _ Z (Xg (by kernel_rfl)) Z Z Z ?_;rintro r C B k u;have i:=Qi (f.out.below u);clear u f g;show wpList _ r _ [_] (QC _ C [6,7,8,9,10,11,12,13,14,15,16,17,18]) B;simp only[QC,Act.put,List.setIfInBounds_toArray,List.set_cons_zero,List.set_cons_succ,k]
 have K:=i.out.cell (a:=[]) 0 _ Z;have M:=i.out.cell (a:=[]) 1 _ Z;have L:=i.out.free (a:=[]) 0;have N:=i.out.free (a:=[]) 1;have s:=Qi ((i.out.set (a:=[]) 0 (Iv (v.1))).set (a:=[]) 1 (Iv (v.2)));go_wp2
 exact Xy (v:=Qv v) (by simp[results,results183,go_sem,s.out.cell (a:=[]) 0 _ Z,s.out.cell (a:=[]) 1 _ Z]) Z ⟨Z,s.out.bel⟩
theorem Qc0 {m:List (MFunc n)}{x:MFunc n}{fp:FP}{y:MBlock n}{o:BP}(G:FIn w All x fp) (A:x.small) (D:BIn w All y o) (k:y.small) (hm:m.length<=100000) (t:fi<1000000) (s:bi<1000000) :
 Rd prog 121 #[.agg (bkA m p c x fp fi y o bi)] w (Qv (MBlock.fault m.length fi x bi y)):=by
 have r:=((Bxs.start w).new (bkA m p c x fp fi y o bi) 194).new #[Iv 0,Iv 0] 32;rw[World.size_alloc] at r
 have r:=Qi r;have HB:=Qi (Xh hm (Xh t s));have H:=Qi (Xh G (Xh A (Xh D k)));have g:=Qi (MBlock.fault_eq m.length fi x bi y);have EI:=QfF (f:=fun i z=>(Qx.form m.length z,(10000*(fi:Int)+100*(bi:Int)+(i:Int)))) (l:=y.code) (j:=0);dsimp only at EI
 have CC:Hid (∀ b,Below w.heap.size w b->Calls prog 180 #[.agg (bkA m p c x fp fi y o bi)] b fun e B=>e=.returned (Iv (y.code' x bi))/\Below b.heap.size b B):=fun b bx=>QeQ (G.below bx) A (D.below bx) k;have CF:Hid (∀ (Q P:Int) (b:World),Calls prog 117 #[Iv Q,Iv P] b fun e B=>e=.returned (.agg #[Iv (atF Q P).1,Iv (atF Q P).2])/\Below b.heap.size b B):=fun Q P b=>QbR;have CB:Hid (∀ b:World,Calls prog 181 #[Iv (fi:Int),Iv (bi:Int)] b fun e B=>e=.returned (Iv (10000*(fi:Int)+100*(bi:Int)+90))/\Below b.heap.size b B):=fun b=>Qfk ⟨t,s⟩;have CA:Hid (∀ b:World,Calls prog 131 #[Iv (fi:Int),Iv (bi:Int)] b fun e B=>e=.returned (Iv (10000*(fi:Int)+100*(bi:Int)+91))/\Below b.heap.size b B):=fun b=>Qel ⟨t,s⟩;have CE:Hid (∀ b:World,Calls prog 185 #[.agg (fA x fp),.agg (eA y o)] b fun e B=>e=.returned (Iv (y.fin.form x.blocks.length))/\Below b.heap.size b B):=fun b=>QkI (by obtain⟨a1,a2⟩:=k.2.2.1.1;obtain⟨a3,a4⟩:=k.2.2.1.2.1;exact⟨by omega,by omega,by omega,by omega⟩) (by have:=A.1;omega);rw[<-EI] at g
 have g:=Qi g.out;generalize MBlock.fault m.length fi x bi y=V at g |-;generalize y.code' x bi=v at g CC;clear G A D k hm t s EI;unfold Rd;go_enter func121,ntmps121
 go_upto_region 1 with fail
 generalize (w.alloc (.cells (bkA m p c x fp fi y o bi) 194)).alloc (.cells #[Iv 0,Iv 0] 32)=w1 at r |-;generalize w.heap.size+1=R at r |-;generalize w.heap.size=X at r |-;have RG:=Qi (Blk.range (c:=(bkA m p c x fp fi y o bi).toList) (r.out.at (a:=[_])));go_wp2_with (refine Z6 Z 194 (.tmp 1) Z X 0 Z (bkA m p c x fp fi y o bi).toList _ RG.out underlying194 Z bkSize ?_)
 refine(CC.out w1 r.out.bel).mono ?_
 rintro e' N ⟨rfl,b2⟩;have u:=Qi (r.out.below b2);clear b2 RG r CC;have x5:N.cell? ⟨X,5,none⟩=some (Iv (fi:Int)):=u.out.cell (a:=[_]) 5 _ Z;have x8:N.cell? ⟨X,8,none⟩=some (.slice o.pC y.code.length o.cC):=u.out.cell (a:=[_]) 8 _ Z;have M:N.cell? ⟨X,18,none⟩=some (Iv (bi:Int)):=u.out.cell (a:=[_]) 18 _ Z;by_cases I:v=0
 rotate_left
 ·have E:=Qi (g.out.trans (Xr I));have dv:(v != 0)=true:=bne_iff_ne.2 I;have HV:=Qi I;clear I g CE CA;go_wp2_with fail
  refine(CB.out N).mono ?_
  rintro e' T ⟨rfl,L⟩;have d:=Qi (u.out.below L);clear L u x5 x8 M;go_wp2_with fail
  refine(CF.out v (10000*(fi:Int)+100*(bi:Int)+90) T).mono ?_
  rintro e' W ⟨rfl,b4⟩;have O:=Qi (d.out.below b4);clear b4 d;have EA:Hid (atF v (10000*(fi:Int)+100*(bi:Int)+90)=V):=(Xr HV.out).trans E.out.symm;rw[EA.out]
  have r0:=O.out.cell (a:=[]) 0 _ Z;have r1:=O.out.cell (a:=[]) 1 _ Z;have z0:=O.out.free (a:=[]) 0;have z1:=O.out.free (a:=[]) 1;have q:=Qi ((O.out.set (a:=[]) 0 (Iv (V.1))).set (a:=[]) 1 (Iv (V.2)));go_wp2
  exact Xy (v:=Qv V) (by simp[results,results121,go_sem,q.out.cell (a:=[]) 0 _ Z,q.out.cell (a:=[]) 1 _ Z]) Z ⟨Z,q.out.bel⟩
 replace g:=Qi (g.out.trans (Xs I));subst I;have S:=Qi (Qii (w:=N) (Bc:=X) (fun i z=>atF (Qx.form m.length z) (10000*(fi:Int)+100*(bi:Int)+(i:Int))) (Ya H.out.2.2.1.code u.out.bel) (by have:=H.out.2.2.2.1;omega) (fun i z zi b hz hi hb=>QiP (y:=y) (by have h8:=H.out.2.2.2.1;have h9:=(Zi hz).1;omega) HB.out.1 HB.out.2.1 HB.out.2.2 ((u.out.at (a:=[_])).below hb)));unfold Rd at S;generalize firstF (fun i z=>atF (Qx.form m.length z) (10000*(fi:Int)+100*(bi:Int)+(i:Int))) 0 y.code=h at g S;go_wp2_with fail
 refine S.out.mono ?_;rintro e' T ⟨rfl,L⟩;have d:=Qi ((u.out.below L).new #[Iv h.1,Iv h.2] 32);clear L u x5 x8 M S;go_upto_region 5 with fail
 generalize T.alloc (.cells #[Iv h.1,Iv h.2] 32)=W at d |-;generalize T.heap.size=F at d |-;have y0:W.cell? ⟨F,0,none⟩=some (Iv h.1):=d.out.cell (a:=[]) 0 _ Z;have y1:W.cell? ⟨F,1,none⟩=some (Iv h.2):=d.out.cell (a:=[]) 1 _ Z;by_cases J:h.1=0
 rotate_left
 ·have E:=Qi (g.out.trans (Xr J));have df:(h.1 != 0)=true:=bne_iff_ne.2 J;clear J g;have r0:=d.out.cell (a:=[_]) 0 _ Z;have r1:=d.out.cell (a:=[_]) 1 _ Z;have z0:=d.out.free (a:=[_]) 0;have z1:=d.out.free (a:=[_]) 1;have q:=Qi ((d.out.set (a:=[_]) 0 (Iv (h.1))).set (a:=[_]) 1 (Iv (h.2)));go_wp2
  exact Xy (v:=Qv h) (by simp[results,results121,go_sem,q.out.cell (a:=[_]) 0 _ Z,q.out.cell (a:=[_]) 1 _ Z]) Z ⟨by rw[E.out],q.out.bel⟩
 have E:=Qi (g.out.trans (Xs J));have df:(h.1 != 0)=false:=by simpa using J
 clear J g;go_upto_region 7 with fail
 clear y0 y1;have U:=Qi (d.out.at (a:=[_,_]));refine kd7 U (fun j v hj=>by have h8:=(Blk.range (c:=(bkA m p c x fp fi y o bi).toList) U.out) (9+j) v (by rcases j with _ | _ | _ | _ | _ | _ | _ | _ | _ | j<;>first | exact hj | simp at hj);rwa [XK] at h8) (fun b _=>CE.out b) (fun b _=>CA.out b) (fun b _=>CF.out _ _ b) _ _ Z (Xg (by kernel_rfl)) Z ?_;rintro aa vs w5 C b5;have K:=Qi (d.out.below b5);clear b5 d U;rw[<-E.out] at C
 show wpList _ aa _ [_] (QC _ vs [26,27,28,29,30,31,32,33,34,35,36,37,38,39]) w5;simp only[QC,Act.put,List.setIfInBounds_toArray,List.set_cons_zero,List.set_cons_succ,C]
 have r0:=K.out.cell (a:=[_]) 0 _ Z;have r1:=K.out.cell (a:=[_]) 1 _ Z;have z0:=K.out.free (a:=[_]) 0;have z1:=K.out.free (a:=[_]) 1;have q:=Qi ((K.out.set (a:=[_]) 0 (Iv (V.1))).set (a:=[_]) 1 (Iv (V.2)));go_wp2
 exact Xy (v:=Qv V) (by simp[results,results121,go_sem,q.out.cell (a:=[_]) 0 _ Z,q.out.cell (a:=[_]) 1 _ Z]) Z ⟨Z,q.out.bel⟩
theorem Qis {m:List (MFunc n)}{x:MFunc n}{fp:FP}{y:MBlock n}{f:BP}(l:FIn w All x fp) (q:x.small) (j:BIn w All y f) (k:y.small){Bc:Nat}(t:m.length<=100000) (h:fi<1000000) (g:bi<1000000) (b:Blk w Bc (lA m p c x fp fi) 139) :
 Rd prog 120 #[Iv (bi:Int),.agg (bA y f),Pv Bc 0] w (Qv (MBlock.fault m.length fi x bi y)):=by
 have d:=((Bxs.start w).new (bA y f) 86).new #[Iv 0,Iv 0] 32;rw[World.size_alloc] at d
 have d:=Qi d;have D:=Qi b;have r:Hid (∀ o,Below w.heap.size w o->Calls prog 121 #[.agg (bkA m p c x fp fi y f bi)] o fun e E=>e=.returned (Qv (MBlock.fault m.length fi x bi y))/\Below o.heap.size o E):=fun o A=>Qc0 (l.below A) q (j.below A) k t h g;generalize MBlock.fault m.length fi x bi y=V at r |-;clear l q j k t h g b;unfold Rd;go_enter func120,ntmps120
 go_upto_region 1 with fail
 generalize (w.alloc (.cells (bA y f) 86)).alloc (.cells #[Iv 0,Iv 0] 32)=C at d |-;generalize w.heap.size+1=R at d |-;generalize w.heap.size=X at d |-;have u:=Qi (Blk.range (c:=(bA y f).toList) (d.out.at (a:=[_])));have z:=Qi (Blk.range (c:=(lA m p c x fp fi).toList) (D.out.below d.out.bel));go_wp2_with (first | refine Z6 Z 139 (.tmp 2) Z Bc 0 Z (lA m p c x fp fi).toList _ z.out underlying139 Z (by kernel_rfl) ?_ | refine Z6 Z 86 (.tmp 4) Z X 0 Z (bA y f).toList _ u.out underlying86 Z pSizeB ?_)
 refine(r.out C d.out.bel).mono ?_
 rintro H I ⟨rfl,B⟩;have i:=Qi (d.out.below B);clear B u z d r;have F:=i.out.cell (a:=[]) 0 _ Z;have J:=i.out.cell (a:=[]) 1 _ Z;have G:=i.out.free (a:=[]) 0;have K:=i.out.free (a:=[]) 1;have s:=Qi ((i.out.set (a:=[]) 0 (Iv (V.1))).set (a:=[]) 1 (Iv (V.2)));go_wp2
 exact Xy (v:=Qv V) (by simp[results,results120,go_sem,s.out.cell (a:=[]) 0 _ Z,s.out.cell (a:=[]) 1 _ Z]) Z ⟨Z,s.out.bel⟩
theorem QdY {m:List (MFunc n)}{x:MFunc n}{fp:FP}(l:FIn w All x fp) (o:x.small) (H:m.length<=100000) (k:fi<1000000) :
 Rd prog 75 #[.agg (lA m p c x fp fi)] w (Qv (MFunc.fault m.length fi x)):=by
 have h:=((Bxs.start w).new (lA m p c x fp fi) 139).new #[Iv 0,Iv 0] 32;rw[World.size_alloc] at h
 have h:=Qi h;have L:=Qi (Xh H k);have f:=Qi (Xh l o);have r:=Qi (MFunc.fault_eq m.length fi x);have F:Hid (∀ d,Below w.heap.size w d->Calls prog 116 #[.agg (lA m p c x fp fi)] d fun e u=>e=.returned (Iv (x.code fi))/\Below d.heap.size d u):=fun d bx=>QeY (l.below bx) o;have CF:Hid (∀ (B A:Int) (d:World),Calls prog 117 #[Iv B,Iv A] d fun e u=>e=.returned (.agg #[Iv (atF B A).1,Iv (atF B A).2])/\Below d.heap.size d u):=fun B A d=>QbR;have CA:Hid (∀ d:World,Calls prog 118 #[Iv (fi:Int)] d fun e u=>e=.returned (Iv (10000*(fi:Int)+9999))/\Below d.heap.size d u):=fun d=>Qf0 k;generalize MFunc.fault m.length fi x=V at r |-;generalize x.code fi=v at r F;clear l o H k;unfold Rd;go_enter func75,ntmps75
 go_upto_region 1 with fail
 generalize (w.alloc (.cells (lA m p c x fp fi) 139)).alloc (.cells #[Iv 0,Iv 0] 32)=S at h |-;generalize w.heap.size+1=R at h |-;generalize w.heap.size=X at h |-;have N:=Qi (Blk.range (c:=(lA m p c x fp fi).toList) (h.out.at (a:=[_])));go_wp2_with (refine Z6 Z 139 (.tmp 1) Z X 0 Z (lA m p c x fp fi).toList _ N.out underlying139 Z (by kernel_rfl) ?_)
 refine(F.out S h.out.bel).mono ?_
 rintro G C ⟨rfl,Q⟩;have g:=Qi (h.out.below Q);clear Q N h F;have J:C.cell? ⟨X,4,none⟩=some (.slice fp.pB x.blocks.length fp.cB):=g.out.cell (a:=[_]) 4 _ Z;have I:C.cell? ⟨X,5,none⟩=some (Iv (fi:Int)):=g.out.cell (a:=[_]) 5 _ Z;by_cases s:v=0
 rotate_left
 ·have E:=Qi (r.out.trans (Xr s));have dv:(v != 0)=true:=bne_iff_ne.2 s;have HV:=Qi s;clear s r;go_wp2_with fail
  refine(CA.out C).mono ?_
  rintro G P ⟨rfl,t⟩;have j:=Qi (g.out.below t);clear t g J I;go_wp2_with fail
  refine(CF.out v (10000*(fi:Int)+9999) P).mono ?_
  rintro G w4 ⟨rfl,K⟩;have z:=Qi (j.out.below K);clear K j;have EA:Hid (atF v (10000*(fi:Int)+9999)=V):=(Xr HV.out).trans E.out.symm;rw[EA.out]
  have T:=z.out.cell (a:=[]) 0 _ Z;have W:=z.out.cell (a:=[]) 1 _ Z;have U:=z.out.free (a:=[]) 0;have z1:=z.out.free (a:=[]) 1;have q:=Qi ((z.out.set (a:=[]) 0 (Iv (V.1))).set (a:=[]) 1 (Iv (V.2)));go_wp2
  exact Xy (v:=Qv V) (by simp[results,results75,go_sem,q.out.cell (a:=[]) 0 _ Z,q.out.cell (a:=[]) 1 _ Z]) Z ⟨Z,q.out.bel⟩
 replace r:=Qi (r.out.trans (Xs s));subst s;have D:=Qi (QgI (w:=C) (Bc:=X) (fun b y=>MBlock.fault m.length fi x b y) (Ya f.out.1.blocks g.out.bel) (by have:=f.out.2.1;omega) (fun i y bp d M hi O=>Qis (f.out.1.below (g.out.bel.trans (O.mono g.out.bel.size))) f.out.2 hi (f.out.2.2.2.2 y (Zm M)) L.out.1 L.out.2 (by have h8:=f.out.2.1;have h9:=(Zi M).1;omega) ((g.out.at (a:=[_])).below O)));unfold Rd at D;rw[<-r.out] at D
 go_wp2_with fail
 refine D.out.mono ?_;rintro G P ⟨rfl,t⟩;have j:=Qi (g.out.below t);clear t g J I D;have T:=j.out.cell (a:=[]) 0 _ Z;have W:=j.out.cell (a:=[]) 1 _ Z;have U:=j.out.free (a:=[]) 0;have z1:=j.out.free (a:=[]) 1;have q:=Qi ((j.out.set (a:=[]) 0 (Iv (V.1))).set (a:=[]) 1 (Iv (V.2)));go_wp2
 exact Xy (v:=Qv V) (by simp[results,results75,go_sem,q.out.cell (a:=[]) 0 _ Z,q.out.cell (a:=[]) 1 _ Z]) Z ⟨Z,q.out.bel⟩
theorem Qjh {m:List (MFunc n)}{x:MFunc n}{fp:FP}(h:FIn w All x fp) (j:x.small){Bc:Nat}(o:m.length<=100000) (f:fi<1000000) (b:Blk w Bc #[.slice p m.length c] 24) :
 Rd prog 74 #[Iv (fi:Int),.agg (fA x fp),Pv Bc 0] w (Qv (MFunc.fault m.length fi x)):=by
 have d:=((Bxs.start w).new (fA x fp) 89).new #[Iv 0,Iv 0] 32;rw[World.size_alloc] at d
 have d:=Qi d;have u:=Qi b;have k:Hid (∀ i,Below w.heap.size w i->Calls prog 75 #[.agg (lA m p c x fp fi)] i fun e y=>e=.returned (Qv (MFunc.fault m.length fi x))/\Below i.heap.size i y):=fun i z=>QdY (h.below z) j o f;generalize MFunc.fault m.length fi x=V at k |-;clear h j o f b;unfold Rd;go_enter func74,ntmps74
 go_upto_region 1 with fail
 generalize (w.alloc (.cells (fA x fp) 89)).alloc (.cells #[Iv 0,Iv 0] 32)=t at d |-;generalize w.heap.size+1=R at d |-;generalize w.heap.size=X at d |-;have s:=Qa (u.out.below d.out.bel) 0 _ Z;have q:=Qi (Blk.range (c:=(fA x fp).toList) (d.out.at (a:=[_])));go_wp2_with (refine Z6 Z 89 (.tmp 4) Z X 0 Z (fA x fp).toList _ q.out underlying89 Z (by kernel_rfl) ?_)
 refine(k.out t d.out.bel).mono ?_
 rintro C D ⟨rfl,r⟩;have g:=Qi (d.out.below r);clear r q d k s;have A:=g.out.cell (a:=[]) 0 _ Z;have E:=g.out.cell (a:=[]) 1 _ Z;have B:=g.out.free (a:=[]) 0;have F:=g.out.free (a:=[]) 1;have l:=Qi ((g.out.set (a:=[]) 0 (Iv (V.1))).set (a:=[]) 1 (Iv (V.2)));go_wp2
 exact Xy (v:=Qv V) (by simp[results,results74,go_sem,l.out.cell (a:=[]) 0 _ Z,l.out.cell (a:=[]) 1 _ Z]) Z ⟨Z,l.out.bel⟩
theorem Qh5 {m:List (MFunc n)}(j:(Qar n).In w All m [.slice p m.length c]) (e:Qcz m) :
 Rd prog 44 #[.agg #[.slice p m.length c]] w (Qv (modFault m)):=by
 have b:=((Bxs.start w).new #[.slice p m.length c] 24).new #[Iv 0,Iv 0] 32;rw[World.size_alloc] at b
 have b:=Qi b;have D:=Qi j;have o:=Qi e;have g:Hid (modFault m=if m.length<1\/8<m.length then (2,-1) else firstF (fun f x=>MFunc.fault m.length f x) 0 m):=rfl;have G:=e.1;generalize modFault m=V at g |-;clear j e;unfold Rd;go_enter func44,ntmps44
 go_upto_region 1 with fail
 generalize (w.alloc (.cells #[.slice p m.length c] 24)).alloc (.cells #[Iv 0,Iv 0] 32)=q at b |-;generalize w.heap.size+1=R at b |-;generalize w.heap.size=X at b |-;have H:q.cell? ⟨X,0,none⟩=some (.slice p m.length c):=b.out.cell (a:=[_]) 0 _ Z;by_cases h:m.length<1\/8<m.length
 ·have E:=Qi (g.out.trans (Xs h));clear g;have y:=b.out.cell (a:=[]) 0 _ Z;have A:=b.out.cell (a:=[]) 1 _ Z;have z:=b.out.free (a:=[]) 0;have B:=b.out.free (a:=[]) 1;by_cases r:m.length<1
  ·have u:decide ((m.length:Int)<1)=true:=Xt (by omega);clear r h;have d:=Qi ((b.out.set (a:=[]) 0 (Iv (2))).set (a:=[]) 1 (Iv (-1)));go_wp2
   exact Xy (v:=Qv V) (by simp[results,results44,go_sem,d.out.cell (a:=[]) 0 _ Z,d.out.cell (a:=[]) 1 _ Z,E.out]) Z ⟨Z,d.out.bel⟩
  ·have u:decide ((m.length:Int)<1)=false:=Xu (by omega);have C:decide ((m.length:Int)>8)=true:=Xt (by omega);clear r h;have d:=Qi ((b.out.set (a:=[]) 0 (Iv (2))).set (a:=[]) 1 (Iv (-1)));go_wp2
   exact Xy (v:=Qv V) (by simp[results,results44,go_sem,d.out.cell (a:=[]) 0 _ Z,d.out.cell (a:=[]) 1 _ Z,E.out]) Z ⟨Z,d.out.bel⟩
 replace g:=Qi (g.out.trans (Xr h));have u:decide ((m.length:Int)<1)=false:=Xu (by omega);have C:decide ((m.length:Int)>8)=false:=Xu (by omega);clear h;have l:=Qi (Qhy (w:=q) (Bc:=X) (fun f x=>MFunc.fault m.length f x) (Ya D.out b.out.bel) (by omega) (fun i x K M s I F=>Qjh I (o.out.2 x (Zm s)) o.out.1 (by have J:=o.out.1;have N:=(Zi s).1;omega) ((b.out.at (a:=[_])).below F)));unfold Rd at l;rw[<-g.out] at l
 go_wp2_with fail
 refine l.out.mono ?_;rintro L O ⟨rfl,t⟩;have k:=Qi (b.out.below t);clear t b H l;have y:=k.out.cell (a:=[]) 0 _ Z;have A:=k.out.cell (a:=[]) 1 _ Z;have z:=k.out.free (a:=[]) 0;have B:=k.out.free (a:=[]) 1;have d:=Qi ((k.out.set (a:=[]) 0 (Iv (V.1))).set (a:=[]) 1 (Iv (V.2)));go_wp2
 exact Xy (v:=Qv V) (by simp[results,results44,go_sem,d.out.cell (a:=[]) 0 _ Z,d.out.cell (a:=[]) 1 _ Z]) Z ⟨Z,d.out.bel⟩
def N43 (lo pages most:Nat) (m:List (MFunc 6)) (inp:List Int) (v:Value) (s:World × Tg):Prop:=∃ b g,v=Pv b 0/\MAt s.1 b most m (IM.start inp pages) 0 0 g/\∀ x,g.A x->lo<=x
def B42 (lo pages most:Nat) (m:List (MFunc 6)) (inp:List Int) (v:Value) (s:World × Tg):Prop:=∃ bm pm cm pi ci vc,v=.agg #[Pv (bm+1) 0,.slice pm m.length cm,.slice pi inp.length ci,Iv (most:Int),vc,Iv 0,Nv,Nv,Iv 0,.bool false,Iv 0,Iv 0]/\H33 lo pages (Pv (bm+1) 0) s/\M35 lo m (.agg #[.slice pm m.length cm]) s/\I37 lo inp (.slice pi inp.length ci) s/\C41 lo vc s
theorem QkF {Y:Nat}(h:Blk w Y #[Iv 0,Iv 0] 32):Below w.heap.size w ((w.setCell ⟨Y,0,none⟩ (Iv 0)).setCell ⟨Y,1,none⟩ (Iv 0)):=by
 have b:=((Below.refl 0 w).setCell (p:=⟨Y,0,none⟩) (Xb _) (Iv 0)).setCell (p:=⟨Y,1,none⟩) (Xb _) (Iv 0);refine⟨b.os,b.tape,b.output,b.size,fun k a=>?_⟩
 by_cases e:k=Y
 ·subst e;exact(ZK h (Iv 0) (Iv 0)).trans h.symm
 ·rw[Xd _ _ _ _ e,Xd _ _ _ _ e]
theorem N43.keep {lo:Nat}{m:List (MFunc 6)}{s a:World × Tg}(h:N43 lo pages most m inp v s) (r:RT s a):N43 lo pages most m inp v a:=by
 obtain⟨b,g,e,d,c⟩:=h
 exact⟨b,g,e,d.below r.1,c⟩
theorem B42.keep {lo:Nat}{m:List (MFunc 6)}{s a:World × Tg}(h:B42 lo pages most m inp v s) (r:RT s a):B42 lo pages most m inp v a:=by
 obtain⟨b,i,e,c,d,f,j,g,k,n,l⟩:=h
 exact⟨b,i,e,c,d,f,j,g.keep r,k.keep r,n.keep r,l.keep r⟩
def nwE (lo pages most X Y ci cm:Nat) (m:List (MFunc 6)) (inp:List Int) (pm pi:Option Addr) (t:Tmp) (v:Value) (s:World × Tg):Prop :=
 match ([(33,H33 lo pages),(35,M35 lo m),(37,I37 lo inp),(40,F40 lo),(41,C41 lo),(42,B42 lo pages most m inp),(43,N43 lo pages most m inp),(8,N43 lo pages most m inp)]:List (Tmp × (Value->World × Tg->Prop))).lookup t with
 | some p=>p v s
 | none=>v=(([(3,.int .i64 (pages:Int)),(4,.pointer (some ⟨X,0,none⟩)),(1,.slice pi inp.length ci),(2,.int .i64 (most:Int)),(9,.pointer (some ⟨Y,0,none⟩)),(32,.int .i64 (pages:Int)),(34,.agg #[.slice pm m.length cm]),(36,.slice pi inp.length ci),(38,.int .i64 (most:Int)),(39,.agg frm0),(44,.agg #[.int .i64 0,.int .i64 0])]:List (Tmp × Value)).lookup t).getD undef
theorem nw6 {Y:Nat}{m:List (MFunc 6)}(x0:w6.cell? ⟨X,0,none⟩=some (.slice pm m.length cm)) (BY:Hid (Blk w6 Y #[Iv 0,Iv 0] 32)) (V:Hid (∀ x∈inp,ZE x))
 (R:Hid (∀ wx,Below w6.heap.size w6 wx->Calls prog 47 #[.agg #[.slice pm m.length cm]] wx fun e w'=>∃ v,e=.returned v/\(∃ a' c',v=.agg #[.slice a' m.length c']/\(Qar 6).In w' (QdN wx.heap.size) m [.slice a' m.length c'])/\Below wx.heap.size wx w'))
 (S:Hid (∀ wx,Below w6.heap.size w6 wx->Calls prog 48 #[.slice pi inp.length ci] wx fun e w'=>QcK wx inp e w'))
 (a:Act) (n:Nat) (hn:a.tmps.size=n) (H:45<=n) (O:a.tmps.getD 3 undef=Iv (pages:Int)) (h4:a.tmps.getD 4 undef=Pv X 0) (N:a.tmps.getD 1 undef=.slice pi inp.length ci) (P:a.tmps.getD 2 undef=Iv (most:Int)) (h9:a.tmps.getD 9 undef=Pv Y 0) :
 Code.wp prog ((Tryz.f13.body.bind (Qf 6)).getD .skip) (fun e a' w'=>e=.normal/\∃ vs b g,a'=QC a vs [32,33,34,35,36,37,38,39,40,41,42,43,44,8]/\vs 8=Pv b 0/\MAt w' b most m (IM.start inp pages) 0 0 g/\(∀ x,g.A x->w6.heap.size<=x)/\Below w6.heap.size w6 w') a w6:=by
 conv=>arg 2;whnf
 refine Qdg (z:=fun _=>0) (nwE w6.heap.size pages most X Y ci cm m inp pm pi) (fun s=>Below w6.heap.size w6 s.1) RT (outs:=[3,4,1,2,9]) (gs:=[]) (bs:=[true,true,true,true,true,true,true,true,true,true,true,true,true,true,true]) (by kernel_rfl) (n:=45) hn H (by kernel_rfl) ?hR ?hG (Qh Zr 1) ⟨O,h4,N,P,h9,Yy⟩ ?hA ?hend
 case hR =>
  intro t v w w' hr h;unfold nwE at h |-;split at h
  ·rename_i p G
   simp only[List.lookup_cons,List.lookup_nil] at G
   repeat' split at G
   all_goals first | (cases G;exact h.keep hr) | cases G
  ·exact h
 case hG=>exact Yy
 case hend =>
  intro vs w' d i;obtain⟨b,g,e,Q,J⟩:N43 w6.heap.size pages most m inp (vs 8) w':=i 8 (by kernel_rfl)
  exact⟨Z,vs,b,g,Z,e,Q,J,d⟩
 case hA =>
  refine⟨fun a s d i K j=>?_,?_⟩
  ·obtain⟨w,z⟩:=s
   have d:Below w6.heap.size w6 w:=d;obtain⟨f,-⟩:=i
   have f:a.tmps.getD 3 undef=Iv (pages:Int):=f;go_simp;exact j _ (w,z) (RT.refl _) d Z
  refine⟨fun a s d i K j=>?_,?_⟩
  ·obtain⟨w,z⟩:=s
   have d:Below w6.heap.size w6 w:=d;obtain⟨f,-⟩:=i
   have f:a.tmps.getD 32 undef=Iv (pages:Int):=f;go_simp;refine Xm (Qj5 w pages) ?_;rintro r7 F ⟨rfl,T,q⟩;go_simp;exact j _ (F,mk 33 w z) (RT.mk q) (d.trans (q.mono d.size)) ⟨w.heap.size,Z,T,Qd9 Ze,Qd9 (Nat.le_succ _),d.size⟩
  refine⟨fun a s d i K j=>?_,?_⟩
  ·obtain⟨w,z⟩:=s
   have d:Below w6.heap.size w6 w:=d;obtain⟨f,-⟩:=i
   have f:a.tmps.getD 4 undef=Pv X 0:=f;have c0:=Qn x0 d;go_simp;exact j _ (w,z) (RT.refl _) d Z
  refine⟨fun a s d i K j=>?_,?_⟩
  ·obtain⟨w,z⟩:=s
   have d:Below w6.heap.size w6 w:=d;obtain⟨f,-⟩:=i
   have f:a.tmps.getD 34 undef=.agg #[.slice pm m.length cm]:=f;go_simp;refine Xm (R.out w d) ?_;rintro r7 F ⟨v,rfl,⟨I,M,rfl,T⟩,q⟩;go_simp;exact j _ (F,mk 35 w z) (RT.mk q) (d.trans (q.mono d.size)) ⟨I,M,Z,(Qar 6).keep (fun _ _ _=>rfl) (fun k i hl=>⟨hl,Qd9 i⟩) T⟩
  refine⟨fun a s d i K j=>?_,?_⟩
  ·obtain⟨w,z⟩:=s
   have d:Below w6.heap.size w6 w:=d;obtain⟨f,-⟩:=i
   have f:a.tmps.getD 1 undef=.slice pi inp.length ci:=f;go_simp;exact j _ (w,z) (RT.refl _) d Z
  refine⟨fun a s d i K j=>?_,?_⟩
  ·obtain⟨w,z⟩:=s
   have d:Below w6.heap.size w6 w:=d;obtain⟨f,-⟩:=i
   have f:a.tmps.getD 36 undef=.slice pi inp.length ci:=f;go_simp;refine Xm (S.out w d) ?_;rintro r7 F ⟨I,M,rfl,N,P,O,q⟩;go_simp;exact j _ (F,mk 37 w z) (RT.mk q) (d.trans (q.mono d.size)) ⟨I,M,Z,N,P,fun x hx=>Qd9 (O x hx)⟩
  refine⟨fun a s d i K j=>?_,?_⟩
  ·obtain⟨w,z⟩:=s
   have d:Below w6.heap.size w6 w:=d;obtain⟨f,-⟩:=i
   have f:a.tmps.getD 2 undef=Iv (most:Int):=f;go_simp;exact j _ (w,z) (RT.refl _) d Z
  refine⟨fun a s d i K j=>?_,?_⟩
  ·obtain⟨w,z⟩:=s
   have d:Below w6.heap.size w6 w:=d;go_simp;exact j _ (w,z) (RT.refl _) d Z
  refine⟨fun a s d i K j=>?_,?_⟩
  ·obtain⟨w,z⟩:=s
   have d:Below w6.heap.size w6 w:=d;obtain⟨f,-⟩:=i
   have f:a.tmps.getD 39 undef=.agg frm0:=f;go_simp;exact j _ (_,mk 40 w z) (RT.mk (Zb w (.cells frm0 100))) (d.trans ((Zb w _).mono d.size)) ⟨w.heap.size,Z,Qe w frm0 100,d.size,Qd9 Ze⟩
  refine⟨fun a s d i K j=>?_,?_⟩
  ·obtain⟨w,z⟩:=s
   have d:Below w6.heap.size w6 w:=d;obtain⟨f,-⟩:=i
   have f:F40 w6.heap.size (a.tmps.getD 40 undef) (w,z):=f;obtain⟨c,f,hc,L,U⟩:=f
   have g0:a.tmps[40]?.getD undef=_:=(Za ..).symm.trans f;go_simp;exact j _ (_,mk 41 w z) (RT.mk (Zb w (.cells #[Pv c 0] 97))) (d.trans ((Zb w _).mono d.size)) ⟨c,w.heap.size,Z,Qe w #[Pv c 0] 97,Blk.below hc (Zb w _),L,d.size,((RT.mk (s:=41) (z:=z) (Zb w (.cells #[Pv c 0] 97))).2 c (XC hc)).trans U,Qd9 Ze⟩
  refine⟨fun a s d i K j=>?_,?_⟩
  ·obtain⟨w,z⟩:=s
   have d:Below w6.heap.size w6 w:=d;obtain⟨f,l,y,W,D,-⟩:=i
   have f:H33 w6.heap.size pages (a.tmps.getD 33 undef) (w,z):=f;have l:M35 w6.heap.size m (a.tmps.getD 35 undef) (w,z):=l;have y:I37 w6.heap.size inp (a.tmps.getD 37 undef) (w,z):=y;have W:a.tmps.getD 38 undef=Iv (most:Int):=W;have D:C41 w6.heap.size (a.tmps.getD 41 undef) (w,z):=D;have o:=f;have B:=l;have C:=y;obtain⟨bm,f,-⟩:=f
   obtain⟨am,dm,l,-⟩:=l
   obtain⟨ai,di,y,-⟩:=y
   have u:=D;obtain⟨cc,rr,D,-⟩:=D
   rw[f] at o
   rw[l] at B
   rw[y] at C
   rw[D] at u
   have o:=Qb o;have B:=Qb B;have C:=Qb C;have u:=Qb u;have g0:a.tmps[33]?.getD undef=_:=(Za ..).symm.trans f;have g1:a.tmps[35]?.getD undef=_:=(Za ..).symm.trans l;have g2:a.tmps[37]?.getD undef=_:=(Za ..).symm.trans y;have g3:a.tmps[38]?.getD undef=_:=(Za ..).symm.trans W;have g4:a.tmps[41]?.getD undef=_:=(Za ..).symm.trans D;go_simp;exact j _ (w,z) (RT.refl _) d ⟨bm,am,dm,ai,di,_,Z,o.out,B.out,C.out,u.out⟩
  refine⟨fun a s d i K j=>?_,?_⟩
  ·obtain⟨w,z⟩:=s
   have d:Below w6.heap.size w6 w:=d;obtain⟨f,-⟩:=i
   have f:B42 w6.heap.size pages most m inp (a.tmps.getD 42 undef) (w,z):=f;obtain⟨bm,am,dm,ai,di,vc,f,o,B,C,c,r,rfl,q3,u,q5,q6,q7,q8⟩:=f
   have NA:=Qb (QmG (most:=most) d.size o B C V.out q3 u q5 q6 q7 q8);clear o B C q3 u q5 q6 q7 q8;go_simp;obtain⟨g,Q,J⟩:=NA.out
   exact j _ (_,mk 43 w z) (RT.mk (Zb w _)) (d.trans ((Zb w _).mono d.size)) ⟨w.heap.size,g,Z,Q,J⟩
  refine⟨fun a s d i K j=>?_,?_⟩
  ·obtain⟨w,z⟩:=s
   have d:Below w6.heap.size w6 w:=d;go_simp;exact j _ (w,z) (RT.refl _) d Z
  refine⟨fun a s d i K j=>?_,?_⟩
  ·obtain⟨w,z⟩:=s
   have d:Below w6.heap.size w6 w:=d;obtain⟨f,-⟩:=i
   have f:N43 w6.heap.size pages most m inp (a.tmps.getD 43 undef) (w,z):=f;have o:=Qb f;obtain⟨b,g,f,-⟩:=f
   rw[f] at o
   go_simp;exact j _ (w,z) (RT.refl _) d o.out
  refine⟨fun a s d i K j=>?_,?_⟩
  ·obtain⟨w,z⟩:=s
   have d:Below w6.heap.size w6 w:=d;obtain⟨f,l,-⟩:=i
   have f:a.tmps.getD 9 undef=Pv Y 0:=f;have l:a.tmps.getD 44 undef=.agg #[Iv 0,Iv 0]:=l;have E:=Blk.below BY.out d;have c0:=Qa E 0 _ Z;have c1:=Qa E 1 _ Z;have d0:=Qd E 0;have d1:=Qd E 1;have HY:=Qb E;have HB:=Qb (QkF HY.out);clear E;go_simp;exact j undef (_,z) ⟨HB.out,fun _ _=>rfl⟩ (d.trans (HB.out.mono d.size)) Yy
  trivial
section
theorem QdA (w:World) (n k:Nat):Calls prog 45 #[Iv (n:Int),Iv (k:Int)] w fun e w'=>e=.returned (.bool (decide (n<=k)))/\w'=w:=by
 go_enter func45,ntmps45
 go_wp2
 all_goals refine Xy (v:=.bool (decide (n<=k))) (by simp[results,results45,go_sem]) Z ⟨Z,Z⟩
theorem Qkr {m:List (MFunc 6)}(N:(Qar 6).In w All m [.slice pm m.length cm]) (O:Qcz m) (P:intsL.In w All inp [.slice pi inp.length ci]) (H:(modFault m).1=0) (l:∀ x∈inp,ZE x) (hi:inp.length<=200) (y:most<=20000) (u:pages<=64) :
 Calls prog 13 #[.agg #[.slice pm m.length cm],.slice pi inp.length ci,Iv (most:Int),Iv (pages:Int)] w fun e w'=>Qn4 w m inp most pages e w':=by
 have Q:=Qb N;have S:=Qb O;have W:=Qb P;have t:=Qb l;have V:=Qb H;have HL:=Qb (Xh hi (Xh y u));have p:=Qb (QaT w (.cells #[.slice pm m.length cm] 24) (.cells #[Iv 0,Iv 0] 32))
 have R:Hid (∀ a,Calls prog 45 #[Iv (inp.length:Int),Iv 200] a fun e w'=>e=.returned (.bool true)/\w'=a):=fun a=>by
  have:=QdA a inp.length 200
  rwa [Xt hi] at this
 have K:Hid (∀ a,Calls prog 45 #[Iv (most:Int),Iv 20000] a fun e w'=>e=.returned (.bool true)/\w'=a):=fun a=>by
  have:=QdA a most 20000
  rwa [Xt y] at this
 have I:Hid (∀ a,Calls prog 45 #[Iv (pages:Int),Iv 64] a fun e w'=>e=.returned (.bool true)/\w'=a):=fun a=>by
  have:=QdA a pages 64
  rwa [Xt u] at this
 clear N O P l H hi y u;go_enter func13,ntmps13
 go_upto_region 1 with fail
 have q:Hid (Blk ((w.alloc (.cells #[.slice pm m.length cm] 24)).alloc (.cells #[Iv 0,Iv 0] 32)) w.heap.size #[.slice pm m.length cm] 24):=Qh1 w #[.slice pm m.length cm] 24 _;have f:Hid (Blk ((w.alloc (.cells #[.slice pm m.length cm] 24)).alloc (.cells #[Iv 0,Iv 0] 32)) (w.heap.size+1) #[Iv 0,Iv 0] 32):=Qcr w _ #[Iv 0,Iv 0] 32;generalize (w.alloc (.cells #[.slice pm m.length cm] 24)).alloc (.cells #[Iv 0,Iv 0] 32)=D at p q f |-;generalize w.heap.size+1=Y at f |-;have T:=Qa q.out 0 _ Z;generalize hX:w.heap.size=X at T q |-;have i:=Qb (Qh5 (Ya Q.out p.out) S.out);obtain⟨d,L⟩:∃ d,modFault m=(0,d):=⟨(modFault m).2,Prod.ext V.out Z⟩
 rw[L] at i
 have i:Hid (Calls prog 44 #[.agg #[.slice pm m.length cm]] D fun e w'=>e=.returned (Qa8 0 d)/\Below D.heap.size D w'):=i.out;clear L;go_upto_region 2 with (go_at_call 44;refine i.out.mono ?_;rintro e' s ⟨rfl,A⟩)
 have n:=Qe s #[Iv 0,Iv d] 32;have c:=Qb (A.trans ((Zb s (.cells #[Iv 0,Iv d] 32)).mono A.size));clear A i;generalize s.alloc (.cells #[Iv 0,Iv d] 32)=o at n c |-;generalize s.heap.size=F at n |-;have c0:=Qa n 0 _ Z;clear n T;go_upto_region 6 with (go_at_call 45;(first | with_reducible refine(R.out _).mono ?_ | with_reducible refine(K.out _).mono ?_ | with_reducible refine(I.out _).mono ?_);rintro e' w' ⟨rfl,C⟩;have C:=C.symm;subst C)
 clear c0 R K I;have M:=Qn (Qa q.out 0 _ Z) c.out;have j:=Qb (p.out.trans (c.out.mono p.out.size));have z:Hid (∀ a,Below o.heap.size o a->Calls prog 47 #[.agg #[.slice pm m.length cm]] a fun e w'=>∃ v,e=.returned v/\(∃ a' c',v=.agg #[.slice a' m.length c']/\(Qar 6).In w' (QdN a.heap.size) m [.slice a' m.length c'])/\Below a.heap.size a w'):=fun a E=>Qj8 m pm cm a (Ya (Ya Q.out j.out) E) S.out;have B:Hid (∀ a,Below o.heap.size o a->Calls prog 48 #[.slice pi inp.length ci] a fun e w'=>QcK a inp e w'):=fun a E=>Qct (Ya (Ya W.out j.out) E) (by have:=HL.out.1;omega);refine Code.wp_mono ?_ (nw6 M (Qb (Blk.below f.out c.out)) t z B _ _ Z (Xg (by kernel_rfl)) Z Z Z Z Z);rintro _ _ w5 ⟨rfl,vs,b,g,rfl,h,k,J,r⟩;have G:=Qb (Xh k (Xh J r));have U:=Qn (Qn (Qa f.out 0 _ Z) c.out) r;have y1:=Qn (Qn (Qa f.out 1 _ Z) c.out) r;clear k J r M;simp only[QC,Act.put,List.setIfInBounds_toArray,List.set_cons_zero,List.set_cons_succ,h]
 clear h;go_wp2
 exact Xy (v:=.tuple #[Pv b 0,Qa8 0 0]) (by simp[results,results13,go_sem,U,y1]) Z ⟨b,g,Z,G.out.1,fun x hx=>Zt j.out.size (G.out.2.1 x hx),j.out.trans (G.out.2.2.mono j.out.size)⟩
end
section
variable {m:List (MFunc 6)}{op:Int->Int->Int->Option Int}{most most':Nat}{M A B N N':IM}{j k:Nat}
theorem QhR (b:IM.steps m op most j M=some A) (e:A.done=true) (a:IM.steps m op most k M=some B) (c:B.done=true):A=B:=by
 rcases Nat.le_total j k with h | h
 ·obtain⟨d,rfl⟩:=Nat.exists_eq_add_of_le h
  have:=Qbz (j:=d) b e
  rw[a] at this
  exact(Xn this).symm
 ·obtain⟨d,rfl⟩:=Nat.exists_eq_add_of_le h
  have:=Qbz (j:=d) a c
  rw[b] at this
  exact Xn this
theorem Qfw (c:IM.steps m op most j M=some A) (b:A.done=true) (e:IM.steps m op most k M=some N) (a:N.done=false) (f:IM.step m op most N=none):False:=by
 rcases Nat.lt_or_ge k j with h | h
 ·have g:IM.steps m op most (k+1) M=none:=by rw[QcP e a];exact f
  obtain⟨d,rfl⟩:=Nat.exists_eq_add_of_le (show k+1<=j from h)
  have:=QbK (j:=d) g
  rw[c] at this
  cases this
 ·obtain⟨d,rfl⟩:=Nat.exists_eq_add_of_le h
  have:=Qbz (j:=d) c b
  rw[e] at this
  rw[Xn this,b] at a
  cases a
theorem Qjc (b:IM.steps m op most k M=some N) (c:N.done=false) (e:IM.step m op most N=none) (a:IM.steps m op most j M=some N') (f:N'.done=false) (g:IM.step m op most N'=none):N=N':=by
 have i:∀ {k j:Nat} {N N':IM},IM.steps m op most k M=some N->N.done=false->IM.step m op most N=none->IM.steps m op most j M=some N'->¬ k<j:=fun {k j N N'} b c e a h=>by
  have l:IM.steps m op most (k+1) M=none:=by rw[QcP b c];exact e
  obtain⟨d,rfl⟩:=Nat.exists_eq_add_of_le (show k+1<=j from h)
  have:=QbK (j:=d) l
  rw[a] at this
  cases this
 have l:=i b c e a;have n:=i a f g b;obtain rfl:k=j:=by omega
 rw[b] at a
 exact Xn a
end
theorem Lay.flat {α:Type}{A:Lay α}{l:List α}(h:A.list.In w O l [.slice (some ⟨g,o,none⟩) n c]) (d:∀ (x:α) (ds:List Value),A.In w O x ds->∀ u∈ds,u.oneCell'=true) :
 ∃ ds:List Value,ds.length=l.length*A.size/\(∀ (j:Nat) (u:Value),ds[j]?=some u->w.cell? ((⟨g,o,none⟩:Addr).add j)=some u)/\(∀ u∈ds,u.oneCell'=true)/\∀ (i:Nat) (x:α),l[i]?=some x->A.In w O x ((ds.drop (i*A.size)).take A.size):=by
 have B:∀ k,k<=l.length->∃ ds:List Value,ds.length=k*A.size/\(∀ (j:Nat) (u:Value),ds[j]?=some u->w.cell? ⟨g,o+j,none⟩=some u)/\(∀ u∈ds,u.oneCell'=true)/\∀ (i:Nat) (x:α),i<k->l[i]?=some x->A.In w O x ((ds.drop (i*A.size)).take A.size):=by
  intro k
  induction k with
  | zero=>exact fun _=>⟨[],by simp,fun j u a=>by simp at a,fun u b=>by simp at b,fun i x I=>by omega⟩
  | succ k ih =>
    intro J;obtain⟨ds,p,v,t,C⟩:=ih (by omega)
    obtain⟨x,m⟩:∃ x,l[k]?=some x:=⟨_,Zg (by omega)⟩
    obtain⟨L,K,q,e,_,_,G,s⟩:=Yf h m
    injection e with e
    injection e with e e2
    subst e;subst e2;have r:=A.len s;refine⟨ds++q,by rw[List.length_append,p,r,Nat.add_mul];omega,fun j u a=>?_,fun u b=>?_,fun i y I f=>?_⟩
    ·rw[List.getElem?_append] at a
     split at a
     ·exact v j u a
     ·rename_i E
      have H:j - ds.length<q.length:=(Zi a).1;have D:=G (j - ds.length) (by omega);rw[a] at D
      rw[<-D]
      congr 2
      omega
    ·rcases List.mem_append.1 b with b | b
     ·exact t u b
     ·exact d x q s u b
    ·by_cases z:i=k
     ·subst z;rw[m] at f
      injection f with f
      subst f;rw[List.drop_append,List.drop_of_length_le (by omega),p,Nat.sub_self,List.drop_zero,List.nil_append,XO (by omega)]
      exact s
     ·have F:(i+1)*A.size<=k*A.size:=Xp _ (by omega);rw[Nat.add_mul] at F
      rw[List.drop_append_of_le_length (by omega),List.take_append_of_le_length (by simp;omega)]
      exact C i y (by omega) f
 obtain⟨ds,p,v,t,C⟩:=B l.length Ze
 exact⟨ds,p,fun j u a=>by rw[Go.WideShapes.add_plain];exact v j u a,t,fun i x m=>C i x (Zi m).1 m⟩
theorem Qgj {α:Type}{P:α->List Value->Prop}{l l2:List α}{s:Nat}(b:xs.length=l.length*s)
 (e:∀ (i:Nat) (x:α),l[i]?=some x->P x ((xs.drop (i*s)).take s)) (f:∀ (i:Nat) (x:α),l2[i]?=some x->P x ((ds.drop (i*s)).take s)) :
 ∀ (i:Nat) (x:α),(l++l2)[i]?=some x->P x (((xs++ds).drop (i*s)).take s):=by
 intro i y a;rw[List.getElem?_append] at a
 split at a
 ·rename_i d
  have c:(i+1)*s<=l.length*s:=Xp _ d;rw[Nat.add_mul] at c
  rw[List.drop_append_of_le_length (by omega),List.take_append_of_le_length (by simp;omega)]
  exact e i y a
 ·rename_i d
  have c:l.length*s<=i*s:=Xp _ (by omega)
  have:=f (i - l.length) y a
  rw[Nat.sub_mul] at this
  rw[List.drop_append,List.drop_of_length_le (by omega),List.nil_append,b]
  exact this
theorem QjC {s:Nat}(h:w.ownsRow 0 e s (.slice (some ⟨g,0,none⟩) N cap) N xs) (i:w'.heap[g]?=w.heap[g]?):w'.ownsRow 0 e s (.slice (some ⟨g,0,none⟩) N cap) N xs:=by
 obtain⟨j,k⟩:=h
 refine⟨j,?_⟩
 rcases k with l | ⟨m,c,a,d,b,f,r⟩
 ·exact .inl l
 ·injection d with e1 _ e2
  injection e1 with e1
  injection e1 with e1 _
  subst e1;subst e2;exact .inr ⟨g,cap,a,Z,b,i.trans f,r⟩
def Lay.listC {α:Type}(A:Lay α):Lay (List α) where
 size:=1
 In:=fun w O l cs=>(∃ a c,cs=[.slice a l.length c]/\l.length<=c)/\A.list.In w O l cs
 len:=fun h=>A.list.len h.2
 keep:=fun hb hl h=>⟨h.1,A.list.keep hb hl h.2⟩
def Lay.Sub {α:Type}(A B:Lay α):Prop:=A.size=B.size/\∀ {w:World}{O:Nat->Prop}{x:α}{cs:List Value},A.In w O x cs->B.In w O x cs
theorem Lay.Sub.refl {α:Type}(A:Lay α):Lay.Sub A A:=⟨Z,id⟩
theorem Lay.Sub.listC {α:Type}(A:Lay α):Lay.Sub A.listC A.list:=⟨Z,fun h=>h.2⟩
theorem Lay.Sub.pair {α β:Type}{A a:Lay α}{B b:Lay β}(h:Lay.Sub A a) (k:Lay.Sub B b):Lay.Sub (A.pair B) (a.pair b) :=
 ⟨by show A.size+B.size=a.size+b.size;rw[h.1,k.1],fun ⟨f,c,e,d,g⟩=>⟨f,c,e,h.2 d,k.2 g⟩⟩
theorem Lay.Sub.list {α:Type}{A b:Lay α}(h:Lay.Sub A b):Lay.Sub A.list b.list :=
 ⟨Z,fun ⟨a,c,e,k⟩=>⟨a,c,e,fun i x n=>by
  obtain⟨g,o,d,l,f,m,j,p⟩:=k i x n
  exact⟨g,o,d,l,f,m,by rw[<-h.1];exact j,h.2 p⟩⟩⟩
section
open Go.Deep
theorem Lay.Sub.via {α β:Type}{A a:Lay α}(h:Lay.Sub A a) (f:β->α):Lay.Sub (A.via f) (a.via f):=⟨h.1,fun k=>h.2 k⟩
theorem QF.listC {α:Type}{A:Lay α}{s:α->Prop}(h:P.underlying t=some (.slice e)) (k:P.cellsOf t=1) (F:QF P e A n s) (u:0<A.size) (f:0<P.bytesOf e):QF P t A.listC n (fun l=>l.length<1152921504606846976) :=
 ⟨k,fun {H E w r d i p I x} v o y=>by
  obtain⟨l,j,C⟩:=(QF.list h k F u f).2 v o y
  refine⟨l,⟨?_,j⟩,C⟩
  obtain⟨a,c,e,_⟩:=j
  refine⟨a,c,e,?_⟩
  rcases DataW.trod_slice h o with ⟨b,_⟩|⟨G,z,B,g,m,q,_,b,_,_,D,_⟩
  ·rw[e] at b
   simp at b
   simp[b.2.1]
  ·rw[e] at b
   simp at b
   omega⟩
abbrev intsC:Lay (List Int):=Lay.int.listC
def insC:Lay Qx:=(Lay.int.pair (Lay.int.pair (Lay.int.pair (Lay.int.pair (Lay.int.pair (Lay.int.pair (intsC.pair intsC))))))).via (fun x=>(x.op,x.a,x.b,x.c,x.k,x.n,x.regs,x.args))
def toC:Lay MTo:=(Lay.int.pair (intsC.pair intsC)).via (fun x=>(x.block,x.regs,x.args))
def endC:Lay MEnd:=(Lay.int.pair (Lay.int.pair (toC.pair (toC.pair intsC)))).via (fun x=>(x.op,x.a,x.yes,x.no,x.args))
def Qa6 (n:Nat):Lay (MBlock n):=(Lay.int.pair ((Qt n).pair (insC.list.pair endC))).via (fun x=>(x.regs,x.params,x.code,x.fin))
def Qga (n:Nat):Lay (MFunc n):=(Lay.int.pair ((Qt n).pair ((Qt n).pair (Qa6 n).list))).via (fun x=>(x.regs,x.params,x.results,x.blocks))
abbrev QhG (n:Nat):Lay (List (MFunc n)):=(Qga n).list
theorem ints_sub:Lay.Sub intsC intsL:=Lay.Sub.listC _
theorem ins_sub:Lay.Sub insC insL:=.via (.pair (.refl _) (.pair (.refl _) (.pair (.refl _) (.pair (.refl _) (.pair (.refl _) (.pair (.refl _) (.pair ints_sub ints_sub))))))) _
theorem to_sub:Lay.Sub toC toL:=.via (.pair (.refl _) (.pair ints_sub ints_sub)) _
theorem end_sub:Lay.Sub endC endL:=.via (.pair (.refl _) (.pair (.refl _) (.pair to_sub (.pair to_sub ints_sub)))) _
theorem QjG (n:Nat):Lay.Sub (Qa6 n) (ZV n):=.via (.pair (.refl _) (.pair (.refl _) (.pair (.list ins_sub) end_sub))) _
theorem Qk3 (n:Nat):Lay.Sub (Qga n) (QaF n):=.via (.pair (.refl _) (.pair (.refl _) (.pair (.refl _) (.list (QjG n))))) _
theorem Qdb (n:Nat):Lay.Sub (QhG n) (Qar n):=.list (Qk3 n)
section
variable {w:World}{O:Nat->Prop}{cs:List Value}
theorem Qik {x:Qx}(h:insC.In w O x cs):∃ a c b d,cs=[Iv x.op,Iv x.a,Iv x.b,Iv x.c,Iv x.k,Iv x.n,.slice a x.regs.length c,.slice b x.args.length d]/\intsL.In w O x.regs [.slice a x.regs.length c]/\intsL.In w O x.args [.slice b x.args.length d]/\x.regs.length<=c/\x.args.length<=d:=by
 obtain⟨_,_,rfl,⟨rfl,_⟩,_,_,rfl,⟨rfl,_⟩,_,_,rfl,⟨rfl,_⟩,_,_,rfl,⟨rfl,_⟩,_,_,rfl,⟨rfl,_⟩,_,_,rfl,⟨rfl,_⟩,_,_,rfl,⟨⟨a,c,rfl,i⟩,f⟩,⟨b,d,rfl,e⟩,g⟩:=h
 exact⟨a,c,b,d,Z,f,g,i,e⟩
theorem Qhg {x:MTo}(h:toC.In w O x cs):∃ a c b d,cs=[Iv x.block,.slice a x.regs.length c,.slice b x.args.length d]/\intsL.In w O x.regs [.slice a x.regs.length c]/\intsL.In w O x.args [.slice b x.args.length d]/\x.regs.length<=c/\x.args.length<=d:=by
 obtain⟨_,_,rfl,⟨rfl,_⟩,_,_,rfl,⟨⟨a,c,rfl,i⟩,f⟩,⟨b,d,rfl,e⟩,g⟩:=h
 exact⟨a,c,b,d,Z,f,g,i,e⟩
theorem Qjg {x:MEnd}(h:endC.In w O x cs):∃ e:EP,cs=(Qcq x e).toList/\Qgr w O x e/\x.yes.regs.length<=e.cYR/\x.no.regs.length<=e.cNR:=by
 obtain⟨_,_,rfl,⟨rfl,_⟩,_,_,rfl,⟨rfl,_⟩,v,_,rfl,p,z,_,rfl,m,⟨c,i,rfl,B⟩,b⟩:=h
 obtain⟨n,o,t,r,rfl,k,f,s,A⟩:=Qhg p
 obtain⟨j,u,l,g,rfl,q,a,d,y⟩:=Qhg m
 exact⟨⟨n,o,t,r,j,u,l,g,c,i⟩,Z,⟨k,f,q,a,b⟩,s,d⟩
end
theorem Qb4 (n:Nat):QF prog 76 intsC n (fun l=>l.length<1152921504606846976):=QF.listC underlying76 (by kernel_rfl) (Qbj n) (by decide) (by rw[show prog.bytesOf 3=8 from by kernel_rfl];decide)
theorem QjW (n:Nat):QF prog 78 insC n (fun x=>x.regs.length<1152921504606846976/\x.args.length<1152921504606846976):=by
 have h:=QF.struct (n:=n) (A:=Lay.int.pair (Lay.int.pair (Lay.int.pair (Lay.int.pair (Lay.int.pair (Lay.int.pair (intsC.pair intsC))))))) underlying78 (by kernel_rfl) (QK.cons Z Z (Qbj n) (QK.cons Z Z (Qbj n) (QK.cons Z Z (Qbj n) (QK.cons Z Z (Qbj n) (QK.cons Z Z (Qbj n) (QK.cons Z Z (QlC n) (QK.cons Z Z (Qb4 n) (QK.last Z Z (Qb4 n)))))))));have e:=h.via (f:=fun x:Qx=>(x.op,x.a,x.b,x.c,x.k,x.n,x.regs,x.args)) (fun d=>⟨d.1,d.2.1,d.2.2.1,d.2.2.2.1,d.2.2.2.2.1,d.2.2.2.2.2.1,d.2.2.2.2.2.2.1,d.2.2.2.2.2.2.2⟩) (fun d=>rfl);exact⟨e.1,fun m j l=>by obtain⟨d,i,g⟩:=e.2 m j l;exact⟨d,i,g.2.2.2.2.2.2⟩⟩
theorem QgM (n:Nat):QF prog 82 toC n (fun x=>x.regs.length<1152921504606846976/\x.args.length<1152921504606846976):=by
 have h:=QF.struct (n:=n) (A:=Lay.int.pair (intsC.pair intsC)) underlying82 (by kernel_rfl) (QK.cons Z Z (Qbj n) (QK.cons Z Z (Qb4 n) (QK.last Z Z (Qb4 n))));have a:=h.via (f:=fun x:MTo=>(x.block,x.regs,x.args)) (fun d=>⟨d.1,d.2.1,d.2.2⟩) (fun d=>rfl);exact⟨a.1,fun i e g=>by obtain⟨d,c,b⟩:=a.2 i e g;exact⟨d,c,b.2⟩⟩
theorem QiU (n:Nat):QF prog 84 endC n (fun x=>(x.yes.regs.length<1152921504606846976/\x.yes.args.length<1152921504606846976)/\(x.no.regs.length<1152921504606846976/\x.no.args.length<1152921504606846976)/\x.args.length<1152921504606846976):=by
 have h:=QF.struct (n:=n) (A:=Lay.int.pair (Lay.int.pair (toC.pair (toC.pair intsC)))) underlying84 (by kernel_rfl) (QK.cons Z Z (Qbj n) (QK.cons Z Z (Qbj n) (QK.cons Z Z (QgM n) (QK.cons Z Z (QgM n) (QK.last Z Z (Qb4 n))))));have b:=h.via (f:=fun x:MEnd=>(x.op,x.a,x.yes,x.no,x.args)) (fun d=>⟨d.1,d.2.1,d.2.2.1,d.2.2.2.1,d.2.2.2.2⟩) (fun d=>rfl);exact⟨b.1,fun j g i=>by obtain⟨d,e,c⟩:=b.2 j g i;exact⟨d,e,c.2.2⟩⟩
theorem QhB (n:Nat):QF prog 79 insC.list n (fun l=>l.length<1152921504606846976):=QF.list underlying79 (by kernel_rfl) (QjW n) (by decide) (by rw[show prog.bytesOf 78=96 from by kernel_rfl];decide)
theorem Qgm (n:Nat):QF prog 86 (Qa6 n) n (fun _=>True):=by
 have h:=QF.struct (n:=n) (A:=Lay.int.pair ((Qt n).pair (insC.list.pair endC))) underlying86 (by kernel_rfl) (QK.cons Z Z (Qbj n) (QK.cons Z Z (QgK n) (QK.cons Z Z (QhB n) (QK.last Z Z (QiU n)))));have a:=h.via (f:=fun x:MBlock n=>(x.regs,x.params,x.code,x.fin)) (fun d=>⟨d.1,d.2.1,d.2.2.1,d.2.2.2⟩) (fun d=>rfl);exact⟨a.1,fun g c e=>by obtain⟨d,b,i⟩:=a.2 g c e;exact⟨d,b,Y⟩⟩
theorem Qfz (n:Nat):QF prog 87 (Qa6 n).list n (fun l=>l.length<1152921504606846976):=QF.list underlying87 (by kernel_rfl) (Qgm n) (by show 0<12;decide) (by rw[show prog.bytesOf 86=208 from by kernel_rfl];decide)
theorem QhA (n:Nat):QF prog 89 (Qga n) n (fun _=>True):=by
 have h:=QF.struct (n:=n) (A:=Lay.int.pair ((Qt n).pair ((Qt n).pair (Qa6 n).list))) underlying89 (by kernel_rfl) (QK.cons Z Z (Qbj n) (QK.cons Z Z (QgK n) (QK.cons Z Z (QgK n) (QK.last Z Z (Qfz n)))));have a:=h.via (f:=fun x:MFunc n=>(x.regs,x.params,x.results,x.blocks)) (fun d=>⟨d.1,d.2.1,d.2.2.1,d.2.2.2⟩) (fun d=>rfl);exact⟨a.1,fun g c e=>by obtain⟨d,b,i⟩:=a.2 g c e;exact⟨d,b,Y⟩⟩
theorem Qgo (n:Nat):QF prog 22 (QhG n) n (fun l=>l.length<1152921504606846976):=QF.list underlying22 (by kernel_rfl) (QhA n) (by show 0<4;decide) (by rw[show prog.bytesOf 89=80 from by kernel_rfl];decide)
theorem QjQ (n:Nat):QF prog 24 (QhG n) n (fun _=>True):=by
 have h:=QF.struct (n:=n) (A:=QhG n) underlying24 (by kernel_rfl) (QK.last Z Z (Qgo n));exact⟨h.1,fun e a c=>by obtain⟨d,b,f⟩:=h.2 e a c;exact⟨d,b,Y⟩⟩
end
def QV (w:World) (O:Nat->Prop) (c:Int) (l:List (TT 6)) (e:Ending) (w':World):Prop :=
 ∃ a n d,e=.returned (.tuple #[.slice a n d,Iv c])/\(c=0->n=l.length/\n<=d/\(Qt 6).In w' (fun g=>¬ O g) l [.slice a n d])/\Below w.heap.size w w'
abbrev QfX (x:Qx) (rg ag:Option Addr) (rc ac:Nat):Value:=.agg #[Iv x.op,Iv x.a,Iv x.b,Iv x.c,Iv x.k,Iv x.n,.slice rg x.regs.length rc,.slice ag x.args.length ac]
theorem Qdo (w:World) (O:Nat->Prop) (n:∀ k,O k->k<w.heap.size){t:TT 6}(h:TIn w (fun g=>¬ O g) t a) (m:t.ok) :
 (Qt 6).In (w.alloc (.cells #[Iv t.kind,Iv t.r,.slice a t.len c] 105)) (fun g=>¬ O g) [t] [.slice (some ⟨w.heap.size,0,none⟩) 1 d]:=by
 refine⟨some ⟨w.heap.size,0,none⟩,d,Z,fun i x b=>?_⟩
 cases i with
 | succ i=>simp at b
 | zero =>
   have b:t=x:=by simpa using b
   subst b;refine⟨w.heap.size,0,[Iv t.kind,Iv t.r,.slice a t.len c],Z,fun e=>by have:=n _ e;omega,by simp,fun j l=>?_,a,c,Z,h.alloc _,m⟩
   have l:j<3:=l;have f:=Qe w #[Iv t.kind,Iv t.r,.slice a t.len c] 105;match j,l with
   | 0,_=>exact Qa f 0 _ Z
   | 1,_=>exact Qa f 1 _ Z
   | 2,_=>exact Qa f 2 _ Z
theorem Qf5 (w:World) (Q:Nat->Prop) (k r:Int) (a:Option Addr):TIn w Q (mkT k r []:TT 6) a:=fun i x b=>by simp at b
theorem QhU (w:World) (O:Nat->Prop) (f:∀ k,O k->k<w.heap.size){u:TT 5}(h:TIn w (fun g=>¬ O g) u a) (b:u.ok) :
 (Qt 6).In (w.alloc (.cells #[Iv u.kind,Iv u.r,.slice a u.len c] 105)) (fun g=>¬ O g) [u.at 5] [.slice (some ⟨w.heap.size,0,none⟩) 1 d]:=by
 have e:u.height<=5:=by have:=TT.height_lt u;omega
 have:=Qdo w O f (t:=u.at 5) (a:=a) (c:=c) (d:=d) (h.at 5 e) (TT.at_ok 5 b)
 rwa [TT.at_kind,TT.at_r,TT.at_len 5 u e] at this
theorem QjO {k r:Int}(h:-9223372036854775808<=r/\r<=9223372036854775807):(mkT k r []:TT 6).ok:=⟨h,fun x a=>by cases a⟩
structure MkS (w w2:World) (b X:Nat) (O:Nat->Prop) (s:JSt) (x:Qx) (rg ag:Option Addr) (rc ac:Nat) (na:Option Addr):Prop where
 known:KAt w2 b O s
 box:w2.heap[X]?=some (.cells #[Iv x.op,Iv x.a,Iv x.b,Iv x.c,Iv x.k,Iv x.n,.slice rg x.regs.length rc,.slice ag x.args.length ac] 78 (0,0))
 num:(Qt 6).In w2 (fun g=>¬ O g) [tInt] [.slice na 1 1]
 bel:Below w.heap.size w w2
 own:∀ k,O k->k<w.heap.size
 ok:JOk s
theorem MkS.start {w:World}{b:Nat}{O:Nat->Prop}{s:JSt}(x:Qx) (e f:Option Addr) (rc ac:Nat) (j:∀ k,O k->k<w.heap.size) (m:JOk s) (h:KAt w b O s) :
 MkS w ((w.alloc (.cells #[Iv x.op,Iv x.a,Iv x.b,Iv x.c,Iv x.k,Iv x.n,.slice e x.regs.length rc,.slice f x.args.length ac] 78)).alloc (.cells #[Iv 1,Iv 0,Nv] 105)) b w.heap.size O s x e f rc ac (some ⟨w.heap.size+1,0,none⟩):=by
 have g:=ZR w (.cells #[Iv x.op,Iv x.a,Iv x.b,Iv x.c,Iv x.k,Iv x.n,.slice e x.regs.length rc,.slice f x.args.length ac] 78);have i:=ZR (w.alloc (.cells #[Iv x.op,Iv x.a,Iv x.b,Iv x.c,Iv x.k,Iv x.n,.slice e x.regs.length rc,.slice f x.args.length ac] 78)) (.cells #[Iv 1,Iv 0,Nv] 105);refine⟨(h.below g).below i,(i.block _ (by simp)).trans (Qe _ _ _),?_,g.trans (i.mono g.size),j,m⟩
 have:=Qdo (w.alloc (.cells #[Iv x.op,Iv x.a,Iv x.b,Iv x.c,Iv x.k,Iv x.n,.slice e x.regs.length rc,.slice f x.args.length ac] 78)) O (fun k l=>by have:=j k l;simp;omega) (t:=tInt) (a:=none) (c:=0) (d:=1) (Qf5 _ _ _ _ _) ⟨by decide,fun x o=>by cases o⟩
 rw[World.size_alloc] at this
 exact this
section
variable {w w2 w3:World}{b X:Nat}{O:Nat->Prop}{s:JSt}{x:Qx}{rg ag:Option Addr}{rc ac:Nat}{na:Option Addr}
theorem MkS.below (h:MkS w w2 b X O s x rg ag rc ac na) (k:Below w2.heap.size w2 w3):MkS w w3 b X O s x rg ag rc ac na :=
 ⟨h.known.below k,(k.block X (XC h.box)).trans h.box,Ya h.num k,h.bel.trans (k.mono h.bel.size),h.own,h.ok⟩
theorem MkS.lt (h:MkS w w2 b X O s x rg ag rc ac na):∀ k,O k->k<w2.heap.size:=fun k a=>Zl (h.own k a) h.bel.size
theorem MkS.cells (h:MkS w w2 b X O s x rg ag rc ac na):w2.cell? ⟨X,0,none⟩=some (Iv x.op)/\w2.cell? ⟨X,1,none⟩=some (Iv x.a)/\w2.cell? ⟨X,2,none⟩=some (Iv x.b)/\w2.cell? ⟨X,3,none⟩=some (Iv x.c)/\w2.cell? ⟨X,4,none⟩=some (Iv x.k)/\w2.cell? ⟨X,6,none⟩=some (.slice rg x.regs.length rc)/\w2.cell? ⟨X,7,none⟩=some (.slice ag x.args.length ac) :=
 ⟨Qa h.box 0 _ Z,Qa h.box 1 _ Z,Qa h.box 2 _ Z,Qa h.box 3 _ Z,Qa h.box 4 _ Z,Qa h.box 6 _ Z,Qa h.box 7 _ Z⟩
theorem QV.nil {c:Int}(h:Below w.heap.size w w3):QV w O c [] (.returned (.tuple #[Nv,Iv c])) w3 :=
 ⟨none,0,0,Z,fun _=>⟨Z,Ze,Yg _ _ _ _ _⟩,h⟩
theorem QV.bad {c:Int}{l:List (TT 6)}(b:c≠0) (h:Below w.heap.size w w3) (a:Option Addr) (n d:Nat):QV w O c l (.returned (.tuple #[.slice a n d,Iv c])) w3 :=
 ⟨a,n,d,Z,fun e=>absurd e b,h⟩
theorem QV.num {c:Int}(h:MkS w w2 b X O s x rg ag rc ac na) (k:Below w2.heap.size w2 w3):QV w O c [tInt] (.returned (.tuple #[.slice na 1 1,Iv c])) w3 :=
 ⟨na,1,1,Z,fun _=>⟨Z,Ze,(h.below k).num⟩,(h.below k).bel⟩
end
theorem QeR (a b:Int):firstI [a,b]=code2 a b:=by
 unfold firstI code2;split
 ·unfold firstI;split
  ·rename_i d c;simp[firstI,c]
  ·rfl
 ·rfl
theorem Qlo (a b c:Int):firstI [a,b,c]=code2 a (code2 b c):=by
 rw[firstI,QeR];rfl
theorem QhV {w:World}{b:Nat}{O:Nat->Prop}{s:JSt}{x:Qx}{c d:Option Addr}{rc ac:Nat}(g:∀ k,O k->k<w.heap.size) (f:JOk s) (h:KAt w b O s) (a:x.op=1) :
 Calls prog 102 #[Pv b 0,QfX x c d rc ac] w fun e w'=>QV w O (s.makes x).1 (s.makes x).2 e w':=by
 have E:Hid (s.makes x=(0,[tInt])):=Qab (.inl a);have i:=Qg (MkS.start x c d rc ac g f h);obtain⟨j,q,l,n,p,o,r,m⟩:=x
 simp only at a
 subst a;clear h;go_enter func102,ntmps102
 go_wp2
 go_ret2;rw[E.out]
 exact QV.num i.out Zr
theorem QiV {w:World}{b:Nat}{O:Nat->Prop}{s:JSt}{x:Qx}{c d:Option Addr}{rc ac:Nat}(g:∀ k,O k->k<w.heap.size) (f:JOk s) (h:KAt w b O s) (a:x.op=12) :
 Calls prog 102 #[Pv b 0,QfX x c d rc ac] w fun e w'=>QV w O (s.makes x).1 (s.makes x).2 e w':=by
 have E:Hid (s.makes x=(0,[tInt])):=Qab (.inr a);have i:=Qg (MkS.start x c d rc ac g f h);obtain⟨j,q,l,n,p,o,r,m⟩:=x
 simp only at a
 subst a;clear h;go_enter func102,ntmps102
 go_wp2
 go_ret2;rw[E.out]
 exact QV.num i.out Zr
theorem Qb9 (b:Nat):∀ (vs:List Value) (w:World) (j:Nat),(w.setCells b j vs).heap.size=w.heap.size
 | [],w,j=>rfl
 | v::vs,w,j=>(Qb9 b vs _ _).trans (by simp)
abbrev Ql5 (Z:Type):=List (Nat × (Z->World->(Nat->Prop)->Prop))
def QcX {Z:Type}(D:Ql5 Z):Prop:=∀ x∈D,∀ z w w' O,(∀ k,O k->k<w.heap.size->w'.heap[k]?=w.heap[k]?)->x.2 z w O->x.2 z w' O
def QkZ (w00:World) (Ai:List (Nat × Tmp × Nat × TypeId)) (S:Nat->Bool) (a:Act) (w:World) (O:Nat->Prop):Prop :=
 (∀ k,O k->w00.heap.size<=k/\k<w.heap.size)/\∀ y∈Ai,S y.1=true->∀ B,a.tmps.getD y.2.1 undef=Pv B 0->¬ O B
def DMz (n:Nat) (a0:Act) (w00:World) (ds:List Tmp) (Ti:List (Nat × Tmp)) (Ai Oi:List (Nat × Tmp × Nat × TypeId)){Z:Type}(M:Z->List (Tmp × Value)) (C:Z->List (Tmp × List Value)) (D:Ql5 Z) (z:Z) (S:Nat->Bool) (a:Act) (w:World):Prop :=
 DI n a0 w00 ds Ti Ai Oi (M z) (C z) S a w/\∀ x∈D,S x.1=true->∃ O,x.2 z w O/\QkZ w00 Ai S a w O
def DM (n:Nat) (a0:Act) (w00:World) (ds:List Tmp) (Ti:List (Nat × Tmp)) (Ai Oi:List (Nat × Tmp × Nat × TypeId)){Z:Type}(M:Z->List (Tmp × Value)) (C:Z->List (Tmp × List Value)) (D:Ql5 Z) (S:Nat->Bool) (a:Act) (w:World):Prop :=
 ∃ z,DMz n a0 w00 ds Ti Ai Oi M C D z S a w
section
variable {n i:Nat}{a0 a:Act}{w00 w w':World}{l:List Oper}{Ti:List (Nat × Tmp)}{Ai Oi:List (Nat × Tmp × Nat × TypeId)}{Z:Type}{M:Z->List (Tmp × Value)}{C:Z->List (Tmp × List Value)}{D:Ql5 Z}{z z':Z}{S:Nat->Bool}{t:Tmp}{v:Value}{s:Nat}{ty:TypeId}
theorem Qlt (h:((D.map (·.1)).all fun j=>j != i)=true):∀ x∈D,x.1≠i:=fun x a=>by
 have:=Xe.1 h x.1 (List.mem_map.2 ⟨x,a,Yz⟩)
 simpa using this
theorem QeE (c:diB l n Ti Ai Oi=true) (hi:(i,t)∈Ti):∀ x∈Ai,x.2.1≠t:=by
 simp only[diB,Bool.and_eq_true] at c
 obtain⟨f,⟨⟨a,b⟩,d⟩,h⟩:=c
 exact fun x g e=>Qcg a (List.mem_map.2 ⟨(i,t),hi,Yz⟩) (e ▸ List.mem_map.2 ⟨x,g,Yz⟩)
theorem Qf2 (a:diB l n Ti Ai Oi=true) (c:t∈Ti.map (·.2)++Ai.map (·.2.1)):t<n:=by
 simp only[diB,Bool.and_eq_true] at a
 have b:=Xe.1 a.2.1.2 t c;simp only[Bool.and_eq_true,decide_eq_true_eq] at b
 exact b.1
theorem QkZ.pure (e:∀ x∈Ai,x.2.1≠t) (d:t<a.tmps.size) (c:(Ai.all fun x=>x.1 != i)=true) (hb:w.heap.size<=w'.heap.size) (h:QkZ w00 Ai S a w O):QkZ w00 Ai (ZF i S) (a.put (some t) v) w' O :=
 ⟨fun k g=>⟨(h.1 k g).1,Zl (h.1 k g).2 hb⟩,fun y b j B f=>by
  rw[Zh d,Xr (e y b)] at f
  exact h.2 y b (Zd (by have:=Xe.1 c y b;simpa using this) j) B f⟩
theorem DMz.pure (f:QcX D) (e:diB l n Ti Ai Oi=true) (g:DMz n a0 w00 (Qp l) Ti Ai Oi M C D z S a w) (hi:(i,t)∈Ti) (o:(M z).lookup t=some v) (q:S i=false) (hb:Below w.heap.size w w')
 (c:(Ai.all fun x=>x.1 != i)=true) (d:(Oi.all fun x=>x.1 != i)=true) (b:((D.map (·.1)).all fun j=>j != i)=true):DM n a0 w00 (Qp l) Ti Ai Oi M C D (ZF i S) (a.put (some t) v) w':=by
 have h:=Qlt b;refine⟨z,DI.pure e g.1 hi o q hb c d,fun x m u=>?_⟩
 obtain⟨O,r,s⟩:=g.2 x m (Zd (h x m) u)
 exact⟨O,f x m z w w' O (fun k _ p=>hb.block k p) r,s.pure (QeE e hi) (by rw[g.1.size];exact Qf2 e (List.mem_append_left _ (List.mem_map.2 ⟨(i,t),hi,Yz⟩))) c hb.size⟩
theorem DMz.alloc (v:QcX D) (m:diB l n Ti Ai Oi=true) (q:DMz n a0 w00 (Qp l) Ti Ai Oi M C D z S a w) (hi:(i,t,s,ty)∈Ai){c:Array Value}(J:c.size=s) (P:S i=false) (u:Z8 l S)
 (E:(Ti.all fun x=>x.1 != i)=true) (o:(Oi.all fun x=>x.1 != i)=true) (d:((D.map (·.1)).all fun j=>j != i)=true):DM n a0 w00 (Qp l) Ti Ai Oi M C D (ZF i S) (a.put (some t) (Pv w.heap.size 0)) (w.alloc (.cells c ty)):=by
 have I:Below w.heap.size w (w.alloc (.cells c ty)):=ZR w _;have r:=Qlt d;refine⟨z,DI.alloc m q.1 hi J P u E o,fun x F L=>?_⟩
 obtain⟨O,K,h⟩:=q.2 x F (Zd (r x F) L)
 have A:t<a.tmps.size:=by rw[q.1.size];exact Qf2 m (List.mem_append_right _ (List.mem_map.2 ⟨(i,t,s,ty),hi,Yz⟩))
 refine⟨O,v x F z w _ O (fun k _ g=>I.block k g) K,fun k g=>⟨(h.1 k g).1,Zl (h.1 k g).2 I.size⟩,fun y G p B b H=>?_⟩
 rw[Zh A] at b
 by_cases e:y.2.1=t
 ·rw[Xs e] at b
  simp at b
  subst b
  have:=(h.1 _ H).2
  omega
 ·rw[Xr e] at b
  refine h.2 y G (Zd (fun N=>e ?_) p) B b H;simp only[diB,Bool.and_eq_true] at m
  exact congrArg (·.2.1) (ZZ (f:=fun x:Nat × Tmp × Nat × TypeId=>x.1) m.1.1.2 y G _ hi N)
theorem DMz.store (A:QcX D) (V:diB l n Ti Ai Oi=true) (J:DMz n a0 w00 (Qp l) Ti Ai Oi M C D z S a w) (hi:(i,t,s,ty)∈Oi){c:Array Value}(K:(j,t,s,ty)∈Ai) (d:S j=true) (I:a.tmps.getD t undef=Pv B 0) (E:Blk w B c ty) (q:c.size=s) (F:w00.heap.size<=B) (U:(C z).lookup t=some cs) (h:cs.length=s) (W:S i=false) (v:Z8 l S)
 (G:(Ti.all fun x=>x.1 != i)=true) (f:(Ai.all fun x=>x.1 != i)=true) (g:((D.map (·.1)).all fun j=>j != i)=true):DM n a0 w00 (Qp l) Ti Ai Oi M C D (ZF i S) a (w.setCells B 0 cs):=by
 have r:=Qlt g;refine⟨z,DI.store V J.1 hi K d I E q F U h W v G f,fun x H Q=>?_⟩
 obtain⟨O,P,p⟩:=J.2 x H (Zd (r x H) Q)
 have N:=QbG w B 0 cs;have m:(w.setCells B 0 cs).heap.size=w.heap.size:=Qb9 B cs w 0;refine⟨O,A x H z w _ O (fun k b _=>N k fun e=>?_) P,fun k b=>by rw[m];exact p.1 k b,fun y L o T u R=>?_⟩
 ·subst e;exact p.2 _ K d k I b
 ·exact p.2 y L (Zd (by have:=Xe.1 f y L;simpa using this) o) T u R
end
section
variable {n i:Nat}{a0 a:Act}{w00 w w':World}{l:List Oper}{Ti:List (Nat × Tmp)}{Ai Oi:List (Nat × Tmp × Nat × TypeId)}{Z:Type}{M:Z->List (Tmp × Value)}{C:Z->List (Tmp × List Value)}{D:Ql5 Z}{z z':Z}{S:Nat->Bool}{t:Tmp}{v:Value}{s:Nat}{ty:TypeId}
theorem DMz.call2 (K:QcX D) (q:diB l n Ti Ai Oi=true) (b:DMz n a0 w00 (Qp l) Ti Ai Oi M C D z S a w) (hi:(i,t)∈Ti) (U:(M z').lookup t=some v) (N:S i=false) (W:Z8 l S) (hb:Below w.heap.size w w')
 (g:(Ai.all fun x=>x.1 != i)=true) (r:(Oi.all fun x=>x.1 != i)=true)
 (s:List Nat) (m:∀ j∈s,S j=true->False)
 (V:∀ x∈Ti,x.1∈s\/x.1=i\/(M z).lookup x.2=(M z').lookup x.2) (hC:∀ x∈Oi,x.1∈s\/(C z).lookup x.2.1=(C z').lookup x.2.1)
 (Q:∀ x∈D,(x.1=i/\∃ O,x.2 z' w' O/\∀ k,O k->w.heap.size<=k/\k<w'.heap.size)\/(x.1≠i/\∀ w O,x.2 z w O->x.2 z' w O)):DM n a0 w00 (Qp l) Ti Ai Oi M C D (ZF i S) (a.put (some t) v) w':=by
 have A:DI n a0 w00 (Qp l) Ti Ai Oi (M z') (C z') S a w:=by
  refine⟨b.1.size,b.1.defers,b.1.outer,b.1.bel,fun x f d u R=>?_,b.1.new,b.1.ne,fun x f d c T=>?_⟩
  ·rcases V x f with h | h | h
   ·exact(m _ h d).elim
   ·rw[h,N] at d;cases d
   ·exact b.1.vals x f d u (h.trans R)
  ·rcases hC x f with h | h
   ·exact(m _ h d).elim
   ·exact b.1.did x f d c (h.trans T)
 have o:t<a.tmps.size:=by rw[b.1.size];exact Qf2 q (List.mem_append_left _ (List.mem_map.2 ⟨(i,t),hi,Yz⟩))
 refine⟨z',DI.pure q A hi U N hb g r,fun x f d=>?_⟩
 rcases Q x f with ⟨_,O,E,H⟩|⟨J,E⟩
 ·refine⟨O,E,fun k p=>⟨Zt b.1.bel.size (H k p).1,(H k p).2⟩,fun y I F B e X=>?_⟩
  rw[Zh o,Xr (QeE q hi y I)] at e
  have L:S y.1=true:=Zd (by have:=Xe.1 g y I;simpa using this) F;obtain⟨B',G,P,c,h5,h6⟩:=b.1.new y I L
  rw[G] at e
  simp at e
  subst e
  have:=h5.lt
  have:=(H _ X).1
  omega
 ·obtain⟨O,G,P⟩:=b.2 x f (Zd J d)
  exact⟨O,K x f z' w w' O (fun k _ p=>hb.block k p) (E w O G),P.pure (QeE q hi) o g hb.size⟩
end
theorem QgD {a a0:Act}{b:List Tmp}(j:a.tmps.size=a0.tmps.size) (k:a.defers=a0.defers) (l:∀ t,b.contains t=false->a.tmps.getD t undef=a0.tmps.getD t undef):a=QC a0 (fun t=>a.tmps.getD t undef) b:=by
 have e:a.tmps=(QC a0 (fun t=>a.tmps.getD t undef) b).tmps:=by
  refine Array.ext (by rw[Qbv,j]) fun t i m=>?_;have g:t<a0.tmps.size:=by rw[<-j];exact i
  have:=Qc2 (fun t=>a.tmps.getD t undef) b a0 t g
  rw[Xj m] at this
  by_cases h:t∈b
  ·rw[Xs h] at this
   simp only[Option.some.injEq] at this
   rw[this];simp[Array.getD,i]
  ·rw[Xr h] at this
   have c:=l t (by simpa using h);simp only[Array.getD,i,g,dite_true] at c
   rw[Xj g] at this
   simp only[Option.some.injEq] at this
   rw[this];exact c
 have f:a.defers=(QC a0 (fun t=>a.tmps.getD t undef) b).defers:=by rw[Qaq,k]
 cases a with
 | mk t d =>
   simp only at e f
   generalize n:QC a0 (fun x=>t.getD x undef) b=p at e f |-
   cases p;simp only at e f;rw[e,f]
theorem QnL {n:Nat}{l:List Oper}{a:Act}{w:World}{Z:Type}(b:List (Nat × Tmp)) (d e:List (Nat × Tmp × Nat × TypeId)) (M:Z->List (Tmp × Value)) (C:Z->List (Tmp × List Value)) (D:Ql5 Z) (k:Z)
 (m:P.follows .mixedOrders=true) (hn:a.tmps.size=n) (i:a.defers=[]) (f:((Qcu 0 l&&(l.all fun o=>o.guard.isNone))&&diB l n b d e)=true)
 (g:diB l n b d e=true->Qdd P l (DM n a w (Qp l) b d e M C D) 0 l)
 (c:∀ z S a' w',(∀ j,j<l.length->S j=true)->DMz n a w (Qp l) b d e M C D z S a' w'->Q .normal a' w'):(Code.region id l.toArray true).wp P Q a w:=by
 rw[Bool.and_eq_true] at f
 refine QeJ (DM n a w (Qp l) b d e M C D) m f.1 ?_ (g f.2) (fun S a' w' q ⟨z,p⟩=>c z S a' w' q p);exact⟨k,⟨hn,i,fun _ _=>rfl,Qh Zr 1,fun _ _ h=>(by cases h),fun _ _ h=>(by cases h),fun _ _ _ _ _ h=>(by cases h),fun _ _ h=>(by cases h)⟩,fun _ _ h=>by cases h⟩
theorem infTy:(prog.info? 105).map (·.size)=some 3:=by kernel_rfl
theorem QoC {M D E U H xc V:Nat}{y u:TT 6}{P T:Option Addr}{nm:Nat->Int}{Q:Nat->Prop}(r2:w2.cell? ⟨M,2,none⟩=some (.slice (some ⟨D,E,none⟩) U cR)) (t0:w2.cell? ⟨D,E+k*3,none⟩=some (Iv y.kind)) (t1:w2.cell? ⟨D,E+k*3+1,none⟩=some (Iv y.r)) (t2:w2.cell? ⟨D,E+k*3+2,none⟩=some (.slice P y.len V)) (x6:w2.cell? ⟨X,6,none⟩=some (.slice T H xc)) (ag:(k:Int)<U) (HT:Hid (TIn w2 Q y P)) (N:Hid (y.count<=2000)) (ac:Hid (QkC w2 T H nm)) (J:Hid (y.ren H nm=some u))
 (a:Act) (hn:a.tmps.size=365) (L:a.defers=[]) (h3:a.tmps.getD 3 undef=Pv X 0) (aa:a.tmps.getD 14 undef=Pv M 0) (ad:a.tmps.getD 18 undef=Iv (k:Int)) :
 Code.wp prog ((Tryz.f102.body.bind (Qf 76)).getD .skip) (fun e a' w'=>e=.normal/\∃ vs,a'=QC a vs [350,351,352,353,354,355,356,357,349,358,359,19,20]/\∃ ua uc B,vs 19=Pv B 0/\vs 20=.bool true/\Blk w' B #[Iv u.kind,Iv u.r,.slice ua u.len uc] 105/\TIn w' (fun g=>w2.heap.size<=g) u ua/\Below w2.heap.size w2 w') a w2:=by
 conv=>arg 2;whnf
 have m:QcX (Z:=Option Addr × Nat) [(7,fun z w O=>TIn w O u z.1)]:=by
  intro x A;simp only[List.mem_cons,List.not_mem_nil,or_false] at A
  rcases A with rfl
  intro z w w9 O G h;exact h.keep G (fun _ h _=>h)
 refine QnL (Z:=Option Addr × Nat) [(0,350),(1,351),(2,352),(3,353),(4,354),(5,355),(6,356),(7,357),(8,349),(9,358),(10,359),(13,20)] [(11,19,3,105)] [(12,19,3,105)] (fun z=>[(350,Pv M 2),(351,.slice (some ⟨D,E,none⟩) U cR),(352,Iv (k:Int)),(353,Pv D (E+k*3)),(354,.agg #[Iv y.kind,Iv y.r,.slice P y.len V]),(355,Pv X 6),(356,.slice T H xc),(357,.tuple #[.agg #[Iv u.kind,Iv u.r,.slice z.1 u.len z.2],.bool true]),(349,.tuple #[.agg #[Iv u.kind,Iv u.r,.slice z.1 u.len z.2],.bool true]),(358,.agg #[Iv u.kind,Iv u.r,.slice z.1 u.len z.2]),(359,.bool true),(20,.bool true)]) (fun z=>[(19,[Iv u.kind,Iv u.r,.slice z.1 u.len z.2])]) [(7,fun z w O=>TIn w O u z.1)] (none,0) (by kernel_rfl) hn L (by kernel_rfl) (fun l=>?hst) ?hend
 case hend =>
  rintro ⟨ua,uc⟩ S a' w' f b;have F:∀ j,j<14->S j=true:=f;obtain⟨B,hB,C⟩:=b.1.did (12,19,3,105) (by decide) (F 12 (by decide)) _ Yz
  obtain⟨O,h7,hA⟩:=b.2 (7,fun z w O=>TIn w O u z.1) (by simp) (F 7 (by decide))
  refine⟨Yz,_,QgD (by rw[b.1.size,hn]) (by rw[b.1.defers,L]) b.1.outer,ua,uc,B,hB,b.1.vals (13,20) (by decide) (F 13 (by decide)) _ Yz,C,h7.mono (fun k G _=>(hA.1 k G).1),b.1.bel⟩
 case hst =>
  refine⟨fun S n q f o d c K p=>?_,?_⟩
  ·obtain⟨⟨ua,uc⟩,b⟩:=c
   have v:n.tmps.getD 14 undef=Pv M 0:=(b.1.outer 14 (by kernel_rfl)).trans aa;go_simp;exact p _ _ (DMz.pure m l b (i:=0) (t:=350) (by decide) Yz f Zr (by kernel_rfl) (by kernel_rfl) Yz)
  refine⟨fun S n q f o d c K p=>?_,?_⟩
  ·obtain⟨⟨ua,uc⟩,b⟩:=c
   have v:n.tmps.getD 350 undef=Pv M 2:=b.1.vals (0,350) (by decide) (o.at 0 (by kernel_rfl)) _ Yz;have c0:=Qn r2 b.1.bel;go_simp;exact p _ _ (DMz.pure m l b (i:=1) (t:=351) (by decide) Yz f Zr (by kernel_rfl) (by kernel_rfl) Yz)
  refine⟨fun S n q f o d c K p=>?_,?_⟩
  ·obtain⟨⟨ua,uc⟩,b⟩:=c
   have v:n.tmps.getD 18 undef=Iv (k:Int):=(b.1.outer 18 (by kernel_rfl)).trans ad;go_simp;exact p _ _ (DMz.pure m l b (i:=2) (t:=352) (by decide) Yz f Zr (by kernel_rfl) (by kernel_rfl) Yz)
  refine⟨fun S n q f o d c K p=>?_,?_⟩
  ·obtain⟨⟨ua,uc⟩,b⟩:=c
   have v:n.tmps.getD 351 undef=.slice (some ⟨D,E,none⟩) U cR:=b.1.vals (1,351) (by decide) (o.at 1 (by kernel_rfl)) _ Yz;have k1:n.tmps.getD 352 undef=Iv (k:Int):=b.1.vals (2,352) (by decide) (o.at 2 (by kernel_rfl)) _ Yz;go_simp;exact p _ _ (DMz.pure m l b (i:=3) (t:=353) (by decide) Yz f Zr (by kernel_rfl) (by kernel_rfl) Yz)
  refine⟨fun S n q f o d c K p=>?_,?_⟩
  ·obtain⟨⟨ua,uc⟩,b⟩:=c
   have v:n.tmps.getD 353 undef=Pv D (E+k*3):=b.1.vals (3,353) (by decide) (o.at 3 (by kernel_rfl)) _ Yz;have c0:=Qn t0 b.1.bel;have c1:=Qn t1 b.1.bel;have c2:=Qn t2 b.1.bel;go_simp;exact p _ _ (DMz.pure m l b (i:=4) (t:=354) (by decide) Yz f Zr (by kernel_rfl) (by kernel_rfl) Yz)
  refine⟨fun S n q f o d c K p=>?_,?_⟩
  ·obtain⟨⟨ua,uc⟩,b⟩:=c
   have v:n.tmps.getD 3 undef=Pv X 0:=(b.1.outer 3 (by kernel_rfl)).trans h3;go_simp;exact p _ _ (DMz.pure m l b (i:=5) (t:=355) (by decide) Yz f Zr (by kernel_rfl) (by kernel_rfl) Yz)
  refine⟨fun S n q f o d c K p=>?_,?_⟩
  ·obtain⟨⟨ua,uc⟩,b⟩:=c
   have v:n.tmps.getD 355 undef=Pv X 6:=b.1.vals (5,355) (by decide) (o.at 5 (by kernel_rfl)) _ Yz;have c0:=Qn x6 b.1.bel;go_simp;exact p _ _ (DMz.pure m l b (i:=6) (t:=356) (by decide) Yz f Zr (by kernel_rfl) (by kernel_rfl) Yz)
  refine⟨fun S n q f o d c K p=>?_,?_⟩
  ·obtain⟨⟨ua,uc⟩,b⟩:=c
   have v:n.tmps.getD 354 undef=.agg #[Iv y.kind,Iv y.r,.slice P y.len V]:=b.1.vals (4,354) (by decide) (o.at 4 (by kernel_rfl)) _ Yz;have k1:n.tmps.getD 356 undef=.slice T H xc:=b.1.vals (6,356) (by decide) (o.at 6 (by kernel_rfl)) _ Yz;go_simp;refine(renamedT_any 6 y P V T H xc nm q (HT.out.below b.1.bel).all N.out (ac.out.below b.1.bel)).mono ?_
   rw[J.out]
   rintro e w9 ⟨ae,ab,rfl,h9,hb⟩;refine p _ _ (DMz.call2 m l b (z':=(ae,ab)) (i:=7) (t:=357) (by decide) Yz f d hb (by kernel_rfl) (by kernel_rfl) [8,9,12,13] ?_ ?_ ?_ ?_)
   ·have W:S 8=true->False:=fun I=>by have:=Qhj.at (d 8 _ Yz I) 7 (by kernel_rfl);rw[f] at this;cases this
    intro j hj I;simp only[List.mem_cons,List.not_mem_nil,or_false] at hj;rcases hj with rfl | rfl | rfl | rfl
    ·exact W I
    ·exact W (Qhj.at (d 9 _ Yz I) 8 (by kernel_rfl))
    ·exact W (Qhj.at (d 12 _ Yz I) 8 (by kernel_rfl))
    ·exact W (Qhj.at (d 13 _ Yz I) 8 (by kernel_rfl))
   ·intro x A;simp only[List.mem_cons,List.not_mem_nil,or_false] at A;rcases A with rfl | rfl | rfl | rfl | rfl | rfl | rfl | rfl | rfl | rfl | rfl | rfl
    all_goals first | exact .inr (.inr Yz) | exact .inl (by decide) | exact .inr (.inl Yz)
   ·intro x A;simp only[List.mem_cons,List.not_mem_nil,or_false] at A;rcases A with rfl
    all_goals exact .inl (by decide)
   ·intro x A;simp only[List.mem_cons,List.not_mem_nil,or_false] at A;rcases A with rfl
    exact .inl ⟨Yz,fun k=>q.heap.size<=k/\k<w9.heap.size,h9.mono (fun k G hl=>⟨G,hl⟩),fun k G=>G⟩
  refine⟨fun S n q f o d c K p=>?_,?_⟩
  ·obtain⟨⟨ua,uc⟩,b⟩:=c
   have v:n.tmps.getD 357 undef=.tuple #[.agg #[Iv u.kind,Iv u.r,.slice ua u.len uc],.bool true]:=b.1.vals (7,357) (by decide) (o.at 7 (by kernel_rfl)) _ Yz;go_simp;exact p _ _ (DMz.pure m l b (i:=8) (t:=349) (by decide) Yz f Zr (by kernel_rfl) (by kernel_rfl) Yz)
  refine⟨fun S n q f o d c K p=>?_,?_⟩
  ·obtain⟨⟨ua,uc⟩,b⟩:=c
   have v:n.tmps.getD 349 undef=.tuple #[.agg #[Iv u.kind,Iv u.r,.slice ua u.len uc],.bool true]:=b.1.vals (8,349) (by decide) (o.at 8 (by kernel_rfl)) _ Yz;go_simp;exact p _ _ (DMz.pure m l b (i:=9) (t:=358) (by decide) Yz f Zr (by kernel_rfl) (by kernel_rfl) Yz)
  refine⟨fun S n q f o d c K p=>?_,?_⟩
  ·obtain⟨⟨ua,uc⟩,b⟩:=c
   have v:n.tmps.getD 349 undef=.tuple #[.agg #[Iv u.kind,Iv u.r,.slice ua u.len uc],.bool true]:=b.1.vals (8,349) (by decide) (o.at 8 (by kernel_rfl)) _ Yz;go_simp;exact p _ _ (DMz.pure m l b (i:=10) (t:=359) (by decide) Yz f Zr (by kernel_rfl) (by kernel_rfl) Yz)
  refine⟨fun S n q f o d c K p=>?_,?_⟩
  ·obtain⟨⟨ua,uc⟩,b⟩:=c
   go_simp;exact p _ _ (DMz.alloc m l b (i:=11) (t:=19) (s:=3) (ty:=105) (by decide) Yz f d (by kernel_rfl) (by kernel_rfl) Yz)
  refine⟨fun S n q f o d c K p=>?_,?_⟩
  ·obtain⟨⟨ua,uc⟩,b⟩:=c
   have v:n.tmps.getD 358 undef=.agg #[Iv u.kind,Iv u.r,.slice ua u.len uc]:=b.1.vals (9,358) (by decide) (o.at 9 (by kernel_rfl)) _ Yz;obtain⟨B,kB,af,c0,C,R⟩:=b.1.box (i:=11) (t:=19) (s:=3) (ty:=105) (by decide) (o.at 11 (by kernel_rfl))
   exact QlG C kB v infTy Yz R.symm (p _ _ (DMz.store m l b (i:=12) (t:=19) (s:=3) (ty:=105) (j:=11) (by decide) (by decide) (o.at 11 (by kernel_rfl)) kB C R af Yz Yz f d (by kernel_rfl) (by kernel_rfl) Yz))
  refine⟨fun S n q f o d c K p=>?_,?_⟩
  ·obtain⟨⟨ua,uc⟩,b⟩:=c
   have v:n.tmps.getD 359 undef=.bool true:=b.1.vals (10,359) (by decide) (o.at 10 (by kernel_rfl)) _ Yz;go_simp;exact p _ _ (DMz.pure m l b (i:=13) (t:=20) (by decide) Yz f Zr (by kernel_rfl) (by kernel_rfl) Yz)
  trivial
end Go.Proofs.YtiebmclhgebhpafGreat
