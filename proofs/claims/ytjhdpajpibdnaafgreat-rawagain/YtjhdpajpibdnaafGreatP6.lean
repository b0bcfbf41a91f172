import Derived.Test.YtjhdpajpibdnaafGreatP5
set_option maxHeartbeats 16000000
set_option maxRecDepth 100000
namespace Go.Proofs.YtjhdpajpibdnaafGreat
open Go.ChangeShapes Go.WideShapes Go.ChangeAt Go.RowKit _root_.Go.Proofs.Tryz
set_option linter.unusedSimpArgs false
set_option linter.unusedVariables false
variable {w w' w6 w1 w2:World}{n b c k m rc ac X j B i cm g N d f fi cap bp q R pages id bi cc funcs s ci rl al ca ri vl most cR cA G:Nat}{O Q O':Nat→Prop}{l xs regs inp:List Int}{p a rg ag pm pi pa pR pA ra aa:Option Addr}{t e:TypeId}{v:Value}{P:Program}{L bs:List Bool}{x ya xc xk fr xa xb xn yb:Int}{ds cs:List Value}{ops:Array Oper}
def fI:Qt:=⟨1,0,0,0,0,5,[],[]⟩
def fE:ZA:=⟨3,0,⟨0,[],[]⟩,⟨0,[],[]⟩,[0]⟩
def fB:MBlock 6:=⟨0,[],[fI],fE⟩
def fF:MFunc 6:=⟨0,[],[tInt],[fB]⟩
def five6:List (MFunc 6):=[fF]
theorem five_fault:modFault five6=(0,0):=by decide +kernel
abbrev fBc (G1 Gc Gi:Nat):Array Value:=#[Iv 0,Nv,.slice (some ⟨Gc,0,none⟩) 1 1,Iv 3,Iv 0,Iv 0,Nv,Nv,Iv 0,Nv,Nv,.slice (some ⟨Gi,0,none⟩) 1 1]
theorem QnF (w:World):intsL.In w All ([]:List Int) [Nv]:=Yg _ _ _ _ _
theorem Qlv (w:World):(Lay.tt 6).In w All tInt [Iv 1,Iv 0,Nv]:=⟨none,0,Z,fun i x h=>by simp[tInt] at h,by unfold tInt;exact⟨by decide,fun x h=>by simp at h⟩⟩
theorem QdX {f:MFunc 6}(n:f.params=[]) (p:f.results.length<=1) (a:∀ t∈f.results,t.count<=1){b:MBlock 6}(c:f.blocks=[b]) (o:b.params=[]) (u:b.code.length<=40) (j:b.fin.yes.regs=[]/\b.fin.yes.args=[]/\b.fin.no.regs=[]/\b.fin.no.args=[]/\b.fin.args.length<=1) (k:∀ x∈b.code,x.regs=[]/\x.args=[]):¬ Qm [f]:=by
 rintro (h | ⟨x,g,h⟩)
 ·exact absurd h (by simp)
 ·simp only[List.mem_singleton] at g
  subst g;rcases h with h | h | h | ⟨y,e,h⟩
  ·rw[c] at h;exact absurd h (by simp)
  ·rw[n] at h
   rcases h with h | ⟨t,a,_⟩
   ·exact absurd h (by simp)
   ·cases a
  ·rcases h with h | ⟨t,d,h⟩
   ·have:=p;omega
   ·have:=a t d;omega
  ·rw[c] at e
   simp only[List.mem_singleton] at e
   subst e;obtain⟨q,i,l,m,s⟩:=j
   rcases h with h | h | h | h | h | h | h | ⟨z,r,h⟩
   ·omega
   ·rw[o] at h
    rcases h with h | ⟨t,a,_⟩
    ·exact absurd h (by simp)
    ·cases a
   ·omega
   ·rw[q] at h;exact absurd h (by simp)
   ·rw[i] at h;exact absurd h (by simp)
   ·rw[l] at h;exact absurd h (by simp)
   ·rw[m] at h;exact absurd h (by simp)
   ·have c:=k z r;rw[c.1,c.2] at h
    exact absurd h (by simp)
theorem five_not:¬ Qm five6:=QdX (b:=fB) Z (by decide) (fun t a=>by simp only[fF,List.mem_singleton] at a;subst a;decide) Z Z (by decide) ⟨Z,Z,Z,Z,by decide⟩ (fun x c=>by simp only[fB,List.mem_singleton] at c;subst c;exact⟨Z,Z⟩)
theorem two_not:¬ Qm two6:=QdX (b:=tB) Z (by decide) (fun t c=>by cases c) Z Z (by decide) ⟨Z,Z,Z,Z,by decide⟩ (fun x a=>by have a:x∈two1:=a;simp only[two1,List.mem_cons,List.not_mem_nil,or_false] at a;rcases a with rfl | rfl | rfl | rfl<;>exact⟨Z,Z⟩)
theorem Qjd (w:World):Calls prog 38 #[] w fun e w'=>∃ I C T Y G2 G1 R,e=.returned (.agg #[.slice (some ⟨G2,0,none⟩) 1 1])/\Bxs w w' [(I,#[Iv 0],3),(C,#[Iv 1,Iv 0,Iv 0,Iv 0,Iv 0,Iv 5,Nv,Nv],78),(T,#[Iv 1,Iv 0,Nv],105),(Y,#[.slice (some ⟨G2,0,none⟩) 1 1],24),(G2,#[Iv 0,Nv,.slice (some ⟨T,0,none⟩) 1 1,.slice (some ⟨G1,0,none⟩) 1 1],89),(G1,fBc G1 C I,86),(R,#[.slice (some ⟨G2,0,none⟩) 1 1],24)]:=by
 have h:=Qa ((Bxs.start w).new #[Nv] 24);go_enter func38,ntmps38
 go_upto_region 1 with fail
 generalize w.alloc (.cells #[Nv] 24)=B at h |-;generalize w.heap.size=R at h |-;go_wp2_with fail
 refine(Qjp B).mono ?_
 rintro M E ⟨G1,G2,rfl,t,A,y,s,u,z⟩;have l:=Qa (((h.out.made z t y).add A (Zt h.out.bel.size s) (fun b x=>by simp only[List.mem_cons,List.not_mem_nil,or_false] at x;rcases x with rfl | rfl;exact u;exact fun e=>by have J:R<B.heap.size:=(h.out.at (a:=[])).lt;have e:R=G2:=e;omega)).new #[.slice (some ⟨G2,0,none⟩) 1 1] 24);clear t A y s u z h;go_upto_region 2 with fail
 generalize E.alloc (.cells #[.slice (some ⟨G2,0,none⟩) 1 1] 24)=p at l |-;generalize E.heap.size=Y at l |-;have m:=Qa (l.out.new #[Iv 1,Iv 0,Nv] 105);have j:=l.out.cell (a:=[]) 0 _ Z;have F:=m.out.cell (a:=[_,_]) 2 _ Z;have k:=m.out.free (a:=[_,_]) 2;go_upto_region 3 with fail
 have f:=Qa (m.out.set (a:=[_,_]) 2 (.slice (some ⟨p.heap.size,0,none⟩) 1 1));clear l m j F k;generalize (p.alloc (.cells #[Iv 1,Iv 0,Nv] 105)).setCell ⟨G2,2,none⟩ (.slice (some ⟨p.heap.size,0,none⟩) 1 1)=c at f |-;generalize p.heap.size=T at f |-;have n:=Qa (f.out.new #[Iv 1,Iv 0,Iv 0,Iv 0,Iv 0,Iv 5,Nv,Nv] 78);have j:c.cell? ⟨Y,0,none⟩=some (.slice (some ⟨G2,0,none⟩) 1 1):=f.out.cell (a:=[_]) 0 _ Z;have q:c.cell? ⟨G2,3,none⟩=some (.slice (some ⟨G1,0,none⟩) 1 1):=f.out.cell (a:=[_,_]) 3 _ Z;have r:=n.out.cell (a:=[_,_,_,_]) 2 _ Z;have k:=n.out.free (a:=[_,_,_,_]) 2;go_upto_region 4 with fail
 have d:=Qa (n.out.set (a:=[_,_,_,_]) 2 (.slice (some ⟨c.heap.size,0,none⟩) 1 1));clear f n j q r k;generalize (c.alloc (.cells #[Iv 1,Iv 0,Iv 0,Iv 0,Iv 0,Iv 5,Nv,Nv] 78)).setCell ⟨G1,2,none⟩ (.slice (some ⟨c.heap.size,0,none⟩) 1 1)=g at d |-;generalize c.heap.size=C at d |-;have o:=Qa (d.out.new #[Iv 0] 3);have j:g.cell? ⟨Y,0,none⟩=some (.slice (some ⟨G2,0,none⟩) 1 1):=d.out.cell (a:=[_,_]) 0 _ Z;have q:g.cell? ⟨G2,3,none⟩=some (.slice (some ⟨G1,0,none⟩) 1 1):=d.out.cell (a:=[_,_,_]) 3 _ Z;have r:=o.out.cell (a:=[_,_,_,_,_]) 11 _ Z;have k:=o.out.free (a:=[_,_,_,_,_]) 11;go_upto_region 5 with fail
 have i:=Qa (o.out.set (a:=[_,_,_,_,_]) 11 (.slice (some ⟨g.heap.size,0,none⟩) 1 1));clear d o j q r k;generalize (g.alloc (.cells #[Iv 0] 3)).setCell ⟨G1,11,none⟩ (.slice (some ⟨g.heap.size,0,none⟩) 1 1)=H at i |-;generalize g.heap.size=I at i |-;have j:H.cell? ⟨Y,0,none⟩=some (.slice (some ⟨G2,0,none⟩) 1 1):=i.out.cell (a:=[_,_,_]) 0 _ Z;have L:=i.out.cell (a:=[_,_,_,_,_,_]) 0 _ Z;have K:=i.out.free (a:=[_,_,_,_,_,_]) 0;have D:=Qa (i.out.set (a:=[_,_,_,_,_,_]) 0 (.slice (some ⟨G2,0,none⟩) 1 1));go_wp2
 have G:=D.out.cell (a:=[_,_,_,_,_,_]) 0 _ Z;refine Xy (v:=.agg #[.slice (some ⟨G2,0,none⟩) 1 1]) (by simp[results,results38,go_sem,G]) Z ⟨_,_,_,_,G2,_,_,Z,D.out⟩
def retE:ZA:=⟨3,0,⟨0,[],[]⟩,⟨0,[],[]⟩,[]⟩
def MBlock.outl {n:Nat}(b:MBlock n):MBlock n:=⟨b.regs,b.params,[],retE⟩
def MFunc.outl {n:Nat}(f:MFunc n):MFunc n:=⟨f.regs,f.params,f.results,f.blocks.map MBlock.outl⟩
def outl {n:Nat}(m:List (MFunc n)):List (MFunc n):=m.map MFunc.outl
def JSt.outl (s:JSt):JSt:=⟨Go.Proofs.YtjhdpajpibdnaafGreat.outl s.m,s.f.outl,s.H,s.L⟩
theorem Qa8 (m:List (MFunc n)):(outl m).length=m.length:=XN _
theorem Qes (m:List (MFunc n)) (k:Nat):(outl m)[k]?=(m[k]?).map MFunc.outl:=XS
theorem Qgy (f:MFunc n):f.outl.blocks.length=f.blocks.length:=XN _
theorem Qj3 (f:MFunc n) (k:Nat):f.outl.blocks[k]?=(f.blocks[k]?).map MBlock.outl:=XS
theorem QcT (s:JSt) (l:List Int) (ts:List (TT 6)) (a:List Int):s.outl.args l ts a=s.args l ts a:=rfl
theorem Qdb (s:JSt):∀ l,s.outl.fields l=s.fields l
 | []=>rfl
 | k::r=>by
   have a:s.outl.at k=s.at k:=rfl;simp only[JSt.fields,a,Qdb s r]
theorem Qdx (s:JSt) (x:Qt):s.outl.makes x=s.makes x:=by
 have i:∀ k,s.outl.at k=s.at k:=fun _=>rfl;have d:∀ a b c,s.outl.want a b c=s.want a b c:=fun _ _ _=>rfl;have g:s.outl.H=s.H:=rfl;have h:s.outl.f.regs=s.f.regs:=rfl;have e:s.outl.m[x.k.toNat]?=(s.m[x.k.toNat]?).map MFunc.outl:=Qes _ _;unfold JSt.makes;rw[e]
 simp only[i,d,g,h,Qdb,QcT]
 cases s.m[x.k.toNat]?<;>rfl
theorem Qfe (s:JSt) (x:Qt):s.outl.code x=s.code x:=by
 have a:s.outl.m.length=s.m.length:=Qa8 _;have b:s.outl.L=s.L:=rfl;unfold JSt.code;rw[a,Qdx,b]
theorem QhW (s:JSt) (x:Qt):s.outl.next x=(s.next x).outl:=by
 unfold JSt.next
 rw[Qdx]
 rfl
theorem Qkb (s:JSt) (x:Qt):s.outl.ins x=(s.ins x).outl:=by
 unfold JSt.ins;rw[Qfe]
 split
 ·exact QhW s x
 ·rfl
theorem QiV (s:JSt) (t:MTo):s.outl.to t=s.to t:=by
 have c:s.outl.f.blocks[t.block.toNat]?=(s.f.blocks[t.block.toNat]?).map MBlock.outl:=Qj3 _ _;have a:s.outl.f.regs=s.f.regs:=rfl;have b:s.outl.H=s.H:=rfl;unfold JSt.to;rw[c]
 simp only[a,b,QcT]
 cases s.f.blocks[t.block.toNat]?<;>rfl
theorem QjQ (s:JSt) (e:ZA):s.outl.fin e=s.fin e:=by
 have h:s.outl.f.blocks.length=s.f.blocks.length:=Qgy _;have j:s.outl.f.regs=s.f.regs:=rfl;have i:s.outl.H=s.H:=rfl;have g:s.outl.f.results=s.f.results:=rfl;have d:∀ a b c,s.outl.want a b c=s.want a b c:=fun _ _ _=>rfl;unfold JSt.fin;rw[h,QiV,QiV,j,i,g,d,QcT]
theorem QgO (m:List (MFunc 6)) (f:MFunc 6) (b:MBlock 6):JSt.start (outl m) f.outl b.outl=(JSt.start m f b).outl:=rfl
theorem Qhf {fn:MFunc n}{x:MBlock n}(h:(MBlock.fault funcs f fn b x).1=0):(MBlock.fault funcs f fn.outl b x.outl).1=0:=by
 unfold MBlock.fault at h |-;split at h
 ·cases h
 rename_i l
 split at h
 ·rename_i d;exact absurd h d
 rename_i d
 split at h
 ·cases h
 rename_i j
 have g:¬ (x.outl.regs<fn.outl.regs\/16<x.outl.regs):=l;have a:¬ listC x.outl.regs x.outl.params≠0:=d;have c:¬ (b=0/\(x.outl.regs≠fn.outl.regs\/QcF x.outl.params fn.outl.params=false)):=j;have o:¬ 40<x.outl.code.length:=by show ¬ 40<0;omega
 have m:¬ (firstF (fun i y=>(Qt.form funcs y,(10000*f+100*b+i:Int))) 0 x.outl.code).1≠0:=fun e=>e Z
 have k:¬ x.outl.fin.form fn.outl.blocks.length≠0:=fun e=>e (by
  show ZA.form _ retE=0;simp[ZA.form,retE,MTo.form])
 rw[Xr g,Xr a,Xr c,Xr o,Xr m,Xr k]
theorem QhI {x:MFunc n}(h:(MFunc.fault funcs f x).1=0):(MFunc.fault funcs f x.outl).1=0:=by
 unfold MFunc.fault at h |-;split at h
 ·cases h
 rename_i l
 split at h
 ·rename_i a;exact absurd h a
 rename_i a
 split at h
 ·rename_i a;exact absurd h a
 rename_i j
 split at h
 ·cases h
 rename_i o
 split at h
 ·cases h
 rename_i m
 have g:¬ (x.outl.regs<0\/6<x.outl.regs):=l;have c:¬ listC x.outl.regs x.outl.params≠0:=a;have d:¬ listC x.outl.regs x.outl.results≠0:=j;have b:¬ (x.outl.blocks.length<1\/12<x.outl.blocks.length):=by rw[Qgy];exact o
 have e:¬ (f=0/\¬ (x.outl.regs=0/\x.outl.params.length=0/\x.outl.results.all (fun t=>t.kind==1)=true)):=m;rw[Xr g,Xr c,Xr d,Xr b,Xr e]
 rw[Q0]
 intro k y i;rw[Qj3] at i
 obtain⟨z,p,rfl⟩:=Option.map_eq_some_iff.1 i
 exact Qhf (QR h k z p)
theorem Qgq {m:List (MFunc n)}(h:(modFault m).1=0):(modFault (outl m)).1=0:=by
 unfold modFault at h |-;split at h
 ·cases h
 rename_i c
 rw[Xr (by rw[Qa8];exact c),Q0]
 intro k y a;rw[Qes] at a
 obtain⟨z,b,rfl⟩:=Option.map_eq_some_iff.1 a
 rw[Qa8]
 exact QhI (QR h k z b)
theorem QdQ {m:List (MFunc n)}(h:¬ Qm m):¬ Qm (outl m):=by
 rintro (e | ⟨x,a,e⟩)
 ·rw[Qa8] at e;exact h (.inl e)
 ·obtain⟨z,f,rfl⟩:=List.mem_map.1 a
  refine h (.inr ⟨z,f,?_⟩);rcases e with e | e | e | ⟨y,b,e⟩
  ·rw[Qgy] at e;exact .inl e
  ·exact .inr (.inl e)
  ·exact .inr (.inr (.inl e))
  ·obtain⟨q,d,rfl⟩:=List.mem_map.1 b
   refine .inr (.inr (.inr ⟨q,d,?_⟩));rcases e with e | e | e | e | e | e | e | ⟨u,c,e⟩
   ·exact absurd e (by show ¬ 200<0;omega)
   ·exact .inr (.inl e)
   ·exact absurd e (by show ¬ 300<0;omega)
   ·exact absurd e (by show ¬ 300<0;omega)
   ·exact absurd e (by show ¬ 300<0;omega)
   ·exact absurd e (by show ¬ 300<0;omega)
   ·exact absurd e (by show ¬ 300<0;omega)
   ·cases c
abbrev Qaq (g:MBlock 6) (p1 p2:Option Addr) (d1 d2:Nat) (e:EP):Array Value:=#[Iv g.regs,.slice p1 g.params.length d1,.slice p2 g.code.length d2,Iv g.fin.op,Iv g.fin.a,Iv g.fin.yes.block,.slice e.pYR g.fin.yes.regs.length e.cYR,.slice e.pYA g.fin.yes.args.length e.cYA,Iv g.fin.no.block,.slice e.pNR g.fin.no.regs.length e.cNR,.slice e.pNA g.fin.no.args.length e.cNA,.slice e.pA g.fin.args.length e.cA]
theorem QlF {m:List (MFunc 6)}{fn:MFunc 6}{g:MBlock 6}(c:m[f]?=some fn) (a:fn.blocks[b]?=some g):Qgc m (f:Int) (b:Int)=true:=by
 have:=(Zi a).1
 simp[Qgc,c,this]
theorem Zu (h:Blk w R #[Iv 0,Iv 0] 32) (c a:Int):Blk ((w.setCell ⟨R,0,none⟩ (Iv c)).setCell ⟨R,1,none⟩ (Iv a)) R #[Iv c,Iv a] 32:=by
 have:=Qh (Qh h 0 (Iv c)) 1 (Iv a)
 simpa using this
theorem vsizeEnd:(prog.info? 84).map (·.size)=some 9:=by kernel_rfl
theorem QgU {m:List (MFunc 6)}{fn:MFunc 6}{g:MBlock 6}{p1 C:Option Addr}{d1 u:Nat}{e:EP}(an:(modFault m).1=0) (H:¬ Qm m) (az:(QaM 6).In w All (outl m) [.slice p m.length c]) (ad:m[f]?=some fn) (aa:fn.blocks[b]?=some g) (N:insC.list.In w All g.code [.slice C g.code.length u]) (ai:Qdn w All g.fin e) (au:-9223372036854775808<=g.fin.a/\g.fin.a<=9223372036854775807) :
 Calls prog 108 #[.agg #[.slice p m.length c],Iv (f:Int),Iv (b:Int),.agg (Qaq g p1 C d1 u e)] w fun r w'=>r=.returned (QG (QA (10000*(f:Int)+100*(b:Int)) g.fin (JSt.start m fn g) 0 g.code))/\Below w.heap.size w w':=by
 have bc:=Qa an;have bd:=Qa H;have bb:=Qa az;have a0:=Qa ad;have a4:=Qa aa;have ao:=Qa N;have a3:=Qa ai;have bi:=Qa au;have ab:fn∈m:=Zm ad;have al:g∈fn.blocks:=Zm aa;have af:Hid (¬ g.great):=fun h=>H (.inr ⟨fn,ab,.inr (.inr (.inr ⟨g,al,h⟩))⟩)
 have ba:Hid (JOk (JSt.start m fn g).outl):=by
  have:=JOk.start (Qgq an) (QdQ H) (f:=fn.outl) (b:=g.outl) (List.mem_map_of_mem ab) (List.mem_map_of_mem al)
  rw[QgO] at this
  exact this
 have bk:g.code.length<=200:=Xo fun h=>af.out (.inl h);have bj:f<1000:=by have h1:=(Zi ad).1;have h2:m.length<=20:=Xo fun x=>H (.inl x);omega
 have bm:b<1000:=by have h1:=(Zi aa).1;have h2:fn.blocks.length<=30:=Xo fun x=>H (.inr ⟨fn,ab,.inl x⟩);omega
 have b1:=Zd w (.cells #[.slice p m.length c] 24);have b2:=Zd (w.alloc (.cells #[.slice p m.length c] 24)) (.cells (Qaq g p1 C d1 u e) 86);have b3:=Zd ((w.alloc (.cells #[.slice p m.length c] 24)).alloc (.cells (Qaq g p1 C d1 u e) 86)) (.cells #[Iv 0,Iv 0] 32)
 have U:Hid (Below w.heap.size w (((w.alloc (.cells #[.slice p m.length c] 24)).alloc (.cells (Qaq g p1 C d1 u e) 86)).alloc (.cells #[Iv 0,Iv 0] 32))):=by
  have h:=b2.trans (b3.mono b2.size);exact b1.trans (h.mono b1.size)
 have s1:(w.alloc (.cells #[.slice p m.length c] 24)).heap.size=w.heap.size+1:=World.size_alloc ..;have s2:((w.alloc (.cells #[.slice p m.length c] 24)).alloc (.cells (Qaq g p1 C d1 u e) 86)).heap.size=w.heap.size+1+1:=(World.size_alloc ..).trans (by rw[s1])
 have BM:Hid (Blk (((w.alloc (.cells #[.slice p m.length c] 24)).alloc (.cells (Qaq g p1 C d1 u e) 86)).alloc (.cells #[Iv 0,Iv 0] 32)) w.heap.size #[.slice p m.length c] 24) :=
  Blk.below (Blk.below (Blk.new w #[.slice p m.length c] 24) b2) b3
 have BX:Hid (Blk (((w.alloc (.cells #[.slice p m.length c] 24)).alloc (.cells (Qaq g p1 C d1 u e) 86)).alloc (.cells #[Iv 0,Iv 0] 32)) (w.heap.size+1) (Qaq g p1 C d1 u e) 86):=by
  have:=Blk.below (Blk.new (w.alloc (.cells #[.slice p m.length c] 24)) (Qaq g p1 C d1 u e) 86) b3
  rw[s1] at this
  exact this
 have BR:Hid (Blk (((w.alloc (.cells #[.slice p m.length c] 24)).alloc (.cells (Qaq g p1 C d1 u e) 86)).alloc (.cells #[Iv 0,Iv 0] 32)) (w.heap.size+1+1) #[Iv 0,Iv 0] 32):=by
  have:=Blk.new ((w.alloc (.cells #[.slice p m.length c] 24)).alloc (.cells (Qaq g p1 C d1 u e) 86)) #[Iv 0,Iv 0] 32
  rw[s2] at this
  exact this
 clear b1 b2 b3 s1 s2 ab al an H az ad aa N ai au;go_enter func108,ntmps108
 go_upto_region 1 with fail
 generalize ((w.alloc (.cells #[.slice p m.length c] 24)).alloc (.cells (Qaq g p1 C d1 u e) 86)).alloc (.cells #[Iv 0,Iv 0] 32)=o at U BM BX BR |-;obtain⟨X,hX⟩:∃ X,X=w.heap.size:=⟨_,Z⟩
 obtain⟨X2,ax⟩:∃ X2,X2=X+1:=⟨_,Z⟩
 obtain⟨R,hR⟩:∃ R,R=X2+1:=⟨_,Z⟩
 have G:Hid (w.heap.size<=R):=by show _<=_;omega
 rw[<-hX] at BM BX BR |-
 rw[<-ax] at BX BR |-
 rw[<-hR] at BR |-
 clear hX ax hR;have x0:=Qb BM.out 0 _ Z;have CN:=Qa (Qkh (w:=o) (m:=outl m) (p:=p) (c:=c) (f:Int) (b:Int) (QdQ bd.out) (by rw[Qa8];exact Ya bb.out U.out));rw[Qa8] at CN
 go_wp2_with fail
 refine CN.out.mono ?_;rintro e2 w2 ⟨b2,a8⟩;have a5:Hid (o.heap.size<=w2.heap.size):=b2.size;rcases a8 with ⟨hf,rfl⟩|⟨-,aw,rfl⟩|⟨-,-,i,j,bn,g',B,O,A,hi,hj,ah,aj,rfl,hS,hA⟩
 ·exact absurd (Qgq bc.out) hf
 ·rw[QlF (fn:=fn.outl) (g:=g.outl) (by rw[Qes,a0.out];rfl) (by rw[Qj3,a4.out];rfl)] at aw
  cases aw
 have bh:f=i:=by omega
 have bf:b=j:=by omega
 subst bh bf;rw[Qes,a0.out] at ah
 cases ah
 rw[Qj3,a4.out] at aj
 cases aj
 have b3:=Zd w2 (.cells #[Iv 0,Iv 0] 32)
 have S3:Hid (SOk (w2.alloc (.cells #[Iv 0,Iv 0] 32)) B o.heap.size ((JSt.start m fn g).upto (g.code.take 0)).outl) :=
  SOk.below ⟨O,A,hS,hA,ba.out⟩ b3
 have B3:Hid (Below o.heap.size o (w2.alloc (.cells #[Iv 0,Iv 0] 32))):=b2.trans (b3.mono b2.size);have F3:Hid (Blk (w2.alloc (.cells #[Iv 0,Iv 0] 32)) w2.heap.size #[Iv 0,Iv 0] 32):=Blk.new _ _ _;clear b2 b3 hS hA CN a5 hi hj;go_upto_region 2 with fail
 generalize w2.alloc (.cells #[Iv 0,Iv 0] 32)=w3 at S3 B3 F3 |-;generalize w2.heap.size=F9 at F3 |-;have f0:=Qb F3.out 0 _ Z;have y2:w3.cell? ⟨X2,2,none⟩=some (.slice C g.code.length u):=Qk (Qb BX.out 2 _ Z) B3.out;clear x0;go_wp2_with fail
 clear f0 y2;go_loopw [29] (fun i wr=>∃ z:Nat,z<=g.code.length/\i=Iv z/\SOk wr B o.heap.size ((JSt.start m fn g).upto (g.code.take z)).outl/\Below o.heap.size o wr/\∀ j y,j<z->g.code[j]?=some y->((JSt.start m fn g).upto (g.code.take j)).code y=0) (fun i _=>g.code.length - (intOf i).toNat)
 case atStart=>exact⟨0,Xb _,Z,S3.out,B3.out,fun j y hj=>absurd hj (XG _)⟩
 case round =>
  obtain⟨z,hz,rfl,hs,hb,ae⟩:=hrel
  have SR:=Qa hs;have q:=Qa hb;have P:=Qa ae;clear hs hb ae S3 B3 F3;obtain⟨l,a6⟩:∃ l,l=wr:=⟨_,Z⟩
  subst a6;by_cases a7:z<g.code.length
  rotate_left
  ·have a2:¬ (z:Int)<g.code.length:=by omega
   have ar:g.code.take z=g.code:=XO (by omega);rw[ar] at SR
   have RE:Hid (l.rangeAt X2 3 (QbW g.fin e).toList):=fun j v hj=>by
    have:(Qaq g p1 C d1 u e)[3+j]?=some v:=by
     rw[<-Array.getElem?_toList,Nat.add_comm]
     exact hj
    exact Qk (Qb BX.out (3+j) v this) q.out
   have ap:Hid (300>=g.fin.yes.regs.length/\300>=g.fin.yes.args.length/\300>=g.fin.no.regs.length/\300>=g.fin.no.args.length):=by
    have h:=af.out;unfold MBlock.great at h;simp only[not_or,Nat.not_lt] at h
    exact⟨h.2.2.2.1,h.2.2.2.2.1,h.2.2.2.2.2.1,h.2.2.2.2.2.2.1⟩
   have CE:Hid (Calls prog 165 #[Pv B 0,.agg (QbW g.fin e).toList.toArray] l fun r w'=>r=.returned (Iv (((JSt.start m fn g).upto g.code).fin g.fin))/\Below l.heap.size l w'):=by
    have:=SR.out.end_ ((a3.out.below U.out).below q.out) bi.out (by have:=ap.out;omega)
    rw[QjQ] at this
    exact this
   have BE:Hid (QA (10000*(f:Int)+100*(b:Int)) g.fin (JSt.start m fn g) 0 g.code=if ((JSt.start m fn g).upto g.code).fin g.fin≠0 then (((JSt.start m fn g).upto g.code).fin g.fin,10000*(f:Int)+100*(b:Int)+91) else (0,0)):=Qez fun j y hj hy=>P.out j y (by omega) hy;clear ap ar;generalize ((JSt.start m fn g).upto g.code).fin g.fin=D at CE BE;go_wp2_with (refine wpList_load_mid Z 84 (.tmp 47) Z X2 3 Z (QbW g.fin e).toList _ RE.out underlying84 Z vsizeEnd ?_)
   refine CE.out.mono ?_;rintro e9 W ⟨rfl,b9⟩;have V:Hid (Below o.heap.size o W):=q.out.trans (b9.mono q.out.size);clear b9 q CE RE SR;by_cases ak:D=0
   ·subst ak;have E:Hid (QA (10000*(f:Int)+100*(b:Int)) g.fin (JSt.start m fn g) 0 g.code=(0,0)):=by show _=_;rw[BE.out];rfl
    clear BE;have t:Hid (Blk W R #[Iv 0,Iv 0] 32):=Blk.below BR.out V.out;have r0:=Qb t.out 0 _ Z;have r1:=Qb t.out 1 _ Z;have z0:=Qj t.out 0;have z1:=Qj t.out 1;have T:Hid (Blk ((W.setCell ⟨R,0,none⟩ (Iv 0)).setCell ⟨R,1,none⟩ (Iv 0)) R #[Iv 0,Iv 0] 32):=Zu t.out _ _;have BL:Hid (Below w.heap.size w ((W.setCell ⟨R,0,none⟩ (Iv 0)).setCell ⟨R,1,none⟩ (Iv 0))):=((U.out.trans (V.out.mono U.out.size)).setCell G.out _).setCell G.out _;go_wp2_with fail
    generalize (W.setCell ⟨R,0,none⟩ (Iv 0)).setCell ⟨R,1,none⟩ (Iv 0)=av at T BL |-;have e0:=Qb T.out 0 _ Z;have e1:=Qb T.out 1 _ Z;exact Xy (v:=.agg #[Iv 0,Iv 0]) (by simp[results,results108,go_sem,e0,e1]) Z ⟨by rw[E.out],BL.out⟩
   ·have aq:(D != 0)=true:=by simpa using ak
    have E:Hid (QA (10000*(f:Int)+100*(b:Int)) g.fin (JSt.start m fn g) 0 g.code=(D,10000*(f:Int)+100*(b:Int)+91)):=by
     show _=_;rw[BE.out,Xs ak]
    have CA:=Qa (QdH (f:=f) (b:=b) (w:=W) ⟨by omega,by omega⟩);unfold Rd at CA;clear BE;go_wp2_with fail
    refine CA.out.mono ?_;rintro be d ⟨rfl,Q⟩;have I:Hid (Below o.heap.size o d):=V.out.trans (Q.mono V.out.size);clear Q V CA;generalize 10000*(f:Int)+100*(b:Int)+91=K at E |-;have t:Hid (Blk d R #[Iv 0,Iv 0] 32):=Blk.below BR.out I.out;have r0:=Qb t.out 0 _ Z;have r1:=Qb t.out 1 _ Z;have z0:=Qj t.out 0;have z1:=Qj t.out 1;have T:Hid (Blk ((d.setCell ⟨R,0,none⟩ (Iv D)).setCell ⟨R,1,none⟩ (Iv K)) R #[Iv D,Iv K] 32):=Zu t.out _ _;have BL:Hid (Below w.heap.size w ((d.setCell ⟨R,0,none⟩ (Iv D)).setCell ⟨R,1,none⟩ (Iv K))):=((U.out.trans (I.out.mono U.out.size)).setCell G.out _).setCell G.out _;go_wp2_with fail
    generalize (d.setCell ⟨R,0,none⟩ (Iv D)).setCell ⟨R,1,none⟩ (Iv K)=av at T BL |-;have e0:=Qb T.out 0 _ Z;have e1:=Qb T.out 1 _ Z;exact Xy (v:=.agg #[Iv D,Iv K]) (by simp[results,results108,go_sem,e0,e1]) Z ⟨by rw[E.out],BL.out⟩
  have a2:(z:Int)<g.code.length:=by omega
  have ac:g.code[z]?=some g.code[z]:=Zg a7;generalize g.code[z]=x at ac;have am:=Qa ac;obtain⟨cg,co,ds,rfl,-,-,s,L⟩:=Yf (Ya (Ya ao.out U.out) q.out) ac
  have ag:=Qk4 L;obtain⟨xa,xc,xb,xd,rfl,J,S,ay,-⟩:=Qjq L
  have u0:l.cell? ⟨cg,co+z*8,none⟩=some (Iv x.op):=s 0 (by decide);have u1:l.cell? ⟨cg,co+z*8+1,none⟩=some (Iv x.a):=s 1 (by decide);have u2:l.cell? ⟨cg,co+z*8+2,none⟩=some (Iv x.b):=s 2 (by decide);have u3:l.cell? ⟨cg,co+z*8+3,none⟩=some (Iv x.c):=s 3 (by decide);have u4:l.cell? ⟨cg,co+z*8+4,none⟩=some (Iv x.k):=s 4 (by decide);have u5:l.cell? ⟨cg,co+z*8+5,none⟩=some (Iv x.n):=s 5 (by decide);have u6:l.cell? ⟨cg,co+z*8+6,none⟩=some (.slice xa x.regs.length xc):=s 6 (by decide);have u7:l.cell? ⟨cg,co+z*8+7,none⟩=some (.slice xb x.args.length xd):=s 7 (by decide);have b4:=Zd l (.cells #[Iv x.op,Iv x.a,Iv x.b,Iv x.c,Iv x.k,Iv x.n,.slice xa x.regs.length xc,.slice xb x.args.length xd] 78);have M:Hid (Blk (l.alloc (.cells #[Iv x.op,Iv x.a,Iv x.b,Iv x.c,Iv x.k,Iv x.n,.slice xa x.regs.length xc,.slice xb x.args.length xd] 78)) l.heap.size #[Iv x.op,Iv x.a,Iv x.b,Iv x.c,Iv x.k,Iv x.n,.slice xa x.regs.length xc,.slice xb x.args.length xd] 78):=Blk.new _ _ _;have B4:Hid (Below o.heap.size o (l.alloc (.cells #[Iv x.op,Iv x.a,Iv x.b,Iv x.c,Iv x.k,Iv x.n,.slice xa x.regs.length xc,.slice xb x.args.length xd] 78))):=q.out.trans (b4.mono q.out.size)
  have CI:Hid (Calls prog 164 #[Pv B 0,Qd3 x xa xb xc xd] (l.alloc (.cells #[Iv x.op,Iv x.a,Iv x.b,Iv x.c,Iv x.k,Iv x.n,.slice xa x.regs.length xc,.slice xb x.args.length xd] 78)) fun r w'=>r=.returned (Iv (((JSt.start m fn g).upto (g.code.take z)).code x))/\SOk w' B o.heap.size (((JSt.start m fn g).upto (g.code.take z)).ins x).outl/\Below o.heap.size (l.alloc (.cells #[Iv x.op,Iv x.a,Iv x.b,Iv x.c,Iv x.k,Iv x.n,.slice xa x.regs.length xc,.slice xb x.args.length xd] 78)) w'):=by
   have:=(SR.out.below b4).ins B4.out.size (Ya J b4) (Ya S b4) ay ag
   rw[Qfe,Qkb] at this
   exact this
  clear s L J S ay ac ag b4 q SR;go_upto_region 7 with fail
  generalize l.alloc (.cells #[Iv x.op,Iv x.a,Iv x.b,Iv x.c,Iv x.k,Iv x.n,.slice xa x.regs.length xc,.slice xb x.args.length xd] 78)=w4 at M B4 CI |-;generalize l.heap.size=bl at M |-;clear u0 u1 u2 u3 u4 u5 u6 u7;have t0:=Qb M.out 0 _ Z;have t1:=Qb M.out 1 _ Z;have t2:=Qb M.out 2 _ Z;have t3:=Qb M.out 3 _ Z;have t4:=Qb M.out 4 _ Z;have t5:=Qb M.out 5 _ Z;have t6:=Qb M.out 6 _ Z;have t7:=Qb M.out 7 _ Z;go_wp2_with fail
  refine CI.out.mono ?_;rintro e9 W ⟨rfl,a1,b9⟩;have S9:=Qa a1;have V:Hid (Below o.heap.size o W):=B4.out.trans b9;clear t0 t1 t2 t3 t4 t5 t6 t7 CI M B4 a1 b9;by_cases F:((JSt.start m fn g).upto (g.code.take z)).code x=0
  ·have E:Hid (((JSt.start m fn g).upto (g.code.take z)).ins x=(JSt.start m fn g).upto (g.code.take (z+1))):=by
    show _=_;rw[XV,am.out]
    show _=(JSt.start m fn g).upto (g.code.take z++[x]);rw[JSt.upto_snoc]
    unfold JSt.ins;rw[Xs F]
   have a9:=Qa F;rw[F]
   clear F;go_wp2_with fail
   go_roundw
   case rel =>
    refine⟨z+1,by omega,by go_num,by rw[<-E.out];exact S9.out,V.out,fun j y hj hy=>?_⟩
    by_cases bg:j<z
    ·exact P.out j y bg hy
    ·have:j=z:=by omega
     subst this;rw[am.out] at hy
     cases hy
     exact a9.out
   case measure=>simp[intOf];omega
  ·have E:Hid (QA (10000*(f:Int)+100*(b:Int)) g.fin (JSt.start m fn g) 0 g.code=(((JSt.start m fn g).upto (g.code.take z)).code x,10000*(f:Int)+100*(b:Int)+(z:Int))):=Qfd am.out P.out F;clear S9;generalize ((JSt.start m fn g).upto (g.code.take z)).code x=D at E F |-;have aq:(D != 0)=true:=by simpa using F
   have CA:=Qa (QdL (f:=f) (b:=b) (i:=z) (w:=W) ⟨by omega,by omega,by omega⟩);unfold Rd at CA;go_wp2_with fail
   refine CA.out.mono ?_;rintro be d ⟨rfl,Q⟩;have I:Hid (Below o.heap.size o d):=V.out.trans (Q.mono V.out.size);clear Q V CA;generalize 10000*(f:Int)+100*(b:Int)+(z:Int)=K at E |-;have t:Hid (Blk d R #[Iv 0,Iv 0] 32):=Blk.below BR.out I.out;have r0:=Qb t.out 0 _ Z;have r1:=Qb t.out 1 _ Z;have z0:=Qj t.out 0;have z1:=Qj t.out 1;have T:Hid (Blk ((d.setCell ⟨R,0,none⟩ (Iv D)).setCell ⟨R,1,none⟩ (Iv K)) R #[Iv D,Iv K] 32):=Zu t.out _ _;have BL:Hid (Below w.heap.size w ((d.setCell ⟨R,0,none⟩ (Iv D)).setCell ⟨R,1,none⟩ (Iv K))):=((U.out.trans (I.out.mono U.out.size)).setCell G.out _).setCell G.out _;go_wp2_with fail
   generalize (d.setCell ⟨R,0,none⟩ (Iv D)).setCell ⟨R,1,none⟩ (Iv K)=av at T BL |-;have e0:=Qb T.out 0 _ Z;have e1:=Qb T.out 1 _ Z;exact Xy (v:=.agg #[Iv D,Iv K]) (by simp[results,results108,go_sem,e0,e1]) Z ⟨by rw[E.out],BL.out⟩
structure Qbs {α:Type}(A:Lay α) (e:TypeId) (w:World) (a0 lo:Nat) (v:Value) (l:List α) (xs:List Value):Prop where
 own:w.ownsRow lo e A.size v l.length xs
 kids:∀ (i:Nat) (x:α),l[i]?=some x->A.In w (fun g=>(g<a0\/lo<=g)/\v.ownBlock≠some g) x ((xs.drop (i*A.size)).take A.size)
section
variable {α:Type}{A:Lay α}{e:TypeId}{w w':World}{a0 lo:Nat}{v:Value}{l:List α}{xs:List Value}
theorem Qbs.nil (A:Lay α) (e:TypeId) (w:World) (a0 lo:Nat):Qbs A e w a0 lo (Nv) [] []:=⟨⟨by simp,Or.inl ⟨Z,Z⟩⟩,fun i x h=>by simp at h⟩
theorem Qbs.lo_le (h:Qbs A e w a0 lo v l xs)(a:v.ownBlock=some g):lo<=g/\g<w.heap.size:=by
 obtain⟨⟨m,i⟩,j⟩:=h
 rcases i with ⟨rfl,n⟩|⟨k,f,d,rfl,b,c,r⟩
 ·simp[Value.ownBlock] at a
 ·simp[Value.ownBlock] at a;subst a;exact⟨b,XC c⟩
theorem Qbs.form (h:Qbs A e w a0 lo v l xs):∃ a c,v=.slice a l.length c:=by
 obtain⟨⟨k,i⟩,j⟩:=h
 rcases i with ⟨rfl,d⟩|⟨g,f,b,rfl,r⟩
 ·exact⟨none,0,by rw[d]⟩
 ·exact⟨_,_,Z⟩
theorem Qbs.keep (h:Qbs A e w a0 lo v l xs) (c:∀ k,k<w.heap.size->(k<a0\/lo<=k)->w'.heap[k]?=w.heap[k]?):Qbs A e w' a0 lo v l xs:=by
 obtain⟨⟨o,s⟩,j⟩:=h
 refine⟨⟨o,?_⟩,fun i x n=>A.keep (fun k m p=>c k p m.1) (fun _ h _=>h) (j i x n)⟩
 rcases s with q | ⟨g,b,a,e,f,d,r⟩
 ·exact Or.inl q
 ·exact Or.inr ⟨g,b,a,e,f,(c g (XC d) (.inr f)).trans d,r⟩
theorem Qbs.below (h:Qbs A e w a0 lo v l xs) (b:Below w.heap.size w w'):Qbs A e w' a0 lo v l xs:=h.keep fun k a _=>b.block k a
theorem Qbs.setOther (h:Qbs A e w a0 lo v l xs){p:Addr}(c:a0<=p.block/\p.block<lo) (y:Value):Qbs A e (w.setCell p y) a0 lo v l xs :=
 h.keep fun k a b=>Xd _ _ _ _ (by omega)
theorem Qbs.lay (h:Qbs A e w a0 lo v l xs):A.list.In w (fun g=>g<a0\/lo<=g) l [v]:=by
 obtain⟨⟨B,y⟩,o⟩:=h
 rcases y with ⟨rfl,q⟩|⟨g,b,a,rfl,s,f,t,z,C,u⟩
 ·have:l=[]:=Xf.1 q
  subst this;exact Yg A _ _ _ _
 ·refine⟨some ⟨g,0,none⟩,b,Z,fun i x m=>⟨g,0,_,Z,.inr s,XC f,fun j r=>?_,Yc (o i x m) (fun k n _=>n.1)⟩⟩
  have p:i<l.length:=(Zi m).1
  have d:i*A.size+j<l.length*A.size:=by
   have:(i+1)*A.size<=l.length*A.size:=Xp _ p
   rw[Nat.add_mul] at this
   omega
  rw[XR,Xs r,List.getElem?_drop,<-u,XR,Xs d,XK]
  have c:i*A.size+j<a.size:=by
   have:l.length*A.size<=b*A.size:=Xp _ t
   omega
  rw[Array.getElem?_toList]
  exact(Qb f _ a[i*A.size+j] (Xj c)).trans (Xj c).symm
theorem Qbs.push (h:Qbs A e w a0 lo v l xs) (C:a0<=w.heap.size){x:α}(o:A.In w (fun g=>(g<a0\/lo<=g)/\v.ownBlock≠some g) x ds)
  (B:w.grownBy w' v.ownBlock) (m:v.ownBlock=some g\/g=w.heap.size)
 (t:w'.ownsRow lo e A.size (.slice (some ⟨g,0,none⟩) (l.length+1) cap) (l.length+1) (xs++ds)) :
 Qbs A e w' a0 lo (.slice (some ⟨g,0,none⟩) (l.length+1) cap) (l++[x]) (xs++ds):=by
 obtain⟨z,s⟩:=h
 have j:=z.1;have r:=A.len o
 have b:∀ {y:α} {es:List Value},A.In w (fun g=>(g<a0\/lo<=g)/\v.ownBlock≠some g) y es->A.In w' (fun d=>(d<a0\/lo<=d)/\(Value.slice (some ⟨g,0,none⟩) (l.length+1) cap).ownBlock≠some d) y es:=fun a=>by
  refine A.keep (fun k c p=>?_) (fun k c p=>⟨c.1,?_⟩) a
  ·exact B.block k p (fun e=>c.2 e.symm)
  ·simp only[Value.ownBlock,ne_eq,Option.some.injEq]
   intro e;subst e;rcases m with q | q
   ·exact c.2 q
   ·omega
 refine⟨by rw[List.length_append];exact t,fun i y a=>?_⟩
 rw[List.getElem?_append] at a
 split at a
 ·rename_i n
  have u:(i+1)*A.size<=l.length*A.size:=Xp _ n;rw[Nat.add_mul] at u
  have:=s i y a
  rw[List.drop_append_of_le_length (by omega),List.take_append_of_le_length (by simp;omega)]
  exact b this
 ·rename_i n
  have f:i=l.length:=by
   have:=(Zi a).1
   simp at this
   omega
  subst f;simp at a
  subst a;rw[List.drop_append,List.drop_of_length_le (by omega),<-j,Nat.sub_self,List.drop_zero,List.nil_append,XO (by omega)]
  exact b o
end
theorem Qnv {b:List Value}(h:b.all (·.oneCell')=true):∀ u∈b,u.oneCell'=true:=Xe.1 h
theorem ret_end :endL.In w O retE [Iv 3,Iv 0,Iv 0,Nv,Nv,Iv 0,Nv,Nv,Nv]:=by
 have a:intsL.In w O ([]:List Int) [Nv]:=Yg _ _ _ _ _;have b:toL.In w O (⟨0,[],[]⟩:MTo) [Iv 0,Nv,Nv]:=⟨[_],_,Z,⟨Z,by decide⟩,[_],_,Z,a,a⟩;exact⟨[_],_,Z,⟨Z,by simp[retE]⟩,[_],_,Z,⟨Z,by simp[retE]⟩,[_,_,_],_,Z,b,[_,_,_],_,Z,b,a⟩
theorem QhX {g:MBlock 6}{f:Option Addr}{e:Nat}(h:(Qo 6).In w O g.params [.slice f g.params.length e]) (i:-9223372036854775808<=g.regs/\g.regs<=9223372036854775807):(Zp 6).In w O g.outl [Iv g.regs,.slice f g.params.length e,Nv,Iv 3,Iv 0,Iv 0,Nv,Nv,Iv 0,Nv,Nv,Nv] :=
 QgB (x:=g.outl) (a:=f) (c:=e) (b:=none) (d:=0) h (Yg _ _ _ _ _) ret_end i
theorem QiH {m:List (MBlock 6)}(h:(Zp 6).list.In w Q m [.slice p n c]){g:MBlock 6}(d:m[k]?=some g):-9223372036854775808<=g.regs/\g.regs<=9223372036854775807:=by
 obtain⟨j,u,o,z,e,q,y,a⟩:=Yf h d
 obtain⟨t,x,r,f,v,rfl,l,s,i,b⟩:=Qb9 a
 exact b
theorem Qgt {α β:Type}{f:α->β}{l:List α}{x:α}(h:l[k]?=some x):(l.take (k+1)).map f=(l.take k).map f++[f x]:=by
 rw[XV,h];simp
theorem Qi3 {m:List (MFunc 6)}(hm:(QaM 6).In w All m [.slice p m.length c]) (az:Qbe m) :
 Calls prog 107 #[.agg #[.slice p m.length c]] w fun e w'=>∃ a c',e=.returned (.agg #[.slice a m.length c'])/\(QaM 6).In w' All (outl m) [.slice a m.length c']/\Below w.heap.size w w':=by
 have HM:=Qa hm;have ca:=Qa az;have cn:m.length<=100000:=az.1;obtain⟨iB,cd,bw,a6,a9⟩:=pInfoB
 obtain⟨iF,ci,bi,bl,bf⟩:=pInfoF
 have b1:=Zd w (.cells #[.slice p m.length c] 24);have b2:=Zd (w.alloc (.cells #[.slice p m.length c] 24)) (.cells #[Nv] 24);have b3:=Zd ((w.alloc (.cells #[.slice p m.length c] 24)).alloc (.cells #[Nv] 24)) (.cells #[Nv] 24)
 have B0:Hid (Below w.heap.size w (((w.alloc (.cells #[.slice p m.length c] 24)).alloc (.cells #[Nv] 24)).alloc (.cells #[Nv] 24))):=by
  have h:=b2.trans (b3.mono b2.size);exact b1.trans (h.mono b1.size)
 have s1:(w.alloc (.cells #[.slice p m.length c] 24)).heap.size=w.heap.size+1:=World.size_alloc ..;have s2:((w.alloc (.cells #[.slice p m.length c] 24)).alloc (.cells #[Nv] 24)).heap.size=w.heap.size+1+1:=(World.size_alloc ..).trans (by rw[s1]);have s3:(((w.alloc (.cells #[.slice p m.length c] 24)).alloc (.cells #[Nv] 24)).alloc (.cells #[Nv] 24)).heap.size=w.heap.size+1+1+1:=(World.size_alloc ..).trans (by rw[s2])
 have BM:Hid (Blk (((w.alloc (.cells #[.slice p m.length c] 24)).alloc (.cells #[Nv] 24)).alloc (.cells #[Nv] 24)) w.heap.size #[.slice p m.length c] 24) :=
  Blk.below (Blk.below (Blk.new w #[.slice p m.length c] 24) b2) b3
 have BR:Hid (Blk (((w.alloc (.cells #[.slice p m.length c] 24)).alloc (.cells #[Nv] 24)).alloc (.cells #[Nv] 24)) (w.heap.size+1) #[Nv] 24):=by
  have:=Blk.below (Blk.new (w.alloc (.cells #[.slice p m.length c] 24)) #[Nv] 24) b3
  rw[s1] at this
  exact this
 have BO:Hid (Blk (((w.alloc (.cells #[.slice p m.length c] 24)).alloc (.cells #[Nv] 24)).alloc (.cells #[Nv] 24)) (w.heap.size+1+1) #[Nv] 24):=by
  have:=Blk.new ((w.alloc (.cells #[.slice p m.length c] 24)).alloc (.cells #[Nv] 24)) #[Nv] 24
  rw[s2] at this
  exact this
 have ax:=Qa s3;clear b1 b2 b3 s1 s2 s3 hm az;go_enter func107,ntmps107
 go_upto_region 2 with fail
 generalize ((w.alloc (.cells #[.slice p m.length c] 24)).alloc (.cells #[Nv] 24)).alloc (.cells #[Nv] 24)=C at B0 BM BR BO ax |-;obtain⟨X,hX⟩:∃ X,X=w.heap.size:=⟨_,Z⟩
 obtain⟨R,hR⟩:∃ R,R=X+1:=⟨_,Z⟩
 obtain⟨t,bj⟩:∃ t,t=R+1:=⟨_,Z⟩
 have P:Hid (w.heap.size<=R/\R<t/\t<C.heap.size):=by have:=ax.out;exact⟨by omega,by omega,by omega⟩
 rw[<-hX] at BM BR BO |-
 rw[<-hR] at BR BO |-
 rw[<-bj] at BO |-
 clear hX hR bj ax;have x0:=Qb BM.out 0 _ Z;go_wp2_with fail
 clear x0;go_loopw [13] (fun i wr=>∃ (k:Nat) (v:Value) (D:List Value),k<=m.length/\i=Iv k/\Blk wr t #[v] 24/\Qbs (ZV 6) 89 wr w.heap.size C.heap.size v ((m.take k).map MFunc.outl) D/\Chg t C wr) (fun i _=>m.length - (intOf i).toNat)
 case atStart=>exact⟨0,_,[],Xb _,Z,BO.out,Qbs.nil _ _ _ _ _,Chg.refl _ _⟩
 case round =>
  obtain⟨k,vF,cF,hk,rfl,bz,r,av⟩:=hrel
  obtain⟨l,ch⟩:∃ l,l=wr:=⟨_,Z⟩
  subst ch;have a3:=Qa bz;have ak:=Qa av;have K:=Qa r;have G:Hid (Below w.heap.size w l):=Chg.last B0.out av (by have:=P.out;omega) B0.out.size;obtain⟨o,d,bg⟩:=r.form
  have ab:((m.take k).map MFunc.outl).length=k:=by simp;omega
  rw[ab] at bg
  subst bg;clear bz r av BO;by_cases a7:k<m.length
  rotate_left
  ·have b0:¬ (k:Int)<m.length:=by omega
   have a5:k=m.length:=by omega
   have y0:=Qb a3.out 0 _ Z;have a2:Hid (Blk l R #[Nv] 24):=BR.out.chg ak.out (by have:=P.out;omega);have r0:=Qb a2.out 0 _ Z;have z0:=Qj a2.out 0
   have RB:Hid (Blk (l.setCell ⟨R,0,none⟩ (.slice o k d)) R #[.slice o k d] 24):=by
    have h9:Blk (l.setCell ⟨R,0,none⟩ (.slice o k d)) R #[.slice o k d] 24:=by
     have:=Qh a2.out 0 (.slice o k d)
     simpa using this
    exact h9
   have BL:Hid (Below w.heap.size w (l.setCell ⟨R,0,none⟩ (.slice o k d))):=G.out.setCell P.out.1 _
   have LY:Hid ((QaM 6).In (l.setCell ⟨R,0,none⟩ (.slice o k d)) All (outl m) [.slice o k d]):=by
    have h:=(K.out.setOther (p:=⟨R,0,none⟩) (by have:=P.out;exact⟨this.1,by show R<_;omega⟩) (.slice o k d)).lay;rw[XO (by omega)] at h
    exact Yc h (fun _ _ _=>trivial)
   have bq:=Qa a5;clear a5 ab;go_wp2_with fail
   generalize l.setCell ⟨R,0,none⟩ (.slice o k d)=cl at RB BL LY |-;have e0:=Qb RB.out 0 _ Z;exact Xy (v:=.agg #[.slice o k d]) (by simp[results,results107,go_sem,e0]) Z ⟨o,d,by rw[bq.out],by rw[<-bq.out];exact LY.out,BL.out⟩
  have b0:(k:Int)<m.length:=by omega
  have ag:m[k]?=some m[k]:=Zg a7;generalize m[k]=f at ag;have ck:=Qa ag;obtain⟨mg,mo,ds,rfl,-,-,ae,bu⟩:=Yf HM.out ag
  obtain⟨B,E,A,z,p3,U,rfl,aq,ao,a4,bs⟩:=Qar bu
  have v0:l.cell? ⟨mg,mo+k*4,none⟩=some (Iv f.regs):=Qk (show w.cell? ⟨mg,mo+k*4,none⟩=_ from ae 0 (by decide)) G.out;have v1:l.cell? ⟨mg,mo+k*4+1,none⟩=some (.slice B f.params.length E):=Qk (show w.cell? ⟨mg,mo+k*4+1,none⟩=_ from ae 1 (by decide)) G.out;have v2:l.cell? ⟨mg,mo+k*4+2,none⟩=some (.slice A f.results.length z):=Qk (show w.cell? ⟨mg,mo+k*4+2,none⟩=_ from ae 2 (by decide)) G.out;have v3:l.cell? ⟨mg,mo+k*4+3,none⟩=some (.slice p3 f.blocks.length U):=Qk (show w.cell? ⟨mg,mo+k*4+3,none⟩=_ from ae 3 (by decide)) G.out;have bx:Hid ((Qo 6).In w (fun g=>g<w.heap.size) f.params [.slice B f.params.length E]):=Yc aq (fun k _ N=>N);have bn:Hid ((Qo 6).In w (fun g=>g<w.heap.size) f.results [.slice A f.results.length z]):=Yc ao (fun k _ N=>N);have bb:Hid ((Zp 6).list.In w (fun g=>g<w.heap.size) f.blocks [.slice p3 f.blocks.length U]):=Yc a4 (fun k _ N=>N);have cj:=Qa bs;have cm:f.blocks.length<=100000:=(ca.out.2 f (Zm ag)).1;have b5:=Zd l (.cells #[Iv f.regs,.slice B f.params.length E,.slice A f.results.length z,.slice p3 f.blocks.length U] 89);have BF:Hid (Blk (l.alloc (.cells #[Iv f.regs,.slice B f.params.length E,.slice A f.results.length z,.slice p3 f.blocks.length U] 89)) l.heap.size #[Iv f.regs,.slice B f.params.length E,.slice A f.results.length z,.slice p3 f.blocks.length U] 89):=Blk.new _ _ _;have bm:Hid (Blk (l.alloc (.cells #[Iv f.regs,.slice B f.params.length E,.slice A f.results.length z,.slice p3 f.blocks.length U] 89)) t #[.slice o k d] 24):=a3.out.below b5;have bo:Hid (Qbs (ZV 6) 89 (l.alloc (.cells #[Iv f.regs,.slice B f.params.length E,.slice A f.results.length z,.slice p3 f.blocks.length U] 89)) w.heap.size C.heap.size (.slice o k d) ((m.take k).map MFunc.outl) cF):=K.out.below b5;have a8:Hid (Chg t C (l.alloc (.cells #[Iv f.regs,.slice B f.params.length E,.slice A f.results.length z,.slice p3 f.blocks.length U] 89))):=ak.out.allocP _;have I:Hid (Below w.heap.size w (l.alloc (.cells #[Iv f.regs,.slice B f.params.length E,.slice A f.results.length z,.slice p3 f.blocks.length U] 89))):=G.out.trans (b5.mono G.out.size);have bv:Hid (∀ g,(Value.slice o k d).ownBlock=some g->C.heap.size<=g/\g<l.heap.size):=fun g hg=>K.out.lo_le hg;have S5:Hid (l.heap.size<(l.alloc (.cells #[Iv f.regs,.slice B f.params.length E,.slice A f.results.length z,.slice p3 f.blocks.length U] 89)).heap.size):=BF.out.lt;have S1:Hid (C.heap.size<=l.heap.size):=ak.out.size;clear ae bu aq ao a4 bs b5 a3 K ak G ag;go_upto_region 5 with fail
  generalize l.alloc (.cells #[Iv f.regs,.slice B f.params.length E,.slice A f.results.length z,.slice p3 f.blocks.length U] 89)=L at BF bm bo a8 I S5 |-;generalize l.heap.size=XF at BF S5 bv S1 |-;clear v0 v1 v2 v3;have t3:=Qb BF.out 3 _ Z;go_wp2_with fail
  clear t3;go_loopw [6,20] (fun v u wq=>∃ (q:Nat) (D:List Value),q<=f.blocks.length/\u=Iv q/\Qbs (Zp 6) 86 wq w.heap.size L.heap.size v ((f.blocks.take q).map MBlock.outl) D/\Below L.heap.size L wq) (fun _ u _=>f.blocks.length - (intOf u).toNat)
  case atStart=>exact⟨0,[],Xb _,Z,Qbs.nil _ _ _ _ _,Zr⟩
  case round =>
   obtain⟨q,cB,hq,rfl,r,b9⟩:=hrel
   obtain⟨wq,cc⟩:∃ wq,wq=wr:=⟨_,Z⟩
   subst cc;have ah:=Qa r;have BQ:=Qa b9;obtain⟨T,V,bd⟩:=r.form
   have an:((f.blocks.take q).map MBlock.outl).length=q:=by simp;omega
   rw[an] at bd
   subst bd;clear r b9;by_cases b4:q<f.blocks.length
   rotate_left
   ·have ar:¬ (q:Int)<f.blocks.length:=by omega
    have cb:q=f.blocks.length:=by omega
    subst cb;have am:Hid (Blk wq t #[.slice o k d] 24):=bm.out.below BQ.out;have aj:Hid (Blk wq XF #[Iv f.regs,.slice B f.params.length E,.slice A f.results.length z,.slice p3 f.blocks.length U] 89):=BF.out.below BQ.out;have ay:Hid (Qbs (ZV 6) 89 wq w.heap.size C.heap.size (.slice o k d) ((m.take k).map MFunc.outl) cF):=bo.out.below BQ.out;have a0:Hid (Chg t C wq):=a8.out.trans (Chg.below BQ.out);have H:Hid (Below w.heap.size w wq):=I.out.trans (BQ.out.mono I.out.size)
    have FN:Hid ((ZV 6).In wq (fun g=>(g<w.heap.size\/C.heap.size<=g)/\(Value.slice o k d).ownBlock≠some g) f.outl [Iv f.regs,.slice B f.params.length E,.slice A f.results.length z,.slice T f.blocks.length V]):=by
     have o1:=bv.out;have o2:=S5.out;have o3:=P.out;have o4:=S1.out;have bk:f.outl.blocks.length=f.blocks.length:=Qgy f;have hb:=ah.out.lay;rw[XO Ze] at hb
     have cf:(Zp 6).list.In wq (fun g=>(g<w.heap.size\/C.heap.size<=g)/\(Value.slice o k d).ownBlock≠some g) f.outl.blocks [.slice T f.outl.blocks.length V]:=by
      rw[bk]
      exact Yc hb (fun j hj N=>⟨by rcases hj with hj | hj;exact .inl hj;exact .inr (by omega),fun e=>by have:=o1 j e;rcases hj with hj | hj<;>omega⟩)
     have:=QiU (x:=f.outl) (Yc (Ya bx.out H.out) (fun j hj N=>⟨.inl hj,fun e=>by have:=o1 j e;omega⟩)) (Yc (Ya bn.out H.out) (fun j hj N=>⟨.inl hj,fun e=>by have:=o1 j e;omega⟩)) cf cj.out
     rw[bk] at this
     exact this
    have F:Hid (wq.ownsRow C.heap.size 89 4 (.slice o k d) k cF):=by
     have:=ay.out.own
     rw[ab] at this
     exact this
    have PU:Hid (∀ g n y,y.ownsRow C.heap.size 89 4 (.slice (some ⟨g,0,none⟩) (k+1) n) (k+1) (cF++[Iv f.regs,.slice B f.params.length E,.slice A f.results.length z,.slice T f.blocks.length V])->(wq.alloc (.cells #[Iv f.regs,.slice B f.params.length E,.slice A f.results.length z,.slice T f.blocks.length V] 89)).grownBy y (Value.slice o k d).ownBlock->((Value.slice o k d).ownBlock=some g\/g=wq.heap.size+1) ->
     Qbs (ZV 6) 89 (y.setCell ⟨t,0,none⟩ (.slice (some ⟨g,0,none⟩) (k+1) n)) w.heap.size C.heap.size (.slice (some ⟨g,0,none⟩) (k+1) n) ((m.take (k+1)).map MFunc.outl) (cF++[Iv f.regs,.slice B f.params.length E,.slice A f.results.length z,.slice T f.blocks.length V])/\Blk y t #[.slice o k d] 24/\Chg t C (y.setCell ⟨t,0,none⟩ (.slice (some ⟨g,0,none⟩) (k+1) n))/\Blk (y.setCell ⟨t,0,none⟩ (.slice (some ⟨g,0,none⟩) (k+1) n)) t #[.slice (some ⟨g,0,none⟩) (k+1) n] 24):=by
     intro g n y h1 h2 h3;have b6:Below wq.heap.size wq (wq.alloc (.cells #[Iv f.regs,.slice B f.params.length E,.slice A f.results.length z,.slice T f.blocks.length V] 89)):=Zd _ _;have A5:=ay.out.below b6;have T5:=Ya FN.out b6;have o3:=P.out;have A9:=Qbs.push A5 (by have:=(H.out.trans (b6.mono H.out.size)).size;exact this) T5 h2 (by simpa using h3) (by rw[ab];exact h1);rw[ab,<-Qgt ck.out] at A9
     have C9:Chg t C y:=Chg.grownP (a0.out.trans (Chg.below b6)) h2 (fun k hk=>(A5.lo_le hk).1);have K9:Blk y t #[.slice o k d] 24:=((h2.block t (Zl am.out.lt b6.size) (fun e=>by have:=(A5.lo_le e.symm).1;omega)).trans (am.out.below b6));refine⟨A9.setOther ⟨by show w.heap.size<=t;omega,by show t<_;omega⟩ _,K9,C9.trans (Chg.set _ _ _ K9.lt),?_⟩
     have:=Qh K9 0 (.slice (some ⟨g,0,none⟩) (k+1) n)
     simpa using this
    have ce:C.heap.size<=wq.heap.size:=a0.out.size;have y0:=Qb am.out 0 _ Z;have f0:=Qb aj.out 0 _ Z;have f1:=Qb aj.out 1 _ Z;have f2:=Qb aj.out 2 _ Z;clear am aj ay a0 H FN ah BQ;generalize f.params.length=lp at PU f1 |-;generalize f.results.length=lr at PU f2 |-;generalize f.blocks.length=lb at PU ar f0 f1 f2 |-;generalize f.regs=rr at PU f0 |-;go_wp2_with (at_builtin;refine wpList_append_lies _ Z (.tmp 35) (.tmp 44) 22 Z C.heap.size 89 iF (.agg #[Iv 0,Nv,Nv,Nv]) 4 80 pUnderF ci bi bl bf Z (by decide) _ _ _ Z (F.out.alloc _) ⟨wq.heap.size,0,none⟩ 1 1 [Iv rr,.slice B lp E,.slice A lr z,.slice T lb V] Z Z (Qk3 _ [_,_,_,_] _) (Qnv Z) (by decide) (by unfold maxLen;omega) (by omega) (by simp;omega) (wq.heap.size+1) (by simp) ?_)
    intro g2 ac y h1 s af ad;obtain⟨q1,q2,q3,q4⟩:=PU.out g2 ac y h1 s af
    have A9:=Qa q1;have K9:=Qa q2;have C9:=Qa q3;have N9:=Qa q4;have y9:=Qb q2 0 _ Z;have z9:=Qj q2 0;clear h1 s af ad F PU q1 q2 q3 q4 y0 f0 f1 f2;go_wp2
    go_roundw
    case rel=>exact⟨k+1,_,_,a7,by go_num,N9.out,A9.out,C9.out⟩
    case measure=>simp[intOf];omega
   have ar:(q:Int)<f.blocks.length:=by omega
   have aa:f.blocks[q]?=some f.blocks[q]:=Zg b4;generalize f.blocks[q]=g at aa;have cg:=Qa aa;have be:=Qa (QiH bb.out aa);obtain⟨eg,eo,W,S,es,rfl,M,bt,bp,ap⟩:=Qbm bb.out aa
   have br:=Qa bp;have H:Hid (Below w.heap.size w wq):=I.out.trans (BQ.out.mono I.out.size);have au:Hid (wq.rangeAt eg (eo+q*12) (Value.int .i64 g.regs::Value.slice W g.params.length S::es)):=Qad M H.out;generalize al:(Value.int .i64 g.regs::Value.slice W g.params.length S::es)=D at au;have N:D.length=12:=by rw[<-al];simp[bt]
   have TS:Hid ((prog.info? 86).map (·.size)=some D.length):=by show _=_;rw[N];exact pSizeB
   have TH:Hid ((wq.alloc (.cells #[Iv 0,Nv,Nv,Iv 0,Iv 0,Iv 0,Nv,Nv,Iv 0,Nv,Nv,Nv] 86)).there wq.heap.size 0 D.toArray.size):=by
    intro j hj;rw[List.size_toArray,N] at hj
    rw[XK]
    have hB:=Qe wq #[Iv 0,Nv,Nv,Iv 0,Iv 0,Iv 0,Nv,Nv,Iv 0,Nv,Nv,Nv] 86;refine⟨?_,Qj hB j⟩
    rw[Qb hB j ((#[Iv 0,Nv,Nv,Iv 0,Iv 0,Iv 0,Nv,Nv,Iv 0,Nv,Nv,Nv]:Array Value)[j]'hj) (by simp)];rfl
   have bh:Hid ((prog.info? 86).map (·.size)=some D.toArray.size):=by show _=_;rw[List.size_toArray];exact TS.out
   have TO:Hid (D.toArray.all (·.oneCell')=true):=by
    refine all_oneCell_toArray fun v hv=>?_;rw[<-al] at hv
    rcases List.mem_cons.1 hv with rfl | hv
    ·rfl
    rcases List.mem_cons.1 hv with rfl | hv
    ·rfl
    exact ap v hv
   have B6:Hid (Blk ((wq.alloc (.cells #[Iv 0,Nv,Nv,Iv 0,Iv 0,Iv 0,Nv,Nv,Iv 0,Nv,Nv,Nv] 86)).setCells wq.heap.size 0 D.toArray.toList) wq.heap.size (Value.int .i64 g.regs::Value.slice W g.params.length S::es).toArray 86):=by
    have h0:Blk (wq.alloc (.cells #[Iv 0,Nv,Nv,Iv 0,Iv 0,Iv 0,Nv,Nv,Iv 0,Nv,Nv,Nv] 86)) wq.heap.size ([]++(#[Iv 0,Nv,Nv,Iv 0,Iv 0,Iv 0,Nv,Nv,Iv 0,Nv,Nv,Nv]:Array Value).toList).toArray 86:=Qe wq _ _;rw[al]
    exact Blk.sets D [] (#[Iv 0,Nv,Nv,Iv 0,Iv 0,Iv 0,Nv,Nv,Iv 0,Nv,Nv,Nv]:Array Value).toList _ (by rw[N];rfl) h0
   have b6:Hid (Below wq.heap.size wq ((wq.alloc (.cells #[Iv 0,Nv,Nv,Iv 0,Iv 0,Iv 0,Nv,Nv,Iv 0,Nv,Nv,Nv] 86)).setCells wq.heap.size 0 D.toArray.toList)):=by
    have:=Qz.setCells (O:=fun k=>k=wq.heap.size) (O':=fun k=>k=wq.heap.size) (b:=wq.heap.size) Z D.toArray.toList 0 _ (Qz.refl _ (wq.alloc (.cells #[Iv 0,Nv,Nv,Iv 0,Iv 0,Iv 0,Nv,Nv,Iv 0,Nv,Nv,Nv] 86)))
    exact(Zd wq _).trans (this.below (by simp) (fun k hk=>by omega))
   clear N al M bt bp ap aa;go_upto_region 9 with (first | (refine wpList_load_mid Z 86 (.tmp 22) Z eg (eo+q*12) Z D _ au.out underlying86 Z TS.out ?_) | (refine wpList_store_mid Z 86 (.tmp 8) (.tmp 23) Z wq.heap.size 0 D.toArray Z Z TH.out bh.out TO.out ?_))
   have B7:Hid (Blk ((wq.alloc (.cells #[Iv 0,Nv,Nv,Iv 0,Iv 0,Iv 0,Nv,Nv,Iv 0,Nv,Nv,Nv] 86)).setCells wq.heap.size 0 D) wq.heap.size (Value.int .i64 g.regs::Value.slice W g.params.length S::es).toArray 86):=B6.out;have b7:Hid (Below wq.heap.size wq ((wq.alloc (.cells #[Iv 0,Nv,Nv,Iv 0,Iv 0,Iv 0,Nv,Nv,Iv 0,Nv,Nv,Nv] 86)).setCells wq.heap.size 0 D)):=b6.out;clear B6 b6 TH TS bh TO au;generalize (wq.alloc (.cells #[Iv 0,Nv,Nv,Iv 0,Iv 0,Iv 0,Nv,Nv,Iv 0,Nv,Nv,Nv] 86)).setCells wq.heap.size 0 D=J at B7 b7 |-;have ai:Hid (Qbs (Zp 6) 86 J w.heap.size L.heap.size (.slice T q V) ((f.blocks.take q).map MBlock.outl) cB):=ah.out.below b7.out;have Q:Hid (Below L.heap.size L J):=BQ.out.trans (b7.out.mono BQ.out.size);generalize wq.heap.size=Bx at B7 b7 |-;have g0:J.cell? ⟨Bx,0,none⟩=some (Iv g.regs):=Qb B7.out 0 _ Z;have g1:J.cell? ⟨Bx,1,none⟩=some (.slice W g.params.length S):=Qb B7.out 1 _ Z
   have F:Hid (J.ownsRow L.heap.size 86 12 (.slice T q V) q cB):=by
    have:=ai.out.own
    rw[an] at this
    exact this
   have PU:Hid (∀ gg n y,y.ownsRow L.heap.size 86 12 (.slice (some ⟨gg,0,none⟩) (q+1) n) (q+1) (cB++[Iv g.regs,.slice W g.params.length S,Nv,Iv 3,Iv 0,Iv 0,Nv,Nv,Iv 0,Nv,Nv,Nv])->(J.alloc (.cells #[Iv g.regs,.slice W g.params.length S,Nv,Iv 3,Iv 0,Iv 0,Nv,Nv,Iv 0,Nv,Nv,Nv] 86)).grownBy y (Value.slice T q V).ownBlock->((Value.slice T q V).ownBlock=some gg\/gg=J.heap.size+1) ->
    Qbs (Zp 6) 86 y w.heap.size L.heap.size (.slice (some ⟨gg,0,none⟩) (q+1) n) ((f.blocks.take (q+1)).map MBlock.outl) (cB++[Iv g.regs,.slice W g.params.length S,Nv,Iv 3,Iv 0,Iv 0,Nv,Nv,Iv 0,Nv,Nv,Nv])/\Below L.heap.size L y):=by
    intro gg n y h1 h2 h3;have b8:Below J.heap.size J (J.alloc (.cells #[Iv g.regs,.slice W g.params.length S,Nv,Iv 3,Iv 0,Iv 0,Nv,Nv,Iv 0,Nv,Nv,Nv] 86)):=Zd _ _;have A5:=ai.out.below b8;have aw:Below w.heap.size w J:=I.out.trans (Q.out.mono I.out.size);have o5:=I.out.size
    have T5:(Zp 6).In (J.alloc (.cells #[Iv g.regs,.slice W g.params.length S,Nv,Iv 3,Iv 0,Iv 0,Nv,Nv,Iv 0,Nv,Nv,Nv] 86)) (fun k=>(k<w.heap.size\/L.heap.size<=k)/\(Value.slice T q V).ownBlock≠some k) g.outl [Iv g.regs,.slice W g.params.length S,Nv,Iv 3,Iv 0,Iv 0,Nv,Nv,Iv 0,Nv,Nv,Nv] :=
     Ya (QhX (Yc (Ya br.out aw) (fun j hj N=>⟨.inl hj,fun e=>by have:=(ai.out.lo_le e).1;omega⟩)) be.out) b8
    have A9:=Qbs.push A5 ((aw.trans (b8.mono aw.size)).size) T5 h2 (by simpa using h3) (by rw[an];exact h1);rw[an,<-Qgt cg.out] at A9
    exact⟨A9,(Q.out.trans (b8.mono Q.out.size)).grown h2 (Zt Q.out.size b8.size) (fun k hk=>(A5.lo_le hk).1)⟩
   have ce:L.heap.size<=J.heap.size:=Q.out.size;clear B7 b7 ai Q ah BQ H br be;generalize g.params.length=lp at PU g1 |-;generalize g.regs=rr at PU g0 |-;go_wp2_with (at_builtin;refine wpList_append_lies _ Z (.tmp 24) (.tmp 31) 87 Z L.heap.size 86 iB (.agg #[Iv 0,Nv,Nv,Iv 0,Iv 0,Iv 0,Nv,Nv,Iv 0,Nv,Nv,Nv]) 12 208 pUnderB cd bw a6 a9 Z (by decide) _ _ _ Z (F.out.alloc _) ⟨J.heap.size,0,none⟩ 1 1 [Iv rr,.slice W lp S,Nv,Iv 3,Iv 0,Iv 0,Nv,Nv,Iv 0,Nv,Nv,Nv] Z Z (Qk3 _ [_,_,_,_,_,_,_,_,_,_,_,_] _) (Qnv Z) (by decide) (by unfold maxLen;omega) (by omega) (by simp;omega) (J.heap.size+1) (by simp) ?_)
   intro g2 ac y h1 s af ad;obtain⟨q1,q2⟩:=PU.out g2 ac y h1 s af
   have A9:=Qa q1;have C9:=Qa q2;clear h1 s af ad F PU q1 q2 g0 g1;go_wp2
   go_roundw
   case rel=>exact⟨q+1,_,b4,by go_num,A9.out,C9.out⟩
   case measure=>simp[intOf];omega
def Qc6 (n:Nat):Lay (MBlock n):=(Lay.int.pair ((Qo n).pair (insC.list.pair endL))).via (fun x=>(x.regs,x.params,x.code,x.fin))
def QlH (n:Nat):Lay (MFunc n):=(Lay.int.pair ((Qo n).pair ((Qo n).pair (Qc6 n).list))).via (fun x=>(x.regs,x.params,x.results,x.blocks))
abbrev QjP (n:Nat):Lay (List (MFunc n)):=(QlH n).list
theorem Qg3 (n:Nat):Lay.Sub (Qc6 n) (Zp n):=.via (.pair (.refl _) (.pair (.refl _) (.pair (.list ins_sub) (.refl _)))) _
theorem Qil (n:Nat):Lay.Sub (QlH n) (ZV n):=.via (.pair (.refl _) (.pair (.refl _) (.pair (.refl _) (.list (Qg3 n))))) _
theorem QbB (n:Nat):Lay.Sub (QjP n) (QaM n):=.list (Qil n)
theorem Qhl (n:Nat):Lay.Sub (Qbf n) (Qc6 n):=.via (.pair (.refl _) (.pair (.refl _) (.pair (.refl _) end_sub))) _
theorem Qig (n:Nat):Lay.Sub (QeH n) (QlH n):=.via (.pair (.refl _) (.pair (.refl _) (.pair (.refl _) (.list (Qhl n))))) _
theorem Qgk (n:Nat):Lay.Sub (QiG n) (QjP n):=.list (Qig n)
section
variable {w:World}{O:Nat->Prop}{n:Nat}
theorem Qjj {x:Qt}{b:Option Addr}(g:intsC.In w O x.regs [.slice a x.regs.length c]) (f:intsC.In w O x.args [.slice b x.args.length d]) (e:I64 x.op/\I64 x.a/\I64 x.b/\I64 x.c/\I64 x.k/\I64 x.n):insC.In w O x [Iv x.op,Iv x.a,Iv x.b,Iv x.c,Iv x.k,Iv x.n,.slice a x.regs.length c,.slice b x.args.length d] :=
 ⟨[_],_,Z,⟨Z,e.1⟩,[_],_,Z,⟨Z,e.2.1⟩,[_],_,Z,⟨Z,e.2.2.1⟩,[_],_,Z,⟨Z,e.2.2.2.1⟩,[_],_,Z,⟨Z,e.2.2.2.2.1⟩,[_],_,Z,⟨Z,e.2.2.2.2.2⟩,[_],_,Z,g,f⟩
end
theorem XI:type_of% @Below.setCell:=@Below.setCell
theorem Qfm {m:List (MBlock 6)}(h:(Qc6 6).list.In w Q m [.slice p n c]){g:MBlock 6}(q:m[k]?=some g) :
 ∃ mg mo a1 c1 a2 c2 e,p=some ⟨mg,mo,none⟩/\w.rangeAt mg (mo+k*12) (Iv g.regs::.slice a1 g.params.length c1::.slice a2 g.code.length c2::(QbW g.fin e).toList)/\insC.list.In w Q g.code [.slice a2 g.code.length c2]/\Qdn w Q g.fin e/\(-9223372036854775808<=g.fin.a/\g.fin.a<=9223372036854775807):=by
 obtain⟨mg,mo,u,s,t,x,r,_,_,rfl,⟨rfl,_⟩,_,_,rfl,i,_,_,rfl,f,o⟩:=Yf h q
 obtain⟨a1,c1,rfl,i⟩:=QK i
 obtain⟨a2,c2,rfl,f⟩:=QK f
 obtain⟨e,rfl,b⟩:=Qeh o
 refine⟨mg,mo,a1,c1,a2,c2,e,s,fun j v l=>?_,f,⟨b.yes.regs,b.yes.args,b.no.regs,b.no.args,b.args⟩,b.bnd.2⟩
 have d:j<12:=(Zi l).1
 have:=r j d
 rw[show (Qc6 6).size=12 from Z] at this
 rw[this]
 exact l
structure VcS (w wr:World) (X R A4:Nat) (pm pa:Option Addr) (cm ca:Nat) (m:List (MFunc 6)):Prop where
 bel:Below w.heap.size w wr
 x:Blk wr X #[.slice pm m.length cm] 24
 r:Blk wr R #[Iv 0,Iv 0] 32
 a:Blk wr A4 #[.slice pa m.length ca] 24
 om:(QaM 6).In wr All (outl m) [.slice pa m.length ca]
theorem VcS.below {wr:World}{b:Nat}{m:List (MFunc 6)}(h:VcS w wr X R b pm pa cm ca m) (k:Below wr.heap.size wr w'):VcS w w' X R b pm pa cm ca m :=
 ⟨h.bel.trans (k.mono h.bel.size),h.x.below k,h.r.below k,h.a.below k,Ya h.om k⟩
theorem Qcg {m:List (MFunc n)}(G:(QaM n).In w All m [.slice p m.length c]) (q:Qbe m) (d:(modFault m).1≠0) :
 Calls prog 66 #[.agg #[.slice p m.length c]] w fun e w'=>e=.returned (QG (modFault m))/\Below w.heap.size w w':=by
 have M:=Qa G;have z:=Qa q;have A:=Zd w (.cells #[.slice p m.length c] 24);have h:=Zd (w.alloc (.cells #[.slice p m.length c] 24)) (.cells #[Iv 0,Iv 0] 32);have j:Hid (Below w.heap.size w ((w.alloc (.cells #[.slice p m.length c] 24)).alloc (.cells #[Iv 0,Iv 0] 32))):=A.trans (h.mono A.size);have l:Hid (Blk ((w.alloc (.cells #[.slice p m.length c] 24)).alloc (.cells #[Iv 0,Iv 0] 32)) w.heap.size #[.slice p m.length c] 24):=Blk.new1 ..;have s:Hid (Blk ((w.alloc (.cells #[.slice p m.length c] 24)).alloc (.cells #[Iv 0,Iv 0] 32)) (w.heap.size+1) #[Iv 0,Iv 0] 32):=Blk.new2 ..;clear A h G q;go_enter func66,ntmps66
 go_upto_region 1 with fail
 generalize (w.alloc (.cells #[.slice p m.length c] 24)).alloc (.cells #[Iv 0,Iv 0] 32)=w1 at j l s |-;obtain⟨X,J⟩:∃ X,X=w.heap.size:=⟨_,Z⟩
 obtain⟨R,F⟩:∃ R,R=X+1:=⟨_,Z⟩
 have k:Hid (w.heap.size<=R):=by show _<=_;omega
 rw[<-J] at l s |-
 rw[<-F] at s |-
 clear J F;have K:=Qb l.out 0 _ Z;have B:=Qa (Qca (Ya M.out j.out) z.out);unfold Rd at B;go_wp2_with fail
 refine B.out.mono ?_;rintro Q f ⟨rfl,h⟩;obtain⟨a,b,g⟩:∃ a b,modFault m=(a,b):=⟨_,_,Z⟩
 have r:Hid (modFault m=(a,b)):=g;rw[g]
 clear g;have y:=h.trans ((Zd f (.cells #[Iv a,Iv b] 32)).mono h.size);have C:Hid (Blk (f.alloc (.cells #[Iv a,Iv b] 32)) X #[.slice p m.length c] 24):=l.out.below y;have i:Hid (Blk (f.alloc (.cells #[Iv a,Iv b] 32)) R #[Iv 0,Iv 0] 32):=s.out.below y;have t:Hid (Below w.heap.size w (f.alloc (.cells #[Iv a,Iv b] 32))):=j.out.trans (y.mono j.out.size);have x:Hid (Blk (f.alloc (.cells #[Iv a,Iv b] 32)) f.heap.size #[Iv a,Iv b] 32):=Blk.new _ _ _;simp only[QG]
 clear h y B K l s j;go_upto_region 2 with fail
 generalize f.alloc (.cells #[Iv a,Iv b] 32)=u at C i t x |-;generalize f.heap.size=S at x |-
 have H:(a != 0)=true:=by
  have:a≠0:=by rw[r.out] at d;exact d
  simpa using this
 clear d;have T:=Qb x.out 0 _ Z;have W:=Qb x.out 1 _ Z;have E:Hid (modFault m=(a,b)):=r.out;have o:Hid (Blk u R #[Iv 0,Iv 0] 32):=i.out;have V:=Qb o.out 0 _ Z;have r1:=Qb o.out 1 _ Z;have U:=Qj o.out 0;have P:=Qj o.out 1;have D:Hid (Blk ((u.setCell ⟨R,0,none⟩ (Iv a)).setCell ⟨R,1,none⟩ (Iv b)) R #[Iv a,Iv b] 32):=Zu o.out _ _;have I:Hid (Below w.heap.size w ((u.setCell ⟨R,0,none⟩ (Iv a)).setCell ⟨R,1,none⟩ (Iv b))):=(XI t.out (p:=⟨R,0,none⟩) k.out _).setCell (p:=⟨R,1,none⟩) k.out _;go_wp2_with fail
 generalize (u.setCell ⟨R,0,none⟩ (Iv a)).setCell ⟨R,1,none⟩ (Iv b)=L at D I |-;have N:=Qb D.out 0 _ Z;have O:=Qb D.out 1 _ Z;exact Xy (v:=.agg #[Iv a,Iv b]) (by simp[results,results66,go_sem,N,O]) Z ⟨by rw[E.out],I.out⟩
theorem QbX {m:List (MFunc 6)}(hm:(QjP 6).In w All m [.slice p m.length c]) (aj:Qbe m) (ax:(modFault m).1=0->¬ Qm m) :
 Calls prog 66 #[.agg #[.slice p m.length c]] w fun e w'=>e=.returned (QG (Qq m))/\Below w.heap.size w w':=by
 by_cases hz:(modFault m).1=0
 rotate_left
 ·have e:Qq m=modFault m:=by unfold Qq;rw[Xs hz]
  rw[e]
  exact Qcg ((QbB 6).2 hm) aj hz
 have hg:=ax hz;have HM:=Qa hm;have al:=Qa aj;have HG:=Qa hg;have ak:=Qa hz;have bd:m.length<=20:=Xo fun x=>hg (.inl x);have E0:Hid (Qq m=firstF (Qae m) 0 m):=by show _=_;unfold Qq;rw[Xr (fun h=>h hz)]
 clear hg ax hz;have b1:=Zd w (.cells #[.slice p m.length c] 24);have b2:=Zd (w.alloc (.cells #[.slice p m.length c] 24)) (.cells #[Iv 0,Iv 0] 32);have B0:Hid (Below w.heap.size w ((w.alloc (.cells #[.slice p m.length c] 24)).alloc (.cells #[Iv 0,Iv 0] 32))):=b1.trans (b2.mono b1.size);have BX:Hid (Blk ((w.alloc (.cells #[.slice p m.length c] 24)).alloc (.cells #[Iv 0,Iv 0] 32)) w.heap.size #[.slice p m.length c] 24):=Blk.new1 ..;have BR:Hid (Blk ((w.alloc (.cells #[.slice p m.length c] 24)).alloc (.cells #[Iv 0,Iv 0] 32)) (w.heap.size+1) #[Iv 0,Iv 0] 32):=Blk.new2 ..;clear b1 b2 hm aj;go_enter func66,ntmps66
 go_upto_region 1 with fail
 generalize (w.alloc (.cells #[.slice p m.length c] 24)).alloc (.cells #[Iv 0,Iv 0] 32)=w1 at B0 BX BR |-;obtain⟨X,hX⟩:∃ X,X=w.heap.size:=⟨_,Z⟩
 obtain⟨R,hR⟩:∃ R,R=X+1:=⟨_,Z⟩
 have Q:Hid (w.heap.size<=R):=by show _<=_;omega
 rw[<-hX] at BX BR |-
 rw[<-hR] at BR |-
 clear hX hR;have x0:=Qb BX.out 0 _ Z;have CC:=Qa (Qca (Ya ((QbB 6).2 HM.out) B0.out) al.out);unfold Rd at CC;go_wp2_with fail
 refine CC.out.mono ?_;rintro e2 w2 ⟨rfl,b2⟩;obtain⟨H,M,ad⟩:∃ H M,modFault m=(H,M):=⟨_,_,Z⟩
 have an:Hid (modFault m=(H,M)):=ad;rw[ad]
 clear ad;have b3:=b2.trans ((Zd w2 (.cells #[Iv H,Iv M] 32)).mono b2.size);have U:Hid (Blk (w2.alloc (.cells #[Iv H,Iv M] 32)) X #[.slice p m.length c] 24):=BX.out.below b3;have ag:Hid (Blk (w2.alloc (.cells #[Iv H,Iv M] 32)) R #[Iv 0,Iv 0] 32):=BR.out.below b3;have B:Hid (Below w.heap.size w (w2.alloc (.cells #[Iv H,Iv M] 32))):=B0.out.trans (b3.mono B0.out.size);have F3:Hid (Blk (w2.alloc (.cells #[Iv H,Iv M] 32)) w2.heap.size #[Iv H,Iv M] 32):=Blk.new _ _ _;simp only[QG]
 clear b2 b3 CC x0 BX BR B0;go_upto_region 2 with fail
 generalize w2.alloc (.cells #[Iv H,Iv M] 32)=w3 at U ag B F3 |-;generalize w2.heap.size=F9 at F3 |-;have a7:H=0:=by have:=ak.out;rw[an.out] at this;exact this
 subst a7;have f0:=Qb F3.out 0 _ Z;have f1:=Qb F3.out 1 _ Z;have x3:=Qb U.out 0 _ Z;have CO:=Qa (Qi3 (w:=w3) (m:=m) (p:=p) (c:=c) (Ya ((QbB 6).2 HM.out) B.out) al.out);clear an;go_wp2_with fail
 refine CO.out.mono ?_;rintro e4 w4 ⟨J,l,rfl,ap,b4⟩;have b5:=Zd w4 (.cells #[.slice J m.length l] 24)
 have S:Hid (VcS w (w4.alloc (.cells #[.slice J m.length l] 24)) X R w4.heap.size p J c l m) :=
  ⟨(B.out.trans (b4.mono B.out.size)).trans (b5.mono (Zt B.out.size b4.size)),(U.out.below b4).below b5,(ag.out.below b4).below b5,Blk.new _ _ _,Ya ap b5⟩
 clear ap b4 b5 CO x3 f0 f1 U ag B F3;go_upto_region 5 with fail
 generalize w4.alloc (.cells #[.slice J m.length l] 24)=w5 at S |-;generalize w4.heap.size=A4 at S |-;have x0:=Qb S.out.x 0 _ Z;go_wp2_with fail
 clear x0;go_loopw [21] (fun i wr=>∃ k:Nat,k<=m.length/\i=Iv k/\VcS w wr X R A4 p J c l m/\∀ j f,j<k->m[j]?=some f->(Qae m j f).1=0) (fun i _=>m.length - (intOf i).toNat)
 case atStart=>exact⟨0,Xb _,Z,S.out,fun j f hj=>absurd hj (XG _)⟩
 case round =>
  obtain⟨k,hk,rfl,hs,o⟩:=hrel
  have V:=Qa hs;have I:=Qa o;clear hs o S;obtain⟨s,a5⟩:∃ s,s=wr:=⟨_,Z⟩
  subst a5;by_cases az:k<m.length
  rotate_left
  ·have ar:¬ (k:Int)<m.length:=by omega
   have E:Hid (Qq m=(0,0)):=by
    show _=_;rw[E0.out]
    exact Q0 fun j f hj=>by rw[XK];exact I.out j f (by have:=(Zi hj).1;omega) hj
   have G:Hid (Blk s R #[Iv 0,Iv 0] 32):=V.out.r;have r0:=Qb G.out 0 _ Z;have r1:=Qb G.out 1 _ Z;have z0:=Qj G.out 0;have z1:=Qj G.out 1;have RB:Hid (Blk ((s.setCell ⟨R,0,none⟩ (Iv 0)).setCell ⟨R,1,none⟩ (Iv 0)) R #[Iv 0,Iv 0] 32):=Zu G.out _ _;have BL:Hid (Below w.heap.size w ((s.setCell ⟨R,0,none⟩ (Iv 0)).setCell ⟨R,1,none⟩ (Iv 0))):=(XI V.out.bel (p:=⟨R,0,none⟩) Q.out _).setCell (p:=⟨R,1,none⟩) Q.out _;go_wp2_with fail
   generalize (s.setCell ⟨R,0,none⟩ (Iv 0)).setCell ⟨R,1,none⟩ (Iv 0)=a4 at RB BL |-;have e0:=Qb RB.out 0 _ Z;have e1:=Qb RB.out 1 _ Z;exact Xy (v:=.agg #[Iv 0,Iv 0]) (by simp[results,results66,go_sem,e0,e1]) Z ⟨by rw[E.out],BL.out⟩
  have ar:(k:Int)<m.length:=by omega
  have L:m[k]?=some m[k]:=Zg az;generalize m[k]=f at L;have ai:=Qa L;obtain⟨D,C,ds,rfl,-,-,K,_,_,rfl,⟨rfl,_⟩,_,_,rfl,t1,_,_,rfl,t2,t3⟩:=Yf HM.out L
  obtain⟨a1,c1,rfl,t1⟩:=QK t1
  obtain⟨a2,c2,rfl,t2⟩:=QK t2
  obtain⟨a3,c3,rfl,t3⟩:=QK t3
  have v0:s.cell? ⟨D,C+k*4,none⟩=some (Iv f.regs):=Qk (show w.cell? ⟨D,C+k*4,none⟩=_ from K 0 (by decide)) V.out.bel;have v1:s.cell? ⟨D,C+k*4+1,none⟩=some (.slice a1 f.params.length c1):=Qk (show w.cell? ⟨D,C+k*4+1,none⟩=_ from K 1 (by decide)) V.out.bel;have v2:s.cell? ⟨D,C+k*4+2,none⟩=some (.slice a2 f.results.length c2):=Qk (show w.cell? ⟨D,C+k*4+2,none⟩=_ from K 2 (by decide)) V.out.bel;have v3:s.cell? ⟨D,C+k*4+3,none⟩=some (.slice a3 f.blocks.length c3):=Qk (show w.cell? ⟨D,C+k*4+3,none⟩=_ from K 3 (by decide)) V.out.bel;have a0:Hid ((Qc6 6).list.In w All f.blocks [.slice a3 f.blocks.length c3]):=t3;have a6:Hid (f∈m):=Zm L;have bb:f.blocks.length<=30:=Xo fun h=>HG.out (.inr ⟨f,a6.out,.inl h⟩);have b6:=Zd s (.cells #[Iv f.regs,.slice a1 f.params.length c1,.slice a2 f.results.length c2,.slice a3 f.blocks.length c3] 89);have S6:Hid (VcS w (s.alloc (.cells #[Iv f.regs,.slice a1 f.params.length c1,.slice a2 f.results.length c2,.slice a3 f.blocks.length c3] 89)) X R A4 (some ⟨D,C,none⟩) J c l m):=V.out.below b6;have BF:Hid (Blk (s.alloc (.cells #[Iv f.regs,.slice a1 f.params.length c1,.slice a2 f.results.length c2,.slice a3 f.blocks.length c3] 89)) s.heap.size #[Iv f.regs,.slice a1 f.params.length c1,.slice a2 f.results.length c2,.slice a3 f.blocks.length c3] 89):=Blk.new _ _ _;clear K t1 t2 t3 L b6 V;go_upto_region 8 with fail
  generalize s.alloc (.cells #[Iv f.regs,.slice a1 f.params.length c1,.slice a2 f.results.length c2,.slice a3 f.blocks.length c3] 89)=w6 at S6 BF |-;generalize s.heap.size=XF at BF |-;clear v0 v1 v2 v3;have t3:=Qb BF.out 3 _ Z;go_wp2_with fail
  clear t3 BF;go_loopw [29] (fun i wq=>∃ q:Nat,q<=f.blocks.length/\i=Iv q/\VcS w wq X R A4 (some ⟨D,C,none⟩) J c l m/\∀ j g,j<q->f.blocks[j]?=some g->(QA (10000*(k:Int)+100*(j:Int)) g.fin (JSt.start m f g) 0 g.code).1=0) (fun i _=>f.blocks.length - (intOf i).toNat)
  case atStart=>exact⟨0,Xb _,Z,S6.out,fun j g hj=>absurd hj (XG _)⟩
  case round =>
   obtain⟨q,hq,rfl,hs,o⟩:=hrel
   have SQ:=Qa hs;have t:=Qa o;clear hs o S6;obtain⟨d,ay⟩:∃ d,d=wr:=⟨_,Z⟩
   subst ay;by_cases a9:q<f.blocks.length
   rotate_left
   ·have av:¬ (q:Int)<f.blocks.length:=by omega
    have E:Hid ((Qae m k f).1=0):=by
     show _=_;unfold Qae;rw[Q0 fun j g hj=>by rw[XK];exact t.out j g (by have:=(Zi hj).1;omega) hj]
    go_wp2_with fail
    go_roundw
    case rel =>
     refine⟨k+1,by omega,by go_num,SQ.out,fun j y hj hy=>?_⟩
     by_cases ah:j<k
     ·exact I.out j y ah hy
     ·have:j=k:=by omega
      subst this;rw[ai.out] at hy
      cases hy
      exact E.out
    case measure=>simp[intOf];omega
   have av:(q:Int)<f.blocks.length:=by omega
   have N:f.blocks[q]?=some f.blocks[q]:=Zg a9;generalize f.blocks[q]=g at N;have ac:=Qa N;obtain⟨eg,eo,p1,d1,p2,d2,e,rfl,z,F,W,am⟩:=Qfm a0.out N
   have af:=Qa F;have au:=Qa W;have a8:=Qa am;have ab:Hid (d.rangeAt eg (eo+q*12) (Value.int .i64 g.regs::Value.slice p1 g.params.length d1::Value.slice p2 g.code.length d2::(QbW g.fin e).toList)):=Qad z SQ.out.bel;generalize T:(Value.int .i64 g.regs::Value.slice p1 g.params.length d1::Value.slice p2 g.code.length d2::(QbW g.fin e).toList)=n at ab;have hl:n.length=12:=by rw[<-T];rfl
   have TS:Hid ((prog.info? 86).map (·.size)=some n.length):=by show _=_;rw[hl];exact pSizeB
   have TH:Hid ((d.alloc (.cells #[Iv 0,Nv,Nv,Iv 0,Iv 0,Iv 0,Nv,Nv,Iv 0,Nv,Nv,Nv] 86)).there d.heap.size 0 n.toArray.size):=by
    intro j hj;rw[List.size_toArray,hl] at hj
    rw[XK]
    have hB:=Qe d #[Iv 0,Nv,Nv,Iv 0,Iv 0,Iv 0,Nv,Nv,Iv 0,Nv,Nv,Nv] 86;refine⟨?_,Qj hB j⟩
    rw[Qb hB j ((#[Iv 0,Nv,Nv,Iv 0,Iv 0,Iv 0,Nv,Nv,Iv 0,Nv,Nv,Nv]:Array Value)[j]'hj) (by simp)];rfl
   have ao:Hid ((prog.info? 86).map (·.size)=some n.toArray.size):=by show _=_;rw[List.size_toArray];exact TS.out
   have TO:Hid (n.toArray.all (·.oneCell')=true):=by
    refine all_oneCell_toArray fun v hv=>?_;rw[<-T] at hv
    simp only[QbW,List.mem_cons,List.not_mem_nil,or_false] at hv
    rcases hv with rfl | rfl | rfl | rfl | rfl | rfl | rfl | rfl | rfl | rfl | rfl | rfl<;>rfl
   have B6:Hid (Blk ((d.alloc (.cells #[Iv 0,Nv,Nv,Iv 0,Iv 0,Iv 0,Nv,Nv,Iv 0,Nv,Nv,Nv] 86)).setCells d.heap.size 0 n.toArray.toList) d.heap.size n.toArray 86):=by
    have h0:Blk (d.alloc (.cells #[Iv 0,Nv,Nv,Iv 0,Iv 0,Iv 0,Nv,Nv,Iv 0,Nv,Nv,Nv] 86)) d.heap.size ([]++(#[Iv 0,Nv,Nv,Iv 0,Iv 0,Iv 0,Nv,Nv,Iv 0,Nv,Nv,Nv]:Array Value).toList).toArray 86:=Qe d _ _;exact Blk.sets n [] (#[Iv 0,Nv,Nv,Iv 0,Iv 0,Iv 0,Nv,Nv,Iv 0,Nv,Nv,Nv]:Array Value).toList _ (by rw[hl];rfl) h0
   have b6:Hid (Below d.heap.size d ((d.alloc (.cells #[Iv 0,Nv,Nv,Iv 0,Iv 0,Iv 0,Nv,Nv,Iv 0,Nv,Nv,Nv] 86)).setCells d.heap.size 0 n.toArray.toList)):=by
    have:=Qz.setCells (O:=fun k=>k=d.heap.size) (O':=fun k=>k=d.heap.size) (b:=d.heap.size) Z n.toArray.toList 0 _ (Qz.refl _ (d.alloc (.cells #[Iv 0,Nv,Nv,Iv 0,Iv 0,Iv 0,Nv,Nv,Iv 0,Nv,Nv,Nv] 86)))
    exact(Zd d _).trans (this.below (by simp) (fun k hk=>by omega))
   have aq:Hid ((Value.int .i64 g.regs::Value.slice p1 g.params.length d1::Value.slice p2 g.code.length d2::(QbW g.fin e).toList)=n):=T;clear hl T z F W am N;go_upto_region 11 with (first | (refine wpList_load_mid Z 86 (.tmp 32) Z eg (eo+q*12) Z n _ ab.out underlying86 Z TS.out ?_) | (refine wpList_store_mid Z 86 (.tmp 8) (.tmp 33) Z d.heap.size 0 n.toArray Z Z TH.out ao.out TO.out ?_))
   have B7:Hid (Blk ((d.alloc (.cells #[Iv 0,Nv,Nv,Iv 0,Iv 0,Iv 0,Nv,Nv,Iv 0,Nv,Nv,Nv] 86)).setCells d.heap.size 0 n) d.heap.size n.toArray 86):=B6.out;have S7:Hid (VcS w ((d.alloc (.cells #[Iv 0,Nv,Nv,Iv 0,Iv 0,Iv 0,Nv,Nv,Iv 0,Nv,Nv,Nv] 86)).setCells d.heap.size 0 n) X R A4 (some ⟨D,C,none⟩) J c l m):=SQ.out.below b6.out;clear B6 b6 TH ao TO ab SQ;generalize (d.alloc (.cells #[Iv 0,Nv,Nv,Iv 0,Iv 0,Iv 0,Nv,Nv,Iv 0,Nv,Nv,Nv] 86)).setCells d.heap.size 0 n=w7 at B7 S7 |-;generalize d.heap.size=Bx at B7 |-;have y0:=Qb S7.out.a 0 _ Z;have aw:Hid (w7.rangeAt Bx 0 n):=Blk.range B7.out
   have CB:Hid (Calls prog 108 #[.agg #[.slice J m.length l],Iv (k:Int),Iv (q:Int),.agg n.toArray] w7 fun r w'=>r=.returned (QG (QA (10000*(k:Int)+100*(q:Int)) g.fin (JSt.start m f g) 0 g.code))/\Below w7.heap.size w7 w'):=by
    have:=QgU (w:=w7) (p:=J) (c:=l) (p1:=p1) (d1:=d1) ak.out HG.out S7.out.om ai.out ac.out (Ya af.out S7.out.bel) (au.out.below S7.out.bel) a8.out
    rw[<-aq.out]
    exact this
   obtain⟨u,A,ae⟩:∃ u A,QA (10000*(k:Int)+100*(q:Int)) g.fin (JSt.start m f g) 0 g.code=(u,A):=⟨_,_,Z⟩
   have aa:=Qa ae;rw[ae] at CB
   clear ae aq B7;go_wp2_with (refine wpList_load_mid Z 86 (.tmp 8) Z Bx 0 Z n _ aw.out underlying86 Z TS.out ?_)
   refine CB.out.mono ?_;rintro e8 w8 ⟨rfl,b8⟩;have b9:=b8.trans ((Zd w8 (.cells #[Iv u,Iv A] 32)).mono b8.size);have S9:Hid (VcS w (w8.alloc (.cells #[Iv u,Iv A] 32)) X R A4 (some ⟨D,C,none⟩) J c l m):=S7.out.below b9;have F9:Hid (Blk (w8.alloc (.cells #[Iv u,Iv A] 32)) w8.heap.size #[Iv u,Iv A] 32):=Blk.new _ _ _;clear b8 b9 S7 CB aw TS y0;simp only[QG]
   go_upto_region 12 with fail
   generalize w8.alloc (.cells #[Iv u,Iv A] 32)=w9 at S9 F9 |-;generalize w8.heap.size=F8 at F9 |-;have f0:=Qb F9.out 0 _ Z;have f1:=Qb F9.out 1 _ Z;by_cases P:u=0
   ·subst P;go_wp2_with fail
    go_roundw
    case rel =>
     refine⟨q+1,by omega,by go_num,S9.out,fun j y hj hy=>?_⟩
     by_cases ah:j<q
     ·exact t.out j y ah hy
     ·have:j=q:=by omega
      subst this;rw[ac.out] at hy
      cases hy
      rw[aa.out]
    case measure=>simp[intOf];omega
   ·have ba:(u != 0)=true:=by simpa using P
    have E:Hid (Qq m=(u,A)):=by
     show _=_;rw[QfT ak.out ai.out I.out ac.out t.out (by rw[aa.out];exact P),aa.out]
    clear P;have G:Hid (Blk w9 R #[Iv 0,Iv 0] 32):=S9.out.r;have r0:=Qb G.out 0 _ Z;have r1:=Qb G.out 1 _ Z;have z0:=Qj G.out 0;have z1:=Qj G.out 1;have RB:Hid (Blk ((w9.setCell ⟨R,0,none⟩ (Iv u)).setCell ⟨R,1,none⟩ (Iv A)) R #[Iv u,Iv A] 32):=Zu G.out _ _;have BL:Hid (Below w.heap.size w ((w9.setCell ⟨R,0,none⟩ (Iv u)).setCell ⟨R,1,none⟩ (Iv A))):=(XI S9.out.bel (p:=⟨R,0,none⟩) Q.out _).setCell (p:=⟨R,1,none⟩) Q.out _;go_wp2_with fail
    generalize (w9.setCell ⟨R,0,none⟩ (Iv u)).setCell ⟨R,1,none⟩ (Iv A)=a4 at RB BL |-;have e0:=Qb RB.out 0 _ Z;have e1:=Qb RB.out 1 _ Z;exact Xy (v:=.agg #[Iv u,Iv A]) (by simp[results,results66,go_sem,e0,e1]) Z ⟨by rw[E.out],BL.out⟩
theorem Qln {s a:JSt}{x:Qt}{ts:List (TT 6)}(b:s.makes x=(0,ts)) (c:x.form s.m.length=0) (e:s.L.length+ts.length<=80) (d:s.next x=a):s.code x=0/\s.next x=a:=by
 refine⟨?_,d⟩
 unfold JSt.code;rw[Xr (fun h=>h c),b]
 simp only[ne_eq,not_true_eq_false,if_false]
 rw[Xr (by omega)]
theorem Qny (w:World):intsC.In w All ([]:List Int) [Nv]:=⟨⟨_,_,Z,Ze⟩,Yg _ _ _ _ _⟩
def fS0:JSt:=⟨five6,fF,[],[]⟩
def fS1:JSt:=⟨five6,fF,[],[tInt]⟩
theorem fb1:fS0.code fI=0/\fS0.next fI=fS1:=by
 have a:fS0.makes fI=(0,[tInt]):=Z5 (.inl Z);exact Qln a (by decide) (by decide) (by unfold JSt.next;rw[a];rfl)
theorem fb2:fS1.fin fE=0:=by
 have a:fS1.arg (QhC fF.regs.toNat) 0 tInt=0:=by
  unfold JSt.arg;show (if ZU (TT.ren _ _ tInt=some tInt) then (0:Int) else 9)=0;exact Xs (QC Z)
 unfold JSt.fin;rw[Xr (by decide),Xr (by decide),Xr (by decide)]
 have:fS1.args fE.args fS1.f.results (QhC fS1.f.regs.toNat)=0:=by
  unfold JSt.args;rw[Xs (by decide)]
  show Qu _ [((0:Int),tInt)]=0;simp only[Qu]
  exact Xr (fun h=>h a)
 rw[this]
 decide
theorem five6_run:Qq five6=(0,0):=by
 have d:∀ a,QA a fE fS0 0 [fI]=(0,0):=fun a=>by rw[QA,Xr (fun h=>h fb1.1),fb1.2,QA,Xr (fun h=>h fb2)]
 unfold Qq;rw[Xr (by rw[five_fault];decide)]
 refine Q0 fun k y c=>?_;have b:k=0:=by have:=(Zi c).1;simp[five6] at this;exact this
 subst b
 cases c
 unfold Qae;rw[Q0]
 intro k y c;have b:k=0:=by have:=(Zi c).1;simp[fF] at this;exact this
 subst b
 cases c
 exact congrArg Prod.fst (d _)
def fE':ZA:=⟨3,0,⟨0,[],[]⟩,⟨0,[],[]⟩,[1]⟩
def fB':MBlock 6:=⟨0,[],[fI],fE'⟩
def fF':MFunc 6:=⟨0,[],[tInt],[fB']⟩
def five7:List (MFunc 6):=[fF']
theorem five7_run:Qq five7=(1,91):=by decide +kernel
theorem five7_not:¬ Qm five7:=QdX (b:=fB') Z (by decide) (fun t a=>by simp only[fF',List.mem_singleton] at a;subst a;decide) Z Z (by decide) ⟨Z,Z,Z,Z,by decide⟩ (fun x c=>by simp only[fB',List.mem_singleton] at c;subst c;exact⟨Z,Z⟩)
theorem QgK {k:Int}(i:I64 k){d g e f c:Nat}(j:Blk w d (fBc d f c) 86) (q:Blk w g #[Iv 0,Nv,.slice (some ⟨e,0,none⟩) 1 1,.slice (some ⟨d,0,none⟩) 1 1] 89) (n:Blk w e #[Iv 1,Iv 0,Nv] 105) (r:Blk w f #[Iv 1,Iv 0,Iv 0,Iv 0,Iv 0,Iv 5,Nv,Nv] 78) (hi:Blk w c #[Iv k] 3) :
 (QjP 6).In w All [(⟨0,[],[tInt],[⟨0,[],[fI],⟨3,0,⟨0,[],[]⟩,⟨0,[],[]⟩,[k]⟩⟩]⟩:MFunc 6)] [.slice (some ⟨g,0,none⟩) 1 1]:=by
 have b:=QnF w;have h:(Qo 6).In w All ([]:List (TT 6)) [Nv]:=Yg _ _ _ _ _;have l:(Qo 6).In w All [tInt] [.slice (some ⟨e,0,none⟩) 1 1]:=QbJ n Z (Qlv w);have m:insC.list.In w All [fI] [.slice (some ⟨f,0,none⟩) 1 1]:=QbJ r Z (Qjj (x:=fI) (Qny w) (Qny w) (by decide));have p:intsL.In w All [k] [.slice (some ⟨c,0,none⟩) 1 1]:=QbJ hi Z ⟨Z,i⟩;have a:I64 0:=by decide
 have o:I64 3:=by decide
 have s:EIn w All ⟨3,0,⟨0,[],[]⟩,⟨0,[],[]⟩,[k]⟩ ⟨none,0,none,0,none,0,none,0,some ⟨c,0,none⟩,1⟩:=⟨⟨b,b,a⟩,⟨b,b,a⟩,p,o,a⟩;exact QbJ q Z ⟨[_],_,Z,⟨Z,a⟩,[_],_,Z,h,[_],_,Z,l,QbJ (A:=Qc6 6) (x:=⟨0,[],[fI],⟨3,0,⟨0,[],[]⟩,⟨0,[],[]⟩,[k]⟩⟩) j Z ⟨[_],_,Z,⟨Z,a⟩,[_],_,Z,h,[_],_,Z,m,Qgf s⟩⟩
theorem five_runsW:∃ N,RM.steps five6 aOp 9 10 (RM.start [] 0)=some N/\N.fin=0/\N.back=[5]/\N.out=[]/\N.fuel=2:=⟨_,Z,Z,Z,Z,Z⟩
theorem ZY {m:List (MFunc 6)}(H:(Qq m).1=0):(modFault m).1=0:=by
 refine Xq.1 fun h=>?_;unfold Qq at H;rw[Xs h] at H
 exact h H
theorem Qc7 {m:List (MFunc 6)}(c:(QjP 6).In w All m [.slice pm m.length cm]) (d:Qbe m) (a:¬ Qm m) (H:(Qq m).1=0):∀ wx,Below w.heap.size w wx->Calls prog 66 #[.agg #[.slice pm m.length cm]] wx fun e w'=>e=.returned (Qbv 0 (Qq m).2)/\Below wx.heap.size wx w':=fun wx b=>by
 have:=QbX (Ya c b) d (fun _=>a)
 rw[<-H]
 exact this
theorem Qjb {m:List (MFunc 6)}(j:(QjP 6).In w All m [.slice pm m.length cm]) (l:Qbe m) (f:¬ Qm m) (H:(Qq m).1=0) (n:intsL.In w All inp [.slice pi inp.length ci]) (hi:inp.length<=200) (h:most<=20000) (b:pages<=64) :
 Calls prog 30 #[.agg #[.slice pm m.length cm],.slice pi inp.length ci,Iv (most:Int),Iv (pages:Int)] w fun e w'=>Qek w m inp most pages e w' :=
 Qkf (ZY H) h (fun k=>Qd0 H inp b k) (QcM (ZY H) (by omega) b) (fun t a=>Qgd (Ya ((QbB 6).2 j) a) l (Ya n a) (fun x c=>by
  obtain⟨i,c⟩:=List.mem_iff_getElem?.1 c
  obtain⟨g,o,s,-,-,-,-,e,q,r⟩:=Yf n c
  exact⟨q,r⟩) hi h b (fun p d=>Qc7 j l f H p (a.trans (d.mono a.size))))
theorem QiN {e:Ending}(h:Qek w five6 [] 9 0 e w'):Below w.heap.size w w'/\∃ a c b d,e=.returned (.tuple #[.agg #[Iv 0,.slice a 1 c,.slice b 0 d,Iv 2],Qbv 0 0])/\Qcz w' a [5]:=by
 obtain⟨r,n,j,p,o,m⟩:=five_runsW
 obtain⟨N,v,i,-,⟨q,s,rfl,g,l⟩,rfl,b⟩:=h
 rw[show (9+1:Nat)=10 from Z,n] at i
 cases i
 refine⟨b,?_⟩
 obtain⟨a,c,rfl,-⟩:=id g
 obtain⟨k,d,rfl,-⟩:=id l
 have f:=g.lg;rw[j,m]
 rw[p] at f |-
 rw[o]
 exact⟨a,c,k,d,Z,f.2⟩
theorem Bxs.app {d:World}{l l':List (Nat × Array Value × TypeId)}(h:Bxs w d l) (k:Bxs d w' l'):Bxs w w' (l'++l):=by
 have f:=h.below k.bel;refine⟨f.bel,fun b a=>?_,fun b a=>?_,?_⟩
 ·rcases List.mem_append.1 a with a | a
  ·exact Zt h.bel.size (k.ge b a)
  ·exact h.ge b a
 ·rcases List.mem_append.1 a with a | a
  ·exact k.box b a
  ·exact f.box b a
 ·rw[List.map_append,List.nodup_append]
  refine⟨k.nd,h.nd,fun x g y i e=>?_⟩
  obtain⟨b,a,rfl⟩:=List.mem_map.1 g
  obtain⟨c,j,rfl⟩:=List.mem_map.1 i
  have m:=k.ge b a;have n:=(h.box c j).lt;omega
theorem Qe7 (w:World):Calls prog 29 #[] w fun e w'=>e=.returned (.bool true)/\Below w.heap.size w w':=by
 go_enter func29,ntmps29
 go_wp2_with fail
 refine(Qjd w).mono ?_
 rintro e1 w1 ⟨I,C,T,Y,o,y,R,rfl,B⟩;have M1:=QgK (k:=0) (by decide) (B.at (a:=[_,_,_,_,_])) (B.at (a:=[_,_,_,_])) (B.at (a:=[_,_])) (B.at (a:=[_])) (B.at (a:=[]));have t:=Qc (Qjb (inp:=[]) (most:=9) (pages:=0) M1 (ZD five_not) five_not (congrArg Prod.fst five6_run) (QnF w1) (by decide) (by decide) (by decide));have z:=Qc B.bel;clear M1 B;go_wp2_with fail
 refine t.out.mono ?_;rintro e2 v H;obtain⟨L,a,c,b,d,rfl,hl⟩:=QiN H
 have N:=Qc (z.out.trans (L.mono z.out.size));have V:=Qc (Bxs.start v);have HL:=Qc hl;clear H L hl t z;have m:=(V.out.new #[Iv 0,.slice a 1 c,.slice b 0 d,Iv 2] 44).new #[Iv 0,Iv 0] 32;rw[World.size_alloc] at m
 have m:=Qc m;go_upto_region 2 with fail
 generalize (v.alloc (.cells #[Iv 0,.slice a 1 c,.slice b 0 d,Iv 2] 44)).alloc (.cells #[Iv 0,Iv 0] 32)=w3 at m |-;generalize v.heap.size+1=F at m |-;generalize v.heap.size=O at m |-;clear V;go_wp2_with fail
 refine(Qjd w3).mono ?_
 rintro e4 M ⟨I,C,T,Y0,o,y,R,rfl,B4⟩;have j:=(m.out.app B4).new #[.slice (some ⟨o,0,none⟩) 1 1] 24;have j:=Qc j;clear B4 m;go_upto_region 3 with fail
 generalize M.alloc (.cells #[.slice (some ⟨o,0,none⟩) 1 1] 24)=q at j |-;generalize M.heap.size=Y at j |-;simp only[List.cons_append,List.nil_append] at j
 have u:=Qc (j.out.new #[Iv 1] 3);have G:q.cell? ⟨Y,0,none⟩=some (.slice (some ⟨o,0,none⟩) 1 1):=j.out.cell (a:=[]) 0 _ Z;have g3:q.cell? ⟨o,3,none⟩=some (.slice (some ⟨y,0,none⟩) 1 1):=j.out.cell (a:=[_,_,_,_,_]) 3 _ Z;have c2:=u.out.cell (a:=[_,_,_,_,_,_,_]) 11 _ Z;have z2:=u.out.free (a:=[_,_,_,_,_,_,_]) 11;go_upto_region 4 with fail
 have h:=Qc (u.out.set (a:=[_,_,_,_,_,_,_]) 11 (.slice (some ⟨q.heap.size,0,none⟩) 1 1));clear j u G g3 c2 z2;generalize (q.alloc (.cells #[Iv 1] 3)).setCell ⟨y,11,none⟩ (.slice (some ⟨q.heap.size,0,none⟩) 1 1)=E at h |-;generalize q.heap.size=J at h |-;have G:E.cell? ⟨Y,0,none⟩=some (.slice (some ⟨o,0,none⟩) 1 1):=h.out.cell (a:=[_]) 0 _ Z;have S:(QjP 6).In E All five7 [.slice (some ⟨o,0,none⟩) 1 1]:=QgK (k:=1) (by decide) (h.out.at (a:=[_,_,_,_,_,_,_])) (h.out.at (a:=[_,_,_,_,_,_])) (h.out.at (a:=[_,_,_,_])) (h.out.at (a:=[_,_,_])) (h.out.at (a:=[]))
 have t:=Qc (Qfs (pi:=none) (ci:=0) (n:=0) (fu:=9) (pg:=0) (c:=1) (a:=91) (c0:=1) (a0:=91) (pm:=some ⟨o,0,none⟩) (ml:=1) (cm:=1) (w:=E) (fun wx bx=>by
  have:=QbX (Ya S bx) (ZD five7_not) (fun _=>five7_not)
  rw[five7_run] at this
  exact this) (by decide) (.inl ⟨by decide,Z,Z⟩))
 clear S;go_wp2_with fail
 refine t.out.mono ?_;rintro e7 A ⟨rfl,b7⟩;have g:=(h.out.below b7).new #[Iv 0,Nv,Nv,Iv 0] 44 |>.new #[Iv 1,Iv 91] 32
 rw[World.size_alloc] at g
 have g:=Qc g;clear b7 t h G;go_upto_region 5 with fail
 generalize (A.alloc (.cells #[Iv 0,Nv,Nv,Iv 0] 44)).alloc (.cells #[Iv 1,Iv 91] 32)=f at g |-;generalize A.heap.size+1=W at g |-;generalize A.heap.size=O2 at g |-;have f0:f.cell? ⟨F,0,none⟩=some (Iv 0):=g.out.cell (a:=[_,_,_,_,_,_,_,_,_,_,_]) 0 _ Z;have o0:f.cell? ⟨O,0,none⟩=some (Iv 0):=g.out.cell (a:=[_,_,_,_,_,_,_,_,_,_,_,_]) 0 _ Z;have o1:f.cell? ⟨O,1,none⟩=some (.slice a 1 c):=g.out.cell (a:=[_,_,_,_,_,_,_,_,_,_,_,_]) 1 _ Z;have o2:f.cell? ⟨O,2,none⟩=some (.slice b 0 d):=g.out.cell (a:=[_,_,_,_,_,_,_,_,_,_,_,_]) 2 _ Z;have o3:f.cell? ⟨O,3,none⟩=some (Iv 2):=g.out.cell (a:=[_,_,_,_,_,_,_,_,_,_,_,_]) 3 _ Z;have D:=Qc (HL.out.below g.out.bel);have X:=Qc (g.out.new #[Iv 5] 2)
 have P:Qcz (f.alloc (.cells #[Iv 5] 2)) (some ⟨f.heap.size,0,none⟩) [5]:=fun i x s=>by
  match i,s with
  | 0,s=>cases s;exact⟨f.heap.size,0,Z,Qb (Qe f #[.int .i64 5] 2) 0 _ Z⟩
  | i+1,s=>exact absurd (Zi s).1 (by simp)
 have U:Hid (Calls prog 26 #[.agg #[Iv 0,.slice a 1 c,.slice b 0 d,Iv 2],.agg #[Iv 0,.slice (some ⟨f.heap.size,0,none⟩) 1 1,Nv,Iv 2]] (f.alloc (.cells #[Iv 5] 2)) fun e w'=>e=.returned (.bool true)/\Below (f.alloc (.cells #[Iv 5] 2)).heap.size (f.alloc (.cells #[Iv 5] 2)) w'):=QbZ (l:=[5]) (r:=[]) (by decide) (by decide) (D.out.below (ZP _ _)) P (Qcz.nil _ _) (Qcz.nil _ _);clear P;go_wp2_with fail
 refine U.out.mono ?_;rintro e9 K ⟨rfl,Q⟩;have p:=Qc (X.out.below Q);have p0:K.cell? ⟨W,0,none⟩=some (Iv 1):=p.out.cell (a:=[_]) 0 _ Z;have p1:K.cell? ⟨W,1,none⟩=some (Iv 91):=p.out.cell (a:=[_]) 1 _ Z;clear Q U X f0 o0 o1 o2 o3;go_wp2
 go_ret;exact⟨Z,N.out.trans (p.out.bel.mono N.out.size)⟩
theorem Qmx (h:intsL.In w O l [.slice a n c]):∀ x∈l,Qnk x:=fun x d=>by
 obtain⟨i,b⟩:=List.mem_iff_getElem?.1 d
 obtain⟨g,o,k,-,-,-,-,e,f,j⟩:=Yf h b
 exact⟨f,j⟩
section
variable {w:World}{O:Nat->Prop}{n:Nat}{cs:List Value}
theorem Qik {x:MBlock n}(a:x.flat k) (h:(Qbf n).In w O x cs):(Qbf (k+1)).In w O (x.at k) cs:=by
 obtain⟨e,_,rfl,b,⟨f,_,rfl,c,d⟩⟩:=h
 exact⟨e,_,Z,b,⟨f,_,Z,Qeu a c,d⟩⟩
theorem Qku {x:MFunc n}(a:x.flat k) (h:(QeH n).In w O x cs):(QeH (k+1)).In w O (x.at k) cs:=by
 obtain⟨i,_,rfl,d,⟨j,_,rfl,e,⟨c,_,rfl,g,b⟩⟩⟩:=h
 exact⟨i,_,Z,d,⟨j,_,Z,Qeu a.1 e,⟨c,_,Z,Qeu a.2.1 g,Lay.list_map (A:=Qbf n) (B:=Qbf (k+1)) Z (fun y f l=>Qik (a.2.2 y f)) b⟩⟩⟩
theorem QlN {m:List (MFunc n)}(b:∀ x∈m,x.flat k) (h:(QiG n).In w O m cs):(QiG (k+1)).In w O (m.map (MFunc.at k)) cs :=
 Lay.list_map (A:=QeH n) (B:=QeH (k+1)) Z (fun y a c=>Qku (b y a)) h
end
theorem size_any:∀ (n:Nat) (t:TT n) (a:Option Addr) (c:Nat) (w:World) (left:Int),TIn w All t a->0<=left->left<=2000 ->
 Calls prog 115 #[Tv t a c,Iv left] w fun e w'=>e=.returned (Iv (max (-1) (left - t.count)))/\Below w.heap.size w w':=by
 intro n
 induction n with
 | zero=>intro t;exact Empty.elim t
 | succ n ih =>
   intro t a c w left I W h1
   have R:Hid (∀ (t:TT n) (a:Option Addr) (c:Nat) (w:World) (left:Int),TIn w All t a->0<=left->left<=2000 ->
    Calls prog 115 #[Tv t a c,Iv left] w fun e w'=>e=.returned (Iv (max (-1) (left - t.count)))/\Below w.heap.size w w'):=ih
   clear ih;have D:Hid (LIn w All t.2.2 a):=I.list;have J:t.count=1+(t.2.2.map TT.count).sum:=rfl;rw[J]
   clear J;simp only[Tv,TT.len_eq]
   generalize t.2.2=l at D |-;generalize t.kind=k;generalize t.r=r;clear I t;go_enter func115,ntmps115
   go_wp2_with fail
   have B:Hid (Bx w (w.alloc (.cells #[Iv k,Iv r,.slice a l.length c] 105)) k r a l.length c):=Bx.start w k r a l.length c;generalize w.alloc (.cells #[Iv k,Iv r,.slice a l.length c] 105)=w1 at B |-;go_loopw [1,5] (fun lf i wr=>∃ q:Nat,q<=l.length/\i=Iv q/\lf=Iv (max (-1) (left - 1 - (((l.map TT.count).take q).sum:Nat)))/\Bx w wr k r a l.length c) (fun _ i _=>l.length - (intOf i).toNat)
   case atStart=>exact⟨0,Xb _,Z,by simp;omega,B.out⟩
   case round =>
    clear B;obtain⟨q,hq,rfl,rfl,p⟩:=hrel
    generalize d:(((l.map TT.count).take q).sum:Nat)=s;have e2:wr.cell? ⟨w.heap.size,2,none⟩=some (.slice a l.length c):=Qb p.box 2 _ Z;have u:Hid (Bx w wr k r a l.length c):=p;by_cases v:q<l.length
    ·by_cases b:0<=max (-1) (left - 1 - (s:Int))
     ·have j:l[q]?=some l[q]:=Zg v;generalize l[q]=x at j;obtain⟨g,o,E,K,rfl,_,d0,d1,d2,G⟩:=LIn.at (D.out.below p.bel) j
      have H:Hid (TIn wr All x E):=G;have A:=Qet TT.count l q x j;rw[d] at A
      have T:Hid (((l.map TT.count).take (q+1)).sum=s+x.count):=A;have S:Hid (max (-1) (left - 1 - (s:Int))<=2000):=by show _<=_;omega
      clear p G j A;generalize C:max (-1) (left - 1 - (s:Int))=m at b S;have M:Hid (max (-1) (left - 1 - (s:Int))=m):=C;clear C;have Q:(0:Int)<=q:=by omega
      have f:(q:Int)<l.length:=by omega
      have O:(q:Int)<2000:=by
       have U:=length_le_sum ((l.map TT.count).take q) (fun y P=>by obtain⟨z,_,rfl⟩:=List.mem_map.1 (List.mem_of_mem_take P);exact z.count_pos);have X:=M.out;rw[List.length_take,XN] at U
       omega
      clear d;go_wp2_with fail
      refine(R.out x E K _ m H.out b S.out).mono ?_
      rintro e V ⟨rfl,L⟩;have N:Hid (Bx w V k r (some ⟨g,o,none⟩) l.length c):=u.out.below L;clear u;go_wp2
      go_roundw
      case rel=>exact⟨q+1,by omega,by go_num,by rw[T.out];have:=M.out;have:=x.count_pos;congr 1;omega,N.out⟩
      case measure=>simp[intOf];omega
     ·have F:Hid (max (-1) (left - 1 - (s:Int))=max (-1) (left - ((1+(l.map TT.count).sum:Nat):Int))):=by
       have:=QfS (l.map TT.count) q
       show _=_;omega
      have h:max (-1) (left - 1 - (s:Int))<0:=by omega
      generalize max (-1) (left - 1 - (s:Int))=m at F h |-;clear b d;have f:(q:Int)<l.length:=by omega
      go_wp2
      go_ret;exact⟨by show Ending.returned (Iv m)=_;have:=F.out;congr 2,u.out.bel⟩
    ·have F:Hid (max (-1) (left - 1 - (s:Int))=max (-1) (left - ((1+(l.map TT.count).sum:Nat):Int))):=by
      rw[XO (by simp;omega)] at d
      show _=_;omega
     generalize max (-1) (left - 1 - (s:Int))=m at F |-;clear d;have f:¬ (q:Int)<l.length:=by omega
     go_wp2
     go_ret;exact⟨by show Ending.returned (Iv m)=_;have:=F.out;congr 2,u.out.bel⟩
theorem QhS (n:Nat) (t:TT n) (a:Option Addr) (c:Nat) (w:World) (f:TIn w All t a) :
 Calls prog 71 #[Tv t a c] w fun e w'=>e=.returned (.bool (decide (2000<t.count)))/\Below w.heap.size w w':=by
 have C:Hid (∀ b,Below w.heap.size w b->Calls prog 115 #[Tv t a c,Iv 2000] b fun e w'=>e=.returned (Iv (max (-1) (2000 - (t.count:Int))))/\Below b.heap.size b w') :=
  fun b i=>size_any n t a c b 2000 (f.below i) (by omega) (by omega)
 clear f;simp only[Tv] at C |-
 generalize t.kind=k at C |-;generalize t.r=r at C |-;generalize t.len=g at C |-;generalize t.count=q at C |-;go_enter func71,ntmps71
 go_wp2_with fail
 refine(C.out _ ((Below.refl _ w).alloc Ze _)).mono ?_
 rintro e h ⟨rfl,d⟩;have B:Hid (Below w.heap.size w h):=((Below.refl _ w).alloc Ze _).trans (d.mono (by simp));have F:Hid (max (-1) (2000 - (q:Int))<0↔2000<q):=by show _↔_;omega
 generalize max (-1) (2000 - (q:Int))=m at F |-;clear d C;go_wp2
 go_ret;exact⟨by show Ending.returned (.bool (decide (m<0)))=_;rw[decide_eq_decide.2 F.out],B.out⟩
structure GbS (w wx:World) (l:List (Nat × Array Value × TypeId)):Prop where
 bel:Below w.heap.size w wx
 box:∀ (i:Nat) b,l[i]?=some b->Blk wx b.1 b.2.1 b.2.2
theorem GbS.below {a:World}{l:List (Nat × Array Value × TypeId)}(h:GbS w a l) (k:Below a.heap.size a w'):GbS w w' l:=⟨h.bel.trans (k.mono h.bel.size),fun i b c=>(h.box i b c).below k⟩
theorem GbS.add {a:World}{l:List (Nat × Array Value × TypeId)}(h:GbS w a l){c:Array Value}(e:Blk a B c t):GbS w a ((B,c,t)::l) :=
 ⟨h.bel,fun i b d=>by
  cases i with
  | zero=>cases d;exact e
  | succ i=>exact h.box i b d⟩
theorem GbS.drop {a:World}{l:List (Nat × Array Value × TypeId)}{e:Nat × Array Value × TypeId}(h:GbS w a (e::l)):GbS w a l:=⟨h.bel,fun i b c=>h.box (i+1) b c⟩
theorem GbS.new {a:World}{l:List (Nat × Array Value × TypeId)}(h:GbS w a l) (c:Array Value) (t:TypeId):GbS w (a.alloc (.cells c t)) ((a.heap.size,c,t)::l):=(h.below (Zd _ _)).add (Blk.new _ _ _)
theorem Qan (n:Nat) (l:List (TT n)) (p:Option Addr) (c:Nat) (w:World) (m:LIn w All l p) :
 Rd prog 40 #[.slice p l.length c] w (.bool (ZU (Zy l))):=by
 have M:=Qf m;clear m;unfold Rd;go_enter func40,ntmps40
 by_cases G:200<l.length
 ·have d:(200:Int)<l.length:=by omega
  have E:=QC (A:=Zy l) (.inl G);go_wp2_with fail
  go_ret;exact⟨by first | rfl | (rw[E];done) | (rw[E];rfl),Zr⟩
 have d:¬ (200:Int)<l.length:=by omega
 go_wp2_with fail
 go_loopw [3] (fun i wr=>∃ k:Nat,k<=l.length/\i=Iv k/\Below w.heap.size w wr/\∀ (j:Nat) t,j<k->l[j]?=some t->¬ 2000<t.count) (fun i _=>l.length - (intOf i).toNat)
 case atStart=>exact⟨0,Xb _,Z,Zr,fun j z e=>absurd e (XG _)⟩
 case round =>
  obtain⟨k,O,rfl,C,a⟩:=hrel
  have g:=Qf C;have q:=Qf a;clear C a;by_cases y:k<l.length
  rotate_left
  ·have r:¬ (k:Int)<l.length:=by omega
   have E:ZU (Zy l)=false:=QB (by
    rintro (h | ⟨t,b,h⟩)
    ·exact G h
    ·obtain⟨j,e⟩:=List.mem_iff_getElem?.1 b
     exact q.out j t (by have:=(Zi e).1;omega) e h)
   go_wp2_with fail
   go_ret;exact⟨by first | rfl | (rw[E];done) | (rw[E];rfl),g.out⟩
  have r:(k:Int)<l.length:=by omega
  have b:l[k]?=some l[k]:=Zg y;generalize l[k]=t at b;have F:=Qf b;obtain⟨N,Q,K,H,rfl,-,J,L,I,o⟩:=(show LIn wr All l p from M.out.below g.out).at b
  have D:=Qf (QhS n t K H wr o);clear b o;go_wp2_with fail
  refine D.out.mono ?_;rintro _ P ⟨rfl,B⟩;have f:=Qf (g.out.trans (B.mono g.out.size));clear B D J L I g;by_cases s:2000<t.count
  ·rw[Xt s]
   have E:=QC (A:=Zy l) (.inr ⟨t,Zm F.out,s⟩);go_wp2_with fail
   go_ret;exact⟨by first | rfl | (rw[E];done) | (rw[E];rfl),f.out⟩
  ·rw[Xu s]
   go_wp2_with fail
   go_roundw
   case rel =>
    refine⟨k+1,by omega,by go_num,f.out,fun j u e x=>?_⟩
    by_cases v:j<k
    ·exact q.out j u v x
    ·have:j=k:=by omega
     subst this;rw[F.out] at x
     cases x
     exact s
   case measure=>simp[intOf];omega
def MFunc.much {n:Nat}(x:MFunc n):Prop:=30<x.blocks.length\/Zy x.params\/Zy x.results
def MBlock.much {n:Nat}(x:MBlock n):Prop:=200<x.code.length\/Zy x.params\/300<x.fin.args.length\/300<x.fin.yes.regs.length\/300<x.fin.yes.args.length\/300<x.fin.no.regs.length\/300<x.fin.no.args.length
theorem Qaa (n:Nat) (m:List (MFunc n)) (p:Option Addr) (c:Nat) (w:World) (al:(QaM n).In w All m [.slice p m.length c]) :
 Rd prog 10 #[.agg #[.slice p m.length c]] w (.bool (ZU (Qm m))):=by
 have HM:=Qf al;have S:Hid (GbS w (w.alloc (.cells #[.slice p m.length c] 24)) [(w.heap.size,#[.slice p m.length c],24)]):=GbS.new ⟨Zr,fun i b hb=>by simp at hb⟩ _ _;clear al;unfold Rd;go_enter func10,ntmps10
 go_upto_region 1 with fail
 generalize w.alloc (.cells #[.slice p m.length c] 24)=w1 at S |-;generalize w.heap.size=X at S |-;have x0:=Qb (S.out.box 0 _ Yz) 0 _ Yz;by_cases c1:20<m.length
 ·have d:(20:Int)<m.length:=by omega
  have E:=QC (A:=Qm m) (.inl c1);have I:=Qf S.out.bel;clear S;go_wp2_with fail
  go_ret;exact⟨by first | rfl | (rw[E];done) | (rw[E];rfl),I.out⟩
 have d:¬ (20:Int)<m.length:=by omega
 go_wp2_with fail
 clear x0;go_loopw [3] (fun i wr=>∃ k:Nat,k<=m.length/\i=Iv k/\GbS w wr [(X,#[.slice p m.length c],24)]/\∀ (j:Nat) f,j<k->m[j]?=some f->¬ f.great) (fun i _=>m.length - (intOf i).toNat)
 case atStart=>exact⟨0,Xb _,Yz,S.out,fun j z C=>absurd C (XG _)⟩
 case round =>
  obtain⟨k,hk,rfl,Q,o⟩:=hrel
  have SR:=Qf Q;have ao:=Qf o;clear Q o S;obtain⟨wf,av⟩:∃ wf,wf=wr:=⟨_,Yz⟩
  subst av;have x0:=Qb (SR.out.box 0 _ Yz) 0 _ Yz;by_cases a2:k<m.length
  rotate_left
  ·have ap:¬ (k:Int)<m.length:=by omega
   have E:ZU (Qm m)=false:=QB (by
    rintro (h | ⟨t,ht,h⟩)
    ·exact c1 h
    ·obtain⟨j,C⟩:=List.mem_iff_getElem?.1 ht
     exact ao.out j t (by have:=(Zi C).1;omega) C h)
   have I:=Qf SR.out.bel;clear SR;go_wp2_with fail
   go_ret;exact⟨by first | rfl | (rw[E];done) | (rw[E];rfl),I.out⟩
  have ap:(k:Int)<m.length:=by omega
  have M:m[k]?=some m[k]:=Zg a2;generalize m[k]=x at M;have ae:=Qf M;have af:Hid (x.great->ZU (Qm m)=true):=fun h=>QC (.inr ⟨x,Zm ae.out,h⟩);obtain⟨g1,o1,l,rfl,E1,ac⟩:=Qfy HM.out M
  have V:=Qf ac;have R1:Hid (wf.rangeAt g1 (o1+k*4) [Iv x.regs,.slice l.pP x.params.length l.cP,.slice l.pR x.results.length l.cR,.slice l.pB x.blocks.length l.cB]):=fun j v C=>Qk (E1 j v C) SR.out.bel;have v0:wf.cell? ⟨g1,o1+k*4,none⟩=some (Iv x.regs):=R1.out 0 _ Yz;have v1:=R1.out 1 _ Yz;have v2:=R1.out 2 _ Yz;have v3:=R1.out 3 _ Yz;have F:=Qf (SR.out.new #[Iv x.regs,.slice l.pP x.params.length l.cP,.slice l.pR x.results.length l.cR,.slice l.pB x.blocks.length l.cB] 89);clear M E1 ac R1 SR;go_upto_region 7 with fail
  generalize wf.alloc (.cells #[Iv x.regs,.slice l.pP x.params.length l.cP,.slice l.pR x.results.length l.cR,.slice l.pB x.blocks.length l.cB] 89)=w6 at F |-;generalize wf.heap.size=Y at F |-;clear v0 v1 v2 v3 x0;generalize hL:([(Y,#[Iv x.regs,.slice l.pP x.params.length l.cP,.slice l.pR x.results.length l.cR,.slice l.pB x.blocks.length l.cB],89),(X,#[.slice (some ⟨g1,o1,none⟩) m.length c],24)]:List (Nat × Array Value × TypeId))=L at F;have BX:Hid (∀ wx,GbS w wx L->Blk wx Y #[Iv x.regs,.slice l.pP x.params.length l.cP,.slice l.pR x.results.length l.cR,.slice l.pB x.blocks.length l.cB] 89/\GbS w wx [(X,#[.slice (some ⟨g1,o1,none⟩) m.length c],24)]):=by subst hL;exact fun wx h=>⟨h.box 0 _ Yz,h.drop⟩
  clear hL;have q1:=Qb (BX.out _ F.out).1 1 _ Yz;have q2:=Qb (BX.out _ F.out).1 2 _ Yz;have q3:=Qb (BX.out _ F.out).1 3 _ Yz;go_cut [37] (fun v wx=>v=.bool (ZU x.much)/\GbS w wx L)
  case first =>
   by_cases h:30<x.blocks.length
   ·have d1:decide ((x.blocks.length:Int)>30)=true:=Xt (by omega);have E:=QC (A:=x.much) (.inl h);go_wp2
    go_meet;exact⟨by first | rfl | (rw[E];done) | (rw[E];rfl),F.out⟩
   have d1:decide ((x.blocks.length:Int)>30)=false:=Xu (by omega);have B:=Qf (Qan n x.params l.pP l.cP w6 (QU (Ya V.out.params F.out.bel)).1);unfold Rd at B;by_cases J:Zy x.params
   ·have E:=QC (A:=x.much) (.inr (.inl J));rw[QC J] at B
    go_wp2_with fail
    refine B.out.mono ?_;rintro _ wa ⟨rfl,G⟩;have r:=Qf (F.out.below G);clear G B;go_wp2
    go_meet;exact⟨by first | rfl | (rw[E];done) | (rw[E];rfl),r.out⟩
   rw[QB J] at B
   go_wp2_with fail
   refine B.out.mono ?_;rintro _ wa ⟨rfl,G⟩;have r:=Qf (F.out.below G);clear G B q1 q2 q3;have q2:=Qb (BX.out _ r.out).1 2 _ Yz;have CR:=Qf (Qan n x.results l.pR l.cR wa (QU (Ya V.out.results r.out.bel)).1);unfold Rd at CR
   have E:ZU x.much=ZU (Zy x.results):=by
    by_cases hr:Zy x.results
    ·rw[QC hr];exact QC (.inr (.inr hr))
    ·rw[QB hr];exact QB (fun e=>by rcases e with e | e | e;exact h e;exact J e;exact hr e)
   go_wp2_with fail
   refine CR.out.mono ?_;rintro _ N ⟨rfl,bb⟩;have SB:=Qf (r.out.below bb);clear bb CR q2;go_wp2
   all_goals
    go_meet;exact⟨by first | rfl | (rw[E];done) | (rw[E];rfl),SB.out⟩
  case rest =>
   obtain⟨rfl,R⟩:=hcut
   have S7:=Qf R;clear R F q1 q2 q3;by_cases P:x.much
   ·rw[QC P]
    have E:=af.out (by rcases P with h | h | h;exact .inl h;exact .inr (.inl h);exact .inr (.inr (.inl h)));have I:=Qf S7.out.bel;clear S7 P;go_wp2_with fail
    go_ret;exact⟨by first | rfl | (rw[E];done) | (rw[E];rfl),I.out⟩
   rw[QB P]
   have a5:x.blocks.length<=30:=Xo fun h=>P (.inl h);go_wp2_with fail
   go_loopw [5] (fun i wr=>∃ q:Nat,q<=x.blocks.length/\i=Iv q/\GbS w wr L/\∀ (j:Nat) y,j<q->x.blocks[j]?=some y->¬ y.great) (fun i _=>x.blocks.length - (intOf i).toNat)
   case atStart=>exact⟨0,Xb _,Yz,S7.out,fun j z C=>absurd C (XG _)⟩
   case round =>
    obtain⟨q,hq,rfl,Q,o⟩:=hrel
    have SQ:=Qf Q;have am:=Qf o;clear Q o S7;obtain⟨N,aq⟩:∃ N,N=wr:=⟨_,Yz⟩
    subst aq;have q3:=Qb (BX.out _ SQ.out).1 3 _ Yz;by_cases a3:q<x.blocks.length
    rotate_left
    ·have an:¬ (q:Int)<x.blocks.length:=by omega
     go_wp2_with fail
     go_roundw
     case rel =>
      refine⟨k+1,by omega,by go_num,(BX.out _ SQ.out).2,fun j f C hf=>?_⟩
      by_cases aw:j<k
      ·exact ao.out j f aw hf
      ·have:j=k:=by omega
       subst this;rw[ae.out] at hf
       cases hf
       rintro (h | h | h | ⟨y,hy,h⟩)
       ·exact P (.inl h)
       ·exact P (.inr (.inl h))
       ·exact P (.inr (.inr h))
       ·obtain⟨i,hi⟩:=List.mem_iff_getElem?.1 hy
        exact am.out i y (by have:=(Zi hi).1;omega) hi h
     case measure=>simp[intOf];omega
    have an:(q:Int)<x.blocks.length:=by omega
    have O:x.blocks[q]?=some x.blocks[q]:=Zg a3;generalize x.blocks[q]=y at O;have ai:=Qf O;have ad:Hid (y.great->ZU (Qm m)=true):=fun h=>af.out (.inr (.inr (.inr ⟨y,Zm ai.out,h⟩)));obtain⟨g2,o2,g,e2,E2,ak⟩:=Qd6 V.out.blocks O
    have aj:=Qf ak;rw[e2] at q3
    generalize aa:([Iv y.regs,.slice g.pP y.params.length g.cP,.slice g.pC y.code.length g.cC,Iv y.fin.op,Iv y.fin.a,Iv y.fin.yes.block,.slice g.e.pYR y.fin.yes.regs.length g.e.cYR,.slice g.e.pYA y.fin.yes.args.length g.e.cYA,Iv y.fin.no.block,.slice g.e.pNR y.fin.no.regs.length g.e.cNR,.slice g.e.pNA y.fin.no.args.length g.e.cNA,.slice g.e.pA y.fin.args.length g.e.cA]:List Value)=cs at E2;have hl:cs.length=12:=by rw[<-aa];rfl
    have MB:=Qf (Qm1.of N hl);have TO:Hid (cs.toArray.all (·.oneCell')=true):=by show _=_;rw[<-aa];exact all_oneCell_toArray (Xe.1 Yz)
    have RG:Hid (N.rangeAt g2 (o2+q*12) cs):=fun j v C=>Qk (E2 j v C) SQ.out.bel;clear O E2 ak hl e2;go_upto_region 13 with (first | (refine wpList_load_mid Yz 86 (.tmp 48) Yz g2 (o2+q*12) Yz cs _ RG.out underlying86 Yz MB.out.size ?_) | (refine wpList_store_mid Yz 86 (.tmp 6) (.tmp 49) Yz N.heap.size 0 cs.toArray Yz Yz MB.out.there MB.out.size2 TO.out ?_))
    have H:=Qf ((SQ.out.below MB.out.bel).add MB.out.blk);clear SQ q3 RG TO MB;generalize (N.alloc (.cells #[Iv 0,Nv,Nv,Iv 0,Iv 0,Iv 0,Nv,Nv,Iv 0,Nv,Nv,Nv] 86)).setCells N.heap.size 0 cs=w3 at H |-;generalize N.heap.size=Z at H |-;subst aa;simp only[Act.put]
    generalize ag:((Z,#[Iv y.regs,.slice g.pP y.params.length g.cP,.slice g.pC y.code.length g.cC,Iv y.fin.op,Iv y.fin.a,Iv y.fin.yes.block,.slice g.e.pYR y.fin.yes.regs.length g.e.cYR,.slice g.e.pYA y.fin.yes.args.length g.e.cYA,Iv y.fin.no.block,.slice g.e.pNR y.fin.no.regs.length g.e.cNR,.slice g.e.pNA y.fin.no.args.length g.e.cNA,.slice g.e.pA y.fin.args.length g.e.cA],86)::L:List (Nat × Array Value × TypeId))=L2 at H;have K:Hid (∀ wx,GbS w wx L2->Blk wx Z #[Iv y.regs,.slice g.pP y.params.length g.cP,.slice g.pC y.code.length g.cC,Iv y.fin.op,Iv y.fin.a,Iv y.fin.yes.block,.slice g.e.pYR y.fin.yes.regs.length g.e.cYR,.slice g.e.pYA y.fin.yes.args.length g.e.cYA,Iv y.fin.no.block,.slice g.e.pNR y.fin.no.regs.length g.e.cNR,.slice g.e.pNA y.fin.no.args.length g.e.cNA,.slice g.e.pA y.fin.args.length g.e.cA] 86/\GbS w wx L):=by subst ag;exact fun wx h=>⟨h.box 0 _ Yz,h.drop⟩
    clear ag;have z1:=Qb (K.out _ H.out).1 1 _ Yz;have z2:=Qb (K.out _ H.out).1 2 _ Yz;go_cut [97] (fun v wx=>v=.bool (ZU y.much)/\GbS w wx L2)
    case first =>
     by_cases h:200<y.code.length
     ·have d1:decide ((y.code.length:Int)>200)=true:=Xt (by omega);have E:=QC (A:=y.much) (.inl h);go_wp2
      go_meet;exact⟨by first | rfl | (rw[E];done) | (rw[E];rfl),H.out⟩
     have d1:decide ((y.code.length:Int)>200)=false:=Xu (by omega);have B:=Qf (Qan n y.params g.pP g.cP w3 (QU (Ya aj.out.params H.out.bel)).1);unfold Rd at B;by_cases J:Zy y.params
     ·have E:=QC (A:=y.much) (.inr (.inl J));rw[QC J] at B
      go_wp2_with fail
      refine B.out.mono ?_;rintro _ wa ⟨rfl,G⟩;have r:=Qf (H.out.below G);clear G B;go_wp2
      go_meet;exact⟨by first | rfl | (rw[E];done) | (rw[E];rfl),r.out⟩
     rw[QB J] at B
     go_wp2_with fail
     refine B.out.mono ?_;rintro _ wa ⟨rfl,G⟩;have r:=Qf (H.out.below G);clear G B z1 z2;have z6:=Qb (K.out _ r.out).1 6 _ Yz;have z7:=Qb (K.out _ r.out).1 7 _ Yz;have z9:=Qb (K.out _ r.out).1 9 _ Yz;have a1:=Qb (K.out _ r.out).1 10 _ Yz;have az:=Qb (K.out _ r.out).1 11 _ Yz
     have s:Hid (ZU y.much=(decide ((y.fin.args.length:Int)>300)||(decide ((y.fin.yes.regs.length:Int)>300)||(decide ((y.fin.yes.args.length:Int)>300)||(decide ((y.fin.no.regs.length:Int)>300)||decide ((y.fin.no.args.length:Int)>300)))))):=by
      show _=_
      have e9:y.much↔((y.fin.args.length:Int)>300\/(y.fin.yes.regs.length:Int)>300\/(y.fin.yes.args.length:Int)>300\/(y.fin.no.regs.length:Int)>300\/(y.fin.no.args.length:Int)>300):=by
       unfold MBlock.much;constructor
       ·rintro (e | e | e)
        ·exact absurd e h
        ·exact absurd e J
        ·omega
       ·intro e;right;right;omega
      by_cases hy:y.much
      ·rw[QC hy];have:=e9.1 hy;simp only[<-Bool.decide_or];exact(Xt this).symm
      ·rw[QB hy];have:=fun e=>hy (e9.2 e);simp only[<-Bool.decide_or];exact(Xu this).symm
     generalize y.fin.args.length=n1 at s az |-;generalize y.fin.yes.regs.length=n2 at s z6 |-;generalize y.fin.yes.args.length=n3 at s z7 |-;generalize y.fin.no.regs.length=n4 at s z9 |-;generalize y.fin.no.args.length=n5 at s a1 |-;by_cases k1:(n1:Int)>300
     ·have U:decide ((n1:Int)>300)=true:=Xt k1;rw[U] at s
      go_wp2
      go_meet;exact⟨by rw[s.out];first | done | rfl,r.out⟩
     have e1:decide ((n1:Int)>300)=false:=Xu k1;rw[e1] at s
     by_cases k2:(n2:Int)>300
     ·have U:decide ((n2:Int)>300)=true:=Xt k2;rw[U] at s
      go_wp2
      go_meet;exact⟨by rw[s.out];first | done | rfl,r.out⟩
     have e2:decide ((n2:Int)>300)=false:=Xu k2;rw[e2] at s
     by_cases k3:(n3:Int)>300
     ·have U:decide ((n3:Int)>300)=true:=Xt k3;rw[U] at s
      go_wp2
      go_meet;exact⟨by rw[s.out];first | done | rfl,r.out⟩
     have e3:decide ((n3:Int)>300)=false:=Xu k3;rw[e3] at s
     by_cases k4:(n4:Int)>300
     ·have U:decide ((n4:Int)>300)=true:=Xt k4;rw[U] at s
      go_wp2
      go_meet;exact⟨by rw[s.out];first | done | rfl,r.out⟩
     have e4:decide ((n4:Int)>300)=false:=Xu k4;rw[e4] at s
     go_wp2
     all_goals
      go_meet;exact⟨by rw[s.out];first | done | rfl,r.out⟩
    case rest =>
     obtain⟨rfl,R⟩:=hcut
     have S4:=Qf R;clear R H z1 z2;by_cases D:y.much
     ·rw[QC D]
      have E:=ad.out (by rcases D with h | h | h | h | h | h | h;exact .inl h;exact .inr (.inl h);exact .inr (.inr (.inl h));exact .inr (.inr (.inr (.inl h)));exact .inr (.inr (.inr (.inr (.inl h))));exact .inr (.inr (.inr (.inr (.inr (.inl h)))));exact .inr (.inr (.inr (.inr (.inr (.inr (.inl h)))))));have I:=Qf S4.out.bel;clear S4 D;go_wp2_with fail
      go_ret;exact⟨by first | rfl | (rw[E];done) | (rw[E];rfl),I.out⟩
     rw[QB D]
     have a4:y.code.length<=200:=Xo fun h=>D (.inl h);go_wp2_with fail
     go_loopw [7] (fun i wr=>∃ t:Nat,t<=y.code.length/\i=Iv t/\GbS w wr L2/\∀ (j:Nat) z,j<t->y.code[j]?=some z->¬ (300<z.regs.length\/300<z.args.length)) (fun i _=>y.code.length - (intOf i).toNat)
     case atStart=>exact⟨0,Xb _,Yz,S4.out,fun j z C=>absurd C (XG _)⟩
     case round =>
      obtain⟨t,ht,rfl,Q,o⟩:=hrel
      have W:=Qf Q;have ah:=Qf o;clear Q o S4;have z2:=Qb (K.out _ W.out).1 2 _ Yz;by_cases ax:t<y.code.length
      rotate_left
      ·have ab:¬ (t:Int)<y.code.length:=by omega
       go_wp2_with fail
       go_roundw
       case rel =>
        refine⟨q+1,by omega,by go_num,(K.out _ W.out).2,fun j u C T=>?_⟩
        by_cases au:j<q
        ·exact am.out j u au T
        ·have:j=q:=by omega
         subst this;rw[ai.out] at T
         cases T
         rintro (h | h | h | h | h | h | h | ⟨z,hz,h⟩)
         ·exact D (.inl h)
         ·exact D (.inr (.inl h))
         ·exact D (.inr (.inr (.inl h)))
         ·exact D (.inr (.inr (.inr (.inl h))))
         ·exact D (.inr (.inr (.inr (.inr (.inl h)))))
         ·exact D (.inr (.inr (.inr (.inr (.inr (.inl h))))))
         ·exact D (.inr (.inr (.inr (.inr (.inr (.inr h))))))
         ·obtain⟨i,hi⟩:=List.mem_iff_getElem?.1 hz
          exact ah.out i z (by have:=(Zi hi).1;omega) hi h
       case measure=>simp[intOf];omega
      have ab:(t:Int)<y.code.length:=by omega
      have hz:y.code[t]?=some y.code[t]:=Zg ax;generalize y.code[t]=z at hz;have HZ:=Qf hz;obtain⟨g3,o3,i3,e3,E3,-⟩:=Qib aj.out.code hz
      rw[e3] at z2
      have ay:=Qk (show w.cell? ⟨g3,o3+t*8+6,none⟩=_ from E3 6 _ Yz) W.out.bel;have a0:=Qk (show w.cell? ⟨g3,o3+t*8+7,none⟩=_ from E3 7 _ Yz) W.out.bel;clear hz E3 e3;go_upto_region 18 with fail
      go_cut [122] (fun v wx=>v=.bool (decide (300<z.regs.length\/300<z.args.length))/\GbS w wx L2)
      case first =>
       by_cases h:(z.regs.length:Int)>300
       ·have d1:decide ((z.regs.length:Int)>300)=true:=Xt h;have E:decide (300<z.regs.length\/300<z.args.length)=true:=Xt (by omega);go_wp2
        go_meet;exact⟨by first | rfl | (rw[E];done) | (rw[E];rfl),W.out⟩
       ·have d1:decide ((z.regs.length:Int)>300)=false:=Xu h;have E:decide (300<z.regs.length\/300<z.args.length)=decide ((z.args.length:Int)>300):=by rw[decide_eq_decide];omega
        go_wp2
        all_goals
         go_meet;exact⟨by first | rfl | (rw[E];done) | (rw[E];rfl),W.out⟩
      case rest =>
       obtain⟨rfl,R⟩:=hcut
       have SU:=Qf R;clear R W z2 ay a0;by_cases c4:300<z.regs.length\/300<z.args.length
       ·rw[Xt c4]
        have E:=ad.out (.inr (.inr (.inr (.inr (.inr (.inr (.inr ⟨z,Zm HZ.out,c4⟩)))))));have I:=Qf SU.out.bel;clear SU c4;go_wp2_with fail
        go_ret;exact⟨by first | rfl | (rw[E];done) | (rw[E];rfl),I.out⟩
       ·rw[Xu c4]
        go_wp2_with fail
        go_roundw
        case rel =>
         refine⟨t+1,by omega,by go_num,SU.out,fun j u C T=>?_⟩
         by_cases ar:j<t
         ·exact ah.out j u ar T
         ·have:j=t:=by omega
          subst this;rw[HZ.out] at T
          cases T
          exact c4
        case measure=>simp[intOf];omega
theorem Qkw {j:Nat}{m:List (MFunc j)}{fu:Int}(l:(QaM j).In w All m [.slice pm m.length cm]) (h:Qm m\/3000<fu) :
 Calls prog 11 #[.agg #[.slice pm m.length cm],Iv fu] w fun e w'=>e=.returned (.bool true)/\Below w.heap.size w w':=by
 have c:=Qc ((Bxs.start w).new #[.slice pm m.length cm] 24);have b:Hid (∀ d,Below w.heap.size w d->Calls prog 10 #[.agg #[.slice pm m.length cm]] d fun e w'=>e=.returned (.bool (ZU (Qm m)))/\Below d.heap.size d w'):=fun d p=>Qaa j m pm cm d (Ya l p);clear l;have H:=Qc h;clear h;go_enter func11,ntmps11
 go_upto_region 1 with fail
 generalize w.alloc (.cells #[.slice pm m.length cm] 24)=k at c |-;generalize w.heap.size=X at c |-;have q:k.cell? ⟨X,0,none⟩=some (.slice pm m.length cm):=c.out.cell (a:=[]) 0 _ Z;by_cases f:Qm m
 ·have b:=Qc (b.out k c.out.bel);rw[show ZU (Qm m)=true from QC f] at b
  clear f;go_wp2_with fail
  refine b.out.mono ?_;rintro n o ⟨rfl,g⟩;have i:=Qc (c.out.below g);clear g;go_wp2
  go_ret;exact⟨Z,i.out.bel⟩
 ·have b:=Qc (b.out k c.out.bel);rw[show ZU (Qm m)=false from QB f] at b
  have r:decide (fu>3000)=true:=Xt (by have:=H.out;rcases this with e | e;exact absurd e f;exact e);clear f;go_wp2_with fail
  refine b.out.mono ?_;rintro n o ⟨rfl,g⟩;have i:=Qc (c.out.below g);clear g;go_wp2
  go_ret;exact⟨Z,i.out.bel⟩
theorem Ql4 {d:Nat}{m:List (MFunc d)}{fu:Int}(g:(QaM d).In w All m [.slice pm m.length cm]) (h:¬ (Qm m\/3000<fu)) :
 Calls prog 11 #[.agg #[.slice pm m.length cm],Iv fu] w fun e w'=>e=.returned (.bool false)/\Below w.heap.size w w':=by
 have c:=Qc ((Bxs.start w).new #[.slice pm m.length cm] 24);have b:=Qaa d m pm cm _ (Ya g (ZP w (.cells #[.slice pm m.length cm] 24)));rw[show ZU (Qm m)=false from QB (fun e=>h (.inl e))] at b
 have b:Hid (Calls prog 10 #[.agg #[.slice pm m.length cm]] (w.alloc (.cells #[.slice pm m.length cm] 24)) fun e w'=>e=.returned (.bool false)/\Below (w.alloc (.cells #[.slice pm m.length cm] 24)).heap.size (w.alloc (.cells #[.slice pm m.length cm] 24)) w'):=b;have o:decide (fu>3000)=false:=Xu (fun e=>h (.inr e));clear g h;go_enter func11,ntmps11
 go_upto_region 1 with fail
 generalize w.alloc (.cells #[.slice pm m.length cm] 24)=j at c b |-;generalize w.heap.size=X at c |-;have l:j.cell? ⟨X,0,none⟩=some (.slice pm m.length cm):=c.out.cell (a:=[]) 0 _ Z;go_wp2_with fail
 refine b.out.mono ?_;rintro k n ⟨rfl,f⟩;have i:=Qc (c.out.below f);clear f;go_wp2
 go_ret;exact⟨Z,i.out.bel⟩
theorem QjH.below {lo:Nat}{N:RM}(h:QjH lo N v w) (b:Below w.heap.size w w'):QjH lo N v w':=by
 obtain⟨c,a,rfl,e,d⟩:=h
 exact⟨c,a,Z,e.below b,d.below b⟩
def Qme (w6:World) (b:Nat) (N:RM) (ab ao:Option Addr) (cb co:Nat) (t:Tmp) (v:Value) (w:World):Prop :=
 match ([(70,QjH w6.heap.size N)]:List (Tmp × (Value->World->Prop))).lookup t with
 | some p=>p v w
 | none=>v=(([(69,.pointer (some ⟨b,0,none⟩)),(71,.agg #[.int .i64 N.fin,.slice ab N.back.length cb,.slice ao N.out.length co,.int .i64 N.fuel]),(72,.bool true),(10,.bool true),(13,.pointer (some ⟨b,0,none⟩))]:List (Tmp × Value)).lookup t).getD undef
theorem QnR {Z C D:Nat}{N:RM}{l k:Option Addr}(z:Blk w6 Z #[Iv N.fin,.slice l N.back.length C,.slice k N.out.length D,Iv N.fuel] 44) (R:Qcz w6 l N.back) (lo:Qcz w6 k N.out) (T:N.back.length<=100000) (W:N.out.length<=100000)
 (CO:Hid (∀ wx,Below w6.heap.size w6 wx->Calls prog 37 #[Pv b 0] wx fun e w'=>∃ v,e=.returned v/\QjH wx.heap.size N v w'/\Below wx.heap.size wx w'))
 (a:Act) (m:Nat) (hn:a.tmps.size=m) (r:73<=m) (u:a.tmps.getD 11 undef=Pv Z 0) (s:a.tmps.getD 13 undef=Pv b 0) :
 Code.wp prog ((Tryz.f8.body.bind (Qi 16)).getD .skip) (fun e a' w'=>e=.normal/\∃ vs,a'=QM a vs [69,70,71,72,10]/\vs 10=.bool true/\Below w6.heap.size w6 w') a w6:=by
 have z0:=Qb z 0 _ Yz;have P:=Qb z 1 _ Yz;have Q:=Qb z 2 _ Yz;have z3:=Qb z 3 _ Yz;conv=>arg 2;whnf
 refine Qdm (fun t v w=>if t=11 then v=Pv Z 0 else Qme w6 b N l k C D t v w) (fun w=>Below w6.heap.size w6 w) (fun w w'=>Below w.heap.size w w') (outs:=[11,13]) (gs:=[]) (bs:=[true,true,true,true,true]) (by kernel_rfl) (n:=73) hn r (by kernel_rfl) ?hR ?hG (QI Zr 1) ⟨u,s,Y⟩ ?hA ?hend
 case hR =>
  intro t v w w' hr h;by_cases L:t=11
  ·rw[Xs L] at h |-;exact h
  rw[Xr L] at h |-
  unfold Qme at h |-;split at h
  ·rename_i p j
   simp only[List.lookup_cons,List.lookup_nil] at j
   split at j
   ·cases j;exact QjH.below h hr
   ·cases j
  ·exact h
 case hG=>exact Y
 case hend=>exact fun vs w' c f=>⟨Yz,vs,Yz,f 10 (by kernel_rfl),c⟩
 case hA =>
  refine⟨fun a w c f K g=>?_,?_⟩
  ·obtain⟨d,-⟩:=f
   have d:a.tmps.getD 13 undef=Pv b 0:=d;go_simp;exact g _ _ Zr c Yz
  refine⟨fun a w c f K g=>?_,?_⟩
  ·obtain⟨d,-⟩:=f
   have d:a.tmps.getD 69 undef=Pv b 0:=d;go_simp;refine Xm (CO.out w c) ?_;rintro O w7 ⟨v,rfl,V,i⟩;go_simp;obtain⟨I,H,rfl,⟨M,q,e1,y,F,X⟩,⟨J,B,U,q1,q2,S⟩⟩:=V
   exact g _ _ i (c.trans (i.mono c.size)) ⟨I,H,Yz,⟨M,q,e1,y,F,fun x o=>Zt c.size (X x o)⟩,⟨J,B,U,q1,q2,fun x o=>Zt c.size (S x o)⟩⟩
  refine⟨fun a w c f K g=>?_,?_⟩
  ·obtain⟨d,-⟩:=f
   have d:a.tmps.getD 11 undef=Pv Z 0:=d;have c0:=Qk z0 c;have q:=Qk P c;have B:=Qk Q c;have c3:=Qk z3 c;go_simp;exact g _ _ Zr c Yz
  refine⟨fun a w c f K g=>?_,?_⟩
  ·obtain⟨d,G,-⟩:=f
   have d:QjH w6.heap.size N (a.tmps.getD 70 undef) w:=d;have G:a.tmps.getD 71 undef=.agg #[Iv N.fin,.slice l N.back.length C,.slice k N.out.length D,Iv N.fuel]:=G;obtain⟨I,H,aa,E,A⟩:=d
   obtain⟨M,q,rfl,-⟩:=id E
   obtain⟨J,B,rfl,-⟩:=id A
   have y:=E.lg.2;have F:=A.lg.2;clear E A;go_simp;refine Xm (QbZ T W y (R.below c) F (lo.below c)) ?_;rintro O w7 ⟨rfl,i⟩;go_simp;exact g _ _ i (c.trans (i.mono c.size)) Yz
  refine⟨fun a w c f K g=>?_,?_⟩
  ·obtain⟨d,-⟩:=f
   have d:a.tmps.getD 72 undef=.bool true:=d;go_simp;exact g _ _ Zr c Yz
  trivial
def Qge (w:World) (inp:List Int) (most pages:Nat) (e:Ending) (w':World):Prop :=
 (∃ c a:Int,c≠0/\e=.returned (.tuple #[.pointer none,Qbv c a])/\Below w.heap.size w w')\/∃ o:List (MFunc 6),(modFault o).1=0/\QfO o most (RM.start inp pages)/\ROk o 0 (RM.start inp pages)/\QiY w o inp most pages e w'
structure Qnw (w:World) (VM VO VI:Value) (m:List (MFunc 6)) (inp:List Int) (most pages:Nat):Prop where
 fine:(modFault m).1=0
 le:most<=20000
 goes:QfO m most (RM.start inp pages)
 ok:ROk m 0 (RM.start inp pages)
 run:∀ wx,Below w.heap.size w wx->Calls prog 30 #[VM,VI,Iv (most:Int),Iv (pages:Int)] wx fun e w'=>Qek wx m inp most pages e w'
 new:∀ wx,Below w.heap.size w wx->Calls prog 32 #[VM,VI,Iv (most:Int),Iv (pages:Int)] wx fun e w'=>QiY wx m inp most pages e w'
 other:∀ wx,Below w.heap.size w wx->Calls prog 32 #[VO,VI,Iv (most:Int),Iv (pages:Int)] wx fun e w'=>Qge wx inp most pages e w'
structure Qmw (w7:World) (bx F most:Nat) (m:List (MFunc 6)) (X0:RM) (yv:Value) (c:Int) (P:World->RM->Prop):Prop where
 at_:∀ wr X,P wr X->∃ g j,Qey w7 wr bx most m X0 X g j/\j<=most+1
 fb:∀ wr X,P wr X->wr.cell? ⟨F,0,none⟩=some (Iv c)
 gx:∀ wr X,P wr X->X.done=false->Calls prog 34 #[Pv bx 0] wr fun e w'=>e=.returned (.tuple #[])/\∃ X',P w' X'/\(X'.done=false->X'.fuel=X.fuel+1)
 gy:c=0->∀ wr X,P wr X->Calls prog 34 #[yv] wr fun e w'=>e=.returned (.tuple #[])/\P w' X
theorem Qhw {B w9 d:World}{D:Nat}{m:List (MFunc 6)}{l:WG}{e:Ending}(L:(modFault m).1=0) (s:most<=20000) (Q:QfO m most (RM.start inp pages)) (M:ROk m 0 (RM.start inp pages))
 (Z:Qey B w9 D most m (RM.start inp pages) (RM.start inp pages) l 0) (S:Qge w9 inp most pages e d) :
 ∃ (yv:Value) (c a:Int) (P:World->RM->Prop),e=.returned (.tuple #[yv,Qbv c a])/\Below w9.heap.size w9 d/\P (d.alloc (.cells #[Iv c,Iv a] 32)) (RM.start inp pages)/\Qmw B D d.heap.size most m (RM.start inp pages) yv c P:=by
 have I:=XC Z.at_.box;rcases S with ⟨c,a,hc,rfl,b⟩|⟨o,T,H,W,⟨w,r,rfl,N,K,G,⟨-,y⟩,b⟩⟩
 ·have C:=ZP d (.cells #[Iv c,Iv a] 32);have V:=b.size;refine⟨.pointer none,c,a,fun wr X=>∃ g j,Qey B wr D most m (RM.start inp pages) X g j/\j<=most+1/\¬ g.A d.heap.size/\wr.heap[d.heap.size]?=some (.cells #[Iv c,Iv a] 32 (0,0)),Yz,b,⟨l,0,Z.below (b.trans (C.mono b.size)),Xb _,fun h=>by have:=Z.at_.lt _ h;omega,Qe _ _ _⟩,⟨?_,?_,?_,fun h=>absurd h hc⟩⟩
  ·rintro wr X ⟨g,j,f,n,-⟩;exact⟨g,j,f,n⟩
  ·rintro wr X ⟨g,j,f,n,J,z⟩;exact Qb z 0 _ Yz
  ·rintro wr X ⟨g,j,f,n,J,z⟩ v;refine(f.go L s Q M v).mono ?_
   rintro e R ⟨rfl,F,t,u,O,-,E⟩;have hF:=XC z;exact⟨Yz,F,⟨t,j+1,u,by have:=f.fu v;have:=f.le;omega,fun h=>(O.own _ h).elim J (fun q=>by omega),(O.block _ hF J).trans z⟩,E⟩
 ·have C:=ZP d (.cells #[Iv 0,Iv 0] 32);have V:=b.size;refine⟨Pv w 0,0,0,fun wr X=>∃ Y l r j k,Qdr B wr D w most m o (RM.start inp pages) (RM.start inp pages) X Y l r j k w9.heap.size d.heap.size #[Iv 0,Iv 0] 32/\j<=most+1,Yz,b,⟨_,l,r,0,0,Qdr.start Z I ?_ (N.below C) K G y (b.trans (C.mono b.size)) (Qe _ _ _) (fun h=>by have:=Z.at_.lt _ h;omega) (fun h=>by have:=N.lt _ h;omega),Xb _⟩,⟨?_,?_,?_,?_⟩⟩
  ·obtain⟨p,q,e,-⟩:=Z.at_.back
   exact⟨p,q,e,fun i U=>absurd U (XG i)⟩
  ·rintro wr X ⟨Y,l,r,j,k,f,n⟩;exact⟨l,j,f.x,n⟩
  ·rintro wr X ⟨Y,l,r,j,k,f,n⟩;exact Qb f.fb 0 _ Yz
  ·rintro wr X ⟨Y,l,r,j,k,f,n⟩ v;refine(f.goX L s Q M v).mono ?_
   rintro e R ⟨rfl,F,t,u,E⟩;exact⟨Yz,F,⟨Y,t,r,j+1,k,u,by have:=f.x.fu v;have:=f.x.le;omega⟩,E⟩
  ·rintro - wr X ⟨Y,l,r,j,k,f,n⟩;refine(f.goY T s H W).mono ?_
   rintro e R ⟨rfl,Y',t,k',u⟩;exact⟨Yz,Y',l,t,j,k',u,n⟩
theorem Qkt {dd de:Nat}{m:List (MFunc dd)}{o:List (MFunc de)}{A:Option Addr}{x:Nat}{fu pg:Int}
 (hM:(QaM dd).In w All m [.slice pm m.length cm]) (hO:(QaM de).In w All o [.slice A o.length x])
 (K:¬ Qm m->¬ Qm o->fu<=3000->(∃ c a:Int,c≠0/\∀ wx,Below w.heap.size w wx->Calls prog 30 #[.agg #[.slice pm m.length cm],.slice pi n ci,Iv fu,Iv pg] wx fun e w'=>e=.returned (QhY c a)/\Below wx.heap.size wx w') \/
  ∃ (m6:List (MFunc 6)) (inp:List Int) (most pages:Nat),fu=(most:Int)/\pg=(pages:Int)/\Qnw w (.agg #[.slice pm m.length cm]) (.agg #[.slice A o.length x]) (.slice pi n ci) m6 inp most pages) :
 Calls prog 8 #[.agg #[.slice pm m.length cm],.agg #[.slice A o.length x],.slice pi n ci,Iv fu,Iv pg] w fun e w'=>e=.returned (.bool true)/\Below w.heap.size w w':=by
 have u:=((Bxs.start w).new #[.slice pm m.length cm] 24).new #[.slice A o.length x] 24;rw[World.size_alloc] at u
 have u:=Qc u;have HM:=Qc hM;have HO:=Qc hO;have B:=Qc K;clear hM hO K;go_enter func8,ntmps8
 go_upto_region 1 with fail
 generalize (w.alloc (.cells #[.slice pm m.length cm] 24)).alloc (.cells #[.slice A o.length x] 24)=w2 at u |-;generalize w.heap.size+1=X2 at u |-;generalize w.heap.size=X at u |-;go_wp2_with fail
 refine(Qe7 w2).mono ?_
 rintro e3 w3 ⟨rfl,b3⟩;have I:=Qc (u.out.below b3);clear b3 u;have L:w3.cell? ⟨X,0,none⟩=some (.slice pm m.length cm):=I.out.cell (a:=[_]) 0 _ Yz;by_cases hl:Qm m\/3000<fu
 ·have CL:=Qc (Qkw (Ya HM.out I.out.bel) hl);clear hl;go_wp2_with fail
  refine CL.out.mono ?_;rintro e4 w4 ⟨rfl,b4⟩;have D:=Qc (I.out.below b4);clear b4;go_wp2
  go_ret;exact⟨Yz,D.out.bel⟩
 have CL:=Qc (Ql4 (Ya HM.out I.out.bel) hl);have HG:=Qc hl;clear hl;go_wp2_with fail
 refine CL.out.mono ?_;rintro e4 w4 ⟨rfl,b4⟩;have D:=Qc (I.out.below b4);clear b4 I CL L;have x1:w4.cell? ⟨X2,0,none⟩=some (.slice A o.length x):=D.out.cell (a:=[]) 0 _ Yz;have k:=Qaa de o A x w4 (Ya HO.out D.out.bel);by_cases T:Qm o
 ·rw[show ZU (Qm o)=true from QC T] at k
  have k:=Qc k;clear T;go_wp2_with fail
  refine k.out.mono ?_;rintro e5 w5 ⟨rfl,b5⟩;have q:=Qc (D.out.below b5);clear b5;go_wp2
  go_ret;exact⟨Yz,q.out.bel⟩
 rw[show ZU (Qm o)=false from QB T] at k
 have k:=Qc k;have ag:=Qc T;clear T;go_wp2_with fail
 refine k.out.mono ?_;rintro e5 w5 ⟨rfl,b5⟩;have q:=Qc (D.out.below b5);clear b5 D k x1;have L:w5.cell? ⟨X,0,none⟩=some (.slice pm m.length cm):=q.out.cell (a:=[_]) 0 _ Yz;have h3:fu<=3000:=by have:=HG.out;omega
 have K6:=B.out (fun e=>HG.out (.inl e)) ag.out h3;clear h3;rcases K6 with ⟨c,a,h,H⟩|⟨m6,inp,most,pages,rfl,rfl,Y6⟩
 ·have H:=Qc (H w5 q.out.bel);have d0:(c != 0)=true:=bne_iff_ne.2 h;clear h;go_wp2_with fail
  refine H.out.mono ?_;rintro e6 y ⟨rfl,S⟩;have b:=((q.out.below S).new #[Iv 0,Nv,Nv,Iv 0] 44).new #[Iv c,Iv a] 32;rw[World.size_alloc] at b
  have b:=Qc b;clear S H L q;simp only[QhY,Qbv]
  go_upto_region 6 with fail
  generalize (y.alloc (.cells #[Iv 0,Nv,Nv,Iv 0] 44)).alloc (.cells #[Iv c,Iv a] 32)=f at b |-;generalize y.heap.size+1=F at b |-;generalize y.heap.size=Z at b |-;have f0:f.cell? ⟨F,0,none⟩=some (Iv c):=b.out.cell (a:=[]) 0 _ Yz;have o0:f.cell? ⟨Z,0,none⟩=some (Iv 0):=b.out.cell (a:=[_]) 0 _ Yz;have o1:f.cell? ⟨Z,1,none⟩=some (Nv):=b.out.cell (a:=[_]) 1 _ Yz;have o2:f.cell? ⟨Z,2,none⟩=some (Nv):=b.out.cell (a:=[_]) 2 _ Yz;have o3:f.cell? ⟨Z,3,none⟩=some (Iv 0):=b.out.cell (a:=[_]) 3 _ Yz;have CS:Hid (∀ n,Calls prog 26 #[.agg #[Iv 0,Nv,Nv,Iv 0],.agg #[Iv 0,Nv,Nv,Iv 0]] (f.drewN n) fun e w'=>e=.returned (.bool true)/\Below (f.drewN n).heap.size (f.drewN n) w'):=fun n=>QbZ (l:=[]) (r:=[]) (by decide) (by decide) (Qcz.nil _ _) (Qcz.nil _ _) (Qcz.nil _ _) (Qcz.nil _ _);go_wp2_with fail
  refine(CS.out 0).mono ?_
  rintro e8 w8 ⟨rfl,E⟩;have B8:=Qc (b.out.below E);clear E;go_wp2
  go_ret;exact⟨Yz,B8.out.bel⟩
 have s:=Qc Y6;clear Y6 B;have H:=Qc (s.out.run w5 q.out.bel);go_wp2_with fail
 refine H.out.mono ?_;rintro e6 y ⟨N,v,hN,dN,⟨vb,vo,rfl,hb,ho⟩,rfl,S⟩;obtain⟨ab,cb,rfl,-⟩:=id hb
 obtain⟨ao,cq,rfl,-⟩:=id ho
 have b:=((q.out.below S).new #[Iv N.fin,.slice ab N.back.length cb,.slice ao N.out.length cq,Iv N.fuel] 44).new #[Iv 0,Iv 0] 32;rw[World.size_alloc] at b
 have b:=Qc b;have t:=Qc hb.lg.2;have p:=Qc ho.lg.2;have HN:=Qc hN;clear S H L q hb ho hN dN;simp only[Qbv]
 go_upto_region 6 with fail
 have b7:=Qj6 y (.cells #[Iv N.fin,.slice ab N.back.length cb,.slice ao N.out.length cq,Iv N.fuel] 44) (.cells #[Iv 0,Iv 0] 32);have t:=Qc (t.out.below b7);have p:=Qc (p.out.below b7);clear b7;generalize (y.alloc (.cells #[Iv N.fin,.slice ab N.back.length cb,.slice ao N.out.length cq,Iv N.fuel] 44)).alloc (.cells #[Iv 0,Iv 0] 32)=f at b t p |-;generalize y.heap.size+1=F at b |-;generalize y.heap.size=Z at b |-;have f0:f.cell? ⟨F,0,none⟩=some (Iv 0):=b.out.cell (a:=[]) 0 _ Yz;have L:f.cell? ⟨X,0,none⟩=some (.slice pm m.length cm):=b.out.cell (a:=[_,_,_]) 0 _ Yz;have CN:=Qc (s.out.new f b.out.bel);go_upto_region 8 with fail
 go_wp2_with fail
 refine CN.out.mono ?_;rintro e8 w8 ⟨U,gx,rfl,S8,ac,ae,⟨V,W⟩,E⟩;have b9:=ZP w8 (.cells #[Iv 0,Iv 0] 32);have ZX:Hid (Qey f (w8.alloc (.cells #[Iv 0,Iv 0] 32)) U most m6 (RM.start inp pages) (RM.start inp pages) gx 0):=⟨S8.below b9,ac,E.trans (b9.mono E.size),Yz,fun _=>rfl,Xb _,fun _=>rfl⟩;have M:=Qc ((b.out.below E).new #[Iv 0,Iv 0] 32);clear S8 ac ae V W E b9 CN f0 L;simp only[Qbv]
 go_upto_region 9 with fail
 generalize w8.alloc (.cells #[Iv 0,Iv 0] 32)=w9 at ZX M |-;generalize w8.heap.size=F3 at M |-;have x1:w9.cell? ⟨X2,0,none⟩=some (.slice A o.length x):=M.out.cell (a:=[_,_,_]) 0 _ Yz;have CY:=Qc (s.out.other w9 M.out.bel);go_wp2_with fail
 refine CY.out.mono ?_;intro ai aa hE;obtain⟨yv,c,a,P,rfl,ad,hP,i⟩:=Qhw s.out.fine s.out.le s.out.goes s.out.ok ZX.out hE
 have C:=Qc ((M.out.below ad).new #[Iv c,Iv a] 32);have i:=Qc i;have HP:=Qc hP;clear hE hP ad CY x1 ZX M;simp only[Qbv]
 go_upto_region 10 with fail
 generalize aa.alloc (.cells #[Iv c,Iv a] 32)=af at C HP |-;generalize aa.heap.size=F4 at C i |-;have g0:af.cell? ⟨F3,0,none⟩=some (Iv 0):=C.out.cell (a:=[_]) 0 _ Yz;go_upto_region 12 with fail
 clear g0;go_loopw [] (fun wr=>∃ X,P wr X) (fun wr=>Qj0 U most wr)
 case atStart=>exact⟨_,HP.out⟩
 case round =>
  obtain⟨XN,hX⟩:=hrel
  obtain⟨g,j,z,hj⟩:=i.out.at_ _ _ hX
  have CD:=Qc (QeN z.at_)
  cases hd:XN.done with
  | false =>
    have CX:=Qc (i.out.gx _ _ hX hd);have HL:=Qc z.at_.left;rw[hd] at CD HL
    clear hX z hd hj;go_upto_region 13 with (go_at_call 33;refine CD.out.mono ?_;rintro e' w' ⟨rfl,G⟩;have G:=G.symm;subst G)
    go_wp2_with fail
    refine CX.out.mono ?_;rintro e' ah ⟨rfl,X',d,hf⟩;have f4:=i.out.fb _ _ d;by_cases h:c=0
    ·have CY:=Qc (i.out.gy h _ _ d);have d1:decide (c=0)=true:=Xt h;have d2:(c==0)=true:=beq_iff_eq.2 h;clear d h;go_wp2_with fail
     refine CY.out.mono ?_;rintro e' ak ⟨rfl,d⟩;go_wp2_with fail
     go_roundw
     case rel=>exact⟨_,d⟩
     case measure =>
      obtain⟨g',j',R,-⟩:=i.out.at_ _ _ d
      rw[HL.out,R.at_.left]
      have h6:=R.le
      cases hd6:X'.done with
      | true=>simp
      | false=>have:=hf hd6;simp;omega
    ·have d1:decide (c=0)=false:=Xu h;have d2:(c==0)=false:=beq_eq_false_iff_ne.2 h;clear h;go_wp2_with fail
     go_roundw
     case rel=>exact⟨_,d⟩
     case measure =>
      obtain⟨g',j',R,-⟩:=i.out.at_ _ _ d
      rw[HL.out,R.at_.left]
      have h6:=R.le
      cases hd6:X'.done with
      | true=>simp
      | false=>have:=hf hd6;simp;omega
  | true =>
    have he:XN=N:=Xn ((z.end_ hj hd).symm.trans HN.out);have J:=QcR s.out.fine s.out.ok j z.st;have B:Hid (XN.out.length<=100000/\XN.back.length<=100000):=⟨by have:=J.out.1;omega,by have:=J.out.2;omega⟩;have CO:Hid (∀ wx,Below wr.heap.size wr wx->Calls prog 37 #[Pv U 0] wx fun e w'=>∃ v,e=.returned v/\QjH wx.heap.size XN v w'/\Below wx.heap.size wx w'):=fun wx U=>Qcl (z.at_.below U) (by have:=B.out.1;omega) (by have:=B.out.2;omega);have O:=Qc z.bel;have HE:=Qc he;rw[hd] at CD
    clear z hX hd hj he J;go_upto_region 16 with (go_at_call 33;refine CD.out.mono ?_;rintro e' w' ⟨rfl,G⟩;have G:=G.symm;subst G)
    rw[HE.out] at CO B
    refine Code.wp_mono ?_ (QnR (Blk.below (b.out.at (a:=[_])) O.out) (t.out.below O.out) (p.out.below O.out) B.out.2 B.out.1 CO _ _ Yz (Xg (by kernel_rfl)) Yz Yz);rintro _ _ aj ⟨rfl,vs,rfl,hv,Q⟩;have BZ:=Qc (b.out.bel.trans ((O.out.trans (Q.mono O.out.size)).mono b.out.bel.size));simp only[QM,Act.put,List.setIfInBounds_toArray,List.set_cons_zero,List.set_cons_succ,hv]
    clear hv Q;go_wp2
    go_ret;exact⟨Yz,BZ.out⟩
def Qmk (w:World) (pm:Option Addr) (ml cm:Nat):Prop :=
 (∃ c0 a0:Int,c0≠0/\∀ wx,Below w.heap.size w wx->Calls prog 66 #[.agg #[.slice pm ml cm]] wx fun e w'=>e=.returned (Qbv c0 a0)/\Below wx.heap.size wx w') \/
 ∃ m:List (MFunc 6),m.length=ml/\(QjP 6).In w All m [.slice pm ml cm]/\¬ Qm m/\(Qq m).1=0
theorem Qji {w:World}{m:List (MFunc n)}{pm:Option Addr}{cm:Nat}(d:(QiG n).In w All m [.slice pm m.length cm]) :
 ∃ (dd:Nat) (m':List (MFunc dd)),m'.length=m.length/\(QaM dd).In w All m' [.slice pm m'.length cm]/\(¬ Qm m'->Qmk w pm m'.length cm):=by
 by_cases c:(modFault m).1=0
 ·have g:m.length=(m.map (MFunc.at 5)).length:=(XN _).symm;have a:(QiG 6).In w All (m.map (MFunc.at 5)) [.slice pm (m.map (MFunc.at 5)).length cm]:=by rw[<-g];exact QlN (Qll c) d
  refine⟨6,m.map (MFunc.at 5),g.symm,(QfX 6).2 a,fun b=>?_⟩
  generalize m.map (MFunc.at 5)=f at a b;by_cases r:(Qq f).1=0
  ·exact .inr ⟨f,Z,(Qgk 6).2 a,b,r⟩
  ·exact .inl ⟨_,_,r,fun h e=>QbX (Ya ((Qgk 6).2 a) e) (ZD b) (fun _=>b)⟩
 ·exact⟨n,m,Z,(QfX n).2 d,fun b=>.inl ⟨_,_,c,fun h e=>Qcg (Ya ((QfX n).2 d) e) (ZD b) c⟩⟩
section
variable {w:World}{inp:List Int}{most pages ml cm ci:Nat}{pm pi:Option Addr}{fu pg:Int}
def Qd2 (n:Nat) (fu pg:Int):Prop:=¬ (200<n\/fu<0\/20000<fu\/pg<0\/64<pg)
theorem QhP {m:List (MFunc 6)}(c:(QjP 6).In w All m [.slice pm m.length cm]) (a:¬ Qm m) (H:(Qq m).1=0) (d:intsL.In w All inp [.slice pi inp.length ci]) (hi:inp.length<=200) (g:most<=20000) (h:pages<=64) :
 Calls prog 32 #[.agg #[.slice pm m.length cm],.slice pi inp.length ci,Iv (most:Int),Iv (pages:Int)] w fun e w'=>QiY w m inp most pages e w' :=
 Qgd ((QbB 6).2 c) (ZD a) d (Qmx d) hi g h (fun f b=>Qc7 c (ZD a) a H f b)
theorem Qmk.other (h:Qmk w pm ml cm) (q:intsL.In w All inp [.slice pi inp.length ci]) (hi:inp.length<=200) (l:most<=20000) (g:pages<=64) (d:World) (b:Below w.heap.size w d) :
 Calls prog 32 #[.agg #[.slice pm ml cm],.slice pi inp.length ci,Iv (most:Int),Iv (pages:Int)] d fun e w'=>Qge d inp most pages e w':=by
 rcases h with ⟨c,a,i,o⟩|⟨m,rfl,p,n,H⟩
 ·exact(Qh0 (fun j f=>o j (b.trans (f.mono b.size))) (by omega) (.inl ⟨i,Z,Z⟩)).mono fun e w' h=>.inl ⟨c,a,i,h.1,h.2⟩
 ·exact(QhP (Ya p b) n H (Ya q b) hi l g).mono fun e w' h=>.inr ⟨m,ZY H,fun k=>Qd0 H inp g k,QcM (ZY H) (by omega) g,h⟩
theorem Qmk.run (h:Qmk w pm ml cm) (r:intsL.In w All inp [.slice pi inp.length ci]) (p:inp.length<1152921504606846976) (o:Value)
 (u:Qd2 inp.length fu pg->∀ most pages:Nat,fu=(most:Int)->pg=(pages:Int)->∀ wx,Below w.heap.size w wx->Calls prog 32 #[o,.slice pi inp.length ci,Iv (most:Int),Iv (pages:Int)] wx fun e w'=>Qge wx inp most pages e w') :
 (∃ c a:Int,c≠0/\∀ wx,Below w.heap.size w wx->Calls prog 30 #[.agg #[.slice pm ml cm],.slice pi inp.length ci,Iv fu,Iv pg] wx fun e w'=>e=.returned (QhY c a)/\Below wx.heap.size wx w') \/
  ∃ (m6:List (MFunc 6)) (i6:List Int) (most pages:Nat),fu=(most:Int)/\pg=(pages:Int)/\Qnw w (.agg #[.slice pm ml cm]) o (.slice pi inp.length ci) m6 i6 most pages:=by
 rcases h with ⟨c,a,s,t⟩|⟨m,rfl,l,f,H⟩
 ·exact .inl ⟨c,a,s,fun wx b=>Qfs (fun i d=>t i (b.trans (d.mono b.size))) p (.inl ⟨s,Z,Z⟩)⟩
 by_cases q:200<inp.length\/fu<0\/20000<fu\/pg<0\/64<pg
 ·exact .inl ⟨1,-1,by decide,fun wx b=>Qfs (fun i d=>Qc7 l (ZD f) f H i (b.trans (d.mono b.size))) p (.inr ⟨Z,q,Z,Z⟩)⟩
 ·obtain⟨most,rfl⟩:∃ k:Nat,fu=(k:Int):=⟨fu.toNat,by omega⟩
  obtain⟨pages,rfl⟩:∃ k:Nat,pg=(k:Int):=⟨pg.toNat,by omega⟩
  have n:inp.length<=200:=by omega
  have j:most<=20000:=by omega
  have g:pages<=64:=by omega
  exact .inr ⟨m,inp,most,pages,Z,Z,ZY H,j,fun k=>Qd0 H inp g k,QcM (ZY H) (by omega) g,fun wx b=>Qjb (Ya l b) (ZD f) f H (Ya r b) n j g,fun wx b=>QhP (Ya l b) f H (Ya r b) n j g,u q most pages Z Z⟩
end
theorem Qhh {w:World}{m:List (MFunc n)}{o:List (MFunc k)}{pm h pi:Option Addr}{cm f ci:Nat}{inp:List Int}{fu pg:Int}(p:(QiG n).In w All m [.slice pm m.length cm]) (l:(QiG k).In w All o [.slice h o.length f]) (g:intsL.In w All inp [.slice pi inp.length ci]) (x:inp.length<1152921504606846976) :
 Calls prog 8 #[.agg #[.slice pm m.length cm],.agg #[.slice h o.length f],.slice pi inp.length ci,Iv fu,Iv pg] w fun e w'=>e=.returned (.bool true)/\Below w.heap.size w w':=by
 obtain⟨C,A,q,i,t⟩:=Qji p
 obtain⟨s,y,u,r,j⟩:=Qji l
 rw[<-q,<-u]
 exact Qkt i r fun v c _=>(t v).run g x _ fun a d b B z=>(j c).other g (by unfold Qd2 at a;omega) (by unfold Qd2 at a;omega) (by unfold Qd2 at a;omega)
end Go.Proofs.YtjhdpajpibdnaafGreat
