import Derived.Test.YtjhdpajpibdnaafGreatP5
set_option maxHeartbeats 16000000
set_option maxRecDepth 100000
namespace Go.Proofs.YtjhdpajpibdnaafGreat
open Go.ChangeShapes Go.WideShapes Go.ChangeAt Go.RowKit _root_.Go.Proofs.Tryz
set_option linter.unusedSimpArgs false
set_option linter.unusedVariables false
variable {w w' w6 w1 w2:World}{n b c k m rc ac X j B i cm g N d f fi cap bp q R pages id bi cc funcs s ci rl al ca ri vl most cR cA G:Nat}{O Q O':Nat→Prop}{l xs regs inp:List Int}{p a rg ag pm pi pa pR pA ra aa:Option Addr}{t e:TypeId}{v:Value}{P:Program}{L bs:List Bool}{x ya xc xk fr xa xb xn yb:Int}{ds cs:List Value}{ops:Array Oper}
def fI:Qs:=⟨1,0,0,0,0,5,[],[]⟩
def fE:ZE:=⟨3,0,⟨0,[],[]⟩,⟨0,[],[]⟩,[0]⟩
def fB:MBlock 6:=⟨0,[],[fI],fE⟩
def fF:MFunc 6:=⟨0,[],[tInt],[fB]⟩
def five6:List (MFunc 6):=[fF]
theorem five_fault:modFault five6=(0,0):=by decide +kernel
abbrev fBc (G1 Gc Gi:Nat):Array Value:=#[Iv 0,Nv,.slice (some ⟨Gc,0,none⟩) 1 1,Iv 3,Iv 0,Iv 0,Nv,Nv,Iv 0,Nv,Nv,.slice (some ⟨Gi,0,none⟩) 1 1]
theorem QnO (w:World):intsL.In w All ([]:List Int) [Nv]:=Yg _ _ _ _ _
theorem QlD (w:World):(Lay.tt 6).In w All tInt [Iv 1,Iv 0,Nv]:=⟨none,0,Z,fun i x h=>by simp[tInt] at h,by unfold tInt;exact⟨by decide,fun x h=>by simp at h⟩⟩
theorem Qd1 {f:MFunc 6}(l:f.params=[]) (j:f.results.length<=1) (a:∀ t∈f.results,t.count<=1){b:MBlock 6}(c:f.blocks=[b]) (p:b.params=[]) (s:b.code.length<=40) (o:b.fin.yes.regs=[]/\b.fin.yes.args=[]/\b.fin.no.regs=[]/\b.fin.no.args=[]/\b.fin.args.length<=1) (r:∀ x∈b.code,x.regs=[]/\x.args=[]):¬ Qm [f]:=by
 rintro (h | ⟨x,g,h⟩)
 ·exact absurd h (by simp)
 ·simp only[List.mem_singleton] at g
  subst g;rcases h with h | h | h | ⟨y,d,h⟩
  ·rw[c] at h;exact absurd h (by simp)
  ·rw[l] at h
   rcases h with h | ⟨t,a,_⟩
   ·exact absurd h (by simp)
   ·cases a
  ·rcases h with h | ⟨t,e,h⟩
   ·have:=j;omega
   ·have:=a t e;omega
  ·rw[c] at d
   simp only[List.mem_singleton] at d
   subst d;obtain⟨q,i,k,n,u⟩:=o
   rcases h with h | h | h | h | h | h | h | ⟨z,m,h⟩
   ·omega
   ·rw[p] at h
    rcases h with h | ⟨t,a,_⟩
    ·exact absurd h (by simp)
    ·cases a
   ·omega
   ·rw[q] at h;exact absurd h (by simp)
   ·rw[i] at h;exact absurd h (by simp)
   ·rw[k] at h;exact absurd h (by simp)
   ·rw[n] at h;exact absurd h (by simp)
   ·have c:=r z m;rw[c.1,c.2] at h
    exact absurd h (by simp)
theorem five_not:¬ Qm five6:=Qd1 (b:=fB) Z (by decide) (fun t c=>by simp only[fF,List.mem_singleton] at c;subst c;decide) Z Z (by decide) ⟨Z,Z,Z,Z,by decide⟩ (fun x a=>by simp only[fB,List.mem_singleton] at a;subst a;exact⟨Z,Z⟩)
theorem two_not:¬ Qm two6:=Qd1 (b:=tB) Z (by decide) (fun t c=>by cases c) Z Z (by decide) ⟨Z,Z,Z,Z,by decide⟩ (fun x a=>by have a:x∈two1:=a;simp only[two1,List.mem_cons,List.not_mem_nil,or_false] at a;rcases a with rfl | rfl | rfl | rfl<;>exact⟨Z,Z⟩)
theorem Qii (w:World):Calls prog 38 #[] w fun e w'=>∃ I C T Y G2 G1 R,e=.returned (.agg #[.slice (some ⟨G2,0,none⟩) 1 1])/\Bxs w w' [(I,#[Iv 0],3),(C,#[Iv 1,Iv 0,Iv 0,Iv 0,Iv 0,Iv 5,Nv,Nv],78),(T,#[Iv 1,Iv 0,Nv],105),(Y,#[.slice (some ⟨G2,0,none⟩) 1 1],24),(G2,#[Iv 0,Nv,.slice (some ⟨T,0,none⟩) 1 1,.slice (some ⟨G1,0,none⟩) 1 1],89),(G1,fBc G1 C I,86),(R,#[.slice (some ⟨G2,0,none⟩) 1 1],24)]:=by
 have j:=Qa ((Bxs.start w).new #[Nv] 24);go_enter func38,ntmps38
 go_upto_region 1 with fail
 generalize w.alloc (.cells #[Nv] 24)=B at j |-;generalize w.heap.size=R at j |-;go_wp2_with fail
 refine(Qje B).mono ?_
 rintro M s ⟨G1,G2,rfl,y,z,u,D,A,x⟩;have l:=Qa (((j.out.made x y u).add z (Zt j.out.bel.size D) (fun b t=>by simp only[List.mem_cons,List.not_mem_nil,or_false] at t;rcases t with rfl | rfl;exact A;exact fun e=>by have K:R<B.heap.size:=(j.out.at (a:=[])).lt;have e:R=G2:=e;omega)).new #[.slice (some ⟨G2,0,none⟩) 1 1] 24);clear y z u D A x j;go_upto_region 2 with fail
 generalize s.alloc (.cells #[.slice (some ⟨G2,0,none⟩) 1 1] 24)=m at l |-;generalize s.heap.size=Y at l |-;have p:=Qa (l.out.new #[Iv 1,Iv 0,Nv] 105);have h:=l.out.cell (a:=[]) 0 _ Z;have H:=p.out.cell (a:=[_,_]) 2 _ Z;have k:=p.out.free (a:=[_,_]) 2;go_upto_region 3 with fail
 have d:=Qa (p.out.set (a:=[_,_]) 2 (.slice (some ⟨m.heap.size,0,none⟩) 1 1));clear l p h H k;generalize (m.alloc (.cells #[Iv 1,Iv 0,Nv] 105)).setCell ⟨G2,2,none⟩ (.slice (some ⟨m.heap.size,0,none⟩) 1 1)=g at d |-;generalize m.heap.size=T at d |-;have o:=Qa (d.out.new #[Iv 1,Iv 0,Iv 0,Iv 0,Iv 0,Iv 5,Nv,Nv] 78);have h:g.cell? ⟨Y,0,none⟩=some (.slice (some ⟨G2,0,none⟩) 1 1):=d.out.cell (a:=[_]) 0 _ Z;have r:g.cell? ⟨G2,3,none⟩=some (.slice (some ⟨G1,0,none⟩) 1 1):=d.out.cell (a:=[_,_]) 3 _ Z;have q:=o.out.cell (a:=[_,_,_,_]) 2 _ Z;have k:=o.out.free (a:=[_,_,_,_]) 2;go_upto_region 4 with fail
 have c:=Qa (o.out.set (a:=[_,_,_,_]) 2 (.slice (some ⟨g.heap.size,0,none⟩) 1 1));clear d o h r q k;generalize (g.alloc (.cells #[Iv 1,Iv 0,Iv 0,Iv 0,Iv 0,Iv 5,Nv,Nv] 78)).setCell ⟨G1,2,none⟩ (.slice (some ⟨g.heap.size,0,none⟩) 1 1)=i at c |-;generalize g.heap.size=C at c |-;have n:=Qa (c.out.new #[Iv 0] 3);have h:i.cell? ⟨Y,0,none⟩=some (.slice (some ⟨G2,0,none⟩) 1 1):=c.out.cell (a:=[_,_]) 0 _ Z;have r:i.cell? ⟨G2,3,none⟩=some (.slice (some ⟨G1,0,none⟩) 1 1):=c.out.cell (a:=[_,_,_]) 3 _ Z;have q:=n.out.cell (a:=[_,_,_,_,_]) 11 _ Z;have k:=n.out.free (a:=[_,_,_,_,_]) 11;go_upto_region 5 with fail
 have f:=Qa (n.out.set (a:=[_,_,_,_,_]) 11 (.slice (some ⟨i.heap.size,0,none⟩) 1 1));clear c n h r q k;generalize (i.alloc (.cells #[Iv 0] 3)).setCell ⟨G1,11,none⟩ (.slice (some ⟨i.heap.size,0,none⟩) 1 1)=F at f |-;generalize i.heap.size=I at f |-;have h:F.cell? ⟨Y,0,none⟩=some (.slice (some ⟨G2,0,none⟩) 1 1):=f.out.cell (a:=[_,_,_]) 0 _ Z;have L:=f.out.cell (a:=[_,_,_,_,_,_]) 0 _ Z;have J:=f.out.free (a:=[_,_,_,_,_,_]) 0;have E:=Qa (f.out.set (a:=[_,_,_,_,_,_]) 0 (.slice (some ⟨G2,0,none⟩) 1 1));go_wp2
 have G:=E.out.cell (a:=[_,_,_,_,_,_]) 0 _ Z;refine Xy (v:=.agg #[.slice (some ⟨G2,0,none⟩) 1 1]) (by simp[results,results38,go_sem,G]) Z ⟨_,_,_,_,G2,_,_,Z,E.out⟩
def retE:ZE:=⟨3,0,⟨0,[],[]⟩,⟨0,[],[]⟩,[]⟩
def MBlock.outl {n:Nat}(b:MBlock n):MBlock n:=⟨b.regs,b.params,[],retE⟩
def MFunc.outl {n:Nat}(f:MFunc n):MFunc n:=⟨f.regs,f.params,f.results,f.blocks.map MBlock.outl⟩
def outl {n:Nat}(m:List (MFunc n)):List (MFunc n):=m.map MFunc.outl
def JSt.outl (s:JSt):JSt:=⟨Go.Proofs.YtjhdpajpibdnaafGreat.outl s.m,s.f.outl,s.H,s.L⟩
theorem Qa8 (m:List (MFunc n)):(outl m).length=m.length:=XN _
theorem Qes (m:List (MFunc n)) (k:Nat):(outl m)[k]?=(m[k]?).map MFunc.outl:=XS
theorem Qge (f:MFunc n):f.outl.blocks.length=f.blocks.length:=XN _
theorem QkE (f:MFunc n) (k:Nat):f.outl.blocks[k]?=(f.blocks[k]?).map MBlock.outl:=XS
theorem QcU (s:JSt) (l:List Int) (ts:List (TT 6)) (a:List Int):s.outl.args l ts a=s.args l ts a:=rfl
theorem QcX (s:JSt):∀ l,s.outl.fields l=s.fields l
 | []=>rfl
 | k::r=>by
   have a:s.outl.at k=s.at k:=rfl;simp only[JSt.fields,a,QcX s r]
theorem QdH (s:JSt) (x:Qs):s.outl.makes x=s.makes x:=by
 have g:∀ k,s.outl.at k=s.at k:=fun _=>rfl;have i:∀ a b c,s.outl.want a b c=s.want a b c:=fun _ _ _=>rfl;have e:s.outl.H=s.H:=rfl;have d:s.outl.f.regs=s.f.regs:=rfl;have h:s.outl.m[x.k.toNat]?=(s.m[x.k.toNat]?).map MFunc.outl:=Qes _ _;unfold JSt.makes;rw[h]
 simp only[g,i,e,d,QcX,QcU]
 cases s.m[x.k.toNat]?<;>rfl
theorem QeX (s:JSt) (x:Qs):s.outl.code x=s.code x:=by
 have a:s.outl.m.length=s.m.length:=Qa8 _;have b:s.outl.L=s.L:=rfl;unfold JSt.code;rw[a,QdH,b]
theorem Qjb (s:JSt) (x:Qs):s.outl.next x=(s.next x).outl:=by
 unfold JSt.next
 rw[QdH]
 rfl
theorem Qkn (s:JSt) (x:Qs):s.outl.ins x=(s.ins x).outl:=by
 unfold JSt.ins;rw[QeX]
 split
 ·exact Qjb s x
 ·rfl
theorem Qif (s:JSt) (t:MTo):s.outl.to t=s.to t:=by
 have c:s.outl.f.blocks[t.block.toNat]?=(s.f.blocks[t.block.toNat]?).map MBlock.outl:=QkE _ _;have b:s.outl.f.regs=s.f.regs:=rfl;have a:s.outl.H=s.H:=rfl;unfold JSt.to;rw[c]
 simp only[b,a,QcU]
 cases s.f.blocks[t.block.toNat]?<;>rfl
theorem QkC (s:JSt) (e:ZE):s.outl.fin e=s.fin e:=by
 have i:s.outl.f.blocks.length=s.f.blocks.length:=Qge _;have d:s.outl.f.regs=s.f.regs:=rfl;have g:s.outl.H=s.H:=rfl;have h:s.outl.f.results=s.f.results:=rfl;have j:∀ a b c,s.outl.want a b c=s.want a b c:=fun _ _ _=>rfl;unfold JSt.fin;rw[i,Qif,Qif,d,g,h,j,QcU]
theorem Qhg (m:List (MFunc 6)) (f:MFunc 6) (b:MBlock 6):JSt.start (outl m) f.outl b.outl=(JSt.start m f b).outl:=rfl
theorem Qg6 {fn:MFunc n}{x:MBlock n}(h:(MBlock.fault funcs f fn b x).1=0):(MBlock.fault funcs f fn.outl b x.outl).1=0:=by
 unfold MBlock.fault at h |-;split at h
 ·cases h
 rename_i o
 split at h
 ·rename_i g;exact absurd h g
 rename_i g
 split at h
 ·cases h
 rename_i l
 have c:¬ (x.outl.regs<fn.outl.regs\/16<x.outl.regs):=o;have a:¬ listC x.outl.regs x.outl.params≠0:=g;have d:¬ (b=0/\(x.outl.regs≠fn.outl.regs\/Qc0 x.outl.params fn.outl.params=false)):=l;have m:¬ 40<x.outl.code.length:=by show ¬ 40<0;omega
 have j:¬ (firstF (fun i y=>(Qs.form funcs y,(10000*f+100*b+i:Int))) 0 x.outl.code).1≠0:=fun e=>e Z
 have k:¬ x.outl.fin.form fn.outl.blocks.length≠0:=fun e=>e (by
  show ZE.form _ retE=0;simp[ZE.form,retE,MTo.form])
 rw[Xr c,Xr a,Xr d,Xr m,Xr j,Xr k]
theorem Qie {x:MFunc n}(h:(MFunc.fault funcs f x).1=0):(MFunc.fault funcs f x.outl).1=0:=by
 unfold MFunc.fault at h |-;split at h
 ·cases h
 rename_i p
 split at h
 ·rename_i a;exact absurd h a
 rename_i a
 split at h
 ·rename_i a;exact absurd h a
 rename_i m
 split at h
 ·cases h
 rename_i o
 split at h
 ·cases h
 rename_i l
 have c:¬ (x.outl.regs<0\/6<x.outl.regs):=p;have b:¬ listC x.outl.regs x.outl.params≠0:=a;have e:¬ listC x.outl.regs x.outl.results≠0:=m;have d:¬ (x.outl.blocks.length<1\/12<x.outl.blocks.length):=by rw[Qge];exact o
 have g:¬ (f=0/\¬ (x.outl.regs=0/\x.outl.params.length=0/\x.outl.results.all (fun t=>t.kind==1)=true)):=l;rw[Xr c,Xr b,Xr e,Xr d,Xr g]
 rw[Q0]
 intro k y i;rw[QkE] at i
 obtain⟨z,j,rfl⟩:=Option.map_eq_some_iff.1 i
 exact Qg6 (QR h k z j)
theorem Qgt {m:List (MFunc n)}(h:(modFault m).1=0):(modFault (outl m)).1=0:=by
 unfold modFault at h |-;split at h
 ·cases h
 rename_i b
 rw[Xr (by rw[Qa8];exact b),Q0]
 intro k y a;rw[Qes] at a
 obtain⟨z,c,rfl⟩:=Option.map_eq_some_iff.1 a
 rw[Qa8]
 exact Qie (QR h k z c)
theorem QdV {m:List (MFunc n)}(h:¬ Qm m):¬ Qm (outl m):=by
 rintro (e | ⟨x,b,e⟩)
 ·rw[Qa8] at e;exact h (.inl e)
 ·obtain⟨z,a,rfl⟩:=List.mem_map.1 b
  refine h (.inr ⟨z,a,?_⟩);rcases e with e | e | e | ⟨y,c,e⟩
  ·rw[Qge] at e;exact .inl e
  ·exact .inr (.inl e)
  ·exact .inr (.inr (.inl e))
  ·obtain⟨q,f,rfl⟩:=List.mem_map.1 c
   refine .inr (.inr (.inr ⟨q,f,?_⟩));rcases e with e | e | e | e | e | e | e | ⟨u,d,e⟩
   ·exact absurd e (by show ¬ 200<0;omega)
   ·exact .inr (.inl e)
   ·exact absurd e (by show ¬ 300<0;omega)
   ·exact absurd e (by show ¬ 300<0;omega)
   ·exact absurd e (by show ¬ 300<0;omega)
   ·exact absurd e (by show ¬ 300<0;omega)
   ·exact absurd e (by show ¬ 300<0;omega)
   ·cases d
abbrev Qar (g:MBlock 6) (p1 p2:Option Addr) (d1 d2:Nat) (e:EP):Array Value:=#[Iv g.regs,.slice p1 g.params.length d1,.slice p2 g.code.length d2,Iv g.fin.op,Iv g.fin.a,Iv g.fin.yes.block,.slice e.pYR g.fin.yes.regs.length e.cYR,.slice e.pYA g.fin.yes.args.length e.cYA,Iv g.fin.no.block,.slice e.pNR g.fin.no.regs.length e.cNR,.slice e.pNA g.fin.no.args.length e.cNA,.slice e.pA g.fin.args.length e.cA]
theorem QlK {m:List (MFunc 6)}{fn:MFunc 6}{g:MBlock 6}(a:m[f]?=some fn) (c:fn.blocks[b]?=some g):QgK m (f:Int) (b:Int)=true:=by
 have:=(Zi c).1
 simp[QgK,a,this]
theorem Zs (h:Blk w R #[Iv 0,Iv 0] 32) (c a:Int):Blk ((w.setCell ⟨R,0,none⟩ (Iv c)).setCell ⟨R,1,none⟩ (Iv a)) R #[Iv c,Iv a] 32:=by
 have:=Qh (Qh h 0 (Iv c)) 1 (Iv a)
 simpa using this
theorem vsizeEnd:(prog.info? 84).map (·.size)=some 9:=by kernel_rfl
theorem Qhx {m:List (MFunc 6)}{fn:MFunc 6}{g:MBlock 6}{p1 C:Option Addr}{d1 F:Nat}{e:EP}(al:(modFault m).1=0) (G:¬ Qm m) (ay:(QaM 6).In w All (outl m) [.slice p m.length c]) (ab:m[f]?=some fn) (W:fn.blocks[b]?=some g) (Q:insC.list.In w All g.code [.slice C g.code.length F]) (ai:Qdu w All g.fin e) (ax:-9223372036854775808<=g.fin.a/\g.fin.a<=9223372036854775807) :
 Calls prog 108 #[.agg #[.slice p m.length c],Iv (f:Int),Iv (b:Int),.agg (Qar g p1 C d1 F e)] w fun r w'=>r=.returned (QG (QA (10000*(f:Int)+100*(b:Int)) g.fin (JSt.start m fn g) 0 g.code))/\Below w.heap.size w w':=by
 have bf:=Qa al;have a8:=Qa G;have be:=Qa ay;have ao:=Qa ab;have a2:=Qa W;have ak:=Qa Q;have a3:=Qa ai;have ba:=Qa ax;have aa:fn∈m:=Zm ab;have am:g∈fn.blocks:=Zm W;have af:Hid (¬ g.great):=fun h=>G (.inr ⟨fn,aa,.inr (.inr (.inr ⟨g,am,h⟩))⟩)
 have bd:Hid (JOk (JSt.start m fn g).outl):=by
  have:=JOk.start (Qgt al) (QdV G) (f:=fn.outl) (b:=g.outl) (List.mem_map_of_mem aa) (List.mem_map_of_mem am)
  rw[Qhg] at this
  exact this
 have bi:g.code.length<=200:=Xo fun h=>af.out (.inl h);have bk:f<1000:=by have h1:=(Zi ab).1;have h2:m.length<=20:=Xo fun x=>G (.inl x);omega
 have bl:b<1000:=by have h1:=(Zi W).1;have h2:fn.blocks.length<=30:=Xo fun x=>G (.inr ⟨fn,aa,.inl x⟩);omega
 have b1:=Zc w (.cells #[.slice p m.length c] 24);have b2:=Zc (w.alloc (.cells #[.slice p m.length c] 24)) (.cells (Qar g p1 C d1 F e) 86);have b3:=Zc ((w.alloc (.cells #[.slice p m.length c] 24)).alloc (.cells (Qar g p1 C d1 F e) 86)) (.cells #[Iv 0,Iv 0] 32)
 have V:Hid (Below w.heap.size w (((w.alloc (.cells #[.slice p m.length c] 24)).alloc (.cells (Qar g p1 C d1 F e) 86)).alloc (.cells #[Iv 0,Iv 0] 32))):=by
  have h:=b2.trans (b3.mono b2.size);exact b1.trans (h.mono b1.size)
 have s1:(w.alloc (.cells #[.slice p m.length c] 24)).heap.size=w.heap.size+1:=World.size_alloc ..;have s2:((w.alloc (.cells #[.slice p m.length c] 24)).alloc (.cells (Qar g p1 C d1 F e) 86)).heap.size=w.heap.size+1+1:=(World.size_alloc ..).trans (by rw[s1])
 have BM:Hid (Blk (((w.alloc (.cells #[.slice p m.length c] 24)).alloc (.cells (Qar g p1 C d1 F e) 86)).alloc (.cells #[Iv 0,Iv 0] 32)) w.heap.size #[.slice p m.length c] 24) :=
  Blk.below (Blk.below (Blk.new w #[.slice p m.length c] 24) b2) b3
 have BX:Hid (Blk (((w.alloc (.cells #[.slice p m.length c] 24)).alloc (.cells (Qar g p1 C d1 F e) 86)).alloc (.cells #[Iv 0,Iv 0] 32)) (w.heap.size+1) (Qar g p1 C d1 F e) 86):=by
  have:=Blk.below (Blk.new (w.alloc (.cells #[.slice p m.length c] 24)) (Qar g p1 C d1 F e) 86) b3
  rw[s1] at this
  exact this
 have BR:Hid (Blk (((w.alloc (.cells #[.slice p m.length c] 24)).alloc (.cells (Qar g p1 C d1 F e) 86)).alloc (.cells #[Iv 0,Iv 0] 32)) (w.heap.size+1+1) #[Iv 0,Iv 0] 32):=by
  have:=Blk.new ((w.alloc (.cells #[.slice p m.length c] 24)).alloc (.cells (Qar g p1 C d1 F e) 86)) #[Iv 0,Iv 0] 32
  rw[s2] at this
  exact this
 clear b1 b2 b3 s1 s2 aa am al G ay ab W Q ai ax;go_enter func108,ntmps108
 go_upto_region 1 with fail
 generalize ((w.alloc (.cells #[.slice p m.length c] 24)).alloc (.cells (Qar g p1 C d1 F e) 86)).alloc (.cells #[Iv 0,Iv 0] 32)=o at V BM BX BR |-;obtain⟨X,hX⟩:∃ X,X=w.heap.size:=⟨_,Z⟩
 obtain⟨X2,au⟩:∃ X2,X2=X+1:=⟨_,Z⟩
 obtain⟨R,hR⟩:∃ R,R=X2+1:=⟨_,Z⟩
 have H:Hid (w.heap.size<=R):=by show _<=_;omega
 rw[<-hX] at BM BX BR |-
 rw[<-au] at BX BR |-
 rw[<-hR] at BR |-
 clear hX au hR;have x0:=Qb BM.out 0 _ Z;have CN:=Qa (Qj0 (w:=o) (m:=outl m) (p:=p) (c:=c) (f:Int) (b:Int) (QdV a8.out) (by rw[Qa8];exact Ya be.out V.out));rw[Qa8] at CN
 go_wp2_with fail
 refine CN.out.mono ?_;rintro e2 w2 ⟨b2,a5⟩;have a9:Hid (o.heap.size<=w2.heap.size):=b2.size;rcases a5 with ⟨hf,rfl⟩|⟨-,a1,rfl⟩|⟨-,-,i,j,bm,g',B,O,A,hi,hj,ae,ag,rfl,hS,hA⟩
 ·exact absurd (Qgt bf.out) hf
 ·rw[QlK (fn:=fn.outl) (g:=g.outl) (by rw[Qes,ao.out];rfl) (by rw[QkE,a2.out];rfl)] at a1
  cases a1
 have a4:f=i:=by omega
 have bg:b=j:=by omega
 subst a4 bg;rw[Qes,ao.out] at ae
 cases ae
 rw[QkE,a2.out] at ag
 cases ag
 have b3:=Zc w2 (.cells #[Iv 0,Iv 0] 32)
 have S3:Hid (SOk (w2.alloc (.cells #[Iv 0,Iv 0] 32)) B o.heap.size ((JSt.start m fn g).upto (g.code.take 0)).outl) :=
  SOk.below ⟨O,A,hS,hA,bd.out⟩ b3
 have B3:Hid (Below o.heap.size o (w2.alloc (.cells #[Iv 0,Iv 0] 32))):=b2.trans (b3.mono b2.size);have F3:Hid (Blk (w2.alloc (.cells #[Iv 0,Iv 0] 32)) w2.heap.size #[Iv 0,Iv 0] 32):=Blk.new _ _ _;clear b2 b3 hS hA CN a9 hi hj;go_upto_region 2 with fail
 generalize w2.alloc (.cells #[Iv 0,Iv 0] 32)=w3 at S3 B3 F3 |-;generalize w2.heap.size=F9 at F3 |-;have f0:=Qb F3.out 0 _ Z;have y2:w3.cell? ⟨X2,2,none⟩=some (.slice C g.code.length F):=Qk (Qb BX.out 2 _ Z) B3.out;clear x0;go_wp2_with fail
 clear f0 y2;go_loopw [29] (fun i wr=>∃ z:Nat,z<=g.code.length/\i=Iv z/\SOk wr B o.heap.size ((JSt.start m fn g).upto (g.code.take z)).outl/\Below o.heap.size o wr/\∀ j y,j<z->g.code[j]?=some y->((JSt.start m fn g).upto (g.code.take j)).code y=0) (fun i _=>g.code.length - (intOf i).toNat)
 case atStart=>exact⟨0,Xb _,Z,S3.out,B3.out,fun j y hj=>absurd hj (XG _)⟩
 case round =>
  obtain⟨z,hz,rfl,hs,hb,ad⟩:=hrel
  have SR:=Qa hs;have s:=Qa hb;have N:=Qa ad;clear hs hb ad S3 B3 F3;obtain⟨l,bc⟩:∃ l,l=wr:=⟨_,Z⟩
  subst bc;by_cases bb:z<g.code.length
  rotate_left
  ·have ap:¬ (z:Int)<g.code.length:=by omega
   have ar:g.code.take z=g.code:=XO (by omega);rw[ar] at SR
   have RE:Hid (l.rangeAt X2 3 (QbU g.fin e).toList):=fun j v hj=>by
    have:(Qar g p1 C d1 F e)[3+j]?=some v:=by
     rw[<-Array.getElem?_toList,Nat.add_comm]
     exact hj
    exact Qk (Qb BX.out (3+j) v this) s.out
   have av:Hid (300>=g.fin.yes.regs.length/\300>=g.fin.yes.args.length/\300>=g.fin.no.regs.length/\300>=g.fin.no.args.length):=by
    have h:=af.out;unfold MBlock.great at h;simp only[not_or,Nat.not_lt] at h
    exact⟨h.2.2.2.1,h.2.2.2.2.1,h.2.2.2.2.2.1,h.2.2.2.2.2.2.1⟩
   have CE:Hid (Calls prog 165 #[Pv B 0,.agg (QbU g.fin e).toList.toArray] l fun r w'=>r=.returned (Iv (((JSt.start m fn g).upto g.code).fin g.fin))/\Below l.heap.size l w'):=by
    have:=SR.out.end_ ((a3.out.below V.out).below s.out) ba.out (by have:=av.out;omega)
    rw[QkC] at this
    exact this
   have BE:Hid (QA (10000*(f:Int)+100*(b:Int)) g.fin (JSt.start m fn g) 0 g.code=if ((JSt.start m fn g).upto g.code).fin g.fin≠0 then (((JSt.start m fn g).upto g.code).fin g.fin,10000*(f:Int)+100*(b:Int)+91) else (0,0)):=QeW fun j y hj hy=>N.out j y (by omega) hy;clear av ar;generalize ((JSt.start m fn g).upto g.code).fin g.fin=D at CE BE;go_wp2_with (refine wpList_load_mid Z 84 (.tmp 47) Z X2 3 Z (QbU g.fin e).toList _ RE.out underlying84 Z vsizeEnd ?_)
   refine CE.out.mono ?_;rintro e9 w9 ⟨rfl,b9⟩;have U:Hid (Below o.heap.size o w9):=s.out.trans (b9.mono s.out.size);clear b9 s CE RE SR;by_cases aj:D=0
   ·subst aj;have E:Hid (QA (10000*(f:Int)+100*(b:Int)) g.fin (JSt.start m fn g) 0 g.code=(0,0)):=by show _=_;rw[BE.out];rfl
    clear BE;have t:Hid (Blk w9 R #[Iv 0,Iv 0] 32):=Blk.below BR.out U.out;have r0:=Qb t.out 0 _ Z;have r1:=Qb t.out 1 _ Z;have z0:=Qj t.out 0;have z1:=Qj t.out 1;have I:Hid (Blk ((w9.setCell ⟨R,0,none⟩ (Iv 0)).setCell ⟨R,1,none⟩ (Iv 0)) R #[Iv 0,Iv 0] 32):=Zs t.out _ _;have BL:Hid (Below w.heap.size w ((w9.setCell ⟨R,0,none⟩ (Iv 0)).setCell ⟨R,1,none⟩ (Iv 0))):=((V.out.trans (U.out.mono V.out.size)).setCell H.out _).setCell H.out _;go_wp2_with fail
    generalize (w9.setCell ⟨R,0,none⟩ (Iv 0)).setCell ⟨R,1,none⟩ (Iv 0)=aq at I BL |-;have e0:=Qb I.out 0 _ Z;have e1:=Qb I.out 1 _ Z;exact Xy (v:=.agg #[Iv 0,Iv 0]) (by simp[results,results108,go_sem,e0,e1]) Z ⟨by rw[E.out],BL.out⟩
   ·have aw:(D != 0)=true:=by simpa using aj
    have E:Hid (QA (10000*(f:Int)+100*(b:Int)) g.fin (JSt.start m fn g) 0 g.code=(D,10000*(f:Int)+100*(b:Int)+91)):=by
     show _=_;rw[BE.out,Xs aj]
    have CA:=Qa (QdU (f:=f) (b:=b) (w:=w9) ⟨by omega,by omega⟩);unfold Rd at CA;clear BE;go_wp2_with fail
    refine CA.out.mono ?_;rintro a6 d ⟨rfl,J⟩;have S:Hid (Below o.heap.size o d):=U.out.trans (J.mono U.out.size);clear J U CA;generalize 10000*(f:Int)+100*(b:Int)+91=T at E |-;have t:Hid (Blk d R #[Iv 0,Iv 0] 32):=Blk.below BR.out S.out;have r0:=Qb t.out 0 _ Z;have r1:=Qb t.out 1 _ Z;have z0:=Qj t.out 0;have z1:=Qj t.out 1;have I:Hid (Blk ((d.setCell ⟨R,0,none⟩ (Iv D)).setCell ⟨R,1,none⟩ (Iv T)) R #[Iv D,Iv T] 32):=Zs t.out _ _;have BL:Hid (Below w.heap.size w ((d.setCell ⟨R,0,none⟩ (Iv D)).setCell ⟨R,1,none⟩ (Iv T))):=((V.out.trans (S.out.mono V.out.size)).setCell H.out _).setCell H.out _;go_wp2_with fail
    generalize (d.setCell ⟨R,0,none⟩ (Iv D)).setCell ⟨R,1,none⟩ (Iv T)=aq at I BL |-;have e0:=Qb I.out 0 _ Z;have e1:=Qb I.out 1 _ Z;exact Xy (v:=.agg #[Iv D,Iv T]) (by simp[results,results108,go_sem,e0,e1]) Z ⟨by rw[E.out],BL.out⟩
  have ap:(z:Int)<g.code.length:=by omega
  have ac:g.code[z]?=some g.code[z]:=Zg bb;generalize g.code[z]=x at ac;have an:=Qa ac;obtain⟨cg,co,ds,rfl,-,-,q,P⟩:=Yf (Ya (Ya ak.out V.out) s.out) ac
  have ah:=Qkr P;obtain⟨xa,xc,xb,xd,rfl,K,L,az,-⟩:=QhJ P
  have u0:l.cell? ⟨cg,co+z*8,none⟩=some (Iv x.op):=q 0 (by decide);have u1:l.cell? ⟨cg,co+z*8+1,none⟩=some (Iv x.a):=q 1 (by decide);have u2:l.cell? ⟨cg,co+z*8+2,none⟩=some (Iv x.b):=q 2 (by decide);have u3:l.cell? ⟨cg,co+z*8+3,none⟩=some (Iv x.c):=q 3 (by decide);have u4:l.cell? ⟨cg,co+z*8+4,none⟩=some (Iv x.k):=q 4 (by decide);have u5:l.cell? ⟨cg,co+z*8+5,none⟩=some (Iv x.n):=q 5 (by decide);have u6:l.cell? ⟨cg,co+z*8+6,none⟩=some (.slice xa x.regs.length xc):=q 6 (by decide);have u7:l.cell? ⟨cg,co+z*8+7,none⟩=some (.slice xb x.args.length xd):=q 7 (by decide);have b4:=Zc l (.cells #[Iv x.op,Iv x.a,Iv x.b,Iv x.c,Iv x.k,Iv x.n,.slice xa x.regs.length xc,.slice xb x.args.length xd] 78);have M:Hid (Blk (l.alloc (.cells #[Iv x.op,Iv x.a,Iv x.b,Iv x.c,Iv x.k,Iv x.n,.slice xa x.regs.length xc,.slice xb x.args.length xd] 78)) l.heap.size #[Iv x.op,Iv x.a,Iv x.b,Iv x.c,Iv x.k,Iv x.n,.slice xa x.regs.length xc,.slice xb x.args.length xd] 78):=Blk.new _ _ _;have B4:Hid (Below o.heap.size o (l.alloc (.cells #[Iv x.op,Iv x.a,Iv x.b,Iv x.c,Iv x.k,Iv x.n,.slice xa x.regs.length xc,.slice xb x.args.length xd] 78))):=s.out.trans (b4.mono s.out.size)
  have CI:Hid (Calls prog 164 #[Pv B 0,Qd0 x xa xb xc xd] (l.alloc (.cells #[Iv x.op,Iv x.a,Iv x.b,Iv x.c,Iv x.k,Iv x.n,.slice xa x.regs.length xc,.slice xb x.args.length xd] 78)) fun r w'=>r=.returned (Iv (((JSt.start m fn g).upto (g.code.take z)).code x))/\SOk w' B o.heap.size (((JSt.start m fn g).upto (g.code.take z)).ins x).outl/\Below o.heap.size (l.alloc (.cells #[Iv x.op,Iv x.a,Iv x.b,Iv x.c,Iv x.k,Iv x.n,.slice xa x.regs.length xc,.slice xb x.args.length xd] 78)) w'):=by
   have:=(SR.out.below b4).ins B4.out.size (Ya K b4) (Ya L b4) az ah
   rw[QeX,Qkn] at this
   exact this
  clear q P K L az ac ah b4 s SR;go_upto_region 7 with fail
  generalize l.alloc (.cells #[Iv x.op,Iv x.a,Iv x.b,Iv x.c,Iv x.k,Iv x.n,.slice xa x.regs.length xc,.slice xb x.args.length xd] 78)=w4 at M B4 CI |-;generalize l.heap.size=bj at M |-;clear u0 u1 u2 u3 u4 u5 u6 u7;have t0:=Qb M.out 0 _ Z;have t1:=Qb M.out 1 _ Z;have t2:=Qb M.out 2 _ Z;have t3:=Qb M.out 3 _ Z;have t4:=Qb M.out 4 _ Z;have t5:=Qb M.out 5 _ Z;have t6:=Qb M.out 6 _ Z;have t7:=Qb M.out 7 _ Z;go_wp2_with fail
  refine CI.out.mono ?_;rintro e9 w9 ⟨rfl,a0,b9⟩;have S9:=Qa a0;have U:Hid (Below o.heap.size o w9):=B4.out.trans b9;clear t0 t1 t2 t3 t4 t5 t6 t7 CI M B4 a0 b9;by_cases u:((JSt.start m fn g).upto (g.code.take z)).code x=0
  ·have E:Hid (((JSt.start m fn g).upto (g.code.take z)).ins x=(JSt.start m fn g).upto (g.code.take (z+1))):=by
    show _=_;rw[XV,an.out]
    show _=(JSt.start m fn g).upto (g.code.take z++[x]);rw[JSt.upto_snoc]
    unfold JSt.ins;rw[Xs u]
   have bh:=Qa u;rw[u]
   clear u;go_wp2_with fail
   go_roundw
   case rel =>
    refine⟨z+1,by omega,by go_num,by rw[<-E.out];exact S9.out,U.out,fun j y hj hy=>?_⟩
    by_cases a7:j<z
    ·exact N.out j y a7 hy
    ·have:j=z:=by omega
     subst this;rw[an.out] at hy
     cases hy
     exact bh.out
   case measure=>simp[intOf];omega
  ·have E:Hid (QA (10000*(f:Int)+100*(b:Int)) g.fin (JSt.start m fn g) 0 g.code=(((JSt.start m fn g).upto (g.code.take z)).code x,10000*(f:Int)+100*(b:Int)+(z:Int))):=Qe7 an.out N.out u;clear S9;generalize ((JSt.start m fn g).upto (g.code.take z)).code x=D at E u |-;have aw:(D != 0)=true:=by simpa using u
   have CA:=Qa (QdT (f:=f) (b:=b) (i:=z) (w:=w9) ⟨by omega,by omega,by omega⟩);unfold Rd at CA;go_wp2_with fail
   refine CA.out.mono ?_;rintro a6 d ⟨rfl,J⟩;have S:Hid (Below o.heap.size o d):=U.out.trans (J.mono U.out.size);clear J U CA;generalize 10000*(f:Int)+100*(b:Int)+(z:Int)=T at E |-;have t:Hid (Blk d R #[Iv 0,Iv 0] 32):=Blk.below BR.out S.out;have r0:=Qb t.out 0 _ Z;have r1:=Qb t.out 1 _ Z;have z0:=Qj t.out 0;have z1:=Qj t.out 1;have I:Hid (Blk ((d.setCell ⟨R,0,none⟩ (Iv D)).setCell ⟨R,1,none⟩ (Iv T)) R #[Iv D,Iv T] 32):=Zs t.out _ _;have BL:Hid (Below w.heap.size w ((d.setCell ⟨R,0,none⟩ (Iv D)).setCell ⟨R,1,none⟩ (Iv T))):=((V.out.trans (S.out.mono V.out.size)).setCell H.out _).setCell H.out _;go_wp2_with fail
   generalize (d.setCell ⟨R,0,none⟩ (Iv D)).setCell ⟨R,1,none⟩ (Iv T)=aq at I BL |-;have e0:=Qb I.out 0 _ Z;have e1:=Qb I.out 1 _ Z;exact Xy (v:=.agg #[Iv D,Iv T]) (by simp[results,results108,go_sem,e0,e1]) Z ⟨by rw[E.out],BL.out⟩
structure Qbm {α:Type}(A:Lay α) (e:TypeId) (w:World) (a0 lo:Nat) (v:Value) (l:List α) (xs:List Value):Prop where
 own:w.ownsRow lo e A.size v l.length xs
 kids:∀ (i:Nat) (x:α),l[i]?=some x->A.In w (fun g=>(g<a0\/lo<=g)/\v.ownBlock≠some g) x ((xs.drop (i*A.size)).take A.size)
section
variable {α:Type}{A:Lay α}{e:TypeId}{w w':World}{a0 lo:Nat}{v:Value}{l:List α}{xs:List Value}
theorem Qbm.nil (A:Lay α) (e:TypeId) (w:World) (a0 lo:Nat):Qbm A e w a0 lo (Nv) [] []:=⟨⟨by simp,Or.inl ⟨Z,Z⟩⟩,fun i x h=>by simp at h⟩
theorem Qbm.lo_le (h:Qbm A e w a0 lo v l xs)(a:v.ownBlock=some g):lo<=g/\g<w.heap.size:=by
 obtain⟨⟨n,f⟩,k⟩:=h
 rcases f with ⟨rfl,m⟩|⟨j,c,d,rfl,b,i,r⟩
 ·simp[Value.ownBlock] at a
 ·simp[Value.ownBlock] at a;subst a;exact⟨b,XC i⟩
theorem Qbm.form (h:Qbm A e w a0 lo v l xs):∃ a c,v=.slice a l.length c:=by
 obtain⟨⟨k,i⟩,j⟩:=h
 rcases i with ⟨rfl,b⟩|⟨g,f,d,rfl,r⟩
 ·exact⟨none,0,by rw[b]⟩
 ·exact⟨_,_,Z⟩
theorem Qbm.keep (h:Qbm A e w a0 lo v l xs) (c:∀ k,k<w.heap.size->(k<a0\/lo<=k)->w'.heap[k]?=w.heap[k]?):Qbm A e w' a0 lo v l xs:=by
 obtain⟨⟨q,s⟩,n⟩:=h
 refine⟨⟨q,?_⟩,fun i x m=>A.keep (fun k j p=>c k p j.1) (fun _ h _=>h) (n i x m)⟩
 rcases s with o | ⟨g,b,a,e,d,f,r⟩
 ·exact Or.inl o
 ·exact Or.inr ⟨g,b,a,e,d,(c g (XC f) (.inr d)).trans f,r⟩
theorem Qbm.below (h:Qbm A e w a0 lo v l xs) (b:Below w.heap.size w w'):Qbm A e w' a0 lo v l xs:=h.keep fun k a _=>b.block k a
theorem Qbm.setOther (h:Qbm A e w a0 lo v l xs){p:Addr}(a:a0<=p.block/\p.block<lo) (y:Value):Qbm A e (w.setCell p y) a0 lo v l xs :=
 h.keep fun k b c=>Xd _ _ _ _ (by omega)
theorem Qbm.lay (h:Qbm A e w a0 lo v l xs):A.list.In w (fun g=>g<a0\/lo<=g) l [v]:=by
 obtain⟨⟨B,y⟩,s⟩:=h
 rcases y with ⟨rfl,t⟩|⟨g,b,a,rfl,r,m,u,z,C,o⟩
 ·have:l=[]:=Xf.1 t
  subst this;exact Yg A _ _ _ _
 ·refine⟨some ⟨g,0,none⟩,b,Z,fun i x f=>⟨g,0,_,Z,.inr r,XC m,fun j n=>?_,Yc (s i x f) (fun k p _=>p.1)⟩⟩
  have q:i<l.length:=(Zi f).1
  have d:i*A.size+j<l.length*A.size:=by
   have:(i+1)*A.size<=l.length*A.size:=Xp _ q
   rw[Nat.add_mul] at this
   omega
  rw[XR,Xs n,List.getElem?_drop,<-o,XR,Xs d,XK]
  have c:i*A.size+j<a.size:=by
   have:l.length*A.size<=b*A.size:=Xp _ u
   omega
  rw[Array.getElem?_toList]
  exact(Qb m _ a[i*A.size+j] (Xj c)).trans (Xj c).symm
theorem Qbm.push (h:Qbm A e w a0 lo v l xs) (C:a0<=w.heap.size){x:α}(o:A.In w (fun g=>(g<a0\/lo<=g)/\v.ownBlock≠some g) x ds)
  (t:w.grownBy w' v.ownBlock) (j:v.ownBlock=some g\/g=w.heap.size)
 (s:w'.ownsRow lo e A.size (.slice (some ⟨g,0,none⟩) (l.length+1) cap) (l.length+1) (xs++ds)) :
 Qbm A e w' a0 lo (.slice (some ⟨g,0,none⟩) (l.length+1) cap) (l++[x]) (xs++ds):=by
 obtain⟨B,u⟩:=h
 have d:=B.1;have r:=A.len o
 have b:∀ {y:α} {es:List Value},A.In w (fun g=>(g<a0\/lo<=g)/\v.ownBlock≠some g) y es->A.In w' (fun f=>(f<a0\/lo<=f)/\(Value.slice (some ⟨g,0,none⟩) (l.length+1) cap).ownBlock≠some f) y es:=fun a=>by
  refine A.keep (fun k c q=>?_) (fun k c q=>⟨c.1,?_⟩) a
  ·exact t.block k q (fun e=>c.2 e.symm)
  ·simp only[Value.ownBlock,ne_eq,Option.some.injEq]
   intro e;subst e;rcases j with p | p
   ·exact c.2 p
   ·omega
 refine⟨by rw[List.length_append];exact s,fun i y a=>?_⟩
 rw[List.getElem?_append] at a
 split at a
 ·rename_i n
  have z:(i+1)*A.size<=l.length*A.size:=Xp _ n;rw[Nat.add_mul] at z
  have:=u i y a
  rw[List.drop_append_of_le_length (by omega),List.take_append_of_le_length (by simp;omega)]
  exact b this
 ·rename_i n
  have m:i=l.length:=by
   have:=(Zi a).1
   simp at this
   omega
  subst m;simp at a
  subst a;rw[List.drop_append,List.drop_of_length_le (by omega),<-d,Nat.sub_self,List.drop_zero,List.nil_append,XO (by omega)]
  exact b o
end
theorem QnI {b:List Value}(h:b.all (·.oneCell')=true):∀ u∈b,u.oneCell'=true:=Xe.1 h
theorem ret_end :endL.In w O retE [Iv 3,Iv 0,Iv 0,Nv,Nv,Iv 0,Nv,Nv,Nv]:=by
 have a:intsL.In w O ([]:List Int) [Nv]:=Yg _ _ _ _ _;have b:toL.In w O (⟨0,[],[]⟩:MTo) [Iv 0,Nv,Nv]:=⟨[_],_,Z,⟨Z,by decide⟩,[_],_,Z,a,a⟩;exact⟨[_],_,Z,⟨Z,by simp[retE]⟩,[_],_,Z,⟨Z,by simp[retE]⟩,[_,_,_],_,Z,b,[_,_,_],_,Z,b,a⟩
theorem QiW {g:MBlock 6}{e:Option Addr}{f:Nat}(h:(Qo 6).In w O g.params [.slice e g.params.length f]) (i:-9223372036854775808<=g.regs/\g.regs<=9223372036854775807):(Zj 6).In w O g.outl [Iv g.regs,.slice e g.params.length f,Nv,Iv 3,Iv 0,Iv 0,Nv,Nv,Iv 0,Nv,Nv,Nv] :=
 Qgx (x:=g.outl) (a:=e) (c:=f) (b:=none) (d:=0) h (Yg _ _ _ _ _) ret_end i
theorem QiS {m:List (MBlock 6)}(h:(Zj 6).list.In w Q m [.slice p n c]){g:MBlock 6}(a:m[k]?=some g):-9223372036854775808<=g.regs/\g.regs<=9223372036854775807:=by
 obtain⟨j,r,f,v,e,i,x,b⟩:=Yf h a
 obtain⟨s,q,l,o,u,rfl,y,z,t,d⟩:=Qcb b
 exact d
theorem Qgu {α β:Type}{f:α->β}{l:List α}{x:α}(h:l[k]?=some x):(l.take (k+1)).map f=(l.take k).map f++[f x]:=by
 rw[XV,h];simp
theorem QhF {m:List (MFunc 6)}(hm:(QaM 6).In w All m [.slice p m.length c]) (aw:Qbe m) :
 Calls prog 107 #[.agg #[.slice p m.length c]] w fun e w'=>∃ a c',e=.returned (.agg #[.slice a m.length c'])/\(QaM 6).In w' All (outl m) [.slice a m.length c']/\Below w.heap.size w w':=by
 have HM:=Qa hm;have cj:=Qa aw;have cm:m.length<=100000:=aw.1;obtain⟨iB,ca,bu,a5,bg⟩:=pInfoB
 obtain⟨iF,ch,bb,b0,b4⟩:=pInfoF
 have b1:=Zc w (.cells #[.slice p m.length c] 24);have b2:=Zc (w.alloc (.cells #[.slice p m.length c] 24)) (.cells #[Nv] 24);have b3:=Zc ((w.alloc (.cells #[.slice p m.length c] 24)).alloc (.cells #[Nv] 24)) (.cells #[Nv] 24)
 have B0:Hid (Below w.heap.size w (((w.alloc (.cells #[.slice p m.length c] 24)).alloc (.cells #[Nv] 24)).alloc (.cells #[Nv] 24))):=by
  have h:=b2.trans (b3.mono b2.size);exact b1.trans (h.mono b1.size)
 have s1:(w.alloc (.cells #[.slice p m.length c] 24)).heap.size=w.heap.size+1:=World.size_alloc ..;have s2:((w.alloc (.cells #[.slice p m.length c] 24)).alloc (.cells #[Nv] 24)).heap.size=w.heap.size+1+1:=(World.size_alloc ..).trans (by rw[s1]);have s3:(((w.alloc (.cells #[.slice p m.length c] 24)).alloc (.cells #[Nv] 24)).alloc (.cells #[Nv] 24)).heap.size=w.heap.size+1+1+1:=(World.size_alloc ..).trans (by rw[s2])
 have BM:Hid (Blk (((w.alloc (.cells #[.slice p m.length c] 24)).alloc (.cells #[Nv] 24)).alloc (.cells #[Nv] 24)) w.heap.size #[.slice p m.length c] 24) :=
  Blk.below (Blk.below (Blk.new w #[.slice p m.length c] 24) b2) b3
 have BR:Hid (Blk (((w.alloc (.cells #[.slice p m.length c] 24)).alloc (.cells #[Nv] 24)).alloc (.cells #[Nv] 24)) (w.heap.size+1) #[Nv] 24):=by
  have:=Blk.below (Blk.new (w.alloc (.cells #[.slice p m.length c] 24)) #[Nv] 24) b3
  rw[s1] at this
  exact this
 have BO:Hid (Blk (((w.alloc (.cells #[.slice p m.length c] 24)).alloc (.cells #[Nv] 24)).alloc (.cells #[Nv] 24)) (w.heap.size+1+1) #[Nv] 24):=by
  have:=Blk.new ((w.alloc (.cells #[.slice p m.length c] 24)).alloc (.cells #[Nv] 24)) #[Nv] 24
  rw[s2] at this
  exact this
 have av:=Qa s3;clear b1 b2 b3 s1 s2 s3 hm aw;go_enter func107,ntmps107
 go_upto_region 2 with fail
 generalize ((w.alloc (.cells #[.slice p m.length c] 24)).alloc (.cells #[Nv] 24)).alloc (.cells #[Nv] 24)=C at B0 BM BR BO av |-;obtain⟨X,hX⟩:∃ X,X=w.heap.size:=⟨_,Z⟩
 obtain⟨R,hR⟩:∃ R,R=X+1:=⟨_,Z⟩
 obtain⟨t,bi⟩:∃ t,t=R+1:=⟨_,Z⟩
 have Q:Hid (w.heap.size<=R/\R<t/\t<C.heap.size):=by have:=av.out;exact⟨by omega,by omega,by omega⟩
 rw[<-hX] at BM BR BO |-
 rw[<-hR] at BR BO |-
 rw[<-bi] at BO |-
 clear hX hR bi av;have x0:=Qb BM.out 0 _ Z;go_wp2_with fail
 clear x0;go_loopw [13] (fun i wr=>∃ (k:Nat) (v:Value) (A:List Value),k<=m.length/\i=Iv k/\Blk wr t #[v] 24/\Qbm (ZS 6) 89 wr w.heap.size C.heap.size v ((m.take k).map MFunc.outl) A/\Chg t C wr) (fun i _=>m.length - (intOf i).toNat)
 case atStart=>exact⟨0,_,[],Xb _,Z,BO.out,Qbm.nil _ _ _ _ _,Chg.refl _ _⟩
 case round =>
  obtain⟨k,vF,cF,hk,rfl,bz,r,az⟩:=hrel
  obtain⟨l,cc⟩:∃ l,l=wr:=⟨_,Z⟩
  subst cc;have ax:=Qa bz;have al:=Qa az;have M:=Qa r;have I:Hid (Below w.heap.size w l):=Chg.last B0.out az (by have:=Q.out;omega) B0.out.size;obtain⟨o,d,bn⟩:=r.form
  have ae:((m.take k).map MFunc.outl).length=k:=by simp;omega
  rw[ae] at bn
  subst bn;clear bz r az BO;by_cases bp:k<m.length
  rotate_left
  ·have bw:¬ (k:Int)<m.length:=by omega
   have bs:k=m.length:=by omega
   have y0:=Qb ax.out 0 _ Z;have a3:Hid (Blk l R #[Nv] 24):=BR.out.chg al.out (by have:=Q.out;omega);have r0:=Qb a3.out 0 _ Z;have z0:=Qj a3.out 0
   have RB:Hid (Blk (l.setCell ⟨R,0,none⟩ (.slice o k d)) R #[.slice o k d] 24):=by
    have h9:Blk (l.setCell ⟨R,0,none⟩ (.slice o k d)) R #[.slice o k d] 24:=by
     have:=Qh a3.out 0 (.slice o k d)
     simpa using this
    exact h9
   have BL:Hid (Below w.heap.size w (l.setCell ⟨R,0,none⟩ (.slice o k d))):=I.out.setCell Q.out.1 _
   have LY:Hid ((QaM 6).In (l.setCell ⟨R,0,none⟩ (.slice o k d)) All (outl m) [.slice o k d]):=by
    have h:=(M.out.setOther (p:=⟨R,0,none⟩) (by have:=Q.out;exact⟨this.1,by show R<_;omega⟩) (.slice o k d)).lay;rw[XO (by omega)] at h
    exact Yc h (fun _ _ _=>trivial)
   have bo:=Qa bs;clear bs ae;go_wp2_with fail
   generalize l.setCell ⟨R,0,none⟩ (.slice o k d)=cl at RB BL LY |-;have e0:=Qb RB.out 0 _ Z;exact Xy (v:=.agg #[.slice o k d]) (by simp[results,results107,go_sem,e0]) Z ⟨o,d,by rw[bo.out],by rw[<-bo.out];exact LY.out,BL.out⟩
  have bw:(k:Int)<m.length:=by omega
  have ag:m[k]?=some m[k]:=Zg bp;generalize m[k]=f at ag;have cd:=Qa ag;obtain⟨mg,mo,ds,rfl,-,-,af,bt⟩:=Yf HM.out ag
  obtain⟨D,z,B,E,p3,S,rfl,ap,aq,bk,bl⟩:=Qas bt
  have v0:l.cell? ⟨mg,mo+k*4,none⟩=some (Iv f.regs):=Qk (show w.cell? ⟨mg,mo+k*4,none⟩=_ from af 0 (by decide)) I.out;have v1:l.cell? ⟨mg,mo+k*4+1,none⟩=some (.slice D f.params.length z):=Qk (show w.cell? ⟨mg,mo+k*4+1,none⟩=_ from af 1 (by decide)) I.out;have v2:l.cell? ⟨mg,mo+k*4+2,none⟩=some (.slice B f.results.length E):=Qk (show w.cell? ⟨mg,mo+k*4+2,none⟩=_ from af 2 (by decide)) I.out;have v3:l.cell? ⟨mg,mo+k*4+3,none⟩=some (.slice p3 f.blocks.length S):=Qk (show w.cell? ⟨mg,mo+k*4+3,none⟩=_ from af 3 (by decide)) I.out;have bq:Hid ((Qo 6).In w (fun g=>g<w.heap.size) f.params [.slice D f.params.length z]):=Yc ap (fun k _ K=>K);have b9:Hid ((Qo 6).In w (fun g=>g<w.heap.size) f.results [.slice B f.results.length E]):=Yc aq (fun k _ K=>K);have bh:Hid ((Zj 6).list.In w (fun g=>g<w.heap.size) f.blocks [.slice p3 f.blocks.length S]):=Yc bk (fun k _ K=>K);have cf:=Qa bl;have cn:f.blocks.length<=100000:=(cj.out.2 f (Zm ag)).1;have b5:=Zc l (.cells #[Iv f.regs,.slice D f.params.length z,.slice B f.results.length E,.slice p3 f.blocks.length S] 89);have BF:Hid (Blk (l.alloc (.cells #[Iv f.regs,.slice D f.params.length z,.slice B f.results.length E,.slice p3 f.blocks.length S] 89)) l.heap.size #[Iv f.regs,.slice D f.params.length z,.slice B f.results.length E,.slice p3 f.blocks.length S] 89):=Blk.new _ _ _;have a4:Hid (Blk (l.alloc (.cells #[Iv f.regs,.slice D f.params.length z,.slice B f.results.length E,.slice p3 f.blocks.length S] 89)) t #[.slice o k d] 24):=ax.out.below b5;have bj:Hid (Qbm (ZS 6) 89 (l.alloc (.cells #[Iv f.regs,.slice D f.params.length z,.slice B f.results.length E,.slice p3 f.blocks.length S] 89)) w.heap.size C.heap.size (.slice o k d) ((m.take k).map MFunc.outl) cF):=M.out.below b5;have bd:Hid (Chg t C (l.alloc (.cells #[Iv f.regs,.slice D f.params.length z,.slice B f.results.length E,.slice p3 f.blocks.length S] 89))):=al.out.allocP _;have G:Hid (Below w.heap.size w (l.alloc (.cells #[Iv f.regs,.slice D f.params.length z,.slice B f.results.length E,.slice p3 f.blocks.length S] 89))):=I.out.trans (b5.mono I.out.size);have bx:Hid (∀ g,(Value.slice o k d).ownBlock=some g->C.heap.size<=g/\g<l.heap.size):=fun g hg=>M.out.lo_le hg;have S5:Hid (l.heap.size<(l.alloc (.cells #[Iv f.regs,.slice D f.params.length z,.slice B f.results.length E,.slice p3 f.blocks.length S] 89)).heap.size):=BF.out.lt;have S1:Hid (C.heap.size<=l.heap.size):=al.out.size;clear af bt ap aq bk bl b5 ax M al I ag;go_upto_region 5 with fail
  generalize l.alloc (.cells #[Iv f.regs,.slice D f.params.length z,.slice B f.results.length E,.slice p3 f.blocks.length S] 89)=N at BF a4 bj bd G S5 |-;generalize l.heap.size=XF at BF S5 bx S1 |-;clear v0 v1 v2 v3;have t3:=Qb BF.out 3 _ Z;go_wp2_with fail
  clear t3;go_loopw [6,20] (fun v u wq=>∃ (q:Nat) (A:List Value),q<=f.blocks.length/\u=Iv q/\Qbm (Zj 6) 86 wq w.heap.size N.heap.size v ((f.blocks.take q).map MBlock.outl) A/\Below N.heap.size N wq) (fun _ u _=>f.blocks.length - (intOf u).toNat)
  case atStart=>exact⟨0,[],Xb _,Z,Qbm.nil _ _ _ _ _,Zr⟩
  case round =>
   obtain⟨q,cB,hq,rfl,r,bv⟩:=hrel
   obtain⟨wq,ci⟩:∃ wq,wq=wr:=⟨_,Z⟩
   subst ci;have ai:=Qa r;have BQ:=Qa bv;obtain⟨U,V,be⟩:=r.form
   have ak:((f.blocks.take q).map MBlock.outl).length=q:=by simp;omega
   rw[ak] at be
   subst be;clear r bv;by_cases br:q<f.blocks.length
   rotate_left
   ·have ar:¬ (q:Int)<f.blocks.length:=by omega
    have cb:q=f.blocks.length:=by omega
    subst cb;have am:Hid (Blk wq t #[.slice o k d] 24):=a4.out.below BQ.out;have an:Hid (Blk wq XF #[Iv f.regs,.slice D f.params.length z,.slice B f.results.length E,.slice p3 f.blocks.length S] 89):=BF.out.below BQ.out;have a2:Hid (Qbm (ZS 6) 89 wq w.heap.size C.heap.size (.slice o k d) ((m.take k).map MFunc.outl) cF):=bj.out.below BQ.out;have ay:Hid (Chg t C wq):=bd.out.trans (Chg.below BQ.out);have F:Hid (Below w.heap.size w wq):=G.out.trans (BQ.out.mono G.out.size)
    have FN:Hid ((ZS 6).In wq (fun g=>(g<w.heap.size\/C.heap.size<=g)/\(Value.slice o k d).ownBlock≠some g) f.outl [Iv f.regs,.slice D f.params.length z,.slice B f.results.length E,.slice U f.blocks.length V]):=by
     have o1:=bx.out;have o2:=S5.out;have o3:=Q.out;have o4:=S1.out;have a6:f.outl.blocks.length=f.blocks.length:=Qge f;have hb:=ai.out.lay;rw[XO Ze] at hb
     have ck:(Zj 6).list.In wq (fun g=>(g<w.heap.size\/C.heap.size<=g)/\(Value.slice o k d).ownBlock≠some g) f.outl.blocks [.slice U f.outl.blocks.length V]:=by
      rw[a6]
      exact Yc hb (fun j hj K=>⟨by rcases hj with hj | hj;exact .inl hj;exact .inr (by omega),fun e=>by have:=o1 j e;rcases hj with hj | hj<;>omega⟩)
     have:=Qh5 (x:=f.outl) (Yc (Ya bq.out F.out) (fun j hj K=>⟨.inl hj,fun e=>by have:=o1 j e;omega⟩)) (Yc (Ya b9.out F.out) (fun j hj K=>⟨.inl hj,fun e=>by have:=o1 j e;omega⟩)) ck cf.out
     rw[a6] at this
     exact this
    have H:Hid (wq.ownsRow C.heap.size 89 4 (.slice o k d) k cF):=by
     have:=a2.out.own
     rw[ae] at this
     exact this
    have PU:Hid (∀ g n y,y.ownsRow C.heap.size 89 4 (.slice (some ⟨g,0,none⟩) (k+1) n) (k+1) (cF++[Iv f.regs,.slice D f.params.length z,.slice B f.results.length E,.slice U f.blocks.length V])->(wq.alloc (.cells #[Iv f.regs,.slice D f.params.length z,.slice B f.results.length E,.slice U f.blocks.length V] 89)).grownBy y (Value.slice o k d).ownBlock->((Value.slice o k d).ownBlock=some g\/g=wq.heap.size+1) ->
     Qbm (ZS 6) 89 (y.setCell ⟨t,0,none⟩ (.slice (some ⟨g,0,none⟩) (k+1) n)) w.heap.size C.heap.size (.slice (some ⟨g,0,none⟩) (k+1) n) ((m.take (k+1)).map MFunc.outl) (cF++[Iv f.regs,.slice D f.params.length z,.slice B f.results.length E,.slice U f.blocks.length V])/\Blk y t #[.slice o k d] 24/\Chg t C (y.setCell ⟨t,0,none⟩ (.slice (some ⟨g,0,none⟩) (k+1) n))/\Blk (y.setCell ⟨t,0,none⟩ (.slice (some ⟨g,0,none⟩) (k+1) n)) t #[.slice (some ⟨g,0,none⟩) (k+1) n] 24):=by
     intro g n y h1 h2 h3;have b6:Below wq.heap.size wq (wq.alloc (.cells #[Iv f.regs,.slice D f.params.length z,.slice B f.results.length E,.slice U f.blocks.length V] 89)):=Zc _ _;have A5:=a2.out.below b6;have T5:=Ya FN.out b6;have o3:=Q.out;have A9:=Qbm.push A5 (by have:=(F.out.trans (b6.mono F.out.size)).size;exact this) T5 h2 (by simpa using h3) (by rw[ae];exact h1);rw[ae,<-Qgu cd.out] at A9
     have C9:Chg t C y:=Chg.grownP (ay.out.trans (Chg.below b6)) h2 (fun k hk=>(A5.lo_le hk).1);have K9:Blk y t #[.slice o k d] 24:=((h2.block t (Zl am.out.lt b6.size) (fun e=>by have:=(A5.lo_le e.symm).1;omega)).trans (am.out.below b6));refine⟨A9.setOther ⟨by show w.heap.size<=t;omega,by show t<_;omega⟩ _,K9,C9.trans (Chg.set _ _ _ K9.lt),?_⟩
     have:=Qh K9 0 (.slice (some ⟨g,0,none⟩) (k+1) n)
     simpa using this
    have ce:C.heap.size<=wq.heap.size:=ay.out.size;have y0:=Qb am.out 0 _ Z;have f0:=Qb an.out 0 _ Z;have f1:=Qb an.out 1 _ Z;have f2:=Qb an.out 2 _ Z;clear am an a2 ay F FN ai BQ;generalize f.params.length=lp at PU f1 |-;generalize f.results.length=lr at PU f2 |-;generalize f.blocks.length=lb at PU ar f0 f1 f2 |-;generalize f.regs=rr at PU f0 |-;go_wp2_with (at_builtin;refine wpList_append_lies _ Z (.tmp 35) (.tmp 44) 22 Z C.heap.size 89 iF (.agg #[Iv 0,Nv,Nv,Nv]) 4 80 pUnderF ch bb b0 b4 Z (by decide) _ _ _ Z (H.out.alloc _) ⟨wq.heap.size,0,none⟩ 1 1 [Iv rr,.slice D lp z,.slice B lr E,.slice U lb V] Z Z (Qkh _ [_,_,_,_] _) (QnI Z) (by decide) (by unfold maxLen;omega) (by omega) (by simp;omega) (wq.heap.size+1) (by simp) ?_)
    intro g2 ac y h1 s ab ad;obtain⟨q1,q2,q3,q4⟩:=PU.out g2 ac y h1 s ab
    have A9:=Qa q1;have K9:=Qa q2;have C9:=Qa q3;have N9:=Qa q4;have y9:=Qb q2 0 _ Z;have z9:=Qj q2 0;clear h1 s ab ad H PU q1 q2 q3 q4 y0 f0 f1 f2;go_wp2
    go_roundw
    case rel=>exact⟨k+1,_,_,bp,by go_num,N9.out,A9.out,C9.out⟩
    case measure=>simp[intOf];omega
   have ar:(q:Int)<f.blocks.length:=by omega
   have aa:f.blocks[q]?=some f.blocks[q]:=Zg br;generalize f.blocks[q]=g at aa;have cg:=Qa aa;have a8:=Qa (QiS bh.out aa);obtain⟨eg,eo,W,T,es,rfl,L,a7,bm,ao⟩:=Qbp bh.out aa
   have a9:=Qa bm;have F:Hid (Below w.heap.size w wq):=G.out.trans (BQ.out.mono G.out.size);have au:Hid (wq.rangeAt eg (eo+q*12) (Value.int .i64 g.regs::Value.slice W g.params.length T::es)):=Z1 L F.out;generalize aj:(Value.int .i64 g.regs::Value.slice W g.params.length T::es)=A at au;have K:A.length=12:=by rw[<-aj];simp[a7]
   have TS:Hid ((prog.info? 86).map (·.size)=some A.length):=by show _=_;rw[K];exact pSizeB
   have TH:Hid ((wq.alloc (.cells #[Iv 0,Nv,Nv,Iv 0,Iv 0,Iv 0,Nv,Nv,Iv 0,Nv,Nv,Nv] 86)).there wq.heap.size 0 A.toArray.size):=by
    intro j hj;rw[List.size_toArray,K] at hj
    rw[XK]
    have hB:=Qe wq #[Iv 0,Nv,Nv,Iv 0,Iv 0,Iv 0,Nv,Nv,Iv 0,Nv,Nv,Nv] 86;refine⟨?_,Qj hB j⟩
    rw[Qb hB j ((#[Iv 0,Nv,Nv,Iv 0,Iv 0,Iv 0,Nv,Nv,Iv 0,Nv,Nv,Nv]:Array Value)[j]'hj) (by simp)];rfl
   have bf:Hid ((prog.info? 86).map (·.size)=some A.toArray.size):=by show _=_;rw[List.size_toArray];exact TS.out
   have TO:Hid (A.toArray.all (·.oneCell')=true):=by
    refine all_oneCell_toArray fun v hv=>?_;rw[<-aj] at hv
    rcases List.mem_cons.1 hv with rfl | hv
    ·rfl
    rcases List.mem_cons.1 hv with rfl | hv
    ·rfl
    exact ao v hv
   have B6:Hid (Blk ((wq.alloc (.cells #[Iv 0,Nv,Nv,Iv 0,Iv 0,Iv 0,Nv,Nv,Iv 0,Nv,Nv,Nv] 86)).setCells wq.heap.size 0 A.toArray.toList) wq.heap.size (Value.int .i64 g.regs::Value.slice W g.params.length T::es).toArray 86):=by
    have h0:Blk (wq.alloc (.cells #[Iv 0,Nv,Nv,Iv 0,Iv 0,Iv 0,Nv,Nv,Iv 0,Nv,Nv,Nv] 86)) wq.heap.size ([]++(#[Iv 0,Nv,Nv,Iv 0,Iv 0,Iv 0,Nv,Nv,Iv 0,Nv,Nv,Nv]:Array Value).toList).toArray 86:=Qe wq _ _;rw[aj]
    exact Blk.sets A [] (#[Iv 0,Nv,Nv,Iv 0,Iv 0,Iv 0,Nv,Nv,Iv 0,Nv,Nv,Nv]:Array Value).toList _ (by rw[K];rfl) h0
   have b6:Hid (Below wq.heap.size wq ((wq.alloc (.cells #[Iv 0,Nv,Nv,Iv 0,Iv 0,Iv 0,Nv,Nv,Iv 0,Nv,Nv,Nv] 86)).setCells wq.heap.size 0 A.toArray.toList)):=by
    have:=Qz.setCells (O:=fun k=>k=wq.heap.size) (O':=fun k=>k=wq.heap.size) (b:=wq.heap.size) Z A.toArray.toList 0 _ (Qz.refl _ (wq.alloc (.cells #[Iv 0,Nv,Nv,Iv 0,Iv 0,Iv 0,Nv,Nv,Iv 0,Nv,Nv,Nv] 86)))
    exact(Zc wq _).trans (this.below (by simp) (fun k hk=>by omega))
   clear K aj L a7 bm ao aa;go_upto_region 9 with (first | (refine wpList_load_mid Z 86 (.tmp 22) Z eg (eo+q*12) Z A _ au.out underlying86 Z TS.out ?_) | (refine wpList_store_mid Z 86 (.tmp 8) (.tmp 23) Z wq.heap.size 0 A.toArray Z Z TH.out bf.out TO.out ?_))
   have B7:Hid (Blk ((wq.alloc (.cells #[Iv 0,Nv,Nv,Iv 0,Iv 0,Iv 0,Nv,Nv,Iv 0,Nv,Nv,Nv] 86)).setCells wq.heap.size 0 A) wq.heap.size (Value.int .i64 g.regs::Value.slice W g.params.length T::es).toArray 86):=B6.out;have b7:Hid (Below wq.heap.size wq ((wq.alloc (.cells #[Iv 0,Nv,Nv,Iv 0,Iv 0,Iv 0,Nv,Nv,Iv 0,Nv,Nv,Nv] 86)).setCells wq.heap.size 0 A)):=b6.out;clear B6 b6 TH TS bf TO au;generalize (wq.alloc (.cells #[Iv 0,Nv,Nv,Iv 0,Iv 0,Iv 0,Nv,Nv,Iv 0,Nv,Nv,Nv] 86)).setCells wq.heap.size 0 A=J at B7 b7 |-;have ah:Hid (Qbm (Zj 6) 86 J w.heap.size N.heap.size (.slice U q V) ((f.blocks.take q).map MBlock.outl) cB):=ai.out.below b7.out;have P:Hid (Below N.heap.size N J):=BQ.out.trans (b7.out.mono BQ.out.size);generalize wq.heap.size=Bx at B7 b7 |-;have g0:J.cell? ⟨Bx,0,none⟩=some (Iv g.regs):=Qb B7.out 0 _ Z;have g1:J.cell? ⟨Bx,1,none⟩=some (.slice W g.params.length T):=Qb B7.out 1 _ Z
   have H:Hid (J.ownsRow N.heap.size 86 12 (.slice U q V) q cB):=by
    have:=ah.out.own
    rw[ak] at this
    exact this
   have PU:Hid (∀ gg n y,y.ownsRow N.heap.size 86 12 (.slice (some ⟨gg,0,none⟩) (q+1) n) (q+1) (cB++[Iv g.regs,.slice W g.params.length T,Nv,Iv 3,Iv 0,Iv 0,Nv,Nv,Iv 0,Nv,Nv,Nv])->(J.alloc (.cells #[Iv g.regs,.slice W g.params.length T,Nv,Iv 3,Iv 0,Iv 0,Nv,Nv,Iv 0,Nv,Nv,Nv] 86)).grownBy y (Value.slice U q V).ownBlock->((Value.slice U q V).ownBlock=some gg\/gg=J.heap.size+1) ->
    Qbm (Zj 6) 86 y w.heap.size N.heap.size (.slice (some ⟨gg,0,none⟩) (q+1) n) ((f.blocks.take (q+1)).map MBlock.outl) (cB++[Iv g.regs,.slice W g.params.length T,Nv,Iv 3,Iv 0,Iv 0,Nv,Nv,Iv 0,Nv,Nv,Nv])/\Below N.heap.size N y):=by
    intro gg n y h1 h2 h3;have b8:Below J.heap.size J (J.alloc (.cells #[Iv g.regs,.slice W g.params.length T,Nv,Iv 3,Iv 0,Iv 0,Nv,Nv,Iv 0,Nv,Nv,Nv] 86)):=Zc _ _;have A5:=ah.out.below b8;have a0:Below w.heap.size w J:=G.out.trans (P.out.mono G.out.size);have o5:=G.out.size
    have T5:(Zj 6).In (J.alloc (.cells #[Iv g.regs,.slice W g.params.length T,Nv,Iv 3,Iv 0,Iv 0,Nv,Nv,Iv 0,Nv,Nv,Nv] 86)) (fun k=>(k<w.heap.size\/N.heap.size<=k)/\(Value.slice U q V).ownBlock≠some k) g.outl [Iv g.regs,.slice W g.params.length T,Nv,Iv 3,Iv 0,Iv 0,Nv,Nv,Iv 0,Nv,Nv,Nv] :=
     Ya (QiW (Yc (Ya a9.out a0) (fun j hj K=>⟨.inl hj,fun e=>by have:=(ah.out.lo_le e).1;omega⟩)) a8.out) b8
    have A9:=Qbm.push A5 ((a0.trans (b8.mono a0.size)).size) T5 h2 (by simpa using h3) (by rw[ak];exact h1);rw[ak,<-Qgu cg.out] at A9
    exact⟨A9,(P.out.trans (b8.mono P.out.size)).grown h2 (Zt P.out.size b8.size) (fun k hk=>(A5.lo_le hk).1)⟩
   have ce:N.heap.size<=J.heap.size:=P.out.size;clear B7 b7 ah P ai BQ F a9 a8;generalize g.params.length=lp at PU g1 |-;generalize g.regs=rr at PU g0 |-;go_wp2_with (at_builtin;refine wpList_append_lies _ Z (.tmp 24) (.tmp 31) 87 Z N.heap.size 86 iB (.agg #[Iv 0,Nv,Nv,Iv 0,Iv 0,Iv 0,Nv,Nv,Iv 0,Nv,Nv,Nv]) 12 208 pUnderB ca bu a5 bg Z (by decide) _ _ _ Z (H.out.alloc _) ⟨J.heap.size,0,none⟩ 1 1 [Iv rr,.slice W lp T,Nv,Iv 3,Iv 0,Iv 0,Nv,Nv,Iv 0,Nv,Nv,Nv] Z Z (Qkh _ [_,_,_,_,_,_,_,_,_,_,_,_] _) (QnI Z) (by decide) (by unfold maxLen;omega) (by omega) (by simp;omega) (J.heap.size+1) (by simp) ?_)
   intro g2 ac y h1 s ab ad;obtain⟨q1,q2⟩:=PU.out g2 ac y h1 s ab
   have A9:=Qa q1;have C9:=Qa q2;clear h1 s ab ad H PU q1 q2 g0 g1;go_wp2
   go_roundw
   case rel=>exact⟨q+1,_,br,by go_num,A9.out,C9.out⟩
   case measure=>simp[intOf];omega
def QcW (n:Nat):Lay (MBlock n):=(Lay.int.pair ((Qo n).pair (insC.list.pair endL))).via (fun x=>(x.regs,x.params,x.code,x.fin))
def QlO (n:Nat):Lay (MFunc n):=(Lay.int.pair ((Qo n).pair ((Qo n).pair (QcW n).list))).via (fun x=>(x.regs,x.params,x.results,x.blocks))
abbrev QkI (n:Nat):Lay (List (MFunc n)):=(QlO n).list
theorem Qhw (n:Nat):Lay.Sub (QcW n) (Zj n):=.via (.pair (.refl _) (.pair (.refl _) (.pair (.list ins_sub) (.refl _)))) _
theorem Qji (n:Nat):Lay.Sub (QlO n) (ZS n):=.via (.pair (.refl _) (.pair (.refl _) (.pair (.refl _) (.list (Qhw n))))) _
theorem Qbx (n:Nat):Lay.Sub (QkI n) (QaM n):=.list (Qji n)
theorem Qhe (n:Nat):Lay.Sub (Qbd n) (QcW n):=.via (.pair (.refl _) (.pair (.refl _) (.pair (.refl _) end_sub))) _
theorem QhE (n:Nat):Lay.Sub (Qfj n) (QlO n):=.via (.pair (.refl _) (.pair (.refl _) (.pair (.refl _) (.list (Qhe n))))) _
theorem Qgd (n:Nat):Lay.Sub (Qin n) (QkI n):=.list (QhE n)
section
variable {w:World}{O:Nat->Prop}{n:Nat}
theorem Qit {x:Qs}{b:Option Addr}(f:intsC.In w O x.regs [.slice a x.regs.length c]) (g:intsC.In w O x.args [.slice b x.args.length d]) (e:I64 x.op/\I64 x.a/\I64 x.b/\I64 x.c/\I64 x.k/\I64 x.n):insC.In w O x [Iv x.op,Iv x.a,Iv x.b,Iv x.c,Iv x.k,Iv x.n,.slice a x.regs.length c,.slice b x.args.length d] :=
 ⟨[_],_,Z,⟨Z,e.1⟩,[_],_,Z,⟨Z,e.2.1⟩,[_],_,Z,⟨Z,e.2.2.1⟩,[_],_,Z,⟨Z,e.2.2.2.1⟩,[_],_,Z,⟨Z,e.2.2.2.2.1⟩,[_],_,Z,⟨Z,e.2.2.2.2.2⟩,[_],_,Z,f,g⟩
end
theorem XI:type_of% @Below.setCell:=@Below.setCell
theorem Qe0 {m:List (MBlock 6)}(h:(QcW 6).list.In w Q m [.slice p n c]){g:MBlock 6}(o:m[k]?=some g) :
 ∃ mg mo a1 c1 a2 c2 e,p=some ⟨mg,mo,none⟩/\w.rangeAt mg (mo+k*12) (Iv g.regs::.slice a1 g.params.length c1::.slice a2 g.code.length c2::(QbU g.fin e).toList)/\insC.list.In w Q g.code [.slice a2 g.code.length c2]/\Qdu w Q g.fin e/\(-9223372036854775808<=g.fin.a/\g.fin.a<=9223372036854775807):=by
 obtain⟨mg,mo,u,r,t,x,s,_,_,rfl,⟨rfl,_⟩,_,_,rfl,i,_,_,rfl,f,q⟩:=Yf h o
 obtain⟨a1,c1,rfl,i⟩:=QK i
 obtain⟨a2,c2,rfl,f⟩:=QK f
 obtain⟨e,rfl,b⟩:=Qel q
 refine⟨mg,mo,a1,c1,a2,c2,e,r,fun j v l=>?_,f,⟨b.yes.regs,b.yes.args,b.no.regs,b.no.args,b.args⟩,b.bnd.2⟩
 have d:j<12:=(Zi l).1
 have:=s j d
 rw[show (QcW 6).size=12 from Z] at this
 rw[this]
 exact l
structure VcS (w wr:World) (X R A4:Nat) (pm pa:Option Addr) (cm ca:Nat) (m:List (MFunc 6)):Prop where
 bel:Below w.heap.size w wr
 x:Blk wr X #[.slice pm m.length cm] 24
 r:Blk wr R #[Iv 0,Iv 0] 32
 a:Blk wr A4 #[.slice pa m.length ca] 24
 om:(QaM 6).In wr All (outl m) [.slice pa m.length ca]
theorem VcS.below {wr:World}{b:Nat}{m:List (MFunc 6)}(h:VcS w wr X R b pm pa cm ca m) (k:Below wr.heap.size wr w'):VcS w w' X R b pm pa cm ca m :=
 ⟨h.bel.trans (k.mono h.bel.size),h.x.below k,h.r.below k,h.a.below k,Ya h.om k⟩
theorem Qcp {m:List (MFunc n)}(I:(QaM n).In w All m [.slice p m.length c]) (j:Qbe m) (d:(modFault m).1≠0) :
 Calls prog 66 #[.agg #[.slice p m.length c]] w fun e w'=>e=.returned (QG (modFault m))/\Below w.heap.size w w':=by
 have M:=Qa I;have B:=Qa j;have C:=Zc w (.cells #[.slice p m.length c] 24);have h:=Zc (w.alloc (.cells #[.slice p m.length c] 24)) (.cells #[Iv 0,Iv 0] 32);have s:Hid (Below w.heap.size w ((w.alloc (.cells #[.slice p m.length c] 24)).alloc (.cells #[Iv 0,Iv 0] 32))):=C.trans (h.mono C.size);have o:Hid (Blk ((w.alloc (.cells #[.slice p m.length c] 24)).alloc (.cells #[Iv 0,Iv 0] 32)) w.heap.size #[.slice p m.length c] 24):=Blk.new1 ..;have q:Hid (Blk ((w.alloc (.cells #[.slice p m.length c] 24)).alloc (.cells #[Iv 0,Iv 0] 32)) (w.heap.size+1) #[Iv 0,Iv 0] 32):=Blk.new2 ..;clear C h I j;go_enter func66,ntmps66
 go_upto_region 1 with fail
 generalize (w.alloc (.cells #[.slice p m.length c] 24)).alloc (.cells #[Iv 0,Iv 0] 32)=P at s o q |-;obtain⟨X,H⟩:∃ X,X=w.heap.size:=⟨_,Z⟩
 obtain⟨R,F⟩:∃ R,R=X+1:=⟨_,Z⟩
 have l:Hid (w.heap.size<=R):=by show _<=_;omega
 rw[<-H] at o q |-
 rw[<-F] at q |-
 clear H F;have K:=Qb o.out 0 _ Z;have D:=Qa (Qca (Ya M.out s.out) B.out);unfold Rd at D;go_wp2_with fail
 refine D.out.mono ?_;rintro S f ⟨rfl,h⟩;obtain⟨a,b,g⟩:∃ a b,modFault m=(a,b):=⟨_,_,Z⟩
 have i:Hid (modFault m=(a,b)):=g;rw[g]
 clear g;have u:=h.trans ((Zc f (.cells #[Iv a,Iv b] 32)).mono h.size);have A:Hid (Blk (f.alloc (.cells #[Iv a,Iv b] 32)) X #[.slice p m.length c] 24):=o.out.below u;have t:Hid (Blk (f.alloc (.cells #[Iv a,Iv b] 32)) R #[Iv 0,Iv 0] 32):=q.out.below u;have k:Hid (Below w.heap.size w (f.alloc (.cells #[Iv a,Iv b] 32))):=s.out.trans (u.mono s.out.size);have y:Hid (Blk (f.alloc (.cells #[Iv a,Iv b] 32)) f.heap.size #[Iv a,Iv b] 32):=Blk.new _ _ _;simp only[QG]
 clear h u D K o q s;go_upto_region 2 with fail
 generalize f.alloc (.cells #[Iv a,Iv b] 32)=x at A t k y |-;generalize f.heap.size=U at y |-
 have G:(a != 0)=true:=by
  have:a≠0:=by rw[i.out] at d;exact d
  simpa using this
 clear d;have T:=Qb y.out 0 _ Z;have V:=Qb y.out 1 _ Z;have E:Hid (modFault m=(a,b)):=i.out;have r:Hid (Blk x R #[Iv 0,Iv 0] 32):=t.out;have W:=Qb r.out 0 _ Z;have r1:=Qb r.out 1 _ Z;have Q:=Qj r.out 0;have z1:=Qj r.out 1;have z:Hid (Blk ((x.setCell ⟨R,0,none⟩ (Iv a)).setCell ⟨R,1,none⟩ (Iv b)) R #[Iv a,Iv b] 32):=Zs r.out _ _;have J:Hid (Below w.heap.size w ((x.setCell ⟨R,0,none⟩ (Iv a)).setCell ⟨R,1,none⟩ (Iv b))):=(XI k.out (p:=⟨R,0,none⟩) l.out _).setCell (p:=⟨R,1,none⟩) l.out _;go_wp2_with fail
 generalize (x.setCell ⟨R,0,none⟩ (Iv a)).setCell ⟨R,1,none⟩ (Iv b)=N at z J |-;have L:=Qb z.out 0 _ Z;have O:=Qb z.out 1 _ Z;exact Xy (v:=.agg #[Iv a,Iv b]) (by simp[results,results66,go_sem,L,O]) Z ⟨by rw[E.out],J.out⟩
theorem Qb9 {m:List (MFunc 6)}(hm:(QkI 6).In w All m [.slice p m.length c]) (aj:Qbe m) (an:(modFault m).1=0->¬ Qm m) :
 Calls prog 66 #[.agg #[.slice p m.length c]] w fun e w'=>e=.returned (QG (Qr m))/\Below w.heap.size w w':=by
 by_cases hz:(modFault m).1=0
 rotate_left
 ·have e:Qr m=modFault m:=by unfold Qr;rw[Xs hz]
  rw[e]
  exact Qcp ((Qbx 6).2 hm) aj hz
 have hg:=an hz;have HM:=Qa hm;have aw:=Qa aj;have HG:=Qa hg;have ae:=Qa hz;have bd:m.length<=20:=Xo fun x=>hg (.inl x);have E0:Hid (Qr m=firstF (Z0 m) 0 m):=by show _=_;unfold Qr;rw[Xr (fun h=>h hz)]
 clear hg an hz;have b1:=Zc w (.cells #[.slice p m.length c] 24);have b2:=Zc (w.alloc (.cells #[.slice p m.length c] 24)) (.cells #[Iv 0,Iv 0] 32);have B0:Hid (Below w.heap.size w ((w.alloc (.cells #[.slice p m.length c] 24)).alloc (.cells #[Iv 0,Iv 0] 32))):=b1.trans (b2.mono b1.size);have BX:Hid (Blk ((w.alloc (.cells #[.slice p m.length c] 24)).alloc (.cells #[Iv 0,Iv 0] 32)) w.heap.size #[.slice p m.length c] 24):=Blk.new1 ..;have BR:Hid (Blk ((w.alloc (.cells #[.slice p m.length c] 24)).alloc (.cells #[Iv 0,Iv 0] 32)) (w.heap.size+1) #[Iv 0,Iv 0] 32):=Blk.new2 ..;clear b1 b2 hm aj;go_enter func66,ntmps66
 go_upto_region 1 with fail
 generalize (w.alloc (.cells #[.slice p m.length c] 24)).alloc (.cells #[Iv 0,Iv 0] 32)=w1 at B0 BX BR |-;obtain⟨X,hX⟩:∃ X,X=w.heap.size:=⟨_,Z⟩
 obtain⟨R,hR⟩:∃ R,R=X+1:=⟨_,Z⟩
 have U:Hid (w.heap.size<=R):=by show _<=_;omega
 rw[<-hX] at BX BR |-
 rw[<-hR] at BR |-
 clear hX hR;have x0:=Qb BX.out 0 _ Z;have CC:=Qa (Qca (Ya ((Qbx 6).2 HM.out) B0.out) aw.out);unfold Rd at CC;go_wp2_with fail
 refine CC.out.mono ?_;rintro e2 V ⟨rfl,b2⟩;obtain⟨L,M,al⟩:∃ L M,modFault m=(L,M):=⟨_,_,Z⟩
 have ar:Hid (modFault m=(L,M)):=al;rw[al]
 clear al;have b3:=b2.trans ((Zc V (.cells #[Iv L,Iv M] 32)).mono b2.size);have T:Hid (Blk (V.alloc (.cells #[Iv L,Iv M] 32)) X #[.slice p m.length c] 24):=BX.out.below b3;have af:Hid (Blk (V.alloc (.cells #[Iv L,Iv M] 32)) R #[Iv 0,Iv 0] 32):=BR.out.below b3;have B:Hid (Below w.heap.size w (V.alloc (.cells #[Iv L,Iv M] 32))):=B0.out.trans (b3.mono B0.out.size);have F3:Hid (Blk (V.alloc (.cells #[Iv L,Iv M] 32)) V.heap.size #[Iv L,Iv M] 32):=Blk.new _ _ _;simp only[QG]
 clear b2 b3 CC x0 BX BR B0;go_upto_region 2 with fail
 generalize V.alloc (.cells #[Iv L,Iv M] 32)=w3 at T af B F3 |-;generalize V.heap.size=F9 at F3 |-;have a7:L=0:=by have:=ae.out;rw[ar.out] at this;exact this
 subst a7;have f0:=Qb F3.out 0 _ Z;have f1:=Qb F3.out 1 _ Z;have x3:=Qb T.out 0 _ Z;have CO:=Qa (QhF (w:=w3) (m:=m) (p:=p) (c:=c) (Ya ((Qbx 6).2 HM.out) B.out) aw.out);clear ar;go_wp2_with fail
 refine CO.out.mono ?_;rintro e4 w4 ⟨F,l,rfl,au,b4⟩;have b5:=Zc w4 (.cells #[.slice F m.length l] 24)
 have S:Hid (VcS w (w4.alloc (.cells #[.slice F m.length l] 24)) X R w4.heap.size p F c l m) :=
  ⟨(B.out.trans (b4.mono B.out.size)).trans (b5.mono (Zt B.out.size b4.size)),(T.out.below b4).below b5,(af.out.below b4).below b5,Blk.new _ _ _,Ya au b5⟩
 clear au b4 b5 CO x3 f0 f1 T af B F3;go_upto_region 5 with fail
 generalize w4.alloc (.cells #[.slice F m.length l] 24)=w5 at S |-;generalize w4.heap.size=A4 at S |-;have x0:=Qb S.out.x 0 _ Z;go_wp2_with fail
 clear x0;go_loopw [21] (fun i wr=>∃ k:Nat,k<=m.length/\i=Iv k/\VcS w wr X R A4 p F c l m/\∀ j f,j<k->m[j]?=some f->(Z0 m j f).1=0) (fun i _=>m.length - (intOf i).toNat)
 case atStart=>exact⟨0,Xb _,Z,S.out,fun j f hj=>absurd hj (XG _)⟩
 case round =>
  obtain⟨k,hk,rfl,hs,o⟩:=hrel
  have W:=Qa hs;have G:=Qa o;clear hs o S;obtain⟨s,az⟩:∃ s,s=wr:=⟨_,Z⟩
  subst az;by_cases a8:k<m.length
  rotate_left
  ·have ax:¬ (k:Int)<m.length:=by omega
   have E:Hid (Qr m=(0,0)):=by
    show _=_;rw[E0.out]
    exact Q0 fun j f hj=>by rw[XK];exact G.out j f (by have:=(Zi hj).1;omega) hj
   have H:Hid (Blk s R #[Iv 0,Iv 0] 32):=W.out.r;have r0:=Qb H.out 0 _ Z;have r1:=Qb H.out 1 _ Z;have z0:=Qj H.out 0;have z1:=Qj H.out 1;have RB:Hid (Blk ((s.setCell ⟨R,0,none⟩ (Iv 0)).setCell ⟨R,1,none⟩ (Iv 0)) R #[Iv 0,Iv 0] 32):=Zs H.out _ _;have BL:Hid (Below w.heap.size w ((s.setCell ⟨R,0,none⟩ (Iv 0)).setCell ⟨R,1,none⟩ (Iv 0))):=(XI W.out.bel (p:=⟨R,0,none⟩) U.out _).setCell (p:=⟨R,1,none⟩) U.out _;go_wp2_with fail
   generalize (s.setCell ⟨R,0,none⟩ (Iv 0)).setCell ⟨R,1,none⟩ (Iv 0)=a0 at RB BL |-;have e0:=Qb RB.out 0 _ Z;have e1:=Qb RB.out 1 _ Z;exact Xy (v:=.agg #[Iv 0,Iv 0]) (by simp[results,results66,go_sem,e0,e1]) Z ⟨by rw[E.out],BL.out⟩
  have ax:(k:Int)<m.length:=by omega
  have K:m[k]?=some m[k]:=Zg a8;generalize m[k]=f at K;have ah:=Qa K;obtain⟨C,D,ds,rfl,-,-,J,_,_,rfl,⟨rfl,_⟩,_,_,rfl,t1,_,_,rfl,t2,t3⟩:=Yf HM.out K
  obtain⟨a1,c1,rfl,t1⟩:=QK t1
  obtain⟨a2,c2,rfl,t2⟩:=QK t2
  obtain⟨a3,c3,rfl,t3⟩:=QK t3
  have v0:s.cell? ⟨C,D+k*4,none⟩=some (Iv f.regs):=Qk (show w.cell? ⟨C,D+k*4,none⟩=_ from J 0 (by decide)) W.out.bel;have v1:s.cell? ⟨C,D+k*4+1,none⟩=some (.slice a1 f.params.length c1):=Qk (show w.cell? ⟨C,D+k*4+1,none⟩=_ from J 1 (by decide)) W.out.bel;have v2:s.cell? ⟨C,D+k*4+2,none⟩=some (.slice a2 f.results.length c2):=Qk (show w.cell? ⟨C,D+k*4+2,none⟩=_ from J 2 (by decide)) W.out.bel;have v3:s.cell? ⟨C,D+k*4+3,none⟩=some (.slice a3 f.blocks.length c3):=Qk (show w.cell? ⟨C,D+k*4+3,none⟩=_ from J 3 (by decide)) W.out.bel;have a4:Hid ((QcW 6).list.In w All f.blocks [.slice a3 f.blocks.length c3]):=t3;have ba:Hid (f∈m):=Zm K;have be:f.blocks.length<=30:=Xo fun h=>HG.out (.inr ⟨f,ba.out,.inl h⟩);have b6:=Zc s (.cells #[Iv f.regs,.slice a1 f.params.length c1,.slice a2 f.results.length c2,.slice a3 f.blocks.length c3] 89);have S6:Hid (VcS w (s.alloc (.cells #[Iv f.regs,.slice a1 f.params.length c1,.slice a2 f.results.length c2,.slice a3 f.blocks.length c3] 89)) X R A4 (some ⟨C,D,none⟩) F c l m):=W.out.below b6;have BF:Hid (Blk (s.alloc (.cells #[Iv f.regs,.slice a1 f.params.length c1,.slice a2 f.results.length c2,.slice a3 f.blocks.length c3] 89)) s.heap.size #[Iv f.regs,.slice a1 f.params.length c1,.slice a2 f.results.length c2,.slice a3 f.blocks.length c3] 89):=Blk.new _ _ _;clear J t1 t2 t3 K b6 W;go_upto_region 8 with fail
  generalize s.alloc (.cells #[Iv f.regs,.slice a1 f.params.length c1,.slice a2 f.results.length c2,.slice a3 f.blocks.length c3] 89)=w6 at S6 BF |-;generalize s.heap.size=XF at BF |-;clear v0 v1 v2 v3;have t3:=Qb BF.out 3 _ Z;go_wp2_with fail
  clear t3 BF;go_loopw [29] (fun i wq=>∃ q:Nat,q<=f.blocks.length/\i=Iv q/\VcS w wq X R A4 (some ⟨C,D,none⟩) F c l m/\∀ j g,j<q->f.blocks[j]?=some g->(QA (10000*(k:Int)+100*(j:Int)) g.fin (JSt.start m f g) 0 g.code).1=0) (fun i _=>f.blocks.length - (intOf i).toNat)
  case atStart=>exact⟨0,Xb _,Z,S6.out,fun j g hj=>absurd hj (XG _)⟩
  case round =>
   obtain⟨q,hq,rfl,hs,o⟩:=hrel
   have SQ:=Qa hs;have u:=Qa o;clear hs o S6;obtain⟨d,a6⟩:∃ d,d=wr:=⟨_,Z⟩
   subst a6;by_cases a9:q<f.blocks.length
   rotate_left
   ·have av:¬ (q:Int)<f.blocks.length:=by omega
    have E:Hid ((Z0 m k f).1=0):=by
     show _=_;unfold Z0;rw[Q0 fun j g hj=>by rw[XK];exact u.out j g (by have:=(Zi hj).1;omega) hj]
    go_wp2_with fail
    go_roundw
    case rel =>
     refine⟨k+1,by omega,by go_num,SQ.out,fun j y hj hy=>?_⟩
     by_cases ag:j<k
     ·exact G.out j y ag hy
     ·have:j=k:=by omega
      subst this;rw[ah.out] at hy
      cases hy
      exact E.out
    case measure=>simp[intOf];omega
   have av:(q:Int)<f.blocks.length:=by omega
   have N:f.blocks[q]?=some f.blocks[q]:=Zg a9;generalize f.blocks[q]=g at N;have ak:=Qa N;obtain⟨eg,eo,p1,d1,p2,d2,e,rfl,z,I,aa,ap⟩:=Qe0 a4.out N
   have ac:=Qa I;have ay:=Qa aa;have a5:=Qa ap;have ad:Hid (d.rangeAt eg (eo+q*12) (Value.int .i64 g.regs::Value.slice p1 g.params.length d1::Value.slice p2 g.code.length d2::(QbU g.fin e).toList)):=Z1 z SQ.out.bel;generalize Q:(Value.int .i64 g.regs::Value.slice p1 g.params.length d1::Value.slice p2 g.code.length d2::(QbU g.fin e).toList)=n at ad;have hl:n.length=12:=by rw[<-Q];rfl
   have TS:Hid ((prog.info? 86).map (·.size)=some n.length):=by show _=_;rw[hl];exact pSizeB
   have TH:Hid ((d.alloc (.cells #[Iv 0,Nv,Nv,Iv 0,Iv 0,Iv 0,Nv,Nv,Iv 0,Nv,Nv,Nv] 86)).there d.heap.size 0 n.toArray.size):=by
    intro j hj;rw[List.size_toArray,hl] at hj
    rw[XK]
    have hB:=Qe d #[Iv 0,Nv,Nv,Iv 0,Iv 0,Iv 0,Nv,Nv,Iv 0,Nv,Nv,Nv] 86;refine⟨?_,Qj hB j⟩
    rw[Qb hB j ((#[Iv 0,Nv,Nv,Iv 0,Iv 0,Iv 0,Nv,Nv,Iv 0,Nv,Nv,Nv]:Array Value)[j]'hj) (by simp)];rfl
   have ao:Hid ((prog.info? 86).map (·.size)=some n.toArray.size):=by show _=_;rw[List.size_toArray];exact TS.out
   have TO:Hid (n.toArray.all (·.oneCell')=true):=by
    refine all_oneCell_toArray fun v hv=>?_;rw[<-Q] at hv
    simp only[QbU,List.mem_cons,List.not_mem_nil,or_false] at hv
    rcases hv with rfl | rfl | rfl | rfl | rfl | rfl | rfl | rfl | rfl | rfl | rfl | rfl<;>rfl
   have B6:Hid (Blk ((d.alloc (.cells #[Iv 0,Nv,Nv,Iv 0,Iv 0,Iv 0,Nv,Nv,Iv 0,Nv,Nv,Nv] 86)).setCells d.heap.size 0 n.toArray.toList) d.heap.size n.toArray 86):=by
    have h0:Blk (d.alloc (.cells #[Iv 0,Nv,Nv,Iv 0,Iv 0,Iv 0,Nv,Nv,Iv 0,Nv,Nv,Nv] 86)) d.heap.size ([]++(#[Iv 0,Nv,Nv,Iv 0,Iv 0,Iv 0,Nv,Nv,Iv 0,Nv,Nv,Nv]:Array Value).toList).toArray 86:=Qe d _ _;exact Blk.sets n [] (#[Iv 0,Nv,Nv,Iv 0,Iv 0,Iv 0,Nv,Nv,Iv 0,Nv,Nv,Nv]:Array Value).toList _ (by rw[hl];rfl) h0
   have b6:Hid (Below d.heap.size d ((d.alloc (.cells #[Iv 0,Nv,Nv,Iv 0,Iv 0,Iv 0,Nv,Nv,Iv 0,Nv,Nv,Nv] 86)).setCells d.heap.size 0 n.toArray.toList)):=by
    have:=Qz.setCells (O:=fun k=>k=d.heap.size) (O':=fun k=>k=d.heap.size) (b:=d.heap.size) Z n.toArray.toList 0 _ (Qz.refl _ (d.alloc (.cells #[Iv 0,Nv,Nv,Iv 0,Iv 0,Iv 0,Nv,Nv,Iv 0,Nv,Nv,Nv] 86)))
    exact(Zc d _).trans (this.below (by simp) (fun k hk=>by omega))
   have am:Hid ((Value.int .i64 g.regs::Value.slice p1 g.params.length d1::Value.slice p2 g.code.length d2::(QbU g.fin e).toList)=n):=Q;clear hl Q z I aa ap N;go_upto_region 11 with (first | (refine wpList_load_mid Z 86 (.tmp 32) Z eg (eo+q*12) Z n _ ad.out underlying86 Z TS.out ?_) | (refine wpList_store_mid Z 86 (.tmp 8) (.tmp 33) Z d.heap.size 0 n.toArray Z Z TH.out ao.out TO.out ?_))
   have B7:Hid (Blk ((d.alloc (.cells #[Iv 0,Nv,Nv,Iv 0,Iv 0,Iv 0,Nv,Nv,Iv 0,Nv,Nv,Nv] 86)).setCells d.heap.size 0 n) d.heap.size n.toArray 86):=B6.out;have S7:Hid (VcS w ((d.alloc (.cells #[Iv 0,Nv,Nv,Iv 0,Iv 0,Iv 0,Nv,Nv,Iv 0,Nv,Nv,Nv] 86)).setCells d.heap.size 0 n) X R A4 (some ⟨C,D,none⟩) F c l m):=SQ.out.below b6.out;clear B6 b6 TH ao TO ad SQ;generalize (d.alloc (.cells #[Iv 0,Nv,Nv,Iv 0,Iv 0,Iv 0,Nv,Nv,Iv 0,Nv,Nv,Nv] 86)).setCells d.heap.size 0 n=w7 at B7 S7 |-;generalize d.heap.size=Bx at B7 |-;have y0:=Qb S7.out.a 0 _ Z;have aq:Hid (w7.rangeAt Bx 0 n):=Blk.range B7.out
   have CB:Hid (Calls prog 108 #[.agg #[.slice F m.length l],Iv (k:Int),Iv (q:Int),.agg n.toArray] w7 fun r w'=>r=.returned (QG (QA (10000*(k:Int)+100*(q:Int)) g.fin (JSt.start m f g) 0 g.code))/\Below w7.heap.size w7 w'):=by
    have:=Qhx (w:=w7) (p:=F) (c:=l) (p1:=p1) (d1:=d1) ae.out HG.out S7.out.om ah.out ak.out (Ya ac.out S7.out.bel) (ay.out.below S7.out.bel) a5.out
    rw[<-am.out]
    exact this
   obtain⟨t,A,ai⟩:∃ t A,QA (10000*(k:Int)+100*(q:Int)) g.fin (JSt.start m f g) 0 g.code=(t,A):=⟨_,_,Z⟩
   have ab:=Qa ai;rw[ai] at CB
   clear ai am B7;go_wp2_with (refine wpList_load_mid Z 86 (.tmp 8) Z Bx 0 Z n _ aq.out underlying86 Z TS.out ?_)
   refine CB.out.mono ?_;rintro e8 w8 ⟨rfl,b8⟩;have b9:=b8.trans ((Zc w8 (.cells #[Iv t,Iv A] 32)).mono b8.size);have S9:Hid (VcS w (w8.alloc (.cells #[Iv t,Iv A] 32)) X R A4 (some ⟨C,D,none⟩) F c l m):=S7.out.below b9;have F9:Hid (Blk (w8.alloc (.cells #[Iv t,Iv A] 32)) w8.heap.size #[Iv t,Iv A] 32):=Blk.new _ _ _;clear b8 b9 S7 CB aq TS y0;simp only[QG]
   go_upto_region 12 with fail
   generalize w8.alloc (.cells #[Iv t,Iv A] 32)=w9 at S9 F9 |-;generalize w8.heap.size=F8 at F9 |-;have f0:=Qb F9.out 0 _ Z;have f1:=Qb F9.out 1 _ Z;by_cases P:t=0
   ·subst P;go_wp2_with fail
    go_roundw
    case rel =>
     refine⟨q+1,by omega,by go_num,S9.out,fun j y hj hy=>?_⟩
     by_cases ag:j<q
     ·exact u.out j y ag hy
     ·have:j=q:=by omega
      subst this;rw[ak.out] at hy
      cases hy
      rw[ab.out]
    case measure=>simp[intOf];omega
   ·have bb:(t != 0)=true:=by simpa using P
    have E:Hid (Qr m=(t,A)):=by
     show _=_;rw[Qf7 ae.out ah.out G.out ak.out u.out (by rw[ab.out];exact P),ab.out]
    clear P;have H:Hid (Blk w9 R #[Iv 0,Iv 0] 32):=S9.out.r;have r0:=Qb H.out 0 _ Z;have r1:=Qb H.out 1 _ Z;have z0:=Qj H.out 0;have z1:=Qj H.out 1;have RB:Hid (Blk ((w9.setCell ⟨R,0,none⟩ (Iv t)).setCell ⟨R,1,none⟩ (Iv A)) R #[Iv t,Iv A] 32):=Zs H.out _ _;have BL:Hid (Below w.heap.size w ((w9.setCell ⟨R,0,none⟩ (Iv t)).setCell ⟨R,1,none⟩ (Iv A))):=(XI S9.out.bel (p:=⟨R,0,none⟩) U.out _).setCell (p:=⟨R,1,none⟩) U.out _;go_wp2_with fail
    generalize (w9.setCell ⟨R,0,none⟩ (Iv t)).setCell ⟨R,1,none⟩ (Iv A)=a0 at RB BL |-;have e0:=Qb RB.out 0 _ Z;have e1:=Qb RB.out 1 _ Z;exact Xy (v:=.agg #[Iv t,Iv A]) (by simp[results,results66,go_sem,e0,e1]) Z ⟨by rw[E.out],BL.out⟩
theorem Qlx {s a:JSt}{x:Qs}{ts:List (TT 6)}(c:s.makes x=(0,ts)) (b:x.form s.m.length=0) (e:s.L.length+ts.length<=80) (d:s.next x=a):s.code x=0/\s.next x=a:=by
 refine⟨?_,d⟩
 unfold JSt.code;rw[Xr (fun h=>h b),c]
 simp only[ne_eq,not_true_eq_false,if_false]
 rw[Xr (by omega)]
theorem QnE (w:World):intsC.In w All ([]:List Int) [Nv]:=⟨⟨_,_,Z,Ze⟩,Yg _ _ _ _ _⟩
def fS0:JSt:=⟨five6,fF,[],[]⟩
def fS1:JSt:=⟨five6,fF,[],[tInt]⟩
theorem fb1:fS0.code fI=0/\fS0.next fI=fS1:=by
 have a:fS0.makes fI=(0,[tInt]):=Qad (.inl Z);exact Qlx a (by decide) (by decide) (by unfold JSt.next;rw[a];rfl)
theorem fb2:fS1.fin fE=0:=by
 have a:fS1.arg (Qhz fF.regs.toNat) 0 tInt=0:=by
  unfold JSt.arg;show (if ZR (TT.ren _ _ tInt=some tInt) then (0:Int) else 9)=0;exact Xs (QC Z)
 unfold JSt.fin;rw[Xr (by decide),Xr (by decide),Xr (by decide)]
 have:fS1.args fE.args fS1.f.results (Qhz fS1.f.regs.toNat)=0:=by
  unfold JSt.args;rw[Xs (by decide)]
  show Qu _ [((0:Int),tInt)]=0;simp only[Qu]
  exact Xr (fun h=>h a)
 rw[this]
 decide
theorem five6_run:Qr five6=(0,0):=by
 have d:∀ a,QA a fE fS0 0 [fI]=(0,0):=fun a=>by rw[QA,Xr (fun h=>h fb1.1),fb1.2,QA,Xr (fun h=>h fb2)]
 unfold Qr;rw[Xr (by rw[five_fault];decide)]
 refine Q0 fun k y c=>?_;have b:k=0:=by have:=(Zi c).1;simp[five6] at this;exact this
 subst b
 cases c
 unfold Z0;rw[Q0]
 intro k y c;have b:k=0:=by have:=(Zi c).1;simp[fF] at this;exact this
 subst b
 cases c
 exact congrArg Prod.fst (d _)
def fE':ZE:=⟨3,0,⟨0,[],[]⟩,⟨0,[],[]⟩,[1]⟩
def fB':MBlock 6:=⟨0,[],[fI],fE'⟩
def fF':MFunc 6:=⟨0,[],[tInt],[fB']⟩
def five7:List (MFunc 6):=[fF']
theorem five7_run:Qr five7=(1,91):=by decide +kernel
theorem five7_not:¬ Qm five7:=Qd1 (b:=fB') Z (by decide) (fun t c=>by simp only[fF',List.mem_singleton] at c;subst c;decide) Z Z (by decide) ⟨Z,Z,Z,Z,by decide⟩ (fun x a=>by simp only[fB',List.mem_singleton] at a;subst a;exact⟨Z,Z⟩)
theorem Qgr {k:Int}(j:I64 k){e g d f c:Nat}(r:Blk w e (fBc e f c) 86) (s:Blk w g #[Iv 0,Nv,.slice (some ⟨d,0,none⟩) 1 1,.slice (some ⟨e,0,none⟩) 1 1] 89) (i:Blk w d #[Iv 1,Iv 0,Nv] 105) (m:Blk w f #[Iv 1,Iv 0,Iv 0,Iv 0,Iv 0,Iv 5,Nv,Nv] 78) (hi:Blk w c #[Iv k] 3) :
 (QkI 6).In w All [(⟨0,[],[tInt],[⟨0,[],[fI],⟨3,0,⟨0,[],[]⟩,⟨0,[],[]⟩,[k]⟩⟩]⟩:MFunc 6)] [.slice (some ⟨g,0,none⟩) 1 1]:=by
 have b:=QnO w;have h:(Qo 6).In w All ([]:List (TT 6)) [Nv]:=Yg _ _ _ _ _;have q:(Qo 6).In w All [tInt] [.slice (some ⟨d,0,none⟩) 1 1]:=QbF i Z (QlD w);have o:insC.list.In w All [fI] [.slice (some ⟨f,0,none⟩) 1 1]:=QbF m Z (Qit (x:=fI) (QnE w) (QnE w) (by decide));have n:intsL.In w All [k] [.slice (some ⟨c,0,none⟩) 1 1]:=QbF hi Z ⟨Z,j⟩;have a:I64 0:=by decide
 have l:I64 3:=by decide
 have p:EIn w All ⟨3,0,⟨0,[],[]⟩,⟨0,[],[]⟩,[k]⟩ ⟨none,0,none,0,none,0,none,0,some ⟨c,0,none⟩,1⟩:=⟨⟨b,b,a⟩,⟨b,b,a⟩,n,l,a⟩;exact QbF s Z ⟨[_],_,Z,⟨Z,a⟩,[_],_,Z,h,[_],_,Z,q,QbF (A:=QcW 6) (x:=⟨0,[],[fI],⟨3,0,⟨0,[],[]⟩,⟨0,[],[]⟩,[k]⟩⟩) r Z ⟨[_],_,Z,⟨Z,a⟩,[_],_,Z,h,[_],_,Z,o,QgE p⟩⟩
theorem five_runsW:∃ N,RM.steps five6 aOp 9 10 (RM.start [] 0)=some N/\N.fin=0/\N.back=[5]/\N.out=[]/\N.fuel=2:=⟨_,Z,Z,Z,Z,Z⟩
theorem ZY {m:List (MFunc 6)}(H:(Qr m).1=0):(modFault m).1=0:=by
 refine Xq.1 fun h=>?_;unfold Qr at H;rw[Xs h] at H
 exact h H
theorem Qdd {m:List (MFunc 6)}(b:(QkI 6).In w All m [.slice pm m.length cm]) (d:Qbe m) (a:¬ Qm m) (H:(Qr m).1=0):∀ wx,Below w.heap.size w wx->Calls prog 66 #[.agg #[.slice pm m.length cm]] wx fun e w'=>e=.returned (Qbv 0 (Qr m).2)/\Below wx.heap.size wx w':=fun wx c=>by
 have:=Qb9 (Ya b c) d (fun _=>a)
 rw[<-H]
 exact this
theorem Qjs {m:List (MFunc 6)}(l:(QkI 6).In w All m [.slice pm m.length cm]) (n:Qbe m) (f:¬ Qm m) (H:(Qr m).1=0) (h:intsL.In w All inp [.slice pi inp.length ci]) (hi:inp.length<=200) (j:most<=20000) (b:pages<=64) :
 Calls prog 30 #[.agg #[.slice pm m.length cm],.slice pi inp.length ci,Iv (most:Int),Iv (pages:Int)] w fun e w'=>QdX w m inp most pages e w' :=
 QjV (ZY H) j (fun k=>Qeb H inp b k) (Qc1 (ZY H) (by omega) b) (fun t a=>Qgi (Ya ((Qbx 6).2 l) a) n (Ya h a) (fun x d=>by
  obtain⟨i,d⟩:=List.mem_iff_getElem?.1 d
  obtain⟨g,o,s,-,-,-,-,e,q,r⟩:=Yf h d
  exact⟨q,r⟩) hi j b (fun p c=>Qdd l n f H p (a.trans (c.mono a.size))))
theorem Qip {e:Ending}(h:QdX w five6 [] 9 0 e w'):Below w.heap.size w w'/\∃ a c b d,e=.returned (.tuple #[.agg #[Iv 0,.slice a 1 c,.slice b 0 d,Iv 2],Qbv 0 0])/\QcB w' a [5]:=by
 obtain⟨q,p,m,n,k,l⟩:=five_runsW
 obtain⟨N,v,g,-,⟨s,r,rfl,f,j⟩,rfl,b⟩:=h
 rw[show (9+1:Nat)=10 from Z,p] at g
 cases g
 refine⟨b,?_⟩
 obtain⟨a,c,rfl,-⟩:=id f
 obtain⟨o,d,rfl,-⟩:=id j
 have i:=f.lg;rw[m,l]
 rw[n] at i |-
 rw[k]
 exact⟨a,c,o,d,Z,i.2⟩
theorem Bxs.app {d:World}{l l':List (Nat × Array Value × TypeId)}(h:Bxs w d l) (k:Bxs d w' l'):Bxs w w' (l'++l):=by
 have f:=h.below k.bel;refine⟨f.bel,fun b a=>?_,fun b a=>?_,?_⟩
 ·rcases List.mem_append.1 a with a | a
  ·exact Zt h.bel.size (k.ge b a)
  ·exact h.ge b a
 ·rcases List.mem_append.1 a with a | a
  ·exact k.box b a
  ·exact f.box b a
 ·rw[List.map_append,List.nodup_append]
  refine⟨k.nd,h.nd,fun x g y i e=>?_⟩
  obtain⟨b,a,rfl⟩:=List.mem_map.1 g
  obtain⟨c,j,rfl⟩:=List.mem_map.1 i
  have m:=k.ge b a;have n:=(h.box c j).lt;omega
theorem Qfn (w:World):Calls prog 29 #[] w fun e w'=>e=.returned (.bool true)/\Below w.heap.size w w':=by
 go_enter func29,ntmps29
 go_wp2_with fail
 refine(Qii w).mono ?_
 rintro e1 w1 ⟨I,C,T,Y,m,E,R,rfl,B⟩;have H:=Qgr (k:=0) (by decide) (B.at (a:=[_,_,_,_,_])) (B.at (a:=[_,_,_,_])) (B.at (a:=[_,_])) (B.at (a:=[_])) (B.at (a:=[]));have t:=Qc (Qjs (inp:=[]) (most:=9) (pages:=0) H (Zz five_not) five_not (congrArg Prod.fst five6_run) (QnO w1) (by decide) (by decide) (by decide));have G:=Qc B.bel;clear H B;go_wp2_with fail
 refine t.out.mono ?_;rintro e2 u K;obtain⟨S,a,c,b,d,rfl,N⟩:=Qip K
 have B0:=Qc (G.out.trans (S.mono G.out.size));have B2:=Qc (Bxs.start u);have HL:=Qc N;clear K S N t G;have o:=(B2.out.new #[Iv 0,.slice a 1 c,.slice b 0 d,Iv 2] 44).new #[Iv 0,Iv 0] 32;rw[World.size_alloc] at o
 have o:=Qc o;go_upto_region 2 with fail
 generalize (u.alloc (.cells #[Iv 0,.slice a 1 c,.slice b 0 d,Iv 2] 44)).alloc (.cells #[Iv 0,Iv 0] 32)=w3 at o |-;generalize u.heap.size+1=F at o |-;generalize u.heap.size=O at o |-;clear B2;go_wp2_with fail
 refine(Qii w3).mono ?_
 rintro e4 W ⟨I,C,T,Y0,m,E,R,rfl,B4⟩;have j:=(o.out.app B4).new #[.slice (some ⟨m,0,none⟩) 1 1] 24;have j:=Qc j;clear B4 o;go_upto_region 3 with fail
 generalize W.alloc (.cells #[.slice (some ⟨m,0,none⟩) 1 1] 24)=q at j |-;generalize W.heap.size=Y at j |-;simp only[List.cons_append,List.nil_append] at j
 have v:=Qc (j.out.new #[Iv 1] 3);have A:q.cell? ⟨Y,0,none⟩=some (.slice (some ⟨m,0,none⟩) 1 1):=j.out.cell (a:=[]) 0 _ Z;have g3:q.cell? ⟨m,3,none⟩=some (.slice (some ⟨E,0,none⟩) 1 1):=j.out.cell (a:=[_,_,_,_,_]) 3 _ Z;have c2:=v.out.cell (a:=[_,_,_,_,_,_,_]) 11 _ Z;have z2:=v.out.free (a:=[_,_,_,_,_,_,_]) 11;go_upto_region 4 with fail
 have h:=Qc (v.out.set (a:=[_,_,_,_,_,_,_]) 11 (.slice (some ⟨q.heap.size,0,none⟩) 1 1));clear j v A g3 c2 z2;generalize (q.alloc (.cells #[Iv 1] 3)).setCell ⟨E,11,none⟩ (.slice (some ⟨q.heap.size,0,none⟩) 1 1)=D at h |-;generalize q.heap.size=J at h |-;have A:D.cell? ⟨Y,0,none⟩=some (.slice (some ⟨m,0,none⟩) 1 1):=h.out.cell (a:=[_]) 0 _ Z;have M7:(QkI 6).In D All five7 [.slice (some ⟨m,0,none⟩) 1 1]:=Qgr (k:=1) (by decide) (h.out.at (a:=[_,_,_,_,_,_,_])) (h.out.at (a:=[_,_,_,_,_,_])) (h.out.at (a:=[_,_,_,_])) (h.out.at (a:=[_,_,_])) (h.out.at (a:=[]))
 have t:=Qc (QfH (pi:=none) (ci:=0) (n:=0) (fu:=9) (pg:=0) (c:=1) (a:=91) (c0:=1) (a0:=91) (pm:=some ⟨m,0,none⟩) (ml:=1) (cm:=1) (w:=D) (fun wx bx=>by
  have:=Qb9 (Ya M7 bx) (Zz five7_not) (fun _=>five7_not)
  rw[five7_run] at this
  exact this) (by decide) (.inl ⟨by decide,Z,Z⟩))
 clear M7;go_wp2_with fail
 refine t.out.mono ?_;rintro e7 z ⟨rfl,Q⟩;have g:=(h.out.below Q).new #[Iv 0,Nv,Nv,Iv 0] 44 |>.new #[Iv 1,Iv 91] 32
 rw[World.size_alloc] at g
 have g:=Qc g;clear Q t h A;go_upto_region 5 with fail
 generalize (z.alloc (.cells #[Iv 0,Nv,Nv,Iv 0] 44)).alloc (.cells #[Iv 1,Iv 91] 32)=f at g |-;generalize z.heap.size+1=X at g |-;generalize z.heap.size=O2 at g |-;have f0:f.cell? ⟨F,0,none⟩=some (Iv 0):=g.out.cell (a:=[_,_,_,_,_,_,_,_,_,_,_]) 0 _ Z;have o0:f.cell? ⟨O,0,none⟩=some (Iv 0):=g.out.cell (a:=[_,_,_,_,_,_,_,_,_,_,_,_]) 0 _ Z;have o1:f.cell? ⟨O,1,none⟩=some (.slice a 1 c):=g.out.cell (a:=[_,_,_,_,_,_,_,_,_,_,_,_]) 1 _ Z;have o2:f.cell? ⟨O,2,none⟩=some (.slice b 0 d):=g.out.cell (a:=[_,_,_,_,_,_,_,_,_,_,_,_]) 2 _ Z;have o3:f.cell? ⟨O,3,none⟩=some (Iv 2):=g.out.cell (a:=[_,_,_,_,_,_,_,_,_,_,_,_]) 3 _ Z;have y:=Qc (HL.out.below g.out.bel);have L:=Qc (g.out.new #[Iv 5] 2)
 have V:QcB (f.alloc (.cells #[Iv 5] 2)) (some ⟨f.heap.size,0,none⟩) [5]:=fun i x s=>by
  match i,s with
  | 0,s=>cases s;exact⟨f.heap.size,0,Z,Qb (Qe f #[.int .i64 5] 2) 0 _ Z⟩
  | i+1,s=>exact absurd (Zi s).1 (by simp)
 have U:Hid (Calls prog 26 #[.agg #[Iv 0,.slice a 1 c,.slice b 0 d,Iv 2],.agg #[Iv 0,.slice (some ⟨f.heap.size,0,none⟩) 1 1,Nv,Iv 2]] (f.alloc (.cells #[Iv 5] 2)) fun e w'=>e=.returned (.bool true)/\Below (f.alloc (.cells #[Iv 5] 2)).heap.size (f.alloc (.cells #[Iv 5] 2)) w'):=Qb8 (l:=[5]) (r:=[]) (by decide) (by decide) (y.out.below (ZO _ _)) V (QcB.nil _ _) (QcB.nil _ _);clear V;go_wp2_with fail
 refine U.out.mono ?_;rintro e9 P ⟨rfl,M⟩;have p:=Qc (L.out.below M);have p0:P.cell? ⟨X,0,none⟩=some (Iv 1):=p.out.cell (a:=[_]) 0 _ Z;have p1:P.cell? ⟨X,1,none⟩=some (Iv 91):=p.out.cell (a:=[_]) 1 _ Z;clear M U L f0 o0 o1 o2 o3;go_wp2
 go_ret;exact⟨Z,B0.out.trans (p.out.bel.mono B0.out.size)⟩
theorem QmW (h:intsL.In w O l [.slice a n c]):∀ x∈l,Qnd x:=fun x d=>by
 obtain⟨i,b⟩:=List.mem_iff_getElem?.1 d
 obtain⟨g,o,k,-,-,-,-,e,f,j⟩:=Yf h b
 exact⟨f,j⟩
section
variable {w:World}{O:Nat->Prop}{n:Nat}{cs:List Value}
theorem Qjl {x:MBlock n}(a:x.flat k) (h:(Qbd n).In w O x cs):(Qbd (k+1)).In w O (x.at k) cs:=by
 obtain⟨c,_,rfl,d,⟨b,_,rfl,e,f⟩⟩:=h
 exact⟨c,_,Z,d,⟨b,_,Z,Qeg a e,f⟩⟩
theorem QkP {x:MFunc n}(a:x.flat k) (h:(Qfj n).In w O x cs):(Qfj (k+1)).In w O (x.at k) cs:=by
 obtain⟨i,_,rfl,j,⟨d,_,rfl,f,⟨c,_,rfl,b,g⟩⟩⟩:=h
 exact⟨i,_,Z,j,⟨d,_,Z,Qeg a.1 f,⟨c,_,Z,Qeg a.2.1 b,Lay.list_map (A:=Qbd n) (B:=Qbd (k+1)) Z (fun y e l=>Qjl (a.2.2 y e)) g⟩⟩⟩
theorem Ql3 {m:List (MFunc n)}(a:∀ x∈m,x.flat k) (h:(Qin n).In w O m cs):(Qin (k+1)).In w O (m.map (MFunc.at k)) cs :=
 Lay.list_map (A:=Qfj n) (B:=Qfj (k+1)) Z (fun y b c=>QkP (a y b)) h
end
theorem size_any:∀ (n:Nat) (t:TT n) (a:Option Addr) (c:Nat) (w:World) (left:Int),TIn w All t a->0<=left->left<=2000 ->
 Calls prog 115 #[Tv t a c,Iv left] w fun e w'=>e=.returned (Iv (max (-1) (left - t.count)))/\Below w.heap.size w w':=by
 intro n
 induction n with
 | zero=>intro t;exact Empty.elim t
 | succ n ih =>
   intro t a c w left C X h1
   have O:Hid (∀ (t:TT n) (a:Option Addr) (c:Nat) (w:World) (left:Int),TIn w All t a->0<=left->left<=2000 ->
    Calls prog 115 #[Tv t a c,Iv left] w fun e w'=>e=.returned (Iv (max (-1) (left - t.count)))/\Below w.heap.size w w'):=ih
   clear ih;have G:Hid (LIn w All t.2.2 a):=C.list;have E:t.count=1+(t.2.2.map TT.count).sum:=rfl;rw[E]
   clear E;simp only[Tv,TT.len_eq]
   generalize t.2.2=l at G |-;generalize t.kind=k;generalize t.r=r;clear C t;go_enter func115,ntmps115
   go_wp2_with fail
   have A:Hid (Bx w (w.alloc (.cells #[Iv k,Iv r,.slice a l.length c] 105)) k r a l.length c):=Bx.start w k r a l.length c;generalize w.alloc (.cells #[Iv k,Iv r,.slice a l.length c] 105)=W at A |-;go_loopw [1,5] (fun lf i wr=>∃ q:Nat,q<=l.length/\i=Iv q/\lf=Iv (max (-1) (left - 1 - (((l.map TT.count).take q).sum:Nat)))/\Bx w wr k r a l.length c) (fun _ i _=>l.length - (intOf i).toNat)
   case atStart=>exact⟨0,Xb _,Z,by simp;omega,A.out⟩
   case round =>
    clear A;obtain⟨q,hq,rfl,rfl,u⟩:=hrel
    generalize h:(((l.map TT.count).take q).sum:Nat)=s;have e2:wr.cell? ⟨w.heap.size,2,none⟩=some (.slice a l.length c):=Qb u.box 2 _ Z;have j:Hid (Bx w wr k r a l.length c):=u;by_cases v:q<l.length
    ·by_cases b:0<=max (-1) (left - 1 - (s:Int))
     ·have p:l[q]?=some l[q]:=Zg v;generalize l[q]=x at p;obtain⟨g,o,J,T,rfl,_,d0,d1,d2,D⟩:=LIn.at (G.out.below u.bel) p
      have H:Hid (TIn wr All x J):=D;have B:=Qek TT.count l q x p;rw[h] at B
      have P:Hid (((l.map TT.count).take (q+1)).sum=s+x.count):=B;have S:Hid (max (-1) (left - 1 - (s:Int))<=2000):=by show _<=_;omega
      clear u D p B;generalize I:max (-1) (left - 1 - (s:Int))=m at b S;have M:Hid (max (-1) (left - 1 - (s:Int))=m):=I;clear I;have R:(0:Int)<=q:=by omega
      have f:(q:Int)<l.length:=by omega
      have V:(q:Int)<2000:=by
       have N:=length_le_sum ((l.map TT.count).take q) (fun y K=>by obtain⟨z,_,rfl⟩:=List.mem_map.1 (List.mem_of_mem_take K);exact z.count_pos);have h4:=M.out;rw[List.length_take,XN] at N
       omega
      clear h;go_wp2_with fail
      refine(O.out x J T _ m H.out b S.out).mono ?_
      rintro e L ⟨rfl,Q⟩;have U:Hid (Bx w L k r (some ⟨g,o,none⟩) l.length c):=j.out.below Q;clear j;go_wp2
      go_roundw
      case rel=>exact⟨q+1,by omega,by go_num,by rw[P.out];have:=M.out;have:=x.count_pos;congr 1;omega,U.out⟩
      case measure=>simp[intOf];omega
     ·have F:Hid (max (-1) (left - 1 - (s:Int))=max (-1) (left - ((1+(l.map TT.count).sum:Nat):Int))):=by
       have:=QfN (l.map TT.count) q
       show _=_;omega
      have d:max (-1) (left - 1 - (s:Int))<0:=by omega
      generalize max (-1) (left - 1 - (s:Int))=m at F d |-;clear b h;have f:(q:Int)<l.length:=by omega
      go_wp2
      go_ret;exact⟨by show Ending.returned (Iv m)=_;have:=F.out;congr 2,j.out.bel⟩
    ·have F:Hid (max (-1) (left - 1 - (s:Int))=max (-1) (left - ((1+(l.map TT.count).sum:Nat):Int))):=by
      rw[XO (by simp;omega)] at h
      show _=_;omega
     generalize max (-1) (left - 1 - (s:Int))=m at F |-;clear h;have f:¬ (q:Int)<l.length:=by omega
     go_wp2
     go_ret;exact⟨by show Ending.returned (Iv m)=_;have:=F.out;congr 2,j.out.bel⟩
theorem Qh4 (n:Nat) (t:TT n) (a:Option Addr) (c:Nat) (w:World) (d:TIn w All t a) :
 Calls prog 71 #[Tv t a c] w fun e w'=>e=.returned (.bool (decide (2000<t.count)))/\Below w.heap.size w w':=by
 have C:Hid (∀ b,Below w.heap.size w b->Calls prog 115 #[Tv t a c,Iv 2000] b fun e w'=>e=.returned (Iv (max (-1) (2000 - (t.count:Int))))/\Below b.heap.size b w') :=
  fun b h=>size_any n t a c b 2000 (d.below h) (by omega) (by omega)
 clear d;simp only[Tv] at C |-
 generalize t.kind=k at C |-;generalize t.r=r at C |-;generalize t.len=g at C |-;generalize t.count=q at C |-;go_enter func71,ntmps71
 go_wp2_with fail
 refine(C.out _ ((Below.refl _ w).alloc Ze _)).mono ?_
 rintro e i ⟨rfl,f⟩;have B:Hid (Below w.heap.size w i):=((Below.refl _ w).alloc Ze _).trans (f.mono (by simp));have F:Hid (max (-1) (2000 - (q:Int))<0↔2000<q):=by show _↔_;omega
 generalize max (-1) (2000 - (q:Int))=m at F |-;clear f C;go_wp2
 go_ret;exact⟨by show Ending.returned (.bool (decide (m<0)))=_;rw[decide_eq_decide.2 F.out],B.out⟩
structure GbS (w wx:World) (l:List (Nat × Array Value × TypeId)):Prop where
 bel:Below w.heap.size w wx
 box:∀ (i:Nat) b,l[i]?=some b->Blk wx b.1 b.2.1 b.2.2
theorem GbS.below {a:World}{l:List (Nat × Array Value × TypeId)}(h:GbS w a l) (k:Below a.heap.size a w'):GbS w w' l:=⟨h.bel.trans (k.mono h.bel.size),fun i b c=>(h.box i b c).below k⟩
theorem GbS.add {a:World}{l:List (Nat × Array Value × TypeId)}(h:GbS w a l){c:Array Value}(e:Blk a B c t):GbS w a ((B,c,t)::l) :=
 ⟨h.bel,fun i b d=>by
  cases i with
  | zero=>cases d;exact e
  | succ i=>exact h.box i b d⟩
theorem GbS.drop {a:World}{l:List (Nat × Array Value × TypeId)}{e:Nat × Array Value × TypeId}(h:GbS w a (e::l)):GbS w a l:=⟨h.bel,fun i b c=>h.box (i+1) b c⟩
theorem GbS.new {a:World}{l:List (Nat × Array Value × TypeId)}(h:GbS w a l) (c:Array Value) (t:TypeId):GbS w (a.alloc (.cells c t)) ((a.heap.size,c,t)::l):=(h.below (Zc _ _)).add (Blk.new _ _ _)
theorem Qak (n:Nat) (l:List (TT n)) (p:Option Addr) (c:Nat) (w:World) (r:LIn w All l p) :
 Rd prog 40 #[.slice p l.length c] w (.bool (ZR (Zx l))):=by
 have J:=Qf r;clear r;unfold Rd;go_enter func40,ntmps40
 by_cases G:200<l.length
 ·have d:(200:Int)<l.length:=by omega
  have E:=QC (A:=Zx l) (.inl G);go_wp2_with fail
  go_ret;exact⟨by first | rfl | (rw[E];done) | (rw[E];rfl),Zr⟩
 have d:¬ (200:Int)<l.length:=by omega
 go_wp2_with fail
 go_loopw [3] (fun i wr=>∃ k:Nat,k<=l.length/\i=Iv k/\Below w.heap.size w wr/\∀ (j:Nat) t,j<k->l[j]?=some t->¬ 2000<t.count) (fun i _=>l.length - (intOf i).toNat)
 case atStart=>exact⟨0,Xb _,Z,Zr,fun j z e=>absurd e (XG _)⟩
 case round =>
  obtain⟨k,N,rfl,B,a⟩:=hrel
  have q:=Qf B;have m:=Qf a;clear B a;by_cases y:k<l.length
  rotate_left
  ·have o:¬ (k:Int)<l.length:=by omega
   have E:ZR (Zx l)=false:=QB (by
    rintro (h | ⟨t,b,h⟩)
    ·exact G h
    ·obtain⟨j,e⟩:=List.mem_iff_getElem?.1 b
     exact m.out j t (by have:=(Zi e).1;omega) e h)
   go_wp2_with fail
   go_ret;exact⟨by first | rfl | (rw[E];done) | (rw[E];rfl),q.out⟩
  have o:(k:Int)<l.length:=by omega
  have b:l[k]?=some l[k]:=Zg y;generalize l[k]=t at b;have F:=Qf b;obtain⟨Q,O,K,M,rfl,-,H,I,L,f⟩:=(show LIn wr All l p from J.out.below q.out).at b
  have D:=Qf (Qh4 n t K M wr f);clear b f;go_wp2_with fail
  refine D.out.mono ?_;rintro _ P ⟨rfl,C⟩;have g:=Qf (q.out.trans (C.mono q.out.size));clear C D H I L q;by_cases s:2000<t.count
  ·rw[Xt s]
   have E:=QC (A:=Zx l) (.inr ⟨t,Zm F.out,s⟩);go_wp2_with fail
   go_ret;exact⟨by first | rfl | (rw[E];done) | (rw[E];rfl),g.out⟩
  ·rw[Xu s]
   go_wp2_with fail
   go_roundw
   case rel =>
    refine⟨k+1,by omega,by go_num,g.out,fun j u e x=>?_⟩
    by_cases v:j<k
    ·exact m.out j u v x
    ·have:j=k:=by omega
     subst this;rw[F.out] at x
     cases x
     exact s
   case measure=>simp[intOf];omega
def MFunc.much {n:Nat}(x:MFunc n):Prop:=30<x.blocks.length\/Zx x.params\/Zx x.results
def MBlock.much {n:Nat}(x:MBlock n):Prop:=200<x.code.length\/Zx x.params\/300<x.fin.args.length\/300<x.fin.yes.regs.length\/300<x.fin.yes.args.length\/300<x.fin.no.regs.length\/300<x.fin.no.args.length
theorem Z7 (n:Nat) (m:List (MFunc n)) (p:Option Addr) (c:Nat) (w:World) (ak:(QaM n).In w All m [.slice p m.length c]) :
 Rd prog 10 #[.agg #[.slice p m.length c]] w (.bool (ZR (Qm m))):=by
 have HM:=Qf ak;have S:Hid (GbS w (w.alloc (.cells #[.slice p m.length c] 24)) [(w.heap.size,#[.slice p m.length c],24)]):=GbS.new ⟨Zr,fun i b hb=>by simp at hb⟩ _ _;clear ak;unfold Rd;go_enter func10,ntmps10
 go_upto_region 1 with fail
 generalize w.alloc (.cells #[.slice p m.length c] 24)=w1 at S |-;generalize w.heap.size=X at S |-;have x0:=Qb (S.out.box 0 _ Yz) 0 _ Yz;by_cases c1:20<m.length
 ·have d:(20:Int)<m.length:=by omega
  have E:=QC (A:=Qm m) (.inl c1);have J:=Qf S.out.bel;clear S;go_wp2_with fail
  go_ret;exact⟨by first | rfl | (rw[E];done) | (rw[E];rfl),J.out⟩
 have d:¬ (20:Int)<m.length:=by omega
 go_wp2_with fail
 clear x0;go_loopw [3] (fun i wr=>∃ k:Nat,k<=m.length/\i=Iv k/\GbS w wr [(X,#[.slice p m.length c],24)]/\∀ (j:Nat) f,j<k->m[j]?=some f->¬ f.great) (fun i _=>m.length - (intOf i).toNat)
 case atStart=>exact⟨0,Xb _,Yz,S.out,fun j z C=>absurd C (XG _)⟩
 case round =>
  obtain⟨k,hk,rfl,Q,o⟩:=hrel
  have SR:=Qf Q;have ae:=Qf o;clear Q o S;obtain⟨wf,ar⟩:∃ wf,wf=wr:=⟨_,Yz⟩
  subst ar;have x0:=Qb (SR.out.box 0 _ Yz) 0 _ Yz;by_cases a3:k<m.length
  rotate_left
  ·have ap:¬ (k:Int)<m.length:=by omega
   have E:ZR (Qm m)=false:=QB (by
    rintro (h | ⟨t,ht,h⟩)
    ·exact c1 h
    ·obtain⟨j,C⟩:=List.mem_iff_getElem?.1 ht
     exact ae.out j t (by have:=(Zi C).1;omega) C h)
   have J:=Qf SR.out.bel;clear SR;go_wp2_with fail
   go_ret;exact⟨by first | rfl | (rw[E];done) | (rw[E];rfl),J.out⟩
  have ap:(k:Int)<m.length:=by omega
  have O:m[k]?=some m[k]:=Zg a3;generalize m[k]=x at O;have ai:=Qf O;have an:Hid (x.great->ZR (Qm m)=true):=fun h=>QC (.inr ⟨x,Zm ai.out,h⟩);obtain⟨g1,o1,l,rfl,E1,ag⟩:=Qfr HM.out O
  have T:=Qf ag;have R1:Hid (wf.rangeAt g1 (o1+k*4) [Iv x.regs,.slice l.pP x.params.length l.cP,.slice l.pR x.results.length l.cR,.slice l.pB x.blocks.length l.cB]):=fun j v C=>Qk (E1 j v C) SR.out.bel;have v0:wf.cell? ⟨g1,o1+k*4,none⟩=some (Iv x.regs):=R1.out 0 _ Yz;have v1:=R1.out 1 _ Yz;have v2:=R1.out 2 _ Yz;have v3:=R1.out 3 _ Yz;have G:=Qf (SR.out.new #[Iv x.regs,.slice l.pP x.params.length l.cP,.slice l.pR x.results.length l.cR,.slice l.pB x.blocks.length l.cB] 89);clear O E1 ag R1 SR;go_upto_region 7 with fail
  generalize wf.alloc (.cells #[Iv x.regs,.slice l.pP x.params.length l.cP,.slice l.pR x.results.length l.cR,.slice l.pB x.blocks.length l.cB] 89)=w6 at G |-;generalize wf.heap.size=Y at G |-;clear v0 v1 v2 v3 x0;generalize hL:([(Y,#[Iv x.regs,.slice l.pP x.params.length l.cP,.slice l.pR x.results.length l.cR,.slice l.pB x.blocks.length l.cB],89),(X,#[.slice (some ⟨g1,o1,none⟩) m.length c],24)]:List (Nat × Array Value × TypeId))=L at G;have BX:Hid (∀ wx,GbS w wx L->Blk wx Y #[Iv x.regs,.slice l.pP x.params.length l.cP,.slice l.pR x.results.length l.cR,.slice l.pB x.blocks.length l.cB] 89/\GbS w wx [(X,#[.slice (some ⟨g1,o1,none⟩) m.length c],24)]):=by subst hL;exact fun wx h=>⟨h.box 0 _ Yz,h.drop⟩
  clear hL;have q1:=Qb (BX.out _ G.out).1 1 _ Yz;have q2:=Qb (BX.out _ G.out).1 2 _ Yz;have q3:=Qb (BX.out _ G.out).1 3 _ Yz;go_cut [37] (fun v wx=>v=.bool (ZR x.much)/\GbS w wx L)
  case first =>
   by_cases h:30<x.blocks.length
   ·have d1:decide ((x.blocks.length:Int)>30)=true:=Xt (by omega);have E:=QC (A:=x.much) (.inl h);go_wp2
    go_meet;exact⟨by first | rfl | (rw[E];done) | (rw[E];rfl),G.out⟩
   have d1:decide ((x.blocks.length:Int)>30)=false:=Xu (by omega);have B:=Qf (Qak n x.params l.pP l.cP w6 (QU (Ya T.out.params G.out.bel)).1);unfold Rd at B;by_cases I:Zx x.params
   ·have E:=QC (A:=x.much) (.inr (.inl I));rw[QC I] at B
    go_wp2_with fail
    refine B.out.mono ?_;rintro _ wa ⟨rfl,F⟩;have s:=Qf (G.out.below F);clear F B;go_wp2
    go_meet;exact⟨by first | rfl | (rw[E];done) | (rw[E];rfl),s.out⟩
   rw[QB I] at B
   go_wp2_with fail
   refine B.out.mono ?_;rintro _ wa ⟨rfl,F⟩;have s:=Qf (G.out.below F);clear F B q1 q2 q3;have q2:=Qb (BX.out _ s.out).1 2 _ Yz;have CR:=Qf (Qak n x.results l.pR l.cR wa (QU (Ya T.out.results s.out.bel)).1);unfold Rd at CR
   have E:ZR x.much=ZR (Zx x.results):=by
    by_cases hr:Zx x.results
    ·rw[QC hr];exact QC (.inr (.inr hr))
    ·rw[QB hr];exact QB (fun e=>by rcases e with e | e | e;exact h e;exact I e;exact hr e)
   go_wp2_with fail
   refine CR.out.mono ?_;rintro _ M ⟨rfl,bb⟩;have SB:=Qf (s.out.below bb);clear bb CR q2;go_wp2
   all_goals
    go_meet;exact⟨by first | rfl | (rw[E];done) | (rw[E];rfl),SB.out⟩
  case rest =>
   obtain⟨rfl,P⟩:=hcut
   have S7:=Qf P;clear P G q1 q2 q3;by_cases R:x.much
   ·rw[QC R]
    have E:=an.out (by rcases R with h | h | h;exact .inl h;exact .inr (.inl h);exact .inr (.inr (.inl h)));have J:=Qf S7.out.bel;clear S7 R;go_wp2_with fail
    go_ret;exact⟨by first | rfl | (rw[E];done) | (rw[E];rfl),J.out⟩
   rw[QB R]
   have a5:x.blocks.length<=30:=Xo fun h=>R (.inl h);go_wp2_with fail
   go_loopw [5] (fun i wr=>∃ q:Nat,q<=x.blocks.length/\i=Iv q/\GbS w wr L/\∀ (j:Nat) y,j<q->x.blocks[j]?=some y->¬ y.great) (fun i _=>x.blocks.length - (intOf i).toNat)
   case atStart=>exact⟨0,Xb _,Yz,S7.out,fun j z C=>absurd C (XG _)⟩
   case round =>
    obtain⟨q,hq,rfl,Q,o⟩:=hrel
    have SQ:=Qf Q;have af:=Qf o;clear Q o S7;obtain⟨M,ay⟩:∃ M,M=wr:=⟨_,Yz⟩
    subst ay;have q3:=Qb (BX.out _ SQ.out).1 3 _ Yz;by_cases a0:q<x.blocks.length
    rotate_left
    ·have al:¬ (q:Int)<x.blocks.length:=by omega
     go_wp2_with fail
     go_roundw
     case rel =>
      refine⟨k+1,by omega,by go_num,(BX.out _ SQ.out).2,fun j f C hf=>?_⟩
      by_cases au:j<k
      ·exact ae.out j f au hf
      ·have:j=k:=by omega
       subst this;rw[ai.out] at hf
       cases hf
       rintro (h | h | h | ⟨y,hy,h⟩)
       ·exact R (.inl h)
       ·exact R (.inr (.inl h))
       ·exact R (.inr (.inr h))
       ·obtain⟨i,hi⟩:=List.mem_iff_getElem?.1 hy
        exact af.out i y (by have:=(Zi hi).1;omega) hi h
     case measure=>simp[intOf];omega
    have al:(q:Int)<x.blocks.length:=by omega
    have K:x.blocks[q]?=some x.blocks[q]:=Zg a0;generalize x.blocks[q]=y at K;have ah:=Qf K;have am:Hid (y.great->ZR (Qm m)=true):=fun h=>an.out (.inr (.inr (.inr ⟨y,Zm ah.out,h⟩)));obtain⟨g2,o2,g,e2,E2,ad⟩:=Qeu T.out.blocks K
    have aj:=Qf ad;rw[e2] at q3
    generalize aa:([Iv y.regs,.slice g.pP y.params.length g.cP,.slice g.pC y.code.length g.cC,Iv y.fin.op,Iv y.fin.a,Iv y.fin.yes.block,.slice g.e.pYR y.fin.yes.regs.length g.e.cYR,.slice g.e.pYA y.fin.yes.args.length g.e.cYA,Iv y.fin.no.block,.slice g.e.pNR y.fin.no.regs.length g.e.cNR,.slice g.e.pNA y.fin.no.args.length g.e.cNA,.slice g.e.pA y.fin.args.length g.e.cA]:List Value)=cs at E2;have hl:cs.length=12:=by rw[<-aa];rfl
    have MB:=Qf (Qm4.of M hl);have TO:Hid (cs.toArray.all (·.oneCell')=true):=by show _=_;rw[<-aa];exact all_oneCell_toArray (Xe.1 Yz)
    have RG:Hid (M.rangeAt g2 (o2+q*12) cs):=fun j v C=>Qk (E2 j v C) SQ.out.bel;clear K E2 ad hl e2;go_upto_region 13 with (first | (refine wpList_load_mid Yz 86 (.tmp 48) Yz g2 (o2+q*12) Yz cs _ RG.out underlying86 Yz MB.out.size ?_) | (refine wpList_store_mid Yz 86 (.tmp 6) (.tmp 49) Yz M.heap.size 0 cs.toArray Yz Yz MB.out.there MB.out.size2 TO.out ?_))
    have H:=Qf ((SQ.out.below MB.out.bel).add MB.out.blk);clear SQ q3 RG TO MB;generalize (M.alloc (.cells #[Iv 0,Nv,Nv,Iv 0,Iv 0,Iv 0,Nv,Nv,Iv 0,Nv,Nv,Nv] 86)).setCells M.heap.size 0 cs=w3 at H |-;generalize M.heap.size=Z at H |-;subst aa;simp only[Act.put]
    generalize ac:((Z,#[Iv y.regs,.slice g.pP y.params.length g.cP,.slice g.pC y.code.length g.cC,Iv y.fin.op,Iv y.fin.a,Iv y.fin.yes.block,.slice g.e.pYR y.fin.yes.regs.length g.e.cYR,.slice g.e.pYA y.fin.yes.args.length g.e.cYA,Iv y.fin.no.block,.slice g.e.pNR y.fin.no.regs.length g.e.cNR,.slice g.e.pNA y.fin.no.args.length g.e.cNA,.slice g.e.pA y.fin.args.length g.e.cA],86)::L:List (Nat × Array Value × TypeId))=L2 at H;have N:Hid (∀ wx,GbS w wx L2->Blk wx Z #[Iv y.regs,.slice g.pP y.params.length g.cP,.slice g.pC y.code.length g.cC,Iv y.fin.op,Iv y.fin.a,Iv y.fin.yes.block,.slice g.e.pYR y.fin.yes.regs.length g.e.cYR,.slice g.e.pYA y.fin.yes.args.length g.e.cYA,Iv y.fin.no.block,.slice g.e.pNR y.fin.no.regs.length g.e.cNR,.slice g.e.pNA y.fin.no.args.length g.e.cNA,.slice g.e.pA y.fin.args.length g.e.cA] 86/\GbS w wx L):=by subst ac;exact fun wx h=>⟨h.box 0 _ Yz,h.drop⟩
    clear ac;have z1:=Qb (N.out _ H.out).1 1 _ Yz;have z2:=Qb (N.out _ H.out).1 2 _ Yz;go_cut [97] (fun v wx=>v=.bool (ZR y.much)/\GbS w wx L2)
    case first =>
     by_cases h:200<y.code.length
     ·have d1:decide ((y.code.length:Int)>200)=true:=Xt (by omega);have E:=QC (A:=y.much) (.inl h);go_wp2
      go_meet;exact⟨by first | rfl | (rw[E];done) | (rw[E];rfl),H.out⟩
     have d1:decide ((y.code.length:Int)>200)=false:=Xu (by omega);have B:=Qf (Qak n y.params g.pP g.cP w3 (QU (Ya aj.out.params H.out.bel)).1);unfold Rd at B;by_cases I:Zx y.params
     ·have E:=QC (A:=y.much) (.inr (.inl I));rw[QC I] at B
      go_wp2_with fail
      refine B.out.mono ?_;rintro _ wa ⟨rfl,F⟩;have s:=Qf (H.out.below F);clear F B;go_wp2
      go_meet;exact⟨by first | rfl | (rw[E];done) | (rw[E];rfl),s.out⟩
     rw[QB I] at B
     go_wp2_with fail
     refine B.out.mono ?_;rintro _ wa ⟨rfl,F⟩;have s:=Qf (H.out.below F);clear F B z1 z2;have z6:=Qb (N.out _ s.out).1 6 _ Yz;have z7:=Qb (N.out _ s.out).1 7 _ Yz;have z9:=Qb (N.out _ s.out).1 9 _ Yz;have az:=Qb (N.out _ s.out).1 10 _ Yz;have av:=Qb (N.out _ s.out).1 11 _ Yz
     have r:Hid (ZR y.much=(decide ((y.fin.args.length:Int)>300)||(decide ((y.fin.yes.regs.length:Int)>300)||(decide ((y.fin.yes.args.length:Int)>300)||(decide ((y.fin.no.regs.length:Int)>300)||decide ((y.fin.no.args.length:Int)>300)))))):=by
      show _=_
      have e9:y.much↔((y.fin.args.length:Int)>300\/(y.fin.yes.regs.length:Int)>300\/(y.fin.yes.args.length:Int)>300\/(y.fin.no.regs.length:Int)>300\/(y.fin.no.args.length:Int)>300):=by
       unfold MBlock.much;constructor
       ·rintro (e | e | e)
        ·exact absurd e h
        ·exact absurd e I
        ·omega
       ·intro e;right;right;omega
      by_cases hy:y.much
      ·rw[QC hy];have:=e9.1 hy;simp only[<-Bool.decide_or];exact(Xt this).symm
      ·rw[QB hy];have:=fun e=>hy (e9.2 e);simp only[<-Bool.decide_or];exact(Xu this).symm
     generalize y.fin.args.length=n1 at r av |-;generalize y.fin.yes.regs.length=n2 at r z6 |-;generalize y.fin.yes.args.length=n3 at r z7 |-;generalize y.fin.no.regs.length=n4 at r z9 |-;generalize y.fin.no.args.length=n5 at r az |-;by_cases k1:(n1:Int)>300
     ·have V:decide ((n1:Int)>300)=true:=Xt k1;rw[V] at r
      go_wp2
      go_meet;exact⟨by rw[r.out];first | done | rfl,s.out⟩
     have e1:decide ((n1:Int)>300)=false:=Xu k1;rw[e1] at r
     by_cases k2:(n2:Int)>300
     ·have V:decide ((n2:Int)>300)=true:=Xt k2;rw[V] at r
      go_wp2
      go_meet;exact⟨by rw[r.out];first | done | rfl,s.out⟩
     have e2:decide ((n2:Int)>300)=false:=Xu k2;rw[e2] at r
     by_cases k3:(n3:Int)>300
     ·have V:decide ((n3:Int)>300)=true:=Xt k3;rw[V] at r
      go_wp2
      go_meet;exact⟨by rw[r.out];first | done | rfl,s.out⟩
     have e3:decide ((n3:Int)>300)=false:=Xu k3;rw[e3] at r
     by_cases k4:(n4:Int)>300
     ·have V:decide ((n4:Int)>300)=true:=Xt k4;rw[V] at r
      go_wp2
      go_meet;exact⟨by rw[r.out];first | done | rfl,s.out⟩
     have e4:decide ((n4:Int)>300)=false:=Xu k4;rw[e4] at r
     go_wp2
     all_goals
      go_meet;exact⟨by rw[r.out];first | done | rfl,s.out⟩
    case rest =>
     obtain⟨rfl,P⟩:=hcut
     have S4:=Qf P;clear P H z1 z2;by_cases D:y.much
     ·rw[QC D]
      have E:=am.out (by rcases D with h | h | h | h | h | h | h;exact .inl h;exact .inr (.inl h);exact .inr (.inr (.inl h));exact .inr (.inr (.inr (.inl h)));exact .inr (.inr (.inr (.inr (.inl h))));exact .inr (.inr (.inr (.inr (.inr (.inl h)))));exact .inr (.inr (.inr (.inr (.inr (.inr (.inl h)))))));have J:=Qf S4.out.bel;clear S4 D;go_wp2_with fail
      go_ret;exact⟨by first | rfl | (rw[E];done) | (rw[E];rfl),J.out⟩
     rw[QB D]
     have a4:y.code.length<=200:=Xo fun h=>D (.inl h);go_wp2_with fail
     go_loopw [7] (fun i wr=>∃ t:Nat,t<=y.code.length/\i=Iv t/\GbS w wr L2/\∀ (j:Nat) z,j<t->y.code[j]?=some z->¬ (300<z.regs.length\/300<z.args.length)) (fun i _=>y.code.length - (intOf i).toNat)
     case atStart=>exact⟨0,Xb _,Yz,S4.out,fun j z C=>absurd C (XG _)⟩
     case round =>
      obtain⟨t,ht,rfl,Q,o⟩:=hrel
      have W:=Qf Q;have ao:=Qf o;clear Q o S4;have z2:=Qb (N.out _ W.out).1 2 _ Yz;by_cases ax:t<y.code.length
      rotate_left
      ·have ab:¬ (t:Int)<y.code.length:=by omega
       go_wp2_with fail
       go_roundw
       case rel =>
        refine⟨q+1,by omega,by go_num,(N.out _ W.out).2,fun j u C U=>?_⟩
        by_cases aw:j<q
        ·exact af.out j u aw U
        ·have:j=q:=by omega
         subst this;rw[ah.out] at U
         cases U
         rintro (h | h | h | h | h | h | h | ⟨z,hz,h⟩)
         ·exact D (.inl h)
         ·exact D (.inr (.inl h))
         ·exact D (.inr (.inr (.inl h)))
         ·exact D (.inr (.inr (.inr (.inl h))))
         ·exact D (.inr (.inr (.inr (.inr (.inl h)))))
         ·exact D (.inr (.inr (.inr (.inr (.inr (.inl h))))))
         ·exact D (.inr (.inr (.inr (.inr (.inr (.inr h))))))
         ·obtain⟨i,hi⟩:=List.mem_iff_getElem?.1 hz
          exact ao.out i z (by have:=(Zi hi).1;omega) hi h
       case measure=>simp[intOf];omega
      have ab:(t:Int)<y.code.length:=by omega
      have hz:y.code[t]?=some y.code[t]:=Zg ax;generalize y.code[t]=z at hz;have HZ:=Qf hz;obtain⟨g3,o3,i3,e3,E3,-⟩:=QiB aj.out.code hz
      rw[e3] at z2
      have a2:=Qk (show w.cell? ⟨g3,o3+t*8+6,none⟩=_ from E3 6 _ Yz) W.out.bel;have aq:=Qk (show w.cell? ⟨g3,o3+t*8+7,none⟩=_ from E3 7 _ Yz) W.out.bel;clear hz E3 e3;go_upto_region 18 with fail
      go_cut [122] (fun v wx=>v=.bool (decide (300<z.regs.length\/300<z.args.length))/\GbS w wx L2)
      case first =>
       by_cases h:(z.regs.length:Int)>300
       ·have d1:decide ((z.regs.length:Int)>300)=true:=Xt h;have E:decide (300<z.regs.length\/300<z.args.length)=true:=Xt (by omega);go_wp2
        go_meet;exact⟨by first | rfl | (rw[E];done) | (rw[E];rfl),W.out⟩
       ·have d1:decide ((z.regs.length:Int)>300)=false:=Xu h;have E:decide (300<z.regs.length\/300<z.args.length)=decide ((z.args.length:Int)>300):=by rw[decide_eq_decide];omega
        go_wp2
        all_goals
         go_meet;exact⟨by first | rfl | (rw[E];done) | (rw[E];rfl),W.out⟩
      case rest =>
       obtain⟨rfl,P⟩:=hcut
       have SU:=Qf P;clear P W z2 a2 aq;by_cases c4:300<z.regs.length\/300<z.args.length
       ·rw[Xt c4]
        have E:=am.out (.inr (.inr (.inr (.inr (.inr (.inr (.inr ⟨z,Zm HZ.out,c4⟩)))))));have J:=Qf SU.out.bel;clear SU c4;go_wp2_with fail
        go_ret;exact⟨by first | rfl | (rw[E];done) | (rw[E];rfl),J.out⟩
       ·rw[Xu c4]
        go_wp2_with fail
        go_roundw
        case rel =>
         refine⟨t+1,by omega,by go_num,SU.out,fun j u C U=>?_⟩
         by_cases a1:j<t
         ·exact ao.out j u a1 U
         ·have:j=t:=by omega
          subst this;rw[HZ.out] at U
          cases U
          exact c4
        case measure=>simp[intOf];omega
theorem Qky {i:Nat}{m:List (MFunc i)}{fu:Int}(l:(QaM i).In w All m [.slice pm m.length cm]) (h:Qm m\/3000<fu) :
 Calls prog 11 #[.agg #[.slice pm m.length cm],Iv fu] w fun e w'=>e=.returned (.bool true)/\Below w.heap.size w w':=by
 have c:=Qc ((Bxs.start w).new #[.slice pm m.length cm] 24);have b:Hid (∀ d,Below w.heap.size w d->Calls prog 10 #[.agg #[.slice pm m.length cm]] d fun e w'=>e=.returned (.bool (ZR (Qm m)))/\Below d.heap.size d w'):=fun d p=>Z7 i m pm cm d (Ya l p);clear l;have H:=Qc h;clear h;go_enter func11,ntmps11
 go_upto_region 1 with fail
 generalize w.alloc (.cells #[.slice pm m.length cm] 24)=j at c |-;generalize w.heap.size=X at c |-;have q:j.cell? ⟨X,0,none⟩=some (.slice pm m.length cm):=c.out.cell (a:=[]) 0 _ Z;by_cases g:Qm m
 ·have b:=Qc (b.out j c.out.bel);rw[show ZR (Qm m)=true from QC g] at b
  clear g;go_wp2_with fail
  refine b.out.mono ?_;rintro n o ⟨rfl,f⟩;have k:=Qc (c.out.below f);clear f;go_wp2
  go_ret;exact⟨Z,k.out.bel⟩
 ·have b:=Qc (b.out j c.out.bel);rw[show ZR (Qm m)=false from QB g] at b
  have r:decide (fu>3000)=true:=Xt (by have:=H.out;rcases this with e | e;exact absurd e g;exact e);clear g;go_wp2_with fail
  refine b.out.mono ?_;rintro n o ⟨rfl,f⟩;have k:=Qc (c.out.below f);clear f;go_wp2
  go_ret;exact⟨Z,k.out.bel⟩
theorem QlY {d:Nat}{m:List (MFunc d)}{fu:Int}(f:(QaM d).In w All m [.slice pm m.length cm]) (h:¬ (Qm m\/3000<fu)) :
 Calls prog 11 #[.agg #[.slice pm m.length cm],Iv fu] w fun e w'=>e=.returned (.bool false)/\Below w.heap.size w w':=by
 have c:=Qc ((Bxs.start w).new #[.slice pm m.length cm] 24);have b:=Z7 d m pm cm _ (Ya f (ZO w (.cells #[.slice pm m.length cm] 24)));rw[show ZR (Qm m)=false from QB (fun e=>h (.inl e))] at b
 have b:Hid (Calls prog 10 #[.agg #[.slice pm m.length cm]] (w.alloc (.cells #[.slice pm m.length cm] 24)) fun e w'=>e=.returned (.bool false)/\Below (w.alloc (.cells #[.slice pm m.length cm] 24)).heap.size (w.alloc (.cells #[.slice pm m.length cm] 24)) w'):=b;have n:decide (fu>3000)=false:=Xu (fun e=>h (.inr e));clear f h;go_enter func11,ntmps11
 go_upto_region 1 with fail
 generalize w.alloc (.cells #[.slice pm m.length cm] 24)=i at c b |-;generalize w.heap.size=X at c |-;have l:i.cell? ⟨X,0,none⟩=some (.slice pm m.length cm):=c.out.cell (a:=[]) 0 _ Z;go_wp2_with fail
 refine b.out.mono ?_;rintro k o ⟨rfl,g⟩;have j:=Qc (c.out.below g);clear g;go_wp2
 go_ret;exact⟨Z,j.out.bel⟩
theorem QjH.below {lo:Nat}{N:RM}(h:QjH lo N v w) (b:Below w.heap.size w w'):QjH lo N v w':=by
 obtain⟨c,d,rfl,a,e⟩:=h
 exact⟨c,d,Z,a.below b,e.below b⟩
def QmV (w6:World) (b:Nat) (N:RM) (ab ao:Option Addr) (cb co:Nat) (t:Tmp) (v:Value) (w:World):Prop :=
 match ([(70,QjH w6.heap.size N)]:List (Tmp × (Value->World->Prop))).lookup t with
 | some p=>p v w
 | none=>v=(([(69,.pointer (some ⟨b,0,none⟩)),(71,.agg #[.int .i64 N.fin,.slice ab N.back.length cb,.slice ao N.out.length co,.int .i64 N.fuel]),(72,.bool true),(10,.bool true),(13,.pointer (some ⟨b,0,none⟩))]:List (Tmp × Value)).lookup t).getD undef
theorem QnT {Z E C:Nat}{N:RM}{l j:Option Addr}(z:Blk w6 Z #[Iv N.fin,.slice l N.back.length E,.slice j N.out.length C,Iv N.fuel] 44) (lb:QcB w6 l N.back) (lo:QcB w6 j N.out) (Q:N.back.length<=100000) (O:N.out.length<=100000)
 (CO:Hid (∀ wx,Below w6.heap.size w6 wx->Calls prog 37 #[Pv b 0] wx fun e w'=>∃ v,e=.returned v/\QjH wx.heap.size N v w'/\Below wx.heap.size wx w'))
 (a:Act) (m:Nat) (hn:a.tmps.size=m) (s:73<=m) (D:a.tmps.getD 11 undef=Pv Z 0) (q:a.tmps.getD 13 undef=Pv b 0) :
 Code.wp prog ((Tryz.f8.body.bind (Qi 16)).getD .skip) (fun e a' w'=>e=.normal/\∃ vs,a'=QN a vs [69,70,71,72,10]/\vs 10=.bool true/\Below w6.heap.size w6 w') a w6:=by
 have R:=Qb z 0 _ Yz;have z1:=Qb z 1 _ Yz;have z2:=Qb z 2 _ Yz;have z3:=Qb z 3 _ Yz;conv=>arg 2;whnf
 refine Qdp (fun t v w=>if t=11 then v=Pv Z 0 else QmV w6 b N l j E C t v w) (fun w=>Below w6.heap.size w6 w) (fun w w'=>Below w.heap.size w w') (outs:=[11,13]) (gs:=[]) (bs:=[true,true,true,true,true]) (by kernel_rfl) (n:=73) hn s (by kernel_rfl) ?hR ?hG (QI Zr 1) ⟨D,q,Y⟩ ?hA ?hend
 case hR =>
  intro t v w w' hr h;by_cases G:t=11
  ·rw[Xs G] at h |-;exact h
  rw[Xr G] at h |-
  unfold QmV at h |-;split at h
  ·rename_i p k
   simp only[List.lookup_cons,List.lookup_nil] at k
   split at k
   ·cases k;exact QjH.below h hr
   ·cases k
  ·exact h
 case hG=>exact Y
 case hend=>exact fun vs w' c f=>⟨Yz,vs,Yz,f 10 (by kernel_rfl),c⟩
 case hA =>
  refine⟨fun a w c f K g=>?_,?_⟩
  ·obtain⟨d,-⟩:=f
   have d:a.tmps.getD 13 undef=Pv b 0:=d;go_simp;exact g _ _ Zr c Yz
  refine⟨fun a w c f K g=>?_,?_⟩
  ·obtain⟨d,-⟩:=f
   have d:a.tmps.getD 69 undef=Pv b 0:=d;go_simp;refine Xm (CO.out w c) ?_;rintro X T ⟨v,rfl,P,i⟩;go_simp;obtain⟨J,M,rfl,⟨I,A,e1,u,B,l3⟩,⟨H,o,V,U,W,q3⟩⟩:=P
   exact g _ _ i (c.trans (i.mono c.size)) ⟨J,M,Yz,⟨I,A,e1,u,B,fun x r=>Zt c.size (l3 x r)⟩,⟨H,o,V,U,W,fun x r=>Zt c.size (q3 x r)⟩⟩
  refine⟨fun a w c f K g=>?_,?_⟩
  ·obtain⟨d,-⟩:=f
   have d:a.tmps.getD 11 undef=Pv Z 0:=d;have c0:=Qk R c;have A:=Qk z1 c;have o:=Qk z2 c;have c3:=Qk z3 c;go_simp;exact g _ _ Zr c Yz
  refine⟨fun a w c f K g=>?_,?_⟩
  ·obtain⟨d,L,-⟩:=f
   have d:QjH w6.heap.size N (a.tmps.getD 70 undef) w:=d;have L:a.tmps.getD 71 undef=.agg #[Iv N.fin,.slice l N.back.length E,.slice j N.out.length C,Iv N.fuel]:=L;obtain⟨J,M,S,y,F⟩:=d
   obtain⟨I,A,rfl,-⟩:=id y
   obtain⟨H,o,rfl,-⟩:=id F
   have u:=y.lg.2;have B:=F.lg.2;clear y F;go_simp;refine Xm (Qb8 Q O u (lb.below c) B (lo.below c)) ?_;rintro X T ⟨rfl,i⟩;go_simp;exact g _ _ i (c.trans (i.mono c.size)) Yz
  refine⟨fun a w c f K g=>?_,?_⟩
  ·obtain⟨d,-⟩:=f
   have d:a.tmps.getD 72 undef=.bool true:=d;go_simp;exact g _ _ Zr c Yz
  trivial
def QgA (w:World) (inp:List Int) (most pages:Nat) (e:Ending) (w':World):Prop :=
 (∃ c a:Int,c≠0/\e=.returned (.tuple #[.pointer none,Qbv c a])/\Below w.heap.size w w')\/∃ o:List (MFunc 6),(modFault o).1=0/\QfA o most (RM.start inp pages)/\ROk o 0 (RM.start inp pages)/\Qju w o inp most pages e w'
structure Qnx (w:World) (VM VO VI:Value) (m:List (MFunc 6)) (inp:List Int) (most pages:Nat):Prop where
 fine:(modFault m).1=0
 le:most<=20000
 goes:QfA m most (RM.start inp pages)
 ok:ROk m 0 (RM.start inp pages)
 run:∀ wx,Below w.heap.size w wx->Calls prog 30 #[VM,VI,Iv (most:Int),Iv (pages:Int)] wx fun e w'=>QdX wx m inp most pages e w'
 new:∀ wx,Below w.heap.size w wx->Calls prog 32 #[VM,VI,Iv (most:Int),Iv (pages:Int)] wx fun e w'=>Qju wx m inp most pages e w'
 other:∀ wx,Below w.heap.size w wx->Calls prog 32 #[VO,VI,Iv (most:Int),Iv (pages:Int)] wx fun e w'=>QgA wx inp most pages e w'
structure Qmq (w7:World) (bx F most:Nat) (m:List (MFunc 6)) (X0:RM) (yv:Value) (c:Int) (P:World->RM->Prop):Prop where
 at_:∀ wr X,P wr X->∃ g j,Qfc w7 wr bx most m X0 X g j/\j<=most+1
 fb:∀ wr X,P wr X->wr.cell? ⟨F,0,none⟩=some (Iv c)
 gx:∀ wr X,P wr X->X.done=false->Calls prog 34 #[Pv bx 0] wr fun e w'=>e=.returned (.tuple #[])/\∃ X',P w' X'/\(X'.done=false->X'.fuel=X.fuel+1)
 gy:c=0->∀ wr X,P wr X->Calls prog 34 #[yv] wr fun e w'=>e=.returned (.tuple #[])/\P w' X
theorem QgO {z w9 d:World}{B:Nat}{m:List (MFunc 6)}{l:WG}{e:Ending}(R:(modFault m).1=0) (s:most<=20000) (N:QfA m most (RM.start inp pages)) (L:ROk m 0 (RM.start inp pages))
 (Z:Qfc z w9 B most m (RM.start inp pages) (RM.start inp pages) l 0) (hE:QgA w9 inp most pages e d) :
 ∃ (yv:Value) (c a:Int) (P:World->RM->Prop),e=.returned (.tuple #[yv,Qbv c a])/\Below w9.heap.size w9 d/\P (d.alloc (.cells #[Iv c,Iv a] 32)) (RM.start inp pages)/\Qmq z B d.heap.size most m (RM.start inp pages) yv c P:=by
 have K:=XC Z.at_.box;rcases hE with ⟨c,a,W,rfl,b⟩|⟨o,S,F,Io,⟨v,r,rfl,O,J,I,⟨-,y⟩,b⟩⟩
 ·have C:=ZO d (.cells #[Iv c,Iv a] 32);have U:=b.size;refine⟨.pointer none,c,a,fun wr X=>∃ g j,Qfc z wr B most m (RM.start inp pages) X g j/\j<=most+1/\¬ g.A d.heap.size/\wr.heap[d.heap.size]?=some (.cells #[Iv c,Iv a] 32 (0,0)),Yz,b,⟨l,0,Z.below (b.trans (C.mono b.size)),Xb _,fun h=>by have:=Z.at_.lt _ h;omega,Qe _ _ _⟩,⟨?_,?_,?_,fun h=>absurd h W⟩⟩
  ·rintro wr X ⟨g,j,f,n,-⟩;exact⟨g,j,f,n⟩
  ·rintro wr X ⟨g,j,f,n,G,D⟩;exact Qb D 0 _ Yz
  ·rintro wr X ⟨g,j,f,n,G,D⟩ t;refine(f.go R s N L t).mono ?_
   rintro e Q ⟨rfl,H,u,w,M,-,E⟩;have hF:=XC D;exact⟨Yz,H,⟨u,j+1,w,by have:=f.fu t;have:=f.le;omega,fun h=>(M.own _ h).elim G (fun q=>by omega),(M.block _ hF G).trans D⟩,E⟩
 ·have C:=ZO d (.cells #[Iv 0,Iv 0] 32);have U:=b.size;refine⟨Pv v 0,0,0,fun wr X=>∃ Y l r j k,Qdt z wr B v most m o (RM.start inp pages) (RM.start inp pages) X Y l r j k w9.heap.size d.heap.size #[Iv 0,Iv 0] 32/\j<=most+1,Yz,b,⟨_,l,r,0,0,Qdt.start Z K ?_ (O.below C) J I y (b.trans (C.mono b.size)) (Qe _ _ _) (fun h=>by have:=Z.at_.lt _ h;omega) (fun h=>by have:=O.lt _ h;omega),Xb _⟩,⟨?_,?_,?_,?_⟩⟩
  ·obtain⟨p,q,e,-⟩:=Z.at_.back
   exact⟨p,q,e,fun i T=>absurd T (XG i)⟩
  ·rintro wr X ⟨Y,l,r,j,k,f,n⟩;exact⟨l,j,f.x,n⟩
  ·rintro wr X ⟨Y,l,r,j,k,f,n⟩;exact Qb f.fb 0 _ Yz
  ·rintro wr X ⟨Y,l,r,j,k,f,n⟩ t;refine(f.goX R s N L t).mono ?_
   rintro e Q ⟨rfl,H,u,w,E⟩;exact⟨Yz,H,⟨Y,u,r,j+1,k,w,by have:=f.x.fu t;have:=f.x.le;omega⟩,E⟩
  ·rintro - wr X ⟨Y,l,r,j,k,f,n⟩;refine(f.goY S s F Io).mono ?_
   rintro e Q ⟨rfl,Y',u,V,w⟩;exact⟨Yz,Y',l,u,j,V,w,n⟩
theorem QjR {dd de:Nat}{m:List (MFunc dd)}{o:List (MFunc de)}{y:Option Addr}{x:Nat}{fu pg:Int}
 (hM:(QaM dd).In w All m [.slice pm m.length cm]) (hO:(QaM de).In w All o [.slice y o.length x])
 (K:¬ Qm m->¬ Qm o->fu<=3000->(∃ c a:Int,c≠0/\∀ wx,Below w.heap.size w wx->Calls prog 30 #[.agg #[.slice pm m.length cm],.slice pi n ci,Iv fu,Iv pg] wx fun e w'=>e=.returned (Qik c a)/\Below wx.heap.size wx w') \/
  ∃ (m6:List (MFunc 6)) (inp:List Int) (most pages:Nat),fu=(most:Int)/\pg=(pages:Int)/\Qnx w (.agg #[.slice pm m.length cm]) (.agg #[.slice y o.length x]) (.slice pi n ci) m6 inp most pages) :
 Calls prog 8 #[.agg #[.slice pm m.length cm],.agg #[.slice y o.length x],.slice pi n ci,Iv fu,Iv pg] w fun e w'=>e=.returned (.bool true)/\Below w.heap.size w w':=by
 have B:=((Bxs.start w).new #[.slice pm m.length cm] 24).new #[.slice y o.length x] 24;rw[World.size_alloc] at B
 have B:=Qc B;have HM:=Qc hM;have HO:=Qc hO;have u:=Qc K;clear hM hO K;go_enter func8,ntmps8
 go_upto_region 1 with fail
 generalize (w.alloc (.cells #[.slice pm m.length cm] 24)).alloc (.cells #[.slice y o.length x] 24)=w2 at B |-;generalize w.heap.size+1=X2 at B |-;generalize w.heap.size=X at B |-;go_wp2_with fail
 refine(Qfn w2).mono ?_
 rintro e3 w3 ⟨rfl,b3⟩;have L:=Qc (B.out.below b3);clear b3 B;have M:w3.cell? ⟨X,0,none⟩=some (.slice pm m.length cm):=L.out.cell (a:=[_]) 0 _ Yz;by_cases U:Qm m\/3000<fu
 ·have CL:=Qc (Qky (Ya HM.out L.out.bel) U);clear U;go_wp2_with fail
  refine CL.out.mono ?_;rintro e4 w4 ⟨rfl,b4⟩;have G:=Qc (L.out.below b4);clear b4;go_wp2
  go_ret;exact⟨Yz,G.out.bel⟩
 have CL:=Qc (QlY (Ya HM.out L.out.bel) U);have HG:=Qc U;clear U;go_wp2_with fail
 refine CL.out.mono ?_;rintro e4 w4 ⟨rfl,b4⟩;have G:=Qc (L.out.below b4);clear b4 L CL M;have x1:w4.cell? ⟨X2,0,none⟩=some (.slice y o.length x):=G.out.cell (a:=[]) 0 _ Yz;have s:=Z7 de o y x w4 (Ya HO.out G.out.bel);by_cases O:Qm o
 ·rw[show ZR (Qm o)=true from QC O] at s
  have s:=Qc s;clear O;go_wp2_with fail
  refine s.out.mono ?_;rintro e5 w5 ⟨rfl,W⟩;have p:=Qc (G.out.below W);clear W;go_wp2
  go_ret;exact⟨Yz,p.out.bel⟩
 rw[show ZR (Qm o)=false from QB O] at s
 have s:=Qc s;have ah:=Qc O;clear O;go_wp2_with fail
 refine s.out.mono ?_;rintro e5 w5 ⟨rfl,W⟩;have p:=Qc (G.out.below W);clear W G s x1;have M:w5.cell? ⟨X,0,none⟩=some (.slice pm m.length cm):=p.out.cell (a:=[_]) 0 _ Yz;have h3:fu<=3000:=by have:=HG.out;omega
 have K6:=u.out (fun e=>HG.out (.inl e)) ah.out h3;clear h3;rcases K6 with ⟨c,a,h,E⟩|⟨m6,inp,most,pages,rfl,rfl,Y6⟩
 ·have E:=Qc (E w5 p.out.bel);have d0:(c != 0)=true:=bne_iff_ne.2 h;clear h;go_wp2_with fail
  refine E.out.mono ?_;rintro e6 z ⟨rfl,b6⟩;have b:=((p.out.below b6).new #[Iv 0,Nv,Nv,Iv 0] 44).new #[Iv c,Iv a] 32;rw[World.size_alloc] at b
  have b:=Qc b;clear b6 E M p;simp only[Qik,Qbv]
  go_upto_region 6 with fail
  generalize (z.alloc (.cells #[Iv 0,Nv,Nv,Iv 0] 44)).alloc (.cells #[Iv c,Iv a] 32)=f at b |-;generalize z.heap.size+1=F at b |-;generalize z.heap.size=Z at b |-;have f0:f.cell? ⟨F,0,none⟩=some (Iv c):=b.out.cell (a:=[]) 0 _ Yz;have o0:f.cell? ⟨Z,0,none⟩=some (Iv 0):=b.out.cell (a:=[_]) 0 _ Yz;have o1:f.cell? ⟨Z,1,none⟩=some (Nv):=b.out.cell (a:=[_]) 1 _ Yz;have o2:f.cell? ⟨Z,2,none⟩=some (Nv):=b.out.cell (a:=[_]) 2 _ Yz;have o3:f.cell? ⟨Z,3,none⟩=some (Iv 0):=b.out.cell (a:=[_]) 3 _ Yz;have CS:Hid (∀ n,Calls prog 26 #[.agg #[Iv 0,Nv,Nv,Iv 0],.agg #[Iv 0,Nv,Nv,Iv 0]] (f.drewN n) fun e w'=>e=.returned (.bool true)/\Below (f.drewN n).heap.size (f.drewN n) w'):=fun n=>Qb8 (l:=[]) (r:=[]) (by decide) (by decide) (QcB.nil _ _) (QcB.nil _ _) (QcB.nil _ _) (QcB.nil _ _);go_wp2_with fail
  refine(CS.out 0).mono ?_
  rintro e8 R ⟨rfl,D⟩;have B8:=Qc (b.out.below D);clear D;go_wp2
  go_ret;exact⟨Yz,B8.out.bel⟩
 have i:=Qc Y6;clear Y6 u;have E:=Qc (i.out.run w5 p.out.bel);go_wp2_with fail
 refine E.out.mono ?_;rintro e6 z ⟨N,v,hN,dN,⟨vb,vo,rfl,hb,ho⟩,rfl,b6⟩;obtain⟨ab,cb,rfl,-⟩:=id hb
 obtain⟨ao,cq,rfl,-⟩:=id ho
 have b:=((p.out.below b6).new #[Iv N.fin,.slice ab N.back.length cb,.slice ao N.out.length cq,Iv N.fuel] 44).new #[Iv 0,Iv 0] 32;rw[World.size_alloc] at b
 have b:=Qc b;have t:=Qc hb.lg.2;have k:=Qc ho.lg.2;have HN:=Qc hN;clear b6 E M p hb ho hN dN;simp only[Qbv]
 go_upto_region 6 with fail
 have b7:=Qko z (.cells #[Iv N.fin,.slice ab N.back.length cb,.slice ao N.out.length cq,Iv N.fuel] 44) (.cells #[Iv 0,Iv 0] 32);have t:=Qc (t.out.below b7);have k:=Qc (k.out.below b7);clear b7;generalize (z.alloc (.cells #[Iv N.fin,.slice ab N.back.length cb,.slice ao N.out.length cq,Iv N.fuel] 44)).alloc (.cells #[Iv 0,Iv 0] 32)=f at b t k |-;generalize z.heap.size+1=F at b |-;generalize z.heap.size=Z at b |-;have f0:f.cell? ⟨F,0,none⟩=some (Iv 0):=b.out.cell (a:=[]) 0 _ Yz;have M:f.cell? ⟨X,0,none⟩=some (.slice pm m.length cm):=b.out.cell (a:=[_,_,_]) 0 _ Yz;have CN:=Qc (i.out.new f b.out.bel);go_upto_region 8 with fail
 go_wp2_with fail
 refine CN.out.mono ?_;rintro e8 R ⟨V,gx,rfl,S8,af,ai,⟨ae,aa⟩,D⟩;have b9:=ZO R (.cells #[Iv 0,Iv 0] 32);have ZX:Hid (Qfc f (R.alloc (.cells #[Iv 0,Iv 0] 32)) V most m6 (RM.start inp pages) (RM.start inp pages) gx 0):=⟨S8.below b9,af,D.trans (b9.mono D.size),Yz,fun _=>rfl,Xb _,fun _=>rfl⟩;have I:=Qc ((b.out.below D).new #[Iv 0,Iv 0] 32);clear S8 af ai ae aa D b9 CN f0 M;simp only[Qbv]
 go_upto_region 9 with fail
 generalize R.alloc (.cells #[Iv 0,Iv 0] 32)=w9 at ZX I |-;generalize R.heap.size=F3 at I |-;have x1:w9.cell? ⟨X2,0,none⟩=some (.slice y o.length x):=I.out.cell (a:=[_,_,_]) 0 _ Yz;have CY:=Qc (i.out.other w9 I.out.bel);go_wp2_with fail
 refine CY.out.mono ?_;intro aj ac hE;obtain⟨yv,c,a,P,rfl,S,hP,q⟩:=QgO i.out.fine i.out.le i.out.goes i.out.ok ZX.out hE
 have C:=Qc ((I.out.below S).new #[Iv c,Iv a] 32);have q:=Qc q;have HP:=Qc hP;clear hE hP S CY x1 ZX I;simp only[Qbv]
 go_upto_region 10 with fail
 generalize ac.alloc (.cells #[Iv c,Iv a] 32)=ag at C HP |-;generalize ac.heap.size=F4 at C q |-;have g0:ag.cell? ⟨F3,0,none⟩=some (Iv 0):=C.out.cell (a:=[_]) 0 _ Yz;go_upto_region 12 with fail
 clear g0;go_loopw [] (fun wr=>∃ X,P wr X) (fun wr=>Qkm V most wr)
 case atStart=>exact⟨_,HP.out⟩
 case round =>
  obtain⟨Q,hX⟩:=hrel
  obtain⟨g,j,A,hj⟩:=q.out.at_ _ _ hX
  have CD:=Qc (QeN A.at_)
  cases hd:Q.done with
  | false =>
    have CX:=Qc (q.out.gx _ _ hX hd);have HL:=Qc A.at_.left;rw[hd] at CD HL
    clear hX A hd hj;go_upto_region 13 with (go_at_call 33;refine CD.out.mono ?_;rintro e' w' ⟨rfl,H⟩;have H:=H.symm;subst H)
    go_wp2_with fail
    refine CX.out.mono ?_;rintro e' al ⟨rfl,X',d,hf⟩;have f4:=q.out.fb _ _ d;by_cases h:c=0
    ·have CY:=Qc (q.out.gy h _ _ d);have d1:decide (c=0)=true:=Xt h;have d2:(c==0)=true:=beq_iff_eq.2 h;clear d h;go_wp2_with fail
     refine CY.out.mono ?_;rintro e' ak ⟨rfl,d⟩;go_wp2_with fail
     go_roundw
     case rel=>exact⟨_,d⟩
     case measure =>
      obtain⟨g',j',Z',-⟩:=q.out.at_ _ _ d
      rw[HL.out,Z'.at_.left]
      have h6:=Z'.le
      cases hd6:X'.done with
      | true=>simp
      | false=>have:=hf hd6;simp;omega
    ·have d1:decide (c=0)=false:=Xu h;have d2:(c==0)=false:=beq_eq_false_iff_ne.2 h;clear h;go_wp2_with fail
     go_roundw
     case rel=>exact⟨_,d⟩
     case measure =>
      obtain⟨g',j',Z',-⟩:=q.out.at_ _ _ d
      rw[HL.out,Z'.at_.left]
      have h6:=Z'.le
      cases hd6:X'.done with
      | true=>simp
      | false=>have:=hf hd6;simp;omega
  | true =>
    have he:Q=N:=Xn ((A.end_ hj hd).symm.trans HN.out);have J:=QcI i.out.fine i.out.ok j A.st;have u:Hid (Q.out.length<=100000/\Q.back.length<=100000):=⟨by have:=J.out.1;omega,by have:=J.out.2;omega⟩;have CO:Hid (∀ wx,Below wr.heap.size wr wx->Calls prog 37 #[Pv V 0] wx fun e w'=>∃ v,e=.returned v/\QjH wx.heap.size Q v w'/\Below wx.heap.size wx w'):=fun wx V=>Qco (A.at_.below V) (by have:=u.out.1;omega) (by have:=u.out.2;omega);have T:=Qc A.bel;have HE:=Qc he;rw[hd] at CD
    clear A hX hd hj he J;go_upto_region 16 with (go_at_call 33;refine CD.out.mono ?_;rintro e' w' ⟨rfl,H⟩;have H:=H.symm;subst H)
    rw[HE.out] at CO u
    refine Code.wp_mono ?_ (QnT (Blk.below (b.out.at (a:=[_])) T.out) (t.out.below T.out) (k.out.below T.out) u.out.2 u.out.1 CO _ _ Yz (Xg (by kernel_rfl)) Yz Yz);rintro _ _ am ⟨rfl,vs,rfl,hv,ad⟩;have BZ:=Qc (b.out.bel.trans ((T.out.trans (ad.mono T.out.size)).mono b.out.bel.size));simp only[QN,Act.put,List.setIfInBounds_toArray,List.set_cons_zero,List.set_cons_succ,hv]
    clear hv ad;go_wp2
    go_ret;exact⟨Yz,BZ.out⟩
def QmK (w:World) (pm:Option Addr) (ml cm:Nat):Prop :=
 (∃ c0 a0:Int,c0≠0/\∀ wx,Below w.heap.size w wx->Calls prog 66 #[.agg #[.slice pm ml cm]] wx fun e w'=>e=.returned (Qbv c0 a0)/\Below wx.heap.size wx w') \/
 ∃ m:List (MFunc 6),m.length=ml/\(QkI 6).In w All m [.slice pm ml cm]/\¬ Qm m/\(Qr m).1=0
theorem Qiu {w:World}{m:List (MFunc n)}{pm:Option Addr}{cm:Nat}(c:(Qin n).In w All m [.slice pm m.length cm]) :
 ∃ (dd:Nat) (m':List (MFunc dd)),m'.length=m.length/\(QaM dd).In w All m' [.slice pm m'.length cm]/\(¬ Qm m'->QmK w pm m'.length cm):=by
 by_cases d:(modFault m).1=0
 ·have f:m.length=(m.map (MFunc.at 5)).length:=(XN _).symm;have a:(Qin 6).In w All (m.map (MFunc.at 5)) [.slice pm (m.map (MFunc.at 5)).length cm]:=by rw[<-f];exact Ql3 (QlL d) c
  refine⟨6,m.map (MFunc.at 5),f.symm,(QfL 6).2 a,fun b=>?_⟩
  generalize m.map (MFunc.at 5)=g at a b;by_cases r:(Qr g).1=0
  ·exact .inr ⟨g,Z,(Qgd 6).2 a,b,r⟩
  ·exact .inl ⟨_,_,r,fun h e=>Qb9 (Ya ((Qgd 6).2 a) e) (Zz b) (fun _=>b)⟩
 ·exact⟨n,m,Z,(QfL n).2 c,fun b=>.inl ⟨_,_,d,fun h e=>Qcp (Ya ((QfL n).2 c) e) (Zz b) d⟩⟩
section
variable {w:World}{inp:List Int}{most pages ml cm ci:Nat}{pm pi:Option Addr}{fu pg:Int}
def QdY (n:Nat) (fu pg:Int):Prop:=¬ (200<n\/fu<0\/20000<fu\/pg<0\/64<pg)
theorem QiX {m:List (MFunc 6)}(c:(QkI 6).In w All m [.slice pm m.length cm]) (b:¬ Qm m) (H:(Qr m).1=0) (d:intsL.In w All inp [.slice pi inp.length ci]) (hi:inp.length<=200) (g:most<=20000) (f:pages<=64) :
 Calls prog 32 #[.agg #[.slice pm m.length cm],.slice pi inp.length ci,Iv (most:Int),Iv (pages:Int)] w fun e w'=>Qju w m inp most pages e w' :=
 Qgi ((Qbx 6).2 c) (Zz b) d (QmW d) hi g f (fun h a=>Qdd c (Zz b) b H h a)
theorem QmK.other (h:QmK w pm ml cm) (q:intsL.In w All inp [.slice pi inp.length ci]) (hi:inp.length<=200) (j:most<=20000) (d:pages<=64) (f:World) (b:Below w.heap.size w f) :
 Calls prog 32 #[.agg #[.slice pm ml cm],.slice pi inp.length ci,Iv (most:Int),Iv (pages:Int)] f fun e w'=>QgA f inp most pages e w':=by
 rcases h with ⟨c,a,i,n⟩|⟨m,rfl,l,o,H⟩
 ·exact(Qig (fun p g=>n p (b.trans (g.mono b.size))) (by omega) (.inl ⟨i,Z,Z⟩)).mono fun e w' h=>.inl ⟨c,a,i,h.1,h.2⟩
 ·exact(QiX (Ya l b) o H (Ya q b) hi j d).mono fun e w' h=>.inr ⟨m,ZY H,fun k=>Qeb H inp d k,Qc1 (ZY H) (by omega) d,h⟩
theorem QmK.run (h:QmK w pm ml cm) (r:intsL.In w All inp [.slice pi inp.length ci]) (q:inp.length<1152921504606846976) (o:Value)
 (u:QdY inp.length fu pg->∀ most pages:Nat,fu=(most:Int)->pg=(pages:Int)->∀ wx,Below w.heap.size w wx->Calls prog 32 #[o,.slice pi inp.length ci,Iv (most:Int),Iv (pages:Int)] wx fun e w'=>QgA wx inp most pages e w') :
 (∃ c a:Int,c≠0/\∀ wx,Below w.heap.size w wx->Calls prog 30 #[.agg #[.slice pm ml cm],.slice pi inp.length ci,Iv fu,Iv pg] wx fun e w'=>e=.returned (Qik c a)/\Below wx.heap.size wx w') \/
  ∃ (m6:List (MFunc 6)) (i6:List Int) (most pages:Nat),fu=(most:Int)/\pg=(pages:Int)/\Qnx w (.agg #[.slice pm ml cm]) o (.slice pi inp.length ci) m6 i6 most pages:=by
 rcases h with ⟨c,a,p,t⟩|⟨m,rfl,j,f,H⟩
 ·exact .inl ⟨c,a,p,fun wx b=>QfH (fun l d=>t l (b.trans (d.mono b.size))) q (.inl ⟨p,Z,Z⟩)⟩
 by_cases s:200<inp.length\/fu<0\/20000<fu\/pg<0\/64<pg
 ·exact .inl ⟨1,-1,by decide,fun wx b=>QfH (fun l d=>Qdd j (Zz f) f H l (b.trans (d.mono b.size))) q (.inr ⟨Z,s,Z,Z⟩)⟩
 ·obtain⟨most,rfl⟩:∃ k:Nat,fu=(k:Int):=⟨fu.toNat,by omega⟩
  obtain⟨pages,rfl⟩:∃ k:Nat,pg=(k:Int):=⟨pg.toNat,by omega⟩
  have n:inp.length<=200:=by omega
  have i:most<=20000:=by omega
  have g:pages<=64:=by omega
  exact .inr ⟨m,inp,most,pages,Z,Z,ZY H,i,fun k=>Qeb H inp g k,Qc1 (ZY H) (by omega) g,fun wx b=>Qjs (Ya j b) (Zz f) f H (Ya r b) n i g,fun wx b=>QiX (Ya j b) f H (Ya r b) n i g,u s most pages Z Z⟩
end
theorem Qho {w:World}{m:List (MFunc n)}{o:List (MFunc k)}{pm d pi:Option Addr}{cm f ci:Nat}{inp:List Int}{fu pg:Int}(v:(Qin n).In w All m [.slice pm m.length cm]) (r:(Qin k).In w All o [.slice d o.length f]) (g:intsL.In w All inp [.slice pi inp.length ci]) (u:inp.length<1152921504606846976) :
 Calls prog 8 #[.agg #[.slice pm m.length cm],.agg #[.slice d o.length f],.slice pi inp.length ci,Iv fu,Iv pg] w fun e w'=>e=.returned (.bool true)/\Below w.heap.size w w':=by
 obtain⟨A,z,p,t,l⟩:=Qiu v
 obtain⟨s,B,x,i,q⟩:=Qiu r
 rw[<-p,<-x]
 exact QjR t i fun j a _=>(l j).run g u _ fun c h b C y=>(q a).other g (by unfold QdY at c;omega) (by unfold QdY at c;omega) (by unfold QdY at c;omega)
end Go.Proofs.YtjhdpajpibdnaafGreat
