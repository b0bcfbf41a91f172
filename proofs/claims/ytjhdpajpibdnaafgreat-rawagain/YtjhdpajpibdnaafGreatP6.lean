import Derived.Test.YtjhdpajpibdnaafGreatP5
set_option maxHeartbeats 16000000
set_option maxRecDepth 100000
namespace Go.Proofs.YtjhdpajpibdnaafGreat
open Go.ChangeShapes Go.WideShapes Go.ChangeAt Go.RowKit _root_.Go.Proofs.Tryz
set_option linter.unusedSimpArgs false
set_option linter.unusedVariables false
variable {w w' w6 w1 w2:World}{n b c k m rc ac X j B i cm g N d f fi cap bp q R pages id bi cc funcs s ci rl al ca ri vl most cR cA G:Nat}{O Q O':Nat→Prop}{l xs regs inp:List Int}{p a rg ag pm pi pa pR pA ra aa:Option Addr}{t e:TypeId}{v:Value}{P:Program}{L bs:List Bool}{x ya xc xk fr xa xb xn yb:Int}{ds cs:List Value}{ops:Array Oper}
def fI:Qs:=⟨1,0,0,0,0,5,[],[]⟩
def fE:ZA:=⟨3,0,⟨0,[],[]⟩,⟨0,[],[]⟩,[0]⟩
def fB:MBlock 6:=⟨0,[],[fI],fE⟩
def fF:MFunc 6:=⟨0,[],[tInt],[fB]⟩
def five6:List (MFunc 6):=[fF]
theorem five_fault:modFault five6=(0,0):=by decide +kernel
abbrev fBc (G1 Gc Gi:Nat):Array Value:=#[Iv 0,Nv,.slice (some ⟨Gc,0,none⟩) 1 1,Iv 3,Iv 0,Iv 0,Nv,Nv,Iv 0,Nv,Nv,.slice (some ⟨Gi,0,none⟩) 1 1]
theorem Qnw (w:World):intsL.In w All ([]:List Int) [Nv]:=Yg _ _ _ _ _
theorem Qmb (w:World):(Lay.tt 6).In w All tInt [Iv 1,Iv 0,Nv]:=⟨none,0,Z,fun i x h=>by simp[tInt] at h,by unfold tInt;exact⟨by decide,fun x h=>by simp at h⟩⟩
def two1:List Qs:=[bI 3,⟨1,0,0,0,0,1,[],[]⟩,bI 4,bI 4]
def tB:MBlock 6:=⟨0,[],two1,E00⟩
def tF:MFunc 6:=⟨0,[],[],[tB]⟩
def two6:List (MFunc 6):=[tF]
theorem QdY {f:MFunc 6}(i:f.params=[]) (r:f.results.length<=1) (a:∀ t∈f.results,t.count<=1){b:MBlock 6}(c:f.blocks=[b]) (j:b.params=[]) (u:b.code.length<=40) (p:b.fin.yes.regs=[]/\b.fin.yes.args=[]/\b.fin.no.regs=[]/\b.fin.no.args=[]/\b.fin.args.length<=1) (l:∀ x∈b.code,x.regs=[]/\x.args=[]):¬ Qm [f]:=by
 rintro (h | ⟨x,g,h⟩)
 ·exact absurd h (by simp)
 ·simp only[List.mem_singleton] at g
  subst g;rcases h with h | h | h | ⟨y,d,h⟩
  ·rw[c] at h;exact absurd h (by simp)
  ·rw[i] at h
   rcases h with h | ⟨t,a,_⟩
   ·exact absurd h (by simp)
   ·cases a
  ·rcases h with h | ⟨t,e,h⟩
   ·have:=r;omega
   ·have:=a t e;omega
  ·rw[c] at d
   simp only[List.mem_singleton] at d
   subst d;obtain⟨n,o,m,k,s⟩:=p
   rcases h with h | h | h | h | h | h | h | ⟨z,q,h⟩
   ·omega
   ·rw[j] at h
    rcases h with h | ⟨t,a,_⟩
    ·exact absurd h (by simp)
    ·cases a
   ·omega
   ·rw[n] at h;exact absurd h (by simp)
   ·rw[o] at h;exact absurd h (by simp)
   ·rw[m] at h;exact absurd h (by simp)
   ·rw[k] at h;exact absurd h (by simp)
   ·have c:=l z q;rw[c.1,c.2] at h
    exact absurd h (by simp)
theorem five_not:¬ Qm five6:=QdY (b:=fB) Z (by decide) (fun t c=>by simp only[fF,List.mem_singleton] at c;subst c;decide) Z Z (by decide) ⟨Z,Z,Z,Z,by decide⟩ (fun x a=>by simp only[fB,List.mem_singleton] at a;subst a;exact⟨Z,Z⟩)
theorem two_not:¬ Qm two6:=QdY (b:=tB) Z (by decide) (fun t c=>by cases c) Z Z (by decide) ⟨Z,Z,Z,Z,by decide⟩ (fun x a=>by have a:x∈two1:=a;simp only[two1,List.mem_cons,List.not_mem_nil,or_false] at a;rcases a with rfl | rfl | rfl | rfl<;>exact⟨Z,Z⟩)
theorem QiW (w:World):Calls prog 38 #[] w fun e w'=>∃ I C T Y G2 G1 R,e=.returned (.agg #[.slice (some ⟨G2,0,none⟩) 1 1])/\Bxs w w' [(I,#[Iv 0],3),(C,#[Iv 1,Iv 0,Iv 0,Iv 0,Iv 0,Iv 5,Nv,Nv],78),(T,#[Iv 1,Iv 0,Nv],105),(Y,#[.slice (some ⟨G2,0,none⟩) 1 1],24),(G2,#[Iv 0,Nv,.slice (some ⟨T,0,none⟩) 1 1,.slice (some ⟨G1,0,none⟩) 1 1],89),(G1,fBc G1 C I,86),(R,#[.slice (some ⟨G2,0,none⟩) 1 1],24)]:=by
 have i:=Qa ((Bxs.start w).new #[Nv] 24);go_enter func38,ntmps38
 go_upto_region 1 with fail
 generalize w.alloc (.cells #[Nv] 24)=z at i |-;generalize w.heap.size=R at i |-;go_wp2_with fail
 refine(Qh7 z).mono ?_
 rintro J s ⟨G1,G2,rfl,t,x,E,u,A,B⟩;have k:=Qa (((i.out.made B t E).add x (Zt i.out.bel.size u) (fun b y=>by simp only[List.mem_cons,List.not_mem_nil,or_false] at y;rcases y with rfl | rfl;exact A;exact fun e=>by have L:R<z.heap.size:=(i.out.at (a:=[])).lt;have e:R=G2:=e;omega)).new #[.slice (some ⟨G2,0,none⟩) 1 1] 24);clear t x E u A B i;go_upto_region 2 with fail
 generalize s.alloc (.cells #[.slice (some ⟨G2,0,none⟩) 1 1] 24)=p at k |-;generalize s.heap.size=Y at k |-;have o:=Qa (k.out.new #[Iv 1,Iv 0,Nv] 105);have c:=k.out.cell (a:=[]) 0 _ Z;have G:=o.out.cell (a:=[_,_]) 2 _ Z;have l:=o.out.free (a:=[_,_]) 2;go_upto_region 3 with fail
 have g:=Qa (o.out.set (a:=[_,_]) 2 (.slice (some ⟨p.heap.size,0,none⟩) 1 1));clear k o c G l;generalize (p.alloc (.cells #[Iv 1,Iv 0,Nv] 105)).setCell ⟨G2,2,none⟩ (.slice (some ⟨p.heap.size,0,none⟩) 1 1)=h at g |-;generalize p.heap.size=T at g |-;have n:=Qa (g.out.new #[Iv 1,Iv 0,Iv 0,Iv 0,Iv 0,Iv 5,Nv,Nv] 78);have c:h.cell? ⟨Y,0,none⟩=some (.slice (some ⟨G2,0,none⟩) 1 1):=g.out.cell (a:=[_]) 0 _ Z;have r:h.cell? ⟨G2,3,none⟩=some (.slice (some ⟨G1,0,none⟩) 1 1):=g.out.cell (a:=[_,_]) 3 _ Z;have q:=n.out.cell (a:=[_,_,_,_]) 2 _ Z;have l:=n.out.free (a:=[_,_,_,_]) 2;go_upto_region 4 with fail
 have j:=Qa (n.out.set (a:=[_,_,_,_]) 2 (.slice (some ⟨h.heap.size,0,none⟩) 1 1));clear g n c r q l;generalize (h.alloc (.cells #[Iv 1,Iv 0,Iv 0,Iv 0,Iv 0,Iv 5,Nv,Nv] 78)).setCell ⟨G1,2,none⟩ (.slice (some ⟨h.heap.size,0,none⟩) 1 1)=f at j |-;generalize h.heap.size=C at j |-;have m:=Qa (j.out.new #[Iv 0] 3);have c:f.cell? ⟨Y,0,none⟩=some (.slice (some ⟨G2,0,none⟩) 1 1):=j.out.cell (a:=[_,_]) 0 _ Z;have r:f.cell? ⟨G2,3,none⟩=some (.slice (some ⟨G1,0,none⟩) 1 1):=j.out.cell (a:=[_,_,_]) 3 _ Z;have q:=m.out.cell (a:=[_,_,_,_,_]) 11 _ Z;have l:=m.out.free (a:=[_,_,_,_,_]) 11;go_upto_region 5 with fail
 have d:=Qa (m.out.set (a:=[_,_,_,_,_]) 11 (.slice (some ⟨f.heap.size,0,none⟩) 1 1));clear j m c r q l;generalize (f.alloc (.cells #[Iv 0] 3)).setCell ⟨G1,11,none⟩ (.slice (some ⟨f.heap.size,0,none⟩) 1 1)=F at d |-;generalize f.heap.size=I at d |-;have c:F.cell? ⟨Y,0,none⟩=some (.slice (some ⟨G2,0,none⟩) 1 1):=d.out.cell (a:=[_,_,_]) 0 _ Z;have M:=d.out.cell (a:=[_,_,_,_,_,_]) 0 _ Z;have K:=d.out.free (a:=[_,_,_,_,_,_]) 0;have D:=Qa (d.out.set (a:=[_,_,_,_,_,_]) 0 (.slice (some ⟨G2,0,none⟩) 1 1));go_wp2
 have H:=D.out.cell (a:=[_,_,_,_,_,_]) 0 _ Z;refine Xy (v:=.agg #[.slice (some ⟨G2,0,none⟩) 1 1]) (by simp[results,results38,go_sem,H]) Z ⟨_,_,_,_,G2,_,_,Z,D.out⟩
def retE:ZA:=⟨3,0,⟨0,[],[]⟩,⟨0,[],[]⟩,[]⟩
def MBlock.outl {n:Nat}(b:MBlock n):MBlock n:=⟨b.regs,b.params,[],retE⟩
def MFunc.outl {n:Nat}(f:MFunc n):MFunc n:=⟨f.regs,f.params,f.results,f.blocks.map MBlock.outl⟩
def outl {n:Nat}(m:List (MFunc n)):List (MFunc n):=m.map MFunc.outl
def JSt.outl (s:JSt):JSt:=⟨Go.Proofs.YtjhdpajpibdnaafGreat.outl s.m,s.f.outl,s.H,s.L⟩
theorem Qa8 (m:List (MFunc n)):(outl m).length=m.length:=XN _
theorem Qeg (m:List (MFunc n)) (k:Nat):(outl m)[k]?=(m[k]?).map MFunc.outl:=XS
theorem Qgp (f:MFunc n):f.outl.blocks.length=f.blocks.length:=XN _
theorem Qku (f:MFunc n) (k:Nat):f.outl.blocks[k]?=(f.blocks[k]?).map MBlock.outl:=XS
theorem Qc4 (s:JSt) (l:List Int) (ts:List (TT 6)) (a:List Int):s.outl.args l ts a=s.args l ts a:=rfl
theorem Qc3 (s:JSt):∀ l,s.outl.fields l=s.fields l
 | []=>rfl
 | k::r=>by
   have a:s.outl.at k=s.at k:=rfl;simp only[JSt.fields,a,Qc3 s r]
theorem QdA (s:JSt) (x:Qs):s.outl.makes x=s.makes x:=by
 have h:∀ k,s.outl.at k=s.at k:=fun _=>rfl;have g:∀ a b c,s.outl.want a b c=s.want a b c:=fun _ _ _=>rfl;have e:s.outl.H=s.H:=rfl;have i:s.outl.f.regs=s.f.regs:=rfl;have d:s.outl.m[x.k.toNat]?=(s.m[x.k.toNat]?).map MFunc.outl:=Qeg _ _;unfold JSt.makes;rw[d]
 simp only[h,g,e,i,Qc3,Qc4]
 cases s.m[x.k.toNat]?<;>rfl
theorem QeH (s:JSt) (x:Qs):s.outl.code x=s.code x:=by
 have a:s.outl.m.length=s.m.length:=Qa8 _;have b:s.outl.L=s.L:=rfl;unfold JSt.code;rw[a,QdA,b]
theorem QhQ (s:JSt) (x:Qs):s.outl.next x=(s.next x).outl:=by
 unfold JSt.next
 rw[QdA]
 rfl
theorem Qko (s:JSt) (x:Qs):s.outl.ins x=(s.ins x).outl:=by
 unfold JSt.ins;rw[QeH]
 split
 ·exact QhQ s x
 ·rfl
theorem Qjk (s:JSt) (t:MTo):s.outl.to t=s.to t:=by
 have b:s.outl.f.blocks[t.block.toNat]?=(s.f.blocks[t.block.toNat]?).map MBlock.outl:=Qku _ _;have c:s.outl.f.regs=s.f.regs:=rfl;have a:s.outl.H=s.H:=rfl;unfold JSt.to;rw[b]
 simp only[c,a,Qc4]
 cases s.f.blocks[t.block.toNat]?<;>rfl
theorem Qka (s:JSt) (e:ZA):s.outl.fin e=s.fin e:=by
 have j:s.outl.f.blocks.length=s.f.blocks.length:=Qgp _;have i:s.outl.f.regs=s.f.regs:=rfl;have d:s.outl.H=s.H:=rfl;have g:s.outl.f.results=s.f.results:=rfl;have h:∀ a b c,s.outl.want a b c=s.want a b c:=fun _ _ _=>rfl;unfold JSt.fin;rw[j,Qjk,Qjk,i,d,g,h,Qc4]
theorem Qg8 (m:List (MFunc 6)) (f:MFunc 6) (b:MBlock 6):JSt.start (outl m) f.outl b.outl=(JSt.start m f b).outl:=rfl
theorem Qhr {fn:MFunc n}{x:MBlock n}(h:(MBlock.fault funcs f fn b x).1=0):(MBlock.fault funcs f fn.outl b x.outl).1=0:=by
 unfold MBlock.fault at h |-;split at h
 ·cases h
 rename_i j
 split at h
 ·rename_i a;exact absurd h a
 rename_i a
 split at h
 ·cases h
 rename_i l
 have g:¬ (x.outl.regs<fn.outl.regs\/16<x.outl.regs):=j;have c:¬ listC x.outl.regs x.outl.params≠0:=a;have d:¬ (b=0/\(x.outl.regs≠fn.outl.regs\/Qc1 x.outl.params fn.outl.params=false)):=l;have m:¬ 40<x.outl.code.length:=by show ¬ 40<0;omega
 have k:¬ (firstF (fun i y=>(Qs.form funcs y,(10000*f+100*b+i:Int))) 0 x.outl.code).1≠0:=fun e=>e Z
 have o:¬ x.outl.fin.form fn.outl.blocks.length≠0:=fun e=>e (by
  show ZA.form _ retE=0;simp[ZA.form,retE,MTo.form])
 rw[Xr g,Xr c,Xr d,Xr m,Xr k,Xr o]
theorem QjD {x:MFunc n}(h:(MFunc.fault funcs f x).1=0):(MFunc.fault funcs f x.outl).1=0:=by
 unfold MFunc.fault at h |-;split at h
 ·cases h
 rename_i j
 split at h
 ·rename_i a;exact absurd h a
 rename_i a
 split at h
 ·rename_i a;exact absurd h a
 rename_i m
 split at h
 ·cases h
 rename_i o
 split at h
 ·cases h
 rename_i l
 have g:¬ (x.outl.regs<0\/6<x.outl.regs):=j;have c:¬ listC x.outl.regs x.outl.params≠0:=a;have e:¬ listC x.outl.regs x.outl.results≠0:=m;have b:¬ (x.outl.blocks.length<1\/12<x.outl.blocks.length):=by rw[Qgp];exact o
 have d:¬ (f=0/\¬ (x.outl.regs=0/\x.outl.params.length=0/\x.outl.results.all (fun t=>t.kind==1)=true)):=l;rw[Xr g,Xr c,Xr e,Xr b,Xr d]
 rw[QY]
 intro k y i;rw[Qku] at i
 obtain⟨z,p,rfl⟩:=Option.map_eq_some_iff.1 i
 exact Qhr (QQ h k z p)
theorem Qgu {m:List (MFunc n)}(h:(modFault m).1=0):(modFault (outl m)).1=0:=by
 unfold modFault at h |-;split at h
 ·cases h
 rename_i c
 rw[Xr (by rw[Qa8];exact c),QY]
 intro k y a;rw[Qeg] at a
 obtain⟨z,b,rfl⟩:=Option.map_eq_some_iff.1 a
 rw[Qa8]
 exact QjD (QQ h k z b)
theorem QdJ {m:List (MFunc n)}(h:¬ Qm m):¬ Qm (outl m):=by
 rintro (e | ⟨x,a,e⟩)
 ·rw[Qa8] at e;exact h (.inl e)
 ·obtain⟨z,f,rfl⟩:=List.mem_map.1 a
  refine h (.inr ⟨z,f,?_⟩);rcases e with e | e | e | ⟨y,b,e⟩
  ·rw[Qgp] at e;exact .inl e
  ·exact .inr (.inl e)
  ·exact .inr (.inr (.inl e))
  ·obtain⟨q,d,rfl⟩:=List.mem_map.1 b
   refine .inr (.inr (.inr ⟨q,d,?_⟩));rcases e with e | e | e | e | e | e | e | ⟨u,c,e⟩
   ·exact absurd e (by show ¬ 200<0;omega)
   ·exact .inr (.inl e)
   ·exact absurd e (by show ¬ 300<0;omega)
   ·exact absurd e (by show ¬ 300<0;omega)
   ·exact absurd e (by show ¬ 300<0;omega)
   ·exact absurd e (by show ¬ 300<0;omega)
   ·exact absurd e (by show ¬ 300<0;omega)
   ·cases c
abbrev Qaw (g:MBlock 6) (p1 p2:Option Addr) (d1 d2:Nat) (e:EP):Array Value:=#[Iv g.regs,.slice p1 g.params.length d1,.slice p2 g.code.length d2,Iv g.fin.op,Iv g.fin.a,Iv g.fin.yes.block,.slice e.pYR g.fin.yes.regs.length e.cYR,.slice e.pYA g.fin.yes.args.length e.cYA,Iv g.fin.no.block,.slice e.pNR g.fin.no.regs.length e.cNR,.slice e.pNA g.fin.no.args.length e.cNA,.slice e.pA g.fin.args.length e.cA]
theorem QlM {m:List (MFunc 6)}{fn:MFunc 6}{g:MBlock 6}(c:m[f]?=some fn) (a:fn.blocks[b]?=some g):Qge m (f:Int) (b:Int)=true:=by
 have:=(Zi a).1
 simp[Qge,c,this]
theorem Zu (h:Blk w R #[Iv 0,Iv 0] 32) (c a:Int):Blk ((w.setCell ⟨R,0,none⟩ (Iv c)).setCell ⟨R,1,none⟩ (Iv a)) R #[Iv c,Iv a] 32:=by
 have:=Qh (Qh h 0 (Iv c)) 1 (Iv a)
 simpa using this
theorem vsizeEnd:(prog.info? 84).map (·.size)=some 9:=by kernel_rfl
theorem Qg4 {m:List (MFunc 6)}{fn:MFunc 6}{g:MBlock 6}{p1 D:Option Addr}{d1 u:Nat}{e:EP}(ao:(modFault m).1=0) (H:¬ Qm m) (au:(QaN 6).In w All (outl m) [.slice p m.length c]) (aa:m[f]?=some fn) (ad:fn.blocks[b]?=some g) (T:insC.list.In w All g.code [.slice D g.code.length u]) (ag:Qdq w All g.fin e) (ax:-9223372036854775808<=g.fin.a/\g.fin.a<=9223372036854775807) :
 Calls prog 108 #[.agg #[.slice p m.length c],Iv (f:Int),Iv (b:Int),.agg (Qaw g p1 D d1 u e)] w fun r w'=>r=.returned (QG (QA (10000*(f:Int)+100*(b:Int)) g.fin (JSt.start m fn g) 0 g.code))/\Below w.heap.size w w':=by
 have bc:=Qa ao;have a9:=Qa H;have ba:=Qa au;have a2:=Qa aa;have a3:=Qa ad;have am:=Qa T;have aq:=Qa ag;have bh:=Qa ax;have ab:fn∈m:=Zm aa;have ak:g∈fn.blocks:=Zm ad;have ae:Hid (¬ g.great):=fun h=>H (.inr ⟨fn,ab,.inr (.inr (.inr ⟨g,ak,h⟩))⟩)
 have be:Hid (JOk (JSt.start m fn g).outl):=by
  have:=JOk.start (Qgu ao) (QdJ H) (f:=fn.outl) (b:=g.outl) (List.mem_map_of_mem ab) (List.mem_map_of_mem ak)
  rw[Qg8] at this
  exact this
 have bm:g.code.length<=200:=Xo fun h=>ae.out (.inl h);have bn:f<1000:=by have h1:=(Zi aa).1;have h2:m.length<=20:=Xo fun x=>H (.inl x);omega
 have bk:b<1000:=by have h1:=(Zi ad).1;have h2:fn.blocks.length<=30:=Xo fun x=>H (.inr ⟨fn,ab,.inl x⟩);omega
 have b1:=Zd w (.cells #[.slice p m.length c] 24);have b2:=Zd (w.alloc (.cells #[.slice p m.length c] 24)) (.cells (Qaw g p1 D d1 u e) 86);have b3:=Zd ((w.alloc (.cells #[.slice p m.length c] 24)).alloc (.cells (Qaw g p1 D d1 u e) 86)) (.cells #[Iv 0,Iv 0] 32)
 have V:Hid (Below w.heap.size w (((w.alloc (.cells #[.slice p m.length c] 24)).alloc (.cells (Qaw g p1 D d1 u e) 86)).alloc (.cells #[Iv 0,Iv 0] 32))):=by
  have h:=b2.trans (b3.mono b2.size);exact b1.trans (h.mono b1.size)
 have s1:(w.alloc (.cells #[.slice p m.length c] 24)).heap.size=w.heap.size+1:=World.size_alloc ..;have s2:((w.alloc (.cells #[.slice p m.length c] 24)).alloc (.cells (Qaw g p1 D d1 u e) 86)).heap.size=w.heap.size+1+1:=(World.size_alloc ..).trans (by rw[s1])
 have BM:Hid (Blk (((w.alloc (.cells #[.slice p m.length c] 24)).alloc (.cells (Qaw g p1 D d1 u e) 86)).alloc (.cells #[Iv 0,Iv 0] 32)) w.heap.size #[.slice p m.length c] 24) :=
  Blk.below (Blk.below (Blk.new w #[.slice p m.length c] 24) b2) b3
 have BX:Hid (Blk (((w.alloc (.cells #[.slice p m.length c] 24)).alloc (.cells (Qaw g p1 D d1 u e) 86)).alloc (.cells #[Iv 0,Iv 0] 32)) (w.heap.size+1) (Qaw g p1 D d1 u e) 86):=by
  have:=Blk.below (Blk.new (w.alloc (.cells #[.slice p m.length c] 24)) (Qaw g p1 D d1 u e) 86) b3
  rw[s1] at this
  exact this
 have BR:Hid (Blk (((w.alloc (.cells #[.slice p m.length c] 24)).alloc (.cells (Qaw g p1 D d1 u e) 86)).alloc (.cells #[Iv 0,Iv 0] 32)) (w.heap.size+1+1) #[Iv 0,Iv 0] 32):=by
  have:=Blk.new ((w.alloc (.cells #[.slice p m.length c] 24)).alloc (.cells (Qaw g p1 D d1 u e) 86)) #[Iv 0,Iv 0] 32
  rw[s2] at this
  exact this
 clear b1 b2 b3 s1 s2 ab ak ao H au aa ad T ag ax;go_enter func108,ntmps108
 go_upto_region 1 with fail
 generalize ((w.alloc (.cells #[.slice p m.length c] 24)).alloc (.cells (Qaw g p1 D d1 u e) 86)).alloc (.cells #[Iv 0,Iv 0] 32)=o at V BM BX BR |-;obtain⟨X,hX⟩:∃ X,X=w.heap.size:=⟨_,Z⟩
 obtain⟨X2,a4⟩:∃ X2,X2=X+1:=⟨_,Z⟩
 obtain⟨R,hR⟩:∃ R,R=X2+1:=⟨_,Z⟩
 have G:Hid (w.heap.size<=R):=by show _<=_;omega
 rw[<-hX] at BM BX BR |-
 rw[<-a4] at BX BR |-
 rw[<-hR] at BR |-
 clear hX a4 hR;have x0:=Qb BM.out 0 _ Z;have CN:=Qa (Qj7 (w:=o) (m:=outl m) (p:=p) (c:=c) (f:Int) (b:Int) (QdJ a9.out) (by rw[Qa8];exact Ya ba.out V.out));rw[Qa8] at CN
 go_wp2_with fail
 refine CN.out.mono ?_;rintro e2 w2 ⟨b2,bi⟩;have bg:Hid (o.heap.size<=w2.heap.size):=b2.size;rcases bi with ⟨hf,rfl⟩|⟨-,az,rfl⟩|⟨-,-,i,j,bl,g',B,O,A,hi,hj,ai,af,rfl,hS,hA⟩
 ·exact absurd (Qgu bc.out) hf
 ·rw[QlM (fn:=fn.outl) (g:=g.outl) (by rw[Qeg,a2.out];rfl) (by rw[Qku,a3.out];rfl)] at az
  cases az
 have a8:f=i:=by omega
 have bb:b=j:=by omega
 subst a8 bb;rw[Qeg,a2.out] at ai
 cases ai
 rw[Qku,a3.out] at af
 cases af
 have b3:=Zd w2 (.cells #[Iv 0,Iv 0] 32)
 have S3:Hid (SOk (w2.alloc (.cells #[Iv 0,Iv 0] 32)) B o.heap.size ((JSt.start m fn g).upto (g.code.take 0)).outl) :=
  SOk.below ⟨O,A,hS,hA,be.out⟩ b3
 have B3:Hid (Below o.heap.size o (w2.alloc (.cells #[Iv 0,Iv 0] 32))):=b2.trans (b3.mono b2.size);have F3:Hid (Blk (w2.alloc (.cells #[Iv 0,Iv 0] 32)) w2.heap.size #[Iv 0,Iv 0] 32):=Blk.new _ _ _;clear b2 b3 hS hA CN bg hi hj;go_upto_region 2 with fail
 generalize w2.alloc (.cells #[Iv 0,Iv 0] 32)=w3 at S3 B3 F3 |-;generalize w2.heap.size=F9 at F3 |-;have f0:=Qb F3.out 0 _ Z;have y2:w3.cell? ⟨X2,2,none⟩=some (.slice D g.code.length u):=Qk (Qb BX.out 2 _ Z) B3.out;clear x0;go_wp2_with fail
 clear f0 y2;go_loopw [29] (fun i wr=>∃ z:Nat,z<=g.code.length/\i=Iv z/\SOk wr B o.heap.size ((JSt.start m fn g).upto (g.code.take z)).outl/\Below o.heap.size o wr/\∀ j y,j<z->g.code[j]?=some y->((JSt.start m fn g).upto (g.code.take j)).code y=0) (fun i _=>g.code.length - (intOf i).toNat)
 case atStart=>exact⟨0,Xb _,Z,S3.out,B3.out,fun j y hj=>absurd hj (XG _)⟩
 case round =>
  obtain⟨z,hz,rfl,hs,hb,ah⟩:=hrel
  have SR:=Qa hs;have q:=Qa hb;have M:=Qa ah;clear hs hb ah S3 B3 F3;obtain⟨l,bd⟩:∃ l,l=wr:=⟨_,Z⟩
  subst bd;by_cases a6:z<g.code.length
  rotate_left
  ·have ap:¬ (z:Int)<g.code.length:=by omega
   have a0:g.code.take z=g.code:=XO (by omega);rw[a0] at SR
   have RE:Hid (l.rangeAt X2 3 (QbW g.fin e).toList):=fun j v hj=>by
    have:(Qaw g p1 D d1 u e)[3+j]?=some v:=by
     rw[<-Array.getElem?_toList,Nat.add_comm]
     exact hj
    exact Qk (Qb BX.out (3+j) v this) q.out
   have ar:Hid (300>=g.fin.yes.regs.length/\300>=g.fin.yes.args.length/\300>=g.fin.no.regs.length/\300>=g.fin.no.args.length):=by
    have h:=ae.out;unfold MBlock.great at h;simp only[not_or,Nat.not_lt] at h
    exact⟨h.2.2.2.1,h.2.2.2.2.1,h.2.2.2.2.2.1,h.2.2.2.2.2.2.1⟩
   have CE:Hid (Calls prog 165 #[Pv B 0,.agg (QbW g.fin e).toList.toArray] l fun r w'=>r=.returned (Iv (((JSt.start m fn g).upto g.code).fin g.fin))/\Below l.heap.size l w'):=by
    have:=SR.out.end_ ((aq.out.below V.out).below q.out) bh.out (by have:=ar.out;omega)
    rw[Qka] at this
    exact this
   have BE:Hid (QA (10000*(f:Int)+100*(b:Int)) g.fin (JSt.start m fn g) 0 g.code=if ((JSt.start m fn g).upto g.code).fin g.fin≠0 then (((JSt.start m fn g).upto g.code).fin g.fin,10000*(f:Int)+100*(b:Int)+91) else (0,0)):=Qe1 fun j y hj hy=>M.out j y (by omega) hy;clear ar a0;generalize ((JSt.start m fn g).upto g.code).fin g.fin=C at CE BE;go_wp2_with (refine wpList_load_mid Z 84 (.tmp 47) Z X2 3 Z (QbW g.fin e).toList _ RE.out underlying84 Z vsizeEnd ?_)
   refine CE.out.mono ?_;rintro e9 w9 ⟨rfl,b9⟩;have U:Hid (Below o.heap.size o w9):=q.out.trans (b9.mono q.out.size);clear b9 q CE RE SR;by_cases al:C=0
   ·subst al;have E:Hid (QA (10000*(f:Int)+100*(b:Int)) g.fin (JSt.start m fn g) 0 g.code=(0,0)):=by show _=_;rw[BE.out];rfl
    clear BE;have t:Hid (Blk w9 R #[Iv 0,Iv 0] 32):=Blk.below BR.out U.out;have r0:=Qb t.out 0 _ Z;have r1:=Qb t.out 1 _ Z;have z0:=Qj t.out 0;have z1:=Qj t.out 1;have J:Hid (Blk ((w9.setCell ⟨R,0,none⟩ (Iv 0)).setCell ⟨R,1,none⟩ (Iv 0)) R #[Iv 0,Iv 0] 32):=Zu t.out _ _;have BL:Hid (Below w.heap.size w ((w9.setCell ⟨R,0,none⟩ (Iv 0)).setCell ⟨R,1,none⟩ (Iv 0))):=((V.out.trans (U.out.mono V.out.size)).setCell G.out _).setCell G.out _;go_wp2_with fail
    generalize (w9.setCell ⟨R,0,none⟩ (Iv 0)).setCell ⟨R,1,none⟩ (Iv 0)=av at J BL |-;have e0:=Qb J.out 0 _ Z;have e1:=Qb J.out 1 _ Z;exact Xy (v:=.agg #[Iv 0,Iv 0]) (by simp[results,results108,go_sem,e0,e1]) Z ⟨by rw[E.out],BL.out⟩
   ·have aw:(C != 0)=true:=by simpa using al
    have E:Hid (QA (10000*(f:Int)+100*(b:Int)) g.fin (JSt.start m fn g) 0 g.code=(C,10000*(f:Int)+100*(b:Int)+91)):=by
     show _=_;rw[BE.out,Xs al]
    have CA:=Qa (Qdz (f:=f) (b:=b) (w:=w9) ⟨by omega,by omega⟩);unfold Rd at CA;clear BE;go_wp2_with fail
    refine CA.out.mono ?_;rintro a5 d ⟨rfl,K⟩;have L:Hid (Below o.heap.size o d):=U.out.trans (K.mono U.out.size);clear K U CA;generalize 10000*(f:Int)+100*(b:Int)+91=I at E |-;have t:Hid (Blk d R #[Iv 0,Iv 0] 32):=Blk.below BR.out L.out;have r0:=Qb t.out 0 _ Z;have r1:=Qb t.out 1 _ Z;have z0:=Qj t.out 0;have z1:=Qj t.out 1;have J:Hid (Blk ((d.setCell ⟨R,0,none⟩ (Iv C)).setCell ⟨R,1,none⟩ (Iv I)) R #[Iv C,Iv I] 32):=Zu t.out _ _;have BL:Hid (Below w.heap.size w ((d.setCell ⟨R,0,none⟩ (Iv C)).setCell ⟨R,1,none⟩ (Iv I))):=((V.out.trans (L.out.mono V.out.size)).setCell G.out _).setCell G.out _;go_wp2_with fail
    generalize (d.setCell ⟨R,0,none⟩ (Iv C)).setCell ⟨R,1,none⟩ (Iv I)=av at J BL |-;have e0:=Qb J.out 0 _ Z;have e1:=Qb J.out 1 _ Z;exact Xy (v:=.agg #[Iv C,Iv I]) (by simp[results,results108,go_sem,e0,e1]) Z ⟨by rw[E.out],BL.out⟩
  have ap:(z:Int)<g.code.length:=by omega
  have ac:g.code[z]?=some g.code[z]:=Zg a6;generalize g.code[z]=x at ac;have an:=Qa ac;obtain⟨cg,co,ds,rfl,-,-,s,Q⟩:=Yf (Ya (Ya am.out V.out) q.out) ac
  have aj:=QkN Q;obtain⟨xa,W,xb,xd,rfl,N,P,a1,-⟩:=QhX Q
  have u0:l.cell? ⟨cg,co+z*8,none⟩=some (Iv x.op):=s 0 (by decide);have u1:l.cell? ⟨cg,co+z*8+1,none⟩=some (Iv x.a):=s 1 (by decide);have u2:l.cell? ⟨cg,co+z*8+2,none⟩=some (Iv x.b):=s 2 (by decide);have u3:l.cell? ⟨cg,co+z*8+3,none⟩=some (Iv x.c):=s 3 (by decide);have u4:l.cell? ⟨cg,co+z*8+4,none⟩=some (Iv x.k):=s 4 (by decide);have u5:l.cell? ⟨cg,co+z*8+5,none⟩=some (Iv x.n):=s 5 (by decide);have u6:l.cell? ⟨cg,co+z*8+6,none⟩=some (.slice xa x.regs.length W):=s 6 (by decide);have u7:l.cell? ⟨cg,co+z*8+7,none⟩=some (.slice xb x.args.length xd):=s 7 (by decide);have b4:=Zd l (.cells #[Iv x.op,Iv x.a,Iv x.b,Iv x.c,Iv x.k,Iv x.n,.slice xa x.regs.length W,.slice xb x.args.length xd] 78);have S:Hid (Blk (l.alloc (.cells #[Iv x.op,Iv x.a,Iv x.b,Iv x.c,Iv x.k,Iv x.n,.slice xa x.regs.length W,.slice xb x.args.length xd] 78)) l.heap.size #[Iv x.op,Iv x.a,Iv x.b,Iv x.c,Iv x.k,Iv x.n,.slice xa x.regs.length W,.slice xb x.args.length xd] 78):=Blk.new _ _ _;have B4:Hid (Below o.heap.size o (l.alloc (.cells #[Iv x.op,Iv x.a,Iv x.b,Iv x.c,Iv x.k,Iv x.n,.slice xa x.regs.length W,.slice xb x.args.length xd] 78))):=q.out.trans (b4.mono q.out.size)
  have CI:Hid (Calls prog 164 #[Pv B 0,Qed x xa xb W xd] (l.alloc (.cells #[Iv x.op,Iv x.a,Iv x.b,Iv x.c,Iv x.k,Iv x.n,.slice xa x.regs.length W,.slice xb x.args.length xd] 78)) fun r w'=>r=.returned (Iv (((JSt.start m fn g).upto (g.code.take z)).code x))/\SOk w' B o.heap.size (((JSt.start m fn g).upto (g.code.take z)).ins x).outl/\Below o.heap.size (l.alloc (.cells #[Iv x.op,Iv x.a,Iv x.b,Iv x.c,Iv x.k,Iv x.n,.slice xa x.regs.length W,.slice xb x.args.length xd] 78)) w'):=by
   have:=(SR.out.below b4).ins B4.out.size (Ya N b4) (Ya P b4) a1 aj
   rw[QeH,Qko] at this
   exact this
  clear s Q N P a1 ac aj b4 q SR;go_upto_region 7 with fail
  generalize l.alloc (.cells #[Iv x.op,Iv x.a,Iv x.b,Iv x.c,Iv x.k,Iv x.n,.slice xa x.regs.length W,.slice xb x.args.length xd] 78)=w4 at S B4 CI |-;generalize l.heap.size=bj at S |-;clear u0 u1 u2 u3 u4 u5 u6 u7;have t0:=Qb S.out 0 _ Z;have t1:=Qb S.out 1 _ Z;have t2:=Qb S.out 2 _ Z;have t3:=Qb S.out 3 _ Z;have t4:=Qb S.out 4 _ Z;have t5:=Qb S.out 5 _ Z;have t6:=Qb S.out 6 _ Z;have t7:=Qb S.out 7 _ Z;go_wp2_with fail
  refine CI.out.mono ?_;rintro e9 w9 ⟨rfl,ay,b9⟩;have S9:=Qa ay;have U:Hid (Below o.heap.size o w9):=B4.out.trans b9;clear t0 t1 t2 t3 t4 t5 t6 t7 CI S B4 ay b9;by_cases F:((JSt.start m fn g).upto (g.code.take z)).code x=0
  ·have E:Hid (((JSt.start m fn g).upto (g.code.take z)).ins x=(JSt.start m fn g).upto (g.code.take (z+1))):=by
    show _=_;rw[XV,an.out]
    show _=(JSt.start m fn g).upto (g.code.take z++[x]);rw[JSt.upto_snoc]
    unfold JSt.ins;rw[Xs F]
   have a7:=Qa F;rw[F]
   clear F;go_wp2_with fail
   go_roundw
   case rel =>
    refine⟨z+1,by omega,by go_num,by rw[<-E.out];exact S9.out,U.out,fun j y hj hy=>?_⟩
    by_cases bf:j<z
    ·exact M.out j y bf hy
    ·have:j=z:=by omega
     subst this;rw[an.out] at hy
     cases hy
     exact a7.out
   case measure=>simp[intOf];omega
  ·have E:Hid (QA (10000*(f:Int)+100*(b:Int)) g.fin (JSt.start m fn g) 0 g.code=(((JSt.start m fn g).upto (g.code.take z)).code x,10000*(f:Int)+100*(b:Int)+(z:Int))):=QeG an.out M.out F;clear S9;generalize ((JSt.start m fn g).upto (g.code.take z)).code x=C at E F |-;have aw:(C != 0)=true:=by simpa using F
   have CA:=Qa (QdM (f:=f) (b:=b) (i:=z) (w:=w9) ⟨by omega,by omega,by omega⟩);unfold Rd at CA;go_wp2_with fail
   refine CA.out.mono ?_;rintro a5 d ⟨rfl,K⟩;have L:Hid (Below o.heap.size o d):=U.out.trans (K.mono U.out.size);clear K U CA;generalize 10000*(f:Int)+100*(b:Int)+(z:Int)=I at E |-;have t:Hid (Blk d R #[Iv 0,Iv 0] 32):=Blk.below BR.out L.out;have r0:=Qb t.out 0 _ Z;have r1:=Qb t.out 1 _ Z;have z0:=Qj t.out 0;have z1:=Qj t.out 1;have J:Hid (Blk ((d.setCell ⟨R,0,none⟩ (Iv C)).setCell ⟨R,1,none⟩ (Iv I)) R #[Iv C,Iv I] 32):=Zu t.out _ _;have BL:Hid (Below w.heap.size w ((d.setCell ⟨R,0,none⟩ (Iv C)).setCell ⟨R,1,none⟩ (Iv I))):=((V.out.trans (L.out.mono V.out.size)).setCell G.out _).setCell G.out _;go_wp2_with fail
   generalize (d.setCell ⟨R,0,none⟩ (Iv C)).setCell ⟨R,1,none⟩ (Iv I)=av at J BL |-;have e0:=Qb J.out 0 _ Z;have e1:=Qb J.out 1 _ Z;exact Xy (v:=.agg #[Iv C,Iv I]) (by simp[results,results108,go_sem,e0,e1]) Z ⟨by rw[E.out],BL.out⟩
structure Qbu {α:Type}(A:Lay α) (e:TypeId) (w:World) (a0 lo:Nat) (v:Value) (l:List α) (xs:List Value):Prop where
 own:w.ownsRow lo e A.size v l.length xs
 kids:∀ (i:Nat) (x:α),l[i]?=some x->A.In w (fun g=>(g<a0\/lo<=g)/\v.ownBlock≠some g) x ((xs.drop (i*A.size)).take A.size)
section
variable {α:Type}{A:Lay α}{e:TypeId}{w w':World}{a0 lo:Nat}{v:Value}{l:List α}{xs:List Value}
theorem Qbu.nil (A:Lay α) (e:TypeId) (w:World) (a0 lo:Nat):Qbu A e w a0 lo (Nv) [] []:=⟨⟨by simp,Or.inl ⟨Z,Z⟩⟩,fun i x h=>by simp at h⟩
theorem Qbu.lo_le (h:Qbu A e w a0 lo v l xs)(a:v.ownBlock=some g):lo<=g/\g<w.heap.size:=by
 obtain⟨⟨j,c⟩,k⟩:=h
 rcases c with ⟨rfl,n⟩|⟨m,f,d,rfl,b,i,r⟩
 ·simp[Value.ownBlock] at a
 ·simp[Value.ownBlock] at a;subst a;exact⟨b,XC i⟩
theorem Qbu.form (h:Qbu A e w a0 lo v l xs):∃ a c,v=.slice a l.length c:=by
 obtain⟨⟨j,b⟩,k⟩:=h
 rcases b with ⟨rfl,f⟩|⟨g,i,d,rfl,r⟩
 ·exact⟨none,0,by rw[f]⟩
 ·exact⟨_,_,Z⟩
theorem Qbu.keep (h:Qbu A e w a0 lo v l xs) (c:∀ k,k<w.heap.size->(k<a0\/lo<=k)->w'.heap[k]?=w.heap[k]?):Qbu A e w' a0 lo v l xs:=by
 obtain⟨⟨m,n⟩,o⟩:=h
 refine⟨⟨m,?_⟩,fun i x j=>A.keep (fun k s q=>c k q s.1) (fun _ h _=>h) (o i x j)⟩
 rcases n with p | ⟨g,b,a,e,d,f,r⟩
 ·exact Or.inl p
 ·exact Or.inr ⟨g,b,a,e,d,(c g (XC f) (.inr d)).trans f,r⟩
theorem Qbu.below (h:Qbu A e w a0 lo v l xs) (b:Below w.heap.size w w'):Qbu A e w' a0 lo v l xs:=h.keep fun k a _=>b.block k a
theorem Qbu.setOther (h:Qbu A e w a0 lo v l xs){p:Addr}(a:a0<=p.block/\p.block<lo) (y:Value):Qbu A e (w.setCell p y) a0 lo v l xs :=
 h.keep fun k b c=>Xd _ _ _ _ (by omega)
theorem Qbu.lay (h:Qbu A e w a0 lo v l xs):A.list.In w (fun g=>g<a0\/lo<=g) l [v]:=by
 obtain⟨⟨z,s⟩,t⟩:=h
 rcases s with ⟨rfl,y⟩|⟨g,c,a,rfl,r,m,q,B,C,p⟩
 ·have:l=[]:=Xf.1 y
  subst this;exact Yg A _ _ _ _
 ·refine⟨some ⟨g,0,none⟩,c,Z,fun i x f=>⟨g,0,_,Z,.inr r,XC m,fun j o=>?_,Yc (t i x f) (fun k n _=>n.1)⟩⟩
  have u:i<l.length:=(Zi f).1
  have d:i*A.size+j<l.length*A.size:=by
   have:(i+1)*A.size<=l.length*A.size:=Xp _ u
   rw[Nat.add_mul] at this
   omega
  rw[XR,Xs o,List.getElem?_drop,<-p,XR,Xs d,XK]
  have b:i*A.size+j<a.size:=by
   have:l.length*A.size<=c*A.size:=Xp _ q
   omega
  rw[Array.getElem?_toList]
  exact(Qb m _ a[i*A.size+j] (Xj b)).trans (Xj b).symm
theorem Qbu.push (h:Qbu A e w a0 lo v l xs) (C:a0<=w.heap.size){x:α}(n:A.In w (fun g=>(g<a0\/lo<=g)/\v.ownBlock≠some g) x ds)
  (u:w.grownBy w' v.ownBlock) (j:v.ownBlock=some g\/g=w.heap.size)
 (B:w'.ownsRow lo e A.size (.slice (some ⟨g,0,none⟩) (l.length+1) cap) (l.length+1) (xs++ds)) :
 Qbu A e w' a0 lo (.slice (some ⟨g,0,none⟩) (l.length+1) cap) (l++[x]) (xs++ds):=by
 obtain⟨t,z⟩:=h
 have f:=t.1;have r:=A.len n
 have b:∀ {y:α} {es:List Value},A.In w (fun g=>(g<a0\/lo<=g)/\v.ownBlock≠some g) y es->A.In w' (fun m=>(m<a0\/lo<=m)/\(Value.slice (some ⟨g,0,none⟩) (l.length+1) cap).ownBlock≠some m) y es:=fun a=>by
  refine A.keep (fun k c q=>?_) (fun k c q=>⟨c.1,?_⟩) a
  ·exact u.block k q (fun e=>c.2 e.symm)
  ·simp only[Value.ownBlock,ne_eq,Option.some.injEq]
   intro e;subst e;rcases j with p | p
   ·exact c.2 p
   ·omega
 refine⟨by rw[List.length_append];exact B,fun i y a=>?_⟩
 rw[List.getElem?_append] at a
 split at a
 ·rename_i o
  have s:(i+1)*A.size<=l.length*A.size:=Xp _ o;rw[Nat.add_mul] at s
  have:=z i y a
  rw[List.drop_append_of_le_length (by omega),List.take_append_of_le_length (by simp;omega)]
  exact b this
 ·rename_i o
  have d:i=l.length:=by
   have:=(Zi a).1
   simp at this
   omega
  subst d;simp at a
  subst a;rw[List.drop_append,List.drop_of_length_le (by omega),<-f,Nat.sub_self,List.drop_zero,List.nil_append,XO (by omega)]
  exact b n
end
theorem QnQ {b:List Value}(h:b.all (·.oneCell')=true):∀ u∈b,u.oneCell'=true:=Xe.1 h
theorem ret_end :endL.In w O retE [Iv 3,Iv 0,Iv 0,Nv,Nv,Iv 0,Nv,Nv,Nv]:=by
 have a:intsL.In w O ([]:List Int) [Nv]:=Yg _ _ _ _ _;have b:toL.In w O (⟨0,[],[]⟩:MTo) [Iv 0,Nv,Nv]:=⟨[_],_,Z,⟨Z,by decide⟩,[_],_,Z,a,a⟩;exact⟨[_],_,Z,⟨Z,by simp[retE]⟩,[_],_,Z,⟨Z,by simp[retE]⟩,[_,_,_],_,Z,b,[_,_,_],_,Z,b,a⟩
theorem QiN {g:MBlock 6}{f:Option Addr}{e:Nat}(h:(Qp 6).In w O g.params [.slice f g.params.length e]) (i:-9223372036854775808<=g.regs/\g.regs<=9223372036854775807):(Zo 6).In w O g.outl [Iv g.regs,.slice f g.params.length e,Nv,Iv 3,Iv 0,Iv 0,Nv,Nv,Iv 0,Nv,Nv,Nv] :=
 QgB (x:=g.outl) (a:=f) (c:=e) (b:=none) (d:=0) h (Yg _ _ _ _ _) ret_end i
theorem QhZ {m:List (MBlock 6)}(h:(Zo 6).list.In w Q m [.slice p n c]){g:MBlock 6}(a:m[k]?=some g):-9223372036854775808<=g.regs/\g.regs<=9223372036854775807:=by
 obtain⟨s,x,t,r,u,l,z,d⟩:=Yf h a
 obtain⟨o,y,e,f,i,rfl,j,q,v,b⟩:=Qce d
 exact b
theorem Qgt {α β:Type}{f:α->β}{l:List α}{x:α}(h:l[k]?=some x):(l.take (k+1)).map f=(l.take k).map f++[f x]:=by
 rw[XV,h];simp
theorem Qh8 {m:List (MFunc 6)}(hm:(QaN 6).In w All m [.slice p m.length c]) (av:Qbe m) :
 Calls prog 107 #[.agg #[.slice p m.length c]] w fun e w'=>∃ a c',e=.returned (.agg #[.slice a m.length c'])/\(QaN 6).In w' All (outl m) [.slice a m.length c']/\Below w.heap.size w w':=by
 have HM:=Qa hm;have cc:=Qa av;have cm:m.length<=100000:=av.1;obtain⟨iB,cg,bq,bu,a9⟩:=pInfoB
 obtain⟨iF,ch,bn,bl,a6⟩:=pInfoF
 have b1:=Zd w (.cells #[.slice p m.length c] 24);have b2:=Zd (w.alloc (.cells #[.slice p m.length c] 24)) (.cells #[Nv] 24);have b3:=Zd ((w.alloc (.cells #[.slice p m.length c] 24)).alloc (.cells #[Nv] 24)) (.cells #[Nv] 24)
 have B0:Hid (Below w.heap.size w (((w.alloc (.cells #[.slice p m.length c] 24)).alloc (.cells #[Nv] 24)).alloc (.cells #[Nv] 24))):=by
  have h:=b2.trans (b3.mono b2.size);exact b1.trans (h.mono b1.size)
 have s1:(w.alloc (.cells #[.slice p m.length c] 24)).heap.size=w.heap.size+1:=World.size_alloc ..;have s2:((w.alloc (.cells #[.slice p m.length c] 24)).alloc (.cells #[Nv] 24)).heap.size=w.heap.size+1+1:=(World.size_alloc ..).trans (by rw[s1]);have s3:(((w.alloc (.cells #[.slice p m.length c] 24)).alloc (.cells #[Nv] 24)).alloc (.cells #[Nv] 24)).heap.size=w.heap.size+1+1+1:=(World.size_alloc ..).trans (by rw[s2])
 have BM:Hid (Blk (((w.alloc (.cells #[.slice p m.length c] 24)).alloc (.cells #[Nv] 24)).alloc (.cells #[Nv] 24)) w.heap.size #[.slice p m.length c] 24) :=
  Blk.below (Blk.below (Blk.new w #[.slice p m.length c] 24) b2) b3
 have BR:Hid (Blk (((w.alloc (.cells #[.slice p m.length c] 24)).alloc (.cells #[Nv] 24)).alloc (.cells #[Nv] 24)) (w.heap.size+1) #[Nv] 24):=by
  have:=Blk.below (Blk.new (w.alloc (.cells #[.slice p m.length c] 24)) #[Nv] 24) b3
  rw[s1] at this
  exact this
 have BO:Hid (Blk (((w.alloc (.cells #[.slice p m.length c] 24)).alloc (.cells #[Nv] 24)).alloc (.cells #[Nv] 24)) (w.heap.size+1+1) #[Nv] 24):=by
  have:=Blk.new ((w.alloc (.cells #[.slice p m.length c] 24)).alloc (.cells #[Nv] 24)) #[Nv] 24
  rw[s2] at this
  exact this
 have ax:=Qa s3;clear b1 b2 b3 s1 s2 s3 hm av;go_enter func107,ntmps107
 go_upto_region 2 with fail
 generalize ((w.alloc (.cells #[.slice p m.length c] 24)).alloc (.cells #[Nv] 24)).alloc (.cells #[Nv] 24)=D at B0 BM BR BO ax |-;obtain⟨X,hX⟩:∃ X,X=w.heap.size:=⟨_,Z⟩
 obtain⟨R,hR⟩:∃ R,R=X+1:=⟨_,Z⟩
 obtain⟨t,be⟩:∃ t,t=R+1:=⟨_,Z⟩
 have Q:Hid (w.heap.size<=R/\R<t/\t<D.heap.size):=by have:=ax.out;exact⟨by omega,by omega,by omega⟩
 rw[<-hX] at BM BR BO |-
 rw[<-hR] at BR BO |-
 rw[<-be] at BO |-
 clear hX hR be ax;have x0:=Qb BM.out 0 _ Z;go_wp2_with fail
 clear x0;go_loopw [13] (fun i wr=>∃ (k:Nat) (v:Value) (C:List Value),k<=m.length/\i=Iv k/\Blk wr t #[v] 24/\Qbu (ZS 6) 89 wr w.heap.size D.heap.size v ((m.take k).map MFunc.outl) C/\Chg t D wr) (fun i _=>m.length - (intOf i).toNat)
 case atStart=>exact⟨0,_,[],Xb _,Z,BO.out,Qbu.nil _ _ _ _ _,Chg.refl _ _⟩
 case round =>
  obtain⟨k,vF,cF,hk,rfl,a7,s,aw⟩:=hrel
  obtain⟨l,ca⟩:∃ l,l=wr:=⟨_,Z⟩
  subst ca;have ay:=Qa a7;have ak:=Qa aw;have N:=Qa s;have F:Hid (Below w.heap.size w l):=Chg.last B0.out aw (by have:=Q.out;omega) B0.out.size;obtain⟨o,d,bv⟩:=s.form
  have ae:((m.take k).map MFunc.outl).length=k:=by simp;omega
  rw[ae] at bv
  subst bv;clear a7 s aw BO;by_cases bz:k<m.length
  rotate_left
  ·have bh:¬ (k:Int)<m.length:=by omega
   have a4:k=m.length:=by omega
   have y0:=Qb ay.out 0 _ Z;have az:Hid (Blk l R #[Nv] 24):=BR.out.chg ak.out (by have:=Q.out;omega);have r0:=Qb az.out 0 _ Z;have z0:=Qj az.out 0
   have RB:Hid (Blk (l.setCell ⟨R,0,none⟩ (.slice o k d)) R #[.slice o k d] 24):=by
    have h9:Blk (l.setCell ⟨R,0,none⟩ (.slice o k d)) R #[.slice o k d] 24:=by
     have:=Qh az.out 0 (.slice o k d)
     simpa using this
    exact h9
   have BL:Hid (Below w.heap.size w (l.setCell ⟨R,0,none⟩ (.slice o k d))):=F.out.setCell Q.out.1 _
   have LY:Hid ((QaN 6).In (l.setCell ⟨R,0,none⟩ (.slice o k d)) All (outl m) [.slice o k d]):=by
    have h:=(N.out.setOther (p:=⟨R,0,none⟩) (by have:=Q.out;exact⟨this.1,by show R<_;omega⟩) (.slice o k d)).lay;rw[XO (by omega)] at h
    exact Yc h (fun _ _ _=>trivial)
   have bp:=Qa a4;clear a4 ae;go_wp2_with fail
   generalize l.setCell ⟨R,0,none⟩ (.slice o k d)=cn at RB BL LY |-;have e0:=Qb RB.out 0 _ Z;exact Xy (v:=.agg #[.slice o k d]) (by simp[results,results107,go_sem,e0]) Z ⟨o,d,by rw[bp.out],by rw[<-bp.out];exact LY.out,BL.out⟩
  have bh:(k:Int)<m.length:=by omega
  have ac:m[k]?=some m[k]:=Zg bz;generalize m[k]=f at ac;have cb:=Qa ac;obtain⟨mg,mo,ds,rfl,-,-,af,bb⟩:=Yf HM.out ac
  obtain⟨z,B,E,A,S,d3,rfl,aq,ap,bt,br⟩:=Qas bb
  have v0:l.cell? ⟨mg,mo+k*4,none⟩=some (Iv f.regs):=Qk (show w.cell? ⟨mg,mo+k*4,none⟩=_ from af 0 (by decide)) F.out;have v1:l.cell? ⟨mg,mo+k*4+1,none⟩=some (.slice z f.params.length B):=Qk (show w.cell? ⟨mg,mo+k*4+1,none⟩=_ from af 1 (by decide)) F.out;have v2:l.cell? ⟨mg,mo+k*4+2,none⟩=some (.slice E f.results.length A):=Qk (show w.cell? ⟨mg,mo+k*4+2,none⟩=_ from af 2 (by decide)) F.out;have v3:l.cell? ⟨mg,mo+k*4+3,none⟩=some (.slice S f.blocks.length d3):=Qk (show w.cell? ⟨mg,mo+k*4+3,none⟩=_ from af 3 (by decide)) F.out;have bk:Hid ((Qp 6).In w (fun g=>g<w.heap.size) f.params [.slice z f.params.length B]):=Yc aq (fun k _ M=>M);have bo:Hid ((Qp 6).In w (fun g=>g<w.heap.size) f.results [.slice E f.results.length A]):=Yc ap (fun k _ M=>M);have bd:Hid ((Zo 6).list.In w (fun g=>g<w.heap.size) f.blocks [.slice S f.blocks.length d3]):=Yc bt (fun k _ M=>M);have cd:=Qa br;have cl:f.blocks.length<=100000:=(cc.out.2 f (Zm ac)).1;have b5:=Zd l (.cells #[Iv f.regs,.slice z f.params.length B,.slice E f.results.length A,.slice S f.blocks.length d3] 89);have BF:Hid (Blk (l.alloc (.cells #[Iv f.regs,.slice z f.params.length B,.slice E f.results.length A,.slice S f.blocks.length d3] 89)) l.heap.size #[Iv f.regs,.slice z f.params.length B,.slice E f.results.length A,.slice S f.blocks.length d3] 89):=Blk.new _ _ _;have bi:Hid (Blk (l.alloc (.cells #[Iv f.regs,.slice z f.params.length B,.slice E f.results.length A,.slice S f.blocks.length d3] 89)) t #[.slice o k d] 24):=ay.out.below b5;have bx:Hid (Qbu (ZS 6) 89 (l.alloc (.cells #[Iv f.regs,.slice z f.params.length B,.slice E f.results.length A,.slice S f.blocks.length d3] 89)) w.heap.size D.heap.size (.slice o k d) ((m.take k).map MFunc.outl) cF):=N.out.below b5;have a5:Hid (Chg t D (l.alloc (.cells #[Iv f.regs,.slice z f.params.length B,.slice E f.results.length A,.slice S f.blocks.length d3] 89))):=ak.out.allocP _;have G:Hid (Below w.heap.size w (l.alloc (.cells #[Iv f.regs,.slice z f.params.length B,.slice E f.results.length A,.slice S f.blocks.length d3] 89))):=F.out.trans (b5.mono F.out.size);have b9:Hid (∀ g,(Value.slice o k d).ownBlock=some g->D.heap.size<=g/\g<l.heap.size):=fun g hg=>N.out.lo_le hg;have S5:Hid (l.heap.size<(l.alloc (.cells #[Iv f.regs,.slice z f.params.length B,.slice E f.results.length A,.slice S f.blocks.length d3] 89)).heap.size):=BF.out.lt;have S1:Hid (D.heap.size<=l.heap.size):=ak.out.size;clear af bb aq ap bt br b5 ay N ak F ac;go_upto_region 5 with fail
  generalize l.alloc (.cells #[Iv f.regs,.slice z f.params.length B,.slice E f.results.length A,.slice S f.blocks.length d3] 89)=L at BF bi bx a5 G S5 |-;generalize l.heap.size=XF at BF S5 b9 S1 |-;clear v0 v1 v2 v3;have t3:=Qb BF.out 3 _ Z;go_wp2_with fail
  clear t3;go_loopw [6,20] (fun v u wq=>∃ (q:Nat) (C:List Value),q<=f.blocks.length/\u=Iv q/\Qbu (Zo 6) 86 wq w.heap.size L.heap.size v ((f.blocks.take q).map MBlock.outl) C/\Below L.heap.size L wq) (fun _ u _=>f.blocks.length - (intOf u).toNat)
  case atStart=>exact⟨0,[],Xb _,Z,Qbu.nil _ _ _ _ _,Zr⟩
  case round =>
   obtain⟨q,cB,hq,rfl,s,bw⟩:=hrel
   obtain⟨wq,cj⟩:∃ wq,wq=wr:=⟨_,Z⟩
   subst cj;have an:=Qa s;have BQ:=Qa bw;obtain⟨W,T,bf⟩:=s.form
   have aj:((f.blocks.take q).map MBlock.outl).length=q:=by simp;omega
   rw[aj] at bf
   subst bf;clear s bw;by_cases bm:q<f.blocks.length
   rotate_left
   ·have ar:¬ (q:Int)<f.blocks.length:=by omega
    have ci:q=f.blocks.length:=by omega
    subst ci;have al:Hid (Blk wq t #[.slice o k d] 24):=bi.out.below BQ.out;have am:Hid (Blk wq XF #[Iv f.regs,.slice z f.params.length B,.slice E f.results.length A,.slice S f.blocks.length d3] 89):=BF.out.below BQ.out;have a0:Hid (Qbu (ZS 6) 89 wq w.heap.size D.heap.size (.slice o k d) ((m.take k).map MFunc.outl) cF):=bx.out.below BQ.out;have a2:Hid (Chg t D wq):=a5.out.trans (Chg.below BQ.out);have I:Hid (Below w.heap.size w wq):=G.out.trans (BQ.out.mono G.out.size)
    have FN:Hid ((ZS 6).In wq (fun g=>(g<w.heap.size\/D.heap.size<=g)/\(Value.slice o k d).ownBlock≠some g) f.outl [Iv f.regs,.slice z f.params.length B,.slice E f.results.length A,.slice W f.blocks.length T]):=by
     have o1:=b9.out;have o2:=S5.out;have o3:=Q.out;have o4:=S1.out;have bg:f.outl.blocks.length=f.blocks.length:=Qgp f;have hb:=an.out.lay;rw[XO Ze] at hb
     have ce:(Zo 6).list.In wq (fun g=>(g<w.heap.size\/D.heap.size<=g)/\(Value.slice o k d).ownBlock≠some g) f.outl.blocks [.slice W f.outl.blocks.length T]:=by
      rw[bg]
      exact Yc hb (fun j hj M=>⟨by rcases hj with hj | hj;exact .inl hj;exact .inr (by omega),fun e=>by have:=o1 j e;rcases hj with hj | hj<;>omega⟩)
     have:=Qjd (x:=f.outl) (Yc (Ya bk.out I.out) (fun j hj M=>⟨.inl hj,fun e=>by have:=o1 j e;omega⟩)) (Yc (Ya bo.out I.out) (fun j hj M=>⟨.inl hj,fun e=>by have:=o1 j e;omega⟩)) ce cd.out
     rw[bg] at this
     exact this
    have H:Hid (wq.ownsRow D.heap.size 89 4 (.slice o k d) k cF):=by
     have:=a0.out.own
     rw[ae] at this
     exact this
    have PU:Hid (∀ g n y,y.ownsRow D.heap.size 89 4 (.slice (some ⟨g,0,none⟩) (k+1) n) (k+1) (cF++[Iv f.regs,.slice z f.params.length B,.slice E f.results.length A,.slice W f.blocks.length T])->(wq.alloc (.cells #[Iv f.regs,.slice z f.params.length B,.slice E f.results.length A,.slice W f.blocks.length T] 89)).grownBy y (Value.slice o k d).ownBlock->((Value.slice o k d).ownBlock=some g\/g=wq.heap.size+1) ->
     Qbu (ZS 6) 89 (y.setCell ⟨t,0,none⟩ (.slice (some ⟨g,0,none⟩) (k+1) n)) w.heap.size D.heap.size (.slice (some ⟨g,0,none⟩) (k+1) n) ((m.take (k+1)).map MFunc.outl) (cF++[Iv f.regs,.slice z f.params.length B,.slice E f.results.length A,.slice W f.blocks.length T])/\Blk y t #[.slice o k d] 24/\Chg t D (y.setCell ⟨t,0,none⟩ (.slice (some ⟨g,0,none⟩) (k+1) n))/\Blk (y.setCell ⟨t,0,none⟩ (.slice (some ⟨g,0,none⟩) (k+1) n)) t #[.slice (some ⟨g,0,none⟩) (k+1) n] 24):=by
     intro g n y h1 h2 h3;have b6:Below wq.heap.size wq (wq.alloc (.cells #[Iv f.regs,.slice z f.params.length B,.slice E f.results.length A,.slice W f.blocks.length T] 89)):=Zd _ _;have A5:=a0.out.below b6;have T5:=Ya FN.out b6;have o3:=Q.out;have A9:=Qbu.push A5 (by have:=(I.out.trans (b6.mono I.out.size)).size;exact this) T5 h2 (by simpa using h3) (by rw[ae];exact h1);rw[ae,<-Qgt cb.out] at A9
     have C9:Chg t D y:=Chg.grownP (a2.out.trans (Chg.below b6)) h2 (fun k hk=>(A5.lo_le hk).1);have K9:Blk y t #[.slice o k d] 24:=((h2.block t (Zl al.out.lt b6.size) (fun e=>by have:=(A5.lo_le e.symm).1;omega)).trans (al.out.below b6));refine⟨A9.setOther ⟨by show w.heap.size<=t;omega,by show t<_;omega⟩ _,K9,C9.trans (Chg.set _ _ _ K9.lt),?_⟩
     have:=Qh K9 0 (.slice (some ⟨g,0,none⟩) (k+1) n)
     simpa using this
    have ck:D.heap.size<=wq.heap.size:=a2.out.size;have y0:=Qb al.out 0 _ Z;have f0:=Qb am.out 0 _ Z;have f1:=Qb am.out 1 _ Z;have f2:=Qb am.out 2 _ Z;clear al am a0 a2 I FN an BQ;generalize f.params.length=lp at PU f1 |-;generalize f.results.length=lr at PU f2 |-;generalize f.blocks.length=lb at PU ar f0 f1 f2 |-;generalize f.regs=rr at PU f0 |-;go_wp2_with (at_builtin;refine wpList_append_lies _ Z (.tmp 35) (.tmp 44) 22 Z D.heap.size 89 iF (.agg #[Iv 0,Nv,Nv,Nv]) 4 80 pUnderF ch bn bl a6 Z (by decide) _ _ _ Z (H.out.alloc _) ⟨wq.heap.size,0,none⟩ 1 1 [Iv rr,.slice z lp B,.slice E lr A,.slice W lb T] Z Z (QjN _ [_,_,_,_] _) (QnQ Z) (by decide) (by unfold maxLen;omega) (by omega) (by simp;omega) (wq.heap.size+1) (by simp) ?_)
    intro g2 aa y h1 r ab ad;obtain⟨q1,q2,q3,q4⟩:=PU.out g2 aa y h1 r ab
    have A9:=Qa q1;have K9:=Qa q2;have C9:=Qa q3;have N9:=Qa q4;have y9:=Qb q2 0 _ Z;have z9:=Qj q2 0;clear h1 r ab ad H PU q1 q2 q3 q4 y0 f0 f1 f2;go_wp2
    go_roundw
    case rel=>exact⟨k+1,_,_,bz,by go_num,N9.out,A9.out,C9.out⟩
    case measure=>simp[intOf];omega
   have ar:(q:Int)<f.blocks.length:=by omega
   have ag:f.blocks[q]?=some f.blocks[q]:=Zg bm;generalize f.blocks[q]=g at ag;have cf:=Qa ag;have a8:=Qa (QhZ bd.out ag);obtain⟨eg,eo,V,U,es,rfl,K,b0,bj,ao⟩:=Qbn bd.out ag
   have b4:=Qa bj;have I:Hid (Below w.heap.size w wq):=G.out.trans (BQ.out.mono G.out.size);have au:Hid (wq.rangeAt eg (eo+q*12) (Value.int .i64 g.regs::Value.slice V g.params.length U::es)):=Z3 K I.out;generalize ah:(Value.int .i64 g.regs::Value.slice V g.params.length U::es)=C at au;have M:C.length=12:=by rw[<-ah];simp[b0]
   have TS:Hid ((prog.info? 86).map (·.size)=some C.length):=by show _=_;rw[M];exact pSizeB
   have TH:Hid ((wq.alloc (.cells #[Iv 0,Nv,Nv,Iv 0,Iv 0,Iv 0,Nv,Nv,Iv 0,Nv,Nv,Nv] 86)).there wq.heap.size 0 C.toArray.size):=by
    intro j hj;rw[List.size_toArray,M] at hj
    rw[XK]
    have hB:=Qe wq #[Iv 0,Nv,Nv,Iv 0,Iv 0,Iv 0,Nv,Nv,Iv 0,Nv,Nv,Nv] 86;refine⟨?_,Qj hB j⟩
    rw[Qb hB j ((#[Iv 0,Nv,Nv,Iv 0,Iv 0,Iv 0,Nv,Nv,Iv 0,Nv,Nv,Nv]:Array Value)[j]'hj) (by simp)];rfl
   have bs:Hid ((prog.info? 86).map (·.size)=some C.toArray.size):=by show _=_;rw[List.size_toArray];exact TS.out
   have TO:Hid (C.toArray.all (·.oneCell')=true):=by
    refine all_oneCell_toArray fun v hv=>?_;rw[<-ah] at hv
    rcases List.mem_cons.1 hv with rfl | hv
    ·rfl
    rcases List.mem_cons.1 hv with rfl | hv
    ·rfl
    exact ao v hv
   have B6:Hid (Blk ((wq.alloc (.cells #[Iv 0,Nv,Nv,Iv 0,Iv 0,Iv 0,Nv,Nv,Iv 0,Nv,Nv,Nv] 86)).setCells wq.heap.size 0 C.toArray.toList) wq.heap.size (Value.int .i64 g.regs::Value.slice V g.params.length U::es).toArray 86):=by
    have h0:Blk (wq.alloc (.cells #[Iv 0,Nv,Nv,Iv 0,Iv 0,Iv 0,Nv,Nv,Iv 0,Nv,Nv,Nv] 86)) wq.heap.size ([]++(#[Iv 0,Nv,Nv,Iv 0,Iv 0,Iv 0,Nv,Nv,Iv 0,Nv,Nv,Nv]:Array Value).toList).toArray 86:=Qe wq _ _;rw[ah]
    exact Blk.sets C [] (#[Iv 0,Nv,Nv,Iv 0,Iv 0,Iv 0,Nv,Nv,Iv 0,Nv,Nv,Nv]:Array Value).toList _ (by rw[M];rfl) h0
   have b6:Hid (Below wq.heap.size wq ((wq.alloc (.cells #[Iv 0,Nv,Nv,Iv 0,Iv 0,Iv 0,Nv,Nv,Iv 0,Nv,Nv,Nv] 86)).setCells wq.heap.size 0 C.toArray.toList)):=by
    have:=Qz.setCells (O:=fun k=>k=wq.heap.size) (O':=fun k=>k=wq.heap.size) (b:=wq.heap.size) Z C.toArray.toList 0 _ (Qz.refl _ (wq.alloc (.cells #[Iv 0,Nv,Nv,Iv 0,Iv 0,Iv 0,Nv,Nv,Iv 0,Nv,Nv,Nv] 86)))
    exact(Zd wq _).trans (this.below (by simp) (fun k hk=>by omega))
   clear M ah K b0 bj ao ag;go_upto_region 9 with (first | (refine wpList_load_mid Z 86 (.tmp 22) Z eg (eo+q*12) Z C _ au.out underlying86 Z TS.out ?_) | (refine wpList_store_mid Z 86 (.tmp 8) (.tmp 23) Z wq.heap.size 0 C.toArray Z Z TH.out bs.out TO.out ?_))
   have B7:Hid (Blk ((wq.alloc (.cells #[Iv 0,Nv,Nv,Iv 0,Iv 0,Iv 0,Nv,Nv,Iv 0,Nv,Nv,Nv] 86)).setCells wq.heap.size 0 C) wq.heap.size (Value.int .i64 g.regs::Value.slice V g.params.length U::es).toArray 86):=B6.out;have b7:Hid (Below wq.heap.size wq ((wq.alloc (.cells #[Iv 0,Nv,Nv,Iv 0,Iv 0,Iv 0,Nv,Nv,Iv 0,Nv,Nv,Nv] 86)).setCells wq.heap.size 0 C)):=b6.out;clear B6 b6 TH TS bs TO au;generalize (wq.alloc (.cells #[Iv 0,Nv,Nv,Iv 0,Iv 0,Iv 0,Nv,Nv,Iv 0,Nv,Nv,Nv] 86)).setCells wq.heap.size 0 C=J at B7 b7 |-;have ai:Hid (Qbu (Zo 6) 86 J w.heap.size L.heap.size (.slice W q T) ((f.blocks.take q).map MBlock.outl) cB):=an.out.below b7.out;have P:Hid (Below L.heap.size L J):=BQ.out.trans (b7.out.mono BQ.out.size);generalize wq.heap.size=Bx at B7 b7 |-;have g0:J.cell? ⟨Bx,0,none⟩=some (Iv g.regs):=Qb B7.out 0 _ Z;have g1:J.cell? ⟨Bx,1,none⟩=some (.slice V g.params.length U):=Qb B7.out 1 _ Z
   have H:Hid (J.ownsRow L.heap.size 86 12 (.slice W q T) q cB):=by
    have:=ai.out.own
    rw[aj] at this
    exact this
   have PU:Hid (∀ gg n y,y.ownsRow L.heap.size 86 12 (.slice (some ⟨gg,0,none⟩) (q+1) n) (q+1) (cB++[Iv g.regs,.slice V g.params.length U,Nv,Iv 3,Iv 0,Iv 0,Nv,Nv,Iv 0,Nv,Nv,Nv])->(J.alloc (.cells #[Iv g.regs,.slice V g.params.length U,Nv,Iv 3,Iv 0,Iv 0,Nv,Nv,Iv 0,Nv,Nv,Nv] 86)).grownBy y (Value.slice W q T).ownBlock->((Value.slice W q T).ownBlock=some gg\/gg=J.heap.size+1) ->
    Qbu (Zo 6) 86 y w.heap.size L.heap.size (.slice (some ⟨gg,0,none⟩) (q+1) n) ((f.blocks.take (q+1)).map MBlock.outl) (cB++[Iv g.regs,.slice V g.params.length U,Nv,Iv 3,Iv 0,Iv 0,Nv,Nv,Iv 0,Nv,Nv,Nv])/\Below L.heap.size L y):=by
    intro gg n y h1 h2 h3;have b8:Below J.heap.size J (J.alloc (.cells #[Iv g.regs,.slice V g.params.length U,Nv,Iv 3,Iv 0,Iv 0,Nv,Nv,Iv 0,Nv,Nv,Nv] 86)):=Zd _ _;have A5:=ai.out.below b8;have a3:Below w.heap.size w J:=G.out.trans (P.out.mono G.out.size);have o5:=G.out.size
    have T5:(Zo 6).In (J.alloc (.cells #[Iv g.regs,.slice V g.params.length U,Nv,Iv 3,Iv 0,Iv 0,Nv,Nv,Iv 0,Nv,Nv,Nv] 86)) (fun k=>(k<w.heap.size\/L.heap.size<=k)/\(Value.slice W q T).ownBlock≠some k) g.outl [Iv g.regs,.slice V g.params.length U,Nv,Iv 3,Iv 0,Iv 0,Nv,Nv,Iv 0,Nv,Nv,Nv] :=
     Ya (QiN (Yc (Ya b4.out a3) (fun j hj M=>⟨.inl hj,fun e=>by have:=(ai.out.lo_le e).1;omega⟩)) a8.out) b8
    have A9:=Qbu.push A5 ((a3.trans (b8.mono a3.size)).size) T5 h2 (by simpa using h3) (by rw[aj];exact h1);rw[aj,<-Qgt cf.out] at A9
    exact⟨A9,(P.out.trans (b8.mono P.out.size)).grown h2 (Zt P.out.size b8.size) (fun k hk=>(A5.lo_le hk).1)⟩
   have ck:L.heap.size<=J.heap.size:=P.out.size;clear B7 b7 ai P an BQ I b4 a8;generalize g.params.length=lp at PU g1 |-;generalize g.regs=rr at PU g0 |-;go_wp2_with (at_builtin;refine wpList_append_lies _ Z (.tmp 24) (.tmp 31) 87 Z L.heap.size 86 iB (.agg #[Iv 0,Nv,Nv,Iv 0,Iv 0,Iv 0,Nv,Nv,Iv 0,Nv,Nv,Nv]) 12 208 pUnderB cg bq bu a9 Z (by decide) _ _ _ Z (H.out.alloc _) ⟨J.heap.size,0,none⟩ 1 1 [Iv rr,.slice V lp U,Nv,Iv 3,Iv 0,Iv 0,Nv,Nv,Iv 0,Nv,Nv,Nv] Z Z (QjN _ [_,_,_,_,_,_,_,_,_,_,_,_] _) (QnQ Z) (by decide) (by unfold maxLen;omega) (by omega) (by simp;omega) (J.heap.size+1) (by simp) ?_)
   intro g2 aa y h1 r ab ad;obtain⟨q1,q2⟩:=PU.out g2 aa y h1 r ab
   have A9:=Qa q1;have C9:=Qa q2;clear h1 r ab ad H PU q1 q2 g0 g1;go_wp2
   go_roundw
   case rel=>exact⟨q+1,_,bm,by go_num,A9.out,C9.out⟩
   case measure=>simp[intOf];omega
def QcT (n:Nat):Lay (MBlock n):=(Lay.int.pair ((Qp n).pair (insC.list.pair endL))).via (fun x=>(x.regs,x.params,x.code,x.fin))
def QlL (n:Nat):Lay (MFunc n):=(Lay.int.pair ((Qp n).pair ((Qp n).pair (QcT n).list))).via (fun x=>(x.regs,x.params,x.results,x.blocks))
abbrev QjP (n:Nat):Lay (List (MFunc n)):=(QlL n).list
theorem Qhg (n:Nat):Lay.Sub (QcT n) (Zo n):=.via (.pair (.refl _) (.pair (.refl _) (.pair (.list ins_sub) (.refl _)))) _
theorem Qjw (n:Nat):Lay.Sub (QlL n) (ZS n):=.via (.pair (.refl _) (.pair (.refl _) (.pair (.refl _) (.list (Qhg n))))) _
theorem QbI (n:Nat):Lay.Sub (QjP n) (QaN n):=.list (Qjw n)
theorem Qhw (n:Nat):Lay.Sub (Qbh n) (QcT n):=.via (.pair (.refl _) (.pair (.refl _) (.pair (.refl _) end_sub))) _
theorem QiC (n:Nat):Lay.Sub (QeD n) (QlL n):=.via (.pair (.refl _) (.pair (.refl _) (.pair (.refl _) (.list (Qhw n))))) _
theorem Qgm (n:Nat):Lay.Sub (QhH n) (QjP n):=.list (QiC n)
section
variable {w:World}{O:Nat->Prop}{n:Nat}
theorem QhE {x:Qs}{b:Option Addr}(g:intsC.In w O x.regs [.slice a x.regs.length c]) (f:intsC.In w O x.args [.slice b x.args.length d]) (e:I64 x.op/\I64 x.a/\I64 x.b/\I64 x.c/\I64 x.k/\I64 x.n):insC.In w O x [Iv x.op,Iv x.a,Iv x.b,Iv x.c,Iv x.k,Iv x.n,.slice a x.regs.length c,.slice b x.args.length d] :=
 ⟨[_],_,Z,⟨Z,e.1⟩,[_],_,Z,⟨Z,e.2.1⟩,[_],_,Z,⟨Z,e.2.2.1⟩,[_],_,Z,⟨Z,e.2.2.2.1⟩,[_],_,Z,⟨Z,e.2.2.2.2.1⟩,[_],_,Z,⟨Z,e.2.2.2.2.2⟩,[_],_,Z,g,f⟩
end
theorem XI:type_of% @Below.setCell:=@Below.setCell
theorem Qe5 {m:List (MBlock 6)}(h:(QcT 6).list.In w Q m [.slice p n c]){g:MBlock 6}(o:m[k]?=some g) :
 ∃ mg mo a1 c1 a2 c2 e,p=some ⟨mg,mo,none⟩/\w.rangeAt mg (mo+k*12) (Iv g.regs::.slice a1 g.params.length c1::.slice a2 g.code.length c2::(QbW g.fin e).toList)/\insC.list.In w Q g.code [.slice a2 g.code.length c2]/\Qdq w Q g.fin e/\(-9223372036854775808<=g.fin.a/\g.fin.a<=9223372036854775807):=by
 obtain⟨mg,mo,x,q,u,t,s,_,_,rfl,⟨rfl,_⟩,_,_,rfl,l,_,_,rfl,d,r⟩:=Yf h o
 obtain⟨a1,c1,rfl,l⟩:=QK l
 obtain⟨a2,c2,rfl,d⟩:=QK d
 obtain⟨e,rfl,b⟩:=Qev r
 refine⟨mg,mo,a1,c1,a2,c2,e,q,fun j v i=>?_,d,⟨b.yes.regs,b.yes.args,b.no.regs,b.no.args,b.args⟩,b.bnd.2⟩
 have f:j<12:=(Zi i).1
 have:=s j f
 rw[show (QcT 6).size=12 from Z] at this
 rw[this]
 exact i
structure VcS (w wr:World) (X R A4:Nat) (pm pa:Option Addr) (cm ca:Nat) (m:List (MFunc 6)):Prop where
 bel:Below w.heap.size w wr
 x:Blk wr X #[.slice pm m.length cm] 24
 r:Blk wr R #[Iv 0,Iv 0] 32
 a:Blk wr A4 #[.slice pa m.length ca] 24
 om:(QaN 6).In wr All (outl m) [.slice pa m.length ca]
theorem VcS.below {wr:World}{b:Nat}{m:List (MFunc 6)}(h:VcS w wr X R b pm pa cm ca m) (k:Below wr.heap.size wr w'):VcS w w' X R b pm pa cm ca m :=
 ⟨h.bel.trans (k.mono h.bel.size),h.x.below k,h.r.below k,h.a.below k,Ya h.om k⟩
theorem Qcm {m:List (MFunc n)}(J:(QaN n).In w All m [.slice p m.length c]) (r:Qbe m) (d:(modFault m).1≠0) :
 Calls prog 66 #[.agg #[.slice p m.length c]] w fun e w'=>e=.returned (QG (modFault m))/\Below w.heap.size w w':=by
 have N:=Qa J;have A:=Qa r;have C:=Zd w (.cells #[.slice p m.length c] 24);have h:=Zd (w.alloc (.cells #[.slice p m.length c] 24)) (.cells #[Iv 0,Iv 0] 32);have s:Hid (Below w.heap.size w ((w.alloc (.cells #[.slice p m.length c] 24)).alloc (.cells #[Iv 0,Iv 0] 32))):=C.trans (h.mono C.size);have o:Hid (Blk ((w.alloc (.cells #[.slice p m.length c] 24)).alloc (.cells #[Iv 0,Iv 0] 32)) w.heap.size #[.slice p m.length c] 24):=Blk.new1 ..;have q:Hid (Blk ((w.alloc (.cells #[.slice p m.length c] 24)).alloc (.cells #[Iv 0,Iv 0] 32)) (w.heap.size+1) #[Iv 0,Iv 0] 32):=Blk.new2 ..;clear C h J r;go_enter func66,ntmps66
 go_upto_region 1 with fail
 generalize (w.alloc (.cells #[.slice p m.length c] 24)).alloc (.cells #[Iv 0,Iv 0] 32)=Q at s o q |-;obtain⟨X,I⟩:∃ X,X=w.heap.size:=⟨_,Z⟩
 obtain⟨R,G⟩:∃ R,R=X+1:=⟨_,Z⟩
 have k:Hid (w.heap.size<=R):=by show _<=_;omega
 rw[<-I] at o q |-
 rw[<-G] at q |-
 clear I G;have M:=Qb o.out 0 _ Z;have z:=Qa (Qb4 (Ya N.out s.out) A.out);unfold Rd at z;go_wp2_with fail
 refine z.out.mono ?_;rintro T f ⟨rfl,h⟩;obtain⟨a,b,g⟩:∃ a b,modFault m=(a,b):=⟨_,_,Z⟩
 have l:Hid (modFault m=(a,b)):=g;rw[g]
 clear g;have u:=h.trans ((Zd f (.cells #[Iv a,Iv b] 32)).mono h.size);have D:Hid (Blk (f.alloc (.cells #[Iv a,Iv b] 32)) X #[.slice p m.length c] 24):=o.out.below u;have t:Hid (Blk (f.alloc (.cells #[Iv a,Iv b] 32)) R #[Iv 0,Iv 0] 32):=q.out.below u;have j:Hid (Below w.heap.size w (f.alloc (.cells #[Iv a,Iv b] 32))):=s.out.trans (u.mono s.out.size);have x:Hid (Blk (f.alloc (.cells #[Iv a,Iv b] 32)) f.heap.size #[Iv a,Iv b] 32):=Blk.new _ _ _;simp only[QG]
 clear h u z M o q s;go_upto_region 2 with fail
 generalize f.alloc (.cells #[Iv a,Iv b] 32)=y at D t j x |-;generalize f.heap.size=P at x |-
 have H:(a != 0)=true:=by
  have:a≠0:=by rw[l.out] at d;exact d
  simpa using this
 clear d;have W:=Qb x.out 0 _ Z;have f1:=Qb x.out 1 _ Z;have E:Hid (modFault m=(a,b)):=l.out;have i:Hid (Blk y R #[Iv 0,Iv 0] 32):=t.out;have r0:=Qb i.out 0 _ Z;have S:=Qb i.out 1 _ Z;have U:=Qj i.out 0;have V:=Qj i.out 1;have B:Hid (Blk ((y.setCell ⟨R,0,none⟩ (Iv a)).setCell ⟨R,1,none⟩ (Iv b)) R #[Iv a,Iv b] 32):=Zu i.out _ _;have F:Hid (Below w.heap.size w ((y.setCell ⟨R,0,none⟩ (Iv a)).setCell ⟨R,1,none⟩ (Iv b))):=(XI j.out (p:=⟨R,0,none⟩) k.out _).setCell (p:=⟨R,1,none⟩) k.out _;go_wp2_with fail
 generalize (y.setCell ⟨R,0,none⟩ (Iv a)).setCell ⟨R,1,none⟩ (Iv b)=O at B F |-;have L:=Qb B.out 0 _ Z;have K:=Qb B.out 1 _ Z;exact Xy (v:=.agg #[Iv a,Iv b]) (by simp[results,results66,go_sem,L,K]) Z ⟨by rw[E.out],F.out⟩
theorem QbZ {m:List (MFunc 6)}(hm:(QjP 6).In w All m [.slice p m.length c]) (ad:Qbe m) (au:(modFault m).1=0->¬ Qm m) :
 Calls prog 66 #[.agg #[.slice p m.length c]] w fun e w'=>e=.returned (QG (Qq m))/\Below w.heap.size w w':=by
 by_cases hz:(modFault m).1=0
 rotate_left
 ·have e:Qq m=modFault m:=by unfold Qq;rw[Xs hz]
  rw[e]
  exact Qcm ((QbI 6).2 hm) ad hz
 have hg:=au hz;have HM:=Qa hm;have an:=Qa ad;have HG:=Qa hg;have af:=Qa hz;have be:m.length<=20:=Xo fun x=>hg (.inl x);have E0:Hid (Qq m=firstF (Z0 m) 0 m):=by show _=_;unfold Qq;rw[Xr (fun h=>h hz)]
 clear hg au hz;have b1:=Zd w (.cells #[.slice p m.length c] 24);have b2:=Zd (w.alloc (.cells #[.slice p m.length c] 24)) (.cells #[Iv 0,Iv 0] 32);have B0:Hid (Below w.heap.size w ((w.alloc (.cells #[.slice p m.length c] 24)).alloc (.cells #[Iv 0,Iv 0] 32))):=b1.trans (b2.mono b1.size);have BX:Hid (Blk ((w.alloc (.cells #[.slice p m.length c] 24)).alloc (.cells #[Iv 0,Iv 0] 32)) w.heap.size #[.slice p m.length c] 24):=Blk.new1 ..;have BR:Hid (Blk ((w.alloc (.cells #[.slice p m.length c] 24)).alloc (.cells #[Iv 0,Iv 0] 32)) (w.heap.size+1) #[Iv 0,Iv 0] 32):=Blk.new2 ..;clear b1 b2 hm ad;go_enter func66,ntmps66
 go_upto_region 1 with fail
 generalize (w.alloc (.cells #[.slice p m.length c] 24)).alloc (.cells #[Iv 0,Iv 0] 32)=w1 at B0 BX BR |-;obtain⟨X,hX⟩:∃ X,X=w.heap.size:=⟨_,Z⟩
 obtain⟨R,hR⟩:∃ R,R=X+1:=⟨_,Z⟩
 have Q:Hid (w.heap.size<=R):=by show _<=_;omega
 rw[<-hX] at BX BR |-
 rw[<-hR] at BR |-
 clear hX hR;have x0:=Qb BX.out 0 _ Z;have CC:=Qa (Qb4 (Ya ((QbI 6).2 HM.out) B0.out) an.out);unfold Rd at CC;go_wp2_with fail
 refine CC.out.mono ?_;rintro e2 W ⟨rfl,b2⟩;obtain⟨J,M,al⟩:∃ J M,modFault m=(J,M):=⟨_,_,Z⟩
 have av:Hid (modFault m=(J,M)):=al;rw[al]
 clear al;have b3:=b2.trans ((Zd W (.cells #[Iv J,Iv M] 32)).mono b2.size);have P:Hid (Blk (W.alloc (.cells #[Iv J,Iv M] 32)) X #[.slice p m.length c] 24):=BX.out.below b3;have ae:Hid (Blk (W.alloc (.cells #[Iv J,Iv M] 32)) R #[Iv 0,Iv 0] 32):=BR.out.below b3;have A:Hid (Below w.heap.size w (W.alloc (.cells #[Iv J,Iv M] 32))):=B0.out.trans (b3.mono B0.out.size);have F3:Hid (Blk (W.alloc (.cells #[Iv J,Iv M] 32)) W.heap.size #[Iv J,Iv M] 32):=Blk.new _ _ _;simp only[QG]
 clear b2 b3 CC x0 BX BR B0;go_upto_region 2 with fail
 generalize W.alloc (.cells #[Iv J,Iv M] 32)=w3 at P ae A F3 |-;generalize W.heap.size=F9 at F3 |-;have ba:J=0:=by have:=af.out;rw[av.out] at this;exact this
 subst ba;have f0:=Qb F3.out 0 _ Z;have f1:=Qb F3.out 1 _ Z;have x3:=Qb P.out 0 _ Z;have CO:=Qa (Qh8 (w:=w3) (m:=m) (p:=p) (c:=c) (Ya ((QbI 6).2 HM.out) A.out) an.out);clear av;go_wp2_with fail
 refine CO.out.mono ?_;rintro e4 w4 ⟨H,l,rfl,ap,b4⟩;have b5:=Zd w4 (.cells #[.slice H m.length l] 24)
 have S:Hid (VcS w (w4.alloc (.cells #[.slice H m.length l] 24)) X R w4.heap.size p H c l m) :=
  ⟨(A.out.trans (b4.mono A.out.size)).trans (b5.mono (Zt A.out.size b4.size)),(P.out.below b4).below b5,(ae.out.below b4).below b5,Blk.new _ _ _,Ya ap b5⟩
 clear ap b4 b5 CO x3 f0 f1 P ae A F3;go_upto_region 5 with fail
 generalize w4.alloc (.cells #[.slice H m.length l] 24)=w5 at S |-;generalize w4.heap.size=A4 at S |-;have x0:=Qb S.out.x 0 _ Z;go_wp2_with fail
 clear x0;go_loopw [21] (fun i wr=>∃ k:Nat,k<=m.length/\i=Iv k/\VcS w wr X R A4 p H c l m/\∀ j f,j<k->m[j]?=some f->(Z0 m j f).1=0) (fun i _=>m.length - (intOf i).toNat)
 case atStart=>exact⟨0,Xb _,Z,S.out,fun j f hj=>absurd hj (XG _)⟩
 case round =>
  obtain⟨k,hk,rfl,hs,o⟩:=hrel
  have V:=Qa hs;have G:=Qa o;clear hs o S;obtain⟨s,az⟩:∃ s,s=wr:=⟨_,Z⟩
  subst az;by_cases a8:k<m.length
  rotate_left
  ·have ao:¬ (k:Int)<m.length:=by omega
   have E:Hid (Qq m=(0,0)):=by
    show _=_;rw[E0.out]
    exact QY fun j f hj=>by rw[XK];exact G.out j f (by have:=(Zi hj).1;omega) hj
   have I:Hid (Blk s R #[Iv 0,Iv 0] 32):=V.out.r;have r0:=Qb I.out 0 _ Z;have r1:=Qb I.out 1 _ Z;have z0:=Qj I.out 0;have z1:=Qj I.out 1;have RB:Hid (Blk ((s.setCell ⟨R,0,none⟩ (Iv 0)).setCell ⟨R,1,none⟩ (Iv 0)) R #[Iv 0,Iv 0] 32):=Zu I.out _ _;have BL:Hid (Below w.heap.size w ((s.setCell ⟨R,0,none⟩ (Iv 0)).setCell ⟨R,1,none⟩ (Iv 0))):=(XI V.out.bel (p:=⟨R,0,none⟩) Q.out _).setCell (p:=⟨R,1,none⟩) Q.out _;go_wp2_with fail
   generalize (s.setCell ⟨R,0,none⟩ (Iv 0)).setCell ⟨R,1,none⟩ (Iv 0)=a5 at RB BL |-;have e0:=Qb RB.out 0 _ Z;have e1:=Qb RB.out 1 _ Z;exact Xy (v:=.agg #[Iv 0,Iv 0]) (by simp[results,results66,go_sem,e0,e1]) Z ⟨by rw[E.out],BL.out⟩
  have ao:(k:Int)<m.length:=by omega
  have F:m[k]?=some m[k]:=Zg a8;generalize m[k]=f at F;have ac:=Qa F;obtain⟨D,C,ds,rfl,-,-,K,_,_,rfl,⟨rfl,_⟩,_,_,rfl,t1,_,_,rfl,t2,t3⟩:=Yf HM.out F
  obtain⟨a1,c1,rfl,t1⟩:=QK t1
  obtain⟨a2,c2,rfl,t2⟩:=QK t2
  obtain⟨a3,c3,rfl,t3⟩:=QK t3
  have v0:s.cell? ⟨D,C+k*4,none⟩=some (Iv f.regs):=Qk (show w.cell? ⟨D,C+k*4,none⟩=_ from K 0 (by decide)) V.out.bel;have v1:s.cell? ⟨D,C+k*4+1,none⟩=some (.slice a1 f.params.length c1):=Qk (show w.cell? ⟨D,C+k*4+1,none⟩=_ from K 1 (by decide)) V.out.bel;have v2:s.cell? ⟨D,C+k*4+2,none⟩=some (.slice a2 f.results.length c2):=Qk (show w.cell? ⟨D,C+k*4+2,none⟩=_ from K 2 (by decide)) V.out.bel;have v3:s.cell? ⟨D,C+k*4+3,none⟩=some (.slice a3 f.blocks.length c3):=Qk (show w.cell? ⟨D,C+k*4+3,none⟩=_ from K 3 (by decide)) V.out.bel;have a0:Hid ((QcT 6).list.In w All f.blocks [.slice a3 f.blocks.length c3]):=t3;have a6:Hid (f∈m):=Zm F;have bd:f.blocks.length<=30:=Xo fun h=>HG.out (.inr ⟨f,a6.out,.inl h⟩);have b6:=Zd s (.cells #[Iv f.regs,.slice a1 f.params.length c1,.slice a2 f.results.length c2,.slice a3 f.blocks.length c3] 89);have S6:Hid (VcS w (s.alloc (.cells #[Iv f.regs,.slice a1 f.params.length c1,.slice a2 f.results.length c2,.slice a3 f.blocks.length c3] 89)) X R A4 (some ⟨D,C,none⟩) H c l m):=V.out.below b6;have BF:Hid (Blk (s.alloc (.cells #[Iv f.regs,.slice a1 f.params.length c1,.slice a2 f.results.length c2,.slice a3 f.blocks.length c3] 89)) s.heap.size #[Iv f.regs,.slice a1 f.params.length c1,.slice a2 f.results.length c2,.slice a3 f.blocks.length c3] 89):=Blk.new _ _ _;clear K t1 t2 t3 F b6 V;go_upto_region 8 with fail
  generalize s.alloc (.cells #[Iv f.regs,.slice a1 f.params.length c1,.slice a2 f.results.length c2,.slice a3 f.blocks.length c3] 89)=w6 at S6 BF |-;generalize s.heap.size=XF at BF |-;clear v0 v1 v2 v3;have t3:=Qb BF.out 3 _ Z;go_wp2_with fail
  clear t3 BF;go_loopw [29] (fun i wq=>∃ q:Nat,q<=f.blocks.length/\i=Iv q/\VcS w wq X R A4 (some ⟨D,C,none⟩) H c l m/\∀ j g,j<q->f.blocks[j]?=some g->(QA (10000*(k:Int)+100*(j:Int)) g.fin (JSt.start m f g) 0 g.code).1=0) (fun i _=>f.blocks.length - (intOf i).toNat)
  case atStart=>exact⟨0,Xb _,Z,S6.out,fun j g hj=>absurd hj (XG _)⟩
  case round =>
   obtain⟨q,hq,rfl,hs,o⟩:=hrel
   have SQ:=Qa hs;have u:=Qa o;clear hs o S6;obtain⟨d,a7⟩:∃ d,d=wr:=⟨_,Z⟩
   subst a7;by_cases a4:q<f.blocks.length
   rotate_left
   ·have ax:¬ (q:Int)<f.blocks.length:=by omega
    have E:Hid ((Z0 m k f).1=0):=by
     show _=_;unfold Z0;rw[QY fun j g hj=>by rw[XK];exact u.out j g (by have:=(Zi hj).1;omega) hj]
    go_wp2_with fail
    go_roundw
    case rel =>
     refine⟨k+1,by omega,by go_num,SQ.out,fun j y hj hy=>?_⟩
     by_cases ak:j<k
     ·exact G.out j y ak hy
     ·have:j=k:=by omega
      subst this;rw[ac.out] at hy
      cases hy
      exact E.out
    case measure=>simp[intOf];omega
   have ax:(q:Int)<f.blocks.length:=by omega
   have U:f.blocks[q]?=some f.blocks[q]:=Zg a4;generalize f.blocks[q]=g at U;have ai:=Qa U;obtain⟨eg,eo,p1,d1,p2,d2,e,rfl,z,L,aa,ar⟩:=Qe5 a0.out U
   have aj:=Qa L;have am:=Qa aa;have a9:=Qa ar;have ab:Hid (d.rangeAt eg (eo+q*12) (Value.int .i64 g.regs::Value.slice p1 g.params.length d1::Value.slice p2 g.code.length d2::(QbW g.fin e).toList)):=Z3 z SQ.out.bel;generalize N:(Value.int .i64 g.regs::Value.slice p1 g.params.length d1::Value.slice p2 g.code.length d2::(QbW g.fin e).toList)=n at ab;have hl:n.length=12:=by rw[<-N];rfl
   have TS:Hid ((prog.info? 86).map (·.size)=some n.length):=by show _=_;rw[hl];exact pSizeB
   have TH:Hid ((d.alloc (.cells #[Iv 0,Nv,Nv,Iv 0,Iv 0,Iv 0,Nv,Nv,Iv 0,Nv,Nv,Nv] 86)).there d.heap.size 0 n.toArray.size):=by
    intro j hj;rw[List.size_toArray,hl] at hj
    rw[XK]
    have hB:=Qe d #[Iv 0,Nv,Nv,Iv 0,Iv 0,Iv 0,Nv,Nv,Iv 0,Nv,Nv,Nv] 86;refine⟨?_,Qj hB j⟩
    rw[Qb hB j ((#[Iv 0,Nv,Nv,Iv 0,Iv 0,Iv 0,Nv,Nv,Iv 0,Nv,Nv,Nv]:Array Value)[j]'hj) (by simp)];rfl
   have aq:Hid ((prog.info? 86).map (·.size)=some n.toArray.size):=by show _=_;rw[List.size_toArray];exact TS.out
   have TO:Hid (n.toArray.all (·.oneCell')=true):=by
    refine all_oneCell_toArray fun v hv=>?_;rw[<-N] at hv
    simp only[QbW,List.mem_cons,List.not_mem_nil,or_false] at hv
    rcases hv with rfl | rfl | rfl | rfl | rfl | rfl | rfl | rfl | rfl | rfl | rfl | rfl<;>rfl
   have B6:Hid (Blk ((d.alloc (.cells #[Iv 0,Nv,Nv,Iv 0,Iv 0,Iv 0,Nv,Nv,Iv 0,Nv,Nv,Nv] 86)).setCells d.heap.size 0 n.toArray.toList) d.heap.size n.toArray 86):=by
    have h0:Blk (d.alloc (.cells #[Iv 0,Nv,Nv,Iv 0,Iv 0,Iv 0,Nv,Nv,Iv 0,Nv,Nv,Nv] 86)) d.heap.size ([]++(#[Iv 0,Nv,Nv,Iv 0,Iv 0,Iv 0,Nv,Nv,Iv 0,Nv,Nv,Nv]:Array Value).toList).toArray 86:=Qe d _ _;exact Blk.sets n [] (#[Iv 0,Nv,Nv,Iv 0,Iv 0,Iv 0,Nv,Nv,Iv 0,Nv,Nv,Nv]:Array Value).toList _ (by rw[hl];rfl) h0
   have b6:Hid (Below d.heap.size d ((d.alloc (.cells #[Iv 0,Nv,Nv,Iv 0,Iv 0,Iv 0,Nv,Nv,Iv 0,Nv,Nv,Nv] 86)).setCells d.heap.size 0 n.toArray.toList)):=by
    have:=Qz.setCells (O:=fun k=>k=d.heap.size) (O':=fun k=>k=d.heap.size) (b:=d.heap.size) Z n.toArray.toList 0 _ (Qz.refl _ (d.alloc (.cells #[Iv 0,Nv,Nv,Iv 0,Iv 0,Iv 0,Nv,Nv,Iv 0,Nv,Nv,Nv] 86)))
    exact(Zd d _).trans (this.below (by simp) (fun k hk=>by omega))
   have aw:Hid ((Value.int .i64 g.regs::Value.slice p1 g.params.length d1::Value.slice p2 g.code.length d2::(QbW g.fin e).toList)=n):=N;clear hl N z L aa ar U;go_upto_region 11 with (first | (refine wpList_load_mid Z 86 (.tmp 32) Z eg (eo+q*12) Z n _ ab.out underlying86 Z TS.out ?_) | (refine wpList_store_mid Z 86 (.tmp 8) (.tmp 33) Z d.heap.size 0 n.toArray Z Z TH.out aq.out TO.out ?_))
   have B7:Hid (Blk ((d.alloc (.cells #[Iv 0,Nv,Nv,Iv 0,Iv 0,Iv 0,Nv,Nv,Iv 0,Nv,Nv,Nv] 86)).setCells d.heap.size 0 n) d.heap.size n.toArray 86):=B6.out;have S7:Hid (VcS w ((d.alloc (.cells #[Iv 0,Nv,Nv,Iv 0,Iv 0,Iv 0,Nv,Nv,Iv 0,Nv,Nv,Nv] 86)).setCells d.heap.size 0 n) X R A4 (some ⟨D,C,none⟩) H c l m):=SQ.out.below b6.out;clear B6 b6 TH aq TO ab SQ;generalize (d.alloc (.cells #[Iv 0,Nv,Nv,Iv 0,Iv 0,Iv 0,Nv,Nv,Iv 0,Nv,Nv,Nv] 86)).setCells d.heap.size 0 n=w7 at B7 S7 |-;generalize d.heap.size=Bx at B7 |-;have y0:=Qb S7.out.a 0 _ Z;have ay:Hid (w7.rangeAt Bx 0 n):=Blk.range B7.out
   have CB:Hid (Calls prog 108 #[.agg #[.slice H m.length l],Iv (k:Int),Iv (q:Int),.agg n.toArray] w7 fun r w'=>r=.returned (QG (QA (10000*(k:Int)+100*(q:Int)) g.fin (JSt.start m f g) 0 g.code))/\Below w7.heap.size w7 w'):=by
    have:=Qg4 (w:=w7) (p:=H) (c:=l) (p1:=p1) (d1:=d1) af.out HG.out S7.out.om ac.out ai.out (Ya aj.out S7.out.bel) (am.out.below S7.out.bel) a9.out
    rw[<-aw.out]
    exact this
   obtain⟨t,B,ah⟩:∃ t B,QA (10000*(k:Int)+100*(q:Int)) g.fin (JSt.start m f g) 0 g.code=(t,B):=⟨_,_,Z⟩
   have ag:=Qa ah;rw[ah] at CB
   clear ah aw B7;go_wp2_with (refine wpList_load_mid Z 86 (.tmp 8) Z Bx 0 Z n _ ay.out underlying86 Z TS.out ?_)
   refine CB.out.mono ?_;rintro e8 w8 ⟨rfl,b8⟩;have b9:=b8.trans ((Zd w8 (.cells #[Iv t,Iv B] 32)).mono b8.size);have S9:Hid (VcS w (w8.alloc (.cells #[Iv t,Iv B] 32)) X R A4 (some ⟨D,C,none⟩) H c l m):=S7.out.below b9;have F9:Hid (Blk (w8.alloc (.cells #[Iv t,Iv B] 32)) w8.heap.size #[Iv t,Iv B] 32):=Blk.new _ _ _;clear b8 b9 S7 CB ay TS y0;simp only[QG]
   go_upto_region 12 with fail
   generalize w8.alloc (.cells #[Iv t,Iv B] 32)=w9 at S9 F9 |-;generalize w8.heap.size=F8 at F9 |-;have f0:=Qb F9.out 0 _ Z;have f1:=Qb F9.out 1 _ Z;by_cases T:t=0
   ·subst T;go_wp2_with fail
    go_roundw
    case rel =>
     refine⟨q+1,by omega,by go_num,S9.out,fun j y hj hy=>?_⟩
     by_cases ak:j<q
     ·exact u.out j y ak hy
     ·have:j=q:=by omega
      subst this;rw[ai.out] at hy
      cases hy
      rw[ag.out]
    case measure=>simp[intOf];omega
   ·have bb:(t != 0)=true:=by simpa using T
    have E:Hid (Qq m=(t,B)):=by
     show _=_;rw[Qf4 af.out ac.out G.out ai.out u.out (by rw[ag.out];exact T),ag.out]
    clear T;have I:Hid (Blk w9 R #[Iv 0,Iv 0] 32):=S9.out.r;have r0:=Qb I.out 0 _ Z;have r1:=Qb I.out 1 _ Z;have z0:=Qj I.out 0;have z1:=Qj I.out 1;have RB:Hid (Blk ((w9.setCell ⟨R,0,none⟩ (Iv t)).setCell ⟨R,1,none⟩ (Iv B)) R #[Iv t,Iv B] 32):=Zu I.out _ _;have BL:Hid (Below w.heap.size w ((w9.setCell ⟨R,0,none⟩ (Iv t)).setCell ⟨R,1,none⟩ (Iv B))):=(XI S9.out.bel (p:=⟨R,0,none⟩) Q.out _).setCell (p:=⟨R,1,none⟩) Q.out _;go_wp2_with fail
    generalize (w9.setCell ⟨R,0,none⟩ (Iv t)).setCell ⟨R,1,none⟩ (Iv B)=a5 at RB BL |-;have e0:=Qb RB.out 0 _ Z;have e1:=Qb RB.out 1 _ Z;exact Xy (v:=.agg #[Iv t,Iv B]) (by simp[results,results66,go_sem,e0,e1]) Z ⟨by rw[E.out],BL.out⟩
theorem QlN {s a:JSt}{x:Qs}{ts:List (TT 6)}(b:s.makes x=(0,ts)) (d:x.form s.m.length=0) (e:s.L.length+ts.length<=80) (c:s.next x=a):s.code x=0/\s.next x=a:=by
 refine⟨?_,c⟩
 unfold JSt.code;rw[Xr (fun h=>h d),b]
 simp only[ne_eq,not_true_eq_false,if_false]
 rw[Xr (by omega)]
theorem QnL (w:World):intsC.In w All ([]:List Int) [Nv]:=⟨⟨_,_,Z,Ze⟩,Yg _ _ _ _ _⟩
def fS0:JSt:=⟨five6,fF,[],[]⟩
def fS1:JSt:=⟨five6,fF,[],[tInt]⟩
theorem fb1:fS0.code fI=0/\fS0.next fI=fS1:=by
 have a:fS0.makes fI=(0,[tInt]):=Z1 (.inl Z);exact QlN a (by decide) (by decide) (by unfold JSt.next;rw[a];rfl)
theorem fb2:fS1.fin fE=0:=by
 have a:fS1.arg (QhA fF.regs.toNat) 0 tInt=0:=by
  unfold JSt.arg;show (if ZQ (TT.ren _ _ tInt=some tInt) then (0:Int) else 9)=0;exact Xs (QC Z)
 unfold JSt.fin;rw[Xr (by decide),Xr (by decide),Xr (by decide)]
 have:fS1.args fE.args fS1.f.results (QhA fS1.f.regs.toNat)=0:=by
  unfold JSt.args;rw[Xs (by decide)]
  show Qu _ [((0:Int),tInt)]=0;simp only[Qu]
  exact Xr (fun h=>h a)
 rw[this]
 decide
theorem five6_run:Qq five6=(0,0):=by
 have d:∀ a,QA a fE fS0 0 [fI]=(0,0):=fun a=>by rw[QA,Xr (fun h=>h fb1.1),fb1.2,QA,Xr (fun h=>h fb2)]
 unfold Qq;rw[Xr (by rw[five_fault];decide)]
 refine QY fun k y c=>?_;have b:k=0:=by have:=(Zi c).1;simp[five6] at this;exact this
 subst b
 cases c
 unfold Z0;rw[QY]
 intro k y c;have b:k=0:=by have:=(Zi c).1;simp[fF] at this;exact this
 subst b
 cases c
 exact congrArg Prod.fst (d _)
def fE':ZA:=⟨3,0,⟨0,[],[]⟩,⟨0,[],[]⟩,[1]⟩
def fB':MBlock 6:=⟨0,[],[fI],fE'⟩
def fF':MFunc 6:=⟨0,[],[tInt],[fB']⟩
def five7:List (MFunc 6):=[fF']
theorem five7_run:Qq five7=(1,91):=by decide +kernel
theorem five7_not:¬ Qm five7:=QdY (b:=fB') Z (by decide) (fun t c=>by simp only[fF',List.mem_singleton] at c;subst c;decide) Z Z (by decide) ⟨Z,Z,Z,Z,by decide⟩ (fun x a=>by simp only[fB',List.mem_singleton] at a;subst a;exact⟨Z,Z⟩)
theorem QgH {k:Int}(i:I64 k){d h f e c:Nat}(l:Blk w d (fBc d e c) 86) (o:Blk w h #[Iv 0,Nv,.slice (some ⟨f,0,none⟩) 1 1,.slice (some ⟨d,0,none⟩) 1 1] 89) (n:Blk w f #[Iv 1,Iv 0,Nv] 105) (s:Blk w e #[Iv 1,Iv 0,Iv 0,Iv 0,Iv 0,Iv 5,Nv,Nv] 78) (hi:Blk w c #[Iv k] 3) :
 (QjP 6).In w All [(⟨0,[],[tInt],[⟨0,[],[fI],⟨3,0,⟨0,[],[]⟩,⟨0,[],[]⟩,[k]⟩⟩]⟩:MFunc 6)] [.slice (some ⟨h,0,none⟩) 1 1]:=by
 have b:=Qnw w;have g:(Qp 6).In w All ([]:List (TT 6)) [Nv]:=Yg _ _ _ _ _;have q:(Qp 6).In w All [tInt] [.slice (some ⟨f,0,none⟩) 1 1]:=QbR n Z (Qmb w);have j:insC.list.In w All [fI] [.slice (some ⟨e,0,none⟩) 1 1]:=QbR s Z (QhE (x:=fI) (QnL w) (QnL w) (by decide));have m:intsL.In w All [k] [.slice (some ⟨c,0,none⟩) 1 1]:=QbR hi Z ⟨Z,i⟩;have a:I64 0:=by decide
 have r:I64 3:=by decide
 have p:EIn w All ⟨3,0,⟨0,[],[]⟩,⟨0,[],[]⟩,[k]⟩ ⟨none,0,none,0,none,0,none,0,some ⟨c,0,none⟩,1⟩:=⟨⟨b,b,a⟩,⟨b,b,a⟩,m,r,a⟩;exact QbR o Z ⟨[_],_,Z,⟨Z,a⟩,[_],_,Z,g,[_],_,Z,q,QbR (A:=QcT 6) (x:=⟨0,[],[fI],⟨3,0,⟨0,[],[]⟩,⟨0,[],[]⟩,[k]⟩⟩) l Z ⟨[_],_,Z,⟨Z,a⟩,[_],_,Z,g,[_],_,Z,j,QgG p⟩⟩
theorem five_runsW:∃ N,RM.steps five6 aOp 9 10 (RM.start [] 0)=some N/\N.fin=0/\N.back=[5]/\N.out=[]/\N.fuel=2:=⟨_,Z,Z,Z,Z,Z⟩
theorem ZZ {m:List (MFunc 6)}(H:(Qq m).1=0):(modFault m).1=0:=by
 refine Xq.1 fun h=>?_;unfold Qq at H;rw[Xs h] at H
 exact h H
theorem Qda {m:List (MFunc 6)}(d:(QjP 6).In w All m [.slice pm m.length cm]) (c:Qbe m) (a:¬ Qm m) (H:(Qq m).1=0):∀ wx,Below w.heap.size w wx->Calls prog 66 #[.agg #[.slice pm m.length cm]] wx fun e w'=>e=.returned (Qbw 0 (Qq m).2)/\Below wx.heap.size wx w':=fun wx b=>by
 have:=QbZ (Ya d b) c (fun _=>a)
 rw[<-H]
 exact this
theorem QhY {m:List (MFunc 6)}(h:(QjP 6).In w All m [.slice pm m.length cm]) (n:Qbe m) (d:¬ Qm m) (H:(Qq m).1=0) (l:intsL.In w All inp [.slice pi inp.length ci]) (hi:inp.length<=200) (j:most<=20000) (b:pages<=64) :
 Calls prog 30 #[.agg #[.slice pm m.length cm],.slice pi inp.length ci,Iv (most:Int),Iv (pages:Int)] w fun e w'=>Qd8 w m inp most pages e w' :=
 QkY (ZZ H) j (fun k=>Qef H inp b k) (QcD (ZZ H) (by omega) b) (fun s a=>QgI (Ya ((QbI 6).2 h) a) n (Ya l a) (fun x c=>by
  obtain⟨i,c⟩:=List.mem_iff_getElem?.1 c
  obtain⟨g,o,t,-,-,-,-,e,p,q⟩:=Yf l c
  exact⟨p,q⟩) hi j b (fun r f=>Qda h n d H r (a.trans (f.mono a.size))))
theorem Qjq {e:Ending}(h:Qd8 w five6 [] 9 0 e w'):Below w.heap.size w w'/\∃ a c b d,e=.returned (.tuple #[.agg #[Iv 0,.slice a 1 c,.slice b 0 d,Iv 2],Qbw 0 0])/\Qcw w' a [5]:=by
 obtain⟨r,j,l,n,k,m⟩:=five_runsW
 obtain⟨N,v,f,-,⟨s,q,rfl,g,p⟩,rfl,b⟩:=h
 rw[show (9+1:Nat)=10 from Z,j] at f
 cases f
 refine⟨b,?_⟩
 obtain⟨a,c,rfl,-⟩:=id g
 obtain⟨o,d,rfl,-⟩:=id p
 have i:=g.lg;rw[l,m]
 rw[n] at i |-
 rw[k]
 exact⟨a,c,o,d,Z,i.2⟩
theorem Bxs.app {d:World}{l l':List (Nat × Array Value × TypeId)}(h:Bxs w d l) (k:Bxs d w' l'):Bxs w w' (l'++l):=by
 have f:=h.below k.bel;refine⟨f.bel,fun b a=>?_,fun b a=>?_,?_⟩
 ·rcases List.mem_append.1 a with a | a
  ·exact Zt h.bel.size (k.ge b a)
  ·exact h.ge b a
 ·rcases List.mem_append.1 a with a | a
  ·exact k.box b a
  ·exact f.box b a
 ·rw[List.map_append,List.nodup_append]
  refine⟨k.nd,h.nd,fun x g y i e=>?_⟩
  obtain⟨b,a,rfl⟩:=List.mem_map.1 g
  obtain⟨c,j,rfl⟩:=List.mem_map.1 i
  have m:=k.ge b a;have n:=(h.box c j).lt;omega
theorem Qfo (w:World):Calls prog 29 #[] w fun e w'=>e=.returned (.bool true)/\Below w.heap.size w w':=by
 go_enter func29,ntmps29
 go_wp2_with fail
 refine(QiW w).mono ?_
 rintro e1 w1 ⟨I,C,T,Y,m,y,R,rfl,B⟩;have K:=QgH (k:=0) (by decide) (B.at (a:=[_,_,_,_,_])) (B.at (a:=[_,_,_,_])) (B.at (a:=[_,_])) (B.at (a:=[_])) (B.at (a:=[]));have t:=Qc (QhY (inp:=[]) (most:=9) (pages:=0) K (ZD five_not) five_not (congrArg Prod.fst five6_run) (Qnw w1) (by decide) (by decide) (by decide));have A:=Qc B.bel;clear K B;go_wp2_with fail
 refine t.out.mono ?_;rintro e2 v S;obtain⟨Q,a,c,b,d,rfl,U⟩:=Qjq S
 have B0:=Qc (A.out.trans (Q.mono A.out.size));have V:=Qc (Bxs.start v);have HL:=Qc U;clear S Q U t A;have o:=(V.out.new #[Iv 0,.slice a 1 c,.slice b 0 d,Iv 2] 44).new #[Iv 0,Iv 0] 32;rw[World.size_alloc] at o
 have o:=Qc o;go_upto_region 2 with fail
 generalize (v.alloc (.cells #[Iv 0,.slice a 1 c,.slice b 0 d,Iv 2] 44)).alloc (.cells #[Iv 0,Iv 0] 32)=w3 at o |-;generalize v.heap.size+1=F at o |-;generalize v.heap.size=O at o |-;clear V;go_wp2_with fail
 refine(QiW w3).mono ?_
 rintro e4 w4 ⟨I,C,T,Y0,m,y,R,rfl,N⟩;have j:=(o.out.app N).new #[.slice (some ⟨m,0,none⟩) 1 1] 24;have j:=Qc j;clear N o;go_upto_region 3 with fail
 generalize w4.alloc (.cells #[.slice (some ⟨m,0,none⟩) 1 1] 24)=q at j |-;generalize w4.heap.size=Y at j |-;simp only[List.cons_append,List.nil_append] at j
 have u:=Qc (j.out.new #[Iv 1] 3);have z:q.cell? ⟨Y,0,none⟩=some (.slice (some ⟨m,0,none⟩) 1 1):=j.out.cell (a:=[]) 0 _ Z;have g3:q.cell? ⟨m,3,none⟩=some (.slice (some ⟨y,0,none⟩) 1 1):=j.out.cell (a:=[_,_,_,_,_]) 3 _ Z;have c2:=u.out.cell (a:=[_,_,_,_,_,_,_]) 11 _ Z;have z2:=u.out.free (a:=[_,_,_,_,_,_,_]) 11;go_upto_region 4 with fail
 have h:=Qc (u.out.set (a:=[_,_,_,_,_,_,_]) 11 (.slice (some ⟨q.heap.size,0,none⟩) 1 1));clear j u z g3 c2 z2;generalize (q.alloc (.cells #[Iv 1] 3)).setCell ⟨y,11,none⟩ (.slice (some ⟨q.heap.size,0,none⟩) 1 1)=D at h |-;generalize q.heap.size=J at h |-;have z:D.cell? ⟨Y,0,none⟩=some (.slice (some ⟨m,0,none⟩) 1 1):=h.out.cell (a:=[_]) 0 _ Z;have X:(QjP 6).In D All five7 [.slice (some ⟨m,0,none⟩) 1 1]:=QgH (k:=1) (by decide) (h.out.at (a:=[_,_,_,_,_,_,_])) (h.out.at (a:=[_,_,_,_,_,_])) (h.out.at (a:=[_,_,_,_])) (h.out.at (a:=[_,_,_])) (h.out.at (a:=[]))
 have t:=Qc (QfK (pi:=none) (ci:=0) (n:=0) (fu:=9) (pg:=0) (c:=1) (a:=91) (c0:=1) (a0:=91) (pm:=some ⟨m,0,none⟩) (ml:=1) (cm:=1) (w:=D) (fun wx bx=>by
  have:=QbZ (Ya X bx) (ZD five7_not) (fun _=>five7_not)
  rw[five7_run] at this
  exact this) (by decide) (.inl ⟨by decide,Z,Z⟩))
 clear X;go_wp2_with fail
 refine t.out.mono ?_;rintro e7 E ⟨rfl,L⟩;have f:=(h.out.below L).new #[Iv 0,Nv,Nv,Iv 0] 44 |>.new #[Iv 1,Iv 91] 32
 rw[World.size_alloc] at f
 have f:=Qc f;clear L t h z;go_upto_region 5 with fail
 generalize (E.alloc (.cells #[Iv 0,Nv,Nv,Iv 0] 44)).alloc (.cells #[Iv 1,Iv 91] 32)=g at f |-;generalize E.heap.size+1=P at f |-;generalize E.heap.size=O2 at f |-;have f0:g.cell? ⟨F,0,none⟩=some (Iv 0):=f.out.cell (a:=[_,_,_,_,_,_,_,_,_,_,_]) 0 _ Z;have o0:g.cell? ⟨O,0,none⟩=some (Iv 0):=f.out.cell (a:=[_,_,_,_,_,_,_,_,_,_,_,_]) 0 _ Z;have o1:g.cell? ⟨O,1,none⟩=some (.slice a 1 c):=f.out.cell (a:=[_,_,_,_,_,_,_,_,_,_,_,_]) 1 _ Z;have o2:g.cell? ⟨O,2,none⟩=some (.slice b 0 d):=f.out.cell (a:=[_,_,_,_,_,_,_,_,_,_,_,_]) 2 _ Z;have o3:g.cell? ⟨O,3,none⟩=some (Iv 2):=f.out.cell (a:=[_,_,_,_,_,_,_,_,_,_,_,_]) 3 _ Z;have G:=Qc (HL.out.below f.out.bel);have B9:=Qc (f.out.new #[Iv 5] 2)
 have H:Qcw (g.alloc (.cells #[Iv 5] 2)) (some ⟨g.heap.size,0,none⟩) [5]:=fun i x s=>by
  match i,s with
  | 0,s=>cases s;exact⟨g.heap.size,0,Z,Qb (Qe g #[.int .i64 5] 2) 0 _ Z⟩
  | i+1,s=>exact absurd (Zi s).1 (by simp)
 have M:Hid (Calls prog 26 #[.agg #[Iv 0,.slice a 1 c,.slice b 0 d,Iv 2],.agg #[Iv 0,.slice (some ⟨g.heap.size,0,none⟩) 1 1,Nv,Iv 2]] (g.alloc (.cells #[Iv 5] 2)) fun e w'=>e=.returned (.bool true)/\Below (g.alloc (.cells #[Iv 5] 2)).heap.size (g.alloc (.cells #[Iv 5] 2)) w'):=Qb0 (l:=[5]) (r:=[]) (by decide) (by decide) (G.out.below (ZO _ _)) H (Qcw.nil _ _) (Qcw.nil _ _);clear H;go_wp2_with fail
 refine M.out.mono ?_;rintro e9 W ⟨rfl,b9⟩;have p:=Qc (B9.out.below b9);have p0:W.cell? ⟨P,0,none⟩=some (Iv 1):=p.out.cell (a:=[_]) 0 _ Z;have p1:W.cell? ⟨P,1,none⟩=some (Iv 91):=p.out.cell (a:=[_]) 1 _ Z;clear b9 M B9 f0 o0 o1 o2 o3;go_wp2
 go_ret;exact⟨Z,B0.out.trans (p.out.bel.mono B0.out.size)⟩
theorem QmC (h:intsL.In w O l [.slice a n c]):∀ x∈l,Qnb x:=fun x b=>by
 obtain⟨i,j⟩:=List.mem_iff_getElem?.1 b
 obtain⟨g,o,k,-,-,-,-,e,d,f⟩:=Yf h j
 exact⟨d,f⟩
section
variable {w:World}{O:Nat->Prop}{n:Nat}{cs:List Value}
theorem Qiy {x:MBlock n}(a:x.flat k) (h:(Qbh n).In w O x cs):(Qbh (k+1)).In w O (x.at k) cs:=by
 obtain⟨f,_,rfl,e,⟨d,_,rfl,b,c⟩⟩:=h
 exact⟨f,_,Z,e,⟨d,_,Z,Qd9 a b,c⟩⟩
theorem Qkh {x:MFunc n}(a:x.flat k) (h:(QeD n).In w O x cs):(QeD (k+1)).In w O (x.at k) cs:=by
 obtain⟨j,_,rfl,i,⟨g,_,rfl,c,⟨b,_,rfl,e,f⟩⟩⟩:=h
 exact⟨j,_,Z,i,⟨g,_,Z,Qd9 a.1 c,⟨b,_,Z,Qd9 a.2.1 e,Lay.list_map (A:=Qbh n) (B:=Qbh (k+1)) Z (fun y d l=>Qiy (a.2.2 y d)) f⟩⟩⟩
theorem Qlx {m:List (MFunc n)}(a:∀ x∈m,x.flat k) (h:(QhH n).In w O m cs):(QhH (k+1)).In w O (m.map (MFunc.at k)) cs :=
 Lay.list_map (A:=QeD n) (B:=QeD (k+1)) Z (fun y b c=>Qkh (a y b)) h
end
theorem size_any:∀ (n:Nat) (t:TT n) (a:Option Addr) (c:Nat) (w:World) (left:Int),TIn w All t a->0<=left->left<=2000 ->
 Calls prog 115 #[Tv t a c,Iv left] w fun e w'=>e=.returned (Iv (max (-1) (left - t.count)))/\Below w.heap.size w w':=by
 intro n
 induction n with
 | zero=>intro t;exact Empty.elim t
 | succ n ih =>
   intro t a c w left C X h1
   have L:Hid (∀ (t:TT n) (a:Option Addr) (c:Nat) (w:World) (left:Int),TIn w All t a->0<=left->left<=2000 ->
    Calls prog 115 #[Tv t a c,Iv left] w fun e w'=>e=.returned (Iv (max (-1) (left - t.count)))/\Below w.heap.size w w'):=ih
   clear ih;have J:Hid (LIn w All t.2.2 a):=C.list;have G:t.count=1+(t.2.2.map TT.count).sum:=rfl;rw[G]
   clear G;simp only[Tv,TT.len_eq]
   generalize t.2.2=l at J |-;generalize t.kind=k;generalize t.r=r;clear C t;go_enter func115,ntmps115
   go_wp2_with fail
   have B:Hid (Bx w (w.alloc (.cells #[Iv k,Iv r,.slice a l.length c] 105)) k r a l.length c):=Bx.start w k r a l.length c;generalize w.alloc (.cells #[Iv k,Iv r,.slice a l.length c] 105)=W at B |-;go_loopw [1,5] (fun lf i wr=>∃ q:Nat,q<=l.length/\i=Iv q/\lf=Iv (max (-1) (left - 1 - (((l.map TT.count).take q).sum:Nat)))/\Bx w wr k r a l.length c) (fun _ i _=>l.length - (intOf i).toNat)
   case atStart=>exact⟨0,Xb _,Z,by simp;omega,B.out⟩
   case round =>
    clear B;obtain⟨q,hq,rfl,rfl,u⟩:=hrel
    generalize f:(((l.map TT.count).take q).sum:Nat)=s;have e2:wr.cell? ⟨w.heap.size,2,none⟩=some (.slice a l.length c):=Qb u.box 2 _ Z;have p:Hid (Bx w wr k r a l.length c):=u;by_cases A:q<l.length
    ·by_cases b:0<=max (-1) (left - 1 - (s:Int))
     ·have j:l[q]?=some l[q]:=Zg A;generalize l[q]=x at j;obtain⟨g,o,D,T,rfl,_,d0,d1,d2,E⟩:=LIn.at (J.out.below u.bel) j
      have H:Hid (TIn wr All x D):=E;have v:=Qd1 TT.count l q x j;rw[f] at v
      have Q:Hid (((l.map TT.count).take (q+1)).sum=s+x.count):=v;have S:Hid (max (-1) (left - 1 - (s:Int))<=2000):=by show _<=_;omega
      clear u E j v;generalize I:max (-1) (left - 1 - (s:Int))=m at b S;have M:Hid (max (-1) (left - 1 - (s:Int))=m):=I;clear I;have N:(0:Int)<=q:=by omega
      have d:(q:Int)<l.length:=by omega
      have R:(q:Int)<2000:=by
       have P:=length_le_sum ((l.map TT.count).take q) (fun y K=>by obtain⟨z,_,rfl⟩:=List.mem_map.1 (List.mem_of_mem_take K);exact z.count_pos);have h4:=M.out;rw[List.length_take,XN] at P
       omega
      clear f;go_wp2_with fail
      refine(L.out x D T _ m H.out b S.out).mono ?_
      rintro e V ⟨rfl,O⟩;have U:Hid (Bx w V k r (some ⟨g,o,none⟩) l.length c):=p.out.below O;clear p;go_wp2
      go_roundw
      case rel=>exact⟨q+1,by omega,by go_num,by rw[Q.out];have:=M.out;have:=x.count_pos;congr 1;omega,U.out⟩
      case measure=>simp[intOf];omega
     ·have F:Hid (max (-1) (left - 1 - (s:Int))=max (-1) (left - ((1+(l.map TT.count).sum:Nat):Int))):=by
       have:=QfC (l.map TT.count) q
       show _=_;omega
      have h:max (-1) (left - 1 - (s:Int))<0:=by omega
      generalize max (-1) (left - 1 - (s:Int))=m at F h |-;clear b f;have d:(q:Int)<l.length:=by omega
      go_wp2
      go_ret;exact⟨by show Ending.returned (Iv m)=_;have:=F.out;congr 2,p.out.bel⟩
    ·have F:Hid (max (-1) (left - 1 - (s:Int))=max (-1) (left - ((1+(l.map TT.count).sum:Nat):Int))):=by
      rw[XO (by simp;omega)] at f
      show _=_;omega
     generalize max (-1) (left - 1 - (s:Int))=m at F |-;clear f;have d:¬ (q:Int)<l.length:=by omega
     go_wp2
     go_ret;exact⟨by show Ending.returned (Iv m)=_;have:=F.out;congr 2,p.out.bel⟩
theorem QhN (n:Nat) (t:TT n) (a:Option Addr) (c:Nat) (w:World) (d:TIn w All t a) :
 Calls prog 71 #[Tv t a c] w fun e w'=>e=.returned (.bool (decide (2000<t.count)))/\Below w.heap.size w w':=by
 have C:Hid (∀ b,Below w.heap.size w b->Calls prog 115 #[Tv t a c,Iv 2000] b fun e w'=>e=.returned (Iv (max (-1) (2000 - (t.count:Int))))/\Below b.heap.size b w') :=
  fun b h=>size_any n t a c b 2000 (d.below h) (by omega) (by omega)
 clear d;simp only[Tv] at C |-
 generalize t.kind=k at C |-;generalize t.r=r at C |-;generalize t.len=g at C |-;generalize t.count=q at C |-;go_enter func71,ntmps71
 go_wp2_with fail
 refine(C.out _ ((Below.refl _ w).alloc Ze _)).mono ?_
 rintro e i ⟨rfl,f⟩;have B:Hid (Below w.heap.size w i):=((Below.refl _ w).alloc Ze _).trans (f.mono (by simp));have F:Hid (max (-1) (2000 - (q:Int))<0↔2000<q):=by show _↔_;omega
 generalize max (-1) (2000 - (q:Int))=m at F |-;clear f C;go_wp2
 go_ret;exact⟨by show Ending.returned (.bool (decide (m<0)))=_;rw[decide_eq_decide.2 F.out],B.out⟩
structure GbS (w wx:World) (l:List (Nat × Array Value × TypeId)):Prop where
 bel:Below w.heap.size w wx
 box:∀ (i:Nat) b,l[i]?=some b->Blk wx b.1 b.2.1 b.2.2
theorem GbS.below {a:World}{l:List (Nat × Array Value × TypeId)}(h:GbS w a l) (k:Below a.heap.size a w'):GbS w w' l:=⟨h.bel.trans (k.mono h.bel.size),fun i b c=>(h.box i b c).below k⟩
theorem GbS.add {a:World}{l:List (Nat × Array Value × TypeId)}(h:GbS w a l){c:Array Value}(e:Blk a B c t):GbS w a ((B,c,t)::l) :=
 ⟨h.bel,fun i b d=>by
  cases i with
  | zero=>cases d;exact e
  | succ i=>exact h.box i b d⟩
theorem GbS.drop {a:World}{l:List (Nat × Array Value × TypeId)}{e:Nat × Array Value × TypeId}(h:GbS w a (e::l)):GbS w a l:=⟨h.bel,fun i b c=>h.box (i+1) b c⟩
theorem GbS.new {a:World}{l:List (Nat × Array Value × TypeId)}(h:GbS w a l) (c:Array Value) (t:TypeId):GbS w (a.alloc (.cells c t)) ((a.heap.size,c,t)::l):=(h.below (Zd _ _)).add (Blk.new _ _ _)
theorem Qal (n:Nat) (l:List (TT n)) (p:Option Addr) (c:Nat) (w:World) (o:LIn w All l p) :
 Rd prog 40 #[.slice p l.length c] w (.bool (ZQ (Zy l))):=by
 have M:=Qf o;clear o;unfold Rd;go_enter func40,ntmps40
 by_cases B:200<l.length
 ·have d:(200:Int)<l.length:=by omega
  have E:=QC (A:=Zy l) (.inl B);go_wp2_with fail
  go_ret;exact⟨by first | rfl | (rw[E];done) | (rw[E];rfl),Zr⟩
 have d:¬ (200:Int)<l.length:=by omega
 go_wp2_with fail
 go_loopw [3] (fun i wr=>∃ k:Nat,k<=l.length/\i=Iv k/\Below w.heap.size w wr/\∀ (j:Nat) t,j<k->l[j]?=some t->¬ 2000<t.count) (fun i _=>l.length - (intOf i).toNat)
 case atStart=>exact⟨0,Xb _,Z,Zr,fun j z m=>absurd m (XG _)⟩
 case round =>
  obtain⟨k,O,rfl,G,a⟩:=hrel
  have r:=Qf G;have q:=Qf a;clear G a;by_cases y:k<l.length
  rotate_left
  ·have g:¬ (k:Int)<l.length:=by omega
   have E:ZQ (Zy l)=false:=QB (by
    rintro (h | ⟨t,b,h⟩)
    ·exact B h
    ·obtain⟨j,m⟩:=List.mem_iff_getElem?.1 b
     exact q.out j t (by have:=(Zi m).1;omega) m h)
   go_wp2_with fail
   go_ret;exact⟨by first | rfl | (rw[E];done) | (rw[E];rfl),r.out⟩
  have g:(k:Int)<l.length:=by omega
  have b:l[k]?=some l[k]:=Zg y;generalize l[k]=t at b;have D:=Qf b;obtain⟨P,N,L,J,rfl,-,K,I,H,e⟩:=(show LIn wr All l p from M.out.below r.out).at b
  have F:=Qf (QhN n t L J wr e);clear b e;go_wp2_with fail
  refine F.out.mono ?_;rintro _ Q ⟨rfl,C⟩;have f:=Qf (r.out.trans (C.mono r.out.size));clear C F K I H r;by_cases s:2000<t.count
  ·rw[Xt s]
   have E:=QC (A:=Zy l) (.inr ⟨t,Zm D.out,s⟩);go_wp2_with fail
   go_ret;exact⟨by first | rfl | (rw[E];done) | (rw[E];rfl),f.out⟩
  ·rw[Xu s]
   go_wp2_with fail
   go_roundw
   case rel =>
    refine⟨k+1,by omega,by go_num,f.out,fun j u m v=>?_⟩
    by_cases x:j<k
    ·exact q.out j u x v
    ·have:j=k:=by omega
     subst this;rw[D.out] at v
     cases v
     exact s
   case measure=>simp[intOf];omega
def MFunc.much {n:Nat}(x:MFunc n):Prop:=30<x.blocks.length\/Zy x.params\/Zy x.results
def MBlock.much {n:Nat}(x:MBlock n):Prop:=200<x.code.length\/Zy x.params\/300<x.fin.args.length\/300<x.fin.yes.regs.length\/300<x.fin.yes.args.length\/300<x.fin.no.regs.length\/300<x.fin.no.args.length
theorem Qae (n:Nat) (m:List (MFunc n)) (p:Option Addr) (c:Nat) (w:World) (ah:(QaN n).In w All m [.slice p m.length c]) :
 Rd prog 10 #[.agg #[.slice p m.length c]] w (.bool (ZQ (Qm m))):=by
 have HM:=Qf ah;have S:Hid (GbS w (w.alloc (.cells #[.slice p m.length c] 24)) [(w.heap.size,#[.slice p m.length c],24)]):=GbS.new ⟨Zr,fun i b hb=>by simp at hb⟩ _ _;clear ah;unfold Rd;go_enter func10,ntmps10
 go_upto_region 1 with fail
 generalize w.alloc (.cells #[.slice p m.length c] 24)=w1 at S |-;generalize w.heap.size=X at S |-;have x0:=Qb (S.out.box 0 _ Yz) 0 _ Yz;by_cases c1:20<m.length
 ·have d:(20:Int)<m.length:=by omega
  have E:=QC (A:=Qm m) (.inl c1);have I:=Qf S.out.bel;clear S;go_wp2_with fail
  go_ret;exact⟨by first | rfl | (rw[E];done) | (rw[E];rfl),I.out⟩
 have d:¬ (20:Int)<m.length:=by omega
 go_wp2_with fail
 clear x0;go_loopw [3] (fun i wr=>∃ k:Nat,k<=m.length/\i=Iv k/\GbS w wr [(X,#[.slice p m.length c],24)]/\∀ (j:Nat) f,j<k->m[j]?=some f->¬ f.great) (fun i _=>m.length - (intOf i).toNat)
 case atStart=>exact⟨0,Xb _,Yz,S.out,fun j z C=>absurd C (XG _)⟩
 case round =>
  obtain⟨k,hk,rfl,P,o⟩:=hrel
  have SR:=Qf P;have aj:=Qf o;clear P o S;obtain⟨wf,ap⟩:∃ wf,wf=wr:=⟨_,Yz⟩
  subst ap;have x0:=Qb (SR.out.box 0 _ Yz) 0 _ Yz;by_cases a0:k<m.length
  rotate_left
  ·have ad:¬ (k:Int)<m.length:=by omega
   have E:ZQ (Qm m)=false:=QB (by
    rintro (h | ⟨t,ht,h⟩)
    ·exact c1 h
    ·obtain⟨j,C⟩:=List.mem_iff_getElem?.1 ht
     exact aj.out j t (by have:=(Zi C).1;omega) C h)
   have I:=Qf SR.out.bel;clear SR;go_wp2_with fail
   go_ret;exact⟨by first | rfl | (rw[E];done) | (rw[E];rfl),I.out⟩
  have ad:(k:Int)<m.length:=by omega
  have N:m[k]?=some m[k]:=Zg a0;generalize m[k]=x at N;have ak:=Qf N;have an:Hid (x.great->ZQ (Qm m)=true):=fun h=>QC (.inr ⟨x,Zm ak.out,h⟩);obtain⟨g1,o1,l,rfl,E1,af⟩:=QfB HM.out N
  have T:=Qf af;have R1:Hid (wf.rangeAt g1 (o1+k*4) [Iv x.regs,.slice l.pP x.params.length l.cP,.slice l.pR x.results.length l.cR,.slice l.pB x.blocks.length l.cB]):=fun j v C=>Qk (E1 j v C) SR.out.bel;have v0:wf.cell? ⟨g1,o1+k*4,none⟩=some (Iv x.regs):=R1.out 0 _ Yz;have v1:=R1.out 1 _ Yz;have v2:=R1.out 2 _ Yz;have v3:=R1.out 3 _ Yz;have F:=Qf (SR.out.new #[Iv x.regs,.slice l.pP x.params.length l.cP,.slice l.pR x.results.length l.cR,.slice l.pB x.blocks.length l.cB] 89);clear N E1 af R1 SR;go_upto_region 7 with fail
  generalize wf.alloc (.cells #[Iv x.regs,.slice l.pP x.params.length l.cP,.slice l.pR x.results.length l.cR,.slice l.pB x.blocks.length l.cB] 89)=w6 at F |-;generalize wf.heap.size=Y at F |-;clear v0 v1 v2 v3 x0;generalize hL:([(Y,#[Iv x.regs,.slice l.pP x.params.length l.cP,.slice l.pR x.results.length l.cR,.slice l.pB x.blocks.length l.cB],89),(X,#[.slice (some ⟨g1,o1,none⟩) m.length c],24)]:List (Nat × Array Value × TypeId))=L at F;have BX:Hid (∀ wx,GbS w wx L->Blk wx Y #[Iv x.regs,.slice l.pP x.params.length l.cP,.slice l.pR x.results.length l.cR,.slice l.pB x.blocks.length l.cB] 89/\GbS w wx [(X,#[.slice (some ⟨g1,o1,none⟩) m.length c],24)]):=by subst hL;exact fun wx h=>⟨h.box 0 _ Yz,h.drop⟩
  clear hL;have q1:=Qb (BX.out _ F.out).1 1 _ Yz;have q2:=Qb (BX.out _ F.out).1 2 _ Yz;have q3:=Qb (BX.out _ F.out).1 3 _ Yz;go_cut [37] (fun v wx=>v=.bool (ZQ x.much)/\GbS w wx L)
  case first =>
   by_cases h:30<x.blocks.length
   ·have d1:decide ((x.blocks.length:Int)>30)=true:=Xt (by omega);have E:=QC (A:=x.much) (.inl h);go_wp2
    go_meet;exact⟨by first | rfl | (rw[E];done) | (rw[E];rfl),F.out⟩
   have d1:decide ((x.blocks.length:Int)>30)=false:=Xu (by omega);have B:=Qf (Qal n x.params l.pP l.cP w6 (QX (Ya T.out.params F.out.bel)).1);unfold Rd at B;by_cases K:Zy x.params
   ·have E:=QC (A:=x.much) (.inr (.inl K));rw[QC K] at B
    go_wp2_with fail
    refine B.out.mono ?_;rintro _ wa ⟨rfl,G⟩;have r:=Qf (F.out.below G);clear G B;go_wp2
    go_meet;exact⟨by first | rfl | (rw[E];done) | (rw[E];rfl),r.out⟩
   rw[QB K] at B
   go_wp2_with fail
   refine B.out.mono ?_;rintro _ wa ⟨rfl,G⟩;have r:=Qf (F.out.below G);clear G B q1 q2 q3;have q2:=Qb (BX.out _ r.out).1 2 _ Yz;have CR:=Qf (Qal n x.results l.pR l.cR wa (QX (Ya T.out.results r.out.bel)).1);unfold Rd at CR
   have E:ZQ x.much=ZQ (Zy x.results):=by
    by_cases hr:Zy x.results
    ·rw[QC hr];exact QC (.inr (.inr hr))
    ·rw[QB hr];exact QB (fun e=>by rcases e with e | e | e;exact h e;exact K e;exact hr e)
   go_wp2_with fail
   refine CR.out.mono ?_;rintro _ J ⟨rfl,bb⟩;have SB:=Qf (r.out.below bb);clear bb CR q2;go_wp2
   all_goals
    go_meet;exact⟨by first | rfl | (rw[E];done) | (rw[E];rfl),SB.out⟩
  case rest =>
   obtain⟨rfl,R⟩:=hcut
   have S7:=Qf R;clear R F q1 q2 q3;by_cases Q:x.much
   ·rw[QC Q]
    have E:=an.out (by rcases Q with h | h | h;exact .inl h;exact .inr (.inl h);exact .inr (.inr (.inl h)));have I:=Qf S7.out.bel;clear S7 Q;go_wp2_with fail
    go_ret;exact⟨by first | rfl | (rw[E];done) | (rw[E];rfl),I.out⟩
   rw[QB Q]
   have a3:x.blocks.length<=30:=Xo fun h=>Q (.inl h);go_wp2_with fail
   go_loopw [5] (fun i wr=>∃ q:Nat,q<=x.blocks.length/\i=Iv q/\GbS w wr L/\∀ (j:Nat) y,j<q->x.blocks[j]?=some y->¬ y.great) (fun i _=>x.blocks.length - (intOf i).toNat)
   case atStart=>exact⟨0,Xb _,Yz,S7.out,fun j z C=>absurd C (XG _)⟩
   case round =>
    obtain⟨q,hq,rfl,P,o⟩:=hrel
    have SQ:=Qf P;have ai:=Qf o;clear P o S7;obtain⟨J,av⟩:∃ J,J=wr:=⟨_,Yz⟩
    subst av;have q3:=Qb (BX.out _ SQ.out).1 3 _ Yz;by_cases au:q<x.blocks.length
    rotate_left
    ·have am:¬ (q:Int)<x.blocks.length:=by omega
     go_wp2_with fail
     go_roundw
     case rel =>
      refine⟨k+1,by omega,by go_num,(BX.out _ SQ.out).2,fun j f C hf=>?_⟩
      by_cases ay:j<k
      ·exact aj.out j f ay hf
      ·have:j=k:=by omega
       subst this;rw[ak.out] at hf
       cases hf
       rintro (h | h | h | ⟨y,hy,h⟩)
       ·exact Q (.inl h)
       ·exact Q (.inr (.inl h))
       ·exact Q (.inr (.inr h))
       ·obtain⟨i,hi⟩:=List.mem_iff_getElem?.1 hy
        exact ai.out i y (by have:=(Zi hi).1;omega) hi h
     case measure=>simp[intOf];omega
    have am:(q:Int)<x.blocks.length:=by omega
    have O:x.blocks[q]?=some x.blocks[q]:=Zg au;generalize x.blocks[q]=y at O;have ao:=Qf O;have aa:Hid (y.great->ZQ (Qm m)=true):=fun h=>an.out (.inr (.inr (.inr ⟨y,Zm ao.out,h⟩)));obtain⟨g2,o2,g,e2,E2,al⟩:=Qen T.out.blocks O
    have ac:=Qf al;rw[e2] at q3
    generalize W:([Iv y.regs,.slice g.pP y.params.length g.cP,.slice g.pC y.code.length g.cC,Iv y.fin.op,Iv y.fin.a,Iv y.fin.yes.block,.slice g.e.pYR y.fin.yes.regs.length g.e.cYR,.slice g.e.pYA y.fin.yes.args.length g.e.cYA,Iv y.fin.no.block,.slice g.e.pNR y.fin.no.regs.length g.e.cNR,.slice g.e.pNA y.fin.no.args.length g.e.cNA,.slice g.e.pA y.fin.args.length g.e.cA]:List Value)=cs at E2;have hl:cs.length=12:=by rw[<-W];rfl
    have MB:=Qf (Qm1.of J hl);have TO:Hid (cs.toArray.all (·.oneCell')=true):=by show _=_;rw[<-W];exact all_oneCell_toArray (Xe.1 Yz)
    have RG:Hid (J.rangeAt g2 (o2+q*12) cs):=fun j v C=>Qk (E2 j v C) SQ.out.bel;clear O E2 al hl e2;go_upto_region 13 with (first | (refine wpList_load_mid Yz 86 (.tmp 48) Yz g2 (o2+q*12) Yz cs _ RG.out underlying86 Yz MB.out.size ?_) | (refine wpList_store_mid Yz 86 (.tmp 6) (.tmp 49) Yz J.heap.size 0 cs.toArray Yz Yz MB.out.there MB.out.size2 TO.out ?_))
    have H:=Qf ((SQ.out.below MB.out.bel).add MB.out.blk);clear SQ q3 RG TO MB;generalize (J.alloc (.cells #[Iv 0,Nv,Nv,Iv 0,Iv 0,Iv 0,Nv,Nv,Iv 0,Nv,Nv,Nv] 86)).setCells J.heap.size 0 cs=w3 at H |-;generalize J.heap.size=Z at H |-;subst W;simp only[Act.put]
    generalize ab:((Z,#[Iv y.regs,.slice g.pP y.params.length g.cP,.slice g.pC y.code.length g.cC,Iv y.fin.op,Iv y.fin.a,Iv y.fin.yes.block,.slice g.e.pYR y.fin.yes.regs.length g.e.cYR,.slice g.e.pYA y.fin.yes.args.length g.e.cYA,Iv y.fin.no.block,.slice g.e.pNR y.fin.no.regs.length g.e.cNR,.slice g.e.pNA y.fin.no.args.length g.e.cNA,.slice g.e.pA y.fin.args.length g.e.cA],86)::L:List (Nat × Array Value × TypeId))=L2 at H;have M:Hid (∀ wx,GbS w wx L2->Blk wx Z #[Iv y.regs,.slice g.pP y.params.length g.cP,.slice g.pC y.code.length g.cC,Iv y.fin.op,Iv y.fin.a,Iv y.fin.yes.block,.slice g.e.pYR y.fin.yes.regs.length g.e.cYR,.slice g.e.pYA y.fin.yes.args.length g.e.cYA,Iv y.fin.no.block,.slice g.e.pNR y.fin.no.regs.length g.e.cNR,.slice g.e.pNA y.fin.no.args.length g.e.cNA,.slice g.e.pA y.fin.args.length g.e.cA] 86/\GbS w wx L):=by subst ab;exact fun wx h=>⟨h.box 0 _ Yz,h.drop⟩
    clear ab;have z1:=Qb (M.out _ H.out).1 1 _ Yz;have z2:=Qb (M.out _ H.out).1 2 _ Yz;go_cut [97] (fun v wx=>v=.bool (ZQ y.much)/\GbS w wx L2)
    case first =>
     by_cases h:200<y.code.length
     ·have d1:decide ((y.code.length:Int)>200)=true:=Xt (by omega);have E:=QC (A:=y.much) (.inl h);go_wp2
      go_meet;exact⟨by first | rfl | (rw[E];done) | (rw[E];rfl),H.out⟩
     have d1:decide ((y.code.length:Int)>200)=false:=Xu (by omega);have B:=Qf (Qal n y.params g.pP g.cP w3 (QX (Ya ac.out.params H.out.bel)).1);unfold Rd at B;by_cases K:Zy y.params
     ·have E:=QC (A:=y.much) (.inr (.inl K));rw[QC K] at B
      go_wp2_with fail
      refine B.out.mono ?_;rintro _ wa ⟨rfl,G⟩;have r:=Qf (H.out.below G);clear G B;go_wp2
      go_meet;exact⟨by first | rfl | (rw[E];done) | (rw[E];rfl),r.out⟩
     rw[QB K] at B
     go_wp2_with fail
     refine B.out.mono ?_;rintro _ wa ⟨rfl,G⟩;have r:=Qf (H.out.below G);clear G B z1 z2;have z6:=Qb (M.out _ r.out).1 6 _ Yz;have z7:=Qb (M.out _ r.out).1 7 _ Yz;have z9:=Qb (M.out _ r.out).1 9 _ Yz;have az:=Qb (M.out _ r.out).1 10 _ Yz;have a2:=Qb (M.out _ r.out).1 11 _ Yz
     have s:Hid (ZQ y.much=(decide ((y.fin.args.length:Int)>300)||(decide ((y.fin.yes.regs.length:Int)>300)||(decide ((y.fin.yes.args.length:Int)>300)||(decide ((y.fin.no.regs.length:Int)>300)||decide ((y.fin.no.args.length:Int)>300)))))):=by
      show _=_
      have e9:y.much↔((y.fin.args.length:Int)>300\/(y.fin.yes.regs.length:Int)>300\/(y.fin.yes.args.length:Int)>300\/(y.fin.no.regs.length:Int)>300\/(y.fin.no.args.length:Int)>300):=by
       unfold MBlock.much;constructor
       ·rintro (e | e | e)
        ·exact absurd e h
        ·exact absurd e K
        ·omega
       ·intro e;right;right;omega
      by_cases hy:y.much
      ·rw[QC hy];have:=e9.1 hy;simp only[<-Bool.decide_or];exact(Xt this).symm
      ·rw[QB hy];have:=fun e=>hy (e9.2 e);simp only[<-Bool.decide_or];exact(Xu this).symm
     generalize y.fin.args.length=n1 at s a2 |-;generalize y.fin.yes.regs.length=n2 at s z6 |-;generalize y.fin.yes.args.length=n3 at s z7 |-;generalize y.fin.no.regs.length=n4 at s z9 |-;generalize y.fin.no.args.length=n5 at s az |-;by_cases k1:(n1:Int)>300
     ·have d9:decide ((n1:Int)>300)=true:=Xt k1;rw[d9] at s
      go_wp2
      go_meet;exact⟨by rw[s.out];first | done | rfl,r.out⟩
     have e1:decide ((n1:Int)>300)=false:=Xu k1;rw[e1] at s
     by_cases k2:(n2:Int)>300
     ·have d9:decide ((n2:Int)>300)=true:=Xt k2;rw[d9] at s
      go_wp2
      go_meet;exact⟨by rw[s.out];first | done | rfl,r.out⟩
     have e2:decide ((n2:Int)>300)=false:=Xu k2;rw[e2] at s
     by_cases k3:(n3:Int)>300
     ·have d9:decide ((n3:Int)>300)=true:=Xt k3;rw[d9] at s
      go_wp2
      go_meet;exact⟨by rw[s.out];first | done | rfl,r.out⟩
     have e3:decide ((n3:Int)>300)=false:=Xu k3;rw[e3] at s
     by_cases k4:(n4:Int)>300
     ·have d9:decide ((n4:Int)>300)=true:=Xt k4;rw[d9] at s
      go_wp2
      go_meet;exact⟨by rw[s.out];first | done | rfl,r.out⟩
     have e4:decide ((n4:Int)>300)=false:=Xu k4;rw[e4] at s
     go_wp2
     all_goals
      go_meet;exact⟨by rw[s.out];first | done | rfl,r.out⟩
    case rest =>
     obtain⟨rfl,R⟩:=hcut
     have S4:=Qf R;clear R H z1 z2;by_cases D:y.much
     ·rw[QC D]
      have E:=aa.out (by rcases D with h | h | h | h | h | h | h;exact .inl h;exact .inr (.inl h);exact .inr (.inr (.inl h));exact .inr (.inr (.inr (.inl h)));exact .inr (.inr (.inr (.inr (.inl h))));exact .inr (.inr (.inr (.inr (.inr (.inl h)))));exact .inr (.inr (.inr (.inr (.inr (.inr (.inl h)))))));have I:=Qf S4.out.bel;clear S4 D;go_wp2_with fail
      go_ret;exact⟨by first | rfl | (rw[E];done) | (rw[E];rfl),I.out⟩
     rw[QB D]
     have a4:y.code.length<=200:=Xo fun h=>D (.inl h);go_wp2_with fail
     go_loopw [7] (fun i wr=>∃ t:Nat,t<=y.code.length/\i=Iv t/\GbS w wr L2/\∀ (j:Nat) z,j<t->y.code[j]?=some z->¬ (300<z.regs.length\/300<z.args.length)) (fun i _=>y.code.length - (intOf i).toNat)
     case atStart=>exact⟨0,Xb _,Yz,S4.out,fun j z C=>absurd C (XG _)⟩
     case round =>
      obtain⟨t,ht,rfl,P,o⟩:=hrel
      have V:=Qf P;have ag:=Qf o;clear P o S4;have z2:=Qb (M.out _ V.out).1 2 _ Yz;by_cases a1:t<y.code.length
      rotate_left
      ·have ae:¬ (t:Int)<y.code.length:=by omega
       go_wp2_with fail
       go_roundw
       case rel =>
        refine⟨q+1,by omega,by go_num,(M.out _ V.out).2,fun j u C U=>?_⟩
        by_cases aq:j<q
        ·exact ai.out j u aq U
        ·have:j=q:=by omega
         subst this;rw[ao.out] at U
         cases U
         rintro (h | h | h | h | h | h | h | ⟨z,hz,h⟩)
         ·exact D (.inl h)
         ·exact D (.inr (.inl h))
         ·exact D (.inr (.inr (.inl h)))
         ·exact D (.inr (.inr (.inr (.inl h))))
         ·exact D (.inr (.inr (.inr (.inr (.inl h)))))
         ·exact D (.inr (.inr (.inr (.inr (.inr (.inl h))))))
         ·exact D (.inr (.inr (.inr (.inr (.inr (.inr h))))))
         ·obtain⟨i,hi⟩:=List.mem_iff_getElem?.1 hz
          exact ag.out i z (by have:=(Zi hi).1;omega) hi h
       case measure=>simp[intOf];omega
      have ae:(t:Int)<y.code.length:=by omega
      have hz:y.code[t]?=some y.code[t]:=Zg a1;generalize y.code[t]=z at hz;have HZ:=Qf hz;obtain⟨g3,o3,i3,e3,E3,-⟩:=Qi4 ac.out.code hz
      rw[e3] at z2
      have ar:=Qk (show w.cell? ⟨g3,o3+t*8+6,none⟩=_ from E3 6 _ Yz) V.out.bel;have ax:=Qk (show w.cell? ⟨g3,o3+t*8+7,none⟩=_ from E3 7 _ Yz) V.out.bel;clear hz E3 e3;go_upto_region 18 with fail
      go_cut [122] (fun v wx=>v=.bool (decide (300<z.regs.length\/300<z.args.length))/\GbS w wx L2)
      case first =>
       by_cases h:(z.regs.length:Int)>300
       ·have d1:decide ((z.regs.length:Int)>300)=true:=Xt h;have E:decide (300<z.regs.length\/300<z.args.length)=true:=Xt (by omega);go_wp2
        go_meet;exact⟨by first | rfl | (rw[E];done) | (rw[E];rfl),V.out⟩
       ·have d1:decide ((z.regs.length:Int)>300)=false:=Xu h;have E:decide (300<z.regs.length\/300<z.args.length)=decide ((z.args.length:Int)>300):=by rw[decide_eq_decide];omega
        go_wp2
        all_goals
         go_meet;exact⟨by first | rfl | (rw[E];done) | (rw[E];rfl),V.out⟩
      case rest =>
       obtain⟨rfl,R⟩:=hcut
       have SU:=Qf R;clear R V z2 ar ax;by_cases c4:300<z.regs.length\/300<z.args.length
       ·rw[Xt c4]
        have E:=aa.out (.inr (.inr (.inr (.inr (.inr (.inr (.inr ⟨z,Zm HZ.out,c4⟩)))))));have I:=Qf SU.out.bel;clear SU c4;go_wp2_with fail
        go_ret;exact⟨by first | rfl | (rw[E];done) | (rw[E];rfl),I.out⟩
       ·rw[Xu c4]
        go_wp2_with fail
        go_roundw
        case rel =>
         refine⟨t+1,by omega,by go_num,SU.out,fun j u C U=>?_⟩
         by_cases aw:j<t
         ·exact ag.out j u aw U
         ·have:j=t:=by omega
          subst this;rw[HZ.out] at U
          cases U
          exact c4
        case measure=>simp[intOf];omega
theorem QjL {k:Nat}{m:List (MFunc k)}{fu:Int}(l:(QaN k).In w All m [.slice pm m.length cm]) (h:Qm m\/3000<fu) :
 Calls prog 11 #[.agg #[.slice pm m.length cm],Iv fu] w fun e w'=>e=.returned (.bool true)/\Below w.heap.size w w':=by
 have c:=Qc ((Bxs.start w).new #[.slice pm m.length cm] 24);have b:Hid (∀ d,Below w.heap.size w d->Calls prog 10 #[.agg #[.slice pm m.length cm]] d fun e w'=>e=.returned (.bool (ZQ (Qm m)))/\Below d.heap.size d w'):=fun d n=>Qae k m pm cm d (Ya l n);clear l;have H:=Qc h;clear h;go_enter func11,ntmps11
 go_upto_region 1 with fail
 generalize w.alloc (.cells #[.slice pm m.length cm] 24)=i at c |-;generalize w.heap.size=X at c |-;have q:i.cell? ⟨X,0,none⟩=some (.slice pm m.length cm):=c.out.cell (a:=[]) 0 _ Z;by_cases f:Qm m
 ·have b:=Qc (b.out i c.out.bel);rw[show ZQ (Qm m)=true from QC f] at b
  clear f;go_wp2_with fail
  refine b.out.mono ?_;rintro o p ⟨rfl,g⟩;have j:=Qc (c.out.below g);clear g;go_wp2
  go_ret;exact⟨Z,j.out.bel⟩
 ·have b:=Qc (b.out i c.out.bel);rw[show ZQ (Qm m)=false from QB f] at b
  have r:decide (fu>3000)=true:=Xt (by have:=H.out;rcases this with e | e;exact absurd e f;exact e);clear f;go_wp2_with fail
  refine b.out.mono ?_;rintro o p ⟨rfl,g⟩;have j:=Qc (c.out.below g);clear g;go_wp2
  go_ret;exact⟨Z,j.out.bel⟩
theorem Ql3 {d:Nat}{m:List (MFunc d)}{fu:Int}(g:(QaN d).In w All m [.slice pm m.length cm]) (h:¬ (Qm m\/3000<fu)) :
 Calls prog 11 #[.agg #[.slice pm m.length cm],Iv fu] w fun e w'=>e=.returned (.bool false)/\Below w.heap.size w w':=by
 have c:=Qc ((Bxs.start w).new #[.slice pm m.length cm] 24);have b:=Qae d m pm cm _ (Ya g (ZO w (.cells #[.slice pm m.length cm] 24)));rw[show ZQ (Qm m)=false from QB (fun e=>h (.inl e))] at b
 have b:Hid (Calls prog 10 #[.agg #[.slice pm m.length cm]] (w.alloc (.cells #[.slice pm m.length cm] 24)) fun e w'=>e=.returned (.bool false)/\Below (w.alloc (.cells #[.slice pm m.length cm] 24)).heap.size (w.alloc (.cells #[.slice pm m.length cm] 24)) w'):=b;have n:decide (fu>3000)=false:=Xu (fun e=>h (.inr e));clear g h;go_enter func11,ntmps11
 go_upto_region 1 with fail
 generalize w.alloc (.cells #[.slice pm m.length cm] 24)=i at c b |-;generalize w.heap.size=X at c |-;have k:i.cell? ⟨X,0,none⟩=some (.slice pm m.length cm):=c.out.cell (a:=[]) 0 _ Z;go_wp2_with fail
 refine b.out.mono ?_;rintro l o ⟨rfl,f⟩;have j:=Qc (c.out.below f);clear f;go_wp2
 go_ret;exact⟨Z,j.out.bel⟩
theorem QjI.below {lo:Nat}{N:RM}(h:QjI lo N v w) (b:Below w.heap.size w w'):QjI lo N v w':=by
 obtain⟨e,c,rfl,d,a⟩:=h
 exact⟨e,c,Z,d.below b,a.below b⟩
def QmB (w6:World) (b:Nat) (N:RM) (ab ao:Option Addr) (cb co:Nat) (t:Tmp) (v:Value) (w:World):Prop :=
 match ([(70,QjI w6.heap.size N)]:List (Tmp × (Value->World->Prop))).lookup t with
 | some p=>p v w
 | none=>v=(([(69,.pointer (some ⟨b,0,none⟩)),(71,.agg #[.int .i64 N.fin,.slice ab N.back.length cb,.slice ao N.out.length co,.int .i64 N.fuel]),(72,.bool true),(10,.bool true),(13,.pointer (some ⟨b,0,none⟩))]:List (Tmp × Value)).lookup t).getD undef
theorem Qoc {Z C F:Nat}{N:RM}{j l:Option Addr}(z:Blk w6 Z #[Iv N.fin,.slice j N.back.length C,.slice l N.out.length F,Iv N.fuel] 44) (lb:Qcw w6 j N.back) (lo:Qcw w6 l N.out) (hb:N.back.length<=100000) (R:N.out.length<=100000)
 (CO:Hid (∀ wx,Below w6.heap.size w6 wx->Calls prog 37 #[Pv b 0] wx fun e w'=>∃ v,e=.returned v/\QjI wx.heap.size N v w'/\Below wx.heap.size wx w'))
 (a:Act) (m:Nat) (T:a.tmps.size=m) (q:73<=m) (r:a.tmps.getD 11 undef=Pv Z 0) (D:a.tmps.getD 13 undef=Pv b 0) :
 Code.wp prog ((Tryz.f8.body.bind (Qi 16)).getD .skip) (fun e a' w'=>e=.normal/\∃ vs,a'=QM a vs [69,70,71,72,10]/\vs 10=.bool true/\Below w6.heap.size w6 w') a w6:=by
 have X:=Qb z 0 _ Yz;have z1:=Qb z 1 _ Yz;have V:=Qb z 2 _ Yz;have z3:=Qb z 3 _ Yz;conv=>arg 2;whnf
 refine Qdr (fun t v w=>if t=11 then v=Pv Z 0 else QmB w6 b N j l C F t v w) (fun w=>Below w6.heap.size w6 w) (fun w w'=>Below w.heap.size w w') (outs:=[11,13]) (gs:=[]) (bs:=[true,true,true,true,true]) (by kernel_rfl) (n:=73) T q (by kernel_rfl) ?hR ?hG (QI Zr 1) ⟨r,D,Y⟩ ?hA ?hend
 case hR =>
  intro t v w w' hr h;by_cases G:t=11
  ·rw[Xs G] at h |-;exact h
  rw[Xr G] at h |-
  unfold QmB at h |-;split at h
  ·rename_i p k
   simp only[List.lookup_cons,List.lookup_nil] at k
   split at k
   ·cases k;exact QjI.below h hr
   ·cases k
  ·exact h
 case hG=>exact Y
 case hend=>exact fun vs w' c f=>⟨Yz,vs,Yz,f 10 (by kernel_rfl),c⟩
 case hA =>
  refine⟨fun a w c f K g=>?_,?_⟩
  ·obtain⟨d,-⟩:=f
   have d:a.tmps.getD 13 undef=Pv b 0:=d;go_simp;exact g _ _ Zr c Yz
  refine⟨fun a w c f K g=>?_,?_⟩
  ·obtain⟨d,-⟩:=f
   have d:a.tmps.getD 69 undef=Pv b 0:=d;go_simp;refine Xm (CO.out w c) ?_;rintro U w7 ⟨v,rfl,h7,i⟩;go_simp;obtain⟨L,M,rfl,⟨H,B,O,E,y,P⟩,⟨J,o,W,q1,S,Q⟩⟩:=h7
   exact g _ _ i (c.trans (i.mono c.size)) ⟨L,M,Yz,⟨H,B,O,E,y,fun x s=>Zt c.size (P x s)⟩,⟨J,o,W,q1,S,fun x s=>Zt c.size (Q x s)⟩⟩
  refine⟨fun a w c f K g=>?_,?_⟩
  ·obtain⟨d,-⟩:=f
   have d:a.tmps.getD 11 undef=Pv Z 0:=d;have c0:=Qk X c;have B:=Qk z1 c;have o:=Qk V c;have c3:=Qk z3 c;go_simp;exact g _ _ Zr c Yz
  refine⟨fun a w c f K g=>?_,?_⟩
  ·obtain⟨d,I,-⟩:=f
   have d:QjI w6.heap.size N (a.tmps.getD 70 undef) w:=d;have I:a.tmps.getD 71 undef=.agg #[Iv N.fin,.slice j N.back.length C,.slice l N.out.length F,Iv N.fuel]:=I;obtain⟨L,M,aa,u,A⟩:=d
   obtain⟨H,B,rfl,-⟩:=id u
   obtain⟨J,o,rfl,-⟩:=id A
   have E:=u.lg.2;have y:=A.lg.2;clear u A;go_simp;refine Xm (Qb0 hb R E (lb.below c) y (lo.below c)) ?_;rintro U w7 ⟨rfl,i⟩;go_simp;exact g _ _ i (c.trans (i.mono c.size)) Yz
  refine⟨fun a w c f K g=>?_,?_⟩
  ·obtain⟨d,-⟩:=f
   have d:a.tmps.getD 72 undef=.bool true:=d;go_simp;exact g _ _ Zr c Yz
  trivial
def QgA (w:World) (inp:List Int) (most pages:Nat) (e:Ending) (w':World):Prop :=
 (∃ c a:Int,c≠0/\e=.returned (.tuple #[.pointer none,Qbw c a])/\Below w.heap.size w w')\/∃ o:List (MFunc 6),(modFault o).1=0/\QfL o most (RM.start inp pages)/\ROk o 0 (RM.start inp pages)/\QiS w o inp most pages e w'
structure QnC (w:World) (VM VO VI:Value) (m:List (MFunc 6)) (inp:List Int) (most pages:Nat):Prop where
 fine:(modFault m).1=0
 le:most<=20000
 goes:QfL m most (RM.start inp pages)
 ok:ROk m 0 (RM.start inp pages)
 run:∀ wx,Below w.heap.size w wx->Calls prog 30 #[VM,VI,Iv (most:Int),Iv (pages:Int)] wx fun e w'=>Qd8 wx m inp most pages e w'
 new:∀ wx,Below w.heap.size w wx->Calls prog 32 #[VM,VI,Iv (most:Int),Iv (pages:Int)] wx fun e w'=>QiS wx m inp most pages e w'
 other:∀ wx,Below w.heap.size w wx->Calls prog 32 #[VO,VI,Iv (most:Int),Iv (pages:Int)] wx fun e w'=>QgA wx inp most pages e w'
structure Qmm (w7:World) (bx F most:Nat) (m:List (MFunc 6)) (X0:RM) (yv:Value) (c:Int) (P:World->RM->Prop):Prop where
 at_:∀ wr X,P wr X->∃ g j,QeJ w7 wr bx most m X0 X g j/\j<=most+1
 fb:∀ wr X,P wr X->wr.cell? ⟨F,0,none⟩=some (Iv c)
 gx:∀ wr X,P wr X->X.done=false->Calls prog 34 #[Pv bx 0] wr fun e w'=>e=.returned (.tuple #[])/\∃ X',P w' X'/\(X'.done=false->X'.fuel=X.fuel+1)
 gy:c=0->∀ wr X,P wr X->Calls prog 34 #[yv] wr fun e w'=>e=.returned (.tuple #[])/\P w' X
theorem QgP {D w9 d:World}{C:Nat}{m:List (MFunc 6)}{l:WG}{e:Ending}(O:(modFault m).1=0) (s:most<=20000) (L:QfL m most (RM.start inp pages)) (R:ROk m 0 (RM.start inp pages))
 (Z:QeJ D w9 C most m (RM.start inp pages) (RM.start inp pages) l 0) (S:QgA w9 inp most pages e d) :
 ∃ (yv:Value) (c a:Int) (P:World->RM->Prop),e=.returned (.tuple #[yv,Qbw c a])/\Below w9.heap.size w9 d/\P (d.alloc (.cells #[Iv c,Iv a] 32)) (RM.start inp pages)/\Qmm D C d.heap.size most m (RM.start inp pages) yv c P:=by
 have H:=XC Z.at_.box;rcases S with ⟨c,a,hc,rfl,b⟩|⟨o,T,E,V,⟨v,r,rfl,M,K,I,⟨-,t⟩,b⟩⟩
 ·have B:=ZO d (.cells #[Iv c,Iv a] 32);have W:=b.size;refine⟨.pointer none,c,a,fun wr X=>∃ g j,QeJ D wr C most m (RM.start inp pages) X g j/\j<=most+1/\¬ g.A d.heap.size/\wr.heap[d.heap.size]?=some (.cells #[Iv c,Iv a] 32 (0,0)),Yz,b,⟨l,0,Z.below (b.trans (B.mono b.size)),Xb _,fun h=>by have:=Z.at_.lt _ h;omega,Qe _ _ _⟩,⟨?_,?_,?_,fun h=>absurd h hc⟩⟩
  ·rintro wr X ⟨g,j,f,n,-⟩;exact⟨g,j,f,n⟩
  ·rintro wr X ⟨g,j,f,n,G,z⟩;exact Qb z 0 _ Yz
  ·rintro wr X ⟨g,j,f,n,G,z⟩ u;refine(f.go O s L R u).mono ?_
   rintro e Q ⟨rfl,F,y,w,N,-,J⟩;have U:=XC z;exact⟨Yz,F,⟨y,j+1,w,by have:=f.fu u;have:=f.le;omega,fun h=>(N.own _ h).elim G (fun q=>by omega),(N.block _ U G).trans z⟩,J⟩
 ·have B:=ZO d (.cells #[Iv 0,Iv 0] 32);have W:=b.size;refine⟨Pv v 0,0,0,fun wr X=>∃ Y l r j k,Qdk D wr C v most m o (RM.start inp pages) (RM.start inp pages) X Y l r j k w9.heap.size d.heap.size #[Iv 0,Iv 0] 32/\j<=most+1,Yz,b,⟨_,l,r,0,0,Qdk.start Z H ?_ (M.below B) K I t (b.trans (B.mono b.size)) (Qe _ _ _) (fun h=>by have:=Z.at_.lt _ h;omega) (fun h=>by have:=M.lt _ h;omega),Xb _⟩,⟨?_,?_,?_,?_⟩⟩
  ·obtain⟨p,q,e,-⟩:=Z.at_.back
   exact⟨p,q,e,fun i hi=>absurd hi (XG i)⟩
  ·rintro wr X ⟨Y,l,r,j,k,f,n⟩;exact⟨l,j,f.x,n⟩
  ·rintro wr X ⟨Y,l,r,j,k,f,n⟩;exact Qb f.fb 0 _ Yz
  ·rintro wr X ⟨Y,l,r,j,k,f,n⟩ u;refine(f.goX O s L R u).mono ?_
   rintro e Q ⟨rfl,F,y,w,J⟩;exact⟨Yz,F,⟨Y,y,r,j+1,k,w,by have:=f.x.fu u;have:=f.x.le;omega⟩,J⟩
  ·rintro - wr X ⟨Y,l,r,j,k,f,n⟩;refine(f.goY T s E V).mono ?_
   rintro e Q ⟨rfl,Y',y,k',w⟩;exact⟨Yz,Y',l,y,j,k',w,n⟩
theorem QjU {dd de:Nat}{m:List (MFunc dd)}{o:List (MFunc de)}{z:Option Addr}{x:Nat}{fu pg:Int}
 (hM:(QaN dd).In w All m [.slice pm m.length cm]) (hO:(QaN de).In w All o [.slice z o.length x])
 (K:¬ Qm m->¬ Qm o->fu<=3000->(∃ c a:Int,c≠0/\∀ wx,Below w.heap.size w wx->Calls prog 30 #[.agg #[.slice pm m.length cm],.slice pi n ci,Iv fu,Iv pg] wx fun e w'=>e=.returned (Qh9 c a)/\Below wx.heap.size wx w') \/
  ∃ (m6:List (MFunc 6)) (inp:List Int) (most pages:Nat),fu=(most:Int)/\pg=(pages:Int)/\QnC w (.agg #[.slice pm m.length cm]) (.agg #[.slice z o.length x]) (.slice pi n ci) m6 inp most pages) :
 Calls prog 8 #[.agg #[.slice pm m.length cm],.agg #[.slice z o.length x],.slice pi n ci,Iv fu,Iv pg] w fun e w'=>e=.returned (.bool true)/\Below w.heap.size w w':=by
 have u:=((Bxs.start w).new #[.slice pm m.length cm] 24).new #[.slice z o.length x] 24;rw[World.size_alloc] at u
 have u:=Qc u;have HM:=Qc hM;have HO:=Qc hO;have y:=Qc K;clear hM hO K;go_enter func8,ntmps8
 go_upto_region 1 with fail
 generalize (w.alloc (.cells #[.slice pm m.length cm] 24)).alloc (.cells #[.slice z o.length x] 24)=w2 at u |-;generalize w.heap.size+1=X2 at u |-;generalize w.heap.size=X at u |-;go_wp2_with fail
 refine(Qfo w2).mono ?_
 rintro e3 w3 ⟨rfl,b3⟩;have L:=Qc (u.out.below b3);clear b3 u;have M:w3.cell? ⟨X,0,none⟩=some (.slice pm m.length cm):=L.out.cell (a:=[_]) 0 _ Yz;by_cases hl:Qm m\/3000<fu
 ·have CL:=Qc (QjL (Ya HM.out L.out.bel) hl);clear hl;go_wp2_with fail
  refine CL.out.mono ?_;rintro e4 w4 ⟨rfl,W⟩;have C:=Qc (L.out.below W);clear W;go_wp2
  go_ret;exact⟨Yz,C.out.bel⟩
 have CL:=Qc (Ql3 (Ya HM.out L.out.bel) hl);have HG:=Qc hl;clear hl;go_wp2_with fail
 refine CL.out.mono ?_;rintro e4 w4 ⟨rfl,W⟩;have C:=Qc (L.out.below W);clear W L CL M;have x1:w4.cell? ⟨X2,0,none⟩=some (.slice z o.length x):=C.out.cell (a:=[]) 0 _ Yz;have s:=Qae de o z x w4 (Ya HO.out C.out.bel);by_cases hg:Qm o
 ·rw[show ZQ (Qm o)=true from QC hg] at s
  have s:=Qc s;clear hg;go_wp2_with fail
  refine s.out.mono ?_;rintro e5 w5 ⟨rfl,b5⟩;have i:=Qc (C.out.below b5);clear b5;go_wp2
  go_ret;exact⟨Yz,i.out.bel⟩
 rw[show ZQ (Qm o)=false from QB hg] at s
 have s:=Qc s;have ae:=Qc hg;clear hg;go_wp2_with fail
 refine s.out.mono ?_;rintro e5 w5 ⟨rfl,b5⟩;have i:=Qc (C.out.below b5);clear b5 C s x1;have M:w5.cell? ⟨X,0,none⟩=some (.slice pm m.length cm):=i.out.cell (a:=[_]) 0 _ Yz;have h3:fu<=3000:=by have:=HG.out;omega
 have K6:=y.out (fun e=>HG.out (.inl e)) ae.out h3;clear h3;rcases K6 with ⟨c,a,h,H⟩|⟨m6,inp,most,pages,rfl,rfl,Y6⟩
 ·have H:=Qc (H w5 i.out.bel);have d0:(c != 0)=true:=bne_iff_ne.2 h;clear h;go_wp2_with fail
  refine H.out.mono ?_;rintro e6 B ⟨rfl,O⟩;have b:=((i.out.below O).new #[Iv 0,Nv,Nv,Iv 0] 44).new #[Iv c,Iv a] 32;rw[World.size_alloc] at b
  have b:=Qc b;clear O H M i;simp only[Qh9,Qbw]
  go_upto_region 6 with fail
  generalize (B.alloc (.cells #[Iv 0,Nv,Nv,Iv 0] 44)).alloc (.cells #[Iv c,Iv a] 32)=f at b |-;generalize B.heap.size+1=F at b |-;generalize B.heap.size=Z at b |-;have f0:f.cell? ⟨F,0,none⟩=some (Iv c):=b.out.cell (a:=[]) 0 _ Yz;have o0:f.cell? ⟨Z,0,none⟩=some (Iv 0):=b.out.cell (a:=[_]) 0 _ Yz;have o1:f.cell? ⟨Z,1,none⟩=some (Nv):=b.out.cell (a:=[_]) 1 _ Yz;have o2:f.cell? ⟨Z,2,none⟩=some (Nv):=b.out.cell (a:=[_]) 2 _ Yz;have o3:f.cell? ⟨Z,3,none⟩=some (Iv 0):=b.out.cell (a:=[_]) 3 _ Yz;have CS:Hid (∀ n,Calls prog 26 #[.agg #[Iv 0,Nv,Nv,Iv 0],.agg #[Iv 0,Nv,Nv,Iv 0]] (f.drewN n) fun e w'=>e=.returned (.bool true)/\Below (f.drewN n).heap.size (f.drewN n) w'):=fun n=>Qb0 (l:=[]) (r:=[]) (by decide) (by decide) (Qcw.nil _ _) (Qcw.nil _ _) (Qcw.nil _ _) (Qcw.nil _ _);go_wp2_with fail
  refine(CS.out 0).mono ?_
  rintro e8 w8 ⟨rfl,E⟩;have B8:=Qc (b.out.below E);clear E;go_wp2
  go_ret;exact⟨Yz,B8.out.bel⟩
 have q:=Qc Y6;clear Y6 y;have H:=Qc (q.out.run w5 i.out.bel);go_wp2_with fail
 refine H.out.mono ?_;rintro e6 B ⟨N,v,hN,dN,⟨vb,vo,rfl,hb,ho⟩,rfl,O⟩;obtain⟨ab,cb,rfl,-⟩:=id hb
 obtain⟨ao,cq,rfl,-⟩:=id ho
 have b:=((i.out.below O).new #[Iv N.fin,.slice ab N.back.length cb,.slice ao N.out.length cq,Iv N.fuel] 44).new #[Iv 0,Iv 0] 32;rw[World.size_alloc] at b
 have b:=Qc b;have t:=Qc hb.lg.2;have k:=Qc ho.lg.2;have HN:=Qc hN;clear O H M i hb ho hN dN;simp only[Qbw]
 go_upto_region 6 with fail
 have b7:=Qk8 B (.cells #[Iv N.fin,.slice ab N.back.length cb,.slice ao N.out.length cq,Iv N.fuel] 44) (.cells #[Iv 0,Iv 0] 32);have t:=Qc (t.out.below b7);have k:=Qc (k.out.below b7);clear b7;generalize (B.alloc (.cells #[Iv N.fin,.slice ab N.back.length cb,.slice ao N.out.length cq,Iv N.fuel] 44)).alloc (.cells #[Iv 0,Iv 0] 32)=f at b t k |-;generalize B.heap.size+1=F at b |-;generalize B.heap.size=Z at b |-;have f0:f.cell? ⟨F,0,none⟩=some (Iv 0):=b.out.cell (a:=[]) 0 _ Yz;have M:f.cell? ⟨X,0,none⟩=some (.slice pm m.length cm):=b.out.cell (a:=[_,_,_]) 0 _ Yz;have CN:=Qc (q.out.new f b.out.bel);go_upto_region 8 with fail
 go_wp2_with fail
 refine CN.out.mono ?_;rintro e8 w8 ⟨bx,gx,rfl,S8,ac,af,⟨S,Q⟩,E⟩;have b9:=ZO w8 (.cells #[Iv 0,Iv 0] 32);have ZX:Hid (QeJ f (w8.alloc (.cells #[Iv 0,Iv 0] 32)) bx most m6 (RM.start inp pages) (RM.start inp pages) gx 0):=⟨S8.below b9,ac,E.trans (b9.mono E.size),Yz,fun _=>rfl,Xb _,fun _=>rfl⟩;have I:=Qc ((b.out.below E).new #[Iv 0,Iv 0] 32);clear S8 ac af S Q E b9 CN f0 M;simp only[Qbw]
 go_upto_region 9 with fail
 generalize w8.alloc (.cells #[Iv 0,Iv 0] 32)=w9 at ZX I |-;generalize w8.heap.size=F3 at I |-;have x1:w9.cell? ⟨X2,0,none⟩=some (.slice z o.length x):=I.out.cell (a:=[_,_,_]) 0 _ Yz;have CY:=Qc (q.out.other w9 I.out.bel);go_wp2_with fail
 refine CY.out.mono ?_;intro ai V hE;obtain⟨yv,c,a,P,rfl,U,hP,p⟩:=QgP q.out.fine q.out.le q.out.goes q.out.ok ZX.out hE
 have G:=Qc ((I.out.below U).new #[Iv c,Iv a] 32);have p:=Qc p;have HP:=Qc hP;clear hE hP U CY x1 ZX I;simp only[Qbw]
 go_upto_region 10 with fail
 generalize V.alloc (.cells #[Iv c,Iv a] 32)=ad at G HP |-;generalize V.heap.size=F4 at G p |-;have g0:ad.cell? ⟨F3,0,none⟩=some (Iv 0):=G.out.cell (a:=[_]) 0 _ Yz;go_upto_region 12 with fail
 clear g0;go_loopw [] (fun wr=>∃ X,P wr X) (fun wr=>Qk3 bx most wr)
 case atStart=>exact⟨_,HP.out⟩
 case round =>
  obtain⟨T,hX⟩:=hrel
  obtain⟨g,j,A,hj⟩:=p.out.at_ _ _ hX
  have CD:=Qc (Qfp A.at_)
  cases hd:T.done with
  | false =>
    have CX:=Qc (p.out.gx _ _ hX hd);have HL:=Qc A.at_.left;rw[hd] at CD HL
    clear hX A hd hj;go_upto_region 13 with (go_at_call 33;refine CD.out.mono ?_;rintro e' w' ⟨rfl,D⟩;have D:=D.symm;subst D)
    go_wp2_with fail
    refine CX.out.mono ?_;rintro e' ag ⟨rfl,X',d,hf⟩;have f4:=p.out.fb _ _ d;by_cases h:c=0
    ·have CY:=Qc (p.out.gy h _ _ d);have d1:decide (c=0)=true:=Xt h;have d2:(c==0)=true:=beq_iff_eq.2 h;clear d h;go_wp2_with fail
     refine CY.out.mono ?_;rintro e' ah ⟨rfl,d⟩;go_wp2_with fail
     go_roundw
     case rel=>exact⟨_,d⟩
     case measure =>
      obtain⟨g',j',Z',-⟩:=p.out.at_ _ _ d
      rw[HL.out,Z'.at_.left]
      have h6:=Z'.le
      cases hd6:X'.done with
      | true=>simp
      | false=>have:=hf hd6;simp;omega
    ·have d1:decide (c=0)=false:=Xu h;have d2:(c==0)=false:=beq_eq_false_iff_ne.2 h;clear h;go_wp2_with fail
     go_roundw
     case rel=>exact⟨_,d⟩
     case measure =>
      obtain⟨g',j',Z',-⟩:=p.out.at_ _ _ d
      rw[HL.out,Z'.at_.left]
      have h6:=Z'.le
      cases hd6:X'.done with
      | true=>simp
      | false=>have:=hf hd6;simp;omega
  | true =>
    have he:T=N:=Xn ((A.end_ hj hd).symm.trans HN.out);have J:=Qdd q.out.fine q.out.ok j A.st;have y:Hid (T.out.length<=100000/\T.back.length<=100000):=⟨by have:=J.out.1;omega,by have:=J.out.2;omega⟩;have CO:Hid (∀ wx,Below wr.heap.size wr wx->Calls prog 37 #[Pv bx 0] wx fun e w'=>∃ v,e=.returned v/\QjI wx.heap.size T v w'/\Below wx.heap.size wx w'):=fun wx bx=>Qch (A.at_.below bx) (by have:=y.out.1;omega) (by have:=y.out.2;omega);have R:=Qc A.bel;have HE:=Qc he;rw[hd] at CD
    clear A hX hd hj he J;go_upto_region 16 with (go_at_call 33;refine CD.out.mono ?_;rintro e' w' ⟨rfl,D⟩;have D:=D.symm;subst D)
    rw[HE.out] at CO y
    refine Code.wp_mono ?_ (Qoc (Blk.below (b.out.at (a:=[_])) R.out) (t.out.below R.out) (k.out.below R.out) y.out.2 y.out.1 CO _ _ Yz (Xg (by kernel_rfl)) Yz Yz);rintro _ _ aj ⟨rfl,vs,rfl,hv,aa⟩;have BZ:=Qc (b.out.bel.trans ((R.out.trans (aa.mono R.out.size)).mono b.out.bel.size));simp only[QM,Act.put,List.setIfInBounds_toArray,List.set_cons_zero,List.set_cons_succ,hv]
    clear hv aa;go_wp2
    go_ret;exact⟨Yz,BZ.out⟩
def Qmu (w:World) (pm:Option Addr) (ml cm:Nat):Prop :=
 (∃ c0 a0:Int,c0≠0/\∀ wx,Below w.heap.size w wx->Calls prog 66 #[.agg #[.slice pm ml cm]] wx fun e w'=>e=.returned (Qbw c0 a0)/\Below wx.heap.size wx w') \/
 ∃ m:List (MFunc 6),m.length=ml/\(QjP 6).In w All m [.slice pm ml cm]/\¬ Qm m/\(Qq m).1=0
theorem QhL {w:World}{m:List (MFunc n)}{pm:Option Addr}{cm:Nat}(d:(QhH n).In w All m [.slice pm m.length cm]) :
 ∃ (dd:Nat) (m':List (MFunc dd)),m'.length=m.length/\(QaN dd).In w All m' [.slice pm m'.length cm]/\(¬ Qm m'->Qmu w pm m'.length cm):=by
 by_cases e:(modFault m).1=0
 ·have g:m.length=(m.map (MFunc.at 5)).length:=(XN _).symm;have a:(QhH 6).In w All (m.map (MFunc.at 5)) [.slice pm (m.map (MFunc.at 5)).length cm]:=by rw[<-g];exact Qlx (Qlt e) d
  refine⟨6,m.map (MFunc.at 5),g.symm,(QfY 6).2 a,fun b=>?_⟩
  generalize m.map (MFunc.at 5)=f at a b;by_cases r:(Qq f).1=0
  ·exact .inr ⟨f,Z,(Qgm 6).2 a,b,r⟩
  ·exact .inl ⟨_,_,r,fun h c=>QbZ (Ya ((Qgm 6).2 a) c) (ZD b) (fun _=>b)⟩
 ·exact⟨n,m,Z,(QfY n).2 d,fun b=>.inl ⟨_,_,e,fun h c=>Qcm (Ya ((QfY n).2 d) c) (ZD b) e⟩⟩
section
variable {w:World}{inp:List Int}{most pages ml cm ci:Nat}{pm pi:Option Addr}{fu pg:Int}
def Qd2 (n:Nat) (fu pg:Int):Prop:=¬ (200<n\/fu<0\/20000<fu\/pg<0\/64<pg)
theorem QiJ {m:List (MFunc 6)}(c:(QjP 6).In w All m [.slice pm m.length cm]) (a:¬ Qm m) (H:(Qq m).1=0) (d:intsL.In w All inp [.slice pi inp.length ci]) (hi:inp.length<=200) (h:most<=20000) (f:pages<=64) :
 Calls prog 32 #[.agg #[.slice pm m.length cm],.slice pi inp.length ci,Iv (most:Int),Iv (pages:Int)] w fun e w'=>QiS w m inp most pages e w' :=
 QgI ((QbI 6).2 c) (ZD a) d (QmC d) hi h f (fun g b=>Qda c (ZD a) a H g b)
theorem Qmu.other (h:Qmu w pm ml cm) (q:intsL.In w All inp [.slice pi inp.length ci]) (hi:inp.length<=200) (p:most<=20000) (d:pages<=64) (f:World) (b:Below w.heap.size w f) :
 Calls prog 32 #[.agg #[.slice pm ml cm],.slice pi inp.length ci,Iv (most:Int),Iv (pages:Int)] f fun e w'=>QgA f inp most pages e w':=by
 rcases h with ⟨c,a,i,j⟩|⟨m,rfl,o,l,H⟩
 ·exact(Qh6 (fun n g=>j n (b.trans (g.mono b.size))) (by omega) (.inl ⟨i,Z,Z⟩)).mono fun e w' h=>.inl ⟨c,a,i,h.1,h.2⟩
 ·exact(QiJ (Ya o b) l H (Ya q b) hi p d).mono fun e w' h=>.inr ⟨m,ZZ H,fun k=>Qef H inp d k,QcD (ZZ H) (by omega) d,h⟩
theorem Qmu.run (h:Qmu w pm ml cm) (q:intsL.In w All inp [.slice pi inp.length ci]) (n:inp.length<1152921504606846976) (o:Value)
 (u:Qd2 inp.length fu pg->∀ most pages:Nat,fu=(most:Int)->pg=(pages:Int)->∀ wx,Below w.heap.size w wx->Calls prog 32 #[o,.slice pi inp.length ci,Iv (most:Int),Iv (pages:Int)] wx fun e w'=>QgA wx inp most pages e w') :
 (∃ c a:Int,c≠0/\∀ wx,Below w.heap.size w wx->Calls prog 30 #[.agg #[.slice pm ml cm],.slice pi inp.length ci,Iv fu,Iv pg] wx fun e w'=>e=.returned (Qh9 c a)/\Below wx.heap.size wx w') \/
  ∃ (m6:List (MFunc 6)) (i6:List Int) (most pages:Nat),fu=(most:Int)/\pg=(pages:Int)/\QnC w (.agg #[.slice pm ml cm]) o (.slice pi inp.length ci) m6 i6 most pages:=by
 rcases h with ⟨c,a,s,t⟩|⟨m,rfl,j,f,H⟩
 ·exact .inl ⟨c,a,s,fun wx b=>QfK (fun i d=>t i (b.trans (d.mono b.size))) n (.inl ⟨s,Z,Z⟩)⟩
 by_cases r:200<inp.length\/fu<0\/20000<fu\/pg<0\/64<pg
 ·exact .inl ⟨1,-1,by decide,fun wx b=>QfK (fun i d=>Qda j (ZD f) f H i (b.trans (d.mono b.size))) n (.inr ⟨Z,r,Z,Z⟩)⟩
 ·obtain⟨most,rfl⟩:∃ k:Nat,fu=(k:Int):=⟨fu.toNat,by omega⟩
  obtain⟨pages,rfl⟩:∃ k:Nat,pg=(k:Int):=⟨pg.toNat,by omega⟩
  have p:inp.length<=200:=by omega
  have l:most<=20000:=by omega
  have g:pages<=64:=by omega
  exact .inr ⟨m,inp,most,pages,Z,Z,ZZ H,l,fun k=>Qef H inp g k,QcD (ZZ H) (by omega) g,fun wx b=>QhY (Ya j b) (ZD f) f H (Ya q b) p l g,fun wx b=>QiJ (Ya j b) f H (Ya q b) p l g,u r most pages Z Z⟩
end
theorem QgT {w:World}{m:List (MFunc n)}{o:List (MFunc k)}{pm d pi:Option Addr}{cm h ci:Nat}{inp:List Int}{fu pg:Int}(u:(QhH n).In w All m [.slice pm m.length cm]) (r:(QhH k).In w All o [.slice d o.length h]) (g:intsL.In w All inp [.slice pi inp.length ci]) (p:inp.length<1152921504606846976) :
 Calls prog 8 #[.agg #[.slice pm m.length cm],.agg #[.slice d o.length h],.slice pi inp.length ci,Iv fu,Iv pg] w fun e w'=>e=.returned (.bool true)/\Below w.heap.size w w':=by
 obtain⟨A,B,q,v,i⟩:=QhL u
 obtain⟨s,C,t,l,j⟩:=QhL r
 rw[<-q,<-t]
 exact QjU v l fun x b _=>(i x).run g p _ fun a f c y z=>(j b).other g (by unfold Qd2 at a;omega) (by unfold Qd2 at a;omega) (by unfold Qd2 at a;omega)
end Go.Proofs.YtjhdpajpibdnaafGreat
