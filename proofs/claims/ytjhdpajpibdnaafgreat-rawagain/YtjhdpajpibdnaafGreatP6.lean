import Derived.Test.YtjhdpajpibdnaafGreatP5
set_option maxHeartbeats 16000000
set_option maxRecDepth 100000
namespace Go.Proofs.YtjhdpajpibdnaafGreat
open Go.ChangeShapes Go.WideShapes Go.ChangeAt Go.RowKit _root_.Go.Proofs.Tryz
set_option linter.unusedSimpArgs false
set_option linter.unusedVariables false
variable {w w' w6 w1 w2:World}{n b c k m rc ac X j B i cm g N d f fi cap bp q R pages id bi cc funcs s ci rl al ca ri vl most cR cA G:Nat}{O Q O':Nat→Prop}{l xs regs inp:List Int}{p a rg ag pm pi pa pR pA ra aa:Option Addr}{t e:TypeId}{v:Value}{P:Program}{L bs:List Bool}{x ya xc xk fr xa xb xn yb:Int}{ds cs:List Value}{ops:Array Oper}
def fI:Qs:=⟨1,0,0,0,0,5,[],[]⟩
def fE:ZC:=⟨3,0,⟨0,[],[]⟩,⟨0,[],[]⟩,[0]⟩
def fB:MBlock 6:=⟨0,[],[fI],fE⟩
def fF:MFunc 6:=⟨0,[],[tInt],[fB]⟩
def five6:List (MFunc 6):=[fF]
theorem five_fault:modFault five6=(0,0):=by decide +kernel
abbrev fBc (G1 Gc Gi:Nat):Array Value:=#[Iv 0,Nv,.slice (some ⟨Gc,0,none⟩) 1 1,Iv 3,Iv 0,Iv 0,Nv,Nv,Iv 0,Nv,Nv,.slice (some ⟨Gi,0,none⟩) 1 1]
theorem QnC (w:World):intsL.In w All ([]:List Int) [Nv]:=Yg _ _ _ _ _
theorem Ql5 (w:World):(Lay.tt 6).In w All tInt [Iv 1,Iv 0,Nv]:=⟨none,0,Z,fun i x h=>by simp[tInt] at h,by unfold tInt;exact⟨by decide,fun x h=>by simp at h⟩⟩
theorem Qd7 {f:MFunc 6}(o:f.params=[]) (k:f.results.length<=1) (a:∀ t∈f.results,t.count<=1){b:MBlock 6}(c:f.blocks=[b]) (m:b.params=[]) (u:b.code.length<=40) (l:b.fin.yes.regs=[]/\b.fin.yes.args=[]/\b.fin.no.regs=[]/\b.fin.no.args=[]/\b.fin.args.length<=1) (j:∀ x∈b.code,x.regs=[]/\x.args=[]):¬ Qm [f]:=by
 rintro (h | ⟨x,g,h⟩)
 ·exact absurd h (by simp)
 ·simp only[List.mem_singleton] at g
  subst g;rcases h with h | h | h | ⟨y,d,h⟩
  ·rw[c] at h;exact absurd h (by simp)
  ·rw[o] at h
   rcases h with h | ⟨t,a,_⟩
   ·exact absurd h (by simp)
   ·cases a
  ·rcases h with h | ⟨t,e,h⟩
   ·have:=k;omega
   ·have:=a t e;omega
  ·rw[c] at d
   simp only[List.mem_singleton] at d
   subst d;obtain⟨q,n,i,r,s⟩:=l
   rcases h with h | h | h | h | h | h | h | ⟨z,p,h⟩
   ·omega
   ·rw[m] at h
    rcases h with h | ⟨t,a,_⟩
    ·exact absurd h (by simp)
    ·cases a
   ·omega
   ·rw[q] at h;exact absurd h (by simp)
   ·rw[n] at h;exact absurd h (by simp)
   ·rw[i] at h;exact absurd h (by simp)
   ·rw[r] at h;exact absurd h (by simp)
   ·have c:=j z p;rw[c.1,c.2] at h
    exact absurd h (by simp)
theorem five_not:¬ Qm five6:=Qd7 (b:=fB) Z (by decide) (fun t a=>by simp only[fF,List.mem_singleton] at a;subst a;decide) Z Z (by decide) ⟨Z,Z,Z,Z,by decide⟩ (fun x c=>by simp only[fB,List.mem_singleton] at c;subst c;exact⟨Z,Z⟩)
theorem two_not:¬ Qm two6:=Qd7 (b:=tB) Z (by decide) (fun t c=>by cases c) Z Z (by decide) ⟨Z,Z,Z,Z,by decide⟩ (fun x a=>by have a:x∈two1:=a;simp only[two1,List.mem_cons,List.not_mem_nil,or_false] at a;rcases a with rfl | rfl | rfl | rfl<;>exact⟨Z,Z⟩)
theorem Qie (w:World):Calls prog 38 #[] w fun e w'=>∃ I C T Y G2 G1 R,e=.returned (.agg #[.slice (some ⟨G2,0,none⟩) 1 1])/\Bxs w w' [(I,#[Iv 0],3),(C,#[Iv 1,Iv 0,Iv 0,Iv 0,Iv 0,Iv 5,Nv,Nv],78),(T,#[Iv 1,Iv 0,Nv],105),(Y,#[.slice (some ⟨G2,0,none⟩) 1 1],24),(G2,#[Iv 0,Nv,.slice (some ⟨T,0,none⟩) 1 1,.slice (some ⟨G1,0,none⟩) 1 1],89),(G1,fBc G1 C I,86),(R,#[.slice (some ⟨G2,0,none⟩) 1 1],24)]:=by
 have h:=Qa ((Bxs.start w).new #[Nv] 24);go_enter func38,ntmps38
 go_upto_region 1 with fail
 generalize w.alloc (.cells #[Nv] 24)=D at h |-;generalize w.heap.size=R at h |-;go_wp2_with fail
 refine(Qjj D).mono ?_
 rintro J s ⟨G1,G2,rfl,y,z,B,u,A,x⟩;have k:=Qa (((h.out.made x y B).add z (Zt h.out.bel.size u) (fun b t=>by simp only[List.mem_cons,List.not_mem_nil,or_false] at t;rcases t with rfl | rfl;exact A;exact fun e=>by have M:R<D.heap.size:=(h.out.at (a:=[])).lt;have e:R=G2:=e;omega)).new #[.slice (some ⟨G2,0,none⟩) 1 1] 24);clear y z B u A x h;go_upto_region 2 with fail
 generalize s.alloc (.cells #[.slice (some ⟨G2,0,none⟩) 1 1] 24)=n at k |-;generalize s.heap.size=Y at k |-;have o:=Qa (k.out.new #[Iv 1,Iv 0,Nv] 105);have i:=k.out.cell (a:=[]) 0 _ Z;have H:=o.out.cell (a:=[_,_]) 2 _ Z;have l:=o.out.free (a:=[_,_]) 2;go_upto_region 3 with fail
 have g:=Qa (o.out.set (a:=[_,_]) 2 (.slice (some ⟨n.heap.size,0,none⟩) 1 1));clear k o i H l;generalize (n.alloc (.cells #[Iv 1,Iv 0,Nv] 105)).setCell ⟨G2,2,none⟩ (.slice (some ⟨n.heap.size,0,none⟩) 1 1)=f at g |-;generalize n.heap.size=T at g |-;have p:=Qa (g.out.new #[Iv 1,Iv 0,Iv 0,Iv 0,Iv 0,Iv 5,Nv,Nv] 78);have i:f.cell? ⟨Y,0,none⟩=some (.slice (some ⟨G2,0,none⟩) 1 1):=g.out.cell (a:=[_]) 0 _ Z;have q:f.cell? ⟨G2,3,none⟩=some (.slice (some ⟨G1,0,none⟩) 1 1):=g.out.cell (a:=[_,_]) 3 _ Z;have r:=p.out.cell (a:=[_,_,_,_]) 2 _ Z;have l:=p.out.free (a:=[_,_,_,_]) 2;go_upto_region 4 with fail
 have c:=Qa (p.out.set (a:=[_,_,_,_]) 2 (.slice (some ⟨f.heap.size,0,none⟩) 1 1));clear g p i q r l;generalize (f.alloc (.cells #[Iv 1,Iv 0,Iv 0,Iv 0,Iv 0,Iv 5,Nv,Nv] 78)).setCell ⟨G1,2,none⟩ (.slice (some ⟨f.heap.size,0,none⟩) 1 1)=j at c |-;generalize f.heap.size=C at c |-;have m:=Qa (c.out.new #[Iv 0] 3);have i:j.cell? ⟨Y,0,none⟩=some (.slice (some ⟨G2,0,none⟩) 1 1):=c.out.cell (a:=[_,_]) 0 _ Z;have q:j.cell? ⟨G2,3,none⟩=some (.slice (some ⟨G1,0,none⟩) 1 1):=c.out.cell (a:=[_,_,_]) 3 _ Z;have r:=m.out.cell (a:=[_,_,_,_,_]) 11 _ Z;have l:=m.out.free (a:=[_,_,_,_,_]) 11;go_upto_region 5 with fail
 have d:=Qa (m.out.set (a:=[_,_,_,_,_]) 11 (.slice (some ⟨j.heap.size,0,none⟩) 1 1));clear c m i q r l;generalize (j.alloc (.cells #[Iv 0] 3)).setCell ⟨G1,11,none⟩ (.slice (some ⟨j.heap.size,0,none⟩) 1 1)=G at d |-;generalize j.heap.size=I at d |-;have i:G.cell? ⟨Y,0,none⟩=some (.slice (some ⟨G2,0,none⟩) 1 1):=d.out.cell (a:=[_,_,_]) 0 _ Z;have K:=d.out.cell (a:=[_,_,_,_,_,_]) 0 _ Z;have L:=d.out.free (a:=[_,_,_,_,_,_]) 0;have E:=Qa (d.out.set (a:=[_,_,_,_,_,_]) 0 (.slice (some ⟨G2,0,none⟩) 1 1));go_wp2
 have F:=E.out.cell (a:=[_,_,_,_,_,_]) 0 _ Z;refine Xy (v:=.agg #[.slice (some ⟨G2,0,none⟩) 1 1]) (by simp[results,results38,go_sem,F]) Z ⟨_,_,_,_,G2,_,_,Z,E.out⟩
def retE:ZC:=⟨3,0,⟨0,[],[]⟩,⟨0,[],[]⟩,[]⟩
def MBlock.outl {n:Nat}(b:MBlock n):MBlock n:=⟨b.regs,b.params,[],retE⟩
def MFunc.outl {n:Nat}(f:MFunc n):MFunc n:=⟨f.regs,f.params,f.results,f.blocks.map MBlock.outl⟩
def outl {n:Nat}(m:List (MFunc n)):List (MFunc n):=m.map MFunc.outl
def JSt.outl (s:JSt):JSt:=⟨Go.Proofs.YtjhdpajpibdnaafGreat.outl s.m,s.f.outl,s.H,s.L⟩
theorem Qa9 (m:List (MFunc n)):(outl m).length=m.length:=XN _
theorem Qd9 (m:List (MFunc n)) (k:Nat):(outl m)[k]?=(m[k]?).map MFunc.outl:=XS
theorem Qgj (f:MFunc n):f.outl.blocks.length=f.blocks.length:=XN _
theorem Qk7 (f:MFunc n) (k:Nat):f.outl.blocks[k]?=(f.blocks[k]?).map MBlock.outl:=XS
theorem Qc0 (s:JSt) (l:List Int) (ts:List (TT 6)) (a:List Int):s.outl.args l ts a=s.args l ts a:=rfl
theorem QcT (s:JSt):∀ l,s.outl.fields l=s.fields l
 | []=>rfl
 | k::r=>by
   have a:s.outl.at k=s.at k:=rfl;simp only[JSt.fields,a,QcT s r]
theorem QdG (s:JSt) (x:Qs):s.outl.makes x=s.makes x:=by
 have g:∀ k,s.outl.at k=s.at k:=fun _=>rfl;have e:∀ a b c,s.outl.want a b c=s.want a b c:=fun _ _ _=>rfl;have i:s.outl.H=s.H:=rfl;have d:s.outl.f.regs=s.f.regs:=rfl;have h:s.outl.m[x.k.toNat]?=(s.m[x.k.toNat]?).map MFunc.outl:=Qd9 _ _;unfold JSt.makes;rw[h]
 simp only[g,e,i,d,QcT,Qc0]
 cases s.m[x.k.toNat]?<;>rfl
theorem QeI (s:JSt) (x:Qs):s.outl.code x=s.code x:=by
 have b:s.outl.m.length=s.m.length:=Qa9 _;have a:s.outl.L=s.L:=rfl;unfold JSt.code;rw[b,QdG,a]
theorem QjG (s:JSt) (x:Qs):s.outl.next x=(s.next x).outl:=by
 unfold JSt.next
 rw[QdG]
 rfl
theorem QjQ (s:JSt) (x:Qs):s.outl.ins x=(s.ins x).outl:=by
 unfold JSt.ins;rw[QeI]
 split
 ·exact QjG s x
 ·rfl
theorem Qi2 (s:JSt) (t:MTo):s.outl.to t=s.to t:=by
 have a:s.outl.f.blocks[t.block.toNat]?=(s.f.blocks[t.block.toNat]?).map MBlock.outl:=Qk7 _ _;have b:s.outl.f.regs=s.f.regs:=rfl;have c:s.outl.H=s.H:=rfl;unfold JSt.to;rw[a]
 simp only[b,c,Qc0]
 cases s.f.blocks[t.block.toNat]?<;>rfl
theorem QkM (s:JSt) (e:ZC):s.outl.fin e=s.fin e:=by
 have h:s.outl.f.blocks.length=s.f.blocks.length:=Qgj _;have d:s.outl.f.regs=s.f.regs:=rfl;have j:s.outl.H=s.H:=rfl;have i:s.outl.f.results=s.f.results:=rfl;have g:∀ a b c,s.outl.want a b c=s.want a b c:=fun _ _ _=>rfl;unfold JSt.fin;rw[h,Qi2,Qi2,d,j,i,g,Qc0]
theorem QgS (m:List (MFunc 6)) (f:MFunc 6) (b:MBlock 6):JSt.start (outl m) f.outl b.outl=(JSt.start m f b).outl:=rfl
theorem Qhw {fn:MFunc n}{x:MBlock n}(h:(MBlock.fault funcs f fn b x).1=0):(MBlock.fault funcs f fn.outl b x.outl).1=0:=by
 unfold MBlock.fault at h |-;split at h
 ·cases h
 rename_i j
 split at h
 ·rename_i c;exact absurd h c
 rename_i c
 split at h
 ·cases h
 rename_i k
 have a:¬ (x.outl.regs<fn.outl.regs\/16<x.outl.regs):=j;have g:¬ listC x.outl.regs x.outl.params≠0:=c;have d:¬ (b=0/\(x.outl.regs≠fn.outl.regs\/Qc3 x.outl.params fn.outl.params=false)):=k;have l:¬ 40<x.outl.code.length:=by show ¬ 40<0;omega
 have m:¬ (firstF (fun i y=>(Qs.form funcs y,(10000*f+100*b+i:Int))) 0 x.outl.code).1≠0:=fun e=>e Z
 have o:¬ x.outl.fin.form fn.outl.blocks.length≠0:=fun e=>e (by
  show ZC.form _ retE=0;simp[ZC.form,retE,MTo.form])
 rw[Xr a,Xr g,Xr d,Xr l,Xr m,Xr o]
theorem QiB {x:MFunc n}(h:(MFunc.fault funcs f x).1=0):(MFunc.fault funcs f x.outl).1=0:=by
 unfold MFunc.fault at h |-;split at h
 ·cases h
 rename_i j
 split at h
 ·rename_i a;exact absurd h a
 rename_i a
 split at h
 ·rename_i a;exact absurd h a
 rename_i l
 split at h
 ·cases h
 rename_i o
 split at h
 ·cases h
 rename_i m
 have b:¬ (x.outl.regs<0\/6<x.outl.regs):=j;have g:¬ listC x.outl.regs x.outl.params≠0:=a;have d:¬ listC x.outl.regs x.outl.results≠0:=l;have c:¬ (x.outl.blocks.length<1\/12<x.outl.blocks.length):=by rw[Qgj];exact o
 have e:¬ (f=0/\¬ (x.outl.regs=0/\x.outl.params.length=0/\x.outl.results.all (fun t=>t.kind==1)=true)):=m;rw[Xr b,Xr g,Xr d,Xr c,Xr e]
 rw[QZ]
 intro k y i;rw[Qk7] at i
 obtain⟨z,p,rfl⟩:=Option.map_eq_some_iff.1 i
 exact Qhw (QQ h k z p)
theorem Qgl {m:List (MFunc n)}(h:(modFault m).1=0):(modFault (outl m)).1=0:=by
 unfold modFault at h |-;split at h
 ·cases h
 rename_i b
 rw[Xr (by rw[Qa9];exact b),QZ]
 intro k y a;rw[Qd9] at a
 obtain⟨z,c,rfl⟩:=Option.map_eq_some_iff.1 a
 rw[Qa9]
 exact QiB (QQ h k z c)
theorem QdE {m:List (MFunc n)}(h:¬ Qm m):¬ Qm (outl m):=by
 rintro (e | ⟨x,f,e⟩)
 ·rw[Qa9] at e;exact h (.inl e)
 ·obtain⟨z,d,rfl⟩:=List.mem_map.1 f
  refine h (.inr ⟨z,d,?_⟩);rcases e with e | e | e | ⟨y,a,e⟩
  ·rw[Qgj] at e;exact .inl e
  ·exact .inr (.inl e)
  ·exact .inr (.inr (.inl e))
  ·obtain⟨q,c,rfl⟩:=List.mem_map.1 a
   refine .inr (.inr (.inr ⟨q,c,?_⟩));rcases e with e | e | e | e | e | e | e | ⟨u,b,e⟩
   ·exact absurd e (by show ¬ 200<0;omega)
   ·exact .inr (.inl e)
   ·exact absurd e (by show ¬ 300<0;omega)
   ·exact absurd e (by show ¬ 300<0;omega)
   ·exact absurd e (by show ¬ 300<0;omega)
   ·exact absurd e (by show ¬ 300<0;omega)
   ·exact absurd e (by show ¬ 300<0;omega)
   ·cases b
abbrev Qaz (g:MBlock 6) (p1 p2:Option Addr) (d1 d2:Nat) (e:EP):Array Value:=#[Iv g.regs,.slice p1 g.params.length d1,.slice p2 g.code.length d2,Iv g.fin.op,Iv g.fin.a,Iv g.fin.yes.block,.slice e.pYR g.fin.yes.regs.length e.cYR,.slice e.pYA g.fin.yes.args.length e.cYA,Iv g.fin.no.block,.slice e.pNR g.fin.no.regs.length e.cNR,.slice e.pNA g.fin.no.args.length e.cNA,.slice e.pA g.fin.args.length e.cA]
theorem QlR {m:List (MFunc 6)}{fn:MFunc 6}{g:MBlock 6}(a:m[f]?=some fn) (c:fn.blocks[b]?=some g):Qgu m (f:Int) (b:Int)=true:=by
 have:=(Zi c).1
 simp[Qgu,a,this]
theorem Zu (h:Blk w R #[Iv 0,Iv 0] 32) (c a:Int):Blk ((w.setCell ⟨R,0,none⟩ (Iv c)).setCell ⟨R,1,none⟩ (Iv a)) R #[Iv c,Iv a] 32:=by
 have:=Qh (Qh h 0 (Iv c)) 1 (Iv a)
 simpa using this
theorem vsizeEnd:(prog.info? 84).map (·.size)=some 9:=by kernel_rfl
theorem QgV {m:List (MFunc 6)}{fn:MFunc 6}{g:MBlock 6}{p1 C:Option Addr}{d1 D:Nat}{e:EP}(ao:(modFault m).1=0) (H:¬ Qm m) (ay:(QaN 6).In w All (outl m) [.slice p m.length c]) (ab:m[f]?=some fn) (ac:fn.blocks[b]?=some g) (I:insC.list.In w All g.code [.slice C g.code.length D]) (ah:Qdn w All g.fin e) (ar:-9223372036854775808<=g.fin.a/\g.fin.a<=9223372036854775807) :
 Calls prog 108 #[.agg #[.slice p m.length c],Iv (f:Int),Iv (b:Int),.agg (Qaz g p1 C d1 D e)] w fun r w'=>r=.returned (QG (QA (10000*(f:Int)+100*(b:Int)) g.fin (JSt.start m fn g) 0 g.code))/\Below w.heap.size w w':=by
 have bd:=Qa ao;have bg:=Qa H;have ba:=Qa ay;have aw:=Qa ab;have ap:=Qa ac;have ak:=Qa I;have av:=Qa ah;have a6:=Qa ar;have ad:fn∈m:=Zm ab;have an:g∈fn.blocks:=Zm ac;have ai:Hid (¬ g.great):=fun h=>H (.inr ⟨fn,ad,.inr (.inr (.inr ⟨g,an,h⟩))⟩)
 have a7:Hid (JOk (JSt.start m fn g).outl):=by
  have:=JOk.start (Qgl ao) (QdE H) (f:=fn.outl) (b:=g.outl) (List.mem_map_of_mem ad) (List.mem_map_of_mem an)
  rw[QgS] at this
  exact this
 have bm:g.code.length<=200:=Xo fun h=>ai.out (.inl h);have bn:f<1000:=by have h1:=(Zi ab).1;have h2:m.length<=20:=Xo fun x=>H (.inl x);omega
 have bl:b<1000:=by have h1:=(Zi ac).1;have h2:fn.blocks.length<=30:=Xo fun x=>H (.inr ⟨fn,ad,.inl x⟩);omega
 have b1:=Zd w (.cells #[.slice p m.length c] 24);have b2:=Zd (w.alloc (.cells #[.slice p m.length c] 24)) (.cells (Qaz g p1 C d1 D e) 86);have b3:=Zd ((w.alloc (.cells #[.slice p m.length c] 24)).alloc (.cells (Qaz g p1 C d1 D e) 86)) (.cells #[Iv 0,Iv 0] 32)
 have V:Hid (Below w.heap.size w (((w.alloc (.cells #[.slice p m.length c] 24)).alloc (.cells (Qaz g p1 C d1 D e) 86)).alloc (.cells #[Iv 0,Iv 0] 32))):=by
  have h:=b2.trans (b3.mono b2.size);exact b1.trans (h.mono b1.size)
 have s1:(w.alloc (.cells #[.slice p m.length c] 24)).heap.size=w.heap.size+1:=World.size_alloc ..;have s2:((w.alloc (.cells #[.slice p m.length c] 24)).alloc (.cells (Qaz g p1 C d1 D e) 86)).heap.size=w.heap.size+1+1:=(World.size_alloc ..).trans (by rw[s1])
 have BM:Hid (Blk (((w.alloc (.cells #[.slice p m.length c] 24)).alloc (.cells (Qaz g p1 C d1 D e) 86)).alloc (.cells #[Iv 0,Iv 0] 32)) w.heap.size #[.slice p m.length c] 24) :=
  Blk.below (Blk.below (Blk.new w #[.slice p m.length c] 24) b2) b3
 have BX:Hid (Blk (((w.alloc (.cells #[.slice p m.length c] 24)).alloc (.cells (Qaz g p1 C d1 D e) 86)).alloc (.cells #[Iv 0,Iv 0] 32)) (w.heap.size+1) (Qaz g p1 C d1 D e) 86):=by
  have:=Blk.below (Blk.new (w.alloc (.cells #[.slice p m.length c] 24)) (Qaz g p1 C d1 D e) 86) b3
  rw[s1] at this
  exact this
 have BR:Hid (Blk (((w.alloc (.cells #[.slice p m.length c] 24)).alloc (.cells (Qaz g p1 C d1 D e) 86)).alloc (.cells #[Iv 0,Iv 0] 32)) (w.heap.size+1+1) #[Iv 0,Iv 0] 32):=by
  have:=Blk.new ((w.alloc (.cells #[.slice p m.length c] 24)).alloc (.cells (Qaz g p1 C d1 D e) 86)) #[Iv 0,Iv 0] 32
  rw[s2] at this
  exact this
 clear b1 b2 b3 s1 s2 ad an ao H ay ab ac I ah ar;go_enter func108,ntmps108
 go_upto_region 1 with fail
 generalize ((w.alloc (.cells #[.slice p m.length c] 24)).alloc (.cells (Qaz g p1 C d1 D e) 86)).alloc (.cells #[Iv 0,Iv 0] 32)=o at V BM BX BR |-;obtain⟨X,hX⟩:∃ X,X=w.heap.size:=⟨_,Z⟩
 obtain⟨X2,a1⟩:∃ X2,X2=X+1:=⟨_,Z⟩
 obtain⟨R,hR⟩:∃ R,R=X2+1:=⟨_,Z⟩
 have G:Hid (w.heap.size<=R):=by show _<=_;omega
 rw[<-hX] at BM BX BR |-
 rw[<-a1] at BX BR |-
 rw[<-hR] at BR |-
 clear hX a1 hR;have x0:=Qb BM.out 0 _ Z;have CN:=Qa (QkD (w:=o) (m:=outl m) (p:=p) (c:=c) (f:Int) (b:Int) (QdE bg.out) (by rw[Qa9];exact Ya ba.out V.out));rw[Qa9] at CN
 go_wp2_with fail
 refine CN.out.mono ?_;rintro e2 w2 ⟨b2,a8⟩;have bb:Hid (o.heap.size<=w2.heap.size):=b2.size;rcases a8 with ⟨hf,rfl⟩|⟨-,az,rfl⟩|⟨-,-,i,j,bk,g',B,O,A,hi,hj,aj,af,rfl,hS,hA⟩
 ·exact absurd (Qgl bd.out) hf
 ·rw[QlR (fn:=fn.outl) (g:=g.outl) (by rw[Qd9,aw.out];rfl) (by rw[Qk7,ap.out];rfl)] at az
  cases az
 have a9:f=i:=by omega
 have be:b=j:=by omega
 subst a9 be;rw[Qd9,aw.out] at aj
 cases aj
 rw[Qk7,ap.out] at af
 cases af
 have b3:=Zd w2 (.cells #[Iv 0,Iv 0] 32)
 have S3:Hid (SOk (w2.alloc (.cells #[Iv 0,Iv 0] 32)) B o.heap.size ((JSt.start m fn g).upto (g.code.take 0)).outl) :=
  SOk.below ⟨O,A,hS,hA,a7.out⟩ b3
 have B3:Hid (Below o.heap.size o (w2.alloc (.cells #[Iv 0,Iv 0] 32))):=b2.trans (b3.mono b2.size);have F3:Hid (Blk (w2.alloc (.cells #[Iv 0,Iv 0] 32)) w2.heap.size #[Iv 0,Iv 0] 32):=Blk.new _ _ _;clear b2 b3 hS hA CN bb hi hj;go_upto_region 2 with fail
 generalize w2.alloc (.cells #[Iv 0,Iv 0] 32)=w3 at S3 B3 F3 |-;generalize w2.heap.size=F9 at F3 |-;have f0:=Qb F3.out 0 _ Z;have y2:w3.cell? ⟨X2,2,none⟩=some (.slice C g.code.length D):=Qk (Qb BX.out 2 _ Z) B3.out;clear x0;go_wp2_with fail
 clear f0 y2;go_loopw [29] (fun i wr=>∃ z:Nat,z<=g.code.length/\i=Iv z/\SOk wr B o.heap.size ((JSt.start m fn g).upto (g.code.take z)).outl/\Below o.heap.size o wr/\∀ j y,j<z->g.code[j]?=some y->((JSt.start m fn g).upto (g.code.take j)).code y=0) (fun i _=>g.code.length - (intOf i).toNat)
 case atStart=>exact⟨0,Xb _,Z,S3.out,B3.out,fun j y hj=>absurd hj (XG _)⟩
 case round =>
  obtain⟨z,hz,rfl,hs,hb,ag⟩:=hrel
  have SR:=Qa hs;have s:=Qa hb;have P:=Qa ag;clear hs hb ag S3 B3 F3;obtain⟨l,a5⟩:∃ l,l=wr:=⟨_,Z⟩
  subst a5;by_cases bf:z<g.code.length
  rotate_left
  ·have au:¬ (z:Int)<g.code.length:=by omega
   have a4:g.code.take z=g.code:=XO (by omega);rw[a4] at SR
   have RE:Hid (l.rangeAt X2 3 (QbW g.fin e).toList):=fun j v hj=>by
    have:(Qaz g p1 C d1 D e)[3+j]?=some v:=by
     rw[<-Array.getElem?_toList,Nat.add_comm]
     exact hj
    exact Qk (Qb BX.out (3+j) v this) s.out
   have a0:Hid (300>=g.fin.yes.regs.length/\300>=g.fin.yes.args.length/\300>=g.fin.no.regs.length/\300>=g.fin.no.args.length):=by
    have h:=ai.out;unfold MBlock.great at h;simp only[not_or,Nat.not_lt] at h
    exact⟨h.2.2.2.1,h.2.2.2.2.1,h.2.2.2.2.2.1,h.2.2.2.2.2.2.1⟩
   have CE:Hid (Calls prog 165 #[Pv B 0,.agg (QbW g.fin e).toList.toArray] l fun r w'=>r=.returned (Iv (((JSt.start m fn g).upto g.code).fin g.fin))/\Below l.heap.size l w'):=by
    have:=SR.out.end_ ((av.out.below V.out).below s.out) a6.out (by have:=a0.out;omega)
    rw[QkM] at this
    exact this
   have BE:Hid (QA (10000*(f:Int)+100*(b:Int)) g.fin (JSt.start m fn g) 0 g.code=if ((JSt.start m fn g).upto g.code).fin g.fin≠0 then (((JSt.start m fn g).upto g.code).fin g.fin,10000*(f:Int)+100*(b:Int)+91) else (0,0)):=QeN fun j y hj hy=>P.out j y (by omega) hy;clear a0 a4;generalize ((JSt.start m fn g).upto g.code).fin g.fin=u at CE BE;go_wp2_with (refine wpList_load_mid Z 84 (.tmp 47) Z X2 3 Z (QbW g.fin e).toList _ RE.out underlying84 Z vsizeEnd ?_)
   refine CE.out.mono ?_;rintro e9 w9 ⟨rfl,b9⟩;have U:Hid (Below o.heap.size o w9):=s.out.trans (b9.mono s.out.size);clear b9 s CE RE SR;by_cases am:u=0
   ·subst am;have E:Hid (QA (10000*(f:Int)+100*(b:Int)) g.fin (JSt.start m fn g) 0 g.code=(0,0)):=by show _=_;rw[BE.out];rfl
    clear BE;have t:Hid (Blk w9 R #[Iv 0,Iv 0] 32):=Blk.below BR.out U.out;have r0:=Qb t.out 0 _ Z;have r1:=Qb t.out 1 _ Z;have z0:=Qj t.out 0;have z1:=Qj t.out 1;have Q:Hid (Blk ((w9.setCell ⟨R,0,none⟩ (Iv 0)).setCell ⟨R,1,none⟩ (Iv 0)) R #[Iv 0,Iv 0] 32):=Zu t.out _ _;have BL:Hid (Below w.heap.size w ((w9.setCell ⟨R,0,none⟩ (Iv 0)).setCell ⟨R,1,none⟩ (Iv 0))):=((V.out.trans (U.out.mono V.out.size)).setCell G.out _).setCell G.out _;go_wp2_with fail
    generalize (w9.setCell ⟨R,0,none⟩ (Iv 0)).setCell ⟨R,1,none⟩ (Iv 0)=aq at Q BL |-;have e0:=Qb Q.out 0 _ Z;have e1:=Qb Q.out 1 _ Z;exact Xy (v:=.agg #[Iv 0,Iv 0]) (by simp[results,results108,go_sem,e0,e1]) Z ⟨by rw[E.out],BL.out⟩
   ·have a3:(u != 0)=true:=by simpa using am
    have E:Hid (QA (10000*(f:Int)+100*(b:Int)) g.fin (JSt.start m fn g) 0 g.code=(u,10000*(f:Int)+100*(b:Int)+91)):=by
     show _=_;rw[BE.out,Xs am]
    have CA:=Qa (QdR (f:=f) (b:=b) (w:=w9) ⟨by omega,by omega⟩);unfold Rd at CA;clear BE;go_wp2_with fail
    refine CA.out.mono ?_;rintro bh d ⟨rfl,J⟩;have M:Hid (Below o.heap.size o d):=U.out.trans (J.mono U.out.size);clear J U CA;generalize 10000*(f:Int)+100*(b:Int)+91=S at E |-;have t:Hid (Blk d R #[Iv 0,Iv 0] 32):=Blk.below BR.out M.out;have r0:=Qb t.out 0 _ Z;have r1:=Qb t.out 1 _ Z;have z0:=Qj t.out 0;have z1:=Qj t.out 1;have Q:Hid (Blk ((d.setCell ⟨R,0,none⟩ (Iv u)).setCell ⟨R,1,none⟩ (Iv S)) R #[Iv u,Iv S] 32):=Zu t.out _ _;have BL:Hid (Below w.heap.size w ((d.setCell ⟨R,0,none⟩ (Iv u)).setCell ⟨R,1,none⟩ (Iv S))):=((V.out.trans (M.out.mono V.out.size)).setCell G.out _).setCell G.out _;go_wp2_with fail
    generalize (d.setCell ⟨R,0,none⟩ (Iv u)).setCell ⟨R,1,none⟩ (Iv S)=aq at Q BL |-;have e0:=Qb Q.out 0 _ Z;have e1:=Qb Q.out 1 _ Z;exact Xy (v:=.agg #[Iv u,Iv S]) (by simp[results,results108,go_sem,e0,e1]) Z ⟨by rw[E.out],BL.out⟩
  have au:(z:Int)<g.code.length:=by omega
  have aa:g.code[z]?=some g.code[z]:=Zg bf;generalize g.code[z]=x at aa;have al:=Qa aa;obtain⟨cg,co,ds,rfl,-,-,q,T⟩:=Yf (Ya (Ya ak.out V.out) s.out) aa
  have ae:=QkV T;obtain⟨xa,W,xb,xd,rfl,K,N,ax,-⟩:=QjB T
  have u0:l.cell? ⟨cg,co+z*8,none⟩=some (Iv x.op):=q 0 (by decide);have u1:l.cell? ⟨cg,co+z*8+1,none⟩=some (Iv x.a):=q 1 (by decide);have u2:l.cell? ⟨cg,co+z*8+2,none⟩=some (Iv x.b):=q 2 (by decide);have u3:l.cell? ⟨cg,co+z*8+3,none⟩=some (Iv x.c):=q 3 (by decide);have u4:l.cell? ⟨cg,co+z*8+4,none⟩=some (Iv x.k):=q 4 (by decide);have u5:l.cell? ⟨cg,co+z*8+5,none⟩=some (Iv x.n):=q 5 (by decide);have u6:l.cell? ⟨cg,co+z*8+6,none⟩=some (.slice xa x.regs.length W):=q 6 (by decide);have u7:l.cell? ⟨cg,co+z*8+7,none⟩=some (.slice xb x.args.length xd):=q 7 (by decide);have b4:=Zd l (.cells #[Iv x.op,Iv x.a,Iv x.b,Iv x.c,Iv x.k,Iv x.n,.slice xa x.regs.length W,.slice xb x.args.length xd] 78);have L:Hid (Blk (l.alloc (.cells #[Iv x.op,Iv x.a,Iv x.b,Iv x.c,Iv x.k,Iv x.n,.slice xa x.regs.length W,.slice xb x.args.length xd] 78)) l.heap.size #[Iv x.op,Iv x.a,Iv x.b,Iv x.c,Iv x.k,Iv x.n,.slice xa x.regs.length W,.slice xb x.args.length xd] 78):=Blk.new _ _ _;have B4:Hid (Below o.heap.size o (l.alloc (.cells #[Iv x.op,Iv x.a,Iv x.b,Iv x.c,Iv x.k,Iv x.n,.slice xa x.regs.length W,.slice xb x.args.length xd] 78))):=s.out.trans (b4.mono s.out.size)
  have CI:Hid (Calls prog 164 #[Pv B 0,Qed x xa xb W xd] (l.alloc (.cells #[Iv x.op,Iv x.a,Iv x.b,Iv x.c,Iv x.k,Iv x.n,.slice xa x.regs.length W,.slice xb x.args.length xd] 78)) fun r w'=>r=.returned (Iv (((JSt.start m fn g).upto (g.code.take z)).code x))/\SOk w' B o.heap.size (((JSt.start m fn g).upto (g.code.take z)).ins x).outl/\Below o.heap.size (l.alloc (.cells #[Iv x.op,Iv x.a,Iv x.b,Iv x.c,Iv x.k,Iv x.n,.slice xa x.regs.length W,.slice xb x.args.length xd] 78)) w'):=by
   have:=(SR.out.below b4).ins B4.out.size (Ya K b4) (Ya N b4) ax ae
   rw[QeI,QjQ] at this
   exact this
  clear q T K N ax aa ae b4 s SR;go_upto_region 7 with fail
  generalize l.alloc (.cells #[Iv x.op,Iv x.a,Iv x.b,Iv x.c,Iv x.k,Iv x.n,.slice xa x.regs.length W,.slice xb x.args.length xd] 78)=w4 at L B4 CI |-;generalize l.heap.size=bj at L |-;clear u0 u1 u2 u3 u4 u5 u6 u7;have t0:=Qb L.out 0 _ Z;have t1:=Qb L.out 1 _ Z;have t2:=Qb L.out 2 _ Z;have t3:=Qb L.out 3 _ Z;have t4:=Qb L.out 4 _ Z;have t5:=Qb L.out 5 _ Z;have t6:=Qb L.out 6 _ Z;have t7:=Qb L.out 7 _ Z;go_wp2_with fail
  refine CI.out.mono ?_;rintro e9 w9 ⟨rfl,a2,b9⟩;have S9:=Qa a2;have U:Hid (Below o.heap.size o w9):=B4.out.trans b9;clear t0 t1 t2 t3 t4 t5 t6 t7 CI L B4 a2 b9;by_cases F:((JSt.start m fn g).upto (g.code.take z)).code x=0
  ·have E:Hid (((JSt.start m fn g).upto (g.code.take z)).ins x=(JSt.start m fn g).upto (g.code.take (z+1))):=by
    show _=_;rw[XV,al.out]
    show _=(JSt.start m fn g).upto (g.code.take z++[x]);rw[JSt.upto_snoc]
    unfold JSt.ins;rw[Xs F]
   have bc:=Qa F;rw[F]
   clear F;go_wp2_with fail
   go_roundw
   case rel =>
    refine⟨z+1,by omega,by go_num,by rw[<-E.out];exact S9.out,U.out,fun j y hj hy=>?_⟩
    by_cases bi:j<z
    ·exact P.out j y bi hy
    ·have:j=z:=by omega
     subst this;rw[al.out] at hy
     cases hy
     exact bc.out
   case measure=>simp[intOf];omega
  ·have E:Hid (QA (10000*(f:Int)+100*(b:Int)) g.fin (JSt.start m fn g) 0 g.code=(((JSt.start m fn g).upto (g.code.take z)).code x,10000*(f:Int)+100*(b:Int)+(z:Int))):=Qfp al.out P.out F;clear S9;generalize ((JSt.start m fn g).upto (g.code.take z)).code x=u at E F |-;have a3:(u != 0)=true:=by simpa using F
   have CA:=Qa (QdQ (f:=f) (b:=b) (i:=z) (w:=w9) ⟨by omega,by omega,by omega⟩);unfold Rd at CA;go_wp2_with fail
   refine CA.out.mono ?_;rintro bh d ⟨rfl,J⟩;have M:Hid (Below o.heap.size o d):=U.out.trans (J.mono U.out.size);clear J U CA;generalize 10000*(f:Int)+100*(b:Int)+(z:Int)=S at E |-;have t:Hid (Blk d R #[Iv 0,Iv 0] 32):=Blk.below BR.out M.out;have r0:=Qb t.out 0 _ Z;have r1:=Qb t.out 1 _ Z;have z0:=Qj t.out 0;have z1:=Qj t.out 1;have Q:Hid (Blk ((d.setCell ⟨R,0,none⟩ (Iv u)).setCell ⟨R,1,none⟩ (Iv S)) R #[Iv u,Iv S] 32):=Zu t.out _ _;have BL:Hid (Below w.heap.size w ((d.setCell ⟨R,0,none⟩ (Iv u)).setCell ⟨R,1,none⟩ (Iv S))):=((V.out.trans (M.out.mono V.out.size)).setCell G.out _).setCell G.out _;go_wp2_with fail
   generalize (d.setCell ⟨R,0,none⟩ (Iv u)).setCell ⟨R,1,none⟩ (Iv S)=aq at Q BL |-;have e0:=Qb Q.out 0 _ Z;have e1:=Qb Q.out 1 _ Z;exact Xy (v:=.agg #[Iv u,Iv S]) (by simp[results,results108,go_sem,e0,e1]) Z ⟨by rw[E.out],BL.out⟩
structure Qbr {α:Type}(A:Lay α) (e:TypeId) (w:World) (a0 lo:Nat) (v:Value) (l:List α) (xs:List Value):Prop where
 own:w.ownsRow lo e A.size v l.length xs
 kids:∀ (i:Nat) (x:α),l[i]?=some x->A.In w (fun g=>(g<a0\/lo<=g)/\v.ownBlock≠some g) x ((xs.drop (i*A.size)).take A.size)
section
variable {α:Type}{A:Lay α}{e:TypeId}{w w':World}{a0 lo:Nat}{v:Value}{l:List α}{xs:List Value}
theorem Qbr.nil (A:Lay α) (e:TypeId) (w:World) (a0 lo:Nat):Qbr A e w a0 lo (Nv) [] []:=⟨⟨by simp,Or.inl ⟨Z,Z⟩⟩,fun i x h=>by simp at h⟩
theorem Qbr.lo_le (h:Qbr A e w a0 lo v l xs)(b:v.ownBlock=some g):lo<=g/\g<w.heap.size:=by
 obtain⟨⟨j,d⟩,k⟩:=h
 rcases d with ⟨rfl,m⟩|⟨n,f,i,rfl,a,c,r⟩
 ·simp[Value.ownBlock] at b
 ·simp[Value.ownBlock] at b;subst b;exact⟨a,XC c⟩
theorem Qbr.form (h:Qbr A e w a0 lo v l xs):∃ a c,v=.slice a l.length c:=by
 obtain⟨⟨j,b⟩,k⟩:=h
 rcases b with ⟨rfl,f⟩|⟨g,d,i,rfl,r⟩
 ·exact⟨none,0,by rw[f]⟩
 ·exact⟨_,_,Z⟩
theorem Qbr.keep (h:Qbr A e w a0 lo v l xs) (d:∀ k,k<w.heap.size->(k<a0\/lo<=k)->w'.heap[k]?=w.heap[k]?):Qbr A e w' a0 lo v l xs:=by
 obtain⟨⟨j,m⟩,n⟩:=h
 refine⟨⟨j,?_⟩,fun i x s=>A.keep (fun k o q=>d k q o.1) (fun _ h _=>h) (n i x s)⟩
 rcases m with p | ⟨g,a,b,e,f,c,r⟩
 ·exact Or.inl p
 ·exact Or.inr ⟨g,a,b,e,f,(d g (XC c) (.inr f)).trans c,r⟩
theorem Qbr.below (h:Qbr A e w a0 lo v l xs) (b:Below w.heap.size w w'):Qbr A e w' a0 lo v l xs:=h.keep fun k a _=>b.block k a
theorem Qbr.setOther (h:Qbr A e w a0 lo v l xs){p:Addr}(c:a0<=p.block/\p.block<lo) (y:Value):Qbr A e (w.setCell p y) a0 lo v l xs :=
 h.keep fun k b a=>Xd _ _ _ _ (by omega)
theorem Qbr.lay (h:Qbr A e w a0 lo v l xs):A.list.In w (fun g=>g<a0\/lo<=g) l [v]:=by
 obtain⟨⟨z,o⟩,q⟩:=h
 rcases o with ⟨rfl,s⟩|⟨g,b,c,rfl,y,f,n,C,B,p⟩
 ·have:l=[]:=Xf.1 s
  subst this;exact Yg A _ _ _ _
 ·refine⟨some ⟨g,0,none⟩,b,Z,fun i x m=>⟨g,0,_,Z,.inr y,XC f,fun j t=>?_,Yc (q i x m) (fun k u _=>u.1)⟩⟩
  have r:i<l.length:=(Zi m).1
  have d:i*A.size+j<l.length*A.size:=by
   have:(i+1)*A.size<=l.length*A.size:=Xp _ r
   rw[Nat.add_mul] at this
   omega
  rw[XR,Xs t,List.getElem?_drop,<-p,XR,Xs d,XK]
  have a:i*A.size+j<c.size:=by
   have:l.length*A.size<=b*A.size:=Xp _ n
   omega
  rw[Array.getElem?_toList]
  exact(Qb f _ c[i*A.size+j] (Xj a)).trans (Xj a).symm
theorem Qbr.push (h:Qbr A e w a0 lo v l xs) (C:a0<=w.heap.size){x:α}(q:A.In w (fun g=>(g<a0\/lo<=g)/\v.ownBlock≠some g) x ds)
  (B:w.grownBy w' v.ownBlock) (f:v.ownBlock=some g\/g=w.heap.size)
 (u:w'.ownsRow lo e A.size (.slice (some ⟨g,0,none⟩) (l.length+1) cap) (l.length+1) (xs++ds)) :
 Qbr A e w' a0 lo (.slice (some ⟨g,0,none⟩) (l.length+1) cap) (l++[x]) (xs++ds):=by
 obtain⟨s,t⟩:=h
 have d:=s.1;have r:=A.len q
 have b:∀ {y:α} {es:List Value},A.In w (fun g=>(g<a0\/lo<=g)/\v.ownBlock≠some g) y es->A.In w' (fun m=>(m<a0\/lo<=m)/\(Value.slice (some ⟨g,0,none⟩) (l.length+1) cap).ownBlock≠some m) y es:=fun a=>by
  refine A.keep (fun k c p=>?_) (fun k c p=>⟨c.1,?_⟩) a
  ·exact B.block k p (fun e=>c.2 e.symm)
  ·simp only[Value.ownBlock,ne_eq,Option.some.injEq]
   intro e;subst e;rcases f with o | o
   ·exact c.2 o
   ·omega
 refine⟨by rw[List.length_append];exact u,fun i y a=>?_⟩
 rw[List.getElem?_append] at a
 split at a
 ·rename_i n
  have z:(i+1)*A.size<=l.length*A.size:=Xp _ n;rw[Nat.add_mul] at z
  have:=t i y a
  rw[List.drop_append_of_le_length (by omega),List.take_append_of_le_length (by simp;omega)]
  exact b this
 ·rename_i n
  have j:i=l.length:=by
   have:=(Zi a).1
   simp at this
   omega
  subst j;simp at a
  subst a;rw[List.drop_append,List.drop_of_length_le (by omega),<-d,Nat.sub_self,List.drop_zero,List.nil_append,XO (by omega)]
  exact b q
end
theorem Qny {b:List Value}(h:b.all (·.oneCell')=true):∀ u∈b,u.oneCell'=true:=Xe.1 h
theorem ret_end :endL.In w O retE [Iv 3,Iv 0,Iv 0,Nv,Nv,Iv 0,Nv,Nv,Nv]:=by
 have a:intsL.In w O ([]:List Int) [Nv]:=Yg _ _ _ _ _;have b:toL.In w O (⟨0,[],[]⟩:MTo) [Iv 0,Nv,Nv]:=⟨[_],_,Z,⟨Z,by decide⟩,[_],_,Z,a,a⟩;exact⟨[_],_,Z,⟨Z,by simp[retE]⟩,[_],_,Z,⟨Z,by simp[retE]⟩,[_,_,_],_,Z,b,[_,_,_],_,Z,b,a⟩
theorem Qjg {g:MBlock 6}{e:Option Addr}{f:Nat}(h:(Qp 6).In w O g.params [.slice e g.params.length f]) (i:-9223372036854775808<=g.regs/\g.regs<=9223372036854775807):(Zn 6).In w O g.outl [Iv g.regs,.slice e g.params.length f,Nv,Iv 3,Iv 0,Iv 0,Nv,Nv,Iv 0,Nv,Nv,Nv] :=
 QgA (x:=g.outl) (a:=e) (c:=f) (b:=none) (d:=0) h (Yg _ _ _ _ _) ret_end i
theorem Qh0 {m:List (MBlock 6)}(h:(Zn 6).list.In w Q m [.slice p n c]){g:MBlock 6}(d:m[k]?=some g):-9223372036854775808<=g.regs/\g.regs<=9223372036854775807:=by
 obtain⟨z,q,f,y,r,e,t,a⟩:=Yf h d
 obtain⟨o,v,u,x,s,rfl,i,j,l,b⟩:=Qb7 a
 exact b
theorem Qgw {α β:Type}{f:α->β}{l:List α}{x:α}(h:l[k]?=some x):(l.take (k+1)).map f=(l.take k).map f++[f x]:=by
 rw[XV,h];simp
theorem Qi6 {m:List (MFunc 6)}(hm:(QaN 6).In w All m [.slice p m.length c]) (au:Qbe m) :
 Calls prog 107 #[.agg #[.slice p m.length c]] w fun e w'=>∃ a c',e=.returned (.agg #[.slice a m.length c'])/\(QaN 6).In w' All (outl m) [.slice a m.length c']/\Below w.heap.size w w':=by
 have HM:=Qa hm;have cb:=Qa au;have cn:m.length<=100000:=au.1;obtain⟨iB,ce,bb,bn,bl⟩:=pInfoB
 obtain⟨iF,ch,a5,be,bj⟩:=pInfoF
 have b1:=Zd w (.cells #[.slice p m.length c] 24);have b2:=Zd (w.alloc (.cells #[.slice p m.length c] 24)) (.cells #[Nv] 24);have b3:=Zd ((w.alloc (.cells #[.slice p m.length c] 24)).alloc (.cells #[Nv] 24)) (.cells #[Nv] 24)
 have B0:Hid (Below w.heap.size w (((w.alloc (.cells #[.slice p m.length c] 24)).alloc (.cells #[Nv] 24)).alloc (.cells #[Nv] 24))):=by
  have h:=b2.trans (b3.mono b2.size);exact b1.trans (h.mono b1.size)
 have s1:(w.alloc (.cells #[.slice p m.length c] 24)).heap.size=w.heap.size+1:=World.size_alloc ..;have s2:((w.alloc (.cells #[.slice p m.length c] 24)).alloc (.cells #[Nv] 24)).heap.size=w.heap.size+1+1:=(World.size_alloc ..).trans (by rw[s1]);have s3:(((w.alloc (.cells #[.slice p m.length c] 24)).alloc (.cells #[Nv] 24)).alloc (.cells #[Nv] 24)).heap.size=w.heap.size+1+1+1:=(World.size_alloc ..).trans (by rw[s2])
 have BM:Hid (Blk (((w.alloc (.cells #[.slice p m.length c] 24)).alloc (.cells #[Nv] 24)).alloc (.cells #[Nv] 24)) w.heap.size #[.slice p m.length c] 24) :=
  Blk.below (Blk.below (Blk.new w #[.slice p m.length c] 24) b2) b3
 have BR:Hid (Blk (((w.alloc (.cells #[.slice p m.length c] 24)).alloc (.cells #[Nv] 24)).alloc (.cells #[Nv] 24)) (w.heap.size+1) #[Nv] 24):=by
  have:=Blk.below (Blk.new (w.alloc (.cells #[.slice p m.length c] 24)) #[Nv] 24) b3
  rw[s1] at this
  exact this
 have BO:Hid (Blk (((w.alloc (.cells #[.slice p m.length c] 24)).alloc (.cells #[Nv] 24)).alloc (.cells #[Nv] 24)) (w.heap.size+1+1) #[Nv] 24):=by
  have:=Blk.new ((w.alloc (.cells #[.slice p m.length c] 24)).alloc (.cells #[Nv] 24)) #[Nv] 24
  rw[s2] at this
  exact this
 have ax:=Qa s3;clear b1 b2 b3 s1 s2 s3 hm au;go_enter func107,ntmps107
 go_upto_region 2 with fail
 generalize ((w.alloc (.cells #[.slice p m.length c] 24)).alloc (.cells #[Nv] 24)).alloc (.cells #[Nv] 24)=z at B0 BM BR BO ax |-;obtain⟨X,hX⟩:∃ X,X=w.heap.size:=⟨_,Z⟩
 obtain⟨R,hR⟩:∃ R,R=X+1:=⟨_,Z⟩
 obtain⟨t,a7⟩:∃ t,t=R+1:=⟨_,Z⟩
 have P:Hid (w.heap.size<=R/\R<t/\t<z.heap.size):=by have:=ax.out;exact⟨by omega,by omega,by omega⟩
 rw[<-hX] at BM BR BO |-
 rw[<-hR] at BR BO |-
 rw[<-a7] at BO |-
 clear hX hR a7 ax;have x0:=Qb BM.out 0 _ Z;go_wp2_with fail
 clear x0;go_loopw [13] (fun i wr=>∃ (k:Nat) (v:Value) (E:List Value),k<=m.length/\i=Iv k/\Blk wr t #[v] 24/\Qbr (ZS 6) 89 wr w.heap.size z.heap.size v ((m.take k).map MFunc.outl) E/\Chg t z wr) (fun i _=>m.length - (intOf i).toNat)
 case atStart=>exact⟨0,_,[],Xb _,Z,BO.out,Qbr.nil _ _ _ _ _,Chg.refl _ _⟩
 case round =>
  obtain⟨k,vF,cF,hk,rfl,bt,r,az⟩:=hrel
  obtain⟨l,cd⟩:∃ l,l=wr:=⟨_,Z⟩
  subst cd;have av:=Qa bt;have aj:=Qa az;have M:=Qa r;have F:Hid (Below w.heap.size w l):=Chg.last B0.out az (by have:=P.out;omega) B0.out.size;obtain⟨o,d,bx⟩:=r.form
  have ac:((m.take k).map MFunc.outl).length=k:=by simp;omega
  rw[ac] at bx
  subst bx;clear bt r az BO;by_cases bf:k<m.length
  rotate_left
  ·have bv:¬ (k:Int)<m.length:=by omega
   have bi:k=m.length:=by omega
   have y0:=Qb av.out 0 _ Z;have ay:Hid (Blk l R #[Nv] 24):=BR.out.chg aj.out (by have:=P.out;omega);have r0:=Qb ay.out 0 _ Z;have z0:=Qj ay.out 0
   have RB:Hid (Blk (l.setCell ⟨R,0,none⟩ (.slice o k d)) R #[.slice o k d] 24):=by
    have h9:Blk (l.setCell ⟨R,0,none⟩ (.slice o k d)) R #[.slice o k d] 24:=by
     have:=Qh ay.out 0 (.slice o k d)
     simpa using this
    exact h9
   have BL:Hid (Below w.heap.size w (l.setCell ⟨R,0,none⟩ (.slice o k d))):=F.out.setCell P.out.1 _
   have LY:Hid ((QaN 6).In (l.setCell ⟨R,0,none⟩ (.slice o k d)) All (outl m) [.slice o k d]):=by
    have h:=(M.out.setOther (p:=⟨R,0,none⟩) (by have:=P.out;exact⟨this.1,by show R<_;omega⟩) (.slice o k d)).lay;rw[XO (by omega)] at h
    exact Yc h (fun _ _ _=>trivial)
   have bh:=Qa bi;clear bi ac;go_wp2_with fail
   generalize l.setCell ⟨R,0,none⟩ (.slice o k d)=cl at RB BL LY |-;have e0:=Qb RB.out 0 _ Z;exact Xy (v:=.agg #[.slice o k d]) (by simp[results,results107,go_sem,e0]) Z ⟨o,d,by rw[bh.out],by rw[<-bh.out];exact LY.out,BL.out⟩
  have bv:(k:Int)<m.length:=by omega
  have ae:m[k]?=some m[k]:=Zg bf;generalize m[k]=f at ae;have cg:=Qa ae;obtain⟨mg,mo,ds,rfl,-,-,ag,a8⟩:=Yf HM.out ae
  obtain⟨B,A,C,D,p3,V,rfl,ar,aq,bk,bu⟩:=Qav a8
  have v0:l.cell? ⟨mg,mo+k*4,none⟩=some (Iv f.regs):=Qk (show w.cell? ⟨mg,mo+k*4,none⟩=_ from ag 0 (by decide)) F.out;have v1:l.cell? ⟨mg,mo+k*4+1,none⟩=some (.slice B f.params.length A):=Qk (show w.cell? ⟨mg,mo+k*4+1,none⟩=_ from ag 1 (by decide)) F.out;have v2:l.cell? ⟨mg,mo+k*4+2,none⟩=some (.slice C f.results.length D):=Qk (show w.cell? ⟨mg,mo+k*4+2,none⟩=_ from ag 2 (by decide)) F.out;have v3:l.cell? ⟨mg,mo+k*4+3,none⟩=some (.slice p3 f.blocks.length V):=Qk (show w.cell? ⟨mg,mo+k*4+3,none⟩=_ from ag 3 (by decide)) F.out;have bz:Hid ((Qp 6).In w (fun g=>g<w.heap.size) f.params [.slice B f.params.length A]):=Yc ar (fun k _ N=>N);have a9:Hid ((Qp 6).In w (fun g=>g<w.heap.size) f.results [.slice C f.results.length D]):=Yc aq (fun k _ N=>N);have b9:Hid ((Zn 6).list.In w (fun g=>g<w.heap.size) f.blocks [.slice p3 f.blocks.length V]):=Yc bk (fun k _ N=>N);have ca:=Qa bu;have cm:f.blocks.length<=100000:=(cb.out.2 f (Zm ae)).1;have b5:=Zd l (.cells #[Iv f.regs,.slice B f.params.length A,.slice C f.results.length D,.slice p3 f.blocks.length V] 89);have BF:Hid (Blk (l.alloc (.cells #[Iv f.regs,.slice B f.params.length A,.slice C f.results.length D,.slice p3 f.blocks.length V] 89)) l.heap.size #[Iv f.regs,.slice B f.params.length A,.slice C f.results.length D,.slice p3 f.blocks.length V] 89):=Blk.new _ _ _;have bp:Hid (Blk (l.alloc (.cells #[Iv f.regs,.slice B f.params.length A,.slice C f.results.length D,.slice p3 f.blocks.length V] 89)) t #[.slice o k d] 24):=av.out.below b5;have a6:Hid (Qbr (ZS 6) 89 (l.alloc (.cells #[Iv f.regs,.slice B f.params.length A,.slice C f.results.length D,.slice p3 f.blocks.length V] 89)) w.heap.size z.heap.size (.slice o k d) ((m.take k).map MFunc.outl) cF):=M.out.below b5;have bs:Hid (Chg t z (l.alloc (.cells #[Iv f.regs,.slice B f.params.length A,.slice C f.results.length D,.slice p3 f.blocks.length V] 89))):=aj.out.allocP _;have I:Hid (Below w.heap.size w (l.alloc (.cells #[Iv f.regs,.slice B f.params.length A,.slice C f.results.length D,.slice p3 f.blocks.length V] 89))):=F.out.trans (b5.mono F.out.size);have bq:Hid (∀ g,(Value.slice o k d).ownBlock=some g->z.heap.size<=g/\g<l.heap.size):=fun g hg=>M.out.lo_le hg;have S5:Hid (l.heap.size<(l.alloc (.cells #[Iv f.regs,.slice B f.params.length A,.slice C f.results.length D,.slice p3 f.blocks.length V] 89)).heap.size):=BF.out.lt;have S1:Hid (z.heap.size<=l.heap.size):=aj.out.size;clear ag a8 ar aq bk bu b5 av M aj F ae;go_upto_region 5 with fail
  generalize l.alloc (.cells #[Iv f.regs,.slice B f.params.length A,.slice C f.results.length D,.slice p3 f.blocks.length V] 89)=K at BF bp a6 bs I S5 |-;generalize l.heap.size=XF at BF S5 bq S1 |-;clear v0 v1 v2 v3;have t3:=Qb BF.out 3 _ Z;go_wp2_with fail
  clear t3;go_loopw [6,20] (fun v u wq=>∃ (q:Nat) (E:List Value),q<=f.blocks.length/\u=Iv q/\Qbr (Zn 6) 86 wq w.heap.size K.heap.size v ((f.blocks.take q).map MBlock.outl) E/\Below K.heap.size K wq) (fun _ u _=>f.blocks.length - (intOf u).toNat)
  case atStart=>exact⟨0,[],Xb _,Z,Qbr.nil _ _ _ _ _,Zr⟩
  case round =>
   obtain⟨q,cB,hq,rfl,r,b4⟩:=hrel
   obtain⟨wq,ci⟩:∃ wq,wq=wr:=⟨_,Z⟩
   subst ci;have am:=Qa r;have BQ:=Qa b4;obtain⟨T,U,bg⟩:=r.form
   have ah:((f.blocks.take q).map MBlock.outl).length=q:=by simp;omega
   rw[ah] at bg
   subst bg;clear r b4;by_cases b0:q<f.blocks.length
   rotate_left
   ·have ao:¬ (q:Int)<f.blocks.length:=by omega
    have cf:q=f.blocks.length:=by omega
    subst cf;have al:Hid (Blk wq t #[.slice o k d] 24):=bp.out.below BQ.out;have ak:Hid (Blk wq XF #[Iv f.regs,.slice B f.params.length A,.slice C f.results.length D,.slice p3 f.blocks.length V] 89):=BF.out.below BQ.out;have a0:Hid (Qbr (ZS 6) 89 wq w.heap.size z.heap.size (.slice o k d) ((m.take k).map MFunc.outl) cF):=a6.out.below BQ.out;have aw:Hid (Chg t z wq):=bs.out.trans (Chg.below BQ.out);have G:Hid (Below w.heap.size w wq):=I.out.trans (BQ.out.mono I.out.size)
    have FN:Hid ((ZS 6).In wq (fun g=>(g<w.heap.size\/z.heap.size<=g)/\(Value.slice o k d).ownBlock≠some g) f.outl [Iv f.regs,.slice B f.params.length A,.slice C f.results.length D,.slice T f.blocks.length U]):=by
     have o1:=bq.out;have o2:=S5.out;have o3:=P.out;have o4:=S1.out;have bd:f.outl.blocks.length=f.blocks.length:=Qgj f;have hb:=am.out.lay;rw[XO Ze] at hb
     have cc:(Zn 6).list.In wq (fun g=>(g<w.heap.size\/z.heap.size<=g)/\(Value.slice o k d).ownBlock≠some g) f.outl.blocks [.slice T f.outl.blocks.length U]:=by
      rw[bd]
      exact Yc hb (fun j hj N=>⟨by rcases hj with hj | hj;exact .inl hj;exact .inr (by omega),fun e=>by have:=o1 j e;rcases hj with hj | hj<;>omega⟩)
     have:=QiQ (x:=f.outl) (Yc (Ya bz.out G.out) (fun j hj N=>⟨.inl hj,fun e=>by have:=o1 j e;omega⟩)) (Yc (Ya a9.out G.out) (fun j hj N=>⟨.inl hj,fun e=>by have:=o1 j e;omega⟩)) cc ca.out
     rw[bd] at this
     exact this
    have H:Hid (wq.ownsRow z.heap.size 89 4 (.slice o k d) k cF):=by
     have:=a0.out.own
     rw[ac] at this
     exact this
    have PU:Hid (∀ g n y,y.ownsRow z.heap.size 89 4 (.slice (some ⟨g,0,none⟩) (k+1) n) (k+1) (cF++[Iv f.regs,.slice B f.params.length A,.slice C f.results.length D,.slice T f.blocks.length U])->(wq.alloc (.cells #[Iv f.regs,.slice B f.params.length A,.slice C f.results.length D,.slice T f.blocks.length U] 89)).grownBy y (Value.slice o k d).ownBlock->((Value.slice o k d).ownBlock=some g\/g=wq.heap.size+1) ->
     Qbr (ZS 6) 89 (y.setCell ⟨t,0,none⟩ (.slice (some ⟨g,0,none⟩) (k+1) n)) w.heap.size z.heap.size (.slice (some ⟨g,0,none⟩) (k+1) n) ((m.take (k+1)).map MFunc.outl) (cF++[Iv f.regs,.slice B f.params.length A,.slice C f.results.length D,.slice T f.blocks.length U])/\Blk y t #[.slice o k d] 24/\Chg t z (y.setCell ⟨t,0,none⟩ (.slice (some ⟨g,0,none⟩) (k+1) n))/\Blk (y.setCell ⟨t,0,none⟩ (.slice (some ⟨g,0,none⟩) (k+1) n)) t #[.slice (some ⟨g,0,none⟩) (k+1) n] 24):=by
     intro g n y h1 h2 h3;have b6:Below wq.heap.size wq (wq.alloc (.cells #[Iv f.regs,.slice B f.params.length A,.slice C f.results.length D,.slice T f.blocks.length U] 89)):=Zd _ _;have A5:=a0.out.below b6;have T5:=Ya FN.out b6;have o3:=P.out;have A9:=Qbr.push A5 (by have:=(G.out.trans (b6.mono G.out.size)).size;exact this) T5 h2 (by simpa using h3) (by rw[ac];exact h1);rw[ac,<-Qgw cg.out] at A9
     have C9:Chg t z y:=Chg.grownP (aw.out.trans (Chg.below b6)) h2 (fun k hk=>(A5.lo_le hk).1);have K9:Blk y t #[.slice o k d] 24:=((h2.block t (Zl al.out.lt b6.size) (fun e=>by have:=(A5.lo_le e.symm).1;omega)).trans (al.out.below b6));refine⟨A9.setOther ⟨by show w.heap.size<=t;omega,by show t<_;omega⟩ _,K9,C9.trans (Chg.set _ _ _ K9.lt),?_⟩
     have:=Qh K9 0 (.slice (some ⟨g,0,none⟩) (k+1) n)
     simpa using this
    have cj:z.heap.size<=wq.heap.size:=aw.out.size;have y0:=Qb al.out 0 _ Z;have f0:=Qb ak.out 0 _ Z;have f1:=Qb ak.out 1 _ Z;have f2:=Qb ak.out 2 _ Z;clear al ak a0 aw G FN am BQ;generalize f.params.length=lp at PU f1 |-;generalize f.results.length=lr at PU f2 |-;generalize f.blocks.length=lb at PU ao f0 f1 f2 |-;generalize f.regs=rr at PU f0 |-;go_wp2_with (at_builtin;refine wpList_append_lies _ Z (.tmp 35) (.tmp 44) 22 Z z.heap.size 89 iF (.agg #[Iv 0,Nv,Nv,Nv]) 4 80 pUnderF ch a5 be bj Z (by decide) _ _ _ Z (H.out.alloc _) ⟨wq.heap.size,0,none⟩ 1 1 [Iv rr,.slice B lp A,.slice C lr D,.slice T lb U] Z Z (Qk0 _ [_,_,_,_] _) (Qny Z) (by decide) (by unfold maxLen;omega) (by omega) (by simp;omega) (wq.heap.size+1) (by simp) ?_)
    intro g2 af y h1 s aa ad;obtain⟨q1,q2,q3,q4⟩:=PU.out g2 af y h1 s aa
    have A9:=Qa q1;have K9:=Qa q2;have C9:=Qa q3;have N9:=Qa q4;have y9:=Qb q2 0 _ Z;have z9:=Qj q2 0;clear h1 s aa ad H PU q1 q2 q3 q4 y0 f0 f1 f2;go_wp2
    go_roundw
    case rel=>exact⟨k+1,_,_,bf,by go_num,N9.out,A9.out,C9.out⟩
    case measure=>simp[intOf];omega
   have ao:(q:Int)<f.blocks.length:=by omega
   have ab:f.blocks[q]?=some f.blocks[q]:=Zg b0;generalize f.blocks[q]=g at ab;have ck:=Qa ab;have bw:=Qa (Qh0 b9.out ab);obtain⟨eg,eo,S,W,es,rfl,L,bm,a4,ap⟩:=Qbo b9.out ab
   have br:=Qa a4;have G:Hid (Below w.heap.size w wq):=I.out.trans (BQ.out.mono I.out.size);have a3:Hid (wq.rangeAt eg (eo+q*12) (Value.int .i64 g.regs::Value.slice S g.params.length W::es)):=Qaf L G.out;generalize ai:(Value.int .i64 g.regs::Value.slice S g.params.length W::es)=E at a3;have N:E.length=12:=by rw[<-ai];simp[bm]
   have TS:Hid ((prog.info? 86).map (·.size)=some E.length):=by show _=_;rw[N];exact pSizeB
   have TH:Hid ((wq.alloc (.cells #[Iv 0,Nv,Nv,Iv 0,Iv 0,Iv 0,Nv,Nv,Iv 0,Nv,Nv,Nv] 86)).there wq.heap.size 0 E.toArray.size):=by
    intro j hj;rw[List.size_toArray,N] at hj
    rw[XK]
    have hB:=Qe wq #[Iv 0,Nv,Nv,Iv 0,Iv 0,Iv 0,Nv,Nv,Iv 0,Nv,Nv,Nv] 86;refine⟨?_,Qj hB j⟩
    rw[Qb hB j ((#[Iv 0,Nv,Nv,Iv 0,Iv 0,Iv 0,Nv,Nv,Iv 0,Nv,Nv,Nv]:Array Value)[j]'hj) (by simp)];rfl
   have bo:Hid ((prog.info? 86).map (·.size)=some E.toArray.size):=by show _=_;rw[List.size_toArray];exact TS.out
   have TO:Hid (E.toArray.all (·.oneCell')=true):=by
    refine all_oneCell_toArray fun v hv=>?_;rw[<-ai] at hv
    rcases List.mem_cons.1 hv with rfl | hv
    ·rfl
    rcases List.mem_cons.1 hv with rfl | hv
    ·rfl
    exact ap v hv
   have B6:Hid (Blk ((wq.alloc (.cells #[Iv 0,Nv,Nv,Iv 0,Iv 0,Iv 0,Nv,Nv,Iv 0,Nv,Nv,Nv] 86)).setCells wq.heap.size 0 E.toArray.toList) wq.heap.size (Value.int .i64 g.regs::Value.slice S g.params.length W::es).toArray 86):=by
    have h0:Blk (wq.alloc (.cells #[Iv 0,Nv,Nv,Iv 0,Iv 0,Iv 0,Nv,Nv,Iv 0,Nv,Nv,Nv] 86)) wq.heap.size ([]++(#[Iv 0,Nv,Nv,Iv 0,Iv 0,Iv 0,Nv,Nv,Iv 0,Nv,Nv,Nv]:Array Value).toList).toArray 86:=Qe wq _ _;rw[ai]
    exact Blk.sets E [] (#[Iv 0,Nv,Nv,Iv 0,Iv 0,Iv 0,Nv,Nv,Iv 0,Nv,Nv,Nv]:Array Value).toList _ (by rw[N];rfl) h0
   have b6:Hid (Below wq.heap.size wq ((wq.alloc (.cells #[Iv 0,Nv,Nv,Iv 0,Iv 0,Iv 0,Nv,Nv,Iv 0,Nv,Nv,Nv] 86)).setCells wq.heap.size 0 E.toArray.toList)):=by
    have:=Qz.setCells (O:=fun k=>k=wq.heap.size) (O':=fun k=>k=wq.heap.size) (b:=wq.heap.size) Z E.toArray.toList 0 _ (Qz.refl _ (wq.alloc (.cells #[Iv 0,Nv,Nv,Iv 0,Iv 0,Iv 0,Nv,Nv,Iv 0,Nv,Nv,Nv] 86)))
    exact(Zd wq _).trans (this.below (by simp) (fun k hk=>by omega))
   clear N ai L bm a4 ap ab;go_upto_region 9 with (first | (refine wpList_load_mid Z 86 (.tmp 22) Z eg (eo+q*12) Z E _ a3.out underlying86 Z TS.out ?_) | (refine wpList_store_mid Z 86 (.tmp 8) (.tmp 23) Z wq.heap.size 0 E.toArray Z Z TH.out bo.out TO.out ?_))
   have B7:Hid (Blk ((wq.alloc (.cells #[Iv 0,Nv,Nv,Iv 0,Iv 0,Iv 0,Nv,Nv,Iv 0,Nv,Nv,Nv] 86)).setCells wq.heap.size 0 E) wq.heap.size (Value.int .i64 g.regs::Value.slice S g.params.length W::es).toArray 86):=B6.out;have b7:Hid (Below wq.heap.size wq ((wq.alloc (.cells #[Iv 0,Nv,Nv,Iv 0,Iv 0,Iv 0,Nv,Nv,Iv 0,Nv,Nv,Nv] 86)).setCells wq.heap.size 0 E)):=b6.out;clear B6 b6 TH TS bo TO a3;generalize (wq.alloc (.cells #[Iv 0,Nv,Nv,Iv 0,Iv 0,Iv 0,Nv,Nv,Iv 0,Nv,Nv,Nv] 86)).setCells wq.heap.size 0 E=J at B7 b7 |-;have an:Hid (Qbr (Zn 6) 86 J w.heap.size K.heap.size (.slice T q U) ((f.blocks.take q).map MBlock.outl) cB):=am.out.below b7.out;have Q:Hid (Below K.heap.size K J):=BQ.out.trans (b7.out.mono BQ.out.size);generalize wq.heap.size=Bx at B7 b7 |-;have g0:J.cell? ⟨Bx,0,none⟩=some (Iv g.regs):=Qb B7.out 0 _ Z;have g1:J.cell? ⟨Bx,1,none⟩=some (.slice S g.params.length W):=Qb B7.out 1 _ Z
   have H:Hid (J.ownsRow K.heap.size 86 12 (.slice T q U) q cB):=by
    have:=an.out.own
    rw[ah] at this
    exact this
   have PU:Hid (∀ gg n y,y.ownsRow K.heap.size 86 12 (.slice (some ⟨gg,0,none⟩) (q+1) n) (q+1) (cB++[Iv g.regs,.slice S g.params.length W,Nv,Iv 3,Iv 0,Iv 0,Nv,Nv,Iv 0,Nv,Nv,Nv])->(J.alloc (.cells #[Iv g.regs,.slice S g.params.length W,Nv,Iv 3,Iv 0,Iv 0,Nv,Nv,Iv 0,Nv,Nv,Nv] 86)).grownBy y (Value.slice T q U).ownBlock->((Value.slice T q U).ownBlock=some gg\/gg=J.heap.size+1) ->
    Qbr (Zn 6) 86 y w.heap.size K.heap.size (.slice (some ⟨gg,0,none⟩) (q+1) n) ((f.blocks.take (q+1)).map MBlock.outl) (cB++[Iv g.regs,.slice S g.params.length W,Nv,Iv 3,Iv 0,Iv 0,Nv,Nv,Iv 0,Nv,Nv,Nv])/\Below K.heap.size K y):=by
    intro gg n y h1 h2 h3;have b8:Below J.heap.size J (J.alloc (.cells #[Iv g.regs,.slice S g.params.length W,Nv,Iv 3,Iv 0,Iv 0,Nv,Nv,Iv 0,Nv,Nv,Nv] 86)):=Zd _ _;have A5:=an.out.below b8;have a2:Below w.heap.size w J:=I.out.trans (Q.out.mono I.out.size);have o5:=I.out.size
    have T5:(Zn 6).In (J.alloc (.cells #[Iv g.regs,.slice S g.params.length W,Nv,Iv 3,Iv 0,Iv 0,Nv,Nv,Iv 0,Nv,Nv,Nv] 86)) (fun k=>(k<w.heap.size\/K.heap.size<=k)/\(Value.slice T q U).ownBlock≠some k) g.outl [Iv g.regs,.slice S g.params.length W,Nv,Iv 3,Iv 0,Iv 0,Nv,Nv,Iv 0,Nv,Nv,Nv] :=
     Ya (Qjg (Yc (Ya br.out a2) (fun j hj N=>⟨.inl hj,fun e=>by have:=(an.out.lo_le e).1;omega⟩)) bw.out) b8
    have A9:=Qbr.push A5 ((a2.trans (b8.mono a2.size)).size) T5 h2 (by simpa using h3) (by rw[ah];exact h1);rw[ah,<-Qgw ck.out] at A9
    exact⟨A9,(Q.out.trans (b8.mono Q.out.size)).grown h2 (Zt Q.out.size b8.size) (fun k hk=>(A5.lo_le hk).1)⟩
   have cj:K.heap.size<=J.heap.size:=Q.out.size;clear B7 b7 an Q am BQ G br bw;generalize g.params.length=lp at PU g1 |-;generalize g.regs=rr at PU g0 |-;go_wp2_with (at_builtin;refine wpList_append_lies _ Z (.tmp 24) (.tmp 31) 87 Z K.heap.size 86 iB (.agg #[Iv 0,Nv,Nv,Iv 0,Iv 0,Iv 0,Nv,Nv,Iv 0,Nv,Nv,Nv]) 12 208 pUnderB ce bb bn bl Z (by decide) _ _ _ Z (H.out.alloc _) ⟨J.heap.size,0,none⟩ 1 1 [Iv rr,.slice S lp W,Nv,Iv 3,Iv 0,Iv 0,Nv,Nv,Iv 0,Nv,Nv,Nv] Z Z (Qk0 _ [_,_,_,_,_,_,_,_,_,_,_,_] _) (Qny Z) (by decide) (by unfold maxLen;omega) (by omega) (by simp;omega) (J.heap.size+1) (by simp) ?_)
   intro g2 af y h1 s aa ad;obtain⟨q1,q2⟩:=PU.out g2 af y h1 s aa
   have A9:=Qa q1;have C9:=Qa q2;clear h1 s aa ad H PU q1 q2 g0 g1;go_wp2
   go_roundw
   case rel=>exact⟨q+1,_,b0,by go_num,A9.out,C9.out⟩
   case measure=>simp[intOf];omega
def QcZ (n:Nat):Lay (MBlock n):=(Lay.int.pair ((Qp n).pair (insC.list.pair endL))).via (fun x=>(x.regs,x.params,x.code,x.fin))
def Ql1 (n:Nat):Lay (MFunc n):=(Lay.int.pair ((Qp n).pair ((Qp n).pair (QcZ n).list))).via (fun x=>(x.regs,x.params,x.results,x.blocks))
abbrev QjP (n:Nat):Lay (List (MFunc n)):=(Ql1 n).list
theorem Qhh (n:Nat):Lay.Sub (QcZ n) (Zn n):=.via (.pair (.refl _) (.pair (.refl _) (.pair (.list ins_sub) (.refl _)))) _
theorem QiX (n:Nat):Lay.Sub (Ql1 n) (ZS n):=.via (.pair (.refl _) (.pair (.refl _) (.pair (.refl _) (.list (Qhh n))))) _
theorem QbE (n:Nat):Lay.Sub (QjP n) (QaN n):=.list (QiX n)
theorem Qhk (n:Nat):Lay.Sub (Qbh n) (QcZ n):=.via (.pair (.refl _) (.pair (.refl _) (.pair (.refl _) end_sub))) _
theorem QiP (n:Nat):Lay.Sub (QeJ n) (Ql1 n):=.via (.pair (.refl _) (.pair (.refl _) (.pair (.refl _) (.list (Qhk n))))) _
theorem QgJ (n:Nat):Lay.Sub (QhY n) (QjP n):=.list (QiP n)
section
variable {w:World}{O:Nat->Prop}{n:Nat}
theorem QiF {x:Qs}{b:Option Addr}(f:intsC.In w O x.regs [.slice a x.regs.length c]) (g:intsC.In w O x.args [.slice b x.args.length d]) (e:I64 x.op/\I64 x.a/\I64 x.b/\I64 x.c/\I64 x.k/\I64 x.n):insC.In w O x [Iv x.op,Iv x.a,Iv x.b,Iv x.c,Iv x.k,Iv x.n,.slice a x.regs.length c,.slice b x.args.length d] :=
 ⟨[_],_,Z,⟨Z,e.1⟩,[_],_,Z,⟨Z,e.2.1⟩,[_],_,Z,⟨Z,e.2.2.1⟩,[_],_,Z,⟨Z,e.2.2.2.1⟩,[_],_,Z,⟨Z,e.2.2.2.2.1⟩,[_],_,Z,⟨Z,e.2.2.2.2.2⟩,[_],_,Z,f,g⟩
end
theorem XI:type_of% @Below.setCell:=@Below.setCell
theorem Qe4 {m:List (MBlock 6)}(h:(QcZ 6).list.In w Q m [.slice p n c]){g:MBlock 6}(s:m[k]?=some g) :
 ∃ mg mo a1 c1 a2 c2 e,p=some ⟨mg,mo,none⟩/\w.rangeAt mg (mo+k*12) (Iv g.regs::.slice a1 g.params.length c1::.slice a2 g.code.length c2::(QbW g.fin e).toList)/\insC.list.In w Q g.code [.slice a2 g.code.length c2]/\Qdn w Q g.fin e/\(-9223372036854775808<=g.fin.a/\g.fin.a<=9223372036854775807):=by
 obtain⟨mg,mo,u,r,x,t,q,_,_,rfl,⟨rfl,_⟩,_,_,rfl,i,_,_,rfl,d,o⟩:=Yf h s
 obtain⟨a1,c1,rfl,i⟩:=QK i
 obtain⟨a2,c2,rfl,d⟩:=QK d
 obtain⟨e,rfl,b⟩:=Qer o
 refine⟨mg,mo,a1,c1,a2,c2,e,r,fun j v l=>?_,d,⟨b.yes.regs,b.yes.args,b.no.regs,b.no.args,b.args⟩,b.bnd.2⟩
 have f:j<12:=(Zi l).1
 have:=q j f
 rw[show (QcZ 6).size=12 from Z] at this
 rw[this]
 exact l
structure VcS (w wr:World) (X R A4:Nat) (pm pa:Option Addr) (cm ca:Nat) (m:List (MFunc 6)):Prop where
 bel:Below w.heap.size w wr
 x:Blk wr X #[.slice pm m.length cm] 24
 r:Blk wr R #[Iv 0,Iv 0] 32
 a:Blk wr A4 #[.slice pa m.length ca] 24
 om:(QaN 6).In wr All (outl m) [.slice pa m.length ca]
theorem VcS.below {wr:World}{b:Nat}{m:List (MFunc 6)}(h:VcS w wr X R b pm pa cm ca m) (k:Below wr.heap.size wr w'):VcS w w' X R b pm pa cm ca m :=
 ⟨h.bel.trans (k.mono h.bel.size),h.x.below k,h.r.below k,h.a.below k,Ya h.om k⟩
theorem Qcj {m:List (MFunc n)}(J:(QaN n).In w All m [.slice p m.length c]) (j:Qbe m) (d:(modFault m).1≠0) :
 Calls prog 66 #[.agg #[.slice p m.length c]] w fun e w'=>e=.returned (QG (modFault m))/\Below w.heap.size w w':=by
 have K:=Qa J;have D:=Qa j;have A:=Zd w (.cells #[.slice p m.length c] 24);have h:=Zd (w.alloc (.cells #[.slice p m.length c] 24)) (.cells #[Iv 0,Iv 0] 32);have l:Hid (Below w.heap.size w ((w.alloc (.cells #[.slice p m.length c] 24)).alloc (.cells #[Iv 0,Iv 0] 32))):=A.trans (h.mono A.size);have q:Hid (Blk ((w.alloc (.cells #[.slice p m.length c] 24)).alloc (.cells #[Iv 0,Iv 0] 32)) w.heap.size #[.slice p m.length c] 24):=Blk.new1 ..;have i:Hid (Blk ((w.alloc (.cells #[.slice p m.length c] 24)).alloc (.cells #[Iv 0,Iv 0] 32)) (w.heap.size+1) #[Iv 0,Iv 0] 32):=Blk.new2 ..;clear A h J j;go_enter func66,ntmps66
 go_upto_region 1 with fail
 generalize (w.alloc (.cells #[.slice p m.length c] 24)).alloc (.cells #[Iv 0,Iv 0] 32)=Q at l q i |-;obtain⟨X,I⟩:∃ X,X=w.heap.size:=⟨_,Z⟩
 obtain⟨R,G⟩:∃ R,R=X+1:=⟨_,Z⟩
 have r:Hid (w.heap.size<=R):=by show _<=_;omega
 rw[<-I] at q i |-
 rw[<-G] at i |-
 clear I G;have O:=Qb q.out 0 _ Z;have C:=Qa (Qce (Ya K.out l.out) D.out);unfold Rd at C;go_wp2_with fail
 refine C.out.mono ?_;rintro T f ⟨rfl,h⟩;obtain⟨a,b,g⟩:∃ a b,modFault m=(a,b):=⟨_,_,Z⟩
 have k:Hid (modFault m=(a,b)):=g;rw[g]
 clear g;have x:=h.trans ((Zd f (.cells #[Iv a,Iv b] 32)).mono h.size);have z:Hid (Blk (f.alloc (.cells #[Iv a,Iv b] 32)) X #[.slice p m.length c] 24):=q.out.below x;have s:Hid (Blk (f.alloc (.cells #[Iv a,Iv b] 32)) R #[Iv 0,Iv 0] 32):=i.out.below x;have t:Hid (Below w.heap.size w (f.alloc (.cells #[Iv a,Iv b] 32))):=l.out.trans (x.mono l.out.size);have y:Hid (Blk (f.alloc (.cells #[Iv a,Iv b] 32)) f.heap.size #[Iv a,Iv b] 32):=Blk.new _ _ _;simp only[QG]
 clear h x C O q i l;go_upto_region 2 with fail
 generalize f.alloc (.cells #[Iv a,Iv b] 32)=u at z s t y |-;generalize f.heap.size=S at y |-
 have H:(a != 0)=true:=by
  have:a≠0:=by rw[k.out] at d;exact d
  simpa using this
 clear d;have P:=Qb y.out 0 _ Z;have W:=Qb y.out 1 _ Z;have E:Hid (modFault m=(a,b)):=k.out;have o:Hid (Blk u R #[Iv 0,Iv 0] 32):=s.out;have V:=Qb o.out 0 _ Z;have r1:=Qb o.out 1 _ Z;have z0:=Qj o.out 0;have U:=Qj o.out 1;have B:Hid (Blk ((u.setCell ⟨R,0,none⟩ (Iv a)).setCell ⟨R,1,none⟩ (Iv b)) R #[Iv a,Iv b] 32):=Zu o.out _ _;have F:Hid (Below w.heap.size w ((u.setCell ⟨R,0,none⟩ (Iv a)).setCell ⟨R,1,none⟩ (Iv b))):=(XI t.out (p:=⟨R,0,none⟩) r.out _).setCell (p:=⟨R,1,none⟩) r.out _;go_wp2_with fail
 generalize (u.setCell ⟨R,0,none⟩ (Iv a)).setCell ⟨R,1,none⟩ (Iv b)=N at B F |-;have L:=Qb B.out 0 _ Z;have M:=Qb B.out 1 _ Z;exact Xy (v:=.agg #[Iv a,Iv b]) (by simp[results,results66,go_sem,L,M]) Z ⟨by rw[E.out],F.out⟩
theorem Qb3 {m:List (MFunc 6)}(hm:(QjP 6).In w All m [.slice p m.length c]) (ab:Qbe m) (an:(modFault m).1=0->¬ Qm m) :
 Calls prog 66 #[.agg #[.slice p m.length c]] w fun e w'=>e=.returned (QG (Qq m))/\Below w.heap.size w w':=by
 by_cases hz:(modFault m).1=0
 rotate_left
 ·have e:Qq m=modFault m:=by unfold Qq;rw[Xs hz]
  rw[e]
  exact Qcj ((QbE 6).2 hm) ab hz
 have hg:=an hz;have HM:=Qa hm;have aq:=Qa ab;have HG:=Qa hg;have ad:=Qa hz;have bd:m.length<=20:=Xo fun x=>hg (.inl x);have E0:Hid (Qq m=firstF (Z7 m) 0 m):=by show _=_;unfold Qq;rw[Xr (fun h=>h hz)]
 clear hg an hz;have b1:=Zd w (.cells #[.slice p m.length c] 24);have b2:=Zd (w.alloc (.cells #[.slice p m.length c] 24)) (.cells #[Iv 0,Iv 0] 32);have B0:Hid (Below w.heap.size w ((w.alloc (.cells #[.slice p m.length c] 24)).alloc (.cells #[Iv 0,Iv 0] 32))):=b1.trans (b2.mono b1.size);have BX:Hid (Blk ((w.alloc (.cells #[.slice p m.length c] 24)).alloc (.cells #[Iv 0,Iv 0] 32)) w.heap.size #[.slice p m.length c] 24):=Blk.new1 ..;have BR:Hid (Blk ((w.alloc (.cells #[.slice p m.length c] 24)).alloc (.cells #[Iv 0,Iv 0] 32)) (w.heap.size+1) #[Iv 0,Iv 0] 32):=Blk.new2 ..;clear b1 b2 hm ab;go_enter func66,ntmps66
 go_upto_region 1 with fail
 generalize (w.alloc (.cells #[.slice p m.length c] 24)).alloc (.cells #[Iv 0,Iv 0] 32)=w1 at B0 BX BR |-;obtain⟨X,hX⟩:∃ X,X=w.heap.size:=⟨_,Z⟩
 obtain⟨R,hR⟩:∃ R,R=X+1:=⟨_,Z⟩
 have P:Hid (w.heap.size<=R):=by show _<=_;omega
 rw[<-hX] at BX BR |-
 rw[<-hR] at BR |-
 clear hX hR;have x0:=Qb BX.out 0 _ Z;have CC:=Qa (Qce (Ya ((QbE 6).2 HM.out) B0.out) aq.out);unfold Rd at CC;go_wp2_with fail
 refine CC.out.mono ?_;rintro e2 V ⟨rfl,b2⟩;obtain⟨I,M,ae⟩:∃ I M,modFault m=(I,M):=⟨_,_,Z⟩
 have ax:Hid (modFault m=(I,M)):=ae;rw[ae]
 clear ae;have b3:=b2.trans ((Zd V (.cells #[Iv I,Iv M] 32)).mono b2.size);have T:Hid (Blk (V.alloc (.cells #[Iv I,Iv M] 32)) X #[.slice p m.length c] 24):=BX.out.below b3;have ai:Hid (Blk (V.alloc (.cells #[Iv I,Iv M] 32)) R #[Iv 0,Iv 0] 32):=BR.out.below b3;have B:Hid (Below w.heap.size w (V.alloc (.cells #[Iv I,Iv M] 32))):=B0.out.trans (b3.mono B0.out.size);have F3:Hid (Blk (V.alloc (.cells #[Iv I,Iv M] 32)) V.heap.size #[Iv I,Iv M] 32):=Blk.new _ _ _;simp only[QG]
 clear b2 b3 CC x0 BX BR B0;go_upto_region 2 with fail
 generalize V.alloc (.cells #[Iv I,Iv M] 32)=w3 at T ai B F3 |-;generalize V.heap.size=F9 at F3 |-;have ay:I=0:=by have:=ad.out;rw[ax.out] at this;exact this
 subst ay;have f0:=Qb F3.out 0 _ Z;have f1:=Qb F3.out 1 _ Z;have x3:=Qb T.out 0 _ Z;have CO:=Qa (Qi6 (w:=w3) (m:=m) (p:=p) (c:=c) (Ya ((QbE 6).2 HM.out) B.out) aq.out);clear ax;go_wp2_with fail
 refine CO.out.mono ?_;rintro e4 w4 ⟨F,l,rfl,ap,b4⟩;have b5:=Zd w4 (.cells #[.slice F m.length l] 24)
 have S:Hid (VcS w (w4.alloc (.cells #[.slice F m.length l] 24)) X R w4.heap.size p F c l m) :=
  ⟨(B.out.trans (b4.mono B.out.size)).trans (b5.mono (Zt B.out.size b4.size)),(T.out.below b4).below b5,(ai.out.below b4).below b5,Blk.new _ _ _,Ya ap b5⟩
 clear ap b4 b5 CO x3 f0 f1 T ai B F3;go_upto_region 5 with fail
 generalize w4.alloc (.cells #[.slice F m.length l] 24)=w5 at S |-;generalize w4.heap.size=A4 at S |-;have x0:=Qb S.out.x 0 _ Z;go_wp2_with fail
 clear x0;go_loopw [21] (fun i wr=>∃ k:Nat,k<=m.length/\i=Iv k/\VcS w wr X R A4 p F c l m/\∀ j f,j<k->m[j]?=some f->(Z7 m j f).1=0) (fun i _=>m.length - (intOf i).toNat)
 case atStart=>exact⟨0,Xb _,Z,S.out,fun j f hj=>absurd hj (XG _)⟩
 case round =>
  obtain⟨k,hk,rfl,hs,o⟩:=hrel
  have SR:=Qa hs;have J:=Qa o;clear hs o S;obtain⟨s,a6⟩:∃ s,s=wr:=⟨_,Z⟩
  subst a6;by_cases a4:k<m.length
  rotate_left
  ·have av:¬ (k:Int)<m.length:=by omega
   have E:Hid (Qq m=(0,0)):=by
    show _=_;rw[E0.out]
    exact QZ fun j f hj=>by rw[XK];exact J.out j f (by have:=(Zi hj).1;omega) hj
   have K:Hid (Blk s R #[Iv 0,Iv 0] 32):=SR.out.r;have r0:=Qb K.out 0 _ Z;have r1:=Qb K.out 1 _ Z;have z0:=Qj K.out 0;have z1:=Qj K.out 1;have RB:Hid (Blk ((s.setCell ⟨R,0,none⟩ (Iv 0)).setCell ⟨R,1,none⟩ (Iv 0)) R #[Iv 0,Iv 0] 32):=Zu K.out _ _;have BL:Hid (Below w.heap.size w ((s.setCell ⟨R,0,none⟩ (Iv 0)).setCell ⟨R,1,none⟩ (Iv 0))):=(XI SR.out.bel (p:=⟨R,0,none⟩) P.out _).setCell (p:=⟨R,1,none⟩) P.out _;go_wp2_with fail
   generalize (s.setCell ⟨R,0,none⟩ (Iv 0)).setCell ⟨R,1,none⟩ (Iv 0)=a0 at RB BL |-;have e0:=Qb RB.out 0 _ Z;have e1:=Qb RB.out 1 _ Z;exact Xy (v:=.agg #[Iv 0,Iv 0]) (by simp[results,results66,go_sem,e0,e1]) Z ⟨by rw[E.out],BL.out⟩
  have av:(k:Int)<m.length:=by omega
  have H:m[k]?=some m[k]:=Zg a4;generalize m[k]=f at H;have ag:=Qa H;obtain⟨D,C,ds,rfl,-,-,L,_,_,rfl,⟨rfl,_⟩,_,_,rfl,t1,_,_,rfl,t2,t3⟩:=Yf HM.out H
  obtain⟨a1,c1,rfl,t1⟩:=QK t1
  obtain⟨a2,c2,rfl,t2⟩:=QK t2
  obtain⟨a3,c3,rfl,t3⟩:=QK t3
  have v0:s.cell? ⟨D,C+k*4,none⟩=some (Iv f.regs):=Qk (show w.cell? ⟨D,C+k*4,none⟩=_ from L 0 (by decide)) SR.out.bel;have v1:s.cell? ⟨D,C+k*4+1,none⟩=some (.slice a1 f.params.length c1):=Qk (show w.cell? ⟨D,C+k*4+1,none⟩=_ from L 1 (by decide)) SR.out.bel;have v2:s.cell? ⟨D,C+k*4+2,none⟩=some (.slice a2 f.results.length c2):=Qk (show w.cell? ⟨D,C+k*4+2,none⟩=_ from L 2 (by decide)) SR.out.bel;have v3:s.cell? ⟨D,C+k*4+3,none⟩=some (.slice a3 f.blocks.length c3):=Qk (show w.cell? ⟨D,C+k*4+3,none⟩=_ from L 3 (by decide)) SR.out.bel;have a9:Hid ((QcZ 6).list.In w All f.blocks [.slice a3 f.blocks.length c3]):=t3;have a5:Hid (f∈m):=Zm H;have bb:f.blocks.length<=30:=Xo fun h=>HG.out (.inr ⟨f,a5.out,.inl h⟩);have b6:=Zd s (.cells #[Iv f.regs,.slice a1 f.params.length c1,.slice a2 f.results.length c2,.slice a3 f.blocks.length c3] 89);have S6:Hid (VcS w (s.alloc (.cells #[Iv f.regs,.slice a1 f.params.length c1,.slice a2 f.results.length c2,.slice a3 f.blocks.length c3] 89)) X R A4 (some ⟨D,C,none⟩) F c l m):=SR.out.below b6;have BF:Hid (Blk (s.alloc (.cells #[Iv f.regs,.slice a1 f.params.length c1,.slice a2 f.results.length c2,.slice a3 f.blocks.length c3] 89)) s.heap.size #[Iv f.regs,.slice a1 f.params.length c1,.slice a2 f.results.length c2,.slice a3 f.blocks.length c3] 89):=Blk.new _ _ _;clear L t1 t2 t3 H b6 SR;go_upto_region 8 with fail
  generalize s.alloc (.cells #[Iv f.regs,.slice a1 f.params.length c1,.slice a2 f.results.length c2,.slice a3 f.blocks.length c3] 89)=w6 at S6 BF |-;generalize s.heap.size=XF at BF |-;clear v0 v1 v2 v3;have t3:=Qb BF.out 3 _ Z;go_wp2_with fail
  clear t3 BF;go_loopw [29] (fun i wq=>∃ q:Nat,q<=f.blocks.length/\i=Iv q/\VcS w wq X R A4 (some ⟨D,C,none⟩) F c l m/\∀ j g,j<q->f.blocks[j]?=some g->(QA (10000*(k:Int)+100*(j:Int)) g.fin (JSt.start m f g) 0 g.code).1=0) (fun i _=>f.blocks.length - (intOf i).toNat)
  case atStart=>exact⟨0,Xb _,Z,S6.out,fun j g hj=>absurd hj (XG _)⟩
  case round =>
   obtain⟨q,hq,rfl,hs,o⟩:=hrel
   have SQ:=Qa hs;have u:=Qa o;clear hs o S6;obtain⟨d,a8⟩:∃ d,d=wr:=⟨_,Z⟩
   subst a8;by_cases a7:q<f.blocks.length
   rotate_left
   ·have al:¬ (q:Int)<f.blocks.length:=by omega
    have E:Hid ((Z7 m k f).1=0):=by
     show _=_;unfold Z7;rw[QZ fun j g hj=>by rw[XK];exact u.out j g (by have:=(Zi hj).1;omega) hj]
    go_wp2_with fail
    go_roundw
    case rel =>
     refine⟨k+1,by omega,by go_num,SQ.out,fun j y hj hy=>?_⟩
     by_cases aj:j<k
     ·exact J.out j y aj hy
     ·have:j=k:=by omega
      subst this;rw[ag.out] at hy
      cases hy
      exact E.out
    case measure=>simp[intOf];omega
   have al:(q:Int)<f.blocks.length:=by omega
   have Q:f.blocks[q]?=some f.blocks[q]:=Zg a7;generalize f.blocks[q]=g at Q;have ak:=Qa Q;obtain⟨eg,eo,p1,d1,p2,d2,e,rfl,z,G,W,am⟩:=Qe4 a9.out Q
   have aa:=Qa G;have ao:=Qa W;have az:=Qa am;have ah:Hid (d.rangeAt eg (eo+q*12) (Value.int .i64 g.regs::Value.slice p1 g.params.length d1::Value.slice p2 g.code.length d2::(QbW g.fin e).toList)):=Qaf z SQ.out.bel;generalize N:(Value.int .i64 g.regs::Value.slice p1 g.params.length d1::Value.slice p2 g.code.length d2::(QbW g.fin e).toList)=n at ah;have hl:n.length=12:=by rw[<-N];rfl
   have TS:Hid ((prog.info? 86).map (·.size)=some n.length):=by show _=_;rw[hl];exact pSizeB
   have TH:Hid ((d.alloc (.cells #[Iv 0,Nv,Nv,Iv 0,Iv 0,Iv 0,Nv,Nv,Iv 0,Nv,Nv,Nv] 86)).there d.heap.size 0 n.toArray.size):=by
    intro j hj;rw[List.size_toArray,hl] at hj
    rw[XK]
    have hB:=Qe d #[Iv 0,Nv,Nv,Iv 0,Iv 0,Iv 0,Nv,Nv,Iv 0,Nv,Nv,Nv] 86;refine⟨?_,Qj hB j⟩
    rw[Qb hB j ((#[Iv 0,Nv,Nv,Iv 0,Iv 0,Iv 0,Nv,Nv,Iv 0,Nv,Nv,Nv]:Array Value)[j]'hj) (by simp)];rfl
   have ar:Hid ((prog.info? 86).map (·.size)=some n.toArray.size):=by show _=_;rw[List.size_toArray];exact TS.out
   have TO:Hid (n.toArray.all (·.oneCell')=true):=by
    refine all_oneCell_toArray fun v hv=>?_;rw[<-N] at hv
    simp only[QbW,List.mem_cons,List.not_mem_nil,or_false] at hv
    rcases hv with rfl | rfl | rfl | rfl | rfl | rfl | rfl | rfl | rfl | rfl | rfl | rfl<;>rfl
   have B6:Hid (Blk ((d.alloc (.cells #[Iv 0,Nv,Nv,Iv 0,Iv 0,Iv 0,Nv,Nv,Iv 0,Nv,Nv,Nv] 86)).setCells d.heap.size 0 n.toArray.toList) d.heap.size n.toArray 86):=by
    have h0:Blk (d.alloc (.cells #[Iv 0,Nv,Nv,Iv 0,Iv 0,Iv 0,Nv,Nv,Iv 0,Nv,Nv,Nv] 86)) d.heap.size ([]++(#[Iv 0,Nv,Nv,Iv 0,Iv 0,Iv 0,Nv,Nv,Iv 0,Nv,Nv,Nv]:Array Value).toList).toArray 86:=Qe d _ _;exact Blk.sets n [] (#[Iv 0,Nv,Nv,Iv 0,Iv 0,Iv 0,Nv,Nv,Iv 0,Nv,Nv,Nv]:Array Value).toList _ (by rw[hl];rfl) h0
   have b6:Hid (Below d.heap.size d ((d.alloc (.cells #[Iv 0,Nv,Nv,Iv 0,Iv 0,Iv 0,Nv,Nv,Iv 0,Nv,Nv,Nv] 86)).setCells d.heap.size 0 n.toArray.toList)):=by
    have:=Qz.setCells (O:=fun k=>k=d.heap.size) (O':=fun k=>k=d.heap.size) (b:=d.heap.size) Z n.toArray.toList 0 _ (Qz.refl _ (d.alloc (.cells #[Iv 0,Nv,Nv,Iv 0,Iv 0,Iv 0,Nv,Nv,Iv 0,Nv,Nv,Nv] 86)))
    exact(Zd d _).trans (this.below (by simp) (fun k hk=>by omega))
   have aw:Hid ((Value.int .i64 g.regs::Value.slice p1 g.params.length d1::Value.slice p2 g.code.length d2::(QbW g.fin e).toList)=n):=N;clear hl N z G W am Q;go_upto_region 11 with (first | (refine wpList_load_mid Z 86 (.tmp 32) Z eg (eo+q*12) Z n _ ah.out underlying86 Z TS.out ?_) | (refine wpList_store_mid Z 86 (.tmp 8) (.tmp 33) Z d.heap.size 0 n.toArray Z Z TH.out ar.out TO.out ?_))
   have B7:Hid (Blk ((d.alloc (.cells #[Iv 0,Nv,Nv,Iv 0,Iv 0,Iv 0,Nv,Nv,Iv 0,Nv,Nv,Nv] 86)).setCells d.heap.size 0 n) d.heap.size n.toArray 86):=B6.out;have S7:Hid (VcS w ((d.alloc (.cells #[Iv 0,Nv,Nv,Iv 0,Iv 0,Iv 0,Nv,Nv,Iv 0,Nv,Nv,Nv] 86)).setCells d.heap.size 0 n) X R A4 (some ⟨D,C,none⟩) F c l m):=SQ.out.below b6.out;clear B6 b6 TH ar TO ah SQ;generalize (d.alloc (.cells #[Iv 0,Nv,Nv,Iv 0,Iv 0,Iv 0,Nv,Nv,Iv 0,Nv,Nv,Nv] 86)).setCells d.heap.size 0 n=w7 at B7 S7 |-;generalize d.heap.size=Bx at B7 |-;have y0:=Qb S7.out.a 0 _ Z;have au:Hid (w7.rangeAt Bx 0 n):=Blk.range B7.out
   have CB:Hid (Calls prog 108 #[.agg #[.slice F m.length l],Iv (k:Int),Iv (q:Int),.agg n.toArray] w7 fun r w'=>r=.returned (QG (QA (10000*(k:Int)+100*(q:Int)) g.fin (JSt.start m f g) 0 g.code))/\Below w7.heap.size w7 w'):=by
    have:=QgV (w:=w7) (p:=F) (c:=l) (p1:=p1) (d1:=d1) ad.out HG.out S7.out.om ag.out ak.out (Ya aa.out S7.out.bel) (ao.out.below S7.out.bel) az.out
    rw[<-aw.out]
    exact this
   obtain⟨t,A,ac⟩:∃ t A,QA (10000*(k:Int)+100*(q:Int)) g.fin (JSt.start m f g) 0 g.code=(t,A):=⟨_,_,Z⟩
   have af:=Qa ac;rw[ac] at CB
   clear ac aw B7;go_wp2_with (refine wpList_load_mid Z 86 (.tmp 8) Z Bx 0 Z n _ au.out underlying86 Z TS.out ?_)
   refine CB.out.mono ?_;rintro e8 w8 ⟨rfl,b8⟩;have b9:=b8.trans ((Zd w8 (.cells #[Iv t,Iv A] 32)).mono b8.size);have S9:Hid (VcS w (w8.alloc (.cells #[Iv t,Iv A] 32)) X R A4 (some ⟨D,C,none⟩) F c l m):=S7.out.below b9;have F9:Hid (Blk (w8.alloc (.cells #[Iv t,Iv A] 32)) w8.heap.size #[Iv t,Iv A] 32):=Blk.new _ _ _;clear b8 b9 S7 CB au TS y0;simp only[QG]
   go_upto_region 12 with fail
   generalize w8.alloc (.cells #[Iv t,Iv A] 32)=w9 at S9 F9 |-;generalize w8.heap.size=F8 at F9 |-;have f0:=Qb F9.out 0 _ Z;have f1:=Qb F9.out 1 _ Z;by_cases U:t=0
   ·subst U;go_wp2_with fail
    go_roundw
    case rel =>
     refine⟨q+1,by omega,by go_num,S9.out,fun j y hj hy=>?_⟩
     by_cases aj:j<q
     ·exact u.out j y aj hy
     ·have:j=q:=by omega
      subst this;rw[ak.out] at hy
      cases hy
      rw[af.out]
    case measure=>simp[intOf];omega
   ·have ba:(t != 0)=true:=by simpa using U
    have E:Hid (Qq m=(t,A)):=by
     show _=_;rw[QfA ad.out ag.out J.out ak.out u.out (by rw[af.out];exact U),af.out]
    clear U;have K:Hid (Blk w9 R #[Iv 0,Iv 0] 32):=S9.out.r;have r0:=Qb K.out 0 _ Z;have r1:=Qb K.out 1 _ Z;have z0:=Qj K.out 0;have z1:=Qj K.out 1;have RB:Hid (Blk ((w9.setCell ⟨R,0,none⟩ (Iv t)).setCell ⟨R,1,none⟩ (Iv A)) R #[Iv t,Iv A] 32):=Zu K.out _ _;have BL:Hid (Below w.heap.size w ((w9.setCell ⟨R,0,none⟩ (Iv t)).setCell ⟨R,1,none⟩ (Iv A))):=(XI S9.out.bel (p:=⟨R,0,none⟩) P.out _).setCell (p:=⟨R,1,none⟩) P.out _;go_wp2_with fail
    generalize (w9.setCell ⟨R,0,none⟩ (Iv t)).setCell ⟨R,1,none⟩ (Iv A)=a0 at RB BL |-;have e0:=Qb RB.out 0 _ Z;have e1:=Qb RB.out 1 _ Z;exact Xy (v:=.agg #[Iv t,Iv A]) (by simp[results,results66,go_sem,e0,e1]) Z ⟨by rw[E.out],BL.out⟩
theorem QlB {s a:JSt}{x:Qs}{ts:List (TT 6)}(d:s.makes x=(0,ts)) (c:x.form s.m.length=0) (e:s.L.length+ts.length<=80) (b:s.next x=a):s.code x=0/\s.next x=a:=by
 refine⟨?_,b⟩
 unfold JSt.code;rw[Xr (fun h=>h c),d]
 simp only[ne_eq,not_true_eq_false,if_false]
 rw[Xr (by omega)]
theorem QnB (w:World):intsC.In w All ([]:List Int) [Nv]:=⟨⟨_,_,Z,Ze⟩,Yg _ _ _ _ _⟩
def fS0:JSt:=⟨five6,fF,[],[]⟩
def fS1:JSt:=⟨five6,fF,[],[tInt]⟩
theorem fb1:fS0.code fI=0/\fS0.next fI=fS1:=by
 have a:fS0.makes fI=(0,[tInt]):=Qaa (.inl Z);exact QlB a (by decide) (by decide) (by unfold JSt.next;rw[a];rfl)
theorem fb2:fS1.fin fE=0:=by
 have a:fS1.arg (QhC fF.regs.toNat) 0 tInt=0:=by
  unfold JSt.arg;show (if ZR (TT.ren _ _ tInt=some tInt) then (0:Int) else 9)=0;exact Xs (QC Z)
 unfold JSt.fin;rw[Xr (by decide),Xr (by decide),Xr (by decide)]
 have:fS1.args fE.args fS1.f.results (QhC fS1.f.regs.toNat)=0:=by
  unfold JSt.args;rw[Xs (by decide)]
  show Qu _ [((0:Int),tInt)]=0;simp only[Qu]
  exact Xr (fun h=>h a)
 rw[this]
 decide
theorem five6_run:Qq five6=(0,0):=by
 have d:∀ a,QA a fE fS0 0 [fI]=(0,0):=fun a=>by rw[QA,Xr (fun h=>h fb1.1),fb1.2,QA,Xr (fun h=>h fb2)]
 unfold Qq;rw[Xr (by rw[five_fault];decide)]
 refine QZ fun k y c=>?_;have b:k=0:=by have:=(Zi c).1;simp[five6] at this;exact this
 subst b
 cases c
 unfold Z7;rw[QZ]
 intro k y c;have b:k=0:=by have:=(Zi c).1;simp[fF] at this;exact this
 subst b
 cases c
 exact congrArg Prod.fst (d _)
def fE':ZC:=⟨3,0,⟨0,[],[]⟩,⟨0,[],[]⟩,[1]⟩
def fB':MBlock 6:=⟨0,[],[fI],fE'⟩
def fF':MFunc 6:=⟨0,[],[tInt],[fB']⟩
def five7:List (MFunc 6):=[fF']
theorem five7_run:Qq five7=(1,91):=by decide +kernel
theorem five7_not:¬ Qm five7:=Qd7 (b:=fB') Z (by decide) (fun t a=>by simp only[fF',List.mem_singleton] at a;subst a;decide) Z Z (by decide) ⟨Z,Z,Z,Z,by decide⟩ (fun x c=>by simp only[fB',List.mem_singleton] at c;subst c;exact⟨Z,Z⟩)
theorem QgH {k:Int}(s:I64 k){d h e f b:Nat}(i:Blk w d (fBc d f b) 86) (j:Blk w h #[Iv 0,Nv,.slice (some ⟨e,0,none⟩) 1 1,.slice (some ⟨d,0,none⟩) 1 1] 89) (l:Blk w e #[Iv 1,Iv 0,Nv] 105) (q:Blk w f #[Iv 1,Iv 0,Iv 0,Iv 0,Iv 0,Iv 5,Nv,Nv] 78) (hi:Blk w b #[Iv k] 3) :
 (QjP 6).In w All [(⟨0,[],[tInt],[⟨0,[],[fI],⟨3,0,⟨0,[],[]⟩,⟨0,[],[]⟩,[k]⟩⟩]⟩:MFunc 6)] [.slice (some ⟨h,0,none⟩) 1 1]:=by
 have c:=QnC w;have g:(Qp 6).In w All ([]:List (TT 6)) [Nv]:=Yg _ _ _ _ _;have n:(Qp 6).In w All [tInt] [.slice (some ⟨e,0,none⟩) 1 1]:=QbB l Z (Ql5 w);have p:insC.list.In w All [fI] [.slice (some ⟨f,0,none⟩) 1 1]:=QbB q Z (QiF (x:=fI) (QnB w) (QnB w) (by decide));have m:intsL.In w All [k] [.slice (some ⟨b,0,none⟩) 1 1]:=QbB hi Z ⟨Z,s⟩;have a:I64 0:=by decide
 have o:I64 3:=by decide
 have r:EIn w All ⟨3,0,⟨0,[],[]⟩,⟨0,[],[]⟩,[k]⟩ ⟨none,0,none,0,none,0,none,0,some ⟨b,0,none⟩,1⟩:=⟨⟨c,c,a⟩,⟨c,c,a⟩,m,o,a⟩;exact QbB j Z ⟨[_],_,Z,⟨Z,a⟩,[_],_,Z,g,[_],_,Z,n,QbB (A:=QcZ 6) (x:=⟨0,[],[fI],⟨3,0,⟨0,[],[]⟩,⟨0,[],[]⟩,[k]⟩⟩) i Z ⟨[_],_,Z,⟨Z,a⟩,[_],_,Z,g,[_],_,Z,p,QgN r⟩⟩
theorem five_runsW:∃ N,RM.steps five6 aOp 9 10 (RM.start [] 0)=some N/\N.fin=0/\N.back=[5]/\N.out=[]/\N.fuel=2:=⟨_,Z,Z,Z,Z,Z⟩
theorem ZW {m:List (MFunc 6)}(H:(Qq m).1=0):(modFault m).1=0:=by
 refine Xq.1 fun h=>?_;unfold Qq at H;rw[Xs h] at H
 exact h H
theorem Qdd {m:List (MFunc 6)}(d:(QjP 6).In w All m [.slice pm m.length cm]) (c:Qbe m) (a:¬ Qm m) (H:(Qq m).1=0):∀ wx,Below w.heap.size w wx->Calls prog 66 #[.agg #[.slice pm m.length cm]] wx fun e w'=>e=.returned (Qbw 0 (Qq m).2)/\Below wx.heap.size wx w':=fun wx b=>by
 have:=Qb3 (Ya d b) c (fun _=>a)
 rw[<-H]
 exact this
theorem Qix {m:List (MFunc 6)}(h:(QjP 6).In w All m [.slice pm m.length cm]) (j:Qbe m) (f:¬ Qm m) (H:(Qq m).1=0) (n:intsL.In w All inp [.slice pi inp.length ci]) (hi:inp.length<=200) (l:most<=20000) (c:pages<=64) :
 Calls prog 30 #[.agg #[.slice pm m.length cm],.slice pi inp.length ci,Iv (most:Int),Iv (pages:Int)] w fun e w'=>Qeg w m inp most pages e w' :=
 Qj6 (ZW H) l (fun k=>Qes H inp c k) (Qdg (ZW H) (by omega) c) (fun t a=>QgE (Ya ((QbE 6).2 h) a) j (Ya n a) (fun x d=>by
  obtain⟨i,d⟩:=List.mem_iff_getElem?.1 d
  obtain⟨g,o,s,-,-,-,-,e,p,q⟩:=Yf n d
  exact⟨p,q⟩) hi l c (fun r b=>Qdd h j f H r (a.trans (b.mono a.size))))
theorem Qim {e:Ending}(h:Qeg w five6 [] 9 0 e w'):Below w.heap.size w w'/\∃ a c b d,e=.returned (.tuple #[.agg #[Iv 0,.slice a 1 c,.slice b 0 d,Iv 2],Qbw 0 0])/\Qcy w' a [5]:=by
 obtain⟨s,j,k,n,m,o⟩:=five_runsW
 obtain⟨N,v,f,-,⟨r,q,rfl,g,l⟩,rfl,b⟩:=h
 rw[show (9+1:Nat)=10 from Z,j] at f
 cases f
 refine⟨b,?_⟩
 obtain⟨a,c,rfl,-⟩:=id g
 obtain⟨p,d,rfl,-⟩:=id l
 have i:=g.lg;rw[k,o]
 rw[n] at i |-
 rw[m]
 exact⟨a,c,p,d,Z,i.2⟩
theorem Bxs.app {d:World}{l l':List (Nat × Array Value × TypeId)}(h:Bxs w d l) (k:Bxs d w' l'):Bxs w w' (l'++l):=by
 have f:=h.below k.bel;refine⟨f.bel,fun b a=>?_,fun b a=>?_,?_⟩
 ·rcases List.mem_append.1 a with a | a
  ·exact Zt h.bel.size (k.ge b a)
  ·exact h.ge b a
 ·rcases List.mem_append.1 a with a | a
  ·exact k.box b a
  ·exact f.box b a
 ·rw[List.map_append,List.nodup_append]
  refine⟨k.nd,h.nd,fun x j y g e=>?_⟩
  obtain⟨b,a,rfl⟩:=List.mem_map.1 j
  obtain⟨c,i,rfl⟩:=List.mem_map.1 g
  have m:=k.ge b a;have n:=(h.box c i).lt;omega
theorem QeB (w:World):Calls prog 29 #[] w fun e w'=>e=.returned (.bool true)/\Below w.heap.size w w':=by
 go_enter func29,ntmps29
 go_wp2_with fail
 refine(Qie w).mono ?_
 rintro e1 w1 ⟨I,C,T,Y,m,z,R,rfl,B⟩;have H:=QgH (k:=0) (by decide) (B.at (a:=[_,_,_,_,_])) (B.at (a:=[_,_,_,_])) (B.at (a:=[_,_])) (B.at (a:=[_])) (B.at (a:=[]));have s:=Qc (Qix (inp:=[]) (most:=9) (pages:=0) H (ZB five_not) five_not (congrArg Prod.fst five6_run) (QnC w1) (by decide) (by decide) (by decide));have D:=Qc B.bel;clear H B;go_wp2_with fail
 refine s.out.mono ?_;rintro e2 v M;obtain⟨b2,a,c,b,d,rfl,P⟩:=Qim M
 have V:=Qc (D.out.trans (b2.mono D.out.size));have Q:=Qc (Bxs.start v);have HL:=Qc P;clear M b2 P s D;have o:=(Q.out.new #[Iv 0,.slice a 1 c,.slice b 0 d,Iv 2] 44).new #[Iv 0,Iv 0] 32;rw[World.size_alloc] at o
 have o:=Qc o;go_upto_region 2 with fail
 generalize (v.alloc (.cells #[Iv 0,.slice a 1 c,.slice b 0 d,Iv 2] 44)).alloc (.cells #[Iv 0,Iv 0] 32)=w3 at o |-;generalize v.heap.size+1=F at o |-;generalize v.heap.size=O at o |-;clear Q;go_wp2_with fail
 refine(Qie w3).mono ?_
 rintro e4 w4 ⟨I,C,T,Y0,m,z,R,rfl,U⟩;have j:=(o.out.app U).new #[.slice (some ⟨m,0,none⟩) 1 1] 24;have j:=Qc j;clear U o;go_upto_region 3 with fail
 generalize w4.alloc (.cells #[.slice (some ⟨m,0,none⟩) 1 1] 24)=q at j |-;generalize w4.heap.size=Y at j |-;simp only[List.cons_append,List.nil_append] at j
 have u:=Qc (j.out.new #[Iv 1] 3);have G:q.cell? ⟨Y,0,none⟩=some (.slice (some ⟨m,0,none⟩) 1 1):=j.out.cell (a:=[]) 0 _ Z;have g3:q.cell? ⟨m,3,none⟩=some (.slice (some ⟨z,0,none⟩) 1 1):=j.out.cell (a:=[_,_,_,_,_]) 3 _ Z;have c2:=u.out.cell (a:=[_,_,_,_,_,_,_]) 11 _ Z;have z2:=u.out.free (a:=[_,_,_,_,_,_,_]) 11;go_upto_region 4 with fail
 have h:=Qc (u.out.set (a:=[_,_,_,_,_,_,_]) 11 (.slice (some ⟨q.heap.size,0,none⟩) 1 1));clear j u G g3 c2 z2;generalize (q.alloc (.cells #[Iv 1] 3)).setCell ⟨z,11,none⟩ (.slice (some ⟨q.heap.size,0,none⟩) 1 1)=A at h |-;generalize q.heap.size=J at h |-;have G:A.cell? ⟨Y,0,none⟩=some (.slice (some ⟨m,0,none⟩) 1 1):=h.out.cell (a:=[_]) 0 _ Z;have M7:(QjP 6).In A All five7 [.slice (some ⟨m,0,none⟩) 1 1]:=QgH (k:=1) (by decide) (h.out.at (a:=[_,_,_,_,_,_,_])) (h.out.at (a:=[_,_,_,_,_,_])) (h.out.at (a:=[_,_,_,_])) (h.out.at (a:=[_,_,_])) (h.out.at (a:=[]))
 have s:=Qc (QfG (pi:=none) (ci:=0) (n:=0) (fu:=9) (pg:=0) (c:=1) (a:=91) (c0:=1) (a0:=91) (pm:=some ⟨m,0,none⟩) (ml:=1) (cm:=1) (w:=A) (fun wx bx=>by
  have:=Qb3 (Ya M7 bx) (ZB five7_not) (fun _=>five7_not)
  rw[five7_run] at this
  exact this) (by decide) (.inl ⟨by decide,Z,Z⟩))
 clear M7;go_wp2_with fail
 refine s.out.mono ?_;rintro e7 E ⟨rfl,X⟩;have f:=(h.out.below X).new #[Iv 0,Nv,Nv,Iv 0] 44 |>.new #[Iv 1,Iv 91] 32
 rw[World.size_alloc] at f
 have f:=Qc f;clear X s h G;go_upto_region 5 with fail
 generalize (E.alloc (.cells #[Iv 0,Nv,Nv,Iv 0] 44)).alloc (.cells #[Iv 1,Iv 91] 32)=g at f |-;generalize E.heap.size+1=S at f |-;generalize E.heap.size=O2 at f |-;have f0:g.cell? ⟨F,0,none⟩=some (Iv 0):=f.out.cell (a:=[_,_,_,_,_,_,_,_,_,_,_]) 0 _ Z;have o0:g.cell? ⟨O,0,none⟩=some (Iv 0):=f.out.cell (a:=[_,_,_,_,_,_,_,_,_,_,_,_]) 0 _ Z;have o1:g.cell? ⟨O,1,none⟩=some (.slice a 1 c):=f.out.cell (a:=[_,_,_,_,_,_,_,_,_,_,_,_]) 1 _ Z;have o2:g.cell? ⟨O,2,none⟩=some (.slice b 0 d):=f.out.cell (a:=[_,_,_,_,_,_,_,_,_,_,_,_]) 2 _ Z;have o3:g.cell? ⟨O,3,none⟩=some (Iv 2):=f.out.cell (a:=[_,_,_,_,_,_,_,_,_,_,_,_]) 3 _ Z;have y:=Qc (HL.out.below f.out.bel);have N:=Qc (f.out.new #[Iv 5] 2)
 have W:Qcy (g.alloc (.cells #[Iv 5] 2)) (some ⟨g.heap.size,0,none⟩) [5]:=fun i x t=>by
  match i,t with
  | 0,t=>cases t;exact⟨g.heap.size,0,Z,Qb (Qe g #[.int .i64 5] 2) 0 _ Z⟩
  | i+1,t=>exact absurd (Zi t).1 (by simp)
 have CS:Hid (Calls prog 26 #[.agg #[Iv 0,.slice a 1 c,.slice b 0 d,Iv 2],.agg #[Iv 0,.slice (some ⟨g.heap.size,0,none⟩) 1 1,Nv,Iv 2]] (g.alloc (.cells #[Iv 5] 2)) fun e w'=>e=.returned (.bool true)/\Below (g.alloc (.cells #[Iv 5] 2)).heap.size (g.alloc (.cells #[Iv 5] 2)) w'):=QbY (l:=[5]) (r:=[]) (by decide) (by decide) (y.out.below (ZP _ _)) W (Qcy.nil _ _) (Qcy.nil _ _);clear W;go_wp2_with fail
 refine CS.out.mono ?_;rintro e9 K ⟨rfl,L⟩;have p:=Qc (N.out.below L);have p0:K.cell? ⟨S,0,none⟩=some (Iv 1):=p.out.cell (a:=[_]) 0 _ Z;have p1:K.cell? ⟨S,1,none⟩=some (Iv 91):=p.out.cell (a:=[_]) 1 _ Z;clear L CS N f0 o0 o1 o2 o3;go_wp2
 go_ret;exact⟨Z,V.out.trans (p.out.bel.mono V.out.size)⟩
theorem QmD (h:intsL.In w O l [.slice a n c]):∀ x∈l,Qna x:=fun x j=>by
 obtain⟨i,f⟩:=List.mem_iff_getElem?.1 j
 obtain⟨g,o,k,-,-,-,-,e,b,d⟩:=Yf h f
 exact⟨b,d⟩
section
variable {w:World}{O:Nat->Prop}{n:Nat}{cs:List Value}
theorem Qjd {x:MBlock n}(e:x.flat k) (h:(Qbh n).In w O x cs):(Qbh (k+1)).In w O (x.at k) cs:=by
 obtain⟨c,_,rfl,f,⟨d,_,rfl,a,b⟩⟩:=h
 exact⟨c,_,Z,f,⟨d,_,Z,QdY e a,b⟩⟩
theorem QjL {x:MFunc n}(a:x.flat k) (h:(QeJ n).In w O x cs):(QeJ (k+1)).In w O (x.at k) cs:=by
 obtain⟨f,_,rfl,j,⟨g,_,rfl,b,⟨i,_,rfl,c,d⟩⟩⟩:=h
 exact⟨f,_,Z,j,⟨g,_,Z,QdY a.1 b,⟨i,_,Z,QdY a.2.1 c,Lay.list_map (A:=Qbh n) (B:=Qbh (k+1)) Z (fun y e l=>Qjd (a.2.2 y e)) d⟩⟩⟩
theorem Ql2 {m:List (MFunc n)}(b:∀ x∈m,x.flat k) (h:(QhY n).In w O m cs):(QhY (k+1)).In w O (m.map (MFunc.at k)) cs :=
 Lay.list_map (A:=QeJ n) (B:=QeJ (k+1)) Z (fun y a c=>QjL (b y a)) h
end
theorem size_any:∀ (n:Nat) (t:TT n) (a:Option Addr) (c:Nat) (w:World) (left:Int),TIn w All t a->0<=left->left<=2000 ->
 Calls prog 115 #[Tv t a c,Iv left] w fun e w'=>e=.returned (Iv (max (-1) (left - t.count)))/\Below w.heap.size w w':=by
 intro n
 induction n with
 | zero=>intro t;exact Empty.elim t
 | succ n ih =>
   intro t a c w left D h0 h1
   have N:Hid (∀ (t:TT n) (a:Option Addr) (c:Nat) (w:World) (left:Int),TIn w All t a->0<=left->left<=2000 ->
    Calls prog 115 #[Tv t a c,Iv left] w fun e w'=>e=.returned (Iv (max (-1) (left - t.count)))/\Below w.heap.size w w'):=ih
   clear ih;have C:Hid (LIn w All t.2.2 a):=D.list;have G:t.count=1+(t.2.2.map TT.count).sum:=rfl;rw[G]
   clear G;simp only[Tv,TT.len_eq]
   generalize t.2.2=l at C |-;generalize t.kind=k;generalize t.r=r;clear D t;go_enter func115,ntmps115
   go_wp2_with fail
   have B:Hid (Bx w (w.alloc (.cells #[Iv k,Iv r,.slice a l.length c] 105)) k r a l.length c):=Bx.start w k r a l.length c;generalize w.alloc (.cells #[Iv k,Iv r,.slice a l.length c] 105)=W at B |-;go_loopw [1,5] (fun lf i wr=>∃ q:Nat,q<=l.length/\i=Iv q/\lf=Iv (max (-1) (left - 1 - (((l.map TT.count).take q).sum:Nat)))/\Bx w wr k r a l.length c) (fun _ i _=>l.length - (intOf i).toNat)
   case atStart=>exact⟨0,Xb _,Z,by simp;omega,B.out⟩
   case round =>
    clear B;obtain⟨q,hq,rfl,rfl,p⟩:=hrel
    generalize h:(((l.map TT.count).take q).sum:Nat)=s;have e2:wr.cell? ⟨w.heap.size,2,none⟩=some (.slice a l.length c):=Qb p.box 2 _ Z;have j:Hid (Bx w wr k r a l.length c):=p;by_cases v:q<l.length
    ·by_cases b:0<=max (-1) (left - 1 - (s:Int))
     ·have u:l[q]?=some l[q]:=Zg v;generalize l[q]=x at u;obtain⟨g,o,E,R,rfl,_,X,d1,d2,J⟩:=LIn.at (C.out.below p.bel) u
      have H:Hid (TIn wr All x E):=J;have A:=Qet TT.count l q x u;rw[h] at A
      have T:Hid (((l.map TT.count).take (q+1)).sum=s+x.count):=A;have S:Hid (max (-1) (left - 1 - (s:Int))<=2000):=by show _<=_;omega
      clear p J u A;generalize I:max (-1) (left - 1 - (s:Int))=m at b S;have M:Hid (max (-1) (left - 1 - (s:Int))=m):=I;clear I;have V:(0:Int)<=q:=by omega
      have f:(q:Int)<l.length:=by omega
      have L:(q:Int)<2000:=by
       have O:=length_le_sum ((l.map TT.count).take q) (fun y K=>by obtain⟨z,_,rfl⟩:=List.mem_map.1 (List.mem_of_mem_take K);exact z.count_pos);have h4:=M.out;rw[List.length_take,XN] at O
       omega
      clear h;go_wp2_with fail
      refine(N.out x E R _ m H.out b S.out).mono ?_
      rintro e Q ⟨rfl,U⟩;have P:Hid (Bx w Q k r (some ⟨g,o,none⟩) l.length c):=j.out.below U;clear j;go_wp2
      go_roundw
      case rel=>exact⟨q+1,by omega,by go_num,by rw[T.out];have:=M.out;have:=x.count_pos;congr 1;omega,P.out⟩
      case measure=>simp[intOf];omega
     ·have F:Hid (max (-1) (left - 1 - (s:Int))=max (-1) (left - ((1+(l.map TT.count).sum:Nat):Int))):=by
       have:=Qfu (l.map TT.count) q
       show _=_;omega
      have d:max (-1) (left - 1 - (s:Int))<0:=by omega
      generalize max (-1) (left - 1 - (s:Int))=m at F d |-;clear b h;have f:(q:Int)<l.length:=by omega
      go_wp2
      go_ret;exact⟨by show Ending.returned (Iv m)=_;have:=F.out;congr 2,j.out.bel⟩
    ·have F:Hid (max (-1) (left - 1 - (s:Int))=max (-1) (left - ((1+(l.map TT.count).sum:Nat):Int))):=by
      rw[XO (by simp;omega)] at h
      show _=_;omega
     generalize max (-1) (left - 1 - (s:Int))=m at F |-;clear h;have f:¬ (q:Int)<l.length:=by omega
     go_wp2
     go_ret;exact⟨by show Ending.returned (Iv m)=_;have:=F.out;congr 2,j.out.bel⟩
theorem Qh2 (n:Nat) (t:TT n) (a:Option Addr) (c:Nat) (w:World) (d:TIn w All t a) :
 Calls prog 71 #[Tv t a c] w fun e w'=>e=.returned (.bool (decide (2000<t.count)))/\Below w.heap.size w w':=by
 have C:Hid (∀ b,Below w.heap.size w b->Calls prog 115 #[Tv t a c,Iv 2000] b fun e w'=>e=.returned (Iv (max (-1) (2000 - (t.count:Int))))/\Below b.heap.size b w') :=
  fun b g=>size_any n t a c b 2000 (d.below g) (by omega) (by omega)
 clear d;simp only[Tv] at C |-
 generalize t.kind=k at C |-;generalize t.r=r at C |-;generalize t.len=i at C |-;generalize t.count=q at C |-;go_enter func71,ntmps71
 go_wp2_with fail
 refine(C.out _ ((Below.refl _ w).alloc Ze _)).mono ?_
 rintro e h ⟨rfl,f⟩;have B:Hid (Below w.heap.size w h):=((Below.refl _ w).alloc Ze _).trans (f.mono (by simp));have F:Hid (max (-1) (2000 - (q:Int))<0↔2000<q):=by show _↔_;omega
 generalize max (-1) (2000 - (q:Int))=m at F |-;clear f C;go_wp2
 go_ret;exact⟨by show Ending.returned (.bool (decide (m<0)))=_;rw[decide_eq_decide.2 F.out],B.out⟩
structure GbS (w wx:World) (l:List (Nat × Array Value × TypeId)):Prop where
 bel:Below w.heap.size w wx
 box:∀ (i:Nat) b,l[i]?=some b->Blk wx b.1 b.2.1 b.2.2
theorem GbS.below {a:World}{l:List (Nat × Array Value × TypeId)}(h:GbS w a l) (k:Below a.heap.size a w'):GbS w w' l:=⟨h.bel.trans (k.mono h.bel.size),fun i b c=>(h.box i b c).below k⟩
theorem GbS.add {a:World}{l:List (Nat × Array Value × TypeId)}(h:GbS w a l){c:Array Value}(e:Blk a B c t):GbS w a ((B,c,t)::l) :=
 ⟨h.bel,fun i b d=>by
  cases i with
  | zero=>cases d;exact e
  | succ i=>exact h.box i b d⟩
theorem GbS.drop {a:World}{l:List (Nat × Array Value × TypeId)}{e:Nat × Array Value × TypeId}(h:GbS w a (e::l)):GbS w a l:=⟨h.bel,fun i b c=>h.box (i+1) b c⟩
theorem GbS.new {a:World}{l:List (Nat × Array Value × TypeId)}(h:GbS w a l) (c:Array Value) (t:TypeId):GbS w (a.alloc (.cells c t)) ((a.heap.size,c,t)::l):=(h.below (Zd _ _)).add (Blk.new _ _ _)
theorem Qal (n:Nat) (l:List (TT n)) (p:Option Addr) (c:Nat) (w:World) (o:LIn w All l p) :
 Rd prog 40 #[.slice p l.length c] w (.bool (ZR (Zy l))):=by
 have L:=Qf o;clear o;unfold Rd;go_enter func40,ntmps40
 by_cases F:200<l.length
 ·have d:(200:Int)<l.length:=by omega
  have E:=QC (A:=Zy l) (.inl F);go_wp2_with fail
  go_ret;exact⟨by first | rfl | (rw[E];done) | (rw[E];rfl),Zr⟩
 have d:¬ (200:Int)<l.length:=by omega
 go_wp2_with fail
 go_loopw [3] (fun i wr=>∃ k:Nat,k<=l.length/\i=Iv k/\Below w.heap.size w wr/\∀ (j:Nat) t,j<k->l[j]?=some t->¬ 2000<t.count) (fun i _=>l.length - (intOf i).toNat)
 case atStart=>exact⟨0,Xb _,Z,Zr,fun j z q=>absurd q (XG _)⟩
 case round =>
  obtain⟨k,Q,rfl,B,a⟩:=hrel
  have r:=Qf B;have m:=Qf a;clear B a;by_cases x:k<l.length
  rotate_left
  ·have e:¬ (k:Int)<l.length:=by omega
   have E:ZR (Zy l)=false:=QB (by
    rintro (h | ⟨t,b,h⟩)
    ·exact F h
    ·obtain⟨j,q⟩:=List.mem_iff_getElem?.1 b
     exact m.out j t (by have:=(Zi q).1;omega) q h)
   go_wp2_with fail
   go_ret;exact⟨by first | rfl | (rw[E];done) | (rw[E];rfl),r.out⟩
  have e:(k:Int)<l.length:=by omega
  have b:l[k]?=some l[k]:=Zg x;generalize l[k]=t at b;have C:=Qf b;obtain⟨N,P,J,H,rfl,-,I,K,M,g⟩:=(show LIn wr All l p from L.out.below r.out).at b
  have D:=Qf (Qh2 n t J H wr g);clear b g;go_wp2_with fail
  refine D.out.mono ?_;rintro _ O ⟨rfl,G⟩;have f:=Qf (r.out.trans (G.mono r.out.size));clear G D I K M r;by_cases s:2000<t.count
  ·rw[Xt s]
   have E:=QC (A:=Zy l) (.inr ⟨t,Zm C.out,s⟩);go_wp2_with fail
   go_ret;exact⟨by first | rfl | (rw[E];done) | (rw[E];rfl),f.out⟩
  ·rw[Xu s]
   go_wp2_with fail
   go_roundw
   case rel =>
    refine⟨k+1,by omega,by go_num,f.out,fun j u q v=>?_⟩
    by_cases y:j<k
    ·exact m.out j u y v
    ·have:j=k:=by omega
     subst this;rw[C.out] at v
     cases v
     exact s
   case measure=>simp[intOf];omega
def MFunc.much {n:Nat}(x:MFunc n):Prop:=30<x.blocks.length\/Zy x.params\/Zy x.results
def MBlock.much {n:Nat}(x:MBlock n):Prop:=200<x.code.length\/Zy x.params\/300<x.fin.args.length\/300<x.fin.yes.regs.length\/300<x.fin.yes.args.length\/300<x.fin.no.regs.length\/300<x.fin.no.args.length
theorem Z2 (n:Nat) (m:List (MFunc n)) (p:Option Addr) (c:Nat) (w:World) (aj:(QaN n).In w All m [.slice p m.length c]) :
 Rd prog 10 #[.agg #[.slice p m.length c]] w (.bool (ZR (Qm m))):=by
 have HM:=Qf aj;have S:Hid (GbS w (w.alloc (.cells #[.slice p m.length c] 24)) [(w.heap.size,#[.slice p m.length c],24)]):=GbS.new ⟨Zr,fun i b hb=>by simp at hb⟩ _ _;clear aj;unfold Rd;go_enter func10,ntmps10
 go_upto_region 1 with fail
 generalize w.alloc (.cells #[.slice p m.length c] 24)=w1 at S |-;generalize w.heap.size=X at S |-;have x0:=Qb (S.out.box 0 _ Yz) 0 _ Yz;by_cases c1:20<m.length
 ·have d:(20:Int)<m.length:=by omega
  have E:=QC (A:=Qm m) (.inl c1);have O:=Qf S.out.bel;clear S;go_wp2_with fail
  go_ret;exact⟨by first | rfl | (rw[E];done) | (rw[E];rfl),O.out⟩
 have d:¬ (20:Int)<m.length:=by omega
 go_wp2_with fail
 clear x0;go_loopw [3] (fun i wr=>∃ k:Nat,k<=m.length/\i=Iv k/\GbS w wr [(X,#[.slice p m.length c],24)]/\∀ (j:Nat) f,j<k->m[j]?=some f->¬ f.great) (fun i _=>m.length - (intOf i).toNat)
 case atStart=>exact⟨0,Xb _,Yz,S.out,fun j z B=>absurd B (XG _)⟩
 case round =>
  obtain⟨k,hk,rfl,R,o⟩:=hrel
  have SR:=Qf R;have ad:=Qf o;clear R o S;obtain⟨wf,ax⟩:∃ wf,wf=wr:=⟨_,Yz⟩
  subst ax;have x0:=Qb (SR.out.box 0 _ Yz) 0 _ Yz;by_cases aw:k<m.length
  rotate_left
  ·have am:¬ (k:Int)<m.length:=by omega
   have E:ZR (Qm m)=false:=QB (by
    rintro (h | ⟨t,ht,h⟩)
    ·exact c1 h
    ·obtain⟨j,B⟩:=List.mem_iff_getElem?.1 ht
     exact ad.out j t (by have:=(Zi B).1;omega) B h)
   have O:=Qf SR.out.bel;clear SR;go_wp2_with fail
   go_ret;exact⟨by first | rfl | (rw[E];done) | (rw[E];rfl),O.out⟩
  have am:(k:Int)<m.length:=by omega
  have I:m[k]?=some m[k]:=Zg aw;generalize m[k]=x at I;have ac:=Qf I;have an:Hid (x.great->ZR (Qm m)=true):=fun h=>QC (.inr ⟨x,Zm ac.out,h⟩);obtain⟨g1,o1,l,rfl,E1,aa⟩:=QfC HM.out I
  have T:=Qf aa;have R1:Hid (wf.rangeAt g1 (o1+k*4) [Iv x.regs,.slice l.pP x.params.length l.cP,.slice l.pR x.results.length l.cR,.slice l.pB x.blocks.length l.cB]):=fun j v B=>Qk (E1 j v B) SR.out.bel;have v0:wf.cell? ⟨g1,o1+k*4,none⟩=some (Iv x.regs):=R1.out 0 _ Yz;have v1:=R1.out 1 _ Yz;have v2:=R1.out 2 _ Yz;have v3:=R1.out 3 _ Yz;have F:=Qf (SR.out.new #[Iv x.regs,.slice l.pP x.params.length l.cP,.slice l.pR x.results.length l.cR,.slice l.pB x.blocks.length l.cB] 89);clear I E1 aa R1 SR;go_upto_region 7 with fail
  generalize wf.alloc (.cells #[Iv x.regs,.slice l.pP x.params.length l.cP,.slice l.pR x.results.length l.cR,.slice l.pB x.blocks.length l.cB] 89)=w6 at F |-;generalize wf.heap.size=Y at F |-;clear v0 v1 v2 v3 x0;generalize hL:([(Y,#[Iv x.regs,.slice l.pP x.params.length l.cP,.slice l.pR x.results.length l.cR,.slice l.pB x.blocks.length l.cB],89),(X,#[.slice (some ⟨g1,o1,none⟩) m.length c],24)]:List (Nat × Array Value × TypeId))=L at F;have BX:Hid (∀ wx,GbS w wx L->Blk wx Y #[Iv x.regs,.slice l.pP x.params.length l.cP,.slice l.pR x.results.length l.cR,.slice l.pB x.blocks.length l.cB] 89/\GbS w wx [(X,#[.slice (some ⟨g1,o1,none⟩) m.length c],24)]):=by subst hL;exact fun wx h=>⟨h.box 0 _ Yz,h.drop⟩
  clear hL;have q1:=Qb (BX.out _ F.out).1 1 _ Yz;have q2:=Qb (BX.out _ F.out).1 2 _ Yz;have q3:=Qb (BX.out _ F.out).1 3 _ Yz;go_cut [37] (fun v wx=>v=.bool (ZR x.much)/\GbS w wx L)
  case first =>
   by_cases h:30<x.blocks.length
   ·have d1:decide ((x.blocks.length:Int)>30)=true:=Xt (by omega);have E:=QC (A:=x.much) (.inl h);go_wp2
    go_meet;exact⟨by first | rfl | (rw[E];done) | (rw[E];rfl),F.out⟩
   have d1:decide ((x.blocks.length:Int)>30)=false:=Xu (by omega);have C:=Qf (Qal n x.params l.pP l.cP w6 (QW (Ya T.out.params F.out.bel)).1);unfold Rd at C;by_cases M:Zy x.params
   ·have E:=QC (A:=x.much) (.inr (.inl M));rw[QC M] at C
    go_wp2_with fail
    refine C.out.mono ?_;rintro _ wa ⟨rfl,G⟩;have r:=Qf (F.out.below G);clear G C;go_wp2
    go_meet;exact⟨by first | rfl | (rw[E];done) | (rw[E];rfl),r.out⟩
   rw[QB M] at C
   go_wp2_with fail
   refine C.out.mono ?_;rintro _ wa ⟨rfl,G⟩;have r:=Qf (F.out.below G);clear G C q1 q2 q3;have q2:=Qb (BX.out _ r.out).1 2 _ Yz;have CR:=Qf (Qal n x.results l.pR l.cR wa (QW (Ya T.out.results r.out.bel)).1);unfold Rd at CR
   have E:ZR x.much=ZR (Zy x.results):=by
    by_cases hr:Zy x.results
    ·rw[QC hr];exact QC (.inr (.inr hr))
    ·rw[QB hr];exact QB (fun e=>by rcases e with e | e | e;exact h e;exact M e;exact hr e)
   go_wp2_with fail
   refine CR.out.mono ?_;rintro _ K ⟨rfl,bb⟩;have SB:=Qf (r.out.below bb);clear bb CR q2;go_wp2
   all_goals
    go_meet;exact⟨by first | rfl | (rw[E];done) | (rw[E];rfl),SB.out⟩
  case rest =>
   obtain⟨rfl,Q⟩:=hcut
   have S7:=Qf Q;clear Q F q1 q2 q3;by_cases P:x.much
   ·rw[QC P]
    have E:=an.out (by rcases P with h | h | h;exact .inl h;exact .inr (.inl h);exact .inr (.inr (.inl h)));have O:=Qf S7.out.bel;clear S7 P;go_wp2_with fail
    go_ret;exact⟨by first | rfl | (rw[E];done) | (rw[E];rfl),O.out⟩
   rw[QB P]
   have a4:x.blocks.length<=30:=Xo fun h=>P (.inl h);go_wp2_with fail
   go_loopw [5] (fun i wr=>∃ q:Nat,q<=x.blocks.length/\i=Iv q/\GbS w wr L/\∀ (j:Nat) y,j<q->x.blocks[j]?=some y->¬ y.great) (fun i _=>x.blocks.length - (intOf i).toNat)
   case atStart=>exact⟨0,Xb _,Yz,S7.out,fun j z B=>absurd B (XG _)⟩
   case round =>
    obtain⟨q,hq,rfl,R,o⟩:=hrel
    have SQ:=Qf R;have ao:=Qf o;clear R o S7;obtain⟨K,a0⟩:∃ K,K=wr:=⟨_,Yz⟩
    subst a0;have q3:=Qb (BX.out _ SQ.out).1 3 _ Yz;by_cases az:q<x.blocks.length
    rotate_left
    ·have ab:¬ (q:Int)<x.blocks.length:=by omega
     go_wp2_with fail
     go_roundw
     case rel =>
      refine⟨k+1,by omega,by go_num,(BX.out _ SQ.out).2,fun j f B hf=>?_⟩
      by_cases a2:j<k
      ·exact ad.out j f a2 hf
      ·have:j=k:=by omega
       subst this;rw[ac.out] at hf
       cases hf
       rintro (h | h | h | ⟨y,hy,h⟩)
       ·exact P (.inl h)
       ·exact P (.inr (.inl h))
       ·exact P (.inr (.inr h))
       ·obtain⟨i,hi⟩:=List.mem_iff_getElem?.1 hy
        exact ao.out i y (by have:=(Zi hi).1;omega) hi h
     case measure=>simp[intOf];omega
    have ab:(q:Int)<x.blocks.length:=by omega
    have J:x.blocks[q]?=some x.blocks[q]:=Zg az;generalize x.blocks[q]=y at J;have ae:=Qf J;have ai:Hid (y.great->ZR (Qm m)=true):=fun h=>an.out (.inr (.inr (.inr ⟨y,Zm ae.out,h⟩)));obtain⟨g2,o2,g,e2,E2,al⟩:=Qei T.out.blocks J
    have ag:=Qf al;rw[e2] at q3
    generalize W:([Iv y.regs,.slice g.pP y.params.length g.cP,.slice g.pC y.code.length g.cC,Iv y.fin.op,Iv y.fin.a,Iv y.fin.yes.block,.slice g.e.pYR y.fin.yes.regs.length g.e.cYR,.slice g.e.pYA y.fin.yes.args.length g.e.cYA,Iv y.fin.no.block,.slice g.e.pNR y.fin.no.regs.length g.e.cNR,.slice g.e.pNA y.fin.no.args.length g.e.cNA,.slice g.e.pA y.fin.args.length g.e.cA]:List Value)=cs at E2;have hl:cs.length=12:=by rw[<-W];rfl
    have MB:=Qf (Qm5.of K hl);have TO:Hid (cs.toArray.all (·.oneCell')=true):=by show _=_;rw[<-W];exact all_oneCell_toArray (Xe.1 Yz)
    have RG:Hid (K.rangeAt g2 (o2+q*12) cs):=fun j v B=>Qk (E2 j v B) SQ.out.bel;clear J E2 al hl e2;go_upto_region 13 with (first | (refine wpList_load_mid Yz 86 (.tmp 48) Yz g2 (o2+q*12) Yz cs _ RG.out underlying86 Yz MB.out.size ?_) | (refine wpList_store_mid Yz 86 (.tmp 6) (.tmp 49) Yz K.heap.size 0 cs.toArray Yz Yz MB.out.there MB.out.size2 TO.out ?_))
    have H:=Qf ((SQ.out.below MB.out.bel).add MB.out.blk);clear SQ q3 RG TO MB;generalize (K.alloc (.cells #[Iv 0,Nv,Nv,Iv 0,Iv 0,Iv 0,Nv,Nv,Iv 0,Nv,Nv,Nv] 86)).setCells K.heap.size 0 cs=w3 at H |-;generalize K.heap.size=Z at H |-;subst W;simp only[Act.put]
    generalize af:((Z,#[Iv y.regs,.slice g.pP y.params.length g.cP,.slice g.pC y.code.length g.cC,Iv y.fin.op,Iv y.fin.a,Iv y.fin.yes.block,.slice g.e.pYR y.fin.yes.regs.length g.e.cYR,.slice g.e.pYA y.fin.yes.args.length g.e.cYA,Iv y.fin.no.block,.slice g.e.pNR y.fin.no.regs.length g.e.cNR,.slice g.e.pNA y.fin.no.args.length g.e.cNA,.slice g.e.pA y.fin.args.length g.e.cA],86)::L:List (Nat × Array Value × TypeId))=L2 at H;have N:Hid (∀ wx,GbS w wx L2->Blk wx Z #[Iv y.regs,.slice g.pP y.params.length g.cP,.slice g.pC y.code.length g.cC,Iv y.fin.op,Iv y.fin.a,Iv y.fin.yes.block,.slice g.e.pYR y.fin.yes.regs.length g.e.cYR,.slice g.e.pYA y.fin.yes.args.length g.e.cYA,Iv y.fin.no.block,.slice g.e.pNR y.fin.no.regs.length g.e.cNR,.slice g.e.pNA y.fin.no.args.length g.e.cNA,.slice g.e.pA y.fin.args.length g.e.cA] 86/\GbS w wx L):=by subst af;exact fun wx h=>⟨h.box 0 _ Yz,h.drop⟩
    clear af;have z1:=Qb (N.out _ H.out).1 1 _ Yz;have z2:=Qb (N.out _ H.out).1 2 _ Yz;go_cut [97] (fun v wx=>v=.bool (ZR y.much)/\GbS w wx L2)
    case first =>
     by_cases h:200<y.code.length
     ·have d1:decide ((y.code.length:Int)>200)=true:=Xt (by omega);have E:=QC (A:=y.much) (.inl h);go_wp2
      go_meet;exact⟨by first | rfl | (rw[E];done) | (rw[E];rfl),H.out⟩
     have d1:decide ((y.code.length:Int)>200)=false:=Xu (by omega);have C:=Qf (Qal n y.params g.pP g.cP w3 (QW (Ya ag.out.params H.out.bel)).1);unfold Rd at C;by_cases M:Zy y.params
     ·have E:=QC (A:=y.much) (.inr (.inl M));rw[QC M] at C
      go_wp2_with fail
      refine C.out.mono ?_;rintro _ wa ⟨rfl,G⟩;have r:=Qf (H.out.below G);clear G C;go_wp2
      go_meet;exact⟨by first | rfl | (rw[E];done) | (rw[E];rfl),r.out⟩
     rw[QB M] at C
     go_wp2_with fail
     refine C.out.mono ?_;rintro _ wa ⟨rfl,G⟩;have r:=Qf (H.out.below G);clear G C z1 z2;have z6:=Qb (N.out _ r.out).1 6 _ Yz;have z7:=Qb (N.out _ r.out).1 7 _ Yz;have z9:=Qb (N.out _ r.out).1 9 _ Yz;have au:=Qb (N.out _ r.out).1 10 _ Yz;have av:=Qb (N.out _ r.out).1 11 _ Yz
     have s:Hid (ZR y.much=(decide ((y.fin.args.length:Int)>300)||(decide ((y.fin.yes.regs.length:Int)>300)||(decide ((y.fin.yes.args.length:Int)>300)||(decide ((y.fin.no.regs.length:Int)>300)||decide ((y.fin.no.args.length:Int)>300)))))):=by
      show _=_
      have e9:y.much↔((y.fin.args.length:Int)>300\/(y.fin.yes.regs.length:Int)>300\/(y.fin.yes.args.length:Int)>300\/(y.fin.no.regs.length:Int)>300\/(y.fin.no.args.length:Int)>300):=by
       unfold MBlock.much;constructor
       ·rintro (e | e | e)
        ·exact absurd e h
        ·exact absurd e M
        ·omega
       ·intro e;right;right;omega
      by_cases hy:y.much
      ·rw[QC hy];have:=e9.1 hy;simp only[<-Bool.decide_or];exact(Xt this).symm
      ·rw[QB hy];have:=fun e=>hy (e9.2 e);simp only[<-Bool.decide_or];exact(Xu this).symm
     generalize y.fin.args.length=n1 at s av |-;generalize y.fin.yes.regs.length=n2 at s z6 |-;generalize y.fin.yes.args.length=n3 at s z7 |-;generalize y.fin.no.regs.length=n4 at s z9 |-;generalize y.fin.no.args.length=n5 at s au |-;by_cases k1:(n1:Int)>300
     ·have V:decide ((n1:Int)>300)=true:=Xt k1;rw[V] at s
      go_wp2
      go_meet;exact⟨by rw[s.out];first | done | rfl,r.out⟩
     have e1:decide ((n1:Int)>300)=false:=Xu k1;rw[e1] at s
     by_cases k2:(n2:Int)>300
     ·have V:decide ((n2:Int)>300)=true:=Xt k2;rw[V] at s
      go_wp2
      go_meet;exact⟨by rw[s.out];first | done | rfl,r.out⟩
     have e2:decide ((n2:Int)>300)=false:=Xu k2;rw[e2] at s
     by_cases k3:(n3:Int)>300
     ·have V:decide ((n3:Int)>300)=true:=Xt k3;rw[V] at s
      go_wp2
      go_meet;exact⟨by rw[s.out];first | done | rfl,r.out⟩
     have e3:decide ((n3:Int)>300)=false:=Xu k3;rw[e3] at s
     by_cases k4:(n4:Int)>300
     ·have V:decide ((n4:Int)>300)=true:=Xt k4;rw[V] at s
      go_wp2
      go_meet;exact⟨by rw[s.out];first | done | rfl,r.out⟩
     have e4:decide ((n4:Int)>300)=false:=Xu k4;rw[e4] at s
     go_wp2
     all_goals
      go_meet;exact⟨by rw[s.out];first | done | rfl,r.out⟩
    case rest =>
     obtain⟨rfl,Q⟩:=hcut
     have S4:=Qf Q;clear Q H z1 z2;by_cases D:y.much
     ·rw[QC D]
      have E:=ai.out (by rcases D with h | h | h | h | h | h | h;exact .inl h;exact .inr (.inl h);exact .inr (.inr (.inl h));exact .inr (.inr (.inr (.inl h)));exact .inr (.inr (.inr (.inr (.inl h))));exact .inr (.inr (.inr (.inr (.inr (.inl h)))));exact .inr (.inr (.inr (.inr (.inr (.inr (.inl h)))))));have O:=Qf S4.out.bel;clear S4 D;go_wp2_with fail
      go_ret;exact⟨by first | rfl | (rw[E];done) | (rw[E];rfl),O.out⟩
     rw[QB D]
     have a3:y.code.length<=200:=Xo fun h=>D (.inl h);go_wp2_with fail
     go_loopw [7] (fun i wr=>∃ t:Nat,t<=y.code.length/\i=Iv t/\GbS w wr L2/\∀ (j:Nat) z,j<t->y.code[j]?=some z->¬ (300<z.regs.length\/300<z.args.length)) (fun i _=>y.code.length - (intOf i).toNat)
     case atStart=>exact⟨0,Xb _,Yz,S4.out,fun j z B=>absurd B (XG _)⟩
     case round =>
      obtain⟨t,ht,rfl,R,o⟩:=hrel
      have ST:=Qf R;have ah:=Qf o;clear R o S4;have z2:=Qb (N.out _ ST.out).1 2 _ Yz;by_cases ay:t<y.code.length
      rotate_left
      ·have ak:¬ (t:Int)<y.code.length:=by omega
       go_wp2_with fail
       go_roundw
       case rel =>
        refine⟨q+1,by omega,by go_num,(N.out _ ST.out).2,fun j u B U=>?_⟩
        by_cases aq:j<q
        ·exact ao.out j u aq U
        ·have:j=q:=by omega
         subst this;rw[ae.out] at U
         cases U
         rintro (h | h | h | h | h | h | h | ⟨z,hz,h⟩)
         ·exact D (.inl h)
         ·exact D (.inr (.inl h))
         ·exact D (.inr (.inr (.inl h)))
         ·exact D (.inr (.inr (.inr (.inl h))))
         ·exact D (.inr (.inr (.inr (.inr (.inl h)))))
         ·exact D (.inr (.inr (.inr (.inr (.inr (.inl h))))))
         ·exact D (.inr (.inr (.inr (.inr (.inr (.inr h))))))
         ·obtain⟨i,hi⟩:=List.mem_iff_getElem?.1 hz
          exact ah.out i z (by have:=(Zi hi).1;omega) hi h
       case measure=>simp[intOf];omega
      have ak:(t:Int)<y.code.length:=by omega
      have hz:y.code[t]?=some y.code[t]:=Zg ay;generalize y.code[t]=z at hz;have HZ:=Qf hz;obtain⟨g3,o3,i3,e3,E3,-⟩:=QhT ag.out.code hz
      rw[e3] at z2
      have ar:=Qk (show w.cell? ⟨g3,o3+t*8+6,none⟩=_ from E3 6 _ Yz) ST.out.bel;have ap:=Qk (show w.cell? ⟨g3,o3+t*8+7,none⟩=_ from E3 7 _ Yz) ST.out.bel;clear hz E3 e3;go_upto_region 18 with fail
      go_cut [122] (fun v wx=>v=.bool (decide (300<z.regs.length\/300<z.args.length))/\GbS w wx L2)
      case first =>
       by_cases h:(z.regs.length:Int)>300
       ·have d1:decide ((z.regs.length:Int)>300)=true:=Xt h;have E:decide (300<z.regs.length\/300<z.args.length)=true:=Xt (by omega);go_wp2
        go_meet;exact⟨by first | rfl | (rw[E];done) | (rw[E];rfl),ST.out⟩
       ·have d1:decide ((z.regs.length:Int)>300)=false:=Xu h;have E:decide (300<z.regs.length\/300<z.args.length)=decide ((z.args.length:Int)>300):=by rw[decide_eq_decide];omega
        go_wp2
        all_goals
         go_meet;exact⟨by first | rfl | (rw[E];done) | (rw[E];rfl),ST.out⟩
      case rest =>
       obtain⟨rfl,Q⟩:=hcut
       have SU:=Qf Q;clear Q ST z2 ar ap;by_cases c4:300<z.regs.length\/300<z.args.length
       ·rw[Xt c4]
        have E:=ai.out (.inr (.inr (.inr (.inr (.inr (.inr (.inr ⟨z,Zm HZ.out,c4⟩)))))));have O:=Qf SU.out.bel;clear SU c4;go_wp2_with fail
        go_ret;exact⟨by first | rfl | (rw[E];done) | (rw[E];rfl),O.out⟩
       ·rw[Xu c4]
        go_wp2_with fail
        go_roundw
        case rel =>
         refine⟨t+1,by omega,by go_num,SU.out,fun j u B U=>?_⟩
         by_cases a1:j<t
         ·exact ah.out j u a1 U
         ·have:j=t:=by omega
          subst this;rw[HZ.out] at U
          cases U
          exact c4
        case measure=>simp[intOf];omega
theorem QjU {j:Nat}{m:List (MFunc j)}{fu:Int}(l:(QaN j).In w All m [.slice pm m.length cm]) (h:Qm m\/3000<fu) :
 Calls prog 11 #[.agg #[.slice pm m.length cm],Iv fu] w fun e w'=>e=.returned (.bool true)/\Below w.heap.size w w':=by
 have c:=Qc ((Bxs.start w).new #[.slice pm m.length cm] 24);have b:Hid (∀ d,Below w.heap.size w d->Calls prog 10 #[.agg #[.slice pm m.length cm]] d fun e w'=>e=.returned (.bool (ZR (Qm m)))/\Below d.heap.size d w'):=fun d n=>Z2 j m pm cm d (Ya l n);clear l;have H:=Qc h;clear h;go_enter func11,ntmps11
 go_upto_region 1 with fail
 generalize w.alloc (.cells #[.slice pm m.length cm] 24)=i at c |-;generalize w.heap.size=X at c |-;have q:i.cell? ⟨X,0,none⟩=some (.slice pm m.length cm):=c.out.cell (a:=[]) 0 _ Z;by_cases g:Qm m
 ·have b:=Qc (b.out i c.out.bel);rw[show ZR (Qm m)=true from QC g] at b
  clear g;go_wp2_with fail
  refine b.out.mono ?_;rintro o p ⟨rfl,f⟩;have k:=Qc (c.out.below f);clear f;go_wp2
  go_ret;exact⟨Z,k.out.bel⟩
 ·have b:=Qc (b.out i c.out.bel);rw[show ZR (Qm m)=false from QB g] at b
  have r:decide (fu>3000)=true:=Xt (by have:=H.out;rcases this with e | e;exact absurd e g;exact e);clear g;go_wp2_with fail
  refine b.out.mono ?_;rintro o p ⟨rfl,f⟩;have k:=Qc (c.out.below f);clear f;go_wp2
  go_ret;exact⟨Z,k.out.bel⟩
theorem Qlz {d:Nat}{m:List (MFunc d)}{fu:Int}(f:(QaN d).In w All m [.slice pm m.length cm]) (h:¬ (Qm m\/3000<fu)) :
 Calls prog 11 #[.agg #[.slice pm m.length cm],Iv fu] w fun e w'=>e=.returned (.bool false)/\Below w.heap.size w w':=by
 have c:=Qc ((Bxs.start w).new #[.slice pm m.length cm] 24);have b:=Z2 d m pm cm _ (Ya f (ZP w (.cells #[.slice pm m.length cm] 24)));rw[show ZR (Qm m)=false from QB (fun e=>h (.inl e))] at b
 have b:Hid (Calls prog 10 #[.agg #[.slice pm m.length cm]] (w.alloc (.cells #[.slice pm m.length cm] 24)) fun e w'=>e=.returned (.bool false)/\Below (w.alloc (.cells #[.slice pm m.length cm] 24)).heap.size (w.alloc (.cells #[.slice pm m.length cm] 24)) w'):=b;have n:decide (fu>3000)=false:=Xu (fun e=>h (.inr e));clear f h;go_enter func11,ntmps11
 go_upto_region 1 with fail
 generalize w.alloc (.cells #[.slice pm m.length cm] 24)=i at c b |-;generalize w.heap.size=X at c |-;have k:i.cell? ⟨X,0,none⟩=some (.slice pm m.length cm):=c.out.cell (a:=[]) 0 _ Z;go_wp2_with fail
 refine b.out.mono ?_;rintro l o ⟨rfl,g⟩;have j:=Qc (c.out.below g);clear g;go_wp2
 go_ret;exact⟨Z,j.out.bel⟩
theorem QjI.below {lo:Nat}{N:RM}(h:QjI lo N v w) (b:Below w.heap.size w w'):QjI lo N v w':=by
 obtain⟨e,a,rfl,c,d⟩:=h
 exact⟨e,a,Z,c.below b,d.below b⟩
def QmR (w6:World) (b:Nat) (N:RM) (ab ao:Option Addr) (cb co:Nat) (t:Tmp) (v:Value) (w:World):Prop :=
 match ([(70,QjI w6.heap.size N)]:List (Tmp × (Value->World->Prop))).lookup t with
 | some p=>p v w
 | none=>v=(([(69,.pointer (some ⟨b,0,none⟩)),(71,.agg #[.int .i64 N.fin,.slice ab N.back.length cb,.slice ao N.out.length co,.int .i64 N.fuel]),(72,.bool true),(10,.bool true),(13,.pointer (some ⟨b,0,none⟩))]:List (Tmp × Value)).lookup t).getD undef
theorem Qog {Z u r:Nat}{N:RM}{l j:Option Addr}(z:Blk w6 Z #[Iv N.fin,.slice l N.back.length u,.slice j N.out.length r,Iv N.fuel] 44) (lb:Qcy w6 l N.back) (lo:Qcy w6 j N.out) (P:N.back.length<=100000) (Q:N.out.length<=100000)
 (CO:Hid (∀ wx,Below w6.heap.size w6 wx->Calls prog 37 #[Pv b 0] wx fun e w'=>∃ v,e=.returned v/\QjI wx.heap.size N v w'/\Below wx.heap.size wx w'))
 (a:Act) (m:Nat) (O:a.tmps.size=m) (y:73<=m) (o:a.tmps.getD 11 undef=Pv Z 0) (E:a.tmps.getD 13 undef=Pv b 0) :
 Code.wp prog ((Tryz.f8.body.bind (Qi 16)).getD .skip) (fun e a' w'=>e=.normal/\∃ vs,a'=QM a vs [69,70,71,72,10]/\vs 10=.bool true/\Below w6.heap.size w6 w') a w6:=by
 have z0:=Qb z 0 _ Yz;have V:=Qb z 1 _ Yz;have z2:=Qb z 2 _ Yz;have z3:=Qb z 3 _ Yz;conv=>arg 2;whnf
 refine Qdt (fun t v w=>if t=11 then v=Pv Z 0 else QmR w6 b N l j u r t v w) (fun w=>Below w6.heap.size w6 w) (fun w w'=>Below w.heap.size w w') (outs:=[11,13]) (gs:=[]) (bs:=[true,true,true,true,true]) (by kernel_rfl) (n:=73) O y (by kernel_rfl) ?hR ?hG (QI Zr 1) ⟨o,E,Y⟩ ?hA ?hend
 case hR =>
  intro t v w w' T h;by_cases L:t=11
  ·rw[Xs L] at h |-;exact h
  rw[Xr L] at h |-
  unfold QmR at h |-;split at h
  ·rename_i p k
   simp only[List.lookup_cons,List.lookup_nil] at k
   split at k
   ·cases k;exact QjI.below h T
   ·cases k
  ·exact h
 case hG=>exact Y
 case hend=>exact fun vs w' c f=>⟨Yz,vs,Yz,f 10 (by kernel_rfl),c⟩
 case hA =>
  refine⟨fun a w c f K g=>?_,?_⟩
  ·obtain⟨d,-⟩:=f
   have d:a.tmps.getD 13 undef=Pv b 0:=d;go_simp;exact g _ _ Zr c Yz
  refine⟨fun a w c f K g=>?_,?_⟩
  ·obtain⟨d,-⟩:=f
   have d:a.tmps.getD 69 undef=Pv b 0:=d;go_simp;refine Xm (CO.out w c) ?_;rintro U w7 ⟨v,rfl,h7,i⟩;go_simp;obtain⟨G,J,rfl,⟨M,A,e1,B,D,l3⟩,⟨H,q,W,R,S,X⟩⟩:=h7
   exact g _ _ i (c.trans (i.mono c.size)) ⟨G,J,Yz,⟨M,A,e1,B,D,fun x F=>Zt c.size (l3 x F)⟩,⟨H,q,W,R,S,fun x F=>Zt c.size (X x F)⟩⟩
  refine⟨fun a w c f K g=>?_,?_⟩
  ·obtain⟨d,-⟩:=f
   have d:a.tmps.getD 11 undef=Pv Z 0:=d;have c0:=Qk z0 c;have A:=Qk V c;have q:=Qk z2 c;have c3:=Qk z3 c;go_simp;exact g _ _ Zr c Yz
  refine⟨fun a w c f K g=>?_,?_⟩
  ·obtain⟨d,I,-⟩:=f
   have d:QjI w6.heap.size N (a.tmps.getD 70 undef) w:=d;have I:a.tmps.getD 71 undef=.agg #[Iv N.fin,.slice l N.back.length u,.slice j N.out.length r,Iv N.fuel]:=I;obtain⟨G,J,aa,s,C⟩:=d
   obtain⟨M,A,rfl,-⟩:=id s
   obtain⟨H,q,rfl,-⟩:=id C
   have B:=s.lg.2;have D:=C.lg.2;clear s C;go_simp;refine Xm (QbY P Q B (lb.below c) D (lo.below c)) ?_;rintro U w7 ⟨rfl,i⟩;go_simp;exact g _ _ i (c.trans (i.mono c.size)) Yz
  refine⟨fun a w c f K g=>?_,?_⟩
  ·obtain⟨d,-⟩:=f
   have d:a.tmps.getD 72 undef=.bool true:=d;go_simp;exact g _ _ Zr c Yz
  trivial
def QgG (w:World) (inp:List Int) (most pages:Nat) (e:Ending) (w':World):Prop :=
 (∃ c a:Int,c≠0/\e=.returned (.tuple #[.pointer none,Qbw c a])/\Below w.heap.size w w')\/∃ o:List (MFunc 6),(modFault o).1=0/\QfQ o most (RM.start inp pages)/\ROk o 0 (RM.start inp pages)/\Qik w o inp most pages e w'
structure Qnz (w:World) (VM VO VI:Value) (m:List (MFunc 6)) (inp:List Int) (most pages:Nat):Prop where
 fine:(modFault m).1=0
 le:most<=20000
 goes:QfQ m most (RM.start inp pages)
 ok:ROk m 0 (RM.start inp pages)
 run:∀ wx,Below w.heap.size w wx->Calls prog 30 #[VM,VI,Iv (most:Int),Iv (pages:Int)] wx fun e w'=>Qeg wx m inp most pages e w'
 new:∀ wx,Below w.heap.size w wx->Calls prog 32 #[VM,VI,Iv (most:Int),Iv (pages:Int)] wx fun e w'=>Qik wx m inp most pages e w'
 other:∀ wx,Below w.heap.size w wx->Calls prog 32 #[VO,VI,Iv (most:Int),Iv (pages:Int)] wx fun e w'=>QgG wx inp most pages e w'
structure QmT (w7:World) (bx F most:Nat) (m:List (MFunc 6)) (X0:RM) (yv:Value) (c:Int) (P:World->RM->Prop):Prop where
 at_:∀ wr X,P wr X->∃ g j,QeD w7 wr bx most m X0 X g j/\j<=most+1
 fb:∀ wr X,P wr X->wr.cell? ⟨F,0,none⟩=some (Iv c)
 gx:∀ wr X,P wr X->X.done=false->Calls prog 34 #[Pv bx 0] wr fun e w'=>e=.returned (.tuple #[])/\∃ X',P w' X'/\(X'.done=false->X'.fuel=X.fuel+1)
 gy:c=0->∀ wr X,P wr X->Calls prog 34 #[yv] wr fun e w'=>e=.returned (.tuple #[])/\P w' X
theorem Qg2 {D w9 d:World}{z:Nat}{m:List (MFunc 6)}{l:WG}{e:Ending}(R:(modFault m).1=0) (s:most<=20000) (O:QfQ m most (RM.start inp pages)) (M:ROk m 0 (RM.start inp pages))
 (Z:QeD D w9 z most m (RM.start inp pages) (RM.start inp pages) l 0) (U:QgG w9 inp most pages e d) :
 ∃ (yv:Value) (c a:Int) (P:World->RM->Prop),e=.returned (.tuple #[yv,Qbw c a])/\Below w9.heap.size w9 d/\P (d.alloc (.cells #[Iv c,Iv a] 32)) (RM.start inp pages)/\QmT D z d.heap.size most m (RM.start inp pages) yv c P:=by
 have F:=XC Z.at_.box;rcases U with ⟨c,a,hc,rfl,b⟩|⟨o,S,E,T,⟨t,r,rfl,Q,G,H,⟨-,w⟩,b⟩⟩
 ·have C:=ZP d (.cells #[Iv c,Iv a] 32);have W:=b.size;refine⟨.pointer none,c,a,fun wr X=>∃ g j,QeD D wr z most m (RM.start inp pages) X g j/\j<=most+1/\¬ g.A d.heap.size/\wr.heap[d.heap.size]?=some (.cells #[Iv c,Iv a] 32 (0,0)),Yz,b,⟨l,0,Z.below (b.trans (C.mono b.size)),Xb _,fun h=>by have:=Z.at_.lt _ h;omega,Qe _ _ _⟩,⟨?_,?_,?_,fun h=>absurd h hc⟩⟩
  ·rintro wr X ⟨g,j,f,n,-⟩;exact⟨g,j,f,n⟩
  ·rintro wr X ⟨g,j,f,n,I,B⟩;exact Qb B 0 _ Yz
  ·rintro wr X ⟨g,j,f,n,I,B⟩ y;refine(f.go R s O M y).mono ?_
   rintro e L ⟨rfl,J,v,u,N,-,K⟩;have V:=XC B;exact⟨Yz,J,⟨v,j+1,u,by have:=f.fu y;have:=f.le;omega,fun h=>(N.own _ h).elim I (fun q=>by omega),(N.block _ V I).trans B⟩,K⟩
 ·have C:=ZP d (.cells #[Iv 0,Iv 0] 32);have W:=b.size;refine⟨Pv t 0,0,0,fun wr X=>∃ Y l r j k,Qds D wr z t most m o (RM.start inp pages) (RM.start inp pages) X Y l r j k w9.heap.size d.heap.size #[Iv 0,Iv 0] 32/\j<=most+1,Yz,b,⟨_,l,r,0,0,Qds.start Z F ?_ (Q.below C) G H w (b.trans (C.mono b.size)) (Qe _ _ _) (fun h=>by have:=Z.at_.lt _ h;omega) (fun h=>by have:=Q.lt _ h;omega),Xb _⟩,⟨?_,?_,?_,?_⟩⟩
  ·obtain⟨p,q,e,-⟩:=Z.at_.back
   exact⟨p,q,e,fun i hi=>absurd hi (XG i)⟩
  ·rintro wr X ⟨Y,l,r,j,k,f,n⟩;exact⟨l,j,f.x,n⟩
  ·rintro wr X ⟨Y,l,r,j,k,f,n⟩;exact Qb f.fb 0 _ Yz
  ·rintro wr X ⟨Y,l,r,j,k,f,n⟩ y;refine(f.goX R s O M y).mono ?_
   rintro e L ⟨rfl,J,v,u,K⟩;exact⟨Yz,J,⟨Y,v,r,j+1,k,u,by have:=f.x.fu y;have:=f.x.le;omega⟩,K⟩
  ·rintro - wr X ⟨Y,l,r,j,k,f,n⟩;refine(f.goY S s E T).mono ?_
   rintro e L ⟨rfl,Y',v,k',u⟩;exact⟨Yz,Y',l,v,j,k',u,n⟩
theorem Qkp {dd de:Nat}{m:List (MFunc dd)}{o:List (MFunc de)}{A:Option Addr}{u:Nat}{fu pg:Int}
 (hM:(QaN dd).In w All m [.slice pm m.length cm]) (hO:(QaN de).In w All o [.slice A o.length u])
 (K:¬ Qm m->¬ Qm o->fu<=3000->(∃ c a:Int,c≠0/\∀ wx,Below w.heap.size w wx->Calls prog 30 #[.agg #[.slice pm m.length cm],.slice pi n ci,Iv fu,Iv pg] wx fun e w'=>e=.returned (Qid c a)/\Below wx.heap.size wx w') \/
  ∃ (m6:List (MFunc 6)) (inp:List Int) (most pages:Nat),fu=(most:Int)/\pg=(pages:Int)/\Qnz w (.agg #[.slice pm m.length cm]) (.agg #[.slice A o.length u]) (.slice pi n ci) m6 inp most pages) :
 Calls prog 8 #[.agg #[.slice pm m.length cm],.agg #[.slice A o.length u],.slice pi n ci,Iv fu,Iv pg] w fun e w'=>e=.returned (.bool true)/\Below w.heap.size w w':=by
 have B:=((Bxs.start w).new #[.slice pm m.length cm] 24).new #[.slice A o.length u] 24;rw[World.size_alloc] at B
 have B:=Qc B;have HM:=Qc hM;have HO:=Qc hO;have z:=Qc K;clear hM hO K;go_enter func8,ntmps8
 go_upto_region 1 with fail
 generalize (w.alloc (.cells #[.slice pm m.length cm] 24)).alloc (.cells #[.slice A o.length u] 24)=w2 at B |-;generalize w.heap.size+1=X2 at B |-;generalize w.heap.size=X at B |-;go_wp2_with fail
 refine(QeB w2).mono ?_
 rintro e3 w3 ⟨rfl,b3⟩;have I:=Qc (B.out.below b3);clear b3 B;have M:w3.cell? ⟨X,0,none⟩=some (.slice pm m.length cm):=I.out.cell (a:=[_]) 0 _ Yz;by_cases V:Qm m\/3000<fu
 ·have CL:=Qc (QjU (Ya HM.out I.out.bel) V);clear V;go_wp2_with fail
  refine CL.out.mono ?_;rintro e4 w4 ⟨rfl,O⟩;have C:=Qc (I.out.below O);clear O;go_wp2
  go_ret;exact⟨Yz,C.out.bel⟩
 have CL:=Qc (Qlz (Ya HM.out I.out.bel) V);have HG:=Qc V;clear V;go_wp2_with fail
 refine CL.out.mono ?_;rintro e4 w4 ⟨rfl,O⟩;have C:=Qc (I.out.below O);clear O I CL M;have x1:w4.cell? ⟨X2,0,none⟩=some (.slice A o.length u):=C.out.cell (a:=[]) 0 _ Yz;have q:=Z2 de o A u w4 (Ya HO.out C.out.bel);by_cases hg:Qm o
 ·rw[show ZR (Qm o)=true from QC hg] at q
  have q:=Qc q;clear hg;go_wp2_with fail
  refine q.out.mono ?_;rintro e5 w5 ⟨rfl,b5⟩;have p:=Qc (C.out.below b5);clear b5;go_wp2
  go_ret;exact⟨Yz,p.out.bel⟩
 rw[show ZR (Qm o)=false from QB hg] at q
 have q:=Qc q;have ad:=Qc hg;clear hg;go_wp2_with fail
 refine q.out.mono ?_;rintro e5 w5 ⟨rfl,b5⟩;have p:=Qc (C.out.below b5);clear b5 C q x1;have M:w5.cell? ⟨X,0,none⟩=some (.slice pm m.length cm):=p.out.cell (a:=[_]) 0 _ Yz;have h3:fu<=3000:=by have:=HG.out;omega
 have K6:=z.out (fun e=>HG.out (.inl e)) ad.out h3;clear h3;rcases K6 with ⟨c,a,h,E⟩|⟨m6,inp,most,pages,rfl,rfl,Y6⟩
 ·have E:=Qc (E w5 p.out.bel);have d0:(c != 0)=true:=bne_iff_ne.2 h;clear h;go_wp2_with fail
  refine E.out.mono ?_;rintro e6 x ⟨rfl,b6⟩;have b:=((p.out.below b6).new #[Iv 0,Nv,Nv,Iv 0] 44).new #[Iv c,Iv a] 32;rw[World.size_alloc] at b
  have b:=Qc b;clear b6 E M p;simp only[Qid,Qbw]
  go_upto_region 6 with fail
  generalize (x.alloc (.cells #[Iv 0,Nv,Nv,Iv 0] 44)).alloc (.cells #[Iv c,Iv a] 32)=f at b |-;generalize x.heap.size+1=F at b |-;generalize x.heap.size=Z at b |-;have f0:f.cell? ⟨F,0,none⟩=some (Iv c):=b.out.cell (a:=[]) 0 _ Yz;have o0:f.cell? ⟨Z,0,none⟩=some (Iv 0):=b.out.cell (a:=[_]) 0 _ Yz;have o1:f.cell? ⟨Z,1,none⟩=some (Nv):=b.out.cell (a:=[_]) 1 _ Yz;have o2:f.cell? ⟨Z,2,none⟩=some (Nv):=b.out.cell (a:=[_]) 2 _ Yz;have o3:f.cell? ⟨Z,3,none⟩=some (Iv 0):=b.out.cell (a:=[_]) 3 _ Yz;have CS:Hid (∀ n,Calls prog 26 #[.agg #[Iv 0,Nv,Nv,Iv 0],.agg #[Iv 0,Nv,Nv,Iv 0]] (f.drewN n) fun e w'=>e=.returned (.bool true)/\Below (f.drewN n).heap.size (f.drewN n) w'):=fun n=>QbY (l:=[]) (r:=[]) (by decide) (by decide) (Qcy.nil _ _) (Qcy.nil _ _) (Qcy.nil _ _) (Qcy.nil _ _);go_wp2_with fail
  refine(CS.out 0).mono ?_
  rintro e8 w8 ⟨rfl,G⟩;have B8:=Qc (b.out.below G);clear G;go_wp2
  go_ret;exact⟨Yz,B8.out.bel⟩
 have t:=Qc Y6;clear Y6 z;have E:=Qc (t.out.run w5 p.out.bel);go_wp2_with fail
 refine E.out.mono ?_;rintro e6 x ⟨N,v,hN,dN,⟨vb,vo,rfl,hb,ho⟩,rfl,b6⟩;obtain⟨ab,cb,rfl,-⟩:=id hb
 obtain⟨ao,cq,rfl,-⟩:=id ho
 have b:=((p.out.below b6).new #[Iv N.fin,.slice ab N.back.length cb,.slice ao N.out.length cq,Iv N.fuel] 44).new #[Iv 0,Iv 0] 32;rw[World.size_alloc] at b
 have b:=Qc b;have k:=Qc hb.lg.2;have s:=Qc ho.lg.2;have HN:=Qc hN;clear b6 E M p hb ho hN dN;simp only[Qbw]
 go_upto_region 6 with fail
 have b7:=Qj1 x (.cells #[Iv N.fin,.slice ab N.back.length cb,.slice ao N.out.length cq,Iv N.fuel] 44) (.cells #[Iv 0,Iv 0] 32);have k:=Qc (k.out.below b7);have s:=Qc (s.out.below b7);clear b7;generalize (x.alloc (.cells #[Iv N.fin,.slice ab N.back.length cb,.slice ao N.out.length cq,Iv N.fuel] 44)).alloc (.cells #[Iv 0,Iv 0] 32)=f at b k s |-;generalize x.heap.size+1=F at b |-;generalize x.heap.size=Z at b |-;have f0:f.cell? ⟨F,0,none⟩=some (Iv 0):=b.out.cell (a:=[]) 0 _ Yz;have M:f.cell? ⟨X,0,none⟩=some (.slice pm m.length cm):=b.out.cell (a:=[_,_,_]) 0 _ Yz;have CN:=Qc (t.out.new f b.out.bel);go_upto_region 8 with fail
 go_wp2_with fail
 refine CN.out.mono ?_;rintro e8 w8 ⟨Q,gx,rfl,S8,T,ae,⟨aa,S⟩,G⟩;have b9:=ZP w8 (.cells #[Iv 0,Iv 0] 32);have ZX:Hid (QeD f (w8.alloc (.cells #[Iv 0,Iv 0] 32)) Q most m6 (RM.start inp pages) (RM.start inp pages) gx 0):=⟨S8.below b9,T,G.trans (b9.mono G.size),Yz,fun _=>rfl,Xb _,fun _=>rfl⟩;have L:=Qc ((b.out.below G).new #[Iv 0,Iv 0] 32);clear S8 T ae aa S G b9 CN f0 M;simp only[Qbw]
 go_upto_region 9 with fail
 generalize w8.alloc (.cells #[Iv 0,Iv 0] 32)=w9 at ZX L |-;generalize w8.heap.size=F3 at L |-;have x1:w9.cell? ⟨X2,0,none⟩=some (.slice A o.length u):=L.out.cell (a:=[_,_,_]) 0 _ Yz;have CY:=Qc (t.out.other w9 L.out.bel);go_wp2_with fail
 refine CY.out.mono ?_;intro aj ac hE;obtain⟨yv,c,a,P,rfl,R,hP,i⟩:=Qg2 t.out.fine t.out.le t.out.goes t.out.ok ZX.out hE
 have H:=Qc ((L.out.below R).new #[Iv c,Iv a] 32);have i:=Qc i;have HP:=Qc hP;clear hE hP R CY x1 ZX L;simp only[Qbw]
 go_upto_region 10 with fail
 generalize ac.alloc (.cells #[Iv c,Iv a] 32)=af at H HP |-;generalize ac.heap.size=F4 at H i |-;have g0:af.cell? ⟨F3,0,none⟩=some (Iv 0):=H.out.cell (a:=[_]) 0 _ Yz;go_upto_region 12 with fail
 clear g0;go_loopw [] (fun wr=>∃ X,P wr X) (fun wr=>Qkg Q most wr)
 case atStart=>exact⟨_,HP.out⟩
 case round =>
  obtain⟨XN,hX⟩:=hrel
  obtain⟨g,j,y,hj⟩:=i.out.at_ _ _ hX
  have CD:=Qc (Qff y.at_)
  cases hd:XN.done with
  | false =>
    have CX:=Qc (i.out.gx _ _ hX hd);have HL:=Qc y.at_.left;rw[hd] at CD HL
    clear hX y hd hj;go_upto_region 13 with (go_at_call 33;refine CD.out.mono ?_;rintro e' w' ⟨rfl,D⟩;have D:=D.symm;subst D)
    go_wp2_with fail
    refine CX.out.mono ?_;rintro e' ai ⟨rfl,X',d,hf⟩;have f4:=i.out.fb _ _ d;by_cases h:c=0
    ·have CY:=Qc (i.out.gy h _ _ d);have d1:decide (c=0)=true:=Xt h;have d2:(c==0)=true:=beq_iff_eq.2 h;clear d h;go_wp2_with fail
     refine CY.out.mono ?_;rintro e' ah ⟨rfl,d⟩;go_wp2_with fail
     go_roundw
     case rel=>exact⟨_,d⟩
     case measure =>
      obtain⟨g',j',U,-⟩:=i.out.at_ _ _ d
      rw[HL.out,U.at_.left]
      have h6:=U.le
      cases hd6:X'.done with
      | true=>simp
      | false=>have:=hf hd6;simp;omega
    ·have d1:decide (c=0)=false:=Xu h;have d2:(c==0)=false:=beq_eq_false_iff_ne.2 h;clear h;go_wp2_with fail
     go_roundw
     case rel=>exact⟨_,d⟩
     case measure =>
      obtain⟨g',j',U,-⟩:=i.out.at_ _ _ d
      rw[HL.out,U.at_.left]
      have h6:=U.le
      cases hd6:X'.done with
      | true=>simp
      | false=>have:=hf hd6;simp;omega
  | true =>
    have he:XN=N:=Xn ((y.end_ hj hd).symm.trans HN.out);have J:=Qc8 t.out.fine t.out.ok j y.st;have z:Hid (XN.out.length<=100000/\XN.back.length<=100000):=⟨by have:=J.out.1;omega,by have:=J.out.2;omega⟩;have CO:Hid (∀ wx,Below wr.heap.size wr wx->Calls prog 37 #[Pv Q 0] wx fun e w'=>∃ v,e=.returned v/\QjI wx.heap.size XN v w'/\Below wx.heap.size wx w'):=fun wx Q=>Qcp (y.at_.below Q) (by have:=z.out.1;omega) (by have:=z.out.2;omega);have HB:=Qc y.bel;have HE:=Qc he;rw[hd] at CD
    clear y hX hd hj he J;go_upto_region 16 with (go_at_call 33;refine CD.out.mono ?_;rintro e' w' ⟨rfl,D⟩;have D:=D.symm;subst D)
    rw[HE.out] at CO z
    refine Code.wp_mono ?_ (Qog (Blk.below (b.out.at (a:=[_])) HB.out) (k.out.below HB.out) (s.out.below HB.out) z.out.2 z.out.1 CO _ _ Yz (Xg (by kernel_rfl)) Yz Yz);rintro _ _ ag ⟨rfl,vs,rfl,hv,W⟩;have BZ:=Qc (b.out.bel.trans ((HB.out.trans (W.mono HB.out.size)).mono b.out.bel.size));simp only[QM,Act.put,List.setIfInBounds_toArray,List.set_cons_zero,List.set_cons_succ,hv]
    clear hv W;go_wp2
    go_ret;exact⟨Yz,BZ.out⟩
def Qmn (w:World) (pm:Option Addr) (ml cm:Nat):Prop :=
 (∃ c0 a0:Int,c0≠0/\∀ wx,Below w.heap.size w wx->Calls prog 66 #[.agg #[.slice pm ml cm]] wx fun e w'=>e=.returned (Qbw c0 a0)/\Below wx.heap.size wx w') \/
 ∃ m:List (MFunc 6),m.length=ml/\(QjP 6).In w All m [.slice pm ml cm]/\¬ Qm m/\(Qq m).1=0
theorem QiH {w:World}{m:List (MFunc n)}{pm:Option Addr}{cm:Nat}(d:(QhY n).In w All m [.slice pm m.length cm]) :
 ∃ (dd:Nat) (m':List (MFunc dd)),m'.length=m.length/\(QaN dd).In w All m' [.slice pm m'.length cm]/\(¬ Qm m'->Qmn w pm m'.length cm):=by
 by_cases e:(modFault m).1=0
 ·have g:m.length=(m.map (MFunc.at 5)).length:=(XN _).symm;have a:(QhY 6).In w All (m.map (MFunc.at 5)) [.slice pm (m.map (MFunc.at 5)).length cm]:=by rw[<-g];exact Ql2 (QlF e) d
  refine⟨6,m.map (MFunc.at 5),g.symm,(QfD 6).2 a,fun b=>?_⟩
  generalize m.map (MFunc.at 5)=f at a b;by_cases r:(Qq f).1=0
  ·exact .inr ⟨f,Z,(QgJ 6).2 a,b,r⟩
  ·exact .inl ⟨_,_,r,fun h c=>Qb3 (Ya ((QgJ 6).2 a) c) (ZB b) (fun _=>b)⟩
 ·exact⟨n,m,Z,(QfD n).2 d,fun b=>.inl ⟨_,_,e,fun h c=>Qcj (Ya ((QfD n).2 d) c) (ZB b) e⟩⟩
section
variable {w:World}{inp:List Int}{most pages ml cm ci:Nat}{pm pi:Option Addr}{fu pg:Int}
def Qep (n:Nat) (fu pg:Int):Prop:=¬ (200<n\/fu<0\/20000<fu\/pg<0\/64<pg)
theorem Qh3 {m:List (MFunc 6)}(c:(QjP 6).In w All m [.slice pm m.length cm]) (b:¬ Qm m) (H:(Qq m).1=0) (d:intsL.In w All inp [.slice pi inp.length ci]) (hi:inp.length<=200) (h:most<=20000) (f:pages<=64) :
 Calls prog 32 #[.agg #[.slice pm m.length cm],.slice pi inp.length ci,Iv (most:Int),Iv (pages:Int)] w fun e w'=>Qik w m inp most pages e w' :=
 QgE ((QbE 6).2 c) (ZB b) d (QmD d) hi h f (fun g a=>Qdd c (ZB b) b H g a)
theorem Qmn.other (h:Qmn w pm ml cm) (p:intsL.In w All inp [.slice pi inp.length ci]) (hi:inp.length<=200) (o:most<=20000) (g:pages<=64) (f:World) (b:Below w.heap.size w f) :
 Calls prog 32 #[.agg #[.slice pm ml cm],.slice pi inp.length ci,Iv (most:Int),Iv (pages:Int)] f fun e w'=>QgG f inp most pages e w':=by
 rcases h with ⟨c,a,i,l⟩|⟨m,rfl,j,q,H⟩
 ·exact(QiA (fun n d=>l n (b.trans (d.mono b.size))) (by omega) (.inl ⟨i,Z,Z⟩)).mono fun e w' h=>.inl ⟨c,a,i,h.1,h.2⟩
 ·exact(Qh3 (Ya j b) q H (Ya p b) hi o g).mono fun e w' h=>.inr ⟨m,ZW H,fun k=>Qes H inp g k,Qdg (ZW H) (by omega) g,h⟩
theorem Qmn.run (h:Qmn w pm ml cm) (s:intsL.In w All inp [.slice pi inp.length ci]) (n:inp.length<1152921504606846976) (o:Value)
 (t:Qep inp.length fu pg->∀ most pages:Nat,fu=(most:Int)->pg=(pages:Int)->∀ wx,Below w.heap.size w wx->Calls prog 32 #[o,.slice pi inp.length ci,Iv (most:Int),Iv (pages:Int)] wx fun e w'=>QgG wx inp most pages e w') :
 (∃ c a:Int,c≠0/\∀ wx,Below w.heap.size w wx->Calls prog 30 #[.agg #[.slice pm ml cm],.slice pi inp.length ci,Iv fu,Iv pg] wx fun e w'=>e=.returned (Qid c a)/\Below wx.heap.size wx w') \/
  ∃ (m6:List (MFunc 6)) (i6:List Int) (most pages:Nat),fu=(most:Int)/\pg=(pages:Int)/\Qnz w (.agg #[.slice pm ml cm]) o (.slice pi inp.length ci) m6 i6 most pages:=by
 rcases h with ⟨c,a,r,u⟩|⟨m,rfl,i,f,H⟩
 ·exact .inl ⟨c,a,r,fun wx b=>QfG (fun j d=>u j (b.trans (d.mono b.size))) n (.inl ⟨r,Z,Z⟩)⟩
 by_cases p:200<inp.length\/fu<0\/20000<fu\/pg<0\/64<pg
 ·exact .inl ⟨1,-1,by decide,fun wx b=>QfG (fun j d=>Qdd i (ZB f) f H j (b.trans (d.mono b.size))) n (.inr ⟨Z,p,Z,Z⟩)⟩
 ·obtain⟨most,rfl⟩:∃ k:Nat,fu=(k:Int):=⟨fu.toNat,by omega⟩
  obtain⟨pages,rfl⟩:∃ k:Nat,pg=(k:Int):=⟨pg.toNat,by omega⟩
  have q:inp.length<=200:=by omega
  have l:most<=20000:=by omega
  have g:pages<=64:=by omega
  exact .inr ⟨m,inp,most,pages,Z,Z,ZW H,l,fun k=>Qes H inp g k,Qdg (ZW H) (by omega) g,fun wx b=>Qix (Ya i b) (ZB f) f H (Ya s b) q l g,fun wx b=>Qh3 (Ya i b) f H (Ya s b) q l g,t p most pages Z Z⟩
end
theorem QgP {w:World}{m:List (MFunc n)}{o:List (MFunc k)}{pm f pi:Option Addr}{cm d ci:Nat}{inp:List Int}{fu pg:Int}(u:(QhY n).In w All m [.slice pm m.length cm]) (q:(QhY k).In w All o [.slice f o.length d]) (g:intsL.In w All inp [.slice pi inp.length ci]) (i:inp.length<1152921504606846976) :
 Calls prog 8 #[.agg #[.slice pm m.length cm],.agg #[.slice f o.length d],.slice pi inp.length ci,Iv fu,Iv pg] w fun e w'=>e=.returned (.bool true)/\Below w.heap.size w w':=by
 obtain⟨C,B,v,x,p⟩:=QiH u
 obtain⟨t,y,l,j,r⟩:=QiH q
 rw[<-v,<-l]
 exact Qkp x j fun s b _=>(p s).run g i _ fun c h a A z=>(r b).other g (by unfold Qep at c;omega) (by unfold Qep at c;omega) (by unfold Qep at c;omega)
end Go.Proofs.YtjhdpajpibdnaafGreat
