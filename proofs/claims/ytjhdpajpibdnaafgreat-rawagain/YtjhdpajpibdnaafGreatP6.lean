import Derived.Test.YtjhdpajpibdnaafGreatP5
set_option maxHeartbeats 16000000
set_option maxRecDepth 100000
namespace Go.Proofs.YtjhdpajpibdnaafGreat
open Go.ChangeShapes Go.WideShapes Go.ChangeAt Go.RowKit _root_.Go.Proofs.Tryz
set_option linter.unusedSimpArgs false
set_option linter.unusedVariables false
variable {w w' w6 w1 w2:World}{n b c k m rc ac X j B i cm g N d f fi cap bp q R pages id bi cc funcs s ci rl al ca ri vl most cR cA G:Nat}{O Q O':Nat→Prop}{l xs regs inp:List Int}{p a rg ag pm pi pa pR pA ra aa:Option Addr}{t e:TypeId}{v:Value}{P:Program}{L bs:List Bool}{x ya xc xk fr xa xb xn yb:Int}{ds cs:List Value}{ops:Array Oper}
def fI:Qs:=⟨1,0,0,0,0,5,[],[]⟩
def fE:ZC:=⟨3,0,⟨0,[],[]⟩,⟨0,[],[]⟩,[0]⟩
def fB:MBlock 6:=⟨0,[],[fI],fE⟩
def fF:MFunc 6:=⟨0,[],[tInt],[fB]⟩
def five6:List (MFunc 6):=[fF]
theorem five_fault:modFault five6=(0,0):=by decide +kernel
abbrev fBc (G1 Gc Gi:Nat):Array Value:=#[Iv 0,Nv,.slice (some ⟨Gc,0,none⟩) 1 1,Iv 3,Iv 0,Iv 0,Nv,Nv,Iv 0,Nv,Nv,.slice (some ⟨Gi,0,none⟩) 1 1]
theorem QnB (w:World):intsL.In w All ([]:List Int) [Nv]:=Yg _ _ _ _ _
theorem QlQ (w:World):(Lay.tt 6).In w All tInt [Iv 1,Iv 0,Nv]:=⟨none,0,Z,fun i x h=>by simp[tInt] at h,by unfold tInt;exact⟨by decide,fun x h=>by simp at h⟩⟩
def two1:List Qs:=[bI 3,⟨1,0,0,0,0,1,[],[]⟩,bI 4,bI 4]
def two6:List (MFunc 6):=[tF]
theorem Qes {f:MFunc 6}(i:f.params=[]) (q:f.results.length<=1) (a:∀ t∈f.results,t.count<=1){b:MBlock 6}(c:f.blocks=[b]) (r:b.params=[]) (u:b.code.length<=40) (m:b.fin.yes.regs=[]/\b.fin.yes.args=[]/\b.fin.no.regs=[]/\b.fin.no.args=[]/\b.fin.args.length<=1) (o:∀ x∈b.code,x.regs=[]/\x.args=[]):¬ Qm [f]:=by
 rintro (h | ⟨x,g,h⟩)
 ·exact absurd h (by simp)
 ·simp only[List.mem_singleton] at g
  subst g;rcases h with h | h | h | ⟨y,d,h⟩
  ·rw[c] at h;exact absurd h (by simp)
  ·rw[i] at h
   rcases h with h | ⟨t,a,_⟩
   ·exact absurd h (by simp)
   ·cases a
  ·rcases h with h | ⟨t,e,h⟩
   ·have:=q;omega
   ·have:=a t e;omega
  ·rw[c] at d
   simp only[List.mem_singleton] at d
   subst d;obtain⟨p,n,j,l,s⟩:=m
   rcases h with h | h | h | h | h | h | h | ⟨z,k,h⟩
   ·omega
   ·rw[r] at h
    rcases h with h | ⟨t,a,_⟩
    ·exact absurd h (by simp)
    ·cases a
   ·omega
   ·rw[p] at h;exact absurd h (by simp)
   ·rw[n] at h;exact absurd h (by simp)
   ·rw[j] at h;exact absurd h (by simp)
   ·rw[l] at h;exact absurd h (by simp)
   ·have c:=o z k;rw[c.1,c.2] at h
    exact absurd h (by simp)
theorem five_not:¬ Qm five6:=Qes (b:=fB) Z (by decide) (fun t a=>by simp only[fF,List.mem_singleton] at a;subst a;decide) Z Z (by decide) ⟨Z,Z,Z,Z,by decide⟩ (fun x c=>by simp only[fB,List.mem_singleton] at c;subst c;exact⟨Z,Z⟩)
theorem two_not:¬ Qm two6:=Qes (b:=tB) Z (by decide) (fun t c=>by cases c) Z Z (by decide) ⟨Z,Z,Z,Z,by decide⟩ (fun x a=>by have a:x∈two1:=a;simp only[two1,List.mem_cons,List.not_mem_nil,or_false] at a;rcases a with rfl | rfl | rfl | rfl<;>exact⟨Z,Z⟩)
theorem Qim (w:World):Calls prog 38 #[] w fun e w'=>∃ I C T Y G2 G1 R,e=.returned (.agg #[.slice (some ⟨G2,0,none⟩) 1 1])/\Bxs w w' [(I,#[Iv 0],3),(C,#[Iv 1,Iv 0,Iv 0,Iv 0,Iv 0,Iv 5,Nv,Nv],78),(T,#[Iv 1,Iv 0,Nv],105),(Y,#[.slice (some ⟨G2,0,none⟩) 1 1],24),(G2,#[Iv 0,Nv,.slice (some ⟨T,0,none⟩) 1 1,.slice (some ⟨G1,0,none⟩) 1 1],89),(G1,fBc G1 C I,86),(R,#[.slice (some ⟨G2,0,none⟩) 1 1],24)]:=by
 have d:=Qa ((Bxs.start w).new #[Nv] 24);go_enter func38,ntmps38
 go_upto_region 1 with fail
 generalize w.alloc (.cells #[Nv] 24)=u at d |-;generalize w.heap.size=R at d |-;go_wp2_with fail
 refine(Qia u).mono ?_
 rintro L E ⟨G1,G2,rfl,y,t,x,D,z,A⟩;have l:=Qa (((d.out.made A y x).add t (Zt d.out.bel.size D) (fun b s=>by simp only[List.mem_cons,List.not_mem_nil,or_false] at s;rcases s with rfl | rfl;exact z;exact fun e=>by have J:R<u.heap.size:=(d.out.at (a:=[])).lt;have e:R=G2:=e;omega)).new #[.slice (some ⟨G2,0,none⟩) 1 1] 24);clear y t x D z A d;go_upto_region 2 with fail
 generalize E.alloc (.cells #[.slice (some ⟨G2,0,none⟩) 1 1] 24)=p at l |-;generalize E.heap.size=Y at l |-;have n:=Qa (l.out.new #[Iv 1,Iv 0,Nv] 105);have g:=l.out.cell (a:=[]) 0 _ Z;have G:=n.out.cell (a:=[_,_]) 2 _ Z;have k:=n.out.free (a:=[_,_]) 2;go_upto_region 3 with fail
 have i:=Qa (n.out.set (a:=[_,_]) 2 (.slice (some ⟨p.heap.size,0,none⟩) 1 1));clear l n g G k;generalize (p.alloc (.cells #[Iv 1,Iv 0,Nv] 105)).setCell ⟨G2,2,none⟩ (.slice (some ⟨p.heap.size,0,none⟩) 1 1)=j at i |-;generalize p.heap.size=T at i |-;have o:=Qa (i.out.new #[Iv 1,Iv 0,Iv 0,Iv 0,Iv 0,Iv 5,Nv,Nv] 78);have g:j.cell? ⟨Y,0,none⟩=some (.slice (some ⟨G2,0,none⟩) 1 1):=i.out.cell (a:=[_]) 0 _ Z;have r:j.cell? ⟨G2,3,none⟩=some (.slice (some ⟨G1,0,none⟩) 1 1):=i.out.cell (a:=[_,_]) 3 _ Z;have q:=o.out.cell (a:=[_,_,_,_]) 2 _ Z;have k:=o.out.free (a:=[_,_,_,_]) 2;go_upto_region 4 with fail
 have h:=Qa (o.out.set (a:=[_,_,_,_]) 2 (.slice (some ⟨j.heap.size,0,none⟩) 1 1));clear i o g r q k;generalize (j.alloc (.cells #[Iv 1,Iv 0,Iv 0,Iv 0,Iv 0,Iv 5,Nv,Nv] 78)).setCell ⟨G1,2,none⟩ (.slice (some ⟨j.heap.size,0,none⟩) 1 1)=f at h |-;generalize j.heap.size=C at h |-;have m:=Qa (h.out.new #[Iv 0] 3);have g:f.cell? ⟨Y,0,none⟩=some (.slice (some ⟨G2,0,none⟩) 1 1):=h.out.cell (a:=[_,_]) 0 _ Z;have r:f.cell? ⟨G2,3,none⟩=some (.slice (some ⟨G1,0,none⟩) 1 1):=h.out.cell (a:=[_,_,_]) 3 _ Z;have q:=m.out.cell (a:=[_,_,_,_,_]) 11 _ Z;have k:=m.out.free (a:=[_,_,_,_,_]) 11;go_upto_region 5 with fail
 have c:=Qa (m.out.set (a:=[_,_,_,_,_]) 11 (.slice (some ⟨f.heap.size,0,none⟩) 1 1));clear h m g r q k;generalize (f.alloc (.cells #[Iv 0] 3)).setCell ⟨G1,11,none⟩ (.slice (some ⟨f.heap.size,0,none⟩) 1 1)=F at c |-;generalize f.heap.size=I at c |-;have g:F.cell? ⟨Y,0,none⟩=some (.slice (some ⟨G2,0,none⟩) 1 1):=c.out.cell (a:=[_,_,_]) 0 _ Z;have K:=c.out.cell (a:=[_,_,_,_,_,_]) 0 _ Z;have M:=c.out.free (a:=[_,_,_,_,_,_]) 0;have B:=Qa (c.out.set (a:=[_,_,_,_,_,_]) 0 (.slice (some ⟨G2,0,none⟩) 1 1));go_wp2
 have H:=B.out.cell (a:=[_,_,_,_,_,_]) 0 _ Z;refine Xy (v:=.agg #[.slice (some ⟨G2,0,none⟩) 1 1]) (by simp[results,results38,go_sem,H]) Z ⟨_,_,_,_,G2,_,_,Z,B.out⟩
def retE:ZC:=⟨3,0,⟨0,[],[]⟩,⟨0,[],[]⟩,[]⟩
def MBlock.outl {n:Nat}(b:MBlock n):MBlock n:=⟨b.regs,b.params,[],retE⟩
def MFunc.outl {n:Nat}(f:MFunc n):MFunc n:=⟨f.regs,f.params,f.results,f.blocks.map MBlock.outl⟩
def outl {n:Nat}(m:List (MFunc n)):List (MFunc n):=m.map MFunc.outl
def JSt.outl (s:JSt):JSt:=⟨Go.Proofs.YtjhdpajpibdnaafGreat.outl s.m,s.f.outl,s.H,s.L⟩
theorem Qa8 (m:List (MFunc n)):(outl m).length=m.length:=XN _
theorem Qeu (m:List (MFunc n)) (k:Nat):(outl m)[k]?=(m[k]?).map MFunc.outl:=XS
theorem QgB (f:MFunc n):f.outl.blocks.length=f.blocks.length:=XN _
theorem QjV (f:MFunc n) (k:Nat):f.outl.blocks[k]?=(f.blocks[k]?).map MBlock.outl:=XS
theorem Qc2 (s:JSt) (l:List Int) (ts:List (TT 6)) (a:List Int):s.outl.args l ts a=s.args l ts a:=rfl
theorem QcD (s:JSt):∀ l,s.outl.fields l=s.fields l
 | []=>rfl
 | k::r=>by
   have a:s.outl.at k=s.at k:=rfl;simp only[JSt.fields,a,QcD s r]
theorem QdD (s:JSt) (x:Qs):s.outl.makes x=s.makes x:=by
 have d:∀ k,s.outl.at k=s.at k:=fun _=>rfl;have e:∀ a b c,s.outl.want a b c=s.want a b c:=fun _ _ _=>rfl;have h:s.outl.H=s.H:=rfl;have i:s.outl.f.regs=s.f.regs:=rfl;have g:s.outl.m[x.k.toNat]?=(s.m[x.k.toNat]?).map MFunc.outl:=Qeu _ _;unfold JSt.makes;rw[g]
 simp only[d,e,h,i,QcD,Qc2]
 cases s.m[x.k.toNat]?<;>rfl
theorem QeQ (s:JSt) (x:Qs):s.outl.code x=s.code x:=by
 have a:s.outl.m.length=s.m.length:=Qa8 _;have b:s.outl.L=s.L:=rfl;unfold JSt.code;rw[a,QdD,b]
theorem Qir (s:JSt) (x:Qs):s.outl.next x=(s.next x).outl:=by
 unfold JSt.next
 rw[QdD]
 rfl
theorem QkO (s:JSt) (x:Qs):s.outl.ins x=(s.ins x).outl:=by
 unfold JSt.ins;rw[QeQ]
 split
 ·exact Qir s x
 ·rfl
theorem QjA (s:JSt) (t:MTo):s.outl.to t=s.to t:=by
 have b:s.outl.f.blocks[t.block.toNat]?=(s.f.blocks[t.block.toNat]?).map MBlock.outl:=QjV _ _;have a:s.outl.f.regs=s.f.regs:=rfl;have c:s.outl.H=s.H:=rfl;unfold JSt.to;rw[b]
 simp only[a,c,Qc2]
 cases s.f.blocks[t.block.toNat]?<;>rfl
theorem Qku (s:JSt) (e:ZC):s.outl.fin e=s.fin e:=by
 have i:s.outl.f.blocks.length=s.f.blocks.length:=QgB _;have j:s.outl.f.regs=s.f.regs:=rfl;have g:s.outl.H=s.H:=rfl;have h:s.outl.f.results=s.f.results:=rfl;have d:∀ a b c,s.outl.want a b c=s.want a b c:=fun _ _ _=>rfl;unfold JSt.fin;rw[i,QjA,QjA,j,g,h,d,Qc2]
theorem Qhp (m:List (MFunc 6)) (f:MFunc 6) (b:MBlock 6):JSt.start (outl m) f.outl b.outl=(JSt.start m f b).outl:=rfl
theorem Qhq {fn:MFunc n}{x:MBlock n}(h:(MBlock.fault funcs f fn b x).1=0):(MBlock.fault funcs f fn.outl b x.outl).1=0:=by
 unfold MBlock.fault at h |-;split at h
 ·cases h
 rename_i l
 split at h
 ·rename_i a;exact absurd h a
 rename_i a
 split at h
 ·cases h
 rename_i m
 have d:¬ (x.outl.regs<fn.outl.regs\/16<x.outl.regs):=l;have g:¬ listC x.outl.regs x.outl.params≠0:=a;have c:¬ (b=0/\(x.outl.regs≠fn.outl.regs\/Qde x.outl.params fn.outl.params=false)):=m;have o:¬ 40<x.outl.code.length:=by show ¬ 40<0;omega
 have j:¬ (firstF (fun i y=>(Qs.form funcs y,(10000*f+100*b+i:Int))) 0 x.outl.code).1≠0:=fun e=>e Z
 have k:¬ x.outl.fin.form fn.outl.blocks.length≠0:=fun e=>e (by
  show ZC.form _ retE=0;simp[ZC.form,retE,MTo.form])
 rw[Xr d,Xr g,Xr c,Xr o,Xr j,Xr k]
theorem Qip {x:MFunc n}(h:(MFunc.fault funcs f x).1=0):(MFunc.fault funcs f x.outl).1=0:=by
 unfold MFunc.fault at h |-;split at h
 ·cases h
 rename_i m
 split at h
 ·rename_i a;exact absurd h a
 rename_i a
 split at h
 ·rename_i a;exact absurd h a
 rename_i l
 split at h
 ·cases h
 rename_i p
 split at h
 ·cases h
 rename_i j
 have c:¬ (x.outl.regs<0\/6<x.outl.regs):=m;have g:¬ listC x.outl.regs x.outl.params≠0:=a;have b:¬ listC x.outl.regs x.outl.results≠0:=l;have e:¬ (x.outl.blocks.length<1\/12<x.outl.blocks.length):=by rw[QgB];exact p
 have d:¬ (f=0/\¬ (x.outl.regs=0/\x.outl.params.length=0/\x.outl.results.all (fun t=>t.kind==1)=true)):=j;rw[Xr c,Xr g,Xr b,Xr e,Xr d]
 rw[QY]
 intro k y i;rw[QjV] at i
 obtain⟨z,o,rfl⟩:=Option.map_eq_some_iff.1 i
 exact Qhq (QR h k z o)
theorem QgJ {m:List (MFunc n)}(h:(modFault m).1=0):(modFault (outl m)).1=0:=by
 unfold modFault at h |-;split at h
 ·cases h
 rename_i c
 rw[Xr (by rw[Qa8];exact c),QY]
 intro k y a;rw[Qeu] at a
 obtain⟨z,b,rfl⟩:=Option.map_eq_some_iff.1 a
 rw[Qa8]
 exact Qip (QR h k z b)
theorem QdJ {m:List (MFunc n)}(h:¬ Qm m):¬ Qm (outl m):=by
 rintro (e | ⟨x,b,e⟩)
 ·rw[Qa8] at e;exact h (.inl e)
 ·obtain⟨z,d,rfl⟩:=List.mem_map.1 b
  refine h (.inr ⟨z,d,?_⟩);rcases e with e | e | e | ⟨y,f,e⟩
  ·rw[QgB] at e;exact .inl e
  ·exact .inr (.inl e)
  ·exact .inr (.inr (.inl e))
  ·obtain⟨q,a,rfl⟩:=List.mem_map.1 f
   refine .inr (.inr (.inr ⟨q,a,?_⟩));rcases e with e | e | e | e | e | e | e | ⟨u,c,e⟩
   ·exact absurd e (by show ¬ 200<0;omega)
   ·exact .inr (.inl e)
   ·exact absurd e (by show ¬ 300<0;omega)
   ·exact absurd e (by show ¬ 300<0;omega)
   ·exact absurd e (by show ¬ 300<0;omega)
   ·exact absurd e (by show ¬ 300<0;omega)
   ·exact absurd e (by show ¬ 300<0;omega)
   ·cases c
abbrev Qax (g:MBlock 6) (p1 p2:Option Addr) (d1 d2:Nat) (e:EP):Array Value:=#[Iv g.regs,.slice p1 g.params.length d1,.slice p2 g.code.length d2,Iv g.fin.op,Iv g.fin.a,Iv g.fin.yes.block,.slice e.pYR g.fin.yes.regs.length e.cYR,.slice e.pYA g.fin.yes.args.length e.cYA,Iv g.fin.no.block,.slice e.pNR g.fin.no.regs.length e.cNR,.slice e.pNA g.fin.no.args.length e.cNA,.slice e.pA g.fin.args.length e.cA]
theorem Ql4 {m:List (MFunc 6)}{fn:MFunc 6}{g:MBlock 6}(a:m[f]?=some fn) (c:fn.blocks[b]?=some g):QgA m (f:Int) (b:Int)=true:=by
 have:=(Zi c).1
 simp[QgA,a,this]
theorem Zu (h:Blk w R #[Iv 0,Iv 0] 32) (c a:Int):Blk ((w.setCell ⟨R,0,none⟩ (Iv c)).setCell ⟨R,1,none⟩ (Iv a)) R #[Iv c,Iv a] 32:=by
 have:=Qh (Qh h 0 (Iv c)) 1 (Iv a)
 simpa using this
theorem vsizeEnd:(prog.info? 84).map (·.size)=some 9:=by kernel_rfl
theorem QgT {m:List (MFunc 6)}{fn:MFunc 6}{g:MBlock 6}{p1 D:Option Addr}{d1 F:Nat}{e:EP}(an:(modFault m).1=0) (G:¬ Qm m) (a3:(QaN 6).In w All (outl m) [.slice p m.length c]) (ab:m[f]?=some fn) (ad:fn.blocks[b]?=some g) (Q:insC.list.In w All g.code [.slice D g.code.length F]) (aj:Qdt w All g.fin e) (ap:-9223372036854775808<=g.fin.a/\g.fin.a<=9223372036854775807) :
 Calls prog 108 #[.agg #[.slice p m.length c],Iv (f:Int),Iv (b:Int),.agg (Qax g p1 D d1 F e)] w fun r w'=>r=.returned (QG (QA (10000*(f:Int)+100*(b:Int)) g.fin (JSt.start m fn g) 0 g.code))/\Below w.heap.size w w':=by
 have bi:=Qa an;have a9:=Qa G;have bf:=Qa a3;have ay:=Qa ab;have a4:=Qa ad;have ak:=Qa Q;have aq:=Qa aj;have a7:=Qa ap;have aa:fn∈m:=Zm ab;have al:g∈fn.blocks:=Zm ad;have ag:Hid (¬ g.great):=fun h=>G (.inr ⟨fn,aa,.inr (.inr (.inr ⟨g,al,h⟩))⟩)
 have bb:Hid (JOk (JSt.start m fn g).outl):=by
  have:=JOk.start (QgJ an) (QdJ G) (f:=fn.outl) (b:=g.outl) (List.mem_map_of_mem aa) (List.mem_map_of_mem al)
  rw[Qhp] at this
  exact this
 have bk:g.code.length<=200:=Xo fun h=>ag.out (.inl h);have bj:f<1000:=by have h1:=(Zi ab).1;have h2:m.length<=20:=Xo fun x=>G (.inl x);omega
 have bm:b<1000:=by have h1:=(Zi ad).1;have h2:fn.blocks.length<=30:=Xo fun x=>G (.inr ⟨fn,aa,.inl x⟩);omega
 have b1:=Zd w (.cells #[.slice p m.length c] 24);have b2:=Zd (w.alloc (.cells #[.slice p m.length c] 24)) (.cells (Qax g p1 D d1 F e) 86);have b3:=Zd ((w.alloc (.cells #[.slice p m.length c] 24)).alloc (.cells (Qax g p1 D d1 F e) 86)) (.cells #[Iv 0,Iv 0] 32)
 have U:Hid (Below w.heap.size w (((w.alloc (.cells #[.slice p m.length c] 24)).alloc (.cells (Qax g p1 D d1 F e) 86)).alloc (.cells #[Iv 0,Iv 0] 32))):=by
  have h:=b2.trans (b3.mono b2.size);exact b1.trans (h.mono b1.size)
 have s1:(w.alloc (.cells #[.slice p m.length c] 24)).heap.size=w.heap.size+1:=World.size_alloc ..;have s2:((w.alloc (.cells #[.slice p m.length c] 24)).alloc (.cells (Qax g p1 D d1 F e) 86)).heap.size=w.heap.size+1+1:=(World.size_alloc ..).trans (by rw[s1])
 have BM:Hid (Blk (((w.alloc (.cells #[.slice p m.length c] 24)).alloc (.cells (Qax g p1 D d1 F e) 86)).alloc (.cells #[Iv 0,Iv 0] 32)) w.heap.size #[.slice p m.length c] 24) :=
  Blk.below (Blk.below (Blk.new w #[.slice p m.length c] 24) b2) b3
 have BX:Hid (Blk (((w.alloc (.cells #[.slice p m.length c] 24)).alloc (.cells (Qax g p1 D d1 F e) 86)).alloc (.cells #[Iv 0,Iv 0] 32)) (w.heap.size+1) (Qax g p1 D d1 F e) 86):=by
  have:=Blk.below (Blk.new (w.alloc (.cells #[.slice p m.length c] 24)) (Qax g p1 D d1 F e) 86) b3
  rw[s1] at this
  exact this
 have BR:Hid (Blk (((w.alloc (.cells #[.slice p m.length c] 24)).alloc (.cells (Qax g p1 D d1 F e) 86)).alloc (.cells #[Iv 0,Iv 0] 32)) (w.heap.size+1+1) #[Iv 0,Iv 0] 32):=by
  have:=Blk.new ((w.alloc (.cells #[.slice p m.length c] 24)).alloc (.cells (Qax g p1 D d1 F e) 86)) #[Iv 0,Iv 0] 32
  rw[s2] at this
  exact this
 clear b1 b2 b3 s1 s2 aa al an G a3 ab ad Q aj ap;go_enter func108,ntmps108
 go_upto_region 1 with fail
 generalize ((w.alloc (.cells #[.slice p m.length c] 24)).alloc (.cells (Qax g p1 D d1 F e) 86)).alloc (.cells #[Iv 0,Iv 0] 32)=o at U BM BX BR |-;obtain⟨X,hX⟩:∃ X,X=w.heap.size:=⟨_,Z⟩
 obtain⟨X2,av⟩:∃ X2,X2=X+1:=⟨_,Z⟩
 obtain⟨R,hR⟩:∃ R,R=X2+1:=⟨_,Z⟩
 have H:Hid (w.heap.size<=R):=by show _<=_;omega
 rw[<-hX] at BM BX BR |-
 rw[<-av] at BX BR |-
 rw[<-hR] at BR |-
 clear hX av hR;have x0:=Qb BM.out 0 _ Z;have CN:=Qa (Qk2 (w:=o) (m:=outl m) (p:=p) (c:=c) (f:Int) (b:Int) (QdJ a9.out) (by rw[Qa8];exact Ya bf.out U.out));rw[Qa8] at CN
 go_wp2_with fail
 refine CN.out.mono ?_;rintro e2 w2 ⟨b2,bh⟩;have be:Hid (o.heap.size<=w2.heap.size):=b2.size;rcases bh with ⟨hf,rfl⟩|⟨-,a2,rfl⟩|⟨-,-,i,j,bn,g',B,O,A,hi,hj,ah,ae,rfl,hS,hA⟩
 ·exact absurd (QgJ bi.out) hf
 ·rw[Ql4 (fn:=fn.outl) (g:=g.outl) (by rw[Qeu,ay.out];rfl) (by rw[QjV,a4.out];rfl)] at a2
  cases a2
 have a8:f=i:=by omega
 have bd:b=j:=by omega
 subst a8 bd;rw[Qeu,ay.out] at ah
 cases ah
 rw[QjV,a4.out] at ae
 cases ae
 have b3:=Zd w2 (.cells #[Iv 0,Iv 0] 32)
 have S3:Hid (SOk (w2.alloc (.cells #[Iv 0,Iv 0] 32)) B o.heap.size ((JSt.start m fn g).upto (g.code.take 0)).outl) :=
  SOk.below ⟨O,A,hS,hA,bb.out⟩ b3
 have B3:Hid (Below o.heap.size o (w2.alloc (.cells #[Iv 0,Iv 0] 32))):=b2.trans (b3.mono b2.size);have F3:Hid (Blk (w2.alloc (.cells #[Iv 0,Iv 0] 32)) w2.heap.size #[Iv 0,Iv 0] 32):=Blk.new _ _ _;clear b2 b3 hS hA CN be hi hj;go_upto_region 2 with fail
 generalize w2.alloc (.cells #[Iv 0,Iv 0] 32)=w3 at S3 B3 F3 |-;generalize w2.heap.size=F9 at F3 |-;have f0:=Qb F3.out 0 _ Z;have y2:w3.cell? ⟨X2,2,none⟩=some (.slice D g.code.length F):=Qk (Qb BX.out 2 _ Z) B3.out;clear x0;go_wp2_with fail
 clear f0 y2;go_loopw [29] (fun i wr=>∃ z:Nat,z<=g.code.length/\i=Iv z/\SOk wr B o.heap.size ((JSt.start m fn g).upto (g.code.take z)).outl/\Below o.heap.size o wr/\∀ j y,j<z->g.code[j]?=some y->((JSt.start m fn g).upto (g.code.take j)).code y=0) (fun i _=>g.code.length - (intOf i).toNat)
 case atStart=>exact⟨0,Xb _,Z,S3.out,B3.out,fun j y hj=>absurd hj (XG _)⟩
 case round =>
  obtain⟨z,hz,rfl,hs,hb,ai⟩:=hrel
  have SR:=Qa hs;have s:=Qa hb;have L:=Qa ai;clear hs hb ai S3 B3 F3;obtain⟨l,a5⟩:∃ l,l=wr:=⟨_,Z⟩
  subst a5;by_cases ba:z<g.code.length
  rotate_left
  ·have a0:¬ (z:Int)<g.code.length:=by omega
   have a1:g.code.take z=g.code:=XO (by omega);rw[a1] at SR
   have RE:Hid (l.rangeAt X2 3 (QbV g.fin e).toList):=fun j v hj=>by
    have:(Qax g p1 D d1 F e)[3+j]?=some v:=by
     rw[<-Array.getElem?_toList,Nat.add_comm]
     exact hj
    exact Qk (Qb BX.out (3+j) v this) s.out
   have ax:Hid (300>=g.fin.yes.regs.length/\300>=g.fin.yes.args.length/\300>=g.fin.no.regs.length/\300>=g.fin.no.args.length):=by
    have h:=ag.out;unfold MBlock.great at h;simp only[not_or,Nat.not_lt] at h
    exact⟨h.2.2.2.1,h.2.2.2.2.1,h.2.2.2.2.2.1,h.2.2.2.2.2.2.1⟩
   have CE:Hid (Calls prog 165 #[Pv B 0,.agg (QbV g.fin e).toList.toArray] l fun r w'=>r=.returned (Iv (((JSt.start m fn g).upto g.code).fin g.fin))/\Below l.heap.size l w'):=by
    have:=SR.out.end_ ((aq.out.below U.out).below s.out) a7.out (by have:=ax.out;omega)
    rw[Qku] at this
    exact this
   have BE:Hid (QA (10000*(f:Int)+100*(b:Int)) g.fin (JSt.start m fn g) 0 g.code=if ((JSt.start m fn g).upto g.code).fin g.fin≠0 then (((JSt.start m fn g).upto g.code).fin g.fin,10000*(f:Int)+100*(b:Int)+91) else (0,0)):=QeV fun j y hj hy=>L.out j y (by omega) hy;clear ax a1;generalize ((JSt.start m fn g).upto g.code).fin g.fin=C at CE BE;go_wp2_with (refine wpList_load_mid Z 84 (.tmp 47) Z X2 3 Z (QbV g.fin e).toList _ RE.out underlying84 Z vsizeEnd ?_)
   refine CE.out.mono ?_;rintro e9 w9 ⟨rfl,b9⟩;have V:Hid (Below o.heap.size o w9):=s.out.trans (b9.mono s.out.size);clear b9 s CE RE SR;by_cases am:C=0
   ·subst am;have E:Hid (QA (10000*(f:Int)+100*(b:Int)) g.fin (JSt.start m fn g) 0 g.code=(0,0)):=by show _=_;rw[BE.out];rfl
    clear BE;have t:Hid (Blk w9 R #[Iv 0,Iv 0] 32):=Blk.below BR.out V.out;have r0:=Qb t.out 0 _ Z;have r1:=Qb t.out 1 _ Z;have z0:=Qj t.out 0;have z1:=Qj t.out 1;have T:Hid (Blk ((w9.setCell ⟨R,0,none⟩ (Iv 0)).setCell ⟨R,1,none⟩ (Iv 0)) R #[Iv 0,Iv 0] 32):=Zu t.out _ _;have BL:Hid (Below w.heap.size w ((w9.setCell ⟨R,0,none⟩ (Iv 0)).setCell ⟨R,1,none⟩ (Iv 0))):=((U.out.trans (V.out.mono U.out.size)).setCell H.out _).setCell H.out _;go_wp2_with fail
    generalize (w9.setCell ⟨R,0,none⟩ (Iv 0)).setCell ⟨R,1,none⟩ (Iv 0)=ar at T BL |-;have e0:=Qb T.out 0 _ Z;have e1:=Qb T.out 1 _ Z;exact Xy (v:=.agg #[Iv 0,Iv 0]) (by simp[results,results108,go_sem,e0,e1]) Z ⟨by rw[E.out],BL.out⟩
   ·have az:(C != 0)=true:=by simpa using am
    have E:Hid (QA (10000*(f:Int)+100*(b:Int)) g.fin (JSt.start m fn g) 0 g.code=(C,10000*(f:Int)+100*(b:Int)+91)):=by
     show _=_;rw[BE.out,Xs am]
    have CA:=Qa (QdP (f:=f) (b:=b) (w:=w9) ⟨by omega,by omega⟩);unfold Rd at CA;clear BE;go_wp2_with fail
    refine CA.out.mono ?_;rintro a6 d ⟨rfl,M⟩;have P:Hid (Below o.heap.size o d):=V.out.trans (M.mono V.out.size);clear M V CA;generalize 10000*(f:Int)+100*(b:Int)+91=S at E |-;have t:Hid (Blk d R #[Iv 0,Iv 0] 32):=Blk.below BR.out P.out;have r0:=Qb t.out 0 _ Z;have r1:=Qb t.out 1 _ Z;have z0:=Qj t.out 0;have z1:=Qj t.out 1;have T:Hid (Blk ((d.setCell ⟨R,0,none⟩ (Iv C)).setCell ⟨R,1,none⟩ (Iv S)) R #[Iv C,Iv S] 32):=Zu t.out _ _;have BL:Hid (Below w.heap.size w ((d.setCell ⟨R,0,none⟩ (Iv C)).setCell ⟨R,1,none⟩ (Iv S))):=((U.out.trans (P.out.mono U.out.size)).setCell H.out _).setCell H.out _;go_wp2_with fail
    generalize (d.setCell ⟨R,0,none⟩ (Iv C)).setCell ⟨R,1,none⟩ (Iv S)=ar at T BL |-;have e0:=Qb T.out 0 _ Z;have e1:=Qb T.out 1 _ Z;exact Xy (v:=.agg #[Iv C,Iv S]) (by simp[results,results108,go_sem,e0,e1]) Z ⟨by rw[E.out],BL.out⟩
  have a0:(z:Int)<g.code.length:=by omega
  have ac:g.code[z]?=some g.code[z]:=Zg ba;generalize g.code[z]=x at ac;have ao:=Qa ac;obtain⟨cg,co,ds,rfl,-,-,q,K⟩:=Yf (Ya (Ya ak.out U.out) s.out) ac
  have af:=QjQ K;obtain⟨xa,W,xb,xd,rfl,J,I,au,-⟩:=Qjr K
  have u0:l.cell? ⟨cg,co+z*8,none⟩=some (Iv x.op):=q 0 (by decide);have u1:l.cell? ⟨cg,co+z*8+1,none⟩=some (Iv x.a):=q 1 (by decide);have u2:l.cell? ⟨cg,co+z*8+2,none⟩=some (Iv x.b):=q 2 (by decide);have u3:l.cell? ⟨cg,co+z*8+3,none⟩=some (Iv x.c):=q 3 (by decide);have u4:l.cell? ⟨cg,co+z*8+4,none⟩=some (Iv x.k):=q 4 (by decide);have u5:l.cell? ⟨cg,co+z*8+5,none⟩=some (Iv x.n):=q 5 (by decide);have u6:l.cell? ⟨cg,co+z*8+6,none⟩=some (.slice xa x.regs.length W):=q 6 (by decide);have u7:l.cell? ⟨cg,co+z*8+7,none⟩=some (.slice xb x.args.length xd):=q 7 (by decide);have b4:=Zd l (.cells #[Iv x.op,Iv x.a,Iv x.b,Iv x.c,Iv x.k,Iv x.n,.slice xa x.regs.length W,.slice xb x.args.length xd] 78);have N:Hid (Blk (l.alloc (.cells #[Iv x.op,Iv x.a,Iv x.b,Iv x.c,Iv x.k,Iv x.n,.slice xa x.regs.length W,.slice xb x.args.length xd] 78)) l.heap.size #[Iv x.op,Iv x.a,Iv x.b,Iv x.c,Iv x.k,Iv x.n,.slice xa x.regs.length W,.slice xb x.args.length xd] 78):=Blk.new _ _ _;have B4:Hid (Below o.heap.size o (l.alloc (.cells #[Iv x.op,Iv x.a,Iv x.b,Iv x.c,Iv x.k,Iv x.n,.slice xa x.regs.length W,.slice xb x.args.length xd] 78))):=s.out.trans (b4.mono s.out.size)
  have CI:Hid (Calls prog 164 #[Pv B 0,Qel x xa xb W xd] (l.alloc (.cells #[Iv x.op,Iv x.a,Iv x.b,Iv x.c,Iv x.k,Iv x.n,.slice xa x.regs.length W,.slice xb x.args.length xd] 78)) fun r w'=>r=.returned (Iv (((JSt.start m fn g).upto (g.code.take z)).code x))/\SOk w' B o.heap.size (((JSt.start m fn g).upto (g.code.take z)).ins x).outl/\Below o.heap.size (l.alloc (.cells #[Iv x.op,Iv x.a,Iv x.b,Iv x.c,Iv x.k,Iv x.n,.slice xa x.regs.length W,.slice xb x.args.length xd] 78)) w'):=by
   have:=(SR.out.below b4).ins B4.out.size (Ya J b4) (Ya I b4) au af
   rw[QeQ,QkO] at this
   exact this
  clear q K J I au ac af b4 s SR;go_upto_region 7 with fail
  generalize l.alloc (.cells #[Iv x.op,Iv x.a,Iv x.b,Iv x.c,Iv x.k,Iv x.n,.slice xa x.regs.length W,.slice xb x.args.length xd] 78)=w4 at N B4 CI |-;generalize l.heap.size=bl at N |-;clear u0 u1 u2 u3 u4 u5 u6 u7;have t0:=Qb N.out 0 _ Z;have t1:=Qb N.out 1 _ Z;have t2:=Qb N.out 2 _ Z;have t3:=Qb N.out 3 _ Z;have t4:=Qb N.out 4 _ Z;have t5:=Qb N.out 5 _ Z;have t6:=Qb N.out 6 _ Z;have t7:=Qb N.out 7 _ Z;go_wp2_with fail
  refine CI.out.mono ?_;rintro e9 w9 ⟨rfl,aw,b9⟩;have S9:=Qa aw;have V:Hid (Below o.heap.size o w9):=B4.out.trans b9;clear t0 t1 t2 t3 t4 t5 t6 t7 CI N B4 aw b9;by_cases u:((JSt.start m fn g).upto (g.code.take z)).code x=0
  ·have E:Hid (((JSt.start m fn g).upto (g.code.take z)).ins x=(JSt.start m fn g).upto (g.code.take (z+1))):=by
    show _=_;rw[XV,ao.out]
    show _=(JSt.start m fn g).upto (g.code.take z++[x]);rw[JSt.upto_snoc]
    unfold JSt.ins;rw[Xs u]
   have bc:=Qa u;rw[u]
   clear u;go_wp2_with fail
   go_roundw
   case rel =>
    refine⟨z+1,by omega,by go_num,by rw[<-E.out];exact S9.out,V.out,fun j y hj hy=>?_⟩
    by_cases bg:j<z
    ·exact L.out j y bg hy
    ·have:j=z:=by omega
     subst this;rw[ao.out] at hy
     cases hy
     exact bc.out
   case measure=>simp[intOf];omega
  ·have E:Hid (QA (10000*(f:Int)+100*(b:Int)) g.fin (JSt.start m fn g) 0 g.code=(((JSt.start m fn g).upto (g.code.take z)).code x,10000*(f:Int)+100*(b:Int)+(z:Int))):=QeA ao.out L.out u;clear S9;generalize ((JSt.start m fn g).upto (g.code.take z)).code x=C at E u |-;have az:(C != 0)=true:=by simpa using u
   have CA:=Qa (QdV (f:=f) (b:=b) (i:=z) (w:=w9) ⟨by omega,by omega,by omega⟩);unfold Rd at CA;go_wp2_with fail
   refine CA.out.mono ?_;rintro a6 d ⟨rfl,M⟩;have P:Hid (Below o.heap.size o d):=V.out.trans (M.mono V.out.size);clear M V CA;generalize 10000*(f:Int)+100*(b:Int)+(z:Int)=S at E |-;have t:Hid (Blk d R #[Iv 0,Iv 0] 32):=Blk.below BR.out P.out;have r0:=Qb t.out 0 _ Z;have r1:=Qb t.out 1 _ Z;have z0:=Qj t.out 0;have z1:=Qj t.out 1;have T:Hid (Blk ((d.setCell ⟨R,0,none⟩ (Iv C)).setCell ⟨R,1,none⟩ (Iv S)) R #[Iv C,Iv S] 32):=Zu t.out _ _;have BL:Hid (Below w.heap.size w ((d.setCell ⟨R,0,none⟩ (Iv C)).setCell ⟨R,1,none⟩ (Iv S))):=((U.out.trans (P.out.mono U.out.size)).setCell H.out _).setCell H.out _;go_wp2_with fail
   generalize (d.setCell ⟨R,0,none⟩ (Iv C)).setCell ⟨R,1,none⟩ (Iv S)=ar at T BL |-;have e0:=Qb T.out 0 _ Z;have e1:=Qb T.out 1 _ Z;exact Xy (v:=.agg #[Iv C,Iv S]) (by simp[results,results108,go_sem,e0,e1]) Z ⟨by rw[E.out],BL.out⟩
structure Qbu {α:Type}(A:Lay α) (e:TypeId) (w:World) (a0 lo:Nat) (v:Value) (l:List α) (xs:List Value):Prop where
 own:w.ownsRow lo e A.size v l.length xs
 kids:∀ (i:Nat) (x:α),l[i]?=some x->A.In w (fun g=>(g<a0\/lo<=g)/\v.ownBlock≠some g) x ((xs.drop (i*A.size)).take A.size)
section
variable {α:Type}{A:Lay α}{e:TypeId}{w w':World}{a0 lo:Nat}{v:Value}{l:List α}{xs:List Value}
theorem Qbu.nil (A:Lay α) (e:TypeId) (w:World) (a0 lo:Nat):Qbu A e w a0 lo (Nv) [] []:=⟨⟨by simp,Or.inl ⟨Z,Z⟩⟩,fun i x h=>by simp at h⟩
theorem Qbu.lo_le (h:Qbu A e w a0 lo v l xs)(b:v.ownBlock=some g):lo<=g/\g<w.heap.size:=by
 obtain⟨⟨j,c⟩,k⟩:=h
 rcases c with ⟨rfl,m⟩|⟨n,d,i,rfl,a,f,r⟩
 ·simp[Value.ownBlock] at b
 ·simp[Value.ownBlock] at b;subst b;exact⟨a,XC f⟩
theorem Qbu.form (h:Qbu A e w a0 lo v l xs):∃ a c,v=.slice a l.length c:=by
 obtain⟨⟨j,b⟩,k⟩:=h
 rcases b with ⟨rfl,f⟩|⟨g,d,i,rfl,r⟩
 ·exact⟨none,0,by rw[f]⟩
 ·exact⟨_,_,Z⟩
theorem Qbu.keep (h:Qbu A e w a0 lo v l xs) (d:∀ k,k<w.heap.size->(k<a0\/lo<=k)->w'.heap[k]?=w.heap[k]?):Qbu A e w' a0 lo v l xs:=by
 obtain⟨⟨m,o⟩,n⟩:=h
 refine⟨⟨m,?_⟩,fun i x j=>A.keep (fun k s q=>d k q s.1) (fun _ h _=>h) (n i x j)⟩
 rcases o with p | ⟨g,a,b,e,f,c,r⟩
 ·exact Or.inl p
 ·exact Or.inr ⟨g,a,b,e,f,(d g (XC c) (.inr f)).trans c,r⟩
theorem Qbu.below (h:Qbu A e w a0 lo v l xs) (b:Below w.heap.size w w'):Qbu A e w' a0 lo v l xs:=h.keep fun k a _=>b.block k a
theorem Qbu.setOther (h:Qbu A e w a0 lo v l xs){p:Addr}(c:a0<=p.block/\p.block<lo) (y:Value):Qbu A e (w.setCell p y) a0 lo v l xs :=
 h.keep fun k a b=>Xd _ _ _ _ (by omega)
theorem Qbu.lay (h:Qbu A e w a0 lo v l xs):A.list.In w (fun g=>g<a0\/lo<=g) l [v]:=by
 obtain⟨⟨z,q⟩,r⟩:=h
 rcases q with ⟨rfl,t⟩|⟨g,b,c,rfl,y,m,p,B,C,o⟩
 ·have:l=[]:=Xf.1 t
  subst this;exact Yg A _ _ _ _
 ·refine⟨some ⟨g,0,none⟩,b,Z,fun i x f=>⟨g,0,_,Z,.inr y,XC m,fun j n=>?_,Yc (r i x f) (fun k u _=>u.1)⟩⟩
  have s:i<l.length:=(Zi f).1
  have d:i*A.size+j<l.length*A.size:=by
   have:(i+1)*A.size<=l.length*A.size:=Xp _ s
   rw[Nat.add_mul] at this
   omega
  rw[XR,Xs n,List.getElem?_drop,<-o,XR,Xs d,XK]
  have a:i*A.size+j<c.size:=by
   have:l.length*A.size<=b*A.size:=Xp _ p
   omega
  rw[Array.getElem?_toList]
  exact(Qb m _ c[i*A.size+j] (Xj a)).trans (Xj a).symm
theorem Qbu.push (h:Qbu A e w a0 lo v l xs) (C:a0<=w.heap.size){x:α}(n:A.In w (fun g=>(g<a0\/lo<=g)/\v.ownBlock≠some g) x ds)
  (B:w.grownBy w' v.ownBlock) (f:v.ownBlock=some g\/g=w.heap.size)
 (z:w'.ownsRow lo e A.size (.slice (some ⟨g,0,none⟩) (l.length+1) cap) (l.length+1) (xs++ds)) :
 Qbu A e w' a0 lo (.slice (some ⟨g,0,none⟩) (l.length+1) cap) (l++[x]) (xs++ds):=by
 obtain⟨r,s⟩:=h
 have m:=r.1;have t:=A.len n
 have a:∀ {y:α} {es:List Value},A.In w (fun g=>(g<a0\/lo<=g)/\v.ownBlock≠some g) y es->A.In w' (fun j=>(j<a0\/lo<=j)/\(Value.slice (some ⟨g,0,none⟩) (l.length+1) cap).ownBlock≠some j) y es:=fun b=>by
  refine A.keep (fun k c q=>?_) (fun k c q=>⟨c.1,?_⟩) b
  ·exact B.block k q (fun e=>c.2 e.symm)
  ·simp only[Value.ownBlock,ne_eq,Option.some.injEq]
   intro e;subst e;rcases f with p | p
   ·exact c.2 p
   ·omega
 refine⟨by rw[List.length_append];exact z,fun i y b=>?_⟩
 rw[List.getElem?_append] at b
 split at b
 ·rename_i o
  have u:(i+1)*A.size<=l.length*A.size:=Xp _ o;rw[Nat.add_mul] at u
  have:=s i y b
  rw[List.drop_append_of_le_length (by omega),List.take_append_of_le_length (by simp;omega)]
  exact a this
 ·rename_i o
  have d:i=l.length:=by
   have:=(Zi b).1
   simp at this
   omega
  subst d;simp at b
  subst b;rw[List.drop_append,List.drop_of_length_le (by omega),<-m,Nat.sub_self,List.drop_zero,List.nil_append,XO (by omega)]
  exact a n
end
theorem QnK {b:List Value}(h:b.all (·.oneCell')=true):∀ u∈b,u.oneCell'=true:=Xe.1 h
theorem ret_end :endL.In w O retE [Iv 3,Iv 0,Iv 0,Nv,Nv,Iv 0,Nv,Nv,Nv]:=by
 have a:intsL.In w O ([]:List Int) [Nv]:=Yg _ _ _ _ _;have b:toL.In w O (⟨0,[],[]⟩:MTo) [Iv 0,Nv,Nv]:=⟨[_],_,Z,⟨Z,by decide⟩,[_],_,Z,a,a⟩;exact⟨[_],_,Z,⟨Z,by simp[retE]⟩,[_],_,Z,⟨Z,by simp[retE]⟩,[_,_,_],_,Z,b,[_,_,_],_,Z,b,a⟩
theorem QiQ {g:MBlock 6}{e:Option Addr}{f:Nat}(h:(Qo 6).In w O g.params [.slice e g.params.length f]) (i:-9223372036854775808<=g.regs/\g.regs<=9223372036854775807):(Zp 6).In w O g.outl [Iv g.regs,.slice e g.params.length f,Nv,Iv 3,Iv 0,Iv 0,Nv,Nv,Iv 0,Nv,Nv,Nv] :=
 Qgz (x:=g.outl) (a:=e) (c:=f) (b:=none) (d:=0) h (Yg _ _ _ _ _) ret_end i
theorem QhY {m:List (MBlock 6)}(h:(Zp 6).list.In w Q m [.slice p n c]){g:MBlock 6}(b:m[k]?=some g):-9223372036854775808<=g.regs/\g.regs<=9223372036854775807:=by
 obtain⟨t,i,y,u,r,j,q,d⟩:=Yf h b
 obtain⟨x,e,z,v,s,rfl,f,l,o,a⟩:=Qce d
 exact a
theorem QgM {α β:Type}{f:α->β}{l:List α}{x:α}(h:l[k]?=some x):(l.take (k+1)).map f=(l.take k).map f++[f x]:=by
 rw[XV,h];simp
theorem Qi0 {m:List (MFunc 6)}(hm:(QaN 6).In w All m [.slice p m.length c]) (a0:Qbh m) :
 Calls prog 107 #[.agg #[.slice p m.length c]] w fun e w'=>∃ a c',e=.returned (.agg #[.slice a m.length c'])/\(QaN 6).In w' All (outl m) [.slice a m.length c']/\Below w.heap.size w w':=by
 have HM:=Qa hm;have ci:=Qa a0;have cm:m.length<=100000:=a0.1;obtain⟨iB,ch,bm,bo,be⟩:=pInfoB
 obtain⟨iF,ck,bb,b9,bd⟩:=pInfoF
 have b1:=Zd w (.cells #[.slice p m.length c] 24);have b2:=Zd (w.alloc (.cells #[.slice p m.length c] 24)) (.cells #[Nv] 24);have b3:=Zd ((w.alloc (.cells #[.slice p m.length c] 24)).alloc (.cells #[Nv] 24)) (.cells #[Nv] 24)
 have B0:Hid (Below w.heap.size w (((w.alloc (.cells #[.slice p m.length c] 24)).alloc (.cells #[Nv] 24)).alloc (.cells #[Nv] 24))):=by
  have h:=b2.trans (b3.mono b2.size);exact b1.trans (h.mono b1.size)
 have s1:(w.alloc (.cells #[.slice p m.length c] 24)).heap.size=w.heap.size+1:=World.size_alloc ..;have s2:((w.alloc (.cells #[.slice p m.length c] 24)).alloc (.cells #[Nv] 24)).heap.size=w.heap.size+1+1:=(World.size_alloc ..).trans (by rw[s1]);have s3:(((w.alloc (.cells #[.slice p m.length c] 24)).alloc (.cells #[Nv] 24)).alloc (.cells #[Nv] 24)).heap.size=w.heap.size+1+1+1:=(World.size_alloc ..).trans (by rw[s2])
 have BM:Hid (Blk (((w.alloc (.cells #[.slice p m.length c] 24)).alloc (.cells #[Nv] 24)).alloc (.cells #[Nv] 24)) w.heap.size #[.slice p m.length c] 24) :=
  Blk.below (Blk.below (Blk.new w #[.slice p m.length c] 24) b2) b3
 have BR:Hid (Blk (((w.alloc (.cells #[.slice p m.length c] 24)).alloc (.cells #[Nv] 24)).alloc (.cells #[Nv] 24)) (w.heap.size+1) #[Nv] 24):=by
  have:=Blk.below (Blk.new (w.alloc (.cells #[.slice p m.length c] 24)) #[Nv] 24) b3
  rw[s1] at this
  exact this
 have BO:Hid (Blk (((w.alloc (.cells #[.slice p m.length c] 24)).alloc (.cells #[Nv] 24)).alloc (.cells #[Nv] 24)) (w.heap.size+1+1) #[Nv] 24):=by
  have:=Blk.new ((w.alloc (.cells #[.slice p m.length c] 24)).alloc (.cells #[Nv] 24)) #[Nv] 24
  rw[s2] at this
  exact this
 have au:=Qa s3;clear b1 b2 b3 s1 s2 s3 hm a0;go_enter func107,ntmps107
 go_upto_region 2 with fail
 generalize ((w.alloc (.cells #[.slice p m.length c] 24)).alloc (.cells #[Nv] 24)).alloc (.cells #[Nv] 24)=D at B0 BM BR BO au |-;obtain⟨X,hX⟩:∃ X,X=w.heap.size:=⟨_,Z⟩
 obtain⟨R,hR⟩:∃ R,R=X+1:=⟨_,Z⟩
 obtain⟨t,bt⟩:∃ t,t=R+1:=⟨_,Z⟩
 have Q:Hid (w.heap.size<=R/\R<t/\t<D.heap.size):=by have:=au.out;exact⟨by omega,by omega,by omega⟩
 rw[<-hX] at BM BR BO |-
 rw[<-hR] at BR BO |-
 rw[<-bt] at BO |-
 clear hX hR bt au;have x0:=Qb BM.out 0 _ Z;go_wp2_with fail
 clear x0;go_loopw [13] (fun i wr=>∃ (k:Nat) (v:Value) (z:List Value),k<=m.length/\i=Iv k/\Blk wr t #[v] 24/\Qbu (ZS 6) 89 wr w.heap.size D.heap.size v ((m.take k).map MFunc.outl) z/\Chg t D wr) (fun i _=>m.length - (intOf i).toNat)
 case atStart=>exact⟨0,_,[],Xb _,Z,BO.out,Qbu.nil _ _ _ _ _,Chg.refl _ _⟩
 case round =>
  obtain⟨k,vF,cF,hk,rfl,a6,r,ax⟩:=hrel
  obtain⟨l,cj⟩:∃ l,l=wr:=⟨_,Z⟩
  subst cj;have aw:=Qa a6;have ak:=Qa ax;have L:=Qa r;have I:Hid (Below w.heap.size w l):=Chg.last B0.out ax (by have:=Q.out;omega) B0.out.size;obtain⟨o,d,bg⟩:=r.form
  have af:((m.take k).map MFunc.outl).length=k:=by simp;omega
  rw[af] at bg
  subst bg;clear a6 r ax BO;by_cases bu:k<m.length
  rotate_left
  ·have a8:¬ (k:Int)<m.length:=by omega
   have bw:k=m.length:=by omega
   have y0:=Qb aw.out 0 _ Z;have a3:Hid (Blk l R #[Nv] 24):=BR.out.chg ak.out (by have:=Q.out;omega);have r0:=Qb a3.out 0 _ Z;have z0:=Qj a3.out 0
   have RB:Hid (Blk (l.setCell ⟨R,0,none⟩ (.slice o k d)) R #[.slice o k d] 24):=by
    have h9:Blk (l.setCell ⟨R,0,none⟩ (.slice o k d)) R #[.slice o k d] 24:=by
     have:=Qh a3.out 0 (.slice o k d)
     simpa using this
    exact h9
   have BL:Hid (Below w.heap.size w (l.setCell ⟨R,0,none⟩ (.slice o k d))):=I.out.setCell Q.out.1 _
   have LY:Hid ((QaN 6).In (l.setCell ⟨R,0,none⟩ (.slice o k d)) All (outl m) [.slice o k d]):=by
    have h:=(L.out.setOther (p:=⟨R,0,none⟩) (by have:=Q.out;exact⟨this.1,by show R<_;omega⟩) (.slice o k d)).lay;rw[XO (by omega)] at h
    exact Yc h (fun _ _ _=>trivial)
   have br:=Qa bw;clear bw af;go_wp2_with fail
   generalize l.setCell ⟨R,0,none⟩ (.slice o k d)=cl at RB BL LY |-;have e0:=Qb RB.out 0 _ Z;exact Xy (v:=.agg #[.slice o k d]) (by simp[results,results107,go_sem,e0]) Z ⟨o,d,by rw[br.out],by rw[<-br.out];exact LY.out,BL.out⟩
  have a8:(k:Int)<m.length:=by omega
  have ad:m[k]?=some m[k]:=Zg bu;generalize m[k]=f at ad;have cc:=Qa ad;obtain⟨mg,mo,ds,rfl,-,-,ac,bf⟩:=Yf HM.out ad
  obtain⟨C,B,A,E,S,U,rfl,ao,ar,bs,bj⟩:=Qaq bf
  have v0:l.cell? ⟨mg,mo+k*4,none⟩=some (Iv f.regs):=Qk (show w.cell? ⟨mg,mo+k*4,none⟩=_ from ac 0 (by decide)) I.out;have v1:l.cell? ⟨mg,mo+k*4+1,none⟩=some (.slice C f.params.length B):=Qk (show w.cell? ⟨mg,mo+k*4+1,none⟩=_ from ac 1 (by decide)) I.out;have v2:l.cell? ⟨mg,mo+k*4+2,none⟩=some (.slice A f.results.length E):=Qk (show w.cell? ⟨mg,mo+k*4+2,none⟩=_ from ac 2 (by decide)) I.out;have v3:l.cell? ⟨mg,mo+k*4+3,none⟩=some (.slice S f.blocks.length U):=Qk (show w.cell? ⟨mg,mo+k*4+3,none⟩=_ from ac 3 (by decide)) I.out;have bl:Hid ((Qo 6).In w (fun g=>g<w.heap.size) f.params [.slice C f.params.length B]):=Yc ao (fun k _ M=>M);have b4:Hid ((Qo 6).In w (fun g=>g<w.heap.size) f.results [.slice A f.results.length E]):=Yc ar (fun k _ M=>M);have a7:Hid ((Zp 6).list.In w (fun g=>g<w.heap.size) f.blocks [.slice S f.blocks.length U]):=Yc bs (fun k _ M=>M);have ce:=Qa bj;have cn:f.blocks.length<=100000:=(ci.out.2 f (Zm ad)).1;have b5:=Zd l (.cells #[Iv f.regs,.slice C f.params.length B,.slice A f.results.length E,.slice S f.blocks.length U] 89);have BF:Hid (Blk (l.alloc (.cells #[Iv f.regs,.slice C f.params.length B,.slice A f.results.length E,.slice S f.blocks.length U] 89)) l.heap.size #[Iv f.regs,.slice C f.params.length B,.slice A f.results.length E,.slice S f.blocks.length U] 89):=Blk.new _ _ _;have a5:Hid (Blk (l.alloc (.cells #[Iv f.regs,.slice C f.params.length B,.slice A f.results.length E,.slice S f.blocks.length U] 89)) t #[.slice o k d] 24):=aw.out.below b5;have b0:Hid (Qbu (ZS 6) 89 (l.alloc (.cells #[Iv f.regs,.slice C f.params.length B,.slice A f.results.length E,.slice S f.blocks.length U] 89)) w.heap.size D.heap.size (.slice o k d) ((m.take k).map MFunc.outl) cF):=L.out.below b5;have a4:Hid (Chg t D (l.alloc (.cells #[Iv f.regs,.slice C f.params.length B,.slice A f.results.length E,.slice S f.blocks.length U] 89))):=ak.out.allocP _;have G:Hid (Below w.heap.size w (l.alloc (.cells #[Iv f.regs,.slice C f.params.length B,.slice A f.results.length E,.slice S f.blocks.length U] 89))):=I.out.trans (b5.mono I.out.size);have bh:Hid (∀ g,(Value.slice o k d).ownBlock=some g->D.heap.size<=g/\g<l.heap.size):=fun g hg=>L.out.lo_le hg;have S5:Hid (l.heap.size<(l.alloc (.cells #[Iv f.regs,.slice C f.params.length B,.slice A f.results.length E,.slice S f.blocks.length U] 89)).heap.size):=BF.out.lt;have S1:Hid (D.heap.size<=l.heap.size):=ak.out.size;clear ac bf ao ar bs bj b5 aw L ak I ad;go_upto_region 5 with fail
  generalize l.alloc (.cells #[Iv f.regs,.slice C f.params.length B,.slice A f.results.length E,.slice S f.blocks.length U] 89)=K at BF a5 b0 a4 G S5 |-;generalize l.heap.size=XF at BF S5 bh S1 |-;clear v0 v1 v2 v3;have t3:=Qb BF.out 3 _ Z;go_wp2_with fail
  clear t3;go_loopw [6,20] (fun v u wq=>∃ (q:Nat) (z:List Value),q<=f.blocks.length/\u=Iv q/\Qbu (Zp 6) 86 wq w.heap.size K.heap.size v ((f.blocks.take q).map MBlock.outl) z/\Below K.heap.size K wq) (fun _ u _=>f.blocks.length - (intOf u).toNat)
  case atStart=>exact⟨0,[],Xb _,Z,Qbu.nil _ _ _ _ _,Zr⟩
  case round =>
   obtain⟨q,cB,hq,rfl,r,bk⟩:=hrel
   obtain⟨wq,cf⟩:∃ wq,wq=wr:=⟨_,Z⟩
   subst cf;have ai:=Qa r;have BQ:=Qa bk;obtain⟨W,T,bx⟩:=r.form
   have ah:((f.blocks.take q).map MBlock.outl).length=q:=by simp;omega
   rw[ah] at bx
   subst bx;clear r bk;by_cases bz:q<f.blocks.length
   rotate_left
   ·have aq:¬ (q:Int)<f.blocks.length:=by omega
    have cd:q=f.blocks.length:=by omega
    subst cd;have an:Hid (Blk wq t #[.slice o k d] 24):=a5.out.below BQ.out;have aj:Hid (Blk wq XF #[Iv f.regs,.slice C f.params.length B,.slice A f.results.length E,.slice S f.blocks.length U] 89):=BF.out.below BQ.out;have a2:Hid (Qbu (ZS 6) 89 wq w.heap.size D.heap.size (.slice o k d) ((m.take k).map MFunc.outl) cF):=b0.out.below BQ.out;have ay:Hid (Chg t D wq):=a4.out.trans (Chg.below BQ.out);have H:Hid (Below w.heap.size w wq):=G.out.trans (BQ.out.mono G.out.size)
    have FN:Hid ((ZS 6).In wq (fun g=>(g<w.heap.size\/D.heap.size<=g)/\(Value.slice o k d).ownBlock≠some g) f.outl [Iv f.regs,.slice C f.params.length B,.slice A f.results.length E,.slice W f.blocks.length T]):=by
     have o1:=bh.out;have o2:=S5.out;have o3:=Q.out;have o4:=S1.out;have a9:f.outl.blocks.length=f.blocks.length:=QgB f;have hb:=ai.out.lay;rw[XO Ze] at hb
     have cb:(Zp 6).list.In wq (fun g=>(g<w.heap.size\/D.heap.size<=g)/\(Value.slice o k d).ownBlock≠some g) f.outl.blocks [.slice W f.outl.blocks.length T]:=by
      rw[a9]
      exact Yc hb (fun j hj M=>⟨by rcases hj with hj | hj;exact .inl hj;exact .inr (by omega),fun e=>by have:=o1 j e;rcases hj with hj | hj<;>omega⟩)
     have:=QiN (x:=f.outl) (Yc (Ya bl.out H.out) (fun j hj M=>⟨.inl hj,fun e=>by have:=o1 j e;omega⟩)) (Yc (Ya b4.out H.out) (fun j hj M=>⟨.inl hj,fun e=>by have:=o1 j e;omega⟩)) cb ce.out
     rw[a9] at this
     exact this
    have F:Hid (wq.ownsRow D.heap.size 89 4 (.slice o k d) k cF):=by
     have:=a2.out.own
     rw[af] at this
     exact this
    have PU:Hid (∀ g n y,y.ownsRow D.heap.size 89 4 (.slice (some ⟨g,0,none⟩) (k+1) n) (k+1) (cF++[Iv f.regs,.slice C f.params.length B,.slice A f.results.length E,.slice W f.blocks.length T])->(wq.alloc (.cells #[Iv f.regs,.slice C f.params.length B,.slice A f.results.length E,.slice W f.blocks.length T] 89)).grownBy y (Value.slice o k d).ownBlock->((Value.slice o k d).ownBlock=some g\/g=wq.heap.size+1) ->
     Qbu (ZS 6) 89 (y.setCell ⟨t,0,none⟩ (.slice (some ⟨g,0,none⟩) (k+1) n)) w.heap.size D.heap.size (.slice (some ⟨g,0,none⟩) (k+1) n) ((m.take (k+1)).map MFunc.outl) (cF++[Iv f.regs,.slice C f.params.length B,.slice A f.results.length E,.slice W f.blocks.length T])/\Blk y t #[.slice o k d] 24/\Chg t D (y.setCell ⟨t,0,none⟩ (.slice (some ⟨g,0,none⟩) (k+1) n))/\Blk (y.setCell ⟨t,0,none⟩ (.slice (some ⟨g,0,none⟩) (k+1) n)) t #[.slice (some ⟨g,0,none⟩) (k+1) n] 24):=by
     intro g n y h1 h2 h3;have b6:Below wq.heap.size wq (wq.alloc (.cells #[Iv f.regs,.slice C f.params.length B,.slice A f.results.length E,.slice W f.blocks.length T] 89)):=Zd _ _;have A5:=a2.out.below b6;have T5:=Ya FN.out b6;have o3:=Q.out;have A9:=Qbu.push A5 (by have:=(H.out.trans (b6.mono H.out.size)).size;exact this) T5 h2 (by simpa using h3) (by rw[af];exact h1);rw[af,<-QgM cc.out] at A9
     have C9:Chg t D y:=Chg.grownP (ay.out.trans (Chg.below b6)) h2 (fun k hk=>(A5.lo_le hk).1);have K9:Blk y t #[.slice o k d] 24:=((h2.block t (Zl an.out.lt b6.size) (fun e=>by have:=(A5.lo_le e.symm).1;omega)).trans (an.out.below b6));refine⟨A9.setOther ⟨by show w.heap.size<=t;omega,by show t<_;omega⟩ _,K9,C9.trans (Chg.set _ _ _ K9.lt),?_⟩
     have:=Qh K9 0 (.slice (some ⟨g,0,none⟩) (k+1) n)
     simpa using this
    have cg:D.heap.size<=wq.heap.size:=ay.out.size;have y0:=Qb an.out 0 _ Z;have f0:=Qb aj.out 0 _ Z;have f1:=Qb aj.out 1 _ Z;have f2:=Qb aj.out 2 _ Z;clear an aj a2 ay H FN ai BQ;generalize f.params.length=lp at PU f1 |-;generalize f.results.length=lr at PU f2 |-;generalize f.blocks.length=lb at PU aq f0 f1 f2 |-;generalize f.regs=rr at PU f0 |-;go_wp2_with (at_builtin;refine wpList_append_lies _ Z (.tmp 35) (.tmp 44) 22 Z D.heap.size 89 iF (.agg #[Iv 0,Nv,Nv,Nv]) 4 80 pUnderF ck bb b9 bd Z (by decide) _ _ _ Z (F.out.alloc _) ⟨wq.heap.size,0,none⟩ 1 1 [Iv rr,.slice C lp B,.slice A lr E,.slice W lb T] Z Z (QjX _ [_,_,_,_] _) (QnK Z) (by decide) (by unfold maxLen;omega) (by omega) (by simp;omega) (wq.heap.size+1) (by simp) ?_)
    intro g2 aa y h1 s ae ab;obtain⟨q1,q2,q3,q4⟩:=PU.out g2 aa y h1 s ae
    have A9:=Qa q1;have K9:=Qa q2;have C9:=Qa q3;have N9:=Qa q4;have y9:=Qb q2 0 _ Z;have z9:=Qj q2 0;clear h1 s ae ab F PU q1 q2 q3 q4 y0 f0 f1 f2;go_wp2
    go_roundw
    case rel=>exact⟨k+1,_,_,bu,by go_num,N9.out,A9.out,C9.out⟩
    case measure=>simp[intOf];omega
   have aq:(q:Int)<f.blocks.length:=by omega
   have ag:f.blocks[q]?=some f.blocks[q]:=Zg bz;generalize f.blocks[q]=g at ag;have ca:=Qa ag;have bi:=Qa (QhY a7.out ag);obtain⟨eg,eo,a1,V,es,rfl,N,bv,bn,ap⟩:=Qbp a7.out ag
   have bq:=Qa bn;have H:Hid (Below w.heap.size w wq):=G.out.trans (BQ.out.mono G.out.size);have av:Hid (wq.rangeAt eg (eo+q*12) (Value.int .i64 g.regs::Value.slice a1 g.params.length V::es)):=Qad N H.out;generalize al:(Value.int .i64 g.regs::Value.slice a1 g.params.length V::es)=z at av;have M:z.length=12:=by rw[<-al];simp[bv]
   have TS:Hid ((prog.info? 86).map (·.size)=some z.length):=by show _=_;rw[M];exact pSizeB
   have TH:Hid ((wq.alloc (.cells #[Iv 0,Nv,Nv,Iv 0,Iv 0,Iv 0,Nv,Nv,Iv 0,Nv,Nv,Nv] 86)).there wq.heap.size 0 z.toArray.size):=by
    intro j hj;rw[List.size_toArray,M] at hj
    rw[XK]
    have hB:=Qe wq #[Iv 0,Nv,Nv,Iv 0,Iv 0,Iv 0,Nv,Nv,Iv 0,Nv,Nv,Nv] 86;refine⟨?_,Qj hB j⟩
    rw[Qb hB j ((#[Iv 0,Nv,Nv,Iv 0,Iv 0,Iv 0,Nv,Nv,Iv 0,Nv,Nv,Nv]:Array Value)[j]'hj) (by simp)];rfl
   have bp:Hid ((prog.info? 86).map (·.size)=some z.toArray.size):=by show _=_;rw[List.size_toArray];exact TS.out
   have TO:Hid (z.toArray.all (·.oneCell')=true):=by
    refine all_oneCell_toArray fun v hv=>?_;rw[<-al] at hv
    rcases List.mem_cons.1 hv with rfl | hv
    ·rfl
    rcases List.mem_cons.1 hv with rfl | hv
    ·rfl
    exact ap v hv
   have B6:Hid (Blk ((wq.alloc (.cells #[Iv 0,Nv,Nv,Iv 0,Iv 0,Iv 0,Nv,Nv,Iv 0,Nv,Nv,Nv] 86)).setCells wq.heap.size 0 z.toArray.toList) wq.heap.size (Value.int .i64 g.regs::Value.slice a1 g.params.length V::es).toArray 86):=by
    have h0:Blk (wq.alloc (.cells #[Iv 0,Nv,Nv,Iv 0,Iv 0,Iv 0,Nv,Nv,Iv 0,Nv,Nv,Nv] 86)) wq.heap.size ([]++(#[Iv 0,Nv,Nv,Iv 0,Iv 0,Iv 0,Nv,Nv,Iv 0,Nv,Nv,Nv]:Array Value).toList).toArray 86:=Qe wq _ _;rw[al]
    exact Blk.sets z [] (#[Iv 0,Nv,Nv,Iv 0,Iv 0,Iv 0,Nv,Nv,Iv 0,Nv,Nv,Nv]:Array Value).toList _ (by rw[M];rfl) h0
   have b6:Hid (Below wq.heap.size wq ((wq.alloc (.cells #[Iv 0,Nv,Nv,Iv 0,Iv 0,Iv 0,Nv,Nv,Iv 0,Nv,Nv,Nv] 86)).setCells wq.heap.size 0 z.toArray.toList)):=by
    have:=Qz.setCells (O:=fun k=>k=wq.heap.size) (O':=fun k=>k=wq.heap.size) (b:=wq.heap.size) Z z.toArray.toList 0 _ (Qz.refl _ (wq.alloc (.cells #[Iv 0,Nv,Nv,Iv 0,Iv 0,Iv 0,Nv,Nv,Iv 0,Nv,Nv,Nv] 86)))
    exact(Zd wq _).trans (this.below (by simp) (fun k hk=>by omega))
   clear M al N bv bn ap ag;go_upto_region 9 with (first | (refine wpList_load_mid Z 86 (.tmp 22) Z eg (eo+q*12) Z z _ av.out underlying86 Z TS.out ?_) | (refine wpList_store_mid Z 86 (.tmp 8) (.tmp 23) Z wq.heap.size 0 z.toArray Z Z TH.out bp.out TO.out ?_))
   have B7:Hid (Blk ((wq.alloc (.cells #[Iv 0,Nv,Nv,Iv 0,Iv 0,Iv 0,Nv,Nv,Iv 0,Nv,Nv,Nv] 86)).setCells wq.heap.size 0 z) wq.heap.size (Value.int .i64 g.regs::Value.slice a1 g.params.length V::es).toArray 86):=B6.out;have b7:Hid (Below wq.heap.size wq ((wq.alloc (.cells #[Iv 0,Nv,Nv,Iv 0,Iv 0,Iv 0,Nv,Nv,Iv 0,Nv,Nv,Nv] 86)).setCells wq.heap.size 0 z)):=b6.out;clear B6 b6 TH TS bp TO av;generalize (wq.alloc (.cells #[Iv 0,Nv,Nv,Iv 0,Iv 0,Iv 0,Nv,Nv,Iv 0,Nv,Nv,Nv] 86)).setCells wq.heap.size 0 z=J at B7 b7 |-;have am:Hid (Qbu (Zp 6) 86 J w.heap.size K.heap.size (.slice W q T) ((f.blocks.take q).map MBlock.outl) cB):=ai.out.below b7.out;have P:Hid (Below K.heap.size K J):=BQ.out.trans (b7.out.mono BQ.out.size);generalize wq.heap.size=Bx at B7 b7 |-;have g0:J.cell? ⟨Bx,0,none⟩=some (Iv g.regs):=Qb B7.out 0 _ Z;have g1:J.cell? ⟨Bx,1,none⟩=some (.slice a1 g.params.length V):=Qb B7.out 1 _ Z
   have F:Hid (J.ownsRow K.heap.size 86 12 (.slice W q T) q cB):=by
    have:=am.out.own
    rw[ah] at this
    exact this
   have PU:Hid (∀ gg n y,y.ownsRow K.heap.size 86 12 (.slice (some ⟨gg,0,none⟩) (q+1) n) (q+1) (cB++[Iv g.regs,.slice a1 g.params.length V,Nv,Iv 3,Iv 0,Iv 0,Nv,Nv,Iv 0,Nv,Nv,Nv])->(J.alloc (.cells #[Iv g.regs,.slice a1 g.params.length V,Nv,Iv 3,Iv 0,Iv 0,Nv,Nv,Iv 0,Nv,Nv,Nv] 86)).grownBy y (Value.slice W q T).ownBlock->((Value.slice W q T).ownBlock=some gg\/gg=J.heap.size+1) ->
    Qbu (Zp 6) 86 y w.heap.size K.heap.size (.slice (some ⟨gg,0,none⟩) (q+1) n) ((f.blocks.take (q+1)).map MBlock.outl) (cB++[Iv g.regs,.slice a1 g.params.length V,Nv,Iv 3,Iv 0,Iv 0,Nv,Nv,Iv 0,Nv,Nv,Nv])/\Below K.heap.size K y):=by
    intro gg n y h1 h2 h3;have b8:Below J.heap.size J (J.alloc (.cells #[Iv g.regs,.slice a1 g.params.length V,Nv,Iv 3,Iv 0,Iv 0,Nv,Nv,Iv 0,Nv,Nv,Nv] 86)):=Zd _ _;have A5:=am.out.below b8;have az:Below w.heap.size w J:=G.out.trans (P.out.mono G.out.size);have o5:=G.out.size
    have T5:(Zp 6).In (J.alloc (.cells #[Iv g.regs,.slice a1 g.params.length V,Nv,Iv 3,Iv 0,Iv 0,Nv,Nv,Iv 0,Nv,Nv,Nv] 86)) (fun k=>(k<w.heap.size\/K.heap.size<=k)/\(Value.slice W q T).ownBlock≠some k) g.outl [Iv g.regs,.slice a1 g.params.length V,Nv,Iv 3,Iv 0,Iv 0,Nv,Nv,Iv 0,Nv,Nv,Nv] :=
     Ya (QiQ (Yc (Ya bq.out az) (fun j hj M=>⟨.inl hj,fun e=>by have:=(am.out.lo_le e).1;omega⟩)) bi.out) b8
    have A9:=Qbu.push A5 ((az.trans (b8.mono az.size)).size) T5 h2 (by simpa using h3) (by rw[ah];exact h1);rw[ah,<-QgM ca.out] at A9
    exact⟨A9,(P.out.trans (b8.mono P.out.size)).grown h2 (Zt P.out.size b8.size) (fun k hk=>(A5.lo_le hk).1)⟩
   have cg:K.heap.size<=J.heap.size:=P.out.size;clear B7 b7 am P ai BQ H bq bi;generalize g.params.length=lp at PU g1 |-;generalize g.regs=rr at PU g0 |-;go_wp2_with (at_builtin;refine wpList_append_lies _ Z (.tmp 24) (.tmp 31) 87 Z K.heap.size 86 iB (.agg #[Iv 0,Nv,Nv,Iv 0,Iv 0,Iv 0,Nv,Nv,Iv 0,Nv,Nv,Nv]) 12 208 pUnderB ch bm bo be Z (by decide) _ _ _ Z (F.out.alloc _) ⟨J.heap.size,0,none⟩ 1 1 [Iv rr,.slice a1 lp V,Nv,Iv 3,Iv 0,Iv 0,Nv,Nv,Iv 0,Nv,Nv,Nv] Z Z (QjX _ [_,_,_,_,_,_,_,_,_,_,_,_] _) (QnK Z) (by decide) (by unfold maxLen;omega) (by omega) (by simp;omega) (J.heap.size+1) (by simp) ?_)
   intro g2 aa y h1 s ae ab;obtain⟨q1,q2⟩:=PU.out g2 aa y h1 s ae
   have A9:=Qa q1;have C9:=Qa q2;clear h1 s ae ab F PU q1 q2 g0 g1;go_wp2
   go_roundw
   case rel=>exact⟨q+1,_,bz,by go_num,A9.out,C9.out⟩
   case measure=>simp[intOf];omega
def QcM (n:Nat):Lay (MBlock n):=(Lay.int.pair ((Qo n).pair (insC.list.pair endL))).via (fun x=>(x.regs,x.params,x.code,x.fin))
def QlB (n:Nat):Lay (MFunc n):=(Lay.int.pair ((Qo n).pair ((Qo n).pair (QcM n).list))).via (fun x=>(x.regs,x.params,x.results,x.blocks))
abbrev Qkv (n:Nat):Lay (List (MFunc n)):=(QlB n).list
theorem Qhv (n:Nat):Lay.Sub (QcM n) (Zp n):=.via (.pair (.refl _) (.pair (.refl _) (.pair (.list ins_sub) (.refl _)))) _
theorem QiZ (n:Nat):Lay.Sub (QlB n) (ZS n):=.via (.pair (.refl _) (.pair (.refl _) (.pair (.refl _) (.list (Qhv n))))) _
theorem QbF (n:Nat):Lay.Sub (Qkv n) (QaN n):=.list (QiZ n)
theorem QgU (n:Nat):Lay.Sub (Qbi n) (QcM n):=.via (.pair (.refl _) (.pair (.refl _) (.pair (.refl _) end_sub))) _
theorem Qjn (n:Nat):Lay.Sub (Qfn n) (QlB n):=.via (.pair (.refl _) (.pair (.refl _) (.pair (.refl _) (.list (QgU n))))) _
theorem QgG (n:Nat):Lay.Sub (QjE n) (Qkv n):=.list (Qjn n)
section
variable {w:World}{O:Nat->Prop}{n:Nat}
theorem QiD {x:Qs}{b:Option Addr}(f:intsC.In w O x.regs [.slice a x.regs.length c]) (g:intsC.In w O x.args [.slice b x.args.length d]) (e:I64 x.op/\I64 x.a/\I64 x.b/\I64 x.c/\I64 x.k/\I64 x.n):insC.In w O x [Iv x.op,Iv x.a,Iv x.b,Iv x.c,Iv x.k,Iv x.n,.slice a x.regs.length c,.slice b x.args.length d] :=
 ⟨[_],_,Z,⟨Z,e.1⟩,[_],_,Z,⟨Z,e.2.1⟩,[_],_,Z,⟨Z,e.2.2.1⟩,[_],_,Z,⟨Z,e.2.2.2.1⟩,[_],_,Z,⟨Z,e.2.2.2.2.1⟩,[_],_,Z,⟨Z,e.2.2.2.2.2⟩,[_],_,Z,f,g⟩
end
theorem XI:type_of% @Below.setCell:=@Below.setCell
theorem Qfa {m:List (MBlock 6)}(h:(QcM 6).list.In w Q m [.slice p n c]){g:MBlock 6}(s:m[k]?=some g) :
 ∃ mg mo a1 c1 a2 c2 e,p=some ⟨mg,mo,none⟩/\w.rangeAt mg (mo+k*12) (Iv g.regs::.slice a1 g.params.length c1::.slice a2 g.code.length c2::(QbV g.fin e).toList)/\insC.list.In w Q g.code [.slice a2 g.code.length c2]/\Qdt w Q g.fin e/\(-9223372036854775808<=g.fin.a/\g.fin.a<=9223372036854775807):=by
 obtain⟨mg,mo,x,r,u,t,q,_,_,rfl,⟨rfl,_⟩,_,_,rfl,i,_,_,rfl,f,o⟩:=Yf h s
 obtain⟨a1,c1,rfl,i⟩:=QK i
 obtain⟨a2,c2,rfl,f⟩:=QK f
 obtain⟨e,rfl,b⟩:=QdY o
 refine⟨mg,mo,a1,c1,a2,c2,e,r,fun j v l=>?_,f,⟨b.yes.regs,b.yes.args,b.no.regs,b.no.args,b.args⟩,b.bnd.2⟩
 have d:j<12:=(Zi l).1
 have:=q j d
 rw[show (QcM 6).size=12 from Z] at this
 rw[this]
 exact l
structure VcS (w wr:World) (X R A4:Nat) (pm pa:Option Addr) (cm ca:Nat) (m:List (MFunc 6)):Prop where
 bel:Below w.heap.size w wr
 x:Blk wr X #[.slice pm m.length cm] 24
 r:Blk wr R #[Iv 0,Iv 0] 32
 a:Blk wr A4 #[.slice pa m.length ca] 24
 om:(QaN 6).In wr All (outl m) [.slice pa m.length ca]
theorem VcS.below {wr:World}{b:Nat}{m:List (MFunc 6)}(h:VcS w wr X R b pm pa cm ca m) (k:Below wr.heap.size wr w'):VcS w w' X R b pm pa cm ca m :=
 ⟨h.bel.trans (k.mono h.bel.size),h.x.below k,h.r.below k,h.a.below k,Ya h.om k⟩
theorem Qcj {m:List (MFunc n)}(F:(QaN n).In w All m [.slice p m.length c]) (t:Qbh m) (d:(modFault m).1≠0) :
 Calls prog 66 #[.agg #[.slice p m.length c]] w fun e w'=>e=.returned (QG (modFault m))/\Below w.heap.size w w':=by
 have K:=Qa F;have D:=Qa t;have B:=Zd w (.cells #[.slice p m.length c] 24);have h:=Zd (w.alloc (.cells #[.slice p m.length c] 24)) (.cells #[Iv 0,Iv 0] 32);have i:Hid (Below w.heap.size w ((w.alloc (.cells #[.slice p m.length c] 24)).alloc (.cells #[Iv 0,Iv 0] 32))):=B.trans (h.mono B.size);have k:Hid (Blk ((w.alloc (.cells #[.slice p m.length c] 24)).alloc (.cells #[Iv 0,Iv 0] 32)) w.heap.size #[.slice p m.length c] 24):=Blk.new1 ..;have l:Hid (Blk ((w.alloc (.cells #[.slice p m.length c] 24)).alloc (.cells #[Iv 0,Iv 0] 32)) (w.heap.size+1) #[Iv 0,Iv 0] 32):=Blk.new2 ..;clear B h F t;go_enter func66,ntmps66
 go_upto_region 1 with fail
 generalize (w.alloc (.cells #[.slice p m.length c] 24)).alloc (.cells #[Iv 0,Iv 0] 32)=w1 at i k l |-;obtain⟨X,J⟩:∃ X,X=w.heap.size:=⟨_,Z⟩
 obtain⟨R,G⟩:∃ R,R=X+1:=⟨_,Z⟩
 have r:Hid (w.heap.size<=R):=by show _<=_;omega
 rw[<-J] at k l |-
 rw[<-G] at l |-
 clear J G;have L:=Qb k.out 0 _ Z;have z:=Qa (Qb0 (Ya K.out i.out) D.out);unfold Rd at z;go_wp2_with fail
 refine z.out.mono ?_;rintro S f ⟨rfl,h⟩;obtain⟨a,b,g⟩:∃ a b,modFault m=(a,b):=⟨_,_,Z⟩
 have j:Hid (modFault m=(a,b)):=g;rw[g]
 clear g;have u:=h.trans ((Zd f (.cells #[Iv a,Iv b] 32)).mono h.size);have A:Hid (Blk (f.alloc (.cells #[Iv a,Iv b] 32)) X #[.slice p m.length c] 24):=k.out.below u;have o:Hid (Blk (f.alloc (.cells #[Iv a,Iv b] 32)) R #[Iv 0,Iv 0] 32):=l.out.below u;have s:Hid (Below w.heap.size w (f.alloc (.cells #[Iv a,Iv b] 32))):=i.out.trans (u.mono i.out.size);have y:Hid (Blk (f.alloc (.cells #[Iv a,Iv b] 32)) f.heap.size #[Iv a,Iv b] 32):=Blk.new _ _ _;simp only[QG]
 clear h u z L k l i;go_upto_region 2 with fail
 generalize f.alloc (.cells #[Iv a,Iv b] 32)=x at A o s y |-;generalize f.heap.size=T at y |-
 have H:(a != 0)=true:=by
  have:a≠0:=by rw[j.out] at d;exact d
  simpa using this
 clear d;have U:=Qb y.out 0 _ Z;have P:=Qb y.out 1 _ Z;have E:Hid (modFault m=(a,b)):=j.out;have q:Hid (Blk x R #[Iv 0,Iv 0] 32):=o.out;have Q:=Qb q.out 0 _ Z;have V:=Qb q.out 1 _ Z;have W:=Qj q.out 0;have z1:=Qj q.out 1;have C:Hid (Blk ((x.setCell ⟨R,0,none⟩ (Iv a)).setCell ⟨R,1,none⟩ (Iv b)) R #[Iv a,Iv b] 32):=Zu q.out _ _;have I:Hid (Below w.heap.size w ((x.setCell ⟨R,0,none⟩ (Iv a)).setCell ⟨R,1,none⟩ (Iv b))):=(XI s.out (p:=⟨R,0,none⟩) r.out _).setCell (p:=⟨R,1,none⟩) r.out _;go_wp2_with fail
 generalize (x.setCell ⟨R,0,none⟩ (Iv a)).setCell ⟨R,1,none⟩ (Iv b)=M at C I |-;have O:=Qb C.out 0 _ Z;have N:=Qb C.out 1 _ Z;exact Xy (v:=.agg #[Iv a,Iv b]) (by simp[results,results66,go_sem,O,N]) Z ⟨by rw[E.out],I.out⟩
theorem Qca {m:List (MFunc 6)}(hm:(Qkv 6).In w All m [.slice p m.length c]) (aj:Qbh m) (ar:(modFault m).1=0->¬ Qm m) :
 Calls prog 66 #[.agg #[.slice p m.length c]] w fun e w'=>e=.returned (QG (Qq m))/\Below w.heap.size w w':=by
 by_cases hz:(modFault m).1=0
 rotate_left
 ·have e:Qq m=modFault m:=by unfold Qq;rw[Xs hz]
  rw[e]
  exact Qcj ((QbF 6).2 hm) aj hz
 have hg:=ar hz;have HM:=Qa hm;have aw:=Qa aj;have HG:=Qa hg;have al:=Qa hz;have bd:m.length<=20:=Xo fun x=>hg (.inl x);have E0:Hid (Qq m=firstF (Qaf m) 0 m):=by show _=_;unfold Qq;rw[Xr (fun h=>h hz)]
 clear hg ar hz;have b1:=Zd w (.cells #[.slice p m.length c] 24);have b2:=Zd (w.alloc (.cells #[.slice p m.length c] 24)) (.cells #[Iv 0,Iv 0] 32);have B0:Hid (Below w.heap.size w ((w.alloc (.cells #[.slice p m.length c] 24)).alloc (.cells #[Iv 0,Iv 0] 32))):=b1.trans (b2.mono b1.size);have BX:Hid (Blk ((w.alloc (.cells #[.slice p m.length c] 24)).alloc (.cells #[Iv 0,Iv 0] 32)) w.heap.size #[.slice p m.length c] 24):=Blk.new1 ..;have BR:Hid (Blk ((w.alloc (.cells #[.slice p m.length c] 24)).alloc (.cells #[Iv 0,Iv 0] 32)) (w.heap.size+1) #[Iv 0,Iv 0] 32):=Blk.new2 ..;clear b1 b2 hm aj;go_enter func66,ntmps66
 go_upto_region 1 with fail
 generalize (w.alloc (.cells #[.slice p m.length c] 24)).alloc (.cells #[Iv 0,Iv 0] 32)=w1 at B0 BX BR |-;obtain⟨X,hX⟩:∃ X,X=w.heap.size:=⟨_,Z⟩
 obtain⟨R,hR⟩:∃ R,R=X+1:=⟨_,Z⟩
 have T:Hid (w.heap.size<=R):=by show _<=_;omega
 rw[<-hX] at BX BR |-
 rw[<-hR] at BR |-
 clear hX hR;have x0:=Qb BX.out 0 _ Z;have CC:=Qa (Qb0 (Ya ((QbF 6).2 HM.out) B0.out) aw.out);unfold Rd at CC;go_wp2_with fail
 refine CC.out.mono ?_;rintro e2 W ⟨rfl,b2⟩;obtain⟨L,M,ag⟩:∃ L M,modFault m=(L,M):=⟨_,_,Z⟩
 have am:Hid (modFault m=(L,M)):=ag;rw[ag]
 clear ag;have b3:=b2.trans ((Zd W (.cells #[Iv L,Iv M] 32)).mono b2.size);have P:Hid (Blk (W.alloc (.cells #[Iv L,Iv M] 32)) X #[.slice p m.length c] 24):=BX.out.below b3;have ac:Hid (Blk (W.alloc (.cells #[Iv L,Iv M] 32)) R #[Iv 0,Iv 0] 32):=BR.out.below b3;have B:Hid (Below w.heap.size w (W.alloc (.cells #[Iv L,Iv M] 32))):=B0.out.trans (b3.mono B0.out.size);have F3:Hid (Blk (W.alloc (.cells #[Iv L,Iv M] 32)) W.heap.size #[Iv L,Iv M] 32):=Blk.new _ _ _;simp only[QG]
 clear b2 b3 CC x0 BX BR B0;go_upto_region 2 with fail
 generalize W.alloc (.cells #[Iv L,Iv M] 32)=w3 at P ac B F3 |-;generalize W.heap.size=F9 at F3 |-;have a4:L=0:=by have:=al.out;rw[am.out] at this;exact this
 subst a4;have f0:=Qb F3.out 0 _ Z;have f1:=Qb F3.out 1 _ Z;have x3:=Qb P.out 0 _ Z;have CO:=Qa (Qi0 (w:=w3) (m:=m) (p:=p) (c:=c) (Ya ((QbF 6).2 HM.out) B.out) aw.out);clear am;go_wp2_with fail
 refine CO.out.mono ?_;rintro e4 w4 ⟨J,l,rfl,ax,b4⟩;have b5:=Zd w4 (.cells #[.slice J m.length l] 24)
 have S:Hid (VcS w (w4.alloc (.cells #[.slice J m.length l] 24)) X R w4.heap.size p J c l m) :=
  ⟨(B.out.trans (b4.mono B.out.size)).trans (b5.mono (Zt B.out.size b4.size)),(P.out.below b4).below b5,(ac.out.below b4).below b5,Blk.new _ _ _,Ya ax b5⟩
 clear ax b4 b5 CO x3 f0 f1 P ac B F3;go_upto_region 5 with fail
 generalize w4.alloc (.cells #[.slice J m.length l] 24)=w5 at S |-;generalize w4.heap.size=A4 at S |-;have x0:=Qb S.out.x 0 _ Z;go_wp2_with fail
 clear x0;go_loopw [21] (fun i wr=>∃ k:Nat,k<=m.length/\i=Iv k/\VcS w wr X R A4 p J c l m/\∀ j f,j<k->m[j]?=some f->(Qaf m j f).1=0) (fun i _=>m.length - (intOf i).toNat)
 case atStart=>exact⟨0,Xb _,Z,S.out,fun j f hj=>absurd hj (XG _)⟩
 case round =>
  obtain⟨k,hk,rfl,hs,o⟩:=hrel
  have V:=Qa hs;have I:=Qa o;clear hs o S;obtain⟨s,a6⟩:∃ s,s=wr:=⟨_,Z⟩
  subst a6;by_cases a7:k<m.length
  rotate_left
  ·have aq:¬ (k:Int)<m.length:=by omega
   have E:Hid (Qq m=(0,0)):=by
    show _=_;rw[E0.out]
    exact QY fun j f hj=>by rw[XK];exact I.out j f (by have:=(Zi hj).1;omega) hj
   have F:Hid (Blk s R #[Iv 0,Iv 0] 32):=V.out.r;have r0:=Qb F.out 0 _ Z;have r1:=Qb F.out 1 _ Z;have z0:=Qj F.out 0;have z1:=Qj F.out 1;have RB:Hid (Blk ((s.setCell ⟨R,0,none⟩ (Iv 0)).setCell ⟨R,1,none⟩ (Iv 0)) R #[Iv 0,Iv 0] 32):=Zu F.out _ _;have BL:Hid (Below w.heap.size w ((s.setCell ⟨R,0,none⟩ (Iv 0)).setCell ⟨R,1,none⟩ (Iv 0))):=(XI V.out.bel (p:=⟨R,0,none⟩) T.out _).setCell (p:=⟨R,1,none⟩) T.out _;go_wp2_with fail
   generalize (s.setCell ⟨R,0,none⟩ (Iv 0)).setCell ⟨R,1,none⟩ (Iv 0)=az at RB BL |-;have e0:=Qb RB.out 0 _ Z;have e1:=Qb RB.out 1 _ Z;exact Xy (v:=.agg #[Iv 0,Iv 0]) (by simp[results,results66,go_sem,e0,e1]) Z ⟨by rw[E.out],BL.out⟩
  have aq:(k:Int)<m.length:=by omega
  have H:m[k]?=some m[k]:=Zg a7;generalize m[k]=f at H;have ae:=Qa H;obtain⟨C,D,ds,rfl,-,-,G,_,_,rfl,⟨rfl,_⟩,_,_,rfl,t1,_,_,rfl,t2,t3⟩:=Yf HM.out H
  obtain⟨a1,c1,rfl,t1⟩:=QK t1
  obtain⟨a2,c2,rfl,t2⟩:=QK t2
  obtain⟨a3,c3,rfl,t3⟩:=QK t3
  have v0:s.cell? ⟨C,D+k*4,none⟩=some (Iv f.regs):=Qk (show w.cell? ⟨C,D+k*4,none⟩=_ from G 0 (by decide)) V.out.bel;have v1:s.cell? ⟨C,D+k*4+1,none⟩=some (.slice a1 f.params.length c1):=Qk (show w.cell? ⟨C,D+k*4+1,none⟩=_ from G 1 (by decide)) V.out.bel;have v2:s.cell? ⟨C,D+k*4+2,none⟩=some (.slice a2 f.results.length c2):=Qk (show w.cell? ⟨C,D+k*4+2,none⟩=_ from G 2 (by decide)) V.out.bel;have v3:s.cell? ⟨C,D+k*4+3,none⟩=some (.slice a3 f.blocks.length c3):=Qk (show w.cell? ⟨C,D+k*4+3,none⟩=_ from G 3 (by decide)) V.out.bel;have a0:Hid ((QcM 6).list.In w All f.blocks [.slice a3 f.blocks.length c3]):=t3;have a8:Hid (f∈m):=Zm H;have be:f.blocks.length<=30:=Xo fun h=>HG.out (.inr ⟨f,a8.out,.inl h⟩);have b6:=Zd s (.cells #[Iv f.regs,.slice a1 f.params.length c1,.slice a2 f.results.length c2,.slice a3 f.blocks.length c3] 89);have S6:Hid (VcS w (s.alloc (.cells #[Iv f.regs,.slice a1 f.params.length c1,.slice a2 f.results.length c2,.slice a3 f.blocks.length c3] 89)) X R A4 (some ⟨C,D,none⟩) J c l m):=V.out.below b6;have BF:Hid (Blk (s.alloc (.cells #[Iv f.regs,.slice a1 f.params.length c1,.slice a2 f.results.length c2,.slice a3 f.blocks.length c3] 89)) s.heap.size #[Iv f.regs,.slice a1 f.params.length c1,.slice a2 f.results.length c2,.slice a3 f.blocks.length c3] 89):=Blk.new _ _ _;clear G t1 t2 t3 H b6 V;go_upto_region 8 with fail
  generalize s.alloc (.cells #[Iv f.regs,.slice a1 f.params.length c1,.slice a2 f.results.length c2,.slice a3 f.blocks.length c3] 89)=w6 at S6 BF |-;generalize s.heap.size=XF at BF |-;clear v0 v1 v2 v3;have t3:=Qb BF.out 3 _ Z;go_wp2_with fail
  clear t3 BF;go_loopw [29] (fun i wq=>∃ q:Nat,q<=f.blocks.length/\i=Iv q/\VcS w wq X R A4 (some ⟨C,D,none⟩) J c l m/\∀ j g,j<q->f.blocks[j]?=some g->(QA (10000*(k:Int)+100*(j:Int)) g.fin (JSt.start m f g) 0 g.code).1=0) (fun i _=>f.blocks.length - (intOf i).toNat)
  case atStart=>exact⟨0,Xb _,Z,S6.out,fun j g hj=>absurd hj (XG _)⟩
  case round =>
   obtain⟨q,hq,rfl,hs,o⟩:=hrel
   have SQ:=Qa hs;have u:=Qa o;clear hs o S6;obtain⟨d,a9⟩:∃ d,d=wr:=⟨_,Z⟩
   subst a9;by_cases ba:q<f.blocks.length
   rotate_left
   ·have au:¬ (q:Int)<f.blocks.length:=by omega
    have E:Hid ((Qaf m k f).1=0):=by
     show _=_;unfold Qaf;rw[QY fun j g hj=>by rw[XK];exact u.out j g (by have:=(Zi hj).1;omega) hj]
    go_wp2_with fail
    go_roundw
    case rel =>
     refine⟨k+1,by omega,by go_num,SQ.out,fun j y hj hy=>?_⟩
     by_cases ak:j<k
     ·exact I.out j y ak hy
     ·have:j=k:=by omega
      subst this;rw[ae.out] at hy
      cases hy
      exact E.out
    case measure=>simp[intOf];omega
   have au:(q:Int)<f.blocks.length:=by omega
   have U:f.blocks[q]?=some f.blocks[q]:=Zg ba;generalize f.blocks[q]=g at U;have ab:=Qa U;obtain⟨eg,eo,p1,d1,p2,d2,e,rfl,z,K,aa,an⟩:=Qfa a0.out U
   have af:=Qa K;have ao:=Qa aa;have a5:=Qa an;have ad:Hid (d.rangeAt eg (eo+q*12) (Value.int .i64 g.regs::Value.slice p1 g.params.length d1::Value.slice p2 g.code.length d2::(QbV g.fin e).toList)):=Qad z SQ.out.bel;generalize Q:(Value.int .i64 g.regs::Value.slice p1 g.params.length d1::Value.slice p2 g.code.length d2::(QbV g.fin e).toList)=n at ad;have hl:n.length=12:=by rw[<-Q];rfl
   have TS:Hid ((prog.info? 86).map (·.size)=some n.length):=by show _=_;rw[hl];exact pSizeB
   have TH:Hid ((d.alloc (.cells #[Iv 0,Nv,Nv,Iv 0,Iv 0,Iv 0,Nv,Nv,Iv 0,Nv,Nv,Nv] 86)).there d.heap.size 0 n.toArray.size):=by
    intro j hj;rw[List.size_toArray,hl] at hj
    rw[XK]
    have hB:=Qe d #[Iv 0,Nv,Nv,Iv 0,Iv 0,Iv 0,Nv,Nv,Iv 0,Nv,Nv,Nv] 86;refine⟨?_,Qj hB j⟩
    rw[Qb hB j ((#[Iv 0,Nv,Nv,Iv 0,Iv 0,Iv 0,Nv,Nv,Iv 0,Nv,Nv,Nv]:Array Value)[j]'hj) (by simp)];rfl
   have av:Hid ((prog.info? 86).map (·.size)=some n.toArray.size):=by show _=_;rw[List.size_toArray];exact TS.out
   have TO:Hid (n.toArray.all (·.oneCell')=true):=by
    refine all_oneCell_toArray fun v hv=>?_;rw[<-Q] at hv
    simp only[QbV,List.mem_cons,List.not_mem_nil,or_false] at hv
    rcases hv with rfl | rfl | rfl | rfl | rfl | rfl | rfl | rfl | rfl | rfl | rfl | rfl<;>rfl
   have B6:Hid (Blk ((d.alloc (.cells #[Iv 0,Nv,Nv,Iv 0,Iv 0,Iv 0,Nv,Nv,Iv 0,Nv,Nv,Nv] 86)).setCells d.heap.size 0 n.toArray.toList) d.heap.size n.toArray 86):=by
    have h0:Blk (d.alloc (.cells #[Iv 0,Nv,Nv,Iv 0,Iv 0,Iv 0,Nv,Nv,Iv 0,Nv,Nv,Nv] 86)) d.heap.size ([]++(#[Iv 0,Nv,Nv,Iv 0,Iv 0,Iv 0,Nv,Nv,Iv 0,Nv,Nv,Nv]:Array Value).toList).toArray 86:=Qe d _ _;exact Blk.sets n [] (#[Iv 0,Nv,Nv,Iv 0,Iv 0,Iv 0,Nv,Nv,Iv 0,Nv,Nv,Nv]:Array Value).toList _ (by rw[hl];rfl) h0
   have b6:Hid (Below d.heap.size d ((d.alloc (.cells #[Iv 0,Nv,Nv,Iv 0,Iv 0,Iv 0,Nv,Nv,Iv 0,Nv,Nv,Nv] 86)).setCells d.heap.size 0 n.toArray.toList)):=by
    have:=Qz.setCells (O:=fun k=>k=d.heap.size) (O':=fun k=>k=d.heap.size) (b:=d.heap.size) Z n.toArray.toList 0 _ (Qz.refl _ (d.alloc (.cells #[Iv 0,Nv,Nv,Iv 0,Iv 0,Iv 0,Nv,Nv,Iv 0,Nv,Nv,Nv] 86)))
    exact(Zd d _).trans (this.below (by simp) (fun k hk=>by omega))
   have ap:Hid ((Value.int .i64 g.regs::Value.slice p1 g.params.length d1::Value.slice p2 g.code.length d2::(QbV g.fin e).toList)=n):=Q;clear hl Q z K aa an U;go_upto_region 11 with (first | (refine wpList_load_mid Z 86 (.tmp 32) Z eg (eo+q*12) Z n _ ad.out underlying86 Z TS.out ?_) | (refine wpList_store_mid Z 86 (.tmp 8) (.tmp 33) Z d.heap.size 0 n.toArray Z Z TH.out av.out TO.out ?_))
   have B7:Hid (Blk ((d.alloc (.cells #[Iv 0,Nv,Nv,Iv 0,Iv 0,Iv 0,Nv,Nv,Iv 0,Nv,Nv,Nv] 86)).setCells d.heap.size 0 n) d.heap.size n.toArray 86):=B6.out;have S7:Hid (VcS w ((d.alloc (.cells #[Iv 0,Nv,Nv,Iv 0,Iv 0,Iv 0,Nv,Nv,Iv 0,Nv,Nv,Nv] 86)).setCells d.heap.size 0 n) X R A4 (some ⟨C,D,none⟩) J c l m):=SQ.out.below b6.out;clear B6 b6 TH av TO ad SQ;generalize (d.alloc (.cells #[Iv 0,Nv,Nv,Iv 0,Iv 0,Iv 0,Nv,Nv,Iv 0,Nv,Nv,Nv] 86)).setCells d.heap.size 0 n=w7 at B7 S7 |-;generalize d.heap.size=Bx at B7 |-;have y0:=Qb S7.out.a 0 _ Z;have ay:Hid (w7.rangeAt Bx 0 n):=Blk.range B7.out
   have CB:Hid (Calls prog 108 #[.agg #[.slice J m.length l],Iv (k:Int),Iv (q:Int),.agg n.toArray] w7 fun r w'=>r=.returned (QG (QA (10000*(k:Int)+100*(q:Int)) g.fin (JSt.start m f g) 0 g.code))/\Below w7.heap.size w7 w'):=by
    have:=QgT (w:=w7) (p:=J) (c:=l) (p1:=p1) (d1:=d1) al.out HG.out S7.out.om ae.out ab.out (Ya af.out S7.out.bel) (ao.out.below S7.out.bel) a5.out
    rw[<-ap.out]
    exact this
   obtain⟨t,A,ai⟩:∃ t A,QA (10000*(k:Int)+100*(q:Int)) g.fin (JSt.start m f g) 0 g.code=(t,A):=⟨_,_,Z⟩
   have ah:=Qa ai;rw[ai] at CB
   clear ai ap B7;go_wp2_with (refine wpList_load_mid Z 86 (.tmp 8) Z Bx 0 Z n _ ay.out underlying86 Z TS.out ?_)
   refine CB.out.mono ?_;rintro e8 w8 ⟨rfl,b8⟩;have b9:=b8.trans ((Zd w8 (.cells #[Iv t,Iv A] 32)).mono b8.size);have S9:Hid (VcS w (w8.alloc (.cells #[Iv t,Iv A] 32)) X R A4 (some ⟨C,D,none⟩) J c l m):=S7.out.below b9;have F9:Hid (Blk (w8.alloc (.cells #[Iv t,Iv A] 32)) w8.heap.size #[Iv t,Iv A] 32):=Blk.new _ _ _;clear b8 b9 S7 CB ay TS y0;simp only[QG]
   go_upto_region 12 with fail
   generalize w8.alloc (.cells #[Iv t,Iv A] 32)=w9 at S9 F9 |-;generalize w8.heap.size=F8 at F9 |-;have f0:=Qb F9.out 0 _ Z;have f1:=Qb F9.out 1 _ Z;by_cases N:t=0
   ·subst N;go_wp2_with fail
    go_roundw
    case rel =>
     refine⟨q+1,by omega,by go_num,S9.out,fun j y hj hy=>?_⟩
     by_cases ak:j<q
     ·exact u.out j y ak hy
     ·have:j=q:=by omega
      subst this;rw[ab.out] at hy
      cases hy
      rw[ah.out]
    case measure=>simp[intOf];omega
   ·have bb:(t != 0)=true:=by simpa using N
    have E:Hid (Qq m=(t,A)):=by
     show _=_;rw[QfT al.out ae.out I.out ab.out u.out (by rw[ah.out];exact N),ah.out]
    clear N;have F:Hid (Blk w9 R #[Iv 0,Iv 0] 32):=S9.out.r;have r0:=Qb F.out 0 _ Z;have r1:=Qb F.out 1 _ Z;have z0:=Qj F.out 0;have z1:=Qj F.out 1;have RB:Hid (Blk ((w9.setCell ⟨R,0,none⟩ (Iv t)).setCell ⟨R,1,none⟩ (Iv A)) R #[Iv t,Iv A] 32):=Zu F.out _ _;have BL:Hid (Below w.heap.size w ((w9.setCell ⟨R,0,none⟩ (Iv t)).setCell ⟨R,1,none⟩ (Iv A))):=(XI S9.out.bel (p:=⟨R,0,none⟩) T.out _).setCell (p:=⟨R,1,none⟩) T.out _;go_wp2_with fail
    generalize (w9.setCell ⟨R,0,none⟩ (Iv t)).setCell ⟨R,1,none⟩ (Iv A)=az at RB BL |-;have e0:=Qb RB.out 0 _ Z;have e1:=Qb RB.out 1 _ Z;exact Xy (v:=.agg #[Iv t,Iv A]) (by simp[results,results66,go_sem,e0,e1]) Z ⟨by rw[E.out],BL.out⟩
theorem QlO {s a:JSt}{x:Qs}{ts:List (TT 6)}(d:s.makes x=(0,ts)) (c:x.form s.m.length=0) (e:s.L.length+ts.length<=80) (b:s.next x=a):s.code x=0/\s.next x=a:=by
 refine⟨?_,b⟩
 unfold JSt.code;rw[Xr (fun h=>h c),d]
 simp only[ne_eq,not_true_eq_false,if_false]
 rw[Xr (by omega)]
theorem Qnz (w:World):intsC.In w All ([]:List Int) [Nv]:=⟨⟨_,_,Z,Ze⟩,Yg _ _ _ _ _⟩
def fS0:JSt:=⟨five6,fF,[],[]⟩
def fS1:JSt:=⟨five6,fF,[],[tInt]⟩
theorem fb1:fS0.code fI=0/\fS0.next fI=fS1:=by
 have a:fS0.makes fI=(0,[tInt]):=Z0 (.inl Z);exact QlO a (by decide) (by decide) (by unfold JSt.next;rw[a];rfl)
theorem fb2:fS1.fin fE=0:=by
 have a:fS1.arg (QhD fF.regs.toNat) 0 tInt=0:=by
  unfold JSt.arg;show (if ZQ (TT.ren _ _ tInt=some tInt) then (0:Int) else 9)=0;exact Xs (QC Z)
 unfold JSt.fin;rw[Xr (by decide),Xr (by decide),Xr (by decide)]
 have:fS1.args fE.args fS1.f.results (QhD fS1.f.regs.toNat)=0:=by
  unfold JSt.args;rw[Xs (by decide)]
  show Qu _ [((0:Int),tInt)]=0;simp only[Qu]
  exact Xr (fun h=>h a)
 rw[this]
 decide
theorem five6_run:Qq five6=(0,0):=by
 have d:∀ a,QA a fE fS0 0 [fI]=(0,0):=fun a=>by rw[QA,Xr (fun h=>h fb1.1),fb1.2,QA,Xr (fun h=>h fb2)]
 unfold Qq;rw[Xr (by rw[five_fault];decide)]
 refine QY fun k y c=>?_;have b:k=0:=by have:=(Zi c).1;simp[five6] at this;exact this
 subst b
 cases c
 unfold Qaf;rw[QY]
 intro k y c;have b:k=0:=by have:=(Zi c).1;simp[fF] at this;exact this
 subst b
 cases c
 exact congrArg Prod.fst (d _)
def fE':ZC:=⟨3,0,⟨0,[],[]⟩,⟨0,[],[]⟩,[1]⟩
def fB':MBlock 6:=⟨0,[],[fI],fE'⟩
def fF':MFunc 6:=⟨0,[],[tInt],[fB']⟩
def five7:List (MFunc 6):=[fF']
theorem five7_run:Qq five7=(1,91):=by decide +kernel
theorem five7_not:¬ Qm five7:=Qes (b:=fB') Z (by decide) (fun t a=>by simp only[fF',List.mem_singleton] at a;subst a;decide) Z Z (by decide) ⟨Z,Z,Z,Z,by decide⟩ (fun x c=>by simp only[fB',List.mem_singleton] at c;subst c;exact⟨Z,Z⟩)
theorem QgI {k:Int}(m:I64 k){f g d e b:Nat}(n:Blk w f (fBc f e b) 86) (o:Blk w g #[Iv 0,Nv,.slice (some ⟨d,0,none⟩) 1 1,.slice (some ⟨f,0,none⟩) 1 1] 89) (i:Blk w d #[Iv 1,Iv 0,Nv] 105) (q:Blk w e #[Iv 1,Iv 0,Iv 0,Iv 0,Iv 0,Iv 5,Nv,Nv] 78) (hi:Blk w b #[Iv k] 3) :
 (Qkv 6).In w All [(⟨0,[],[tInt],[⟨0,[],[fI],⟨3,0,⟨0,[],[]⟩,⟨0,[],[]⟩,[k]⟩⟩]⟩:MFunc 6)] [.slice (some ⟨g,0,none⟩) 1 1]:=by
 have c:=QnB w;have h:(Qo 6).In w All ([]:List (TT 6)) [Nv]:=Yg _ _ _ _ _;have p:(Qo 6).In w All [tInt] [.slice (some ⟨d,0,none⟩) 1 1]:=Qbx i Z (QlQ w);have l:insC.list.In w All [fI] [.slice (some ⟨e,0,none⟩) 1 1]:=Qbx q Z (QiD (x:=fI) (Qnz w) (Qnz w) (by decide));have s:intsL.In w All [k] [.slice (some ⟨b,0,none⟩) 1 1]:=Qbx hi Z ⟨Z,m⟩;have a:I64 0:=by decide
 have j:I64 3:=by decide
 have r:EIn w All ⟨3,0,⟨0,[],[]⟩,⟨0,[],[]⟩,[k]⟩ ⟨none,0,none,0,none,0,none,0,some ⟨b,0,none⟩,1⟩:=⟨⟨c,c,a⟩,⟨c,c,a⟩,s,j,a⟩;exact Qbx o Z ⟨[_],_,Z,⟨Z,a⟩,[_],_,Z,h,[_],_,Z,p,Qbx (A:=QcM 6) (x:=⟨0,[],[fI],⟨3,0,⟨0,[],[]⟩,⟨0,[],[]⟩,[k]⟩⟩) n Z ⟨[_],_,Z,⟨Z,a⟩,[_],_,Z,h,[_],_,Z,l,Qgk r⟩⟩
theorem five_runsW:∃ N,RM.steps five6 aOp 9 10 (RM.start [] 0)=some N/\N.fin=0/\N.back=[5]/\N.out=[]/\N.fuel=2:=⟨_,Z,Z,Z,Z,Z⟩
theorem ZZ {m:List (MFunc 6)}(H:(Qq m).1=0):(modFault m).1=0:=by
 refine Xq.1 fun h=>?_;unfold Qq at H;rw[Xs h] at H
 exact h H
theorem Qdg {m:List (MFunc 6)}(d:(Qkv 6).In w All m [.slice pm m.length cm]) (b:Qbh m) (a:¬ Qm m) (H:(Qq m).1=0):∀ wx,Below w.heap.size w wx->Calls prog 66 #[.agg #[.slice pm m.length cm]] wx fun e w'=>e=.returned (Qbw 0 (Qq m).2)/\Below wx.heap.size wx w':=fun wx c=>by
 have:=Qca (Ya d c) b (fun _=>a)
 rw[<-H]
 exact this
theorem Qjh {m:List (MFunc 6)}(l:(Qkv 6).In w All m [.slice pm m.length cm]) (n:Qbh m) (f:¬ Qm m) (H:(Qq m).1=0) (j:intsL.In w All inp [.slice pi inp.length ci]) (hi:inp.length<=200) (h:most<=20000) (c:pages<=64) :
 Calls prog 30 #[.agg #[.slice pm m.length cm],.slice pi inp.length ci,Iv (most:Int),Iv (pages:Int)] w fun e w'=>Qen w m inp most pages e w' :=
 Qj1 (ZZ H) h (fun k=>Qd9 H inp c k) (QcI (ZZ H) (by omega) c) (fun s a=>Qgn (Ya ((QbF 6).2 l) a) n (Ya j a) (fun x b=>by
  obtain⟨i,b⟩:=List.mem_iff_getElem?.1 b
  obtain⟨g,o,t,-,-,-,-,e,p,q⟩:=Yf j b
  exact⟨p,q⟩) hi h c (fun r d=>Qdg l n f H r (a.trans (d.mono a.size))))
theorem QiW {e:Ending}(h:Qen w five6 [] 9 0 e w'):Below w.heap.size w w'/\∃ a c b d,e=.returned (.tuple #[.agg #[Iv 0,.slice a 1 c,.slice b 0 d,Iv 2],Qbw 0 0])/\QcA w' a [5]:=by
 obtain⟨s,l,m,n,j,k⟩:=five_runsW
 obtain⟨N,v,g,-,⟨q,r,rfl,f,o⟩,rfl,b⟩:=h
 rw[show (9+1:Nat)=10 from Z,l] at g
 cases g
 refine⟨b,?_⟩
 obtain⟨a,c,rfl,-⟩:=id f
 obtain⟨p,d,rfl,-⟩:=id o
 have i:=f.lg;rw[m,k]
 rw[n] at i |-
 rw[j]
 exact⟨a,c,p,d,Z,i.2⟩
theorem Bxs.app {d:World}{l l':List (Nat × Array Value × TypeId)}(h:Bxs w d l) (k:Bxs d w' l'):Bxs w w' (l'++l):=by
 have f:=h.below k.bel;refine⟨f.bel,fun b a=>?_,fun b a=>?_,?_⟩
 ·rcases List.mem_append.1 a with a | a
  ·exact Zt h.bel.size (k.ge b a)
  ·exact h.ge b a
 ·rcases List.mem_append.1 a with a | a
  ·exact k.box b a
  ·exact f.box b a
 ·rw[List.map_append,List.nodup_append]
  refine⟨k.nd,h.nd,fun x g y j e=>?_⟩
  obtain⟨b,a,rfl⟩:=List.mem_map.1 g
  obtain⟨c,i,rfl⟩:=List.mem_map.1 j
  have m:=k.ge b a;have n:=(h.box c i).lt;omega
theorem Qfi (w:World):Calls prog 29 #[] w fun e w'=>e=.returned (.bool true)/\Below w.heap.size w w':=by
 go_enter func29,ntmps29
 go_wp2_with fail
 refine(Qim w).mono ?_
 rintro e1 w1 ⟨I,C,T,Y,m,z,R,rfl,B⟩;have U:=QgI (k:=0) (by decide) (B.at (a:=[_,_,_,_,_])) (B.at (a:=[_,_,_,_])) (B.at (a:=[_,_])) (B.at (a:=[_])) (B.at (a:=[]));have s:=Qc (Qjh (inp:=[]) (most:=9) (pages:=0) U (ZF five_not) five_not (congrArg Prod.fst five6_run) (QnB w1) (by decide) (by decide) (by decide));have E:=Qc B.bel;clear U B;go_wp2_with fail
 refine s.out.mono ?_;rintro e2 v N;obtain⟨b2,a,c,b,d,rfl,hl⟩:=QiW N
 have K:=Qc (E.out.trans (b2.mono E.out.size));have P:=Qc (Bxs.start v);have HL:=Qc hl;clear N b2 hl s E;have o:=(P.out.new #[Iv 0,.slice a 1 c,.slice b 0 d,Iv 2] 44).new #[Iv 0,Iv 0] 32;rw[World.size_alloc] at o
 have o:=Qc o;go_upto_region 2 with fail
 generalize (v.alloc (.cells #[Iv 0,.slice a 1 c,.slice b 0 d,Iv 2] 44)).alloc (.cells #[Iv 0,Iv 0] 32)=w3 at o |-;generalize v.heap.size+1=F at o |-;generalize v.heap.size=O at o |-;clear P;go_wp2_with fail
 refine(Qim w3).mono ?_
 rintro e4 L ⟨I,C,T,Y0,m,z,R,rfl,Q⟩;have j:=(o.out.app Q).new #[.slice (some ⟨m,0,none⟩) 1 1] 24;have j:=Qc j;clear Q o;go_upto_region 3 with fail
 generalize L.alloc (.cells #[.slice (some ⟨m,0,none⟩) 1 1] 24)=q at j |-;generalize L.heap.size=Y at j |-;simp only[List.cons_append,List.nil_append] at j
 have u:=Qc (j.out.new #[Iv 1] 3);have D:q.cell? ⟨Y,0,none⟩=some (.slice (some ⟨m,0,none⟩) 1 1):=j.out.cell (a:=[]) 0 _ Z;have g3:q.cell? ⟨m,3,none⟩=some (.slice (some ⟨z,0,none⟩) 1 1):=j.out.cell (a:=[_,_,_,_,_]) 3 _ Z;have c2:=u.out.cell (a:=[_,_,_,_,_,_,_]) 11 _ Z;have z2:=u.out.free (a:=[_,_,_,_,_,_,_]) 11;go_upto_region 4 with fail
 have h:=Qc (u.out.set (a:=[_,_,_,_,_,_,_]) 11 (.slice (some ⟨q.heap.size,0,none⟩) 1 1));clear j u D g3 c2 z2;generalize (q.alloc (.cells #[Iv 1] 3)).setCell ⟨z,11,none⟩ (.slice (some ⟨q.heap.size,0,none⟩) 1 1)=A at h |-;generalize q.heap.size=J at h |-;have D:A.cell? ⟨Y,0,none⟩=some (.slice (some ⟨m,0,none⟩) 1 1):=h.out.cell (a:=[_]) 0 _ Z;have W:(Qkv 6).In A All five7 [.slice (some ⟨m,0,none⟩) 1 1]:=QgI (k:=1) (by decide) (h.out.at (a:=[_,_,_,_,_,_,_])) (h.out.at (a:=[_,_,_,_,_,_])) (h.out.at (a:=[_,_,_,_])) (h.out.at (a:=[_,_,_])) (h.out.at (a:=[]))
 have s:=Qc (Qfv (pi:=none) (ci:=0) (n:=0) (fu:=9) (pg:=0) (c:=1) (a:=91) (c0:=1) (a0:=91) (pm:=some ⟨m,0,none⟩) (ml:=1) (cm:=1) (w:=A) (fun wx bx=>by
  have:=Qca (Ya W bx) (ZF five7_not) (fun _=>five7_not)
  rw[five7_run] at this
  exact this) (by decide) (.inl ⟨by decide,Z,Z⟩))
 clear W;go_wp2_with fail
 refine s.out.mono ?_;rintro e7 y ⟨rfl,V⟩;have g:=(h.out.below V).new #[Iv 0,Nv,Nv,Iv 0] 44 |>.new #[Iv 1,Iv 91] 32
 rw[World.size_alloc] at g
 have g:=Qc g;clear V s h D;go_upto_region 5 with fail
 generalize (y.alloc (.cells #[Iv 0,Nv,Nv,Iv 0] 44)).alloc (.cells #[Iv 1,Iv 91] 32)=f at g |-;generalize y.heap.size+1=M at g |-;generalize y.heap.size=O2 at g |-;have f0:f.cell? ⟨F,0,none⟩=some (Iv 0):=g.out.cell (a:=[_,_,_,_,_,_,_,_,_,_,_]) 0 _ Z;have o0:f.cell? ⟨O,0,none⟩=some (Iv 0):=g.out.cell (a:=[_,_,_,_,_,_,_,_,_,_,_,_]) 0 _ Z;have o1:f.cell? ⟨O,1,none⟩=some (.slice a 1 c):=g.out.cell (a:=[_,_,_,_,_,_,_,_,_,_,_,_]) 1 _ Z;have o2:f.cell? ⟨O,2,none⟩=some (.slice b 0 d):=g.out.cell (a:=[_,_,_,_,_,_,_,_,_,_,_,_]) 2 _ Z;have o3:f.cell? ⟨O,3,none⟩=some (Iv 2):=g.out.cell (a:=[_,_,_,_,_,_,_,_,_,_,_,_]) 3 _ Z;have G:=Qc (HL.out.below g.out.bel);have X:=Qc (g.out.new #[Iv 5] 2)
 have HN:QcA (f.alloc (.cells #[Iv 5] 2)) (some ⟨f.heap.size,0,none⟩) [5]:=fun i x t=>by
  match i,t with
  | 0,t=>cases t;exact⟨f.heap.size,0,Z,Qb (Qe f #[.int .i64 5] 2) 0 _ Z⟩
  | i+1,t=>exact absurd (Zi t).1 (by simp)
 have CS:Hid (Calls prog 26 #[.agg #[Iv 0,.slice a 1 c,.slice b 0 d,Iv 2],.agg #[Iv 0,.slice (some ⟨f.heap.size,0,none⟩) 1 1,Nv,Iv 2]] (f.alloc (.cells #[Iv 5] 2)) fun e w'=>e=.returned (.bool true)/\Below (f.alloc (.cells #[Iv 5] 2)).heap.size (f.alloc (.cells #[Iv 5] 2)) w'):=Qb1 (l:=[5]) (r:=[]) (by decide) (by decide) (G.out.below (ZO _ _)) HN (QcA.nil _ _) (QcA.nil _ _);clear HN;go_wp2_with fail
 refine CS.out.mono ?_;rintro e9 S ⟨rfl,H⟩;have p:=Qc (X.out.below H);have p0:S.cell? ⟨M,0,none⟩=some (Iv 1):=p.out.cell (a:=[_]) 0 _ Z;have p1:S.cell? ⟨M,1,none⟩=some (Iv 91):=p.out.cell (a:=[_]) 1 _ Z;clear H CS X f0 o0 o1 o2 o3;go_wp2
 go_ret;exact⟨Z,K.out.trans (p.out.bel.mono K.out.size)⟩
theorem QmU (h:intsL.In w O l [.slice a n c]):∀ x∈l,Qni x:=fun x b=>by
 obtain⟨i,j⟩:=List.mem_iff_getElem?.1 b
 obtain⟨g,o,k,-,-,-,-,e,d,f⟩:=Yf h j
 exact⟨d,f⟩
section
variable {w:World}{O:Nat->Prop}{n:Nat}{cs:List Value}
theorem QiE {x:MBlock n}(f:x.flat k) (h:(Qbi n).In w O x cs):(Qbi (k+1)).In w O (x.at k) cs:=by
 obtain⟨b,_,rfl,e,⟨a,_,rfl,c,d⟩⟩:=h
 exact⟨b,_,Z,e,⟨a,_,Z,Qee f c,d⟩⟩
theorem QkV {x:MFunc n}(a:x.flat k) (h:(Qfn n).In w O x cs):(Qfn (k+1)).In w O (x.at k) cs:=by
 obtain⟨c,_,rfl,g,⟨b,_,rfl,d,⟨i,_,rfl,e,f⟩⟩⟩:=h
 exact⟨c,_,Z,g,⟨b,_,Z,Qee a.1 d,⟨i,_,Z,Qee a.2.1 e,Lay.list_map (A:=Qbi n) (B:=Qbi (k+1)) Z (fun y j l=>QiE (a.2.2 y j)) f⟩⟩⟩
theorem QlF {m:List (MFunc n)}(a:∀ x∈m,x.flat k) (h:(QjE n).In w O m cs):(QjE (k+1)).In w O (m.map (MFunc.at k)) cs :=
 Lay.list_map (A:=Qfn n) (B:=Qfn (k+1)) Z (fun y b c=>QkV (a y b)) h
end
theorem size_any:∀ (n:Nat) (t:TT n) (a:Option Addr) (c:Nat) (w:World) (left:Int),TIn w All t a->0<=left->left<=2000 ->
 Calls prog 115 #[Tv t a c,Iv left] w fun e w'=>e=.returned (Iv (max (-1) (left - t.count)))/\Below w.heap.size w w':=by
 intro n
 induction n with
 | zero=>intro t;exact Empty.elim t
 | succ n ih =>
   intro t a c w left D h0 W
   have N:Hid (∀ (t:TT n) (a:Option Addr) (c:Nat) (w:World) (left:Int),TIn w All t a->0<=left->left<=2000 ->
    Calls prog 115 #[Tv t a c,Iv left] w fun e w'=>e=.returned (Iv (max (-1) (left - t.count)))/\Below w.heap.size w w'):=ih
   clear ih;have I:Hid (LIn w All t.2.2 a):=D.list;have E:t.count=1+(t.2.2.map TT.count).sum:=rfl;rw[E]
   clear E;simp only[Tv,TT.len_eq]
   generalize t.2.2=l at I |-;generalize t.kind=k;generalize t.r=r;clear D t;go_enter func115,ntmps115
   go_wp2_with fail
   have A:Hid (Bx w (w.alloc (.cells #[Iv k,Iv r,.slice a l.length c] 105)) k r a l.length c):=Bx.start w k r a l.length c;generalize w.alloc (.cells #[Iv k,Iv r,.slice a l.length c] 105)=w1 at A |-;go_loopw [1,5] (fun lf i wr=>∃ q:Nat,q<=l.length/\i=Iv q/\lf=Iv (max (-1) (left - 1 - (((l.map TT.count).take q).sum:Nat)))/\Bx w wr k r a l.length c) (fun _ i _=>l.length - (intOf i).toNat)
   case atStart=>exact⟨0,Xb _,Z,by simp;omega,A.out⟩
   case round =>
    clear A;obtain⟨q,hq,rfl,rfl,p⟩:=hrel
    generalize f:(((l.map TT.count).take q).sum:Nat)=s;have e2:wr.cell? ⟨w.heap.size,2,none⟩=some (.slice a l.length c):=Qb p.box 2 _ Z;have j:Hid (Bx w wr k r a l.length c):=p;by_cases v:q<l.length
    ·by_cases b:0<=max (-1) (left - 1 - (s:Int))
     ·have u:l[q]?=some l[q]:=Zg v;generalize l[q]=x at u;obtain⟨g,o,G,V,rfl,_,d0,d1,d2,J⟩:=LIn.at (I.out.below p.bel) u
      have H:Hid (TIn wr All x G):=J;have B:=Qeo TT.count l q x u;rw[f] at B
      have R:Hid (((l.map TT.count).take (q+1)).sum=s+x.count):=B;have S:Hid (max (-1) (left - 1 - (s:Int))<=2000):=by show _<=_;omega
      clear p J u B;generalize C:max (-1) (left - 1 - (s:Int))=m at b S;have M:Hid (max (-1) (left - 1 - (s:Int))=m):=C;clear C;have U:(0:Int)<=q:=by omega
      have d:(q:Int)<l.length:=by omega
      have P:(q:Int)<2000:=by
       have K:=length_le_sum ((l.map TT.count).take q) (fun y O=>by obtain⟨z,_,rfl⟩:=List.mem_map.1 (List.mem_of_mem_take O);exact z.count_pos);have X:=M.out;rw[List.length_take,XN] at K
       omega
      clear f;go_wp2_with fail
      refine(N.out x G V _ m H.out b S.out).mono ?_
      rintro e L ⟨rfl,T⟩;have Q:Hid (Bx w L k r (some ⟨g,o,none⟩) l.length c):=j.out.below T;clear j;go_wp2
      go_roundw
      case rel=>exact⟨q+1,by omega,by go_num,by rw[R.out];have:=M.out;have:=x.count_pos;congr 1;omega,Q.out⟩
      case measure=>simp[intOf];omega
     ·have F:Hid (max (-1) (left - 1 - (s:Int))=max (-1) (left - ((1+(l.map TT.count).sum:Nat):Int))):=by
       have:=Qfy (l.map TT.count) q
       show _=_;omega
      have h:max (-1) (left - 1 - (s:Int))<0:=by omega
      generalize max (-1) (left - 1 - (s:Int))=m at F h |-;clear b f;have d:(q:Int)<l.length:=by omega
      go_wp2
      go_ret;exact⟨by show Ending.returned (Iv m)=_;have:=F.out;congr 2,j.out.bel⟩
    ·have F:Hid (max (-1) (left - 1 - (s:Int))=max (-1) (left - ((1+(l.map TT.count).sum:Nat):Int))):=by
      rw[XO (by simp;omega)] at f
      show _=_;omega
     generalize max (-1) (left - 1 - (s:Int))=m at F |-;clear f;have d:¬ (q:Int)<l.length:=by omega
     go_wp2
     go_ret;exact⟨by show Ending.returned (Iv m)=_;have:=F.out;congr 2,j.out.bel⟩
theorem Qiv (n:Nat) (t:TT n) (a:Option Addr) (c:Nat) (w:World) (d:TIn w All t a) :
 Calls prog 71 #[Tv t a c] w fun e w'=>e=.returned (.bool (decide (2000<t.count)))/\Below w.heap.size w w':=by
 have C:Hid (∀ b,Below w.heap.size w b->Calls prog 115 #[Tv t a c,Iv 2000] b fun e w'=>e=.returned (Iv (max (-1) (2000 - (t.count:Int))))/\Below b.heap.size b w') :=
  fun b g=>size_any n t a c b 2000 (d.below g) (by omega) (by omega)
 clear d;simp only[Tv] at C |-
 generalize t.kind=k at C |-;generalize t.r=r at C |-;generalize t.len=i at C |-;generalize t.count=q at C |-;go_enter func71,ntmps71
 go_wp2_with fail
 refine(C.out _ ((Below.refl _ w).alloc Ze _)).mono ?_
 rintro e h ⟨rfl,f⟩;have B:Hid (Below w.heap.size w h):=((Below.refl _ w).alloc Ze _).trans (f.mono (by simp));have F:Hid (max (-1) (2000 - (q:Int))<0↔2000<q):=by show _↔_;omega
 generalize max (-1) (2000 - (q:Int))=m at F |-;clear f C;go_wp2
 go_ret;exact⟨by show Ending.returned (.bool (decide (m<0)))=_;rw[decide_eq_decide.2 F.out],B.out⟩
structure GbS (w wx:World) (l:List (Nat × Array Value × TypeId)):Prop where
 bel:Below w.heap.size w wx
 box:∀ (i:Nat) b,l[i]?=some b->Blk wx b.1 b.2.1 b.2.2
theorem GbS.below {a:World}{l:List (Nat × Array Value × TypeId)}(h:GbS w a l) (k:Below a.heap.size a w'):GbS w w' l:=⟨h.bel.trans (k.mono h.bel.size),fun i b c=>(h.box i b c).below k⟩
theorem GbS.add {a:World}{l:List (Nat × Array Value × TypeId)}(h:GbS w a l){c:Array Value}(e:Blk a B c t):GbS w a ((B,c,t)::l) :=
 ⟨h.bel,fun i b d=>by
  cases i with
  | zero=>cases d;exact e
  | succ i=>exact h.box i b d⟩
theorem GbS.drop {a:World}{l:List (Nat × Array Value × TypeId)}{e:Nat × Array Value × TypeId}(h:GbS w a (e::l)):GbS w a l:=⟨h.bel,fun i b c=>h.box (i+1) b c⟩
theorem GbS.new {a:World}{l:List (Nat × Array Value × TypeId)}(h:GbS w a l) (c:Array Value) (t:TypeId):GbS w (a.alloc (.cells c t)) ((a.heap.size,c,t)::l):=(h.below (Zd _ _)).add (Blk.new _ _ _)
theorem Qan (n:Nat) (l:List (TT n)) (p:Option Addr) (c:Nat) (w:World) (e:LIn w All l p) :
 Rd prog 40 #[.slice p l.length c] w (.bool (ZQ (Zy l))):=by
 have K:=Qf e;clear e;unfold Rd;go_enter func40,ntmps40
 by_cases C:200<l.length
 ·have d:(200:Int)<l.length:=by omega
  have E:=QC (A:=Zy l) (.inl C);go_wp2_with fail
  go_ret;exact⟨by first | rfl | (rw[E];done) | (rw[E];rfl),Zr⟩
 have d:¬ (200:Int)<l.length:=by omega
 go_wp2_with fail
 go_loopw [3] (fun i wr=>∃ k:Nat,k<=l.length/\i=Iv k/\Below w.heap.size w wr/\∀ (j:Nat) t,j<k->l[j]?=some t->¬ 2000<t.count) (fun i _=>l.length - (intOf i).toNat)
 case atStart=>exact⟨0,Xb _,Z,Zr,fun j z g=>absurd g (XG _)⟩
 case round =>
  obtain⟨k,Q,rfl,B,a⟩:=hrel
  have o:=Qf B;have f:=Qf a;clear B a;by_cases v:k<l.length
  rotate_left
  ·have m:¬ (k:Int)<l.length:=by omega
   have E:ZQ (Zy l)=false:=QB (by
    rintro (h | ⟨t,b,h⟩)
    ·exact C h
    ·obtain⟨j,g⟩:=List.mem_iff_getElem?.1 b
     exact f.out j t (by have:=(Zi g).1;omega) g h)
   go_wp2_with fail
   go_ret;exact⟨by first | rfl | (rw[E];done) | (rw[E];rfl),o.out⟩
  have m:(k:Int)<l.length:=by omega
  have b:l[k]?=some l[k]:=Zg v;generalize l[k]=t at b;have D:=Qf b;obtain⟨P,N,I,J,rfl,-,L,M,H,r⟩:=(show LIn wr All l p from K.out.below o.out).at b
  have G:=Qf (Qiv n t I J wr r);clear b r;go_wp2_with fail
  refine G.out.mono ?_;rintro _ O ⟨rfl,F⟩;have q:=Qf (o.out.trans (F.mono o.out.size));clear F G L M H o;by_cases s:2000<t.count
  ·rw[Xt s]
   have E:=QC (A:=Zy l) (.inr ⟨t,Zm D.out,s⟩);go_wp2_with fail
   go_ret;exact⟨by first | rfl | (rw[E];done) | (rw[E];rfl),q.out⟩
  ·rw[Xu s]
   go_wp2_with fail
   go_roundw
   case rel =>
    refine⟨k+1,by omega,by go_num,q.out,fun j u g y=>?_⟩
    by_cases x:j<k
    ·exact f.out j u x y
    ·have:j=k:=by omega
     subst this;rw[D.out] at y
     cases y
     exact s
   case measure=>simp[intOf];omega
def MFunc.much {n:Nat}(x:MFunc n):Prop:=30<x.blocks.length\/Zy x.params\/Zy x.results
def MBlock.much {n:Nat}(x:MBlock n):Prop:=200<x.code.length\/Zy x.params\/300<x.fin.args.length\/300<x.fin.yes.regs.length\/300<x.fin.yes.args.length\/300<x.fin.no.regs.length\/300<x.fin.no.args.length
theorem Qac (n:Nat) (m:List (MFunc n)) (p:Option Addr) (c:Nat) (w:World) (ak:(QaN n).In w All m [.slice p m.length c]) :
 Rd prog 10 #[.agg #[.slice p m.length c]] w (.bool (ZQ (Qm m))):=by
 have HM:=Qf ak;have S:Hid (GbS w (w.alloc (.cells #[.slice p m.length c] 24)) [(w.heap.size,#[.slice p m.length c],24)]):=GbS.new ⟨Zr,fun i b hb=>by simp at hb⟩ _ _;clear ak;unfold Rd;go_enter func10,ntmps10
 go_upto_region 1 with fail
 generalize w.alloc (.cells #[.slice p m.length c] 24)=w1 at S |-;generalize w.heap.size=X at S |-;have x0:=Qb (S.out.box 0 _ Yz) 0 _ Yz;by_cases c1:20<m.length
 ·have d:(20:Int)<m.length:=by omega
  have E:=QC (A:=Qm m) (.inl c1);have J:=Qf S.out.bel;clear S;go_wp2_with fail
  go_ret;exact⟨by first | rfl | (rw[E];done) | (rw[E];rfl),J.out⟩
 have d:¬ (20:Int)<m.length:=by omega
 go_wp2_with fail
 clear x0;go_loopw [3] (fun i wr=>∃ k:Nat,k<=m.length/\i=Iv k/\GbS w wr [(X,#[.slice p m.length c],24)]/\∀ (j:Nat) f,j<k->m[j]?=some f->¬ f.great) (fun i _=>m.length - (intOf i).toNat)
 case atStart=>exact⟨0,Xb _,Yz,S.out,fun j z B=>absurd B (XG _)⟩
 case round =>
  obtain⟨k,hk,rfl,R,o⟩:=hrel
  have SR:=Qf R;have am:=Qf o;clear R o S;obtain⟨wf,aw⟩:∃ wf,wf=wr:=⟨_,Yz⟩
  subst aw;have x0:=Qb (SR.out.box 0 _ Yz) 0 _ Yz;by_cases aq:k<m.length
  rotate_left
  ·have ae:¬ (k:Int)<m.length:=by omega
   have E:ZQ (Qm m)=false:=QB (by
    rintro (h | ⟨t,ht,h⟩)
    ·exact c1 h
    ·obtain⟨j,B⟩:=List.mem_iff_getElem?.1 ht
     exact am.out j t (by have:=(Zi B).1;omega) B h)
   have J:=Qf SR.out.bel;clear SR;go_wp2_with fail
   go_ret;exact⟨by first | rfl | (rw[E];done) | (rw[E];rfl),J.out⟩
  have ae:(k:Int)<m.length:=by omega
  have N:m[k]?=some m[k]:=Zg aq;generalize m[k]=x at N;have ao:=Qf N;have al:Hid (x.great->ZQ (Qm m)=true):=fun h=>QC (.inr ⟨x,Zm ao.out,h⟩);obtain⟨g1,o1,l,rfl,E1,af⟩:=Qf7 HM.out N
  have T:=Qf af;have R1:Hid (wf.rangeAt g1 (o1+k*4) [Iv x.regs,.slice l.pP x.params.length l.cP,.slice l.pR x.results.length l.cR,.slice l.pB x.blocks.length l.cB]):=fun j v B=>Qk (E1 j v B) SR.out.bel;have v0:wf.cell? ⟨g1,o1+k*4,none⟩=some (Iv x.regs):=R1.out 0 _ Yz;have v1:=R1.out 1 _ Yz;have v2:=R1.out 2 _ Yz;have v3:=R1.out 3 _ Yz;have F:=Qf (SR.out.new #[Iv x.regs,.slice l.pP x.params.length l.cP,.slice l.pR x.results.length l.cR,.slice l.pB x.blocks.length l.cB] 89);clear N E1 af R1 SR;go_upto_region 7 with fail
  generalize wf.alloc (.cells #[Iv x.regs,.slice l.pP x.params.length l.cP,.slice l.pR x.results.length l.cR,.slice l.pB x.blocks.length l.cB] 89)=w6 at F |-;generalize wf.heap.size=Y at F |-;clear v0 v1 v2 v3 x0;generalize hL:([(Y,#[Iv x.regs,.slice l.pP x.params.length l.cP,.slice l.pR x.results.length l.cR,.slice l.pB x.blocks.length l.cB],89),(X,#[.slice (some ⟨g1,o1,none⟩) m.length c],24)]:List (Nat × Array Value × TypeId))=L at F;have BX:Hid (∀ wx,GbS w wx L->Blk wx Y #[Iv x.regs,.slice l.pP x.params.length l.cP,.slice l.pR x.results.length l.cR,.slice l.pB x.blocks.length l.cB] 89/\GbS w wx [(X,#[.slice (some ⟨g1,o1,none⟩) m.length c],24)]):=by subst hL;exact fun wx h=>⟨h.box 0 _ Yz,h.drop⟩
  clear hL;have q1:=Qb (BX.out _ F.out).1 1 _ Yz;have q2:=Qb (BX.out _ F.out).1 2 _ Yz;have q3:=Qb (BX.out _ F.out).1 3 _ Yz;go_cut [37] (fun v wx=>v=.bool (ZQ x.much)/\GbS w wx L)
  case first =>
   by_cases h:30<x.blocks.length
   ·have d1:decide ((x.blocks.length:Int)>30)=true:=Xt (by omega);have E:=QC (A:=x.much) (.inl h);go_wp2
    go_meet;exact⟨by first | rfl | (rw[E];done) | (rw[E];rfl),F.out⟩
   have d1:decide ((x.blocks.length:Int)>30)=false:=Xu (by omega);have C:=Qf (Qan n x.params l.pP l.cP w6 (QV (Ya T.out.params F.out.bel)).1);unfold Rd at C;by_cases O:Zy x.params
   ·have E:=QC (A:=x.much) (.inr (.inl O));rw[QC O] at C
    go_wp2_with fail
    refine C.out.mono ?_;rintro _ wa ⟨rfl,G⟩;have s:=Qf (F.out.below G);clear G C;go_wp2
    go_meet;exact⟨by first | rfl | (rw[E];done) | (rw[E];rfl),s.out⟩
   rw[QB O] at C
   go_wp2_with fail
   refine C.out.mono ?_;rintro _ wa ⟨rfl,G⟩;have s:=Qf (F.out.below G);clear G C q1 q2 q3;have q2:=Qb (BX.out _ s.out).1 2 _ Yz;have CR:=Qf (Qan n x.results l.pR l.cR wa (QV (Ya T.out.results s.out.bel)).1);unfold Rd at CR
   have E:ZQ x.much=ZQ (Zy x.results):=by
    by_cases hr:Zy x.results
    ·rw[QC hr];exact QC (.inr (.inr hr))
    ·rw[QB hr];exact QB (fun e=>by rcases e with e | e | e;exact h e;exact O e;exact hr e)
   go_wp2_with fail
   refine CR.out.mono ?_;rintro _ I ⟨rfl,bb⟩;have SB:=Qf (s.out.below bb);clear bb CR q2;go_wp2
   all_goals
    go_meet;exact⟨by first | rfl | (rw[E];done) | (rw[E];rfl),SB.out⟩
  case rest =>
   obtain⟨rfl,Q⟩:=hcut
   have S7:=Qf Q;clear Q F q1 q2 q3;by_cases P:x.much
   ·rw[QC P]
    have E:=al.out (by rcases P with h | h | h;exact .inl h;exact .inr (.inl h);exact .inr (.inr (.inl h)));have J:=Qf S7.out.bel;clear S7 P;go_wp2_with fail
    go_ret;exact⟨by first | rfl | (rw[E];done) | (rw[E];rfl),J.out⟩
   rw[QB P]
   have a4:x.blocks.length<=30:=Xo fun h=>P (.inl h);go_wp2_with fail
   go_loopw [5] (fun i wr=>∃ q:Nat,q<=x.blocks.length/\i=Iv q/\GbS w wr L/\∀ (j:Nat) y,j<q->x.blocks[j]?=some y->¬ y.great) (fun i _=>x.blocks.length - (intOf i).toNat)
   case atStart=>exact⟨0,Xb _,Yz,S7.out,fun j z B=>absurd B (XG _)⟩
   case round =>
    obtain⟨q,hq,rfl,R,o⟩:=hrel
    have SQ:=Qf R;have ai:=Qf o;clear R o S7;obtain⟨I,ay⟩:∃ I,I=wr:=⟨_,Yz⟩
    subst ay;have q3:=Qb (BX.out _ SQ.out).1 3 _ Yz;by_cases az:q<x.blocks.length
    rotate_left
    ·have ag:¬ (q:Int)<x.blocks.length:=by omega
     go_wp2_with fail
     go_roundw
     case rel =>
      refine⟨k+1,by omega,by go_num,(BX.out _ SQ.out).2,fun j f B hf=>?_⟩
      by_cases a0:j<k
      ·exact am.out j f a0 hf
      ·have:j=k:=by omega
       subst this;rw[ao.out] at hf
       cases hf
       rintro (h | h | h | ⟨y,hy,h⟩)
       ·exact P (.inl h)
       ·exact P (.inr (.inl h))
       ·exact P (.inr (.inr h))
       ·obtain⟨i,hi⟩:=List.mem_iff_getElem?.1 hy
        exact ai.out i y (by have:=(Zi hi).1;omega) hi h
     case measure=>simp[intOf];omega
    have ag:(q:Int)<x.blocks.length:=by omega
    have M:x.blocks[q]?=some x.blocks[q]:=Zg az;generalize x.blocks[q]=y at M;have aa:=Qf M;have ac:Hid (y.great->ZQ (Qm m)=true):=fun h=>al.out (.inr (.inr (.inr ⟨y,Zm aa.out,h⟩)));obtain⟨g2,o2,g,e2,E2,aj⟩:=Qep T.out.blocks M
    have ab:=Qf aj;rw[e2] at q3
    generalize U:([Iv y.regs,.slice g.pP y.params.length g.cP,.slice g.pC y.code.length g.cC,Iv y.fin.op,Iv y.fin.a,Iv y.fin.yes.block,.slice g.e.pYR y.fin.yes.regs.length g.e.cYR,.slice g.e.pYA y.fin.yes.args.length g.e.cYA,Iv y.fin.no.block,.slice g.e.pNR y.fin.no.regs.length g.e.cNR,.slice g.e.pNA y.fin.no.args.length g.e.cNA,.slice g.e.pA y.fin.args.length g.e.cA]:List Value)=cs at E2;have hl:cs.length=12:=by rw[<-U];rfl
    have MB:=Qf (Qm6.of I hl);have TO:Hid (cs.toArray.all (·.oneCell')=true):=by show _=_;rw[<-U];exact all_oneCell_toArray (Xe.1 Yz)
    have RG:Hid (I.rangeAt g2 (o2+q*12) cs):=fun j v B=>Qk (E2 j v B) SQ.out.bel;clear M E2 aj hl e2;go_upto_region 13 with (first | (refine wpList_load_mid Yz 86 (.tmp 48) Yz g2 (o2+q*12) Yz cs _ RG.out underlying86 Yz MB.out.size ?_) | (refine wpList_store_mid Yz 86 (.tmp 6) (.tmp 49) Yz I.heap.size 0 cs.toArray Yz Yz MB.out.there MB.out.size2 TO.out ?_))
    have H:=Qf ((SQ.out.below MB.out.bel).add MB.out.blk);clear SQ q3 RG TO MB;generalize (I.alloc (.cells #[Iv 0,Nv,Nv,Iv 0,Iv 0,Iv 0,Nv,Nv,Iv 0,Nv,Nv,Nv] 86)).setCells I.heap.size 0 cs=w3 at H |-;generalize I.heap.size=Z at H |-;subst U;simp only[Act.put]
    generalize ad:((Z,#[Iv y.regs,.slice g.pP y.params.length g.cP,.slice g.pC y.code.length g.cC,Iv y.fin.op,Iv y.fin.a,Iv y.fin.yes.block,.slice g.e.pYR y.fin.yes.regs.length g.e.cYR,.slice g.e.pYA y.fin.yes.args.length g.e.cYA,Iv y.fin.no.block,.slice g.e.pNR y.fin.no.regs.length g.e.cNR,.slice g.e.pNA y.fin.no.args.length g.e.cNA,.slice g.e.pA y.fin.args.length g.e.cA],86)::L:List (Nat × Array Value × TypeId))=L2 at H;have K:Hid (∀ wx,GbS w wx L2->Blk wx Z #[Iv y.regs,.slice g.pP y.params.length g.cP,.slice g.pC y.code.length g.cC,Iv y.fin.op,Iv y.fin.a,Iv y.fin.yes.block,.slice g.e.pYR y.fin.yes.regs.length g.e.cYR,.slice g.e.pYA y.fin.yes.args.length g.e.cYA,Iv y.fin.no.block,.slice g.e.pNR y.fin.no.regs.length g.e.cNR,.slice g.e.pNA y.fin.no.args.length g.e.cNA,.slice g.e.pA y.fin.args.length g.e.cA] 86/\GbS w wx L):=by subst ad;exact fun wx h=>⟨h.box 0 _ Yz,h.drop⟩
    clear ad;have z1:=Qb (K.out _ H.out).1 1 _ Yz;have z2:=Qb (K.out _ H.out).1 2 _ Yz;go_cut [97] (fun v wx=>v=.bool (ZQ y.much)/\GbS w wx L2)
    case first =>
     by_cases h:200<y.code.length
     ·have d1:decide ((y.code.length:Int)>200)=true:=Xt (by omega);have E:=QC (A:=y.much) (.inl h);go_wp2
      go_meet;exact⟨by first | rfl | (rw[E];done) | (rw[E];rfl),H.out⟩
     have d1:decide ((y.code.length:Int)>200)=false:=Xu (by omega);have C:=Qf (Qan n y.params g.pP g.cP w3 (QV (Ya ab.out.params H.out.bel)).1);unfold Rd at C;by_cases O:Zy y.params
     ·have E:=QC (A:=y.much) (.inr (.inl O));rw[QC O] at C
      go_wp2_with fail
      refine C.out.mono ?_;rintro _ wa ⟨rfl,G⟩;have s:=Qf (H.out.below G);clear G C;go_wp2
      go_meet;exact⟨by first | rfl | (rw[E];done) | (rw[E];rfl),s.out⟩
     rw[QB O] at C
     go_wp2_with fail
     refine C.out.mono ?_;rintro _ wa ⟨rfl,G⟩;have s:=Qf (H.out.below G);clear G C z1 z2;have z6:=Qb (K.out _ s.out).1 6 _ Yz;have z7:=Qb (K.out _ s.out).1 7 _ Yz;have z9:=Qb (K.out _ s.out).1 9 _ Yz;have a2:=Qb (K.out _ s.out).1 10 _ Yz;have av:=Qb (K.out _ s.out).1 11 _ Yz
     have r:Hid (ZQ y.much=(decide ((y.fin.args.length:Int)>300)||(decide ((y.fin.yes.regs.length:Int)>300)||(decide ((y.fin.yes.args.length:Int)>300)||(decide ((y.fin.no.regs.length:Int)>300)||decide ((y.fin.no.args.length:Int)>300)))))):=by
      show _=_
      have e9:y.much↔((y.fin.args.length:Int)>300\/(y.fin.yes.regs.length:Int)>300\/(y.fin.yes.args.length:Int)>300\/(y.fin.no.regs.length:Int)>300\/(y.fin.no.args.length:Int)>300):=by
       unfold MBlock.much;constructor
       ·rintro (e | e | e)
        ·exact absurd e h
        ·exact absurd e O
        ·omega
       ·intro e;right;right;omega
      by_cases hy:y.much
      ·rw[QC hy];have:=e9.1 hy;simp only[<-Bool.decide_or];exact(Xt this).symm
      ·rw[QB hy];have:=fun e=>hy (e9.2 e);simp only[<-Bool.decide_or];exact(Xu this).symm
     generalize y.fin.args.length=n1 at r av |-;generalize y.fin.yes.regs.length=n2 at r z6 |-;generalize y.fin.yes.args.length=n3 at r z7 |-;generalize y.fin.no.regs.length=n4 at r z9 |-;generalize y.fin.no.args.length=n5 at r a2 |-;by_cases k1:(n1:Int)>300
     ·have W:decide ((n1:Int)>300)=true:=Xt k1;rw[W] at r
      go_wp2
      go_meet;exact⟨by rw[r.out];first | done | rfl,s.out⟩
     have e1:decide ((n1:Int)>300)=false:=Xu k1;rw[e1] at r
     by_cases k2:(n2:Int)>300
     ·have W:decide ((n2:Int)>300)=true:=Xt k2;rw[W] at r
      go_wp2
      go_meet;exact⟨by rw[r.out];first | done | rfl,s.out⟩
     have e2:decide ((n2:Int)>300)=false:=Xu k2;rw[e2] at r
     by_cases k3:(n3:Int)>300
     ·have W:decide ((n3:Int)>300)=true:=Xt k3;rw[W] at r
      go_wp2
      go_meet;exact⟨by rw[r.out];first | done | rfl,s.out⟩
     have e3:decide ((n3:Int)>300)=false:=Xu k3;rw[e3] at r
     by_cases k4:(n4:Int)>300
     ·have W:decide ((n4:Int)>300)=true:=Xt k4;rw[W] at r
      go_wp2
      go_meet;exact⟨by rw[r.out];first | done | rfl,s.out⟩
     have e4:decide ((n4:Int)>300)=false:=Xu k4;rw[e4] at r
     go_wp2
     all_goals
      go_meet;exact⟨by rw[r.out];first | done | rfl,s.out⟩
    case rest =>
     obtain⟨rfl,Q⟩:=hcut
     have S4:=Qf Q;clear Q H z1 z2;by_cases D:y.much
     ·rw[QC D]
      have E:=ac.out (by rcases D with h | h | h | h | h | h | h;exact .inl h;exact .inr (.inl h);exact .inr (.inr (.inl h));exact .inr (.inr (.inr (.inl h)));exact .inr (.inr (.inr (.inr (.inl h))));exact .inr (.inr (.inr (.inr (.inr (.inl h)))));exact .inr (.inr (.inr (.inr (.inr (.inr (.inl h)))))));have J:=Qf S4.out.bel;clear S4 D;go_wp2_with fail
      go_ret;exact⟨by first | rfl | (rw[E];done) | (rw[E];rfl),J.out⟩
     rw[QB D]
     have a3:y.code.length<=200:=Xo fun h=>D (.inl h);go_wp2_with fail
     go_loopw [7] (fun i wr=>∃ t:Nat,t<=y.code.length/\i=Iv t/\GbS w wr L2/\∀ (j:Nat) z,j<t->y.code[j]?=some z->¬ (300<z.regs.length\/300<z.args.length)) (fun i _=>y.code.length - (intOf i).toNat)
     case atStart=>exact⟨0,Xb _,Yz,S4.out,fun j z B=>absurd B (XG _)⟩
     case round =>
      obtain⟨t,ht,rfl,R,o⟩:=hrel
      have V:=Qf R;have ah:=Qf o;clear R o S4;have z2:=Qb (K.out _ V.out).1 2 _ Yz;by_cases a1:t<y.code.length
      rotate_left
      ·have an:¬ (t:Int)<y.code.length:=by omega
       go_wp2_with fail
       go_roundw
       case rel =>
        refine⟨q+1,by omega,by go_num,(K.out _ V.out).2,fun j u B hu=>?_⟩
        by_cases au:j<q
        ·exact ai.out j u au hu
        ·have:j=q:=by omega
         subst this;rw[aa.out] at hu
         cases hu
         rintro (h | h | h | h | h | h | h | ⟨z,hz,h⟩)
         ·exact D (.inl h)
         ·exact D (.inr (.inl h))
         ·exact D (.inr (.inr (.inl h)))
         ·exact D (.inr (.inr (.inr (.inl h))))
         ·exact D (.inr (.inr (.inr (.inr (.inl h)))))
         ·exact D (.inr (.inr (.inr (.inr (.inr (.inl h))))))
         ·exact D (.inr (.inr (.inr (.inr (.inr (.inr h))))))
         ·obtain⟨i,hi⟩:=List.mem_iff_getElem?.1 hz
          exact ah.out i z (by have:=(Zi hi).1;omega) hi h
       case measure=>simp[intOf];omega
      have an:(t:Int)<y.code.length:=by omega
      have hz:y.code[t]?=some y.code[t]:=Zg a1;generalize y.code[t]=z at hz;have HZ:=Qf hz;obtain⟨g3,o3,i3,e3,E3,-⟩:=QhI ab.out.code hz
      rw[e3] at z2
      have ax:=Qk (show w.cell? ⟨g3,o3+t*8+6,none⟩=_ from E3 6 _ Yz) V.out.bel;have ap:=Qk (show w.cell? ⟨g3,o3+t*8+7,none⟩=_ from E3 7 _ Yz) V.out.bel;clear hz E3 e3;go_upto_region 18 with fail
      go_cut [122] (fun v wx=>v=.bool (decide (300<z.regs.length\/300<z.args.length))/\GbS w wx L2)
      case first =>
       by_cases h:(z.regs.length:Int)>300
       ·have d1:decide ((z.regs.length:Int)>300)=true:=Xt h;have E:decide (300<z.regs.length\/300<z.args.length)=true:=Xt (by omega);go_wp2
        go_meet;exact⟨by first | rfl | (rw[E];done) | (rw[E];rfl),V.out⟩
       ·have d1:decide ((z.regs.length:Int)>300)=false:=Xu h;have E:decide (300<z.regs.length\/300<z.args.length)=decide ((z.args.length:Int)>300):=by rw[decide_eq_decide];omega
        go_wp2
        all_goals
         go_meet;exact⟨by first | rfl | (rw[E];done) | (rw[E];rfl),V.out⟩
      case rest =>
       obtain⟨rfl,Q⟩:=hcut
       have SU:=Qf Q;clear Q V z2 ax ap;by_cases c4:300<z.regs.length\/300<z.args.length
       ·rw[Xt c4]
        have E:=ac.out (.inr (.inr (.inr (.inr (.inr (.inr (.inr ⟨z,Zm HZ.out,c4⟩)))))));have J:=Qf SU.out.bel;clear SU c4;go_wp2_with fail
        go_ret;exact⟨by first | rfl | (rw[E];done) | (rw[E];rfl),J.out⟩
       ·rw[Xu c4]
        go_wp2_with fail
        go_roundw
        case rel =>
         refine⟨t+1,by omega,by go_num,SU.out,fun j u B hu=>?_⟩
         by_cases ar:j<t
         ·exact ah.out j u ar hu
         ·have:j=t:=by omega
          subst this;rw[HZ.out] at hu
          cases hu
          exact c4
        case measure=>simp[intOf];omega
theorem Qkz {j:Nat}{m:List (MFunc j)}{fu:Int}(l:(QaN j).In w All m [.slice pm m.length cm]) (h:Qm m\/3000<fu) :
 Calls prog 11 #[.agg #[.slice pm m.length cm],Iv fu] w fun e w'=>e=.returned (.bool true)/\Below w.heap.size w w':=by
 have c:=Qc ((Bxs.start w).new #[.slice pm m.length cm] 24);have b:Hid (∀ d,Below w.heap.size w d->Calls prog 10 #[.agg #[.slice pm m.length cm]] d fun e w'=>e=.returned (.bool (ZQ (Qm m)))/\Below d.heap.size d w'):=fun d p=>Qac j m pm cm d (Ya l p);clear l;have H:=Qc h;clear h;go_enter func11,ntmps11
 go_upto_region 1 with fail
 generalize w.alloc (.cells #[.slice pm m.length cm] 24)=i at c |-;generalize w.heap.size=X at c |-;have r:i.cell? ⟨X,0,none⟩=some (.slice pm m.length cm):=c.out.cell (a:=[]) 0 _ Z;by_cases g:Qm m
 ·have b:=Qc (b.out i c.out.bel);rw[show ZQ (Qm m)=true from QC g] at b
  clear g;go_wp2_with fail
  refine b.out.mono ?_;rintro o n ⟨rfl,f⟩;have k:=Qc (c.out.below f);clear f;go_wp2
  go_ret;exact⟨Z,k.out.bel⟩
 ·have b:=Qc (b.out i c.out.bel);rw[show ZQ (Qm m)=false from QB g] at b
  have q:decide (fu>3000)=true:=Xt (by have:=H.out;rcases this with e | e;exact absurd e g;exact e);clear g;go_wp2_with fail
  refine b.out.mono ?_;rintro o n ⟨rfl,f⟩;have k:=Qc (c.out.below f);clear f;go_wp2
  go_ret;exact⟨Z,k.out.bel⟩
theorem Ql9 {d:Nat}{m:List (MFunc d)}{fu:Int}(g:(QaN d).In w All m [.slice pm m.length cm]) (h:¬ (Qm m\/3000<fu)) :
 Calls prog 11 #[.agg #[.slice pm m.length cm],Iv fu] w fun e w'=>e=.returned (.bool false)/\Below w.heap.size w w':=by
 have c:=Qc ((Bxs.start w).new #[.slice pm m.length cm] 24);have b:=Qac d m pm cm _ (Ya g (ZO w (.cells #[.slice pm m.length cm] 24)));rw[show ZQ (Qm m)=false from QB (fun e=>h (.inl e))] at b
 have b:Hid (Calls prog 10 #[.agg #[.slice pm m.length cm]] (w.alloc (.cells #[.slice pm m.length cm] 24)) fun e w'=>e=.returned (.bool false)/\Below (w.alloc (.cells #[.slice pm m.length cm] 24)).heap.size (w.alloc (.cells #[.slice pm m.length cm] 24)) w'):=b;have l:decide (fu>3000)=false:=Xu (fun e=>h (.inr e));clear g h;go_enter func11,ntmps11
 go_upto_region 1 with fail
 generalize w.alloc (.cells #[.slice pm m.length cm] 24)=i at c b |-;generalize w.heap.size=X at c |-;have n:i.cell? ⟨X,0,none⟩=some (.slice pm m.length cm):=c.out.cell (a:=[]) 0 _ Z;go_wp2_with fail
 refine b.out.mono ?_;rintro o k ⟨rfl,f⟩;have j:=Qc (c.out.below f);clear f;go_wp2
 go_ret;exact⟨Z,j.out.bel⟩
theorem QjH.below {lo:Nat}{N:RM}(h:QjH lo N v w) (b:Below w.heap.size w w'):QjH lo N v w':=by
 obtain⟨c,a,rfl,d,e⟩:=h
 exact⟨c,a,Z,d.below b,e.below b⟩
def QmH (w6:World) (b:Nat) (N:RM) (ab ao:Option Addr) (cb co:Nat) (t:Tmp) (v:Value) (w:World):Prop :=
 match ([(70,QjH w6.heap.size N)]:List (Tmp × (Value->World->Prop))).lookup t with
 | some p=>p v w
 | none=>v=(([(69,.pointer (some ⟨b,0,none⟩)),(71,.agg #[.int .i64 N.fin,.slice ab N.back.length cb,.slice ao N.out.length co,.int .i64 N.fuel]),(72,.bool true),(10,.bool true),(13,.pointer (some ⟨b,0,none⟩))]:List (Tmp × Value)).lookup t).getD undef
theorem Qok {Z D E:Nat}{N:RM}{j l:Option Addr}(z:Blk w6 Z #[Iv N.fin,.slice j N.back.length D,.slice l N.out.length E,Iv N.fuel] 44) (X:QcA w6 j N.back) (lo:QcA w6 l N.out) (O:N.back.length<=100000) (ho:N.out.length<=100000)
 (R:Hid (∀ wx,Below w6.heap.size w6 wx->Calls prog 37 #[Pv b 0] wx fun e w'=>∃ v,e=.returned v/\QjH wx.heap.size N v w'/\Below wx.heap.size wx w'))
 (a:Act) (m:Nat) (hn:a.tmps.size=m) (A:73<=m) (F:a.tmps.getD 11 undef=Pv Z 0) (B:a.tmps.getD 13 undef=Pv b 0) :
 Code.wp prog ((Tryz.f8.body.bind (Qi 16)).getD .skip) (fun e a' w'=>e=.normal/\∃ vs,a'=QN a vs [69,70,71,72,10]/\vs 10=.bool true/\Below w6.heap.size w6 w') a w6:=by
 have z0:=Qb z 0 _ Yz;have z1:=Qb z 1 _ Yz;have T:=Qb z 2 _ Yz;have z3:=Qb z 3 _ Yz;conv=>arg 2;whnf
 refine Qdu (fun t v w=>if t=11 then v=Pv Z 0 else QmH w6 b N j l D E t v w) (fun w=>Below w6.heap.size w6 w) (fun w w'=>Below w.heap.size w w') (outs:=[11,13]) (gs:=[]) (bs:=[true,true,true,true,true]) (by kernel_rfl) (n:=73) hn A (by kernel_rfl) ?hR ?hG (QI Zr 1) ⟨F,B,Y⟩ ?hA ?hend
 case hR =>
  intro t v w w' hr h;by_cases J:t=11
  ·rw[Xs J] at h |-;exact h
  rw[Xr J] at h |-
  unfold QmH at h |-;split at h
  ·rename_i p k
   simp only[List.lookup_cons,List.lookup_nil] at k
   split at k
   ·cases k;exact QjH.below h hr
   ·cases k
  ·exact h
 case hG=>exact Y
 case hend=>exact fun vs w' c f=>⟨Yz,vs,Yz,f 10 (by kernel_rfl),c⟩
 case hA =>
  refine⟨fun a w c f K g=>?_,?_⟩
  ·obtain⟨d,-⟩:=f
   have d:a.tmps.getD 13 undef=Pv b 0:=d;go_simp;exact g _ _ Zr c Yz
  refine⟨fun a w c f K g=>?_,?_⟩
  ·obtain⟨d,-⟩:=f
   have d:a.tmps.getD 69 undef=Pv b 0:=d;go_simp;refine Xm (R.out w c) ?_;rintro r7 S ⟨v,rfl,P,i⟩;go_simp;obtain⟨M,G,rfl,⟨H,o,W,s,y,l3⟩,⟨I,u,U,q1,q2,V⟩⟩:=P
   exact g _ _ i (c.trans (i.mono c.size)) ⟨M,G,Yz,⟨H,o,W,s,y,fun x C=>Zt c.size (l3 x C)⟩,⟨I,u,U,q1,q2,fun x C=>Zt c.size (V x C)⟩⟩
  refine⟨fun a w c f K g=>?_,?_⟩
  ·obtain⟨d,-⟩:=f
   have d:a.tmps.getD 11 undef=Pv Z 0:=d;have c0:=Qk z0 c;have o:=Qk z1 c;have u:=Qk T c;have c3:=Qk z3 c;go_simp;exact g _ _ Zr c Yz
  refine⟨fun a w c f K g=>?_,?_⟩
  ·obtain⟨d,L,-⟩:=f
   have d:QjH w6.heap.size N (a.tmps.getD 70 undef) w:=d;have L:a.tmps.getD 71 undef=.agg #[Iv N.fin,.slice j N.back.length D,.slice l N.out.length E,Iv N.fuel]:=L;obtain⟨M,G,Q,q,r⟩:=d
   obtain⟨H,o,rfl,-⟩:=id q
   obtain⟨I,u,rfl,-⟩:=id r
   have s:=q.lg.2;have y:=r.lg.2;clear q r;go_simp;refine Xm (Qb1 O ho s (X.below c) y (lo.below c)) ?_;rintro r7 S ⟨rfl,i⟩;go_simp;exact g _ _ i (c.trans (i.mono c.size)) Yz
  refine⟨fun a w c f K g=>?_,?_⟩
  ·obtain⟨d,-⟩:=f
   have d:a.tmps.getD 72 undef=.bool true:=d;go_simp;exact g _ _ Zr c Yz
  trivial
def QgC (w:World) (inp:List Int) (most pages:Nat) (e:Ending) (w':World):Prop :=
 (∃ c a:Int,c≠0/\e=.returned (.tuple #[.pointer none,Qbw c a])/\Below w.heap.size w w')\/∃ o:List (MFunc 6),(modFault o).1=0/\QfF o most (RM.start inp pages)/\ROk o 0 (RM.start inp pages)/\Qiz w o inp most pages e w'
structure Qny (w:World) (VM VO VI:Value) (m:List (MFunc 6)) (inp:List Int) (most pages:Nat):Prop where
 fine:(modFault m).1=0
 le:most<=20000
 goes:QfF m most (RM.start inp pages)
 ok:ROk m 0 (RM.start inp pages)
 run:∀ wx,Below w.heap.size w wx->Calls prog 30 #[VM,VI,Iv (most:Int),Iv (pages:Int)] wx fun e w'=>Qen wx m inp most pages e w'
 new:∀ wx,Below w.heap.size w wx->Calls prog 32 #[VM,VI,Iv (most:Int),Iv (pages:Int)] wx fun e w'=>Qiz wx m inp most pages e w'
 other:∀ wx,Below w.heap.size w wx->Calls prog 32 #[VO,VI,Iv (most:Int),Iv (pages:Int)] wx fun e w'=>QgC wx inp most pages e w'
structure QmT (w7:World) (bx F most:Nat) (m:List (MFunc 6)) (X0:RM) (yv:Value) (c:Int) (P:World->RM->Prop):Prop where
 at_:∀ wr X,P wr X->∃ g j,QeX w7 wr bx most m X0 X g j/\j<=most+1
 fb:∀ wr X,P wr X->wr.cell? ⟨F,0,none⟩=some (Iv c)
 gx:∀ wr X,P wr X->X.done=false->Calls prog 34 #[Pv bx 0] wr fun e w'=>e=.returned (.tuple #[])/\∃ X',P w' X'/\(X'.done=false->X'.fuel=X.fuel+1)
 gy:c=0->∀ wr X,P wr X->Calls prog 34 #[yv] wr fun e w'=>e=.returned (.tuple #[])/\P w' X
theorem Qg3 {C w9 d:World}{D:Nat}{m:List (MFunc 6)}{l:WG}{e:Ending}(L:(modFault m).1=0) (s:most<=20000) (N:QfF m most (RM.start inp pages)) (R:ROk m 0 (RM.start inp pages))
 (Z:QeX C w9 D most m (RM.start inp pages) (RM.start inp pages) l 0) (S:QgC w9 inp most pages e d) :
 ∃ (yv:Value) (c a:Int) (P:World->RM->Prop),e=.returned (.tuple #[yv,Qbw c a])/\Below w9.heap.size w9 d/\P (d.alloc (.cells #[Iv c,Iv a] 32)) (RM.start inp pages)/\QmT C D d.heap.size most m (RM.start inp pages) yv c P:=by
 have F:=XC Z.at_.box;rcases S with ⟨c,a,hc,rfl,b⟩|⟨o,ho,J,T,⟨u,r,rfl,O,H,K,⟨-,v⟩,b⟩⟩
 ·have z:=ZO d (.cells #[Iv c,Iv a] 32);have bz:=b.size;refine⟨.pointer none,c,a,fun wr X=>∃ g j,QeX C wr D most m (RM.start inp pages) X g j/\j<=most+1/\¬ g.A d.heap.size/\wr.heap[d.heap.size]?=some (.cells #[Iv c,Iv a] 32 (0,0)),Yz,b,⟨l,0,Z.below (b.trans (z.mono b.size)),Xb _,fun h=>by have:=Z.at_.lt _ h;omega,Qe _ _ _⟩,⟨?_,?_,?_,fun h=>absurd h hc⟩⟩
  ·rintro wr X ⟨g,j,f,n,-⟩;exact⟨g,j,f,n⟩
  ·rintro wr X ⟨g,j,f,n,G,B⟩;exact Qb B 0 _ Yz
  ·rintro wr X ⟨g,j,f,n,G,B⟩ y;refine(f.go L s N R y).mono ?_
   rintro e Q ⟨rfl,I,w,t,M,-,E⟩;have V:=XC B;exact⟨Yz,I,⟨w,j+1,t,by have:=f.fu y;have:=f.le;omega,fun h=>(M.own _ h).elim G (fun q=>by omega),(M.block _ V G).trans B⟩,E⟩
 ·have z:=ZO d (.cells #[Iv 0,Iv 0] 32);have bz:=b.size;refine⟨Pv u 0,0,0,fun wr X=>∃ Y l r j k,Qdm C wr D u most m o (RM.start inp pages) (RM.start inp pages) X Y l r j k w9.heap.size d.heap.size #[Iv 0,Iv 0] 32/\j<=most+1,Yz,b,⟨_,l,r,0,0,Qdm.start Z F ?_ (O.below z) H K v (b.trans (z.mono b.size)) (Qe _ _ _) (fun h=>by have:=Z.at_.lt _ h;omega) (fun h=>by have:=O.lt _ h;omega),Xb _⟩,⟨?_,?_,?_,?_⟩⟩
  ·obtain⟨p,q,e,-⟩:=Z.at_.back
   exact⟨p,q,e,fun i W=>absurd W (XG i)⟩
  ·rintro wr X ⟨Y,l,r,j,k,f,n⟩;exact⟨l,j,f.x,n⟩
  ·rintro wr X ⟨Y,l,r,j,k,f,n⟩;exact Qb f.fb 0 _ Yz
  ·rintro wr X ⟨Y,l,r,j,k,f,n⟩ y;refine(f.goX L s N R y).mono ?_
   rintro e Q ⟨rfl,I,w,t,E⟩;exact⟨Yz,I,⟨Y,w,r,j+1,k,t,by have:=f.x.fu y;have:=f.x.le;omega⟩,E⟩
  ·rintro - wr X ⟨Y,l,r,j,k,f,n⟩;refine(f.goY ho s J T).mono ?_
   rintro e Q ⟨rfl,Y',w,U,t⟩;exact⟨Yz,Y',l,w,j,U,t,n⟩
theorem Qj3 {dd de:Nat}{m:List (MFunc dd)}{o:List (MFunc de)}{A:Option Addr}{z:Nat}{fu pg:Int}
 (hM:(QaN dd).In w All m [.slice pm m.length cm]) (hO:(QaN de).In w All o [.slice A o.length z])
 (K:¬ Qm m->¬ Qm o->fu<=3000->(∃ c a:Int,c≠0/\∀ wx,Below w.heap.size w wx->Calls prog 30 #[.agg #[.slice pm m.length cm],.slice pi n ci,Iv fu,Iv pg] wx fun e w'=>e=.returned (Qjp c a)/\Below wx.heap.size wx w') \/
  ∃ (m6:List (MFunc 6)) (inp:List Int) (most pages:Nat),fu=(most:Int)/\pg=(pages:Int)/\Qny w (.agg #[.slice pm m.length cm]) (.agg #[.slice A o.length z]) (.slice pi n ci) m6 inp most pages) :
 Calls prog 8 #[.agg #[.slice pm m.length cm],.agg #[.slice A o.length z],.slice pi n ci,Iv fu,Iv pg] w fun e w'=>e=.returned (.bool true)/\Below w.heap.size w w':=by
 have B:=((Bxs.start w).new #[.slice pm m.length cm] 24).new #[.slice A o.length z] 24;rw[World.size_alloc] at B
 have B:=Qc B;have HM:=Qc hM;have HO:=Qc hO;have y:=Qc K;clear hM hO K;go_enter func8,ntmps8
 go_upto_region 1 with fail
 generalize (w.alloc (.cells #[.slice pm m.length cm] 24)).alloc (.cells #[.slice A o.length z] 24)=w2 at B |-;generalize w.heap.size+1=X2 at B |-;generalize w.heap.size=X at B |-;go_wp2_with fail
 refine(Qfi w2).mono ?_
 rintro e3 w3 ⟨rfl,b3⟩;have I:=Qc (B.out.below b3);clear b3 B;have L:w3.cell? ⟨X,0,none⟩=some (.slice pm m.length cm):=I.out.cell (a:=[_]) 0 _ Yz;by_cases U:Qm m\/3000<fu
 ·have CL:=Qc (Qkz (Ya HM.out I.out.bel) U);clear U;go_wp2_with fail
  refine CL.out.mono ?_;rintro e4 w4 ⟨rfl,R⟩;have D:=Qc (I.out.below R);clear R;go_wp2
  go_ret;exact⟨Yz,D.out.bel⟩
 have CL:=Qc (Ql9 (Ya HM.out I.out.bel) U);have HG:=Qc U;clear U;go_wp2_with fail
 refine CL.out.mono ?_;rintro e4 w4 ⟨rfl,R⟩;have D:=Qc (I.out.below R);clear R I CL L;have x1:w4.cell? ⟨X2,0,none⟩=some (.slice A o.length z):=D.out.cell (a:=[]) 0 _ Yz;have q:=Qac de o A z w4 (Ya HO.out D.out.bel);by_cases hg:Qm o
 ·rw[show ZQ (Qm o)=true from QC hg] at q
  have q:=Qc q;clear hg;go_wp2_with fail
  refine q.out.mono ?_;rintro e5 w5 ⟨rfl,W⟩;have k:=Qc (D.out.below W);clear W;go_wp2
  go_ret;exact⟨Yz,k.out.bel⟩
 rw[show ZQ (Qm o)=false from QB hg] at q
 have q:=Qc q;have af:=Qc hg;clear hg;go_wp2_with fail
 refine q.out.mono ?_;rintro e5 w5 ⟨rfl,W⟩;have k:=Qc (D.out.below W);clear W D q x1;have L:w5.cell? ⟨X,0,none⟩=some (.slice pm m.length cm):=k.out.cell (a:=[_]) 0 _ Yz;rcases y.out (fun e=>HG.out (.inl e)) af.out (by have:=HG.out;omega) with ⟨c,a,h,C⟩|⟨m6,inp,most,pages,Yz,Yz,Y6⟩
 ·have C:=Qc (C w5 k.out.bel);have d0:(c != 0)=true:=bne_iff_ne.2 h;clear h;go_wp2_with fail
  refine C.out.mono ?_;rintro e6 x ⟨rfl,Q⟩;have b:=((k.out.below Q).new #[Iv 0,Nv,Nv,Iv 0] 44).new #[Iv c,Iv a] 32;rw[World.size_alloc] at b
  have b:=Qc b;clear Q C L k;simp only[Qjp,Qbw]
  go_upto_region 6 with fail
  generalize (x.alloc (.cells #[Iv 0,Nv,Nv,Iv 0] 44)).alloc (.cells #[Iv c,Iv a] 32)=f at b |-;generalize x.heap.size+1=F at b |-;generalize x.heap.size=Z at b |-;have f0:f.cell? ⟨F,0,none⟩=some (Iv c):=b.out.cell (a:=[]) 0 _ Yz;have o0:f.cell? ⟨Z,0,none⟩=some (Iv 0):=b.out.cell (a:=[_]) 0 _ Yz;have o1:f.cell? ⟨Z,1,none⟩=some (Nv):=b.out.cell (a:=[_]) 1 _ Yz;have o2:f.cell? ⟨Z,2,none⟩=some (Nv):=b.out.cell (a:=[_]) 2 _ Yz;have o3:f.cell? ⟨Z,3,none⟩=some (Iv 0):=b.out.cell (a:=[_]) 3 _ Yz;have CS:Hid (∀ n,Calls prog 26 #[.agg #[Iv 0,Nv,Nv,Iv 0],.agg #[Iv 0,Nv,Nv,Iv 0]] (f.drewN n) fun e w'=>e=.returned (.bool true)/\Below (f.drewN n).heap.size (f.drewN n) w'):=fun n=>Qb1 (l:=[]) (r:=[]) (by decide) (by decide) (QcA.nil _ _) (QcA.nil _ _) (QcA.nil _ _) (QcA.nil _ _);go_wp2_with fail
  refine(CS.out 0).mono ?_
  rintro e8 w8 ⟨rfl,E⟩;have B8:=Qc (b.out.below E);clear E;go_wp2
  go_ret;exact⟨Yz,B8.out.bel⟩
 have p:=Qc Y6;clear Y6 y;have C:=Qc (p.out.run w5 k.out.bel);go_wp2_with fail
 refine C.out.mono ?_;rintro e6 x ⟨N,v,hN,dN,⟨vb,vo,rfl,hb,ho⟩,rfl,Q⟩;obtain⟨ab,cb,rfl,-⟩:=id hb
 obtain⟨ao,cq,rfl,-⟩:=id ho
 have b:=((k.out.below Q).new #[Iv N.fin,.slice ab N.back.length cb,.slice ao N.out.length cq,Iv N.fuel] 44).new #[Iv 0,Iv 0] 32;rw[World.size_alloc] at b
 have b:=Qc b;have i:=Qc hb.lg.2;have s:=Qc ho.lg.2;have HN:=Qc hN;clear Q C L k hb ho hN dN;simp only[Qbw]
 go_upto_region 6 with fail
 have b7:=Qkr x (.cells #[Iv N.fin,.slice ab N.back.length cb,.slice ao N.out.length cq,Iv N.fuel] 44) (.cells #[Iv 0,Iv 0] 32);have i:=Qc (i.out.below b7);have s:=Qc (s.out.below b7);clear b7;generalize (x.alloc (.cells #[Iv N.fin,.slice ab N.back.length cb,.slice ao N.out.length cq,Iv N.fuel] 44)).alloc (.cells #[Iv 0,Iv 0] 32)=f at b i s |-;generalize x.heap.size+1=F at b |-;generalize x.heap.size=Z at b |-;have f0:f.cell? ⟨F,0,none⟩=some (Iv 0):=b.out.cell (a:=[]) 0 _ Yz;have L:f.cell? ⟨X,0,none⟩=some (.slice pm m.length cm):=b.out.cell (a:=[_,_,_]) 0 _ Yz;have CN:=Qc (p.out.new f b.out.bel);go_upto_region 8 with fail
 go_wp2_with fail
 refine CN.out.mono ?_;rintro e8 w8 ⟨V,gx,rfl,S8,ae,ag,⟨aa,O⟩,E⟩;have b9:=ZO w8 (.cells #[Iv 0,Iv 0] 32);have ZX:Hid (QeX f (w8.alloc (.cells #[Iv 0,Iv 0] 32)) V most m6 (RM.start inp pages) (RM.start inp pages) gx 0):=⟨S8.below b9,ae,E.trans (b9.mono E.size),Yz,fun _=>rfl,Xb _,fun _=>rfl⟩;have M:=Qc ((b.out.below E).new #[Iv 0,Iv 0] 32);clear S8 ae ag aa O E b9 CN f0 L;simp only[Qbw]
 go_upto_region 9 with fail
 generalize w8.alloc (.cells #[Iv 0,Iv 0] 32)=w9 at ZX M |-;generalize w8.heap.size=F3 at M |-;have x1:w9.cell? ⟨X2,0,none⟩=some (.slice A o.length z):=M.out.cell (a:=[_,_,_]) 0 _ Yz;have CY:=Qc (p.out.other w9 M.out.bel);go_wp2_with fail
 refine CY.out.mono ?_;intro ai T hE;obtain⟨yv,c,a,P,rfl,ad,hP,t⟩:=Qg3 p.out.fine p.out.le p.out.goes p.out.ok ZX.out hE
 have H:=Qc ((M.out.below ad).new #[Iv c,Iv a] 32);have t:=Qc t;have HP:=Qc hP;clear hE hP ad CY x1 ZX M;simp only[Qbw]
 go_upto_region 10 with fail
 generalize T.alloc (.cells #[Iv c,Iv a] 32)=ah at H HP |-;generalize T.heap.size=F4 at H t |-;have g0:ah.cell? ⟨F3,0,none⟩=some (Iv 0):=H.out.cell (a:=[_]) 0 _ Yz;go_upto_region 12 with fail
 clear g0;go_loopw [] (fun wr=>∃ X,P wr X) (fun wr=>Qkt V most wr)
 case atStart=>exact⟨_,HP.out⟩
 case round =>
  obtain⟨XN,hX⟩:=hrel
  obtain⟨g,j,u,hj⟩:=t.out.at_ _ _ hX
  have CD:=Qc (QeR u.at_)
  cases hd:XN.done with
  | false =>
    have CX:=Qc (t.out.gx _ _ hX hd);have HL:=Qc u.at_.left;rw[hd] at CD HL
    clear hX u hd hj;go_upto_region 13 with (go_at_call 33;refine CD.out.mono ?_;rintro e' w' ⟨rfl,G⟩;have G:=G.symm;subst G)
    go_wp2_with fail
    refine CX.out.mono ?_;rintro e' aj ⟨rfl,X',d,hf⟩;have f4:=t.out.fb _ _ d;by_cases h:c=0
    ·have CY:=Qc (t.out.gy h _ _ d);have d1:decide (c=0)=true:=Xt h;have d2:(c==0)=true:=beq_iff_eq.2 h;clear d h;go_wp2_with fail
     refine CY.out.mono ?_;rintro e' ak ⟨rfl,d⟩;go_wp2_with fail
     go_roundw
     case rel=>exact⟨_,d⟩
     case measure =>
      obtain⟨g',j',Z',-⟩:=t.out.at_ _ _ d
      rw[HL.out,Z'.at_.left]
      have h6:=Z'.le
      cases hd6:X'.done with
      | true=>simp
      | false=>have:=hf hd6;simp;omega
    ·have d1:decide (c=0)=false:=Xu h;have d2:(c==0)=false:=beq_eq_false_iff_ne.2 h;clear h;go_wp2_with fail
     go_roundw
     case rel=>exact⟨_,d⟩
     case measure =>
      obtain⟨g',j',Z',-⟩:=t.out.at_ _ _ d
      rw[HL.out,Z'.at_.left]
      have h6:=Z'.le
      cases hd6:X'.done with
      | true=>simp
      | false=>have:=hf hd6;simp;omega
  | true =>
    have he:XN=N:=Xn ((u.end_ hj hd).symm.trans HN.out);have J:=QcJ p.out.fine p.out.ok j u.st;have y:Hid (XN.out.length<=100000/\XN.back.length<=100000):=⟨by have:=J.out.1;omega,by have:=J.out.2;omega⟩;have CO:Hid (∀ wx,Below wr.heap.size wr wx->Calls prog 37 #[Pv V 0] wx fun e w'=>∃ v,e=.returned v/\QjH wx.heap.size XN v w'/\Below wx.heap.size wx w'):=fun wx V=>Qcf (u.at_.below V) (by have:=y.out.1;omega) (by have:=y.out.2;omega);have S:=Qc u.bel;have HE:=Qc he;rw[hd] at CD
    clear u hX hd hj he J;go_upto_region 16 with (go_at_call 33;refine CD.out.mono ?_;rintro e' w' ⟨rfl,G⟩;have G:=G.symm;subst G)
    rw[HE.out] at CO y
    refine Code.wp_mono ?_ (Qok (Blk.below (b.out.at (a:=[_])) S.out) (i.out.below S.out) (s.out.below S.out) y.out.2 y.out.1 CO _ _ Yz (Xg (by kernel_rfl)) Yz Yz);rintro _ _ al ⟨rfl,vs,rfl,hv,ac⟩;have BZ:=Qc (b.out.bel.trans ((S.out.trans (ac.mono S.out.size)).mono b.out.bel.size));simp only[QN,Act.put,List.setIfInBounds_toArray,List.set_cons_zero,List.set_cons_succ,hv]
    clear hv ac;go_wp2
    go_ret;exact⟨Yz,BZ.out⟩
def QmA (w:World) (pm:Option Addr) (ml cm:Nat):Prop :=
 (∃ c0 a0:Int,c0≠0/\∀ wx,Below w.heap.size w wx->Calls prog 66 #[.agg #[.slice pm ml cm]] wx fun e w'=>e=.returned (Qbw c0 a0)/\Below wx.heap.size wx w') \/
 ∃ m:List (MFunc 6),m.length=ml/\(Qkv 6).In w All m [.slice pm ml cm]/\¬ Qm m/\(Qq m).1=0
theorem Qh7 {w:World}{m:List (MFunc n)}{pm:Option Addr}{cm:Nat}(e:(QjE n).In w All m [.slice pm m.length cm]) :
 ∃ (dd:Nat) (m':List (MFunc dd)),m'.length=m.length/\(QaN dd).In w All m' [.slice pm m'.length cm]/\(¬ Qm m'->QmA w pm m'.length cm):=by
 by_cases c:(modFault m).1=0
 ·have f:m.length=(m.map (MFunc.at 5)).length:=(XN _).symm;have a:(QjE 6).In w All (m.map (MFunc.at 5)) [.slice pm (m.map (MFunc.at 5)).length cm]:=by rw[<-f];exact QlF (QlZ c) e
  refine⟨6,m.map (MFunc.at 5),f.symm,(QfC 6).2 a,fun b=>?_⟩
  generalize m.map (MFunc.at 5)=g at a b;by_cases r:(Qq g).1=0
  ·exact .inr ⟨g,Z,(QgG 6).2 a,b,r⟩
  ·exact .inl ⟨_,_,r,fun h d=>Qca (Ya ((QgG 6).2 a) d) (ZF b) (fun _=>b)⟩
 ·exact⟨n,m,Z,(QfC n).2 e,fun b=>.inl ⟨_,_,c,fun h d=>Qcj (Ya ((QfC n).2 e) d) (ZF b) c⟩⟩
section
variable {w:World}{inp:List Int}{most pages ml cm ci:Nat}{pm pi:Option Addr}{fu pg:Int}
def Qec (n:Nat) (fu pg:Int):Prop:=¬ (200<n\/fu<0\/20000<fu\/pg<0\/64<pg)
theorem QhH {m:List (MFunc 6)}(d:(Qkv 6).In w All m [.slice pm m.length cm]) (b:¬ Qm m) (H:(Qq m).1=0) (c:intsL.In w All inp [.slice pi inp.length ci]) (hi:inp.length<=200) (f:most<=20000) (g:pages<=64) :
 Calls prog 32 #[.agg #[.slice pm m.length cm],.slice pi inp.length ci,Iv (most:Int),Iv (pages:Int)] w fun e w'=>Qiz w m inp most pages e w' :=
 Qgn ((QbF 6).2 d) (ZF b) c (QmU c) hi f g (fun h a=>Qdg d (ZF b) b H h a)
theorem QmA.other (h:QmA w pm ml cm) (o:intsL.In w All inp [.slice pi inp.length ci]) (hi:inp.length<=200) (j:most<=20000) (d:pages<=64) (f:World) (b:Below w.heap.size w f) :
 Calls prog 32 #[.agg #[.slice pm ml cm],.slice pi inp.length ci,Iv (most:Int),Iv (pages:Int)] f fun e w'=>QgC f inp most pages e w':=by
 rcases h with ⟨c,a,i,n⟩|⟨m,rfl,p,q,H⟩
 ·exact(QiI (fun l g=>n l (b.trans (g.mono b.size))) (by omega) (.inl ⟨i,Z,Z⟩)).mono fun e w' h=>.inl ⟨c,a,i,h.1,h.2⟩
 ·exact(QhH (Ya p b) q H (Ya o b) hi j d).mono fun e w' h=>.inr ⟨m,ZZ H,fun k=>Qd9 H inp d k,QcI (ZZ H) (by omega) d,h⟩
theorem QmA.run (h:QmA w pm ml cm) (r:intsL.In w All inp [.slice pi inp.length ci]) (n:inp.length<1152921504606846976) (p:Value)
 (t:Qec inp.length fu pg->∀ most pages:Nat,fu=(most:Int)->pg=(pages:Int)->∀ wx,Below w.heap.size w wx->Calls prog 32 #[p,.slice pi inp.length ci,Iv (most:Int),Iv (pages:Int)] wx fun e w'=>QgC wx inp most pages e w') :
 (∃ c a:Int,c≠0/\∀ wx,Below w.heap.size w wx->Calls prog 30 #[.agg #[.slice pm ml cm],.slice pi inp.length ci,Iv fu,Iv pg] wx fun e w'=>e=.returned (Qjp c a)/\Below wx.heap.size wx w') \/
  ∃ (m6:List (MFunc 6)) (i6:List Int) (most pages:Nat),fu=(most:Int)/\pg=(pages:Int)/\Qny w (.agg #[.slice pm ml cm]) p (.slice pi inp.length ci) m6 i6 most pages:=by
 rcases h with ⟨c,a,q,u⟩|⟨m,rfl,l,f,H⟩
 ·exact .inl ⟨c,a,q,fun wx b=>Qfv (fun j d=>u j (b.trans (d.mono b.size))) n (.inl ⟨q,Z,Z⟩)⟩
 by_cases s:200<inp.length\/fu<0\/20000<fu\/pg<0\/64<pg
 ·exact .inl ⟨1,-1,by decide,fun wx b=>Qfv (fun j d=>Qdg l (ZF f) f H j (b.trans (d.mono b.size))) n (.inr ⟨Z,s,Z,Z⟩)⟩
 ·obtain⟨most,rfl⟩:∃ k:Nat,fu=(k:Int):=⟨fu.toNat,by omega⟩
  obtain⟨pages,rfl⟩:∃ k:Nat,pg=(k:Int):=⟨pg.toNat,by omega⟩
  have o:inp.length<=200:=by omega
  have i:most<=20000:=by omega
  have g:pages<=64:=by omega
  exact .inr ⟨m,inp,most,pages,Z,Z,ZZ H,i,fun k=>Qd9 H inp g k,QcI (ZZ H) (by omega) g,fun wx b=>Qjh (Ya l b) (ZF f) f H (Ya r b) o i g,fun wx b=>QhH (Ya l b) f H (Ya r b) o i g,t s most pages Z Z⟩
end
theorem Qhu {w:World}{m:List (MFunc n)}{o:List (MFunc k)}{pm d pi:Option Addr}{cm g ci:Nat}{inp:List Int}{fu pg:Int}(s:(QjE n).In w All m [.slice pm m.length cm]) (t:(QjE k).In w All o [.slice d o.length g]) (h:intsL.In w All inp [.slice pi inp.length ci]) (u:inp.length<1152921504606846976) :
 Calls prog 8 #[.agg #[.slice pm m.length cm],.agg #[.slice d o.length g],.slice pi inp.length ci,Iv fu,Iv pg] w fun e w'=>e=.returned (.bool true)/\Below w.heap.size w w':=by
 obtain⟨y,C,q,i,x⟩:=Qh7 s
 obtain⟨l,B,p,r,v⟩:=Qh7 t
 rw[<-q,<-p]
 exact Qj3 i r fun j a _=>(x j).run h u _ fun b f c A z=>(v a).other h (by unfold Qec at b;omega) (by unfold Qec at b;omega) (by unfold Qec at b;omega)
end Go.Proofs.YtjhdpajpibdnaafGreat
