import Derived.Test.YtjhdpajpibdnaafGreatP5
set_option maxHeartbeats 16000000
set_option maxRecDepth 100000
namespace Go.Proofs.YtjhdpajpibdnaafGreat
open Go.ChangeShapes Go.WideShapes Go.ChangeAt Go.RowKit _root_.Go.Proofs.Tryz
set_option linter.unusedSimpArgs false
set_option linter.unusedVariables false
variable {w w' w6 w1 w2:World}{n b c k m rc ac X j B i cm g N d f fi cap bp q R pages id bi cc funcs s ci rl al ca ri vl most cR cA G:Nat}{O Q O':Nat→Prop}{l xs regs inp:List Int}{p a rg ag pm pi pa pR pA ra aa:Option Addr}{t e:TypeId}{v:Value}{P:Program}{L bs:List Bool}{x ya xc xk fr xa xb xn yb:Int}{ds cs:List Value}{ops:Array Oper}
def fI:Qt:=⟨1,0,0,0,0,5,[],[]⟩
def fE:ZA:=⟨3,0,⟨0,[],[]⟩,⟨0,[],[]⟩,[0]⟩
def fB:MBlock 6:=⟨0,[],[fI],fE⟩
def fF:MFunc 6:=⟨0,[],[tInt],[fB]⟩
def five6:List (MFunc 6):=[fF]
theorem five_fault:modFault five6=(0,0):=by decide +kernel
abbrev fBc (G1 Gc Gi:Nat):Array Value:=#[Iv 0,Nv,.slice (some ⟨Gc,0,none⟩) 1 1,Iv 3,Iv 0,Iv 0,Nv,Nv,Iv 0,Nv,Nv,.slice (some ⟨Gi,0,none⟩) 1 1]
theorem QnA (w:World):intsL.In w All ([]:List Int) [Nv]:=Yg _ _ _ _ _
theorem Qlp (w:World):(Lay.tt 6).In w All tInt [Iv 1,Iv 0,Nv]:=⟨none,0,Z,fun i x h=>by simp[tInt] at h,by unfold tInt;exact⟨by decide,fun x h=>by simp at h⟩⟩
theorem Qep {f:MFunc 6}(k:f.params=[]) (n:f.results.length<=1) (a:∀ t∈f.results,t.count<=1){b:MBlock 6}(c:f.blocks=[b]) (o:b.params=[]) (s:b.code.length<=40) (j:b.fin.yes.regs=[]/\b.fin.yes.args=[]/\b.fin.no.regs=[]/\b.fin.no.args=[]/\b.fin.args.length<=1) (q:∀ x∈b.code,x.regs=[]/\x.args=[]):¬ Qm [f]:=by
 rintro (h | ⟨x,g,h⟩)
 ·exact absurd h (by simp)
 ·simp only[List.mem_singleton] at g
  subst g;rcases h with h | h | h | ⟨y,e,h⟩
  ·rw[c] at h;exact absurd h (by simp)
  ·rw[k] at h
   rcases h with h | ⟨t,a,_⟩
   ·exact absurd h (by simp)
   ·cases a
  ·rcases h with h | ⟨t,d,h⟩
   ·have:=n;omega
   ·have:=a t d;omega
  ·rw[c] at e
   simp only[List.mem_singleton] at e
   subst e;obtain⟨l,i,r,p,u⟩:=j
   rcases h with h | h | h | h | h | h | h | ⟨z,m,h⟩
   ·omega
   ·rw[o] at h
    rcases h with h | ⟨t,a,_⟩
    ·exact absurd h (by simp)
    ·cases a
   ·omega
   ·rw[l] at h;exact absurd h (by simp)
   ·rw[i] at h;exact absurd h (by simp)
   ·rw[r] at h;exact absurd h (by simp)
   ·rw[p] at h;exact absurd h (by simp)
   ·have c:=q z m;rw[c.1,c.2] at h
    exact absurd h (by simp)
theorem five_not:¬ Qm five6:=Qep (b:=fB) Z (by decide) (fun t a=>by simp only[fF,List.mem_singleton] at a;subst a;decide) Z Z (by decide) ⟨Z,Z,Z,Z,by decide⟩ (fun x c=>by simp only[fB,List.mem_singleton] at c;subst c;exact⟨Z,Z⟩)
theorem two_not:¬ Qm two6:=Qep (b:=tB) Z (by decide) (fun t c=>by cases c) Z Z (by decide) ⟨Z,Z,Z,Z,by decide⟩ (fun x a=>by have a:x∈two1:=a;simp only[two1,List.mem_cons,List.not_mem_nil,or_false] at a;rcases a with rfl | rfl | rfl | rfl<;>exact⟨Z,Z⟩)
theorem Qjx (w:World):Calls prog 38 #[] w fun e w'=>∃ I C T Y G2 G1 R,e=.returned (.agg #[.slice (some ⟨G2,0,none⟩) 1 1])/\Bxs w w' [(I,#[Iv 0],3),(C,#[Iv 1,Iv 0,Iv 0,Iv 0,Iv 0,Iv 5,Nv,Nv],78),(T,#[Iv 1,Iv 0,Nv],105),(Y,#[.slice (some ⟨G2,0,none⟩) 1 1],24),(G2,#[Iv 0,Nv,.slice (some ⟨T,0,none⟩) 1 1,.slice (some ⟨G1,0,none⟩) 1 1],89),(G1,fBc G1 C I,86),(R,#[.slice (some ⟨G2,0,none⟩) 1 1],24)]:=by
 have h:=Qa ((Bxs.start w).new #[Nv] 24);go_enter func38,ntmps38
 go_upto_region 1 with fail
 generalize w.alloc (.cells #[Nv] 24)=D at h |-;generalize w.heap.size=R at h |-;go_wp2_with fail
 refine(QiJ D).mono ?_
 rintro K u ⟨G1,G2,rfl,A,t,s,y,z,B⟩;have l:=Qa (((h.out.made B A s).add t (Zt h.out.bel.size y) (fun b x=>by simp only[List.mem_cons,List.not_mem_nil,or_false] at x;rcases x with rfl | rfl;exact z;exact fun e=>by have L:R<D.heap.size:=(h.out.at (a:=[])).lt;have e:R=G2:=e;omega)).new #[.slice (some ⟨G2,0,none⟩) 1 1] 24);clear A t s y z B h;go_upto_region 2 with fail
 generalize u.alloc (.cells #[.slice (some ⟨G2,0,none⟩) 1 1] 24)=o at l |-;generalize u.heap.size=Y at l |-;have n:=Qa (l.out.new #[Iv 1,Iv 0,Nv] 105);have j:=l.out.cell (a:=[]) 0 _ Z;have G:=n.out.cell (a:=[_,_]) 2 _ Z;have k:=n.out.free (a:=[_,_]) 2;go_upto_region 3 with fail
 have c:=Qa (n.out.set (a:=[_,_]) 2 (.slice (some ⟨o.heap.size,0,none⟩) 1 1));clear l n j G k;generalize (o.alloc (.cells #[Iv 1,Iv 0,Nv] 105)).setCell ⟨G2,2,none⟩ (.slice (some ⟨o.heap.size,0,none⟩) 1 1)=i at c |-;generalize o.heap.size=T at c |-;have m:=Qa (c.out.new #[Iv 1,Iv 0,Iv 0,Iv 0,Iv 0,Iv 5,Nv,Nv] 78);have j:i.cell? ⟨Y,0,none⟩=some (.slice (some ⟨G2,0,none⟩) 1 1):=c.out.cell (a:=[_]) 0 _ Z;have r:i.cell? ⟨G2,3,none⟩=some (.slice (some ⟨G1,0,none⟩) 1 1):=c.out.cell (a:=[_,_]) 3 _ Z;have q:=m.out.cell (a:=[_,_,_,_]) 2 _ Z;have k:=m.out.free (a:=[_,_,_,_]) 2;go_upto_region 4 with fail
 have g:=Qa (m.out.set (a:=[_,_,_,_]) 2 (.slice (some ⟨i.heap.size,0,none⟩) 1 1));clear c m j r q k;generalize (i.alloc (.cells #[Iv 1,Iv 0,Iv 0,Iv 0,Iv 0,Iv 5,Nv,Nv] 78)).setCell ⟨G1,2,none⟩ (.slice (some ⟨i.heap.size,0,none⟩) 1 1)=d at g |-;generalize i.heap.size=C at g |-;have p:=Qa (g.out.new #[Iv 0] 3);have j:d.cell? ⟨Y,0,none⟩=some (.slice (some ⟨G2,0,none⟩) 1 1):=g.out.cell (a:=[_,_]) 0 _ Z;have r:d.cell? ⟨G2,3,none⟩=some (.slice (some ⟨G1,0,none⟩) 1 1):=g.out.cell (a:=[_,_,_]) 3 _ Z;have q:=p.out.cell (a:=[_,_,_,_,_]) 11 _ Z;have k:=p.out.free (a:=[_,_,_,_,_]) 11;go_upto_region 5 with fail
 have f:=Qa (p.out.set (a:=[_,_,_,_,_]) 11 (.slice (some ⟨d.heap.size,0,none⟩) 1 1));clear g p j r q k;generalize (d.alloc (.cells #[Iv 0] 3)).setCell ⟨G1,11,none⟩ (.slice (some ⟨d.heap.size,0,none⟩) 1 1)=H at f |-;generalize d.heap.size=I at f |-;have j:H.cell? ⟨Y,0,none⟩=some (.slice (some ⟨G2,0,none⟩) 1 1):=f.out.cell (a:=[_,_,_]) 0 _ Z;have M:=f.out.cell (a:=[_,_,_,_,_,_]) 0 _ Z;have J:=f.out.free (a:=[_,_,_,_,_,_]) 0;have E:=Qa (f.out.set (a:=[_,_,_,_,_,_]) 0 (.slice (some ⟨G2,0,none⟩) 1 1));go_wp2
 have F:=E.out.cell (a:=[_,_,_,_,_,_]) 0 _ Z;refine Xy (v:=.agg #[.slice (some ⟨G2,0,none⟩) 1 1]) (by simp[results,results38,go_sem,F]) Z ⟨_,_,_,_,G2,_,_,Z,E.out⟩
def retE:ZA:=⟨3,0,⟨0,[],[]⟩,⟨0,[],[]⟩,[]⟩
def MBlock.outl {n:Nat}(b:MBlock n):MBlock n:=⟨b.regs,b.params,[],retE⟩
def MFunc.outl {n:Nat}(f:MFunc n):MFunc n:=⟨f.regs,f.params,f.results,f.blocks.map MBlock.outl⟩
def outl {n:Nat}(m:List (MFunc n)):List (MFunc n):=m.map MFunc.outl
def JSt.outl (s:JSt):JSt:=⟨Go.Proofs.YtjhdpajpibdnaafGreat.outl s.m,s.f.outl,s.H,s.L⟩
theorem Qa3 (m:List (MFunc n)):(outl m).length=m.length:=XN _
theorem Qej (m:List (MFunc n)) (k:Nat):(outl m)[k]?=(m[k]?).map MFunc.outl:=XS
theorem Qgq (f:MFunc n):f.outl.blocks.length=f.blocks.length:=XN _
theorem Qj7 (f:MFunc n) (k:Nat):f.outl.blocks[k]?=(f.blocks[k]?).map MBlock.outl:=XS
theorem Qc2 (s:JSt) (l:List Int) (ts:List (TT 6)) (a:List Int):s.outl.args l ts a=s.args l ts a:=rfl
theorem QcG (s:JSt):∀ l,s.outl.fields l=s.fields l
 | []=>rfl
 | k::r=>by
   have a:s.outl.at k=s.at k:=rfl;simp only[JSt.fields,a,QcG s r]
theorem QdP (s:JSt) (x:Qt):s.outl.makes x=s.makes x:=by
 have h:∀ k,s.outl.at k=s.at k:=fun _=>rfl;have i:∀ a b c,s.outl.want a b c=s.want a b c:=fun _ _ _=>rfl;have g:s.outl.H=s.H:=rfl;have d:s.outl.f.regs=s.f.regs:=rfl;have e:s.outl.m[x.k.toNat]?=(s.m[x.k.toNat]?).map MFunc.outl:=Qej _ _;unfold JSt.makes;rw[e]
 simp only[h,i,g,d,QcG,Qc2]
 cases s.m[x.k.toNat]?<;>rfl
theorem QeA (s:JSt) (x:Qt):s.outl.code x=s.code x:=by
 have a:s.outl.m.length=s.m.length:=Qa3 _;have b:s.outl.L=s.L:=rfl;unfold JSt.code;rw[a,QdP,b]
theorem QiN (s:JSt) (x:Qt):s.outl.next x=(s.next x).outl:=by
 unfold JSt.next
 rw[QdP]
 rfl
theorem Qko (s:JSt) (x:Qt):s.outl.ins x=(s.ins x).outl:=by
 unfold JSt.ins;rw[QeA]
 split
 ·exact QiN s x
 ·rfl
theorem QiF (s:JSt) (t:MTo):s.outl.to t=s.to t:=by
 have a:s.outl.f.blocks[t.block.toNat]?=(s.f.blocks[t.block.toNat]?).map MBlock.outl:=Qj7 _ _;have c:s.outl.f.regs=s.f.regs:=rfl;have b:s.outl.H=s.H:=rfl;unfold JSt.to;rw[a]
 simp only[c,b,Qc2]
 cases s.f.blocks[t.block.toNat]?<;>rfl
theorem QkQ (s:JSt) (e:ZA):s.outl.fin e=s.fin e:=by
 have d:s.outl.f.blocks.length=s.f.blocks.length:=Qgq _;have g:s.outl.f.regs=s.f.regs:=rfl;have h:s.outl.H=s.H:=rfl;have i:s.outl.f.results=s.f.results:=rfl;have j:∀ a b c,s.outl.want a b c=s.want a b c:=fun _ _ _=>rfl;unfold JSt.fin;rw[d,QiF,QiF,g,h,i,j,Qc2]
theorem QgV (m:List (MFunc 6)) (f:MFunc 6) (b:MBlock 6):JSt.start (outl m) f.outl b.outl=(JSt.start m f b).outl:=rfl
theorem Qg8 {fn:MFunc n}{x:MBlock n}(h:(MBlock.fault funcs f fn b x).1=0):(MBlock.fault funcs f fn.outl b x.outl).1=0:=by
 unfold MBlock.fault at h |-;split at h
 ·cases h
 rename_i m
 split at h
 ·rename_i g;exact absurd h g
 rename_i g
 split at h
 ·cases h
 rename_i k
 have c:¬ (x.outl.regs<fn.outl.regs\/16<x.outl.regs):=m;have a:¬ listC x.outl.regs x.outl.params≠0:=g;have d:¬ (b=0/\(x.outl.regs≠fn.outl.regs\/QcH x.outl.params fn.outl.params=false)):=k;have j:¬ 40<x.outl.code.length:=by show ¬ 40<0;omega
 have l:¬ (firstF (fun i y=>(Qt.form funcs y,(10000*f+100*b+i:Int))) 0 x.outl.code).1≠0:=fun e=>e Z
 have o:¬ x.outl.fin.form fn.outl.blocks.length≠0:=fun e=>e (by
  show ZA.form _ retE=0;simp[ZA.form,retE,MTo.form])
 rw[Xr c,Xr a,Xr d,Xr j,Xr l,Xr o]
theorem QhG {x:MFunc n}(h:(MFunc.fault funcs f x).1=0):(MFunc.fault funcs f x.outl).1=0:=by
 unfold MFunc.fault at h |-;split at h
 ·cases h
 rename_i p
 split at h
 ·rename_i a;exact absurd h a
 rename_i a
 split at h
 ·rename_i a;exact absurd h a
 rename_i m
 split at h
 ·cases h
 rename_i j
 split at h
 ·cases h
 rename_i o
 have d:¬ (x.outl.regs<0\/6<x.outl.regs):=p;have b:¬ listC x.outl.regs x.outl.params≠0:=a;have e:¬ listC x.outl.regs x.outl.results≠0:=m;have g:¬ (x.outl.blocks.length<1\/12<x.outl.blocks.length):=by rw[Qgq];exact j
 have c:¬ (f=0/\¬ (x.outl.regs=0/\x.outl.params.length=0/\x.outl.results.all (fun t=>t.kind==1)=true)):=o;rw[Xr d,Xr b,Xr e,Xr g,Xr c]
 rw[QY]
 intro k y i;rw[Qj7] at i
 obtain⟨z,l,rfl⟩:=Option.map_eq_some_iff.1 i
 exact Qg8 (QR h k z l)
theorem Qgt {m:List (MFunc n)}(h:(modFault m).1=0):(modFault (outl m)).1=0:=by
 unfold modFault at h |-;split at h
 ·cases h
 rename_i b
 rw[Xr (by rw[Qa3];exact b),QY]
 intro k y a;rw[Qej] at a
 obtain⟨z,c,rfl⟩:=Option.map_eq_some_iff.1 a
 rw[Qa3]
 exact QhG (QR h k z c)
theorem Qdz {m:List (MFunc n)}(h:¬ Qm m):¬ Qm (outl m):=by
 rintro (e | ⟨x,b,e⟩)
 ·rw[Qa3] at e;exact h (.inl e)
 ·obtain⟨z,c,rfl⟩:=List.mem_map.1 b
  refine h (.inr ⟨z,c,?_⟩);rcases e with e | e | e | ⟨y,f,e⟩
  ·rw[Qgq] at e;exact .inl e
  ·exact .inr (.inl e)
  ·exact .inr (.inr (.inl e))
  ·obtain⟨q,d,rfl⟩:=List.mem_map.1 f
   refine .inr (.inr (.inr ⟨q,d,?_⟩));rcases e with e | e | e | e | e | e | e | ⟨u,a,e⟩
   ·exact absurd e (by show ¬ 200<0;omega)
   ·exact .inr (.inl e)
   ·exact absurd e (by show ¬ 300<0;omega)
   ·exact absurd e (by show ¬ 300<0;omega)
   ·exact absurd e (by show ¬ 300<0;omega)
   ·exact absurd e (by show ¬ 300<0;omega)
   ·exact absurd e (by show ¬ 300<0;omega)
   ·cases a
abbrev Qaz (g:MBlock 6) (p1 p2:Option Addr) (d1 d2:Nat) (e:EP):Array Value:=#[Iv g.regs,.slice p1 g.params.length d1,.slice p2 g.code.length d2,Iv g.fin.op,Iv g.fin.a,Iv g.fin.yes.block,.slice e.pYR g.fin.yes.regs.length e.cYR,.slice e.pYA g.fin.yes.args.length e.cYA,Iv g.fin.no.block,.slice e.pNR g.fin.no.regs.length e.cNR,.slice e.pNA g.fin.no.args.length e.cNA,.slice e.pA g.fin.args.length e.cA]
theorem QlT {m:List (MFunc 6)}{fn:MFunc 6}{g:MBlock 6}(a:m[f]?=some fn) (c:fn.blocks[b]?=some g):Qgv m (f:Int) (b:Int)=true:=by
 have:=(Zi c).1
 simp[Qgv,a,this]
theorem Zu (h:Blk w R #[Iv 0,Iv 0] 32) (c a:Int):Blk ((w.setCell ⟨R,0,none⟩ (Iv c)).setCell ⟨R,1,none⟩ (Iv a)) R #[Iv c,Iv a] 32:=by
 have:=Qh (Qh h 0 (Iv c)) 1 (Iv a)
 simpa using this
theorem vsizeEnd:(prog.info? 84).map (·.size)=some 9:=by kernel_rfl
theorem Qhd {m:List (MFunc 6)}{fn:MFunc 6}{g:MBlock 6}{p1 D:Option Addr}{d1 F:Nat}{e:EP}(an:(modFault m).1=0) (G:¬ Qm m) (ar:(QaN 6).In w All (outl m) [.slice p m.length c]) (aa:m[f]?=some fn) (W:fn.blocks[b]?=some g) (S:insC.list.In w All g.code [.slice D g.code.length F]) (af:Qdl w All g.fin e) (a2:-9223372036854775808<=g.fin.a/\g.fin.a<=9223372036854775807) :
 Calls prog 108 #[.agg #[.slice p m.length c],Iv (f:Int),Iv (b:Int),.agg (Qaz g p1 D d1 F e)] w fun r w'=>r=.returned (QG (QB (10000*(f:Int)+100*(b:Int)) g.fin (JSt.start m fn g) 0 g.code))/\Below w.heap.size w w':=by
 have a5:=Qa an;have a9:=Qa G;have be:=Qa ar;have ap:=Qa aa;have au:=Qa W;have am:=Qa S;have aw:=Qa af;have a7:=Qa a2;have ac:fn∈m:=Zm aa;have aj:g∈fn.blocks:=Zm W;have ai:Hid (¬ g.great):=fun h=>G (.inr ⟨fn,ac,.inr (.inr (.inr ⟨g,aj,h⟩))⟩)
 have bg:Hid (JOk (JSt.start m fn g).outl):=by
  have:=JOk.start (Qgt an) (Qdz G) (f:=fn.outl) (b:=g.outl) (List.mem_map_of_mem ac) (List.mem_map_of_mem aj)
  rw[QgV] at this
  exact this
 have bm:g.code.length<=200:=Xo fun h=>ai.out (.inl h);have bl:f<1000:=by have h1:=(Zi aa).1;have h2:m.length<=20:=Xo fun x=>G (.inl x);omega
 have bj:b<1000:=by have h1:=(Zi W).1;have h2:fn.blocks.length<=30:=Xo fun x=>G (.inr ⟨fn,ac,.inl x⟩);omega
 have b1:=Zd w (.cells #[.slice p m.length c] 24);have b2:=Zd (w.alloc (.cells #[.slice p m.length c] 24)) (.cells (Qaz g p1 D d1 F e) 86);have b3:=Zd ((w.alloc (.cells #[.slice p m.length c] 24)).alloc (.cells (Qaz g p1 D d1 F e) 86)) (.cells #[Iv 0,Iv 0] 32)
 have V:Hid (Below w.heap.size w (((w.alloc (.cells #[.slice p m.length c] 24)).alloc (.cells (Qaz g p1 D d1 F e) 86)).alloc (.cells #[Iv 0,Iv 0] 32))):=by
  have h:=b2.trans (b3.mono b2.size);exact b1.trans (h.mono b1.size)
 have s1:(w.alloc (.cells #[.slice p m.length c] 24)).heap.size=w.heap.size+1:=World.size_alloc ..;have s2:((w.alloc (.cells #[.slice p m.length c] 24)).alloc (.cells (Qaz g p1 D d1 F e) 86)).heap.size=w.heap.size+1+1:=(World.size_alloc ..).trans (by rw[s1])
 have BM:Hid (Blk (((w.alloc (.cells #[.slice p m.length c] 24)).alloc (.cells (Qaz g p1 D d1 F e) 86)).alloc (.cells #[Iv 0,Iv 0] 32)) w.heap.size #[.slice p m.length c] 24) :=
  Blk.below (Blk.below (Blk.new w #[.slice p m.length c] 24) b2) b3
 have BX:Hid (Blk (((w.alloc (.cells #[.slice p m.length c] 24)).alloc (.cells (Qaz g p1 D d1 F e) 86)).alloc (.cells #[Iv 0,Iv 0] 32)) (w.heap.size+1) (Qaz g p1 D d1 F e) 86):=by
  have:=Blk.below (Blk.new (w.alloc (.cells #[.slice p m.length c] 24)) (Qaz g p1 D d1 F e) 86) b3
  rw[s1] at this
  exact this
 have BR:Hid (Blk (((w.alloc (.cells #[.slice p m.length c] 24)).alloc (.cells (Qaz g p1 D d1 F e) 86)).alloc (.cells #[Iv 0,Iv 0] 32)) (w.heap.size+1+1) #[Iv 0,Iv 0] 32):=by
  have:=Blk.new ((w.alloc (.cells #[.slice p m.length c] 24)).alloc (.cells (Qaz g p1 D d1 F e) 86)) #[Iv 0,Iv 0] 32
  rw[s2] at this
  exact this
 clear b1 b2 b3 s1 s2 ac aj an G ar aa W S af a2;go_enter func108,ntmps108
 go_upto_region 1 with fail
 generalize ((w.alloc (.cells #[.slice p m.length c] 24)).alloc (.cells (Qaz g p1 D d1 F e) 86)).alloc (.cells #[Iv 0,Iv 0] 32)=o at V BM BX BR |-;obtain⟨X,hX⟩:∃ X,X=w.heap.size:=⟨_,Z⟩
 obtain⟨X2,ay⟩:∃ X2,X2=X+1:=⟨_,Z⟩
 obtain⟨R,hR⟩:∃ R,R=X2+1:=⟨_,Z⟩
 have H:Hid (w.heap.size<=R):=by show _<=_;omega
 rw[<-hX] at BM BX BR |-
 rw[<-ay] at BX BR |-
 rw[<-hR] at BR |-
 clear hX ay hR;have x0:=Qb BM.out 0 _ Z;have CN:=Qa (Qkz (w:=o) (m:=outl m) (p:=p) (c:=c) (f:Int) (b:Int) (Qdz a9.out) (by rw[Qa3];exact Ya be.out V.out));rw[Qa3] at CN
 go_wp2_with fail
 refine CN.out.mono ?_;rintro e2 w2 ⟨b2,a8⟩;have a6:Hid (o.heap.size<=w2.heap.size):=b2.size;rcases a8 with ⟨hf,rfl⟩|⟨-,az,rfl⟩|⟨-,-,i,j,bi,g',B,O,A,hi,hj,ae,ad,rfl,hS,hA⟩
 ·exact absurd (Qgt a5.out) hf
 ·rw[QlT (fn:=fn.outl) (g:=g.outl) (by rw[Qej,ap.out];rfl) (by rw[Qj7,au.out];rfl)] at az
  cases az
 have bb:f=i:=by omega
 have bf:b=j:=by omega
 subst bb bf;rw[Qej,ap.out] at ae
 cases ae
 rw[Qj7,au.out] at ad
 cases ad
 have b3:=Zd w2 (.cells #[Iv 0,Iv 0] 32)
 have S3:Hid (SOk (w2.alloc (.cells #[Iv 0,Iv 0] 32)) B o.heap.size ((JSt.start m fn g).upto (g.code.take 0)).outl) :=
  SOk.below ⟨O,A,hS,hA,bg.out⟩ b3
 have B3:Hid (Below o.heap.size o (w2.alloc (.cells #[Iv 0,Iv 0] 32))):=b2.trans (b3.mono b2.size);have F3:Hid (Blk (w2.alloc (.cells #[Iv 0,Iv 0] 32)) w2.heap.size #[Iv 0,Iv 0] 32):=Blk.new _ _ _;clear b2 b3 hS hA CN a6 hi hj;go_upto_region 2 with fail
 generalize w2.alloc (.cells #[Iv 0,Iv 0] 32)=w3 at S3 B3 F3 |-;generalize w2.heap.size=F9 at F3 |-;have f0:=Qb F3.out 0 _ Z;have y2:w3.cell? ⟨X2,2,none⟩=some (.slice D g.code.length F):=Qk (Qb BX.out 2 _ Z) B3.out;clear x0;go_wp2_with fail
 clear f0 y2;go_loopw [29] (fun i wr=>∃ z:Nat,z<=g.code.length/\i=Iv z/\SOk wr B o.heap.size ((JSt.start m fn g).upto (g.code.take z)).outl/\Below o.heap.size o wr/\∀ j y,j<z->g.code[j]?=some y->((JSt.start m fn g).upto (g.code.take j)).code y=0) (fun i _=>g.code.length - (intOf i).toNat)
 case atStart=>exact⟨0,Xb _,Z,S3.out,B3.out,fun j y hj=>absurd hj (XG _)⟩
 case round =>
  obtain⟨z,hz,rfl,hs,hb,ah⟩:=hrel
  have SR:=Qa hs;have q:=Qa hb;have Q:=Qa ah;clear hs hb ah S3 B3 F3;obtain⟨l,bc⟩:∃ l,l=wr:=⟨_,Z⟩
  subst bc;by_cases bd:z<g.code.length
  rotate_left
  ·have a1:¬ (z:Int)<g.code.length:=by omega
   have a0:g.code.take z=g.code:=XO (by omega);rw[a0] at SR
   have RE:Hid (l.rangeAt X2 3 (QbV g.fin e).toList):=fun j v hj=>by
    have:(Qaz g p1 D d1 F e)[3+j]?=some v:=by
     rw[<-Array.getElem?_toList,Nat.add_comm]
     exact hj
    exact Qk (Qb BX.out (3+j) v this) q.out
   have a3:Hid (300>=g.fin.yes.regs.length/\300>=g.fin.yes.args.length/\300>=g.fin.no.regs.length/\300>=g.fin.no.args.length):=by
    have h:=ai.out;unfold MBlock.great at h;simp only[not_or,Nat.not_lt] at h
    exact⟨h.2.2.2.1,h.2.2.2.2.1,h.2.2.2.2.2.1,h.2.2.2.2.2.2.1⟩
   have CE:Hid (Calls prog 165 #[Pv B 0,.agg (QbV g.fin e).toList.toArray] l fun r w'=>r=.returned (Iv (((JSt.start m fn g).upto g.code).fin g.fin))/\Below l.heap.size l w'):=by
    have:=SR.out.end_ ((aw.out.below V.out).below q.out) a7.out (by have:=a3.out;omega)
    rw[QkQ] at this
    exact this
   have BE:Hid (QB (10000*(f:Int)+100*(b:Int)) g.fin (JSt.start m fn g) 0 g.code=if ((JSt.start m fn g).upto g.code).fin g.fin≠0 then (((JSt.start m fn g).upto g.code).fin g.fin,10000*(f:Int)+100*(b:Int)+91) else (0,0)):=Qfh fun j y hj hy=>Q.out j y (by omega) hy;clear a3 a0;generalize ((JSt.start m fn g).upto g.code).fin g.fin=u at CE BE;go_wp2_with (refine wpList_load_mid Z 84 (.tmp 47) Z X2 3 Z (QbV g.fin e).toList _ RE.out underlying84 Z vsizeEnd ?_)
   refine CE.out.mono ?_;rintro e9 w9 ⟨rfl,b9⟩;have U:Hid (Below o.heap.size o w9):=q.out.trans (b9.mono q.out.size);clear b9 q CE RE SR;by_cases ak:u=0
   ·subst ak;have E:Hid (QB (10000*(f:Int)+100*(b:Int)) g.fin (JSt.start m fn g) 0 g.code=(0,0)):=by show _=_;rw[BE.out];rfl
    clear BE;have t:Hid (Blk w9 R #[Iv 0,Iv 0] 32):=Blk.below BR.out U.out;have r0:=Qb t.out 0 _ Z;have r1:=Qb t.out 1 _ Z;have z0:=Qj t.out 0;have z1:=Qj t.out 1;have I:Hid (Blk ((w9.setCell ⟨R,0,none⟩ (Iv 0)).setCell ⟨R,1,none⟩ (Iv 0)) R #[Iv 0,Iv 0] 32):=Zu t.out _ _;have BL:Hid (Below w.heap.size w ((w9.setCell ⟨R,0,none⟩ (Iv 0)).setCell ⟨R,1,none⟩ (Iv 0))):=((V.out.trans (U.out.mono V.out.size)).setCell H.out _).setCell H.out _;go_wp2_with fail
    generalize (w9.setCell ⟨R,0,none⟩ (Iv 0)).setCell ⟨R,1,none⟩ (Iv 0)=av at I BL |-;have e0:=Qb I.out 0 _ Z;have e1:=Qb I.out 1 _ Z;exact Xy (v:=.agg #[Iv 0,Iv 0]) (by simp[results,results108,go_sem,e0,e1]) Z ⟨by rw[E.out],BL.out⟩
   ·have ax:(u != 0)=true:=by simpa using ak
    have E:Hid (QB (10000*(f:Int)+100*(b:Int)) g.fin (JSt.start m fn g) 0 g.code=(u,10000*(f:Int)+100*(b:Int)+91)):=by
     show _=_;rw[BE.out,Xs ak]
    have CA:=Qa (QdH (f:=f) (b:=b) (w:=w9) ⟨by omega,by omega⟩);unfold Rd at CA;clear BE;go_wp2_with fail
    refine CA.out.mono ?_;rintro bh d ⟨rfl,J⟩;have P:Hid (Below o.heap.size o d):=U.out.trans (J.mono U.out.size);clear J U CA;generalize 10000*(f:Int)+100*(b:Int)+91=M at E |-;have t:Hid (Blk d R #[Iv 0,Iv 0] 32):=Blk.below BR.out P.out;have r0:=Qb t.out 0 _ Z;have r1:=Qb t.out 1 _ Z;have z0:=Qj t.out 0;have z1:=Qj t.out 1;have I:Hid (Blk ((d.setCell ⟨R,0,none⟩ (Iv u)).setCell ⟨R,1,none⟩ (Iv M)) R #[Iv u,Iv M] 32):=Zu t.out _ _;have BL:Hid (Below w.heap.size w ((d.setCell ⟨R,0,none⟩ (Iv u)).setCell ⟨R,1,none⟩ (Iv M))):=((V.out.trans (P.out.mono V.out.size)).setCell H.out _).setCell H.out _;go_wp2_with fail
    generalize (d.setCell ⟨R,0,none⟩ (Iv u)).setCell ⟨R,1,none⟩ (Iv M)=av at I BL |-;have e0:=Qb I.out 0 _ Z;have e1:=Qb I.out 1 _ Z;exact Xy (v:=.agg #[Iv u,Iv M]) (by simp[results,results108,go_sem,e0,e1]) Z ⟨by rw[E.out],BL.out⟩
  have a1:(z:Int)<g.code.length:=by omega
  have ab:g.code[z]?=some g.code[z]:=Zg bd;generalize g.code[z]=x at ab;have al:=Qa ab;obtain⟨cg,co,ds,rfl,-,-,s,N⟩:=Yf (Ya (Ya am.out V.out) q.out) ab
  have ag:=QkY N;obtain⟨xa,xc,xb,xd,rfl,T,L,ao,-⟩:=QhF N
  have u0:l.cell? ⟨cg,co+z*8,none⟩=some (Iv x.op):=s 0 (by decide);have u1:l.cell? ⟨cg,co+z*8+1,none⟩=some (Iv x.a):=s 1 (by decide);have u2:l.cell? ⟨cg,co+z*8+2,none⟩=some (Iv x.b):=s 2 (by decide);have u3:l.cell? ⟨cg,co+z*8+3,none⟩=some (Iv x.c):=s 3 (by decide);have u4:l.cell? ⟨cg,co+z*8+4,none⟩=some (Iv x.k):=s 4 (by decide);have u5:l.cell? ⟨cg,co+z*8+5,none⟩=some (Iv x.n):=s 5 (by decide);have u6:l.cell? ⟨cg,co+z*8+6,none⟩=some (.slice xa x.regs.length xc):=s 6 (by decide);have u7:l.cell? ⟨cg,co+z*8+7,none⟩=some (.slice xb x.args.length xd):=s 7 (by decide);have b4:=Zd l (.cells #[Iv x.op,Iv x.a,Iv x.b,Iv x.c,Iv x.k,Iv x.n,.slice xa x.regs.length xc,.slice xb x.args.length xd] 78);have K:Hid (Blk (l.alloc (.cells #[Iv x.op,Iv x.a,Iv x.b,Iv x.c,Iv x.k,Iv x.n,.slice xa x.regs.length xc,.slice xb x.args.length xd] 78)) l.heap.size #[Iv x.op,Iv x.a,Iv x.b,Iv x.c,Iv x.k,Iv x.n,.slice xa x.regs.length xc,.slice xb x.args.length xd] 78):=Blk.new _ _ _;have B4:Hid (Below o.heap.size o (l.alloc (.cells #[Iv x.op,Iv x.a,Iv x.b,Iv x.c,Iv x.k,Iv x.n,.slice xa x.regs.length xc,.slice xb x.args.length xd] 78))):=q.out.trans (b4.mono q.out.size)
  have CI:Hid (Calls prog 164 #[Pv B 0,Qd6 x xa xb xc xd] (l.alloc (.cells #[Iv x.op,Iv x.a,Iv x.b,Iv x.c,Iv x.k,Iv x.n,.slice xa x.regs.length xc,.slice xb x.args.length xd] 78)) fun r w'=>r=.returned (Iv (((JSt.start m fn g).upto (g.code.take z)).code x))/\SOk w' B o.heap.size (((JSt.start m fn g).upto (g.code.take z)).ins x).outl/\Below o.heap.size (l.alloc (.cells #[Iv x.op,Iv x.a,Iv x.b,Iv x.c,Iv x.k,Iv x.n,.slice xa x.regs.length xc,.slice xb x.args.length xd] 78)) w'):=by
   have:=(SR.out.below b4).ins B4.out.size (Ya T b4) (Ya L b4) ao ag
   rw[QeA,Qko] at this
   exact this
  clear s N T L ao ab ag b4 q SR;go_upto_region 7 with fail
  generalize l.alloc (.cells #[Iv x.op,Iv x.a,Iv x.b,Iv x.c,Iv x.k,Iv x.n,.slice xa x.regs.length xc,.slice xb x.args.length xd] 78)=w4 at K B4 CI |-;generalize l.heap.size=bk at K |-;clear u0 u1 u2 u3 u4 u5 u6 u7;have t0:=Qb K.out 0 _ Z;have t1:=Qb K.out 1 _ Z;have t2:=Qb K.out 2 _ Z;have t3:=Qb K.out 3 _ Z;have t4:=Qb K.out 4 _ Z;have t5:=Qb K.out 5 _ Z;have t6:=Qb K.out 6 _ Z;have t7:=Qb K.out 7 _ Z;go_wp2_with fail
  refine CI.out.mono ?_;rintro e9 w9 ⟨rfl,aq,b9⟩;have S9:=Qa aq;have U:Hid (Below o.heap.size o w9):=B4.out.trans b9;clear t0 t1 t2 t3 t4 t5 t6 t7 CI K B4 aq b9;by_cases C:((JSt.start m fn g).upto (g.code.take z)).code x=0
  ·have E:Hid (((JSt.start m fn g).upto (g.code.take z)).ins x=(JSt.start m fn g).upto (g.code.take (z+1))):=by
    show _=_;rw[XV,al.out]
    show _=(JSt.start m fn g).upto (g.code.take z++[x]);rw[JSt.upto_snoc]
    unfold JSt.ins;rw[Xs C]
   have ba:=Qa C;rw[C]
   clear C;go_wp2_with fail
   go_roundw
   case rel =>
    refine⟨z+1,by omega,by go_num,by rw[<-E.out];exact S9.out,U.out,fun j y hj hy=>?_⟩
    by_cases a4:j<z
    ·exact Q.out j y a4 hy
    ·have:j=z:=by omega
     subst this;rw[al.out] at hy
     cases hy
     exact ba.out
   case measure=>simp[intOf];omega
  ·have E:Hid (QB (10000*(f:Int)+100*(b:Int)) g.fin (JSt.start m fn g) 0 g.code=(((JSt.start m fn g).upto (g.code.take z)).code x,10000*(f:Int)+100*(b:Int)+(z:Int))):=Qfa al.out Q.out C;clear S9;generalize ((JSt.start m fn g).upto (g.code.take z)).code x=u at E C |-;have ax:(u != 0)=true:=by simpa using C
   have CA:=Qa (QdS (f:=f) (b:=b) (i:=z) (w:=w9) ⟨by omega,by omega,by omega⟩);unfold Rd at CA;go_wp2_with fail
   refine CA.out.mono ?_;rintro bh d ⟨rfl,J⟩;have P:Hid (Below o.heap.size o d):=U.out.trans (J.mono U.out.size);clear J U CA;generalize 10000*(f:Int)+100*(b:Int)+(z:Int)=M at E |-;have t:Hid (Blk d R #[Iv 0,Iv 0] 32):=Blk.below BR.out P.out;have r0:=Qb t.out 0 _ Z;have r1:=Qb t.out 1 _ Z;have z0:=Qj t.out 0;have z1:=Qj t.out 1;have I:Hid (Blk ((d.setCell ⟨R,0,none⟩ (Iv u)).setCell ⟨R,1,none⟩ (Iv M)) R #[Iv u,Iv M] 32):=Zu t.out _ _;have BL:Hid (Below w.heap.size w ((d.setCell ⟨R,0,none⟩ (Iv u)).setCell ⟨R,1,none⟩ (Iv M))):=((V.out.trans (P.out.mono V.out.size)).setCell H.out _).setCell H.out _;go_wp2_with fail
   generalize (d.setCell ⟨R,0,none⟩ (Iv u)).setCell ⟨R,1,none⟩ (Iv M)=av at I BL |-;have e0:=Qb I.out 0 _ Z;have e1:=Qb I.out 1 _ Z;exact Xy (v:=.agg #[Iv u,Iv M]) (by simp[results,results108,go_sem,e0,e1]) Z ⟨by rw[E.out],BL.out⟩
structure Qbp {α:Type}(A:Lay α) (e:TypeId) (w:World) (a0 lo:Nat) (v:Value) (l:List α) (xs:List Value):Prop where
 own:w.ownsRow lo e A.size v l.length xs
 kids:∀ (i:Nat) (x:α),l[i]?=some x->A.In w (fun g=>(g<a0\/lo<=g)/\v.ownBlock≠some g) x ((xs.drop (i*A.size)).take A.size)
section
variable {α:Type}{A:Lay α}{e:TypeId}{w w':World}{a0 lo:Nat}{v:Value}{l:List α}{xs:List Value}
theorem Qbp.nil (A:Lay α) (e:TypeId) (w:World) (a0 lo:Nat):Qbp A e w a0 lo (Nv) [] []:=⟨⟨by simp,Or.inl ⟨Z,Z⟩⟩,fun i x h=>by simp at h⟩
theorem Qbp.lo_le (h:Qbp A e w a0 lo v l xs)(a:v.ownBlock=some g):lo<=g/\g<w.heap.size:=by
 obtain⟨⟨m,d⟩,k⟩:=h
 rcases d with ⟨rfl,j⟩|⟨n,i,c,rfl,b,f,r⟩
 ·simp[Value.ownBlock] at a
 ·simp[Value.ownBlock] at a;subst a;exact⟨b,XC f⟩
theorem Qbp.form (h:Qbp A e w a0 lo v l xs):∃ a c,v=.slice a l.length c:=by
 obtain⟨⟨k,f⟩,j⟩:=h
 rcases f with ⟨rfl,b⟩|⟨g,i,d,rfl,r⟩
 ·exact⟨none,0,by rw[b]⟩
 ·exact⟨_,_,Z⟩
theorem Qbp.keep (h:Qbp A e w a0 lo v l xs) (f:∀ k,k<w.heap.size->(k<a0\/lo<=k)->w'.heap[k]?=w.heap[k]?):Qbp A e w' a0 lo v l xs:=by
 obtain⟨⟨q,o⟩,p⟩:=h
 refine⟨⟨q,?_⟩,fun i x m=>A.keep (fun k s n=>f k n s.1) (fun _ h _=>h) (p i x m)⟩
 rcases o with j | ⟨g,b,a,e,c,d,r⟩
 ·exact Or.inl j
 ·exact Or.inr ⟨g,b,a,e,c,(f g (XC d) (.inr c)).trans d,r⟩
theorem Qbp.below (h:Qbp A e w a0 lo v l xs) (b:Below w.heap.size w w'):Qbp A e w' a0 lo v l xs:=h.keep fun k a _=>b.block k a
theorem Qbp.setOther (h:Qbp A e w a0 lo v l xs){p:Addr}(b:a0<=p.block/\p.block<lo) (y:Value):Qbp A e (w.setCell p y) a0 lo v l xs :=
 h.keep fun k c a=>Xd _ _ _ _ (by omega)
theorem Qbp.lay (h:Qbp A e w a0 lo v l xs):A.list.In w (fun g=>g<a0\/lo<=g) l [v]:=by
 obtain⟨⟨C,q⟩,s⟩:=h
 rcases q with ⟨rfl,o⟩|⟨g,c,a,rfl,p,m,r,B,z,t⟩
 ·have:l=[]:=Xf.1 o
  subst this;exact Yg A _ _ _ _
 ·refine⟨some ⟨g,0,none⟩,c,Z,fun i x f=>⟨g,0,_,Z,.inr p,XC m,fun j u=>?_,Yc (s i x f) (fun k y _=>y.1)⟩⟩
  have n:i<l.length:=(Zi f).1
  have d:i*A.size+j<l.length*A.size:=by
   have:(i+1)*A.size<=l.length*A.size:=Xp _ n
   rw[Nat.add_mul] at this
   omega
  rw[XR,Xs u,List.getElem?_drop,<-t,XR,Xs d,XK]
  have b:i*A.size+j<a.size:=by
   have:l.length*A.size<=c*A.size:=Xp _ r
   omega
  rw[Array.getElem?_toList]
  exact(Qb m _ a[i*A.size+j] (Xj b)).trans (Xj b).symm
theorem Qbp.push (h:Qbp A e w a0 lo v l xs) (C:a0<=w.heap.size){x:α}(o:A.In w (fun g=>(g<a0\/lo<=g)/\v.ownBlock≠some g) x ds)
  (r:w.grownBy w' v.ownBlock) (d:v.ownBlock=some g\/g=w.heap.size)
 (B:w'.ownsRow lo e A.size (.slice (some ⟨g,0,none⟩) (l.length+1) cap) (l.length+1) (xs++ds)) :
 Qbp A e w' a0 lo (.slice (some ⟨g,0,none⟩) (l.length+1) cap) (l++[x]) (xs++ds):=by
 obtain⟨z,t⟩:=h
 have f:=z.1;have u:=A.len o
 have a:∀ {y:α} {es:List Value},A.In w (fun g=>(g<a0\/lo<=g)/\v.ownBlock≠some g) y es->A.In w' (fun m=>(m<a0\/lo<=m)/\(Value.slice (some ⟨g,0,none⟩) (l.length+1) cap).ownBlock≠some m) y es:=fun b=>by
  refine A.keep (fun k c p=>?_) (fun k c p=>⟨c.1,?_⟩) b
  ·exact r.block k p (fun e=>c.2 e.symm)
  ·simp only[Value.ownBlock,ne_eq,Option.some.injEq]
   intro e;subst e;rcases d with q | q
   ·exact c.2 q
   ·omega
 refine⟨by rw[List.length_append];exact B,fun i y b=>?_⟩
 rw[List.getElem?_append] at b
 split at b
 ·rename_i n
  have s:(i+1)*A.size<=l.length*A.size:=Xp _ n;rw[Nat.add_mul] at s
  have:=t i y b
  rw[List.drop_append_of_le_length (by omega),List.take_append_of_le_length (by simp;omega)]
  exact a this
 ·rename_i n
  have j:i=l.length:=by
   have:=(Zi b).1
   simp at this
   omega
  subst j;simp at b
  subst b;rw[List.drop_append,List.drop_of_length_le (by omega),<-f,Nat.sub_self,List.drop_zero,List.nil_append,XO (by omega)]
  exact a o
end
theorem Qny {b:List Value}(h:b.all (·.oneCell')=true):∀ u∈b,u.oneCell'=true:=Xe.1 h
theorem ret_end :endL.In w O retE [Iv 3,Iv 0,Iv 0,Nv,Nv,Iv 0,Nv,Nv,Nv]:=by
 have a:intsL.In w O ([]:List Int) [Nv]:=Yg _ _ _ _ _;have b:toL.In w O (⟨0,[],[]⟩:MTo) [Iv 0,Nv,Nv]:=⟨[_],_,Z,⟨Z,by decide⟩,[_],_,Z,a,a⟩;exact⟨[_],_,Z,⟨Z,by simp[retE]⟩,[_],_,Z,⟨Z,by simp[retE]⟩,[_,_,_],_,Z,b,[_,_,_],_,Z,b,a⟩
theorem QiI {g:MBlock 6}{f:Option Addr}{e:Nat}(h:(Qp 6).In w O g.params [.slice f g.params.length e]) (i:-9223372036854775808<=g.regs/\g.regs<=9223372036854775807):(Zp 6).In w O g.outl [Iv g.regs,.slice f g.params.length e,Nv,Iv 3,Iv 0,Iv 0,Nv,Nv,Iv 0,Nv,Nv,Nv] :=
 QgA (x:=g.outl) (a:=f) (c:=e) (b:=none) (d:=0) h (Yg _ _ _ _ _) ret_end i
theorem Qiw {m:List (MBlock 6)}(h:(Zp 6).list.In w Q m [.slice p n c]){g:MBlock 6}(b:m[k]?=some g):-9223372036854775808<=g.regs/\g.regs<=9223372036854775807:=by
 obtain⟨v,l,f,j,e,z,o,d⟩:=Yf h b
 obtain⟨u,y,i,x,q,rfl,t,r,s,a⟩:=Qcc d
 exact a
theorem QgG {α β:Type}{f:α->β}{l:List α}{x:α}(h:l[k]?=some x):(l.take (k+1)).map f=(l.take k).map f++[f x]:=by
 rw[XV,h];simp
theorem Qiv {m:List (MFunc 6)}(hm:(QaN 6).In w All m [.slice p m.length c]) (a0:Qbf m) :
 Calls prog 107 #[.agg #[.slice p m.length c]] w fun e w'=>∃ a c',e=.returned (.agg #[.slice a m.length c'])/\(QaN 6).In w' All (outl m) [.slice a m.length c']/\Below w.heap.size w w':=by
 have HM:=Qa hm;have cb:=Qa a0;have cm:m.length<=100000:=a0.1;obtain⟨iB,ca,bn,b0,bd⟩:=pInfoB
 obtain⟨iF,cg,bi,a7,be⟩:=pInfoF
 have b1:=Zd w (.cells #[.slice p m.length c] 24);have b2:=Zd (w.alloc (.cells #[.slice p m.length c] 24)) (.cells #[Nv] 24);have b3:=Zd ((w.alloc (.cells #[.slice p m.length c] 24)).alloc (.cells #[Nv] 24)) (.cells #[Nv] 24)
 have B0:Hid (Below w.heap.size w (((w.alloc (.cells #[.slice p m.length c] 24)).alloc (.cells #[Nv] 24)).alloc (.cells #[Nv] 24))):=by
  have h:=b2.trans (b3.mono b2.size);exact b1.trans (h.mono b1.size)
 have s1:(w.alloc (.cells #[.slice p m.length c] 24)).heap.size=w.heap.size+1:=World.size_alloc ..;have s2:((w.alloc (.cells #[.slice p m.length c] 24)).alloc (.cells #[Nv] 24)).heap.size=w.heap.size+1+1:=(World.size_alloc ..).trans (by rw[s1]);have s3:(((w.alloc (.cells #[.slice p m.length c] 24)).alloc (.cells #[Nv] 24)).alloc (.cells #[Nv] 24)).heap.size=w.heap.size+1+1+1:=(World.size_alloc ..).trans (by rw[s2])
 have BM:Hid (Blk (((w.alloc (.cells #[.slice p m.length c] 24)).alloc (.cells #[Nv] 24)).alloc (.cells #[Nv] 24)) w.heap.size #[.slice p m.length c] 24) :=
  Blk.below (Blk.below (Blk.new w #[.slice p m.length c] 24) b2) b3
 have BR:Hid (Blk (((w.alloc (.cells #[.slice p m.length c] 24)).alloc (.cells #[Nv] 24)).alloc (.cells #[Nv] 24)) (w.heap.size+1) #[Nv] 24):=by
  have:=Blk.below (Blk.new (w.alloc (.cells #[.slice p m.length c] 24)) #[Nv] 24) b3
  rw[s1] at this
  exact this
 have BO:Hid (Blk (((w.alloc (.cells #[.slice p m.length c] 24)).alloc (.cells #[Nv] 24)).alloc (.cells #[Nv] 24)) (w.heap.size+1+1) #[Nv] 24):=by
  have:=Blk.new ((w.alloc (.cells #[.slice p m.length c] 24)).alloc (.cells #[Nv] 24)) #[Nv] 24
  rw[s2] at this
  exact this
 have a2:=Qa s3;clear b1 b2 b3 s1 s2 s3 hm a0;go_enter func107,ntmps107
 go_upto_region 2 with fail
 generalize ((w.alloc (.cells #[.slice p m.length c] 24)).alloc (.cells #[Nv] 24)).alloc (.cells #[Nv] 24)=E at B0 BM BR BO a2 |-;obtain⟨X,hX⟩:∃ X,X=w.heap.size:=⟨_,Z⟩
 obtain⟨R,hR⟩:∃ R,R=X+1:=⟨_,Z⟩
 obtain⟨t,bw⟩:∃ t,t=R+1:=⟨_,Z⟩
 have Q:Hid (w.heap.size<=R/\R<t/\t<E.heap.size):=by have:=a2.out;exact⟨by omega,by omega,by omega⟩
 rw[<-hX] at BM BR BO |-
 rw[<-hR] at BR BO |-
 rw[<-bw] at BO |-
 clear hX hR bw a2;have x0:=Qb BM.out 0 _ Z;go_wp2_with fail
 clear x0;go_loopw [13] (fun i wr=>∃ (k:Nat) (v:Value) (z:List Value),k<=m.length/\i=Iv k/\Blk wr t #[v] 24/\Qbp (ZR 6) 89 wr w.heap.size E.heap.size v ((m.take k).map MFunc.outl) z/\Chg t E wr) (fun i _=>m.length - (intOf i).toNat)
 case atStart=>exact⟨0,_,[],Xb _,Z,BO.out,Qbp.nil _ _ _ _ _,Chg.refl _ _⟩
 case round =>
  obtain⟨k,vF,cF,hk,rfl,a9,s,az⟩:=hrel
  obtain⟨l,cf⟩:∃ l,l=wr:=⟨_,Z⟩
  subst cf;have a3:=Qa a9;have ai:=Qa az;have K:=Qa s;have G:Hid (Below w.heap.size w l):=Chg.last B0.out az (by have:=Q.out;omega) B0.out.size;obtain⟨o,d,bk⟩:=s.form
  have aa:((m.take k).map MFunc.outl).length=k:=by simp;omega
  rw[aa] at bk
  subst bk;clear a9 s az BO;by_cases a4:k<m.length
  rotate_left
  ·have bo:¬ (k:Int)<m.length:=by omega
   have bv:k=m.length:=by omega
   have y0:=Qb a3.out 0 _ Z;have au:Hid (Blk l R #[Nv] 24):=BR.out.chg ai.out (by have:=Q.out;omega);have r0:=Qb au.out 0 _ Z;have z0:=Qj au.out 0
   have RB:Hid (Blk (l.setCell ⟨R,0,none⟩ (.slice o k d)) R #[.slice o k d] 24):=by
    have h9:Blk (l.setCell ⟨R,0,none⟩ (.slice o k d)) R #[.slice o k d] 24:=by
     have:=Qh au.out 0 (.slice o k d)
     simpa using this
    exact h9
   have BL:Hid (Below w.heap.size w (l.setCell ⟨R,0,none⟩ (.slice o k d))):=G.out.setCell Q.out.1 _
   have LY:Hid ((QaN 6).In (l.setCell ⟨R,0,none⟩ (.slice o k d)) All (outl m) [.slice o k d]):=by
    have h:=(K.out.setOther (p:=⟨R,0,none⟩) (by have:=Q.out;exact⟨this.1,by show R<_;omega⟩) (.slice o k d)).lay;rw[XO (by omega)] at h
    exact Yc h (fun _ _ _=>trivial)
   have a8:=Qa bv;clear bv aa;go_wp2_with fail
   generalize l.setCell ⟨R,0,none⟩ (.slice o k d)=cl at RB BL LY |-;have e0:=Qb RB.out 0 _ Z;exact Xy (v:=.agg #[.slice o k d]) (by simp[results,results107,go_sem,e0]) Z ⟨o,d,by rw[a8.out],by rw[<-a8.out];exact LY.out,BL.out⟩
  have bo:(k:Int)<m.length:=by omega
  have ab:m[k]?=some m[k]:=Zg a4;generalize m[k]=f at ab;have ce:=Qa ab;obtain⟨mg,mo,ds,rfl,-,-,af,bq⟩:=Yf HM.out ab
  obtain⟨B,C,A,D,S,V,rfl,ar,ap,a6,bx⟩:=Qas bq
  have v0:l.cell? ⟨mg,mo+k*4,none⟩=some (Iv f.regs):=Qk (show w.cell? ⟨mg,mo+k*4,none⟩=_ from af 0 (by decide)) G.out;have v1:l.cell? ⟨mg,mo+k*4+1,none⟩=some (.slice B f.params.length C):=Qk (show w.cell? ⟨mg,mo+k*4+1,none⟩=_ from af 1 (by decide)) G.out;have v2:l.cell? ⟨mg,mo+k*4+2,none⟩=some (.slice A f.results.length D):=Qk (show w.cell? ⟨mg,mo+k*4+2,none⟩=_ from af 2 (by decide)) G.out;have v3:l.cell? ⟨mg,mo+k*4+3,none⟩=some (.slice S f.blocks.length V):=Qk (show w.cell? ⟨mg,mo+k*4+3,none⟩=_ from af 3 (by decide)) G.out;have bg:Hid ((Qp 6).In w (fun g=>g<w.heap.size) f.params [.slice B f.params.length C]):=Yc ar (fun k _ L=>L);have b4:Hid ((Qp 6).In w (fun g=>g<w.heap.size) f.results [.slice A f.results.length D]):=Yc ap (fun k _ L=>L);have bb:Hid ((Zp 6).list.In w (fun g=>g<w.heap.size) f.blocks [.slice S f.blocks.length V]):=Yc a6 (fun k _ L=>L);have ck:=Qa bx;have cn:f.blocks.length<=100000:=(cb.out.2 f (Zm ab)).1;have b5:=Zd l (.cells #[Iv f.regs,.slice B f.params.length C,.slice A f.results.length D,.slice S f.blocks.length V] 89);have BF:Hid (Blk (l.alloc (.cells #[Iv f.regs,.slice B f.params.length C,.slice A f.results.length D,.slice S f.blocks.length V] 89)) l.heap.size #[Iv f.regs,.slice B f.params.length C,.slice A f.results.length D,.slice S f.blocks.length V] 89):=Blk.new _ _ _;have bs:Hid (Blk (l.alloc (.cells #[Iv f.regs,.slice B f.params.length C,.slice A f.results.length D,.slice S f.blocks.length V] 89)) t #[.slice o k d] 24):=a3.out.below b5;have br:Hid (Qbp (ZR 6) 89 (l.alloc (.cells #[Iv f.regs,.slice B f.params.length C,.slice A f.results.length D,.slice S f.blocks.length V] 89)) w.heap.size E.heap.size (.slice o k d) ((m.take k).map MFunc.outl) cF):=K.out.below b5;have bh:Hid (Chg t E (l.alloc (.cells #[Iv f.regs,.slice B f.params.length C,.slice A f.results.length D,.slice S f.blocks.length V] 89))):=ai.out.allocP _;have I:Hid (Below w.heap.size w (l.alloc (.cells #[Iv f.regs,.slice B f.params.length C,.slice A f.results.length D,.slice S f.blocks.length V] 89))):=G.out.trans (b5.mono G.out.size);have bj:Hid (∀ g,(Value.slice o k d).ownBlock=some g->E.heap.size<=g/\g<l.heap.size):=fun g hg=>K.out.lo_le hg;have S5:Hid (l.heap.size<(l.alloc (.cells #[Iv f.regs,.slice B f.params.length C,.slice A f.results.length D,.slice S f.blocks.length V] 89)).heap.size):=BF.out.lt;have S1:Hid (E.heap.size<=l.heap.size):=ai.out.size;clear af bq ar ap a6 bx b5 a3 K ai G ab;go_upto_region 5 with fail
  generalize l.alloc (.cells #[Iv f.regs,.slice B f.params.length C,.slice A f.results.length D,.slice S f.blocks.length V] 89)=M at BF bs br bh I S5 |-;generalize l.heap.size=XF at BF S5 bj S1 |-;clear v0 v1 v2 v3;have t3:=Qb BF.out 3 _ Z;go_wp2_with fail
  clear t3;go_loopw [6,20] (fun v u wq=>∃ (q:Nat) (z:List Value),q<=f.blocks.length/\u=Iv q/\Qbp (Zp 6) 86 wq w.heap.size M.heap.size v ((f.blocks.take q).map MBlock.outl) z/\Below M.heap.size M wq) (fun _ u _=>f.blocks.length - (intOf u).toNat)
  case atStart=>exact⟨0,[],Xb _,Z,Qbp.nil _ _ _ _ _,Zr⟩
  case round =>
   obtain⟨q,cB,hq,rfl,s,a5⟩:=hrel
   obtain⟨wq,ch⟩:∃ wq,wq=wr:=⟨_,Z⟩
   subst ch;have aj:=Qa s;have BQ:=Qa a5;obtain⟨U,T,b9⟩:=s.form
   have an:((f.blocks.take q).map MBlock.outl).length=q:=by simp;omega
   rw[an] at b9
   subst b9;clear s a5;by_cases bu:q<f.blocks.length
   rotate_left
   ·have aq:¬ (q:Int)<f.blocks.length:=by omega
    have ci:q=f.blocks.length:=by omega
    subst ci;have al:Hid (Blk wq t #[.slice o k d] 24):=bs.out.below BQ.out;have ak:Hid (Blk wq XF #[Iv f.regs,.slice B f.params.length C,.slice A f.results.length D,.slice S f.blocks.length V] 89):=BF.out.below BQ.out;have aw:Hid (Qbp (ZR 6) 89 wq w.heap.size E.heap.size (.slice o k d) ((m.take k).map MFunc.outl) cF):=br.out.below BQ.out;have ay:Hid (Chg t E wq):=bh.out.trans (Chg.below BQ.out);have H:Hid (Below w.heap.size w wq):=I.out.trans (BQ.out.mono I.out.size)
    have FN:Hid ((ZR 6).In wq (fun g=>(g<w.heap.size\/E.heap.size<=g)/\(Value.slice o k d).ownBlock≠some g) f.outl [Iv f.regs,.slice B f.params.length C,.slice A f.results.length D,.slice U f.blocks.length T]):=by
     have o1:=bj.out;have o2:=S5.out;have o3:=Q.out;have o4:=S1.out;have bl:f.outl.blocks.length=f.blocks.length:=Qgq f;have hb:=aj.out.lay;rw[XO Ze] at hb
     have cc:(Zp 6).list.In wq (fun g=>(g<w.heap.size\/E.heap.size<=g)/\(Value.slice o k d).ownBlock≠some g) f.outl.blocks [.slice U f.outl.blocks.length T]:=by
      rw[bl]
      exact Yc hb (fun j hj L=>⟨by rcases hj with hj | hj;exact .inl hj;exact .inr (by omega),fun e=>by have:=o1 j e;rcases hj with hj | hj<;>omega⟩)
     have:=QhV (x:=f.outl) (Yc (Ya bg.out H.out) (fun j hj L=>⟨.inl hj,fun e=>by have:=o1 j e;omega⟩)) (Yc (Ya b4.out H.out) (fun j hj L=>⟨.inl hj,fun e=>by have:=o1 j e;omega⟩)) cc ck.out
     rw[bl] at this
     exact this
    have F:Hid (wq.ownsRow E.heap.size 89 4 (.slice o k d) k cF):=by
     have:=aw.out.own
     rw[aa] at this
     exact this
    have PU:Hid (∀ g n y,y.ownsRow E.heap.size 89 4 (.slice (some ⟨g,0,none⟩) (k+1) n) (k+1) (cF++[Iv f.regs,.slice B f.params.length C,.slice A f.results.length D,.slice U f.blocks.length T])->(wq.alloc (.cells #[Iv f.regs,.slice B f.params.length C,.slice A f.results.length D,.slice U f.blocks.length T] 89)).grownBy y (Value.slice o k d).ownBlock->((Value.slice o k d).ownBlock=some g\/g=wq.heap.size+1) ->
     Qbp (ZR 6) 89 (y.setCell ⟨t,0,none⟩ (.slice (some ⟨g,0,none⟩) (k+1) n)) w.heap.size E.heap.size (.slice (some ⟨g,0,none⟩) (k+1) n) ((m.take (k+1)).map MFunc.outl) (cF++[Iv f.regs,.slice B f.params.length C,.slice A f.results.length D,.slice U f.blocks.length T])/\Blk y t #[.slice o k d] 24/\Chg t E (y.setCell ⟨t,0,none⟩ (.slice (some ⟨g,0,none⟩) (k+1) n))/\Blk (y.setCell ⟨t,0,none⟩ (.slice (some ⟨g,0,none⟩) (k+1) n)) t #[.slice (some ⟨g,0,none⟩) (k+1) n] 24):=by
     intro g n y h1 h2 h3;have b6:Below wq.heap.size wq (wq.alloc (.cells #[Iv f.regs,.slice B f.params.length C,.slice A f.results.length D,.slice U f.blocks.length T] 89)):=Zd _ _;have A5:=aw.out.below b6;have T5:=Ya FN.out b6;have o3:=Q.out;have A9:=Qbp.push A5 (by have:=(H.out.trans (b6.mono H.out.size)).size;exact this) T5 h2 (by simpa using h3) (by rw[aa];exact h1);rw[aa,<-QgG ce.out] at A9
     have C9:Chg t E y:=Chg.grownP (ay.out.trans (Chg.below b6)) h2 (fun k hk=>(A5.lo_le hk).1);have K9:Blk y t #[.slice o k d] 24:=((h2.block t (Zl al.out.lt b6.size) (fun e=>by have:=(A5.lo_le e.symm).1;omega)).trans (al.out.below b6));refine⟨A9.setOther ⟨by show w.heap.size<=t;omega,by show t<_;omega⟩ _,K9,C9.trans (Chg.set _ _ _ K9.lt),?_⟩
     have:=Qh K9 0 (.slice (some ⟨g,0,none⟩) (k+1) n)
     simpa using this
    have cj:E.heap.size<=wq.heap.size:=ay.out.size;have y0:=Qb al.out 0 _ Z;have f0:=Qb ak.out 0 _ Z;have f1:=Qb ak.out 1 _ Z;have f2:=Qb ak.out 2 _ Z;clear al ak aw ay H FN aj BQ;generalize f.params.length=lp at PU f1 |-;generalize f.results.length=lr at PU f2 |-;generalize f.blocks.length=lb at PU aq f0 f1 f2 |-;generalize f.regs=rr at PU f0 |-;go_wp2_with (at_builtin;refine wpList_append_lies _ Z (.tmp 35) (.tmp 44) 22 Z E.heap.size 89 iF (.agg #[Iv 0,Nv,Nv,Nv]) 4 80 pUnderF cg bi a7 be Z (by decide) _ _ _ Z (F.out.alloc _) ⟨wq.heap.size,0,none⟩ 1 1 [Iv rr,.slice B lp C,.slice A lr D,.slice U lb T] Z Z (Qk2 _ [_,_,_,_] _) (Qny Z) (by decide) (by unfold maxLen;omega) (by omega) (by simp;omega) (wq.heap.size+1) (by simp) ?_)
    intro g2 ae y h1 r ac ag;obtain⟨q1,q2,q3,q4⟩:=PU.out g2 ae y h1 r ac
    have A9:=Qa q1;have K9:=Qa q2;have C9:=Qa q3;have N9:=Qa q4;have y9:=Qb q2 0 _ Z;have z9:=Qj q2 0;clear h1 r ac ag F PU q1 q2 q3 q4 y0 f0 f1 f2;go_wp2
    go_roundw
    case rel=>exact⟨k+1,_,_,a4,by go_num,N9.out,A9.out,C9.out⟩
    case measure=>simp[intOf];omega
   have aq:(q:Int)<f.blocks.length:=by omega
   have ad:f.blocks[q]?=some f.blocks[q]:=Zg bu;generalize f.blocks[q]=g at ad;have cd:=Qa ad;have bf:=Qa (Qiw bb.out ad);obtain⟨eg,eo,W,c1,es,rfl,N,bz,bt,ao⟩:=Qbo bb.out ad
   have bp:=Qa bt;have H:Hid (Below w.heap.size w wq):=I.out.trans (BQ.out.mono I.out.size);have ax:Hid (wq.rangeAt eg (eo+q*12) (Value.int .i64 g.regs::Value.slice W g.params.length c1::es)):=Qae N H.out;generalize am:(Value.int .i64 g.regs::Value.slice W g.params.length c1::es)=z at ax;have L:z.length=12:=by rw[<-am];simp[bz]
   have TS:Hid ((prog.info? 86).map (·.size)=some z.length):=by show _=_;rw[L];exact pSizeB
   have TH:Hid ((wq.alloc (.cells #[Iv 0,Nv,Nv,Iv 0,Iv 0,Iv 0,Nv,Nv,Iv 0,Nv,Nv,Nv] 86)).there wq.heap.size 0 z.toArray.size):=by
    intro j hj;rw[List.size_toArray,L] at hj
    rw[XK]
    have hB:=Qe wq #[Iv 0,Nv,Nv,Iv 0,Iv 0,Iv 0,Nv,Nv,Iv 0,Nv,Nv,Nv] 86;refine⟨?_,Qj hB j⟩
    rw[Qb hB j ((#[Iv 0,Nv,Nv,Iv 0,Iv 0,Iv 0,Nv,Nv,Iv 0,Nv,Nv,Nv]:Array Value)[j]'hj) (by simp)];rfl
   have bm:Hid ((prog.info? 86).map (·.size)=some z.toArray.size):=by show _=_;rw[List.size_toArray];exact TS.out
   have TO:Hid (z.toArray.all (·.oneCell')=true):=by
    refine all_oneCell_toArray fun v hv=>?_;rw[<-am] at hv
    rcases List.mem_cons.1 hv with rfl | hv
    ·rfl
    rcases List.mem_cons.1 hv with rfl | hv
    ·rfl
    exact ao v hv
   have B6:Hid (Blk ((wq.alloc (.cells #[Iv 0,Nv,Nv,Iv 0,Iv 0,Iv 0,Nv,Nv,Iv 0,Nv,Nv,Nv] 86)).setCells wq.heap.size 0 z.toArray.toList) wq.heap.size (Value.int .i64 g.regs::Value.slice W g.params.length c1::es).toArray 86):=by
    have h0:Blk (wq.alloc (.cells #[Iv 0,Nv,Nv,Iv 0,Iv 0,Iv 0,Nv,Nv,Iv 0,Nv,Nv,Nv] 86)) wq.heap.size ([]++(#[Iv 0,Nv,Nv,Iv 0,Iv 0,Iv 0,Nv,Nv,Iv 0,Nv,Nv,Nv]:Array Value).toList).toArray 86:=Qe wq _ _;rw[am]
    exact Blk.sets z [] (#[Iv 0,Nv,Nv,Iv 0,Iv 0,Iv 0,Nv,Nv,Iv 0,Nv,Nv,Nv]:Array Value).toList _ (by rw[L];rfl) h0
   have b6:Hid (Below wq.heap.size wq ((wq.alloc (.cells #[Iv 0,Nv,Nv,Iv 0,Iv 0,Iv 0,Nv,Nv,Iv 0,Nv,Nv,Nv] 86)).setCells wq.heap.size 0 z.toArray.toList)):=by
    have:=Qz.setCells (O:=fun k=>k=wq.heap.size) (O':=fun k=>k=wq.heap.size) (b:=wq.heap.size) Z z.toArray.toList 0 _ (Qz.refl _ (wq.alloc (.cells #[Iv 0,Nv,Nv,Iv 0,Iv 0,Iv 0,Nv,Nv,Iv 0,Nv,Nv,Nv] 86)))
    exact(Zd wq _).trans (this.below (by simp) (fun k hk=>by omega))
   clear L am N bz bt ao ad;go_upto_region 9 with (first | (refine wpList_load_mid Z 86 (.tmp 22) Z eg (eo+q*12) Z z _ ax.out underlying86 Z TS.out ?_) | (refine wpList_store_mid Z 86 (.tmp 8) (.tmp 23) Z wq.heap.size 0 z.toArray Z Z TH.out bm.out TO.out ?_))
   have B7:Hid (Blk ((wq.alloc (.cells #[Iv 0,Nv,Nv,Iv 0,Iv 0,Iv 0,Nv,Nv,Iv 0,Nv,Nv,Nv] 86)).setCells wq.heap.size 0 z) wq.heap.size (Value.int .i64 g.regs::Value.slice W g.params.length c1::es).toArray 86):=B6.out;have b7:Hid (Below wq.heap.size wq ((wq.alloc (.cells #[Iv 0,Nv,Nv,Iv 0,Iv 0,Iv 0,Nv,Nv,Iv 0,Nv,Nv,Nv] 86)).setCells wq.heap.size 0 z)):=b6.out;clear B6 b6 TH TS bm TO ax;generalize (wq.alloc (.cells #[Iv 0,Nv,Nv,Iv 0,Iv 0,Iv 0,Nv,Nv,Iv 0,Nv,Nv,Nv] 86)).setCells wq.heap.size 0 z=J at B7 b7 |-;have ah:Hid (Qbp (Zp 6) 86 J w.heap.size M.heap.size (.slice U q T) ((f.blocks.take q).map MBlock.outl) cB):=aj.out.below b7.out;have P:Hid (Below M.heap.size M J):=BQ.out.trans (b7.out.mono BQ.out.size);generalize wq.heap.size=Bx at B7 b7 |-;have g0:J.cell? ⟨Bx,0,none⟩=some (Iv g.regs):=Qb B7.out 0 _ Z;have g1:J.cell? ⟨Bx,1,none⟩=some (.slice W g.params.length c1):=Qb B7.out 1 _ Z
   have F:Hid (J.ownsRow M.heap.size 86 12 (.slice U q T) q cB):=by
    have:=ah.out.own
    rw[an] at this
    exact this
   have PU:Hid (∀ gg n y,y.ownsRow M.heap.size 86 12 (.slice (some ⟨gg,0,none⟩) (q+1) n) (q+1) (cB++[Iv g.regs,.slice W g.params.length c1,Nv,Iv 3,Iv 0,Iv 0,Nv,Nv,Iv 0,Nv,Nv,Nv])->(J.alloc (.cells #[Iv g.regs,.slice W g.params.length c1,Nv,Iv 3,Iv 0,Iv 0,Nv,Nv,Iv 0,Nv,Nv,Nv] 86)).grownBy y (Value.slice U q T).ownBlock->((Value.slice U q T).ownBlock=some gg\/gg=J.heap.size+1) ->
    Qbp (Zp 6) 86 y w.heap.size M.heap.size (.slice (some ⟨gg,0,none⟩) (q+1) n) ((f.blocks.take (q+1)).map MBlock.outl) (cB++[Iv g.regs,.slice W g.params.length c1,Nv,Iv 3,Iv 0,Iv 0,Nv,Nv,Iv 0,Nv,Nv,Nv])/\Below M.heap.size M y):=by
    intro gg n y h1 h2 h3;have b8:Below J.heap.size J (J.alloc (.cells #[Iv g.regs,.slice W g.params.length c1,Nv,Iv 3,Iv 0,Iv 0,Nv,Nv,Iv 0,Nv,Nv,Nv] 86)):=Zd _ _;have A5:=ah.out.below b8;have av:Below w.heap.size w J:=I.out.trans (P.out.mono I.out.size);have o5:=I.out.size
    have T5:(Zp 6).In (J.alloc (.cells #[Iv g.regs,.slice W g.params.length c1,Nv,Iv 3,Iv 0,Iv 0,Nv,Nv,Iv 0,Nv,Nv,Nv] 86)) (fun k=>(k<w.heap.size\/M.heap.size<=k)/\(Value.slice U q T).ownBlock≠some k) g.outl [Iv g.regs,.slice W g.params.length c1,Nv,Iv 3,Iv 0,Iv 0,Nv,Nv,Iv 0,Nv,Nv,Nv] :=
     Ya (QiI (Yc (Ya bp.out av) (fun j hj L=>⟨.inl hj,fun e=>by have:=(ah.out.lo_le e).1;omega⟩)) bf.out) b8
    have A9:=Qbp.push A5 ((av.trans (b8.mono av.size)).size) T5 h2 (by simpa using h3) (by rw[an];exact h1);rw[an,<-QgG cd.out] at A9
    exact⟨A9,(P.out.trans (b8.mono P.out.size)).grown h2 (Zt P.out.size b8.size) (fun k hk=>(A5.lo_le hk).1)⟩
   have cj:M.heap.size<=J.heap.size:=P.out.size;clear B7 b7 ah P aj BQ H bp bf;generalize g.params.length=lp at PU g1 |-;generalize g.regs=rr at PU g0 |-;go_wp2_with (at_builtin;refine wpList_append_lies _ Z (.tmp 24) (.tmp 31) 87 Z M.heap.size 86 iB (.agg #[Iv 0,Nv,Nv,Iv 0,Iv 0,Iv 0,Nv,Nv,Iv 0,Nv,Nv,Nv]) 12 208 pUnderB ca bn b0 bd Z (by decide) _ _ _ Z (F.out.alloc _) ⟨J.heap.size,0,none⟩ 1 1 [Iv rr,.slice W lp c1,Nv,Iv 3,Iv 0,Iv 0,Nv,Nv,Iv 0,Nv,Nv,Nv] Z Z (Qk2 _ [_,_,_,_,_,_,_,_,_,_,_,_] _) (Qny Z) (by decide) (by unfold maxLen;omega) (by omega) (by simp;omega) (J.heap.size+1) (by simp) ?_)
   intro g2 ae y h1 r ac ag;obtain⟨q1,q2⟩:=PU.out g2 ae y h1 r ac
   have A9:=Qa q1;have C9:=Qa q2;clear h1 r ac ag F PU q1 q2 g0 g1;go_wp2
   go_roundw
   case rel=>exact⟨q+1,_,bu,by go_num,A9.out,C9.out⟩
   case measure=>simp[intOf];omega
def QcD (n:Nat):Lay (MBlock n):=(Lay.int.pair ((Qp n).pair (insC.list.pair endL))).via (fun x=>(x.regs,x.params,x.code,x.fin))
def QlF (n:Nat):Lay (MFunc n):=(Lay.int.pair ((Qp n).pair ((Qp n).pair (QcD n).list))).via (fun x=>(x.regs,x.params,x.results,x.blocks))
abbrev Qj6 (n:Nat):Lay (List (MFunc n)):=(QlF n).list
theorem Qht (n:Nat):Lay.Sub (QcD n) (Zp n):=.via (.pair (.refl _) (.pair (.refl _) (.pair (.list ins_sub) (.refl _)))) _
theorem QiY (n:Nat):Lay.Sub (QlF n) (ZR n):=.via (.pair (.refl _) (.pair (.refl _) (.pair (.refl _) (.list (Qht n))))) _
theorem Qbz (n:Nat):Lay.Sub (Qj6 n) (QaN n):=.list (QiY n)
theorem Qhq (n:Nat):Lay.Sub (Qbe n) (QcD n):=.via (.pair (.refl _) (.pair (.refl _) (.pair (.refl _) end_sub))) _
theorem Qio (n:Nat):Lay.Sub (Qe7 n) (QlF n):=.via (.pair (.refl _) (.pair (.refl _) (.pair (.refl _) (.list (Qhq n))))) _
theorem Qgf (n:Nat):Lay.Sub (QhR n) (Qj6 n):=.list (Qio n)
section
variable {w:World}{O:Nat->Prop}{n:Nat}
theorem Qi2 {x:Qt}{b:Option Addr}(f:intsC.In w O x.regs [.slice a x.regs.length c]) (g:intsC.In w O x.args [.slice b x.args.length d]) (e:I64 x.op/\I64 x.a/\I64 x.b/\I64 x.c/\I64 x.k/\I64 x.n):insC.In w O x [Iv x.op,Iv x.a,Iv x.b,Iv x.c,Iv x.k,Iv x.n,.slice a x.regs.length c,.slice b x.args.length d] :=
 ⟨[_],_,Z,⟨Z,e.1⟩,[_],_,Z,⟨Z,e.2.1⟩,[_],_,Z,⟨Z,e.2.2.1⟩,[_],_,Z,⟨Z,e.2.2.2.1⟩,[_],_,Z,⟨Z,e.2.2.2.2.1⟩,[_],_,Z,⟨Z,e.2.2.2.2.2⟩,[_],_,Z,f,g⟩
end
theorem XI:type_of% @Below.setCell:=@Below.setCell
theorem Qfp {m:List (MBlock 6)}(h:(QcD 6).list.In w Q m [.slice p n c]){g:MBlock 6}(q:m[k]?=some g) :
 ∃ mg mo a1 c1 a2 c2 e,p=some ⟨mg,mo,none⟩/\w.rangeAt mg (mo+k*12) (Iv g.regs::.slice a1 g.params.length c1::.slice a2 g.code.length c2::(QbV g.fin e).toList)/\insC.list.In w Q g.code [.slice a2 g.code.length c2]/\Qdl w Q g.fin e/\(-9223372036854775808<=g.fin.a/\g.fin.a<=9223372036854775807):=by
 obtain⟨mg,mo,u,o,t,x,r,_,_,rfl,⟨rfl,_⟩,_,_,rfl,i,_,_,rfl,f,s⟩:=Yf h q
 obtain⟨a1,c1,rfl,i⟩:=QK i
 obtain⟨a2,c2,rfl,f⟩:=QK f
 obtain⟨e,rfl,b⟩:=QdZ s
 refine⟨mg,mo,a1,c1,a2,c2,e,o,fun j v l=>?_,f,⟨b.yes.regs,b.yes.args,b.no.regs,b.no.args,b.args⟩,b.bnd.2⟩
 have d:j<12:=(Zi l).1
 have:=r j d
 rw[show (QcD 6).size=12 from Z] at this
 rw[this]
 exact l
structure VcS (w wr:World) (X R A4:Nat) (pm pa:Option Addr) (cm ca:Nat) (m:List (MFunc 6)):Prop where
 bel:Below w.heap.size w wr
 x:Blk wr X #[.slice pm m.length cm] 24
 r:Blk wr R #[Iv 0,Iv 0] 32
 a:Blk wr A4 #[.slice pa m.length ca] 24
 om:(QaN 6).In wr All (outl m) [.slice pa m.length ca]
theorem VcS.below {wr:World}{b:Nat}{m:List (MFunc 6)}(h:VcS w wr X R b pm pa cm ca m) (k:Below wr.heap.size wr w'):VcS w w' X R b pm pa cm ca m :=
 ⟨h.bel.trans (k.mono h.bel.size),h.x.below k,h.r.below k,h.a.below k,Ya h.om k⟩
theorem Qcm {m:List (MFunc n)}(F:(QaN n).In w All m [.slice p m.length c]) (q:Qbf m) (d:(modFault m).1≠0) :
 Calls prog 66 #[.agg #[.slice p m.length c]] w fun e w'=>e=.returned (QG (modFault m))/\Below w.heap.size w w':=by
 have K:=Qa F;have A:=Qa q;have C:=Zd w (.cells #[.slice p m.length c] 24);have h:=Zd (w.alloc (.cells #[.slice p m.length c] 24)) (.cells #[Iv 0,Iv 0] 32);have o:Hid (Below w.heap.size w ((w.alloc (.cells #[.slice p m.length c] 24)).alloc (.cells #[Iv 0,Iv 0] 32))):=C.trans (h.mono C.size);have k:Hid (Blk ((w.alloc (.cells #[.slice p m.length c] 24)).alloc (.cells #[Iv 0,Iv 0] 32)) w.heap.size #[.slice p m.length c] 24):=Blk.new1 ..;have l:Hid (Blk ((w.alloc (.cells #[.slice p m.length c] 24)).alloc (.cells #[Iv 0,Iv 0] 32)) (w.heap.size+1) #[Iv 0,Iv 0] 32):=Blk.new2 ..;clear C h F q;go_enter func66,ntmps66
 go_upto_region 1 with fail
 generalize (w.alloc (.cells #[.slice p m.length c] 24)).alloc (.cells #[Iv 0,Iv 0] 32)=S at o k l |-;obtain⟨X,J⟩:∃ X,X=w.heap.size:=⟨_,Z⟩
 obtain⟨R,I⟩:∃ R,R=X+1:=⟨_,Z⟩
 have i:Hid (w.heap.size<=R):=by show _<=_;omega
 rw[<-J] at k l |-
 rw[<-I] at l |-
 clear J I;have L:=Qb k.out 0 _ Z;have D:=Qa (Qb9 (Ya K.out o.out) A.out);unfold Rd at D;go_wp2_with fail
 refine D.out.mono ?_;rintro P f ⟨rfl,h⟩;obtain⟨a,b,g⟩:∃ a b,modFault m=(a,b):=⟨_,_,Z⟩
 have j:Hid (modFault m=(a,b)):=g;rw[g]
 clear g;have u:=h.trans ((Zd f (.cells #[Iv a,Iv b] 32)).mono h.size);have B:Hid (Blk (f.alloc (.cells #[Iv a,Iv b] 32)) X #[.slice p m.length c] 24):=k.out.below u;have s:Hid (Blk (f.alloc (.cells #[Iv a,Iv b] 32)) R #[Iv 0,Iv 0] 32):=l.out.below u;have t:Hid (Below w.heap.size w (f.alloc (.cells #[Iv a,Iv b] 32))):=o.out.trans (u.mono o.out.size);have y:Hid (Blk (f.alloc (.cells #[Iv a,Iv b] 32)) f.heap.size #[Iv a,Iv b] 32):=Blk.new _ _ _;simp only[QG]
 clear h u D L k l o;go_upto_region 2 with fail
 generalize f.alloc (.cells #[Iv a,Iv b] 32)=x at B s t y |-;generalize f.heap.size=F9 at y |-
 have H:(a != 0)=true:=by
  have:a≠0:=by rw[j.out] at d;exact d
  simpa using this
 clear d;have f0:=Qb y.out 0 _ Z;have T:=Qb y.out 1 _ Z;have E:Hid (modFault m=(a,b)):=j.out;have r:Hid (Blk x R #[Iv 0,Iv 0] 32):=s.out;have U:=Qb r.out 0 _ Z;have W:=Qb r.out 1 _ Z;have Q:=Qj r.out 0;have V:=Qj r.out 1;have z:Hid (Blk ((x.setCell ⟨R,0,none⟩ (Iv a)).setCell ⟨R,1,none⟩ (Iv b)) R #[Iv a,Iv b] 32):=Zu r.out _ _;have G:Hid (Below w.heap.size w ((x.setCell ⟨R,0,none⟩ (Iv a)).setCell ⟨R,1,none⟩ (Iv b))):=(XI t.out (p:=⟨R,0,none⟩) i.out _).setCell (p:=⟨R,1,none⟩) i.out _;go_wp2_with fail
 generalize (x.setCell ⟨R,0,none⟩ (Iv a)).setCell ⟨R,1,none⟩ (Iv b)=N at z G |-;have O:=Qb z.out 0 _ Z;have M:=Qb z.out 1 _ Z;exact Xy (v:=.agg #[Iv a,Iv b]) (by simp[results,results66,go_sem,O,M]) Z ⟨by rw[E.out],G.out⟩
theorem Qcd {m:List (MFunc 6)}(hm:(Qj6 6).In w All m [.slice p m.length c]) (aj:Qbf m) (ap:(modFault m).1=0->¬ Qm m) :
 Calls prog 66 #[.agg #[.slice p m.length c]] w fun e w'=>e=.returned (QG (Qq m))/\Below w.heap.size w w':=by
 by_cases hz:(modFault m).1=0
 rotate_left
 ·have e:Qq m=modFault m:=by unfold Qq;rw[Xs hz]
  rw[e]
  exact Qcm ((Qbz 6).2 hm) aj hz
 have hg:=ap hz;have HM:=Qa hm;have am:=Qa aj;have HG:=Qa hg;have ad:=Qa hz;have bb:m.length<=20:=Xo fun x=>hg (.inl x);have E0:Hid (Qq m=firstF (Qaa m) 0 m):=by show _=_;unfold Qq;rw[Xr (fun h=>h hz)]
 clear hg ap hz;have b1:=Zd w (.cells #[.slice p m.length c] 24);have b2:=Zd (w.alloc (.cells #[.slice p m.length c] 24)) (.cells #[Iv 0,Iv 0] 32);have B0:Hid (Below w.heap.size w ((w.alloc (.cells #[.slice p m.length c] 24)).alloc (.cells #[Iv 0,Iv 0] 32))):=b1.trans (b2.mono b1.size);have BX:Hid (Blk ((w.alloc (.cells #[.slice p m.length c] 24)).alloc (.cells #[Iv 0,Iv 0] 32)) w.heap.size #[.slice p m.length c] 24):=Blk.new1 ..;have BR:Hid (Blk ((w.alloc (.cells #[.slice p m.length c] 24)).alloc (.cells #[Iv 0,Iv 0] 32)) (w.heap.size+1) #[Iv 0,Iv 0] 32):=Blk.new2 ..;clear b1 b2 hm aj;go_enter func66,ntmps66
 go_upto_region 1 with fail
 generalize (w.alloc (.cells #[.slice p m.length c] 24)).alloc (.cells #[Iv 0,Iv 0] 32)=w1 at B0 BX BR |-;obtain⟨X,hX⟩:∃ X,X=w.heap.size:=⟨_,Z⟩
 obtain⟨R,hR⟩:∃ R,R=X+1:=⟨_,Z⟩
 have U:Hid (w.heap.size<=R):=by show _<=_;omega
 rw[<-hX] at BX BR |-
 rw[<-hR] at BR |-
 clear hX hR;have x0:=Qb BX.out 0 _ Z;have CC:=Qa (Qb9 (Ya ((Qbz 6).2 HM.out) B0.out) am.out);unfold Rd at CC;go_wp2_with fail
 refine CC.out.mono ?_;rintro e2 V ⟨rfl,b2⟩;obtain⟨H,M,ac⟩:∃ H M,modFault m=(H,M):=⟨_,_,Z⟩
 have al:Hid (modFault m=(H,M)):=ac;rw[ac]
 clear ac;have b3:=b2.trans ((Zd V (.cells #[Iv H,Iv M] 32)).mono b2.size);have N:Hid (Blk (V.alloc (.cells #[Iv H,Iv M] 32)) X #[.slice p m.length c] 24):=BX.out.below b3;have ah:Hid (Blk (V.alloc (.cells #[Iv H,Iv M] 32)) R #[Iv 0,Iv 0] 32):=BR.out.below b3;have B:Hid (Below w.heap.size w (V.alloc (.cells #[Iv H,Iv M] 32))):=B0.out.trans (b3.mono B0.out.size);have F3:Hid (Blk (V.alloc (.cells #[Iv H,Iv M] 32)) V.heap.size #[Iv H,Iv M] 32):=Blk.new _ _ _;simp only[QG]
 clear b2 b3 CC x0 BX BR B0;go_upto_region 2 with fail
 generalize V.alloc (.cells #[Iv H,Iv M] 32)=w3 at N ah B F3 |-;generalize V.heap.size=F9 at F3 |-;have a9:H=0:=by have:=ad.out;rw[al.out] at this;exact this
 subst a9;have f0:=Qb F3.out 0 _ Z;have f1:=Qb F3.out 1 _ Z;have x3:=Qb N.out 0 _ Z;have CO:=Qa (Qiv (w:=w3) (m:=m) (p:=p) (c:=c) (Ya ((Qbz 6).2 HM.out) B.out) am.out);clear al;go_wp2_with fail
 refine CO.out.mono ?_;rintro e4 w4 ⟨F,l,rfl,an,b4⟩;have b5:=Zd w4 (.cells #[.slice F m.length l] 24)
 have S:Hid (VcS w (w4.alloc (.cells #[.slice F m.length l] 24)) X R w4.heap.size p F c l m) :=
  ⟨(B.out.trans (b4.mono B.out.size)).trans (b5.mono (Zt B.out.size b4.size)),(N.out.below b4).below b5,(ah.out.below b4).below b5,Blk.new _ _ _,Ya an b5⟩
 clear an b4 b5 CO x3 f0 f1 N ah B F3;go_upto_region 5 with fail
 generalize w4.alloc (.cells #[.slice F m.length l] 24)=w5 at S |-;generalize w4.heap.size=A4 at S |-;have x0:=Qb S.out.x 0 _ Z;go_wp2_with fail
 clear x0;go_loopw [21] (fun i wr=>∃ k:Nat,k<=m.length/\i=Iv k/\VcS w wr X R A4 p F c l m/\∀ j f,j<k->m[j]?=some f->(Qaa m j f).1=0) (fun i _=>m.length - (intOf i).toNat)
 case atStart=>exact⟨0,Xb _,Z,S.out,fun j f hj=>absurd hj (XG _)⟩
 case round =>
  obtain⟨k,hk,rfl,hs,o⟩:=hrel
  have SR:=Qa hs;have J:=Qa o;clear hs o S;obtain⟨s,a6⟩:∃ s,s=wr:=⟨_,Z⟩
  subst a6;by_cases ay:k<m.length
  rotate_left
  ·have ar:¬ (k:Int)<m.length:=by omega
   have E:Hid (Qq m=(0,0)):=by
    show _=_;rw[E0.out]
    exact QY fun j f hj=>by rw[XK];exact J.out j f (by have:=(Zi hj).1;omega) hj
   have I:Hid (Blk s R #[Iv 0,Iv 0] 32):=SR.out.r;have r0:=Qb I.out 0 _ Z;have r1:=Qb I.out 1 _ Z;have z0:=Qj I.out 0;have z1:=Qj I.out 1;have RB:Hid (Blk ((s.setCell ⟨R,0,none⟩ (Iv 0)).setCell ⟨R,1,none⟩ (Iv 0)) R #[Iv 0,Iv 0] 32):=Zu I.out _ _;have BL:Hid (Below w.heap.size w ((s.setCell ⟨R,0,none⟩ (Iv 0)).setCell ⟨R,1,none⟩ (Iv 0))):=(XI SR.out.bel (p:=⟨R,0,none⟩) U.out _).setCell (p:=⟨R,1,none⟩) U.out _;go_wp2_with fail
   generalize (s.setCell ⟨R,0,none⟩ (Iv 0)).setCell ⟨R,1,none⟩ (Iv 0)=a7 at RB BL |-;have e0:=Qb RB.out 0 _ Z;have e1:=Qb RB.out 1 _ Z;exact Xy (v:=.agg #[Iv 0,Iv 0]) (by simp[results,results66,go_sem,e0,e1]) Z ⟨by rw[E.out],BL.out⟩
  have ar:(k:Int)<m.length:=by omega
  have G:m[k]?=some m[k]:=Zg ay;generalize m[k]=f at G;have af:=Qa G;obtain⟨D,C,ds,rfl,-,-,K,_,_,rfl,⟨rfl,_⟩,_,_,rfl,t1,_,_,rfl,t2,t3⟩:=Yf HM.out G
  obtain⟨a1,c1,rfl,t1⟩:=QK t1
  obtain⟨a2,c2,rfl,t2⟩:=QK t2
  obtain⟨a3,c3,rfl,t3⟩:=QK t3
  have v0:s.cell? ⟨D,C+k*4,none⟩=some (Iv f.regs):=Qk (show w.cell? ⟨D,C+k*4,none⟩=_ from K 0 (by decide)) SR.out.bel;have v1:s.cell? ⟨D,C+k*4+1,none⟩=some (.slice a1 f.params.length c1):=Qk (show w.cell? ⟨D,C+k*4+1,none⟩=_ from K 1 (by decide)) SR.out.bel;have v2:s.cell? ⟨D,C+k*4+2,none⟩=some (.slice a2 f.results.length c2):=Qk (show w.cell? ⟨D,C+k*4+2,none⟩=_ from K 2 (by decide)) SR.out.bel;have v3:s.cell? ⟨D,C+k*4+3,none⟩=some (.slice a3 f.blocks.length c3):=Qk (show w.cell? ⟨D,C+k*4+3,none⟩=_ from K 3 (by decide)) SR.out.bel;have a0:Hid ((QcD 6).list.In w All f.blocks [.slice a3 f.blocks.length c3]):=t3;have a4:Hid (f∈m):=Zm G;have bd:f.blocks.length<=30:=Xo fun h=>HG.out (.inr ⟨f,a4.out,.inl h⟩);have b6:=Zd s (.cells #[Iv f.regs,.slice a1 f.params.length c1,.slice a2 f.results.length c2,.slice a3 f.blocks.length c3] 89);have S6:Hid (VcS w (s.alloc (.cells #[Iv f.regs,.slice a1 f.params.length c1,.slice a2 f.results.length c2,.slice a3 f.blocks.length c3] 89)) X R A4 (some ⟨D,C,none⟩) F c l m):=SR.out.below b6;have BF:Hid (Blk (s.alloc (.cells #[Iv f.regs,.slice a1 f.params.length c1,.slice a2 f.results.length c2,.slice a3 f.blocks.length c3] 89)) s.heap.size #[Iv f.regs,.slice a1 f.params.length c1,.slice a2 f.results.length c2,.slice a3 f.blocks.length c3] 89):=Blk.new _ _ _;clear K t1 t2 t3 G b6 SR;go_upto_region 8 with fail
  generalize s.alloc (.cells #[Iv f.regs,.slice a1 f.params.length c1,.slice a2 f.results.length c2,.slice a3 f.blocks.length c3] 89)=w6 at S6 BF |-;generalize s.heap.size=XF at BF |-;clear v0 v1 v2 v3;have t3:=Qb BF.out 3 _ Z;go_wp2_with fail
  clear t3 BF;go_loopw [29] (fun i wq=>∃ q:Nat,q<=f.blocks.length/\i=Iv q/\VcS w wq X R A4 (some ⟨D,C,none⟩) F c l m/\∀ j g,j<q->f.blocks[j]?=some g->(QB (10000*(k:Int)+100*(j:Int)) g.fin (JSt.start m f g) 0 g.code).1=0) (fun i _=>f.blocks.length - (intOf i).toNat)
  case atStart=>exact⟨0,Xb _,Z,S6.out,fun j g hj=>absurd hj (XG _)⟩
  case round =>
   obtain⟨q,hq,rfl,hs,o⟩:=hrel
   have SQ:=Qa hs;have u:=Qa o;clear hs o S6;obtain⟨d,az⟩:∃ d,d=wr:=⟨_,Z⟩
   subst az;by_cases a8:q<f.blocks.length
   rotate_left
   ·have av:¬ (q:Int)<f.blocks.length:=by omega
    have E:Hid ((Qaa m k f).1=0):=by
     show _=_;unfold Qaa;rw[QY fun j g hj=>by rw[XK];exact u.out j g (by have:=(Zi hj).1;omega) hj]
    go_wp2_with fail
    go_roundw
    case rel =>
     refine⟨k+1,by omega,by go_num,SQ.out,fun j y hj hy=>?_⟩
     by_cases aa:j<k
     ·exact J.out j y aa hy
     ·have:j=k:=by omega
      subst this;rw[af.out] at hy
      cases hy
      exact E.out
    case measure=>simp[intOf];omega
   have av:(q:Int)<f.blocks.length:=by omega
   have P:f.blocks[q]?=some f.blocks[q]:=Zg a8;generalize f.blocks[q]=g at P;have ae:=Qa P;obtain⟨eg,eo,p1,d1,p2,d2,e,rfl,z,L,W,ax⟩:=Qfp a0.out P
   have ai:=Qa L;have au:=Qa W;have a5:=Qa ax;have ag:Hid (d.rangeAt eg (eo+q*12) (Value.int .i64 g.regs::Value.slice p1 g.params.length d1::Value.slice p2 g.code.length d2::(QbV g.fin e).toList)):=Qae z SQ.out.bel;generalize T:(Value.int .i64 g.regs::Value.slice p1 g.params.length d1::Value.slice p2 g.code.length d2::(QbV g.fin e).toList)=n at ag;have hl:n.length=12:=by rw[<-T];rfl
   have TS:Hid ((prog.info? 86).map (·.size)=some n.length):=by show _=_;rw[hl];exact pSizeB
   have TH:Hid ((d.alloc (.cells #[Iv 0,Nv,Nv,Iv 0,Iv 0,Iv 0,Nv,Nv,Iv 0,Nv,Nv,Nv] 86)).there d.heap.size 0 n.toArray.size):=by
    intro j hj;rw[List.size_toArray,hl] at hj
    rw[XK]
    have hB:=Qe d #[Iv 0,Nv,Nv,Iv 0,Iv 0,Iv 0,Nv,Nv,Iv 0,Nv,Nv,Nv] 86;refine⟨?_,Qj hB j⟩
    rw[Qb hB j ((#[Iv 0,Nv,Nv,Iv 0,Iv 0,Iv 0,Nv,Nv,Iv 0,Nv,Nv,Nv]:Array Value)[j]'hj) (by simp)];rfl
   have aq:Hid ((prog.info? 86).map (·.size)=some n.toArray.size):=by show _=_;rw[List.size_toArray];exact TS.out
   have TO:Hid (n.toArray.all (·.oneCell')=true):=by
    refine all_oneCell_toArray fun v hv=>?_;rw[<-T] at hv
    simp only[QbV,List.mem_cons,List.not_mem_nil,or_false] at hv
    rcases hv with rfl | rfl | rfl | rfl | rfl | rfl | rfl | rfl | rfl | rfl | rfl | rfl<;>rfl
   have B6:Hid (Blk ((d.alloc (.cells #[Iv 0,Nv,Nv,Iv 0,Iv 0,Iv 0,Nv,Nv,Iv 0,Nv,Nv,Nv] 86)).setCells d.heap.size 0 n.toArray.toList) d.heap.size n.toArray 86):=by
    have h0:Blk (d.alloc (.cells #[Iv 0,Nv,Nv,Iv 0,Iv 0,Iv 0,Nv,Nv,Iv 0,Nv,Nv,Nv] 86)) d.heap.size ([]++(#[Iv 0,Nv,Nv,Iv 0,Iv 0,Iv 0,Nv,Nv,Iv 0,Nv,Nv,Nv]:Array Value).toList).toArray 86:=Qe d _ _;exact Blk.sets n [] (#[Iv 0,Nv,Nv,Iv 0,Iv 0,Iv 0,Nv,Nv,Iv 0,Nv,Nv,Nv]:Array Value).toList _ (by rw[hl];rfl) h0
   have b6:Hid (Below d.heap.size d ((d.alloc (.cells #[Iv 0,Nv,Nv,Iv 0,Iv 0,Iv 0,Nv,Nv,Iv 0,Nv,Nv,Nv] 86)).setCells d.heap.size 0 n.toArray.toList)):=by
    have:=Qz.setCells (O:=fun k=>k=d.heap.size) (O':=fun k=>k=d.heap.size) (b:=d.heap.size) Z n.toArray.toList 0 _ (Qz.refl _ (d.alloc (.cells #[Iv 0,Nv,Nv,Iv 0,Iv 0,Iv 0,Nv,Nv,Iv 0,Nv,Nv,Nv] 86)))
    exact(Zd d _).trans (this.below (by simp) (fun k hk=>by omega))
   have ao:Hid ((Value.int .i64 g.regs::Value.slice p1 g.params.length d1::Value.slice p2 g.code.length d2::(QbV g.fin e).toList)=n):=T;clear hl T z L W ax P;go_upto_region 11 with (first | (refine wpList_load_mid Z 86 (.tmp 32) Z eg (eo+q*12) Z n _ ag.out underlying86 Z TS.out ?_) | (refine wpList_store_mid Z 86 (.tmp 8) (.tmp 33) Z d.heap.size 0 n.toArray Z Z TH.out aq.out TO.out ?_))
   have B7:Hid (Blk ((d.alloc (.cells #[Iv 0,Nv,Nv,Iv 0,Iv 0,Iv 0,Nv,Nv,Iv 0,Nv,Nv,Nv] 86)).setCells d.heap.size 0 n) d.heap.size n.toArray 86):=B6.out;have S7:Hid (VcS w ((d.alloc (.cells #[Iv 0,Nv,Nv,Iv 0,Iv 0,Iv 0,Nv,Nv,Iv 0,Nv,Nv,Nv] 86)).setCells d.heap.size 0 n) X R A4 (some ⟨D,C,none⟩) F c l m):=SQ.out.below b6.out;clear B6 b6 TH aq TO ag SQ;generalize (d.alloc (.cells #[Iv 0,Nv,Nv,Iv 0,Iv 0,Iv 0,Nv,Nv,Iv 0,Nv,Nv,Nv] 86)).setCells d.heap.size 0 n=w7 at B7 S7 |-;generalize d.heap.size=Bx at B7 |-;have y0:=Qb S7.out.a 0 _ Z;have aw:Hid (w7.rangeAt Bx 0 n):=Blk.range B7.out
   have CB:Hid (Calls prog 108 #[.agg #[.slice F m.length l],Iv (k:Int),Iv (q:Int),.agg n.toArray] w7 fun r w'=>r=.returned (QG (QB (10000*(k:Int)+100*(q:Int)) g.fin (JSt.start m f g) 0 g.code))/\Below w7.heap.size w7 w'):=by
    have:=Qhd (w:=w7) (p:=F) (c:=l) (p1:=p1) (d1:=d1) ad.out HG.out S7.out.om af.out ae.out (Ya ai.out S7.out.bel) (au.out.below S7.out.bel) a5.out
    rw[<-ao.out]
    exact this
   obtain⟨t,A,ak⟩:∃ t A,QB (10000*(k:Int)+100*(q:Int)) g.fin (JSt.start m f g) 0 g.code=(t,A):=⟨_,_,Z⟩
   have ab:=Qa ak;rw[ak] at CB
   clear ak ao B7;go_wp2_with (refine wpList_load_mid Z 86 (.tmp 8) Z Bx 0 Z n _ aw.out underlying86 Z TS.out ?_)
   refine CB.out.mono ?_;rintro e8 w8 ⟨rfl,b8⟩;have b9:=b8.trans ((Zd w8 (.cells #[Iv t,Iv A] 32)).mono b8.size);have S9:Hid (VcS w (w8.alloc (.cells #[Iv t,Iv A] 32)) X R A4 (some ⟨D,C,none⟩) F c l m):=S7.out.below b9;have F9:Hid (Blk (w8.alloc (.cells #[Iv t,Iv A] 32)) w8.heap.size #[Iv t,Iv A] 32):=Blk.new _ _ _;clear b8 b9 S7 CB aw TS y0;simp only[QG]
   go_upto_region 12 with fail
   generalize w8.alloc (.cells #[Iv t,Iv A] 32)=w9 at S9 F9 |-;generalize w8.heap.size=F8 at F9 |-;have f0:=Qb F9.out 0 _ Z;have f1:=Qb F9.out 1 _ Z;by_cases Q:t=0
   ·subst Q;go_wp2_with fail
    go_roundw
    case rel =>
     refine⟨q+1,by omega,by go_num,S9.out,fun j y hj hy=>?_⟩
     by_cases aa:j<q
     ·exact u.out j y aa hy
     ·have:j=q:=by omega
      subst this;rw[ae.out] at hy
      cases hy
      rw[ab.out]
    case measure=>simp[intOf];omega
   ·have ba:(t != 0)=true:=by simpa using Q
    have E:Hid (Qq m=(t,A)):=by
     show _=_;rw[Qf4 ad.out af.out J.out ae.out u.out (by rw[ab.out];exact Q),ab.out]
    clear Q;have I:Hid (Blk w9 R #[Iv 0,Iv 0] 32):=S9.out.r;have r0:=Qb I.out 0 _ Z;have r1:=Qb I.out 1 _ Z;have z0:=Qj I.out 0;have z1:=Qj I.out 1;have RB:Hid (Blk ((w9.setCell ⟨R,0,none⟩ (Iv t)).setCell ⟨R,1,none⟩ (Iv A)) R #[Iv t,Iv A] 32):=Zu I.out _ _;have BL:Hid (Below w.heap.size w ((w9.setCell ⟨R,0,none⟩ (Iv t)).setCell ⟨R,1,none⟩ (Iv A))):=(XI S9.out.bel (p:=⟨R,0,none⟩) U.out _).setCell (p:=⟨R,1,none⟩) U.out _;go_wp2_with fail
    generalize (w9.setCell ⟨R,0,none⟩ (Iv t)).setCell ⟨R,1,none⟩ (Iv A)=a7 at RB BL |-;have e0:=Qb RB.out 0 _ Z;have e1:=Qb RB.out 1 _ Z;exact Xy (v:=.agg #[Iv t,Iv A]) (by simp[results,results66,go_sem,e0,e1]) Z ⟨by rw[E.out],BL.out⟩
theorem QlB {s a:JSt}{x:Qt}{ts:List (TT 6)}(c:s.makes x=(0,ts)) (d:x.form s.m.length=0) (e:s.L.length+ts.length<=80) (b:s.next x=a):s.code x=0/\s.next x=a:=by
 refine⟨?_,b⟩
 unfold JSt.code;rw[Xr (fun h=>h d),c]
 simp only[ne_eq,not_true_eq_false,if_false]
 rw[Xr (by omega)]
theorem Qnx (w:World):intsC.In w All ([]:List Int) [Nv]:=⟨⟨_,_,Z,Ze⟩,Yg _ _ _ _ _⟩
def fS0:JSt:=⟨five6,fF,[],[]⟩
def fS1:JSt:=⟨five6,fF,[],[tInt]⟩
theorem fb1:fS0.code fI=0/\fS0.next fI=fS1:=by
 have a:fS0.makes fI=(0,[tInt]):=Qaf (.inl Z);exact QlB a (by decide) (by decide) (by unfold JSt.next;rw[a];rfl)
theorem fb2:fS1.fin fE=0:=by
 have a:fS1.arg (QhC fF.regs.toNat) 0 tInt=0:=by
  unfold JSt.arg;show (if ZU (TT.ren _ _ tInt=some tInt) then (0:Int) else 9)=0;exact Xs (QC Z)
 unfold JSt.fin;rw[Xr (by decide),Xr (by decide),Xr (by decide)]
 have:fS1.args fE.args fS1.f.results (QhC fS1.f.regs.toNat)=0:=by
  unfold JSt.args;rw[Xs (by decide)]
  show Qu _ [((0:Int),tInt)]=0;simp only[Qu]
  exact Xr (fun h=>h a)
 rw[this]
 decide
theorem five6_run:Qq five6=(0,0):=by
 have d:∀ a,QB a fE fS0 0 [fI]=(0,0):=fun a=>by rw[QB,Xr (fun h=>h fb1.1),fb1.2,QB,Xr (fun h=>h fb2)]
 unfold Qq;rw[Xr (by rw[five_fault];decide)]
 refine QY fun k y c=>?_;have b:k=0:=by have:=(Zi c).1;simp[five6] at this;exact this
 subst b
 cases c
 unfold Qaa;rw[QY]
 intro k y c;have b:k=0:=by have:=(Zi c).1;simp[fF] at this;exact this
 subst b
 cases c
 exact congrArg Prod.fst (d _)
def fE':ZA:=⟨3,0,⟨0,[],[]⟩,⟨0,[],[]⟩,[1]⟩
def fB':MBlock 6:=⟨0,[],[fI],fE'⟩
def fF':MFunc 6:=⟨0,[],[tInt],[fB']⟩
def five7:List (MFunc 6):=[fF']
theorem five7_run:Qq five7=(1,91):=by decide +kernel
theorem five7_not:¬ Qm five7:=Qep (b:=fB') Z (by decide) (fun t a=>by simp only[fF',List.mem_singleton] at a;subst a;decide) Z Z (by decide) ⟨Z,Z,Z,Z,by decide⟩ (fun x c=>by simp only[fB',List.mem_singleton] at c;subst c;exact⟨Z,Z⟩)
theorem Qgi {k:Int}(s:I64 k){e h d f c:Nat}(p:Blk w e (fBc e f c) 86) (m:Blk w h #[Iv 0,Nv,.slice (some ⟨d,0,none⟩) 1 1,.slice (some ⟨e,0,none⟩) 1 1] 89) (o:Blk w d #[Iv 1,Iv 0,Nv] 105) (n:Blk w f #[Iv 1,Iv 0,Iv 0,Iv 0,Iv 0,Iv 5,Nv,Nv] 78) (hi:Blk w c #[Iv k] 3) :
 (Qj6 6).In w All [(⟨0,[],[tInt],[⟨0,[],[fI],⟨3,0,⟨0,[],[]⟩,⟨0,[],[]⟩,[k]⟩⟩]⟩:MFunc 6)] [.slice (some ⟨h,0,none⟩) 1 1]:=by
 have b:=QnA w;have g:(Qp 6).In w All ([]:List (TT 6)) [Nv]:=Yg _ _ _ _ _;have j:(Qp 6).In w All [tInt] [.slice (some ⟨d,0,none⟩) 1 1]:=QbD o Z (Qlp w);have r:insC.list.In w All [fI] [.slice (some ⟨f,0,none⟩) 1 1]:=QbD n Z (Qi2 (x:=fI) (Qnx w) (Qnx w) (by decide));have q:intsL.In w All [k] [.slice (some ⟨c,0,none⟩) 1 1]:=QbD hi Z ⟨Z,s⟩;have a:I64 0:=by decide
 have i:I64 3:=by decide
 have l:EIn w All ⟨3,0,⟨0,[],[]⟩,⟨0,[],[]⟩,[k]⟩ ⟨none,0,none,0,none,0,none,0,some ⟨c,0,none⟩,1⟩:=⟨⟨b,b,a⟩,⟨b,b,a⟩,q,i,a⟩;exact QbD m Z ⟨[_],_,Z,⟨Z,a⟩,[_],_,Z,g,[_],_,Z,j,QbD (A:=QcD 6) (x:=⟨0,[],[fI],⟨3,0,⟨0,[],[]⟩,⟨0,[],[]⟩,[k]⟩⟩) p Z ⟨[_],_,Z,⟨Z,a⟩,[_],_,Z,g,[_],_,Z,r,Qgl l⟩⟩
theorem five_runsW:∃ N,RM.steps five6 aOp 9 10 (RM.start [] 0)=some N/\N.fin=0/\N.back=[5]/\N.out=[]/\N.fuel=2:=⟨_,Z,Z,Z,Z,Z⟩
theorem ZW {m:List (MFunc 6)}(H:(Qq m).1=0):(modFault m).1=0:=by
 refine Xq.1 fun h=>?_;unfold Qq at H;rw[Xs h] at H
 exact h H
theorem QcZ {m:List (MFunc 6)}(b:(Qj6 6).In w All m [.slice pm m.length cm]) (d:Qbf m) (a:¬ Qm m) (H:(Qq m).1=0):∀ wx,Below w.heap.size w wx->Calls prog 66 #[.agg #[.slice pm m.length cm]] wx fun e w'=>e=.returned (Qbw 0 (Qq m).2)/\Below wx.heap.size wx w':=fun wx c=>by
 have:=Qcd (Ya b c) d (fun _=>a)
 rw[<-H]
 exact this
theorem Qh9 {m:List (MFunc 6)}(j:(Qj6 6).In w All m [.slice pm m.length cm]) (n:Qbf m) (f:¬ Qm m) (H:(Qq m).1=0) (h:intsL.In w All inp [.slice pi inp.length ci]) (hi:inp.length<=200) (l:most<=20000) (c:pages<=64) :
 Calls prog 30 #[.agg #[.slice pm m.length cm],.slice pi inp.length ci,Iv (most:Int),Iv (pages:Int)] w fun e w'=>Qeo w m inp most pages e w' :=
 Qkj (ZW H) l (fun k=>Qem H inp c k) (Qdh (ZW H) (by omega) c) (fun t a=>Qgr (Ya ((Qbz 6).2 j) a) n (Ya h a) (fun x d=>by
  obtain⟨i,d⟩:=List.mem_iff_getElem?.1 d
  obtain⟨g,o,s,-,-,-,-,e,r,q⟩:=Yf h d
  exact⟨r,q⟩) hi l c (fun p b=>QcZ j n f H p (a.trans (b.mono a.size))))
theorem QhT {e:Ending}(h:Qeo w five6 [] 9 0 e w'):Below w.heap.size w w'/\∃ a c b d,e=.returned (.tuple #[.agg #[Iv 0,.slice a 1 c,.slice b 0 d,Iv 2],Qbw 0 0])/\Qcx w' a [5]:=by
 obtain⟨q,o,l,j,m,n⟩:=five_runsW
 obtain⟨N,v,f,-,⟨s,r,rfl,i,p⟩,rfl,b⟩:=h
 rw[show (9+1:Nat)=10 from Z,o] at f
 cases f
 refine⟨b,?_⟩
 obtain⟨a,c,rfl,-⟩:=id i
 obtain⟨k,d,rfl,-⟩:=id p
 have g:=i.lg;rw[l,n]
 rw[j] at g |-
 rw[m]
 exact⟨a,c,k,d,Z,g.2⟩
theorem Bxs.app {f:World}{l l':List (Nat × Array Value × TypeId)}(h:Bxs w f l) (k:Bxs f w' l'):Bxs w w' (l'++l):=by
 have d:=h.below k.bel;refine⟨d.bel,fun b a=>?_,fun b a=>?_,?_⟩
 ·rcases List.mem_append.1 a with a | a
  ·exact Zt h.bel.size (k.ge b a)
  ·exact h.ge b a
 ·rcases List.mem_append.1 a with a | a
  ·exact k.box b a
  ·exact d.box b a
 ·rw[List.map_append,List.nodup_append]
  refine⟨k.nd,h.nd,fun x g y j e=>?_⟩
  obtain⟨b,a,rfl⟩:=List.mem_map.1 g
  obtain⟨c,i,rfl⟩:=List.mem_map.1 j
  have n:=k.ge b a;have m:=(h.box c i).lt;omega
theorem QeH (w:World):Calls prog 29 #[] w fun e w'=>e=.returned (.bool true)/\Below w.heap.size w w':=by
 go_enter func29,ntmps29
 go_wp2_with fail
 refine(Qjx w).mono ?_
 rintro e1 w1 ⟨I,C,T,Y,o,z,R,rfl,B⟩;have Q:=Qgi (k:=0) (by decide) (B.at (a:=[_,_,_,_,_])) (B.at (a:=[_,_,_,_])) (B.at (a:=[_,_])) (B.at (a:=[_])) (B.at (a:=[]));have s:=Qc (Qh9 (inp:=[]) (most:=9) (pages:=0) Q (ZD five_not) five_not (congrArg Prod.fst five6_run) (QnA w1) (by decide) (by decide) (by decide));have E:=Qc B.bel;clear Q B;go_wp2_with fail
 refine s.out.mono ?_;rintro e2 u hR;obtain⟨b2,a,c,b,d,rfl,V⟩:=QhT hR
 have X:=Qc (E.out.trans (b2.mono E.out.size));have S:=Qc (Bxs.start u);have HL:=Qc V;clear hR b2 V s E;have m:=(S.out.new #[Iv 0,.slice a 1 c,.slice b 0 d,Iv 2] 44).new #[Iv 0,Iv 0] 32;rw[World.size_alloc] at m
 have m:=Qc m;go_upto_region 2 with fail
 generalize (u.alloc (.cells #[Iv 0,.slice a 1 c,.slice b 0 d,Iv 2] 44)).alloc (.cells #[Iv 0,Iv 0] 32)=w3 at m |-;generalize u.heap.size+1=F at m |-;generalize u.heap.size=O at m |-;clear S;go_wp2_with fail
 refine(Qjx w3).mono ?_
 rintro e4 M ⟨I,C,T,Y0,o,z,R,rfl,N⟩;have j:=(m.out.app N).new #[.slice (some ⟨o,0,none⟩) 1 1] 24;have j:=Qc j;clear N m;go_upto_region 3 with fail
 generalize M.alloc (.cells #[.slice (some ⟨o,0,none⟩) 1 1] 24)=q at j |-;generalize M.heap.size=Y at j |-;simp only[List.cons_append,List.nil_append] at j
 have v:=Qc (j.out.new #[Iv 1] 3);have G:q.cell? ⟨Y,0,none⟩=some (.slice (some ⟨o,0,none⟩) 1 1):=j.out.cell (a:=[]) 0 _ Z;have g3:q.cell? ⟨o,3,none⟩=some (.slice (some ⟨z,0,none⟩) 1 1):=j.out.cell (a:=[_,_,_,_,_]) 3 _ Z;have c2:=v.out.cell (a:=[_,_,_,_,_,_,_]) 11 _ Z;have z2:=v.out.free (a:=[_,_,_,_,_,_,_]) 11;go_upto_region 4 with fail
 have h:=Qc (v.out.set (a:=[_,_,_,_,_,_,_]) 11 (.slice (some ⟨q.heap.size,0,none⟩) 1 1));clear j v G g3 c2 z2;generalize (q.alloc (.cells #[Iv 1] 3)).setCell ⟨z,11,none⟩ (.slice (some ⟨q.heap.size,0,none⟩) 1 1)=y at h |-;generalize q.heap.size=J at h |-;have G:y.cell? ⟨Y,0,none⟩=some (.slice (some ⟨o,0,none⟩) 1 1):=h.out.cell (a:=[_]) 0 _ Z;have P:(Qj6 6).In y All five7 [.slice (some ⟨o,0,none⟩) 1 1]:=Qgi (k:=1) (by decide) (h.out.at (a:=[_,_,_,_,_,_,_])) (h.out.at (a:=[_,_,_,_,_,_])) (h.out.at (a:=[_,_,_,_])) (h.out.at (a:=[_,_,_])) (h.out.at (a:=[]))
 have s:=Qc (QfO (pi:=none) (ci:=0) (n:=0) (fu:=9) (pg:=0) (c:=1) (a:=91) (c0:=1) (a0:=91) (pm:=some ⟨o,0,none⟩) (ml:=1) (cm:=1) (w:=y) (fun wx bx=>by
  have:=Qcd (Ya P bx) (ZD five7_not) (fun _=>five7_not)
  rw[five7_run] at this
  exact this) (by decide) (.inl ⟨by decide,Z,Z⟩))
 clear P;go_wp2_with fail
 refine s.out.mono ?_;rintro e7 A ⟨rfl,U⟩;have g:=(h.out.below U).new #[Iv 0,Nv,Nv,Iv 0] 44 |>.new #[Iv 1,Iv 91] 32
 rw[World.size_alloc] at g
 have g:=Qc g;clear U s h G;go_upto_region 5 with fail
 generalize (A.alloc (.cells #[Iv 0,Nv,Nv,Iv 0] 44)).alloc (.cells #[Iv 1,Iv 91] 32)=f at g |-;generalize A.heap.size+1=K at g |-;generalize A.heap.size=O2 at g |-;have f0:f.cell? ⟨F,0,none⟩=some (Iv 0):=g.out.cell (a:=[_,_,_,_,_,_,_,_,_,_,_]) 0 _ Z;have o0:f.cell? ⟨O,0,none⟩=some (Iv 0):=g.out.cell (a:=[_,_,_,_,_,_,_,_,_,_,_,_]) 0 _ Z;have o1:f.cell? ⟨O,1,none⟩=some (.slice a 1 c):=g.out.cell (a:=[_,_,_,_,_,_,_,_,_,_,_,_]) 1 _ Z;have o2:f.cell? ⟨O,2,none⟩=some (.slice b 0 d):=g.out.cell (a:=[_,_,_,_,_,_,_,_,_,_,_,_]) 2 _ Z;have o3:f.cell? ⟨O,3,none⟩=some (Iv 2):=g.out.cell (a:=[_,_,_,_,_,_,_,_,_,_,_,_]) 3 _ Z;have D:=Qc (HL.out.below g.out.bel);have L:=Qc (g.out.new #[Iv 5] 2)
 have HN:Qcx (f.alloc (.cells #[Iv 5] 2)) (some ⟨f.heap.size,0,none⟩) [5]:=fun i x t=>by
  match i,t with
  | 0,t=>cases t;exact⟨f.heap.size,0,Z,Qb (Qe f #[.int .i64 5] 2) 0 _ Z⟩
  | i+1,t=>exact absurd (Zi t).1 (by simp)
 have H:Hid (Calls prog 26 #[.agg #[Iv 0,.slice a 1 c,.slice b 0 d,Iv 2],.agg #[Iv 0,.slice (some ⟨f.heap.size,0,none⟩) 1 1,Nv,Iv 2]] (f.alloc (.cells #[Iv 5] 2)) fun e w'=>e=.returned (.bool true)/\Below (f.alloc (.cells #[Iv 5] 2)).heap.size (f.alloc (.cells #[Iv 5] 2)) w'):=Qb6 (l:=[5]) (r:=[]) (by decide) (by decide) (D.out.below (ZP _ _)) HN (Qcx.nil _ _) (Qcx.nil _ _);clear HN;go_wp2_with fail
 refine H.out.mono ?_;rintro e9 W ⟨rfl,b9⟩;have p:=Qc (L.out.below b9);have p0:W.cell? ⟨K,0,none⟩=some (Iv 1):=p.out.cell (a:=[_]) 0 _ Z;have p1:W.cell? ⟨K,1,none⟩=some (Iv 91):=p.out.cell (a:=[_]) 1 _ Z;clear b9 H L f0 o0 o1 o2 o3;go_wp2
 go_ret;exact⟨Z,X.out.trans (p.out.bel.mono X.out.size)⟩
theorem QmQ (h:intsL.In w O l [.slice a n c]):∀ x∈l,Qnh x:=fun x d=>by
 obtain⟨i,b⟩:=List.mem_iff_getElem?.1 d
 obtain⟨g,o,k,-,-,-,-,e,j,f⟩:=Yf h b
 exact⟨j,f⟩
section
variable {w:World}{O:Nat->Prop}{n:Nat}{cs:List Value}
theorem Qi8 {x:MBlock n}(f:x.flat k) (h:(Qbe n).In w O x cs):(Qbe (k+1)).In w O (x.at k) cs:=by
 obtain⟨a,_,rfl,d,⟨e,_,rfl,c,b⟩⟩:=h
 exact⟨a,_,Z,d,⟨e,_,Z,QdY f c,b⟩⟩
theorem QkS {x:MFunc n}(a:x.flat k) (h:(Qe7 n).In w O x cs):(Qe7 (k+1)).In w O (x.at k) cs:=by
 obtain⟨b,_,rfl,c,⟨i,_,rfl,f,⟨g,_,rfl,d,e⟩⟩⟩:=h
 exact⟨b,_,Z,c,⟨i,_,Z,QdY a.1 f,⟨g,_,Z,QdY a.2.1 d,Lay.list_map (A:=Qbe n) (B:=Qbe (k+1)) Z (fun y j l=>Qi8 (a.2.2 y j)) e⟩⟩⟩
theorem Qlv {m:List (MFunc n)}(b:∀ x∈m,x.flat k) (h:(QhR n).In w O m cs):(QhR (k+1)).In w O (m.map (MFunc.at k)) cs :=
 Lay.list_map (A:=Qe7 n) (B:=Qe7 (k+1)) Z (fun y a c=>QkS (b y a)) h
end
theorem size_any:∀ (n:Nat) (t:TT n) (a:Option Addr) (c:Nat) (w:World) (left:Int),TIn w All t a->0<=left->left<=2000 ->
 Calls prog 115 #[Tv t a c,Iv left] w fun e w'=>e=.returned (Iv (max (-1) (left - t.count)))/\Below w.heap.size w w':=by
 intro n
 induction n with
 | zero=>intro t;exact Empty.elim t
 | succ n ih =>
   intro t a c w left G h0 h1
   have U:Hid (∀ (t:TT n) (a:Option Addr) (c:Nat) (w:World) (left:Int),TIn w All t a->0<=left->left<=2000 ->
    Calls prog 115 #[Tv t a c,Iv left] w fun e w'=>e=.returned (Iv (max (-1) (left - t.count)))/\Below w.heap.size w w'):=ih
   clear ih;have J:Hid (LIn w All t.2.2 a):=G.list;have C:t.count=1+(t.2.2.map TT.count).sum:=rfl;rw[C]
   clear C;simp only[Tv,TT.len_eq]
   generalize t.2.2=l at J |-;generalize t.kind=k;generalize t.r=r;clear G t;go_enter func115,ntmps115
   go_wp2_with fail
   have B:Hid (Bx w (w.alloc (.cells #[Iv k,Iv r,.slice a l.length c] 105)) k r a l.length c):=Bx.start w k r a l.length c;generalize w.alloc (.cells #[Iv k,Iv r,.slice a l.length c] 105)=w1 at B |-;go_loopw [1,5] (fun lf i wr=>∃ q:Nat,q<=l.length/\i=Iv q/\lf=Iv (max (-1) (left - 1 - (((l.map TT.count).take q).sum:Nat)))/\Bx w wr k r a l.length c) (fun _ i _=>l.length - (intOf i).toNat)
   case atStart=>exact⟨0,Xb _,Z,by simp;omega,B.out⟩
   case round =>
    clear B;obtain⟨q,hq,rfl,rfl,u⟩:=hrel
    generalize h:(((l.map TT.count).take q).sum:Nat)=s;have W:wr.cell? ⟨w.heap.size,2,none⟩=some (.slice a l.length c):=Qb u.box 2 _ Z;have j:Hid (Bx w wr k r a l.length c):=u;by_cases v:q<l.length
    ·by_cases b:0<=max (-1) (left - 1 - (s:Int))
     ·have p:l[q]?=some l[q]:=Zg v;generalize l[q]=x at p;obtain⟨g,o,E,V,rfl,_,d0,d1,d2,I⟩:=LIn.at (J.out.below u.bel) p
      have H:Hid (TIn wr All x E):=I;have A:=Qen TT.count l q x p;rw[h] at A
      have Q:Hid (((l.map TT.count).take (q+1)).sum=s+x.count):=A;have S:Hid (max (-1) (left - 1 - (s:Int))<=2000):=by show _<=_;omega
      clear u I p A;generalize D:max (-1) (left - 1 - (s:Int))=m at b S;have M:Hid (max (-1) (left - 1 - (s:Int))=m):=D;clear D;have L:(0:Int)<=q:=by omega
      have f:(q:Int)<l.length:=by omega
      have P:(q:Int)<2000:=by
       have K:=length_le_sum ((l.map TT.count).take q) (fun y N=>by obtain⟨z,_,rfl⟩:=List.mem_map.1 (List.mem_of_mem_take N);exact z.count_pos);have X:=M.out;rw[List.length_take,XN] at K
       omega
      clear h;go_wp2_with fail
      refine(U.out x E V _ m H.out b S.out).mono ?_
      rintro e O ⟨rfl,T⟩;have R:Hid (Bx w O k r (some ⟨g,o,none⟩) l.length c):=j.out.below T;clear j;go_wp2
      go_roundw
      case rel=>exact⟨q+1,by omega,by go_num,by rw[Q.out];have:=M.out;have:=x.count_pos;congr 1;omega,R.out⟩
      case measure=>simp[intOf];omega
     ·have F:Hid (max (-1) (left - 1 - (s:Int))=max (-1) (left - ((1+(l.map TT.count).sum:Nat):Int))):=by
       have:=Qgb (l.map TT.count) q
       show _=_;omega
      have d:max (-1) (left - 1 - (s:Int))<0:=by omega
      generalize max (-1) (left - 1 - (s:Int))=m at F d |-;clear b h;have f:(q:Int)<l.length:=by omega
      go_wp2
      go_ret;exact⟨by show Ending.returned (Iv m)=_;have:=F.out;congr 2,j.out.bel⟩
    ·have F:Hid (max (-1) (left - 1 - (s:Int))=max (-1) (left - ((1+(l.map TT.count).sum:Nat):Int))):=by
      rw[XO (by simp;omega)] at h
      show _=_;omega
     generalize max (-1) (left - 1 - (s:Int))=m at F |-;clear h;have f:¬ (q:Int)<l.length:=by omega
     go_wp2
     go_ret;exact⟨by show Ending.returned (Iv m)=_;have:=F.out;congr 2,j.out.bel⟩
theorem QiZ (n:Nat) (t:TT n) (a:Option Addr) (c:Nat) (w:World) (f:TIn w All t a) :
 Calls prog 71 #[Tv t a c] w fun e w'=>e=.returned (.bool (decide (2000<t.count)))/\Below w.heap.size w w':=by
 have C:Hid (∀ b,Below w.heap.size w b->Calls prog 115 #[Tv t a c,Iv 2000] b fun e w'=>e=.returned (Iv (max (-1) (2000 - (t.count:Int))))/\Below b.heap.size b w') :=
  fun b g=>size_any n t a c b 2000 (f.below g) (by omega) (by omega)
 clear f;simp only[Tv] at C |-
 generalize t.kind=k at C |-;generalize t.r=r at C |-;generalize t.len=i at C |-;generalize t.count=q at C |-;go_enter func71,ntmps71
 go_wp2_with fail
 refine(C.out _ ((Below.refl _ w).alloc Ze _)).mono ?_
 rintro e h ⟨rfl,d⟩;have B:Hid (Below w.heap.size w h):=((Below.refl _ w).alloc Ze _).trans (d.mono (by simp));have F:Hid (max (-1) (2000 - (q:Int))<0↔2000<q):=by show _↔_;omega
 generalize max (-1) (2000 - (q:Int))=m at F |-;clear d C;go_wp2
 go_ret;exact⟨by show Ending.returned (.bool (decide (m<0)))=_;rw[decide_eq_decide.2 F.out],B.out⟩
structure GbS (w wx:World) (l:List (Nat × Array Value × TypeId)):Prop where
 bel:Below w.heap.size w wx
 box:∀ (i:Nat) b,l[i]?=some b->Blk wx b.1 b.2.1 b.2.2
theorem GbS.below {a:World}{l:List (Nat × Array Value × TypeId)}(h:GbS w a l) (k:Below a.heap.size a w'):GbS w w' l:=⟨h.bel.trans (k.mono h.bel.size),fun i b c=>(h.box i b c).below k⟩
theorem GbS.add {a:World}{l:List (Nat × Array Value × TypeId)}(h:GbS w a l){c:Array Value}(e:Blk a B c t):GbS w a ((B,c,t)::l) :=
 ⟨h.bel,fun i b d=>by
  cases i with
  | zero=>cases d;exact e
  | succ i=>exact h.box i b d⟩
theorem GbS.drop {a:World}{l:List (Nat × Array Value × TypeId)}{e:Nat × Array Value × TypeId}(h:GbS w a (e::l)):GbS w a l:=⟨h.bel,fun i b c=>h.box (i+1) b c⟩
theorem GbS.new {a:World}{l:List (Nat × Array Value × TypeId)}(h:GbS w a l) (c:Array Value) (t:TypeId):GbS w (a.alloc (.cells c t)) ((a.heap.size,c,t)::l):=(h.below (Zd _ _)).add (Blk.new _ _ _)
theorem Qan (n:Nat) (l:List (TT n)) (p:Option Addr) (c:Nat) (w:World) (f:LIn w All l p) :
 Rd prog 40 #[.slice p l.length c] w (.bool (ZU (Zy l))):=by
 have M:=Qf f;clear f;unfold Rd;go_enter func40,ntmps40
 by_cases D:200<l.length
 ·have d:(200:Int)<l.length:=by omega
  have E:=QC (A:=Zy l) (.inl D);go_wp2_with fail
  go_ret;exact⟨by first | rfl | (rw[E];done) | (rw[E];rfl),Zr⟩
 have d:¬ (200:Int)<l.length:=by omega
 go_wp2_with fail
 go_loopw [3] (fun i wr=>∃ k:Nat,k<=l.length/\i=Iv k/\Below w.heap.size w wr/\∀ (j:Nat) t,j<k->l[j]?=some t->¬ 2000<t.count) (fun i _=>l.length - (intOf i).toNat)
 case atStart=>exact⟨0,Xb _,Z,Zr,fun j z m=>absurd m (XG _)⟩
 case round =>
  obtain⟨k,P,rfl,F,a⟩:=hrel
  have e:=Qf F;have r:=Qf a;clear F a;by_cases y:k<l.length
  rotate_left
  ·have g:¬ (k:Int)<l.length:=by omega
   have E:ZU (Zy l)=false:=QA (by
    rintro (h | ⟨t,b,h⟩)
    ·exact D h
    ·obtain⟨j,m⟩:=List.mem_iff_getElem?.1 b
     exact r.out j t (by have:=(Zi m).1;omega) m h)
   go_wp2_with fail
   go_ret;exact⟨by first | rfl | (rw[E];done) | (rw[E];rfl),e.out⟩
  have g:(k:Int)<l.length:=by omega
  have b:l[k]?=some l[k]:=Zg y;generalize l[k]=t at b;have C:=Qf b;obtain⟨Q,N,J,K,rfl,-,H,L,I,o⟩:=(show LIn wr All l p from M.out.below e.out).at b
  have B:=Qf (QiZ n t J K wr o);clear b o;go_wp2_with fail
  refine B.out.mono ?_;rintro _ O ⟨rfl,G⟩;have q:=Qf (e.out.trans (G.mono e.out.size));clear G B H L I e;by_cases s:2000<t.count
  ·rw[Xt s]
   have E:=QC (A:=Zy l) (.inr ⟨t,Zm C.out,s⟩);go_wp2_with fail
   go_ret;exact⟨by first | rfl | (rw[E];done) | (rw[E];rfl),q.out⟩
  ·rw[Xu s]
   go_wp2_with fail
   go_roundw
   case rel =>
    refine⟨k+1,by omega,by go_num,q.out,fun j u m x=>?_⟩
    by_cases v:j<k
    ·exact r.out j u v x
    ·have:j=k:=by omega
     subst this;rw[C.out] at x
     cases x
     exact s
   case measure=>simp[intOf];omega
def MFunc.much {n:Nat}(x:MFunc n):Prop:=30<x.blocks.length\/Zy x.params\/Zy x.results
def MBlock.much {n:Nat}(x:MBlock n):Prop:=200<x.code.length\/Zy x.params\/300<x.fin.args.length\/300<x.fin.yes.regs.length\/300<x.fin.yes.args.length\/300<x.fin.no.regs.length\/300<x.fin.no.args.length
theorem Qab (n:Nat) (m:List (MFunc n)) (p:Option Addr) (c:Nat) (w:World) (al:(QaN n).In w All m [.slice p m.length c]) :
 Rd prog 10 #[.agg #[.slice p m.length c]] w (.bool (ZU (Qm m))):=by
 have HM:=Qf al;have S:Hid (GbS w (w.alloc (.cells #[.slice p m.length c] 24)) [(w.heap.size,#[.slice p m.length c],24)]):=GbS.new ⟨Zr,fun i b hb=>by simp at hb⟩ _ _;clear al;unfold Rd;go_enter func10,ntmps10
 go_upto_region 1 with fail
 generalize w.alloc (.cells #[.slice p m.length c] 24)=w1 at S |-;generalize w.heap.size=X at S |-;have x0:=Qb (S.out.box 0 _ Yz) 0 _ Yz;by_cases c1:20<m.length
 ·have d:(20:Int)<m.length:=by omega
  have E:=QC (A:=Qm m) (.inl c1);have O:=Qf S.out.bel;clear S;go_wp2_with fail
  go_ret;exact⟨by first | rfl | (rw[E];done) | (rw[E];rfl),O.out⟩
 have d:¬ (20:Int)<m.length:=by omega
 go_wp2_with fail
 clear x0;go_loopw [3] (fun i wr=>∃ k:Nat,k<=m.length/\i=Iv k/\GbS w wr [(X,#[.slice p m.length c],24)]/\∀ (j:Nat) f,j<k->m[j]?=some f->¬ f.great) (fun i _=>m.length - (intOf i).toNat)
 case atStart=>exact⟨0,Xb _,Yz,S.out,fun j z C=>absurd C (XG _)⟩
 case round =>
  obtain⟨k,hk,rfl,Q,o⟩:=hrel
  have SR:=Qf Q;have ak:=Qf o;clear Q o S;obtain⟨wf,az⟩:∃ wf,wf=wr:=⟨_,Yz⟩
  subst az;have x0:=Qb (SR.out.box 0 _ Yz) 0 _ Yz;by_cases a3:k<m.length
  rotate_left
  ·have ac:¬ (k:Int)<m.length:=by omega
   have E:ZU (Qm m)=false:=QA (by
    rintro (h | ⟨t,ht,h⟩)
    ·exact c1 h
    ·obtain⟨j,C⟩:=List.mem_iff_getElem?.1 ht
     exact ak.out j t (by have:=(Zi C).1;omega) C h)
   have O:=Qf SR.out.bel;clear SR;go_wp2_with fail
   go_ret;exact⟨by first | rfl | (rw[E];done) | (rw[E];rfl),O.out⟩
  have ac:(k:Int)<m.length:=by omega
  have N:m[k]?=some m[k]:=Zg a3;generalize m[k]=x at N;have ah:=Qf N;have ad:Hid (x.great->ZU (Qm m)=true):=fun h=>QC (.inr ⟨x,Zm ah.out,h⟩);obtain⟨g1,o1,l,rfl,E1,ab⟩:=Qfz HM.out N
  have U:=Qf ab;have R1:Hid (wf.rangeAt g1 (o1+k*4) [Iv x.regs,.slice l.pP x.params.length l.cP,.slice l.pR x.results.length l.cR,.slice l.pB x.blocks.length l.cB]):=fun j v C=>Qk (E1 j v C) SR.out.bel;have v0:wf.cell? ⟨g1,o1+k*4,none⟩=some (Iv x.regs):=R1.out 0 _ Yz;have v1:=R1.out 1 _ Yz;have v2:=R1.out 2 _ Yz;have v3:=R1.out 3 _ Yz;have G:=Qf (SR.out.new #[Iv x.regs,.slice l.pP x.params.length l.cP,.slice l.pR x.results.length l.cR,.slice l.pB x.blocks.length l.cB] 89);clear N E1 ab R1 SR;go_upto_region 7 with fail
  generalize wf.alloc (.cells #[Iv x.regs,.slice l.pP x.params.length l.cP,.slice l.pR x.results.length l.cR,.slice l.pB x.blocks.length l.cB] 89)=w6 at G |-;generalize wf.heap.size=Y at G |-;clear v0 v1 v2 v3 x0;generalize hL:([(Y,#[Iv x.regs,.slice l.pP x.params.length l.cP,.slice l.pR x.results.length l.cR,.slice l.pB x.blocks.length l.cB],89),(X,#[.slice (some ⟨g1,o1,none⟩) m.length c],24)]:List (Nat × Array Value × TypeId))=L at G;have BX:Hid (∀ wx,GbS w wx L->Blk wx Y #[Iv x.regs,.slice l.pP x.params.length l.cP,.slice l.pR x.results.length l.cR,.slice l.pB x.blocks.length l.cB] 89/\GbS w wx [(X,#[.slice (some ⟨g1,o1,none⟩) m.length c],24)]):=by subst hL;exact fun wx h=>⟨h.box 0 _ Yz,h.drop⟩
  clear hL;have q1:=Qb (BX.out _ G.out).1 1 _ Yz;have q2:=Qb (BX.out _ G.out).1 2 _ Yz;have q3:=Qb (BX.out _ G.out).1 3 _ Yz;go_cut [37] (fun v wx=>v=.bool (ZU x.much)/\GbS w wx L)
  case first =>
   by_cases h:30<x.blocks.length
   ·have d1:decide ((x.blocks.length:Int)>30)=true:=Xt (by omega);have E:=QC (A:=x.much) (.inl h);go_wp2
    go_meet;exact⟨by first | rfl | (rw[E];done) | (rw[E];rfl),G.out⟩
   have d1:decide ((x.blocks.length:Int)>30)=false:=Xu (by omega);have B:=Qf (Qan n x.params l.pP l.cP w6 (QX (Ya U.out.params G.out.bel)).1);unfold Rd at B;by_cases J:Zy x.params
   ·have E:=QC (A:=x.much) (.inr (.inl J));rw[QC J] at B
    go_wp2_with fail
    refine B.out.mono ?_;rintro _ wa ⟨rfl,F⟩;have s:=Qf (G.out.below F);clear F B;go_wp2
    go_meet;exact⟨by first | rfl | (rw[E];done) | (rw[E];rfl),s.out⟩
   rw[QA J] at B
   go_wp2_with fail
   refine B.out.mono ?_;rintro _ wa ⟨rfl,F⟩;have s:=Qf (G.out.below F);clear F B q1 q2 q3;have q2:=Qb (BX.out _ s.out).1 2 _ Yz;have CR:=Qf (Qan n x.results l.pR l.cR wa (QX (Ya U.out.results s.out.bel)).1);unfold Rd at CR
   have E:ZU x.much=ZU (Zy x.results):=by
    by_cases hr:Zy x.results
    ·rw[QC hr];exact QC (.inr (.inr hr))
    ·rw[QA hr];exact QA (fun e=>by rcases e with e | e | e;exact h e;exact J e;exact hr e)
   go_wp2_with fail
   refine CR.out.mono ?_;rintro _ M ⟨rfl,bb⟩;have SB:=Qf (s.out.below bb);clear bb CR q2;go_wp2
   all_goals
    go_meet;exact⟨by first | rfl | (rw[E];done) | (rw[E];rfl),SB.out⟩
  case rest =>
   obtain⟨rfl,R⟩:=hcut
   have S7:=Qf R;clear R G q1 q2 q3;by_cases P:x.much
   ·rw[QC P]
    have E:=ad.out (by rcases P with h | h | h;exact .inl h;exact .inr (.inl h);exact .inr (.inr (.inl h)));have O:=Qf S7.out.bel;clear S7 P;go_wp2_with fail
    go_ret;exact⟨by first | rfl | (rw[E];done) | (rw[E];rfl),O.out⟩
   rw[QA P]
   have a4:x.blocks.length<=30:=Xo fun h=>P (.inl h);go_wp2_with fail
   go_loopw [5] (fun i wr=>∃ q:Nat,q<=x.blocks.length/\i=Iv q/\GbS w wr L/\∀ (j:Nat) y,j<q->x.blocks[j]?=some y->¬ y.great) (fun i _=>x.blocks.length - (intOf i).toNat)
   case atStart=>exact⟨0,Xb _,Yz,S7.out,fun j z C=>absurd C (XG _)⟩
   case round =>
    obtain⟨q,hq,rfl,Q,o⟩:=hrel
    have SQ:=Qf Q;have an:=Qf o;clear Q o S7;obtain⟨M,au⟩:∃ M,M=wr:=⟨_,Yz⟩
    subst au;have q3:=Qb (BX.out _ SQ.out).1 3 _ Yz;by_cases a1:q<x.blocks.length
    rotate_left
    ·have aj:¬ (q:Int)<x.blocks.length:=by omega
     go_wp2_with fail
     go_roundw
     case rel =>
      refine⟨k+1,by omega,by go_num,(BX.out _ SQ.out).2,fun j f C hf=>?_⟩
      by_cases aq:j<k
      ·exact ak.out j f aq hf
      ·have:j=k:=by omega
       subst this;rw[ah.out] at hf
       cases hf
       rintro (h | h | h | ⟨y,hy,h⟩)
       ·exact P (.inl h)
       ·exact P (.inr (.inl h))
       ·exact P (.inr (.inr h))
       ·obtain⟨i,hi⟩:=List.mem_iff_getElem?.1 hy
        exact an.out i y (by have:=(Zi hi).1;omega) hi h
     case measure=>simp[intOf];omega
    have aj:(q:Int)<x.blocks.length:=by omega
    have K:x.blocks[q]?=some x.blocks[q]:=Zg a1;generalize x.blocks[q]=y at K;have ae:=Qf K;have ao:Hid (y.great->ZU (Qm m)=true):=fun h=>ad.out (.inr (.inr (.inr ⟨y,Zm ae.out,h⟩)));obtain⟨g2,o2,g,e2,E2,ap⟩:=Qeu U.out.blocks K
    have am:=Qf ap;rw[e2] at q3
    generalize aa:([Iv y.regs,.slice g.pP y.params.length g.cP,.slice g.pC y.code.length g.cC,Iv y.fin.op,Iv y.fin.a,Iv y.fin.yes.block,.slice g.e.pYR y.fin.yes.regs.length g.e.cYR,.slice g.e.pYA y.fin.yes.args.length g.e.cYA,Iv y.fin.no.block,.slice g.e.pNR y.fin.no.regs.length g.e.cNR,.slice g.e.pNA y.fin.no.args.length g.e.cNA,.slice g.e.pA y.fin.args.length g.e.cA]:List Value)=cs at E2;have hl:cs.length=12:=by rw[<-aa];rfl
    have MB:=Qf (Qm3.of M hl);have TO:Hid (cs.toArray.all (·.oneCell')=true):=by show _=_;rw[<-aa];exact all_oneCell_toArray (Xe.1 Yz)
    have RG:Hid (M.rangeAt g2 (o2+q*12) cs):=fun j v C=>Qk (E2 j v C) SQ.out.bel;clear K E2 ap hl e2;go_upto_region 13 with (first | (refine wpList_load_mid Yz 86 (.tmp 48) Yz g2 (o2+q*12) Yz cs _ RG.out underlying86 Yz MB.out.size ?_) | (refine wpList_store_mid Yz 86 (.tmp 6) (.tmp 49) Yz M.heap.size 0 cs.toArray Yz Yz MB.out.there MB.out.size2 TO.out ?_))
    have H:=Qf ((SQ.out.below MB.out.bel).add MB.out.blk);clear SQ q3 RG TO MB;generalize (M.alloc (.cells #[Iv 0,Nv,Nv,Iv 0,Iv 0,Iv 0,Nv,Nv,Iv 0,Nv,Nv,Nv] 86)).setCells M.heap.size 0 cs=w3 at H |-;generalize M.heap.size=Z at H |-;subst aa;simp only[Act.put]
    generalize ai:((Z,#[Iv y.regs,.slice g.pP y.params.length g.cP,.slice g.pC y.code.length g.cC,Iv y.fin.op,Iv y.fin.a,Iv y.fin.yes.block,.slice g.e.pYR y.fin.yes.regs.length g.e.cYR,.slice g.e.pYA y.fin.yes.args.length g.e.cYA,Iv y.fin.no.block,.slice g.e.pNR y.fin.no.regs.length g.e.cNR,.slice g.e.pNA y.fin.no.args.length g.e.cNA,.slice g.e.pA y.fin.args.length g.e.cA],86)::L:List (Nat × Array Value × TypeId))=L2 at H;have I:Hid (∀ wx,GbS w wx L2->Blk wx Z #[Iv y.regs,.slice g.pP y.params.length g.cP,.slice g.pC y.code.length g.cC,Iv y.fin.op,Iv y.fin.a,Iv y.fin.yes.block,.slice g.e.pYR y.fin.yes.regs.length g.e.cYR,.slice g.e.pYA y.fin.yes.args.length g.e.cYA,Iv y.fin.no.block,.slice g.e.pNR y.fin.no.regs.length g.e.cNR,.slice g.e.pNA y.fin.no.args.length g.e.cNA,.slice g.e.pA y.fin.args.length g.e.cA] 86/\GbS w wx L):=by subst ai;exact fun wx h=>⟨h.box 0 _ Yz,h.drop⟩
    clear ai;have z1:=Qb (I.out _ H.out).1 1 _ Yz;have z2:=Qb (I.out _ H.out).1 2 _ Yz;go_cut [97] (fun v wx=>v=.bool (ZU y.much)/\GbS w wx L2)
    case first =>
     by_cases h:200<y.code.length
     ·have d1:decide ((y.code.length:Int)>200)=true:=Xt (by omega);have E:=QC (A:=y.much) (.inl h);go_wp2
      go_meet;exact⟨by first | rfl | (rw[E];done) | (rw[E];rfl),H.out⟩
     have d1:decide ((y.code.length:Int)>200)=false:=Xu (by omega);have B:=Qf (Qan n y.params g.pP g.cP w3 (QX (Ya am.out.params H.out.bel)).1);unfold Rd at B;by_cases J:Zy y.params
     ·have E:=QC (A:=y.much) (.inr (.inl J));rw[QC J] at B
      go_wp2_with fail
      refine B.out.mono ?_;rintro _ wa ⟨rfl,F⟩;have s:=Qf (H.out.below F);clear F B;go_wp2
      go_meet;exact⟨by first | rfl | (rw[E];done) | (rw[E];rfl),s.out⟩
     rw[QA J] at B
     go_wp2_with fail
     refine B.out.mono ?_;rintro _ wa ⟨rfl,F⟩;have s:=Qf (H.out.below F);clear F B z1 z2;have z6:=Qb (I.out _ s.out).1 6 _ Yz;have z7:=Qb (I.out _ s.out).1 7 _ Yz;have z9:=Qb (I.out _ s.out).1 9 _ Yz;have av:=Qb (I.out _ s.out).1 10 _ Yz;have a2:=Qb (I.out _ s.out).1 11 _ Yz
     have r:Hid (ZU y.much=(decide ((y.fin.args.length:Int)>300)||(decide ((y.fin.yes.regs.length:Int)>300)||(decide ((y.fin.yes.args.length:Int)>300)||(decide ((y.fin.no.regs.length:Int)>300)||decide ((y.fin.no.args.length:Int)>300)))))):=by
      show _=_
      have e9:y.much↔((y.fin.args.length:Int)>300\/(y.fin.yes.regs.length:Int)>300\/(y.fin.yes.args.length:Int)>300\/(y.fin.no.regs.length:Int)>300\/(y.fin.no.args.length:Int)>300):=by
       unfold MBlock.much;constructor
       ·rintro (e | e | e)
        ·exact absurd e h
        ·exact absurd e J
        ·omega
       ·intro e;right;right;omega
      by_cases hy:y.much
      ·rw[QC hy];have:=e9.1 hy;simp only[<-Bool.decide_or];exact(Xt this).symm
      ·rw[QA hy];have:=fun e=>hy (e9.2 e);simp only[<-Bool.decide_or];exact(Xu this).symm
     generalize y.fin.args.length=n1 at r a2 |-;generalize y.fin.yes.regs.length=n2 at r z6 |-;generalize y.fin.yes.args.length=n3 at r z7 |-;generalize y.fin.no.regs.length=n4 at r z9 |-;generalize y.fin.no.args.length=n5 at r av |-;by_cases k1:(n1:Int)>300
     ·have W:decide ((n1:Int)>300)=true:=Xt k1;rw[W] at r
      go_wp2
      go_meet;exact⟨by rw[r.out];first | done | rfl,s.out⟩
     have e1:decide ((n1:Int)>300)=false:=Xu k1;rw[e1] at r
     by_cases k2:(n2:Int)>300
     ·have W:decide ((n2:Int)>300)=true:=Xt k2;rw[W] at r
      go_wp2
      go_meet;exact⟨by rw[r.out];first | done | rfl,s.out⟩
     have e2:decide ((n2:Int)>300)=false:=Xu k2;rw[e2] at r
     by_cases k3:(n3:Int)>300
     ·have W:decide ((n3:Int)>300)=true:=Xt k3;rw[W] at r
      go_wp2
      go_meet;exact⟨by rw[r.out];first | done | rfl,s.out⟩
     have e3:decide ((n3:Int)>300)=false:=Xu k3;rw[e3] at r
     by_cases k4:(n4:Int)>300
     ·have W:decide ((n4:Int)>300)=true:=Xt k4;rw[W] at r
      go_wp2
      go_meet;exact⟨by rw[r.out];first | done | rfl,s.out⟩
     have e4:decide ((n4:Int)>300)=false:=Xu k4;rw[e4] at r
     go_wp2
     all_goals
      go_meet;exact⟨by rw[r.out];first | done | rfl,s.out⟩
    case rest =>
     obtain⟨rfl,R⟩:=hcut
     have S4:=Qf R;clear R H z1 z2;by_cases D:y.much
     ·rw[QC D]
      have E:=ao.out (by rcases D with h | h | h | h | h | h | h;exact .inl h;exact .inr (.inl h);exact .inr (.inr (.inl h));exact .inr (.inr (.inr (.inl h)));exact .inr (.inr (.inr (.inr (.inl h))));exact .inr (.inr (.inr (.inr (.inr (.inl h)))));exact .inr (.inr (.inr (.inr (.inr (.inr (.inl h)))))));have O:=Qf S4.out.bel;clear S4 D;go_wp2_with fail
      go_ret;exact⟨by first | rfl | (rw[E];done) | (rw[E];rfl),O.out⟩
     rw[QA D]
     have a5:y.code.length<=200:=Xo fun h=>D (.inl h);go_wp2_with fail
     go_loopw [7] (fun i wr=>∃ t:Nat,t<=y.code.length/\i=Iv t/\GbS w wr L2/\∀ (j:Nat) z,j<t->y.code[j]?=some z->¬ (300<z.regs.length\/300<z.args.length)) (fun i _=>y.code.length - (intOf i).toNat)
     case atStart=>exact⟨0,Xb _,Yz,S4.out,fun j z C=>absurd C (XG _)⟩
     case round =>
      obtain⟨t,ht,rfl,Q,o⟩:=hrel
      have T:=Qf Q;have ag:=Qf o;clear Q o S4;have z2:=Qb (I.out _ T.out).1 2 _ Yz;by_cases aw:t<y.code.length
      rotate_left
      ·have af:¬ (t:Int)<y.code.length:=by omega
       go_wp2_with fail
       go_roundw
       case rel =>
        refine⟨q+1,by omega,by go_num,(I.out _ T.out).2,fun j u C V=>?_⟩
        by_cases ax:j<q
        ·exact an.out j u ax V
        ·have:j=q:=by omega
         subst this;rw[ae.out] at V
         cases V
         rintro (h | h | h | h | h | h | h | ⟨z,hz,h⟩)
         ·exact D (.inl h)
         ·exact D (.inr (.inl h))
         ·exact D (.inr (.inr (.inl h)))
         ·exact D (.inr (.inr (.inr (.inl h))))
         ·exact D (.inr (.inr (.inr (.inr (.inl h)))))
         ·exact D (.inr (.inr (.inr (.inr (.inr (.inl h))))))
         ·exact D (.inr (.inr (.inr (.inr (.inr (.inr h))))))
         ·obtain⟨i,hi⟩:=List.mem_iff_getElem?.1 hz
          exact ag.out i z (by have:=(Zi hi).1;omega) hi h
       case measure=>simp[intOf];omega
      have af:(t:Int)<y.code.length:=by omega
      have hz:y.code[t]?=some y.code[t]:=Zg aw;generalize y.code[t]=z at hz;have HZ:=Qf hz;obtain⟨g3,o3,i3,e3,E3,-⟩:=QhI am.out.code hz
      rw[e3] at z2
      have ar:=Qk (show w.cell? ⟨g3,o3+t*8+6,none⟩=_ from E3 6 _ Yz) T.out.bel;have a0:=Qk (show w.cell? ⟨g3,o3+t*8+7,none⟩=_ from E3 7 _ Yz) T.out.bel;clear hz E3 e3;go_upto_region 18 with fail
      go_cut [122] (fun v wx=>v=.bool (decide (300<z.regs.length\/300<z.args.length))/\GbS w wx L2)
      case first =>
       by_cases h:(z.regs.length:Int)>300
       ·have d1:decide ((z.regs.length:Int)>300)=true:=Xt h;have E:decide (300<z.regs.length\/300<z.args.length)=true:=Xt (by omega);go_wp2
        go_meet;exact⟨by first | rfl | (rw[E];done) | (rw[E];rfl),T.out⟩
       ·have d1:decide ((z.regs.length:Int)>300)=false:=Xu h;have E:decide (300<z.regs.length\/300<z.args.length)=decide ((z.args.length:Int)>300):=by rw[decide_eq_decide];omega
        go_wp2
        all_goals
         go_meet;exact⟨by first | rfl | (rw[E];done) | (rw[E];rfl),T.out⟩
      case rest =>
       obtain⟨rfl,R⟩:=hcut
       have SU:=Qf R;clear R T z2 ar a0;by_cases c4:300<z.regs.length\/300<z.args.length
       ·rw[Xt c4]
        have E:=ao.out (.inr (.inr (.inr (.inr (.inr (.inr (.inr ⟨z,Zm HZ.out,c4⟩)))))));have O:=Qf SU.out.bel;clear SU c4;go_wp2_with fail
        go_ret;exact⟨by first | rfl | (rw[E];done) | (rw[E];rfl),O.out⟩
       ·rw[Xu c4]
        go_wp2_with fail
        go_roundw
        case rel =>
         refine⟨t+1,by omega,by go_num,SU.out,fun j u C V=>?_⟩
         by_cases ay:j<t
         ·exact ag.out j u ay V
         ·have:j=t:=by omega
          subst this;rw[HZ.out] at V
          cases V
          exact c4
        case measure=>simp[intOf];omega
theorem Qj9 {k:Nat}{m:List (MFunc k)}{fu:Int}(l:(QaN k).In w All m [.slice pm m.length cm]) (h:Qm m\/3000<fu) :
 Calls prog 11 #[.agg #[.slice pm m.length cm],Iv fu] w fun e w'=>e=.returned (.bool true)/\Below w.heap.size w w':=by
 have c:=Qc ((Bxs.start w).new #[.slice pm m.length cm] 24);have b:Hid (∀ d,Below w.heap.size w d->Calls prog 10 #[.agg #[.slice pm m.length cm]] d fun e w'=>e=.returned (.bool (ZU (Qm m)))/\Below d.heap.size d w'):=fun d o=>Qab k m pm cm d (Ya l o);clear l;have H:=Qc h;clear h;go_enter func11,ntmps11
 go_upto_region 1 with fail
 generalize w.alloc (.cells #[.slice pm m.length cm] 24)=j at c |-;generalize w.heap.size=X at c |-;have q:j.cell? ⟨X,0,none⟩=some (.slice pm m.length cm):=c.out.cell (a:=[]) 0 _ Z;by_cases g:Qm m
 ·have b:=Qc (b.out j c.out.bel);rw[show ZU (Qm m)=true from QC g] at b
  clear g;go_wp2_with fail
  refine b.out.mono ?_;rintro n p ⟨rfl,f⟩;have i:=Qc (c.out.below f);clear f;go_wp2
  go_ret;exact⟨Z,i.out.bel⟩
 ·have b:=Qc (b.out j c.out.bel);rw[show ZU (Qm m)=false from QA g] at b
  have r:decide (fu>3000)=true:=Xt (by have:=H.out;rcases this with e | e;exact absurd e g;exact e);clear g;go_wp2_with fail
  refine b.out.mono ?_;rintro n p ⟨rfl,f⟩;have i:=Qc (c.out.below f);clear f;go_wp2
  go_ret;exact⟨Z,i.out.bel⟩
theorem QlP {d:Nat}{m:List (MFunc d)}{fu:Int}(g:(QaN d).In w All m [.slice pm m.length cm]) (h:¬ (Qm m\/3000<fu)) :
 Calls prog 11 #[.agg #[.slice pm m.length cm],Iv fu] w fun e w'=>e=.returned (.bool false)/\Below w.heap.size w w':=by
 have c:=Qc ((Bxs.start w).new #[.slice pm m.length cm] 24);have b:=Qab d m pm cm _ (Ya g (ZP w (.cells #[.slice pm m.length cm] 24)));rw[show ZU (Qm m)=false from QA (fun e=>h (.inl e))] at b
 have b:Hid (Calls prog 10 #[.agg #[.slice pm m.length cm]] (w.alloc (.cells #[.slice pm m.length cm] 24)) fun e w'=>e=.returned (.bool false)/\Below (w.alloc (.cells #[.slice pm m.length cm] 24)).heap.size (w.alloc (.cells #[.slice pm m.length cm] 24)) w'):=b;have n:decide (fu>3000)=false:=Xu (fun e=>h (.inr e));clear g h;go_enter func11,ntmps11
 go_upto_region 1 with fail
 generalize w.alloc (.cells #[.slice pm m.length cm] 24)=j at c b |-;generalize w.heap.size=X at c |-;have l:j.cell? ⟨X,0,none⟩=some (.slice pm m.length cm):=c.out.cell (a:=[]) 0 _ Z;go_wp2_with fail
 refine b.out.mono ?_;rintro k o ⟨rfl,f⟩;have i:=Qc (c.out.below f);clear f;go_wp2
 go_ret;exact⟨Z,i.out.bel⟩
theorem QjH.below {lo:Nat}{N:RM}(h:QjH lo N v w) (b:Below w.heap.size w w'):QjH lo N v w':=by
 obtain⟨d,c,rfl,a,e⟩:=h
 exact⟨d,c,Z,a.below b,e.below b⟩
def QmJ (w6:World) (b:Nat) (N:RM) (ab ao:Option Addr) (cb co:Nat) (t:Tmp) (v:Value) (w:World):Prop :=
 match ([(70,QjH w6.heap.size N)]:List (Tmp × (Value->World->Prop))).lookup t with
 | some p=>p v w
 | none=>v=(([(69,.pointer (some ⟨b,0,none⟩)),(71,.agg #[.int .i64 N.fin,.slice ab N.back.length cb,.slice ao N.out.length co,.int .i64 N.fuel]),(72,.bool true),(10,.bool true),(13,.pointer (some ⟨b,0,none⟩))]:List (Tmp × Value)).lookup t).getD undef
theorem Qoh {Z u B:Nat}{N:RM}{k j:Option Addr}(z:Blk w6 Z #[Iv N.fin,.slice k N.back.length u,.slice j N.out.length B,Iv N.fuel] 44) (V:Qcx w6 k N.back) (lo:Qcx w6 j N.out) (hb:N.back.length<=100000) (Q:N.out.length<=100000)
 (CO:Hid (∀ wx,Below w6.heap.size w6 wx->Calls prog 37 #[Pv b 0] wx fun e w'=>∃ v,e=.returned v/\QjH wx.heap.size N v w'/\Below wx.heap.size wx w'))
 (a:Act) (m:Nat) (hn:a.tmps.size=m) (q:73<=m) (C:a.tmps.getD 11 undef=Pv Z 0) (D:a.tmps.getD 13 undef=Pv b 0) :
 Code.wp prog ((Tryz.f8.body.bind (Qi 16)).getD .skip) (fun e a' w'=>e=.normal/\∃ vs,a'=QM a vs [69,70,71,72,10]/\vs 10=.bool true/\Below w6.heap.size w6 w') a w6:=by
 have R:=Qb z 0 _ Yz;have z1:=Qb z 1 _ Yz;have z2:=Qb z 2 _ Yz;have X:=Qb z 3 _ Yz;conv=>arg 2;whnf
 refine Qdv (fun t v w=>if t=11 then v=Pv Z 0 else QmJ w6 b N k j u B t v w) (fun w=>Below w6.heap.size w6 w) (fun w w'=>Below w.heap.size w w') (outs:=[11,13]) (gs:=[]) (bs:=[true,true,true,true,true]) (by kernel_rfl) (n:=73) hn q (by kernel_rfl) ?hR ?hG (QI Zr 1) ⟨C,D,Y⟩ ?hA ?hend
 case hR =>
  intro t v w w' hr h;by_cases I:t=11
  ·rw[Xs I] at h |-;exact h
  rw[Xr I] at h |-
  unfold QmJ at h |-;split at h
  ·rename_i p l
   simp only[List.lookup_cons,List.lookup_nil] at l
   split at l
   ·cases l;exact QjH.below h hr
   ·cases l
  ·exact h
 case hG=>exact Y
 case hend=>exact fun vs w' c f=>⟨Yz,vs,Yz,f 10 (by kernel_rfl),c⟩
 case hA =>
  refine⟨fun a w c f K g=>?_,?_⟩
  ·obtain⟨d,-⟩:=f
   have d:a.tmps.getD 13 undef=Pv b 0:=d;go_simp;exact g _ _ Zr c Yz
  refine⟨fun a w c f K g=>?_,?_⟩
  ·obtain⟨d,-⟩:=f
   have d:a.tmps.getD 69 undef=Pv b 0:=d;go_simp;refine Xm (CO.out w c) ?_;rintro r7 T ⟨v,rfl,P,i⟩;go_simp;obtain⟨M,H,rfl,⟨J,A,U,o,E,l3⟩,⟨G,y,O,S,q2,q3⟩⟩:=P
   exact g _ _ i (c.trans (i.mono c.size)) ⟨M,H,Yz,⟨J,A,U,o,E,fun x s=>Zt c.size (l3 x s)⟩,⟨G,y,O,S,q2,fun x s=>Zt c.size (q3 x s)⟩⟩
  refine⟨fun a w c f K g=>?_,?_⟩
  ·obtain⟨d,-⟩:=f
   have d:a.tmps.getD 11 undef=Pv Z 0:=d;have c0:=Qk R c;have A:=Qk z1 c;have y:=Qk z2 c;have c3:=Qk X c;go_simp;exact g _ _ Zr c Yz
  refine⟨fun a w c f K g=>?_,?_⟩
  ·obtain⟨d,L,-⟩:=f
   have d:QjH w6.heap.size N (a.tmps.getD 70 undef) w:=d;have L:a.tmps.getD 71 undef=.agg #[Iv N.fin,.slice k N.back.length u,.slice j N.out.length B,Iv N.fuel]:=L;obtain⟨M,H,W,F,r⟩:=d
   obtain⟨J,A,rfl,-⟩:=id F
   obtain⟨G,y,rfl,-⟩:=id r
   have o:=F.lg.2;have E:=r.lg.2;clear F r;go_simp;refine Xm (Qb6 hb Q o (V.below c) E (lo.below c)) ?_;rintro r7 T ⟨rfl,i⟩;go_simp;exact g _ _ i (c.trans (i.mono c.size)) Yz
  refine⟨fun a w c f K g=>?_,?_⟩
  ·obtain⟨d,-⟩:=f
   have d:a.tmps.getD 72 undef=.bool true:=d;go_simp;exact g _ _ Zr c Yz
  trivial
def Qgk (w:World) (inp:List Int) (most pages:Nat) (e:Ending) (w':World):Prop :=
 (∃ c a:Int,c≠0/\e=.returned (.tuple #[.pointer none,Qbw c a])/\Below w.heap.size w w')\/∃ o:List (MFunc 6),(modFault o).1=0/\QfD o most (RM.start inp pages)/\ROk o 0 (RM.start inp pages)/\QiO w o inp most pages e w'
structure QnG (w:World) (VM VO VI:Value) (m:List (MFunc 6)) (inp:List Int) (most pages:Nat):Prop where
 fine:(modFault m).1=0
 le:most<=20000
 goes:QfD m most (RM.start inp pages)
 ok:ROk m 0 (RM.start inp pages)
 run:∀ wx,Below w.heap.size w wx->Calls prog 30 #[VM,VI,Iv (most:Int),Iv (pages:Int)] wx fun e w'=>Qeo wx m inp most pages e w'
 new:∀ wx,Below w.heap.size w wx->Calls prog 32 #[VM,VI,Iv (most:Int),Iv (pages:Int)] wx fun e w'=>QiO wx m inp most pages e w'
 other:∀ wx,Below w.heap.size w wx->Calls prog 32 #[VO,VI,Iv (most:Int),Iv (pages:Int)] wx fun e w'=>Qgk wx inp most pages e w'
structure QmY (w7:World) (bx F most:Nat) (m:List (MFunc 6)) (X0:RM) (yv:Value) (c:Int) (P:World->RM->Prop):Prop where
 at_:∀ wr X,P wr X->∃ g j,Qey w7 wr bx most m X0 X g j/\j<=most+1
 fb:∀ wr X,P wr X->wr.cell? ⟨F,0,none⟩=some (Iv c)
 gx:∀ wr X,P wr X->X.done=false->Calls prog 34 #[Pv bx 0] wr fun e w'=>e=.returned (.tuple #[])/\∃ X',P w' X'/\(X'.done=false->X'.fuel=X.fuel+1)
 gy:c=0->∀ wr X,P wr X->Calls prog 34 #[yv] wr fun e w'=>e=.returned (.tuple #[])/\P w' X
theorem Qhr {B w9 d:World}{D:Nat}{m:List (MFunc 6)}{l:WG}{e:Ending}(L:(modFault m).1=0) (s:most<=20000) (O:QfD m most (RM.start inp pages)) (M:ROk m 0 (RM.start inp pages))
 (Z:Qey B w9 D most m (RM.start inp pages) (RM.start inp pages) l 0) (hE:Qgk w9 inp most pages e d) :
 ∃ (yv:Value) (c a:Int) (P:World->RM->Prop),e=.returned (.tuple #[yv,Qbw c a])/\Below w9.heap.size w9 d/\P (d.alloc (.cells #[Iv c,Iv a] 32)) (RM.start inp pages)/\QmY B D d.heap.size most m (RM.start inp pages) yv c P:=by
 have K:=XC Z.at_.box;rcases hE with ⟨c,a,S,rfl,b⟩|⟨o,U,G,V,⟨y,r,rfl,N,E,I,⟨-,w⟩,b⟩⟩
 ·have C:=ZP d (.cells #[Iv c,Iv a] 32);have bz:=b.size;refine⟨.pointer none,c,a,fun wr X=>∃ g j,Qey B wr D most m (RM.start inp pages) X g j/\j<=most+1/\¬ g.A d.heap.size/\wr.heap[d.heap.size]?=some (.cells #[Iv c,Iv a] 32 (0,0)),Yz,b,⟨l,0,Z.below (b.trans (C.mono b.size)),Xb _,fun h=>by have:=Z.at_.lt _ h;omega,Qe _ _ _⟩,⟨?_,?_,?_,fun h=>absurd h S⟩⟩
  ·rintro wr X ⟨g,j,f,n,-⟩;exact⟨g,j,f,n⟩
  ·rintro wr X ⟨g,j,f,n,H,z⟩;exact Qb z 0 _ Yz
  ·rintro wr X ⟨g,j,f,n,H,z⟩ t;refine(f.go L s O M t).mono ?_
   rintro e R ⟨rfl,J,v,u,Q,-,F⟩;have T:=XC z;exact⟨Yz,J,⟨v,j+1,u,by have:=f.fu t;have:=f.le;omega,fun h=>(Q.own _ h).elim H (fun q=>by omega),(Q.block _ T H).trans z⟩,F⟩
 ·have C:=ZP d (.cells #[Iv 0,Iv 0] 32);have bz:=b.size;refine⟨Pv y 0,0,0,fun wr X=>∃ Y l r j k,Qdq B wr D y most m o (RM.start inp pages) (RM.start inp pages) X Y l r j k w9.heap.size d.heap.size #[Iv 0,Iv 0] 32/\j<=most+1,Yz,b,⟨_,l,r,0,0,Qdq.start Z K ?_ (N.below C) E I w (b.trans (C.mono b.size)) (Qe _ _ _) (fun h=>by have:=Z.at_.lt _ h;omega) (fun h=>by have:=N.lt _ h;omega),Xb _⟩,⟨?_,?_,?_,?_⟩⟩
  ·obtain⟨p,q,e,-⟩:=Z.at_.back
   exact⟨p,q,e,fun i hi=>absurd hi (XG i)⟩
  ·rintro wr X ⟨Y,l,r,j,k,f,n⟩;exact⟨l,j,f.x,n⟩
  ·rintro wr X ⟨Y,l,r,j,k,f,n⟩;exact Qb f.fb 0 _ Yz
  ·rintro wr X ⟨Y,l,r,j,k,f,n⟩ t;refine(f.goX L s O M t).mono ?_
   rintro e R ⟨rfl,J,v,u,F⟩;exact⟨Yz,J,⟨Y,v,r,j+1,k,u,by have:=f.x.fu t;have:=f.x.le;omega⟩,F⟩
  ·rintro - wr X ⟨Y,l,r,j,k,f,n⟩;refine(f.goY U s G V).mono ?_
   rintro e R ⟨rfl,Y',v,W,u⟩;exact⟨Yz,Y',l,v,j,W,u,n⟩
theorem Qkl {dd de:Nat}{m:List (MFunc dd)}{o:List (MFunc de)}{x:Option Addr}{B:Nat}{fu pg:Int}
 (hM:(QaN dd).In w All m [.slice pm m.length cm]) (hO:(QaN de).In w All o [.slice x o.length B])
 (K:¬ Qm m->¬ Qm o->fu<=3000->(∃ c a:Int,c≠0/\∀ wx,Below w.heap.size w wx->Calls prog 30 #[.agg #[.slice pm m.length cm],.slice pi n ci,Iv fu,Iv pg] wx fun e w'=>e=.returned (Qi7 c a)/\Below wx.heap.size wx w') \/
  ∃ (m6:List (MFunc 6)) (inp:List Int) (most pages:Nat),fu=(most:Int)/\pg=(pages:Int)/\QnG w (.agg #[.slice pm m.length cm]) (.agg #[.slice x o.length B]) (.slice pi n ci) m6 inp most pages) :
 Calls prog 8 #[.agg #[.slice pm m.length cm],.agg #[.slice x o.length B],.slice pi n ci,Iv fu,Iv pg] w fun e w'=>e=.returned (.bool true)/\Below w.heap.size w w':=by
 have y:=((Bxs.start w).new #[.slice pm m.length cm] 24).new #[.slice x o.length B] 24;rw[World.size_alloc] at y
 have y:=Qc y;have HM:=Qc hM;have HO:=Qc hO;have z:=Qc K;clear hM hO K;go_enter func8,ntmps8
 go_upto_region 1 with fail
 generalize (w.alloc (.cells #[.slice pm m.length cm] 24)).alloc (.cells #[.slice x o.length B] 24)=w2 at y |-;generalize w.heap.size+1=X2 at y |-;generalize w.heap.size=X at y |-;go_wp2_with fail
 refine(QeH w2).mono ?_
 rintro e3 w3 ⟨rfl,b3⟩;have I:=Qc (y.out.below b3);clear b3 y;have L:w3.cell? ⟨X,0,none⟩=some (.slice pm m.length cm):=I.out.cell (a:=[_]) 0 _ Yz;by_cases R:Qm m\/3000<fu
 ·have CL:=Qc (Qj9 (Ya HM.out I.out.bel) R);clear R;go_wp2_with fail
  refine CL.out.mono ?_;rintro e4 w4 ⟨rfl,T⟩;have G:=Qc (I.out.below T);clear T;go_wp2
  go_ret;exact⟨Yz,G.out.bel⟩
 have CL:=Qc (QlP (Ya HM.out I.out.bel) R);have HG:=Qc R;clear R;go_wp2_with fail
 refine CL.out.mono ?_;rintro e4 w4 ⟨rfl,T⟩;have G:=Qc (I.out.below T);clear T I CL L;have x1:w4.cell? ⟨X2,0,none⟩=some (.slice x o.length B):=G.out.cell (a:=[]) 0 _ Yz;have k:=Qab de o x B w4 (Ya HO.out G.out.bel);by_cases hg:Qm o
 ·rw[show ZU (Qm o)=true from QC hg] at k
  have k:=Qc k;clear hg;go_wp2_with fail
  refine k.out.mono ?_;rintro e5 w5 ⟨rfl,b5⟩;have p:=Qc (G.out.below b5);clear b5;go_wp2
  go_ret;exact⟨Yz,p.out.bel⟩
 rw[show ZU (Qm o)=false from QA hg] at k
 have k:=Qc k;have ac:=Qc hg;clear hg;go_wp2_with fail
 refine k.out.mono ?_;rintro e5 w5 ⟨rfl,b5⟩;have p:=Qc (G.out.below b5);clear b5 G k x1;have L:w5.cell? ⟨X,0,none⟩=some (.slice pm m.length cm):=p.out.cell (a:=[_]) 0 _ Yz;have h3:fu<=3000:=by have:=HG.out;omega
 have K6:=z.out (fun e=>HG.out (.inl e)) ac.out h3;clear h3;rcases K6 with ⟨c,a,h,E⟩|⟨m6,inp,most,pages,rfl,rfl,Y6⟩
 ·have E:=Qc (E w5 p.out.bel);have d0:(c != 0)=true:=bne_iff_ne.2 h;clear h;go_wp2_with fail
  refine E.out.mono ?_;rintro e6 u ⟨rfl,b6⟩;have b:=((p.out.below b6).new #[Iv 0,Nv,Nv,Iv 0] 44).new #[Iv c,Iv a] 32;rw[World.size_alloc] at b
  have b:=Qc b;clear b6 E L p;simp only[Qi7,Qbw]
  go_upto_region 6 with fail
  generalize (u.alloc (.cells #[Iv 0,Nv,Nv,Iv 0] 44)).alloc (.cells #[Iv c,Iv a] 32)=f at b |-;generalize u.heap.size+1=F at b |-;generalize u.heap.size=Z at b |-;have f0:f.cell? ⟨F,0,none⟩=some (Iv c):=b.out.cell (a:=[]) 0 _ Yz;have o0:f.cell? ⟨Z,0,none⟩=some (Iv 0):=b.out.cell (a:=[_]) 0 _ Yz;have o1:f.cell? ⟨Z,1,none⟩=some (Nv):=b.out.cell (a:=[_]) 1 _ Yz;have o2:f.cell? ⟨Z,2,none⟩=some (Nv):=b.out.cell (a:=[_]) 2 _ Yz;have o3:f.cell? ⟨Z,3,none⟩=some (Iv 0):=b.out.cell (a:=[_]) 3 _ Yz;have CS:Hid (∀ n,Calls prog 26 #[.agg #[Iv 0,Nv,Nv,Iv 0],.agg #[Iv 0,Nv,Nv,Iv 0]] (f.drewN n) fun e w'=>e=.returned (.bool true)/\Below (f.drewN n).heap.size (f.drewN n) w'):=fun n=>Qb6 (l:=[]) (r:=[]) (by decide) (by decide) (Qcx.nil _ _) (Qcx.nil _ _) (Qcx.nil _ _) (Qcx.nil _ _);go_wp2_with fail
  refine(CS.out 0).mono ?_
  rintro e8 w8 ⟨rfl,D⟩;have B8:=Qc (b.out.below D);clear D;go_wp2
  go_ret;exact⟨Yz,B8.out.bel⟩
 have q:=Qc Y6;clear Y6 z;have E:=Qc (q.out.run w5 p.out.bel);go_wp2_with fail
 refine E.out.mono ?_;rintro e6 u ⟨N,v,hN,dN,⟨vb,vo,rfl,hb,ho⟩,rfl,b6⟩;obtain⟨ab,cb,rfl,-⟩:=id hb
 obtain⟨ao,cq,rfl,-⟩:=id ho
 have b:=((p.out.below b6).new #[Iv N.fin,.slice ab N.back.length cb,.slice ao N.out.length cq,Iv N.fuel] 44).new #[Iv 0,Iv 0] 32;rw[World.size_alloc] at b
 have b:=Qc b;have s:=Qc hb.lg.2;have t:=Qc ho.lg.2;have HN:=Qc hN;clear b6 E L p hb ho hN dN;simp only[Qbw]
 go_upto_region 6 with fail
 have b7:=QjV u (.cells #[Iv N.fin,.slice ab N.back.length cb,.slice ao N.out.length cq,Iv N.fuel] 44) (.cells #[Iv 0,Iv 0] 32);have s:=Qc (s.out.below b7);have t:=Qc (t.out.below b7);clear b7;generalize (u.alloc (.cells #[Iv N.fin,.slice ab N.back.length cb,.slice ao N.out.length cq,Iv N.fuel] 44)).alloc (.cells #[Iv 0,Iv 0] 32)=f at b s t |-;generalize u.heap.size+1=F at b |-;generalize u.heap.size=Z at b |-;have f0:f.cell? ⟨F,0,none⟩=some (Iv 0):=b.out.cell (a:=[]) 0 _ Yz;have L:f.cell? ⟨X,0,none⟩=some (.slice pm m.length cm):=b.out.cell (a:=[_,_,_]) 0 _ Yz;have CN:=Qc (q.out.new f b.out.bel);go_upto_region 8 with fail
 go_wp2_with fail
 refine CN.out.mono ?_;rintro e8 w8 ⟨bx,gx,rfl,S8,U,ad,⟨V,aa⟩,D⟩;have b9:=ZP w8 (.cells #[Iv 0,Iv 0] 32);have ZX:Hid (Qey f (w8.alloc (.cells #[Iv 0,Iv 0] 32)) bx most m6 (RM.start inp pages) (RM.start inp pages) gx 0):=⟨S8.below b9,U,D.trans (b9.mono D.size),Yz,fun _=>rfl,Xb _,fun _=>rfl⟩;have M:=Qc ((b.out.below D).new #[Iv 0,Iv 0] 32);clear S8 U ad V aa D b9 CN f0 L;simp only[Qbw]
 go_upto_region 9 with fail
 generalize w8.alloc (.cells #[Iv 0,Iv 0] 32)=w9 at ZX M |-;generalize w8.heap.size=F3 at M |-;have x1:w9.cell? ⟨X2,0,none⟩=some (.slice x o.length B):=M.out.cell (a:=[_,_,_]) 0 _ Yz;have CY:=Qc (q.out.other w9 M.out.bel);go_wp2_with fail
 refine CY.out.mono ?_;intro ai O hE;obtain⟨yv,c,a,P,rfl,Q,hP,i⟩:=Qhr q.out.fine q.out.le q.out.goes q.out.ok ZX.out hE
 have H:=Qc ((M.out.below Q).new #[Iv c,Iv a] 32);have i:=Qc i;have HP:=Qc hP;clear hE hP Q CY x1 ZX M;simp only[Qbw]
 go_upto_region 10 with fail
 generalize O.alloc (.cells #[Iv c,Iv a] 32)=ae at H HP |-;generalize O.heap.size=F4 at H i |-;have g0:ae.cell? ⟨F3,0,none⟩=some (Iv 0):=H.out.cell (a:=[_]) 0 _ Yz;go_upto_region 12 with fail
 clear g0;go_loopw [] (fun wr=>∃ X,P wr X) (fun wr=>Qj0 bx most wr)
 case atStart=>exact⟨_,HP.out⟩
 case round =>
  obtain⟨S,hX⟩:=hrel
  obtain⟨g,j,A,hj⟩:=i.out.at_ _ _ hX
  have CD:=Qc (QeZ A.at_)
  cases hd:S.done with
  | false =>
    have CX:=Qc (i.out.gx _ _ hX hd);have HL:=Qc A.at_.left;rw[hd] at CD HL
    clear hX A hd hj;go_upto_region 13 with (go_at_call 33;refine CD.out.mono ?_;rintro e' w' ⟨rfl,C⟩;have C:=C.symm;subst C)
    go_wp2_with fail
    refine CX.out.mono ?_;rintro e' ag ⟨rfl,X',d,hf⟩;have f4:=i.out.fb _ _ d;by_cases h:c=0
    ·have CY:=Qc (i.out.gy h _ _ d);have d1:decide (c=0)=true:=Xt h;have d2:(c==0)=true:=beq_iff_eq.2 h;clear d h;go_wp2_with fail
     refine CY.out.mono ?_;rintro e' ah ⟨rfl,d⟩;go_wp2_with fail
     go_roundw
     case rel=>exact⟨_,d⟩
     case measure =>
      obtain⟨g',j',Z',-⟩:=i.out.at_ _ _ d
      rw[HL.out,Z'.at_.left]
      have h6:=Z'.le
      cases hd6:X'.done with
      | true=>simp
      | false=>have:=hf hd6;simp;omega
    ·have d1:decide (c=0)=false:=Xu h;have d2:(c==0)=false:=beq_eq_false_iff_ne.2 h;clear h;go_wp2_with fail
     go_roundw
     case rel=>exact⟨_,d⟩
     case measure =>
      obtain⟨g',j',Z',-⟩:=i.out.at_ _ _ d
      rw[HL.out,Z'.at_.left]
      have h6:=Z'.le
      cases hd6:X'.done with
      | true=>simp
      | false=>have:=hf hd6;simp;omega
  | true =>
    have he:S=N:=Xn ((A.end_ hj hd).symm.trans HN.out);have J:=Qc3 q.out.fine q.out.ok j A.st;have z:Hid (S.out.length<=100000/\S.back.length<=100000):=⟨by have:=J.out.1;omega,by have:=J.out.2;omega⟩;have CO:Hid (∀ wx,Below wr.heap.size wr wx->Calls prog 37 #[Pv bx 0] wx fun e w'=>∃ v,e=.returned v/\QjH wx.heap.size S v w'/\Below wx.heap.size wx w'):=fun wx bx=>Qcf (A.at_.below bx) (by have:=z.out.1;omega) (by have:=z.out.2;omega);have HB:=Qc A.bel;have HE:=Qc he;rw[hd] at CD
    clear A hX hd hj he J;go_upto_region 16 with (go_at_call 33;refine CD.out.mono ?_;rintro e' w' ⟨rfl,C⟩;have C:=C.symm;subst C)
    rw[HE.out] at CO z
    refine Code.wp_mono ?_ (Qoh (Blk.below (b.out.at (a:=[_])) HB.out) (s.out.below HB.out) (t.out.below HB.out) z.out.2 z.out.1 CO _ _ Yz (Xg (by kernel_rfl)) Yz Yz);rintro _ _ af ⟨rfl,vs,rfl,hv,W⟩;have BZ:=Qc (b.out.bel.trans ((HB.out.trans (W.mono HB.out.size)).mono b.out.bel.size));simp only[QM,Act.put,List.setIfInBounds_toArray,List.set_cons_zero,List.set_cons_succ,hv]
    clear hv W;go_wp2
    go_ret;exact⟨Yz,BZ.out⟩
def Qmj (w:World) (pm:Option Addr) (ml cm:Nat):Prop :=
 (∃ c0 a0:Int,c0≠0/\∀ wx,Below w.heap.size w wx->Calls prog 66 #[.agg #[.slice pm ml cm]] wx fun e w'=>e=.returned (Qbw c0 a0)/\Below wx.heap.size wx w') \/
 ∃ m:List (MFunc 6),m.length=ml/\(Qj6 6).In w All m [.slice pm ml cm]/\¬ Qm m/\(Qq m).1=0
theorem Qip {w:World}{m:List (MFunc n)}{pm:Option Addr}{cm:Nat}(c:(QhR n).In w All m [.slice pm m.length cm]) :
 ∃ (dd:Nat) (m':List (MFunc dd)),m'.length=m.length/\(QaN dd).In w All m' [.slice pm m'.length cm]/\(¬ Qm m'->Qmj w pm m'.length cm):=by
 by_cases e:(modFault m).1=0
 ·have f:m.length=(m.map (MFunc.at 5)).length:=(XN _).symm;have a:(QhR 6).In w All (m.map (MFunc.at 5)) [.slice pm (m.map (MFunc.at 5)).length cm]:=by rw[<-f];exact Qlv (Ql6 e) c
  refine⟨6,m.map (MFunc.at 5),f.symm,(QfE 6).2 a,fun b=>?_⟩
  generalize m.map (MFunc.at 5)=g at a b;by_cases r:(Qq g).1=0
  ·exact .inr ⟨g,Z,(Qgf 6).2 a,b,r⟩
  ·exact .inl ⟨_,_,r,fun h d=>Qcd (Ya ((Qgf 6).2 a) d) (ZD b) (fun _=>b)⟩
 ·exact⟨n,m,Z,(QfE n).2 c,fun b=>.inl ⟨_,_,e,fun h d=>Qcm (Ya ((QfE n).2 c) d) (ZD b) e⟩⟩
section
variable {w:World}{inp:List Int}{most pages ml cm ci:Nat}{pm pi:Option Addr}{fu pg:Int}
def Qd8 (n:Nat) (fu pg:Int):Prop:=¬ (200<n\/fu<0\/20000<fu\/pg<0\/64<pg)
theorem Qiu {m:List (MFunc 6)}(d:(Qj6 6).In w All m [.slice pm m.length cm]) (a:¬ Qm m) (H:(Qq m).1=0) (c:intsL.In w All inp [.slice pi inp.length ci]) (hi:inp.length<=200) (h:most<=20000) (f:pages<=64) :
 Calls prog 32 #[.agg #[.slice pm m.length cm],.slice pi inp.length ci,Iv (most:Int),Iv (pages:Int)] w fun e w'=>QiO w m inp most pages e w' :=
 Qgr ((Qbz 6).2 d) (ZD a) c (QmQ c) hi h f (fun g b=>QcZ d (ZD a) a H g b)
theorem Qmj.other (h:Qmj w pm ml cm) (l:intsL.In w All inp [.slice pi inp.length ci]) (hi:inp.length<=200) (q:most<=20000) (d:pages<=64) (g:World) (b:Below w.heap.size w g) :
 Calls prog 32 #[.agg #[.slice pm ml cm],.slice pi inp.length ci,Iv (most:Int),Iv (pages:Int)] g fun e w'=>Qgk g inp most pages e w':=by
 rcases h with ⟨c,a,i,j⟩|⟨m,rfl,n,p,H⟩
 ·exact(QjC (fun o f=>j o (b.trans (f.mono b.size))) (by omega) (.inl ⟨i,Z,Z⟩)).mono fun e w' h=>.inl ⟨c,a,i,h.1,h.2⟩
 ·exact(Qiu (Ya n b) p H (Ya l b) hi q d).mono fun e w' h=>.inr ⟨m,ZW H,fun k=>Qem H inp d k,Qdh (ZW H) (by omega) d,h⟩
theorem Qmj.run (h:Qmj w pm ml cm) (o:intsL.In w All inp [.slice pi inp.length ci]) (q:inp.length<1152921504606846976) (s:Value)
 (u:Qd8 inp.length fu pg->∀ most pages:Nat,fu=(most:Int)->pg=(pages:Int)->∀ wx,Below w.heap.size w wx->Calls prog 32 #[s,.slice pi inp.length ci,Iv (most:Int),Iv (pages:Int)] wx fun e w'=>Qgk wx inp most pages e w') :
 (∃ c a:Int,c≠0/\∀ wx,Below w.heap.size w wx->Calls prog 30 #[.agg #[.slice pm ml cm],.slice pi inp.length ci,Iv fu,Iv pg] wx fun e w'=>e=.returned (Qi7 c a)/\Below wx.heap.size wx w') \/
  ∃ (m6:List (MFunc 6)) (i6:List Int) (most pages:Nat),fu=(most:Int)/\pg=(pages:Int)/\QnG w (.agg #[.slice pm ml cm]) s (.slice pi inp.length ci) m6 i6 most pages:=by
 rcases h with ⟨c,a,p,t⟩|⟨m,rfl,i,f,H⟩
 ·exact .inl ⟨c,a,p,fun wx b=>QfO (fun j d=>t j (b.trans (d.mono b.size))) q (.inl ⟨p,Z,Z⟩)⟩
 by_cases r:200<inp.length\/fu<0\/20000<fu\/pg<0\/64<pg
 ·exact .inl ⟨1,-1,by decide,fun wx b=>QfO (fun j d=>QcZ i (ZD f) f H j (b.trans (d.mono b.size))) q (.inr ⟨Z,r,Z,Z⟩)⟩
 ·obtain⟨most,rfl⟩:∃ k:Nat,fu=(k:Int):=⟨fu.toNat,by omega⟩
  obtain⟨pages,rfl⟩:∃ k:Nat,pg=(k:Int):=⟨pg.toNat,by omega⟩
  have n:inp.length<=200:=by omega
  have l:most<=20000:=by omega
  have g:pages<=64:=by omega
  exact .inr ⟨m,inp,most,pages,Z,Z,ZW H,l,fun k=>Qem H inp g k,Qdh (ZW H) (by omega) g,fun wx b=>Qh9 (Ya i b) (ZD f) f H (Ya o b) n l g,fun wx b=>Qiu (Ya i b) f H (Ya o b) n l g,u r most pages Z Z⟩
end
theorem Qhj {w:World}{m:List (MFunc n)}{o:List (MFunc k)}{pm g pi:Option Addr}{cm h ci:Nat}{inp:List Int}{fu pg:Int}(u:(QhR n).In w All m [.slice pm m.length cm]) (t:(QhR k).In w All o [.slice g o.length h]) (d:intsL.In w All inp [.slice pi inp.length ci]) (v:inp.length<1152921504606846976) :
 Calls prog 8 #[.agg #[.slice pm m.length cm],.agg #[.slice g o.length h],.slice pi inp.length ci,Iv fu,Iv pg] w fun e w'=>e=.returned (.bool true)/\Below w.heap.size w w':=by
 obtain⟨C,z,s,j,i⟩:=Qip u
 obtain⟨x,B,r,l,p⟩:=Qip t
 rw[<-s,<-r]
 exact Qkl j l fun q a _=>(i q).run d v _ fun b f c A y=>(p a).other d (by unfold Qd8 at b;omega) (by unfold Qd8 at b;omega) (by unfold Qd8 at b;omega)
end Go.Proofs.YtjhdpajpibdnaafGreat
