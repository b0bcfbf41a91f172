import Derived.Test.YtjodmledadbgeacGreatDoorP6
import Derived.Lib.LaidTab
import Derived.Stop.LaidErr
import Derived.Stop.Joined
import Derived.LaidMore
import Derived.ChangeMaps5
set_option maxHeartbeats 16000000
set_option maxRecDepth 100000
namespace Go.Proofs.YtjodmledadbgeacGreatDoor
open Go.ChangeShapes Go.WideShapes Go.ChangeAt Go.RowKit Go.Shelf
set_option linter.unusedSimpArgs false
set_option linter.unusedVariables false
theorem boxes {w w2 : World} {c1 c2 : Array Value} (b : Below w.heap.size w w2) : Below w.heap.size w ((w2.alloc (.cells c1 25)).alloc (.cells c2 27)) := (b.alloc b.size _).alloc (by have := b.size; simp; omega) _
def JoinOut (m n : List (MFunc 6)) (f1 f2 : Int) (w : World) (en : Ending) (w' : World) : Prop :=
  ∃ pb nb cb,en=.returned (.tuple #[.agg #[.slice pb nb cb],.agg #[.int .i64 f1,.int .i64 f2]])∧Below w.heap.size w w'∧(f1=0→nb=(m ++ n).length∧(modL 6).In w' (fun g=>w.heap.size≤g) (m ++ n) [.slice pb nb cb])
theorem both_list (a b : ByteArray) : (a ++ { data := #[10] } ++ b).data.toList = a.data.toList ++ 10 :: b.data.toList := by simp
theorem both_size (a b : ByteArray) : (a ++ { data := #[10] } ++ b).size = a.size + 1 + b.size := by
  have h:=congrArg List.length (both_list a b)
  rw [list_len] at h
  rw [h,List.length_append,List.length_cons,list_len,list_len]
  omega
theorem joinParse {a b : ByteArray} {m n : List (MFunc 6)} {w : World} {f1 f2 : Int} (hw : Laid w) (ha : parseL a.data.toList = .ok m) (hb : parseL b.data.toList = .ok n) (hl : a.size + b.size ≤ 39000) (hf1 : (modFault (m ++ n)).1 = f1) (hf2 : (modFault (m ++ n)).2 = f2) :
    Calls Tryz.prog 6 #[.string (a ++ { data:=#[10] } ++ b)] w fun en w'=>JoinOut m n f1 f2 w en w':=by
  have HL:=both_list a b
  have HS:=both_size a b
  generalize (a ++ { data:=#[10] } ++ b:ByteArray)=s at HL HS ⊢
  refine (parse_any s w hw (by rw [HS];unfold maxLen;omega)).mono fun en w' hO=>?_
  rw [HL] at hO
  obtain ⟨⟨pb,nb,cb,he,hbl,hz⟩,_⟩:=hO.joined ha hb (by rw [list_len,list_len];exact hl)
  rw [hf1] at hz
  rw [hf1,hf2] at he
  exact ⟨pb,nb,cb,he,hbl,hz⟩
theorem joinSmall {a b : ByteArray} {m n : List (MFunc 6)} (ha : parseL a.data.toList = .ok m) (hb : parseL b.data.toList = .ok n) (hl : a.size + b.size ≤ 39000) : msmall (m ++ n) := by
  obtain ⟨L,Q,h1,h2⟩:=funcs_join ha hb (by rw [list_len,list_len];exact hl)
  exact parsed_small (by have:=(scanL_fine h1).2;omega) h2
theorem wanted_in {w7 w9 : World} {m n : List (MFunc 6)} {dm dn : List Value} {bb g2 cap2 : Nat} {T : TypeId} (hI : ∀ (i : Nat) (x : MFunc 6), m[i]? = some x → (funcL 6).In w7 (fun g => g < bb) x ((dm.drop (i * 4)).take 4)) (hJ : ∀ (i : Nat) (x : MFunc 6), n[i]? = some x → (funcL 6).In w7 (fun g => g < bb) x ((dn.drop (i * 4)).take 4))
    (hd:dm.length=m.length * 4) (h2:w9.ownsRow 0 T 4 (.slice (some ⟨g2,0,none⟩) (m.length + n.length) cap2) (m.length + n.length) (dm ++ dn)) (kp:∀ k,k < w7.heap.size→w9.heap[k]?=w7.heap[k]?) (hg2:w7.heap.size≤g2) (hbb:bb + 1 + 1 < w7.heap.size) (v:Value) :
    (modL 6).In (w9.setCell ⟨bb + 1 + 1,0,none⟩ v) All (m ++ n) [.slice (some ⟨g2,0,none⟩) (m ++ n).length cap2]:=by
  have keep:∀ {x:MFunc 6} {es:List Value},(funcL 6).In w7 (fun g=>g < bb) x es→(funcL 6).In (w9.setCell ⟨bb + 1 + 1,0,none⟩ v) All x es:=fun h =>
    (funcL 6).keep (fun k hk hl=>(Below.heap_setCell _ _ _ _ (by show k≠bb + 1 + 1;omega)).trans (kp k hl)) (fun _ _ _=>trivial) h
  rw [List.length_append]
  exact list_of_row (A:=funcL 6) (owns_keep h2 (Below.heap_setCell _ _ _ _ (by show g2≠bb + 1 + 1;omega))) (by rw [List.length_append]) (kids_append hd (fun i x hx=>keep (hI i x hx)) (fun i x hx=>keep (hJ i x hx))) trivial
theorem joins_any (a b : ByteArray) (w : World) (hw0 : Laid w) (ha : a.size ≤ 140737488355328) (hb : b.size ≤ 140737488355328) :
    Calls Tryz.prog 4 #[.string a,.string b] w fun en w'=>en=.returned (.bool true)∧Below w.heap.size w w':=by
  have HW:Hid (Laid w):=hw0
  have CB:Hid (Calls Tryz.prog 5 #[] w fun e w'=>e=.returned (.bool true)∧Below w.heap.size w w'):=pbegun_any w hw0
  clear hw0
  by_cases hlen:a.size + b.size≤39000
  rotate_left
  · have hlen':(39000:Int) < (a.size:Int) + b.size:=by omega
    go_enter Tryz.func4,Tryz.ntmps4
    go_wp2_with fail
    refine CB.out.mono ?_
    rintro e w1 ⟨rfl,b1⟩
    have B1:Hid (Below w.heap.size w w1):=b1
    clear b1 CB
    go_wp2
    go_ret
    exact ⟨rfl,B1.out⟩
  have hlen':¬ (39000:Int) < (a.size:Int) + b.size:=by omega
  have PA:Hid (∀ w1,Below w.heap.size w w1→Calls Tryz.prog 6 #[.string a] w1 fun en w'=>ParOut a.data.toList w1 en w'):=fun w1 h=>parse_any a w1 (HW.out.below h) (by unfold maxLen;omega)
  have PB:Hid (∀ w1,Below w.heap.size w w1→Calls Tryz.prog 6 #[.string b] w1 fun en w'=>ParOut b.data.toList w1 en w'):=fun w1 h=>parse_any b w1 (HW.out.below h) (by unfold maxLen;omega)
  go_enter Tryz.func4,Tryz.ntmps4
  go_wp2_with fail
  refine CB.out.mono ?_
  rintro e w1 ⟨rfl,b1⟩
  have B1:Hid (Below w.heap.size w w1):=b1
  clear b1 CB
  go_wp2_with fail
  refine (PA.out w1 B1.out).mono ?_
  intro e w2 hO
  rcases hO.two with ⟨c,x,hc,rfl,b2⟩ | ⟨m,am,cm,hm,rfl,im,b2⟩
  · have B2:Hid (Below w.heap.size w ((w2.alloc (.cells #[.slice none 0 0] 25)).alloc (.cells #[.int .i64 c,.int .i64 x] 27))):=boxes (Below.andThen B1.out b2)
    have F2:Hid (Blk ((w2.alloc (.cells #[.slice none 0 0] 25)).alloc (.cells #[.int .i64 c,.int .i64 x] 27)) (w2.heap.size + 1) #[.int .i64 c,.int .i64 x] 27):=Blk.new2 _ _ _ _
    clear b2 B1 hO
    go_wp2_with fail
    generalize (w2.alloc (.cells #[.slice none 0 0] 25)).alloc (.cells #[.int .i64 c,.int .i64 x] 27)=w3 at B2 F2 ⊢
    refine (PB.out w3 B2.out).mono ?_
    intro e w4 hO
    obtain ⟨q,n,d,y,z,rfl,b4⟩:=hO.some_
    have B4:Hid (Below w.heap.size w ((w4.alloc (.cells #[.slice q n d] 25)).alloc (.cells #[.int .i64 y,.int .i64 z] 27))):=boxes (Below.andThen B2.out b4)
    have F4:Hid (Blk ((w4.alloc (.cells #[.slice q n d] 25)).alloc (.cells #[.int .i64 y,.int .i64 z] 27)) (w2.heap.size + 1) #[.int .i64 c,.int .i64 x] 27):=((F2.out.below b4).alloc _).alloc _
    clear b4 B2 hO F2
    go_upto_region 7 with fail
    generalize (w4.alloc (.cells #[.slice q n d] 25)).alloc (.cells #[.int .i64 y,.int .i64 z] 27)=w5 at B4 F4 ⊢
    have x0:=cellOf F4.out 0 _ rfl
    go_wp2
    go_ret
    exact ⟨rfl,B4.out⟩
  have HM:Hid (parseL a.data.toList=.ok m):=hm
  have M2:Hid (Blk ((w2.alloc (.cells #[.slice am m.length cm] 25)).alloc (.cells #[.int .i64 0,.int .i64 0] 27)) w2.heap.size #[.slice am m.length cm] 25):=Blk.new1 _ _ _ _ _
  have F2:Hid (Blk ((w2.alloc (.cells #[.slice am m.length cm] 25)).alloc (.cells #[.int .i64 0,.int .i64 0] 27)) (w2.heap.size + 1) #[.int .i64 0,.int .i64 0] 27):=Blk.new2 _ _ _ _
  have B2:Hid (Below w.heap.size w ((w2.alloc (.cells #[.slice am m.length cm] 25)).alloc (.cells #[.int .i64 0,.int .i64 0] 27))):=boxes (Below.andThen B1.out b2)
  have I2:Hid ((modL 6).In ((w2.alloc (.cells #[.slice am m.length cm] 25)).alloc (.cells #[.int .i64 0,.int .i64 0] 27)) (fun g=>g < w2.heap.size) m [.slice am m.length cm]):=Lay.alloc (Lay.alloc (Lay.mono im (fun _ _ h=>h)) _) _
  clear b2 B1 hO im hm
  go_wp2_with fail
  generalize (w2.alloc (.cells #[.slice am m.length cm] 25)).alloc (.cells #[.int .i64 0,.int .i64 0] 27)=w3 at M2 B2 F2 I2 ⊢
  generalize w2.heap.size=bm at M2 F2 I2 ⊢
  refine (PB.out w3 B2.out).mono ?_
  intro e w4 hO
  rcases hO.two with ⟨c,x,hc,rfl,b4⟩ | ⟨n,an,cn,hn,rfl,jn,b4⟩
  · have B4:Hid (Below w.heap.size w ((w4.alloc (.cells #[.slice none 0 0] 25)).alloc (.cells #[.int .i64 c,.int .i64 x] 27))):=boxes (Below.andThen B2.out b4)
    have F4:Hid (Blk ((w4.alloc (.cells #[.slice none 0 0] 25)).alloc (.cells #[.int .i64 c,.int .i64 x] 27)) (bm + 1) #[.int .i64 0,.int .i64 0] 27):=((F2.out.below b4).alloc _).alloc _
    have G4:Hid (Blk ((w4.alloc (.cells #[.slice none 0 0] 25)).alloc (.cells #[.int .i64 c,.int .i64 x] 27)) (w4.heap.size + 1) #[.int .i64 c,.int .i64 x] 27):=Blk.new2 _ _ _ _
    clear b4 B2 hO F2 M2 I2
    go_upto_region 7 with fail
    generalize (w4.alloc (.cells #[.slice none 0 0] 25)).alloc (.cells #[.int .i64 c,.int .i64 x] 27)=w5 at B4 F4 G4 ⊢
    have x0:=cellOf F4.out 0 _ rfl
    have x1:=cellOf G4.out 0 _ rfl
    go_wp2
    go_ret
    exact ⟨rfl,B4.out⟩
  have HN:Hid (parseL b.data.toList=.ok n):=hn
  have M4:Hid (Blk ((w4.alloc (.cells #[.slice an n.length cn] 25)).alloc (.cells #[.int .i64 0,.int .i64 0] 27)) bm #[.slice am m.length cm] 25):=((M2.out.below b4).alloc _).alloc _
  have F4:Hid (Blk ((w4.alloc (.cells #[.slice an n.length cn] 25)).alloc (.cells #[.int .i64 0,.int .i64 0] 27)) (bm + 1) #[.int .i64 0,.int .i64 0] 27):=((F2.out.below b4).alloc _).alloc _
  have N4:Hid (Blk ((w4.alloc (.cells #[.slice an n.length cn] 25)).alloc (.cells #[.int .i64 0,.int .i64 0] 27)) w4.heap.size #[.slice an n.length cn] 25):=Blk.new1 _ _ _ _ _
  have G4:Hid (Blk ((w4.alloc (.cells #[.slice an n.length cn] 25)).alloc (.cells #[.int .i64 0,.int .i64 0] 27)) (w4.heap.size + 1) #[.int .i64 0,.int .i64 0] 27):=Blk.new2 _ _ _ _
  have B4:Hid (Below w.heap.size w ((w4.alloc (.cells #[.slice an n.length cn] 25)).alloc (.cells #[.int .i64 0,.int .i64 0] 27))):=boxes (Below.andThen B2.out b4)
  have I4:Hid ((modL 6).In ((w4.alloc (.cells #[.slice an n.length cn] 25)).alloc (.cells #[.int .i64 0,.int .i64 0] 27)) (fun g=>g < bm) m [.slice am m.length cm]):=Lay.alloc (Lay.alloc (Lay.below I2.out b4) _) _
  have J4:Hid ((modL 6).In ((w4.alloc (.cells #[.slice an n.length cn] 25)).alloc (.cells #[.int .i64 0,.int .i64 0] 27)) (fun g=>g < w4.heap.size) n [.slice an n.length cn]):=Lay.alloc (Lay.alloc (Lay.mono jn (fun _ _ h=>h)) _) _
  clear b4 B2 hO jn hn M2 F2 I2
  go_upto_region 7 with fail
  generalize (w4.alloc (.cells #[.slice an n.length cn] 25)).alloc (.cells #[.int .i64 0,.int .i64 0] 27)=w5 at M4 F4 N4 G4 B4 I4 J4 ⊢
  generalize w4.heap.size=bn at N4 G4 J4 ⊢
  have x0:=cellOf F4.out 0 _ rfl
  have x1:=cellOf G4.out 0 _ rfl
  have hs1:¬ 9223372036854775807 < a.size + 1:=by omega
  have hs2:¬ 9223372036854775807 < a.size + 1 + b.size:=by omega
  obtain ⟨f1,hf1⟩:∃ f,(modFault (m ++ n)).1=f:=⟨_,rfl⟩
  obtain ⟨f2,hf2⟩:∃ f,(modFault (m ++ n)).2=f:=⟨_,rfl⟩
  have F1:Hid ((modFault (m ++ n)).1=f1):=hf1
  have F2:Hid ((modFault (m ++ n)).2=f2):=hf2
  have PJ:Hid (Calls Tryz.prog 6 #[.string (a ++ { data:=#[10] } ++ b)] w5 fun en w'=>JoinOut m n f1 f2 w5 en w'):=joinParse (HW.out.below B4.out) HM.out HN.out hlen hf1 hf2
  have SM:Hid (msmall (m ++ n)):=joinSmall HM.out HN.out hlen
  have hmn:=parse_some HM.out
  have hnn:=parse_some HN.out
  clear hf1 hf2
  go_wp2_with fail
  clear x0 x1
  refine PJ.out.mono ?_
  intro e w6 hO
  obtain ⟨pb,nb,cb,rfl,b6,hz6⟩:=hO
  have l5m:=M4.out.lt
  have l5n:=N4.out.lt
  have l56:=b6.size
  have M7:Hid (Blk (((w6.alloc (.cells #[.slice pb nb cb] 25)).alloc (.cells #[.int .i64 f1,.int .i64 f2] 27)).alloc (.cells #[.slice none 0 0] 25)) bm #[.slice am m.length cm] 25):=(((M4.out.below b6).alloc _).alloc _).alloc _
  have N7:Hid (Blk (((w6.alloc (.cells #[.slice pb nb cb] 25)).alloc (.cells #[.int .i64 f1,.int .i64 f2] 27)).alloc (.cells #[.slice none 0 0] 25)) bn #[.slice an n.length cn] 25):=(((N4.out.below b6).alloc _).alloc _).alloc _
  have P7:Hid (Blk (((w6.alloc (.cells #[.slice pb nb cb] 25)).alloc (.cells #[.int .i64 f1,.int .i64 f2] 27)).alloc (.cells #[.slice none 0 0] 25)) w6.heap.size #[.slice pb nb cb] 25):=(Blk.new1 _ _ _ _ _).alloc _
  have H7:Hid (Blk (((w6.alloc (.cells #[.slice pb nb cb] 25)).alloc (.cells #[.int .i64 f1,.int .i64 f2] 27)).alloc (.cells #[.slice none 0 0] 25)) (w6.heap.size + 1) #[.int .i64 f1,.int .i64 f2] 27):=(Blk.new2 _ _ _ _).alloc _
  have V7:Hid (Blk (((w6.alloc (.cells #[.slice pb nb cb] 25)).alloc (.cells #[.int .i64 f1,.int .i64 f2] 27)).alloc (.cells #[.slice none 0 0] 25)) (w6.heap.size + 1 + 1) #[.slice none 0 0] 25):=by
    have:=Blk.new ((w6.alloc (.cells #[.slice pb nb cb] 25)).alloc (.cells #[.int .i64 f1,.int .i64 f2] 27)) #[.slice none 0 0] 25
    show Blk _ _ _ _
    simpa using this
  have B7:Hid (Below w.heap.size w (((w6.alloc (.cells #[.slice pb nb cb] 25)).alloc (.cells #[.int .i64 f1,.int .i64 f2] 27)).alloc (.cells #[.slice none 0 0] 25))):=(boxes (Below.andThen B4.out b6)).alloc (by have:=(Below.andThen B4.out b6).size;simp;omega) _
  have I7:Hid ((modL 6).In (((w6.alloc (.cells #[.slice pb nb cb] 25)).alloc (.cells #[.int .i64 f1,.int .i64 f2] 27)).alloc (.cells #[.slice none 0 0] 25)) (fun g=>g < w6.heap.size) m [.slice am m.length cm]):=Lay.alloc (Lay.alloc (Lay.alloc (Lay.mono (Lay.below I4.out b6) (fun k hk _=>by omega)) _) _) _
  have J7:Hid ((modL 6).In (((w6.alloc (.cells #[.slice pb nb cb] 25)).alloc (.cells #[.int .i64 f1,.int .i64 f2] 27)).alloc (.cells #[.slice none 0 0] 25)) (fun g=>g < w6.heap.size) n [.slice an n.length cn]):=Lay.alloc (Lay.alloc (Lay.alloc (Lay.mono (Lay.below J4.out b6) (fun k hk _=>by omega)) _) _) _
  have Z7:Hid (f1=0→nb=(m ++ n).length∧(modL 6).In (((w6.alloc (.cells #[.slice pb nb cb] 25)).alloc (.cells #[.int .i64 f1,.int .i64 f2] 27)).alloc (.cells #[.slice none 0 0] 25)) (fun g=>g < w6.heap.size) (m ++ n) [.slice pb nb cb]):=fun h0=>⟨(hz6 h0).1,Lay.alloc (Lay.alloc (Lay.alloc (Lay.mono (hz6 h0).2 (fun k _ h=>h)) _) _) _⟩
  have HB:Hid (bm < w6.heap.size∧bn < w6.heap.size):=⟨by omega,by omega⟩
  have HWB:Hid (w.heap.size≤w6.heap.size + 1 + 1):=by show _≤_;have:=(Below.andThen B4.out b6).size;omega
  clear hz6 b6 PJ M4 F4 N4 G4 B4 I4 J4 l5m l5n l56
  go_upto_region 11 with fail
  generalize (((w6.alloc (.cells #[.slice pb nb cb] 25)).alloc (.cells #[.int .i64 f1,.int .i64 f2] 27)).alloc (.cells #[.slice none 0 0] 25))=w7 at M7 N7 P7 H7 V7 B7 I7 J7 Z7 ⊢
  generalize w6.heap.size=bb at P7 H7 V7 I7 J7 Z7 HB HWB ⊢
  obtain ⟨xm,hxm⟩:∃ x,m[0]?=some x:=⟨_,List.getElem?_eq_getElem (by omega)⟩
  obtain ⟨xn,hxn⟩:∃ x,n[0]?=some x:=⟨_,List.getElem?_eq_getElem (by omega)⟩
  obtain ⟨gm,om,_,rfl,_,hgm,_,_⟩:=Lay.list_at I7.out hxm
  obtain ⟨gn,og,_,rfl,_,hgn,_,_⟩:=Lay.list_at J7.out hxn
  obtain ⟨dm,dm1,dm2,dm3,dm4⟩:=Lay.flat I7.out (fun x ds h=>func_one x ds h)
  obtain ⟨dn,dn1,dn2,dn3,dn4⟩:=Lay.flat J7.out (fun x ds h=>func_one x ds h)
  have DM1:Hid (dm.length=m.length * 4):=dm1
  have DM2:Hid (∀ (j:Nat) (u:Value),dm[j]?=some u→w7.cell? ((⟨gm,om,none⟩:Addr).add j)=some u):=dm2
  have DM3:Hid (∀ u ∈ dm,u.oneCell'=true):=dm3
  have DM4:Hid (∀ (i:Nat) (x:MFunc 6),m[i]?=some x→(funcL 6).In w7 (fun g=>g < bb) x ((dm.drop (i * 4)).take 4)):=dm4
  have DN1:Hid (dn.length=n.length * 4):=dn1
  have DN2:Hid (∀ (j:Nat) (u:Value),dn[j]?=some u→w7.cell? ((⟨gn,og,none⟩:Addr).add j)=some u):=dn2
  have DN3:Hid (∀ u ∈ dn,u.oneCell'=true):=dn3
  have DN4:Hid (∀ (i:Nat) (x:MFunc 6),n[i]?=some x→(funcL 6).In w7 (fun g=>g < bb) x ((dn.drop (i * 4)).take 4)):=dn4
  have OW0:Hid (w7.drew.ownsRow 0 38 4 (.slice none 0 0) 0 []):=⟨rfl,.inl ⟨rfl,rfl⟩⟩
  have LV:=V7.out.lt
  have LN:=N7.out.lt
  obtain ⟨i0,hi,hz0,hz1,hz2⟩:=pInfoF
  clear dm1 dm2 dm3 dm4 dn1 dn2 dn3 dn4 hxm hxn I7 J7
  have y48:=cellOf V7.out 0 _ rfl
  have y50:=cellOf M7.out 0 _ rfl
  have y53:=cellOf N7.out 0 _ rfl
  go_region_law (first
    | (refine step_append_lies _ rfl (.tmp 48) (.tmp 50) 23 rfl 0 38 i0 (.agg #[.int .i64 0,.slice none 0 0,.slice none 0 0,.slice none 0 0]) 4 80 pUnderF hi hz0 hz1 hz2 rfl (by decide) (.slice none 0 0) 0 [] (by simp [Act.eval,Act.put]) OW0.out ⟨gm,om,none⟩ m.length cm dm (by simp [Act.eval,Act.put]) DM1.out (fun j u h=>DM2.out j u h) DM3.out (by omega) (by unfold maxLen;omega) (by omega) (Nat.zero_le _) w7.heap.size rfl ?_
       intro g1 cap1 w8 h1 hgrow1 hat1 hlt1
       have OW8:Hid (w8.ownsRow 0 38 4 (.slice (some ⟨g1,0,none⟩) m.length cap1) m.length dm):=by show World.ownsRow _ _ _ _ _ _ _;have h:=h1;rw [Nat.zero_add,List.nil_append] at h;exact h
       have KP8:Hid (∀ k,k < w7.heap.size→w8.heap[k]?=w7.heap[k]?):=fun k hk=>hgrow1.block k hk (by simp [Value.ownBlock])
       have G1:Hid (w7.heap.size≤g1):=by
         show _≤_
         rcases hat1 with h | h
         · simp [Value.ownBlock] at h
         · omega
       have S8:Hid (w7.heap.size≤w8.heap.size):=hgrow1.size
       have B8:Hid (Below w.heap.size w w8):=⟨hgrow1.os.trans B7.out.os,hgrow1.tape.trans B7.out.tape,hgrow1.output.trans B7.out.output,Nat.le_trans B7.out.size hgrow1.size,fun k hk=>(hgrow1.block k (Nat.lt_of_lt_of_le hk B7.out.size) (by simp [Value.ownBlock])).trans (B7.out.block k hk)⟩
       have DN8:Hid (∀ (j:Nat) (u:Value),dn[j]?=some u→w8.cell? ((⟨gn,og,none⟩:Addr).add j)=some u):=fun j u h=>by
         have h':=DN2.out j u h
         rw [Go.WideShapes.add_plain] at h' ⊢
         rw [World.cell?_of_block (w:=w7) (a:=⟨gn,_,none⟩) (KP8.out gn hgn)]
         exact h'
       have y53b:=cellOf (show Blk w8 bn #[.slice (some ⟨gn,og,none⟩) n.length cn] 25 from (KP8.out bn LN).trans N7.out) 0 _ rfl
       clear h1 hgrow1 hat1 hlt1
       simp only [Nat.zero_add])
    | (refine step_append_lies _ rfl (.tmp 51) (.tmp 53) 23 rfl 0 38 i0 (.agg #[.int .i64 0,.slice none 0 0,.slice none 0 0,.slice none 0 0]) 4 80 pUnderF hi hz0 hz1 hz2 rfl (by decide) (.slice (some ⟨g1,0,none⟩) m.length cap1) m.length dm (by simp [Act.eval,Act.put]) OW8.out ⟨gn,og,none⟩ n.length cn dn (by simp [Act.eval,Act.put]) DN1.out DN8.out DN3.out (by omega) (by unfold maxLen;omega) (by omega) (Nat.zero_le _) w8.heap.size rfl ?_
       intro g2 cap2 w9 h2 hgrow2 hat2 hlt2
       have OW9:Hid (w9.ownsRow 0 38 4 (.slice (some ⟨g2,0,none⟩) (m.length + n.length) cap2) (m.length + n.length) (dm ++ dn)):=h2
       have KP9:Hid (∀ k,k < w7.heap.size→w9.heap[k]?=w7.heap[k]?):=fun k hk=>(hgrow2.block k (Nat.lt_of_lt_of_le hk S8.out) (by have:=G1.out;simp [Value.ownBlock];omega)).trans (KP8.out k hk)
       have G2:Hid (w7.heap.size≤g2):=by
         show _≤_
         have q1:=G1.out
         have q2:=S8.out
         rcases hat2 with h | h
         · simp [Value.ownBlock] at h;omega
         · omega
       have B9:Hid (Below w.heap.size w w9):=⟨hgrow2.os.trans B8.out.os,hgrow2.tape.trans B8.out.tape,hgrow2.output.trans B8.out.output,Nat.le_trans B8.out.size hgrow2.size,fun k hk=>(hgrow2.block k (Nat.lt_of_lt_of_le hk B8.out.size) (by have:=G1.out;have:=B7.out.size;simp [Value.ownBlock];omega)).trans (B8.out.block k hk)⟩
       have V9:Hid (Blk w9 (bb + 1 + 1) #[.slice none 0 0] 25):=(KP9.out _ LV).trans V7.out
       have y9:=cellOf V9.out 0 _ rfl
       have z9:=freeOf V9.out 0
       clear h2 hgrow2 hat2 hlt2))
  all_goals
    have C10:Hid ((modL 6).In (w9.setCell ⟨bb + 1 + 1,0,none⟩ (.slice (some ⟨g2,0,none⟩) (m.length + n.length) cap2)) All (m ++ n) [.slice (some ⟨g2,0,none⟩) (m ++ n).length cap2]):=wanted_in DM4.out DN4.out DM1.out OW9.out KP9.out G2.out LV _
    have V10:Hid (Blk (w9.setCell ⟨bb + 1 + 1,0,none⟩ (.slice (some ⟨g2,0,none⟩) (m.length + n.length) cap2)) (bb + 1 + 1) #[.slice (some ⟨g2,0,none⟩) (m.length + n.length) cap2] 25):=by
      have:=blockSet V9.out 0 (.slice (some ⟨g2,0,none⟩) (m.length + n.length) cap2)
      show Blk _ _ _ _
      simpa using this
    have P10:Hid (Blk (w9.setCell ⟨bb + 1 + 1,0,none⟩ (.slice (some ⟨g2,0,none⟩) (m.length + n.length) cap2)) bb #[.slice pb nb cb] 25):=Blk.setOther (show Blk w9 bb #[.slice pb nb cb] 25 from (KP9.out bb P7.out.lt).trans P7.out) (by show bb + 1 + 1≠bb;omega) _
    have H10:Hid (Blk (w9.setCell ⟨bb + 1 + 1,0,none⟩ (.slice (some ⟨g2,0,none⟩) (m.length + n.length) cap2)) (bb + 1) #[.int .i64 f1,.int .i64 f2] 27):=Blk.setOther (show Blk w9 (bb + 1) #[.int .i64 f1,.int .i64 f2] 27 from (KP9.out (bb + 1) H7.out.lt).trans H7.out) (by show bb + 1 + 1≠bb + 1;omega) _
    have B10:Hid (Below w.heap.size w (w9.setCell ⟨bb + 1 + 1,0,none⟩ (.slice (some ⟨g2,0,none⟩) (m.length + n.length) cap2))):=B9.out.setCell (show w.heap.size≤bb + 1 + 1 from HWB.out) _
    have Z10:Hid (f1=0→nb=(m ++ n).length∧(modL 6).In (w9.setCell ⟨bb + 1 + 1,0,none⟩ (.slice (some ⟨g2,0,none⟩) (m.length + n.length) cap2)) All (m ++ n) [.slice pb nb cb]):=fun h0=>⟨(Z7.out h0).1,(modL 6).keep (fun k hk hl=>(Below.heap_setCell _ _ _ _ (by show k≠bb + 1 + 1;omega)).trans (KP9.out k hl)) (fun _ _ _=>trivial) (Z7.out h0).2⟩
    clear OW8 KP8 G1 S8 B8 DN8 y53b OW9 KP9 G2 B9 V9 y9 z9 y48 y50 y53
    generalize (w9.setCell ⟨bb + 1 + 1,0,none⟩ (.slice (some ⟨g2,0,none⟩) (m.length + n.length) cap2))=w10 at C10 V10 P10 H10 B10 Z10 ⊢
    have y11:=cellOf V10.out 0 _ rfl
    have CF:Hid (Calls Tryz.prog 13 #[.agg #[.slice (some ⟨g2,0,none⟩) (m.length + n.length) cap2]] w10 fun en w'=>en=.returned (.agg #[.int .i64 f1,.int .i64 f2])∧Below w10.heap.size w10 w'):=by
      have h:=codeFault_any C10.out SM.out
      rw [List.length_append] at h
      rw [← F1.out,← F2.out]
      exact h
    go_wp2_with fail
    refine CF.out.mono ?_
    rintro e w11 ⟨rfl,b11⟩
    have V12:Hid (Blk (w11.alloc (.cells #[.int .i64 f1,.int .i64 f2] 27)) (bb + 1 + 1) #[.slice (some ⟨g2,0,none⟩) (m.length + n.length) cap2] 25):=(V10.out.below b11).alloc _
    have P12:Hid (Blk (w11.alloc (.cells #[.int .i64 f1,.int .i64 f2] 27)) bb #[.slice pb nb cb] 25):=(P10.out.below b11).alloc _
    have H12:Hid (Blk (w11.alloc (.cells #[.int .i64 f1,.int .i64 f2] 27)) (bb + 1) #[.int .i64 f1,.int .i64 f2] 27):=(H10.out.below b11).alloc _
    have X12:Hid (Blk (w11.alloc (.cells #[.int .i64 f1,.int .i64 f2] 27)) w11.heap.size #[.int .i64 f1,.int .i64 f2] 27):=Blk.new _ _ _
    have B12:Hid (Below w.heap.size w (w11.alloc (.cells #[.int .i64 f1,.int .i64 f2] 27))):=(Below.andThen B10.out b11).alloc (Below.andThen B10.out b11).size _
    have C12:Hid ((modL 6).In (w11.alloc (.cells #[.int .i64 f1,.int .i64 f2] 27)) All (m ++ n) [.slice (some ⟨g2,0,none⟩) (m ++ n).length cap2]):=Lay.alloc (Lay.below C10.out b11) _
    have Z12:Hid (f1=0→nb=(m ++ n).length∧(modL 6).In (w11.alloc (.cells #[.int .i64 f1,.int .i64 f2] 27)) All (m ++ n) [.slice pb nb cb]):=fun h0=>⟨(Z10.out h0).1,Lay.alloc (Lay.below (Z10.out h0).2 b11) _⟩
    clear y11 CF b11 C10 V10 P10 H10 B10 Z10
    go_upto_region 13 with fail
    generalize w11.alloc (.cells #[.int .i64 f1,.int .i64 f2] 27)=w12 at V12 P12 H12 X12 B12 C12 Z12 ⊢
    generalize w11.heap.size=bx at X12 ⊢
    have u0:=cellOf V12.out 0 _ rfl
    have u1:=cellOf P12.out 0 _ rfl
    have u2:=cellOf H12.out 0 _ rfl
    have u3:=cellOf H12.out 1 _ rfl
    have u4:=cellOf X12.out 0 _ rfl
    have u5:=cellOf X12.out 1 _ rfl
    by_cases hf0:f1=0
    · obtain ⟨hnb,hz⟩:=Z12.out hf0
      have CS:Hid (Calls Tryz.prog 8 #[.agg #[.slice pb (m.length + n.length) cb],.agg #[.slice (some ⟨g2,0,none⟩) (m.length + n.length) cap2]] w12 fun en w'=>en=.returned (.bool true)∧Below w12.heap.size w12 w'):=by
        rw [hnb] at hz
        have h:=sameModule_any hz C12.out SM.out
        rw [List.length_append,bdec_true rfl] at h
        exact h
      rw [List.length_append] at hnb
      subst hnb
      subst hf0
      clear hz Z12 C12
      go_wp2_with fail
      refine CS.out.mono ?_
      rintro e w13 ⟨rfl,b13⟩
      have B13:Hid (Below w.heap.size w w13):=Below.andThen B12.out b13
      clear b13 CS
      go_wp2
      go_ret
      exact ⟨rfl,B13.out⟩
    · go_wp2
      go_ret
      exact ⟨rfl,B12.out⟩
end Go.Proofs.YtjodmledadbgeacGreatDoor
namespace Go.Proofs.YtjodmledadbgeacGreatDoor
open Go.ChangeShapes Go.WideShapes Go.ChangeAt Go.RowKit Go.Deep
set_option linter.unusedVariables false
theorem own : ownKnob Tryz.prog.godebug = none := by kernel_rfl
theorem powG : Tryz.prog.globalNamed "internal/strconv.uint64pow10" = some 2 := by kernel_rfl
theorem powT : (Tryz.prog.globals[2]?).map (·.type) = some 172 := by kernel_rfl
theorem powD : (Rows.laid_internal_strconv_uint64pow10 : DataW Unit) = Lib.tabData .u64 Lib.pow10Tab := by kernel_rfl
theorem synG : Tryz.prog.globalNamed "strconv.ErrSyntax" = some 0 := by kernel_rfl
theorem synT : (Tryz.prog.globals[0]?).map (·.type) = some 119 := by kernel_rfl
theorem rngG : Tryz.prog.globalNamed "strconv.ErrRange" = some 1 := by kernel_rfl
theorem rngT : (Tryz.prog.globals[1]?).map (·.type) = some 119 := by kernel_rfl
theorem cellsE : Tryz.prog.cellsOf 180 = 1 := by kernel_rfl
theorem cellsS : Tryz.prog.cellsOf 9 = 1 := by kernel_rfl
theorem starE : "*" ++ "errors.errorString" = "*errors.errorString" := by decide
theorem rowE (u : TypeId) (h : Tryz.prog.typeName? 3 u = some "*errors.errorString") : u = 178 :=
  typeName_ptr_named (nm := "errors.errorString") (by rw [starE]; kernel_rfl) (by kernel_rfl) (by decide) u (by rw [starE]; exact h)
theorem laid_all {W : World} {a b : String × DataW Unit} (h : laidMet Tryz.prog [a, b, ("internal/strconv.uint64pow10", Rows.laid_internal_strconv_uint64pow10), ("strconv.ErrRange", Rows.laid_strconv_ErrRange), ("strconv.ErrSyntax", Rows.laid_strconv_ErrSyntax)] W) : Laid W := by
  have h3:=h.tail.tail
  have h4:=h3.tail
  have h5:=h4.tail
  rw [powD] at h3
  obtain ⟨a1,s1,hv1,-,-,-⟩:=laid_sentinel h4 rngG rngT Tryz.underlying119 rowE Tryz.underlying178 Tryz.underlying180 rfl rfl Tryz.underlying9 cellsE cellsS
  obtain ⟨a0,s0,hv0,-,-,-⟩:=laid_sentinel h5 synG synT Tryz.underlying119 rowE Tryz.underlying178 Tryz.underlying180 rfl rfl Tryz.underlying9 cellsE cellsS
  exact ⟨Lib.tabIs_of_head powG powT Tryz.underlying172 Tryz.underlying147 (by kernel_rfl) (by kernel_rfl) h3,⟨_,_,hv0⟩,⟨_,_,hv1⟩⟩
end Go.Proofs.YtjodmledadbgeacGreatDoor
