import Derived.Deep.LoopGhost
import Derived.Test.YtepdckehokdjlaaGreatDoorMg11
import Derived.Test.YtepdckehokdjlaaGreatDoorMg19
import Derived.Test.YtepdckehokdjlaaGreatDoorMg10
import Derived.Test.YtepdckehokdjlaaGreatDoorMg7
import Derived.Test.YtepdckehokdjlaaGreatDoorMg2
set_option maxRecDepth 100000
set_option maxHeartbeats 1600000
namespace Go.Proofs.YtepdckehokdjlaaGreatDoor
open Go.RowKit Go.Maps
theorem spotsOf_of (HIO:∀ (gs:List SpotD) (mb n B:Nat) (w:World),DirM w mb n gs→n≤1000000→(∀ A ∈ gs,A.key.size≤1048576)→gs.length≤1000000→B≤w.heap.size→Calls Tryz.prog 123 #[.map (some mb)] w fun e w' => (∃ v,e=.returned v∧RowSpot w' B v gs)∧Below w.heap.size w w')
  (l:List SegD) (v:Value) (B K:Nat) (w:World) (hll:l.length≤100) (HN:segsN l≤666700) (hbl0:∀ s ∈ l,s.bs.length≤20001) (hok0:∀ s ∈ l,∀ b ∈ s.bs,textOkD b.seq b.chs=true) (hku:∀ A ∈ dirSegs [] l,A.key.size≤20) (HDL:(dirSegs [] l).length≤1000000) (hG:BuildG w B K v l) :
  Calls Tryz.prog 92 #[v] w fun e w' => (∃ v,e=.returned v∧RowSpot w' w.heap.size v (dirSegs [] l))∧Below w.heap.size w w':=by
 obtain ⟨a1,c1,rfl⟩:=buildG_form hG
 have HBL:=hide hbl0
 have HOK:=hide hok0
 have HKU:=hide hku
 have G1:=hide hG
 clear hG hbl0 hok0 hku
 go_enter Tryz.func92,Tryz.ntmps92
 have hmk:(Instr.makeMap 196 none).run Tryz.prog w=.ok (.map (some w.heap.size)) (w.alloc (.map #[] 0)):=run_makeMap _ w
 obtain ⟨wm,hwm⟩:∃ x,x=w.alloc (.map #[] 0):=⟨_,rfl⟩
 have HM0:Hid (DirM wm w.heap.size 0 []):=by rw [hwm];exact dirM_new w
 have BM:Hid (Below w.heap.size w wm):=by rw [hwm];exact (Below.refl _ w).alloc (Nat.le_refl _) _
 have hms:wm.heap.size=w.heap.size+1:=by rw [hwm];simp
 have HBW:Hid (∀ W,wm.grownBy W (some w.heap.size)→Below w.heap.size w W):=fun W hW => BM.out.grown hW (by omega) (fun k hk => by cases hk;exact Nat.le_refl _)
 go_wp2_with fail
 rw [← hwm]
 clear hwm hmk
 go_loopg [11] l.length (fun gg ii wr => ∃ (k:Nat),k+gg=l.length∧ii=.int .i64 k∧k≤l.length∧Hid (DirM wr w.heap.size (segsN (l.take k)) (dirSegs [] (l.take k)))∧Hid (wm.grownBy wr (some w.heap.size)))
 case atStart => exact ⟨0,by omega,rfl,Nat.zero_le _,HM0,World.grownBy.refl _ _⟩
 case round =>
  obtain ⟨k,hkg,rfl,hk,HM,HG⟩:=hrel
  have hws:=HG.out.size
  have HBr:=hide (HBW.out _ HG.out)
  cases gk with
  | zero =>
   have hlt':decide ((k:Int) < (l.length:Int))=false:=by simp;omega
   have hltn:decide (k < l.length)=false:=by simp;omega
   have hke:k=l.length:=by omega
   rw [show l.take k=l from List.take_of_length_le (by omega)] at HM
   have HMw:=hide (dirM_mono HM.out HN)
   have HIOr:=hide (HIO (dirSegs [] l) w.heap.size 666700 w.heap.size wr HMw.out (by omega) (fun A hA => by have:=HKU.out A hA;omega) (by omega) (by omega))
   go_wp2_with fail
   refine HIOr.out.mono ?_
   rintro e w9 ⟨⟨v9,rfl,r9⟩,b9⟩
   obtain ⟨a9,c9,rfl,-⟩:=rowSpot_at r9
   have R9:=hide r9
   have B9:Hid (Below w.heap.size w w9):=HBr.out.trans (b9.mono (by omega))
   clear r9 b9
   go_wp2
   go_ret
   exact ⟨⟨_,rfl,R9.out⟩,B9.out⟩
  | succ g0 =>
   have hlt:k < l.length:=by omega
   have hlt':decide ((k:Int) < (l.length:Int))=true:=by simp;omega
   have hltn:decide (k < l.length)=true:=by simp;omega
   have hi0:(0:Int)≤(k:Int):=by omega
   have hi1:(k:Int) < (l.length:Int):=by omega
   obtain ⟨g,hg,hgw,hc0,hc1,⟨a,c,hc2,hrb⟩,⟨a',c',hc3,hrp⟩,hc4,hc5,hc6⟩:=buildG_at G1.out k hlt
   subst hg
   have hbl:=HBL.out l[k] (List.getElem_mem hlt)
   have HOKk:=hide (HOK.out l[k] (List.getElem_mem hlt))
   have htk:=hide (List.take_succ_eq_append_getElem hlt)
   have htN:segsN (l.take k)+chsN l[k].bs≤segsN l:=by
    rw [← segsN_snoc,← htk.out]
    exact segsN_take_le l (k+1)
   have HBAT:=hide (rowBatch_rows hrb).2
   have HPLS:=hide hrp
   clear hrb hrp
   generalize l[k]=F at hc0 hc1 hc2 hc3 hc4 hc5 hc6 htk hbl HOKk htN HBAT HPLS
   have HPG:Hid (∀ j (h:j < F.pls.length),F.pls[j]=F.hd+totD (F.bs.take j)):=fun j h => plsB_get F.bs F.hd j h
   have hpl:=hide F.pls_len
   obtain ⟨P,HP⟩:∃ P,Hid (F.pls=P):=⟨_,hide rfl⟩
   rw [HP.out] at hc3 HPLS hpl
   have hd0:=(HBr.out.cell (p:=⟨g,k * 7,none⟩) hgw).trans hc0
   have hd1:=(HBr.out.cell (p:=⟨g,k * 7+1,none⟩) hgw).trans hc1
   have hd2:=(HBr.out.cell (p:=⟨g,k * 7+2,none⟩) hgw).trans hc2
   have hd3:=(HBr.out.cell (p:=⟨g,k * 7+3,none⟩) hgw).trans hc3
   have hd4:=(HBr.out.cell (p:=⟨g,k * 7+4,none⟩) hgw).trans hc4
   have hd5:=(HBr.out.cell (p:=⟨g,k * 7+5,none⟩) hgw).trans hc5
   have hd6:=(HBr.out.cell (p:=⟨g,k * 7+6,none⟩) hgw).trans hc6
   clear hc0 hc1 hc2 hc3 hc4 hc5 hc6
   obtain ⟨wO,rfl⟩:∃ wO,wO=wr:=⟨_,rfl⟩
   obtain ⟨wX,hwX⟩:∃ x,x=wO.alloc (.cells #[.int .i64 (F.num:Int),.int .i64 (F.frm:Int),.slice a F.bs.length c,.slice a' P.length c',.int .i64 (F.fin:Int),.bool F.right,.bool F.torn] 158):=⟨_,rfl⟩
   have BX:Hid (Below wO.heap.size wO wX):=by rw [hwX];exact (Below.refl _ wO).alloc (Nat.le_refl _) _
   have hxs:wX.heap.size=wO.heap.size+1:=by rw [hwX];simp
   have HXB:Hid (wX.heap[wO.heap.size]? = some (.cells #[.int .i64 (F.num:Int),.int .i64 (F.frm:Int),.slice a F.bs.length c,.slice a' P.length c',.int .i64 (F.fin:Int),.bool F.right,.bool F.torn] 158 (0,0))):=by rw [hwX];exact heap_alloc_new wO _
   have hx2:wX.cell? ⟨wO.heap.size,2,none⟩=some (.slice a F.bs.length c):=(cell_of_row wX _ 2 _ _ (0,0) HXB.out).trans rfl
   obtain ⟨n0,HN0⟩:∃ n,Hid (segsN (l.take k)=n):=⟨_,hide rfl⟩
   obtain ⟨D0,HD0⟩:∃ n,Hid (dirSegs [] (l.take k)=n):=⟨_,hide rfl⟩
   rw [HN0.out,HD0.out] at HM
   rw [HN0.out] at htN
   have HMX:=hide (dirM_below HM.out BX.out)
   have HGX:Hid (wm.grownBy wX (some w.heap.size)):=grownBy_trans HG.out (grownBy_below _ BX.out)
   have HNX:Hid (segsN (l.take (k+1))=n0+chsN F.bs∧dirSegs [] (l.take (k+1))=batsIn (F.num:Int) D0 F.hd F.bs):=by
    show _∧_
    rw [htk.out,segsN_snoc,dirSegs_snoc,HN0.out,HD0.out]
    exact ⟨rfl,rfl⟩
   have hmw:w.heap.size < wO.heap.size:=by omega
   go_wp2_with fail
   rw [← hwX]
   clear hwX hx2 hd0 hd1 hd2 hd3 hd4 hd5 hd6 BX
   go_loopg [18] F.bs.length (fun g2 ii wy => ∃ (j:Nat),j+g2=F.bs.length∧ii=.int .i64 j∧j≤F.bs.length∧Hid (DirM wy w.heap.size (n0+chsN (F.bs.take j)) (batsIn (F.num:Int) D0 F.hd (F.bs.take j)))∧Hid (wX.grownBy wy (some w.heap.size)))
   case atStart => exact ⟨0,by omega,rfl,Nat.zero_le _,HMX,World.grownBy.refl _ _⟩
   case round =>
    obtain ⟨j,hjg,rfl,hj,HMy,HGy⟩:=hrel
    have hwy:=HGy.out.size
    have HBy:=hide (HBW.out _ (grownBy_trans HGX.out HGy.out))
    cases gk with
    | zero =>
     have hjt':decide ((j:Int) < (F.bs.length:Int))=false:=by simp;omega
     have hjtn:decide (j < F.bs.length)=false:=by simp;omega
     rw [show F.bs.take j=F.bs from List.take_of_length_le (by omega)] at HMy
     go_wp2
     go_roundg g0
     case measure => omega
     case rel => exact ⟨k+1,by omega,by go_num,by omega,by show DirM _ _ _ _;rw [HNX.out.1,HNX.out.2];exact HMy.out,grownBy_trans HGX.out HGy.out⟩
    | succ g2 =>
     have hjt:j < F.bs.length:=by omega
     have hjt':decide ((j:Int) < (F.bs.length:Int))=true:=by simp;omega
     have hjtn:decide (j < F.bs.length)=true:=by simp;omega
     have hj0:(0:Int)≤(j:Int):=by omega
     have hj1:(j:Int) < (F.bs.length:Int):=by omega
     have hj2:(j:Int) < (P.length:Int):=by have:=hpl.out;omega
     obtain ⟨b,off,hab,hbw,he0,a2,c2,he1,hch⟩:=HBAT.out j hjt
     obtain ⟨gp,hgp,hgpw,hep⟩:=rowNat_at HPLS.out j (by have:=hpl.out;omega)
     have hpv:P[j]'(by have:=hpl.out;omega)=F.hd+totD (F.bs.take j):=by have:=HPG.out j (by rw [HP.out];have:=hpl.out;omega);simpa [HP.out] using this
     rw [hpv] at hep
     have htj:=hide (List.take_succ_eq_append_getElem hjt)
     have hokb:=HOKk.out F.bs[j] (List.getElem_mem hjt)
     have htn2:chsN (F.bs.take j)+F.bs[j].chs.length≤chsN F.bs:=by
      rw [← chsN_snoc,← htj.out]
      exact chsN_take_le F.bs (j+1)
     generalize F.bs[j]=A at he0 he1 hch htj hokb htn2
     subst hab hgp
     have hsm:=textOk_small hokb
     have HCH:=hide hch
     obtain ⟨ps,HPS⟩:∃ p:Nat,Hid (F.hd+totD (F.bs.take j)=p):=⟨_,hide rfl⟩
     rw [HPS.out] at hep
     have HNj:Hid (chsN (F.bs.take (j+1))=chsN (F.bs.take j)+A.chs.length∧batsIn (F.num:Int) D0 F.hd (F.bs.take (j+1))=chsIn (F.num:Int) (ps:Int) A.seq (batsIn (F.num:Int) D0 F.hd (F.bs.take j)) A.chs):=by
      show _∧_
      rw [htj.out,chsN_snoc,batsIn_snoc,HPS.out]
      exact ⟨rfl,rfl⟩
     generalize chsN (F.bs.take j)=nj at HMy htn2 HNj
     generalize batsIn (F.num:Int) D0 F.hd (F.bs.take j)=Dj at HMy HNj
     have hy0:=(HBy.out.cell (p:=⟨b,off+j * 2,none⟩) hbw).trans he0
     have hy1:=(HBy.out.cell (p:=⟨b,off+j * 2+1,none⟩) hbw).trans he1
     clear he0 he1 hch hpv
     obtain ⟨wY,hwY⟩:∃ x,x=wr.alloc (.cells #[.int .i64 A.seq,.slice a2 A.chs.length c2] 87):=⟨_,rfl⟩
     have BY:Hid (Below wr.heap.size wr wY):=by rw [hwY];exact (Below.refl _ wr).alloc (Nat.le_refl _) _
     have hYB:wY.heap[wr.heap.size]? = some (.cells #[.int .i64 A.seq,.slice a2 A.chs.length c2] 87 (0,0)):=by rw [hwY];exact heap_alloc_new wr _
     have hSB:=(BY.out.block wO.heap.size (by omega)).trans ((HGy.out.block wO.heap.size (by omega) (by simp;omega)).trans HXB.out)
     have hz0:wY.cell? ⟨wr.heap.size,0,none⟩=some (.int .i64 A.seq):=(cell_of_row wY _ 0 _ _ (0,0) hYB).trans rfl
     have hz1:wY.cell? ⟨wr.heap.size,1,none⟩=some (.slice a2 A.chs.length c2):=(cell_of_row wY _ 1 _ _ (0,0) hYB).trans rfl
     have hz2:wY.cell? ⟨wO.heap.size,0,none⟩=some (.int .i64 (F.num:Int)):=(cell_of_row wY _ 0 _ _ (0,0) hSB).trans rfl
     have hz3:wY.cell? ⟨wO.heap.size,3,none⟩=some (.slice (some ⟨gp,0,none⟩) P.length c'):=(cell_of_row wY _ 3 _ _ (0,0) hSB).trans rfl
     have hz4:wY.cell? ⟨gp,j,none⟩=some (.int .i64 (ps:Int)):=((HBy.out.trans (BY.out.mono HBy.out.size)).cell (p:=⟨gp,j,none⟩) hgpw).trans hep
     have HMY:=hide (dirM_below HMy.out BY.out)
     have HCY:Hid (ChangesAt wY a2 A.chs):=changesAt_keep HCH.out (HBy.out.trans (BY.out.mono HBy.out.size))
     have HGY:Hid (wX.grownBy wY (some w.heap.size)):=grownBy_trans HGy.out (grownBy_below _ BY.out)
     have HMC:Hid (0 < A.chs.length→∀ b off,a2=some ⟨b,off,none⟩→b ≠ w.heap.size):=fun h b off e => by
      obtain ⟨b',off',e',h',-⟩:=HCH.out 0 h
      rw [e] at e'
      cases e'
      omega
     have HTL:Hid (∀ W,wY.drewN 1=W ∨ wY.drew=W ∨ wY=W→Calls Tryz.prog 122 #[.map (some w.heap.size),.agg #[.int .i64 A.seq,.slice a2 A.chs.length c2],.int .i64 (F.num:Int),.int .i64 (ps:Int)] W fun e w' => e=.returned (.tuple #[])∧DirM w' w.heap.size (n0+nj+A.chs.length) (chsIn (F.num:Int) (ps:Int) A.seq Dj A.chs)∧W.grownBy w' (some w.heap.size)):=by
      intro W hW
      have hb:Below wY.heap.size wY W:=by
       rcases hW with rfl | rfl | rfl
       · exact drewN_below wY 1
       · exact (Below.refl _ _).drew
       · exact Below.refl _ _
      exact tell_any Dj w.heap.size (n0+nj) A.seq F.num ps A.chs a2 c2 W (dirM_below HMY.out hb) (by omega) (by omega) (changesAt_keep HCY.out hb) HMC.out (fun B hB => by have:=(hsm.2.2 B hB).1;omega)
     clear hYB hSB hep
     have hn1:wr.heap.size ≠ w.heap.size:=by omega
     have hn2:wO.heap.size ≠ w.heap.size:=by omega
     have hn3:gp ≠ w.heap.size:=by omega
     go_wp2_with fail
     rw [← hwY]
     clear hwY hy0 hy1
     go_region_held3 (fun w' => w'.cell? ⟨wr.heap.size,0,none⟩=some (.int .i64 A.seq)∧w'.cell? ⟨wr.heap.size,1,none⟩=some (.slice a2 A.chs.length c2)∧w'.cell? ⟨wO.heap.size,0,none⟩=some (.int .i64 (F.num:Int))∧w'.cell? ⟨wO.heap.size,3,none⟩=some (.slice (some ⟨gp,0,none⟩) P.length c')∧w'.cell? ⟨gp,j,none⟩=some (.int .i64 (ps:Int))) (first | go_keep | (exact ⟨hz0,hz1,hz2,hz3,hz4⟩) | (exact ⟨cells_grown hg5 hz0 hn1,cells_grown hg5 hz1 hn1,cells_grown hg5 hz2 hn2,cells_grown hg5 hz3 hn2,cells_grown hg5 hz4 hn3⟩)) ((go_at_call 122;refine (HTL.out _ (by first | exact .inr (.inl rfl) | exact .inr (.inr rfl) | exact .inl rfl)).mono ?_;rintro e w5 ⟨rfl,hm5,hg5⟩))
     have HM5:=hide hm5
     have HG5:Hid (wX.grownBy w5 (some w.heap.size)):=grownBy_trans HGY.out (grownBy_trans (grownBy_below _ ((Below.refl _ wY).drew)) hg5)
     clear hm5 hg5
     go_wp2
     go_roundg g2
     case measure => omega
     case rel => exact ⟨j+1,by omega,by go_num,by omega,by show DirM _ _ _ _;rw [HNj.out.1,HNj.out.2,← Nat.add_assoc];exact HM5.out,HG5⟩
theorem segsL_tell (fs:List FileD):segsN (segsL fs)≤666700∧(∀ s ∈ segsL fs,s.bs.length≤20001)∧(∀ s ∈ segsL fs,∀ b ∈ s.bs,textOkD b.seq b.chs=true)∧(∀ A ∈ dirSegs [] (segsL fs),A.key.size≤20)∧(dirSegs [] (segsL fs)).length≤1000000 :=
 ⟨segsL_N fs,segsL_bl,fun s hs => segsL_ok hs,dirD_keys fs,by have:=dirD_len fs;unfold dirD at this;omega⟩
end Go.Proofs.YtepdckehokdjlaaGreatDoor
namespace Go.Proofs.YtepdckehokdjlaaGreatDoor
open Go.RowKit
def findS (dir:List SpotD) (key:ByteArray):Option SpotD:=dir.find? fun S => S.key.toList == key.toList
def liveB (dir:List SpotD) (seg pos q:Int) (C:ChangeD):Bool:=((findS dir C.key).map fun S => (S.seg == seg) && ((S.pos == pos) && (S.seq == q))).getD false
def liveI (dir:List SpotD) (seg pos q:Int) (chs:List ChangeD):List ChangeD:=chs.filter (liveB dir seg pos q)
def keptB (seg pos:Int) (C:ChangeD) (S:SpotD):Bool:=(S.key.toList == C.key.toList) && ((S.seg == seg) && (S.pos == pos))
def keptOne (dir:List SpotD) (seg pos:Int) (C:ChangeD):List ChangeD:=(dir.filter (keptB seg pos C)).map fun _ => C
def keptS (dir:List SpotD) (seg pos:Int) (chs:List ChangeD):List ChangeD:=chs.flatMap (keptOne dir seg pos)
def toldB (dir:List SpotD) (seg pos:Int):Bool:=dir.any fun S => (S.seg == seg) && (S.pos == pos)
theorem liveI_take {dir:List SpotD} {seg pos q:Int} {chs:List ChangeD} {k:Nat} (h:k < chs.length):liveI dir seg pos q (chs.take (k+1))=liveI dir seg pos q (chs.take k) ++ (if liveB dir seg pos q chs[k] then [chs[k]] else []):=by
 unfold liveI
 rw [List.take_succ_eq_append_getElem h,List.filter_append]
 congr 1
 cases hb:liveB dir seg pos q chs[k] <;> simp [hb]
theorem liveI_len (dir:List SpotD) (seg pos q:Int) (chs:List ChangeD):(liveI dir seg pos q chs).length≤chs.length:=List.length_filter_le _ _
theorem filter_key {dir:List SpotD} (h:srtS dir) (key:ByteArray):(dir.filter fun S => S.key.toList == key.toList)=(findS dir key).toList:=by
 unfold findS
 induction dir with
 | nil => rfl
 | cons A r ih =>
  have hr:srtS r:=(List.pairwise_cons.1 h).2
  have ha:=(List.pairwise_cons.1 h).1
  cases hk:(A.key.toList == key.toList) with
  | true =>
   have:(r.filter fun S => S.key.toList == key.toList)=[]:=by
    rw [List.filter_eq_nil_iff]
    intro S hS e
    have h1:=ha S hS
    rw [eq_of_beq hk,eq_of_beq e,less_irrefl] at h1
    cases h1
   simp [hk,this]
  | false => simp only [List.filter_cons,hk,List.find?_cons];exact ih hr
theorem kept_one {dir:List SpotD} (h:srtS dir) {seg pos q:Int} (hq:∀ S ∈ dir,S.seg=seg→S.pos=pos→S.seq=q) (C:ChangeD):keptOne dir seg pos C=if liveB dir seg pos q C then [C] else []:=by
 unfold keptOne keptB liveB
 have hf:(dir.filter fun S => (S.key.toList == C.key.toList) && ((S.seg == seg) && (S.pos == pos)))=(dir.filter fun S => S.key.toList == C.key.toList).filter fun S => (S.seg == seg) && (S.pos == pos):=by
  rw [List.filter_filter]
  congr 1
  funext S
  rw [Bool.and_comm]
 rw [hf,filter_key h]
 cases hs:findS dir C.key with
 | none => rfl
 | some S =>
  have hm:S ∈ dir:=List.mem_of_find?_eq_some hs
  simp only [Option.toList_some,Option.map_some,Option.getD_some]
  cases h1:((S.seg == seg) && (S.pos == pos)) with
  | true =>
   rw [Bool.and_eq_true] at h1
   have h2:(S.seq == q)=true:=by rw [beq_iff_eq];exact hq S hm (eq_of_beq h1.1) (eq_of_beq h1.2)
   simp [h1.1,h1.2,h2]
  | false =>
   have h2:((S.seg == seg) && ((S.pos == pos) && (S.seq == q)))=false:=by rw [← Bool.and_assoc,h1];rfl
   simp [h1,h2]
theorem kept_live {dir:List SpotD} (h:srtS dir) {seg pos q:Int} (hq:∀ S ∈ dir,S.seg=seg→S.pos=pos→S.seq=q):∀ chs:List ChangeD,keptS dir seg pos chs=liveI dir seg pos q chs
 | [] => rfl
 | C :: r => by
  have ih:=kept_live h hq r
  unfold keptS liveI at ih ⊢
  rw [List.flatMap_cons,kept_one h hq,ih,List.filter_cons]
  split <;> simp
theorem findS_mem {dir:List SpotD} (h:srtS dir) {S:SpotD} (hS:S ∈ dir):findS dir S.key=some S:=by
 have h1:S ∈ (dir.filter fun T => T.key.toList == S.key.toList):=List.mem_filter.2 ⟨hS,beq_self_eq_true _⟩
 rw [filter_key h] at h1
 cases hf:findS dir S.key with
 | none => rw [hf] at h1;simp at h1
 | some T => rw [hf] at h1;simp at h1;rw [h1]
theorem told_live {dir:List SpotD} (h:srtS dir) {seg pos q:Int} {chs:List ChangeD} (hq:∀ S ∈ dir,S.seg=seg→S.pos=pos→S.seq=q∧∃ C ∈ chs,C.key=S.key):toldB dir seg pos=decide (0 < (liveI dir seg pos q chs).length):=by
 cases ht:toldB dir seg pos with
 | true =>
  unfold toldB at ht
  rw [List.any_eq_true] at ht
  obtain ⟨S,hS,e⟩:=ht
  rw [Bool.and_eq_true] at e
  obtain ⟨h1,C,hC,hk⟩:=hq S hS (eq_of_beq e.1) (eq_of_beq e.2)
  have hL:C ∈ liveI dir seg pos q chs:=by
   refine List.mem_filter.2 ⟨hC,?_⟩
   unfold liveB
   rw [hk,findS_mem h hS]
   simp [e.1,e.2,h1]
  symm
  rw [decide_eq_true_eq]
  exact List.length_pos_of_mem hL
 | false =>
  symm
  rw [decide_eq_false_iff_not]
  intro hp
  obtain ⟨C,hC⟩:=List.exists_mem_of_length_pos hp
  have hb:=(List.mem_filter.1 hC).2
  unfold liveB at hb
  cases hf:findS dir C.key with
  | none => rw [hf] at hb;simp at hb
  | some S =>
   rw [hf] at hb
   simp only [Option.map_some,Option.getD_some,Bool.and_eq_true] at hb
   have hm:S ∈ dir:=List.mem_of_find?_eq_some hf
   unfold toldB at ht
   rw [List.any_eq_false] at ht
   exact ht S hm (by rw [Bool.and_eq_true];exact ⟨hb.1,hb.2.1⟩)
theorem spots_chs (seg pos q:Int):∀ (chs:List ChangeD) (dir:List SpotD),∀ S ∈ chsIn seg pos q dir chs,S ∈ dir ∨ (S.seg=seg∧S.pos=pos∧S.seq=q∧∃ C ∈ chs,C.key=S.key∧C.gone=false)
 | [],dir,S,h => .inl h
 | A :: r,dir,S,h => by
  unfold chsIn at h
  rcases spots_chs seg pos q r _ S h with h | ⟨h1,h2,h3,C,hC,h4⟩
  ·
   rcases set_mem.1 h with ⟨hg,rfl⟩ | ⟨h,-⟩
   · exact .inr ⟨rfl,rfl,rfl,A,List.mem_cons_self,rfl,hg⟩
   · exact .inl h
  · exact .inr ⟨h1,h2,h3,C,List.mem_cons_of_mem _ hC,h4⟩
def tellsB (S:SpotD) (e:Nat) (bs:List BatchD) (j:Nat):Prop:=∃ h:j < bs.length,S.pos=((e+totD (bs.take j):Nat):Int)∧S.seq=bs[j].seq∧∃ C ∈ bs[j].chs,C.key=S.key∧C.gone=false
theorem spots_bats (seg:Int):∀ (bs:List BatchD) (dir:List SpotD) (e:Nat),∀ S ∈ batsIn seg dir e bs,S ∈ dir ∨ (S.seg=seg∧∃ j,tellsB S e bs j)
 | [],dir,e,S,h => .inl h
 | b :: r,dir,e,S,h => by
  unfold batsIn at h
  rcases spots_bats seg r _ _ S h with h | ⟨h1,j,hj,h2,h3⟩
  ·
   rcases spots_chs seg e b.seq b.chs dir S h with h | ⟨h1,h2,h3⟩
   · exact .inl h
   · exact .inr ⟨h1,0,by simp,by simpa [totD] using h2,h3⟩
  ·
   refine .inr ⟨h1,j+1,by simpa using hj,?_,?_⟩
   ·
    rw [h2,List.take_succ_cons]
    simp only [totD]
    omega
   · simpa using h3
theorem spots_segs:∀ (l:List SegD) (dir:List SpotD),∀ S ∈ dirSegs dir l,S ∈ dir ∨ ∃ s ∈ l,S.seg=(s.num:Int)∧∃ j,tellsB S s.hd s.bs j
 | [],dir,S,h => .inl h
 | s :: r,dir,S,h => by
  unfold dirSegs at h
  rcases spots_segs r _ S h with h | ⟨t,ht,h1⟩
  ·
   rcases spots_bats _ s.bs dir s.hd S h with h | ⟨h1,h2⟩
   · exact .inl h
   · exact .inr ⟨s,List.mem_cons_self,h1,h2⟩
  · exact .inr ⟨t,List.mem_cons_of_mem _ ht,h1⟩
theorem spots_tell {fs:List FileD} {S:SpotD} (h:S ∈ dirD fs):∃ s ∈ segsL fs,S.seg=(s.num:Int)∧∃ j,tellsB S s.hd s.bs j:=by
 rcases spots_segs (segsL fs) [] S h with h | h
 · exact absurd h List.not_mem_nil
 · exact h
theorem segs_same {fs:List FileD} {s t:SegD} (hs:s ∈ segsL fs) (ht:t ∈ segsL fs) (h:s.num=t.num):s=t:=by
 obtain ⟨-,-,F,-,h1,h2⟩:=segsTo_mem (segsL_mem hs)
 obtain ⟨-,-,G,-,h3,h4⟩:=segsTo_mem (segsL_mem ht)
 rw [h] at h1 h2
 rw [h2] at h4
 cases h4
 rw [h1,← h3]
theorem size_pos {q:Int} {cs:List ChangeD} (h:textOkD q cs=true):0 < sizeD q cs:=by
 have h1:1≤(textD q cs).size:=by
  unfold textD
  rw [if_pos h]
  show 1≤(batchL q.toNat cs).toArray.size
  rw [List.size_toArray]
  unfold batchL headB
  simp
 unfold sizeD
 rw [if_pos h1]
 unfold frameB
 simp only [ByteArray.size_append]
 omega
theorem totD_lt {bs:List BatchD} (hb:∀ b ∈ bs,textOkD b.seq b.chs=true) {j k:Nat} (hj:j < k) (hk:k≤bs.length):totD (bs.take j) < totD (bs.take k):=by
 induction k with
 | zero => omega
 | succ k ih =>
  rw [List.take_succ_eq_append_getElem (by omega),totD_snoc]
  have:=size_pos (hb bs[k] (List.getElem_mem _))
  rcases Nat.lt_or_ge j k with h | h
  · have:=ih h (by omega);omega
  ·
   obtain rfl:j=k:=by omega
   omega
theorem totD_inj {bs:List BatchD} (hb:∀ b ∈ bs,textOkD b.seq b.chs=true) {j k:Nat} (hj:j < bs.length) (hk:k < bs.length) (h:totD (bs.take j)=totD (bs.take k)):j=k:=by
 rcases Nat.lt_trichotomy j k with h1 | h1 | h1
 · have:=totD_lt hb h1 (by omega);omega
 · exact h1
 · have:=totD_lt hb h1 (by omega);omega
theorem dirD_srt (fs:List FileD):srtS (dirD fs):=by
 unfold dirD
 generalize segsL fs=l
 have hb:∀ (seg:Int) (bs:List BatchD) (dir:List SpotD) (e:Nat),srtS dir→srtS (batsIn seg dir e bs):=by
  intro seg bs
  induction bs with
  | nil => intro dir e h;exact h
  | cons b r ih => intro dir e h;unfold batsIn;exact ih _ _ (srtS_chs seg e b.seq b.chs dir h)
 have hl:∀ (l:List SegD) (dir:List SpotD),srtS dir→srtS (dirSegs dir l):=by
  intro l
  induction l with
  | nil => intro dir h;exact h
  | cons s r ih => intro dir h;unfold dirSegs;exact ih _ (hb _ _ _ _ h)
 exact hl l [] List.Pairwise.nil
theorem spot_place {fs:List FileD} {s:SegD} (hs:s ∈ segsL fs) {j:Nat} (hj:j < s.bs.length):∀ S ∈ dirD fs,S.seg=(s.num:Int)→S.pos=((s.hd+totD (s.bs.take j):Nat):Int)→S.seq=s.bs[j].seq∧∃ C ∈ s.bs[j].chs,C.key=S.key:=by
 intro S hS h1 h2
 obtain ⟨t,ht,h3,k,hk,h4,h5,C,hC,h6,-⟩:=spots_tell hS
 obtain rfl:s=t:=segs_same hs ht (by omega)
 obtain rfl:j=k:=totD_inj (segsL_ok hs) hj hk (by omega)
 exact ⟨h5,C,hC,h6⟩
theorem kept_live_at {fs:List FileD} {s:SegD} (hs:s ∈ segsL fs) {j:Nat} (hj:j < s.bs.length):keptS (dirD fs) (s.num:Int) ((s.hd+totD (s.bs.take j):Nat):Int) s.bs[j].chs=liveI (dirD fs) (s.num:Int) ((s.hd+totD (s.bs.take j):Nat):Int) s.bs[j].seq s.bs[j].chs :=
 kept_live (dirD_srt fs) (fun S hS h1 h2 => (spot_place hs hj S hS h1 h2).1) _
theorem told_live_at {fs:List FileD} {s:SegD} (hs:s ∈ segsL fs) {j:Nat} (hj:j < s.bs.length):toldB (dirD fs) (s.num:Int) ((s.hd+totD (s.bs.take j):Nat):Int)=decide (0 < (liveI (dirD fs) (s.num:Int) ((s.hd+totD (s.bs.take j):Nat):Int) s.bs[j].seq s.bs[j].chs).length) :=
 told_live (dirD_srt fs) (fun S hS h1 h2 => spot_place hs hj S hS h1 h2)
theorem isNaN_str (s:ByteArray) (w:World):Calls Tryz.prog 191 #[.string s] w fun e w' => e=.returned (.bool false)∧w' = w:=by
 have h:(s.toList == s.toList)=true:=beq_self_eq_true _
 go_enter Tryz.func191,Tryz.ntmps191
 go_wp2
 go_ret
 exact ⟨rfl,rfl⟩
def cmpI (a b:ByteArray):Int:=if Op.bytesLess a.toList b.toList=true then -1 else if (a.toList == b.toList)=true then 0 else 1
theorem compare_str (a b:ByteArray) (w:World):Calls Tryz.prog 172 #[.string a,.string b] w fun e w' => e=.returned (.int .i64 (cmpI a b))∧w' = w:=by
 have HN:=hide isNaN_str
 unfold cmpI
 cases h1:Op.bytesLess a.toList b.toList with
 | true =>
  rw [if_pos rfl]
  go_enter Tryz.func172,Tryz.ntmps172
  go_wp2_with fail
  refine (HN.out _ _).mono ?_
  rintro e w1 ⟨rfl,rfl⟩
  go_wp2_with fail
  refine (HN.out _ _).mono ?_
  rintro e w1 ⟨rfl,rfl⟩
  go_wp2
  go_ret
  exact ⟨rfl,rfl⟩
 | false =>
  rw [if_neg (by decide)]
  cases h2:(a.toList == b.toList) with
  | true =>
   rw [if_pos rfl]
   go_enter Tryz.func172,Tryz.ntmps172
   go_wp2_with fail
   refine (HN.out _ _).mono ?_
   rintro e w1 ⟨rfl,rfl⟩
   go_wp2_with fail
   refine (HN.out _ _).mono ?_
   rintro e w1 ⟨rfl,rfl⟩
   go_wp2
   go_ret
   exact ⟨rfl,rfl⟩
  | false =>
   rw [if_neg (by decide)]
   go_enter Tryz.func172,Tryz.ntmps172
   go_wp2_with fail
   refine (HN.out _ _).mono ?_
   rintro e w1 ⟨rfl,rfl⟩
   go_wp2_with fail
   refine (HN.out _ _).mono ?_
   rintro e w1 ⟨rfl,rfl⟩
   go_wp2
   go_ret
   exact ⟨rfl,rfl⟩
theorem spotCmp_any (A:SpotD) (key:ByteArray) (w:World):Calls Tryz.prog 171 #[.agg #[.string A.key,.int .i64 A.seg,.int .i64 A.pos,.int .i64 A.seq],.string key] w fun e w' => e=.returned (.int .i64 (cmpI A.key key))∧Below w.heap.size w w':=by
 go_enter Tryz.func171,Tryz.ntmps171
 go_wp2_with fail
 refine (compare_str _ _ _).mono ?_
 rintro e w1 ⟨rfl,rfl⟩
 go_wp2
 go_ret
 exact ⟨rfl,(Below.refl _ w).alloc (Nat.le_refl _) _⟩
theorem name_eqS {a b:ByteArray} (h:a.toList=b.toList):a=b :=
 Decidable.byContradiction fun hne => by
  have h1:=(toList_ne).2 hne
  rw [h,beq_self_eq_true] at h1
  cases h1
theorem fourC {W:World} {g:Nat} {a b c d:Value} {t:TypeId} (h:W.heap[g]? = some (.cells #[a,b,c,d] t (0,0))):W.cell? ⟨g,0,none⟩=some a∧W.cell? ⟨g,1,none⟩=some b∧W.cell? ⟨g,2,none⟩=some c∧W.cell? ⟨g,3,none⟩=some d∧W.frozen? ⟨g,0,none⟩=false∧W.frozen? ⟨g,1,none⟩=false∧W.frozen? ⟨g,2,none⟩=false∧W.frozen? ⟨g,3,none⟩=false :=
 ⟨(cell_of_row W g 0 _ _ (0,0) h).trans rfl,(cell_of_row W g 1 _ _ (0,0) h).trans rfl,(cell_of_row W g 2 _ _ (0,0) h).trans rfl,(cell_of_row W g 3 _ _ (0,0) h).trans rfl,frozen_of_row W g 0 _ _ h,frozen_of_row W g 1 _ _ h,frozen_of_row W g 2 _ _ h,frozen_of_row W g 3 _ _ h⟩
theorem search_any (D:List SpotD) (ad:Option Addr) (cd:Nat) (key:ByteArray) (w:World) (hl:D.length≤1000000) (hs:srtS D) (hds:SpotsAt w ad D) :
  Calls Tryz.prog 170 #[.slice ad D.length cd,.string key,.func (.func 171) #[] #[]] w fun e w' => (∃ (p:Nat) (b:Bool),e=.returned (.tuple #[.int .i64 p,.bool b])∧(b=true→∃ h:p < D.length,findS D key=some D[p])∧(b=false→findS D key=none))∧Below w.heap.size w w':=by
 have HD:=hide hds
 have HS:=hide hs
 have HC:=hide spotCmp_any
 clear hds hs
 go_enter Tryz.func170,Tryz.ntmps170
 go_wp2_with fail
 go_loopw [9,10] (fun ii jj wr => ∃ (i j:Nat),ii=.int .i64 i∧jj=.int .i64 j∧i≤j∧j≤D.length∧Hid (∀ k (h:k < D.length),k < i→Op.bytesLess D[k].key.toList key.toList=true)∧Hid (∀ k (h:k < D.length),j≤k→Op.bytesLess D[k].key.toList key.toList=false)∧Hid (Below w.heap.size w wr)) (fun ii jj _ => (intOf jj).toNat - (intOf ii).toNat)
 case atStart => exact ⟨0,D.length,rfl,rfl,Nat.zero_le _,Nat.le_refl _,fun k h hk => absurd hk (by omega),fun k h hk => absurd hk (by omega),Below.refl _ _⟩
 case round =>
  obtain ⟨i,j,rfl,rfl,hij,hjn,HI,HJ,HB⟩:=hrel
  by_cases hlt:i < j
  ·
   have hlt':decide ((i:Int) < (j:Int))=true:=by simp;omega
   obtain ⟨m,hm⟩:∃ m:Nat,(i+j) / 2=m:=⟨_,rfl⟩
   have hmi:i≤m∧m < j:=by omega
   have hmD:m < D.length:=by omega
   obtain ⟨b,off,rfl,hbw,hc0,hc1,hc2,hc3⟩:=spotsAt_keep HD.out HB.out m hmD
   have hi0:(0:Int)≤((i:Int)+(j:Int)) / 2:=by omega
   have hi1:((i:Int)+(j:Int)) / 2 < (D.length:Int):=by omega
   have hin:(((i:Int)+(j:Int)) / 2).toNat=m:=by omega
   have hie:((i:Int)+(j:Int)) / 2=(m:Int):=by omega
   obtain ⟨A,HA⟩:∃ A,Hid (D[m]=A):=⟨_,hide rfl⟩
   rw [HA.out] at hc0 hc1 hc2 hc3
   go_wp2_with fail
   refine (HC.out A key _).mono ?_
   rintro e w1 ⟨rfl,b1⟩
   have HB1:=hide (HB.out.trans (b1.mono HB.out.size))
   clear b1 hc0 hc1 hc2 hc3
   cases hl2:Op.bytesLess A.key.toList key.toList with
   | true =>
    have hx:cmpI A.key key = -1:=by unfold cmpI;rw [if_pos hl2]
    rw [hx]
    have HI2:Hid (∀ k (h:k < D.length),k < m+1→Op.bytesLess D[k].key.toList key.toList=true):=fun k h hk => by
     rcases Nat.lt_or_ge k m with h2 | h2
     ·
      have h3:=List.pairwise_iff_getElem.1 HS.out k m h hmD h2
      rw [HA.out] at h3
      exact less_trans h3 hl2
     ·
      obtain rfl:k=m:=by omega
      rw [HA.out]
      exact hl2
    clear hl2 hx
    go_wp2
    go_roundw
    case rel => exact ⟨m+1,j,by go_num,rfl,by omega,by omega,HI2,HJ,HB1⟩
    case measure => simp [intOf];omega
   | false =>
    obtain ⟨x,hx,hx0⟩:∃ x,cmpI A.key key=x∧0≤x:=by
     refine ⟨_,rfl,?_⟩
     unfold cmpI
     rw [hl2,if_neg (by decide)]
     split <;> decide
    rw [hx]
    have hx1:decide (x < 0)=false:=by simp;omega
    have HJ2:Hid (∀ k (h:k < D.length),m≤k→Op.bytesLess D[k].key.toList key.toList=false):=fun k h hk => by
     rcases Nat.lt_or_ge m k with h2 | h2
     ·
      have h3:=List.pairwise_iff_getElem.1 HS.out m k hmD h h2
      rw [HA.out] at h3
      cases h4:Op.bytesLess D[k].key.toList key.toList with
      | false => rfl
      | true => rw [less_trans h3 h4] at hl2;cases hl2
     ·
      obtain rfl:k=m:=by omega
      rw [HA.out]
      exact hl2
    clear hl2 hx
    go_wp2
    go_roundw
    case rel => exact ⟨i,m,rfl,rfl,by omega,by omega,HI,HJ2,HB1⟩
    case measure => simp [intOf];omega
  ·
   have hlt':decide ((i:Int) < (j:Int))=false:=by simp;omega
   obtain rfl:i=j:=by omega
   by_cases hin:i < D.length
   ·
    have hin':decide ((i:Int) < (D.length:Int))=true:=by simp;omega
    obtain ⟨b,off,rfl,hbw,hc0,hc1,hc2,hc3⟩:=spotsAt_keep HD.out HB.out i hin
    have hi0:(0:Int)≤(i:Int):=by omega
    have hi1:(i:Int) < (D.length:Int):=by omega
    obtain ⟨A,HA⟩:∃ A,Hid (D[i]=A):=⟨_,hide rfl⟩
    rw [HA.out] at hc0 hc1 hc2 hc3
    have hl2:=HJ.out i hin (Nat.le_refl _)
    rw [HA.out] at hl2
    go_wp2_with fail
    refine (HC.out A key _).mono ?_
    rintro e w1 ⟨rfl,b1⟩
    have HB1:=hide (HB.out.trans (b1.mono HB.out.size))
    clear b1 hc0 hc1 hc2 hc3
    cases hq:(A.key.toList == key.toList) with
    | true =>
     have hx:cmpI A.key key=0:=by unfold cmpI;rw [hl2,if_neg (by decide),if_pos hq]
     have HF:Hid (findS D key=some D[i]):=by
      have:=findS_mem HS.out (List.getElem_mem hin)
      rw [HA.out,name_eqS (eq_of_beq hq)] at this
      rw [HA.out]
      exact this
     rw [hx]
     clear hl2 hx hq
     go_wp2
     refine bodyPost_ret (results_tmp2 rfl _ _ _) rfl ?_
     exact ⟨⟨i,true,rfl,fun _ => ⟨hin,HF.out⟩,fun h => by cases h⟩,HB1.out⟩
    | false =>
     have hx:cmpI A.key key=1:=by unfold cmpI;rw [hl2,if_neg (by decide),hq,if_neg (by decide)]
     have HF:Hid (findS D key=none):=by
      refine List.find?_eq_none.2 (fun S hS e => ?_)
      obtain ⟨k,hk,rfl⟩:=List.mem_iff_getElem.1 hS
      have e2:=eq_of_beq e
      rcases Nat.lt_trichotomy k i with h2 | h2 | h2
      ·
       have h3:=HI.out k hk h2
       rw [e2,less_irrefl] at h3
       cases h3
      ·
       subst h2
       rw [HA.out] at e
       rw [hq] at e
       cases e
      ·
       have h3:=List.pairwise_iff_getElem.1 HS.out i k hin hk h2
       rw [HA.out,e2,hl2] at h3
       cases h3
     rw [hx]
     clear hl2 hx hq
     go_wp2
     refine bodyPost_ret (results_tmp2 rfl _ _ _) rfl ?_
     exact ⟨⟨i,false,rfl,fun h => by (cases h),fun _ => HF.out⟩,HB1.out⟩
   ·
    have hin':decide ((i:Int) < (D.length:Int))=false:=by simp;omega
    have HF:Hid (findS D key=none):=by
     refine List.find?_eq_none.2 (fun S hS e => ?_)
     obtain ⟨k,hk,rfl⟩:=List.mem_iff_getElem.1 hS
     have h3:=HI.out k hk (by omega)
     rw [eq_of_beq e,less_irrefl] at h3
     cases h3
    go_wp2
    refine bodyPost_ret (results_tmp2 rfl _ _ _) rfl ?_
    exact ⟨⟨i,false,rfl,fun h => by (cases h),fun _ => HF.out⟩,HB.out⟩
theorem box4s {W w0:World} {β B:Nat} {c0 c1 c2 c3:Value} {t:TypeId} (a0 a1 a2 a3:Value) (hb:W.heap[β]? = some (.cells #[c0,c1,c2,c3] t (0,0))) (h0:Below B w0 W) (hB:B≤β) (W6:World) (hW:W6=(((W.setCell ⟨β,0,none⟩ a0).setCell ⟨β,1,none⟩ a1).setCell ⟨β,2,none⟩ a2).setCell ⟨β,3,none⟩ a3) :
  W6.heap[β]? = some (.cells #[a0,a1,a2,a3] t (0,0))∧Below B w0 W6:=by
 have d0:=(heap_setCell_same W β 0 _ _ a0 hb).trans rfl
 have d1:=(heap_setCell_same _ β 1 _ _ a1 d0).trans rfl
 have d2:=(heap_setCell_same _ β 2 _ _ a2 d1).trans rfl
 have d3:=(heap_setCell_same _ β 3 _ _ a3 d2).trans rfl
 subst hW
 exact ⟨by rw [d3];rfl,(((h0.setCell (p:=⟨β,0,none⟩) hB _).setCell (p:=⟨β,1,none⟩) hB _).setCell (p:=⟨β,2,none⟩) hB _).setCell (p:=⟨β,3,none⟩) hB _⟩
def outSp:Option SpotD→SpotD
 | none => ⟨⟨#[]⟩,0,0,0⟩
 | some S => S
theorem spotOf_any (D:List SpotD) (ad:Option Addr) (cd:Nat) (key:ByteArray) (w:World) (hl:D.length≤1000000) (hs:srtS D) (hds:SpotsAt w ad D) :
  Calls Tryz.prog 159 #[.slice ad D.length cd,.string key] w fun e w' => e=.returned (.tuple #[.agg #[.string (outSp (findS D key)).key,.int .i64 (outSp (findS D key)).seg,.int .i64 (outSp (findS D key)).pos,.int .i64 (outSp (findS D key)).seq],.bool (findS D key).isSome])∧Below w.heap.size w w':=by
 have HD:=hide hds
 have HSE:=hide (fun W h => search_any D ad cd key W hl hs h)
 clear hds hs
 obtain ⟨wb,hwb⟩:∃ wb,wb=w.alloc (.cells #[.string ⟨#[]⟩,.int .i64 0,.int .i64 0,.int .i64 0] 106):=⟨_,rfl⟩
 have HB0:Hid (Below w.heap.size w wb):=by rw [hwb];exact (Below.refl _ w).alloc (Nat.le_refl _) _
 have HBK:Hid (wb.heap[w.heap.size]? = some (.cells #[.string ⟨#[]⟩,.int .i64 0,.int .i64 0,.int .i64 0] 106 (0,0))):=by rw [hwb];exact heap_alloc_new w _
 go_enter Tryz.func159,Tryz.ntmps159
 go_wp2_with fail
 rw [← hwb]
 clear hwb
 refine (HSE.out _ (spotsAt_keep HD.out HB0.out)).mono ?_
 rintro e w1 ⟨⟨p,b,rfl,hb1,hb2⟩,b1⟩
 have HW1:=hide (HB0.out.trans (b1.mono HB0.out.size))
 have HBK1:=hide ((b1.block _ (heap_lt HBK.out)).trans HBK.out)
 clear b1
 obtain ⟨x0,x1,x2,x3,f0,f1,f2,f3⟩:=fourC HBK1.out
 cases b with
 | false =>
  have HF:=hide (hb2 rfl)
  clear hb1 hb2
  go_wp2
  obtain ⟨y0,y1⟩:=box4s (.string ⟨#[]⟩) (.int .i64 0) (.int .i64 0) (.int .i64 0) HBK1.out HW1.out (Nat.le_refl _) _ rfl
  obtain ⟨z0,z1,z2,z3,-⟩:=fourC y0
  refine bodyPost_ret (v:=.tuple #[.agg #[.string ⟨#[]⟩,.int .i64 0,.int .i64 0,.int .i64 0],.bool false]) ?_ rfl ?_
  · simp [results,Tryz.results159,go_sem,z0,z1,z2,z3]
  ·
   rw [HF.out]
   exact ⟨rfl,y1⟩
 | true =>
  obtain ⟨hp,hF⟩:=hb1 rfl
  have HF:=hide hF
  obtain ⟨bb,off,rfl,hbw,hc0,hc1,hc2,hc3⟩:=spotsAt_keep HD.out HW1.out p hp
  clear hb1 hb2 hF
  generalize D[p]=A at hc0 hc1 hc2 hc3 HF
  have hi0:(0:Int)≤(p:Int):=by omega
  have hi1:(p:Int) < (D.length:Int):=by omega
  go_wp2
  obtain ⟨y0,y1⟩:=box4s (.string A.key) (.int .i64 A.seg) (.int .i64 A.pos) (.int .i64 A.seq) HBK1.out HW1.out (Nat.le_refl _) _ rfl
  obtain ⟨z0,z1,z2,z3,-⟩:=fourC y0
  refine bodyPost_ret (v:=.tuple #[.agg #[.string A.key,.int .i64 A.seg,.int .i64 A.pos,.int .i64 A.seq],.bool true]) ?_ rfl ?_
  · simp [results,Tryz.results159,go_sem,z0,z1,z2,z3]
  ·
   rw [HF.out]
   exact ⟨rfl,y1⟩
theorem app_change0 {ops:Array Oper} {rest:List Oper} {o:Oper} {a:Act} {Q:Exit→Act→World→Prop} (W:World) (B:Nat) (hgd:o.guard=none) (s y:Operand)
  (ho:o.op=.call { callee:=.builtin .append,args:=#[s,y],argTypes:=#[85,85] }) (ao:Option Addr) (F:ChangeD) (hs:a.eval s=.slice ao 0 0)
  (k:Nat) (hx:a.eval y=.slice (some ⟨k,0,none⟩) 1 1) (hblk:W.heap[k]? = some (.cells #[.string F.key,.string F.value,.bool F.gone] 145 (0,0))) (hbase:B≤W.heap.size)
  (h:∀ g cap w',w'.ownsRow B 145 3 (.slice (some ⟨g,0,none⟩) 1 cap) [F].length (cellsChange [F])→Below B W w'→B≤g→g < w'.heap.size→wpList Tryz.prog ops Q rest (a.put o.dst (.slice (some ⟨g,0,none⟩) 1 cap)) w') :
  wpList Tryz.prog ops Q (o :: rest) a W:=by
 obtain ⟨i0,hi,hz0,hz1,hz2⟩:=info_parts Tryz.infoChange
 have hnew:=fun j u (hj:(cellsChange [F])[j]? = some u) => World.news_of_block hblk j u hj
 have hlc:(cellsChange [F]).length=1 * i0.size:=by rw [cellsChange_length,hz1];rfl
 obtain ⟨g,cap,w',hr,h2,h3,h4,h5⟩:=run_append_lies (P:=Tryz.prog) W 85 o.type B 145 i0 (.agg #[.string ⟨#[]⟩,.string ⟨#[]⟩,.bool false]) 3 40 Tryz.underlying85 hi hz0 hz1 hz2 rfl (by decide) (.slice none 0 0) 0 [] (World.ownsRow_nil _ _ _ _) ⟨k,0,none⟩ 1 1 (cellsChange [F]) (by rw [cellsChange_length];rfl)
  hnew (cellsChange_one [F]) (by omega) (by unfold maxLen;omega) (by omega) hbase W.heap.size rfl
 have hr2:(Builtin.append_ #[85,85] o.type #[.slice ao 0 0,.slice (some ⟨k,0,none⟩) 1 1]).run Tryz.prog W=.ok (.slice (some ⟨g,0,none⟩) (0+1) cap) w':=by
  cases ao with
  | none => exact hr
  | some b =>
   rw [← hr,run_append_nil W 85 o.type 145 i0 _ Tryz.underlying85 hi hz0 ⟨k,0,none⟩ 1 1 (cellsChange [F]) hlc hnew (by omega) (by omega) (by rw [hz2];omega),
    run_append_grow W 85 o.type 145 i0 _ Tryz.underlying85 hi hz0 b 0 0 [] (by simp) (fun j v hj => by simp at hj) ⟨k,0,none⟩ 1 1 (cellsChange [F]) hlc hnew (by omega) (by omega) (by rw [hz2,nextslicecap_zero (by omega)];omega)]
   simp
 refine wpList_plain hgd fun K hK => ?_
 unfold Oper.wp execOp
 simp only [ho,resolve,invoke,builtin,Sem.run_bind,Sem.run_pure,Result.andThen_ok,List.map_toArray,List.map_cons,List.map_nil,hs,hx,hr2]
 refine hK _ _ (h g cap w' h2 ((Below.refl B W).grown h3 hbase (fun k hk => by cases hk)) ?_ h5)
 rcases h4 with h4 | rfl
 · cases h4
 · exact hbase
end Go.Proofs.YtepdckehokdjlaaGreatDoor
