import Derived.Deep.LoopGhost
import Derived.WalkMore
import Derived.WalkSmall
import Derived.Lib.SmallJoins
import Derived.OpenShut
import Derived.Laws.MakeOwn
import Derived.Test.YtbenmgokhklnjaaGreatDoorTb6
import Derived.Test.YtbenmgokhklnjaaGreatDoorTb18
import Derived.Test.YtbenmgokhklnjaaGreatDoorTb16
import Derived.Test.YtbenmgokhklnjaaGreatDoorTb4
import Derived.Test.YtbenmgokhklnjaaGreatDoorTb3
import Derived.Test.YtbenmgokhklnjaaGreatDoorTb1
set_option maxRecDepth 100000
set_option maxHeartbeats 1600000
namespace Go.Proofs.YtbenmgokhklnjaaGreatDoor
open Go.RowKit
theorem allKept_any (fs:List FileD) (ao:Option Addr) (cap:Nat) (w:World) (hl:fs.length≤1048576) (hfs:FilesAt w ao fs) (hsz:∀ F ∈ fs,F.name.size≤1048576∧F.text.size≤1048576) :
  Calls Tryz.prog 112 #[.agg #[.slice ao fs.length cap]] w fun e w' => e=.returned (.bool (allKeptD fs))∧Below w.heap.size w w':=by
 have HF:=hide hfs
 have HS:=hide hsz
 clear hfs hsz
 have b0:Below w.heap.size w (w.alloc (.cells #[.slice ao fs.length cap] 34)):=(Below.refl _ w).alloc (Nat.le_refl _) _
 have HB0:=hide b0
 clear b0
 cases hok:diskOkD fs
 ·
  go_enter Tryz.func112,Tryz.ntmps112
  go_wp2_with fail
  refine (diskOk_any fs ao cap _ hl (filesAt_keep HF.out HB0.out) (fun F h => ⟨small_max (HS.out F h).1,small_max (HS.out F h).2⟩)).mono ?_
  rintro e w1 ⟨rfl,b1⟩
  rw [hok]
  have HB1:=hide (HB0.out.trans (b1.mono HB0.out.size))
  clear b1
  go_wp2
  go_ret
  rw [allKeptD,hok]
  exact ⟨rfl,HB1.out⟩
 ·
  obtain ⟨R,HR⟩:∃ R,Hid (keptD (fs.drop 0)=R):=⟨_,hide rfl⟩
  have e:allKeptD fs=R:=by rw [allKeptD,hok,← HR.out];rfl
  rw [e]
  clear e
  go_enter Tryz.func112,Tryz.ntmps112
  go_wp2_with fail
  refine (diskOk_any fs ao cap _ hl (filesAt_keep HF.out HB0.out) (fun F h => ⟨small_max (HS.out F h).1,small_max (HS.out F h).2⟩)).mono ?_
  rintro e w1 ⟨rfl,b1⟩
  rw [hok]
  have hbox:w1.cell? ⟨w.heap.size,0,none⟩=some (.slice ao fs.length cap):=(b1.cell (p:=⟨w.heap.size,0,none⟩) (by simp)).trans (by rw [cell_of_row _ _ _ _ _ (0,0) (heap_alloc_new w _)];rfl)
  have HB1:=hide (HB0.out.trans (b1.mono HB0.out.size))
  clear b1
  go_wp2
  go_loopw [11] (fun ii wr => ∃ (k:Nat),ii=.int .i64 k∧k≤fs.length∧Hid (keptD (fs.drop k)=R)∧Hid (Below w.heap.size w wr)) (fun ii _ => fs.length - (intOf ii).toNat)
  case atStart => exact ⟨0,rfl,Nat.zero_le _,HR,HB1⟩
  case round =>
   obtain ⟨k,rfl,hk,HK,HB⟩:=hrel
   by_cases hlt:k < fs.length
   ·
    have hlt':decide ((k:Int) < (fs.length:Int))=true:=by simp;omega
    obtain ⟨b,off,rfl,hbw,hc0,hc1,hc2⟩:=filesAt_keep HF.out HB.out k hlt
    have HX:=hide (HS.out fs[k] (List.getElem_mem hlt))
    obtain ⟨F,HFk⟩:∃ F,Hid (fs[k]=F):=⟨fs[k],hide rfl⟩
    rw [HFk.out] at hc0 hc1 hc2
    have hi0:(0:Int)≤(k:Int):=by omega
    have hi1:(k:Int) < (fs.length:Int):=by omega
    have hs2:F.text.size≤1048576:=by have:=HX.out.2;rw [HFk.out] at this;exact this
    cases hq:decide (F.kept < (F.text.size:Int))
    ·
     have HK1:Hid (keptD (fs.drop (k+1))=R):=by show _=_;rw [← HK.out];exact (kept_more hlt (by rw [HFk.out];exact hq)).symm
     go_wp2
     go_roundw
     case rel => exact ⟨k+1,by go_num,by omega,HK1,HB.out.alloc HB.out.size _⟩
     case measure => simp [intOf];omega
    ·
     have hR:Hid (R=false):=by show _=_;rw [← HK.out];exact kept_bad hlt (by rw [HFk.out];exact hq)
     go_wp2
     go_ret
     rw [hR.out]
     exact ⟨rfl,HB.out.alloc HB.out.size _⟩
   ·
    have hlt':decide ((k:Int) < (fs.length:Int))=false:=by simp;omega
    have hR:Hid (R=true):=by show _=_;rw [← HK.out];exact kept_end (by omega)
    go_wp2
    go_ret
    rw [hR.out]
    exact ⟨rfl,HB.out⟩
abbrev nmNew:ByteArray:=⟨#[109,43]⟩
def isBelow (m:Nat) (nm:ByteArray):Bool:=(List.range m).any fun n => (segNm (n:Int)).toList == nm.toList
theorem isBelow_succ (m:Nat) (nm:ByteArray):isBelow (m+1) nm=(isBelow m nm || ((segNm (m:Int)).toList == nm.toList)):=by
 unfold isBelow
 rw [List.range_succ,List.any_append]
 simp
theorem isBelow_at {m k:Nat} {nm:ByteArray} (hk:k < m) (h:((segNm (k:Int)).toList == nm.toList)=true):isBelow m nm=true:=by
 unfold isBelow
 rw [List.any_eq_true]
 exact ⟨k,List.mem_range.2 hk,h⟩
def lastB (q:Int) (bs:List BatchD):Int:=(bs.getLast?.map BatchD.seq).getD q
def seqD (l:List SegD):Int:=l.foldl (fun q s => lastB q s.bs) 0
theorem seqD_snoc (l:List SegD) (s:SegD):seqD (l ++ [s])=lastB (seqD l) s.bs:=by simp [seqD]
theorem lastB_last (q:Int) (bs:List BatchD) (h:0 < bs.length):lastB q bs=(bs[bs.length - 1]'(by omega)).seq:=by
 unfold lastB
 rw [List.getLast?_eq_getElem?,List.getElem?_eq_getElem (by omega)]
 rfl
theorem seqD_take_succ {l:List SegD} {k:Nat} (h:k < l.length):seqD (l.take (k+1))=lastB (seqD (l.take k)) l[k].bs:=by
 rw [List.take_succ_eq_append_getElem h,seqD_snoc]
def dropA (nm:ByteArray):ActD:=⟨4,nm,⟨#[]⟩,⟨#[]⟩⟩
def newA (nm text:ByteArray):List ActD:=[⟨1,nmNew,text,⟨#[]⟩⟩,⟨2,nmNew,⟨#[]⟩,⟨#[]⟩⟩,⟨3,nmNew,⟨#[]⟩,nm⟩]
def addA (t:ByteArray):ActD:=⟨1,nmNew,t,⟨#[]⟩⟩
def newsA (nm:ByteArray) (ts:List ByteArray):List ActD:=ts.map addA ++ [⟨2,nmNew,⟨#[]⟩,⟨#[]⟩⟩,⟨3,nmNew,⟨#[]⟩,nm⟩]
def isNew (nm:ByteArray):Bool:=nm.toList == nmNew.toList
def goesB (m:Nat) (F:FileD):Bool:=isNew F.name || isBelow m F.name
def dropsI (m:Nat) (fs:List FileD):List ActD:=(fs.filter (goesB m)).map fun F => dropA F.name
theorem dropsI_snoc_yes {m:Nat} {fs:List FileD} {F:FileD} (h:goesB m F=true):dropsI m (fs ++ [F])=dropsI m fs ++ [dropA F.name]:=by simp [dropsI,h]
theorem dropsI_snoc_no {m:Nat} {fs:List FileD} {F:FileD} (h:goesB m F=false):dropsI m (fs ++ [F])=dropsI m fs:=by simp [dropsI,h]
theorem dropsI_len (m:Nat) (fs:List FileD):(dropsI m fs).length≤fs.length:=by
 unfold dropsI
 rw [List.length_map]
 exact List.length_filter_le _ _
theorem dropsI_empty {m:Nat} {fs:List FileD}:dropsI m fs=[] ↔ ∀ F ∈ fs,goesB m F=false:=by
 unfold dropsI
 rw [List.map_eq_nil_iff,List.filter_eq_nil_iff]
 constructor
 ·
  intro h F hF
  simpa using h F hF
 ·
  intro h F hF
  simp [h F hF]
def dropsS (m:Nat) (fs:List FileD):List ActD:=(if (fileD fs nmNew).isSome then [dropA nmNew] else []) ++ (fs.filter fun F => isBelow m F.name).map fun F => dropA F.name
def firstG (fs:List FileD):Nat:=((segsL fs).head?.map SegD.num).getD 0
def lastG (fs:List FileD):SegD:=(segsL fs).getLast?.getD ⟨0,0,[],0,false,false⟩
def mendA (fs:List FileD):List ActD:=if (lastG fs).torn then newA (segNm ((lastG fs).num:Int)) ((((fileD fs (segNm ((lastG fs).num:Int))).map FileD.text).getD ⟨#[]⟩).extract 0 (lastG fs).fin) else []
def actsI (fs:List FileD):List ActD:=dropsI (firstG fs) fs ++ mendA fs
def actsS (fs:List FileD):List ActD:=dropsS (firstG fs) fs ++ mendA fs
def wholeB (fs:List FileD):Bool:=(segsL fs).dropLast.all fun s => !s.torn
def soundB (fs:List FileD):Bool:=seqsRise fs && (allKeptD fs && wholeB fs)
def roomB (room:Int):Bool:=decide (100≤room) && decide (room≤20000)
def openIB (fs:List FileD) (room:Int):Bool:=roomB room && (soundB fs && decide ((actsF fs (actsI fs)).2=(actsI fs).length))
def openSB (fs:List FileD) (room:Int):Bool:=roomB room && (soundB fs && decide ((actsF fs (actsS fs)).2=(actsS fs).length))
def calmB (fs:List FileD):Bool:=(actsI fs).isEmpty
def engB (fs:List FileD) (room act seq:Int) (dir:List SpotD):Prop:=roomB room=true∧soundB fs=true∧calmB fs=true∧((lastG fs).num:Int)=act∧seqD (segsL fs)=seq∧dirD fs=dir
theorem soundB_segs {fs:List FileD} (h:soundB fs=true):segsOk fs=true∧seqsRise fs=true∧allKeptD fs=true∧wholeB fs=true∧diskOkD fs=true∧0 < (segsL fs).length:=by
 unfold soundB at h
 simp only [Bool.and_eq_true] at h
 obtain ⟨h1,h2,h3⟩:=h
 have h4:segsOk fs=true:=by
  unfold seqsRise at h1
  simp only [Bool.and_eq_true] at h1
  exact h1.1
 have h5:=h4
 unfold segsOk at h5
 simp only [Bool.and_eq_true,decide_eq_true_eq] at h5
 refine ⟨h4,h1,h2,h3,h5.1,?_⟩
 unfold segsL
 rw [if_pos h4]
 exact h5.2.2
theorem fileD_some_iff {fs:List FileD} {nm:ByteArray}:(fileD fs nm).isSome=fs.any fun F => F.name.toList == nm.toList:=by
 unfold fileD
 rw [List.isSome_find?]
theorem actsS_empty (fs:List FileD):actsS fs=[] ↔ actsI fs=[]:=by
 unfold actsS actsI
 simp only [List.append_eq_nil_iff]
 refine and_congr_left fun _ => ?_
 rw [dropsI_empty]
 unfold dropsS
 rw [List.append_eq_nil_iff,List.map_eq_nil_iff,List.filter_eq_nil_iff,fileD_some_iff]
 constructor
 ·
  rintro ⟨h1,h2⟩ F hF
  unfold goesB isNew
  have h3:(fs.any fun F => F.name.toList == nmNew.toList)=false:=by
   cases hh:fs.any fun F => F.name.toList == nmNew.toList with
   | false => rfl
   | true => rw [hh] at h1;simp at h1
  rw [List.any_eq_false] at h3
  have h4:=h3 F hF
  have h5:=h2 F hF
  simp only [Bool.not_eq_true] at h4 h5
  rw [h4,h5]
  rfl
 ·
  intro h
  have h1:(fs.any fun F => F.name.toList == nmNew.toList)=false:=by
   rw [List.any_eq_false]
   intro F hF
   have:=h F hF
   unfold goesB isNew at this
   simp only [Bool.or_eq_false_iff] at this
   rw [this.1]
   simp
  refine ⟨by rw [h1];rfl,fun F hF => ?_⟩
  have:=h F hF
  unfold goesB at this
  simp only [Bool.or_eq_false_iff] at this
  rw [this.2]
  simp
theorem l08Seq_any (fs:List FileD) (ao:Option Addr) (cap:Nat) (a1:Option Addr) (c1 NL B:Nat) (w:World) (hl:fs.length≤1048576) (hfs:FilesAt w ao fs) (hsz:∀ F ∈ fs,F.name.size≤1048576∧F.text.size≤1048576)
  (hNL:(segsL fs).length=NL) (hrow:w.ownsRow B 3 1 (.slice a1 NL c1) NL (((segsL fs).map SegD.num).map iv)) :
  Calls Tryz.prog 81 #[.agg #[.slice ao fs.length cap],.slice a1 NL c1] w fun e w' => e=.returned (.int .i64 (seqD (segsL fs)))∧Below w.heap.size w w':=by
 have HF:=hide hfs
 have HS:=hide hsz
 have G1:=hide hrow
 obtain ⟨wb,hwb⟩:∃ wb,wb=w.alloc (.cells #[.slice ao fs.length cap] 34):=⟨_,rfl⟩
 have HB0:Hid (Below w.heap.size w wb):=by rw [hwb];exact (Below.refl _ w).alloc (Nat.le_refl _) _
 have hbs:w.heap.size < wb.heap.size:=by rw [hwb];simp
 have HBC:Hid (wb.cell? ⟨w.heap.size,0,none⟩=some (.slice ao fs.length cap)):=by rw [hwb];exact (cell_of_row _ _ 0 _ _ (0,0) (heap_alloc_new w _)).trans rfl
 obtain ⟨l,HLL⟩:∃ l,Hid (segsL fs=l):=⟨_,rfl⟩
 have HLM:Hid (∀ s ∈ l,s.bs.length≤20001∧∃ F,segBatches (s.num:Int) F.text=s.bs∧fileD fs (segNm s.num)=some F):=fun s hs => by
  rw [← HLL.out] at hs
  obtain ⟨-,-,F,-,hF,hD⟩:=segsTo_mem (segsL_mem hs)
  refine ⟨?_,F,?_,hD⟩
  ·
   rw [hF]
   exact (segBatches_bounds _ _).1
  ·
   conv => rhs;rw [hF]
   rfl
 have HNL:=hide hNL
 have hN1:NL≤100:=by rw [← hNL];exact segsL_len fs
 rw [HLL.out] at HNL G1
 rw [HLL.out]
 clear hfs hsz hrow hNL HLL
 go_enter Tryz.func81,Tryz.ntmps81
 go_wp2_with fail
 rw [← hwb]
 clear hwb
 go_loopg [5,6] NL (fun gg vl ii wr => ∃ (k:Nat),k+gg=NL∧vl=.int .i64 (seqD (l.take k))∧ii=.int .i64 k∧k≤NL∧Hid (Below wb.heap.size wb wr))
 case atStart => exact ⟨0,by omega,rfl,rfl,Nat.zero_le _,Below.refl _ _⟩
 case round =>
  obtain ⟨k,hkg,rfl,rfl,hk,HB⟩:=hrel
  have hws:wb.heap.size≤wr.heap.size:=HB.out.size
  have HBw:Hid (Below w.heap.size w wr):=HB0.out.trans (HB.out.mono HB0.out.size)
  cases gk with
  | zero =>
   have hlt':decide ((k:Int) < (NL:Int))=false:=by simp;omega
   have hltn:decide (k < NL)=false:=by simp;omega
   rw [List.take_of_length_le (by rw [HNL.out];omega)]
   go_wp2
   go_ret
   exact ⟨rfl,HBw.out⟩
  | succ g0 =>
   have hlt:k < l.length:=by rw [HNL.out];omega
   have hlt':decide ((k:Int) < (NL:Int))=true:=by simp;omega
   have hltn:decide (k < NL)=true:=by simp;omega
   have hi0:(0:Int)≤(k:Int):=by omega
   have hi1:(k:Int) < (NL:Int):=by omega
   obtain ⟨hbl,F,hFb,hFd⟩:=HLM.out l[k] (List.getElem_mem hlt)
   obtain ⟨g,hg,hgw,hc1⟩:=num_cell (ownsRow_below G1.out HBw.out) k (by omega) l[k].num (by rw [List.getElem?_map,List.getElem?_eq_getElem hlt];rfl)
   subst hg
   have hsq:=hide (seqD_take_succ hlt)
   have HLB:=hide (fun W hW => l06Batches_any fs ao cap l[k].num F W hl hW HS.out hFd)
   rw [hFb] at HLB
   clear hFb hFd
   generalize l[k]=D at hsq hc1 HLB hbl
   generalize seqD (l.take k)=q0 at hsq
   clear hlt
   have hlt0:w.heap.size < wr.heap.size:=by omega
   have hc0:wr.cell? ⟨w.heap.size,0,none⟩=some (.slice ao fs.length cap):=(HB.out.cell (p:=⟨w.heap.size,0,none⟩) (by show w.heap.size < _;omega)).trans HBC.out
   have HFW:=hide (filesAt_keep HF.out HBw.out)
   go_wp2_with fail
   go_region_held3 (fun w' => w'.cell? ⟨w.heap.size,0,none⟩=some (.slice ao fs.length cap)∧w'.cell? ⟨g,k,none⟩=some (.int .i64 (D.num:Int))) (first | go_keep | (exact ⟨hc0,hc1⟩) | (exact ⟨(b2.cell (p:=⟨w.heap.size,0,none⟩) hlt0).trans hc0,(b2.cell (p:=⟨g,k,none⟩) hgw).trans hc1⟩)) ((go_at_call 99;refine (HLB.out _ (by first | exact HFW.out | exact filesAt_keep HFW.out (Below.refl _ _).drew)).mono ?_;rintro e w2 ⟨⟨v2,rfl,r2⟩,b2⟩;obtain ⟨a2,c2,rfl,-⟩:=rowBatch_at r2))
   have B2:Hid (Below wr.heap.size wr w2):=(Below.refl _ _).drew.trans b2
   have HRB:=hide (rowBatch_rows r2).2
   clear r2 b2 hc0 hc1
   by_cases hz:D.bs.length=0
   ·
    have hz':decide ((0:Int) < (D.bs.length:Int))=false:=by rw [decide_eq_false_iff_not];omega
    have hzn:decide (0 < D.bs.length)=false:=by rw [decide_eq_false_iff_not];omega
    have hE:Hid (lastB q0 D.bs=q0):=by show _=_;rw [List.eq_nil_of_length_eq_zero hz];rfl
    clear hz
    go_wp2
    go_roundg g0
    case measure => omega
    case rel => exact ⟨k+1,by omega,by rw [hsq.out,hE.out],by go_num,by omega,HB.out.trans (B2.out.mono hws)⟩
   ·
    have hz':decide ((0:Int) < (D.bs.length:Int))=true:=by rw [decide_eq_true_eq];omega
    have hzn:decide (0 < D.bs.length)=true:=by rw [decide_eq_true_eq];omega
    obtain ⟨b,off,hab,hbw,hd0,-⟩:=HRB.out (D.bs.length - 1) (by omega)
    have hE:=hide (lastB_last q0 D.bs (by omega))
    generalize D.bs[D.bs.length - 1]'(by omega)=E at hd0 hE
    subst hab
    have hj0:(0:Int)≤(D.bs.length:Int) - 1:=by omega
    have hj1:(D.bs.length:Int) - 1 < (D.bs.length:Int):=by omega
    have hjn:((D.bs.length:Int) - 1).toNat=D.bs.length - 1:=by omega
    have hjw:IntKind.i64.wrap ((D.bs.length:Int) - 1)=(D.bs.length:Int) - 1:=by rw [IntKind.wrap_i64];omega
    go_wp2
    go_roundg g0
    case measure => omega
    case rel => exact ⟨k+1,by omega,by rw [hsq.out,hE.out],by go_num,by omega,HB.out.trans (B2.out.mono hws)⟩
def Wd.good (s:ByteArray):Prop:=s.size ≠ 0∧s.size≤10∧Wd.digs s s.size∧(s.size=1 ∨ Wd.bt s 0 ≠ 48)∧Wd.numF s s.size≤1000000000
theorem Wd.numF_bound (s:ByteArray) (k:Nat) (hk:k≤10) (hd:Wd.digs s k):Wd.numF s k≤9999999999:=by
 have h1:=Wd.numF_lt s k hd
 have h2:10 ^ k≤10 ^ 10:=Nat.pow_le_pow_right (by omega) hk
 omega
theorem digs_more {s:ByteArray} {k b:Nat} (HI:Wd.digs s k) (hB:Wd.bt s k=b) (h1:48≤b) (h2:b≤57):Wd.digs s (k+1):=by
 intro p hp
 by_cases h:p < k
 · exact HI p h
 ·
  have:p=k:=by omega
  subst this
  omega
theorem specDec_long (s:ByteArray) (w:World) (ws:s.size≤1048576) (h:10 < s.size) :
  Calls Tryz.prog 137 #[.string s] w fun e w' => e=.returned (.tuple #[.int .i64 0,.bool false])∧w' = w:=by
 go_enter Tryz.func137,Tryz.ntmps137
 go_wp2
 go_ret2
 exact ⟨rfl,rfl⟩
theorem dec_test (s:ByteArray) (k M:Nat) (hk:k=s.size) (hd:Wd.digs s k) (h10:s.size≤10) (hM:Wd.numF s k=M) :
  (Wd.decS (M:Int) == s.toList)=decide (s.size ≠ 0∧(s.size=1 ∨ Wd.bt s 0 ≠ 48)):=by
 subst hk hM
 rw [Bool.eq_iff_iff,beq_iff_eq,decide_eq_true_iff,ByteArray.toList_eq]
 exact Wd.dec_canon s hd h10
theorem specDec_in (s:ByteArray) (w:World) (h:s.size≤10) :
  Calls Tryz.prog 137 #[.string s] w fun e w' => Below w.heap.size w w'∧((Wd.good s∧e=.returned (.tuple #[.int .i64 (Wd.numF s s.size),.bool true])) ∨ (¬ Wd.good s∧e=.returned (.tuple #[.int .i64 0,.bool false]))):=by
 have h1':decide (10 < (s.size:Int))=false:=by simp;omega
 go_enter Tryz.func137,Tryz.ntmps137
 go_wp2
 go_loop [4,5] (fun n i => ∃ k M:Nat,k≤s.size∧i=.int .i64 k∧n=.int .i64 M∧Hid (Wd.numF s k=M)∧Hid (Wd.digs s k)∧M≤9999999999) (fun _ i => s.size - (intOf i).toNat)
 case atStart => exact ⟨0,0,Nat.zero_le _,rfl,rfl,rfl,fun p hp => absurd hp (by omega),by omega⟩
 case round =>
  obtain ⟨k,M,hk,rfl,rfl,HM,HI,hM⟩:=hrel
  by_cases hlt:k < s.size
  ·
   obtain ⟨b,hB,hbt,hb256⟩:∃ b:Nat,Hid (Wd.bt s k=b)∧(s[k]'hlt).toNat=b∧b < 256:=⟨_,rfl,Wd.bt_eq s k hlt,Wd.bt_lt s k⟩
   by_cases h3:b < 48
   ·
    have h3':decide ((b:Int) < 48)=true:=by simp;omega
    have hno:Hid (¬ Wd.good s):=fun hg => by have:=(hg.2.2.1 k hlt).1;rw [hB.out] at this;omega
    go_wp2
    go_ret2
    exact ⟨Below.refl _ _,.inr ⟨hno.out,rfl⟩⟩
   ·
    have h3':decide ((b:Int) < 48)=false:=by simp;omega
    by_cases h4:57 < b
    ·
     have h4':decide (57 < (b:Int))=true:=by simp;omega
     have hno:Hid (¬ Wd.good s):=fun hg => by have:=(hg.2.2.1 k hlt).2;rw [hB.out] at this;omega
     go_wp2
     go_ret2
     exact ⟨Below.refl _ _,.inr ⟨hno.out,rfl⟩⟩
    ·
     have h4':decide (57 < (b:Int))=false:=by simp;omega
     have hd':=hide (digs_more HI.out hB.out (by omega) (by omega))
     have hbd:=Wd.numF_bound s (k+1) (by omega) hd'.out
     have hnum:Wd.numF s (k+1)=10 * M+(b - 48):=by rw [Wd.numF,HM.out,hB.out]
     rw [hnum] at hbd
     have HN:=hide hnum
     clear hnum
     go_wp2
     go_round
     case rel => exact ⟨k+1,10 * M+(b - 48),by omega,by go_num,by go_num,HN,hd',hbd⟩
     case measure => simp [intOf];omega
  ·
   have hks:Hid (k=s.size):=by show _=_;omega
   by_cases h5:M≤1000000000
   ·
    have h5':decide (1000000000 < (M:Int))=false:=by simp;omega
    have ht:=dec_test s k M hks.out HI.out h HM.out
    by_cases h6:s.size ≠ 0∧(s.size=1 ∨ Wd.bt s 0 ≠ 48)
    ·
     rw [decide_eq_true h6] at ht
     have hg:Hid (Wd.good s∧Wd.numF s s.size=M):=⟨⟨h6.1,h,by rw [← hks.out];exact HI.out,h6.2,by rw [← hks.out,HM.out];exact h5⟩,by rw [← hks.out];exact HM.out⟩
     clear h6
     go_wp2_with (go_at_call 107;refine (decimal_any _ _ (by omega) (by omega)).mono ?_;rintro e w1 ⟨rfl,hb1⟩)
     go_ret2
     refine ⟨hb1,.inl ⟨hg.out.1,?_⟩⟩
     rw [hg.out.2]
     rfl
    ·
     rw [decide_eq_false h6] at ht
     have hno:Hid (¬ Wd.good s):=fun hg => h6 ⟨hg.1,hg.2.2.2.1⟩
     clear h6
     go_wp2_with (go_at_call 107;refine (decimal_any _ _ (by omega) (by omega)).mono ?_;rintro e w1 ⟨rfl,hb1⟩)
     go_ret2
     exact ⟨hb1,.inr ⟨hno.out,rfl⟩⟩
   ·
    have h5':decide (1000000000 < (M:Int))=true:=by simp;omega
    have hno:Hid (¬ Wd.good s):=fun hg => by have:=hg.2.2.2.2;rw [← hks.out,HM.out] at this;omega
    go_wp2
    go_ret2
    exact ⟨Below.refl _ _,.inr ⟨hno.out,rfl⟩⟩
theorem specDec_yes (s:ByteArray) (w:World) (hg:Wd.good s) :
  Calls Tryz.prog 137 #[.string s] w fun e w' => e=.returned (.tuple #[.int .i64 (Wd.numF s s.size),.bool true])∧Below w.heap.size w w':=by
 refine (specDec_in s w hg.2.1).mono ?_
 rintro e w' ⟨hb,⟨_,he⟩ | ⟨hno,_⟩⟩
 · exact ⟨he,hb⟩
 · exact absurd hg hno
theorem specDec_no (s:ByteArray) (w:World) (ws:s.size≤1048576) (hno:¬ Wd.good s) :
  Calls Tryz.prog 137 #[.string s] w fun e w' => e=.returned (.tuple #[.int .i64 0,.bool false])∧Below w.heap.size w w':=by
 by_cases h:10 < s.size
 · exact (specDec_long s w ws h).mono fun e w' ⟨he,hw⟩ => ⟨he,hw ▸ Below.refl _ _⟩
 ·
  refine (specDec_in s w (by omega)).mono ?_
  rintro e w' ⟨hb,⟨hg,_⟩ | ⟨_,he⟩⟩
  · exact absurd hg hno
  · exact ⟨he,hb⟩
def chk100 (k:Nat):Bool:=match Wd.decS (k:Int) with
 | [a] => decide (48≤a.toNat) && (decide (a.toNat≤57) && decide (a.toNat - 48=k))
 | [a,b] => decide (49≤a.toNat) && (decide (a.toNat≤57) && (decide (48≤b.toNat) && (decide (b.toNat≤57) && decide ((a.toNat - 48) * 10+(b.toNat - 48)=k))))
 | _ => false
theorem chk100_all:(List.range 100).all chk100=true:=by kernel_rfl
theorem dec_small (k:Nat) (h:k < 100):Wd.good ⟨(Wd.decS (k:Int)).toArray⟩∧Wd.numF ⟨(Wd.decS (k:Int)).toArray⟩ (⟨(Wd.decS (k:Int)).toArray⟩:ByteArray).size=k:=by
 have hc:=List.all_eq_true.1 chk100_all k (List.mem_range.2 h)
 unfold chk100 at hc
 split at hc
 ·
  rename_i a he
  rw [he]
  simp only [Bool.and_eq_true,decide_eq_true_eq] at hc
  have b0:Wd.bt ⟨#[a]⟩ 0=a.toNat:=bt_list [a] 0 (by simp)
  have hs:(⟨#[a]⟩:ByteArray).size=1:=rfl
  have hn:Wd.numF ⟨#[a]⟩ 1=k:=by rw [Wd.numF,Wd.numF,b0];omega
  refine ⟨⟨by rw [hs];omega,by rw [hs];omega,?_,.inl hs,by rw [hs,hn];omega⟩,by rw [hs];exact hn⟩
  intro p hp
  have:p=0:=by rw [hs] at hp;omega
  subst this
  rw [b0]
  omega
 ·
  rename_i a b he
  rw [he]
  simp only [Bool.and_eq_true,decide_eq_true_eq] at hc
  have b0:Wd.bt ⟨#[a,b]⟩ 0=a.toNat:=bt_list [a,b] 0 (by simp)
  have b1:Wd.bt ⟨#[a,b]⟩ 1=b.toNat:=bt_list [a,b] 1 (by simp)
  have hs:(⟨#[a,b]⟩:ByteArray).size=2:=rfl
  have hn:Wd.numF ⟨#[a,b]⟩ 2=k:=by rw [Wd.numF,Wd.numF,Wd.numF,b0,b1];omega
  refine ⟨⟨by rw [hs];omega,by rw [hs];omega,?_,.inr (by rw [b0];omega),by rw [hs,hn];omega⟩,by rw [hs];exact hn⟩
  intro p hp
  have:p=0 ∨ p=1:=by rw [hs] at hp;omega
  rcases this with rfl | rfl
  · rw [b0];omega
  · rw [b1];omega
 · cases hc
def TailOf (nm:ByteArray):ByteArray:=nm.extract 1 nm.size
open Classical in
noncomputable def numOf (nm:ByteArray):Int:=if 2≤nm.size∧Wd.good (TailOf nm)∧((segNm (Wd.numF (TailOf nm) (TailOf nm).size)).toList == nm.toList)=true then (Wd.numF (TailOf nm) (TailOf nm).size:Int) else -1
theorem numOf_in {m:Nat} (hm:m≤100) (nm:ByteArray):(decide (0≤numOf nm) && decide (numOf nm < (m:Int)))=isBelow m nm:=by
 rw [Bool.eq_iff_iff]
 simp only [Bool.and_eq_true,decide_eq_true_eq]
 constructor
 ·
  rintro ⟨h1,h2⟩
  unfold numOf at h1 h2
  split at h1
  ·
   rename_i h
   rw [if_pos h] at h2
   exact isBelow_at (k:=Wd.numF (TailOf nm) (TailOf nm).size) (by omega) h.2.2
  · omega
 ·
  intro h
  unfold isBelow at h
  rw [List.any_eq_true] at h
  obtain ⟨k,hk,he⟩:=h
  rw [List.mem_range] at hk
  obtain ⟨hg,hv⟩:=dec_small k (by omega)
  have hnm:nm=segNm (k:Int):=by
   rw [beq_iff_eq,ByteArray.toList_eq,ByteArray.toList_eq] at he
   exact (ByteArray.ext (Array.toList_inj.1 he)).symm
  have hsz:nm.size=(Wd.decS (k:Int)).length+1:=by
   rw [hnm]
   unfold segNm
   rw [if_pos (by omega)]
   simp [ByteArray.size]
  have htl:TailOf nm=⟨(Wd.decS (k:Int)).toArray⟩:=by
   unfold TailOf
   rw [hsz,hnm]
   unfold segNm
   rw [if_pos (by omega)]
   apply ByteArray.ext
   simp
  have h2:2≤nm.size:=by
   have:=hg.1
   have e:(⟨(Wd.decS (k:Int)).toArray⟩:ByteArray).size=(Wd.decS (k:Int)).length:=rfl
   rw [e] at this
   omega
  have hN:numOf nm=(k:Int):=by
   unfold numOf
   rw [htl,hv]
   rw [if_pos ⟨h2,hg,he⟩]
  rw [hN]
  omega
theorem l06Number_any (nm:ByteArray) (w:World) (hs:nm.size≤1048576) :
  Calls Tryz.prog 102 #[.string nm] w fun e w' => e=.returned (.int .i64 (numOf nm))∧Below w.heap.size w w':=by
 by_cases h2:nm.size < 2
 ·
  have HE:Hid (numOf nm = -1):=by show _=_;unfold numOf;rw [if_neg (by omega)]
  have h2':decide ((nm.size:Int) < 2)=true:=by simp;omega
  go_enter Tryz.func102,Tryz.ntmps102
  go_wp2
  go_ret
  rw [HE.out]
  exact ⟨rfl,Below.refl _ _⟩
 ·
  have h2':decide ((nm.size:Int) < 2)=false:=by simp;omega
  obtain ⟨T,HT⟩:∃ T,Hid (TailOf nm=T):=⟨_,hide rfl⟩
  have hcut:∀ W:World,(Instr.slice 9 (.string nm) (some (.int .i64 1)) none none).run Tryz.prog W=.ok (.string T) W:=by
   intro W
   rw [run_slice_string_from_if W 9 nm .i64 1 Tryz.underlying9,if_pos (by omega),← HT.out]
   rfl
  have hts:T.size≤1048576:=by rw [← HT.out];unfold TailOf;rw [ByteArray.size_extract];omega
  by_cases hg:Wd.good T
  ·
   have HR:=hide (fun W => specDec_yes T W hg)
   have hnb:Wd.numF T T.size≤1000000000:=hg.2.2.2.2
   obtain ⟨M,HM⟩:∃ M,Hid (Wd.numF T T.size=M):=⟨_,hide rfl⟩
   rw [HM.out] at HR hnb
   obtain ⟨X,HX⟩:∃ X,Hid (segNm (M:Int)=X):=⟨_,hide rfl⟩
   have HN:=hide (fun W => specSegName_any (M:Int) W)
   rw [HX.out] at HN
   cases hb:(X.toList == nm.toList) with
   | true =>
    have HE:Hid (numOf nm=(M:Int)):=by
     show _=_
     unfold numOf
     rw [HT.out,HM.out,HX.out,if_pos ⟨by omega,hg,hb⟩]
    have hb':(!(X.toList == nm.toList))=false:=by rw [hb];rfl
    clear hg
    go_enter Tryz.func102,Tryz.ntmps102
    go_wp2_with fail
    refine (HR.out _).mono ?_
    rintro e w1 ⟨rfl,b1⟩
    have B1:=hide b1
    clear b1
    go_wp2_with fail
    refine (HN.out _).mono ?_
    rintro e w2 ⟨rfl,b2⟩
    have B2:=hide (B1.out.trans (b2.mono B1.out.size))
    clear b2
    go_wp2
    go_ret
    rw [HE.out]
    exact ⟨rfl,B2.out⟩
   | false =>
    have HE:Hid (numOf nm = -1):=by
     show _=_
     unfold numOf
     rw [HT.out,HM.out,HX.out,if_neg (by rw [hb];simp)]
    clear hg
    go_enter Tryz.func102,Tryz.ntmps102
    go_wp2_with fail
    refine (HR.out _).mono ?_
    rintro e w1 ⟨rfl,b1⟩
    have B1:=hide b1
    clear b1
    go_wp2_with fail
    refine (HN.out _).mono ?_
    rintro e w2 ⟨rfl,b2⟩
    have B2:=hide (B1.out.trans (b2.mono B1.out.size))
    clear b2
    go_wp2
    go_ret
    rw [HE.out]
    exact ⟨rfl,B2.out⟩
  ·
   have HR:=hide (fun W => specDec_no T W hts hg)
   have HE:Hid (numOf nm = -1):=by
    show _=_
    unfold numOf
    rw [HT.out,if_neg (fun h => hg h.2.1)]
   clear hg
   go_enter Tryz.func102,Tryz.ntmps102
   go_wp2_with fail
   refine (HR.out _).mono ?_
   rintro e w1 ⟨rfl,b1⟩
   have B1:=hide b1
   clear b1
   go_wp2
   go_ret
   rw [HE.out]
   exact ⟨rfl,B1.out⟩
def ActsIn (C:Array Value) (fs:List ActD) (k:Nat):Prop:=∀ j (h:j < fs.length),j < k→C[j * 4]? = some (.int .i64 fs[j].kind)∧C[j * 4+1]? = some (.string fs[j].name)∧C[j * 4+2]? = some (.string fs[j].text)∧C[j * 4+3]? = some (.string fs[j].toN)
theorem Tryz.infoAct:(Tryz.prog.info? 177).map (fun i => (i.zero,i.size,i.bytes))=some (some (.agg #[.int .i64 0,.string ⟨#[]⟩,.string ⟨#[]⟩,.string ⟨#[]⟩]),4,56):=by kernel_rfl
theorem actsAt_own {w:World} {g:Nat} {C:Array Value} {t:TypeId} {fs:List ActD} (h:w.heap[g]? = some (.cells C t (0,0))) (hC:ActsIn C fs fs.length):ActsAt w (some ⟨g,0,none⟩) fs:=by
 intro j hj
 obtain ⟨h0,h1,h2,h3⟩:=hC j hj hj
 have hg:g < w.heap.size:=(Array.getElem?_eq_some_iff.1 h).1
 refine ⟨g,0,rfl,hg,?_,?_,?_,?_⟩
 · rw [Nat.zero_add,cell_of_row w g _ C t (0,0) h,h0]
 · rw [Nat.zero_add,cell_of_row w g _ C t (0,0) h,h1]
 · rw [Nat.zero_add,cell_of_row w g _ C t (0,0) h,h2]
 · rw [Nat.zero_add,cell_of_row w g _ C t (0,0) h,h3]
def cellsAct:List ActD→List Value
 | [] => []
 | A :: r => .int .i64 A.kind :: .string A.name :: .string A.text :: .string A.toN :: cellsAct r
theorem cellsAct_append:∀ (a b:List ActD),cellsAct (a ++ b)=cellsAct a ++ cellsAct b
 | [],_ => rfl
 | A :: r,b => by simp [cellsAct,cellsAct_append r b]
theorem cellsAct_length:∀ a:List ActD,(cellsAct a).length=a.length * 4
 | [] => rfl
 | A :: r => by simp [cellsAct,cellsAct_length r];omega
theorem cellsAct_one:∀ (a:List ActD),∀ u ∈ cellsAct a,u.oneCell' = true
 | [],u,h => absurd h List.not_mem_nil
 | A :: r,u,h => by
  simp only [cellsAct,List.mem_cons] at h
  rcases h with rfl | rfl | rfl | rfl | h
  · rfl
  · rfl
  · rfl
  · rfl
  · exact cellsAct_one r u h
theorem cellsAct_get:∀ (a:List ActD) (j:Nat) (h:j < a.length),(cellsAct a)[j * 4]? = some (.int .i64 a[j].kind)∧(cellsAct a)[j * 4+1]? = some (.string a[j].name)∧(cellsAct a)[j * 4+2]? = some (.string a[j].text)∧(cellsAct a)[j * 4+3]? = some (.string a[j].toN)
 | [],_,h => absurd h (by simp)
 | A :: r,0,_ => by simp [cellsAct]
 | A :: r,j+1,h => by
  have:=cellsAct_get r j (by simpa using h)
  have e:(j+1) * 4=j * 4+4:=by omega
  simp only [cellsAct,e]
  simpa using this
def RowAct (w:World) (B:Nat) (v:Value) (fs:List ActD):Prop:=(v=.slice none 0 0∧fs=[]) ∨
 ∃ (g cap:Nat) (C:Array Value),v=.slice (some ⟨g,0,none⟩) fs.length cap∧B≤g∧w.heap[g]? = some (.cells C 177 (0,0))∧fs.length * 4≤C.size∧ActsIn C fs fs.length
theorem rowAct_at {w:World} {B:Nat} {v:Value} {fs:List ActD} (h:RowAct w B v fs):∃ ao cap,v=.slice ao fs.length cap∧ActsAt w ao fs:=by
 rcases h with ⟨rfl,rfl⟩ | ⟨g,cap,C,rfl,_,hC,_,hI⟩
 · exact ⟨none,0,rfl,fun j hj => absurd hj (by simp)⟩
 · exact ⟨_,cap,rfl,actsAt_own hC hI⟩
theorem take_getAct {C:Array Value} {xs:List Value} {n:Nat} (h:C.toList.take n=xs) {j:Nat} {u:Value} (hj:j < n) (hu:xs[j]? = some u):C[j]? = some u:=by
 rw [← h,List.getElem?_take_of_lt hj] at hu
 simpa using hu
theorem rowAct_own {w:World} {B:Nat} {v:Value} {fs:List ActD} (h:w.ownsRow B 177 4 v fs.length (cellsAct fs)):RowAct w B v fs:=by
 rcases h.2 with ⟨rfl,hn⟩ | ⟨g,cap,cur,rfl,hB,hC,hle,_,hs,ht⟩
 · exact .inl ⟨rfl,List.eq_nil_of_length_eq_zero hn⟩
 ·
  refine .inr ⟨g,cap,cur,rfl,hB,hC,by omega,?_⟩
  intro j hj _
  obtain ⟨h0,h1,h2,h3⟩:=cellsAct_get fs j hj
  exact ⟨take_getAct ht (by omega) h0,take_getAct ht (by omega) h1,take_getAct ht (by omega) h2,take_getAct ht (by omega) h3⟩
theorem app_act {ops:Array Oper} {rest:List Oper} {o:Oper} {a:Act} {Q:Exit→Act→World→Prop} (W:World) (B:Nat) (hgd:o.guard=none) (s y:Operand)
  (ho:o.op=.call { callee:=.builtin .append,args:=#[s,y],argTypes:=#[104,104] }) (v:Value) (l:List ActD) (F:ActD) (hs:a.eval s=v)
  (hown:W.ownsRow B 177 4 v l.length (cellsAct l)) (k:Nat) (hx:a.eval y=.slice (some ⟨k,0,none⟩) 1 1) (hblk:W.heap[k]? = some (.cells #[.int .i64 F.kind,.string F.name,.string F.text,.string F.toN] 177 (0,0)))
  (hlen:l.length≤1048576) (hbase:B≤W.heap.size)
  (h:∀ g cap w',w'.ownsRow B 177 4 (.slice (some ⟨g,0,none⟩) (l.length+1) cap) (l ++ [F]).length (cellsAct (l ++ [F]))→Below B W w'→B≤g→g < w'.heap.size→wpList Tryz.prog ops Q rest (a.put o.dst (.slice (some ⟨g,0,none⟩) (l.length+1) cap)) w') :
  wpList Tryz.prog ops Q (o :: rest) a W:=by
 obtain ⟨i0,hi,hz0,hz1,hz2⟩:=info_parts Tryz.infoAct
 refine wpList_append_lies W hgd s y 104 ho B 177 i0 (.agg #[.int .i64 0,.string ⟨#[]⟩,.string ⟨#[]⟩,.string ⟨#[]⟩]) 4 56 Tryz.underlying104 hi hz0 hz1 hz2 rfl (by decide) v l.length (cellsAct l) hs hown ⟨k,0,none⟩ 1 1 (cellsAct [F]) hx (by rw [cellsAct_length];rfl)
  (fun j u hj => World.news_of_block hblk j u hj) (cellsAct_one [F]) (by omega) (by unfold maxLen;omega) (by omega) hbase W.heap.size rfl ?_
 intro g cap w' hown' hgrow hg hgl
 have hlt:=hown.lt
 refine h g cap w' ?_ ((Below.refl B W).grown hgrow hbase (fun k hk => (hlt k hk).1)) ?_ hgl
 ·
  rw [cellsAct_append,List.length_append]
  exact hown'
 ·
  rcases hg with hg | rfl
  · exact (hlt g hg).1
  · exact hbase
theorem app_acts {ops:Array Oper} {rest:List Oper} {o:Oper} {a:Act} {Q:Exit→Act→World→Prop} (W:World) (B:Nat) (hgd:o.guard=none) (s y:Operand)
  (ho:o.op=.call { callee:=.builtin .append,args:=#[s,y],argTypes:=#[104,104] }) (v:Value) (l rs:List ActD) (hs:a.eval s=v)
  (hown:W.ownsRow B 177 4 v l.length (cellsAct l)) (k n:Nat) (hn:rs.length=n) (hx:a.eval y=.slice (some ⟨k,0,none⟩) n n) (hblk:W.heap[k]? = some (.cells (cellsAct rs).toArray 177 (0,0)))
  (hlen:l.length≤1048576) (hn0:0 < n) (hn1:n≤1000) (hbase:B≤W.heap.size)
  (h:∀ g cap w',w'.ownsRow B 177 4 (.slice (some ⟨g,0,none⟩) (l.length+n) cap) (l ++ rs).length (cellsAct (l ++ rs))→Below B W w'→B≤g→g < w'.heap.size→wpList Tryz.prog ops Q rest (a.put o.dst (.slice (some ⟨g,0,none⟩) (l.length+n) cap)) w') :
  wpList Tryz.prog ops Q (o :: rest) a W:=by
 subst hn
 obtain ⟨i0,hi,hz0,hz1,hz2⟩:=info_parts Tryz.infoAct
 refine wpList_append_lies W hgd s y 104 ho B 177 i0 (.agg #[.int .i64 0,.string ⟨#[]⟩,.string ⟨#[]⟩,.string ⟨#[]⟩]) 4 56 Tryz.underlying104 hi hz0 hz1 hz2 rfl (by decide) v l.length (cellsAct l) hs hown ⟨k,0,none⟩ rs.length rs.length (cellsAct rs) hx (by rw [cellsAct_length])
  (fun j u hj => World.news_of_block hblk j u (by simpa using hj)) (cellsAct_one rs) (by omega) (by unfold maxLen;omega) (by omega) hbase W.heap.size rfl ?_
 intro g cap w' hown' hgrow hg hgl
 have hlt:=hown.lt
 refine h g cap w' ?_ ((Below.refl B W).grown hgrow hbase (fun k hk => (hlt k hk).1)) ?_ hgl
 ·
  rw [cellsAct_append,List.length_append]
  exact hown'
 ·
  rcases hg with hg | rfl
  · exact (hlt g hg).1
  · exact hbase
theorem app_actsR {ops:Array Oper} {rest:List Oper} {o:Oper} {a:Act} {Q:Exit→Act→World→Prop} (W:World) (B:Nat) (hgd:o.guard=none) (s y:Operand)
  (ho:o.op=.call { callee:=.builtin .append,args:=#[s,y],argTypes:=#[104,104] }) (v:Value) (l rs:List ActD) (hs:a.eval s=v)
  (hown:W.ownsRow B 177 4 v l.length (cellsAct l)) (B2 n:Nat) (v2:Value) (hn:rs.length=n) (hx:a.eval y=v2) (hown2:W.ownsRow B2 177 4 v2 rs.length (cellsAct rs))
  (hlen:l.length≤1048576) (hn0:0 < n) (hn1:n≤1000000) (hbase:B≤W.heap.size)
  (h:∀ g cap w',w'.ownsRow B 177 4 (.slice (some ⟨g,0,none⟩) (l.length+n) cap) (l ++ rs).length (cellsAct (l ++ rs))→Below B W w'→B≤g→g < w'.heap.size→wpList Tryz.prog ops Q rest (a.put o.dst (.slice (some ⟨g,0,none⟩) (l.length+n) cap)) w') :
  wpList Tryz.prog ops Q (o :: rest) a W:=by
 subst hn
 obtain ⟨i0,hi,hz0,hz1,hz2⟩:=info_parts Tryz.infoAct
 rcases hown2.2 with ⟨rfl,hn⟩ | ⟨g2,cap2,cur2,rfl,-⟩
 · omega
 refine wpList_append_lies W hgd s y 104 ho B 177 i0 (.agg #[.int .i64 0,.string ⟨#[]⟩,.string ⟨#[]⟩,.string ⟨#[]⟩]) 4 56 Tryz.underlying104 hi hz0 hz1 hz2 rfl (by decide) v l.length (cellsAct l) hs hown ⟨g2,0,none⟩ rs.length cap2 (cellsAct rs) hx (by rw [cellsAct_length])
  (fun j u hj => hown2.cells (g:=g2) rfl j u hj) (cellsAct_one rs) (by omega) (by unfold maxLen;omega) (by omega) hbase W.heap.size rfl ?_
 intro g cap w' hown' hgrow hg hgl
 have hlt:=hown.lt
 refine h g cap w' ?_ ((Below.refl B W).grown hgrow hbase (fun k hk => (hlt k hk).1)) ?_ hgl
 ·
  rw [cellsAct_append,List.length_append]
  exact hown'
 ·
  rcases hg with hg | rfl
  · exact (hlt g hg).1
  · exact hbase
end Go.Proofs.YtbenmgokhklnjaaGreatDoor
