import Derived.Deep.LoopGhost
import Derived.WalkMore
import Derived.WalkSmall
import Derived.Test.YtepdckehokdjlaaGreatDoorMg24
import Derived.Test.YtepdckehokdjlaaGreatDoorMg10
import Derived.Test.YtepdckehokdjlaaGreatDoorMg4
import Derived.Test.YtepdckehokdjlaaGreatDoorMg3
import Derived.Test.YtepdckehokdjlaaGreatDoorMg21
import Derived.Test.YtepdckehokdjlaaGreatDoorMg19
set_option maxRecDepth 100000
set_option maxHeartbeats 3200000
namespace Go.Proofs.YtepdckehokdjlaaGreatDoor
open Go.RowKit
theorem l08Seq_any (fs:List FileD) (ao:Option Addr) (cap:Nat) (a1:Option Addr) (c1 NL B:Nat) (w:World) (hl:fs.length≤1048576) (hfs:FilesAt w ao fs) (hsz:∀ F ∈ fs,F.name.size≤1048576∧F.text.size≤1048576)
  (hNL:(segsL fs).length=NL) (hrow:w.ownsRow B 3 1 (.slice a1 NL c1) NL (((segsL fs).map SegD.num).map iv)) :
  Calls Tryz.prog 56 #[.agg #[.slice ao fs.length cap],.slice a1 NL c1] w fun e w' => e=.returned (.int .i64 (seqD (segsL fs)))∧Below w.heap.size w w':=by
 have HF:=hide hfs
 have HS:=hide hsz
 have G1:=hide hrow
 obtain ⟨wb,hwb⟩:∃ wb,wb=w.alloc (.cells #[.slice ao fs.length cap] 31):=⟨_,rfl⟩
 have HB0:Hid (Below w.heap.size w wb):=by rw [hwb];exact (Below.refl _ w).alloc (Nat.le_refl _) _
 have hbs:w.heap.size < wb.heap.size:=by rw [hwb];simp
 have HBC:Hid (wb.cell? ⟨w.heap.size,0,none⟩=some (.slice ao fs.length cap)):=by rw [hwb];exact (cell_of_row _ _ 0 _ _ (0,0) (heap_alloc_new w _)).trans rfl
 obtain ⟨l,HLL⟩:∃ l,Hid (segsL fs=l):=⟨_,rfl⟩
 have HLM:Hid (∀ s ∈ l,s.bs.length≤20001∧∃ F,segBatches (s.num:Int) F.text=s.bs∧fileD fs (segNm s.num)=some F):=fun s hs => by
  rw [← HLL.out] at hs
  obtain ⟨-,-,F,-,hF,hD⟩:=segsTo_mem (segsL_mem hs)
  refine ⟨?_,F,?_,hD⟩
  ·
   rw [hF]
   exact (segBatches_bounds _ _).1
  ·
   conv => rhs;rw [hF]
   rfl
 have HNL:=hide hNL
 have hN1:NL≤100:=by rw [← hNL];exact segsL_len fs
 rw [HLL.out] at HNL G1
 rw [HLL.out]
 clear hfs hsz hrow hNL HLL
 go_enter Tryz.func56,Tryz.ntmps56
 go_wp2_with fail
 rw [← hwb]
 clear hwb
 go_loopg [5,6] NL (fun gg vl ii wr => ∃ (k:Nat),k+gg=NL∧vl=.int .i64 (seqD (l.take k))∧ii=.int .i64 k∧k≤NL∧Hid (Below wb.heap.size wb wr))
 case atStart => exact ⟨0,by omega,rfl,rfl,Nat.zero_le _,Below.refl _ _⟩
 case round =>
  obtain ⟨k,hkg,rfl,rfl,hk,HB⟩:=hrel
  have hws:wb.heap.size≤wr.heap.size:=HB.out.size
  have HBw:Hid (Below w.heap.size w wr):=HB0.out.trans (HB.out.mono HB0.out.size)
  cases gk with
  | zero =>
   have hlt':decide ((k:Int) < (NL:Int))=false:=by simp;omega
   have hltn:decide (k < NL)=false:=by simp;omega
   rw [List.take_of_length_le (by rw [HNL.out];omega)]
   go_wp2
   go_ret
   exact ⟨rfl,HBw.out⟩
  | succ g0 =>
   have hlt:k < l.length:=by rw [HNL.out];omega
   have hlt':decide ((k:Int) < (NL:Int))=true:=by simp;omega
   have hltn:decide (k < NL)=true:=by simp;omega
   have hi0:(0:Int)≤(k:Int):=by omega
   have hi1:(k:Int) < (NL:Int):=by omega
   obtain ⟨hbl,F,hFb,hFd⟩:=HLM.out l[k] (List.getElem_mem hlt)
   obtain ⟨g,hg,hgw,hc1⟩:=num_cell (ownsRow_below G1.out HBw.out) k (by omega) l[k].num (by rw [List.getElem?_map,List.getElem?_eq_getElem hlt];rfl)
   subst hg
   have hsq:=hide (seqD_take_succ hlt)
   have HLB:=hide (fun W hW => l06Batches_any fs ao cap l[k].num F W hl hW HS.out hFd)
   rw [hFb] at HLB
   clear hFb hFd
   generalize l[k]=D at hsq hc1 HLB hbl
   generalize seqD (l.take k)=q0 at hsq
   clear hlt
   have hlt0:w.heap.size < wr.heap.size:=by omega
   have hc0:wr.cell? ⟨w.heap.size,0,none⟩=some (.slice ao fs.length cap):=(HB.out.cell (p:=⟨w.heap.size,0,none⟩) (by show w.heap.size < _;omega)).trans HBC.out
   have HFW:=hide (filesAt_keep HF.out HBw.out)
   go_wp2_with fail
   go_region_held3 (fun w' => w'.cell? ⟨w.heap.size,0,none⟩=some (.slice ao fs.length cap)∧w'.cell? ⟨g,k,none⟩=some (.int .i64 (D.num:Int))) (first | go_keep | (exact ⟨hc0,hc1⟩) | (exact ⟨(b2.cell (p:=⟨w.heap.size,0,none⟩) hlt0).trans hc0,(b2.cell (p:=⟨g,k,none⟩) hgw).trans hc1⟩)) ((go_at_call 83;refine (HLB.out _ (by first | exact HFW.out | exact filesAt_keep HFW.out (Below.refl _ _).drew)).mono ?_;rintro e w2 ⟨⟨v2,rfl,r2⟩,b2⟩;obtain ⟨a2,c2,rfl,-⟩:=rowBatch_at r2))
   have B2:Hid (Below wr.heap.size wr w2):=(Below.refl _ _).drew.trans b2
   have HRB:=hide (rowBatch_rows r2).2
   clear r2 b2 hc0 hc1
   by_cases hz:D.bs.length=0
   ·
    have hz':decide ((0:Int) < (D.bs.length:Int))=false:=by rw [decide_eq_false_iff_not];omega
    have hzn:decide (0 < D.bs.length)=false:=by rw [decide_eq_false_iff_not];omega
    have hE:Hid (lastB q0 D.bs=q0):=by show _=_;rw [List.eq_nil_of_length_eq_zero hz];rfl
    clear hz
    go_wp2
    go_roundg g0
    case measure => omega
    case rel => exact ⟨k+1,by omega,by rw [hsq.out,hE.out],by go_num,by omega,HB.out.trans (B2.out.mono hws)⟩
   ·
    have hz':decide ((0:Int) < (D.bs.length:Int))=true:=by rw [decide_eq_true_eq];omega
    have hzn:decide (0 < D.bs.length)=true:=by rw [decide_eq_true_eq];omega
    obtain ⟨b,off,hab,hbw,hd0,-⟩:=HRB.out (D.bs.length - 1) (by omega)
    have hE:=hide (lastB_last q0 D.bs (by omega))
    generalize D.bs[D.bs.length - 1]'(by omega)=E at hd0 hE
    subst hab
    have hj0:(0:Int)≤(D.bs.length:Int) - 1:=by omega
    have hj1:(D.bs.length:Int) - 1 < (D.bs.length:Int):=by omega
    have hjn:((D.bs.length:Int) - 1).toNat=D.bs.length - 1:=by omega
    have hjw:IntKind.i64.wrap ((D.bs.length:Int) - 1)=(D.bs.length:Int) - 1:=by rw [IntKind.wrap_i64];omega
    go_wp2
    go_roundg g0
    case measure => omega
    case rel => exact ⟨k+1,by omega,by rw [hsq.out,hE.out],by go_num,by omega,HB.out.trans (B2.out.mono hws)⟩
def Wd.good (s:ByteArray):Prop:=s.size ≠ 0∧s.size≤10∧Wd.digs s s.size∧(s.size=1 ∨ Wd.bt s 0 ≠ 48)∧Wd.numF s s.size≤1000000000
theorem Wd.numF_bound (s:ByteArray) (k:Nat) (hk:k≤10) (hd:Wd.digs s k):Wd.numF s k≤9999999999:=by
 have h1:=Wd.numF_lt s k hd
 have h2:10 ^ k≤10 ^ 10:=Nat.pow_le_pow_right (by omega) hk
 omega
theorem digs_more {s:ByteArray} {k b:Nat} (HI:Wd.digs s k) (hB:Wd.bt s k=b) (h1:48≤b) (h2:b≤57):Wd.digs s (k+1):=by
 intro p hp
 by_cases h:p < k
 · exact HI p h
 ·
  have:p=k:=by omega
  subst this
  omega
theorem specDec_long (s:ByteArray) (w:World) (ws:s.size≤1048576) (h:10 < s.size) :
  Calls Tryz.prog 112 #[.string s] w fun e w' => e=.returned (.tuple #[.int .i64 0,.bool false])∧w' = w:=by
 go_enter Tryz.func112,Tryz.ntmps112
 go_wp2
 go_ret2
 exact ⟨rfl,rfl⟩
theorem dec_test (s:ByteArray) (k M:Nat) (hk:k=s.size) (hd:Wd.digs s k) (h10:s.size≤10) (hM:Wd.numF s k=M) :
  (Wd.decS (M:Int) == s.toList)=decide (s.size ≠ 0∧(s.size=1 ∨ Wd.bt s 0 ≠ 48)):=by
 subst hk hM
 rw [Bool.eq_iff_iff,beq_iff_eq,decide_eq_true_iff,ByteArray.toList_eq]
 exact Wd.dec_canon s hd h10
theorem specDec_in (s:ByteArray) (w:World) (h:s.size≤10) :
  Calls Tryz.prog 112 #[.string s] w fun e w' => Below w.heap.size w w'∧((Wd.good s∧e=.returned (.tuple #[.int .i64 (Wd.numF s s.size),.bool true])) ∨ (¬ Wd.good s∧e=.returned (.tuple #[.int .i64 0,.bool false]))):=by
 have h1':decide (10 < (s.size:Int))=false:=by simp;omega
 go_enter Tryz.func112,Tryz.ntmps112
 go_wp2
 go_loop [4,5] (fun n i => ∃ k M:Nat,k≤s.size∧i=.int .i64 k∧n=.int .i64 M∧Hid (Wd.numF s k=M)∧Hid (Wd.digs s k)∧M≤9999999999) (fun _ i => s.size - (intOf i).toNat)
 case atStart => exact ⟨0,0,Nat.zero_le _,rfl,rfl,rfl,fun p hp => absurd hp (by omega),by omega⟩
 case round =>
  obtain ⟨k,M,hk,rfl,rfl,HM,HI,hM⟩:=hrel
  by_cases hlt:k < s.size
  ·
   obtain ⟨b,hB,hbt,hb256⟩:∃ b:Nat,Hid (Wd.bt s k=b)∧(s[k]'hlt).toNat=b∧b < 256:=⟨_,rfl,Wd.bt_eq s k hlt,Wd.bt_lt s k⟩
   by_cases h3:b < 48
   ·
    have h3':decide ((b:Int) < 48)=true:=by simp;omega
    have hno:Hid (¬ Wd.good s):=fun hg => by have:=(hg.2.2.1 k hlt).1;rw [hB.out] at this;omega
    go_wp2
    go_ret2
    exact ⟨Below.refl _ _,.inr ⟨hno.out,rfl⟩⟩
   ·
    have h3':decide ((b:Int) < 48)=false:=by simp;omega
    by_cases h4:57 < b
    ·
     have h4':decide (57 < (b:Int))=true:=by simp;omega
     have hno:Hid (¬ Wd.good s):=fun hg => by have:=(hg.2.2.1 k hlt).2;rw [hB.out] at this;omega
     go_wp2
     go_ret2
     exact ⟨Below.refl _ _,.inr ⟨hno.out,rfl⟩⟩
    ·
     have h4':decide (57 < (b:Int))=false:=by simp;omega
     have hd':=hide (digs_more HI.out hB.out (by omega) (by omega))
     have hbd:=Wd.numF_bound s (k+1) (by omega) hd'.out
     have hnum:Wd.numF s (k+1)=10 * M+(b - 48):=by rw [Wd.numF,HM.out,hB.out]
     rw [hnum] at hbd
     have HN:=hide hnum
     clear hnum
     go_wp2
     go_round
     case rel => exact ⟨k+1,10 * M+(b - 48),by omega,by go_num,by go_num,HN,hd',hbd⟩
     case measure => simp [intOf];omega
  ·
   have hks:Hid (k=s.size):=by show _=_;omega
   by_cases h5:M≤1000000000
   ·
    have h5':decide (1000000000 < (M:Int))=false:=by simp;omega
    have ht:=dec_test s k M hks.out HI.out h HM.out
    by_cases h6:s.size ≠ 0∧(s.size=1 ∨ Wd.bt s 0 ≠ 48)
    ·
     rw [decide_eq_true h6] at ht
     have hg:Hid (Wd.good s∧Wd.numF s s.size=M):=⟨⟨h6.1,h,by rw [← hks.out];exact HI.out,h6.2,by rw [← hks.out,HM.out];exact h5⟩,by rw [← hks.out];exact HM.out⟩
     clear h6
     go_wp2_with (go_at_call 74;refine (decimal_any _ _ (by omega) (by omega)).mono ?_;rintro e w1 ⟨rfl,hb1⟩)
     go_ret2
     refine ⟨hb1,.inl ⟨hg.out.1,?_⟩⟩
     rw [hg.out.2]
     rfl
    ·
     rw [decide_eq_false h6] at ht
     have hno:Hid (¬ Wd.good s):=fun hg => h6 ⟨hg.1,hg.2.2.2.1⟩
     clear h6
     go_wp2_with (go_at_call 74;refine (decimal_any _ _ (by omega) (by omega)).mono ?_;rintro e w1 ⟨rfl,hb1⟩)
     go_ret2
     exact ⟨hb1,.inr ⟨hno.out,rfl⟩⟩
   ·
    have h5':decide (1000000000 < (M:Int))=true:=by simp;omega
    have hno:Hid (¬ Wd.good s):=fun hg => by have:=hg.2.2.2.2;rw [← hks.out,HM.out] at this;omega
    go_wp2
    go_ret2
    exact ⟨Below.refl _ _,.inr ⟨hno.out,rfl⟩⟩
theorem specDec_yes (s:ByteArray) (w:World) (hg:Wd.good s) :
  Calls Tryz.prog 112 #[.string s] w fun e w' => e=.returned (.tuple #[.int .i64 (Wd.numF s s.size),.bool true])∧Below w.heap.size w w':=by
 refine (specDec_in s w hg.2.1).mono ?_
 rintro e w' ⟨hb,⟨_,he⟩ | ⟨hno,_⟩⟩
 · exact ⟨he,hb⟩
 · exact absurd hg hno
theorem specDec_no (s:ByteArray) (w:World) (ws:s.size≤1048576) (hno:¬ Wd.good s) :
  Calls Tryz.prog 112 #[.string s] w fun e w' => e=.returned (.tuple #[.int .i64 0,.bool false])∧Below w.heap.size w w':=by
 by_cases h:10 < s.size
 · exact (specDec_long s w ws h).mono fun e w' ⟨he,hw⟩ => ⟨he,hw ▸ Below.refl _ _⟩
 ·
  refine (specDec_in s w (by omega)).mono ?_
  rintro e w' ⟨hb,⟨hg,_⟩ | ⟨_,he⟩⟩
  · exact absurd hg hno
  · exact ⟨he,hb⟩
def chk100 (k:Nat):Bool:=match Wd.decS (k:Int) with
 | [a] => decide (48≤a.toNat) && (decide (a.toNat≤57) && decide (a.toNat - 48=k))
 | [a,b] => decide (49≤a.toNat) && (decide (a.toNat≤57) && (decide (48≤b.toNat) && (decide (b.toNat≤57) && decide ((a.toNat - 48) * 10+(b.toNat - 48)=k))))
 | _ => false
theorem chk100_all:(List.range 100).all chk100=true:=by kernel_rfl
theorem dec_small (k:Nat) (h:k < 100):Wd.good ⟨(Wd.decS (k:Int)).toArray⟩∧Wd.numF ⟨(Wd.decS (k:Int)).toArray⟩ (⟨(Wd.decS (k:Int)).toArray⟩:ByteArray).size=k:=by
 have hc:=List.all_eq_true.1 chk100_all k (List.mem_range.2 h)
 unfold chk100 at hc
 split at hc
 ·
  rename_i a he
  rw [he]
  simp only [Bool.and_eq_true,decide_eq_true_eq] at hc
  have b0:Wd.bt ⟨#[a]⟩ 0=a.toNat:=bt_list [a] 0 (by simp)
  have hs:(⟨#[a]⟩:ByteArray).size=1:=rfl
  have hn:Wd.numF ⟨#[a]⟩ 1=k:=by rw [Wd.numF,Wd.numF,b0];omega
  refine ⟨⟨by rw [hs];omega,by rw [hs];omega,?_,.inl hs,by rw [hs,hn];omega⟩,by rw [hs];exact hn⟩
  intro p hp
  have:p=0:=by rw [hs] at hp;omega
  subst this
  rw [b0]
  omega
 ·
  rename_i a b he
  rw [he]
  simp only [Bool.and_eq_true,decide_eq_true_eq] at hc
  have b0:Wd.bt ⟨#[a,b]⟩ 0=a.toNat:=bt_list [a,b] 0 (by simp)
  have b1:Wd.bt ⟨#[a,b]⟩ 1=b.toNat:=bt_list [a,b] 1 (by simp)
  have hs:(⟨#[a,b]⟩:ByteArray).size=2:=rfl
  have hn:Wd.numF ⟨#[a,b]⟩ 2=k:=by rw [Wd.numF,Wd.numF,Wd.numF,b0,b1];omega
  refine ⟨⟨by rw [hs];omega,by rw [hs];omega,?_,.inr (by rw [b0];omega),by rw [hs,hn];omega⟩,by rw [hs];exact hn⟩
  intro p hp
  have:p=0 ∨ p=1:=by rw [hs] at hp;omega
  rcases this with rfl | rfl
  · rw [b0];omega
  · rw [b1];omega
 · cases hc
def TailOf (nm:ByteArray):ByteArray:=nm.extract 1 nm.size
open Classical in
noncomputable def numOf (nm:ByteArray):Int:=if 2≤nm.size∧Wd.good (TailOf nm)∧((segNm (Wd.numF (TailOf nm) (TailOf nm).size)).toList == nm.toList)=true then (Wd.numF (TailOf nm) (TailOf nm).size:Int) else -1
theorem numOf_in {m:Nat} (hm:m≤100) (nm:ByteArray):(decide (0≤numOf nm) && decide (numOf nm < (m:Int)))=isBelow m nm:=by
 rw [Bool.eq_iff_iff]
 simp only [Bool.and_eq_true,decide_eq_true_eq]
 constructor
 ·
  rintro ⟨h1,h2⟩
  unfold numOf at h1 h2
  split at h1
  ·
   rename_i h
   rw [if_pos h] at h2
   exact isBelow_at (k:=Wd.numF (TailOf nm) (TailOf nm).size) (by omega) h.2.2
  · omega
 ·
  intro h
  unfold isBelow at h
  rw [List.any_eq_true] at h
  obtain ⟨k,hk,he⟩:=h
  rw [List.mem_range] at hk
  obtain ⟨hg,hv⟩:=dec_small k (by omega)
  have hnm:nm=segNm (k:Int):=by
   rw [beq_iff_eq,ByteArray.toList_eq,ByteArray.toList_eq] at he
   exact (ByteArray.ext (Array.toList_inj.1 he)).symm
  have hsz:nm.size=(Wd.decS (k:Int)).length+1:=by
   rw [hnm]
   unfold segNm
   rw [if_pos (by omega)]
   simp [ByteArray.size]
  have htl:TailOf nm=⟨(Wd.decS (k:Int)).toArray⟩:=by
   unfold TailOf
   rw [hsz,hnm]
   unfold segNm
   rw [if_pos (by omega)]
   apply ByteArray.ext
   simp
  have h2:2≤nm.size:=by
   have:=hg.1
   have e:(⟨(Wd.decS (k:Int)).toArray⟩:ByteArray).size=(Wd.decS (k:Int)).length:=rfl
   rw [e] at this
   omega
  have hN:numOf nm=(k:Int):=by
   unfold numOf
   rw [htl,hv]
   rw [if_pos ⟨h2,hg,he⟩]
  rw [hN]
  omega
theorem l06Number_any (nm:ByteArray) (w:World) (hs:nm.size≤1048576) :
  Calls Tryz.prog 84 #[.string nm] w fun e w' => e=.returned (.int .i64 (numOf nm))∧Below w.heap.size w w':=by
 by_cases h2:nm.size < 2
 ·
  have HE:Hid (numOf nm = -1):=by show _=_;unfold numOf;rw [if_neg (by omega)]
  have h2':decide ((nm.size:Int) < 2)=true:=by simp;omega
  go_enter Tryz.func84,Tryz.ntmps84
  go_wp2
  go_ret
  rw [HE.out]
  exact ⟨rfl,Below.refl _ _⟩
 ·
  have h2':decide ((nm.size:Int) < 2)=false:=by simp;omega
  obtain ⟨T,HT⟩:∃ T,Hid (TailOf nm=T):=⟨_,hide rfl⟩
  have hcut:∀ W:World,(Instr.slice 9 (.string nm) (some (.int .i64 1)) none none).run Tryz.prog W=.ok (.string T) W:=by
   intro W
   rw [run_slice_string_from_if W 9 nm .i64 1 Tryz.underlying9,if_pos (by omega),← HT.out]
   rfl
  have hts:T.size≤1048576:=by rw [← HT.out];unfold TailOf;rw [ByteArray.size_extract];omega
  by_cases hg:Wd.good T
  ·
   have HR:=hide (fun W => specDec_yes T W hg)
   have hnb:Wd.numF T T.size≤1000000000:=hg.2.2.2.2
   obtain ⟨M,HM⟩:∃ M,Hid (Wd.numF T T.size=M):=⟨_,hide rfl⟩
   rw [HM.out] at HR hnb
   obtain ⟨X,HX⟩:∃ X,Hid (segNm (M:Int)=X):=⟨_,hide rfl⟩
   have HN:=hide (fun W => specSegName_any (M:Int) W)
   rw [HX.out] at HN
   cases hb:(X.toList == nm.toList) with
   | true =>
    have HE:Hid (numOf nm=(M:Int)):=by
     show _=_
     unfold numOf
     rw [HT.out,HM.out,HX.out,if_pos ⟨by omega,hg,hb⟩]
    have hb':(!(X.toList == nm.toList))=false:=by rw [hb];rfl
    clear hg
    go_enter Tryz.func84,Tryz.ntmps84
    go_wp2_with fail
    refine (HR.out _).mono ?_
    rintro e w1 ⟨rfl,b1⟩
    have B1:=hide b1
    clear b1
    go_wp2_with fail
    refine (HN.out _).mono ?_
    rintro e w2 ⟨rfl,b2⟩
    have B2:=hide (B1.out.trans (b2.mono B1.out.size))
    clear b2
    go_wp2
    go_ret
    rw [HE.out]
    exact ⟨rfl,B2.out⟩
   | false =>
    have HE:Hid (numOf nm = -1):=by
     show _=_
     unfold numOf
     rw [HT.out,HM.out,HX.out,if_neg (by rw [hb];simp)]
    clear hg
    go_enter Tryz.func84,Tryz.ntmps84
    go_wp2_with fail
    refine (HR.out _).mono ?_
    rintro e w1 ⟨rfl,b1⟩
    have B1:=hide b1
    clear b1
    go_wp2_with fail
    refine (HN.out _).mono ?_
    rintro e w2 ⟨rfl,b2⟩
    have B2:=hide (B1.out.trans (b2.mono B1.out.size))
    clear b2
    go_wp2
    go_ret
    rw [HE.out]
    exact ⟨rfl,B2.out⟩
  ·
   have HR:=hide (fun W => specDec_no T W hts hg)
   have HE:Hid (numOf nm = -1):=by
    show _=_
    unfold numOf
    rw [HT.out,if_neg (fun h => hg h.2.1)]
   clear hg
   go_enter Tryz.func84,Tryz.ntmps84
   go_wp2_with fail
   refine (HR.out _).mono ?_
   rintro e w1 ⟨rfl,b1⟩
   have B1:=hide b1
   clear b1
   go_wp2
   go_ret
   rw [HE.out]
   exact ⟨rfl,B1.out⟩
theorem mendingActs_any (fs:List FileD) (ao:Option Addr) (cap:Nat) (v:Value) (B K:Nat) (w:World) (hl:fs.length≤1048576) (hfs:FilesAt w ao fs) (hsz:∀ F ∈ fs,F.name.size≤1048576∧F.text.size≤1048576) (h0:0 < (segsL fs).length) (hG:BuildG w B K v (segsL fs)) :
  Calls Tryz.prog 88 #[.agg #[.slice ao fs.length cap],v] w fun e w' => (∃ v,e=.returned v∧w'.ownsRow w.heap.size 51 4 v (actsI fs).length (cellsAct (actsI fs)))∧Below w.heap.size w w':=by
 obtain ⟨a1,c1,rfl⟩:=buildG_form hG
 have HF:=hide hfs
 have HS:=hide hsz
 have HG:=hide hG
 have hll:=segsL_len fs
 clear hfs hsz hG
 obtain ⟨wb,hwb⟩:∃ wb,wb=w.alloc (.cells #[.slice ao fs.length cap] 31):=⟨_,rfl⟩
 have HB0:Hid (Below w.heap.size w wb):=by rw [hwb];exact (Below.refl _ w).alloc (Nat.le_refl _) _
 have hbs:w.heap.size+1≤wb.heap.size:=by rw [hwb];simp
 have hbc:wb.cell? ⟨w.heap.size,0,none⟩=some (.slice ao fs.length cap):=by rw [hwb];exact (cell_of_row _ _ 0 _ _ (0,0) (heap_alloc_new w _)).trans rfl
 go_enter Tryz.func88,Tryz.ntmps88
 go_wp2_with fail
 rw [← hwb]
 clear hwb
 obtain ⟨l,HLL⟩:∃ l,Hid (segsL fs=l):=⟨_,hide rfl⟩
 rw [HLL.out] at HG h0 hll
 rw [HLL.out]
 obtain ⟨m,HM⟩:∃ m,Hid (firstG fs=m):=⟨_,hide rfl⟩
 have hm0:Hid (l[0].num=m):=by
  show _=_
  rw [← HM.out]
  unfold firstG
  rw [HLL.out,List.head?_eq_getElem?,List.getElem?_eq_getElem h0]
  rfl
 have hm1:m≤100:=by
  have:=(segsTo_mem (segsL_mem (fs:=fs) (s:=l[0]) (by rw [HLL.out];exact List.getElem_mem h0))).1
  have:=hm0.out
  omega
 obtain ⟨g0,hg0,hgw0,hz0,-⟩:=buildG_at HG.out 0 h0
 subst hg0
 have HZ0:Hid (w.cell? ⟨g0,0,none⟩=some (.int .i64 (m:Int))):=by show _=_;rw [← hm0.out];simpa using hz0
 clear hz0
 have hs0:(0:Int) < (l.length:Int):=by omega
 go_wp2_with fail
 go_loopw [5,15] (fun vo ii wr => ∃ (k:Nat),ii=.int .i64 k∧k≤fs.length∧Hid (wr.ownsRow wb.heap.size 51 4 vo (dropsI m (fs.take k)).length (cellsAct (dropsI m (fs.take k))))∧Hid (Below wb.heap.size wb wr)) (fun _ ii _ => fs.length - (intOf ii).toNat)
 case atStart => exact ⟨0,rfl,Nat.zero_le _,World.ownsRow_nil _ _ _ _,Below.refl _ _⟩
 case round =>
  obtain ⟨k,rfl,hk,HO,HB⟩:=hrel
  have hws:=HB.out.size
  have HBw:Hid (Below w.heap.size w wr):=HB0.out.trans (HB.out.mono HB0.out.size)
  by_cases hlt:k < fs.length
  ·
   have hlt':decide ((k:Int) < (fs.length:Int))=true:=by simp;omega
   have hi0:(0:Int)≤(k:Int):=by omega
   have hi1:(k:Int) < (fs.length:Int):=by omega
   obtain ⟨b,off,hab,hbw,hc0,hc1,hc2⟩:=filesAt_keep HF.out HBw.out k hlt
   have HX:=(HS.out fs[k] (List.getElem_mem hlt)).1
   have htk:=hide (List.take_succ_eq_append_getElem hlt)
   generalize fs[k]=F at hc0 hc1 hc2 HX htk
   subst hab
   obtain ⟨L,HL⟩:∃ L,Hid (dropsI m (fs.take k)=L):=⟨_,hide rfl⟩
   have hLl:L.length≤1048576:=by
    rw [← HL.out]
    have:=dropsI_len m (fs.take k)
    rw [List.length_take] at this
    omega
   rw [HL.out] at HO
   obtain ⟨wX,hwX⟩:∃ x,x=wr.alloc (.cells #[.string F.name,.string F.text,.int .i64 F.kept] 95):=⟨_,rfl⟩
   have BX:Hid (Below wr.heap.size wr wX):=by rw [hwX];exact (Below.refl _ wr).alloc (Nat.le_refl _) _
   have hxs:wX.heap.size=wr.heap.size+1:=by rw [hwX];simp
   have HXB:Hid (wX.heap[wr.heap.size]? = some (.cells #[.string F.name,.string F.text,.int .i64 F.kept] 95 (0,0))):=by rw [hwX];exact heap_alloc_new wr _
   have hx0:wX.cell? ⟨wr.heap.size,0,none⟩=some (.string F.name):=(cell_of_row wX _ 0 _ _ (0,0) HXB.out).trans rfl
   have hy0:wX.cell? ⟨g0,0,none⟩=some (.int .i64 (m:Int)):=((HBw.out.trans (BX.out.mono HBw.out.size)).cell (p:=⟨g0,0,none⟩) hgw0).trans HZ0.out
   have HOX:=hide (ownsRow_below HO.out BX.out)
   have HIB:=hide (fun W => isSegmentBelow_any m F.name W hm1)
   have HNW:Hid (isNew F.name=(F.name.toList == ([109,43]:List UInt8))):=by show _=_;unfold isNew;rw [show nmNew.toList=[109,43] from by rw [ByteArray.toList_eq]]
   cases hn:(F.name.toList == ([109,43]:List UInt8)) with
   | true =>
    have HGO:Hid (goesB m F=true):=by show _=_;unfold goesB;rw [HNW.out,hn];rfl
    go_wp2_with fail
    rw [← hwX]
    clear hwX
    go_quiet ((go_at_call 116;exact Calls.quiet_of_same (HIB.out _)))
    go_wp2_with fail
    refine (ownText_any F.name _ HX).mono ?_
    rintro e w3 ⟨rfl,b3⟩
    have B3:Hid (Below wX.heap.size wX w3):=(drewN_below wX nq).trans (b3.mono (drewN_below wX nq).size)
    have hw3:wX.heap.size≤w3.heap.size:=B3.out.size
    clear b3
    go_wp2_with (at_builtin;refine app_act _ wb.heap.size (by rfl) _ _ (by rfl) _ L (dropA F.name) (by rfl) ((ownsRow_below HOX.out B3.out).alloc _) w3.heap.size (by rfl) (heap_alloc_new w3 _) hLl (by simp;omega) ?_;intro g5 cap5 w5 ho5 hb5 hg5 hgl5;have HO5:=hide ho5;have HB5:=hide hb5;clear ho5 hb5 hg5 hgl5)
    go_roundw
    case rel =>
     refine ⟨k+1,by go_num,by omega,?_,((HB.out.trans ((BX.out.trans (B3.out.mono BX.out.size)).mono hws)).alloc (by omega) _).trans HB5.out⟩
     show World.ownsRow _ _ _ _ _ _ _
     rw [htk.out,dropsI_snoc_yes HGO.out,HL.out]
     exact HO5.out
    case measure => simp [intOf];omega
   | false =>
    cases hbl:isBelow m F.name with
    | true =>
     have HGO:Hid (goesB m F=true):=by show _=_;unfold goesB;rw [HNW.out,hn,hbl];rfl
     rw [hbl] at HIB
     clear hbl
     go_wp2_with fail
     rw [← hwX]
     clear hwX
     go_quiet ((go_at_call 116;exact Calls.quiet_of_same (HIB.out _)))
     go_wp2_with fail
     refine (ownText_any F.name _ HX).mono ?_
     rintro e w3 ⟨rfl,b3⟩
     have B3:Hid (Below wX.heap.size wX w3):=(drewN_below wX nq).trans (b3.mono (drewN_below wX nq).size)
     have hw3:wX.heap.size≤w3.heap.size:=B3.out.size
     clear b3
     go_wp2_with (at_builtin;refine app_act _ wb.heap.size (by rfl) _ _ (by rfl) _ L (dropA F.name) (by rfl) ((ownsRow_below HOX.out B3.out).alloc _) w3.heap.size (by rfl) (heap_alloc_new w3 _) hLl (by simp;omega) ?_;intro g5 cap5 w5 ho5 hb5 hg5 hgl5;have HO5:=hide ho5;have HB5:=hide hb5;clear ho5 hb5 hg5 hgl5)
     go_roundw
     case rel =>
      refine ⟨k+1,by go_num,by omega,?_,((HB.out.trans ((BX.out.trans (B3.out.mono BX.out.size)).mono hws)).alloc (by omega) _).trans HB5.out⟩
      show World.ownsRow _ _ _ _ _ _ _
      rw [htk.out,dropsI_snoc_yes HGO.out,HL.out]
      exact HO5.out
     case measure => simp [intOf];omega
    | false =>
     have HGO:Hid (goesB m F=false):=by show _=_;unfold goesB;rw [HNW.out,hn,hbl];rfl
     rw [hbl] at HIB
     clear hbl
     go_wp2_with fail
     rw [← hwX]
     clear hwX
     go_quiet ((go_at_call 116;exact Calls.quiet_of_same (HIB.out _)))
     go_wp2_with fail
     go_roundw
     case rel =>
      have bq:=drewN_below wX nq
      refine ⟨k+1,by go_num,by omega,?_,HB.out.trans ((BX.out.trans (bq.mono BX.out.size)).mono hws)⟩
      show World.ownsRow _ _ _ _ _ _ _
      rw [htk.out,dropsI_snoc_no HGO.out,HL.out]
      exact ownsRow_below HOX.out bq
     case measure => simp [intOf];omega
  ·
   have hlt':decide ((k:Int) < (fs.length:Int))=false:=by simp;omega
   have hke:k=fs.length:=by omega
   subst hke
   rw [List.take_length] at HO
   have HLO:=hide (fun W h => lastOf_any l (.slice (some ⟨g0,0,none⟩) l.length c1) B K W hll h0 h)
   obtain ⟨Z,HZ⟩:∃ Z,Hid (l[l.length - 1]'(by omega)=Z):=⟨_,hide rfl⟩
   rw [HZ.out] at HLO
   have HLG:Hid (lastG fs=Z):=by
    show _=_
    unfold lastG
    rw [HLL.out,List.getLast?_eq_getElem?,List.getElem?_eq_getElem (by omega),HZ.out]
    rfl
   obtain ⟨hZ0,-,F,hF1,hF2,hF3⟩:=segsTo_mem (segsL_mem (fs:=fs) (s:=Z) (by rw [HLL.out,← HZ.out];exact List.getElem_mem _))
   have HTX:Hid (Z.torn=true→Z.fin < F.text.size):=fun ht => by
    rw [hF2] at ht ⊢
    unfold segOfFile segTorn at ht
    simp only [Bool.and_eq_true,decide_eq_true_eq] at ht
    exact ht.2
   have HFS:=(HS.out F hF1).2
   have HFD:=hide hF3
   clear hF2 hF1 hF3
   obtain ⟨L,HL⟩:∃ L,Hid (dropsI m fs=L):=⟨_,hide rfl⟩
   have hLl:L.length≤1048576:=by
    rw [← HL.out]
    have:=dropsI_len m fs
    omega
   rw [HL.out] at HO
   obtain ⟨ag,cg,hvo⟩:=slice_form HO.out
   subst hvo
   cases ht:Z.torn with
   | false =>
    have HE:Hid (actsI fs=L):=by show _=_;unfold actsI mendA;rw [HLG.out,ht,HM.out,HL.out];simp
    go_wp2_with fail
    refine (HLO.out _ (buildG_below HG.out HBw.out)).mono ?_
    rintro e w3 ⟨⟨a,c,a',c',rfl,-⟩,b3⟩
    rw [ht]
    have B3:=hide b3
    obtain ⟨wX,hwX⟩:∃ x,x=w3.alloc (.cells #[.int .i64 (Z.num:Int),.int .i64 (Z.frm:Int),.slice a Z.bs.length c,.slice a' Z.pls.length c',.int .i64 (Z.fin:Int),.bool Z.right,.bool false] 158):=⟨_,rfl⟩
    have BX:Hid (Below w3.heap.size w3 wX):=by rw [hwX];exact (Below.refl _ w3).alloc (Nat.le_refl _) _
    obtain ⟨hx0,hx1,hx2,hx3,hx4,hx5,hx6⟩:=seven_cells (W:=wX) (g:=w3.heap.size) (by rw [hwX];exact heap_alloc_new w3 _)
    clear b3
    go_wp2_with fail
    rw [← hwX]
    clear hwX
    go_wp2
    go_ret
    rw [HE.out]
    have B4:Below wr.heap.size wr wX:=B3.out.trans (BX.out.mono B3.out.size)
    exact ⟨⟨_,rfl,ownsRow_mono (ownsRow_below HO.out B4) HB0.out.size⟩,HBw.out.trans (B4.mono HBw.out.size)⟩
   | true =>
    have hlt2:=HTX.out ht
    obtain ⟨NM,HNM⟩:∃ NM,Hid (segNm (Z.num:Int)=NM):=⟨_,hide rfl⟩
    have HN:Hid (∀ W:World,Calls Tryz.prog 99 #[.int .i64 (Z.num:Int)] W fun e w' => e=.returned (.string NM)∧w' = W):=fun W => by rw [← HNM.out];exact implSegName_any (Z.num:Int) W
    rw [HNM.out] at HFD
    obtain ⟨TX,HTT⟩:∃ T,Hid (F.text.extract 0 Z.fin=T):=⟨_,hide rfl⟩
    have hcut:∀ W:World,(Instr.slice 9 (.string F.text) none (some (.int .i64 (Z.fin:Int))) none).run Tryz.prog W=.ok (.string TX) W:=by
     intro W
     rw [run_slice_string_to_if W 9 F.text .i64 (Z.fin:Int) Tryz.underlying9,if_pos (by omega),Int.toNat_natCast,HTT.out]
    have HE:Hid (actsI fs=L ++ newA NM TX):=by
     show _=_
     unfold actsI mendA
     rw [HLG.out,ht,HM.out,HL.out,HNM.out,HFD.out]
     simp only [Option.map_some,Option.getD_some,if_true,HTT.out]
    go_wp2_with fail
    refine (HLO.out _ (buildG_below HG.out HBw.out)).mono ?_
    rintro e w3 ⟨⟨a,c,a',c',rfl,-⟩,b3⟩
    rw [ht]
    have B3:=hide b3
    obtain ⟨wX,hwX⟩:∃ x,x=w3.alloc (.cells #[.int .i64 (Z.num:Int),.int .i64 (Z.frm:Int),.slice a Z.bs.length c,.slice a' Z.pls.length c',.int .i64 (Z.fin:Int),.bool Z.right,.bool true] 158):=⟨_,rfl⟩
    have BX:Hid (Below w3.heap.size w3 wX):=by rw [hwX];exact (Below.refl _ w3).alloc (Nat.le_refl _) _
    have HXB:Hid (wX.heap[w3.heap.size]? = some (.cells #[.int .i64 (Z.num:Int),.int .i64 (Z.frm:Int),.slice a Z.bs.length c,.slice a' Z.pls.length c',.int .i64 (Z.fin:Int),.bool Z.right,.bool true] 158 (0,0))):=by rw [hwX];exact heap_alloc_new w3 _
    obtain ⟨hx0,hx1,hx2,hx3,hx4,hx5,hx6⟩:=seven_cells HXB.out
    have hX3:w3.heap.size < wX.heap.size:=heap_lt HXB.out
    have B4:Hid (Below wr.heap.size wr wX):=B3.out.trans (BX.out.mono B3.out.size)
    have hbX:wX.cell? ⟨w.heap.size,0,none⟩=some (.slice ao fs.length cap):=((HB.out.trans (B4.out.mono hws)).cell (p:=⟨w.heap.size,0,none⟩) (by show w.heap.size < _;omega)).trans hbc
    clear b3
    go_wp2_with fail
    rw [← hwX]
    clear hwX
    go_wp2_with fail
    refine (HN.out _).mono ?_
    rintro e w4 ⟨rfl,hw4⟩
    subst hw4
    have HBX:Hid (Below w.heap.size w w4):=HBw.out.trans (B4.out.mono HBw.out.size)
    go_wp2_with fail
    refine (fileAt_some fs ao cap NM _ F hl (filesAt_keep HF.out HBX.out) HS.out HFD.out).mono ?_
    rintro e w5 ⟨rfl,b5⟩
    have B5:=hide b5
    have hy4:w5.cell? ⟨w3.heap.size,4,none⟩=some (.int .i64 (Z.fin:Int)):=(b5.cell (p:=⟨w3.heap.size,4,none⟩) hX3).trans hx4
    clear b5
    go_wp2_with fail
    have HX8:=hide (heap_alloc_new w5 (.cells #[.string TX] 9))
    refine (newFileActs_one NM TX w5.heap.size _ (heap_lt HX8.out) ((cell_of_row _ _ 0 _ _ (0,0) HX8.out).trans rfl)).mono ?_
    rintro e w6 ⟨⟨a6,c6,rfl,o6⟩,b6⟩
    have B56:Hid (Below w5.heap.size w5 w6):=((Below.refl _ w5).alloc (Nat.le_refl _) _).trans (b6.mono (by simp))
    have B6:Hid (Below wr.heap.size wr w6):=(B4.out.trans (B5.out.mono B4.out.size)).trans (B56.out.mono (by have:=B4.out.size;have:=B5.out.size;omega))
    have HK6:=hide o6
    have HO6:=hide (ownsRow_below HO.out B6.out)
    have hw6:=B6.out.size
    clear b6 o6
    go_wp2_with (at_builtin;refine app_actsR _ wb.heap.size (by rfl) _ _ (by rfl) _ L (newA NM TX) (by rfl) HO6.out _ 3 _ (by rfl) (by rfl) HK6.out hLl (by omega) (by omega) (by omega) ?_;intro g7 cap7 w7 ho7 hb7 hg7 hgl7;have HO7:=hide ho7;have HB7:=hide hb7;clear ho7 hb7 hg7 hgl7)
    go_ret
    rw [HE.out]
    exact ⟨⟨_,rfl,ownsRow_mono HO7.out HB0.out.size⟩,HB0.out.trans (((HB.out.trans (B6.out.mono hws)).trans HB7.out).mono HB0.out.size)⟩
end Go.Proofs.YtepdckehokdjlaaGreatDoor
