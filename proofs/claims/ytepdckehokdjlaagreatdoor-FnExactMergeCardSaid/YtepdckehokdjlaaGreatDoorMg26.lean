import Derived.Test.YtepdckehokdjlaaGreatDoorMg25
import Derived.Test.YtepdckehokdjlaaGreatDoorMg19
import Derived.Test.YtepdckehokdjlaaGreatDoorMg10
import Derived.Test.YtepdckehokdjlaaGreatDoorMg21
set_option maxRecDepth 100000
set_option maxHeartbeats 3200000
namespace Go.Proofs.YtepdckehokdjlaaGreatDoor
open Go.RowKit Go.Shelf
theorem buildG_cap {w:World} {B K n cap:Nat} {ao:Option Addr} {l:List SegD} (h:BuildG w B K (.slice ao n cap) l) (h0:0 < l.length):l.length≤cap∧∃ g,ao=some ⟨g,0,none⟩:=by
 obtain ⟨vs,ps,-,-,h2,-,-⟩:=h
 rcases h2.2 with ⟨_,hn⟩ | ⟨g,cap',cur,hv,hB,hC,hle,_,hs,ht⟩
 · omega
 ·
  cases hv
  exact ⟨by omega,g,rfl⟩
theorem whole_no {fs:List FileD} {k:Nat} (hk:k+1 < (segsL fs).length) (h:((segsL fs)[k]'(by omega)).torn=true):wholeB fs=false:=by
 unfold wholeB
 rw [List.all_eq_false]
 refine ⟨(segsL fs)[k]'(by omega),?_,by rw [h];simp⟩
 rw [List.mem_iff_getElem?]
 exact ⟨k,by rw [List.getElem?_dropLast,if_pos (by omega),List.getElem?_eq_getElem]⟩
theorem whole_yes {fs:List FileD} (h:∀ j (hj:j+1 < (segsL fs).length),((segsL fs)[j]'(by omega)).torn=false):wholeB fs=true:=by
 unfold wholeB
 rw [List.all_eq_true]
 intro s hs
 rw [List.mem_iff_getElem?] at hs
 obtain ⟨j,hj⟩:=hs
 rw [List.getElem?_dropLast] at hj
 split at hj
 ·
  rename_i hlt
  rw [List.getElem?_eq_getElem (by omega),Option.some.injEq] at hj
  rw [← hj,h j (by omega)]
  rfl
 · cases hj
theorem soundSegments_any (fs:List FileD) (ao:Option Addr) (cap:Nat) (w:World) (hl:fs.length≤1048576) (hfs:FilesAt w ao fs) (hsz:∀ F ∈ fs,F.name.size≤1048576∧F.text.size≤1048576) (hT:SumTab w) :
  Calls Tryz.prog 87 #[.agg #[.slice ao fs.length cap]] w fun e w' => Below w.heap.size w w' ∧
   ((soundB fs=true∧∃ v,e=.returned (.tuple #[v,.nilIface])∧BuildG w' w.heap.size w.heap.size v (segsL fs)) ∨ (soundB fs=false∧∃ s,e=.returned (.tuple #[.slice none 0 0,.iface 121 (.agg #[.int .i64 1,.string s])]))):=by
 have HF:=hide hfs
 have HS:=hide hsz
 have HT:=hide hT
 have hll:=segsL_len fs
 have HSO:=hide (fun W hW hT => segmentsOf_any fs ao cap W hl hW hsz hT)
 have HAK:=hide (fun W hW => allKept_any fs ao cap W hl hW hsz)
 have HBL:=hide (segsL_bl (fs:=fs))
 clear hfs hsz hT
 obtain ⟨wb,hwb⟩:∃ wb,wb=w.alloc (.cells #[.slice ao fs.length cap] 31):=⟨_,rfl⟩
 have HB0:Hid (Below w.heap.size w wb):=by rw [hwb];exact (Below.refl _ w).alloc (Nat.le_refl _) _
 have hbs:w.heap.size < wb.heap.size:=by rw [hwb];simp
 have hbc:wb.cell? ⟨w.heap.size,0,none⟩=some (.slice ao fs.length cap):=by rw [hwb];exact (cell_of_row _ _ 0 _ _ (0,0) (heap_alloc_new w _)).trans rfl
 cases hok:segsOk fs with
 | false =>
  have HE:Hid (soundB fs=false):=by show _=_;unfold soundB seqsRise;rw [hok];rfl
  rw [hok] at HSO
  clear hok
  go_enter Tryz.func87,Tryz.ntmps87
  go_wp2_with fail
  rw [← hwb]
  clear hwb
  go_wp2_with fail
  refine (HSO.out _ (filesAt_keep HF.out HB0.out) (sumTab_later HB0.out HT.out)).mono ?_
  rintro e w1 ⟨⟨v1,rfl,g1⟩,b1⟩
  obtain ⟨a1,c1,rfl⟩:=buildG_form g1
  have B1:=hide (HB0.out.trans (b1.mono HB0.out.size))
  clear g1 b1
  go_wp2
  go_ret2
  exact ⟨B1.out,.inr ⟨HE.out,_,rfl⟩⟩
 | true =>
  obtain ⟨R,HR⟩:∃ R,Hid (riseI (-1) (seqsOf (segsL fs))=R):=⟨_,hide rfl⟩
  have HSR:=hide (fun v B K W h => seqsRise_any (segsL fs) v B K W hll HBL.out h)
  rw [HR.out] at HSR
  have HE0:Hid (soundB fs=(R && (allKeptD fs && wholeB fs))):=by show _=_;unfold soundB seqsRise;rw [hok,HR.out];rfl
  rw [hok] at HSO
  have h0:0 < (segsL fs).length:=by
   have h5:=hok
   unfold segsOk at h5
   simp only [Bool.and_eq_true,decide_eq_true_eq] at h5
   unfold segsL
   rw [if_pos hok]
   exact h5.2.2
  clear hok
  cases hr:R with
  | false =>
   rw [hr] at HSR HE0
   have HE:Hid (soundB fs=false):=HE0
   clear hr HE0
   go_enter Tryz.func87,Tryz.ntmps87
   go_wp2_with fail
   rw [← hwb]
   clear hwb
   go_wp2_with fail
   refine (HSO.out _ (filesAt_keep HF.out HB0.out) (sumTab_later HB0.out HT.out)).mono ?_
   rintro e w1 ⟨⟨v1,rfl,g1⟩,b1⟩
   obtain ⟨a1,c1,rfl⟩:=buildG_form g1
   have B1:=hide (HB0.out.trans (b1.mono HB0.out.size))
   have G1:=hide g1
   clear g1 b1
   go_wp2_with fail
   refine (HSR.out _ _ _ _ G1.out).mono ?_
   rintro e w2 ⟨rfl,b2⟩
   have B2:=hide (B1.out.trans (b2.mono B1.out.size))
   clear b2
   go_wp2
   go_ret2
   exact ⟨B2.out,.inr ⟨HE.out,_,rfl⟩⟩
  | true =>
   rw [hr] at HSR HE0
   clear hr
   go_enter Tryz.func87,Tryz.ntmps87
   go_wp2_with fail
   rw [← hwb]
   clear hwb
   go_wp2_with fail
   refine (HSO.out _ (filesAt_keep HF.out HB0.out) (sumTab_later HB0.out HT.out)).mono ?_
   rintro e w1 ⟨⟨v1,rfl,g1⟩,b1⟩
   obtain ⟨a1,c1,rfl⟩:=buildG_form g1
   have BB1:=hide b1
   have G1:=hide g1
   clear g1 b1
   go_wp2_with fail
   refine (HSR.out _ _ _ _ G1.out).mono ?_
   rintro e w2 ⟨rfl,b2⟩
   have BB2:=hide (BB1.out.trans (b2.mono BB1.out.size))
   have B2:=hide (HB0.out.trans (BB2.out.mono HB0.out.size))
   have G2:=hide (buildG_mono (buildG_below G1.out b2) HB0.out.size HB0.out.size)
   have hc2:w2.cell? ⟨w.heap.size,0,none⟩=some (.slice ao fs.length cap):=(BB2.out.cell (p:=⟨w.heap.size,0,none⟩) hbs).trans hbc
   clear b2 G1
   cases hak:allKeptD fs with
   | false =>
    rw [hak] at HAK HE0
    have HE:Hid (soundB fs=false):=HE0
    clear hak HE0
    go_wp2_with fail
    refine (HAK.out _ (filesAt_keep HF.out B2.out)).mono ?_
    rintro e w3 ⟨rfl,b3⟩
    have B3:=hide (B2.out.trans (b3.mono B2.out.size))
    clear b3
    go_wp2
    go_ret2
    exact ⟨B3.out,.inr ⟨HE.out,_,rfl⟩⟩
   | true =>
    rw [hak] at HAK HE0
    have HE:Hid (soundB fs=wholeB fs):=HE0
    clear hak HE0
    go_wp2_with fail
    refine (HAK.out _ (filesAt_keep HF.out B2.out)).mono ?_
    rintro e w3 ⟨rfl,b3⟩
    have B3:=hide (B2.out.trans (b3.mono B2.out.size))
    have G3:=hide (buildG_below G2.out b3)
    clear b3 G2
    obtain ⟨hcp,gg,hag⟩:=buildG_cap G3.out h0
    subst hag
    obtain ⟨NL,HNL⟩:∃ n,Hid ((segsL fs).length=n):=⟨_,hide rfl⟩
    have hcN:NL≤c1:=by rw [← HNL.out];exact hcp
    have hN0:0 < NL:=by rw [← HNL.out];exact h0
    have hN1:NL≤100:=by rw [← HNL.out];exact hll
    have hj0:(0:Int)≤(NL:Int) - 1:=by omega
    have hj1:(NL:Int) - 1≤(c1:Int):=by omega
    have hjn:((NL:Int) - 1).toNat=NL - 1:=by omega
    have hjw:IntKind.i64.wrap ((NL:Int) - 1)=(NL:Int) - 1:=by rw [IntKind.wrap_i64];omega
    rw [HNL.out]
    clear hcp
    go_wp2_with fail
    go_loopw [33] (fun ii wr => ∃ (k:Nat),ii=.int .i64 k∧k≤NL - 1∧Hid (∀ j (hj:j < (segsL fs).length),j < k→((segsL fs)[j]'hj).torn=false)∧Hid (Below w3.heap.size w3 wr)) (fun ii _ => NL - 1 - (intOf ii).toNat)
    case atStart => exact ⟨0,rfl,Nat.zero_le _,fun j hj h => absurd h (by omega),Below.refl _ _⟩
    case round =>
     obtain ⟨k,rfl,hk,HK,HB⟩:=hrel
     by_cases hlt:k < NL - 1
     ·
      have hlt':decide ((k:Int) < ((NL - 1:Nat):Int))=true:=by rw [decide_eq_true_eq];omega
      have hi0:(0:Int)≤(k:Int):=by omega
      have hi1:(k:Int) < ((NL - 1:Nat):Int):=by omega
      have hkl:k < (segsL fs).length:=by rw [HNL.out];omega
      obtain ⟨g,hg,hgw,hc0,hc1,⟨a,c,hc2,-⟩,⟨a',c',hc3,-⟩,hc4,hc5,hc6⟩:=buildG_at (buildG_below G3.out HB.out) k hkl
      cases hg
      obtain ⟨F,HFk⟩:∃ F,Hid ((segsL fs)[k]=F):=⟨_,hide rfl⟩
      rw [HFk.out] at hc0 hc1 hc2 hc3 hc4 hc5 hc6
      cases ht:F.torn with
      | true =>
       rw [ht] at hc6
       have HW:Hid (soundB fs=false):=by show _=_;rw [HE.out];exact whole_no (k:=k) (by rw [HNL.out];omega) (by rw [HFk.out];exact ht)
       have hx6:(wr.alloc (.cells #[.int .i64 (F.num:Int),.int .i64 (F.frm:Int),.slice a F.bs.length c,.slice a' F.pls.length c',.int .i64 (F.fin:Int),.bool F.right,.bool true] 158)).cell? ⟨wr.heap.size,6,none⟩=some (.bool true):=(cell_of_row _ _ 6 _ _ (0,0) (heap_alloc_new wr _)).trans rfl
       clear ht
       go_wp2
       go_ret2
       exact ⟨B3.out.trans ((HB.out.alloc HB.out.size _).mono B3.out.size),.inr ⟨HW.out,_,rfl⟩⟩
      | false =>
       rw [ht] at hc6
       have HK1:Hid (∀ j (hj:j < (segsL fs).length),j < k+1→((segsL fs)[j]'hj).torn=false):=by
        intro j hj hjk
        by_cases hje:j < k
        · exact HK.out j hj hje
        ·
         obtain rfl:j=k:=by omega
         rw [HFk.out]
         exact ht
       have hx6:(wr.alloc (.cells #[.int .i64 (F.num:Int),.int .i64 (F.frm:Int),.slice a F.bs.length c,.slice a' F.pls.length c',.int .i64 (F.fin:Int),.bool F.right,.bool false] 158)).cell? ⟨wr.heap.size,6,none⟩=some (.bool false):=(cell_of_row _ _ 6 _ _ (0,0) (heap_alloc_new wr _)).trans rfl
       clear ht
       go_wp2
       go_roundw
       case rel => exact ⟨k+1,by go_num,by omega,HK1,HB.out.alloc HB.out.size _⟩
       case measure => simp [intOf];omega
     ·
      have hlt':decide ((k:Int) < ((NL - 1:Nat):Int))=false:=by rw [decide_eq_false_iff_not];omega
      have HW:Hid (soundB fs=true):=by show _=_;rw [HE.out];exact whole_yes (fun j hj => HK.out j (by omega) (by rw [HNL.out] at hj;omega))
      have HGF:=hide (buildG_below G3.out HB.out)
      rw [HNL.out] at HGF
      go_wp2
      go_ret2
      exact ⟨B3.out.trans (HB.out.mono B3.out.size),.inl ⟨HW.out,_,rfl,HGF.out⟩⟩
end Go.Proofs.YtepdckehokdjlaaGreatDoor
namespace Go.Proofs.YtepdckehokdjlaaGreatDoor
open Go.RowKit
theorem atFrom_some (nm:ByteArray):∀ (fs:List FileD) (k:Nat),decide ((0:Int)≤atFrom nm k fs)=(fileD fs nm).isSome
 | [],k => by unfold atFrom fileD;rfl
 | F :: r,k => by
  unfold atFrom fileD
  by_cases h:(F.name.toList == nm.toList)=true
  ·
   rw [if_pos h,List.find?_cons,h]
   simp
  ·
   rw [if_neg h,List.find?_cons,Bool.eq_false_iff.2 h]
   exact atFrom_some nm r (k+1)
theorem ris_end (s:ByteArray):∀ (l:List (Nat × Nat)) (last:Int) (e i:Nat),e≤s.size→chained s i l→(ris s l last e).2≤s.size
 | [],_,_,_,h,_ => h
 | x :: r,last,e,i,h,hc => by
  by_cases hx:rdOk (s.extract x.1 x.2)=true∧last < rdSeq (s.extract x.1 x.2)
  ·
   rw [ris_more hx.1 hx.2]
   exact ris_end s r _ x.2 x.2 (frB_bounds s i x hc.1).2.2 hc.2
  ·
   rw [ris_no hx]
   exact h
theorem segEnd_le (n:Int) (s:ByteArray):segEnd n s≤s.size:=by
 cases hu:unf s with
 | nil => rw [(seg_none (segRead_nil hu)).2.2.1];exact Nat.zero_le _
 | cons x r =>
  cases hh:hdFrom n (s.extract x.1 x.2) with
  | none => rw [(seg_none (segRead_head hu hh)).2.2.1];exact Nat.zero_le _
  | some f =>
   have hc:=unf_chained s
   rw [hu] at hc
   rw [(seg_some (segRead_some hu hh)).2.2.1]
   exact ris_end s r _ x.2 x.2 (frB_bounds s 0 x hc.1).2.2 hc.2
theorem segsL_rightE {fs:List FileD} {s:SegD} (h:s ∈ segsL fs):s.right=true:=by
 unfold segsL at h
 split at h
 ·
  rename_i hok
  unfold segsOk at hok
  simp only [Bool.and_eq_true] at hok
  unfold allRight at hok
  exact List.all_eq_true.1 hok.2.1 s h
 · exact absurd h List.not_mem_nil
theorem segsL_text {fs:List FileD} {s:SegD} (h:s ∈ segsL fs):∃ F ∈ fs,fileD fs (segNm (s.num:Int))=some F∧segEnd (s.num:Int) F.text=s.fin∧s.fin≤F.text.size∧(s.torn=true ↔ s.fin ≠ F.text.size):=by
 obtain ⟨-,-,F,hF1,hF2,hF3⟩:=segsTo_mem (segsL_mem h)
 have hr:=segsL_rightE h
 have e1:segEnd (s.num:Int) F.text=s.fin:=by
  conv => rhs;rw [hF2]
  rfl
 have e2:s.torn=segTorn (s.num:Int) F.text:=by
  conv => lhs;rw [hF2]
  rfl
 have e3:segOk (s.num:Int) F.text=true:=by
  rw [← hr];conv => rhs;rw [hF2]
  rfl
 have hle:=segEnd_le (s.num:Int) F.text
 rw [e1] at hle
 refine ⟨F,hF1,hF3,e1,hle,?_⟩
 rw [e2]
 unfold segTorn
 rw [e3,e1]
 simp only [Bool.true_and,decide_eq_true_eq]
 omega
def actsW (fs:List FileD):List ActD:=if wholeB fs then actsS fs else []
theorem actsW_yes {fs:List FileD} (h:wholeB fs=true):actsW fs=actsS fs:=by unfold actsW;rw [h];rfl
theorem actsW_no {fs:List FileD} (h:wholeB fs=false):actsW fs=[]:=by unfold actsW;rw [h];rfl
def drop0 (fs:List FileD):List ActD:=if (fileD fs nmNew).isSome then [dropA nmNew] else []
def dropsB (m:Nat) (fs:List FileD):List ActD:=(fs.filter fun F => isBelow m F.name).map fun F => dropA F.name
theorem dropsB_yes {m:Nat} {fs:List FileD} {F:FileD} (h:isBelow m F.name=true):dropsB m (fs ++ [F])=dropsB m fs ++ [dropA F.name]:=by simp [dropsB,h]
theorem dropsB_no {m:Nat} {fs:List FileD} {F:FileD} (h:isBelow m F.name=false):dropsB m (fs ++ [F])=dropsB m fs:=by simp [dropsB,h]
theorem dropsB_len (m:Nat) (fs:List FileD):(dropsB m fs).length≤fs.length:=by
 unfold dropsB
 rw [List.length_map]
 exact List.length_filter_le _ _
theorem drop0_len (fs:List FileD):(drop0 fs).length≤1:=by
 unfold drop0
 split
 · exact Nat.le_refl _
 · exact Nat.zero_le _
theorem l08Acts_any (fs:List FileD) (ao:Option Addr) (cap:Nat) (a1:Option Addr) (c1 NL B:Nat) (w:World) (hl:fs.length≤1000000) (hfs:FilesAt w ao fs) (hsz:∀ F ∈ fs,F.name.size≤1048576∧F.text.size≤1048576)
  (hNL:(segsL fs).length=NL) (h0:0 < NL) (hrow:w.ownsRow B 3 1 (.slice a1 NL c1) NL (((segsL fs).map SegD.num).map iv)) :
  Calls Tryz.prog 53 #[.agg #[.slice ao fs.length cap],.slice a1 NL c1] w fun e w' => (∃ v,e=.returned (.tuple #[v,.bool (wholeB fs)])∧w'.ownsRow w.heap.size 51 4 v (actsW fs).length (cellsAct (actsW fs)))∧Below w.heap.size w w':=by
 have HF:=hide hfs
 have HS:=hide hsz
 have G1:=hide hrow
 have HNL:=hide hNL
 have hN1:NL≤100:=by rw [← hNL];exact segsL_len fs
 clear hfs hsz hrow hNL
 obtain ⟨wb,hwb⟩:∃ wb,wb=(w.alloc (.cells #[.slice ao fs.length cap] 31)).alloc (.cells #[] 51):=⟨_,rfl⟩
 have HB0:Hid (Below w.heap.size w wb):=by rw [hwb];exact ((Below.refl _ w).alloc (Nat.le_refl _) _).alloc (by simp) _
 have hbs:wb.heap.size=w.heap.size+2:=by rw [hwb];simp
 have HBC:Hid (wb.heap[w.heap.size]? = some (.cells #[.slice ao fs.length cap] 31 (0,0))):=by
  show _=_
  rw [hwb]
  exact (Below.heap_alloc _ _ _ (by simp)).trans (heap_alloc_new w _)
 have HO0:Hid (wb.ownsRow (w.heap.size+1) 51 4 (.slice (some ⟨w.heap.size+1,0,none⟩) 0 0) 0 []):=by
  rw [hwb]
  have:=World.ownsRow_lit (e:=51) (size:=4) (w.alloc (.cells #[.slice ao fs.length cap] 31)) #[] 0 (Nat.le_refl _) (by unfold maxLen;omega) (by simp)
  show World.ownsRow _ _ _ _ _ _ _
  simpa using this
 have hbc:wb.cell? ⟨w.heap.size,0,none⟩=some (.slice ao fs.length cap):=(cell_of_row _ _ 0 _ _ (0,0) HBC.out).trans rfl
 obtain ⟨KN,HKN⟩:∃ k,Hid (atFrom nmNew 0 fs=k):=⟨_,hide rfl⟩
 have HKS:=hide (atFrom_some nmNew fs 0)
 rw [HKN.out] at HKS
 have HL3:=hide (fun W hW => l03At_any fs ao cap nmNew W (by omega) hW)
 rw [HKN.out] at HL3
 go_enter Tryz.func53,Tryz.ntmps53
 go_wp2_with fail
 rw [← hwb]
 clear hwb
 refine (HL3.out _ (filesAt_keep HF.out HB0.out)).mono ?_
 rintro e w1 ⟨rfl,b1⟩
 have B1:=hide b1
 have hw1:wb.heap.size≤w1.heap.size:=b1.size
 have hbc1:w1.cell? ⟨w.heap.size,0,none⟩=some (.slice ao fs.length cap):=(b1.cell (p:=⟨w.heap.size,0,none⟩) (by show w.heap.size < _;omega)).trans hbc
 have O1:=hide (ownsRow_below HO0.out b1)
 clear b1
 go_upto_if 20 with fail
 go_cut [6] from 17 (fun v6 wx => Hid (wx.ownsRow (w.heap.size+1) 51 4 v6 (drop0 fs).length (cellsAct (drop0 fs)))∧Hid (Below (w.heap.size+1) wb wx))
 case first =>
  cases hn:(fileD fs nmNew).isSome with
  | true =>
   have hk':decide ((0:Int)≤KN)=true:=by rw [HKS.out];exact hn
   have hk0:(0:Int)≤KN:=by simpa using hk'
   have HE:Hid (drop0 fs=[dropA nmNew]):=by show _=_;unfold drop0;rw [hn];rfl
   go_wp2_with (at_builtin;refine app_act _ (w.heap.size+1) (by rfl) _ _ (by rfl) _ [] (dropA nmNew) (by rfl) (O1.out.alloc _) w1.heap.size (by rfl) (heap_alloc_new w1 _) (by simp) (by simp;omega) ?_;intro g5 cap5 w5 ho5 hb5 hg5 hgl5;have HO5:=hide ho5;have HB5:=hide hb5;clear ho5 hb5 hg5 hgl5)
   go_meet
   exact ⟨by show World.ownsRow _ _ _ _ _ _ _;rw [HE.out];exact HO5.out,((B1.out.mono (by omega)).alloc (by omega) _).trans HB5.out⟩
  | false =>
   have hk':decide ((0:Int)≤KN)=false:=by rw [HKS.out];exact hn
   have hk0:KN < 0:=by rw [decide_eq_false_iff_not] at hk';omega
   have HE:Hid (drop0 fs=[]):=by show _=_;unfold drop0;rw [hn];rfl
   go_wp2
   go_meet
   exact ⟨by show World.ownsRow _ _ _ _ _ _ _;rw [HE.out];exact O1.out,B1.out.mono (by omega)⟩
 case rest =>
  obtain ⟨O2,B2⟩:=hcut
  obtain ⟨m,HM⟩:∃ m,Hid (firstG fs=m):=⟨_,hide rfl⟩
  have h0l:0 < (segsL fs).length:=by rw [HNL.out];exact h0
  have hm0:Hid ((segsL fs)[0].num=m):=by
   show _=_
   rw [← HM.out]
   unfold firstG
   rw [List.head?_eq_getElem?,List.getElem?_eq_getElem h0l]
   rfl
  have hm1:m≤100:=by
   have:=(segsTo_mem (segsL_mem (fs:=fs) (s:=(segsL fs)[0]) (List.getElem_mem h0l))).1
   have:=hm0.out
   omega
  obtain ⟨g0,hg0,hgw0,hz0⟩:=num_cell G1.out 0 h0 m (by rw [List.getElem?_map,List.getElem?_eq_getElem h0l,Option.map_some,hm0.out])
  subst hg0
  have HZ0:=hide hz0
  have hi3:(0:Int) < (NL:Int):=by omega
  clear hz0 HL3 HKN HKS O1 B1 hbc1 hbc HO0 hm0
  go_wp2_with fail
  go_loopg [6,7] fs.length (fun gg vo ii wr => ∃ k:Nat,k+gg=fs.length∧ii=.int .i64 k∧k≤fs.length∧Hid (wr.ownsRow (w.heap.size+1) 51 4 vo (drop0 fs ++ dropsB m (fs.take k)).length (cellsAct (drop0 fs ++ dropsB m (fs.take k))))∧Hid (Below (w.heap.size+1) wb wr))
  case atStart => exact ⟨0,by omega,rfl,Nat.zero_le _,by show World.ownsRow _ _ _ _ _ _ _;rw [List.take_zero,show dropsB m []=[] from rfl,List.append_nil];exact O2.out,B2⟩
  case round =>
   obtain ⟨k,hkg,rfl,hk,HO,HB⟩:=hrel
   have hws:=HB.out.size
   have HBw:Hid (Below w.heap.size w wr):=HB0.out.trans (HB.out.mono (by omega))
   have hbcr:wr.cell? ⟨w.heap.size,0,none⟩=some (.slice ao fs.length cap):=(cell_of_row _ _ 0 _ _ (0,0) ((HB.out.block _ (by omega)).trans HBC.out)).trans rfl
   cases gk with
   | zero =>
    have hlt':decide ((k:Int) < (fs.length:Int))=false:=by rw [decide_eq_false_iff_not];omega
    have hltn:decide (k < fs.length)=false:=by rw [decide_eq_false_iff_not];omega
    rw [List.take_of_length_le (by omega)] at HO
    obtain ⟨D1,HD1⟩:∃ L,Hid (drop0 fs ++ dropsB m fs=L):=⟨_,hide rfl⟩
    have hDl:D1.length≤1048570:=by
     rw [← HD1.out,List.length_append]
     have h1:=dropsB_len m fs
     have h2:=drop0_len fs
     omega
    have HAS:Hid (actsS fs=D1 ++ mendA fs):=by show _=_;rw [← HD1.out];unfold actsS dropsS;rw [HM.out];rfl
    rw [HD1.out] at HO
    obtain ⟨wO,hwO⟩:∃ wO,wO=wr:=⟨_,rfl⟩
    subst hwO
    clear O2 B2
    go_wp2_with fail
    clear hlt' hltn
    go_loopg [6,9] NL (fun g2 vo ii wy => ∃ k:Nat,k+g2=NL∧ii=.int .i64 k∧k≤NL∧Hid (∀ j (hj:j < (segsL fs).length),j < k→j+1 < NL→((segsL fs)[j]'hj).torn=false)∧Hid (wy.ownsRow (w.heap.size+1) 51 4 vo (D1 ++ (if k=NL then mendA fs else [])).length (cellsAct (D1 ++ (if k=NL then mendA fs else []))))∧Hid (Below (w.heap.size+1) wb wy))
    case atStart => exact ⟨0,by omega,rfl,Nat.zero_le _,fun j _ h => absurd h (by omega),by show World.ownsRow _ _ _ _ _ _ _;rw [if_neg (by omega),List.append_nil];exact HO.out,HB⟩
    case round =>
     clear HO hbcr HBw HB hws
     obtain ⟨q,hqg,rfl,hq,HK,HO,HB⟩:=hrel
     have hws:=HB.out.size
     have HBw:Hid (Below w.heap.size w wr):=HB0.out.trans (HB.out.mono (by omega))
     have hbcr:wr.cell? ⟨w.heap.size,0,none⟩=some (.slice ao fs.length cap):=(cell_of_row _ _ 0 _ _ (0,0) ((HB.out.block _ (by omega)).trans HBC.out)).trans rfl
     cases gk with
     | zero =>
      have hlt':decide ((q:Int) < (NL:Int))=false:=by rw [decide_eq_false_iff_not];omega
      have hltn:decide (q < NL)=false:=by rw [decide_eq_false_iff_not];omega
      rw [if_pos (by omega),← HAS.out] at HO
      have HW:Hid (wholeB fs=true):=whole_yes (fun j hj => HK.out j (by omega) (by rw [HNL.out] at hj;omega) (by rw [HNL.out] at hj;omega))
      go_wp2
      go_ret2
      rw [HW.out,actsW_yes HW.out]
      exact ⟨⟨_,rfl,ownsRow_mono HO.out (by omega)⟩,HBw.out⟩
     | succ g2 =>
      have hlt:q < (segsL fs).length:=by rw [HNL.out];omega
      have hlt':decide ((q:Int) < (NL:Int))=true:=by rw [decide_eq_true_eq];omega
      have hltn:decide (q < NL)=true:=by rw [decide_eq_true_eq];omega
      have hi0:(0:Int)≤(q:Int):=by omega
      have hi1:(q:Int) < (NL:Int):=by omega
      rw [if_neg (by omega),List.append_nil] at HO
      obtain ⟨F,hF1,hF2,hF3,hF4,hF5⟩:=segsL_text (List.getElem_mem hlt)
      obtain ⟨g,hg,hgw,hc1⟩:=num_cell (ownsRow_below G1.out HBw.out) q (by omega) (segsL fs)[q].num (by rw [List.getElem?_map,List.getElem?_eq_getElem hlt];rfl)
      cases hg
      obtain ⟨Z,HZ⟩:∃ Z,Hid ((segsL fs)[q]=Z):=⟨_,hide rfl⟩
      rw [HZ.out] at hF2 hF3 hF4 hF5 hc1
      have HFS:=(HS.out F hF1).2
      obtain ⟨NM,HNM⟩:∃ NM,Hid (segNm (Z.num:Int)=NM):=⟨_,hide rfl⟩
      have HN:Hid (∀ W:World,Calls Tryz.prog 38 #[.int .i64 (Z.num:Int)] W fun e w' => e=.returned (.string NM)∧Below W.heap.size W w'):=fun W => by rw [← HNM.out];exact specSegName_any (Z.num:Int) W
      have HFD:=hide hF2
      rw [HNM.out] at hF2
      have HRS:=hide (fun W => specReadSegment_any (Z.num:Int) F.text W HFS)
      unfold SegLeft at HRS
      rw [hF3] at HRS
      generalize segFrom (Z.num:Int) F.text=f0 at HRS
      generalize segBatches (Z.num:Int) F.text=bs0 at HRS
      generalize segOk (Z.num:Int) F.text=ok0 at HRS
      have HT5:=hide hF5
      have hF2':=hide hF2
      clear hF2 hF3 hF5
      go_wp2_with fail
      refine (HN.out _).mono ?_
      rintro e w3 ⟨rfl,b3⟩
      have B3:=hide (HB.out.trans (b3.mono (by omega)))
      have O3:=hide (ownsRow_below HO.out b3)
      have hbc3:=(b3.cell (p:=⟨w.heap.size,0,none⟩) (by show w.heap.size < _;omega)).trans hbcr
      have hc3:=(b3.cell (p:=⟨g0,q,none⟩) hgw).trans hc1
      have hw3:=b3.size
      have HBw3:Hid (Below w.heap.size w w3):=HBw.out.trans (b3.mono HBw.out.size)
      clear b3
      go_wp2_with fail
      refine (specFileAt_some fs ao cap NM _ F (by omega) (filesAt_keep HF.out HBw3.out) hF2'.out).mono ?_
      rintro e w4 ⟨rfl,b4⟩
      have B4:=hide (B3.out.trans (b4.mono (by omega)))
      have O4:=hide (ownsRow_below O3.out b4)
      have hc4:=(b4.cell (p:=⟨g0,q,none⟩) (by show g0 < _;omega)).trans hc3
      have hw4:=b4.size
      clear b4
      go_wp2_with fail
      refine (HRS.out _).mono ?_
      rintro e w5 ⟨⟨v5,rfl,r5⟩,b5⟩
      obtain ⟨a5,c5,rfl,-⟩:=rowBatch_at r5
      have B5:=hide (B4.out.trans (b5.mono (by omega)))
      have O5:=hide (ownsRow_below O4.out b5)
      have hw5:=b5.size
      clear b5 r5
      have HLG:Hid (q+1=NL→lastG fs=Z):=fun h => by
       unfold lastG
       have e:(segsL fs).length - 1=q:=by rw [HNL.out];omega
       rw [List.getLast?_eq_getElem?,e,List.getElem?_eq_getElem hlt,HZ.out]
       rfl
      by_cases heq:Z.fin=F.text.size
      ·
       have heq':((Z.fin:Int) == (F.text.size:Int))=true:=by rw [beq_iff_eq];omega
       have HTF:Hid (Z.torn=false):=by
        cases ht:Z.torn with
        | false => rfl
        | true => exact absurd heq (HT5.out.1 ht)
       have HK1:Hid (∀ j (hj:j < (segsL fs).length),j < q+1→j+1 < NL→((segsL fs)[j]'hj).torn=false):=by
        intro j hj h1 h2
        by_cases hjq:j < q
        · exact HK.out j hj hjq h2
        ·
         obtain rfl:j=q:=by omega
         rw [HZ.out]
         exact HTF.out
       have HME:Hid ((if q+1=NL then mendA fs else [])=[]):=by
        show _=_
        split
        ·
         rename_i h
         unfold mendA
         rw [HLG.out h,HTF.out]
         rfl
        · rfl
       go_wp2_with fail
       go_roundg g2
       case measure => omega
       case rel => exact ⟨q+1,by omega,by go_num,by omega,HK1,by show World.ownsRow _ _ _ _ _ _ _;rw [HME.out,List.append_nil];exact O5.out,B5⟩
      ·
       have heq':((Z.fin:Int) == (F.text.size:Int))=false:=by rw [beq_eq_false_iff_ne];omega
       have HTT:=hide (HT5.out.2 heq)
       by_cases hlast:q+1 < NL
       ·
        have hl':decide ((q:Int)+1 < (NL:Int))=true:=by rw [decide_eq_true_eq];omega
        have HW:Hid (wholeB fs=false):=whole_no (k:=q) (by rw [HNL.out];exact hlast) (by rw [HZ.out];exact HTT.out)
        have HB5w:Hid (Below w.heap.size w w5):=HB0.out.trans (B5.out.mono (by omega))
        have HLT:Hid ((w5.alloc (.cells #[] 51)).ownsRow w.heap.size 51 4 (.slice (some ⟨w5.heap.size,0,none⟩) 0 0) 0 []):=by
         have:=World.ownsRow_lit (e:=51) (size:=4) (base:=w.heap.size) w5 #[] 0 (by have:=HB5w.out.size;omega) (by unfold maxLen;omega) (by simp)
         show World.ownsRow _ _ _ _ _ _ _
         simpa using this
        go_wp2
        go_ret2
        rw [HW.out,actsW_no HW.out]
        exact ⟨⟨_,rfl,HLT.out⟩,HB5w.out.alloc HB5w.out.size _⟩
       ·
        have hl':decide ((q:Int)+1 < (NL:Int))=false:=by rw [decide_eq_false_iff_not];omega
        obtain ⟨TX,HTX⟩:∃ T,Hid (F.text.extract 0 Z.fin=T):=⟨_,hide rfl⟩
        have hcut:∀ W:World,(Instr.slice 9 (.string F.text) none (some (.int .i64 (Z.fin:Int))) none).run Tryz.prog W=.ok (.string TX) W:=by
         intro W
         rw [run_slice_string_to_if W 9 F.text .i64 (Z.fin:Int) Tryz.underlying9,if_pos (by omega),Int.toNat_natCast,HTX.out]
        have HME:Hid ((if q+1=NL then mendA fs else [])=newA NM TX):=by
         show _=_
         rw [if_pos (by omega)]
         unfold mendA
         rw [HLG.out (by omega),HTT.out,HFD.out,HNM.out]
         simp only [Option.map_some,Option.getD_some,if_true,HTX.out]
        have HK1:Hid (∀ j (hj:j < (segsL fs).length),j < q+1→j+1 < NL→((segsL fs)[j]'hj).torn=false):=fun j hj h1 h2 => HK.out j hj (by omega) h2
        go_wp2_with (at_builtin;refine app_acts _ (w.heap.size+1) (by rfl) _ _ (by rfl) _ D1 (newA NM TX) (by rfl) (O5.out.alloc _) w5.heap.size 3 (by rfl) (by rfl) (heap_alloc_new w5 _) (by omega) (by omega) (by omega) (by simp;omega) ?_;intro g7 cap7 w7 ho7 hb7 hg7 hgl7;have HO7:=hide ho7;have HB7:=hide hb7;clear ho7 hb7 hg7 hgl7)
        go_roundg g2
        case measure => omega
        case rel => exact ⟨q+1,by omega,by go_num,by omega,HK1,by show World.ownsRow _ _ _ _ _ _ _;rw [HME.out];exact HO7.out,(B5.out.alloc (by omega) _).trans HB7.out⟩
   | succ gg =>
    have hlt:k < fs.length:=by omega
    have hlt':decide ((k:Int) < (fs.length:Int))=true:=by rw [decide_eq_true_eq];omega
    have hltn:decide (k < fs.length)=true:=by rw [decide_eq_true_eq];omega
    have hi0:(0:Int)≤(k:Int):=by omega
    have hi1:(k:Int) < (fs.length:Int):=by omega
    obtain ⟨b,off,hab,hbw,hc0,hc1,hc2⟩:=filesAt_keep HF.out HBw.out k hlt
    have HX:=HS.out fs[k] (List.getElem_mem hlt)
    have htk:=hide (List.take_succ_eq_append_getElem hlt)
    generalize fs[k]=F at hc0 hc1 hc2 HX htk
    subst hab
    obtain ⟨L,HL⟩:∃ L,Hid (drop0 fs ++ dropsB m (fs.take k)=L):=⟨_,hide rfl⟩
    have hLl:L.length≤1048576:=by
     rw [← HL.out,List.length_append]
     have h1:=dropsB_len m (fs.take k)
     have h2:=drop0_len fs
     rw [List.length_take] at h1
     omega
    rw [HL.out] at HO
    obtain ⟨NU,HNU⟩:∃ n,Hid (numOf F.name=n):=⟨_,hide rfl⟩
    have HLN:=hide (fun W => l06Number_any F.name W HX.1)
    rw [HNU.out] at HLN
    have HIB:=hide (numOf_in hm1 F.name)
    rw [HNU.out] at HIB
    go_wp2_with fail
    refine (HLN.out _).mono ?_
    rintro e w3 ⟨rfl,b3⟩
    have B3:=hide b3
    have hw3:=b3.size
    have hc03:=(b3.cell (p:=⟨b,off+k * 3,none⟩) hbw).trans hc0
    have hbc3:=(b3.cell (p:=⟨w.heap.size,0,none⟩) (by show w.heap.size < _;omega)).trans hbcr
    have hz3:w3.cell? ⟨g0,0,none⟩=some (.int .i64 (m:Int)):=((HBw.out.trans (b3.mono HBw.out.size)).cell (p:=⟨g0,0,none⟩) hgw0).trans HZ0.out
    have HO3:=hide (ownsRow_below HO.out b3)
    clear b3
    by_cases hn0:NU < 0
    ·
     have hn0':decide ((0:Int)≤NU)=false:=by rw [decide_eq_false_iff_not];omega
     have HBO:Hid (isBelow m F.name=false):=by show _=_;rw [← HIB.out,hn0'];rfl
     go_wp2
     go_roundg gg
     case measure => omega
     case rel => exact ⟨k+1,by omega,by go_num,by omega,by show World.ownsRow _ _ _ _ _ _ _;rw [htk.out,dropsB_no HBO.out,HL.out];exact HO3.out,HB.out.trans (B3.out.mono (by omega))⟩
    ·
     have hn0':decide ((0:Int)≤NU)=true:=by rw [decide_eq_true_eq];omega
     by_cases hnm:NU < (m:Int)
     ·
      have hnm':decide (NU < (m:Int))=true:=by rw [decide_eq_true_eq];omega
      have HBO:Hid (isBelow m F.name=true):=by show _=_;rw [← HIB.out,hn0',hnm'];rfl
      go_wp2_with (at_builtin;refine app_act _ (w.heap.size+1) (by rfl) _ _ (by rfl) _ L (dropA F.name) (by rfl) (HO3.out.alloc _) w3.heap.size (by rfl) (heap_alloc_new w3 _) hLl (by simp;omega) ?_;intro g5 cap5 w5 ho5 hb5 hg5 hgl5;have HO5:=hide ho5;have HB5:=hide hb5;clear ho5 hb5 hg5 hgl5)
      go_roundg gg
      case measure => omega
      case rel => exact ⟨k+1,by omega,by go_num,by omega,by show World.ownsRow _ _ _ _ _ _ _;rw [htk.out,dropsB_yes HBO.out,← List.append_assoc,HL.out];exact HO5.out,((HB.out.trans (B3.out.mono (by omega))).alloc (by omega) _).trans HB5.out⟩
     ·
      have hnm':decide (NU < (m:Int))=false:=by rw [decide_eq_false_iff_not];omega
      have HBO:Hid (isBelow m F.name=false):=by show _=_;rw [← HIB.out,hn0',hnm'];rfl
      go_wp2
      go_roundg gg
      case measure => omega
      case rel => exact ⟨k+1,by omega,by go_num,by omega,by show World.ownsRow _ _ _ _ _ _ _;rw [htk.out,dropsB_no HBO.out,HL.out];exact HO3.out,HB.out.trans (B3.out.mono (by omega))⟩
end Go.Proofs.YtepdckehokdjlaaGreatDoor
