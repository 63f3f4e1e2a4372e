import Derived.Test.YtbenmgokhklnjaaGreatDoorProg
import Derived.Conc.RwLib
import Derived.Conc.MuData
import Derived.KernelRfl
import Derived.Conc.MuLone
import Derived.Test.YtbenmgokhklnjaaGreatDoorTb5
import Derived.Test.YtbenmgokhklnjaaGreatDoorTb15
import Derived.Test.YtbenmgokhklnjaaGreatDoorTb29
import Derived.Test.YtbenmgokhklnjaaGreatDoorTb17
import Derived.Test.YtbenmgokhklnjaaGreatDoorTb6
import Derived.Test.YtbenmgokhklnjaaGreatDoorTb0
set_option maxRecDepth 100000
set_option maxHeartbeats 1600000
namespace Go.Proofs.YtbenmgokhklnjaaGreatDoor
open Go.RowKit
def recAt (fs:List FileD) (seg pos:Int):Option ByteArray :=
 match fileD fs (segNm seg) with
 | none => none
 | some F => if 0≤pos∧pos≤F.text.size then
   match unf (F.text.extract pos.toNat F.text.size) with
   | [] => none
   | x :: _ => some ((F.text.extract pos.toNat F.text.size).extract x.1 x.2)
  else none
def batSeq (o:Option ByteArray):Int:=(o.map rdSeq).getD 0
def batOk (o:Option ByteArray):Bool:=(o.map rdOk).getD false
def batChs (o:Option ByteArray):List ChangeD:=(o.map rdChanges).getD []
theorem recAt_none {fs:List FileD} {seg pos:Int} (h:fileD fs (segNm seg)=none):recAt fs seg pos=none:=by unfold recAt;rw [h]
theorem recAt_out {fs:List FileD} {seg pos:Int} {F:FileD} (h:fileD fs (segNm seg)=some F) (hp:¬ (0≤pos∧pos≤F.text.size)):recAt fs seg pos=none:=by
 unfold recAt;rw [h];simp only [];rw [if_neg hp]
theorem recAt_nil {fs:List FileD} {seg:Int} {p:Nat} {F:FileD} {T:ByteArray} (h:fileD fs (segNm seg)=some F) (hp:p≤F.text.size) (hT:F.text.extract p F.text.size=T) (hu:unf T=[]):recAt fs seg (p:Int)=none:=by
 unfold recAt;rw [h];simp only [];rw [if_pos ⟨by omega,by omega⟩,Int.toNat_natCast,hT,hu]
theorem recAt_some {fs:List FileD} {seg:Int} {p:Nat} {F:FileD} {T:ByteArray} {x:Nat × Nat} {r:List (Nat × Nat)} (h:fileD fs (segNm seg)=some F) (hp:p≤F.text.size) (hT:F.text.extract p F.text.size=T) (hu:unf T=x :: r):recAt fs seg (p:Int)=some (T.extract x.1 x.2):=by
 unfold recAt;rw [h];simp only [];rw [if_pos ⟨by omega,by omega⟩,Int.toNat_natCast,hT,hu]
theorem two_cells {wb W:World} {g:Nat} {x y:Value} {t:Nat} (h:wb.heap[g]? = some (.cells #[x,y] t (0,0))) (hb:Below wb.heap.size wb W) :
  W.heap[g]? = some (.cells #[x,y] t (0,0)):=(hb.block g (heap_lt h)).trans h
theorem l07Batch_any (fs:List FileD) (ao:Option Addr) (cap:Nat) (seg pos:Int) (w:World) (hl:fs.length≤1048576) (hfs:FilesAt w ao fs) (hsz:∀ F ∈ fs,F.name.size≤1048576∧F.text.size≤1048576) :
  Calls Tryz.prog 57 #[.agg #[.slice ao fs.length cap],.int .i64 seg,.int .i64 pos] w fun e w' => (∃ v,e=.returned (.tuple #[.agg #[.int .i64 (batSeq (recAt fs seg pos)),v],.bool (batOk (recAt fs seg pos))])∧RowChange w' w.heap.size v (batChs (recAt fs seg pos)))∧Below w.heap.size w w':=by
 have HF:=hide hfs
 have HS:=hide hsz
 clear hfs hsz
 obtain ⟨wb,hwb⟩:∃ wb,wb=(w.alloc (.cells #[.slice ao fs.length cap] 34)).alloc (.cells #[.int .i64 0,.slice none 0 0] 109):=⟨_,rfl⟩
 have HB0:Hid (Below w.heap.size w wb):=by rw [hwb];exact ((Below.refl _ w).alloc (Nat.le_refl _) _).alloc (by simp) _
 have hbs2:w.heap.size+2≤wb.heap.size:=by rw [hwb];simp
 have hbs:w.heap.size < wb.heap.size:=by omega
 have hc0:wb.cell? ⟨w.heap.size,0,none⟩=some (.slice ao fs.length cap):=by
  have h1:(w.alloc (.cells #[.slice ao fs.length cap] 34)).cell? ⟨w.heap.size,0,none⟩=some (.slice ao fs.length cap):=(cell_of_row _ _ 0 _ _ (0,0) (heap_alloc_new w _)).trans rfl
  rw [hwb]
  exact ((((Below.refl _ (w.alloc (.cells #[.slice ao fs.length cap] 34))).alloc (Nat.le_refl _) (.cells #[.int .i64 0,.slice none 0 0] 109)).cell (p:=⟨w.heap.size,0,none⟩) (by simp))).trans h1
 have HR0:Hid (wb.heap[w.heap.size+1]? = some (.cells #[.int .i64 0,.slice none 0 0] 109 (0,0))):=by
  show _=_
  rw [hwb,show w.heap.size+1=(w.alloc (.cells #[.slice ao fs.length cap] 34)).heap.size from by simp]
  exact heap_alloc_new _ _
 obtain ⟨NM,HNM⟩:∃ NM,Hid (segNm seg=NM):=⟨_,rfl⟩
 have HN:Hid (∀ W:World,Calls Tryz.prog 84 #[.int .i64 seg] W fun e w' => e=.returned (.string NM)∧Below W.heap.size W w'):=fun W => by rw [← HNM.out];exact specSegName_any seg W
 cases hfd:fileD fs (segNm seg) with
 | none =>
  have HE:=hide (recAt_none (pos:=pos) hfd)
  have HAT:Hid (∀ W,Below wb.heap.size wb W→Calls Tryz.prog 83 #[.agg #[.slice ao fs.length cap],.string NM] W fun e w' => e=.returned (.tuple #[.string ⟨#[]⟩,.bool false])∧Below W.heap.size W w'):=fun W hW => specFileAt_none' fs ao cap NM W hl (filesAt_keep (filesAt_keep HF.out HB0.out) hW) (by rw [← HNM.out];exact hfd)
  clear hfd
  go_enter Tryz.func57,Tryz.ntmps57
  go_wp2_with fail
  rw [← hwb]
  clear hwb
  go_region_held3 (fun w' => w'.cell? ⟨w.heap.size,0,none⟩=some (.slice ao fs.length cap)) (first | go_keep | (exact hc0) | (exact (b1.cell (p:=⟨w.heap.size,0,none⟩) hbs).trans hc0) | (exact ((b1.trans (b2.mono b1.size)).cell (p:=⟨w.heap.size,0,none⟩) hbs).trans hc0)) ((first | (go_at_call 84;refine (HN.out _).mono ?_;rintro e w1 ⟨rfl,b1⟩) | (go_at_call 83;refine (HAT.out _ (by first | exact b1 | exact (Below.refl _ _).drew.trans b1)).mono ?_;rintro e w2 ⟨rfl,b2⟩)))
  have B2:Hid (Below wb.heap.size wb w2):=(Below.refl _ _).drew.trans (b1.trans (b2.mono b1.size))
  clear b1 b2
  have B3:=hide (HB0.out.trans (B2.out.mono HB0.out.size))
  have hr0:w2.cell? ⟨w.heap.size+1,0,none⟩=some (.int .i64 0):=(cell_of_row w2 _ 0 _ _ (0,0) (two_cells HR0.out B2.out)).trans rfl
  have hr1:w2.cell? ⟨w.heap.size+1,1,none⟩=some (.slice none 0 0):=(cell_of_row w2 _ 1 _ _ (0,0) (two_cells HR0.out B2.out)).trans rfl
  have hrf0:=frozen_of_row w2 (w.heap.size+1) 0 _ _ (two_cells HR0.out B2.out)
  have hrf1:=frozen_of_row w2 (w.heap.size+1) 1 _ _ (two_cells HR0.out B2.out)
  go_wp2_with fail
  refine bodyPost_ret (v:=.tuple #[.agg #[.int .i64 0,.slice none 0 0],.bool false]) (by simp [results,Tryz.results57,go_sem,hr0,hr1]) rfl ⟨⟨.slice none 0 0,by rw [HE.out];rfl,by rw [HE.out];exact .inl ⟨rfl,rfl⟩⟩,?_⟩
  exact (B3.out.setCell (p:=⟨w.heap.size+1,0,none⟩) (by simp) _).setCell (p:=⟨w.heap.size+1,1,none⟩) (by simp) _
 | some F =>
  have hFs:=(HS.out F (List.mem_of_find?_eq_some hfd)).2
  have HAT:Hid (∀ W,Below wb.heap.size wb W→Calls Tryz.prog 83 #[.agg #[.slice ao fs.length cap],.string NM] W fun e w' => e=.returned (.tuple #[.string F.text,.bool true])∧Below W.heap.size W w'):=fun W hW => specFileAt_some' fs ao cap NM W F hl (filesAt_keep (filesAt_keep HF.out HB0.out) hW) (by rw [← HNM.out];exact hfd)
  have HFD:=hide hfd
  clear hfd
  go_enter Tryz.func57,Tryz.ntmps57
  go_wp2_with fail
  rw [← hwb]
  clear hwb
  go_region_held3 (fun w' => w'.cell? ⟨w.heap.size,0,none⟩=some (.slice ao fs.length cap)) (first | go_keep | (exact hc0) | (exact (b1.cell (p:=⟨w.heap.size,0,none⟩) hbs).trans hc0) | (exact ((b1.trans (b2.mono b1.size)).cell (p:=⟨w.heap.size,0,none⟩) hbs).trans hc0)) ((first | (go_at_call 84;refine (HN.out _).mono ?_;rintro e w1 ⟨rfl,b1⟩) | (go_at_call 83;refine (HAT.out _ (by first | exact b1 | exact (Below.refl _ _).drew.trans b1)).mono ?_;rintro e w2 ⟨rfl,b2⟩)))
  have B2:Hid (Below wb.heap.size wb w2):=(Below.refl _ _).drew.trans (b1.trans (b2.mono b1.size))
  clear b1 b2
  have B3:=hide (HB0.out.trans (B2.out.mono HB0.out.size))
  have HR2:=hide (two_cells HR0.out B2.out)
  by_cases hp:0≤pos∧pos≤F.text.size
  ·
   obtain ⟨p,rfl⟩:=Int.eq_ofNat_of_zero_le hp.1
   have hp2:p≤F.text.size:=by omega
   obtain ⟨T,hTT⟩:∃ T,F.text.extract p F.text.size=T:=⟨_,rfl⟩
   have hTz:T.size≤1048576:=by rw [← hTT,ByteArray.size_extract];omega
   have hcut:=cut_from F.text p (p:Int) T rfl hp2 hTT
   have HTT:=hide hTT
   clear hTT
   have HU:=hide (fun W => specUnframe_any T W hTz)
   obtain ⟨U,HUU⟩:∃ U,Hid (unf T=U):=⟨_,rfl⟩
   have HCH:Hid (chained T 0 U):=by show chained _ _ _;rw [← HUU.out];exact unf_chained T
   obtain ⟨L,HL⟩:∃ L,Hid (recs T U=L):=⟨_,rfl⟩
   have hUl:U.length≤20001:=by rw [← HUU.out];exact unf_len T
   have hLl:L.length=U.length:=by rw [← HL.out,recs_len]
   obtain ⟨eo,HEO⟩:∃ eo:Int,Hid (((endOf U:Nat):Int)=eo):=⟨_,rfl⟩
   have HUN:Hid (∀ W,Calls Tryz.prog 85 #[.string T] W fun e w' => ∃ v,e=.returned (.tuple #[v,.int .i64 eo])∧w'.ownsRow W.heap.size 9 1 v L.length (L.map sv)∧Below W.heap.size W w'):=by
    intro W
    have h:=HU.out W
    unfold FramesLeft at h
    rw [HUU.out,HL.out,HEO.out] at h
    exact h
   clear HU HEO
   go_wp2_with fail
   refine (l01In_yes _ _ _ _ (by omega) (by omega)).mono ?_
   rintro e w3 ⟨rfl,rfl⟩
   go_wp2_with fail
   refine (HUN.out _).mono ?_
   rintro e w4 ⟨lv,rfl,hown,b4⟩
   have B4:=hide (B2.out.trans (b4.mono B2.out.size))
   have B5:=hide (HB0.out.trans (B4.out.mono HB0.out.size))
   have HO:=hide hown
   clear hown b4 HR2
   cases U with
   | nil =>
    have HE:=hide (recAt_nil (p:=p) HFD.out hp2 HTT.out HUU.out)
    obtain rfl:L=[]:=List.eq_nil_of_length_eq_zero hLl
    obtain ⟨a,c,rfl⟩:=slice_form HO.out
    have hr0:w4.cell? ⟨w.heap.size+1,0,none⟩=some (.int .i64 0):=(cell_of_row w4 _ 0 _ _ (0,0) (two_cells HR0.out B4.out)).trans rfl
    have hr1:w4.cell? ⟨w.heap.size+1,1,none⟩=some (.slice none 0 0):=(cell_of_row w4 _ 1 _ _ (0,0) (two_cells HR0.out B4.out)).trans rfl
    have hrf0:=frozen_of_row w4 (w.heap.size+1) 0 _ _ (two_cells HR0.out B4.out)
    have hrf1:=frozen_of_row w4 (w.heap.size+1) 1 _ _ (two_cells HR0.out B4.out)
    go_wp2_with fail
    refine bodyPost_ret (v:=.tuple #[.agg #[.int .i64 0,.slice none 0 0],.bool false]) (by simp [results,Tryz.results57,go_sem,hr0,hr1]) rfl ⟨⟨.slice none 0 0,by rw [HE.out];rfl,by rw [HE.out];exact .inl ⟨rfl,rfl⟩⟩,?_⟩
    exact (B5.out.setCell (p:=⟨w.heap.size+1,0,none⟩) (by simp) _).setCell (p:=⟨w.heap.size+1,1,none⟩) (by simp) _
   | cons x0 r =>
    have HE:=hide (recAt_some (p:=p) HFD.out hp2 HTT.out HUU.out)
    have hx0:=chained_get HCH.out x0 (List.mem_cons_self ..)
    obtain ⟨T0,HT0⟩:∃ T0,Hid (T.extract x0.1 x0.2=T0):=⟨_,rfl⟩
    rw [HT0.out] at hx0 HE
    have hg0:L[0]? = some T0.data.toList:=by rw [← HL.out,recs_get T (x0 :: r) 0 x0 rfl,HT0.out]
    have hL1:1≤L.length:=by rw [hLl];simp
    have hz:((L.length:Int) == 0)=false:=by rw [beq_eq_false_iff_ne];omega
    obtain ⟨g,cap,hlv⟩:∃ g cap,lv=.slice (some ⟨g,0,none⟩) L.length cap:=by
     rcases HO.out.2 with ⟨-,h⟩ | ⟨g,cap,cur,h,_⟩
     · omega
     · exact ⟨g,cap,h⟩
    subst hlv
    have hcell:=str_cell HO.out 0 (by omega) _ hg0
    rw [data_back] at hcell
    clear hg0
    have HRB:=hide (fun W => specReadBatch_any T0 W (by omega))
    obtain ⟨q,HQ⟩:∃ q,Hid (rdSeq T0=q):=⟨_,rfl⟩
    obtain ⟨ok,HOK⟩:∃ q,Hid (rdOk T0=q):=⟨_,rfl⟩
    obtain ⟨cs,HCS⟩:∃ q,Hid (rdChanges T0=q):=⟨_,rfl⟩
    rw [HQ.out,HOK.out,HCS.out] at HRB
    go_wp2_with fail
    refine (HRB.out _).mono ?_
    rintro e w6 ⟨⟨v6,rfl,r6⟩,b6⟩
    have B6:=hide (B4.out.trans (b6.mono B4.out.size))
    have B7:=hide (HB0.out.trans (B6.out.mono HB0.out.size))
    have h4:wb.heap.size≤w4.heap.size:=B4.out.size
    have R6:=hide r6
    clear r6 b6 hcell
    have hr0:w6.cell? ⟨w.heap.size+1,0,none⟩=some (.int .i64 0):=(cell_of_row w6 _ 0 _ _ (0,0) (two_cells HR0.out B6.out)).trans rfl
    have hr1:w6.cell? ⟨w.heap.size+1,1,none⟩=some (.slice none 0 0):=(cell_of_row w6 _ 1 _ _ (0,0) (two_cells HR0.out B6.out)).trans rfl
    have hrf0:=frozen_of_row w6 (w.heap.size+1) 0 _ _ (two_cells HR0.out B6.out)
    have hrf1:=frozen_of_row w6 (w.heap.size+1) 1 _ _ (two_cells HR0.out B6.out)
    obtain ⟨a6,c6,rfl,-⟩:=rowChange_at R6.out
    go_wp2_with fail
    refine bodyPost_ret (v:=.tuple #[.agg #[.int .i64 q,.slice a6 cs.length c6],.bool ok]) (by simp [results,Tryz.results57,go_sem,hr0,hr1]) rfl ⟨⟨.slice a6 cs.length c6,by rw [HE.out];show _=Ending.returned (.tuple #[.agg #[.int .i64 (rdSeq T0),_],.bool (rdOk T0)]);rw [HQ.out,HOK.out],?_⟩,?_⟩
    ·
     rw [HE.out]
     show RowChange _ _ _ (rdChanges T0)
     rw [HCS.out]
     exact rowChange_le (rowChange_grown R6.out (grownBy_store (grownBy_store (World.grownBy.refl _ _) 0 _) 1 _) (fun g hg => by have:=(rowChange_lt R6.out g hg).1;simp;omega)) (by omega)
    · exact (B7.out.setCell (p:=⟨w.heap.size+1,0,none⟩) (by simp) _).setCell (p:=⟨w.heap.size+1,1,none⟩) (by simp) _
  ·
   have HE:=hide (recAt_out HFD.out hp)
   have hpo:pos < 0 ∨ (F.text.size:Int) < pos:=by omega
   clear hp
   go_wp2_with fail
   refine (l01In_no _ _ _ _ hpo).mono ?_
   rintro e w3 ⟨rfl,rfl⟩
   have hr0:w3.cell? ⟨w.heap.size+1,0,none⟩=some (.int .i64 0):=(cell_of_row w3 _ 0 _ _ (0,0) HR2.out).trans rfl
   have hr1:w3.cell? ⟨w.heap.size+1,1,none⟩=some (.slice none 0 0):=(cell_of_row w3 _ 1 _ _ (0,0) HR2.out).trans rfl
   have hrf0:=frozen_of_row w3 (w.heap.size+1) 0 _ _ HR2.out
   have hrf1:=frozen_of_row w3 (w.heap.size+1) 1 _ _ HR2.out
   go_wp2_with fail
   refine bodyPost_ret (v:=.tuple #[.agg #[.int .i64 0,.slice none 0 0],.bool false]) (by simp [results,Tryz.results57,go_sem,hr0,hr1]) rfl ⟨⟨.slice none 0 0,by rw [HE.out];rfl,by rw [HE.out];exact .inl ⟨rfl,rfl⟩⟩,?_⟩
   exact (B3.out.setCell (p:=⟨w.heap.size+1,0,none⟩) (by simp) _).setCell (p:=⟨w.heap.size+1,1,none⟩) (by simp) _
def valIn (key:ByteArray):List ChangeD→Option ByteArray
 | [] => none
 | A :: r => if A.key=key∧A.gone=false then some A.value else valIn key r
def valRight (fs:List FileD) (s:SpotD):Bool:=diskOkD fs && (batOk (recAt fs s.seg s.pos) && decide (batSeq (recAt fs s.seg s.pos)=s.seq))
def valD (fs:List FileD) (s:SpotD):Option ByteArray:=if valRight fs s=true then valIn s.key (batChs (recAt fs s.seg s.pos)) else none
def outTx:Option ByteArray→ByteArray
 | none => ⟨#[]⟩
 | some t => t
theorem valD_disk {fs:List FileD} {s:SpotD} (h:diskOkD fs=false):valD fs s=none:=by unfold valD valRight;rw [h];rfl
theorem valD_ok {fs:List FileD} {s:SpotD} (h:batOk (recAt fs s.seg s.pos)=false):valD fs s=none:=by unfold valD valRight;rw [h];simp
theorem valD_seq {fs:List FileD} {s:SpotD} (h:batSeq (recAt fs s.seg s.pos) ≠ s.seq):valD fs s=none:=by unfold valD valRight;simp [h]
theorem valD_in {fs:List FileD} {s:SpotD} (h1:diskOkD fs=true) (h2:batOk (recAt fs s.seg s.pos)=true) (h3:batSeq (recAt fs s.seg s.pos)=s.seq):valD fs s=valIn s.key (batChs (recAt fs s.seg s.pos)):=by unfold valD valRight;rw [h1,h2,h3];simp
theorem batChs_len (r:Option ByteArray):(batChs r).length≤40:=by
 cases r with
 | none => exact Nat.zero_le _
 | some t =>
  show (rdChanges t).length≤40
  cases h:rdOk t with
  | false => simp [rdChanges,h]
  | true =>
   have h1:=(rd_text h).1
   unfold textOkD at h1
   simp only [Bool.and_eq_true] at h1
   exact (batchOkD_bounds h1.1).2.2.2
theorem specValueOf_any (fs:List FileD) (ao:Option Addr) (cap:Nat) (s:SpotD) (w:World) (hl:fs.length≤1048576) (hfs:FilesAt w ao fs) (hsz:∀ F ∈ fs,F.name.size≤1048576∧F.text.size≤1048576) :
  Calls Tryz.prog 34 #[.agg #[.slice ao fs.length cap],.agg #[.string s.key,.int .i64 s.seg,.int .i64 s.pos,.int .i64 s.seq]] w fun e w' => e=.returned (.tuple #[.string (outTx (valD fs s)),.bool (valD fs s).isSome])∧Below w.heap.size w w':=by
 obtain ⟨key,seg,pos,seq⟩:=s
 have HF:=hide hfs
 have HS:=hide hsz
 have HS2:Hid (∀ F ∈ fs,F.name.size≤maxLen∧F.text.size≤maxLen):=fun F hF => by have:=hsz F hF;unfold maxLen;omega
 clear hfs hsz
 obtain ⟨wb,hwb⟩:∃ wb,wb=(w.alloc (.cells #[.slice ao fs.length cap] 34)).alloc (.cells #[.string key,.int .i64 seg,.int .i64 pos,.int .i64 seq] 75):=⟨_,rfl⟩
 have HB0:Hid (Below w.heap.size w wb):=by rw [hwb];exact ((Below.refl _ w).alloc (Nat.le_refl _) _).alloc (by simp) _
 have hbs2:w.heap.size+2≤wb.heap.size:=by rw [hwb];simp
 have HC0:Hid (wb.cell? ⟨w.heap.size,0,none⟩=some (.slice ao fs.length cap)):=by
  have h1:(w.alloc (.cells #[.slice ao fs.length cap] 34)).cell? ⟨w.heap.size,0,none⟩=some (.slice ao fs.length cap):=(cell_of_row _ _ 0 _ _ (0,0) (heap_alloc_new w _)).trans rfl
  show _=_
  rw [hwb]
  exact ((((Below.refl _ (w.alloc (.cells #[.slice ao fs.length cap] 34))).alloc (Nat.le_refl _) (.cells #[.string key,.int .i64 seg,.int .i64 pos,.int .i64 seq] 75)).cell (p:=⟨w.heap.size,0,none⟩) (by simp))).trans h1
 have HR0:Hid (wb.heap[w.heap.size+1]? = some (.cells #[.string key,.int .i64 seg,.int .i64 pos,.int .i64 seq] 75 (0,0))):=by
  show _=_
  rw [hwb,show w.heap.size+1=(w.alloc (.cells #[.slice ao fs.length cap] 34)).heap.size from by simp]
  exact heap_alloc_new _ _
 have HDO:=hide (fun W (hW:FilesAt W ao fs) => specDiskOk_any fs ao cap W hl hW HS2.out)
 cases hok:diskOkD fs with
 | false =>
  have HE:=hide (valD_disk (s:=⟨key,seg,pos,seq⟩) hok)
  rw [hok] at HDO
  go_enter Tryz.func34,Tryz.ntmps34
  go_wp2_with fail
  rw [← hwb]
  clear hwb hok
  refine (HDO.out _ (filesAt_keep HF.out HB0.out)).mono ?_
  rintro e w1 ⟨rfl,b1⟩
  have B1:=hide (HB0.out.trans (b1.mono HB0.out.size))
  clear b1
  go_wp2
  go_ret2
  rw [HE.out]
  exact ⟨rfl,B1.out⟩
 | true =>
  obtain ⟨r,HR⟩:∃ r,Hid (recAt fs seg pos=r):=⟨_,rfl⟩
  have HLB:=hide (fun W (hW:FilesAt W ao fs) => l07Batch_any fs ao cap seg pos W hl hW HS.out)
  rw [HR.out] at HLB
  have HV1:Hid (batOk r=false→valD fs ⟨key,seg,pos,seq⟩=none):=fun h => valD_ok (by rw [HR.out];exact h)
  have HV2:Hid (batSeq r ≠ seq→valD fs ⟨key,seg,pos,seq⟩=none):=fun h => valD_seq (by rw [HR.out];exact h)
  have HV3:Hid (batOk r=true→batSeq r=seq→valD fs ⟨key,seg,pos,seq⟩=valIn key (batChs r)):=fun h1 h2 => by
   have h:=valD_in (s:=⟨key,seg,pos,seq⟩) hok (by rw [HR.out];exact h1) (by rw [HR.out];exact h2)
   rw [HR.out] at h
   exact h
  rw [hok] at HDO
  obtain ⟨q,HQ⟩:∃ q,Hid (batSeq r=q):=⟨_,rfl⟩
  obtain ⟨ok,HOK⟩:∃ q,Hid (batOk r=q):=⟨_,rfl⟩
  obtain ⟨cs,HCS⟩:∃ q,Hid (batChs r=q):=⟨_,rfl⟩
  have hcs:cs.length≤40:=by rw [← HCS.out];exact batChs_len r
  rw [HQ.out,HOK.out,HCS.out] at HLB
  rw [HQ.out] at HV2 HV3
  rw [HOK.out] at HV1 HV3
  rw [HCS.out] at HV3
  go_enter Tryz.func34,Tryz.ntmps34
  go_wp2_with fail
  rw [← hwb]
  clear hwb hok
  refine (HDO.out _ (filesAt_keep HF.out HB0.out)).mono ?_
  rintro e w1 ⟨rfl,b1⟩
  have B1:=hide b1
  clear b1
  have hc0:w1.cell? ⟨w.heap.size,0,none⟩=some (.slice ao fs.length cap):=(B1.out.cell (p:=⟨w.heap.size,0,none⟩) (by show w.heap.size < _;omega)).trans HC0.out
  have HR1:=hide ((B1.out.block _ (heap_lt HR0.out)).trans HR0.out)
  have hs1:w1.cell? ⟨w.heap.size+1,1,none⟩=some (.int .i64 seg):=(cell_of_row w1 _ 1 _ _ (0,0) HR1.out).trans rfl
  have hs2:w1.cell? ⟨w.heap.size+1,2,none⟩=some (.int .i64 pos):=(cell_of_row w1 _ 2 _ _ (0,0) HR1.out).trans rfl
  go_wp2_with fail
  refine (HLB.out _ (filesAt_keep (filesAt_keep HF.out HB0.out) B1.out)).mono ?_
  rintro e w2 ⟨⟨v2,rfl,r2⟩,b2⟩
  have B2:=hide (B1.out.trans (b2.mono B1.out.size))
  have R2:=hide r2
  have h21:w1.heap.size≤w2.heap.size:=b2.size
  clear r2 b2 hc0 hs1 hs2 HR1
  obtain ⟨a2,c2,rfl,hat2⟩:=rowChange_at R2.out
  have HAT2:=hide hat2
  clear hat2
  have HR2:=hide ((B2.out.block _ (heap_lt HR0.out)).trans HR0.out)
  have BW:=hide (HB0.out.trans (B2.out.mono HB0.out.size))
  have hw2:wb.heap.size≤w2.heap.size:=B2.out.size
  cases ok with
  | false =>
   have HE:=hide (HV1.out rfl)
   go_wp2
   go_ret2
   rw [HE.out]
   exact ⟨rfl,BW.out.alloc (by omega) _⟩
  | true =>
   have hs3:(w2.alloc (.cells #[.int .i64 q,.slice a2 cs.length c2] 109)).cell? ⟨w.heap.size+1,3,none⟩=some (.int .i64 seq):=(((Below.refl _ w2).alloc (Nat.le_refl _) _).cell (p:=⟨w.heap.size+1,3,none⟩) (by show w.heap.size+1 < _;omega)).trans ((cell_of_row w2 _ 3 _ _ (0,0) HR2.out).trans rfl)
   by_cases hqs:q=seq
   ·
    have hqb:(q == seq)=true:=by rw [hqs];exact beq_self_eq_true _
    have HE:=hide (HV3.out rfl hqs)
    clear hqs
    go_wp2_with fail
    have B3:Hid (Below w2.heap.size w2 (w2.alloc (.cells #[.int .i64 q,.slice a2 cs.length c2] 109))):=(Below.refl _ w2).alloc (Nat.le_refl _) _
    have HX3:=hide (heap_alloc_new w2 (.cells #[.int .i64 q,.slice a2 cs.length c2] 109))
    generalize w2.alloc (.cells #[.int .i64 q,.slice a2 cs.length c2] 109)=w3 at hs3 B3 HX3
    clear hs3
    have h3l:w2.heap.size < w3.heap.size:=heap_lt HX3.out
    have HK3:Hid (w3.cell? ⟨w.heap.size+1,0,none⟩=some (.string key)):=(B3.out.cell (p:=⟨w.heap.size+1,0,none⟩) (by show w.heap.size+1 < _;omega)).trans ((cell_of_row w2 _ 0 _ _ (0,0) HR2.out).trans rfl)
    have HA3:=hide (changesAt_keep HAT2.out B3.out)
    have BW3:=hide (BW.out.trans (B3.out.mono (by omega)))
    clear HR2 HAT2
    go_loopw [8] (fun ii wr => ∃ (k:Nat),ii=.int .i64 k∧k≤cs.length∧Hid (valIn key (cs.drop k)=valD fs ⟨key,seg,pos,seq⟩)∧Hid (Below w3.heap.size w3 wr)) (fun ii _ => cs.length - (intOf ii).toNat)
    case atStart => exact ⟨0,rfl,Nat.zero_le _,by show _=_;rw [HE.out];rfl,Below.refl _ _⟩
    case round =>
     obtain ⟨k,rfl,hk,HV,HB⟩:=hrel
     have hc1:wr.cell? ⟨w2.heap.size,1,none⟩=some (.slice a2 cs.length c2):=(HB.out.cell (p:=⟨w2.heap.size,1,none⟩) h3l).trans ((cell_of_row w3 _ 1 _ _ (0,0) HX3.out).trans rfl)
     have hck:wr.cell? ⟨w.heap.size+1,0,none⟩=some (.string key):=(HB.out.cell (p:=⟨w.heap.size+1,0,none⟩) (by show w.heap.size+1 < _;omega)).trans HK3.out
     by_cases hlt:k < cs.length
     ·
      have hlt':decide ((k:Int) < (cs.length:Int))=true:=by simp;omega
      obtain ⟨b,off,hao,hbl,hA0,hA1,hA2⟩:=changesAt_keep HA3.out HB.out k hlt
      subst hao
      obtain ⟨A,HA⟩:∃ A,Hid (cs[k]=A):=⟨_,hide rfl⟩
      obtain ⟨ak,av,ag⟩:=A
      rw [HA.out] at hA0 hA1 hA2
      have hki0:(0:Int)≤(k:Int):=by omega
      have hki1:(k:Int) < (cs.length:Int):=by omega
      have HVS:Hid (valD fs ⟨key,seg,pos,seq⟩=if ak=key∧ag=false then some av else valIn key (cs.drop (k+1))):=by
       show _=_
       rw [← HV.out,List.drop_eq_getElem_cons hlt,HA.out]
       rfl
      have HBW:Hid (Below w.heap.size w wr):=BW3.out.trans (HB.out.mono (by have:=BW3.out.size;omega))
      simp only at hA0 hA1 hA2
      go_wp2_with fail
      by_cases hke:ak=key
      ·
       have hcmp:=txt_eq hke
       cases ag with
       | false =>
        have HVN:Hid (valD fs ⟨key,seg,pos,seq⟩=some av):=by show _=_;rw [HVS.out,if_pos ⟨hke,rfl⟩]
        clear hke
        go_quiet (fail)
        go_wp2
        go_ret2
        rw [HVN.out]
        exact ⟨rfl,below_drewN HBW.out _⟩
       | true =>
        have HVN:Hid (valIn key (cs.drop (k+1))=valD fs ⟨key,seg,pos,seq⟩):=by show _=_;rw [HVS.out,if_neg (fun h => by cases h.2)]
        clear hke
        go_quiet (fail)
        go_wp2
        go_roundw
        case rel => exact ⟨k+1,by go_num,by omega,HVN,below_drewN HB.out _⟩
        case measure => simp [intOf];omega
      ·
       have hcmp:=txt_ne hke
       have HVN:Hid (valIn key (cs.drop (k+1))=valD fs ⟨key,seg,pos,seq⟩):=by show _=_;rw [HVS.out,if_neg (fun h => hke h.1)]
       clear hke
       go_quiet (fail)
       go_wp2
       go_roundw
       case rel => exact ⟨k+1,by go_num,by omega,HVN,below_drewN HB.out _⟩
       case measure => simp [intOf];omega
     ·
      have hlt':decide ((k:Int) < (cs.length:Int))=false:=by simp;omega
      have HN:Hid (valD fs ⟨key,seg,pos,seq⟩=none):=by
       show _=_
       rw [← HV.out,List.drop_eq_nil_of_le (by omega)]
       rfl
      go_wp2
      go_ret2
      rw [HN.out]
      exact ⟨rfl,BW3.out.trans (HB.out.mono (by have:=BW3.out.size;omega))⟩
   ·
    have hqb:(q == seq)=false:=by rw [beq_eq_false_iff_ne];exact hqs
    have HE:=hide (HV2.out hqs)
    clear hqs
    go_wp2
    go_ret2
    rw [HE.out]
    exact ⟨rfl,BW.out.alloc (by omega) _⟩
end Go.Proofs.YtbenmgokhklnjaaGreatDoor
namespace Go.Proofs
abbrev Tryz.muLink:Go.Conc.Locks.MuLink:={ lock:=64,unlock:=65,ilock:=94,iunlock:=95,lockSlow:=129,unlockSlow:=132,disable:=125,enable:=127,acquire:=128,relMerge:=130,cas32:=126,add32:=131,tMutex:=125,tIMutex:=123,tPMutex:=166,tPIMutex:=204,tPI32:=206,tUP:=208,tNoCopy:=120,tU32:=121 }
theorem Tryz.muLib:Go.Conc.Locks.MuLib Tryz.prog Tryz.muLink :=
 ⟨Tryz.func64,Tryz.func65,Tryz.func94,Tryz.func95,Tryz.func125,Tryz.func127,Tryz.func128,Tryz.func130,Tryz.func126,Tryz.func131,Tryz.underlying123,Tryz.runUnderlying123,Tryz.sizeOf123,Tryz.isAgg123,Tryz.zeroValue123,Tryz.underlying125,Tryz.runUnderlying125,Tryz.sizeOf125,Tryz.isAgg125,Tryz.zeroValue125,Tryz.underlying166,Tryz.runUnderlying166,Tryz.sizeOf166,Tryz.isAgg166,Tryz.zeroValue166,Tryz.underlying204,Tryz.runUnderlying204,Tryz.sizeOf204,Tryz.isAgg204,Tryz.zeroValue204,Tryz.underlying206,Tryz.runUnderlying206,Tryz.sizeOf206,Tryz.isAgg206,Tryz.zeroValue206,Tryz.underlying208,Tryz.runUnderlying208,Tryz.sizeOf208,Tryz.isAgg208,Tryz.zeroValue208,Tryz.underlying120,Tryz.runUnderlying120,Tryz.sizeOf120,Tryz.isAgg120,Tryz.zeroValue120,Tryz.underlying21,Tryz.runUnderlying21,Tryz.sizeOf21,Tryz.isAgg21,Tryz.zeroValue21,(by kernel_rfl)⟩
end Go.Proofs
namespace Go.Proofs.YtbenmgokhklnjaaGreatDoor
open Go.RowKit
theorem storeAt_lock {w:World} {B g:Nat} {fs:List FileD} {room:Int} {vd vr vs:Value} (h:StoreAt w B g fs room vd vr vs) (z:Value) :
  (w.setCell ⟨g,0,none⟩ z).heap[g]? = some (.cells #[z,.int .u32 0,vd,.int .i64 room,.int .i64 ((lastG fs).num:Int),.int .i64 (seqD (segsL fs)),vr,vs] 128 (0,0)) :=
 (heap_setCell_same w g 0 _ _ z h.blk).trans rfl
theorem storeAt_disk {w:World} {B g:Nat} {fs:List FileD} {room:Int} {vd vr vs:Value} (h:StoreAt w B g fs room vd vr vs) (z:Value):RowF (w.setCell ⟨g,0,none⟩ z) B vd (actsF fs (actsI fs)).1:=by
 have hb:=h.blk
 refine rowF_keep h.disk (fun x hx => ?_)
 have hne:x ≠ g:=by
  rintro rfl
  rcases h.disk with ⟨rfl,-⟩ | ⟨g',cap,C,rfl,-,hC,-⟩
  · cases hx
  ·
   obtain rfl:g' = x:=by simpa [Value.ownBlock] using hx
   rw [hC] at hb
   simp at hb
 exact Below.heap_setCell _ _ _ _ hne
theorem szFs_small:∀ (fs:List FileD) (n:Int),n≤1048576→0≤n→0≤szFs fs n→∀ F ∈ fs,F.name.size≤1048576∧F.text.size≤1048576
 | [],_,_,_,_,F,h => absurd h List.not_mem_nil
 | G :: r,n,h1,h2,h3,F,h => by
  rw [szFs] at h3
  by_cases hneg:szF G n < 0
  · rw [if_pos hneg] at h3;omega
  ·
   rw [if_neg hneg] at h3
   have hle:=szF_le G n h2
   rcases List.mem_cons.1 h with rfl | h
   ·
    unfold szF at hneg
    split at hneg
    · omega
    · split at hneg <;> omega
   · exact szFs_small r _ (by omega) (by omega) h3 F h
theorem box4_cells {w0 W:World} {g:Nat} {a b c d:Value} {t:Nat} (h:w0.heap[g]? = some (.cells #[a,b,c,d] t (0,0))) (hb:Below w0.heap.size w0 W) :
  W.cell? ⟨g,0,none⟩=some a∧W.cell? ⟨g,1,none⟩=some b∧W.cell? ⟨g,2,none⟩=some c∧W.cell? ⟨g,3,none⟩=some d:=by
 have h1:=(hb.block g (heap_lt h)).trans h
 exact ⟨(cell_of_row W _ 0 _ _ (0,0) h1).trans rfl,(cell_of_row W _ 1 _ _ (0,0) h1).trans rfl,(cell_of_row W _ 2 _ _ (0,0) h1).trans rfl,(cell_of_row W _ 3 _ _ (0,0) h1).trans rfl⟩
end Go.Proofs.YtbenmgokhklnjaaGreatDoor
