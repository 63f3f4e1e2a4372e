import Derived.Laws.StructEq
import Derived.Test.YtbenmgokhklnjaaGreatDoorTb33
import Derived.Test.YtbenmgokhklnjaaGreatDoorTb16
import Derived.Test.YtbenmgokhklnjaaGreatDoorTb18
import Derived.Test.YtbenmgokhklnjaaGreatDoorTb2
set_option maxRecDepth 100000
set_option maxHeartbeats 1600000
namespace Go.Proofs.YtbenmgokhklnjaaGreatDoor
open Go.RowKit
theorem frameAt_out (s:ByteArray) (i:Int) (w:World) (hs:s.size≤20000) (h:i < 0 ∨ (s.size:Int) < i) :
  Calls Tryz.prog 133 #[.string s,.int .i64 i] w fun e w' => e=.returned (.tuple #[.string ⟨#[]⟩,.int .i64 0,.bool false])∧Below w.heap.size w w':=by
 have hread:Hid (∀ W:World,Calls Tryz.prog 67 #[.string s,.int .i64 i] W fun e w' => e=.returned (.tuple #[.int .i64 0,.int .i64 0,.bool false])∧w' = W):=fun W => implRead_out s i W (by unfold maxLen;omega) h
 go_enter Tryz.func133,Tryz.ntmps133
 go_wp2_with (first | (go_at_call 67;refine (hread.out _).mono ?_;rintro e w0 ⟨rfl,rfl⟩))
 go_ret3
 exact ⟨rfl,Below.refl _ _⟩
theorem recAt_frame {fs:List FileD} {seg:Int} {p:Nat} {F:FileD} (h:fileD fs (segNm seg)=some F) (hp:p≤F.text.size) (hz:F.text.size≤20000):recAt fs seg (p:Int)=(frB F.text p).map (fun y => F.text.extract y.1 y.2):=by
 obtain ⟨T,hT⟩:∃ T,F.text.extract p F.text.size=T:=⟨_,rfl⟩
 have hTz:T.size≤20000:=by rw [← hT,ByteArray.size_extract];omega
 have hd:=frB_drop F.text p 0 hp
 rw [hT,Nat.add_zero] at hd
 have hu:unf T=frs T (T.size+1) 0:=by unfold unf;rw [if_pos hTz]
 cases hf:frB F.text p with
 | none =>
  rw [hf] at hd
  rw [recAt_nil h hp hT (by rw [hu];exact frs_none T _ _ hd)]
  rfl
 | some y =>
  rw [hf] at hd
  have hb:=frB_bounds F.text p y hf
  rw [recAt_some h hp hT (by rw [hu];exact frs_some T _ _ _ hd)]
  show some (T.extract (shf p y).1 (shf p y).2)=some (F.text.extract y.1 y.2)
  rw [← hT]
  unfold shf
  simp only
  rw [extract_drop F.text p (y.1 - p) (y.2 - p) (by omega),show p+(y.1 - p)=y.1 by omega,show p+(y.2 - p)=y.2 by omega]
def recI (fs:List FileD) (seg pos:Int):Option ByteArray:=if diskOkD fs=true then recAt fs seg pos else none
theorem batchAt_any (fs:List FileD) (ao:Option Addr) (cap:Nat) (s:SpotD) (w:World) (hl:fs.length≤1048576) (hfs:FilesAt w ao fs) (hsz:∀ F ∈ fs,F.name.size≤1048576∧F.text.size≤1048576) (hT:SumTab w) :
  Calls Tryz.prog 96 #[.agg #[.slice ao fs.length cap],.agg #[.string s.key,.int .i64 s.seg,.int .i64 s.pos,.int .i64 s.seq]] w fun e w' => (∃ v,e=.returned (.tuple #[.agg #[.int .i64 (batSeq (recI fs s.seg s.pos)),v],.bool (batOk (recI fs s.seg s.pos))])∧RowChange w' w.heap.size v (batChs (recI fs s.seg s.pos)))∧Below w.heap.size w w':=by
 obtain ⟨key,seg,pos,seq⟩:=s
 simp only
 have HF:=hide hfs
 have HS:=hide hsz
 have HT:=hide hT
 have HS2:Hid (∀ F ∈ fs,F.name.size≤maxLen∧F.text.size≤maxLen):=fun F hF => by have:=hsz F hF;unfold maxLen;omega
 clear hfs hsz hT
 obtain ⟨wb,hwb⟩:∃ wb,wb=((w.alloc (.cells #[.slice ao fs.length cap] 34)).alloc (.cells #[.string key,.int .i64 seg,.int .i64 pos,.int .i64 seq] 75)).alloc (.cells #[.int .i64 0,.slice none 0 0] 109):=⟨_,rfl⟩
 have HB0:Hid (Below w.heap.size w wb):=by rw [hwb];exact (((Below.refl _ w).alloc (Nat.le_refl _) _).alloc (by simp) _).alloc (by simp;omega) _
 have hbs:wb.heap.size=w.heap.size+3:=by rw [hwb];simp
 have HC0:Hid (wb.heap[w.heap.size]? = some (.cells #[.slice ao fs.length cap] 34 (0,0))):=by
  show _=_
  rw [hwb]
  exact (Below.heap_alloc _ _ _ (by simp;omega)).trans ((Below.heap_alloc _ _ _ (by simp)).trans (heap_alloc_new w _))
 have HC1:Hid (wb.heap[w.heap.size+1]? = some (.cells #[.string key,.int .i64 seg,.int .i64 pos,.int .i64 seq] 75 (0,0))):=by
  show _=_
  rw [hwb]
  refine (Below.heap_alloc _ _ _ (by simp)).trans ?_
  rw [show w.heap.size+1=(w.alloc (.cells #[.slice ao fs.length cap] 34)).heap.size from by simp]
  exact heap_alloc_new _ _
 have HC2:Hid (wb.heap[w.heap.size+1+1]? = some (.cells #[.int .i64 0,.slice none 0 0] 109 (0,0))):=by
  show _=_
  rw [hwb,show w.heap.size+1+1=((w.alloc (.cells #[.slice ao fs.length cap] 34)).alloc (.cells #[.string key,.int .i64 seg,.int .i64 pos,.int .i64 seq] 75)).heap.size from by simp]
  exact heap_alloc_new _ _
 have HDO:=hide (fun W (hW:FilesAt W ao fs) => diskOk_any fs ao cap W hl hW HS2.out)
 have HNO:Hid (∀ W,recI fs seg pos=none→Below wb.heap.size wb W→∀ u u2,((∃ v,Ending.returned (.tuple #[.agg #[.int .i64 0,.slice none 0 0],.bool false])=Ending.returned (.tuple #[.agg #[.int .i64 (batSeq (recI fs seg pos)),v],.bool (batOk (recI fs seg pos))])∧RowChange ((W.setCell ⟨w.heap.size+1+1,0,none⟩ u).setCell ⟨w.heap.size+1+1,1,none⟩ u2) w.heap.size v (batChs (recI fs seg pos)))∧Below w.heap.size w ((W.setCell ⟨w.heap.size+1+1,0,none⟩ u).setCell ⟨w.heap.size+1+1,1,none⟩ u2))):=by
  intro W h hW u u2
  rw [h]
  exact ⟨⟨_,rfl,.inl ⟨rfl,rfl⟩⟩,((HB0.out.trans (hW.mono (by omega))).setCell (p:=⟨w.heap.size+1+1,0,none⟩) (by show w.heap.size≤w.heap.size+1+1;omega) u).setCell (p:=⟨w.heap.size+1+1,1,none⟩) (by show w.heap.size≤w.heap.size+1+1;omega) u2⟩
 cases hok:diskOkD fs with
 | false =>
  have HE:Hid (recI fs seg pos=none):=by show _=_;unfold recI;rw [hok];rfl
  rw [hok] at HDO
  clear hok
  go_enter Tryz.func96,Tryz.ntmps96
  go_wp2_with fail
  rw [← hwb]
  clear hwb
  refine (HDO.out _ (filesAt_keep HF.out HB0.out)).mono ?_
  rintro e w1 ⟨rfl,b1⟩
  have hr0:w1.cell? ⟨w.heap.size+1+1,0,none⟩=some (.int .i64 0):=(cell_of_row w1 _ 0 _ _ (0,0) (two_cells HC2.out b1)).trans rfl
  have hr1:w1.cell? ⟨w.heap.size+1+1,1,none⟩=some (.slice none 0 0):=(cell_of_row w1 _ 1 _ _ (0,0) (two_cells HC2.out b1)).trans rfl
  have hrf0:=frozen_of_row w1 (w.heap.size+1+1) 0 _ _ (two_cells HC2.out b1)
  have hrf1:=frozen_of_row w1 (w.heap.size+1+1) 1 _ _ (two_cells HC2.out b1)
  have B1:=hide b1
  clear b1
  go_wp2_with fail
  exact bodyPost_ret (v:=.tuple #[.agg #[.int .i64 0,.slice none 0 0],.bool false]) (by simp [results,Tryz.results96,go_sem,hr0,hr1]) rfl (HNO.out _ HE.out B1.out _ _)
 | true =>
  rw [hok] at HDO
  have HRI:Hid (recI fs seg pos=recAt fs seg pos):=by show _=_;unfold recI;rw [hok];rfl
  have hdk:=(disk_iff fs).1 hok
  clear hok
  obtain ⟨NM,HNM⟩:∃ NM,Hid (segNm seg=NM):=⟨_,rfl⟩
  have HN:Hid (∀ W:World,Calls Tryz.prog 114 #[.int .i64 seg] W fun e w' => e=.returned (.string NM)∧w' = W):=fun W => by rw [← HNM.out];exact implSegName_any seg W
  go_enter Tryz.func96,Tryz.ntmps96
  go_wp2_with fail
  rw [← hwb]
  clear hwb
  refine (HDO.out _ (filesAt_keep HF.out HB0.out)).mono ?_
  rintro e w1 ⟨rfl,b1⟩
  have B1:=hide b1
  have hc0:w1.cell? ⟨w.heap.size,0,none⟩=some (.slice ao fs.length cap):=(cell_of_row w1 _ 0 _ _ (0,0) ((b1.block _ (heap_lt HC0.out)).trans HC0.out)).trans rfl
  obtain ⟨hs0,hs1,hs2,hs3⟩:=box4_cells HC1.out b1
  clear b1
  have hlt0:w.heap.size < w1.heap.size:=by have:=B1.out.size;omega
  have hlt1:w.heap.size+1 < w1.heap.size:=by have:=B1.out.size;omega
  go_wp2_with fail
  cases hfd:fileD fs (segNm seg) with
  | none =>
   have HE:Hid (recI fs seg pos=none):=by show _=_;rw [HRI.out];exact recAt_none hfd
   have HAT:Hid (∀ W,Below w1.heap.size w1 W→Calls Tryz.prog 115 #[.agg #[.slice ao fs.length cap],.string NM] W fun e w' => e=.returned (.tuple #[.string ⟨#[]⟩,.bool false])∧Below W.heap.size W w'):=fun W hW => fileAt_none fs ao cap NM W hl (filesAt_keep (filesAt_keep HF.out (HB0.out.trans (B1.out.mono HB0.out.size))) hW) HS.out (by rw [← HNM.out];exact hfd)
   clear hfd
   go_region_held3 (fun w' => w'.cell? ⟨w.heap.size,0,none⟩=some (.slice ao fs.length cap)∧w'.cell? ⟨w.heap.size+1,1,none⟩=some (.int .i64 seg)) (first | go_keep | (exact ⟨hc0,hs1⟩) | (exact ⟨(b2.cell (p:=⟨w.heap.size,0,none⟩) hlt0).trans hc0,(b2.cell (p:=⟨w.heap.size+1,1,none⟩) hlt1).trans hs1⟩)) ((first | (go_at_call 114;refine (HN.out _).mono ?_;rintro e w' ⟨rfl,rfl⟩) | (go_at_call 115;refine (HAT.out _ (by first | exact Below.refl _ _ | exact (Below.refl _ _).drew)).mono ?_;rintro e w2 ⟨rfl,b2⟩)))
   have B2:Hid (Below w1.heap.size w1 w2):=(Below.refl _ _).drew.trans b2
   clear b2 hc0 hs0 hs1 hs2 hs3
   have B3:=hide (B1.out.trans (B2.out.mono B1.out.size))
   have hr0:w2.cell? ⟨w.heap.size+1+1,0,none⟩=some (.int .i64 0):=(cell_of_row w2 _ 0 _ _ (0,0) (two_cells HC2.out B3.out)).trans rfl
   have hr1:w2.cell? ⟨w.heap.size+1+1,1,none⟩=some (.slice none 0 0):=(cell_of_row w2 _ 1 _ _ (0,0) (two_cells HC2.out B3.out)).trans rfl
   have hrf0:=frozen_of_row w2 (w.heap.size+1+1) 0 _ _ (two_cells HC2.out B3.out)
   have hrf1:=frozen_of_row w2 (w.heap.size+1+1) 1 _ _ (two_cells HC2.out B3.out)
   go_wp2_with fail
   exact bodyPost_ret (v:=.tuple #[.agg #[.int .i64 0,.slice none 0 0],.bool false]) (by simp [results,Tryz.results96,go_sem,hr0,hr1]) rfl (HNO.out _ HE.out B3.out _ _)
  | some F =>
   have hFm:=List.mem_of_find?_eq_some hfd
   have hFz:=(ok_file (hdk.2.1 F hFm)).2.2.1
   have HAT:Hid (∀ W,Below w1.heap.size w1 W→Calls Tryz.prog 115 #[.agg #[.slice ao fs.length cap],.string NM] W fun e w' => e=.returned (.tuple #[.string F.text,.bool true])∧Below W.heap.size W w'):=fun W hW => fileAt_some fs ao cap NM W F hl (filesAt_keep (filesAt_keep HF.out (HB0.out.trans (B1.out.mono HB0.out.size))) hW) HS.out (by rw [← HNM.out];exact hfd)
   have HFD:=hide hfd
   clear hfd hFm hdk
   go_region_held3 (fun w' => w'.cell? ⟨w.heap.size,0,none⟩=some (.slice ao fs.length cap)∧w'.cell? ⟨w.heap.size+1,1,none⟩=some (.int .i64 seg)) (first | go_keep | (exact ⟨hc0,hs1⟩) | (exact ⟨(b2.cell (p:=⟨w.heap.size,0,none⟩) hlt0).trans hc0,(b2.cell (p:=⟨w.heap.size+1,1,none⟩) hlt1).trans hs1⟩)) ((first | (go_at_call 114;refine (HN.out _).mono ?_;rintro e w' ⟨rfl,rfl⟩) | (go_at_call 115;refine (HAT.out _ (by first | exact Below.refl _ _ | exact (Below.refl _ _).drew)).mono ?_;rintro e w2 ⟨rfl,b2⟩)))
   have B2:Hid (Below w1.heap.size w1 w2):=(Below.refl _ _).drew.trans b2
   clear b2 hc0 hs0 hs1 hs2 hs3
   have B3:=hide (B1.out.trans (B2.out.mono B1.out.size))
   obtain ⟨hs0,hs1,hs2,hs3⟩:=box4_cells HC1.out B3.out
   have HT2:Hid (SumTab w2):=sumTab_later (HB0.out.trans (B3.out.mono HB0.out.size)) HT.out
   have HFR:Hid ((recI fs seg pos=none∧∀ W:World,SumTab W→Calls Tryz.prog 133 #[.string F.text,.int .i64 pos] W fun e w' => e=.returned (.tuple #[.string ⟨#[]⟩,.int .i64 0,.bool false])∧Below W.heap.size W w') ∨
     ∃ R:ByteArray,R.size≤20000∧recI fs seg pos=some R∧∃ e:Int,∀ W:World,SumTab W→Calls Tryz.prog 133 #[.string F.text,.int .i64 pos] W fun e' w' => e' = .returned (.tuple #[.string R,.int .i64 e,.bool true])∧Below W.heap.size W w'):=by
    rw [HRI.out]
    by_cases hp:0≤pos∧pos≤F.text.size
    ·
     obtain ⟨p,rfl⟩:=Int.eq_ofNat_of_zero_le hp.1
     have hp2:p≤F.text.size:=by omega
     have hrf:=recAt_frame HFD.out hp2 hFz
     cases hfr:frB F.text p with
     | none =>
      rw [hfr] at hrf
      exact .inl ⟨hrf,fun W hW => frameAt_none F.text p W hFz hp2 hfr hW⟩
     | some y =>
      rw [hfr] at hrf
      exact .inr ⟨F.text.extract y.1 y.2,by rw [ByteArray.size_extract];omega,hrf,y.2,fun W hW => frameAt_some F.text p y W hFz hp2 hfr hW⟩
    · exact .inl ⟨recAt_out HFD.out hp,fun W _ => frameAt_out F.text pos W hFz (by omega)⟩
   rcases HFR.out with ⟨hE,hC⟩ | ⟨R,hRz,hE,ee,hC⟩
   ·
    have HE:=hide hE
    have HC:=hide hC
    clear hE hC
    go_wp2_with fail
    refine (HC.out _ HT2.out).mono ?_
    rintro e w4 ⟨rfl,b4⟩
    have B4:=hide (B3.out.trans (b4.mono B3.out.size))
    clear b4 hs0 hs1 hs2 hs3
    have hr0:w4.cell? ⟨w.heap.size+1+1,0,none⟩=some (.int .i64 0):=(cell_of_row w4 _ 0 _ _ (0,0) (two_cells HC2.out B4.out)).trans rfl
    have hr1:w4.cell? ⟨w.heap.size+1+1,1,none⟩=some (.slice none 0 0):=(cell_of_row w4 _ 1 _ _ (0,0) (two_cells HC2.out B4.out)).trans rfl
    have hrf0:=frozen_of_row w4 (w.heap.size+1+1) 0 _ _ (two_cells HC2.out B4.out)
    have hrf1:=frozen_of_row w4 (w.heap.size+1+1) 1 _ _ (two_cells HC2.out B4.out)
    go_wp2_with fail
    exact bodyPost_ret (v:=.tuple #[.agg #[.int .i64 0,.slice none 0 0],.bool false]) (by simp [results,Tryz.results96,go_sem,hr0,hr1]) rfl (HNO.out _ HE.out B4.out _ _)
   ·
    have HE:=hide hE
    have HC:=hide hC
    clear hE hC
    have HRB:=hide (fun W => implReadBatch_any R W (by omega))
    go_wp2_with fail
    refine (HC.out _ HT2.out).mono ?_
    rintro e w4 ⟨rfl,b4⟩
    have B4:=hide (B3.out.trans (b4.mono B3.out.size))
    clear b4 hs0 hs1 hs2 hs3
    go_wp2_with fail
    refine (HRB.out _).mono ?_
    rintro e w5 ⟨⟨v5,rfl,r5⟩,b5⟩
    obtain ⟨a5,c5,rfl,-⟩:=rowChange_at r5
    have B5:=hide (B4.out.trans (b5.mono B4.out.size))
    have R5:=hide r5
    clear r5 b5
    have hr0:w5.cell? ⟨w.heap.size+1+1,0,none⟩=some (.int .i64 0):=(cell_of_row w5 _ 0 _ _ (0,0) (two_cells HC2.out B5.out)).trans rfl
    have hr1:w5.cell? ⟨w.heap.size+1+1,1,none⟩=some (.slice none 0 0):=(cell_of_row w5 _ 1 _ _ (0,0) (two_cells HC2.out B5.out)).trans rfl
    have hrf0:=frozen_of_row w5 (w.heap.size+1+1) 0 _ _ (two_cells HC2.out B5.out)
    have hrf1:=frozen_of_row w5 (w.heap.size+1+1) 1 _ _ (two_cells HC2.out B5.out)
    have hsz4:w.heap.size≤w4.heap.size:=by have:=B4.out.size;omega
    go_wp2_with fail
    refine bodyPost_ret (v:=.tuple #[.agg #[.int .i64 (rdSeq R),.slice a5 (rdChanges R).length c5],.bool (rdOk R)]) (by simp [results,Tryz.results96,go_sem,hr0,hr1]) rfl ?_
    rw [HE.out]
    have gS:=grownBy_store (grownBy_store (World.grownBy.refl w5 (some (w.heap.size+1+1))) 0 (.int .i64 (rdSeq R))) 1 (.slice a5 (rdChanges R).length c5)
    refine ⟨⟨_,rfl,rowChange_grown (rowChange_le R5.out hsz4) gS (fun k hk e => ?_)⟩,(HB0.out.trans (B5.out.mono (by omega))).grown gS (by have:=B5.out.size;omega) (fun k hk => by cases hk;omega)⟩
    obtain ⟨C,hC⟩:=change_block R5.out hk
    obtain rfl:=Option.some.inj e
    rw [two_cells HC2.out B5.out] at hC
    simp at hC
theorem eql_spot (k1 k2:ByteArray) (a b q1 q2:Int) (r:Bool) (h:((k1.toList == k2.toList) && (q1 == q2))=r):∀ W:World,(binOp .eql 75 (.agg #[.string k1,.int .i64 a,.int .i64 b,.int .i64 q1]) (.agg #[.string k2,.int .i64 a,.int .i64 b,.int .i64 q2])).run Tryz.prog W=.ok (.bool r) W:=by
 intro W
 have hst:Tryz.prog.stoodInHeld 75=false:=by kernel_rfl
 have hfl:Tryz.prog.underlying 75=some (.struct (Tryz.prog.fieldsOf 75)):=by kernel_rfl
 rw [run_eql_struct,run_equalIn_struct W 9999 75 _ _ hfl hst]
 clear hfl hst
 subst h
 cases h1:(k1.toList == k2.toList) <;> cases h2:(q1 == q2) <;> simp [go_sem,h1,h2]
theorem valD_recI (fs:List FileD) (key:ByteArray) (seg pos seq:Int):valD fs ⟨key,seg,pos,seq⟩=if batOk (recI fs seg pos)=true then (if batSeq (recI fs seg pos)=seq then valIn key (batChs (recI fs seg pos)) else none) else none:=by
 unfold valD valRight recI
 cases hd:diskOkD fs with
 | false => simp [batOk]
 | true =>
  simp only [if_true,Bool.true_and,Bool.and_eq_true,decide_eq_true_eq]
  by_cases h1:batOk (recAt fs seg pos)=true
  ·
   rw [if_pos h1]
   by_cases h2:batSeq (recAt fs seg pos)=seq
   · rw [if_pos h2,if_pos ⟨h1,h2⟩]
   · rw [if_neg h2,if_neg (fun h => h2 h.2)]
  · rw [if_neg h1,if_neg (fun h => h1 h.1)]
theorem valIn_step {key:ByteArray} {A:ChangeD} {r:List ChangeD} {bsq seq:Int}:(if bsq=seq then valIn key (A :: r) else none)=if ((A.key.toList == key.toList) && (bsq == seq))=true∧A.gone=false then some A.value else (if bsq=seq then valIn key r else none):=by
 have hk:(A.key.toList == key.toList)=decide (A.key=key):=by
  cases h:(A.key.toList == key.toList) with
  | false => exact (decide_eq_false (toList_ne.1 h)).symm
  | true =>
   refine (decide_eq_true ?_).symm
   apply Decidable.byContradiction
   intro hn
   rw [toList_ne.2 hn] at h
   cases h
 rw [hk]
 by_cases h2:bsq=seq
 ·
  subst h2
  simp [valIn]
 · simp [h2]
theorem implValueOf_any (fs:List FileD) (ao:Option Addr) (cap:Nat) (s:SpotD) (w:World) (hl:fs.length≤1048576) (hfs:FilesAt w ao fs) (hsz:∀ F ∈ fs,F.name.size≤1048576∧F.text.size≤1048576) (hks:s.key.size≤1048576) (hT:SumTab w) :
  Calls Tryz.prog 66 #[.agg #[.slice ao fs.length cap],.agg #[.string s.key,.int .i64 s.seg,.int .i64 s.pos,.int .i64 s.seq]] w fun e w' => e=.returned (.tuple #[.string (outTx (valD fs s)),.bool (valD fs s).isSome])∧Below w.heap.size w w':=by
 have HBA:=hide (fun W hW hTW => batchAt_any fs ao cap s W hl hW hsz hTW)
 have HF:=hide hfs
 have HT:=hide hT
 clear hfs hsz hT
 obtain ⟨key,seg,pos,seq⟩:=s
 simp only at HBA hks ⊢
 obtain ⟨wb,hwb⟩:∃ wb,wb=(w.alloc (.cells #[.slice ao fs.length cap] 34)).alloc (.cells #[.string key,.int .i64 seg,.int .i64 pos,.int .i64 seq] 75):=⟨_,rfl⟩
 have HB0:Hid (Below w.heap.size w wb):=by rw [hwb];exact ((Below.refl _ w).alloc (Nat.le_refl _) _).alloc (by simp) _
 have hbs:wb.heap.size=w.heap.size+2:=by rw [hwb];simp
 have HC1:Hid (wb.heap[w.heap.size+1]? = some (.cells #[.string key,.int .i64 seg,.int .i64 pos,.int .i64 seq] 75 (0,0))):=by
  show _=_
  rw [hwb,show w.heap.size+1=(w.alloc (.cells #[.slice ao fs.length cap] 34)).heap.size from by simp]
  exact heap_alloc_new _ _
 obtain ⟨rI,HRI⟩:∃ r,Hid (recI fs seg pos=r):=⟨_,hide rfl⟩
 rw [HRI.out] at HBA
 have hchl:=batChs_len rI
 obtain ⟨bok,HBOK⟩:∃ b,Hid (batOk rI=b):=⟨_,hide rfl⟩
 obtain ⟨bsq,HBSQ⟩:∃ b,Hid (batSeq rI=b):=⟨_,hide rfl⟩
 obtain ⟨bch,HBCH⟩:∃ b,Hid (batChs rI=b):=⟨_,hide rfl⟩
 rw [HBOK.out,HBSQ.out,HBCH.out] at HBA
 rw [HBCH.out] at hchl
 have HV:Hid (valD fs ⟨key,seg,pos,seq⟩=if bok=true then (if bsq=seq then valIn key bch else none) else none):=by show _=_;rw [valD_recI,HRI.out,HBOK.out,HBSQ.out,HBCH.out]
 clear HRI HBOK HBSQ HBCH
 cases bok with
 | false =>
  go_enter Tryz.func66,Tryz.ntmps66
  go_wp2_with fail
  rw [← hwb]
  clear hwb
  refine (HBA.out _ (filesAt_keep HF.out HB0.out) (sumTab_later HB0.out HT.out)).mono ?_
  rintro e w1 ⟨⟨v1,rfl,r1⟩,b1⟩
  obtain ⟨a1,c1,rfl,-⟩:=rowChange_at r1
  have HE:Hid (valD fs ⟨key,seg,pos,seq⟩=none):=by show _=_;rw [HV.out];rfl
  go_wp2_with fail
  go_ret2
  rw [HE.out]
  exact ⟨rfl,(HB0.out.trans (b1.mono HB0.out.size)).alloc (by have:=b1.size;omega) _⟩
 | true =>
  obtain ⟨X,HX⟩:∃ X,Hid ((if bsq=seq then valIn key bch else none)=X):=⟨_,hide rfl⟩
  have HV2:valD fs ⟨key,seg,pos,seq⟩=X:=by rw [HV.out,← HX.out];rfl
  rw [HV2]
  clear HV HV2
  go_enter Tryz.func66,Tryz.ntmps66
  go_wp2_with fail
  rw [← hwb]
  clear hwb
  refine (HBA.out _ (filesAt_keep HF.out HB0.out) (sumTab_later HB0.out HT.out)).mono ?_
  rintro e w1 ⟨⟨v1,rfl,r1⟩,b1⟩
  obtain ⟨a1,c1,rfl,-⟩:=rowChange_at r1
  have B1:=hide b1
  have R1:=hide (rowChange_rows r1)
  clear b1 r1
  obtain ⟨wc,hwc⟩:∃ wc,wc=w1.alloc (.cells #[.int .i64 bsq,.slice a1 bch.length c1] 109):=⟨_,rfl⟩
  have BC:Hid (Below w1.heap.size w1 wc):=by rw [hwc];exact (Below.refl _ w1).alloc (Nat.le_refl _) _
  have hcs:wc.heap.size=w1.heap.size+1:=by rw [hwc];simp
  have HCB:Hid (wc.heap[w1.heap.size]? = some (.cells #[.int .i64 bsq,.slice a1 bch.length c1] 109 (0,0))):=by rw [hwc];exact heap_alloc_new w1 _
  have HRC:Hid (ChangesAt wc a1 bch):=changesAt_keep R1.out BC.out
  have HSB:Hid (wc.heap[w.heap.size+1]? = some (.cells #[.string key,.int .i64 seg,.int .i64 pos,.int .i64 seq] 75 (0,0))):=(BC.out.block _ (by have:=B1.out.size;omega)).trans ((B1.out.block _ (heap_lt HC1.out)).trans HC1.out)
  have HBc:Hid (Below w.heap.size w wc):=HB0.out.trans ((B1.out.trans (BC.out.mono B1.out.size)).mono (by omega))
  have hcc1:wc.cell? ⟨w1.heap.size,1,none⟩=some (.slice a1 bch.length c1):=(cell_of_row wc _ 1 _ _ (0,0) HCB.out).trans rfl
  go_wp2_with fail
  rw [← hwc]
  clear hwc hcc1
  go_loopw [22] (fun ii wr => ∃ (k:Nat),ii=.int .i64 k∧k≤bch.length∧Hid ((if bsq=seq then valIn key (bch.drop k) else none)=X)∧Hid (Below wc.heap.size wc wr)) (fun ii _ => bch.length - (intOf ii).toNat)
  case atStart => exact ⟨0,rfl,Nat.zero_le _,HX,Below.refl _ _⟩
  case round =>
   obtain ⟨k,rfl,hk,HK,HB⟩:=hrel
   have hws:=HB.out.size
   by_cases hlt:k < bch.length
   ·
    have hlt':decide ((k:Int) < (bch.length:Int))=true:=by simp;omega
    have hi0:(0:Int)≤(k:Int):=by omega
    have hi1:(k:Int) < (bch.length:Int):=by omega
    obtain ⟨b,off,hab,hbw,hd0,hd1,hd2⟩:=changesAt_keep HRC.out HB.out k hlt
    subst hab
    have hdk:=List.drop_eq_getElem_cons hlt
    rw [hdk,valIn_step] at HK
    clear hdk
    generalize bch[k]=A at hd0 hd1 hd2 HK
    obtain ⟨wr1,hwr1⟩:∃ x,x=wr.alloc (.cells #[.string A.key,.string A.value,.bool A.gone] 55):=⟨_,rfl⟩
    obtain ⟨wr2,hwr2⟩:∃ x,x=wr1.alloc (.cells #[.string A.key,.int .i64 seg,.int .i64 pos,.int .i64 bsq] 75):=⟨_,rfl⟩
    have B1r:Hid (Below wr.heap.size wr wr1):=by rw [hwr1];exact (Below.refl _ wr).alloc (Nat.le_refl _) _
    have hz1:wr1.heap.size=wr.heap.size+1:=by rw [hwr1];simp
    have B2r:Hid (Below wr.heap.size wr wr2):=by rw [hwr2];exact B1r.out.alloc B1r.out.size _
    have hwz:w.heap.size+2≤w1.heap.size:=by have:=B1.out.size;omega
    have hsb:=(B1r.out.block (w.heap.size+1) (by omega)).trans ((HB.out.block _ (heap_lt HSB.out)).trans HSB.out)
    have hsc:=(B1r.out.block w1.heap.size (by omega)).trans ((HB.out.block _ (heap_lt HCB.out)).trans HCB.out)
    have hsb2:=(B2r.out.block (w.heap.size+1) (by omega)).trans ((HB.out.block _ (heap_lt HSB.out)).trans HSB.out)
    have hch1:wr1.heap[wr.heap.size]? = some (.cells #[.string A.key,.string A.value,.bool A.gone] 55 (0,0)):=by rw [hwr1];exact heap_alloc_new wr _
    have hch2:wr2.heap[wr.heap.size]? = some (.cells #[.string A.key,.string A.value,.bool A.gone] 55 (0,0)):=by rw [hwr2];exact (Below.heap_alloc _ _ _ (by omega)).trans hch1
    have hf1:wr1.cell? ⟨w.heap.size+1,1,none⟩=some (.int .i64 seg):=(cell_of_row wr1 _ 1 _ _ (0,0) hsb).trans rfl
    have hf2:wr1.cell? ⟨w.heap.size+1,2,none⟩=some (.int .i64 pos):=(cell_of_row wr1 _ 2 _ _ (0,0) hsb).trans rfl
    have hf3:wr1.cell? ⟨w1.heap.size,0,none⟩=some (.int .i64 bsq):=(cell_of_row wr1 _ 0 _ _ (0,0) hsc).trans rfl
    have hf4:wr2.cell? ⟨w.heap.size+1,0,none⟩=some (.string key):=(cell_of_row wr2 _ 0 _ _ (0,0) hsb2).trans rfl
    have hf5:wr2.cell? ⟨w.heap.size+1,1,none⟩=some (.int .i64 seg):=(cell_of_row wr2 _ 1 _ _ (0,0) hsb2).trans rfl
    have hf6:wr2.cell? ⟨w.heap.size+1,2,none⟩=some (.int .i64 pos):=(cell_of_row wr2 _ 2 _ _ (0,0) hsb2).trans rfl
    have hf7:wr2.cell? ⟨w.heap.size+1,3,none⟩=some (.int .i64 seq):=(cell_of_row wr2 _ 3 _ _ (0,0) hsb2).trans rfl
    have hf8:wr2.cell? ⟨wr.heap.size,1,none⟩=some (.string A.value):=(cell_of_row wr2 _ 1 _ _ (0,0) hch2).trans rfl
    have hf9:wr2.cell? ⟨wr.heap.size,2,none⟩=some (.bool A.gone):=(cell_of_row wr2 _ 2 _ _ (0,0) hch2).trans rfl
    have hf0:wr1.cell? ⟨wr.heap.size,0,none⟩=some (.string A.key):=(cell_of_row wr1 _ 0 _ _ (0,0) hch1).trans rfl
    have BN:Hid (Below wc.heap.size wc wr2):=HB.out.trans (B2r.out.mono hws)
    have BN2:Hid (Below w.heap.size w wr2):=HBc.out.trans (BN.out.mono (by have:=HBc.out.size;omega))
    have hgd:Tryz.prog.eqGuardType Tryz.prog.depth 75=false:=by kernel_rfl
    clear hsb hsc hsb2 hch1 hch2 B1r B2r hz1
    subst hwr2 hwr1
    obtain ⟨r,HRR⟩:∃ r,Hid (((A.key.toList == key.toList) && (bsq == seq))=r):=⟨_,hide rfl⟩
    have heql:=eql_spot A.key key seg pos bsq seq r HRR.out
    rw [HRR.out] at HK
    cases r with
    | false =>
     have HK1:Hid ((if bsq=seq then valIn key (bch.drop (k+1)) else none)=X):=by show _=_;rw [← HK.out];simp
     clear HK HRR
     go_wp2
     go_roundw
     case rel => exact ⟨k+1,by go_num,by omega,HK1,BN⟩
     case measure => simp [intOf];omega
    | true =>
     cases hgo:A.gone with
     | true =>
      have HK1:Hid ((if bsq=seq then valIn key (bch.drop (k+1)) else none)=X):=by show _=_;rw [← HK.out];simp [hgo]
      rw [hgo] at hf1 hf2 hf3 hf4 hf5 hf6 hf7 hf8 hf9 hf0 BN hd2
      clear HK HRR hgo
      go_wp2
      go_roundw
      case rel => exact ⟨k+1,by go_num,by omega,HK1,BN⟩
      case measure => simp [intOf];omega
     | false =>
      have hX:Hid (X=some A.value):=by show _=_;rw [← HK.out];simp [hgo]
      rw [hgo] at hf1 hf2 hf3 hf4 hf5 hf6 hf7 hf8 hf9 hf0 BN2 hd2
      clear HK HRR hgo
      go_wp2
      go_ret2
      rw [hX.out]
      exact ⟨rfl,BN2.out⟩
   ·
    have hlt':decide ((k:Int) < (bch.length:Int))=false:=by simp;omega
    have hX:Hid (X=none):=by
     show _=_
     rw [← HK.out,List.drop_eq_nil_of_le (by omega)]
     simp [valIn]
    go_wp2
    go_ret2
    rw [hX.out]
    exact ⟨rfl,HBc.out.trans (HB.out.mono (by have:=HBc.out.size;omega))⟩
def contD (fs:List FileD) (dir:List SpotD):List ChangeD:=dir.map fun A => ⟨A.key,outTx (valD fs A),false⟩
theorem contD_len (fs:List FileD) (dir:List SpotD):(contD fs dir).length=dir.length:=by simp [contD]
theorem contD_take {fs:List FileD} {dir:List SpotD} {k:Nat} (h:k < dir.length):contD fs (dir.take (k+1))=contD fs (dir.take k) ++ [⟨dir[k].key,outTx (valD fs dir[k]),false⟩]:=by
 unfold contD
 rw [List.take_succ_eq_append_getElem h,List.map_append]
 rfl
theorem storeAt_dirC {w:World} {B g:Nat} {fs:List FileD} {room:Int} {vd vr vs:Value} (h:StoreAt w B g fs room vd vr vs) (z:Value):RowSpot (w.setCell ⟨g,0,none⟩ z) B vr (dirD fs):=by
 have hb:=h.blk
 refine rowSpot_keep h.dir (fun x hx => ?_)
 have hne:x ≠ g:=by
  rintro rfl
  rcases h.dir with ⟨rfl,-⟩ | ⟨g',cap,C,rfl,-,hC,-⟩
  · cases hx
  ·
   obtain rfl:g' = x:=by simpa [Value.ownBlock] using hx
   rw [hC] at hb
   simp at hb
 exact Below.heap_setCell _ _ _ _ hne
theorem rowChange_lock {w:World} {B g:Nat} {v:Value} {l:List ChangeD} {C:Array Value} (h:RowChange w B v l) (hb:w.heap[g]? = some (.cells C 128 (0,0))) (z:Value):RowChange (w.setCell ⟨g,0,none⟩ z) B v l:=by
 refine rowChange_keep h (fun x hx => ?_)
 have hne:x ≠ g:=by
  rintro rfl
  rcases h with ⟨rfl,-⟩ | ⟨g',cap,C,rfl,-,hC,-⟩
  · cases hx
  ·
   obtain rfl:g' = x:=by simpa [Value.ownBlock] using hx
   rw [hC] at hb
   simp at hb
 exact Below.heap_setCell _ _ _ _ hne
theorem contents_any (fs:List FileD) (room:Int) (wB:World) (g:Nat) (vd vr vs:Value) (w:World) (hl:fs.length≤1048576) (hsz:∀ F ∈ fs,F.name.size≤1048576∧F.text.size≤1048576) (hst:StoreAt w wB.heap.size g fs room vd vr vs) (hca:calmB fs=true) (hwB:Below wB.heap.size wB w) (hT:SumTab wB) :
  Calls Tryz.prog 44 #[.pointer (some ⟨g,0,none⟩)] w fun e w' => (∃ v,e=.returned v∧RowChange w' wB.heap.size v (contD fs (dirD fs)))∧Below wB.heap.size w w':=by
 have hA:(actsF fs (actsI fs)).1=fs:=by rw [calm_acts hca];rfl
 have hle:=hst.le
 have hd1:=storeAt_disk hst (.int .i32 1)
 have hs1:=storeAt_dirC hst (.int .i32 1)
 rw [hA] at hd1
 obtain ⟨ad,cd,rfl,hfs⟩:=rowF_at hd1
 obtain ⟨ar,cr,rfl,hds⟩:=rowSpot_at hs1
 have HFS:=hide hfs
 have HDS:=hide hds
 have HB1:=hide (storeAt_lock hst (.int .i32 1))
 have HK:=hide (eight_cells hst.blk)
 have hdl:=dirD_len fs
 have HKY:Hid (∀ A ∈ dirD fs,A.key.size≤1048576):=fun A hA => by have:=(segsL_tell fs).2.2.2.1 A hA;omega
 have HVO:=hide (fun s W h hk hT => implValueOf_any fs ad cd s W hl h hsz hk hT)
 clear hfs hds hd1 hs1 hst hsz
 obtain ⟨w1,hw1⟩:∃ w1,w1=w.setCell ⟨g,0,none⟩ (.int .i32 1):=⟨_,rfl⟩
 rw [← hw1] at HB1 HFS HDS
 have HW1:Hid (Below wB.heap.size w w1):=by show Below _ _ _;rw [hw1];exact (Below.refl _ w).setCell (p:=⟨g,0,none⟩) hle _
 have HWB:Hid (Below wB.heap.size wB w1):=hwB.trans HW1.out
 have HT1:Hid (SumTab w1):=sumTab_later HWB.out hT
 have hgl:g < w1.heap.size:=heap_lt HB1.out
 have hB1:wB.heap.size≤w1.heap.size:=Nat.le_of_lt (Nat.lt_of_le_of_lt hle hgl)
 obtain ⟨k0,k1,k2,k3,k4,k5,k6,k7,k8⟩:=eight_cells HB1.out
 clear hwB hT
 generalize dirD fs=D at HDS HKY hdl k6 HK HB1 ⊢
 go_enter_defers Tryz.func44,Tryz.ntmps44
 go_wp2_with fail
 refine (Go.MuLone.lock_free Tryz.muLib ⟨g,0,none⟩ w HK.out.1 HK.out.2.2.2.2.2.2.2.2).mono ?_
 rintro e w' ⟨rfl,rfl⟩
 rw [← hw1]
 clear hw1
 go_wp2_with fail
 go_loopw [3,21] (fun vo ii wr => ∃ (k:Nat),ii=.int .i64 k∧k≤D.length∧Hid (wr.ownsRow w1.heap.size 55 3 vo (contD fs (D.take k)).length (cellsChange (contD fs (D.take k))))∧Hid (Below w1.heap.size w1 wr)) (fun _ ii _ => D.length - (intOf ii).toNat)
 case atStart => exact ⟨0,rfl,Nat.zero_le _,World.ownsRow_nil _ _ _ _,Below.refl _ _⟩
 case round =>
  obtain ⟨k,rfl,hk,HO,HB⟩:=hrel
  have hws:=HB.out.size
  by_cases hlt:k < D.length
  ·
   have hlt':decide ((k:Int) < (D.length:Int))=true:=by simp;omega
   obtain ⟨b,off,rfl,hbw,hc0,hc1,hc2,hc3⟩:=spotsAt_keep HDS.out HB.out k hlt
   have HKK:=hide (HKY.out D[k] (List.getElem_mem hlt))
   have htk:=hide (contD_take (fs:=fs) hlt)
   generalize D[k]=A at hc0 hc1 hc2 hc3 HKK htk
   obtain ⟨L,HL⟩:∃ L,Hid (contD fs (D.take k)=L):=⟨_,hide rfl⟩
   have hLl:L.length≤1048576:=by
    rw [← HL.out,contD_len,List.length_take]
    omega
   rw [HL.out] at HO htk
   have hi0:(0:Int)≤(k:Int):=by omega
   have hi1:(k:Int) < (D.length:Int):=by omega
   obtain ⟨wn,hwn⟩:∃ x,x=wr.alloc (.cells #[.string A.key,.int .i64 A.seg,.int .i64 A.pos,.int .i64 A.seq] 75):=⟨_,rfl⟩
   have BN0:Hid (Below wr.heap.size wr wn):=by rw [hwn];exact (Below.refl _ _).alloc (Nat.le_refl _) _
   have BN:Hid (Below w1.heap.size w1 wn):=HB.out.trans (BN0.out.mono hws)
   have hbn:wn.heap[wr.heap.size]? = some (.cells #[.string A.key,.int .i64 A.seg,.int .i64 A.pos,.int .i64 A.seq] 75 (0,0)):=by rw [hwn];exact heap_alloc_new _ _
   have hf0:wn.cell? ⟨wr.heap.size,0,none⟩=some (.string A.key):=(cell_of_row wn _ 0 _ _ (0,0) hbn).trans rfl
   have hf1:wn.cell? ⟨wr.heap.size,1,none⟩=some (.int .i64 A.seg):=(cell_of_row wn _ 1 _ _ (0,0) hbn).trans rfl
   have hf2:wn.cell? ⟨wr.heap.size,2,none⟩=some (.int .i64 A.pos):=(cell_of_row wn _ 2 _ _ (0,0) hbn).trans rfl
   have hf3:wn.cell? ⟨wr.heap.size,3,none⟩=some (.int .i64 A.seq):=(cell_of_row wn _ 3 _ _ (0,0) hbn).trans rfl
   have hg2:wn.cell? ⟨g,2,none⟩=some (.slice ad fs.length cd):=(BN.out.cell (p:=⟨g,2,none⟩) hgl).trans k2
   have hnl:wr.heap.size < wn.heap.size:=heap_lt hbn
   have hgn:g < wn.heap.size:=Nat.lt_of_lt_of_le hgl BN.out.size
   clear hbn
   have HON:=hide (ownsRow_below HO.out BN0.out)
   go_wp2_with fail
   rw [← hwn] at ⊢
   clear hwn hc0 hc1 hc2 hc3
   have KS:Hid (∀ X,Below wn.heap.size wn X→(X.cell? ⟨g,2,none⟩=some (.slice ad fs.length cd)∧X.cell? ⟨wr.heap.size,0,none⟩=some (.string A.key)∧X.cell? ⟨wr.heap.size,1,none⟩=some (.int .i64 A.seg)∧X.cell? ⟨wr.heap.size,2,none⟩=some (.int .i64 A.pos)∧X.cell? ⟨wr.heap.size,3,none⟩=some (.int .i64 A.seq))):=fun X hX => ⟨(hX.cell (p:=⟨g,2,none⟩) hgn).trans hg2,(hX.cell (p:=⟨wr.heap.size,0,none⟩) hnl).trans hf0,(hX.cell (p:=⟨wr.heap.size,1,none⟩) hnl).trans hf1,(hX.cell (p:=⟨wr.heap.size,2,none⟩) hnl).trans hf2,(hX.cell (p:=⟨wr.heap.size,3,none⟩) hnl).trans hf3⟩
   obtain ⟨R,HR⟩:∃ R,Hid (valD fs A=R):=⟨_,hide rfl⟩
   rw [HR.out] at htk
   have HVA:Hid (∀ X,Below wn.heap.size wn X→Calls Tryz.prog 66 #[.agg #[.slice ad fs.length cd],.agg #[.string A.key,.int .i64 A.seg,.int .i64 A.pos,.int .i64 A.seq]] X fun e w' => e=.returned (.tuple #[.string (outTx R),.bool R.isSome])∧Below X.heap.size X w'):=fun X hX => by
    have h:=HVO.out A X (filesAt_keep HFS.out (BN.out.trans (hX.mono BN.out.size))) HKK.out (sumTab_later (BN.out.trans (hX.mono BN.out.size)) HT1.out)
    rw [HR.out] at h
    exact h
   go_region_held3 (fun w' => w'.cell? ⟨g,2,none⟩=some (.slice ad fs.length cd)∧w'.cell? ⟨wr.heap.size,0,none⟩=some (.string A.key)∧w'.cell? ⟨wr.heap.size,1,none⟩=some (.int .i64 A.seg)∧w'.cell? ⟨wr.heap.size,2,none⟩=some (.int .i64 A.pos)∧w'.cell? ⟨wr.heap.size,3,none⟩=some (.int .i64 A.seq)) ((refine KS.out _ ?_;first | (exact e2) | (exact (Below.refl _ _).drew) | fail)) ((go_at_call 66;refine (HVA.out _ ?_).mono ?_;exact (Below.refl _ _).drew;rintro e w2 ⟨rfl,b2⟩;have e2:Below wn.heap.size wn w2:=((Below.refl _ _).drew).trans b2))
   have E2:=hide e2
   have he2:=e2.size
   have hq0:=(KS.out _ e2).2.1
   clear e2 b2 KS HVA hf0 hf1 hf2 hf3 hg2
   go_wp2_with (at_builtin;refine app_change _ w1.heap.size (by rfl) _ _ (by rfl) _ L ⟨A.key,outTx R,false⟩ (by rfl) ((ownsRow_below HON.out E2.out).alloc _) w2.heap.size (by rfl) (heap_alloc_new w2 _) hLl (by simp;omega) ?_;intro g5 cap5 w5 ho5 hb5 hg5 hgl5;have HO5:=hide ho5;have HB5:=hide hb5;clear ho5 hb5 hg5 hgl5)
   go_roundw
   case rel =>
    refine ⟨k+1,by go_num,by omega,?_,((BN.out.trans (E2.out.mono BN.out.size)).alloc (by omega) _).trans HB5.out⟩
    show World.ownsRow _ _ _ _ _ _ _
    rw [htk.out]
    exact HO5.out
   case measure => simp [intOf];omega
  ·
   have hlt':decide ((k:Int) < (D.length:Int))=false:=by simp;omega
   have hke:k=D.length:=by omega
   subst hke
   rw [List.take_length] at HO
   have h2:=HB.out
   have h0:wr.cell? ⟨g,0,none⟩=some (.int .i32 1):=(h2.cell (p:=⟨g,0,none⟩) hgl).trans k0
   have hblk:=(h2.block _ hgl).trans HB1.out
   have HBL:=hide hblk
   have hz:wr.frozen? ⟨g,0,none⟩=false:=frozen_of_row wr g 0 _ _ hblk
   clear hblk
   go_wp2
   refine leaves_cons (f:=65) (args:=#[.pointer (some ⟨g,0,none⟩)]) (by simp) (by simp [go_sem]) ?_
   refine (Go.MuLone.unlock_deferred Tryz.muLib ⟨g,0,none⟩ .returning _ h0 hz).mono ?_
   rintro e u' w'' ⟨rfl,rfl,rfl⟩
   exact ⟨_,results_tmp rfl _ _ _,⟨_,rfl,rowChange_lock (rowChange_le (rowChange_own HO.out) hB1) HBL.out _⟩,(HW1.out.trans (h2.mono hB1)).setCell (p:=⟨g,0,none⟩) hle _⟩
end Go.Proofs.YtbenmgokhklnjaaGreatDoor
