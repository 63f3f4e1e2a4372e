import Derived.Test.YtepdckehokdjlaaGreatDoorMg26
import Derived.Test.YtepdckehokdjlaaGreatDoorMg34
import Derived.Test.YtepdckehokdjlaaGreatDoorMg35
import Derived.Test.YtepdckehokdjlaaGreatDoorMg36
set_option maxRecDepth 100000
set_option maxHeartbeats 3200000
namespace Go.Proofs.YtepdckehokdjlaaGreatDoor
open Go.RowKit
theorem actsS_sizes {fs:List FileD} (hsz:∀ F ∈ fs,F.name.size≤1048576∧F.text.size≤1048576):∀ A ∈ actsW fs,A.name.size≤1048576∧A.text.size≤1048576∧A.toN.size≤1048576:=by
 intro A hA
 unfold actsW at hA
 split at hA
 ·
  unfold actsS at hA
  rcases List.mem_append.1 hA with hA | hA
  ·
   unfold dropsS at hA
   rcases List.mem_append.1 hA with hA | hA
   ·
    split at hA
    ·
     obtain rfl:A=dropA nmNew:=by simpa using hA
     exact ⟨size_new,size_nil,size_nil⟩
    · exact absurd hA List.not_mem_nil
   ·
    obtain ⟨F,hF,rfl⟩:=List.mem_map.1 hA
    exact ⟨(hsz F (List.mem_filter.1 hF).1).1,size_nil,size_nil⟩
  · exact actsI_sizes hsz A (by unfold actsI;exact List.mem_append_right _ hA)
 · exact absurd hA List.not_mem_nil
theorem actsW_len (fs:List FileD):(actsW fs).length≤fs.length+4:=by
 unfold actsW
 split
 ·
  unfold actsS
  rw [List.length_append,show dropsS (firstG fs) fs=drop0 fs ++ dropsB (firstG fs) fs from rfl,List.length_append]
  have:=dropsB_len (firstG fs) fs
  have:=drop0_len fs
  have:(mendA fs).length≤3:=by
   unfold mendA
   split
   · exact Nat.le_refl _
   · exact Nat.zero_le _
  omega
 · exact Nat.zero_le _
theorem openSB_of {fs:List FileD} {room:Int} (hr:roomB room=true) (h1:seqsRise fs=true) (h2:allKeptD fs=true):openSB fs room=(wholeB fs && decide ((actsF fs (actsW fs)).2=(actsW fs).length)):=by
 unfold openSB soundB
 rw [hr,h1,h2]
 cases hw:wholeB fs with
 | false => rfl
 | true => rw [actsW_yes hw];rfl
theorem box5 {W:World} {β n:Nat} {w:World} {a0 a1 a2 a3 a4:Value} (v0 v1 v2 v3 v4:Value) (hb:W.heap[β]? = some (.cells #[a0,a1,a2,a3,a4] 34 (0,0))) (hB:Below n w W) (hn:n≤β) (W6:World) (hW:W6=((((W.setCell ⟨β,0,none⟩ v0).setCell ⟨β,1,none⟩ v1).setCell ⟨β,2,none⟩ v2).setCell ⟨β,3,none⟩ v3).setCell ⟨β,4,none⟩ v4) :
  W6.heap[β]? = some (.cells #[v0,v1,v2,v3,v4] 34 (0,0))∧Below n w W6∧W.grownBy W6 (some β):=by
 subst hW
 have c0:=(heap_setCell_same W β 0 _ _ v0 hb).trans rfl
 have c1:=(heap_setCell_same _ β 1 _ _ v1 c0).trans rfl
 have c2:=(heap_setCell_same _ β 2 _ _ v2 c1).trans rfl
 have c3:=(heap_setCell_same _ β 3 _ _ v3 c2).trans rfl
 have c4:=(heap_setCell_same _ β 4 _ _ v4 c3).trans rfl
 exact ⟨by rw [c4];rfl,((((hB.setCell (p:=⟨β,0,none⟩) hn _).setCell (p:=⟨β,1,none⟩) hn _).setCell (p:=⟨β,2,none⟩) hn _).setCell (p:=⟨β,3,none⟩) hn _).setCell (p:=⟨β,4,none⟩) hn _,grownBy_store (grownBy_store (grownBy_store (grownBy_store (grownBy_store (World.grownBy.refl W (some β)) 0 _) 1 _) 2 _) 3 _) 4 _⟩
theorem grow5 (W:World) (β:Nat) (v0 v1 v2 v3 v4:Value):W.grownBy (((((W.setCell ⟨β,0,none⟩ v0).setCell ⟨β,1,none⟩ v1).setCell ⟨β,2,none⟩ v2).setCell ⟨β,3,none⟩ v3).setCell ⟨β,4,none⟩ v4) (some β) :=
 grownBy_store (grownBy_store (grownBy_store (grownBy_store (grownBy_store (World.grownBy.refl W (some β)) 0 _) 1 _) 2 _) 3 _) 4 _
theorem files_box {W W6:World} {β B:Nat} {v:Value} {gs:List FileD} {C:Array Value} (h:RowF W B v gs) (hb:W.heap[β]? = some (.cells C 34 (0,0))) (hg:W.grownBy W6 (some β)):RowF W6 B v gs:=by
 refine rowF_grown h hg (fun g e e2 => ?_)
 rcases h with ⟨rfl,-⟩ | ⟨g',cap,C',rfl,-,hC,-⟩
 · cases e
 ·
  obtain rfl:g' = g:=by simpa [Value.ownBlock] using e
  cases e2
  rw [hb] at hC
  simp at hC
theorem spots_box {W W6:World} {β B:Nat} {v:Value} {gs:List SpotD} {C:Array Value} (h:RowSpot W B v gs) (hb:W.heap[β]? = some (.cells C 34 (0,0))) (hg:W.grownBy W6 (some β)):RowSpot W6 B v gs:=by
 refine rowSpot_grown h hg (fun g e e2 => ?_)
 rcases h with ⟨rfl,-⟩ | ⟨g',cap,C',rfl,-,hC,-⟩
 · cases e
 ·
  obtain rfl:g' = g:=by simpa [Value.ownBlock] using e
  cases e2
  rw [hb] at hC
  simp at hC
theorem acts_box {W W6:World} {β B n:Nat} {v:Value} {xs:List Value} {C:Array Value} (h:W.ownsRow B 51 4 v n xs) (hb:W.heap[β]? = some (.cells C 34 (0,0))) (hg:W.grownBy W6 (some β)):W6.ownsRow B 51 4 v n xs:=by
 refine World.ownsRow.kept h hg ?_
 cases hv:v.ownBlock with
 | none => exact .inl rfl
 | some g =>
  refine .inr (fun e => ?_)
  obtain ⟨C',hC⟩:=owns_block h hv
  cases e
  rw [hb] at hC
  simp at hC
theorem specOpenEngine_any (fs:List FileD) (ao:Option Addr) (cap:Nat) (room:Int) (w:World) (hl:fs.length≤1048576) (hfs:FilesAt w ao fs) (hsz:∀ F ∈ fs,F.name.size≤1048576∧F.text.size≤1048576) :
  Calls Tryz.prog 19 #[.agg #[.slice ao fs.length cap],.int .i64 room] w fun e w' => Below w.heap.size w w' ∧
   ((openSB fs room=true∧∃ vd vr va,e=.returned (.tuple #[.agg #[vd,.int .i64 room,.int .i64 ((lastG fs).num:Int),.int .i64 (seqD (segsL fs)),vr],va,.bool true])∧RowF w' w.heap.size vd (actsF fs (actsS fs)).1∧RowSpot w' w.heap.size vr (dirD fs)∧w'.ownsRow w.heap.size 51 4 va (actsS fs).length (cellsAct (actsS fs))) ∨
    (openSB fs room=false∧∃ va,e=.returned (.tuple #[.agg #[.slice none 0 0,.int .i64 0,.int .i64 0,.int .i64 0,.slice none 0 0],va,.bool false])∧w'.ownsRow w.heap.size 51 4 va 0 [])):=by
 have HF:=hide hfs
 have HS:=hide hsz
 have HSR:=hide (fun W hW => specSeqsRise_any fs ao cap W (by omega) hW hsz)
 have HAK:=hide (fun W hW => specAllKept_any fs ao cap W (by omega) hW hsz)
 have HSG:=hide (fun W hW => specSegments_any fs ao cap W (by omega) hW hsz)
 have HDO:=hide (fun W hW => specDirOf_any fs ao cap W (by omega) hW hsz)
 clear hfs
 obtain ⟨wb,hwb⟩:∃ wb,wb=((w.alloc (.cells #[.slice ao fs.length cap] 31)).alloc (.cells #[.slice none 0 0,.int .i64 0,.int .i64 0,.int .i64 0,.slice none 0 0] 34)).alloc (.cells #[] 51):=⟨_,rfl⟩
 have HB0:Hid (Below w.heap.size w wb):=by rw [hwb];exact (((Below.refl _ w).alloc (Nat.le_refl _) _).alloc (by simp) _).alloc (by simp;omega) _
 have hbs:wb.heap.size=w.heap.size+3:=by rw [hwb];simp
 have HBC:Hid (wb.heap[w.heap.size]? = some (.cells #[.slice ao fs.length cap] 31 (0,0))):=by
  show _=_
  rw [hwb]
  exact (Below.heap_alloc _ _ _ (by simp;omega)).trans ((Below.heap_alloc _ _ _ (by simp)).trans (heap_alloc_new w _))
 have HBE:Hid (wb.heap[w.heap.size+1]? = some (.cells #[.slice none 0 0,.int .i64 0,.int .i64 0,.int .i64 0,.slice none 0 0] 34 (0,0))):=by
  show _=_
  rw [hwb]
  refine (Below.heap_alloc _ _ _ (by simp)).trans ?_
  have:=heap_alloc_new (w.alloc (.cells #[.slice ao fs.length cap] 31)) (.cells #[.slice none 0 0,.int .i64 0,.int .i64 0,.int .i64 0,.slice none 0 0] 34)
  rwa [World.size_alloc] at this
 have HO0:Hid (wb.ownsRow w.heap.size 51 4 (.slice (some ⟨w.heap.size+1+1,0,none⟩) 0 0) 0 []):=by
  rw [hwb]
  have:=World.ownsRow_lit (e:=51) (size:=4) (base:=w.heap.size) ((w.alloc (.cells #[.slice ao fs.length cap] 31)).alloc (.cells #[.slice none 0 0,.int .i64 0,.int .i64 0,.int .i64 0,.slice none 0 0] 34)) #[] 0 (by simp;omega) (by unfold maxLen;omega) (by simp)
  show World.ownsRow _ _ _ _ _ _ _
  simpa using this
 have hbc:wb.cell? ⟨w.heap.size,0,none⟩=some (.slice ao fs.length cap):=(cell_of_row _ _ 0 _ _ (0,0) HBC.out).trans rfl
 obtain ⟨hz0,hz1,hz2,hz3,hz4,hf0,hf1,hf2,hf3,hf4⟩:=five_cells HBE.out
 have HIN:=hide (fun W => l01In_val room 100 20000 (roomB room) W rfl)
 cases hr:roomB room with
 | false =>
  rw [hr] at HIN
  have HE:Hid (openSB fs room=false):=by show _=_;unfold openSB;rw [hr];rfl
  clear hr
  go_enter Tryz.func19,Tryz.ntmps19
  go_wp2_with fail
  rw [← hwb]
  clear hwb
  refine (HIN.out _).mono ?_
  rintro e w1 ⟨rfl,hw1⟩
  subst hw1
  go_wp2
  obtain ⟨y0,y1,y2⟩:=box5 (.slice none 0 0) (.int .i64 0) (.int .i64 0) (.int .i64 0) (.slice none 0 0) HBE.out HB0.out (Nat.le_succ _) _ rfl
  obtain ⟨x0,x1,x2,x3,x4,-⟩:=five_cells y0
  have o9:=acts_box HO0.out HBE.out y2
  refine bodyPost_ret (v:=.tuple #[.agg #[.slice none 0 0,.int .i64 0,.int .i64 0,.int .i64 0,.slice none 0 0],.slice (some ⟨w.heap.size+1+1,0,none⟩) 0 0,.bool false]) ?_ rfl ?_
  · simp [results,Tryz.results19,go_sem,x0,x1,x2,x3,x4]
  · exact ⟨y1,.inr ⟨HE.out,_,rfl,o9⟩⟩
 | true =>
  rw [hr] at HIN
  have HR:=hide hr
  clear hr
  cases hq:seqsRise fs with
  | false =>
   rw [hq] at HSR
   have HE:Hid (openSB fs room=false):=by show _=_;unfold openSB soundB;rw [hq];simp
   clear hq
   go_enter Tryz.func19,Tryz.ntmps19
   go_wp2_with fail
   rw [← hwb]
   clear hwb
   refine (HIN.out _).mono ?_
   rintro e w1 ⟨rfl,hw1⟩
   subst hw1
   go_wp2_with fail
   refine (HSR.out _ (filesAt_keep HF.out HB0.out)).mono ?_
   rintro e w2 ⟨rfl,b2⟩
   have B2:=hide (HB0.out.trans (b2.mono HB0.out.size))
   have HE2:=hide ((b2.block _ (heap_lt HBE.out)).trans HBE.out)
   obtain ⟨hy0,hy1,hy2,hy3,hy4,hg0,hg1,hg2,hg3,hg4⟩:=five_cells HE2.out
   have O2:=hide (ownsRow_below HO0.out b2)
   clear b2
   go_wp2
   obtain ⟨y0,y1,y2⟩:=box5 (.slice none 0 0) (.int .i64 0) (.int .i64 0) (.int .i64 0) (.slice none 0 0) HE2.out B2.out (Nat.le_succ _) _ rfl
   obtain ⟨x0,x1,x2,x3,x4,-⟩:=five_cells y0
   have o9:=acts_box O2.out HE2.out y2
   refine bodyPost_ret (v:=.tuple #[.agg #[.slice none 0 0,.int .i64 0,.int .i64 0,.int .i64 0,.slice none 0 0],.slice (some ⟨w.heap.size+1+1,0,none⟩) 0 0,.bool false]) ?_ rfl ?_
   · simp [results,Tryz.results19,go_sem,x0,x1,x2,x3,x4]
   · exact ⟨y1,.inr ⟨HE.out,_,rfl,o9⟩⟩
  | true =>
   rw [hq] at HSR
   have HQ:=hide hq
   clear hq
   cases hk:allKeptD fs with
   | false =>
    rw [hk] at HAK
    have HE:Hid (openSB fs room=false):=by show _=_;unfold openSB soundB;rw [hk];simp
    clear hk
    go_enter Tryz.func19,Tryz.ntmps19
    go_wp2_with fail
    rw [← hwb]
    clear hwb
    refine (HIN.out _).mono ?_
    rintro e w1 ⟨rfl,hw1⟩
    subst hw1
    go_wp2_with fail
    refine (HSR.out _ (filesAt_keep HF.out HB0.out)).mono ?_
    rintro e w2 ⟨rfl,b2⟩
    have B2:=hide (HB0.out.trans (b2.mono HB0.out.size))
    have HE2:=hide ((b2.block _ (heap_lt HBE.out)).trans HBE.out)
    have hbc2:=(b2.cell (p:=⟨w.heap.size,0,none⟩) (by show w.heap.size < _;omega)).trans hbc
    have O2:=hide (ownsRow_below HO0.out b2)
    clear b2
    go_wp2_with fail
    refine (HAK.out _ (filesAt_keep HF.out B2.out)).mono ?_
    rintro e w3 ⟨rfl,b3⟩
    have B3:=hide (B2.out.trans (b3.mono B2.out.size))
    have HE3:=hide ((b3.block _ (heap_lt HE2.out)).trans HE2.out)
    obtain ⟨hy0,hy1,hy2,hy3,hy4,hg0,hg1,hg2,hg3,hg4⟩:=five_cells HE3.out
    have O3:=hide (ownsRow_below O2.out b3)
    clear b3
    go_wp2
    obtain ⟨y0,y1,y2⟩:=box5 (.slice none 0 0) (.int .i64 0) (.int .i64 0) (.int .i64 0) (.slice none 0 0) HE3.out B3.out (Nat.le_succ _) _ rfl
    obtain ⟨x0,x1,x2,x3,x4,-⟩:=five_cells y0
    have o9:=acts_box O3.out HE3.out y2
    refine bodyPost_ret (v:=.tuple #[.agg #[.slice none 0 0,.int .i64 0,.int .i64 0,.int .i64 0,.slice none 0 0],.slice (some ⟨w.heap.size+1+1,0,none⟩) 0 0,.bool false]) ?_ rfl ?_
    · simp [results,Tryz.results19,go_sem,x0,x1,x2,x3,x4]
    · exact ⟨y1,.inr ⟨HE.out,_,rfl,o9⟩⟩
   | true =>
    rw [hk] at HAK
    have HOB:=hide (openSB_of HR.out HQ.out hk)
    have hl30:fs.length≤30:=by
     have h:=hk
     unfold allKeptD at h
     rw [Bool.and_eq_true] at h
     exact (disk_files h.1).1
    clear hk
    go_enter Tryz.func19,Tryz.ntmps19
    go_wp2_with fail
    rw [← hwb]
    clear hwb
    refine (HIN.out _).mono ?_
    rintro e w1 ⟨rfl,hw1⟩
    subst hw1
    go_wp2_with fail
    refine (HSR.out _ (filesAt_keep HF.out HB0.out)).mono ?_
    rintro e w2 ⟨rfl,b2⟩
    have B2:=hide (HB0.out.trans (b2.mono HB0.out.size))
    have BB2:=hide b2
    have hbc2:=(b2.cell (p:=⟨w.heap.size,0,none⟩) (by show w.heap.size < _;omega)).trans hbc
    clear b2
    go_wp2_with fail
    refine (HAK.out _ (filesAt_keep HF.out B2.out)).mono ?_
    rintro e w3 ⟨rfl,b3⟩
    have B3:=hide (B2.out.trans (b3.mono B2.out.size))
    have BB3:=hide (BB2.out.trans (b3.mono BB2.out.size))
    have hbc3:=(BB3.out.cell (p:=⟨w.heap.size,0,none⟩) (by show w.heap.size < _;omega)).trans hbc
    clear b3
    go_wp2_with fail
    refine (HSG.out _ (filesAt_keep HF.out B3.out)).mono ?_
    rintro e w4 ⟨⟨v4,rfl,g4⟩,b4⟩
    obtain ⟨a4,c4,rfl⟩:=slice_form g4
    have B4:=hide (B3.out.trans (b4.mono B3.out.size))
    have BB4:=hide (BB3.out.trans (b4.mono BB3.out.size))
    have hbc4:=(BB4.out.cell (p:=⟨w.heap.size,0,none⟩) (by show w.heap.size < _;omega)).trans hbc
    have G4:=hide g4
    clear b4 g4
    obtain ⟨NL,HNL⟩:∃ n,Hid ((segsL fs).length=n):=⟨_,hide rfl⟩
    rw [List.length_map,HNL.out] at G4
    rw [List.length_map,HNL.out]
    have h0:0 < NL:=by
     have h:=HQ.out
     unfold seqsRise at h
     rw [Bool.and_eq_true] at h
     have h5:=h.1
     unfold segsOk at h5
     simp only [Bool.and_eq_true,decide_eq_true_eq] at h5
     rw [← HNL.out]
     unfold segsL
     rw [if_pos h.1]
     exact h5.2.2
    go_wp2_with fail
    refine (l08Acts_any fs ao cap a4 c4 NL _ _ (by omega) (filesAt_keep HF.out B4.out) HS.out HNL.out h0 G4.out).mono ?_
    rintro e w5 ⟨⟨v5,rfl,o5⟩,b5⟩
    obtain ⟨a5,c5,hv5,hA5⟩:=rowAct_at (rowAct_own o5)
    subst hv5
    have B5:=hide (B4.out.trans (b5.mono B4.out.size))
    have BB5:=hide (BB4.out.trans (b5.mono BB4.out.size))
    have hbc5:=(BB5.out.cell (p:=⟨w.heap.size,0,none⟩) (by show w.heap.size < _;omega)).trans hbc
    have O5:=hide (ownsRow_mono o5 B4.out.size)
    have HA5:=hide hA5
    have G5:=hide (ownsRow_below G4.out b5)
    have hWl:=actsW_len fs
    clear b5 o5 hA5
    go_wp2_with fail
    refine (specActsO_any fs ao cap (actsW fs) a5 c5 _ (by omega) (filesAt_keep HF.out B5.out) HS.out (by omega) HA5.out (actsS_sizes HS.out)).mono ?_
    rintro e w6 ⟨v6,rfl,r6,b6⟩
    have B6:=hide (B5.out.trans (b6.mono B5.out.size))
    have BB6:=hide (BB5.out.trans (b6.mono BB5.out.size))
    have O6:=hide (ownsRow_below O5.out b6)
    have R6:=hide (rowF_le r6 B5.out.size)
    have G6:=hide (ownsRow_below G5.out b6)
    have HE6:=hide ((BB6.out.block _ (heap_lt HBE.out)).trans HBE.out)
    have HBC6:=hide ((BB6.out.block _ (heap_lt HBC.out)).trans HBC.out)
    have N6:=hide (ownsRow_below HO0.out BB6.out)
    clear b6 r6 O5 G5 G4
    obtain ⟨a6,c6,hv6,-⟩:=rowF_at R6.out
    subst hv6
    obtain ⟨KA,HKA⟩:∃ n,Hid ((actsF fs (actsW fs)).2=n):=⟨_,hide rfl⟩
    obtain ⟨LA,HLA⟩:∃ n,Hid ((actsW fs).length=n):=⟨_,hide rfl⟩
    obtain ⟨D6,HD6⟩:∃ n,Hid ((actsF fs (actsW fs)).1=n):=⟨_,hide rfl⟩
    have hKL:KA≤LA:=by rw [← HKA.out,← HLA.out];exact actsF_le _ _
    rw [HKA.out,HLA.out] at HOB
    rw [HKA.out,HLA.out,HD6.out]
    rw [HD6.out] at R6
    obtain ⟨wM,hwM⟩:∃ x,x=w6.alloc (.cells #[.slice a6 D6.length c6] 31):=⟨_,rfl⟩
    have BM:Hid (Below w6.heap.size w6 wM):=by rw [hwM];exact (Below.refl _ w6).alloc (Nat.le_refl _) _
    have BwM:Hid (Below w.heap.size w wM):=B6.out.trans (BM.out.mono B6.out.size)
    have HEM:=hide ((BM.out.block _ (heap_lt HE6.out)).trans HE6.out)
    have HCM:=hide ((BM.out.block _ (heap_lt HBC6.out)).trans HBC6.out)
    have hbcM:wM.cell? ⟨w.heap.size,0,none⟩=some (.slice ao fs.length cap):=(cell_of_row _ _ 0 _ _ (0,0) HCM.out).trans rfl
    obtain ⟨hy0,hy1,hy2,hy3,hy4,hg0,hg1,hg2,hg3,hg4⟩:=five_cells HEM.out
    have NM:=hide (ownsRow_below N6.out BM.out)
    have hMc:wM.cell? ⟨w6.heap.size,0,none⟩=some (.slice a6 D6.length c6):=by rw [hwM];exact (cell_of_row _ _ 0 _ _ (0,0) (heap_alloc_new w6 _)).trans rfl
    cases hw:wholeB fs with
    | false =>
     rw [hw] at HOB
     have HE:Hid (openSB fs room=false):=HOB
     clear hw
     subst hwM
     go_wp2
     obtain ⟨y0,y1,y2⟩:=box5 (.slice none 0 0) (.int .i64 0) (.int .i64 0) (.int .i64 0) (.slice none 0 0) HEM.out BwM.out (Nat.le_succ _) _ rfl
     obtain ⟨x0,x1,x2,x3,x4,-⟩:=five_cells y0
     have o9:=acts_box NM.out HEM.out y2
     refine bodyPost_ret (v:=.tuple #[.agg #[.slice none 0 0,.int .i64 0,.int .i64 0,.int .i64 0,.slice none 0 0],.slice (some ⟨w.heap.size+1+1,0,none⟩) 0 0,.bool false]) ?_ rfl ?_
     · simp [results,Tryz.results19,go_sem,x0,x1,x2,x3,x4]
     · exact ⟨y1,.inr ⟨HE.out,_,rfl,o9⟩⟩
    | true =>
     rw [hw] at HOB
     have HWW:=hide (actsW_yes hw)
     clear hw
     by_cases hka:KA < LA
     ·
      have hka':decide ((KA:Int) < (LA:Int))=true:=by rw [decide_eq_true_eq];omega
      have HE:Hid (openSB fs room=false):=by show _=_;rw [HOB.out,Bool.true_and,decide_eq_false_iff_not];omega
      subst hwM
      go_wp2
      obtain ⟨y0,y1,y2⟩:=box5 (.slice none 0 0) (.int .i64 0) (.int .i64 0) (.int .i64 0) (.slice none 0 0) HEM.out BwM.out (Nat.le_succ _) _ rfl
      obtain ⟨x0,x1,x2,x3,x4,-⟩:=five_cells y0
      have o9:=acts_box NM.out HEM.out y2
      refine bodyPost_ret (v:=.tuple #[.agg #[.slice none 0 0,.int .i64 0,.int .i64 0,.int .i64 0,.slice none 0 0],.slice (some ⟨w.heap.size+1+1,0,none⟩) 0 0,.bool false]) ?_ rfl ?_
      · simp [results,Tryz.results19,go_sem,x0,x1,x2,x3,x4]
      · exact ⟨y1,.inr ⟨HE.out,_,rfl,o9⟩⟩
     ·
      have hka':decide ((KA:Int) < (LA:Int))=false:=by rw [decide_eq_false_iff_not];omega
      have HE:Hid (openSB fs room=true):=by show _=_;rw [HOB.out,Bool.true_and,decide_eq_true_eq];omega
      have hM6:w6.heap.size < wM.heap.size:=by rw [hwM];simp
      subst hwM
      go_wp2_with fail
      refine (HDO.out _ (filesAt_keep HF.out BwM.out)).mono ?_
      rintro e w7 ⟨⟨v7,rfl,r7⟩,b7⟩
      obtain ⟨a7,c7,hv7,-⟩:=rowSpot_at r7
      subst hv7
      have B67:=hide (BM.out.trans (b7.mono BM.out.size))
      have B7:=hide (B6.out.trans (B67.out.mono B6.out.size))
      have hbc7:=(b7.cell (p:=⟨w.heap.size,0,none⟩) (by show w.heap.size < _;have:=B6.out.size;have:=BB6.out.size;omega)).trans hbcM
      have hM7:=(b7.cell (p:=⟨w6.heap.size,0,none⟩) hM6).trans hMc
      have HE7:=hide ((b7.block _ (heap_lt HEM.out)).trans HEM.out)
      have O7:=hide (ownsRow_below O6.out B67.out)
      have R7:=hide (rowF_below R6.out B67.out)
      have D7:=hide (rowSpot_le r7 BwM.out.size)
      have G7:=hide (ownsRow_below G6.out B67.out)
      clear b7 r7 hbcM hMc hy0 hy1 hy2 hy3 hy4 hg0 hg1 hg2 hg3 hg4 HEM HCM O6 R6 G6
      obtain ⟨hy0,hy1,hy2,hy3,hy4,hg0,hg1,hg2,hg3,hg4⟩:=five_cells HE7.out
      have h0l:0 < (segsL fs).length:=by rw [HNL.out];exact h0
      obtain ⟨Z,HZ⟩:∃ Z,Hid ((segsL fs)[(segsL fs).length - 1]'(by omega)=Z):=⟨_,hide rfl⟩
      have HLG:Hid (lastG fs=Z):=by
       show _=_
       unfold lastG
       rw [List.getLast?_eq_getElem?,List.getElem?_eq_getElem (by omega),HZ.out]
       rfl
      obtain ⟨gl,hgl,hglw,hcl⟩:=num_cell G7.out (NL - 1) (by omega) Z.num (by rw [List.getElem?_map,← HNL.out,List.getElem?_eq_getElem (by omega),Option.map_some,HZ.out])
      subst hgl
      have hN1:NL≤100:=by rw [← HNL.out];exact segsL_len fs
      obtain ⟨m,hm⟩:∃ m,NL=m+1:=⟨NL - 1,by omega⟩
      subst hm
      rw [Nat.add_sub_cancel] at hcl
      have hj0:(0:Int)≤(m:Int):=by omega
      have hj1:(m:Int) < ((m+1:Nat):Int):=by omega
      have hj2:(m:Int) < (m:Int)+1:=by omega
      have hjw:IntKind.i64.wrap (((m+1:Nat):Int) - 1)=(m:Int):=by rw [IntKind.wrap_i64];omega
      have hjv:IntKind.i64.wrap ((m:Int)+1 - 1)=(m:Int):=by rw [IntKind.wrap_i64];omega
      have hju:IntKind.i64.wrap (m:Int)=(m:Int):=by rw [IntKind.wrap_i64];omega
      have HLQ:=hide (fun W h1 h2 => l08Seq_any fs ao cap (some ⟨gl,0,none⟩) c4 (m+1) w3.heap.size W (by omega) h1 HS.out HNL.out h2)
      have hw67:w6.heap.size < w7.heap.size:=World.block_lt_of_cell? _ _ hM7
      have hw07:w.heap.size < w7.heap.size:=World.block_lt_of_cell? _ _ hbc7
      have hne6:w6.heap.size ≠ w.heap.size+1:=by have:=BB6.out.size;omega
      have hneg:gl ≠ w.heap.size+1:=by
       rintro rfl
       obtain ⟨C',hC⟩:=owns_block G7.out (g:=w.heap.size+1) rfl
       rw [HE7.out] at hC
       simp at hC
      have KS:Hid (∀ X,Below w7.heap.size w7 X→(X.cell? ⟨w6.heap.size,0,none⟩=some (.slice a6 D6.length c6)∧X.cell? ⟨w.heap.size,0,none⟩=some (.slice ao fs.length cap)∧X.cell? ⟨gl,m,none⟩=some (.int .i64 (Z.num:Int)))):=fun X hX => ⟨(hX.cell (p:=⟨w6.heap.size,0,none⟩) hw67).trans hM7,(hX.cell (p:=⟨w.heap.size,0,none⟩) hw07).trans hbc7,(hX.cell (p:=⟨gl,m,none⟩) hglw).trans hcl⟩
      obtain ⟨SQ,HSQ⟩:∃ q,Hid (seqD (segsL fs)=q):=⟨_,hide rfl⟩
      rw [HSQ.out] at HLQ
      have HLW:Hid (∀ X,Below w7.heap.size w7 X→Calls Tryz.prog 56 #[.agg #[.slice ao fs.length cap],.slice (some ⟨gl,0,none⟩) (m+1) c4] X fun e w' => e=.returned (.int .i64 SQ)∧Below X.heap.size X w'):=fun X hX => HLQ.out X (filesAt_keep HF.out (B7.out.trans (hX.mono B7.out.size))) (ownsRow_below G7.out hX)
      have KX:Hid (∀ X,Below w7.heap.size w7 X→∀ v0 v1 v2 v3 v4:Value,((((((X.setCell ⟨w.heap.size+1,0,none⟩ v0).setCell ⟨w.heap.size+1,1,none⟩ v1).setCell ⟨w.heap.size+1,2,none⟩ v2).setCell ⟨w.heap.size+1,3,none⟩ v3).setCell ⟨w.heap.size+1,4,none⟩ v4).cell? ⟨w6.heap.size,0,none⟩=some (.slice a6 D6.length c6)∧(((((X.setCell ⟨w.heap.size+1,0,none⟩ v0).setCell ⟨w.heap.size+1,1,none⟩ v1).setCell ⟨w.heap.size+1,2,none⟩ v2).setCell ⟨w.heap.size+1,3,none⟩ v3).setCell ⟨w.heap.size+1,4,none⟩ v4).cell? ⟨w.heap.size,0,none⟩=some (.slice ao fs.length cap)∧(((((X.setCell ⟨w.heap.size+1,0,none⟩ v0).setCell ⟨w.heap.size+1,1,none⟩ v1).setCell ⟨w.heap.size+1,2,none⟩ v2).setCell ⟨w.heap.size+1,3,none⟩ v3).setCell ⟨w.heap.size+1,4,none⟩ v4).cell? ⟨gl,m,none⟩=some (.int .i64 (Z.num:Int)))):=fun X hX v0 v1 v2 v3 v4 => by
       obtain ⟨k1,k2,k3⟩:=KS.out X hX
       have y2:=grow5 X (w.heap.size+1) v0 v1 v2 v3 v4
       exact ⟨cells_grown y2 k1 hne6,cells_grown y2 k2 (by omega),cells_grown y2 k3 hneg⟩
      go_wp2_with fail
      clear HSR HAK HSG HDO HIN HOB HKA HLQ HNL HZ B2 B3 B4 B5 B6 BB2 BB3 BB4 BB5 BB6 BM BwM hM6 N6 NM hbc hbc2 hbc3 hbc4 hbc5 HBC HBE HO0 HE6 HBC6 hz0 hz1 hz2 hz3 hz4 hf0 hf1 hf2 hf3 hf4 HA5 B67 HF HS hsz hWl hl30
      go_region_held3 (fun w' => w'.cell? ⟨w6.heap.size,0,none⟩=some (.slice a6 D6.length c6)∧w'.cell? ⟨w.heap.size,0,none⟩=some (.slice ao fs.length cap)∧w'.cell? ⟨gl,m,none⟩=some (.int .i64 (Z.num:Int))) (first | (refine KS.out _ ?_;first | (exact e8) | (exact (Below.refl _ _).drew) | fail) | (exact KX.out _ e8 _ _ _ _ _) | fail) ((go_at_call 56;refine (HLW.out _ ?_).mono ?_;exact (Below.refl _ _).drew;rintro e w8 ⟨rfl,b8⟩;have e8:Below w7.heap.size w7 w8:=((Below.refl _ _).drew).trans b8;have HE8:=hide ((e8.block _ (heap_lt HE7.out)).trans HE7.out);obtain ⟨hv0,hv1,hv2,hv3,hv4,hu0,hu1,hu2,hu3,hu4⟩:=five_cells HE8.out))
      all_goals (try go_wp2)
      obtain ⟨y0,y1,y2⟩:=box5 (.slice a6 D6.length c6) (.int .i64 room) (.int .i64 (Z.num:Int)) (.int .i64 SQ) (.slice a7 (dirD fs).length c7) HE8.out (B7.out.trans (e8.mono B7.out.size)) (Nat.le_succ _) _ rfl
      obtain ⟨x0,x1,x2,x3,x4,-⟩:=five_cells y0
      have o9:=acts_box (ownsRow_below O7.out e8) HE8.out y2
      have r9:=files_box (rowF_below R7.out e8) HE8.out y2
      have d9:=spots_box (rowSpot_below D7.out e8) HE8.out y2
      rw [show (Value.slice a5 (actsW fs).length c5)=.slice a5 LA c5 from by rw [HLA.out],HWW.out] at o9
      refine bodyPost_ret (v:=.tuple #[.agg #[.slice a6 D6.length c6,.int .i64 room,.int .i64 (Z.num:Int),.int .i64 SQ,.slice a7 (dirD fs).length c7],.slice a5 LA c5,.bool true]) ?_ rfl ?_
      · simp [results,Tryz.results19,go_sem,x0,x1,x2,x3,x4]
      ·
       refine ⟨y1,.inl ⟨HE.out,.slice a6 D6.length c6,.slice a7 (dirD fs).length c7,.slice a5 LA c5,?_,?_,d9,o9⟩⟩
       · rw [HLG.out,HSQ.out]
       ·
        rw [← HWW.out,HD6.out]
        exact r9
theorem openS_calm {fs:List FileD} {room:Int} (h:calmB fs=true):openSB fs room=(roomB room && soundB fs):=by
 unfold openSB
 rw [(actsS_empty fs).2 (calm_acts h)]
 simp [actsF]
theorem eng_not_openS {fs:List FileD} {room act seq:Int} {dir:List SpotD} (h:openSB fs room=false):¬ engB fs room act seq dir:=fun he => by
 rw [openS_calm he.2.2.1,he.1,he.2.1] at h
 cases h
theorem openS_room {fs:List FileD} {room:Int} (h:openSB fs room=true):roomB room=true∧soundB fs=true:=by
 unfold openSB at h
 simp only [Bool.and_eq_true] at h
 exact ⟨h.1,h.2.1⟩
theorem calm_of_S {fs:List FileD} (h:(actsS fs).length=0):calmB fs=true:=by
 unfold calmB
 rw [(actsS_empty fs).1 (List.eq_nil_of_length_eq_zero h)]
 rfl
theorem specEngineOk_any (fs:List FileD) (ao ad:Option Addr) (cap cd:Nat) (room act seq:Int) (dir:List SpotD) (w:World) (hl:fs.length≤1048576) (hfs:FilesAt w ao fs) (hsz:∀ F ∈ fs,F.name.size≤1048576∧F.text.size≤1048576) (hld:dir.length≤1048576) (hds:SpotsAt w ad dir) :
  Calls Tryz.prog 35 #[.agg #[.slice ao fs.length cap,.int .i64 room,.int .i64 act,.int .i64 seq,.slice ad dir.length cd]] w fun e w' => e=.returned (.bool (engOkB fs room act seq dir))∧Below w.heap.size w w':=by
 have HF:=hide hfs
 have HD:=hide hds
 have HOS:=hide (fun W hW => specOpenEngine_any fs ao cap room W hl hW hsz)
 clear hfs hds hsz
 obtain ⟨wb,hwb⟩:∃ wb,wb=w.alloc (.cells #[.slice ao fs.length cap,.int .i64 room,.int .i64 act,.int .i64 seq,.slice ad dir.length cd] 34):=⟨_,rfl⟩
 have HB0:Hid (Below w.heap.size w wb):=by rw [hwb];exact (Below.refl _ w).alloc (Nat.le_refl _) _
 have HBK:Hid (wb.heap[w.heap.size]? = some (.cells #[.slice ao fs.length cap,.int .i64 room,.int .i64 act,.int .i64 seq,.slice ad dir.length cd] 34 (0,0))):=by rw [hwb];exact heap_alloc_new w _
 obtain ⟨hz0,hz1,hz2,hz3,hz4,-⟩:=five_cells HBK.out
 obtain ⟨R,HR⟩:∃ R,Hid (engOkB fs room act seq dir=R):=⟨_,hide rfl⟩
 rw [HR.out]
 go_enter Tryz.func35,Tryz.ntmps35
 go_wp2_with fail
 rw [← hwb]
 clear hwb
 go_wp2_with fail
 refine (HOS.out _ (filesAt_keep HF.out HB0.out)).mono ?_
 rintro e w1 ⟨b1,⟨ho,vd,vr,va,rfl,hrf,hrs,hac⟩ | ⟨ho,va,rfl,hac⟩⟩
 ·
  obtain ⟨ad3,cd3,hvd,-⟩:=rowF_at hrf
  obtain ⟨ar3,cr3,hvr,hvr2⟩:=rowSpot_at hrs
  obtain ⟨aa,ca,hva⟩:=slice_form hac
  subst hvd hvr hva
  have B1:=hide (HB0.out.trans (b1.mono HB0.out.size))
  have HBK1:=hide ((b1.block _ (heap_lt HBK.out)).trans HBK.out)
  have HRM:=openS_room ho
  have HVR:=hide hvr2
  obtain ⟨DL,HDL⟩:∃ d,Hid (dirD fs=d):=⟨_,hide rfl⟩
  obtain ⟨AL,HAL⟩:∃ n,Hid ((actsS fs).length=n):=⟨_,hide rfl⟩
  obtain ⟨NU,HNU⟩:∃ n:Nat,Hid ((lastG fs).num=n):=⟨_,hide rfl⟩
  obtain ⟨SQ,HSQ⟩:∃ n,Hid (seqD (segsL fs)=n):=⟨_,hide rfl⟩
  generalize (actsF fs (actsS fs)).1.length=FL
  rw [HDL.out] at HVR
  rw [HDL.out,HAL.out,HNU.out,HSQ.out]
  have hDl:DL.length≤666700:=by rw [← HDL.out];exact dirD_len fs
  clear hrf hrs hac hvr2 b1 hz0 hz1 hz2 hz3 hz4
  obtain ⟨wX,hwX⟩:∃ x,x=w1.alloc (.cells #[.slice ad3 FL cd3,.int .i64 room,.int .i64 (NU:Int),.int .i64 SQ,.slice ar3 DL.length cr3] 34):=⟨_,rfl⟩
  have BX:Hid (Below w1.heap.size w1 wX):=by rw [hwX];exact (Below.refl _ w1).alloc (Nat.le_refl _) _
  have BwX:Hid (Below w.heap.size w wX):=B1.out.trans (BX.out.mono B1.out.size)
  have HBX:=hide ((BX.out.block _ (heap_lt HBK1.out)).trans HBK1.out)
  have HXX:Hid (wX.heap[w1.heap.size]? = some (.cells #[.slice ad3 FL cd3,.int .i64 room,.int .i64 (NU:Int),.int .i64 SQ,.slice ar3 DL.length cr3] 34 (0,0))):=by rw [hwX];exact heap_alloc_new w1 _
  have HD1:=hide (spotsAt_keep HVR.out BX.out)
  have HD2:=hide (spotsAt_keep HD.out BwX.out)
  obtain ⟨hy0,hy1,hy2,hy3,hy4,-⟩:=five_cells HBX.out
  obtain ⟨hx0,hx1,hx2,hx3,hx4,-⟩:=five_cells HXX.out
  have HNO:Hid (¬ (AL=0∧(NU:Int)=act∧SQ=seq∧DL=dir)→R=false):=fun h => HR.out.symm.trans <| engOkB_no (fun he => h ⟨by rw [← HAL.out,(actsS_empty fs).2 (calm_acts he.2.2.1)];rfl,by rw [← HNU.out];exact he.2.2.2.1,by rw [← HSQ.out];exact he.2.2.2.2.1,by rw [← HDL.out];exact he.2.2.2.2.2⟩)
  have HYS:Hid (AL=0→(NU:Int)=act→SQ=seq→DL=dir→R=true):=fun h1 h2 h3 h4 => HR.out.symm.trans <| engOkB_yes ⟨HRM.1,HRM.2,calm_of_S (by rw [HAL.out];exact h1),by rw [HNU.out];exact h2,by rw [HSQ.out];exact h3,by rw [HDL.out];exact h4⟩
  clear HRM HOS
  subst hwX
  by_cases ha0:AL=0
  ·
   subst ha0
   by_cases hna:(NU:Int)=act
   ·
    subst hna
    have hna':((NU:Int) != (NU:Int))=false:=by simp
    by_cases hsq:SQ=seq
    ·
     subst hsq
     have hsq':(SQ != SQ)=false:=by simp
     by_cases hln:DL.length=dir.length
     ·
      have hln':(((DL.length:Int)) != ((dir.length:Int)))=false:=by rw [bne_eq_false_iff_eq];omega
      have HLN:=hide hln
      clear hln
      go_wp2_with fail
      go_loopw [6] (fun ii wr => ∃ (k:Nat),ii=.int .i64 k∧k≤DL.length∧Hid (∀ j (h1:j < DL.length) (h2:j < dir.length),j < k→spotEq DL[j] dir[j]=true)∧Hid (Below (w1.alloc (.cells #[.slice ad3 FL cd3,.int .i64 room,.int .i64 (NU:Int),.int .i64 SQ,.slice ar3 DL.length cr3] 34)).heap.size (w1.alloc (.cells #[.slice ad3 FL cd3,.int .i64 room,.int .i64 (NU:Int),.int .i64 SQ,.slice ar3 DL.length cr3] 34)) wr)) (fun ii _ => DL.length - (intOf ii).toNat)
      case atStart => exact ⟨0,rfl,Nat.zero_le _,fun j _ _ h => absurd h (by omega),Below.refl _ _⟩
      case round =>
       obtain ⟨k,rfl,hk,HK,HB⟩:=hrel
       obtain ⟨hy0,hy1,hy2,hy3,hy4,-⟩:=five_cells ((HB.out.block _ (heap_lt HBX.out)).trans HBX.out)
       obtain ⟨hx0,hx1,hx2,hx3,hx4,-⟩:=five_cells ((HB.out.block _ (heap_lt HXX.out)).trans HXX.out)
       have HBf:=hide (BwX.out.trans (HB.out.mono BwX.out.size))
       by_cases hlt:k < DL.length
       ·
        have hlt':decide ((k:Int) < (DL.length:Int))=true:=by simp;omega
        have hi0:(0:Int)≤(k:Int):=by omega
        have hi1:(k:Int) < (DL.length:Int):=by omega
        have hkb:k < dir.length:=by have:=HLN.out;omega
        have hi2:(k:Int) < (dir.length:Int):=by omega
        obtain ⟨b1,o1,hab1,hw1,d0,d1,d2,d3⟩:=spotsAt_keep HD1.out HB.out k hlt
        obtain ⟨b2,o2,hab2,hw2,e0,e1,e2,e3⟩:=spotsAt_keep HD2.out HB.out k hkb
        have hnq:=neq_spot DL[k] dir[k]
        have HNE:Hid (spotEq DL[k] dir[k]=false→R=false):=fun h => HNO.out (fun h9 => by
         have e9:=h9.2.2.2
         subst e9
         rw [(spotEq_iff _ _).2 rfl] at h
         cases h)
        have HYY:Hid (spotEq DL[k] dir[k]=true→∀ j (h1:j < DL.length) (h2:j < dir.length),j < k+1→spotEq DL[j] dir[j]=true):=by
         intro h j h1 h2 hj
         by_cases hjk:j < k
         · exact HK.out j h1 h2 hjk
         ·
          obtain rfl:j=k:=by omega
          exact h
        generalize DL[k]=A at d0 d1 d2 d3 hnq HNE HYY
        generalize dir[k]=D at e0 e1 e2 e3 hnq HNE HYY
        subst hab1 hab2
        cases hq:spotEq A D with
        | true =>
         rw [hq] at hnq HYY
         go_wp2_with fail
         go_quiet (fail)
         go_wp2_with fail
         go_roundw
         case rel => exact ⟨k+1,by go_num,by omega,HYY.out (by first | rfl | trivial),below_drewN HB.out _⟩
         case measure => simp [intOf];omega
        | false =>
         rw [hq] at hnq HNE
         have hR:=hide (HNE.out rfl)
         go_wp2_with fail
         go_quiet (fail)
         go_wp2
         go_ret
         rw [hR.out]
         exact ⟨rfl,below_drewN HBf.out _⟩
       ·
        have hlt':decide ((k:Int) < (DL.length:Int))=false:=by simp;omega
        have hR:=hide (HYS.out (by first | rfl | trivial) (by first | rfl | trivial) (by first | rfl | trivial) ((spotsEq_iff _ _).1 (spotsEq_all HLN.out (fun j h1 h2 => HK.out j h1 h2 (by omega)))))
        go_wp2
        go_ret
        rw [hR.out]
        exact ⟨rfl,HBf.out⟩
     ·
      have hln':(((DL.length:Int)) != ((dir.length:Int)))=true:=by rw [bne_iff_ne];omega
      have hR:=hide (HNO.out (fun h => hln (by rw [h.2.2.2])))
      clear hln
      go_wp2
      go_ret
      rw [hR.out]
      exact ⟨rfl,BwX.out⟩
    ·
     have hsq':(SQ != seq)=true:=by rw [bne_iff_ne];exact hsq
     have hR:=hide (HNO.out (fun h => hsq h.2.2.1))
     clear hsq
     go_wp2
     go_ret
     rw [hR.out]
     exact ⟨rfl,BwX.out⟩
   ·
    have hna':((NU:Int) != act)=true:=by rw [bne_iff_ne];exact hna
    have hR:=hide (HNO.out (fun h => hna h.2.1))
    clear hna
    go_wp2
    go_ret
    rw [hR.out]
    exact ⟨rfl,BwX.out⟩
  ·
   have ha0':decide ((0:Int) < (AL:Int))=true:=by rw [decide_eq_true_eq];omega
   have ha0n:decide (0 < AL)=true:=by rw [decide_eq_true_eq];omega
   have hR:=hide (HNO.out (fun h => ha0 h.1))
   clear ha0
   go_wp2
   go_ret
   rw [hR.out]
   exact ⟨rfl,BwX.out⟩
 ·
  have HE:=hide (engOkB_no (eng_not_openS (act:=act) (seq:=seq) (dir:=dir) ho))
  obtain ⟨aa,ca,rfl⟩:=slice_form hac
  have hR:Hid (R=false):=HR.out.symm.trans HE.out
  go_wp2
  go_ret
  rw [hR.out]
  exact ⟨rfl,(HB0.out.trans (b1.mono HB0.out.size)).alloc (by have:=HB0.out.size;have:=b1.size;omega) _⟩
end Go.Proofs.YtepdckehokdjlaaGreatDoor
