import Derived.Test.YtepdckehokdjlaaGreatDoorMg10
import Derived.Test.YtepdckehokdjlaaGreatDoorMg29
import Derived.Test.YtepdckehokdjlaaGreatDoorMg30
import Derived.Test.YtepdckehokdjlaaGreatDoorMg18
set_option maxRecDepth 100000
set_option maxHeartbeats 12000000
namespace Go.Proofs.YtepdckehokdjlaaGreatDoor
open Go.RowKit
theorem file_cell {w:World} {b:Nat} {x y:ByteArray} {z:Int} {t:TypeId} (h:w.heap[b]? = some (.cells #[.string x,.string y,.int .i64 z] t (0,0))):w.cell? ⟨b,0,none⟩=some (.string x)∧w.cell? ⟨b,1,none⟩=some (.string y)∧w.cell? ⟨b,2,none⟩=some (.int .i64 z) :=
 ⟨(cell_of_row w b 0 _ _ (0,0) h).trans rfl,(cell_of_row w b 1 _ _ (0,0) h).trans rfl,(cell_of_row w b 2 _ _ (0,0) h).trans rfl⟩
theorem act_cell {w:World} {b:Nat} {k:Int} {x y z:ByteArray} {t:TypeId} (h:w.heap[b]? = some (.cells #[.int .i64 k,.string x,.string y,.string z] t (0,0))):w.cell? ⟨b,0,none⟩=some (.int .i64 k)∧w.cell? ⟨b,1,none⟩=some (.string x)∧w.cell? ⟨b,2,none⟩=some (.string y)∧w.cell? ⟨b,3,none⟩=some (.string z) :=
 ⟨(cell_of_row w b 0 _ _ (0,0) h).trans rfl,(cell_of_row w b 1 _ _ (0,0) h).trans rfl,(cell_of_row w b 2 _ _ (0,0) h).trans rfl,(cell_of_row w b 3 _ _ (0,0) h).trans rfl⟩
theorem cell_other {w:World} {p q:Addr} {u V:Value} (h:w.cell? q=some u) (hlt:q.block < p.block):(w.setCell p V).cell? q=some u :=
 (((Below.refl p.block w).setCell (p:=p) (Nat.le_refl _) V).cell (p:=q) hlt).trans h
theorem put_sizes {fs:List FileD} {F:FileD} (h:∀ G ∈ fs,G.name.size≤maxLen∧G.text.size≤maxLen) (h1:F.name.size≤maxLen) (h2:F.text.size≤maxLen):∀ G ∈ putD fs F,G.name.size≤maxLen∧G.text.size≤maxLen:=by
 intro G hG
 rcases mem_putD.1 hG with ⟨hm,_⟩ | rfl | ⟨hm,_⟩
 · exact h G hm
 · exact ⟨h1,h2⟩
 · exact h G hm
theorem specAct_any (fs:List FileD) (ao:Option Addr) (cap:Nat) (A:ActD) (w:World) (hl:fs.length≤1048576) (hfs:FilesAt w ao fs) (hsz:∀ F ∈ fs,F.name.size≤1048576∧F.text.size≤1048576) (hA1:A.name.size≤1048576) (hA2:A.text.size≤1048576) (hA3:A.toN.size≤1048576) :
  Calls Tryz.prog 17 #[.agg #[.slice ao fs.length cap],.agg #[.int .i64 A.kind,.string A.name,.string A.text,.string A.toN]] w fun e w' => ∃ v,e=.returned (.tuple #[.agg #[v],.bool (actD fs A).isSome])∧RowF w' w.heap.size v ((actD fs A).getD [])∧Below w.heap.size w w':=by
 obtain ⟨kd,nm,tx,tt⟩:=A
 simp only at hA1 hA2 hA3 ⊢
 have HF:=hide hfs
 have HS:=hide hsz
 clear hfs hsz
 obtain ⟨wb,hwb⟩:∃ wb,wb=((w.alloc (.cells #[.slice ao fs.length cap] 31)).alloc (.cells #[.int .i64 kd,.string nm,.string tx,.string tt] 51)).alloc (.cells #[.slice none 0 0] 31):=⟨_,rfl⟩
 have hbs:wb.heap.size=w.heap.size+1+1+1:=by rw [hwb];simp
 have HB_wb:Hid (Below w.heap.size w wb):=by rw [hwb];exact (((Below.refl _ w).alloc (Nat.le_refl _) _).alloc (by simp) _).alloc (by simp;omega) _
 have D_wb:Hid (wb.heap[w.heap.size]? = some (.cells #[.slice ao fs.length cap] 31 (0,0))):=by rw [hwb];exact blk_below (blk_below (heap_alloc_new w _) ((Below.refl _ _).alloc (Nat.le_refl _) _)) ((Below.refl _ _).alloc (Nat.le_refl _) _)
 have A_wb:Hid (wb.heap[w.heap.size+1]? = some (.cells #[.int .i64 kd,.string nm,.string tx,.string tt] 51 (0,0))):=by
  rw [hwb]
  refine blk_below ?_ ((Below.refl _ _).alloc (Nat.le_refl _) _)
  rw [show w.heap.size+1=(w.alloc (.cells #[.slice ao fs.length cap] 31)).heap.size from by simp]
  exact heap_alloc_new _ _
 have R_wb:Hid (wb.heap[w.heap.size+1+1]? = some (.cells #[.slice none 0 0] 31 (0,0))):=by
  rw [hwb,show w.heap.size+1+1=((w.alloc (.cells #[.slice ao fs.length cap] 31)).alloc (.cells #[.int .i64 kd,.string nm,.string tx,.string tt] 51)).heap.size from by simp]
  exact heap_alloc_new _ _
 go_enter Tryz.func17,Tryz.ntmps17
 go_wp2_with fail
 rw [← hwb]
 clear hwb
 refine (specDiskOk_any fs ao cap _ hl (filesAt_keep HF.out HB_wb.out) (fun F h => ⟨small_max (HS.out F h).1,small_max (HS.out F h).2⟩)).mono ?_
 rintro e w1 ⟨rfl,b_w1⟩
 have hs_w1:wb.heap.size≤w1.heap.size:=(b_w1).size
 have HB_w1:Hid (Below w.heap.size w w1):=HB_wb.out.trans ((b_w1).mono HB_wb.out.size)
 have D_w1:Hid (w1.heap[w.heap.size]? = some (.cells #[.slice ao fs.length cap] 31 (0,0))):=blk_below D_wb.out (b_w1)
 have A_w1:Hid (w1.heap[w.heap.size+1]? = some (.cells #[.int .i64 kd,.string nm,.string tx,.string tt] 51 (0,0))):=blk_below A_wb.out (b_w1)
 have R_w1:Hid (w1.heap[w.heap.size+1+1]? = some (.cells #[.slice none 0 0] 31 (0,0))):=blk_below R_wb.out (b_w1)
 clear HB_wb D_wb A_wb R_wb b_w1
 obtain ⟨ca0,ca1,ca2,ca3⟩:=act_cell A_w1.out
 cases hok:diskOkD fs
 ·
  skip
  have cR:=box_of R_w1.out
  have zR0:=frozen_of_row w1 (w.heap.size+1+1) 0 _ _ R_w1.out
  have HNO:Hid (actD fs ⟨kd,nm,tx,tt⟩=none):=actD_no (by simp [actOk,hok])
  go_wp2
  refine bodyPost_ret (v:=.tuple #[.agg #[.slice none 0 0],.bool false]) (by simp [results,Tryz.results17,go_sem,cR]) rfl ⟨.slice none 0 0,by rw [HNO.out];rfl,.inl ⟨rfl,by rw [HNO.out];rfl⟩,?_⟩
  exact HB_w1.out.setCell (p:=⟨w.heap.size+1+1,0,none⟩) (by show w.heap.size≤w.heap.size+1+1;omega) _
 have h30:fs.length≤30:=(disk_files hok).1
 have HFO:=hide (disk_files hok).2
 cases h1:nameOkD nm
 ·
  skip
  go_wp2_with fail
  refine (l03Name_val _ _ _ (small_max hA1) h1).mono ?_
  rintro e w' ⟨rfl,hw'⟩
  rw [hw']
  clear hw' w'
  have cR:=box_of R_w1.out
  have zR0:=frozen_of_row w1 (w.heap.size+1+1) 0 _ _ R_w1.out
  have HNO:Hid (actD fs ⟨kd,nm,tx,tt⟩=none):=actD_no (by simp [actOk,hok,h1])
  go_wp2
  refine bodyPost_ret (v:=.tuple #[.agg #[.slice none 0 0],.bool false]) (by simp [results,Tryz.results17,go_sem,cR]) rfl ⟨.slice none 0 0,by rw [HNO.out];rfl,.inl ⟨rfl,by rw [HNO.out];rfl⟩,?_⟩
  exact HB_w1.out.setCell (p:=⟨w.heap.size+1+1,0,none⟩) (by show w.heap.size≤w.heap.size+1+1;omega) _
 go_wp2_with fail
 refine (l03Name_val _ _ _ (small_max hA1) h1).mono ?_
 rintro e w' ⟨rfl,hw'⟩
 rw [hw']
 clear hw' w'
 by_cases k1:kd=1
 ·
  skip
  subst k1
  cases et:tt.toList.isEmpty
  ·
   skip
   have cR:=box_of R_w1.out
   have zR0:=frozen_of_row w1 (w.heap.size+1+1) 0 _ _ R_w1.out
   have HNO:Hid (actD fs ⟨1,nm,tx,tt⟩=none):=actD_no (by simp [actOk,hok,h1,et])
   go_wp2
   refine bodyPost_ret (v:=.tuple #[.agg #[.slice none 0 0],.bool false]) (by simp [results,Tryz.results17,go_sem,cR]) rfl ⟨.slice none 0 0,by rw [HNO.out];rfl,.inl ⟨rfl,by rw [HNO.out];rfl⟩,?_⟩
   exact HB_w1.out.setCell (p:=⟨w.heap.size+1+1,0,none⟩) (by show w.heap.size≤w.heap.size+1+1;omega) _
  ·
   skip
   have hact:actOk fs ⟨1,nm,tx,tt⟩=true:=by simp [actOk,hok,h1,et]
   have cD:=box_of D_w1.out
   go_wp2_with fail
   clear cD ca0 ca1 ca2 ca3
   refine (l03At_any fs _ _ nm _ hl (filesAt_keep HF.out HB_w1.out)).mono ?_
   rintro e w2 ⟨rfl,b_w2⟩
   have hs_w2:w1.heap.size≤w2.heap.size:=(b_w2).size
   have HB_w2:Hid (Below w.heap.size w w2):=HB_w1.out.trans ((b_w2).mono HB_w1.out.size)
   have D_w2:Hid (w2.heap[w.heap.size]? = some (.cells #[.slice ao fs.length cap] 31 (0,0))):=blk_below D_w1.out (b_w2)
   have A_w2:Hid (w2.heap[w.heap.size+1]? = some (.cells #[.int .i64 1,.string nm,.string tx,.string tt] 51 (0,0))):=blk_below A_w1.out (b_w2)
   have R_w2:Hid (w2.heap[w.heap.size+1+1]? = some (.cells #[.slice none 0 0] 31 (0,0))):=blk_below R_w1.out (b_w2)
   clear HB_w1 D_w1 A_w1 R_w1 b_w2
   rcases at_cases nm fs 0 with ⟨hat,hno⟩ | ⟨j,hj,hat,hnm,hfd⟩
   ·
    skip
    have hfn:fileD fs nm=none:=List.find?_eq_none.2 (fun F hF => by rw [hno F hF];decide)
    rw [hat]
    have hd:decide ((-1:Int) < 0)=true:=by decide
    have hd2:decide ((0:Int)≤-1)=false:=by decide
    obtain ⟨ca0,ca1,ca2,ca3⟩:=act_cell A_w2.out
    obtain ⟨wG,hw_wG⟩:∃ wq,wq=w2.alloc (.cells #[.string nm,.string ⟨#[]⟩,.int .i64 0] 95):=⟨_,rfl⟩
    have bb_wG:Below w2.heap.size w2 wG:=by rw [hw_wG];exact (Below.refl _ _).alloc (Nat.le_refl _) _
    have hz_wG:w2.heap.size+1≤wG.heap.size:=by rw [hw_wG];simp
    have F_wG:Hid (wG.heap[w2.heap.size]? = some (.cells #[.string nm,.string ⟨#[]⟩,.int .i64 0] 95 (0,0))):=by rw [hw_wG];exact heap_alloc_new _ _
    have hs_wG:w2.heap.size≤wG.heap.size:=(bb_wG).size
    have HB_wG:Hid (Below w.heap.size w wG):=HB_w2.out.trans ((bb_wG).mono HB_w2.out.size)
    have D_wG:Hid (wG.heap[w.heap.size]? = some (.cells #[.slice ao fs.length cap] 31 (0,0))):=blk_below D_w2.out (bb_wG)
    have A_wG:Hid (wG.heap[w.heap.size+1]? = some (.cells #[.int .i64 1,.string nm,.string tx,.string tt] 51 (0,0))):=blk_below A_w2.out (bb_wG)
    have R_wG:Hid (wG.heap[w.heap.size+1+1]? = some (.cells #[.slice none 0 0] 31 (0,0))):=blk_below R_w2.out (bb_wG)
    have hwGs:wG.heap.size=w2.heap.size+1:=by rw [hw_wG];simp
    obtain ⟨wO,hw_wO⟩:∃ wq,wq=wG.alloc (.cells #[.slice none 0 0] 31):=⟨_,rfl⟩
    have bb_wO:Below wG.heap.size wG wO:=by rw [hw_wO];exact (Below.refl _ _).alloc (Nat.le_refl _) _
    have hz_wO:wG.heap.size+1≤wO.heap.size:=by rw [hw_wO];simp
    have O_wO:Hid (wO.heap[w2.heap.size+1]? = some (.cells #[.slice none 0 0] 31 (0,0))):=by rw [hw_wO,← hwGs];exact heap_alloc_new _ _
    have hs_wO:wG.heap.size≤wO.heap.size:=(bb_wO).size
    have HB_wO:Hid (Below w.heap.size w wO):=HB_wG.out.trans ((bb_wO).mono HB_wG.out.size)
    have D_wO:Hid (wO.heap[w.heap.size]? = some (.cells #[.slice ao fs.length cap] 31 (0,0))):=blk_below D_wG.out (bb_wO)
    have A_wO:Hid (wO.heap[w.heap.size+1]? = some (.cells #[.int .i64 1,.string nm,.string tx,.string tt] 51 (0,0))):=blk_below A_wG.out (bb_wO)
    have R_wO:Hid (wO.heap[w.heap.size+1+1]? = some (.cells #[.slice none 0 0] 31 (0,0))):=blk_below R_wG.out (bb_wO)
    have F_wO:Hid (wO.heap[w2.heap.size]? = some (.cells #[.string nm,.string ⟨#[]⟩,.int .i64 0] 95 (0,0))):=blk_below F_wG.out (bb_wO)
    go_upto_region 9 with fail
    rw [← hw_wG,← hw_wO]
    clear hw_wG hw_wO bb_wG bb_wO HB_wG D_wG A_wG R_wG F_wG
    clear ca0 ca1 ca2 ca3
    clear HB_w2 D_w2 A_w2 R_w2
    obtain ⟨ca0,ca1,ca2,ca3⟩:=act_cell A_wO.out
    obtain ⟨cf0,cf1,cf2⟩:=file_cell F_wO.out
    have zF1:=frozen_of_row wO (w2.heap.size) 1 _ _ F_wO.out
    obtain ⟨X,hX⟩:∃ X:ByteArray,X=⟨#[]⟩ ++ tx:=⟨_,rfl⟩
    have hXs:X.size≤maxLen:=by rw [hX,ByteArray.size_append];unfold maxLen;show 0+tx.size≤_;omega
    have HX:=hide hX
    clear hX
    obtain ⟨wT,hw_wT⟩:∃ wq,wq=wO.setCell ⟨w2.heap.size,1,none⟩ (.string X):=⟨_,rfl⟩
    have hs_wT:wO.heap.size≤wT.heap.size:=by rw [hw_wT];simp [World.setCell]
    have HB_wT:Hid (Below w.heap.size w wT):=by rw [hw_wT];exact HB_wO.out.setCell (p:=⟨w2.heap.size,1,none⟩) (by show w.heap.size≤w2.heap.size;omega) _
    have D_wT:Hid (wT.heap[w.heap.size]? = some (.cells #[.slice ao fs.length cap] 31 (0,0))):=by rw [hw_wT,Below.heap_setCell _ _ _ _ (by first | (show (w.heap.size:Nat) ≠ w2.heap.size;omega) | (show (w2.heap.size:Nat) ≠ w.heap.size;omega))];exact D_wO.out
    have A_wT:Hid (wT.heap[w.heap.size+1]? = some (.cells #[.int .i64 1,.string nm,.string tx,.string tt] 51 (0,0))):=by rw [hw_wT,Below.heap_setCell _ _ _ _ (by first | (show (w.heap.size+1:Nat) ≠ w2.heap.size;omega) | (show (w2.heap.size:Nat) ≠ w.heap.size+1;omega))];exact A_wO.out
    have R_wT:Hid (wT.heap[w.heap.size+1+1]? = some (.cells #[.slice none 0 0] 31 (0,0))):=by rw [hw_wT,Below.heap_setCell _ _ _ _ (by first | (show (w.heap.size+1+1:Nat) ≠ w2.heap.size;omega) | (show (w2.heap.size:Nat) ≠ w.heap.size+1+1;omega))];exact R_wO.out
    have F_wT:Hid (wT.heap[w2.heap.size]? = some (.cells #[.string nm,.string X,.int .i64 0] 95 (0,0))):=by rw [hw_wT];exact (heap_setCell_same _ _ _ _ _ _ F_wO.out).trans rfl
    have O_wT:Hid (wT.heap[w2.heap.size+1]? = some (.cells #[.slice none 0 0] 31 (0,0))):=by rw [hw_wT,Below.heap_setCell _ _ _ _ (by first | (show (w2.heap.size+1:Nat) ≠ w2.heap.size;omega) | (show (w2.heap.size:Nat) ≠ w2.heap.size+1;omega))];exact O_wO.out
    clear HB_wO D_wO A_wO R_wO F_wO O_wO
    go_upto_region 11 with fail
    rw [← HX.out,← hw_wT]
    clear hw_wT cf0 cf1 cf2 zF1 ca0 ca1 ca2 ca3
    have cD:=box_of D_wT.out
    obtain ⟨cf0,cf1,cf2⟩:=file_cell F_wT.out
    go_wp2_with fail
    clear cD cf0 cf1 cf2
    refine (l03Put_any fs _ _ ⟨nm,X,0⟩ _ (by omega) (filesAt_keep HF.out HB_wT.out)).mono ?_
    rintro e w7 ⟨v7,rfl,hrow7,b_w7⟩
    obtain ⟨aP,cP,rfl,_⟩:=rowF_at hrow7
    have P_w7:=hide hrow7
    clear hrow7
    have hs_w7:wT.heap.size≤w7.heap.size:=(b_w7).size
    have HB_w7:Hid (Below w.heap.size w w7):=HB_wT.out.trans ((b_w7).mono HB_wT.out.size)
    have D_w7:Hid (w7.heap[w.heap.size]? = some (.cells #[.slice ao fs.length cap] 31 (0,0))):=blk_below D_wT.out (b_w7)
    have A_w7:Hid (w7.heap[w.heap.size+1]? = some (.cells #[.int .i64 1,.string nm,.string tx,.string tt] 51 (0,0))):=blk_below A_wT.out (b_w7)
    have R_w7:Hid (w7.heap[w.heap.size+1+1]? = some (.cells #[.slice none 0 0] 31 (0,0))):=blk_below R_wT.out (b_w7)
    have F_w7:Hid (w7.heap[w2.heap.size]? = some (.cells #[.string nm,.string X,.int .i64 0] 95 (0,0))):=blk_below F_wT.out (b_w7)
    have O_w7:Hid (w7.heap[w2.heap.size+1]? = some (.cells #[.slice none 0 0] 31 (0,0))):=blk_below O_wT.out (b_w7)
    clear HB_wT D_wT A_wT R_wT F_wT O_wT b_w7
    have cO:=box_of O_w7.out
    have zO0:=frozen_of_row w7 (w2.heap.size+1) 0 _ _ O_w7.out
    obtain ⟨w8,hw_w8⟩:∃ wq,wq=w7.setCell ⟨w2.heap.size+1,0,none⟩ (.slice aP (putD fs ⟨nm,X,0⟩).length cP):=⟨_,rfl⟩
    have hs_w8:w7.heap.size≤w8.heap.size:=by rw [hw_w8];simp [World.setCell]
    have HB_w8:Hid (Below w.heap.size w w8):=by rw [hw_w8];exact HB_w7.out.setCell (p:=⟨w2.heap.size+1,0,none⟩) (by show w.heap.size≤w2.heap.size+1;omega) _
    have D_w8:Hid (w8.heap[w.heap.size]? = some (.cells #[.slice ao fs.length cap] 31 (0,0))):=by rw [hw_w8,Below.heap_setCell _ _ _ _ (by first | (show (w.heap.size:Nat) ≠ w2.heap.size+1;omega) | (show (w2.heap.size+1:Nat) ≠ w.heap.size;omega))];exact D_w7.out
    have A_w8:Hid (w8.heap[w.heap.size+1]? = some (.cells #[.int .i64 1,.string nm,.string tx,.string tt] 51 (0,0))):=by rw [hw_w8,Below.heap_setCell _ _ _ _ (by first | (show (w.heap.size+1:Nat) ≠ w2.heap.size+1;omega) | (show (w2.heap.size+1:Nat) ≠ w.heap.size+1;omega))];exact A_w7.out
    have R_w8:Hid (w8.heap[w.heap.size+1+1]? = some (.cells #[.slice none 0 0] 31 (0,0))):=by rw [hw_w8,Below.heap_setCell _ _ _ _ (by first | (show (w.heap.size+1+1:Nat) ≠ w2.heap.size+1;omega) | (show (w2.heap.size+1:Nat) ≠ w.heap.size+1+1;omega))];exact R_w7.out
    have F_w8:Hid (w8.heap[w2.heap.size]? = some (.cells #[.string nm,.string X,.int .i64 0] 95 (0,0))):=by rw [hw_w8,Below.heap_setCell _ _ _ _ (by first | (show (w2.heap.size:Nat) ≠ w2.heap.size+1;omega) | (show (w2.heap.size+1:Nat) ≠ w2.heap.size;omega))];exact F_w7.out
    have O_w8:Hid (w8.heap[w2.heap.size+1]? = some (.cells #[.slice aP (putD fs ⟨nm,X,0⟩).length cP] 31 (0,0))):=by rw [hw_w8];exact (heap_setCell_same _ _ _ _ _ _ O_w7.out).trans rfl
    have P_w8:Hid (RowF w8 wT.heap.size (.slice aP (putD fs ⟨nm,X,0⟩).length cP) (putD fs ⟨nm,X,0⟩)):=by rw [hw_w8];exact rowF_grown P_w7.out (grownBy_store (World.grownBy.refl _ _) 0 _) (fun g hg e => by have h1:=(rowF_lt P_w7.out g hg).1;cases e;omega)
    clear HB_w7 D_w7 A_w7 R_w7 F_w7 O_w7 P_w7
    go_upto_region 24 with fail
    rw [← hw_w8]
    clear hw_w8 cO zO0
    have hRl:(putD fs ⟨nm,X,0⟩).length≤1048576:=by have:=len_putD_le fs ⟨nm,X,0⟩;omega
    have HRs:Hid (∀ G ∈ putD fs ⟨nm,X,0⟩,G.name.size≤maxLen∧G.text.size≤maxLen):=put_sizes (fun G hG => ⟨small_max (HS.out G hG).1,small_max (HS.out G hG).2⟩) (by show _≤_;exact small_max hA1) (by show _≤_;exact hXs)
    have cO:=box_of O_w8.out
    have hraw:rawD fs ⟨1,nm,tx,tt⟩=some (putD fs ⟨nm,X,0⟩):=by rw [HX.out];simp [rawD,actF,hfn]
    go_wp2_with fail
    clear cO
    refine (specDiskOk_any (putD fs ⟨nm,X,0⟩) _ _ _ hRl (rowF_files P_w8.out) HRs.out).mono ?_
    rintro e w9 ⟨rfl,b_w9⟩
    have hs_w9:w8.heap.size≤w9.heap.size:=(b_w9).size
    have HB_w9:Hid (Below w.heap.size w w9):=HB_w8.out.trans ((b_w9).mono HB_w8.out.size)
    have D_w9:Hid (w9.heap[w.heap.size]? = some (.cells #[.slice ao fs.length cap] 31 (0,0))):=blk_below D_w8.out (b_w9)
    have A_w9:Hid (w9.heap[w.heap.size+1]? = some (.cells #[.int .i64 1,.string nm,.string tx,.string tt] 51 (0,0))):=blk_below A_w8.out (b_w9)
    have R_w9:Hid (w9.heap[w.heap.size+1+1]? = some (.cells #[.slice none 0 0] 31 (0,0))):=blk_below R_w8.out (b_w9)
    have F_w9:Hid (w9.heap[w2.heap.size]? = some (.cells #[.string nm,.string X,.int .i64 0] 95 (0,0))):=blk_below F_w8.out (b_w9)
    have O_w9:Hid (w9.heap[w2.heap.size+1]? = some (.cells #[.slice aP (putD fs ⟨nm,X,0⟩).length cP] 31 (0,0))):=blk_below O_w8.out (b_w9)
    have P_w9:Hid (RowF w9 wT.heap.size (.slice aP (putD fs ⟨nm,X,0⟩).length cP) (putD fs ⟨nm,X,0⟩)):=rowF_below P_w8.out (b_w9)
    clear HB_w8 D_w8 A_w8 R_w8 F_w8 O_w8 P_w8 b_w9
    cases hdk:diskOkD (putD fs ⟨nm,X,0⟩)
    ·
     skip
     have cR:=box_of R_w9.out
     have zR0:=frozen_of_row w9 (w.heap.size+1+1) 0 _ _ R_w9.out
     have HNO:Hid (actD fs ⟨1,nm,tx,tt⟩=none):=actD_bad hact hraw hdk
     go_wp2
     refine bodyPost_ret (v:=.tuple #[.agg #[.slice none 0 0],.bool false]) (by simp [results,Tryz.results17,go_sem,cR]) rfl ⟨.slice none 0 0,by rw [HNO.out];rfl,.inl ⟨rfl,by rw [HNO.out];rfl⟩,?_⟩
     exact HB_w9.out.setCell (p:=⟨w.heap.size+1+1,0,none⟩) (by show w.heap.size≤w.heap.size+1+1;omega) _
    ·
     skip
     have cO:=box_of O_w9.out
     have cR:=box_of R_w9.out
     have zR0:=frozen_of_row w9 (w.heap.size+1+1) 0 _ _ R_w9.out
     have HYES:Hid (actD fs ⟨1,nm,tx,tt⟩=some (putD fs ⟨nm,X,0⟩)):=actD_yes hact hraw hdk
     go_wp2_with fail
     refine bodyPost_ret (v:=.tuple #[.agg #[.slice aP (putD fs ⟨nm,X,0⟩).length cP],.bool true]) (by simp [results,Tryz.results17,go_sem,cR]) rfl ⟨.slice aP (putD fs ⟨nm,X,0⟩).length cP,by rw [HYES.out];rfl,?_,HB_w9.out.setCell (p:=⟨w.heap.size+1+1,0,none⟩) (by show w.heap.size≤w.heap.size+1+1;omega) _⟩
     rw [HYES.out]
     exact rowF_le (rowF_grown P_w9.out (grownBy_store (World.grownBy.refl _ _) 0 _) (fun g hg e => by have h1:=(rowF_lt P_w9.out g hg).1;cases e;omega)) (by omega)
   ·
    skip
    rw [hat,Nat.zero_add]
    have hd:decide ((j:Int) < 0)=false:=by simp
    have hd2:decide ((0:Int)≤(j:Int))=true:=by simp
    have hd3:((0:Int)≤(j:Int)):=by omega
    have hd4:(j:Int) < (fs.length:Int):=by omega
    have hFm:=List.getElem_mem hj
    obtain ⟨F,HFj⟩:∃ F,Hid (fs[j]=F):=⟨fs[j],hide rfl⟩
    rw [HFj.out] at hnm hfd hFm
    have hfd':fileD fs nm=some F:=hfd
    obtain ⟨hF1,hF2⟩:=HS.out F hFm
    obtain ⟨ca0,ca1,ca2,ca3⟩:=act_cell A_w2.out
    obtain ⟨wF,hw_wF⟩:∃ wq,wq=w2.alloc (.cells #[.string nm,.string ⟨#[]⟩,.int .i64 0] 95):=⟨_,rfl⟩
    have bb_wF:Below w2.heap.size w2 wF:=by rw [hw_wF];exact (Below.refl _ _).alloc (Nat.le_refl _) _
    have hz_wF:w2.heap.size+1≤wF.heap.size:=by rw [hw_wF];simp
    have F_wF:Hid (wF.heap[w2.heap.size]? = some (.cells #[.string nm,.string ⟨#[]⟩,.int .i64 0] 95 (0,0))):=by rw [hw_wF];exact heap_alloc_new _ _
    have hs_wF:w2.heap.size≤wF.heap.size:=(bb_wF).size
    have HB_wF:Hid (Below w.heap.size w wF):=HB_w2.out.trans ((bb_wF).mono HB_w2.out.size)
    have D_wF:Hid (wF.heap[w.heap.size]? = some (.cells #[.slice ao fs.length cap] 31 (0,0))):=blk_below D_w2.out (bb_wF)
    have A_wF:Hid (wF.heap[w.heap.size+1]? = some (.cells #[.int .i64 1,.string nm,.string tx,.string tt] 51 (0,0))):=blk_below A_w2.out (bb_wF)
    have R_wF:Hid (wF.heap[w.heap.size+1+1]? = some (.cells #[.slice none 0 0] 31 (0,0))):=blk_below R_w2.out (bb_wF)
    obtain ⟨b,off,rfl,hbw,hc0,hc1,hc2⟩:=filesAt_keep HF.out HB_wF.out j hj
    rw [HFj.out] at hc0 hc1 hc2
    have cD:=box_of D_wF.out
    rw [hw_wF] at cD hc0 hc1 hc2
    clear HB_wF D_wF A_wF R_wF F_wF bb_wF
    obtain ⟨wG,hw_wG⟩:∃ wq,wq=w2.alloc (.cells #[.string F.name,.string F.text,.int .i64 F.kept] 95):=⟨_,rfl⟩
    have bb_wG:Below w2.heap.size w2 wG:=by rw [hw_wG];exact (Below.refl _ _).alloc (Nat.le_refl _) _
    have hz_wG:w2.heap.size+1≤wG.heap.size:=by rw [hw_wG];simp
    have F_wG:Hid (wG.heap[w2.heap.size]? = some (.cells #[.string F.name,.string F.text,.int .i64 F.kept] 95 (0,0))):=by rw [hw_wG];exact heap_alloc_new _ _
    have hs_wG:w2.heap.size≤wG.heap.size:=(bb_wG).size
    have HB_wG:Hid (Below w.heap.size w wG):=HB_w2.out.trans ((bb_wG).mono HB_w2.out.size)
    have D_wG:Hid (wG.heap[w.heap.size]? = some (.cells #[.slice (some ⟨b,off,none⟩) fs.length cap] 31 (0,0))):=blk_below D_w2.out (bb_wG)
    have A_wG:Hid (wG.heap[w.heap.size+1]? = some (.cells #[.int .i64 1,.string nm,.string tx,.string tt] 51 (0,0))):=blk_below A_w2.out (bb_wG)
    have R_wG:Hid (wG.heap[w.heap.size+1+1]? = some (.cells #[.slice none 0 0] 31 (0,0))):=blk_below R_w2.out (bb_wG)
    have hwGs:wG.heap.size=w2.heap.size+1:=by rw [hw_wG];simp
    obtain ⟨wO,hw_wO⟩:∃ wq,wq=wG.alloc (.cells #[.slice none 0 0] 31):=⟨_,rfl⟩
    have bb_wO:Below wG.heap.size wG wO:=by rw [hw_wO];exact (Below.refl _ _).alloc (Nat.le_refl _) _
    have hz_wO:wG.heap.size+1≤wO.heap.size:=by rw [hw_wO];simp
    have O_wO:Hid (wO.heap[w2.heap.size+1]? = some (.cells #[.slice none 0 0] 31 (0,0))):=by rw [hw_wO,← hwGs];exact heap_alloc_new _ _
    have hs_wO:wG.heap.size≤wO.heap.size:=(bb_wO).size
    have HB_wO:Hid (Below w.heap.size w wO):=HB_wG.out.trans ((bb_wO).mono HB_wG.out.size)
    have D_wO:Hid (wO.heap[w.heap.size]? = some (.cells #[.slice (some ⟨b,off,none⟩) fs.length cap] 31 (0,0))):=blk_below D_wG.out (bb_wO)
    have A_wO:Hid (wO.heap[w.heap.size+1]? = some (.cells #[.int .i64 1,.string nm,.string tx,.string tt] 51 (0,0))):=blk_below A_wG.out (bb_wO)
    have R_wO:Hid (wO.heap[w.heap.size+1+1]? = some (.cells #[.slice none 0 0] 31 (0,0))):=blk_below R_wG.out (bb_wO)
    have F_wO:Hid (wO.heap[w2.heap.size]? = some (.cells #[.string F.name,.string F.text,.int .i64 F.kept] 95 (0,0))):=blk_below F_wG.out (bb_wO)
    go_upto_region 9 with fail
    rw [← hw_wG,← hw_wO]
    clear hw_wG hw_wO bb_wG bb_wO HB_wG D_wG A_wG R_wG F_wG
    clear cD hc0 hc1 hc2 ca0 ca1 ca2 ca3 hw_wF
    clear HB_w2 D_w2 A_w2 R_w2
    obtain ⟨ca0,ca1,ca2,ca3⟩:=act_cell A_wO.out
    obtain ⟨cf0,cf1,cf2⟩:=file_cell F_wO.out
    have zF1:=frozen_of_row wO (w2.heap.size) 1 _ _ F_wO.out
    obtain ⟨wT,hw_wT⟩:∃ wq,wq=wO.setCell ⟨w2.heap.size,1,none⟩ (.string (F.text ++ tx)):=⟨_,rfl⟩
    have hs_wT:wO.heap.size≤wT.heap.size:=by rw [hw_wT];simp [World.setCell]
    have HB_wT:Hid (Below w.heap.size w wT):=by rw [hw_wT];exact HB_wO.out.setCell (p:=⟨w2.heap.size,1,none⟩) (by show w.heap.size≤w2.heap.size;omega) _
    have D_wT:Hid (wT.heap[w.heap.size]? = some (.cells #[.slice (some ⟨b,off,none⟩) fs.length cap] 31 (0,0))):=by rw [hw_wT,Below.heap_setCell _ _ _ _ (by first | (show (w.heap.size:Nat) ≠ w2.heap.size;omega) | (show (w2.heap.size:Nat) ≠ w.heap.size;omega))];exact D_wO.out
    have A_wT:Hid (wT.heap[w.heap.size+1]? = some (.cells #[.int .i64 1,.string nm,.string tx,.string tt] 51 (0,0))):=by rw [hw_wT,Below.heap_setCell _ _ _ _ (by first | (show (w.heap.size+1:Nat) ≠ w2.heap.size;omega) | (show (w2.heap.size:Nat) ≠ w.heap.size+1;omega))];exact A_wO.out
    have R_wT:Hid (wT.heap[w.heap.size+1+1]? = some (.cells #[.slice none 0 0] 31 (0,0))):=by rw [hw_wT,Below.heap_setCell _ _ _ _ (by first | (show (w.heap.size+1+1:Nat) ≠ w2.heap.size;omega) | (show (w2.heap.size:Nat) ≠ w.heap.size+1+1;omega))];exact R_wO.out
    have F_wT:Hid (wT.heap[w2.heap.size]? = some (.cells #[.string F.name,.string (F.text ++ tx),.int .i64 F.kept] 95 (0,0))):=by rw [hw_wT];exact (heap_setCell_same _ _ _ _ _ _ F_wO.out).trans rfl
    have O_wT:Hid (wT.heap[w2.heap.size+1]? = some (.cells #[.slice none 0 0] 31 (0,0))):=by rw [hw_wT,Below.heap_setCell _ _ _ _ (by first | (show (w2.heap.size+1:Nat) ≠ w2.heap.size;omega) | (show (w2.heap.size:Nat) ≠ w2.heap.size+1;omega))];exact O_wO.out
    clear HB_wO D_wO A_wO R_wO F_wO O_wO
    go_upto_region 11 with fail
    rw [← hw_wT]
    clear hw_wT cf0 cf1 cf2 zF1 ca0 ca1 ca2 ca3
    have cD:=box_of D_wT.out
    obtain ⟨cf0,cf1,cf2⟩:=file_cell F_wT.out
    go_wp2_with fail
    clear cD cf0 cf1 cf2
    refine (l03Put_any fs _ _ ⟨F.name,F.text ++ tx,F.kept⟩ _ (by omega) (filesAt_keep HF.out HB_wT.out)).mono ?_
    rintro e w7 ⟨v7,rfl,hrow7,b_w7⟩
    obtain ⟨aP,cP,rfl,_⟩:=rowF_at hrow7
    have P_w7:=hide hrow7
    clear hrow7
    have hs_w7:wT.heap.size≤w7.heap.size:=(b_w7).size
    have HB_w7:Hid (Below w.heap.size w w7):=HB_wT.out.trans ((b_w7).mono HB_wT.out.size)
    have D_w7:Hid (w7.heap[w.heap.size]? = some (.cells #[.slice (some ⟨b,off,none⟩) fs.length cap] 31 (0,0))):=blk_below D_wT.out (b_w7)
    have A_w7:Hid (w7.heap[w.heap.size+1]? = some (.cells #[.int .i64 1,.string nm,.string tx,.string tt] 51 (0,0))):=blk_below A_wT.out (b_w7)
    have R_w7:Hid (w7.heap[w.heap.size+1+1]? = some (.cells #[.slice none 0 0] 31 (0,0))):=blk_below R_wT.out (b_w7)
    have F_w7:Hid (w7.heap[w2.heap.size]? = some (.cells #[.string F.name,.string (F.text ++ tx),.int .i64 F.kept] 95 (0,0))):=blk_below F_wT.out (b_w7)
    have O_w7:Hid (w7.heap[w2.heap.size+1]? = some (.cells #[.slice none 0 0] 31 (0,0))):=blk_below O_wT.out (b_w7)
    clear HB_wT D_wT A_wT R_wT F_wT O_wT b_w7
    have cO:=box_of O_w7.out
    have zO0:=frozen_of_row w7 (w2.heap.size+1) 0 _ _ O_w7.out
    obtain ⟨w8,hw_w8⟩:∃ wq,wq=w7.setCell ⟨w2.heap.size+1,0,none⟩ (.slice aP (putD fs ⟨F.name,F.text ++ tx,F.kept⟩).length cP):=⟨_,rfl⟩
    have hs_w8:w7.heap.size≤w8.heap.size:=by rw [hw_w8];simp [World.setCell]
    have HB_w8:Hid (Below w.heap.size w w8):=by rw [hw_w8];exact HB_w7.out.setCell (p:=⟨w2.heap.size+1,0,none⟩) (by show w.heap.size≤w2.heap.size+1;omega) _
    have D_w8:Hid (w8.heap[w.heap.size]? = some (.cells #[.slice (some ⟨b,off,none⟩) fs.length cap] 31 (0,0))):=by rw [hw_w8,Below.heap_setCell _ _ _ _ (by first | (show (w.heap.size:Nat) ≠ w2.heap.size+1;omega) | (show (w2.heap.size+1:Nat) ≠ w.heap.size;omega))];exact D_w7.out
    have A_w8:Hid (w8.heap[w.heap.size+1]? = some (.cells #[.int .i64 1,.string nm,.string tx,.string tt] 51 (0,0))):=by rw [hw_w8,Below.heap_setCell _ _ _ _ (by first | (show (w.heap.size+1:Nat) ≠ w2.heap.size+1;omega) | (show (w2.heap.size+1:Nat) ≠ w.heap.size+1;omega))];exact A_w7.out
    have R_w8:Hid (w8.heap[w.heap.size+1+1]? = some (.cells #[.slice none 0 0] 31 (0,0))):=by rw [hw_w8,Below.heap_setCell _ _ _ _ (by first | (show (w.heap.size+1+1:Nat) ≠ w2.heap.size+1;omega) | (show (w2.heap.size+1:Nat) ≠ w.heap.size+1+1;omega))];exact R_w7.out
    have F_w8:Hid (w8.heap[w2.heap.size]? = some (.cells #[.string F.name,.string (F.text ++ tx),.int .i64 F.kept] 95 (0,0))):=by rw [hw_w8,Below.heap_setCell _ _ _ _ (by first | (show (w2.heap.size:Nat) ≠ w2.heap.size+1;omega) | (show (w2.heap.size+1:Nat) ≠ w2.heap.size;omega))];exact F_w7.out
    have O_w8:Hid (w8.heap[w2.heap.size+1]? = some (.cells #[.slice aP (putD fs ⟨F.name,F.text ++ tx,F.kept⟩).length cP] 31 (0,0))):=by rw [hw_w8];exact (heap_setCell_same _ _ _ _ _ _ O_w7.out).trans rfl
    have P_w8:Hid (RowF w8 wT.heap.size (.slice aP (putD fs ⟨F.name,F.text ++ tx,F.kept⟩).length cP) (putD fs ⟨F.name,F.text ++ tx,F.kept⟩)):=by rw [hw_w8];exact rowF_grown P_w7.out (grownBy_store (World.grownBy.refl _ _) 0 _) (fun g hg e => by have h1:=(rowF_lt P_w7.out g hg).1;cases e;omega)
    clear HB_w7 D_w7 A_w7 R_w7 F_w7 O_w7 P_w7
    go_upto_region 24 with fail
    rw [← hw_w8]
    clear hw_w8 cO zO0
    have hRl:(putD fs ⟨F.name,F.text ++ tx,F.kept⟩).length≤1048576:=by have:=len_putD_le fs ⟨F.name,F.text ++ tx,F.kept⟩;omega
    have HRs:Hid (∀ G ∈ putD fs ⟨F.name,F.text ++ tx,F.kept⟩,G.name.size≤maxLen∧G.text.size≤maxLen):=put_sizes (fun G hG => ⟨small_max (HS.out G hG).1,small_max (HS.out G hG).2⟩) (by show _≤_;exact small_max hF1) (by show _≤_;rw [ByteArray.size_append];unfold maxLen;omega)
    have cO:=box_of O_w8.out
    have hraw:rawD fs ⟨1,nm,tx,tt⟩=some (putD fs ⟨F.name,F.text ++ tx,F.kept⟩):=by simp [rawD,actF,hfd']
    go_wp2_with fail
    clear cO
    refine (specDiskOk_any (putD fs ⟨F.name,F.text ++ tx,F.kept⟩) _ _ _ hRl (rowF_files P_w8.out) HRs.out).mono ?_
    rintro e w9 ⟨rfl,b_w9⟩
    have hs_w9:w8.heap.size≤w9.heap.size:=(b_w9).size
    have HB_w9:Hid (Below w.heap.size w w9):=HB_w8.out.trans ((b_w9).mono HB_w8.out.size)
    have D_w9:Hid (w9.heap[w.heap.size]? = some (.cells #[.slice (some ⟨b,off,none⟩) fs.length cap] 31 (0,0))):=blk_below D_w8.out (b_w9)
    have A_w9:Hid (w9.heap[w.heap.size+1]? = some (.cells #[.int .i64 1,.string nm,.string tx,.string tt] 51 (0,0))):=blk_below A_w8.out (b_w9)
    have R_w9:Hid (w9.heap[w.heap.size+1+1]? = some (.cells #[.slice none 0 0] 31 (0,0))):=blk_below R_w8.out (b_w9)
    have F_w9:Hid (w9.heap[w2.heap.size]? = some (.cells #[.string F.name,.string (F.text ++ tx),.int .i64 F.kept] 95 (0,0))):=blk_below F_w8.out (b_w9)
    have O_w9:Hid (w9.heap[w2.heap.size+1]? = some (.cells #[.slice aP (putD fs ⟨F.name,F.text ++ tx,F.kept⟩).length cP] 31 (0,0))):=blk_below O_w8.out (b_w9)
    have P_w9:Hid (RowF w9 wT.heap.size (.slice aP (putD fs ⟨F.name,F.text ++ tx,F.kept⟩).length cP) (putD fs ⟨F.name,F.text ++ tx,F.kept⟩)):=rowF_below P_w8.out (b_w9)
    clear HB_w8 D_w8 A_w8 R_w8 F_w8 O_w8 P_w8 b_w9
    cases hdk:diskOkD (putD fs ⟨F.name,F.text ++ tx,F.kept⟩)
    ·
     skip
     have cR:=box_of R_w9.out
     have zR0:=frozen_of_row w9 (w.heap.size+1+1) 0 _ _ R_w9.out
     have HNO:Hid (actD fs ⟨1,nm,tx,tt⟩=none):=actD_bad hact hraw hdk
     go_wp2
     refine bodyPost_ret (v:=.tuple #[.agg #[.slice none 0 0],.bool false]) (by simp [results,Tryz.results17,go_sem,cR]) rfl ⟨.slice none 0 0,by rw [HNO.out];rfl,.inl ⟨rfl,by rw [HNO.out];rfl⟩,?_⟩
     exact HB_w9.out.setCell (p:=⟨w.heap.size+1+1,0,none⟩) (by show w.heap.size≤w.heap.size+1+1;omega) _
    ·
     skip
     have cO:=box_of O_w9.out
     have cR:=box_of R_w9.out
     have zR0:=frozen_of_row w9 (w.heap.size+1+1) 0 _ _ R_w9.out
     have HYES:Hid (actD fs ⟨1,nm,tx,tt⟩=some (putD fs ⟨F.name,F.text ++ tx,F.kept⟩)):=actD_yes hact hraw hdk
     go_wp2_with fail
     refine bodyPost_ret (v:=.tuple #[.agg #[.slice aP (putD fs ⟨F.name,F.text ++ tx,F.kept⟩).length cP],.bool true]) (by simp [results,Tryz.results17,go_sem,cR]) rfl ⟨.slice aP (putD fs ⟨F.name,F.text ++ tx,F.kept⟩).length cP,by rw [HYES.out];rfl,?_,HB_w9.out.setCell (p:=⟨w.heap.size+1+1,0,none⟩) (by show w.heap.size≤w.heap.size+1+1;omega) _⟩
     rw [HYES.out]
     exact rowF_le (rowF_grown P_w9.out (grownBy_store (World.grownBy.refl _ _) 0 _) (fun g hg e => by have h1:=(rowF_lt P_w9.out g hg).1;cases e;omega)) (by omega)
 by_cases k3:kd=3
 ·
  skip
  subst k3
  cases ex:tx.toList.isEmpty
  ·
   skip
   have cR:=box_of R_w1.out
   have zR0:=frozen_of_row w1 (w.heap.size+1+1) 0 _ _ R_w1.out
   have HNO:Hid (actD fs ⟨3,nm,tx,tt⟩=none):=actD_no (by simp [actOk,hok,h1,ex])
   go_wp2
   refine bodyPost_ret (v:=.tuple #[.agg #[.slice none 0 0],.bool false]) (by simp [results,Tryz.results17,go_sem,cR]) rfl ⟨.slice none 0 0,by rw [HNO.out];rfl,.inl ⟨rfl,by rw [HNO.out];rfl⟩,?_⟩
   exact HB_w1.out.setCell (p:=⟨w.heap.size+1+1,0,none⟩) (by show w.heap.size≤w.heap.size+1+1;omega) _
  ·
   skip
   have hact:actOk fs ⟨3,nm,tx,tt⟩=true:=by simp [actOk,hok,h1,ex]
   have cD:=box_of D_w1.out
   go_wp2_with fail
   clear cD ca0 ca1 ca2 ca3
   refine (l03At_any fs _ _ nm _ hl (filesAt_keep HF.out HB_w1.out)).mono ?_
   rintro e w2 ⟨rfl,b_w2⟩
   have hs_w2:w1.heap.size≤w2.heap.size:=(b_w2).size
   have HB_w2:Hid (Below w.heap.size w w2):=HB_w1.out.trans ((b_w2).mono HB_w1.out.size)
   have D_w2:Hid (w2.heap[w.heap.size]? = some (.cells #[.slice ao fs.length cap] 31 (0,0))):=blk_below D_w1.out (b_w2)
   have A_w2:Hid (w2.heap[w.heap.size+1]? = some (.cells #[.int .i64 3,.string nm,.string tx,.string tt] 51 (0,0))):=blk_below A_w1.out (b_w2)
   have R_w2:Hid (w2.heap[w.heap.size+1+1]? = some (.cells #[.slice none 0 0] 31 (0,0))):=blk_below R_w1.out (b_w2)
   clear HB_w1 D_w1 A_w1 R_w1 b_w2
   rcases at_cases nm fs 0 with ⟨hat,hno⟩ | ⟨j,hj,hat,hnm,hfd⟩
   ·
    skip
    have hfn:fileD fs nm=none:=List.find?_eq_none.2 (fun F hF => by rw [hno F hF];decide)
    rw [hat]
    have hd:decide ((-1:Int) < 0)=true:=by decide
    have hd2:decide ((0:Int)≤-1)=false:=by decide
    obtain ⟨ca0,ca1,ca2,ca3⟩:=act_cell A_w2.out
    obtain ⟨wF,hw_wF⟩:∃ wq,wq=w2.alloc (.cells #[.string nm,.string ⟨#[]⟩,.int .i64 0] 95):=⟨_,rfl⟩
    have bb_wF:Below w2.heap.size w2 wF:=by rw [hw_wF];exact (Below.refl _ _).alloc (Nat.le_refl _) _
    have hz_wF:w2.heap.size+1≤wF.heap.size:=by rw [hw_wF];simp
    have F_wF:Hid (wF.heap[w2.heap.size]? = some (.cells #[.string nm,.string ⟨#[]⟩,.int .i64 0] 95 (0,0))):=by rw [hw_wF];exact heap_alloc_new _ _
    have hs_wF:w2.heap.size≤wF.heap.size:=(bb_wF).size
    have HB_wF:Hid (Below w.heap.size w wF):=HB_w2.out.trans ((bb_wF).mono HB_w2.out.size)
    have D_wF:Hid (wF.heap[w.heap.size]? = some (.cells #[.slice ao fs.length cap] 31 (0,0))):=blk_below D_w2.out (bb_wF)
    have A_wF:Hid (wF.heap[w.heap.size+1]? = some (.cells #[.int .i64 3,.string nm,.string tx,.string tt] 51 (0,0))):=blk_below A_w2.out (bb_wF)
    have R_wF:Hid (wF.heap[w.heap.size+1+1]? = some (.cells #[.slice none 0 0] 31 (0,0))):=blk_below R_w2.out (bb_wF)
    obtain ⟨wO,hw_wO⟩:∃ wq,wq=wF.alloc (.cells #[.slice none 0 0] 31):=⟨_,rfl⟩
    have bb_wO:Below wF.heap.size wF wO:=by rw [hw_wO];exact (Below.refl _ _).alloc (Nat.le_refl _) _
    have hz_wO:wF.heap.size+1≤wO.heap.size:=by rw [hw_wO];simp
    have O_wO:Hid (wO.heap[wF.heap.size]? = some (.cells #[.slice none 0 0] 31 (0,0))):=by rw [hw_wO];exact heap_alloc_new _ _
    have hs_wO:wF.heap.size≤wO.heap.size:=(bb_wO).size
    have HB_wO:Hid (Below w.heap.size w wO):=HB_wF.out.trans ((bb_wO).mono HB_wF.out.size)
    have D_wO:Hid (wO.heap[w.heap.size]? = some (.cells #[.slice ao fs.length cap] 31 (0,0))):=blk_below D_wF.out (bb_wO)
    have A_wO:Hid (wO.heap[w.heap.size+1]? = some (.cells #[.int .i64 3,.string nm,.string tx,.string tt] 51 (0,0))):=blk_below A_wF.out (bb_wO)
    have R_wO:Hid (wO.heap[w.heap.size+1+1]? = some (.cells #[.slice none 0 0] 31 (0,0))):=blk_below R_wF.out (bb_wO)
    have F_wO:Hid (wO.heap[w2.heap.size]? = some (.cells #[.string nm,.string ⟨#[]⟩,.int .i64 0] 95 (0,0))):=blk_below F_wF.out (bb_wO)
    have qa0:=(act_cell A_wO.out).1
    rw [hw_wO,hw_wF] at qa0
    have cR:=box_of R_wO.out
    have zR0:=frozen_of_row wO (w.heap.size+1+1) 0 _ _ R_wO.out
    rw [hw_wO,hw_wF] at cR zR0
    have HNO:Hid (actD fs ⟨3,nm,tx,tt⟩=none):=actD_raw hact (by simp [rawD,hfn])
    go_wp2
    refine bodyPost_ret (v:=.tuple #[.agg #[.slice none 0 0],.bool false]) (by simp [results,Tryz.results17,go_sem,cR]) rfl ⟨.slice none 0 0,by rw [HNO.out];rfl,.inl ⟨rfl,by rw [HNO.out];rfl⟩,?_⟩
    rw [← hw_wF,← hw_wO]
    exact HB_wO.out.setCell (p:=⟨w.heap.size+1+1,0,none⟩) (by show w.heap.size≤w.heap.size+1+1;omega) _
   ·
    skip
    rw [hat,Nat.zero_add]
    have hd:decide ((j:Int) < 0)=false:=by simp
    have hd2:decide ((0:Int)≤(j:Int))=true:=by simp
    have hd3:((0:Int)≤(j:Int)):=by omega
    have hd4:(j:Int) < (fs.length:Int):=by omega
    have hFm:=List.getElem_mem hj
    obtain ⟨F,HFj⟩:∃ F,Hid (fs[j]=F):=⟨fs[j],hide rfl⟩
    rw [HFj.out] at hnm hfd hFm
    have hfd':fileD fs nm=some F:=hfd
    obtain ⟨hF1,hF2⟩:=HS.out F hFm
    obtain ⟨ca0,ca1,ca2,ca3⟩:=act_cell A_w2.out
    obtain ⟨wF,hw_wF⟩:∃ wq,wq=w2.alloc (.cells #[.string nm,.string ⟨#[]⟩,.int .i64 0] 95):=⟨_,rfl⟩
    have bb_wF:Below w2.heap.size w2 wF:=by rw [hw_wF];exact (Below.refl _ _).alloc (Nat.le_refl _) _
    have hz_wF:w2.heap.size+1≤wF.heap.size:=by rw [hw_wF];simp
    have F_wF:Hid (wF.heap[w2.heap.size]? = some (.cells #[.string nm,.string ⟨#[]⟩,.int .i64 0] 95 (0,0))):=by rw [hw_wF];exact heap_alloc_new _ _
    have hs_wF:w2.heap.size≤wF.heap.size:=(bb_wF).size
    have HB_wF:Hid (Below w.heap.size w wF):=HB_w2.out.trans ((bb_wF).mono HB_w2.out.size)
    have D_wF:Hid (wF.heap[w.heap.size]? = some (.cells #[.slice ao fs.length cap] 31 (0,0))):=blk_below D_w2.out (bb_wF)
    have A_wF:Hid (wF.heap[w.heap.size+1]? = some (.cells #[.int .i64 3,.string nm,.string tx,.string tt] 51 (0,0))):=blk_below A_w2.out (bb_wF)
    have R_wF:Hid (wF.heap[w.heap.size+1+1]? = some (.cells #[.slice none 0 0] 31 (0,0))):=blk_below R_w2.out (bb_wF)
    obtain ⟨b,off,rfl,hbw,hc0,hc1,hc2⟩:=filesAt_keep HF.out HB_wF.out j hj
    rw [HFj.out] at hc0 hc1 hc2
    have cD:=box_of D_wF.out
    rw [hw_wF] at cD hc0 hc1 hc2
    clear HB_wF D_wF A_wF R_wF F_wF bb_wF
    obtain ⟨wG,hw_wG⟩:∃ wq,wq=w2.alloc (.cells #[.string F.name,.string F.text,.int .i64 F.kept] 95):=⟨_,rfl⟩
    have bb_wG:Below w2.heap.size w2 wG:=by rw [hw_wG];exact (Below.refl _ _).alloc (Nat.le_refl _) _
    have hz_wG:w2.heap.size+1≤wG.heap.size:=by rw [hw_wG];simp
    have F_wG:Hid (wG.heap[w2.heap.size]? = some (.cells #[.string F.name,.string F.text,.int .i64 F.kept] 95 (0,0))):=by rw [hw_wG];exact heap_alloc_new _ _
    have hs_wG:w2.heap.size≤wG.heap.size:=(bb_wG).size
    have HB_wG:Hid (Below w.heap.size w wG):=HB_w2.out.trans ((bb_wG).mono HB_w2.out.size)
    have D_wG:Hid (wG.heap[w.heap.size]? = some (.cells #[.slice (some ⟨b,off,none⟩) fs.length cap] 31 (0,0))):=blk_below D_w2.out (bb_wG)
    have A_wG:Hid (wG.heap[w.heap.size+1]? = some (.cells #[.int .i64 3,.string nm,.string tx,.string tt] 51 (0,0))):=blk_below A_w2.out (bb_wG)
    have R_wG:Hid (wG.heap[w.heap.size+1+1]? = some (.cells #[.slice none 0 0] 31 (0,0))):=blk_below R_w2.out (bb_wG)
    have hwGs:wG.heap.size=w2.heap.size+1:=by rw [hw_wG];simp
    obtain ⟨wO,hw_wO⟩:∃ wq,wq=wG.alloc (.cells #[.slice none 0 0] 31):=⟨_,rfl⟩
    have bb_wO:Below wG.heap.size wG wO:=by rw [hw_wO];exact (Below.refl _ _).alloc (Nat.le_refl _) _
    have hz_wO:wG.heap.size+1≤wO.heap.size:=by rw [hw_wO];simp
    have O_wO:Hid (wO.heap[w2.heap.size+1]? = some (.cells #[.slice none 0 0] 31 (0,0))):=by rw [hw_wO,← hwGs];exact heap_alloc_new _ _
    have hs_wO:wG.heap.size≤wO.heap.size:=(bb_wO).size
    have HB_wO:Hid (Below w.heap.size w wO):=HB_wG.out.trans ((bb_wO).mono HB_wG.out.size)
    have D_wO:Hid (wO.heap[w.heap.size]? = some (.cells #[.slice (some ⟨b,off,none⟩) fs.length cap] 31 (0,0))):=blk_below D_wG.out (bb_wO)
    have A_wO:Hid (wO.heap[w.heap.size+1]? = some (.cells #[.int .i64 3,.string nm,.string tx,.string tt] 51 (0,0))):=blk_below A_wG.out (bb_wO)
    have R_wO:Hid (wO.heap[w.heap.size+1+1]? = some (.cells #[.slice none 0 0] 31 (0,0))):=blk_below R_wG.out (bb_wO)
    have F_wO:Hid (wO.heap[w2.heap.size]? = some (.cells #[.string F.name,.string F.text,.int .i64 F.kept] 95 (0,0))):=blk_below F_wG.out (bb_wO)
    go_upto_region 9 with fail
    rw [← hw_wG,← hw_wO]
    clear hw_wG hw_wO bb_wG bb_wO HB_wG D_wG A_wG R_wG F_wG
    clear cD hc0 hc1 hc2 ca0 ca1 ca2 ca3 hw_wF
    clear HB_w2 D_w2 A_w2 R_w2
    obtain ⟨ca0,ca1,ca2,ca3⟩:=act_cell A_wO.out
    obtain ⟨cf0,cf1,cf2⟩:=file_cell F_wO.out
    cases hkp:decide (F.kept < (F.text.size:Int))
    ·
     skip
     cases htn:(tt.toList == nm.toList)
     ·
      skip
      cases hto:nameOkD tt
      ·
       skip
       go_wp2_with fail
       refine (l03Name_val _ _ _ (small_max hA3) hto).mono ?_
       rintro e w' ⟨rfl,hw'⟩
       rw [hw']
       clear hw' w'
       have cR:=box_of R_wO.out
       have zR0:=frozen_of_row wO (w.heap.size+1+1) 0 _ _ R_wO.out
       have HNO:Hid (actD fs ⟨3,nm,tx,tt⟩=none):=actD_raw hact (by simp [rawD,hfd',hto])
       go_wp2
       refine bodyPost_ret (v:=.tuple #[.agg #[.slice none 0 0],.bool false]) (by simp [results,Tryz.results17,go_sem,cR]) rfl ⟨.slice none 0 0,by rw [HNO.out];rfl,.inl ⟨rfl,by rw [HNO.out];rfl⟩,?_⟩
       exact HB_wO.out.setCell (p:=⟨w.heap.size+1+1,0,none⟩) (by show w.heap.size≤w.heap.size+1+1;omega) _
      ·
       skip
       go_wp2_with fail
       refine (l03Name_val _ _ _ (small_max hA3) hto).mono ?_
       rintro e w' ⟨rfl,hw'⟩
       rw [hw']
       clear hw' w'
       have zF0:=frozen_of_row wO (w2.heap.size) 0 _ _ F_wO.out
       obtain ⟨wT,hw_wT⟩:∃ wq,wq=wO.setCell ⟨w2.heap.size,0,none⟩ (.string tt):=⟨_,rfl⟩
       have hs_wT:wO.heap.size≤wT.heap.size:=by rw [hw_wT];simp [World.setCell]
       have HB_wT:Hid (Below w.heap.size w wT):=by rw [hw_wT];exact HB_wO.out.setCell (p:=⟨w2.heap.size,0,none⟩) (by show w.heap.size≤w2.heap.size;omega) _
       have D_wT:Hid (wT.heap[w.heap.size]? = some (.cells #[.slice (some ⟨b,off,none⟩) fs.length cap] 31 (0,0))):=by rw [hw_wT,Below.heap_setCell _ _ _ _ (by first | (show (w.heap.size:Nat) ≠ w2.heap.size;omega) | (show (w2.heap.size:Nat) ≠ w.heap.size;omega))];exact D_wO.out
       have A_wT:Hid (wT.heap[w.heap.size+1]? = some (.cells #[.int .i64 3,.string nm,.string tx,.string tt] 51 (0,0))):=by rw [hw_wT,Below.heap_setCell _ _ _ _ (by first | (show (w.heap.size+1:Nat) ≠ w2.heap.size;omega) | (show (w2.heap.size:Nat) ≠ w.heap.size+1;omega))];exact A_wO.out
       have R_wT:Hid (wT.heap[w.heap.size+1+1]? = some (.cells #[.slice none 0 0] 31 (0,0))):=by rw [hw_wT,Below.heap_setCell _ _ _ _ (by first | (show (w.heap.size+1+1:Nat) ≠ w2.heap.size;omega) | (show (w2.heap.size:Nat) ≠ w.heap.size+1+1;omega))];exact R_wO.out
       have F_wT:Hid (wT.heap[w2.heap.size]? = some (.cells #[.string tt,.string F.text,.int .i64 F.kept] 95 (0,0))):=by rw [hw_wT];exact (heap_setCell_same _ _ _ _ _ _ F_wO.out).trans rfl
       have O_wT:Hid (wT.heap[w2.heap.size+1]? = some (.cells #[.slice none 0 0] 31 (0,0))):=by rw [hw_wT,Below.heap_setCell _ _ _ _ (by first | (show (w2.heap.size+1:Nat) ≠ w2.heap.size;omega) | (show (w2.heap.size:Nat) ≠ w2.heap.size+1;omega))];exact O_wO.out
       clear HB_wO D_wO A_wO R_wO F_wO O_wO
       go_upto_region 21 with fail
       rw [← hw_wT]
       clear hw_wT cf0 cf1 cf2 zF0 ca0 ca1 ca2 ca3
       have cD:=box_of D_wT.out
       obtain ⟨ca0,ca1,ca2,ca3⟩:=act_cell A_wT.out
       obtain ⟨cf0,cf1,cf2⟩:=file_cell F_wT.out
       have HFT:Hid (FilesAt wT.drew (some ⟨b,off,none⟩) fs):=filesAt_keep HF.out (HB_wT.out.drew)
       have hwl:(withoutD fs nm).length≤1000:=by have h2:=List.length_filter_le (otherF nm) fs;simp only [withoutD];omega
       go_region_held3 (fun w' => w'.cell? ⟨w.heap.size,0,none⟩=some (.slice (some ⟨b,off,none⟩) fs.length cap)∧w'.cell? ⟨w.heap.size+1,1,none⟩=some (.string nm)∧w'.cell? ⟨w2.heap.size,0,none⟩=some (.string tt)∧w'.cell? ⟨w2.heap.size,1,none⟩=some (.string F.text)∧w'.cell? ⟨w2.heap.size,2,none⟩=some (.int .i64 F.kept)) (first | (go_keep;done) | (exact ⟨((b6).cell (p:=⟨w.heap.size,0,none⟩) (by show w.heap.size < wT.heap.size;omega)).trans cD,((b6).cell (p:=⟨w.heap.size+1,1,none⟩) (by show w.heap.size+1 < wT.heap.size;omega)).trans ca1,((b6).cell (p:=⟨w2.heap.size,0,none⟩) (by show w2.heap.size < wT.heap.size;omega)).trans cf0,((b6).cell (p:=⟨w2.heap.size,1,none⟩) (by show w2.heap.size < wT.heap.size;omega)).trans cf1,((b6).cell (p:=⟨w2.heap.size,2,none⟩) (by show w2.heap.size < wT.heap.size;omega)).trans cf2⟩) | (exact ⟨(((b6.trans (b7.mono b6.size))).cell (p:=⟨w.heap.size,0,none⟩) (by show w.heap.size < wT.heap.size;omega)).trans cD,(((b6.trans (b7.mono b6.size))).cell (p:=⟨w.heap.size+1,1,none⟩) (by show w.heap.size+1 < wT.heap.size;omega)).trans ca1,(((b6.trans (b7.mono b6.size))).cell (p:=⟨w2.heap.size,0,none⟩) (by show w2.heap.size < wT.heap.size;omega)).trans cf0,(((b6.trans (b7.mono b6.size))).cell (p:=⟨w2.heap.size,1,none⟩) (by show w2.heap.size < wT.heap.size;omega)).trans cf1,(((b6.trans (b7.mono b6.size))).cell (p:=⟨w2.heap.size,2,none⟩) (by show w2.heap.size < wT.heap.size;omega)).trans cf2⟩) | (exact ⟨cell_other ((((b6.trans (b7.mono b6.size))).cell (p:=⟨w.heap.size,0,none⟩) (by show w.heap.size < wT.heap.size;omega)).trans cD) (by show w.heap.size < w2.heap.size+1;omega),cell_other ((((b6.trans (b7.mono b6.size))).cell (p:=⟨w.heap.size+1,1,none⟩) (by show w.heap.size+1 < wT.heap.size;omega)).trans ca1) (by show w.heap.size+1 < w2.heap.size+1;omega),cell_other ((((b6.trans (b7.mono b6.size))).cell (p:=⟨w2.heap.size,0,none⟩) (by show w2.heap.size < wT.heap.size;omega)).trans cf0) (by show w2.heap.size < w2.heap.size+1;omega),cell_other ((((b6.trans (b7.mono b6.size))).cell (p:=⟨w2.heap.size,1,none⟩) (by show w2.heap.size < wT.heap.size;omega)).trans cf1) (by show w2.heap.size < w2.heap.size+1;omega),cell_other ((((b6.trans (b7.mono b6.size))).cell (p:=⟨w2.heap.size,2,none⟩) (by show w2.heap.size < wT.heap.size;omega)).trans cf2) (by show w2.heap.size < w2.heap.size+1;omega)⟩)) ((first | (go_at_call 49;refine (l03Without_any fs _ _ nm _ (by omega) HFT.out).mono ?_;rintro e w6 ⟨v6,rfl,hrow6,b6⟩;obtain ⟨a6,c6,rfl,_⟩:=rowF_at hrow6) | (go_at_call 48;refine (l03Put_any (withoutD fs nm) _ _ ⟨tt,F.text,F.kept⟩ _ hwl (rowF_files hrow6)).mono ?_;rintro e w7 ⟨v7,rfl,hrow7,b7⟩;obtain ⟨aP,cP,rfl,_⟩:=rowF_at hrow7;have hO7:=blk_below O_wT.out ((Below.refl _ _).drew.trans (b6.trans (b7.mono b6.size)));have cO7:=box_of hO7;have zO7:=frozen_of_row w7 (w2.heap.size+1) 0 _ _ hO7)))
       have b_w7:Below wT.heap.size wT w7:=(Below.refl _ _).drew.trans (b6.trans (b7.mono b6.size))
       have hs6:wT.heap.size≤w6.heap.size:=b6.size
       have P_w7:=hide hrow7
       clear hrow7 hrow6 b6 b7 hO7 cO7 zO7 cD ca0 ca1 ca2 ca3 cf0 cf1 cf2 HFT
       have hs_w7:wT.heap.size≤w7.heap.size:=(b_w7).size
       have HB_w7:Hid (Below w.heap.size w w7):=HB_wT.out.trans ((b_w7).mono HB_wT.out.size)
       have D_w7:Hid (w7.heap[w.heap.size]? = some (.cells #[.slice (some ⟨b,off,none⟩) fs.length cap] 31 (0,0))):=blk_below D_wT.out (b_w7)
       have A_w7:Hid (w7.heap[w.heap.size+1]? = some (.cells #[.int .i64 3,.string nm,.string tx,.string tt] 51 (0,0))):=blk_below A_wT.out (b_w7)
       have R_w7:Hid (w7.heap[w.heap.size+1+1]? = some (.cells #[.slice none 0 0] 31 (0,0))):=blk_below R_wT.out (b_w7)
       have F_w7:Hid (w7.heap[w2.heap.size]? = some (.cells #[.string tt,.string F.text,.int .i64 F.kept] 95 (0,0))):=blk_below F_wT.out (b_w7)
       have O_w7:Hid (w7.heap[w2.heap.size+1]? = some (.cells #[.slice none 0 0] 31 (0,0))):=blk_below O_wT.out (b_w7)
       clear HB_wT D_wT A_wT R_wT F_wT O_wT b_w7
       obtain ⟨w8,hw_w8⟩:∃ wq,wq=w7.setCell ⟨w2.heap.size+1,0,none⟩ (.slice aP (putD (withoutD fs nm) ⟨tt,F.text,F.kept⟩).length cP):=⟨_,rfl⟩
       have hs_w8:w7.heap.size≤w8.heap.size:=by rw [hw_w8];simp [World.setCell]
       have HB_w8:Hid (Below w.heap.size w w8):=by rw [hw_w8];exact HB_w7.out.setCell (p:=⟨w2.heap.size+1,0,none⟩) (by show w.heap.size≤w2.heap.size+1;omega) _
       have D_w8:Hid (w8.heap[w.heap.size]? = some (.cells #[.slice (some ⟨b,off,none⟩) fs.length cap] 31 (0,0))):=by rw [hw_w8,Below.heap_setCell _ _ _ _ (by first | (show (w.heap.size:Nat) ≠ w2.heap.size+1;omega) | (show (w2.heap.size+1:Nat) ≠ w.heap.size;omega))];exact D_w7.out
       have A_w8:Hid (w8.heap[w.heap.size+1]? = some (.cells #[.int .i64 3,.string nm,.string tx,.string tt] 51 (0,0))):=by rw [hw_w8,Below.heap_setCell _ _ _ _ (by first | (show (w.heap.size+1:Nat) ≠ w2.heap.size+1;omega) | (show (w2.heap.size+1:Nat) ≠ w.heap.size+1;omega))];exact A_w7.out
       have R_w8:Hid (w8.heap[w.heap.size+1+1]? = some (.cells #[.slice none 0 0] 31 (0,0))):=by rw [hw_w8,Below.heap_setCell _ _ _ _ (by first | (show (w.heap.size+1+1:Nat) ≠ w2.heap.size+1;omega) | (show (w2.heap.size+1:Nat) ≠ w.heap.size+1+1;omega))];exact R_w7.out
       have F_w8:Hid (w8.heap[w2.heap.size]? = some (.cells #[.string tt,.string F.text,.int .i64 F.kept] 95 (0,0))):=by rw [hw_w8,Below.heap_setCell _ _ _ _ (by first | (show (w2.heap.size:Nat) ≠ w2.heap.size+1;omega) | (show (w2.heap.size+1:Nat) ≠ w2.heap.size;omega))];exact F_w7.out
       have O_w8:Hid (w8.heap[w2.heap.size+1]? = some (.cells #[.slice aP (putD (withoutD fs nm) ⟨tt,F.text,F.kept⟩).length cP] 31 (0,0))):=by rw [hw_w8];exact (heap_setCell_same _ _ _ _ _ _ O_w7.out).trans rfl
       have P_w8:Hid (RowF w8 w6.heap.size (.slice aP (putD (withoutD fs nm) ⟨tt,F.text,F.kept⟩).length cP) (putD (withoutD fs nm) ⟨tt,F.text,F.kept⟩)):=by rw [hw_w8];exact rowF_grown P_w7.out (grownBy_store (World.grownBy.refl _ _) 0 _) (fun g hg e => by have h1:=(rowF_lt P_w7.out g hg).1;cases e;omega)
       clear HB_w7 D_w7 A_w7 R_w7 F_w7 O_w7 P_w7
       go_upto_region 24 with fail
       rw [← hw_w8]
       clear hw_w8
       have hRl:(putD (withoutD fs nm) ⟨tt,F.text,F.kept⟩).length≤1048576:=by have:=len_putD_le (withoutD fs nm) ⟨tt,F.text,F.kept⟩;omega
       have HRs:Hid (∀ G ∈ putD (withoutD fs nm) ⟨tt,F.text,F.kept⟩,G.name.size≤maxLen∧G.text.size≤maxLen):=put_sizes (fun G hG => ⟨small_max (HS.out G (List.mem_filter.1 hG).1).1,small_max (HS.out G (List.mem_filter.1 hG).1).2⟩) (by show _≤_;exact small_max hA3) (by show _≤_;exact small_max hF2)
       have cO:=box_of O_w8.out
       have hraw:rawD fs ⟨3,nm,tx,tt⟩=some (putD (withoutD fs nm) ⟨tt,F.text,F.kept⟩):=by rw [rawD];simp only [hfd',actF,hkp,htn,hto,Option.getD_some];simp
       go_wp2_with fail
       clear cO
       refine (specDiskOk_any (putD (withoutD fs nm) ⟨tt,F.text,F.kept⟩) _ _ _ hRl (rowF_files P_w8.out) HRs.out).mono ?_
       rintro e w9 ⟨rfl,b_w9⟩
       have hs_w9:w8.heap.size≤w9.heap.size:=(b_w9).size
       have HB_w9:Hid (Below w.heap.size w w9):=HB_w8.out.trans ((b_w9).mono HB_w8.out.size)
       have D_w9:Hid (w9.heap[w.heap.size]? = some (.cells #[.slice (some ⟨b,off,none⟩) fs.length cap] 31 (0,0))):=blk_below D_w8.out (b_w9)
       have A_w9:Hid (w9.heap[w.heap.size+1]? = some (.cells #[.int .i64 3,.string nm,.string tx,.string tt] 51 (0,0))):=blk_below A_w8.out (b_w9)
       have R_w9:Hid (w9.heap[w.heap.size+1+1]? = some (.cells #[.slice none 0 0] 31 (0,0))):=blk_below R_w8.out (b_w9)
       have F_w9:Hid (w9.heap[w2.heap.size]? = some (.cells #[.string tt,.string F.text,.int .i64 F.kept] 95 (0,0))):=blk_below F_w8.out (b_w9)
       have O_w9:Hid (w9.heap[w2.heap.size+1]? = some (.cells #[.slice aP (putD (withoutD fs nm) ⟨tt,F.text,F.kept⟩).length cP] 31 (0,0))):=blk_below O_w8.out (b_w9)
       have P_w9:Hid (RowF w9 w6.heap.size (.slice aP (putD (withoutD fs nm) ⟨tt,F.text,F.kept⟩).length cP) (putD (withoutD fs nm) ⟨tt,F.text,F.kept⟩)):=rowF_below P_w8.out (b_w9)
       clear HB_w8 D_w8 A_w8 R_w8 F_w8 O_w8 P_w8 b_w9
       cases hdk:diskOkD (putD (withoutD fs nm) ⟨tt,F.text,F.kept⟩)
       ·
        skip
        have cR:=box_of R_w9.out
        have zR0:=frozen_of_row w9 (w.heap.size+1+1) 0 _ _ R_w9.out
        have HNO:Hid (actD fs ⟨3,nm,tx,tt⟩=none):=actD_bad hact hraw hdk
        go_wp2
        refine bodyPost_ret (v:=.tuple #[.agg #[.slice none 0 0],.bool false]) (by simp [results,Tryz.results17,go_sem,cR]) rfl ⟨.slice none 0 0,by rw [HNO.out];rfl,.inl ⟨rfl,by rw [HNO.out];rfl⟩,?_⟩
        exact HB_w9.out.setCell (p:=⟨w.heap.size+1+1,0,none⟩) (by show w.heap.size≤w.heap.size+1+1;omega) _
       ·
        skip
        have cO:=box_of O_w9.out
        have cR:=box_of R_w9.out
        have zR0:=frozen_of_row w9 (w.heap.size+1+1) 0 _ _ R_w9.out
        have HYES:Hid (actD fs ⟨3,nm,tx,tt⟩=some (putD (withoutD fs nm) ⟨tt,F.text,F.kept⟩)):=actD_yes hact hraw hdk
        go_wp2_with fail
        refine bodyPost_ret (v:=.tuple #[.agg #[.slice aP (putD (withoutD fs nm) ⟨tt,F.text,F.kept⟩).length cP],.bool true]) (by simp [results,Tryz.results17,go_sem,cR]) rfl ⟨.slice aP (putD (withoutD fs nm) ⟨tt,F.text,F.kept⟩).length cP,by rw [HYES.out];rfl,?_,HB_w9.out.setCell (p:=⟨w.heap.size+1+1,0,none⟩) (by show w.heap.size≤w.heap.size+1+1;omega) _⟩
        rw [HYES.out]
        exact rowF_le (rowF_grown P_w9.out (grownBy_store (World.grownBy.refl _ _) 0 _) (fun g hg e => by have h1:=(rowF_lt P_w9.out g hg).1;cases e;omega)) (by omega)
     ·
      skip
      have cR:=box_of R_wO.out
      have zR0:=frozen_of_row wO (w.heap.size+1+1) 0 _ _ R_wO.out
      have HNO:Hid (actD fs ⟨3,nm,tx,tt⟩=none):=actD_raw hact (by rw [rawD];simp only [hfd',actF,htn,Option.getD_some];simp)
      go_wp2
      refine bodyPost_ret (v:=.tuple #[.agg #[.slice none 0 0],.bool false]) (by simp [results,Tryz.results17,go_sem,cR]) rfl ⟨.slice none 0 0,by rw [HNO.out];rfl,.inl ⟨rfl,by rw [HNO.out];rfl⟩,?_⟩
      exact HB_wO.out.setCell (p:=⟨w.heap.size+1+1,0,none⟩) (by show w.heap.size≤w.heap.size+1+1;omega) _
    ·
     skip
     have cR:=box_of R_wO.out
     have zR0:=frozen_of_row wO (w.heap.size+1+1) 0 _ _ R_wO.out
     have HNO:Hid (actD fs ⟨3,nm,tx,tt⟩=none):=actD_raw hact (by rw [rawD];simp only [hfd',actF,hkp,Option.getD_some];simp)
     go_wp2
     refine bodyPost_ret (v:=.tuple #[.agg #[.slice none 0 0],.bool false]) (by simp [results,Tryz.results17,go_sem,cR]) rfl ⟨.slice none 0 0,by rw [HNO.out];rfl,.inl ⟨rfl,by rw [HNO.out];rfl⟩,?_⟩
     exact HB_wO.out.setCell (p:=⟨w.heap.size+1+1,0,none⟩) (by show w.heap.size≤w.heap.size+1+1;omega) _
 cases et:tt.toList.isEmpty
 ·
  skip
  have cR:=box_of R_w1.out
  have zR0:=frozen_of_row w1 (w.heap.size+1+1) 0 _ _ R_w1.out
  have HNO:Hid (actD fs ⟨kd,nm,tx,tt⟩=none):=actD_no (by simp [actOk,hok,h1,et,k3])
  go_wp2
  refine bodyPost_ret (v:=.tuple #[.agg #[.slice none 0 0],.bool false]) (by simp [results,Tryz.results17,go_sem,cR]) rfl ⟨.slice none 0 0,by rw [HNO.out];rfl,.inl ⟨rfl,by rw [HNO.out];rfl⟩,?_⟩
  exact HB_w1.out.setCell (p:=⟨w.heap.size+1+1,0,none⟩) (by show w.heap.size≤w.heap.size+1+1;omega) _
 cases ex:tx.toList.isEmpty
 ·
  skip
  have cR:=box_of R_w1.out
  have zR0:=frozen_of_row w1 (w.heap.size+1+1) 0 _ _ R_w1.out
  have HNO:Hid (actD fs ⟨kd,nm,tx,tt⟩=none):=actD_no (by simp [actOk,hok,h1,et,ex,k1])
  go_wp2
  refine bodyPost_ret (v:=.tuple #[.agg #[.slice none 0 0],.bool false]) (by simp [results,Tryz.results17,go_sem,cR]) rfl ⟨.slice none 0 0,by rw [HNO.out];rfl,.inl ⟨rfl,by rw [HNO.out];rfl⟩,?_⟩
  exact HB_w1.out.setCell (p:=⟨w.heap.size+1+1,0,none⟩) (by show w.heap.size≤w.heap.size+1+1;omega) _
 have hact:actOk fs ⟨kd,nm,tx,tt⟩=true:=by simp [actOk,hok,h1,et,ex]
 by_cases k2:kd=2
 ·
  skip
  subst k2
  have cD:=box_of D_w1.out
  go_wp2_with fail
  clear cD ca0 ca1 ca2 ca3
  refine (l03At_any fs _ _ nm _ hl (filesAt_keep HF.out HB_w1.out)).mono ?_
  rintro e w2 ⟨rfl,b_w2⟩
  have hs_w2:w1.heap.size≤w2.heap.size:=(b_w2).size
  have HB_w2:Hid (Below w.heap.size w w2):=HB_w1.out.trans ((b_w2).mono HB_w1.out.size)
  have D_w2:Hid (w2.heap[w.heap.size]? = some (.cells #[.slice ao fs.length cap] 31 (0,0))):=blk_below D_w1.out (b_w2)
  have A_w2:Hid (w2.heap[w.heap.size+1]? = some (.cells #[.int .i64 2,.string nm,.string tx,.string tt] 51 (0,0))):=blk_below A_w1.out (b_w2)
  have R_w2:Hid (w2.heap[w.heap.size+1+1]? = some (.cells #[.slice none 0 0] 31 (0,0))):=blk_below R_w1.out (b_w2)
  clear HB_w1 D_w1 A_w1 R_w1 b_w2
  rcases at_cases nm fs 0 with ⟨hat,hno⟩ | ⟨j,hj,hat,hnm,hfd⟩
  ·
   skip
   have hfn:fileD fs nm=none:=List.find?_eq_none.2 (fun F hF => by rw [hno F hF];decide)
   rw [hat]
   have hd:decide ((-1:Int) < 0)=true:=by decide
   have hd2:decide ((0:Int)≤-1)=false:=by decide
   obtain ⟨ca0,ca1,ca2,ca3⟩:=act_cell A_w2.out
   obtain ⟨wF,hw_wF⟩:∃ wq,wq=w2.alloc (.cells #[.string nm,.string ⟨#[]⟩,.int .i64 0] 95):=⟨_,rfl⟩
   have bb_wF:Below w2.heap.size w2 wF:=by rw [hw_wF];exact (Below.refl _ _).alloc (Nat.le_refl _) _
   have hz_wF:w2.heap.size+1≤wF.heap.size:=by rw [hw_wF];simp
   have F_wF:Hid (wF.heap[w2.heap.size]? = some (.cells #[.string nm,.string ⟨#[]⟩,.int .i64 0] 95 (0,0))):=by rw [hw_wF];exact heap_alloc_new _ _
   have hs_wF:w2.heap.size≤wF.heap.size:=(bb_wF).size
   have HB_wF:Hid (Below w.heap.size w wF):=HB_w2.out.trans ((bb_wF).mono HB_w2.out.size)
   have D_wF:Hid (wF.heap[w.heap.size]? = some (.cells #[.slice ao fs.length cap] 31 (0,0))):=blk_below D_w2.out (bb_wF)
   have A_wF:Hid (wF.heap[w.heap.size+1]? = some (.cells #[.int .i64 2,.string nm,.string tx,.string tt] 51 (0,0))):=blk_below A_w2.out (bb_wF)
   have R_wF:Hid (wF.heap[w.heap.size+1+1]? = some (.cells #[.slice none 0 0] 31 (0,0))):=blk_below R_w2.out (bb_wF)
   obtain ⟨wO,hw_wO⟩:∃ wq,wq=wF.alloc (.cells #[.slice none 0 0] 31):=⟨_,rfl⟩
   have bb_wO:Below wF.heap.size wF wO:=by rw [hw_wO];exact (Below.refl _ _).alloc (Nat.le_refl _) _
   have hz_wO:wF.heap.size+1≤wO.heap.size:=by rw [hw_wO];simp
   have O_wO:Hid (wO.heap[wF.heap.size]? = some (.cells #[.slice none 0 0] 31 (0,0))):=by rw [hw_wO];exact heap_alloc_new _ _
   have hs_wO:wF.heap.size≤wO.heap.size:=(bb_wO).size
   have HB_wO:Hid (Below w.heap.size w wO):=HB_wF.out.trans ((bb_wO).mono HB_wF.out.size)
   have D_wO:Hid (wO.heap[w.heap.size]? = some (.cells #[.slice ao fs.length cap] 31 (0,0))):=blk_below D_wF.out (bb_wO)
   have A_wO:Hid (wO.heap[w.heap.size+1]? = some (.cells #[.int .i64 2,.string nm,.string tx,.string tt] 51 (0,0))):=blk_below A_wF.out (bb_wO)
   have R_wO:Hid (wO.heap[w.heap.size+1+1]? = some (.cells #[.slice none 0 0] 31 (0,0))):=blk_below R_wF.out (bb_wO)
   have F_wO:Hid (wO.heap[w2.heap.size]? = some (.cells #[.string nm,.string ⟨#[]⟩,.int .i64 0] 95 (0,0))):=blk_below F_wF.out (bb_wO)
   have qa0:=(act_cell A_wO.out).1
   rw [hw_wO,hw_wF] at qa0
   have cR:=box_of R_wO.out
   have zR0:=frozen_of_row wO (w.heap.size+1+1) 0 _ _ R_wO.out
   rw [hw_wO,hw_wF] at cR zR0
   have HNO:Hid (actD fs ⟨2,nm,tx,tt⟩=none):=actD_raw hact (by simp [rawD,hfn])
   go_wp2
   refine bodyPost_ret (v:=.tuple #[.agg #[.slice none 0 0],.bool false]) (by simp [results,Tryz.results17,go_sem,cR]) rfl ⟨.slice none 0 0,by rw [HNO.out];rfl,.inl ⟨rfl,by rw [HNO.out];rfl⟩,?_⟩
   rw [← hw_wF,← hw_wO]
   exact HB_wO.out.setCell (p:=⟨w.heap.size+1+1,0,none⟩) (by show w.heap.size≤w.heap.size+1+1;omega) _
  ·
   skip
   rw [hat,Nat.zero_add]
   have hd:decide ((j:Int) < 0)=false:=by simp
   have hd2:decide ((0:Int)≤(j:Int))=true:=by simp
   have hd3:((0:Int)≤(j:Int)):=by omega
   have hd4:(j:Int) < (fs.length:Int):=by omega
   have hFm:=List.getElem_mem hj
   obtain ⟨F,HFj⟩:∃ F,Hid (fs[j]=F):=⟨fs[j],hide rfl⟩
   rw [HFj.out] at hnm hfd hFm
   have hfd':fileD fs nm=some F:=hfd
   obtain ⟨hF1,hF2⟩:=HS.out F hFm
   obtain ⟨ca0,ca1,ca2,ca3⟩:=act_cell A_w2.out
   obtain ⟨wF,hw_wF⟩:∃ wq,wq=w2.alloc (.cells #[.string nm,.string ⟨#[]⟩,.int .i64 0] 95):=⟨_,rfl⟩
   have bb_wF:Below w2.heap.size w2 wF:=by rw [hw_wF];exact (Below.refl _ _).alloc (Nat.le_refl _) _
   have hz_wF:w2.heap.size+1≤wF.heap.size:=by rw [hw_wF];simp
   have F_wF:Hid (wF.heap[w2.heap.size]? = some (.cells #[.string nm,.string ⟨#[]⟩,.int .i64 0] 95 (0,0))):=by rw [hw_wF];exact heap_alloc_new _ _
   have hs_wF:w2.heap.size≤wF.heap.size:=(bb_wF).size
   have HB_wF:Hid (Below w.heap.size w wF):=HB_w2.out.trans ((bb_wF).mono HB_w2.out.size)
   have D_wF:Hid (wF.heap[w.heap.size]? = some (.cells #[.slice ao fs.length cap] 31 (0,0))):=blk_below D_w2.out (bb_wF)
   have A_wF:Hid (wF.heap[w.heap.size+1]? = some (.cells #[.int .i64 2,.string nm,.string tx,.string tt] 51 (0,0))):=blk_below A_w2.out (bb_wF)
   have R_wF:Hid (wF.heap[w.heap.size+1+1]? = some (.cells #[.slice none 0 0] 31 (0,0))):=blk_below R_w2.out (bb_wF)
   obtain ⟨b,off,rfl,hbw,hc0,hc1,hc2⟩:=filesAt_keep HF.out HB_wF.out j hj
   rw [HFj.out] at hc0 hc1 hc2
   have cD:=box_of D_wF.out
   rw [hw_wF] at cD hc0 hc1 hc2
   clear HB_wF D_wF A_wF R_wF F_wF bb_wF
   obtain ⟨wG,hw_wG⟩:∃ wq,wq=w2.alloc (.cells #[.string F.name,.string F.text,.int .i64 F.kept] 95):=⟨_,rfl⟩
   have bb_wG:Below w2.heap.size w2 wG:=by rw [hw_wG];exact (Below.refl _ _).alloc (Nat.le_refl _) _
   have hz_wG:w2.heap.size+1≤wG.heap.size:=by rw [hw_wG];simp
   have F_wG:Hid (wG.heap[w2.heap.size]? = some (.cells #[.string F.name,.string F.text,.int .i64 F.kept] 95 (0,0))):=by rw [hw_wG];exact heap_alloc_new _ _
   have hs_wG:w2.heap.size≤wG.heap.size:=(bb_wG).size
   have HB_wG:Hid (Below w.heap.size w wG):=HB_w2.out.trans ((bb_wG).mono HB_w2.out.size)
   have D_wG:Hid (wG.heap[w.heap.size]? = some (.cells #[.slice (some ⟨b,off,none⟩) fs.length cap] 31 (0,0))):=blk_below D_w2.out (bb_wG)
   have A_wG:Hid (wG.heap[w.heap.size+1]? = some (.cells #[.int .i64 2,.string nm,.string tx,.string tt] 51 (0,0))):=blk_below A_w2.out (bb_wG)
   have R_wG:Hid (wG.heap[w.heap.size+1+1]? = some (.cells #[.slice none 0 0] 31 (0,0))):=blk_below R_w2.out (bb_wG)
   have hwGs:wG.heap.size=w2.heap.size+1:=by rw [hw_wG];simp
   obtain ⟨wO,hw_wO⟩:∃ wq,wq=wG.alloc (.cells #[.slice none 0 0] 31):=⟨_,rfl⟩
   have bb_wO:Below wG.heap.size wG wO:=by rw [hw_wO];exact (Below.refl _ _).alloc (Nat.le_refl _) _
   have hz_wO:wG.heap.size+1≤wO.heap.size:=by rw [hw_wO];simp
   have O_wO:Hid (wO.heap[w2.heap.size+1]? = some (.cells #[.slice none 0 0] 31 (0,0))):=by rw [hw_wO,← hwGs];exact heap_alloc_new _ _
   have hs_wO:wG.heap.size≤wO.heap.size:=(bb_wO).size
   have HB_wO:Hid (Below w.heap.size w wO):=HB_wG.out.trans ((bb_wO).mono HB_wG.out.size)
   have D_wO:Hid (wO.heap[w.heap.size]? = some (.cells #[.slice (some ⟨b,off,none⟩) fs.length cap] 31 (0,0))):=blk_below D_wG.out (bb_wO)
   have A_wO:Hid (wO.heap[w.heap.size+1]? = some (.cells #[.int .i64 2,.string nm,.string tx,.string tt] 51 (0,0))):=blk_below A_wG.out (bb_wO)
   have R_wO:Hid (wO.heap[w.heap.size+1+1]? = some (.cells #[.slice none 0 0] 31 (0,0))):=blk_below R_wG.out (bb_wO)
   have F_wO:Hid (wO.heap[w2.heap.size]? = some (.cells #[.string F.name,.string F.text,.int .i64 F.kept] 95 (0,0))):=blk_below F_wG.out (bb_wO)
   go_upto_region 9 with fail
   rw [← hw_wG,← hw_wO]
   clear hw_wG hw_wO bb_wG bb_wO HB_wG D_wG A_wG R_wG F_wG
   clear cD hc0 hc1 hc2 ca0 ca1 ca2 ca3 hw_wF
   clear HB_w2 D_w2 A_w2 R_w2
   obtain ⟨ca0,ca1,ca2,ca3⟩:=act_cell A_wO.out
   obtain ⟨cf0,cf1,cf2⟩:=file_cell F_wO.out
   have zF2:=frozen_of_row wO (w2.heap.size) 2 _ _ F_wO.out
   obtain ⟨wT,hw_wT⟩:∃ wq,wq=wO.setCell ⟨w2.heap.size,2,none⟩ (.int .i64 (F.text.size:Int)):=⟨_,rfl⟩
   have hs_wT:wO.heap.size≤wT.heap.size:=by rw [hw_wT];simp [World.setCell]
   have HB_wT:Hid (Below w.heap.size w wT):=by rw [hw_wT];exact HB_wO.out.setCell (p:=⟨w2.heap.size,2,none⟩) (by show w.heap.size≤w2.heap.size;omega) _
   have D_wT:Hid (wT.heap[w.heap.size]? = some (.cells #[.slice (some ⟨b,off,none⟩) fs.length cap] 31 (0,0))):=by rw [hw_wT,Below.heap_setCell _ _ _ _ (by first | (show (w.heap.size:Nat) ≠ w2.heap.size;omega) | (show (w2.heap.size:Nat) ≠ w.heap.size;omega))];exact D_wO.out
   have A_wT:Hid (wT.heap[w.heap.size+1]? = some (.cells #[.int .i64 2,.string nm,.string tx,.string tt] 51 (0,0))):=by rw [hw_wT,Below.heap_setCell _ _ _ _ (by first | (show (w.heap.size+1:Nat) ≠ w2.heap.size;omega) | (show (w2.heap.size:Nat) ≠ w.heap.size+1;omega))];exact A_wO.out
   have R_wT:Hid (wT.heap[w.heap.size+1+1]? = some (.cells #[.slice none 0 0] 31 (0,0))):=by rw [hw_wT,Below.heap_setCell _ _ _ _ (by first | (show (w.heap.size+1+1:Nat) ≠ w2.heap.size;omega) | (show (w2.heap.size:Nat) ≠ w.heap.size+1+1;omega))];exact R_wO.out
   have F_wT:Hid (wT.heap[w2.heap.size]? = some (.cells #[.string F.name,.string F.text,.int .i64 (F.text.size:Int)] 95 (0,0))):=by rw [hw_wT];exact (heap_setCell_same _ _ _ _ _ _ F_wO.out).trans rfl
   have O_wT:Hid (wT.heap[w2.heap.size+1]? = some (.cells #[.slice none 0 0] 31 (0,0))):=by rw [hw_wT,Below.heap_setCell _ _ _ _ (by first | (show (w2.heap.size+1:Nat) ≠ w2.heap.size;omega) | (show (w2.heap.size:Nat) ≠ w2.heap.size+1;omega))];exact O_wO.out
   clear HB_wO D_wO A_wO R_wO F_wO O_wO
   go_upto_region 16 with fail
   rw [← hw_wT]
   clear hw_wT cf0 cf1 cf2 zF2 ca0 ca1 ca2 ca3
   have cD:=box_of D_wT.out
   obtain ⟨cf0,cf1,cf2⟩:=file_cell F_wT.out
   go_wp2_with fail
   clear cD cf0 cf1 cf2
   refine (l03Put_any fs _ _ ⟨F.name,F.text,(F.text.size:Int)⟩ _ (by omega) (filesAt_keep HF.out HB_wT.out)).mono ?_
   rintro e w7 ⟨v7,rfl,hrow7,b_w7⟩
   obtain ⟨aP,cP,rfl,_⟩:=rowF_at hrow7
   have P_w7:=hide hrow7
   clear hrow7
   have hs_w7:wT.heap.size≤w7.heap.size:=(b_w7).size
   have HB_w7:Hid (Below w.heap.size w w7):=HB_wT.out.trans ((b_w7).mono HB_wT.out.size)
   have D_w7:Hid (w7.heap[w.heap.size]? = some (.cells #[.slice (some ⟨b,off,none⟩) fs.length cap] 31 (0,0))):=blk_below D_wT.out (b_w7)
   have A_w7:Hid (w7.heap[w.heap.size+1]? = some (.cells #[.int .i64 2,.string nm,.string tx,.string tt] 51 (0,0))):=blk_below A_wT.out (b_w7)
   have R_w7:Hid (w7.heap[w.heap.size+1+1]? = some (.cells #[.slice none 0 0] 31 (0,0))):=blk_below R_wT.out (b_w7)
   have F_w7:Hid (w7.heap[w2.heap.size]? = some (.cells #[.string F.name,.string F.text,.int .i64 (F.text.size:Int)] 95 (0,0))):=blk_below F_wT.out (b_w7)
   have O_w7:Hid (w7.heap[w2.heap.size+1]? = some (.cells #[.slice none 0 0] 31 (0,0))):=blk_below O_wT.out (b_w7)
   clear HB_wT D_wT A_wT R_wT F_wT O_wT b_w7
   have cO:=box_of O_w7.out
   have zO0:=frozen_of_row w7 (w2.heap.size+1) 0 _ _ O_w7.out
   obtain ⟨w8,hw_w8⟩:∃ wq,wq=w7.setCell ⟨w2.heap.size+1,0,none⟩ (.slice aP (putD fs ⟨F.name,F.text,(F.text.size:Int)⟩).length cP):=⟨_,rfl⟩
   have hs_w8:w7.heap.size≤w8.heap.size:=by rw [hw_w8];simp [World.setCell]
   have HB_w8:Hid (Below w.heap.size w w8):=by rw [hw_w8];exact HB_w7.out.setCell (p:=⟨w2.heap.size+1,0,none⟩) (by show w.heap.size≤w2.heap.size+1;omega) _
   have D_w8:Hid (w8.heap[w.heap.size]? = some (.cells #[.slice (some ⟨b,off,none⟩) fs.length cap] 31 (0,0))):=by rw [hw_w8,Below.heap_setCell _ _ _ _ (by first | (show (w.heap.size:Nat) ≠ w2.heap.size+1;omega) | (show (w2.heap.size+1:Nat) ≠ w.heap.size;omega))];exact D_w7.out
   have A_w8:Hid (w8.heap[w.heap.size+1]? = some (.cells #[.int .i64 2,.string nm,.string tx,.string tt] 51 (0,0))):=by rw [hw_w8,Below.heap_setCell _ _ _ _ (by first | (show (w.heap.size+1:Nat) ≠ w2.heap.size+1;omega) | (show (w2.heap.size+1:Nat) ≠ w.heap.size+1;omega))];exact A_w7.out
   have R_w8:Hid (w8.heap[w.heap.size+1+1]? = some (.cells #[.slice none 0 0] 31 (0,0))):=by rw [hw_w8,Below.heap_setCell _ _ _ _ (by first | (show (w.heap.size+1+1:Nat) ≠ w2.heap.size+1;omega) | (show (w2.heap.size+1:Nat) ≠ w.heap.size+1+1;omega))];exact R_w7.out
   have F_w8:Hid (w8.heap[w2.heap.size]? = some (.cells #[.string F.name,.string F.text,.int .i64 (F.text.size:Int)] 95 (0,0))):=by rw [hw_w8,Below.heap_setCell _ _ _ _ (by first | (show (w2.heap.size:Nat) ≠ w2.heap.size+1;omega) | (show (w2.heap.size+1:Nat) ≠ w2.heap.size;omega))];exact F_w7.out
   have O_w8:Hid (w8.heap[w2.heap.size+1]? = some (.cells #[.slice aP (putD fs ⟨F.name,F.text,(F.text.size:Int)⟩).length cP] 31 (0,0))):=by rw [hw_w8];exact (heap_setCell_same _ _ _ _ _ _ O_w7.out).trans rfl
   have P_w8:Hid (RowF w8 wT.heap.size (.slice aP (putD fs ⟨F.name,F.text,(F.text.size:Int)⟩).length cP) (putD fs ⟨F.name,F.text,(F.text.size:Int)⟩)):=by rw [hw_w8];exact rowF_grown P_w7.out (grownBy_store (World.grownBy.refl _ _) 0 _) (fun g hg e => by have h1:=(rowF_lt P_w7.out g hg).1;cases e;omega)
   clear HB_w7 D_w7 A_w7 R_w7 F_w7 O_w7 P_w7
   go_upto_region 24 with fail
   rw [← hw_w8]
   clear hw_w8 cO zO0
   have hRl:(putD fs ⟨F.name,F.text,(F.text.size:Int)⟩).length≤1048576:=by have:=len_putD_le fs ⟨F.name,F.text,(F.text.size:Int)⟩;omega
   have HRs:Hid (∀ G ∈ putD fs ⟨F.name,F.text,(F.text.size:Int)⟩,G.name.size≤maxLen∧G.text.size≤maxLen):=put_sizes (fun G hG => ⟨small_max (HS.out G hG).1,small_max (HS.out G hG).2⟩) (by show _≤_;exact small_max hF1) (by show _≤_;exact small_max hF2)
   have cO:=box_of O_w8.out
   have hraw:rawD fs ⟨2,nm,tx,tt⟩=some (putD fs ⟨F.name,F.text,(F.text.size:Int)⟩):=by simp [rawD,actF,hfd']
   go_wp2_with fail
   clear cO
   refine (specDiskOk_any (putD fs ⟨F.name,F.text,(F.text.size:Int)⟩) _ _ _ hRl (rowF_files P_w8.out) HRs.out).mono ?_
   rintro e w9 ⟨rfl,b_w9⟩
   have hs_w9:w8.heap.size≤w9.heap.size:=(b_w9).size
   have HB_w9:Hid (Below w.heap.size w w9):=HB_w8.out.trans ((b_w9).mono HB_w8.out.size)
   have D_w9:Hid (w9.heap[w.heap.size]? = some (.cells #[.slice (some ⟨b,off,none⟩) fs.length cap] 31 (0,0))):=blk_below D_w8.out (b_w9)
   have A_w9:Hid (w9.heap[w.heap.size+1]? = some (.cells #[.int .i64 2,.string nm,.string tx,.string tt] 51 (0,0))):=blk_below A_w8.out (b_w9)
   have R_w9:Hid (w9.heap[w.heap.size+1+1]? = some (.cells #[.slice none 0 0] 31 (0,0))):=blk_below R_w8.out (b_w9)
   have F_w9:Hid (w9.heap[w2.heap.size]? = some (.cells #[.string F.name,.string F.text,.int .i64 (F.text.size:Int)] 95 (0,0))):=blk_below F_w8.out (b_w9)
   have O_w9:Hid (w9.heap[w2.heap.size+1]? = some (.cells #[.slice aP (putD fs ⟨F.name,F.text,(F.text.size:Int)⟩).length cP] 31 (0,0))):=blk_below O_w8.out (b_w9)
   have P_w9:Hid (RowF w9 wT.heap.size (.slice aP (putD fs ⟨F.name,F.text,(F.text.size:Int)⟩).length cP) (putD fs ⟨F.name,F.text,(F.text.size:Int)⟩)):=rowF_below P_w8.out (b_w9)
   clear HB_w8 D_w8 A_w8 R_w8 F_w8 O_w8 P_w8 b_w9
   cases hdk:diskOkD (putD fs ⟨F.name,F.text,(F.text.size:Int)⟩)
   ·
    skip
    have cR:=box_of R_w9.out
    have zR0:=frozen_of_row w9 (w.heap.size+1+1) 0 _ _ R_w9.out
    have HNO:Hid (actD fs ⟨2,nm,tx,tt⟩=none):=actD_bad hact hraw hdk
    go_wp2
    refine bodyPost_ret (v:=.tuple #[.agg #[.slice none 0 0],.bool false]) (by simp [results,Tryz.results17,go_sem,cR]) rfl ⟨.slice none 0 0,by rw [HNO.out];rfl,.inl ⟨rfl,by rw [HNO.out];rfl⟩,?_⟩
    exact HB_w9.out.setCell (p:=⟨w.heap.size+1+1,0,none⟩) (by show w.heap.size≤w.heap.size+1+1;omega) _
   ·
    skip
    have cO:=box_of O_w9.out
    have cR:=box_of R_w9.out
    have zR0:=frozen_of_row w9 (w.heap.size+1+1) 0 _ _ R_w9.out
    have HYES:Hid (actD fs ⟨2,nm,tx,tt⟩=some (putD fs ⟨F.name,F.text,(F.text.size:Int)⟩)):=actD_yes hact hraw hdk
    go_wp2_with fail
    refine bodyPost_ret (v:=.tuple #[.agg #[.slice aP (putD fs ⟨F.name,F.text,(F.text.size:Int)⟩).length cP],.bool true]) (by simp [results,Tryz.results17,go_sem,cR]) rfl ⟨.slice aP (putD fs ⟨F.name,F.text,(F.text.size:Int)⟩).length cP,by rw [HYES.out];rfl,?_,HB_w9.out.setCell (p:=⟨w.heap.size+1+1,0,none⟩) (by show w.heap.size≤w.heap.size+1+1;omega) _⟩
    rw [HYES.out]
    exact rowF_le (rowF_grown P_w9.out (grownBy_store (World.grownBy.refl _ _) 0 _) (fun g hg e => by have h1:=(rowF_lt P_w9.out g hg).1;cases e;omega)) (by omega)
 by_cases k4:kd=4
 ·
  skip
  subst k4
  have cD:=box_of D_w1.out
  go_wp2_with fail
  clear cD ca0 ca1 ca2 ca3
  refine (l03At_any fs _ _ nm _ hl (filesAt_keep HF.out HB_w1.out)).mono ?_
  rintro e w2 ⟨rfl,b_w2⟩
  have hs_w2:w1.heap.size≤w2.heap.size:=(b_w2).size
  have HB_w2:Hid (Below w.heap.size w w2):=HB_w1.out.trans ((b_w2).mono HB_w1.out.size)
  have D_w2:Hid (w2.heap[w.heap.size]? = some (.cells #[.slice ao fs.length cap] 31 (0,0))):=blk_below D_w1.out (b_w2)
  have A_w2:Hid (w2.heap[w.heap.size+1]? = some (.cells #[.int .i64 4,.string nm,.string tx,.string tt] 51 (0,0))):=blk_below A_w1.out (b_w2)
  have R_w2:Hid (w2.heap[w.heap.size+1+1]? = some (.cells #[.slice none 0 0] 31 (0,0))):=blk_below R_w1.out (b_w2)
  clear HB_w1 D_w1 A_w1 R_w1 b_w2
  rcases at_cases nm fs 0 with ⟨hat,hno⟩ | ⟨j,hj,hat,hnm,hfd⟩
  ·
   skip
   have hfn:fileD fs nm=none:=List.find?_eq_none.2 (fun F hF => by rw [hno F hF];decide)
   rw [hat]
   have hd:decide ((-1:Int) < 0)=true:=by decide
   have hd2:decide ((0:Int)≤-1)=false:=by decide
   obtain ⟨ca0,ca1,ca2,ca3⟩:=act_cell A_w2.out
   obtain ⟨wF,hw_wF⟩:∃ wq,wq=w2.alloc (.cells #[.string nm,.string ⟨#[]⟩,.int .i64 0] 95):=⟨_,rfl⟩
   have bb_wF:Below w2.heap.size w2 wF:=by rw [hw_wF];exact (Below.refl _ _).alloc (Nat.le_refl _) _
   have hz_wF:w2.heap.size+1≤wF.heap.size:=by rw [hw_wF];simp
   have F_wF:Hid (wF.heap[w2.heap.size]? = some (.cells #[.string nm,.string ⟨#[]⟩,.int .i64 0] 95 (0,0))):=by rw [hw_wF];exact heap_alloc_new _ _
   have hs_wF:w2.heap.size≤wF.heap.size:=(bb_wF).size
   have HB_wF:Hid (Below w.heap.size w wF):=HB_w2.out.trans ((bb_wF).mono HB_w2.out.size)
   have D_wF:Hid (wF.heap[w.heap.size]? = some (.cells #[.slice ao fs.length cap] 31 (0,0))):=blk_below D_w2.out (bb_wF)
   have A_wF:Hid (wF.heap[w.heap.size+1]? = some (.cells #[.int .i64 4,.string nm,.string tx,.string tt] 51 (0,0))):=blk_below A_w2.out (bb_wF)
   have R_wF:Hid (wF.heap[w.heap.size+1+1]? = some (.cells #[.slice none 0 0] 31 (0,0))):=blk_below R_w2.out (bb_wF)
   obtain ⟨wO,hw_wO⟩:∃ wq,wq=wF.alloc (.cells #[.slice none 0 0] 31):=⟨_,rfl⟩
   have bb_wO:Below wF.heap.size wF wO:=by rw [hw_wO];exact (Below.refl _ _).alloc (Nat.le_refl _) _
   have hz_wO:wF.heap.size+1≤wO.heap.size:=by rw [hw_wO];simp
   have O_wO:Hid (wO.heap[wF.heap.size]? = some (.cells #[.slice none 0 0] 31 (0,0))):=by rw [hw_wO];exact heap_alloc_new _ _
   have hs_wO:wF.heap.size≤wO.heap.size:=(bb_wO).size
   have HB_wO:Hid (Below w.heap.size w wO):=HB_wF.out.trans ((bb_wO).mono HB_wF.out.size)
   have D_wO:Hid (wO.heap[w.heap.size]? = some (.cells #[.slice ao fs.length cap] 31 (0,0))):=blk_below D_wF.out (bb_wO)
   have A_wO:Hid (wO.heap[w.heap.size+1]? = some (.cells #[.int .i64 4,.string nm,.string tx,.string tt] 51 (0,0))):=blk_below A_wF.out (bb_wO)
   have R_wO:Hid (wO.heap[w.heap.size+1+1]? = some (.cells #[.slice none 0 0] 31 (0,0))):=blk_below R_wF.out (bb_wO)
   have F_wO:Hid (wO.heap[w2.heap.size]? = some (.cells #[.string nm,.string ⟨#[]⟩,.int .i64 0] 95 (0,0))):=blk_below F_wF.out (bb_wO)
   have qa0:=(act_cell A_wO.out).1
   rw [hw_wO,hw_wF] at qa0
   have cR:=box_of R_wO.out
   have zR0:=frozen_of_row wO (w.heap.size+1+1) 0 _ _ R_wO.out
   rw [hw_wO,hw_wF] at cR zR0
   have HNO:Hid (actD fs ⟨4,nm,tx,tt⟩=none):=actD_raw hact (by simp [rawD,hfn])
   go_wp2
   refine bodyPost_ret (v:=.tuple #[.agg #[.slice none 0 0],.bool false]) (by simp [results,Tryz.results17,go_sem,cR]) rfl ⟨.slice none 0 0,by rw [HNO.out];rfl,.inl ⟨rfl,by rw [HNO.out];rfl⟩,?_⟩
   rw [← hw_wF,← hw_wO]
   exact HB_wO.out.setCell (p:=⟨w.heap.size+1+1,0,none⟩) (by show w.heap.size≤w.heap.size+1+1;omega) _
  ·
   skip
   rw [hat,Nat.zero_add]
   have hd:decide ((j:Int) < 0)=false:=by simp
   have hd2:decide ((0:Int)≤(j:Int))=true:=by simp
   have hd3:((0:Int)≤(j:Int)):=by omega
   have hd4:(j:Int) < (fs.length:Int):=by omega
   have hFm:=List.getElem_mem hj
   obtain ⟨F,HFj⟩:∃ F,Hid (fs[j]=F):=⟨fs[j],hide rfl⟩
   rw [HFj.out] at hnm hfd hFm
   have hfd':fileD fs nm=some F:=hfd
   obtain ⟨hF1,hF2⟩:=HS.out F hFm
   obtain ⟨ca0,ca1,ca2,ca3⟩:=act_cell A_w2.out
   obtain ⟨wF,hw_wF⟩:∃ wq,wq=w2.alloc (.cells #[.string nm,.string ⟨#[]⟩,.int .i64 0] 95):=⟨_,rfl⟩
   have bb_wF:Below w2.heap.size w2 wF:=by rw [hw_wF];exact (Below.refl _ _).alloc (Nat.le_refl _) _
   have hz_wF:w2.heap.size+1≤wF.heap.size:=by rw [hw_wF];simp
   have F_wF:Hid (wF.heap[w2.heap.size]? = some (.cells #[.string nm,.string ⟨#[]⟩,.int .i64 0] 95 (0,0))):=by rw [hw_wF];exact heap_alloc_new _ _
   have hs_wF:w2.heap.size≤wF.heap.size:=(bb_wF).size
   have HB_wF:Hid (Below w.heap.size w wF):=HB_w2.out.trans ((bb_wF).mono HB_w2.out.size)
   have D_wF:Hid (wF.heap[w.heap.size]? = some (.cells #[.slice ao fs.length cap] 31 (0,0))):=blk_below D_w2.out (bb_wF)
   have A_wF:Hid (wF.heap[w.heap.size+1]? = some (.cells #[.int .i64 4,.string nm,.string tx,.string tt] 51 (0,0))):=blk_below A_w2.out (bb_wF)
   have R_wF:Hid (wF.heap[w.heap.size+1+1]? = some (.cells #[.slice none 0 0] 31 (0,0))):=blk_below R_w2.out (bb_wF)
   obtain ⟨b,off,rfl,hbw,hc0,hc1,hc2⟩:=filesAt_keep HF.out HB_wF.out j hj
   rw [HFj.out] at hc0 hc1 hc2
   have cD:=box_of D_wF.out
   rw [hw_wF] at cD hc0 hc1 hc2
   clear HB_wF D_wF A_wF R_wF F_wF bb_wF
   obtain ⟨wG,hw_wG⟩:∃ wq,wq=w2.alloc (.cells #[.string F.name,.string F.text,.int .i64 F.kept] 95):=⟨_,rfl⟩
   have bb_wG:Below w2.heap.size w2 wG:=by rw [hw_wG];exact (Below.refl _ _).alloc (Nat.le_refl _) _
   have hz_wG:w2.heap.size+1≤wG.heap.size:=by rw [hw_wG];simp
   have F_wG:Hid (wG.heap[w2.heap.size]? = some (.cells #[.string F.name,.string F.text,.int .i64 F.kept] 95 (0,0))):=by rw [hw_wG];exact heap_alloc_new _ _
   have hs_wG:w2.heap.size≤wG.heap.size:=(bb_wG).size
   have HB_wG:Hid (Below w.heap.size w wG):=HB_w2.out.trans ((bb_wG).mono HB_w2.out.size)
   have D_wG:Hid (wG.heap[w.heap.size]? = some (.cells #[.slice (some ⟨b,off,none⟩) fs.length cap] 31 (0,0))):=blk_below D_w2.out (bb_wG)
   have A_wG:Hid (wG.heap[w.heap.size+1]? = some (.cells #[.int .i64 4,.string nm,.string tx,.string tt] 51 (0,0))):=blk_below A_w2.out (bb_wG)
   have R_wG:Hid (wG.heap[w.heap.size+1+1]? = some (.cells #[.slice none 0 0] 31 (0,0))):=blk_below R_w2.out (bb_wG)
   have hwGs:wG.heap.size=w2.heap.size+1:=by rw [hw_wG];simp
   obtain ⟨wO,hw_wO⟩:∃ wq,wq=wG.alloc (.cells #[.slice none 0 0] 31):=⟨_,rfl⟩
   have bb_wO:Below wG.heap.size wG wO:=by rw [hw_wO];exact (Below.refl _ _).alloc (Nat.le_refl _) _
   have hz_wO:wG.heap.size+1≤wO.heap.size:=by rw [hw_wO];simp
   have O_wO:Hid (wO.heap[w2.heap.size+1]? = some (.cells #[.slice none 0 0] 31 (0,0))):=by rw [hw_wO,← hwGs];exact heap_alloc_new _ _
   have hs_wO:wG.heap.size≤wO.heap.size:=(bb_wO).size
   have HB_wO:Hid (Below w.heap.size w wO):=HB_wG.out.trans ((bb_wO).mono HB_wG.out.size)
   have D_wO:Hid (wO.heap[w.heap.size]? = some (.cells #[.slice (some ⟨b,off,none⟩) fs.length cap] 31 (0,0))):=blk_below D_wG.out (bb_wO)
   have A_wO:Hid (wO.heap[w.heap.size+1]? = some (.cells #[.int .i64 4,.string nm,.string tx,.string tt] 51 (0,0))):=blk_below A_wG.out (bb_wO)
   have R_wO:Hid (wO.heap[w.heap.size+1+1]? = some (.cells #[.slice none 0 0] 31 (0,0))):=blk_below R_wG.out (bb_wO)
   have F_wO:Hid (wO.heap[w2.heap.size]? = some (.cells #[.string F.name,.string F.text,.int .i64 F.kept] 95 (0,0))):=blk_below F_wG.out (bb_wO)
   go_upto_region 9 with fail
   rw [← hw_wG,← hw_wO]
   clear hw_wG hw_wO bb_wG bb_wO HB_wG D_wG A_wG R_wG F_wG
   clear cD hc0 hc1 hc2 ca0 ca1 ca2 ca3 hw_wF
   clear HB_w2 D_w2 A_w2 R_w2
   obtain ⟨ca0,ca1,ca2,ca3⟩:=act_cell A_wO.out
   have cD:=box_of D_wO.out
   go_wp2_with fail
   clear cD ca0 ca1 ca2 ca3
   refine (l03Without_any fs _ _ nm _ (by omega) (filesAt_keep HF.out HB_wO.out)).mono ?_
   rintro e w7 ⟨v7,rfl,hrow7,b_w7⟩
   obtain ⟨aP,cP,rfl,_⟩:=rowF_at hrow7
   have P_w7:=hide hrow7
   clear hrow7
   have hs_w7:wO.heap.size≤w7.heap.size:=(b_w7).size
   have HB_w7:Hid (Below w.heap.size w w7):=HB_wO.out.trans ((b_w7).mono HB_wO.out.size)
   have D_w7:Hid (w7.heap[w.heap.size]? = some (.cells #[.slice (some ⟨b,off,none⟩) fs.length cap] 31 (0,0))):=blk_below D_wO.out (b_w7)
   have A_w7:Hid (w7.heap[w.heap.size+1]? = some (.cells #[.int .i64 4,.string nm,.string tx,.string tt] 51 (0,0))):=blk_below A_wO.out (b_w7)
   have R_w7:Hid (w7.heap[w.heap.size+1+1]? = some (.cells #[.slice none 0 0] 31 (0,0))):=blk_below R_wO.out (b_w7)
   have F_w7:Hid (w7.heap[w2.heap.size]? = some (.cells #[.string F.name,.string F.text,.int .i64 F.kept] 95 (0,0))):=blk_below F_wO.out (b_w7)
   have O_w7:Hid (w7.heap[w2.heap.size+1]? = some (.cells #[.slice none 0 0] 31 (0,0))):=blk_below O_wO.out (b_w7)
   clear HB_wO D_wO A_wO R_wO F_wO O_wO b_w7
   have cO:=box_of O_w7.out
   have zO0:=frozen_of_row w7 (w2.heap.size+1) 0 _ _ O_w7.out
   obtain ⟨w8,hw_w8⟩:∃ wq,wq=w7.setCell ⟨w2.heap.size+1,0,none⟩ (.slice aP (withoutD fs nm).length cP):=⟨_,rfl⟩
   have hs_w8:w7.heap.size≤w8.heap.size:=by rw [hw_w8];simp [World.setCell]
   have HB_w8:Hid (Below w.heap.size w w8):=by rw [hw_w8];exact HB_w7.out.setCell (p:=⟨w2.heap.size+1,0,none⟩) (by show w.heap.size≤w2.heap.size+1;omega) _
   have D_w8:Hid (w8.heap[w.heap.size]? = some (.cells #[.slice (some ⟨b,off,none⟩) fs.length cap] 31 (0,0))):=by rw [hw_w8,Below.heap_setCell _ _ _ _ (by first | (show (w.heap.size:Nat) ≠ w2.heap.size+1;omega) | (show (w2.heap.size+1:Nat) ≠ w.heap.size;omega))];exact D_w7.out
   have A_w8:Hid (w8.heap[w.heap.size+1]? = some (.cells #[.int .i64 4,.string nm,.string tx,.string tt] 51 (0,0))):=by rw [hw_w8,Below.heap_setCell _ _ _ _ (by first | (show (w.heap.size+1:Nat) ≠ w2.heap.size+1;omega) | (show (w2.heap.size+1:Nat) ≠ w.heap.size+1;omega))];exact A_w7.out
   have R_w8:Hid (w8.heap[w.heap.size+1+1]? = some (.cells #[.slice none 0 0] 31 (0,0))):=by rw [hw_w8,Below.heap_setCell _ _ _ _ (by first | (show (w.heap.size+1+1:Nat) ≠ w2.heap.size+1;omega) | (show (w2.heap.size+1:Nat) ≠ w.heap.size+1+1;omega))];exact R_w7.out
   have F_w8:Hid (w8.heap[w2.heap.size]? = some (.cells #[.string F.name,.string F.text,.int .i64 F.kept] 95 (0,0))):=by rw [hw_w8,Below.heap_setCell _ _ _ _ (by first | (show (w2.heap.size:Nat) ≠ w2.heap.size+1;omega) | (show (w2.heap.size+1:Nat) ≠ w2.heap.size;omega))];exact F_w7.out
   have O_w8:Hid (w8.heap[w2.heap.size+1]? = some (.cells #[.slice aP (withoutD fs nm).length cP] 31 (0,0))):=by rw [hw_w8];exact (heap_setCell_same _ _ _ _ _ _ O_w7.out).trans rfl
   have P_w8:Hid (RowF w8 wO.heap.size (.slice aP (withoutD fs nm).length cP) (withoutD fs nm)):=by rw [hw_w8];exact rowF_grown P_w7.out (grownBy_store (World.grownBy.refl _ _) 0 _) (fun g hg e => by have h1:=(rowF_lt P_w7.out g hg).1;cases e;omega)
   clear HB_w7 D_w7 A_w7 R_w7 F_w7 O_w7 P_w7
   go_upto_region 24 with fail
   rw [← hw_w8]
   clear hw_w8 cO zO0
   have hRl:(withoutD fs nm).length≤1048576:=by have h2:=List.length_filter_le (otherF nm) fs;simp only [withoutD];omega
   have HRs:Hid (∀ G ∈ withoutD fs nm,G.name.size≤maxLen∧G.text.size≤maxLen):=fun G hG => ⟨small_max (HS.out G ((List.mem_filter.1 hG).1)).1,small_max (HS.out G ((List.mem_filter.1 hG).1)).2⟩
   have cO:=box_of O_w8.out
   have hraw:rawD fs ⟨4,nm,tx,tt⟩=some (withoutD fs nm):=by simp [rawD,hfd']
   go_wp2_with fail
   clear cO
   refine (specDiskOk_any (withoutD fs nm) _ _ _ hRl (rowF_files P_w8.out) HRs.out).mono ?_
   rintro e w9 ⟨rfl,b_w9⟩
   have hs_w9:w8.heap.size≤w9.heap.size:=(b_w9).size
   have HB_w9:Hid (Below w.heap.size w w9):=HB_w8.out.trans ((b_w9).mono HB_w8.out.size)
   have D_w9:Hid (w9.heap[w.heap.size]? = some (.cells #[.slice (some ⟨b,off,none⟩) fs.length cap] 31 (0,0))):=blk_below D_w8.out (b_w9)
   have A_w9:Hid (w9.heap[w.heap.size+1]? = some (.cells #[.int .i64 4,.string nm,.string tx,.string tt] 51 (0,0))):=blk_below A_w8.out (b_w9)
   have R_w9:Hid (w9.heap[w.heap.size+1+1]? = some (.cells #[.slice none 0 0] 31 (0,0))):=blk_below R_w8.out (b_w9)
   have F_w9:Hid (w9.heap[w2.heap.size]? = some (.cells #[.string F.name,.string F.text,.int .i64 F.kept] 95 (0,0))):=blk_below F_w8.out (b_w9)
   have O_w9:Hid (w9.heap[w2.heap.size+1]? = some (.cells #[.slice aP (withoutD fs nm).length cP] 31 (0,0))):=blk_below O_w8.out (b_w9)
   have P_w9:Hid (RowF w9 wO.heap.size (.slice aP (withoutD fs nm).length cP) (withoutD fs nm)):=rowF_below P_w8.out (b_w9)
   clear HB_w8 D_w8 A_w8 R_w8 F_w8 O_w8 P_w8 b_w9
   cases hdk:diskOkD (withoutD fs nm)
   ·
    skip
    have cR:=box_of R_w9.out
    have zR0:=frozen_of_row w9 (w.heap.size+1+1) 0 _ _ R_w9.out
    have HNO:Hid (actD fs ⟨4,nm,tx,tt⟩=none):=actD_bad hact hraw hdk
    go_wp2
    refine bodyPost_ret (v:=.tuple #[.agg #[.slice none 0 0],.bool false]) (by simp [results,Tryz.results17,go_sem,cR]) rfl ⟨.slice none 0 0,by rw [HNO.out];rfl,.inl ⟨rfl,by rw [HNO.out];rfl⟩,?_⟩
    exact HB_w9.out.setCell (p:=⟨w.heap.size+1+1,0,none⟩) (by show w.heap.size≤w.heap.size+1+1;omega) _
   ·
    skip
    have cO:=box_of O_w9.out
    have cR:=box_of R_w9.out
    have zR0:=frozen_of_row w9 (w.heap.size+1+1) 0 _ _ R_w9.out
    have HYES:Hid (actD fs ⟨4,nm,tx,tt⟩=some (withoutD fs nm)):=actD_yes hact hraw hdk
    go_wp2_with fail
    refine bodyPost_ret (v:=.tuple #[.agg #[.slice aP (withoutD fs nm).length cP],.bool true]) (by simp [results,Tryz.results17,go_sem,cR]) rfl ⟨.slice aP (withoutD fs nm).length cP,by rw [HYES.out];rfl,?_,HB_w9.out.setCell (p:=⟨w.heap.size+1+1,0,none⟩) (by show w.heap.size≤w.heap.size+1+1;omega) _⟩
    rw [HYES.out]
    exact rowF_le (rowF_grown P_w9.out (grownBy_store (World.grownBy.refl _ _) 0 _) (fun g hg e => by have h1:=(rowF_lt P_w9.out g hg).1;cases e;omega)) (by omega)
 have cD:=box_of D_w1.out
 go_wp2_with fail
 clear cD ca0 ca1 ca2 ca3
 refine (l03At_any fs _ _ nm _ hl (filesAt_keep HF.out HB_w1.out)).mono ?_
 rintro e w2 ⟨rfl,b_w2⟩
 have hs_w2:w1.heap.size≤w2.heap.size:=(b_w2).size
 have HB_w2:Hid (Below w.heap.size w w2):=HB_w1.out.trans ((b_w2).mono HB_w1.out.size)
 have D_w2:Hid (w2.heap[w.heap.size]? = some (.cells #[.slice ao fs.length cap] 31 (0,0))):=blk_below D_w1.out (b_w2)
 have A_w2:Hid (w2.heap[w.heap.size+1]? = some (.cells #[.int .i64 kd,.string nm,.string tx,.string tt] 51 (0,0))):=blk_below A_w1.out (b_w2)
 have R_w2:Hid (w2.heap[w.heap.size+1+1]? = some (.cells #[.slice none 0 0] 31 (0,0))):=blk_below R_w1.out (b_w2)
 clear HB_w1 D_w1 A_w1 R_w1 b_w2
 rcases at_cases nm fs 0 with ⟨hat,hno⟩ | ⟨j,hj,hat,hnm,hfd⟩
 ·
  skip
  have hfn:fileD fs nm=none:=List.find?_eq_none.2 (fun F hF => by rw [hno F hF];decide)
  rw [hat]
  have hd:decide ((-1:Int) < 0)=true:=by decide
  have hd2:decide ((0:Int)≤-1)=false:=by decide
  obtain ⟨ca0,ca1,ca2,ca3⟩:=act_cell A_w2.out
  obtain ⟨wF,hw_wF⟩:∃ wq,wq=w2.alloc (.cells #[.string nm,.string ⟨#[]⟩,.int .i64 0] 95):=⟨_,rfl⟩
  have bb_wF:Below w2.heap.size w2 wF:=by rw [hw_wF];exact (Below.refl _ _).alloc (Nat.le_refl _) _
  have hz_wF:w2.heap.size+1≤wF.heap.size:=by rw [hw_wF];simp
  have F_wF:Hid (wF.heap[w2.heap.size]? = some (.cells #[.string nm,.string ⟨#[]⟩,.int .i64 0] 95 (0,0))):=by rw [hw_wF];exact heap_alloc_new _ _
  have hs_wF:w2.heap.size≤wF.heap.size:=(bb_wF).size
  have HB_wF:Hid (Below w.heap.size w wF):=HB_w2.out.trans ((bb_wF).mono HB_w2.out.size)
  have D_wF:Hid (wF.heap[w.heap.size]? = some (.cells #[.slice ao fs.length cap] 31 (0,0))):=blk_below D_w2.out (bb_wF)
  have A_wF:Hid (wF.heap[w.heap.size+1]? = some (.cells #[.int .i64 kd,.string nm,.string tx,.string tt] 51 (0,0))):=blk_below A_w2.out (bb_wF)
  have R_wF:Hid (wF.heap[w.heap.size+1+1]? = some (.cells #[.slice none 0 0] 31 (0,0))):=blk_below R_w2.out (bb_wF)
  obtain ⟨wO,hw_wO⟩:∃ wq,wq=wF.alloc (.cells #[.slice none 0 0] 31):=⟨_,rfl⟩
  have bb_wO:Below wF.heap.size wF wO:=by rw [hw_wO];exact (Below.refl _ _).alloc (Nat.le_refl _) _
  have hz_wO:wF.heap.size+1≤wO.heap.size:=by rw [hw_wO];simp
  have O_wO:Hid (wO.heap[wF.heap.size]? = some (.cells #[.slice none 0 0] 31 (0,0))):=by rw [hw_wO];exact heap_alloc_new _ _
  have hs_wO:wF.heap.size≤wO.heap.size:=(bb_wO).size
  have HB_wO:Hid (Below w.heap.size w wO):=HB_wF.out.trans ((bb_wO).mono HB_wF.out.size)
  have D_wO:Hid (wO.heap[w.heap.size]? = some (.cells #[.slice ao fs.length cap] 31 (0,0))):=blk_below D_wF.out (bb_wO)
  have A_wO:Hid (wO.heap[w.heap.size+1]? = some (.cells #[.int .i64 kd,.string nm,.string tx,.string tt] 51 (0,0))):=blk_below A_wF.out (bb_wO)
  have R_wO:Hid (wO.heap[w.heap.size+1+1]? = some (.cells #[.slice none 0 0] 31 (0,0))):=blk_below R_wF.out (bb_wO)
  have F_wO:Hid (wO.heap[w2.heap.size]? = some (.cells #[.string nm,.string ⟨#[]⟩,.int .i64 0] 95 (0,0))):=blk_below F_wF.out (bb_wO)
  have qa0:=(act_cell A_wO.out).1
  rw [hw_wO,hw_wF] at qa0
  have cR:=box_of R_wO.out
  have zR0:=frozen_of_row wO (w.heap.size+1+1) 0 _ _ R_wO.out
  rw [hw_wO,hw_wF] at cR zR0
  have HNO:Hid (actD fs ⟨kd,nm,tx,tt⟩=none):=actD_raw hact (by simp [rawD,hfn,k1])
  go_wp2
  refine bodyPost_ret (v:=.tuple #[.agg #[.slice none 0 0],.bool false]) (by simp [results,Tryz.results17,go_sem,cR]) rfl ⟨.slice none 0 0,by rw [HNO.out];rfl,.inl ⟨rfl,by rw [HNO.out];rfl⟩,?_⟩
  rw [← hw_wF,← hw_wO]
  exact HB_wO.out.setCell (p:=⟨w.heap.size+1+1,0,none⟩) (by show w.heap.size≤w.heap.size+1+1;omega) _
 ·
  skip
  rw [hat,Nat.zero_add]
  have hd:decide ((j:Int) < 0)=false:=by simp
  have hd2:decide ((0:Int)≤(j:Int))=true:=by simp
  have hd3:((0:Int)≤(j:Int)):=by omega
  have hd4:(j:Int) < (fs.length:Int):=by omega
  have hFm:=List.getElem_mem hj
  obtain ⟨F,HFj⟩:∃ F,Hid (fs[j]=F):=⟨fs[j],hide rfl⟩
  rw [HFj.out] at hnm hfd hFm
  have hfd':fileD fs nm=some F:=hfd
  obtain ⟨hF1,hF2⟩:=HS.out F hFm
  obtain ⟨ca0,ca1,ca2,ca3⟩:=act_cell A_w2.out
  obtain ⟨wF,hw_wF⟩:∃ wq,wq=w2.alloc (.cells #[.string nm,.string ⟨#[]⟩,.int .i64 0] 95):=⟨_,rfl⟩
  have bb_wF:Below w2.heap.size w2 wF:=by rw [hw_wF];exact (Below.refl _ _).alloc (Nat.le_refl _) _
  have hz_wF:w2.heap.size+1≤wF.heap.size:=by rw [hw_wF];simp
  have F_wF:Hid (wF.heap[w2.heap.size]? = some (.cells #[.string nm,.string ⟨#[]⟩,.int .i64 0] 95 (0,0))):=by rw [hw_wF];exact heap_alloc_new _ _
  have hs_wF:w2.heap.size≤wF.heap.size:=(bb_wF).size
  have HB_wF:Hid (Below w.heap.size w wF):=HB_w2.out.trans ((bb_wF).mono HB_w2.out.size)
  have D_wF:Hid (wF.heap[w.heap.size]? = some (.cells #[.slice ao fs.length cap] 31 (0,0))):=blk_below D_w2.out (bb_wF)
  have A_wF:Hid (wF.heap[w.heap.size+1]? = some (.cells #[.int .i64 kd,.string nm,.string tx,.string tt] 51 (0,0))):=blk_below A_w2.out (bb_wF)
  have R_wF:Hid (wF.heap[w.heap.size+1+1]? = some (.cells #[.slice none 0 0] 31 (0,0))):=blk_below R_w2.out (bb_wF)
  obtain ⟨b,off,rfl,hbw,hc0,hc1,hc2⟩:=filesAt_keep HF.out HB_wF.out j hj
  rw [HFj.out] at hc0 hc1 hc2
  have cD:=box_of D_wF.out
  rw [hw_wF] at cD hc0 hc1 hc2
  clear HB_wF D_wF A_wF R_wF F_wF bb_wF
  obtain ⟨wG,hw_wG⟩:∃ wq,wq=w2.alloc (.cells #[.string F.name,.string F.text,.int .i64 F.kept] 95):=⟨_,rfl⟩
  have bb_wG:Below w2.heap.size w2 wG:=by rw [hw_wG];exact (Below.refl _ _).alloc (Nat.le_refl _) _
  have hz_wG:w2.heap.size+1≤wG.heap.size:=by rw [hw_wG];simp
  have F_wG:Hid (wG.heap[w2.heap.size]? = some (.cells #[.string F.name,.string F.text,.int .i64 F.kept] 95 (0,0))):=by rw [hw_wG];exact heap_alloc_new _ _
  have hs_wG:w2.heap.size≤wG.heap.size:=(bb_wG).size
  have HB_wG:Hid (Below w.heap.size w wG):=HB_w2.out.trans ((bb_wG).mono HB_w2.out.size)
  have D_wG:Hid (wG.heap[w.heap.size]? = some (.cells #[.slice (some ⟨b,off,none⟩) fs.length cap] 31 (0,0))):=blk_below D_w2.out (bb_wG)
  have A_wG:Hid (wG.heap[w.heap.size+1]? = some (.cells #[.int .i64 kd,.string nm,.string tx,.string tt] 51 (0,0))):=blk_below A_w2.out (bb_wG)
  have R_wG:Hid (wG.heap[w.heap.size+1+1]? = some (.cells #[.slice none 0 0] 31 (0,0))):=blk_below R_w2.out (bb_wG)
  have hwGs:wG.heap.size=w2.heap.size+1:=by rw [hw_wG];simp
  obtain ⟨wO,hw_wO⟩:∃ wq,wq=wG.alloc (.cells #[.slice none 0 0] 31):=⟨_,rfl⟩
  have bb_wO:Below wG.heap.size wG wO:=by rw [hw_wO];exact (Below.refl _ _).alloc (Nat.le_refl _) _
  have hz_wO:wG.heap.size+1≤wO.heap.size:=by rw [hw_wO];simp
  have O_wO:Hid (wO.heap[w2.heap.size+1]? = some (.cells #[.slice none 0 0] 31 (0,0))):=by rw [hw_wO,← hwGs];exact heap_alloc_new _ _
  have hs_wO:wG.heap.size≤wO.heap.size:=(bb_wO).size
  have HB_wO:Hid (Below w.heap.size w wO):=HB_wG.out.trans ((bb_wO).mono HB_wG.out.size)
  have D_wO:Hid (wO.heap[w.heap.size]? = some (.cells #[.slice (some ⟨b,off,none⟩) fs.length cap] 31 (0,0))):=blk_below D_wG.out (bb_wO)
  have A_wO:Hid (wO.heap[w.heap.size+1]? = some (.cells #[.int .i64 kd,.string nm,.string tx,.string tt] 51 (0,0))):=blk_below A_wG.out (bb_wO)
  have R_wO:Hid (wO.heap[w.heap.size+1+1]? = some (.cells #[.slice none 0 0] 31 (0,0))):=blk_below R_wG.out (bb_wO)
  have F_wO:Hid (wO.heap[w2.heap.size]? = some (.cells #[.string F.name,.string F.text,.int .i64 F.kept] 95 (0,0))):=blk_below F_wG.out (bb_wO)
  go_upto_region 9 with fail
  rw [← hw_wG,← hw_wO]
  clear hw_wG hw_wO bb_wG bb_wO HB_wG D_wG A_wG R_wG F_wG
  clear cD hc0 hc1 hc2 ca0 ca1 ca2 ca3 hw_wF
  clear HB_w2 D_w2 A_w2 R_w2
  obtain ⟨ca0,ca1,ca2,ca3⟩:=act_cell A_wO.out
  have cR:=box_of R_wO.out
  have zR0:=frozen_of_row wO (w.heap.size+1+1) 0 _ _ R_wO.out
  have HNO:Hid (actD fs ⟨kd,nm,tx,tt⟩=none):=actD_raw hact (by simp [rawD,k1,hfd',k2,k3,k4])
  go_wp2
  refine bodyPost_ret (v:=.tuple #[.agg #[.slice none 0 0],.bool false]) (by simp [results,Tryz.results17,go_sem,cR]) rfl ⟨.slice none 0 0,by rw [HNO.out];rfl,.inl ⟨rfl,by rw [HNO.out];rfl⟩,?_⟩
  exact HB_wO.out.setCell (p:=⟨w.heap.size+1+1,0,none⟩) (by show w.heap.size≤w.heap.size+1+1;omega) _
end Go.Proofs.YtepdckehokdjlaaGreatDoor
