import Derived.Test.YtepdckehokdjlaaGreatDoorMg43
import Derived.Test.YtepdckehokdjlaaGreatDoorMg44
import Derived.Test.YtepdckehokdjlaaGreatDoorMg21
import Derived.Test.YtepdckehokdjlaaGreatDoorMg45
import Derived.Test.YtepdckehokdjlaaGreatDoorMg28
set_option maxRecDepth 100000
set_option maxHeartbeats 12000000
namespace Go.Proofs.YtepdckehokdjlaaGreatDoor
open Go.RowKit
theorem steps_ok {room:Int}:∀ {qs:List ActD} {g h:List FileD},diskOkD g=true→stepsD room g qs=some h→diskOkD h=true
 | [],g,h,hg,e => by
  simp only [stepsD,Option.some.injEq] at e
  exact e ▸ hg
 | A :: r,g,h,hg,e => by
  rw [stepsD] at e
  cases hA:actD g A with
  | none => rw [hA] at e;cases e
  | some k =>
   rw [hA] at e
   simp only at e
   split at e
   · cases e
   · exact steps_ok (actD_ok hA) e
theorem mrgH_small {fs:List FileD} {room act seq:Int} {dir:List SpotD}:(mrgH fs room act seq dir).length≤30:=by
 unfold mrgH
 cases hg:mrgG fs room act seq dir with
 | none => simp
 | some g =>
  have hk:mergOk fs room act seq dir=true:=by
   cases hk:mergOk fs room act seq dir with
   | true => rfl
   | false => rw [mrgG_no hk] at hg;cases hg
  rw [mrgG_yes hk] at hg
  exact (disk_files (steps_ok (mergOk_right hk).2.1 hg)).1
theorem mrgFs_len (fs:List FileD) (room act seq:Int) (dir:List SpotD):(mrgFs fs room act seq dir).length≤1048576:=by
 unfold mrgFs
 cases mrgOk fs room act seq dir
 · simp
 · exact actsF_len _ _ (by have:=mrgH_small (fs:=fs) (room:=room) (act:=act) (seq:=seq) (dir:=dir);omega)
theorem mrgDir_len (fs:List FileD) (room act seq:Int) (dir:List SpotD):(mrgDir fs room act seq dir).length≤1000000:=by
 unfold mrgDir
 cases mrgOk fs room act seq dir
 · simp
 ·
  have:=dirD_len (mrgH fs room act seq dir)
  show (dirD _).length≤_
  omega
theorem mrgQs_len (fs:List FileD) (room act seq:Int) (dir:List SpotD):(mrgQs fs room act seq dir).length≤1000000:=by
 unfold mrgQs
 cases mrgOk fs room act seq dir
 · simp
 · exact mergE_len fs room act seq dir
theorem act_file_ne {w:World} {B B':Nat} {v v':Value} {qs:List ActD} {fs:List FileD} (h1:RowAct w B v qs) (h2:RowF w B' v' fs):∀ x,v.ownBlock=some x→v'.ownBlock ≠ some x:=by
 intro x e1 e2
 rcases h1 with ⟨rfl,-⟩ | ⟨g,cap,C,rfl,-,hC,-⟩
 · cases e1
 ·
  obtain rfl:g=x:=by simpa [Value.ownBlock] using e1
  rcases h2 with ⟨rfl,-⟩ | ⟨g',cap',C',rfl,-,hC',-⟩
  · cases e2
  ·
   obtain rfl:g' = g:=by simpa [Value.ownBlock] using e2
   rw [hC] at hC'
   simp at hC'
theorem act_spot_ne {w:World} {B B':Nat} {v v':Value} {qs:List ActD} {fs:List SpotD} (h1:RowAct w B v qs) (h2:RowSpot w B' v' fs):∀ x,v.ownBlock=some x→v'.ownBlock ≠ some x:=by
 intro x e1 e2
 rcases h1 with ⟨rfl,-⟩ | ⟨g,cap,C,rfl,-,hC,-⟩
 · cases e1
 ·
  obtain rfl:g=x:=by simpa [Value.ownBlock] using e1
  rcases h2 with ⟨rfl,-⟩ | ⟨g',cap',C',rfl,-,hC',-⟩
  · cases e2
  ·
   obtain rfl:g' = g:=by simpa [Value.ownBlock] using e2
   rw [hC] at hC'
   simp at hC'
theorem lawMerge (fs:List FileD) (ao ad:Option Addr) (cap cd:Nat) (room act seq:Int) (dir:List SpotD) (w:World) (hl0:fs.length≤maxLen) (hfs:FilesAt w ao fs) (hsz0:∀ F ∈ fs,F.name.size≤maxLen∧F.text.size≤maxLen) (hld0:dir.length≤maxLen) (hds:SpotsAt w ad dir) (hszd:∀ A ∈ dir,A.key.size≤maxLen) (hT:SumTab w) :
  Calls Tryz.prog 3 #[.agg #[.slice ao fs.length cap,.int .i64 room,.int .i64 act,.int .i64 seq,.slice ad dir.length cd]] w fun e w' => e=.returned (.bool true)∧Below w.heap.size w w':=by
 have HF:=hide hfs
 have HD:=hide hds
 have HT:=hide hT
 have HSZ:=hide (fun W h1 h2 => szEngine_le fs ao ad cap cd room act seq dir W hl0 h1 hsz0 hld0 h2 hszd)
 clear hfs hds hT
 have HB_w:Hid (Below w.heap.size w w):=Below.refl _ _
 obtain ⟨wA,hw_wA⟩:∃ wq,wq=w.alloc (.cells #[.slice ao fs.length cap,.int .i64 room,.int .i64 act,.int .i64 seq,.slice ad dir.length cd] 27):=⟨_,rfl⟩
 have bb_wA:Below w.heap.size w wA:=by rw [hw_wA];exact (Below.refl _ _).alloc (Nat.le_refl _) _
 have hz_wA:w.heap.size+1≤wA.heap.size:=by rw [hw_wA];simp
 have bA_wA:Hid (wA.heap[w.heap.size]? = some (.cells #[.slice ao fs.length cap,.int .i64 room,.int .i64 act,.int .i64 seq,.slice ad dir.length cd] 27 (0,0))):=by rw [hw_wA];exact heap_alloc_new _ _
 have hs_wA:w.heap.size≤wA.heap.size:=(bb_wA).size
 have HB_wA:Hid (Below w.heap.size w wA):=HB_w.out.trans ((bb_wA).mono HB_w.out.size)
 clear HB_w bb_wA
 obtain ⟨hz0,hz1,hz2,hz3,hz4,-⟩:=five_cells bA_wA.out
 go_enter Tryz.func3,Tryz.ntmps3
 go_wp2_with fail
 rw [← hw_wA]
 clear hw_wA
 refine (HSZ.out _ (filesAt_keep HF.out HB_wA.out) (spotsAt_keep HD.out HB_wA.out)).mono ?_
 rintro e w1 ⟨⟨r,rfl,hr,-,-⟩,b_w1⟩
 have HR:=hide hr
 clear hr
 clear hz0 hz1 hz2 hz3 hz4
 have hs_w1:wA.heap.size≤w1.heap.size:=(b_w1).size
 have HB_w1:Hid (Below w.heap.size w w1):=HB_wA.out.trans ((b_w1).mono HB_wA.out.size)
 have bA_w1:Hid (w1.heap[w.heap.size]? = some (.cells #[.slice ao fs.length cap,.int .i64 room,.int .i64 act,.int .i64 seq,.slice ad dir.length cd] 27 (0,0))):=blk_below bA_wA.out (b_w1)
 clear HB_wA bA_wA b_w1
 by_cases hneg:r < 0
 ·
  have hneg':decide (r < 0)=true:=by simp;omega
  go_wp2
  go_ret
  exact ⟨rfl,HB_w1.out⟩
 have hneg':decide (r < 0)=false:=by simp;omega
 obtain ⟨hl,hld,hz⟩:=HR.out (by omega)
 have HZ:=hide hz
 clear hz HR
 have HSp:Hid (∀ a d W,FilesAt W a fs→SpotsAt W d dir→Calls Tryz.prog 5 #[.agg #[.slice a fs.length fs.length,.int .i64 room,.int .i64 act,.int .i64 seq,.slice d dir.length dir.length]] W fun e w' => MrgPost fs room act seq dir W e w'):=fun a d W h1 h2 => specMerge_any fs a d fs.length dir.length room act seq dir W hl h1 HZ.out hld h2
 have HIm:Hid (∀ a d W,FilesAt W a fs→SpotsAt W d dir→SumTab W→Calls Tryz.prog 7 #[.agg #[.slice a fs.length fs.length,.int .i64 room,.int .i64 act,.int .i64 seq,.slice d dir.length dir.length]] W fun e w' => MrgPost fs room act seq dir W e w'):=fun a d W h1 h2 h3 => implMerge_any fs a d fs.length dir.length room act seq dir W hl h1 HZ.out hld h2 h3
 have hRl:=mrgFs_len fs room act seq dir
 have hRd:=mrgDir_len fs room act seq dir
 have hRq:=mrgQs_len fs room act seq dir
 unfold MrgPost at HSp HIm
 generalize mrgFs fs room act seq dir=R at HSp HIm hRl
 generalize mrgDir fs room act seq dir=DR at HSp HIm hRd
 generalize mrgQs fs room act seq dir=QS at HSp HIm hRq
 generalize mrgRoom fs room act seq dir=rR at HSp HIm
 generalize mrgAct fs room act seq dir=rA at HSp HIm
 generalize mrgSeq fs room act seq dir=rS at HSp HIm
 generalize mrgOk fs room act seq dir=ok at HSp HIm
 have hoo:(!(ok == ok))=false:=by simp
 clear HZ
 have hRm:R.length≤maxLen:=by unfold maxLen;omega
 have hDm:DR.length≤maxLen:=by unfold maxLen;omega
 have hQm:QS.length≤maxLen:=by unfold maxLen;omega
 obtain ⟨hy0,hy1,hy2,hy3,hy4,-⟩:=five_cells bA_w1.out
 go_wp2_with fail
 refine (toEngine_row fs ao ad cap cd room act seq dir _ hl (filesAt_keep HF.out HB_w1.out) hld (spotsAt_keep HD.out HB_w1.out)).mono ?_
 rintro e w2 ⟨⟨aS,dS,rfl,hfS,hdS⟩,b_w2⟩
 have UrSF:Hid (∀ g,(Value.slice aS fs.length fs.length).ownBlock=some g→w1.heap.size≤g∧g < w2.heap.size):=rowF_lt hfS
 have UrSS:Hid (∀ g,(Value.slice dS dir.length dir.length).ownBlock=some g→w1.heap.size≤g∧g < w2.heap.size):=rowSpot_lt hdS
 have rSF_w2:=hide hfS
 have rSS_w2:=hide hdS
 clear hfS hdS
 have hs_w2:w1.heap.size≤w2.heap.size:=(b_w2).size
 have HB_w2:Hid (Below w.heap.size w w2):=HB_w1.out.trans ((b_w2).mono HB_w1.out.size)
 have bA_w2:Hid (w2.heap[w.heap.size]? = some (.cells #[.slice ao fs.length cap,.int .i64 room,.int .i64 act,.int .i64 seq,.slice ad dir.length cd] 27 (0,0))):=blk_below bA_w1.out (b_w2)
 clear HB_w1 bA_w1 b_w2
 clear hy0 hy1 hy2 hy3 hy4
 go_wp2_with fail
 refine (HSp.out _ _ _ (rowF_rowsE rSF_w2.out) (rowSpot_rows rSS_w2.out)).mono ?_
 clear rSF_w2
 clear rSS_w2
 clear UrSF UrSS
 rintro e w4 ⟨⟨vdW,vrW,vaW,rfl,hfW,hdW,haW⟩,b_w4⟩
 obtain ⟨aW,cW,rfl,-⟩:=rowF_at hfW
 obtain ⟨dW,eW,rfl,-⟩:=rowSpot_at hdW
 obtain ⟨qW,uW,rfl,-⟩:=rowAct_at haW
 have UrWF:Hid (∀ g,(Value.slice aW R.length cW).ownBlock=some g→w2.heap.size≤g∧g < w4.heap.size):=rowF_lt hfW
 have UrWS:Hid (∀ g,(Value.slice dW DR.length eW).ownBlock=some g→w2.heap.size≤g∧g < w4.heap.size):=rowSpot_lt hdW
 have UrWA:Hid (∀ g,(Value.slice qW QS.length uW).ownBlock=some g→w2.heap.size≤g∧g < w4.heap.size):=rowAct_lt haW
 have NFW:=hide (act_file_ne haW hfW)
 have NSW:=hide (act_spot_ne haW hdW)
 have rWF_w4:=hide hfW
 have rWS_w4:=hide hdW
 have rWA_w4:=hide haW
 clear hfW hdW haW
 have hs_w4:w2.heap.size≤w4.heap.size:=(b_w4).size
 have HB_w4:Hid (Below w.heap.size w w4):=HB_w2.out.trans ((b_w4).mono HB_w2.out.size)
 have bA_w4:Hid (w4.heap[w.heap.size]? = some (.cells #[.slice ao fs.length cap,.int .i64 room,.int .i64 act,.int .i64 seq,.slice ad dir.length cd] 27 (0,0))):=blk_below bA_w2.out (b_w4)
 clear HB_w2 bA_w2 b_w4
 obtain ⟨w5,hw_w5⟩:∃ wq,wq=w4.alloc (.cells #[.slice aW R.length cW,.int .i64 rR,.int .i64 rA,.int .i64 rS,.slice dW DR.length eW] 34):=⟨_,rfl⟩
 have bb_w5:Below w4.heap.size w4 w5:=by rw [hw_w5];exact (Below.refl _ _).alloc (Nat.le_refl _) _
 have hz_w5:w4.heap.size+1≤w5.heap.size:=by rw [hw_w5];simp
 have bW_w5:Hid (w5.heap[w4.heap.size]? = some (.cells #[.slice aW R.length cW,.int .i64 rR,.int .i64 rA,.int .i64 rS,.slice dW DR.length eW] 34 (0,0))):=by rw [hw_w5];exact heap_alloc_new _ _
 have hs_w5:w4.heap.size≤w5.heap.size:=(bb_w5).size
 have HB_w5:Hid (Below w.heap.size w w5):=HB_w4.out.trans ((bb_w5).mono HB_w4.out.size)
 have bA_w5:Hid (w5.heap[w.heap.size]? = some (.cells #[.slice ao fs.length cap,.int .i64 room,.int .i64 act,.int .i64 seq,.slice ad dir.length cd] 27 (0,0))):=blk_below bA_w4.out (bb_w5)
 have rWF_w5:Hid (RowF w5 w2.heap.size (.slice aW R.length cW) R):=rowF_below rWF_w4.out (bb_w5)
 have rWS_w5:Hid (RowSpot w5 w2.heap.size (.slice dW DR.length eW) DR):=rowSpot_below rWS_w4.out (bb_w5)
 have rWA_w5:Hid (RowAct w5 w2.heap.size (.slice qW QS.length uW) QS):=rowAct_below rWA_w4.out (bb_w5)
 clear HB_w4 bA_w4 rWF_w4 rWS_w4 rWA_w4 bb_w5
 obtain ⟨hy0,hy1,hy2,hy3,hy4,-⟩:=five_cells bA_w5.out
 rw [hw_w5] at hy0 hy1 hy2 hy3 hy4
 go_wp2_with fail
 rw [← hw_w5]
 clear hw_w5
 clear hy0 hy1 hy2 hy3 hy4
 refine (toEngine_row fs ao ad cap cd room act seq dir _ hl (filesAt_keep HF.out HB_w5.out) hld (spotsAt_keep HD.out HB_w5.out)).mono ?_
 rintro e w6 ⟨⟨aX,dX,rfl,hfX,hdX⟩,b_w6⟩
 have UrXF:Hid (∀ g,(Value.slice aX fs.length fs.length).ownBlock=some g→w5.heap.size≤g∧g < w6.heap.size):=rowF_lt hfX
 have UrXS:Hid (∀ g,(Value.slice dX dir.length dir.length).ownBlock=some g→w5.heap.size≤g∧g < w6.heap.size):=rowSpot_lt hdX
 have rXF_w6:=hide hfX
 have rXS_w6:=hide hdX
 clear hfX hdX
 have hs_w6:w5.heap.size≤w6.heap.size:=(b_w6).size
 have HB_w6:Hid (Below w.heap.size w w6):=HB_w5.out.trans ((b_w6).mono HB_w5.out.size)
 have bA_w6:Hid (w6.heap[w.heap.size]? = some (.cells #[.slice ao fs.length cap,.int .i64 room,.int .i64 act,.int .i64 seq,.slice ad dir.length cd] 27 (0,0))):=blk_below bA_w5.out (b_w6)
 have rWF_w6:Hid (RowF w6 w2.heap.size (.slice aW R.length cW) R):=rowF_below rWF_w5.out (b_w6)
 have rWS_w6:Hid (RowSpot w6 w2.heap.size (.slice dW DR.length eW) DR):=rowSpot_below rWS_w5.out (b_w6)
 have rWA_w6:Hid (RowAct w6 w2.heap.size (.slice qW QS.length uW) QS):=rowAct_below rWA_w5.out (b_w6)
 have bW_w6:Hid (w6.heap[w4.heap.size]? = some (.cells #[.slice aW R.length cW,.int .i64 rR,.int .i64 rA,.int .i64 rS,.slice dW DR.length eW] 34 (0,0))):=blk_below bW_w5.out (b_w6)
 clear HB_w5 bA_w5 rWF_w5 rWS_w5 rWA_w5 bW_w5 b_w6
 obtain ⟨w7,hw_w7⟩:∃ wq,wq=w6.alloc (.cells #[.slice aX fs.length fs.length,.int .i64 room,.int .i64 act,.int .i64 seq,.slice dX dir.length dir.length] 34):=⟨_,rfl⟩
 have bb_w7:Below w6.heap.size w6 w7:=by rw [hw_w7];exact (Below.refl _ _).alloc (Nat.le_refl _) _
 have hz_w7:w6.heap.size+1≤w7.heap.size:=by rw [hw_w7];simp
 have bX_w7:Hid (w7.heap[w6.heap.size]? = some (.cells #[.slice aX fs.length fs.length,.int .i64 room,.int .i64 act,.int .i64 seq,.slice dX dir.length dir.length] 34 (0,0))):=by rw [hw_w7];exact heap_alloc_new _ _
 have hs_w7:w6.heap.size≤w7.heap.size:=(bb_w7).size
 have HB_w7:Hid (Below w.heap.size w w7):=HB_w6.out.trans ((bb_w7).mono HB_w6.out.size)
 have bA_w7:Hid (w7.heap[w.heap.size]? = some (.cells #[.slice ao fs.length cap,.int .i64 room,.int .i64 act,.int .i64 seq,.slice ad dir.length cd] 27 (0,0))):=blk_below bA_w6.out (bb_w7)
 have rWF_w7:Hid (RowF w7 w2.heap.size (.slice aW R.length cW) R):=rowF_below rWF_w6.out (bb_w7)
 have rWS_w7:Hid (RowSpot w7 w2.heap.size (.slice dW DR.length eW) DR):=rowSpot_below rWS_w6.out (bb_w7)
 have rWA_w7:Hid (RowAct w7 w2.heap.size (.slice qW QS.length uW) QS):=rowAct_below rWA_w6.out (bb_w7)
 have bW_w7:Hid (w7.heap[w4.heap.size]? = some (.cells #[.slice aW R.length cW,.int .i64 rR,.int .i64 rA,.int .i64 rS,.slice dW DR.length eW] 34 (0,0))):=blk_below bW_w6.out (bb_w7)
 have rXF_w7:Hid (RowF w7 w5.heap.size (.slice aX fs.length fs.length) fs):=rowF_below rXF_w6.out (bb_w7)
 have rXS_w7:Hid (RowSpot w7 w5.heap.size (.slice dX dir.length dir.length) dir):=rowSpot_below rXS_w6.out (bb_w7)
 clear HB_w6 bA_w6 rWF_w6 rWS_w6 rWA_w6 bW_w6 rXF_w6 rXS_w6 bb_w7
 go_wp2_with fail
 rw [← hw_w7]
 clear hw_w7
 refine (HIm.out _ _ _ (rowF_rowsE rXF_w7.out) (rowSpot_rows rXS_w7.out) (sumTab_later HB_w7.out HT.out)).mono ?_
 rintro e w9 ⟨⟨vdG,vrG,vaG,rfl,hfG,hdG,haG⟩,b_w9⟩
 obtain ⟨aG,cG,rfl,-⟩:=rowF_at hfG
 obtain ⟨dG,eG,rfl,-⟩:=rowSpot_at hdG
 obtain ⟨qG,uG,rfl,-⟩:=rowAct_at haG
 have UrGF:Hid (∀ g,(Value.slice aG R.length cG).ownBlock=some g→w7.heap.size≤g∧g < w9.heap.size):=rowF_lt hfG
 have UrGS:Hid (∀ g,(Value.slice dG DR.length eG).ownBlock=some g→w7.heap.size≤g∧g < w9.heap.size):=rowSpot_lt hdG
 have UrGA:Hid (∀ g,(Value.slice qG QS.length uG).ownBlock=some g→w7.heap.size≤g∧g < w9.heap.size):=rowAct_lt haG
 have NFG:=hide (act_file_ne haG hfG)
 have NSG:=hide (act_spot_ne haG hdG)
 have rGF_w9:=hide hfG
 have rGS_w9:=hide hdG
 have rGA_w9:=hide haG
 clear hfG hdG haG
 have hs_w9:w7.heap.size≤w9.heap.size:=(b_w9).size
 have HB_w9:Hid (Below w.heap.size w w9):=HB_w7.out.trans ((b_w9).mono HB_w7.out.size)
 have bA_w9:Hid (w9.heap[w.heap.size]? = some (.cells #[.slice ao fs.length cap,.int .i64 room,.int .i64 act,.int .i64 seq,.slice ad dir.length cd] 27 (0,0))):=blk_below bA_w7.out (b_w9)
 have rWF_w9:Hid (RowF w9 w2.heap.size (.slice aW R.length cW) R):=rowF_below rWF_w7.out (b_w9)
 have rWS_w9:Hid (RowSpot w9 w2.heap.size (.slice dW DR.length eW) DR):=rowSpot_below rWS_w7.out (b_w9)
 have rWA_w9:Hid (RowAct w9 w2.heap.size (.slice qW QS.length uW) QS):=rowAct_below rWA_w7.out (b_w9)
 have bW_w9:Hid (w9.heap[w4.heap.size]? = some (.cells #[.slice aW R.length cW,.int .i64 rR,.int .i64 rA,.int .i64 rS,.slice dW DR.length eW] 34 (0,0))):=blk_below bW_w7.out (b_w9)
 have rXF_w9:Hid (RowF w9 w5.heap.size (.slice aX fs.length fs.length) fs):=rowF_below rXF_w7.out (b_w9)
 have rXS_w9:Hid (RowSpot w9 w5.heap.size (.slice dX dir.length dir.length) dir):=rowSpot_below rXS_w7.out (b_w9)
 have bX_w9:Hid (w9.heap[w6.heap.size]? = some (.cells #[.slice aX fs.length fs.length,.int .i64 room,.int .i64 act,.int .i64 seq,.slice dX dir.length dir.length] 34 (0,0))):=blk_below bX_w7.out (b_w9)
 clear HB_w7 bA_w7 rWF_w7 rWS_w7 rWA_w7 bW_w7 rXF_w7 rXS_w7 bX_w7 b_w9
 obtain ⟨w10,hw_w10⟩:∃ wq,wq=w9.alloc (.cells #[.slice aG R.length cG,.int .i64 rR,.int .i64 rA,.int .i64 rS,.slice dG DR.length eG] 34):=⟨_,rfl⟩
 have bb_w10:Below w9.heap.size w9 w10:=by rw [hw_w10];exact (Below.refl _ _).alloc (Nat.le_refl _) _
 have hz_w10:w9.heap.size+1≤w10.heap.size:=by rw [hw_w10];simp
 have bG_w10:Hid (w10.heap[w9.heap.size]? = some (.cells #[.slice aG R.length cG,.int .i64 rR,.int .i64 rA,.int .i64 rS,.slice dG DR.length eG] 34 (0,0))):=by rw [hw_w10];exact heap_alloc_new _ _
 have hs_w10:w9.heap.size≤w10.heap.size:=(bb_w10).size
 have HB_w10:Hid (Below w.heap.size w w10):=HB_w9.out.trans ((bb_w10).mono HB_w9.out.size)
 have bA_w10:Hid (w10.heap[w.heap.size]? = some (.cells #[.slice ao fs.length cap,.int .i64 room,.int .i64 act,.int .i64 seq,.slice ad dir.length cd] 27 (0,0))):=blk_below bA_w9.out (bb_w10)
 have rWF_w10:Hid (RowF w10 w2.heap.size (.slice aW R.length cW) R):=rowF_below rWF_w9.out (bb_w10)
 have rWS_w10:Hid (RowSpot w10 w2.heap.size (.slice dW DR.length eW) DR):=rowSpot_below rWS_w9.out (bb_w10)
 have rWA_w10:Hid (RowAct w10 w2.heap.size (.slice qW QS.length uW) QS):=rowAct_below rWA_w9.out (bb_w10)
 have bW_w10:Hid (w10.heap[w4.heap.size]? = some (.cells #[.slice aW R.length cW,.int .i64 rR,.int .i64 rA,.int .i64 rS,.slice dW DR.length eW] 34 (0,0))):=blk_below bW_w9.out (bb_w10)
 have rXF_w10:Hid (RowF w10 w5.heap.size (.slice aX fs.length fs.length) fs):=rowF_below rXF_w9.out (bb_w10)
 have rXS_w10:Hid (RowSpot w10 w5.heap.size (.slice dX dir.length dir.length) dir):=rowSpot_below rXS_w9.out (bb_w10)
 have bX_w10:Hid (w10.heap[w6.heap.size]? = some (.cells #[.slice aX fs.length fs.length,.int .i64 room,.int .i64 act,.int .i64 seq,.slice dX dir.length dir.length] 34 (0,0))):=blk_below bX_w9.out (bb_w10)
 have rGF_w10:Hid (RowF w10 w7.heap.size (.slice aG R.length cG) R):=rowF_below rGF_w9.out (bb_w10)
 have rGS_w10:Hid (RowSpot w10 w7.heap.size (.slice dG DR.length eG) DR):=rowSpot_below rGS_w9.out (bb_w10)
 have rGA_w10:Hid (RowAct w10 w7.heap.size (.slice qG QS.length uG) QS):=rowAct_below rGA_w9.out (bb_w10)
 clear HB_w9 bA_w9 rWF_w9 rWS_w9 rWA_w9 bW_w9 rXF_w9 rXS_w9 bX_w9 rGF_w9 rGS_w9 rGA_w9 bb_w10
 obtain ⟨hv0,hv1,hv2,hv3,hv4,-⟩:=five_cells bW_w10.out
 rw [hw_w10] at hv0 hv1 hv2 hv3 hv4
 go_wp2_with fail
 rw [← hw_w10]
 clear hw_w10
 clear hv0 hv1 hv2 hv3 hv4
 refine (eqEngine_same R _ _ _ _ _ _ _ _ rR rA rS DR _ hRm (rowF_rowsE rGF_w10.out) (rowF_rowsE rWF_w10.out) hDm (rowSpot_rows rGS_w10.out) (rowSpot_rows rWS_w10.out)).mono ?_
 rintro e w11a ⟨rfl,b_w11a⟩
 have hs_w11a:w10.heap.size≤w11a.heap.size:=(b_w11a).size
 have HB_w11a:Hid (Below w.heap.size w w11a):=HB_w10.out.trans ((b_w11a).mono HB_w10.out.size)
 have bA_w11a:Hid (w11a.heap[w.heap.size]? = some (.cells #[.slice ao fs.length cap,.int .i64 room,.int .i64 act,.int .i64 seq,.slice ad dir.length cd] 27 (0,0))):=blk_below bA_w10.out (b_w11a)
 have rWF_w11a:Hid (RowF w11a w2.heap.size (.slice aW R.length cW) R):=rowF_below rWF_w10.out (b_w11a)
 have rWS_w11a:Hid (RowSpot w11a w2.heap.size (.slice dW DR.length eW) DR):=rowSpot_below rWS_w10.out (b_w11a)
 have rWA_w11a:Hid (RowAct w11a w2.heap.size (.slice qW QS.length uW) QS):=rowAct_below rWA_w10.out (b_w11a)
 have bW_w11a:Hid (w11a.heap[w4.heap.size]? = some (.cells #[.slice aW R.length cW,.int .i64 rR,.int .i64 rA,.int .i64 rS,.slice dW DR.length eW] 34 (0,0))):=blk_below bW_w10.out (b_w11a)
 have rXF_w11a:Hid (RowF w11a w5.heap.size (.slice aX fs.length fs.length) fs):=rowF_below rXF_w10.out (b_w11a)
 have rXS_w11a:Hid (RowSpot w11a w5.heap.size (.slice dX dir.length dir.length) dir):=rowSpot_below rXS_w10.out (b_w11a)
 have bX_w11a:Hid (w11a.heap[w6.heap.size]? = some (.cells #[.slice aX fs.length fs.length,.int .i64 room,.int .i64 act,.int .i64 seq,.slice dX dir.length dir.length] 34 (0,0))):=blk_below bX_w10.out (b_w11a)
 have rGF_w11a:Hid (RowF w11a w7.heap.size (.slice aG R.length cG) R):=rowF_below rGF_w10.out (b_w11a)
 have rGS_w11a:Hid (RowSpot w11a w7.heap.size (.slice dG DR.length eG) DR):=rowSpot_below rGS_w10.out (b_w11a)
 have rGA_w11a:Hid (RowAct w11a w7.heap.size (.slice qG QS.length uG) QS):=rowAct_below rGA_w10.out (b_w11a)
 have bG_w11a:Hid (w11a.heap[w9.heap.size]? = some (.cells #[.slice aG R.length cG,.int .i64 rR,.int .i64 rA,.int .i64 rS,.slice dG DR.length eG] 34 (0,0))):=blk_below bG_w10.out (b_w11a)
 clear HB_w10 bA_w10 rWF_w10 rWS_w10 rWA_w10 bW_w10 rXF_w10 rXS_w10 bX_w10 rGF_w10 rGS_w10 rGA_w10 bG_w10 b_w11a
 go_wp2_with fail
 refine (eqActS_same QS _ _ _ _ _ hQm (rowAct_rows rGA_w11a.out) (rowAct_rows rWA_w11a.out)).mono ?_
 rintro e w11 ⟨rfl,b_w11⟩
 have hs_w11:w11a.heap.size≤w11.heap.size:=(b_w11).size
 have HB_w11:Hid (Below w.heap.size w w11):=HB_w11a.out.trans ((b_w11).mono HB_w11a.out.size)
 have bA_w11:Hid (w11.heap[w.heap.size]? = some (.cells #[.slice ao fs.length cap,.int .i64 room,.int .i64 act,.int .i64 seq,.slice ad dir.length cd] 27 (0,0))):=blk_below bA_w11a.out (b_w11)
 have rWF_w11:Hid (RowF w11 w2.heap.size (.slice aW R.length cW) R):=rowF_below rWF_w11a.out (b_w11)
 have rWS_w11:Hid (RowSpot w11 w2.heap.size (.slice dW DR.length eW) DR):=rowSpot_below rWS_w11a.out (b_w11)
 have rWA_w11:Hid (RowAct w11 w2.heap.size (.slice qW QS.length uW) QS):=rowAct_below rWA_w11a.out (b_w11)
 have bW_w11:Hid (w11.heap[w4.heap.size]? = some (.cells #[.slice aW R.length cW,.int .i64 rR,.int .i64 rA,.int .i64 rS,.slice dW DR.length eW] 34 (0,0))):=blk_below bW_w11a.out (b_w11)
 have rXF_w11:Hid (RowF w11 w5.heap.size (.slice aX fs.length fs.length) fs):=rowF_below rXF_w11a.out (b_w11)
 have rXS_w11:Hid (RowSpot w11 w5.heap.size (.slice dX dir.length dir.length) dir):=rowSpot_below rXS_w11a.out (b_w11)
 have bX_w11:Hid (w11.heap[w6.heap.size]? = some (.cells #[.slice aX fs.length fs.length,.int .i64 room,.int .i64 act,.int .i64 seq,.slice dX dir.length dir.length] 34 (0,0))):=blk_below bX_w11a.out (b_w11)
 have rGF_w11:Hid (RowF w11 w7.heap.size (.slice aG R.length cG) R):=rowF_below rGF_w11a.out (b_w11)
 have rGS_w11:Hid (RowSpot w11 w7.heap.size (.slice dG DR.length eG) DR):=rowSpot_below rGS_w11a.out (b_w11)
 have rGA_w11:Hid (RowAct w11 w7.heap.size (.slice qG QS.length uG) QS):=rowAct_below rGA_w11a.out (b_w11)
 have bG_w11:Hid (w11.heap[w9.heap.size]? = some (.cells #[.slice aG R.length cG,.int .i64 rR,.int .i64 rA,.int .i64 rS,.slice dG DR.length eG] 34 (0,0))):=blk_below bG_w11a.out (b_w11)
 clear HB_w11a bA_w11a rWF_w11a rWS_w11a rWA_w11a bW_w11a rXF_w11a rXS_w11a bX_w11a rGF_w11a rGS_w11a rGA_w11a bG_w11a b_w11
 obtain ⟨hy0,hy1,hy2,hy3,hy4,-⟩:=five_cells bA_w11.out
 obtain ⟨hv0,hv1,hv2,hv3,hv4,-⟩:=five_cells bX_w11.out
 have hzA:w.heap.size < w11.heap.size:=by omega
 have hzX:w6.heap.size < w11.heap.size:=by omega
 have KS:Hid (∀ X,Below w11.heap.size w11 X→(X.cell? ⟨w.heap.size,0,none⟩=some (.slice ao fs.length cap)∧X.cell? ⟨w.heap.size,1,none⟩=some (.int .i64 room)∧X.cell? ⟨w.heap.size,2,none⟩=some (.int .i64 act)∧X.cell? ⟨w.heap.size,3,none⟩=some (.int .i64 seq)∧X.cell? ⟨w.heap.size,4,none⟩=some (.slice ad dir.length cd)∧X.cell? ⟨w6.heap.size,0,none⟩=some (.slice aX fs.length fs.length)∧X.cell? ⟨w6.heap.size,1,none⟩=some (.int .i64 room)∧X.cell? ⟨w6.heap.size,2,none⟩=some (.int .i64 act)∧X.cell? ⟨w6.heap.size,3,none⟩=some (.int .i64 seq)∧X.cell? ⟨w6.heap.size,4,none⟩=some (.slice dX dir.length dir.length))):=fun X hX => ⟨(hX.cell (p:=⟨w.heap.size,0,none⟩) hzA).trans hy0,(hX.cell (p:=⟨w.heap.size,1,none⟩) hzA).trans hy1,(hX.cell (p:=⟨w.heap.size,2,none⟩) hzA).trans hy2,(hX.cell (p:=⟨w.heap.size,3,none⟩) hzA).trans hy3,(hX.cell (p:=⟨w.heap.size,4,none⟩) hzA).trans hy4,(hX.cell (p:=⟨w6.heap.size,0,none⟩) hzX).trans hv0,(hX.cell (p:=⟨w6.heap.size,1,none⟩) hzX).trans hv1,(hX.cell (p:=⟨w6.heap.size,2,none⟩) hzX).trans hv2,(hX.cell (p:=⟨w6.heap.size,3,none⟩) hzX).trans hv3,(hX.cell (p:=⟨w6.heap.size,4,none⟩) hzX).trans hv4⟩
 have HTE:Hid (∀ X,Below w11.heap.size w11 X→Calls Tryz.prog 6 #[.agg #[.slice ao fs.length cap,.int .i64 room,.int .i64 act,.int .i64 seq,.slice ad dir.length cd]] X fun e w' => (∃ a1 a2:Option Addr,e=.returned (.agg #[.slice a1 fs.length fs.length,.int .i64 room,.int .i64 act,.int .i64 seq,.slice a2 dir.length dir.length])∧FilesAt w' a1 fs∧SpotsAt w' a2 dir)∧Below X.heap.size X w'):=fun X hX => toEngine_any fs ao ad cap cd room act seq dir X hl (filesAt_keep HF.out (HB_w11.out.trans (hX.mono HB_w11.out.size))) hld (spotsAt_keep HD.out (HB_w11.out.trans (hX.mono HB_w11.out.size)))
 have HFX:=hide (rowF_rowsE rXF_w11.out)
 have HDX:=hide (rowSpot_rows rXS_w11.out)
 go_wp2_with fail
 go_region_held3 (fun w' => w'.cell? ⟨w.heap.size,0,none⟩=some (.slice ao fs.length cap)∧w'.cell? ⟨w.heap.size,1,none⟩=some (.int .i64 room)∧w'.cell? ⟨w.heap.size,2,none⟩=some (.int .i64 act)∧w'.cell? ⟨w.heap.size,3,none⟩=some (.int .i64 seq)∧w'.cell? ⟨w.heap.size,4,none⟩=some (.slice ad dir.length cd)∧w'.cell? ⟨w6.heap.size,0,none⟩=some (.slice aX fs.length fs.length)∧w'.cell? ⟨w6.heap.size,1,none⟩=some (.int .i64 room)∧w'.cell? ⟨w6.heap.size,2,none⟩=some (.int .i64 act)∧w'.cell? ⟨w6.heap.size,3,none⟩=some (.int .i64 seq)∧w'.cell? ⟨w6.heap.size,4,none⟩=some (.slice dX dir.length dir.length)) ((refine KS.out _ ?_;first | (exact e13) | (exact e12) | (exact (Below.refl _ _).drew) | fail)) ((first | (go_at_call 6;refine (HTE.out _ ?_).mono ?_;exact (Below.refl _ _).drew;rintro e w12 ⟨⟨a12,d12,rfl,hf12,hd12⟩,b12⟩;have e12:Below w11.heap.size w11 w12:=((Below.refl _ _).drew).trans b12) | (go_at_call 8;refine (eqEngine_same fs _ _ _ _ _ _ _ _ room act seq dir _ hl0 (filesAt_keep HFX.out e12) hf12 hld0 (spotsAt_keep HDX.out e12) hd12).mono ?_;rintro e w13 ⟨rfl,b13⟩;have e13:Below w11.heap.size w11 w13:=e12.trans (b13.mono e12.size))))
 clear e12 b13 b12 hf12 hd12 KS HTE HFX HDX hzA hzX
 clear hy0 hy1 hy2 hy3 hy4 hv0 hv1 hv2 hv3 hv4
 have hs_w13:w11.heap.size≤w13.heap.size:=(e13).size
 have HB_w13:Hid (Below w.heap.size w w13):=HB_w11.out.trans ((e13).mono HB_w11.out.size)
 have bA_w13:Hid (w13.heap[w.heap.size]? = some (.cells #[.slice ao fs.length cap,.int .i64 room,.int .i64 act,.int .i64 seq,.slice ad dir.length cd] 27 (0,0))):=blk_below bA_w11.out (e13)
 have rWF_w13:Hid (RowF w13 w2.heap.size (.slice aW R.length cW) R):=rowF_below rWF_w11.out (e13)
 have rWS_w13:Hid (RowSpot w13 w2.heap.size (.slice dW DR.length eW) DR):=rowSpot_below rWS_w11.out (e13)
 have rWA_w13:Hid (RowAct w13 w2.heap.size (.slice qW QS.length uW) QS):=rowAct_below rWA_w11.out (e13)
 have bW_w13:Hid (w13.heap[w4.heap.size]? = some (.cells #[.slice aW R.length cW,.int .i64 rR,.int .i64 rA,.int .i64 rS,.slice dW DR.length eW] 34 (0,0))):=blk_below bW_w11.out (e13)
 have rXF_w13:Hid (RowF w13 w5.heap.size (.slice aX fs.length fs.length) fs):=rowF_below rXF_w11.out (e13)
 have rXS_w13:Hid (RowSpot w13 w5.heap.size (.slice dX dir.length dir.length) dir):=rowSpot_below rXS_w11.out (e13)
 have bX_w13:Hid (w13.heap[w6.heap.size]? = some (.cells #[.slice aX fs.length fs.length,.int .i64 room,.int .i64 act,.int .i64 seq,.slice dX dir.length dir.length] 34 (0,0))):=blk_below bX_w11.out (e13)
 have rGF_w13:Hid (RowF w13 w7.heap.size (.slice aG R.length cG) R):=rowF_below rGF_w11.out (e13)
 have rGS_w13:Hid (RowSpot w13 w7.heap.size (.slice dG DR.length eG) DR):=rowSpot_below rGS_w11.out (e13)
 have rGA_w13:Hid (RowAct w13 w7.heap.size (.slice qG QS.length uG) QS):=rowAct_below rGA_w11.out (e13)
 have bG_w13:Hid (w13.heap[w9.heap.size]? = some (.cells #[.slice aG R.length cG,.int .i64 rR,.int .i64 rA,.int .i64 rS,.slice dG DR.length eG] 34 (0,0))):=blk_below bG_w11.out (e13)
 clear HB_w11 bA_w11 rWF_w11 rWS_w11 rWA_w11 bW_w11 rXF_w11 rXS_w11 bX_w11 rGF_w11 rGS_w11 rGA_w11 bG_w11 e13
 obtain ⟨hx0,hx1,hx2,hx3,hx4,-⟩:=five_cells bX_w13.out
 go_wp2_with fail
 refine (markEngine_own _ _ fs dir room act seq w5.heap.size 1 _ hl hld (by omega) (by omega) (by omega) rXF_w13.out rXS_w13.out).mono ?_
 rintro e w16 ⟨rfl,-,-,hbm,hxm⟩
 clear hx0 hx1 hx2 hx3 hx4
 have hs_w16:w13.heap.size≤w16.heap.size:=(hbm).size
 have HB_w16:Hid (Below w.heap.size w w16):=HB_w13.out.trans ((hbm).mono (by omega))
 have bA_w16:Hid (w16.heap[w.heap.size]? = some (.cells #[.slice ao fs.length cap,.int .i64 room,.int .i64 act,.int .i64 seq,.slice ad dir.length cd] 27 (0,0))):=(hxm w.heap.size (by omega) (fun e => by have h1:=UrXF.out _ e;omega) (fun e => by have h1:=UrXS.out _ e;omega)).trans bA_w13.out
 have rWF_w16:Hid (RowF w16 w2.heap.size (.slice aW R.length cW) R):=rowF_keep rWF_w13.out (fun x hx => hxm x (by have h0:=UrWF.out x hx;omega) (fun e => by have h0:=UrWF.out x hx;have h1:=UrXF.out _ e;omega) (fun e => by have h0:=UrWF.out x hx;have h1:=UrXS.out _ e;omega))
 have rWS_w16:Hid (RowSpot w16 w2.heap.size (.slice dW DR.length eW) DR):=rowSpot_keep rWS_w13.out (fun x hx => hxm x (by have h0:=UrWS.out x hx;omega) (fun e => by have h0:=UrWS.out x hx;have h1:=UrXF.out _ e;omega) (fun e => by have h0:=UrWS.out x hx;have h1:=UrXS.out _ e;omega))
 have rWA_w16:Hid (RowAct w16 w2.heap.size (.slice qW QS.length uW) QS):=rowAct_keep rWA_w13.out (fun x hx => hxm x (by have h0:=UrWA.out x hx;omega) (fun e => by have h0:=UrWA.out x hx;have h1:=UrXF.out _ e;omega) (fun e => by have h0:=UrWA.out x hx;have h1:=UrXS.out _ e;omega))
 have bW_w16:Hid (w16.heap[w4.heap.size]? = some (.cells #[.slice aW R.length cW,.int .i64 rR,.int .i64 rA,.int .i64 rS,.slice dW DR.length eW] 34 (0,0))):=(hxm w4.heap.size (by omega) (fun e => by have h1:=UrXF.out _ e;omega) (fun e => by have h1:=UrXS.out _ e;omega)).trans bW_w13.out
 have bX_w16:Hid (w16.heap[w6.heap.size]? = some (.cells #[.slice aX fs.length fs.length,.int .i64 room,.int .i64 act,.int .i64 seq,.slice dX dir.length dir.length] 34 (0,0))):=(hxm w6.heap.size (by omega) (fun e => by have h1:=UrXF.out _ e;omega) (fun e => by have h1:=UrXS.out _ e;omega)).trans bX_w13.out
 have rGF_w16:Hid (RowF w16 w7.heap.size (.slice aG R.length cG) R):=rowF_keep rGF_w13.out (fun x hx => hxm x (by have h0:=UrGF.out x hx;omega) (fun e => by have h0:=UrGF.out x hx;have h1:=UrXF.out _ e;omega) (fun e => by have h0:=UrGF.out x hx;have h1:=UrXS.out _ e;omega))
 have rGS_w16:Hid (RowSpot w16 w7.heap.size (.slice dG DR.length eG) DR):=rowSpot_keep rGS_w13.out (fun x hx => hxm x (by have h0:=UrGS.out x hx;omega) (fun e => by have h0:=UrGS.out x hx;have h1:=UrXF.out _ e;omega) (fun e => by have h0:=UrGS.out x hx;have h1:=UrXS.out _ e;omega))
 have rGA_w16:Hid (RowAct w16 w7.heap.size (.slice qG QS.length uG) QS):=rowAct_keep rGA_w13.out (fun x hx => hxm x (by have h0:=UrGA.out x hx;omega) (fun e => by have h0:=UrGA.out x hx;have h1:=UrXF.out _ e;omega) (fun e => by have h0:=UrGA.out x hx;have h1:=UrXS.out _ e;omega))
 have bG_w16:Hid (w16.heap[w9.heap.size]? = some (.cells #[.slice aG R.length cG,.int .i64 rR,.int .i64 rA,.int .i64 rS,.slice dG DR.length eG] 34 (0,0))):=(hxm w9.heap.size (by omega) (fun e => by have h1:=UrXF.out _ e;omega) (fun e => by have h1:=UrXS.out _ e;omega)).trans bG_w13.out
 clear HB_w13 bA_w13 rWF_w13 rWS_w13 rWA_w13 bW_w13 rXF_w13 rXS_w13 bX_w13 rGF_w13 rGS_w13 rGA_w13 bG_w13
 clear hbm hxm UrXF UrXS
 clear bX_w16
 have hk0:decide (((1+3 * fs.length+4 * dir.length:Nat):Int) < 0)=false:=by simp;omega
 obtain ⟨hg0,hg1,hg2,hg3,hg4,-⟩:=five_cells bG_w16.out
 obtain ⟨hv0,hv1,hv2,hv3,hv4,-⟩:=five_cells bW_w16.out
 go_wp2_with fail
 clear hg0 hg1 hg2 hg3 hg4 hv0 hv1 hv2 hv3 hv4
 refine (eqEngine_same R _ _ _ _ _ _ _ _ rR rA rS DR _ hRm (rowF_rowsE rGF_w16.out) (rowF_rowsE rWF_w16.out) hDm (rowSpot_rows rGS_w16.out) (rowSpot_rows rWS_w16.out)).mono ?_
 rintro e w18a ⟨rfl,b_w18a⟩
 have hs_w18a:w16.heap.size≤w18a.heap.size:=(b_w18a).size
 have HB_w18a:Hid (Below w.heap.size w w18a):=HB_w16.out.trans ((b_w18a).mono HB_w16.out.size)
 have bA_w18a:Hid (w18a.heap[w.heap.size]? = some (.cells #[.slice ao fs.length cap,.int .i64 room,.int .i64 act,.int .i64 seq,.slice ad dir.length cd] 27 (0,0))):=blk_below bA_w16.out (b_w18a)
 have rWF_w18a:Hid (RowF w18a w2.heap.size (.slice aW R.length cW) R):=rowF_below rWF_w16.out (b_w18a)
 have rWS_w18a:Hid (RowSpot w18a w2.heap.size (.slice dW DR.length eW) DR):=rowSpot_below rWS_w16.out (b_w18a)
 have rWA_w18a:Hid (RowAct w18a w2.heap.size (.slice qW QS.length uW) QS):=rowAct_below rWA_w16.out (b_w18a)
 have bW_w18a:Hid (w18a.heap[w4.heap.size]? = some (.cells #[.slice aW R.length cW,.int .i64 rR,.int .i64 rA,.int .i64 rS,.slice dW DR.length eW] 34 (0,0))):=blk_below bW_w16.out (b_w18a)
 have rGF_w18a:Hid (RowF w18a w7.heap.size (.slice aG R.length cG) R):=rowF_below rGF_w16.out (b_w18a)
 have rGS_w18a:Hid (RowSpot w18a w7.heap.size (.slice dG DR.length eG) DR):=rowSpot_below rGS_w16.out (b_w18a)
 have rGA_w18a:Hid (RowAct w18a w7.heap.size (.slice qG QS.length uG) QS):=rowAct_below rGA_w16.out (b_w18a)
 have bG_w18a:Hid (w18a.heap[w9.heap.size]? = some (.cells #[.slice aG R.length cG,.int .i64 rR,.int .i64 rA,.int .i64 rS,.slice dG DR.length eG] 34 (0,0))):=blk_below bG_w16.out (b_w18a)
 clear HB_w16 bA_w16 rWF_w16 rWS_w16 rWA_w16 bW_w16 rGF_w16 rGS_w16 rGA_w16 bG_w16 b_w18a
 go_wp2_with fail
 refine (eqActS_same QS _ _ _ _ _ hQm (rowAct_rows rGA_w18a.out) (rowAct_rows rWA_w18a.out)).mono ?_
 rintro e w18 ⟨rfl,b_w18⟩
 have hs_w18:w18a.heap.size≤w18.heap.size:=(b_w18).size
 have HB_w18:Hid (Below w.heap.size w w18):=HB_w18a.out.trans ((b_w18).mono HB_w18a.out.size)
 have bA_w18:Hid (w18.heap[w.heap.size]? = some (.cells #[.slice ao fs.length cap,.int .i64 room,.int .i64 act,.int .i64 seq,.slice ad dir.length cd] 27 (0,0))):=blk_below bA_w18a.out (b_w18)
 have rWF_w18:Hid (RowF w18 w2.heap.size (.slice aW R.length cW) R):=rowF_below rWF_w18a.out (b_w18)
 have rWS_w18:Hid (RowSpot w18 w2.heap.size (.slice dW DR.length eW) DR):=rowSpot_below rWS_w18a.out (b_w18)
 have rWA_w18:Hid (RowAct w18 w2.heap.size (.slice qW QS.length uW) QS):=rowAct_below rWA_w18a.out (b_w18)
 have bW_w18:Hid (w18.heap[w4.heap.size]? = some (.cells #[.slice aW R.length cW,.int .i64 rR,.int .i64 rA,.int .i64 rS,.slice dW DR.length eW] 34 (0,0))):=blk_below bW_w18a.out (b_w18)
 have rGF_w18:Hid (RowF w18 w7.heap.size (.slice aG R.length cG) R):=rowF_below rGF_w18a.out (b_w18)
 have rGS_w18:Hid (RowSpot w18 w7.heap.size (.slice dG DR.length eG) DR):=rowSpot_below rGS_w18a.out (b_w18)
 have rGA_w18:Hid (RowAct w18 w7.heap.size (.slice qG QS.length uG) QS):=rowAct_below rGA_w18a.out (b_w18)
 have bG_w18:Hid (w18.heap[w9.heap.size]? = some (.cells #[.slice aG R.length cG,.int .i64 rR,.int .i64 rA,.int .i64 rS,.slice dG DR.length eG] 34 (0,0))):=blk_below bG_w18a.out (b_w18)
 clear HB_w18a bA_w18a rWF_w18a rWS_w18a rWA_w18a bW_w18a rGF_w18a rGS_w18a rGA_w18a bG_w18a b_w18
 obtain ⟨K,HKK⟩:∃ K:Nat,Hid (1+3 * R.length+4 * DR.length=K):=⟨_,hide rfl⟩
 obtain ⟨M,HMM⟩:∃ M:Nat,Hid (K+4 * QS.length=M):=⟨_,hide rfl⟩
 have hK0:0 < K:=by have:=HKK.out;omega
 have hK1:K≤9000000:=by have:=HKK.out;omega
 have hmm0:decide ((K:Int) < 0)=false:=by simp
 have hmm2:decide ((M:Int) < 0)=false:=by simp
 have hmm1:(!((M:Int) == (M:Int)))=false:=by simp
 obtain ⟨hg0,hg1,hg2,hg3,hg4,-⟩:=five_cells bG_w18.out
 go_wp2_with fail
 refine (markEngine_own _ _ R DR rR rA rS w7.heap.size 1 _ hRl (by omega) (by omega) (by omega) (by omega) rGF_w18.out rGS_w18.out).mono ?_
 rintro e w19 ⟨rfl,hm1,hm2,hbm,hxm⟩
 rw [HKK.out]
 have rMF_w19:=hide hm1
 have rMS_w19:=hide hm2
 clear hm1 hm2
 clear hg0 hg1 hg2 hg3 hg4
 have hs_w19:w18.heap.size≤w19.heap.size:=(hbm).size
 have HB_w19:Hid (Below w.heap.size w w19):=HB_w18.out.trans ((hbm).mono (by omega))
 have bA_w19:Hid (w19.heap[w.heap.size]? = some (.cells #[.slice ao fs.length cap,.int .i64 room,.int .i64 act,.int .i64 seq,.slice ad dir.length cd] 27 (0,0))):=(hxm w.heap.size (by omega) (fun e => by have h1:=UrGF.out _ e;omega) (fun e => by have h1:=UrGS.out _ e;omega)).trans bA_w18.out
 have rWF_w19:Hid (RowF w19 w2.heap.size (.slice aW R.length cW) R):=rowF_keep rWF_w18.out (fun x hx => hxm x (by have h0:=UrWF.out x hx;omega) (fun e => by have h0:=UrWF.out x hx;have h1:=UrGF.out _ e;omega) (fun e => by have h0:=UrWF.out x hx;have h1:=UrGS.out _ e;omega))
 have rWS_w19:Hid (RowSpot w19 w2.heap.size (.slice dW DR.length eW) DR):=rowSpot_keep rWS_w18.out (fun x hx => hxm x (by have h0:=UrWS.out x hx;omega) (fun e => by have h0:=UrWS.out x hx;have h1:=UrGF.out _ e;omega) (fun e => by have h0:=UrWS.out x hx;have h1:=UrGS.out _ e;omega))
 have rWA_w19:Hid (RowAct w19 w2.heap.size (.slice qW QS.length uW) QS):=rowAct_keep rWA_w18.out (fun x hx => hxm x (by have h0:=UrWA.out x hx;omega) (fun e => by have h0:=UrWA.out x hx;have h1:=UrGF.out _ e;omega) (fun e => by have h0:=UrWA.out x hx;have h1:=UrGS.out _ e;omega))
 have bW_w19:Hid (w19.heap[w4.heap.size]? = some (.cells #[.slice aW R.length cW,.int .i64 rR,.int .i64 rA,.int .i64 rS,.slice dW DR.length eW] 34 (0,0))):=(hxm w4.heap.size (by omega) (fun e => by have h1:=UrGF.out _ e;omega) (fun e => by have h1:=UrGS.out _ e;omega)).trans bW_w18.out
 have rGA_w19:Hid (RowAct w19 w7.heap.size (.slice qG QS.length uG) QS):=rowAct_keep rGA_w18.out (fun x hx => hxm x (by have h0:=UrGA.out x hx;omega) (NFG.out x hx) (NSG.out x hx))
 have bG_w19:Hid (w19.heap[w9.heap.size]? = some (.cells #[.slice aG R.length cG,.int .i64 rR,.int .i64 rA,.int .i64 rS,.slice dG DR.length eG] 34 (0,0))):=(hxm w9.heap.size (by omega) (fun e => by have h1:=UrGF.out _ e;omega) (fun e => by have h1:=UrGS.out _ e;omega)).trans bG_w18.out
 clear HB_w18 bA_w18 rWF_w18 rWS_w18 rWA_w18 bW_w18 rGF_w18 rGS_w18 rGA_w18 bG_w18
 clear hbm hxm
 have UrMF:=UrGF
 have UrMS:=UrGS
 go_wp2_with fail
 refine (markActS_own _ QS w7.heap.size K _ (by omega) hK0 (by omega) rGA_w19.out).mono ?_
 rintro e w19b ⟨rfl,hma,hgr⟩
 rw [HMM.out]
 have rMA_w19b:=hide hma
 clear hma
 have hs_w19b:w19.heap.size≤w19b.heap.size:=(hgr).size
 have HB_w19b:Hid (Below w.heap.size w w19b):=HB_w19.out.grown hgr (by have:=HB_w19.out.size;omega) (fun j hj => by have h1:=UrGA.out _ hj;omega)
 have bA_w19b:Hid (w19b.heap[w.heap.size]? = some (.cells #[.slice ao fs.length cap,.int .i64 room,.int .i64 act,.int .i64 seq,.slice ad dir.length cd] 27 (0,0))):=(hgr.block w.heap.size (by omega) (fun e => by have h1:=UrGA.out _ e.symm;omega)).trans bA_w19.out
 have rWF_w19b:Hid (RowF w19b w2.heap.size (.slice aW R.length cW) R):=rowF_keep rWF_w19.out (fun x hx => hgr.block x (by have h0:=UrWF.out x hx;omega) (fun e => by have h0:=UrWF.out x hx;have h1:=UrGA.out _ e.symm;omega))
 have rWS_w19b:Hid (RowSpot w19b w2.heap.size (.slice dW DR.length eW) DR):=rowSpot_keep rWS_w19.out (fun x hx => hgr.block x (by have h0:=UrWS.out x hx;omega) (fun e => by have h0:=UrWS.out x hx;have h1:=UrGA.out _ e.symm;omega))
 have rWA_w19b:Hid (RowAct w19b w2.heap.size (.slice qW QS.length uW) QS):=rowAct_keep rWA_w19.out (fun x hx => hgr.block x (by have h0:=UrWA.out x hx;omega) (fun e => by have h0:=UrWA.out x hx;have h1:=UrGA.out _ e.symm;omega))
 have bW_w19b:Hid (w19b.heap[w4.heap.size]? = some (.cells #[.slice aW R.length cW,.int .i64 rR,.int .i64 rA,.int .i64 rS,.slice dW DR.length eW] 34 (0,0))):=(hgr.block w4.heap.size (by omega) (fun e => by have h1:=UrGA.out _ e.symm;omega)).trans bW_w19.out
 have bG_w19b:Hid (w19b.heap[w9.heap.size]? = some (.cells #[.slice aG R.length cG,.int .i64 rR,.int .i64 rA,.int .i64 rS,.slice dG DR.length eG] 34 (0,0))):=(hgr.block w9.heap.size (by omega) (fun e => by have h1:=UrGA.out _ e.symm;omega)).trans bG_w19.out
 have rMF_w19b:Hid (RowF w19b w7.heap.size (.slice aG R.length cG) (marksF 1 R.length)):=rowF_keep rMF_w19.out (fun x hx => hgr.block x (by have h0:=UrMF.out x hx;omega) (fun e => NFG.out x e.symm hx))
 have rMS_w19b:Hid (RowSpot w19b w7.heap.size (.slice dG DR.length eG) (markSpotDs (1+3 * R.length) DR.length)):=rowSpot_keep rMS_w19.out (fun x hx => hgr.block x (by have h0:=UrMS.out x hx;omega) (fun e => NSG.out x e.symm hx))
 clear HB_w19 bA_w19 rWF_w19 rWS_w19 rWA_w19 bW_w19 rGA_w19 bG_w19 rMF_w19 rMS_w19
 clear hgr
 have UrMA:=UrGA
 obtain ⟨hg0,hg1,hg2,hg3,hg4,-⟩:=five_cells bG_w19b.out
 go_wp2_with fail
 refine (heldEngine_own _ _ R.length DR.length rR rA rS w7.heap.size 1 _ hRl (by omega) (by omega) (by omega) rMF_w19b.out rMS_w19b.out).mono ?_
 rintro e w20a ⟨rfl,b_w20a⟩
 rw [HKK.out]
 clear hg0 hg1 hg2 hg3 hg4
 have hs_w20a:w19b.heap.size≤w20a.heap.size:=(b_w20a).size
 have HB_w20a:Hid (Below w.heap.size w w20a):=HB_w19b.out.trans ((b_w20a).mono HB_w19b.out.size)
 have bA_w20a:Hid (w20a.heap[w.heap.size]? = some (.cells #[.slice ao fs.length cap,.int .i64 room,.int .i64 act,.int .i64 seq,.slice ad dir.length cd] 27 (0,0))):=blk_below bA_w19b.out (b_w20a)
 have rWF_w20a:Hid (RowF w20a w2.heap.size (.slice aW R.length cW) R):=rowF_below rWF_w19b.out (b_w20a)
 have rWS_w20a:Hid (RowSpot w20a w2.heap.size (.slice dW DR.length eW) DR):=rowSpot_below rWS_w19b.out (b_w20a)
 have rWA_w20a:Hid (RowAct w20a w2.heap.size (.slice qW QS.length uW) QS):=rowAct_below rWA_w19b.out (b_w20a)
 have bW_w20a:Hid (w20a.heap[w4.heap.size]? = some (.cells #[.slice aW R.length cW,.int .i64 rR,.int .i64 rA,.int .i64 rS,.slice dW DR.length eW] 34 (0,0))):=blk_below bW_w19b.out (b_w20a)
 have bG_w20a:Hid (w20a.heap[w9.heap.size]? = some (.cells #[.slice aG R.length cG,.int .i64 rR,.int .i64 rA,.int .i64 rS,.slice dG DR.length eG] 34 (0,0))):=blk_below bG_w19b.out (b_w20a)
 have rMF_w20a:Hid (RowF w20a w7.heap.size (.slice aG R.length cG) (marksF 1 R.length)):=rowF_below rMF_w19b.out (b_w20a)
 have rMS_w20a:Hid (RowSpot w20a w7.heap.size (.slice dG DR.length eG) (markSpotDs (1+3 * R.length) DR.length)):=rowSpot_below rMS_w19b.out (b_w20a)
 have rMA_w20a:Hid (RowAct w20a w7.heap.size (.slice qG QS.length uG) (markActDs K QS.length)):=rowAct_below rMA_w19b.out (b_w20a)
 clear HB_w19b bA_w19b rWF_w19b rWS_w19b rWA_w19b bW_w19b bG_w19b rMF_w19b rMS_w19b rMA_w19b b_w20a
 go_wp2_with fail
 refine (heldActS_any _ _ QS.length K _ (by omega) hK0 (by omega) (rowAct_rows rMA_w20a.out)).mono ?_
 rintro e w20 ⟨rfl,b_w20⟩
 rw [HMM.out]
 have hs_w20:w20a.heap.size≤w20.heap.size:=(b_w20).size
 have HB_w20:Hid (Below w.heap.size w w20):=HB_w20a.out.trans ((b_w20).mono HB_w20a.out.size)
 have bA_w20:Hid (w20.heap[w.heap.size]? = some (.cells #[.slice ao fs.length cap,.int .i64 room,.int .i64 act,.int .i64 seq,.slice ad dir.length cd] 27 (0,0))):=blk_below bA_w20a.out (b_w20)
 have rWF_w20:Hid (RowF w20 w2.heap.size (.slice aW R.length cW) R):=rowF_below rWF_w20a.out (b_w20)
 have rWS_w20:Hid (RowSpot w20 w2.heap.size (.slice dW DR.length eW) DR):=rowSpot_below rWS_w20a.out (b_w20)
 have rWA_w20:Hid (RowAct w20 w2.heap.size (.slice qW QS.length uW) QS):=rowAct_below rWA_w20a.out (b_w20)
 have bW_w20:Hid (w20.heap[w4.heap.size]? = some (.cells #[.slice aW R.length cW,.int .i64 rR,.int .i64 rA,.int .i64 rS,.slice dW DR.length eW] 34 (0,0))):=blk_below bW_w20a.out (b_w20)
 have bG_w20:Hid (w20.heap[w9.heap.size]? = some (.cells #[.slice aG R.length cG,.int .i64 rR,.int .i64 rA,.int .i64 rS,.slice dG DR.length eG] 34 (0,0))):=blk_below bG_w20a.out (b_w20)
 have rMF_w20:Hid (RowF w20 w7.heap.size (.slice aG R.length cG) (marksF 1 R.length)):=rowF_below rMF_w20a.out (b_w20)
 have rMS_w20:Hid (RowSpot w20 w7.heap.size (.slice dG DR.length eG) (markSpotDs (1+3 * R.length) DR.length)):=rowSpot_below rMS_w20a.out (b_w20)
 have rMA_w20:Hid (RowAct w20 w7.heap.size (.slice qG QS.length uG) (markActDs K QS.length)):=rowAct_below rMA_w20a.out (b_w20)
 clear HB_w20a bA_w20a rWF_w20a rWS_w20a rWA_w20a bW_w20a bG_w20a rMF_w20a rMS_w20a rMA_w20a b_w20
 obtain ⟨hy0,hy1,hy2,hy3,hy4,-⟩:=five_cells bA_w20.out
 go_wp2_with fail
 refine (toEngine_row fs ao ad cap cd room act seq dir _ hl (filesAt_keep HF.out HB_w20.out) hld (spotsAt_keep HD.out HB_w20.out)).mono ?_
 rintro e w21 ⟨⟨aY,dY,rfl,hfY,hdY⟩,b_w21⟩
 have UrYF:Hid (∀ g,(Value.slice aY fs.length fs.length).ownBlock=some g→w20.heap.size≤g∧g < w21.heap.size):=rowF_lt hfY
 have UrYS:Hid (∀ g,(Value.slice dY dir.length dir.length).ownBlock=some g→w20.heap.size≤g∧g < w21.heap.size):=rowSpot_lt hdY
 have rYF_w21:=hide hfY
 have rYS_w21:=hide hdY
 clear hfY hdY
 have hs_w21:w20.heap.size≤w21.heap.size:=(b_w21).size
 have HB_w21:Hid (Below w.heap.size w w21):=HB_w20.out.trans ((b_w21).mono HB_w20.out.size)
 have bA_w21:Hid (w21.heap[w.heap.size]? = some (.cells #[.slice ao fs.length cap,.int .i64 room,.int .i64 act,.int .i64 seq,.slice ad dir.length cd] 27 (0,0))):=blk_below bA_w20.out (b_w21)
 have rWF_w21:Hid (RowF w21 w2.heap.size (.slice aW R.length cW) R):=rowF_below rWF_w20.out (b_w21)
 have rWS_w21:Hid (RowSpot w21 w2.heap.size (.slice dW DR.length eW) DR):=rowSpot_below rWS_w20.out (b_w21)
 have rWA_w21:Hid (RowAct w21 w2.heap.size (.slice qW QS.length uW) QS):=rowAct_below rWA_w20.out (b_w21)
 have bW_w21:Hid (w21.heap[w4.heap.size]? = some (.cells #[.slice aW R.length cW,.int .i64 rR,.int .i64 rA,.int .i64 rS,.slice dW DR.length eW] 34 (0,0))):=blk_below bW_w20.out (b_w21)
 have bG_w21:Hid (w21.heap[w9.heap.size]? = some (.cells #[.slice aG R.length cG,.int .i64 rR,.int .i64 rA,.int .i64 rS,.slice dG DR.length eG] 34 (0,0))):=blk_below bG_w20.out (b_w21)
 have rMF_w21:Hid (RowF w21 w7.heap.size (.slice aG R.length cG) (marksF 1 R.length)):=rowF_below rMF_w20.out (b_w21)
 have rMS_w21:Hid (RowSpot w21 w7.heap.size (.slice dG DR.length eG) (markSpotDs (1+3 * R.length) DR.length)):=rowSpot_below rMS_w20.out (b_w21)
 have rMA_w21:Hid (RowAct w21 w7.heap.size (.slice qG QS.length uG) (markActDs K QS.length)):=rowAct_below rMA_w20.out (b_w21)
 clear HB_w20 bA_w20 rWF_w20 rWS_w20 rWA_w20 bW_w20 bG_w20 rMF_w20 rMS_w20 rMA_w20 b_w21
 clear hy0 hy1 hy2 hy3 hy4
 clear bA_w21
 go_wp2_with fail
 refine (HIm.out _ _ _ (rowF_rowsE rYF_w21.out) (rowSpot_rows rYS_w21.out) (sumTab_later HB_w21.out HT.out)).mono ?_
 clear rYF_w21
 clear rYS_w21
 clear UrYF UrYS
 rintro e w23 ⟨⟨vdH,vrH,vaH,rfl,hfH,hdH,haH⟩,b_w23⟩
 obtain ⟨aH,cH,rfl,-⟩:=rowF_at hfH
 obtain ⟨dH,eH,rfl,-⟩:=rowSpot_at hdH
 obtain ⟨qH,uH,rfl,-⟩:=rowAct_at haH
 have UrHF:Hid (∀ g,(Value.slice aH R.length cH).ownBlock=some g→w21.heap.size≤g∧g < w23.heap.size):=rowF_lt hfH
 have UrHS:Hid (∀ g,(Value.slice dH DR.length eH).ownBlock=some g→w21.heap.size≤g∧g < w23.heap.size):=rowSpot_lt hdH
 have UrHA:Hid (∀ g,(Value.slice qH QS.length uH).ownBlock=some g→w21.heap.size≤g∧g < w23.heap.size):=rowAct_lt haH
 have NFH:=hide (act_file_ne haH hfH)
 have NSH:=hide (act_spot_ne haH hdH)
 have rHF_w23:=hide hfH
 have rHS_w23:=hide hdH
 have rHA_w23:=hide haH
 clear hfH hdH haH
 have hs_w23:w21.heap.size≤w23.heap.size:=(b_w23).size
 have HB_w23:Hid (Below w.heap.size w w23):=HB_w21.out.trans ((b_w23).mono HB_w21.out.size)
 have rWF_w23:Hid (RowF w23 w2.heap.size (.slice aW R.length cW) R):=rowF_below rWF_w21.out (b_w23)
 have rWS_w23:Hid (RowSpot w23 w2.heap.size (.slice dW DR.length eW) DR):=rowSpot_below rWS_w21.out (b_w23)
 have rWA_w23:Hid (RowAct w23 w2.heap.size (.slice qW QS.length uW) QS):=rowAct_below rWA_w21.out (b_w23)
 have bW_w23:Hid (w23.heap[w4.heap.size]? = some (.cells #[.slice aW R.length cW,.int .i64 rR,.int .i64 rA,.int .i64 rS,.slice dW DR.length eW] 34 (0,0))):=blk_below bW_w21.out (b_w23)
 have bG_w23:Hid (w23.heap[w9.heap.size]? = some (.cells #[.slice aG R.length cG,.int .i64 rR,.int .i64 rA,.int .i64 rS,.slice dG DR.length eG] 34 (0,0))):=blk_below bG_w21.out (b_w23)
 have rMF_w23:Hid (RowF w23 w7.heap.size (.slice aG R.length cG) (marksF 1 R.length)):=rowF_below rMF_w21.out (b_w23)
 have rMS_w23:Hid (RowSpot w23 w7.heap.size (.slice dG DR.length eG) (markSpotDs (1+3 * R.length) DR.length)):=rowSpot_below rMS_w21.out (b_w23)
 have rMA_w23:Hid (RowAct w23 w7.heap.size (.slice qG QS.length uG) (markActDs K QS.length)):=rowAct_below rMA_w21.out (b_w23)
 clear HB_w21 rWF_w21 rWS_w21 rWA_w21 bW_w21 bG_w21 rMF_w21 rMS_w21 rMA_w21 b_w23
 obtain ⟨w24,hw_w24⟩:∃ wq,wq=w23.alloc (.cells #[.slice aH R.length cH,.int .i64 rR,.int .i64 rA,.int .i64 rS,.slice dH DR.length eH] 34):=⟨_,rfl⟩
 have bb_w24:Below w23.heap.size w23 w24:=by rw [hw_w24];exact (Below.refl _ _).alloc (Nat.le_refl _) _
 have hz_w24:w23.heap.size+1≤w24.heap.size:=by rw [hw_w24];simp
 have bH_w24:Hid (w24.heap[w23.heap.size]? = some (.cells #[.slice aH R.length cH,.int .i64 rR,.int .i64 rA,.int .i64 rS,.slice dH DR.length eH] 34 (0,0))):=by rw [hw_w24];exact heap_alloc_new _ _
 have hs_w24:w23.heap.size≤w24.heap.size:=(bb_w24).size
 have HB_w24:Hid (Below w.heap.size w w24):=HB_w23.out.trans ((bb_w24).mono HB_w23.out.size)
 have rWF_w24:Hid (RowF w24 w2.heap.size (.slice aW R.length cW) R):=rowF_below rWF_w23.out (bb_w24)
 have rWS_w24:Hid (RowSpot w24 w2.heap.size (.slice dW DR.length eW) DR):=rowSpot_below rWS_w23.out (bb_w24)
 have rWA_w24:Hid (RowAct w24 w2.heap.size (.slice qW QS.length uW) QS):=rowAct_below rWA_w23.out (bb_w24)
 have bW_w24:Hid (w24.heap[w4.heap.size]? = some (.cells #[.slice aW R.length cW,.int .i64 rR,.int .i64 rA,.int .i64 rS,.slice dW DR.length eW] 34 (0,0))):=blk_below bW_w23.out (bb_w24)
 have bG_w24:Hid (w24.heap[w9.heap.size]? = some (.cells #[.slice aG R.length cG,.int .i64 rR,.int .i64 rA,.int .i64 rS,.slice dG DR.length eG] 34 (0,0))):=blk_below bG_w23.out (bb_w24)
 have rMF_w24:Hid (RowF w24 w7.heap.size (.slice aG R.length cG) (marksF 1 R.length)):=rowF_below rMF_w23.out (bb_w24)
 have rMS_w24:Hid (RowSpot w24 w7.heap.size (.slice dG DR.length eG) (markSpotDs (1+3 * R.length) DR.length)):=rowSpot_below rMS_w23.out (bb_w24)
 have rMA_w24:Hid (RowAct w24 w7.heap.size (.slice qG QS.length uG) (markActDs K QS.length)):=rowAct_below rMA_w23.out (bb_w24)
 have rHF_w24:Hid (RowF w24 w21.heap.size (.slice aH R.length cH) R):=rowF_below rHF_w23.out (bb_w24)
 have rHS_w24:Hid (RowSpot w24 w21.heap.size (.slice dH DR.length eH) DR):=rowSpot_below rHS_w23.out (bb_w24)
 have rHA_w24:Hid (RowAct w24 w21.heap.size (.slice qH QS.length uH) QS):=rowAct_below rHA_w23.out (bb_w24)
 clear HB_w23 rWF_w23 rWS_w23 rWA_w23 bW_w23 bG_w23 rMF_w23 rMS_w23 rMA_w23 rHF_w23 rHS_w23 rHA_w23 bb_w24
 obtain ⟨hv0,hv1,hv2,hv3,hv4,-⟩:=five_cells bW_w24.out
 rw [hw_w24] at hv0 hv1 hv2 hv3 hv4
 go_wp2_with fail
 rw [← hw_w24]
 clear hw_w24
 clear hv0 hv1 hv2 hv3 hv4
 refine (eqEngine_same R _ _ _ _ _ _ _ _ rR rA rS DR _ hRm (rowF_rowsE rHF_w24.out) (rowF_rowsE rWF_w24.out) hDm (rowSpot_rows rHS_w24.out) (rowSpot_rows rWS_w24.out)).mono ?_
 rintro e w25a ⟨rfl,b_w25a⟩
 have hs_w25a:w24.heap.size≤w25a.heap.size:=(b_w25a).size
 have HB_w25a:Hid (Below w.heap.size w w25a):=HB_w24.out.trans ((b_w25a).mono HB_w24.out.size)
 have rWF_w25a:Hid (RowF w25a w2.heap.size (.slice aW R.length cW) R):=rowF_below rWF_w24.out (b_w25a)
 have rWS_w25a:Hid (RowSpot w25a w2.heap.size (.slice dW DR.length eW) DR):=rowSpot_below rWS_w24.out (b_w25a)
 have rWA_w25a:Hid (RowAct w25a w2.heap.size (.slice qW QS.length uW) QS):=rowAct_below rWA_w24.out (b_w25a)
 have bW_w25a:Hid (w25a.heap[w4.heap.size]? = some (.cells #[.slice aW R.length cW,.int .i64 rR,.int .i64 rA,.int .i64 rS,.slice dW DR.length eW] 34 (0,0))):=blk_below bW_w24.out (b_w25a)
 have bG_w25a:Hid (w25a.heap[w9.heap.size]? = some (.cells #[.slice aG R.length cG,.int .i64 rR,.int .i64 rA,.int .i64 rS,.slice dG DR.length eG] 34 (0,0))):=blk_below bG_w24.out (b_w25a)
 have rMF_w25a:Hid (RowF w25a w7.heap.size (.slice aG R.length cG) (marksF 1 R.length)):=rowF_below rMF_w24.out (b_w25a)
 have rMS_w25a:Hid (RowSpot w25a w7.heap.size (.slice dG DR.length eG) (markSpotDs (1+3 * R.length) DR.length)):=rowSpot_below rMS_w24.out (b_w25a)
 have rMA_w25a:Hid (RowAct w25a w7.heap.size (.slice qG QS.length uG) (markActDs K QS.length)):=rowAct_below rMA_w24.out (b_w25a)
 have rHF_w25a:Hid (RowF w25a w21.heap.size (.slice aH R.length cH) R):=rowF_below rHF_w24.out (b_w25a)
 have rHS_w25a:Hid (RowSpot w25a w21.heap.size (.slice dH DR.length eH) DR):=rowSpot_below rHS_w24.out (b_w25a)
 have rHA_w25a:Hid (RowAct w25a w21.heap.size (.slice qH QS.length uH) QS):=rowAct_below rHA_w24.out (b_w25a)
 have bH_w25a:Hid (w25a.heap[w23.heap.size]? = some (.cells #[.slice aH R.length cH,.int .i64 rR,.int .i64 rA,.int .i64 rS,.slice dH DR.length eH] 34 (0,0))):=blk_below bH_w24.out (b_w25a)
 clear HB_w24 rWF_w24 rWS_w24 rWA_w24 bW_w24 bG_w24 rMF_w24 rMS_w24 rMA_w24 rHF_w24 rHS_w24 rHA_w24 bH_w24 b_w25a
 clear rHF_w25a
 clear rHS_w25a
 clear rWF_w25a
 clear rWS_w25a
 clear bW_w25a
 clear bH_w25a
 go_wp2_with fail
 refine (eqActS_same QS _ _ _ _ _ hQm (rowAct_rows rHA_w25a.out) (rowAct_rows rWA_w25a.out)).mono ?_
 rintro e w25 ⟨rfl,b_w25⟩
 have hs_w25:w25a.heap.size≤w25.heap.size:=(b_w25).size
 have HB_w25:Hid (Below w.heap.size w w25):=HB_w25a.out.trans ((b_w25).mono HB_w25a.out.size)
 have rWA_w25:Hid (RowAct w25 w2.heap.size (.slice qW QS.length uW) QS):=rowAct_below rWA_w25a.out (b_w25)
 have bG_w25:Hid (w25.heap[w9.heap.size]? = some (.cells #[.slice aG R.length cG,.int .i64 rR,.int .i64 rA,.int .i64 rS,.slice dG DR.length eG] 34 (0,0))):=blk_below bG_w25a.out (b_w25)
 have rMF_w25:Hid (RowF w25 w7.heap.size (.slice aG R.length cG) (marksF 1 R.length)):=rowF_below rMF_w25a.out (b_w25)
 have rMS_w25:Hid (RowSpot w25 w7.heap.size (.slice dG DR.length eG) (markSpotDs (1+3 * R.length) DR.length)):=rowSpot_below rMS_w25a.out (b_w25)
 have rMA_w25:Hid (RowAct w25 w7.heap.size (.slice qG QS.length uG) (markActDs K QS.length)):=rowAct_below rMA_w25a.out (b_w25)
 have rHA_w25:Hid (RowAct w25 w21.heap.size (.slice qH QS.length uH) QS):=rowAct_below rHA_w25a.out (b_w25)
 clear HB_w25a rWA_w25a bG_w25a rMF_w25a rMS_w25a rMA_w25a rHA_w25a b_w25
 clear rHA_w25
 clear rWA_w25
 obtain ⟨hg0,hg1,hg2,hg3,hg4,-⟩:=five_cells bG_w25.out
 go_wp2_with fail
 refine (heldEngine_own _ _ R.length DR.length rR rA rS w7.heap.size 1 _ hRl (by omega) (by omega) (by omega) rMF_w25.out rMS_w25.out).mono ?_
 rintro e w26a ⟨rfl,b_w26a⟩
 rw [HKK.out]
 clear hg0 hg1 hg2 hg3 hg4
 have hs_w26a:w25.heap.size≤w26a.heap.size:=(b_w26a).size
 have HB_w26a:Hid (Below w.heap.size w w26a):=HB_w25.out.trans ((b_w26a).mono HB_w25.out.size)
 have bG_w26a:Hid (w26a.heap[w9.heap.size]? = some (.cells #[.slice aG R.length cG,.int .i64 rR,.int .i64 rA,.int .i64 rS,.slice dG DR.length eG] 34 (0,0))):=blk_below bG_w25.out (b_w26a)
 have rMF_w26a:Hid (RowF w26a w7.heap.size (.slice aG R.length cG) (marksF 1 R.length)):=rowF_below rMF_w25.out (b_w26a)
 have rMS_w26a:Hid (RowSpot w26a w7.heap.size (.slice dG DR.length eG) (markSpotDs (1+3 * R.length) DR.length)):=rowSpot_below rMS_w25.out (b_w26a)
 have rMA_w26a:Hid (RowAct w26a w7.heap.size (.slice qG QS.length uG) (markActDs K QS.length)):=rowAct_below rMA_w25.out (b_w26a)
 clear HB_w25 bG_w25 rMF_w25 rMS_w25 rMA_w25 b_w26a
 go_wp2_with fail
 refine (heldActS_any _ _ QS.length K _ (by omega) hK0 (by omega) (rowAct_rows rMA_w26a.out)).mono ?_
 rintro e w26 ⟨rfl,b_w26⟩
 rw [HMM.out]
 have hs_w26:w26a.heap.size≤w26.heap.size:=(b_w26).size
 have HB_w26:Hid (Below w.heap.size w w26):=HB_w26a.out.trans ((b_w26).mono HB_w26a.out.size)
 have bG_w26:Hid (w26.heap[w9.heap.size]? = some (.cells #[.slice aG R.length cG,.int .i64 rR,.int .i64 rA,.int .i64 rS,.slice dG DR.length eG] 34 (0,0))):=blk_below bG_w26a.out (b_w26)
 have rMF_w26:Hid (RowF w26 w7.heap.size (.slice aG R.length cG) (marksF 1 R.length)):=rowF_below rMF_w26a.out (b_w26)
 have rMS_w26:Hid (RowSpot w26 w7.heap.size (.slice dG DR.length eG) (markSpotDs (1+3 * R.length) DR.length)):=rowSpot_below rMS_w26a.out (b_w26)
 have rMA_w26:Hid (RowAct w26 w7.heap.size (.slice qG QS.length uG) (markActDs K QS.length)):=rowAct_below rMA_w26a.out (b_w26)
 clear HB_w26a bG_w26a rMF_w26a rMS_w26a rMA_w26a b_w26
 go_wp2
 go_ret
 exact ⟨rfl,HB_w26.out⟩
end Go.Proofs.YtepdckehokdjlaaGreatDoor
