import Derived.Lib.SmallJoins
import Derived.OpenShut
import Derived.Test.YtbenmgokhklnjaaGreatDoorTb43
import Derived.Test.YtbenmgokhklnjaaGreatDoorTb44
import Derived.Test.YtbenmgokhklnjaaGreatDoorTb33
import Derived.Test.YtbenmgokhklnjaaGreatDoorTb5
import Derived.Test.YtbenmgokhklnjaaGreatDoorTb17
set_option maxRecDepth 100000
set_option maxHeartbeats 3200000
namespace Go.Proofs.YtbenmgokhklnjaaGreatDoor
open Go.RowKit
theorem tabR_small {es:List EntD} (h:TabR es):es.length≤20∧∀ e ∈ es,e.val.items.length≤24:=by
 refine ⟨h.1,fun e he => ?_⟩
 obtain ⟨j,hj,rfl⟩:=List.getElem_of_mem he
 exact (valR_bounds (entsR_of h j hj).2.1).2.2.2.2.2.1
theorem sumI_le:∀ (es:List EntD),(∀ e ∈ es,e.val.items.length≤24)→sumI es≤24 * es.length
 | [],_ => by simp [sumI]
 | e :: r,h => by
  have h1:=h e (List.mem_cons_self ..)
  have h2:=sumI_le r (fun x hx => h x (List.mem_cons_of_mem _ hx))
  simp only [sumI,List.length_cons]
  omega
theorem lawTableOf (fs:List FileD) (ao ad:Option Addr) (cap cd:Nat) (room act seq:Int) (dir:List SpotD) (w:World) (hl0:fs.length≤maxLen) (hfs:FilesAt w ao fs) (hsz0:∀ F ∈ fs,F.name.size≤maxLen∧F.text.size≤maxLen) (hld0:dir.length≤maxLen) (hds:SpotsAt w ad dir) (hszd:∀ A ∈ dir,A.key.size≤maxLen) (hT:SumTab w) :
  Calls Tryz.prog 3 #[.agg #[.slice ao fs.length cap,.int .i64 room,.int .i64 act,.int .i64 seq,.slice ad dir.length cd]] w fun e w' => e=.returned (.bool true)∧Below w.heap.size w w':=by
 have HF:=hide hfs
 have HD:=hide hds
 have HT:=hide hT
 have HSZ:=hide (fun W h1 h2 => szEngine_any fs ao ad cap cd room act seq dir W hl0 h1 hsz0 hld0 h2 hszd)
 clear hfs hds hT
 obtain ⟨wA,hwA⟩:∃ wA,wA=w.alloc (.cells #[.slice ao fs.length cap,.int .i64 room,.int .i64 act,.int .i64 seq,.slice ad dir.length cd] 27):=⟨_,rfl⟩
 have HA:Hid (Below w.heap.size w wA):=by rw [hwA];exact (Below.refl _ w).alloc (Nat.le_refl _) _
 have HAK:Hid (wA.heap[w.heap.size]? = some (.cells #[.slice ao fs.length cap,.int .i64 room,.int .i64 act,.int .i64 seq,.slice ad dir.length cd] 27 (0,0))):=by rw [hwA];exact heap_alloc_new w _
 obtain ⟨hz0,hz1,hz2,hz3,hz4,-⟩:=five_cells HAK.out
 go_enter Tryz.func3,Tryz.ntmps3
 go_wp2_with fail
 rw [← hwA]
 clear hwA
 go_wp2_with fail
 refine (HSZ.out _ (filesAt_keep HF.out HA.out) (spotsAt_keep HD.out HA.out)).mono ?_
 rintro e w1 ⟨⟨r,rfl,hr⟩,b1⟩
 have HR:=hide hr
 have HAK1:=hide ((b1.block _ (heap_lt HAK.out)).trans HAK.out)
 obtain ⟨hy0,hy1,hy2,hy3,hy4,-⟩:=five_cells HAK1.out
 have HW1:=hide (HA.out.trans (b1.mono HA.out.size))
 clear b1 hr hz0 hz1 hz2 hz3 hz4
 by_cases hneg:r < 0
 ·
  have hneg':decide (r < 0)=true:=by simp;omega
  go_wp2
  go_ret
  exact ⟨rfl,HW1.out⟩
 have hneg':decide (r < 0)=false:=by simp;omega
 obtain ⟨hl,hld,hz⟩:=HR.out (by omega)
 obtain ⟨ok,HOK⟩:∃ ok:Bool,Hid (ok=true ↔ TabOk (engOkB fs room act seq dir) (contE fs room act seq dir)):=by classical exact ⟨decide (TabOk (engOkB fs room act seq dir) (contE fs room act seq dir)),by show _ ↔ _;simp⟩
 have HSp:=hide (fun a d W h1 h2 => specTableOf_any fs a d fs.length dir.length room act seq dir W ok HOK.out hl h1 hz hld h2)
 have HIm:=hide (fun a d W h1 h2 hT => implTableOf_any fs a d fs.length dir.length room act seq dir W ok HOK.out hl h1 hz hld h2 hT)
 have hLX:TabR (cond ok (entsD (contE fs room act seq dir)) []):=by
  cases ok
  · exact ⟨Nat.zero_le _,fun j hj => absurd hj (by simp)⟩
  · exact (HOK.out.1 rfl).2.2
 clear hz HR HOK
 generalize cond ok (entsD (contE fs room act seq dir)) []=L at HSp HIm hLX
 obtain ⟨hL20,hLe⟩:=tabR_small hLX
 have hLs:4 * L.length+sumI L≤6000000:=by have:=sumI_le L hLe;omega
 have HIL:Hid (∀ e ∈ L,e.val.items.length≤1048576):=fun e he => by have:=hLe e he;omega
 have hLl:L.length≤1048576:=by omega
 clear hLX hLe
 have hoo:(!(ok == ok))=false:=by simp
 go_wp2_with fail
 refine (toEngine_any fs ao ad cap cd room act seq dir _ hl (filesAt_keep HF.out HW1.out) hld (spotsAt_keep HD.out HW1.out)).mono ?_
 rintro e w2 ⟨⟨a2,d2,rfl,hf2,hd2⟩,b2⟩
 have HW2:=hide (HW1.out.trans (b2.mono HW1.out.size))
 have HAK2:=hide ((b2.block _ (heap_lt HAK1.out)).trans HAK1.out)
 have HF2:=hide hf2
 have HD2:=hide hd2
 clear b2 hf2 hd2 hy0 hy1 hy2 hy3 hy4
 go_wp2_with fail
 refine (HSp.out _ _ _ HF2.out HD2.out).mono ?_
 rintro e w3 ⟨⟨v1,rfl,r3⟩,b3⟩
 obtain ⟨a1,c1,rfl,-⟩:=rowEnt_at r3
 have R3:=hide r3
 have HW3:=hide (HW2.out.trans (b3.mono HW2.out.size))
 have HAK3:=hide ((b3.block _ (heap_lt HAK2.out)).trans HAK2.out)
 obtain ⟨hy0,hy1,hy2,hy3,hy4,-⟩:=five_cells HAK3.out
 clear b3 HF2 HD2 r3
 go_wp2_with fail
 refine (toEngine_row fs ao ad cap cd room act seq dir _ hl (filesAt_keep HF.out HW3.out) hld (spotsAt_keep HD.out HW3.out)).mono ?_
 rintro e w4 ⟨⟨a4,d4,rfl,hf4,hd4⟩,b4⟩
 have HW4:=hide (HW3.out.trans (b4.mono HW3.out.size))
 have HAK4:=hide ((b4.block _ (heap_lt HAK3.out)).trans HAK3.out)
 have RF4:=hide hf4
 have RD4:=hide hd4
 have R4:=hide (rowEnt_below R3.out b4)
 have hs4:w3.heap.size≤w4.heap.size:=b4.size
 have B34:=hide b4
 clear b4 hf4 hd4 hy0 hy1 hy2 hy3 hy4
 obtain ⟨wX,hwX⟩:∃ wX,wX=w4.alloc (.cells #[.slice a4 fs.length fs.length,.int .i64 room,.int .i64 act,.int .i64 seq,.slice d4 dir.length dir.length] 37):=⟨_,rfl⟩
 have HX:Hid (Below w4.heap.size w4 wX):=by rw [hwX];exact (Below.refl _ w4).alloc (Nat.le_refl _) _
 have HXK:Hid (wX.heap[w4.heap.size]? = some (.cells #[.slice a4 fs.length fs.length,.int .i64 room,.int .i64 act,.int .i64 seq,.slice d4 dir.length dir.length] 37 (0,0))):=by rw [hwX];exact heap_alloc_new w4 _
 have hXs:w4.heap.size+1=wX.heap.size:=by rw [hwX];simp
 have HWX:=hide (HW4.out.trans (HX.out.mono HW4.out.size))
 obtain ⟨hx0,hx1,hx2,hx3,hx4,-⟩:=five_cells HXK.out
 have HIX:=hide (HIm.out a4 d4 wX (rowF_rowsE (rowF_below RF4.out HX.out)) (rowSpot_rows (rowSpot_below RD4.out HX.out)) (sumTab_later HWX.out HT.out))
 subst hwX
 go_wp2_with fail
 refine HIX.out.mono ?_
 rintro e w5 ⟨⟨v2,rfl,r5⟩,b5⟩
 obtain ⟨a5,c5,rfl,-⟩:=rowEnt_at r5
 have R25:=hide r5
 have HX5:=hide (HX.out.trans (b5.mono HX.out.size))
 have HW5:=hide (HW4.out.trans (HX5.out.mono HW4.out.size))
 have HAK5:=hide ((HX5.out.block _ (heap_lt HAK4.out)).trans HAK4.out)
 have HXK5:=hide ((b5.block _ (heap_lt HXK.out)).trans HXK.out)
 have R15:=hide (rowEnt_below R4.out HX5.out)
 have RF5:=hide (rowF_below RF4.out HX5.out)
 have RD5:=hide (rowSpot_below RD4.out HX5.out)
 have hzX:w4.heap.size < w5.heap.size:=heap_lt HXK5.out
 generalize hgX:(w4.alloc (.cells #[.slice a4 fs.length fs.length,.int .i64 room,.int .i64 act,.int .i64 seq,.slice d4 dir.length dir.length] 37)).heap.size=szX at hXs R25
 clear b5 hx0 hx1 hx2 hx3 hx4 HIX HXK HX HWX r5 hgX
 go_wp2_with fail
 refine (eqEntryS_same L a5 a1 c5 c1 _ hLl HIL.out (rowEnt_rows R25.out).2 (rowEnt_rows R15.out).2).mono ?_
 rintro e w6 ⟨rfl,b6⟩
 have B6:=hide b6
 have hs6:w5.heap.size≤w6.heap.size:=b6.size
 have HW6:=hide (HW5.out.trans (b6.mono HW5.out.size))
 have HAK6:=hide ((b6.block _ (heap_lt HAK5.out)).trans HAK5.out)
 have HXK6:=hide ((b6.block _ (heap_lt HXK5.out)).trans HXK5.out)
 have RF6:=hide (rowF_below RF5.out b6)
 have RD6:=hide (rowSpot_below RD5.out b6)
 obtain ⟨hy0,hy1,hy2,hy3,hy4,-⟩:=five_cells HAK6.out
 obtain ⟨hv0,hv1,hv2,hv3,hv4,-⟩:=five_cells HXK6.out
 have hzA:w.heap.size < w6.heap.size:=heap_lt HAK6.out
 have hzX6:w4.heap.size < w6.heap.size:=heap_lt HXK6.out
 clear b6
 have KS:Hid (∀ X,Below w6.heap.size w6 X→(X.cell? ⟨w.heap.size,0,none⟩=some (.slice ao fs.length cap)∧X.cell? ⟨w.heap.size,1,none⟩=some (.int .i64 room)∧X.cell? ⟨w.heap.size,2,none⟩=some (.int .i64 act)∧X.cell? ⟨w.heap.size,3,none⟩=some (.int .i64 seq)∧X.cell? ⟨w.heap.size,4,none⟩=some (.slice ad dir.length cd)∧X.cell? ⟨w4.heap.size,0,none⟩=some (.slice a4 fs.length fs.length)∧X.cell? ⟨w4.heap.size,1,none⟩=some (.int .i64 room)∧X.cell? ⟨w4.heap.size,2,none⟩=some (.int .i64 act)∧X.cell? ⟨w4.heap.size,3,none⟩=some (.int .i64 seq)∧X.cell? ⟨w4.heap.size,4,none⟩=some (.slice d4 dir.length dir.length))):=fun X hX => ⟨(hX.cell (p:=⟨w.heap.size,0,none⟩) hzA).trans hy0,(hX.cell (p:=⟨w.heap.size,1,none⟩) hzA).trans hy1,(hX.cell (p:=⟨w.heap.size,2,none⟩) hzA).trans hy2,(hX.cell (p:=⟨w.heap.size,3,none⟩) hzA).trans hy3,(hX.cell (p:=⟨w.heap.size,4,none⟩) hzA).trans hy4,(hX.cell (p:=⟨w4.heap.size,0,none⟩) hzX6).trans hv0,(hX.cell (p:=⟨w4.heap.size,1,none⟩) hzX6).trans hv1,(hX.cell (p:=⟨w4.heap.size,2,none⟩) hzX6).trans hv2,(hX.cell (p:=⟨w4.heap.size,3,none⟩) hzX6).trans hv3,(hX.cell (p:=⟨w4.heap.size,4,none⟩) hzX6).trans hv4⟩
 have HTE:Hid (∀ X,Below w6.heap.size w6 X→Calls Tryz.prog 6 #[.agg #[.slice ao fs.length cap,.int .i64 room,.int .i64 act,.int .i64 seq,.slice ad dir.length cd]] X fun e w' => (∃ a1 a2:Option Addr,e=.returned (.agg #[.slice a1 fs.length fs.length,.int .i64 room,.int .i64 act,.int .i64 seq,.slice a2 dir.length dir.length])∧FilesAt w' a1 fs∧SpotsAt w' a2 dir)∧Below X.heap.size X w'):=fun X hX => toEngine_any fs ao ad cap cd room act seq dir X hl (filesAt_keep HF.out (HW6.out.trans (hX.mono HW6.out.size))) hld (spotsAt_keep HD.out (HW6.out.trans (hX.mono HW6.out.size)))
 have HFX:=hide (rowF_rowsE RF6.out)
 have HDX:=hide (rowSpot_rows RD6.out)
 go_wp2_with fail
 go_region_held3 (fun w' => w'.cell? ⟨w.heap.size,0,none⟩=some (.slice ao fs.length cap)∧w'.cell? ⟨w.heap.size,1,none⟩=some (.int .i64 room)∧w'.cell? ⟨w.heap.size,2,none⟩=some (.int .i64 act)∧w'.cell? ⟨w.heap.size,3,none⟩=some (.int .i64 seq)∧w'.cell? ⟨w.heap.size,4,none⟩=some (.slice ad dir.length cd)∧w'.cell? ⟨w4.heap.size,0,none⟩=some (.slice a4 fs.length fs.length)∧w'.cell? ⟨w4.heap.size,1,none⟩=some (.int .i64 room)∧w'.cell? ⟨w4.heap.size,2,none⟩=some (.int .i64 act)∧w'.cell? ⟨w4.heap.size,3,none⟩=some (.int .i64 seq)∧w'.cell? ⟨w4.heap.size,4,none⟩=some (.slice d4 dir.length dir.length)) ((refine KS.out _ ?_;first | (exact e8) | (exact e7) | (exact (Below.refl _ _).drew) | fail)) ((first | (go_at_call 6;refine (HTE.out _ ?_).mono ?_;exact (Below.refl _ _).drew;rintro e w7 ⟨⟨a7,d7,rfl,hf7,hd7⟩,b7⟩;have e7:Below w6.heap.size w6 w7:=((Below.refl _ _).drew).trans b7) | (go_at_call 9;refine (eqEngine_same fs _ _ _ _ _ _ _ _ room act seq dir _ hl0 (filesAt_keep HFX.out e7) hf7 hld0 (spotsAt_keep HDX.out e7) hd7).mono ?_;rintro e w8 ⟨rfl,b8⟩;have e8:Below w6.heap.size w6 w8:=e7.trans (b8.mono e7.size))))
 have B8:=hide e8
 have HW8:=hide (HW6.out.trans (e8.mono HW6.out.size))
 have B58:=hide (B6.out.trans (e8.mono hs6))
 have hs8:w6.heap.size≤w8.heap.size:=e8.size
 clear e8 e7 b8 b7 hf7 hd7 hy0 hy1 hy2 hy3 hy4 hv0 hv1 hv2 hv3 hv4 KS HTE HFX HDX
 have HXK8:=hide ((B8.out.block _ (heap_lt HXK6.out)).trans HXK6.out)
 have HAK8:=hide ((B8.out.block _ (heap_lt HAK6.out)).trans HAK6.out)
 have RF8:=hide (rowF_below RF6.out B8.out)
 have RD8:=hide (rowSpot_below RD6.out B8.out)
 have B38:=hide ((B34.out.trans (HX5.out.mono hs4)).trans (B58.out.mono (Nat.le_trans hs4 HX5.out.size)))
 obtain ⟨hv0,hv1,hv2,hv3,hv4,-⟩:=five_cells HXK8.out
 obtain ⟨KD,HKD⟩:∃ KD:Int,Hid (((1+3 * fs.length+4 * dir.length:Nat):Int)=KD):=⟨_,rfl⟩
 have hKD:decide (KD < 0)=false:=by have:=HKD.out;simp;omega
 go_wp2_with fail
 refine (markEngine_own _ _ fs dir room act seq w3.heap.size 1 _ hl hld (by omega) (by omega) (by omega) RF8.out RD8.out).mono ?_
 rintro e w9 ⟨rfl,-,-,b9,x9⟩
 rw [HKD.out]
 have X9:=hide x9
 have HW9:=hide (HW8.out.trans (b9.mono HW3.out.size))
 have B39:=hide b9
 have hs9:w8.heap.size≤w9.heap.size:=b9.size
 have HFl:=hide (rowF_lt RF4.out)
 have HDl:=hide (rowSpot_lt RD4.out)
 have HAK9:=hide ((b9.block _ (heap_lt HAK3.out)).trans HAK8.out)
 have B39s:=hide (B38.out.trans B39.out)
 have R19:=hide (rowEnt_below R3.out B39s.out)
 have R29:Hid (RowEnt w9 szX (.slice a5 L.length c5) L):=rowEnt_keep R25.out (fun x h1 h2 => (X9.out x (by have:=B58.out.size;omega) (fun e => by have:=(HFl.out x e).2;omega) (fun e => by have:=(HDl.out x e).2;omega)).trans (B58.out.block x h2))
 clear b9 x9 hv0 hv1 hv2 hv3 hv4
 go_wp2_with fail
 refine (eqEntryS_same L a5 a1 c5 c1 _ hLl HIL.out (rowEnt_rows R29.out).2 (rowEnt_rows R19.out).2).mono ?_
 rintro e w10 ⟨rfl,b10⟩
 have HW10:=hide (HW9.out.trans (b10.mono HW9.out.size))
 have B3A:=hide (B39s.out.trans (b10.mono B39s.out.size))
 have R210:=hide (rowEnt_below R29.out b10)
 have HAK10:=hide ((b10.block _ (heap_lt HAK9.out)).trans HAK9.out)
 have hs10:w9.heap.size≤w10.heap.size:=b10.size
 clear b10
 obtain ⟨KM,HKM⟩:∃ KM:Int,Hid (((markEEnd 1 L:Nat):Int)=KM):=⟨_,rfl⟩
 have hKM:decide (KM < 0)=false:=by have:=HKM.out;simp;omega
 have hKK:(!(KM == KM))=false:=by simp
 go_wp2_with fail
 refine (markEntryS_row (.slice a5 L.length c5) L szX 1 _ hLs HIL.out (by omega) (by omega) R210.out _ (topE_of R210.out)).mono ?_
 rintro e w11 ⟨rfl,r11,b11,-⟩
 rw [HKM.out]
 have hzX3:w4.heap.size≤szX:=by omega
 have HW11:=hide (HW10.out.trans (b11.mono (Nat.le_trans HW4.out.size hzX3)))
 have B3B:=hide (B3A.out.trans (b11.mono (Nat.le_trans hs4 hzX3)))
 have R111:=hide (rowEnt_below R3.out B3B.out)
 have HAK11:=hide ((b11.block _ (by have:=heap_lt HAK4.out;omega)).trans HAK10.out)
 have K2:=hide (rowEnt_rows r11).2
 clear r11 b11
 go_wp2_with fail
 refine (heldEntryS_any a5 c5 L 1 _ hLs HIL.out (by omega) (by omega) K2.out).mono ?_
 rintro e w12 ⟨rfl,b12⟩
 rw [HKM.out]
 have HW12:=hide (HW11.out.trans (b12.mono HW11.out.size))
 have R112:=hide (rowEnt_below R111.out b12)
 have K3:=hide (entriesAt_keep K2.out b12)
 have HAK12:=hide ((b12.block _ (heap_lt HAK11.out)).trans HAK11.out)
 obtain ⟨hy0,hy1,hy2,hy3,hy4,-⟩:=five_cells HAK12.out
 clear b12
 go_wp2_with fail
 refine (toEngine_any fs ao ad cap cd room act seq dir _ hl (filesAt_keep HF.out HW12.out) hld (spotsAt_keep HD.out HW12.out)).mono ?_
 rintro e w13 ⟨⟨a13,d13,rfl,hf13,hd13⟩,b13⟩
 have HW13:=hide (HW12.out.trans (b13.mono HW12.out.size))
 have B13:=hide b13
 have HF13:=hide hf13
 have HD13:=hide hd13
 clear b13 hf13 hd13 hy0 hy1 hy2 hy3 hy4
 go_wp2_with fail
 refine (HIm.out _ _ _ HF13.out HD13.out (sumTab_later HW13.out HT.out)).mono ?_
 rintro e w14 ⟨⟨v3,rfl,r14⟩,b14⟩
 obtain ⟨a14,c14,rfl,-⟩:=rowEnt_at r14
 have R14:=hide r14
 have B14:=hide (B13.out.trans (b14.mono B13.out.size))
 clear r14 b14
 go_wp2_with fail
 refine (eqEntryS_same L a14 a1 c14 c1 _ hLl HIL.out (rowEnt_rows R14.out).2 (rowEnt_rows (rowEnt_below R112.out B14.out)).2).mono ?_
 rintro e w15 ⟨rfl,b15⟩
 have B15:=hide (B14.out.trans (b15.mono B14.out.size))
 clear b15
 go_wp2_with fail
 refine (heldEntryS_any a5 c5 L 1 _ hLs HIL.out (by omega) (by omega) (entriesAt_keep K3.out B15.out)).mono ?_
 rintro e w16 ⟨rfl,b16⟩
 rw [HKM.out]
 have B16:=hide (B15.out.trans (b16.mono B15.out.size))
 clear b16
 go_wp2
 go_ret
 exact ⟨rfl,HW12.out.trans (B16.out.mono HW12.out.size)⟩
end Go.Proofs.YtbenmgokhklnjaaGreatDoor
namespace Go.Proofs.YtbenmgokhklnjaaGreatDoor
open Go.RowKit Go.ChangeShapes Go.WideShapes Go.Deep
theorem file_of {H:Type} {enc:TypeId × Value→H} {w:World} {fuel:Nat} {cs:List Value} {x:DataW H × List MemPlace} (h:DataW.trod enc Tryz.prog w 0 (fun _ => true) true fuel 103 cs=some x) :
  ∃ F:FileD,cs=[.string F.name,.string F.text,.int .i64 F.kept]∧F.name.size≤maxLen∧F.text.size≤maxLen:=by
 obtain ⟨y0,y1,y2,n,hx,hl,h0,h1,h2⟩:=trod_struct3 Tryz.underlying103 h
 have hc:Tryz.prog.cellsOf 103=3:=by kernel_rfl
 have k0:Tryz.prog.cellsOf 9=1:=by kernel_rfl
 have k1:Tryz.prog.cellsOf 3=1:=by kernel_rfl
 rw [hc] at hl
 match cs,hl with
 | [v0,v1,v2],_ =>
  simp only [k0,k1] at h0 h1 h2
  obtain ⟨s0,e0,_,z0⟩:=DataW.trod_string Tryz.underlying9 h0
  obtain ⟨s1,e1,_,z1⟩:=DataW.trod_string Tryz.underlying9 h1
  obtain ⟨x2,e2,_,_⟩:=DataW.trod_int Tryz.underlying3 h2
  simp at e0 e1 e2
  subst e0 e1 e2
  exact ⟨⟨s0,s1,x2⟩,rfl,z0,z1⟩
end Go.Proofs.YtbenmgokhklnjaaGreatDoor
namespace Go.Proofs.YtbenmgokhklnjaaGreatDoor
open Go.RowKit Go.ChangeShapes Go.WideShapes Go.Deep Go.Joins
theorem files_in {H:Type} {enc:TypeId × Value→H} {w:World} {n:Nat} {c0:Value} {y0:DataW H × List MemPlace} (h0':DataW.trod enc Tryz.prog w 0 (fun _ => true) true n 22 [c0]=some y0) :
  ∃ (ao:Option Addr) (fs:List FileD) (cap:Nat),c0=.slice ao fs.length cap∧fs.length≤maxLen∧FilesAt w ao fs∧∀ F ∈ fs,F.name.size≤maxLen∧F.text.size≤maxLen:=by
 have hc:Tryz.prog.cellsOf 103=3:=by kernel_rfl
 rcases open_slice Tryz.underlying22 h0' with ⟨e,_⟩ | ⟨a,len,cap,m,n',D,Pl,e,_,hle,hmx,hm,_,hel⟩
 ·
  simp at e
  subst e
  exact ⟨none,[],0,rfl,by unfold maxLen;simp,fun j hj => absurd hj (by simp),fun F hF => absurd hF List.not_mem_nil⟩
 ·
  simp at e
  subst e
  rw [hc] at hel
  have hm':len≤m:=by rw [hm];simpa using hle
  have hch:∀ i,i < len→∃ F:FileD,w.cells? 0 (a.add (i * 3)) 3=some [.string F.name,.string F.text,.int .i64 F.kept]∧F.name.size≤maxLen∧F.text.size≤maxLen:=by
   intro i hi
   obtain ⟨cs',g1,g2⟩:=hel i (by omega)
   obtain ⟨F,rfl,z0,z1⟩:=file_of g2
   exact ⟨F,g1,z0,z1⟩
  haveI:Inhabited FileD:=⟨⟨⟨#[]⟩,⟨#[]⟩,0⟩⟩
  obtain ⟨G,hG⟩:=choose_lt hch
  refine ⟨some a,(List.range len).map G,cap,by simp,by simp;omega,?_,?_⟩
  ·
   intro j hj
   have hj':j < len:=by simpa using hj
   obtain ⟨g1,_,_⟩:=hG j hj'
   obtain ⟨_,_,hcell⟩:=World.cells?_some g1
   have q0:=hcell 0 (by omega)
   have q1:=hcell 1 (by omega)
   have q2:=hcell 2 (by omega)
   obtain ⟨b,off,spot⟩:=a
   have hspot:spot=none:=by
    obtain ⟨_,_,hcell0⟩:=World.cells?_some (hG 0 (by omega)).1
    have q:=hcell0 0 (by omega)
    simpa [Addr.add] using World.cell?_spot q
   subst hspot
   have ha:∀ o i,((⟨b,o,none⟩:Addr).add i)=⟨b,o+i,none⟩:=by intro o i;cases i <;> simp [Addr.add]
   simp only [ha] at q0 q1 q2
   refine ⟨b,off,rfl,?_,?_,?_,?_⟩
   ·
    rcases Nat.lt_or_ge b w.heap.size with h | h
    · exact h
    ·
     unfold World.cell? at q0
     rw [show w.heap[(⟨b,off+j * 3+0,none⟩:Addr).block]? = none from Array.getElem?_eq_none h] at q0
     cases q0
   · simpa using q0
   · simpa using q1
   · simpa using q2
  ·
   intro F hF
   obtain ⟨i,hi,rfl⟩:=List.mem_map.1 hF
   exact (hG i (by simpa using hi)).2
theorem spots_in {H:Type} {enc:TypeId × Value→H} {w:World} {fuel:Nat} {c0:Value} {y0:DataW H × List MemPlace} (h0':DataW.trod enc Tryz.prog w 0 (fun _ => true) true fuel 25 [c0]=some y0) :
  ∃ (ao:Option Addr) (fs:List SpotD) (cap:Nat),c0=.slice ao fs.length cap∧fs.length≤maxLen∧SpotsAt w ao fs∧∀ A ∈ fs,A.key.size≤maxLen:=by
 have hc:Tryz.prog.cellsOf 71=4:=by kernel_rfl
 rcases open_slice Tryz.underlying25 h0' with ⟨e,_⟩ | ⟨a,len,cap,m,n',D,Pl,e,_,hle,hmx,hm,_,hel⟩
 ·
  simp at e
  subst e
  exact ⟨none,[],0,rfl,by unfold maxLen;simp,fun j hj => absurd hj (by simp),fun F hF => absurd hF List.not_mem_nil⟩
 ·
  simp at e
  subst e
  rw [hc] at hel
  have hm':len≤m:=by rw [hm];simpa using hle
  have hch:∀ i,i < len→∃ A:SpotD,w.cells? 0 (a.add (i * 4)) 4=some [.string A.key,.int .i64 A.seg,.int .i64 A.pos,.int .i64 A.seq]∧A.key.size≤maxLen:=by
   intro i hi
   obtain ⟨cs',g1,g2⟩:=hel i (by omega)
   obtain ⟨A,rfl,z0⟩:=spot_in g2
   exact ⟨A,g1,z0⟩
  haveI:Inhabited SpotD:=⟨⟨⟨#[]⟩,0,0,0⟩⟩
  obtain ⟨G,hG⟩:=choose_lt hch
  refine ⟨some a,(List.range len).map G,cap,by simp,by simp;omega,?_,?_⟩
  ·
   intro j hj
   have hj':j < len:=by simpa using hj
   have g1:=(hG j hj').1
   obtain ⟨_,_,hcell⟩:=World.cells?_some g1
   have q0:=hcell 0 (by omega)
   have q1:=hcell 1 (by omega)
   have q2:=hcell 2 (by omega)
   have q3:=hcell 3 (by omega)
   obtain ⟨b,off,spot⟩:=a
   have hspot:spot=none:=by
    obtain ⟨_,_,hcell0⟩:=World.cells?_some (hG 0 (by omega)).1
    have q:=hcell0 0 (by omega)
    simpa [Addr.add] using World.cell?_spot q
   subst hspot
   have ha:∀ o i,((⟨b,o,none⟩:Addr).add i)=⟨b,o+i,none⟩:=by intro o i;cases i <;> simp [Addr.add]
   simp only [ha] at q0 q1 q2 q3
   refine ⟨b,off,rfl,?_,?_,?_,?_,?_⟩
   ·
    rcases Nat.lt_or_ge b w.heap.size with h | h
    · exact h
    ·
     unfold World.cell? at q0
     rw [show w.heap[(⟨b,off+j * 4+0,none⟩:Addr).block]? = none from Array.getElem?_eq_none h] at q0
     cases q0
   · simpa using q0
   · simpa using q1
   · simpa using q2
   · simpa using q3
  ·
   intro A hA
   obtain ⟨i,hi,rfl⟩:=List.mem_map.1 hA
   exact (hG i (by simpa using hi)).2
theorem engine_of {H:Type} {enc:TypeId × Value→H} {w:World} {base:Nat} {v:Value} {d:DataW H} {p:List MemPlace} (hv:Value.okWide Tryz.prog w .any base 27 v)
  (h:DataW.Trod enc Tryz.prog w 0 (fun _ => true) true 27 v d p) :
  ∃ (ao:Option Addr) (fs:List FileD) (cap:Nat) (room act seq:Int) (ad:Option Addr) (dir:List SpotD) (cd:Nat),v=.agg #[.slice ao fs.length cap,.int .i64 room,.int .i64 act,.int .i64 seq,.slice ad dir.length cd] ∧
   fs.length≤maxLen∧FilesAt w ao fs∧(∀ F ∈ fs,F.name.size≤maxLen∧F.text.size≤maxLen)∧dir.length≤maxLen∧SpotsAt w ad dir∧∀ A ∈ dir,A.key.size≤maxLen:=by
 have hd:Tryz.prog.cellsOf 27=5:=by kernel_rfl
 have hk:Tryz.prog.cellsOf 24=1:=by kernel_rfl
 have hi:Tryz.prog.cellsOf 3=1:=by kernel_rfl
 have hs:Tryz.prog.cellsOf 25=1:=by kernel_rfl
 have hf:Tryz.prog.cellsOf 22=1:=by kernel_rfl
 obtain ⟨cs,rfl,hsz⟩:=okWide_struct Tryz.underlying27 hv
 rw [hd] at hsz
 obtain ⟨l⟩:=cs
 match l,hsz with
 | [c0,c1,c2,c3,c4],_ =>
  obtain ⟨fuel,hh⟩:=h
  obtain ⟨xs,n,_,_,_,hlen,hfl⟩:=DataW.trod_struct Tryz.underlying27 hh
  match xs,hlen with
  | [y0,y1,y2,y3,y4],_ =>
   have t0:DataW.trod enc Tryz.prog w 0 (fun _ => true) true n 24 [c0]=some y0:=by
    have q:=hfl 0 _ rfl
    simpa [hk,Value.cells] using q
   have t1:DataW.trod enc Tryz.prog w 0 (fun _ => true) true n 3 [c1]=some y1:=by
    have q:=hfl 1 _ rfl
    simpa [hi,Value.cells] using q
   have t2:DataW.trod enc Tryz.prog w 0 (fun _ => true) true n 3 [c2]=some y2:=by
    have q:=hfl 2 _ rfl
    simpa [hi,Value.cells] using q
   have t3:DataW.trod enc Tryz.prog w 0 (fun _ => true) true n 3 [c3]=some y3:=by
    have q:=hfl 3 _ rfl
    simpa [hi,Value.cells] using q
   have t4:DataW.trod enc Tryz.prog w 0 (fun _ => true) true n 25 [c4]=some y4:=by
    have q:=hfl 4 _ rfl
    simpa [hs,Value.cells] using q
   obtain ⟨z0,n0,_,_,u0⟩:=trod_struct1 Tryz.underlying24 t0
   simp only [hf] at u0
   obtain ⟨ao,fs,cap,e0,l0,f0,s0⟩:=files_in (c0:=c0) u0
   obtain ⟨x1,e1,_,_⟩:=DataW.trod_int Tryz.underlying3 t1
   obtain ⟨x2,e2,_,_⟩:=DataW.trod_int Tryz.underlying3 t2
   obtain ⟨x3,e3,_,_⟩:=DataW.trod_int Tryz.underlying3 t3
   obtain ⟨ad,dir,cd,e4,l4,f4,s4⟩:=spots_in (c0:=c4) t4
   simp at e1 e2 e3
   subst e0 e1 e2 e3 e4
   exact ⟨ao,fs,cap,x1,x2,x3,ad,dir,cd,rfl,l0,f0,s0,l4,f4,s4⟩
end Go.Proofs.YtbenmgokhklnjaaGreatDoor
