import Derived.Test.YtepdckehokdjlaaGreatDoorMg40
import Derived.Test.YtepdckehokdjlaaGreatDoorMg31
import Derived.Test.YtepdckehokdjlaaGreatDoorMg37
import Derived.Test.YtepdckehokdjlaaGreatDoorMg10
import Derived.Test.YtepdckehokdjlaaGreatDoorMg21
import Derived.Test.YtepdckehokdjlaaGreatDoorMg42
import Derived.Test.YtepdckehokdjlaaGreatDoorMg32
import Derived.Test.YtepdckehokdjlaaGreatDoorMg33
import Derived.Test.YtepdckehokdjlaaGreatDoorMg24
import Derived.Test.YtepdckehokdjlaaGreatDoorMg6
import Derived.Test.YtepdckehokdjlaaGreatDoorMg28
set_option maxRecDepth 100000
set_option maxHeartbeats 4000000
namespace Go.Proofs.YtepdckehokdjlaaGreatDoor
open Go.RowKit
theorem noActs (w:World) (B:Nat) (hB:B≤w.heap.size):RowAct (w.alloc (.cells #[] 51)) B (.slice (some ⟨w.heap.size,0,none⟩) 0 0) [] :=
 .inr ⟨w.heap.size,0,#[],rfl,hB,heap_alloc_new _ _,Nat.zero_le _,fun j hj => absurd hj (by simp)⟩
theorem acts_boxM {W W6:World} {β B:Nat} {v:Value} {gs:List ActD} {C:Array Value} (h:RowAct W B v gs) (hb:W.heap[β]? = some (.cells C 34 (0,0))) (hg:W.grownBy W6 (some β)):RowAct W6 B v gs:=by
 refine rowAct_grown h hg (fun g e e2 => ?_)
 rcases h with ⟨rfl,-⟩ | ⟨g',cap,C',rfl,-,hC,-⟩
 · cases e
 ·
  obtain rfl:g' = g:=by simpa [Value.ownBlock] using e
  obtain rfl:g' = β:=by simpa using e2
  rw [hC] at hb
  simp at hb
theorem specMerge_any (fs:List FileD) (ao ad:Option Addr) (cap cd:Nat) (room act seq:Int) (dir:List SpotD) (w:World) (hl:fs.length≤1048576) (hfs:FilesAt w ao fs) (hsz:∀ F ∈ fs,F.name.size≤1048576∧F.text.size≤1048576) (hld:dir.length≤1048576) (hds:SpotsAt w ad dir) :
  Calls Tryz.prog 5 #[.agg #[.slice ao fs.length cap,.int .i64 room,.int .i64 act,.int .i64 seq,.slice ad dir.length cd]] w fun e w' => MrgPost fs room act seq dir w e w':=by
 have HMA:=hide (fun W h1 h2 => specMergeActs_any fs ao ad cap cd room act seq dir W hl h1 hsz hld h2)
 have HF:=hide hfs
 have HD:=hide hds
 have HS:=hide hsz
 clear hfs hds hsz
 obtain ⟨wb,hwb⟩:∃ wb,wb=(w.alloc (.cells #[.slice ao fs.length cap,.int .i64 room,.int .i64 act,.int .i64 seq,.slice ad dir.length cd] 34)).alloc (.cells #[.slice none 0 0,.int .i64 0,.int .i64 0,.int .i64 0,.slice none 0 0] 34):=⟨_,rfl⟩
 have HB0:Hid (Below w.heap.size w wb):=by rw [hwb];exact ((Below.refl _ w).alloc (Nat.le_refl _) _).alloc (by simp) _
 have HBE:Hid (wb.heap[w.heap.size+1]? = some (.cells #[.slice none 0 0,.int .i64 0,.int .i64 0,.int .i64 0,.slice none 0 0] 34 (0,0))):=by
  show _=_
  rw [hwb,show w.heap.size+1=(w.alloc (.cells #[.slice ao fs.length cap,.int .i64 room,.int .i64 act,.int .i64 seq,.slice ad dir.length cd] 34)).heap.size from by simp]
  exact heap_alloc_new _ _
 have HBK:Hid (wb.heap[w.heap.size]? = some (.cells #[.slice ao fs.length cap,.int .i64 room,.int .i64 act,.int .i64 seq,.slice ad dir.length cd] 34 (0,0))):=by
  show _=_
  rw [hwb]
  exact (((Below.refl _ _).alloc (Nat.le_refl _) _).block _ (by simp)).trans (heap_alloc_new w _)
 obtain ⟨hz0,hz1,hz2,hz3,hz4,-⟩:=five_cells HBK.out
 go_enter Tryz.func5,Tryz.ntmps5
 go_wp2_with fail
 rw [← hwb]
 clear hwb
 refine (HMA.out _ (filesAt_keep HF.out HB0.out) (spotsAt_keep HD.out HB0.out)).mono ?_
 rintro e w1 ⟨⟨va,rfl,hra⟩,b1⟩
 have B1:=hide (HB0.out.trans (b1.mono HB0.out.size))
 have HE1:=hide ((b1.block _ (heap_lt HBE.out)).trans HBE.out)
 have HK1:=hide ((b1.block _ (heap_lt HBK.out)).trans HBK.out)
 obtain ⟨aa,ca,rfl,hat⟩:=rowAct_at hra
 have HRA:=hide (rowAct_le hra HB0.out.size)
 have HAT:=hide hat
 clear b1 hra hat hz0 hz1 hz2 hz3 hz4 HMA
 cases hmo:mergOk fs room act seq dir with
 | false =>
  have hno:=hide (mrgOk_none (mrgG_no hmo))
  rw [mergE_no hmo]
  clear hmo HRA HAT
  obtain ⟨wE,hwE⟩:∃ wE,wE=w1.alloc (.cells #[] 51):=⟨_,rfl⟩
  have bE:Below w1.heap.size w1 wE:=by rw [hwE];exact (Below.refl _ _).alloc (Nat.le_refl _) _
  have BE:=hide (B1.out.trans (bE.mono B1.out.size))
  have HEE:=hide ((bE.block _ (heap_lt HE1.out)).trans HE1.out)
  have HAE:Hid (RowAct wE w.heap.size (.slice (some ⟨w1.heap.size,0,none⟩) 0 0) []):=by
   show RowAct _ _ _ _
   rw [hwE]
   exact noActs w1 w.heap.size B1.out.size
  clear bE
  obtain ⟨z0,z1,z2,z3,z4,f0,f1,f2,f3,f4⟩:=five_cells HEE.out
  subst hwE
  go_wp2
  clear z0 z1 z2 z3 z4 f0 f1 f2 f3 f4
  obtain ⟨y0,y1,y2⟩:=box5 (.slice none 0 0) (.int .i64 0) (.int .i64 0) (.int .i64 0) (.slice none 0 0) HEE.out BE.out (Nat.le_succ _) _ rfl
  obtain ⟨x0,x1,x2,x3,x4,-⟩:=five_cells y0
  refine bodyPost_ret (v:=.tuple #[.agg #[.slice none 0 0,.int .i64 0,.int .i64 0,.int .i64 0,.slice none 0 0],.slice (some ⟨w1.heap.size,0,none⟩) 0 0,.bool false]) ?_ rfl ?_
  · simp [results,Tryz.results5,go_sem,x0,x1,x2,x3,x4]
  · exact mrg_no (hno.out) y1 (acts_boxM HAE.out HEE.out y2)
 | true =>
  have HG0:=hide (mrgG_yes hmo)
  obtain ⟨hroom,hdok,-⟩:=mergOk_right hmo
  have hrm:100≤room∧room≤20000:=by unfold roomB at hroom;simpa using hroom
  have HSA:=hide (mergE_szM fs room act seq dir)
  have hLl:=mergE_len fs room act seq dir
  have HYES:Hid (∀ g (w':World) (vd vr va:Value),mrgG fs room act seq dir=some g→openSB g room=true→Below w.heap.size w w'→RowF w' w.heap.size vd (actsF g (actsS g)).1→RowSpot w' w.heap.size vr (dirD g)→RowAct w' w.heap.size va (mergE fs room act seq dir)→MrgPost fs room act seq dir w (.returned (.tuple #[.agg #[vd,.int .i64 room,.int .i64 ((lastG g).num:Int),.int .i64 (seqD (segsL g)),vr],va,.bool true])) w'):=fun g w' vd vr va h1 h2 h3 h4 h5 h6 => mrg_yes h1 h2 h3 h4 h5 h6
  obtain ⟨O,HO⟩:∃ O,Hid (mrgG fs room act seq dir=O):=⟨_,hide rfl⟩
  have HNO:Hid (O=none→mrgOk fs room act seq dir=false):=fun h => mrgOk_none (HO.out.trans h)
  have HNO2:Hid (∀ g,O=some g→openSB g room=false→mrgOk fs room act seq dir=false):=fun g h h2 => by unfold mrgOk;rw [HO.out.trans h];exact h2
  rw [HO.out] at HG0 HYES
  generalize mergE fs room act seq dir=L at HRA HAT HSA hLl HG0 HYES ⊢
  clear hmo hroom
  obtain ⟨o,ho⟩:∃ o,o=w1.heap.size:=⟨_,rfl⟩
  obtain ⟨w2,hw2⟩:∃ w2,w2=w1.alloc (.cells #[.slice ao fs.length cap] 31):=⟨_,rfl⟩
  have b2:Below w1.heap.size w1 w2:=by rw [hw2];exact (Below.refl _ _).alloc (Nat.le_refl _) _
  have B2:=hide b2
  have O_w2:Hid (w2.heap[o]? = some (.cells #[.slice ao fs.length cap] 31 (0,0))):=by rw [hw2,ho];exact heap_alloc_new _ _
  have hoge:w1.heap.size≤o:=by omega
  obtain ⟨hz0,hz1,hz2,hz3,hz4,-⟩:=five_cells HK1.out
  go_wp2_with fail
  rw [← hw2]
  rw [← ho]
  clear ho hw2 b2 hz0 hz1 hz2 hz3 hz4 HBE HBK
  go_loopw [8] (fun ii wr => ∃ (k:Nat) (G:List FileD) (av:Option Addr) (cv:Nat),ii=.int .i64 k∧k≤L.length∧G.length≤1048576∧Hid (∀ F ∈ G,F.name.size≤1048576∧F.text.size≤1048576)∧Hid (stepsD room G (L.drop k)=O)∧o < wr.heap.size∧Hid (wr.heap[o]? = some (.cells #[.slice av G.length cv] 31 (0,0)))∧Hid (FilesAt wr av G)∧Hid (Below w1.heap.size w1 wr)) (fun ii _ => L.length - (intOf ii).toNat)
  case atStart => exact ⟨0,fs,ao,cap,rfl,Nat.zero_le _,hl,HS,by show _=_;rw [List.drop_zero];exact HG0.out.symm,heap_lt O_w2.out,O_w2,filesAt_keep HF.out (B1.out.trans (B2.out.mono B1.out.size)),B2⟩
  case round =>
   obtain ⟨k,G,av,cv,rfl,hk,hGl,HGs,HST,how,HV,HFr,HB1⟩:=hrel
   have HV0:=hide (box_of HV.out)
   by_cases hlt:k < L.length
   ·
    have hlt':decide ((k:Int) < (L.length:Int))=true:=by simp;omega
    obtain ⟨b,off,rfl,hbw,hc0,hc1,hc2,hc3⟩:=actsAt_keep HAT.out HB1.out k hlt
    have hsA:=HSA.out L[k] (List.getElem_mem hlt)
    obtain ⟨A,HAk⟩:∃ A,Hid (L[k]=A):=⟨L[k],hide rfl⟩
    rw [HAk.out] at hc0 hc1 hc2 hc3 hsA
    obtain ⟨hA1,hA2,hA3⟩:=hsA
    have hi0:(0:Int)≤(k:Int):=by omega
    have hi1:(k:Int) < (L.length:Int):=by omega
    have HBW0:=hide hbw
    have hV0:=HV0.out
    clear hbw
    have KS:Hid (∀ W,Below wr.heap.size wr W→(W.cell? ⟨o,0,none⟩=some (.slice av G.length cv)∧W.cell? ⟨b,off+k * 4,none⟩=some (.int .i64 A.kind)∧W.cell? ⟨b,off+k * 4+1,none⟩=some (.string A.name)∧W.cell? ⟨b,off+k * 4+2,none⟩=some (.string A.text)∧W.cell? ⟨b,off+k * 4+3,none⟩=some (.string A.toN))):=fun W hW => ⟨(hW.cell (p:=⟨o,0,none⟩) how).trans hV0,(hW.cell (p:=⟨b,off+k * 4,none⟩) HBW0.out).trans hc0,(hW.cell (p:=⟨b,off+k * 4+1,none⟩) HBW0.out).trans hc1,(hW.cell (p:=⟨b,off+k * 4+2,none⟩) HBW0.out).trans hc2,(hW.cell (p:=⟨b,off+k * 4+3,none⟩) HBW0.out).trans hc3⟩
    have HF1:Hid (FilesAt wr.drew av G):=HFr.out
    have HF2:Hid (FilesAt (wr.alloc (.cells #[.slice none 0 0] 31)).drew av G):=filesAt_keep HFr.out (((Below.refl _ wr).alloc (Nat.le_refl _) _).drew)
    go_wp2_with fail
    go_region_held3 (fun w' => w'.cell? ⟨o,0,none⟩=some (.slice av G.length cv)∧w'.cell? ⟨b,off+k * 4,none⟩=some (.int .i64 A.kind)∧w'.cell? ⟨b,off+k * 4+1,none⟩=some (.string A.name)∧w'.cell? ⟨b,off+k * 4+2,none⟩=some (.string A.text)∧w'.cell? ⟨b,off+k * 4+3,none⟩=some (.string A.toN)) (first | (exact KS.out _ ((Below.refl _ _).drew)) | (exact KS.out _ (((Below.refl _ wr).alloc (Nat.le_refl _) _).drew)) | (exact KS.out _ bW) | (exact KS.out _ (bW.alloc bW.size _)) | (exact KS.out _ (bW.setCell (p:=⟨wr.heap.size,0,none⟩) (Nat.le_refl _) _))) ((first | (go_at_call 17;refine (specAct_any G _ _ A _ hGl HF1.out HGs.out hA1 hA2 hA3).mono ?_;rintro e w3 ⟨v3,rfl,hrow3,b3⟩;obtain ⟨a3,c3,rfl,_⟩:=rowF_at hrow3;have bW:Below wr.heap.size wr w3:=(Below.refl _ _).drew.trans b3) | (go_at_call 17;refine (specAct_any G _ _ A _ hGl HF2.out HGs.out hA1 hA2 hA3).mono ?_;rintro e w3 ⟨v3,rfl,hrow3,b3⟩;obtain ⟨a3,c3,rfl,_⟩:=rowF_at hrow3;have bW:Below wr.heap.size wr w3:=(((Below.refl _ wr).alloc (Nat.le_refl _) _).drew).trans (b3.mono (by simp));have hq3:w3.heap[wr.heap.size]? = some (.cells #[.slice none 0 0] 31 (0,0)):=(b3.block _ (by simp)).trans (heap_alloc_new wr _);have hq4:=box_of hq3;have hq5:=frozen_of_row w3 wr.heap.size 0 _ _ hq3)))
    ·
     obtain ⟨β,hβ⟩:∃ β,β=w3.heap.size:=⟨_,rfl⟩
     obtain ⟨wN,hwN⟩:∃ wN,wN=w3.alloc (.cells #[.slice a3 ((actD G A).getD []).length c3] 31):=⟨_,rfl⟩
     have HBN:Hid (Below wr.heap.size wr wN):=by rw [hwN];exact bW.alloc bW.size _
     have NN:Hid (wN.heap[β]? = some (.cells #[.slice a3 ((actD G A).getD []).length c3] 31 (0,0))):=by rw [hwN,hβ];exact heap_alloc_new _ _
     have PN:Hid (RowF wN wr.heap.size (.slice a3 ((actD G A).getD []).length c3) ((actD G A).getD [])):=by rw [hwN];exact rowF_below hrow3 ((Below.refl _ _).alloc (Nat.le_refl _) _)
     rw [← hwN]
     rw [← hβ]
     clear hwN hβ hrow3 b3 bW HF1 HF2 hV0
     have HBW:Hid (Below w.heap.size w wN):=B1.out.trans ((HB1.out.trans (HBN.out.mono HB1.out.size)).mono B1.out.size)
     have HBN1:Hid (Below w1.heap.size w1 wN):=HB1.out.trans (HBN.out.mono HB1.out.size)
     have HEN:=hide ((HBN1.out.block _ (heap_lt HE1.out)).trans HE1.out)
     have HKN:=hide ((HBN1.out.block _ (heap_lt HK1.out)).trans HK1.out)
     have HVN:=hide ((HBN.out.block _ how).trans HV.out)
     have hoN:o < wN.heap.size:=heap_lt HVN.out
     clear hc0 hc1 hc2 hc3 KS HV0
     cases hact:actD G A with
     | none =>
      have HON:Hid (O=none):=by show _=_;rw [← HST.out];exact stepsD_no hlt (by rw [HAk.out];exact hact)
      have hb:Option.isSome (none:Option (List FileD))=false:=rfl
      rw [hact] at NN PN
      have hN0:=box_of NN.out
      go_wp2_with fail
      go_quiet (fail)
      generalize hwD:World.drewN _ _=wD
      have bD:Below wN.heap.size wN wD:=by rw [← hwD];exact drewN_below _ _
      have HED:=hide ((bD.block _ (heap_lt HEN.out)).trans HEN.out)
      have HBD:=hide (HBW.out.trans (bD.mono HBW.out.size))
      clear bD hwD
      obtain ⟨wE,hwE⟩:∃ wE,wE=wD.alloc (.cells #[] 51):=⟨_,rfl⟩
      have bE:Below wD.heap.size wD wE:=by rw [hwE];exact (Below.refl _ _).alloc (Nat.le_refl _) _
      have BE:=hide (HBD.out.trans (bE.mono HBD.out.size))
      have HEE:=hide ((bE.block _ (heap_lt HED.out)).trans HED.out)
      have HAE:Hid (RowAct wE w.heap.size (.slice (some ⟨wD.heap.size,0,none⟩) 0 0) []):=by
       show RowAct _ _ _ _
       rw [hwE]
       exact noActs wD w.heap.size HBD.out.size
      clear bE
      obtain ⟨z0,z1,z2,z3,z4,f0,f1,f2,f3,f4⟩:=five_cells HEE.out
      subst hwE
      go_wp2
      clear z0 z1 z2 z3 z4 f0 f1 f2 f3 f4
      obtain ⟨y0,y1,y2⟩:=box5 (.slice none 0 0) (.int .i64 0) (.int .i64 0) (.int .i64 0) (.slice none 0 0) HEE.out BE.out (Nat.le_succ _) _ rfl
      obtain ⟨x0,x1,x2,x3,x4,-⟩:=five_cells y0
      refine bodyPost_ret (v:=.tuple #[.agg #[.slice none 0 0,.int .i64 0,.int .i64 0,.int .i64 0,.slice none 0 0],.slice (some ⟨wD.heap.size,0,none⟩) 0 0,.bool false]) ?_ rfl ?_
      · simp [results,Tryz.results5,go_sem,x0,x1,x2,x3,x4]
      · exact mrg_no (HNO.out HON.out) y1 (acts_boxM HAE.out HEE.out y2)
     | some g =>
      obtain ⟨hgd,hgl,hgs⟩:=actD_szM hact
      have HGS2:=hide hgs
      have hb:Option.isSome (some g)=true:=rfl
      have hgd0:((some g:Option (List FileD)).getD [])=g:=rfl
      rw [hact,hgd0] at NN PN
      rw [hgd0]
      have HFN:=hide (rowF_files PN.out)
      have hN0:=box_of NN.out
      have hNl:=heap_lt NN.out
      have hKl:=heap_lt HKN.out
      obtain ⟨-,hk1,-⟩:=five_cells HKN.out
      have hUz:=usedL_le hgs
      have hUz2:g.length * 1048576≤30 * 1048576:=Nat.mul_le_mul_right _ hgl
      have KN:Hid (∀ W,Below wN.heap.size wN W→(W.cell? ⟨w.heap.size,1,none⟩=some (.int .i64 room)∧W.cell? ⟨β,0,none⟩=some (.slice a3 g.length c3))):=fun W hW => ⟨(hW.cell (p:=⟨w.heap.size,1,none⟩) hKl).trans hk1,(hW.cell (p:=⟨β,0,none⟩) hNl).trans hN0⟩
      have HLU:=hide (fun W (hW:Below wN.heap.size wN W) => l08Used_any g a3 c3 W (by omega) (filesAt_keep HFN.out hW) HGS2.out)
      obtain ⟨U,HU0⟩:∃ U,Hid (usedL g=U):=⟨_,hide rfl⟩
      rw [HU0.out] at HLU hUz
      clear hgs
      by_cases hru:room < (U:Int)
      ·
       have hru':decide (room < (U:Int))=true:=by simp;omega
       have HON:Hid (O=none):=by show _=_;rw [← HST.out];exact stepsD_full hlt (by rw [HAk.out];exact hact) (by rw [HU0.out];exact hru)
       go_wp2_with fail
       go_region_held3 (fun w' => w'.cell? ⟨w.heap.size,1,none⟩=some (.int .i64 room)∧w'.cell? ⟨β,0,none⟩=some (.slice a3 g.length c3)) (first | (exact KN.out _ ((Below.refl _ _).drew)) | (exact KN.out _ bU) | fail) ((go_at_call 18;refine (HLU.out _ ((Below.refl _ _).drew)).mono ?_;rintro e w5 ⟨rfl,b5⟩;have bU:Below wN.heap.size wN w5:=(Below.refl _ _).drew.trans b5))
       have HB5:=hide (HBW.out.trans (bU.mono HBW.out.size))
       have HE5:=hide ((bU.block _ (heap_lt HEN.out)).trans HEN.out)
       clear bU b5
       obtain ⟨wE,hwE⟩:∃ wE,wE=w5.alloc (.cells #[] 51):=⟨_,rfl⟩
       have bE:Below w5.heap.size w5 wE:=by rw [hwE];exact (Below.refl _ _).alloc (Nat.le_refl _) _
       have BE:=hide (HB5.out.trans (bE.mono HB5.out.size))
       have HEE:=hide ((bE.block _ (heap_lt HE5.out)).trans HE5.out)
       have HAE:Hid (RowAct wE w.heap.size (.slice (some ⟨w5.heap.size,0,none⟩) 0 0) []):=by
        show RowAct _ _ _ _
        rw [hwE]
        exact noActs w5 w.heap.size HB5.out.size
       clear bE
       obtain ⟨z0,z1,z2,z3,z4,f0,f1,f2,f3,f4⟩:=five_cells HEE.out
       subst hwE
       go_wp2
       clear z0 z1 z2 z3 z4 f0 f1 f2 f3 f4
       obtain ⟨y0,y1,y2⟩:=box5 (.slice none 0 0) (.int .i64 0) (.int .i64 0) (.int .i64 0) (.slice none 0 0) HEE.out BE.out (Nat.le_succ _) _ rfl
       obtain ⟨x0,x1,x2,x3,x4,-⟩:=five_cells y0
       refine bodyPost_ret (v:=.tuple #[.agg #[.slice none 0 0,.int .i64 0,.int .i64 0,.int .i64 0,.slice none 0 0],.slice (some ⟨w5.heap.size,0,none⟩) 0 0,.bool false]) ?_ rfl ?_
       · simp [results,Tryz.results5,go_sem,x0,x1,x2,x3,x4]
       · exact mrg_no (HNO.out HON.out) y1 (acts_boxM HAE.out HEE.out y2)
      ·
       have hru':decide (room < (U:Int))=false:=by simp;omega
       have HST2:Hid (stepsD room g (L.drop (k+1))=O):=by show _=_;rw [← HST.out];exact (stepsD_yes hlt (by rw [HAk.out];exact hact) (by rw [HU0.out];exact hru)).symm
       go_wp2_with fail
       go_region_held3 (fun w' => w'.cell? ⟨w.heap.size,1,none⟩=some (.int .i64 room)∧w'.cell? ⟨β,0,none⟩=some (.slice a3 g.length c3)) (first | (exact KN.out _ ((Below.refl _ _).drew)) | (exact KN.out _ bU) | fail) ((go_at_call 18;refine (HLU.out _ ((Below.refl _ _).drew)).mono ?_;rintro e w5 ⟨rfl,b5⟩;have bU:Below wN.heap.size wN w5:=(Below.refl _ _).drew.trans b5))
       have HB5:=hide (HBN1.out.trans (bU.mono HBN1.out.size))
       have HV5:=hide ((bU.block _ hoN).trans HVN.out)
       have HF5:=hide (rowF_below PN.out bU)
       have hN5:=(bU.cell (p:=⟨β,0,none⟩) hNl).trans hN0
       have hV5:=frozen_of_row w5 o 0 _ _ HV5.out
       have ho5:=heap_lt HV5.out
       have hV50:=box_of HV5.out
       clear bU b5
       go_wp2_with fail
       go_roundw
       case rel =>
        refine ⟨k+1,g,a3,c3,by go_num,by omega,by omega,HGS2,HST2,by simp [World.setCell];omega,(heap_setCell_same _ o _ _ _ _ HV5.out).trans rfl,?_,HB5.out.setCell (p:=⟨o,0,none⟩) hoge _⟩
        exact rowF_files (rowF_grown HF5.out (grownBy_store (World.grownBy.refl _ _) 0 _) (fun g' hg' e => by have h1:=(rowF_lt PN.out g' hg').1;cases e;omega))
       case measure => simp [intOf];omega
    ·
     obtain ⟨β,hβ⟩:∃ β,β=wr.heap.size:=⟨_,rfl⟩
     have hb3:∀ g,(Value.slice a3 ((actD G A).getD []).length c3).ownBlock=some g→wr.heap.size+1≤g:=fun g hg => by have h:=(rowF_lt hrow3 g hg).1;simp at h;omega
     obtain ⟨wN,hwN⟩:∃ wN,wN=w3.setCell ⟨wr.heap.size,0,none⟩ (.slice a3 ((actD G A).getD []).length c3):=⟨_,rfl⟩
     have HBN:Hid (Below wr.heap.size wr wN):=by rw [hwN];exact bW.setCell (p:=⟨wr.heap.size,0,none⟩) (Nat.le_refl _) _
     have NN:Hid (wN.heap[β]? = some (.cells #[.slice a3 ((actD G A).getD []).length c3] 31 (0,0))):=by rw [hwN,hβ];exact (heap_setCell_same _ _ _ _ _ _ hq3).trans rfl
     have PN:Hid (RowF wN wr.heap.size (.slice a3 ((actD G A).getD []).length c3) ((actD G A).getD [])):=by rw [hwN];exact rowF_le (rowF_grown hrow3 (grownBy_store (World.grownBy.refl _ _) 0 _) (fun g hg e => by have:=hb3 g hg;cases e;omega)) (by simp)
     rw [← hwN]
     rw [← hβ]
     clear hwN hβ hrow3 b3 bW hb3 HF1 HF2 hq3 hq4 hq5 hV0
     have HBW:Hid (Below w.heap.size w wN):=B1.out.trans ((HB1.out.trans (HBN.out.mono HB1.out.size)).mono B1.out.size)
     have HBN1:Hid (Below w1.heap.size w1 wN):=HB1.out.trans (HBN.out.mono HB1.out.size)
     have HEN:=hide ((HBN1.out.block _ (heap_lt HE1.out)).trans HE1.out)
     have HKN:=hide ((HBN1.out.block _ (heap_lt HK1.out)).trans HK1.out)
     have HVN:=hide ((HBN.out.block _ how).trans HV.out)
     have hoN:o < wN.heap.size:=heap_lt HVN.out
     clear hc0 hc1 hc2 hc3 KS HV0
     cases hact:actD G A with
     | none =>
      have HON:Hid (O=none):=by show _=_;rw [← HST.out];exact stepsD_no hlt (by rw [HAk.out];exact hact)
      have hb:Option.isSome (none:Option (List FileD))=false:=rfl
      rw [hact] at NN PN
      have hN0:=box_of NN.out
      go_wp2_with fail
      go_quiet (fail)
      generalize hwD:World.drewN _ _=wD
      have bD:Below wN.heap.size wN wD:=by rw [← hwD];exact drewN_below _ _
      have HED:=hide ((bD.block _ (heap_lt HEN.out)).trans HEN.out)
      have HBD:=hide (HBW.out.trans (bD.mono HBW.out.size))
      clear bD hwD
      obtain ⟨wE,hwE⟩:∃ wE,wE=wD.alloc (.cells #[] 51):=⟨_,rfl⟩
      have bE:Below wD.heap.size wD wE:=by rw [hwE];exact (Below.refl _ _).alloc (Nat.le_refl _) _
      have BE:=hide (HBD.out.trans (bE.mono HBD.out.size))
      have HEE:=hide ((bE.block _ (heap_lt HED.out)).trans HED.out)
      have HAE:Hid (RowAct wE w.heap.size (.slice (some ⟨wD.heap.size,0,none⟩) 0 0) []):=by
       show RowAct _ _ _ _
       rw [hwE]
       exact noActs wD w.heap.size HBD.out.size
      clear bE
      obtain ⟨z0,z1,z2,z3,z4,f0,f1,f2,f3,f4⟩:=five_cells HEE.out
      subst hwE
      go_wp2
      clear z0 z1 z2 z3 z4 f0 f1 f2 f3 f4
      obtain ⟨y0,y1,y2⟩:=box5 (.slice none 0 0) (.int .i64 0) (.int .i64 0) (.int .i64 0) (.slice none 0 0) HEE.out BE.out (Nat.le_succ _) _ rfl
      obtain ⟨x0,x1,x2,x3,x4,-⟩:=five_cells y0
      refine bodyPost_ret (v:=.tuple #[.agg #[.slice none 0 0,.int .i64 0,.int .i64 0,.int .i64 0,.slice none 0 0],.slice (some ⟨wD.heap.size,0,none⟩) 0 0,.bool false]) ?_ rfl ?_
      · simp [results,Tryz.results5,go_sem,x0,x1,x2,x3,x4]
      · exact mrg_no (HNO.out HON.out) y1 (acts_boxM HAE.out HEE.out y2)
     | some g =>
      obtain ⟨hgd,hgl,hgs⟩:=actD_szM hact
      have HGS2:=hide hgs
      have hb:Option.isSome (some g)=true:=rfl
      have hgd0:((some g:Option (List FileD)).getD [])=g:=rfl
      rw [hact,hgd0] at NN PN
      rw [hgd0]
      have HFN:=hide (rowF_files PN.out)
      have hN0:=box_of NN.out
      have hNl:=heap_lt NN.out
      have hKl:=heap_lt HKN.out
      obtain ⟨-,hk1,-⟩:=five_cells HKN.out
      have hUz:=usedL_le hgs
      have hUz2:g.length * 1048576≤30 * 1048576:=Nat.mul_le_mul_right _ hgl
      have KN:Hid (∀ W,Below wN.heap.size wN W→(W.cell? ⟨w.heap.size,1,none⟩=some (.int .i64 room)∧W.cell? ⟨β,0,none⟩=some (.slice a3 g.length c3))):=fun W hW => ⟨(hW.cell (p:=⟨w.heap.size,1,none⟩) hKl).trans hk1,(hW.cell (p:=⟨β,0,none⟩) hNl).trans hN0⟩
      have HLU:=hide (fun W (hW:Below wN.heap.size wN W) => l08Used_any g a3 c3 W (by omega) (filesAt_keep HFN.out hW) HGS2.out)
      obtain ⟨U,HU0⟩:∃ U,Hid (usedL g=U):=⟨_,hide rfl⟩
      rw [HU0.out] at HLU hUz
      clear hgs
      by_cases hru:room < (U:Int)
      ·
       have hru':decide (room < (U:Int))=true:=by simp;omega
       have HON:Hid (O=none):=by show _=_;rw [← HST.out];exact stepsD_full hlt (by rw [HAk.out];exact hact) (by rw [HU0.out];exact hru)
       go_wp2_with fail
       go_region_held3 (fun w' => w'.cell? ⟨w.heap.size,1,none⟩=some (.int .i64 room)∧w'.cell? ⟨β,0,none⟩=some (.slice a3 g.length c3)) (first | (exact KN.out _ ((Below.refl _ _).drew)) | (exact KN.out _ bU) | fail) ((go_at_call 18;refine (HLU.out _ ((Below.refl _ _).drew)).mono ?_;rintro e w5 ⟨rfl,b5⟩;have bU:Below wN.heap.size wN w5:=(Below.refl _ _).drew.trans b5))
       have HB5:=hide (HBW.out.trans (bU.mono HBW.out.size))
       have HE5:=hide ((bU.block _ (heap_lt HEN.out)).trans HEN.out)
       clear bU b5
       obtain ⟨wE,hwE⟩:∃ wE,wE=w5.alloc (.cells #[] 51):=⟨_,rfl⟩
       have bE:Below w5.heap.size w5 wE:=by rw [hwE];exact (Below.refl _ _).alloc (Nat.le_refl _) _
       have BE:=hide (HB5.out.trans (bE.mono HB5.out.size))
       have HEE:=hide ((bE.block _ (heap_lt HE5.out)).trans HE5.out)
       have HAE:Hid (RowAct wE w.heap.size (.slice (some ⟨w5.heap.size,0,none⟩) 0 0) []):=by
        show RowAct _ _ _ _
        rw [hwE]
        exact noActs w5 w.heap.size HB5.out.size
       clear bE
       obtain ⟨z0,z1,z2,z3,z4,f0,f1,f2,f3,f4⟩:=five_cells HEE.out
       subst hwE
       go_wp2
       clear z0 z1 z2 z3 z4 f0 f1 f2 f3 f4
       obtain ⟨y0,y1,y2⟩:=box5 (.slice none 0 0) (.int .i64 0) (.int .i64 0) (.int .i64 0) (.slice none 0 0) HEE.out BE.out (Nat.le_succ _) _ rfl
       obtain ⟨x0,x1,x2,x3,x4,-⟩:=five_cells y0
       refine bodyPost_ret (v:=.tuple #[.agg #[.slice none 0 0,.int .i64 0,.int .i64 0,.int .i64 0,.slice none 0 0],.slice (some ⟨w5.heap.size,0,none⟩) 0 0,.bool false]) ?_ rfl ?_
       · simp [results,Tryz.results5,go_sem,x0,x1,x2,x3,x4]
       · exact mrg_no (HNO.out HON.out) y1 (acts_boxM HAE.out HEE.out y2)
      ·
       have hru':decide (room < (U:Int))=false:=by simp;omega
       have HST2:Hid (stepsD room g (L.drop (k+1))=O):=by show _=_;rw [← HST.out];exact (stepsD_yes hlt (by rw [HAk.out];exact hact) (by rw [HU0.out];exact hru)).symm
       go_wp2_with fail
       go_region_held3 (fun w' => w'.cell? ⟨w.heap.size,1,none⟩=some (.int .i64 room)∧w'.cell? ⟨β,0,none⟩=some (.slice a3 g.length c3)) (first | (exact KN.out _ ((Below.refl _ _).drew)) | (exact KN.out _ bU) | fail) ((go_at_call 18;refine (HLU.out _ ((Below.refl _ _).drew)).mono ?_;rintro e w5 ⟨rfl,b5⟩;have bU:Below wN.heap.size wN w5:=(Below.refl _ _).drew.trans b5))
       have HB5:=hide (HBN1.out.trans (bU.mono HBN1.out.size))
       have HV5:=hide ((bU.block _ hoN).trans HVN.out)
       have HF5:=hide (rowF_below PN.out bU)
       have hN5:=(bU.cell (p:=⟨β,0,none⟩) hNl).trans hN0
       have hV5:=frozen_of_row w5 o 0 _ _ HV5.out
       have ho5:=heap_lt HV5.out
       have hV50:=box_of HV5.out
       clear bU b5
       go_wp2_with fail
       go_roundw
       case rel =>
        refine ⟨k+1,g,a3,c3,by go_num,by omega,by omega,HGS2,HST2,by simp [World.setCell];omega,(heap_setCell_same _ o _ _ _ _ HV5.out).trans rfl,?_,HB5.out.setCell (p:=⟨o,0,none⟩) hoge _⟩
        exact rowF_files (rowF_grown HF5.out (grownBy_store (World.grownBy.refl _ _) 0 _) (fun g' hg' e => by have h1:=(rowF_lt PN.out g' hg').1;cases e;omega))
       case measure => simp [intOf];omega
   ·
    have hlt':decide ((k:Int) < (L.length:Int))=false:=by simp;omega
    have HOG:Hid (O=some G):=by show _=_;rw [← HST.out];exact stepsD_end (by omega)
    have HKr:=hide ((HB1.out.block _ (heap_lt HK1.out)).trans HK1.out)
    have HEr:=hide ((HB1.out.block _ (heap_lt HE1.out)).trans HE1.out)
    have HBr:=hide (B1.out.trans (HB1.out.mono B1.out.size))
    have HRr:=hide (rowAct_below HRA.out HB1.out)
    have HOE:=hide (specOpenEngine_any G av cv room wr hGl HFr.out HGs.out)
    obtain ⟨-,hk1,-⟩:=five_cells HKr.out
    have hV0:=HV0.out
    go_wp2_with fail
    refine HOE.out.mono ?_
    rintro e w4 ⟨b4,⟨hsm,vd,vr,va4,rfl,hrd,hrs,hra4⟩ | ⟨hsm,va4,rfl,hra4⟩⟩
    ·
     obtain ⟨a4,c4,rfl,-⟩:=rowF_at hrd
     obtain ⟨d4,e4,rfl,-⟩:=rowSpot_at hrs
     obtain ⟨aw,cw,rfl⟩:=slice_form hra4
     have hws:=HBr.out.size
     have HR4:=hide (rowF_le hrd hws)
     have HS4:=hide (rowSpot_le hrs hws)
     have HA4:=hide (rowAct_below HRr.out b4)
     have B4:=hide (HBr.out.trans (b4.mono hws))
     have HE4:=hide ((b4.block _ (heap_lt HEr.out)).trans HEr.out)
     have HSM:=hide hsm
     clear b4 hrd hrs hra4 hsm
     have HYG:=hide (fun w' vd vr va => HYES.out G w' vd vr va HOG.out HSM.out)
     generalize hFx:(actsF G (actsS G)).1=Fx at HR4 HYG ⊢
     generalize hLn:((lastG G).num:Int)=Ln at HYG ⊢
     generalize hSq:seqD (segsL G)=Sq at HYG ⊢
     generalize hDx:dirD G=Dx at HS4 HYG ⊢
     clear hFx hLn hSq hDx
     obtain ⟨wE,hwE⟩:∃ wE,wE=w4.alloc (.cells #[.slice a4 Fx.length c4,.int .i64 room,.int .i64 Ln,.int .i64 Sq,.slice d4 Dx.length e4] 34):=⟨_,rfl⟩
     have bE:Below w4.heap.size w4 wE:=by rw [hwE];exact (Below.refl _ _).alloc (Nat.le_refl _) _
     have BE:=hide (B4.out.trans (bE.mono B4.out.size))
     have HEE:=hide ((bE.block _ (heap_lt HE4.out)).trans HE4.out)
     have HXE:Hid (wE.heap[w4.heap.size]? = some (.cells #[.slice a4 Fx.length c4,.int .i64 room,.int .i64 Ln,.int .i64 Sq,.slice d4 Dx.length e4] 34 (0,0))):=by rw [hwE];exact heap_alloc_new _ _
     have HRE:=hide (rowF_below HR4.out bE)
     have HSE:=hide (rowSpot_below HS4.out bE)
     have HAE:=hide (rowAct_below HA4.out bE)
     clear bE
     obtain ⟨z0,z1,z2,z3,z4,f0,f1,f2,f3,f4⟩:=five_cells HEE.out
     obtain ⟨t0,t1,t2,t3,t4,-⟩:=five_cells HXE.out
     subst hwE
     go_wp2
     clear z0 z1 z2 z3 z4 f0 f1 f2 f3 f4 t0 t1 t2 t3 t4
     obtain ⟨y0,y1,y2⟩:=box5 (.slice a4 Fx.length c4) (.int .i64 room) (.int .i64 Ln) (.int .i64 Sq) (.slice d4 Dx.length e4) HEE.out BE.out (Nat.le_succ _) _ rfl
     obtain ⟨x0,x1,x2,x3,x4,-⟩:=five_cells y0
     refine bodyPost_ret (v:=.tuple #[.agg #[.slice a4 Fx.length c4,.int .i64 room,.int .i64 Ln,.int .i64 Sq,.slice d4 Dx.length e4],.slice aa L.length ca,.bool true]) ?_ rfl ?_
     · simp [results,Tryz.results5,go_sem,x0,x1,x2,x3,x4]
     · exact HYG.out _ _ _ _ y1 (files_box HRE.out HEE.out y2) (spots_box HSE.out HEE.out y2) (acts_boxM HAE.out HEE.out y2)
    ·
     have HNN:=hide (HNO2.out G HOG.out hsm)
     obtain ⟨aw,cw,rfl⟩:=slice_form hra4
     have B4:=hide (HBr.out.trans (b4.mono HBr.out.size))
     have HE4:=hide ((b4.block _ (heap_lt HEr.out)).trans HEr.out)
     clear b4 hra4 hsm
     obtain ⟨w5,hw5⟩:∃ w5,w5=w4.alloc (.cells #[.slice none 0 0,.int .i64 0,.int .i64 0,.int .i64 0,.slice none 0 0] 34):=⟨_,rfl⟩
     have b5:Below w4.heap.size w4 w5:=by rw [hw5];exact (Below.refl _ _).alloc (Nat.le_refl _) _
     have B5:=hide (B4.out.trans (b5.mono B4.out.size))
     have HE5:=hide ((b5.block _ (heap_lt HE4.out)).trans HE4.out)
     clear b5
     subst hw5
     have e5:((w4.alloc (.cells #[.slice none 0 0,.int .i64 0,.int .i64 0,.int .i64 0,.slice none 0 0] 34))).heap.size=w4.heap.size+1:=by simp
     obtain ⟨wE,hwE⟩:∃ wE,wE=(w4.alloc (.cells #[.slice none 0 0,.int .i64 0,.int .i64 0,.int .i64 0,.slice none 0 0] 34)).alloc (.cells #[] 51):=⟨_,rfl⟩
     have bE:Below (w4.alloc (.cells #[.slice none 0 0,.int .i64 0,.int .i64 0,.int .i64 0,.slice none 0 0] 34)).heap.size (w4.alloc (.cells #[.slice none 0 0,.int .i64 0,.int .i64 0,.int .i64 0,.slice none 0 0] 34)) wE:=by rw [hwE];exact (Below.refl _ _).alloc (Nat.le_refl _) _
     have BE:=hide (B5.out.trans (bE.mono B5.out.size))
     have HEE:=hide ((bE.block _ (heap_lt HE5.out)).trans HE5.out)
     have HAE:Hid (RowAct wE w.heap.size (.slice (some ⟨(w4.alloc (.cells #[.slice none 0 0,.int .i64 0,.int .i64 0,.int .i64 0,.slice none 0 0] 34)).heap.size,0,none⟩) 0 0) []):=by
      show RowAct _ _ _ _
      rw [hwE]
      exact noActs (w4.alloc (.cells #[.slice none 0 0,.int .i64 0,.int .i64 0,.int .i64 0,.slice none 0 0] 34)) w.heap.size B5.out.size
     clear bE
     rw [e5] at HAE
     obtain ⟨z0,z1,z2,z3,z4,f0,f1,f2,f3,f4⟩:=five_cells HEE.out
     subst hwE
     go_wp2
     clear z0 z1 z2 z3 z4 f0 f1 f2 f3 f4
     obtain ⟨y0,y1,y2⟩:=box5 (.slice none 0 0) (.int .i64 0) (.int .i64 0) (.int .i64 0) (.slice none 0 0) HEE.out BE.out (Nat.le_succ _) _ rfl
     obtain ⟨x0,x1,x2,x3,x4,-⟩:=five_cells y0
     refine bodyPost_ret (v:=.tuple #[.agg #[.slice none 0 0,.int .i64 0,.int .i64 0,.int .i64 0,.slice none 0 0],.slice (some ⟨w4.heap.size+1,0,none⟩) 0 0,.bool false]) ?_ rfl ?_
     · simp [results,Tryz.results5,go_sem,x0,x1,x2,x3,x4]
     · exact mrg_no (HNN.out) y1 (acts_boxM HAE.out HEE.out y2)
theorem actsF_len:∀ (qs:List ActD) (fs:List FileD),fs.length≤1048576→(actsF fs qs).1.length≤1048576
 | [],fs,h => h
 | A :: r,fs,h => by
  rw [actsF]
  cases hact:actD fs A with
  | none => exact h
  | some g =>
   have:=(disk_files (actD_ok hact)).1
   exact actsF_len r g (by omega)
end Go.Proofs.YtepdckehokdjlaaGreatDoor
namespace Go.Proofs.YtepdckehokdjlaaGreatDoor
open Go.RowKit Go.Maps
theorem implMerge_any (fs:List FileD) (ao ad:Option Addr) (cap cd:Nat) (room act seq:Int) (dir:List SpotD) (w:World) (hl:fs.length≤1048576) (hfs:FilesAt w ao fs) (hsz:∀ F ∈ fs,F.name.size≤1048576∧F.text.size≤1048576) (_hld:dir.length≤1048576) (hds:SpotsAt w ad dir) (hT:SumTab w) :
  Calls Tryz.prog 7 #[.agg #[.slice ao fs.length cap,.int .i64 room,.int .i64 act,.int .i64 seq,.slice ad dir.length cd]] w fun e w' => MrgPost fs room act seq dir w e w':=by
 have HSO:=hide (fun W h1 h2 hT => storeOf_any fs ao ad cap cd room act seq dir W hl h1 hsz h2 hT)
 have HF:=hide hfs
 have HD:=hide hds
 have HT:=hide hT
 clear hfs hds hsz hT
 obtain ⟨wb,hwb⟩:∃ wb,wb=(w.alloc (.cells #[.slice ao fs.length cap,.int .i64 room,.int .i64 act,.int .i64 seq,.slice ad dir.length cd] 34)).alloc (.cells #[.slice none 0 0,.int .i64 0,.int .i64 0,.int .i64 0,.slice none 0 0] 34):=⟨_,rfl⟩
 have HB0:Hid (Below w.heap.size w wb):=by rw [hwb];exact ((Below.refl _ w).alloc (Nat.le_refl _) _).alloc (by simp) _
 have HE0:Hid (wb.heap[w.heap.size+1]? = some (.cells #[.slice none 0 0,.int .i64 0,.int .i64 0,.int .i64 0,.slice none 0 0] 34 (0,0))):=by rw [hwb];exact heap_alloc2_new w _ _
 go_enter Tryz.func7,Tryz.ntmps7
 go_wp2_with fail
 rw [← hwb]
 clear hwb
 refine (HSO.out _ (filesAt_keep HF.out HB0.out) (spotsAt_keep HD.out HB0.out) (sumTab_later HB0.out HT.out)).mono ?_
 rintro e w1 ⟨b1,⟨he,g,vd,vr,vs,rfl,hst⟩ | ⟨he,s,rfl⟩⟩
 ·
  have HE:=hide he
  have HMG:=hide (merge_any fs room wb g vd vr vs w1 hst (soundB_segs he.2.1).2.2.2.2.1 he.2.2.1 (soundB_segs he.2.1).2.2.2.2.2 b1 (sumTab_later HB0.out HT.out))
  have HB1:=hide (HB0.out.trans (b1.mono HB0.out.size))
  have HE1:=hide ((b1.block _ (heap_lt HE0.out)).trans HE0.out)
  have hlb:=heap_lt HE0.out
  clear hst he b1
  go_wp2_with fail
  refine HMG.out.mono ?_
  rintro e w2 ⟨⟨G,hG,ho,vd2,vr2,va,rfl,hrd,hrs,hra⟩ | ⟨hno,c,s,rfl⟩,b2⟩
  ·
   have hsm:openSB G room=true:=(open_same G room).symm.trans ho
   rw [open_disk ho] at hrd
   obtain ⟨a2,c2,rfl,-⟩:=rowF_at hrd
   obtain ⟨d2,e2,rfl,-⟩:=rowSpot_at hrs
   have B2:=hide (HB1.out.trans (b2.mono HB0.out.size))
   have HE2:=hide ((b2.block _ hlb).trans HE1.out)
   have HR:=hide (rowF_le hrd HB0.out.size)
   have HS:=hide (rowSpot_le hrs HB0.out.size)
   have HA:=hide (rowAct_le (rowAct_own hra) HB0.out.size)
   have HGG:Hid (mrgG fs room act seq dir=some G):=(mrgR_G HE.out).trans hG
   have HQS:Hid (mergE fs room act seq dir=actsM (dirD fs) (segsL fs).dropLast (lastNum (segsL fs))):=by
    refine mergE_yes ?_
    cases hk:mergOk fs room act seq dir with
    | true => rfl
    | false => have:=HGG.out;rw [mrgG_no hk] at this;cases this
   rw [← HQS.out] at HA
   clear b2 hrd hrs hra ho hG
   generalize hFx:(actsF G (actsS G)).1=Fx at HR ⊢
   generalize hLn:((lastG G).num:Int)=Ln
   generalize hSq:seqD (segsL G)=Sq
   generalize hDx:dirD G=Dx at HS ⊢
   obtain ⟨wE,hwE⟩:∃ wE,wE=w2.alloc (.cells #[.slice a2 Fx.length c2,.int .i64 room,.int .i64 Ln,.int .i64 Sq,.slice d2 Dx.length e2] 34):=⟨_,rfl⟩
   have bE:Below w2.heap.size w2 wE:=by rw [hwE];exact (Below.refl _ _).alloc (Nat.le_refl _) _
   have BE:=hide (B2.out.trans (bE.mono B2.out.size))
   have HEE:=hide ((bE.block _ (heap_lt HE2.out)).trans HE2.out)
   have HR2:=hide (rowF_below HR.out bE)
   have HS2:=hide (rowSpot_below HS.out bE)
   have HA2:=hide (rowAct_below HA.out bE)
   have hNE:wE.heap[w2.heap.size]? = some (.cells #[.slice a2 Fx.length c2,.int .i64 room,.int .i64 Ln,.int .i64 Sq,.slice d2 Dx.length e2] 34 (0,0)):=by rw [hwE];exact heap_alloc_new _ _
   obtain ⟨q0,q1,q2,q3,q4,-⟩:=five_cells hNE
   clear bE hNE
   obtain ⟨z0,z1,z2,z3,z4,f0,f1,f2,f3,f4⟩:=five_cells HEE.out
   go_wp2_with fail
   rw [← hwE]
   clear hwE
   go_region
   go_wp2
   clear z0 z1 z2 z3 z4 f0 f1 f2 f3 f4 q0 q1 q2 q3 q4
   obtain ⟨y0,y1,y2⟩:=box5 (.slice a2 Fx.length c2) (.int .i64 room) (.int .i64 Ln) (.int .i64 Sq) (.slice d2 Dx.length e2) HEE.out BE.out (Nat.le_succ _) _ rfl
   obtain ⟨x0,x1,x2,x3,x4,-⟩:=five_cells y0
   refine bodyPost_ret (v:=.tuple #[.agg #[.slice a2 Fx.length c2,.int .i64 room,.int .i64 Ln,.int .i64 Sq,.slice d2 Dx.length e2],va,.bool true]) ?_ rfl ?_
   · simp [results,Tryz.results7,go_sem,x0,x1,x2,x3,x4]
   ·
    subst hFx hLn hSq hDx
    exact mrg_yes HGG.out hsm y1.drew (rowF_keep (files_box HR2.out HEE.out y2) (fun _ _ => rfl)) (rowSpot_keep (spots_box HS2.out HEE.out y2) (fun _ _ => rfl)) (rowAct_keep (acts_boxM HA2.out HEE.out y2) (fun _ _ => rfl))
  ·
   have hmk:mrgOk fs room act seq dir=false:=by
    cases hm:mrgG fs room act seq dir with
    | none => exact mrgOk_none hm
    | some G =>
     have h1:=hno G ((mrgR_G HE.out).symm.trans hm)
     unfold mrgOk
     rw [hm]
     exact (open_same G room).symm.trans h1
   have HMK:=hide hmk
   have B2:=hide (HB1.out.trans (b2.mono HB0.out.size))
   have HE2:=hide ((b2.block _ hlb).trans HE1.out)
   clear b2 hno hmk
   obtain ⟨wE,hwE⟩:∃ wE,wE=w2.alloc (.cells #[.slice none 0 0,.int .i64 0,.int .i64 0,.int .i64 0,.slice none 0 0] 34):=⟨_,rfl⟩
   have bE:Below w2.heap.size w2 wE:=by rw [hwE];exact (Below.refl _ _).alloc (Nat.le_refl _) _
   have BE:=hide (B2.out.trans (bE.mono B2.out.size))
   have HEE:=hide ((bE.block _ (heap_lt HE2.out)).trans HE2.out)
   have hNE:wE.heap[w2.heap.size]? = some (.cells #[.slice none 0 0,.int .i64 0,.int .i64 0,.int .i64 0,.slice none 0 0] 34 (0,0)):=by rw [hwE];exact heap_alloc_new _ _
   obtain ⟨q0,q1,q2,q3,q4,-⟩:=five_cells hNE
   clear bE hNE
   obtain ⟨z0,z1,z2,z3,z4,f0,f1,f2,f3,f4⟩:=five_cells HEE.out
   go_wp2_with fail
   rw [← hwE]
   clear hwE
   go_region
   go_wp2
   clear z0 z1 z2 z3 z4 f0 f1 f2 f3 f4 q0 q1 q2 q3 q4
   obtain ⟨y0,y1,y2⟩:=box5 (.slice none 0 0) (.int .i64 0) (.int .i64 0) (.int .i64 0) (.slice none 0 0) HEE.out BE.out (Nat.le_succ _) _ rfl
   obtain ⟨x0,x1,x2,x3,x4,-⟩:=five_cells y0
   refine bodyPost_ret (v:=.tuple #[.agg #[.slice none 0 0,.int .i64 0,.int .i64 0,.int .i64 0,.slice none 0 0],.slice none 0 0,.bool false]) ?_ rfl ?_
   · simp [results,Tryz.results7,go_sem,x0,x1,x2,x3,x4]
   · exact mrg_no HMK.out y1.drew (.inl ⟨rfl,rfl⟩)
 ·
  have hmk:mrgOk fs room act seq dir=false:=mrgOk_none (mrgG_no (by unfold mergOk;rw [engOkB_no he];rfl))
  have HMK:=hide hmk
  have B1:=hide (HB0.out.trans (b1.mono HB0.out.size))
  have HE1:=hide ((b1.block _ (heap_lt HE0.out)).trans HE0.out)
  clear b1 he hmk
  obtain ⟨z0,z1,z2,z3,z4,f0,f1,f2,f3,f4⟩:=five_cells HE1.out
  go_wp2
  clear z0 z1 z2 z3 z4 f0 f1 f2 f3 f4
  obtain ⟨y0,y1,y2⟩:=box5 (.slice none 0 0) (.int .i64 0) (.int .i64 0) (.int .i64 0) (.slice none 0 0) HE1.out B1.out (Nat.le_succ _) _ rfl
  obtain ⟨x0,x1,x2,x3,x4,-⟩:=five_cells y0
  refine bodyPost_ret (v:=.tuple #[.agg #[.slice none 0 0,.int .i64 0,.int .i64 0,.int .i64 0,.slice none 0 0],.slice none 0 0,.bool false]) ?_ rfl ?_
  · simp [results,Tryz.results7,go_sem,x0,x1,x2,x3,x4]
  · exact mrg_no HMK.out y1 (.inl ⟨rfl,rfl⟩)
end Go.Proofs.YtepdckehokdjlaaGreatDoor
