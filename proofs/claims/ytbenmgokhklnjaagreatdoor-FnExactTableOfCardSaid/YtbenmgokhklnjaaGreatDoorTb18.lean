import Derived.Deep.LoopGhost
import Derived.Maps.OwnSet
import Derived.Lib.Strings
import Derived.Sort.Walk0
import Derived.Test.YtbenmgokhklnjaaGreatDoorTb17
import Derived.Test.YtbenmgokhklnjaaGreatDoorTb1
import Derived.Test.YtbenmgokhklnjaaGreatDoorTb3
import Derived.Test.YtbenmgokhklnjaaGreatDoorTb4
import Derived.Test.YtbenmgokhklnjaaGreatDoorTb7
import Derived.Test.YtbenmgokhklnjaaGreatDoorTb6
import Derived.Test.YtbenmgokhklnjaaGreatDoorTb0
import Derived.Test.YtbenmgokhklnjaaGreatDoorTb9
set_option maxRecDepth 100000
set_option maxHeartbeats 3200000
namespace Go.Proofs.YtbenmgokhklnjaaGreatDoor
open Go.RowKit
def spLt (k:ByteArray) (A:SpotD):Bool:=Op.bytesLess A.key.toList k.toList
def spGt (k:ByteArray) (A:SpotD):Bool:=!Op.bytesLess A.key.toList k.toList && !(A.key.toList == k.toList)
def setD (fs:List SpotD) (s:SpotD) (gone:Bool):List SpotD:=fs.filter (spLt s.key) ++ (if gone then [] else [s]) ++ fs.filter (spGt s.key)
theorem filter_take (f:SpotD→Bool) {fs:List SpotD} {k:Nat} (h:k < fs.length):(fs.take (k+1)).filter f=(fs.take k).filter f ++ (if f fs[k] then [fs[k]] else []):=by
 rw [List.take_succ_eq_append_getElem h,List.filter_append]
 congr 1
 cases hf:f fs[k] <;> simp [hf]
theorem filter_take_le (f:SpotD→Bool) (fs:List SpotD) (k:Nat):((fs.take k).filter f).length≤fs.length :=
 Nat.le_trans (List.length_filter_le _ _) (by rw [List.length_take];omega)
theorem lt_gt_le (k:ByteArray):∀ fs:List SpotD,(fs.filter (spLt k)).length+(fs.filter (spGt k)).length≤fs.length
 | [] => Nat.le_refl _
 | A :: r => by
  have ih:=lt_gt_le k r
  simp only [List.filter_cons,List.length_cons]
  cases h1:spLt k A with
  | true =>
   have h2:spGt k A=false:=by unfold spLt at h1;unfold spGt;rw [h1];rfl
   rw [h2];simp;omega
  | false =>
   cases h2:spGt k A <;> simp <;> omega
theorem setD_le (fs:List SpotD) (s:SpotD) (gone:Bool):(setD fs s gone).length≤fs.length+1:=by
 have:=lt_gt_le s.key fs
 unfold setD
 cases gone <;> simp <;> omega
theorem filter_part (f:SpotD→Bool) (fs:List SpotD) (k:Nat):((fs.take k).filter f).length≤(fs.filter f).length :=
 List.Sublist.length_le ((List.take_sublist k fs).filter f)
theorem l07Set_any (fs:List SpotD) (ao:Option Addr) (cap:Nat) (s:SpotD) (gone:Bool) (w:World) (hl:fs.length≤1000000) (hfs:SpotsAt w ao fs) :
  Calls Tryz.prog 105 #[.slice ao fs.length cap,.agg #[.string s.key,.int .i64 s.seg,.int .i64 s.pos,.int .i64 s.seq],.bool gone] w fun e w' => (∃ v,e=.returned v∧w'.ownsRow w.heap.size 75 4 v (setD fs s gone).length (cellsSpot (setD fs s gone)))∧Below w.heap.size w w':=by
 obtain ⟨key,seg,pos,seq⟩:=s
 have HF:=hide hfs
 clear hfs
 obtain ⟨wb,hwb⟩:∃ wb,wb=(w.alloc (.cells #[.string key,.int .i64 seg,.int .i64 pos,.int .i64 seq] 75)).alloc (.cells #[] 75):=⟨_,rfl⟩
 have HB0:Hid (Below w.heap.size w wb):=by rw [hwb];exact ((Below.refl _ w).alloc (Nat.le_refl _) _).alloc (by simp) _
 have hbs:w.heap.size+2≤wb.heap.size:=by rw [hwb];simp
 have HX0:Hid (wb.heap[w.heap.size]? = some (.cells #[.string key,.int .i64 seg,.int .i64 pos,.int .i64 seq] 75 (0,0))):=by
  show _=_
  rw [hwb]
  exact (((Below.refl _ (w.alloc (.cells #[.string key,.int .i64 seg,.int .i64 pos,.int .i64 seq] 75))).alloc (Nat.le_refl _) (.cells #[] 75)).block _ (by simp)).trans (heap_alloc_new w _)
 have HO0:Hid (wb.ownsRow (w.heap.size+1) 75 4 (.slice (some ⟨w.heap.size+1,0,none⟩) 0 0) 0 []):=by
  rw [hwb]
  have:=World.ownsRow_lit (e:=75) (size:=4) (w.alloc (.cells #[.string key,.int .i64 seg,.int .i64 pos,.int .i64 seq] 75)) #[] 0 (Nat.le_refl _) (by unfold maxLen;omega) (by simp)
  show World.ownsRow _ _ _ _ _ _ _
  simpa using this
 go_enter Tryz.func105,Tryz.ntmps105
 go_wp2_with fail
 rw [← hwb]
 clear hwb
 go_loopg [7,8] fs.length (fun gg v ii wr => ∃ (k:Nat),k+gg=fs.length∧ii=.int .i64 k∧k≤fs.length∧Hid (wr.ownsRow (w.heap.size+1) 75 4 v ((fs.take k).filter (spLt key)).length (cellsSpot ((fs.take k).filter (spLt key))))∧Hid (Below (w.heap.size+1) wb wr))
 case atStart => exact ⟨0,by omega,rfl,Nat.zero_le _,HO0,Below.refl _ _⟩
 case round =>
  obtain ⟨k,hkg,rfl,hk,HO,HB⟩:=hrel
  have hws:wb.heap.size≤wr.heap.size:=HB.out.size
  have HBw:Hid (Below w.heap.size w wr):=HB0.out.trans (HB.out.mono (by omega))
  have HXr:Hid (wr.heap[w.heap.size]? = some (.cells #[.string key,.int .i64 seg,.int .i64 pos,.int .i64 seq] 75 (0,0))):=(HB.out.block _ (by omega)).trans HX0.out
  have hck:wr.cell? ⟨w.heap.size,0,none⟩=some (.string key):=(cell_of_row wr _ 0 _ _ (0,0) HXr.out).trans rfl
  cases gk with
  | succ g0 =>
   have hlt:k < fs.length:=by omega
   have hlt':decide ((k:Int) < (fs.length:Int))=true:=by simp;omega
   obtain ⟨b,off,rfl,hbl,hd0,hd1,hd2,hd3⟩:=spotsAt_keep HF.out HBw.out k hlt
   have HN:=hide (filter_take (spLt key) hlt)
   obtain ⟨A,HA⟩:∃ A,Hid (fs[k]=A):=⟨_,hide rfl⟩
   rw [HA.out] at hd0 hd1 hd2 hd3 HN
   have hLl:=filter_take_le (spLt key) fs k
   obtain ⟨L,HL⟩:∃ L,Hid ((fs.take k).filter (spLt key)=L):=⟨_,hide rfl⟩
   rw [HL.out] at HO HN hLl
   have hki0:(0:Int)≤(k:Int):=by omega
   have hki1:(k:Int) < (fs.length:Int):=by omega
   go_wp2_with fail
   cases hless:Op.bytesLess A.key.toList key.toList with
   | false =>
    have HN1:Hid ((fs.take (k+1)).filter (spLt key)=L):=by
     show _=_
     rw [HN.out];unfold spLt;rw [hless];simp
    go_quiet (fail)
    go_wp2_with fail
    go_roundg g0
    case rel => exact ⟨k+1,by omega,by go_num,by omega,by show World.ownsRow _ _ _ _ _ _ _;rw [HN1.out];exact ownsRow_drewN HO.out _,below_drewN HB.out _⟩
    case measure => omega
   | true =>
    have HN1:Hid ((fs.take (k+1)).filter (spLt key)=L ++ [A]):=by
     show _=_
     rw [HN.out];unfold spLt;rw [hless];simp
    go_quiet (fail)
    go_wp2_with (at_builtin;refine app_spot _ (w.heap.size+1) (by rfl) _ _ (by rfl) _ L A (by rfl) ((ownsRow_drewN HO.out nq).alloc _) wr.heap.size (by rfl) (heap_alloc_new (wr.drewN nq) _) (by omega) (by simp;omega) ?_;intro g11 cap11 w11 ho11 hb11 hg11 hgl11;have HO11:=hide ho11;have HB11:=hide hb11;clear ho11 hb11 hg11 hgl11)
    go_roundg g0
    case rel => exact ⟨k+1,by omega,by go_num,by omega,by show World.ownsRow _ _ _ _ _ _ _;rw [HN1.out];exact HO11.out,((below_drewN HB.out nq).alloc (by show _≤wr.heap.size;omega) _).trans HB11.out⟩
    case measure => omega
  | zero =>
   have hlt':decide ((k:Int) < (fs.length:Int))=false:=by simp;omega
   have hltn:decide (k < fs.length)=false:=by simp;omega
   have hke:fs.take k=fs:=List.take_of_length_le (by omega)
   rw [hke] at HO
   clear hke
   obtain ⟨L0,HL0⟩:∃ L,Hid (fs.filter (spLt key)=L):=⟨_,hide rfl⟩
   rw [HL0.out] at HO
   have hL0:L0.length≤fs.length:=by rw [← HL0.out];exact List.length_filter_le _ _
   have hck0:=hck
   have hck1:wr.cell? ⟨w.heap.size,1,none⟩=some (.int .i64 seg):=(cell_of_row wr _ 1 _ _ (0,0) HXr.out).trans rfl
   have hck2:wr.cell? ⟨w.heap.size,2,none⟩=some (.int .i64 pos):=(cell_of_row wr _ 2 _ _ (0,0) HXr.out).trans rfl
   have hck3:wr.cell? ⟨w.heap.size,3,none⟩=some (.int .i64 seq):=(cell_of_row wr _ 3 _ _ (0,0) HXr.out).trans rfl
   cases gone with
   | true =>
    obtain ⟨M,HM⟩:∃ M,Hid (L0=M):=⟨_,hide rfl⟩
    have HMS:Hid (setD fs ⟨key,seg,pos,seq⟩ true=M ++ fs.filter (spGt key)):=by show _=_;unfold setD;rw [← HM.out,← HL0.out];simp
    go_wp2_with fail
    have HOM:=HO
    rw [HM.out] at HOM
    have HBM:=HB
    have hM:M.length+(fs.filter (spGt key)).length≤fs.length+1:=by have:=lt_gt_le key fs;rw [← HM.out,← HL0.out];omega
    clear HO HB HXr hck hck0 hck1 hck2 hck3 HBw hws HL0 HM hL0
    go_loopg [7,9] fs.length (fun gg v ii wr => ∃ (k:Nat),k+gg=fs.length∧ii=.int .i64 k∧k≤fs.length∧Hid (wr.ownsRow (w.heap.size+1) 75 4 v (M ++ (fs.take k).filter (spGt key)).length (cellsSpot (M ++ (fs.take k).filter (spGt key))))∧Hid (Below (w.heap.size+1) wb wr))
    case atStart => exact ⟨0,by omega,rfl,Nat.zero_le _,by show World.ownsRow _ _ _ _ _ _ _;rw [List.take_zero,List.filter_nil,List.append_nil];exact HOM.out,HBM⟩
    case round =>
     clear HOM HBM
     obtain ⟨j,hjg,rfl,hj,HO2,HB2⟩:=hrel
     have hws2:wb.heap.size≤wr.heap.size:=HB2.out.size
     have HBw2:Hid (Below w.heap.size w wr):=HB0.out.trans (HB2.out.mono (by omega))
     have hck2:wr.cell? ⟨w.heap.size,0,none⟩=some (.string key):=(cell_of_row wr _ 0 _ _ (0,0) ((HB2.out.block _ (by omega)).trans HX0.out)).trans rfl
     cases gk with
     | succ g1 =>
      have hlt:j < fs.length:=by omega
      have hlt2:decide ((j:Int) < (fs.length:Int))=true:=by simp;omega
      obtain ⟨b,off,rfl,hbl,hd0,hd1,hd2,hd3⟩:=spotsAt_keep HF.out HBw2.out j hlt
      have HN:=hide (filter_take (spGt key) hlt)
      obtain ⟨A,HA⟩:∃ A,Hid (fs[j]=A):=⟨_,hide rfl⟩
      rw [HA.out] at hd0 hd1 hd2 hd3 HN
      have hLl:=filter_part (spGt key) fs j
      obtain ⟨L,HL⟩:∃ L,Hid (M ++ (fs.take j).filter (spGt key)=L):=⟨_,hide rfl⟩
      have hLL:L.length≤1000001:=by rw [← HL.out,List.length_append];omega
      rw [HL.out] at HO2
      have hki0:(0:Int)≤(j:Int):=by omega
      have hki1:(j:Int) < (fs.length:Int):=by omega
      clear hLl
      go_wp2_with fail
      cases hless:Op.bytesLess A.key.toList key.toList with
      | true =>
       have HN1:Hid (M ++ (fs.take (j+1)).filter (spGt key)=L):=by
        show _=_
        rw [HN.out,← HL.out];unfold spGt;rw [hless];simp
       go_quiet (fail)
       go_wp2_with fail
       go_roundg g1
       case rel => exact ⟨j+1,by omega,by go_num,by omega,by show World.ownsRow _ _ _ _ _ _ _;rw [HN1.out];exact ownsRow_drewN HO2.out _,below_drewN HB2.out _⟩
       case measure => omega
      | false =>
       cases hsame:(A.key.toList == key.toList) with
       | true =>
        have HN1:Hid (M ++ (fs.take (j+1)).filter (spGt key)=L):=by
         show _=_
         rw [HN.out,← HL.out];unfold spGt;rw [hless,hsame];simp
        go_quiet (fail)
        go_wp2_with fail
        go_roundg g1
        case rel => exact ⟨j+1,by omega,by go_num,by omega,by show World.ownsRow _ _ _ _ _ _ _;rw [HN1.out];exact ownsRow_drewN HO2.out _,below_drewN HB2.out _⟩
        case measure => omega
       | false =>
        have HN1:Hid (M ++ (fs.take (j+1)).filter (spGt key)=L ++ [A]):=by
         show _=_
         rw [HN.out,← HL.out];unfold spGt;rw [hless,hsame];simp
        go_quiet (fail)
        go_wp2_with (at_builtin;refine app_spot _ (w.heap.size+1) (by rfl) _ _ (by rfl) _ L A (by rfl) ((ownsRow_drewN HO2.out nq).alloc _) wr.heap.size (by rfl) (heap_alloc_new (wr.drewN nq) _) (by omega) (by simp;omega) ?_;intro g12 cap12 w12 ho12 hb12 hg12 hgl12;have HO12:=hide ho12;have HB12:=hide hb12;clear ho12 hb12 hg12 hgl12)
        go_roundg g1
        case rel => exact ⟨j+1,by omega,by go_num,by omega,by show World.ownsRow _ _ _ _ _ _ _;rw [HN1.out];exact HO12.out,((below_drewN HB2.out nq).alloc (by show _≤wr.heap.size;omega) _).trans HB12.out⟩
        case measure => omega
     | zero =>
      have hlt2:decide ((j:Int) < (fs.length:Int))=false:=by simp;omega
      have hke:fs.take j=fs:=List.take_of_length_le (by omega)
      rw [hke] at HO2
      clear hke
      go_wp2
      go_ret
      refine ⟨⟨_,rfl,?_⟩,HBw2.out⟩
      rw [HMS.out]
      exact ownsRow_mono HO2.out (by omega)
   | false =>
    go_wp2_with (at_builtin;refine app_spot _ (w.heap.size+1) (by rfl) _ _ (by rfl) _ L0 ⟨key,seg,pos,seq⟩ (by rfl) (HO.out.alloc _) wr.heap.size (by rfl) (heap_alloc_new wr _) (by omega) (by simp;omega) ?_;intro g11 cap11 w11 ho11 hb11 hg11 hgl11;have HO11:=hide ho11;have HB11:=hide hb11;clear ho11 hb11 hg11 hgl11)
    obtain ⟨M,HM⟩:∃ M,Hid (L0 ++ [(⟨key,seg,pos,seq⟩:SpotD)]=M):=⟨_,hide rfl⟩
    have HMS:Hid (setD fs ⟨key,seg,pos,seq⟩ false=M ++ fs.filter (spGt key)):=by show _=_;unfold setD;rw [← HM.out,← HL0.out];simp
    have HOM:=HO11
    rw [HM.out] at HOM
    have HBM:Hid (Below (w.heap.size+1) wb w11):=(HB.out.alloc (by omega) _).trans HB11.out
    have hM:M.length+(fs.filter (spGt key)).length≤fs.length+1:=by have:=lt_gt_le key fs;rw [← HM.out,← HL0.out,List.length_append];simp;omega
    clear HO HB HXr hck hck0 hck1 hck2 hck3 HBw hws HL0 HM hL0 HO11 HB11
    go_loopg [7,9] fs.length (fun gg v ii wr => ∃ (k:Nat),k+gg=fs.length∧ii=.int .i64 k∧k≤fs.length∧Hid (wr.ownsRow (w.heap.size+1) 75 4 v (M ++ (fs.take k).filter (spGt key)).length (cellsSpot (M ++ (fs.take k).filter (spGt key))))∧Hid (Below (w.heap.size+1) wb wr))
    case atStart => exact ⟨0,by omega,rfl,Nat.zero_le _,by show World.ownsRow _ _ _ _ _ _ _;rw [List.take_zero,List.filter_nil,List.append_nil];exact HOM.out,HBM⟩
    case round =>
     clear HOM HBM
     obtain ⟨j,hjg,rfl,hj,HO2,HB2⟩:=hrel
     have hws2:wb.heap.size≤wr.heap.size:=HB2.out.size
     have HBw2:Hid (Below w.heap.size w wr):=HB0.out.trans (HB2.out.mono (by omega))
     have hck2:wr.cell? ⟨w.heap.size,0,none⟩=some (.string key):=(cell_of_row wr _ 0 _ _ (0,0) ((HB2.out.block _ (by omega)).trans HX0.out)).trans rfl
     cases gk with
     | succ g1 =>
      have hlt:j < fs.length:=by omega
      have hlt2:decide ((j:Int) < (fs.length:Int))=true:=by simp;omega
      obtain ⟨b,off,rfl,hbl,hd0,hd1,hd2,hd3⟩:=spotsAt_keep HF.out HBw2.out j hlt
      have HN:=hide (filter_take (spGt key) hlt)
      obtain ⟨A,HA⟩:∃ A,Hid (fs[j]=A):=⟨_,hide rfl⟩
      rw [HA.out] at hd0 hd1 hd2 hd3 HN
      have hLl:=filter_part (spGt key) fs j
      obtain ⟨L,HL⟩:∃ L,Hid (M ++ (fs.take j).filter (spGt key)=L):=⟨_,hide rfl⟩
      have hLL:L.length≤1000001:=by rw [← HL.out,List.length_append];omega
      rw [HL.out] at HO2
      have hki0:(0:Int)≤(j:Int):=by omega
      have hki1:(j:Int) < (fs.length:Int):=by omega
      clear hLl
      go_wp2_with fail
      cases hless:Op.bytesLess A.key.toList key.toList with
      | true =>
       have HN1:Hid (M ++ (fs.take (j+1)).filter (spGt key)=L):=by
        show _=_
        rw [HN.out,← HL.out];unfold spGt;rw [hless];simp
       go_quiet (fail)
       go_wp2_with fail
       go_roundg g1
       case rel => exact ⟨j+1,by omega,by go_num,by omega,by show World.ownsRow _ _ _ _ _ _ _;rw [HN1.out];exact ownsRow_drewN HO2.out _,below_drewN HB2.out _⟩
       case measure => omega
      | false =>
       cases hsame:(A.key.toList == key.toList) with
       | true =>
        have HN1:Hid (M ++ (fs.take (j+1)).filter (spGt key)=L):=by
         show _=_
         rw [HN.out,← HL.out];unfold spGt;rw [hless,hsame];simp
        go_quiet (fail)
        go_wp2_with fail
        go_roundg g1
        case rel => exact ⟨j+1,by omega,by go_num,by omega,by show World.ownsRow _ _ _ _ _ _ _;rw [HN1.out];exact ownsRow_drewN HO2.out _,below_drewN HB2.out _⟩
        case measure => omega
       | false =>
        have HN1:Hid (M ++ (fs.take (j+1)).filter (spGt key)=L ++ [A]):=by
         show _=_
         rw [HN.out,← HL.out];unfold spGt;rw [hless,hsame];simp
        go_quiet (fail)
        go_wp2_with (at_builtin;refine app_spot _ (w.heap.size+1) (by rfl) _ _ (by rfl) _ L A (by rfl) ((ownsRow_drewN HO2.out nq).alloc _) wr.heap.size (by rfl) (heap_alloc_new (wr.drewN nq) _) (by omega) (by simp;omega) ?_;intro g12 cap12 w12 ho12 hb12 hg12 hgl12;have HO12:=hide ho12;have HB12:=hide hb12;clear ho12 hb12 hg12 hgl12)
        go_roundg g1
        case rel => exact ⟨j+1,by omega,by go_num,by omega,by show World.ownsRow _ _ _ _ _ _ _;rw [HN1.out];exact HO12.out,((below_drewN HB2.out nq).alloc (by show _≤wr.heap.size;omega) _).trans HB12.out⟩
        case measure => omega
     | zero =>
      have hlt2:decide ((j:Int) < (fs.length:Int))=false:=by simp;omega
      have hke:fs.take j=fs:=List.take_of_length_le (by omega)
      rw [hke] at HO2
      clear hke
      go_wp2
      go_ret
      refine ⟨⟨_,rfl,?_⟩,HBw2.out⟩
      rw [HMS.out]
      exact ownsRow_mono HO2.out (by omega)
theorem l07Size_any (q:Int) (fs:List ChangeD) (ao:Option Addr) (cap:Nat) (w:World) (hl:fs.length≤1048576) (hfs:ChangesAt w ao fs) (hsz:∀ A ∈ fs,A.key.size≤1048576∧A.value.size≤1048576) :
  Calls Tryz.prog 106 #[.agg #[.int .i64 q,.slice ao fs.length cap]] w fun e w' => e=.returned (.int .i64 (sizeD q fs:Nat))∧Below w.heap.size w w':=by
 have HF:=hide hfs
 have HS:=hide hsz
 have hts:=textD_small q fs
 have HSD:Hid (sizeD q fs=if 1≤(textD q fs).size then (frameB (textD q fs)).size else 0):=rfl
 have HB:=hide (fun W hW => specBatchText_any q fs ao cap W hl hW HS.out)
 obtain ⟨T,HT⟩:∃ T,Hid (textD q fs=T):=⟨_,hide rfl⟩
 obtain ⟨ok,HOK⟩:∃ T,Hid (textOkD q fs=T):=⟨_,hide rfl⟩
 rw [HT.out] at hts HB HSD
 rw [HOK.out] at HB
 clear hfs hsz
 have b0:Below w.heap.size w (w.alloc (.cells #[.int .i64 q,.slice ao fs.length cap] 109)):=(Below.refl _ w).alloc (Nat.le_refl _) _
 have B0:=hide b0
 clear b0
 by_cases h1:1≤T.size
 ·
  have HE:Hid (sizeD q fs=(frameB T).size):=by show _=_;rw [HSD.out,if_pos h1]
  go_enter Tryz.func106,Tryz.ntmps106
  go_wp2_with fail
  refine (HB.out _ (changesAt_keep HF.out B0.out)).mono ?_
  rintro e w1 ⟨rfl,b1⟩
  have B1:=hide (B0.out.trans (b1.mono B0.out.size))
  clear b1
  go_wp2_with fail
  refine (specFrame_yes T _ h1 hts).mono ?_
  rintro e w2 ⟨rfl,b2⟩
  have B2:=hide (B1.out.trans (b2.mono B1.out.size))
  clear b2
  go_wp2
  go_ret
  rw [HE.out]
  exact ⟨rfl,B2.out⟩
 ·
  have HE:Hid (sizeD q fs=0):=by show _=_;rw [HSD.out,if_neg h1]
  go_enter Tryz.func106,Tryz.ntmps106
  go_wp2_with fail
  refine (HB.out _ (changesAt_keep HF.out B0.out)).mono ?_
  rintro e w1 ⟨rfl,b1⟩
  have B1:=hide (B0.out.trans (b1.mono B0.out.size))
  clear b1
  go_wp2_with fail
  refine (specFrame_no T _ (by omega)).mono ?_
  rintro e w2 ⟨rfl,rfl⟩
  go_wp2
  go_ret
  rw [HE.out]
  exact ⟨rfl,B1.out⟩
def chsIn (seg pos q:Int) (dir:List SpotD):List ChangeD→List SpotD
 | [] => dir
 | A :: r => chsIn seg pos q (setD dir ⟨A.key,seg,pos,q⟩ A.gone) r
def batsIn (seg:Int) (dir:List SpotD) (pos:Nat):List BatchD→List SpotD
 | [] => dir
 | b :: r => batsIn seg (chsIn seg (pos:Int) b.seq dir b.chs) (pos+sizeD b.seq b.chs) r
theorem chsIn_len (seg pos q:Int):∀ (l:List ChangeD) (dir:List SpotD),(chsIn seg pos q dir l).length≤dir.length+l.length
 | [],dir => Nat.le_refl _
 | A :: r,dir => by
  have h1:=chsIn_len seg pos q r (setD dir ⟨A.key,seg,pos,q⟩ A.gone)
  have h2:=setD_le dir ⟨A.key,seg,pos,q⟩ A.gone
  simp only [chsIn,List.length_cons]
  omega
def chsN:List BatchD→Nat
 | [] => 0
 | b :: r => b.chs.length+chsN r
theorem batsIn_len (seg:Int):∀ (l:List BatchD) (dir:List SpotD) (pos:Nat),(batsIn seg dir pos l).length≤dir.length+chsN l
 | [],dir,_ => Nat.le_refl _
 | b :: r,dir,pos => by
  have h1:=batsIn_len seg r (chsIn seg (pos:Int) b.seq dir b.chs) (pos+sizeD b.seq b.chs)
  have h2:=chsIn_len seg (pos:Int) b.seq b.chs dir
  simp only [batsIn,chsN]
  omega
theorem varF_pos (n:Nat):1≤(Wd.varF 5 n).length:=by
 unfold Wd.varF
 split <;> simp
theorem changeB_three (A:ChangeD):3≤(changeB A).size:=by
 have h1:=shortB_len A.key
 have h2:=shortB_len A.value
 have h3:=varF_pos A.key.size
 have h4:=varF_pos A.value.size
 have h5:(flagB A.gone).size=1:=by cases A.gone <;> rfl
 unfold changeB
 rw [ByteArray.size_append,ByteArray.size_append]
 omega
theorem changesL_three:∀ l:List ChangeD,3 * l.length≤(changesL l).length
 | [] => Nat.le_refl _
 | A :: r => by
  have h1:=changesL_three r
  have h2:=changeB_three A
  have h3:(changeB A).data.toList.length=(changeB A).size:=rfl
  simp only [changesL,List.length_append,List.length_cons]
  omega
theorem rd_three (t:ByteArray):3 * (rdChanges t).length≤t.size:=by
 cases h:rdOk t with
 | false => simp [rdChanges,h]
 | true =>
  obtain ⟨h1,h2⟩:=rd_text h
  have h3:=changesL_three (rdChanges t)
  have h4:(textD (rdSeq t) (rdChanges t)).size=(batchL (rdSeq t).toNat (rdChanges t)).length:=by unfold textD;rw [if_pos h1];rfl
  rw [h2] at h4
  unfold batchL at h4
  rw [List.length_append] at h4
  omega
theorem ris_three (s:ByteArray):∀ (l:List (Nat × Nat)) (i:Nat) (last:Int) (e:Nat),i≤s.size→chained s i l→3 * chsN (ris s l last e).1+i≤s.size
 | [],i,_,_,hi,_ => by simp [ris,chsN];exact hi
 | x :: r,i,last,e,hi,hc => by
  obtain ⟨hf,hr⟩:=hc
  have hb:=frB_bounds s i x hf
  have ht:=rd_three (s.extract x.1 x.2)
  rw [ByteArray.size_extract] at ht
  by_cases h:rdOk (s.extract x.1 x.2)=true∧last < rdSeq (s.extract x.1 x.2)
  ·
   rw [ris_more h.1 h.2]
   have ih:=ris_three s r x.2 (rdSeq (s.extract x.1 x.2)) x.2 hb.2.2 hr
   simp only [chsN]
   omega
  ·
   rw [ris_no h]
   simp [chsN]
   exact hi
theorem segBatches_three (n:Int) (s:ByteArray):3 * chsN (segBatches n s)≤20000:=by
 by_cases hs:s.size≤20000
 ·
  unfold segBatches segRead
  have hc:=unf_chained s
  cases hu:unf s with
  | nil => exact Nat.zero_le _
  | cons x r =>
   rw [hu] at hc
   simp only []
   cases hh:hdFrom n (s.extract x.1 x.2) with
   | none => exact Nat.zero_le _
   | some f =>
    have:=ris_three s r x.2 (-1) x.2 (frB_bounds s 0 x hc.1).2.2 hc.2
    show 3 * chsN (ris s r (-1) x.2).1≤20000
    omega
 ·
  unfold segBatches segRead
  have hu:unf s=[]:=by unfold unf;rw [if_neg hs]
  rw [hu]
  exact Nat.zero_le _
theorem chsIn_snoc (seg pos q:Int):∀ (l:List ChangeD) (dir:List SpotD) (A:ChangeD),chsIn seg pos q dir (l ++ [A])=setD (chsIn seg pos q dir l) ⟨A.key,seg,pos,q⟩ A.gone
 | [],_,_ => rfl
 | B :: r,dir,A => chsIn_snoc seg pos q r (setD dir ⟨B.key,seg,pos,q⟩ B.gone) A
def totD:List BatchD→Nat
 | [] => 0
 | b :: r => sizeD b.seq b.chs+totD r
theorem batsIn_snoc (seg:Int):∀ (l:List BatchD) (b:BatchD) (dir:List SpotD) (e:Nat),batsIn seg dir e (l ++ [b])=chsIn seg ((e+totD l:Nat):Int) b.seq (batsIn seg dir e l) b.chs
 | [],_,_,_ => rfl
 | c :: r,b,dir,e => by
  have h:=batsIn_snoc seg r b (chsIn seg (e:Int) c.seq dir c.chs) (e+sizeD c.seq c.chs)
  simp only [List.cons_append,batsIn,totD]
  rw [h,Nat.add_assoc]
theorem totD_snoc:∀ (l:List BatchD) (b:BatchD),totD (l ++ [b])=totD l+sizeD b.seq b.chs
 | [],b => by simp [totD]
 | c :: r,b => by simp only [List.cons_append,totD];rw [totD_snoc r b];omega
theorem plsB_get:∀ (l:List BatchD) (e j:Nat) (h:j < (plsB e l).length),(plsB e l)[j]=e+totD (l.take j)
 | [],_,_,h => absurd h (by simp [plsB])
 | b :: r,e,0,_ => by simp [plsB,totD]
 | b :: r,e,j+1,h => by
  have h':j < (plsB (e+sizeD b.seq b.chs) r).length:=by simpa [plsB] using h
  have:=plsB_get r (e+sizeD b.seq b.chs) j h'
  simp only [plsB,List.getElem_cons_succ,List.take_succ_cons,totD]
  rw [this]
  omega
theorem chsN_snoc:∀ (l:List BatchD) (b:BatchD),chsN (l ++ [b])=chsN l+b.chs.length
 | [],b => by simp [chsN]
 | c :: r,b => by simp only [List.cons_append,chsN];rw [chsN_snoc r b];omega
theorem chsN_take_le (l:List BatchD) (j:Nat):chsN (l.take j)≤chsN l:=by
 have h:=List.take_append_drop j l
 have:∀ (a b:List BatchD),chsN (a ++ b)=chsN a+chsN b:=by
  intro a
  induction a with
  | nil => intro b;simp [chsN]
  | cons c r ih => intro b;simp only [List.cons_append,chsN];rw [ih];omega
 have h2:=this (l.take j) (l.drop j)
 rw [h] at h2
 omega
def SegD.hd (s:SegD):Nat:=(frameB ⟨(headL s.num s.frm).toArray⟩).size
def dirSegs:List SpotD→List SegD→List SpotD
 | dir,[] => dir
 | dir,s :: r => dirSegs (batsIn (s.num:Int) dir s.hd s.bs) r
theorem dirSegs_snoc:∀ (l:List SegD) (dir:List SpotD) (s:SegD),dirSegs dir (l ++ [s])=batsIn (s.num:Int) (dirSegs dir l) s.hd s.bs
 | [],_,_ => rfl
 | _ :: r,_,s => dirSegs_snoc r _ s
def segsN:List SegD→Nat
 | [] => 0
 | s :: r => chsN s.bs+segsN r
theorem segsN_snoc:∀ (l:List SegD) (s:SegD),segsN (l ++ [s])=segsN l+chsN s.bs
 | [],s => by simp [segsN]
 | c :: r,s => by simp only [List.cons_append,segsN];rw [segsN_snoc r s];omega
theorem segsN_le:∀ (l:List SegD),(∀ s ∈ l,3 * chsN s.bs≤20000)→3 * segsN l≤20000 * l.length
 | [],_ => by simp [segsN]
 | c :: r,h => by
  have h1:=segsN_le r (fun s hs => h s (List.mem_cons_of_mem _ hs))
  have h2:=h c (List.mem_cons_self ..)
  simp only [segsN,List.length_cons]
  omega
theorem dirSegs_len:∀ (l:List SegD) (dir:List SpotD),(dirSegs dir l).length≤dir.length+segsN l
 | [],dir => Nat.le_refl _
 | s :: r,dir => by
  have h1:=dirSegs_len r (batsIn (s.num:Int) dir s.hd s.bs)
  have h2:=batsIn_len (s.num:Int) s.bs dir s.hd
  simp only [dirSegs,segsN]
  omega
def dirD (fs:List FileD):List SpotD:=dirSegs [] (segsL fs)
theorem segsL_three {fs:List FileD} {s:SegD} (h:s ∈ segsL fs):3 * chsN s.bs≤20000:=by
 obtain ⟨-,-,F,-,hF,-⟩:=segsTo_mem (segsL_mem h)
 rw [hF]
 exact segBatches_three _ _
theorem segsL_N (fs:List FileD):segsN (segsL fs)≤666700:=by
 have h1:=segsN_le (segsL fs) (fun s hs => segsL_three hs)
 have h2:=segsL_len fs
 omega
theorem dirD_len (fs:List FileD):(dirD fs).length≤666700:=by
 have h1:=dirSegs_len (segsL fs) []
 have h2:=segsL_N fs
 unfold dirD
 simp at h1
 omega
theorem segsN_take_le:∀ (l:List SegD) (j:Nat),segsN (l.take j)≤segsN l
 | [],j => by simp [segsN]
 | _ :: _,0 => by simp [segsN]
 | c :: r,j+1 => by
  have:=segsN_take_le r j
  simp only [List.take_succ_cons,segsN]
  omega
theorem ris_ok (s:ByteArray):∀ (l:List (Nat × Nat)) (last:Int) (e:Nat),∀ b ∈ (ris s l last e).1,textOkD b.seq b.chs=true
 | [],_,_,_,h => absurd h (by simp [ris])
 | x :: r,last,e,b,h => by
  by_cases hc:rdOk (s.extract x.1 x.2)=true∧last < rdSeq (s.extract x.1 x.2)
  ·
   rw [ris_more hc.1 hc.2] at h
   rcases List.mem_cons.1 h with rfl | h
   · exact (rd_text hc.1).1
   · exact ris_ok s r _ _ b h
  ·
   rw [ris_no hc] at h
   exact absurd h List.not_mem_nil
theorem segBatches_ok {n:Int} {s:ByteArray} {b:BatchD} (h:b ∈ segBatches n s):textOkD b.seq b.chs=true:=by
 cases hr:segRead n s with
 | none => rw [(seg_none hr).2.1] at h;exact absurd h List.not_mem_nil
 | some q =>
  obtain ⟨f,bs,e⟩:=q
  rw [(seg_some hr).2.1] at h
  cases hu:unf s with
  | nil => rw [segRead_nil hu] at hr;simp at hr
  | cons x r =>
   cases hh:hdFrom n (s.extract x.1 x.2) with
   | none => rw [segRead_head hu hh] at hr;simp at hr
   | some f' =>
    rw [segRead_some hu hh] at hr
    simp only [Option.some.injEq,Prod.mk.injEq] at hr
    refine ris_ok s r (-1) x.2 b ?_
    rw [hr.2]
    exact h
theorem textOk_small {q:Int} {cs:List ChangeD} (h:textOkD q cs=true):cs.length≤40∧(0≤q∧q≤1000000000)∧∀ A ∈ cs,A.key.size≤20∧A.value.size≤2000:=by
 unfold textOkD at h
 simp only [Bool.and_eq_true] at h
 have h1:=batchOkD_bounds h.1
 refine ⟨h1.2.2.2,⟨h1.1,h1.2.1⟩,?_⟩
 have h2:=h.1
 unfold batchOkD at h2
 simp only [Bool.and_eq_true] at h2
 exact okChg_small cs none h2.2.2
theorem segsL_ok {fs:List FileD} {s:SegD} (h:s ∈ segsL fs):∀ b ∈ s.bs,textOkD b.seq b.chs=true:=by
 obtain ⟨-,-,F,-,hF,-⟩:=segsTo_mem (segsL_mem h)
 intro b hb
 rw [hF] at hb
 exact segBatches_ok hb
def keysUp (m:Nat) (dir:List SpotD):Prop:=∀ A ∈ dir,A.key.size≤m
theorem keysUp_set {m:Nat} {dir:List SpotD} {F:SpotD} {gone:Bool} (h:keysUp m dir) (hF:F.key.size≤m):keysUp m (setD dir F gone):=by
 intro A hA
 unfold setD at hA
 rcases List.mem_append.1 hA with hA | hA
 ·
  rcases List.mem_append.1 hA with hA | hA
  · exact h A (List.mem_filter.1 hA).1
  ·
   cases gone
   ·
    obtain rfl:A=F:=by simpa using hA
    exact hF
   · simp at hA
 · exact h A (List.mem_filter.1 hA).1
theorem keysUp_chs {m:Nat} (seg pos q:Int):∀ (l:List ChangeD) (dir:List SpotD),keysUp m dir→(∀ A ∈ l,A.key.size≤m)→keysUp m (chsIn seg pos q dir l)
 | [],_,h,_ => h
 | A :: r,_,h,hl => keysUp_chs seg pos q r _ (keysUp_set h (hl A (List.mem_cons_self ..))) (fun B hB => hl B (List.mem_cons_of_mem _ hB))
theorem keysUp_bats {m:Nat} (seg:Int):∀ (l:List BatchD) (dir:List SpotD) (e:Nat),keysUp m dir→(∀ b ∈ l,∀ A ∈ b.chs,A.key.size≤m)→keysUp m (batsIn seg dir e l)
 | [],_,_,h,_ => h
 | b :: r,_,_,h,hl => keysUp_bats seg r _ _ (keysUp_chs seg _ _ b.chs _ h (hl b (List.mem_cons_self ..))) (fun c hc => hl c (List.mem_cons_of_mem _ hc))
theorem keysUp_segs {m:Nat}:∀ (l:List SegD) (dir:List SpotD),keysUp m dir→(∀ s ∈ l,∀ b ∈ s.bs,∀ A ∈ b.chs,A.key.size≤m)→keysUp m (dirSegs dir l)
 | [],_,h,_ => h
 | s :: r,_,h,hl => keysUp_segs r _ (keysUp_bats _ s.bs _ _ h (hl s (List.mem_cons_self ..))) (fun c hc => hl c (List.mem_cons_of_mem _ hc))
theorem dirD_keys (fs:List FileD):keysUp 20 (dirD fs) :=
 keysUp_segs (segsL fs) [] (fun _ hA => absurd hA List.not_mem_nil) (fun _ hs b hb A hA => ((textOk_small (segsL_ok hs b hb)).2.2 A hA).1)
end Go.Proofs.YtbenmgokhklnjaaGreatDoor
namespace Go.Proofs.YtbenmgokhklnjaaGreatDoor
open Go.RowKit Go.Maps
def kl (s:ByteArray):Lit:=.string s.data.toList
theorem kl_inj {a b:ByteArray} (h:kl a=kl b):a=b:=by
 unfold kl at h
 cases a;cases b
 simp at h
 simp [h]
theorem kl_ne {a b:ByteArray} (h:a ≠ b):kl a ≠ kl b:=fun e => h (kl_inj e)
theorem kl_key (s:ByteArray):WideAt.IsKeyLit (kl s):=by
 unfold kl
 exact trivial
theorem toList_ne {a b:ByteArray}:(a.toList == b.toList)=false ↔ a ≠ b:=by
 rw [beq_eq_false_iff_ne]
 constructor
 · intro h e;exact h (by rw [e])
 · intro h e;exact h (by rw [Lib.toList_data,Lib.toList_data] at e;cases a;cases b;simp at e;simp [e])
theorem less_trans {a b c:List UInt8} (h1:Op.bytesLess a b=true) (h2:Op.bytesLess b c=true):Op.bytesLess a c=true:=by
 rw [Go.Proofs.bytesLess_eq,decide_eq_true_eq] at *
 exact List.lt_trans h1 h2
theorem less_irrefl (a:List UInt8):Op.bytesLess a a=false:=by
 rw [Go.Proofs.bytesLess_eq,decide_eq_false_iff_not]
 exact List.lt_irrefl a
theorem less_total {a b:List UInt8} (h1:Op.bytesLess a b=false) (h2:a ≠ b):Op.bytesLess b a=true:=by
 rw [Go.Proofs.bytesLess_eq] at *
 rw [decide_eq_true_eq]
 rw [decide_eq_false_iff_not] at h1
 exact Decidable.byContradiction fun h => h2 (List.le_antisymm (List.not_lt.1 h) (List.not_lt.1 h1))
end Go.Proofs.YtbenmgokhklnjaaGreatDoor
namespace Go.Proofs.YtbenmgokhklnjaaGreatDoor
open Go.RowKit
def lessF (nm:ByteArray) (F:FileD):Bool:=Op.bytesLess F.name.toList nm.toList
def moreF (nm:ByteArray) (F:FileD):Bool:=!(Op.bytesLess F.name.toList nm.toList || F.name.toList == nm.toList)
def otherF (nm:ByteArray) (F:FileD):Bool:=!(F.name.toList == nm.toList)
def putD (fs:List FileD) (F:FileD):List FileD:=fs.filter (lessF F.name) ++ [F] ++ fs.filter (moreF F.name)
def withoutD (fs:List FileD) (nm:ByteArray):List FileD:=fs.filter (otherF nm)
theorem filter_next {fs:List FileD} {k:Nat} (p:FileD→Bool) (h:k < fs.length):(fs.take (k+1)).filter p=(fs.take k).filter p ++ (if p fs[k]=true then [fs[k]] else []):=by
 rw [List.take_add_one,List.getElem?_eq_getElem h,List.filter_append]
 congr 1
 simp only [Option.toList,List.filter_cons,List.filter_nil]
theorem filter_le {fs:List FileD} (p:FileD→Bool) (k:Nat):((fs.take k).filter p).length≤fs.length :=
 Nat.le_trans (List.length_filter_le _ _) (by rw [List.length_take];omega)
def srt (fs:List FileD):Prop:=fs.Pairwise (fun a b => Op.bytesLess a.name.toList b.name.toList=true)
theorem okFrom_some:∀ (fs:List FileD) (p:ByteArray),okFrom (some p) fs=true ↔ ((∀ F ∈ fs,fileOkD F=true)∧(∀ F ∈ fs,Op.bytesLess p.toList F.name.toList=true)∧srt fs)
 | [],p => by simp [okFrom,srt]
 | F :: r,p => by
  simp only [okFrom,Bool.and_eq_true,okFrom_some r F.name,srt,List.pairwise_cons,List.mem_cons,forall_eq_or_imp]
  constructor
  ·
   rintro ⟨h1,h2,h3,h4,h5⟩
   exact ⟨⟨h1,h3⟩,⟨h2,fun G hG => less_trans h2 (h4 G hG)⟩,h4,h5⟩
  ·
   rintro ⟨⟨h1,h3⟩,⟨h2,_⟩,h4,h5⟩
   exact ⟨h1,h2,h3,h4,h5⟩
theorem okFrom_none (fs:List FileD):okFrom none fs=true ↔ ((∀ F ∈ fs,fileOkD F=true)∧srt fs):=by
 cases fs with
 | nil => simp [okFrom,srt]
 | cons F r =>
  simp only [okFrom,Bool.and_eq_true,okFrom_some r F.name,srt,List.pairwise_cons,List.mem_cons,forall_eq_or_imp]
  constructor
  ·
   rintro ⟨h1,h3,h4,h5⟩
   exact ⟨⟨h1,h3⟩,h4,h5⟩
  ·
   rintro ⟨⟨h1,h3⟩,h4,h5⟩
   exact ⟨h1,h3,h4,h5⟩
theorem disk_iff (fs:List FileD):diskOkD fs=true ↔ (fs.length≤30∧(∀ F ∈ fs,fileOkD F=true)∧srt fs):=by
 rw [diskOkD,Bool.and_eq_true,decide_eq_true_eq,okFrom_none]
theorem mem_putD {fs:List FileD} {F G:FileD}:G ∈ putD fs F ↔ (G ∈ fs∧lessF F.name G=true) ∨ G=F ∨ (G ∈ fs∧moreF F.name G=true):=by
 simp [putD]
theorem srt_putD {fs:List FileD} (F:FileD) (h:srt fs):srt (putD fs F):=by
 unfold putD srt
 rw [List.pairwise_append,List.pairwise_append]
 refine ⟨⟨List.Pairwise.filter _ h,by simp,?_⟩,List.Pairwise.filter _ h,?_⟩
 ·
  intro a ha b hb
  rw [List.mem_singleton] at hb
  subst hb
  exact (List.mem_filter.1 ha).2
 ·
  intro a ha b hb
  have hb2:=(List.mem_filter.1 hb).2
  simp only [moreF,Bool.not_eq_true',Bool.or_eq_false_iff,beq_eq_false_iff_ne] at hb2
  have hFb:Op.bytesLess F.name.toList b.name.toList=true:=less_total hb2.1 hb2.2
  rcases List.mem_append.1 ha with ha | ha
  · exact less_trans (List.mem_filter.1 ha).2 hFb
  ·
   rw [List.mem_singleton] at ha
   subst ha
   exact hFb
theorem srt_without {fs:List FileD} (nm:ByteArray) (h:srt fs):srt (withoutD fs nm):=List.Pairwise.filter _ h
theorem len_putD_le (fs:List FileD) (F:FileD):(putD fs F).length≤fs.length+1:=by
 have key:∀ l:List FileD,(l.filter (lessF F.name)).length+(l.filter (moreF F.name)).length≤l.length:=by
  intro l
  induction l with
  | nil => simp
  | cons G r ih =>
   simp only [List.filter_cons]
   by_cases h1:lessF F.name G=true
   ·
    have h2:moreF F.name G=false:=by simp only [lessF] at h1;simp [moreF,h1]
    simp [h1,h2];omega
   ·
    by_cases h2:moreF F.name G=true
    · simp [h1,h2];omega
    · simp [h1,h2];omega
 have:=key fs
 simp only [putD,List.length_append,List.length_singleton]
 omega
structure ActD where
 kind:Int
 name:ByteArray
 text:ByteArray
 toN:ByteArray
def actF (fs:List FileD) (A:ActD):FileD:=(fileD fs A.name).getD ⟨A.name,⟨#[]⟩,0⟩
def rawD (fs:List FileD) (A:ActD):Option (List FileD) :=
 if A.kind=1 then some (putD fs ⟨(actF fs A).name,(actF fs A).text ++ A.text,(actF fs A).kept⟩)
 else if (fileD fs A.name).isSome=false then none
 else if A.kind=2 then some (putD fs ⟨(actF fs A).name,(actF fs A).text,(actF fs A).text.size⟩)
 else if A.kind=3 then (if (decide ((actF fs A).kept < ((actF fs A).text.size:Int)) || (A.toN.toList == A.name.toList) || !nameOkD A.toN)=true then none else some (putD (withoutD fs A.name) ⟨A.toN,(actF fs A).text,(actF fs A).kept⟩))
 else if A.kind=4 then some (withoutD fs A.name)
 else none
def actOk (fs:List FileD) (A:ActD):Bool:=diskOkD fs && (nameOkD A.name && (!(!(A.kind == 3) && !A.toN.toList.isEmpty) && !(!(A.kind == 1) && !A.text.toList.isEmpty)))
def actD (fs:List FileD) (A:ActD):Option (List FileD):=if actOk fs A=true then (rawD fs A).bind (fun g => if diskOkD g=true then some g else none) else none
theorem actD_no {fs:List FileD} {A:ActD} (h:actOk fs A=false):actD fs A=none:=by rw [actD,if_neg (by rw [h];decide)]
theorem actD_raw {fs:List FileD} {A:ActD} (h:actOk fs A=true) (hr:rawD fs A=none):actD fs A=none:=by rw [actD,if_pos h,hr];rfl
theorem actD_bad {fs g:List FileD} {A:ActD} (h:actOk fs A=true) (hr:rawD fs A=some g) (hg:diskOkD g=false):actD fs A=none:=by
 rw [actD,if_pos h,hr]
 show (if diskOkD g=true then some g else none)=none
 rw [if_neg (by rw [hg];decide)]
theorem actD_yes {fs g:List FileD} {A:ActD} (h:actOk fs A=true) (hr:rawD fs A=some g) (hg:diskOkD g=true):actD fs A=some g:=by
 rw [actD,if_pos h,hr]
 show (if diskOkD g=true then some g else none)=some g
 rw [if_pos hg]
def actsF:List FileD→List ActD→List FileD × Nat
 | fs,[] => (fs,0)
 | fs,A :: r => match actD fs A with
  | none => (fs,0)
  | some g => ((actsF g r).1,(actsF g r).2+1)
theorem actsF_no {fs:List FileD} {qs:List ActD} {k:Nat} (h:k < qs.length) (hA:actD fs qs[k]=none):actsF fs (qs.drop k)=(fs,0):=by
 rw [List.drop_eq_getElem_cons h,actsF,hA]
theorem actsF_yes {fs g:List FileD} {qs:List ActD} {k:Nat} (h:k < qs.length) (hA:actD fs qs[k]=some g):actsF fs (qs.drop k)=((actsF g (qs.drop (k+1))).1,(actsF g (qs.drop (k+1))).2+1):=by
 rw [List.drop_eq_getElem_cons h,actsF,hA]
theorem actsF_end {fs:List FileD} {qs:List ActD} {k:Nat} (h:qs.length≤k):actsF fs (qs.drop k)=(fs,0):=by
 rw [List.drop_eq_nil_of_le h,actsF]
theorem actD_ok {fs g:List FileD} {A:ActD} (h:actD fs A=some g):diskOkD g=true:=by
 unfold actD at h
 split at h
 ·
  cases hr:rawD fs A with
  | none => rw [hr] at h;cases h
  | some x =>
   rw [hr] at h
   have h2:(if diskOkD x=true then some x else none)=some g:=h
   split at h2
   · cases h2;assumption
   · cases h2
 · cases h
def ActsAt (w:World) (ao:Option Addr) (qs:List ActD):Prop:=∀ j (h:j < qs.length),∃ b off:Nat,ao=some ⟨b,off,none⟩∧b < w.heap.size ∧
 w.cell? ⟨b,off+j * 4,none⟩=some (.int .i64 qs[j].kind)∧w.cell? ⟨b,off+j * 4+1,none⟩=some (.string qs[j].name)∧w.cell? ⟨b,off+j * 4+2,none⟩=some (.string qs[j].text)∧w.cell? ⟨b,off+j * 4+3,none⟩=some (.string qs[j].toN)
theorem actsAt_keep {w w':World} {ao:Option Addr} {qs:List ActD} (h:ActsAt w ao qs) (hb:Below w.heap.size w w'):ActsAt w' ao qs:=by
 intro j hj
 obtain ⟨b,off,h1,h2,h3,h4,h5,h6⟩:=h j hj
 exact ⟨b,off,h1,Nat.lt_of_lt_of_le h2 hb.size,(hb.cell (p:=⟨b,off+j * 4,none⟩) h2).trans h3,(hb.cell (p:=⟨b,off+j * 4+1,none⟩) h2).trans h4,(hb.cell (p:=⟨b,off+j * 4+2,none⟩) h2).trans h5,(hb.cell (p:=⟨b,off+j * 4+3,none⟩) h2).trans h6⟩
end Go.Proofs.YtbenmgokhklnjaaGreatDoor
