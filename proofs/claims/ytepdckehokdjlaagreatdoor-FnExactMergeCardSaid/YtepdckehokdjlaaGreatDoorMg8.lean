import Derived.Deep.LoopGhost
import Derived.Test.YtepdckehokdjlaaGreatDoorMg7
import Derived.Test.YtepdckehokdjlaaGreatDoorMg1
import Derived.Test.YtepdckehokdjlaaGreatDoorMg0
import Derived.Test.YtepdckehokdjlaaGreatDoorMg4
import Derived.Test.YtepdckehokdjlaaGreatDoorMg3
set_option maxRecDepth 100000
set_option maxHeartbeats 3200000
namespace Go.Proofs.YtepdckehokdjlaaGreatDoor
open Go.RowKit
def spLt (k:ByteArray) (A:SpotD):Bool:=Op.bytesLess A.key.toList k.toList
def spGt (k:ByteArray) (A:SpotD):Bool:=!Op.bytesLess A.key.toList k.toList && !(A.key.toList == k.toList)
def setD (fs:List SpotD) (s:SpotD) (gone:Bool):List SpotD:=fs.filter (spLt s.key) ++ (if gone then [] else [s]) ++ fs.filter (spGt s.key)
theorem filter_take (f:SpotD→Bool) {fs:List SpotD} {k:Nat} (h:k < fs.length):(fs.take (k+1)).filter f=(fs.take k).filter f ++ (if f fs[k] then [fs[k]] else []):=by
 rw [List.take_succ_eq_append_getElem h,List.filter_append]
 congr 1
 cases hf:f fs[k] <;> simp [hf]
theorem filter_take_le (f:SpotD→Bool) (fs:List SpotD) (k:Nat):((fs.take k).filter f).length≤fs.length :=
 Nat.le_trans (List.length_filter_le _ _) (by rw [List.length_take];omega)
theorem lt_gt_le (k:ByteArray):∀ fs:List SpotD,(fs.filter (spLt k)).length+(fs.filter (spGt k)).length≤fs.length
 | [] => Nat.le_refl _
 | A :: r => by
  have ih:=lt_gt_le k r
  simp only [List.filter_cons,List.length_cons]
  cases h1:spLt k A with
  | true =>
   have h2:spGt k A=false:=by unfold spLt at h1;unfold spGt;rw [h1];rfl
   rw [h2];simp;omega
  | false =>
   cases h2:spGt k A <;> simp <;> omega
theorem setD_le (fs:List SpotD) (s:SpotD) (gone:Bool):(setD fs s gone).length≤fs.length+1:=by
 have:=lt_gt_le s.key fs
 unfold setD
 cases gone <;> simp <;> omega
theorem filter_part (f:SpotD→Bool) (fs:List SpotD) (k:Nat):((fs.take k).filter f).length≤(fs.filter f).length :=
 List.Sublist.length_le ((List.take_sublist k fs).filter f)
theorem l07Set_any (fs:List SpotD) (ao:Option Addr) (cap:Nat) (s:SpotD) (gone:Bool) (w:World) (hl:fs.length≤1000000) (hfs:SpotsAt w ao fs) :
  Calls Tryz.prog 85 #[.slice ao fs.length cap,.agg #[.string s.key,.int .i64 s.seg,.int .i64 s.pos,.int .i64 s.seq],.bool gone] w fun e w' => (∃ v,e=.returned v∧w'.ownsRow w.heap.size 106 4 v (setD fs s gone).length (cellsSpot (setD fs s gone)))∧Below w.heap.size w w':=by
 obtain ⟨key,seg,pos,seq⟩:=s
 have HF:=hide hfs
 clear hfs
 obtain ⟨wb,hwb⟩:∃ wb,wb=(w.alloc (.cells #[.string key,.int .i64 seg,.int .i64 pos,.int .i64 seq] 106)).alloc (.cells #[] 106):=⟨_,rfl⟩
 have HB0:Hid (Below w.heap.size w wb):=by rw [hwb];exact ((Below.refl _ w).alloc (Nat.le_refl _) _).alloc (by simp) _
 have hbs:w.heap.size+2≤wb.heap.size:=by rw [hwb];simp
 have HX0:Hid (wb.heap[w.heap.size]? = some (.cells #[.string key,.int .i64 seg,.int .i64 pos,.int .i64 seq] 106 (0,0))):=by
  show _=_
  rw [hwb]
  exact (((Below.refl _ (w.alloc (.cells #[.string key,.int .i64 seg,.int .i64 pos,.int .i64 seq] 106))).alloc (Nat.le_refl _) (.cells #[] 106)).block _ (by simp)).trans (heap_alloc_new w _)
 have HO0:Hid (wb.ownsRow (w.heap.size+1) 106 4 (.slice (some ⟨w.heap.size+1,0,none⟩) 0 0) 0 []):=by
  rw [hwb]
  have:=World.ownsRow_lit (e:=106) (size:=4) (w.alloc (.cells #[.string key,.int .i64 seg,.int .i64 pos,.int .i64 seq] 106)) #[] 0 (Nat.le_refl _) (by unfold maxLen;omega) (by simp)
  show World.ownsRow _ _ _ _ _ _ _
  simpa using this
 go_enter Tryz.func85,Tryz.ntmps85
 go_wp2_with fail
 rw [← hwb]
 clear hwb
 go_loopg [7,8] fs.length (fun gg v ii wr => ∃ (k:Nat),k+gg=fs.length∧ii=.int .i64 k∧k≤fs.length∧Hid (wr.ownsRow (w.heap.size+1) 106 4 v ((fs.take k).filter (spLt key)).length (cellsSpot ((fs.take k).filter (spLt key))))∧Hid (Below (w.heap.size+1) wb wr))
 case atStart => exact ⟨0,by omega,rfl,Nat.zero_le _,HO0,Below.refl _ _⟩
 case round =>
  obtain ⟨k,hkg,rfl,hk,HO,HB⟩:=hrel
  have hws:wb.heap.size≤wr.heap.size:=HB.out.size
  have HBw:Hid (Below w.heap.size w wr):=HB0.out.trans (HB.out.mono (by omega))
  have HXr:Hid (wr.heap[w.heap.size]? = some (.cells #[.string key,.int .i64 seg,.int .i64 pos,.int .i64 seq] 106 (0,0))):=(HB.out.block _ (by omega)).trans HX0.out
  have hck:wr.cell? ⟨w.heap.size,0,none⟩=some (.string key):=(cell_of_row wr _ 0 _ _ (0,0) HXr.out).trans rfl
  cases gk with
  | succ g0 =>
   have hlt:k < fs.length:=by omega
   have hlt':decide ((k:Int) < (fs.length:Int))=true:=by simp;omega
   obtain ⟨b,off,rfl,hbl,hd0,hd1,hd2,hd3⟩:=spotsAt_keep HF.out HBw.out k hlt
   have HN:=hide (filter_take (spLt key) hlt)
   obtain ⟨A,HA⟩:∃ A,Hid (fs[k]=A):=⟨_,hide rfl⟩
   rw [HA.out] at hd0 hd1 hd2 hd3 HN
   have hLl:=filter_take_le (spLt key) fs k
   obtain ⟨L,HL⟩:∃ L,Hid ((fs.take k).filter (spLt key)=L):=⟨_,hide rfl⟩
   rw [HL.out] at HO HN hLl
   have hki0:(0:Int)≤(k:Int):=by omega
   have hki1:(k:Int) < (fs.length:Int):=by omega
   go_wp2_with fail
   cases hless:Op.bytesLess A.key.toList key.toList with
   | false =>
    have HN1:Hid ((fs.take (k+1)).filter (spLt key)=L):=by
     show _=_
     rw [HN.out];unfold spLt;rw [hless];simp
    go_quiet (fail)
    go_wp2_with fail
    go_roundg g0
    case rel => exact ⟨k+1,by omega,by go_num,by omega,by show World.ownsRow _ _ _ _ _ _ _;rw [HN1.out];exact ownsRow_drewN HO.out _,below_drewN HB.out _⟩
    case measure => omega
   | true =>
    have HN1:Hid ((fs.take (k+1)).filter (spLt key)=L ++ [A]):=by
     show _=_
     rw [HN.out];unfold spLt;rw [hless];simp
    go_quiet (fail)
    go_wp2_with (at_builtin;refine app_spot _ (w.heap.size+1) (by rfl) _ _ (by rfl) _ L A (by rfl) ((ownsRow_drewN HO.out nq).alloc _) wr.heap.size (by rfl) (heap_alloc_new (wr.drewN nq) _) (by omega) (by simp;omega) ?_;intro g11 cap11 w11 ho11 hb11 hg11 hgl11;have HO11:=hide ho11;have HB11:=hide hb11;clear ho11 hb11 hg11 hgl11)
    go_roundg g0
    case rel => exact ⟨k+1,by omega,by go_num,by omega,by show World.ownsRow _ _ _ _ _ _ _;rw [HN1.out];exact HO11.out,((below_drewN HB.out nq).alloc (by show _≤wr.heap.size;omega) _).trans HB11.out⟩
    case measure => omega
  | zero =>
   have hlt':decide ((k:Int) < (fs.length:Int))=false:=by simp;omega
   have hltn:decide (k < fs.length)=false:=by simp;omega
   have hke:fs.take k=fs:=List.take_of_length_le (by omega)
   rw [hke] at HO
   clear hke
   obtain ⟨L0,HL0⟩:∃ L,Hid (fs.filter (spLt key)=L):=⟨_,hide rfl⟩
   rw [HL0.out] at HO
   have hL0:L0.length≤fs.length:=by rw [← HL0.out];exact List.length_filter_le _ _
   have hck0:=hck
   have hck1:wr.cell? ⟨w.heap.size,1,none⟩=some (.int .i64 seg):=(cell_of_row wr _ 1 _ _ (0,0) HXr.out).trans rfl
   have hck2:wr.cell? ⟨w.heap.size,2,none⟩=some (.int .i64 pos):=(cell_of_row wr _ 2 _ _ (0,0) HXr.out).trans rfl
   have hck3:wr.cell? ⟨w.heap.size,3,none⟩=some (.int .i64 seq):=(cell_of_row wr _ 3 _ _ (0,0) HXr.out).trans rfl
   cases gone with
   | true =>
    obtain ⟨M,HM⟩:∃ M,Hid (L0=M):=⟨_,hide rfl⟩
    have HMS:Hid (setD fs ⟨key,seg,pos,seq⟩ true=M ++ fs.filter (spGt key)):=by show _=_;unfold setD;rw [← HM.out,← HL0.out];simp
    go_wp2_with fail
    have HOM:=HO
    rw [HM.out] at HOM
    have HBM:=HB
    have hM:M.length+(fs.filter (spGt key)).length≤fs.length+1:=by have:=lt_gt_le key fs;rw [← HM.out,← HL0.out];omega
    clear HO HB HXr hck hck0 hck1 hck2 hck3 HBw hws HL0 HM hL0
    go_loopg [7,9] fs.length (fun gg v ii wr => ∃ (k:Nat),k+gg=fs.length∧ii=.int .i64 k∧k≤fs.length∧Hid (wr.ownsRow (w.heap.size+1) 106 4 v (M ++ (fs.take k).filter (spGt key)).length (cellsSpot (M ++ (fs.take k).filter (spGt key))))∧Hid (Below (w.heap.size+1) wb wr))
    case atStart => exact ⟨0,by omega,rfl,Nat.zero_le _,by show World.ownsRow _ _ _ _ _ _ _;rw [List.take_zero,List.filter_nil,List.append_nil];exact HOM.out,HBM⟩
    case round =>
     clear HOM HBM
     obtain ⟨j,hjg,rfl,hj,HO2,HB2⟩:=hrel
     have hws2:wb.heap.size≤wr.heap.size:=HB2.out.size
     have HBw2:Hid (Below w.heap.size w wr):=HB0.out.trans (HB2.out.mono (by omega))
     have hck2:wr.cell? ⟨w.heap.size,0,none⟩=some (.string key):=(cell_of_row wr _ 0 _ _ (0,0) ((HB2.out.block _ (by omega)).trans HX0.out)).trans rfl
     cases gk with
     | succ g1 =>
      have hlt:j < fs.length:=by omega
      have hlt2:decide ((j:Int) < (fs.length:Int))=true:=by simp;omega
      obtain ⟨b,off,rfl,hbl,hd0,hd1,hd2,hd3⟩:=spotsAt_keep HF.out HBw2.out j hlt
      have HN:=hide (filter_take (spGt key) hlt)
      obtain ⟨A,HA⟩:∃ A,Hid (fs[j]=A):=⟨_,hide rfl⟩
      rw [HA.out] at hd0 hd1 hd2 hd3 HN
      have hLl:=filter_part (spGt key) fs j
      obtain ⟨L,HL⟩:∃ L,Hid (M ++ (fs.take j).filter (spGt key)=L):=⟨_,hide rfl⟩
      have hLL:L.length≤1000001:=by rw [← HL.out,List.length_append];omega
      rw [HL.out] at HO2
      have hki0:(0:Int)≤(j:Int):=by omega
      have hki1:(j:Int) < (fs.length:Int):=by omega
      clear hLl
      go_wp2_with fail
      cases hless:Op.bytesLess A.key.toList key.toList with
      | true =>
       have HN1:Hid (M ++ (fs.take (j+1)).filter (spGt key)=L):=by
        show _=_
        rw [HN.out,← HL.out];unfold spGt;rw [hless];simp
       go_quiet (fail)
       go_wp2_with fail
       go_roundg g1
       case rel => exact ⟨j+1,by omega,by go_num,by omega,by show World.ownsRow _ _ _ _ _ _ _;rw [HN1.out];exact ownsRow_drewN HO2.out _,below_drewN HB2.out _⟩
       case measure => omega
      | false =>
       cases hsame:(A.key.toList == key.toList) with
       | true =>
        have HN1:Hid (M ++ (fs.take (j+1)).filter (spGt key)=L):=by
         show _=_
         rw [HN.out,← HL.out];unfold spGt;rw [hless,hsame];simp
        go_quiet (fail)
        go_wp2_with fail
        go_roundg g1
        case rel => exact ⟨j+1,by omega,by go_num,by omega,by show World.ownsRow _ _ _ _ _ _ _;rw [HN1.out];exact ownsRow_drewN HO2.out _,below_drewN HB2.out _⟩
        case measure => omega
       | false =>
        have HN1:Hid (M ++ (fs.take (j+1)).filter (spGt key)=L ++ [A]):=by
         show _=_
         rw [HN.out,← HL.out];unfold spGt;rw [hless,hsame];simp
        go_quiet (fail)
        go_wp2_with (at_builtin;refine app_spot _ (w.heap.size+1) (by rfl) _ _ (by rfl) _ L A (by rfl) ((ownsRow_drewN HO2.out nq).alloc _) wr.heap.size (by rfl) (heap_alloc_new (wr.drewN nq) _) (by omega) (by simp;omega) ?_;intro g12 cap12 w12 ho12 hb12 hg12 hgl12;have HO12:=hide ho12;have HB12:=hide hb12;clear ho12 hb12 hg12 hgl12)
        go_roundg g1
        case rel => exact ⟨j+1,by omega,by go_num,by omega,by show World.ownsRow _ _ _ _ _ _ _;rw [HN1.out];exact HO12.out,((below_drewN HB2.out nq).alloc (by show _≤wr.heap.size;omega) _).trans HB12.out⟩
        case measure => omega
     | zero =>
      have hlt2:decide ((j:Int) < (fs.length:Int))=false:=by simp;omega
      have hke:fs.take j=fs:=List.take_of_length_le (by omega)
      rw [hke] at HO2
      clear hke
      go_wp2
      go_ret
      refine ⟨⟨_,rfl,?_⟩,HBw2.out⟩
      rw [HMS.out]
      exact ownsRow_mono HO2.out (by omega)
   | false =>
    go_wp2_with (at_builtin;refine app_spot _ (w.heap.size+1) (by rfl) _ _ (by rfl) _ L0 ⟨key,seg,pos,seq⟩ (by rfl) (HO.out.alloc _) wr.heap.size (by rfl) (heap_alloc_new wr _) (by omega) (by simp;omega) ?_;intro g11 cap11 w11 ho11 hb11 hg11 hgl11;have HO11:=hide ho11;have HB11:=hide hb11;clear ho11 hb11 hg11 hgl11)
    obtain ⟨M,HM⟩:∃ M,Hid (L0 ++ [(⟨key,seg,pos,seq⟩:SpotD)]=M):=⟨_,hide rfl⟩
    have HMS:Hid (setD fs ⟨key,seg,pos,seq⟩ false=M ++ fs.filter (spGt key)):=by show _=_;unfold setD;rw [← HM.out,← HL0.out];simp
    have HOM:=HO11
    rw [HM.out] at HOM
    have HBM:Hid (Below (w.heap.size+1) wb w11):=(HB.out.alloc (by omega) _).trans HB11.out
    have hM:M.length+(fs.filter (spGt key)).length≤fs.length+1:=by have:=lt_gt_le key fs;rw [← HM.out,← HL0.out,List.length_append];simp;omega
    clear HO HB HXr hck hck0 hck1 hck2 hck3 HBw hws HL0 HM hL0 HO11 HB11
    go_loopg [7,9] fs.length (fun gg v ii wr => ∃ (k:Nat),k+gg=fs.length∧ii=.int .i64 k∧k≤fs.length∧Hid (wr.ownsRow (w.heap.size+1) 106 4 v (M ++ (fs.take k).filter (spGt key)).length (cellsSpot (M ++ (fs.take k).filter (spGt key))))∧Hid (Below (w.heap.size+1) wb wr))
    case atStart => exact ⟨0,by omega,rfl,Nat.zero_le _,by show World.ownsRow _ _ _ _ _ _ _;rw [List.take_zero,List.filter_nil,List.append_nil];exact HOM.out,HBM⟩
    case round =>
     clear HOM HBM
     obtain ⟨j,hjg,rfl,hj,HO2,HB2⟩:=hrel
     have hws2:wb.heap.size≤wr.heap.size:=HB2.out.size
     have HBw2:Hid (Below w.heap.size w wr):=HB0.out.trans (HB2.out.mono (by omega))
     have hck2:wr.cell? ⟨w.heap.size,0,none⟩=some (.string key):=(cell_of_row wr _ 0 _ _ (0,0) ((HB2.out.block _ (by omega)).trans HX0.out)).trans rfl
     cases gk with
     | succ g1 =>
      have hlt:j < fs.length:=by omega
      have hlt2:decide ((j:Int) < (fs.length:Int))=true:=by simp;omega
      obtain ⟨b,off,rfl,hbl,hd0,hd1,hd2,hd3⟩:=spotsAt_keep HF.out HBw2.out j hlt
      have HN:=hide (filter_take (spGt key) hlt)
      obtain ⟨A,HA⟩:∃ A,Hid (fs[j]=A):=⟨_,hide rfl⟩
      rw [HA.out] at hd0 hd1 hd2 hd3 HN
      have hLl:=filter_part (spGt key) fs j
      obtain ⟨L,HL⟩:∃ L,Hid (M ++ (fs.take j).filter (spGt key)=L):=⟨_,hide rfl⟩
      have hLL:L.length≤1000001:=by rw [← HL.out,List.length_append];omega
      rw [HL.out] at HO2
      have hki0:(0:Int)≤(j:Int):=by omega
      have hki1:(j:Int) < (fs.length:Int):=by omega
      clear hLl
      go_wp2_with fail
      cases hless:Op.bytesLess A.key.toList key.toList with
      | true =>
       have HN1:Hid (M ++ (fs.take (j+1)).filter (spGt key)=L):=by
        show _=_
        rw [HN.out,← HL.out];unfold spGt;rw [hless];simp
       go_quiet (fail)
       go_wp2_with fail
       go_roundg g1
       case rel => exact ⟨j+1,by omega,by go_num,by omega,by show World.ownsRow _ _ _ _ _ _ _;rw [HN1.out];exact ownsRow_drewN HO2.out _,below_drewN HB2.out _⟩
       case measure => omega
      | false =>
       cases hsame:(A.key.toList == key.toList) with
       | true =>
        have HN1:Hid (M ++ (fs.take (j+1)).filter (spGt key)=L):=by
         show _=_
         rw [HN.out,← HL.out];unfold spGt;rw [hless,hsame];simp
        go_quiet (fail)
        go_wp2_with fail
        go_roundg g1
        case rel => exact ⟨j+1,by omega,by go_num,by omega,by show World.ownsRow _ _ _ _ _ _ _;rw [HN1.out];exact ownsRow_drewN HO2.out _,below_drewN HB2.out _⟩
        case measure => omega
       | false =>
        have HN1:Hid (M ++ (fs.take (j+1)).filter (spGt key)=L ++ [A]):=by
         show _=_
         rw [HN.out,← HL.out];unfold spGt;rw [hless,hsame];simp
        go_quiet (fail)
        go_wp2_with (at_builtin;refine app_spot _ (w.heap.size+1) (by rfl) _ _ (by rfl) _ L A (by rfl) ((ownsRow_drewN HO2.out nq).alloc _) wr.heap.size (by rfl) (heap_alloc_new (wr.drewN nq) _) (by omega) (by simp;omega) ?_;intro g12 cap12 w12 ho12 hb12 hg12 hgl12;have HO12:=hide ho12;have HB12:=hide hb12;clear ho12 hb12 hg12 hgl12)
        go_roundg g1
        case rel => exact ⟨j+1,by omega,by go_num,by omega,by show World.ownsRow _ _ _ _ _ _ _;rw [HN1.out];exact HO12.out,((below_drewN HB2.out nq).alloc (by show _≤wr.heap.size;omega) _).trans HB12.out⟩
        case measure => omega
     | zero =>
      have hlt2:decide ((j:Int) < (fs.length:Int))=false:=by simp;omega
      have hke:fs.take j=fs:=List.take_of_length_le (by omega)
      rw [hke] at HO2
      clear hke
      go_wp2
      go_ret
      refine ⟨⟨_,rfl,?_⟩,HBw2.out⟩
      rw [HMS.out]
      exact ownsRow_mono HO2.out (by omega)
theorem specMore_any (q0:Nat) (s:ByteArray) (w:World) (hq0:q0 < 4294967296) (hl:s.size≤2097152) :
  Calls Tryz.prog 111 #[.int .u32 q0,.string s] w fun e w' => e=.returned (.int .u32 (sumB q0 s:Nat))∧w' = w:=by
 go_enter Tryz.func111,Tryz.ntmps111
 go_wp2
 go_loop [0,5] (fun t u => ∃ (k q:Nat),t=.int .u32 q∧u=.int .i64 k∧k≤s.size∧q < 4294967296∧Hid (sumFrom q s k=sumB q0 s)) (fun _ u => s.size - (intOf u).toNat)
 case atStart => exact ⟨0,q0,rfl,rfl,by omega,hq0,rfl⟩
 case round =>
  obtain ⟨k,q,rfl,rfl,hk,hq,hrest⟩:=hrel
  by_cases hlt:k < s.size
  ·
   have hlt':decide ((k:Int) < (s.size:Int))=true:=by simp;omega
   have HS:=hide (sumFrom_step q s k hlt)
   obtain ⟨b,hbt,hb256⟩:∃ b:Nat,(s[k]'hlt).toNat=b∧b < 256:=⟨_,rfl,byte_lt _⟩
   rw [hbt] at HS
   have hx0:=u32_xor_nat q b hq (by omega)
   have hx1:=xor_lt32 hq (show b < 4294967296 by omega)
   have HX:Hid (sb q b=hvN 8 (q ^^^ b)):=rfl
   have hq':=sb_lt hq hb256
   generalize q ^^^ b=x at hx0 hx1 HX
   go_wp2
   go_loop [0,6] (fun t u => ∃ (j y:Nat),t=.int .u32 y∧u=.int .i64 j∧j≤8∧y < 4294967296∧Hid (hvN (8 - j) y=hvN 8 x)) (fun _ u => 8 - (intOf u).toNat)
   case atStart => exact ⟨0,x,rfl,rfl,by omega,hx1,rfl⟩
   case round =>
    obtain ⟨j,y,rfl,rfl,hj,hy,HY⟩:=hrel
    by_cases hj8:j < 8
    ·
     have hj8':decide ((j:Int) < 8)=true:=by simp;omega
     have HN:Hid (hvN (8 - (j+1)) (hv y)=hvN 8 x):=by
      show _=_
      rw [← HY.out,show 8 - j=(8 - (j+1))+1 by omega];rfl
     have hy':=hv_lt hy
     by_cases hodd:y % 2=1
     ·
      have ho:decide ((y:Int) % 2=1)=true:=by simp;omega
      have ho2:((y:Int) % 2 == 1)=true:=by simp;omega
      have hz:=u32_xor_nat (y / 2) 3558460437 (by omega) (by decide)
      have hv1:y / 2 ^^^ 3558460437=hv y:=by unfold hv;rw [if_pos hodd]
      rw [hv1,show ((y / 2:Nat):Int)=(y:Int) / 2 by omega] at hz
      have hz:bits .xor .u32 ((y:Int) / 2) 3558460437=(hv y:Int):=hz
      clear hv1
      generalize hv y=z at HN hy' hz
      go_wp2
      go_round
      case rel => exact ⟨j+1,z,rfl,by go_num,by omega,hy',HN⟩
      case measure => simp [intOf];omega
     ·
      have ho:decide ((y:Int) % 2=1)=false:=by simp;omega
      have ho2:((y:Int) % 2 == 1)=false:=by simp;omega
      have hv1:hv y=y / 2:=by unfold hv;rw [if_neg hodd]
      rw [hv1] at HN hy'
      clear hv1
      go_wp2
      go_round
      case rel => exact ⟨j+1,y / 2,by go_num,by go_num,by omega,hy',HN⟩
      case measure => simp [intOf];omega
    ·
     have hj8':decide ((j:Int) < 8)=false:=by simp;omega
     have HN:Hid (y=sb q b):=by
      show _=_
      rw [HX.out,← HY.out,show 8 - j=0 by omega];rfl
     go_wp2
     go_round
     case rel =>
      refine ⟨k+1,sb q b,by rw [HN.out],by go_num,by omega,hq',?_⟩
      show _=_
      rw [← hrest.out,HS.out]
     case measure => simp [intOf];omega
  ·
   have hlt':decide ((k:Int) < (s.size:Int))=false:=by simp;omega
   have HF:Hid (sumB q0 s=q):=by show _=_;rw [← hrest.out,sumFrom_end _ _ _ (by omega)]
   go_wp2
   go_ret
   rw [HF.out]
   exact ⟨rfl,rfl⟩
theorem specFour_any (s:Nat) (w:World) (hs:s < 4294967296) :
  Calls Tryz.prog 81 #[.int .u32 s] w fun e w' => e=.returned (.string ⟨(four s).toArray⟩)∧Below w.heap.size w w':=by
 obtain ⟨b3,h3,e3⟩:=byte_of_div s 16777216
 obtain ⟨b2,h2,e2⟩:=byte_of_div s 65536
 obtain ⟨b1,h1,e1⟩:=byte_of_div s 256
 obtain ⟨b0,h0,e0⟩:=byte_of_div s 1
 have H4:Hid (four s=[b3,b2,b1,b0]):=by show _=_;rw [← h3,← h2,← h1,← h0,Nat.div_one];rfl
 have e3:(s:Int) / 16777216=(b3.toNat:Int):=by have:=e3;omega
 have e2:(s:Int) / 65536 % 256=(b2.toNat:Int):=e2
 have e1:(s:Int) / 256 % 256=(b1.toNat:Int):=e1
 have e0:(s:Int) % 256=(b0.toNat:Int):=by have:=e0;omega
 clear h3 h2 h1 h0
 have hcv:=conv_own (P:=Tryz.prog) 133 5 9 Tryz.underlying133 Tryz.underlying5 Tryz.underlying9 _ _ _ [b3,b2,b1,b0] (four_cells w b3 b2 b1 b0 5)
 go_enter Tryz.func81,Tryz.ntmps81
 go_wp2
 go_ret
 rw [H4.out]
 exact ⟨rfl,(Below.refl _ w).alloc (Nat.le_refl _) _⟩
theorem specOf_any (s:ByteArray) (w:World) (hl:s.size≤2097152) :
  Calls Tryz.prog 82 #[.string s] w fun e w' => e=.returned (.int .u32 (sumB 4294967295 s:Nat))∧w' = w:=by
 go_enter Tryz.func82,Tryz.ntmps82
 go_wp2_with (go_at_call 111;refine (specMore_any 4294967295 s _ (by decide) hl).mono ?_;rintro e w' ⟨rfl,rfl⟩)
 go_ret
 exact ⟨rfl,rfl⟩
theorem specFrame_yes (t:ByteArray) (w:World) (h1:1≤t.size) (h2:t.size≤9000) :
  Calls Tryz.prog 43 #[.string t] w fun e w' => e=.returned (.tuple #[.string (frameB t),.bool true])∧Below w.heap.size w w':=by
 have HE:Hid (frameB t=⟨(Wd.varF 5 t.size).toArray⟩ ++ ⟨(four (sumB 4294967295 t)).toArray⟩ ++ t):=rfl
 have hlt:=sumB_lt t
 have h4:(four (sumB 4294967295 t)).length=4:=rfl
 have hv:=Wd.varF_len 5 t.size
 go_enter Tryz.func43,Tryz.ntmps43
 go_wp2_with (first | (go_at_call 50;refine (l01In_yes _ _ _ _ (by omega) (by omega)).mono ?_;rintro e w0 ⟨rfl,rfl⟩) | (go_at_call 73;refine (l01Var_any t.size _ (by omega)).mono ?_;rintro e w1 ⟨rfl,b1⟩) | (go_at_call 82;refine (specOf_any t _ (by omega)).mono ?_;rintro e w2 ⟨rfl,rfl⟩) | (go_at_call 81;refine (specFour_any _ _ hlt).mono ?_;rintro e w3 ⟨rfl,b3⟩))
 go_ret2
 rw [HE.out]
 exact ⟨rfl,b1.trans (b3.mono b1.size)⟩
theorem specFrame_no (t:ByteArray) (w:World) (h:t.size < 1 ∨ 9000 < t.size) :
  Calls Tryz.prog 43 #[.string t] w fun e w' => e=.returned (.tuple #[.string ⟨#[]⟩,.bool false])∧w' = w:=by
 go_enter Tryz.func43,Tryz.ntmps43
 go_wp2_with (first | (go_at_call 50;refine (l01In_no _ _ _ _ (by omega)).mono ?_;rintro e w0 ⟨rfl,rfl⟩))
 go_ret2
 exact ⟨rfl,rfl⟩
theorem l07Size_any (q:Int) (fs:List ChangeD) (ao:Option Addr) (cap:Nat) (w:World) (hl:fs.length≤1048576) (hfs:ChangesAt w ao fs) (hsz:∀ A ∈ fs,A.key.size≤1048576∧A.value.size≤1048576) :
  Calls Tryz.prog 44 #[.agg #[.int .i64 q,.slice ao fs.length cap]] w fun e w' => e=.returned (.int .i64 (sizeD q fs:Nat))∧Below w.heap.size w w':=by
 have HF:=hide hfs
 have HS:=hide hsz
 have hts:=textD_small q fs
 have HSD:Hid (sizeD q fs=if 1≤(textD q fs).size then (frameB (textD q fs)).size else 0):=rfl
 have HB:=hide (fun W hW => specBatchText_any q fs ao cap W hl hW HS.out)
 obtain ⟨T,HT⟩:∃ T,Hid (textD q fs=T):=⟨_,hide rfl⟩
 obtain ⟨ok,HOK⟩:∃ T,Hid (textOkD q fs=T):=⟨_,hide rfl⟩
 rw [HT.out] at hts HB HSD
 rw [HOK.out] at HB
 clear hfs hsz
 have b0:Below w.heap.size w (w.alloc (.cells #[.int .i64 q,.slice ao fs.length cap] 87)):=(Below.refl _ w).alloc (Nat.le_refl _) _
 have B0:=hide b0
 clear b0
 by_cases h1:1≤T.size
 ·
  have HE:Hid (sizeD q fs=(frameB T).size):=by show _=_;rw [HSD.out,if_pos h1]
  go_enter Tryz.func44,Tryz.ntmps44
  go_wp2_with fail
  refine (HB.out _ (changesAt_keep HF.out B0.out)).mono ?_
  rintro e w1 ⟨rfl,b1⟩
  have B1:=hide (B0.out.trans (b1.mono B0.out.size))
  clear b1
  go_wp2_with fail
  refine (specFrame_yes T _ h1 hts).mono ?_
  rintro e w2 ⟨rfl,b2⟩
  have B2:=hide (B1.out.trans (b2.mono B1.out.size))
  clear b2
  go_wp2
  go_ret
  rw [HE.out]
  exact ⟨rfl,B2.out⟩
 ·
  have HE:Hid (sizeD q fs=0):=by show _=_;rw [HSD.out,if_neg h1]
  go_enter Tryz.func44,Tryz.ntmps44
  go_wp2_with fail
  refine (HB.out _ (changesAt_keep HF.out B0.out)).mono ?_
  rintro e w1 ⟨rfl,b1⟩
  have B1:=hide (B0.out.trans (b1.mono B0.out.size))
  clear b1
  go_wp2_with fail
  refine (specFrame_no T _ (by omega)).mono ?_
  rintro e w2 ⟨rfl,rfl⟩
  go_wp2
  go_ret
  rw [HE.out]
  exact ⟨rfl,B1.out⟩
theorem implVar_yes (n:Nat) (w:World) (h1:n≤1000000000) :
  Calls Tryz.prog 133 #[.int .i64 n] w fun e w' => e=.returned (.tuple #[.string ⟨(Wd.varF 5 n).toArray⟩,.bool true])∧Below w.heap.size w w':=by
 have h0:decide ((n:Int) < 0)=false:=by simp
 have h2:decide (1000000000 < (n:Int))=false:=by simp;omega
 go_enter Tryz.func133,Tryz.ntmps133
 go_wp2
 go_loopw [0,4] (fun t v wr => ∃ (f m:Nat) (acc:List UInt8),t=.int .i64 m∧m < 128 ^ (f+1)∧m < 34359738368∧acc.length+f=4∧wr.ownsRow w.heap.size 5 1 v acc.length (acc.map bv)∧Hid (acc ++ Wd.varF (f+1) m=Wd.varF 5 n)∧Below w.heap.size w wr) (fun t _ _ => (intOf t).toNat)
 case atStart =>
  exact ⟨4,n,[],rfl,by omega,by omega,rfl,World.ownsRow_nil _ _ _ _,rfl,Below.refl _ _⟩
 case round =>
  obtain ⟨f,m,acc,rfl,hm,hm2,hl,hown,hacc,hb⟩:=hrel
  by_cases hlt:128≤m
  ·
   obtain ⟨f,rfl⟩:∃ g,f=g+1:=by
    cases f with
    | zero => simp at hm;omega
    | succ g => exact ⟨g,rfl⟩
   have hbs:=hb.size
   have hfac:Hid (Wd.varF (f+1+1) m=UInt8.ofNat (m % 128+128) :: Wd.varF (f+1) (m / 128)):=Wd.varF_high _ _ (by omega)
   have hdiv:=Wd.div_lt_pow _ _ hm
   obtain ⟨b,hbb,hbn⟩:∃ b:UInt8,Hid (b=UInt8.ofNat (m % 128+128))∧Hid ((m:Int) % 128+128=(b.toNat:Int)):=⟨_,rfl,by simp only [Hid,UInt8.toNat_ofNat'];omega⟩
   go_wp2_with (at_builtin;refine app_bytes wr 133 5 Tryz.underlying133 Tryz.info5 w w.heap.size rfl _ _ rfl _ acc [b] rfl hown rfl (by simp [bv,hbn.out]) (by simp;omega) hb hbs ?_;intro v' w1 hown1 hb1 hs1)
   go_roundw
   case rel =>
    refine ⟨f,m / 128,acc ++ [b],by go_num,hdiv,by omega,by simp;omega,hown1,?_,hb1⟩
    show _=_
    rw [← hacc.out,hfac.out,← hbb.out];simp
   case measure => simp [intOf];omega
  ·
   have hbs:=hb.size
   have hfac:Hid (Wd.varF (f+1) m=[UInt8.ofNat m]):=Wd.varF_low _ _ (by omega)
   obtain ⟨b,hbb,hbn⟩:∃ b:UInt8,Hid (b=UInt8.ofNat m)∧Hid ((m:Int)=(b.toNat:Int)):=⟨_,rfl,by simp only [Hid,UInt8.toNat_ofNat'];omega⟩
   go_wp2_with (at_builtin;refine app_bytes wr 133 5 Tryz.underlying133 Tryz.info5 w w.heap.size rfl _ _ rfl _ acc [b] rfl hown rfl (by simp [bv,hbn.out]) (by simp;omega) hb hbs ?_;intro v' w1 hown1 hb1 hs1;have hcv:=conv_own 133 5 9 Tryz.underlying133 Tryz.underlying5 Tryz.underlying9 w1 _ _ _ hown1)
   go_ret2
   rw [← hacc.out,hfac.out,← hbb.out]
   exact ⟨rfl,hb1⟩
theorem implRead_out (s:ByteArray) (i:Int) (w:World) (hs:s.size≤maxLen) (h:i < 0 ∨ (s.size:Int) < i) :
  Calls Tryz.prog 205 #[.string s,.int .i64 i] w fun e w' => e=.returned (rvAns none)∧w' = w:=by
 unfold maxLen at hs
 rcases h with h | h
 ·
  go_enter Tryz.func205,Tryz.ntmps205
  go_wp2
  go_ret3
  exact ⟨rfl,rfl⟩
 ·
  have h':¬ i < 0:=by omega
  go_enter Tryz.func205,Tryz.ntmps205
  go_wp2
  go_ret3
  exact ⟨rfl,rfl⟩
theorem implRead_in (s:ByteArray) (i:Nat) (w:World) (hs:s.size≤maxLen) (h:i≤s.size) :
  Calls Tryz.prog 205 #[.string s,.int .i64 i] w fun e w' => e=.returned (rvAns (Wd.rv s i))∧w' = w:=by
 unfold maxLen at hs
 have h0:decide ((i:Int) < 0)=false:=by simp
 have h1:decide ((s.size:Int) < (i:Int))=false:=by simp;omega
 go_enter Tryz.func205,Tryz.ntmps205
 go_wp2
 go_loop [7,8,9] (fun n q p => ∃ k f Q m P:Nat,n=.int .i64 m∧q=.int .i64 Q∧p=.int .i64 P∧P≤s.size∧Hid (Wd.rv s i=Wd.rvF s f P k Q m)∧Hid (P=i+k)∧((k=0∧f=5∧Q=1∧m=0) ∨ (k=1∧f=4∧Q=128∧m < 128) ∨ (k=2∧f=3∧Q=16384∧m < 16384) ∨ (k=3∧f=2∧Q=2097152∧m < 2097152) ∨ (k=4∧f=1∧Q=268435456∧m < 268435456) ∨ (k=5∧f=0∧Q=34359738368∧m < 34359738368))) (fun _ _ p => s.size - (intOf p).toNat)
 case atStart => exact ⟨0,5,1,0,i,rfl,rfl,rfl,h,rfl,rfl,.inl ⟨rfl,rfl,rfl,rfl⟩⟩
 case round =>
  obtain ⟨k,f,Q,m,P,rfl,rfl,rfl,hP,hrv,hPk,hcase⟩:=hrel
  by_cases hlt:P < s.size
  ·
   obtain ⟨b,hB,hbt,hb256⟩:∃ b:Nat,Hid (Wd.bt s P=b)∧(s[P]'hlt).toNat=b∧b < 256:=⟨_,rfl,Wd.bt_eq s P hlt,Wd.bt_lt s P⟩
   by_cases hb:b < 128
   ·
    by_cases hz:0 < b
    ·
     have hz':decide (0 < (b:Int))=true:=by simp;omega
     rcases hcase with ⟨rfl,rfl,rfl,rfl⟩ | ⟨rfl,rfl,rfl,hm⟩ | ⟨rfl,rfl,rfl,hm⟩ | ⟨rfl,rfl,rfl,hm⟩ | ⟨rfl,rfl,rfl,hm⟩ | ⟨rfl,rfl,rfl,hm⟩
     case inr.inr.inr.inr.inr =>
      have hfin:Hid (Wd.rv s i=none):=hrv.out.trans rfl
      go_wp2
      go_ret3
      rw [hfin.out]
      exact ⟨rfl,rfl⟩
     case inr.inr.inr.inr.inl =>
      by_cases hn:m+b % 128 * 268435456≤1000000000
      ·
       have hfin:=hide (hrv.out.trans (Wd.rvF_lastB hB.out hlt hb hn (.inl hz)))
       go_wp2
       go_ret3
       rw [hfin.out]
       exact ⟨ret3 (by omega) (by omega),rfl⟩
      ·
       have hfin:=hide (hrv.out.trans (Wd.rvF_notB hB.out hb (fun h => hn h.1)))
       go_wp2
       go_ret3
       rw [hfin.out]
       exact ⟨rfl,rfl⟩
     all_goals
      have hfin:=hide (hrv.out.trans (Wd.rvF_lastB hB.out hlt hb (by omega) (.inl hz)))
      go_wp2
      go_ret3
      rw [hfin.out]
      exact ⟨ret3 (by omega) (by omega),rfl⟩
    ·
     have hz':decide (0 < (b:Int))=false:=by simp;omega
     rcases hcase with ⟨rfl,rfl,rfl,rfl⟩ | ⟨rfl,rfl,rfl,hm⟩ | ⟨rfl,rfl,rfl,hm⟩ | ⟨rfl,rfl,rfl,hm⟩ | ⟨rfl,rfl,rfl,hm⟩ | ⟨rfl,rfl,rfl,hm⟩
     case inr.inr.inr.inr.inr =>
      have hfin:Hid (Wd.rv s i=none):=hrv.out.trans rfl
      go_wp2
      go_ret3
      rw [hfin.out]
      exact ⟨rfl,rfl⟩
     case inl =>
      have hfin:=hide (hrv.out.trans (Wd.rvF_lastB hB.out hlt hb (by omega) (.inr rfl)))
      have hpi:((P:Int) == (i:Int))=true:=by have:=hPk.out;simp;omega
      go_wp2
      go_ret3
      rw [hfin.out]
      exact ⟨ret3 (by omega) (by omega),rfl⟩
     all_goals
      have hfin:=hide (hrv.out.trans (Wd.rvF_notB hB.out hb (fun h => by have:=h.2;omega)))
      have hpi:((P:Int) == (i:Int))=false:=by have:=hPk.out;simp;omega
      go_wp2
      go_ret3
      rw [hfin.out]
      exact ⟨rfl,rfl⟩
   ·
    rcases hcase with ⟨rfl,rfl,rfl,rfl⟩ | ⟨rfl,rfl,rfl,hm⟩ | ⟨rfl,rfl,rfl,hm⟩ | ⟨rfl,rfl,rfl,hm⟩ | ⟨rfl,rfl,rfl,hm⟩ | ⟨rfl,rfl,rfl,hm⟩
    case inr.inr.inr.inr.inr =>
     have hfin:Hid (Wd.rv s i=none):=hrv.out.trans rfl
     go_wp2
     go_ret3
     rw [hfin.out]
     exact ⟨rfl,rfl⟩
    all_goals
     have hmore:=hide (hrv.out.trans (Wd.rvF_moreB hB.out hlt hb))
     go_wp2
     go_round
     case rel =>
      refine ⟨_,_,_,_,P+1,?_,?_,by go_num,by omega,hmore,by have:=hPk.out;show _=_;omega,?_⟩
      · go_num
      · go_num
      · simp;try omega
     case measure => simp [intOf];omega
  ·
   have hfin:Hid (Wd.rv s i=none):=hrv.out.trans (Wd.rvF_end _ _ _ _ _ _ hlt)
   go_wp2
   go_ret3
   rw [hfin.out]
   exact ⟨rfl,rfl⟩
theorem implRead_any (s:ByteArray) (i:Int) (w:World) (hs:s.size≤1048576) :
  Calls Tryz.prog 205 #[.string s,.int .i64 i] w fun e w' => e=.returned (rvAns (Wd.rvI s i))∧w' = w:=by
 by_cases h:i < 0 ∨ (s.size:Int) < i
 ·
  rw [show Wd.rvI s i=none from if_pos h]
  exact implRead_out s i w (by unfold maxLen;omega) h
 ·
  rw [show Wd.rvI s i=Wd.rv s i.toNat from if_neg h]
  obtain ⟨k,rfl⟩:=Int.eq_ofNat_of_zero_le (show 0≤i by omega)
  exact implRead_in s k w (by unfold maxLen;omega) (by omega)
theorem implRead_some (s:ByteArray) (i:Int) (w:World) (a b:Nat) (hs:s.size≤1048576) (h:Wd.rvI s i=some (a,b)) :
  Calls Tryz.prog 205 #[.string s,.int .i64 i] w fun e w' => e=.returned (.tuple #[.int .i64 a,.int .i64 b,.bool true])∧w' = w:=by
 have:=implRead_any s i w hs;rw [h] at this;exact this
theorem implRead_none (s:ByteArray) (i:Int) (w:World) (hs:s.size≤1048576) (h:Wd.rvI s i=none) :
  Calls Tryz.prog 205 #[.string s,.int .i64 i] w fun e w' => e=.returned (.tuple #[.int .i64 0,.int .i64 0,.bool false])∧w' = w:=by
 have:=implRead_any s i w hs;rw [h] at this;exact this
end Go.Proofs.YtepdckehokdjlaaGreatDoor
