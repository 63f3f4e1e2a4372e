import Derived.Test.YtepdckehokdjlaaGreatDoorMg5
import Derived.Test.YtepdckehokdjlaaGreatDoorMg0
import Derived.Test.YtepdckehokdjlaaGreatDoorMg4
set_option maxRecDepth 100000
set_option maxHeartbeats 1600000
namespace Go.Proofs.YtepdckehokdjlaaGreatDoor
open Go.RowKit
theorem diskOk_any (fs:List FileD) (ao:Option Addr) (cap:Nat) (w:World) (hl:fs.length≤1048576) (hfs:FilesAt w ao fs) (hsz:∀ F ∈ fs,F.name.size≤maxLen∧F.text.size≤maxLen) :
  Calls Tryz.prog 119 #[.agg #[.slice ao fs.length cap]] w fun e w' => e=.returned (.bool (diskOkD fs))∧Below w.heap.size w w':=by
 have HF:=hide hfs
 have HS:=hide hsz
 clear hfs hsz
 obtain ⟨R,HR⟩:∃ R,Hid (diskOkD fs=R):=⟨_,hide rfl⟩
 rw [HR.out]
 by_cases h30:(30:Int) < (fs.length:Int)
 ·
  have h30':decide ((30:Int) < (fs.length:Int))=true:=by simp;omega
  have hR:R=false:=by rw [← HR.out,diskOkD,show decide (fs.length≤30)=false from by simp;omega];rfl
  subst hR
  go_enter Tryz.func119,Tryz.ntmps119
  go_wp2
  go_ret
  exact ⟨rfl,(Below.refl _ w).alloc (Nat.le_refl _) _⟩
 ·
  have h30':decide ((30:Int) < (fs.length:Int))=false:=by simp;omega
  have HR0:Hid (okFrom (prevOf fs 0) (fs.drop 0)=R):=by show _=_;rw [← HR.out,diskOkD,show decide (fs.length≤30)=true from by simp;omega];rfl
  go_enter Tryz.func119,Tryz.ntmps119
  go_wp2
  go_loopw [12] (fun ii wr => ∃ (k:Nat),ii=.int .i64 k∧k≤fs.length∧Hid (okFrom (prevOf fs k) (fs.drop k)=R)∧Hid (Below (w.heap.size+1) (w.alloc (.cells #[.slice ao fs.length cap] 31)) wr)) (fun ii _ => fs.length - (intOf ii).toNat)
  case atStart => exact ⟨0,rfl,Nat.zero_le _,HR0,Below.refl _ _⟩
  case round =>
   obtain ⟨k,rfl,hk,HK,HB⟩:=hrel
   have HB0:Hid (Below w.heap.size w wr):=((Below.refl _ w).alloc (Nat.le_refl _) _).trans (HB.out.mono (by omega))
   by_cases hlt:k < fs.length
   ·
    have hlt':decide ((k:Int) < (fs.length:Int))=true:=by simp;omega
    have hsw:w.heap.size+1≤wr.heap.size:=by have:=HB.out.size;simpa using this
    obtain ⟨b,off,rfl,hbw,hc0,hc1,hc2⟩:=filesAt_keep HF.out HB0.out k hlt
    have hbox:wr.cell? ⟨w.heap.size,0,none⟩=some (.slice (some ⟨b,off,none⟩) fs.length cap):=(HB.out.cell (p:=⟨w.heap.size,0,none⟩) (by simp)).trans (by rw [cell_of_row _ _ _ _ _ (0,0) (heap_alloc_new w _)];rfl)
    obtain ⟨hs1,hs2⟩:=HS.out fs[k] (List.getElem_mem hlt)
    obtain ⟨F,HFk⟩:∃ F,Hid (fs[k]=F):=⟨fs[k],hide rfl⟩
    rw [HFk.out] at hc0 hc1 hc2 hs1 hs2
    have hi0:(0:Int)≤(k:Int):=by omega
    have hi1:(k:Int) < (fs.length:Int):=by omega
    go_wp2_with fail
    refine (fileOk_any F _ hs1 hs2).mono ?_
    rintro e w1 ⟨rfl,b1⟩
    have b2:Below wr.heap.size wr w1:=((Below.refl _ wr).alloc (Nat.le_refl _) _).trans (b1.mono (by simp))
    have hbox1:w1.cell? ⟨w.heap.size,0,none⟩=some (.slice (some ⟨b,off,none⟩) fs.length cap):=(b2.cell (p:=⟨w.heap.size,0,none⟩) (by show w.heap.size < _;omega)).trans hbox
    have hfile1:w1.heap[wr.heap.size]? = some (.cells #[.string F.name,.string F.text,.int .i64 F.kept] 95 (0,0)):=(b1.block _ (by simp)).trans (heap_alloc_new wr _)
    have hg0:w1.cell? ⟨wr.heap.size,0,none⟩=some (.string F.name):=(cell_of_row w1 wr.heap.size 0 _ _ (0,0) hfile1).trans rfl
    have HB1:Hid (Below (w.heap.size+1) (w.alloc (.cells #[.slice (some ⟨b,off,none⟩) fs.length cap] 31)) w1):=HB.out.trans (b2.mono hsw)
    have HB2:Hid (Below w.heap.size w w1):=HB0.out.trans (b2.mono (by omega))
    clear b1 hfile1 hbox hc0 hc1 hc2
    cases hok:fileOkD F
    ·
     have hR:Hid (R=false):=by show _=_;rw [← HK.out,okFrom_bad hlt (by rw [HFk.out];exact hok)]
     go_wp2
     go_ret
     rw [hR.out]
     exact ⟨rfl,HB2.out⟩
    ·
     cases hk0:decide (0 < k)
     ·
      have hkz:k=0:=by simpa using hk0
      have HK1:Hid (okFrom (prevOf fs (k+1)) (fs.drop (k+1))=R):=by show _=_;rw [← HK.out];subst hkz;exact (okFrom_first hlt (by rw [HFk.out];exact hok)).symm
      clear hkz
      go_wp2_with fail
      go_quiet (fail)
      go_wp2
      go_roundw
      case rel => exact ⟨k+1,by go_num,by omega,HK1,below_drewN HB1.out _⟩
      case measure => simp [intOf];omega
     ·
      have hkp:0 < k:=by simpa using hk0
      obtain ⟨b',off',hbe,hbw',hd0,hd1,hd2⟩:=filesAt_keep HF.out HB2.out (k - 1) (by omega)
      obtain ⟨rfl,rfl⟩:b=b'∧off=off':=by simpa using hbe
      obtain ⟨F',HFk'⟩:∃ F',Hid (fs[k - 1]=F'):=⟨fs[k - 1],hide rfl⟩
      rw [HFk'.out] at hd0
      clear hd1 hd2 hbe
      have HD:=hide (okFrom_more hlt hkp (by rw [HFk.out];exact hok))
      have hw:IntKind.i64.wrap ((k:Int) - 1)=((k - 1:Nat):Int):=by rw [IntKind.wrap_i64];omega
      have hj0:(0:Int)≤((k - 1:Nat):Int):=by omega
      have hj1:((k - 1:Nat):Int) < (fs.length:Int):=by omega
      go_wp2_with fail
      go_quiet (fail)
      cases hless:Op.bytesLess F'.name.toList F.name.toList
      ·
       have hR:Hid (R=false):=by show _=_;rw [← HK.out,HD.out,HFk.out,HFk'.out,hless];rfl
       go_wp2
       go_ret
       rw [hR.out]
       exact ⟨rfl,below_drewN HB2.out _⟩
      ·
       have HK1:Hid (okFrom (prevOf fs (k+1)) (fs.drop (k+1))=R):=by show _=_;rw [← HK.out,HD.out,HFk.out,HFk'.out,hless,Bool.true_and]
       go_wp2
       go_roundw
       case rel => exact ⟨k+1,by go_num,by omega,HK1,below_drewN HB1.out _⟩
       case measure => simp [intOf];omega
   ·
    have hlt':decide ((k:Int) < (fs.length:Int))=false:=by simp;omega
    have hR:Hid (R=true):=by show _=_;rw [← HK.out,okFrom_end (by omega)]
    go_wp2
    go_ret
    rw [hR.out]
    exact ⟨rfl,HB0.out⟩
theorem l03Name_val (s:ByteArray) (c:Bool) (w:World) (hs:s.size≤maxLen) (h:nameOkD s=c):Calls Tryz.prog 46 #[.string s] w fun e w' => e=.returned (.bool c)∧w' = w:=h ▸ l03Name_any s w hs
theorem specDiskOk_any (fs:List FileD) (ao:Option Addr) (cap:Nat) (w:World) (hl:fs.length≤1048576) (hfs:FilesAt w ao fs) (hsz:∀ F ∈ fs,F.name.size≤maxLen∧F.text.size≤maxLen) :
  Calls Tryz.prog 45 #[.agg #[.slice ao fs.length cap]] w fun e w' => e=.returned (.bool (diskOkD fs))∧Below w.heap.size w w':=by
 have HF:=hide hfs
 have HS:=hide hsz
 clear hfs hsz
 obtain ⟨R,HR⟩:∃ R,Hid (diskOkD fs=R):=⟨_,hide rfl⟩
 rw [HR.out]
 by_cases h30:(30:Int) < (fs.length:Int)
 ·
  have h30':decide ((30:Int) < (fs.length:Int))=true:=by simp;omega
  have hR:R=false:=by rw [← HR.out,diskOkD,show decide (fs.length≤30)=false from by simp;omega];rfl
  subst hR
  go_enter Tryz.func45,Tryz.ntmps45
  go_wp2
  go_ret
  exact ⟨rfl,(Below.refl _ w).alloc (Nat.le_refl _) _⟩
 ·
  have h30':decide ((30:Int) < (fs.length:Int))=false:=by simp;omega
  have HR0:Hid (okFrom (prevOf fs 0) (fs.drop 0)=R):=by show _=_;rw [← HR.out,diskOkD,show decide (fs.length≤30)=true from by simp;omega];rfl
  go_enter Tryz.func45,Tryz.ntmps45
  go_wp2
  go_loopw [3] (fun ii wr => ∃ (k:Nat),ii=.int .i64 k∧k≤fs.length∧Hid (okFrom (prevOf fs k) (fs.drop k)=R)∧Hid (Below (w.heap.size+1) (w.alloc (.cells #[.slice ao fs.length cap] 31)) wr)) (fun ii _ => fs.length - (intOf ii).toNat)
  case atStart => exact ⟨0,rfl,Nat.zero_le _,HR0,Below.refl _ _⟩
  case round =>
   obtain ⟨k,rfl,hk,HK,HB⟩:=hrel
   have HB0:Hid (Below w.heap.size w wr):=((Below.refl _ w).alloc (Nat.le_refl _) _).trans (HB.out.mono (by omega))
   have hbox:wr.cell? ⟨w.heap.size,0,none⟩=some (.slice ao fs.length cap):=(HB.out.cell (p:=⟨w.heap.size,0,none⟩) (by simp)).trans (by rw [cell_of_row _ _ _ _ _ (0,0) (heap_alloc_new w _)];rfl)
   by_cases hlt:k < fs.length
   ·
    have hlt':decide ((k:Int) < (fs.length:Int))=true:=by simp;omega
    have hsw:w.heap.size+1≤wr.heap.size:=by have:=HB.out.size;simpa using this
    obtain ⟨b,off,rfl,hbw,hc0,hc1,hc2⟩:=filesAt_keep HF.out HB0.out k hlt
    obtain ⟨hs1,hs2⟩:=HS.out fs[k] (List.getElem_mem hlt)
    obtain ⟨F,HFk⟩:∃ F,Hid (fs[k]=F):=⟨fs[k],hide rfl⟩
    rw [HFk.out] at hc0 hc1 hc2 hs1 hs2
    have hi0:(0:Int)≤(k:Int):=by omega
    have hi1:(k:Int) < (fs.length:Int):=by omega
    have b2:Below wr.heap.size wr (wr.alloc (.cells #[.string F.name,.string F.text,.int .i64 F.kept] 95)):=(Below.refl _ wr).alloc (Nat.le_refl _) _
    have HB1:Hid (Below (w.heap.size+1) (w.alloc (.cells #[.slice (some ⟨b,off,none⟩) fs.length cap] 31)) (wr.alloc (.cells #[.string F.name,.string F.text,.int .i64 F.kept] 95))):=HB.out.trans (b2.mono hsw)
    have HB2:Hid (Below w.heap.size w (wr.alloc (.cells #[.string F.name,.string F.text,.int .i64 F.kept] 95))):=HB0.out.trans (b2.mono (by omega))
    have hs2':=hs2
    unfold maxLen at hs2'
    go_wp2_with fail
    have hbox1:(wr.alloc (.cells #[.string F.name,.string F.text,.int .i64 F.kept] 95)).cell? ⟨w.heap.size,0,none⟩=some (.slice (some ⟨b,off,none⟩) fs.length cap):=(b2.cell (p:=⟨w.heap.size,0,none⟩) (by show w.heap.size < _;omega)).trans hbox
    have hfile:=heap_alloc_new wr (.cells #[.string F.name,.string F.text,.int .i64 F.kept] 95)
    obtain ⟨W,hW⟩:∃ W,W=wr.alloc (.cells #[.string F.name,.string F.text,.int .i64 F.kept] 95):=⟨_,rfl⟩
    rw [← hW] at HB1 HB2 hbox1 hfile ⊢
    have hg0:W.cell? ⟨wr.heap.size,0,none⟩=some (.string F.name):=(cell_of_row W wr.heap.size 0 _ _ (0,0) hfile).trans rfl
    have hg1:W.cell? ⟨wr.heap.size,1,none⟩=some (.string F.text):=(cell_of_row W wr.heap.size 1 _ _ (0,0) hfile).trans rfl
    have hg2:W.cell? ⟨wr.heap.size,2,none⟩=some (.int .i64 F.kept):=(cell_of_row W wr.heap.size 2 _ _ (0,0) hfile).trans rfl
    clear hW hfile b2 hbox hc0 hc1 hc2
    cases h1:nameOkD F.name
    ·
     have hR:Hid (R=false):=by show _=_;rw [← HK.out,okFrom_bad hlt (by rw [HFk.out,fileOkD];simp [h1])]
     go_quiet ((go_at_call 46;exact Calls.quiet_of_same (l03Name_val _ _ _ hs1 h1)))
     go_wp2
     go_ret
     rw [hR.out]
     exact ⟨rfl,below_drewN HB2.out _⟩
    ·
     by_cases h2:20000 < F.text.size
     ·
      have h2a:decide (20000 < F.text.size)=true:=by simp;omega
      have h2b:decide ((20000:Int) < (F.text.size:Int))=true:=by simp;omega
      have hR:Hid (R=false):=by show _=_;rw [← HK.out,okFrom_bad hlt (by rw [HFk.out,fileOkD];rw [show decide (F.text.size≤20000)=false from by simp;omega];simp)]
      go_quiet ((go_at_call 46;exact Calls.quiet_of_same (l03Name_val _ _ _ hs1 h1)))
      go_wp2
      go_ret
      rw [hR.out]
      exact ⟨rfl,below_drewN HB2.out _⟩
     ·
      have h2a:decide (20000 < F.text.size)=false:=by simp;omega
      have h2b:decide ((20000:Int) < (F.text.size:Int))=false:=by simp;omega
      cases h3:(decide ((0:Int)≤F.kept) && decide (F.kept≤(F.text.size:Int)))
      ·
       have hR:Hid (R=false):=by show _=_;rw [← HK.out,okFrom_bad hlt (by rw [HFk.out,fileOkD];rw [h3];simp)]
       go_quiet ((first | (go_at_call 46;exact Calls.quiet_of_same (l03Name_val _ _ _ hs1 h1)) | (go_at_call 50;exact Calls.quiet_of_same (l01In_val _ _ _ _ _ h3))))
       go_wp2
       go_ret
       rw [hR.out]
       exact ⟨rfl,below_drewN HB2.out _⟩
      ·
       have hok:fileOkD F=true:=by rw [fileOkD,h3,h1,show decide (F.text.size≤20000)=true from by simp;omega];rfl
       cases hk0:decide (0 < k)
       ·
        have hkz:k=0:=by simpa using hk0
        have HK1:Hid (okFrom (prevOf fs (k+1)) (fs.drop (k+1))=R):=by show _=_;rw [← HK.out];subst hkz;exact (okFrom_first hlt (by rw [HFk.out];exact hok)).symm
        clear hkz
        go_quiet ((first | (go_at_call 46;exact Calls.quiet_of_same (l03Name_val _ _ _ hs1 h1)) | (go_at_call 50;exact Calls.quiet_of_same (l01In_val _ _ _ _ _ h3))))
        go_wp2
        go_roundw
        case rel => exact ⟨k+1,by go_num,by omega,HK1,below_drewN HB1.out _⟩
        case measure => simp [intOf];omega
       ·
        have hkp:0 < k:=by simpa using hk0
        obtain ⟨b',off',hbe,hbw',hd0,hd1,hd2⟩:=filesAt_keep HF.out HB2.out (k - 1) (by omega)
        obtain ⟨rfl,rfl⟩:b=b'∧off=off':=by simpa using hbe
        obtain ⟨F',HFk'⟩:∃ F',Hid (fs[k - 1]=F'):=⟨fs[k - 1],hide rfl⟩
        rw [HFk'.out] at hd0
        clear hd1 hd2 hbe
        have HD:=hide (okFrom_more hlt hkp (by rw [HFk.out];exact hok))
        have hw:IntKind.i64.wrap ((k:Int) - 1)=((k - 1:Nat):Int):=by rw [IntKind.wrap_i64];omega
        have hj0:(0:Int)≤((k - 1:Nat):Int):=by omega
        have hj1:((k - 1:Nat):Int) < (fs.length:Int):=by omega
        go_quiet ((first | (go_at_call 46;exact Calls.quiet_of_same (l03Name_val _ _ _ hs1 h1)) | (go_at_call 50;exact Calls.quiet_of_same (l01In_val _ _ _ _ _ h3))))
        cases hless:Op.bytesLess F'.name.toList F.name.toList
        ·
         have hR:Hid (R=false):=by show _=_;rw [← HK.out,HD.out,HFk.out,HFk'.out,hless];rfl
         go_wp2
         go_ret
         rw [hR.out]
         exact ⟨rfl,below_drewN HB2.out _⟩
        ·
         have HK1:Hid (okFrom (prevOf fs (k+1)) (fs.drop (k+1))=R):=by show _=_;rw [← HK.out,HD.out,HFk.out,HFk'.out,hless,Bool.true_and]
         go_wp2
         go_roundw
         case rel => exact ⟨k+1,by go_num,by omega,HK1,below_drewN HB1.out _⟩
         case measure => simp [intOf];omega
   ·
    have hlt':decide ((k:Int) < (fs.length:Int))=false:=by simp;omega
    have hR:Hid (R=true):=by show _=_;rw [← HK.out,okFrom_end (by omega)]
    go_wp2
    go_ret
    rw [hR.out]
    exact ⟨rfl,HB0.out⟩
def keptD (fs:List FileD):Bool:=fs.all (fun F => !decide (F.kept < (F.text.size:Int)))
def allKeptD (fs:List FileD):Bool:=diskOkD fs && keptD fs
theorem kept_bad {fs:List FileD} {k:Nat} (h:k < fs.length) (hF:decide (fs[k].kept < (fs[k].text.size:Int))=true):keptD (fs.drop k)=false:=by
 rw [List.drop_eq_getElem_cons h,keptD,List.all_cons,hF];rfl
theorem kept_more {fs:List FileD} {k:Nat} (h:k < fs.length) (hF:decide (fs[k].kept < (fs[k].text.size:Int))=false):keptD (fs.drop k)=keptD (fs.drop (k+1)):=by
 rw [List.drop_eq_getElem_cons h,keptD,List.all_cons,hF];rfl
theorem kept_end {fs:List FileD} {k:Nat} (h:fs.length≤k):keptD (fs.drop k)=true:=by
 rw [List.drop_eq_nil_of_le h];rfl
def atFrom (name:ByteArray):Nat→List FileD→Int
 | _,[] => -1
 | k,F :: r => if (F.name.toList == name.toList)=true then (k:Int) else atFrom name (k+1) r
theorem at_hit {fs:List FileD} {name:ByteArray} {k:Nat} (h:k < fs.length) (hF:(fs[k].name.toList == name.toList)=true):atFrom name k (fs.drop k)=k:=by
 rw [List.drop_eq_getElem_cons h,atFrom,if_pos hF]
theorem at_miss {fs:List FileD} {name:ByteArray} {k:Nat} (h:k < fs.length) (hF:(fs[k].name.toList == name.toList)=false):atFrom name k (fs.drop k)=atFrom name (k+1) (fs.drop (k+1)):=by
 rw [List.drop_eq_getElem_cons h,atFrom,if_neg (by rw [hF];decide)]
theorem at_end {fs:List FileD} {name:ByteArray} {k:Nat} (h:fs.length≤k):atFrom name k (fs.drop k) = -1:=by
 rw [List.drop_eq_nil_of_le h];rfl
theorem at_cases (name:ByteArray):∀ (fs:List FileD) (k:Nat),(atFrom name k fs = -1∧∀ F ∈ fs,(F.name.toList == name.toList)=false) ∨ (∃ j,∃ h:j < fs.length,atFrom name k fs=((k+j:Nat):Int)∧(fs[j].name.toList == name.toList)=true∧fs.find? (fun F => F.name.toList == name.toList)=some fs[j])
 | [],_ => .inl ⟨rfl,fun _ h => absurd h (List.not_mem_nil)⟩
 | F :: r,k => by
  cases hF:(F.name.toList == name.toList)
  ·
   rcases at_cases name r (k+1) with ⟨h1,h2⟩ | ⟨j,h,h1,h2,h3⟩
   ·
    refine .inl ⟨by rw [atFrom,if_neg (by rw [hF];decide)];exact h1,?_⟩
    intro G hG
    rcases List.mem_cons.1 hG with rfl | hG
    · exact hF
    · exact h2 G hG
   ·
    refine .inr ⟨j+1,by simp;omega,?_,?_,?_⟩
    · rw [atFrom,if_neg (by rw [hF];decide),h1];congr 1;omega
    · simpa using h2
    · rw [List.find?_cons,hF];simpa using h3
  · refine .inr ⟨0,by simp,by rw [atFrom,if_pos hF];rfl,hF,by rw [List.find?_cons,hF];rfl⟩
def fileD (fs:List FileD) (name:ByteArray):Option FileD:=fs.find? (fun F => F.name.toList == name.toList)
theorem fileD_hit {fs:List FileD} {name:ByteArray} {k:Nat} (h:k < fs.length) (hF:(fs[k].name.toList == name.toList)=true):fileD (fs.drop k) name=some fs[k]:=by
 rw [List.drop_eq_getElem_cons h,fileD,List.find?_cons,hF]
theorem fileD_miss {fs:List FileD} {name:ByteArray} {k:Nat} (h:k < fs.length) (hF:(fs[k].name.toList == name.toList)=false):fileD (fs.drop k) name=fileD (fs.drop (k+1)) name:=by
 rw [List.drop_eq_getElem_cons h,fileD,List.find?_cons,hF];rfl
theorem fileD_end {fs:List FileD} {name:ByteArray} {k:Nat} (h:fs.length≤k):fileD (fs.drop k) name=none:=by
 rw [List.drop_eq_nil_of_le h];rfl
theorem small_max {n:Nat} (h:n≤1048576):n≤maxLen:=by unfold maxLen;omega
structure SegD where
 num:Nat
 frm:Nat
 bs:List BatchD
 fin:Nat
 right:Bool
 torn:Bool
def SegD.pls (s:SegD):List Nat:=plsB (frameB ⟨(headL s.num s.frm).toArray⟩).size s.bs
theorem SegD.pls_len (s:SegD):s.pls.length=s.bs.length:=plsB_len _ _
def segTorn (n:Int) (s:ByteArray):Bool:=segOk n s && decide (segEnd n s < s.size)
def segOfFile (n:Nat) (F:FileD):SegD:=⟨n,segFrom n F.text,segBatches n F.text,segEnd n F.text,segOk n F.text,segTorn n F.text⟩
theorem segOfFile_pls (n:Nat) (F:FileD):(segOfFile n F).pls=segPls n F.text:=rfl
def segD (fs:List FileD) (n:Nat):Option SegD:=(fileD fs (segNm n)).map (segOfFile n)
def segsTo (fs:List FileD):Nat→List SegD
 | 0 => []
 | k+1 => segsTo fs k ++ (segD fs k).toList
theorem segsTo_none {fs:List FileD} {k:Nat} (h:fileD fs (segNm k)=none):segsTo fs (k+1)=segsTo fs k:=by
 show segsTo fs k ++ (segD fs k).toList=_
 unfold segD
 rw [h]
 exact List.append_nil _
theorem segsTo_some {fs:List FileD} {k:Nat} {F:FileD} (h:fileD fs (segNm k)=some F):segsTo fs (k+1)=segsTo fs k ++ [segOfFile k F]:=by
 show segsTo fs k ++ (segD fs k).toList=_
 unfold segD
 rw [h]
 rfl
theorem segsTo_len (fs:List FileD):∀ k,(segsTo fs k).length≤k
 | 0 => Nat.le_refl _
 | k+1 => by
  have:=segsTo_len fs k
  cases h:fileD fs (segNm k) with
  | none => rw [segsTo_none h];omega
  | some F => rw [segsTo_some h,List.length_append,List.length_singleton];omega
theorem segFrom_le (n:Nat) (s:ByteArray):segFrom n s≤99:=by
 cases hr:segRead n s with
 | none => rw [(seg_none hr).1];omega
 | some q =>
  obtain ⟨f,bs,e⟩:=q
  rw [(seg_some hr).1]
  cases hu:unf s with
  | nil => rw [segRead_nil hu] at hr;simp at hr
  | cons x r =>
   cases hh:hdFrom n (s.extract x.1 x.2) with
   | none => rw [segRead_head hu hh] at hr;simp at hr
   | some f' =>
    have:=hdFrom_le hh
    rw [segRead_some hu hh] at hr
    simp only [Option.some.injEq,Prod.mk.injEq] at hr
    omega
theorem segFrom_not {n:Int} {s:ByteArray} (h:segOk n s=false):segFrom n s=0:=by
 cases hr:segRead n s with
 | none => exact (seg_none hr).1
 | some q =>
  obtain ⟨f,bs,e⟩:=q
  rw [(seg_some hr).2.2.2] at h
  cases h
theorem segsTo_mem {fs:List FileD}:∀ {k:Nat} {s:SegD},s ∈ segsTo fs k→s.num < k∧s.frm≤99∧∃ F ∈ fs,s=segOfFile s.num F∧fileD fs (segNm s.num)=some F
 | 0,_,h => absurd h List.not_mem_nil
 | k+1,s,h => by
  cases hf:fileD fs (segNm k) with
  | none =>
   rw [segsTo_none hf] at h
   have:=segsTo_mem h
   exact ⟨by omega,this.2⟩
  | some F =>
   rw [segsTo_some hf] at h
   rcases List.mem_append.1 h with h | h
   ·
    have:=segsTo_mem h
    exact ⟨by omega,this.2⟩
   ·
    obtain rfl:s=segOfFile k F:=by simpa using h
    exact ⟨Nat.lt_succ_self _,segFrom_le _ _,F,List.mem_of_find?_eq_some hf,rfl,hf⟩
def topFrom (l:List SegD):Nat:=l.foldl (fun m s => max m s.frm) 0
theorem topFrom_snoc (l:List SegD) (s:SegD):topFrom (l ++ [s])=max (topFrom l) s.frm:=by simp [topFrom]
theorem topFrom_le (l:List SegD) (m:Nat) (h:∀ s ∈ l,s.frm≤m):topFrom l≤m:=by
 unfold topFrom
 suffices H:∀ (l:List SegD) (k:Nat),k≤m→(∀ s ∈ l,s.frm≤m)→l.foldl (fun m s => max m s.frm) k≤m from H l 0 (Nat.zero_le _) h
 intro l
 induction l with
 | nil => intro k hk _;exact hk
 | cons a r ih =>
  intro k hk hl
  exact ih _ (by have:=hl a (List.mem_cons_self ..);show max k a.frm≤m;omega) (fun s hs => hl s (List.mem_cons_of_mem _ hs))
def counting (m:Nat) (l:List SegD):List SegD:=l.filter (fun s => decide (m≤s.num))
theorem counting_snoc_in {m:Nat} {l:List SegD} {s:SegD} (h:m≤s.num):counting m (l ++ [s])=counting m l ++ [s]:=by simp [counting,h]
theorem counting_snoc_out {m:Nat} {l:List SegD} {s:SegD} (h:s.num < m):counting m (l ++ [s])=counting m l:=by simp [counting,h]
theorem counting_len (m:Nat) (l:List SegD):(counting m l).length≤l.length:=List.length_filter_le _ _
def allRight (l:List SegD):Bool:=l.all SegD.right
theorem allRight_snoc (l:List SegD) (s:SegD):allRight (l ++ [s])=(allRight l && s.right):=by simp [allRight]
theorem allRight_app (l r:List SegD):allRight (l ++ r)=(allRight l && allRight r):=by simp [allRight]
theorem counting_app (m:Nat) (l r:List SegD):counting m (l ++ r)=counting m l ++ counting m r:=by simp [counting]
def segsC (fs:List FileD):List SegD:=counting (topFrom (segsTo fs 100)) (segsTo fs 100)
def segsOk (fs:List FileD):Bool:=diskOkD fs && (allRight (segsC fs) && decide (0 < (segsC fs).length))
def segsL (fs:List FileD):List SegD:=if segsOk fs then segsC fs else []
theorem segsOk_disk {fs:List FileD} (h:diskOkD fs=false):segsOk fs=false∧segsL fs=[]:=by
 have:segsOk fs=false:=by unfold segsOk;rw [h];rfl
 exact ⟨this,by unfold segsL;rw [this];rfl⟩
theorem segsOk_wrong {fs:List FileD} (h:allRight (segsC fs)=false):segsOk fs=false∧segsL fs=[]:=by
 have:segsOk fs=false:=by unfold segsOk;rw [h];simp
 exact ⟨this,by unfold segsL;rw [this];rfl⟩
theorem segsOk_rest {fs:List FileD} (hd:diskOkD fs=true) (h:allRight (segsC fs)=true):segsOk fs=decide (0 < (segsC fs).length)∧segsL fs=segsC fs:=by
 have h1:segsOk fs=decide (0 < (segsC fs).length):=by unfold segsOk;rw [hd,h];simp
 refine ⟨h1,?_⟩
 unfold segsL
 rw [h1]
 by_cases he:0 < (segsC fs).length
 · rw [decide_eq_true he];rfl
 · rw [decide_eq_false he,show segsC fs=[] from List.eq_nil_of_length_eq_zero (by omega)];rfl
theorem segsC_len (fs:List FileD):(segsC fs).length≤100:=Nat.le_trans (counting_len _ _) (segsTo_len fs 100)
theorem segsL_len (fs:List FileD):(segsL fs).length≤100:=by
 unfold segsL
 split
 · exact segsC_len fs
 · exact Nat.zero_le _
theorem segsL_mem {fs:List FileD} {s:SegD} (h:s ∈ segsL fs):s ∈ segsTo fs 100:=by
 unfold segsL at h
 split at h
 · exact (List.mem_filter.1 h).1
 · exact absurd h List.not_mem_nil
def riseI:Int→List Int→Bool
 | _,[] => true
 | last,q :: r => decide (last < q) && riseI q r
def seqsOf (l:List SegD):List Int:=l.flatMap fun s => s.bs.map BatchD.seq
theorem seqsOf_cons (s:SegD) (l:List SegD):seqsOf (s :: l)=s.bs.map BatchD.seq ++ seqsOf l:=by simp [seqsOf]
def seqsRise (fs:List FileD):Bool:=segsOk fs && riseI (-1) (seqsOf (segsL fs))
end Go.Proofs.YtepdckehokdjlaaGreatDoor
