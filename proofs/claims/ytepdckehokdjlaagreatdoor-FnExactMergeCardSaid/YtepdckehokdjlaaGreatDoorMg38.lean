import Derived.Test.YtepdckehokdjlaaGreatDoorMg23
import Derived.Test.YtepdckehokdjlaaGreatDoorMg13
import Derived.Test.YtepdckehokdjlaaGreatDoorMg24
import Derived.Test.YtepdckehokdjlaaGreatDoorMg9
import Derived.Test.YtepdckehokdjlaaGreatDoorMg8
import Derived.Test.YtepdckehokdjlaaGreatDoorMg37
import Derived.Test.YtepdckehokdjlaaGreatDoorMg21
set_option maxRecDepth 100000
set_option maxHeartbeats 3200000
namespace Go.Proofs.YtepdckehokdjlaaGreatDoor
open Go.RowKit
theorem told_drop_yes {D:List SpotD} {seg pos:Int} {k:Nat} (h:k < D.length) (h1:(D[k].seg == seg)=true) (h2:(D[k].pos == pos)=true):toldB (D.drop k) seg pos=true:=by
 rw [List.drop_eq_getElem_cons h]
 unfold toldB
 rw [List.any_cons,h1,h2]
 rfl
theorem told_drop_no {D:List SpotD} {seg pos:Int} {k:Nat} (h:k < D.length) (h1:((D[k].seg == seg) && (D[k].pos == pos))=false):toldB (D.drop k) seg pos=toldB (D.drop (k+1)) seg pos:=by
 rw [List.drop_eq_getElem_cons h]
 unfold toldB
 rw [List.any_cons,h1]
 rfl
theorem l09Told_any (D:List SpotD) (ar:Option Addr) (cr:Nat) (seg pos:Int) (w:World) (hD:D.length≤1000000) (hds:SpotsAt w ar D) :
  Calls Tryz.prog 40 #[.slice ar D.length cr,.int .i64 seg,.int .i64 pos] w fun e w' => e=.returned (.bool (toldB D seg pos))∧w' = w:=by
 have HD:=hide hds
 clear hds
 obtain ⟨R,HR⟩:∃ R,Hid (toldB (D.drop 0) seg pos=R):=⟨_,hide rfl⟩
 rw [show toldB D seg pos=R from HR.out]
 go_enter Tryz.func40,Tryz.ntmps40
 go_wp2_with fail
 go_loopw [7] (fun ii wr => ∃ (k:Nat),ii=.int .i64 k∧k≤D.length∧Hid (toldB (D.drop k) seg pos=R)∧wr=w) (fun ii _ => D.length - (intOf ii).toNat)
 case atStart => exact ⟨0,rfl,Nat.zero_le _,HR,rfl⟩
 case round =>
  obtain ⟨k,rfl,hk,HK,rfl⟩:=hrel
  by_cases hlt:k < D.length
  ·
   have hlt':decide ((k:Int) < (D.length:Int))=true:=by simp;omega
   have hk0:(0:Int)≤(k:Int):=by omega
   have hk1:(k:Int) < (D.length:Int):=by omega
   obtain ⟨b,off,rfl,hbw,hc0,hc1,hc2,hc3⟩:=HD.out k hlt
   have HY:=hide (fun h1 h2 => told_drop_yes (seg:=seg) (pos:=pos) hlt h1 h2)
   have HN:=hide (fun h1 => told_drop_no (seg:=seg) (pos:=pos) hlt h1)
   generalize D[k]=T at hc0 hc1 hc2 hc3 HY HN
   cases h1:(T.seg == seg) with
   | true =>
    cases h2:(T.pos == pos) with
    | true =>
     have hR:Hid (R=true):=HK.out.symm.trans (HY.out h1 h2)
     go_wp2
     go_ret
     rw [hR.out]
     exact ⟨rfl,rfl⟩
    | false =>
     have HK1:Hid (toldB (D.drop (k+1)) seg pos=R):=(HN.out (by rw [h1,h2];rfl)).symm.trans HK.out
     go_wp2
     go_roundw
     case rel => exact ⟨k+1,by go_num,by omega,HK1,by first | rfl | trivial⟩
     case measure => simp [intOf];omega
   | false =>
    have HK1:Hid (toldB (D.drop (k+1)) seg pos=R):=(HN.out (by rw [h1];rfl)).symm.trans HK.out
    go_wp2
    go_roundw
    case rel => exact ⟨k+1,by go_num,by omega,HK1,by first | rfl | trivial⟩
    case measure => simp [intOf];omega
  ·
   have hlt':decide ((k:Int) < (D.length:Int))=false:=by simp;omega
   have hR:Hid (R=false):=by show _=_;rw [← HK.out,List.drop_eq_nil_of_le (by omega)];rfl
   go_wp2
   go_ret
   rw [hR.out]
   exact ⟨rfl,rfl⟩
def keptP (D:List SpotD) (seg pos:Int) (k:Nat) (A:ChangeD):List ChangeD:=((D.take k).filter (keptB seg pos A)).map fun _ => A
theorem keptP_succ {D:List SpotD} {seg pos:Int} {k:Nat} {A:ChangeD} (h:k < D.length):keptP D seg pos (k+1) A=keptP D seg pos k A ++ (if keptB seg pos A D[k] then [A] else []):=by
 unfold keptP
 rw [List.take_succ_eq_append_getElem h,List.filter_append,List.map_append]
 congr 1
 cases hb:keptB seg pos A D[k] <;> simp [hb]
theorem keptP_all {D:List SpotD} {seg pos:Int} {k:Nat} {A:ChangeD} (h:D.length≤k):keptP D seg pos k A=keptOne D seg pos A:=by
 unfold keptP keptOne
 rw [List.take_of_length_le h]
theorem keptP_le (D:List SpotD) (seg pos:Int) (k:Nat) (A:ChangeD):(keptP D seg pos k A).length≤(keptOne D seg pos A).length:=by
 unfold keptP keptOne
 rw [List.length_map,List.length_map]
 exact ((List.take_sublist k D).filter _).length_le
theorem keptS_take {D:List SpotD} {seg pos:Int} {cs:List ChangeD} {i:Nat} (h:i < cs.length):keptS D seg pos (cs.take (i+1))=keptS D seg pos (cs.take i) ++ keptOne D seg pos cs[i]:=by
 unfold keptS
 rw [List.take_succ_eq_append_getElem h,List.flatMap_append]
 simp
theorem keptS_le (D:List SpotD) (seg pos:Int) (cs:List ChangeD) (i:Nat):(keptS D seg pos (cs.take i)).length≤(keptS D seg pos cs).length:=by
 have e:keptS D seg pos cs=keptS D seg pos (cs.take i) ++ keptS D seg pos (cs.drop i):=by
  unfold keptS
  rw [← List.flatMap_append,List.take_append_drop]
 rw [e,List.length_append]
 omega
theorem l09Kept_any (D:List SpotD) (ar:Option Addr) (cr:Nat) (q:Int) (cs:List ChangeD) (ac:Option Addr) (cc:Nat) (seg pos:Int) (w:World) (hD:D.length≤1000000) (hcl:cs.length≤40) (hK:(keptS D seg pos cs).length≤1000) (hds:SpotsAt w ar D) (hcs:ChangesAt w ac cs) :
  Calls Tryz.prog 42 #[.slice ar D.length cr,.agg #[.int .i64 q,.slice ac cs.length cc],.int .i64 seg,.int .i64 pos] w fun e w' => (∃ v,e=.returned v∧RowChange w' w.heap.size v (keptS D seg pos cs))∧Below w.heap.size w w':=by
 have HD:=hide hds
 have HC:=hide hcs
 clear hds hcs
 obtain ⟨wb,hwb⟩:∃ wb,wb=(w.alloc (.cells #[.int .i64 q,.slice ac cs.length cc] 87)).alloc (.cells #[] 145):=⟨_,rfl⟩
 have HB0:Hid (Below w.heap.size w wb):=by rw [hwb];exact ((Below.refl _ w).alloc (Nat.le_refl _) _).alloc (by simp) _
 have hbs:wb.heap.size=w.heap.size+2:=by rw [hwb];simp
 have HBK:Hid (wb.heap[w.heap.size]? = some (.cells #[.int .i64 q,.slice ac cs.length cc] 87 (0,0))):=by
  show _=_
  rw [hwb]
  exact (Below.heap_alloc _ _ _ (by simp)).trans (heap_alloc_new w _)
 have HO0:Hid (wb.ownsRow (w.heap.size+1) 145 3 (.slice (some ⟨w.heap.size+1,0,none⟩) 0 0) 0 []):=by
  rw [hwb]
  have:=World.ownsRow_lit (e:=145) (size:=3) (w.alloc (.cells #[.int .i64 q,.slice ac cs.length cc] 87)) #[] 0 (Nat.le_refl _) (by unfold maxLen;omega) (by simp)
  show World.ownsRow _ _ _ _ _ _ _
  simpa using this
 go_enter Tryz.func42,Tryz.ntmps42
 go_wp2_with fail
 rw [← hwb]
 clear hwb
 go_loopg [9,10] cs.length (fun gg vo ii wr => ∃ i:Nat,i+gg=cs.length∧ii=.int .i64 i∧i≤cs.length∧Hid (wr.ownsRow (w.heap.size+1) 145 3 vo (keptS D seg pos (cs.take i)).length (cellsChange (keptS D seg pos (cs.take i))))∧Hid (Below (w.heap.size+1) wb wr))
 case atStart => exact ⟨0,by omega,rfl,Nat.zero_le _,HO0,Below.refl _ _⟩
 case round =>
  obtain ⟨i,hig,rfl,hi,HOr,HBr⟩:=hrel
  have hws:=HBr.out.size
  have HWr:Hid (Below w.heap.size w wr):=HB0.out.trans (HBr.out.mono (Nat.le_succ _))
  have hz1:wr.cell? ⟨w.heap.size,1,none⟩=some (.slice ac cs.length cc):=(HBr.out.cell (p:=⟨w.heap.size,1,none⟩) (Nat.lt_succ_self _)).trans ((cell_of_row wb _ 1 _ _ (0,0) HBK.out).trans rfl)
  cases gk with
  | zero =>
   have hlt':decide ((i:Int) < (cs.length:Int))=false:=by rw [decide_eq_false_iff_not];omega
   have hltn:decide (i < cs.length)=false:=by rw [decide_eq_false_iff_not];omega
   rw [List.take_of_length_le (by omega)] at HOr
   go_wp2
   go_ret
   exact ⟨⟨_,rfl,rowChange_own (ownsRow_mono HOr.out (Nat.le_succ _))⟩,HWr.out⟩
  | succ g0 =>
   have hlt:i < cs.length:=by omega
   have hlt':decide ((i:Int) < (cs.length:Int))=true:=by rw [decide_eq_true_eq];omega
   have hltn:decide (i < cs.length)=true:=by rw [decide_eq_true_eq];omega
   have hi0:(0:Int)≤(i:Int):=by omega
   have hi1:(i:Int) < (cs.length:Int):=by omega
   have HST:=hide (keptS_take (D:=D) (seg:=seg) (pos:=pos) hlt)
   have hle:=keptS_le D seg pos cs (i+1)
   rw [HST.out,List.length_append] at hle
   have HCA:Hid (∀ W,Below w.heap.size w W→∃ b off:Nat,ac=some ⟨b,off,none⟩∧b < W.heap.size∧W.cell? ⟨b,off+i * 3,none⟩=some (.string cs[i].key)∧W.cell? ⟨b,off+i * 3+1,none⟩=some (.string cs[i].value)∧W.cell? ⟨b,off+i * 3+2,none⟩=some (.bool cs[i].gone)):=fun W hW => changesAt_keep HC.out hW i hlt
   generalize cs[i]=A at HST hle HCA
   obtain ⟨L,HL⟩:∃ L,Hid (keptS D seg pos (cs.take i)=L):=⟨_,hide rfl⟩
   rw [HL.out] at HST hle HOr
   obtain ⟨wO,hwO⟩:∃ wO,wO=wr:=⟨_,rfl⟩
   subst hwO
   go_wp2_with fail
   clear hlt' hltn
   go_loopg [9,11] D.length (fun g2 vo ii wy => ∃ k:Nat,k+g2=D.length∧ii=.int .i64 k∧k≤D.length∧Hid (wy.ownsRow (w.heap.size+1) 145 3 vo (L ++ keptP D seg pos k A).length (cellsChange (L ++ keptP D seg pos k A)))∧Hid (Below (w.heap.size+1) wO wy))
   case atStart => exact ⟨0,by omega,rfl,Nat.zero_le _,by show World.ownsRow _ _ _ _ _ _ _;rw [show keptP D seg pos 0 A=[] from rfl,List.append_nil];exact HOr.out,Below.refl _ _⟩
   case round =>
    clear HOr hz1
    obtain ⟨k,hkg,rfl,hk,HOk,HBk⟩:=hrel
    have hwk:=HBk.out.size
    have HWk:Hid (Below w.heap.size w wr):=HWr.out.trans (HBk.out.mono (Nat.le_succ _))
    have hz1:wr.cell? ⟨w.heap.size,1,none⟩=some (.slice ac cs.length cc):=((HBr.out.trans HBk.out).cell (p:=⟨w.heap.size,1,none⟩) (Nat.lt_succ_self _)).trans ((cell_of_row wb _ 1 _ _ (0,0) HBK.out).trans rfl)
    cases gk with
    | zero =>
     have hlt':decide ((k:Int) < (D.length:Int))=false:=by rw [decide_eq_false_iff_not];omega
     have hltn:decide (k < D.length)=false:=by rw [decide_eq_false_iff_not];omega
     rw [keptP_all (by omega),← HST.out] at HOk
     go_wp2_with fail
     go_roundg g0
     case measure => omega
     case rel => exact ⟨i+1,by omega,by go_num,by omega,HOk,HBr.out.trans HBk.out⟩
    | succ g1 =>
     have hltk:k < D.length:=by omega
     have hlt':decide ((k:Int) < (D.length:Int))=true:=by rw [decide_eq_true_eq];omega
     have hltn:decide (k < D.length)=true:=by rw [decide_eq_true_eq];omega
     have hk0:(0:Int)≤(k:Int):=by omega
     have hk1:(k:Int) < (D.length:Int):=by omega
     obtain ⟨bd,offd,hd,hdw,hc0,hc1,hc2,hc3⟩:=spotsAt_keep HD.out HWk.out k hltk
     obtain ⟨bc,offc,hc,hcw,hd0,hd1,hd2⟩:=HCA.out _ HWk.out
     have HKS:=hide (keptP_succ (seg:=seg) (pos:=pos) (A:=A) hltk)
     generalize D[k]=T at hc0 hc1 hc2 hc3 HKS
     obtain ⟨P,HP⟩:∃ M,Hid (L ++ keptP D seg pos k A=M):=⟨_,hide rfl⟩
     have hPl:P.length≤1048576:=by
      have:=keptP_le D seg pos k A
      rw [← HP.out,List.length_append]
      omega
     rw [HP.out] at HOk
     subst hd hc
     cases b1:(T.key.toList == A.key.toList) with
     | false =>
      have HN:Hid (keptP D seg pos (k+1) A=keptP D seg pos k A):=by show _=_;rw [HKS.out];unfold keptB;rw [b1];simp
      go_wp2_with fail
      go_quiet (fail)
      go_wp2_with fail
      go_roundg g1
      case measure => omega
      case rel =>
       refine ⟨k+1,by omega,by go_num,by omega,?_,below_drewN HBk.out _⟩
       show World.ownsRow _ _ _ _ _ _ _
       rw [HN.out,HP.out]
       exact ownsRow_below HOk.out (drewN_below _ _)
     | true =>
      cases b2:(T.seg == seg) with
      | false =>
       have HN:Hid (keptP D seg pos (k+1) A=keptP D seg pos k A):=by show _=_;rw [HKS.out];unfold keptB;rw [b1,b2];simp
       go_wp2_with fail
       go_quiet (fail)
       go_wp2_with fail
       go_roundg g1
       case measure => omega
       case rel =>
        refine ⟨k+1,by omega,by go_num,by omega,?_,below_drewN HBk.out _⟩
        show World.ownsRow _ _ _ _ _ _ _
        rw [HN.out,HP.out]
        exact ownsRow_below HOk.out (drewN_below _ _)
      | true =>
       cases b3:(T.pos == pos) with
       | false =>
        have HN:Hid (keptP D seg pos (k+1) A=keptP D seg pos k A):=by show _=_;rw [HKS.out];unfold keptB;rw [b1,b2,b3];simp
        go_wp2_with fail
        go_quiet (fail)
        go_wp2_with fail
        go_roundg g1
        case measure => omega
        case rel =>
         refine ⟨k+1,by omega,by go_num,by omega,?_,below_drewN HBk.out _⟩
         show World.ownsRow _ _ _ _ _ _ _
         rw [HN.out,HP.out]
         exact ownsRow_below HOk.out (drewN_below _ _)
       | true =>
        have HN:Hid (keptP D seg pos (k+1) A=keptP D seg pos k A ++ [A]):=by show _=_;rw [HKS.out];unfold keptB;rw [b1,b2,b3];simp
        go_wp2_with fail
        go_quiet (fail)
        have B9d:=hide (below_drewN HBk.out nq)
        have HO7:=hide (ownsRow_below HOk.out (drewN_below _ nq))
        have hy1:(wr.drewN nq).cell? ⟨w.heap.size,1,none⟩=some (.slice (some ⟨bc,offc,none⟩) cs.length cc):=hz1
        have hs9:w.heap.size+1≤wr.heap.size:=by omega
        go_wp2_with (at_builtin;refine app_change _ (w.heap.size+1) (by rfl) _ _ (by rfl) _ P A (by rfl) (HO7.out.alloc _) wr.heap.size (by rfl) (heap_alloc_new (wr.drewN nq) _) hPl (by simp;omega) ?_;intro g5 cap5 w5 ho5 hb5 hg5 hgl5;have HO5:=hide ho5;have HB5:=hide hb5;clear ho5 hb5 hg5 hgl5)
        go_roundg g1
        case measure => omega
        case rel =>
         refine ⟨k+1,by omega,by go_num,by omega,?_,(B9d.out.alloc (by show _≤wr.heap.size;omega) _).trans HB5.out⟩
         show World.ownsRow _ _ _ _ _ _ _
         rw [HN.out,← List.append_assoc,HP.out]
         exact HO5.out
end Go.Proofs.YtepdckehokdjlaaGreatDoor
