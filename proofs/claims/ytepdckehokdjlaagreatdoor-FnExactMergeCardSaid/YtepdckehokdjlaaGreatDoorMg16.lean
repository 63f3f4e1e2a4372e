import Derived.BigQuiet
import Derived.Test.YtepdckehokdjlaaGreatDoorMg15
import Derived.Test.YtepdckehokdjlaaGreatDoorMg2
set_option maxRecDepth 100000
set_option maxHeartbeats 3200000
namespace Go.Proofs.YtepdckehokdjlaaGreatDoor
open Go.RowKit
def StI (w wr:World) (g p:Nat) (t:ByteArray) (i:Nat) (q:Int) (v:Value) (acc:List ChangeD):Prop :=
 wr.heap[w.heap.size]? = some (.cells #[.int .i64 0,.slice none 0 0] 87 (0,0))∧RI w wr g t i∧w.heap.size < p∧wr.heap[p]? = some (.cells #[.int .i64 q,v] 87 (0,0)) ∧
 wr.ownsRow (p+1) 145 3 v acc.length (cellsChange acc)
def AnsI (t:ByteArray) (g:Nat) (w:World) (e:Ending) (w':World):Prop :=
 (btI t=none∧e=.panicked noB∧w.grownBy w' (some g)) ∨
 (∃ (q:Nat) (cs:List ChangeD) (p:Nat) (ao:Option Addr) (cap:Nat),btI t=some (q,cs,p)∧e=.returned (.agg #[.int .i64 (q:Int),.slice ao cs.length cap])∧RI w w' g t p∧RowChange w' w.heap.size (.slice ao cs.length cap) cs∧cs.length≤t.size∧p≤t.size∧∀ A ∈ cs,A.key.size≤20000∧A.value.size≤20000)
theorem btI_head {t:ByteArray} (h:¬ (0 < t.size∧Wd.bt t 0=66)):btI t=none:=by unfold btI;rw [if_neg h]
theorem btI_seq {t:ByteArray} (h:0 < t.size∧Wd.bt t 0=66) (h1:Wd.rv t 1=none):btI t=none:=by unfold btI;rw [if_pos h,h1]
theorem btI_count {t:ByteArray} {q p:Nat} (h:0 < t.size∧Wd.bt t 0=66) (h1:Wd.rv t 1=some (q,p)) (h2:Wd.rv t p=none):btI t=none:=by unfold btI;rw [if_pos h,h1];simp only;rw [h2]
def btOf (q:Nat):Option (List ChangeD × Nat)→Option (Nat × List ChangeD × Nat)
 | none => none
 | some (cs,e) => some (q,cs,e)
theorem btI_rest {t:ByteArray} {q p n p2:Nat} (h:0 < t.size∧Wd.bt t 0=66) (h1:Wd.rv t 1=some (q,p)) (h2:Wd.rv t p=some (n,p2)):btI t=btOf q (chsI t n p2 []):=by
 unfold btI
 rw [if_pos h,h1]
 simp only
 rw [h2]
 simp only
 cases chsI t n p2 [] <;> rfl
theorem ri_over {w W W':World} {g B:Nat} {t:ByteArray} {i:Nat} (h:RI w W g t i) (hg:g < w.heap.size) (hb:Below B W W') (hB:w.heap.size≤B):RI w W' g t i :=
 ⟨(hb.block g (by omega)).trans h.1,⟨hb.os.trans h.2.os,hb.tape.trans h.2.tape,hb.output.trans h.2.output,Nat.le_trans h.2.size hb.size,fun k hk hne => (hb.block k (by omega)).trans (h.2.block k hk hne)⟩⟩
theorem batch_any (t:ByteArray) (g:Nat) (w:World) (ht:t.size≤9000) (h:CurI w g t 0) :
  Calls Tryz.prog 208 #[.pointer (some ⟨g,0,none⟩)] w (AnsI t g w):=by
 have hg:=curI_lt h
 have b0:RI w (w.alloc (.cells #[.int .i64 0,.slice none 0 0] 87)) g t 0:=ri_below (ri_refl h) ((Below.refl _ w).alloc (Nat.le_refl _) _)
 have hbx0:=heap_alloc_new w (.cells #[.int .i64 0,.slice none 0 0] 87)
 clear h
 by_cases hs0:0 < t.size
 case neg =>
  have C1:=hide (fun W (hW:CurI W g t 0) => oneByte_no t g 0 W hs0 hW)
  have HE:=hide (btI_head (t:=t) (fun h => hs0 h.1))
  clear hs0
  go_enter Tryz.func208,Tryz.ntmps208
  go_wp2_with fail
  refine (C1.out _ b0.1).mono ?_
  rintro e1 w1 ⟨rfl,r1⟩
  exact ⟨rfl,.inl ⟨HE.out,rfl,grownBy_trans b0.2 r1⟩⟩
 have C1:=hide (fun W (hW:CurI W g t 0) => oneByte_yes t g 0 W ht hs0 hW)
 by_cases hb:Wd.bt t 0=66
 case neg =>
  have HE:=hide (btI_head (t:=t) (fun h => hb h.2))
  generalize Wd.bt t 0=b at C1 hb
  have hb':((b:Int) == 66)=false:=by simp;omega
  clear hs0 hb
  go_enter Tryz.func208,Tryz.ntmps208
  go_wp2_with fail
  refine (C1.out _ b0.1).mono ?_
  rintro e1 w1 ⟨rfl,r1⟩
  go_wp2_with fail
  refine (must_no _ _).mono ?_
  rintro e1 w3 ⟨rfl,rfl⟩
  exact ⟨rfl,.inl ⟨HE.out,rfl,grownBy_trans b0.2 r1.2⟩⟩
 have HH:Hid (0 < t.size∧Wd.bt t 0=66):=⟨hs0,hb⟩
 rw [hb] at C1
 clear hb
 cases hr1:Wd.rv t 1 with
 | none =>
  have C2:=hide (fun W (hW:CurI W g t (0+1)) => number_no t g 1 W ht (by omega) hW hr1)
  have HE:=hide (btI_seq HH.out hr1)
  clear hr1
  go_enter Tryz.func208,Tryz.ntmps208
  go_wp2_with fail
  refine (C1.out _ b0.1).mono ?_
  rintro e1 w1 ⟨rfl,r1⟩
  go_wp2_with fail
  refine (must_yes _ _).mono ?_
  rintro e1 w3 ⟨rfl,rfl⟩
  go_wp2_with fail
  refine (C2.out _ r1.1).mono ?_
  rintro e1 w4 ⟨rfl,r4⟩
  exact ⟨rfl,.inl ⟨HE.out,rfl,grownBy_trans b0.2 (grownBy_trans r1.2 r4)⟩⟩
 | some x =>
  obtain ⟨q,p1⟩:=x
  have hq:=Wd.rv_bounds t 1 q p1 hr1
  have C2:=hide (fun W (hW:CurI W g t (0+1)) => number_yes t g 1 q p1 W ht (by omega) hW hr1)
  have BN:Hid (∀ W:World,RI w W g t p1→W.heap[w.heap.size]? = some (.cells #[.int .i64 0,.slice none 0 0] 87 (0,0))→StI w (W.alloc (.cells #[.int .i64 (q:Int),.slice none 0 0] 87)) g W.heap.size t p1 (q:Int) (.slice none 0 0) []):=fun W h1 h2 => by
   have bb:Below W.heap.size W (W.alloc (.cells #[.int .i64 (q:Int),.slice none 0 0] 87)):=(Below.refl _ W).alloc (Nat.le_refl _) _
   exact ⟨(bb.block _ (heap_lt h2)).trans h2,ri_below h1 bb,heap_lt h2,heap_alloc_new W _,World.ownsRow_nil _ _ _ _⟩
  cases hr2:Wd.rv t p1 with
  | none =>
   have C3:=hide (fun W (hW:CurI W g t p1) => number_no t g p1 W ht hq.2.2 hW hr2)
   have HE:=hide (btI_count HH.out hr1 hr2)
   clear hr1 hr2 BN
   go_enter Tryz.func208,Tryz.ntmps208
   go_wp2_with fail
   refine (C1.out _ b0.1).mono ?_
   rintro e1 w1 ⟨rfl,r1⟩
   go_wp2_with fail
   refine (must_yes _ _).mono ?_
   rintro e1 w3 ⟨rfl,rfl⟩
   go_wp2_with fail
   refine (C2.out _ r1.1).mono ?_
   rintro e1 w4 ⟨rfl,r4⟩
   have R4:=hide (ri_trans b0 (ri_trans r1 r4))
   clear r1 r4 b0
   have R5:=hide (ri_below R4.out ((Below.refl _ w4).alloc (Nat.le_refl _) (.cells #[.int .i64 (q:Int),.slice none 0 0] 87)))
   go_wp2_with fail
   refine (C3.out _ R5.out.1).mono ?_
   rintro e1 w6 ⟨rfl,r6⟩
   exact ⟨rfl,.inl ⟨HE.out,rfl,grownBy_trans R5.out.2 r6⟩⟩
  | some y =>
   obtain ⟨n,p2⟩:=y
   have hn:=Wd.rv_bounds t p1 n p2 hr2
   have C3:=hide (fun W (hW:CurI W g t p1) => number_yes t g p1 n p2 W ht hq.2.2 hW hr2)
   obtain ⟨RL,HRL⟩:∃ RL,Hid (chsI t n p2 []=RL):=⟨_,rfl⟩
   have HE:Hid (btI t=btOf q RL):=by have h:=btI_rest HH.out hr1 hr2;rw [HRL.out] at h;exact h
   have hp2:=hn.2.2
   have hnb:=hn.1
   clear hr1 hr2 hn hq HH
   go_enter Tryz.func208,Tryz.ntmps208
   go_wp2_with fail
   generalize w.alloc (.cells #[.int .i64 0,.slice none 0 0] 87)=wb at b0 hbx0
   refine (C1.out _ b0.1).mono ?_
   rintro e1 w1 ⟨rfl,r1⟩
   have R1:=hide (ri_trans b0 r1)
   have X1:=hide ((r1.2.block w.heap.size (heap_lt hbx0) (by simp;omega)).trans hbx0)
   clear r1 b0 hbx0
   go_wp2_with fail
   refine (must_yes _ _).mono ?_
   rintro e1 w3 ⟨rfl,rfl⟩
   go_wp2_with fail
   refine (C2.out _ R1.out.1).mono ?_
   rintro e1 w4 ⟨rfl,r4⟩
   have R4:=hide (ri_trans R1.out r4)
   have X4:=hide ((r4.2.block w.heap.size (heap_lt X1.out) (by simp;omega)).trans X1.out)
   have S5:=hide (BN.out w4 R4.out X4.out)
   clear r4 R1 X1 BN
   go_wp2_with fail
   obtain ⟨p,hp⟩:∃ p,p=w4.heap.size:=⟨_,rfl⟩
   rw [← hp] at S5 ⊢
   generalize w4.alloc (.cells #[.int .i64 (q:Int),.slice none 0 0] 87)=w5 at S5
   clear hp R4 X4
   refine (C3.out _ S5.out.2.1.1).mono ?_
   rintro e1 w6 ⟨rfl,r6⟩
   have S6:Hid (StI w w6 g p t p2 (q:Int) (.slice none 0 0) []):=by
    obtain ⟨k1,k2,k3,k4,k5⟩:=S5.out
    exact ⟨(r6.2.block _ (heap_lt k1) (by simp;omega)).trans k1,ri_trans k2 r6,k3,(r6.2.block _ (heap_lt k4) (by simp;omega)).trans k4,World.ownsRow_nil _ _ _ _⟩
   clear r6 S5
   go_wp2_with fail
   go_loopw [14] (fun ii wr => ∃ (k i:Nat) (v:Value) (acc:List ChangeD),ii=.int .i64 k∧k≤n∧i≤t.size∧Hid (acc.length≤i)∧Hid (∀ A ∈ acc,A.key.size≤20000∧A.value.size≤20000)∧Hid (chsI t (n - k) i acc=RL)∧Hid (StI w wr g p t i (q:Int) v acc)) (fun ii _ => n - (intOf ii).toNat)
   case atStart => exact ⟨0,p2,_,[],rfl,Nat.zero_le _,hp2,Nat.zero_le _,fun A hA => absurd hA List.not_mem_nil,HRL,S6⟩
   case round =>
    clear S6 HRL
    obtain ⟨k,i,v,acc,rfl,hk,hi,HAL,HAS,HR,HS⟩:=hrel
    obtain ⟨k1,k2,k3,k4,k5⟩:=HS.out
    have hpw:=heap_lt k4
    have hv1:wr.cell? ⟨p,1,none⟩=some v:=(cell_of_row wr _ 1 _ _ (0,0) k4).trans rfl
    have hwp:w.heap.size < p:=k3
    by_cases hlt:k < n
    ·
     have hlt':decide ((k:Int) < (n:Int))=true:=by simp;omega
     have hcd:CurI wr.drew g t i:=k2.1
     cases hch:chI t i with
     | none =>
      have hRn:Hid (RL=none):=by
       show _=_
       rw [← HR.out,show n - k=(n - k - 1)+1 from by omega]
       unfold chsI
       rw [hch]
      have CH:=hide (fun W (hW:CurI W g t i) => change_no t g i W ht hi hW hch)
      have K2:=hide k2
      clear k1 k2 k3 k4 k5
      go_wp2_with fail
      go_region_dies
      all_goals
       refine (CH.out _ hcd).mono ?_
       rintro e1 w7 ⟨rfl,r7⟩
       exact ⟨rfl,.inl ⟨by rw [HE.out,hRn.out];rfl,rfl,grownBy_trans K2.out.2 (grownBy_trans (grownBy_below _ (Below.refl _ _).drew) r7)⟩⟩
     | some z =>
      obtain ⟨A,j⟩:=z
      obtain ⟨-,hij,hjt,ha1,ha2⟩:=chI_text hch
      have HRn:Hid (chsI t (n - (k+1)) j (acc ++ [A])=RL):=by
       show _=_
       rw [← HR.out,show n - k=(n - (k+1))+1 from by omega]
       conv => rhs;unfold chsI
       rw [hch]
      have CH:=hide (fun W (hW:CurI W g t i) => change_yes t g i j A W ht hi hW hch)
      have hal:acc.length≤9000:=by have:=HAL.out;omega
      have HALn:Hid ((acc ++ [A]).length≤j):=by show _≤_;rw [List.length_append];have:=HAL.out;simp only [List.length_cons,List.length_nil];omega
      have HASn:Hid (∀ B ∈ acc ++ [A],B.key.size≤20000∧B.value.size≤20000):=fun B hB => by
       rcases List.mem_append.1 hB with hB | hB
       · exact HAS.out B hB
       · rw [List.mem_singleton.1 hB];exact ⟨ha1,ha2⟩
      have K1:=hide k1
      have K2:=hide k2
      have K4:=hide k4
      have K5:=hide k5
      clear k1 k2 k3 k4 k5 hch HR
      go_wp2_with fail
      go_region_law ((first | (refine step_app_change _ (p+1) (by rfl) _ _ (by rfl) v acc A (by rfl) (HO4.out.alloc _) w7.heap.size (by simp [Act.eval]) (heap_alloc_new w7 _) (by omega) (by simp;omega) ?_;intro g3 cap3 w8 hown3 hb3 hg3 hgl3;have B8:Hid (Below (p+1) w7 w8):=((Below.refl _ w7).alloc (by omega) _).trans hb3;have HO8:=hide hown3;have hn0:=(B8.out.block p (by omega)).trans X7.out;have hn1:w8.cell? ⟨p,1,none⟩=some v:=(cell_of_row w8 p 1 _ _ (0,0) hn0).trans rfl;have hn2:w8.frozen? ⟨p,1,none⟩=false:=frozen_of_row w8 p 1 _ _ hn0;have HN0:=hide hn0;clear hn0 hown3 hb3) | (go_simp;go_at_call 217;refine (CH.out _ hcd).mono ?_;rintro e1 w7 ⟨rfl,r7⟩;have R7:=hide (ri_trans (ri_below K2.out (Below.refl _ _).drew) r7);have G7:Hid (wr.grownBy w7 (some g)):=grownBy_trans (grownBy_below _ (Below.refl _ _).drew) r7.2;have X7:Hid (w7.heap[p]? = some (.cells #[.int .i64 (q:Int),v] 87 (0,0))):=(G7.out.block p hpw (by simp;omega)).trans K4.out;have hp7:p < w7.heap.size:=heap_lt X7.out;have hall0:w7.cell? ⟨p,1,none⟩=some v:=(cell_of_row w7 p 1 _ _ (0,0) X7.out).trans rfl;have hall:(w7.alloc (.cells #[.string A.key,.string A.value,.bool A.gone] 145)).cell? ⟨p,1,none⟩=some v:=(((Below.refl _ w7).alloc (Nat.le_refl _) _).cell (p:=⟨p,1,none⟩) hp7).trans hall0;have HO4:Hid (w7.ownsRow (p+1) 145 3 v acc.length (cellsChange acc)):=K5.out.kept G7.out (by cases e:v.ownBlock with | none => exact .inl rfl | some b => exact .inr (by have:=(K5.out.lt b e).1;simp;omega));clear r7)))
      all_goals
       go_wp2_with fail
       go_roundw
       case rel =>
        have hX:w7.heap[w.heap.size]? = _:=(G7.out.block w.heap.size (heap_lt K1.out) (by simp;omega)).trans K1.out
        refine ⟨k+1,j,.slice (some ⟨g3,0,none⟩) (acc.length+1) cap3,acc ++ [A],by go_num,by omega,hjt,HALn,HASn,HRn,?_⟩
        refine ⟨(Below.heap_setCell _ _ _ _ (by intro e;simp only at e;omega)).trans ((B8.out.block w.heap.size (by omega)).trans hX),ri_far (ri_over R7.out hg B8.out (by omega)) hg (by omega) _ _,hwp,(heap_setCell_same _ p _ _ _ _ HN0.out).trans rfl,?_⟩
        exact HO8.out.kept (grownBy_store (World.grownBy.refl _ _) 1 _) (.inr (by simp [Value.ownBlock];omega))
       case measure => simp [intOf];omega
    ·
     have hlt':decide ((k:Int) < (n:Int))=false:=by simp;omega
     have hRn:Hid (RL=some (acc,i)):=by
      show _=_
      rw [← HR.out,show n - k=0 from by omega]
      rfl
     obtain ⟨av,cv,rfl⟩:=slice_form k5
     have hv0:wr.cell? ⟨p,0,none⟩=some (.int .i64 (q:Int)):=(cell_of_row wr _ 0 _ _ (0,0) k4).trans rfl
     have hr0:wr.cell? ⟨w.heap.size,0,none⟩=some (.int .i64 0):=(cell_of_row wr _ 0 _ _ (0,0) k1).trans rfl
     have hr1:wr.cell? ⟨w.heap.size,1,none⟩=some (.slice none 0 0):=(cell_of_row wr _ 1 _ _ (0,0) k1).trans rfl
     have hf0:=frozen_of_row wr w.heap.size 0 _ _ k1
     have hf1:=frozen_of_row wr w.heap.size 1 _ _ k1
     have K2:=hide k2
     have K5:=hide k5
     clear k1 k2 k3 k4 k5
     go_wp2_with fail
     refine bodyPost_ret (v:=.agg #[.int .i64 (q:Int),.slice av acc.length cv]) (by simp [results,Tryz.results208,go_sem,hr0,hr1]) rfl (.inr ⟨q,acc,i,av,cv,by rw [HE.out,hRn.out];rfl,rfl,ri_far (ri_far K2.out hg (Nat.le_refl _) _ _) hg (Nat.le_refl _) _ _,?_,by have:=HAL.out;omega,hi,HAS.out⟩)
     have hrow:=rowChange_own K5.out
     refine rowChange_le (rowChange_keep hrow (fun b hb => ?_)) (by omega)
     have:=(rowChange_lt hrow b hb).1
     exact (Below.heap_setCell _ _ _ _ (by intro e;simp only at e;omega)).trans (Below.heap_setCell _ _ _ _ (by intro e;simp only at e;omega))
def keyOkD (s:ByteArray):Bool:=decide (1≤s.size) && decide (s.size≤20)
theorem changeOkD_parts (A:ChangeD):changeOkD A=(keyOkD A.key && (decide (A.value.size≤2000) && !(A.gone && !decide (A.value.size=0)))):=rfl
theorem keyOk_any (s:ByteArray) (w:World) (hs:s.size≤maxLen):Calls Tryz.prog 192 #[.string s] w fun e w' => e=.returned (.bool (keyOkD s))∧w' = w:=by
 unfold maxLen at hs
 unfold keyOkD
 by_cases h:1≤s.size
 ·
  have h':decide ((1:Int)≤(s.size:Int))=true:=by simp;omega
  have h2:decide (1≤s.size)=true:=by simp;omega
  have h3:decide ((s.size:Int)≤20)=decide (s.size≤20):=by rw [decide_eq_decide];omega
  rw [h2,← h3,Bool.true_and]
  clear h2 h3
  go_enter Tryz.func192,Tryz.ntmps192
  go_wp2
  go_ret
  exact ⟨rfl,rfl⟩
 ·
  have h':decide ((1:Int)≤(s.size:Int))=false:=by simp;omega
  have h2:decide (1≤s.size)=false:=by rw [decide_eq_false_iff_not];omega
  rw [h2,Bool.false_and]
  clear h2
  go_enter Tryz.func192,Tryz.ntmps192
  go_wp2
  go_ret
  exact ⟨rfl,rfl⟩
theorem changeOk_any (A:ChangeD) (w:World) (h1:A.key.size≤maxLen) (h2:A.value.size≤maxLen) :
  Calls Tryz.prog 173 #[.agg #[.string A.key,.string A.value,.bool A.gone]] w fun e w' => e=.returned (.bool (changeOkD A))∧Below w.heap.size w w':=by
 have K:=hide (fun W => keyOk_any A.key W h1)
 obtain ⟨R,HR⟩:∃ R,Hid (changeOkD A=R):=⟨_,hide rfl⟩
 rw [HR.out]
 obtain ⟨s,v,g⟩:=A
 simp only at K h1 h2 ⊢
 unfold maxLen at h1 h2
 by_cases hz:v.size=0
 ·
  have hz':(v.toList == [])=true:=by simpa using list_nil_of_size hz
  have hv:decide ((v.size:Int)≤2000)=true:=by simp;omega
  cases hk:keyOkD s
  ·
   have hR:Hid (R=false):=by show _=_;rw [← HR.out,changeOkD_parts];simp only;rw [hk];rfl
   rw [hk] at K
   cases g
   all_goals
    go_enter Tryz.func173,Tryz.ntmps173
    go_wp2_with (first | (go_at_call 192;refine (K.out _).mono ?_;rintro e w1 ⟨rfl,rfl⟩))
    go_ret
    rw [hR.out]
    exact ⟨rfl,(Below.refl _ w).alloc (Nat.le_refl _) _⟩
  ·
   have hR:Hid (R=true):=by
    show _=_
    rw [← HR.out,changeOkD_parts]
    simp only
    rw [hk,show decide (v.size≤2000)=true from by simp;omega,show decide (v.size=0)=true from by simp [hz]]
    cases g <;> rfl
   rw [hk] at K
   cases g
   all_goals
    go_enter Tryz.func173,Tryz.ntmps173
    go_wp2_with (first | (go_at_call 192;refine (K.out _).mono ?_;rintro e w1 ⟨rfl,rfl⟩))
    go_ret
    rw [hR.out]
    exact ⟨rfl,(Below.refl _ w).alloc (Nat.le_refl _) _⟩
 ·
  have hz':(v.toList == [])=false:=by simpa using list_ne_of_size hz
  cases g
  ·
   cases hk:keyOkD s
   ·
    have hR:Hid (R=false):=by show _=_;rw [← HR.out,changeOkD_parts];simp only;rw [hk];rfl
    rw [hk] at K
    go_enter Tryz.func173,Tryz.ntmps173
    go_wp2_with (first | (go_at_call 192;refine (K.out _).mono ?_;rintro e w1 ⟨rfl,rfl⟩))
    go_ret
    rw [hR.out]
    exact ⟨rfl,(Below.refl _ w).alloc (Nat.le_refl _) _⟩
   ·
    have hR:Hid (R=decide ((v.size:Int)≤2000)):=by
     show _=_
     rw [← HR.out,changeOkD_parts]
     simp only
     rw [hk,Bool.true_and,Bool.false_and,Bool.not_false,Bool.and_true,decide_eq_decide]
     omega
    rw [hk] at K
    go_enter Tryz.func173,Tryz.ntmps173
    go_wp2_with (first | (go_at_call 192;refine (K.out _).mono ?_;rintro e w1 ⟨rfl,rfl⟩))
    go_ret
    rw [hR.out]
    exact ⟨rfl,(Below.refl _ w).alloc (Nat.le_refl _) _⟩
  ·
   have hR:Hid (R=false):=by
    show _=_
    rw [← HR.out,changeOkD_parts]
    simp only
    rw [show decide (v.size=0)=false from by simp [hz]]
    simp
   go_enter Tryz.func173,Tryz.ntmps173
   go_wp2
   go_ret
   rw [hR.out]
   exact ⟨rfl,(Below.refl _ w).alloc (Nat.le_refl _) _⟩
theorem implBatchOk_any (q:Int) (fs:List ChangeD) (ao:Option Addr) (cap:Nat) (w:World) (hl:fs.length≤1048576) (hfs:ChangesAt w ao fs) (hsz:∀ A ∈ fs,A.key.size≤1048576∧A.value.size≤1048576) :
  Calls Tryz.prog 160 #[.agg #[.int .i64 q,.slice ao fs.length cap]] w fun e w' => e=.returned (.bool (batchOkD q fs))∧Below w.heap.size w w':=by
 have HF:=hide hfs
 have HS:=hide hsz
 clear hfs hsz
 obtain ⟨R,HR⟩:∃ R,Hid (batchOkD q fs=R):=⟨_,hide rfl⟩
 rw [HR.out]
 by_cases hq0:q < 0
 ·
  have hq0':decide (q < 0)=true:=by simp;omega
  have hR:R=false:=by rw [← HR.out,batchOkD,show decide (0≤q)=false from by simp;omega];rfl
  subst hR
  go_enter Tryz.func160,Tryz.ntmps160
  go_wp2
  go_ret
  exact ⟨rfl,(Below.refl _ w).alloc (Nat.le_refl _) _⟩
 have hq0':decide (q < 0)=false:=by simp;omega
 by_cases hq1:1000000000 < q
 ·
  have hq1':decide (1000000000 < q)=true:=by simp;omega
  have hR:R=false:=by rw [← HR.out,batchOkD,show decide (q≤1000000000)=false from by simp;omega];simp
  subst hR
  go_enter Tryz.func160,Tryz.ntmps160
  go_wp2
  go_ret
  exact ⟨rfl,(Below.refl _ w).alloc (Nat.le_refl _) _⟩
 have hq1':decide (1000000000 < q)=false:=by simp;omega
 by_cases hn0:fs.length < 1
 ·
  have hn0':decide ((fs.length:Int) < 1)=true:=by simp;omega
  have hR:R=false:=by rw [← HR.out,batchOkD,show decide (1≤fs.length)=false from by rw [decide_eq_false_iff_not];omega];simp
  subst hR
  go_enter Tryz.func160,Tryz.ntmps160
  go_wp2
  go_ret
  exact ⟨rfl,(Below.refl _ w).alloc (Nat.le_refl _) _⟩
 have hn0':decide ((fs.length:Int) < 1)=false:=by simp;omega
 by_cases hn1:40 < fs.length
 ·
  have hn1':decide ((40:Int) < (fs.length:Int))=true:=by simp;omega
  have hR:R=false:=by rw [← HR.out,batchOkD,show decide (fs.length≤40)=false from by simp;omega];simp
  subst hR
  go_enter Tryz.func160,Tryz.ntmps160
  go_wp2
  go_ret
  exact ⟨rfl,(Below.refl _ w).alloc (Nat.le_refl _) _⟩
 have hn1':decide ((40:Int) < (fs.length:Int))=false:=by simp;omega
 have HR0:Hid (okChg (prevChg fs 0) (fs.drop 0)=R):=by
  show _=_
  rw [← HR.out,batchOkD,show decide (0≤q)=true from by simp;omega,show decide (q≤1000000000)=true from by simp;omega,show decide (1≤fs.length)=true from by simp;omega,show decide (fs.length≤40)=true from by simp;omega]
  rfl
 go_enter Tryz.func160,Tryz.ntmps160
 go_wp2
 go_loopw [28] (fun ii wr => ∃ (k:Nat),ii=.int .i64 k∧k≤fs.length∧Hid (okChg (prevChg fs k) (fs.drop k)=R)∧Hid (Below (w.heap.size+1) (w.alloc (.cells #[.int .i64 q,.slice ao fs.length cap] 87)) wr)) (fun ii _ => fs.length - (intOf ii).toNat)
 case atStart => exact ⟨0,rfl,Nat.zero_le _,HR0,Below.refl _ _⟩
 case round =>
  obtain ⟨k,rfl,hk,HK,HB⟩:=hrel
  have HB0:Hid (Below w.heap.size w wr):=((Below.refl _ w).alloc (Nat.le_refl _) _).trans (HB.out.mono (by omega))
  by_cases hlt:k < fs.length
  ·
   have hlt':decide ((k:Int) < (fs.length:Int))=true:=by simp;omega
   have hsw:w.heap.size+1≤wr.heap.size:=by have:=HB.out.size;simpa using this
   obtain ⟨b,off,rfl,hbw,hc0,hc1,hc2⟩:=changesAt_keep HF.out HB0.out k hlt
   have hbox:wr.cell? ⟨w.heap.size,1,none⟩=some (.slice (some ⟨b,off,none⟩) fs.length cap):=(HB.out.cell (p:=⟨w.heap.size,1,none⟩) (by simp)).trans (by rw [cell_of_row _ _ _ _ _ (0,0) (heap_alloc_new w _)];rfl)
   obtain ⟨hs1,hs2⟩:=HS.out fs[k] (List.getElem_mem hlt)
   obtain ⟨F,HFk⟩:∃ F,Hid (fs[k]=F):=⟨fs[k],hide rfl⟩
   rw [HFk.out] at hc0 hc1 hc2 hs1 hs2
   have hi0:(0:Int)≤(k:Int):=by omega
   have hi1:(k:Int) < (fs.length:Int):=by omega
   go_wp2_with fail
   refine (changeOk_any F _ (by unfold maxLen;omega) (by unfold maxLen;omega)).mono ?_
   rintro e w1 ⟨rfl,b1⟩
   have b2:Below wr.heap.size wr w1:=((Below.refl _ wr).alloc (Nat.le_refl _) _).trans (b1.mono (by simp))
   have hbox1:w1.cell? ⟨w.heap.size,1,none⟩=some (.slice (some ⟨b,off,none⟩) fs.length cap):=(b2.cell (p:=⟨w.heap.size,1,none⟩) (by show w.heap.size < _;omega)).trans hbox
   have hfile1:w1.heap[wr.heap.size]? = some (.cells #[.string F.key,.string F.value,.bool F.gone] 145 (0,0)):=(b1.block _ (by simp)).trans (heap_alloc_new wr _)
   have hg0:w1.cell? ⟨wr.heap.size,0,none⟩=some (.string F.key):=(cell_of_row w1 wr.heap.size 0 _ _ (0,0) hfile1).trans rfl
   have HB1:Hid (Below (w.heap.size+1) (w.alloc (.cells #[.int .i64 q,.slice (some ⟨b,off,none⟩) fs.length cap] 87)) w1):=HB.out.trans (b2.mono hsw)
   have HB2:Hid (Below w.heap.size w w1):=HB0.out.trans (b2.mono (by omega))
   clear b1 hfile1 hbox hc0 hc1 hc2
   cases hok:changeOkD F
   ·
    have hR:Hid (R=false):=by show _=_;rw [← HK.out,okChg_bad hlt (by rw [HFk.out];exact hok)]
    go_wp2
    go_ret
    rw [hR.out]
    exact ⟨rfl,HB2.out⟩
   ·
    cases hk0:decide (0 < k)
    ·
     have hkz:k=0:=by simpa using hk0
     have HK1:Hid (okChg (prevChg fs (k+1)) (fs.drop (k+1))=R):=by show _=_;rw [← HK.out];subst hkz;exact (okChg_first hlt (by rw [HFk.out];exact hok)).symm
     clear hkz
     go_wp2_with fail
     go_quiet (fail)
     go_wp2
     go_roundw
     case rel => exact ⟨k+1,by go_num,by omega,HK1,below_drewN HB1.out _⟩
     case measure => simp [intOf];omega
    ·
     have hkp:0 < k:=by simpa using hk0
     obtain ⟨b',off',hbe,hbw',hd0,hd1,hd2⟩:=changesAt_keep HF.out HB2.out (k - 1) (by omega)
     obtain ⟨rfl,rfl⟩:b=b'∧off=off':=by simpa using hbe
     obtain ⟨F',HFk'⟩:∃ F',Hid (fs[k - 1]=F'):=⟨fs[k - 1],hide rfl⟩
     rw [HFk'.out] at hd0
     clear hd1 hd2 hbe
     have hw:IntKind.i64.wrap ((k:Int) - 1)=((k - 1:Nat):Int):=by rw [IntKind.wrap_i64];omega
     have hj0:(0:Int)≤((k - 1:Nat):Int):=by omega
     have hj1:((k - 1:Nat):Int) < (fs.length:Int):=by omega
     go_wp2_with fail
     go_quiet (fail)
     cases hless:Op.bytesLess F'.key.toList F.key.toList
     ·
      have hR:Hid (R=false):=by show _=_;rw [← HK.out];exact okChg_less hlt hkp (by rw [HFk.out,HFk'.out];exact hless)
      go_wp2
      go_ret
      rw [hR.out]
      exact ⟨rfl,below_drewN HB2.out _⟩
     ·
      have HK1:Hid (okChg (prevChg fs (k+1)) (fs.drop (k+1))=R):=by show _=_;rw [← HK.out];exact (okChg_more hlt hkp (by rw [HFk.out];exact hok) (by rw [HFk.out,HFk'.out];exact hless)).symm
      go_wp2
      go_roundw
      case rel => exact ⟨k+1,by go_num,by omega,HK1,below_drewN HB1.out _⟩
      case measure => simp [intOf];omega
  ·
   have hlt':decide ((k:Int) < (fs.length:Int))=false:=by simp;omega
   have hR:Hid (R=true):=by show _=_;rw [← HK.out,okChg_end (by omega)]
   go_wp2
   go_ret
   rw [hR.out]
   exact ⟨rfl,HB0.out⟩
theorem okChg_small0:∀ (fs:List ChangeD) (p:Option ByteArray),okChg p fs=true→∀ A ∈ fs,A.key.size≤20∧A.value.size≤2000
 | [],_,_,_,h => absurd h List.not_mem_nil
 | B :: r,p,h,A,hA => by
  have h1:changeOkD B=true∧okChg (some B.key) r=true:=by
   cases p <;> simp only [okChg,Bool.and_eq_true] at h
   · exact h
   · exact ⟨h.1,h.2.2⟩
  rcases List.mem_cons.1 hA with rfl | hA
  ·
   have:=h1.1
   simp only [changeOkD,Bool.and_eq_true,decide_eq_true_eq] at this
   exact ⟨this.1.2,this.2.1⟩
  · exact okChg_small0 r _ h1.2 A hA
end Go.Proofs.YtepdckehokdjlaaGreatDoor
