import Derived.Deep.RegionHeld3
import Derived.Deep.CutRange
import Derived.Deep.RegionLaw
import Derived.Test.YtepdckehokdjlaaGreatDoorMg2
import Derived.Test.YtepdckehokdjlaaGreatDoorMg1
import Derived.Test.YtepdckehokdjlaaGreatDoorMg0
set_option maxRecDepth 100000
set_option maxHeartbeats 1600000
namespace Go.Proofs.YtepdckehokdjlaaGreatDoor
open Go.RowKit
def textOkD (q:Int) (fs:List ChangeD):Bool:=batchOkD q fs && decide ((batchL q.toNat fs).length≤9000)
def textD (q:Int) (fs:List ChangeD):ByteArray:=if textOkD q fs then ⟨(batchL q.toNat fs).toArray⟩ else ⟨#[]⟩
theorem batchOkD_bounds {q:Int} {fs:List ChangeD} (h:batchOkD q fs=true):0≤q∧q≤1000000000∧1≤fs.length∧fs.length≤40:=by
 simp only [batchOkD,Bool.and_eq_true,decide_eq_true_eq] at h
 omega
theorem changesL_len:∀ (a:List ChangeD),(∀ A ∈ a,A.key.size≤1048576∧A.value.size≤1048576)→(changesL a).length≤a.length * 2097163
 | [],_ => by simp [changesL]
 | A :: r,h => by
  have h1:=h A (List.mem_cons_self ..)
  have h2:=changesL_len r (fun B hB => h B (List.mem_cons_of_mem _ hB))
  have h3:=changeB_size A
  have e:(changeB A).data.toList.length=(changeB A).size:=rfl
  simp only [changesL,List.length_append,List.length_cons]
  omega
theorem three_below {w w':World} {b n:Nat} {x y:ByteArray} {z:Bool} (h:w.cell? ⟨b,0,none⟩=some (.string x)∧w.cell? ⟨b,1,none⟩=some (.string y)∧w.cell? ⟨b,2,none⟩=some (.bool z)) (hb:Below n w w') (hlt:b < n) :
  w'.cell? ⟨b,0,none⟩=some (.string x)∧w'.cell? ⟨b,1,none⟩=some (.string y)∧w'.cell? ⟨b,2,none⟩=some (.bool z) :=
 ⟨(hb.cell (p:=⟨b,0,none⟩) hlt).trans h.1,(hb.cell (p:=⟨b,1,none⟩) hlt).trans h.2.1,(hb.cell (p:=⟨b,2,none⟩) hlt).trans h.2.2⟩
theorem specBatchText_any (q:Int) (fs:List ChangeD) (ao:Option Addr) (cap:Nat) (w:World) (hl:fs.length≤1048576) (hfs:ChangesAt w ao fs) (hsz:∀ A ∈ fs,A.key.size≤1048576∧A.value.size≤1048576) :
  Calls Tryz.prog 41 #[.agg #[.int .i64 q,.slice ao fs.length cap]] w fun e w' => e=.returned (.tuple #[.string (textD q fs),.bool (textOkD q fs)])∧Below w.heap.size w w':=by
 have HF:=hide hfs
 have HS:=hide hsz
 have HS2:Hid (∀ A ∈ fs,A.key.size≤maxLen∧A.value.size≤maxLen):=fun A hA => by have:=hsz A hA;unfold maxLen;omega
 clear hfs hsz
 have b0:Hid (Below w.heap.size w (w.alloc (.cells #[.int .i64 q,.slice ao fs.length cap] 87))):=(Below.refl _ w).alloc (Nat.le_refl _) _
 cases hok:batchOkD q fs
 ·
  have hT:Hid (textOkD q fs=false):=by show _=_;rw [textOkD,hok];rfl
  have hX:Hid (textD q fs=⟨#[]⟩):=by show _=_;rw [textD,hT.out];rfl
  go_enter Tryz.func41,Tryz.ntmps41
  go_wp2_with fail
  refine (specBatchOk_any q fs ao cap _ hl (changesAt_keep HF.out b0.out) HS2.out).mono ?_
  rintro e w1 ⟨rfl,b1⟩
  rw [hok]
  go_wp2
  go_ret2
  rw [hT.out,hX.out]
  exact ⟨rfl,b0.out.trans (b1.mono b0.out.size)⟩
 ·
  obtain ⟨hq0,hq1,hn1,hn2⟩:=batchOkD_bounds hok
  obtain ⟨m,rfl⟩:=Int.eq_ofNat_of_zero_le hq0
  have HT:Hid (textOkD (m:Int) fs=decide ((batchL m fs).length≤9000)):=by show _=_;rw [textOkD,hok];rfl
  have hbs:(w.alloc (.cells #[.int .i64 (m:Int),.slice ao fs.length cap] 87)).heap.size=w.heap.size+1:=by simp
  have hbox:=heap_alloc_new w (.cells #[.int .i64 (m:Int),.slice ao fs.length cap] 87)
  go_enter Tryz.func41,Tryz.ntmps41
  go_wp2_with fail
  refine (specBatchOk_any (m:Int) fs ao cap _ hl (changesAt_keep HF.out b0.out) HS2.out).mono ?_
  rintro e w1 ⟨rfl,b1⟩
  rw [hok]
  generalize w.alloc (.cells #[.int .i64 (m:Int),.slice ao fs.length cap] 87)=wb at b0 hbs hbox b1
  have HB1:Hid (Below (w.heap.size+1) wb w1):=hbs ▸ b1
  have HBX:Hid (wb.heap[w.heap.size]? = some (.cells #[.int .i64 (m:Int),.slice ao fs.length cap] 87 (0,0))):=hbox
  have hbx1:=(HB1.out.block w.heap.size (by omega)).trans hbox
  have hc0:w1.cell? ⟨w.heap.size,0,none⟩=some (.int .i64 (m:Int)):=(cell_of_row w1 _ 0 _ _ (0,0) hbx1).trans rfl
  have hc1:w1.cell? ⟨w.heap.size,1,none⟩=some (.slice ao fs.length cap):=(cell_of_row w1 _ 1 _ _ (0,0) hbx1).trans rfl
  have hw1:w.heap.size+1≤w1.heap.size:=by have:=HB1.out.size;omega
  have HBS:=hide hbs
  clear b1 hbox hbx1 hbs
  obtain ⟨V,HV⟩:∃ V:Nat→ByteArray,Hid (∀ n,V n=⟨(Wd.varF 5 n).toArray⟩):=⟨_,fun _ => rfl⟩
  have HH:Hid (headB m fs.length=⟨#[66]⟩ ++ V m ++ V fs.length):=by show _=_;rw [HV.out,HV.out];rfl
  have hz1:(V m).size≤5:=by rw [HV.out];exact Wd.varF_length 5 m
  have hz2:(V fs.length).size≤5:=by rw [HV.out];exact Wd.varF_length 5 fs.length
  have CV:Hid (∀ (n:Nat) (W:World),n < 34359738368→Calls Tryz.prog 73 #[.int .i64 (n:Int)] W fun e w' => e=.returned (.string (V n))∧Below W.heap.size W w'):=fun n W hn => by rw [HV.out];exact l01Var_any n W hn
  have hA1:¬ (9223372036854775807 < (⟨#[66]⟩:ByteArray).size+(V m).size):=by have e:(⟨#[66]⟩:ByteArray).size=1:=rfl;omega
  have hA2:¬ (9223372036854775807 < 1+(V m).size):=by omega
  have hA3:¬ (9223372036854775807 < 1+(V m).size+(V fs.length).size):=by omega
  have hA4:¬ (9223372036854775807 < (⟨#[66]⟩:ByteArray).size+(V m).size+(V fs.length).size):=by have e:(⟨#[66]⟩:ByteArray).size=1:=rfl;omega
  have hA5:Hid ((⟨#[66]⟩ ++ V m ++ V fs.length:ByteArray).size≤maxLen):=by show _≤_;rw [← HH.out];have:=headB_size m fs.length;unfold maxLen;omega
  have BB:Hid (Below w1.heap.size w1 w1):=Below.refl _ _
  go_wp2_with fail
  go_cut [4] from 7 (fun vo wx => Hid (OwnsB wx (w.heap.size+1) 5 vo ((headB m fs.length).data.toList ++ changesL (fs.take 0)))∧Hid (Below (w.heap.size+1) wb wx))
  case first =>
   have KC:Hid (∀ X,Below w1.heap.size w1 X→X.cell? ⟨w.heap.size,0,none⟩=some (.int .i64 (m:Int))∧X.cell? ⟨w.heap.size,1,none⟩=some (.slice ao fs.length cap)):=fun X hX => ⟨(hX.cell (p:=⟨w.heap.size,0,none⟩) hw1).trans hc0,(hX.cell (p:=⟨w.heap.size,1,none⟩) hw1).trans hc1⟩
   obtain ⟨Z,HZ⟩:∃ Z:Nat,Hid (Z=(⟨#[66]⟩ ++ V m ++ V fs.length:ByteArray).size):=⟨_,rfl⟩
   go_region_law ((first | (go_simp;go_at_call 73;refine (CV.out _ _ (by omega)).mono ?_;rintro e w2 ⟨rfl,b2⟩;(first | (have BB:=hide (BB.out.trans (b2.mono BB.out.size))) | (have BB:=hide (BB.out.trans (((Below.refl _ _).drew.trans b2).mono BB.out.size))));clear b2;obtain ⟨hc0,hc1⟩:=KC.out _ BB.out;obtain ⟨w4,C,hcv,b4,hs4,ho4⟩:=conv_made (P:=Tryz.prog) w2 9 133 5 (⟨#[66]⟩ ++ V m ++ V fs.length) Tryz.underlying9 Tryz.underlying133 Tryz.underlying5 hA5.out;rw [← HZ.out] at hcv ho4;have B4:=hide (BB.out.trans (b4.mono BB.out.size));have HO4:=hide ho4;clear b4 hs4 ho4) | fail))
   all_goals
    go_wp2
    go_meet
    refine ⟨?_,HB1.out.trans (B4.out.mono hw1)⟩
    show OwnsB _ _ _ _ _
    rw [HH.out,List.take_zero,changesL,List.append_nil]
    exact ownsB_le HO4.out (by have:=BB.out.size;omega)
  case rest =>
  obtain ⟨HO4,HB4⟩:=hcut
  clear hA1 hA2 hA3 hA4 hA5 hz1 hz2 CV BB HB1 hc0 hc1
  go_wp2_with fail
  go_loopw [4,5] (fun vo ii wr => ∃ (k:Nat),ii=.int .i64 k∧k≤fs.length∧Hid (OwnsB wr (w.heap.size+1) 5 vo ((headB m fs.length).data.toList ++ changesL (fs.take k)))∧Hid (Below (w.heap.size+1) wb wr)) (fun _ ii _ => fs.length - (intOf ii).toNat)
  case atStart => exact ⟨0,rfl,Nat.zero_le _,HO4,HB4⟩
  case round =>
   clear HO4 HB4
   obtain ⟨k,rfl,hk,HO,HB⟩:=hrel
   have hws:w.heap.size+1≤wr.heap.size:=by have h1:=HB.out.size;have h2:=HBS.out;omega
   have hbx:=(HB.out.block w.heap.size (by omega)).trans HBX.out
   have hc1:wr.cell? ⟨w.heap.size,1,none⟩=some (.slice ao fs.length cap):=(cell_of_row wr _ 1 _ _ (0,0) hbx).trans rfl
   have HB0:Hid (Below w.heap.size w wr):=b0.out.trans (HB.out.mono (by omega))
   clear hbx
   by_cases hlt:k < fs.length
   ·
    have hlt':decide ((k:Int) < (fs.length:Int))=true:=by simp;omega
    obtain ⟨b,off,rfl,hbw,hd0,hd1,hd2⟩:=changesAt_keep HF.out HB0.out k hlt
    obtain ⟨hs1,hs2⟩:=HS.out fs[k] (List.getElem_mem hlt)
    obtain ⟨F,HFk⟩:∃ F,Hid (fs[k]=F):=⟨fs[k],hide rfl⟩
    rw [HFk.out] at hd0 hd1 hd2 hs1 hs2
    have hi0:(0:Int)≤(k:Int):=by omega
    have hi1:(k:Int) < (fs.length:Int):=by omega
    have bx:Hid (Below wr.heap.size wr (wr.alloc (.cells #[.string F.key,.string F.value,.bool F.gone] 145))):=(Below.refl _ wr).alloc (Nat.le_refl _) _
    have hxs:wr.heap.size < (wr.alloc (.cells #[.string F.key,.string F.value,.bool F.gone] 145)).heap.size:=by simp
    have hfile:=heap_alloc_new wr (.cells #[.string F.key,.string F.value,.bool F.gone] 145)
    go_wp2_with fail
    generalize wr.alloc (.cells #[.string F.key,.string F.value,.bool F.gone] 145)=W at bx hxs hfile
    have hg0:W.cell? ⟨wr.heap.size,0,none⟩=some (.string F.key):=(cell_of_row W wr.heap.size 0 _ _ (0,0) hfile).trans rfl
    have hg1:W.cell? ⟨wr.heap.size,1,none⟩=some (.string F.value):=(cell_of_row W wr.heap.size 1 _ _ (0,0) hfile).trans rfl
    have hg2:W.cell? ⟨wr.heap.size,2,none⟩=some (.bool F.gone):=(cell_of_row W wr.heap.size 2 _ _ (0,0) hfile).trans rfl
    clear hfile hd0 hd1 hd2 hc1
    obtain ⟨G,HG⟩:∃ G:ByteArray→ByteArray,Hid (∀ s,G s=shortB s):=⟨_,fun _ => rfl⟩
    obtain ⟨fb,Hfb⟩:∃ fb:ByteArray,Hid (fb=flagB F.gone):=⟨_,rfl⟩
    have HCB:Hid (changeB F=G F.key ++ fb ++ G F.value):=by show _=_;rw [HG.out,HG.out,Hfb.out];rfl
    have hz0:fb.size=1:=by rw [Hfb.out];exact flagB_size _
    have hz1:(G F.key).size≤1048581:=by rw [HG.out];have:=shortB_size F.key;omega
    have hz2:(G F.value).size≤1048581:=by rw [HG.out];have:=shortB_size F.value;omega
    have CG:Hid (∀ (s:ByteArray) (W:World),s.size≤1048576→Calls Tryz.prog 79 #[.string s] W fun e w' => e=.returned (.string (G s))∧Below W.heap.size W w'):=fun s W hs => by rw [HG.out];exact l05Short_any s W hs
    have CF:Hid (∀ (W:World),Calls Tryz.prog 80 #[.bool F.gone] W fun e w' => e=.returned (.string fb)∧w' = W):=fun W => by rw [Hfb.out];exact l05Flag_any _ W
    have hA1:¬ (9223372036854775807 < (G F.key).size+fb.size):=by omega
    have hA2:¬ (9223372036854775807 < (G F.key).size+fb.size+(G F.value).size):=by omega
    have hA3:¬ (9223372036854775807 < (G F.key).size+1):=by omega
    have hA4:¬ (9223372036854775807 < (G F.key).size+1+(G F.value).size):=by omega
    have hA5:Hid ((G F.key ++ fb ++ G F.value:ByteArray).size≤maxLen):=by show _≤_;rw [ByteArray.size_append,ByteArray.size_append];unfold maxLen;omega
    obtain ⟨Z,HZ⟩:∃ Z:Nat,Hid (Z=(G F.key ++ fb ++ G F.value:ByteArray).size):=⟨_,rfl⟩
    have Hz0:=hide hz0
    clear hz0
    have BB:Hid (Below W.heap.size W W):=Below.refl _ _
    obtain ⟨LL,HLL⟩:∃ LL,Hid (LL=(headB m fs.length).data.toList ++ changesL (fs.take k)):=⟨_,rfl⟩
    rw [← HLL.out] at HO
    have hLl:LL.length+(changeB F).data.toList.length≤70368744177664:=by
     have h1:=headB_size m fs.length
     have h2:=changesL_len (fs.take k) (fun A hA => HS.out A (List.mem_of_mem_take hA))
     have h3:(fs.take k).length≤fs.length:=by rw [List.length_take];omega
     have h4:=changeB_size F
     have e1:(headB m fs.length).data.toList.length=(headB m fs.length).size:=rfl
     have e2:(changeB F).data.toList.length=(changeB F).size:=rfl
     rw [HLL.out,List.length_append]
     omega
    have KC:Hid (∀ X,Below W.heap.size W X→X.cell? ⟨wr.heap.size,0,none⟩=some (.string F.key)∧X.cell? ⟨wr.heap.size,1,none⟩=some (.string F.value)∧X.cell? ⟨wr.heap.size,2,none⟩=some (.bool F.gone)):=fun X hX => three_below ⟨hg0,hg1,hg2⟩ hX hxs
    go_region_law ((first | (refine step_append_made _ 133 5 Tryz.underlying133 Tryz.info5 (w.heap.size+1) (by rfl) _ _ (by rfl) _ LL (changeB F).data.toList (by rfl) (ownsB_below HO.out (bx.out.trans (B4.out.mono (Nat.le_of_lt hxs)))) ⟨w2.heap.size,0,none⟩ C (by rw [HCB.out,show (G F.key ++ fb ++ G F.value:ByteArray).data.toList.length=Z from HZ.out.symm];rfl) (by rw [HCB.out];exact ownsB_cells HO4.out) hLl (Nat.le_trans hws (Nat.le_trans (Nat.le_of_lt hxs) B4.out.size)) ?_;intro v5 w5 ho5 hg5;have HO5:=hide ho5;have HG5:=hide hg5;clear ho5 hg5) | (go_simp;go_at_call 79;refine (CG.out _ _ (by assumption)).mono ?_;rintro e w2 ⟨rfl,b2⟩;(first | (have BB:=hide (BB.out.trans (b2.mono BB.out.size))) | (have BB:=hide (BB.out.trans (((Below.refl _ _).drew.trans b2).mono BB.out.size))));clear b2;obtain ⟨hg0,hg1,hg2⟩:=KC.out _ BB.out;obtain ⟨w4,C,hcv,b4,hs4,ho4⟩:=conv_made (P:=Tryz.prog) w2 9 133 5 (G F.key ++ fb ++ G F.value) Tryz.underlying9 Tryz.underlying133 Tryz.underlying5 hA5.out;rw [← HZ.out] at hcv ho4;have B4:=hide (BB.out.trans (b4.mono BB.out.size));have HO4:=hide ho4;clear b4 hs4 ho4) | (go_simp;go_at_call 80;refine (CF.out _).mono ?_;rintro e w3 ⟨rfl,rfl⟩) | fail))
    all_goals
     go_wp2_with fail
     go_roundw
     case rel =>
      refine ⟨k+1,by go_num,by omega,?_,((HB.out.trans (bx.out.mono hws)).trans (B4.out.mono (by omega))).grown HG5.out (by have:=B4.out.size;omega) (fun g hg => (ownsB_lt HO.out g hg).1)⟩
      have e2:(headB m fs.length).data.toList ++ changesL (fs.take (k+1))=LL ++ (changeB F).data.toList:=by
       rw [HLL.out,List.take_succ_eq_append_getElem hlt,changesL_snoc,HFk.out,List.append_assoc]
      show OwnsB _ _ _ _ _
      rw [e2]
      exact HO5.out
     case measure => simp [intOf];omega
   ·
    have hlt':decide ((k:Int) < (fs.length:Int))=false:=by simp;omega
    obtain ⟨L,HL⟩:∃ L,Hid (L=batchL m fs):=⟨_,rfl⟩
    have HO1:Hid (OwnsB wr (w.heap.size+1) 5 u4 L):=by
     have h:=HO.out
     rw [List.take_of_length_le (by omega)] at h
     show OwnsB _ _ _ _ _
     rw [HL.out]
     exact h
    have hcv:=conv_backB (P:=Tryz.prog) wr 133 9 5 _ u4 L Tryz.underlying133 Tryz.underlying5 Tryz.underlying9 HO1.out
    obtain ⟨g,co,cur,fz,rfl,-,-,-,hLc,hcm,-,-⟩:=HO1.out
    unfold maxLen at hcm
    have hm:((m:Int)).toNat=m:=by simp
    by_cases hbig:9000 < L.length
    ·
     have hbig':decide ((9000:Int) < (L.length:Int))=true:=by simp;omega
     have hT:Hid (textOkD (m:Int) fs=false):=by show _=_;rw [HT.out,← HL.out];simp;omega
     have hX:Hid (textD (m:Int) fs=⟨#[]⟩):=by show _=_;rw [textD,hT.out];rfl
     go_wp2
     go_ret2
     rw [hT.out,hX.out]
     exact ⟨rfl,HB0.out⟩
    ·
     have hbig':decide ((9000:Int) < (L.length:Int))=false:=by simp;omega
     have hT:Hid (textOkD (m:Int) fs=true):=by show _=_;rw [HT.out,← HL.out];simp;omega
     have hX:Hid (textD (m:Int) fs=⟨L.toArray⟩):=by show _=_;rw [textD,hT.out,hm,← HL.out];rfl
     go_wp2
     go_ret2
     rw [hT.out,hX.out]
     exact ⟨rfl,HB0.out⟩
def rdStep (t:ByteArray) (i:Nat) (bad:Bool):ChangeD × Nat × Bool :=
 let a:=shortC t i bad
 let b:=takeC t 1 a.2.1 a.2.2
 let c:=shortC t b.2.1 b.2.2
 (⟨a.1,c.1,b.1.toList == [1]⟩,c.2)
def rdF (t:ByteArray):Nat→Nat→Bool→List ChangeD→List ChangeD × Bool
 | 0,_,bad,acc => (acc,bad)
 | _+1,_,true,acc => (acc,true)
 | f+1,i,false,acc => rdF t f (rdStep t i false).2.1 (rdStep t i false).2.2 (acc ++ [(rdStep t i false).1])
theorem rdF_bad (t:ByteArray) (f i:Nat) (acc:List ChangeD):rdF t f i true acc=(acc,true):=by cases f <;> rfl
def rdRaw (t:ByteArray):Nat × List ChangeD × Bool :=
 let a:=takeC t 1 0 false
 let b:=varC t a.2.1 a.2.2
 let c:=varC t b.2.1 b.2.2
 (b.1,rdF t (min c.1 100) c.2.1 c.2.2 [])
def rdOk (t:ByteArray):Bool:=!(rdRaw t).2.2 && (textOkD (rdRaw t).1 (rdRaw t).2.1 && decide (textD (rdRaw t).1 (rdRaw t).2.1=t))
def rdSeq (t:ByteArray):Int:=if rdOk t then (rdRaw t).1 else 0
def rdChanges (t:ByteArray):List ChangeD:=if rdOk t then (rdRaw t).2.1 else []
theorem shortC_le {t:ByteArray} {i:Nat} (bad:Bool) (h:i≤t.size):(shortC t i bad).2.1≤t.size∧(shortC t i bad).1.size≤t.size:=takeC_le _ (varC_le bad h).1
def StB (w wr:World) (t:ByteArray) (i:Nat) (bad:Bool) (q:Int) (v:Value) (acc:List ChangeD):Prop :=
 wr.heap[w.heap.size]? = some (.cells #[.int .i64 0,.slice none 0 0] 87 (0,0))∧CurB wr (w.heap.size+1) t i bad∧wr.heap[w.heap.size+2]? = some (.cells #[.int .i64 q,v] 87 (0,0)) ∧
 wr.ownsRow (w.heap.size+3) 145 3 v acc.length (cellsChange acc)∧Below w.heap.size w wr
theorem heap_lt {w:World} {k:Nat} {x:Obj} (h:w.heap[k]? = some x):k < w.heap.size:=(Array.getElem?_eq_some_iff.1 h).1
theorem own_ne {w:World} {B:Nat} {e:TypeId} {s:Nat} {v:Value} {n:Nat} {xs:List Value} (h:w.ownsRow B e s v n xs) {k:Nat} (hk:k < B):v.ownBlock=none ∨ v.ownBlock ≠ some k:=by
 cases e:v.ownBlock with
 | none => exact .inl rfl
 | some g => exact .inr (fun e2 => by have:=(h.lt g e).1;simp at e2;omega)
theorem stB_cur {w wr w':World} {t:ByteArray} {i i':Nat} {bad bad':Bool} {q:Int} {v:Value} {acc:List ChangeD} (h:StB w wr t i bad q v acc) (hg:wr.grownBy w' (some (w.heap.size+1))) (hc:CurB w' (w.heap.size+1) t i' bad'):StB w w' t i' bad' q v acc:=by
 obtain ⟨h1,h2,h3,h4,h5⟩:=h
 refine ⟨(hg.block _ (heap_lt h1) (by simp)).trans h1,hc,(hg.block _ (heap_lt h3) (by simp)).trans h3,h4.kept hg (own_ne h4 (by omega)),h5.grown hg h5.size (fun k hk => by simp at hk;omega)⟩
theorem stB_below {w wr w':World} {t:ByteArray} {i:Nat} {bad:Bool} {q:Int} {v:Value} {acc:List ChangeD} (h:StB w wr t i bad q v acc) (hb:Below wr.heap.size wr w'):StB w w' t i bad q v acc:=by
 obtain ⟨h1,h2,h3,h4,h5⟩:=h
 have hg:=grownBy_below none hb
 exact ⟨(hg.block _ (heap_lt h1) (by simp)).trans h1,curB_below h2 hb,(hg.block _ (heap_lt h3) (by simp)).trans h3,h4.kept hg (by cases v.ownBlock <;> simp),h5.trans (hb.mono h5.size)⟩
theorem stB_far {w wr w':World} {t:ByteArray} {i:Nat} {bad:Bool} {q:Int} {v:Value} {acc:List ChangeD} {k:Nat} (h:StB w wr t i bad q v acc) (hk:w.heap.size+3≤k) (hne:v.ownBlock ≠ some k) (hg:wr.grownBy w' (some k)):StB w w' t i bad q v acc:=by
 obtain ⟨h1,h2,h3,h4,h5⟩:=h
 exact ⟨(hg.block _ (heap_lt h1) (by simp;omega)).trans h1,(hg.block _ (heap_lt h2) (by simp;omega)).trans h2,(hg.block _ (heap_lt h3) (by simp;omega)).trans h3,h4.kept hg (.inr hne),h5.grown hg h5.size (fun k' hk' => by simp at hk';omega)⟩
theorem stB_seq {w wr:World} {t:ByteArray} {i:Nat} {bad:Bool} {q:Int} {v:Value} {acc:List ChangeD} (h:StB w wr t i bad q v acc) (q':Int):StB w (wr.setCell ⟨w.heap.size+2,0,none⟩ (.int .i64 q')) t i bad q' v acc:=by
 obtain ⟨h1,h2,h3,h4,h5⟩:=h
 have hg:wr.grownBy (wr.setCell ⟨w.heap.size+2,0,none⟩ (.int .i64 q')) (some (w.heap.size+2)):=grownBy_store (World.grownBy.refl _ _) 0 _
 exact ⟨(hg.block _ (heap_lt h1) (by simp)).trans h1,(hg.block _ (heap_lt h2) (by simp)).trans h2,(heap_setCell_same _ _ _ _ _ _ h3).trans rfl,h4.kept hg (own_ne h4 (by omega)),h5.grown hg h5.size (fun k hk => by simp at hk;omega)⟩
theorem stB_row {w wr w5:World} {t:ByteArray} {i:Nat} {bad:Bool} {q:Int} {v v':Value} {acc acc':List ChangeD} (h:StB w wr t i bad q v acc) (hb:Below (w.heap.size+3) wr w5) (ho:w5.ownsRow (w.heap.size+3) 145 3 v' acc'.length (cellsChange acc')):StB w (w5.setCell ⟨w.heap.size+2,1,none⟩ v') t i bad q v' acc':=by
 obtain ⟨h1,h2,h3,h4,h5⟩:=h
 have hg:w5.grownBy (w5.setCell ⟨w.heap.size+2,1,none⟩ v') (some (w.heap.size+2)):=grownBy_store (World.grownBy.refl _ _) 1 _
 have k1:=(hb.block (w.heap.size) (by omega)).trans h1
 have k2:=(hb.block (w.heap.size+1) (by omega)).trans h2
 have k3:=(hb.block (w.heap.size+2) (by omega)).trans h3
 have k5:Below w.heap.size w w5:=h5.trans (hb.mono (by omega))
 exact ⟨(hg.block _ (heap_lt k1) (by simp)).trans k1,(hg.block _ (heap_lt k2) (by simp)).trans k2,(heap_setCell_same _ _ _ _ _ _ k3).trans rfl,ho.kept hg (own_ne ho (by omega)),k5.grown hg k5.size (fun k hk => by simp at hk;omega)⟩
theorem stB_cells {w wr:World} {t:ByteArray} {i:Nat} {bad:Bool} {q:Int} {v:Value} {acc:List ChangeD} (h:StB w wr t i bad q v acc) :
  (wr.cell? ⟨w.heap.size+2,0,none⟩=some (.int .i64 q)∧wr.cell? ⟨w.heap.size+2,1,none⟩=some v∧wr.frozen? ⟨w.heap.size+2,0,none⟩=false∧wr.frozen? ⟨w.heap.size+2,1,none⟩=false) ∧
  (wr.cell? ⟨w.heap.size,0,none⟩=some (.int .i64 0)∧wr.cell? ⟨w.heap.size,1,none⟩=some (.slice none 0 0)∧wr.frozen? ⟨w.heap.size,0,none⟩=false∧wr.frozen? ⟨w.heap.size,1,none⟩=false) ∧
  wr.cell? ⟨w.heap.size+1,2,none⟩=some (.bool bad):=by
 obtain ⟨h1,h2,h3,h4,h5⟩:=h
 exact ⟨⟨(cell_of_row wr _ 0 _ _ (0,0) h3).trans rfl,(cell_of_row wr _ 1 _ _ (0,0) h3).trans rfl,frozen_of_row wr _ 0 _ _ h3,frozen_of_row wr _ 1 _ _ h3⟩,
  ⟨(cell_of_row wr _ 0 _ _ (0,0) h1).trans rfl,(cell_of_row wr _ 1 _ _ (0,0) h1).trans rfl,frozen_of_row wr _ 0 _ _ h1,frozen_of_row wr _ 1 _ _ h1⟩,(curB_cells h2).2.2⟩
theorem bt_list (L:List UInt8) (p:Nat) (h:p < L.length):Wd.bt ⟨L.toArray⟩ p=L[p].toNat:=by
 unfold Wd.bt
 rw [dif_pos (show p < (⟨L.toArray⟩:ByteArray).size from h)]
 rfl
theorem bt_here (L:List UInt8) (p:Nat) (b:UInt8) (h:L[p]? = some b):Wd.bt ⟨L.toArray⟩ p=b.toNat:=by
 obtain ⟨hp,e⟩:=List.getElem?_eq_some_iff.1 h
 rw [bt_list L p hp,e]
theorem rvF_varF (s:ByteArray):∀ f n p k q acc,n < 128 ^ (f+1)→acc+n * q≤1000000000→(0 < n ∨ k=0) →
  (∀ j b,(Wd.varF (f+1) n)[j]? = some b→p+j < s.size∧Wd.bt s (p+j)=b.toNat)→Wd.rvF s (f+1) p k q acc=some (acc+n * q,p+(Wd.varF (f+1) n).length)
 | f,n,p,k,q,acc,hn,hb,hk,hs => by
  by_cases h:n < 128
  ·
   rw [Wd.varF_low f n h] at hs ⊢
   have h0:=hs 0 (UInt8.ofNat n) rfl
   have hbt:Wd.bt s p=n:=by have:=h0.2;simpa [Nat.mod_eq_of_lt (show n < 256 by omega)] using this
   have:=Wd.rvF_lastB (f:=f) (q:=q) (n:=acc) (k:=k) hbt h0.1 h (by rw [Nat.mod_eq_of_lt h];exact hb) hk
   rw [this,Nat.mod_eq_of_lt h]
   rfl
  ·
   rw [Wd.varF_high f n h] at hs ⊢
   have h0:=hs 0 (UInt8.ofNat (n % 128+128)) rfl
   have hbt:Wd.bt s p=n % 128+128:=by have:=h0.2;simpa [Nat.mod_eq_of_lt (show n % 128+128 < 256 by omega)] using this
   rw [Wd.rvF_moreB (f:=f) (q:=q) (n:=acc) (k:=k) hbt h0.1 (by omega)]
   cases f with
   | zero => simp at hn;omega
   | succ f =>
    have e:acc+n * q=acc+(n % 128+128) % 128 * q+n / 128 * (q * 128):=by
     have e1:(n % 128+128) % 128=n % 128:=by omega
     have e2:n * q=(n % 128+128 * (n / 128)) * q:=by rw [Nat.mod_add_div]
     rw [e1,e2,Nat.add_mul,Nat.add_assoc,Nat.mul_comm q 128,← Nat.mul_assoc,Nat.mul_comm 128 (n / 128)]
    have ih:=rvF_varF s f (n / 128) (p+1) (k+1) (q * 128) (acc+(n % 128+128) % 128 * q) (Wd.div_lt_pow _ _ hn) (by rw [← e];exact hb) (.inl (by omega))
     (fun j b hj => by
      have:=hs (j+1) b (by simpa using hj)
      rw [show p+1+j=p+(j+1) by omega]
      exact this)
    rw [ih,← e,List.length_cons]
    congr 2
    omega
theorem rvI_at (a b:List UInt8) (n:Nat) (hn:n≤1000000000) (i:Int) (hi:i=(a.length:Int)):Wd.rvI ⟨(a ++ Wd.varF 5 n ++ b).toArray⟩ i=some (n,a.length+(Wd.varF 5 n).length):=by
 subst hi
 unfold Wd.rvI
 have hsz:(⟨(a ++ Wd.varF 5 n ++ b).toArray⟩:ByteArray).size=a.length+(Wd.varF 5 n).length+b.length:=by
  show (a ++ Wd.varF 5 n ++ b).length=_
  rw [List.length_append,List.length_append]
 rw [if_neg (by rw [hsz];omega),Int.toNat_natCast]
 unfold Wd.rv
 have:=rvF_varF ⟨(a ++ Wd.varF 5 n ++ b).toArray⟩ 4 n a.length 0 1 0 (by omega) (by omega) (.inr rfl) (fun j x hj => by
  have hj':j < (Wd.varF 5 n).length:=(List.getElem?_eq_some_iff.1 hj).1
  refine ⟨by rw [hsz];omega,bt_here _ _ _ ?_⟩
  rw [List.append_assoc,List.getElem?_append_right (by omega),Nat.add_sub_cancel_left,List.getElem?_append_left hj',hj])
 rw [this]
 simp
theorem varC_at {t:ByteArray} (a b:List UInt8) (n:Nat) (hn:n≤1000000000) (ht:t=⟨(a ++ Wd.varF 5 n ++ b).toArray⟩):varC t a.length false=(n,a.length+(Wd.varF 5 n).length,false):=by
 have h:=rvI_at a b n hn (a.length:Int) rfl
 have hs:(⟨(a ++ Wd.varF 5 n ++ b).toArray⟩:ByteArray).size=a.length+(Wd.varF 5 n).length+b.length:=by
  show (a ++ Wd.varF 5 n ++ b).length=_
  rw [List.length_append,List.length_append]
 unfold Wd.rvI at h
 rw [if_neg (by rw [hs];omega),Int.toNat_natCast,← ht] at h
 unfold varC
 rw [h]
theorem takeC_at {t:ByteArray} (a b:List UInt8) (s:ByteArray) (ht:t=⟨(a ++ s.data.toList ++ b).toArray⟩):takeC t s.size a.length false=(s,a.length+s.size,false):=by
 have hl:s.data.toList.length=s.size:=rfl
 have hs:t.size=a.length+s.size+b.length:=by
  rw [ht]
  show (a ++ s.data.toList ++ b).length=_
  rw [List.length_append,List.length_append,hl]
 unfold takeC
 rw [if_neg (by simp;omega)]
 have e:t.extract a.length (a.length+s.size)=s:=by
  apply ByteArray.ext
  rw [ByteArray.data_extract,ht]
  apply Array.toList_inj.1
  rw [Array.toList_extract,List.extract_eq_take_drop]
  simp only [List.append_assoc]
  rw [List.drop_left,show a.length+s.size - a.length=s.data.toList.length from by omega,List.take_left]
 rw [e]
theorem shortB_list (s:ByteArray):(shortB s).data.toList=Wd.varF 5 s.size ++ s.data.toList:=by
 unfold shortB
 rw [ByteArray.data_append,Array.toList_append]
theorem shortB_len (s:ByteArray):(shortB s).size=(Wd.varF 5 s.size).length+s.size:=by
 unfold shortB
 rw [ByteArray.size_append,size_of_list]
theorem shortC_at {t:ByteArray} (a b:List UInt8) (s:ByteArray) (hs:s.size≤1000000000) (ht:t=⟨(a ++ (shortB s).data.toList ++ b).toArray⟩):shortC t a.length false=(s,a.length+(shortB s).size,false):=by
 rw [shortB_list] at ht
 unfold shortC
 rw [varC_at a (s.data.toList ++ b) s.size hs (by rw [ht];simp only [List.append_assoc])]
 have h:=takeC_at (t:=t) (a ++ Wd.varF 5 s.size) b s (by rw [ht];simp only [List.append_assoc])
 rw [List.length_append] at h
 simp only
 rw [h,shortB_len,Nat.add_assoc]
theorem changeB_list (A:ChangeD):(changeB A).data.toList=(shortB A.key).data.toList ++ (flagB A.gone).data.toList ++ (shortB A.value).data.toList:=by
 unfold changeB
 rw [ByteArray.data_append,ByteArray.data_append,Array.toList_append,Array.toList_append]
theorem rdStep_at {t:ByteArray} (a b:List UInt8) (A:ChangeD) (hk:A.key.size≤1000000000) (hv:A.value.size≤1000000000) (ht:t=⟨(a ++ (changeB A).data.toList ++ b).toArray⟩):rdStep t a.length false=(A,a.length+(changeB A).size,false):=by
 rw [changeB_list] at ht
 have h1:=shortC_at (t:=t) a ((flagB A.gone).data.toList ++ (shortB A.value).data.toList ++ b) A.key hk (by rw [ht];simp only [List.append_assoc])
 have h2:=takeC_at (t:=t) (a ++ (shortB A.key).data.toList) ((shortB A.value).data.toList ++ b) (flagB A.gone) (by rw [ht];simp only [List.append_assoc])
 have h3:=shortC_at (t:=t) (a ++ (shortB A.key).data.toList ++ (flagB A.gone).data.toList) b A.value hv (by rw [ht];simp only [List.append_assoc])
 have e1:(shortB A.key).data.toList.length=(shortB A.key).size:=rfl
 have e2:(flagB A.gone).data.toList.length=(flagB A.gone).size:=rfl
 rw [List.length_append,e1,flagB_size] at h2
 rw [List.length_append,List.length_append,e1,e2,flagB_size] at h3
 have hz:(changeB A).size=(shortB A.key).size+1+(shortB A.value).size:=by
  unfold changeB
  rw [ByteArray.size_append,ByteArray.size_append,flagB_size]
 have hg:((flagB A.gone).toList == [1])=A.gone:=by rw [ByteArray.toList_eq];cases A.gone <;> rfl
 unfold rdStep
 simp only [h1,h2,h3,hg]
 rw [hz]
 simp only [Nat.add_assoc]
theorem rdF_at {t:ByteArray}:∀ (fs:List ChangeD) (a b:List UInt8) (acc:List ChangeD),(∀ A ∈ fs,A.key.size≤1000000000∧A.value.size≤1000000000)→t=⟨(a ++ changesL fs ++ b).toArray⟩→rdF t fs.length a.length false acc=(acc ++ fs,false)
 | [],a,b,acc,_,_ => by simp [rdF]
 | A :: r,a,b,acc,hs,ht => by
  have hA:=hs A (List.mem_cons_self ..)
  have h1:=rdStep_at (t:=t) a (changesL r ++ b) A hA.1 hA.2 (by rw [ht];simp only [changesL,List.append_assoc])
  have h2:=rdF_at (t:=t) r (a ++ (changeB A).data.toList) b (acc ++ [A]) (fun B hB => hs B (List.mem_cons_of_mem _ hB)) (by rw [ht];simp only [changesL,List.append_assoc])
  have e1:(changeB A).data.toList.length=(changeB A).size:=rfl
  rw [List.length_append,e1] at h2
  rw [List.length_cons]
  simp only [rdF,h1]
  rw [h2]
  simp
theorem okChg_small:∀ (fs:List ChangeD) (p:Option ByteArray),okChg p fs=true→∀ A ∈ fs,A.key.size≤20∧A.value.size≤2000
 | [],_,_,_,h => absurd h List.not_mem_nil
 | B :: r,p,h,A,hA => by
  have h1:changeOkD B=true∧okChg (some B.key) r=true:=by
   cases p <;> simp only [okChg,Bool.and_eq_true] at h
   · exact h
   · exact ⟨h.1,h.2.2⟩
  rcases List.mem_cons.1 hA with rfl | hA
  ·
   have:=h1.1
   simp only [changeOkD,Bool.and_eq_true,decide_eq_true_eq] at this
   exact ⟨this.1.2,this.2.1⟩
  · exact okChg_small r _ h1.2 A hA
theorem rdRaw_back {q:Int} {fs:List ChangeD} (h:textOkD q fs=true):rdRaw (textD q fs)=(q.toNat,fs,false):=by
 have hb:batchOkD q fs=true:=by unfold textOkD at h;simp only [Bool.and_eq_true] at h;exact h.1
 obtain ⟨h0,h1,h2,h3⟩:=batchOkD_bounds hb
 have hok:okChg none fs=true:=by unfold batchOkD at hb;simp only [Bool.and_eq_true] at hb;exact hb.2.2
 have hsm:=okChg_small fs none hok
 obtain ⟨m,rfl⟩:=Int.eq_ofNat_of_zero_le h0
 rw [Int.toNat_natCast]
 obtain ⟨t,ht⟩:∃ t,t=textD (m:Int) fs:=⟨_,rfl⟩
 rw [← ht]
 unfold textD at ht
 rw [if_pos h,Int.toNat_natCast] at ht
 have hh:(headB m fs.length).data.toList=[66] ++ Wd.varF 5 m ++ Wd.varF 5 fs.length:=by
  unfold headB
  rw [ByteArray.data_append,ByteArray.data_append,Array.toList_append,Array.toList_append]
 unfold batchL at ht
 rw [hh] at ht
 have k1:=takeC_at (t:=t) [] (Wd.varF 5 m ++ Wd.varF 5 fs.length ++ changesL fs) ⟨#[66]⟩ (by rw [ht];simp only [List.append_assoc,List.nil_append])
 have k2:=varC_at (t:=t) [66] (Wd.varF 5 fs.length ++ changesL fs) m (by omega) (by rw [ht];simp only [List.append_assoc])
 have k3:=varC_at (t:=t) ([66] ++ Wd.varF 5 m) (changesL fs) fs.length (by omega) (by rw [ht])
 have k4:=rdF_at (t:=t) fs ([66] ++ Wd.varF 5 m ++ Wd.varF 5 fs.length) [] [] (fun A hA => by have:=hsm A hA;omega) (by rw [ht,List.append_nil])
 have e1:(⟨#[66]⟩:ByteArray).size=1:=rfl
 rw [e1] at k1
 simp only [List.length_nil,Nat.zero_add] at k1
 simp only [List.length_append,List.length_cons,List.length_nil,Nat.zero_add,List.nil_append] at k2 k3 k4
 unfold rdRaw
 simp only [k1,k2,k3]
 rw [Nat.min_eq_left (by omega),k4]
theorem rd_back {q:Int} {fs:List ChangeD} (h:textOkD q fs=true):rdOk (textD q fs)=true∧rdSeq (textD q fs)=q∧rdChanges (textD q fs)=fs:=by
 have hb:batchOkD q fs=true:=by unfold textOkD at h;simp only [Bool.and_eq_true] at h;exact h.1
 obtain ⟨h0,-,-,-⟩:=batchOkD_bounds hb
 have hq:((q.toNat:Nat):Int)=q:=Int.toNat_of_nonneg h0
 have hr:=rdRaw_back h
 have hok:rdOk (textD q fs)=true:=by
  unfold rdOk
  rw [hr]
  simp only [hq,h]
  simp
 refine ⟨hok,?_,?_⟩
 ·
  unfold rdSeq
  rw [hok,hr]
  exact hq
 ·
  unfold rdChanges
  rw [hok,hr]
  rfl
theorem rd_text {t:ByteArray} (h:rdOk t=true):textOkD (rdSeq t) (rdChanges t)=true∧textD (rdSeq t) (rdChanges t)=t:=by
 have hs:rdSeq t=(rdRaw t).1:=by unfold rdSeq;rw [h];rfl
 have hc:rdChanges t=(rdRaw t).2.1:=by unfold rdChanges;rw [h];rfl
 rw [hs,hc]
 unfold rdOk at h
 simp only [Bool.and_eq_true,decide_eq_true_eq] at h
 exact h.2
end Go.Proofs.YtepdckehokdjlaaGreatDoor
