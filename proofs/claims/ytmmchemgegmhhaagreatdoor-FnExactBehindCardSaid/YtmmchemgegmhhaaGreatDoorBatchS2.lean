/- The specification's BatchText. -/
import Derived.Test.YtmmchemgegmhhaaGreatDoorBatchS1
import Derived.Deep.RegionHeld3
import Derived.Deep.CutRange
import Derived.Deep.RegionLaw
namespace Go.Proofs.YtmmchemgegmhhaaGreatDoor
open Go.RowKit

/-- Has a batch a text? -/
def textOkD (q : Int) (fs : List ChangeD) : Bool := batchOkD q fs && decide ((batchL q.toNat fs).length ≤ 9000)
/-- The text of a batch, or none. -/
def textD (q : Int) (fs : List ChangeD) : ByteArray := if textOkD q fs then ⟨(batchL q.toNat fs).toArray⟩ else ⟨#[]⟩

theorem batchOkD_bounds {q : Int} {fs : List ChangeD} (h : batchOkD q fs = true) : 0 ≤ q ∧ q ≤ 1000000000 ∧ 1 ≤ fs.length ∧ fs.length ≤ 40 := by
  simp only [batchOkD, Bool.and_eq_true, decide_eq_true_eq] at h
  omega

theorem changesL_len : ∀ (a : List ChangeD), (∀ A ∈ a, A.key.size ≤ 1048576 ∧ A.value.size ≤ 1048576) → (changesL a).length ≤ a.length * 2097163
  | [], _ => by simp [changesL]
  | A :: r, h => by
    have h1 := h A (List.mem_cons_self ..)
    have h2 := changesL_len r (fun B hB => h B (List.mem_cons_of_mem _ hB))
    have h3 := changeB_size A
    have e : (changeB A).data.toList.length = (changeB A).size := rfl
    simp only [changesL, List.length_append, List.length_cons]
    omega
theorem three_below {w w' : World} {b n : Nat} {x y : ByteArray} {z : Bool} (h : w.cell? ⟨b, 0, none⟩ = some (.string x) ∧ w.cell? ⟨b, 1, none⟩ = some (.string y) ∧ w.cell? ⟨b, 2, none⟩ = some (.bool z)) (hb : Below n w w') (hlt : b < n) :
    w'.cell? ⟨b, 0, none⟩ = some (.string x) ∧ w'.cell? ⟨b, 1, none⟩ = some (.string y) ∧ w'.cell? ⟨b, 2, none⟩ = some (.bool z) :=
  ⟨(hb.cell (p := ⟨b, 0, none⟩) hlt).trans h.1, (hb.cell (p := ⟨b, 1, none⟩) hlt).trans h.2.1, (hb.cell (p := ⟨b, 2, none⟩) hlt).trans h.2.2⟩
set_option maxRecDepth 100000 in
set_option maxHeartbeats 1600000 in
theorem specBatchText_any (q : Int) (fs : List ChangeD) (ao : Option Addr) (cap : Nat) (w : World) (hl : fs.length ≤ 1048576) (hfs : ChangesAt w ao fs) (hsz : ∀ A ∈ fs, A.key.size ≤ 1048576 ∧ A.value.size ≤ 1048576) :
    Calls Tryz.prog 65 #[.agg #[.int .i64 q, .slice ao fs.length cap]] w fun e w' => e = .returned (.tuple #[.string (textD q fs), .bool (textOkD q fs)]) ∧ Below w.heap.size w w' := by
  have HF := hide hfs
  have HS := hide hsz
  have HS2 : Hid (∀ A ∈ fs, A.key.size ≤ maxLen ∧ A.value.size ≤ maxLen) := fun A hA => by have := hsz A hA; unfold maxLen; omega
  clear hfs hsz
  have b0 : Hid (Below w.heap.size w (w.alloc (.cells #[.int .i64 q, .slice ao fs.length cap] 96))) := (Below.refl _ w).alloc (Nat.le_refl _) _
  cases hok : batchOkD q fs
  · have hT : Hid (textOkD q fs = false) := by show _ = _; rw [textOkD, hok]; rfl
    have hX : Hid (textD q fs = ⟨#[]⟩) := by show _ = _; rw [textD, hT.out]; rfl
    go_enter Tryz.func65, Tryz.ntmps65
    go_wp2_with fail
    refine (specBatchOk_any q fs ao cap _ hl (changesAt_keep HF.out b0.out) HS2.out).mono ?_
    rintro e w1 ⟨rfl, b1⟩
    rw [hok]
    go_wp2
    go_ret2
    rw [hT.out, hX.out]
    exact ⟨rfl, b0.out.trans (b1.mono b0.out.size)⟩
  · obtain ⟨hq0, hq1, hn1, hn2⟩ := batchOkD_bounds hok
    obtain ⟨m, rfl⟩ := Int.eq_ofNat_of_zero_le hq0
    have HT : Hid (textOkD (m : Int) fs = decide ((batchL m fs).length ≤ 9000)) := by show _ = _; rw [textOkD, hok]; rfl
    have hbs : (w.alloc (.cells #[.int .i64 (m : Int), .slice ao fs.length cap] 96)).heap.size = w.heap.size + 1 := by simp
    have hbox := heap_alloc_new w (.cells #[.int .i64 (m : Int), .slice ao fs.length cap] 96)
    go_enter Tryz.func65, Tryz.ntmps65
    go_wp2_with fail
    refine (specBatchOk_any (m : Int) fs ao cap _ hl (changesAt_keep HF.out b0.out) HS2.out).mono ?_
    rintro e w1 ⟨rfl, b1⟩
    rw [hok]
    generalize w.alloc (.cells #[.int .i64 (m : Int), .slice ao fs.length cap] 96) = wb at b0 hbs hbox b1
    have HB1 : Hid (Below (w.heap.size + 1) wb w1) := hbs ▸ b1
    have HBX : Hid (wb.heap[w.heap.size]? = some (.cells #[.int .i64 (m : Int), .slice ao fs.length cap] 96 (0, 0))) := hbox
    have hbx1 := (HB1.out.block w.heap.size (by omega)).trans hbox
    have hc0 : w1.cell? ⟨w.heap.size, 0, none⟩ = some (.int .i64 (m : Int)) := (cell_of_row w1 _ 0 _ _ (0, 0) hbx1).trans rfl
    have hc1 : w1.cell? ⟨w.heap.size, 1, none⟩ = some (.slice ao fs.length cap) := (cell_of_row w1 _ 1 _ _ (0, 0) hbx1).trans rfl
    have hw1 : w.heap.size + 1 ≤ w1.heap.size := by have := HB1.out.size; omega
    have HBS := hide hbs
    clear b1 hbox hbx1 hbs
    obtain ⟨V, HV⟩ : ∃ V : Nat → ByteArray, Hid (∀ n, V n = ⟨(Wd.varF 5 n).toArray⟩) := ⟨_, fun _ => rfl⟩
    have HH : Hid (headB m fs.length = ⟨#[66]⟩ ++ V m ++ V fs.length) := by show _ = _; rw [HV.out, HV.out]; rfl
    have hz1 : (V m).size ≤ 5 := by rw [HV.out]; exact Wd.varF_length 5 m
    have hz2 : (V fs.length).size ≤ 5 := by rw [HV.out]; exact Wd.varF_length 5 fs.length
    have CV : Hid (∀ (n : Nat) (W : World), n < 34359738368 → Calls Tryz.prog 87 #[.int .i64 (n : Int)] W fun e w' => e = .returned (.string (V n)) ∧ Below W.heap.size W w') := fun n W hn => by rw [HV.out]; exact l01Var_any n W hn
    have hA1 : ¬ (9223372036854775807 < (⟨#[66]⟩ : ByteArray).size + (V m).size) := by have e : (⟨#[66]⟩ : ByteArray).size = 1 := rfl; omega
    have hA2 : ¬ (9223372036854775807 < 1 + (V m).size) := by omega
    have hA3 : ¬ (9223372036854775807 < 1 + (V m).size + (V fs.length).size) := by omega
    have hA4 : ¬ (9223372036854775807 < (⟨#[66]⟩ : ByteArray).size + (V m).size + (V fs.length).size) := by have e : (⟨#[66]⟩ : ByteArray).size = 1 := rfl; omega
    have hA5 : Hid ((⟨#[66]⟩ ++ V m ++ V fs.length : ByteArray).size ≤ maxLen) := by show _ ≤ _; rw [← HH.out]; have := headB_size m fs.length; unfold maxLen; omega
    have BB : Hid (Below w1.heap.size w1 w1) := Below.refl _ _
    go_wp2_with fail
    go_cut [4] from 7 (fun vo wx => Hid (OwnsB wx (w.heap.size + 1) 5 vo ((headB m fs.length).data.toList ++ changesL (fs.take 0))) ∧ Hid (Below (w.heap.size + 1) wb wx))
    case first =>
      have KC : Hid (∀ X, Below w1.heap.size w1 X → X.cell? ⟨w.heap.size, 0, none⟩ = some (.int .i64 (m : Int)) ∧ X.cell? ⟨w.heap.size, 1, none⟩ = some (.slice ao fs.length cap)) := fun X hX => ⟨(hX.cell (p := ⟨w.heap.size, 0, none⟩) hw1).trans hc0, (hX.cell (p := ⟨w.heap.size, 1, none⟩) hw1).trans hc1⟩
      obtain ⟨Z, HZ⟩ : ∃ Z : Nat, Hid (Z = (⟨#[66]⟩ ++ V m ++ V fs.length : ByteArray).size) := ⟨_, rfl⟩
      go_region_law ((first | (go_simp; go_at_call 87; refine (CV.out _ _ (by omega)).mono ?_; rintro e w2 ⟨rfl, b2⟩; (first | (have BB := hide (BB.out.trans (b2.mono BB.out.size))) | (have BB := hide (BB.out.trans (((Below.refl _ _).drew.trans b2).mono BB.out.size)))); clear b2; obtain ⟨hc0, hc1⟩ := KC.out _ BB.out; obtain ⟨w4, C, hcv, b4, hs4, ho4⟩ := conv_made (P := Tryz.prog) w2 9 22 5 (⟨#[66]⟩ ++ V m ++ V fs.length) Tryz.underlying9 Tryz.underlying22 Tryz.underlying5 hA5.out; rw [← HZ.out] at hcv ho4; have B4 := hide (BB.out.trans (b4.mono BB.out.size)); have HO4 := hide ho4; clear b4 hs4 ho4) | fail))
      all_goals
        go_wp2
        go_meet
        refine ⟨?_, HB1.out.trans (B4.out.mono hw1)⟩
        show OwnsB _ _ _ _ _
        rw [HH.out, List.take_zero, changesL, List.append_nil]
        exact ownsB_le HO4.out (by have := BB.out.size; omega)
    case rest =>
    obtain ⟨HO4, HB4⟩ := hcut
    clear hA1 hA2 hA3 hA4 hA5 hz1 hz2 CV BB HB1 hc0 hc1
    go_wp2_with fail
    go_loopw [4, 5] (fun vo ii wr => ∃ (k : Nat), ii = .int .i64 k ∧ k ≤ fs.length ∧ Hid (OwnsB wr (w.heap.size + 1) 5 vo ((headB m fs.length).data.toList ++ changesL (fs.take k))) ∧ Hid (Below (w.heap.size + 1) wb wr)) (fun _ ii _ => fs.length - (intOf ii).toNat)
    case atStart => exact ⟨0, rfl, Nat.zero_le _, HO4, HB4⟩
    case round =>
      clear HO4 HB4
      obtain ⟨k, rfl, hk, HO, HB⟩ := hrel
      have hws : w.heap.size + 1 ≤ wr.heap.size := by have h1 := HB.out.size; have h2 := HBS.out; omega
      have hbx := (HB.out.block w.heap.size (by omega)).trans HBX.out
      have hc1 : wr.cell? ⟨w.heap.size, 1, none⟩ = some (.slice ao fs.length cap) := (cell_of_row wr _ 1 _ _ (0, 0) hbx).trans rfl
      have HB0 : Hid (Below w.heap.size w wr) := b0.out.trans (HB.out.mono (by omega))
      clear hbx
      by_cases hlt : k < fs.length
      · have hlt' : decide ((k : Int) < (fs.length : Int)) = true := by simp; omega
        obtain ⟨b, off, rfl, hbw, hd0, hd1, hd2⟩ := changesAt_keep HF.out HB0.out k hlt
        obtain ⟨hs1, hs2⟩ := HS.out fs[k] (List.getElem_mem hlt)
        obtain ⟨F, HFk⟩ : ∃ F, Hid (fs[k] = F) := ⟨fs[k], hide rfl⟩
        rw [HFk.out] at hd0 hd1 hd2 hs1 hs2
        have hi0 : (0 : Int) ≤ (k : Int) := by omega
        have hi1 : (k : Int) < (fs.length : Int) := by omega
        have bx : Hid (Below wr.heap.size wr (wr.alloc (.cells #[.string F.key, .string F.value, .bool F.gone] 144))) := (Below.refl _ wr).alloc (Nat.le_refl _) _
        have hxs : wr.heap.size < (wr.alloc (.cells #[.string F.key, .string F.value, .bool F.gone] 144)).heap.size := by simp
        have hfile := heap_alloc_new wr (.cells #[.string F.key, .string F.value, .bool F.gone] 144)
        go_wp2_with fail
        generalize wr.alloc (.cells #[.string F.key, .string F.value, .bool F.gone] 144) = W at bx hxs hfile
        have hg0 : W.cell? ⟨wr.heap.size, 0, none⟩ = some (.string F.key) := (cell_of_row W wr.heap.size 0 _ _ (0, 0) hfile).trans rfl
        have hg1 : W.cell? ⟨wr.heap.size, 1, none⟩ = some (.string F.value) := (cell_of_row W wr.heap.size 1 _ _ (0, 0) hfile).trans rfl
        have hg2 : W.cell? ⟨wr.heap.size, 2, none⟩ = some (.bool F.gone) := (cell_of_row W wr.heap.size 2 _ _ (0, 0) hfile).trans rfl
        clear hfile hd0 hd1 hd2 hc1
        obtain ⟨G, HG⟩ : ∃ G : ByteArray → ByteArray, Hid (∀ s, G s = shortB s) := ⟨_, fun _ => rfl⟩
        obtain ⟨fb, Hfb⟩ : ∃ fb : ByteArray, Hid (fb = flagB F.gone) := ⟨_, rfl⟩
        have HCB : Hid (changeB F = G F.key ++ fb ++ G F.value) := by show _ = _; rw [HG.out, HG.out, Hfb.out]; rfl
        have hz0 : fb.size = 1 := by rw [Hfb.out]; exact flagB_size _
        have hz1 : (G F.key).size ≤ 1048581 := by rw [HG.out]; have := shortB_size F.key; omega
        have hz2 : (G F.value).size ≤ 1048581 := by rw [HG.out]; have := shortB_size F.value; omega
        have CG : Hid (∀ (s : ByteArray) (W : World), s.size ≤ 1048576 → Calls Tryz.prog 109 #[.string s] W fun e w' => e = .returned (.string (G s)) ∧ Below W.heap.size W w') := fun s W hs => by rw [HG.out]; exact l05Short_any s W hs
        have CF : Hid (∀ (W : World), Calls Tryz.prog 110 #[.bool F.gone] W fun e w' => e = .returned (.string fb) ∧ w' = W) := fun W => by rw [Hfb.out]; exact l05Flag_any _ W
        have hA1 : ¬ (9223372036854775807 < (G F.key).size + fb.size) := by omega
        have hA2 : ¬ (9223372036854775807 < (G F.key).size + fb.size + (G F.value).size) := by omega
        have hA3 : ¬ (9223372036854775807 < (G F.key).size + 1) := by omega
        have hA4 : ¬ (9223372036854775807 < (G F.key).size + 1 + (G F.value).size) := by omega
        have hA5 : Hid ((G F.key ++ fb ++ G F.value : ByteArray).size ≤ maxLen) := by show _ ≤ _; rw [ByteArray.size_append, ByteArray.size_append]; unfold maxLen; omega
        obtain ⟨Z, HZ⟩ : ∃ Z : Nat, Hid (Z = (G F.key ++ fb ++ G F.value : ByteArray).size) := ⟨_, rfl⟩
        have Hz0 := hide hz0
        clear hz0
        have BB : Hid (Below W.heap.size W W) := Below.refl _ _
        obtain ⟨LL, HLL⟩ : ∃ LL, Hid (LL = (headB m fs.length).data.toList ++ changesL (fs.take k)) := ⟨_, rfl⟩
        rw [← HLL.out] at HO
        have hLl : LL.length + (changeB F).data.toList.length ≤ 70368744177664 := by
          have h1 := headB_size m fs.length
          have h2 := changesL_len (fs.take k) (fun A hA => HS.out A (List.mem_of_mem_take hA))
          have h3 : (fs.take k).length ≤ fs.length := by rw [List.length_take]; omega
          have h4 := changeB_size F
          have e1 : (headB m fs.length).data.toList.length = (headB m fs.length).size := rfl
          have e2 : (changeB F).data.toList.length = (changeB F).size := rfl
          rw [HLL.out, List.length_append]
          omega
        have KC : Hid (∀ X, Below W.heap.size W X → X.cell? ⟨wr.heap.size, 0, none⟩ = some (.string F.key) ∧ X.cell? ⟨wr.heap.size, 1, none⟩ = some (.string F.value) ∧ X.cell? ⟨wr.heap.size, 2, none⟩ = some (.bool F.gone)) := fun X hX => three_below ⟨hg0, hg1, hg2⟩ hX hxs
        go_region_law ((first | (refine step_append_made _ 22 5 Tryz.underlying22 Tryz.info5 (w.heap.size + 1) (by rfl) _ _ (by rfl) _ LL (changeB F).data.toList (by rfl) (ownsB_below HO.out (bx.out.trans (B4.out.mono (Nat.le_of_lt hxs)))) ⟨w2.heap.size, 0, none⟩ C (by rw [HCB.out, show (G F.key ++ fb ++ G F.value : ByteArray).data.toList.length = Z from HZ.out.symm]; rfl) (by rw [HCB.out]; exact ownsB_cells HO4.out) hLl (Nat.le_trans hws (Nat.le_trans (Nat.le_of_lt hxs) B4.out.size)) ?_; intro v5 w5 ho5 hg5; have HO5 := hide ho5; have HG5 := hide hg5; clear ho5 hg5) | (go_simp; go_at_call 109; refine (CG.out _ _ (by assumption)).mono ?_; rintro e w2 ⟨rfl, b2⟩; (first | (have BB := hide (BB.out.trans (b2.mono BB.out.size))) | (have BB := hide (BB.out.trans (((Below.refl _ _).drew.trans b2).mono BB.out.size)))); clear b2; obtain ⟨hg0, hg1, hg2⟩ := KC.out _ BB.out; obtain ⟨w4, C, hcv, b4, hs4, ho4⟩ := conv_made (P := Tryz.prog) w2 9 22 5 (G F.key ++ fb ++ G F.value) Tryz.underlying9 Tryz.underlying22 Tryz.underlying5 hA5.out; rw [← HZ.out] at hcv ho4; have B4 := hide (BB.out.trans (b4.mono BB.out.size)); have HO4 := hide ho4; clear b4 hs4 ho4) | (go_simp; go_at_call 110; refine (CF.out _).mono ?_; rintro e w3 ⟨rfl, rfl⟩) | fail))
        all_goals
          go_wp2_with fail
          go_roundw
          case rel =>
            refine ⟨k + 1, by go_num, by omega, ?_, ((HB.out.trans (bx.out.mono hws)).trans (B4.out.mono (by omega))).grown HG5.out (by have := B4.out.size; omega) (fun g hg => (ownsB_lt HO.out g hg).1)⟩
            have e2 : (headB m fs.length).data.toList ++ changesL (fs.take (k + 1)) = LL ++ (changeB F).data.toList := by
              rw [HLL.out, List.take_succ_eq_append_getElem hlt, changesL_snoc, HFk.out, List.append_assoc]
            show OwnsB _ _ _ _ _
            rw [e2]
            exact HO5.out
          case measure => simp [intOf]; omega
      · have hlt' : decide ((k : Int) < (fs.length : Int)) = false := by simp; omega
        obtain ⟨L, HL⟩ : ∃ L, Hid (L = batchL m fs) := ⟨_, rfl⟩
        have HO1 : Hid (OwnsB wr (w.heap.size + 1) 5 u4 L) := by
          have h := HO.out
          rw [List.take_of_length_le (by omega)] at h
          show OwnsB _ _ _ _ _
          rw [HL.out]
          exact h
        have hcv := conv_backB (P := Tryz.prog) wr 22 9 5 _ u4 L Tryz.underlying22 Tryz.underlying5 Tryz.underlying9 HO1.out
        obtain ⟨g, co, cur, fz, rfl, -, -, -, hLc, hcm, -, -⟩ := HO1.out
        unfold maxLen at hcm
        have hm : ((m : Int)).toNat = m := by simp
        by_cases hbig : 9000 < L.length
        · have hbig' : decide ((9000 : Int) < (L.length : Int)) = true := by simp; omega
          have hT : Hid (textOkD (m : Int) fs = false) := by show _ = _; rw [HT.out, ← HL.out]; simp; omega
          have hX : Hid (textD (m : Int) fs = ⟨#[]⟩) := by show _ = _; rw [textD, hT.out]; rfl
          go_wp2
          go_ret2
          rw [hT.out, hX.out]
          exact ⟨rfl, HB0.out⟩
        · have hbig' : decide ((9000 : Int) < (L.length : Int)) = false := by simp; omega
          have hT : Hid (textOkD (m : Int) fs = true) := by show _ = _; rw [HT.out, ← HL.out]; simp; omega
          have hX : Hid (textD (m : Int) fs = ⟨L.toArray⟩) := by show _ = _; rw [textD, hT.out, hm, ← HL.out]; rfl
          go_wp2
          go_ret2
          rw [hT.out, hX.out]
          exact ⟨rfl, HB0.out⟩
end Go.Proofs.YtmmchemgegmhhaaGreatDoor
