/- The parts of a line as the program tells them: the road of a plain line. -/
import Derived.Test.YtpkgnpckolhjgahDoorPartsI
namespace Go.Proofs.YtpkgnpckolhjgahDoor
open Go.RowKit

theorem split_any (s : ByteArray) (m : Int) (w : World) (h : s.size ≤ 600) (hm : w.cell? ⟨1, 0, none⟩ = some (.int .i64 m)) :
    Calls Tryd.prog 15 #[.string s, .string ⟨#[32]⟩] w fun e w' => ∃ ps : List ByteArray, e = .returned (.slice (some ⟨w.heap.size, 0, none⟩) ps.length ps.length) ∧ w' = w.alloc (.cells (ps.map Value.string).toArray 9) ∧
      Hid (kept ps ps.length = Wd.words s) ∧ Hid (∀ p ∈ ps, p.size ≤ 600) ∧ ps.length ≤ 601 := by
  refine (Tryd.strings_Split s ⟨#[32]⟩ m w (by omega) hm (by decide)).mono ?_
  rintro e w' ⟨he, hw⟩
  have hl := Lib.splitB_all ⟨#[32]⟩ (by decide) 0 (Lib.countB s ⟨#[32]⟩) s rfl
  refine ⟨_, by rw [hl]; exact he, hw, ?_, ?_, ?_⟩
  · show kept _ _ = _
    unfold kept
    rw [List.take_length, ← Wd.words_of_split]
  · intro p hp
    have := splitB_size _ _ _ p hp
    omega
  · have := Lib.countB_le ⟨#[32]⟩ (by decide) s.size s (Nat.le_refl _)
    omega

theorem piece_cell (w : World) (ps : List ByteArray) (k : Nat) (p : ByteArray) (h : ps[k]? = some p) : (w.alloc (.cells (ps.map Value.string).toArray 9)).cell? ⟨w.heap.size, k, none⟩ = some (.string p) := by
  refine (World.cell?_alloc_mark w (ps.map Value.string).toArray 9 (0, 0) k).trans ?_
  simp [h]

set_option maxRecDepth 100000 in
set_option maxHeartbeats 2000000 in
theorem implParts_plain (s : ByteArray) (m : Int) (w : World) (h : s.size ≤ 600) (hp : Wd.plain s s.size) (hm : w.cell? ⟨1, 0, none⟩ = some (.int .i64 m)) : Calls Tryd.prog 8 #[.string s] w (PartsLeft s w) := by
  have H := hide hp
  have HM := hide hm
  clear hp hm
  have h' : decide (600 < (s.size : Int)) = false := by simp; omega
  go_enter Tryd.func8, Tryd.ntmps8
  go_wp2_with (first | (go_at_call 14; refine (plain_yes s _ h H.out).mono ?_; rintro e w1 ⟨rfl, hw1⟩; rw [hw1]; clear hw1) | (go_at_call 15; refine (split_any s m _ h HM.out).mono ?_; rintro e w2 ⟨ps, rfl, hw2, HK, HZ, hpl⟩; rw [hw2]; clear hw2))
  obtain ⟨wS, hwS⟩ : ∃ wS, w.alloc (.cells (ps.map Value.string).toArray 9) = wS := ⟨_, rfl⟩
  have hsz : wS.heap.size = w.heap.size + 1 := by rw [← hwS]; simp
  have hbS : Below w.heap.size w wS := by rw [← hwS]; exact (Below.refl _ _).alloc (Nat.le_refl _) _
  have HC : Hid (∀ k p, ps[k]? = some p → wS.cell? ⟨w.heap.size, k, none⟩ = some (.string p)) := by intro k p hp; rw [← hwS]; exact piece_cell w ps k p hp
  rw [hwS]
  have HSZ := hide hsz
  clear hwS hsz
  go_loopw [4, 18] (fun v ii wr => ∃ k : Nat, k ≤ ps.length ∧ ii = .int .i64 k ∧ wr.ownsRow wS.heap.size 9 1 v (kept ps k).length ((kept ps k).map sv) ∧ Below wS.heap.size wS wr) (fun _ ii _ => ps.length - (intOf ii).toNat)
  case atStart => exact ⟨0, Nat.zero_le _, rfl, World.ownsRow_nil _ _ _ _, Below.refl _ _⟩
  case round =>
    obtain ⟨k, hk, rfl, hown, hb⟩ := hrel
    have hbs := hb.size
    have hkl := kept_le ps k
    by_cases hlt : k < ps.length
    · obtain ⟨p, hpk⟩ : ∃ p, ps[k]? = some p := ⟨_, List.getElem?_eq_getElem hlt⟩
      have hcell : wr.cell? ⟨w.heap.size, k, none⟩ = some (.string p) := (hb.cell (p := ⟨w.heap.size, k, none⟩) (by have := HSZ.out; show w.heap.size < _; omega)).trans (HC.out k p hpk)
      have hps : p.size ≤ 600 := HZ.out p (List.mem_of_getElem? hpk)
      have HPK := hide hpk
      clear hpk
      by_cases he : p.toList.isEmpty = true
      · have hkn := hide (kept_no ps k p HPK.out (by rw [← ByteArray.toList_eq]; exact he))
        go_wp2
        go_roundw
        case rel =>
          refine ⟨k + 1, by omega, by go_num, ?_, hb⟩
          rw [hkn.out]
          exact hown
        case measure => simp [intOf]; omega
      · have he' : p.toList.isEmpty = false := by simpa using he
        clear he
        have hkn := hide (kept_yes ps k p HPK.out (by rw [← ByteArray.toList_eq]; exact he'))
        go_wp2_with (first | (go_at_call 16; refine (ownText_any p _ (by omega)).mono ?_; rintro e w3 ⟨rfl, hb3⟩) | (at_builtin; refine app_str _ wS wS.heap.size rfl _ _ rfl _ (kept ps k) rfl (ownsRow_below hown hb3) rfl (by omega) (hb.trans (hb3.mono hbs)) (Nat.le_trans hbs hb3.size) ?_; intro v' w4 hown4 hb4 hs4))
        go_roundw
        case rel =>
          refine ⟨k + 1, by omega, by go_num, ?_, hb4⟩
          rw [hkn.out]
          exact hown4
        case measure => simp [intOf]; omega
    · have hkw : Hid (kept ps k = Wd.words s) := by
        have : k = ps.length := by omega
        rw [this]; exact HK
      have hbw : Below w.heap.size w wr := hbS.trans (hb.mono (by have := HSZ.out; omega))
      obtain ⟨a, cp, rfl⟩ := slice_form hown
      by_cases h5 : 10 < (kept ps k).length
      · have h5' : decide (10 < ((kept ps k).length : Int)) = true := by simp; omega
        have hno : Hid (¬ Wd.right s) := fun hr => by have := hr.2.2; rw [← hkw.out] at this; omega
        go_wp2
        go_ret2
        exact ⟨hbw, .inr ⟨hno.out, _, rfl, World.ownsRow_nil _ _ _ _⟩⟩
      · have h5' : decide (10 < ((kept ps k).length : Int)) = false := by simp; omega
        have hyes : Hid (Wd.right s) := ⟨h, H.out, by rw [← hkw.out]; omega⟩
        go_wp2
        go_ret2
        refine ⟨hbw, .inl ⟨hyes.out, _, rfl, ?_⟩⟩
        rw [← hkw.out]
        exact ownsRow_mono hown (by have := HSZ.out; omega)

theorem implParts_any (s : ByteArray) (m : Int) (w : World) (ws : s.size ≤ 1048576) (hm : w.cell? ⟨1, 0, none⟩ = some (.int .i64 m)) : Calls Tryd.prog 8 #[.string s] w (PartsLeft s w) := by
  by_cases h : s.size ≤ 600
  · by_cases hp : Wd.plain s s.size
    · exact implParts_plain s m w h hp hm
    · exact implParts_odd s w h hp
  · exact implParts_long s w ws (by omega)
theorem specParts_any (s : ByteArray) (w : World) (ws : s.size ≤ 1048576) : Calls Tryd.prog 7 #[.string s] w (PartsLeft s w) := by
  by_cases h : s.size ≤ 600
  · exact specParts_in s w h
  · exact specParts_long s w ws (by omega)
end Go.Proofs.YtpkgnpckolhjgahDoor
