/- The program's ValText. -/
import Derived.Test.YtbenmgokhklnjaaValT0
import Derived.Test.YtbenmgokhklnjaaValI0
import Derived.Test.YtbenmgokhklnjaaValL
import Derived.Test.YtbenmgokhklnjaaAppText
import Derived.Test.YtbenmgokhklnjaaShortI
namespace Go.Proofs.Ytbenmgokhklnjaa
open Go.RowKit

set_option maxRecDepth 100000 in
set_option maxHeartbeats 1600000 in
theorem implValText_any (v : ValD) (ao : Option Addr) (cap : Nat) (w : World) (R : Bool) (hR : R = true ↔ ValR v) (hl : v.items.length ≤ 1048576) (ht : v.text.size ≤ maxLen) (hts : TextsAt w ao v.items) (hsz : ∀ s ∈ v.items, s.size ≤ maxLen) :
    Calls Try.prog 8 #[.agg #[.int .i64 v.kind, .int .i64 v.til, .string v.text, .slice ao v.items.length cap]] w fun e w' => e = .returned (.tuple #[.string (cond R (valT v) ⟨#[]⟩), .bool R]) ∧ Below w.heap.size w w' := by
  have HT := hide hts
  have HVO := hide (fun W (hW : Below w.heap.size w W) => implValOk_any v ao cap W R hR hl ht (textsAt_keep hts hW) hsz)
  have HRR := hide hR
  clear hts hsz hR
  cases R
  · obtain ⟨k, u, t, ts⟩ := v
    simp only at hl ht HT HVO ⊢
    have b0 : Hid (Below w.heap.size w (w.alloc (.cells #[.int .i64 k, .int .i64 u, .string t, .slice ao ts.length cap] 26))) := (Below.refl _ w).alloc (Nat.le_refl _) _
    go_enter Try.func8, Try.ntmps8
    go_wp2_with fail
    refine (HVO.out _ b0.out).mono ?_
    rintro e w1 ⟨rfl, b1⟩
    go_wp2
    go_ret2
    exact ⟨rfl, b0.out.trans (b1.mono b0.out.size)⟩
  · obtain ⟨hk1, hk4, hu0, hu1, htx, hn24, hsm⟩ := valR_bounds (HRR.out.1 rfl)
    have HSM := hide hsm
    have HKB := hide (kind_byte hk1 hk4)
    have HV : Hid (valT v = ⟨((headV v).data.toList ++ textsL v.items).toArray⟩) := rfl
    obtain ⟨m, hm⟩ := Int.eq_ofNat_of_zero_le hu0
    have HH : Hid ((headV v).data.toList = [UInt8.ofNat v.kind.toNat] ++ (⟨(Wd.varF 5 m).toArray⟩ : ByteArray).data.toList ++ (shortB v.text).data.toList ++ (⟨(Wd.varF 5 v.items.length).toArray⟩ : ByteArray).data.toList) := by
      show _ = _
      rw [headV, hm]
      simp
    show Calls _ _ _ _ fun e w' => e = .returned (.tuple #[.string (valT v), .bool true]) ∧ Below w.heap.size w w'
    rw [HV.out]
    obtain ⟨HL, HHL⟩ : ∃ HL : List UInt8, Hid ((headV v).data.toList = HL) := ⟨_, hide rfl⟩
    have hHL : HL.length ≤ 100 := by rw [← HHL.out]; have h := headV_size v; have e : (headV v).data.toList.length = (headV v).size := rfl; omega
    rw [HHL.out] at HH ⊢
    obtain ⟨V, HVV⟩ : ∃ V : Nat → ByteArray, Hid (∀ n, V n = ⟨(Wd.varF 5 n).toArray⟩) := ⟨_, fun _ => rfl⟩
    obtain ⟨kb, hkb⟩ : ∃ kb, kb = UInt8.ofNat v.kind.toNat := ⟨_, rfl⟩
    rw [← hkb] at HH HKB
    rw [← HVV.out, ← HVV.out] at HH
    have CV : Hid (∀ (n : Nat) (W : World), n ≤ 1000000000 → Calls Try.prog 31 #[.int .i64 (n : Int)] W fun e w' => e = .returned (.tuple #[.string (V n), .bool true]) ∧ Below W.heap.size W w') := fun n W hn => by rw [HVV.out]; exact implVar_yes n W hn
    have CS : Hid (∀ (s : ByteArray) (W : World), s.size ≤ 20000 → Calls Try.prog 32 #[.string s] W fun e w' => e = .returned (.tuple #[.string (shortB s), .bool true]) ∧ Below W.heap.size W w') := fun s W hs => implShort_yes s W hs
    have hz1 : (V m).size ≤ 5 := by rw [HVV.out]; exact Wd.varF_length 5 m
    have hz2 : (V v.items.length).size ≤ 5 := by rw [HVV.out]; exact Wd.varF_length 5 _
    have hz3 := shortB_size v.text
    clear hkb HHL HV HRR hsm hu0
    obtain ⟨k, u, t, ts⟩ := v
    simp only at hl ht HT HVO HSM HH HKB hm hk1 hk4 hu1 htx hn24 hz1 hz2 hz3 ⊢
    subst hm
    have hwk : IntKind.u8.wrap k = k := by rw [IntKind.wrap_u8]; omega
    obtain ⟨wb, hwb⟩ : ∃ wb, wb = w.alloc (.cells #[.int .i64 k, .int .i64 (m : Int), .string t, .slice ao ts.length cap] 26) := ⟨_, rfl⟩
    have b0 : Hid (Below w.heap.size w wb) := by rw [hwb]; exact (Below.refl _ w).alloc (Nat.le_refl _) _
    have hbs : wb.heap.size = w.heap.size + 1 := by rw [hwb]; simp
    have HBS := hide hbs
    have P0 : Hid (wb.heap[w.heap.size]? = some (.cells #[.int .i64 k, .int .i64 (m : Int), .string t, .slice ao ts.length cap] 26 (0, 0))) := by rw [hwb]; exact heap_alloc_new _ _
    have KC : Hid (∀ X, Below (w.heap.size + 1) wb X → X.cell? ⟨w.heap.size, 0, none⟩ = some (.int .i64 k) ∧ X.cell? ⟨w.heap.size, 1, none⟩ = some (.int .i64 (m : Int)) ∧ X.cell? ⟨w.heap.size, 2, none⟩ = some (.string t) ∧ X.cell? ⟨w.heap.size, 3, none⟩ = some (.slice ao ts.length cap)) := fun X hX => val_cells (val_keep P0.out hX (by omega))
    clear hbs
    go_enter Try.func8, Try.ntmps8
    go_wp2_with fail
    rw [← hwb]
    clear hwb
    refine (HVO.out _ b0.out).mono ?_
    rintro e w1 ⟨rfl, b1⟩
    have B1 : Hid (Below (w.heap.size + 1) wb w1) := b1.mono (Nat.le_of_eq HBS.out.symm)
    clear b1
    obtain ⟨hc0, hc1, hc2, hc3⟩ := KC.out _ B1.out
    go_wp2_with fail
    refine (CV.out m _ (by omega)).mono ?_
    rintro e w2 ⟨rfl, b2⟩
    have B2 : Hid (Below (w.heap.size + 1) wb w2) := B1.out.trans (b2.mono (by have := B1.out.size; have := HBS.out; omega))
    clear b2 hc0 hc1 hc2 hc3
    obtain ⟨hc0, hc1, hc2, hc3⟩ := KC.out _ B2.out
    go_wp2_with fail
    refine (CS.out t _ (by omega)).mono ?_
    rintro e w3 ⟨rfl, b3⟩
    have B3 : Hid (Below (w.heap.size + 1) wb w3) := B2.out.trans (b3.mono (by have := B2.out.size; have := HBS.out; omega))
    clear b3 hc0 hc1 hc2 hc3
    obtain ⟨hc0, hc1, hc2, hc3⟩ := KC.out _ B3.out
    go_wp2_with fail
    refine (CV.out ts.length _ (by omega)).mono ?_
    rintro e w4 ⟨rfl, b4⟩
    have B4 : Hid (Below (w.heap.size + 1) wb w4) := B3.out.trans (b4.mono (by have := B3.out.size; have := HBS.out; omega))
    clear b4 hc0 hc1 hc2 hc3
    obtain ⟨hc0, hc1, hc2, hc3⟩ := KC.out _ B4.out
    have hs4 : w.heap.size + 1 ≤ w4.heap.size := by have := B4.out.size; have := HBS.out; omega
    have HO4 : Hid ((w4.alloc (.cells #[.int .u8 k] 5)).ownsRow (w.heap.size + 1) 5 1 (.slice (some ⟨w4.heap.size, 0, none⟩) 1 1) [kb].length ([kb].map bv)) := by
      have h := World.ownsRow_lit (e := 5) (size := 1) w4 #[.int .u8 k] 1 (Nat.le_refl _) (by unfold maxLen; omega) (by simp)
      have e : ([kb].map bv) = [Value.int .u8 k] := by rw [List.map_singleton, HKB.out]
      show World.ownsRow _ _ _ _ _ _ _
      rw [e]
      exact ownsRow_mono h hs4
    have HB4 : Hid (Below (w.heap.size + 1) wb (w4.alloc (.cells #[.int .u8 k] 5))) := B4.out.alloc hs4 _
    have HS4 : Hid (w.heap.size + 1 ≤ (w4.alloc (.cells #[.int .u8 k] 5)).heap.size) := by show _ ≤ _; simp; omega
    have l1 : [kb].length + (V m).size ≤ 70368744177664 := by simp; omega
    have l2 : ([kb] ++ (V m).data.toList).length + (shortB t).size ≤ 70368744177664 := by have e : (V m).data.toList.length = (V m).size := rfl; rw [List.length_append, e]; simp; omega
    have l3 : ([kb] ++ (V m).data.toList ++ (shortB t).data.toList).length + (V ts.length).size ≤ 70368744177664 := by have e : (V m).data.toList.length = (V m).size := rfl; have e2 : (shortB t).data.toList.length = (shortB t).size := rfl; rw [List.length_append, List.length_append, e, e2]; simp; omega
    have LL := hide (And.intro l1 (And.intro l2 l3))
    clear l1 l2 l3
    go_wp2_with (first | (at_builtin; refine app_text _ 22 9 5 Try.underlying22 Try.underlying9 Try.info5 wb (w.heap.size + 1) rfl _ _ rfl _ ([kb] ++ (V m).data.toList ++ (shortB t).data.toList) (V ts.length) rfl HO6.out rfl LL.out.2.2 HB6.out HS6.out ?_; intro v7 w7 ho7 hb7 hs7; rw [← HH.out] at ho7; have HO7 := hide ho7; have HB7 := hide hb7; obtain ⟨hd0, hd1, hd2, hd3⟩ := KC.out _ hb7; clear ho7 hb7 hs7) | (at_builtin; refine app_text _ 22 9 5 Try.underlying22 Try.underlying9 Try.info5 wb (w.heap.size + 1) rfl _ _ rfl _ ([kb] ++ (V m).data.toList) (shortB t) rfl HO5.out rfl LL.out.2.1 HB5.out HS5.out ?_; intro v6 w6 ho6 hb6 hs6; have HO6 := hide ho6; have HB6 := hide hb6; have HS6 := hide (Nat.le_trans HS5.out hs6); clear ho6 hb6 hs6) | (at_builtin; refine app_text _ 22 9 5 Try.underlying22 Try.underlying9 Try.info5 wb (w.heap.size + 1) rfl _ _ rfl _ [kb] (V m) rfl HO4.out rfl LL.out.1 HB4.out HS4.out ?_; intro v5 w5 ho5 hb5 hs5; have HO5 := hide ho5; have HB5 := hide hb5; have HS5 := hide (Nat.le_trans HS4.out hs5); clear ho5 hb5 hs5))
    clear HO4 HO5 HO6 HB4 HB5 HB6 HS4 HS5 HS6 LL B1 B2 B3 B4 hd0 hd1 hd2 hd3
    go_loopw [10, 51] (fun vo ii wr => ∃ (k : Nat), ii = .int .i64 k ∧ k ≤ ts.length ∧ Hid (wr.ownsRow (w.heap.size + 1) 5 1 vo (HL ++ textsL (ts.take k)).length ((HL ++ textsL (ts.take k)).map bv)) ∧ Hid (Below (w.heap.size + 1) wb wr)) (fun _ ii _ => ts.length - (intOf ii).toNat)
    case atStart =>
      refine ⟨0, rfl, Nat.zero_le _, ?_, HB7⟩
      rw [List.take_zero, textsL, List.append_nil]
      exact HO7
    case round =>
      obtain ⟨k, rfl, hk, HO, HB⟩ := hrel
      have hws : w.heap.size + 1 ≤ wr.heap.size := by have := HB.out.size; have := HBS.out; omega
      have W0 := hide (b0.out.trans (HB.out.mono (by omega)))
      by_cases hlt : k < ts.length
      · have hlt' : decide ((k : Int) < (ts.length : Int)) = true := by simp; omega
        obtain ⟨b, off, rfl, hbw, hc0⟩ := textsAt_keep HT.out W0.out k hlt
        have hsF := HSM.out ts[k] (List.getElem_mem hlt)
        have HTK := hide (textsL_take hlt)
        obtain ⟨F, HF⟩ : ∃ F, Hid (ts[k] = F) := ⟨_, hide rfl⟩
        rw [HF.out] at hc0 hsF HTK
        have hi0 : (0 : Int) ≤ (k : Int) := by omega
        have hi1 : (k : Int) < (ts.length : Int) := by omega
        have hzF := shortB_size F
        have hLn : (HL ++ textsL (ts.take k)).length ≤ 2000 := by
          have h := textsL_len (ts.take k) (fun s hs => HSM.out s (List.mem_of_mem_take hs))
          have h2 : (ts.take k).length ≤ 24 := by rw [List.length_take]; omega
          rw [List.length_append]
          omega
        obtain ⟨X, HX⟩ : ∃ X, Hid (HL ++ textsL (ts.take k) = X) := ⟨_, hide rfl⟩
        have HN : Hid (HL ++ textsL (ts.take (k + 1)) = X ++ (shortB F).data.toList) := by show _ = _; rw [HTK.out, ← List.append_assoc, HX.out]
        rw [HX.out] at HO hLn
        go_wp2_with fail
        refine (CS.out F _ (by omega)).mono ?_
        rintro e w8 ⟨rfl, b8⟩
        have HO8 := hide (ownsRow_below HO.out b8)
        have HB8 := hide (HB.out.trans (b8.mono hws))
        have hs8 : w.heap.size + 1 ≤ w8.heap.size := Nat.le_trans hws b8.size
        have hl8 : X.length + (shortB F).size ≤ 70368744177664 := by omega
        clear b8
        go_wp2_with (at_builtin; refine app_text _ 22 9 5 Try.underlying22 Try.underlying9 Try.info5 wb (w.heap.size + 1) rfl _ _ rfl _ X (shortB F) rfl HO8.out rfl hl8 HB8.out hs8 ?_; intro v9 w9 ho9 hb9 hs9; have HO9 := hide ho9; have HB9 := hide hb9; clear ho9 hb9 hs9)
        go_roundw
        case rel => exact ⟨k + 1, by go_num, by omega, by show World.ownsRow _ _ _ _ _ _ _; rw [HN.out]; exact HO9.out, HB9⟩
        case measure => simp [intOf]; omega
      · have hlt' : decide ((k : Int) < (ts.length : Int)) = false := by simp; omega
        have hke : k = ts.length := by omega
        subst hke
        have HO2 := HO.out
        rw [List.take_length] at HO2
        have hcv := conv_own (P := Try.prog) 22 5 9 Try.underlying22 Try.underlying5 Try.underlying9 wr (w.heap.size + 1) _ _ HO2
        clear HO2
        go_wp2
        go_ret2
        exact ⟨rfl, W0.out⟩
end Go.Proofs.Ytbenmgokhklnjaa
