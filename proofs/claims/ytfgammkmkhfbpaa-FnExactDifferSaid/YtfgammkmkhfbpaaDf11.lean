import Derived.Laws.AppendOwnNone
import Derived.RangeFuncNested
import Derived.RangeFuncBound
import Derived.RangeFuncCalls
import Derived.RangeFuncLeaves
import Derived.Shelf.Abstract
import Derived.Shelf.RegionOpen
import Derived.WalkKit
import Derived.OwnWalkIn
import Derived.TacticsInMore
import Derived.LoopNIn
import Derived.LoopIn
import Derived.Shelf.Small.Bits
import Derived.Shelf.Strconv.Itoa0
import Derived.Shelf.Sort.Plain
import Derived.Shelf.Slices.CompactS
import Derived.Shelf.Slices.Cells
import Derived.Shelf.Slices.In.SortNone
import Derived.Test.YtfgammkmkhfbpaaProg
import Derived.Maps.AppendAt
import Derived.Maps.OwnIn
import Derived.Sort.OwnSorted
import Derived.Test.YtfgammkmkhfbpaaDf3
import Derived.Test.YtfgammkmkhfbpaaDf10
import Derived.Test.YtfgammkmkhfbpaaDf1
import Derived.Test.YtfgammkmkhfbpaaDf4
import Derived.Test.YtfgammkmkhfbpaaDf9
import Derived.Test.YtfgammkmkhfbpaaDf2
import Derived.Test.YtfgammkmkhfbpaaDf0
set_option maxRecDepth 100000
set_option maxHeartbeats 2000000
namespace Go.Proofs.Ytfgammkmkhfbpaa
open Go.RowKit
theorem implValText_any (v : ValD) (ao : Option Addr) (cap : Nat) (w : World) (R : Bool) (hR : R = true ↔ ValR v) (hl : v.items.length ≤ 1048576) (ht : v.text.size ≤ maxLen) (hts : TextsAt w ao v.items) (hsz : ∀ s ∈ v.items, s.size ≤ maxLen) :
    Calls Try.prog 42 #[.agg #[.int .i64 v.kind, .int .i64 v.til, .string v.text, .slice ao v.items.length cap]] w fun e w' => e = .returned (.tuple #[.string (cond R (valT v) ⟨#[]⟩), .bool R]) ∧ Below w.heap.size w w' := by
  have HT := hide hts
  have HVO := hide (fun W (hW : Below w.heap.size w W) => implValOk_any v ao cap W R hR hl ht (textsAt_keep hts hW) hsz)
  have HRR := hide hR
  clear hts hsz hR
  cases R
  · obtain ⟨k, u, t, ts⟩ := v
    simp only at hl ht HT HVO ⊢
    have b0 : Hid (Below w.heap.size w (w.alloc (.cells #[.int .i64 k, .int .i64 u, .string t, .slice ao ts.length cap] 40))) := (Below.refl _ w).alloc (Nat.le_refl _) _
    go_enter Try.func42, Try.ntmps42
    go_wp2_with fail
    refine (HVO.out _ b0.out).mono ?_
    rintro e w1 ⟨rfl, b1⟩
    go_wp2
    go_ret2
    exact ⟨rfl, b0.out.trans (b1.mono b0.out.size)⟩
  · obtain ⟨hk1, hk4, hu0, hu1, htx, hn24, hsm⟩ := valR_bounds (HRR.out.1 rfl)
    have HSM := hide hsm
    have HKB := hide (kind_byte hk1 hk4)
    have HV : Hid (valT v = ⟨((headV v).data.toList ++ textsL v.items).toArray⟩) := rfl
    obtain ⟨m, hm⟩ := Int.eq_ofNat_of_zero_le hu0
    have HH : Hid ((headV v).data.toList = [UInt8.ofNat v.kind.toNat] ++ (⟨(Wd.varF 5 m).toArray⟩ : ByteArray).data.toList ++ (shortB v.text).data.toList ++ (⟨(Wd.varF 5 v.items.length).toArray⟩ : ByteArray).data.toList) := by
      show _ = _
      rw [headV, hm]
      simp
    show Calls _ _ _ _ fun e w' => e = .returned (.tuple #[.string (valT v), .bool true]) ∧ Below w.heap.size w w'
    rw [HV.out]
    obtain ⟨HL, HHL⟩ : ∃ HL : List UInt8, Hid ((headV v).data.toList = HL) := ⟨_, hide rfl⟩
    have hHL : HL.length ≤ 100 := by rw [← HHL.out]; have h := headV_size v; have e : (headV v).data.toList.length = (headV v).size := rfl; omega
    rw [HHL.out] at HH ⊢
    obtain ⟨V, HVV⟩ : ∃ V : Nat → ByteArray, Hid (∀ n, V n = ⟨(Wd.varF 5 n).toArray⟩) := ⟨_, fun _ => rfl⟩
    obtain ⟨kb, hkb⟩ : ∃ kb, kb = UInt8.ofNat v.kind.toNat := ⟨_, rfl⟩
    rw [← hkb] at HH HKB
    rw [← HVV.out, ← HVV.out] at HH
    have CV : Hid (∀ (n : Nat) (W : World), n ≤ 1000000000 → Calls Try.prog 54 #[.int .i64 (n : Int)] W fun e w' => e = .returned (.tuple #[.string (V n), .bool true]) ∧ Below W.heap.size W w') := fun n W hn => by rw [HVV.out]; exact implVar_yes n W hn
    have CS : Hid (∀ (s : ByteArray) (W : World), s.size ≤ 20000 → Calls Try.prog 55 #[.string s] W fun e w' => e = .returned (.tuple #[.string (shortB s), .bool true]) ∧ Below W.heap.size W w') := fun s W hs => implShort_yes s W hs
    have hz1 : (V m).size ≤ 5 := by rw [HVV.out]; exact Wd.varF_length 5 m
    have hz2 : (V v.items.length).size ≤ 5 := by rw [HVV.out]; exact Wd.varF_length 5 _
    have hz3 := shortB_size v.text
    clear hkb HHL HV HRR hsm hu0
    obtain ⟨k, u, t, ts⟩ := v
    simp only at hl ht HT HVO HSM HH HKB hm hk1 hk4 hu1 htx hn24 hz1 hz2 hz3 ⊢
    subst hm
    have hwk : IntKind.u8.wrap k = k := by rw [IntKind.wrap_u8]; omega
    obtain ⟨wb, hwb⟩ : ∃ wb, wb = w.alloc (.cells #[.int .i64 k, .int .i64 (m : Int), .string t, .slice ao ts.length cap] 40) := ⟨_, rfl⟩
    have b0 : Hid (Below w.heap.size w wb) := by rw [hwb]; exact (Below.refl _ w).alloc (Nat.le_refl _) _
    have hbs : wb.heap.size = w.heap.size + 1 := by rw [hwb]; simp
    have HBS := hide hbs
    have P0 : Hid (wb.heap[w.heap.size]? = some (.cells #[.int .i64 k, .int .i64 (m : Int), .string t, .slice ao ts.length cap] 40 (0, 0))) := by rw [hwb]; exact heap_alloc_new _ _
    have KC : Hid (∀ X, Below (w.heap.size + 1) wb X → X.cell? ⟨w.heap.size, 0, none⟩ = some (.int .i64 k) ∧ X.cell? ⟨w.heap.size, 1, none⟩ = some (.int .i64 (m : Int)) ∧ X.cell? ⟨w.heap.size, 2, none⟩ = some (.string t) ∧ X.cell? ⟨w.heap.size, 3, none⟩ = some (.slice ao ts.length cap)) := fun X hX => val_cells (val_keep P0.out hX (by omega))
    clear hbs
    go_enter Try.func42, Try.ntmps42
    go_wp2_with fail
    rw [← hwb]
    clear hwb
    refine (HVO.out _ b0.out).mono ?_
    rintro e w1 ⟨rfl, b1⟩
    have B1 : Hid (Below (w.heap.size + 1) wb w1) := b1.mono (Nat.le_of_eq HBS.out.symm)
    clear b1
    obtain ⟨hc0, hc1, hc2, hc3⟩ := KC.out _ B1.out
    go_wp2_with fail
    refine (CV.out m _ (by omega)).mono ?_
    rintro e w2 ⟨rfl, b2⟩
    have B2 : Hid (Below (w.heap.size + 1) wb w2) := B1.out.trans (b2.mono (by have := B1.out.size; have := HBS.out; omega))
    clear b2 hc0 hc1 hc2 hc3
    obtain ⟨hc0, hc1, hc2, hc3⟩ := KC.out _ B2.out
    go_wp2_with fail
    refine (CS.out t _ (by omega)).mono ?_
    rintro e w3 ⟨rfl, b3⟩
    have B3 : Hid (Below (w.heap.size + 1) wb w3) := B2.out.trans (b3.mono (by have := B2.out.size; have := HBS.out; omega))
    clear b3 hc0 hc1 hc2 hc3
    obtain ⟨hc0, hc1, hc2, hc3⟩ := KC.out _ B3.out
    go_wp2_with fail
    refine (CV.out ts.length _ (by omega)).mono ?_
    rintro e w4 ⟨rfl, b4⟩
    have B4 : Hid (Below (w.heap.size + 1) wb w4) := B3.out.trans (b4.mono (by have := B3.out.size; have := HBS.out; omega))
    clear b4 hc0 hc1 hc2 hc3
    obtain ⟨hc0, hc1, hc2, hc3⟩ := KC.out _ B4.out
    have hs4 : w.heap.size + 1 ≤ w4.heap.size := by have := B4.out.size; have := HBS.out; omega
    have HO4 : Hid ((w4.alloc (.cells #[.int .u8 k] 5)).ownsRow (w.heap.size + 1) 5 1 (.slice (some ⟨w4.heap.size, 0, none⟩) 1 1) [kb].length ([kb].map bv)) := by
      have h := World.ownsRow_lit (e := 5) (size := 1) w4 #[.int .u8 k] 1 (Nat.le_refl _) (by unfold maxLen; omega) (by simp)
      have e : ([kb].map bv) = [Value.int .u8 k] := by rw [List.map_singleton, HKB.out]
      show World.ownsRow _ _ _ _ _ _ _
      rw [e]
      exact ownsRow_mono h hs4
    have HB4 : Hid (Below (w.heap.size + 1) wb (w4.alloc (.cells #[.int .u8 k] 5))) := B4.out.alloc hs4 _
    have HS4 : Hid (w.heap.size + 1 ≤ (w4.alloc (.cells #[.int .u8 k] 5)).heap.size) := by show _ ≤ _; simp; omega
    have l1 : [kb].length + (V m).size ≤ 70368744177664 := by simp; omega
    have l2 : ([kb] ++ (V m).data.toList).length + (shortB t).size ≤ 70368744177664 := by have e : (V m).data.toList.length = (V m).size := rfl; rw [List.length_append, e]; simp; omega
    have l3 : ([kb] ++ (V m).data.toList ++ (shortB t).data.toList).length + (V ts.length).size ≤ 70368744177664 := by have e : (V m).data.toList.length = (V m).size := rfl; have e2 : (shortB t).data.toList.length = (shortB t).size := rfl; rw [List.length_append, List.length_append, e, e2]; simp; omega
    have LL := hide (And.intro l1 (And.intro l2 l3))
    clear l1 l2 l3
    go_wp2_with (first | (at_builtin; refine app_text _ 64 9 5 Try.underlying64 Try.underlying9 Try.info5 wb (w.heap.size + 1) rfl _ _ rfl _ ([kb] ++ (V m).data.toList ++ (shortB t).data.toList) (V ts.length) rfl HO6.out rfl LL.out.2.2 HB6.out HS6.out ?_; intro v7 w7 ho7 hb7 hs7; rw [← HH.out] at ho7; have HO7 := hide ho7; have HB7 := hide hb7; obtain ⟨hd0, hd1, hd2, hd3⟩ := KC.out _ hb7; clear ho7 hb7 hs7) | (at_builtin; refine app_text _ 64 9 5 Try.underlying64 Try.underlying9 Try.info5 wb (w.heap.size + 1) rfl _ _ rfl _ ([kb] ++ (V m).data.toList) (shortB t) rfl HO5.out rfl LL.out.2.1 HB5.out HS5.out ?_; intro v6 w6 ho6 hb6 hs6; have HO6 := hide ho6; have HB6 := hide hb6; have HS6 := hide (Nat.le_trans HS5.out hs6); clear ho6 hb6 hs6) | (at_builtin; refine app_text _ 64 9 5 Try.underlying64 Try.underlying9 Try.info5 wb (w.heap.size + 1) rfl _ _ rfl _ [kb] (V m) rfl HO4.out rfl LL.out.1 HB4.out HS4.out ?_; intro v5 w5 ho5 hb5 hs5; have HO5 := hide ho5; have HB5 := hide hb5; have HS5 := hide (Nat.le_trans HS4.out hs5); clear ho5 hb5 hs5))
    clear HO4 HO5 HO6 HB4 HB5 HB6 HS4 HS5 HS6 LL B1 B2 B3 B4 hd0 hd1 hd2 hd3
    go_loopw [10, 51] (fun vo ii wr => ∃ (k : Nat), ii = .int .i64 k ∧ k ≤ ts.length ∧ Hid (wr.ownsRow (w.heap.size + 1) 5 1 vo (HL ++ textsL (ts.take k)).length ((HL ++ textsL (ts.take k)).map bv)) ∧ Hid (Below (w.heap.size + 1) wb wr)) (fun _ ii _ => ts.length - (intOf ii).toNat)
    case atStart =>
      refine ⟨0, rfl, Nat.zero_le _, ?_, HB7⟩
      rw [List.take_zero, textsL, List.append_nil]
      exact HO7
    case round =>
      obtain ⟨k, rfl, hk, HO, HB⟩ := hrel
      have hws : w.heap.size + 1 ≤ wr.heap.size := by have := HB.out.size; have := HBS.out; omega
      have W0 := hide (b0.out.trans (HB.out.mono (by omega)))
      by_cases hlt : k < ts.length
      · have hlt' : decide ((k : Int) < (ts.length : Int)) = true := by simp; omega
        obtain ⟨b, off, rfl, hbw, hc0⟩ := textsAt_keep HT.out W0.out k hlt
        have hsF := HSM.out ts[k] (List.getElem_mem hlt)
        have HTK := hide (textsL_take hlt)
        obtain ⟨F, HF⟩ : ∃ F, Hid (ts[k] = F) := ⟨_, hide rfl⟩
        rw [HF.out] at hc0 hsF HTK
        have hi0 : (0 : Int) ≤ (k : Int) := by omega
        have hi1 : (k : Int) < (ts.length : Int) := by omega
        have hzF := shortB_size F
        have hLn : (HL ++ textsL (ts.take k)).length ≤ 2000 := by
          have h := textsL_len (ts.take k) (fun s hs => HSM.out s (List.mem_of_mem_take hs))
          have h2 : (ts.take k).length ≤ 24 := by rw [List.length_take]; omega
          rw [List.length_append]
          omega
        obtain ⟨X, HX⟩ : ∃ X, Hid (HL ++ textsL (ts.take k) = X) := ⟨_, hide rfl⟩
        have HN : Hid (HL ++ textsL (ts.take (k + 1)) = X ++ (shortB F).data.toList) := by show _ = _; rw [HTK.out, ← List.append_assoc, HX.out]
        rw [HX.out] at HO hLn
        go_wp2_with fail
        refine (CS.out F _ (by omega)).mono ?_
        rintro e w8 ⟨rfl, b8⟩
        have HO8 := hide (ownsRow_below HO.out b8)
        have HB8 := hide (HB.out.trans (b8.mono hws))
        have hs8 : w.heap.size + 1 ≤ w8.heap.size := Nat.le_trans hws b8.size
        have hl8 : X.length + (shortB F).size ≤ 70368744177664 := by omega
        clear b8
        go_wp2_with (at_builtin; refine app_text _ 64 9 5 Try.underlying64 Try.underlying9 Try.info5 wb (w.heap.size + 1) rfl _ _ rfl _ X (shortB F) rfl HO8.out rfl hl8 HB8.out hs8 ?_; intro v9 w9 ho9 hb9 hs9; have HO9 := hide ho9; have HB9 := hide hb9; clear ho9 hb9 hs9)
        go_roundw
        case rel => exact ⟨k + 1, by go_num, by omega, by show World.ownsRow _ _ _ _ _ _ _; rw [HN.out]; exact HO9.out, HB9⟩
        case measure => simp [intOf]; omega
      · have hlt' : decide ((k : Int) < (ts.length : Int)) = false := by simp; omega
        have hke : k = ts.length := by omega
        subst hke
        have HO2 := HO.out
        rw [List.take_length] at HO2
        have hcv := conv_own (P := Try.prog) 64 5 9 Try.underlying64 Try.underlying5 Try.underlying9 wr (w.heap.size + 1) _ _ HO2
        clear HO2
        go_wp2
        go_ret2
        exact ⟨rfl, W0.out⟩
theorem ent_cellsI {w : World} {ao : Option Addr} {es : List EntD} (h : EntriesAt w ao es) (j : Nat) (hj : j < es.length) : ∃ b off a c, ao = some ⟨b, off, none⟩ ∧ ∀ X, Below w.heap.size w X → X.cell? ⟨b, off + j * 5, none⟩ = some (.string es[j].key) ∧ X.cell? ⟨b, off + j * 5 + 1, none⟩ = some (.int .i64 es[j].val.kind) ∧ X.cell? ⟨b, off + j * 5 + 2, none⟩ = some (.int .i64 es[j].val.til) ∧ X.cell? ⟨b, off + j * 5 + 3, none⟩ = some (.string es[j].val.text) ∧ X.cell? ⟨b, off + j * 5 + 4, none⟩ = some (.slice a es[j].val.items.length c) := by
  obtain ⟨b, off, h1, h2, h3, h4, h5, h6, a, c, h7, h8⟩ := h j hj
  exact ⟨b, off, a, c, h1, fun X hX => ⟨(hX.cell (p := ⟨b, off + j * 5, none⟩) h2).trans h3, (hX.cell (p := ⟨b, off + j * 5 + 1, none⟩) h2).trans h4, (hX.cell (p := ⟨b, off + j * 5 + 2, none⟩) h2).trans h5, (hX.cell (p := ⟨b, off + j * 5 + 3, none⟩) h2).trans h6, (hX.cell (p := ⟨b, off + j * 5 + 4, none⟩) h2).trans h7⟩⟩
theorem keysOfD_any (es : List EntD) (ao : Option Addr) (cap : Nat) (w : World) (hl : es.length ≤ 1048576) (hes : EntriesAt w ao es) :
    Calls Try.prog 21 #[.slice ao es.length cap] w fun e w' => ∃ v, e = .returned v ∧ w'.ownsRow w.heap.size 9 1 v (es.map EntD.key).length ((es.map EntD.key).map Value.string) ∧ (es = [] → v = .slice none 0 0) ∧ Below w.heap.size w w' := by
  have HE := hide hes
  clear hes
  go_enter Try.func21, Try.ntmps21
  go_wp2
  go_loopw [3, 8] (fun vv ii wr => ∃ (k : Nat) (acc : List ByteArray) (aa : Option Addr) (cc : Nat), vv = .slice aa acc.length cc ∧ ii = .int .i64 (k : Int) ∧ k ≤ es.length ∧ acc.length ≤ k ∧ Hid (k = 0 → aa = none ∧ acc.length = 0 ∧ cc = 0) ∧ Hid (acc = (es.take k).map EntD.key) ∧ Hid (wr.ownsRow w.heap.size 9 1 (.slice aa acc.length cc) acc.length (acc.map Value.string)) ∧ Hid (Below w.heap.size w wr)) (fun _ ii _ => es.length - (intOf ii).toNat)
  case atStart => exact ⟨0, [], none, 0, rfl, rfl, by omega, by simp, fun _ => ⟨rfl, rfl, rfl⟩, rfl, World.ownsRow_nil _ _ _ _, Below.refl _ _⟩
  case round =>
    obtain ⟨k, acc, aa, cc, rfl, rfl, hk, hal, HZ, HA, HO, HB⟩ := hrel
    have zr := HB.out.size
    by_cases hlt : k < es.length
    · have hlt' : decide ((k : Int) < (es.length : Int)) = true := by simp; omega
      have hi0 : (0 : Int) ≤ (k : Int) := by omega
      have hi1 : (k : Int) < (es.length : Int) := by omega
      obtain ⟨b, off, a1, c1, rfl, KC⟩ := ent_cellsI (entriesAt_keep HE.out HB.out) k hlt
      have HN : Hid (acc ++ [es[k].key] = (es.take (k + 1)).map EntD.key) := by show _ = _; rw [List.take_succ_eq_append_getElem hlt, List.map_append, ← HA.out]; rfl
      generalize es[k] = x at KC HN
      obtain ⟨p0, p1, p2, p3, p4⟩ := KC wr (Below.refl _ _)
      obtain ⟨wq, hwq⟩ : ∃ wq, wq = wr.alloc (.cells #[.string x.key, .int .i64 x.val.kind, .int .i64 x.val.til, .string x.val.text, .slice a1 x.val.items.length c1] 42) := ⟨_, rfl⟩
      have BQ : Hid (Below wr.heap.size wr wq) := by rw [hwq]; exact (Below.refl _ wr).alloc (Nat.le_refl _) _
      have OQ := hide (ownsRow_below HO.out BQ.out)
      have zq := BQ.out.size
      have q0 : wq.cell? ⟨wr.heap.size, 0, none⟩ = some (.string x.key) := by rw [hwq]; rw [cell_of_row _ wr.heap.size 0 _ _ (0, 0) (heap_alloc_new wr _)]; rfl
      clear KC
      go_upto_region 5 with fail
      rw [← hwq]
      clear hwq p0 p1 p2 p3 p4
      go_wp2_with (at_builtin; refine app_txt _ w.heap.size (by rfl) _ _ (by rfl) _ acc x.key (by rfl) (OQ.out.alloc _) wq.heap.size (by simp [Act.eval]) (heap_alloc_new wq _) (by omega) (by simp; omega) ?_; intro g9 cap9 w9 ho9 hb9 hgr9 hg9 hgl9; have O9 := hide ho9; have B9 := hide (((HB.out.trans (BQ.out.mono zr)).alloc (by omega) _).trans hb9); clear ho9 hb9 hgr9 hg9 hgl9)
      go_roundw
      case rel => exact ⟨k + 1, acc ++ [x.key], some ⟨g9, 0, none⟩, cap9, by simp, by go_num, by omega, by simp; omega, fun h => absurd h (by omega), HN, by rw [List.length_append]; rw [List.length_append] at O9; exact O9, B9⟩
      case measure => simp [intOf]; omega
    · have hlt' : decide ((k : Int) < (es.length : Int)) = false := by simp; omega
      have HF : Hid (acc = es.map EntD.key) := by show _ = _; rw [HA.out, List.take_of_length_le (by omega)]
      have hO := HO.out
      go_wp2
      go_ret
      refine ⟨_, rfl, ?_, fun h => ?_, HB.out⟩
      · rw [← HF.out]
        exact hO
      · have hl0 : es.length = 0 := by rw [h]; rfl
        obtain ⟨e1, e2, e3⟩ := HZ.out (by omega)
        show Value.slice aa acc.length cc = _
        rw [e1, e2, e3]
theorem findE_mem : ∀ (es : List EntD) (key : ByteArray) (v : ValD), findE es key = some v → ∃ e ∈ es, e.val = v
  | [], _, _, h => by cases h
  | x :: r, key, v, h => by
    simp only [findE] at h
    split at h
    · exact ⟨x, List.mem_cons_self, Option.some.inj h⟩
    · obtain ⟨e, he, hv⟩ := findE_mem r key v h
      exact ⟨e, List.mem_cons_of_mem _ he, hv⟩
def undT (es : List EntD) (key : ByteArray) : ByteArray := match findE es key with
  | none => ⟨#[]⟩
  | some v => valT v
theorem textUnder_any (es : List EntD) (key : ByteArray) (ao : Option Addr) (cap : Nat) (w : World) (hT : TabR es) (hes : EntriesAt w ao es) (hsz : ∀ e ∈ es, EntS 1048576 e) :
    Calls Try.prog 23 #[.slice ao es.length cap, .string key] w fun e w' => e = .returned (.tuple #[.string (undT es key), .bool (findB es key)]) ∧ Below w.heap.size w w' := by
  have HF := hide (implFind_any es key ao cap w (by have := hT.1; omega) hes hsz)
  have HV : Hid (∀ v, findE es key = some v → ValR v) := fun v hv => by
    obtain ⟨e, he, rfl⟩ := findE_mem es key v hv
    exact (tab_all hT e he).2
  clear hes hsz hT
  cases hF : findE es key with
  | none =>
    have e1 : findB es key = false := by unfold findB; rw [hF]; rfl
    have e2 : undT es key = ⟨#[]⟩ := by unfold undT; rw [hF]
    rw [e1] at HF ⊢
    rw [e2]
    generalize findV es key = v at HF
    go_enter Try.func23, Try.ntmps23
    go_wp2_with fail
    refine HF.out.mono ?_
    rintro e w1 ⟨⟨a, c, rfl, r1⟩, b1⟩
    have B1 := hide b1
    clear r1 b1
    go_wp2
    go_ret2
    exact ⟨rfl, B1.out.alloc B1.out.size _⟩
  | some v =>
    have hv := HV.out v hF
    have e1 : findB es key = true := by unfold findB; rw [hF]; rfl
    have e2 : undT es key = valT v := by unfold undT; rw [hF]
    have e3 : findV es key = v := by unfold findV; rw [hF]; rfl
    rw [e1, e3] at HF
    rw [e1, e2]
    obtain ⟨-, -, -, -, v5, v6, v7⟩ := valR_bounds hv
    have HVT := hide (fun W a c (h : TextsAt W a v.items) => implValText_any v a c W true ⟨fun _ => hv, fun _ => rfl⟩ (by omega) (by unfold maxLen; omega) h (fun s hs => by have := v7 s hs; unfold maxLen; omega))
    obtain ⟨T, HT⟩ : ∃ T, Hid (valT v = T) := ⟨_, hide rfl⟩
    rw [HT.out]
    have HVT2 : Hid (∀ W a c, TextsAt W a v.items → Calls Try.prog 42 #[.agg #[.int .i64 v.kind, .int .i64 v.til, .string v.text, .slice a v.items.length c]] W fun e w' => e = .returned (.tuple #[.string T, .bool true]) ∧ Below W.heap.size W w') := fun W a c h => by
      have h1 := HVT.out W a c h
      rw [show (cond true (valT v) ⟨#[]⟩ : ByteArray) = T from HT.out] at h1
      exact h1
    clear HVT hv HV v5 v6 v7 hF e1 e2 e3
    go_enter Try.func23, Try.ntmps23
    go_wp2_with fail
    refine HF.out.mono ?_
    rintro e w1 ⟨⟨a, c, rfl, r1⟩, b1⟩
    obtain ⟨wq, hwq⟩ : ∃ wq, wq = w1.alloc (.cells #[.int .i64 v.kind, .int .i64 v.til, .string v.text, .slice a v.items.length c] 40) := ⟨_, rfl⟩
    have bq : Below w1.heap.size w1 wq := by rw [hwq]; exact (Below.refl _ w1).alloc (Nat.le_refl _) _
    have TX := hide (textsAt_keep (rowText_rows r1) bq)
    have BQ := hide (b1.trans (bq.mono b1.size))
    clear r1 b1 bq
    go_wp2_with fail
    rw [← hwq]
    clear hwq
    refine (HVT2.out _ _ _ TX.out).mono ?_
    rintro e w2 ⟨rfl, b2⟩
    go_wp2
    go_ret2
    exact ⟨rfl, BQ.out.trans (b2.mono BQ.out.size)⟩
end Go.Proofs.Ytfgammkmkhfbpaa
namespace Go.Proofs.Ytfgammkmkhfbpaa
open Go.RowKit Go.Shelf
attribute [local go_sem] Oper.semAt_some
theorem values1_in (w0 : World) (ts : List ByteArray) (ao : Option Addr) (cap : Nat) (hl : ts.length ≤ 1048576) (hts : TextsAt w0 ao ts) (n l Bn : Nat) (hn : 1 ≤ n) (hBn : Bn < w0.heap.size) (hbx : Boxed w0 Bn 34 (.slice ao ts.length cap)) (J Jx : List ByteArray → World → Prop)
    (hY : ∀ pre x W, J pre W → pre.length < ts.length + 1 → YieldAt Fence.wide (n - 1) Try.prog l #[.string x] W fun e W' =>
      (e = .returned (.bool true) ∧ J (pre ++ [x]) W' ∧ Below w0.heap.size W W') ∨ (e = .returned (.bool false) ∧ Jx (pre ++ [x]) W'))
    (W : World) (hb0 : Below w0.heap.size w0 W) (h0 : J [] W) :
    CallsIn Fence.wide n Try.prog 40 #[.func (.yield l) #[] #[], .pointer (some ⟨Bn, 0, none⟩)] W fun e W' => (∃ v, e = .returned v) ∧
      ((∃ ys, ys = ts ∧ J ys W') ∨ (∃ pre, True ∧ Jx pre W')) := by
  have HY := hide hY
  have HT := hide hts
  have HB0 := hide hb0
  have hc : W.cell? ⟨Bn, 0, none⟩ = some (.slice ao ts.length cap) := (hb0.cell (p := ⟨Bn, 0, none⟩) hBn).trans hbx.cell
  clear hY hts hb0 hbx
  refine callsIn_of_wp Try.func40 rfl trivial ?_ rfl
  simp only [Try.ntmps40, List.size_toArray, List.length_cons, List.length_nil, Nat.reduceAdd, Nat.reduceSub, Array.replicate_succ, Array.replicate_zero, List.push_toArray, List.append_toArray, List.nil_append, List.cons_append]
  gi_wp2
  gi_loopw [7] (fun a wr => ∃ (k : Nat), a = .int .i64 (k : Int) ∧ k ≤ ts.length ∧ Hid (J (ts.take k) wr) ∧ Hid (Below w0.heap.size w0 wr)) (fun a _ => ts.length - (intOf a).toNat)
  case atStart => exact ⟨0, rfl, Nat.zero_le _, h0, HB0⟩
  case round =>
    obtain ⟨k, rfl, hk, HJ, HB⟩ := hrel
    by_cases hlt : k < ts.length
    · have hlt' : decide ((k : Int) < (ts.length : Int)) = true := by simp; omega
      have hi0 : (0 : Int) ≤ (k : Int) := by omega
      have hi1 : (k : Int) < (ts.length : Int) := by omega
      obtain ⟨b, off, rfl, hbw, hce⟩ := HT.out k hlt
      have hce2 : wr.cell? ⟨b, off + k, none⟩ = some (.string ts[k]) := (HB.out.cell (p := ⟨b, off + k, none⟩) hbw).trans hce
      have hlen : (ts.take k).length < ts.length + 1 := by rw [List.length_take]; omega
      obtain ⟨x, hx⟩ : ∃ x, Hid (ts[k] = x) := ⟨ts[k], hide rfl⟩
      rw [hx.out] at hce2
      have HN : Hid (ts.take (k + 1) = ts.take k ++ [x]) := by show _ = _; rw [List.take_succ_eq_append_getElem hlt, hx.out]
      obtain ⟨fn, tmps, assign, body, hy, hR⟩ := HY.out (ts.take k) x wr HJ.out hlen
      clear hce
      gi_wp2
      refine hR.mono ?_
      rintro e W3 (⟨rfl, hJ3, hk3⟩ | ⟨rfl, hJx3⟩)
      · gi_wp2
        go_roundw
        case rel => exact ⟨k + 1, by go_num, by omega, by rw [HN.out]; exact hJ3, HB.out.trans hk3⟩
        case measure => simp [intOf]; omega
      · gi_wp2
        refine bodyPost_ret (results_none rfl _ _ _) rfl ?_
        exact ⟨⟨_, rfl⟩, .inr ⟨_, trivial, hJx3⟩⟩
    · have hlt' : decide ((k : Int) < (ts.length : Int)) = false := by simp; omega
      have hke : k = ts.length := by omega
      subst hke
      have hJ2 := HJ.out
      rw [List.take_length] at hJ2
      have HJ2 := hide hJ2
      clear hJ2
      gi_wp2
      refine bodyPost_end (results_none rfl _ _ _) rfl ?_
      exact ⟨⟨_, rfl⟩, .inl ⟨ts, rfl, HJ2.out⟩⟩
theorem values_any (v : Value) (w : World) (ao : Option Addr) (n cap : Nat) (hv : v = .slice ao n cap) :
    Calls Try.prog 20 #[v] w fun e w' => e = .returned (.func (.func 40) #[] #[.pointer (some ⟨w.heap.size, 0, none⟩)]) ∧ w' = w.alloc (.cells #[v] 34) := by
  subst hv
  go_enter Try.func20, Try.ntmps20
  go_wp2
  go_ret
  exact ⟨rfl, rfl⟩
theorem values_stops (w0 : World) (ts : List ByteArray) (ao : Option Addr) (cap : Nat) (hl : ts.length ≤ 1048576) (hts : TextsAt w0 ao ts) (n Bn : Nat) (hn : 1 ≤ n) (hBn : Bn < w0.heap.size) (hbx : Boxed w0 Bn 34 (.slice ao ts.length cap)) (w : World) (hw : Below w0.heap.size w0 w) :
    SeqStopsK Fence.wide n Try.prog 40 #[.pointer (some ⟨Bn, 0, none⟩)] (fun x : ByteArray => #[Value.string x]) (fun W W' => Below w0.heap.size W W') (fun ys => ys = ts) (fun _ => True) (ts.length + 1) w := fun l J Jx W hW _ _ hY h0 =>
  values1_in w0 ts ao cap hl hts n l Bn hn hBn hbx J Jx hY W (hw.trans (hW.mono hw.size)) h0
end Go.Proofs.Ytfgammkmkhfbpaa
namespace Go.Proofs
open Go.Shelf
def Try.lays190_ren : Go.Shelf.Ren := ⟨fun | 190 => 39 | 125 => 52 | 258 => 51 | 128 => 68 | 129 => 69 | 302 => 59 | 303 => 60 | 304 => 61 | 305 => 62 | 306 => 63 | 307 => 64 | 308 => 65 | 309 => 66 | 310 => 67 | 333 => 70 | 329 => 71 | 330 => 72 | 334 => 73 | 335 => 74 | 336 => 75 | 344 => 76 | n => n, fun | 31 => 34 | 9 => 9 | 3 => 3 | 46 => 80 | 0 => 0 | 51 => 99 | 53 => 101 | 4 => 4 | 183 => 91 | 182 => 90 | 131 => 96 | 5 => 5 | 218 => 103 | 222 => 107 | 228 => 109 | 229 => 110 | n => n, fun | n => n⟩
theorem Try.lays190 : Go.Proofs.Lays.n190 Try.prog Try.lays190_ren := {
  mixed := by kernel_rfl
  f125 := Try.func52.trans (congrArg some (by kernel_rfl))
  f128 := Try.func68.trans (congrArg some (by kernel_rfl))
  f129 := Try.func69.trans (congrArg some (by kernel_rfl))
  f190 := Try.func39.trans (congrArg some (by kernel_rfl))
  f258 := Try.func51.trans (congrArg some (by kernel_rfl))
  f302 := Try.func59.trans (congrArg some (by kernel_rfl))
  f303 := Try.func60.trans (congrArg some (by kernel_rfl))
  f304 := Try.func61.trans (congrArg some (by kernel_rfl))
  f305 := Try.func62.trans (congrArg some (by kernel_rfl))
  f306 := Try.func63.trans (congrArg some (by kernel_rfl))
  f307 := Try.func64.trans (congrArg some (by kernel_rfl))
  f308 := Try.func65.trans (congrArg some (by kernel_rfl))
  f309 := Try.func66.trans (congrArg some (by kernel_rfl))
  f310 := Try.func67.trans (congrArg some (by kernel_rfl))
  f329 := Try.func71.trans (congrArg some (by kernel_rfl))
  f330 := Try.func72.trans (congrArg some (by kernel_rfl))
  f333 := Try.func70.trans (congrArg some (by kernel_rfl))
  f334 := Try.func73.trans (congrArg some (by kernel_rfl))
  f335 := Try.func74.trans (congrArg some (by kernel_rfl))
  f336 := Try.func75.trans (congrArg some (by kernel_rfl))
  f344 := Try.func76.trans (congrArg some (by kernel_rfl))
  t0 := Try.underlying0
  a0 := Try.isAgg0
  z0 := Try.sizeOf0
  v0 := Try.zeroValue0
  t3 := Try.underlying3
  a3 := Try.isAgg3
  z3 := Try.sizeOf3
  v3 := Try.zeroValue3
  t4 := Try.underlying4
  a4 := Try.isAgg4
  z4 := Try.sizeOf4
  v4 := Try.zeroValue4
  t5 := Try.underlying5
  a5 := Try.isAgg5
  z5 := Try.sizeOf5
  v5 := Try.zeroValue5
  t9 := Try.underlying9
  a9 := Try.isAgg9
  z9 := Try.sizeOf9
  v9 := Try.zeroValue9
  t31 := Try.underlying34
  a31 := Try.isAgg34
  z31 := Try.sizeOf34
  v31 := Try.zeroValue34
  t46 := Try.underlying80
  a46 := Try.isAgg80
  z46 := Try.sizeOf80
  v46 := Try.zeroValue80
  t51 := Try.underlying99
  a51 := Try.isAgg99
  z51 := Try.sizeOf99
  v51 := Try.zeroValue99
  t53 := Try.underlying101
  a53 := Try.isAgg101
  z53 := Try.sizeOf101
  v53 := Try.zeroValue101
  t131 := Try.underlying96
  a131 := Try.isAgg96
  z131 := Try.sizeOf96
  v131 := Try.zeroValue96
  t182 := Try.underlying90
  a182 := Try.isAgg90
  z182 := Try.sizeOf90
  v182 := Try.zeroValue90
  t183 := Try.underlying91
  a183 := Try.isAgg91
  z183 := Try.sizeOf91
  v183 := Try.zeroValue91
  t218 := Try.underlying103
  a218 := Try.isAgg103
  z218 := Try.sizeOf103
  v218 := Try.zeroValue103
  t222 := Try.underlying107
  a222 := Try.isAgg107
  z222 := Try.sizeOf107
  v222 := Try.zeroValue107
  t228 := Try.underlying109
  a228 := Try.isAgg109
  z228 := Try.sizeOf109
  v228 := Try.zeroValue109
  t229 := Try.underlying110
  a229 := Try.isAgg110
  z229 := Try.sizeOf110
  v229 := Try.zeroValue110 }
open Go.Sort Go.RowKit in
theorem Try.slices_Sort_string (blk off cap : Nat) (ss : List (List UInt8)) (w : World) (hH : Holds encStr w blk off ss.toArray) (hblk : blk < w.heap.size) (hsz : ss.length < 4611686018427387904) :
    Calls Try.prog 39 #[.slice (some ⟨blk, off, none⟩) ss.length cap] w fun e w' =>
      e = .returned (.tuple #[]) ∧ ∃ n os, w' = grow (putRow encStr (Sort.ahead w n) blk off (ss.mergeSort fun x y => decide (x ≤ y)).toArray) os := Any.slices_Sort_string Try.lays190 blk off cap ss w hH hblk hsz
def Try.lays194_ren : Go.Shelf.Ren := ⟨fun | 194 => 22 | n => n, fun | 31 => 34 | 9 => 9 | 3 => 3 | 4 => 4 | 0 => 0 | n => n, fun | n => n⟩
theorem Try.lays194 : Go.Proofs.Lays.n194 Try.prog Try.lays194_ren := {
  mixed := by kernel_rfl
  f194 := Try.func22.trans (congrArg some (by kernel_rfl))
  t0 := Try.underlying0
  a0 := Try.isAgg0
  z0 := Try.sizeOf0
  v0 := Try.zeroValue0
  t3 := Try.underlying3
  a3 := Try.isAgg3
  z3 := Try.sizeOf3
  v3 := Try.zeroValue3
  t4 := Try.underlying4
  a4 := Try.isAgg4
  z4 := Try.sizeOf4
  v4 := Try.zeroValue4
  t9 := Try.underlying9
  a9 := Try.isAgg9
  z9 := Try.sizeOf9
  v9 := Try.zeroValue9
  t31 := Try.underlying34
  a31 := Try.isAgg34
  z31 := Try.sizeOf34
  v31 := Try.zeroValue34 }
open Go.RowKit Go.Lib Go.Sort in
theorem Try.slices_Compact_string (blk off cap : Nat) (zs : List (List UInt8)) (w : World) (hH : Holds encStr w blk off zs.toArray) (hsz : zs.length ≤ 9223372036854775807) (hcap : zs.length ≤ cap) :
    Calls Try.prog 22 #[.slice (some ⟨blk, off, none⟩) zs.length cap] w fun e w' => e = .returned (.slice (some ⟨blk, off, none⟩) (Lib.compact zs).length cap) ∧ ∃ q, w' = putRow encStr (Sort.ahead w q) blk off (Lib.compact zs ++ List.replicate (zs.length - (Lib.compact zs).length) []).toArray := Any.slices_Compact_string Try.lays194 blk off cap zs w hH hsz hcap
open Go.RowKit Go.Lib Go.Sort in
theorem Try.slices_Compact_string_empty (a : Option Addr) (cap : Nat) (w : World) :
    Calls Try.prog 22 #[.slice a 0 cap] w fun e w' => e = .returned (.slice a 0 cap) ∧ w' = w := Any.slices_Compact_string_empty Try.lays194 a cap w
open Go.RowKit Go.Sort in
theorem Try.slices_Sort_string_none (p : Option Addr) (cap : Nat) (w : World) :
    Calls Try.prog 39 #[.slice p 0 cap] w fun e w' => e = .returned (.tuple #[]) ∧ w' = w := Any.slices_Sort_string_none Try.lays190 p cap w
end Go.Proofs
namespace Go.Proofs.Ytfgammkmkhfbpaa
open Go.RowKit Go.Shelf Go.Sort
attribute [local go_sem] Oper.semAt_some
theorem wpListIn_append_run {F : Fence} {nF : Nat} {P : Program} {W : World} {ops : Array Oper} {rest : List Oper} {o : Oper} {a : Act} {Q : Exit → Act → World → Prop} (hgd : o.guard = none) (s x : Operand) (t : TypeId)
    (ho : o.op = .call { callee := .builtin .append, args := #[s, x], argTypes := #[t, t] }) (v : Value) (hs : a.eval s = v) (u : Value) (hx : a.eval x = u) (v' : Value) (w' : World)
    (hrun : (Builtin.append_ #[t, t] o.type #[v, u]).run P W = .ok v' w') (h : wpListIn F nF P ops Q rest (a.put o.dst v') w') : wpListIn F nF P ops Q (o :: rest) a W := by
  refine wpListIn_plain hgd fun K hK => ?_
  unfold Oper.wpIn
  refine ⟨by simp [Oper.about, ho, resolve, Target.leads, Sem.run_pure], ?_⟩
  rw [Oper.semAt_plain F _ _ (by rw [ho]; intro c hc'; cases hc')]
  simp [execOp, ho, resolve, invoke, builtin, hs, hx, hrun, Result.andThen]
  exact hK _ _ h
theorem roundV_facts {w W : World} {v : Value} {L : List ByteArray} {R : ByteArray} (hv : Boxed W w.heap.size 34 v) (hrow : W.ownsRow w.heap.size 9 1 v L.length (L.map Value.string))
    (hsz : w.heap.size + 1 ≤ W.heap.size) (hlen : L.length ≤ 2000000) :
    W.cell? ⟨w.heap.size, 0, none⟩ = some v ∧
    ∃ g cap w2, (Builtin.append_ #[34, 34] 34 #[v, .slice (some ⟨W.heap.size, 0, none⟩) 1 1]).run Try.prog (W.alloc (.cells #[.string R] 9)) = .ok (.slice (some ⟨g, 0, none⟩) (L.length + 1) cap) w2 ∧
      w2.cell? ⟨w.heap.size, 0, none⟩ = some v ∧ w2.frozen? ⟨w.heap.size, 0, none⟩ = false ∧
      Hid (∀ W4, W4 = w2.setCell ⟨w.heap.size, 0, none⟩ (.slice (some ⟨g, 0, none⟩) (L.length + 1) cap) →
        KeepsOthers W W4 ∧ Below w.heap.size W W4 ∧ W.heap.size ≤ W4.heap.size ∧
        Boxed W4 w.heap.size 34 (.slice (some ⟨g, 0, none⟩) (L.length + 1) cap) ∧
        W4.ownsRow w.heap.size 9 1 (.slice (some ⟨g, 0, none⟩) (L.length + 1) cap) (L ++ [R]).length ((L ++ [R]).map Value.string)) := by
  obtain ⟨i0, hi, hz0, hz1, hz2⟩ := info_parts Try.infoText
  refine ⟨hv.cell, ?_⟩
  obtain ⟨v', w2, hrun, hown', hgrow, _, hblk⟩ := run_append_own_at (P := Try.prog) (W.alloc (.cells #[.string R] 9)) w.heap.size 34 34 9 i0 (.string ⟨#[]⟩) 1 16 Try.underlying34 hi hz0 hz1 hz2 rfl (by decide) v L.length (L.map Value.string) (hrow.alloc _)
    ⟨W.heap.size, 0, none⟩ 1 1 [.string R] rfl (cell_one_new _ _ _) (by simp [Value.oneCell']) (by unfold maxLen; omega) (by omega) (by simp; omega)
  obtain ⟨g, cap, rfl⟩ := ownsRow_succ hown'
  obtain ⟨hv2, hv3, hr3, hk3, hb3⟩ := hv.appended (by decide) hrow (by omega) (Nat.le_refl _) hown' hgrow
  refine ⟨g, cap, w2, hrun, hv2.cell, hv2.frozen, ?_⟩
  rintro W4 rfl
  refine ⟨hk3, hb3, hk3.size, hv3, ?_⟩
  rw [List.map_append, List.length_append]
  exact hr3
theorem appendSeq_any (ts : List ByteArray) (ao : Option Addr) (cap Bn : Nat) (w : World) (hl : ts.length ≤ 1048576) (hts : TextsAt w ao ts) (hBn : Bn < w.heap.size) (hbx : Boxed w Bn 34 (.slice ao ts.length cap)) :
    Calls Try.prog 50 #[.slice none 0 0, .func (.func 40) #[] #[.pointer (some ⟨Bn, 0, none⟩)]] w fun e w' => ∃ v, e = .returned v ∧ w'.ownsRow w.heap.size 9 1 v ts.length (ts.map Value.string) ∧ Below w.heap.size w w' := by
  refine (callsIn_wide (n := 3)).1 ?_
  refine callsIn_of_wp_marks Try.func50 rfl trivial ?_ rfl
  simp only [Try.ntmps50, List.size_toArray, List.length_cons, List.length_nil, Nat.reduceAdd, Nat.reduceSub, Array.replicate_succ, Array.replicate_zero, List.push_toArray, List.append_toArray, List.nil_append, List.cons_append]
  gi_wp2
  have bR := Boxed.new w 34 (.slice none 0 0)
  obtain ⟨W0, hW0⟩ : ∃ W0, w.alloc (.cells #[.slice none 0 0] 34) = W0 := ⟨_, rfl⟩
  have hB0 : Below w.heap.size w W0 := by rw [← hW0]; exact (Below.refl _ w).alloc (Nat.le_refl _) _
  have hz0 : W0.heap.size = w.heap.size + 1 := by rw [← hW0]; simp
  rw [hW0] at bR ⊢
  clear hW0
  refine wpIn_rangeFunc_ownF rfl (by omega) (gf := 40) (lb := #[.pointer (some ⟨Bn, 0, none⟩)]) rfl trivial (enters_of Try.func40 (by kernel_rfl) rfl)
    (values_stops w ts ao cap hl hts 2 Bn (by omega) hBn hbx W0 hB0) (fun h k => h.trans k) (belowK_b (by omega)) (Below.refl _ _) (fun _ => rfl)
    (fun (pre : List ByteArray) W => (∃ v, Boxed W w.heap.size 34 v ∧ W.ownsRow w.heap.size 9 1 v pre.length (pre.map Value.string) ∧ True) ∧ (Below w.heap.size w W ∧ w.heap.size + 1 ≤ W.heap.size))
    (fun _ _ _ => False)
    (OwnFrom.and (Own.from (holdsRow_own w.heap.size w.heap.size 34 9 1 (fun pre : List ByteArray => pre.length) (fun pre => pre.map Value.string) (fun _ _ => True)) _) (OwnFrom.and (ownFrom_below (Nat.le_refl _) (by omega)) (fun _ _ _ _ h hg _ => Nat.le_trans h hg.size)))
    (fun _ _ _ _ _ hs _ _ => hs)
    ⟨⟨_, bR, World.ownsRow_nil _ _ _ _, trivial⟩, hB0, by omega⟩
    (fun x => { tmps := #[.slice none 0 0, .func (.func 40) #[] #[.pointer (some ⟨Bn, 0, none⟩)], .pointer (some ⟨w.heap.size, 0, none⟩), undef, .slice none 0 0, .string x, .func (.func 40) #[] #[.pointer (some ⟨Bn, 0, none⟩)], .string x, undef, undef, undef, undef, undef], defers := [] }) ?assign ?body ?done ?stop
  case assign =>
    intro l x W K hK
    gi_wp2
    exact hK
  case body =>
    rintro l pre x W ⟨⟨v, hv, hrow, -⟩, hB, hsz⟩ hlt
    obtain ⟨hc1, g, cap2, w2, hrun, hc3, hf3, hfin⟩ := roundV_facts (R := x) hv hrow hsz (by omega)
    gi_wp2_with (gi_at_builtin; refine wpListIn_append_run rfl _ _ 34 rfl _ rfl _ rfl _ _ hrun ?_)
    obtain ⟨k1, k2, k3, k4, k5⟩ := hfin.out _ rfl
    exact ⟨k1, k2, ⟨_, k4, k5, trivial⟩, hB.trans k2, by omega⟩
  case done =>
    rintro D ys W hD rfl ⟨⟨v, hv, hrow, -⟩, hB, hsz⟩ hK
    have hc := hv.cell
    gi_wp2
    refine ⟨by simp, .inl ⟨_, _, rfl, run_takeDeferred hK, ?_⟩⟩
    refine ⟨_, results_tmp rfl _ _ _, v, rfl, ?_, ?_⟩
    · exact ownsRow_putObj hrow _ hK rfl
    · exact hB.trans (belowK_b (w := w) (Nat.le_refl _) W D _ _ (by omega) hK rfl rfl)
  case stop =>
    rintro D c pre W _ _ h _
    exact h.elim
theorem collect_any (ts : List ByteArray) (ao : Option Addr) (cap Bn : Nat) (w : World) (hl : ts.length ≤ 1048576) (hts : TextsAt w ao ts) (hBn : Bn < w.heap.size) (hbx : Boxed w Bn 34 (.slice ao ts.length cap)) :
    Calls Try.prog 38 #[.func (.func 40) #[] #[.pointer (some ⟨Bn, 0, none⟩)]] w fun e w' => ∃ v, e = .returned v ∧ w'.ownsRow w.heap.size 9 1 v ts.length (ts.map Value.string) ∧ Below w.heap.size w w' := by
  have HA := hide (appendSeq_any ts ao cap Bn w hl hts hBn hbx)
  clear hts hbx
  go_enter Try.func38, Try.ntmps38
  go_wp2_with fail
  refine HA.out.mono ?_
  rintro e w1 ⟨v, rfl, h1, h2⟩
  have H1 := hide h1
  have H2 := hide h2
  clear h1 h2
  go_wp2
  go_ret
  exact ⟨v, rfl, H1.out, H2.out⟩
def srtK (ts : List ByteArray) : List (List UInt8) := (ts.map (·.data.toList)).mergeSort (fun x y => decide (x ≤ y))
theorem encS (ts : List ByteArray) : ts.map Value.string = (ts.map (·.data.toList)).map encStr := by
  rw [List.map_map]
  apply List.map_congr_left
  intro x _
  cases x
  simp [encStr]
open Go.Sort in
theorem sorted_any (ts : List ByteArray) (ao : Option Addr) (cap Bn : Nat) (w : World) (hl : ts.length ≤ 1048576) (hts : TextsAt w ao ts) (hBn : Bn < w.heap.size) (hbx : Boxed w Bn 34 (.slice ao ts.length cap)) :
    Calls Try.prog 19 #[.func (.func 40) #[] #[.pointer (some ⟨Bn, 0, none⟩)]] w fun e w' => ∃ v, e = .returned v ∧ w'.ownsRow w.heap.size 9 1 v ts.length ((srtK ts).map encStr) ∧ Below w.heap.size w w' := by
  have HA := hide (collect_any ts ao cap Bn w hl hts hBn hbx)
  clear hts hbx
  go_enter Try.func19, Try.ntmps19
  go_wp2_with fail
  refine HA.out.mono ?_
  rintro e w1 ⟨v, rfl, h1, h2⟩
  have H2 := hide h2
  have z1 := h2.size
  clear h2
  rw [encS] at h1
  rcases h1.2 with ⟨rfl, hz⟩ | ⟨gb, cap1, cur, rfl, hbase, hgb, r1, r2, r3, r4⟩
  · have hss : ts = [] := List.eq_nil_of_length_eq_zero hz
    subst hss
    have HS := hide (Try.slices_Sort_string_none none 0 w1)
    have e0 : srtK [] = [] := by simp [srtK]
    have H1 : Hid (w1.ownsRow w.heap.size 9 1 (.slice none 0 0) ([] : List ByteArray).length ((srtK []).map encStr)) := by rw [e0]; exact h1
    clear h1
    go_wp2_with fail
    refine HS.out.mono ?_
    rintro e w2 ⟨rfl, e2⟩
    obtain rfl := e2.symm
    go_wp2
    go_ret
    exact ⟨_, rfl, H1.out, H2.out⟩
  · have hH : Holds encStr w1 gb 0 (ts.map (·.data.toList)).toArray := holds_of_block hgb (by simpa using r4)
    have hgl : gb < w1.heap.size := (Array.getElem?_eq_some_iff.1 hgb).1
    have cS := Try.slices_Sort_string gb 0 cap1 (ts.map (·.data.toList)) w1 hH hgl (by rw [List.length_map]; omega)
    rw [List.length_map] at cS
    have HS := hide cS
    have HG := hide hgb
    have HR : Hid (∀ nn os, World.ownsRow (grow (putRow encStr (Sort.ahead w1 nn) gb 0 (srtK ts).toArray) os) w.heap.size 9 1 (.slice (some ⟨gb, 0, none⟩) ts.length cap1) ts.length ((srtK ts).map encStr)) := fun nn os => by
      have h := ownsRow_sorted (n := nn) (os := os) (ss := ts.map (·.data.toList)) (ts := srtK ts) (by unfold srtK; exact List.length_mergeSort _) hbase hgb (by rw [List.length_map]; exact r1) r2 r3
      rw [List.length_map] at h
      exact h
    clear cS hH h1 r4 hgb
    go_wp2_with fail
    refine HS.out.mono ?_
    rintro e w2 ⟨rfl, nn, os, rfl⟩
    have H3 : Hid (Below w.heap.size w (grow (putRow encStr (Sort.ahead w1 nn) gb 0 (srtK ts).toArray) os)) := H2.out.grown (grownBy_sorted _) z1 (fun j hj => by cases hj; exact hbase)
    go_wp2
    go_ret
    exact ⟨_, rfl, HR.out nn os, H3.out⟩
end Go.Proofs.Ytfgammkmkhfbpaa
