/- Drawn requests: l11Buf, DrawParseRequest. -/
import Derived.Test.YtdefipahgpljeaaDoorDrawR2
import Derived.Test.YtdefipahgpljeaaDoorDrawSp
import Derived.Test.YtdefipahgpljeaaDoorReqT
import Derived.Deep.RegionLaw
import Derived.Deep.CutRange
namespace Go.Proofs.YtdefipahgpljeaaDoor
open Go.RowKit

theorem argsB_size : ∀ (ts : List ByteArray) (s : ByteArray), (∀ x ∈ ts, x.size ≤ 60) → (argsB s ts).size ≤ s.size + 67 * ts.length
  | [], s, _ => Nat.le_refl _
  | x :: r, s, h => by
    have h1 := argsB_size r (s ++ argB x) (fun y hy => h y (List.mem_cons_of_mem _ hy))
    have h2 := argB_size (h x List.mem_cons_self)
    rw [ByteArray.size_append] at h1
    simp only [argsB, List.length_cons]
    omega
theorem reqR_size {ts : List ByteArray} (h : ts.length ≤ 8) (hz : ∀ x ∈ ts, x.size ≤ 60) : (reqR ts).size ≤ 541 := by
  unfold reqR
  split
  · have h1 := argsB_size ts (headB ⟨#[42]⟩ ts.length) hz
    have h2 := headB_size (m := ⟨#[42]⟩) (n := ts.length) (by show 1 ≤ 1; omega) (by omega)
    unfold reqT
    omega
  · exact Nat.zero_le _
theorem stN_call {w0 w wr w' : World} {g : Nat} {ao : Option Addr} {len cap : Nat} (h : StN w0 w wr g ao len cap) (hc : CurAt w0 w' g ao len cap) (hg : wr.grownBy w' (some g)) : StN w0 w w' g ao len cap := ⟨hc, h.2.trans hg⟩
theorem stN_below {w0 w wr w' : World} {g : Nat} {ao : Option Addr} {len cap : Nat} (h : StN w0 w wr g ao len cap) (hb : Below wr.heap.size wr w') : StN w0 w w' g ao len cap := ⟨cur_keep h.1 hb (cur_lt h.1), grownBy_then h.2 (hb.mono h.2.size)⟩
theorem stO_from {w0 w wX wr : World} {g : Nat} {ao : Option Addr} {len cap : Nat} {v : Value} {acc : List ByteArray} (hN : StN w0 w wX g ao len cap) (hg : g < w.heap.size) (h : StO w0 wX wr g ao len cap v acc) : StO w0 w wr g ao len cap v acc :=
  ⟨h.1, hN.2.trans h.2.1, hg, ownsRow_mono h.2.2.2 hN.2.size⟩
theorem stO_cell {w0 w wr : World} {g : Nat} {ao : Option Addr} {len cap k c : Nat} {ts : List ByteArray} (h : StO w0 w wr g ao len cap (.slice (some ⟨k, 0, none⟩) ts.length c) ts) (j : Nat) (hj : j < ts.length) : wr.cell? ⟨k, j, none⟩ = some (.string ts[j]) := by
  rw [h.2.2.2.cellAt j (by omega), List.getElem?_map, List.getElem?_eq_getElem hj]
  rfl

set_option maxRecDepth 100000 in
set_option maxHeartbeats 6400000 in
theorem l11Buf_any (w0 w : World) (g : Nat) (ao : Option Addr) (len cap : Nat) (hlen : len ≤ 1048576) (hcode : Code w0 ao len) (hc : CurAt w0 w g ao len cap) :
    Calls Tryd.prog 22 #[.pointer (some ⟨g, 0, none⟩)] w fun e w' => ∃ T : ByteArray, e = .returned (.string T) ∧ T.size ≤ 40000 ∧ CurAt w0 w' g ao len cap ∧ w.grownBy w' (some g) := by
  have HPN := hide (fun W n C zs hC hzs hn0 hn hz (h : CurAt w0 W g ao len cap) => pickNew_any w0 W g ao len cap n C zs hC hzs hn0 hn hz hlen hcode h)
  have HPT := hide (fun W b n (zs : List ByteArray) (h : CurAt w0 W g ao len cap) hne h1 h2 h3 h4 => pickText_any w0 W g b ao len cap n zs hlen hcode h hne h1 h2 h3 h4)
  have HBE := hide (fun W (n : Int) (hn : n ≤ 4611686018427387904) (h : CurAt w0 W g ao len cap) => below_any w0 W g ao len cap n hlen hn hcode h)
  have HON := hide (fun W (n : Int) (hn : n ≤ 4611686018427387904) (h : CurAt w0 W g ao len cap) => once_any w0 W g ao len cap n hlen hn hcode h)
  have HAR := hide (fun W (h : CurAt w0 W g ao len cap) => l11Args_any w0 W g ao len cap hlen hcode h)
  have HSP := hide (fun W t (ht : t.size ≤ 9000) (h : CurAt w0 W g ao len cap) => spoilt_any w0 W g ao len cap t hlen ht hcode h)
  have hg := cur_lt hc
  have S0 : Hid (StN w0 w w g ao len cap) := ⟨hc, World.grownBy.refl _ _⟩
  clear hcode hc
  go_enter Tryd.func22, Tryd.ntmps22
  go_wp2_with fail
  go_loopw [3, 4] (fun vs ii wr => ∃ (k : Nat) (S : ByteArray), vs = .string S ∧ ii = .int .i64 (k : Int) ∧ k ≤ 3 ∧ S.size ≤ 700 * k ∧ Hid (StN w0 w wr g ao len cap)) (fun _ ii _ => 4 - (intOf ii).toNat)
  case atStart => exact ⟨0, ⟨#[]⟩, rfl, rfl, by omega, Nat.zero_le _, S0⟩
  case round =>
    clear S0
    obtain ⟨k, S, rfl, rfl, hk, hS, HN⟩ := hrel
    go_wp2_with fail
    refine (HBE.out _ 4 (by omega) HN.out.1).mono ?_
    rintro e w2 ⟨x, rfl, hx, -, c2, g2⟩
    have hx4 : x < 4 := by have := hx (by omega); omega
    have N2 := hide (stN_call HN.out c2 g2)
    clear c2 g2 hx HN
    by_cases hlt : k < x
    · have hlt' : decide ((k : Int) < (x : Int)) = true := by simp; omega
      go_wp2_with fail
      refine (HAR.out _ N2.out.1).mono ?_
      rintro e w3 ⟨ka, ca, ts, rfl, htl, htz, hst⟩
      have HTZ := hide htz
      have S3 := hide (stO_from N2.out hg hst)
      clear hst htz N2
      have hts3 : Hid (TextsAt w3 (some ⟨ka, 0, none⟩) ts) := fun j hj => ⟨ka, 0, rfl, by have := (S3.out.2.2.2.lt ka rfl).2; exact this, by rw [Nat.zero_add]; exact stO_cell S3.out j hj⟩
      have HRT := hide (specReqText_any ts (some ⟨ka, 0, none⟩) ca w3 (by omega) hts3.out (fun y hy => by have := HTZ.out y hy; omega))
      have hRz := reqR_size htl HTZ.out
      obtain ⟨RR, HRR⟩ : ∃ RR, Hid (reqR ts = RR) := ⟨_, rfl⟩
      obtain ⟨ok, HOK⟩ : ∃ ok, Hid (okTs ts = ok) := ⟨_, rfl⟩
      rw [HRR.out, HOK.out] at HRT
      rw [HRR.out] at hRz
      clear HRR HOK hts3
      go_wp2_with fail
      refine HRT.out.mono ?_
      rintro e w4 ⟨rfl, b4⟩
      have S4 := hide (stO_below S3.out b4)
      clear b4 S3 HRT
      go_wp2_with fail
      refine (HON.out _ 4 (by omega) S4.out.1).mono ?_
      rintro e w5 ⟨b, rfl, c5, g5⟩
      have S5 := hide (stO_call S4.out c5 g5)
      clear c5 g5 S4
      go_upto_if 23 with fail
      go_cut [6, 8] from 9 to 48 (fun vt _ wx => ∃ T : ByteArray, vt = .string T ∧ T.size ≤ 700 ∧ Hid (StN w0 w wx g ao len cap))
      case first =>
        cases b
        · go_wp2
          go_meet
          exact ⟨RR, rfl, by omega, S5.out.1, S5.out.2.1⟩
        · go_wp2_with fail
          go_loopw [6, 8] (fun vt ii wr => ∃ (j : Nat) (T : ByteArray), vt = .string T ∧ ii = .int .i64 (j : Int) ∧ j ≤ ts.length ∧ T.size ≤ 63 * j ∧ Hid (StO w0 w wr g ao len cap (.slice (some ⟨ka, 0, none⟩) ts.length ca) ts)) (fun _ ii _ => ts.length - (intOf ii).toNat)
          case atStart => exact ⟨0, ⟨#[]⟩, rfl, rfl, by omega, Nat.zero_le _, S5⟩
          case round =>
            obtain ⟨j, T, rfl, rfl, hj, hT, S6⟩ := hrel
            clear S5
            by_cases hjl : j < ts.length
            · have hjl' : decide ((j : Int) < (ts.length : Int)) = true := by simp; omega
              have hj0 : (0 : Int) ≤ (j : Int) := by omega
              have hj1 : (j : Int) < (ts.length : Int) := by omega
              have hy60 := HTZ.out ts[j] (List.getElem_mem hjl)
              have HCE : Hid (∀ W, StO w0 w W g ao len cap (.slice (some ⟨ka, 0, none⟩) ts.length ca) ts → W.cell? ⟨ka, j, none⟩ = some (.string ts[j])) := fun W h => stO_cell h j hjl
              generalize ts[j] = y at hy60 HCE
              obtain ⟨wq, hwq⟩ : ∃ wq, wq = wr.alloc (.cells #[.string ⟨#[]⟩, .string ⟨#[32]⟩, .string ⟨#[32, 32]⟩] 9) := ⟨_, rfl⟩
              have hbq : Below wr.heap.size wr wq := by rw [hwq]; exact (Below.refl _ wr).alloc (Nat.le_refl _) _
              have SQ := hide (stO_below S6.out hbq)
              have SA := hide (stO_below SQ.out (Below.refl _ wq).drew)
              have PQ : Hid (wq.drew.heap[wr.heap.size]? = some (.cells (([⟨#[]⟩, ⟨#[32]⟩, ⟨#[32, 32]⟩] : List ByteArray).map Value.string).toArray 9 (0, 0))) := by rw [hwq]; exact heap_alloc_new _ _
              have HPQ := hide (HPT.out wq.drew wr.heap.size 3 [⟨#[]⟩, ⟨#[32]⟩, ⟨#[32, 32]⟩] SA.out.1 (by have := cur_lt S6.out.1; omega) rfl (by omega) (by omega) (texts_cells _ PQ.out))
              have hcA := HCE.out _ SQ.out
              have hcW := HCE.out _ S6.out
              rw [hwq] at hcA HPQ
              have hc1 : (⟨#[32]⟩ : ByteArray).size = 1 := rfl
              have HZ3 : Hid (∀ z ∈ ([⟨#[]⟩, ⟨#[32]⟩, ⟨#[32, 32]⟩] : List ByteArray), z.size ≤ 2) := (by decide : ∀ z ∈ ([⟨#[]⟩, ⟨#[32]⟩, ⟨#[32, 32]⟩] : List ByteArray), z.size ≤ 2)
              clear hbq PQ
              go_wp2_with fail
              go_region_law ((first | (go_simp; go_at_call 28; refine HPQ.out.mono ?_; rintro e w7 ⟨z, rfl, hz0, c7, g7⟩; have hz := HZ3.out z hz0; rw [← hwq] at g7; have S7 := hide (stO_call SA.out c7 g7); have hc7 := HCE.out _ S7.out; have hk1 : ¬ (9223372036854775807 < T.size + z.size) := (by omega); have hk2 : ¬ (9223372036854775807 < T.size + z.size + y.size) := (by omega); have hk3 : ¬ (9223372036854775807 < T.size + z.size + y.size + 1) := (by omega); clear c7 g7 hz0) | fail))
              all_goals
                go_wp2
                go_roundw
                case rel => exact ⟨j + 1, _, rfl, by go_num, by omega, by rw [ByteArray.size_append, ByteArray.size_append, ByteArray.size_append]; omega, S7⟩
                case measure => simp [intOf]; omega
            · have hjl' : decide ((j : Int) < (ts.length : Int)) = false := by simp; omega
              go_wp2_with fail
              refine (HPN.out wr 2 _ [⟨#[10]⟩, ⟨#[13, 10]⟩] rfl rfl (by omega) (by omega) (by decide) S6.out.1).mono ?_
              rintro e w7 ⟨z, rfl, hz, c7, g7⟩
              have N7 : Hid (StN w0 w w7 g ao len cap) := ⟨c7, S6.out.2.1.trans g7⟩
              clear c7 g7
              go_wp2
              go_meet
              exact ⟨_, rfl, by rw [ByteArray.size_append]; omega, N7⟩
      case rest =>
      obtain ⟨T, rfl, hT, NC⟩ := hcut
      clear S5
      go_wp2
      go_roundw
      case rel => exact ⟨k + 1, _, rfl, by go_num, by omega, by rw [ByteArray.size_append]; omega, NC⟩
      case measure => simp [intOf]; omega
    · have hlt' : decide ((k : Int) < (x : Int)) = false := by simp; omega
      go_wp2_with fail
      refine (HBE.out _ 10 (by omega) N2.out.1).mono ?_
      rintro e w3 ⟨v, rfl, -, -, c3, g3⟩
      have N3 := hide (stN_call N2.out c3 g3)
      clear c3 g3 N2
      by_cases h0 : v = 0
      · have e0 : ((v : Int) == 0) = true := by simp; omega
        clear h0
        go_wp2_with fail
        refine (HSP.out _ S (by omega) N3.out.1).mono ?_
        rintro e w4 ⟨T, rfl, hT, c4, g4⟩
        have N4 := hide (stN_call N3.out c4 g4)
        clear c4 g4
        go_wp2
        go_ret
        exact ⟨T, rfl, by omega, N4.out.1, N4.out.2⟩
      have e0 : ((v : Int) == 0) = false := by simp; omega
      by_cases h1 : v = 1
      · have e1 : ((v : Int) == 1) = true := by simp; omega
        clear h0 h1
        go_wp2_with fail
        refine (HBE.out _ _ (by omega) N3.out.1).mono ?_
        rintro e w4 ⟨y, rfl, hy, -, c4, g4⟩
        have hyS : y ≤ S.size := by have := hy (by omega); omega
        have N4 := hide (stN_call N3.out c4 g4)
        obtain ⟨R, hRz, hcut⟩ := cutHd S y hyS
        clear c4 g4 hy
        go_wp2
        go_ret
        exact ⟨R, rfl, by omega, N4.out.1, N4.out.2⟩
      have e1 : ((v : Int) == 1) = false := by simp; omega
      by_cases h2 : v = 2
      · have e2 : ((v : Int) == 2) = true := by simp; omega
        clear h0 h1 h2
        go_wp2_with fail
        refine (HPN.out w3 11 _ [⟨#[42]⟩, ⟨#[42, 57, 13, 10]⟩, ⟨#[42, 48, 49, 13, 10]⟩, ⟨#[42, 49, 13, 10, 36, 54, 49, 13, 10]⟩, ⟨#[42, 49, 13, 10, 36, 49, 13, 10, 97, 98, 99]⟩, ⟨#[42, 49, 10]⟩, ⟨#[42, 48, 13, 10]⟩, ⟨#[10]⟩, ⟨#[42, 49, 13, 10, 36, 45, 49, 13, 10]⟩, ⟨#[42, 49, 13, 10, 58, 49, 13, 10]⟩, ⟨#[42, 49, 48, 48, 48, 13, 10]⟩] rfl rfl (by omega) (by omega) (by decide) N3.out.1).mono ?_
        rintro e w4 ⟨z, rfl, hz, c4, g4⟩
        have N4 := hide (stN_call N3.out c4 g4)
        clear c4 g4
        go_wp2
        go_ret
        exact ⟨_, rfl, by rw [ByteArray.size_append]; omega, N4.out.1, N4.out.2⟩
      have e2 : ((v : Int) == 2) = false := by simp; omega
      by_cases h3 : v = 3
      · have e3 : ((v : Int) == 3) = true := by simp; omega
        clear h0 h1 h2 h3
        go_wp2_with fail
        refine (HBE.out _ 2 (by omega) N3.out.1).mono ?_
        rintro e w4 ⟨y, rfl, hy, -, c4, g4⟩
        have hy2 : (y : Int) < 2 := hy (by omega)
        have N4 := hide (stN_call N3.out c4 g4)
        clear c4 g4 hy
        obtain ⟨yy, hyy⟩ : ∃ yy : Int, 80 + (y : Int) = yy := ⟨_, rfl⟩
        have HLO := hide (long_int yy 97 w4 (by omega) (by omega) (by omega) (by omega))
        have hyb : 0 ≤ yy ∧ yy ≤ 81 := by omega
        go_wp2_with fail
        refine HLO.out.mono ?_
        rintro e w5 ⟨T, rfl, hT, b5⟩
        have hTs : T.size ≤ 100 := by omega
        have N5 := hide (stN_below N4.out b5)
        clear b5 N4 hT HLO
        go_wp2_with fail
        refine (HPN.out w5 2 _ [⟨#[]⟩, ⟨#[10]⟩] rfl rfl (by omega) (by omega) (by decide) N5.out.1).mono ?_
        rintro e w6 ⟨z, rfl, hz, c6, g6⟩
        have N6 := hide (stN_call N5.out c6 g6)
        clear c6 g6
        go_wp2
        go_ret
        exact ⟨_, rfl, by rw [ByteArray.size_append, ByteArray.size_append]; omega, N6.out.1, N6.out.2⟩
      have e3 : ((v : Int) == 3) = false := by simp; omega
      clear h0 h1 h2 h3
      go_wp2
      go_ret
      exact ⟨S, rfl, by omega, N3.out.1, N3.out.2⟩

theorem drawParse_any (w : World) (ao : Option Addr) (len cap : Nat) (hlen : len ≤ 1048576) (hcode : Code w ao len) :
    Calls Tryd.prog 12 #[.slice ao len cap] w fun e w' => ∃ T : ByteArray, e = .returned (.string T) ∧ T.size ≤ 40000 ∧ Below w.heap.size w w' := by
  have HC := hide hcode
  have HNW := hide (new_any w ao len cap hlen hcode)
  clear hcode
  go_enter Tryd.func12, Tryd.ntmps12
  go_wp2_with fail
  refine HNW.out.mono ?_
  rintro e w1 ⟨g, rfl, c1⟩
  have C1 := hide c1
  clear c1 HNW
  go_wp2_with fail
  refine (l11Buf_any w _ g ao len cap hlen HC.out C1.out).mono ?_
  rintro e w2 ⟨T, rfl, hT, c2, -⟩
  have B2 := hide c2.1
  clear c2
  go_wp2
  go_ret
  exact ⟨T, rfl, hT, B2.out⟩
end Go.Proofs.YtdefipahgpljeaaDoor
