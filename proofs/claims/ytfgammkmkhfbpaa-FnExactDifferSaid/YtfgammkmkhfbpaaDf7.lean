import Derived.Deep.RegionHeld3
import Derived.Deep.CutRange
import Derived.Deep.RegionLaw
import Derived.Test.YtfgammkmkhfbpaaDf3
import Derived.Test.YtfgammkmkhfbpaaDf5
import Derived.Test.YtfgammkmkhfbpaaDf1
set_option maxRecDepth 100000
set_option maxHeartbeats 3200000
namespace Go.Proofs.Ytfgammkmkhfbpaa
open Go.RowKit
theorem blk_new {X w2 : World} {C : Array Value} {t : TypeId} (b2 : Below (X.alloc (.cells C t)).heap.size (X.alloc (.cells C t)) w2) : w2.heap[X.heap.size]? = some (.cells C t (0, 0)) := (b2.block X.heap.size (by simp)).trans (heap_alloc_new X _)
theorem blk_on {X w2 : World} {g : Nat} {o : Obj} (h : X.heap[g]? = some o) (b2 : Below X.heap.size X w2) : w2.heap[g]? = some o := (b2.block g (obj_lt h)).trans h
theorem conv_oneV {k : Int} {b : UInt8} (hb : bv b = .int .u8 k) {W : World} {g : Nat} (h : W.heap[g]? = some (.cells #[.int .u8 k] 5 (0, 0))) : (convert 64 9 (.slice (some ⟨g, 0, none⟩) 1 1)).run Try.prog W = .ok (.string ⟨#[b]⟩) W := by
  refine run_convert_bytes_back (P := Try.prog) _ 64 9 5 ⟨g, 0, none⟩ 1 [b] Try.underlying64 Try.underlying5 Try.underlying9 ?_
  intro j hj
  have : j = 0 := by simp at hj; omega
  subst this
  refine (cell_of_row W g 0 _ _ (0, 0) h).trans ?_
  have hb' : Value.int .u8 (b.toNat : Int) = .int .u8 k := hb
  simp [← hb']
theorem specValText_any (v : ValD) (ao : Option Addr) (cap : Nat) (w : World) (R : Bool) (hR : R = true ↔ ValR v) (hl : v.items.length ≤ 1048576) (ht : v.text.size ≤ maxLen) (hts : TextsAt w ao v.items) (hsz : ∀ s ∈ v.items, s.size ≤ maxLen) :
    Calls Try.prog 15 #[.agg #[.int .i64 v.kind, .int .i64 v.til, .string v.text, .slice ao v.items.length cap]] w fun e w' => e = .returned (.tuple #[.string (cond R (valT v) ⟨#[]⟩), .bool R]) ∧ Below w.heap.size w w' := by
  have HT := hide hts
  have HVO := hide (fun W (hW : Below w.heap.size w W) => specValOk_any v ao cap W R hR hl ht (textsAt_keep hts hW) hsz)
  have HRR := hide hR
  clear hts hsz hR
  cases R
  · obtain ⟨k, u, t, ts⟩ := v
    simp only at hl ht HT HVO ⊢
    have b0 : Hid (Below w.heap.size w (w.alloc (.cells #[.int .i64 k, .int .i64 u, .string t, .slice ao ts.length cap] 40))) := (Below.refl _ w).alloc (Nat.le_refl _) _
    go_enter Try.func15, Try.ntmps15
    go_wp2_with fail
    refine (HVO.out _ b0.out).mono ?_
    rintro e w1 ⟨rfl, b1⟩
    go_wp2
    go_ret2
    exact ⟨rfl, b0.out.trans (b1.mono b0.out.size)⟩
  · obtain ⟨hk1, hk4, hu0, hu1, htx, hn24, hsm⟩ := valR_bounds (HRR.out.1 rfl)
    have HSM := hide hsm
    have HKB := hide (kind_byte hk1 hk4)
    obtain ⟨m, hm⟩ := Int.eq_ofNat_of_zero_le hu0
    obtain ⟨V, HVV⟩ : ∃ V : Nat → ByteArray, Hid (∀ n, V n = ⟨(Wd.varF 5 n).toArray⟩) := ⟨_, fun _ => rfl⟩
    obtain ⟨G, HG⟩ : ∃ G : ByteArray → ByteArray, Hid (∀ s, G s = shortB s) := ⟨_, fun _ => rfl⟩
    obtain ⟨kb, hkb⟩ : ∃ kb, kb = UInt8.ofNat v.kind.toNat := ⟨_, rfl⟩
    have HH : Hid (headV v = ⟨#[kb]⟩ ++ V m ++ G v.text ++ V v.items.length) := by
      show _ = _
      rw [headV, hm, hkb, HVV.out, HVV.out, HG.out]
      rfl
    rw [← hkb] at HKB
    have HV : Hid (valT v = ⟨((headV v).data.toList ++ textsL v.items).toArray⟩) := rfl
    show Calls _ _ _ _ fun e w' => e = .returned (.tuple #[.string (valT v), .bool true]) ∧ Below w.heap.size w w'
    rw [HV.out]
    obtain ⟨HL, HHL⟩ : ∃ HL : ByteArray, Hid (headV v = HL) := ⟨_, hide rfl⟩
    have hHL : HL.size ≤ 100 := by rw [← HHL.out]; have h := headV_size v; omega
    rw [HHL.out] at HH ⊢
    have CV : Hid (∀ (n : Nat) (W : World), n < 34359738368 → Calls Try.prog 32 #[.int .i64 (n : Int)] W fun e w' => e = .returned (.string (V n)) ∧ Below W.heap.size W w') := fun n W hn => by rw [HVV.out]; exact l01Var_any n W hn
    have CS : Hid (∀ (s : ByteArray) (W : World), s.size ≤ 1048576 → Calls Try.prog 33 #[.string s] W fun e w' => e = .returned (.string (G s)) ∧ Below W.heap.size W w') := fun s W hs => by rw [HG.out]; exact l05Short_any s W hs
    have hz1 : (V m).size ≤ 5 := by rw [HVV.out]; exact Wd.varF_length 5 m
    have hz2 : (V v.items.length).size ≤ 5 := by rw [HVV.out]; exact Wd.varF_length 5 _
    have hz3 : (G v.text).size ≤ 65 := by rw [HG.out]; have := shortB_size v.text; omega
    clear hkb HHL HV HRR hsm hu0
    obtain ⟨k, u, t, ts⟩ := v
    simp only at hl ht HT HVO HSM HH HKB hm hk1 hk4 hu1 htx hn24 hz1 hz2 hz3 ⊢
    subst hm
    have hwk : IntKind.u8.wrap k = k := by rw [IntKind.wrap_u8]; omega
    obtain ⟨wb, hwb⟩ : ∃ wb, wb = w.alloc (.cells #[.int .i64 k, .int .i64 (m : Int), .string t, .slice ao ts.length cap] 40) := ⟨_, rfl⟩
    have b0 : Hid (Below w.heap.size w wb) := by rw [hwb]; exact (Below.refl _ w).alloc (Nat.le_refl _) _
    have hbs : wb.heap.size = w.heap.size + 1 := by rw [hwb]; simp
    have HBS := hide hbs
    have P0 : Hid (wb.heap[w.heap.size]? = some (.cells #[.int .i64 k, .int .i64 (m : Int), .string t, .slice ao ts.length cap] 40 (0, 0))) := by rw [hwb]; exact heap_alloc_new _ _
    have KC : Hid (∀ X, Below (w.heap.size + 1) wb X → X.cell? ⟨w.heap.size, 0, none⟩ = some (.int .i64 k) ∧ X.cell? ⟨w.heap.size, 1, none⟩ = some (.int .i64 (m : Int)) ∧ X.cell? ⟨w.heap.size, 2, none⟩ = some (.string t) ∧ X.cell? ⟨w.heap.size, 3, none⟩ = some (.slice ao ts.length cap)) := fun X hX => val_cells (val_keep P0.out hX (by omega))
    clear hbs
    go_enter Try.func15, Try.ntmps15
    go_wp2_with fail
    rw [← hwb]
    clear hwb
    refine (HVO.out _ b0.out).mono ?_
    rintro e w1 ⟨rfl, b1⟩
    have B1 : Hid (Below (w.heap.size + 1) wb w1) := b1.mono (Nat.le_of_eq HBS.out.symm)
    have hs1 : w.heap.size + 1 ≤ w1.heap.size := by have := B1.out.size; have := HBS.out; omega
    clear b1
    go_wp2_with fail
    go_cut [4] from 6 (fun vo wx => vo = .string HL ∧ Hid (Below (w.heap.size + 1) wb wx))
    case first =>
      rename_i hJ9 hK9
      have K1 : Hid (∀ X, Below w1.heap.size w1 X → X.cell? ⟨w.heap.size, 0, none⟩ = some (.int .i64 k) ∧ X.cell? ⟨w.heap.size, 1, none⟩ = some (.int .i64 (m : Int)) ∧ X.cell? ⟨w.heap.size, 2, none⟩ = some (.string t) ∧ X.cell? ⟨w.heap.size, 3, none⟩ = some (.slice ao ts.length cap)) := fun X hX => KC.out X (B1.out.trans (hX.mono hs1))
      obtain ⟨hc0, hc1, hc2, hc3⟩ := K1.out _ (Below.refl _ _)
      obtain ⟨hq0, hq1, hq2, hq3⟩ := K1.out _ ((Below.refl _ w1).alloc (Nat.le_refl _) (.cells #[.int .u8 k] 5))
      have CB : Hid (∀ W : World, (convert 64 9 (.slice (some ⟨W.heap.size, 0, none⟩) 1 1)).run Try.prog (W.alloc (.cells #[.int .u8 k] 5)) = .ok (.string ⟨#[kb]⟩) (W.alloc (.cells #[.int .u8 k] 5))) := fun W => conv_oneV HKB.out (heap_alloc_new W _)
      have hcb := CB.out
      have CB2 : Hid (∀ W : World, (convert 64 9 (.slice (some ⟨W.heap.size, 0, none⟩) 1 1)).run Try.prog (W.alloc (.cells #[.int .u8 k] 5)).drew = .ok (.string ⟨#[kb]⟩) (W.alloc (.cells #[.int .u8 k] 5)).drew) := fun W => conv_oneV (W := (W.alloc (.cells #[.int .u8 k] 5)).drew) HKB.out (heap_alloc_new W _)
      have hcb2 := CB2.out
      have e1 : (⟨#[kb]⟩ : ByteArray).size = 1 := rfl
      have hA1 : ¬ (9223372036854775807 < (⟨#[kb]⟩ : ByteArray).size + (V m).size) := by rw [e1]; omega
      have hA2 : ¬ (9223372036854775807 < 1 + (V m).size) := by omega
      have hA3 : ¬ (9223372036854775807 < 1 + (V m).size + (G t).size) := by omega
      have hA4 : ¬ (9223372036854775807 < (⟨#[kb]⟩ : ByteArray).size + (V m).size + (G t).size) := by rw [e1]; omega
      have hA5 : ¬ (9223372036854775807 < 1 + (V m).size + (G t).size + (V ts.length).size) := by omega
      have hA6 : ¬ (9223372036854775807 < (⟨#[kb]⟩ : ByteArray).size + (V m).size + (G t).size + (V ts.length).size) := by rw [e1]; omega
      clear e1
      refine wp_region_held_drew (S := fun X => X.cell? ⟨w.heap.size, 0, none⟩ = some (.int .i64 k) ∧ X.cell? ⟨w.heap.size, 1, none⟩ = some (.int .i64 (m : Int)) ∧ X.cell? ⟨w.heap.size, 2, none⟩ = some (.string t) ∧ X.cell? ⟨w.heap.size, 3, none⟩ = some (.slice ao ts.length cap)) (by kernel_rfl) ?hS0 (fun hHeld => ?_)
      case hS0 => exact K1.out _ (Below.refl _ _).drew
      refine wpAnyH_take (i := 0) (oi := _) (v := .pointer (some ⟨w.heap.size, 0, none⟩)) rfl (by kernel_rfl) (by kernel_rfl) (by kernel_rfl) (fun _ _ _ h => h) (Or.inl ⟨by rfl, ?hy⟩) (by assumption) ?_
      case hy => intro w hSw; (try dsimp only at hSw); go_simp; (try with_reducible rfl)
      try simp only [Act.put]
      refine wpAnyH_take (i := 1) (oi := _) (v := .int .i64 k) rfl (by kernel_rfl) (by kernel_rfl) (by kernel_rfl) (fun _ _ _ h => h) (Or.inl ⟨by rfl, ?hy⟩) (by assumption) ?_
      case hy => intro w hSw; (try dsimp only at hSw); obtain ⟨hr0, hr1, hr2, hr3⟩ := hSw; go_simp; (try with_reducible rfl)
      try simp only [Act.put]
      refine wpAnyH_take (i := 2) (oi := _) (v := .int .u8 k) rfl (by kernel_rfl) (by kernel_rfl) (by kernel_rfl) (fun _ _ _ h => h) (Or.inl ⟨by rfl, ?hy⟩) (by assumption) ?_
      case hy => intro w hSw; (try dsimp only at hSw); go_simp; (try with_reducible rfl)
      try simp only [Act.put]
      refine wpAnyH_take (i := 5) (oi := _) (v := .pointer (some ⟨w.heap.size, 1, none⟩)) rfl (by kernel_rfl) (by kernel_rfl) (by kernel_rfl) (fun _ _ _ h => h) (Or.inl ⟨by rfl, ?hy⟩) (by assumption) ?_
      case hy => intro w hSw; (try dsimp only at hSw); go_simp; (try with_reducible rfl)
      try simp only [Act.put]
      refine wpAnyH_take (i := 6) (oi := _) (v := .int .i64 (m : Int)) rfl (by kernel_rfl) (by kernel_rfl) (by kernel_rfl) (fun _ _ _ h => h) (Or.inl ⟨by rfl, ?hy⟩) (by assumption) ?_
      case hy => intro w hSw; (try dsimp only at hSw); obtain ⟨hr0, hr1, hr2, hr3⟩ := hSw; go_simp; (try with_reducible rfl)
      try simp only [Act.put]
      refine wpAnyH_take (i := 9) (oi := _) (v := .pointer (some ⟨w.heap.size, 2, none⟩)) rfl (by kernel_rfl) (by kernel_rfl) (by kernel_rfl) (fun _ _ _ h => h) (Or.inl ⟨by rfl, ?hy⟩) (by assumption) ?_
      case hy => intro w hSw; (try dsimp only at hSw); go_simp; (try with_reducible rfl)
      try simp only [Act.put]
      refine wpAnyH_take (i := 10) (oi := _) (v := .string t) rfl (by kernel_rfl) (by kernel_rfl) (by kernel_rfl) (fun _ _ _ h => h) (Or.inl ⟨by rfl, ?hy⟩) (by assumption) ?_
      case hy => intro w hSw; (try dsimp only at hSw); obtain ⟨hr0, hr1, hr2, hr3⟩ := hSw; go_simp; (try with_reducible rfl)
      try simp only [Act.put]
      refine wpAnyH_take (i := 13) (oi := _) (v := .pointer (some ⟨w.heap.size, 3, none⟩)) rfl (by kernel_rfl) (by kernel_rfl) (by kernel_rfl) (fun _ _ _ h => h) (Or.inl ⟨by rfl, ?hy⟩) (by assumption) ?_
      case hy => intro w hSw; (try dsimp only at hSw); go_simp; (try with_reducible rfl)
      try simp only [Act.put]
      refine wpAnyH_take (i := 14) (oi := _) (v := .slice ao ts.length cap) rfl (by kernel_rfl) (by kernel_rfl) (by kernel_rfl) (fun _ _ _ h => h) (Or.inl ⟨by rfl, ?hy⟩) (by assumption) ?_
      case hy => intro w hSw; (try dsimp only at hSw); obtain ⟨hr0, hr1, hr2, hr3⟩ := hSw; go_simp; (try with_reducible rfl)
      try simp only [Act.put]
      refine wpAnyH_take (i := 15) (oi := _) (v := .int .i64 (ts.length : Int)) rfl (by kernel_rfl) (by kernel_rfl) (by kernel_rfl) (fun _ _ _ h => h) (Or.inl ⟨by rfl, ?hy⟩) (by assumption) ?_
      case hy => intro w hSw; (try dsimp only at hSw); go_simp; (try with_reducible rfl)
      try simp only [Act.put]
      refine wpAnyH_ready (rs := [3, 7]) (by kernel_rfl) (by simp) ?_
      refine AllReadyH.cons (o := _) rfl (fun K hK => ?step) ?_
      case step =>
        go_simp
        refine hK.out _ _ ?hS (fun hHeld => ?_)
        case hS => exact K1.out _ (((Below.refl w1.heap.size w1).alloc (Nat.le_refl _) (.cells #[.int .u8 k] 5)).drew)
        clear hK K
        try simp only [Act.put]
        refine wpAnyH_ready (rs := [4, 7]) (by kernel_rfl) (by simp) ?_
        refine AllReadyH.cons (o := _) rfl (fun K hK => ?step) ?_
        case step =>
          go_simp
          refine hK.out _ _ ?hS (fun hHeld => ?_)
          case hS => exact K1.out _ (((Below.refl w1.heap.size w1).alloc (Nat.le_refl _) (.cells #[.int .u8 k] 5)).drew)
          clear hK K
          try simp only [Act.put]
          refine wpAnyH_ready (rs := [7]) (by kernel_rfl) (by simp) ?_
          refine AllReadyH.cons (o := _) rfl (fun K hK => ?step) ?_
          case step =>
            go_simp
            refine (CV.out m _ (by omega)).mono ?_
            rintro e x1 ⟨rfl, bx⟩
            have E1 : Hid (Below w1.heap.size w1 x1) := (((Below.refl w1.heap.size w1).alloc (Nat.le_refl _) (.cells #[.int .u8 k] 5)).drew).trans (bx.mono (((Below.refl w1.heap.size w1).alloc (Nat.le_refl _) (.cells #[.int .u8 k] 5)).drew).size)
            clear bx
            refine hK.out _ _ ?hS (fun hHeld => ?_)
            case hS => exact K1.out _ E1.out
            clear hK K
            try simp only [Act.put]
            refine wpAnyH_take (i := 8) (oi := _) (v := .string (⟨#[kb]⟩ ++ V m)) rfl (by kernel_rfl) (by kernel_rfl) (by kernel_rfl) (fun _ _ _ h => h) (Or.inl ⟨by rfl, ?hy⟩) (by assumption) ?_
            case hy => intro w hSw; (try dsimp only at hSw); go_simp; (try with_reducible rfl)
            try simp only [Act.put]
            refine wpAnyH_ready (rs := [11]) (by kernel_rfl) (by simp) ?_
            refine AllReadyH.cons (o := _) rfl (fun K hK => ?step) ?_
            case step =>
              go_simp
              refine (CS.out t _ (by omega)).mono ?_
              rintro e x2 ⟨rfl, bx⟩
              have E2 : Hid (Below w1.heap.size w1 x2) := E1.out.trans (bx.mono E1.out.size)
              clear bx
              refine hK.out _ _ ?hS (fun hHeld => ?_)
              case hS => exact K1.out _ E2.out
              clear hK K
              try simp only [Act.put]
              refine wpAnyH_take (i := 12) (oi := _) (v := .string (⟨#[kb]⟩ ++ V m ++ G t)) rfl (by kernel_rfl) (by kernel_rfl) (by kernel_rfl) (fun _ _ _ h => h) (Or.inl ⟨by rfl, ?hy⟩) (by assumption) ?_
              case hy => intro w hSw; (try dsimp only at hSw); go_simp; (try with_reducible rfl)
              try simp only [Act.put]
              refine wpAnyH_ready (rs := [16]) (by kernel_rfl) (by simp) ?_
              refine AllReadyH.cons (o := _) rfl (fun K hK => ?step) ?_
              case step =>
                go_simp
                refine (CV.out ts.length _ (by omega)).mono ?_
                rintro e x3 ⟨rfl, bx⟩
                have E3 : Hid (Below w1.heap.size w1 x3) := E2.out.trans (bx.mono E2.out.size)
                clear bx
                refine hK.out _ _ ?hS (fun hHeld => ?_)
                case hS => exact K1.out _ E3.out
                clear hK K
                try simp only [Act.put]
                refine wpAnyH_take (i := 17) (oi := _) (v := .string (⟨#[kb]⟩ ++ V m ++ G t ++ V ts.length)) rfl (by kernel_rfl) (by kernel_rfl) (by kernel_rfl) (fun _ _ _ h => h) (Or.inl ⟨by rfl, ?hy⟩) (by assumption) ?_
                case hy => intro w hSw; (try dsimp only at hSw); go_simp; (try with_reducible rfl)
                try simp only [Act.put]
                refine wpAnyH_take (i := 18) (oi := _) (v := .string (⟨#[kb]⟩ ++ V m ++ G t ++ V ts.length)) rfl (by kernel_rfl) (by kernel_rfl) (by kernel_rfl) (fun _ _ _ h => h) (Or.inl ⟨by rfl, ?hy⟩) (by assumption) ?_
                case hy => intro w hSw; (try dsimp only at hSw); go_simp; (try with_reducible rfl)
                try simp only [Act.put]
                refine wpAnyH_done (by kernel_rfl) ?_ _
                refine hK9 _ _ (Met.intro (hJ9 _ _ ?_)); (repeat apply Exists.intro); refine ⟨?_, rfl⟩
                exact ⟨by rw [HH.out], B1.out.trans (E3.out.mono hs1)⟩
              exact AllReadyH.nil
            exact AllReadyH.nil
          exact AllReadyH.nil
        refine AllReadyH.cons (o := _) rfl (fun K hK => ?step) ?_
        case step =>
          go_simp
          refine (CV.out m _ (by omega)).mono ?_
          rintro e x1 ⟨rfl, bx⟩
          have E1 : Hid (Below w1.heap.size w1 x1) := (((Below.refl w1.heap.size w1).alloc (Nat.le_refl _) (.cells #[.int .u8 k] 5)).drew).trans (bx.mono (((Below.refl w1.heap.size w1).alloc (Nat.le_refl _) (.cells #[.int .u8 k] 5)).drew).size)
          have GX := hide (blk_newd bx)
          clear bx
          refine hK.out _ _ ?hS (fun hHeld => ?_)
          case hS => exact K1.out _ E1.out
          clear hK K
          try simp only [Act.put]
          refine wpAnyH_ready (rs := [4, 11]) (by kernel_rfl) (by simp) ?_
          refine AllReadyH.cons (o := _) rfl (fun K hK => ?step) ?_
          case step =>
            have hcv := conv_oneV HKB.out GX.out
            go_simp
            refine hK.out _ _ ?hS (fun hHeld => ?_)
            case hS => exact K1.out _ E1.out
            clear hK K
            try simp only [Act.put]
            refine wpAnyH_take (i := 8) (oi := _) (v := .string (⟨#[kb]⟩ ++ V m)) rfl (by kernel_rfl) (by kernel_rfl) (by kernel_rfl) (fun _ _ _ h => h) (Or.inl ⟨by rfl, ?hy⟩) (by assumption) ?_
            case hy => intro w hSw; (try dsimp only at hSw); go_simp; (try with_reducible rfl)
            try simp only [Act.put]
            refine wpAnyH_ready (rs := [11]) (by kernel_rfl) (by simp) ?_
            refine AllReadyH.cons (o := _) rfl (fun K hK => ?step) ?_
            case step =>
              go_simp
              refine (CS.out t _ (by omega)).mono ?_
              rintro e x2 ⟨rfl, bx⟩
              have E2 : Hid (Below w1.heap.size w1 x2) := E1.out.trans (bx.mono E1.out.size)
              clear bx
              refine hK.out _ _ ?hS (fun hHeld => ?_)
              case hS => exact K1.out _ E2.out
              clear hK K
              try simp only [Act.put]
              refine wpAnyH_take (i := 12) (oi := _) (v := .string (⟨#[kb]⟩ ++ V m ++ G t)) rfl (by kernel_rfl) (by kernel_rfl) (by kernel_rfl) (fun _ _ _ h => h) (Or.inl ⟨by rfl, ?hy⟩) (by assumption) ?_
              case hy => intro w hSw; (try dsimp only at hSw); go_simp; (try with_reducible rfl)
              try simp only [Act.put]
              refine wpAnyH_ready (rs := [16]) (by kernel_rfl) (by simp) ?_
              refine AllReadyH.cons (o := _) rfl (fun K hK => ?step) ?_
              case step =>
                go_simp
                refine (CV.out ts.length _ (by omega)).mono ?_
                rintro e x3 ⟨rfl, bx⟩
                have E3 : Hid (Below w1.heap.size w1 x3) := E2.out.trans (bx.mono E2.out.size)
                clear bx
                refine hK.out _ _ ?hS (fun hHeld => ?_)
                case hS => exact K1.out _ E3.out
                clear hK K
                try simp only [Act.put]
                refine wpAnyH_take (i := 17) (oi := _) (v := .string (⟨#[kb]⟩ ++ V m ++ G t ++ V ts.length)) rfl (by kernel_rfl) (by kernel_rfl) (by kernel_rfl) (fun _ _ _ h => h) (Or.inl ⟨by rfl, ?hy⟩) (by assumption) ?_
                case hy => intro w hSw; (try dsimp only at hSw); go_simp; (try with_reducible rfl)
                try simp only [Act.put]
                refine wpAnyH_take (i := 18) (oi := _) (v := .string (⟨#[kb]⟩ ++ V m ++ G t ++ V ts.length)) rfl (by kernel_rfl) (by kernel_rfl) (by kernel_rfl) (fun _ _ _ h => h) (Or.inl ⟨by rfl, ?hy⟩) (by assumption) ?_
                case hy => intro w hSw; (try dsimp only at hSw); go_simp; (try with_reducible rfl)
                try simp only [Act.put]
                refine wpAnyH_done (by kernel_rfl) ?_ _
                refine hK9 _ _ (Met.intro (hJ9 _ _ ?_)); (repeat apply Exists.intro); refine ⟨?_, rfl⟩
                exact ⟨by rw [HH.out], B1.out.trans (E3.out.mono hs1)⟩
              exact AllReadyH.nil
            exact AllReadyH.nil
          refine AllReadyH.cons (o := _) rfl (fun K hK => ?step) ?_
          case step =>
            go_simp
            refine (CS.out t _ (by omega)).mono ?_
            rintro e x2 ⟨rfl, bx⟩
            have E2 : Hid (Below w1.heap.size w1 x2) := E1.out.trans (bx.mono E1.out.size)
            have GX := hide (blk_on GX.out bx)
            clear bx
            refine hK.out _ _ ?hS (fun hHeld => ?_)
            case hS => exact K1.out _ E2.out
            clear hK K
            try simp only [Act.put]
            refine wpAnyH_ready (rs := [4, 16]) (by kernel_rfl) (by simp) ?_
            refine AllReadyH.cons (o := _) rfl (fun K hK => ?step) ?_
            case step =>
              have hcv := conv_oneV HKB.out GX.out
              go_simp
              refine hK.out _ _ ?hS (fun hHeld => ?_)
              case hS => exact K1.out _ E2.out
              clear hK K
              try simp only [Act.put]
              refine wpAnyH_take (i := 8) (oi := _) (v := .string (⟨#[kb]⟩ ++ V m)) rfl (by kernel_rfl) (by kernel_rfl) (by kernel_rfl) (fun _ _ _ h => h) (Or.inl ⟨by rfl, ?hy⟩) (by assumption) ?_
              case hy => intro w hSw; (try dsimp only at hSw); go_simp; (try with_reducible rfl)
              try simp only [Act.put]
              refine wpAnyH_take (i := 12) (oi := _) (v := .string (⟨#[kb]⟩ ++ V m ++ G t)) rfl (by kernel_rfl) (by kernel_rfl) (by kernel_rfl) (fun _ _ _ h => h) (Or.inl ⟨by rfl, ?hy⟩) (by assumption) ?_
              case hy => intro w hSw; (try dsimp only at hSw); go_simp; (try with_reducible rfl)
              try simp only [Act.put]
              refine wpAnyH_ready (rs := [16]) (by kernel_rfl) (by simp) ?_
              refine AllReadyH.cons (o := _) rfl (fun K hK => ?step) ?_
              case step =>
                go_simp
                refine (CV.out ts.length _ (by omega)).mono ?_
                rintro e x3 ⟨rfl, bx⟩
                have E3 : Hid (Below w1.heap.size w1 x3) := E2.out.trans (bx.mono E2.out.size)
                clear bx
                refine hK.out _ _ ?hS (fun hHeld => ?_)
                case hS => exact K1.out _ E3.out
                clear hK K
                try simp only [Act.put]
                refine wpAnyH_take (i := 17) (oi := _) (v := .string (⟨#[kb]⟩ ++ V m ++ G t ++ V ts.length)) rfl (by kernel_rfl) (by kernel_rfl) (by kernel_rfl) (fun _ _ _ h => h) (Or.inl ⟨by rfl, ?hy⟩) (by assumption) ?_
                case hy => intro w hSw; (try dsimp only at hSw); go_simp; (try with_reducible rfl)
                try simp only [Act.put]
                refine wpAnyH_take (i := 18) (oi := _) (v := .string (⟨#[kb]⟩ ++ V m ++ G t ++ V ts.length)) rfl (by kernel_rfl) (by kernel_rfl) (by kernel_rfl) (fun _ _ _ h => h) (Or.inl ⟨by rfl, ?hy⟩) (by assumption) ?_
                case hy => intro w hSw; (try dsimp only at hSw); go_simp; (try with_reducible rfl)
                try simp only [Act.put]
                refine wpAnyH_done (by kernel_rfl) ?_ _
                refine hK9 _ _ (Met.intro (hJ9 _ _ ?_)); (repeat apply Exists.intro); refine ⟨?_, rfl⟩
                exact ⟨by rw [HH.out], B1.out.trans (E3.out.mono hs1)⟩
              exact AllReadyH.nil
            refine AllReadyH.cons (o := _) rfl (fun K hK => ?step) ?_
            case step =>
              go_simp
              refine (CV.out ts.length _ (by omega)).mono ?_
              rintro e x3 ⟨rfl, bx⟩
              have E3 : Hid (Below w1.heap.size w1 x3) := E2.out.trans (bx.mono E2.out.size)
              have GX := hide (blk_on GX.out bx)
              clear bx
              refine hK.out _ _ ?hS (fun hHeld => ?_)
              case hS => exact K1.out _ E3.out
              clear hK K
              try simp only [Act.put]
              refine wpAnyH_ready (rs := [4]) (by kernel_rfl) (by simp) ?_
              refine AllReadyH.cons (o := _) rfl (fun K hK => ?step) ?_
              case step =>
                have hcv := conv_oneV HKB.out GX.out
                go_simp
                refine hK.out _ _ ?hS (fun hHeld => ?_)
                case hS => exact K1.out _ E3.out
                clear hK K
                try simp only [Act.put]
                refine wpAnyH_take (i := 8) (oi := _) (v := .string (⟨#[kb]⟩ ++ V m)) rfl (by kernel_rfl) (by kernel_rfl) (by kernel_rfl) (fun _ _ _ h => h) (Or.inl ⟨by rfl, ?hy⟩) (by assumption) ?_
                case hy => intro w hSw; (try dsimp only at hSw); go_simp; (try with_reducible rfl)
                try simp only [Act.put]
                refine wpAnyH_take (i := 12) (oi := _) (v := .string (⟨#[kb]⟩ ++ V m ++ G t)) rfl (by kernel_rfl) (by kernel_rfl) (by kernel_rfl) (fun _ _ _ h => h) (Or.inl ⟨by rfl, ?hy⟩) (by assumption) ?_
                case hy => intro w hSw; (try dsimp only at hSw); go_simp; (try with_reducible rfl)
                try simp only [Act.put]
                refine wpAnyH_take (i := 17) (oi := _) (v := .string (⟨#[kb]⟩ ++ V m ++ G t ++ V ts.length)) rfl (by kernel_rfl) (by kernel_rfl) (by kernel_rfl) (fun _ _ _ h => h) (Or.inl ⟨by rfl, ?hy⟩) (by assumption) ?_
                case hy => intro w hSw; (try dsimp only at hSw); go_simp; (try with_reducible rfl)
                try simp only [Act.put]
                refine wpAnyH_take (i := 18) (oi := _) (v := .string (⟨#[kb]⟩ ++ V m ++ G t ++ V ts.length)) rfl (by kernel_rfl) (by kernel_rfl) (by kernel_rfl) (fun _ _ _ h => h) (Or.inl ⟨by rfl, ?hy⟩) (by assumption) ?_
                case hy => intro w hSw; (try dsimp only at hSw); go_simp; (try with_reducible rfl)
                try simp only [Act.put]
                refine wpAnyH_done (by kernel_rfl) ?_ _
                refine hK9 _ _ (Met.intro (hJ9 _ _ ?_)); (repeat apply Exists.intro); refine ⟨?_, rfl⟩
                exact ⟨by rw [HH.out], B1.out.trans (E3.out.mono hs1)⟩
              exact AllReadyH.nil
            exact AllReadyH.nil
          exact AllReadyH.nil
        exact AllReadyH.nil
      refine AllReadyH.cons (o := _) rfl (fun K hK => ?step) ?_
      case step =>
        go_simp
        refine (CV.out m _ (by omega)).mono ?_
        rintro e x1 ⟨rfl, bx⟩
        have E1 : Hid (Below w1.heap.size w1 x1) := (Below.refl w1.heap.size w1).drew.trans (bx.mono (Below.refl w1.heap.size w1).drew.size)
        clear bx
        refine hK.out _ _ ?hS (fun hHeld => ?_)
        case hS => exact K1.out _ E1.out
        clear hK K
        try simp only [Act.put]
        refine wpAnyH_ready (rs := [3, 11]) (by kernel_rfl) (by simp) ?_
        refine AllReadyH.cons (o := _) rfl (fun K hK => ?step) ?_
        case step =>
          go_simp
          refine hK.out _ _ ?hS (fun hHeld => ?_)
          case hS => exact K1.out _ (E1.out.alloc E1.out.size (.cells #[.int .u8 k] 5))
          clear hK K
          try simp only [Act.put]
          refine wpAnyH_ready (rs := [4, 11]) (by kernel_rfl) (by simp) ?_
          refine AllReadyH.cons (o := _) rfl (fun K hK => ?step) ?_
          case step =>
            go_simp
            refine hK.out _ _ ?hS (fun hHeld => ?_)
            case hS => exact K1.out _ (E1.out.alloc E1.out.size (.cells #[.int .u8 k] 5))
            clear hK K
            try simp only [Act.put]
            refine wpAnyH_take (i := 8) (oi := _) (v := .string (⟨#[kb]⟩ ++ V m)) rfl (by kernel_rfl) (by kernel_rfl) (by kernel_rfl) (fun _ _ _ h => h) (Or.inl ⟨by rfl, ?hy⟩) (by assumption) ?_
            case hy => intro w hSw; (try dsimp only at hSw); go_simp; (try with_reducible rfl)
            try simp only [Act.put]
            refine wpAnyH_ready (rs := [11]) (by kernel_rfl) (by simp) ?_
            refine AllReadyH.cons (o := _) rfl (fun K hK => ?step) ?_
            case step =>
              go_simp
              refine (CS.out t _ (by omega)).mono ?_
              rintro e x2 ⟨rfl, bx⟩
              have E2 : Hid (Below w1.heap.size w1 x2) := (E1.out.alloc E1.out.size (.cells #[.int .u8 k] 5)).trans (bx.mono (E1.out.alloc E1.out.size (.cells #[.int .u8 k] 5)).size)
              clear bx
              refine hK.out _ _ ?hS (fun hHeld => ?_)
              case hS => exact K1.out _ E2.out
              clear hK K
              try simp only [Act.put]
              refine wpAnyH_take (i := 12) (oi := _) (v := .string (⟨#[kb]⟩ ++ V m ++ G t)) rfl (by kernel_rfl) (by kernel_rfl) (by kernel_rfl) (fun _ _ _ h => h) (Or.inl ⟨by rfl, ?hy⟩) (by assumption) ?_
              case hy => intro w hSw; (try dsimp only at hSw); go_simp; (try with_reducible rfl)
              try simp only [Act.put]
              refine wpAnyH_ready (rs := [16]) (by kernel_rfl) (by simp) ?_
              refine AllReadyH.cons (o := _) rfl (fun K hK => ?step) ?_
              case step =>
                go_simp
                refine (CV.out ts.length _ (by omega)).mono ?_
                rintro e x3 ⟨rfl, bx⟩
                have E3 : Hid (Below w1.heap.size w1 x3) := E2.out.trans (bx.mono E2.out.size)
                clear bx
                refine hK.out _ _ ?hS (fun hHeld => ?_)
                case hS => exact K1.out _ E3.out
                clear hK K
                try simp only [Act.put]
                refine wpAnyH_take (i := 17) (oi := _) (v := .string (⟨#[kb]⟩ ++ V m ++ G t ++ V ts.length)) rfl (by kernel_rfl) (by kernel_rfl) (by kernel_rfl) (fun _ _ _ h => h) (Or.inl ⟨by rfl, ?hy⟩) (by assumption) ?_
                case hy => intro w hSw; (try dsimp only at hSw); go_simp; (try with_reducible rfl)
                try simp only [Act.put]
                refine wpAnyH_take (i := 18) (oi := _) (v := .string (⟨#[kb]⟩ ++ V m ++ G t ++ V ts.length)) rfl (by kernel_rfl) (by kernel_rfl) (by kernel_rfl) (fun _ _ _ h => h) (Or.inl ⟨by rfl, ?hy⟩) (by assumption) ?_
                case hy => intro w hSw; (try dsimp only at hSw); go_simp; (try with_reducible rfl)
                try simp only [Act.put]
                refine wpAnyH_done (by kernel_rfl) ?_ _
                refine hK9 _ _ (Met.intro (hJ9 _ _ ?_)); (repeat apply Exists.intro); refine ⟨?_, rfl⟩
                exact ⟨by rw [HH.out], B1.out.trans (E3.out.mono hs1)⟩
              exact AllReadyH.nil
            exact AllReadyH.nil
          refine AllReadyH.cons (o := _) rfl (fun K hK => ?step) ?_
          case step =>
            go_simp
            refine (CS.out t _ (by omega)).mono ?_
            rintro e x2 ⟨rfl, bx⟩
            have E2 : Hid (Below w1.heap.size w1 x2) := (E1.out.alloc E1.out.size (.cells #[.int .u8 k] 5)).trans (bx.mono (E1.out.alloc E1.out.size (.cells #[.int .u8 k] 5)).size)
            have GX := hide (blk_new bx)
            clear bx
            refine hK.out _ _ ?hS (fun hHeld => ?_)
            case hS => exact K1.out _ E2.out
            clear hK K
            try simp only [Act.put]
            refine wpAnyH_ready (rs := [4, 16]) (by kernel_rfl) (by simp) ?_
            refine AllReadyH.cons (o := _) rfl (fun K hK => ?step) ?_
            case step =>
              have hcv := conv_oneV HKB.out GX.out
              go_simp
              refine hK.out _ _ ?hS (fun hHeld => ?_)
              case hS => exact K1.out _ E2.out
              clear hK K
              try simp only [Act.put]
              refine wpAnyH_take (i := 8) (oi := _) (v := .string (⟨#[kb]⟩ ++ V m)) rfl (by kernel_rfl) (by kernel_rfl) (by kernel_rfl) (fun _ _ _ h => h) (Or.inl ⟨by rfl, ?hy⟩) (by assumption) ?_
              case hy => intro w hSw; (try dsimp only at hSw); go_simp; (try with_reducible rfl)
              try simp only [Act.put]
              refine wpAnyH_take (i := 12) (oi := _) (v := .string (⟨#[kb]⟩ ++ V m ++ G t)) rfl (by kernel_rfl) (by kernel_rfl) (by kernel_rfl) (fun _ _ _ h => h) (Or.inl ⟨by rfl, ?hy⟩) (by assumption) ?_
              case hy => intro w hSw; (try dsimp only at hSw); go_simp; (try with_reducible rfl)
              try simp only [Act.put]
              refine wpAnyH_ready (rs := [16]) (by kernel_rfl) (by simp) ?_
              refine AllReadyH.cons (o := _) rfl (fun K hK => ?step) ?_
              case step =>
                go_simp
                refine (CV.out ts.length _ (by omega)).mono ?_
                rintro e x3 ⟨rfl, bx⟩
                have E3 : Hid (Below w1.heap.size w1 x3) := E2.out.trans (bx.mono E2.out.size)
                clear bx
                refine hK.out _ _ ?hS (fun hHeld => ?_)
                case hS => exact K1.out _ E3.out
                clear hK K
                try simp only [Act.put]
                refine wpAnyH_take (i := 17) (oi := _) (v := .string (⟨#[kb]⟩ ++ V m ++ G t ++ V ts.length)) rfl (by kernel_rfl) (by kernel_rfl) (by kernel_rfl) (fun _ _ _ h => h) (Or.inl ⟨by rfl, ?hy⟩) (by assumption) ?_
                case hy => intro w hSw; (try dsimp only at hSw); go_simp; (try with_reducible rfl)
                try simp only [Act.put]
                refine wpAnyH_take (i := 18) (oi := _) (v := .string (⟨#[kb]⟩ ++ V m ++ G t ++ V ts.length)) rfl (by kernel_rfl) (by kernel_rfl) (by kernel_rfl) (fun _ _ _ h => h) (Or.inl ⟨by rfl, ?hy⟩) (by assumption) ?_
                case hy => intro w hSw; (try dsimp only at hSw); go_simp; (try with_reducible rfl)
                try simp only [Act.put]
                refine wpAnyH_done (by kernel_rfl) ?_ _
                refine hK9 _ _ (Met.intro (hJ9 _ _ ?_)); (repeat apply Exists.intro); refine ⟨?_, rfl⟩
                exact ⟨by rw [HH.out], B1.out.trans (E3.out.mono hs1)⟩
              exact AllReadyH.nil
            refine AllReadyH.cons (o := _) rfl (fun K hK => ?step) ?_
            case step =>
              go_simp
              refine (CV.out ts.length _ (by omega)).mono ?_
              rintro e x3 ⟨rfl, bx⟩
              have E3 : Hid (Below w1.heap.size w1 x3) := E2.out.trans (bx.mono E2.out.size)
              have GX := hide (blk_on GX.out bx)
              clear bx
              refine hK.out _ _ ?hS (fun hHeld => ?_)
              case hS => exact K1.out _ E3.out
              clear hK K
              try simp only [Act.put]
              refine wpAnyH_ready (rs := [4]) (by kernel_rfl) (by simp) ?_
              refine AllReadyH.cons (o := _) rfl (fun K hK => ?step) ?_
              case step =>
                have hcv := conv_oneV HKB.out GX.out
                go_simp
                refine hK.out _ _ ?hS (fun hHeld => ?_)
                case hS => exact K1.out _ E3.out
                clear hK K
                try simp only [Act.put]
                refine wpAnyH_take (i := 8) (oi := _) (v := .string (⟨#[kb]⟩ ++ V m)) rfl (by kernel_rfl) (by kernel_rfl) (by kernel_rfl) (fun _ _ _ h => h) (Or.inl ⟨by rfl, ?hy⟩) (by assumption) ?_
                case hy => intro w hSw; (try dsimp only at hSw); go_simp; (try with_reducible rfl)
                try simp only [Act.put]
                refine wpAnyH_take (i := 12) (oi := _) (v := .string (⟨#[kb]⟩ ++ V m ++ G t)) rfl (by kernel_rfl) (by kernel_rfl) (by kernel_rfl) (fun _ _ _ h => h) (Or.inl ⟨by rfl, ?hy⟩) (by assumption) ?_
                case hy => intro w hSw; (try dsimp only at hSw); go_simp; (try with_reducible rfl)
                try simp only [Act.put]
                refine wpAnyH_take (i := 17) (oi := _) (v := .string (⟨#[kb]⟩ ++ V m ++ G t ++ V ts.length)) rfl (by kernel_rfl) (by kernel_rfl) (by kernel_rfl) (fun _ _ _ h => h) (Or.inl ⟨by rfl, ?hy⟩) (by assumption) ?_
                case hy => intro w hSw; (try dsimp only at hSw); go_simp; (try with_reducible rfl)
                try simp only [Act.put]
                refine wpAnyH_take (i := 18) (oi := _) (v := .string (⟨#[kb]⟩ ++ V m ++ G t ++ V ts.length)) rfl (by kernel_rfl) (by kernel_rfl) (by kernel_rfl) (fun _ _ _ h => h) (Or.inl ⟨by rfl, ?hy⟩) (by assumption) ?_
                case hy => intro w hSw; (try dsimp only at hSw); go_simp; (try with_reducible rfl)
                try simp only [Act.put]
                refine wpAnyH_done (by kernel_rfl) ?_ _
                refine hK9 _ _ (Met.intro (hJ9 _ _ ?_)); (repeat apply Exists.intro); refine ⟨?_, rfl⟩
                exact ⟨by rw [HH.out], B1.out.trans (E3.out.mono hs1)⟩
              exact AllReadyH.nil
            exact AllReadyH.nil
          exact AllReadyH.nil
        refine AllReadyH.cons (o := _) rfl (fun K hK => ?step) ?_
        case step =>
          go_simp
          refine (CS.out t _ (by omega)).mono ?_
          rintro e x2 ⟨rfl, bx⟩
          have E2 : Hid (Below w1.heap.size w1 x2) := E1.out.trans (bx.mono E1.out.size)
          clear bx
          refine hK.out _ _ ?hS (fun hHeld => ?_)
          case hS => exact K1.out _ E2.out
          clear hK K
          try simp only [Act.put]
          refine wpAnyH_ready (rs := [3, 16]) (by kernel_rfl) (by simp) ?_
          refine AllReadyH.cons (o := _) rfl (fun K hK => ?step) ?_
          case step =>
            go_simp
            refine hK.out _ _ ?hS (fun hHeld => ?_)
            case hS => exact K1.out _ (E2.out.alloc E2.out.size (.cells #[.int .u8 k] 5))
            clear hK K
            try simp only [Act.put]
            refine wpAnyH_ready (rs := [4, 16]) (by kernel_rfl) (by simp) ?_
            refine AllReadyH.cons (o := _) rfl (fun K hK => ?step) ?_
            case step =>
              go_simp
              refine hK.out _ _ ?hS (fun hHeld => ?_)
              case hS => exact K1.out _ (E2.out.alloc E2.out.size (.cells #[.int .u8 k] 5))
              clear hK K
              try simp only [Act.put]
              refine wpAnyH_take (i := 8) (oi := _) (v := .string (⟨#[kb]⟩ ++ V m)) rfl (by kernel_rfl) (by kernel_rfl) (by kernel_rfl) (fun _ _ _ h => h) (Or.inl ⟨by rfl, ?hy⟩) (by assumption) ?_
              case hy => intro w hSw; (try dsimp only at hSw); go_simp; (try with_reducible rfl)
              try simp only [Act.put]
              refine wpAnyH_take (i := 12) (oi := _) (v := .string (⟨#[kb]⟩ ++ V m ++ G t)) rfl (by kernel_rfl) (by kernel_rfl) (by kernel_rfl) (fun _ _ _ h => h) (Or.inl ⟨by rfl, ?hy⟩) (by assumption) ?_
              case hy => intro w hSw; (try dsimp only at hSw); go_simp; (try with_reducible rfl)
              try simp only [Act.put]
              refine wpAnyH_ready (rs := [16]) (by kernel_rfl) (by simp) ?_
              refine AllReadyH.cons (o := _) rfl (fun K hK => ?step) ?_
              case step =>
                go_simp
                refine (CV.out ts.length _ (by omega)).mono ?_
                rintro e x3 ⟨rfl, bx⟩
                have E3 : Hid (Below w1.heap.size w1 x3) := (E2.out.alloc E2.out.size (.cells #[.int .u8 k] 5)).trans (bx.mono (E2.out.alloc E2.out.size (.cells #[.int .u8 k] 5)).size)
                clear bx
                refine hK.out _ _ ?hS (fun hHeld => ?_)
                case hS => exact K1.out _ E3.out
                clear hK K
                try simp only [Act.put]
                refine wpAnyH_take (i := 17) (oi := _) (v := .string (⟨#[kb]⟩ ++ V m ++ G t ++ V ts.length)) rfl (by kernel_rfl) (by kernel_rfl) (by kernel_rfl) (fun _ _ _ h => h) (Or.inl ⟨by rfl, ?hy⟩) (by assumption) ?_
                case hy => intro w hSw; (try dsimp only at hSw); go_simp; (try with_reducible rfl)
                try simp only [Act.put]
                refine wpAnyH_take (i := 18) (oi := _) (v := .string (⟨#[kb]⟩ ++ V m ++ G t ++ V ts.length)) rfl (by kernel_rfl) (by kernel_rfl) (by kernel_rfl) (fun _ _ _ h => h) (Or.inl ⟨by rfl, ?hy⟩) (by assumption) ?_
                case hy => intro w hSw; (try dsimp only at hSw); go_simp; (try with_reducible rfl)
                try simp only [Act.put]
                refine wpAnyH_done (by kernel_rfl) ?_ _
                refine hK9 _ _ (Met.intro (hJ9 _ _ ?_)); (repeat apply Exists.intro); refine ⟨?_, rfl⟩
                exact ⟨by rw [HH.out], B1.out.trans (E3.out.mono hs1)⟩
              exact AllReadyH.nil
            refine AllReadyH.cons (o := _) rfl (fun K hK => ?step) ?_
            case step =>
              go_simp
              refine (CV.out ts.length _ (by omega)).mono ?_
              rintro e x3 ⟨rfl, bx⟩
              have E3 : Hid (Below w1.heap.size w1 x3) := (E2.out.alloc E2.out.size (.cells #[.int .u8 k] 5)).trans (bx.mono (E2.out.alloc E2.out.size (.cells #[.int .u8 k] 5)).size)
              have GX := hide (blk_new bx)
              clear bx
              refine hK.out _ _ ?hS (fun hHeld => ?_)
              case hS => exact K1.out _ E3.out
              clear hK K
              try simp only [Act.put]
              refine wpAnyH_ready (rs := [4]) (by kernel_rfl) (by simp) ?_
              refine AllReadyH.cons (o := _) rfl (fun K hK => ?step) ?_
              case step =>
                have hcv := conv_oneV HKB.out GX.out
                go_simp
                refine hK.out _ _ ?hS (fun hHeld => ?_)
                case hS => exact K1.out _ E3.out
                clear hK K
                try simp only [Act.put]
                refine wpAnyH_take (i := 8) (oi := _) (v := .string (⟨#[kb]⟩ ++ V m)) rfl (by kernel_rfl) (by kernel_rfl) (by kernel_rfl) (fun _ _ _ h => h) (Or.inl ⟨by rfl, ?hy⟩) (by assumption) ?_
                case hy => intro w hSw; (try dsimp only at hSw); go_simp; (try with_reducible rfl)
                try simp only [Act.put]
                refine wpAnyH_take (i := 12) (oi := _) (v := .string (⟨#[kb]⟩ ++ V m ++ G t)) rfl (by kernel_rfl) (by kernel_rfl) (by kernel_rfl) (fun _ _ _ h => h) (Or.inl ⟨by rfl, ?hy⟩) (by assumption) ?_
                case hy => intro w hSw; (try dsimp only at hSw); go_simp; (try with_reducible rfl)
                try simp only [Act.put]
                refine wpAnyH_take (i := 17) (oi := _) (v := .string (⟨#[kb]⟩ ++ V m ++ G t ++ V ts.length)) rfl (by kernel_rfl) (by kernel_rfl) (by kernel_rfl) (fun _ _ _ h => h) (Or.inl ⟨by rfl, ?hy⟩) (by assumption) ?_
                case hy => intro w hSw; (try dsimp only at hSw); go_simp; (try with_reducible rfl)
                try simp only [Act.put]
                refine wpAnyH_take (i := 18) (oi := _) (v := .string (⟨#[kb]⟩ ++ V m ++ G t ++ V ts.length)) rfl (by kernel_rfl) (by kernel_rfl) (by kernel_rfl) (fun _ _ _ h => h) (Or.inl ⟨by rfl, ?hy⟩) (by assumption) ?_
                case hy => intro w hSw; (try dsimp only at hSw); go_simp; (try with_reducible rfl)
                try simp only [Act.put]
                refine wpAnyH_done (by kernel_rfl) ?_ _
                refine hK9 _ _ (Met.intro (hJ9 _ _ ?_)); (repeat apply Exists.intro); refine ⟨?_, rfl⟩
                exact ⟨by rw [HH.out], B1.out.trans (E3.out.mono hs1)⟩
              exact AllReadyH.nil
            exact AllReadyH.nil
          refine AllReadyH.cons (o := _) rfl (fun K hK => ?step) ?_
          case step =>
            go_simp
            refine (CV.out ts.length _ (by omega)).mono ?_
            rintro e x3 ⟨rfl, bx⟩
            have E3 : Hid (Below w1.heap.size w1 x3) := E2.out.trans (bx.mono E2.out.size)
            clear bx
            refine hK.out _ _ ?hS (fun hHeld => ?_)
            case hS => exact K1.out _ E3.out
            clear hK K
            try simp only [Act.put]
            refine wpAnyH_ready (rs := [3]) (by kernel_rfl) (by simp) ?_
            refine AllReadyH.cons (o := _) rfl (fun K hK => ?step) ?_
            case step =>
              go_simp
              refine hK.out _ _ ?hS (fun hHeld => ?_)
              case hS => exact K1.out _ (E3.out.alloc E3.out.size (.cells #[.int .u8 k] 5))
              clear hK K
              try simp only [Act.put]
              refine wpAnyH_ready (rs := [4]) (by kernel_rfl) (by simp) ?_
              refine AllReadyH.cons (o := _) rfl (fun K hK => ?step) ?_
              case step =>
                go_simp
                refine hK.out _ _ ?hS (fun hHeld => ?_)
                case hS => exact K1.out _ (E3.out.alloc E3.out.size (.cells #[.int .u8 k] 5))
                clear hK K
                try simp only [Act.put]
                refine wpAnyH_take (i := 8) (oi := _) (v := .string (⟨#[kb]⟩ ++ V m)) rfl (by kernel_rfl) (by kernel_rfl) (by kernel_rfl) (fun _ _ _ h => h) (Or.inl ⟨by rfl, ?hy⟩) (by assumption) ?_
                case hy => intro w hSw; (try dsimp only at hSw); go_simp; (try with_reducible rfl)
                try simp only [Act.put]
                refine wpAnyH_take (i := 12) (oi := _) (v := .string (⟨#[kb]⟩ ++ V m ++ G t)) rfl (by kernel_rfl) (by kernel_rfl) (by kernel_rfl) (fun _ _ _ h => h) (Or.inl ⟨by rfl, ?hy⟩) (by assumption) ?_
                case hy => intro w hSw; (try dsimp only at hSw); go_simp; (try with_reducible rfl)
                try simp only [Act.put]
                refine wpAnyH_take (i := 17) (oi := _) (v := .string (⟨#[kb]⟩ ++ V m ++ G t ++ V ts.length)) rfl (by kernel_rfl) (by kernel_rfl) (by kernel_rfl) (fun _ _ _ h => h) (Or.inl ⟨by rfl, ?hy⟩) (by assumption) ?_
                case hy => intro w hSw; (try dsimp only at hSw); go_simp; (try with_reducible rfl)
                try simp only [Act.put]
                refine wpAnyH_take (i := 18) (oi := _) (v := .string (⟨#[kb]⟩ ++ V m ++ G t ++ V ts.length)) rfl (by kernel_rfl) (by kernel_rfl) (by kernel_rfl) (fun _ _ _ h => h) (Or.inl ⟨by rfl, ?hy⟩) (by assumption) ?_
                case hy => intro w hSw; (try dsimp only at hSw); go_simp; (try with_reducible rfl)
                try simp only [Act.put]
                refine wpAnyH_done (by kernel_rfl) ?_ _
                refine hK9 _ _ (Met.intro (hJ9 _ _ ?_)); (repeat apply Exists.intro); refine ⟨?_, rfl⟩
                exact ⟨by rw [HH.out], B1.out.trans ((E3.out.alloc E3.out.size (.cells #[.int .u8 k] 5)).mono hs1)⟩
              exact AllReadyH.nil
            exact AllReadyH.nil
          exact AllReadyH.nil
        exact AllReadyH.nil
      exact AllReadyH.nil
    case rest =>
    obtain ⟨rfl, HB4⟩ := hcut
    clear CV hz1 hz2 hz3
    go_wp2_with fail
    go_loopw [4, 5] (fun vo ii wr => ∃ (k : Nat), ii = .int .i64 k ∧ k ≤ ts.length ∧ vo = .string ⟨(HL.data.toList ++ textsL (ts.take k)).toArray⟩ ∧ Hid (Below (w.heap.size + 1) wb wr)) (fun _ ii _ => ts.length - (intOf ii).toNat)
    case atStart => exact ⟨0, rfl, Nat.zero_le _, by rw [List.take_zero, textsL, List.append_nil], HB4⟩
    case round =>
      obtain ⟨k, rfl, hk, rfl, HB⟩ := hrel
      have hws : w.heap.size + 1 ≤ wr.heap.size := by have := HB.out.size; have := HBS.out; omega
      have W0 := hide (b0.out.trans (HB.out.mono (by omega)))
      obtain ⟨hc0, hc1, hc2, hc3⟩ := KC.out _ HB.out
      by_cases hlt : k < ts.length
      · have hlt' : decide ((k : Int) < (ts.length : Int)) = true := by simp; omega
        obtain ⟨b, off, rfl, hbw, hd0⟩ := textsAt_keep HT.out W0.out k hlt
        have hsF := HSM.out ts[k] (List.getElem_mem hlt)
        have HTK := hide (textsL_take hlt)
        obtain ⟨F, HF⟩ : ∃ F, Hid (ts[k] = F) := ⟨_, hide rfl⟩
        rw [HF.out] at hd0 hsF HTK
        have hi0 : (0 : Int) ≤ (k : Int) := by omega
        have hi1 : (k : Int) < (ts.length : Int) := by omega
        have hzF : (G F).size ≤ 65 := by rw [HG.out]; have := shortB_size F; omega
        have hLn : (HL.data.toList ++ textsL (ts.take k)).length ≤ 2000 := by
          have h := textsL_len (ts.take k) (fun s hs => HSM.out s (List.mem_of_mem_take hs))
          have h2 : (ts.take k).length ≤ 24 := by rw [List.length_take]; omega
          have e : HL.data.toList.length = HL.size := rfl
          rw [List.length_append, e]
          omega
        obtain ⟨X, HX⟩ : ∃ X : ByteArray, Hid (⟨(HL.data.toList ++ textsL (ts.take k)).toArray⟩ = X) := ⟨_, hide rfl⟩
        have hXs : X.size ≤ 2000 := by rw [← HX.out]; exact hLn
        have HN : Hid ((⟨(HL.data.toList ++ textsL (ts.take (k + 1))).toArray⟩ : ByteArray) = X ++ G F) := by show _ = _; rw [HTK.out, ← List.append_assoc, ← HX.out, HG.out, ← cat_list]
        have hA : ¬ (9223372036854775807 < X.size + (G F).size) := by omega
        rw [HX.out]
        clear hLn
        go_wp2_with fail
        refine (CS.out F _ (by omega)).mono ?_
        rintro e w8 ⟨rfl, b8⟩
        have HB8 := hide (HB.out.trans (b8.mono hws))
        clear b8
        go_wp2_with fail
        go_roundw
        case rel => exact ⟨k + 1, by go_num, by omega, by rw [HN.out], HB8⟩
        case measure => simp [intOf]; omega
      · have hlt' : decide ((k : Int) < (ts.length : Int)) = false := by simp; omega
        have hke : k = ts.length := by omega
        subst hke
        rw [List.take_length]
        go_wp2
        go_ret2
        exact ⟨rfl, W0.out⟩
end Go.Proofs.Ytfgammkmkhfbpaa
