import Derived.Deep.RegionHeld3
import Derived.Lib.Strings
import Derived.Lib.Walk
import Derived.Lib.BufferWrite
import Derived.Lib.UnsafeStr
import Derived.Laws.MakeOwn
import Derived.Test.YtfgammkmkhfbpaaDf4
import Derived.Test.YtfgammkmkhfbpaaDf6
import Derived.Test.YtfgammkmkhfbpaaDf7
import Derived.Test.YtfgammkmkhfbpaaDf2
import Derived.Test.YtfgammkmkhfbpaaDf0
set_option maxRecDepth 100000
set_option maxHeartbeats 3200000
namespace Go.Proofs.Ytfgammkmkhfbpaa
open Go.RowKit
theorem difF_goneE {f i : Nat} {a b : List EntD} {x : EntD} (h : i < a.length) (hx : a[i] = x) : difF (f + 1) (a.drop i) (b.drop b.length) = goneC x.key :: difF f (a.drop (i + 1)) (b.drop b.length) := by
  rw [List.drop_eq_getElem_cons h, hx, List.drop_length, difF]
theorem difF_putE {f k : Nat} {a b : List EntD} {y : EntD} (h : k < b.length) (hy : b[k] = y) : difF (f + 1) (a.drop a.length) (b.drop k) = putC y.key y.val :: difF f (a.drop a.length) (b.drop (k + 1)) := by
  rw [List.drop_eq_getElem_cons h, hy, List.drop_length, difF]
theorem difF_both {f i k : Nat} {a b : List EntD} {x y : EntD} (h : i < a.length) (hx : a[i] = x) (h2 : k < b.length) (hy : b[k] = y) : difF (f + 1) (a.drop i) (b.drop k) = if lessK x.key y.key = true then goneC x.key :: difF f (a.drop (i + 1)) (b.drop k) else if lessK y.key x.key = true then putC y.key y.val :: difF f (a.drop i) (b.drop (k + 1)) else (if x.val = y.val then [] else [putC y.key y.val]) ++ difF f (a.drop (i + 1)) (b.drop (k + 1)) := by
  rw [List.drop_eq_getElem_cons h, hx, List.drop_eq_getElem_cons h2, hy, difF]
theorem difF_none {f : Nat} {a b : List EntD} : difF (f + 1) (a.drop a.length) (b.drop b.length) = [] := by
  rw [List.drop_length, List.drop_length, difF]
theorem snoc_cons (l : List ChangeD) (x : ChangeD) (r : List ChangeD) : l ++ x :: r = (l ++ [x]) ++ r := by simp
theorem ent_cellsD {w : World} {ao : Option Addr} {es : List EntD} (h : EntriesAt w ao es) (j : Nat) (hj : j < es.length) : ∃ b off a c, ao = some ⟨b, off, none⟩ ∧ ∀ X, Below w.heap.size w X → X.cell? ⟨b, off + j * 5, none⟩ = some (.string es[j].key) ∧ X.cell? ⟨b, off + j * 5 + 1, none⟩ = some (.int .i64 es[j].val.kind) ∧ X.cell? ⟨b, off + j * 5 + 2, none⟩ = some (.int .i64 es[j].val.til) ∧ X.cell? ⟨b, off + j * 5 + 3, none⟩ = some (.string es[j].val.text) ∧ X.cell? ⟨b, off + j * 5 + 4, none⟩ = some (.slice a es[j].val.items.length c) ∧ TextsAt X a es[j].val.items := by
  obtain ⟨b, off, h1, h2, h3, h4, h5, h6, a, c, h7, h8⟩ := h j hj
  exact ⟨b, off, a, c, h1, fun X hX => ⟨(hX.cell (p := ⟨b, off + j * 5, none⟩) h2).trans h3, (hX.cell (p := ⟨b, off + j * 5 + 1, none⟩) h2).trans h4, (hX.cell (p := ⟨b, off + j * 5 + 2, none⟩) h2).trans h5, (hX.cell (p := ⟨b, off + j * 5 + 3, none⟩) h2).trans h6, (hX.cell (p := ⟨b, off + j * 5 + 4, none⟩) h2).trans h7, textsAt_keep h8 hX⟩⟩
theorem specDiffer_any (a b : List EntD) (ao1 ao2 : Option Addr) (c1 c2 : Nat) (w : World) (Ra Rb : Bool) (hRa : Ra = true ↔ TabR a) (hRb : Rb = true ↔ TabR b) (la : a.length ≤ 1048576) (lb : b.length ≤ 1048576) (ha : EntriesAt w ao1 a) (hb : EntriesAt w ao2 b) (za : ∀ e ∈ a, EntS 1048576 e) (zb : ∀ e ∈ b, EntS 1048576 e) :
    Calls Try.prog 5 #[.slice ao1 a.length c1, .slice ao2 b.length c2] w fun e w' => ∃ v, e = .returned v ∧ RowChange w' w.heap.size v (cond (Ra && Rb) (difF (a.length + b.length + 1) a b) []) ∧ Below w.heap.size w w' := by
  have TA := hide (fun W (hW : Below w.heap.size w W) => specTableOk_any a ao1 c1 W Ra hRa la (entriesAt_keep ha hW) za)
  have TB := hide (fun W (hW : Below w.heap.size w W) => specTableOk_any b ao2 c2 W Rb hRb lb (entriesAt_keep hb hW) zb)
  have HA := hide ha
  have HB := hide hb
  have HRA := hide hRa
  have HRB := hide hRb
  clear hRa hRb ha hb
  obtain ⟨W0, hW0⟩ : ∃ W0, W0 = w.alloc (.cells #[] 44) := ⟨_, rfl⟩
  have B0 : Hid (Below w.heap.size w W0) := by rw [hW0]; exact (Below.refl _ w).alloc (Nat.le_refl _) _
  have O0 : Hid (W0.ownsRow w.heap.size 44 3 (.slice (some ⟨w.heap.size, 0, none⟩) 0 0) ([] : List ChangeD).length (cellsChange [])) := by
    rw [hW0]
    exact ⟨rfl, .inr ⟨w.heap.size, 0, #[], rfl, Nat.le_refl _, heap_alloc_new _ _, Nat.le_refl _, Nat.zero_le _, rfl, rfl⟩⟩
  have z0 := B0.out.size
  cases Ra with
  | false =>
    go_enter Try.func5, Try.ntmps5
    go_wp2_with fail
    rw [← hW0]
    clear hW0
    refine (TA.out _ B0.out).mono ?_
    rintro e w1 ⟨rfl, b1⟩
    go_wp2
    go_ret
    exact ⟨_, rfl, rowChange_below (rowChange_own O0.out) b1, B0.out.trans (b1.mono z0)⟩
  | true =>
  cases Rb with
  | false =>
    go_enter Try.func5, Try.ntmps5
    go_wp2_with fail
    rw [← hW0]
    clear hW0
    refine (TA.out _ B0.out).mono ?_
    rintro e w1 ⟨rfl, b1⟩
    have B1 := hide (B0.out.trans (b1.mono z0))
    have z1 := B1.out.size
    have O1 := hide (ownsRow_below O0.out b1)
    clear b1
    go_wp2_with fail
    refine (TB.out _ B1.out).mono ?_
    rintro e w2 ⟨rfl, b2⟩
    go_wp2
    go_ret
    exact ⟨_, rfl, rowChange_below (rowChange_own O1.out) b2, B1.out.trans (b2.mono z1)⟩
  | true =>
  have hTa := HRA.out.1 rfl
  have hTb := HRB.out.1 rfl
  have hla : a.length ≤ 20 := hTa.1
  have hlb : b.length ≤ 20 := hTb.1
  have HVB := hide (fun j (h : j < b.length) => (entsR_of hTb j h).2.1)
  obtain ⟨R, HR⟩ : ∃ R, Hid (difF (a.length + b.length + 1) a b = R) := ⟨_, rfl⟩
  show Calls _ _ _ _ fun e w' => ∃ v, e = .returned v ∧ RowChange w' w.heap.size v (difF (a.length + b.length + 1) a b) ∧ Below w.heap.size w w'
  rw [HR.out]
  clear hTa hTb HRA HRB la lb
  have HZA := hide za
  have HZB := hide zb
  clear za zb
  go_enter Try.func5, Try.ntmps5
  go_wp2_with fail
  rw [← hW0]
  clear hW0
  refine (TA.out _ B0.out).mono ?_
  rintro e w1 ⟨rfl, b1⟩
  have B1 := hide (B0.out.trans (b1.mono z0))
  have z1 := B1.out.size
  have O1 := hide (ownsRow_below O0.out b1)
  clear b1
  go_wp2_with fail
  refine (TB.out _ B1.out).mono ?_
  rintro e w2 ⟨rfl, b2⟩
  have B2 := hide (B1.out.trans (b2.mono z1))
  have O2 := hide (ownsRow_below O1.out b2)
  clear b2 O1 O0 B1 B0
  go_wp2_with fail
  go_loopw [5, 6, 7] (fun v5 v6 v7 wr => ∃ (i k f : Nat) (acc : List ChangeD) (aa : Option Addr) (cc : Nat), v5 = .slice aa acc.length cc ∧ v6 = .int .i64 (i : Int) ∧ v7 = .int .i64 (k : Int) ∧ i ≤ a.length ∧ k ≤ b.length ∧ (a.length - i) + (b.length - k) < f ∧ acc.length ≤ i + k ∧ Hid (acc ++ difF f (a.drop i) (b.drop k) = R) ∧ Hid (wr.ownsRow w.heap.size 44 3 (.slice aa acc.length cc) acc.length (cellsChange acc)) ∧ Hid (Below w.heap.size w wr)) (fun _ v6 v7 _ => (a.length - (intOf v6).toNat) + (b.length - (intOf v7).toNat))
  case atStart => exact ⟨0, 0, a.length + b.length + 1, [], _, _, rfl, rfl, rfl, by omega, by omega, by omega, by simp, HR.out, O2, B2⟩
  case round =>
    clear O2 B2
    obtain ⟨i, k, f, acc, aa, cc, rfl, rfl, rfl, hi, hk, hf, hal, HE, HO, HBW⟩ := hrel
    obtain ⟨f, rfl⟩ : ∃ f', f = f' + 1 := ⟨f - 1, by omega⟩
    have zr := HBW.out.size
    have hi0 : (0 : Int) ≤ (i : Int) := by omega
    have hk0 : (0 : Int) ≤ (k : Int) := by omega
    by_cases hia : i < a.length
    · have hia' : decide ((i : Int) < (a.length : Int)) = true := by simp; omega
      have hia2 : (i : Int) < (a.length : Int) := by omega
      have hia3 : ((i : Int) == (a.length : Int)) = false := by simp; omega
      obtain ⟨ba, oa, ra, qa, rfl, KA⟩ := ent_cellsD (entriesAt_keep HA.out HBW.out) i hia
      obtain ⟨x, hx⟩ : ∃ x, Hid (a[i] = x) := ⟨a[i], hide rfl⟩
      rw [hx.out] at KA
      have HKA := hide KA
      obtain ⟨p0, p1, p2, p3, p4, -⟩ := KA wr (Below.refl _ _)
      clear KA
      by_cases hkb : k < b.length
      · have hkb' : decide ((k : Int) < (b.length : Int)) = true := by simp; omega
        have hkb2 : (k : Int) < (b.length : Int) := by omega
        have hkb3 : ((k : Int) == (b.length : Int)) = false := by simp; omega
        obtain ⟨bb, ob, rb, qb, rfl, KB⟩ := ent_cellsD (entriesAt_keep HB.out HBW.out) k hkb
        obtain ⟨y, hy⟩ : ∃ y, Hid (b[k] = y) := ⟨b[k], hide rfl⟩
        have hyv := HVB.out k hkb
        rw [hy.out] at KB hyv
        obtain ⟨-, -, -, -, v5, v6, v7⟩ := valR_bounds hyv
        have HKB := hide KB
        have HVT : Hid (∀ W, Below wr.heap.size wr W → Calls Try.prog 15 #[.agg #[.int .i64 y.val.kind, .int .i64 y.val.til, .string y.val.text, .slice rb y.val.items.length qb]] W fun e w' => e = .returned (.tuple #[.string (valT y.val), .bool true]) ∧ Below W.heap.size W w') := fun W hW =>
          specValText_any y.val rb qb W true ⟨fun _ => hyv, fun _ => rfl⟩ (by omega) (by unfold maxLen; omega) (HKB.out W hW).2.2.2.2.2 (fun s hs => by have := v7 s hs; unfold maxLen; omega)
        have HYV := hide hyv
        obtain ⟨q0, q1, q2, q3, q4, -⟩ := KB wr (Below.refl _ _)
        obtain ⟨TY, HTY⟩ : ∃ TY, Hid (valT y.val = TY) := ⟨_, hide rfl⟩
        rw [HTY.out] at HVT
        have HPC : Hid (putC y.key y.val = ⟨y.key, TY, false⟩) := by show _ = _; unfold putC; rw [HTY.out]
        clear KB hyv v5 v6 v7
        have HDB := hide (difF_both (f := f) hia hx.out hkb hy.out)
        by_cases hxy : lessK x.key y.key = true
        · have hxy' : Op.bytesLess x.key.toList y.key.toList = true := hxy
          have HE2 : Hid ((acc ++ [goneC x.key]) ++ difF f (a.drop (i + 1)) (b.drop k) = R) := by show _ = _; rw [← HE.out, HDB.out, if_pos hxy]; exact (snoc_cons _ _ _).symm
          clear HE HDB hxy
          go_wp2_with fail
          go_quiet (fail)
          obtain ⟨wq, hwq⟩ : ∃ wq, wq = wr.drewN nq := ⟨_, rfl⟩
          have BQ : Hid (Below wr.heap.size wr wq) := by rw [hwq]; exact drewN_below _ _
          have OQ := hide (ownsRow_below HO.out BQ.out)
          have zq := BQ.out.size
          rw [← hwq]
          clear hwq p0 p1 p2 p3 p4 q0 q1 q2 q3 q4
          obtain ⟨p0, p1, p2, p3, p4, -⟩ := HKA.out wq BQ.out
          go_wp2_with (at_builtin; refine app_change _ w.heap.size (by rfl) _ _ (by rfl) _ acc (goneC x.key) (by rfl) (OQ.out.alloc _) wq.heap.size (by simp [Act.eval]) (heap_alloc_new wq _) (by omega) (by simp; omega) ?_; intro g9 cap9 w9 ho9 hb9 hg9 hgl9; have O9 := hide ho9; have B9 := hide (((HBW.out.trans (BQ.out.mono zr)).alloc (by omega) _).trans hb9); clear ho9 hb9 hg9 hgl9)
          go_roundw
          case rel => exact ⟨i + 1, k, f, acc ++ [goneC x.key], some ⟨g9, 0, none⟩, cap9, by simp, by go_num, rfl, by omega, by omega, by omega, by simp; omega, HE2, by rw [List.length_append]; rw [List.length_append] at O9; exact O9, B9⟩
          case measure => simp [intOf]; omega
        · have hxy' : Op.bytesLess x.key.toList y.key.toList = false := by simpa [lessK] using hxy
          by_cases hyx : lessK y.key x.key = true
          · have hyx' : Op.bytesLess y.key.toList x.key.toList = true := hyx
            have HE2 : Hid ((acc ++ [⟨y.key, TY, false⟩]) ++ difF f (a.drop i) (b.drop (k + 1)) = R) := by show _ = _; rw [← HE.out, HDB.out, if_neg hxy, if_pos hyx, ← HPC.out]; exact (snoc_cons _ _ _).symm
            clear HE HDB hxy hyx
            go_wp2_with fail
            go_quiet (fail)
            obtain ⟨wq, hwq⟩ : ∃ wq, wq = wr.drewN nq := ⟨_, rfl⟩
            have Bwq0 : Hid (Below wr.heap.size wr wq) := by rw [hwq]; exact drewN_below _ _
            have Bwq : Hid (Below wr.heap.size wr wq) := Bwq0
            have Owq := hide (ownsRow_below HO.out Bwq0.out)
            have zwq := Bwq.out.size
            rw [← hwq]
            clear hwq Bwq0 p0 p1 p2 p3 p4 q0 q1 q2 q3 q4
            obtain ⟨p0, p1, p2, p3, p4, -⟩ := HKA.out wq Bwq.out
            obtain ⟨q0, q1, q2, q3, q4, -⟩ := HKB.out wq Bwq.out
            go_wp2_with fail
            go_quiet (fail)
            obtain ⟨wp, hwp⟩ : ∃ wp, wp = wq.drewN nq := ⟨_, rfl⟩
            have Bwp0 : Hid (Below wq.heap.size wq wp) := by rw [hwp]; exact drewN_below _ _
            have Bwp : Hid (Below wr.heap.size wr wp) := Bwq.out.trans (Bwp0.out.mono Bwq.out.size)
            have Owp := hide (ownsRow_below Owq.out Bwp0.out)
            have zwp := Bwp.out.size
            rw [← hwp]
            clear hwp Bwp0 p0 p1 p2 p3 p4 q0 q1 q2 q3 q4
            obtain ⟨q0, q1, q2, q3, q4, -⟩ := HKB.out wp Bwp.out
            go_wp2_with fail
            refine (HVT.out _ Bwp.out).mono ?_
            rintro e w4 ⟨rfl, b4⟩
            have B4 := hide (Bwp.out.trans (b4.mono zwp))
            have O4 := hide (ownsRow_below Owp.out b4)
            have z4 := B4.out.size
            clear b4 q0 q1 q2 q3 q4
            obtain ⟨q0, q1, q2, q3, q4, -⟩ := HKB.out w4 B4.out
            go_wp2_with (at_builtin; refine app_change _ w.heap.size (by rfl) _ _ (by rfl) _ acc (⟨y.key, TY, false⟩) (by rfl) (O4.out.alloc _) w4.heap.size (by simp [Act.eval]) (heap_alloc_new w4 _) (by omega) (by simp; omega) ?_; intro g9 cap9 w9 ho9 hb9 hg9 hgl9; have O9 := hide ho9; have B9 := hide (((HBW.out.trans (B4.out.mono zr)).alloc (by omega) _).trans hb9); clear ho9 hb9 hg9 hgl9)
            go_roundw
            case rel => exact ⟨i, k + 1, f, acc ++ [⟨y.key, TY, false⟩], some ⟨g9, 0, none⟩, cap9, by simp, rfl, by go_num, by omega, by omega, by omega, by simp; omega, HE2, by rw [List.length_append]; rw [List.length_append] at O9; exact O9, B9⟩
            case measure => simp [intOf]; omega
          · have hyx' : Op.bytesLess y.key.toList x.key.toList = false := by simpa [lessK] using hyx
            have HE2 : Hid (acc ++ ((if x.val = y.val then [] else [⟨y.key, TY, false⟩]) ++ difF f (a.drop (i + 1)) (b.drop (k + 1))) = R) := by show _ = _; rw [← HE.out, HDB.out, if_neg hxy, if_neg hyx, ← HPC.out]
            clear HE HDB hxy hyx
            go_wp2_with fail
            go_quiet (fail)
            obtain ⟨wq, hwq⟩ : ∃ wq, wq = wr.drewN nq := ⟨_, rfl⟩
            have Bwq0 : Hid (Below wr.heap.size wr wq) := by rw [hwq]; exact drewN_below _ _
            have Bwq : Hid (Below wr.heap.size wr wq) := Bwq0
            have Owq := hide (ownsRow_below HO.out Bwq0.out)
            have zwq := Bwq.out.size
            rw [← hwq]
            clear hwq Bwq0 p0 p1 p2 p3 p4 q0 q1 q2 q3 q4
            obtain ⟨p0, p1, p2, p3, p4, -⟩ := HKA.out wq Bwq.out
            obtain ⟨q0, q1, q2, q3, q4, -⟩ := HKB.out wq Bwq.out
            go_wp2_with fail
            go_quiet (fail)
            obtain ⟨wp, hwp⟩ : ∃ wp, wp = wq.drewN nq := ⟨_, rfl⟩
            have Bwp0 : Hid (Below wq.heap.size wq wp) := by rw [hwp]; exact drewN_below _ _
            have Bwp : Hid (Below wr.heap.size wr wp) := Bwq.out.trans (Bwp0.out.mono Bwq.out.size)
            have Owp := hide (ownsRow_below Owq.out Bwp0.out)
            have zwp := Bwp.out.size
            rw [← hwp]
            clear hwp Bwp0 p0 p1 p2 p3 p4 q0 q1 q2 q3 q4
            obtain ⟨p0, p1, p2, p3, p4, -⟩ := HKA.out wp Bwp.out
            obtain ⟨q0, q1, q2, q3, q4, -⟩ := HKB.out wp Bwp.out
            have KS : Hid (∀ X, Below wp.heap.size wp X → (X.cell? ⟨ba, oa + i * 5 + 1, none⟩ = some (.int .i64 x.val.kind) ∧ X.cell? ⟨ba, oa + i * 5 + 2, none⟩ = some (.int .i64 x.val.til) ∧ X.cell? ⟨ba, oa + i * 5 + 3, none⟩ = some (.string x.val.text) ∧ X.cell? ⟨ba, oa + i * 5 + 4, none⟩ = some (.slice ra x.val.items.length qa)) ∧ X.cell? ⟨bb, ob + k * 5 + 1, none⟩ = some (.int .i64 y.val.kind) ∧ X.cell? ⟨bb, ob + k * 5 + 2, none⟩ = some (.int .i64 y.val.til) ∧ X.cell? ⟨bb, ob + k * 5 + 3, none⟩ = some (.string y.val.text) ∧ X.cell? ⟨bb, ob + k * 5 + 4, none⟩ = some (.slice rb y.val.items.length qb)) := fun X hX => by
              have hX2 := Bwp.out.trans (hX.mono zwp)
              obtain ⟨-, e1, e2, e3, e4, -⟩ := HKA.out X hX2
              obtain ⟨-, d1, d2, d3, d4, -⟩ := HKB.out X hX2
              exact ⟨⟨e1, e2, e3, e4⟩, d1, d2, d3, d4⟩
            have hxl : x.val.items.length ≤ 1048576 := by
              have := HZA.out a[i] (List.getElem_mem hia)
              rw [hx.out] at this
              exact this.2.2.1
            have hyl : y.val.items.length ≤ 1048576 := by have := (valR_bounds HYV.out).2.2.2.2.2.1; omega
            obtain ⟨E, HEQ⟩ : ∃ E : Bool, Hid (decide (x.val = y.val) = E) := ⟨_, rfl⟩
            have HSA : Hid (∀ W, Below wp.heap.size wp W → Calls Try.prog 16 #[.agg #[.int .i64 x.val.kind, .int .i64 x.val.til, .string x.val.text, .slice ra x.val.items.length qa], .agg #[.int .i64 y.val.kind, .int .i64 y.val.til, .string y.val.text, .slice rb y.val.items.length qb]] W fun e w' => e = .returned (.bool E) ∧ Below W.heap.size W w') := fun W hW => by
              have hX2 := Bwp.out.trans (hW.mono zwp)
              have h := l10Same_any x.val y.val ra rb qa qb W hxl hyl (HKA.out W hX2).2.2.2.2.2 (HKB.out W hX2).2.2.2.2.2
              rw [HEQ.out] at h
              exact h
            go_wp2_with fail
            go_region_held3 (fun X => (X.cell? ⟨ba, oa + i * 5 + 1, none⟩ = some (.int .i64 x.val.kind) ∧ X.cell? ⟨ba, oa + i * 5 + 2, none⟩ = some (.int .i64 x.val.til) ∧ X.cell? ⟨ba, oa + i * 5 + 3, none⟩ = some (.string x.val.text) ∧ X.cell? ⟨ba, oa + i * 5 + 4, none⟩ = some (.slice ra x.val.items.length qa)) ∧ X.cell? ⟨bb, ob + k * 5 + 1, none⟩ = some (.int .i64 y.val.kind) ∧ X.cell? ⟨bb, ob + k * 5 + 2, none⟩ = some (.int .i64 y.val.til) ∧ X.cell? ⟨bb, ob + k * 5 + 3, none⟩ = some (.string y.val.text) ∧ X.cell? ⟨bb, ob + k * 5 + 4, none⟩ = some (.slice rb y.val.items.length qb)) (first | (exact KS.out _ (Below.refl _ _)) | (exact KS.out _ (Below.refl _ _).drew) | (exact KS.out _ ((Below.refl _ _).drew.trans b5)) | fail) ((go_at_call 16; refine (HSA.out _ (by first | exact Below.refl _ _ | exact (Below.refl _ _).drew)).mono ?_; rintro e w5 ⟨rfl, b5⟩))
            have B5 := hide (Bwp.out.trans (((Below.refl _ _).drew.trans b5).mono zwp))
            have O5 := hide (ownsRow_below Owp.out ((Below.refl _ _).drew.trans b5))
            have z5 := B5.out.size
            clear b5 p0 p1 p2 p3 p4 q0 q1 q2 q3 q4 KS HSA
            cases E
            · have HE3 : Hid ((acc ++ [⟨y.key, TY, false⟩]) ++ difF f (a.drop (i + 1)) (b.drop (k + 1)) = R) := by show _ = _; rw [← HE2.out, if_neg (of_decide_eq_false HEQ.out)]; simp
              clear HE2 HEQ
              have HE2 := HE3
              clear HE3
              obtain ⟨q0, q1, q2, q3, q4, -⟩ := HKB.out w5 B5.out
              go_wp2_with fail
              refine (HVT.out _ B5.out).mono ?_
              rintro e w4 ⟨rfl, b4⟩
              have B4 := hide (B5.out.trans (b4.mono z5))
              have O4 := hide (ownsRow_below O5.out b4)
              have z4 := B4.out.size
              clear b4 q0 q1 q2 q3 q4
              obtain ⟨q0, q1, q2, q3, q4, -⟩ := HKB.out w4 B4.out
              go_wp2_with (at_builtin; refine app_change _ w.heap.size (by rfl) _ _ (by rfl) _ acc (⟨y.key, TY, false⟩) (by rfl) (O4.out.alloc _) w4.heap.size (by simp [Act.eval]) (heap_alloc_new w4 _) (by omega) (by simp; omega) ?_; intro g9 cap9 w9 ho9 hb9 hg9 hgl9; have O9 := hide ho9; have B9 := hide (((HBW.out.trans (B4.out.mono zr)).alloc (by omega) _).trans hb9); clear ho9 hb9 hg9 hgl9)
              go_roundw
              case rel => exact ⟨i + 1, k + 1, f, acc ++ [⟨y.key, TY, false⟩], some ⟨g9, 0, none⟩, cap9, by simp, by go_num, by go_num, by omega, by omega, by omega, by simp; omega, HE2, by rw [List.length_append]; rw [List.length_append] at O9; exact O9, B9⟩
              case measure => simp [intOf]; omega
            · have HE3 : Hid (acc ++ difF f (a.drop (i + 1)) (b.drop (k + 1)) = R) := by show _ = _; rw [← HE2.out, if_pos (of_decide_eq_true HEQ.out)]; rfl
              clear HE2 HEQ
              go_wp2
              go_roundw
              case rel => exact ⟨i + 1, k + 1, f, acc, aa, cc, rfl, by go_num, by go_num, by omega, by omega, by omega, by omega, HE3, O5, HBW.out.trans (B5.out.mono zr)⟩
              case measure => simp [intOf]; omega
      · have hkb3 : ((k : Int) == (b.length : Int)) = true := by simp; omega
        have hkb : k = b.length := by omega
        subst hkb
        have HE2 : Hid ((acc ++ [goneC x.key]) ++ difF f (a.drop (i + 1)) (b.drop b.length) = R) := by show _ = _; rw [← HE.out, difF_goneE hia hx.out]; exact (snoc_cons _ _ _).symm
        clear HE
        go_wp2_with fail
        go_quiet (fail)
        obtain ⟨wq, hwq⟩ : ∃ wq, wq = wr.drewN nq := ⟨_, rfl⟩
        have BQ : Hid (Below wr.heap.size wr wq) := by rw [hwq]; exact drewN_below _ _
        have OQ := hide (ownsRow_below HO.out BQ.out)
        have zq := BQ.out.size
        rw [← hwq]
        clear hwq p0 p1 p2 p3 p4
        obtain ⟨p0, p1, p2, p3, p4, -⟩ := HKA.out wq BQ.out
        go_wp2_with (at_builtin; refine app_change _ w.heap.size (by rfl) _ _ (by rfl) _ acc (goneC x.key) (by rfl) (OQ.out.alloc _) wq.heap.size (by simp [Act.eval]) (heap_alloc_new wq _) (by omega) (by simp; omega) ?_; intro g9 cap9 w9 ho9 hb9 hg9 hgl9; have O9 := hide ho9; have B9 := hide (((HBW.out.trans (BQ.out.mono zr)).alloc (by omega) _).trans hb9); clear ho9 hb9 hg9 hgl9)
        go_roundw
        case rel => exact ⟨i + 1, b.length, f, acc ++ [goneC x.key], some ⟨g9, 0, none⟩, cap9, by simp, by go_num, rfl, by omega, by omega, by omega, by simp; omega, HE2, by rw [List.length_append]; rw [List.length_append] at O9; exact O9, B9⟩
        case measure => simp [intOf]; omega
    · have hia' : decide ((i : Int) < (a.length : Int)) = false := by simp; omega
      have hia3 : ((i : Int) == (a.length : Int)) = true := by simp; omega
      have hia : i = a.length := by omega
      subst hia
      by_cases hkb : k < b.length
      · have hkb' : decide ((k : Int) < (b.length : Int)) = true := by simp; omega
        have hkb2 : (k : Int) < (b.length : Int) := by omega
        have hkb3 : ((k : Int) == (b.length : Int)) = false := by simp; omega
        obtain ⟨bb, ob, rb, qb, rfl, KB⟩ := ent_cellsD (entriesAt_keep HB.out HBW.out) k hkb
        obtain ⟨y, hy⟩ : ∃ y, Hid (b[k] = y) := ⟨b[k], hide rfl⟩
        have hyv := HVB.out k hkb
        rw [hy.out] at KB hyv
        obtain ⟨-, -, -, -, v5, v6, v7⟩ := valR_bounds hyv
        have HKB := hide KB
        have HVT : Hid (∀ W, Below wr.heap.size wr W → Calls Try.prog 15 #[.agg #[.int .i64 y.val.kind, .int .i64 y.val.til, .string y.val.text, .slice rb y.val.items.length qb]] W fun e w' => e = .returned (.tuple #[.string (valT y.val), .bool true]) ∧ Below W.heap.size W w') := fun W hW =>
          specValText_any y.val rb qb W true ⟨fun _ => hyv, fun _ => rfl⟩ (by omega) (by unfold maxLen; omega) (HKB.out W hW).2.2.2.2.2 (fun s hs => by have := v7 s hs; unfold maxLen; omega)
        have HYV := hide hyv
        obtain ⟨q0, q1, q2, q3, q4, -⟩ := KB wr (Below.refl _ _)
        obtain ⟨TY, HTY⟩ : ∃ TY, Hid (valT y.val = TY) := ⟨_, hide rfl⟩
        rw [HTY.out] at HVT
        have HPC : Hid (putC y.key y.val = ⟨y.key, TY, false⟩) := by show _ = _; unfold putC; rw [HTY.out]
        clear KB hyv v5 v6 v7
        have HE2 : Hid ((acc ++ [⟨y.key, TY, false⟩]) ++ difF f (a.drop a.length) (b.drop (k + 1)) = R) := by show _ = _; rw [← HE.out, difF_putE hkb hy.out, ← HPC.out]; exact (snoc_cons _ _ _).symm
        clear HE
        go_wp2_with fail
        go_quiet (fail)
        obtain ⟨wq, hwq⟩ : ∃ wq, wq = wr.drewN nq := ⟨_, rfl⟩
        have Bwq0 : Hid (Below wr.heap.size wr wq) := by rw [hwq]; exact drewN_below _ _
        have Bwq : Hid (Below wr.heap.size wr wq) := Bwq0
        have Owq := hide (ownsRow_below HO.out Bwq0.out)
        have zwq := Bwq.out.size
        rw [← hwq]
        clear hwq Bwq0 q0 q1 q2 q3 q4
        obtain ⟨q0, q1, q2, q3, q4, -⟩ := HKB.out wq Bwq.out
        go_wp2_with fail
        go_quiet (fail)
        obtain ⟨wp, hwp⟩ : ∃ wp, wp = wq.drewN nq := ⟨_, rfl⟩
        have Bwp0 : Hid (Below wq.heap.size wq wp) := by rw [hwp]; exact drewN_below _ _
        have Bwp : Hid (Below wr.heap.size wr wp) := Bwq.out.trans (Bwp0.out.mono Bwq.out.size)
        have Owp := hide (ownsRow_below Owq.out Bwp0.out)
        have zwp := Bwp.out.size
        rw [← hwp]
        clear hwp Bwp0 q0 q1 q2 q3 q4
        obtain ⟨q0, q1, q2, q3, q4, -⟩ := HKB.out wp Bwp.out
        go_wp2_with fail
        refine (HVT.out _ Bwp.out).mono ?_
        rintro e w4 ⟨rfl, b4⟩
        have B4 := hide (Bwp.out.trans (b4.mono zwp))
        have O4 := hide (ownsRow_below Owp.out b4)
        have z4 := B4.out.size
        clear b4 q0 q1 q2 q3 q4
        obtain ⟨q0, q1, q2, q3, q4, -⟩ := HKB.out w4 B4.out
        go_wp2_with (at_builtin; refine app_change _ w.heap.size (by rfl) _ _ (by rfl) _ acc (⟨y.key, TY, false⟩) (by rfl) (O4.out.alloc _) w4.heap.size (by simp [Act.eval]) (heap_alloc_new w4 _) (by omega) (by simp; omega) ?_; intro g9 cap9 w9 ho9 hb9 hg9 hgl9; have O9 := hide ho9; have B9 := hide (((HBW.out.trans (B4.out.mono zr)).alloc (by omega) _).trans hb9); clear ho9 hb9 hg9 hgl9)
        go_roundw
        case rel => exact ⟨a.length, k + 1, f, acc ++ [⟨y.key, TY, false⟩], some ⟨g9, 0, none⟩, cap9, by simp, rfl, by go_num, by omega, by omega, by omega, by simp; omega, HE2, by rw [List.length_append]; rw [List.length_append] at O9; exact O9, B9⟩
        case measure => simp [intOf]; omega
      · have hkb' : decide ((k : Int) < (b.length : Int)) = false := by simp; omega
        have hkb : k = b.length := by omega
        subst hkb
        have HFin : Hid (acc = R) := by show _ = _; rw [← HE.out, difF_none, List.append_nil]
        go_wp2
        go_ret
        rw [← HFin.out]
        exact ⟨_, rfl, rowChange_own HO.out, HBW.out⟩
theorem clone_any (s : ByteArray) (w : World) (hs : s.size ≤ 1048576) :
    Calls Try.prog 56 #[.string s] w fun e w' => e = .returned (.string s) ∧ Below w.heap.size w w' := by
  by_cases h0 : s.size = 0
  · have e0 : s = ⟨#[]⟩ := ByteArray.ext (Array.eq_empty_of_size_eq_zero h0)
    subst e0
    go_enter Try.func56, Try.ntmps56
    go_wp2
    go_ret
    exact ⟨rfl, Below.refl _ _⟩
  · obtain ⟨i0, hi, hz0, hz1, hz2⟩ := info_parts Try.info5
    have hinfo : (Try.prog.info? 5).map (·.size) = some 1 := by rw [hi]; simp [hz1]
    obtain ⟨M, hM⟩ : ∃ M, M = madeCells (Value.int .u8 0).cells (((s.size : Nat) : Int).toNat * i0.size) := ⟨_, rfl⟩
    have hmk : ∀ W : World, (Instr.makeSlice 64 (.int .i64 (s.size : Int)) (.int .i64 (s.size : Int))).run Try.prog W = .ok (.slice (some ⟨W.heap.size, 0, none⟩) s.size s.size) (W.alloc (.cells M 5)) := fun W => by
      have h := run_make (P := Try.prog) W 64 5 i0 (.int .u8 0) Try.underlying64 hi hz0 .i64 .i64 (s.size : Int) (s.size : Int) (by omega) (by omega) (by rw [hz2]; omega) (by omega)
      rw [← hM] at h
      simpa using h
    have hMs : M.size = s.size := by rw [hM, size_madeCells, hz1]; simp
    clear hM
    have hcp := Lib.run_copy_row_string (P := Try.prog) (w.alloc (.cells M 5)) 64 9 3 5 w.heap.size 0 s.size s.size s M 5 Try.underlying64 hinfo (heap_alloc_new w _) (Nat.le_refl _) (by omega)
    obtain ⟨Y, hY⟩ : ∃ Y, Y = (M.toList.take 0 ++ Lib.byteCells s.data.toList ++ M.toList.drop (0 + s.size)).toArray := ⟨_, rfl⟩
    rw [← hY] at hcp
    have hYl : Y.toList = Lib.byteCells s.data.toList := by
      rw [hY, List.toList_toArray, List.take_zero, List.nil_append, List.drop_of_length_le (by rw [Array.length_toList]; omega), List.append_nil]
    have hYs : Y.size = s.size := by rw [← Array.length_toList, hYl, Lib.byteCells_length, ← Lib.size_eq]
    have hgY : ((w.alloc (.cells M 5)).setRow w.heap.size Y).heap[w.heap.size]? = some (.cells Y 5 (0, 0)) := setRow_heap _ _ M _ 5 (0, 0) (heap_alloc_new w _)
    have hne : s.data.toList ≠ [] := fun e => h0 (by rw [Lib.size_eq, e]; rfl)
    have hUS := Lib.run_unsafeString_row (P := Try.prog) ((w.alloc (.cells M 5)).setRow w.heap.size Y) 102 3 9 5 Try.underlying102 Try.cells5 w.heap.size Y.size (by unfold World.shape?; rw [hgY]) s.data.toList hne (by rw [← Lib.size_eq]; omega) (by rw [← Lib.size_eq]; omega)
      (fun j x hx => Lib.cells_of_row hgY Y.size j _ (by rw [List.take_of_length_le (by rw [Array.length_toList]; exact Nat.le_refl _), hYl]; simp [Lib.byteCells, hx]))
    rw [← Lib.size_eq] at hUS
    clear hY
    go_enter Try.func56, Try.ntmps56
    go_wp2
    go_ret
    have hb1 : Below w.heap.size w (w.alloc (.cells M 5)) := (Below.refl _ w).alloc (Nat.le_refl _) _
    have hb2 : Below w.heap.size (w.alloc (.cells M 5)) ((w.alloc (.cells M 5)).setRow w.heap.size Y) := ⟨rfl, rfl, rfl, by simp, fun k hk => setRow_other _ _ _ _ (by omega)⟩
    exact ⟨rfl, Lib.below_freeze (hb1.trans hb2) (p := ⟨w.heap.size, 0, none⟩) (Nat.le_refl _) _⟩
theorem ownText_any (s : ByteArray) (w : World) (hs : s.size ≤ 1048576) :
    Calls Try.prog 24 #[.string s] w fun e w' => e = .returned (.string s) ∧ Below w.heap.size w w' := by
  go_enter Try.func24, Try.ntmps24
  go_wp2_with (first | (go_at_call 56; refine (clone_any s _ hs).mono ?_; rintro e w' ⟨rfl, hb⟩) | go_in)
  go_ret
  exact ⟨rfl, hb⟩
end Go.Proofs.Ytfgammkmkhfbpaa
