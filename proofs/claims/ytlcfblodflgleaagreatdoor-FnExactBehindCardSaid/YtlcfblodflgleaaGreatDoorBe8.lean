import Derived.WalkKit
import Derived.Laws.BitsAllLaws
import Derived.Laws.OwnMore
import Derived.Test.YtlcfblodflgleaaGreatDoorBe0
import Derived.Test.YtlcfblodflgleaaGreatDoorBe2
set_option maxRecDepth 100000
set_option maxHeartbeats 400000
namespace Go.Proofs.YtlcfblodflgleaaGreatDoor
open Go.RowKit
def rvAns : Option (Nat × Nat) → Value
  | some (n, p) => .tuple #[.int .i64 n, .int .i64 p, .bool true]
  | none => .tuple #[.int .i64 0, .int .i64 0, .bool false]
theorem ret3 {a a' b b' : Int} {c : Bool} (h1 : a = a') (h2 : b = b') : Ending.returned (.tuple #[.int .i64 a, .int .i64 b, .bool c]) = .returned (.tuple #[.int .i64 a', .int .i64 b', .bool c]) := by rw [h1, h2]
theorem Wd.rvF_bounds (s : ByteArray) : ∀ f p k q n a b, Wd.rvF s f p k q n = some (a, b) → a ≤ 1000000000 ∧ p < b ∧ b ≤ s.size := by
  intro f
  induction f with
  | zero => intro p k q n a b h; simp [Wd.rvF] at h
  | succ f ih =>
    intro p k q n a b h
    by_cases h1 : p < s.size
    · by_cases h2 : Wd.bt s p < 128
      · by_cases h3 : n + Wd.bt s p % 128 * q ≤ 1000000000 ∧ (0 < Wd.bt s p ∨ k = 0)
        · rw [Wd.rvF_last s f p k q n h1 h2 h3.1 h3.2] at h
          simp at h
          omega
        · rw [Wd.rvF_not s f p k q n h2 h3] at h; simp at h
      · rw [Wd.rvF_more s f p k q n h1 h2] at h
        have := ih _ _ _ _ _ _ h
        omega
    · rw [Wd.rvF_end s _ p k q n h1] at h; simp at h
theorem Wd.rv_bounds (s : ByteArray) (i a b : Nat) (h : Wd.rv s i = some (a, b)) : a ≤ 1000000000 ∧ i < b ∧ b ≤ s.size := Wd.rvF_bounds s _ _ _ _ _ _ _ h
def Wd.rvI (s : ByteArray) (i : Int) : Option (Nat × Nat) := if i < 0 ∨ (s.size : Int) < i then none else Wd.rv s i.toNat
theorem Wd.rvI_bounds (s : ByteArray) (i : Int) (a b : Nat) (h : Wd.rvI s i = some (a, b)) : a ≤ 1000000000 ∧ b ≤ s.size := by
  unfold Wd.rvI at h
  split at h
  · simp at h
  · have := Wd.rv_bounds s _ _ _ h; omega
end Go.Proofs.YtlcfblodflgleaaGreatDoor
namespace Go.Proofs.YtlcfblodflgleaaGreatDoor
def hv (s : Nat) : Nat := if s % 2 = 1 then s / 2 ^^^ 3558460437 else s / 2
def hvN : Nat → Nat → Nat
  | 0, s => s
  | k + 1, s => hvN k (hv s)
def sb (s b : Nat) : Nat := hvN 8 (s ^^^ b)
def sumL (s : Nat) (l : List UInt8) : Nat := l.foldl (fun s b => sb s b.toNat) s
def htab : List Nat := [0x00000000, 0x4589ac8d, 0x8b13591a, 0xce9af597, 0xbe152a1f, 0xfb9c8692, 0x35067305, 0x708fdf88, 0xd419cc15, 0x91906098, 0x5f0a950f, 0x1a833982, 0x6a0ce60a, 0x2f854a87, 0xe11fbf10, 0xa496139d]
def four (x : Nat) : List UInt8 := [UInt8.ofNat (x / 16777216), UInt8.ofNat (x / 65536), UInt8.ofNat (x / 256), UInt8.ofNat x]
theorem xor_lt32 {a b : Nat} (ha : a < 4294967296) (hb : b < 4294967296) : a ^^^ b < 4294967296 := Nat.xor_lt_two_pow (n := 32) ha hb
theorem hv_lt {s : Nat} (h : s < 4294967296) : hv s < 4294967296 := by
  unfold hv
  split
  · exact xor_lt32 (by omega) (by decide)
  · omega
theorem hv_xor (a b : Nat) : hv (a ^^^ b) = hv a ^^^ hv b := by
  unfold hv
  have h2 : (a ^^^ b) / 2 = a / 2 ^^^ b / 2 := Nat.xor_div_two
  have hm : (a ^^^ b) % 2 = (a + b) % 2 := by
    have e : (a ^^^ b) % 2 ^ 1 = a % 2 ^ 1 ^^^ b % 2 ^ 1 := Nat.xor_mod_two_pow
    simp only [Nat.pow_one] at e
    rw [e]
    rcases Nat.mod_two_eq_zero_or_one a with ha | ha <;> rcases Nat.mod_two_eq_zero_or_one b with hb | hb <;> rw [ha, hb] <;> simp [Nat.add_mod, ha, hb]
  rw [h2, hm]
  rcases Nat.mod_two_eq_zero_or_one a with ha | ha <;> rcases Nat.mod_two_eq_zero_or_one b with hb | hb <;> simp [Nat.add_mod, ha, hb]
  · rw [Nat.xor_assoc]
  · rw [Nat.xor_assoc, Nat.xor_comm (b / 2), Nat.xor_assoc]
  · rw [Nat.xor_comm (b / 2) 3558460437, ← Nat.xor_assoc, Nat.xor_assoc (a / 2), Nat.xor_self, Nat.xor_zero]
theorem hvN_xor (k : Nat) : ∀ a b, hvN k (a ^^^ b) = hvN k a ^^^ hvN k b := by
  induction k with
  | zero => intro a b; rfl
  | succ k ih => intro a b; show hvN k (hv (a ^^^ b)) = _; rw [hv_xor, ih]; rfl
theorem hvN_lt (k : Nat) : ∀ {s}, s < 4294967296 → hvN k s < 4294967296 := by
  induction k with
  | zero => intro s h; exact h
  | succ k ih => intro s h; exact ih (hv_lt h)
theorem hv_even (q : Nat) : hv (2 * q) = q := by
  unfold hv
  rw [if_neg (by omega)]; omega
theorem hvN_16 (q : Nat) : hvN 4 (16 * q) = q := by
  show hv (hv (hv (hv (16 * q)))) = q
  rw [show 16 * q = 2 * (2 * (2 * (2 * q))) by omega]
  simp only [hv_even]
theorem htab_hv : ∀ r, r < 16 → hvN 4 r = htab.getD r 0 := by decide
theorem split16 (s : Nat) : s = 16 * (s / 16) ^^^ s % 16 := by
  apply Nat.eq_of_testBit_eq
  intro i
  rw [Nat.testBit_xor, show 16 * (s / 16) = 2 ^ 4 * (s / 2 ^ 4) from rfl, show s % 16 = s % 2 ^ 4 from rfl, Nat.testBit_mod_two_pow, Nat.testBit_two_pow_mul, Nat.testBit_div_two_pow]
  by_cases h : 4 ≤ i
  · have e : i - 4 + 4 = i := by omega
    simp [h, e, show ¬ i < 4 by omega]
  · simp [h, show i < 4 by omega]
theorem hvN_4 (s : Nat) : hvN 4 s = s / 16 ^^^ htab.getD (s % 16) 0 := by
  rw [show hvN 4 s = hvN 4 (16 * (s / 16) ^^^ s % 16) from congrArg _ (split16 s), hvN_xor, hvN_16, htab_hv _ (Nat.mod_lt _ (by decide))]
theorem hvN_8 (s : Nat) : hvN 8 s = hvN 4 s / 16 ^^^ htab.getD (hvN 4 s % 16) 0 := by
  rw [← hvN_4]; rfl
theorem htab_lt (r : Nat) : htab.getD r 0 < 4294967296 := by
  by_cases h : r < 16
  · revert h; revert r; decide
  · have e : htab.getD r 0 = 0 := by
      rw [List.getD_eq_getElem?_getD, List.getElem?_eq_none (by show 16 ≤ r; omega)]; rfl
    rw [e]; decide
theorem sb_lt {s b : Nat} (hs : s < 4294967296) (hb : b < 256) : sb s b < 4294967296 := hvN_lt 8 (xor_lt32 hs (by omega))
theorem byte_lt (b : UInt8) : b.toNat < 256 := b.toNat_lt
theorem sumL_lt (l : List UInt8) : ∀ {s}, s < 4294967296 → sumL s l < 4294967296 := by
  induction l with
  | nil => intro s h; exact h
  | cons b l ih => intro s h; exact ih (sb_lt h (byte_lt b))
end Go.Proofs.YtlcfblodflgleaaGreatDoor
namespace Go.Proofs.YtlcfblodflgleaaGreatDoor
open Go.RowKit
def SumTab (w : World) : Prop := ∀ r, r < 16 → w.cell? ⟨0, r, none⟩ = some (.int .u32 (htab.getD r 0 : Nat))
theorem sumTab_later {w w' : World} (h : Below w.heap.size w w') (ht : SumTab w) : SumTab w' := by
  intro r hr
  have := ht r hr
  refine (h.cell (p := ⟨0, r, none⟩) ?_).trans this
  rcases Nat.lt_or_ge 0 w.heap.size with h' | h'
  · exact h'
  · have e := ht r hr
    unfold World.cell? at e
    rw [show w.heap[(⟨0, r, none⟩ : Addr).block]? = none from Array.getElem?_eq_none h'] at e
    cases e
theorem withByte_any (s b : Nat) (w : World) (hs : s < 4294967296) (hb : b < 256) (hT : SumTab w) :
    Calls Tryz.prog 206 #[.int .u32 s, .int .u8 b] w fun e w' => e = .returned (.int .u32 (sb s b : Nat)) ∧ w' = w := by
  have HR : Hid (sb s b = hvN 8 (s ^^^ b)) := rfl
  have hx0 := u32_xor_nat s b hs (by omega)
  have hx1 := xor_lt32 hs (show b < 4294967296 by omega)
  generalize s ^^^ b = x at HR hx0 hx1
  have hc1 := hT (x % 16) (Nat.mod_lt _ (by decide))
  have hy0 := u32_xor_nat (x / 16) (htab.getD (x % 16) 0) (by omega) (htab_lt _)
  have hy1 := hvN_lt 4 hx1
  have HY : Hid (hvN 8 x = hvN 4 x / 16 ^^^ htab.getD (hvN 4 x % 16) 0) := hvN_8 x
  rw [← hvN_4, show ((x / 16 : Nat) : Int) = (x : Int) / 16 by omega] at hy0
  generalize htab.getD (x % 16) 0 = T1 at hc1 hy0
  generalize hvN 4 x = y at HY hy0 hy1
  have hc2 := hT (y % 16) (Nat.mod_lt _ (by decide))
  have hz0 := u32_xor_nat (y / 16) (htab.getD (y % 16) 0) (by omega) (htab_lt _)
  rw [show ((y / 16 : Nat) : Int) = (y : Int) / 16 by omega] at hz0
  have HZ : Hid (sb s b = y / 16 ^^^ htab.getD (y % 16) 0) := HR.out.trans HY.out
  generalize y / 16 ^^^ htab.getD (y % 16) 0 = z at HZ hz0
  generalize htab.getD (y % 16) 0 = T2 at hc2 hz0
  clear hT HR HY
  go_enter Tryz.func206, Tryz.ntmps206
  go_wp2
  go_ret
  rw [HZ.out]
  exact ⟨rfl, rfl⟩
def sumB (q : Nat) (s : ByteArray) : Nat := sumL q s.data.toList
def sumFrom (q : Nat) (s : ByteArray) (k : Nat) : Nat := sumL q (s.data.toList.drop k)
theorem sumFrom_step (q : Nat) (s : ByteArray) (k : Nat) (h : k < s.size) : sumFrom q s k = sumFrom (sb q (s[k]'h).toNat) s (k + 1) := by
  have hk : k < s.data.toList.length := by simpa using h
  unfold sumFrom
  rw [List.drop_eq_getElem_cons hk]
  rfl
theorem sumFrom_end (q : Nat) (s : ByteArray) (k : Nat) (h : s.size ≤ k) : sumFrom q s k = q := by
  unfold sumFrom
  rw [List.drop_eq_nil_of_le (by simpa using h)]
  rfl
theorem sumMore_any (q0 : Nat) (s : ByteArray) (w : World) (hq0 : q0 < 4294967296) (hl : s.size ≤ 2097152) (hT : SumTab w) :
    Calls Tryz.prog 185 #[.int .u32 q0, .string s] w fun e w' => e = .returned (.int .u32 (sumB q0 s : Nat)) ∧ w' = w := by
  have HT := hide hT
  clear hT
  go_enter Tryz.func185, Tryz.ntmps185
  go_wp2
  go_loop [5, 10] (fun t u => ∃ (k q : Nat), t = .int .u32 q ∧ u = .int .i64 k ∧ k ≤ s.size ∧ q < 4294967296 ∧ Hid (sumFrom q s k = sumB q0 s)) (fun _ u => s.size - (intOf u).toNat)
  case atStart => exact ⟨0, q0, rfl, rfl, by omega, hq0, rfl⟩
  case round =>
    obtain ⟨k, q, rfl, rfl, hk, hq, hrest⟩ := hrel
    by_cases hlt : k < s.size
    · have hlt' : decide ((k : Int) < (s.size : Int)) = true := by simp; omega
      have HS := hide (sumFrom_step q s k hlt)
      obtain ⟨b, hbt, hb256⟩ : ∃ b : Nat, (s[k]'hlt).toNat = b ∧ b < 256 := ⟨_, rfl, byte_lt _⟩
      rw [hbt] at HS
      have hq' := sb_lt hq hb256
      go_wp2_with (go_at_call 206; refine (withByte_any q b _ hq hb256 HT.out).mono ?_; rintro e w' ⟨rfl, rfl⟩)
      go_round
      case rel =>
        refine ⟨k + 1, sb q b, rfl, by go_num, by omega, hq', ?_⟩
        show _ = _
        rw [← hrest.out, HS.out]
      case measure => simp [intOf]; omega
    · have hlt' : decide ((k : Int) < (s.size : Int)) = false := by simp; omega
      have HF : Hid (sumB q0 s = q) := by show _ = _; rw [← hrest.out, sumFrom_end _ _ _ (by omega)]
      go_wp2
      go_ret
      rw [HF.out]
      exact ⟨rfl, rfl⟩
theorem four_cells (w : World) (a b c d : UInt8) (t5 : TypeId) : (w.alloc (.cells #[.int .u8 a.toNat, .int .u8 b.toNat, .int .u8 c.toNat, .int .u8 d.toNat] t5)).ownsRow w.heap.size t5 1 (.slice (some ⟨w.heap.size, 0, none⟩) 4 4) 4 ([a, b, c, d].map bv) :=
  World.ownsRow_lit w #[.int .u8 a.toNat, .int .u8 b.toNat, .int .u8 c.toNat, .int .u8 d.toNat] 4 (Nat.le_refl _) (by decide) rfl
theorem byte_of_div (s k : Nat) : ∃ b : UInt8, UInt8.ofNat (s / k) = b ∧ ((s : Int) / k % 256 = (b.toNat : Int)) := ⟨_, rfl, by
  simp⟩
theorem inBytes_any (s : Nat) (w : World) (hs : s < 4294967296) :
    Calls Tryz.prog 174 #[.int .u32 s] w fun e w' => e = .returned (.string ⟨(four s).toArray⟩) ∧ Below w.heap.size w w' := by
  obtain ⟨b3, h3, e3⟩ := byte_of_div s 16777216
  obtain ⟨b2, h2, e2⟩ := byte_of_div s 65536
  obtain ⟨b1, h1, e1⟩ := byte_of_div s 256
  obtain ⟨b0, h0, e0⟩ := byte_of_div s 1
  have H4 : Hid (four s = [b3, b2, b1, b0]) := by show _ = _; rw [← h3, ← h2, ← h1, ← h0, Nat.div_one]; rfl
  have e3 : (s : Int) / 16777216 = (b3.toNat : Int) := by have := e3; omega
  have e2 : (s : Int) / 65536 % 256 = (b2.toNat : Int) := e2
  have e1 : (s : Int) / 256 % 256 = (b1.toNat : Int) := e1
  have e0 : (s : Int) % 256 = (b0.toNat : Int) := by have := e0; omega
  clear h3 h2 h1 h0
  have hcv := conv_own (P := Tryz.prog) 147 5 9 Tryz.underlying147 Tryz.underlying5 Tryz.underlying9 _ _ _ [b3, b2, b1, b0] (four_cells w b3 b2 b1 b0 5)
  go_enter Tryz.func174, Tryz.ntmps174
  go_wp2
  go_ret
  rw [H4.out]
  exact ⟨rfl, (Below.refl _ w).alloc (Nat.le_refl _) _⟩
theorem sumOf_any (s : ByteArray) (w : World) (hl : s.size ≤ 2097152) (hT : SumTab w) :
    Calls Tryz.prog 173 #[.string s] w fun e w' => e = .returned (.int .u32 (sumB 4294967295 s : Nat)) ∧ w' = w := by
  have HT := hide hT
  clear hT
  go_enter Tryz.func173, Tryz.ntmps173
  go_wp2_with (go_at_call 185; refine (sumMore_any 4294967295 s _ (by decide) hl HT.out).mono ?_; rintro e w' ⟨rfl, rfl⟩)
  go_ret
  exact ⟨rfl, rfl⟩
theorem sumB_lt (s : ByteArray) : sumB 4294967295 s < 4294967296 := sumL_lt _ (by decide)
theorem Wd.rv_canonF (s : ByteArray) (i : Nat) : ∀ f k, f + k = 5 → (∀ j, j < k → 128 ≤ Wd.bt s (i + j)) → ∀ n p, Wd.rvF s f (i + k) k (128 ^ k) (Wd.valF s i k) = some (n, p) →
    Wd.varF 5 n = Wd.subF s i (p - i) ∧ i < p ∧ p ≤ s.size := by
  intro f
  induction f with
  | zero => intro k _ _ n p h; simp [Wd.rvF] at h
  | succ f ih =>
    intro k hk hall n p h
    by_cases h1 : i + k < s.size
    · by_cases h2 : Wd.bt s (i + k) < 128
      · by_cases h3 : Wd.valF s i k + Wd.bt s (i + k) % 128 * 128 ^ k ≤ 1000000000 ∧ (0 < Wd.bt s (i + k) ∨ k = 0)
        · rw [Wd.rvF_last s f (i + k) k _ _ h1 h2 h3.1 h3.2, ← Wd.valF_snoc] at h
          simp only [Option.some.injEq, Prod.mk.injEq] at h
          obtain ⟨rfl, rfl⟩ := h
          rw [show i + k + 1 - i = k + 1 by omega]
          exact ⟨(Wd.canonF s k i 5 hall h2 (by omega)).2 h3.2, by omega, by omega⟩
        · rw [Wd.rvF_not s f _ k _ _ h2 h3] at h; simp at h
      · rw [Wd.rvF_more s f _ k _ _ h1 h2, ← Wd.valF_snoc, ← Nat.pow_succ] at h
        exact ih (k + 1) (by omega) (fun j hj => by
          by_cases e : j < k
          · exact hall j e
          · rw [show j = k by omega]; omega) n p h
    · rw [Wd.rvF_end s _ _ k _ _ h1] at h; simp at h
theorem Wd.rv_canon (s : ByteArray) (i n p : Nat) (h : Wd.rv s i = some (n, p)) : (s.extract i p).data.toList = Wd.varF 5 n ∧ i < p ∧ p ≤ s.size := by
  obtain ⟨h1, h2, h3⟩ := Wd.rv_canonF s i 5 0 rfl (fun j hj => absurd hj (by omega)) n p h
  refine ⟨?_, h2, h3⟩
  rw [h1, ← Wd.subF_extract s i (p - i) (by omega), show i + (p - i) = p by omega]
theorem Wd.rv_at_end (s : ByteArray) (i : Nat) (h : s.size ≤ i) : Wd.rv s i = none := Wd.rvF_end s 5 i 0 1 0 (by omega)
theorem Wd.varF_len : ∀ f n, (Wd.varF f n).length ≤ f
  | 0, _ => by simp [Wd.varF]
  | f + 1, n => by
    by_cases h : n < 128
    · rw [Wd.varF_low f n h]; simp
    · rw [Wd.varF_high f n h]; simp; exact Wd.varF_len f _
def frameB (t : ByteArray) : ByteArray := ⟨(Wd.varF 5 t.size).toArray⟩ ++ ⟨(four (sumB 4294967295 t)).toArray⟩ ++ t
theorem frameB_list (t : ByteArray) : (frameB t).data.toList = Wd.varF 5 t.size ++ four (sumB 4294967295 t) ++ t.data.toList := by
  unfold frameB
  simp
theorem frameB_size (t : ByteArray) : (frameB t).size = (Wd.varF 5 t.size).length + 4 + t.size := by
  unfold frameB
  rw [ByteArray.size_append, ByteArray.size_append]
  rfl
def frB (s : ByteArray) (i : Nat) : Option (Nat × Nat) :=
  match Wd.rv s i with
  | none => none
  | some (n, p) => if 1 ≤ n ∧ n ≤ 9000 ∧ p + 4 + n ≤ s.size ∧ s.extract p (p + 4) = ⟨(four (sumB 4294967295 (s.extract (p + 4) (p + 4 + n)))).toArray⟩ then some (p + 4, p + 4 + n) else none
theorem frB_num (s : ByteArray) (i : Nat) (h : Wd.rv s i = none) : frB s i = none := by unfold frB; rw [h]
theorem frB_no (s : ByteArray) (i n p : Nat) (h : Wd.rv s i = some (n, p)) (hc : ¬ (1 ≤ n ∧ n ≤ 9000 ∧ p + 4 + n ≤ s.size ∧ s.extract p (p + 4) = ⟨(four (sumB 4294967295 (s.extract (p + 4) (p + 4 + n)))).toArray⟩)) : frB s i = none := by
  unfold frB; rw [h]; exact if_neg hc
theorem frB_yes (s : ByteArray) (i n p : Nat) (h : Wd.rv s i = some (n, p)) (hc : 1 ≤ n ∧ n ≤ 9000 ∧ p + 4 + n ≤ s.size ∧ s.extract p (p + 4) = ⟨(four (sumB 4294967295 (s.extract (p + 4) (p + 4 + n)))).toArray⟩) : frB s i = some (p + 4, p + 4 + n) := by
  unfold frB; rw [h]; exact if_pos hc
theorem frB_bounds (s : ByteArray) (i : Nat) (x : Nat × Nat) (h : frB s i = some x) : i + 4 < x.1 ∧ x.1 < x.2 ∧ x.2 ≤ s.size := by
  cases hr : Wd.rv s i with
  | none => rw [frB_num s i hr] at h; simp at h
  | some q =>
    obtain ⟨n, p⟩ := q
    have hb := Wd.rv_bounds s i n p hr
    by_cases hc : 1 ≤ n ∧ n ≤ 9000 ∧ p + 4 + n ≤ s.size ∧ s.extract p (p + 4) = ⟨(four (sumB 4294967295 (s.extract (p + 4) (p + 4 + n)))).toArray⟩
    · rw [frB_yes s i n p hr hc] at h
      simp only [Option.some.injEq] at h
      subst h
      have := hc.1
      have := hc.2.2.1
      refine ⟨?_, ?_, ?_⟩ <;> dsimp only <;> omega
    · rw [frB_no s i n p hr hc] at h; simp at h
def frs (s : ByteArray) : Nat → Nat → List (Nat × Nat)
  | 0, _ => []
  | f + 1, i => match frB s i with
    | none => []
    | some x => x :: frs s f x.2
theorem frs_none (s : ByteArray) (f i : Nat) (h : frB s i = none) : frs s f i = [] := by
  cases f with
  | zero => rfl
  | succ f => unfold frs; rw [h]
theorem frs_some (s : ByteArray) (f i : Nat) (x : Nat × Nat) (h : frB s i = some x) : frs s (f + 1) i = x :: frs s f x.2 := by
  conv => lhs; unfold frs
  rw [h]
theorem frs_len (s : ByteArray) : ∀ f i, (frs s f i).length ≤ f
  | 0, _ => by simp [frs]
  | f + 1, i => by
    cases h : frB s i with
    | none => rw [frs_none s _ i h]; simp
    | some x => rw [frs_some s f i x h]; simp; exact frs_len s f x.2
theorem frs_same (s : ByteArray) : ∀ f g i, s.size < f + i → s.size < g + i → frs s f i = frs s g i
  | 0, g, i, hf, _ => by
    have : frB s i = none := frB_num s i (Wd.rv_at_end s i (by omega))
    rw [frs_none s _ i this, frs_none s _ i this]
  | f + 1, g, i, hf, hg => by
    cases h : frB s i with
    | none => rw [frs_none s _ i h, frs_none s _ i h]
    | some x =>
      have hb := frB_bounds s i x h
      cases g with
      | zero => omega
      | succ g => rw [frs_some s f i x h, frs_some s g i x h, frs_same s f g x.2 (by omega) (by omega)]
def unf (s : ByteArray) : List (Nat × Nat) := if s.size ≤ 20000 then frs s (s.size + 1) 0 else []
def endOf (l : List (Nat × Nat)) : Nat := match l.getLast? with
  | some x => x.2
  | none => 0
theorem endOf_snoc (l : List (Nat × Nat)) (x : Nat × Nat) : endOf (l ++ [x]) = x.2 := by simp [endOf]
def recs (s : ByteArray) (l : List (Nat × Nat)) : List (List UInt8) := l.map fun x => (s.extract x.1 x.2).data.toList
theorem recs_snoc (s : ByteArray) (l : List (Nat × Nat)) (x : Nat × Nat) : recs s (l ++ [x]) = recs s l ++ [(s.extract x.1 x.2).data.toList] := by simp [recs]
theorem recs_len (s : ByteArray) (l : List (Nat × Nat)) : (recs s l).length = l.length := by simp [recs]
theorem unf_len (s : ByteArray) : (unf s).length ≤ 20001 := by
  unfold unf
  split
  · have := frs_len s (s.size + 1) 0; omega
  · simp
theorem cut_three (s : ByteArray) (i p n : Nat) (h1 : i ≤ p) : (s.extract i (p + 4 + n)).data.toList = (s.extract i p).data.toList ++ (s.extract p (p + 4)).data.toList ++ (s.extract (p + 4) (p + 4 + n)).data.toList := by
  have e : ∀ a b c, a ≤ b → b ≤ c → (s.extract a c).data.toList = (s.extract a b).data.toList ++ (s.extract b c).data.toList := by
    intro a b c hab hbc
    simp only [ByteArray.data_extract, Array.toList_extract, List.extract_eq_take_drop]
    rw [show c - a = (b - a) + (c - b) by omega, List.take_add, List.drop_drop, show a + (b - a) = b by omega]
  rw [e i p (p + 4 + n) h1 (by omega), e p (p + 4) (p + 4 + n) (by omega) (by omega), List.append_assoc]
theorem frame_test (s : ByteArray) (i n p : Nat) (h : Wd.rv s i = some (n, p)) (hp : p + 4 + n ≤ s.size) :
    frameB (s.extract (p + 4) (p + 4 + n)) = s.extract i (p + 4 + n) ↔ s.extract p (p + 4) = ⟨(four (sumB 4294967295 (s.extract (p + 4) (p + 4 + n)))).toArray⟩ := by
  obtain ⟨hc, hi, _⟩ := Wd.rv_canon s i n p h
  have hz : (s.extract (p + 4) (p + 4 + n)).size = n := by rw [ByteArray.size_extract]; omega
  have ext : ∀ a b : ByteArray, a = b ↔ a.data.toList = b.data.toList := fun a b => ⟨fun e => by rw [e], fun e => ByteArray.ext (Array.toList_inj.1 e)⟩
  rw [ext, ext, frameB_list, hz, cut_three s i p n (by omega), hc]
  constructor
  · intro e
    exact (List.append_cancel_left (List.append_cancel_right e)).symm
  · intro e
    rw [e]
theorem l01Var_any (n : Nat) (w : World) (h1 : n < 34359738368) :
    Calls Tryz.prog 90 #[.int .i64 n] w fun e w' => e = .returned (.string ⟨(Wd.varF 5 n).toArray⟩) ∧ Below w.heap.size w w' := by
  go_enter Tryz.func90, Tryz.ntmps90
  go_wp2
  go_loopw [0, 3] (fun t v wr => ∃ (f m : Nat) (acc : List UInt8), t = .int .i64 m ∧ m < 128 ^ (f + 1) ∧ m < 34359738368 ∧ acc.length + f = 4 ∧ wr.ownsRow w.heap.size 5 1 v acc.length (acc.map bv) ∧ Hid (acc ++ Wd.varF (f + 1) m = Wd.varF 5 n) ∧ Below w.heap.size w wr) (fun t _ _ => (intOf t).toNat)
  case atStart =>
    refine ⟨4, n, [], rfl, by omega, h1, rfl, ?_, rfl, (Below.refl _ _).alloc (Nat.le_refl _) _⟩
    exact World.ownsRow_lit w #[] 0 (Nat.le_refl _) (by unfold maxLen; omega) (by simp)
  case round =>
    obtain ⟨f, m, acc, rfl, hm, hm2, hl, hown, hacc, hb⟩ := hrel
    by_cases hlt : 127 < m
    · obtain ⟨f, rfl⟩ : ∃ g, f = g + 1 := by
        cases f with
        | zero => simp at hm; omega
        | succ g => exact ⟨g, rfl⟩
      have hbs := hb.size
      have hfac : Hid (Wd.varF (f + 1 + 1) m = UInt8.ofNat (m % 128 + 128) :: Wd.varF (f + 1) (m / 128)) := Wd.varF_high _ _ (by omega)
      have hdiv := Wd.div_lt_pow _ _ hm
      obtain ⟨b, hbb, hbn⟩ : ∃ b : UInt8, Hid (b = UInt8.ofNat (m % 128 + 128)) ∧ Hid ((m : Int) % 128 + 128 = (b.toNat : Int)) := ⟨_, rfl, by simp only [Hid, UInt8.toNat_ofNat']; omega⟩
      go_wp2_with (at_builtin; refine app_bytes wr 147 5 Tryz.underlying147 Tryz.info5 w w.heap.size rfl _ _ rfl _ acc [b] rfl hown rfl (by simp [bv, hbn.out]) (by simp; omega) hb hbs ?_; intro v' w1 hown1 hb1 hs1)
      go_roundw
      case rel =>
        refine ⟨f, m / 128, acc ++ [b], by go_num, hdiv, by omega, by simp; omega, hown1, ?_, hb1⟩
        show _ = _
        rw [← hacc.out, hfac.out, ← hbb.out]; simp
      case measure => simp [intOf]; omega
    · have hbs := hb.size
      have hfac : Hid (Wd.varF (f + 1) m = [UInt8.ofNat m]) := Wd.varF_low _ _ (by omega)
      obtain ⟨b, hbb, hbn⟩ : ∃ b : UInt8, Hid (b = UInt8.ofNat m) ∧ Hid ((m : Int) = (b.toNat : Int)) := ⟨_, rfl, by simp only [Hid, UInt8.toNat_ofNat']; omega⟩
      go_wp2_with (at_builtin; refine app_bytes wr 147 5 Tryz.underlying147 Tryz.info5 w w.heap.size rfl _ _ rfl _ acc [b] rfl hown rfl (by simp [bv, hbn.out]) (by simp; omega) hb hbs ?_; intro v' w1 hown1 hb1 hs1; have hcv := conv_own 147 5 9 Tryz.underlying147 Tryz.underlying5 Tryz.underlying9 w1 _ _ _ hown1)
      go_ret
      rw [← hacc.out, hfac.out, ← hbb.out]
      exact ⟨rfl, hb1⟩
theorem l01Var_int (n : Int) (w : World) (h0 : 0 ≤ n) (h1 : n < 34359738368) :
    Calls Tryz.prog 90 #[.int .i64 n] w fun e w' => e = .returned (.string ⟨(Wd.varF 5 n.toNat).toArray⟩) ∧ Below w.heap.size w w' := by
  obtain ⟨m, rfl⟩ := Int.eq_ofNat_of_zero_le h0
  exact l01Var_any m w (by omega)
end Go.Proofs.YtlcfblodflgleaaGreatDoor
