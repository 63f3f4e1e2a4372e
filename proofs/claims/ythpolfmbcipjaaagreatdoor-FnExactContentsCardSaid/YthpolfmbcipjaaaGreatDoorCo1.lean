import Derived.Lib.Strings
import Derived.Lib.Walk
import Derived.Lib.BufferWrite
import Derived.Lib.UnsafeStr
import Derived.Laws.MakeOwn
import Derived.Laws.OwnMore
import Derived.Test.YthpolfmbcipjaaaGreatDoorCo0
set_option maxRecDepth 100000
set_option maxHeartbeats 1000000
namespace Go.Proofs.YthpolfmbcipjaaaGreatDoor
open Go.RowKit
theorem clone_any (s : ByteArray) (w : World) (hs : s.size ≤ 1048576) :
    Calls Tryz.prog 183 #[.string s] w fun e w' => e = .returned (.string s) ∧ Below w.heap.size w w' := by
  by_cases h0 : s.size = 0
  · have e0 : s = ⟨#[]⟩ := ByteArray.ext (Array.eq_empty_of_size_eq_zero h0)
    subst e0
    go_enter Tryz.func183, Tryz.ntmps183
    go_wp2
    go_ret
    exact ⟨rfl, Below.refl _ _⟩
  · obtain ⟨i0, hi, hz0, hz1, hz2⟩ := info_parts Tryz.info5
    have hinfo : (Tryz.prog.info? 5).map (·.size) = some 1 := by rw [hi]; simp [hz1]
    obtain ⟨M, hM⟩ : ∃ M, M = madeCells (Value.int .u8 0).cells (((s.size : Nat) : Int).toNat * i0.size) := ⟨_, rfl⟩
    have hmk : ∀ W : World, (Instr.makeSlice 110 (.int .i64 (s.size : Int)) (.int .i64 (s.size : Int))).run Tryz.prog W = .ok (.slice (some ⟨W.heap.size, 0, none⟩) s.size s.size) (W.alloc (.cells M 5)) := fun W => by
      have h := run_make (P := Tryz.prog) W 110 5 i0 (.int .u8 0) Tryz.underlying110 hi hz0 .i64 .i64 (s.size : Int) (s.size : Int) (by omega) (by omega) (by rw [hz2]; omega) (by omega)
      rw [← hM] at h
      simpa using h
    have hMs : M.size = s.size := by rw [hM, size_madeCells, hz1]; simp
    clear hM
    have hcp := Lib.run_copy_row_string (P := Tryz.prog) (w.alloc (.cells M 5)) 110 9 3 5 w.heap.size 0 s.size s.size s M 5 Tryz.underlying110 hinfo (heap_alloc_new w _) (Nat.le_refl _) (by omega)
    obtain ⟨Y, hY⟩ : ∃ Y, Y = (M.toList.take 0 ++ Lib.byteCells s.data.toList ++ M.toList.drop (0 + s.size)).toArray := ⟨_, rfl⟩
    rw [← hY] at hcp
    have hYl : Y.toList = Lib.byteCells s.data.toList := by
      rw [hY, List.toList_toArray, List.take_zero, List.nil_append, List.drop_of_length_le (by rw [Array.length_toList]; omega), List.append_nil]
    have hYs : Y.size = s.size := by rw [← Array.length_toList, hYl, Lib.byteCells_length, ← Lib.size_eq]
    have hgY : ((w.alloc (.cells M 5)).setRow w.heap.size Y).heap[w.heap.size]? = some (.cells Y 5 (0, 0)) := setRow_heap _ _ M _ 5 (0, 0) (heap_alloc_new w _)
    have hne : s.data.toList ≠ [] := fun e => h0 (by rw [Lib.size_eq, e]; rfl)
    have hUS := Lib.run_unsafeString_row (P := Tryz.prog) ((w.alloc (.cells M 5)).setRow w.heap.size Y) 266 3 9 5 Tryz.underlying266 Tryz.cells5 w.heap.size Y.size (by unfold World.shape?; rw [hgY]) s.data.toList hne (by rw [← Lib.size_eq]; omega) (by rw [← Lib.size_eq]; omega)
      (fun j x hx => Lib.cells_of_row hgY Y.size j _ (by rw [List.take_of_length_le (by rw [Array.length_toList]; exact Nat.le_refl _), hYl]; simp [Lib.byteCells, hx]))
    rw [← Lib.size_eq] at hUS
    clear hY
    go_enter Tryz.func183, Tryz.ntmps183
    go_wp2
    go_ret
    have hb1 : Below w.heap.size w (w.alloc (.cells M 5)) := (Below.refl _ w).alloc (Nat.le_refl _) _
    have hb2 : Below w.heap.size (w.alloc (.cells M 5)) ((w.alloc (.cells M 5)).setRow w.heap.size Y) := ⟨rfl, rfl, rfl, by simp, fun k hk => setRow_other _ _ _ _ (by omega)⟩
    exact ⟨rfl, Lib.below_freeze (hb1.trans hb2) (p := ⟨w.heap.size, 0, none⟩) (Nat.le_refl _) _⟩
theorem ownText_any (s : ByteArray) (w : World) (hs : s.size ≤ 1048576) :
    Calls Tryz.prog 126 #[.string s] w fun e w' => e = .returned (.string s) ∧ Below w.heap.size w w' := by
  go_enter Tryz.func126, Tryz.ntmps126
  go_wp2_with (first | (go_at_call 183; refine (clone_any s _ hs).mono ?_; rintro e w' ⟨rfl, hb⟩) | go_in)
  go_ret
  exact ⟨rfl, hb⟩
theorem four_cells (w : World) (a b c d : UInt8) (t5 : TypeId) : (w.alloc (.cells #[.int .u8 a.toNat, .int .u8 b.toNat, .int .u8 c.toNat, .int .u8 d.toNat] t5)).ownsRow w.heap.size t5 1 (.slice (some ⟨w.heap.size, 0, none⟩) 4 4) 4 ([a, b, c, d].map bv) :=
  World.ownsRow_lit w #[.int .u8 a.toNat, .int .u8 b.toNat, .int .u8 c.toNat, .int .u8 d.toNat] 4 (Nat.le_refl _) (by decide) rfl
theorem byte_of_div (s k : Nat) : ∃ b : UInt8, UInt8.ofNat (s / k) = b ∧ ((s : Int) / k % 256 = (b.toNat : Int)) := ⟨_, rfl, by
  simp⟩
theorem inBytes_any (s : Nat) (w : World) (hs : s < 4294967296) :
    Calls Tryz.prog 172 #[.int .u32 s] w fun e w' => e = .returned (.string ⟨(four s).toArray⟩) ∧ Below w.heap.size w w' := by
  obtain ⟨b3, h3, e3⟩ := byte_of_div s 16777216
  obtain ⟨b2, h2, e2⟩ := byte_of_div s 65536
  obtain ⟨b1, h1, e1⟩ := byte_of_div s 256
  obtain ⟨b0, h0, e0⟩ := byte_of_div s 1
  have H4 : Hid (four s = [b3, b2, b1, b0]) := by show _ = _; rw [← h3, ← h2, ← h1, ← h0, Nat.div_one]; rfl
  have e3 : (s : Int) / 16777216 = (b3.toNat : Int) := by have := e3; omega
  have e2 : (s : Int) / 65536 % 256 = (b2.toNat : Int) := e2
  have e1 : (s : Int) / 256 % 256 = (b1.toNat : Int) := e1
  have e0 : (s : Int) % 256 = (b0.toNat : Int) := by have := e0; omega
  clear h3 h2 h1 h0
  have hcv := conv_own (P := Tryz.prog) 110 5 9 Tryz.underlying110 Tryz.underlying5 Tryz.underlying9 _ _ _ [b3, b2, b1, b0] (four_cells w b3 b2 b1 b0 5)
  go_enter Tryz.func172, Tryz.ntmps172
  go_wp2
  go_ret
  rw [H4.out]
  exact ⟨rfl, (Below.refl _ w).alloc (Nat.le_refl _) _⟩
theorem sumOf_any (s : ByteArray) (w : World) (hl : s.size ≤ 2097152) (hT : SumTab w) :
    Calls Tryz.prog 171 #[.string s] w fun e w' => e = .returned (.int .u32 (sumB 4294967295 s : Nat)) ∧ w' = w := by
  have HT := hide hT
  clear hT
  go_enter Tryz.func171, Tryz.ntmps171
  go_wp2_with (go_at_call 185; refine (sumMore_any 4294967295 s _ (by decide) hl HT.out).mono ?_; rintro e w' ⟨rfl, rfl⟩)
  go_ret
  exact ⟨rfl, rfl⟩
theorem sumB_lt (s : ByteArray) : sumB 4294967295 s < 4294967296 := sumL_lt _ (by decide)
theorem Wd.rv_canonF (s : ByteArray) (i : Nat) : ∀ f k, f + k = 5 → (∀ j, j < k → 128 ≤ Wd.bt s (i + j)) → ∀ n p, Wd.rvF s f (i + k) k (128 ^ k) (Wd.valF s i k) = some (n, p) →
    Wd.varF 5 n = Wd.subF s i (p - i) ∧ i < p ∧ p ≤ s.size := by
  intro f
  induction f with
  | zero => intro k _ _ n p h; simp [Wd.rvF] at h
  | succ f ih =>
    intro k hk hall n p h
    by_cases h1 : i + k < s.size
    · by_cases h2 : Wd.bt s (i + k) < 128
      · by_cases h3 : Wd.valF s i k + Wd.bt s (i + k) % 128 * 128 ^ k ≤ 1000000000 ∧ (0 < Wd.bt s (i + k) ∨ k = 0)
        · rw [Wd.rvF_last s f (i + k) k _ _ h1 h2 h3.1 h3.2, ← Wd.valF_snoc] at h
          simp only [Option.some.injEq, Prod.mk.injEq] at h
          obtain ⟨rfl, rfl⟩ := h
          rw [show i + k + 1 - i = k + 1 by omega]
          exact ⟨(Wd.canonF s k i 5 hall h2 (by omega)).2 h3.2, by omega, by omega⟩
        · rw [Wd.rvF_not s f _ k _ _ h2 h3] at h; simp at h
      · rw [Wd.rvF_more s f _ k _ _ h1 h2, ← Wd.valF_snoc, ← Nat.pow_succ] at h
        exact ih (k + 1) (by omega) (fun j hj => by
          by_cases e : j < k
          · exact hall j e
          · rw [show j = k by omega]; omega) n p h
    · rw [Wd.rvF_end s _ _ k _ _ h1] at h; simp at h
theorem Wd.rv_canon (s : ByteArray) (i n p : Nat) (h : Wd.rv s i = some (n, p)) : (s.extract i p).data.toList = Wd.varF 5 n ∧ i < p ∧ p ≤ s.size := by
  obtain ⟨h1, h2, h3⟩ := Wd.rv_canonF s i 5 0 rfl (fun j hj => absurd hj (by omega)) n p h
  refine ⟨?_, h2, h3⟩
  rw [h1, ← Wd.subF_extract s i (p - i) (by omega), show i + (p - i) = p by omega]
theorem Wd.rv_at_end (s : ByteArray) (i : Nat) (h : s.size ≤ i) : Wd.rv s i = none := Wd.rvF_end s 5 i 0 1 0 (by omega)
theorem Wd.varF_len : ∀ f n, (Wd.varF f n).length ≤ f
  | 0, _ => by simp [Wd.varF]
  | f + 1, n => by
    by_cases h : n < 128
    · rw [Wd.varF_low f n h]; simp
    · rw [Wd.varF_high f n h]; simp; exact Wd.varF_len f _
def frameB (t : ByteArray) : ByteArray := ⟨(Wd.varF 5 t.size).toArray⟩ ++ ⟨(four (sumB 4294967295 t)).toArray⟩ ++ t
theorem frameB_list (t : ByteArray) : (frameB t).data.toList = Wd.varF 5 t.size ++ four (sumB 4294967295 t) ++ t.data.toList := by
  unfold frameB
  simp
theorem frameB_size (t : ByteArray) : (frameB t).size = (Wd.varF 5 t.size).length + 4 + t.size := by
  unfold frameB
  rw [ByteArray.size_append, ByteArray.size_append]
  rfl
def frB (s : ByteArray) (i : Nat) : Option (Nat × Nat) :=
  match Wd.rv s i with
  | none => none
  | some (n, p) => if 1 ≤ n ∧ n ≤ 9000 ∧ p + 4 + n ≤ s.size ∧ s.extract p (p + 4) = ⟨(four (sumB 4294967295 (s.extract (p + 4) (p + 4 + n)))).toArray⟩ then some (p + 4, p + 4 + n) else none
theorem frB_num (s : ByteArray) (i : Nat) (h : Wd.rv s i = none) : frB s i = none := by unfold frB; rw [h]
theorem frB_no (s : ByteArray) (i n p : Nat) (h : Wd.rv s i = some (n, p)) (hc : ¬ (1 ≤ n ∧ n ≤ 9000 ∧ p + 4 + n ≤ s.size ∧ s.extract p (p + 4) = ⟨(four (sumB 4294967295 (s.extract (p + 4) (p + 4 + n)))).toArray⟩)) : frB s i = none := by
  unfold frB; rw [h]; exact if_neg hc
theorem frB_yes (s : ByteArray) (i n p : Nat) (h : Wd.rv s i = some (n, p)) (hc : 1 ≤ n ∧ n ≤ 9000 ∧ p + 4 + n ≤ s.size ∧ s.extract p (p + 4) = ⟨(four (sumB 4294967295 (s.extract (p + 4) (p + 4 + n)))).toArray⟩) : frB s i = some (p + 4, p + 4 + n) := by
  unfold frB; rw [h]; exact if_pos hc
theorem frB_bounds (s : ByteArray) (i : Nat) (x : Nat × Nat) (h : frB s i = some x) : i + 4 < x.1 ∧ x.1 < x.2 ∧ x.2 ≤ s.size := by
  cases hr : Wd.rv s i with
  | none => rw [frB_num s i hr] at h; simp at h
  | some q =>
    obtain ⟨n, p⟩ := q
    have hb := Wd.rv_bounds s i n p hr
    by_cases hc : 1 ≤ n ∧ n ≤ 9000 ∧ p + 4 + n ≤ s.size ∧ s.extract p (p + 4) = ⟨(four (sumB 4294967295 (s.extract (p + 4) (p + 4 + n)))).toArray⟩
    · rw [frB_yes s i n p hr hc] at h
      simp only [Option.some.injEq] at h
      subst h
      have := hc.1
      have := hc.2.2.1
      refine ⟨?_, ?_, ?_⟩ <;> dsimp only <;> omega
    · rw [frB_no s i n p hr hc] at h; simp at h
def frs (s : ByteArray) : Nat → Nat → List (Nat × Nat)
  | 0, _ => []
  | f + 1, i => match frB s i with
    | none => []
    | some x => x :: frs s f x.2
theorem frs_none (s : ByteArray) (f i : Nat) (h : frB s i = none) : frs s f i = [] := by
  cases f with
  | zero => rfl
  | succ f => unfold frs; rw [h]
theorem frs_some (s : ByteArray) (f i : Nat) (x : Nat × Nat) (h : frB s i = some x) : frs s (f + 1) i = x :: frs s f x.2 := by
  conv => lhs; unfold frs
  rw [h]
theorem frs_len (s : ByteArray) : ∀ f i, (frs s f i).length ≤ f
  | 0, _ => by simp [frs]
  | f + 1, i => by
    cases h : frB s i with
    | none => rw [frs_none s _ i h]; simp
    | some x => rw [frs_some s f i x h]; simp; exact frs_len s f x.2
theorem frs_same (s : ByteArray) : ∀ f g i, s.size < f + i → s.size < g + i → frs s f i = frs s g i
  | 0, g, i, hf, _ => by
    have : frB s i = none := frB_num s i (Wd.rv_at_end s i (by omega))
    rw [frs_none s _ i this, frs_none s _ i this]
  | f + 1, g, i, hf, hg => by
    cases h : frB s i with
    | none => rw [frs_none s _ i h, frs_none s _ i h]
    | some x =>
      have hb := frB_bounds s i x h
      cases g with
      | zero => omega
      | succ g => rw [frs_some s f i x h, frs_some s g i x h, frs_same s f g x.2 (by omega) (by omega)]
def unf (s : ByteArray) : List (Nat × Nat) := if s.size ≤ 20000 then frs s (s.size + 1) 0 else []
def endOf (l : List (Nat × Nat)) : Nat := match l.getLast? with
  | some x => x.2
  | none => 0
theorem endOf_snoc (l : List (Nat × Nat)) (x : Nat × Nat) : endOf (l ++ [x]) = x.2 := by simp [endOf]
def recs (s : ByteArray) (l : List (Nat × Nat)) : List (List UInt8) := l.map fun x => (s.extract x.1 x.2).data.toList
theorem recs_snoc (s : ByteArray) (l : List (Nat × Nat)) (x : Nat × Nat) : recs s (l ++ [x]) = recs s l ++ [(s.extract x.1 x.2).data.toList] := by simp [recs]
theorem recs_len (s : ByteArray) (l : List (Nat × Nat)) : (recs s l).length = l.length := by simp [recs]
theorem unf_len (s : ByteArray) : (unf s).length ≤ 20001 := by
  unfold unf
  split
  · have := frs_len s (s.size + 1) 0; omega
  · simp
theorem cut_three (s : ByteArray) (i p n : Nat) (h1 : i ≤ p) : (s.extract i (p + 4 + n)).data.toList = (s.extract i p).data.toList ++ (s.extract p (p + 4)).data.toList ++ (s.extract (p + 4) (p + 4 + n)).data.toList := by
  have e : ∀ a b c, a ≤ b → b ≤ c → (s.extract a c).data.toList = (s.extract a b).data.toList ++ (s.extract b c).data.toList := by
    intro a b c hab hbc
    simp only [ByteArray.data_extract, Array.toList_extract, List.extract_eq_take_drop]
    rw [show c - a = (b - a) + (c - b) by omega, List.take_add, List.drop_drop, show a + (b - a) = b by omega]
  rw [e i p (p + 4 + n) h1 (by omega), e p (p + 4) (p + 4 + n) (by omega) (by omega), List.append_assoc]
theorem frame_test (s : ByteArray) (i n p : Nat) (h : Wd.rv s i = some (n, p)) (hp : p + 4 + n ≤ s.size) :
    frameB (s.extract (p + 4) (p + 4 + n)) = s.extract i (p + 4 + n) ↔ s.extract p (p + 4) = ⟨(four (sumB 4294967295 (s.extract (p + 4) (p + 4 + n)))).toArray⟩ := by
  obtain ⟨hc, hi, _⟩ := Wd.rv_canon s i n p h
  have hz : (s.extract (p + 4) (p + 4 + n)).size = n := by rw [ByteArray.size_extract]; omega
  have ext : ∀ a b : ByteArray, a = b ↔ a.data.toList = b.data.toList := fun a b => ⟨fun e => by rw [e], fun e => ByteArray.ext (Array.toList_inj.1 e)⟩
  rw [ext, ext, frameB_list, hz, cut_three s i p n (by omega), hc]
  constructor
  · intro e
    exact (List.append_cancel_left (List.append_cancel_right e)).symm
  · intro e
    rw [e]
theorem l01Var_any (n : Nat) (w : World) (h1 : n < 34359738368) :
    Calls Tryz.prog 98 #[.int .i64 n] w fun e w' => e = .returned (.string ⟨(Wd.varF 5 n).toArray⟩) ∧ Below w.heap.size w w' := by
  go_enter Tryz.func98, Tryz.ntmps98
  go_wp2
  go_loopw [0, 3] (fun t v wr => ∃ (f m : Nat) (acc : List UInt8), t = .int .i64 m ∧ m < 128 ^ (f + 1) ∧ m < 34359738368 ∧ acc.length + f = 4 ∧ wr.ownsRow w.heap.size 5 1 v acc.length (acc.map bv) ∧ Hid (acc ++ Wd.varF (f + 1) m = Wd.varF 5 n) ∧ Below w.heap.size w wr) (fun t _ _ => (intOf t).toNat)
  case atStart =>
    refine ⟨4, n, [], rfl, by omega, h1, rfl, ?_, rfl, (Below.refl _ _).alloc (Nat.le_refl _) _⟩
    exact World.ownsRow_lit w #[] 0 (Nat.le_refl _) (by unfold maxLen; omega) (by simp)
  case round =>
    obtain ⟨f, m, acc, rfl, hm, hm2, hl, hown, hacc, hb⟩ := hrel
    by_cases hlt : 127 < m
    · obtain ⟨f, rfl⟩ : ∃ g, f = g + 1 := by
        cases f with
        | zero => simp at hm; omega
        | succ g => exact ⟨g, rfl⟩
      have hbs := hb.size
      have hfac : Hid (Wd.varF (f + 1 + 1) m = UInt8.ofNat (m % 128 + 128) :: Wd.varF (f + 1) (m / 128)) := Wd.varF_high _ _ (by omega)
      have hdiv := Wd.div_lt_pow _ _ hm
      obtain ⟨b, hbb, hbn⟩ : ∃ b : UInt8, Hid (b = UInt8.ofNat (m % 128 + 128)) ∧ Hid ((m : Int) % 128 + 128 = (b.toNat : Int)) := ⟨_, rfl, by simp only [Hid, UInt8.toNat_ofNat']; omega⟩
      go_wp2_with (at_builtin; refine app_bytes wr 110 5 Tryz.underlying110 Tryz.info5 w w.heap.size rfl _ _ rfl _ acc [b] rfl hown rfl (by simp [bv, hbn.out]) (by simp; omega) hb hbs ?_; intro v' w1 hown1 hb1 hs1)
      go_roundw
      case rel =>
        refine ⟨f, m / 128, acc ++ [b], by go_num, hdiv, by omega, by simp; omega, hown1, ?_, hb1⟩
        show _ = _
        rw [← hacc.out, hfac.out, ← hbb.out]; simp
      case measure => simp [intOf]; omega
    · have hbs := hb.size
      have hfac : Hid (Wd.varF (f + 1) m = [UInt8.ofNat m]) := Wd.varF_low _ _ (by omega)
      obtain ⟨b, hbb, hbn⟩ : ∃ b : UInt8, Hid (b = UInt8.ofNat m) ∧ Hid ((m : Int) = (b.toNat : Int)) := ⟨_, rfl, by simp only [Hid, UInt8.toNat_ofNat']; omega⟩
      go_wp2_with (at_builtin; refine app_bytes wr 110 5 Tryz.underlying110 Tryz.info5 w w.heap.size rfl _ _ rfl _ acc [b] rfl hown rfl (by simp [bv, hbn.out]) (by simp; omega) hb hbs ?_; intro v' w1 hown1 hb1 hs1; have hcv := conv_own 110 5 9 Tryz.underlying110 Tryz.underlying5 Tryz.underlying9 w1 _ _ _ hown1)
      go_ret
      rw [← hacc.out, hfac.out, ← hbb.out]
      exact ⟨rfl, hb1⟩
theorem l01Var_int (n : Int) (w : World) (h0 : 0 ≤ n) (h1 : n < 34359738368) :
    Calls Tryz.prog 98 #[.int .i64 n] w fun e w' => e = .returned (.string ⟨(Wd.varF 5 n.toNat).toArray⟩) ∧ Below w.heap.size w w' := by
  obtain ⟨m, rfl⟩ := Int.eq_ofNat_of_zero_le h0
  exact l01Var_any m w (by omega)
end Go.Proofs.YthpolfmbcipjaaaGreatDoor
