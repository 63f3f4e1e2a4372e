import Derived.Laws.CopyRow
import Derived.Deep.RegionHeld3
import Derived.Laws.CopyOwn
import Derived.Test.YtifjneldjjmeaaaGreatDoorLs6
import Derived.Test.YtifjneldjjmeaaaGreatDoorLs5
set_option maxRecDepth 100000
set_option maxHeartbeats 4000000
namespace Go.Proofs.YtifjneldjjmeaaaGreatDoor
open Go.RowKit
def b8 (b : UInt8) : Value := .int .u8 (b.toNat : Int)
def padN (s : ByteArray) : List UInt8 := s.data.toList.take 9 ++ List.replicate (9 - (s.data.toList.take 9).length) 0
theorem padN_length (s : ByteArray) : (padN s).length = 9 := by simp [padN]; omega
def nmC (s : ByteArray) : Array Value := ((padN s).map b8).toArray
theorem nmC_size (s : ByteArray) : (nmC s).size = 9 := by simp [nmC, padN_length]
theorem nmC_one (s : ByteArray) : (nmC s).all (·.oneCell') = true := by
  rw [Array.all_eq_true_iff_forall_mem]
  intro x hx
  simp only [nmC, List.mem_toArray, List.mem_map] at hx
  obtain ⟨b, _, rfl⟩ := hx
  rfl
theorem nmC_row (s : ByteArray) (n : Nat) (hn : Nat.min s.size 9 = n) :
    ((((s.data.toList.take n).map b8) ++ ((List.replicate 9 (Value.int .u8 0)).drop ((s.data.toList.take n).map b8).length))).toArray = nmC s := by
  have hl : s.data.toList.length = s.size := Array.length_toList
  have e : s.data.toList.take n = s.data.toList.take 9 := by
    subst hn
    rcases Nat.le_total s.size 9 with h | h
    · rw [show Nat.min s.size 9 = s.size from Nat.min_eq_left h, List.take_of_length_le (by omega), List.take_of_length_le (by omega)]
    · rw [show Nat.min s.size 9 = 9 from Nat.min_eq_right h]
  rw [e]
  unfold nmC padN
  rw [List.map_append, List.map_replicate, List.length_map, List.drop_replicate]
  rfl
def trimZ (l : List UInt8) : List UInt8 := (l.reverse.dropWhile (· == 0)).reverse
theorem trimZ_nil : trimZ [] = [] := rfl
theorem trimZ_zero (l : List UInt8) : trimZ (l ++ [0]) = trimZ l := by simp [trimZ]
theorem trimZ_keep (l : List UInt8) (b : UInt8) (h : b ≠ 0) : trimZ (l ++ [b]) = l ++ [b] := by simp [trimZ, h]
def nmT (s : ByteArray) : ByteArray := ⟨(trimZ (padN s)).toArray⟩
theorem cmds_told : ∀ t ∈ cmdsL, nmT t = t := by decide +kernel
theorem nmC_inj {s t : ByteArray} (h : nmC s = nmC t) : nmT s = nmT t := by
  unfold nmC at h
  have h1 := List.toArray_inj h
  have h2 : padN s = padN t := by
    have hb : ∀ (l m : List UInt8), l.map b8 = m.map b8 → l = m := by
      intro l
      induction l with
      | nil => intro m h; cases m with | nil => rfl | cons _ _ => simp at h
      | cons a l ih =>
        intro m h
        cases m with
        | nil => simp at h
        | cons c m =>
          simp only [List.map_cons, List.cons.injEq] at h
          obtain ⟨h1, h2⟩ := h
          simp only [b8, Value.int.injEq, true_and] at h1
          rw [ih m h2, UInt8.toNat_inj.1 (by omega : a.toNat = c.toNat)]
    exact hb _ _ h1
  unfold nmT
  rw [h2]
theorem nmC_eq {s t : ByteArray} (hs : nmT s = s) (ht : t ∈ cmdsL) : (nmC t = nmC s) ↔ t = s := by
  constructor
  · intro h
    have := nmC_inj h
    rwa [cmds_told t ht, hs] at this
  · rintro rfl
    rfl
theorem run_copy_str {P : Program} (w : World) (dT sT ty elem : TypeId) (g dLen dCap : Nat) (s : ByteArray) (cur : Array Value) (t : TypeId) (n : Nat) (hn : Nat.min s.size dLen = n)
    (hu : P.underlying dT = some (.slice elem)) (hsz : (P.info? elem).map (·.size) = some 1) (hg : w.heap[g]? = some (.cells cur t (0, 0))) (hfit : dLen ≤ cur.size) :
    (Builtin.copy_ #[dT, sT] ty #[.slice (some ⟨g, 0, none⟩) dLen dCap, .string s]).run P w = .ok (goInt n) (w.setRow g (((s.data.toList.take n).map b8) ++ cur.toList.drop ((s.data.toList.take n).map b8).length).toArray) := by
  have hl : s.data.toList.length = s.size := Array.length_toList
  have hle : n ≤ dLen := by subst hn; exact Nat.min_le_right _ _
  have hle2 : n ≤ s.size := by subst hn; exact Nat.min_le_left _ _
  have hst := run_storeCells_at P g 0 t ((s.data.toList.take n).map b8) 0 cur w hg (by simp; omega) (by intro v hv; simp only [List.mem_map] at hv; obtain ⟨b, _, rfl⟩ := hv; rfl)
  simp only [Nat.add_zero, List.take_zero, List.nil_append, Nat.zero_add] at hst
  cases hq : P.info? elem with
  | none => simp [hq] at hsz
  | some i =>
    have hmin : min s.size dLen = n := hn
    have hb : (fun b : UInt8 => Value.int .u8 (b.toNat : Int)) = b8 := rfl
    simp only [List.map_take] at hst ⊢
    have hrun := run_underlying hu w
    simp [Builtin.copy_, Sem.run_bind, hrun, Builtin.lenOf, Builtin.firstCells, sizeOf, typeInfo, hq, hmin, hb]
    simp at hst
    rw [hst]
    rfl
theorem Tryz.infoNm : (Tryz.prog.info? 125).map (·.size) = some 9 := by kernel_rfl
theorem Tryz.infoBy : (Tryz.prog.info? 5).map (·.size) = some 1 := by kernel_rfl
theorem setRow_new (w : World) (g : Nat) (old cs : Array Value) (t : TypeId) (hg : w.heap[g]? = some (.cells old t (0, 0))) : (w.setRow g cs).heap[g]? = some (.cells cs t (0, 0)) := setRow_heap w g old cs t (0, 0) hg
theorem nmOf_any (s : ByteArray) (w : World) : Calls Tryz.prog 132 #[.string s] w fun e w' => e = .returned (.agg (nmC s)) ∧ Below w.heap.size w w' := by
  obtain ⟨n, hn⟩ : ∃ n, Nat.min s.size 9 = n := ⟨_, rfl⟩
  have hrow := nmC_row s n hn
  obtain ⟨Z, hZ⟩ : ∃ Z : Obj, Z = .cells #[.int .u8 0, .int .u8 0, .int .u8 0, .int .u8 0, .int .u8 0, .int .u8 0, .int .u8 0, .int .u8 0, .int .u8 0] 125 := ⟨_, rfl⟩
  have hg0 : ((w.alloc Z).alloc Z).heap[w.heap.size]? = some Z := heap_alloc2_old w Z Z
  have hg1 : ((w.alloc Z).alloc Z).heap[w.heap.size + 1]? = some Z := heap_alloc2_new w Z Z
  have hB : Below w.heap.size w ((w.alloc Z).alloc Z) := ((Below.refl _ _).alloc (Nat.le_refl _) _).alloc (by show w.heap.size ≤ (w.heap.push _).size; simp) _
  obtain ⟨W, hW⟩ : ∃ W, W = (w.alloc Z).alloc Z := ⟨_, rfl⟩
  rw [← hW] at hg0 hg1 hB
  rw [hZ] at hg0 hg1
  have hcp := run_copy_str (P := Tryz.prog) W 22 9 3 5 (w.heap.size + 1) 9 9 s _ 125 n hn Tryz.underlying22 Tryz.infoBy hg1 (by decide)
  rw [show (#[Value.int .u8 0, .int .u8 0, .int .u8 0, .int .u8 0, .int .u8 0, .int .u8 0, .int .u8 0, .int .u8 0, .int .u8 0] : Array Value).toList = List.replicate 9 (Value.int .u8 0) from rfl, hrow] at hcp
  have hB1 := below_setRow hB (g := w.heap.size + 1) (by omega) (nmC s)
  have h0 := (setRow_other W (w.heap.size + 1) w.heap.size (nmC s) (by omega)).trans hg0
  have h1 := setRow_new W (w.heap.size + 1) _ (nmC s) _ hg1
  have hB2 := below_setRow hB1 (g := w.heap.size) (Nat.le_refl _) (nmC s)
  have h2 := setRow_new (W.setRow (w.heap.size + 1) (nmC s)) w.heap.size _ (nmC s) _ h0
  have hsz := nmC_size s
  have hone := nmC_one s
  have H := hide (And.intro h0 (And.intro h1 (And.intro h2 (And.intro hB2 (And.intro hsz hone)))))
  subst hZ hW
  clear hn hrow hg0 hg1 hB hB1 hB2 h0 h1 h2 hsz hone
  go_enter Tryz.func132, Tryz.ntmps132
  go_wp2_with (first | refine wpList_load_row rfl 125 _ rfl (w.heap.size + 1) rfl 125 _ (0, 0) _ H.out.2.1 Tryz.underlying125 rfl (Tryz.infoNm.trans (by rw [nmC_size])) ?_ | refine wpList_store_row rfl 125 _ _ rfl w.heap.size _ rfl rfl 125 _ H.out.1 (Tryz.infoNm.trans (by rw [nmC_size])) (by rw [nmC_size]; rfl) (nmC_one s) ?_)
  exact bodyPost_ret (v := .agg (nmC s)) (results_cell_row rfl _ _ w.heap.size 125 _ (0, 0) _ rfl H.out.2.2.1 Tryz.underlying125 rfl (Tryz.infoNm.trans (by rw [nmC_size]))) rfl ⟨rfl, H.out.2.2.2.1⟩
theorem tail_idx (s : ByteArray) (m : List UInt8) (b : UInt8) (h : s.data.toList = m ++ [b]) : ∀ W : World, (Instr.index 9 (.string s) (.int .i64 ((s.size : Int) - 1))).run Tryz.prog W = .ok (.int .u8 (b.toNat : Int)) W := by
  intro W
  have hz : s.size = m.length + 1 := by
    have : s.data.toList.length = s.size := Array.length_toList
    rw [h] at this
    simpa using this.symm
  rw [run_index_string W 9 _ .i64 _ Tryz.underlying9, dif_pos (by omega)]
  have e : ((s.size : Int) - 1).toNat = m.length := by omega
  have hb : ∀ k (hk : k < s.size), k = m.length → s[k] = b := by
    intro k hk hkm
    subst hkm
    have h1 : s.data.toList[m.length]'(by rw [h]; simp) = b := by simp [h]
    exact h1
  rw [hb _ (by omega) e]
theorem tail_cut (s : ByteArray) (m : List UInt8) (b : UInt8) (h : s.data.toList = m ++ [b]) : ∀ W : World, (Instr.slice 9 (.string s) none (some (.int .i64 ((s.size : Int) - 1))) none).run Tryz.prog W = .ok (.string ⟨m.toArray⟩) W := by
  intro W
  have hz : s.size = m.length + 1 := by
    have : s.data.toList.length = s.size := Array.length_toList
    rw [h] at this
    simpa using this.symm
  have := run_slice_string_h (P := Tryz.prog) W 9 s Tryz.underlying9 .i64 ((s.size : Int) - 1) (by omega) (by omega)
  rw [this]
  have e : ((s.size : Int) - 1).toNat = m.length := by omega
  rw [e]
  have : s.extract 0 m.length = ⟨m.toArray⟩ := by
    refine ByteArray.ext (Array.toList_inj.1 ?_)
    rw [ByteArray.data_extract, Array.toList_extract, h]
    simp
  rw [this]
theorem trimByte_any (s0 : ByteArray) (w : World) (hl : s0.size ≤ 1000) : Calls Tryz.prog 154 #[.string s0, .int .u8 0] w fun e w' => e = .returned (.string ⟨(trimZ s0.data.toList).toArray⟩) ∧ w' = w := by
  obtain ⟨R, HR⟩ : ∃ R, Hid (trimZ s0.data.toList = R) := ⟨_, rfl⟩
  rw [HR.out]
  go_enter Tryz.func154, Tryz.ntmps154
  go_wp2_with (fail)
  go_loopw [0] (fun v wr => ∃ s : ByteArray, v = .string s ∧ s.size ≤ 1000 ∧ Hid (trimZ s.data.toList = R) ∧ wr = w) (fun v _ => match v with | .string s => s.size | _ => 0)
  case atStart => exact ⟨s0, rfl, hl, HR, rfl⟩
  case round =>
    obtain ⟨s, rfl, hn, HM, rfl⟩ := hrel
    have hll : s.data.toList.length = s.size := Array.length_toList
    by_cases h0 : 0 < s.size
    · have h0' : decide (0 < (s.size : Int)) = true := by simp; omega
      obtain ⟨m, b, HS⟩ : ∃ m b, Hid (s.data.toList = m ++ [b]) := by
        have hne : s.data.toList ≠ [] := by intro e; rw [e] at hll; simp at hll; omega
        exact ⟨_, _, (List.dropLast_concat_getLast hne).symm⟩
      have hidx := tail_idx s m b HS.out
      have hcut := tail_cut s m b HS.out
      have hms : (⟨m.toArray⟩ : ByteArray).size + 1 = s.size := by
        rw [← hll, HS.out]
        simp [ByteArray.size]
      by_cases hb : b = 0
      · have hb' : ((b.toNat : Int) == 0) = true := by rw [hb]; rfl
        have HT : Hid (trimZ m = R) := by
          have := HM.out
          rw [HS.out, hb, trimZ_zero] at this
          exact this
        clear hll
        go_wp2
        go_roundw
        case rel => exact ⟨_, rfl, by omega, HT, by trivial⟩
        case measure => show (⟨m.toArray⟩ : ByteArray).size < s.size; omega
      · have hb' : ((b.toNat : Int) == 0) = false := by
          rw [beq_eq_false_iff_ne]
          intro e
          exact hb (UInt8.toNat_inj.1 (by simpa using e))
        have HT : Hid (s = ⟨R.toArray⟩) := by
          have := HM.out
          rw [HS.out, trimZ_keep _ _ hb, ← HS.out] at this
          show s = _
          rw [← this]
        clear hll
        go_wp2
        rw [HT.out]
        go_ret
        exact ⟨rfl, rfl⟩
    · have h0' : decide (0 < (s.size : Int)) = false := by rw [decide_eq_false_iff_not]; omega
      have HT : Hid (s = ⟨R.toArray⟩) := by
        have hnil : s.data.toList = [] := List.length_eq_zero_iff.1 (by rw [hll]; omega)
        have := HM.out
        rw [hnil, trimZ_nil] at this
        show s = _
        rw [← this]
        exact ByteArray.ext (Array.toList_inj.1 hnil)
      clear hll
      go_wp2
      rw [HT.out]
      go_ret
      exact ⟨rfl, rfl⟩
theorem trimRight_any (s : ByteArray) (w : World) (hl : s.size ≤ 1000) (h9 : 0 < s.size) : Calls Tryz.prog 146 #[.string s, .string ⟨#[0]⟩] w fun e w' => e = .returned (.string ⟨(trimZ s.data.toList).toArray⟩) ∧ w' = w := by
  have H := hide (trimByte_any s w hl)
  obtain ⟨R, HR⟩ : ∃ R, Hid (trimZ s.data.toList = R) := ⟨_, rfl⟩
  rw [HR.out] at H ⊢
  have he : (s.toList == ([] : List UInt8)) = false := by
    rw [beq_eq_false_iff_ne, ByteArray.toList_eq]
    intro e
    have := congrArg List.length e
    rw [Array.length_toList] at this
    have h2 : s.size = 0 := this
    omega
  go_enter Tryz.func146, Tryz.ntmps146
  go_wp2_with (fail)
  refine H.out.mono ?_
  rintro e w1 ⟨rfl, rfl⟩
  go_wp2
  go_ret
  exact ⟨rfl, rfl⟩
theorem nm_bytes {W : World} {g : Nat} {s : ByteArray} (h : W.heap[g]? = some (.cells (nmC s) 125 (0, 0))) : BytesIs W g (padN s) := by
  intro j hj
  refine ⟨?_, frozen_of_row W g j _ _ h⟩
  rw [cell_of_row W g j _ _ (0, 0) h]
  simp [nmC, hj]
  rfl
theorem nmText_any (s : ByteArray) (w : World) : Calls Tryz.prog 133 #[.agg (nmC s)] w fun e w' => e = .returned (.string (nmT s)) ∧ Below w.heap.size w w' := by
  have hg := heap_alloc_new w (.cells (nmC s) 125)
  have hb := bytesIs_back (P := Tryz.prog) (w.alloc (.cells (nmC s) 125)) 22 9 5 w.heap.size 9 9 (padN s) (padN_length s) Tryz.underlying22 Tryz.underlying5 Tryz.underlying9 (nm_bytes hg)
  have hp : (⟨(padN s).toArray⟩ : ByteArray).size = 9 := by simp [ByteArray.size, padN_length]
  have H := hide (fun W => trimRight_any ⟨(padN s).toArray⟩ W (by omega) (by omega))
  have HB := hide ((Below.refl w.heap.size w).alloc (Nat.le_refl _) (.cells (nmC s) 125))
  clear hg hp
  go_enter Tryz.func133, Tryz.ntmps133
  go_wp2_with (fail)
  refine (H.out _).mono ?_
  rintro e w1 ⟨rfl, rfl⟩
  go_wp2
  go_ret
  exact ⟨rfl, HB.out⟩
def cmdsK : List (Int × Int) := [(0, 0), (1, 0), (1, 0), (2, 1), (2, 1), (2, 1), (2, 1), (1, 0), (1, 1), (1, 1), (2, 1), (2, 1), (4, 0), (6, 1), (4, 1), (4, 0), (1, 0), (2, 1), (1, 0), (1, 1), (0, 0), (0, 0), (0, 1), (5, 1), (5, 1), (1, 1), (1, 1), (1, 0), (3, 0), (2, 0), (3, 1), (2, 0), (5, 1), (1, 0), (1, 0), (1, 0), (5, 1), (5, 1), (2, 0), (1, 0), (1, 0)]
def cmdC (s : ByteArray) (a b : Int) : Array Value := nmC s ++ #[.int .i64 a, .int .i64 b]
theorem cmdC_size (s : ByteArray) (a b : Int) : (cmdC s a b).size = 11 := by simp [cmdC, nmC_size]
def allV : List (Array Value) := (cmdsL.zip cmdsK).map fun x => cmdC x.1 x.2.1 x.2.2
def allC : Array Value := (allV.map Array.toList).flatten.toArray
theorem nine (xs : Array Value) (h : xs.size = 9) : ∃ a b c d e f g i j, xs = #[a, b, c, d, e, f, g, i, j] := by
  obtain ⟨l⟩ := xs
  match l, h with
  | [a, b, c, d, e, f, g, i, j], _ => exact ⟨a, b, c, d, e, f, g, i, j, rfl⟩
theorem nine_built (a b c d e f g i j : Value) (k m : Int) : Tryz.prog.built 129 [(0, .agg #[a, b, c, d, e, f, g, i, j]), (1, .int .i64 k), (2, .int .i64 m)] = some #[a, b, c, d, e, f, g, i, j, .int .i64 k, .int .i64 m] := by
  have h1 : Tryz.prog.built 129 = fun parts => Instr.fill (#[(0, 9), (9, 1), (10, 1)][·]?) #[.int .u8 0, .int .u8 0, .int .u8 0, .int .u8 0, .int .u8 0, .int .u8 0, .int .u8 0, .int .u8 0, .int .u8 0, .int .i64 0, .int .i64 0] parts := by kernel_rfl
  rw [h1]
  simp [Instr.fill, Value.cells]
theorem cmdC_b (s : ByteArray) (a b : Int) : Tryz.prog.built 129 [(0, .agg (nmC s)), (1, .int .i64 a), (2, .int .i64 b)] = some (cmdC s a b) := by
  unfold cmdC
  obtain ⟨a0, a1, a2, a3, a4, a5, a6, a7, a8, h⟩ := nine (nmC s) (nmC_size s)
  rw [h]
  exact nine_built a0 a1 a2 a3 a4 a5 a6 a7 a8 _ _
theorem fold_seg (off : Nat) : ∀ (c : List Value) (k : Nat) (A B C : List Value), A.length = off + k → B.length = c.length →
    (c.zipIdx k).foldl (fun (cs : Array Value) (x : Value × Nat) => cs.setIfInBounds (off + x.2) x.1) (A ++ B ++ C).toArray = (A ++ c ++ C).toArray
  | [], k, A, B, C, _, hB => by
    have : B = [] := List.length_eq_zero_iff.1 hB
    subst this
    rfl
  | x :: c, k, A, [], C, _, hB => by simp at hB
  | x :: c, k, A, b :: B, C, hA, hB => by
    have e : ((A ++ (b :: B) ++ C).toArray).setIfInBounds (off + k) x = ((A ++ [x]) ++ B ++ C).toArray := by
      rw [← hA, List.setIfInBounds_toArray]
      simp
    rw [List.zipIdx_cons, List.foldl_cons, e, fold_seg off c (k + 1) (A ++ [x]) B C (by simp; omega) (by simpa using hB)]
    simp
theorem fill_one (place : Nat → Option (Nat × Nat)) (cells : Array Value) (k : Nat) (v : Array Value) (rest : List (Nat × Value)) (off m : Nat) (hp : place k = some (off, m)) (hv : v.size = m) (hc : off + m ≤ cells.size) :
    Instr.fill place cells ((k, Value.agg v) :: rest) = Instr.fill place (v.zipIdx.foldl (fun cs (c, j) => cs.setIfInBounds (off + j) c) cells) rest := by
  have h1 : ((decide ((Value.agg v).cells.size ≠ m)) || decide (off + (Value.agg v).cells.size > cells.size)) = false := by
    have : (Value.agg v).cells.size = m := hv
    rw [this]
    simp
    omega
  rw [Instr.fill]
  simp only [hp]
  rw [h1]
  rfl
theorem fill_row (m : Nat) : ∀ (vs : List (Array Value)) (k : Nat) (A C : List Value), A.length = k * m → C.length = vs.length * m → (∀ v ∈ vs, v.size = m) →
    Instr.fill (fun i => some (i * m, m)) (A ++ C).toArray ((vs.zipIdx k).map fun x => (x.2, Value.agg x.1)) = some (A ++ (vs.map Array.toList).flatten).toArray
  | [], k, A, C, _, hC, _ => by
    have : C = [] := List.length_eq_zero_iff.1 (by simpa using hC)
    subst this
    rfl
  | v :: vs, k, A, C, hA, hC, hv => by
    have hvm : v.size = m := hv v List.mem_cons_self
    have hC1 : C.length = vs.length * m + m := by simpa [Nat.succ_mul] using hC
    have hsz : ((A ++ C).toArray).size = k * m + (vs.length * m + m) := by simp [hA, hC1]
    rw [List.zipIdx_cons, List.map_cons, fill_one (fun i => some (i * m, m)) _ k v _ (k * m) m rfl hvm (by rw [hsz]; omega)]
    have hf : (v.zipIdx.foldl (fun cs (c, j) => cs.setIfInBounds (k * m + j) c) (A ++ C).toArray) = ((A ++ v.toList) ++ C.drop m).toArray := by
      rw [← Array.foldl_toList, Array.toList_zipIdx]
      have := fold_seg (k * m) v.toList 0 A (C.take m) (C.drop m) (by simpa using hA) (by simp [hvm]; omega)
      rw [List.append_assoc A, List.take_append_drop] at this
      exact this
    rw [hf]
    have := fill_row m vs (k + 1) (A ++ v.toList) (C.drop m) (by simp [hA, hvm, Nat.succ_mul]) (by simp; omega) (fun x hx => hv x (List.mem_cons_of_mem _ hx))
    rw [this]
    simp
theorem zero_all : Tryz.prog.built 152 = fun parts => Instr.fill (fun i => some (i * 11, 11)) ([] ++ (List.replicate 41 [Value.int .u8 0, .int .u8 0, .int .u8 0, .int .u8 0, .int .u8 0, .int .u8 0, .int .u8 0, .int .u8 0, .int .u8 0, .int .i64 0, .int .i64 0]).flatten).toArray parts := by kernel_rfl
def partsL (f : ByteArray → Int → Int → Array Value) : List (Nat × Value) := [(0, Value.agg (f ⟨#[80, 73, 78, 71]⟩ 0 0)), (1, Value.agg (f ⟨#[69, 67, 72, 79]⟩ 1 0)), (2, Value.agg (f ⟨#[71, 69, 84]⟩ 1 0)), (3, Value.agg (f ⟨#[83, 69, 84]⟩ 2 1)), (4, Value.agg (f ⟨#[83, 69, 84, 78, 88]⟩ 2 1)), (5, Value.agg (f ⟨#[71, 69, 84, 83, 69, 84]⟩ 2 1)), (6, Value.agg (f ⟨#[65, 80, 80, 69, 78, 68]⟩ 2 1)), (7, Value.agg (f ⟨#[83, 84, 82, 76, 69, 78]⟩ 1 0)), (8, Value.agg (f ⟨#[73, 78, 67, 82]⟩ 1 1)), (9, Value.agg (f ⟨#[68, 69, 67, 82]⟩ 1 1)), (10, Value.agg (f ⟨#[73, 78, 67, 82, 66, 89]⟩ 2 1)), (11, Value.agg (f ⟨#[68, 69, 67, 82, 66, 89]⟩ 2 1)), (12, Value.agg (f ⟨#[77, 71, 69, 84]⟩ 4 0)), (13, Value.agg (f ⟨#[77, 83, 69, 84]⟩ 6 1)), (14, Value.agg (f ⟨#[68, 69, 76]⟩ 4 1)), (15, Value.agg (f ⟨#[69, 88, 73, 83, 84, 83]⟩ 4 0)), (16, Value.agg (f ⟨#[84, 89, 80, 69]⟩ 1 0)), (17, Value.agg (f ⟨#[69, 88, 80, 73, 82, 69]⟩ 2 1)), (18, Value.agg (f ⟨#[84, 84, 76]⟩ 1 0)), (19, Value.agg (f ⟨#[80, 69, 82, 83, 73, 83, 84]⟩ 1 1)), (20, Value.agg (f ⟨#[75, 69, 89, 83]⟩ 0 0)), (21, Value.agg (f ⟨#[68, 66, 83, 73, 90, 69]⟩ 0 0)), (22, Value.agg (f ⟨#[70, 76, 85, 83, 72, 65, 76, 76]⟩ 0 1)), (23, Value.agg (f ⟨#[76, 80, 85, 83, 72]⟩ 5 1)), (24, Value.agg (f ⟨#[82, 80, 85, 83, 72]⟩ 5 1)), (25, Value.agg (f ⟨#[76, 80, 79, 80]⟩ 1 1)), (26, Value.agg (f ⟨#[82, 80, 79, 80]⟩ 1 1)), (27, Value.agg (f ⟨#[76, 76, 69, 78]⟩ 1 0)), (28, Value.agg (f ⟨#[76, 82, 65, 78, 71, 69]⟩ 3 0)), (29, Value.agg (f ⟨#[76, 73, 78, 68, 69, 88]⟩ 2 0)), (30, Value.agg (f ⟨#[72, 83, 69, 84]⟩ 3 1)), (31, Value.agg (f ⟨#[72, 71, 69, 84]⟩ 2 0)), (32, Value.agg (f ⟨#[72, 68, 69, 76]⟩ 5 1)), (33, Value.agg (f ⟨#[72, 76, 69, 78]⟩ 1 0)), (34, Value.agg (f ⟨#[72, 71, 69, 84, 65, 76, 76]⟩ 1 0)), (35, Value.agg (f ⟨#[72, 75, 69, 89, 83]⟩ 1 0)), (36, Value.agg (f ⟨#[83, 65, 68, 68]⟩ 5 1)), (37, Value.agg (f ⟨#[83, 82, 69, 77]⟩ 5 1)), (38, Value.agg (f ⟨#[83, 73, 83, 77, 69, 77, 66, 69, 82]⟩ 2 0)), (39, Value.agg (f ⟨#[83, 67, 65, 82, 68]⟩ 1 0)), (40, Value.agg (f ⟨#[83, 77, 69, 77, 66, 69, 82, 83]⟩ 1 0))]
theorem parts_row (f : ByteArray → Int → Int → Array Value) : (((cmdsL.zip cmdsK).map fun x => f x.1 x.2.1 x.2.2).zipIdx 0).map (fun x => (x.2, Value.agg x.1)) = partsL f := by
  simp only [cmdsL, cmdsK, List.zip_cons_cons, List.zip_nil_right, List.map_cons, List.map_nil, List.zipIdx_cons, List.zipIdx_nil, Nat.reduceAdd, Nat.zero_add, partsL]
theorem all_built : Tryz.prog.built 152 (partsL cmdC) = some allC := by
  have hl : allV.length = 41 := by unfold allV; rw [List.length_map]; rfl
  have hm : ∀ v ∈ allV, v.size = 11 := by
    intro v hv
    simp only [allV, List.mem_map] at hv
    obtain ⟨x, _, rfl⟩ := hv
    exact cmdC_size _ _ _
  have e : (((cmdsL.zip cmdsK).map fun x => cmdC x.1 x.2.1 x.2.2)) = allV := rfl
  unfold allC
  rw [zero_all, ← parts_row cmdC, e]
  generalize allV = V at hl hm
  have hz : (List.replicate 41 [Value.int .u8 0, .int .u8 0, .int .u8 0, .int .u8 0, .int .u8 0, .int .u8 0, .int .u8 0, .int .u8 0, .int .u8 0, .int .i64 0, .int .i64 0]).flatten.length = V.length * 11 := by rw [hl, List.length_flatten, List.map_replicate, List.sum_replicate_nat]; rfl
  generalize (List.replicate 41 [Value.int .u8 0, .int .u8 0, .int .u8 0, .int .u8 0, .int .u8 0, .int .u8 0, .int .u8 0, .int .u8 0, .int .u8 0, .int .i64 0, .int .i64 0]).flatten = C at hz
  have := fill_row 11 V 0 [] C (by simp) hz hm
  rw [List.nil_append] at this
  exact this
theorem allC_size : allC.size = 451 := by
  have hl : allV.length = 41 := by unfold allV; rw [List.length_map]; rfl
  have hm : ∀ v ∈ allV, v.size = 11 := by
    intro v hv
    simp only [allV, List.mem_map] at hv
    obtain ⟨x, _, rfl⟩ := hv
    exact cmdC_size _ _ _
  unfold allC
  generalize allV = V at hl hm
  have : ∀ (L : List (Array Value)), (∀ v ∈ L, v.size = 11) → (L.map Array.toList).flatten.length = L.length * 11 := by
    intro L
    induction L with
    | nil => intro _; rfl
    | cons a L ih =>
      intro h
      have h1 := h a List.mem_cons_self
      have h2 := ih (fun v hv => h v (List.mem_cons_of_mem _ hv))
      simp only [List.map_cons, List.flatten_cons, List.length_append, Array.length_toList, List.length_cons]
      omega
  have := this V hm
  rw [hl] at this
  simpa using this
theorem Tryz.infoAll : (Tryz.prog.info? 152).map (·.size) = some 451 := by kernel_rfl
theorem Tryz.infoCmd : (Tryz.prog.info? 129).map (·.size) = some 11 := by kernel_rfl
theorem nmC_all {s : ByteArray} : ∀ v ∈ nmC s, v.oneCell' = true := by
  have := nmC_one s
  rwa [Array.all_eq_true_iff_forall_mem] at this
theorem cmdC_one (s : ByteArray) (a b : Int) : (cmdC s a b).all (·.oneCell') = true := by
  rw [Array.all_eq_true_iff_forall_mem]
  intro v hv
  unfold cmdC at hv
  rcases Array.mem_append.1 hv with h | h
  · exact nmC_all v h
  · simp at h
    rcases h with rfl | rfl <;> rfl
theorem allC_one : allC.all (·.oneCell') = true := by
  rw [Array.all_eq_true_iff_forall_mem]
  intro v hv
  simp only [allC, allV, List.mem_toArray, List.mem_flatten, List.mem_map] at hv
  obtain ⟨l, ⟨a, ⟨x, _, rfl⟩, rfl⟩, hm⟩ := hv
  exact (Array.all_eq_true_iff_forall_mem.1 (cmdC_one _ _ _)) v (by simpa using hm)
theorem zero_there : ∃ Z : Array Value, Z.size = 451 ∧ ∀ W : World, (zeroValue 152).run Tryz.prog W = .ok (.agg Z) W := by
  have h1 : (Tryz.prog.info? 152).map (·.zero) = some (some (.agg (List.replicate 41 [Value.int .u8 0, .int .u8 0, .int .u8 0, .int .u8 0, .int .u8 0, .int .u8 0, .int .u8 0, .int .u8 0, .int .u8 0, .int .i64 0, .int .i64 0]).flatten.toArray)) := by kernel_rfl
  have hz : (List.replicate 41 [Value.int .u8 0, .int .u8 0, .int .u8 0, .int .u8 0, .int .u8 0, .int .u8 0, .int .u8 0, .int .u8 0, .int .u8 0, .int .i64 0, .int .i64 0]).flatten.toArray.size = 451 := by rw [List.size_toArray, List.length_flatten, List.map_replicate, List.sum_replicate_nat]; rfl
  generalize (List.replicate 41 [Value.int .u8 0, .int .u8 0, .int .u8 0, .int .u8 0, .int .u8 0, .int .u8 0, .int .u8 0, .int .u8 0, .int .u8 0, .int .i64 0, .int .i64 0]).flatten.toArray = Z at h1 hz
  refine ⟨Z, hz, fun W => ?_⟩
  cases hq : Tryz.prog.info? 152 with
  | none => simp [hq] at h1
  | some i =>
    have hi : i.zero = some (.agg Z) := by simpa [hq] using h1
    simp [zeroValue, typeInfo, hq, hi]
def BoxA (w W : World) (Z : Array Value) : Prop := W.heap[w.heap.size]? = some (.cells Z 152 (0, 0)) ∧ Below w.heap.size w W
theorem boxA_new (w : World) (Z : Array Value) : BoxA w (w.alloc (.cells Z 152)) Z := ⟨heap_alloc_new w _, (Below.refl _ _).alloc (Nat.le_refl _) _⟩
theorem boxA_on {w W W' : World} {Z : Array Value} (h : BoxA w W Z) (b : Below W.heap.size W W') : BoxA w W' Z :=
  ⟨(b.block _ (Array.getElem?_eq_some_iff.1 h.1).1).trans h.1, h.2.trans (b.mono h.2.size)⟩
theorem wpList_alloc36 {P : Program} {ops : Array Oper} {rest : List Oper} {o : Oper} {a : Act} {w : World} {Q : Exit → Act → World → Prop} (hgd : o.guard = none) (t : TypeId) (ho : o.op = .alloc t) (Z : Array Value) (hz : ∀ W : World, (zeroValue t).run P W = .ok (.agg Z) W)
    (h : wpList P ops Q rest (a.put o.dst (.pointer (some ⟨w.heap.size, 0, none⟩))) (w.alloc (.cells Z t))) : wpList P ops Q (o :: rest) a w := by
  refine wpList_plain hgd fun K hK => ?_
  unfold Oper.wp
  simp [execOp, ho, go_sem, hz, Result.andThen]
  exact hK _ _ h
theorem wpList_named {ops : Array Oper} {rest : List Oper} {o : Oper} {a : Act} {w : World} {Q : Exit → Act → World → Prop} (hgd : o.guard = none) (s : ByteArray)
    (ho : o.op = .call { callee := .value (.func 132), args := #[.const (.string s)], argTypes := #[9] })
    (h : ∀ w', Below w.heap.size w w' → wpList Tryz.prog ops Q rest (a.put o.dst (.agg (nmC s))) w') : wpList Tryz.prog ops Q (o :: rest) a w := by
  refine wpList_plain hgd fun K hK => ?_
  unfold Oper.wp
  simp [execOp, ho, go_sem, Act.eval]
  refine (nmOf_any s w).mono ?_
  rintro e w' ⟨rfl, b⟩
  exact hK _ _ (h w' b)
theorem wpList_built {P : Program} {ops : Array Oper} {rest : List Oper} {o : Oper} {a : Act} {w : World} {Q : Exit → Act → World → Prop} (hgd : o.guard = none) (t : TypeId) (parts : Array (Nat × Operand)) (ho : o.op = .build t parts) (cells : Array Value)
    (hc : P.built t (parts.map fun (x : Nat × Operand) => (x.1, a.eval x.2)).toList = some cells) (h : wpList P ops Q rest (a.put o.dst (.agg cells)) w) : wpList P ops Q (o :: rest) a w :=
  wpList_build hgd t parts ho (by rw [hc]; rfl) (by rw [hc]; exact h)
structure GA (n : Nat) (p : Value) (a : Act) : Prop where
  sz : a.tmps.size = 84
  df : a.defers = []
  bx : a.tmps[0]? = some p
  vs : ∀ j, j < n → a.tmps[2 * j + 2]? = (allV[j]?).map Value.agg
theorem put_get {a : Act} {d : Nat} {v : Value} (i : Nat) : (a.put (some d) v).tmps[i]? = if d = i then (if d < a.tmps.size then some v else none) else a.tmps[i]? := by
  simp [Act.put, Array.getElem?_setIfInBounds]
theorem cmd_step {ops : Array Oper} {rest : List Oper} {o1 o2 : Oper} {a : Act} {w : World} {Q : Exit → Act → World → Prop} {p : Value} (n : Nat) (s : ByteArray) (k m : Int) (hn : n < 41) (g1 : o1.guard = none) (g2 : o2.guard = none)
    (h1 : o1.op = .call { callee := .value (.func 132), args := #[.const (.string s)], argTypes := #[9] }) (d1 : o1.dst = some (2 * n + 1))
    (h2 : o2.op = .build 129 #[(0, .tmp (2 * n + 1)), (1, .const (.int .i64 k)), (2, .const (.int .i64 m))]) (d2 : o2.dst = some (2 * n + 2)) (hv : allV[n]? = some (cmdC s k m)) (hg : GA n p a)
    (h : ∀ a' w', GA (n + 1) p a' → Below w.heap.size w w' → wpList Tryz.prog ops Q rest a' w') : wpList Tryz.prog ops Q (o1 :: o2 :: rest) a w := by
  refine wpList_named g1 s h1 fun w' b => ?_
  rw [d1]
  have he : (a.put (some (2 * n + 1)) (.agg (nmC s))).eval (.tmp (2 * n + 1)) = .agg (nmC s) := by
    have := put_get (a := a) (d := 2 * n + 1) (v := .agg (nmC s)) (2 * n + 1)
    rw [if_pos rfl, if_pos (by rw [hg.sz]; omega)] at this
    simp only [Act.eval, Array.getD_eq_getD_getElem?, this]
    rfl
  refine wpList_built g2 _ _ h2 (cmdC s k m) ?_ (h _ w' ?_ b)
  · have e : (#[(0, Operand.tmp (2 * n + 1)), (1, .const (.int .i64 k)), (2, .const (.int .i64 m))].map fun (x : Nat × Operand) => (x.1, (a.put (some (2 * n + 1)) (.agg (nmC s))).eval x.2)).toList = [(0, .agg (nmC s)), (1, .int .i64 k), (2, .int .i64 m)] := by
      simp only [List.map_toArray, List.map_cons, List.map_nil, he]
      rfl
    exact (congrArg _ e).trans (cmdC_b s k m)
  rw [d2]
  refine ⟨by simp [Act.put, hg.sz], by simp [Act.put, hg.df], ?_, fun j hj => ?_⟩
  · rw [put_get, if_neg (by omega), put_get, if_neg (by omega)]
    exact hg.bx
  · rw [put_get]
    by_cases hjn : j = n
    · subst hjn
      rw [if_pos rfl, if_pos (by simp [Act.put, hg.sz]; omega), hv]
      rfl
    · rw [if_neg (by omega), put_get, if_neg (by omega)]
      exact hg.vs j (by omega)
theorem last_step {ops : Array Oper} {o1 o2 : Oper} {a : Act} {w : World} {Q : Exit → Act → World → Prop} {g : Nat} (parts : Array (Nat × Operand)) (g1 : o1.guard = none) (g2 : o2.guard = none)
    (h1 : o1.op = .build 152 parts) (hp : parts = ((List.range 41).map fun j => (j, Operand.tmp (2 * j + 2))).toArray) (d1 : o1.dst = some 83) (h2 : o2.op = .store 152 (.tmp 0) (.tmp 83)) (d2 : o2.dst = none)
    (Z : Array Value) (hZ : Z.size = 451) (hg : GA 41 (.pointer (some ⟨g, 0, none⟩)) a) (hw : w.heap[g]? = some (.cells Z 152 (0, 0)))
    (h : ∀ a', a'.defers = [] → a'.tmps[0]? = some (.pointer (some ⟨g, 0, none⟩)) → Q .normal a' (w.setRow g allC)) : wpList Tryz.prog ops Q [o1, o2] a w := by
  have hl : allV.length = 41 := by unfold allV; rw [List.length_map]; rfl
  have he : (parts.map fun (x : Nat × Operand) => (x.1, a.eval x.2)).toList = partsL cmdC := by
    rw [← parts_row cmdC, hp]
    have e : ((cmdsL.zip cmdsK).map fun x => cmdC x.1 x.2.1 x.2.2) = allV := rfl
    rw [e]
    have hvs := hg.vs
    generalize allV = V at hl hvs
    rw [List.map_toArray, List.map_map]
    apply List.ext_getElem
    · simp [hl]
    · intro j h1 h2
      have hj : j < 41 := by simpa using h1
      have h3 := hvs j hj
      simp only [List.getElem_map, List.getElem_range, List.getElem_zipIdx, Function.comp]
      have hV : V[j]? = some (V[j]'(by omega)) := List.getElem?_eq_getElem (by omega)
      rw [hV] at h3
      simp only [Act.eval, Array.getD_eq_getD_getElem?, h3]
      simp
  refine wpList_built g1 _ parts h1 allC (by rw [he]; exact all_built) ?_
  rw [d1]
  have hx : (a.put (some 83) (.agg allC)).eval (.tmp 0) = .pointer (some ⟨g, 0, none⟩) := by
    simp only [Act.eval, Array.getD_eq_getD_getElem?]
    rw [put_get, if_neg (by omega), hg.bx]
    rfl
  have hy : (a.put (some 83) (.agg allC)).eval (.tmp 83) = .agg allC := by
    simp only [Act.eval, Array.getD_eq_getD_getElem?]
    rw [put_get, if_pos rfl, if_pos (by rw [hg.sz]; omega)]
    rfl
  refine wpList_store_row g2 152 _ _ h2 g allC hx hy 152 Z hw (Tryz.infoAll.trans (by rw [allC_size])) (by rw [allC_size, hZ]) allC_one ?_
  rw [d2]
  refine wpList_nil (h _ hg.df ?_)
  show (a.put (some 83) (.agg allC)).tmps[0]? = _
  rw [put_get, if_neg (by omega)]
  exact hg.bx
theorem allCmds_any (w : World) : Calls Tryz.prog 134 #[] w fun e w' => e = .returned (.agg allC) ∧ Below w.heap.size w w' := by
  obtain ⟨Z, hZs, hzero⟩ := zero_there
  have B0 := boxA_new w Z
  go_enter Tryz.func134, Tryz.ntmps134
  refine wp_seq_k fun K1 hK1 => ?_
  refine wp_region_list ?_
  refine wpList_alloc36 rfl _ rfl Z hzero ?_
  refine wpList_nil (hK1 _ _ ?_)
  refine wp_seq_k fun K2 hK2 => ?_
  refine wp_region_list ?_
  have h0 : GA 0 (.pointer (some ⟨w.heap.size, 0, none⟩)) (Act.put ⟨(List.replicate 84 undef).toArray, []⟩ (some 0) (.pointer (some ⟨w.heap.size, 0, none⟩))) := ⟨rfl, rfl, rfl, fun j hj => by omega⟩
  refine cmd_step 0 _ _ _ (by decide) rfl rfl rfl rfl rfl rfl rfl h0 ?_
  rintro a1 w1 h1 b1
  have B1 := boxA_on B0 b1
  refine cmd_step 1 _ _ _ (by decide) rfl rfl rfl rfl rfl rfl rfl h1 ?_
  rintro a2 w2 h2 b2
  have B2 := boxA_on B1 b2
  refine cmd_step 2 _ _ _ (by decide) rfl rfl rfl rfl rfl rfl rfl h2 ?_
  rintro a3 w3 h3 b3
  have B3 := boxA_on B2 b3
  refine cmd_step 3 _ _ _ (by decide) rfl rfl rfl rfl rfl rfl rfl h3 ?_
  rintro a4 w4 h4 b4
  have B4 := boxA_on B3 b4
  refine cmd_step 4 _ _ _ (by decide) rfl rfl rfl rfl rfl rfl rfl h4 ?_
  rintro a5 w5 h5 b5
  have B5 := boxA_on B4 b5
  refine cmd_step 5 _ _ _ (by decide) rfl rfl rfl rfl rfl rfl rfl h5 ?_
  rintro a6 w6 h6 b6
  have B6 := boxA_on B5 b6
  refine cmd_step 6 _ _ _ (by decide) rfl rfl rfl rfl rfl rfl rfl h6 ?_
  rintro a7 w7 h7 b7
  have B7 := boxA_on B6 b7
  refine cmd_step 7 _ _ _ (by decide) rfl rfl rfl rfl rfl rfl rfl h7 ?_
  rintro a8 w8 h8 b8
  have B8 := boxA_on B7 b8
  refine cmd_step 8 _ _ _ (by decide) rfl rfl rfl rfl rfl rfl rfl h8 ?_
  rintro a9 w9 h9 b9
  have B9 := boxA_on B8 b9
  refine cmd_step 9 _ _ _ (by decide) rfl rfl rfl rfl rfl rfl rfl h9 ?_
  rintro a10 w10 h10 b10
  have B10 := boxA_on B9 b10
  refine cmd_step 10 _ _ _ (by decide) rfl rfl rfl rfl rfl rfl rfl h10 ?_
  rintro a11 w11 h11 b11
  have B11 := boxA_on B10 b11
  refine cmd_step 11 _ _ _ (by decide) rfl rfl rfl rfl rfl rfl rfl h11 ?_
  rintro a12 w12 h12 b12
  have B12 := boxA_on B11 b12
  refine cmd_step 12 _ _ _ (by decide) rfl rfl rfl rfl rfl rfl rfl h12 ?_
  rintro a13 w13 h13 b13
  have B13 := boxA_on B12 b13
  refine cmd_step 13 _ _ _ (by decide) rfl rfl rfl rfl rfl rfl rfl h13 ?_
  rintro a14 w14 h14 b14
  have B14 := boxA_on B13 b14
  refine cmd_step 14 _ _ _ (by decide) rfl rfl rfl rfl rfl rfl rfl h14 ?_
  rintro a15 w15 h15 b15
  have B15 := boxA_on B14 b15
  refine cmd_step 15 _ _ _ (by decide) rfl rfl rfl rfl rfl rfl rfl h15 ?_
  rintro a16 w16 h16 b16
  have B16 := boxA_on B15 b16
  refine cmd_step 16 _ _ _ (by decide) rfl rfl rfl rfl rfl rfl rfl h16 ?_
  rintro a17 w17 h17 b17
  have B17 := boxA_on B16 b17
  refine cmd_step 17 _ _ _ (by decide) rfl rfl rfl rfl rfl rfl rfl h17 ?_
  rintro a18 w18 h18 b18
  have B18 := boxA_on B17 b18
  refine cmd_step 18 _ _ _ (by decide) rfl rfl rfl rfl rfl rfl rfl h18 ?_
  rintro a19 w19 h19 b19
  have B19 := boxA_on B18 b19
  refine cmd_step 19 _ _ _ (by decide) rfl rfl rfl rfl rfl rfl rfl h19 ?_
  rintro a20 w20 h20 b20
  have B20 := boxA_on B19 b20
  refine cmd_step 20 _ _ _ (by decide) rfl rfl rfl rfl rfl rfl rfl h20 ?_
  rintro a21 w21 h21 b21
  have B21 := boxA_on B20 b21
  refine cmd_step 21 _ _ _ (by decide) rfl rfl rfl rfl rfl rfl rfl h21 ?_
  rintro a22 w22 h22 b22
  have B22 := boxA_on B21 b22
  refine cmd_step 22 _ _ _ (by decide) rfl rfl rfl rfl rfl rfl rfl h22 ?_
  rintro a23 w23 h23 b23
  have B23 := boxA_on B22 b23
  refine cmd_step 23 _ _ _ (by decide) rfl rfl rfl rfl rfl rfl rfl h23 ?_
  rintro a24 w24 h24 b24
  have B24 := boxA_on B23 b24
  refine cmd_step 24 _ _ _ (by decide) rfl rfl rfl rfl rfl rfl rfl h24 ?_
  rintro a25 w25 h25 b25
  have B25 := boxA_on B24 b25
  refine cmd_step 25 _ _ _ (by decide) rfl rfl rfl rfl rfl rfl rfl h25 ?_
  rintro a26 w26 h26 b26
  have B26 := boxA_on B25 b26
  refine cmd_step 26 _ _ _ (by decide) rfl rfl rfl rfl rfl rfl rfl h26 ?_
  rintro a27 w27 h27 b27
  have B27 := boxA_on B26 b27
  refine cmd_step 27 _ _ _ (by decide) rfl rfl rfl rfl rfl rfl rfl h27 ?_
  rintro a28 w28 h28 b28
  have B28 := boxA_on B27 b28
  refine cmd_step 28 _ _ _ (by decide) rfl rfl rfl rfl rfl rfl rfl h28 ?_
  rintro a29 w29 h29 b29
  have B29 := boxA_on B28 b29
  refine cmd_step 29 _ _ _ (by decide) rfl rfl rfl rfl rfl rfl rfl h29 ?_
  rintro a30 w30 h30 b30
  have B30 := boxA_on B29 b30
  refine cmd_step 30 _ _ _ (by decide) rfl rfl rfl rfl rfl rfl rfl h30 ?_
  rintro a31 w31 h31 b31
  have B31 := boxA_on B30 b31
  refine cmd_step 31 _ _ _ (by decide) rfl rfl rfl rfl rfl rfl rfl h31 ?_
  rintro a32 w32 h32 b32
  have B32 := boxA_on B31 b32
  refine cmd_step 32 _ _ _ (by decide) rfl rfl rfl rfl rfl rfl rfl h32 ?_
  rintro a33 w33 h33 b33
  have B33 := boxA_on B32 b33
  refine cmd_step 33 _ _ _ (by decide) rfl rfl rfl rfl rfl rfl rfl h33 ?_
  rintro a34 w34 h34 b34
  have B34 := boxA_on B33 b34
  refine cmd_step 34 _ _ _ (by decide) rfl rfl rfl rfl rfl rfl rfl h34 ?_
  rintro a35 w35 h35 b35
  have B35 := boxA_on B34 b35
  refine cmd_step 35 _ _ _ (by decide) rfl rfl rfl rfl rfl rfl rfl h35 ?_
  rintro a36 w36 h36 b36
  have B36 := boxA_on B35 b36
  refine cmd_step 36 _ _ _ (by decide) rfl rfl rfl rfl rfl rfl rfl h36 ?_
  rintro a37 w37 h37 b37
  have B37 := boxA_on B36 b37
  refine cmd_step 37 _ _ _ (by decide) rfl rfl rfl rfl rfl rfl rfl h37 ?_
  rintro a38 w38 h38 b38
  have B38 := boxA_on B37 b38
  refine cmd_step 38 _ _ _ (by decide) rfl rfl rfl rfl rfl rfl rfl h38 ?_
  rintro a39 w39 h39 b39
  have B39 := boxA_on B38 b39
  refine cmd_step 39 _ _ _ (by decide) rfl rfl rfl rfl rfl rfl rfl h39 ?_
  rintro a40 w40 h40 b40
  have B40 := boxA_on B39 b40
  refine cmd_step 40 _ _ _ (by decide) rfl rfl rfl rfl rfl rfl rfl h40 ?_
  rintro a41 w41 h41 b41
  have B41 := boxA_on B40 b41
  refine last_step _ rfl rfl rfl rfl rfl rfl rfl Z hZs h41 B41.1 fun a' hd ht => ?_
  refine hK2 _ _ (wp_ret ?_)
  refine bodyPost_ret (v := .agg allC) (results_cell_row rfl _ _ w.heap.size 152 _ (0, 0) _ (by rw [Array.getD_eq_getD_getElem?, ht]; rfl) (setRow_new _ _ _ _ _ B41.1) Tryz.underlying152 rfl (Tryz.infoAll.trans (by rw [allC_size]))) hd ⟨rfl, below_setRow B41.2 (Nat.le_refl _) _⟩
end Go.Proofs.YtifjneldjjmeaaaGreatDoor
