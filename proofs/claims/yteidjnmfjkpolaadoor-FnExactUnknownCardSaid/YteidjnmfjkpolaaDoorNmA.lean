/- All commands, as the program lists them. -/
import Derived.Test.YteidjnmfjkpolaaDoorNmT
namespace Go.Proofs.YteidjnmfjkpolaaDoor
open Go.RowKit

/-- How many arguments each takes, and whether it may change anything. -/
def cmdsK : List (Int × Int) := [(0, 0), (1, 0), (1, 0), (2, 1), (2, 1), (2, 1), (2, 1), (1, 0), (1, 1), (1, 1), (2, 1), (2, 1), (4, 0), (6, 1), (4, 1), (4, 0), (1, 0), (2, 1), (1, 0), (1, 1), (0, 0), (0, 0), (0, 1), (5, 1), (5, 1), (1, 1), (1, 1), (1, 0), (3, 0), (2, 0), (3, 1), (2, 0), (5, 1), (1, 0), (1, 0), (1, 0), (5, 1), (5, 1), (2, 0), (1, 0), (1, 0)]
/-- A command's eleven cells. -/
def cmdC (s : ByteArray) (a b : Int) : Array Value := nmC s ++ #[.int .i64 a, .int .i64 b]
theorem cmdC_size (s : ByteArray) (a b : Int) : (cmdC s a b).size = 11 := by simp [cmdC, nmC_size]
def allV : List (Array Value) := (cmdsL.zip cmdsK).map fun x => cmdC x.1 x.2.1 x.2.2
def allC : Array Value := (allV.map Array.toList).flatten.toArray
theorem nine (xs : Array Value) (h : xs.size = 9) : ∃ a b c d e f g i j, xs = #[a, b, c, d, e, f, g, i, j] := by
  obtain ⟨l⟩ := xs
  match l, h with
  | [a, b, c, d, e, f, g, i, j], _ => exact ⟨a, b, c, d, e, f, g, i, j, rfl⟩
theorem nine_built (a b c d e f g i j : Value) (k m : Int) : Tryd.prog.built 35 [(0, .agg #[a, b, c, d, e, f, g, i, j]), (1, .int .i64 k), (2, .int .i64 m)] = some #[a, b, c, d, e, f, g, i, j, .int .i64 k, .int .i64 m] := by
  have h1 : Tryd.prog.built 35 = fun parts => Instr.fill (#[(0, 9), (9, 1), (10, 1)][·]?) #[.int .u8 0, .int .u8 0, .int .u8 0, .int .u8 0, .int .u8 0, .int .u8 0, .int .u8 0, .int .u8 0, .int .u8 0, .int .i64 0, .int .i64 0] parts := by kernel_rfl
  rw [h1]
  simp [Instr.fill, Value.cells]
theorem cmdC_b (s : ByteArray) (a b : Int) : Tryd.prog.built 35 [(0, .agg (nmC s)), (1, .int .i64 a), (2, .int .i64 b)] = some (cmdC s a b) := by
  unfold cmdC
  obtain ⟨a0, a1, a2, a3, a4, a5, a6, a7, a8, h⟩ := nine (nmC s) (nmC_size s)
  rw [h]
  exact nine_built a0 a1 a2 a3 a4 a5 a6 a7 a8 _ _
theorem fold_seg (off : Nat) : ∀ (c : List Value) (k : Nat) (A B C : List Value), A.length = off + k → B.length = c.length →
    (c.zipIdx k).foldl (fun (cs : Array Value) (x : Value × Nat) => cs.setIfInBounds (off + x.2) x.1) (A ++ B ++ C).toArray = (A ++ c ++ C).toArray
  | [], k, A, B, C, _, hB => by
    have : B = [] := List.length_eq_zero_iff.1 hB
    subst this
    rfl
  | x :: c, k, A, [], C, _, hB => by simp at hB
  | x :: c, k, A, b :: B, C, hA, hB => by
    have e : ((A ++ (b :: B) ++ C).toArray).setIfInBounds (off + k) x = ((A ++ [x]) ++ B ++ C).toArray := by
      rw [← hA, List.setIfInBounds_toArray]
      simp
    rw [List.zipIdx_cons, List.foldl_cons, e, fold_seg off c (k + 1) (A ++ [x]) B C (by simp; omega) (by simpa using hB)]
    simp
theorem fill_one (place : Nat → Option (Nat × Nat)) (cells : Array Value) (k : Nat) (v : Array Value) (rest : List (Nat × Value)) (off m : Nat) (hp : place k = some (off, m)) (hv : v.size = m) (hc : off + m ≤ cells.size) :
    Instr.fill place cells ((k, Value.agg v) :: rest) = Instr.fill place (v.zipIdx.foldl (fun cs (c, j) => cs.setIfInBounds (off + j) c) cells) rest := by
  have h1 : ((decide ((Value.agg v).cells.size ≠ m)) || decide (off + (Value.agg v).cells.size > cells.size)) = false := by
    have : (Value.agg v).cells.size = m := hv
    rw [this]
    simp
    omega
  rw [Instr.fill]
  simp only [hp]
  rw [h1]
  rfl
theorem fill_row (m : Nat) : ∀ (vs : List (Array Value)) (k : Nat) (A C : List Value), A.length = k * m → C.length = vs.length * m → (∀ v ∈ vs, v.size = m) →
    Instr.fill (fun i => some (i * m, m)) (A ++ C).toArray ((vs.zipIdx k).map fun x => (x.2, Value.agg x.1)) = some (A ++ (vs.map Array.toList).flatten).toArray
  | [], k, A, C, _, hC, _ => by
    have : C = [] := List.length_eq_zero_iff.1 (by simpa using hC)
    subst this
    rfl
  | v :: vs, k, A, C, hA, hC, hv => by
    have hvm : v.size = m := hv v List.mem_cons_self
    have hC1 : C.length = vs.length * m + m := by simpa [Nat.succ_mul] using hC
    have hsz : ((A ++ C).toArray).size = k * m + (vs.length * m + m) := by simp [hA, hC1]
    rw [List.zipIdx_cons, List.map_cons, fill_one (fun i => some (i * m, m)) _ k v _ (k * m) m rfl hvm (by rw [hsz]; omega)]
    have hf : (v.zipIdx.foldl (fun cs (c, j) => cs.setIfInBounds (k * m + j) c) (A ++ C).toArray) = ((A ++ v.toList) ++ C.drop m).toArray := by
      rw [← Array.foldl_toList, Array.toList_zipIdx]
      have := fold_seg (k * m) v.toList 0 A (C.take m) (C.drop m) (by simpa using hA) (by simp [hvm]; omega)
      rw [List.append_assoc A, List.take_append_drop] at this
      exact this
    rw [hf]
    have := fill_row m vs (k + 1) (A ++ v.toList) (C.drop m) (by simp [hA, hvm, Nat.succ_mul]) (by simp; omega) (fun x hx => hv x (List.mem_cons_of_mem _ hx))
    rw [this]
    simp
theorem zero_all : Tryd.prog.built 36 = fun parts => Instr.fill (fun i => some (i * 11, 11)) ([] ++ (List.replicate 41 [Value.int .u8 0, .int .u8 0, .int .u8 0, .int .u8 0, .int .u8 0, .int .u8 0, .int .u8 0, .int .u8 0, .int .u8 0, .int .i64 0, .int .i64 0]).flatten).toArray parts := by kernel_rfl
def partsL (f : ByteArray → Int → Int → Array Value) : List (Nat × Value) := [(0, Value.agg (f ⟨#[80, 73, 78, 71]⟩ 0 0)), (1, Value.agg (f ⟨#[69, 67, 72, 79]⟩ 1 0)), (2, Value.agg (f ⟨#[71, 69, 84]⟩ 1 0)), (3, Value.agg (f ⟨#[83, 69, 84]⟩ 2 1)), (4, Value.agg (f ⟨#[83, 69, 84, 78, 88]⟩ 2 1)), (5, Value.agg (f ⟨#[71, 69, 84, 83, 69, 84]⟩ 2 1)), (6, Value.agg (f ⟨#[65, 80, 80, 69, 78, 68]⟩ 2 1)), (7, Value.agg (f ⟨#[83, 84, 82, 76, 69, 78]⟩ 1 0)), (8, Value.agg (f ⟨#[73, 78, 67, 82]⟩ 1 1)), (9, Value.agg (f ⟨#[68, 69, 67, 82]⟩ 1 1)), (10, Value.agg (f ⟨#[73, 78, 67, 82, 66, 89]⟩ 2 1)), (11, Value.agg (f ⟨#[68, 69, 67, 82, 66, 89]⟩ 2 1)), (12, Value.agg (f ⟨#[77, 71, 69, 84]⟩ 4 0)), (13, Value.agg (f ⟨#[77, 83, 69, 84]⟩ 6 1)), (14, Value.agg (f ⟨#[68, 69, 76]⟩ 4 1)), (15, Value.agg (f ⟨#[69, 88, 73, 83, 84, 83]⟩ 4 0)), (16, Value.agg (f ⟨#[84, 89, 80, 69]⟩ 1 0)), (17, Value.agg (f ⟨#[69, 88, 80, 73, 82, 69]⟩ 2 1)), (18, Value.agg (f ⟨#[84, 84, 76]⟩ 1 0)), (19, Value.agg (f ⟨#[80, 69, 82, 83, 73, 83, 84]⟩ 1 1)), (20, Value.agg (f ⟨#[75, 69, 89, 83]⟩ 0 0)), (21, Value.agg (f ⟨#[68, 66, 83, 73, 90, 69]⟩ 0 0)), (22, Value.agg (f ⟨#[70, 76, 85, 83, 72, 65, 76, 76]⟩ 0 1)), (23, Value.agg (f ⟨#[76, 80, 85, 83, 72]⟩ 5 1)), (24, Value.agg (f ⟨#[82, 80, 85, 83, 72]⟩ 5 1)), (25, Value.agg (f ⟨#[76, 80, 79, 80]⟩ 1 1)), (26, Value.agg (f ⟨#[82, 80, 79, 80]⟩ 1 1)), (27, Value.agg (f ⟨#[76, 76, 69, 78]⟩ 1 0)), (28, Value.agg (f ⟨#[76, 82, 65, 78, 71, 69]⟩ 3 0)), (29, Value.agg (f ⟨#[76, 73, 78, 68, 69, 88]⟩ 2 0)), (30, Value.agg (f ⟨#[72, 83, 69, 84]⟩ 3 1)), (31, Value.agg (f ⟨#[72, 71, 69, 84]⟩ 2 0)), (32, Value.agg (f ⟨#[72, 68, 69, 76]⟩ 5 1)), (33, Value.agg (f ⟨#[72, 76, 69, 78]⟩ 1 0)), (34, Value.agg (f ⟨#[72, 71, 69, 84, 65, 76, 76]⟩ 1 0)), (35, Value.agg (f ⟨#[72, 75, 69, 89, 83]⟩ 1 0)), (36, Value.agg (f ⟨#[83, 65, 68, 68]⟩ 5 1)), (37, Value.agg (f ⟨#[83, 82, 69, 77]⟩ 5 1)), (38, Value.agg (f ⟨#[83, 73, 83, 77, 69, 77, 66, 69, 82]⟩ 2 0)), (39, Value.agg (f ⟨#[83, 67, 65, 82, 68]⟩ 1 0)), (40, Value.agg (f ⟨#[83, 77, 69, 77, 66, 69, 82, 83]⟩ 1 0))]
theorem parts_row (f : ByteArray → Int → Int → Array Value) : (((cmdsL.zip cmdsK).map fun x => f x.1 x.2.1 x.2.2).zipIdx 0).map (fun x => (x.2, Value.agg x.1)) = partsL f := by
  simp only [cmdsL, cmdsK, List.zip_cons_cons, List.zip_nil_right, List.map_cons, List.map_nil, List.zipIdx_cons, List.zipIdx_nil, Nat.reduceAdd, Nat.zero_add, partsL]
theorem all_built : Tryd.prog.built 36 (partsL cmdC) = some allC := by
  have hl : allV.length = 41 := by unfold allV; rw [List.length_map]; rfl
  have hm : ∀ v ∈ allV, v.size = 11 := by
    intro v hv
    simp only [allV, List.mem_map] at hv
    obtain ⟨x, _, rfl⟩ := hv
    exact cmdC_size _ _ _
  have e : (((cmdsL.zip cmdsK).map fun x => cmdC x.1 x.2.1 x.2.2)) = allV := rfl
  unfold allC
  rw [zero_all, ← parts_row cmdC, e]
  generalize allV = V at hl hm
  have hz : (List.replicate 41 [Value.int .u8 0, .int .u8 0, .int .u8 0, .int .u8 0, .int .u8 0, .int .u8 0, .int .u8 0, .int .u8 0, .int .u8 0, .int .i64 0, .int .i64 0]).flatten.length = V.length * 11 := by rw [hl, List.length_flatten, List.map_replicate, List.sum_replicate_nat]; rfl
  generalize (List.replicate 41 [Value.int .u8 0, .int .u8 0, .int .u8 0, .int .u8 0, .int .u8 0, .int .u8 0, .int .u8 0, .int .u8 0, .int .u8 0, .int .i64 0, .int .i64 0]).flatten = C at hz
  have := fill_row 11 V 0 [] C (by simp) hz hm
  rw [List.nil_append] at this
  exact this
theorem allC_size : allC.size = 451 := by
  have hl : allV.length = 41 := by unfold allV; rw [List.length_map]; rfl
  have hm : ∀ v ∈ allV, v.size = 11 := by
    intro v hv
    simp only [allV, List.mem_map] at hv
    obtain ⟨x, _, rfl⟩ := hv
    exact cmdC_size _ _ _
  unfold allC
  generalize allV = V at hl hm
  have : ∀ (L : List (Array Value)), (∀ v ∈ L, v.size = 11) → (L.map Array.toList).flatten.length = L.length * 11 := by
    intro L
    induction L with
    | nil => intro _; rfl
    | cons a L ih =>
      intro h
      have h1 := h a List.mem_cons_self
      have h2 := ih (fun v hv => h v (List.mem_cons_of_mem _ hv))
      simp only [List.map_cons, List.flatten_cons, List.length_append, Array.length_toList, List.length_cons]
      omega
  have := this V hm
  rw [hl] at this
  simpa using this
end Go.Proofs.YteidjnmfjkpolaaDoor
