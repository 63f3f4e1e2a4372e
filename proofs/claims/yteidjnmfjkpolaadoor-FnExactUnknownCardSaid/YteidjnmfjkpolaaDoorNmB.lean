/- The program's list of all commands. -/
import Derived.Test.YteidjnmfjkpolaaDoorNmA
namespace Go.Proofs.YteidjnmfjkpolaaDoor
open Go.RowKit

theorem Tryd.infoAll : (Tryd.prog.info? 36).map (·.size) = some 451 := by kernel_rfl
theorem Tryd.infoCmd : (Tryd.prog.info? 35).map (·.size) = some 11 := by kernel_rfl
theorem nmC_all {s : ByteArray} : ∀ v ∈ nmC s, v.oneCell' = true := by
  have := nmC_one s
  rwa [Array.all_eq_true_iff_forall_mem] at this
theorem cmdC_one (s : ByteArray) (a b : Int) : (cmdC s a b).all (·.oneCell') = true := by
  rw [Array.all_eq_true_iff_forall_mem]
  intro v hv
  unfold cmdC at hv
  rcases Array.mem_append.1 hv with h | h
  · exact nmC_all v h
  · simp at h
    rcases h with rfl | rfl <;> rfl
theorem allC_one : allC.all (·.oneCell') = true := by
  rw [Array.all_eq_true_iff_forall_mem]
  intro v hv
  simp only [allC, allV, List.mem_toArray, List.mem_flatten, List.mem_map] at hv
  obtain ⟨l, ⟨a, ⟨x, _, rfl⟩, rfl⟩, hm⟩ := hv
  exact (Array.all_eq_true_iff_forall_mem.1 (cmdC_one _ _ _)) v (by simpa using hm)

theorem zero_there : ∃ Z : Array Value, Z.size = 451 ∧ ∀ W : World, (zeroValue 36).run Tryd.prog W = .ok (.agg Z) W := by
  have h1 : (Tryd.prog.info? 36).map (·.zero) = some (some (.agg (List.replicate 41 [Value.int .u8 0, .int .u8 0, .int .u8 0, .int .u8 0, .int .u8 0, .int .u8 0, .int .u8 0, .int .u8 0, .int .u8 0, .int .i64 0, .int .i64 0]).flatten.toArray)) := by kernel_rfl
  have hz : (List.replicate 41 [Value.int .u8 0, .int .u8 0, .int .u8 0, .int .u8 0, .int .u8 0, .int .u8 0, .int .u8 0, .int .u8 0, .int .u8 0, .int .i64 0, .int .i64 0]).flatten.toArray.size = 451 := by rw [List.size_toArray, List.length_flatten, List.map_replicate, List.sum_replicate_nat]; rfl
  generalize (List.replicate 41 [Value.int .u8 0, .int .u8 0, .int .u8 0, .int .u8 0, .int .u8 0, .int .u8 0, .int .u8 0, .int .u8 0, .int .u8 0, .int .i64 0, .int .i64 0]).flatten.toArray = Z at h1 hz
  refine ⟨Z, hz, fun W => ?_⟩
  cases hq : Tryd.prog.info? 36 with
  | none => simp [hq] at h1
  | some i =>
    have hi : i.zero = some (.agg Z) := by simpa [hq] using h1
    simp [zeroValue, typeInfo, hq, hi]

def BoxA (w W : World) (Z : Array Value) : Prop := W.heap[w.heap.size]? = some (.cells Z 36 (0, 0)) ∧ Below w.heap.size w W
theorem boxA_new (w : World) (Z : Array Value) : BoxA w (w.alloc (.cells Z 36)) Z := ⟨heap_alloc_new w _, (Below.refl _ _).alloc (Nat.le_refl _) _⟩
theorem boxA_on {w W W' : World} {Z : Array Value} (h : BoxA w W Z) (b : Below W.heap.size W W') : BoxA w W' Z :=
  ⟨(b.block _ (Array.getElem?_eq_some_iff.1 h.1).1).trans h.1, h.2.trans (b.mono h.2.size)⟩
theorem wpList_alloc36 {P : Program} {ops : Array Oper} {rest : List Oper} {o : Oper} {a : Act} {w : World} {Q : Exit → Act → World → Prop} (hgd : o.guard = none) (t : TypeId) (ho : o.op = .alloc t) (Z : Array Value) (hz : ∀ W : World, (zeroValue t).run P W = .ok (.agg Z) W)
    (h : wpList P ops Q rest (a.put o.dst (.pointer (some ⟨w.heap.size, 0, none⟩))) (w.alloc (.cells Z t))) : wpList P ops Q (o :: rest) a w := by
  refine wpList_plain hgd fun K hK => ?_
  unfold Oper.wp
  simp [execOp, ho, go_sem, hz, Result.andThen]
  exact hK _ _ h
theorem wpList_named {ops : Array Oper} {rest : List Oper} {o : Oper} {a : Act} {w : World} {Q : Exit → Act → World → Prop} (hgd : o.guard = none) (s : ByteArray)
    (ho : o.op = .call { callee := .value (.func 29), args := #[.const (.string s)], argTypes := #[9] })
    (h : ∀ w', Below w.heap.size w w' → wpList Tryd.prog ops Q rest (a.put o.dst (.agg (nmC s))) w') : wpList Tryd.prog ops Q (o :: rest) a w := by
  refine wpList_plain hgd fun K hK => ?_
  unfold Oper.wp
  simp [execOp, ho, go_sem, Act.eval]
  refine (named_any s w).mono ?_
  rintro e w' ⟨rfl, b⟩
  exact hK _ _ (h w' b)
theorem wpList_built {P : Program} {ops : Array Oper} {rest : List Oper} {o : Oper} {a : Act} {w : World} {Q : Exit → Act → World → Prop} (hgd : o.guard = none) (t : TypeId) (parts : Array (Nat × Operand)) (ho : o.op = .build t parts) (cells : Array Value)
    (hc : P.built t (parts.map fun (x : Nat × Operand) => (x.1, a.eval x.2)).toList = some cells) (h : wpList P ops Q rest (a.put o.dst (.agg cells)) w) : wpList P ops Q (o :: rest) a w :=
  wpList_build hgd t parts ho (by rw [hc]; rfl) (by rw [hc]; exact h)
/-- The frame while the list is made: the box, the first n commands. -/
structure GA (n : Nat) (p : Value) (a : Act) : Prop where
  sz : a.tmps.size = 84
  df : a.defers = []
  bx : a.tmps[0]? = some p
  vs : ∀ j, j < n → a.tmps[2 * j + 2]? = (allV[j]?).map Value.agg
theorem put_get {a : Act} {d : Nat} {v : Value} (i : Nat) : (a.put (some d) v).tmps[i]? = if d = i then (if d < a.tmps.size then some v else none) else a.tmps[i]? := by
  simp [Act.put, Array.getElem?_setIfInBounds]
theorem cmd_step {ops : Array Oper} {rest : List Oper} {o1 o2 : Oper} {a : Act} {w : World} {Q : Exit → Act → World → Prop} {p : Value} (n : Nat) (s : ByteArray) (k m : Int) (hn : n < 41) (g1 : o1.guard = none) (g2 : o2.guard = none)
    (h1 : o1.op = .call { callee := .value (.func 29), args := #[.const (.string s)], argTypes := #[9] }) (d1 : o1.dst = some (2 * n + 1))
    (h2 : o2.op = .build 35 #[(0, .tmp (2 * n + 1)), (1, .const (.int .i64 k)), (2, .const (.int .i64 m))]) (d2 : o2.dst = some (2 * n + 2)) (hv : allV[n]? = some (cmdC s k m)) (hg : GA n p a)
    (h : ∀ a' w', GA (n + 1) p a' → Below w.heap.size w w' → wpList Tryd.prog ops Q rest a' w') : wpList Tryd.prog ops Q (o1 :: o2 :: rest) a w := by
  refine wpList_named g1 s h1 fun w' b => ?_
  rw [d1]
  have he : (a.put (some (2 * n + 1)) (.agg (nmC s))).eval (.tmp (2 * n + 1)) = .agg (nmC s) := by
    have := put_get (a := a) (d := 2 * n + 1) (v := .agg (nmC s)) (2 * n + 1)
    rw [if_pos rfl, if_pos (by rw [hg.sz]; omega)] at this
    simp only [Act.eval, Array.getD_eq_getD_getElem?, this]
    rfl
  refine wpList_built g2 _ _ h2 (cmdC s k m) ?_ (h _ w' ?_ b)
  · have e : (#[(0, Operand.tmp (2 * n + 1)), (1, .const (.int .i64 k)), (2, .const (.int .i64 m))].map fun (x : Nat × Operand) => (x.1, (a.put (some (2 * n + 1)) (.agg (nmC s))).eval x.2)).toList = [(0, .agg (nmC s)), (1, .int .i64 k), (2, .int .i64 m)] := by
      simp only [List.map_toArray, List.map_cons, List.map_nil, he]
      rfl
    exact (congrArg _ e).trans (cmdC_b s k m)
  rw [d2]
  refine ⟨by simp [Act.put, hg.sz], by simp [Act.put, hg.df], ?_, fun j hj => ?_⟩
  · rw [put_get, if_neg (by omega), put_get, if_neg (by omega)]
    exact hg.bx
  · rw [put_get]
    by_cases hjn : j = n
    · subst hjn
      rw [if_pos rfl, if_pos (by simp [Act.put, hg.sz]; omega), hv]
      rfl
    · rw [if_neg (by omega), put_get, if_neg (by omega)]
      exact hg.vs j (by omega)
theorem last_step {ops : Array Oper} {o1 o2 : Oper} {a : Act} {w : World} {Q : Exit → Act → World → Prop} {g : Nat} (parts : Array (Nat × Operand)) (g1 : o1.guard = none) (g2 : o2.guard = none)
    (h1 : o1.op = .build 36 parts) (hp : parts = ((List.range 41).map fun j => (j, Operand.tmp (2 * j + 2))).toArray) (d1 : o1.dst = some 83) (h2 : o2.op = .store 36 (.tmp 0) (.tmp 83)) (d2 : o2.dst = none)
    (Z : Array Value) (hZ : Z.size = 451) (hg : GA 41 (.pointer (some ⟨g, 0, none⟩)) a) (hw : w.heap[g]? = some (.cells Z 36 (0, 0)))
    (h : ∀ a', a'.defers = [] → a'.tmps[0]? = some (.pointer (some ⟨g, 0, none⟩)) → Q .normal a' (w.setRow g allC)) : wpList Tryd.prog ops Q [o1, o2] a w := by
  have hl : allV.length = 41 := by unfold allV; rw [List.length_map]; rfl
  have he : (parts.map fun (x : Nat × Operand) => (x.1, a.eval x.2)).toList = partsL cmdC := by
    rw [← parts_row cmdC, hp]
    have e : ((cmdsL.zip cmdsK).map fun x => cmdC x.1 x.2.1 x.2.2) = allV := rfl
    rw [e]
    have hvs := hg.vs
    generalize allV = V at hl hvs
    rw [List.map_toArray, List.map_map]
    apply List.ext_getElem
    · simp [hl]
    · intro j h1 h2
      have hj : j < 41 := by simpa using h1
      have h3 := hvs j hj
      simp only [List.getElem_map, List.getElem_range, List.getElem_zipIdx, Function.comp]
      have hV : V[j]? = some (V[j]'(by omega)) := List.getElem?_eq_getElem (by omega)
      rw [hV] at h3
      simp only [Act.eval, Array.getD_eq_getD_getElem?, h3]
      simp
  refine wpList_built g1 _ parts h1 allC (by rw [he]; exact all_built) ?_
  rw [d1]
  have hx : (a.put (some 83) (.agg allC)).eval (.tmp 0) = .pointer (some ⟨g, 0, none⟩) := by
    simp only [Act.eval, Array.getD_eq_getD_getElem?]
    rw [put_get, if_neg (by omega), hg.bx]
    rfl
  have hy : (a.put (some 83) (.agg allC)).eval (.tmp 83) = .agg allC := by
    simp only [Act.eval, Array.getD_eq_getD_getElem?]
    rw [put_get, if_pos rfl, if_pos (by rw [hg.sz]; omega)]
    rfl
  refine wpList_store_row g2 36 _ _ h2 g allC hx hy 36 Z hw (Tryd.infoAll.trans (by rw [allC_size])) (by rw [allC_size, hZ]) allC_one ?_
  rw [d2]
  refine wpList_nil (h _ hg.df ?_)
  show (a.put (some 83) (.agg allC)).tmps[0]? = _
  rw [put_get, if_neg (by omega)]
  exact hg.bx
set_option maxRecDepth 100000 in
set_option maxHeartbeats 4000000 in
theorem allCmds_any (w : World) : Calls Tryd.prog 20 #[] w fun e w' => e = .returned (.agg allC) ∧ Below w.heap.size w w' := by
  obtain ⟨Z, hZs, hzero⟩ := zero_there
  have B0 := boxA_new w Z
  go_enter Tryd.func20, Tryd.ntmps20
  refine wp_seq_k fun K1 hK1 => ?_
  refine wp_region_list ?_
  refine wpList_alloc36 rfl _ rfl Z hzero ?_
  refine wpList_nil (hK1 _ _ ?_)
  refine wp_seq_k fun K2 hK2 => ?_
  refine wp_region_list ?_
  have h0 : GA 0 (.pointer (some ⟨w.heap.size, 0, none⟩)) (Act.put ⟨(List.replicate 84 undef).toArray, []⟩ (some 0) (.pointer (some ⟨w.heap.size, 0, none⟩))) := ⟨rfl, rfl, rfl, fun j hj => by omega⟩
  refine cmd_step 0 _ _ _ (by decide) rfl rfl rfl rfl rfl rfl rfl h0 ?_
  rintro a1 w1 h1 b1
  have B1 := boxA_on B0 b1
  refine cmd_step 1 _ _ _ (by decide) rfl rfl rfl rfl rfl rfl rfl h1 ?_
  rintro a2 w2 h2 b2
  have B2 := boxA_on B1 b2
  refine cmd_step 2 _ _ _ (by decide) rfl rfl rfl rfl rfl rfl rfl h2 ?_
  rintro a3 w3 h3 b3
  have B3 := boxA_on B2 b3
  refine cmd_step 3 _ _ _ (by decide) rfl rfl rfl rfl rfl rfl rfl h3 ?_
  rintro a4 w4 h4 b4
  have B4 := boxA_on B3 b4
  refine cmd_step 4 _ _ _ (by decide) rfl rfl rfl rfl rfl rfl rfl h4 ?_
  rintro a5 w5 h5 b5
  have B5 := boxA_on B4 b5
  refine cmd_step 5 _ _ _ (by decide) rfl rfl rfl rfl rfl rfl rfl h5 ?_
  rintro a6 w6 h6 b6
  have B6 := boxA_on B5 b6
  refine cmd_step 6 _ _ _ (by decide) rfl rfl rfl rfl rfl rfl rfl h6 ?_
  rintro a7 w7 h7 b7
  have B7 := boxA_on B6 b7
  refine cmd_step 7 _ _ _ (by decide) rfl rfl rfl rfl rfl rfl rfl h7 ?_
  rintro a8 w8 h8 b8
  have B8 := boxA_on B7 b8
  refine cmd_step 8 _ _ _ (by decide) rfl rfl rfl rfl rfl rfl rfl h8 ?_
  rintro a9 w9 h9 b9
  have B9 := boxA_on B8 b9
  refine cmd_step 9 _ _ _ (by decide) rfl rfl rfl rfl rfl rfl rfl h9 ?_
  rintro a10 w10 h10 b10
  have B10 := boxA_on B9 b10
  refine cmd_step 10 _ _ _ (by decide) rfl rfl rfl rfl rfl rfl rfl h10 ?_
  rintro a11 w11 h11 b11
  have B11 := boxA_on B10 b11
  refine cmd_step 11 _ _ _ (by decide) rfl rfl rfl rfl rfl rfl rfl h11 ?_
  rintro a12 w12 h12 b12
  have B12 := boxA_on B11 b12
  refine cmd_step 12 _ _ _ (by decide) rfl rfl rfl rfl rfl rfl rfl h12 ?_
  rintro a13 w13 h13 b13
  have B13 := boxA_on B12 b13
  refine cmd_step 13 _ _ _ (by decide) rfl rfl rfl rfl rfl rfl rfl h13 ?_
  rintro a14 w14 h14 b14
  have B14 := boxA_on B13 b14
  refine cmd_step 14 _ _ _ (by decide) rfl rfl rfl rfl rfl rfl rfl h14 ?_
  rintro a15 w15 h15 b15
  have B15 := boxA_on B14 b15
  refine cmd_step 15 _ _ _ (by decide) rfl rfl rfl rfl rfl rfl rfl h15 ?_
  rintro a16 w16 h16 b16
  have B16 := boxA_on B15 b16
  refine cmd_step 16 _ _ _ (by decide) rfl rfl rfl rfl rfl rfl rfl h16 ?_
  rintro a17 w17 h17 b17
  have B17 := boxA_on B16 b17
  refine cmd_step 17 _ _ _ (by decide) rfl rfl rfl rfl rfl rfl rfl h17 ?_
  rintro a18 w18 h18 b18
  have B18 := boxA_on B17 b18
  refine cmd_step 18 _ _ _ (by decide) rfl rfl rfl rfl rfl rfl rfl h18 ?_
  rintro a19 w19 h19 b19
  have B19 := boxA_on B18 b19
  refine cmd_step 19 _ _ _ (by decide) rfl rfl rfl rfl rfl rfl rfl h19 ?_
  rintro a20 w20 h20 b20
  have B20 := boxA_on B19 b20
  refine cmd_step 20 _ _ _ (by decide) rfl rfl rfl rfl rfl rfl rfl h20 ?_
  rintro a21 w21 h21 b21
  have B21 := boxA_on B20 b21
  refine cmd_step 21 _ _ _ (by decide) rfl rfl rfl rfl rfl rfl rfl h21 ?_
  rintro a22 w22 h22 b22
  have B22 := boxA_on B21 b22
  refine cmd_step 22 _ _ _ (by decide) rfl rfl rfl rfl rfl rfl rfl h22 ?_
  rintro a23 w23 h23 b23
  have B23 := boxA_on B22 b23
  refine cmd_step 23 _ _ _ (by decide) rfl rfl rfl rfl rfl rfl rfl h23 ?_
  rintro a24 w24 h24 b24
  have B24 := boxA_on B23 b24
  refine cmd_step 24 _ _ _ (by decide) rfl rfl rfl rfl rfl rfl rfl h24 ?_
  rintro a25 w25 h25 b25
  have B25 := boxA_on B24 b25
  refine cmd_step 25 _ _ _ (by decide) rfl rfl rfl rfl rfl rfl rfl h25 ?_
  rintro a26 w26 h26 b26
  have B26 := boxA_on B25 b26
  refine cmd_step 26 _ _ _ (by decide) rfl rfl rfl rfl rfl rfl rfl h26 ?_
  rintro a27 w27 h27 b27
  have B27 := boxA_on B26 b27
  refine cmd_step 27 _ _ _ (by decide) rfl rfl rfl rfl rfl rfl rfl h27 ?_
  rintro a28 w28 h28 b28
  have B28 := boxA_on B27 b28
  refine cmd_step 28 _ _ _ (by decide) rfl rfl rfl rfl rfl rfl rfl h28 ?_
  rintro a29 w29 h29 b29
  have B29 := boxA_on B28 b29
  refine cmd_step 29 _ _ _ (by decide) rfl rfl rfl rfl rfl rfl rfl h29 ?_
  rintro a30 w30 h30 b30
  have B30 := boxA_on B29 b30
  refine cmd_step 30 _ _ _ (by decide) rfl rfl rfl rfl rfl rfl rfl h30 ?_
  rintro a31 w31 h31 b31
  have B31 := boxA_on B30 b31
  refine cmd_step 31 _ _ _ (by decide) rfl rfl rfl rfl rfl rfl rfl h31 ?_
  rintro a32 w32 h32 b32
  have B32 := boxA_on B31 b32
  refine cmd_step 32 _ _ _ (by decide) rfl rfl rfl rfl rfl rfl rfl h32 ?_
  rintro a33 w33 h33 b33
  have B33 := boxA_on B32 b33
  refine cmd_step 33 _ _ _ (by decide) rfl rfl rfl rfl rfl rfl rfl h33 ?_
  rintro a34 w34 h34 b34
  have B34 := boxA_on B33 b34
  refine cmd_step 34 _ _ _ (by decide) rfl rfl rfl rfl rfl rfl rfl h34 ?_
  rintro a35 w35 h35 b35
  have B35 := boxA_on B34 b35
  refine cmd_step 35 _ _ _ (by decide) rfl rfl rfl rfl rfl rfl rfl h35 ?_
  rintro a36 w36 h36 b36
  have B36 := boxA_on B35 b36
  refine cmd_step 36 _ _ _ (by decide) rfl rfl rfl rfl rfl rfl rfl h36 ?_
  rintro a37 w37 h37 b37
  have B37 := boxA_on B36 b37
  refine cmd_step 37 _ _ _ (by decide) rfl rfl rfl rfl rfl rfl rfl h37 ?_
  rintro a38 w38 h38 b38
  have B38 := boxA_on B37 b38
  refine cmd_step 38 _ _ _ (by decide) rfl rfl rfl rfl rfl rfl rfl h38 ?_
  rintro a39 w39 h39 b39
  have B39 := boxA_on B38 b39
  refine cmd_step 39 _ _ _ (by decide) rfl rfl rfl rfl rfl rfl rfl h39 ?_
  rintro a40 w40 h40 b40
  have B40 := boxA_on B39 b40
  refine cmd_step 40 _ _ _ (by decide) rfl rfl rfl rfl rfl rfl rfl h40 ?_
  rintro a41 w41 h41 b41
  have B41 := boxA_on B40 b41
  refine last_step _ rfl rfl rfl rfl rfl rfl rfl Z hZs h41 B41.1 fun a' hd ht => ?_
  refine hK2 _ _ (wp_ret ?_)
  refine bodyPost_ret (v := .agg allC) (results_cell_row rfl _ _ w.heap.size 36 _ (0, 0) _ (by rw [Array.getD_eq_getD_getElem?, ht]; rfl) (setRow_new _ _ _ _ _ B41.1) Tryd.underlying36 rfl (Tryd.infoAll.trans (by rw [allC_size]))) hd ⟨rfl, below_setRow B41.2 (Nat.le_refl _) _⟩
end Go.Proofs.YteidjnmfjkpolaaDoor
