/- A text is put behind a row of bytes that a conversion made. -/
import Derived.Test.YtpibnhodlojajaaDoorConvRow
import Derived.Lib.AppendStr
namespace Go.Proofs.YtpibnhodlojajaaDoor
open Go.RowKit

/-- 'append(out, s...)', out a row of bytes that a conversion made, s a text. -/
theorem append_madeS {P : Program} (w : World) (B : Nat) (t u ty e : TypeId) (ht : P.underlying t = some (.slice e)) (hu : P.underlying u = some .string) (hinfo : (P.info? e).map (fun i => (i.zero, i.size, i.bytes)) = some (some (.int .u8 0), 1, 1))
    (v : Value) (l : List UInt8) (s : ByteArray) (hown : OwnsB w B e v l) (hlen : l.length + s.size ≤ 70368744177664) (hbase : B ≤ w.heap.size) :
    ∃ v' w', (Builtin.append_ #[t, u] ty #[v, .string s]).run P w = .ok v' w' ∧ OwnsB w' B e v' (l ++ s.data.toList) ∧ w.grownBy w' v.ownBlock := by
  obtain ⟨i0, hi, hz0, hz1, hz2⟩ := info_parts hinfo
  obtain ⟨g, cap, cur, fz, rfl, hB, hC, hfz, hnc, hcm, hcs, htk⟩ := hown
  have hsl : (s.data.toList.map bv).length = s.size := by rw [List.length_map]; rfl
  have hsc : Lib.strCells s = s.data.toList.map bv := rfl
  have hmx : l.length + s.size ≤ maxLen := by unfold maxLen; omega
  by_cases hroom : l.length + s.size ≤ cap
  · have hf := Lib.run_firstCells_string (P := P) w 1 s
    have hst := store_behind (P := P) g l.length e fz (s.data.toList.map bv) 0 cur w hC hfz (by rw [hsl]; omega) (bv_one s.data.toList)
    rw [hsc] at hf
    simp only [Nat.add_zero] at hst
    obtain ⟨X, hX⟩ : ∃ X, X = (cur.toList.take l.length ++ s.data.toList.map bv ++ cur.toList.drop (l.length + (s.data.toList.map bv).length)).toArray := ⟨_, rfl⟩
    rw [← hX] at hst
    have hXs : X.size = cur.size := by rw [hX]; simp only [List.size_toArray, List.length_append, List.length_take, List.length_drop, Array.length_toList, hsl]; omega
    refine ⟨.slice (some ⟨g, 0, none⟩) (l.length + s.size) cap, w.setRow g X, ?_, ⟨g, cap, X, fz, by rw [List.length_append]; rfl, hB, setRow_heap w g cur X e fz hC, ?_, by rw [List.length_append]; exact hroom, hcm, ?_, ?_⟩, ⟨rfl, rfl, rfl, by simp, fun k _ hk => setRow_other w g k _ (fun e => hk (by simp [Value.ownBlock, e]))⟩⟩
    · simp [Builtin.append_, run_underlying ht, run_underlying hu, sizeOf, typeInfo, hi, hz1, Builtin.lenOf, hroom, hf, Addr.add_lit, hst]
    · rcases hfz with h | h
      · exact .inl h
      · exact .inr (by omega)
    · omega
    · rw [hX, htk, List.map_append, show (l ++ s.data.toList).length = (l.map bv ++ s.data.toList.map bv).length from by simp]
      exact List.take_left
  · have hr := Lib.run_append_grow_string (P := P) w t u ty e i0 (.int .u8 0) ht hu hi hz0 ⟨g, 0, none⟩ l.length cap (l.map bv) (by rw [hz1]; simp) (ownsB_cells ⟨g, cap, cur, fz, rfl, hB, hC, hfz, hnc, hcm, hcs, htk⟩) s (by omega) (by unfold maxLen at hmx; omega) (by rw [hz2]; exact growslice_fits (by omega) (by omega))
    have hge := grownCap_ge w (l.length + s.size) cap e
    rw [hsc] at hr
    refine ⟨_, _, hr, ⟨w.heap.size, _, _, (0, 0), by rw [List.length_append]; rfl, hbase, heap_alloc_new w.drew _, .inl rfl, by rw [List.length_append]; exact hge, grownCap_le_maxLen w _ _ e hmx, ?_, ?_⟩, ⟨rfl, rfl, rfl, by simp, fun k hk _ => Go.heap_alloc_old w.drew _ hk⟩⟩
    · have hz : (Value.int IntKind.u8 0).cells.size = 1 := rfl
      simp only [Array.size_append, List.size_toArray, size_zeroCells, hz, List.length_map, hsl]
      have e1 : s.data.toList.length = s.size := rfl
      omega
    · simp only [Array.toList_append]
      rw [List.map_append, show (l ++ s.data.toList).length = (l.map bv ++ s.data.toList.map bv).length from by simp]
      exact List.take_left
theorem app_textB {P : Program} {ops : Array Oper} {rest : List Oper} {o : Oper} {a : Act} {Q : Exit → Act → World → Prop} (w : World) (t u e : TypeId) (ht : P.underlying t = some (.slice e)) (hu : P.underlying u = some .string) (hinfo : (P.info? e).map (fun i => (i.zero, i.size, i.bytes)) = some (some (.int .u8 0), 1, 1))
    (B : Nat) (hgd : o.guard = none) (sl x : Operand) (ho : o.op = .call { callee := .builtin .append, args := #[sl, x], argTypes := #[t, u] }) (v : Value) (l : List UInt8) (s : ByteArray) (hs : a.eval sl = v) (hown : OwnsB w B e v l) (hx : a.eval x = .string s)
    (hlen : l.length + s.size ≤ 70368744177664) (hbase : B ≤ w.heap.size)
    (h : ∀ v' w', OwnsB w' B e v' (l ++ s.data.toList) → w.grownBy w' v.ownBlock → wpList P ops Q rest (a.put o.dst v') w') : wpList P ops Q (o :: rest) a w := by
  refine wpList_plain hgd fun K hK => ?_
  obtain ⟨v', w', hr, h2, h3⟩ := append_madeS (P := P) w B t u o.type e ht hu hinfo v l s hown hlen hbase
  unfold Oper.wp execOp
  simp only [ho, resolve, invoke, builtin, Sem.run_bind, Sem.run_pure, Result.andThen_ok, List.map_toArray, List.map_cons, List.map_nil, hs, hx, hr]
  exact hK _ _ (h v' w' h2 h3)
end Go.Proofs.YtpibnhodlojajaaDoor
