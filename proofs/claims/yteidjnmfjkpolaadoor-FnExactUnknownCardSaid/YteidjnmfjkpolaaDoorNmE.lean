/- Two names held against each other. -/
import Derived.Test.YteidjnmfjkpolaaDoorNmC
import Derived.Laws.StructEq
namespace Go.Proofs.YteidjnmfjkpolaaDoor
open Go.RowKit

theorem nine_bytes (l : List UInt8) (h : l.length = 9) : ∃ a b c d e f g i j, l = [a, b, c, d, e, f, g, i, j] := by
  match l, h with
  | [a, b, c, d, e, f, g, i, j], _ => exact ⟨a, b, c, d, e, f, g, i, j, rfl⟩
theorem eq_one (d : Nat) (a b : UInt8) (w : World) : (Op.equalIn (d + 1) 5 (b8 a) (b8 b)).run Tryd.prog w = .ok (decide (a = b)) w := by
  unfold b8
  rw [run_equalIn_int (P := Tryd.prog) w d 5 .u8 .u8 _ _ Tryd.underlying5]
  congr 1
  by_cases h : a = b
  · subst h
    simp
  · rw [decide_eq_false h, beq_eq_false_iff_ne]
    intro e
    exact h (UInt8.toNat_inj.1 (by omega))
theorem eq_nine (d : Nat) (he : ∀ (a b : UInt8) (w : World), (Op.equalIn d 5 (b8 a) (b8 b)).run Tryd.prog w = .ok (decide (a = b)) w) (w : World) (a0 a1 a2 a3 a4 a5 a6 a7 a8 b0 b1 b2 b3 b4 b5 b6 b7 b9 : UInt8) :
    (Op.equalIn (d + 1) 31 (.agg #[b8 a0, b8 a1, b8 a2, b8 a3, b8 a4, b8 a5, b8 a6, b8 a7, b8 a8]) (.agg #[b8 b0, b8 b1, b8 b2, b8 b3, b8 b4, b8 b5, b8 b6, b8 b7, b8 b9])).run Tryd.prog w = .ok (decide ([a0, a1, a2, a3, a4, a5, a6, a7, a8] = [b0, b1, b2, b3, b4, b5, b6, b7, b9])) w := by
  have hs : (Tryd.prog.info? 5).map (·.size) = some 1 := Tryd.infoBy
  cases hq : Tryd.prog.info? 5 with
  | none => simp [hq] at hs
  | some i =>
    have hi : i.size = 1 := by simpa [hq] using hs
    have hp : ∀ (cs : Array Value) (k : Nat) (v : Value) (w : World), cs[k]? = some v → (part 5 cs k).run Tryd.prog w = .ok v w := by
      intro cs k v w h
      simp [part, isAgg, run_underlying Tryd.underlying5, h]
    have p0 : ∀ (x0 x1 x2 x3 x4 x5 x6 x7 x8 : Value) (w : World), (part 5 #[x0, x1, x2, x3, x4, x5, x6, x7, x8] 0).run Tryd.prog w = .ok x0 w := fun _ _ _ _ _ _ _ _ _ _ => hp _ _ _ _ rfl
    have p1 : ∀ (x0 x1 x2 x3 x4 x5 x6 x7 x8 : Value) (w : World), (part 5 #[x0, x1, x2, x3, x4, x5, x6, x7, x8] 1).run Tryd.prog w = .ok x1 w := fun _ _ _ _ _ _ _ _ _ _ => hp _ _ _ _ rfl
    have p2 : ∀ (x0 x1 x2 x3 x4 x5 x6 x7 x8 : Value) (w : World), (part 5 #[x0, x1, x2, x3, x4, x5, x6, x7, x8] 2).run Tryd.prog w = .ok x2 w := fun _ _ _ _ _ _ _ _ _ _ => hp _ _ _ _ rfl
    have p3 : ∀ (x0 x1 x2 x3 x4 x5 x6 x7 x8 : Value) (w : World), (part 5 #[x0, x1, x2, x3, x4, x5, x6, x7, x8] 3).run Tryd.prog w = .ok x3 w := fun _ _ _ _ _ _ _ _ _ _ => hp _ _ _ _ rfl
    have p4 : ∀ (x0 x1 x2 x3 x4 x5 x6 x7 x8 : Value) (w : World), (part 5 #[x0, x1, x2, x3, x4, x5, x6, x7, x8] 4).run Tryd.prog w = .ok x4 w := fun _ _ _ _ _ _ _ _ _ _ => hp _ _ _ _ rfl
    have p5 : ∀ (x0 x1 x2 x3 x4 x5 x6 x7 x8 : Value) (w : World), (part 5 #[x0, x1, x2, x3, x4, x5, x6, x7, x8] 5).run Tryd.prog w = .ok x5 w := fun _ _ _ _ _ _ _ _ _ _ => hp _ _ _ _ rfl
    have p6 : ∀ (x0 x1 x2 x3 x4 x5 x6 x7 x8 : Value) (w : World), (part 5 #[x0, x1, x2, x3, x4, x5, x6, x7, x8] 6).run Tryd.prog w = .ok x6 w := fun _ _ _ _ _ _ _ _ _ _ => hp _ _ _ _ rfl
    have p7 : ∀ (x0 x1 x2 x3 x4 x5 x6 x7 x8 : Value) (w : World), (part 5 #[x0, x1, x2, x3, x4, x5, x6, x7, x8] 7).run Tryd.prog w = .ok x7 w := fun _ _ _ _ _ _ _ _ _ _ => hp _ _ _ _ rfl
    have p8 : ∀ (x0 x1 x2 x3 x4 x5 x6 x7 x8 : Value) (w : World), (part 5 #[x0, x1, x2, x3, x4, x5, x6, x7, x8] 8).run Tryd.prog w = .ok x8 w := fun _ _ _ _ _ _ _ _ _ _ => hp _ _ _ _ rfl
    simp [Op.equalIn, run_underlying Tryd.underlying31, sizeOf, typeInfo, hq, hi]
    simp [List.range', Sem.run_bind, p0, p1, p2, p3, p4, p5, p6, p7, p8, he]
    by_cases h0 : a0 = b0
    · by_cases h1 : a1 = b1
      · by_cases h2 : a2 = b2
        · by_cases h3 : a3 = b3
          · by_cases h4 : a4 = b4
            · by_cases h5 : a5 = b5
              · by_cases h6 : a6 = b6
                · by_cases h7 : a7 = b7
                  · by_cases h8 : a8 = b9
                    · simp [h0, h1, h2, h3, h4, h5, h6, h7, h8]
                    · simp [h0, h1, h2, h3, h4, h5, h6, h7, h8]
                  · simp [h0, h1, h2, h3, h4, h5, h6, h7]
                · simp [h0, h1, h2, h3, h4, h5, h6]
              · simp [h0, h1, h2, h3, h4, h5]
            · simp [h0, h1, h2, h3, h4]
          · simp [h0, h1, h2, h3]
        · simp [h0, h1, h2]
      · simp [h0, h1]
    · simp [h0]
theorem eql_names (s t : ByteArray) (w : World) : (binOp .eql 31 (.agg (nmC s)) (.agg (nmC t))).run Tryd.prog w = .ok (.bool (decide (padN s = padN t))) w := by
  obtain ⟨a0, a1, a2, a3, a4, a5, a6, a7, a8, ha⟩ := nine_bytes _ (padN_length s)
  obtain ⟨b0, b1, b2, b3, b4, b5, b6, b7, b9, hb⟩ := nine_bytes _ (padN_length t)
  rw [run_eql_struct]
  unfold nmC
  rw [ha, hb]
  have := eq_nine 9999 (eq_one 9998) w a0 a1 a2 a3 a4 a5 a6 a7 a8 b0 b1 b2 b3 b4 b5 b6 b7 b9
  rw [show (10000 : Nat) = 9999 + 1 from rfl]
  simp only [List.map_cons, List.map_nil]
  rw [this]
  rfl
theorem names_same {s X : ByteArray} (hs : s ∈ cmdsL) (hX : nmT X = X) : decide (padN s = padN X) = decide (s = X) := by
  have h := nmC_eq hX hs
  by_cases e : s = X
  · rw [e]
    simp
  · rw [decide_eq_false e, decide_eq_false]
    intro h2
    exact e (h.1 (by unfold nmC; rw [h2]))
end Go.Proofs.YteidjnmfjkpolaaDoor
