import Derived.Deep.RegionHeld3
import Derived.Maps.AppendAt
import Derived.BigQuiet
import Derived.WalkSmall
import Derived.Laws.MakeOwn
import Derived.Test.YtmmchemgegmhhaaGreatDoorFo1
import Derived.Test.YtmmchemgegmhhaaGreatDoorFo2
import Derived.Test.YtmmchemgegmhhaaGreatDoorFo5
import Derived.Test.YtmmchemgegmhhaaGreatDoorFo4
import Derived.Test.YtmmchemgegmhhaaGreatDoorFo3
import Derived.Test.YtmmchemgegmhhaaGreatDoorFo0
set_option maxRecDepth 100000
set_option maxHeartbeats 3200000
namespace Go.Proofs.YtmmchemgegmhhaaGreatDoor
open Go.RowKit
theorem specFrame_yes (t : ByteArray) (w : World) (h1 : 1 ≤ t.size) (h2 : t.size ≤ 9000) :
    Calls Tryz.prog 67 #[.string t] w fun e w' => e = .returned (.tuple #[.string (frameB t), .bool true]) ∧ Below w.heap.size w w' := by
  have HE : Hid (frameB t = ⟨(Wd.varF 5 t.size).toArray⟩ ++ ⟨(four (sumB 4294967295 t)).toArray⟩ ++ t) := rfl
  have hlt := sumB_lt t
  have h4 : (four (sumB 4294967295 t)).length = 4 := rfl
  have hv := Wd.varF_len 5 t.size
  go_enter Tryz.func67, Tryz.ntmps67
  go_wp2_with (first | (go_at_call 43; refine (l01In_yes _ _ _ _ (by omega) (by omega)).mono ?_; rintro e w0 ⟨rfl, rfl⟩) | (go_at_call 87; refine (l01Var_any t.size _ (by omega)).mono ?_; rintro e w1 ⟨rfl, b1⟩) | (go_at_call 112; refine (specOf_any t _ (by omega)).mono ?_; rintro e w2 ⟨rfl, rfl⟩) | (go_at_call 111; refine (specFour_any _ _ hlt).mono ?_; rintro e w3 ⟨rfl, b3⟩))
  go_ret2
  rw [HE.out]
  exact ⟨rfl, b1.trans (b3.mono b1.size)⟩
theorem specHeadText_any (n f : Int) (w : World) : Calls Tryz.prog 44 #[.int .i64 n, .int .i64 f] w fun e w' => e = .returned (.tuple #[.string (headT n f), .bool (decide (0 ≤ n ∧ n ≤ 99 ∧ 0 ≤ f ∧ f ≤ n))]) ∧ Below w.heap.size w w' := by
  by_cases h : 0 ≤ n ∧ n ≤ 99 ∧ 0 ≤ f ∧ f ≤ n
  · have hd : decide (0 ≤ n ∧ n ≤ 99 ∧ 0 ≤ f ∧ f ≤ n) = true := decide_eq_true h
    rw [hd]
    obtain ⟨n, rfl⟩ := Int.eq_ofNat_of_zero_le h.1
    obtain ⟨f, rfl⟩ := Int.eq_ofNat_of_zero_le h.2.2.1
    have hE := hide (headT_in n f (by omega) (by omega))
    have hC := hide (headL_cat n f)
    have v1 := Wd.varF_len 5 n
    have v2 := Wd.varF_len 5 f
    have hz := headL_size n f
    have hF := hide (fun W => specFrame_yes ⟨(headL n f).toArray⟩ W (by omega) (by omega))
    clear hz
    go_enter Tryz.func44, Tryz.ntmps44
    go_wp2_with fail
    refine (l01In_yes _ _ _ _ (by omega) (by omega)).mono ?_
    rintro e w0 ⟨rfl, rfl⟩
    go_wp2_with fail
    refine (l01In_yes _ _ _ _ (by omega) (by omega)).mono ?_
    rintro e w0 ⟨rfl, rfl⟩
    go_wp2_with fail
    refine (l01Var_any n _ (by omega)).mono ?_
    rintro e w1 ⟨rfl, b1⟩
    go_wp2_with fail
    refine (l01Var_any f _ (by omega)).mono ?_
    rintro e w2 ⟨rfl, b2⟩
    go_wp2_with fail
    rw [hC.out]
    refine (hF.out _).mono ?_
    rintro e w3 ⟨rfl, b3⟩
    go_wp2
    go_ret2
    rw [hE.out]
    have b12 := b1.trans (b2.mono b1.size)
    exact ⟨rfl, b12.trans (b3.mono b12.size)⟩
  · have hd : decide (0 ≤ n ∧ n ≤ 99 ∧ 0 ≤ f ∧ f ≤ n) = false := decide_eq_false h
    rw [hd]
    have hE := hide (headT_out n f h)
    by_cases hn : 0 ≤ n ∧ n ≤ 99
    · go_enter Tryz.func44, Tryz.ntmps44
      go_wp2_with fail
      refine (l01In_yes _ _ _ _ (by omega) (by omega)).mono ?_
      rintro e w0 ⟨rfl, rfl⟩
      go_wp2_with fail
      refine (l01In_no _ _ _ _ (by omega)).mono ?_
      rintro e w0 ⟨rfl, rfl⟩
      go_wp2
      go_ret2
      rw [hE.out]
      exact ⟨rfl, Below.refl _ _⟩
    · go_enter Tryz.func44, Tryz.ntmps44
      go_wp2_with fail
      refine (l01In_no _ _ _ _ (by omega)).mono ?_
      rintro e w0 ⟨rfl, rfl⟩
      go_wp2
      go_ret2
      rw [hE.out]
      exact ⟨rfl, Below.refl _ _⟩
theorem Tryz.infoBatch : (Tryz.prog.info? 96).map (fun i => (i.zero, i.size, i.bytes)) = some (some (.agg #[.int .i64 0, .slice none 0 0]), 2, 32) := by kernel_rfl
def BatchesAt (w : World) (ao : Option Addr) (bs : List BatchD) : Prop := ∀ j (h : j < bs.length), ∃ b off : Nat, ao = some ⟨b, off, none⟩ ∧ b < w.heap.size ∧ w.cell? ⟨b, off + j * 2, none⟩ = some (.int .i64 bs[j].seq) ∧
  ∃ a c, w.cell? ⟨b, off + j * 2 + 1, none⟩ = some (.slice a bs[j].chs.length c) ∧ ChangesAt w a bs[j].chs
theorem batchesAt_keep {w w' : World} {ao : Option Addr} {bs : List BatchD} (h : BatchesAt w ao bs) (hb : Below w.heap.size w w') : BatchesAt w' ao bs := by
  intro j hj
  obtain ⟨b, off, h1, h2, h3, a, c, h4, h5⟩ := h j hj
  exact ⟨b, off, h1, Nat.lt_of_lt_of_le h2 hb.size, (hb.cell (p := ⟨b, off + j * 2, none⟩) h2).trans h3, a, c, (hb.cell (p := ⟨b, off + j * 2 + 1, none⟩) h2).trans h4, changesAt_keep h5 hb⟩
def KidsIn (w : World) (B g : Nat) (C : Array Value) (bs : List BatchD) : Prop :=
  (∀ j (h : j < bs.length), C[j * 2]? = some (.int .i64 bs[j].seq) ∧ ∃ x, C[j * 2 + 1]? = some x ∧ RowChange w B x bs[j].chs ∧ x.ownBlock ≠ some g) ∧
  (∀ (i j : Nat) (x y : Value) (h : Nat), i ≠ j → i < bs.length → j < bs.length → C[i * 2 + 1]? = some x → C[j * 2 + 1]? = some y → x.ownBlock = some h → y.ownBlock ≠ some h)
def RowBatch (w : World) (B : Nat) (v : Value) (bs : List BatchD) : Prop := (v = .slice none 0 0 ∧ bs = []) ∨
  ∃ (g cap : Nat) (C : Array Value), v = .slice (some ⟨g, 0, none⟩) bs.length cap ∧ B ≤ g ∧ w.heap[g]? = some (.cells C 96 (0, 0)) ∧ bs.length * 2 ≤ C.size ∧ KidsIn w B g C bs
theorem kidsIn_keep {w w' : World} {B g : Nat} {C : Array Value} {bs : List BatchD} (h : KidsIn w B g C bs) (hk : ∀ k, B ≤ k → k < w.heap.size → w'.heap[k]? = w.heap[k]?) : KidsIn w' B g C bs := by
  refine ⟨fun j hj => ?_, h.2⟩
  obtain ⟨h1, x, h2, h3, h4⟩ := h.1 j hj
  exact ⟨h1, x, h2, rowChange_keep h3 (fun k hk' => hk k (rowChange_lt h3 k hk').1 (rowChange_lt h3 k hk').2), h4⟩
theorem rowBatch_keep {w w' : World} {B : Nat} {v : Value} {bs : List BatchD} (h : RowBatch w B v bs) (hk : ∀ k, B ≤ k → k < w.heap.size → w'.heap[k]? = w.heap[k]?) : RowBatch w' B v bs := by
  rcases h with h | ⟨g, cap, C, rfl, hB, hC, hs, hI⟩
  · exact .inl h
  · exact .inr ⟨g, cap, C, rfl, hB, (hk g hB (Array.getElem?_eq_some_iff.1 hC).1).trans hC, hs, kidsIn_keep hI hk⟩
theorem rowBatch_below {w w' : World} {B : Nat} {v : Value} {bs : List BatchD} (h : RowBatch w B v bs) (hb : Below w.heap.size w w') : RowBatch w' B v bs :=
  rowBatch_keep h (fun k _ hk => hb.block k hk)
theorem rowBatch_at {w : World} {B : Nat} {v : Value} {bs : List BatchD} (h : RowBatch w B v bs) : ∃ ao cap, v = .slice ao bs.length cap ∧ BatchesAt w ao bs := by
  rcases h with ⟨rfl, rfl⟩ | ⟨g, cap, C, rfl, _, hC, _, hI⟩
  · exact ⟨none, 0, rfl, fun j hj => absurd hj (by simp)⟩
  · refine ⟨_, cap, rfl, fun j hj => ⟨g, 0, rfl, (Array.getElem?_eq_some_iff.1 hC).1, ?_, ?_⟩⟩
    · rw [Nat.zero_add]
      exact (cell_of_row w g (j * 2) _ _ (0, 0) hC).trans (hI.1 j hj).1
    · obtain ⟨-, x, h2, h3, -⟩ := hI.1 j hj
      obtain ⟨a, c, rfl, h5⟩ := rowChange_at h3
      refine ⟨a, c, ?_, h5⟩
      rw [Nat.zero_add]
      exact (cell_of_row w g (j * 2 + 1) _ _ (0, 0) hC).trans h2
theorem rowBatch_rows {w : World} {B n c : Nat} {a : Option Addr} {bs : List BatchD} (h : RowBatch w B (.slice a n c) bs) : n = bs.length ∧ BatchesAt w a bs := by
  obtain ⟨ao, cap, e, hf⟩ := rowBatch_at h
  cases e
  exact ⟨rfl, hf⟩
theorem rowBatch_le {w : World} {B B' : Nat} {v : Value} {bs : List BatchD} (h : RowBatch w B v bs) (hB : B' ≤ B) : RowBatch w B' v bs := by
  rcases h with h | ⟨g, cap, C, h1, h2, h3, h4, h5⟩
  · exact .inl h
  · refine .inr ⟨g, cap, C, h1, by omega, h3, h4, fun j hj => ?_, h5.2⟩
    obtain ⟨k1, x, k2, k3, k4⟩ := h5.1 j hj
    exact ⟨k1, x, k2, rowChange_le k3 hB, k4⟩
def cellsBatch : List BatchD → List Value → List Value
  | b :: r, x :: s => .int .i64 b.seq :: x :: cellsBatch r s
  | _, _ => []
theorem cellsBatch_append : ∀ (a : List BatchD) (s : List Value) (b : BatchD) (x : Value), s.length = a.length → cellsBatch (a ++ [b]) (s ++ [x]) = cellsBatch a s ++ [.int .i64 b.seq, x]
  | [], [], _, _, _ => rfl
  | [], _ :: _, _, _, h => absurd h (by simp)
  | _ :: _, [], _, _, h => absurd h (by simp)
  | A :: r, y :: s, b, x, h => by simp only [List.cons_append, cellsBatch]; rw [cellsBatch_append r s b x (by simpa using h)]
theorem cellsBatch_get : ∀ (a : List BatchD) (s : List Value) (j : Nat) (b : BatchD) (x : Value), a[j]? = some b → s[j]? = some x → (cellsBatch a s)[j * 2]? = some (.int .i64 b.seq) ∧ (cellsBatch a s)[j * 2 + 1]? = some x
  | [], _, _, _, _, h, _ => absurd h (by simp)
  | _ :: _, [], _, _, _, _, h => absurd h (by simp)
  | A :: r, y :: s, 0, b, x, h, h' => by simp at h h'; subst h h'; simp [cellsBatch]
  | A :: r, y :: s, j + 1, b, x, h, h' => by
    have := cellsBatch_get r s j b x (by simpa using h) (by simpa using h')
    have e : (j + 1) * 2 = j * 2 + 2 := by omega
    simp only [cellsBatch, e]
    simpa using this
def BuildB (w : World) (B : Nat) (v : Value) (bs : List BatchD) : Prop :=
  ∃ vs : List Value, vs.length = bs.length ∧ w.ownsRow B 96 2 v bs.length (cellsBatch bs vs) ∧ (∀ (j : Nat) (x : Value) (b : BatchD), vs[j]? = some x → bs[j]? = some b → RowChange w B x b.chs) ∧
    (∀ (i j : Nat) (x y : Value) (h : Nat), i ≠ j → vs[i]? = some x → vs[j]? = some y → x.ownBlock = some h → y.ownBlock ≠ some h)
theorem buildB_nil (w : World) (B : Nat) : BuildB w B (.slice none 0 0) [] := ⟨[], rfl, World.ownsRow_nil _ _ _ _, fun j x b h => by simp at h, fun i j x y h _ hx => by simp at hx⟩
theorem owns_block {w : World} {B : Nat} {e : TypeId} {s : Nat} {v : Value} {n : Nat} {xs : List Value} (h : w.ownsRow B e s v n xs) {g : Nat} (hg : v.ownBlock = some g) : ∃ C, w.heap[g]? = some (.cells C e (0, 0)) := by
  rcases h.2 with ⟨rfl, _⟩ | ⟨g', cap, cur, rfl, _, hC, _⟩
  · cases hg
  · obtain rfl : g' = g := by simpa [Value.ownBlock] using hg
    exact ⟨cur, hC⟩
theorem change_block {w : World} {B : Nat} {x : Value} {fs : List ChangeD} (h : RowChange w B x fs) {g : Nat} (hg : x.ownBlock = some g) : ∃ C, w.heap[g]? = some (.cells C 144 (0, 0)) := by
  rcases h with ⟨rfl, rfl⟩ | ⟨g', cap, C, rfl, _, hC, _⟩
  · cases hg
  · obtain rfl : g' = g := by simpa [Value.ownBlock] using hg
    exact ⟨C, hC⟩
theorem kid_apart {w : World} {B B' : Nat} {v x : Value} {n s : Nat} {xs : List Value} {fs : List ChangeD} (h : w.ownsRow B 96 s v n xs) (hx : RowChange w B' x fs) {g : Nat} (hg : x.ownBlock = some g) : v.ownBlock ≠ some g := by
  intro e
  obtain ⟨C, h1⟩ := owns_block h e
  obtain ⟨C', h2⟩ := change_block hx hg
  rw [h1] at h2
  simp at h2
theorem buildB_row {w : World} {B : Nat} {v : Value} {bs : List BatchD} (h : BuildB w B v bs) : RowBatch w B v bs := by
  obtain ⟨vs, h1, h2, h3, h4⟩ := h
  rcases h2.2 with ⟨rfl, hn⟩ | ⟨g, cap, cur, rfl, hB, hC, hle, _, hs, ht⟩
  · exact .inl ⟨rfl, List.eq_nil_of_length_eq_zero hn⟩
  · have hget : ∀ j (hj : j < bs.length), ∃ x, vs[j]? = some x ∧ cur[j * 2]? = some (.int .i64 bs[j].seq) ∧ cur[j * 2 + 1]? = some x := by
      intro j hj
      obtain ⟨x, hx⟩ : ∃ x, vs[j]? = some x := ⟨vs[j]'(by omega), List.getElem?_eq_getElem (by omega)⟩
      obtain ⟨k1, k2⟩ := cellsBatch_get bs vs j bs[j] x (List.getElem?_eq_getElem hj) hx
      exact ⟨x, hx, take_getChange ht (by omega) k1, take_getChange ht (by omega) k2⟩
    refine .inr ⟨g, cap, cur, rfl, hB, hC, by omega, fun j hj => ?_, ?_⟩
    · obtain ⟨x, hx, k1, k2⟩ := hget j hj
      refine ⟨k1, x, k2, h3 j x _ hx (List.getElem?_eq_getElem hj), fun e => ?_⟩
      exact kid_apart h2 (h3 j x _ hx (List.getElem?_eq_getElem hj)) e rfl
    · intro i j x y h hij hi hj hx hy e
      obtain ⟨x', hx', -, k2⟩ := hget i hi
      obtain ⟨y', hy', -, k2'⟩ := hget j hj
      rw [k2] at hx
      rw [k2'] at hy
      obtain rfl := Option.some.inj hx
      obtain rfl := Option.some.inj hy
      exact h4 i j x' y' h hij hx' hy' e
theorem buildB_put {W w' : World} {B : Nat} {v v' x : Value} {bs : List BatchD} {b : BatchD} (hx : RowChange W B x b.chs)
    (vs : List Value) (h1 : vs.length = bs.length) (h3 : ∀ (j : Nat) (y : Value) (c : BatchD), vs[j]? = some y → bs[j]? = some c → RowChange W B y c.chs) (h4 : ∀ (i j : Nat) (y z : Value) (h : Nat), i ≠ j → vs[i]? = some y → vs[j]? = some z → y.ownBlock = some h → z.ownBlock ≠ some h)
    (hnew : ∀ g, x.ownBlock = some g → ∀ y ∈ vs, y.ownBlock ≠ some g)
    (hown' : w'.ownsRow B 96 2 v' (bs ++ [b]).length (cellsBatch bs vs ++ [.int .i64 b.seq, x])) (hkeep : ∀ k, v.ownBlock ≠ some k → k < W.heap.size → w'.heap[k]? = W.heap[k]?)
    (hown : W.ownsRow B 96 2 v bs.length (cellsBatch bs vs)) : BuildB w' B v' (bs ++ [b]) := by
  have keep : ∀ y (fs : List ChangeD), RowChange W B y fs → RowChange w' B y fs := fun y fs hy => rowChange_keep hy (fun g hg => hkeep g (kid_apart hown hy hg) (rowChange_lt hy g hg).2)
  refine ⟨vs ++ [x], by simp [h1], by rw [cellsBatch_append bs vs b x h1]; exact hown', ?_, ?_⟩
  · intro j y c hy hc
    by_cases hj : j < bs.length
    · rw [List.getElem?_append_left (by omega)] at hy
      rw [List.getElem?_append_left hj] at hc
      exact keep _ _ (h3 j y c hy hc)
    · have hlt : j < (bs ++ [b]).length := (List.getElem?_eq_some_iff.1 hc).1
      have hje : j = bs.length := by simp at hlt; omega
      subst hje
      rw [List.getElem?_append_right (by omega)] at hy
      rw [List.getElem?_append_right (Nat.le_refl _)] at hc
      simp [h1] at hy hc
      subst hy hc
      exact keep _ _ hx
  · intro i j y z g hij hy hz hg e
    by_cases hi : i < vs.length
    · rw [List.getElem?_append_left hi] at hy
      by_cases hj : j < vs.length
      · rw [List.getElem?_append_left hj] at hz
        exact h4 i j y z g hij hy hz hg e
      · rw [List.getElem?_append_right (by omega)] at hz
        have hz' := List.mem_of_getElem? hz
        obtain rfl : z = x := by simpa using hz'
        exact hnew g e y (List.mem_of_getElem? hy) hg
    · rw [List.getElem?_append_right (by omega)] at hy
      have hy' := List.mem_of_getElem? hy
      obtain rfl : y = x := by simpa using hy'
      by_cases hj : j < vs.length
      · rw [List.getElem?_append_left hj] at hz
        exact hnew g hg z (List.mem_of_getElem? hz) e
      · have hi1 : i < (vs ++ [y]).length := by
          rcases Nat.lt_or_ge i (vs ++ [y]).length with h' | h'
          · exact h'
          · rw [List.getElem?_eq_none (by simp at h' ⊢; omega)] at hy; simp at hy
        have hj1 : j < (vs ++ [y]).length := by
          rcases Nat.lt_or_ge j (vs ++ [y]).length with h' | h'
          · exact h'
          · rw [List.getElem?_eq_none (by simpa using h')] at hz; simp at hz
        simp at hi1 hj1
        omega
theorem rowChange_one {w : World} {B : Nat} {x : Value} {fs : List ChangeD} (h : RowChange w B x fs) : x.oneCell' = true := by
  obtain ⟨a, c, rfl, -⟩ := rowChange_at h
  rfl
theorem two_one {w : World} {B : Nat} {x : Value} {fs : List ChangeD} (h : RowChange w B x fs) (q : Int) : ∀ u ∈ [.int .i64 q, x], Value.oneCell' u = true := by
  intro u hu
  simp only [List.mem_cons, List.not_mem_nil, or_false] at hu
  rcases hu with rfl | rfl
  · rfl
  · exact rowChange_one h
theorem buildB_after {W0 W w' : World} {B : Nat} {v x v' : Value} {bs : List BatchD} {b : BatchD} {vs : List Value} (hBs : B ≤ W0.heap.size) (hb : Below W0.heap.size W0 W)
    (h1 : vs.length = bs.length) (h2 : W0.ownsRow B 96 2 v bs.length (cellsBatch bs vs)) (h3 : ∀ (j : Nat) (x : Value) (b : BatchD), vs[j]? = some x → bs[j]? = some b → RowChange W0 B x b.chs)
    (h4 : ∀ (i j : Nat) (x y : Value) (h : Nat), i ≠ j → vs[i]? = some x → vs[j]? = some y → x.ownBlock = some h → y.ownBlock ≠ some h)
    (hx : RowChange W W0.heap.size x b.chs) (hown' : w'.ownsRow B 96 2 v' (bs ++ [b]).length (cellsBatch bs vs ++ [.int .i64 b.seq, x])) (hgrow : W.grownBy w' v.ownBlock) : BuildB w' B v' (bs ++ [b]) := by
  refine buildB_put (W := W) (v := v) (rowChange_le hx hBs) vs h1 (fun j y c hy hc => rowChange_below (h3 j y c hy hc) hb) h4 ?_ hown' (fun k hk hlt => hgrow.block k hlt (fun e => hk e.symm)) (ownsRow_below h2 hb)
  intro g hg y hy e
  obtain ⟨j, hj, hjy⟩ := List.getElem_of_mem hy
  have k1 := h3 j y _ (by rw [List.getElem?_eq_getElem hj, hjy]) (List.getElem?_eq_getElem (by omega))
  have := (rowChange_lt k1 g e).2
  have := (rowChange_lt hx g hg).1
  omega
def lastOf (l : List BatchD) : Int := match l.getLast? with
  | some b => b.seq
  | none => -1
theorem lastOf_snoc (l : List BatchD) (b : BatchD) : lastOf (l ++ [b]) = b.seq := by simp [lastOf]
def sizeD (q : Int) (fs : List ChangeD) : Nat := if 1 ≤ (textD q fs).size then (frameB (textD q fs)).size else 0
def batchesOf (s : ByteArray) (l : List (Nat × Nat)) : List BatchD := l.map fun x => ⟨rdSeq (s.extract x.1 x.2), rdChanges (s.extract x.1 x.2)⟩
theorem batchesOf_snoc (s : ByteArray) (l : List (Nat × Nat)) (x : Nat × Nat) : batchesOf s (l ++ [x]) = batchesOf s l ++ [⟨rdSeq (s.extract x.1 x.2), rdChanges (s.extract x.1 x.2)⟩] := by simp [batchesOf]
theorem batchesOf_len (s : ByteArray) (l : List (Nat × Nat)) : (batchesOf s l).length = l.length := by simp [batchesOf]
def plsB : Nat → List BatchD → List Nat
  | _, [] => []
  | e, b :: r => e :: plsB (e + sizeD b.seq b.chs) r
theorem plsB_len : ∀ (l : List BatchD) (e : Nat), (plsB e l).length = l.length
  | [], _ => rfl
  | b :: r, e => by simp [plsB, plsB_len r]
theorem plsB_shift (h : Nat) : ∀ (l : List BatchD) (e : Nat), plsB (h + e) l = (plsB e l).map (h + ·)
  | [], _ => rfl
  | b :: r, e => by
    simp only [plsB, List.map_cons]
    rw [Nat.add_assoc, plsB_shift h r]
def plsOf : Nat → List (Nat × Nat) → List Nat
  | _, [] => []
  | e, x :: r => e :: plsOf x.2 r
theorem plsOf_len : ∀ (l : List (Nat × Nat)) (e : Nat), (plsOf e l).length = l.length
  | [], _ => rfl
  | x :: r, e => by simp [plsOf, plsOf_len r]
theorem plsOf_snoc2 (y : Nat × Nat) : ∀ (l : List (Nat × Nat)) (x : Nat × Nat) (e : Nat), plsOf e (x :: l ++ [y]) = plsOf e (x :: l) ++ [endOf (x :: l)]
  | [], x, e => rfl
  | z :: l, x, e => by
    have h := plsOf_snoc2 y l z x.2
    have h2 : endOf (x :: z :: l) = endOf (z :: l) := by simp [endOf, List.getLast?_cons]
    rw [h2]
    show e :: plsOf x.2 (z :: l ++ [y]) = e :: (plsOf x.2 (z :: l) ++ [endOf (z :: l)])
    rw [h]
theorem plsOf_snoc (l : List (Nat × Nat)) (x : Nat × Nat) : plsOf 0 (l ++ [x]) = plsOf 0 l ++ [endOf l] := by
  cases l with
  | nil => rfl
  | cons y r => exact plsOf_snoc2 x r y 0
theorem frame_sizeD {s : ByteArray} {i : Nat} {x : Nat × Nat} (h : frB s i = some x) (hr : rdOk (s.extract x.1 x.2) = true) : i + sizeD (rdSeq (s.extract x.1 x.2)) (rdChanges (s.extract x.1 x.2)) = x.2 := by
  obtain ⟨h1, h2, h3⟩ := frB_size h
  unfold sizeD
  rw [(rd_text hr).2, if_pos h2]
  exact h1
theorem plsOf_B (s : ByteArray) : ∀ (l : List (Nat × Nat)) (e : Nat), chained s e l → (∀ x ∈ l, rdOk (s.extract x.1 x.2) = true) → plsOf e l = plsB e (batchesOf s l)
  | [], _, _, _ => rfl
  | x :: r, e, hc, hr => by
    show e :: plsOf x.2 r = e :: plsB (e + sizeD (rdSeq (s.extract x.1 x.2)) (rdChanges (s.extract x.1 x.2))) (batchesOf s r)
    rw [frame_sizeD hc.1 (hr x (List.mem_cons_self ..)), plsOf_B s r x.2 hc.2 (fun y hy => hr y (List.mem_cons_of_mem _ hy))]
theorem chained_take {s : ByteArray} : ∀ (l r : List (Nat × Nat)) (e : Nat), chained s e (l ++ r) → chained s e l
  | [], _, _, _ => trivial
  | x :: l, r, _, h => ⟨h.1, chained_take l r x.2 h.2⟩
def segPls (n : Int) (s : ByteArray) : List Nat := plsB (frameB ⟨(headL n.toNat (segFrom n s)).toArray⟩).size (segBatches n s)
theorem head_frame {n : Int} {s : ByteArray} {x : Nat × Nat} {f : Nat} (h : frB s 0 = some x) (hf : hdFrom n (s.extract x.1 x.2) = some f) : (frameB ⟨(headL n.toNat f).toArray⟩).size = x.2 := by
  rw [← ((hdFrom_iff _ _ _).1 hf).2.2.2]
  have := (frB_size h).1
  omega
theorem segPls_none {n : Int} {s : ByteArray} (h : segRead n s = none) : segPls n s = [] := by
  unfold segPls
  rw [(seg_none h).2.1]
  rfl
theorem segPls_tail {n : Int} {s : ByteArray} {x : Nat × Nat} {r l : List (Nat × Nat)} {f : Nat} (hu : unf s = x :: r) (hf : hdFrom n (s.extract x.1 x.2) = some f) {T : ByteArray} (hT : s.extract x.2 s.size = T)
    (hl : (ris T (frs T (T.size + 1) 0) (-1) 0).1 = batchesOf T l) (hp : ∃ rest, frs T (T.size + 1) 0 = l ++ rest) (hr : ∀ y ∈ l, rdOk (T.extract y.1 y.2) = true) : segPls n s = (plsOf 0 l).map (x.2 + ·) := by
  obtain ⟨rest, hp⟩ := hp
  obtain ⟨h1, h2, h3⟩ := seg_tail hu (-1)
  have hc : chained T 0 l := chained_take l rest 0 (by rw [← hp]; exact frs_chained T _ _)
  obtain ⟨k1, k2, k3, k4⟩ := seg_some (segRead_some hu hf)
  unfold segPls
  rw [k1, k2, head_frame h1 hf, ← h2, hT, hl, plsOf_B T l 0 hc hr, ← plsB_shift, Nat.add_zero]
structure FileD where
  name : ByteArray
  text : ByteArray
  kept : Int
def FilesAt (w : World) (ao : Option Addr) (fs : List FileD) : Prop := ∀ j (h : j < fs.length), ∃ b off : Nat, ao = some ⟨b, off, none⟩ ∧ b < w.heap.size ∧
  w.cell? ⟨b, off + j * 3, none⟩ = some (.string fs[j].name) ∧ w.cell? ⟨b, off + j * 3 + 1, none⟩ = some (.string fs[j].text) ∧ w.cell? ⟨b, off + j * 3 + 2, none⟩ = some (.int .i64 fs[j].kept)
theorem filesAt_keep {w w' : World} {ao : Option Addr} {fs : List FileD} (h : FilesAt w ao fs) (hb : Below w.heap.size w w') : FilesAt w' ao fs := by
  intro j hj
  obtain ⟨b, off, h1, h2, h3, h4, h5⟩ := h j hj
  exact ⟨b, off, h1, Nat.lt_of_lt_of_le h2 hb.size, (hb.cell (p := ⟨b, off + j * 3, none⟩) h2).trans h3, (hb.cell (p := ⟨b, off + j * 3 + 1, none⟩) h2).trans h4, (hb.cell (p := ⟨b, off + j * 3 + 2, none⟩) h2).trans h5⟩
def FilesIn (C : Array Value) (fs : List FileD) (k : Nat) : Prop := ∀ j (h : j < fs.length), j < k → C[j * 3]? = some (.string fs[j].name) ∧ C[j * 3 + 1]? = some (.string fs[j].text) ∧ C[j * 3 + 2]? = some (.int .i64 fs[j].kept)
theorem Tryz.infoFile : (Tryz.prog.info? 74).map (fun i => (i.zero, i.size, i.bytes)) = some (some (.agg #[.string ⟨#[]⟩, .string ⟨#[]⟩, .int .i64 0]), 3, 40) := by kernel_rfl
theorem filesAt_own {w : World} {g : Nat} {C : Array Value} {t : TypeId} {fs : List FileD} (h : w.heap[g]? = some (.cells C t (0, 0))) (hC : FilesIn C fs fs.length) : FilesAt w (some ⟨g, 0, none⟩) fs := by
  intro j hj
  obtain ⟨h1, h2, h3⟩ := hC j hj hj
  have hg : g < w.heap.size := (Array.getElem?_eq_some_iff.1 h).1
  refine ⟨g, 0, rfl, hg, ?_, ?_, ?_⟩
  · rw [Nat.zero_add, cell_of_row w g _ C t (0, 0) h, h1]
  · rw [Nat.zero_add, cell_of_row w g _ C t (0, 0) h, h2]
  · rw [Nat.zero_add, cell_of_row w g _ C t (0, 0) h, h3]
def nameOkD (s : ByteArray) : Bool := decide (1 ≤ s.size) && decide (s.size ≤ 8)
def fileOkD (F : FileD) : Bool := nameOkD F.name && (decide (F.text.size ≤ 20000) && (decide (0 ≤ F.kept) && decide (F.kept ≤ F.text.size)))
def okFrom : Option ByteArray → List FileD → Bool
  | _, [] => true
  | none, F :: r => fileOkD F && okFrom (some F.name) r
  | some p, F :: r => fileOkD F && (Op.bytesLess p.toList F.name.toList && okFrom (some F.name) r)
def diskOkD (fs : List FileD) : Bool := decide (fs.length ≤ 30) && okFrom none fs
def prevOf (fs : List FileD) : Nat → Option ByteArray
  | 0 => none
  | k + 1 => fs[k]?.map FileD.name
theorem okFrom_bad {fs : List FileD} {k : Nat} (h : k < fs.length) (hF : fileOkD fs[k] = false) : okFrom (prevOf fs k) (fs.drop k) = false := by
  rw [List.drop_eq_getElem_cons h]
  cases prevOf fs k <;> simp [okFrom, hF]
theorem okFrom_first {fs : List FileD} (h : 0 < fs.length) (hF : fileOkD fs[0] = true) : okFrom (prevOf fs 0) (fs.drop 0) = okFrom (prevOf fs 1) (fs.drop 1) := by
  rw [List.drop_eq_getElem_cons h]
  simp [okFrom, prevOf, hF, h]
theorem okFrom_more {fs : List FileD} {k : Nat} (h : k < fs.length) (hk : 0 < k) (hF : fileOkD fs[k] = true) : okFrom (prevOf fs k) (fs.drop k) = (Op.bytesLess fs[k - 1].name.toList fs[k].name.toList && okFrom (prevOf fs (k + 1)) (fs.drop (k + 1))) := by
  obtain ⟨j, rfl⟩ : ∃ j, k = j + 1 := ⟨k - 1, by omega⟩
  rw [List.drop_eq_getElem_cons h]
  have e1 : prevOf fs (j + 1) = some fs[j].name := by simp [prevOf, show j < fs.length from by omega]
  have e2 : prevOf fs (j + 1 + 1) = some fs[j + 1].name := by simp [prevOf, h]
  rw [e1, e2]
  simp [okFrom, hF]
theorem okFrom_end {fs : List FileD} {k : Nat} (h : fs.length ≤ k) : okFrom (prevOf fs k) (fs.drop k) = true := by
  rw [List.drop_eq_nil_of_le h]
  cases prevOf fs k <;> simp [okFrom]
theorem nameOk_any (s : ByteArray) (w : World) (hs : s.size ≤ maxLen) : Calls Tryz.prog 213 #[.string s] w fun e w' => e = .returned (.bool (nameOkD s)) ∧ w' = w := by
  unfold maxLen at hs
  have e : nameOkD s = (decide ((1 : Int) ≤ (s.size : Int)) && decide ((s.size : Int) ≤ 8)) := by
    unfold nameOkD
    congr 1
    · rw [decide_eq_decide]; omega
    · rw [decide_eq_decide]; omega
  rw [e]
  by_cases h : (1 : Int) ≤ (s.size : Int)
  · have h' : decide ((1 : Int) ≤ (s.size : Int)) = true := by simp; omega
    rw [h', Bool.true_and]
    go_enter Tryz.func213, Tryz.ntmps213
    go_wp2
    go_ret
    exact ⟨rfl, rfl⟩
  · have h' : decide ((1 : Int) ≤ (s.size : Int)) = false := by simp; omega
    rw [h', Bool.false_and]
    go_enter Tryz.func213, Tryz.ntmps213
    go_wp2
    go_ret
    exact ⟨rfl, rfl⟩
theorem fileOk_any (F : FileD) (w : World) (hs : F.name.size ≤ maxLen) (ht : F.text.size ≤ maxLen) : Calls Tryz.prog 190 #[.agg #[.string F.name, .string F.text, .int .i64 F.kept]] w fun e w' => e = .returned (.bool (fileOkD F)) ∧ Below w.heap.size w w' := by
  obtain ⟨a, b, k⟩ := F
  simp only [fileOkD] at *
  unfold maxLen at ht
  have et : decide (b.size ≤ 20000) = decide ((b.size : Int) ≤ 20000) := by rw [decide_eq_decide]; omega
  rw [et]
  cases h1 : nameOkD a
  · rw [Bool.false_and]
    go_enter Tryz.func190, Tryz.ntmps190
    go_wp2_with fail
    refine (nameOk_any _ _ hs).mono ?_
    rintro e w' ⟨rfl, rfl⟩
    rw [h1]
    go_wp2
    go_ret
    exact ⟨rfl, (Below.refl _ w).alloc (Nat.le_refl _) _⟩
  · rw [Bool.true_and]
    cases h2 : decide ((b.size : Int) ≤ 20000)
    · rw [Bool.false_and]
      go_enter Tryz.func190, Tryz.ntmps190
      go_wp2_with fail
      refine (nameOk_any _ _ hs).mono ?_
      rintro e w' ⟨rfl, rfl⟩
      rw [h1]
      go_wp2
      go_ret
      exact ⟨rfl, (Below.refl _ w).alloc (Nat.le_refl _) _⟩
    · rw [Bool.true_and]
      cases h3 : decide (0 ≤ k)
      · rw [Bool.false_and]
        go_enter Tryz.func190, Tryz.ntmps190
        go_wp2_with fail
        refine (nameOk_any _ _ hs).mono ?_
        rintro e w' ⟨rfl, rfl⟩
        rw [h1]
        go_wp2
        go_ret
        exact ⟨rfl, (Below.refl _ w).alloc (Nat.le_refl _) _⟩
      · rw [Bool.true_and]
        go_enter Tryz.func190, Tryz.ntmps190
        go_wp2_with fail
        refine (nameOk_any _ _ hs).mono ?_
        rintro e w' ⟨rfl, rfl⟩
        rw [h1]
        go_wp2
        go_ret
        exact ⟨rfl, (Below.refl _ w).alloc (Nat.le_refl _) _⟩
end Go.Proofs.YtmmchemgegmhhaaGreatDoor
