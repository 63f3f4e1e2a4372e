import Derived.Laws.Bits128
import Derived.Test.YtifjneldjjmeaaaGreatDoorTx0
set_option maxRecDepth 100000
set_option maxHeartbeats 1000000
namespace Go.Proofs.YtifjneldjjmeaaaGreatDoor
open Go.RowKit
theorem i64_and255 (n : Int) : bits .and .i64 n 255 = n % 256 := by
  have h255 : (BitVec.ofInt 64 255).toNat = 2 ^ 8 - 1 := by decide
  have key : (BitVec.ofInt 64 n &&& BitVec.ofInt 64 255).toNat = (n % ((2 ^ 64 : Nat) : Int)).toNat % 2 ^ 8 := by
    rw [BitVec.toNat_and, BitVec.toNat_ofInt, h255, Nat.and_two_pow_sub_one_eq_mod]
  show IntKind.i64.wrap ((BitVec.ofInt 64 n &&& BitVec.ofInt 64 255).toNat : Nat) = n % 256
  rw [key, IntKind.wrap_i64]
  omega
def Code (w0 : World) (ao : Option Addr) (len : Nat) : Prop := ∀ j, j < len → ∃ b off z : Nat, ao = some ⟨b, off, none⟩ ∧ b < w0.heap.size ∧ w0.cell? ⟨b, off + j, none⟩ = some (.int .u8 z) ∧ z < 256
def CurAt (w0 w : World) (g : Nat) (ao : Option Addr) (len cap : Nat) : Prop :=
  Below w0.heap.size w0 w ∧ w0.heap.size ≤ g ∧ ∃ (i : Nat) (h : Int) (T : TypeId), i ≤ len ∧ w.heap[g]? = some (.cells #[.slice ao len cap, .int .i64 i, .int .i64 h] T (0, 0))
theorem cur_cell {w : World} {g : Nat} {cs : Array Value} {T : TypeId} (h : w.heap[g]? = some (.cells cs T (0, 0))) (j : Nat) (v : Value) (hj : cs[j]? = some v) : w.cell? ⟨g, j, none⟩ = some v := by
  rw [cell_of_row w g j cs T (0, 0) h, hj]
theorem ret_i {k : IntKind} {a b : Int} (h : a = b) : Ending.returned (.int k a) = .returned (.int k b) := by rw [h]
theorem byte_any (w0 w : World) (g : Nat) (ao : Option Addr) (len cap : Nat) (hlen : len ≤ 1048576) (hcode : Code w0 ao len) (hc : CurAt w0 w g ao len cap) :
    Calls Tryz.prog 39 #[.pointer (some ⟨g, 0, none⟩)] w fun e w' => ∃ x : Nat, e = .returned (.int .i64 x) ∧ x < 256 ∧ CurAt w0 w' g ao len cap ∧ w.grownBy w' (some g) := by
  obtain ⟨hb, hg, i, h, T, hi, hh⟩ := hc
  have hc0 := cur_cell hh 0 _ rfl
  have hc1 := cur_cell hh 1 _ rfl
  have hc2 := cur_cell hh 2 _ rfl
  have hf1 := frozen_of_row w g 1 _ T hh
  have hf2 := frozen_of_row w g 2 _ T hh
  have hand := i64_and255
  have KH : Hid (∀ H1 : Int, (w.setCell ⟨g, 2, none⟩ (.int .i64 H1)).heap[g]? = some (.cells #[.slice ao len cap, .int .i64 i, .int .i64 H1] T (0, 0)) ∧ w.grownBy (w.setCell ⟨g, 2, none⟩ (.int .i64 H1)) (some g)) :=
    fun H1 => ⟨(heap_setCell_same w g 2 _ T (.int .i64 H1) hh).trans rfl, grownBy_store (World.grownBy.refl _ _) 2 _⟩
  have HB := hide hb
  have HC := hide hcode
  clear hh hb hcode
  go_enter Tryz.func39, Tryz.ntmps39
  go_wp2
  clear hc0 hc1 hc2 hf1 hf2
  generalize wrap64 (wrap64 (h * 6364136223846793005) + 1442695040888963407) = H1
  obtain ⟨hh1, g1⟩ := KH.out H1
  generalize w.setCell ⟨g, 2, none⟩ (.int .i64 H1) = W1 at hh1 g1 ⊢
  have hc0 := cur_cell hh1 0 _ rfl
  have hc1 := cur_cell hh1 1 _ rfl
  have hc2 := cur_cell hh1 2 _ rfl
  have hf1 := frozen_of_row W1 g 1 _ T hh1
  have HH1 := hide hh1
  have G1 := hide g1
  have HB1 : Hid (Below w0.heap.size w0 W1) := HB.out.grown g1 HB.out.size (fun k hk => by cases hk; exact hg)
  clear hh1 g1
  by_cases hlt : i < len
  · have hlt' : decide ((i : Int) < (len : Int)) = true := by simp; omega
    obtain ⟨b, off, z, rfl, hbl, hz, hz256⟩ := HC.out i hlt
    have hcz : W1.cell? ⟨b, off + i, none⟩ = some (.int .u8 z) := (HB1.out.cell (p := ⟨b, off + i, none⟩) hbl).trans hz
    have hi0 : (0 : Int) ≤ (i : Int) := by omega
    have hi1 : (i : Int) < (len : Int) := by omega
    clear hz
    go_quiet (fail)
    go_wp2
    generalize bits BinOp.xor IntKind.i64 (H1 / 8589934592) (H1 / 35184372088832) = Y
    go_quiet (fail)
    go_wp2
    go_quiet (fail)
    go_wp2
    go_ret
    have hs : ∀ q, Below w0.heap.size w0 ((W1.drewN q).setCell ⟨g, 1, none⟩ (.int .i64 ((i : Int) + 1))) := fun q => (below_drewN HB1.out q).setCell (p := ⟨g, 1, none⟩) hg _
    have hr : ∀ q, ((W1.drewN q).setCell ⟨g, 1, none⟩ (.int .i64 ((i : Int) + 1))).heap[g]? = some (.cells #[.slice (some ⟨b, off, none⟩) len cap, .int .i64 ((i + 1 : Nat) : Int), .int .i64 H1] T (0, 0)) :=
      fun q => (heap_setCell_same (W1.drewN q) g 1 _ T (.int .i64 ((i : Int) + 1)) HH1.out).trans rfl
    exact ⟨((Y + z) % 256).toNat, ret_i (by omega), by omega, ⟨hs _, hg, i + 1, H1, T, by omega, hr _⟩, grownBy_store (grownBy_trans G1.out (grownBy_below _ (drewN_below _ _))) 1 _⟩
  · have hlt' : decide ((i : Int) < (len : Int)) = false := by simp; omega
    go_quiet (fail)
    go_wp2
    generalize bits BinOp.xor IntKind.i64 (H1 / 8589934592) (H1 / 35184372088832) = Y
    go_quiet (fail)
    go_wp2
    go_ret
    exact ⟨(Y % 256).toNat, ret_i (by omega), by omega, ⟨below_drewN (below_drewN HB1.out _) _, hg, i, H1, T, hi, HH1.out⟩, grownBy_trans G1.out (grownBy_trans (grownBy_below _ (drewN_below _ _)) (grownBy_below _ (drewN_below _ _)))⟩
theorem below_any (w0 w : World) (g : Nat) (ao : Option Addr) (len cap : Nat) (n : Int) (hlen : len ≤ 1048576) (hn : n ≤ 4611686018427387904) (hcode : Code w0 ao len) (hc : CurAt w0 w g ao len cap) :
    Calls Tryz.prog 32 #[.pointer (some ⟨g, 0, none⟩), .int .i64 n] w fun e w' => ∃ x : Nat, e = .returned (.int .i64 x) ∧ (0 < n → (x : Int) < n) ∧ (n ≤ 0 → x = 0) ∧ CurAt w0 w' g ao len cap ∧ w.grownBy w' (some g) := by
  have HC := hide hcode
  have HU := hide hc
  clear hcode hc
  by_cases h0 : n ≤ 0
  · go_enter Tryz.func32, Tryz.ntmps32
    go_wp2
    go_ret
    exact ⟨0, rfl, fun h => absurd h (by omega), fun _ => rfl, HU.out, World.grownBy.refl _ _⟩
  · by_cases h1 : n ≤ 256
    · go_enter Tryz.func32, Tryz.ntmps32
      go_wp2_with fail
      refine (byte_any w0 _ g ao len cap hlen HC.out HU.out).mono ?_
      rintro e w1 ⟨x, rfl, hx, hc1, g1⟩
      go_wp2
      go_ret
      have hb := Int.emod_lt_of_pos (x : Int) (show 0 < n by omega)
      have hp := Int.emod_nonneg (x : Int) (show n ≠ 0 by omega)
      exact ⟨((x : Int) % n).toNat, ret_i (by omega), fun _ => by omega, fun h => absurd h (by omega), hc1, g1⟩
    · go_enter Tryz.func32, Tryz.ntmps32
      go_wp2_with fail
      refine (byte_any w0 _ g ao len cap hlen HC.out HU.out).mono ?_
      rintro e w1 ⟨x, rfl, hx, hc1, g1⟩
      have HU1 := hide hc1
      have G1 := hide g1
      clear hc1 g1
      go_wp2_with fail
      refine (byte_any w0 _ g ao len cap hlen HC.out HU1.out).mono ?_
      rintro e w2 ⟨y, rfl, hy, hc2, g2⟩
      have HU2 := hide hc2
      have G2 := hide g2
      clear hc2 g2
      go_wp2_with fail
      refine (byte_any w0 _ g ao len cap hlen HC.out HU2.out).mono ?_
      rintro e w3 ⟨z, rfl, hz, hc3, g3⟩
      have HU3 := hide hc3
      have G3 := hide g3
      clear hc3 g3
      go_wp2_with fail
      refine (byte_any w0 _ g ao len cap hlen HC.out HU3.out).mono ?_
      rintro e w4 ⟨u, rfl, hu, hc4, g4⟩
      go_wp2
      go_ret
      have hb := Int.emod_lt_of_pos ((x : Int) * 16777216 + (y : Int) * 65536 + (z : Int) * 256 + (u : Int)) (show 0 < n by omega)
      have hp := Int.emod_nonneg ((x : Int) * 16777216 + (y : Int) * 65536 + (z : Int) * 256 + (u : Int)) (show n ≠ 0 by omega)
      exact ⟨(((x : Int) * 16777216 + (y : Int) * 65536 + (z : Int) * 256 + (u : Int)) % n).toNat, ret_i (by omega), fun _ => by omega, fun h => absurd h (by omega), hc4, grownBy_trans G1.out (grownBy_trans G2.out (grownBy_trans G3.out g4))⟩
theorem i64_and30 (n : Int) : bits .and .i64 n 1073741823 = n % 1073741824 := by
  have h30 : (BitVec.ofInt 64 1073741823).toNat = 2 ^ 30 - 1 := by decide
  have key : (BitVec.ofInt 64 n &&& BitVec.ofInt 64 1073741823).toNat = (n % ((2 ^ 64 : Nat) : Int)).toNat % 2 ^ 30 := by
    rw [BitVec.toNat_and, BitVec.toNat_ofInt, h30, Nat.and_two_pow_sub_one_eq_mod]
  show IntKind.i64.wrap ((BitVec.ofInt 64 n &&& BitVec.ofInt 64 1073741823).toNat : Nat) = n % 1073741824
  rw [key, IntKind.wrap_i64]
  omega
theorem new_any (w : World) (ao : Option Addr) (len cap : Nat) (hlen : len ≤ 1048576) (hcode : Code w ao len) :
    Calls Tryz.prog 30 #[.slice ao len cap] w fun e w' => ∃ g, e = .returned (.pointer (some ⟨g, 0, none⟩)) ∧ CurAt w w' g ao len cap := by
  have hand := i64_and30
  have HC := hide hcode
  clear hcode
  go_enter Tryz.func30, Tryz.ntmps30
  go_wp2
  go_loop [3, 4] (fun hh ii => ∃ (k : Nat) (h : Int), k ≤ len ∧ ii = .int .i64 k ∧ hh = .int .i64 h ∧ 0 ≤ h ∧ h ≤ 1073741824) (fun _ ii => len - (intOf ii).toNat)
  case atStart => exact ⟨0, _, Nat.zero_le _, rfl, rfl, by omega, by omega⟩
  case round =>
    obtain ⟨k, h, hk, rfl, rfl, h0, h1⟩ := hrel
    by_cases hlt : k < len
    · have hlt' : decide ((k : Int) < (len : Int)) = true := by simp; omega
      by_cases h4 : k < 4000
      · have h4' : decide ((k : Int) < 4000) = true := by simp; omega
        obtain ⟨b, off, z, rfl, hbl, hz, hz256⟩ := HC.out k hlt
        have hi0 : (0 : Int) ≤ (k : Int) := by omega
        have hi1 : (k : Int) < (len : Int) := by omega
        go_wp2
        go_round
        case rel => exact ⟨k + 1, _, by omega, by go_num, rfl, by omega, by omega⟩
        case measure => simp [intOf]; omega
      · have h4' : decide ((k : Int) < 4000) = false := by simp; omega
        go_wp2
        go_ret
        exact ⟨w.heap.size, rfl, (Below.refl _ _).alloc (Nat.le_refl _) _, Nat.le_refl _, 0, h, _, Nat.zero_le _, heap_alloc_new w _⟩
    · have hlt' : decide ((k : Int) < (len : Int)) = false := by simp; omega
      go_wp2
      go_ret
      exact ⟨w.heap.size, rfl, (Below.refl _ _).alloc (Nat.le_refl _) _, Nat.le_refl _, 0, h, _, Nat.zero_le _, heap_alloc_new w _⟩
theorem once_any (w0 w : World) (g : Nat) (ao : Option Addr) (len cap : Nat) (n : Int) (hlen : len ≤ 1048576) (hn : n ≤ 4611686018427387904) (hcode : Code w0 ao len) (hc : CurAt w0 w g ao len cap) :
    Calls Tryz.prog 57 #[.pointer (some ⟨g, 0, none⟩), .int .i64 n] w fun e w' => ∃ b : Bool, e = .returned (.bool b) ∧ CurAt w0 w' g ao len cap ∧ w.grownBy w' (some g) := by
  have HC := hide hcode
  have HU := hide hc
  clear hcode hc
  go_enter Tryz.func57, Tryz.ntmps57
  go_wp2_with fail
  refine (below_any w0 _ g ao len cap n hlen hn HC.out HU.out).mono ?_
  rintro e w1 ⟨x, rfl, _, _, hc1, g1⟩
  go_wp2
  go_ret
  exact ⟨_, rfl, hc1, g1⟩
theorem grownBy_then {a b c : World} {r : Option Nat} (h : a.grownBy b r) (k : Below a.heap.size b c) : a.grownBy c r :=
  ⟨k.os.trans h.os, k.tape.trans h.tape, k.output.trans h.output, Nat.le_trans h.size k.size, fun i hi hr => (k.block i hi).trans (h.block i hi hr)⟩
theorem cur_keep {w0 w w' : World} {g : Nat} {ao : Option Addr} {len cap B : Nat} (h : CurAt w0 w g ao len cap) (hb : Below B w w') (hB : g < B) : CurAt w0 w' g ao len cap := by
  obtain ⟨h1, h2, i, x, T, hi, hh⟩ := h
  exact ⟨h1.trans (hb.mono (by omega)), h2, i, x, T, hi, by rw [hb.block g hB]; exact hh⟩
theorem cur_lt {w0 w : World} {g : Nat} {ao : Option Addr} {len cap : Nat} (h : CurAt w0 w g ao len cap) : g < w.heap.size := by
  obtain ⟨_, _, i, x, T, _, hh⟩ := h
  rcases Nat.lt_or_ge g w.heap.size with h | h
  · exact h
  · rw [Array.getElem?_eq_none h] at hh; cases hh
theorem row_keep {w w' : World} {B g n : Nat} {e : TypeId} {size : Nat} {v : Value} {xs : List Value} (h : w.ownsRow B e size v n xs) (hg : w.grownBy w' (some g)) (hB : g < B) : w'.ownsRow B e size v n xs := by
  refine h.kept hg ?_
  cases hv : v.ownBlock with
  | none => exact .inl rfl
  | some k =>
    right
    intro e
    have := (h.lt k hv).1
    simp at e
    omega
theorem buildE_grown {w w' : World} {B g : Nat} {v : Value} {bs : List EntD} (h : BuildE w B v bs) (hb : w.grownBy w' (some g)) (hg : g < B) : BuildE w' B v bs := by
  obtain ⟨vs, h1, h2, h3, h4⟩ := h
  exact ⟨vs, h1, row_keep h2 hb hg, fun j x b hx hj => rowText_grown (h3 j x b hx hj) hb (fun y hy e => by have := (rowText_lt (h3 j x b hx hj) y hy).1; have e2 : y = g := Option.some.inj e; omega), h4⟩
theorem buildE_afterG {W0 W w' : World} {B g : Nat} {v x v' : Value} {bs : List EntD} {b : EntD} {vs : List Value} (hBs : B ≤ W0.heap.size) (hb : W0.grownBy W (some g)) (hg : g < B)
    (h1 : vs.length = bs.length) (h2 : W0.ownsRow B 40 5 v bs.length (cellsEnt bs vs)) (h3 : ∀ (j : Nat) (x : Value) (b : EntD), vs[j]? = some x → bs[j]? = some b → RowText W0 B x b.val.items)
    (h4 : ∀ (i j : Nat) (x y : Value) (h : Nat), i ≠ j → vs[i]? = some x → vs[j]? = some y → x.ownBlock = some h → y.ownBlock ≠ some h)
    (hx : RowText W W0.heap.size x b.val.items) (hown' : w'.ownsRow B 40 5 v' (bs ++ [b]).length (cellsEnt bs vs ++ cells1E b x)) (hgrow : W.grownBy w' v.ownBlock) : BuildE w' B v' (bs ++ [b]) := by
  refine buildE_put (W := W) (v := v) (rowText_le hx hBs) vs h1 (fun j y c hy hc => rowText_grown (h3 j y c hy hc) hb (fun z hz e => by have := (rowText_lt (h3 j y c hy hc) z hz).1; have e2 : z = g := Option.some.inj e; omega)) h4 ?_ hown' (fun k hk hlt => hgrow.block k hlt (fun e => hk e.symm)) (row_keep h2 hb hg)
  intro q hq y hy e
  obtain ⟨j, hj, hjy⟩ := List.getElem_of_mem hy
  have k1 := h3 j y _ (by rw [List.getElem?_eq_getElem hj, hjy]) (List.getElem?_eq_getElem (by omega))
  have := (rowText_lt k1 q e).2
  have := (rowText_lt hx q hq).1
  omega
theorem app_entG {ops : Array Oper} {rest : List Oper} {o : Oper} {a : Act} {Q : Exit → Act → World → Prop} (W0 W : World) (B g : Nat) (hgd : o.guard = none) (s y : Operand)
    (ho : o.op = .call { callee := .builtin .append, args := #[s, y], argTypes := #[24, 24] }) (v x : Value) (bs : List EntD) (b : EntD) (hs : a.eval s = v)
    (hbuild : BuildE W0 B v bs) (hBs : B ≤ W0.heap.size) (hb : W0.grownBy W (some g)) (hg : g < B) (hx : RowText W W0.heap.size x b.val.items) (k : Nat) (hy : a.eval y = .slice (some ⟨k, 0, none⟩) 1 1) (hblk : W.heap[k]? = some (.cells #[.string b.key, .int .i64 b.val.kind, .int .i64 b.val.til, .string b.val.text, x] 40 (0, 0)))
    (hlen : bs.length ≤ 1048576)
    (h : ∀ q cap w', BuildE w' B (.slice (some ⟨q, 0, none⟩) (bs.length + 1) cap) (bs ++ [b]) → Below B W w' → W.grownBy w' v.ownBlock → wpList Tryz.prog ops Q rest (a.put o.dst (.slice (some ⟨q, 0, none⟩) (bs.length + 1) cap)) w') :
    wpList Tryz.prog ops Q (o :: rest) a W := by
  obtain ⟨i0, hi, hz0, hz1, hz2⟩ := info_parts Tryz.infoEntry
  obtain ⟨vs, h1, h2, h3, h4⟩ := hbuild
  have hown := row_keep h2 hb hg
  refine wpList_append_lies W hgd s y 24 ho B 40 i0 (.agg #[.string ⟨#[]⟩, .int .i64 0, .int .i64 0, .string ⟨#[]⟩, .slice none 0 0]) 5 72 Tryz.underlying24 hi hz0 hz1 hz2 rfl (by decide) v bs.length (cellsEnt bs vs) hs hown ⟨k, 0, none⟩ 1 1 (cells1E b x) hy rfl
    (fun j u hj => World.news_of_block hblk j u hj) (five_one hx _) (by omega) (by unfold maxLen; omega) (by omega) (Nat.le_trans hBs hb.size) W.heap.size rfl ?_
  intro q cap w' hown' hgrow hg' hgl
  refine h q cap w' (buildE_afterG hBs hb hg h1 h2 h3 h4 hx (by rw [List.length_append]; exact hown') hgrow) ((Below.refl B W).grown hgrow (Nat.le_trans hBs hb.size) (fun k hk => (hown.lt k hk).1)) hgrow
theorem step_app_entG {ops : Array Oper} {o : Oper} {a : Act} {K : Act → World → Prop} {Q : Exit → Act → World → Prop} {E : Prop} (W0 W : World) (B g : Nat) (hgd : o.guard = none) (s y : Operand)
    (ho : o.op = .call { callee := .builtin .append, args := #[s, y], argTypes := #[24, 24] }) (v x : Value) (bs : List EntD) (b : EntD) (hs : a.eval s = v)
    (hbuild : BuildE W0 B v bs) (hBs : B ≤ W0.heap.size) (hb : W0.grownBy W (some g)) (hg : g < B) (hx : RowText W W0.heap.size x b.val.items) (k : Nat) (hy : a.eval y = .slice (some ⟨k, 0, none⟩) 1 1) (hblk : W.heap[k]? = some (.cells #[.string b.key, .int .i64 b.val.kind, .int .i64 b.val.til, .string b.val.text, x] 40 (0, 0)))
    (hlen : bs.length ≤ 1048576)
    (h : ∀ q cap w', BuildE w' B (.slice (some ⟨q, 0, none⟩) (bs.length + 1) cap) (bs ++ [b]) → Below B W w' → W.grownBy w' v.ownBlock → K (a.put o.dst (.slice (some ⟨q, 0, none⟩) (bs.length + 1) cap)) w') :
    if Region.wanted o (yielded ops a.tmps) = true then Oper.wp Tryz.prog o a W K Q else E := by
  obtain ⟨i0, hi, hz0, hz1, hz2⟩ := info_parts Tryz.infoEntry
  obtain ⟨vs, h1, h2, h3, h4⟩ := hbuild
  have hown := row_keep h2 hb hg
  refine step_append_lies W hgd s y 24 ho B 40 i0 (.agg #[.string ⟨#[]⟩, .int .i64 0, .int .i64 0, .string ⟨#[]⟩, .slice none 0 0]) 5 72 Tryz.underlying24 hi hz0 hz1 hz2 rfl (by decide) v bs.length (cellsEnt bs vs) hs hown ⟨k, 0, none⟩ 1 1 (cells1E b x) hy rfl
    (fun j u hj => World.news_of_block hblk j u hj) (five_one hx _) (by omega) (by unfold maxLen; omega) (by omega) (Nat.le_trans hBs hb.size) W.heap.size rfl ?_
  intro q cap w' hown' hgrow hg' hgl
  refine h q cap w' (buildE_afterG hBs hb hg h1 h2 h3 h4 hx (by rw [List.length_append]; exact hown') hgrow) ((Below.refl B W).grown hgrow (Nat.le_trans hBs hb.size) (fun k hk => (hown.lt k hk).1)) hgrow
def KeyedR (K : Nat → ByteArray) (i : Nat) (es : List EntD) : Prop := TabR es ∧ es.length ≤ i ∧ (∀ e ∈ es, ∃ m, m < i ∧ e.key = K m) ∧ ∀ e ∈ es, e.val.til ≤ 40
theorem keyedR_zero (K : Nat → ByteArray) : KeyedR K 0 [] := ⟨⟨Nat.zero_le _, fun j hj => absurd hj (by simp)⟩, by simp, fun e he => absurd he List.not_mem_nil, fun e he => absurd he List.not_mem_nil⟩
theorem keyedR_skip {K : Nat → ByteArray} {i : Nat} {es : List EntD} (h : KeyedR K i es) : KeyedR K (i + 1) es := by
  obtain ⟨h1, h2, h3, h4⟩ := h
  exact ⟨h1, by omega, fun e he => by obtain ⟨m, hm, e⟩ := h3 e he; exact ⟨m, by omega, e⟩, h4⟩
theorem keyedR_put {K : Nat → ByteArray} {i : Nat} {es : List EntD} {v : ValD} (h : KeyedR K i es) (hi : i < 20) (hk : 1 ≤ (K i).size ∧ (K i).size ≤ 20) (hl : ∀ m, m < i → Op.bytesLess (K m).toList (K i).toList = true) (hv : ValR v) (hu : v.til ≤ 40) : KeyedR K (i + 1) (es ++ [⟨K i, v⟩]) := by
  obtain ⟨h1, h2, h3, h4⟩ := h
  refine ⟨⟨by simp; omega, fun j hj hj2 => ?_⟩, by simp; omega, fun e he => ?_, fun e he => ?_⟩
  · simp only [List.length_append, List.length_cons, List.length_nil] at hj
    by_cases hl2 : j < es.length
    · obtain ⟨g1, g2, g3⟩ := entsR_of h1 j hl2
      rw [List.getElem_append_left hl2]
      refine ⟨g1, g2, fun h0 => ?_⟩
      rw [List.getElem_append_left (by omega)]
      exact g3 h0
    · have e : j = es.length := by omega
      rw [List.getElem_append_right (by omega)]
      simp only [e, Nat.sub_self, List.getElem_cons_zero]
      refine ⟨hk, hv, fun h0 => ?_⟩
      rw [List.getElem_append_left (by omega)]
      obtain ⟨m, hm, e2⟩ := h3 es[es.length - 1] (List.getElem_mem _)
      rw [e2]
      exact hl m hm
  · rcases List.mem_append.1 he with he | he
    · obtain ⟨m, hm, e⟩ := h3 e he
      exact ⟨m, by omega, e⟩
    · obtain rfl : e = ⟨K i, v⟩ := by simpa using he
      exact ⟨i, by omega, rfl⟩
  · rcases List.mem_append.1 he with he | he
    · exact h4 e he
    · obtain rfl : e = ⟨K i, v⟩ := by simpa using he
      exact hu
def nmD : Nat → ByteArray
  | 0 => ⟨#[102]⟩
  | 1 => ⟨#[103]⟩
  | 2 => ⟨#[104]⟩
  | _ => ⟨#[105]⟩
theorem nmD_size (i : Nat) : (nmD i).size = 1 := by
  unfold nmD
  split <;> rfl
theorem nmD_less (i j : Nat) (hij : i < j) (hj : j < 4) : Op.bytesLess (nmD i).toList (nmD j).toList = true := by
  rw [ByteArray.toList_eq, ByteArray.toList_eq]
  have : (i = 0 ∧ j = 1) ∨ (i = 0 ∧ j = 2) ∨ (i = 0 ∧ j = 3) ∨ (i = 1 ∧ j = 2) ∨ (i = 1 ∧ j = 3) ∨ (i = 2 ∧ j = 3) := by omega
  rcases this with ⟨rfl, rfl⟩ | ⟨rfl, rfl⟩ | ⟨rfl, rfl⟩ | ⟨rfl, rfl⟩ | ⟨rfl, rfl⟩ | ⟨rfl, rfl⟩ <;> rfl
def SetR (i : Nat) (acc : List ByteArray) : Prop := i ≤ 4 ∧ acc.length ≤ i ∧ (0 < i → 0 < acc.length) ∧ Small acc ∧ Asc acc ∧ ∀ x ∈ acc, ∃ m, m < i ∧ x = nmD m
def FldR (i : Nat) (acc : List ByteArray) : Prop := i ≤ 4 ∧ acc.length ≤ 2 * i ∧ acc.length % 2 = 0 ∧ (0 < i → 0 < acc.length) ∧ Small acc ∧ AscF acc ∧ ∀ j (h : j < acc.length), j % 2 = 0 → ∃ m, m < i ∧ acc[j] = nmD m
theorem setR_zero : SetR 0 [] := ⟨by omega, by simp, fun h => absurd h (by omega), fun s hs => absurd hs List.not_mem_nil, fun j h => absurd h (by simp), fun x hx => absurd hx List.not_mem_nil⟩
theorem fldR_zero : FldR 0 [] := ⟨by omega, by simp, by simp, fun h => absurd h (by omega), fun s hs => absurd hs List.not_mem_nil, fun j h => absurd h (by simp), fun j h => absurd h (by simp)⟩
theorem setR_skip {i : Nat} {acc : List ByteArray} (h : SetR i acc) (h0 : 0 < i) (hi : i < 4) : SetR (i + 1) acc := by
  obtain ⟨h1, h2, h3, h4, h5, h6⟩ := h
  exact ⟨by omega, by omega, fun _ => h3 h0, h4, h5, fun x hx => by obtain ⟨m, hm, e⟩ := h6 x hx; exact ⟨m, by omega, e⟩⟩
theorem fldR_skip {i : Nat} {acc : List ByteArray} (h : FldR i acc) (h0 : 0 < i) (hi : i < 4) : FldR (i + 1) acc := by
  obtain ⟨h1, h2, h3, h4, h5, h6, h7⟩ := h
  exact ⟨by omega, by omega, h3, fun _ => h4 h0, h5, h6, fun j hj he => by obtain ⟨m, hm, e⟩ := h7 j hj he; exact ⟨m, by omega, e⟩⟩
theorem setR_put {i : Nat} {acc : List ByteArray} (h : SetR i acc) (hi : i < 4) : SetR (i + 1) (acc ++ [nmD i]) := by
  obtain ⟨h1, h2, h3, h4, h5, h6⟩ := h
  refine ⟨by omega, by simp; omega, fun _ => by simp, fun s hs => ?_, fun j hj => ?_, fun x hx => ?_⟩
  · rcases List.mem_append.1 hs with hs | hs
    · exact h4 s hs
    · obtain rfl : s = nmD i := by simpa using hs
      rw [nmD_size]; omega
  · simp only [List.length_append, List.length_cons, List.length_nil] at hj
    by_cases hl : j + 1 < acc.length
    · rw [List.getElem_append_left (by omega), List.getElem_append_left hl]
      exact h5 j hl
    · have e : j + 1 = acc.length := by omega
      rw [List.getElem_append_left (by omega), List.getElem_append_right (by omega)]
      simp only [e, Nat.sub_self, List.getElem_cons_zero]
      obtain ⟨m, hm, e2⟩ := h6 acc[j] (List.getElem_mem _)
      rw [e2]
      exact nmD_less m i hm hi
  · rcases List.mem_append.1 hx with hx | hx
    · obtain ⟨m, hm, e⟩ := h6 x hx
      exact ⟨m, by omega, e⟩
    · obtain rfl : x = nmD i := by simpa using hx
      exact ⟨i, by omega, rfl⟩
theorem fldR_put {i : Nat} {acc : List ByteArray} {y : ByteArray} (h : FldR i acc) (hi : i < 4) (hy : y.size ≤ 60) : FldR (i + 1) (acc ++ [nmD i] ++ [y]) := by
  obtain ⟨h1, h2, h3, h4, h5, h6, h7⟩ := h
  have e0 : acc ++ [nmD i] ++ [y] = acc ++ [nmD i, y] := by simp
  rw [e0]
  refine ⟨by omega, by simp; omega, by simp; omega, fun _ => by simp, fun s hs => ?_, fun j hj he => ?_, fun j hj he => ?_⟩
  · rcases List.mem_append.1 hs with hs | hs
    · exact h5 s hs
    · simp only [List.mem_cons, List.not_mem_nil, or_false] at hs
      rcases hs with rfl | rfl
      · rw [nmD_size]; omega
      · exact hy
  · simp only [List.length_append, List.length_cons, List.length_nil] at hj
    by_cases hl : j + 2 < acc.length
    · rw [List.getElem_append_left (by omega), List.getElem_append_left hl]
      exact h6 j hl he
    · have e : j + 2 = acc.length := by omega
      rw [List.getElem_append_left (by omega), List.getElem_append_right (by omega)]
      simp only [e, Nat.sub_self, List.getElem_cons_zero]
      obtain ⟨m, hm, e2⟩ := h7 j (by omega) he
      rw [e2]
      exact nmD_less m i hm hi
  · simp only [List.length_append, List.length_cons, List.length_nil] at hj
    by_cases hl : j < acc.length
    · rw [List.getElem_append_left hl]
      obtain ⟨m, hm, e⟩ := h7 j hl he
      exact ⟨m, by omega, e⟩
    · have e : j = acc.length := by omega
      rw [List.getElem_append_right (by omega)]
      simp only [e, Nat.sub_self, List.getElem_cons_zero]
      exact ⟨i, by omega, rfl⟩
theorem setR_end {u : Int} {acc : List ByteArray} (h : SetR 4 acc) (h0 : 0 ≤ u) (h1 : u ≤ 100000) : ValR ⟨4, u, ⟨#[]⟩, acc⟩ := by
  obtain ⟨-, g2, g3, g4, g5, -⟩ := h
  exact ⟨h0, h1, .inr (.inr (.inr ⟨rfl, rfl, ⟨g3 (by omega), by show acc.length ≤ 24; omega, g4⟩, g5⟩))⟩
theorem fldR_end {u : Int} {acc : List ByteArray} (h : FldR 4 acc) (h0 : 0 ≤ u) (h1 : u ≤ 100000) : ValR ⟨3, u, ⟨#[]⟩, acc⟩ := by
  obtain ⟨-, g2, g3, g4, g5, g6, -⟩ := h
  exact ⟨h0, h1, .inr (.inr (.inl ⟨rfl, rfl, ⟨g4 (by omega), by show acc.length ≤ 24; omega, g5⟩, g3, g6⟩))⟩
theorem listR_end {u : Int} {acc : List ByteArray} (hl : 1 ≤ acc.length) (hm : acc.length ≤ 24) (hs : Small acc) (h0 : 0 ≤ u) (h1 : u ≤ 100000) : ValR ⟨2, u, ⟨#[]⟩, acc⟩ :=
  ⟨h0, h1, .inr (.inl ⟨rfl, rfl, hl, hm, hs⟩)⟩
theorem textR_end {u : Int} {s : ByteArray} (hs : s.size ≤ 60) (h0 : 0 ≤ u) (h1 : u ≤ 100000) : ValR ⟨1, u, s, []⟩ :=
  ⟨h0, h1, .inl ⟨rfl, rfl, hs⟩⟩
theorem pickText_any (w0 w : World) (g b : Nat) (ao : Option Addr) (len cap n : Nat) (zs : List ByteArray) (hlen : len ≤ 1048576) (hcode : Code w0 ao len) (hc : CurAt w0 w g ao len cap) (hne : b ≠ g)
    (hzs : zs.length = n) (hn0 : 0 < n) (hn : n ≤ 1000) (hcells : ∀ j z, zs[j]? = some z → w.cell? ⟨b, j, none⟩ = some (.string z)) :
    Calls Tryz.prog 40 #[.pointer (some ⟨g, 0, none⟩), .slice (some ⟨b, 0, none⟩) n n] w fun e w' => ∃ z : ByteArray, e = .returned (.string z) ∧ z ∈ zs ∧ CurAt w0 w' g ao len cap ∧ w.grownBy w' (some g) := by
  have HC := hide hcode
  have HU := hide hc
  have HZ := hide hcells
  have HN := hide hzs
  clear hcode hc hcells hzs
  go_enter Tryz.func40, Tryz.ntmps40
  go_wp2_with fail
  refine (below_any w0 _ g ao len cap _ hlen (by omega) HC.out HU.out).mono ?_
  rintro e w1 ⟨x, rfl, hx, _, hc1, g1⟩
  have hxn : (x : Int) < (n : Int) := hx (by omega)
  have hx0 : (0 : Int) ≤ (x : Int) := by omega
  have hxl : x < zs.length := by rw [HN.out]; omega
  have hcell : w1.cell? ⟨b, x, none⟩ = some (.string zs[x]) := g1.cell (HZ.out x zs[x] (List.getElem?_eq_getElem hxl)) (by intro e; simp at e; exact hne e)
  have HU1 := hide hc1
  have G1 := hide g1
  have HM := hide (List.getElem_mem hxl)
  generalize zs[x] = Z at hcell HM
  clear hc1 g1 hx
  go_wp2
  go_ret
  exact ⟨Z, rfl, HM.out, HU1.out, G1.out⟩
theorem texts_cells {w : World} {b : Nat} {T : TypeId} (zs : List ByteArray) (h : w.heap[b]? = some (.cells (zs.map Value.string).toArray T (0, 0))) : ∀ j z, zs[j]? = some z → w.cell? ⟨b, j, none⟩ = some (.string z) := by
  intro j z hz
  rw [cell_of_row w b j _ _ (0, 0) h, List.getElem?_toArray, List.getElem?_map, hz]
  rfl
theorem big_any (w : World) (ao : Option Addr) (len cap : Nat) :
    Calls Tryz.prog 7 #[.slice ao len cap] w fun e w' => e = .returned (.bool (decide (1048576 < (len : Int)))) ∧ w' = w := by
  go_enter Tryz.func7, Tryz.ntmps7
  go_wp2
  go_ret
  exact ⟨rfl, rfl⟩
end Go.Proofs.YtifjneldjjmeaaaGreatDoor
