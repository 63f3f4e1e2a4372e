import Derived.Deep.Upon
import Derived.Lib.SmallJoins
import Derived.OpenShut
import Derived.Maps.AppendAt
import Derived.Test.YtdefipahgpljeaaDoorRq1
import Derived.Test.YtdefipahgpljeaaDoorRq0
set_option maxRecDepth 100000
set_option maxHeartbeats 6400000
namespace Go.Proofs.YtdefipahgpljeaaDoor
open Go.RowKit
def cmdsL : List ByteArray := [⟨#[80, 73, 78, 71]⟩, ⟨#[69, 67, 72, 79]⟩, ⟨#[71, 69, 84]⟩, ⟨#[83, 69, 84]⟩, ⟨#[83, 69, 84, 78, 88]⟩, ⟨#[71, 69, 84, 83, 69, 84]⟩, ⟨#[65, 80, 80, 69, 78, 68]⟩, ⟨#[83, 84, 82, 76, 69, 78]⟩, ⟨#[73, 78, 67, 82]⟩, ⟨#[68, 69, 67, 82]⟩, ⟨#[73, 78, 67, 82, 66, 89]⟩, ⟨#[68, 69, 67, 82, 66, 89]⟩, ⟨#[77, 71, 69, 84]⟩, ⟨#[77, 83, 69, 84]⟩, ⟨#[68, 69, 76]⟩, ⟨#[69, 88, 73, 83, 84, 83]⟩, ⟨#[84, 89, 80, 69]⟩, ⟨#[69, 88, 80, 73, 82, 69]⟩, ⟨#[84, 84, 76]⟩, ⟨#[80, 69, 82, 83, 73, 83, 84]⟩, ⟨#[75, 69, 89, 83]⟩, ⟨#[68, 66, 83, 73, 90, 69]⟩, ⟨#[70, 76, 85, 83, 72, 65, 76, 76]⟩, ⟨#[76, 80, 85, 83, 72]⟩, ⟨#[82, 80, 85, 83, 72]⟩, ⟨#[76, 80, 79, 80]⟩, ⟨#[82, 80, 79, 80]⟩, ⟨#[76, 76, 69, 78]⟩, ⟨#[76, 82, 65, 78, 71, 69]⟩, ⟨#[76, 73, 78, 68, 69, 88]⟩, ⟨#[72, 83, 69, 84]⟩, ⟨#[72, 71, 69, 84]⟩, ⟨#[72, 68, 69, 76]⟩, ⟨#[72, 76, 69, 78]⟩, ⟨#[72, 71, 69, 84, 65, 76, 76]⟩, ⟨#[72, 75, 69, 89, 83]⟩, ⟨#[83, 65, 68, 68]⟩, ⟨#[83, 82, 69, 77]⟩, ⟨#[83, 73, 83, 77, 69, 77, 66, 69, 82]⟩, ⟨#[83, 67, 65, 82, 68]⟩, ⟨#[83, 77, 69, 77, 66, 69, 82, 83]⟩]
theorem cmdsL_size : ∀ z ∈ cmdsL, z.size ≤ 60 := by decide
theorem cmds_any (w : World) : Calls Tryd.prog 26 #[] w fun e w' => e = .returned (.slice (some ⟨w.heap.size, 0, none⟩) 41 41) ∧ w' = w.alloc (.cells (cmdsL.map Value.string).toArray 9) := by
  go_enter Tryd.func26, Tryd.ntmps26
  go_wp2
  go_ret
  exact ⟨rfl, rfl⟩
theorem own_of {w : World} {B k n : Nat} {C : Array Value} (zs : List ByteArray) (h : w.heap[k]? = some (.cells C 9 (0, 0))) (hC : C = (zs.map Value.string).toArray) (hn : zs.length = n) (hB : B ≤ k) (hl : n ≤ 1000) : w.ownsRow B 9 1 (.slice (some ⟨k, 0, none⟩) n n) zs.length (zs.map Value.string) := by
  subst hC hn
  refine ⟨by simp, .inr ⟨k, zs.length, _, rfl, hB, h, Nat.le_refl _, by unfold maxLen; omega, by simp, ?_⟩⟩
  rw [List.take_of_length_le (by simp)]
theorem own_cut {w : World} {B k c : Nat} {P : List ByteArray} {y : ByteArray} (h : w.ownsRow B 9 1 (.slice (some ⟨k, 0, none⟩) (P.length + 1) c) (P ++ [y]).length ((P ++ [y]).map Value.string)) : w.ownsRow B 9 1 (.slice (some ⟨k, 0, none⟩) P.length c) P.length (P.map Value.string) := by
  refine ⟨by simp, ?_⟩
  rcases h.2 with ⟨e, _⟩ | ⟨g, cap, cur, e, hB, hC, hle, hm, hs, ht⟩
  · simp at e
  · rw [List.length_append, List.length_cons, List.length_nil, Nat.zero_add] at e hle ht
    cases e
    refine .inr ⟨k, c, cur, rfl, hB, hC, by omega, hm, hs, ?_⟩
    have := congrArg (List.take P.length) ht
    rw [List.take_take, Nat.min_eq_left (by omega)] at this
    simpa using this
theorem own_cap {w : World} {B k n c m : Nat} {xs : List Value} (h : w.ownsRow B 9 1 (.slice (some ⟨k, 0, none⟩) n c) m xs) (hn : n = m) : n ≤ c := by
  rcases h.2 with ⟨e, _⟩ | ⟨g, cap, cur, e, _, _, hle, _⟩
  · simp at e
  · simp at e
    omega
theorem stO_cut {w0 w wr : World} {g : Nat} {ao : Option Addr} {len cap k c : Nat} {P : List ByteArray} {y : ByteArray} (h : StO w0 w wr g ao len cap (.slice (some ⟨k, 0, none⟩) (P.length + 1) c) (P ++ [y])) : StO w0 w wr g ao len cap (.slice (some ⟨k, 0, none⟩) P.length c) P := ⟨h.1, h.2.1, h.2.2.1, own_cut h.2.2.2⟩
theorem app_rest {ops : Array Oper} {rest : List Oper} {o : Oper} {a : Act} {Q : Exit → Act → World → Prop} (W : World) (B : Nat) (hgd : o.guard = none) (s y : Operand)
    (ho : o.op = .call { callee := .builtin .append, args := #[s, y], argTypes := #[29, 29] }) (kb c0 n0 : Nat) (l rs : List ByteArray) (hs : a.eval s = .slice (some ⟨kb, 0, none⟩) n0 c0) (hn0 : n0 = l.length)
    (hown : W.ownsRow B 9 1 (.slice (some ⟨kb, 0, none⟩) n0 c0) l.length (l.map Value.string)) (k c m B2 : Nat) (hx : a.eval y = .slice (some ⟨k, 0, none⟩) m c) (hm : m = rs.length) (hown2 : W.ownsRow B2 9 1 (.slice (some ⟨k, 0, none⟩) m c) rs.length (rs.map Value.string))
    (hlen : n0 + m ≤ 1048576) (hbase : B ≤ W.heap.size)
    (h : ∀ g cap w', w'.ownsRow B 9 1 (.slice (some ⟨g, 0, none⟩) (n0 + m) cap) (l ++ rs).length ((l ++ rs).map Value.string) → Below B W w' → wpList Tryd.prog ops Q rest (a.put o.dst (.slice (some ⟨g, 0, none⟩) (n0 + m) cap)) w') :
    wpList Tryd.prog ops Q (o :: rest) a W := by
  obtain ⟨i0, hi, hz0, hz1, hz2⟩ := info_parts Tryd.infoText
  subst hn0 hm
  cases rs with
  | nil =>
    refine wpList_plain hgd fun K hK => ?_
    have hle : l.length ≤ c0 := by
      rcases hown.2 with ⟨e, _⟩ | ⟨g, cap, cur, e, _, _, hle, _⟩
      · simp at e
      · cases e; exact hle
    have hrun := run_append_nothing (P := Tryd.prog) W 29 29 o.type 9 i0 Tryd.underlying29 hi (some ⟨kb, 0, none⟩) l.length c0 hle (.slice (some ⟨k, 0, none⟩) 0 c) (Src.ofSlice W Tryd.underlying29 ⟨k, 0, none⟩ 0 c [] (by simp) (fun j u hj => by simp at hj) (fun u hu => by simp at hu))
    have hx0 : a.eval y = .slice (some ⟨k, 0, none⟩) 0 c := hx
    unfold Oper.wp
    simp [execOp, ho, resolve, invoke, builtin, hs, hx0, hrun, Result.andThen]
    refine hK _ _ (h kb c0 W ?_ (Below.refl _ _))
    rw [List.append_nil]
    exact hown
  | cons r0 rs =>
    refine wpList_append_lies W hgd s y 29 ho B 9 i0 (.string ⟨#[]⟩) 1 16 Tryd.underlying29 hi hz0 hz1 hz2 rfl (by decide) _ l.length (l.map Value.string) hs hown ⟨k, 0, none⟩ (r0 :: rs).length c ((r0 :: rs).map Value.string) hx (by rw [List.length_map]; omega)
      (fun j u hj => hown2.cells (g := k) rfl j u hj) (texts_one _) (by simp) (by unfold maxLen; omega) (by omega) hbase W.heap.size rfl ?_
    intro g cap w' hown' hgrow hg hgl
    have hlt := hown.lt
    refine h g cap w' ?_ ((Below.refl B W).grown hgrow hbase (fun k hk => (hlt k hk).1))
    rw [List.map_append, List.length_append]
    exact hown'
def CutR (w0 w wr : World) (g : Nat) (ao : Option Addr) (len cap : Nat) (v : Value) : Prop := ∃ (kb c : Nat) (P : List ByteArray) (y : ByteArray), v = .slice (some ⟨kb, 0, none⟩) (P.length + 1) c ∧ P.length ≤ 6 ∧ Hid (∀ z ∈ P ++ [y], z.size ≤ 60) ∧ Hid (StO w0 w wr g ao len cap (.slice (some ⟨kb, 0, none⟩) (P.length + 1) c) (P ++ [y]))
theorem cutR_of {w0 w wr : World} {g : Nat} {ao : Option Addr} {len cap kb n c : Nat} {acc : List ByteArray} (h : StO w0 w wr g ao len cap (.slice (some ⟨kb, 0, none⟩) n c) acc) (hn : n = acc.length) (h0 : 0 < n) (h7 : n ≤ 7) (hz : ∀ z ∈ acc, z.size ≤ 60) : CutR w0 w wr g ao len cap (.slice (some ⟨kb, 0, none⟩) n c) := by
  obtain ⟨P, y, rfl⟩ : ∃ P y, acc = P ++ [y] := ⟨acc.dropLast, acc.getLast (by intro e; subst e; simp at hn; omega), (List.dropLast_concat_getLast _).symm⟩
  rw [List.length_append, List.length_cons, List.length_nil, Nat.zero_add] at hn
  subst hn
  exact ⟨kb, c, P, y, rfl, by omega, hz, h⟩
theorem bnd_app {a b : List ByteArray} {n : Nat} (h : ∀ z ∈ a, z.size ≤ n) (hb : ∀ z ∈ b, z.size ≤ n) : ∀ z ∈ a ++ b, z.size ≤ n := by
  intro q hq
  rcases List.mem_append.1 hq with hq | hq
  · exact h q hq
  · exact hb q hq
theorem bnd_two {a : List ByteArray} {x y : ByteArray} {n : Nat} (h : ∀ z ∈ a, z.size ≤ n) (hx : x.size ≤ n) (hy : y.size ≤ n) : ∀ z ∈ a ++ [x, y], z.size ≤ n :=
  bnd_app h (by intro z hz; simp at hz; rcases hz with rfl | rfl <;> assumption)
def StN (w0 w wr : World) (g : Nat) (ao : Option Addr) (len cap : Nat) : Prop := CurAt w0 wr g ao len cap ∧ w.grownBy wr (some g)
theorem l11Args_any (w0 w : World) (g : Nat) (ao : Option Addr) (len cap : Nat) (hlen : len ≤ 1048576) (hcode : Code w0 ao len) (hc : CurAt w0 w g ao len cap) :
    Calls Tryd.prog 17 #[.pointer (some ⟨g, 0, none⟩)] w fun e w' => ∃ (k c : Nat) (ts : List ByteArray), e = .returned (.slice (some ⟨k, 0, none⟩) ts.length c) ∧ ts.length ≤ 8 ∧ (∀ z ∈ ts, z.size ≤ 60) ∧ StO w0 w w' g ao len cap (.slice (some ⟨k, 0, none⟩) ts.length c) ts := by
  have HPN := hide (fun W n C zs hC hzs hn0 hn hz (h : CurAt w0 W g ao len cap) => pickNew_any w0 W g ao len cap n C zs hC hzs hn0 hn hz hlen hcode h)
  have HBE := hide (fun W (n : Int) (hn : n ≤ 4611686018427387904) (h : CurAt w0 W g ao len cap) => below_any w0 W g ao len cap n hlen hn hcode h)
  have HON := hide (fun W (n : Int) (hn : n ≤ 4611686018427387904) (h : CurAt w0 W g ao len cap) => once_any w0 W g ao len cap n hlen hn hcode h)
  have HWO := hide (fun W (h : CurAt w0 W g ao len cap) => word_any w0 W g ao len cap hlen hcode h)
  have HKE := hide (fun W (h : CurAt w0 W g ao len cap) => key_any w0 W g ao len cap hlen hcode h)
  have HRE := hide (fun W nm (h : CurAt w0 W g ao len cap) => l11Rest_any w0 W g ao len cap nm hlen hcode h)
  have hg := cur_lt hc
  have HU := hide hc
  clear hcode hc
  obtain ⟨wb, hwb⟩ : ∃ wb, wb = w.alloc (.cells (cmdsL.map Value.string).toArray 9) := ⟨_, rfl⟩
  have BB : Hid (Below w.heap.size w wb) := by rw [hwb]; exact (Below.refl _ w).alloc (Nat.le_refl _) _
  have PB : Hid (wb.heap[w.heap.size]? = some (.cells (cmdsL.map Value.string).toArray 9 (0, 0))) := by rw [hwb]; exact heap_alloc_new _ _
  have UB := hide (cur_keep HU.out BB.out hg)
  have HCM := hide (cmds_any w)
  rw [← hwb] at HCM
  clear hwb
  go_enter Tryd.func17, Tryd.ntmps17
  go_wp2_with fail
  refine HCM.out.mono ?_
  rintro e w1 ⟨rfl, e1⟩
  obtain rfl := e1.symm
  go_wp2_with fail
  refine (HBE.out _ 41 (by omega) UB.out).mono ?_
  rintro e w2 ⟨x, rfl, hx, -, c2, g2⟩
  have hx41 : x < 41 := by have := hx (by omega); omega
  have hxi0 : (0 : Int) ≤ (x : Int) := by omega
  have hxi1 : (x : Int) < 41 := by omega
  have U2 := hide c2
  have G2 := hide ((grownBy_below (some g) BB.out).trans g2)
  obtain ⟨n0, hn0, hn1⟩ : ∃ n0 : ByteArray, w2.cell? ⟨w.heap.size, x, none⟩ = some (.string n0) ∧ n0.size ≤ 60 := by
    have hl : x < cmdsL.length := hx41
    exact ⟨cmdsL[x], g2.cell (texts_cells cmdsL PB.out x _ (List.getElem?_eq_getElem hl)) (by intro e; simp at e; omega), cmdsL_size _ (List.getElem_mem hl)⟩
  clear c2 g2 hx
  go_wp2_with fail
  refine (HON.out _ 3 (by omega) U2.out).mono ?_
  rintro e w3 ⟨b, rfl, c3, g3⟩
  have S3 : Hid (StN w0 w w3 g ao len cap) := ⟨c3, G2.out.trans g3⟩
  clear c3 g3 U2 G2 hn0
  go_upto_if 17 with fail
  go_cut [4] (fun vn wx => ∃ nm : ByteArray, vn = .string nm ∧ nm.size ≤ 60 ∧ Hid (StN w0 w wx g ao len cap))
  case first =>
    cases b
    · go_wp2
      go_meet
      exact ⟨n0, rfl, hn1, S3⟩
    · go_wp2_with fail
      refine (HPN.out w3 10 _ [⟨#[83, 69, 84]⟩, ⟨#[71, 69, 84]⟩, ⟨#[76, 80, 85, 83, 72]⟩, ⟨#[72, 83, 69, 84]⟩, ⟨#[83, 65, 68, 68]⟩, ⟨#[73, 78, 67, 82]⟩, ⟨#[69, 88, 80, 73, 82, 69]⟩, ⟨#[68, 69, 76]⟩, ⟨#[84, 84, 76]⟩, ⟨#[65, 80, 80, 69, 78, 68]⟩] rfl rfl (by omega) (by omega) (by decide) S3.out.1).mono ?_
      rintro e w4 ⟨z, rfl, hz, c4, g4⟩
      have S4 : Hid (StN w0 w w4 g ao len cap) := ⟨c4, S3.out.2.trans g4⟩
      clear c4 g4
      go_wp2
      go_meet
      exact ⟨z, rfl, hz, S4⟩
  case rest =>
  obtain ⟨nm, rfl, hnm, S5⟩ := hcut
  clear S3 hn1
  obtain ⟨kb, hkb⟩ : ∃ kb, kb = wc.heap.size := ⟨_, rfl⟩
  have hkw : w.heap.size ≤ kb := by rw [hkb]; exact S5.out.2.size
  obtain ⟨w6, hw6⟩ : ∃ w6, w6 = wc.alloc (.cells #[.string nm] 9) := ⟨_, rfl⟩
  have P6 : Hid (w6.heap[kb]? = some (.cells #[.string nm] 9 (0, 0))) := by rw [hw6, hkb]; exact heap_alloc_new _ _
  have S6 : Hid (StN w0 w w6 g ao len cap) := by
    have hb : Below wc.heap.size wc w6 := by rw [hw6]; exact (Below.refl _ wc).alloc (Nat.le_refl _) _
    exact ⟨cur_keep S5.out.1 hb (cur_lt S5.out.1), grownBy_then S5.out.2 (hb.mono S5.out.2.size)⟩
  go_wp2_with fail
  rw [← hw6, ← hkb]
  clear hw6 hkb S5
  refine (HON.out _ 8 (by omega) S6.out.1).mono ?_
  rintro e w7 ⟨b, rfl, c7, g7⟩
  have P7 : Hid (w7.heap[kb]? = some (.cells #[.string nm] 9 (0, 0))) := (g7.block kb (Array.getElem?_eq_some_iff.1 P6.out).1 (by simp; omega)).trans P6.out
  have S7 : Hid (StN w0 w w7 g ao len cap) := ⟨c7, S6.out.2.trans g7⟩
  clear c7 g7 S6 P6
  go_upto_if 24 with fail
  go_cut [5] (fun vo wx => vo = .slice (some ⟨kb, 0, none⟩) 1 1 ∧ ∃ q : ByteArray, q.size ≤ 60 ∧ Hid (wx.heap[kb]? = some (.cells #[.string q] 9 (0, 0))) ∧ Hid (StN w0 w wx g ao len cap))
  case first =>
    cases b
    · go_wp2
      go_meet
      exact ⟨rfl, nm, hnm, P7, S7⟩
    · go_wp2_with fail
      refine (HPN.out w7 6 _ [⟨#[103, 101, 116]⟩, ⟨#[83, 101, 116]⟩, ⟨#[110, 111, 112, 101]⟩, ⟨#[77, 85, 76, 84, 73]⟩, ⟨#[69, 88, 69, 67]⟩, ⟨#[]⟩] rfl rfl (by omega) (by omega) (by decide) S7.out.1).mono ?_
      rintro e w8 ⟨z, rfl, hz, c8, g8⟩
      have P8 := (g8.block kb (Array.getElem?_eq_some_iff.1 P7.out).1 (by simp; omega)).trans P7.out
      have hq0 := cur_cell P8 0 _ rfl
      have hf0 := frozen_of_row w8 kb 0 _ _ P8
      have P9 : Hid ((w8.setCell ⟨kb, 0, none⟩ (.string z)).heap[kb]? = some (.cells #[.string z] 9 (0, 0))) := (heap_setCell_same _ _ _ _ _ _ P8).trans rfl
      have S9 : Hid (StN w0 w (w8.setCell ⟨kb, 0, none⟩ (.string z)) g ao len cap) := by
        have hb : Below w.heap.size w8 (w8.setCell ⟨kb, 0, none⟩ (.string z)) := (Below.refl _ w8).setCell (p := ⟨kb, 0, none⟩) hkw _
        exact ⟨cur_keep c8 hb hg, grownBy_then (S7.out.2.trans g8) hb⟩
      clear c8 g8 P8
      go_wp2
      go_meet
      exact ⟨rfl, z, hz, P9, S9⟩
  case rest =>
  obtain ⟨rfl, q, hq, P10, S10⟩ := hcut
  clear S7 P7
  have SO : Hid (StO w0 w wc g ao len cap (.slice (some ⟨kb, 0, none⟩) 1 1) [q]) := ⟨S10.out.1, S10.out.2, hg, own_of [q] P10.out rfl rfl hkw (by omega)⟩
  clear S10 P10
  have HQ : Hid (∀ z ∈ [q], z.size ≤ 60) := fun z hz => (by obtain rfl : z = q := (by simpa using hz); exact hq)
  go_upto_block 0 with fail
  go_cut [5, 6, 7, 41, 46, 53, 69] (fun v5 _ _ _ _ _ _ wx => CutR w0 w wx g ao len cap v5)
  case first =>
    have X0 : (((nm.toList == [80, 73, 78, 71]) = true) ∨ ((nm.toList == [80, 73, 78, 71]) = false ∧ (nm.toList == [75, 69, 89, 83]) = true) ∨ ((nm.toList == [80, 73, 78, 71]) = false ∧ (nm.toList == [75, 69, 89, 83]) = false ∧ (nm.toList == [68, 66, 83, 73, 90, 69]) = true) ∨ ((nm.toList == [80, 73, 78, 71]) = false ∧ (nm.toList == [75, 69, 89, 83]) = false ∧ (nm.toList == [68, 66, 83, 73, 90, 69]) = false ∧ (nm.toList == [70, 76, 85, 83, 72, 65, 76, 76]) = true)) ∨ ((nm.toList == [80, 73, 78, 71]) = false ∧ (nm.toList == [75, 69, 89, 83]) = false ∧ (nm.toList == [68, 66, 83, 73, 90, 69]) = false ∧ (nm.toList == [70, 76, 85, 83, 72, 65, 76, 76]) = false) := by
      generalize (nm.toList == [80, 73, 78, 71]) = bPING
      generalize (nm.toList == [75, 69, 89, 83]) = bKEYS
      generalize (nm.toList == [68, 66, 83, 73, 90, 69]) = bDBSIZE
      generalize (nm.toList == [70, 76, 85, 83, 72, 65, 76, 76]) = bFLUSHALL
      revert bPING bKEYS bDBSIZE bFLUSHALL; decide
    rcases X0 with X0 | X0
    · rcases X0 with e0 | ⟨e0, e1⟩ | ⟨e0, e1, e2⟩ | ⟨e0, e1, e2, e3⟩
      all_goals
        go_wp2
        go_meet
        exact cutR_of SO.out rfl (by omega) (by omega) HQ.out
    obtain ⟨f0_0, f0_1, f0_2, f0_3⟩ := X0
    have X1 : (((nm.toList == [69, 67, 72, 79]) = true)) ∨ ((nm.toList == [69, 67, 72, 79]) = false) := by
      generalize (nm.toList == [69, 67, 72, 79]) = bECHO
      revert bECHO; decide
    rcases X1 with X1 | X1
    · have e0 := X1
      go_wp2_with fail
      refine (HWO.out _ SO.out.1).mono ?_
      rintro e wd ⟨z, rfl, hz, c8, g8⟩
      have S8 := hide (stO_call SO.out c8 g8)
      have hs8 := S8.out.2.1.size
      clear c8 g8
      go_wp2_with (at_builtin; refine app_rest _ w.heap.size (by rfl) _ _ (by rfl) kb 1 1 [q] [z] (by rfl) (by rfl) (S8.out.2.2.2.alloc _) wd.heap.size 1 1 0 (by simp [Act.eval]) (by rfl) (own_new wd 0 1 _ [z] rfl rfl (Nat.zero_le _) (by omega)) (by omega) (by simp; omega) ?_; intro g9 cap9 w9 ho9 hb9; have S9 := hide (stO_row S8.out (((Below.refl _ wd).alloc hs8 _).trans hb9) ho9); clear ho9 hb9)
      go_meet
      exact cutR_of S9.out rfl (by omega) (by omega) (bnd_snoc HQ.out hz)
    have f1_0 := X1
    clear X1
    have X2 : (((nm.toList == [77, 71, 69, 84]) = true) ∨ ((nm.toList == [77, 71, 69, 84]) = false ∧ (nm.toList == [68, 69, 76]) = true) ∨ ((nm.toList == [77, 71, 69, 84]) = false ∧ (nm.toList == [68, 69, 76]) = false ∧ (nm.toList == [69, 88, 73, 83, 84, 83]) = true)) ∨ ((nm.toList == [77, 71, 69, 84]) = false ∧ (nm.toList == [68, 69, 76]) = false ∧ (nm.toList == [69, 88, 73, 83, 84, 83]) = false) := by
      generalize (nm.toList == [77, 71, 69, 84]) = bMGET
      generalize (nm.toList == [68, 69, 76]) = bDEL
      generalize (nm.toList == [69, 88, 73, 83, 84, 83]) = bEXISTS
      revert bMGET bDEL bEXISTS; decide
    rcases X2 with X2 | X2
    · rcases X2 with e0 | ⟨e0, e1⟩ | ⟨e0, e1, e2⟩
      all_goals
        go_wp2_with fail
        go_loopw [5, 6] (fun v5 ii wr => ∃ (k n kx cx : Nat) (acc : List ByteArray), v5 = .slice (some ⟨kx, 0, none⟩) n cx ∧ ii = .int .i64 (k : Int) ∧ k ≤ 3 ∧ 1 ≤ n ∧ n ≤ 1 + k ∧ Hid (n = acc.length) ∧ Hid (∀ z ∈ acc, z.size ≤ 60) ∧ Hid (StO w0 w wr g ao len cap (.slice (some ⟨kx, 0, none⟩) n cx) acc)) (fun _ ii _ => 4 - (intOf ii).toNat)
        case atStart => exact ⟨0, 1, kb, 1, [q], rfl, rfl, by omega, by omega, by omega, rfl, HQ, SO⟩
        case round =>
          obtain ⟨k, n, kx, cx, acc, rfl, rfl, hk, hn1, hnk, HN, HZ, HS⟩ := hrel
          clear SO
          go_wp2_with fail
          refine (HBE.out _ 3 (by omega) HS.out.1).mono ?_
          rintro e wf ⟨xx, rfl, hxx, -, c7, g7⟩
          have hx3 : xx < 3 := by have := hxx (by omega); omega
          have S7 := hide (stO_call HS.out c7 g7)
          clear c7 g7 hxx HS
          by_cases hlt : k < 1 + xx
          · have hlt' : decide ((k : Int) < 1 + (xx : Int)) = true := by simp; omega
            go_wp2_with fail
            refine (HKE.out _ S7.out.1).mono ?_
            rintro e we ⟨z, rfl, hz0, c8, g8⟩
            have hz : z.size ≤ 60 := by omega
            have S8 := hide (stO_call S7.out c8 g8)
            have hs8 := S8.out.2.1.size
            clear c8 g8 S7 hz0
            go_wp2_with (at_builtin; refine app_rest _ w.heap.size (by rfl) _ _ (by rfl) kx cx n acc [z] (by rfl) HN.out (S8.out.2.2.2.alloc _) we.heap.size 1 1 0 (by simp [Act.eval]) (by rfl) (own_new we 0 1 _ [z] rfl rfl (Nat.zero_le _) (by omega)) (by omega) (by simp; omega) ?_; intro g9 cap9 w9 ho9 hb9; have S9 := hide (stO_row S8.out (((Below.refl _ we).alloc hs8 _).trans hb9) ho9); clear ho9 hb9)
            go_roundw
            case rel => exact ⟨k + 1, n + 1, g9, cap9, acc ++ [z], rfl, by go_num, by omega, by omega, by omega, (by show _ = _; rw [List.length_append, ← HN.out]; rfl), bnd_snoc HZ.out hz, S9⟩
            case measure => simp [intOf]; omega
          · have hlt' : decide ((k : Int) < 1 + (xx : Int)) = false := by simp; omega
            go_wp2
            go_meet
            exact cutR_of S7.out HN.out (by omega) (by omega) HZ.out
    obtain ⟨f2_0, f2_1, f2_2⟩ := X2
    have X3 : (((nm.toList == [77, 83, 69, 84]) = true)) ∨ ((nm.toList == [77, 83, 69, 84]) = false) := by
      generalize (nm.toList == [77, 83, 69, 84]) = bMSET
      revert bMSET; decide
    rcases X3 with X3 | X3
    · have e0 := X3
      go_wp2_with fail
      go_loopw [5, 7] (fun v5 ii wr => ∃ (k n kx cx : Nat) (acc : List ByteArray), v5 = .slice (some ⟨kx, 0, none⟩) n cx ∧ ii = .int .i64 (k : Int) ∧ k ≤ 3 ∧ 1 ≤ n ∧ n ≤ 1 + 2 * k ∧ Hid (n = acc.length) ∧ Hid (∀ z ∈ acc, z.size ≤ 60) ∧ Hid (StO w0 w wr g ao len cap (.slice (some ⟨kx, 0, none⟩) n cx) acc)) (fun _ ii _ => 4 - (intOf ii).toNat)
      case atStart => exact ⟨0, 1, kb, 1, [q], rfl, rfl, by omega, by omega, by omega, rfl, HQ, SO⟩
      case round =>
        obtain ⟨k, n, kx, cx, acc, rfl, rfl, hk, hn1, hnk, HN, HZ, HS⟩ := hrel
        clear SO
        go_wp2_with fail
        refine (HBE.out _ 3 (by omega) HS.out.1).mono ?_
        rintro e wf ⟨xx, rfl, hxx, -, c7, g7⟩
        have hx3 : xx < 3 := by have := hxx (by omega); omega
        have S7 := hide (stO_call HS.out c7 g7)
        clear c7 g7 hxx HS
        by_cases hlt : k < 1 + xx
        · have hlt' : decide ((k : Int) < 1 + (xx : Int)) = true := by simp; omega
          go_wp2_with fail
          refine (HKE.out _ S7.out.1).mono ?_
          rintro e wd ⟨z, rfl, hz0, c8, g8⟩
          have hz : z.size ≤ 60 := by omega
          have S7b := hide (stO_call S7.out c8 g8)
          clear c8 g8 S7 hz0
          go_wp2_with fail
          refine (HWO.out _ S7b.out.1).mono ?_
          rintro e we ⟨z2, rfl, hz2, c8, g8⟩
          have S8 := hide (stO_call S7b.out c8 g8)
          have hs8 := S8.out.2.1.size
          clear c8 g8 S7b
          go_wp2_with (at_builtin; refine app_rest _ w.heap.size (by rfl) _ _ (by rfl) kx cx n acc [z, z2] (by rfl) HN.out (S8.out.2.2.2.alloc _) we.heap.size 2 2 0 (by simp [Act.eval]) (by rfl) (own_new we 0 2 _ [z, z2] rfl rfl (Nat.zero_le _) (by omega)) (by omega) (by simp; omega) ?_; intro g9 cap9 w9 ho9 hb9; have S9 := hide (stO_row S8.out (((Below.refl _ we).alloc hs8 _).trans hb9) ho9); clear ho9 hb9)
          go_roundw
          case rel => exact ⟨k + 1, n + 2, g9, cap9, acc ++ [z, z2], rfl, by go_num, by omega, by omega, by omega, (by show _ = _; rw [List.length_append, ← HN.out]; rfl), bnd_two HZ.out hz hz2, S9⟩
          case measure => simp [intOf]; omega
        · have hlt' : decide ((k : Int) < 1 + (xx : Int)) = false := by simp; omega
          go_wp2
          go_meet
          exact cutR_of S7.out HN.out (by omega) (by omega) HZ.out
    have f3_0 := X3
    clear X3
    go_wp2_with fail
    refine (HKE.out _ SO.out.1).mono ?_
    rintro e wd ⟨z, rfl, hz0, c8, g8⟩
    have hz : z.size ≤ 60 := by omega
    have S8 := hide (stO_call SO.out c8 g8)
    have hs8 := S8.out.2.1.size
    clear c8 g8 hz0
    go_wp2_with (at_builtin; refine app_rest _ w.heap.size (by rfl) _ _ (by rfl) kb 1 1 [q] [z] (by rfl) (by rfl) (S8.out.2.2.2.alloc _) wd.heap.size 1 1 0 (by simp [Act.eval]) (by rfl) (own_new wd 0 1 _ [z] rfl rfl (Nat.zero_le _) (by omega)) (by omega) (by simp; omega) ?_; intro g9 cap9 w9 ho9 hb9; have S9 := hide (stO_row S8.out (((Below.refl _ wd).alloc hs8 _).trans hb9) ho9); clear ho9 hb9)
    refine (HRE.out _ nm S9.out.1).mono ?_
    rintro e we ⟨kr, cr, ts, rfl, htl, hts, hst⟩
    have SR := hide hst
    have HTS := hide hts
    have S10 := hide (stO_call S9.out hst.1 hst.2.1)
    have hs10 := S10.out.2.1.size
    clear hst hts
    go_wp2_with (at_builtin; refine app_rest _ w.heap.size (by rfl) _ _ (by rfl) g9 cap9 _ ([q] ++ [z]) ts (by rfl) (by rfl) S10.out.2.2.2 kr cr ts.length _ (by rfl) (by rfl) SR.out.2.2.2 (by omega) hs10 ?_; intro g11 cap11 w11 ho11 hb11; have S11 := hide (stO_row S10.out hb11 ho11); clear ho11 hb11)
    go_meet
    exact cutR_of S11.out (by simp; omega) (by omega) (by omega) (bnd_app (bnd_snoc HQ.out hz) HTS.out)
  case rest =>
  obtain ⟨kc, cc, P, y, rfl, hP, HB, SC⟩ := hcut
  clear SO HQ
  go_wp2_with fail
  refine (HBE.out _ 20 (by omega) SC.out.1).mono ?_
  rintro e wd ⟨v, rfl, -, -, c8, g8⟩
  have S8 := hide (stO_call SC.out c8 g8)
  have hs8 := S8.out.2.1.size
  clear c8 g8 SC
  by_cases h0 : v = 0
  · have e0 : ((v : Int) == 0) = true := by simp; omega
    clear h0
    go_wp2_with (at_builtin; refine app_rest _ w.heap.size (by rfl) _ _ (by rfl) kc cc (P.length + 1) (P ++ [y]) [⟨#[120]⟩] (by rfl) (by simp) (S8.out.2.2.2.alloc _) wd.heap.size 1 1 0 (by simp [Act.eval]) (by rfl) (own_new wd 0 1 _ [⟨#[120]⟩] rfl rfl (Nat.zero_le _) (by omega)) (by omega) (by simp; omega) ?_; intro g9 cap9 w9 ho9 hb9; have S9 := hide (stO_row S8.out (((Below.refl _ wd).alloc hs8 _).trans hb9) ho9); clear ho9 hb9)
    go_ret
    have hl : (P ++ [y] ++ [(⟨#[120]⟩ : ByteArray)]).length = P.length + 1 + 1 := by simp
    exact ⟨g9, cap9, P ++ [y] ++ [⟨#[120]⟩], by rw [hl]; rfl, by omega, bnd_snoc HB.out (by decide), by rw [hl]; exact S9.out⟩
  have e0 : ((v : Int) == 0) = false := by simp; omega
  by_cases h1 : v = 1
  · have e1 : ((v : Int) == 1) = true := by simp; omega
    have S9 := hide (stO_cut S8.out)
    have hcc := own_cap S8.out.2.2.2 (by simp)
    have hcc0 : (0 : Int) ≤ (P.length : Int) := by omega
    have hcc1 : (P.length : Int) ≤ (cc : Int) := by omega
    have HB2 : Hid (∀ z ∈ P, z.size ≤ 60) := fun z hz => HB.out z (List.mem_append_left _ hz)
    clear h0 h1
    go_wp2
    go_ret
    exact ⟨kc, cc, P, rfl, by omega, HB2.out, S9.out⟩
  have e1 : ((v : Int) == 1) = false := by simp; omega
  clear h0 h1
  go_wp2
  go_ret
  have hl : (P ++ [y]).length = P.length + 1 := by simp
  exact ⟨kc, cc, P ++ [y], by rw [hl]; rfl, by omega, HB.out, by rw [hl]; exact S8.out⟩
theorem objT_lt {w : World} {g : Nat} {o : Obj} (h : w.heap[g]? = some o) : g < w.heap.size := (Array.getElem?_eq_some_iff.1 h).1
theorem Tryd.infoTexts : (Tryd.prog.info? 29).map (fun i => (i.zero, i.size, i.bytes)) = some (some (.slice none 0 0), 1, 24) := by kernel_rfl
def RowsAt (w : World) (ao : Option Addr) (tt : List (List ByteArray)) : Prop := ∀ j (h : j < tt.length), ∃ b off : Nat, ao = some ⟨b, off, none⟩ ∧ b < w.heap.size ∧
  ∃ a c, w.cell? ⟨b, off + j, none⟩ = some (.slice a tt[j].length c) ∧ TextsAt w a tt[j]
theorem rowsAt_keep {w w' : World} {ao : Option Addr} {tt : List (List ByteArray)} (h : RowsAt w ao tt) (hb : Below w.heap.size w w') : RowsAt w' ao tt := by
  intro j hj
  obtain ⟨b, off, h1, h2, a, c, h7, h8⟩ := h j hj
  exact ⟨b, off, h1, Nat.lt_of_lt_of_le h2 hb.size, a, c, (hb.cell (p := ⟨b, off + j, none⟩) h2).trans h7, textsAt_keep h8 hb⟩
def KidsT (w : World) (B g : Nat) (C : Array Value) (tt : List (List ByteArray)) (k : Nat) : Prop :=
  (∀ j (h : j < tt.length), j < k → ∃ x, C[j]? = some x ∧ RowText w B x tt[j] ∧ x.ownBlock ≠ some g) ∧
  (∀ (i j : Nat) (x y : Value) (h : Nat), i ≠ j → i < k → j < k → C[i]? = some x → C[j]? = some y → x.ownBlock = some h → y.ownBlock ≠ some h)
def RowTT (w : World) (B : Nat) (v : Value) (tt : List (List ByteArray)) : Prop := (v = .slice none 0 0 ∧ tt = []) ∨
  ∃ (g cap : Nat) (C : Array Value), v = .slice (some ⟨g, 0, none⟩) tt.length cap ∧ B ≤ g ∧ w.heap[g]? = some (.cells C 29 (0, 0)) ∧ tt.length ≤ C.size ∧ KidsT w B g C tt tt.length
theorem rowTT_at {w : World} {B : Nat} {v : Value} {tt : List (List ByteArray)} (h : RowTT w B v tt) : ∃ ao cap, v = .slice ao tt.length cap ∧ RowsAt w ao tt := by
  rcases h with ⟨rfl, rfl⟩ | ⟨g, cap, C, rfl, _, hC, _, hI⟩
  · exact ⟨none, 0, rfl, fun j hj => absurd hj (by simp)⟩
  · refine ⟨_, cap, rfl, fun j hj => ⟨g, 0, rfl, objT_lt hC, ?_⟩⟩
    obtain ⟨x, h5, h6, -⟩ := hI.1 j hj hj
    obtain ⟨a, c, rfl, h8⟩ := rowText_at h6
    rw [Nat.zero_add]
    exact ⟨a, c, (cell_of_row w g _ _ _ (0, 0) hC).trans h5, h8⟩
theorem rowTT_rows {w : World} {B n c : Nat} {a : Option Addr} {tt : List (List ByteArray)} (h : RowTT w B (.slice a n c) tt) : RowsAt w a tt := by
  obtain ⟨ao, cap, e, hf⟩ := rowTT_at h
  cases e
  exact hf
def BuildT (w : World) (B : Nat) (v : Value) (bs : List (List ByteArray)) : Prop :=
  ∃ vs : List Value, vs.length = bs.length ∧ w.ownsRow B 29 1 v bs.length vs ∧ (∀ (j : Nat) (x : Value) (b : List ByteArray), vs[j]? = some x → bs[j]? = some b → RowText w B x b) ∧
    (∀ (i j : Nat) (x y : Value) (h : Nat), i ≠ j → vs[i]? = some x → vs[j]? = some y → x.ownBlock = some h → y.ownBlock ≠ some h)
theorem buildT_nil (w : World) (B : Nat) : BuildT w B (.slice none 0 0) [] := ⟨[], rfl, World.ownsRow_nil _ _ _ _, fun j x b h => by simp at h, fun i j x y h _ hx => by simp at hx⟩
theorem buildT_lit (w : World) (B : Nat) (hB : B ≤ w.heap.size) : BuildT (w.alloc (.cells #[] 29)) B (.slice (some ⟨w.heap.size, 0, none⟩) 0 0) [] :=
  ⟨[], rfl, ⟨rfl, .inr ⟨w.heap.size, 0, #[], rfl, hB, heap_alloc_new _ _, Nat.le_refl _, Nat.zero_le _, rfl, rfl⟩⟩, fun j x b h => by simp at h, fun i j x y h _ hx => by simp at hx⟩
theorem owns_blockT {w : World} {B : Nat} {e : TypeId} {s : Nat} {v : Value} {n : Nat} {xs : List Value} (h : w.ownsRow B e s v n xs) {g : Nat} (hg : v.ownBlock = some g) : ∃ C, w.heap[g]? = some (.cells C e (0, 0)) := by
  rcases h.2 with ⟨rfl, _⟩ | ⟨g', cap, cur, rfl, _, hC, _⟩
  · cases hg
  · obtain rfl : g' = g := by simpa [Value.ownBlock] using hg
    exact ⟨cur, hC⟩
theorem kid_apartT {w : World} {B B' : Nat} {v x : Value} {n s : Nat} {xs : List Value} {ts : List ByteArray} (h : w.ownsRow B 29 s v n xs) (hx : RowText w B' x ts) {g : Nat} (hg : x.ownBlock = some g) : v.ownBlock ≠ some g := by
  intro e
  obtain ⟨C, h1⟩ := owns_blockT h e
  obtain ⟨C', h2⟩ := text_block hx hg
  rw [h1] at h2
  simp at h2
theorem buildT_below {w w' : World} {B : Nat} {v : Value} {bs : List (List ByteArray)} (h : BuildT w B v bs) (hb : Below w.heap.size w w') : BuildT w' B v bs := by
  obtain ⟨vs, h1, h2, h3, h4⟩ := h
  exact ⟨vs, h1, ownsRow_below h2 hb, fun j x b hx hj => rowText_below (h3 j x b hx hj) hb, h4⟩
theorem buildT_row {w : World} {B : Nat} {v : Value} {bs : List (List ByteArray)} (h : BuildT w B v bs) : RowTT w B v bs := by
  obtain ⟨vs, h1, h2, h3, h4⟩ := h
  rcases h2.2 with ⟨rfl, hn⟩ | ⟨g, cap, cur, rfl, hB, hC, hle, _, hs, ht⟩
  · exact .inl ⟨rfl, List.eq_nil_of_length_eq_zero hn⟩
  · have hget : ∀ j (hj : j < bs.length), ∃ x, vs[j]? = some x ∧ cur[j]? = some x := by
      intro j hj
      obtain ⟨x, hx⟩ : ∃ x, vs[j]? = some x := ⟨vs[j]'(by omega), List.getElem?_eq_getElem (by omega)⟩
      exact ⟨x, hx, take_getText ht (by omega) hx⟩
    refine .inr ⟨g, cap, cur, rfl, hB, hC, by omega, fun j hj _ => ?_, ?_⟩
    · obtain ⟨x, hx, k5⟩ := hget j hj
      refine ⟨x, k5, h3 j x _ hx (List.getElem?_eq_getElem hj), fun e => ?_⟩
      exact kid_apartT h2 (h3 j x _ hx (List.getElem?_eq_getElem hj)) e rfl
    · intro i j x y h hij hi hj hx hy e
      obtain ⟨x', hx', k2⟩ := hget i hi
      obtain ⟨y', hy', k2'⟩ := hget j hj
      rw [k2] at hx
      rw [k2'] at hy
      obtain rfl := Option.some.inj hx
      obtain rfl := Option.some.inj hy
      exact h4 i j x' y' h hij hx' hy' e
theorem buildT_put {W w' : World} {B : Nat} {v v' x : Value} {bs : List (List ByteArray)} {b : List ByteArray} (hx : RowText W B x b)
    (vs : List Value) (h1 : vs.length = bs.length) (h3 : ∀ (j : Nat) (y : Value) (c : List ByteArray), vs[j]? = some y → bs[j]? = some c → RowText W B y c) (h4 : ∀ (i j : Nat) (y z : Value) (h : Nat), i ≠ j → vs[i]? = some y → vs[j]? = some z → y.ownBlock = some h → z.ownBlock ≠ some h)
    (hnew : ∀ g, x.ownBlock = some g → ∀ y ∈ vs, y.ownBlock ≠ some g)
    (hown' : w'.ownsRow B 29 1 v' (bs ++ [b]).length (vs ++ [x])) (hkeep : ∀ k, v.ownBlock ≠ some k → k < W.heap.size → w'.heap[k]? = W.heap[k]?)
    (hown : W.ownsRow B 29 1 v bs.length vs) : BuildT w' B v' (bs ++ [b]) := by
  have keep : ∀ y (fs : List ByteArray), RowText W B y fs → RowText w' B y fs := fun y fs hy => rowText_keep hy (fun g hg => hkeep g (kid_apartT hown hy hg) (rowText_lt hy g hg).2)
  refine ⟨vs ++ [x], by simp [h1], hown', ?_, ?_⟩
  · intro j y c hy hc
    by_cases hj : j < bs.length
    · rw [List.getElem?_append_left (by omega)] at hy
      rw [List.getElem?_append_left hj] at hc
      exact keep _ _ (h3 j y c hy hc)
    · have hlt : j < (bs ++ [b]).length := (List.getElem?_eq_some_iff.1 hc).1
      have hje : j = bs.length := by simp at hlt; omega
      subst hje
      rw [List.getElem?_append_right (by omega)] at hy
      rw [List.getElem?_append_right (Nat.le_refl _)] at hc
      simp [h1] at hy hc
      subst hy hc
      exact keep _ _ hx
  · intro i j y z g hij hy hz hg e
    by_cases hi : i < vs.length
    · rw [List.getElem?_append_left hi] at hy
      by_cases hj : j < vs.length
      · rw [List.getElem?_append_left hj] at hz
        exact h4 i j y z g hij hy hz hg e
      · rw [List.getElem?_append_right (by omega)] at hz
        have hz' := List.mem_of_getElem? hz
        obtain rfl : z = x := by simpa using hz'
        exact hnew g e y (List.mem_of_getElem? hy) hg
    · rw [List.getElem?_append_right (by omega)] at hy
      have hy' := List.mem_of_getElem? hy
      obtain rfl : y = x := by simpa using hy'
      by_cases hj : j < vs.length
      · rw [List.getElem?_append_left hj] at hz
        exact hnew g hg z (List.mem_of_getElem? hz) e
      · have hi1 : i < (vs ++ [y]).length := by
          rcases Nat.lt_or_ge i (vs ++ [y]).length with h' | h'
          · exact h'
          · rw [List.getElem?_eq_none (by simp at h' ⊢; omega)] at hy; simp at hy
        have hj1 : j < (vs ++ [y]).length := by
          rcases Nat.lt_or_ge j (vs ++ [y]).length with h' | h'
          · exact h'
          · rw [List.getElem?_eq_none (by simpa using h')] at hz; simp at hz
        simp at hi1 hj1
        omega
theorem one_row {w : World} {B : Nat} {x : Value} {ts : List ByteArray} (h : RowText w B x ts) : ∀ u ∈ [x], Value.oneCell' u = true := by
  intro u hu
  obtain rfl : u = x := by simpa using hu
  exact rowText_one h
theorem buildT_after {W0 W w' : World} {B : Nat} {v x v' : Value} {bs : List (List ByteArray)} {b : List ByteArray} {vs : List Value} (hBs : B ≤ W0.heap.size) (hb : Below W0.heap.size W0 W)
    (h1 : vs.length = bs.length) (h2 : W0.ownsRow B 29 1 v bs.length vs) (h3 : ∀ (j : Nat) (x : Value) (b : List ByteArray), vs[j]? = some x → bs[j]? = some b → RowText W0 B x b)
    (h4 : ∀ (i j : Nat) (x y : Value) (h : Nat), i ≠ j → vs[i]? = some x → vs[j]? = some y → x.ownBlock = some h → y.ownBlock ≠ some h)
    (hx : RowText W W0.heap.size x b) (hown' : w'.ownsRow B 29 1 v' (bs ++ [b]).length (vs ++ [x])) (hgrow : W.grownBy w' v.ownBlock) : BuildT w' B v' (bs ++ [b]) := by
  refine buildT_put (W := W) (v := v) (rowText_le hx hBs) vs h1 (fun j y c hy hc => rowText_below (h3 j y c hy hc) hb) h4 ?_ hown' (fun k hk hlt => hgrow.block k hlt (fun e => hk e.symm)) (ownsRow_below h2 hb)
  intro g hg y hy e
  obtain ⟨j, hj, hjy⟩ := List.getElem_of_mem hy
  have k1 := h3 j y _ (by rw [List.getElem?_eq_getElem hj, hjy]) (List.getElem?_eq_getElem (by omega))
  have := (rowText_lt k1 g e).2
  have := (rowText_lt hx g hg).1
  omega
theorem app_row {ops : Array Oper} {rest : List Oper} {o : Oper} {a : Act} {Q : Exit → Act → World → Prop} (W0 W : World) (B : Nat) (hgd : o.guard = none) (s y : Operand)
    (ho : o.op = .call { callee := .builtin .append, args := #[s, y], argTypes := #[24, 24] }) (v x : Value) (bs : List (List ByteArray)) (b : List ByteArray) (hs : a.eval s = v)
    (hbuild : BuildT W0 B v bs) (hBs : B ≤ W0.heap.size) (hb : Below W0.heap.size W0 W) (hx : RowText W W0.heap.size x b) (k : Nat) (hy : a.eval y = .slice (some ⟨k, 0, none⟩) 1 1) (hblk : W.heap[k]? = some (.cells #[x] 29 (0, 0)))
    (hlen : bs.length ≤ 1048576)
    (h : ∀ g cap w', BuildT w' B (.slice (some ⟨g, 0, none⟩) (bs.length + 1) cap) (bs ++ [b]) → Below B W w' → W.grownBy w' v.ownBlock → wpList Tryd.prog ops Q rest (a.put o.dst (.slice (some ⟨g, 0, none⟩) (bs.length + 1) cap)) w') :
    wpList Tryd.prog ops Q (o :: rest) a W := by
  obtain ⟨i0, hi, hz0, hz1, hz2⟩ := info_parts Tryd.infoTexts
  obtain ⟨vs, h1, h2, h3, h4⟩ := hbuild
  have hown := ownsRow_below h2 hb
  refine wpList_append_lies W hgd s y 24 ho B 29 i0 (.slice none 0 0) 1 24 Tryd.underlying24 hi hz0 hz1 hz2 rfl (by decide) v bs.length vs hs hown ⟨k, 0, none⟩ 1 1 [x] hy rfl
    (fun j u hj => World.news_of_block hblk j u hj) (one_row hx) (by omega) (by unfold maxLen; omega) (by omega) (Nat.le_trans hBs hb.size) W.heap.size rfl ?_
  intro g cap w' hown' hgrow hg hgl
  refine h g cap w' (buildT_after hBs hb h1 h2 h3 h4 hx (by rw [List.length_append]; exact hown') hgrow) ((Below.refl B W).grown hgrow (Nat.le_trans hBs hb.size) (fun k hk => (hown.lt k hk).1)) hgrow
theorem idx_run (s : ByteArray) (k b : Nat) (hlt : k < s.size) (hb : (s[k]'hlt).toNat = b) : ∀ W : World, (Instr.index 9 (.string s) (.int .i64 (k : Int))).run Tryd.prog W = .ok (.int .u8 (b : Int)) W := by
  intro W
  rw [run_index_string W 9 s .i64 (k : Int) Tryd.underlying9, dif_pos ⟨by omega, by omega⟩]
  simp only [Int.toNat_natCast, hb]
def hexFig : ByteArray := ⟨#[48, 49, 50, 51, 52, 53, 54, 55, 56, 57, 97, 98, 99, 100, 101, 102]⟩
theorem hexFig_at : ∀ (n : Nat) (h : n < 16), ((hexFig[n]'h).toNat : Int) = Wd.figI (n : Int) := by decide
end Go.Proofs.YtdefipahgpljeaaDoor
