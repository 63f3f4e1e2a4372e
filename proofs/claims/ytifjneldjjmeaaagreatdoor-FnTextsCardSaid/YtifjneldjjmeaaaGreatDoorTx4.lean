import Derived.Deep.Upon
import Derived.Test.YtifjneldjjmeaaaGreatDoorChecked
import Derived.Lib.ConvBytes
import Derived.WalkSmall
import Derived.Test.YtifjneldjjmeaaaGreatDoorTx3
import Derived.Test.YtifjneldjjmeaaaGreatDoorTx0
set_option maxRecDepth 100000
set_option maxHeartbeats 6400000
namespace Go.Proofs.YtifjneldjjmeaaaGreatDoor
open Go.RowKit
theorem own_of {w : World} {B k n : Nat} {C : Array Value} (zs : List ByteArray) (h : w.heap[k]? = some (.cells C 9 (0, 0))) (hC : C = (zs.map Value.string).toArray) (hn : zs.length = n) (hB : B ≤ k) (hl : n ≤ 1000) : w.ownsRow B 9 1 (.slice (some ⟨k, 0, none⟩) n n) zs.length (zs.map Value.string) := by
  subst hC hn
  refine ⟨by simp, .inr ⟨k, zs.length, _, rfl, hB, h, Nat.le_refl _, by unfold maxLen; omega, by simp, ?_⟩⟩
  rw [List.take_of_length_le (by simp)]
theorem own_cut {w : World} {B k c : Nat} {P : List ByteArray} {y : ByteArray} (h : w.ownsRow B 9 1 (.slice (some ⟨k, 0, none⟩) (P.length + 1) c) (P ++ [y]).length ((P ++ [y]).map Value.string)) : w.ownsRow B 9 1 (.slice (some ⟨k, 0, none⟩) P.length c) P.length (P.map Value.string) := by
  refine ⟨by simp, ?_⟩
  rcases h.2 with ⟨e, _⟩ | ⟨g, cap, cur, e, hB, hC, hle, hm, hs, ht⟩
  · simp at e
  · rw [List.length_append, List.length_cons, List.length_nil, Nat.zero_add] at e hle ht
    cases e
    refine .inr ⟨k, c, cur, rfl, hB, hC, by omega, hm, hs, ?_⟩
    have := congrArg (List.take P.length) ht
    rw [List.take_take, Nat.min_eq_left (by omega)] at this
    simpa using this
theorem own_cap {w : World} {B k n c m : Nat} {xs : List Value} (h : w.ownsRow B 9 1 (.slice (some ⟨k, 0, none⟩) n c) m xs) (hn : n = m) : n ≤ c := by
  rcases h.2 with ⟨e, _⟩ | ⟨g, cap, cur, e, _, _, hle, _⟩
  · simp at e
  · simp at e
    omega
theorem stO_cut {w0 w wr : World} {g : Nat} {ao : Option Addr} {len cap k c : Nat} {P : List ByteArray} {y : ByteArray} (h : StO w0 w wr g ao len cap (.slice (some ⟨k, 0, none⟩) (P.length + 1) c) (P ++ [y])) : StO w0 w wr g ao len cap (.slice (some ⟨k, 0, none⟩) P.length c) P := ⟨h.1, h.2.1, h.2.2.1, own_cut h.2.2.2⟩
theorem app_rest {ops : Array Oper} {rest : List Oper} {o : Oper} {a : Act} {Q : Exit → Act → World → Prop} (W : World) (B : Nat) (hgd : o.guard = none) (s y : Operand)
    (ho : o.op = .call { callee := .builtin .append, args := #[s, y], argTypes := #[25, 25] }) (kb c0 n0 : Nat) (l rs : List ByteArray) (hs : a.eval s = .slice (some ⟨kb, 0, none⟩) n0 c0) (hn0 : n0 = l.length)
    (hown : W.ownsRow B 9 1 (.slice (some ⟨kb, 0, none⟩) n0 c0) l.length (l.map Value.string)) (k c m B2 : Nat) (hx : a.eval y = .slice (some ⟨k, 0, none⟩) m c) (hm : m = rs.length) (hown2 : W.ownsRow B2 9 1 (.slice (some ⟨k, 0, none⟩) m c) rs.length (rs.map Value.string))
    (hlen : n0 + m ≤ 1048576) (hbase : B ≤ W.heap.size)
    (h : ∀ g cap w', w'.ownsRow B 9 1 (.slice (some ⟨g, 0, none⟩) (n0 + m) cap) (l ++ rs).length ((l ++ rs).map Value.string) → Below B W w' → wpList Tryz.prog ops Q rest (a.put o.dst (.slice (some ⟨g, 0, none⟩) (n0 + m) cap)) w') :
    wpList Tryz.prog ops Q (o :: rest) a W := by
  obtain ⟨i0, hi, hz0, hz1, hz2⟩ := info_parts Tryz.infoText
  subst hn0 hm
  cases rs with
  | nil =>
    refine wpList_plain hgd fun K hK => ?_
    have hle : l.length ≤ c0 := by
      rcases hown.2 with ⟨e, _⟩ | ⟨g, cap, cur, e, _, _, hle, _⟩
      · simp at e
      · cases e; exact hle
    have hrun := run_append_nothing (P := Tryz.prog) W 25 25 o.type 9 i0 Tryz.underlying25 hi (some ⟨kb, 0, none⟩) l.length c0 hle (.slice (some ⟨k, 0, none⟩) 0 c) (Src.ofSlice W Tryz.underlying25 ⟨k, 0, none⟩ 0 c [] (by simp) (fun j u hj => by simp at hj) (fun u hu => by simp at hu))
    have hx0 : a.eval y = .slice (some ⟨k, 0, none⟩) 0 c := hx
    unfold Oper.wp
    simp [execOp, ho, resolve, invoke, builtin, hs, hx0, hrun, Result.andThen]
    refine hK _ _ (h kb c0 W ?_ (Below.refl _ _))
    rw [List.append_nil]
    exact hown
  | cons r0 rs =>
    refine wpList_append_lies W hgd s y 25 ho B 9 i0 (.string ⟨#[]⟩) 1 16 Tryz.underlying25 hi hz0 hz1 hz2 rfl (by decide) _ l.length (l.map Value.string) hs hown ⟨k, 0, none⟩ (r0 :: rs).length c ((r0 :: rs).map Value.string) hx (by rw [List.length_map]; omega)
      (fun j u hj => hown2.cells (g := k) rfl j u hj) (texts_one _) (by simp) (by unfold maxLen; omega) (by omega) hbase W.heap.size rfl ?_
    intro g cap w' hown' hgrow hg hgl
    have hlt := hown.lt
    refine h g cap w' ?_ ((Below.refl B W).grown hgrow hbase (fun k hk => (hlt k hk).1))
    rw [List.map_append, List.length_append]
    exact hown'
def CutR (w0 w wr : World) (g : Nat) (ao : Option Addr) (len cap : Nat) (v : Value) : Prop := ∃ (kb c : Nat) (P : List ByteArray) (y : ByteArray), v = .slice (some ⟨kb, 0, none⟩) (P.length + 1) c ∧ P.length ≤ 6 ∧ Hid (∀ z ∈ P ++ [y], z.size ≤ 60) ∧ Hid (StO w0 w wr g ao len cap (.slice (some ⟨kb, 0, none⟩) (P.length + 1) c) (P ++ [y]))
theorem cutR_of {w0 w wr : World} {g : Nat} {ao : Option Addr} {len cap kb n c : Nat} {acc : List ByteArray} (h : StO w0 w wr g ao len cap (.slice (some ⟨kb, 0, none⟩) n c) acc) (hn : n = acc.length) (h0 : 0 < n) (h7 : n ≤ 7) (hz : ∀ z ∈ acc, z.size ≤ 60) : CutR w0 w wr g ao len cap (.slice (some ⟨kb, 0, none⟩) n c) := by
  obtain ⟨P, y, rfl⟩ : ∃ P y, acc = P ++ [y] := ⟨acc.dropLast, acc.getLast (by intro e; subst e; simp at hn; omega), (List.dropLast_concat_getLast _).symm⟩
  rw [List.length_append, List.length_cons, List.length_nil, Nat.zero_add] at hn
  subst hn
  exact ⟨kb, c, P, y, rfl, by omega, hz, h⟩
theorem bnd_app {a b : List ByteArray} {n : Nat} (h : ∀ z ∈ a, z.size ≤ n) (hb : ∀ z ∈ b, z.size ≤ n) : ∀ z ∈ a ++ b, z.size ≤ n := by
  intro q hq
  rcases List.mem_append.1 hq with hq | hq
  · exact h q hq
  · exact hb q hq
theorem bnd_two {a : List ByteArray} {x y : ByteArray} {n : Nat} (h : ∀ z ∈ a, z.size ≤ n) (hx : x.size ≤ n) (hy : y.size ≤ n) : ∀ z ∈ a ++ [x, y], z.size ≤ n :=
  bnd_app h (by intro z hz; simp at hz; rcases hz with rfl | rfl <;> assumption)
def StN (w0 w wr : World) (g : Nat) (ao : Option Addr) (len cap : Nat) : Prop := CurAt w0 wr g ao len cap ∧ w.grownBy wr (some g)
theorem l11Args_any (w0 w : World) (g : Nat) (ao : Option Addr) (len cap : Nat) (hlen : len ≤ 1048576) (hcode : Code w0 ao len) (hc : CurAt w0 w g ao len cap) :
    Calls Tryz.prog 59 #[.pointer (some ⟨g, 0, none⟩)] w fun e w' => ∃ (k c : Nat) (ts : List ByteArray), e = .returned (.slice (some ⟨k, 0, none⟩) ts.length c) ∧ ts.length ≤ 8 ∧ (∀ z ∈ ts, z.size ≤ 60) ∧ StO w0 w w' g ao len cap (.slice (some ⟨k, 0, none⟩) ts.length c) ts := by
  have HPN := hide (fun W n C zs hC hzs hn0 hn hz (h : CurAt w0 W g ao len cap) => pickNew_any w0 W g ao len cap n C zs hC hzs hn0 hn hz hlen hcode h)
  have HBE := hide (fun W (n : Int) (hn : n ≤ 4611686018427387904) (h : CurAt w0 W g ao len cap) => below_any w0 W g ao len cap n hlen hn hcode h)
  have HON := hide (fun W (n : Int) (hn : n ≤ 4611686018427387904) (h : CurAt w0 W g ao len cap) => once_any w0 W g ao len cap n hlen hn hcode h)
  have HWO := hide (fun W (h : CurAt w0 W g ao len cap) => word_any w0 W g ao len cap hlen hcode h)
  have HKE := hide (fun W (h : CurAt w0 W g ao len cap) => key_any w0 W g ao len cap hlen hcode h)
  have HRE := hide (fun W nm (h : CurAt w0 W g ao len cap) => l11Rest_any w0 W g ao len cap nm hlen hcode h)
  have hg := cur_lt hc
  have HU := hide hc
  clear hcode hc
  obtain ⟨wb, hwb⟩ : ∃ wb, wb = w.alloc (.cells (cmdsL.map Value.string).toArray 9) := ⟨_, rfl⟩
  have BB : Hid (Below w.heap.size w wb) := by rw [hwb]; exact (Below.refl _ w).alloc (Nat.le_refl _) _
  have PB : Hid (wb.heap[w.heap.size]? = some (.cells (cmdsL.map Value.string).toArray 9 (0, 0))) := by rw [hwb]; exact heap_alloc_new _ _
  have UB := hide (cur_keep HU.out BB.out hg)
  have HCM := hide (cmds_any w)
  rw [← hwb] at HCM
  clear hwb
  go_enter Tryz.func59, Tryz.ntmps59
  go_wp2_with fail
  refine HCM.out.mono ?_
  rintro e w1 ⟨rfl, e1⟩
  obtain rfl := e1.symm
  go_wp2_with fail
  refine (HBE.out _ 41 (by omega) UB.out).mono ?_
  rintro e w2 ⟨x, rfl, hx, -, c2, g2⟩
  have hx41 : x < 41 := by have := hx (by omega); omega
  have hxi0 : (0 : Int) ≤ (x : Int) := by omega
  have hxi1 : (x : Int) < 41 := by omega
  have U2 := hide c2
  have G2 := hide ((grownBy_below (some g) BB.out).trans g2)
  obtain ⟨n0, hn0, hn1⟩ : ∃ n0 : ByteArray, w2.cell? ⟨w.heap.size, x, none⟩ = some (.string n0) ∧ n0.size ≤ 60 := by
    have hl : x < cmdsL.length := hx41
    exact ⟨cmdsL[x], g2.cell (texts_cells cmdsL PB.out x _ (List.getElem?_eq_getElem hl)) (by intro e; simp at e; omega), cmdsL_size _ (List.getElem_mem hl)⟩
  clear c2 g2 hx
  go_wp2_with fail
  refine (HON.out _ 3 (by omega) U2.out).mono ?_
  rintro e w3 ⟨b, rfl, c3, g3⟩
  have S3 : Hid (StN w0 w w3 g ao len cap) := ⟨c3, G2.out.trans g3⟩
  clear c3 g3 U2 G2 hn0
  go_upto_if 17 with fail
  go_cut [4] (fun vn wx => ∃ nm : ByteArray, vn = .string nm ∧ nm.size ≤ 60 ∧ Hid (StN w0 w wx g ao len cap))
  case first =>
    cases b
    · go_wp2
      go_meet
      exact ⟨n0, rfl, hn1, S3⟩
    · go_wp2_with fail
      refine (HPN.out w3 10 _ [⟨#[83, 69, 84]⟩, ⟨#[71, 69, 84]⟩, ⟨#[76, 80, 85, 83, 72]⟩, ⟨#[72, 83, 69, 84]⟩, ⟨#[83, 65, 68, 68]⟩, ⟨#[73, 78, 67, 82]⟩, ⟨#[69, 88, 80, 73, 82, 69]⟩, ⟨#[68, 69, 76]⟩, ⟨#[84, 84, 76]⟩, ⟨#[65, 80, 80, 69, 78, 68]⟩] rfl rfl (by omega) (by omega) (by decide) S3.out.1).mono ?_
      rintro e w4 ⟨z, rfl, hz, c4, g4⟩
      have S4 : Hid (StN w0 w w4 g ao len cap) := ⟨c4, S3.out.2.trans g4⟩
      clear c4 g4
      go_wp2
      go_meet
      exact ⟨z, rfl, hz, S4⟩
  case rest =>
  obtain ⟨nm, rfl, hnm, S5⟩ := hcut
  clear S3 hn1
  obtain ⟨kb, hkb⟩ : ∃ kb, kb = wc.heap.size := ⟨_, rfl⟩
  have hkw : w.heap.size ≤ kb := by rw [hkb]; exact S5.out.2.size
  obtain ⟨w6, hw6⟩ : ∃ w6, w6 = wc.alloc (.cells #[.string nm] 9) := ⟨_, rfl⟩
  have P6 : Hid (w6.heap[kb]? = some (.cells #[.string nm] 9 (0, 0))) := by rw [hw6, hkb]; exact heap_alloc_new _ _
  have S6 : Hid (StN w0 w w6 g ao len cap) := by
    have hb : Below wc.heap.size wc w6 := by rw [hw6]; exact (Below.refl _ wc).alloc (Nat.le_refl _) _
    exact ⟨cur_keep S5.out.1 hb (cur_lt S5.out.1), grownBy_then S5.out.2 (hb.mono S5.out.2.size)⟩
  go_wp2_with fail
  rw [← hw6, ← hkb]
  clear hw6 hkb S5
  refine (HON.out _ 8 (by omega) S6.out.1).mono ?_
  rintro e w7 ⟨b, rfl, c7, g7⟩
  have P7 : Hid (w7.heap[kb]? = some (.cells #[.string nm] 9 (0, 0))) := (g7.block kb (Array.getElem?_eq_some_iff.1 P6.out).1 (by simp; omega)).trans P6.out
  have S7 : Hid (StN w0 w w7 g ao len cap) := ⟨c7, S6.out.2.trans g7⟩
  clear c7 g7 S6 P6
  go_upto_if 24 with fail
  go_cut [5] (fun vo wx => vo = .slice (some ⟨kb, 0, none⟩) 1 1 ∧ ∃ q : ByteArray, q.size ≤ 60 ∧ Hid (wx.heap[kb]? = some (.cells #[.string q] 9 (0, 0))) ∧ Hid (StN w0 w wx g ao len cap))
  case first =>
    cases b
    · go_wp2
      go_meet
      exact ⟨rfl, nm, hnm, P7, S7⟩
    · go_wp2_with fail
      refine (HPN.out w7 6 _ [⟨#[103, 101, 116]⟩, ⟨#[83, 101, 116]⟩, ⟨#[110, 111, 112, 101]⟩, ⟨#[77, 85, 76, 84, 73]⟩, ⟨#[69, 88, 69, 67]⟩, ⟨#[]⟩] rfl rfl (by omega) (by omega) (by decide) S7.out.1).mono ?_
      rintro e w8 ⟨z, rfl, hz, c8, g8⟩
      have P8 := (g8.block kb (Array.getElem?_eq_some_iff.1 P7.out).1 (by simp; omega)).trans P7.out
      have hq0 := cur_cell P8 0 _ rfl
      have hf0 := frozen_of_row w8 kb 0 _ _ P8
      have P9 : Hid ((w8.setCell ⟨kb, 0, none⟩ (.string z)).heap[kb]? = some (.cells #[.string z] 9 (0, 0))) := (heap_setCell_same _ _ _ _ _ _ P8).trans rfl
      have S9 : Hid (StN w0 w (w8.setCell ⟨kb, 0, none⟩ (.string z)) g ao len cap) := by
        have hb : Below w.heap.size w8 (w8.setCell ⟨kb, 0, none⟩ (.string z)) := (Below.refl _ w8).setCell (p := ⟨kb, 0, none⟩) hkw _
        exact ⟨cur_keep c8 hb hg, grownBy_then (S7.out.2.trans g8) hb⟩
      clear c8 g8 P8
      go_wp2
      go_meet
      exact ⟨rfl, z, hz, P9, S9⟩
  case rest =>
  obtain ⟨rfl, q, hq, P10, S10⟩ := hcut
  clear S7 P7
  have SO : Hid (StO w0 w wc g ao len cap (.slice (some ⟨kb, 0, none⟩) 1 1) [q]) := ⟨S10.out.1, S10.out.2, hg, own_of [q] P10.out rfl rfl hkw (by omega)⟩
  clear S10 P10
  have HQ : Hid (∀ z ∈ [q], z.size ≤ 60) := fun z hz => (by obtain rfl : z = q := (by simpa using hz); exact hq)
  go_upto_block 0 with fail
  go_cut [5, 6, 7, 41, 46, 53, 69] (fun v5 _ _ _ _ _ _ wx => CutR w0 w wx g ao len cap v5)
  case first =>
    have X0 : (((nm.toList == [80, 73, 78, 71]) = true) ∨ ((nm.toList == [80, 73, 78, 71]) = false ∧ (nm.toList == [75, 69, 89, 83]) = true) ∨ ((nm.toList == [80, 73, 78, 71]) = false ∧ (nm.toList == [75, 69, 89, 83]) = false ∧ (nm.toList == [68, 66, 83, 73, 90, 69]) = true) ∨ ((nm.toList == [80, 73, 78, 71]) = false ∧ (nm.toList == [75, 69, 89, 83]) = false ∧ (nm.toList == [68, 66, 83, 73, 90, 69]) = false ∧ (nm.toList == [70, 76, 85, 83, 72, 65, 76, 76]) = true)) ∨ ((nm.toList == [80, 73, 78, 71]) = false ∧ (nm.toList == [75, 69, 89, 83]) = false ∧ (nm.toList == [68, 66, 83, 73, 90, 69]) = false ∧ (nm.toList == [70, 76, 85, 83, 72, 65, 76, 76]) = false) := by
      generalize (nm.toList == [80, 73, 78, 71]) = bPING
      generalize (nm.toList == [75, 69, 89, 83]) = bKEYS
      generalize (nm.toList == [68, 66, 83, 73, 90, 69]) = bDBSIZE
      generalize (nm.toList == [70, 76, 85, 83, 72, 65, 76, 76]) = bFLUSHALL
      revert bPING bKEYS bDBSIZE bFLUSHALL; decide
    rcases X0 with X0 | X0
    · rcases X0 with e0 | ⟨e0, e1⟩ | ⟨e0, e1, e2⟩ | ⟨e0, e1, e2, e3⟩
      all_goals
        go_wp2
        go_meet
        exact cutR_of SO.out rfl (by omega) (by omega) HQ.out
    obtain ⟨f0_0, f0_1, f0_2, f0_3⟩ := X0
    have X1 : (((nm.toList == [69, 67, 72, 79]) = true)) ∨ ((nm.toList == [69, 67, 72, 79]) = false) := by
      generalize (nm.toList == [69, 67, 72, 79]) = bECHO
      revert bECHO; decide
    rcases X1 with X1 | X1
    · have e0 := X1
      go_wp2_with fail
      refine (HWO.out _ SO.out.1).mono ?_
      rintro e wd ⟨z, rfl, hz, c8, g8⟩
      have S8 := hide (stO_call SO.out c8 g8)
      have hs8 := S8.out.2.1.size
      clear c8 g8
      go_wp2_with (at_builtin; refine app_rest _ w.heap.size (by rfl) _ _ (by rfl) kb 1 1 [q] [z] (by rfl) (by rfl) (S8.out.2.2.2.alloc _) wd.heap.size 1 1 0 (by simp [Act.eval]) (by rfl) (own_new wd 0 1 _ [z] rfl rfl (Nat.zero_le _) (by omega)) (by omega) (by simp; omega) ?_; intro g9 cap9 w9 ho9 hb9; have S9 := hide (stO_row S8.out (((Below.refl _ wd).alloc hs8 _).trans hb9) ho9); clear ho9 hb9)
      go_meet
      exact cutR_of S9.out rfl (by omega) (by omega) (bnd_snoc HQ.out hz)
    have f1_0 := X1
    clear X1
    have X2 : (((nm.toList == [77, 71, 69, 84]) = true) ∨ ((nm.toList == [77, 71, 69, 84]) = false ∧ (nm.toList == [68, 69, 76]) = true) ∨ ((nm.toList == [77, 71, 69, 84]) = false ∧ (nm.toList == [68, 69, 76]) = false ∧ (nm.toList == [69, 88, 73, 83, 84, 83]) = true)) ∨ ((nm.toList == [77, 71, 69, 84]) = false ∧ (nm.toList == [68, 69, 76]) = false ∧ (nm.toList == [69, 88, 73, 83, 84, 83]) = false) := by
      generalize (nm.toList == [77, 71, 69, 84]) = bMGET
      generalize (nm.toList == [68, 69, 76]) = bDEL
      generalize (nm.toList == [69, 88, 73, 83, 84, 83]) = bEXISTS
      revert bMGET bDEL bEXISTS; decide
    rcases X2 with X2 | X2
    · rcases X2 with e0 | ⟨e0, e1⟩ | ⟨e0, e1, e2⟩
      all_goals
        go_wp2_with fail
        go_loopw [5, 6] (fun v5 ii wr => ∃ (k n kx cx : Nat) (acc : List ByteArray), v5 = .slice (some ⟨kx, 0, none⟩) n cx ∧ ii = .int .i64 (k : Int) ∧ k ≤ 3 ∧ 1 ≤ n ∧ n ≤ 1 + k ∧ Hid (n = acc.length) ∧ Hid (∀ z ∈ acc, z.size ≤ 60) ∧ Hid (StO w0 w wr g ao len cap (.slice (some ⟨kx, 0, none⟩) n cx) acc)) (fun _ ii _ => 4 - (intOf ii).toNat)
        case atStart => exact ⟨0, 1, kb, 1, [q], rfl, rfl, by omega, by omega, by omega, rfl, HQ, SO⟩
        case round =>
          obtain ⟨k, n, kx, cx, acc, rfl, rfl, hk, hn1, hnk, HN, HZ, HS⟩ := hrel
          clear SO
          go_wp2_with fail
          refine (HBE.out _ 3 (by omega) HS.out.1).mono ?_
          rintro e wf ⟨xx, rfl, hxx, -, c7, g7⟩
          have hx3 : xx < 3 := by have := hxx (by omega); omega
          have S7 := hide (stO_call HS.out c7 g7)
          clear c7 g7 hxx HS
          by_cases hlt : k < 1 + xx
          · have hlt' : decide ((k : Int) < 1 + (xx : Int)) = true := by simp; omega
            go_wp2_with fail
            refine (HKE.out _ S7.out.1).mono ?_
            rintro e we ⟨z, rfl, hz0, c8, g8⟩
            have hz : z.size ≤ 60 := by omega
            have S8 := hide (stO_call S7.out c8 g8)
            have hs8 := S8.out.2.1.size
            clear c8 g8 S7 hz0
            go_wp2_with (at_builtin; refine app_rest _ w.heap.size (by rfl) _ _ (by rfl) kx cx n acc [z] (by rfl) HN.out (S8.out.2.2.2.alloc _) we.heap.size 1 1 0 (by simp [Act.eval]) (by rfl) (own_new we 0 1 _ [z] rfl rfl (Nat.zero_le _) (by omega)) (by omega) (by simp; omega) ?_; intro g9 cap9 w9 ho9 hb9; have S9 := hide (stO_row S8.out (((Below.refl _ we).alloc hs8 _).trans hb9) ho9); clear ho9 hb9)
            go_roundw
            case rel => exact ⟨k + 1, n + 1, g9, cap9, acc ++ [z], rfl, by go_num, by omega, by omega, by omega, (by show _ = _; rw [List.length_append, ← HN.out]; rfl), bnd_snoc HZ.out hz, S9⟩
            case measure => simp [intOf]; omega
          · have hlt' : decide ((k : Int) < 1 + (xx : Int)) = false := by simp; omega
            go_wp2
            go_meet
            exact cutR_of S7.out HN.out (by omega) (by omega) HZ.out
    obtain ⟨f2_0, f2_1, f2_2⟩ := X2
    have X3 : (((nm.toList == [77, 83, 69, 84]) = true)) ∨ ((nm.toList == [77, 83, 69, 84]) = false) := by
      generalize (nm.toList == [77, 83, 69, 84]) = bMSET
      revert bMSET; decide
    rcases X3 with X3 | X3
    · have e0 := X3
      go_wp2_with fail
      go_loopw [5, 7] (fun v5 ii wr => ∃ (k n kx cx : Nat) (acc : List ByteArray), v5 = .slice (some ⟨kx, 0, none⟩) n cx ∧ ii = .int .i64 (k : Int) ∧ k ≤ 3 ∧ 1 ≤ n ∧ n ≤ 1 + 2 * k ∧ Hid (n = acc.length) ∧ Hid (∀ z ∈ acc, z.size ≤ 60) ∧ Hid (StO w0 w wr g ao len cap (.slice (some ⟨kx, 0, none⟩) n cx) acc)) (fun _ ii _ => 4 - (intOf ii).toNat)
      case atStart => exact ⟨0, 1, kb, 1, [q], rfl, rfl, by omega, by omega, by omega, rfl, HQ, SO⟩
      case round =>
        obtain ⟨k, n, kx, cx, acc, rfl, rfl, hk, hn1, hnk, HN, HZ, HS⟩ := hrel
        clear SO
        go_wp2_with fail
        refine (HBE.out _ 3 (by omega) HS.out.1).mono ?_
        rintro e wf ⟨xx, rfl, hxx, -, c7, g7⟩
        have hx3 : xx < 3 := by have := hxx (by omega); omega
        have S7 := hide (stO_call HS.out c7 g7)
        clear c7 g7 hxx HS
        by_cases hlt : k < 1 + xx
        · have hlt' : decide ((k : Int) < 1 + (xx : Int)) = true := by simp; omega
          go_wp2_with fail
          refine (HKE.out _ S7.out.1).mono ?_
          rintro e wd ⟨z, rfl, hz0, c8, g8⟩
          have hz : z.size ≤ 60 := by omega
          have S7b := hide (stO_call S7.out c8 g8)
          clear c8 g8 S7 hz0
          go_wp2_with fail
          refine (HWO.out _ S7b.out.1).mono ?_
          rintro e we ⟨z2, rfl, hz2, c8, g8⟩
          have S8 := hide (stO_call S7b.out c8 g8)
          have hs8 := S8.out.2.1.size
          clear c8 g8 S7b
          go_wp2_with (at_builtin; refine app_rest _ w.heap.size (by rfl) _ _ (by rfl) kx cx n acc [z, z2] (by rfl) HN.out (S8.out.2.2.2.alloc _) we.heap.size 2 2 0 (by simp [Act.eval]) (by rfl) (own_new we 0 2 _ [z, z2] rfl rfl (Nat.zero_le _) (by omega)) (by omega) (by simp; omega) ?_; intro g9 cap9 w9 ho9 hb9; have S9 := hide (stO_row S8.out (((Below.refl _ we).alloc hs8 _).trans hb9) ho9); clear ho9 hb9)
          go_roundw
          case rel => exact ⟨k + 1, n + 2, g9, cap9, acc ++ [z, z2], rfl, by go_num, by omega, by omega, by omega, (by show _ = _; rw [List.length_append, ← HN.out]; rfl), bnd_two HZ.out hz hz2, S9⟩
          case measure => simp [intOf]; omega
        · have hlt' : decide ((k : Int) < 1 + (xx : Int)) = false := by simp; omega
          go_wp2
          go_meet
          exact cutR_of S7.out HN.out (by omega) (by omega) HZ.out
    have f3_0 := X3
    clear X3
    go_wp2_with fail
    refine (HKE.out _ SO.out.1).mono ?_
    rintro e wd ⟨z, rfl, hz0, c8, g8⟩
    have hz : z.size ≤ 60 := by omega
    have S8 := hide (stO_call SO.out c8 g8)
    have hs8 := S8.out.2.1.size
    clear c8 g8 hz0
    go_wp2_with (at_builtin; refine app_rest _ w.heap.size (by rfl) _ _ (by rfl) kb 1 1 [q] [z] (by rfl) (by rfl) (S8.out.2.2.2.alloc _) wd.heap.size 1 1 0 (by simp [Act.eval]) (by rfl) (own_new wd 0 1 _ [z] rfl rfl (Nat.zero_le _) (by omega)) (by omega) (by simp; omega) ?_; intro g9 cap9 w9 ho9 hb9; have S9 := hide (stO_row S8.out (((Below.refl _ wd).alloc hs8 _).trans hb9) ho9); clear ho9 hb9)
    refine (HRE.out _ nm S9.out.1).mono ?_
    rintro e we ⟨kr, cr, ts, rfl, htl, hts, hst⟩
    have SR := hide hst
    have HTS := hide hts
    have S10 := hide (stO_call S9.out hst.1 hst.2.1)
    have hs10 := S10.out.2.1.size
    clear hst hts
    go_wp2_with (at_builtin; refine app_rest _ w.heap.size (by rfl) _ _ (by rfl) g9 cap9 _ ([q] ++ [z]) ts (by rfl) (by rfl) S10.out.2.2.2 kr cr ts.length _ (by rfl) (by rfl) SR.out.2.2.2 (by omega) hs10 ?_; intro g11 cap11 w11 ho11 hb11; have S11 := hide (stO_row S10.out hb11 ho11); clear ho11 hb11)
    go_meet
    exact cutR_of S11.out (by simp; omega) (by omega) (by omega) (bnd_app (bnd_snoc HQ.out hz) HTS.out)
  case rest =>
  obtain ⟨kc, cc, P, y, rfl, hP, HB, SC⟩ := hcut
  clear SO HQ
  go_wp2_with fail
  refine (HBE.out _ 20 (by omega) SC.out.1).mono ?_
  rintro e wd ⟨v, rfl, -, -, c8, g8⟩
  have S8 := hide (stO_call SC.out c8 g8)
  have hs8 := S8.out.2.1.size
  clear c8 g8 SC
  by_cases h0 : v = 0
  · have e0 : ((v : Int) == 0) = true := by simp; omega
    clear h0
    go_wp2_with (at_builtin; refine app_rest _ w.heap.size (by rfl) _ _ (by rfl) kc cc (P.length + 1) (P ++ [y]) [⟨#[120]⟩] (by rfl) (by simp) (S8.out.2.2.2.alloc _) wd.heap.size 1 1 0 (by simp [Act.eval]) (by rfl) (own_new wd 0 1 _ [⟨#[120]⟩] rfl rfl (Nat.zero_le _) (by omega)) (by omega) (by simp; omega) ?_; intro g9 cap9 w9 ho9 hb9; have S9 := hide (stO_row S8.out (((Below.refl _ wd).alloc hs8 _).trans hb9) ho9); clear ho9 hb9)
    go_ret
    have hl : (P ++ [y] ++ [(⟨#[120]⟩ : ByteArray)]).length = P.length + 1 + 1 := by simp
    exact ⟨g9, cap9, P ++ [y] ++ [⟨#[120]⟩], by rw [hl]; rfl, by omega, bnd_snoc HB.out (by decide), by rw [hl]; exact S9.out⟩
  have e0 : ((v : Int) == 0) = false := by simp; omega
  by_cases h1 : v = 1
  · have e1 : ((v : Int) == 1) = true := by simp; omega
    have S9 := hide (stO_cut S8.out)
    have hcc := own_cap S8.out.2.2.2 (by simp)
    have hcc0 : (0 : Int) ≤ (P.length : Int) := by omega
    have hcc1 : (P.length : Int) ≤ (cc : Int) := by omega
    have HB2 : Hid (∀ z ∈ P, z.size ≤ 60) := fun z hz => HB.out z (List.mem_append_left _ hz)
    clear h0 h1
    go_wp2
    go_ret
    exact ⟨kc, cc, P, rfl, by omega, HB2.out, S9.out⟩
  have e1 : ((v : Int) == 1) = false := by simp; omega
  clear h0 h1
  go_wp2
  go_ret
  have hl : (P ++ [y]).length = P.length + 1 := by simp
  exact ⟨kc, cc, P ++ [y], by rw [hl]; rfl, by omega, HB.out, by rw [hl]; exact S8.out⟩
theorem txt_eq {a b : ByteArray} (h : a = b) : (a.toList == b.toList) = true := by rw [h]; exact beq_self_eq_true _
theorem txt_ne {a b : ByteArray} (h : a ≠ b) : (a.toList == b.toList) = false := by
  rw [beq_eq_false_iff_ne, ByteArray.toList_eq, ByteArray.toList_eq]
  intro e
  exact h (ByteArray.ext (Array.toList_inj.1 e))
def upB (b : UInt8) : UInt8 := if 97 ≤ b.toNat ∧ b.toNat ≤ 122 then UInt8.ofNat (b.toNat - 32) else b
theorem upB_yes {b : UInt8} {c : Nat} (h : b.toNat = c) (h1 : 97 ≤ c) (h2 : c ≤ 122) : (upB b).toNat = c - 32 := by
  unfold upB
  rw [if_pos (by omega), h]
  simp
  omega
theorem upB_no {b : UInt8} (h : ¬ (97 ≤ b.toNat ∧ b.toNat ≤ 122)) : upB b = b := by
  unfold upB
  rw [if_neg h]
def upTo (l : List UInt8) (k : Nat) : List UInt8 := (l.take k).map upB ++ l.drop k
theorem upTo_zero (l : List UInt8) : upTo l 0 = l := by simp [upTo]
theorem upTo_all (l : List UInt8) : upTo l l.length = l.map upB := by simp [upTo]
theorem upTo_length (l : List UInt8) (k : Nat) : (upTo l k).length = l.length := by simp [upTo]; omega
theorem upTo_get (l : List UInt8) (k : Nat) (h : k < l.length) : (upTo l k)[k]'(by rw [upTo_length]; exact h) = l[k] := by
  simp [upTo, Nat.le_of_lt h]
theorem upTo_next (l : List UInt8) (k : Nat) (h : k < l.length) : (upTo l k).set k (upB l[k]) = upTo l (k + 1) := by
  apply List.ext_getElem?
  intro j
  simp only [upTo, List.getElem?_set, List.getElem?_append, List.length_append, List.length_map, List.length_take, List.length_drop, List.getElem?_map, List.getElem?_take, List.getElem?_drop]
  by_cases hj : k = j
  · subst hj
    simp [h, Nat.min_eq_left (Nat.le_of_lt h)]
    rw [if_pos (by omega), if_pos (by omega)]
  · rw [if_neg hj, Nat.min_eq_left (Nat.le_of_lt h), Nat.min_eq_left h]
    by_cases h1 : j < k
    · rw [if_pos h1, if_pos h1, if_pos (by omega), if_pos (by omega)]
    · rw [if_neg h1, if_neg (by omega), show k + (j - k) = k + 1 + (j - (k + 1)) by omega]
theorem upTo_same (l : List UInt8) (k : Nat) (h : k < l.length) (hb : ¬ (97 ≤ l[k].toNat ∧ l[k].toNat ≤ 122)) : upTo l k = upTo l (k + 1) := by
  rw [← upTo_next l k h, upB_no hb]
  have e := upTo_get l k h
  conv => rhs; rw [← e]
  simp
def BytesIs (w : World) (g : Nat) (L : List UInt8) : Prop := ∀ j (h : j < L.length), w.cell? ⟨g, j, none⟩ = some (.int .u8 (L[j].toNat : Int)) ∧ w.frozen? ⟨g, j, none⟩ = false
theorem bytesIs_made {P : Program} (w : World) (src dst e : TypeId) (s : ByteArray) (hs : P.underlying src = some .string) (hd : P.underlying dst = some (.slice e)) (he : P.underlying e = some (.int .u8)) :
    ∃ (W : World) (C : Nat), (convert src dst (.string s)).run P w = .ok (.slice (some ⟨w.heap.size, 0, none⟩) s.size C) W ∧ Below w.heap.size w W ∧ W.heap.size = w.heap.size + 1 ∧ BytesIs W w.heap.size s.data.toList := by
  refine ⟨_, _, Lib.run_convert_string_bytes w src dst e s hs hd he, ⟨rfl, rfl, rfl, by rw [Lib.bytesWorld_size]; omega, fun k hk => Lib.bytesWorld_at_old w e _ k hk⟩, Lib.bytesWorld_size _ _ _, ?_⟩
  intro j hj
  have hj' : j < s.size := by simpa using hj
  constructor
  · rw [Lib.bytesWorld_cell w e s j hj']
    simp
    rw [Array.getElem?_eq_getElem hj']
    rfl
  · unfold World.frozen?
    rw [Lib.bytesWorld_at_new]
    have : s.size ≤ (Lib.bytesCells w e s).size := by simp [Lib.bytesCells]
    simp
    omega
theorem bytesIs_back {P : Program} (W : World) (src dst e : TypeId) (g n C : Nat) (L : List UInt8) (hn : L.length = n) (hs : P.underlying src = some (.slice e)) (he : P.underlying e = some (.int .u8)) (hd : P.underlying dst = some .string) (h : BytesIs W g L) :
    (convert src dst (.slice (some ⟨g, 0, none⟩) n C)).run P W = .ok (.string ⟨L.toArray⟩) W := by
  subst hn
  refine run_convert_bytes_back (P := P) W src dst e ⟨g, 0, none⟩ C L hs he hd ?_
  intro j hj
  rw [show ((⟨g, 0, none⟩ : Addr).add j) = ⟨g, j, none⟩ by cases j <;> simp [Addr.add]]
  exact (h j hj).1
theorem bytesIs_put {W : World} {g : Nat} {L : List UInt8} (h : BytesIs W g L) (i : Nat) (hi : i < L.length) (c : UInt8) : BytesIs (W.setCell ⟨g, i, none⟩ (.int .u8 (c.toNat : Int))) g (L.set i c) := by
  intro j hj
  rw [List.length_set] at hj
  constructor
  · by_cases hij : i = j
    · subst hij
      rw [World.cell?_setCell_same (h := (h i hi).1)]
      simp
    · rw [World.cell?_setCell_other (h := show (⟨g, i, none⟩ : Addr) ≠ ⟨g, j, none⟩ by intro e; exact hij (by injection e)), (h j hj).1]
      simp [hij]
  · simpa [go_sem] using (h j hj).2
theorem specUpper_any (s : ByteArray) (w : World) (hz : s.size ≤ 1048576) : Calls Tryz.prog 46 #[.string s] w fun e w' => e = .returned (.string ⟨(s.data.toList.map upB).toArray⟩) ∧ Below w.heap.size w w' := by
  obtain ⟨W1, C1, hcv, hB1, hs1, hnew⟩ := bytesIs_made (P := Tryz.prog) w 9 22 5 s Tryz.underlying9 Tryz.underlying22 Tryz.underlying5
  have HN := hide hnew
  have HB := hide hB1
  have HS := hide hs1
  have hl : s.data.toList.length = s.size := Array.length_toList
  have HL := hide hl
  generalize s.data.toList = l at HN HL ⊢
  clear hnew hB1 hs1 hl
  go_enter Tryz.func46, Tryz.ntmps46
  go_wp2
  go_loopw [4] (fun i wr => ∃ k : Nat, k ≤ s.size ∧ i = .int .i64 k ∧ Hid (BytesIs wr w.heap.size (upTo l k)) ∧ Hid (Below w.heap.size w wr)) (fun i _ => s.size - (intOf i).toNat)
  case atStart => exact ⟨0, Nat.zero_le _, rfl, by rw [upTo_zero]; exact HN, HB⟩
  case round =>
    obtain ⟨k, hk, rfl, HR, HB2⟩ := hrel
    by_cases hlt : k < s.size
    · have hkl : k < l.length := by rw [HL.out]; exact hlt
      obtain ⟨c, hC, hc256, hcell, hfr⟩ : ∃ c : Nat, Hid (l[k].toNat = c) ∧ c < 256 ∧ wr.cell? ⟨w.heap.size, k, none⟩ = some (.int .u8 (c : Int)) ∧ wr.frozen? ⟨w.heap.size, k, none⟩ = false := by
        have h := HR.out k (by rw [upTo_length]; exact hkl)
        rw [upTo_get l k hkl] at h
        exact ⟨_, hide rfl, UInt8.toNat_lt _, h.1, h.2⟩
      have hi0 : (0 : Int) ≤ (k : Int) := by omega
      have hi1 : (k : Int) < (s.size : Int) := by omega
      by_cases h1 : 97 ≤ c ∧ c ≤ 122
      · obtain ⟨h1, h2⟩ := h1
        have h1' : decide (97 ≤ (c : Int)) = true := by simp; omega
        have h2' : decide ((c : Int) ≤ 122) = true := by simp; omega
        have hw : IntKind.u8.wrap ((c : Int) - 32) = ((c - 32 : Nat) : Int) := by simp [IntKind.wrap, IntKind.signed, IntKind.bits]; omega
        have HU := hide (bytesIs_put HR.out k (by rw [upTo_length]; exact hkl) (upB l[k]))
        rw [upTo_next l k hkl, upB_yes hC.out h1 h2] at HU
        have HB3 := hide (HB2.out.setCell (p := ⟨w.heap.size, k, none⟩) (Nat.le_refl _) (.int .u8 ((c - 32 : Nat) : Int)))
        go_wp2
        go_roundw
        case rel => exact ⟨k + 1, by omega, by go_num, HU, HB3⟩
        case measure => simp [intOf]; omega
      · have HU := HR
        rw [upTo_same l k hkl (by rw [hC.out]; exact h1)] at HU
        have h1' : (decide (97 ≤ (c : Int)) && decide ((c : Int) ≤ 122)) = false := by simp; omega
        by_cases h2 : 97 ≤ c
        · have h2' : decide (97 ≤ (c : Int)) = true := by simp; omega
          have h3' : decide ((c : Int) ≤ 122) = false := by simp; omega
          go_wp2
          go_roundw
          case rel => exact ⟨k + 1, by omega, by go_num, HU, HB2⟩
          case measure => simp [intOf]; omega
        · have h2' : decide (97 ≤ (c : Int)) = false := by simp; omega
          go_wp2
          go_roundw
          case rel => exact ⟨k + 1, by omega, by go_num, HU, HB2⟩
          case measure => simp [intOf]; omega
    · have hkk : k = s.size := by omega
      have HU := HR
      rw [hkk, ← HL.out, upTo_all] at HU
      have hback := bytesIs_back (P := Tryz.prog) wr 22 9 5 w.heap.size s.size C1 _ (by rw [List.length_map]; exact HL.out) Tryz.underlying22 Tryz.underlying5 Tryz.underlying9 HU.out
      go_wp2
      go_ret
      exact ⟨rfl, HB2.out⟩
theorem implUpper_any (s : ByteArray) (w : World) (hz : s.size ≤ 1048576) : Calls Tryz.prog 66 #[.string s] w fun e w' => e = .returned (.string ⟨(s.data.toList.map upB).toArray⟩) ∧ Below w.heap.size w w' := by
  obtain ⟨W1, C1, hcv, hB1, hs1, hnew⟩ := bytesIs_made (P := Tryz.prog) w 9 22 5 s Tryz.underlying9 Tryz.underlying22 Tryz.underlying5
  have HN := hide hnew
  have HB := hide hB1
  have HS := hide hs1
  have hl : s.data.toList.length = s.size := Array.length_toList
  have HL := hide hl
  generalize s.data.toList = l at HN HL ⊢
  clear hnew hB1 hs1 hl
  go_enter Tryz.func66, Tryz.ntmps66
  go_wp2
  go_loopw [10] (fun i wr => ∃ k : Nat, k ≤ s.size ∧ i = .int .i64 k ∧ Hid (BytesIs wr w.heap.size (upTo l k)) ∧ Hid (Below w.heap.size w wr)) (fun i _ => s.size - (intOf i).toNat)
  case atStart => exact ⟨0, Nat.zero_le _, rfl, by rw [upTo_zero]; exact HN, HB⟩
  case round =>
    obtain ⟨k, hk, rfl, HR, HB2⟩ := hrel
    by_cases hlt : k < s.size
    · have hkl : k < l.length := by rw [HL.out]; exact hlt
      obtain ⟨c, hC, hc256, hcell, hfr⟩ : ∃ c : Nat, Hid (l[k].toNat = c) ∧ c < 256 ∧ wr.cell? ⟨w.heap.size, k, none⟩ = some (.int .u8 (c : Int)) ∧ wr.frozen? ⟨w.heap.size, k, none⟩ = false := by
        have h := HR.out k (by rw [upTo_length]; exact hkl)
        rw [upTo_get l k hkl] at h
        exact ⟨_, hide rfl, UInt8.toNat_lt _, h.1, h.2⟩
      have hi0 : (0 : Int) ≤ (k : Int) := by omega
      have hi1 : (k : Int) < (s.size : Int) := by omega
      by_cases h1 : 97 ≤ c ∧ c ≤ 122
      · obtain ⟨h1, h2⟩ := h1
        have h1' : decide (97 ≤ (c : Int)) = true := by simp; omega
        have h2' : decide ((c : Int) ≤ 122) = true := by simp; omega
        have hw0 : IntKind.u8.wrap ((c : Int) - 97) = ((c : Int) - 97) := by simp [IntKind.wrap, IntKind.signed, IntKind.bits]; omega
        have hw : IntKind.u8.wrap ((c : Int) - 97 + 65) = ((c - 32 : Nat) : Int) := by simp [IntKind.wrap, IntKind.signed, IntKind.bits]; omega
        have HU := hide (bytesIs_put HR.out k (by rw [upTo_length]; exact hkl) (upB l[k]))
        rw [upTo_next l k hkl, upB_yes hC.out h1 h2] at HU
        have HB3 := hide (HB2.out.setCell (p := ⟨w.heap.size, k, none⟩) (Nat.le_refl _) (.int .u8 ((c - 32 : Nat) : Int)))
        go_wp2
        go_roundw
        case rel => exact ⟨k + 1, by omega, by go_num, HU, HB3⟩
        case measure => simp [intOf]; omega
      · have HU := HR
        rw [upTo_same l k hkl (by rw [hC.out]; exact h1)] at HU
        have h1' : (decide (97 ≤ (c : Int)) && decide ((c : Int) ≤ 122)) = false := by simp; omega
        by_cases h2 : 97 ≤ c
        · have h2' : decide (97 ≤ (c : Int)) = true := by simp; omega
          have h3' : decide ((c : Int) ≤ 122) = false := by simp; omega
          go_wp2
          go_roundw
          case rel => exact ⟨k + 1, by omega, by go_num, HU, HB2⟩
          case measure => simp [intOf]; omega
        · have h2' : decide (97 ≤ (c : Int)) = false := by simp; omega
          go_wp2
          go_roundw
          case rel => exact ⟨k + 1, by omega, by go_num, HU, HB2⟩
          case measure => simp [intOf]; omega
    · have hkk : k = s.size := by omega
      have HU := HR
      rw [hkk, ← HL.out, upTo_all] at HU
      have hback := bytesIs_back (P := Tryz.prog) wr 22 9 5 w.heap.size s.size C1 _ (by rw [List.length_map]; exact HL.out) Tryz.underlying22 Tryz.underlying5 Tryz.underlying9 HU.out
      go_wp2
      go_ret
      exact ⟨rfl, HB2.out⟩
def inB (ts : List ByteArray) (x : ByteArray) : Bool := ts.any fun t => decide (t = x)
theorem inB_iff (ts : List ByteArray) (x : ByteArray) : inB ts x = true ↔ x ∈ ts := by
  unfold inB
  rw [List.any_eq_true]
  constructor
  · rintro ⟨t, ht, he⟩
    exact of_decide_eq_true he ▸ ht
  · intro h
    exact ⟨x, h, decide_eq_true rfl⟩
theorem inB_here {ts : List ByteArray} {i : Nat} {x : ByteArray} (h : i < ts.length) (hx : ts[i] = x) : inB (ts.drop i) x = true := by
  rw [List.drop_eq_getElem_cons h]
  simp [inB, hx]
theorem inB_next {ts : List ByteArray} {i : Nat} {x : ByteArray} (h : i < ts.length) (hx : ts[i] ≠ x) : inB (ts.drop i) x = inB (ts.drop (i + 1)) x := by
  rw [List.drop_eq_getElem_cons h]
  unfold inB
  rw [List.any_cons, decide_eq_false hx, Bool.false_or]
theorem l13In_any (ts : List ByteArray) (x : ByteArray) (ao : Option Addr) (cap : Nat) (w : World) (hl : ts.length ≤ 1048576) (hts : TextsAt w ao ts) :
    Calls Tryz.prog 60 #[.slice ao ts.length cap, .string x] w fun e w' => e = .returned (.bool (inB ts x)) ∧ w' = w := by
  obtain ⟨R, HR⟩ : ∃ R, Hid (inB ts x = R) := ⟨_, rfl⟩
  rw [HR.out]
  have HT := hide hts
  clear hts
  have HR0 : Hid (inB (ts.drop 0) x = R) := by show _ = _; rw [List.drop_zero]; exact HR.out
  go_enter Tryz.func60, Tryz.ntmps60
  go_wp2_with fail
  go_loopw [5] (fun ii wr => ∃ i : Nat, ii = .int .i64 (i : Int) ∧ i ≤ ts.length ∧ Hid (inB (ts.drop i) x = R) ∧ wr = w) (fun ii _ => ts.length - (intOf ii).toNat)
  case atStart => exact ⟨0, rfl, Nat.zero_le _, HR0, rfl⟩
  case round =>
    obtain ⟨i, rfl, hi, HI, rfl⟩ := hrel
    by_cases hlt : i < ts.length
    · have hlt' : decide ((i : Int) < (ts.length : Int)) = true := by simp; omega
      obtain ⟨b, off, rfl, hb, hcell⟩ := HT.out i hlt
      have hi0 : (0 : Int) ≤ (i : Int) := by omega
      by_cases hx : ts[i] = x
      · have he := txt_eq hx
        have HY : Hid (true = R) := by show _ = _; rw [← HI.out]; exact (inB_here hlt hx).symm
        clear hx
        go_wp2
        go_ret
        exact ⟨by rw [← HY.out]; rfl, rfl⟩
      · have he := txt_ne hx
        have HY : Hid (inB (ts.drop (i + 1)) x = R) := by
          show _ = _
          rw [← HI.out]
          exact (inB_next hlt hx).symm
        clear hx
        go_wp2
        go_roundw
        case rel => exact ⟨i + 1, by go_num, by omega, HY, by trivial⟩
        case measure => simp [intOf]; omega
    · have hlt' : decide ((i : Int) < (ts.length : Int)) = false := by rw [decide_eq_false_iff_not]; omega
      have HY : Hid (false = R) := by
        show _ = _
        rw [← HI.out, List.drop_of_length_le (by omega)]
        rfl
      go_wp2
      go_ret
      exact ⟨by rw [← HY.out]; rfl, rfl⟩
end Go.Proofs.YtifjneldjjmeaaaGreatDoor
