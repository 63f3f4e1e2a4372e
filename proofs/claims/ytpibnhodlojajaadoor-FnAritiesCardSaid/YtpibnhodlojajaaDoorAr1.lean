import Derived.Deep.DeepCutAuto
import Derived.Deep.CutBlock
import Derived.Test.YtpibnhodlojajaaDoorAr0
set_option maxRecDepth 100000
set_option maxHeartbeats 6400000
namespace Go.Proofs.YtpibnhodlojajaaDoor
open Go.RowKit
def StO (w0 w wr : World) (g : Nat) (ao : Option Addr) (len cap : Nat) (v : Value) (acc : List ByteArray) : Prop :=
  CurAt w0 wr g ao len cap ∧ w.grownBy wr (some g) ∧ g < w.heap.size ∧ wr.ownsRow w.heap.size 9 1 v acc.length (acc.map Value.string)
theorem stO_call {w0 w wr w' : World} {g : Nat} {ao : Option Addr} {len cap : Nat} {v : Value} {acc : List ByteArray} (h : StO w0 w wr g ao len cap v acc) (hc : CurAt w0 w' g ao len cap) (hg : wr.grownBy w' (some g)) : StO w0 w w' g ao len cap v acc :=
  ⟨hc, h.2.1.trans hg, h.2.2.1, row_keep h.2.2.2 hg h.2.2.1⟩
theorem stO_row {w0 w wr w5 : World} {g : Nat} {ao : Option Addr} {len cap : Nat} {v v' : Value} {acc acc' : List ByteArray} (h : StO w0 w wr g ao len cap v acc) (hb : Below w.heap.size wr w5) (ho : w5.ownsRow w.heap.size 9 1 v' acc'.length (acc'.map Value.string)) : StO w0 w w5 g ao len cap v' acc' :=
  ⟨cur_keep h.1 hb h.2.2.1, grownBy_then h.2.1 hb, h.2.2.1, ho⟩
theorem own_new (w : World) (B n : Nat) (C : Array Value) (zs : List ByteArray) (hC : C = (zs.map Value.string).toArray) (hn : zs.length = n) (hB : B ≤ w.heap.size) (hl : n ≤ 1000) : (w.alloc (.cells C 9)).ownsRow B 9 1 (.slice (some ⟨w.heap.size, 0, none⟩) n n) zs.length (zs.map Value.string) := by
  subst hC hn
  refine ⟨by simp, .inr ⟨w.heap.size, zs.length, _, rfl, hB, heap_alloc_new _ _, Nat.le_refl _, by unfold maxLen; omega, by simp, ?_⟩⟩
  rw [List.take_of_length_le (by simp)]
theorem stO_new {w0 w wr : World} {g : Nat} {ao : Option Addr} {len cap n : Nat} (C : Array Value) (zs : List ByteArray) (hC : C = (zs.map Value.string).toArray) (hn : zs.length = n) (hl : n ≤ 1000) (hc : CurAt w0 wr g ao len cap) (hg : w.grownBy wr (some g)) (hgw : g < w.heap.size) :
    StO w0 w (wr.alloc (.cells C 9)) g ao len cap (.slice (some ⟨wr.heap.size, 0, none⟩) n n) zs := by
  have hb : Below wr.heap.size wr (wr.alloc (.cells C 9)) := (Below.refl _ wr).alloc (Nat.le_refl _) _
  exact ⟨cur_keep hc hb (cur_lt hc), grownBy_then hg (hb.mono hg.size), hgw, own_new wr _ n C zs hC hn hg.size hl⟩
theorem bnd_snoc {acc : List ByteArray} {x : ByteArray} {n : Nat} (h : ∀ z ∈ acc, z.size ≤ n) (hx : x.size ≤ n) : ∀ z ∈ acc ++ [x], z.size ≤ n := by
  intro q hq
  rcases List.mem_append.1 hq with hq | hq
  · exact h q hq
  · obtain rfl : q = x := by simpa using hq
    exact hx
theorem pickNew_any (w0 w : World) (g : Nat) (ao : Option Addr) (len cap n : Nat) (C : Array Value) (zs : List ByteArray) (hC : C = (zs.map Value.string).toArray) (hzs : zs.length = n) (hn0 : 0 < n) (hn : n ≤ 1000) (hz : ∀ z ∈ zs, z.size ≤ 60) (hlen : len ≤ 1048576) (hcode : Code w0 ao len) (hc : CurAt w0 w g ao len cap) :
    Calls Tryd.prog 35 #[.pointer (some ⟨g, 0, none⟩), .slice (some ⟨w.heap.size, 0, none⟩) n n] (w.alloc (.cells C 9)) fun e w' => ∃ z : ByteArray, e = .returned (.string z) ∧ z.size ≤ 60 ∧ CurAt w0 w' g ao len cap ∧ w.grownBy w' (some g) := by
  have hb : Below w.heap.size w (w.alloc (.cells C 9)) := (Below.refl _ w).alloc (Nat.le_refl _) _
  have hg := cur_lt hc
  refine (pickText_any w0 _ g w.heap.size ao len cap n zs hlen hcode (cur_keep hc hb hg) (by omega) hzs hn0 hn (texts_cells zs (T := 9) (by subst hC; exact heap_alloc_new _ _))).mono ?_
  rintro e w1 ⟨z, rfl, hm, c1, g1⟩
  exact ⟨z, rfl, hz z hm, c1, (grownBy_below (some g) hb).trans g1⟩
theorem decSm_len : ∀ n : Nat, n < 12 → (Wd.decS ((n : Int) - 4)).length ≤ 2 := by
  have : ((List.range 12).all fun n => decide ((Wd.decS ((n : Int) - 4)).length ≤ 2)) = true := by kernel_rfl
  intro n hn
  have := (List.all_eq_true.1 this) n (List.mem_range.2 (by omega))
  simpa using this
theorem decSm_any (n : Nat) (w : World) (h : n < 12) : Calls Tryd.prog 16 #[.int .i64 ((n : Int) - 4)] w fun e w' => ∃ z : ByteArray, e = .returned (.string z) ∧ z.size ≤ 60 ∧ Below w.heap.size w w' := by
  refine (decimal_any ((n : Int) - 4) w (by omega) (by omega)).mono ?_
  rintro e w1 ⟨rfl, b1⟩
  exact ⟨_, rfl, by have := decSm_len n h; show (Wd.decS ((n : Int) - 4)).length ≤ 60; omega, b1⟩
def wordsR : List ByteArray := [⟨#[]⟩, ⟨#[49]⟩, ⟨#[45, 55]⟩, ⟨#[120]⟩, ⟨#[121, 121]⟩, ⟨#[104, 101, 108, 108, 111]⟩, ⟨#[49, 50]⟩, ⟨#[97, 32, 98]⟩]
theorem word_any (w0 w : World) (g : Nat) (ao : Option Addr) (len cap : Nat) (hlen : len ≤ 1048576) (hcode : Code w0 ao len) (hc : CurAt w0 w g ao len cap) :
    Calls Tryd.prog 36 #[.pointer (some ⟨g, 0, none⟩)] w fun e w' => ∃ z : ByteArray, e = .returned (.string z) ∧ z.size ≤ 60 ∧ CurAt w0 w' g ao len cap ∧ w.grownBy w' (some g) := by
  have HP := hide (pickNew_any w0 w g ao len cap 8 _ wordsR rfl rfl (by omega) (by omega) (by decide) hlen hcode hc)
  clear hcode hc
  go_enter Tryd.func36, Tryd.ntmps36
  go_wp2_with fail
  refine HP.out.mono ?_
  rintro e w1 ⟨z, rfl, hz, c1, g1⟩
  have C1 := hide c1
  have G1 := hide g1
  clear c1 g1
  go_wp2
  go_ret
  exact ⟨z, rfl, hz, C1.out, G1.out⟩
theorem l11Rest_any (w0 w : World) (g : Nat) (ao : Option Addr) (len cap : Nat) (nm : ByteArray) (hlen : len ≤ 1048576) (hcode : Code w0 ao len) (hc : CurAt w0 w g ao len cap) :
    Calls Tryd.prog 38 #[.pointer (some ⟨g, 0, none⟩), .string nm] w fun e w' => ∃ (k c : Nat) (ts : List ByteArray), e = .returned (.slice (some ⟨k, 0, none⟩) ts.length c) ∧ ts.length ≤ 3 ∧ (∀ z ∈ ts, z.size ≤ 60) ∧ StO w0 w w' g ao len cap (.slice (some ⟨k, 0, none⟩) ts.length c) ts := by
  have HPN := hide (fun W n C zs hC hzs hn0 hn hz (h : CurAt w0 W g ao len cap) => pickNew_any w0 W g ao len cap n C zs hC hzs hn0 hn hz hlen hcode h)
  have HBE := hide (fun W (n : Int) (hn : n ≤ 4611686018427387904) (h : CurAt w0 W g ao len cap) => below_any w0 W g ao len cap n hlen hn hcode h)
  have HON := hide (fun W (n : Int) (hn : n ≤ 4611686018427387904) (h : CurAt w0 W g ao len cap) => once_any w0 W g ao len cap n hlen hn hcode h)
  have HWO := hide (fun W (h : CurAt w0 W g ao len cap) => word_any w0 W g ao len cap hlen hcode h)
  have hg := cur_lt hc
  have HU := hide hc
  clear hcode hc
  go_enter Tryd.func38, Tryd.ntmps38
  go_wp2_with fail
  refine (HPN.out w 4 _ [⟨#[102]⟩, ⟨#[103]⟩, ⟨#[104]⟩, ⟨#[122]⟩] rfl rfl (by omega) (by omega) (by decide) HU.out).mono ?_
  rintro e w1 ⟨fd, rfl, hfd, c1, g1⟩
  have U1 := hide c1
  have G1 := hide g1
  clear c1 g1
  go_wp2_with fail
  refine (HBE.out _ 12 (by omega) U1.out).mono ?_
  rintro e w2 ⟨x, rfl, hx, -, c2, g2⟩
  have hx12 : x < 12 := by have := hx (by omega); omega
  have U2 := hide c2
  have G2 := hide (G1.out.trans g2)
  have HDE := hide (decSm_any x w2 hx12)
  clear c2 g2 U1 G1 hx
  go_wp2_with fail
  refine HDE.out.mono ?_
  rintro e w3 ⟨nb, rfl, hnb, b3⟩
  have U3 := hide (cur_keep U2.out b3 (cur_lt U2.out))
  have G3 := hide (grownBy_then G2.out (b3.mono G2.out.size))
  clear b3 U2 G2 HDE hx12
  have X0 : (((nm.toList == [83, 69, 84]) = true) ∨ ((nm.toList == [83, 69, 84]) = false ∧ (nm.toList == [83, 69, 84, 78, 88]) = true) ∨ ((nm.toList == [83, 69, 84]) = false ∧ (nm.toList == [83, 69, 84, 78, 88]) = false ∧ (nm.toList == [71, 69, 84, 83, 69, 84]) = true) ∨ ((nm.toList == [83, 69, 84]) = false ∧ (nm.toList == [83, 69, 84, 78, 88]) = false ∧ (nm.toList == [71, 69, 84, 83, 69, 84]) = false ∧ (nm.toList == [65, 80, 80, 69, 78, 68]) = true)) ∨ ((nm.toList == [83, 69, 84]) = false ∧ (nm.toList == [83, 69, 84, 78, 88]) = false ∧ (nm.toList == [71, 69, 84, 83, 69, 84]) = false ∧ (nm.toList == [65, 80, 80, 69, 78, 68]) = false) := by
    generalize (nm.toList == [83, 69, 84]) = bSET
    generalize (nm.toList == [83, 69, 84, 78, 88]) = bSETNX
    generalize (nm.toList == [71, 69, 84, 83, 69, 84]) = bGETSET
    generalize (nm.toList == [65, 80, 80, 69, 78, 68]) = bAPPEND
    revert bSET bSETNX bGETSET bAPPEND; decide
  rcases X0 with X0 | X0
  · rcases X0 with e0 | ⟨e0, e1⟩ | ⟨e0, e1, e2⟩ | ⟨e0, e1, e2, e3⟩
    all_goals
      go_wp2_with fail
      refine (HWO.out _ U3.out).mono ?_
      rintro e w4 ⟨z, rfl, hz, c4, g4⟩
      have S4 := hide (stO_new (n := 1) #[.string z] [z] rfl rfl (by omega) c4 (G3.out.trans g4) hg)
      clear c4 g4
      go_wp2
      go_ret
      exact ⟨w4.heap.size, 1, [z], rfl, by simp, by simpa using hz, S4.out⟩
  obtain ⟨f0_0, f0_1, f0_2, f0_3⟩ := X0
  have X1 : (((nm.toList == [73, 78, 67, 82, 66, 89]) = true) ∨ ((nm.toList == [73, 78, 67, 82, 66, 89]) = false ∧ (nm.toList == [68, 69, 67, 82, 66, 89]) = true) ∨ ((nm.toList == [73, 78, 67, 82, 66, 89]) = false ∧ (nm.toList == [68, 69, 67, 82, 66, 89]) = false ∧ (nm.toList == [76, 73, 78, 68, 69, 88]) = true) ∨ ((nm.toList == [73, 78, 67, 82, 66, 89]) = false ∧ (nm.toList == [68, 69, 67, 82, 66, 89]) = false ∧ (nm.toList == [76, 73, 78, 68, 69, 88]) = false ∧ (nm.toList == [69, 88, 80, 73, 82, 69]) = true)) ∨ ((nm.toList == [73, 78, 67, 82, 66, 89]) = false ∧ (nm.toList == [68, 69, 67, 82, 66, 89]) = false ∧ (nm.toList == [76, 73, 78, 68, 69, 88]) = false ∧ (nm.toList == [69, 88, 80, 73, 82, 69]) = false) := by
    generalize (nm.toList == [73, 78, 67, 82, 66, 89]) = bINCRBY
    generalize (nm.toList == [68, 69, 67, 82, 66, 89]) = bDECRBY
    generalize (nm.toList == [76, 73, 78, 68, 69, 88]) = bLINDEX
    generalize (nm.toList == [69, 88, 80, 73, 82, 69]) = bEXPIRE
    revert bINCRBY bDECRBY bLINDEX bEXPIRE; decide
  rcases X1 with X1 | X1
  · rcases X1 with e0 | ⟨e0, e1⟩ | ⟨e0, e1, e2⟩ | ⟨e0, e1, e2, e3⟩
    all_goals
      go_wp2_with fail
      refine (HON.out _ 12 (by omega) U3.out).mono ?_
      rintro e w4 ⟨b, rfl, c4, g4⟩
      have U4 := hide c4
      have G4 := hide (G3.out.trans g4)
      clear c4 g4
      cases b
      · have S4 := hide (stO_new (n := 1) #[.string nb] [nb] rfl rfl (by omega) U4.out G4.out hg)
        go_wp2
        go_ret
        exact ⟨w4.heap.size, 1, [nb], rfl, by simp, by simpa using hnb, S4.out⟩
      · go_wp2_with fail
        refine (HPN.out w4 5 _ [⟨#[120]⟩, ⟨#[48, 49]⟩, ⟨#[57, 57, 57, 57, 57, 57, 57, 57, 57, 57, 57, 57, 57, 57, 57]⟩, ⟨#[45, 48]⟩, ⟨#[49, 48, 48, 48, 48, 49]⟩] rfl rfl (by omega) (by omega) (by decide) U4.out).mono ?_
        rintro e w5 ⟨z, rfl, hz, c5, g5⟩
        have S5 := hide (stO_new (n := 1) #[.string z] [z] rfl rfl (by omega) c5 (G4.out.trans g5) hg)
        clear c5 g5
        go_wp2
        go_ret
        exact ⟨w5.heap.size, 1, [z], rfl, by simp, by simpa using hz, S5.out⟩
  obtain ⟨f1_0, f1_1, f1_2, f1_3⟩ := X1
  have X2 : (((nm.toList == [76, 82, 65, 78, 71, 69]) = true)) ∨ ((nm.toList == [76, 82, 65, 78, 71, 69]) = false) := by
    generalize (nm.toList == [76, 82, 65, 78, 71, 69]) = bLRANGE
    revert bLRANGE; decide
  rcases X2 with X2 | X2
  · have e0 := X2
    go_wp2_with fail
    refine (HBE.out _ 12 (by omega) U3.out).mono ?_
    rintro e w4 ⟨y, rfl, hy, -, c4, g4⟩
    have hy12 : y < 12 := by have := hy (by omega); omega
    have U4 := hide c4
    have G4 := hide (G3.out.trans g4)
    have HDE := hide (decSm_any y w4 hy12)
    clear c4 g4 hy
    go_wp2_with fail
    refine HDE.out.mono ?_
    rintro e w5 ⟨z, rfl, hz, b5⟩
    have S5 := hide (stO_new (n := 2) #[.string nb, .string z] [nb, z] rfl rfl (by omega) (cur_keep U4.out b5 (cur_lt U4.out)) (grownBy_then G4.out (b5.mono G4.out.size)) hg)
    clear b5 hy12
    go_wp2
    go_ret
    exact ⟨w5.heap.size, 2, [nb, z], rfl, by simp, by simp; omega, S5.out⟩
  have f2_0 := X2
  clear X2
  have X3 : (((nm.toList == [72, 83, 69, 84]) = true)) ∨ ((nm.toList == [72, 83, 69, 84]) = false) := by
    generalize (nm.toList == [72, 83, 69, 84]) = bHSET
    revert bHSET; decide
  rcases X3 with X3 | X3
  · have e0 := X3
    go_wp2_with fail
    refine (HWO.out _ U3.out).mono ?_
    rintro e w4 ⟨z, rfl, hz, c4, g4⟩
    have S4 := hide (stO_new (n := 2) #[.string fd, .string z] [fd, z] rfl rfl (by omega) c4 (G3.out.trans g4) hg)
    clear c4 g4
    go_wp2
    go_ret
    exact ⟨w4.heap.size, 2, [fd, z], rfl, by simp, by simp; omega, S4.out⟩
  have f3_0 := X3
  clear X3
  have X4 : (((nm.toList == [72, 71, 69, 84]) = true) ∨ ((nm.toList == [72, 71, 69, 84]) = false ∧ (nm.toList == [83, 73, 83, 77, 69, 77, 66, 69, 82]) = true)) ∨ ((nm.toList == [72, 71, 69, 84]) = false ∧ (nm.toList == [83, 73, 83, 77, 69, 77, 66, 69, 82]) = false) := by
    generalize (nm.toList == [72, 71, 69, 84]) = bHGET
    generalize (nm.toList == [83, 73, 83, 77, 69, 77, 66, 69, 82]) = bSISMEMBER
    revert bHGET bSISMEMBER; decide
  rcases X4 with X4 | X4
  · rcases X4 with e0 | ⟨e0, e1⟩
    all_goals
      have S4 := hide (stO_new (n := 1) #[.string fd] [fd] rfl rfl (by omega) U3.out G3.out hg)
      go_wp2
      go_ret
      exact ⟨w3.heap.size, 1, [fd], rfl, by simp, by simpa using hfd, S4.out⟩
  obtain ⟨f4_0, f4_1⟩ := X4
  have X5 : (((nm.toList == [76, 80, 85, 83, 72]) = true) ∨ ((nm.toList == [76, 80, 85, 83, 72]) = false ∧ (nm.toList == [82, 80, 85, 83, 72]) = true) ∨ ((nm.toList == [76, 80, 85, 83, 72]) = false ∧ (nm.toList == [82, 80, 85, 83, 72]) = false ∧ (nm.toList == [83, 65, 68, 68]) = true) ∨ ((nm.toList == [76, 80, 85, 83, 72]) = false ∧ (nm.toList == [82, 80, 85, 83, 72]) = false ∧ (nm.toList == [83, 65, 68, 68]) = false ∧ (nm.toList == [83, 82, 69, 77]) = true) ∨ ((nm.toList == [76, 80, 85, 83, 72]) = false ∧ (nm.toList == [82, 80, 85, 83, 72]) = false ∧ (nm.toList == [83, 65, 68, 68]) = false ∧ (nm.toList == [83, 82, 69, 77]) = false ∧ (nm.toList == [72, 68, 69, 76]) = true)) ∨ ((nm.toList == [76, 80, 85, 83, 72]) = false ∧ (nm.toList == [82, 80, 85, 83, 72]) = false ∧ (nm.toList == [83, 65, 68, 68]) = false ∧ (nm.toList == [83, 82, 69, 77]) = false ∧ (nm.toList == [72, 68, 69, 76]) = false) := by
    generalize (nm.toList == [76, 80, 85, 83, 72]) = bLPUSH
    generalize (nm.toList == [82, 80, 85, 83, 72]) = bRPUSH
    generalize (nm.toList == [83, 65, 68, 68]) = bSADD
    generalize (nm.toList == [83, 82, 69, 77]) = bSREM
    generalize (nm.toList == [72, 68, 69, 76]) = bHDEL
    revert bLPUSH bRPUSH bSADD bSREM bHDEL; decide
  rcases X5 with X5 | X5
  · rcases X5 with e0 | ⟨e0, e1⟩ | ⟨e0, e1, e2⟩ | ⟨e0, e1, e2, e3⟩ | ⟨e0, e1, e2, e3, e4⟩
    all_goals
      have S4 := hide (stO_new (n := 1) #[.string fd] [fd] rfl rfl (by omega) U3.out G3.out hg)
      go_wp2_with fail
      generalize w3.alloc (.cells #[.string fd] 9) = w4 at S4
      generalize w3.heap.size = kb0 at S4
      clear U3 G3
      go_loopw [7, 8] (fun vv ii wr => ∃ (k kb c : Nat) (acc : List ByteArray), vv = .slice (some ⟨kb, 0, none⟩) acc.length c ∧ ii = .int .i64 (k : Int) ∧ k ≤ 2 ∧ acc.length ≤ k + 1 ∧ Hid (∀ z ∈ acc, z.size ≤ 60) ∧ Hid (StO w0 w wr g ao len cap (.slice (some ⟨kb, 0, none⟩) acc.length c) acc)) (fun _ ii _ => 3 - (intOf ii).toNat)
      case atStart => exact ⟨0, kb0, 1, [fd], rfl, rfl, by omega, Nat.le_refl _, (fun z hz => (by obtain rfl : z = fd := (by simpa using hz); exact hfd)), S4⟩
      case round =>
        clear S4
        obtain ⟨k, kb, c, acc, rfl, rfl, hk, hal, HZ, HS⟩ := hrel
        go_wp2_with fail
        refine (HBE.out _ 3 (by omega) HS.out.1).mono ?_
        rintro e w5 ⟨y, rfl, hy, -, c5, g5⟩
        have hy3 : y < 3 := by have := hy (by omega); omega
        have S5 := hide (stO_call HS.out c5 g5)
        clear c5 g5 hy HS
        by_cases hlt : k < y
        · have hlt' : decide ((k : Int) < (y : Int)) = true := by simp; omega
          go_wp2_with fail
          refine (HPN.out w5 5 _ [⟨#[102]⟩, ⟨#[103]⟩, ⟨#[104]⟩, ⟨#[122]⟩, ⟨#[49]⟩] rfl rfl (by omega) (by omega) (by decide) S5.out.1).mono ?_
          rintro e w6 ⟨z, rfl, hz, c6, g6⟩
          have S6 := hide (stO_call S5.out c6 g6)
          have hs6 := S6.out.2.1.size
          clear c6 g6 S5
          go_wp2_with (at_builtin; refine app_txt _ w.heap.size (by rfl) _ _ (by rfl) _ acc z (by rfl) (S6.out.2.2.2.alloc _) w6.heap.size (by simp [Act.eval]) (heap_alloc_new w6 _) (by omega) (by simp; omega) ?_; intro g9 cap9 w9 ho9 hb9 hgr9 hg9 hgl9; have S9 := hide (stO_row S6.out (((Below.refl _ w6).alloc hs6 _).trans hb9) ho9); clear ho9 hb9 hgr9 hg9 hgl9)
          go_roundw
          case rel => exact ⟨k + 1, g9, cap9, acc ++ [z], by simp, by go_num, by omega, by simp; omega, bnd_snoc HZ.out hz, by rw [List.length_append]; exact S9⟩
          case measure => simp [intOf]; omega
        · have hlt' : decide ((k : Int) < (y : Int)) = false := by simp; omega
          go_wp2
          go_ret
          exact ⟨kb, c, acc, rfl, by omega, HZ.out, S5.out⟩
  obtain ⟨f5_0, f5_1, f5_2, f5_3, f5_4⟩ := X5
  have S4 := hide (stO_new (n := 0) #[] [] rfl rfl (by omega) U3.out G3.out hg)
  go_wp2
  go_ret
  exact ⟨w3.heap.size, 0, [], rfl, by simp, fun z hz => absurd hz List.not_mem_nil, S4.out⟩
def cmdsL : List ByteArray := [⟨#[80, 73, 78, 71]⟩, ⟨#[69, 67, 72, 79]⟩, ⟨#[71, 69, 84]⟩, ⟨#[83, 69, 84]⟩, ⟨#[83, 69, 84, 78, 88]⟩, ⟨#[71, 69, 84, 83, 69, 84]⟩, ⟨#[65, 80, 80, 69, 78, 68]⟩, ⟨#[83, 84, 82, 76, 69, 78]⟩, ⟨#[73, 78, 67, 82]⟩, ⟨#[68, 69, 67, 82]⟩, ⟨#[73, 78, 67, 82, 66, 89]⟩, ⟨#[68, 69, 67, 82, 66, 89]⟩, ⟨#[77, 71, 69, 84]⟩, ⟨#[77, 83, 69, 84]⟩, ⟨#[68, 69, 76]⟩, ⟨#[69, 88, 73, 83, 84, 83]⟩, ⟨#[84, 89, 80, 69]⟩, ⟨#[69, 88, 80, 73, 82, 69]⟩, ⟨#[84, 84, 76]⟩, ⟨#[80, 69, 82, 83, 73, 83, 84]⟩, ⟨#[75, 69, 89, 83]⟩, ⟨#[68, 66, 83, 73, 90, 69]⟩, ⟨#[70, 76, 85, 83, 72, 65, 76, 76]⟩, ⟨#[76, 80, 85, 83, 72]⟩, ⟨#[82, 80, 85, 83, 72]⟩, ⟨#[76, 80, 79, 80]⟩, ⟨#[82, 80, 79, 80]⟩, ⟨#[76, 76, 69, 78]⟩, ⟨#[76, 82, 65, 78, 71, 69]⟩, ⟨#[76, 73, 78, 68, 69, 88]⟩, ⟨#[72, 83, 69, 84]⟩, ⟨#[72, 71, 69, 84]⟩, ⟨#[72, 68, 69, 76]⟩, ⟨#[72, 76, 69, 78]⟩, ⟨#[72, 71, 69, 84, 65, 76, 76]⟩, ⟨#[72, 75, 69, 89, 83]⟩, ⟨#[83, 65, 68, 68]⟩, ⟨#[83, 82, 69, 77]⟩, ⟨#[83, 73, 83, 77, 69, 77, 66, 69, 82]⟩, ⟨#[83, 67, 65, 82, 68]⟩, ⟨#[83, 77, 69, 77, 66, 69, 82, 83]⟩]
theorem cmdsL_size : ∀ z ∈ cmdsL, z.size ≤ 60 := by decide
theorem cmds_any (w : World) : Calls Tryd.prog 28 #[] w fun e w' => e = .returned (.slice (some ⟨w.heap.size, 0, none⟩) 41 41) ∧ w' = w.alloc (.cells (cmdsL.map Value.string).toArray 9) := by
  go_enter Tryd.func28, Tryd.ntmps28
  go_wp2
  go_ret
  exact ⟨rfl, rfl⟩
end Go.Proofs.YtpibnhodlojajaaDoor
