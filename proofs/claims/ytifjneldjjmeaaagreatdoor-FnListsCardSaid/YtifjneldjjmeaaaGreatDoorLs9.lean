import Derived.Shelf.Small.Utf8
import Derived.Shelf.Small.Strs
import Derived.Shelf.Strconv.Atoi
import Derived.Shelf.Strconv.Itoa0
import Derived.Shelf.Strconv.Itoa1
import Derived.Shelf.LaysM
import Derived.Shelf.Strconv.Itoa2
import Derived.Shelf.Strconv.Itoa3
import Derived.Shelf.Strconv.AtoiErrFast
import Derived.Shelf.Strconv.ParseIntEmpty
import Derived.Shelf.Strconv.AtoiFail
import Derived.Shelf.Strconv.Clone
import Derived.Shelf.Strconv.SyntaxError
import Derived.Shelf.LaysC
import Derived.Shelf.Strconv.ToError
import Derived.Shelf.Strconv.Lower
import Derived.Shelf.Strconv.ParseUint10
import Derived.Shelf.Strconv.ParseUint10Empty
import Derived.Shelf.Strconv.ParseUint10Any
import Derived.Shelf.Strconv.ParseInt10
import Derived.Shelf.Strconv.AtoiLong
import Derived.Shelf.Strconv.AtoiInnerAll
import Derived.Shelf.Strconv.RangeError
import Derived.Shelf.Strconv.ToErrorRange
import Derived.Shelf.Strconv.AtoiAll
import Derived.Shelf.Strconv.ErrVarAll
import Derived.Shelf.Strings.Search1
import Derived.Shelf.Strings.Runes
import Derived.Shelf.Strings.AsciiSet
import Derived.Shelf.Unicode.DecodeSlow
import Derived.Shelf.Unicode.DecodeAny
import Derived.Ground.Names2Prog
import Derived.Shelf.Slices.ReverseS
import Derived.Shelf.Slices.Cells
import Derived.Test.YtifjneldjjmeaaaGreatDoorProg
import Derived.Test.YtifjneldjjmeaaaGreatDoorLs8
import Derived.Test.YtifjneldjjmeaaaGreatDoorLs5
set_option maxRecDepth 100000
set_option maxHeartbeats 3200000
namespace Go.Proofs.YtifjneldjjmeaaaGreatDoor
open Go.RowKit
theorem listCommand_any (T : List EntD) (ts : List ByteArray) (ao : Option Addr) (cap : Nat) (b0 off c0 : Nat) (w0 w : World) (bx : Nat) (v0 : Value) (E : List Value) (x : Value) (r : ByteArray) (er : Option ByteArray) (T2 : List EntD)
    (hE : E.length = 1) (h0 : Below w0.heap.size w0 w) (hBx : w0.heap.size ≤ bx) (hbx : w.heap[bx]? = some (.cells ⟨v0 :: E⟩ 69 (0, 0)))
    (hT : TabR T) (hes : EntriesAt w0 ao T) (hts : TextsAt w0 (some ⟨b0, off, none⟩) ts) (hz : ∀ y ∈ ts, y.size ≤ 1000000) (hl : 2 ≤ ts.length) (hl2 : ts.length ≤ 1048576) (hc : ts.length ≤ c0) (hok : okS ts = true) (hx : OthV w0 x) (her : ∀ s, er = some s → s.size ≤ 1048576)
    (hdo : ∀ w1, WorkE 69 w1 w0.heap.size bx T 1 → Below w0.heap.size w0 w1 → Calls Tryz.prog 41 #[.pointer (some ⟨bx, 0, none⟩), .string (upT (ts[0]'(by omega))), .slice (some ⟨b0, off + 1, none⟩) (ts.length - 1) (c0 - 1)] w1 (DoP 69 w0.heap.size bx w1 r er T2)) :
    Calls Tryz.prog 36 #[.pointer (some ⟨bx, 0, none⟩), .slice ao T.length cap, .slice (some ⟨b0, off, none⟩) ts.length c0, .func (.func 41) #[.pointer (some ⟨bx, 0, none⟩)] #[]] w fun e w' => (∃ v, e = .returned (.tuple #[v, .string (outT T r er T2).2, .bool true]) ∧ BuildE w' w0.heap.size v (outT T r er T2).1) ∧ Below w0.heap.size w0 w' := by
  have hT20 := hT.1
  have hb0 := h0.size
  have hbw := obj_lt hbx
  have HTO := hide (implTableOk_any T ao cap w true (by simp [hT]) (by omega) (entriesAt_keep hes h0) (tab_ents hT))
  have HAR := hide (fun W (h : Below w0.heap.size w0 W) => implArityOk_any ts (some ⟨b0, off, none⟩) c0 W hl2 (textsAt_keep hts h) (fun y hy => by have := hz y hy; omega))
  rw [hok] at HAR
  have HOT := hide (fun W (h : Below w0.heap.size w0 W) => ownTable_any T ao cap W (by omega) (entriesAt_keep hes h) (tab_ents hT))
  have HU := hide (fun W => implUpper_any (ts[0]'(by omega)) W (by have := hz _ (List.getElem_mem (show 0 < ts.length by omega)); omega))
  have HDO := hide hdo
  have HX := hide hx
  have KC := hide (fun X (hX : Below w0.heap.size w0 X) => textsAt_keep hts hX 0 (by omega))
  have H0 := hide h0
  have HBX := hide hbx
  have HER := hide (fun W s (h : er = some s) => implFault_any s W (her s h))
  clear hT hes hts hz hok hx her hdo h0 hbx
  go_enter Tryz.func36, Tryz.ntmps36
  go_wp2_with fail
  refine HTO.out.mono ?_
  rintro e w1 ⟨rfl, b1⟩
  have B1 := hide (H0.out.trans (b1.mono hb0))
  have P1 := hide ((b1.block bx hbw).trans HBX.out)
  clear b1
  go_wp2_with fail
  refine (HAR.out _ B1.out).mono ?_
  rintro e w2 ⟨rfl, b2⟩
  have B2 := hide (B1.out.trans (b2.mono B1.out.size))
  have P2 := hide ((b2.block bx (obj_lt P1.out)).trans P1.out)
  clear b2
  go_wp2_with fail
  refine (HOT.out _ B2.out).mono ?_
  rintro e w3 ⟨⟨v3, rfl, hb3⟩, b3⟩
  have B3 := hide (B2.out.trans (b3.mono B2.out.size))
  have P3 := hide ((b3.block bx (obj_lt P2.out)).trans P2.out)
  obtain ⟨a3, c3, e3⟩ := buildE_form hb3
  subst e3
  have HB3 := hide (buildE_le hb3 B2.out.size)
  clear b3 hb3
  obtain ⟨x3, f3⟩ := box1w P3.out
  obtain ⟨wB, hwB⟩ : ∃ wB, wB = w3.setCell ⟨bx, 0, none⟩ (.slice a3 T.length c3) := ⟨_, rfl⟩
  have B4 : Hid (Below w0.heap.size w0 wB) := by rw [hwB]; exact B3.out.setCell (p := ⟨bx, 0, none⟩) hBx _
  have WK : Hid (WorkE 69 wB w0.heap.size bx T 1) := by
    rw [hwB]
    exact workE_first hE P3.out hBx HB3.out (by decide) (by decide)
  have hb4 := B4.out.size
  have KB := hide (fun X (hX : Below wB.heap.size wB X) => KC.out X (B4.out.trans (hX.mono hb4)))
  obtain ⟨b0', off', e0, hbw0, hc0⟩ := KB.out _ (Below.refl _ wB)
  cases e0
  rw [Nat.add_zero] at hc0
  have hN0 : 0 < ts.length := by omega
  have hN1 : (1 : Int) ≤ (ts.length : Int) := by omega
  have hc1 : ¬ (c0 = 1) := by omega
  have hc63 : ts.length ≤ 9223372036854775807 := by omega
  go_upto_region 4 with fail
  rw [← hwB]
  clear hwB x3 f3
  go_region_law (first | (go_simp; go_at_call 66; go_loud (refine (HU.out _).mono ?_; rintro e w5 ⟨rfl, b5⟩; have E5 : Hid (Below wB.heap.size wB w5) := (Below.refl _ wB).drew.trans b5; clear b5)) | (go_simp; go_at_call 41; go_loud (refine (HDO.out _ (workE_below WK.out E5.out) (B4.out.trans (E5.out.mono hb4))).mono ?_; rintro e w6 ⟨rfl, s6, b6⟩; have S6 := hide s6; have B6 := hide ((B4.out.trans (E5.out.mono hb4)).trans b6); clear s6 b6)))
  all_goals
    have HX6 := hide ((B6.out.cell (p := ⟨0, 0, none⟩) HX.out.2.2).trans HX.out.2.1)
    obtain ⟨⟨ax, hxx⟩, -⟩ := HX.out
    have hx6 := HX6.out
    rw [hxx] at hx6
    obtain ⟨hb6, v6, E6, hv6, hw6⟩ := S6.out
    obtain ⟨a6, c6, e6⟩ := buildE_form hw6
    subst e6
    obtain ⟨x6, -⟩ := box1w hv6
    have HW6 := hide hw6
    clear hw6 hv6 HX6 hxx
    cases er with
    | none =>
      simp only [errV]
      have hq := run_eql_iface_nil_left (P := Tryz.prog) w6 209 (.pointer (some ax)) Tryz.underlying100
      go_wp2_with (simp only [hq])
      refine bodyPost_ret (v := .tuple #[.slice a6 T2.length c6, .string r, .bool true]) (by simp [results, Tryz.results36, go_sem]) rfl ?_
      exact ⟨⟨_, rfl, HW6.out⟩, B6.out⟩
    | some s =>
      have HOT6 := hide (HOT.out w6 B6.out)
      have HF6 := hide (fun W => HER.out W s rfl)
      simp only [errV]
      have hq := run_eql_types (P := Tryz.prog) w6 143 209 (.string s) (.pointer (some ax)) Tryz.underlying100 (by decide)
      go_wp2_with (simp only [hq])
      refine HOT6.out.mono ?_
      rintro e w7 ⟨⟨v7, rfl, hb7⟩, b7⟩
      have B7 := hide (B6.out.trans (b7.mono B6.out.size))
      obtain ⟨a7, c7, e7⟩ := buildE_form hb7
      subst e7
      have HB7 := hide (buildE_le hb7 B6.out.size)
      clear b7 hb7 hq
      go_wp2_with fail
      refine (faultError_any s _).mono ?_
      rintro e w8 ⟨rfl, rfl⟩
      go_wp2_with fail
      refine (HF6.out _).mono ?_
      rintro e w9 ⟨rfl, b9⟩
      have HB9 := hide (buildE_below HB7.out b9)
      have B9 := hide (B7.out.trans (b9.mono B7.out.size))
      clear b9
      go_wp2
      refine bodyPost_ret (v := .tuple #[.slice a7 T.length c7, .string (lineB ⟨#[45]⟩ s), .bool true]) (by simp [results, Tryz.results36, go_sem]) rfl ?_
      exact ⟨⟨_, rfl, HB9.out⟩, B9.out⟩
theorem onLists_any (T : List EntD) (ts : List ByteArray) (ao : Option Addr) (cap : Nat) (b0 off c0 : Nat) (w : World) (x : Value) (r : ByteArray) (er : Option ByteArray) (T2 : List EntD)
    (hT : TabR T) (hes : EntriesAt w ao T) (hts : TextsAt w (some ⟨b0, off, none⟩) ts) (hz : ∀ y ∈ ts, y.size ≤ 1000000) (hl : 2 ≤ ts.length) (hl2 : ts.length ≤ 1048576) (hc : ts.length ≤ c0) (hok : okS ts = true) (hx : OthV w x) (her : ∀ s, er = some s → s.size ≤ 1048576)
    (hdo : ∀ w1 b, WorkE 69 w1 w.heap.size b T 1 → Below w.heap.size w w1 → Calls Tryz.prog 41 #[.pointer (some ⟨b, 0, none⟩), .string (upT (ts[0]'(by omega))), .slice (some ⟨b0, off + 1, none⟩) (ts.length - 1) (c0 - 1)] w1 (DoP 69 w.heap.size b w1 r er T2)) :
    Calls Tryz.prog 19 #[.slice ao T.length cap, .slice (some ⟨b0, off, none⟩) ts.length c0] w fun e w' => (∃ v, e = .returned (.tuple #[v, .string (outT T r er T2).2, .bool true]) ∧ BuildE w' w.heap.size v (outT T r er T2).1) ∧ Below w.heap.size w w' := by
  obtain ⟨wA, hwA⟩ : ∃ wA, wA = w.alloc (.cells #[.slice none 0 0, .slice none 0 0] 69) := ⟨_, rfl⟩
  have BA : Hid (Below w.heap.size w wA) := by rw [hwA]; exact (Below.refl _ w).alloc (Nat.le_refl _) _
  have PA : Hid (wA.heap[w.heap.size]? = some (.cells ⟨[.slice none 0 0, .slice none 0 0]⟩ 69 (0, 0))) := by rw [hwA]; exact heap_alloc_new _ _
  have hmf : ∀ (fn : Fn) (first cap : Array Value) (w : World), (Instr.makeFunc fn first cap).run Tryz.prog w = .ok (.func fn first cap) w := fun _ _ _ _ => rfl
  have HC := hide (listCommand_any T ts ao cap b0 off c0 w wA w.heap.size _ _ x r er T2 rfl BA.out (Nat.le_refl _) PA.out hT hes hts hz hl hl2 hc hok hx her (fun w1 h1 h2 => hdo w1 w.heap.size h1 h2))
  clear hT hes hts hz hok hx her hdo BA PA
  go_enter Tryz.func19, Tryz.ntmps19
  go_upto_region 2 with fail
  rw [← hwA]
  clear hwA
  go_wp2_with fail
  refine HC.out.mono ?_
  rintro e w1 ⟨⟨v, rfl, hb⟩, b1⟩
  have HB := hide hb
  have B1 := hide b1
  clear hb b1
  go_wp2
  refine bodyPost_ret (v := .tuple #[v, .string (outT T r er T2).2, .bool true]) (by simp [results, Tryz.results19, go_sem]) rfl ?_
  exact ⟨⟨v, rfl, HB.out⟩, B1.out⟩
def RowTextC (w : World) (B : Nat) (v : Value) (ts : List ByteArray) : Prop := RowText w B v ts ∧ ∃ a c, v = .slice a ts.length c ∧ ts.length ≤ c
theorem rowTextC_nil (w : World) (B : Nat) : RowTextC w B (.slice none 0 0) [] := ⟨.inl ⟨rfl, rfl⟩, none, 0, rfl, Nat.le_refl _⟩
theorem rowTextC_lt {w : World} {B : Nat} {v : Value} {ts : List ByteArray} (h : RowTextC w B v ts) : ∀ g, v.ownBlock = some g → B ≤ g ∧ g < w.heap.size := rowText_lt h.1
theorem rowTextC_keep {w w' : World} {B : Nat} {v : Value} {ts : List ByteArray} (h : RowTextC w B v ts) (hk : ∀ g, v.ownBlock = some g → w'.heap[g]? = w.heap[g]?) : RowTextC w' B v ts := ⟨rowText_keep h.1 hk, h.2⟩
theorem rowTextC_below {w w' : World} {B : Nat} {v : Value} {ts : List ByteArray} (h : RowTextC w B v ts) (hb : Below w.heap.size w w') : RowTextC w' B v ts := ⟨rowText_below h.1 hb, h.2⟩
theorem rowTextC_le {w : World} {B B' : Nat} {v : Value} {ts : List ByteArray} (h : RowTextC w B v ts) (hB : B' ≤ B) : RowTextC w B' v ts := ⟨rowText_le h.1 hB, h.2⟩
theorem rowTextC_own {w : World} {B : Nat} {v : Value} {ts : List ByteArray} (h : w.ownsRow B 9 1 v ts.length (ts.map Value.string)) : RowTextC w B v ts := by
  refine ⟨rowText_own h, ?_⟩
  rcases h.2 with ⟨rfl, hn⟩ | ⟨g, cap, cur, rfl, hB, hC, hle, _⟩
  · exact ⟨none, 0, by rw [hn], by omega⟩
  · exact ⟨_, cap, rfl, hle⟩
theorem ownValC_any (v : ValD) (ao : Option Addr) (cap : Nat) (w : World) (hl : v.items.length ≤ 1048576) (ht : v.text.size ≤ 1048576) (hts : TextsAt w ao v.items) (hsz : ∀ s ∈ v.items, s.size ≤ 1048576) :
    Calls Tryz.prog 136 #[.agg #[.int .i64 v.kind, .int .i64 v.til, .string v.text, .slice ao v.items.length cap]] w fun e w' => (∃ a c, e = .returned (.agg #[.int .i64 v.kind, .int .i64 v.til, .string v.text, .slice a v.items.length c]) ∧ RowTextC w' w.heap.size (.slice a v.items.length c) v.items) ∧ Below w.heap.size w w' := by
  obtain ⟨k, u, t, ts⟩ := v
  simp only at hl ht hts hsz ⊢
  have HT := hide hts
  have HS := hide hsz
  have HOT := hide (fun W => ownText_any t W ht)
  clear hts hsz
  obtain ⟨wb, hwb⟩ : ∃ wb, wb = (w.alloc (.cells #[.int .i64 k, .int .i64 u, .string t, .slice ao ts.length cap] 38)).alloc (.cells #[.int .i64 0, .int .i64 0, .string ⟨#[]⟩, .slice none 0 0] 38) := ⟨_, rfl⟩
  have B0 : Hid (Below w.heap.size w wb) := by rw [hwb]; exact ((Below.refl _ w).alloc (Nat.le_refl _) _).alloc (by simp) _
  have HZ : Hid (wb.heap[w.heap.size]? = some (.cells #[.int .i64 k, .int .i64 u, .string t, .slice ao ts.length cap] 38 (0, 0)) ∧ wb.heap.size = w.heap.size + 1 + 1) := by
    rw [hwb]
    exact ⟨((Below.refl (w.heap.size + 1) (w.alloc (.cells #[.int .i64 k, .int .i64 u, .string t, .slice ao ts.length cap] 38))).alloc (by simp) _ |>.block w.heap.size (by omega)).trans (heap_alloc_new w _), by simp⟩
  have HR : Hid (wb.heap[w.heap.size + 1]? = some (.cells #[.int .i64 0, .int .i64 0, .string ⟨#[]⟩, .slice none 0 0] 38 (0, 0))) := by
    show _ = _
    rw [hwb, show w.heap.size + 1 = (w.alloc (.cells #[.int .i64 k, .int .i64 u, .string t, .slice ao ts.length cap] 38)).heap.size from by simp]
    exact heap_alloc_new _ _
  have KC : Hid (∀ X, Below wb.heap.size wb X → X.cell? ⟨w.heap.size, 0, none⟩ = some (.int .i64 k) ∧ X.cell? ⟨w.heap.size, 1, none⟩ = some (.int .i64 u) ∧ X.cell? ⟨w.heap.size, 2, none⟩ = some (.string t)) := fun X hX => by
    have h := val_cells (val_keep HZ.out.1 hX (by have := HZ.out.2; omega))
    exact ⟨h.1, h.2.1, h.2.2.1⟩
  go_enter Tryz.func136, Tryz.ntmps136
  go_upto_region 1 with fail
  rw [← hwb]
  clear hwb
  go_cut [3] from 5 (fun pp wx => ∃ o, pp = .pointer (some ⟨o, 0, none⟩) ∧ OwnV w wx o k u t (.slice ao ts.length cap) (.slice none 0 0) [])
  case first =>
    rename_i hJ9 hK9
    refine wp_region_held_drew (S := fun X => X.cell? ⟨w.heap.size, 0, none⟩ = some (.int .i64 k) ∧ X.cell? ⟨w.heap.size, 1, none⟩ = some (.int .i64 u) ∧ X.cell? ⟨w.heap.size, 2, none⟩ = some (.string t)) (by kernel_rfl) ?hS0 (fun hHeld => ?_)
    case hS0 => exact KC.out _ (Below.refl _ _).drew
    refine wpAnyH_take (i := 0) (oi := _) (v := .pointer (some ⟨w.heap.size, 0, none⟩)) rfl (by kernel_rfl) (by kernel_rfl) (by kernel_rfl) (fun _ _ _ h => h) (Or.inl ⟨by rfl, ?hy⟩) (by assumption) ?_
    case hy => intro w hSw; (try dsimp only at hSw); go_simp; (try with_reducible rfl)
    try simp only [Act.put]
    refine wpAnyH_take (i := 1) (oi := _) (v := .int .i64 k) rfl (by kernel_rfl) (by kernel_rfl) (by kernel_rfl) (fun _ _ _ h => h) (Or.inl ⟨by rfl, ?hy⟩) (by assumption) ?_
    case hy => intro w hSw; (try dsimp only at hSw); obtain ⟨hr0, hr1, hr2⟩ := hSw; go_simp; (try with_reducible rfl)
    try simp only [Act.put]
    refine wpAnyH_take (i := 2) (oi := _) (v := .pointer (some ⟨w.heap.size, 1, none⟩)) rfl (by kernel_rfl) (by kernel_rfl) (by kernel_rfl) (fun _ _ _ h => h) (Or.inl ⟨by rfl, ?hy⟩) (by assumption) ?_
    case hy => intro w hSw; (try dsimp only at hSw); go_simp; (try with_reducible rfl)
    try simp only [Act.put]
    refine wpAnyH_take (i := 3) (oi := _) (v := .int .i64 u) rfl (by kernel_rfl) (by kernel_rfl) (by kernel_rfl) (fun _ _ _ h => h) (Or.inl ⟨by rfl, ?hy⟩) (by assumption) ?_
    case hy => intro w hSw; (try dsimp only at hSw); obtain ⟨hr0, hr1, hr2⟩ := hSw; go_simp; (try with_reducible rfl)
    try simp only [Act.put]
    refine wpAnyH_take (i := 4) (oi := _) (v := .pointer (some ⟨w.heap.size, 2, none⟩)) rfl (by kernel_rfl) (by kernel_rfl) (by kernel_rfl) (fun _ _ _ h => h) (Or.inl ⟨by rfl, ?hy⟩) (by assumption) ?_
    case hy => intro w hSw; (try dsimp only at hSw); go_simp; (try with_reducible rfl)
    try simp only [Act.put]
    refine wpAnyH_take (i := 5) (oi := _) (v := .string t) rfl (by kernel_rfl) (by kernel_rfl) (by kernel_rfl) (fun _ _ _ h => h) (Or.inl ⟨by rfl, ?hy⟩) (by assumption) ?_
    case hy => intro w hSw; (try dsimp only at hSw); obtain ⟨hr0, hr1, hr2⟩ := hSw; go_simp; (try with_reducible rfl)
    try simp only [Act.put]
    refine wpAnyH_ready (rs := [6, 8]) (by kernel_rfl) (by simp) ?_
    refine AllReadyH.cons (o := _) rfl (fun K hK => ?step) ?_
    case step =>
      go_simp
      refine (HOT.out _).mono ?_
      rintro e x1 ⟨rfl, bx⟩
      have E1 : Hid (Below wb.heap.size wb x1) := (Below.refl wb.heap.size wb).drew.trans bx
      clear bx
      refine hK.out _ _ ?hS (fun hHeld => ?_)
      case hS => exact KC.out _ E1.out
      clear hK K
      try simp only [Act.put]
      refine wpAnyH_take (i := 7) (oi := _) (v := .agg #[.int .i64 k, .int .i64 u, .string t, .slice none 0 0]) rfl (by kernel_rfl) (by kernel_rfl) (by kernel_rfl) (fun _ _ _ h => h) (Or.inl ⟨by rfl, ?hy⟩) (by assumption) ?_
      case hy => intro w hSw; (try dsimp only at hSw); go_simp; (try with_reducible rfl)
      try simp only [Act.put]
      refine wpAnyH_ready (rs := [8]) (by kernel_rfl) (by simp) ?_
      refine AllReadyH.cons (o := _) rfl (fun K hK => ?step) ?_
      case step =>
        go_simp
        refine hK.out _ _ ?hS (fun hHeld => ?_)
        case hS => exact KC.out _ (E1.out.alloc E1.out.size (.cells #[.int .i64 0, .int .i64 0, .string ⟨#[]⟩, .slice none 0 0] 38))
        clear hK K
        try simp only [Act.put]
        refine wpAnyH_ready (rs := [9]) (by kernel_rfl) (by simp) ?_
        refine AllReadyH.cons (o := _) rfl (fun K hK => ?step) ?_
        case step =>
          go_simp
          refine hK.out _ _ ?hS (fun hHeld => ?_)
          case hS => exact KC.out _ (E1.out.alloc E1.out.size _)
          clear hK K
          try simp only [Act.put]
          refine wpAnyH_done (by kernel_rfl) ?_ _
          refine hK9 _ _ (Met.intro (hJ9 _ _ ?_)); (repeat apply Exists.intro); refine ⟨?_, rfl⟩
          exact ⟨x1.heap.size, rfl, ownV_new HZ.out HR.out E1.out B0.out⟩
        exact AllReadyH.nil
      exact AllReadyH.nil
    refine AllReadyH.cons (o := _) rfl (fun K hK => ?step) ?_
    case step =>
      go_simp
      refine hK.out _ _ ?hS (fun hHeld => ?_)
      case hS => exact KC.out _ ((Below.refl wb.heap.size wb).alloc (Nat.le_refl _) (.cells #[.int .i64 0, .int .i64 0, .string ⟨#[]⟩, .slice none 0 0] 38)).drew
      clear hK K
      try simp only [Act.put]
      refine wpAnyH_ready (rs := [6]) (by kernel_rfl) (by simp) ?_
      refine AllReadyH.cons (o := _) rfl (fun K hK => ?step) ?_
      case step =>
        go_simp
        refine (HOT.out _).mono ?_
        rintro e x1 ⟨rfl, bx⟩
        have E1 : Hid (Below wb.heap.size wb x1) := ((Below.refl wb.heap.size wb).alloc (Nat.le_refl _) (.cells #[.int .i64 0, .int .i64 0, .string ⟨#[]⟩, .slice none 0 0] 38)).drew.trans (bx.mono (by simp))
        have GX := hide (blk_newd bx)
        clear bx
        refine hK.out _ _ ?hS (fun hHeld => ?_)
        case hS => exact KC.out _ E1.out
        clear hK K
        try simp only [Act.put]
        refine wpAnyH_take (i := 7) (oi := _) (v := .agg #[.int .i64 k, .int .i64 u, .string t, .slice none 0 0]) rfl (by kernel_rfl) (by kernel_rfl) (by kernel_rfl) (fun _ _ _ h => h) (Or.inl ⟨by rfl, ?hy⟩) (by assumption) ?_
        case hy => intro w hSw; (try dsimp only at hSw); go_simp; (try with_reducible rfl)
        try simp only [Act.put]
        refine wpAnyH_ready (rs := [9]) (by kernel_rfl) (by simp) ?_
        obtain ⟨y0, y1, y2, y3⟩ := val_cells GX.out
        obtain ⟨f0, f1, f2, f3⟩ := val_frozen GX.out
        refine AllReadyH.cons (o := _) rfl (fun K hK => ?step) ?_
        case step =>
          go_simp
          refine hK.out _ _ ?hS (fun hHeld => ?_)
          case hS => exact KC.out _ ((((E1.out.setCell (p := ⟨wb.heap.size, 0, none⟩) (Nat.le_refl _) _).setCell (p := ⟨wb.heap.size, 1, none⟩) (Nat.le_refl _) _).setCell (p := ⟨wb.heap.size, 2, none⟩) (Nat.le_refl _) _).setCell (p := ⟨wb.heap.size, 3, none⟩) (Nat.le_refl _) _)
          clear hK K
          try simp only [Act.put]
          refine wpAnyH_done (by kernel_rfl) ?_ _
          refine hK9 _ _ (Met.intro (hJ9 _ _ ?_)); (repeat apply Exists.intro); refine ⟨?_, rfl⟩
          exact ⟨wb.heap.size, rfl, ownV_old HZ.out HR.out GX.out E1.out B0.out⟩
        exact AllReadyH.nil
      exact AllReadyH.nil
    exact AllReadyH.nil
  case rest =>
  obtain ⟨o, rfl, hov⟩ := hcut
  have HOV := hide hov
  clear hov
  obtain ⟨p0, p1, p2, p3⟩ := val_cells HOV.out.1
  go_wp2_with fail
  clear p0 p1 p2 p3
  go_loopw [17] (fun ii wr => ∃ (k1 : Nat) (vv : Value), ii = .int .i64 (k1 : Int) ∧ k1 ≤ ts.length ∧ Hid (OwnV w wr o k u t (.slice ao ts.length cap) vv (ts.take k1))) (fun ii _ => ts.length - (intOf ii).toNat)
  case atStart => exact ⟨0, _, rfl, Nat.zero_le _, HOV⟩
  case round =>
    obtain ⟨k1, vv, rfl, hk, HO⟩ := hrel
    by_cases hlt : k1 < ts.length
    · have hlt' : decide ((k1 : Int) < (ts.length : Int)) = true := by simp; omega
      obtain ⟨b, off, rfl, hbw, hc0⟩ := textsAt_keep HT.out HO.out.2.2.2.2.1 k1 hlt
      have hsF := HS.out ts[k1] (List.getElem_mem hlt)
      have HTK := hide (List.take_succ_eq_append_getElem hlt)
      obtain ⟨F, HF⟩ : ∃ F, Hid (ts[k1] = F) := ⟨_, hide rfl⟩
      rw [HF.out] at hc0 hsF HTK
      have hi0 : (0 : Int) ≤ (k1 : Int) := by omega
      have hi1 : (k1 : Int) < (ts.length : Int) := by omega
      obtain ⟨L, HL⟩ : ∃ L, Hid (ts.take k1 = L) := ⟨_, hide rfl⟩
      have hLl : L.length ≤ 1048576 := by rw [← HL.out, List.length_take]; omega
      rw [HL.out] at HO HTK
      obtain ⟨aa, ca, rfl⟩ := slice_form HO.out.2.2.2.1
      have HOW := hide HO.out.2.2.2.1
      have hoB : o < wr.heap.size := obj_lt HO.out.2.2.1
      obtain ⟨-, -, -, hv3⟩ := val_cells HO.out.2.2.1
      go_wp2_with fail
      go_region_law ((first | (refine step_app_txt _ (o + 1) (by rfl) _ _ (by rfl) _ L F (by rfl) (HO4.out.alloc _) w4.heap.size (by simp [Act.eval]) (heap_alloc_new w4 _) hLl (by simp; omega) ?_; intro g5 cap5 w5 ho5 hb5 hgr5 hg5 hgl5; have B5 : Hid (Below (o + 1) w4 w5) := ((Below.refl _ w4).alloc (by omega) _).trans hb5; have HO5 := hide ho5; have hn0 := (B5.out.block o (by omega)).trans HV4.out; obtain ⟨m0, m1, m2, m3⟩ := val_cells hn0; obtain ⟨l0, l1, l2, l3⟩ := val_frozen hn0; have HN0 := hide hn0; clear hn0 ho5 hb5 hgr5 hg5 hgl5) | (go_simp; go_at_call 135; refine (ownText_any F _ hsF).mono ?_; rintro e w4 ⟨rfl, b4⟩; have E4 : Hid (Below wr.heap.size wr w4) := (Below.refl _ wr).drew.trans b4; have hs4 : wr.heap.size ≤ w4.heap.size := E4.out.size; have HV4 := hide ((E4.out.block o hoB).trans HO.out.2.2.1); obtain ⟨-, -, -, hall0⟩ := val_cells HV4.out; have hall : (w4.alloc (.cells #[.string F] 9)).cell? ⟨o, 3, none⟩ = _ := (((Below.refl _ w4).alloc (Nat.le_refl _) _).cell (p := ⟨o, 3, none⟩) (by show o < _; omega)).trans hall0; have HO4 := hide (ownsRow_below HOW.out E4.out); clear b4)))
      all_goals
        go_wp2
        go_roundw
        case rel =>
          refine ⟨k1 + 1, .slice (some ⟨g5, 0, none⟩) (L.length + 1) cap5, by go_num, by omega, ?_⟩
          have h5 := B5.out
          have hx : (w5.setCell ⟨o, 3, none⟩ (.slice (some ⟨g5, 0, none⟩) (L.length + 1) cap5)).heap[o]? = some (.cells #[.int .i64 k, .int .i64 u, .string t, .slice (some ⟨g5, 0, none⟩) (L.length + 1) cap5] 38 (0, 0)) := (heap_setCell_same _ _ _ _ _ _ HN0.out).trans rfl
          have hoo := HO.out.2.2.2.2.2
          show OwnV _ _ _ _ _ _ _ _ _
          rw [HTK.out]
          refine ⟨?_, ?_, hx, ?_, ?_, hoo⟩
          · rw [Below.heap_setCell _ _ _ _ (by simp; omega), h5.block _ (by omega), E4.out.block _ (obj_lt HO.out.1)]; exact HO.out.1
          · rw [Below.heap_setCell _ _ _ _ (by simp; omega), h5.block _ (by omega), E4.out.block _ (obj_lt HO.out.2.1)]; exact HO.out.2.1
          · exact HO5.out.kept (grownBy_store (World.grownBy.refl _ _) 3 _) (by cases hh : (Value.slice (some ⟨g5, 0, none⟩) (L.length + 1) cap5).ownBlock with | none => exact .inl rfl | some bb => exact .inr (fun e => by have := (HO5.out.lt bb hh).1; have e2 : bb = o := Option.some.inj e; omega))
          · exact ((HO.out.2.2.2.2.1.trans (E4.out.mono (HO.out.2.2.2.2.1).size)).trans (h5.mono (by omega))).setCell (p := ⟨o, 3, none⟩) (by show w.heap.size ≤ o; omega) _
        case measure => simp [intOf]; omega
    · have hlt' : decide ((k1 : Int) < (ts.length : Int)) = false := by simp; omega
      have hke : k1 = ts.length := by omega
      subst hke
      have HO2 := HO.out
      rw [List.take_length] at HO2
      have HX := hide HO2
      clear HO2 HO
      obtain ⟨aa, ca, rfl⟩ := slice_form HX.out.2.2.2.1
      obtain ⟨q0, q1, q2, q3⟩ := val_cells HX.out.2.2.1
      obtain ⟨r0, r1, r2, r3⟩ := val_cells HX.out.2.1
      obtain ⟨f0, f1, f2, f3⟩ := val_frozen HX.out.2.1
      go_wp2_with fail
      refine bodyPost_ret (v := .agg #[.int .i64 k, .int .i64 u, .string t, .slice aa ts.length ca]) (by simp [results, Tryz.results136, go_sem, r0, r1, r2, r3]) rfl ⟨⟨aa, ca, rfl, ?_⟩, ?_⟩
      · have hr := rowTextC_own HX.out.2.2.2.1
        have hoo := HX.out.2.2.2.2.2
        refine rowTextC_le (rowTextC_keep hr (fun g hg => ?_)) (by omega : w.heap.size ≤ o + 1)
        have h1 := rowTextC_lt hr g hg
        rw [Below.heap_setCell _ _ _ _ (by simp; omega), Below.heap_setCell _ _ _ _ (by simp; omega), Below.heap_setCell _ _ _ _ (by simp; omega), Below.heap_setCell _ _ _ _ (by simp; omega)]
      · exact (((HX.out.2.2.2.2.1.setCell (p := ⟨w.heap.size + 1, 0, none⟩) (by simp) _).setCell (p := ⟨w.heap.size + 1, 1, none⟩) (by simp) _).setCell (p := ⟨w.heap.size + 1, 2, none⟩) (by simp) _).setCell (p := ⟨w.heap.size + 1, 3, none⟩) (by simp) _
theorem implFindC_any (es : List EntD) (key : ByteArray) (ao : Option Addr) (cap : Nat) (w : World) (hl : es.length ≤ 1048576) (hes : EntriesAt w ao es) (hsz : ∀ e ∈ es, EntS 1048576 e) :
    Calls Tryz.prog 113 #[.slice ao es.length cap, .string key] w fun e w' => (∃ a c, e = .returned (.tuple #[.agg #[.int .i64 (findV es key).kind, .int .i64 (findV es key).til, .string (findV es key).text, .slice a (findV es key).items.length c], .bool (findB es key)]) ∧ RowTextC w' w.heap.size (.slice a (findV es key).items.length c) (findV es key).items) ∧ Below w.heap.size w w' := by
  have HT := hide hes
  have HS := hide hsz
  have HV : Hid (∀ r, findE es key = r → findV es key = r.getD noVal ∧ findB es key = r.isSome) := fun r h => by unfold findV findB; rw [h]; exact ⟨rfl, rfl⟩
  generalize findV es key = V at HV ⊢
  generalize findB es key = R at HV ⊢
  have HE0 : Hid (findE es key = findE (es.drop 0) key) := rfl
  clear hes hsz
  obtain ⟨wb, hwb⟩ : ∃ wb, wb = w.alloc (.cells #[.int .i64 0, .int .i64 0, .string ⟨#[]⟩, .slice none 0 0] 38) := ⟨_, rfl⟩
  have HB0 : Hid (Below w.heap.size w wb) := by rw [hwb]; exact (Below.refl _ w).alloc (Nat.le_refl _) _
  have HR0 : Hid (wb.heap[w.heap.size]? = some (.cells #[.int .i64 0, .int .i64 0, .string ⟨#[]⟩, .slice none 0 0] 38 (0, 0))) := by rw [hwb]; exact heap_alloc_new _ _
  go_enter Tryz.func113, Tryz.ntmps113
  go_wp2_with fail
  rw [← hwb]
  clear hwb
  go_loopw [10] (fun ii wr => ∃ (k : Nat), ii = .int .i64 (k : Int) ∧ k ≤ es.length ∧ Hid (findE es key = findE (es.drop k) key) ∧ Hid (Below w.heap.size w wr) ∧ Hid (wr.heap[w.heap.size]? = some (.cells #[.int .i64 0, .int .i64 0, .string ⟨#[]⟩, .slice none 0 0] 38 (0, 0)))) (fun ii _ => es.length - (intOf ii).toNat)
  case atStart => exact ⟨0, rfl, by omega, HE0, HB0, HR0⟩
  case round =>
    obtain ⟨k, rfl, hk, HE, HB, HR⟩ := hrel
    by_cases hlt : k < es.length
    · have hlt' : decide ((k : Int) < (es.length : Int)) = true := by simp; omega
      obtain ⟨b, off, rfl, hbw, hc0, hc1, hc2, hc3, a, c, hc4, hta⟩ := entriesAt_keep HT.out HB.out k hlt
      have hws := HB.out.size
      have hsA := HS.out es[k] (List.getElem_mem hlt)
      have HY := hide (fun h => HE.out.trans (findE_here (key := key) hlt h))
      have HNo := hide (fun h => HE.out.trans (findE_next (key := key) hlt h))
      have HOV := hide (fun W (hW : Below wr.heap.size wr W) => ownValC_any es[k].val a c W hsA.2.2.1 hsA.2.1 (textsAt_keep hta hW) hsA.2.2.2)
      generalize es[k] = F at hc0 hc1 hc2 hc3 hc4 HY HNo HOV
      clear hsA hta
      obtain ⟨ky, kd, u, t, ts⟩ := F
      simp only at hc0 hc1 hc2 hc3 hc4 HY HNo HOV
      have hi0 : (0 : Int) ≤ (k : Int) := by omega
      have hi1 : (k : Int) < (es.length : Int) := by omega
      have B1 : Hid (Below wr.heap.size wr (wr.alloc (.cells #[.string ky, .int .i64 kd, .int .i64 u, .string t, .slice a ts.length c] 40))) := (Below.refl _ wr).alloc (Nat.le_refl _) _
      have W1 := hide (HB.out.trans (B1.out.mono hws))
      cases hkk : (ky.toList == key.toList) with
      | true =>
        obtain ⟨hV, hR⟩ := HV.out _ (HY.out hkk)
        have HVV : Hid (V = ⟨kd, u, t, ts⟩ ∧ R = true) := ⟨hV, hR⟩
        clear hV hR
        obtain ⟨rfl, rfl⟩ := HVV.out
        go_wp2_with fail
        refine (HOV.out _ B1.out).mono ?_
        rintro e w2 ⟨⟨a2, c2, rfl, hr2⟩, b2⟩
        have hp := (b2.block w.heap.size (by have := obj_lt HR.out; simp; omega)).trans ((B1.out.block w.heap.size (obj_lt HR.out)).trans HR.out)
        have HR2 := hide hr2
        have HB2 := hide (W1.out.trans (b2.mono W1.out.size))
        have hlt2 := hide (rowTextC_lt hr2)
        have hwsz := obj_lt HR.out
        clear b2 hr2
        obtain ⟨r0, r1, r2, r3⟩ := val_cells hp
        obtain ⟨f0, f1, f2, f3⟩ := val_frozen hp
        clear hp
        go_wp2_with fail
        refine bodyPost_ret (v := .tuple #[.agg #[.int .i64 kd, .int .i64 u, .string t, .slice a2 ts.length c2], .bool true]) (by simp [results, Tryz.results113, go_sem, r0, r1, r2, r3]) rfl ⟨⟨a2, c2, rfl, ?_⟩, ?_⟩
        · refine rowTextC_le (rowTextC_keep HR2.out (fun g hg => ?_)) W1.out.size
          have h1 := hlt2.out g hg
          simp at h1
          rw [Below.heap_setCell _ _ _ _ (by simp; omega), Below.heap_setCell _ _ _ _ (by simp; omega), Below.heap_setCell _ _ _ _ (by simp; omega), Below.heap_setCell _ _ _ _ (by simp; omega)]
        · exact (((HB2.out.setCell (p := ⟨w.heap.size, 0, none⟩) (Nat.le_refl _) _).setCell (p := ⟨w.heap.size, 1, none⟩) (Nat.le_refl _) _).setCell (p := ⟨w.heap.size, 2, none⟩) (Nat.le_refl _) _).setCell (p := ⟨w.heap.size, 3, none⟩) (Nat.le_refl _) _
      | false =>
        have HE1 := hide (HNo.out hkk)
        go_wp2
        go_roundw
        case rel => exact ⟨k + 1, by go_num, by omega, HE1, W1, (B1.out.block w.heap.size (obj_lt HR.out)).trans HR.out⟩
        case measure => simp [intOf]; omega
    · have hlt' : decide ((k : Int) < (es.length : Int)) = false := by simp; omega
      have hke : k = es.length := by omega
      subst hke
      obtain ⟨hV, hR⟩ := HV.out none (HE.out.trans (by rw [List.drop_length]; rfl))
      have HVV : Hid (V = noVal ∧ R = false) := ⟨hV, hR⟩
      clear hV hR
      obtain ⟨rfl, rfl⟩ := HVV.out
      obtain ⟨r0, r1, r2, r3⟩ := val_cells HR.out
      obtain ⟨f0, f1, f2, f3⟩ := val_frozen HR.out
      go_wp2_with fail
      refine bodyPost_ret (v := .tuple #[.agg #[.int .i64 0, .int .i64 0, .string ⟨#[]⟩, .slice none 0 0], .bool false]) (by simp [results, Tryz.results113, go_sem, r0, r1, r2, r3]) rfl ⟨⟨none, 0, rfl, rowTextC_nil _ _⟩, ?_⟩
      exact (((HB.out.setCell (p := ⟨w.heap.size, 0, none⟩) (Nat.le_refl _) _).setCell (p := ⟨w.heap.size, 1, none⟩) (Nat.le_refl _) _).setCell (p := ⟨w.heap.size, 2, none⟩) (Nat.le_refl _) _).setCell (p := ⟨w.heap.size, 3, none⟩) (Nat.le_refl _) _
theorem findC_any (T : List EntD) (key : ByteArray) (kind : Int) (w : World) (B b : Nat) (tb : TypeId) (hT : TabR T) (hW : WorkS tb w B b T) :
    Calls Tryz.prog 109 #[.pointer (some ⟨b, 0, none⟩), .string key, .int .i64 kind] w fun e w' => (∃ a c, e = .returned (.tuple #[valC (lookK T key kind).1 (.slice a (lookK T key kind).1.items.length c), .bool (lookK T key kind).2.1, errV (lookK T key kind).2.2]) ∧ RowTextC w' w.heap.size (.slice a (lookK T key kind).1.items.length c) (lookK T key kind).1.items) ∧ Below w.heap.size w w' := by
  obtain ⟨hBb, v, E, hbv, hbuild⟩ := hW
  obtain ⟨ao, cap, rfl⟩ := buildE_form hbuild
  obtain ⟨wA, hwA⟩ : ∃ wA, wA = w.alloc (.cells #[.int .i64 0, .int .i64 0, .string ⟨#[]⟩, .slice none 0 0] 38) := ⟨_, rfl⟩
  have BA : Hid (Below w.heap.size w wA) := by rw [hwA]; exact (Below.refl _ w).alloc (Nat.le_refl _) _
  have PA : Hid (wA.heap[w.heap.size]? = some (.cells #[.int .i64 0, .int .i64 0, .string ⟨#[]⟩, .slice none 0 0] 38 (0, 0))) := by rw [hwA]; exact heap_alloc_new _ _
  have hT20 := hT.1
  have HF := hide (implFindC_any T key ao cap wA (by omega) (entriesAt_keep (rowEnt_rows (buildE_row hbuild)).2 BA.out) (tab_ents hT))
  have xb : wA.cell? ⟨b, 0, none⟩ = some (.slice ao T.length cap) := (box1w ((BA.out.block b (obj_lt hbv)).trans hbv)).1
  have HL : Hid (lookK T key kind = if findB T key = true then (if (findV T key).kind = kind then (findV T key, true, none) else (noVal, true, some wrongK)) else (⟨kind, 0, ⟨#[]⟩, []⟩, false, none)) := by
    show _ = _
    unfold lookK findB findV
    cases findE T key with
    | none => rfl
    | some v => rfl
  clear hbuild hbv hT
  generalize hr : lookK T key kind = r at HL ⊢
  clear hr
  generalize findV T key = V at HF HL
  generalize findB T key = fb at HF HL
  obtain ⟨k, u, t, ts⟩ := V
  simp only at HF HL
  go_enter Tryz.func109, Tryz.ntmps109
  go_upto_region 1 with fail
  rw [← hwA]
  clear hwA
  go_wp2_with fail
  refine HF.out.mono ?_
  rintro e w1 ⟨⟨a1, c1, rfl, r1⟩, b1⟩
  have R1 := hide r1
  have B1 := hide b1
  clear r1 b1 xb
  go_upto_region 2 with fail
  obtain ⟨wB, hwB⟩ : ∃ wB, wB = w1.alloc (.cells #[.int .i64 k, .int .i64 u, .string t, .slice a1 ts.length c1] 38) := ⟨_, rfl⟩
  rw [← hwB]
  have BB : Hid (Below w1.heap.size w1 wB) := by rw [hwB]; exact (Below.refl _ w1).alloc (Nat.le_refl _) _
  have PB : Hid (wB.heap[w1.heap.size]? = some (.cells #[.int .i64 k, .int .i64 u, .string t, .slice a1 ts.length c1] 38 (0, 0))) := by rw [hwB]; exact heap_alloc_new _ _
  clear hwB
  have B1B := hide (B1.out.trans (BB.out.mono B1.out.size))
  have hZ := (B1B.out.block _ (obj_lt PA.out)).trans PA.out
  obtain ⟨z0, z1, z2, z3⟩ := box4w hZ
  obtain ⟨f0, f1, f2, f3⟩ := box4f hZ
  obtain ⟨y0, y1, y2, y3⟩ := box4w PB.out
  have HZ := hide hZ
  have HB := hide (BA.out.trans (B1B.out.mono BA.out.size))
  have RB := hide (rowTextC_le (rowTextC_below R1.out BB.out) BA.out.size)
  clear hZ
  cases fb with
  | false =>
    have hr := HL.out
    rw [if_neg (by decide)] at hr
    subst hr
    obtain ⟨⟨r0, r1, r2, r3⟩⟩ : ∃ _ : _ ∧ _ ∧ _ ∧ _, True := ⟨box4w (box4_here HZ.out rfl (.int .i64 kind) (.int .i64 0) (.string ⟨#[]⟩) (.slice none 0 0)), trivial⟩
    have H6 := hide (box4_below HB.out (Nat.le_refl _) (.int .i64 kind) (.int .i64 0) (.string ⟨#[]⟩) (.slice none 0 0))
    go_wp2
    exact bodyPost_ret (v := .tuple #[valC ⟨kind, 0, ⟨#[]⟩, []⟩ (.slice none 0 0), .bool false, .nilIface]) (by simp [valC, results, Tryz.results109, go_sem, r0, r1, r2, r3]) rfl ⟨⟨none, 0, rfl, rowTextC_nil _ _⟩, H6.out⟩
  | true =>
    have hr := HL.out
    rw [if_pos rfl] at hr
    by_cases hk : k = kind
    · rw [if_pos hk] at hr
      subst hr
      subst hk
      have hkk : (k == k) = true := beq_self_eq_true _
      obtain ⟨⟨r0, r1, r2, r3⟩⟩ : ∃ _ : _ ∧ _ ∧ _ ∧ _, True := ⟨box4w (box4_here HZ.out rfl (.int .i64 k) (.int .i64 u) (.string t) (.slice a1 ts.length c1)), trivial⟩
      have H6 := hide (box4_below HB.out (Nat.le_refl _) (.int .i64 k) (.int .i64 u) (.string t) (.slice a1 ts.length c1))
      have R6 : Hid (RowTextC ((((wB.setCell ⟨w.heap.size, 0, none⟩ (.int .i64 k)).setCell ⟨w.heap.size, 1, none⟩ (.int .i64 u)).setCell ⟨w.heap.size, 2, none⟩ (.string t)).setCell ⟨w.heap.size, 3, none⟩ (.slice a1 ts.length c1)) w.heap.size (.slice a1 ts.length c1) ts) :=
        rowTextC_keep RB.out (fun g hg => box4_other _ _ _ (fun e => by
          obtain ⟨C, hC⟩ := text_block RB.out.1 hg
          rw [e, HZ.out] at hC
          simp at hC) _ _ _ _)
      go_wp2
      exact bodyPost_ret (v := .tuple #[valC ⟨k, u, t, ts⟩ (.slice a1 ts.length c1), .bool true, .nilIface]) (by simp [valC, results, Tryz.results109, go_sem, r0, r1, r2, r3]) rfl ⟨⟨a1, c1, rfl, R6.out⟩, H6.out⟩
    · rw [if_neg hk] at hr
      subst hr
      have hkk : (k == kind) = false := by simp [hk]
      obtain ⟨⟨r0, r1, r2, r3⟩⟩ : ∃ _ : _ ∧ _ ∧ _ ∧ _, True := ⟨box4w (box4_here HZ.out rfl (.int .i64 0) (.int .i64 0) (.string ⟨#[]⟩) (.slice none 0 0)), trivial⟩
      have H6 := hide (box4_below HB.out (Nat.le_refl _) (.int .i64 0) (.int .i64 0) (.string ⟨#[]⟩) (.slice none 0 0))
      go_wp2
      exact bodyPost_ret (v := .tuple #[valC noVal (.slice none 0 0), .bool true, errV (some wrongK)]) (by simp [valC, noVal, errV, wrongK, results, Tryz.results109, go_sem, r0, r1, r2, r3]) rfl ⟨⟨none, 0, rfl, rowTextC_nil _ _⟩, H6.out⟩
end Go.Proofs.YtifjneldjjmeaaaGreatDoor
namespace Go.Proofs
open Go.Shelf
def Tryz.laysNm217_ren : Go.Shelf.Ren := ⟨fun | 17 => 123 | n => n, fun | 24 => 25 | 9 => 9 | 3 => 3 | 4 => 4 | 0 => 0 | n => n, fun | n => n⟩
theorem Tryz.laysNm217 : Go.Proofs.Lays2.n17 Tryz.prog Tryz.laysNm217_ren := {
  mixed := by kernel_rfl
  f17 := Tryz.func123.trans (congrArg some (by kernel_rfl))
  t0 := Tryz.underlying0
  a0 := Tryz.isAgg0
  z0 := Tryz.sizeOf0
  v0 := Tryz.zeroValue0
  t3 := Tryz.underlying3
  a3 := Tryz.isAgg3
  z3 := Tryz.sizeOf3
  v3 := Tryz.zeroValue3
  t4 := Tryz.underlying4
  a4 := Tryz.isAgg4
  z4 := Tryz.sizeOf4
  v4 := Tryz.zeroValue4
  t9 := Tryz.underlying9
  a9 := Tryz.isAgg9
  z9 := Tryz.sizeOf9
  v9 := Tryz.zeroValue9
  t24 := Tryz.underlying25
  a24 := Tryz.isAgg25
  z24 := Tryz.sizeOf25
  v24 := Tryz.zeroValue25 }
open Go.RowKit Go.Lib Go.Sort in
theorem Tryz.slices_Reverse_string (blk off cap : Nat) (zs : List (List UInt8)) (w : World) (hH : Holds encStr w blk off zs.toArray) (hsz : zs.length ≤ 9223372036854775807) :
    Calls Tryz.prog 123 #[.slice (some ⟨blk, off, none⟩) zs.length cap] w fun e w' => e = .returned (.tuple #[]) ∧ ∃ n, w' = putRow encStr (Sort.ahead w n) blk off zs.reverse.toArray := Any.slices_Reverse_string Tryz.laysNm217 blk off cap zs w hH hsz
end Go.Proofs
