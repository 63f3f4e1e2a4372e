import Derived.Lib.Strings
import Derived.Lib.Walk
import Derived.Lib.BufferWrite
import Derived.Lib.UnsafeStr
import Derived.Laws.MakeOwn
import Derived.Deep.Upon
import Derived.Deep.RegionHeld3
import Derived.Deep.RegionLaw
import Derived.Deep.CutRange
import Derived.Test.YtpibnhodlojajaaFl1
import Derived.Test.YtpibnhodlojajaaFl2
import Derived.Test.YtpibnhodlojajaaFl0
set_option maxRecDepth 100000
set_option maxHeartbeats 6400000
namespace Go.Proofs.Ytpibnhodlojajaa
open Go.RowKit
def kD : Nat → ByteArray
  | 0 => ⟨#[97]⟩
  | 1 => ⟨#[98]⟩
  | 2 => ⟨#[99]⟩
  | 3 => ⟨#[100]⟩
  | 4 => ⟨#[107, 101, 121]⟩
  | _ => ⟨#[107, 107]⟩
theorem kD_size (i : Nat) : 1 ≤ (kD i).size ∧ (kD i).size ≤ 20 := by
  unfold kD
  split <;> decide
theorem kD_less : ∀ i, i < 6 → ∀ m, m < i → Op.bytesLess (kD m).data.toList (kD i).data.toList = true := by decide
def kE (m : Nat) : ByteArray := ⟨#[107]⟩ ++ ⟨(Wd.decS (((10 + m : Nat) : Int))).toArray⟩
theorem kE_size : ∀ i, i < 20 → 1 ≤ (kE i).size ∧ (kE i).size ≤ 20 := by decide
theorem kD_le3 (i : Nat) : (kD i).size ≤ 3 := by
  unfold kD
  split <;> decide
theorem kE_le3 : ∀ i, i < 20 → (kE i).size ≤ 3 := by decide
theorem kE_less : ∀ i, i < 20 → ∀ m, m < i → Op.bytesLess (kE m).data.toList (kE i).data.toList = true := by decide
def keys6 : Array Value := #[.string (kD 0), .string (kD 1), .string (kD 2), .string (kD 3), .string (kD 4), .string (kD 5)]
def StT (w0 w wr : World) (g : Nat) (ao : Option Addr) (len cap q : Nat) (v : Value) (es : List EntD) : Prop :=
  CurAt w0 wr g ao len cap ∧ w.grownBy wr (some g) ∧ g < w.heap.size ∧ w.heap.size ≤ q ∧ wr.heap[q]? = some (.cells keys6 9 (0, 0)) ∧ BuildE wr w.heap.size v es
theorem stT_call {w0 w wr w' : World} {g : Nat} {ao : Option Addr} {len cap q : Nat} {v : Value} {es : List EntD} (h : StT w0 w wr g ao len cap q v es) (hc : CurAt w0 w' g ao len cap) (hg : wr.grownBy w' (some g)) : StT w0 w w' g ao len cap q v es := by
  obtain ⟨h1, h2, h3, h4, h5, h6⟩ := h
  exact ⟨hc, h2.trans hg, h3, h4, (hg.block _ (obj_lt h5) (by simp; omega)).trans h5, buildE_grown h6 hg h3⟩
theorem stT_below {w0 w wr w' : World} {g : Nat} {ao : Option Addr} {len cap q : Nat} {v : Value} {es : List EntD} (h : StT w0 w wr g ao len cap q v es) (hb : Below wr.heap.size wr w') : StT w0 w w' g ao len cap q v es := by
  obtain ⟨h1, h2, h3, h4, h5, h6⟩ := h
  exact ⟨cur_keep h1 hb (cur_lt h1), grownBy_then h2 (hb.mono h2.size), h3, h4, (hb.block _ (obj_lt h5)).trans h5, buildE_below h6 hb⟩
theorem ent_apart {W : World} {B q : Nat} {v : Value} {es : List EntD} {C : Array Value} (h : BuildE W B v es) (hq : W.heap[q]? = some (.cells C 9 (0, 0))) : v.ownBlock ≠ some q := by
  intro e
  obtain ⟨vs, -, h2, -⟩ := h
  obtain ⟨C', h1⟩ := owns_blockE h2 e
  rw [h1] at hq
  simp at hq
theorem stT_put {w0 w W w9 : World} {g : Nat} {ao : Option Addr} {len cap q : Nat} {v v' : Value} {es es' : List EntD} (h : StT w0 w W g ao len cap q v es) (hb : Below w.heap.size W w9) (hgr : W.grownBy w9 v.ownBlock) (ho : BuildE w9 w.heap.size v' es') : StT w0 w w9 g ao len cap q v' es' := by
  obtain ⟨h1, h2, h3, h4, h5, h6⟩ := h
  exact ⟨cur_keep h1 hb h3, grownBy_then h2 hb, h3, h4, (hgr.block _ (obj_lt h5) (fun e => ent_apart h6 h5 e.symm)).trans h5, ho⟩
theorem l10Table_any (w0 w : World) (g : Nat) (ao : Option Addr) (len cap : Nat) (hlen : len ≤ 1048576) (hcode : Code w0 ao len) (hc : CurAt w0 w g ao len cap) :
    Calls Try.prog 27 #[.pointer (some ⟨g, 0, none⟩)] w fun e w' => (∃ (es : List EntD) (v : Value), e = .returned v ∧ TabR es ∧ (∀ e ∈ es, e.val.til ≤ 40) ∧ (∀ e ∈ es, e.key.size ≤ 3) ∧ RowEnt w' w.heap.size v es) ∧ CurAt w0 w' g ao len cap ∧ w.grownBy w' (some g) := by
  have HBE := hide (fun W (n : Int) (hn : n ≤ 4611686018427387904) (h : CurAt w0 W g ao len cap) => below_any w0 W g ao len cap n hlen hn hcode h)
  have HON := hide (fun W (n : Int) (hn : n ≤ 4611686018427387904) (h : CurAt w0 W g ao len cap) => once_any w0 W g ao len cap n hlen hn hcode h)
  have HVA := hide (fun W (h : CurAt w0 W g ao len cap) => l10Val_any w0 W g ao len cap hlen hcode h)
  have hg := cur_lt hc
  have HU := hide hc
  clear hcode hc
  obtain ⟨wb, hwb⟩ : ∃ wb, wb = (w.alloc (.cells #[] 42)).alloc (.cells #[.string ⟨#[97]⟩, .string ⟨#[98]⟩, .string ⟨#[99]⟩, .string ⟨#[100]⟩, .string ⟨#[107, 101, 121]⟩, .string ⟨#[107, 107]⟩] 9) := ⟨_, rfl⟩
  have SB : Hid (StT w0 w wb g ao len cap (w.heap.size + 1) (.slice (some ⟨w.heap.size, 0, none⟩) 0 0) []) := by
    have hb1 : Below w.heap.size w (w.alloc (.cells #[] 42)) := (Below.refl _ w).alloc (Nat.le_refl _) _
    have hb2 : Below w.heap.size w wb := by rw [hwb]; exact hb1.alloc (by simp) _
    refine ⟨cur_keep HU.out hb2 hg, grownBy_below (some g) hb2, hg, by omega, ?_, ?_⟩
    · rw [hwb, show w.heap.size + 1 = (w.alloc (.cells #[] 42)).heap.size from by simp]
      exact heap_alloc_new _ _
    · rw [hwb]
      exact buildE_below (buildE_lit w _ (Nat.le_refl _) _ rfl) ((Below.refl _ _).alloc (Nat.le_refl _) _)
  go_enter Try.func27, Try.ntmps27
  go_upto_region 3 with fail
  rw [← hwb]
  clear hwb
  obtain ⟨q, hq⟩ : ∃ q, q = w.heap.size + 1 := ⟨_, rfl⟩
  rw [← hq] at SB ⊢
  go_wp2_with fail
  go_loopg [3, 5] 6 (fun gg vv ii wr => ∃ (k : Nat) (es : List EntD), k + gg = 6 ∧ ii = .int .i64 (k : Int) ∧ k ≤ 6 ∧ Hid (KeyedR kD k es) ∧ Hid (StT w0 w wr g ao len cap q vv es))
  case atStart => exact ⟨0, [], rfl, rfl, by omega, keyedR_zero _, SB⟩
  case round =>
    clear SB hq
    obtain ⟨k, es, hgk, rfl, hk, HK, ST⟩ := hrel
    obtain ⟨aa, ca, rfl⟩ := buildE_form ST.out.2.2.2.2.2
    have hel : es.length ≤ 1048576 := by have := HK.out.2.1; omega
    by_cases hlt : k < 6
    · have hlt' : decide ((k : Int) < 6) = true := by simp; omega
      have hi0 : (0 : Int) ≤ (k : Int) := by omega
      have hi1 : (k : Int) < 6 := by omega
      go_wp2_with fail
      refine (HON.out _ 3 (by omega) ST.out.1).mono ?_
      rintro e w3 ⟨b, rfl, c3, g3⟩
      have S3 := hide (stT_call ST.out c3 g3)
      clear ST c3 g3
      cases b
      rotate_left
      · go_wp2_with fail
        go_roundg (gk - 1)
        case measure => omega
        case rel => exact ⟨k + 1, es, by omega, by go_num, by omega, keyedR_skip HK.out, S3⟩
      obtain ⟨nk, HNK⟩ : ∃ nk, Hid (kD k = nk) := ⟨_, hide rfl⟩
      have hnm : Hid (∀ W : World, W.heap[q]? = some (.cells keys6 9 (0, 0)) → W.cell? ⟨q, k, none⟩ = some (.string nk)) := fun W hW => by
        have h := cell_of_row W q k _ _ (0, 0) hW
        rw [h, ← HNK.out]
        have : k = 0 ∨ k = 1 ∨ k = 2 ∨ k = 3 ∨ k = 4 ∨ k = 5 := by omega
        rcases this with rfl | rfl | rfl | rfl | rfl | rfl <;> rfl
      have HPUT : Hid (∀ v : ValD, ValR v → v.til ≤ 40 → KeyedR kD (k + 1) (es ++ [⟨nk, v⟩])) := fun v hv hu => by
        rw [← HNK.out]
        exact keyedR_put HK.out (by omega) (kD_size k) (fun m hm => by rw [ByteArray.toList_eq, ByteArray.toList_eq]; exact kD_less k hlt m hm) hv hu
      have SD := hide (stT_below S3.out (Below.refl _ w3).drew)
      have hcn := hnm.out _ SD.out.2.2.2.2.1
      have hcn1 := hnm.out _ S3.out.2.2.2.2.1
      have hgw : g < w.heap.size := SD.out.2.2.1
      have hwD : w.heap.size ≤ w3.drew.heap.size := SD.out.2.1.size
      go_upto_region 7 with fail
      go_region_law ((first | (have S80 := S8; clear S80; refine step_app_entG w3.drew _ w.heap.size g (by rfl) _ _ (by rfl) _ (.slice a8 ts.length c8) es ⟨nk, kd, u, t, ts⟩ (by rfl) SD.out.2.2.2.2.2 hwD (grownBy_then G8.out ((Below.refl _ w8).alloc G8.out.size _)) hgw (rowText_below R8.out ((Below.refl _ w8).alloc (Nat.le_refl _) _)) w8.heap.size (by simp [Act.eval]) (heap_alloc_new w8 _) hel ?_; intro q9 cap9 w9 ho9 hb9 hgr9; have HO9 := hide ho9; have HB9 := hide hb9; have HG9 := hide hgr9; clear ho9 hb9 hgr9) | (go_simp; go_at_call 39; refine (HVA.out _ SD.out.1).mono ?_; rintro e w8 ⟨⟨⟨kd, u, t, ts⟩, a8, c8, rfl, hvr, hu8, ho8⟩, cu8, g8⟩; have S8 := hide (stT_call SD.out cu8 g8); have G8 := hide g8; have HVR := hide (HPUT.out _ hvr hu8); have R8 := hide (rowText_own ho8); have hw8 : w.heap.size ≤ w8.heap.size := S8.out.2.1.size; have hcn8 := hnm.out _ S8.out.2.2.2.2.1; clear hvr hu8 ho8 cu8 g8)))
      all_goals
        go_wp2_with fail
        go_roundg (gk - 1)
        case measure => omega
        case rel => exact ⟨k + 1, es ++ [⟨nk, kd, u, t, ts⟩], by omega, by go_num, by omega, HVR, stT_put (stT_below S8.out ((Below.refl _ w8).alloc (Nat.le_refl _) _)) HB9.out HG9.out HO9.out⟩
    · have hlt' : decide ((k : Int) < 6) = false := by simp; omega
      go_wp2_with fail
      refine (HON.out _ 20 (by omega) ST.out.1).mono ?_
      rintro e w3 ⟨b, rfl, c3, g3⟩
      have S3 := hide (stT_call ST.out c3 g3)
      clear ST c3 g3
      cases b
      · go_wp2
        go_ret
        exact ⟨⟨es, _, rfl, HK.out.1, HK.out.2.2.2, fun e he => (by obtain ⟨m, -, e2⟩ := HK.out.2.2.1 e he; rw [e2]; exact kD_le3 m), buildE_row S3.out.2.2.2.2.2⟩, S3.out.1, S3.out.2.1⟩
      clear HK hel
      obtain ⟨w4, hw4⟩ : ∃ w4, w4 = w3.alloc (.cells #[] 42) := ⟨_, rfl⟩
      have S4 : Hid (StT w0 w w4 g ao len cap q (.slice (some ⟨w3.heap.size, 0, none⟩) 0 0) []) := by
        have h := stT_below S3.out ((Below.refl _ w3).alloc (Nat.le_refl _) (.cells #[] 42))
        rw [hw4]
        exact ⟨h.1, h.2.1, h.2.2.1, h.2.2.2.1, h.2.2.2.2.1, buildE_lit w3 _ S3.out.2.1.size _ rfl⟩
      go_upto_region 10 with fail
      rw [← hw4]
      clear hw4 S3
      go_wp2_with fail
      go_loopg [3, 6] 20 (fun gg vv ii wr => ∃ (k : Nat) (es : List EntD), k + gg = 20 ∧ ii = .int .i64 (k : Int) ∧ k ≤ 20 ∧ Hid (KeyedR kE k es) ∧ Hid (StT w0 w wr g ao len cap q vv es))
      case atStart => exact ⟨0, [], rfl, rfl, by omega, keyedR_zero _, S4⟩
      case round =>
        clear S4 hlt'
        obtain ⟨j, fs, hgj, rfl, hj, HK, ST⟩ := hrel
        obtain ⟨ab, cb, rfl⟩ := buildE_form ST.out.2.2.2.2.2
        have hel : fs.length ≤ 1048576 := by have := HK.out.2.1; omega
        go_wp2_with fail
        refine (HBE.out _ 2 (by omega) ST.out.1).mono ?_
        rintro e w5 ⟨y, rfl, hy, -, c5, g5⟩
        have hy2 : (y : Int) < 2 := hy (by omega)
        have S5 := hide (stT_call ST.out c5 g5)
        clear ST c5 g5 hy
        by_cases hlt2 : (j : Int) < 20 - (y : Int)
        · have hlt2' : decide ((j : Int) < 20 - (y : Int)) = true := by simp; omega
          have hj20 : j < 20 := by omega
          have HDE := hide (decimal_any (10 + (j : Int)) w5 (by omega) (by omega))
          obtain ⟨D, HD⟩ : ∃ D : ByteArray, Hid (⟨(Wd.decS (10 + (j : Int))).toArray⟩ = D) := ⟨_, hide rfl⟩
          rw [HD.out] at HDE
          obtain ⟨nk, HNK⟩ : ∃ nk : ByteArray, Hid ((⟨#[107]⟩ : ByteArray) ++ D = nk) := ⟨_, hide rfl⟩
          have HKN : Hid (kE j = nk) := by
            show _ = _
            rw [← HNK.out, ← HD.out]
            unfold kE
            rw [show (((10 + j : Nat)) : Int) = 10 + (j : Int) from by omega]
          have hDs : D.size ≤ 20 := by
            have h := (kE_size j hj20).2
            rw [HKN.out, ← HNK.out, ByteArray.size_append] at h
            omega
          have HPUT : Hid (∀ v : ValD, ValR v → v.til ≤ 40 → KeyedR kE (j + 1) (fs ++ [⟨nk, v⟩])) := fun v hv hu => by
            rw [← HKN.out]
            exact keyedR_put HK.out (by omega) (kE_size j hj20) (fun m hm => by rw [ByteArray.toList_eq, ByteArray.toList_eq]; exact kE_less j hj20 m hm) hv hu
          go_wp2_with fail
          refine HDE.out.mono ?_
          rintro e w6 ⟨rfl, b6⟩
          have S6 := hide (stT_below S5.out b6)
          clear b6 S5
          go_wp2_with fail
          rw [HNK.out]
          refine (HVA.out _ S6.out.1).mono ?_
          rintro e w8 ⟨⟨⟨kd, u, t, ts⟩, a8, c8, rfl, hvr, hu8, ho8⟩, cu8, g8⟩
          have S8 := hide (stT_call S6.out cu8 g8)
          have G8 := hide g8
          have HVR := hide (HPUT.out _ hvr hu8)
          have R8 := hide (rowText_own ho8)
          have hw8 : w.heap.size ≤ w8.heap.size := S8.out.2.1.size
          have hgw : g < w.heap.size := S8.out.2.2.1
          have hw6 : w.heap.size ≤ w6.heap.size := S6.out.2.1.size
          clear hvr hu8 ho8 cu8 g8
          go_wp2_with (at_builtin; refine app_entG w6 _ w.heap.size g (by rfl) _ _ (by rfl) _ (.slice a8 ts.length c8) fs ⟨nk, kd, u, t, ts⟩ (by rfl) S6.out.2.2.2.2.2 hw6 (grownBy_then G8.out ((Below.refl _ w8).alloc G8.out.size _)) hgw (rowText_below R8.out ((Below.refl _ w8).alloc (Nat.le_refl _) _)) w8.heap.size (by simp [Act.eval]) (heap_alloc_new w8 _) hel ?_; intro q9 cap9 w9 ho9 hb9 hgr9; have HO9 := hide ho9; have HB9 := hide hb9; have HG9 := hide hgr9; clear ho9 hb9 hgr9)
          go_roundg (gk - 1)
          case measure => omega
          case rel => exact ⟨j + 1, fs ++ [⟨nk, kd, u, t, ts⟩], by omega, by go_num, by omega, HVR, stT_put (stT_below S8.out ((Below.refl _ w8).alloc (Nat.le_refl _) _)) HB9.out HG9.out HO9.out⟩
        · have hlt2' : decide ((j : Int) < 20 - (y : Int)) = false := by simp; omega
          go_wp2
          go_ret
          exact ⟨⟨fs, _, rfl, HK.out.1, HK.out.2.2.2, fun e he => (by obtain ⟨m, hm, e2⟩ := HK.out.2.2.1 e he; rw [e2]; exact kE_le3 m (by omega)), buildE_row S5.out.2.2.2.2.2⟩, S5.out.1, S5.out.2.1⟩
def noVal : ValD := ⟨0, 0, ⟨#[]⟩, []⟩
def findE : List EntD → ByteArray → Option ValD
  | [], _ => none
  | e :: r, key => if e.key.toList == key.toList then some e.val else findE r key
def findV (es : List EntD) (key : ByteArray) : ValD := (findE es key).getD noVal
def findB (es : List EntD) (key : ByteArray) : Bool := (findE es key).isSome
theorem findE_here {es : List EntD} {key : ByteArray} {k : Nat} (hk : k < es.length) (h : (es[k].key.toList == key.toList) = true) : findE (es.drop k) key = some es[k].val := by
  rw [List.drop_eq_getElem_cons hk]
  simp only [findE]
  rw [if_pos h]
theorem findE_next {es : List EntD} {key : ByteArray} {k : Nat} (hk : k < es.length) (h : (es[k].key.toList == key.toList) = false) : findE (es.drop k) key = findE (es.drop (k + 1)) key := by
  rw [List.drop_eq_getElem_cons hk]
  simp only [findE]
  rw [if_neg (by rw [h]; simp)]
theorem clone_any (s : ByteArray) (w : World) (hs : s.size ≤ 1048576) :
    Calls Try.prog 47 #[.string s] w fun e w' => e = .returned (.string s) ∧ Below w.heap.size w w' := by
  by_cases h0 : s.size = 0
  · have e0 : s = ⟨#[]⟩ := ByteArray.ext (Array.eq_empty_of_size_eq_zero h0)
    subst e0
    go_enter Try.func47, Try.ntmps47
    go_wp2
    go_ret
    exact ⟨rfl, Below.refl _ _⟩
  · obtain ⟨i0, hi, hz0, hz1, hz2⟩ := info_parts Try.info5
    have hinfo : (Try.prog.info? 5).map (·.size) = some 1 := by rw [hi]; simp [hz1]
    obtain ⟨M, hM⟩ : ∃ M, M = madeCells (Value.int .u8 0).cells (((s.size : Nat) : Int).toNat * i0.size) := ⟨_, rfl⟩
    have hmk : ∀ W : World, (Instr.makeSlice 30 (.int .i64 (s.size : Int)) (.int .i64 (s.size : Int))).run Try.prog W = .ok (.slice (some ⟨W.heap.size, 0, none⟩) s.size s.size) (W.alloc (.cells M 5)) := fun W => by
      have h := run_make (P := Try.prog) W 30 5 i0 (.int .u8 0) Try.underlying30 hi hz0 .i64 .i64 (s.size : Int) (s.size : Int) (by omega) (by omega) (by rw [hz2]; omega) (by omega)
      rw [← hM] at h
      simpa using h
    have hMs : M.size = s.size := by rw [hM, size_madeCells, hz1]; simp
    clear hM
    have hcp := Lib.run_copy_row_string (P := Try.prog) (w.alloc (.cells M 5)) 30 9 3 5 w.heap.size 0 s.size s.size s M 5 Try.underlying30 hinfo (heap_alloc_new w _) (Nat.le_refl _) (by omega)
    obtain ⟨Y, hY⟩ : ∃ Y, Y = (M.toList.take 0 ++ Lib.byteCells s.data.toList ++ M.toList.drop (0 + s.size)).toArray := ⟨_, rfl⟩
    rw [← hY] at hcp
    have hYl : Y.toList = Lib.byteCells s.data.toList := by
      rw [hY, List.toList_toArray, List.take_zero, List.nil_append, List.drop_of_length_le (by rw [Array.length_toList]; omega), List.append_nil]
    have hYs : Y.size = s.size := by rw [← Array.length_toList, hYl, Lib.byteCells_length, ← Lib.size_eq]
    have hgY : ((w.alloc (.cells M 5)).setRow w.heap.size Y).heap[w.heap.size]? = some (.cells Y 5 (0, 0)) := setRow_heap _ _ M _ 5 (0, 0) (heap_alloc_new w _)
    have hne : s.data.toList ≠ [] := fun e => h0 (by rw [Lib.size_eq, e]; rfl)
    have hUS := Lib.run_unsafeString_row (P := Try.prog) ((w.alloc (.cells M 5)).setRow w.heap.size Y) 75 3 9 5 Try.underlying75 Try.cells5 w.heap.size Y.size (by unfold World.shape?; rw [hgY]) s.data.toList hne (by rw [← Lib.size_eq]; omega) (by rw [← Lib.size_eq]; omega)
      (fun j x hx => Lib.cells_of_row hgY Y.size j _ (by rw [List.take_of_length_le (by rw [Array.length_toList]; exact Nat.le_refl _), hYl]; simp [Lib.byteCells, hx]))
    rw [← Lib.size_eq] at hUS
    clear hY
    go_enter Try.func47, Try.ntmps47
    go_wp2
    go_ret
    have hb1 : Below w.heap.size w (w.alloc (.cells M 5)) := (Below.refl _ w).alloc (Nat.le_refl _) _
    have hb2 : Below w.heap.size (w.alloc (.cells M 5)) ((w.alloc (.cells M 5)).setRow w.heap.size Y) := ⟨rfl, rfl, rfl, by simp, fun k hk => setRow_other _ _ _ _ (by omega)⟩
    exact ⟨rfl, Lib.below_freeze (hb1.trans hb2) (p := ⟨w.heap.size, 0, none⟩) (Nat.le_refl _) _⟩
theorem ownText_any (s : ByteArray) (w : World) (hs : s.size ≤ 1048576) :
    Calls Try.prog 36 #[.string s] w fun e w' => e = .returned (.string s) ∧ Below w.heap.size w w' := by
  go_enter Try.func36, Try.ntmps36
  go_wp2_with (first | (go_at_call 47; refine (clone_any s _ hs).mono ?_; rintro e w' ⟨rfl, hb⟩) | go_in)
  go_ret
  exact ⟨rfl, hb⟩
def OwnV (w wr : World) (o : Nat) (k u : Int) (t : ByteArray) (pv vv : Value) (L : List ByteArray) : Prop :=
  wr.heap[w.heap.size]? = some (.cells #[.int .i64 k, .int .i64 u, .string t, pv] 38 (0, 0)) ∧ wr.heap[w.heap.size + 1]? = some (.cells #[.int .i64 0, .int .i64 0, .string ⟨#[]⟩, .slice none 0 0] 38 (0, 0)) ∧
  wr.heap[o]? = some (.cells #[.int .i64 k, .int .i64 u, .string t, vv] 38 (0, 0)) ∧ wr.ownsRow (o + 1) 9 1 vv L.length (L.map Value.string) ∧ Below w.heap.size w wr ∧ w.heap.size + 2 ≤ o
theorem ownV_new {w wb x1 : World} {k u : Int} {t : ByteArray} {pv : Value} (hz : wb.heap[w.heap.size]? = some (.cells #[.int .i64 k, .int .i64 u, .string t, pv] 38 (0, 0)) ∧ wb.heap.size = w.heap.size + 1 + 1) (hr : wb.heap[w.heap.size + 1]? = some (.cells #[.int .i64 0, .int .i64 0, .string ⟨#[]⟩, .slice none 0 0] 38 (0, 0)))
    (he : Below wb.heap.size wb x1) (h0 : Below w.heap.size w wb) : OwnV w (x1.alloc (.cells #[.int .i64 k, .int .i64 u, .string t, .slice none 0 0] 38)) x1.heap.size k u t pv (.slice none 0 0) [] := by
  have b1 := he.alloc he.size (.cells #[.int .i64 k, .int .i64 u, .string t, .slice none 0 0] 38)
  have hs := he.size
  exact ⟨(b1.block _ (by omega)).trans hz.1, (b1.block _ (by omega)).trans hr, heap_alloc_new _ _, World.ownsRow_nil _ _ _ _, h0.trans (b1.mono h0.size), by omega⟩
theorem ownV_old {w wb x1 : World} {k u : Int} {t : ByteArray} {pv : Value} (hz : wb.heap[w.heap.size]? = some (.cells #[.int .i64 k, .int .i64 u, .string t, pv] 38 (0, 0)) ∧ wb.heap.size = w.heap.size + 1 + 1) (hr : wb.heap[w.heap.size + 1]? = some (.cells #[.int .i64 0, .int .i64 0, .string ⟨#[]⟩, .slice none 0 0] 38 (0, 0)))
    (hg : x1.heap[wb.heap.size]? = some (.cells #[.int .i64 0, .int .i64 0, .string ⟨#[]⟩, .slice none 0 0] 38 (0, 0))) (he : Below wb.heap.size wb x1) (h0 : Below w.heap.size w wb) :
    OwnV w ((((x1.setCell ⟨wb.heap.size, 0, none⟩ (.int .i64 k)).setCell ⟨wb.heap.size, 1, none⟩ (.int .i64 u)).setCell ⟨wb.heap.size, 2, none⟩ (.string t)).setCell ⟨wb.heap.size, 3, none⟩ (.slice none 0 0)) wb.heap.size k u t pv (.slice none 0 0) [] := by
  have b1 := (((he.setCell (p := ⟨wb.heap.size, 0, none⟩) (Nat.le_refl _) (.int .i64 k)).setCell (p := ⟨wb.heap.size, 1, none⟩) (Nat.le_refl _) (.int .i64 u)).setCell (p := ⟨wb.heap.size, 2, none⟩) (Nat.le_refl _) (.string t)).setCell (p := ⟨wb.heap.size, 3, none⟩) (Nat.le_refl _) (.slice none 0 0)
  exact ⟨(b1.block _ (by omega)).trans hz.1, (b1.block _ (by omega)).trans hr, (heap_setCell_same _ _ _ _ _ _ (heap_setCell_same _ _ _ _ _ _ (heap_setCell_same _ _ _ _ _ _ (heap_setCell_same _ _ _ _ _ _ hg)))).trans rfl, World.ownsRow_nil _ _ _ _, h0.trans (b1.mono h0.size), by omega⟩
theorem ownVal_any (v : ValD) (ao : Option Addr) (cap : Nat) (w : World) (hl : v.items.length ≤ 1048576) (ht : v.text.size ≤ 1048576) (hts : TextsAt w ao v.items) (hsz : ∀ s ∈ v.items, s.size ≤ 1048576) :
    Calls Try.prog 30 #[.agg #[.int .i64 v.kind, .int .i64 v.til, .string v.text, .slice ao v.items.length cap]] w fun e w' => (∃ a c, e = .returned (.agg #[.int .i64 v.kind, .int .i64 v.til, .string v.text, .slice a v.items.length c]) ∧ RowText w' w.heap.size (.slice a v.items.length c) v.items) ∧ Below w.heap.size w w' := by
  obtain ⟨k, u, t, ts⟩ := v
  simp only at hl ht hts hsz ⊢
  have HT := hide hts
  have HS := hide hsz
  have HOT := hide (fun W => ownText_any t W ht)
  clear hts hsz
  obtain ⟨wb, hwb⟩ : ∃ wb, wb = (w.alloc (.cells #[.int .i64 k, .int .i64 u, .string t, .slice ao ts.length cap] 38)).alloc (.cells #[.int .i64 0, .int .i64 0, .string ⟨#[]⟩, .slice none 0 0] 38) := ⟨_, rfl⟩
  have B0 : Hid (Below w.heap.size w wb) := by rw [hwb]; exact ((Below.refl _ w).alloc (Nat.le_refl _) _).alloc (by simp) _
  have HZ : Hid (wb.heap[w.heap.size]? = some (.cells #[.int .i64 k, .int .i64 u, .string t, .slice ao ts.length cap] 38 (0, 0)) ∧ wb.heap.size = w.heap.size + 1 + 1) := by
    rw [hwb]
    exact ⟨((Below.refl (w.heap.size + 1) (w.alloc (.cells #[.int .i64 k, .int .i64 u, .string t, .slice ao ts.length cap] 38))).alloc (by simp) _ |>.block w.heap.size (by omega)).trans (heap_alloc_new w _), by simp⟩
  have HR : Hid (wb.heap[w.heap.size + 1]? = some (.cells #[.int .i64 0, .int .i64 0, .string ⟨#[]⟩, .slice none 0 0] 38 (0, 0))) := by
    show _ = _
    rw [hwb, show w.heap.size + 1 = (w.alloc (.cells #[.int .i64 k, .int .i64 u, .string t, .slice ao ts.length cap] 38)).heap.size from by simp]
    exact heap_alloc_new _ _
  have KC : Hid (∀ X, Below wb.heap.size wb X → X.cell? ⟨w.heap.size, 0, none⟩ = some (.int .i64 k) ∧ X.cell? ⟨w.heap.size, 1, none⟩ = some (.int .i64 u) ∧ X.cell? ⟨w.heap.size, 2, none⟩ = some (.string t)) := fun X hX => by
    have h := val_cells (val_keep HZ.out.1 hX (by have := HZ.out.2; omega))
    exact ⟨h.1, h.2.1, h.2.2.1⟩
  go_enter Try.func30, Try.ntmps30
  go_upto_region 1 with fail
  rw [← hwb]
  clear hwb
  go_cut [3] from 5 (fun pp wx => ∃ o, pp = .pointer (some ⟨o, 0, none⟩) ∧ OwnV w wx o k u t (.slice ao ts.length cap) (.slice none 0 0) [])
  case first =>
    rename_i hJ9 hK9
    refine wp_region_held_drew (S := fun X => X.cell? ⟨w.heap.size, 0, none⟩ = some (.int .i64 k) ∧ X.cell? ⟨w.heap.size, 1, none⟩ = some (.int .i64 u) ∧ X.cell? ⟨w.heap.size, 2, none⟩ = some (.string t)) (by kernel_rfl) ?hS0 (fun hHeld => ?_)
    case hS0 => exact KC.out _ (Below.refl _ _).drew
    refine wpAnyH_take (i := 0) (oi := _) (v := .pointer (some ⟨w.heap.size, 0, none⟩)) rfl (by kernel_rfl) (by kernel_rfl) (by kernel_rfl) (fun _ _ _ h => h) (Or.inl ⟨by rfl, ?hy⟩) (by assumption) ?_
    case hy => intro w hSw; (try dsimp only at hSw); go_simp; (try with_reducible rfl)
    try simp only [Act.put]
    refine wpAnyH_take (i := 1) (oi := _) (v := .int .i64 k) rfl (by kernel_rfl) (by kernel_rfl) (by kernel_rfl) (fun _ _ _ h => h) (Or.inl ⟨by rfl, ?hy⟩) (by assumption) ?_
    case hy => intro w hSw; (try dsimp only at hSw); obtain ⟨hr0, hr1, hr2⟩ := hSw; go_simp; (try with_reducible rfl)
    try simp only [Act.put]
    refine wpAnyH_take (i := 2) (oi := _) (v := .pointer (some ⟨w.heap.size, 1, none⟩)) rfl (by kernel_rfl) (by kernel_rfl) (by kernel_rfl) (fun _ _ _ h => h) (Or.inl ⟨by rfl, ?hy⟩) (by assumption) ?_
    case hy => intro w hSw; (try dsimp only at hSw); go_simp; (try with_reducible rfl)
    try simp only [Act.put]
    refine wpAnyH_take (i := 3) (oi := _) (v := .int .i64 u) rfl (by kernel_rfl) (by kernel_rfl) (by kernel_rfl) (fun _ _ _ h => h) (Or.inl ⟨by rfl, ?hy⟩) (by assumption) ?_
    case hy => intro w hSw; (try dsimp only at hSw); obtain ⟨hr0, hr1, hr2⟩ := hSw; go_simp; (try with_reducible rfl)
    try simp only [Act.put]
    refine wpAnyH_take (i := 4) (oi := _) (v := .pointer (some ⟨w.heap.size, 2, none⟩)) rfl (by kernel_rfl) (by kernel_rfl) (by kernel_rfl) (fun _ _ _ h => h) (Or.inl ⟨by rfl, ?hy⟩) (by assumption) ?_
    case hy => intro w hSw; (try dsimp only at hSw); go_simp; (try with_reducible rfl)
    try simp only [Act.put]
    refine wpAnyH_take (i := 5) (oi := _) (v := .string t) rfl (by kernel_rfl) (by kernel_rfl) (by kernel_rfl) (fun _ _ _ h => h) (Or.inl ⟨by rfl, ?hy⟩) (by assumption) ?_
    case hy => intro w hSw; (try dsimp only at hSw); obtain ⟨hr0, hr1, hr2⟩ := hSw; go_simp; (try with_reducible rfl)
    try simp only [Act.put]
    refine wpAnyH_ready (rs := [6, 8]) (by kernel_rfl) (by simp) ?_
    refine AllReadyH.cons (o := _) rfl (fun K hK => ?step) ?_
    case step =>
      go_simp
      refine (HOT.out _).mono ?_
      rintro e x1 ⟨rfl, bx⟩
      have E1 : Hid (Below wb.heap.size wb x1) := (Below.refl wb.heap.size wb).drew.trans bx
      clear bx
      refine hK.out _ _ ?hS (fun hHeld => ?_)
      case hS => exact KC.out _ E1.out
      clear hK K
      try simp only [Act.put]
      refine wpAnyH_take (i := 7) (oi := _) (v := .agg #[.int .i64 k, .int .i64 u, .string t, .slice none 0 0]) rfl (by kernel_rfl) (by kernel_rfl) (by kernel_rfl) (fun _ _ _ h => h) (Or.inl ⟨by rfl, ?hy⟩) (by assumption) ?_
      case hy => intro w hSw; (try dsimp only at hSw); go_simp; (try with_reducible rfl)
      try simp only [Act.put]
      refine wpAnyH_ready (rs := [8]) (by kernel_rfl) (by simp) ?_
      refine AllReadyH.cons (o := _) rfl (fun K hK => ?step) ?_
      case step =>
        go_simp
        refine hK.out _ _ ?hS (fun hHeld => ?_)
        case hS => exact KC.out _ (E1.out.alloc E1.out.size (.cells #[.int .i64 0, .int .i64 0, .string ⟨#[]⟩, .slice none 0 0] 38))
        clear hK K
        try simp only [Act.put]
        refine wpAnyH_ready (rs := [9]) (by kernel_rfl) (by simp) ?_
        refine AllReadyH.cons (o := _) rfl (fun K hK => ?step) ?_
        case step =>
          go_simp
          refine hK.out _ _ ?hS (fun hHeld => ?_)
          case hS => exact KC.out _ (E1.out.alloc E1.out.size _)
          clear hK K
          try simp only [Act.put]
          refine wpAnyH_done (by kernel_rfl) ?_ _
          refine hK9 _ _ (Met.intro (hJ9 _ _ ?_)); (repeat apply Exists.intro); refine ⟨?_, rfl⟩
          exact ⟨x1.heap.size, rfl, ownV_new HZ.out HR.out E1.out B0.out⟩
        exact AllReadyH.nil
      exact AllReadyH.nil
    refine AllReadyH.cons (o := _) rfl (fun K hK => ?step) ?_
    case step =>
      go_simp
      refine hK.out _ _ ?hS (fun hHeld => ?_)
      case hS => exact KC.out _ ((Below.refl wb.heap.size wb).alloc (Nat.le_refl _) (.cells #[.int .i64 0, .int .i64 0, .string ⟨#[]⟩, .slice none 0 0] 38)).drew
      clear hK K
      try simp only [Act.put]
      refine wpAnyH_ready (rs := [6]) (by kernel_rfl) (by simp) ?_
      refine AllReadyH.cons (o := _) rfl (fun K hK => ?step) ?_
      case step =>
        go_simp
        refine (HOT.out _).mono ?_
        rintro e x1 ⟨rfl, bx⟩
        have E1 : Hid (Below wb.heap.size wb x1) := ((Below.refl wb.heap.size wb).alloc (Nat.le_refl _) (.cells #[.int .i64 0, .int .i64 0, .string ⟨#[]⟩, .slice none 0 0] 38)).drew.trans (bx.mono (by simp))
        have GX := hide (blk_newd bx)
        clear bx
        refine hK.out _ _ ?hS (fun hHeld => ?_)
        case hS => exact KC.out _ E1.out
        clear hK K
        try simp only [Act.put]
        refine wpAnyH_take (i := 7) (oi := _) (v := .agg #[.int .i64 k, .int .i64 u, .string t, .slice none 0 0]) rfl (by kernel_rfl) (by kernel_rfl) (by kernel_rfl) (fun _ _ _ h => h) (Or.inl ⟨by rfl, ?hy⟩) (by assumption) ?_
        case hy => intro w hSw; (try dsimp only at hSw); go_simp; (try with_reducible rfl)
        try simp only [Act.put]
        refine wpAnyH_ready (rs := [9]) (by kernel_rfl) (by simp) ?_
        obtain ⟨y0, y1, y2, y3⟩ := val_cells GX.out
        obtain ⟨f0, f1, f2, f3⟩ := val_frozen GX.out
        refine AllReadyH.cons (o := _) rfl (fun K hK => ?step) ?_
        case step =>
          go_simp
          refine hK.out _ _ ?hS (fun hHeld => ?_)
          case hS => exact KC.out _ ((((E1.out.setCell (p := ⟨wb.heap.size, 0, none⟩) (Nat.le_refl _) _).setCell (p := ⟨wb.heap.size, 1, none⟩) (Nat.le_refl _) _).setCell (p := ⟨wb.heap.size, 2, none⟩) (Nat.le_refl _) _).setCell (p := ⟨wb.heap.size, 3, none⟩) (Nat.le_refl _) _)
          clear hK K
          try simp only [Act.put]
          refine wpAnyH_done (by kernel_rfl) ?_ _
          refine hK9 _ _ (Met.intro (hJ9 _ _ ?_)); (repeat apply Exists.intro); refine ⟨?_, rfl⟩
          exact ⟨wb.heap.size, rfl, ownV_old HZ.out HR.out GX.out E1.out B0.out⟩
        exact AllReadyH.nil
      exact AllReadyH.nil
    exact AllReadyH.nil
  case rest =>
  obtain ⟨o, rfl, hov⟩ := hcut
  have HOV := hide hov
  clear hov
  obtain ⟨p0, p1, p2, p3⟩ := val_cells HOV.out.1
  go_wp2_with fail
  clear p0 p1 p2 p3
  go_loopw [17] (fun ii wr => ∃ (k1 : Nat) (vv : Value), ii = .int .i64 (k1 : Int) ∧ k1 ≤ ts.length ∧ Hid (OwnV w wr o k u t (.slice ao ts.length cap) vv (ts.take k1))) (fun ii _ => ts.length - (intOf ii).toNat)
  case atStart => exact ⟨0, _, rfl, Nat.zero_le _, HOV⟩
  case round =>
    obtain ⟨k1, vv, rfl, hk, HO⟩ := hrel
    by_cases hlt : k1 < ts.length
    · have hlt' : decide ((k1 : Int) < (ts.length : Int)) = true := by simp; omega
      obtain ⟨b, off, rfl, hbw, hc0⟩ := textsAt_keep HT.out HO.out.2.2.2.2.1 k1 hlt
      have hsF := HS.out ts[k1] (List.getElem_mem hlt)
      have HTK := hide (List.take_succ_eq_append_getElem hlt)
      obtain ⟨F, HF⟩ : ∃ F, Hid (ts[k1] = F) := ⟨_, hide rfl⟩
      rw [HF.out] at hc0 hsF HTK
      have hi0 : (0 : Int) ≤ (k1 : Int) := by omega
      have hi1 : (k1 : Int) < (ts.length : Int) := by omega
      obtain ⟨L, HL⟩ : ∃ L, Hid (ts.take k1 = L) := ⟨_, hide rfl⟩
      have hLl : L.length ≤ 1048576 := by rw [← HL.out, List.length_take]; omega
      rw [HL.out] at HO HTK
      obtain ⟨aa, ca, rfl⟩ := slice_form HO.out.2.2.2.1
      have HOW := hide HO.out.2.2.2.1
      have hoB : o < wr.heap.size := obj_lt HO.out.2.2.1
      obtain ⟨-, -, -, hv3⟩ := val_cells HO.out.2.2.1
      go_wp2_with fail
      go_region_law ((first | (refine step_app_txt _ (o + 1) (by rfl) _ _ (by rfl) _ L F (by rfl) (HO4.out.alloc _) w4.heap.size (by simp [Act.eval]) (heap_alloc_new w4 _) hLl (by simp; omega) ?_; intro g5 cap5 w5 ho5 hb5 hgr5 hg5 hgl5; have B5 : Hid (Below (o + 1) w4 w5) := ((Below.refl _ w4).alloc (by omega) _).trans hb5; have HO5 := hide ho5; have hn0 := (B5.out.block o (by omega)).trans HV4.out; obtain ⟨m0, m1, m2, m3⟩ := val_cells hn0; obtain ⟨l0, l1, l2, l3⟩ := val_frozen hn0; have HN0 := hide hn0; clear hn0 ho5 hb5 hgr5 hg5 hgl5) | (go_simp; go_at_call 36; refine (ownText_any F _ hsF).mono ?_; rintro e w4 ⟨rfl, b4⟩; have E4 : Hid (Below wr.heap.size wr w4) := (Below.refl _ wr).drew.trans b4; have hs4 : wr.heap.size ≤ w4.heap.size := E4.out.size; have HV4 := hide ((E4.out.block o hoB).trans HO.out.2.2.1); obtain ⟨-, -, -, hall0⟩ := val_cells HV4.out; have hall : (w4.alloc (.cells #[.string F] 9)).cell? ⟨o, 3, none⟩ = _ := (((Below.refl _ w4).alloc (Nat.le_refl _) _).cell (p := ⟨o, 3, none⟩) (by show o < _; omega)).trans hall0; have HO4 := hide (ownsRow_below HOW.out E4.out); clear b4)))
      all_goals
        go_wp2
        go_roundw
        case rel =>
          refine ⟨k1 + 1, .slice (some ⟨g5, 0, none⟩) (L.length + 1) cap5, by go_num, by omega, ?_⟩
          have h5 := B5.out
          have hx : (w5.setCell ⟨o, 3, none⟩ (.slice (some ⟨g5, 0, none⟩) (L.length + 1) cap5)).heap[o]? = some (.cells #[.int .i64 k, .int .i64 u, .string t, .slice (some ⟨g5, 0, none⟩) (L.length + 1) cap5] 38 (0, 0)) := (heap_setCell_same _ _ _ _ _ _ HN0.out).trans rfl
          have hoo := HO.out.2.2.2.2.2
          show OwnV _ _ _ _ _ _ _ _ _
          rw [HTK.out]
          refine ⟨?_, ?_, hx, ?_, ?_, hoo⟩
          · rw [Below.heap_setCell _ _ _ _ (by simp; omega), h5.block _ (by omega), E4.out.block _ (obj_lt HO.out.1)]; exact HO.out.1
          · rw [Below.heap_setCell _ _ _ _ (by simp; omega), h5.block _ (by omega), E4.out.block _ (obj_lt HO.out.2.1)]; exact HO.out.2.1
          · exact HO5.out.kept (grownBy_store (World.grownBy.refl _ _) 3 _) (by cases hh : (Value.slice (some ⟨g5, 0, none⟩) (L.length + 1) cap5).ownBlock with | none => exact .inl rfl | some bb => exact .inr (fun e => by have := (HO5.out.lt bb hh).1; have e2 : bb = o := Option.some.inj e; omega))
          · exact ((HO.out.2.2.2.2.1.trans (E4.out.mono (HO.out.2.2.2.2.1).size)).trans (h5.mono (by omega))).setCell (p := ⟨o, 3, none⟩) (by show w.heap.size ≤ o; omega) _
        case measure => simp [intOf]; omega
    · have hlt' : decide ((k1 : Int) < (ts.length : Int)) = false := by simp; omega
      have hke : k1 = ts.length := by omega
      subst hke
      have HO2 := HO.out
      rw [List.take_length] at HO2
      have HX := hide HO2
      clear HO2 HO
      obtain ⟨aa, ca, rfl⟩ := slice_form HX.out.2.2.2.1
      obtain ⟨q0, q1, q2, q3⟩ := val_cells HX.out.2.2.1
      obtain ⟨r0, r1, r2, r3⟩ := val_cells HX.out.2.1
      obtain ⟨f0, f1, f2, f3⟩ := val_frozen HX.out.2.1
      go_wp2_with fail
      refine bodyPost_ret (v := .agg #[.int .i64 k, .int .i64 u, .string t, .slice aa ts.length ca]) (by simp [results, Try.results30, go_sem, r0, r1, r2, r3]) rfl ⟨⟨aa, ca, rfl, ?_⟩, ?_⟩
      · have hr := rowText_own HX.out.2.2.2.1
        have hoo := HX.out.2.2.2.2.2
        refine rowText_le (rowText_keep hr (fun g hg => ?_)) (by omega : w.heap.size ≤ o + 1)
        have h1 := rowText_lt hr g hg
        rw [Below.heap_setCell _ _ _ _ (by simp; omega), Below.heap_setCell _ _ _ _ (by simp; omega), Below.heap_setCell _ _ _ _ (by simp; omega), Below.heap_setCell _ _ _ _ (by simp; omega)]
      · exact (((HX.out.2.2.2.2.1.setCell (p := ⟨w.heap.size + 1, 0, none⟩) (by simp) _).setCell (p := ⟨w.heap.size + 1, 1, none⟩) (by simp) _).setCell (p := ⟨w.heap.size + 1, 2, none⟩) (by simp) _).setCell (p := ⟨w.heap.size + 1, 3, none⟩) (by simp) _
end Go.Proofs.Ytpibnhodlojajaa
