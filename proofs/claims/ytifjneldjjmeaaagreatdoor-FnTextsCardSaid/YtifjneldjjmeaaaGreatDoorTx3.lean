import Derived.Deep.DeepCutAuto
import Derived.Deep.CutBlock
import Derived.Test.YtifjneldjjmeaaaGreatDoorTx2
import Derived.Test.YtifjneldjjmeaaaGreatDoorTx1
import Derived.Test.YtifjneldjjmeaaaGreatDoorTx0
set_option maxRecDepth 100000
set_option maxHeartbeats 6400000
namespace Go.Proofs.YtifjneldjjmeaaaGreatDoor
open Go.RowKit
def KeyQ (k : ByteArray) : Prop := k.size ≤ 3 ∧ k.data ≠ #[113] ∧ k.data ≠ #[113, 113]
theorem buildE_cap {w : World} {B n c : Nat} {a : Option Addr} {T : List EntD} (h : BuildE w B (.slice a n c) T) : T.length ≤ c := by
  obtain ⟨vs, h1, h2, -⟩ := h
  rcases h2.2 with ⟨e, h3⟩ | ⟨g, cap, cur, e, -, -, h3, -⟩
  · cases e
    omega
  · cases e
    exact h3
theorem kD_q (i : Nat) : KeyQ (kD i) := by
  refine ⟨kD_le3 i, ?_⟩
  unfold kD
  split <;> decide
theorem kE_q : ∀ i, i < 20 → KeyQ (kE i) := fun i hi => ⟨kE_le3 i hi, (by decide : ∀ i, i < 20 → (kE i).data ≠ #[113] ∧ (kE i).data ≠ #[113, 113]) i hi⟩
theorem l10TableQ_any (w0 w : World) (g : Nat) (ao : Option Addr) (len cap : Nat) (hlen : len ≤ 1048576) (hcode : Code w0 ao len) (hc : CurAt w0 w g ao len cap) :
    Calls Tryz.prog 31 #[.pointer (some ⟨g, 0, none⟩)] w fun e w' => (∃ (es : List EntD) (v : Value), e = .returned v ∧ TabR es ∧ (∀ e ∈ es, e.val.til ≤ 40) ∧ (∀ e ∈ es, KeyQ e.key) ∧ BuildE w' w.heap.size v es) ∧ CurAt w0 w' g ao len cap ∧ w.grownBy w' (some g) := by
  have HBE := hide (fun W (n : Int) (hn : n ≤ 4611686018427387904) (h : CurAt w0 W g ao len cap) => below_any w0 W g ao len cap n hlen hn hcode h)
  have HON := hide (fun W (n : Int) (hn : n ≤ 4611686018427387904) (h : CurAt w0 W g ao len cap) => once_any w0 W g ao len cap n hlen hn hcode h)
  have HVA := hide (fun W (h : CurAt w0 W g ao len cap) => l10Val_any w0 W g ao len cap hlen hcode h)
  have hg := cur_lt hc
  have HU := hide hc
  clear hcode hc
  obtain ⟨wb, hwb⟩ : ∃ wb, wb = (w.alloc (.cells #[] 40)).alloc (.cells #[.string ⟨#[97]⟩, .string ⟨#[98]⟩, .string ⟨#[99]⟩, .string ⟨#[100]⟩, .string ⟨#[107, 101, 121]⟩, .string ⟨#[107, 107]⟩] 9) := ⟨_, rfl⟩
  have SB : Hid (StT w0 w wb g ao len cap (w.heap.size + 1) (.slice (some ⟨w.heap.size, 0, none⟩) 0 0) []) := by
    have hb1 : Below w.heap.size w (w.alloc (.cells #[] 40)) := (Below.refl _ w).alloc (Nat.le_refl _) _
    have hb2 : Below w.heap.size w wb := by rw [hwb]; exact hb1.alloc (by simp) _
    refine ⟨cur_keep HU.out hb2 hg, grownBy_below (some g) hb2, hg, by omega, ?_, ?_⟩
    · rw [hwb, show w.heap.size + 1 = (w.alloc (.cells #[] 40)).heap.size from by simp]
      exact heap_alloc_new _ _
    · rw [hwb]
      exact buildE_below (buildE_lit w _ (Nat.le_refl _) _ rfl) ((Below.refl _ _).alloc (Nat.le_refl _) _)
  go_enter Tryz.func31, Tryz.ntmps31
  go_upto_region 3 with fail
  rw [← hwb]
  clear hwb
  obtain ⟨q, hq⟩ : ∃ q, q = w.heap.size + 1 := ⟨_, rfl⟩
  rw [← hq] at SB ⊢
  go_wp2_with fail
  go_loopg [3, 5] 6 (fun gg vv ii wr => ∃ (k : Nat) (es : List EntD), k + gg = 6 ∧ ii = .int .i64 (k : Int) ∧ k ≤ 6 ∧ Hid (KeyedR kD k es) ∧ Hid (StT w0 w wr g ao len cap q vv es))
  case atStart => exact ⟨0, [], rfl, rfl, by omega, keyedR_zero _, SB⟩
  case round =>
    clear SB hq
    obtain ⟨k, es, hgk, rfl, hk, HK, ST⟩ := hrel
    obtain ⟨aa, ca, rfl⟩ := buildE_form ST.out.2.2.2.2.2
    have hel : es.length ≤ 1048576 := by have := HK.out.2.1; omega
    by_cases hlt : k < 6
    · have hlt' : decide ((k : Int) < 6) = true := by simp; omega
      have hi0 : (0 : Int) ≤ (k : Int) := by omega
      have hi1 : (k : Int) < 6 := by omega
      go_wp2_with fail
      refine (HON.out _ 3 (by omega) ST.out.1).mono ?_
      rintro e w3 ⟨b, rfl, c3, g3⟩
      have S3 := hide (stT_call ST.out c3 g3)
      clear ST c3 g3
      cases b
      rotate_left
      · go_wp2_with fail
        go_roundg (gk - 1)
        case measure => omega
        case rel => exact ⟨k + 1, es, by omega, by go_num, by omega, keyedR_skip HK.out, S3⟩
      obtain ⟨nk, HNK⟩ : ∃ nk, Hid (kD k = nk) := ⟨_, hide rfl⟩
      have hnm : Hid (∀ W : World, W.heap[q]? = some (.cells keys6 9 (0, 0)) → W.cell? ⟨q, k, none⟩ = some (.string nk)) := fun W hW => by
        have h := cell_of_row W q k _ _ (0, 0) hW
        rw [h, ← HNK.out]
        have : k = 0 ∨ k = 1 ∨ k = 2 ∨ k = 3 ∨ k = 4 ∨ k = 5 := by omega
        rcases this with rfl | rfl | rfl | rfl | rfl | rfl <;> rfl
      have HPUT : Hid (∀ v : ValD, ValR v → v.til ≤ 40 → KeyedR kD (k + 1) (es ++ [⟨nk, v⟩])) := fun v hv hu => by
        rw [← HNK.out]
        exact keyedR_put HK.out (by omega) (kD_size k) (fun m hm => by rw [ByteArray.toList_eq, ByteArray.toList_eq]; exact kD_less k hlt m hm) hv hu
      have SD := hide (stT_below S3.out (Below.refl _ w3).drew)
      have hcn := hnm.out _ SD.out.2.2.2.2.1
      have hcn1 := hnm.out _ S3.out.2.2.2.2.1
      have hgw : g < w.heap.size := SD.out.2.2.1
      have hwD : w.heap.size ≤ w3.drew.heap.size := SD.out.2.1.size
      go_upto_region 7 with fail
      go_region_law ((first | (have S80 := S8; clear S80; refine step_app_entG w3.drew _ w.heap.size g (by rfl) _ _ (by rfl) _ (.slice a8 ts.length c8) es ⟨nk, kd, u, t, ts⟩ (by rfl) SD.out.2.2.2.2.2 hwD (grownBy_then G8.out ((Below.refl _ w8).alloc G8.out.size _)) hgw (rowText_below R8.out ((Below.refl _ w8).alloc (Nat.le_refl _) _)) w8.heap.size (by simp [Act.eval]) (heap_alloc_new w8 _) hel ?_; intro q9 cap9 w9 ho9 hb9 hgr9; have HO9 := hide ho9; have HB9 := hide hb9; have HG9 := hide hgr9; clear ho9 hb9 hgr9) | (go_simp; go_at_call 58; refine (HVA.out _ SD.out.1).mono ?_; rintro e w8 ⟨⟨⟨kd, u, t, ts⟩, a8, c8, rfl, hvr, hu8, ho8⟩, cu8, g8⟩; have S8 := hide (stT_call SD.out cu8 g8); have G8 := hide g8; have HVR := hide (HPUT.out _ hvr hu8); have R8 := hide (rowText_own ho8); have hw8 : w.heap.size ≤ w8.heap.size := S8.out.2.1.size; have hcn8 := hnm.out _ S8.out.2.2.2.2.1; clear hvr hu8 ho8 cu8 g8)))
      all_goals
        go_wp2_with fail
        go_roundg (gk - 1)
        case measure => omega
        case rel => exact ⟨k + 1, es ++ [⟨nk, kd, u, t, ts⟩], by omega, by go_num, by omega, HVR, stT_put (stT_below S8.out ((Below.refl _ w8).alloc (Nat.le_refl _) _)) HB9.out HG9.out HO9.out⟩
    · have hlt' : decide ((k : Int) < 6) = false := by simp; omega
      go_wp2_with fail
      refine (HON.out _ 20 (by omega) ST.out.1).mono ?_
      rintro e w3 ⟨b, rfl, c3, g3⟩
      have S3 := hide (stT_call ST.out c3 g3)
      clear ST c3 g3
      cases b
      · go_wp2
        go_ret
        exact ⟨⟨es, _, rfl, HK.out.1, HK.out.2.2.2, fun e he => (by obtain ⟨m, -, e2⟩ := HK.out.2.2.1 e he; rw [e2]; exact kD_q m), S3.out.2.2.2.2.2⟩, S3.out.1, S3.out.2.1⟩
      clear HK hel
      obtain ⟨w4, hw4⟩ : ∃ w4, w4 = w3.alloc (.cells #[] 40) := ⟨_, rfl⟩
      have S4 : Hid (StT w0 w w4 g ao len cap q (.slice (some ⟨w3.heap.size, 0, none⟩) 0 0) []) := by
        have h := stT_below S3.out ((Below.refl _ w3).alloc (Nat.le_refl _) (.cells #[] 40))
        rw [hw4]
        exact ⟨h.1, h.2.1, h.2.2.1, h.2.2.2.1, h.2.2.2.2.1, buildE_lit w3 _ S3.out.2.1.size _ rfl⟩
      go_upto_region 10 with fail
      rw [← hw4]
      clear hw4 S3
      go_wp2_with fail
      go_loopg [3, 6] 20 (fun gg vv ii wr => ∃ (k : Nat) (es : List EntD), k + gg = 20 ∧ ii = .int .i64 (k : Int) ∧ k ≤ 20 ∧ Hid (KeyedR kE k es) ∧ Hid (StT w0 w wr g ao len cap q vv es))
      case atStart => exact ⟨0, [], rfl, rfl, by omega, keyedR_zero _, S4⟩
      case round =>
        clear S4 hlt'
        obtain ⟨j, fs, hgj, rfl, hj, HK, ST⟩ := hrel
        obtain ⟨ab, cb, rfl⟩ := buildE_form ST.out.2.2.2.2.2
        have hel : fs.length ≤ 1048576 := by have := HK.out.2.1; omega
        go_wp2_with fail
        refine (HBE.out _ 2 (by omega) ST.out.1).mono ?_
        rintro e w5 ⟨y, rfl, hy, -, c5, g5⟩
        have hy2 : (y : Int) < 2 := hy (by omega)
        have S5 := hide (stT_call ST.out c5 g5)
        clear ST c5 g5 hy
        by_cases hlt2 : (j : Int) < 20 - (y : Int)
        · have hlt2' : decide ((j : Int) < 20 - (y : Int)) = true := by simp; omega
          have hj20 : j < 20 := by omega
          have HDE := hide (decimal_any (10 + (j : Int)) w5 (by omega) (by omega))
          obtain ⟨D, HD⟩ : ∃ D : ByteArray, Hid (⟨(Wd.decS (10 + (j : Int))).toArray⟩ = D) := ⟨_, hide rfl⟩
          rw [HD.out] at HDE
          obtain ⟨nk, HNK⟩ : ∃ nk : ByteArray, Hid ((⟨#[107]⟩ : ByteArray) ++ D = nk) := ⟨_, hide rfl⟩
          have HKN : Hid (kE j = nk) := by
            show _ = _
            rw [← HNK.out, ← HD.out]
            unfold kE
            rw [show (((10 + j : Nat)) : Int) = 10 + (j : Int) from by omega]
          have hDs : D.size ≤ 20 := by
            have h := (kE_size j hj20).2
            rw [HKN.out, ← HNK.out, ByteArray.size_append] at h
            omega
          have HPUT : Hid (∀ v : ValD, ValR v → v.til ≤ 40 → KeyedR kE (j + 1) (fs ++ [⟨nk, v⟩])) := fun v hv hu => by
            rw [← HKN.out]
            exact keyedR_put HK.out (by omega) (kE_size j hj20) (fun m hm => by rw [ByteArray.toList_eq, ByteArray.toList_eq]; exact kE_less j hj20 m hm) hv hu
          go_wp2_with fail
          refine HDE.out.mono ?_
          rintro e w6 ⟨rfl, b6⟩
          have S6 := hide (stT_below S5.out b6)
          clear b6 S5
          go_wp2_with fail
          rw [HNK.out]
          refine (HVA.out _ S6.out.1).mono ?_
          rintro e w8 ⟨⟨⟨kd, u, t, ts⟩, a8, c8, rfl, hvr, hu8, ho8⟩, cu8, g8⟩
          have S8 := hide (stT_call S6.out cu8 g8)
          have G8 := hide g8
          have HVR := hide (HPUT.out _ hvr hu8)
          have R8 := hide (rowText_own ho8)
          have hw8 : w.heap.size ≤ w8.heap.size := S8.out.2.1.size
          have hgw : g < w.heap.size := S8.out.2.2.1
          have hw6 : w.heap.size ≤ w6.heap.size := S6.out.2.1.size
          clear hvr hu8 ho8 cu8 g8
          go_wp2_with (at_builtin; refine app_entG w6 _ w.heap.size g (by rfl) _ _ (by rfl) _ (.slice a8 ts.length c8) fs ⟨nk, kd, u, t, ts⟩ (by rfl) S6.out.2.2.2.2.2 hw6 (grownBy_then G8.out ((Below.refl _ w8).alloc G8.out.size _)) hgw (rowText_below R8.out ((Below.refl _ w8).alloc (Nat.le_refl _) _)) w8.heap.size (by simp [Act.eval]) (heap_alloc_new w8 _) hel ?_; intro q9 cap9 w9 ho9 hb9 hgr9; have HO9 := hide ho9; have HB9 := hide hb9; have HG9 := hide hgr9; clear ho9 hb9 hgr9)
          go_roundg (gk - 1)
          case measure => omega
          case rel => exact ⟨j + 1, fs ++ [⟨nk, kd, u, t, ts⟩], by omega, by go_num, by omega, HVR, stT_put (stT_below S8.out ((Below.refl _ w8).alloc (Nat.le_refl _) _)) HB9.out HG9.out HO9.out⟩
        · have hlt2' : decide ((j : Int) < 20 - (y : Int)) = false := by simp; omega
          go_wp2
          go_ret
          exact ⟨⟨fs, _, rfl, HK.out.1, HK.out.2.2.2, fun e he => (by obtain ⟨m, hm, e2⟩ := HK.out.2.2.1 e he; rw [e2]; exact kE_q m (by omega)), S5.out.2.2.2.2.2⟩, S5.out.1, S5.out.2.1⟩
def keysL : List ByteArray := [⟨#[97]⟩, ⟨#[98]⟩, ⟨#[99]⟩, ⟨#[100]⟩, ⟨#[107, 101, 121]⟩, ⟨#[107, 107]⟩]
theorem keys_cells (w : World) : ∀ j z, keysL[j]? = some z → (w.alloc (.cells #[.string ⟨#[97]⟩, .string ⟨#[98]⟩, .string ⟨#[99]⟩, .string ⟨#[100]⟩, .string ⟨#[107, 101, 121]⟩, .string ⟨#[107, 107]⟩] 9)).cell? ⟨w.heap.size, j, none⟩ = some (.string z) := by
  intro j z hz
  refine (World.cell?_alloc_mark w (keysL.map Value.string).toArray 9 (0, 0) j).trans ?_
  rw [List.getElem?_toArray, List.getElem?_map, hz]
  rfl
theorem keys_small : ∀ z ∈ keysL, 1 ≤ z.size ∧ z.size ≤ 8 := by
  intro z hz
  simp only [keysL, List.mem_cons, List.not_mem_nil, or_false] at hz
  rcases hz with rfl | rfl | rfl | rfl | rfl | rfl <;> decide
theorem key_any (w0 w : World) (g : Nat) (ao : Option Addr) (len cap : Nat) (hlen : len ≤ 1048576) (hcode : Code w0 ao len) (hc : CurAt w0 w g ao len cap) :
    Calls Tryz.prog 61 #[.pointer (some ⟨g, 0, none⟩)] w fun e w' => ∃ z : ByteArray, e = .returned (.string z) ∧ (1 ≤ z.size ∧ z.size ≤ 8) ∧ CurAt w0 w' g ao len cap ∧ w.grownBy w' (some g) := by
  have HC := hide hcode
  have HU := hide hc
  have hgl := cur_lt hc
  clear hcode hc
  have hb : Below w.heap.size w (w.alloc (.cells #[.string ⟨#[97]⟩, .string ⟨#[98]⟩, .string ⟨#[99]⟩, .string ⟨#[100]⟩, .string ⟨#[107, 101, 121]⟩, .string ⟨#[107, 107]⟩] 9)) := (Below.refl _ _).alloc (Nat.le_refl _) _
  have HB := hide hb
  clear hb
  go_enter Tryz.func61, Tryz.ntmps61
  go_wp2_with fail
  refine (pickText_any w0 _ g w.heap.size ao len cap 6 keysL hlen HC.out (cur_keep HU.out HB.out hgl) (by omega) rfl (by omega) (by omega) (keys_cells w)).mono ?_
  rintro e w2 ⟨z, rfl, hz, hc2, g2⟩
  have HZ := hide (keys_small z hz)
  have HU2 := hide hc2
  have HG := hide (grownBy_trans (grownBy_below (some g) HB.out) g2)
  clear hz hc2 g2
  go_wp2
  go_ret
  exact ⟨z, rfl, HZ.out, HU2.out, HG.out⟩
def StO (w0 w wr : World) (g : Nat) (ao : Option Addr) (len cap : Nat) (v : Value) (acc : List ByteArray) : Prop :=
  CurAt w0 wr g ao len cap ∧ w.grownBy wr (some g) ∧ g < w.heap.size ∧ wr.ownsRow w.heap.size 9 1 v acc.length (acc.map Value.string)
theorem stO_call {w0 w wr w' : World} {g : Nat} {ao : Option Addr} {len cap : Nat} {v : Value} {acc : List ByteArray} (h : StO w0 w wr g ao len cap v acc) (hc : CurAt w0 w' g ao len cap) (hg : wr.grownBy w' (some g)) : StO w0 w w' g ao len cap v acc :=
  ⟨hc, h.2.1.trans hg, h.2.2.1, row_keep h.2.2.2 hg h.2.2.1⟩
theorem stO_below {w0 w wr w' : World} {g : Nat} {ao : Option Addr} {len cap : Nat} {v : Value} {acc : List ByteArray} (h : StO w0 w wr g ao len cap v acc) (hb : Below wr.heap.size wr w') : StO w0 w w' g ao len cap v acc :=
  ⟨cur_keep h.1 hb (cur_lt h.1), grownBy_then h.2.1 (hb.mono h.2.1.size), h.2.2.1, ownsRow_below h.2.2.2 hb⟩
theorem stO_row {w0 w wr w5 : World} {g : Nat} {ao : Option Addr} {len cap : Nat} {v v' : Value} {acc acc' : List ByteArray} (h : StO w0 w wr g ao len cap v acc) (hb : Below w.heap.size wr w5) (ho : w5.ownsRow w.heap.size 9 1 v' acc'.length (acc'.map Value.string)) : StO w0 w w5 g ao len cap v' acc' :=
  ⟨cur_keep h.1 hb h.2.2.1, grownBy_then h.2.1 hb, h.2.2.1, ho⟩
theorem own_new (w : World) (B n : Nat) (C : Array Value) (zs : List ByteArray) (hC : C = (zs.map Value.string).toArray) (hn : zs.length = n) (hB : B ≤ w.heap.size) (hl : n ≤ 1000) : (w.alloc (.cells C 9)).ownsRow B 9 1 (.slice (some ⟨w.heap.size, 0, none⟩) n n) zs.length (zs.map Value.string) := by
  subst hC hn
  refine ⟨by simp, .inr ⟨w.heap.size, zs.length, _, rfl, hB, heap_alloc_new _ _, Nat.le_refl _, by unfold maxLen; omega, by simp, ?_⟩⟩
  rw [List.take_of_length_le (by simp)]
theorem stO_new {w0 w wr : World} {g : Nat} {ao : Option Addr} {len cap n : Nat} (C : Array Value) (zs : List ByteArray) (hC : C = (zs.map Value.string).toArray) (hn : zs.length = n) (hl : n ≤ 1000) (hc : CurAt w0 wr g ao len cap) (hg : w.grownBy wr (some g)) (hgw : g < w.heap.size) :
    StO w0 w (wr.alloc (.cells C 9)) g ao len cap (.slice (some ⟨wr.heap.size, 0, none⟩) n n) zs := by
  have hb : Below wr.heap.size wr (wr.alloc (.cells C 9)) := (Below.refl _ wr).alloc (Nat.le_refl _) _
  exact ⟨cur_keep hc hb (cur_lt hc), grownBy_then hg (hb.mono hg.size), hgw, own_new wr _ n C zs hC hn hg.size hl⟩
theorem bnd_snoc {acc : List ByteArray} {x : ByteArray} {n : Nat} (h : ∀ z ∈ acc, z.size ≤ n) (hx : x.size ≤ n) : ∀ z ∈ acc ++ [x], z.size ≤ n := by
  intro q hq
  rcases List.mem_append.1 hq with hq | hq
  · exact h q hq
  · obtain rfl : q = x := by simpa using hq
    exact hx
theorem pickNew_any (w0 w : World) (g : Nat) (ao : Option Addr) (len cap n : Nat) (C : Array Value) (zs : List ByteArray) (hC : C = (zs.map Value.string).toArray) (hzs : zs.length = n) (hn0 : 0 < n) (hn : n ≤ 1000) (hz : ∀ z ∈ zs, z.size ≤ 60) (hlen : len ≤ 1048576) (hcode : Code w0 ao len) (hc : CurAt w0 w g ao len cap) :
    Calls Tryz.prog 40 #[.pointer (some ⟨g, 0, none⟩), .slice (some ⟨w.heap.size, 0, none⟩) n n] (w.alloc (.cells C 9)) fun e w' => ∃ z : ByteArray, e = .returned (.string z) ∧ z.size ≤ 60 ∧ CurAt w0 w' g ao len cap ∧ w.grownBy w' (some g) := by
  have hb : Below w.heap.size w (w.alloc (.cells C 9)) := (Below.refl _ w).alloc (Nat.le_refl _) _
  have hg := cur_lt hc
  refine (pickText_any w0 _ g w.heap.size ao len cap n zs hlen hcode (cur_keep hc hb hg) (by omega) hzs hn0 hn (texts_cells zs (T := 9) (by subst hC; exact heap_alloc_new _ _))).mono ?_
  rintro e w1 ⟨z, rfl, hm, c1, g1⟩
  exact ⟨z, rfl, hz z hm, c1, (grownBy_below (some g) hb).trans g1⟩
theorem decSm_len : ∀ n : Nat, n < 12 → (Wd.decS ((n : Int) - 4)).length ≤ 2 := by
  have : ((List.range 12).all fun n => decide ((Wd.decS ((n : Int) - 4)).length ≤ 2)) = true := by kernel_rfl
  intro n hn
  have := (List.all_eq_true.1 this) n (List.mem_range.2 (by omega))
  simpa using this
theorem decSm_any (n : Nat) (w : World) (h : n < 12) : Calls Tryz.prog 9 #[.int .i64 ((n : Int) - 4)] w fun e w' => ∃ z : ByteArray, e = .returned (.string z) ∧ z.size ≤ 60 ∧ Below w.heap.size w w' := by
  refine (decimal_any ((n : Int) - 4) w (by omega) (by omega)).mono ?_
  rintro e w1 ⟨rfl, b1⟩
  exact ⟨_, rfl, by have := decSm_len n h; show (Wd.decS ((n : Int) - 4)).length ≤ 60; omega, b1⟩
def wordsR : List ByteArray := [⟨#[]⟩, ⟨#[49]⟩, ⟨#[45, 55]⟩, ⟨#[120]⟩, ⟨#[121, 121]⟩, ⟨#[104, 101, 108, 108, 111]⟩, ⟨#[49, 50]⟩, ⟨#[97, 32, 98]⟩]
theorem word_any (w0 w : World) (g : Nat) (ao : Option Addr) (len cap : Nat) (hlen : len ≤ 1048576) (hcode : Code w0 ao len) (hc : CurAt w0 w g ao len cap) :
    Calls Tryz.prog 100 #[.pointer (some ⟨g, 0, none⟩)] w fun e w' => ∃ z : ByteArray, e = .returned (.string z) ∧ z.size ≤ 60 ∧ CurAt w0 w' g ao len cap ∧ w.grownBy w' (some g) := by
  have HP := hide (pickNew_any w0 w g ao len cap 8 _ wordsR rfl rfl (by omega) (by omega) (by decide) hlen hcode hc)
  clear hcode hc
  go_enter Tryz.func100, Tryz.ntmps100
  go_wp2_with fail
  refine HP.out.mono ?_
  rintro e w1 ⟨z, rfl, hz, c1, g1⟩
  have C1 := hide c1
  have G1 := hide g1
  clear c1 g1
  go_wp2
  go_ret
  exact ⟨z, rfl, hz, C1.out, G1.out⟩
theorem l11Rest_any (w0 w : World) (g : Nat) (ao : Option Addr) (len cap : Nat) (nm : ByteArray) (hlen : len ≤ 1048576) (hcode : Code w0 ao len) (hc : CurAt w0 w g ao len cap) :
    Calls Tryz.prog 62 #[.pointer (some ⟨g, 0, none⟩), .string nm] w fun e w' => ∃ (k c : Nat) (ts : List ByteArray), e = .returned (.slice (some ⟨k, 0, none⟩) ts.length c) ∧ ts.length ≤ 3 ∧ (∀ z ∈ ts, z.size ≤ 60) ∧ StO w0 w w' g ao len cap (.slice (some ⟨k, 0, none⟩) ts.length c) ts := by
  have HPN := hide (fun W n C zs hC hzs hn0 hn hz (h : CurAt w0 W g ao len cap) => pickNew_any w0 W g ao len cap n C zs hC hzs hn0 hn hz hlen hcode h)
  have HBE := hide (fun W (n : Int) (hn : n ≤ 4611686018427387904) (h : CurAt w0 W g ao len cap) => below_any w0 W g ao len cap n hlen hn hcode h)
  have HON := hide (fun W (n : Int) (hn : n ≤ 4611686018427387904) (h : CurAt w0 W g ao len cap) => once_any w0 W g ao len cap n hlen hn hcode h)
  have HWO := hide (fun W (h : CurAt w0 W g ao len cap) => word_any w0 W g ao len cap hlen hcode h)
  have hg := cur_lt hc
  have HU := hide hc
  clear hcode hc
  go_enter Tryz.func62, Tryz.ntmps62
  go_wp2_with fail
  refine (HPN.out w 4 _ [⟨#[102]⟩, ⟨#[103]⟩, ⟨#[104]⟩, ⟨#[122]⟩] rfl rfl (by omega) (by omega) (by decide) HU.out).mono ?_
  rintro e w1 ⟨fd, rfl, hfd, c1, g1⟩
  have U1 := hide c1
  have G1 := hide g1
  clear c1 g1
  go_wp2_with fail
  refine (HBE.out _ 12 (by omega) U1.out).mono ?_
  rintro e w2 ⟨x, rfl, hx, -, c2, g2⟩
  have hx12 : x < 12 := by have := hx (by omega); omega
  have U2 := hide c2
  have G2 := hide (G1.out.trans g2)
  have HDE := hide (decSm_any x w2 hx12)
  clear c2 g2 U1 G1 hx
  go_wp2_with fail
  refine HDE.out.mono ?_
  rintro e w3 ⟨nb, rfl, hnb, b3⟩
  have U3 := hide (cur_keep U2.out b3 (cur_lt U2.out))
  have G3 := hide (grownBy_then G2.out (b3.mono G2.out.size))
  clear b3 U2 G2 HDE hx12
  have X0 : (((nm.toList == [83, 69, 84]) = true) ∨ ((nm.toList == [83, 69, 84]) = false ∧ (nm.toList == [83, 69, 84, 78, 88]) = true) ∨ ((nm.toList == [83, 69, 84]) = false ∧ (nm.toList == [83, 69, 84, 78, 88]) = false ∧ (nm.toList == [71, 69, 84, 83, 69, 84]) = true) ∨ ((nm.toList == [83, 69, 84]) = false ∧ (nm.toList == [83, 69, 84, 78, 88]) = false ∧ (nm.toList == [71, 69, 84, 83, 69, 84]) = false ∧ (nm.toList == [65, 80, 80, 69, 78, 68]) = true)) ∨ ((nm.toList == [83, 69, 84]) = false ∧ (nm.toList == [83, 69, 84, 78, 88]) = false ∧ (nm.toList == [71, 69, 84, 83, 69, 84]) = false ∧ (nm.toList == [65, 80, 80, 69, 78, 68]) = false) := by
    generalize (nm.toList == [83, 69, 84]) = bSET
    generalize (nm.toList == [83, 69, 84, 78, 88]) = bSETNX
    generalize (nm.toList == [71, 69, 84, 83, 69, 84]) = bGETSET
    generalize (nm.toList == [65, 80, 80, 69, 78, 68]) = bAPPEND
    revert bSET bSETNX bGETSET bAPPEND; decide
  rcases X0 with X0 | X0
  · rcases X0 with e0 | ⟨e0, e1⟩ | ⟨e0, e1, e2⟩ | ⟨e0, e1, e2, e3⟩
    all_goals
      go_wp2_with fail
      refine (HWO.out _ U3.out).mono ?_
      rintro e w4 ⟨z, rfl, hz, c4, g4⟩
      have S4 := hide (stO_new (n := 1) #[.string z] [z] rfl rfl (by omega) c4 (G3.out.trans g4) hg)
      clear c4 g4
      go_wp2
      go_ret
      exact ⟨w4.heap.size, 1, [z], rfl, by simp, by simpa using hz, S4.out⟩
  obtain ⟨f0_0, f0_1, f0_2, f0_3⟩ := X0
  have X1 : (((nm.toList == [73, 78, 67, 82, 66, 89]) = true) ∨ ((nm.toList == [73, 78, 67, 82, 66, 89]) = false ∧ (nm.toList == [68, 69, 67, 82, 66, 89]) = true) ∨ ((nm.toList == [73, 78, 67, 82, 66, 89]) = false ∧ (nm.toList == [68, 69, 67, 82, 66, 89]) = false ∧ (nm.toList == [76, 73, 78, 68, 69, 88]) = true) ∨ ((nm.toList == [73, 78, 67, 82, 66, 89]) = false ∧ (nm.toList == [68, 69, 67, 82, 66, 89]) = false ∧ (nm.toList == [76, 73, 78, 68, 69, 88]) = false ∧ (nm.toList == [69, 88, 80, 73, 82, 69]) = true)) ∨ ((nm.toList == [73, 78, 67, 82, 66, 89]) = false ∧ (nm.toList == [68, 69, 67, 82, 66, 89]) = false ∧ (nm.toList == [76, 73, 78, 68, 69, 88]) = false ∧ (nm.toList == [69, 88, 80, 73, 82, 69]) = false) := by
    generalize (nm.toList == [73, 78, 67, 82, 66, 89]) = bINCRBY
    generalize (nm.toList == [68, 69, 67, 82, 66, 89]) = bDECRBY
    generalize (nm.toList == [76, 73, 78, 68, 69, 88]) = bLINDEX
    generalize (nm.toList == [69, 88, 80, 73, 82, 69]) = bEXPIRE
    revert bINCRBY bDECRBY bLINDEX bEXPIRE; decide
  rcases X1 with X1 | X1
  · rcases X1 with e0 | ⟨e0, e1⟩ | ⟨e0, e1, e2⟩ | ⟨e0, e1, e2, e3⟩
    all_goals
      go_wp2_with fail
      refine (HON.out _ 12 (by omega) U3.out).mono ?_
      rintro e w4 ⟨b, rfl, c4, g4⟩
      have U4 := hide c4
      have G4 := hide (G3.out.trans g4)
      clear c4 g4
      cases b
      · have S4 := hide (stO_new (n := 1) #[.string nb] [nb] rfl rfl (by omega) U4.out G4.out hg)
        go_wp2
        go_ret
        exact ⟨w4.heap.size, 1, [nb], rfl, by simp, by simpa using hnb, S4.out⟩
      · go_wp2_with fail
        refine (HPN.out w4 5 _ [⟨#[120]⟩, ⟨#[48, 49]⟩, ⟨#[57, 57, 57, 57, 57, 57, 57, 57, 57, 57, 57, 57, 57, 57, 57]⟩, ⟨#[45, 48]⟩, ⟨#[49, 48, 48, 48, 48, 49]⟩] rfl rfl (by omega) (by omega) (by decide) U4.out).mono ?_
        rintro e w5 ⟨z, rfl, hz, c5, g5⟩
        have S5 := hide (stO_new (n := 1) #[.string z] [z] rfl rfl (by omega) c5 (G4.out.trans g5) hg)
        clear c5 g5
        go_wp2
        go_ret
        exact ⟨w5.heap.size, 1, [z], rfl, by simp, by simpa using hz, S5.out⟩
  obtain ⟨f1_0, f1_1, f1_2, f1_3⟩ := X1
  have X2 : (((nm.toList == [76, 82, 65, 78, 71, 69]) = true)) ∨ ((nm.toList == [76, 82, 65, 78, 71, 69]) = false) := by
    generalize (nm.toList == [76, 82, 65, 78, 71, 69]) = bLRANGE
    revert bLRANGE; decide
  rcases X2 with X2 | X2
  · have e0 := X2
    go_wp2_with fail
    refine (HBE.out _ 12 (by omega) U3.out).mono ?_
    rintro e w4 ⟨y, rfl, hy, -, c4, g4⟩
    have hy12 : y < 12 := by have := hy (by omega); omega
    have U4 := hide c4
    have G4 := hide (G3.out.trans g4)
    have HDE := hide (decSm_any y w4 hy12)
    clear c4 g4 hy
    go_wp2_with fail
    refine HDE.out.mono ?_
    rintro e w5 ⟨z, rfl, hz, b5⟩
    have S5 := hide (stO_new (n := 2) #[.string nb, .string z] [nb, z] rfl rfl (by omega) (cur_keep U4.out b5 (cur_lt U4.out)) (grownBy_then G4.out (b5.mono G4.out.size)) hg)
    clear b5 hy12
    go_wp2
    go_ret
    exact ⟨w5.heap.size, 2, [nb, z], rfl, by simp, by simp; omega, S5.out⟩
  have f2_0 := X2
  clear X2
  have X3 : (((nm.toList == [72, 83, 69, 84]) = true)) ∨ ((nm.toList == [72, 83, 69, 84]) = false) := by
    generalize (nm.toList == [72, 83, 69, 84]) = bHSET
    revert bHSET; decide
  rcases X3 with X3 | X3
  · have e0 := X3
    go_wp2_with fail
    refine (HWO.out _ U3.out).mono ?_
    rintro e w4 ⟨z, rfl, hz, c4, g4⟩
    have S4 := hide (stO_new (n := 2) #[.string fd, .string z] [fd, z] rfl rfl (by omega) c4 (G3.out.trans g4) hg)
    clear c4 g4
    go_wp2
    go_ret
    exact ⟨w4.heap.size, 2, [fd, z], rfl, by simp, by simp; omega, S4.out⟩
  have f3_0 := X3
  clear X3
  have X4 : (((nm.toList == [72, 71, 69, 84]) = true) ∨ ((nm.toList == [72, 71, 69, 84]) = false ∧ (nm.toList == [83, 73, 83, 77, 69, 77, 66, 69, 82]) = true)) ∨ ((nm.toList == [72, 71, 69, 84]) = false ∧ (nm.toList == [83, 73, 83, 77, 69, 77, 66, 69, 82]) = false) := by
    generalize (nm.toList == [72, 71, 69, 84]) = bHGET
    generalize (nm.toList == [83, 73, 83, 77, 69, 77, 66, 69, 82]) = bSISMEMBER
    revert bHGET bSISMEMBER; decide
  rcases X4 with X4 | X4
  · rcases X4 with e0 | ⟨e0, e1⟩
    all_goals
      have S4 := hide (stO_new (n := 1) #[.string fd] [fd] rfl rfl (by omega) U3.out G3.out hg)
      go_wp2
      go_ret
      exact ⟨w3.heap.size, 1, [fd], rfl, by simp, by simpa using hfd, S4.out⟩
  obtain ⟨f4_0, f4_1⟩ := X4
  have X5 : (((nm.toList == [76, 80, 85, 83, 72]) = true) ∨ ((nm.toList == [76, 80, 85, 83, 72]) = false ∧ (nm.toList == [82, 80, 85, 83, 72]) = true) ∨ ((nm.toList == [76, 80, 85, 83, 72]) = false ∧ (nm.toList == [82, 80, 85, 83, 72]) = false ∧ (nm.toList == [83, 65, 68, 68]) = true) ∨ ((nm.toList == [76, 80, 85, 83, 72]) = false ∧ (nm.toList == [82, 80, 85, 83, 72]) = false ∧ (nm.toList == [83, 65, 68, 68]) = false ∧ (nm.toList == [83, 82, 69, 77]) = true) ∨ ((nm.toList == [76, 80, 85, 83, 72]) = false ∧ (nm.toList == [82, 80, 85, 83, 72]) = false ∧ (nm.toList == [83, 65, 68, 68]) = false ∧ (nm.toList == [83, 82, 69, 77]) = false ∧ (nm.toList == [72, 68, 69, 76]) = true)) ∨ ((nm.toList == [76, 80, 85, 83, 72]) = false ∧ (nm.toList == [82, 80, 85, 83, 72]) = false ∧ (nm.toList == [83, 65, 68, 68]) = false ∧ (nm.toList == [83, 82, 69, 77]) = false ∧ (nm.toList == [72, 68, 69, 76]) = false) := by
    generalize (nm.toList == [76, 80, 85, 83, 72]) = bLPUSH
    generalize (nm.toList == [82, 80, 85, 83, 72]) = bRPUSH
    generalize (nm.toList == [83, 65, 68, 68]) = bSADD
    generalize (nm.toList == [83, 82, 69, 77]) = bSREM
    generalize (nm.toList == [72, 68, 69, 76]) = bHDEL
    revert bLPUSH bRPUSH bSADD bSREM bHDEL; decide
  rcases X5 with X5 | X5
  · rcases X5 with e0 | ⟨e0, e1⟩ | ⟨e0, e1, e2⟩ | ⟨e0, e1, e2, e3⟩ | ⟨e0, e1, e2, e3, e4⟩
    all_goals
      have S4 := hide (stO_new (n := 1) #[.string fd] [fd] rfl rfl (by omega) U3.out G3.out hg)
      go_wp2_with fail
      generalize w3.alloc (.cells #[.string fd] 9) = w4 at S4
      generalize w3.heap.size = kb0 at S4
      clear U3 G3
      go_loopw [7, 8] (fun vv ii wr => ∃ (k kb c : Nat) (acc : List ByteArray), vv = .slice (some ⟨kb, 0, none⟩) acc.length c ∧ ii = .int .i64 (k : Int) ∧ k ≤ 2 ∧ acc.length ≤ k + 1 ∧ Hid (∀ z ∈ acc, z.size ≤ 60) ∧ Hid (StO w0 w wr g ao len cap (.slice (some ⟨kb, 0, none⟩) acc.length c) acc)) (fun _ ii _ => 3 - (intOf ii).toNat)
      case atStart => exact ⟨0, kb0, 1, [fd], rfl, rfl, by omega, Nat.le_refl _, (fun z hz => (by obtain rfl : z = fd := (by simpa using hz); exact hfd)), S4⟩
      case round =>
        clear S4
        obtain ⟨k, kb, c, acc, rfl, rfl, hk, hal, HZ, HS⟩ := hrel
        go_wp2_with fail
        refine (HBE.out _ 3 (by omega) HS.out.1).mono ?_
        rintro e w5 ⟨y, rfl, hy, -, c5, g5⟩
        have hy3 : y < 3 := by have := hy (by omega); omega
        have S5 := hide (stO_call HS.out c5 g5)
        clear c5 g5 hy HS
        by_cases hlt : k < y
        · have hlt' : decide ((k : Int) < (y : Int)) = true := by simp; omega
          go_wp2_with fail
          refine (HPN.out w5 5 _ [⟨#[102]⟩, ⟨#[103]⟩, ⟨#[104]⟩, ⟨#[122]⟩, ⟨#[49]⟩] rfl rfl (by omega) (by omega) (by decide) S5.out.1).mono ?_
          rintro e w6 ⟨z, rfl, hz, c6, g6⟩
          have S6 := hide (stO_call S5.out c6 g6)
          have hs6 := S6.out.2.1.size
          clear c6 g6 S5
          go_wp2_with (at_builtin; refine app_txt _ w.heap.size (by rfl) _ _ (by rfl) _ acc z (by rfl) (S6.out.2.2.2.alloc _) w6.heap.size (by simp [Act.eval]) (heap_alloc_new w6 _) (by omega) (by simp; omega) ?_; intro g9 cap9 w9 ho9 hb9 hgr9 hg9 hgl9; have S9 := hide (stO_row S6.out (((Below.refl _ w6).alloc hs6 _).trans hb9) ho9); clear ho9 hb9 hgr9 hg9 hgl9)
          go_roundw
          case rel => exact ⟨k + 1, g9, cap9, acc ++ [z], by simp, by go_num, by omega, by simp; omega, bnd_snoc HZ.out hz, by rw [List.length_append]; exact S9⟩
          case measure => simp [intOf]; omega
        · have hlt' : decide ((k : Int) < (y : Int)) = false := by simp; omega
          go_wp2
          go_ret
          exact ⟨kb, c, acc, rfl, by omega, HZ.out, S5.out⟩
  obtain ⟨f5_0, f5_1, f5_2, f5_3, f5_4⟩ := X5
  have S4 := hide (stO_new (n := 0) #[] [] rfl rfl (by omega) U3.out G3.out hg)
  go_wp2
  go_ret
  exact ⟨w3.heap.size, 0, [], rfl, by simp, fun z hz => absurd hz List.not_mem_nil, S4.out⟩
def cmdsL : List ByteArray := [⟨#[80, 73, 78, 71]⟩, ⟨#[69, 67, 72, 79]⟩, ⟨#[71, 69, 84]⟩, ⟨#[83, 69, 84]⟩, ⟨#[83, 69, 84, 78, 88]⟩, ⟨#[71, 69, 84, 83, 69, 84]⟩, ⟨#[65, 80, 80, 69, 78, 68]⟩, ⟨#[83, 84, 82, 76, 69, 78]⟩, ⟨#[73, 78, 67, 82]⟩, ⟨#[68, 69, 67, 82]⟩, ⟨#[73, 78, 67, 82, 66, 89]⟩, ⟨#[68, 69, 67, 82, 66, 89]⟩, ⟨#[77, 71, 69, 84]⟩, ⟨#[77, 83, 69, 84]⟩, ⟨#[68, 69, 76]⟩, ⟨#[69, 88, 73, 83, 84, 83]⟩, ⟨#[84, 89, 80, 69]⟩, ⟨#[69, 88, 80, 73, 82, 69]⟩, ⟨#[84, 84, 76]⟩, ⟨#[80, 69, 82, 83, 73, 83, 84]⟩, ⟨#[75, 69, 89, 83]⟩, ⟨#[68, 66, 83, 73, 90, 69]⟩, ⟨#[70, 76, 85, 83, 72, 65, 76, 76]⟩, ⟨#[76, 80, 85, 83, 72]⟩, ⟨#[82, 80, 85, 83, 72]⟩, ⟨#[76, 80, 79, 80]⟩, ⟨#[82, 80, 79, 80]⟩, ⟨#[76, 76, 69, 78]⟩, ⟨#[76, 82, 65, 78, 71, 69]⟩, ⟨#[76, 73, 78, 68, 69, 88]⟩, ⟨#[72, 83, 69, 84]⟩, ⟨#[72, 71, 69, 84]⟩, ⟨#[72, 68, 69, 76]⟩, ⟨#[72, 76, 69, 78]⟩, ⟨#[72, 71, 69, 84, 65, 76, 76]⟩, ⟨#[72, 75, 69, 89, 83]⟩, ⟨#[83, 65, 68, 68]⟩, ⟨#[83, 82, 69, 77]⟩, ⟨#[83, 73, 83, 77, 69, 77, 66, 69, 82]⟩, ⟨#[83, 67, 65, 82, 68]⟩, ⟨#[83, 77, 69, 77, 66, 69, 82, 83]⟩]
theorem cmdsL_size : ∀ z ∈ cmdsL, z.size ≤ 60 := by decide
theorem cmds_any (w : World) : Calls Tryz.prog 34 #[] w fun e w' => e = .returned (.slice (some ⟨w.heap.size, 0, none⟩) 41 41) ∧ w' = w.alloc (.cells (cmdsL.map Value.string).toArray 9) := by
  go_enter Tryz.func34, Tryz.ntmps34
  go_wp2
  go_ret
  exact ⟨rfl, rfl⟩
end Go.Proofs.YtifjneldjjmeaaaGreatDoor
