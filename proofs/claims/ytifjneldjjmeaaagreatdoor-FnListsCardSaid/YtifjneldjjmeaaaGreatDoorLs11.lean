import Derived.Deep.Upon
import Derived.Test.YtifjneldjjmeaaaGreatDoorLs8
import Derived.Test.YtifjneldjjmeaaaGreatDoorLs1
import Derived.Test.YtifjneldjjmeaaaGreatDoorLs10
set_option maxRecDepth 100000
set_option maxHeartbeats 3200000
namespace Go.Proofs.YtifjneldjjmeaaaGreatDoor
open Go.RowKit
theorem step_appR {P : Program} {ops : Array Oper} {o : Oper} {a : Act} {w : World} {K : Act → World → Prop} {Q : Exit → Act → World → Prop} {E : Prop}
    (hg : o.guard = none) (d x : Operand) (dT sT : TypeId) (hop : o.op = Op.call { callee := Callee.builtin Builtin.append, args := #[d, x], argTypes := #[dT, sT] })
    (v u : Value) (hd : a.eval d = v) (hx : a.eval x = u) {v' : Value} {w' : World} (hr : (Builtin.append_ #[dT, sT] o.type #[v, u]).run P w = .ok v' w') (hK : K (a.put o.dst v') w') :
    if Region.wanted o (yielded ops a.tmps) = true then Oper.wp P o a w K Q else E := by
  have hw : Region.wanted o (yielded ops a.tmps) = true := by simp [Region.wanted, hg]
  rw [if_pos hw]
  unfold Oper.wp
  simp [execOp, hop, resolve, invoke, builtin, hd, hx, hr, Result.andThen]
  exact hK
def zeroE : List Value := [.string ⟨#[]⟩, .int .i64 0, .int .i64 0, .string ⟨#[]⟩, .slice none 0 0]
theorem run_clear_entry {w : World} {g : Nat} {cur : Array Value} (hg : w.heap[g]? = some (.cells cur 40 (0, 0))) (h5 : 5 ≤ cur.size) (ty : TypeId) (c : Nat) :
    (Builtin.clear_ #[24] ty #[.slice (some ⟨g, 0, none⟩) 1 c]).run Tryz.prog w = .ok (.tuple #[]) (w.setRow g (zeroE ++ cur.toList.drop 5).toArray) := by
  obtain ⟨i0, hi, hz0, -, -⟩ := info_parts Tryz.infoEntry
  have hst := run_storeCells_row (P := Tryz.prog) (o := 0) (cs := zeroE) hg (by simpa [zeroE] using h5) (by simp [zeroE, Value.oneCell'])
  have hz : (Builtin.zeroCells (Value.agg #[.string ⟨#[]⟩, .int .i64 0, .int .i64 0, .string ⟨#[]⟩, .slice none 0 0]).cells 1).toList = zeroE := by kernel_rfl
  simp [zeroE] at hst
  simp [Builtin.clear_, run_underlying Tryz.underlying24, zeroValue, typeInfo, hi, hz0, hz, zeroE, hst, Result.andThen]
theorem buildE_cap1 {w : World} {B n c : Nat} {a : Option Addr} {T : List EntD} (h : BuildE w B (.slice a n c) T) : T.length ≤ c := by
  obtain ⟨vs, -, h2, -⟩ := h
  rcases h2.2 with ⟨-, h3⟩ | ⟨g, cap, cur, e, -, -, hle, -⟩
  · omega
  · cases e
    exact hle
theorem deleteOne_any (w : World) (B g c : Nat) (e0 : EntD) (h : BuildE w B (.slice (some ⟨g, 0, none⟩) 1 c) [e0]) :
    Calls Tryz.prog 153 #[.slice (some ⟨g, 0, none⟩) 1 c, .int .i64 0, .int .i64 1] w fun e w' => e = .returned (.slice (some ⟨g, 0, none⟩) 0 c) ∧ BuildE w' B (.slice (some ⟨g, 0, none⟩) 0 c) [] ∧ (∀ k, k ≠ g → w'.heap[k]? = w.heap[k]?) ∧ Below B w w' := by
  have hcap := buildE_cap1 h
  obtain ⟨vs, h1, h2, -, -⟩ := h
  rcases h2.2 with ⟨e, -⟩ | ⟨g1, cap, cur, ev, hBg, hC, hle, hcl, hs, ht⟩
  · cases e
  cases ev
  simp only [List.length_cons, List.length_nil, Nat.zero_add] at hcap
  obtain ⟨i0, hi, -, -, -⟩ := info_parts Tryz.infoEntry
  have hcs : 5 ≤ cur.size := by rw [hs]; omega
  obtain ⟨cur2, hcur2⟩ : ∃ cur2, cur2 = (zeroE ++ cur.toList.drop 5).toArray := ⟨_, rfl⟩
  have hl2 : cur2.size = cur.size := by rw [hcur2]; simp [zeroE]; omega
  have HCL := hide (fun (W : World) (hW : W.heap = w.heap) ty dc => run_clear_entry (w := W) (by rw [hW]; exact hC) hcs ty dc)
  rw [← hcur2] at HCL
  have HAP := hide (fun (W : World) (ad : Addr) ty dc => run_append_nothing (P := Tryz.prog) W 24 24 ty 40 i0 Tryz.underlying24 hi (some ⟨g, 0, none⟩) 0 c (Nat.zero_le _) (.slice (some ad) 0 dc) (Src.ofSlice W Tryz.underlying24 ad 0 dc [] (by simp) (fun j u hj => by simp at hj) (fun u hu => by simp at hu)))
  have HFIN : Hid (∀ W : World, W.heap = w.heap → Below B w W → BuildE (W.setRow g cur2) B (.slice (some ⟨g, 0, none⟩) 0 c) [] ∧ (∀ k, k ≠ g → (W.setRow g cur2).heap[k]? = w.heap[k]?) ∧ Below B w (W.setRow g cur2)) := fun W hW hWb => by
    refine ⟨⟨[], rfl, ⟨rfl, .inr ⟨g, c, cur2, rfl, hBg, setRow_heap W g _ _ _ _ (by rw [hW]; exact hC), Nat.zero_le _, hcl, by rw [hl2, hs], rfl⟩⟩, fun j x b h => by simp at h, fun i j x y h _ hx => by simp at hx⟩, fun k hk => by rw [setRow_other _ _ _ _ hk, hW], below_setRow hWb hBg _⟩
  clear h1 h2 hC ht hs hcur2 hl2 hcl hi
  have hc0 : (1 : Int) ≤ (c : Int) := by omega
  by_cases hc1 : c = 1
  · subst hc1
    have HAP4 := hide (fun (W : World) ty dc => HAP.out W ⟨g, 0, none⟩ ty dc)
    go_enter Tryz.func153, Tryz.ntmps153
    go_upto_region 5 with fail
    go_region_law (go_loud (refine step_appR (by rfl) _ _ 24 24 rfl (.slice (some ⟨g, 0, none⟩) 0 1) (.slice (some ⟨g, 0, none⟩) 0 0) (by rfl) (by rfl) (HAP4.out _ _ _) ?_))
    all_goals
      have hq := HCL.out w.drew rfl
      go_wp2_with (simp only [hq])
      go_ret
      exact ⟨rfl, HFIN.out w.drew rfl (Below.refl _ w).drew⟩
  · have HAP4 := hide (fun (W : World) ty dc => HAP.out W ⟨g, 5, none⟩ ty dc)
    go_enter Tryz.func153, Tryz.ntmps153
    go_upto_region 5 with fail
    go_region_law (go_loud (refine step_appR (by rfl) _ _ 24 24 rfl (.slice (some ⟨g, 0, none⟩) 0 c) (.slice (some ⟨g, 5, none⟩) 0 (c - 1)) (by rfl) (by rfl) (HAP4.out _ _ _) ?_))
    all_goals
      have hq := HCL.out w.drew rfl
      go_wp2_with (simp only [hq])
      go_ret
      exact ⟨rfl, HFIN.out w.drew rfl (Below.refl _ w).drew⟩
theorem dropOne_any (e0 : EntD) (w : World) (B b : Nat) (tb : TypeId) (htb : (tb == 40) = false) (hT : TabR [e0]) (hW : WorkS tb w B b [e0]) (hB : B ≤ w.heap.size) :
    Calls Tryz.prog 143 #[.pointer (some ⟨b, 0, none⟩), .string e0.key] w fun e w' => e = .returned (.tuple #[]) ∧ WorkS tb w' B b [] ∧ Below B w w' := by
  obtain ⟨hBb, v, E, hbv, hbuild⟩ := hW
  obtain ⟨ao, cap, rfl⟩ := buildE_form hbuild
  obtain ⟨g, rfl, -⟩ := buildE_addr hbuild (by simp)
  have HS := hide (searchE_any [e0] (some ⟨g, 0, none⟩) cap e0.key w (by simp) (tab_pw hT) (rowEnt_rows (buildE_row hbuild)).2)
  have HBU := hide hbuild
  have HBX := hide hbv
  have hbw := obj_lt hbv
  have HNo : Hid (∀ p, PlaceT [e0] e0.key p → False) := fun p h => h.2.2.2 e0 (List.mem_singleton.2 rfl) rfl
  clear hbuild hbv hT
  obtain ⟨x0, -⟩ := box1w HBX.out
  go_enter Tryz.func143, Tryz.ntmps143
  simp only [List.length_cons, List.length_nil, Nat.zero_add] at *
  go_wp2_with fail
  refine HS.out.mono ?_
  rintro e w5 ⟨⟨p, fnd, rfl, hp, hy, hn⟩, b5⟩
  cases fnd with
  | false => exact (HNo.out p (hn rfl)).elim
  | true =>
    obtain ⟨hpl, hpk⟩ := hy rfl
    obtain rfl : p = 0 := by simp at hpl; exact hpl
    have B5 := hide b5
    have X5 := hide ((b5.block b hbw).trans HBX.out)
    have hd := hide (deleteOne_any w5 B g cap e0 (buildE_below HBU.out b5))
    clear b5 hy hn hp hpl hpk x0 HS HNo
    obtain ⟨x5, f5⟩ := box1w X5.out
    go_wp2_with fail
    refine hd.out.mono ?_
    rintro e w6 ⟨rfl, hb6, hk6, b6⟩
    have hbg : b ≠ g := fun e => by
      obtain ⟨vs, -, h2, -⟩ := HBU.out
      rcases h2.2 with ⟨e, -⟩ | ⟨g1, cap1, cur, ev, -, hC, -⟩
      · cases e
      · cases ev
        have hx := HBX.out
        rw [e, hC] at hx
        simp at hx
        rw [← hx.2] at htb
        simp at htb
    have X6 := hide ((hk6 b hbg).trans X5.out)
    obtain ⟨x6, f6⟩ := box1w X6.out
    have HB6 := hide hb6
    have B6 := hide ((B5.out.mono hB).trans b6)
    clear hb6 hk6 b6 x5 f5 hd
    go_wp2
    go_end0
    refine ⟨rfl, ⟨hBb, _, E, (heap_setCell_same w6 b 0 _ tb _ X6.out).trans rfl, ?_⟩, B6.out.setCell (p := ⟨b, 0, none⟩) hBb _⟩
    obtain ⟨vs, h1, h2, h3, h4⟩ := HB6.out
    obtain rfl : vs = [] := List.eq_nil_of_length_eq_zero (by simpa using h1)
    refine ⟨[], rfl, h2.kept (grownBy_store (World.grownBy.refl _ (some b)) 0 _) (.inr (fun e => hbg (by simpa [Value.ownBlock] using e.symm))), fun j x b h => by simp at h, fun i j x y h _ hx => by simp at hx⟩
theorem leave_any (T T2 : List EntD) (key : ByteArray) (k u : Int) (t : ByteArray) (L : List ByteArray) (er : Option ByteArray) (a : Option Addr) (c : Nat) (w : World) (B b : Nat) (tb : TypeId) (htb : (tb == 40) = false) (htb9 : (tb == 9) = false) (hT : TabR T) (hF : EntS 1048576 ⟨key, ⟨k, u, t, L⟩⟩) (hta : TextsAt w a L) (hW : WorkS tb w B b T) (hB : B ≤ w.heap.size)
    (hput : L ≠ [] → er = putErr (putT T key ⟨k, u, t, L⟩) ∧ T2 = putT T key ⟨k, u, t, L⟩) (hdrop : L = [] → (∃ v0, T = [⟨key, v0⟩]) ∧ er = none ∧ T2 = []) :
    Calls Tryz.prog 124 #[.pointer (some ⟨b, 0, none⟩), .string key, .agg #[.int .i64 k, .int .i64 u, .string t, .slice a L.length c]] w fun e w' => e = .returned (errV er) ∧ WorkS tb w' B b T2 ∧ Below B w w' := by
  obtain ⟨wA, hwA⟩ : ∃ wA, wA = w.alloc (.cells #[.int .i64 k, .int .i64 u, .string t, .slice a L.length c] 38) := ⟨_, rfl⟩
  have BA : Hid (Below w.heap.size w wA) := by rw [hwA]; exact (Below.refl _ w).alloc (Nat.le_refl _) _
  have PA : Hid (wA.heap[w.heap.size]? = some (.cells #[.int .i64 k, .int .i64 u, .string t, .slice a L.length c] 38 (0, 0))) := by rw [hwA]; exact heap_alloc_new _ _
  have SA := hide (workS_below hW BA.out)
  have TA := hide (textsAt_keep hta BA.out)
  have hBA : B ≤ wA.heap.size := Nat.le_trans hB BA.out.size
  have HT := hide hT
  have HF := hide hF
  clear hT hF hta hW
  obtain ⟨y0, y1, y2, y3⟩ := box4w PA.out
  cases L with
  | nil =>
    obtain ⟨⟨v0, rfl⟩, rfl, rfl⟩ := hdrop rfl
    have HD := hide (dropOne_any ⟨key, v0⟩ wA B b tb htb HT.out SA.out hBA)
    simp only at HD
    clear hput hdrop htb htb9
    go_enter Tryz.func124, Tryz.ntmps124
    go_upto_region 1 with fail
    simp only [List.length_nil] at *
    rw [← hwA]
    clear hwA
    go_wp2_with fail
    refine HD.out.mono ?_
    rintro e w6 ⟨rfl, s6, b6⟩
    have S6 := hide s6
    have B6 := hide ((BA.out.mono hB).trans b6)
    clear s6 b6
    go_wp2
    go_ret
    exact ⟨rfl, S6.out, B6.out⟩
  | cons x0 L0 =>
    obtain ⟨rfl, rfl⟩ := hput (by simp)
    have HP := hide (put_any T ⟨key, k, u, t, x0 :: L0⟩ a c wA B b tb htb htb9 HT.out HF.out TA.out SA.out hBA)
    simp only at HP
    have hl0 : (0 : Int) < ((x0 :: L0).length : Int) := by simp
    generalize putT T key ⟨k, u, t, x0 :: L0⟩ = T2 at HP ⊢
    generalize (x0 :: L0).length = n at HP hl0 y3 hwA PA
    clear hput hdrop htb htb9
    go_enter Tryz.func124, Tryz.ntmps124
    go_upto_region 1 with fail
    rw [← hwA]
    clear hwA
    go_wp2_with fail
    refine HP.out.mono ?_
    rintro e w6 ⟨rfl, s6, b6⟩
    have S6 := hide s6
    have B6 := hide ((BA.out.mono hB).trans b6)
    clear s6 b6
    go_wp2
    go_ret
    exact ⟨rfl, S6.out, B6.out⟩
theorem lengthL_any (T : List EntD) (key : ByteArray) (w : World) (B b : Nat) (tb : TypeId) (hT : TabR T) (hW : WorkS tb w B b T) (hv : RVars w) :
    Calls Tryz.prog 85 #[.pointer (some ⟨b, 0, none⟩), .string key] w fun e w' => e = .returned (.tuple #[.string (hdB ⟨#[58]⟩ (lookK T key 2).1.items.length), errV (lookK T key 2).2.2]) ∧ Below w.heap.size w w' := by
  have HF := hide (findC_any T key 2 w B b tb hT hW)
  have HN := hide (fun (n : Int) W (h1 : -9223372036854775808 ≤ n) (h2 : n ≤ 9223372036854775807) (h : Below w.heap.size w W) => implNumber_any n W h1 h2 (rvars_below hv h).pow)
  have hsz := (look_small hT key 2).2.2.1
  clear hT hW hv
  generalize lookK T key 2 = r at HF hsz ⊢
  obtain ⟨⟨k, u, t, ts⟩, th, er⟩ := r
  simp only [valC] at HF hsz ⊢
  go_enter Tryz.func85, Tryz.ntmps85
  go_wp2_with fail
  refine HF.out.mono ?_
  rintro e w1 ⟨⟨a1, c1, rfl, -⟩, b1⟩
  have B1 := hide b1
  clear b1
  go_upto_region 2 with fail
  obtain ⟨wB, hwB⟩ : ∃ wB, wB = w1.alloc (.cells #[.int .i64 k, .int .i64 u, .string t, .slice a1 ts.length c1] 38) := ⟨_, rfl⟩
  rw [← hwB]
  have BB : Hid (Below w1.heap.size w1 wB) := by rw [hwB]; exact (Below.refl _ w1).alloc (Nat.le_refl _) _
  have PB : Hid (wB.heap[w1.heap.size]? = some (.cells #[.int .i64 k, .int .i64 u, .string t, .slice a1 ts.length c1] 38 (0, 0))) := by rw [hwB]; exact heap_alloc_new _ _
  clear hwB
  have B2 := hide (B1.out.trans (BB.out.mono B1.out.size))
  obtain ⟨y0, y1, y2, y3⟩ := box4w PB.out
  go_wp2_with fail
  refine (HN.out (ts.length : Int) wB (by omega) (by omega) B2.out).mono ?_
  rintro e w3 ⟨rfl, b3⟩
  have B3 := hide (B2.out.trans (b3.mono B2.out.size))
  clear b3
  go_wp2
  go_ret2
  exact ⟨rfl, B3.out⟩
theorem popNone_any (T : List EntD) (key : ByteArray) (V : ValD) (fv : Value) (w0 w : World) (b : Nat) (tb : TypeId) (hl : lookK T key 2 = (V, false, none)) (hT : TabR T) (hW : WorkS tb w w0.heap.size b T) (hv : RVars w0) (h0 : Below w0.heap.size w0 w) :
    Calls Tryz.prog 82 #[.pointer (some ⟨b, 0, none⟩), .string key, fv] w (DoP tb w0.heap.size b w nilB none T) := by
  have HF := hide (findC_any T key 2 w w0.heap.size b tb hT hW)
  have HWS := hide (fun W (h : Below w.heap.size w W) => workS_below hW h)
  have hw0 := h0.size
  have HV := hide (fun W (h : Below w.heap.size w W) => (rvars_below hv (h0.trans (h.mono hw0))).pow)
  rw [hl] at HF
  clear hl hT hW h0 hv
  obtain ⟨k, u, t, ts⟩ := V
  simp only [valC, errV] at HF
  go_enter Tryz.func82, Tryz.ntmps82
  go_wp2_with fail
  refine HF.out.mono ?_
  rintro e w1 ⟨⟨a1, c1, rfl, -⟩, b1⟩
  have B2 := hide (b1.alloc b1.size (.cells #[.int .i64 k, .int .i64 u, .string t, .slice a1 ts.length c1] 38))
  have W2 := hide (HWS.out _ B2.out)
  clear b1
  go_wp2_with fail
  refine (implNil_any _ (HV.out _ B2.out)).mono ?_
  rintro e w3 ⟨rfl, b3⟩
  have W3 := hide (workS_below W2.out b3)
  have B3 := hide (B2.out.trans (b3.mono B2.out.size))
  clear b3
  go_wp2
  go_ret2
  exact ⟨rfl, W3.out, B3.out.mono hw0⟩
theorem popA_any (T T2 : List EntD) (key : ByteArray) (k u : Int) (t x : ByteArray) (L : List ByteArray) (er : Option ByteArray) (w0 w : World) (b : Nat) (hl : lookK T key 2 = (⟨k, u, t, x :: L⟩, true, none)) (hT : TabR T) (hW : WorkE 69 w w0.heap.size b T 1) (hv : RVars w0) (h0 : Below w0.heap.size w0 w) (hk : key.size ≤ 1048576)
    (hput : L ≠ [] → er = putErr (putT T key ⟨k, u, t, L⟩) ∧ T2 = putT T key ⟨k, u, t, L⟩) (hdrop : L = [] → (∃ v0, T = [⟨key, v0⟩]) ∧ er = none ∧ T2 = []) :
    Calls Tryz.prog 82 #[.pointer (some ⟨b, 0, none⟩), .string key, .func (.func 83) #[.pointer (some ⟨b, 1, none⟩)] #[]] w (DoP 69 w0.heap.size b w (bulkB x) er T2) := by
  have hLT := look_list hT key (by rw [hl])
  rw [hl] at hLT
  obtain ⟨hts24, ht60, htsz⟩ := hLT
  simp only at hts24 ht60 htsz
  have hxz := htsz x (by simp)
  have hLl : L.length ≤ 24 := by simp at hts24; omega
  have HLV := hide (fun W a c (hta : TextsAt W a L) (hT2 : WorkS 69 W w0.heap.size b T) (hB : w0.heap.size ≤ W.heap.size) => leave_any T T2 key k u t L er a c W w0.heap.size b 69 (by decide) (by decide) hT ⟨hk, by show t.size ≤ 1048576; omega, by show L.length ≤ 1048576; omega, fun s hs => by have := htsz s (by simp [hs]); omega⟩ hta hT2 hB hput hdrop)
  have HF := hide (findC_any T key 2 w w0.heap.size b 69 hT (workE_S hW))
  have HBK := hide (fun W (h : Below w0.heap.size w0 W) => implBulk_any x W (by omega) (rvars_below hv h).pow)
  have hw0 := h0.size
  have H0 := hide h0
  obtain ⟨hBb, v0, x0, hb0, hbuild⟩ := workL_box hW
  have HB0 := hide hb0
  have HBU := hide hbuild
  rw [hl] at HF
  clear hl hT hW hv h0 hb0 hbuild hput hdrop htsz
  simp only [valC, errV] at HF
  obtain ⟨n, Hn⟩ : ∃ n, Hid ((x :: L).length = n) := ⟨_, hide rfl⟩
  rw [Hn.out] at HF
  go_enter Tryz.func82, Tryz.ntmps82
  go_wp2_with fail
  refine HF.out.mono ?_
  rintro e w1 ⟨⟨a1, c1, rfl, r1⟩, b1⟩
  have B1 := hide b1
  obtain ⟨g, rfl⟩ : ∃ g, a1 = some ⟨g, 0, none⟩ := by
    rcases r1.1 with ⟨-, h2⟩ | ⟨g, cap, C, e, -⟩
    · cases h2
    · cases e
      exact ⟨g, rfl⟩
  have R1 := hide r1
  clear b1 r1
  have hgg := rowTextC_lt R1.out g rfl
  go_upto_region 2 with fail
  obtain ⟨wB, hwB⟩ : ∃ wB, wB = w1.alloc (.cells #[.int .i64 k, .int .i64 u, .string t, .slice (some ⟨g, 0, none⟩) n c1] 38) := ⟨_, rfl⟩
  rw [← hwB]
  have BB : Hid (Below w1.heap.size w1 wB) := by rw [hwB]; exact (Below.refl _ w1).alloc (Nat.le_refl _) _
  have PB : Hid (wB.heap[w1.heap.size]? = some (.cells #[.int .i64 k, .int .i64 u, .string t, .slice (some ⟨g, 0, none⟩) n c1] 38 (0, 0))) := by rw [hwB]; exact heap_alloc_new _ _
  clear hwB
  have hq := B1.out.size
  have hBBs := BB.out.size
  obtain ⟨y0, y1, y2, y3⟩ := box4w PB.out
  have hbw : b < w.heap.size := obj_lt HB0.out
  have BwB := hide (B1.out.trans (BB.out.mono hq))
  have XB := hide (boxL_below HB0.out BwB.out)
  obtain ⟨z1, z2⟩ := boxL_cells XB.out
  obtain ⟨wC, hwC⟩ : ∃ wC, wC = wB.setCell ⟨b, 1, none⟩ (.slice (some ⟨g, 0, none⟩) n c1) := ⟨_, rfl⟩
  have XC : Hid (BoxL wC b v0 (.slice (some ⟨g, 0, none⟩) n c1)) := by rw [hwC]; exact boxL_set XB.out _
  have BC : Hid (Below w0.heap.size w wC) := by rw [hwC]; exact (BwB.out.mono hw0).setCell (p := ⟨b, 1, none⟩) hBb _
  have KC : Hid (∀ j, j < wB.heap.size → j ≠ b → wC.heap[j]? = wB.heap[j]?) := by rw [hwC]; exact fun j _ hj => Below.heap_setCell _ _ _ _ (fun e => hj e)
  have RC : Hid (RowTextC wC w.heap.size (.slice (some ⟨g, 0, none⟩) n c1) (x :: L)) := by
    have h1 := rowTextC_below R1.out BB.out
    exact rowTextC_keep (w' := wC) h1 (fun g hg => KC.out g (rowTextC_lt h1 g hg).2 (fun e => by have := (rowTextC_lt R1.out g hg).1; omega))
  have hCs : wC.heap.size = wB.heap.size := by rw [hwC]; simp [World.setCell]
  have PC := hide ((KC.out _ (obj_lt PB.out) (by omega)).trans PB.out)
  have HTK := hide (takeFirst_any wC w.heap.size b g n c1 v0 x L XC.out RC.out (by omega))
  go_upto_region 7 with fail
  rw [← hwC]
  clear hwC y0 y1 y2 y3 z1 z2 RC XB R1
  go_wp2_with fail
  refine HTK.out.mono ?_
  rintro e w5 ⟨rfl, c5, x5, r5, k5, b5⟩
  have X5 := hide x5
  have R5 := hide r5
  have K5 := hide k5
  have hbl := obj_lt PC.out
  have B5 : Hid (Below w0.heap.size w w5) := BC.out.trans (b5.mono (by omega))
  have hs5 : wC.heap.size ≤ w5.heap.size := b5.size
  clear x5 r5 k5 b5 HTK
  have P5 := hide ((K5.out _ hbl (by omega) (by omega)).trans PC.out)
  have U5 : Hid (BuildE w5 w0.heap.size v0 T) := buildE_boxL HBU.out HB0.out (fun j hj hne => (K5.out j (by omega) hne (by omega)).trans ((KC.out j (by omega) hne).trans (BwB.out.block j hj)))
  obtain ⟨z1, z2⟩ := boxL_cells X5.out
  obtain ⟨y0, y1, y2, y3⟩ := box4w P5.out
  obtain ⟨f0, f1, f2, f3⟩ := box4f P5.out
  obtain ⟨w6, hw6⟩ : ∃ w6, w6 = w5.setCell ⟨w1.heap.size, 3, none⟩ (.slice (some ⟨g, 0, none⟩) L.length c5) := ⟨_, rfl⟩
  have P6 : Hid (w6.heap[w1.heap.size]? = some (.cells #[.int .i64 k, .int .i64 u, .string t, .slice (some ⟨g, 0, none⟩) L.length c5] 38 (0, 0))) := by rw [hw6]; exact box_items P5.out
  have K6 : Hid (∀ j, j ≠ w1.heap.size → w6.heap[j]? = w5.heap[j]?) := by rw [hw6]; exact fun j hj => Below.heap_setCell _ _ _ _ (fun e => hj e)
  have B6 : Hid (Below w0.heap.size w w6) := by rw [hw6]; exact B5.out.setCell (p := ⟨w1.heap.size, 3, none⟩) (Nat.le_trans hw0 hq) _
  have hP1 := obj_lt P5.out
  have T6 : Hid (TextsAt w6 (some ⟨g, 0, none⟩) L) := by
    have h2 := rowTextC_keep (w' := w6) R5.out (fun g' hg => K6.out g' (fun e => by
      have e2 : g = g' := by simpa [Value.ownBlock] using hg
      omega))
    exact rowText_rows h2.1
  have S6 : Hid (WorkS 69 w6 w0.heap.size b T) := by
    refine workL_of hBb ((K6.out b (by omega)).trans X5.out) (buildE_box U5.out (fun g C t hg ht => K6.out g (fun e => ?_)))
    rw [e, P5.out] at hg
    simp at hg
    rcases ht with ht | ht
    · rw [ht] at hg; exact absurd hg.2 (by decide)
    · rw [ht] at hg; exact absurd hg.2 (by decide)
  go_upto_region 9 with fail
  rw [← hw6]
  clear hw6 z1 z2 y0 y1 y2 y3 f0 f1 f2 f3
  have KQ := hide (fun X (hX : Below w6.heap.size w6 X) => box4w ((hX.block _ (obj_lt P6.out)).trans P6.out))
  have hs6 : w0.heap.size ≤ w6.heap.size := Nat.le_trans hw0 B6.out.size
  obtain ⟨x0, x1, x2, x3⟩ := KQ.out _ (Below.refl _ _)
  go_region_law (first | (go_simp; go_at_call 111; go_loud (refine (HBK.out _ (H0.out.trans (B6.out.trans ((Below.refl _ w6).drew.mono hs6)))).mono ?_; rintro e w7 ⟨rfl, b7⟩; have E7 : Hid (Below w6.heap.size w6 w7) := (Below.refl _ w6).drew.trans b7; obtain ⟨q0, q1, q2, q3⟩ := KQ.out _ E7.out; clear b7)) | (go_simp; go_at_call 124; go_loud (refine (HLV.out _ _ _ (textsAt_keep T6.out E7.out) (workS_below S6.out E7.out) (Nat.le_trans hs6 E7.out.size)).mono ?_; rintro e w8 ⟨rfl, s8, b8⟩; have W8 := hide s8; have B8 := hide ((B6.out.trans (E7.out.mono hs6)).trans b8); clear s8 b8)))
  all_goals go_wp2
  all_goals go_ret2
  all_goals exact ⟨rfl, W8.out, B8.out⟩
theorem popB_any (T T2 : List EntD) (key : ByteArray) (k u : Int) (t x : ByteArray) (L : List ByteArray) (er : Option ByteArray) (w0 w : World) (b : Nat) (hl : lookK T key 2 = (⟨k, u, t, L ++ [x]⟩, true, none)) (hT : TabR T) (hW : WorkE 69 w w0.heap.size b T 1) (hv : RVars w0) (h0 : Below w0.heap.size w0 w) (hk : key.size ≤ 1048576)
    (hput : L ≠ [] → er = putErr (putT T key ⟨k, u, t, L⟩) ∧ T2 = putT T key ⟨k, u, t, L⟩) (hdrop : L = [] → (∃ v0, T = [⟨key, v0⟩]) ∧ er = none ∧ T2 = []) :
    Calls Tryz.prog 82 #[.pointer (some ⟨b, 0, none⟩), .string key, .func (.func 84) #[.pointer (some ⟨b, 1, none⟩)] #[]] w (DoP 69 w0.heap.size b w (bulkB x) er T2) := by
  have hLT := look_list hT key (by rw [hl])
  rw [hl] at hLT
  obtain ⟨hts24, ht60, htsz⟩ := hLT
  simp only at hts24 ht60 htsz
  have hxz := htsz x (by simp)
  have hLl : L.length ≤ 24 := by simp at hts24; omega
  have HLV := hide (fun W a c (hta : TextsAt W a L) (hT2 : WorkS 69 W w0.heap.size b T) (hB : w0.heap.size ≤ W.heap.size) => leave_any T T2 key k u t L er a c W w0.heap.size b 69 (by decide) (by decide) hT ⟨hk, by show t.size ≤ 1048576; omega, by show L.length ≤ 1048576; omega, fun s hs => by have := htsz s (by simp [hs]); omega⟩ hta hT2 hB hput hdrop)
  have HF := hide (findC_any T key 2 w w0.heap.size b 69 hT (workE_S hW))
  have HBK := hide (fun W (h : Below w0.heap.size w0 W) => implBulk_any x W (by omega) (rvars_below hv h).pow)
  have hw0 := h0.size
  have H0 := hide h0
  obtain ⟨hBb, v0, x0, hb0, hbuild⟩ := workL_box hW
  have HB0 := hide hb0
  have HBU := hide hbuild
  rw [hl] at HF
  clear hl hT hW hv h0 hb0 hbuild hput hdrop htsz
  simp only [valC, errV] at HF
  obtain ⟨n, Hn⟩ : ∃ n, Hid ((L ++ [x]).length = n) := ⟨_, hide rfl⟩
  rw [Hn.out] at HF
  go_enter Tryz.func82, Tryz.ntmps82
  go_wp2_with fail
  refine HF.out.mono ?_
  rintro e w1 ⟨⟨a1, c1, rfl, r1⟩, b1⟩
  have B1 := hide b1
  obtain ⟨g, rfl⟩ : ∃ g, a1 = some ⟨g, 0, none⟩ := by
    rcases r1.1 with ⟨-, h2⟩ | ⟨g, cap, C, e, -⟩
    · simp at h2
    · cases e
      exact ⟨g, rfl⟩
  have R1 := hide r1
  clear b1 r1
  have hgg := rowTextC_lt R1.out g rfl
  go_upto_region 2 with fail
  obtain ⟨wB, hwB⟩ : ∃ wB, wB = w1.alloc (.cells #[.int .i64 k, .int .i64 u, .string t, .slice (some ⟨g, 0, none⟩) n c1] 38) := ⟨_, rfl⟩
  rw [← hwB]
  have BB : Hid (Below w1.heap.size w1 wB) := by rw [hwB]; exact (Below.refl _ w1).alloc (Nat.le_refl _) _
  have PB : Hid (wB.heap[w1.heap.size]? = some (.cells #[.int .i64 k, .int .i64 u, .string t, .slice (some ⟨g, 0, none⟩) n c1] 38 (0, 0))) := by rw [hwB]; exact heap_alloc_new _ _
  clear hwB
  have hq := B1.out.size
  have hBBs := BB.out.size
  obtain ⟨y0, y1, y2, y3⟩ := box4w PB.out
  have hbw : b < w.heap.size := obj_lt HB0.out
  have BwB := hide (B1.out.trans (BB.out.mono hq))
  have XB := hide (boxL_below HB0.out BwB.out)
  obtain ⟨z1, z2⟩ := boxL_cells XB.out
  obtain ⟨wC, hwC⟩ : ∃ wC, wC = wB.setCell ⟨b, 1, none⟩ (.slice (some ⟨g, 0, none⟩) n c1) := ⟨_, rfl⟩
  have XC : Hid (BoxL wC b v0 (.slice (some ⟨g, 0, none⟩) n c1)) := by rw [hwC]; exact boxL_set XB.out _
  have BC : Hid (Below w0.heap.size w wC) := by rw [hwC]; exact (BwB.out.mono hw0).setCell (p := ⟨b, 1, none⟩) hBb _
  have KC : Hid (∀ j, j < wB.heap.size → j ≠ b → wC.heap[j]? = wB.heap[j]?) := by rw [hwC]; exact fun j _ hj => Below.heap_setCell _ _ _ _ (fun e => hj e)
  have RC : Hid (RowTextC wC w.heap.size (.slice (some ⟨g, 0, none⟩) n c1) (L ++ [x])) := by
    have h1 := rowTextC_below R1.out BB.out
    exact rowTextC_keep (w' := wC) h1 (fun g hg => KC.out g (rowTextC_lt h1 g hg).2 (fun e => by have := (rowTextC_lt R1.out g hg).1; omega))
  have hCs : wC.heap.size = wB.heap.size := by rw [hwC]; simp [World.setCell]
  have PC := hide ((KC.out _ (obj_lt PB.out) (by omega)).trans PB.out)
  have HTK := hide (takeLast_any wC w.heap.size b g n c1 v0 x L XC.out RC.out (by omega))
  go_upto_region 7 with fail
  rw [← hwC]
  clear hwC y0 y1 y2 y3 z1 z2 RC XB R1
  go_wp2_with fail
  refine HTK.out.mono ?_
  rintro e w5 ⟨rfl, c5, x5, r5, k5, b5⟩
  have X5 := hide x5
  have R5 := hide r5
  have K5 := hide k5
  have hbl := obj_lt PC.out
  have B5 : Hid (Below w0.heap.size w w5) := BC.out.trans (b5.mono (by omega))
  have hs5 : wC.heap.size ≤ w5.heap.size := b5.size
  clear x5 r5 k5 b5 HTK
  have P5 := hide ((K5.out _ hbl (by omega) (by omega)).trans PC.out)
  have U5 : Hid (BuildE w5 w0.heap.size v0 T) := buildE_boxL HBU.out HB0.out (fun j hj hne => (K5.out j (by omega) hne (by omega)).trans ((KC.out j (by omega) hne).trans (BwB.out.block j hj)))
  obtain ⟨z1, z2⟩ := boxL_cells X5.out
  obtain ⟨y0, y1, y2, y3⟩ := box4w P5.out
  obtain ⟨f0, f1, f2, f3⟩ := box4f P5.out
  obtain ⟨w6, hw6⟩ : ∃ w6, w6 = w5.setCell ⟨w1.heap.size, 3, none⟩ (.slice (some ⟨g, 0, none⟩) L.length c5) := ⟨_, rfl⟩
  have P6 : Hid (w6.heap[w1.heap.size]? = some (.cells #[.int .i64 k, .int .i64 u, .string t, .slice (some ⟨g, 0, none⟩) L.length c5] 38 (0, 0))) := by rw [hw6]; exact box_items P5.out
  have K6 : Hid (∀ j, j ≠ w1.heap.size → w6.heap[j]? = w5.heap[j]?) := by rw [hw6]; exact fun j hj => Below.heap_setCell _ _ _ _ (fun e => hj e)
  have B6 : Hid (Below w0.heap.size w w6) := by rw [hw6]; exact B5.out.setCell (p := ⟨w1.heap.size, 3, none⟩) (Nat.le_trans hw0 hq) _
  have hP1 := obj_lt P5.out
  have T6 : Hid (TextsAt w6 (some ⟨g, 0, none⟩) L) := by
    have h2 := rowTextC_keep (w' := w6) R5.out (fun g' hg => K6.out g' (fun e => by
      have e2 : g = g' := by simpa [Value.ownBlock] using hg
      omega))
    exact rowText_rows h2.1
  have S6 : Hid (WorkS 69 w6 w0.heap.size b T) := by
    refine workL_of hBb ((K6.out b (by omega)).trans X5.out) (buildE_box U5.out (fun g C t hg ht => K6.out g (fun e => ?_)))
    rw [e, P5.out] at hg
    simp at hg
    rcases ht with ht | ht
    · rw [ht] at hg; exact absurd hg.2 (by decide)
    · rw [ht] at hg; exact absurd hg.2 (by decide)
  go_upto_region 9 with fail
  rw [← hw6]
  clear hw6 z1 z2 y0 y1 y2 y3 f0 f1 f2 f3
  have KQ := hide (fun X (hX : Below w6.heap.size w6 X) => box4w ((hX.block _ (obj_lt P6.out)).trans P6.out))
  have hs6 : w0.heap.size ≤ w6.heap.size := Nat.le_trans hw0 B6.out.size
  obtain ⟨x0, x1, x2, x3⟩ := KQ.out _ (Below.refl _ _)
  go_region_law (first | (go_simp; go_at_call 111; go_loud (refine (HBK.out _ (H0.out.trans (B6.out.trans ((Below.refl _ w6).drew.mono hs6)))).mono ?_; rintro e w7 ⟨rfl, b7⟩; have E7 : Hid (Below w6.heap.size w6 w7) := (Below.refl _ w6).drew.trans b7; obtain ⟨q0, q1, q2, q3⟩ := KQ.out _ E7.out; clear b7)) | (go_simp; go_at_call 124; go_loud (refine (HLV.out _ _ _ (textsAt_keep T6.out E7.out) (workS_below S6.out E7.out) (Nat.le_trans hs6 E7.out.size)).mono ?_; rintro e w8 ⟨rfl, s8, b8⟩; have W8 := hide s8; have B8 := hide ((B6.out.trans (E7.out.mono hs6)).trans b8); clear s8 b8)))
  all_goals go_wp2
  all_goals go_ret2
  all_goals exact ⟨rfl, W8.out, B8.out⟩
theorem pushB_any (T : List EntD) (key : ByteArray) (M : List ByteArray) (am : Option Addr) (cm : Nat) (w0 w : World) (b : Nat) (hT : TabR T) (hW : WorkE 69 w w0.heap.size b T 1) (hv : RVars w0) (h0 : Below w0.heap.size w0 w) (hk : key.size ≤ 1048576)
    (hM : TextsAt w0 am M) (hM0 : 0 < M.length) (hm : M.length ≤ 1000000) (hmz : ∀ x ∈ M, x.size ≤ 1048576) :
    Calls Tryz.prog 79 #[.pointer (some ⟨b, 0, none⟩), .string key, .slice am M.length cm, .func (.func 81) #[.pointer (some ⟨b, 1, none⟩)] #[]] w (DoP 69 w0.heap.size b w (pushF T key (fun L => L ++ M)).1 (pushF T key (fun L => L ++ M)).2.1 (pushF T key (fun L => L ++ M)).2.2) := by
  have HT := hide hT
  have HM := hide hM
  have HLT := hide (look_list hT key)
  have HF := hide (findC_any T key 2 w w0.heap.size b 69 hT (workE_S hW))
  have HWS := hide (fun W (h : Below w.heap.size w W) => workS_below (workE_S hW) h)
  have HN := hide (fun (n : Int) W (h1 : -9223372036854775808 ≤ n) (h2 : n ≤ 9223372036854775807) (h : Below w0.heap.size w0 W) => implNumber_any n W h1 h2 (rvars_below hv h).pow)
  have hw0 := h0.size
  have H0 := hide h0
  have HG : Hid (pushF T key (fun L => L ++ M) = match (lookK T key 2).2.2 with
    | some e => (⟨#[]⟩, some e, T)
    | none => (hdB ⟨#[58]⟩ ((lookK T key 2).1.items ++ M).length, putErr (putT T key ⟨(lookK T key 2).1.kind, (lookK T key 2).1.til, (lookK T key 2).1.text, (lookK T key 2).1.items ++ M⟩), putT T key ⟨(lookK T key 2).1.kind, (lookK T key 2).1.til, (lookK T key 2).1.text, (lookK T key 2).1.items ++ M⟩)) := rfl
  obtain ⟨hBb, v0, x0, hb0, hbuild⟩ := workL_box hW
  have HB0 := hide hb0
  have HBU := hide hbuild
  have HMZ := hide hmz
  clear hT hW hv h0 hM hb0 hbuild hmz
  generalize pushF T key (fun L => L ++ M) = G at HG ⊢
  generalize lookK T key 2 = r at HF HG HLT
  obtain ⟨⟨k, u, t, ts⟩, th, er⟩ := r
  simp only [valC] at HF HG HLT
  cases er with
  | some y =>
    have hG := HG.out
    simp only at hG
    subst hG
    simp only [errV] at HF
    go_enter Tryz.func79, Tryz.ntmps79
    go_wp2_with fail
    refine HF.out.mono ?_
    rintro e w1 ⟨⟨a1, c1, rfl, -⟩, b1⟩
    have B2 := hide (b1.alloc b1.size (.cells #[.int .i64 k, .int .i64 u, .string t, .slice a1 ts.length c1] 38))
    have W2 := hide (HWS.out _ B2.out)
    clear b1
    go_wp2
    go_ret2
    exact ⟨rfl, W2.out, B2.out.mono hw0⟩
  | none =>
    have hG := HG.out
    simp only at hG
    obtain ⟨hts24, ht60, htsz⟩ := HLT.out rfl
    obtain ⟨L2, HL2⟩ : ∃ L2, Hid (ts ++ M = L2) := ⟨_, hide rfl⟩
    have hL2 : L2.length ≤ 1000024 := by rw [← HL2.out]; simp; omega
    have hL2z : ∀ s ∈ L2, s.size ≤ 1048576 := fun s hs => by
      rw [← HL2.out] at hs
      rcases List.mem_append.1 hs with hs | hs
      · have := htsz s hs; omega
      · exact HMZ.out s hs
    rw [HL2.out] at hG
    clear HG htsz HLT HMZ
    subst hG
    have HP := hide (fun W a c (hta : TextsAt W a L2) (hT2 : WorkS 69 W w0.heap.size b T) (hB : w0.heap.size ≤ W.heap.size) => put_any T ⟨key, k, u, t, L2⟩ a c W w0.heap.size b 69 (by decide) (by decide) HT.out ⟨hk, by show t.size ≤ 1048576; omega, by show L2.length ≤ 1048576; omega, hL2z⟩ hta hT2 hB)
    simp only at HP
    simp only [errV] at HF
    go_enter Tryz.func79, Tryz.ntmps79
    go_wp2_with fail
    refine HF.out.mono ?_
    rintro e w1 ⟨⟨a1, c1, rfl, r1⟩, b1⟩
    have B1 := hide b1
    have R1 := hide r1
    clear b1 r1
    go_upto_region 2 with fail
    obtain ⟨wB, hwB⟩ : ∃ wB, wB = w1.alloc (.cells #[.int .i64 k, .int .i64 u, .string t, .slice a1 ts.length c1] 38) := ⟨_, rfl⟩
    rw [← hwB]
    have BB : Hid (Below w1.heap.size w1 wB) := by rw [hwB]; exact (Below.refl _ w1).alloc (Nat.le_refl _) _
    have PB : Hid (wB.heap[w1.heap.size]? = some (.cells #[.int .i64 k, .int .i64 u, .string t, .slice a1 ts.length c1] 38 (0, 0))) := by rw [hwB]; exact heap_alloc_new _ _
    clear hwB
    have hq := B1.out.size
    have hBBs := BB.out.size
    obtain ⟨y0, y1, y2, y3⟩ := box4w PB.out
    have hbw : b < w.heap.size := obj_lt HB0.out
    have BwB := hide (B1.out.trans (BB.out.mono hq))
    have XB := hide (boxL_below HB0.out BwB.out)
    obtain ⟨z1, z2⟩ := boxL_cells XB.out
    obtain ⟨wC, hwC⟩ : ∃ wC, wC = wB.setCell ⟨b, 1, none⟩ (.slice a1 ts.length c1) := ⟨_, rfl⟩
    have XC : Hid (BoxL wC b v0 (.slice a1 ts.length c1)) := by rw [hwC]; exact boxL_set XB.out _
    have BC : Hid (Below w0.heap.size w wC) := by rw [hwC]; exact (BwB.out.mono hw0).setCell (p := ⟨b, 1, none⟩) hBb _
    have KC : Hid (∀ j, j < wB.heap.size → j ≠ b → wC.heap[j]? = wB.heap[j]?) := by rw [hwC]; exact fun j _ hj => Below.heap_setCell _ _ _ _ (fun e => hj e)
    have TC : Hid (TextsAt wC a1 ts) := by
      have h1 := rowTextC_below R1.out BB.out
      have h2 := rowTextC_keep (w' := wC) h1 (fun g hg => KC.out g (rowTextC_lt h1 g hg).2 (fun e => by have := (rowTextC_lt R1.out g hg).1; omega))
      exact rowText_rows h2.1
    have UC := hide (buildE_boxL (buildE_below HBU.out BwB.out) XB.out KC.out)
    have hCs : wC.heap.size = wB.heap.size := by rw [hwC]; simp [World.setCell]
    have PC := hide ((KC.out _ (obj_lt PB.out) (by omega)).trans PB.out)
    have HPU := hide (putBehind_any wC b v0 ts M a1 am c1 cm XC.out TC.out (textsAt_keep HM.out (H0.out.trans BC.out)) hM0 (by omega) hm)
    go_upto_region 5 with fail
    rw [← hwC]
    clear hwC y0 y1 y2 y3 z1 z2 TC KC XB R1
    go_wp2_with fail
    refine HPU.out.mono ?_
    rintro e w5 ⟨rfl, a5, c5, x5, r5, g5⟩
    rw [HL2.out] at x5 r5
    have X5 := hide x5
    have R5 := hide r5
    have G5 := hide g5
    clear x5 r5 g5 HPU
    have P5 := hide ((G5.out.block _ (obj_lt PC.out) (fun e => by have := Option.some.inj e; omega)).trans PC.out)
    have U5 := hide (buildE_boxL UC.out XC.out (fun j hj hne => G5.out.block j hj (fun e => hne (Option.some.inj e))))
    have B5 : Hid (Below w0.heap.size w w5) := BC.out.grown G5.out (Nat.le_trans hw0 BC.out.size) (fun j hj => by cases hj; exact hBb)
    have hs5 : wC.heap.size ≤ w5.heap.size := G5.out.size
    obtain ⟨z1, z2⟩ := boxL_cells X5.out
    obtain ⟨y0, y1, y2, y3⟩ := box4w P5.out
    obtain ⟨f0, f1, f2, f3⟩ := box4f P5.out
    obtain ⟨w6, hw6⟩ : ∃ w6, w6 = w5.setCell ⟨w1.heap.size, 3, none⟩ (.slice a5 L2.length c5) := ⟨_, rfl⟩
    have P6 : Hid (w6.heap[w1.heap.size]? = some (.cells #[.int .i64 k, .int .i64 u, .string t, .slice a5 L2.length c5] 38 (0, 0))) := by rw [hw6]; exact box_items P5.out
    have K6 : Hid (∀ j, j ≠ w1.heap.size → w6.heap[j]? = w5.heap[j]?) := by rw [hw6]; exact fun j hj => Below.heap_setCell _ _ _ _ (fun e => hj e)
    have B6 : Hid (Below w0.heap.size w w6) := by rw [hw6]; exact B5.out.setCell (p := ⟨w1.heap.size, 3, none⟩) (Nat.le_trans hw0 hq) _
    have hP1 := obj_lt P5.out
    have hbl := obj_lt PC.out
    have T6 : Hid (TextsAt w6 a5 L2) := by
      have h2 := rowTextC_keep (w' := w6) R5.out (fun g hg => K6.out g (fun e => by have := (rowTextC_lt R5.out g hg).1; omega))
      exact rowText_rows h2.1
    have S6 : Hid (WorkS 69 w6 w0.heap.size b T) := by
      refine workL_of hBb ((K6.out b (by omega)).trans X5.out) (buildE_box U5.out (fun g C t hg ht => K6.out g (fun e => ?_)))
      rw [e, P5.out] at hg
      simp at hg
      rcases ht with ht | ht
      · rw [ht] at hg; exact absurd hg.2 (by decide)
      · rw [ht] at hg; exact absurd hg.2 (by decide)
    go_upto_region 7 with fail
    rw [← hw6]
    clear hw6 z1 z2 y0 y1 y2 y3 f0 f1 f2 f3
    have KQ := hide (fun X (hX : Below w6.heap.size w6 X) => box4w ((hX.block _ (obj_lt P6.out)).trans P6.out))
    have hs6 : w0.heap.size ≤ w6.heap.size := Nat.le_trans hw0 B6.out.size
    obtain ⟨x0, x1, x2, x3⟩ := KQ.out _ (Below.refl _ _)
    go_region_law (first | (go_simp; go_at_call 114; go_loud (refine (HN.out (L2.length : Int) _ (by omega) (by omega) (H0.out.trans (B6.out.trans ((Below.refl _ w6).drew.mono hs6)))).mono ?_; rintro e w7 ⟨rfl, b7⟩; have E7 : Hid (Below w6.heap.size w6 w7) := (Below.refl _ w6).drew.trans b7; obtain ⟨q0, q1, q2, q3⟩ := KQ.out _ E7.out; clear b7)) | (go_simp; go_at_call 112; go_loud (refine (HP.out _ _ _ (textsAt_keep T6.out E7.out) (workS_below S6.out E7.out) (Nat.le_trans hs6 E7.out.size)).mono ?_; rintro e w8 ⟨rfl, s8, b8⟩; have W8 := hide s8; have B8 := hide ((B6.out.trans (E7.out.mono hs6)).trans b8); clear s8 b8)))
    all_goals go_wp2
    all_goals go_ret2
    all_goals exact ⟨rfl, W8.out, B8.out⟩
end Go.Proofs.YtifjneldjjmeaaaGreatDoor
