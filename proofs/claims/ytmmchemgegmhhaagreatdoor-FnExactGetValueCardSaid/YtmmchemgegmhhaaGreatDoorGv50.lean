import Derived.Test.YtmmchemgegmhhaaGreatDoorGv49
import Derived.Test.YtmmchemgegmhhaaGreatDoorGv3
import Derived.Test.YtmmchemgegmhhaaGreatDoorGv48
import Derived.Test.YtmmchemgegmhhaaGreatDoorGv47
set_option maxRecDepth 100000
set_option maxHeartbeats 1600000
namespace Go.Proofs.YtmmchemgegmhhaaGreatDoor
open Go.RowKit Go.ChangeShapes Go.WideShapes Go.Deep Go.Joins
theorem files_in {H : Type} {enc : TypeId × Value → H} {w : World} {n : Nat} {c0 : Value} {y0 : DataW H × List MemPlace} (h0' : DataW.trod enc Tryz.prog w 0 (fun _ => true) true n 40 [c0] = some y0) :
    ∃ (ao : Option Addr) (fs : List FileD) (cap : Nat), c0 = .slice ao fs.length cap ∧ fs.length ≤ maxLen ∧ FilesAt w ao fs ∧ ∀ F ∈ fs, F.name.size ≤ maxLen ∧ F.text.size ≤ maxLen := by
  have hc : Tryz.prog.cellsOf 197 = 3 := by kernel_rfl
  rcases open_slice Tryz.underlying40 h0' with ⟨e, _⟩ | ⟨a, len, cap, m, n', D, Pl, e, _, hle, hmx, hm, _, hel⟩
  · simp at e
    subst e
    exact ⟨none, [], 0, rfl, by unfold maxLen; simp, fun j hj => absurd hj (by simp), fun F hF => absurd hF List.not_mem_nil⟩
  · simp at e
    subst e
    rw [hc] at hel
    have hm' : len ≤ m := by rw [hm]; simpa using hle
    have hch : ∀ i, i < len → ∃ F : FileD, w.cells? 0 (a.add (i * 3)) 3 = some [.string F.name, .string F.text, .int .i64 F.kept] ∧ F.name.size ≤ maxLen ∧ F.text.size ≤ maxLen := by
      intro i hi
      obtain ⟨cs', g1, g2⟩ := hel i (by omega)
      obtain ⟨F, rfl, z0, z1⟩ := file_of g2
      exact ⟨F, g1, z0, z1⟩
    haveI : Inhabited FileD := ⟨⟨⟨#[]⟩, ⟨#[]⟩, 0⟩⟩
    obtain ⟨G, hG⟩ := choose_lt hch
    refine ⟨some a, (List.range len).map G, cap, by simp, by simp; omega, ?_, ?_⟩
    · intro j hj
      have hj' : j < len := by simpa using hj
      obtain ⟨g1, _, _⟩ := hG j hj'
      obtain ⟨_, _, hcell⟩ := World.cells?_some g1
      have q0 := hcell 0 (by omega)
      have q1 := hcell 1 (by omega)
      have q2 := hcell 2 (by omega)
      obtain ⟨b, off, spot⟩ := a
      have hspot : spot = none := by
        obtain ⟨_, _, hcell0⟩ := World.cells?_some (hG 0 (by omega)).1
        have q := hcell0 0 (by omega)
        simpa [Addr.add] using World.cell?_spot q
      subst hspot
      have ha : ∀ o i, ((⟨b, o, none⟩ : Addr).add i) = ⟨b, o + i, none⟩ := by intro o i; cases i <;> simp [Addr.add]
      simp only [ha] at q0 q1 q2
      refine ⟨b, off, rfl, ?_, ?_, ?_, ?_⟩
      · rcases Nat.lt_or_ge b w.heap.size with h | h
        · exact h
        · unfold World.cell? at q0
          rw [show w.heap[(⟨b, off + j * 3 + 0, none⟩ : Addr).block]? = none from Array.getElem?_eq_none h] at q0
          cases q0
      · simpa using q0
      · simpa using q1
      · simpa using q2
    · intro F hF
      obtain ⟨i, hi, rfl⟩ := List.mem_map.1 hF
      exact (hG i (by simpa using hi)).2
theorem spots_in {H : Type} {enc : TypeId × Value → H} {w : World} {fuel : Nat} {c0 : Value} {y0 : DataW H × List MemPlace} (h0' : DataW.trod enc Tryz.prog w 0 (fun _ => true) true fuel 43 [c0] = some y0) :
    ∃ (ao : Option Addr) (fs : List SpotD) (cap : Nat), c0 = .slice ao fs.length cap ∧ fs.length ≤ maxLen ∧ SpotsAt w ao fs ∧ ∀ A ∈ fs, A.key.size ≤ maxLen := by
  have hc : Tryz.prog.cellsOf 150 = 4 := by kernel_rfl
  rcases open_slice Tryz.underlying43 h0' with ⟨e, _⟩ | ⟨a, len, cap, m, n', D, Pl, e, _, hle, hmx, hm, _, hel⟩
  · simp at e
    subst e
    exact ⟨none, [], 0, rfl, by unfold maxLen; simp, fun j hj => absurd hj (by simp), fun F hF => absurd hF List.not_mem_nil⟩
  · simp at e
    subst e
    rw [hc] at hel
    have hm' : len ≤ m := by rw [hm]; simpa using hle
    have hch : ∀ i, i < len → ∃ A : SpotD, w.cells? 0 (a.add (i * 4)) 4 = some [.string A.key, .int .i64 A.seg, .int .i64 A.pos, .int .i64 A.seq] ∧ A.key.size ≤ maxLen := by
      intro i hi
      obtain ⟨cs', g1, g2⟩ := hel i (by omega)
      obtain ⟨A, rfl, z0⟩ := spot_in g2
      exact ⟨A, g1, z0⟩
    haveI : Inhabited SpotD := ⟨⟨⟨#[]⟩, 0, 0, 0⟩⟩
    obtain ⟨G, hG⟩ := choose_lt hch
    refine ⟨some a, (List.range len).map G, cap, by simp, by simp; omega, ?_, ?_⟩
    · intro j hj
      have hj' : j < len := by simpa using hj
      have g1 := (hG j hj').1
      obtain ⟨_, _, hcell⟩ := World.cells?_some g1
      have q0 := hcell 0 (by omega)
      have q1 := hcell 1 (by omega)
      have q2 := hcell 2 (by omega)
      have q3 := hcell 3 (by omega)
      obtain ⟨b, off, spot⟩ := a
      have hspot : spot = none := by
        obtain ⟨_, _, hcell0⟩ := World.cells?_some (hG 0 (by omega)).1
        have q := hcell0 0 (by omega)
        simpa [Addr.add] using World.cell?_spot q
      subst hspot
      have ha : ∀ o i, ((⟨b, o, none⟩ : Addr).add i) = ⟨b, o + i, none⟩ := by intro o i; cases i <;> simp [Addr.add]
      simp only [ha] at q0 q1 q2 q3
      refine ⟨b, off, rfl, ?_, ?_, ?_, ?_, ?_⟩
      · rcases Nat.lt_or_ge b w.heap.size with h | h
        · exact h
        · unfold World.cell? at q0
          rw [show w.heap[(⟨b, off + j * 4 + 0, none⟩ : Addr).block]? = none from Array.getElem?_eq_none h] at q0
          cases q0
      · simpa using q0
      · simpa using q1
      · simpa using q2
      · simpa using q3
    · intro A hA
      obtain ⟨i, hi, rfl⟩ := List.mem_map.1 hA
      exact (hG i (by simpa using hi)).2
theorem engine_of {H : Type} {enc : TypeId × Value → H} {w : World} {base : Nat} {v : Value} {d : DataW H} {p : List MemPlace} (hv : Value.okWide Tryz.prog w .any base 45 v)
    (h : DataW.Trod enc Tryz.prog w 0 (fun _ => true) true 45 v d p) :
    ∃ (ao : Option Addr) (fs : List FileD) (cap : Nat) (room act seq : Int) (ad : Option Addr) (dir : List SpotD) (cd : Nat), v = .agg #[.slice ao fs.length cap, .int .i64 room, .int .i64 act, .int .i64 seq, .slice ad dir.length cd] ∧
      fs.length ≤ maxLen ∧ FilesAt w ao fs ∧ (∀ F ∈ fs, F.name.size ≤ maxLen ∧ F.text.size ≤ maxLen) ∧ dir.length ≤ maxLen ∧ SpotsAt w ad dir ∧ ∀ A ∈ dir, A.key.size ≤ maxLen := by
  have hd : Tryz.prog.cellsOf 45 = 5 := by kernel_rfl
  have hk : Tryz.prog.cellsOf 42 = 1 := by kernel_rfl
  have hi : Tryz.prog.cellsOf 3 = 1 := by kernel_rfl
  have hs : Tryz.prog.cellsOf 43 = 1 := by kernel_rfl
  have hf : Tryz.prog.cellsOf 40 = 1 := by kernel_rfl
  obtain ⟨cs, rfl, hsz⟩ := okWide_struct Tryz.underlying45 hv
  rw [hd] at hsz
  obtain ⟨l⟩ := cs
  match l, hsz with
  | [c0, c1, c2, c3, c4], _ =>
    obtain ⟨fuel, hh⟩ := h
    obtain ⟨xs, n, _, _, _, hlen, hfl⟩ := DataW.trod_struct Tryz.underlying45 hh
    match xs, hlen with
    | [y0, y1, y2, y3, y4], _ =>
      have t0 : DataW.trod enc Tryz.prog w 0 (fun _ => true) true n 42 [c0] = some y0 := by
        have q := hfl 0 _ rfl
        simpa [hk, Value.cells] using q
      have t1 : DataW.trod enc Tryz.prog w 0 (fun _ => true) true n 3 [c1] = some y1 := by
        have q := hfl 1 _ rfl
        simpa [hi, Value.cells] using q
      have t2 : DataW.trod enc Tryz.prog w 0 (fun _ => true) true n 3 [c2] = some y2 := by
        have q := hfl 2 _ rfl
        simpa [hi, Value.cells] using q
      have t3 : DataW.trod enc Tryz.prog w 0 (fun _ => true) true n 3 [c3] = some y3 := by
        have q := hfl 3 _ rfl
        simpa [hi, Value.cells] using q
      have t4 : DataW.trod enc Tryz.prog w 0 (fun _ => true) true n 43 [c4] = some y4 := by
        have q := hfl 4 _ rfl
        simpa [hs, Value.cells] using q
      obtain ⟨z0, n0, _, _, u0⟩ := trod_struct1 Tryz.underlying42 t0
      simp only [hf] at u0
      obtain ⟨ao, fs, cap, e0, l0, f0, s0⟩ := files_in (c0 := c0) u0
      obtain ⟨x1, e1, _, _⟩ := DataW.trod_int Tryz.underlying3 t1
      obtain ⟨x2, e2, _, _⟩ := DataW.trod_int Tryz.underlying3 t2
      obtain ⟨x3, e3, _, _⟩ := DataW.trod_int Tryz.underlying3 t3
      obtain ⟨ad, dir, cd, e4, l4, f4, s4⟩ := spots_in (c0 := c4) t4
      simp at e1 e2 e3
      subst e0 e1 e2 e3 e4
      exact ⟨ao, fs, cap, x1, x2, x3, ad, dir, cd, rfl, l0, f0, s0, l4, f4, s4⟩
end Go.Proofs.YtmmchemgegmhhaaGreatDoor
namespace Go.Proofs.YtmmchemgegmhhaaGreatDoor
open Go.RowKit
def getL (fs : List FileD) (key : ByteArray) : List SpotD → Option ByteArray
  | [] => none
  | A :: r => bif A.key.toList == key.toList then valD fs A else getL fs key r
theorem getL_yes {fs : List FileD} {key : ByteArray} {A : SpotD} {r : List SpotD} (h : (A.key.toList == key.toList) = true) : getL fs key (A :: r) = valD fs A := by
  unfold getL
  rw [h]
  rfl
theorem getL_no {fs : List FileD} {key : ByteArray} {A : SpotD} {r : List SpotD} (h : (A.key.toList == key.toList) = false) : getL fs key (A :: r) = getL fs key r := by
  conv => lhs; unfold getL
  rw [h]
  rfl
theorem getL_find (fs : List FileD) (key : ByteArray) : ∀ D : List SpotD, getL fs key D = (findS D key).bind (valD fs)
  | [] => rfl
  | A :: r => by
    unfold findS
    cases h : (A.key.toList == key.toList) with
    | true => rw [getL_yes h, List.find?_cons, h]; rfl
    | false =>
      rw [getL_no h, List.find?_cons, h]
      exact getL_find fs key r
theorem storeAt_dir {w : World} {B g : Nat} {fs : List FileD} {room : Int} {vd vr vs : Value} (h : StoreAt w B g fs room vd vr vs) (z : Value) : RowSpot (w.setCell ⟨g, 0, none⟩ z) B vr (dirD fs) := by
  have hb := h.blk
  refine rowSpot_keep h.dir (fun x hx => ?_)
  have hne : x ≠ g := by
    rintro rfl
    rcases h.dir with ⟨rfl, -⟩ | ⟨g', cap, C, rfl, -, hC, -⟩
    · cases hx
    · obtain rfl : g' = x := by simpa [Value.ownBlock] using hx
      rw [hC] at hb
      simp at hb
  exact Below.heap_setCell _ _ _ _ hne
theorem storeValue_any (fs : List FileD) (key : ByteArray) (room : Int) (wB : World) (g : Nat) (vd vr vs : Value) (w : World) (hl : fs.length ≤ 1048576) (hsz : ∀ F ∈ fs, F.name.size ≤ 1048576 ∧ F.text.size ≤ 1048576) (hst : StoreAt w wB.heap.size g fs room vd vr vs) (hca : calmB fs = true) (hwB : Below wB.heap.size wB w) (hT : SumTab wB) :
    Calls Tryz.prog 48 #[.pointer (some ⟨g, 0, none⟩), .string key] w fun e w' => e = .returned (.tuple #[.string (outTx (getL fs key (dirD fs))), .bool (getL fs key (dirD fs)).isSome]) ∧ Below wB.heap.size w w' := by
  have hA : (actsF fs (actsI fs)).1 = fs := by rw [calm_acts hca]; rfl
  have hle := hst.le
  have hd1 := storeAt_disk hst (.int .i32 1)
  have hs1 := storeAt_dir hst (.int .i32 1)
  rw [hA] at hd1
  obtain ⟨ad, cd, rfl, hfs⟩ := rowF_at hd1
  obtain ⟨ar, cr, rfl, hds⟩ := rowSpot_at hs1
  have HFS := hide hfs
  have HDS := hide hds
  have HB1 := hide (storeAt_lock hst (.int .i32 1))
  have HK := hide (eight_cells hst.blk)
  have hdl := dirD_len fs
  have HSR := hide (dirD_srt fs)
  have HKY : Hid (∀ A ∈ dirD fs, A.key.size ≤ 1048576) := fun A hA => by have := (segsL_tell fs).2.2.2.1 A hA; omega
  have HVO := hide (fun s W h hk hT => implValueOf_any fs ad cd s W hl h hsz hk hT)
  clear hfs hds hd1 hs1 hst hsz
  obtain ⟨w1, hw1⟩ : ∃ w1, w1 = w.setCell ⟨g, 0, none⟩ (.int .i32 1) := ⟨_, rfl⟩
  rw [← hw1] at HB1 HFS HDS
  have HW1 : Hid (Below wB.heap.size w w1) := by show Below _ _ _; rw [hw1]; exact (Below.refl _ w).setCell (p := ⟨g, 0, none⟩) hle _
  have HWB : Hid (Below wB.heap.size wB w1) := hwB.trans HW1.out
  have HT1 : Hid (SumTab w1) := sumTab_later HWB.out hT
  have hgl : g < w1.heap.size := heap_lt HB1.out
  obtain ⟨k0, k1, k2, k3, k4, k5, k6, k7, k8⟩ := eight_cells HB1.out
  clear hwB hT
  rw [getL_find]
  generalize dirD fs = D at HDS HKY hdl k6 HK HB1 HSR ⊢
  obtain ⟨o, HO⟩ : ∃ o, Hid (findS D key = o) := ⟨_, hide rfl⟩
  rw [HO.out]
  obtain ⟨T, HTT⟩ : ∃ T, Hid (outSp o = T) := ⟨_, hide rfl⟩
  obtain ⟨bt, HBT⟩ : ∃ T, Hid (o.isSome = T) := ⟨_, hide rfl⟩
  have HSA : Hid (∀ X, Below w1.heap.size w1 X → Calls Tryz.prog 93 #[.slice ar D.length cr, .string key] X fun e w' => e = .returned (.tuple #[.agg #[.string T.key, .int .i64 T.seg, .int .i64 T.pos, .int .i64 T.seq], .bool bt]) ∧ Below X.heap.size X w') := fun X hX => by
    have h := spotOf_any D ar cr key X (by omega) HSR.out (spotsAt_keep HDS.out hX)
    rw [HO.out, HTT.out, HBT.out] at h
    exact h
  have KS : Hid (∀ X, Below w1.heap.size w1 X → X.cell? ⟨g, 6, none⟩ = some (.slice ar D.length cr)) := fun X hX => (hX.cell (p := ⟨g, 6, none⟩) hgl).trans k6
  obtain ⟨R, HR⟩ : ∃ R, Hid (o.bind (valD fs) = R) := ⟨_, hide rfl⟩
  rw [HR.out]
  go_enter_defers Tryz.func48, Tryz.ntmps48
  go_wp2_with fail
  refine (Go.MuLone.lock_free Tryz.muLib ⟨g, 0, none⟩ w HK.out.1 HK.out.2.2.2.2.2.2.2.2).mono ?_
  rintro e w' ⟨rfl, rfl⟩
  rw [← hw1]
  clear hw1
  go_wp2_with fail
  refine (HSA.out _ (Below.refl _ _)).mono ?_
  rintro e w2 ⟨rfl, b2⟩
  obtain ⟨wn, hwn⟩ : ∃ x, x = w2.alloc (.cells #[.string T.key, .int .i64 T.seg, .int .i64 T.pos, .int .i64 T.seq] 89) := ⟨_, rfl⟩
  have BN : Hid (Below w1.heap.size w1 wn) := by rw [hwn]; exact b2.alloc b2.size _
  have HBN : Hid (wn.heap[w2.heap.size]? = some (.cells #[.string T.key, .int .i64 T.seg, .int .i64 T.pos, .int .i64 T.seq] 89 (0, 0))) := by rw [hwn]; exact heap_alloc_new _ _
  have hnl : w2.heap.size < wn.heap.size := heap_lt HBN.out
  have hgn : g < wn.heap.size := Nat.lt_of_lt_of_le hgl BN.out.size
  obtain ⟨hf0, hf1, hf2, hf3, -⟩ := fourC HBN.out
  have hg2 : wn.cell? ⟨g, 2, none⟩ = some (.slice ad fs.length cd) := (BN.out.cell (p := ⟨g, 2, none⟩) hgl).trans k2
  clear b2 KS HSA
  cases bt with
  | false =>
    have hR : Hid (R = none) := by
      show _ = _
      rw [← HR.out]
      cases o with
      | none => rfl
      | some S => exact absurd HBT.out (by simp)
    have h2 := BN.out
    have h0 : wn.cell? ⟨g, 0, none⟩ = some (.int .i32 1) := (h2.cell (p := ⟨g, 0, none⟩) hgl).trans k0
    have hz : wn.frozen? ⟨g, 0, none⟩ = false := frozen_of_row wn g 0 _ _ ((h2.block _ hgl).trans HB1.out)
    subst hwn
    go_wp2
    refine leaves_cons (f := 91) (args := #[.pointer (some ⟨g, 0, none⟩)]) (by simp) (by simp [go_sem]) ?_
    refine (Go.MuLone.unlock_deferred Tryz.muLib ⟨g, 0, none⟩ .returning _ h0 hz).mono ?_
    rintro e u' w'' ⟨rfl, rfl, rfl⟩
    rw [hR.out]
    exact ⟨_, results_tmp2 rfl _ _ _, rfl, (HW1.out.trans (h2.mono (Nat.le_of_lt (Nat.lt_of_le_of_lt hle hgl)))).setCell (p := ⟨g, 0, none⟩) hle _⟩
  | true =>
    obtain ⟨S, hS⟩ : ∃ S, o = some S := Option.isSome_iff_exists.1 HBT.out
    have hST : S = T := by have := HTT.out; rw [hS] at this; exact this
    have HV : Hid (valD fs T = R) := by show _ = _; rw [← HR.out, hS, ← hST]; rfl
    have HKK : Hid (T.key.size ≤ 1048576) := by
      have h1 := HO.out
      rw [hS, hST] at h1
      exact HKY.out T (List.mem_of_find?_eq_some h1)
    have KS : Hid (∀ X, Below wn.heap.size wn X → (X.cell? ⟨g, 2, none⟩ = some (.slice ad fs.length cd) ∧ X.cell? ⟨w2.heap.size, 0, none⟩ = some (.string T.key) ∧ X.cell? ⟨w2.heap.size, 1, none⟩ = some (.int .i64 T.seg) ∧ X.cell? ⟨w2.heap.size, 2, none⟩ = some (.int .i64 T.pos) ∧ X.cell? ⟨w2.heap.size, 3, none⟩ = some (.int .i64 T.seq))) := fun X hX => ⟨(hX.cell (p := ⟨g, 2, none⟩) hgn).trans hg2, (hX.cell (p := ⟨w2.heap.size, 0, none⟩) hnl).trans hf0, (hX.cell (p := ⟨w2.heap.size, 1, none⟩) hnl).trans hf1, (hX.cell (p := ⟨w2.heap.size, 2, none⟩) hnl).trans hf2, (hX.cell (p := ⟨w2.heap.size, 3, none⟩) hnl).trans hf3⟩
    have HVA : Hid (∀ X, Below wn.heap.size wn X → Calls Tryz.prog 92 #[.agg #[.slice ad fs.length cd], .agg #[.string T.key, .int .i64 T.seg, .int .i64 T.pos, .int .i64 T.seq]] X fun e w' => e = .returned (.tuple #[.string (outTx R), .bool R.isSome]) ∧ Below X.heap.size X w') := fun X hX => by
      have h := HVO.out T X (filesAt_keep HFS.out (BN.out.trans (hX.mono BN.out.size))) HKK.out (sumTab_later (BN.out.trans (hX.mono BN.out.size)) HT1.out)
      rw [HV.out] at h
      exact h
    clear HVO HV HKK hS hST HR
    go_wp2_with fail
    rw [← hwn]
    clear hwn
    go_region_held3 (fun w' => w'.cell? ⟨g, 2, none⟩ = some (.slice ad fs.length cd) ∧ w'.cell? ⟨w2.heap.size, 0, none⟩ = some (.string T.key) ∧ w'.cell? ⟨w2.heap.size, 1, none⟩ = some (.int .i64 T.seg) ∧ w'.cell? ⟨w2.heap.size, 2, none⟩ = some (.int .i64 T.pos) ∧ w'.cell? ⟨w2.heap.size, 3, none⟩ = some (.int .i64 T.seq)) ((refine KS.out _ ?_; first | (exact e3) | (exact (Below.refl _ _).drew) | fail)) ((go_at_call 92; refine (HVA.out _ ?_).mono ?_; exact (Below.refl _ _).drew; rintro e w3 ⟨rfl, b3⟩; have e3 : Below wn.heap.size wn w3 := ((Below.refl _ _).drew).trans b3))
    have h2 := BN.out.trans (e3.mono BN.out.size)
    have h0 : w3.cell? ⟨g, 0, none⟩ = some (.int .i32 1) := (h2.cell (p := ⟨g, 0, none⟩) hgl).trans k0
    have hz : w3.frozen? ⟨g, 0, none⟩ = false := frozen_of_row w3 g 0 _ _ ((h2.block _ hgl).trans HB1.out)
    go_wp2
    refine leaves_cons (f := 91) (args := #[.pointer (some ⟨g, 0, none⟩)]) (by simp) (by simp [go_sem]) ?_
    refine (Go.MuLone.unlock_deferred Tryz.muLib ⟨g, 0, none⟩ .returning _ h0 hz).mono ?_
    rintro e u' w'' ⟨rfl, rfl, rfl⟩
    exact ⟨_, results_tmp2 rfl _ _ _, rfl, (HW1.out.trans (h2.mono (Nat.le_of_lt (Nat.lt_of_le_of_lt hle hgl)))).setCell (p := ⟨g, 0, none⟩) hle _⟩
def getE (fs : List FileD) (room act seq : Int) (dir : List SpotD) (key : ByteArray) : Option ByteArray := bif engOkB fs room act seq dir then getL fs key dir else none
theorem getE_yes {fs : List FileD} {room act seq : Int} {dir : List SpotD} {key : ByteArray} (h : engOkB fs room act seq dir = true) : getE fs room act seq dir key = getL fs key dir := by
  unfold getE
  rw [h]
  rfl
theorem getE_no {fs : List FileD} {room act seq : Int} {dir : List SpotD} {key : ByteArray} (h : engOkB fs room act seq dir = false) : getE fs room act seq dir key = none := by
  unfold getE
  rw [h]
  rfl
theorem implGetValue_any (fs : List FileD) (ao ad : Option Addr) (cap cd : Nat) (room act seq : Int) (dir : List SpotD) (key : ByteArray) (w : World) (hl : fs.length ≤ 1048576) (hfs : FilesAt w ao fs) (hsz : ∀ F ∈ fs, F.name.size ≤ 1048576 ∧ F.text.size ≤ 1048576) (hds : SpotsAt w ad dir) (hT : SumTab w) :
    Calls Tryz.prog 13 #[.agg #[.slice ao fs.length cap, .int .i64 room, .int .i64 act, .int .i64 seq, .slice ad dir.length cd], .string key] w fun e w' => e = .returned (.tuple #[.string (outTx (getE fs room act seq dir key)), .bool (getE fs room act seq dir key).isSome]) ∧ Below w.heap.size w w' := by
  have HSO := hide (fun W h1 h2 hT => storeOf_any fs ao ad cap cd room act seq dir W hl h1 hsz h2 hT)
  have HUS := hide (fun wB g vd vr vs W => storeValue_any fs key room wB g vd vr vs W hl hsz)
  have HF := hide hfs
  have HD := hide hds
  have HT := hide hT
  clear hfs hds hsz hT
  obtain ⟨wb, hwb⟩ : ∃ wb, wb = w.alloc (.cells #[.slice ao fs.length cap, .int .i64 room, .int .i64 act, .int .i64 seq, .slice ad dir.length cd] 30) := ⟨_, rfl⟩
  have HB0 : Hid (Below w.heap.size w wb) := by rw [hwb]; exact (Below.refl _ w).alloc (Nat.le_refl _) _
  obtain ⟨R, HR⟩ : ∃ R, Hid (getE fs room act seq dir key = R) := ⟨_, hide rfl⟩
  rw [HR.out]
  go_enter Tryz.func13, Tryz.ntmps13
  go_wp2_with fail
  rw [← hwb]
  clear hwb
  refine (HSO.out _ (filesAt_keep HF.out HB0.out) (spotsAt_keep HD.out HB0.out) (sumTab_later HB0.out HT.out)).mono ?_
  rintro e w1 ⟨b1, ⟨he, g, vd, vr, vs, rfl, hst⟩ | ⟨he, s, rfl⟩⟩
  · have hR : Hid (getL fs key (dirD fs) = R) := by show _ = _; rw [← HR.out, getE_yes (engOkB_yes he), he.2.2.2.2.2]
    have HST := hide hst
    have HC := hide he.2.2.1
    have HW1 := hide (HB0.out.trans (b1.mono HB0.out.size))
    have HB1 := hide b1
    have HTB := hide (sumTab_later HB0.out HT.out)
    have HUV := hide (HUS.out wb g vd vr vs _ HST.out HC.out HB1.out HTB.out)
    rw [hR.out] at HUV
    clear hst he b1
    go_wp2_with fail
    refine HUV.out.mono ?_
    rintro e w2 ⟨rfl, b2⟩
    go_wp2
    refine bodyPost_ret (results_tmp2 rfl _ _ _) rfl ?_
    exact ⟨rfl, HW1.out.trans (b2.mono HB0.out.size)⟩
  · have hR : Hid (R = none) := HR.out.symm.trans (getE_no (engOkB_no he))
    go_wp2
    refine bodyPost_ret (results_tmp2 rfl _ _ _) rfl ?_
    rw [hR.out]
    exact ⟨rfl, HB0.out.trans (b1.mono HB0.out.size)⟩
end Go.Proofs.YtmmchemgegmhhaaGreatDoor
