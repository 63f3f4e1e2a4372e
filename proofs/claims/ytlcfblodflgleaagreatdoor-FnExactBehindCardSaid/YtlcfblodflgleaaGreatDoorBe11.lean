import Derived.Lib.ConvBytes
import Derived.Deep.AppendLies
import Derived.Deep.RegionHeld3
import Derived.Deep.CutRange
import Derived.Deep.RegionLaw
import Derived.Test.YtlcfblodflgleaaGreatDoorBe0
import Derived.Test.YtlcfblodflgleaaGreatDoorBe10
import Derived.Test.YtlcfblodflgleaaGreatDoorBe8
set_option maxRecDepth 100000
set_option maxHeartbeats 1600000
namespace Go.Proofs.YtlcfblodflgleaaGreatDoor
open Go.RowKit
def OwnsB (w : World) (B : Nat) (te : TypeId) (v : Value) (l : List UInt8) : Prop :=
  ∃ (g cap : Nat) (cur : Array Value) (fz : Nat × Nat), v = .slice (some ⟨g, 0, none⟩) l.length cap ∧ B ≤ g ∧ w.heap[g]? = some (.cells cur te fz) ∧ (fz = (0, 0) ∨ cur.size ≤ fz.1) ∧ l.length ≤ cap ∧ cap ≤ maxLen ∧ cur.size = cap ∧ cur.toList.take l.length = l.map bv
theorem ownsB_lt {w : World} {B : Nat} {te : TypeId} {v : Value} {l : List UInt8} (h : OwnsB w B te v l) : ∀ g, v.ownBlock = some g → B ≤ g ∧ g < w.heap.size := by
  obtain ⟨g, cap, cur, fz, rfl, hB, hC, _⟩ := h
  intro g' h
  obtain rfl : g = g' := by simpa [Value.ownBlock] using h
  exact ⟨hB, (Array.getElem?_eq_some_iff.1 hC).1⟩
theorem ownsB_le {w : World} {B B' : Nat} {te : TypeId} {v : Value} {l : List UInt8} (h : OwnsB w B te v l) (hb : B' ≤ B) : OwnsB w B' te v l := by
  obtain ⟨g, cap, cur, fz, h1, hB, h2⟩ := h
  exact ⟨g, cap, cur, fz, h1, Nat.le_trans hb hB, h2⟩
theorem ownsB_keep {w w' : World} {B : Nat} {te : TypeId} {v : Value} {l : List UInt8} (h : OwnsB w B te v l) (hk : ∀ g, v.ownBlock = some g → w'.heap[g]? = w.heap[g]?) : OwnsB w' B te v l := by
  obtain ⟨g, cap, cur, fz, rfl, hB, hC, h2⟩ := h
  exact ⟨g, cap, cur, fz, rfl, hB, (hk g rfl).trans hC, h2⟩
theorem ownsB_below {w w' : World} {B : Nat} {te : TypeId} {v : Value} {l : List UInt8} (h : OwnsB w B te v l) (hb : Below w.heap.size w w') : OwnsB w' B te v l :=
  ownsB_keep h (fun g hg => hb.block g (ownsB_lt h g hg).2)
theorem ownsB_cells {w : World} {B : Nat} {te : TypeId} {g n cap : Nat} {l : List UInt8} (h : OwnsB w B te (.slice (some ⟨g, 0, none⟩) n cap) l) : ∀ j u, (l.map bv)[j]? = some u → w.cell? ((⟨g, 0, none⟩ : Addr).add j) = some u := by
  obtain ⟨g', cap', cur, fz, e, _, hC, _, _, _, _, ht⟩ := h
  obtain ⟨rfl, -, -⟩ : g = g' ∧ n = l.length ∧ cap = cap' := by simpa using e
  intro j u hu
  have hadd : (⟨g, 0, none⟩ : Addr).add j = ⟨g, j, none⟩ := by cases j <;> simp [Addr.add]
  rw [hadd, cell_of_row w g j cur te fz hC]
  rw [← ht, List.getElem?_take] at hu
  split at hu
  · simpa using hu
  · cases hu
section
variable {P : Program}
theorem conv_made (w : World) (src dst e : TypeId) (s : ByteArray) (hs : P.underlying src = some .string) (hd : P.underlying dst = some (.slice e)) (he : P.underlying e = some (.int .u8)) (hz : s.size ≤ maxLen) :
    ∃ (W : World) (C : Nat), (convert src dst (.string s)).run P w = .ok (.slice (some ⟨w.heap.size, 0, none⟩) s.size C) W ∧ Below w.heap.size w W ∧ W.heap.size = w.heap.size + 1 ∧ OwnsB W w.heap.size e (.slice (some ⟨w.heap.size, 0, none⟩) s.size C) s.data.toList := by
  refine ⟨_, _, Lib.run_convert_string_bytes w src dst e s hs hd he, ⟨rfl, rfl, rfl, by rw [Lib.bytesWorld_size]; omega, fun k hk => Lib.bytesWorld_at_old w e _ k hk⟩, Lib.bytesWorld_size _ _ _, ?_⟩
  have hl : s.data.toList.length = s.size := Array.length_toList
  have hge := grownCap_ge w s.size 0 e
  have hsz : (Lib.bytesCells w e s).size = grownCap w s.size 0 e := by
    have h0 : s.data.size = s.size := rfl
    simp only [Lib.bytesCells, Array.size_append, Array.size_map, Array.size_replicate]
    omega
  refine ⟨w.heap.size, grownCap w s.size 0 e, Lib.bytesCells w e s, _, by rw [hl], Nat.le_refl _, Lib.bytesWorld_at_new w e s, .inr (Nat.le_refl _), by omega, grownCap_le_maxLen w _ _ e hz, hsz, ?_⟩
  rw [hl]
  have h0 : s.size = (s.data.map fun b => Value.int .u8 (b.toNat : Int)).toList.length := by simp
  simp only [Lib.bytesCells, Array.toList_append]
  conv => lhs; rw [h0]
  rw [List.take_left]
  simp [bv]
theorem store_behind (g o : Nat) (t : TypeId) (fz : Nat × Nat) : ∀ (vs : List Value) (i : Nat) (cur : Array Value) (w : World), w.heap[g]? = some (.cells cur t fz) → (fz = (0, 0) ∨ cur.size ≤ fz.1) → o + i + vs.length ≤ cur.size → (∀ v ∈ vs, v.oneCell' = true) →
    (storeCells ⟨g, o, none⟩ vs i).run P w = .ok () (w.setRow g (cur.toList.take (o + i) ++ vs ++ cur.toList.drop (o + i + vs.length)).toArray)
  | [], i, cur, w, hg, _, _, _ => by
    simp only [storeCells, List.append_nil, List.length_nil, Nat.add_zero, List.take_append_drop, Array.toArray_toList]
    rw [setRow_self w g cur t fz hg]
    rfl
  | v :: rest, i, cur, w, hg, hfz, hl, h1 => by
    have hlt : o + i < cur.size := by simp at hl; omega
    have ha : (⟨g, o, none⟩ : Addr).add i = ⟨g, o + i, none⟩ := by cases i <;> simp [Addr.add]
    have hf : w.frozen? ⟨g, o + i, none⟩ = false := by
      simp only [World.frozen?, hg]
      rcases hfz with rfl | hfz
      · simp
      · obtain ⟨lo, hi⟩ := fz
        have : ¬ lo ≤ o + i := by simp only at hfz; omega
        simp [this]
    have hc : w.cell? ⟨g, o + i, none⟩ = some cur[o + i] := by rw [cell_of_row w g _ cur t fz hg, Array.getElem?_eq_getElem hlt]
    have h2 : (store ((⟨g, o, none⟩ : Addr).add i) v).run P w = .ok () (w.setRow g (cur.setIfInBounds (o + i) v)) := by
      rw [ha, run_store P w _ v _ (h1 v (by simp)), hc]
      simp [hf, setCell_eq_setRow w g (o + i) cur t fz v hg]
    have h3 := store_behind g o t fz rest (i + 1) (cur.setIfInBounds (o + i) v) _ (setRow_heap w g cur (cur.setIfInBounds (o + i) v) t fz hg) (by simpa using hfz) (by simp at hl ⊢; omega) (fun x hx => h1 x (by simp [hx]))
    simp only [storeCells, Sem.run_bind, h2, Result.andThen_ok, h3, setRow_setRow]
    congr 3
    simpa [Array.toList_setIfInBounds, Nat.add_assoc] using list_seg_step cur.toList (o + i) v rest (by simp at hl ⊢; omega)
theorem append_made (w : World) (B : Nat) (t ty e : TypeId) (ht : P.underlying t = some (.slice e)) (hinfo : (P.info? e).map (fun i => (i.zero, i.size, i.bytes)) = some (some (.int .u8 0), 1, 1))
    (v : Value) (l news : List UInt8) (hown : OwnsB w B e v l) (a : Addr) (c : Nat) (hnews : ∀ j u, (news.map bv)[j]? = some u → w.cell? (a.add j) = some u) (hlen : l.length + news.length ≤ 70368744177664) (hbase : B ≤ w.heap.size) :
    ∃ v' w', (Builtin.append_ #[t, t] ty #[v, .slice (some a) news.length c]).run P w = .ok v' w' ∧ OwnsB w' B e v' (l ++ news) ∧ w.grownBy w' v.ownBlock := by
  obtain ⟨i0, hi, hz0, hz1, hz2⟩ := info_parts hinfo
  obtain ⟨g, cap, cur, fz, rfl, hB, hC, hfz, hnc, hcm, hcs, htk⟩ := hown
  have hl1 : (news.map bv).length = news.length * i0.size := by rw [hz1]; simp
  have hmx : l.length + news.length ≤ maxLen := by unfold maxLen; omega
  by_cases hroom : l.length + news.length ≤ cap
  · have hf := run_firstCells_some (P := P) w i0.size news.length a news.length c (news.map bv) hl1 hnews
    have hst := store_behind (P := P) g l.length e fz (news.map bv) 0 cur w hC hfz (by simp; omega) (bv_one news)
    simp only [Nat.add_zero] at hst
    obtain ⟨X, hX⟩ : ∃ X, X = (cur.toList.take l.length ++ news.map bv ++ cur.toList.drop (l.length + (news.map bv).length)).toArray := ⟨_, rfl⟩
    rw [← hX] at hst
    have hXs : X.size = cur.size := by rw [hX]; simp; omega
    refine ⟨.slice (some ⟨g, 0, none⟩) (l.length + news.length) cap, w.setRow g X, ?_, ⟨g, cap, X, fz, by rw [List.length_append], hB, setRow_heap w g cur X e fz hC, ?_, by rw [List.length_append]; exact hroom, hcm, ?_, ?_⟩, ⟨rfl, rfl, rfl, by simp, fun k _ hk => setRow_other w g k _ (fun e => hk (by simp [Value.ownBlock, e]))⟩⟩
    · simp [Builtin.append_, run_underlying ht, sizeOf, typeInfo, hi, hz1, Builtin.lenOf, hroom, hz1 ▸ hf, Addr.add_lit, hst]
    · rcases hfz with h | h
      · exact .inl h
      · exact .inr (by omega)
    · omega
    · rw [hX, htk, List.map_append, show (l ++ news).length = (l.map bv ++ news.map bv).length from by simp]
      exact List.take_left
  · have hr := run_append_grow (P := P) w t ty e i0 (.int .u8 0) ht hi hz0 ⟨g, 0, none⟩ l.length cap (l.map bv) (by rw [hz1]; simp) (ownsB_cells ⟨g, cap, cur, fz, rfl, hB, hC, hfz, hnc, hcm, hcs, htk⟩) a news.length c (news.map bv) hl1 hnews (by omega) (by unfold maxLen at hmx; omega) (by rw [hz2]; exact growslice_fits (by omega) (by omega))
    have hge := grownCap_ge w (l.length + news.length) cap e
    refine ⟨_, _, hr, ⟨w.heap.size, _, _, (0, 0), by rw [List.length_append], hbase, heap_alloc_new w.drew _, .inl rfl, by rw [List.length_append]; exact hge, grownCap_le_maxLen w _ _ e hmx, ?_, ?_⟩, ⟨rfl, rfl, rfl, by simp, fun k hk _ => Go.heap_alloc_old w.drew _ hk⟩⟩
    · have hz : (Value.int IntKind.u8 0).cells.size = 1 := rfl
      simp only [Array.size_append, List.size_toArray, size_zeroCells, hz, List.length_map]
      omega
    · simp only [Array.toList_append]
      rw [List.map_append, show (l ++ news).length = (l.map bv ++ news.map bv).length from by simp]
      exact List.take_left
theorem conv_backB (w : World) (ts tx te : TypeId) (B : Nat) (v : Value) (l : List UInt8) (hts : P.underlying ts = some (.slice te)) (hte : P.underlying te = some (.int .u8)) (htx : P.underlying tx = some .string) (hown : OwnsB w B te v l) :
    (convert ts tx v).run P w = .ok (.string ⟨l.toArray⟩) w := by
  obtain ⟨g, cap, cur, fz, rfl, hB, hC, hfz, hnc, hcm, hcs, htk⟩ := hown
  refine run_convert_bytes_back w ts tx te ⟨g, 0, none⟩ cap l hts hte htx ?_
  intro j hj
  refine ownsB_cells ⟨g, cap, cur, fz, rfl, hB, hC, hfz, hnc, hcm, hcs, htk⟩ j _ ?_
  simp [bv, hj]
theorem step_append_made {ops : Array Oper} {o : Oper} {a : Act} {K : Act → World → Prop} {Q : Exit → Act → World → Prop} {E : Prop} (W : World) (t e : TypeId) (ht : P.underlying t = some (.slice e)) (hinfo : (P.info? e).map (fun i => (i.zero, i.size, i.bytes)) = some (some (.int .u8 0), 1, 1))
    (B : Nat) (hgd : o.guard = none) (s x : Operand) (ho : o.op = .call { callee := .builtin .append, args := #[s, x], argTypes := #[t, t] }) (v : Value) (l news : List UInt8) (hs : a.eval s = v) (hown : OwnsB W B e v l)
    (ad : Addr) (c : Nat) (hx : a.eval x = .slice (some ad) news.length c) (hnews : ∀ j u, (news.map bv)[j]? = some u → W.cell? (ad.add j) = some u) (hlen : l.length + news.length ≤ 70368744177664) (hbase : B ≤ W.heap.size)
    (h : ∀ v' w', OwnsB w' B e v' (l ++ news) → W.grownBy w' v.ownBlock → K (a.put o.dst v') w') :
    if Region.wanted o (yielded ops a.tmps) = true then Oper.wp P o a W K Q else E := by
  have hw : Region.wanted o (yielded ops a.tmps) = true := by simp [Region.wanted, hgd]
  rw [if_pos hw]
  obtain ⟨v', w', hr, h1, h2⟩ := append_made (P := P) W B t o.type e ht hinfo v l news hown ad c hnews hlen hbase
  unfold Oper.wp execOp
  simp only [ho, resolve, invoke, builtin, Sem.run_bind, Sem.run_pure, Result.andThen_ok, List.map_toArray, List.map_cons, List.map_nil, hs, hx, hr]
  exact h v' w' h1 h2
end
def flagB (g : Bool) : ByteArray := if g then ⟨#[1]⟩ else ⟨#[0]⟩
def changeB (A : ChangeD) : ByteArray := shortB A.key ++ flagB A.gone ++ shortB A.value
def headB (q n : Nat) : ByteArray := ⟨#[66]⟩ ++ ⟨(Wd.varF 5 q).toArray⟩ ++ ⟨(Wd.varF 5 n).toArray⟩
def changesL : List ChangeD → List UInt8
  | [] => []
  | A :: r => (changeB A).data.toList ++ changesL r
def batchL (q : Nat) (fs : List ChangeD) : List UInt8 := (headB q fs.length).data.toList ++ changesL fs
theorem changesL_snoc : ∀ (a : List ChangeD) (A : ChangeD), changesL (a ++ [A]) = changesL a ++ (changeB A).data.toList
  | [], A => by simp [changesL]
  | B :: r, A => by simp [changesL, changesL_snoc r A, List.append_assoc]
theorem flagB_size (g : Bool) : (flagB g).size = 1 := by cases g <;> rfl
theorem changeB_size (A : ChangeD) : (changeB A).size ≤ A.key.size + A.value.size + 11 := by
  have h1 := shortB_size A.key
  have h2 := shortB_size A.value
  rw [changeB, ByteArray.size_append, ByteArray.size_append, flagB_size]
  omega
theorem headB_size (q n : Nat) : (headB q n).size ≤ 11 := by
  have h1 := Wd.varF_length 5 q
  have h2 := Wd.varF_length 5 n
  have e1 : (⟨#[66]⟩ : ByteArray).size = 1 := rfl
  rw [headB, ByteArray.size_append, ByteArray.size_append, e1, size_of_list, size_of_list]
  omega
theorem l05Flag_any (g : Bool) (w : World) : Calls Tryz.prog 97 #[.bool g] w fun e w' => e = .returned (.string (flagB g)) ∧ w' = w := by
  cases g <;>
  · go_enter Tryz.func97, Tryz.ntmps97
    go_wp2
    go_ret
    exact ⟨rfl, rfl⟩
def textOkD (q : Int) (fs : List ChangeD) : Bool := batchOkD q fs && decide ((batchL q.toNat fs).length ≤ 9000)
def textD (q : Int) (fs : List ChangeD) : ByteArray := if textOkD q fs then ⟨(batchL q.toNat fs).toArray⟩ else ⟨#[]⟩
theorem batchOkD_bounds {q : Int} {fs : List ChangeD} (h : batchOkD q fs = true) : 0 ≤ q ∧ q ≤ 1000000000 ∧ 1 ≤ fs.length ∧ fs.length ≤ 40 := by
  simp only [batchOkD, Bool.and_eq_true, decide_eq_true_eq] at h
  omega
theorem changesL_len : ∀ (a : List ChangeD), (∀ A ∈ a, A.key.size ≤ 1048576 ∧ A.value.size ≤ 1048576) → (changesL a).length ≤ a.length * 2097163
  | [], _ => by simp [changesL]
  | A :: r, h => by
    have h1 := h A (List.mem_cons_self ..)
    have h2 := changesL_len r (fun B hB => h B (List.mem_cons_of_mem _ hB))
    have h3 := changeB_size A
    have e : (changeB A).data.toList.length = (changeB A).size := rfl
    simp only [changesL, List.length_append, List.length_cons]
    omega
theorem three_below {w w' : World} {b n : Nat} {x y : ByteArray} {z : Bool} (h : w.cell? ⟨b, 0, none⟩ = some (.string x) ∧ w.cell? ⟨b, 1, none⟩ = some (.string y) ∧ w.cell? ⟨b, 2, none⟩ = some (.bool z)) (hb : Below n w w') (hlt : b < n) :
    w'.cell? ⟨b, 0, none⟩ = some (.string x) ∧ w'.cell? ⟨b, 1, none⟩ = some (.string y) ∧ w'.cell? ⟨b, 2, none⟩ = some (.bool z) :=
  ⟨(hb.cell (p := ⟨b, 0, none⟩) hlt).trans h.1, (hb.cell (p := ⟨b, 1, none⟩) hlt).trans h.2.1, (hb.cell (p := ⟨b, 2, none⟩) hlt).trans h.2.2⟩
theorem specBatchText_any (q : Int) (fs : List ChangeD) (ao : Option Addr) (cap : Nat) (w : World) (hl : fs.length ≤ 1048576) (hfs : ChangesAt w ao fs) (hsz : ∀ A ∈ fs, A.key.size ≤ 1048576 ∧ A.value.size ≤ 1048576) :
    Calls Tryz.prog 55 #[.agg #[.int .i64 q, .slice ao fs.length cap]] w fun e w' => e = .returned (.tuple #[.string (textD q fs), .bool (textOkD q fs)]) ∧ Below w.heap.size w w' := by
  have HF := hide hfs
  have HS := hide hsz
  have HS2 : Hid (∀ A ∈ fs, A.key.size ≤ maxLen ∧ A.value.size ≤ maxLen) := fun A hA => by have := hsz A hA; unfold maxLen; omega
  clear hfs hsz
  have b0 : Hid (Below w.heap.size w (w.alloc (.cells #[.int .i64 q, .slice ao fs.length cap] 101))) := (Below.refl _ w).alloc (Nat.le_refl _) _
  cases hok : batchOkD q fs
  · have hT : Hid (textOkD q fs = false) := by show _ = _; rw [textOkD, hok]; rfl
    have hX : Hid (textD q fs = ⟨#[]⟩) := by show _ = _; rw [textD, hT.out]; rfl
    go_enter Tryz.func55, Tryz.ntmps55
    go_wp2_with fail
    refine (specBatchOk_any q fs ao cap _ hl (changesAt_keep HF.out b0.out) HS2.out).mono ?_
    rintro e w1 ⟨rfl, b1⟩
    rw [hok]
    go_wp2
    go_ret2
    rw [hT.out, hX.out]
    exact ⟨rfl, b0.out.trans (b1.mono b0.out.size)⟩
  · obtain ⟨hq0, hq1, hn1, hn2⟩ := batchOkD_bounds hok
    obtain ⟨m, rfl⟩ := Int.eq_ofNat_of_zero_le hq0
    have HT : Hid (textOkD (m : Int) fs = decide ((batchL m fs).length ≤ 9000)) := by show _ = _; rw [textOkD, hok]; rfl
    have hbs : (w.alloc (.cells #[.int .i64 (m : Int), .slice ao fs.length cap] 101)).heap.size = w.heap.size + 1 := by simp
    have hbox := heap_alloc_new w (.cells #[.int .i64 (m : Int), .slice ao fs.length cap] 101)
    go_enter Tryz.func55, Tryz.ntmps55
    go_wp2_with fail
    refine (specBatchOk_any (m : Int) fs ao cap _ hl (changesAt_keep HF.out b0.out) HS2.out).mono ?_
    rintro e w1 ⟨rfl, b1⟩
    rw [hok]
    generalize w.alloc (.cells #[.int .i64 (m : Int), .slice ao fs.length cap] 101) = wb at b0 hbs hbox b1
    have HB1 : Hid (Below (w.heap.size + 1) wb w1) := hbs ▸ b1
    have HBX : Hid (wb.heap[w.heap.size]? = some (.cells #[.int .i64 (m : Int), .slice ao fs.length cap] 101 (0, 0))) := hbox
    have hbx1 := (HB1.out.block w.heap.size (by omega)).trans hbox
    have hc0 : w1.cell? ⟨w.heap.size, 0, none⟩ = some (.int .i64 (m : Int)) := (cell_of_row w1 _ 0 _ _ (0, 0) hbx1).trans rfl
    have hc1 : w1.cell? ⟨w.heap.size, 1, none⟩ = some (.slice ao fs.length cap) := (cell_of_row w1 _ 1 _ _ (0, 0) hbx1).trans rfl
    have hw1 : w.heap.size + 1 ≤ w1.heap.size := by have := HB1.out.size; omega
    have HBS := hide hbs
    clear b1 hbox hbx1 hbs
    obtain ⟨V, HV⟩ : ∃ V : Nat → ByteArray, Hid (∀ n, V n = ⟨(Wd.varF 5 n).toArray⟩) := ⟨_, fun _ => rfl⟩
    have HH : Hid (headB m fs.length = ⟨#[66]⟩ ++ V m ++ V fs.length) := by show _ = _; rw [HV.out, HV.out]; rfl
    have hz1 : (V m).size ≤ 5 := by rw [HV.out]; exact Wd.varF_length 5 m
    have hz2 : (V fs.length).size ≤ 5 := by rw [HV.out]; exact Wd.varF_length 5 fs.length
    have CV : Hid (∀ (n : Nat) (W : World), n < 34359738368 → Calls Tryz.prog 90 #[.int .i64 (n : Int)] W fun e w' => e = .returned (.string (V n)) ∧ Below W.heap.size W w') := fun n W hn => by rw [HV.out]; exact l01Var_any n W hn
    have hA1 : ¬ (9223372036854775807 < (⟨#[66]⟩ : ByteArray).size + (V m).size) := by have e : (⟨#[66]⟩ : ByteArray).size = 1 := rfl; omega
    have hA2 : ¬ (9223372036854775807 < 1 + (V m).size) := by omega
    have hA3 : ¬ (9223372036854775807 < 1 + (V m).size + (V fs.length).size) := by omega
    have hA4 : ¬ (9223372036854775807 < (⟨#[66]⟩ : ByteArray).size + (V m).size + (V fs.length).size) := by have e : (⟨#[66]⟩ : ByteArray).size = 1 := rfl; omega
    have hA5 : Hid ((⟨#[66]⟩ ++ V m ++ V fs.length : ByteArray).size ≤ maxLen) := by show _ ≤ _; rw [← HH.out]; have := headB_size m fs.length; unfold maxLen; omega
    have BB : Hid (Below w1.heap.size w1 w1) := Below.refl _ _
    go_wp2_with fail
    go_cut [4] from 7 (fun vo wx => Hid (OwnsB wx (w.heap.size + 1) 5 vo ((headB m fs.length).data.toList ++ changesL (fs.take 0))) ∧ Hid (Below (w.heap.size + 1) wb wx))
    case first =>
      have KC : Hid (∀ X, Below w1.heap.size w1 X → X.cell? ⟨w.heap.size, 0, none⟩ = some (.int .i64 (m : Int)) ∧ X.cell? ⟨w.heap.size, 1, none⟩ = some (.slice ao fs.length cap)) := fun X hX => ⟨(hX.cell (p := ⟨w.heap.size, 0, none⟩) hw1).trans hc0, (hX.cell (p := ⟨w.heap.size, 1, none⟩) hw1).trans hc1⟩
      obtain ⟨Z, HZ⟩ : ∃ Z : Nat, Hid (Z = (⟨#[66]⟩ ++ V m ++ V fs.length : ByteArray).size) := ⟨_, rfl⟩
      go_region_law ((first | (go_simp; go_at_call 90; refine (CV.out _ _ (by omega)).mono ?_; rintro e w2 ⟨rfl, b2⟩; (first | (have BB := hide (BB.out.trans (b2.mono BB.out.size))) | (have BB := hide (BB.out.trans (((Below.refl _ _).drew.trans b2).mono BB.out.size)))); clear b2; obtain ⟨hc0, hc1⟩ := KC.out _ BB.out; obtain ⟨w4, C, hcv, b4, hs4, ho4⟩ := conv_made (P := Tryz.prog) w2 9 147 5 (⟨#[66]⟩ ++ V m ++ V fs.length) Tryz.underlying9 Tryz.underlying147 Tryz.underlying5 hA5.out; rw [← HZ.out] at hcv ho4; have B4 := hide (BB.out.trans (b4.mono BB.out.size)); have HO4 := hide ho4; clear b4 hs4 ho4) | fail))
      all_goals
        go_wp2
        go_meet
        refine ⟨?_, HB1.out.trans (B4.out.mono hw1)⟩
        show OwnsB _ _ _ _ _
        rw [HH.out, List.take_zero, changesL, List.append_nil]
        exact ownsB_le HO4.out (by have := BB.out.size; omega)
    case rest =>
    obtain ⟨HO4, HB4⟩ := hcut
    clear hA1 hA2 hA3 hA4 hA5 hz1 hz2 CV BB HB1 hc0 hc1
    go_wp2_with fail
    go_loopw [4, 5] (fun vo ii wr => ∃ (k : Nat), ii = .int .i64 k ∧ k ≤ fs.length ∧ Hid (OwnsB wr (w.heap.size + 1) 5 vo ((headB m fs.length).data.toList ++ changesL (fs.take k))) ∧ Hid (Below (w.heap.size + 1) wb wr)) (fun _ ii _ => fs.length - (intOf ii).toNat)
    case atStart => exact ⟨0, rfl, Nat.zero_le _, HO4, HB4⟩
    case round =>
      clear HO4 HB4
      obtain ⟨k, rfl, hk, HO, HB⟩ := hrel
      have hws : w.heap.size + 1 ≤ wr.heap.size := by have h1 := HB.out.size; have h2 := HBS.out; omega
      have hbx := (HB.out.block w.heap.size (by omega)).trans HBX.out
      have hc1 : wr.cell? ⟨w.heap.size, 1, none⟩ = some (.slice ao fs.length cap) := (cell_of_row wr _ 1 _ _ (0, 0) hbx).trans rfl
      have HB0 : Hid (Below w.heap.size w wr) := b0.out.trans (HB.out.mono (by omega))
      clear hbx
      by_cases hlt : k < fs.length
      · have hlt' : decide ((k : Int) < (fs.length : Int)) = true := by simp; omega
        obtain ⟨b, off, rfl, hbw, hd0, hd1, hd2⟩ := changesAt_keep HF.out HB0.out k hlt
        obtain ⟨hs1, hs2⟩ := HS.out fs[k] (List.getElem_mem hlt)
        obtain ⟨F, HFk⟩ : ∃ F, Hid (fs[k] = F) := ⟨fs[k], hide rfl⟩
        rw [HFk.out] at hd0 hd1 hd2 hs1 hs2
        have hi0 : (0 : Int) ≤ (k : Int) := by omega
        have hi1 : (k : Int) < (fs.length : Int) := by omega
        have bx : Hid (Below wr.heap.size wr (wr.alloc (.cells #[.string F.key, .string F.value, .bool F.gone] 160))) := (Below.refl _ wr).alloc (Nat.le_refl _) _
        have hxs : wr.heap.size < (wr.alloc (.cells #[.string F.key, .string F.value, .bool F.gone] 160)).heap.size := by simp
        have hfile := heap_alloc_new wr (.cells #[.string F.key, .string F.value, .bool F.gone] 160)
        go_wp2_with fail
        generalize wr.alloc (.cells #[.string F.key, .string F.value, .bool F.gone] 160) = W at bx hxs hfile
        have hg0 : W.cell? ⟨wr.heap.size, 0, none⟩ = some (.string F.key) := (cell_of_row W wr.heap.size 0 _ _ (0, 0) hfile).trans rfl
        have hg1 : W.cell? ⟨wr.heap.size, 1, none⟩ = some (.string F.value) := (cell_of_row W wr.heap.size 1 _ _ (0, 0) hfile).trans rfl
        have hg2 : W.cell? ⟨wr.heap.size, 2, none⟩ = some (.bool F.gone) := (cell_of_row W wr.heap.size 2 _ _ (0, 0) hfile).trans rfl
        clear hfile hd0 hd1 hd2 hc1
        obtain ⟨G, HG⟩ : ∃ G : ByteArray → ByteArray, Hid (∀ s, G s = shortB s) := ⟨_, fun _ => rfl⟩
        obtain ⟨fb, Hfb⟩ : ∃ fb : ByteArray, Hid (fb = flagB F.gone) := ⟨_, rfl⟩
        have HCB : Hid (changeB F = G F.key ++ fb ++ G F.value) := by show _ = _; rw [HG.out, HG.out, Hfb.out]; rfl
        have hz0 : fb.size = 1 := by rw [Hfb.out]; exact flagB_size _
        have hz1 : (G F.key).size ≤ 1048581 := by rw [HG.out]; have := shortB_size F.key; omega
        have hz2 : (G F.value).size ≤ 1048581 := by rw [HG.out]; have := shortB_size F.value; omega
        have CG : Hid (∀ (s : ByteArray) (W : World), s.size ≤ 1048576 → Calls Tryz.prog 96 #[.string s] W fun e w' => e = .returned (.string (G s)) ∧ Below W.heap.size W w') := fun s W hs => by rw [HG.out]; exact l05Short_any s W hs
        have CF : Hid (∀ (W : World), Calls Tryz.prog 97 #[.bool F.gone] W fun e w' => e = .returned (.string fb) ∧ w' = W) := fun W => by rw [Hfb.out]; exact l05Flag_any _ W
        have hA1 : ¬ (9223372036854775807 < (G F.key).size + fb.size) := by omega
        have hA2 : ¬ (9223372036854775807 < (G F.key).size + fb.size + (G F.value).size) := by omega
        have hA3 : ¬ (9223372036854775807 < (G F.key).size + 1) := by omega
        have hA4 : ¬ (9223372036854775807 < (G F.key).size + 1 + (G F.value).size) := by omega
        have hA5 : Hid ((G F.key ++ fb ++ G F.value : ByteArray).size ≤ maxLen) := by show _ ≤ _; rw [ByteArray.size_append, ByteArray.size_append]; unfold maxLen; omega
        obtain ⟨Z, HZ⟩ : ∃ Z : Nat, Hid (Z = (G F.key ++ fb ++ G F.value : ByteArray).size) := ⟨_, rfl⟩
        have Hz0 := hide hz0
        clear hz0
        have BB : Hid (Below W.heap.size W W) := Below.refl _ _
        obtain ⟨LL, HLL⟩ : ∃ LL, Hid (LL = (headB m fs.length).data.toList ++ changesL (fs.take k)) := ⟨_, rfl⟩
        rw [← HLL.out] at HO
        have hLl : LL.length + (changeB F).data.toList.length ≤ 70368744177664 := by
          have h1 := headB_size m fs.length
          have h2 := changesL_len (fs.take k) (fun A hA => HS.out A (List.mem_of_mem_take hA))
          have h3 : (fs.take k).length ≤ fs.length := by rw [List.length_take]; omega
          have h4 := changeB_size F
          have e1 : (headB m fs.length).data.toList.length = (headB m fs.length).size := rfl
          have e2 : (changeB F).data.toList.length = (changeB F).size := rfl
          rw [HLL.out, List.length_append]
          omega
        have KC : Hid (∀ X, Below W.heap.size W X → X.cell? ⟨wr.heap.size, 0, none⟩ = some (.string F.key) ∧ X.cell? ⟨wr.heap.size, 1, none⟩ = some (.string F.value) ∧ X.cell? ⟨wr.heap.size, 2, none⟩ = some (.bool F.gone)) := fun X hX => three_below ⟨hg0, hg1, hg2⟩ hX hxs
        go_region_law ((first | (refine step_append_made _ 147 5 Tryz.underlying147 Tryz.info5 (w.heap.size + 1) (by rfl) _ _ (by rfl) _ LL (changeB F).data.toList (by rfl) (ownsB_below HO.out (bx.out.trans (B4.out.mono (Nat.le_of_lt hxs)))) ⟨w2.heap.size, 0, none⟩ C (by rw [HCB.out, show (G F.key ++ fb ++ G F.value : ByteArray).data.toList.length = Z from HZ.out.symm]; rfl) (by rw [HCB.out]; exact ownsB_cells HO4.out) hLl (Nat.le_trans hws (Nat.le_trans (Nat.le_of_lt hxs) B4.out.size)) ?_; intro v5 w5 ho5 hg5; have HO5 := hide ho5; have HG5 := hide hg5; clear ho5 hg5) | (go_simp; go_at_call 96; refine (CG.out _ _ (by assumption)).mono ?_; rintro e w2 ⟨rfl, b2⟩; (first | (have BB := hide (BB.out.trans (b2.mono BB.out.size))) | (have BB := hide (BB.out.trans (((Below.refl _ _).drew.trans b2).mono BB.out.size)))); clear b2; obtain ⟨hg0, hg1, hg2⟩ := KC.out _ BB.out; obtain ⟨w4, C, hcv, b4, hs4, ho4⟩ := conv_made (P := Tryz.prog) w2 9 147 5 (G F.key ++ fb ++ G F.value) Tryz.underlying9 Tryz.underlying147 Tryz.underlying5 hA5.out; rw [← HZ.out] at hcv ho4; have B4 := hide (BB.out.trans (b4.mono BB.out.size)); have HO4 := hide ho4; clear b4 hs4 ho4) | (go_simp; go_at_call 97; refine (CF.out _).mono ?_; rintro e w3 ⟨rfl, rfl⟩) | fail))
        all_goals
          go_wp2_with fail
          go_roundw
          case rel =>
            refine ⟨k + 1, by go_num, by omega, ?_, ((HB.out.trans (bx.out.mono hws)).trans (B4.out.mono (by omega))).grown HG5.out (by have := B4.out.size; omega) (fun g hg => (ownsB_lt HO.out g hg).1)⟩
            have e2 : (headB m fs.length).data.toList ++ changesL (fs.take (k + 1)) = LL ++ (changeB F).data.toList := by
              rw [HLL.out, List.take_succ_eq_append_getElem hlt, changesL_snoc, HFk.out, List.append_assoc]
            show OwnsB _ _ _ _ _
            rw [e2]
            exact HO5.out
          case measure => simp [intOf]; omega
      · have hlt' : decide ((k : Int) < (fs.length : Int)) = false := by simp; omega
        obtain ⟨L, HL⟩ : ∃ L, Hid (L = batchL m fs) := ⟨_, rfl⟩
        have HO1 : Hid (OwnsB wr (w.heap.size + 1) 5 u4 L) := by
          have h := HO.out
          rw [List.take_of_length_le (by omega)] at h
          show OwnsB _ _ _ _ _
          rw [HL.out]
          exact h
        have hcv := conv_backB (P := Tryz.prog) wr 147 9 5 _ u4 L Tryz.underlying147 Tryz.underlying5 Tryz.underlying9 HO1.out
        obtain ⟨g, co, cur, fz, rfl, -, -, -, hLc, hcm, -, -⟩ := HO1.out
        unfold maxLen at hcm
        have hm : ((m : Int)).toNat = m := by simp
        by_cases hbig : 9000 < L.length
        · have hbig' : decide ((9000 : Int) < (L.length : Int)) = true := by simp; omega
          have hT : Hid (textOkD (m : Int) fs = false) := by show _ = _; rw [HT.out, ← HL.out]; simp; omega
          have hX : Hid (textD (m : Int) fs = ⟨#[]⟩) := by show _ = _; rw [textD, hT.out]; rfl
          go_wp2
          go_ret2
          rw [hT.out, hX.out]
          exact ⟨rfl, HB0.out⟩
        · have hbig' : decide ((9000 : Int) < (L.length : Int)) = false := by simp; omega
          have hT : Hid (textOkD (m : Int) fs = true) := by show _ = _; rw [HT.out, ← HL.out]; simp; omega
          have hX : Hid (textD (m : Int) fs = ⟨L.toArray⟩) := by show _ = _; rw [textD, hT.out, hm, ← HL.out]; rfl
          go_wp2
          go_ret2
          rw [hT.out, hX.out]
          exact ⟨rfl, HB0.out⟩
end Go.Proofs.YtlcfblodflgleaaGreatDoor
