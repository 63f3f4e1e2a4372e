/- The program's BatchText. -/
import Derived.Test.YtcpbkllonamleabBatchI1
import Derived.Test.YtcpbkllonamleabBatchS2
import Derived.Test.YtcpbkllonamleabShortI
import Derived.Lib.AppendStr
namespace Go.Proofs.Ytcpbkllonamleab
open Go.RowKit

theorem strCells_bv (s : ByteArray) : Lib.strCells s = s.data.toList.map bv := rfl

/-- A slice of bytes of the call's own, with a text put behind it. -/
theorem app_text {P : Program} {ops : Array Oper} {rest : List Oper} {o : Oper} {a : Act} {Q : Exit → Act → World → Prop} (wr : World) (ts tx te : TypeId) (hts : P.underlying ts = some (.slice te)) (htx : P.underlying tx = some .string)
    (hinfo : (P.info? te).map (fun i => (i.zero, i.size, i.bytes)) = some (some (.int .u8 0), 1, 1)) (w : World) (B : Nat) (hgd : o.guard = none) (s x : Operand)
    (ho : o.op = .call { callee := .builtin .append, args := #[s, x], argTypes := #[ts, tx] }) (v : Value) (l : List UInt8) (t : ByteArray) (hs : a.eval s = v)
    (hown : wr.ownsRow B te 1 v l.length (l.map bv)) (hx : a.eval x = .string t)
    (hlen : l.length + t.size ≤ 70368744177664) (hbel : Below B w wr) (hbase : B ≤ wr.heap.size)
    (h : ∀ v' w', w'.ownsRow B te 1 v' (l ++ t.data.toList).length ((l ++ t.data.toList).map bv) → Below B w w' → wr.heap.size ≤ w'.heap.size → wpList P ops Q rest (a.put o.dst v') w') :
    wpList P ops Q (o :: rest) a wr := by
  obtain ⟨i0, hi, hz0, hz1, hz2⟩ := info_parts hinfo
  refine Lib.wpList_append_own_string wr hgd s x ts tx ho B te i0 hts htx hi hz0 hz1 hz2 v l.length (l.map bv) hs hown t hx (by unfold maxLen; omega) (by omega) hbase ?_
  intro v' w' hown' hgrow _
  have hlt := hown.lt
  refine h v' w' ?_ (hbel.grown hgrow (by omega) (fun k hk => (hlt k hk).1)) hgrow.size
  rw [List.length_append, List.map_append, ← strCells_bv]
  exact hown'

/-- One byte as a text. -/
theorem byte_text (b : UInt8) : ∀ W : World, (convert 22 9 (.slice (some ⟨W.heap.size, 0, none⟩) 1 1)).run Try.prog (W.alloc (.cells #[bv b] 5)) = .ok (.string ⟨#[b]⟩) (W.alloc (.cells #[bv b] 5)) := by
  intro W
  refine run_convert_bytes_back (P := Try.prog) _ 22 9 5 ⟨W.heap.size, 0, none⟩ 1 [b] Try.underlying22 Try.underlying5 Try.underlying9 ?_
  intro j hj
  have : j = 0 := by simp at hj; omega
  subst this
  exact cells_new W #[bv b] 5 0 _ rfl

set_option maxRecDepth 100000 in
set_option maxHeartbeats 800000 in
theorem changeText_any (A : ChangeD) (w : World) (h1 : A.key.size ≤ 20000) (h2 : A.value.size ≤ 20000) :
    Calls Try.prog 17 #[.agg #[.string A.key, .string A.value, .bool A.gone]] w fun e w' => e = .returned (.string (changeB A)) ∧ Below w.heap.size w w' := by
  obtain ⟨s, v, g⟩ := A
  simp only at h1 h2 ⊢
  obtain ⟨G1, H1⟩ : ∃ G, Hid (G = shortB s) := ⟨_, rfl⟩
  obtain ⟨G2, H2⟩ : ∃ G, Hid (G = shortB v) := ⟨_, rfl⟩
  have C1 : Hid (∀ W, Calls Try.prog 34 #[.string s] W fun e w' => e = .returned (.tuple #[.string G1, .bool true]) ∧ Below W.heap.size W w') := fun W => by rw [H1.out]; exact implShort_yes s W h1
  have C2 : Hid (∀ W, Calls Try.prog 34 #[.string v] W fun e w' => e = .returned (.tuple #[.string G2, .bool true]) ∧ Below W.heap.size W w') := fun W => by rw [H2.out]; exact implShort_yes v W h2
  have hz1 : G1.size ≤ 20005 := by rw [H1.out]; have := shortB_size s; omega
  have hz2 : G2.size ≤ 20005 := by rw [H2.out]; have := shortB_size v; omega
  have HE : Hid (changeB ⟨s, v, g⟩ = G1 ++ flagB g ++ G2) := by show _ = _; rw [H1.out, H2.out]; rfl
  have hc0 : ∀ W : World, (convert 22 9 (.slice (some ⟨W.heap.size, 0, none⟩) 1 1)).run Try.prog (W.alloc (.cells #[.int .u8 0] 5)) = .ok (.string ⟨#[0]⟩) (W.alloc (.cells #[.int .u8 0] 5)) := fun W => byte_text 0 W
  have hc1 : ∀ W : World, (convert 22 9 (.slice (some ⟨W.heap.size, 0, none⟩) 1 1)).run Try.prog (W.alloc (.cells #[.int .u8 1] 5)) = .ok (.string ⟨#[1]⟩) (W.alloc (.cells #[.int .u8 1] 5)) := fun W => byte_text 1 W
  have b0 : Hid (Below w.heap.size w (w.alloc (.cells #[.string s, .string v, .bool g] 40))) := (Below.refl _ w).alloc (Nat.le_refl _) _
  have hbs : (w.alloc (.cells #[.string s, .string v, .bool g] 40)).heap.size = w.heap.size + 1 := by simp
  have hbox := heap_alloc_new w (.cells #[.string s, .string v, .bool g] 40)
  go_enter Try.func17, Try.ntmps17
  go_wp2_with fail
  generalize w.alloc (.cells #[.string s, .string v, .bool g] 40) = wb at b0 hbs hbox
  refine (C1.out _).mono ?_
  rintro e w1 ⟨rfl, b1⟩
  have hbx1 := (b1.block w.heap.size (by omega)).trans hbox
  have hd1 : w1.cell? ⟨w.heap.size, 1, none⟩ = some (.string v) := (cell_of_row w1 _ 1 _ _ (0, 0) hbx1).trans rfl
  have B1 := hide b1
  have HBS := hide hbs
  clear b1 hbx1 hbs
  go_wp2_with fail
  refine (C2.out _).mono ?_
  rintro e w2 ⟨rfl, b2⟩
  have B2 := hide (B1.out.trans (b2.mono B1.out.size))
  clear b2 hd1
  have hbx2 := (B2.out.block w.heap.size (by have := HBS.out; omega)).trans hbox
  have hd2 : w2.cell? ⟨w.heap.size, 2, none⟩ = some (.bool g) := (cell_of_row w2 _ 2 _ _ (0, 0) hbx2).trans rfl
  clear hbx2 hbox
  have BE : Hid (∀ o, Below w.heap.size w (w2.alloc o)) := fun o => (b0.out.trans (B2.out.mono b0.out.size)).alloc (by have h1 := B2.out.size; have h2 := HBS.out; omega) o
  have hk0 : ¬ (9223372036854775807 < G1.size + (⟨#[0]⟩ : ByteArray).size) := by have e : (⟨#[0]⟩ : ByteArray).size = 1 := rfl; omega
  have hk1 : ¬ (9223372036854775807 < G1.size + (⟨#[1]⟩ : ByteArray).size) := by have e : (⟨#[1]⟩ : ByteArray).size = 1 := rfl; omega
  have hk2 : ¬ (9223372036854775807 < G1.size + 1 + G2.size) := by omega
  have hk3 : ¬ (9223372036854775807 < G1.size + 1) := by omega
  cases g
  all_goals
    go_wp2
    go_ret
    rw [HE.out]
    exact ⟨rfl, BE.out _⟩

set_option maxRecDepth 100000 in
set_option maxHeartbeats 1600000 in
theorem implBatchText_any (q : Int) (fs : List ChangeD) (ao : Option Addr) (cap : Nat) (w : World) (hl : fs.length ≤ 1048576) (hfs : ChangesAt w ao fs) (hsz : ∀ A ∈ fs, A.key.size ≤ 1048576 ∧ A.value.size ≤ 1048576) :
    Calls Try.prog 6 #[.agg #[.int .i64 q, .slice ao fs.length cap]] w fun e w' => e = .returned (.tuple #[.string (textD q fs), .bool (textOkD q fs)]) ∧ Below w.heap.size w w' := by
  have HF := hide hfs
  have HS := hide hsz
  clear hfs hsz
  have b0 : Hid (Below w.heap.size w (w.alloc (.cells #[.int .i64 q, .slice ao fs.length cap] 26))) := (Below.refl _ w).alloc (Nat.le_refl _) _
  cases hok : batchOkD q fs
  · have hT : Hid (textOkD q fs = false) := by show _ = _; rw [textOkD, hok]; rfl
    have hX : Hid (textD q fs = ⟨#[]⟩) := by show _ = _; rw [textD, hT.out]; rfl
    go_enter Try.func6, Try.ntmps6
    go_wp2_with fail
    refine (implBatchOk_any q fs ao cap _ hl (changesAt_keep HF.out b0.out) HS.out).mono ?_
    rintro e w1 ⟨rfl, b1⟩
    rw [hok]
    go_wp2
    go_ret2
    rw [hT.out, hX.out]
    exact ⟨rfl, b0.out.trans (b1.mono b0.out.size)⟩
  · obtain ⟨hq0, hq1, hn1, hn2⟩ := batchOkD_bounds hok
    have hchg : okChg none fs = true := by have h := hok; unfold batchOkD at h; simp only [Bool.and_eq_true] at h; exact h.2.2
    have HSM := hide (okChg_small0 fs none hchg)
    obtain ⟨m, rfl⟩ := Int.eq_ofNat_of_zero_le hq0
    have HT : Hid (textOkD (m : Int) fs = decide ((batchL m fs).length ≤ 9000)) := by show _ = _; rw [textOkD, hok]; rfl
    have hbs : (w.alloc (.cells #[.int .i64 (m : Int), .slice ao fs.length cap] 26)).heap.size = w.heap.size + 1 := by simp
    have hbox := heap_alloc_new w (.cells #[.int .i64 (m : Int), .slice ao fs.length cap] 26)
    go_enter Try.func6, Try.ntmps6
    go_wp2_with fail
    refine (implBatchOk_any (m : Int) fs ao cap _ hl (changesAt_keep HF.out b0.out) HS.out).mono ?_
    rintro e w1 ⟨rfl, b1⟩
    rw [hok]
    generalize w.alloc (.cells #[.int .i64 (m : Int), .slice ao fs.length cap] 26) = wb at b0 hbs hbox b1
    have HB1 : Hid (Below (w.heap.size + 1) wb w1) := hbs ▸ b1
    have HBX : Hid (wb.heap[w.heap.size]? = some (.cells #[.int .i64 (m : Int), .slice ao fs.length cap] 26 (0, 0))) := hbox
    have HBC : Hid (∀ W, Below (w.heap.size + 1) wb W → W.cell? ⟨w.heap.size, 0, none⟩ = some (.int .i64 (m : Int)) ∧ W.cell? ⟨w.heap.size, 1, none⟩ = some (.slice ao fs.length cap)) := fun W hW => ⟨(cell_of_row W _ 0 _ _ (0, 0) ((hW.block w.heap.size (by omega)).trans HBX.out)).trans rfl, (cell_of_row W _ 1 _ _ (0, 0) ((hW.block w.heap.size (by omega)).trans HBX.out)).trans rfl⟩
    have HBS := hide hbs
    clear b1 hbox hbs
    obtain ⟨hc0, hc1⟩ := HBC.out _ HB1.out
    obtain ⟨V1, HV1⟩ : ∃ V, Hid (V = (⟨(Wd.varF 5 m).toArray⟩ : ByteArray)) := ⟨_, rfl⟩
    obtain ⟨V2, HV2⟩ : ∃ V, Hid (V = (⟨(Wd.varF 5 fs.length).toArray⟩ : ByteArray)) := ⟨_, rfl⟩
    have hz1 : V1.size ≤ 5 := by rw [HV1.out]; exact Wd.varF_length 5 m
    have hz2 : V2.size ≤ 5 := by rw [HV2.out]; exact Wd.varF_length 5 fs.length
    have CV1 : Hid (∀ W, Calls Try.prog 16 #[.int .i64 (m : Int)] W fun e w' => e = .returned (.tuple #[.string V1, .bool true]) ∧ Below W.heap.size W w') := fun W => by rw [HV1.out]; exact implVar_yes m W (by omega)
    have CV2 : Hid (∀ W, Calls Try.prog 16 #[.int .i64 (fs.length : Int)] W fun e w' => e = .returned (.tuple #[.string V2, .bool true]) ∧ Below W.heap.size W w') := fun W => by rw [HV2.out]; exact implVar_yes fs.length W (by omega)
    have HH : Hid ([66] ++ V1.data.toList ++ V2.data.toList = (headB m fs.length).data.toList) := by
      show _ = _
      rw [HV1.out, HV2.out]
      unfold headB
      rw [ByteArray.data_append, ByteArray.data_append, Array.toList_append, Array.toList_append]
    go_wp2_with fail
    refine (CV1.out _).mono ?_
    rintro e w2 ⟨rfl, b2⟩
    have HB2 := hide (HB1.out.trans (b2.mono (by have h1 := HB1.out.size; have h2 := HBS.out; omega)))
    clear b2 hc0 hc1
    obtain ⟨hc0, hc1⟩ := HBC.out _ HB2.out
    go_wp2_with fail
    refine (CV2.out _).mono ?_
    rintro e w3 ⟨rfl, b3⟩
    have hw2 : w.heap.size + 1 ≤ w2.heap.size := by have h1 := HB2.out.size; have h2 := HBS.out; omega
    have HB3 := hide (HB2.out.trans (b3.mono hw2))
    have hw3 : w.heap.size + 1 ≤ w3.heap.size := Nat.le_trans hw2 b3.size
    clear b3 hc0 hc1
    have ho3 : (w3.alloc (.cells #[.int .u8 66] 5)).ownsRow (w.heap.size + 1) 5 1 (.slice (some ⟨w3.heap.size, 0, none⟩) 1 1) [(66 : UInt8)].length ([(66 : UInt8)].map bv) :=
      ⟨rfl, .inr ⟨w3.heap.size, 1, #[.int .u8 66], rfl, hw3, heap_alloc_new w3 _, Nat.le_refl _, by unfold maxLen; omega, rfl, rfl⟩⟩
    have hb3 : Below (w.heap.size + 1) wb (w3.alloc (.cells #[.int .u8 66] 5)) := HB3.out.alloc hw3 _
    have hs3 : w.heap.size + 1 ≤ (w3.alloc (.cells #[.int .u8 66] 5)).heap.size := by simp; omega
    have HO3 := hide ho3
    have HB3 := hide hb3
    have HS3 := hide hs3
    clear ho3 hb3 hs3 hw2 hw3
    go_wp2_with (first | (at_builtin; refine app_text _ 22 9 5 Try.underlying22 Try.underlying9 Try.info5 wb (w.heap.size + 1) rfl _ _ rfl _ ([66] ++ V1.data.toList) V2 rfl HO4.out rfl (by have e : V1.data.toList.length = V1.size := rfl; simp only [List.length_append, List.length_cons, List.length_nil, e]; omega) HB4.out HS4.out ?_; intro v5 w5 ho5 hb5 hs5; rw [HH.out] at ho5; have HO5 := hide ho5; have HB5 := hide hb5; clear ho5 hb5 hs5; obtain ⟨hc0, hc1⟩ := HBC.out _ HB5.out) | (at_builtin; refine app_text _ 22 9 5 Try.underlying22 Try.underlying9 Try.info5 wb (w.heap.size + 1) rfl _ _ rfl _ [66] V1 rfl HO3.out rfl (by simp; omega) HB3.out HS3.out ?_; intro v4 w4 ho4 hb4 hs4; have HO4 := hide ho4; have HB4 := hide hb4; have HS4 := hide (Nat.le_trans HS3.out hs4); clear ho4 hb4 hs4))
    go_loopw [8, 37] (fun vo ii wr => ∃ (k : Nat), ii = .int .i64 k ∧ k ≤ fs.length ∧ Hid (wr.ownsRow (w.heap.size + 1) 5 1 vo ((headB m fs.length).data.toList ++ changesL (fs.take k)).length (((headB m fs.length).data.toList ++ changesL (fs.take k)).map bv)) ∧ Hid (Below (w.heap.size + 1) wb wr)) (fun _ ii _ => fs.length - (intOf ii).toNat)
    case atStart =>
      refine ⟨0, rfl, Nat.zero_le _, ?_, HB5⟩
      rw [List.take_zero, changesL, List.append_nil]
      exact HO5
    case round =>
      clear HO3 HO4 HO5 HB3 HB4 HB5 HS3 HS4
      obtain ⟨k, rfl, hk, HO, HB⟩ := hrel
      have hws : w.heap.size + 1 ≤ wr.heap.size := by have h1 := HB.out.size; have h2 := HBS.out; omega
      have HB0 : Hid (Below w.heap.size w wr) := b0.out.trans (HB.out.mono (by omega))
      by_cases hlt : k < fs.length
      · have hlt' : decide ((k : Int) < (fs.length : Int)) = true := by simp; omega
        obtain ⟨b, off, rfl, hbw, hd0, hd1, hd2⟩ := changesAt_keep HF.out HB0.out k hlt
        obtain ⟨hs1, hs2⟩ := HSM.out fs[k] (List.getElem_mem hlt)
        obtain ⟨F, HFk⟩ : ∃ F, Hid (fs[k] = F) := ⟨fs[k], hide rfl⟩
        rw [HFk.out] at hd0 hd1 hd2 hs1 hs2
        have hi0 : (0 : Int) ≤ (k : Int) := by omega
        have hi1 : (k : Int) < (fs.length : Int) := by omega
        obtain ⟨LL, HLL⟩ : ∃ LL, Hid (LL = (headB m fs.length).data.toList ++ changesL (fs.take k)) := ⟨_, rfl⟩
        rw [← HLL.out] at HO
        have hLl : LL.length ≤ 1000000000000 := by
          have h1 := headB_size m fs.length
          have h2 := changesL_len (fs.take k) (fun A hA => HS.out A (List.mem_of_mem_take hA))
          have h3 : (fs.take k).length ≤ fs.length := by rw [List.length_take]; omega
          have e1 : (headB m fs.length).data.toList.length = (headB m fs.length).size := rfl
          rw [HLL.out, List.length_append, e1]
          omega
        have hcz := changeB_size F
        go_wp2_with fail
        refine (changeText_any F _ (by omega) (by omega)).mono ?_
        rintro e w6 ⟨rfl, b6⟩
        have B6 : Hid (Below wr.heap.size wr w6) := ((Below.refl _ wr).alloc (Nat.le_refl _) _).trans (b6.mono (by simp))
        clear b6 hd0 hd1 hd2
        have HO6 := hide (ownsRow_below HO.out B6.out)
        have HB6 := hide (HB.out.trans (B6.out.mono hws))
        have HS6 : Hid (w.heap.size + 1 ≤ w6.heap.size) := Nat.le_trans hws B6.out.size
        go_wp2_with (at_builtin; refine app_text _ 22 9 5 Try.underlying22 Try.underlying9 Try.info5 wb (w.heap.size + 1) rfl _ _ rfl _ LL (changeB F) rfl HO6.out rfl (by omega) HB6.out HS6.out ?_; intro v7 w7 ho7 hb7 hs7; have HO7 := hide ho7; have HB7 := hide hb7; clear ho7 hb7 hs7)
        go_roundw
        case rel =>
          refine ⟨k + 1, by go_num, by omega, ?_, HB7⟩
          have e2 : (headB m fs.length).data.toList ++ changesL (fs.take (k + 1)) = LL ++ (changeB F).data.toList := by
            rw [HLL.out, List.take_succ_eq_append_getElem hlt, changesL_snoc, HFk.out, List.append_assoc]
          rw [e2]
          exact HO7
        case measure => simp [intOf]; omega
      · have hlt' : decide ((k : Int) < (fs.length : Int)) = false := by simp; omega
        obtain ⟨L, HL⟩ : ∃ L, Hid (L = batchL m fs) := ⟨_, rfl⟩
        have HO1 : Hid (wr.ownsRow (w.heap.size + 1) 5 1 u8 L.length (L.map bv)) := by
          have h := HO.out
          rw [List.take_of_length_le (by omega)] at h
          show World.ownsRow _ _ _ _ _ _ _
          rw [HL.out]
          exact h
        have hcv := conv_own (P := Try.prog) 22 5 9 Try.underlying22 Try.underlying5 Try.underlying9 wr _ u8 L HO1.out
        obtain ⟨ga, gc, rfl⟩ := slice_form HO1.out
        have hm : ((m : Int)).toNat = m := by simp
        by_cases hbig : 9000 < L.length
        · have hbig' : decide ((9000 : Int) < (L.length : Int)) = true := by simp; omega
          have hT : Hid (textOkD (m : Int) fs = false) := by show _ = _; rw [HT.out, ← HL.out]; simp; omega
          have hX : Hid (textD (m : Int) fs = ⟨#[]⟩) := by show _ = _; rw [textD, hT.out]; rfl
          go_wp2
          go_ret2
          rw [hT.out, hX.out]
          exact ⟨rfl, HB0.out⟩
        · have hbig' : decide ((9000 : Int) < (L.length : Int)) = false := by simp; omega
          have hT : Hid (textOkD (m : Int) fs = true) := by show _ = _; rw [HT.out, ← HL.out]; simp; omega
          have hX : Hid (textD (m : Int) fs = ⟨L.toArray⟩) := by show _ = _; rw [textD, hT.out, hm, ← HL.out]; rfl
          go_wp2
          go_ret2
          rw [hT.out, hX.out]
          exact ⟨rfl, HB0.out⟩
end Go.Proofs.Ytcpbkllonamleab
