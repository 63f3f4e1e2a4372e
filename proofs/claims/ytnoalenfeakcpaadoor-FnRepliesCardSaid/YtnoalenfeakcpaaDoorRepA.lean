/- Arrays of replies, on both sides. -/
import Derived.Test.YtnoalenfeakcpaaDoorRepS
namespace Go.Proofs.YtnoalenfeakcpaaDoor
open Go.RowKit

/-- 'append(out, b...)', both rows of bytes that a conversion made, in a plain region. -/
theorem app_madeB {P : Program} {ops : Array Oper} {rest : List Oper} {o : Oper} {a : Act} {Q : Exit → Act → World → Prop} (w : World) (t e : TypeId) (ht : P.underlying t = some (.slice e)) (hinfo : (P.info? e).map (fun i => (i.zero, i.size, i.bytes)) = some (some (.int .u8 0), 1, 1))
    (B : Nat) (hgd : o.guard = none) (sl x : Operand) (ho : o.op = .call { callee := .builtin .append, args := #[sl, x], argTypes := #[t, t] }) (v : Value) (l news : List UInt8) (hs : a.eval sl = v) (hown : OwnsB w B e v l)
    (ad : Addr) (c : Nat) (hx : a.eval x = .slice (some ad) news.length c) (hnews : ∀ j u, (news.map bv)[j]? = some u → w.cell? (ad.add j) = some u) (hlen : l.length + news.length ≤ 70368744177664) (hbase : B ≤ w.heap.size)
    (h : ∀ v' w', OwnsB w' B e v' (l ++ news) → w.grownBy w' v.ownBlock → wpList P ops Q rest (a.put o.dst v') w') : wpList P ops Q (o :: rest) a w := by
  refine wpList_plain hgd fun K hK => ?_
  obtain ⟨v', w', hr, h2, h3⟩ := append_made (P := P) w B t o.type e ht hinfo v l news hown ad c hnews hlen hbase
  unfold Oper.wp execOp
  simp only [ho, resolve, invoke, builtin, Sem.run_bind, Sem.run_pure, Result.andThen_ok, List.map_toArray, List.map_cons, List.map_nil, hs, hx, hr]
  exact hK _ _ (h v' w' h2 h3)

/-- An array of replies. -/
def arrB (ts : List ByteArray) : ByteArray := catB (hdB ⟨#[42]⟩ ts.length) ts

set_option maxRecDepth 100000 in
theorem implArray_any (ts : List ByteArray) (ao : Option Addr) (cap : Nat) (w : World) (hl : ts.length ≤ 1048576) (hts : TextsAt w ao ts) (hz : ∀ x ∈ ts, x.size ≤ 1048576) (ht : Pow10 w) :
    Calls Tryd.prog 15 #[.slice ao ts.length cap] w fun e w' => e = .returned (.string (arrB ts)) ∧ Below w.heap.size w w' := by
  have HH := hide (headLineI_any ⟨#[42]⟩ ts.length w (by decide) (by omega) (by omega) ht)
  have hzd := hdB_size ⟨#[42]⟩ ts.length (by decide) (by omega) (by omega)
  have HE : Hid (arrB ts = catB (hdB ⟨#[42]⟩ ts.length) ts) := rfl
  generalize hdB ⟨#[42]⟩ (ts.length : Int) = D at HH hzd HE
  have HW := hide (fun W (hW : TextsAt W ao ts) => written_any D ts ao cap W (by omega) hl hW hz)
  have HT := hide hts
  clear ht hts hz
  rw [HE.out]
  generalize catB D ts = R at HW
  clear HE
  go_enter Tryd.func15, Tryd.ntmps15
  go_wp2_with fail
  refine (HH.out).mono ?_
  rintro e w1 ⟨rfl, b1⟩
  have B1 := hide b1
  clear b1
  go_wp2_with fail
  refine (HW.out _ (textsAt_keep HT.out B1.out)).mono ?_
  rintro e w2 ⟨rfl, b2⟩
  go_wp2
  go_ret
  exact ⟨rfl, B1.out.trans (b2.mono B1.out.size)⟩

set_option maxRecDepth 100000 in
set_option maxHeartbeats 1600000 in
theorem specArray_any (ts : List ByteArray) (ao : Option Addr) (cap : Nat) (w : World) (hl : ts.length ≤ 1048576) (hts : TextsAt w ao ts) (hz : ∀ x ∈ ts, x.size ≤ 1048576) :
    Calls Tryd.prog 49 #[.slice ao ts.length cap] w fun e w' => e = .returned (.string (arrB ts)) ∧ Below w.heap.size w w' := by
  have HT := hide hts
  have HZ := hide hz
  clear hts hz
  have HD : Hid (∀ W, Calls Tryd.prog 59 #[.int .i64 (ts.length : Int)] W fun e w' => e = .returned (.string (numB ts.length)) ∧ Below W.heap.size W w') := fun W => decimal_any ts.length W (by omega) (by omega)
  have hzd := numB_size ts.length (by omega) (by omega)
  have HE : Hid (arrB ts = catB ((⟨#[42]⟩ ++ numB ts.length) ++ ⟨#[13, 10]⟩) ts) := rfl
  generalize numB (ts.length : Int) = D at HD hzd HE
  have hc1 : (⟨#[42]⟩ : ByteArray).size = 1 := rfl
  have hc2 : (⟨#[13, 10]⟩ : ByteArray).size = 2 := rfl
  obtain ⟨h, hh, hhz⟩ : ∃ h : ByteArray, Hid ((⟨#[42]⟩ ++ D) ++ ⟨#[13, 10]⟩ = h) ∧ h.size ≤ 24 := ⟨_, rfl, by rw [ByteArray.size_append, ByteArray.size_append]; omega⟩
  rw [hh.out] at HE
  rw [HE.out]
  clear HE
  go_enter Tryd.func49, Tryd.ntmps49
  go_wp2_with fail
  refine (HD.out _).mono ?_
  rintro e w0 ⟨rfl, b0⟩
  have B0 := hide b0
  clear b0
  have hB0 := B0.out.size
  obtain ⟨w1, C1, hcv, b1, hs1, ho1⟩ := conv_made (P := Tryd.prog) w0 9 31 5 ((⟨#[42]⟩ ++ D) ++ ⟨#[13, 10]⟩) Tryd.underlying9 Tryd.underlying31 Tryd.underlying5 (by rw [hh.out]; unfold maxLen; omega)
  have B1 := hide (B0.out.trans (b1.mono hB0))
  have HO1 : Hid (OwnsB w1 w.heap.size 5 (.slice (some ⟨w0.heap.size, 0, none⟩) ((⟨#[42]⟩ ++ D) ++ ⟨#[13, 10]⟩ : ByteArray).size C1) (catB h (ts.take 0)).data.toList) := by
    show OwnsB _ _ _ _ _
    rw [List.take_zero, catB, ← hh.out]
    exact ownsB_le ho1 hB0
  rw [show ((⟨#[42]⟩ ++ D) ++ ⟨#[13, 10]⟩ : ByteArray).size = 1 + D.size + 2 from by rw [ByteArray.size_append, ByteArray.size_append]; rfl] at HO1
  clear b1 hs1 ho1
  go_wp2_with fail
  go_loopw [3, 4] (fun vo ii wr => ∃ (k : Nat), ii = .int .i64 k ∧ k ≤ ts.length ∧ Hid (OwnsB wr w.heap.size 5 vo (catB h (ts.take k)).data.toList) ∧ Hid (Below w.heap.size w wr)) (fun _ ii _ => ts.length - (intOf ii).toNat)
  case atStart => exact ⟨0, rfl, Nat.zero_le _, HO1, B1⟩
  case round =>
    obtain ⟨k, rfl, hk, HO, HB⟩ := hrel
    have hws := HB.out.size
    by_cases hlt : k < ts.length
    · have hlt' : decide ((k : Int) < (ts.length : Int)) = true := by simp; omega
      have hi0 : (0 : Int) ≤ (k : Int) := by omega
      have hi1 : (k : Int) < (ts.length : Int) := by omega
      obtain ⟨b, off, rfl, hbw, hd0⟩ := textsAt_keep HT.out HB.out k hlt
      have hxz := HZ.out ts[k] (List.getElem_mem hlt)
      have htk := hide (List.take_succ_eq_append_getElem hlt)
      generalize ts[k] = T at hd0 hxz htk
      obtain ⟨LL, HLL⟩ : ∃ LL, Hid (LL = (catB h (ts.take k)).data.toList) := ⟨_, rfl⟩
      rw [← HLL.out] at HO
      obtain ⟨TL, HTL⟩ : ∃ TL, Hid (T.data.toList = TL) := ⟨_, rfl⟩
      have hTl : Hid (TL.length = T.size) := by show _ = _; rw [← HTL.out]; rfl
      have hLl : LL.length + TL.length ≤ 70368744177664 := by
        have h1 := catB_size (ts.take k) h 1048576 (fun x hx => HZ.out x (List.mem_of_mem_take hx))
        have h3 : (ts.take k).length ≤ 1048576 := by rw [List.length_take]; omega
        have h4 : (ts.take k).length * 1048576 ≤ 1048576 * 1048576 := Nat.mul_le_mul_right _ h3
        have e1 : LL.length = (catB h (ts.take k)).size := by rw [HLL.out]; rfl
        have := hTl.out
        omega
      obtain ⟨w5, C5, hcw, b5, hs5, ho5⟩ := conv_made (P := Tryd.prog) wr 9 31 5 T Tryd.underlying9 Tryd.underlying31 Tryd.underlying5 (by unfold maxLen; omega)
      rw [HTL.out] at ho5
      rw [← hTl.out] at hcw ho5
      have B5 := hide b5
      have HO5 := hide ho5
      have hws5 : w.heap.size ≤ w5.heap.size := Nat.le_trans hws B5.out.size
      clear b5 hs5 ho5
      go_wp2_with (at_builtin; refine app_madeB _ 31 5 Tryd.underlying31 Tryd.info5 w.heap.size rfl _ _ rfl _ LL TL rfl (ownsB_below HO.out B5.out) ⟨wr.heap.size, 0, none⟩ C5 rfl (ownsB_cells HO5.out) hLl hws5 ?_; intro v7 w7 ho7 hg7; have HO7 := hide ho7; have HG7 := hide hg7; clear ho7 hg7)
      go_roundw
      case rel =>
        refine ⟨k + 1, by go_num, by omega, ?_, (HB.out.trans (B5.out.mono hws)).grown HG7.out hws5 (fun g hg => (ownsB_lt HO.out g hg).1)⟩
        have e2 : (catB h (ts.take (k + 1))).data.toList = LL ++ TL := by
          rw [HLL.out, htk.out, catB_snoc, ← HTL.out]
          simp
        show OwnsB _ _ _ _ _
        rw [e2]
        exact HO7.out
      case measure => simp [intOf]; omega
    · have hlt' : decide ((k : Int) < (ts.length : Int)) = false := by simp; omega
      rw [show ts.take k = ts from List.take_of_length_le (by omega)] at HO
      obtain ⟨L, HL⟩ : ∃ L, Hid ((catB h ts).data.toList = L) := ⟨_, rfl⟩
      rw [HL.out] at HO
      have hcv := conv_backB (P := Tryd.prog) wr 31 9 5 _ u3 L Tryd.underlying31 Tryd.underlying5 Tryd.underlying9 HO.out
      have HR : Hid ((⟨L.toArray⟩ : ByteArray) = catB h ts) := by show _ = _; rw [← HL.out]
      clear HL
      obtain ⟨g, co, cur, fz, rfl, -, -, -, hLc, hcm, -, -⟩ := HO.out
      go_wp2
      go_ret
      rw [HR.out]
      exact ⟨rfl, HB.out⟩

end Go.Proofs.YtnoalenfeakcpaaDoor
