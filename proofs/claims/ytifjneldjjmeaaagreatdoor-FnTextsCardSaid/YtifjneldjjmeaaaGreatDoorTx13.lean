import Derived.Lib.SmallJoins
import Derived.OpenShut
import Derived.Shelf.Small.Utf8
import Derived.Shelf.Small.Strs
import Derived.Shelf.Strconv.Atoi
import Derived.Shelf.Strconv.Itoa0
import Derived.Shelf.Strconv.Itoa1
import Derived.Shelf.LaysM
import Derived.Shelf.Strconv.Itoa2
import Derived.Shelf.Strconv.Itoa3
import Derived.Shelf.Strconv.AtoiErrFast
import Derived.Shelf.Strconv.ParseIntEmpty
import Derived.Shelf.Strconv.AtoiFail
import Derived.Shelf.Strconv.Clone
import Derived.Shelf.Strconv.SyntaxError
import Derived.Shelf.LaysC
import Derived.Shelf.Strconv.ToError
import Derived.Shelf.Strconv.Lower
import Derived.Shelf.Strconv.ParseUint10
import Derived.Shelf.Strconv.ParseUint10Empty
import Derived.Shelf.Strconv.ParseUint10Any
import Derived.Shelf.Strconv.ParseInt10
import Derived.Shelf.Strconv.AtoiLong
import Derived.Shelf.Strconv.AtoiInnerAll
import Derived.Shelf.Strconv.RangeError
import Derived.Shelf.Strconv.ToErrorRange
import Derived.Shelf.Strconv.AtoiAll
import Derived.Shelf.Strconv.ErrVarAll
import Derived.Shelf.Strings.Search1
import Derived.Shelf.Strings.Runes
import Derived.Shelf.Strings.AsciiSet
import Derived.Shelf.Unicode.DecodeSlow
import Derived.Shelf.Unicode.DecodeAny
import Derived.Test.YtifjneldjjmeaaaGreatDoorProg
import Derived.Test.YtifjneldjjmeaaaGreatDoorChecked
import Derived.BigQuiet
import Derived.Deep.RegionHeld3
import Derived.Deep.RegionLaw
import Derived.Lib.AtoiTie
import Derived.Test.YtifjneldjjmeaaaGreatDoorTx12
import Derived.Test.YtifjneldjjmeaaaGreatDoorTx2
import Derived.Test.YtifjneldjjmeaaaGreatDoorTx0
import Derived.Test.YtifjneldjjmeaaaGreatDoorTx4
import Derived.Test.YtifjneldjjmeaaaGreatDoorTx7
set_option maxRecDepth 100000
set_option maxHeartbeats 6400000
namespace Go.Proofs.YtifjneldjjmeaaaGreatDoor
open Go.RowKit
abbrev Pow10 (w : World) : Prop := Lib.TabIs Tryz.prog w "internal/strconv.uint64pow10" .u64 Lib.pow10Tab
theorem implNumber_any (n : Int) (w : World) (h0 : -9223372036854775808 ≤ n) (h1 : n ≤ 9223372036854775807) (ht : Pow10 w) : Calls Tryz.prog 114 #[.int .i64 n] w fun e w' => e = .returned (.string (hdB ⟨#[58]⟩ n)) ∧ Below w.heap.size w w' := by
  have HH := hide (headLineI_any ⟨#[58]⟩ n w (by decide) h0 h1 ht)
  clear ht
  go_enter Tryz.func114, Tryz.ntmps114
  go_wp2_with fail
  refine (HH.out).mono ?_
  rintro e w1 ⟨rfl, b1⟩
  go_wp2
  go_ret
  exact ⟨rfl, b1⟩
theorem specNumber_any (n : Int) (w : World) (h0 : -9223372036854775808 ≤ n) (h1 : n ≤ 9223372036854775807) : Calls Tryz.prog 12 #[.int .i64 n] w fun e w' => e = .returned (.string (hdB ⟨#[58]⟩ n)) ∧ Below w.heap.size w w' := by
  have HD : Hid (∀ W, Calls Tryz.prog 9 #[.int .i64 n] W fun e w' => e = .returned (.string (numB n)) ∧ Below W.heap.size W w') := fun W => decimal_any n W h0 h1
  have hz := numB_size n h0 h1
  have HE : Hid (hdB ⟨#[58]⟩ n = (⟨#[58]⟩ ++ numB n) ++ ⟨#[13, 10]⟩) := rfl
  generalize numB n = D at HD hz HE
  have hc1 : (⟨#[58]⟩ : ByteArray).size = 1 := rfl
  have hc2 : (⟨#[13, 10]⟩ : ByteArray).size = 2 := rfl
  rw [HE.out]
  go_enter Tryz.func12, Tryz.ntmps12
  go_wp2_with fail
  refine (HD.out _).mono ?_
  rintro e w1 ⟨rfl, b1⟩
  go_wp2
  go_ret
  exact ⟨rfl, b1⟩
theorem implNil_any (w : World) (ht : Pow10 w) : Calls Tryz.prog 110 #[] w fun e w' => e = .returned (.string ⟨#[36, 45, 49, 13, 10]⟩) ∧ Below w.heap.size w w' := by
  have HH : Hid (Calls Tryz.prog 137 #[.string ⟨#[36]⟩, .int .i64 (-1)] w fun e w' => e = .returned (.string ⟨#[36, 45, 49, 13, 10]⟩) ∧ Below w.heap.size w w') := headLineI_any ⟨#[36]⟩ (-1) w (by decide) (by decide) (by decide) ht
  clear ht
  go_enter Tryz.func110, Tryz.ntmps110
  go_wp2_with fail
  refine (HH.out).mono ?_
  rintro e w1 ⟨rfl, b1⟩
  go_wp2
  go_ret
  exact ⟨rfl, b1⟩
theorem specNil_any (w : World) : Calls Tryz.prog 15 #[] w fun e w' => e = .returned (.string ⟨#[36, 45, 49, 13, 10]⟩) ∧ w' = w := by
  go_enter Tryz.func15, Tryz.ntmps15
  go_wp2
  go_ret
  exact ⟨rfl, rfl⟩
def bulkB (s : ByteArray) : ByteArray := (hdB ⟨#[36]⟩ s.size ++ s) ++ ⟨#[13, 10]⟩
theorem implBulk_any (s : ByteArray) (w : World) (hs : s.size ≤ 1048576) (ht : Pow10 w) : Calls Tryz.prog 111 #[.string s] w fun e w' => e = .returned (.string (bulkB s)) ∧ Below w.heap.size w w' := by
  have HH := hide (headLineI_any ⟨#[36]⟩ s.size w (by decide) (by omega) (by omega) ht)
  have hz := hdB_size ⟨#[36]⟩ s.size (by decide) (by omega) (by omega)
  have HE : Hid (bulkB s = lineB (hdB ⟨#[36]⟩ s.size) s) := rfl
  generalize hdB ⟨#[36]⟩ (s.size : Int) = D at HH hz HE
  have HW := hide (fun W => written_line D s W (by omega) hs)
  rw [HE.out]
  generalize lineB D s = R at HW
  clear ht HE
  go_enter Tryz.func111, Tryz.ntmps111
  go_wp2_with fail
  refine (HH.out).mono ?_
  rintro e w1 ⟨rfl, b1⟩
  have B1 := hide b1
  clear b1
  go_wp2_with fail
  refine (HW.out _).mono ?_
  rintro e w2 ⟨rfl, b2⟩
  go_wp2
  go_ret
  exact ⟨rfl, B1.out.trans (b2.mono B1.out.size)⟩
theorem specBulk_any (s : ByteArray) (w : World) (hs : s.size ≤ 1048576) : Calls Tryz.prog 11 #[.string s] w fun e w' => e = .returned (.string (bulkB s)) ∧ Below w.heap.size w w' := by
  have HD : Hid (∀ W, Calls Tryz.prog 9 #[.int .i64 (s.size : Int)] W fun e w' => e = .returned (.string (numB s.size)) ∧ Below W.heap.size W w') := fun W => decimal_any s.size W (by omega) (by omega)
  have hz := numB_size s.size (by omega) (by omega)
  have HE : Hid (bulkB s = (((⟨#[36]⟩ ++ numB s.size) ++ ⟨#[13, 10]⟩) ++ s) ++ ⟨#[13, 10]⟩) := rfl
  generalize numB (s.size : Int) = D at HD hz HE
  have hc1 : (⟨#[36]⟩ : ByteArray).size = 1 := rfl
  have hc2 : (⟨#[13, 10]⟩ : ByteArray).size = 2 := rfl
  rw [HE.out]
  go_enter Tryz.func11, Tryz.ntmps11
  go_wp2_with fail
  refine (HD.out _).mono ?_
  rintro e w1 ⟨rfl, b1⟩
  go_wp2
  go_ret
  exact ⟨rfl, b1⟩
theorem app_madeB {P : Program} {ops : Array Oper} {rest : List Oper} {o : Oper} {a : Act} {Q : Exit → Act → World → Prop} (w : World) (t e : TypeId) (ht : P.underlying t = some (.slice e)) (hinfo : (P.info? e).map (fun i => (i.zero, i.size, i.bytes)) = some (some (.int .u8 0), 1, 1))
    (B : Nat) (hgd : o.guard = none) (sl x : Operand) (ho : o.op = .call { callee := .builtin .append, args := #[sl, x], argTypes := #[t, t] }) (v : Value) (l news : List UInt8) (hs : a.eval sl = v) (hown : OwnsB w B e v l)
    (ad : Addr) (c : Nat) (hx : a.eval x = .slice (some ad) news.length c) (hnews : ∀ j u, (news.map bv)[j]? = some u → w.cell? (ad.add j) = some u) (hlen : l.length + news.length ≤ 70368744177664) (hbase : B ≤ w.heap.size)
    (h : ∀ v' w', OwnsB w' B e v' (l ++ news) → w.grownBy w' v.ownBlock → wpList P ops Q rest (a.put o.dst v') w') : wpList P ops Q (o :: rest) a w := by
  refine wpList_plain hgd fun K hK => ?_
  obtain ⟨v', w', hr, h2, h3⟩ := append_made (P := P) w B t o.type e ht hinfo v l news hown ad c hnews hlen hbase
  unfold Oper.wp execOp
  simp only [ho, resolve, invoke, builtin, Sem.run_bind, Sem.run_pure, Result.andThen_ok, List.map_toArray, List.map_cons, List.map_nil, hs, hx, hr]
  exact hK _ _ (h v' w' h2 h3)
def arrB (ts : List ByteArray) : ByteArray := catB (hdB ⟨#[42]⟩ ts.length) ts
theorem implArray_any (ts : List ByteArray) (ao : Option Addr) (cap : Nat) (w : World) (hl : ts.length ≤ 1048576) (hts : TextsAt w ao ts) (hz : ∀ x ∈ ts, x.size ≤ 1048576) (ht : Pow10 w) :
    Calls Tryz.prog 122 #[.slice ao ts.length cap] w fun e w' => e = .returned (.string (arrB ts)) ∧ Below w.heap.size w w' := by
  have HH := hide (headLineI_any ⟨#[42]⟩ ts.length w (by decide) (by omega) (by omega) ht)
  have hzd := hdB_size ⟨#[42]⟩ ts.length (by decide) (by omega) (by omega)
  have HE : Hid (arrB ts = catB (hdB ⟨#[42]⟩ ts.length) ts) := rfl
  generalize hdB ⟨#[42]⟩ (ts.length : Int) = D at HH hzd HE
  have HW := hide (fun W (hW : TextsAt W ao ts) => written_any D ts ao cap W (by omega) hl hW hz)
  have HT := hide hts
  clear ht hts hz
  rw [HE.out]
  generalize catB D ts = R at HW
  clear HE
  go_enter Tryz.func122, Tryz.ntmps122
  go_wp2_with fail
  refine (HH.out).mono ?_
  rintro e w1 ⟨rfl, b1⟩
  have B1 := hide b1
  clear b1
  go_wp2_with fail
  refine (HW.out _ (textsAt_keep HT.out B1.out)).mono ?_
  rintro e w2 ⟨rfl, b2⟩
  go_wp2
  go_ret
  exact ⟨rfl, B1.out.trans (b2.mono B1.out.size)⟩
theorem specArray_any (ts : List ByteArray) (ao : Option Addr) (cap : Nat) (w : World) (hl : ts.length ≤ 1048576) (hts : TextsAt w ao ts) (hz : ∀ x ∈ ts, x.size ≤ 1048576) :
    Calls Tryz.prog 14 #[.slice ao ts.length cap] w fun e w' => e = .returned (.string (arrB ts)) ∧ Below w.heap.size w w' := by
  have HT := hide hts
  have HZ := hide hz
  clear hts hz
  have HD : Hid (∀ W, Calls Tryz.prog 9 #[.int .i64 (ts.length : Int)] W fun e w' => e = .returned (.string (numB ts.length)) ∧ Below W.heap.size W w') := fun W => decimal_any ts.length W (by omega) (by omega)
  have hzd := numB_size ts.length (by omega) (by omega)
  have HE : Hid (arrB ts = catB ((⟨#[42]⟩ ++ numB ts.length) ++ ⟨#[13, 10]⟩) ts) := rfl
  generalize numB (ts.length : Int) = D at HD hzd HE
  have hc1 : (⟨#[42]⟩ : ByteArray).size = 1 := rfl
  have hc2 : (⟨#[13, 10]⟩ : ByteArray).size = 2 := rfl
  obtain ⟨h, hh, hhz⟩ : ∃ h : ByteArray, Hid ((⟨#[42]⟩ ++ D) ++ ⟨#[13, 10]⟩ = h) ∧ h.size ≤ 24 := ⟨_, rfl, by rw [ByteArray.size_append, ByteArray.size_append]; omega⟩
  rw [hh.out] at HE
  rw [HE.out]
  clear HE
  go_enter Tryz.func14, Tryz.ntmps14
  go_wp2_with fail
  refine (HD.out _).mono ?_
  rintro e w0 ⟨rfl, b0⟩
  have B0 := hide b0
  clear b0
  have hB0 := B0.out.size
  obtain ⟨w1, C1, hcv, b1, hs1, ho1⟩ := conv_made (P := Tryz.prog) w0 9 22 5 ((⟨#[42]⟩ ++ D) ++ ⟨#[13, 10]⟩) Tryz.underlying9 Tryz.underlying22 Tryz.underlying5 (by rw [hh.out]; unfold maxLen; omega)
  have B1 := hide (B0.out.trans (b1.mono hB0))
  have HO1 : Hid (OwnsB w1 w.heap.size 5 (.slice (some ⟨w0.heap.size, 0, none⟩) ((⟨#[42]⟩ ++ D) ++ ⟨#[13, 10]⟩ : ByteArray).size C1) (catB h (ts.take 0)).data.toList) := by
    show OwnsB _ _ _ _ _
    rw [List.take_zero, catB, ← hh.out]
    exact ownsB_le ho1 hB0
  rw [show ((⟨#[42]⟩ ++ D) ++ ⟨#[13, 10]⟩ : ByteArray).size = 1 + D.size + 2 from by rw [ByteArray.size_append, ByteArray.size_append]; rfl] at HO1
  clear b1 hs1 ho1
  go_wp2_with fail
  go_loopw [3, 4] (fun vo ii wr => ∃ (k : Nat), ii = .int .i64 k ∧ k ≤ ts.length ∧ Hid (OwnsB wr w.heap.size 5 vo (catB h (ts.take k)).data.toList) ∧ Hid (Below w.heap.size w wr)) (fun _ ii _ => ts.length - (intOf ii).toNat)
  case atStart => exact ⟨0, rfl, Nat.zero_le _, HO1, B1⟩
  case round =>
    obtain ⟨k, rfl, hk, HO, HB⟩ := hrel
    have hws := HB.out.size
    by_cases hlt : k < ts.length
    · have hlt' : decide ((k : Int) < (ts.length : Int)) = true := by simp; omega
      have hi0 : (0 : Int) ≤ (k : Int) := by omega
      have hi1 : (k : Int) < (ts.length : Int) := by omega
      obtain ⟨b, off, rfl, hbw, hd0⟩ := textsAt_keep HT.out HB.out k hlt
      have hxz := HZ.out ts[k] (List.getElem_mem hlt)
      have htk := hide (List.take_succ_eq_append_getElem hlt)
      generalize ts[k] = T at hd0 hxz htk
      obtain ⟨LL, HLL⟩ : ∃ LL, Hid (LL = (catB h (ts.take k)).data.toList) := ⟨_, rfl⟩
      rw [← HLL.out] at HO
      obtain ⟨TL, HTL⟩ : ∃ TL, Hid (T.data.toList = TL) := ⟨_, rfl⟩
      have hTl : Hid (TL.length = T.size) := by show _ = _; rw [← HTL.out]; rfl
      have hLl : LL.length + TL.length ≤ 70368744177664 := by
        have h1 := catB_size (ts.take k) h 1048576 (fun x hx => HZ.out x (List.mem_of_mem_take hx))
        have h3 : (ts.take k).length ≤ 1048576 := by rw [List.length_take]; omega
        have h4 : (ts.take k).length * 1048576 ≤ 1048576 * 1048576 := Nat.mul_le_mul_right _ h3
        have e1 : LL.length = (catB h (ts.take k)).size := by rw [HLL.out]; rfl
        have := hTl.out
        omega
      obtain ⟨w5, C5, hcw, b5, hs5, ho5⟩ := conv_made (P := Tryz.prog) wr 9 22 5 T Tryz.underlying9 Tryz.underlying22 Tryz.underlying5 (by unfold maxLen; omega)
      rw [HTL.out] at ho5
      rw [← hTl.out] at hcw ho5
      have B5 := hide b5
      have HO5 := hide ho5
      have hws5 : w.heap.size ≤ w5.heap.size := Nat.le_trans hws B5.out.size
      clear b5 hs5 ho5
      go_wp2_with (at_builtin; refine app_madeB _ 22 5 Tryz.underlying22 Tryz.info5 w.heap.size rfl _ _ rfl _ LL TL rfl (ownsB_below HO.out B5.out) ⟨wr.heap.size, 0, none⟩ C5 rfl (ownsB_cells HO5.out) hLl hws5 ?_; intro v7 w7 ho7 hg7; have HO7 := hide ho7; have HG7 := hide hg7; clear ho7 hg7)
      go_roundw
      case rel =>
        refine ⟨k + 1, by go_num, by omega, ?_, (HB.out.trans (B5.out.mono hws)).grown HG7.out hws5 (fun g hg => (ownsB_lt HO.out g hg).1)⟩
        have e2 : (catB h (ts.take (k + 1))).data.toList = LL ++ TL := by
          rw [HLL.out, htk.out, catB_snoc, ← HTL.out]
          simp
        show OwnsB _ _ _ _ _
        rw [e2]
        exact HO7.out
      case measure => simp [intOf]; omega
    · have hlt' : decide ((k : Int) < (ts.length : Int)) = false := by simp; omega
      rw [show ts.take k = ts from List.take_of_length_le (by omega)] at HO
      obtain ⟨L, HL⟩ : ∃ L, Hid ((catB h ts).data.toList = L) := ⟨_, rfl⟩
      rw [HL.out] at HO
      have hcv := conv_backB (P := Tryz.prog) wr 22 9 5 _ u3 L Tryz.underlying22 Tryz.underlying5 Tryz.underlying9 HO.out
      have HR : Hid ((⟨L.toArray⟩ : ByteArray) = catB h ts) := by show _ = _; rw [← HL.out]
      clear HL
      obtain ⟨g, co, cur, fz, rfl, -, -, -, hLc, hcm, -, -⟩ := HO.out
      go_wp2
      go_ret
      rw [HR.out]
      exact ⟨rfl, HB.out⟩
def MaxR (w : World) (m : Int) : Prop := w.cell? ⟨1, 0, none⟩ = some (.int .i64 m) ∧ 1 < w.heap.size
theorem maxR_of {w : World} {m : Int} (h : w.cell? ⟨1, 0, none⟩ = some (.int .i64 m)) : MaxR w m := by
  refine ⟨h, ?_⟩
  rcases Nat.lt_or_ge 1 w.heap.size with h' | h'
  · exact h'
  · simp [World.cell?, Array.getElem?_eq_none h'] at h
structure RVars (w : World) : Prop where
  pow : Pow10 w
  syn : ∃ tp p, w.var? Tryz.prog "strconv.ErrSyntax" = some #[.iface tp p]
  rng : ∃ tp p, w.var? Tryz.prog "strconv.ErrRange" = some #[.iface tp p]
  mx : ∃ m, MaxR w m
theorem var_later {w w' : World} {nm : String} {g : Nat} (hg : Tryz.prog.globalNamed nm = some g) (h : Below w.heap.size w w') {x : Value} (hv : w.var? Tryz.prog nm = some #[x]) : w'.var? Tryz.prog nm = some #[x] := by
  refine var?_below h hg ?_ hv
  rcases Nat.lt_or_ge g w.heap.size with h' | h'
  · exact h'
  · unfold World.var? at hv
    rw [hg] at hv
    simp [Array.getElem?_eq_none h'] at hv
theorem rvars_below {w w' : World} (h : RVars w) (hb : Below w.heap.size w w') : RVars w' := by
  refine ⟨tab_later hb h.pow, ?_, ?_, ?_⟩
  · obtain ⟨tp, p, hv⟩ := h.syn
    exact ⟨tp, p, var_later (g := 2) (by kernel_rfl) hb hv⟩
  · obtain ⟨tp, p, hv⟩ := h.rng
    exact ⟨tp, p, var_later (g := 3) (by kernel_rfl) hb hv⟩
  · obtain ⟨m, h1, h2⟩ := h.mx
    exact ⟨m, (hb.cell (p := ⟨1, 0, none⟩) h2).trans h1, Nat.lt_of_lt_of_le h2 hb.size⟩
def nilB : ByteArray := ⟨#[36, 45, 49, 13, 10]⟩
def txt (x : ByteArray) : ValD := ⟨1, 0, x, []⟩
def getF (T : List EntD) (k : ByteArray) : ByteArray × Option ByteArray :=
  match (lookK T k 1).2.2 with
  | some e => (⟨#[]⟩, some e)
  | none => (if (lookK T k 1).2.1 = true then bulkB (lookK T k 1).1.text else nilB, none)
theorem look_small {T : List EntD} (hT : TabR T) (k : ByteArray) (kind : Int) : EntS 1048576 ⟨⟨#[]⟩, (lookK T k kind).1⟩ := by
  unfold lookK
  cases h : findE T k with
  | none => exact ⟨Nat.zero_le 1048576, Nat.zero_le 1048576, Nat.zero_le 1048576, fun s hs => by cases hs⟩
  | some v =>
    by_cases hk : v.kind = kind
    · simp only [hk, if_pos]
      have := tab_ents hT _ ((findE_iff (tab_pw hT) k v).1 h)
      exact ⟨Nat.zero_le 1048576, this.2⟩
    · simp only [if_neg hk]
      exact ⟨Nat.zero_le 1048576, Nat.zero_le 1048576, Nat.zero_le 1048576, fun s hs => by cases hs⟩
theorem get_any (T : List EntD) (key : ByteArray) (w : World) (B b : Nat) (tb : TypeId) (hT : TabR T) (hW : WorkS tb w B b T) (hv : RVars w) :
    Calls Tryz.prog 68 #[.pointer (some ⟨b, 0, none⟩), .string key] w fun e w' => e = .returned (.tuple #[.string (getF T key).1, errV (getF T key).2]) ∧ Below w.heap.size w w' := by
  have HF := hide (find_any T key 1 w B b tb hT hW)
  have HTP := hide hv
  have hsz := (look_small hT key 1).2.1
  have HG : Hid (getF T key = match (lookK T key 1).2.2 with | some e => (⟨#[]⟩, some e) | none => (if (lookK T key 1).2.1 = true then bulkB (lookK T key 1).1.text else nilB, none)) := rfl
  clear hT hW hv
  generalize getF T key = G at HG ⊢
  generalize lookK T key 1 = r at HF HG hsz
  obtain ⟨⟨k, u, t, ts⟩, th, er⟩ := r
  simp only [valC] at HF HG hsz
  cases er with
  | some x =>
    have hG := HG.out
    simp only at hG
    subst hG
    simp only [errV] at HF ⊢
    go_enter Tryz.func68, Tryz.ntmps68
    go_wp2_with fail
    refine HF.out.mono ?_
    rintro e w1 ⟨⟨a1, c1, rfl, -⟩, b1⟩
    go_wp2
    go_ret2
    exact ⟨rfl, b1.alloc b1.size _⟩
  | none =>
    have hG := HG.out
    simp only at hG
    subst hG
    simp only [errV] at HF ⊢
    cases th with
    | false =>
      have HN := hide (fun W (h : Below w.heap.size w W) => implNil_any W (rvars_below HTP.out h).pow)
      go_enter Tryz.func68, Tryz.ntmps68
      go_wp2_with fail
      refine HF.out.mono ?_
      rintro e w1 ⟨⟨a1, c1, rfl, -⟩, b1⟩
      have B1 := hide b1
      clear b1
      go_wp2_with fail
      have B2 := hide (B1.out.alloc B1.out.size (.cells #[.int .i64 k, .int .i64 u, .string t, .slice a1 ts.length c1] 38))
      refine (HN.out _ B2.out).mono ?_
      rintro e w2 ⟨rfl, b2⟩
      have B3 := hide (B2.out.trans (b2.mono B2.out.size))
      clear b2
      go_wp2
      go_ret2
      exact ⟨rfl, B3.out⟩
    | true =>
      have HN := hide (fun W (h : Below w.heap.size w W) => implBulk_any t W hsz (rvars_below HTP.out h).pow)
      go_enter Tryz.func68, Tryz.ntmps68
      go_wp2_with fail
      refine HF.out.mono ?_
      rintro e w1 ⟨⟨a1, c1, rfl, -⟩, b1⟩
      have B1 := hide b1
      clear b1
      go_wp2_with fail
      have B2 := hide (B1.out.alloc B1.out.size (.cells #[.int .i64 k, .int .i64 u, .string t, .slice a1 ts.length c1] 38))
      refine (HN.out _ B2.out).mono ?_
      rintro e w2 ⟨rfl, b2⟩
      have B3 := hide (B2.out.trans (b2.mono B2.out.size))
      clear b2
      go_wp2
      go_ret2
      exact ⟨rfl, B3.out⟩
theorem set_any (T : List EntD) (key x : ByteArray) (w : World) (B b : Nat) (tb : TypeId) (htb : (tb == 40) = false) (htb9 : (tb == 9) = false) (hT : TabR T) (hW : WorkS tb w B b T) (hB : B ≤ w.heap.size) (hk : key.size ≤ 1048576) (hx : x.size ≤ 1048576) :
    Calls Tryz.prog 70 #[.pointer (some ⟨b, 0, none⟩), .string key, .string x] w fun e w' => e = .returned (errV (putErr (putT T key (txt x)))) ∧ WorkS tb w' B b (putT T key (txt x)) ∧ Below B w w' := by
  have HP := hide (put_any T ⟨key, txt x⟩ none 0 w B b tb htb htb9 hT ⟨hk, hx, Nat.zero_le _, fun s hs => by cases hs⟩ (fun j hj => absurd hj (Nat.not_lt_zero j)) hW hB)
  clear hT hW
  simp only [txt, List.length_nil] at HP
  go_enter Tryz.func70, Tryz.ntmps70
  go_wp2_with fail
  refine HP.out.mono ?_
  rintro e w1 ⟨rfl, h1, h2⟩
  go_wp2
  go_ret
  exact ⟨rfl, h1, h2⟩
def DoP (tb : TypeId) (B b : Nat) (w : World) (r : ByteArray) (er : Option ByteArray) (T2 : List EntD) (e : Ending) (w' : World) : Prop := e = .returned (.tuple #[.string r, errV er]) ∧ WorkS tb w' B b T2 ∧ Below B w w'
noncomputable def setNewF (T : List EntD) (key x : ByteArray) : ByteArray × Option ByteArray × List EntD :=
  if findB T key = true then (hdB ⟨#[58]⟩ 0, none, T) else (hdB ⟨#[58]⟩ 1, putErr (putT T key (txt x)), putT T key (txt x))
theorem setNew_any (T : List EntD) (key x : ByteArray) (w0 w : World) (b : Nat) (tb : TypeId) (htb : (tb == 40) = false) (htb9 : (tb == 9) = false) (hT : TabR T) (hW : WorkS tb w w0.heap.size b T) (hv : RVars w0) (h0 : Below w0.heap.size w0 w) (hk : key.size ≤ 1048576) (hx : x.size ≤ 1048576) :
    Calls Tryz.prog 71 #[.pointer (some ⟨b, 0, none⟩), .string key, .string x] w (DoP tb w0.heap.size b w (setNewF T key x).1 (setNewF T key x).2.1 (setNewF T key x).2.2) := by
  have HS := hide (fun W (h : Below w.heap.size w W) => set_any T key x W w0.heap.size b tb htb htb9 hT (workS_below hW h) (Nat.le_trans h0.size h.size) hk hx)
  have HN := hide (fun n W (hn : 0 ≤ n ∧ n ≤ 1) (h : Below w.heap.size w W) => implNumber_any n W (by omega) (by omega) (rvars_below hv (h0.trans (h.mono h0.size))).pow)
  have HW := hide (fun W (h : Below w.heap.size w W) => workS_below hW h)
  obtain ⟨hBb, v, E, hbv, hbuild⟩ := hW
  obtain ⟨ao, cap, rfl⟩ := buildE_form hbuild
  have hT20 := hT.1
  have HF := hide (implFind_any T key ao cap w (by omega) (rowEnt_rows (buildE_row hbuild)).2 (tab_ents hT))
  obtain ⟨xb, -⟩ := box1w hbv
  have hw0 := h0.size
  have HG : Hid (setNewF T key x = if findB T key = true then (hdB ⟨#[58]⟩ 0, none, T) else (hdB ⟨#[58]⟩ 1, putErr (putT T key (txt x)), putT T key (txt x))) := rfl
  clear hbuild hbv hT hv h0
  generalize setNewF T key x = G at HG ⊢
  generalize findV T key = V at HF
  generalize findB T key = fb at HF HG
  obtain ⟨k, u, t, ts⟩ := V
  simp only at HF
  go_enter Tryz.func71, Tryz.ntmps71
  go_wp2_with fail
  refine HF.out.mono ?_
  rintro e w1 ⟨⟨a1, c1, rfl, -⟩, b1⟩
  clear xb
  cases fb with
  | true =>
    have hG := HG.out
    rw [if_pos rfl] at hG
    subst hG
    have B2 := hide (b1.alloc b1.size (.cells #[.int .i64 k, .int .i64 u, .string t, .slice a1 ts.length c1] 38))
    clear b1
    go_wp2_with fail
    refine (HN.out 0 _ (by decide) B2.out).mono ?_
    rintro e w2 ⟨rfl, b2⟩
    have B3 := hide (B2.out.trans (b2.mono B2.out.size))
    have W3 := hide (HW.out _ B3.out)
    clear b2
    go_wp2
    go_ret2
    exact ⟨rfl, W3.out, B3.out.mono hw0⟩
  | false =>
    have hG := HG.out
    rw [if_neg (by decide)] at hG
    subst hG
    have B2 := hide (b1.alloc b1.size (.cells #[.int .i64 k, .int .i64 u, .string t, .slice a1 ts.length c1] 38))
    clear b1
    go_wp2_with fail
    refine (HN.out 1 _ (by decide) B2.out).mono ?_
    rintro e w2 ⟨rfl, b2⟩
    have B3 := hide (B2.out.trans (b2.mono B2.out.size))
    clear b2
    go_wp2_with fail
    refine (HS.out _ B3.out).mono ?_
    rintro e w3 ⟨rfl, s3, b3⟩
    have W3 := hide s3
    have B4 := hide ((B3.out.mono hw0).trans b3)
    clear b3 s3
    go_wp2
    go_ret2
    exact ⟨rfl, W3.out, B4.out⟩
noncomputable def getSetF (T : List EntD) (key x : ByteArray) : ByteArray × Option ByteArray × List EntD :=
  match (getF T key).2 with
  | some e => (⟨#[]⟩, some e, T)
  | none => ((getF T key).1, putErr (putT T key (txt x)), putT T key (txt x))
theorem getSet_any (T : List EntD) (key x : ByteArray) (w0 w : World) (b : Nat) (tb : TypeId) (htb : (tb == 40) = false) (htb9 : (tb == 9) = false) (hT : TabR T) (hW : WorkS tb w w0.heap.size b T) (hv : RVars w0) (h0 : Below w0.heap.size w0 w) (hk : key.size ≤ 1048576) (hx : x.size ≤ 1048576) :
    Calls Tryz.prog 72 #[.pointer (some ⟨b, 0, none⟩), .string key, .string x] w (DoP tb w0.heap.size b w (getSetF T key x).1 (getSetF T key x).2.1 (getSetF T key x).2.2) := by
  have HS := hide (fun W (h : Below w.heap.size w W) => set_any T key x W w0.heap.size b tb htb htb9 hT (workS_below hW h) (Nat.le_trans h0.size h.size) hk hx)
  have HW := hide (fun W (h : Below w.heap.size w W) => workS_below hW h)
  have HF := hide (get_any T key w w0.heap.size b tb hT hW (rvars_below hv h0))
  have hw0 := h0.size
  have HG : Hid (getSetF T key x = match (getF T key).2 with | some e => (⟨#[]⟩, some e, T) | none => ((getF T key).1, putErr (putT T key (txt x)), putT T key (txt x))) := rfl
  clear hT hv h0 hW
  generalize getSetF T key x = G at HG ⊢
  generalize getF T key = r at HF HG
  obtain ⟨rp, er⟩ := r
  simp only at HF HG
  cases er with
  | some y =>
    have hG := HG.out
    simp only at hG
    subst hG
    simp only [errV] at HF
    go_enter Tryz.func72, Tryz.ntmps72
    go_wp2_with fail
    refine HF.out.mono ?_
    rintro e w1 ⟨rfl, b1⟩
    have B1 := hide b1
    have W1 := hide (HW.out _ b1)
    clear b1
    go_wp2
    go_ret2
    exact ⟨rfl, W1.out, B1.out.mono hw0⟩
  | none =>
    have hG := HG.out
    simp only at hG
    subst hG
    simp only [errV] at HF
    go_enter Tryz.func72, Tryz.ntmps72
    go_wp2_with fail
    refine HF.out.mono ?_
    rintro e w1 ⟨rfl, b1⟩
    have B1 := hide b1
    clear b1
    go_wp2_with fail
    refine (HS.out _ B1.out).mono ?_
    rintro e w3 ⟨rfl, s3, b3⟩
    have W3 := hide s3
    have B4 := hide ((B1.out.mono hw0).trans b3)
    clear b3 s3
    go_wp2
    go_ret2
    exact ⟨rfl, W3.out, B4.out⟩
theorem box_text {W : World} {q : Nat} {k u t x t2 : Value} {ty : TypeId} (h : W.heap[q]? = some (.cells #[k, u, t, x] ty (0, 0))) : (W.setCell ⟨q, 2, none⟩ t2).heap[q]? = some (.cells #[k, u, t2, x] ty (0, 0)) := (heap_setCell_same W q 2 _ ty _ h).trans rfl
theorem length_any (T : List EntD) (key : ByteArray) (w : World) (B b : Nat) (tb : TypeId) (hT : TabR T) (hW : WorkS tb w B b T) (hv : RVars w) :
    Calls Tryz.prog 74 #[.pointer (some ⟨b, 0, none⟩), .string key] w fun e w' => e = .returned (.tuple #[.string (hdB ⟨#[58]⟩ (lookK T key 1).1.text.size), errV (lookK T key 1).2.2]) ∧ Below w.heap.size w w' := by
  have HF := hide (find_any T key 1 w B b tb hT hW)
  have hsz := (look_small hT key 1).2.1
  have HTP := hide hv
  clear hT hW hv
  generalize lookK T key 1 = r at HF hsz ⊢
  obtain ⟨⟨k, u, t, ts⟩, th, er⟩ := r
  simp only [valC] at HF hsz ⊢
  have HN := hide (fun W (h : Below w.heap.size w W) => implNumber_any (t.size : Int) W (by omega) (by omega) (rvars_below HTP.out h).pow)
  go_enter Tryz.func74, Tryz.ntmps74
  go_wp2_with fail
  refine HF.out.mono ?_
  rintro e w1 ⟨⟨a1, c1, rfl, -⟩, b1⟩
  have B2 := hide (b1.alloc b1.size (.cells #[.int .i64 k, .int .i64 u, .string t, .slice a1 ts.length c1] 38))
  clear b1
  cases er with
  | none =>
    simp only [errV]
    go_wp2_with fail
    refine (HN.out _ B2.out).mono ?_
    rintro e w2 ⟨rfl, b2⟩
    have B3 := hide (B2.out.trans (b2.mono B2.out.size))
    clear b2
    go_wp2
    go_ret2
    exact ⟨rfl, B3.out⟩
  | some y =>
    simp only [errV]
    go_wp2_with fail
    refine (HN.out _ B2.out).mono ?_
    rintro e w2 ⟨rfl, b2⟩
    have B3 := hide (B2.out.trans (b2.mono B2.out.size))
    clear b2
    go_wp2
    go_ret2
    exact ⟨rfl, B3.out⟩
theorem asItIs_any (t : ByteArray) (w : World) : Calls Tryz.prog 116 #[.string t] w fun e w' => e = .returned (.tuple #[.string t, .bool true]) ∧ w' = w := by
  go_enter Tryz.func116, Tryz.ntmps116
  go_wp2
  go_ret2
  exact ⟨rfl, rfl⟩
theorem countedS_any (k u : Int) (t more : ByteArray) (x : Value) (th : Bool) (w : World) (hx : ∃ a n c, x = .slice a n c) (ht : t.size ≤ 1048576) (hm : more.size ≤ 1048576) :
    Calls Tryz.prog 115 #[.agg #[.int .i64 k, .int .i64 u, .string t, x], .bool th, .func (.func 116) #[] #[], .string more] w fun e w' => e = .returned (.tuple #[.string ((if th = true then t else ⟨#[]⟩) ++ more), .bool true]) ∧ Below w.heap.size w w' := by
  obtain ⟨a, n, c, rfl⟩ := hx
  cases th with
  | true =>
    have hl : t.size + more.size ≤ 9223372036854775807 := by omega
    go_enter Tryz.func115, Tryz.ntmps115
    go_wp2_with fail
    refine (asItIs_any _ _).mono ?_
    rintro e w1 ⟨rfl, rfl⟩
    go_wp2
    go_ret2
    exact ⟨rfl, (Below.refl _ w).alloc (Nat.le_refl _) _⟩
  | false =>
    go_enter Tryz.func115, Tryz.ntmps115
    go_wp2
    go_ret2
    exact ⟨rfl, (Below.refl _ w).alloc (Nat.le_refl _) _⟩
noncomputable def addF (T : List EntD) (key more : ByteArray) : ByteArray × Option ByteArray × List EntD :=
  match (lookK T key 1).2.2 with
  | some e => (⟨#[]⟩, some e, T)
  | none =>
    (hdB ⟨#[58]⟩ ((if (lookK T key 1).2.1 = true then (lookK T key 1).1.text else ⟨#[]⟩) ++ more).size,
     putErr (putT T key ⟨(lookK T key 1).1.kind, (lookK T key 1).1.til, (if (lookK T key 1).2.1 = true then (lookK T key 1).1.text else ⟨#[]⟩) ++ more, (lookK T key 1).1.items⟩),
     putT T key ⟨(lookK T key 1).1.kind, (lookK T key 1).1.til, (if (lookK T key 1).2.1 = true then (lookK T key 1).1.text else ⟨#[]⟩) ++ more, (lookK T key 1).1.items⟩)
theorem look_text {T : List EntD} (hT : TabR T) (k : ByteArray) (h : (lookK T k 1).2.2 = none) : (lookK T k 1).1.text.size ≤ 60 ∧ (lookK T k 1).1.items = [] := by
  unfold lookK at h ⊢
  cases hf : findE T k with
  | none => exact ⟨Nat.zero_le 60, rfl⟩
  | some v =>
    simp only [hf] at h ⊢
    by_cases hk : v.kind = 1
    · simp only [hk, if_pos]
      obtain ⟨-, -, -, h3⟩ := tab_all hT _ ((findE_iff (tab_pw hT) k v).1 hf)
      rcases h3 with ⟨-, h4, h5⟩ | ⟨h4, -⟩ | ⟨h4, -⟩ | ⟨h4, -⟩
      · exact ⟨h5, List.eq_nil_of_length_eq_zero h4⟩
      all_goals (simp only at h4; omega)
    · rw [if_neg hk] at h
      cases h
theorem add_any (T : List EntD) (key more : ByteArray) (w0 w : World) (b : Nat) (tb : TypeId) (htb : (tb == 40) = false) (htb9 : (tb == 9) = false) (hT : TabR T) (hW : WorkS tb w w0.heap.size b T) (hv : RVars w0) (h0 : Below w0.heap.size w0 w) (hk : key.size ≤ 1048576) (hm : more.size ≤ 1000000) :
    Calls Tryz.prog 73 #[.pointer (some ⟨b, 0, none⟩), .string key, .string more] w (DoP tb w0.heap.size b w (addF T key more).1 (addF T key more).2.1 (addF T key more).2.2) := by
  have HT := hide hT
  have HLT := hide (look_text hT key)
  have HF := hide (find_any T key 1 w w0.heap.size b tb hT hW)
  have HW := hide (fun W (h : Below w.heap.size w W) => workS_below hW h)
  have HN := hide (fun (n : Int) W (h1 : -9223372036854775808 ≤ n) (h2 : n ≤ 9223372036854775807) (h : Below w.heap.size w W) => implNumber_any n W h1 h2 (rvars_below hv (h0.trans (h.mono h0.size))).pow)
  have hw0 := h0.size
  have hsz := (look_small hT key 1).2.1
  have HG : Hid (addF T key more = match (lookK T key 1).2.2 with
    | some e => (⟨#[]⟩, some e, T)
    | none =>
      (hdB ⟨#[58]⟩ ((if (lookK T key 1).2.1 = true then (lookK T key 1).1.text else ⟨#[]⟩) ++ more).size,
       putErr (putT T key ⟨(lookK T key 1).1.kind, (lookK T key 1).1.til, (if (lookK T key 1).2.1 = true then (lookK T key 1).1.text else ⟨#[]⟩) ++ more, (lookK T key 1).1.items⟩),
       putT T key ⟨(lookK T key 1).1.kind, (lookK T key 1).1.til, (if (lookK T key 1).2.1 = true then (lookK T key 1).1.text else ⟨#[]⟩) ++ more, (lookK T key 1).1.items⟩)) := rfl
  clear hT hW hv h0
  generalize addF T key more = G at HG ⊢
  generalize lookK T key 1 = r at HF HG hsz HLT
  obtain ⟨⟨k, u, t, ts⟩, th, er⟩ := r
  simp only [valC] at HF HG hsz HLT
  cases er with
  | some y =>
    have hG := HG.out
    simp only at hG
    subst hG
    simp only [errV] at HF
    go_enter Tryz.func73, Tryz.ntmps73
    go_wp2_with fail
    refine HF.out.mono ?_
    rintro e w1 ⟨⟨a1, c1, rfl, -⟩, b1⟩
    have B2 := hide (b1.alloc b1.size (.cells #[.int .i64 k, .int .i64 u, .string t, .slice a1 ts.length c1] 38))
    have W2 := hide (HW.out _ B2.out)
    clear b1
    go_wp2
    go_ret2
    exact ⟨rfl, W2.out, B2.out.mono hw0⟩
  | none =>
    have hG := HG.out
    simp only at hG
    obtain ⟨ht60, hts⟩ := HLT.out rfl
    subst hts
    simp only [errV, List.length_nil] at HF
    have HCS := hide (fun W (x : Value) (hx : ∃ a n c, x = .slice a n c) => countedS_any k u t more x th W hx hsz (by omega))
    have hts2 : ((if th = true then t else ⟨#[]⟩) ++ more).size ≤ 1048576 := by
      rw [ByteArray.size_append]
      cases th with
      | true => rw [if_pos rfl]; omega
      | false =>
        rw [if_neg (by decide)]
        have : (⟨#[]⟩ : ByteArray).size = 0 := rfl
        omega
    generalize hx : (if th = true then t else ⟨#[]⟩) ++ more = tx at hG HCS hts2
    clear hx HG
    subst hG
    have HP := hide (fun W a c (hT2 : WorkS tb W w0.heap.size b T) (hB : w0.heap.size ≤ W.heap.size) => put_any T ⟨key, k, u, tx, []⟩ a c W w0.heap.size b tb htb htb9 HT.out ⟨hk, hts2, Nat.zero_le _, fun s hs => by cases hs⟩ (fun j hj => absurd hj (Nat.not_lt_zero j)) hT2 hB)
    simp only [List.length_nil] at HP
    go_enter Tryz.func73, Tryz.ntmps73
    go_wp2_with fail
    refine HF.out.mono ?_
    rintro e w1 ⟨⟨a1, c1, rfl, -⟩, b1⟩
    have B1 := hide b1
    clear b1
    go_upto_region 2 with fail
    obtain ⟨wB, hwB⟩ : ∃ wB, wB = w1.alloc (.cells #[.int .i64 k, .int .i64 u, .string t, .slice a1 0 c1] 38) := ⟨_, rfl⟩
    rw [← hwB]
    have BB : Hid (Below w1.heap.size w1 wB) := by rw [hwB]; exact (Below.refl _ w1).alloc (Nat.le_refl _) _
    have PB : Hid (wB.heap[w1.heap.size]? = some (.cells #[.int .i64 k, .int .i64 u, .string t, .slice a1 0 c1] 38 (0, 0))) := by rw [hwB]; exact heap_alloc_new _ _
    clear hwB
    have hq := B1.out.size
    obtain ⟨y0, y1, y2, y3⟩ := box4w PB.out
    go_wp2_with fail
    refine (HCS.out wB _ ⟨a1, 0, c1, rfl⟩).mono ?_
    rintro e w2 ⟨rfl, b2⟩
    have B2 := hide (B1.out.trans ((BB.out.trans (b2.mono BB.out.size)).mono hq))
    have P2 := hide ((b2.block _ (obj_lt PB.out)).trans PB.out)
    clear b2 y0 y1 y2 y3
    obtain ⟨z0, z1, z2, z3⟩ := box4w P2.out
    obtain ⟨f0, f1, f2, f3⟩ := box4f P2.out
    have P3 := hide (box_text (t2 := .string tx) P2.out)
    have B3 := hide (B2.out.setCell (p := ⟨w1.heap.size, 2, none⟩) hq (.string tx))
    go_upto_region 5 with fail
    generalize w2.setCell ⟨w1.heap.size, 2, none⟩ (.string tx) = w3 at P3 B3 ⊢
    clear z0 z1 z2 z3 f0 f1 f2 f3
    have KQ := hide (fun X (hX : Below w3.heap.size w3 X) => box4w ((hX.block _ (obj_lt P3.out)).trans P3.out))
    have hb3 := B3.out.size
    obtain ⟨x0, x1, x2, x3⟩ := KQ.out _ (Below.refl _ _)
    go_region_law (first | (go_simp; go_at_call 114; go_loud (refine (HN.out tx.size _ (by omega) (by omega) (B3.out.trans ((Below.refl _ w3).drew.mono hb3))).mono ?_; rintro e w4 ⟨rfl, b4⟩; have E4 : Hid (Below w3.heap.size w3 w4) := (Below.refl _ w3).drew.trans b4; obtain ⟨v0, v1, v2, v3⟩ := KQ.out _ E4.out; clear b4)) | (go_simp; go_at_call 112; go_loud (refine (HP.out _ _ _ (HW.out _ (B3.out.trans (E4.out.mono hb3))) (Nat.le_trans hw0 (Nat.le_trans hb3 E4.out.size))).mono ?_; rintro e w5 ⟨rfl, s5, b5⟩; have W5 := hide s5; have B5 := hide (((B3.out.trans (E4.out.mono hb3)).mono hw0).trans b5); clear s5 b5)))
    all_goals go_wp2
    all_goals go_ret2
    all_goals exact ⟨rfl, W5.out, B5.out⟩
end Go.Proofs.YtifjneldjjmeaaaGreatDoor
