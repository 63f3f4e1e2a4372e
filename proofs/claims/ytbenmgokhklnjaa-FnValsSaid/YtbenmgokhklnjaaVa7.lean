import Derived.Lib.Strings
import Derived.Lib.Walk
import Derived.Lib.BufferWrite
import Derived.Lib.UnsafeStr
import Derived.Laws.MakeOwn
import Derived.Test.YtbenmgokhklnjaaVa6
import Derived.Test.YtbenmgokhklnjaaVa2
import Derived.Test.YtbenmgokhklnjaaVa0
set_option maxRecDepth 100000
set_option maxHeartbeats 1000000
namespace Go.Proofs.Ytbenmgokhklnjaa
open Go.RowKit
theorem rvF_text (s : ByteArray) (i a b : Nat) : ∀ f p k q n, p = i + k → f + k = 5 → q = 128 ^ k → n = Wd.valF s i k → (∀ j, j < k → 128 ≤ Wd.bt s (i + j)) → Wd.rvF s f p k q n = some (a, b) → ∃ m, b = i + (m + 1) ∧ Wd.varF 5 a = Wd.subF s i (m + 1) ∧ b ≤ s.size := by
  intro f
  induction f with
  | zero => intro p k q n _ _ _ _ _ h; simp [Wd.rvF] at h
  | succ f ih =>
    intro p k q n hp hf hq hn hall h
    by_cases h1 : p < s.size
    · by_cases h2 : Wd.bt s p < 128
      · by_cases h3 : n + Wd.bt s p % 128 * q ≤ 1000000000 ∧ (0 < Wd.bt s p ∨ k = 0)
        · rw [Wd.rvF_last s f p k q n h1 h2 h3.1 h3.2] at h
          simp only [Option.some.injEq, Prod.mk.injEq] at h
          obtain ⟨rfl, rfl⟩ := h
          subst hp hq hn
          rw [← Wd.valF_snoc]
          exact ⟨k, by omega, (Wd.canonF s k i 5 hall h2 (by omega)).2 h3.2, h1⟩
        · rw [Wd.rvF_not s f p k q n h2 h3] at h; simp at h
      · rw [Wd.rvF_more s f p k q n h1 h2] at h
        refine ih (p + 1) (k + 1) (q * 128) _ (by omega) (by omega) (by rw [hq, Nat.pow_succ]) (by subst hp hq hn; rw [Wd.valF_snoc]) ?_ h
        intro j hj
        by_cases hjk : j < k
        · exact hall j hjk
        · have : j = k := by omega
          subst this
          rw [← hp]
          omega
    · rw [Wd.rvF_end s _ p k q n h1] at h; simp at h
theorem take_cut (t : ByteArray) (i k : Nat) : t.data.toList.take (i + k) = t.data.toList.take i ++ (t.extract i (i + k)).data.toList := by
  rw [ByteArray.data_extract, Array.toList_extract, List.extract_eq_take_drop, Nat.add_sub_cancel_left, List.take_add]
theorem rv_text {t : ByteArray} {i a b : Nat} (h : Wd.rv t i = some (a, b)) : t.data.toList.take b = t.data.toList.take i ++ Wd.varF 5 a := by
  obtain ⟨m, rfl, h2, h3⟩ := rvF_text t i a b 5 i 0 1 0 rfl rfl rfl rfl (fun j hj => absurd hj (by omega)) h
  rw [take_cut t i (m + 1), Wd.subF_extract t i (m + 1) h3, h2]
def shI (t : ByteArray) (i : Nat) : Option (ByteArray × Nat) :=
  match Wd.rv t i with
  | none => none
  | some (n, p) => if n ≤ 20000 ∧ p + n ≤ t.size then some (t.extract p (p + n), p + n) else none
theorem shI_yes {t : ByteArray} {i n p : Nat} (h : Wd.rv t i = some (n, p)) (h1 : n ≤ 20000) (h2 : p + n ≤ t.size) : shI t i = some (t.extract p (p + n), p + n) := by
  unfold shI; rw [h]; simp only; rw [if_pos ⟨h1, h2⟩]
theorem shI_no {t : ByteArray} {i n p : Nat} (h : Wd.rv t i = some (n, p)) (h1 : 20000 < n ∨ t.size < p + n) : shI t i = none := by
  unfold shI; rw [h]; simp only; rw [if_neg (by omega)]
theorem shI_none {t : ByteArray} {i : Nat} (h : Wd.rv t i = none) : shI t i = none := by
  unfold shI; rw [h]
theorem shI_text {t : ByteArray} {i e : Nat} {s : ByteArray} (h : shI t i = some (s, e)) : t.data.toList.take e = t.data.toList.take i ++ (shortB s).data.toList ∧ i < e ∧ e ≤ t.size ∧ s.size ≤ 20000 ∧ s.size ≤ t.size := by
  cases hr : Wd.rv t i with
  | none => rw [shI_none hr] at h; cases h
  | some x =>
    obtain ⟨n, p⟩ := x
    have hb := Wd.rv_bounds t i n p hr
    by_cases hc : n ≤ 20000 ∧ p + n ≤ t.size
    · rw [shI_yes hr hc.1 hc.2] at h
      simp only [Option.some.injEq, Prod.mk.injEq] at h
      obtain ⟨rfl, rfl⟩ := h
      have hsz : (t.extract p (p + n)).size = n := by rw [ByteArray.size_extract]; omega
      refine ⟨?_, by omega, hc.2, by omega, by omega⟩
      rw [take_cut t p n, rv_text hr, shortB_list, hsz, List.append_assoc]
    · rw [shI_no hr (by omega)] at h; cases h
theorem take_one (t : ByteArray) (p : Nat) (h : p < t.size) : t.data.toList.take (p + 1) = t.data.toList.take p ++ [UInt8.ofNat (Wd.bt t p)] := by
  rw [take_cut t p 1, Wd.subF_extract t p 1 h]
  rfl
theorem rv_at {t : ByteArray} (a b : List UInt8) (n : Nat) (hn : n ≤ 1000000000) (ht : t = ⟨(a ++ Wd.varF 5 n ++ b).toArray⟩) : Wd.rv t a.length = some (n, a.length + (Wd.varF 5 n).length) := by
  have h := rvI_at a b n hn (a.length : Int) rfl
  have hs : (⟨(a ++ Wd.varF 5 n ++ b).toArray⟩ : ByteArray).size = a.length + (Wd.varF 5 n).length + b.length := by
    show (a ++ Wd.varF 5 n ++ b).length = _
    rw [List.length_append, List.length_append]
  unfold Wd.rvI at h
  rw [if_neg (by rw [hs]; omega), Int.toNat_natCast, ← ht] at h
  exact h
theorem cut_list {t : ByteArray} (a b : List UInt8) (s : ByteArray) (ht : t = ⟨(a ++ s.data.toList ++ b).toArray⟩) : t.extract a.length (a.length + s.size) = s ∧ a.length + s.size ≤ t.size := by
  have hl : s.data.toList.length = s.size := rfl
  have hs : t.size = a.length + s.size + b.length := by
    rw [ht]
    show (a ++ s.data.toList ++ b).length = _
    rw [List.length_append, List.length_append, hl]
  have h := takeC_at a b s ht
  unfold takeC at h
  rw [if_neg (by simp; omega)] at h
  exact ⟨(Prod.mk.inj h).1, by omega⟩
theorem shI_at {t : ByteArray} (a b : List UInt8) (s : ByteArray) (hs : s.size ≤ 20000) (ht : t = ⟨(a ++ (shortB s).data.toList ++ b).toArray⟩) : shI t a.length = some (s, a.length + (shortB s).size) := by
  rw [shortB_list] at ht
  have h1 := rv_at (t := t) a (s.data.toList ++ b) s.size (by omega) (by rw [ht]; simp only [List.append_assoc])
  obtain ⟨h2, h3⟩ := cut_list (t := t) (a ++ Wd.varF 5 s.size) b s (by rw [ht]; simp only [List.append_assoc])
  rw [List.length_append] at h2 h3
  rw [shI_yes h1 hs h3, h2, shortB_len, Nat.add_assoc]
def noVal : ValD := ⟨0, 0, ⟨#[]⟩, []⟩
def itsC (t : ByteArray) : Nat → Nat → Bool → List ByteArray → List ByteArray × Bool
  | 0, _, bad, acc => (acc, bad)
  | _ + 1, _, true, acc => (acc, true)
  | f + 1, i, false, acc => itsC t f (shortC t i false).2.1 (shortC t i false).2.2 (acc ++ [(shortC t i false).1])
theorem itsC_bad (t : ByteArray) (f i : Nat) (acc : List ByteArray) : itsC t f i true acc = (acc, true) := by cases f <;> rfl
def rvRaw (t : ByteArray) : ValD × Bool :=
  let b := varC t 1 false
  let c := shortC t b.2.1 b.2.2
  let d := varC t c.2.1 c.2.2
  let r := itsC t (min d.1 100) d.2.1 d.2.2 []
  (⟨(Wd.bt t 0 : Nat), (b.1 : Nat), c.1, r.1⟩, r.2)
def RvOk (t : ByteArray) : Prop := 0 < t.size ∧ (rvRaw t).2 = false ∧ ValR (rvRaw t).1 ∧ valT (rvRaw t).1 = t
def itI (t : ByteArray) : Nat → Nat → List ByteArray → Option (List ByteArray × Nat)
  | 0, i, acc => some (acc, i)
  | n + 1, i, acc =>
    match shI t i with
    | none => none
    | some (s, p) => itI t n p (acc ++ [s])
def itsI (t : ByteArray) (i : Nat) : Option (List ByteArray × Nat) :=
  match Wd.rv t i with
  | none => none
  | some (n, p) => if n ≤ 24 then itI t n p [] else none
def looI (t : ByteArray) : Option ValD :=
  if 0 < t.size then
    (match Wd.rv t 1 with
    | none => none
    | some (u, p) =>
      match shI t p with
      | none => none
      | some (s, p2) =>
        match itsI t p2 with
        | none => none
        | some (ts, e) => if e = t.size then some ⟨(Wd.bt t 0 : Nat), (u : Nat), s, ts⟩ else none)
  else none
theorem itI_text {t : ByteArray} : ∀ (n i : Nat) (acc : List ByteArray) (cs : List ByteArray) (e : Nat), itI t n i acc = some (cs, e) → i ≤ t.size → ∃ ns, cs = acc ++ ns ∧ ns.length = n ∧ t.data.toList.take e = t.data.toList.take i ++ textsL ns ∧ e ≤ t.size ∧ ∀ s ∈ ns, s.size ≤ t.size
  | 0, i, acc, cs, e, h, hi => by
    simp only [itI, Option.some.injEq, Prod.mk.injEq] at h
    obtain ⟨rfl, rfl⟩ := h
    exact ⟨[], by simp, rfl, by simp [textsL], hi, fun s hs => absurd hs List.not_mem_nil⟩
  | n + 1, i, acc, cs, e, h, hi => by
    unfold itI at h
    cases h1 : shI t i with
    | none => rw [h1] at h; cases h
    | some x =>
      obtain ⟨A, p⟩ := x
      rw [h1] at h
      obtain ⟨a1, a2, a3, a4, a5⟩ := shI_text h1
      obtain ⟨ns, rfl, c2, c3, c4, c5⟩ := itI_text n p (acc ++ [A]) cs e h a3
      refine ⟨A :: ns, by simp, by simp [c2], by rw [c3, a1, textsL, List.append_assoc], c4, fun s hs => ?_⟩
      rcases List.mem_cons.1 hs with rfl | hs
      · exact a5
      · exact c5 s hs
theorem bt_lt (t : ByteArray) (p : Nat) : Wd.bt t p < 256 := by
  unfold Wd.bt
  split
  · exact UInt8.toNat_lt _
  · omega
theorem headV_list (v : ValD) : (headV v).data.toList = [UInt8.ofNat v.kind.toNat] ++ Wd.varF 5 v.til.toNat ++ (shortB v.text).data.toList ++ Wd.varF 5 v.items.length := by
  unfold headV
  rw [ByteArray.data_append, ByteArray.data_append, ByteArray.data_append, Array.toList_append, Array.toList_append, Array.toList_append]
theorem looI_text {t : ByteArray} {v : ValD} (h : looI t = some v) : valT v = t ∧ 0 < t.size ∧ v.text.size ≤ t.size ∧ v.items.length ≤ 24 ∧ ∀ s ∈ v.items, s.size ≤ t.size := by
  unfold looI at h
  by_cases hc : 0 < t.size
  · rw [if_pos hc] at h
    cases h1 : Wd.rv t 1 with
    | none => rw [h1] at h; cases h
    | some x =>
      obtain ⟨u, p⟩ := x
      rw [h1] at h
      simp only at h
      cases h2 : shI t p with
      | none => rw [h2] at h; cases h
      | some y =>
        obtain ⟨s, p2⟩ := y
        rw [h2] at h
        simp only at h
        obtain ⟨a1, a2, a3, a4, a5⟩ := shI_text h2
        cases h3 : itsI t p2 with
        | none => rw [h3] at h; cases h
        | some z =>
          obtain ⟨ts, e⟩ := z
          rw [h3] at h
          simp only at h
          by_cases he : e = t.size
          · rw [if_pos he] at h
            obtain rfl := Option.some.inj h
            unfold itsI at h3
            cases h4 : Wd.rv t p2 with
            | none => rw [h4] at h3; cases h3
            | some q =>
              obtain ⟨n, p3⟩ := q
              rw [h4] at h3
              simp only at h3
              by_cases hn : n ≤ 24
              · rw [if_pos hn] at h3
                have hb := Wd.rv_bounds t p2 n p3 h4
                obtain ⟨ns, c1, c2, c3, c4, c5⟩ := itI_text n p3 [] ts e h3 hb.2.2
                rw [List.nil_append] at c1
                subst c1
                refine ⟨?_, hc, a5, by show ts.length ≤ 24; omega, c5⟩
                have h0 := take_one t 0 hc
                rw [he, List.take_of_length_le (show t.data.toList.length ≤ t.size from Nat.le_refl _), rv_text h4, a1, rv_text h1, show (1 : Nat) = 0 + 1 from rfl, h0, List.take_zero] at c3
                apply ByteArray.ext
                unfold valT
                rw [headV_list]
                apply Array.toList_inj.1
                show _ = t.data.toList
                rw [c3]
                simp only [Int.toNat_natCast, c2, List.nil_append, List.append_assoc]
              · rw [if_neg hn] at h3; cases h3
          · rw [if_neg he] at h; cases h
  · rw [if_neg hc] at h; cases h
theorem itI_at {t : ByteArray} : ∀ (fs : List ByteArray) (a b : List UInt8) (acc : List ByteArray), (∀ s ∈ fs, s.size ≤ 20000) → t = ⟨(a ++ textsL fs ++ b).toArray⟩ → itI t fs.length a.length acc = some (acc ++ fs, a.length + (textsL fs).length)
  | [], a, b, acc, _, _ => by simp [itI, textsL]
  | A :: r, a, b, acc, hs, ht => by
    have hA := hs A (List.mem_cons_self ..)
    have h1 := shI_at (t := t) a (textsL r ++ b) A hA (by rw [ht]; simp only [textsL, List.append_assoc])
    have h2 := itI_at (t := t) r (a ++ (shortB A).data.toList) b (acc ++ [A]) (fun B hB => hs B (List.mem_cons_of_mem _ hB)) (by rw [ht]; simp only [textsL, List.append_assoc])
    have e1 : (shortB A).data.toList.length = (shortB A).size := rfl
    rw [List.length_append, e1] at h2
    rw [List.length_cons]
    simp only [itI, h1]
    rw [h2]
    simp [textsL, e1, Nat.add_assoc]
theorem itsC_at {t : ByteArray} : ∀ (fs : List ByteArray) (a b : List UInt8) (acc : List ByteArray), (∀ s ∈ fs, s.size ≤ 20000) → t = ⟨(a ++ textsL fs ++ b).toArray⟩ → itsC t fs.length a.length false acc = (acc ++ fs, false)
  | [], a, b, acc, _, _ => by simp [itsC]
  | A :: r, a, b, acc, hs, ht => by
    have hA := hs A (List.mem_cons_self ..)
    have h1 := shortC_at (t := t) a (textsL r ++ b) A (by omega) (by rw [ht]; simp only [textsL, List.append_assoc])
    have h2 := itsC_at (t := t) r (a ++ (shortB A).data.toList) b (acc ++ [A]) (fun B hB => hs B (List.mem_cons_of_mem _ hB)) (by rw [ht]; simp only [textsL, List.append_assoc])
    have e1 : (shortB A).data.toList.length = (shortB A).size := rfl
    rw [List.length_append, e1] at h2
    rw [List.length_cons]
    simp only [itsC, h1]
    rw [h2]
    simp
theorem valT_read {v : ValD} (h : ValR v) : looI (valT v) = some v ∧ rvRaw (valT v) = (v, false) ∧ 0 < (valT v).size := by
  obtain ⟨g0, g1, g2, g3, g4, g5, g6⟩ := valR_bounds h
  obtain ⟨kd, u, tx, ts⟩ := v
  simp only at g0 g1 g2 g3 g4 g5 g6
  obtain ⟨m, rfl⟩ := Int.eq_ofNat_of_zero_le g2
  obtain ⟨q, rfl⟩ := Int.eq_ofNat_of_zero_le (show 0 ≤ kd by omega)
  obtain ⟨t, ht0⟩ : ∃ t, t = valT ⟨(q : Int), (m : Int), tx, ts⟩ := ⟨_, rfl⟩
  rw [← ht0]
  have ht := ht0
  unfold valT at ht
  rw [headV_list] at ht
  simp only [Int.toNat_natCast] at ht
  have k1 : Wd.bt t 0 = q := by
    rw [ht]
    rw [bt_here _ 0 (UInt8.ofNat q) rfl]
    simp only [UInt8.toNat_ofNat']
    omega
  have hpos : 0 < t.size := by rw [ht]; show 0 < ([UInt8.ofNat q] ++ Wd.varF 5 m ++ (shortB tx).data.toList ++ Wd.varF 5 ts.length ++ textsL ts).length; simp
  have hend : t.size = ([UInt8.ofNat q] ++ Wd.varF 5 m ++ (shortB tx).data.toList ++ Wd.varF 5 ts.length).length + (textsL ts).length := by
    rw [ht, ← List.length_append]; rfl
  have a2 := rv_at (t := t) [UInt8.ofNat q] ((shortB tx).data.toList ++ Wd.varF 5 ts.length ++ textsL ts) m (by omega) (by rw [ht]; simp only [List.append_assoc])
  have a3 := shI_at (t := t) ([UInt8.ofNat q] ++ Wd.varF 5 m) (Wd.varF 5 ts.length ++ textsL ts) tx (by omega) (by rw [ht]; simp only [List.append_assoc])
  have a4 := rv_at (t := t) ([UInt8.ofNat q] ++ Wd.varF 5 m ++ (shortB tx).data.toList) (textsL ts) ts.length (by omega) (by rw [ht])
  have a5 := itI_at (t := t) ts ([UInt8.ofNat q] ++ Wd.varF 5 m ++ (shortB tx).data.toList ++ Wd.varF 5 ts.length) [] [] (fun s hs => by have := g6 s hs; omega) (by rw [ht, List.append_nil])
  have b2 := varC_at (t := t) [UInt8.ofNat q] ((shortB tx).data.toList ++ Wd.varF 5 ts.length ++ textsL ts) m (by omega) (by rw [ht]; simp only [List.append_assoc])
  have b3 := shortC_at (t := t) ([UInt8.ofNat q] ++ Wd.varF 5 m) (Wd.varF 5 ts.length ++ textsL ts) tx (by omega) (by rw [ht]; simp only [List.append_assoc])
  have b4 := varC_at (t := t) ([UInt8.ofNat q] ++ Wd.varF 5 m ++ (shortB tx).data.toList) (textsL ts) ts.length (by omega) (by rw [ht])
  have b5 := itsC_at (t := t) ts ([UInt8.ofNat q] ++ Wd.varF 5 m ++ (shortB tx).data.toList ++ Wd.varF 5 ts.length) [] [] (fun s hs => by have := g6 s hs; omega) (by rw [ht, List.append_nil])
  rw [← hend] at a5
  have e1 : (shortB tx).data.toList.length = (shortB tx).size := rfl
  simp only [List.length_append, List.length_cons, List.length_nil, Nat.zero_add, List.nil_append, e1] at a2 a3 a4 a5 b2 b3 b4 b5
  refine ⟨?_, ?_, hpos⟩
  · unfold looI itsI
    rw [if_pos hpos, a2]
    simp only
    rw [a3]
    simp only
    rw [a4]
    simp only
    rw [if_pos g5, a5]
    simp only [k1, if_true]
  · unfold rvRaw
    simp only [b2, b3, b4]
    rw [Nat.min_eq_left (by omega), b5, k1]
theorem rvOk_iff (t : ByteArray) : RvOk t ↔ ∃ v, looI t = some v ∧ ValR v := by
  constructor
  · rintro ⟨-, -, h3, h4⟩
    have := valT_read h3
    rw [h4] at this
    exact ⟨_, this.1, h3⟩
  · rintro ⟨v, h1, h2⟩
    obtain ⟨h3, h4, -⟩ := looI_text h1
    have := (valT_read h2).2.1
    rw [h3] at this
    unfold RvOk
    rw [this]
    exact ⟨h4, rfl, h2, h3⟩
theorem rvOk_val {t : ByteArray} {v : ValD} (h1 : looI t = some v) (h2 : ValR v) : RvOk t ∧ (rvRaw t).1 = v := by
  refine ⟨(rvOk_iff t).2 ⟨v, h1, h2⟩, ?_⟩
  obtain ⟨h3, -, -⟩ := looI_text h1
  have := (valT_read h2).2.1
  rw [h3] at this
  rw [this]
theorem rvOk_not {t : ByteArray} {v : ValD} (h1 : looI t = some v) (h2 : ¬ ValR v) : ¬ RvOk t := by
  intro h
  obtain ⟨x, hx, hr⟩ := (rvOk_iff t).1 h
  rw [h1] at hx
  obtain rfl := Option.some.inj hx
  exact h2 hr
theorem rvOk_none {t : ByteArray} (h1 : looI t = none) : ¬ RvOk t := by
  intro h
  obtain ⟨x, hx, hr⟩ := (rvOk_iff t).1 h
  rw [h1] at hx
  cases hx
theorem implRead_out (s : ByteArray) (i : Int) (w : World) (hs : s.size ≤ maxLen) (h : i < 0 ∨ (s.size : Int) < i) :
    Calls Try.prog 66 #[.string s, .int .i64 i] w fun e w' => e = .returned (rvAns none) ∧ w' = w := by
  unfold maxLen at hs
  rcases h with h | h
  · go_enter Try.func66, Try.ntmps66
    go_wp2
    go_ret3
    exact ⟨rfl, rfl⟩
  · have h' : ¬ i < 0 := by omega
    go_enter Try.func66, Try.ntmps66
    go_wp2
    go_ret3
    exact ⟨rfl, rfl⟩
theorem implRead_in (s : ByteArray) (i : Nat) (w : World) (hs : s.size ≤ maxLen) (h : i ≤ s.size) :
    Calls Try.prog 66 #[.string s, .int .i64 i] w fun e w' => e = .returned (rvAns (Wd.rv s i)) ∧ w' = w := by
  unfold maxLen at hs
  have h0 : decide ((i : Int) < 0) = false := by simp
  have h1 : decide ((s.size : Int) < (i : Int)) = false := by simp; omega
  go_enter Try.func66, Try.ntmps66
  go_wp2
  go_loop [7, 8, 9] (fun n q p => ∃ k f Q m P : Nat, n = .int .i64 m ∧ q = .int .i64 Q ∧ p = .int .i64 P ∧ P ≤ s.size ∧ Hid (Wd.rv s i = Wd.rvF s f P k Q m) ∧ Hid (P = i + k) ∧ ((k = 0 ∧ f = 5 ∧ Q = 1 ∧ m = 0) ∨ (k = 1 ∧ f = 4 ∧ Q = 128 ∧ m < 128) ∨ (k = 2 ∧ f = 3 ∧ Q = 16384 ∧ m < 16384) ∨ (k = 3 ∧ f = 2 ∧ Q = 2097152 ∧ m < 2097152) ∨ (k = 4 ∧ f = 1 ∧ Q = 268435456 ∧ m < 268435456) ∨ (k = 5 ∧ f = 0 ∧ Q = 34359738368 ∧ m < 34359738368))) (fun _ _ p => s.size - (intOf p).toNat)
  case atStart => exact ⟨0, 5, 1, 0, i, rfl, rfl, rfl, h, rfl, rfl, .inl ⟨rfl, rfl, rfl, rfl⟩⟩
  case round =>
    obtain ⟨k, f, Q, m, P, rfl, rfl, rfl, hP, hrv, hPk, hcase⟩ := hrel
    by_cases hlt : P < s.size
    · obtain ⟨b, hB, hbt, hb256⟩ : ∃ b : Nat, Hid (Wd.bt s P = b) ∧ (s[P]'hlt).toNat = b ∧ b < 256 := ⟨_, rfl, Wd.bt_eq s P hlt, Wd.bt_lt s P⟩
      by_cases hb : b < 128
      · by_cases hz : 0 < b
        · have hz' : decide (0 < (b : Int)) = true := by simp; omega
          rcases hcase with ⟨rfl, rfl, rfl, rfl⟩ | ⟨rfl, rfl, rfl, hm⟩ | ⟨rfl, rfl, rfl, hm⟩ | ⟨rfl, rfl, rfl, hm⟩ | ⟨rfl, rfl, rfl, hm⟩ | ⟨rfl, rfl, rfl, hm⟩
          case inr.inr.inr.inr.inr =>
            have hfin : Hid (Wd.rv s i = none) := hrv.out.trans rfl
            go_wp2
            go_ret3
            rw [hfin.out]
            exact ⟨rfl, rfl⟩
          case inr.inr.inr.inr.inl =>
            by_cases hn : m + b % 128 * 268435456 ≤ 1000000000
            · have hfin := hide (hrv.out.trans (Wd.rvF_lastB hB.out hlt hb hn (.inl hz)))
              go_wp2
              go_ret3
              rw [hfin.out]
              exact ⟨ret3 (by omega) (by omega), rfl⟩
            · have hfin := hide (hrv.out.trans (Wd.rvF_notB hB.out hb (fun h => hn h.1)))
              go_wp2
              go_ret3
              rw [hfin.out]
              exact ⟨rfl, rfl⟩
          all_goals
            have hfin := hide (hrv.out.trans (Wd.rvF_lastB hB.out hlt hb (by omega) (.inl hz)))
            go_wp2
            go_ret3
            rw [hfin.out]
            exact ⟨ret3 (by omega) (by omega), rfl⟩
        · have hz' : decide (0 < (b : Int)) = false := by simp; omega
          rcases hcase with ⟨rfl, rfl, rfl, rfl⟩ | ⟨rfl, rfl, rfl, hm⟩ | ⟨rfl, rfl, rfl, hm⟩ | ⟨rfl, rfl, rfl, hm⟩ | ⟨rfl, rfl, rfl, hm⟩ | ⟨rfl, rfl, rfl, hm⟩
          case inr.inr.inr.inr.inr =>
            have hfin : Hid (Wd.rv s i = none) := hrv.out.trans rfl
            go_wp2
            go_ret3
            rw [hfin.out]
            exact ⟨rfl, rfl⟩
          case inl =>
            have hfin := hide (hrv.out.trans (Wd.rvF_lastB hB.out hlt hb (by omega) (.inr rfl)))
            have hpi : ((P : Int) == (i : Int)) = true := by have := hPk.out; simp; omega
            go_wp2
            go_ret3
            rw [hfin.out]
            exact ⟨ret3 (by omega) (by omega), rfl⟩
          all_goals
            have hfin := hide (hrv.out.trans (Wd.rvF_notB hB.out hb (fun h => by have := h.2; omega)))
            have hpi : ((P : Int) == (i : Int)) = false := by have := hPk.out; simp; omega
            go_wp2
            go_ret3
            rw [hfin.out]
            exact ⟨rfl, rfl⟩
      · rcases hcase with ⟨rfl, rfl, rfl, rfl⟩ | ⟨rfl, rfl, rfl, hm⟩ | ⟨rfl, rfl, rfl, hm⟩ | ⟨rfl, rfl, rfl, hm⟩ | ⟨rfl, rfl, rfl, hm⟩ | ⟨rfl, rfl, rfl, hm⟩
        case inr.inr.inr.inr.inr =>
          have hfin : Hid (Wd.rv s i = none) := hrv.out.trans rfl
          go_wp2
          go_ret3
          rw [hfin.out]
          exact ⟨rfl, rfl⟩
        all_goals
          have hmore := hide (hrv.out.trans (Wd.rvF_moreB hB.out hlt hb))
          go_wp2
          go_round
          case rel =>
            refine ⟨_, _, _, _, P + 1, ?_, ?_, by go_num, by omega, hmore, by have := hPk.out; show _ = _; omega, ?_⟩
            · go_num
            · go_num
            · simp; try omega
          case measure => simp [intOf]; omega
    · have hfin : Hid (Wd.rv s i = none) := hrv.out.trans (Wd.rvF_end _ _ _ _ _ _ hlt)
      go_wp2
      go_ret3
      rw [hfin.out]
      exact ⟨rfl, rfl⟩
theorem implRead_any (s : ByteArray) (i : Int) (w : World) (hs : s.size ≤ 1048576) :
    Calls Try.prog 66 #[.string s, .int .i64 i] w fun e w' => e = .returned (rvAns (Wd.rvI s i)) ∧ w' = w := by
  by_cases h : i < 0 ∨ (s.size : Int) < i
  · rw [show Wd.rvI s i = none from if_pos h]
    exact implRead_out s i w (by unfold maxLen; omega) h
  · rw [show Wd.rvI s i = Wd.rv s i.toNat from if_neg h]
    obtain ⟨k, rfl⟩ := Int.eq_ofNat_of_zero_le (show 0 ≤ i by omega)
    exact implRead_in s k w (by unfold maxLen; omega) (by omega)
theorem implRead_some (s : ByteArray) (i : Int) (w : World) (a b : Nat) (hs : s.size ≤ 1048576) (h : Wd.rvI s i = some (a, b)) :
    Calls Try.prog 66 #[.string s, .int .i64 i] w fun e w' => e = .returned (.tuple #[.int .i64 a, .int .i64 b, .bool true]) ∧ w' = w := by
  have := implRead_any s i w hs; rw [h] at this; exact this
theorem implRead_none (s : ByteArray) (i : Int) (w : World) (hs : s.size ≤ 1048576) (h : Wd.rvI s i = none) :
    Calls Try.prog 66 #[.string s, .int .i64 i] w fun e w' => e = .returned (.tuple #[.int .i64 0, .int .i64 0, .bool false]) ∧ w' = w := by
  have := implRead_any s i w hs; rw [h] at this; exact this
theorem cut_len (s : ByteArray) (p n : Nat) (h : p + n ≤ s.size) : ∀ W : World, (Instr.slice 9 (.string s) (some (.int .i64 (p : Int))) (some (.int .i64 ((p : Int) + (n : Int)))) none).run Try.prog W = .ok (.string (s.extract p (p + n))) W := by
  intro W
  have := run_slice_string (P := Try.prog) W 9 s .i64 .i64 (p : Int) ((p : Int) + (n : Int)) Try.underlying9 (by omega) (by omega) (by omega)
  rw [this, Int.toNat_natCast, show ((p : Int) + (n : Int)).toNat = p + n from by omega]
theorem clone_any (s : ByteArray) (w : World) (hs : s.size ≤ 1048576) :
    Calls Try.prog 87 #[.string s] w fun e w' => e = .returned (.string s) ∧ Below w.heap.size w w' := by
  by_cases h0 : s.size = 0
  · have e0 : s = ⟨#[]⟩ := ByteArray.ext (Array.eq_empty_of_size_eq_zero h0)
    subst e0
    go_enter Try.func87, Try.ntmps87
    go_wp2
    go_ret
    exact ⟨rfl, Below.refl _ _⟩
  · obtain ⟨i0, hi, hz0, hz1, hz2⟩ := info_parts Try.info5
    have hinfo : (Try.prog.info? 5).map (·.size) = some 1 := by rw [hi]; simp [hz1]
    obtain ⟨M, hM⟩ : ∃ M, M = madeCells (Value.int .u8 0).cells (((s.size : Nat) : Int).toNat * i0.size) := ⟨_, rfl⟩
    have hmk : ∀ W : World, (Instr.makeSlice 22 (.int .i64 (s.size : Int)) (.int .i64 (s.size : Int))).run Try.prog W = .ok (.slice (some ⟨W.heap.size, 0, none⟩) s.size s.size) (W.alloc (.cells M 5)) := fun W => by
      have h := run_make (P := Try.prog) W 22 5 i0 (.int .u8 0) Try.underlying22 hi hz0 .i64 .i64 (s.size : Int) (s.size : Int) (by omega) (by omega) (by rw [hz2]; omega) (by omega)
      rw [← hM] at h
      simpa using h
    have hMs : M.size = s.size := by rw [hM, size_madeCells, hz1]; simp
    clear hM
    have hcp := Lib.run_copy_row_string (P := Try.prog) (w.alloc (.cells M 5)) 22 9 3 5 w.heap.size 0 s.size s.size s M 5 Try.underlying22 hinfo (heap_alloc_new w _) (Nat.le_refl _) (by omega)
    obtain ⟨Y, hY⟩ : ∃ Y, Y = (M.toList.take 0 ++ Lib.byteCells s.data.toList ++ M.toList.drop (0 + s.size)).toArray := ⟨_, rfl⟩
    rw [← hY] at hcp
    have hYl : Y.toList = Lib.byteCells s.data.toList := by
      rw [hY, List.toList_toArray, List.take_zero, List.nil_append, List.drop_of_length_le (by rw [Array.length_toList]; omega), List.append_nil]
    have hYs : Y.size = s.size := by rw [← Array.length_toList, hYl, Lib.byteCells_length, ← Lib.size_eq]
    have hgY : ((w.alloc (.cells M 5)).setRow w.heap.size Y).heap[w.heap.size]? = some (.cells Y 5 (0, 0)) := setRow_heap _ _ M _ 5 (0, 0) (heap_alloc_new w _)
    have hne : s.data.toList ≠ [] := fun e => h0 (by rw [Lib.size_eq, e]; rfl)
    have hUS := Lib.run_unsafeString_row (P := Try.prog) ((w.alloc (.cells M 5)).setRow w.heap.size Y) 126 3 9 5 Try.underlying126 Try.cells5 w.heap.size Y.size (by unfold World.shape?; rw [hgY]) s.data.toList hne (by rw [← Lib.size_eq]; omega) (by rw [← Lib.size_eq]; omega)
      (fun j x hx => Lib.cells_of_row hgY Y.size j _ (by rw [List.take_of_length_le (by rw [Array.length_toList]; exact Nat.le_refl _), hYl]; simp [Lib.byteCells, hx]))
    rw [← Lib.size_eq] at hUS
    clear hY
    go_enter Try.func87, Try.ntmps87
    go_wp2
    go_ret
    have hb1 : Below w.heap.size w (w.alloc (.cells M 5)) := (Below.refl _ w).alloc (Nat.le_refl _) _
    have hb2 : Below w.heap.size (w.alloc (.cells M 5)) ((w.alloc (.cells M 5)).setRow w.heap.size Y) := ⟨rfl, rfl, rfl, by simp, fun k hk => setRow_other _ _ _ _ (by omega)⟩
    exact ⟨rfl, Lib.below_freeze (hb1.trans hb2) (p := ⟨w.heap.size, 0, none⟩) (Nat.le_refl _) _⟩
theorem ownText_any (s : ByteArray) (w : World) (hs : s.size ≤ 1048576) :
    Calls Try.prog 47 #[.string s] w fun e w' => e = .returned (.string s) ∧ Below w.heap.size w w' := by
  go_enter Try.func47, Try.ntmps47
  go_wp2_with (first | (go_at_call 87; refine (clone_any s _ hs).mono ?_; rintro e w' ⟨rfl, hb⟩) | go_in)
  go_ret
  exact ⟨rfl, hb⟩
theorem implRShort_none (s : ByteArray) (i : Int) (w : World) (hs : s.size ≤ 1048576) (h : Wd.rvI s i = none) :
    Calls Try.prog 67 #[.string s, .int .i64 i] w fun e w' => e = .returned (.tuple #[.string ⟨#[]⟩, .int .i64 0, .bool false]) ∧ Below w.heap.size w w' := by
  have H := hide h
  clear h
  go_enter Try.func67, Try.ntmps67
  go_wp2_with (go_at_call 66; refine (implRead_none s i _ hs H.out).mono ?_; rintro e w1 ⟨rfl, rfl⟩)
  go_ret3
  exact ⟨rfl, Below.refl _ _⟩
theorem implRShort_no (s : ByteArray) (i : Int) (w : World) (n p : Nat) (hs : s.size ≤ 1048576) (h : Wd.rvI s i = some (n, p)) (hno : 20000 < n ∨ s.size < p + n) :
    Calls Try.prog 67 #[.string s, .int .i64 i] w fun e w' => e = .returned (.tuple #[.string ⟨#[]⟩, .int .i64 0, .bool false]) ∧ Below w.heap.size w w' := by
  have hbd := Wd.rvI_bounds s i n p h
  have H := hide h
  clear h
  by_cases hn : 20000 < n
  · have hn' : decide (20000 < (n : Int)) = true := by simp; omega
    go_enter Try.func67, Try.ntmps67
    go_wp2_with (go_at_call 66; refine (implRead_some s i _ n p hs H.out).mono ?_; rintro e w1 ⟨rfl, rfl⟩)
    go_ret3
    exact ⟨rfl, Below.refl _ _⟩
  · have hn' : decide (20000 < (n : Int)) = false := by simp; omega
    have hn2 : decide ((s.size : Int) - (p : Int) < (n : Int)) = true := by simp; omega
    go_enter Try.func67, Try.ntmps67
    go_wp2_with (go_at_call 66; refine (implRead_some s i _ n p hs H.out).mono ?_; rintro e w1 ⟨rfl, rfl⟩)
    go_ret3
    exact ⟨rfl, Below.refl _ _⟩
theorem implRShort_yes (s : ByteArray) (i : Int) (w : World) (n p : Nat) (hs : s.size ≤ 1048576) (h : Wd.rvI s i = some (n, p)) (hn : n ≤ 20000) (hp : p + n ≤ s.size) :
    Calls Try.prog 67 #[.string s, .int .i64 i] w fun e w' => e = .returned (.tuple #[.string (s.extract p (p + n)), .int .i64 ((p : Int) + (n : Int)), .bool true]) ∧ Below w.heap.size w w' := by
  have hsl := cut_len s p n hp
  have H := hide h
  clear h
  have hn' : decide (20000 < (n : Int)) = false := by simp; omega
  have hn2 : decide ((s.size : Int) - (p : Int) < (n : Int)) = false := by simp; omega
  go_enter Try.func67, Try.ntmps67
  go_wp2_with (first | (go_at_call 66; refine (implRead_some s i _ n p hs H.out).mono ?_; rintro e w1 ⟨rfl, rfl⟩) | (go_at_call 47; refine (ownText_any _ _ (by simp only [ByteArray.size_extract]; omega)).mono ?_; rintro e w2 ⟨rfl, hb2⟩))
  go_ret3
  exact ⟨rfl, hb2⟩
end Go.Proofs.Ytbenmgokhklnjaa
