import Derived.Test.YtfgammkmkhfbpaaDf2
import Derived.Test.YtfgammkmkhfbpaaDf3
import Derived.Test.YtfgammkmkhfbpaaDf1
set_option maxRecDepth 100000
set_option maxHeartbeats 1600000
namespace Go.Proofs.Ytfgammkmkhfbpaa
open Go.RowKit
def lessK (a b : ByteArray) : Bool := Op.bytesLess a.toList b.toList
def goneC (k : ByteArray) : ChangeD := ⟨k, ⟨#[]⟩, true⟩
def putC (k : ByteArray) (v : ValD) : ChangeD := ⟨k, valT v, false⟩
instance : DecidableEq ValD := fun a b => by
  cases a; cases b
  simp only [ValD.mk.injEq]
  infer_instance
def difF : Nat → List EntD → List EntD → List ChangeD
  | 0, _, _ => []
  | _ + 1, [], [] => []
  | f + 1, x :: ax, [] => goneC x.key :: difF f ax []
  | f + 1, [], y :: bs => putC y.key y.val :: difF f [] bs
  | f + 1, x :: ax, y :: bs => if lessK x.key y.key = true then goneC x.key :: difF f ax (y :: bs) else if lessK y.key x.key = true then putC y.key y.val :: difF f (x :: ax) bs else (if x.val = y.val then [] else [putC y.key y.val]) ++ difF f ax bs
def chgK (a b : List EntD) (k : ByteArray) : List ChangeD :=
  match findE b k with
  | none => [goneC k]
  | some y => match findE a k with
    | none => [putC k y]
    | some x => if valT x = valT y then [] else [putC k y]
theorem valT_inj {x y : ValD} (hx : ValR x) (hy : ValR y) (h : valT x = valT y) : x = y := by
  have h1 := (valT_read hx).1
  rw [h, (valT_read hy).1] at h1
  exact (Option.some.inj h1).symm
theorem lessK_irrefl (a : ByteArray) : lessK a a = false := less_irrefl _
theorem lessK_ne {a b : ByteArray} (h : lessK a b = true) : a ≠ b := fun e => by rw [e, lessK_irrefl] at h; cases h
theorem lessK_eq {a b : ByteArray} (h1 : lessK a b = false) (h2 : lessK b a = false) : a = b := by
  apply Classical.byContradiction
  intro hne
  have := less_total h1 (fun e => hne (by rw [ByteArray.toList_eq, ByteArray.toList_eq] at e; exact ByteArray.ext (Array.toList_inj.1 e)))
  unfold lessK at h2
  rw [this] at h2
  cases h2
theorem findE_skip {x : EntD} {r : List EntD} {k : ByteArray} (h : x.key ≠ k) : findE (x :: r) k = findE r k := by
  simp only [findE]
  rw [if_neg]
  intro hh
  have := eq_of_beq hh
  rw [ByteArray.toList_eq, ByteArray.toList_eq] at this
  exact h (ByteArray.ext (Array.toList_inj.1 this))
theorem findE_head (x : EntD) (r : List EntD) : findE (x :: r) x.key = some x.val := by
  simp only [findE]
  rw [if_pos (beq_self_eq_true _)]
def AscE (l : List EntD) : Prop := l.Pairwise (fun a b => lessK a.key b.key = true)
def AscK (l : List ByteArray) : Prop := l.Pairwise (fun a b => lessK a b = true)
theorem least_head {ks : List ByteArray} {k : ByteArray} (ha : AscK ks) (hk : k ∈ ks) (hl : ∀ q ∈ ks, q = k ∨ lessK k q = true) : ∃ r, ks = k :: r ∧ AscK r ∧ ∀ q ∈ r, lessK k q = true := by
  cases ks with
  | nil => exact absurd hk List.not_mem_nil
  | cons q r =>
    unfold AscK at ha
    rw [List.pairwise_cons] at ha
    have e : q = k := by
      rcases hl q List.mem_cons_self with h | h
      · exact h
      · rcases List.mem_cons.1 hk with h' | h'
        · exact h'.symm
        · have h2 := ha.1 k h'
          have h3 := less_trans h h2
          rw [less_irrefl] at h3
          cases h3
    subst e
    exact ⟨r, rfl, ha.2, ha.1⟩
theorem flat_same {a b a' b' : List EntD} {r : List ByteArray} (h : ∀ q ∈ r, findE a q = findE a' q ∧ findE b q = findE b' q) : r.flatMap (chgK a b) = r.flatMap (chgK a' b') := by
  induction r with
  | nil => rfl
  | cons q r ih =>
    have h1 := h q List.mem_cons_self
    rw [List.flatMap_cons, List.flatMap_cons, ih (fun p hp => h p (List.mem_cons_of_mem _ hp))]
    congr 1
    unfold chgK
    rw [h1.1, h1.2]
theorem dif_keys : ∀ (f : Nat) (a b : List EntD) (ks : List ByteArray), a.length + b.length < f → AscE a → AscE b → (∀ e ∈ a, ValR e.val) → (∀ e ∈ b, ValR e.val) → AscK ks → (∀ k, k ∈ ks ↔ (∃ e ∈ a, e.key = k) ∨ ∃ e ∈ b, e.key = k) →
    difF f a b = ks.flatMap (chgK a b)
  | 0, a, b, ks, hf, _, _, _, _, _, _ => absurd hf (by omega)
  | f + 1, [], [], ks, _, _, _, _, _, _, hm => by
    have : ks = [] := List.eq_nil_iff_forall_not_mem.2 (fun k hk => by rcases (hm k).1 hk with ⟨e, he, _⟩ | ⟨e, he, _⟩ <;> exact absurd he List.not_mem_nil)
    subst this
    rfl
  | f + 1, x :: ax, [], ks, hf, ha, hb, va, vb, hk, hm => by
    have ha' := ha
    unfold AscE at ha'
    rw [List.pairwise_cons] at ha'
    obtain ⟨r, rfl, hr, hlt⟩ := least_head hk ((hm x.key).2 (.inl ⟨x, List.mem_cons_self, rfl⟩)) (fun q hq => by
      rcases (hm q).1 hq with ⟨e, he, rfl⟩ | ⟨e, he, _⟩
      · rcases List.mem_cons.1 he with rfl | he
        · exact .inl rfl
        · exact .inr (ha'.1 e he)
      · exact absurd he List.not_mem_nil)
    have ih := dif_keys f ax [] r (by simp at hf ⊢; omega) ha'.2 hb (fun e he => va e (List.mem_cons_of_mem _ he)) vb hr (fun k => by
      constructor
      · intro h
        rcases (hm k).1 (List.mem_cons_of_mem _ h) with ⟨e, he, rfl⟩ | h2
        · rcases List.mem_cons.1 he with rfl | he
          · exact absurd (hlt _ h) (by rw [lessK_irrefl]; decide)
          · exact .inl ⟨e, he, rfl⟩
        · exact .inr h2
      · intro h
        have hin : k ∈ x.key :: r := (hm k).2 (by rcases h with ⟨e, he, h⟩ | h; · exact .inl ⟨e, List.mem_cons_of_mem _ he, h⟩
                                                  · exact .inr h)
        rcases List.mem_cons.1 hin with h2 | h2
        · rcases h with ⟨e, he, h⟩ | ⟨e, he, _⟩
          · have := ha'.1 e he
            rw [h, h2, lessK_irrefl] at this
            cases this
          · exact absurd he List.not_mem_nil
        · exact h2)
    have hc : chgK (x :: ax) [] x.key = [goneC x.key] := rfl
    rw [difF, ih, List.flatMap_cons, hc, flat_same (a' := ax) (b' := []) (fun q hq => ⟨findE_skip (lessK_ne (hlt q hq)), rfl⟩)]
    rfl
  | f + 1, [], y :: bs, ks, hf, ha, hb, va, vb, hk, hm => by
    have hb' := hb
    unfold AscE at hb'
    rw [List.pairwise_cons] at hb'
    obtain ⟨r, rfl, hr, hlt⟩ := least_head hk ((hm y.key).2 (.inr ⟨y, List.mem_cons_self, rfl⟩)) (fun q hq => by
      rcases (hm q).1 hq with ⟨e, he, _⟩ | ⟨e, he, rfl⟩
      · exact absurd he List.not_mem_nil
      · rcases List.mem_cons.1 he with rfl | he
        · exact .inl rfl
        · exact .inr (hb'.1 e he))
    have ih := dif_keys f [] bs r (by simp at hf ⊢; omega) ha hb'.2 va (fun e he => vb e (List.mem_cons_of_mem _ he)) hr (fun k => by
      constructor
      · intro h
        rcases (hm k).1 (List.mem_cons_of_mem _ h) with h2 | ⟨e, he, rfl⟩
        · exact .inl h2
        · rcases List.mem_cons.1 he with rfl | he
          · exact absurd (hlt _ h) (by rw [lessK_irrefl]; decide)
          · exact .inr ⟨e, he, rfl⟩
      · intro h
        have hin : k ∈ y.key :: r := (hm k).2 (by rcases h with h | ⟨e, he, h⟩; · exact .inl h
                                                  · exact .inr ⟨e, List.mem_cons_of_mem _ he, h⟩)
        rcases List.mem_cons.1 hin with h2 | h2
        · rcases h with ⟨e, he, _⟩ | ⟨e, he, h⟩
          · exact absurd he List.not_mem_nil
          · have := hb'.1 e he
            rw [h, h2, lessK_irrefl] at this
            cases this
        · exact h2)
    have hc : chgK [] (y :: bs) y.key = [putC y.key y.val] := by unfold chgK; rw [findE_head]; rfl
    rw [difF, ih, List.flatMap_cons, hc, flat_same (a' := []) (b' := bs) (fun q hq => ⟨rfl, findE_skip (lessK_ne (hlt q hq))⟩)]
    rfl
  | f + 1, x :: ax, y :: bs, ks, hf, ha, hb, va, vb, hk, hm => by
    have ha' := ha
    have hb' := hb
    unfold AscE at ha' hb'
    rw [List.pairwise_cons] at ha' hb'
    have bel : ∀ (k : ByteArray), (∀ e ∈ x :: ax, e.key = k ∨ lessK k e.key = true) → (∀ e ∈ y :: bs, e.key = k ∨ lessK k e.key = true) → ∀ q ∈ ks, q = k ∨ lessK k q = true := by
      intro k h1 h2 q hq
      rcases (hm q).1 hq with ⟨e, he, rfl⟩ | ⟨e, he, rfl⟩
      · exact h1 e he
      · exact h2 e he
    have la : ∀ e ∈ x :: ax, e.key = x.key ∨ lessK x.key e.key = true := fun e he => by
      rcases List.mem_cons.1 he with rfl | he
      · exact .inl rfl
      · exact .inr (ha'.1 e he)
    have lb : ∀ e ∈ y :: bs, e.key = y.key ∨ lessK y.key e.key = true := fun e he => by
      rcases List.mem_cons.1 he with rfl | he
      · exact .inl rfl
      · exact .inr (hb'.1 e he)
    rw [difF]
    by_cases h1 : lessK x.key y.key = true
    · rw [if_pos h1]
      have lb2 : ∀ e ∈ y :: bs, lessK x.key e.key = true := fun e he => by
        rcases lb e he with h | h
        · rw [h]; exact h1
        · exact less_trans h1 h
      obtain ⟨r, rfl, hr, hlt⟩ := least_head hk ((hm x.key).2 (.inl ⟨x, List.mem_cons_self, rfl⟩)) (bel x.key la (fun e he => .inr (lb2 e he)))
      have ih := dif_keys f ax (y :: bs) r (by simp at hf ⊢; omega) ha'.2 hb (fun e he => va e (List.mem_cons_of_mem _ he)) vb hr (fun k => by
        constructor
        · intro h
          rcases (hm k).1 (List.mem_cons_of_mem _ h) with ⟨e, he, rfl⟩ | h2
          · rcases List.mem_cons.1 he with rfl | he
            · exact absurd (hlt _ h) (by rw [lessK_irrefl]; decide)
            · exact .inl ⟨e, he, rfl⟩
          · exact .inr h2
        · intro h
          have hgt : lessK x.key k = true := by
            rcases h with ⟨e, he, rfl⟩ | ⟨e, he, rfl⟩
            · exact ha'.1 e he
            · exact lb2 e he
          have hin : k ∈ x.key :: r := (hm k).2 (by rcases h with ⟨e, he, h⟩ | h; · exact .inl ⟨e, List.mem_cons_of_mem _ he, h⟩
                                                    · exact .inr h)
          rcases List.mem_cons.1 hin with h2 | h2
          · exact absurd h2.symm (lessK_ne hgt)
          · exact h2)
      have hnb : findE (y :: bs) x.key = none := find_none _ _ (fun e he => (lessK_ne (lb2 e he)).symm)
      have hc : chgK (x :: ax) (y :: bs) x.key = [goneC x.key] := by unfold chgK; rw [hnb]
      rw [ih, List.flatMap_cons, hc, flat_same (a' := ax) (b' := y :: bs) (fun q hq => ⟨findE_skip (lessK_ne (hlt q hq)), rfl⟩)]
      rfl
    · rw [if_neg h1]
      by_cases h2 : lessK y.key x.key = true
      · rw [if_pos h2]
        have la2 : ∀ e ∈ x :: ax, lessK y.key e.key = true := fun e he => by
          rcases la e he with h | h
          · rw [h]; exact h2
          · exact less_trans h2 h
        obtain ⟨r, rfl, hr, hlt⟩ := least_head hk ((hm y.key).2 (.inr ⟨y, List.mem_cons_self, rfl⟩)) (bel y.key (fun e he => .inr (la2 e he)) lb)
        have ih := dif_keys f (x :: ax) bs r (by simp at hf ⊢; omega) ha hb'.2 va (fun e he => vb e (List.mem_cons_of_mem _ he)) hr (fun k => by
          constructor
          · intro h
            rcases (hm k).1 (List.mem_cons_of_mem _ h) with h2 | ⟨e, he, rfl⟩
            · exact .inl h2
            · rcases List.mem_cons.1 he with rfl | he
              · exact absurd (hlt _ h) (by rw [lessK_irrefl]; decide)
              · exact .inr ⟨e, he, rfl⟩
          · intro h
            have hgt : lessK y.key k = true := by
              rcases h with ⟨e, he, rfl⟩ | ⟨e, he, rfl⟩
              · exact la2 e he
              · exact hb'.1 e he
            have hin : k ∈ y.key :: r := (hm k).2 (by rcases h with h | ⟨e, he, h⟩; · exact .inl h
                                                      · exact .inr ⟨e, List.mem_cons_of_mem _ he, h⟩)
            rcases List.mem_cons.1 hin with h3 | h3
            · exact absurd h3.symm (lessK_ne hgt)
            · exact h3)
        have hna : findE (x :: ax) y.key = none := find_none _ _ (fun e he => (lessK_ne (la2 e he)).symm)
        have hc : chgK (x :: ax) (y :: bs) y.key = [putC y.key y.val] := by unfold chgK; rw [findE_head, hna]
        rw [ih, List.flatMap_cons, hc, flat_same (a' := x :: ax) (b' := bs) (fun q hq => ⟨rfl, findE_skip (lessK_ne (hlt q hq))⟩)]
        rfl
      · rw [if_neg h2]
        have he : x.key = y.key := lessK_eq (by simpa using h1) (by simpa using h2)
        obtain ⟨r, rfl, hr, hlt⟩ := least_head hk ((hm x.key).2 (.inl ⟨x, List.mem_cons_self, rfl⟩)) (bel x.key la (fun e hE => by rw [he]; exact lb e hE))
        have ih := dif_keys f ax bs r (by simp at hf ⊢; omega) ha'.2 hb'.2 (fun e he => va e (List.mem_cons_of_mem _ he)) (fun e he => vb e (List.mem_cons_of_mem _ he)) hr (fun k => by
          constructor
          · intro h
            rcases (hm k).1 (List.mem_cons_of_mem _ h) with ⟨e, hE, rfl⟩ | ⟨e, hE, rfl⟩
            · rcases List.mem_cons.1 hE with rfl | hE
              · exact absurd (hlt _ h) (by rw [lessK_irrefl]; decide)
              · exact .inl ⟨e, hE, rfl⟩
            · rcases List.mem_cons.1 hE with rfl | hE
              · exact absurd (hlt _ h) (by rw [he, lessK_irrefl]; decide)
              · exact .inr ⟨e, hE, rfl⟩
          · intro h
            have hgt : lessK x.key k = true := by
              rcases h with ⟨e, hE, rfl⟩ | ⟨e, hE, rfl⟩
              · exact ha'.1 e hE
              · rw [he]; exact hb'.1 e hE
            have hin : k ∈ x.key :: r := (hm k).2 (by rcases h with ⟨e, hE, h⟩ | ⟨e, hE, h⟩; · exact .inl ⟨e, List.mem_cons_of_mem _ hE, h⟩
                                                      · exact .inr ⟨e, List.mem_cons_of_mem _ hE, h⟩)
            rcases List.mem_cons.1 hin with h3 | h3
            · exact absurd h3.symm (lessK_ne hgt)
            · exact h3)
        have hx := va x List.mem_cons_self
        have hy := vb y List.mem_cons_self
        have hc : chgK (x :: ax) (y :: bs) x.key = if x.val = y.val then [] else [putC y.key y.val] := by
          unfold chgK
          rw [show findE (y :: bs) x.key = some y.val by rw [he]; exact findE_head y bs, findE_head, he]
          by_cases hv : x.val = y.val
          · simp [hv]
          · have : ¬ valT x.val = valT y.val := fun h => hv (valT_inj hx hy h)
            simp [hv, this]
        rw [ih, List.flatMap_cons, hc, flat_same (a' := ax) (b' := bs) (fun q hq => ⟨findE_skip (lessK_ne (hlt q hq)), findE_skip (by rw [← he]; exact lessK_ne (hlt q hq))⟩)]
theorem cur_cellD {w : World} {g : Nat} {cs : Array Value} {T : TypeId} (h : w.heap[g]? = some (.cells cs T (0, 0))) (j : Nat) (v : Value) (hj : cs[j]? = some v) : w.cell? ⟨g, j, none⟩ = some v := by
  rw [cell_of_row w g j cs T (0, 0) h, hj]
theorem txts_eq {a b : ByteArray} (h : (a.toList == b.toList) = true) : a = b := by
  have := eq_of_beq h
  rw [ByteArray.toList_eq, ByteArray.toList_eq] at this
  exact ByteArray.ext (Array.toList_inj.1 this)
theorem txts_ne {a b : ByteArray} (h : a ≠ b) : (a.toList == b.toList) = false := by
  cases hh : (a.toList == b.toList)
  · rfl
  · exact absurd (txts_eq hh) h
theorem l10Same_any (x y : ValD) (a1 a2 : Option Addr) (c1 c2 : Nat) (w : World) (hl1 : x.items.length ≤ 1048576) (hl2 : y.items.length ≤ 1048576) (h1 : TextsAt w a1 x.items) (h2 : TextsAt w a2 y.items) :
    Calls Try.prog 16 #[.agg #[.int .i64 x.kind, .int .i64 x.til, .string x.text, .slice a1 x.items.length c1], .agg #[.int .i64 y.kind, .int .i64 y.til, .string y.text, .slice a2 y.items.length c2]] w fun e w' => e = .returned (.bool (decide (x = y))) ∧ Below w.heap.size w w' := by
  obtain ⟨k, u, t, ts⟩ := x
  obtain ⟨k', u', t', ts'⟩ := y
  simp only at hl1 hl2 h1 h2 ⊢
  have H1 := hide h1
  have H2 := hide h2
  clear h1 h2
  obtain ⟨R, HR⟩ : ∃ R : Bool, Hid (decide ((⟨k, u, t, ts⟩ : ValD) = ⟨k', u', t', ts'⟩) = R) := ⟨_, rfl⟩
  rw [HR.out]
  obtain ⟨W, hW⟩ : ∃ W, W = (w.alloc (.cells #[.int .i64 k, .int .i64 u, .string t, .slice a1 ts.length c1] 40)).alloc (.cells #[.int .i64 k', .int .i64 u', .string t', .slice a2 ts'.length c2] 40) := ⟨_, rfl⟩
  have HB : Hid (Below w.heap.size w W) := by rw [hW]; exact ((Below.refl _ w).alloc (Nat.le_refl _) _).alloc (by simp) _
  have HNo : Hid ((k ≠ k' ∨ u ≠ u' ∨ t ≠ t' ∨ ts ≠ ts') → R = false) := fun h => by
    rw [← HR.out, decide_eq_false_iff_not]
    intro e
    simp only [ValD.mk.injEq] at e
    obtain ⟨e1, e2, e3, e4⟩ := e
    rcases h with h | h | h | h
    · exact h e1
    · exact h e2
    · exact h e3
    · exact h e4
  by_cases hk : k = k'
  case neg =>
    have f1 : (k != k') = true := by simpa using hk
    have hR := HNo.out (.inl hk)
    go_enter Try.func16, Try.ntmps16
    go_wp2
    rw [← hW]
    go_ret
    rw [hR]
    exact ⟨rfl, HB.out⟩
  have f1 : (k != k') = false := by simpa using hk
  have HKk := hide hk
  clear hk
  by_cases hu : u = u'
  case neg =>
    have f2 : (u != u') = true := by simpa using hu
    have hR := HNo.out (.inr (.inl hu))
    go_enter Try.func16, Try.ntmps16
    go_wp2
    rw [← hW]
    go_ret
    rw [hR]
    exact ⟨rfl, HB.out⟩
  have f2 : (u != u') = false := by simpa using hu
  have HKu := hide hu
  clear hu
  by_cases ht : t = t'
  case neg =>
    have f3 : (t.toList == t'.toList) = false := txts_ne ht
    have hR := HNo.out (.inr (.inr (.inl ht)))
    go_enter Try.func16, Try.ntmps16
    go_wp2
    rw [← hW]
    go_ret
    rw [hR]
    exact ⟨rfl, HB.out⟩
  have f3 : (t.toList == t'.toList) = true := by rw [ht]; exact beq_self_eq_true _
  have HKt := hide ht
  clear ht
  by_cases hl : ts.length = ts'.length
  case neg =>
    have f4 : ((ts.length : Int) != (ts'.length : Int)) = true := by simp; omega
    have hR := HNo.out (.inr (.inr (.inr (fun e => hl (by rw [e])))))
    go_enter Try.func16, Try.ntmps16
    go_wp2
    rw [← hW]
    go_ret
    rw [hR]
    exact ⟨rfl, HB.out⟩
  have f4 : ((ts.length : Int) != (ts'.length : Int)) = false := by simp; omega
  have HL := hide hl
  have HYes : Hid ((∀ j (h : j < ts.length) (h' : j < ts'.length), ts[j] = ts'[j]) → R = true) := fun h => by
    rw [← HR.out, decide_eq_true_eq]
    simp only [ValD.mk.injEq]
    exact ⟨HKk.out, HKu.out, HKt.out, List.ext_getElem HL.out (fun j h1 h2 => h j h1 h2)⟩
  clear hl HR
  have X3 : W.cell? ⟨w.heap.size, 3, none⟩ = some (.slice a1 ts.length c1) := by
    rw [hW]
    exact (((Below.refl _ _).alloc (Nat.le_refl _) _).cell (p := ⟨w.heap.size, 3, none⟩) (by simp)).trans (cur_cellD (heap_alloc_new w _) 3 _ rfl)
  have Y3 : W.cell? ⟨w.heap.size + 1, 3, none⟩ = some (.slice a2 ts'.length c2) := by
    rw [hW]
    have h := heap_alloc_new (w.alloc (.cells #[.int .i64 k, .int .i64 u, .string t, .slice a1 ts.length c1] 40)) (.cells #[.int .i64 k', .int .i64 u', .string t', .slice a2 ts'.length c2] 40)
    rw [show (w.alloc (.cells #[.int .i64 k, .int .i64 u, .string t, .slice a1 ts.length c1] 40)).heap.size = w.heap.size + 1 by simp] at h
    exact cur_cellD h 3 _ rfl
  go_enter Try.func16, Try.ntmps16
  go_wp2
  rw [← hW]
  clear hW
  go_loopw [5] (fun ii wr => ∃ (j q : Nat), ii = .int .i64 j ∧ j ≤ ts.length ∧ wr = W.drewN q ∧ Hid (∀ i (h : i < ts.length) (h' : i < ts'.length), i < j → ts[i] = ts'[i])) (fun ii _ => ts.length - (intOf ii).toNat)
  case atStart => exact ⟨0, 0, rfl, Nat.zero_le _, rfl, fun i _ _ h => absurd h (by omega)⟩
  case round =>
    obtain ⟨j, q, rfl, hj, rfl, HS⟩ := hrel
    by_cases hlt : j < ts.length
    · have hlt' : decide ((j : Int) < (ts.length : Int)) = true := by simp; omega
      have hlj : j < ts'.length := by have := HL.out; omega
      obtain ⟨b, off, rfl, hbw, hc0⟩ := textsAt_keep H1.out HB.out j hlt
      obtain ⟨b', off', rfl, hbw', hd0⟩ := textsAt_keep H2.out HB.out j hlj
      obtain ⟨F, hF⟩ : ∃ F, Hid (ts[j] = F) := ⟨ts[j], hide rfl⟩
      obtain ⟨G, hG⟩ : ∃ G, Hid (ts'[j] = G) := ⟨ts'[j], hide rfl⟩
      rw [hF.out] at hc0
      rw [hG.out] at hd0
      have hi0 : (0 : Int) ≤ (j : Int) := by omega
      have hi1 : (j : Int) < (ts.length : Int) := by omega
      have hi2 : (j : Int) < (ts'.length : Int) := by omega
      by_cases he : F = G
      · have hee : (F.toList == G.toList) = true := by rw [he]; exact beq_self_eq_true _
        have HE : Hid (F = G) := he
        clear he
        go_wp2
        go_quiet (fail)
        go_wp2
        go_roundw
        case rel =>
          refine ⟨j + 1, q + nq, by go_num, by omega, rfl, fun i h h' hij => ?_⟩
          by_cases e : i = j
          · subst e; rw [hF.out, hG.out]; exact HE.out
          · exact HS.out i h h' (by omega)
        case measure => simp [intOf]; omega
      · have hee : (F.toList == G.toList) = false := txts_ne he
        have hR := HNo.out (.inr (.inr (.inr (fun e => he (by rw [← hF.out, ← hG.out]; simp [e])))))
        go_wp2
        go_quiet (fail)
        go_wp2
        go_ret
        rw [hR]
        exact ⟨rfl, below_drewN (below_drewN HB.out _) _⟩
    · have hlt' : decide ((j : Int) < (ts.length : Int)) = false := by simp; omega
      have hR := HYes.out (fun i h h' => HS.out i h h' (by omega))
      go_wp2
      go_ret
      rw [hR]
      exact ⟨rfl, below_drewN HB.out _⟩
end Go.Proofs.Ytfgammkmkhfbpaa
