import Derived.WalkKit
import Derived.WalkSpells
import Derived.WalkLawsBesides
import Derived.Outline
import Derived.Laws.IdiomStrings
import Derived.Deep.AppendLies
import Derived.Deep.RegionHeld3
import Derived.BigQuiet
import Derived.WalkSmall
import Derived.Test.YtlcfblodflgleaaGreatDoorChecked
set_option maxRecDepth 100000
set_option maxHeartbeats 400000
namespace Go.Proofs.YtlcfblodflgleaaGreatDoor
open Go.RowKit
theorem hide {p : Prop} (h : p) : Hid p := h
def bv (b : UInt8) : Value := .int .u8 (b.toNat : Int)
theorem bv_one (l : List UInt8) : ∀ u ∈ l.map bv, u.oneCell' = true := by
  intro u hu
  obtain ⟨b, _, rfl⟩ := List.mem_map.1 hu
  rfl
theorem cells_new (w : World) (C : Array Value) (t : TypeId) : ∀ j u, C.toList[j]? = some u → (w.alloc (.cells C t)).cell? ((⟨w.heap.size, 0, none⟩ : Addr).add j) = some u := by
  intro j u h
  simp only [Array.getElem?_toList] at h
  have e : ((⟨w.heap.size, 0, none⟩ : Addr).add j) = ⟨w.heap.size, j, none⟩ := by cases j <;> simp [Addr.add]
  rw [e]
  exact (World.cell?_alloc_mark w C t (0, 0) j).trans h
theorem size_alloc_drew (w : World) (o : Obj) : w.heap.size ≤ (w.alloc o).drew.heap.size := by simp
theorem grownBy_trans {a b c : World} {r : Option Nat} (h : a.grownBy b r) (k : b.grownBy c r) : a.grownBy c r :=
  ⟨k.os.trans h.os, k.tape.trans h.tape, k.output.trans h.output, Nat.le_trans h.size k.size, fun i hi hr => (k.block i (Nat.lt_of_lt_of_le hi h.size) hr).trans (h.block i hi hr)⟩
theorem grownBy_below {a b : World} (r : Option Nat) (h : Below a.heap.size a b) : a.grownBy b r := ⟨h.os, h.tape, h.output, h.size, fun k hk _ => h.block k hk⟩
theorem grownBy_store {a b : World} {g : Nat} (h : a.grownBy b (some g)) (j : Nat) (u : Value) : a.grownBy (b.setCell ⟨g, j, none⟩ u) (some g) :=
  ⟨h.os, h.tape, h.output, by have := h.size; simpa [World.setCell] using this, fun k hk hne => (Below.heap_setCell _ _ _ _ (by intro e; exact hne (by rw [e]))).trans (h.block k hk hne)⟩
theorem ownsRow_below {w w' : World} {B : Nat} {e : TypeId} {size : Nat} {v : Value} {n : Nat} {xs : List Value} (h : w.ownsRow B e size v n xs) (hb : Below w.heap.size w w') : w'.ownsRow B e size v n xs :=
  h.kept (grownBy_below none hb) (by cases hv : v.ownBlock with | none => exact .inl rfl | some k => exact .inr (by simp))
theorem ownsRow_drewN {w : World} {B : Nat} {e : TypeId} {size : Nat} {v : Value} {n : Nat} {xs : List Value} (h : w.ownsRow B e size v n xs) (q : Nat) : (w.drewN q).ownsRow B e size v n xs := h
theorem ownsRow_mono {w : World} {B B' : Nat} {e : TypeId} {size : Nat} {v : Value} {n : Nat} {xs : List Value} (h : w.ownsRow B e size v n xs) (hB : B' ≤ B) : w.ownsRow B' e size v n xs := by
  refine ⟨h.1, ?_⟩
  rcases h.2 with h | ⟨g, cap, cur, hv, hb, r⟩
  · exact .inl h
  · exact .inr ⟨g, cap, cur, hv, by omega, r⟩
theorem drewN_below (w : World) (q : Nat) : Below w.heap.size w (w.drewN q) := below_drewN (Below.refl _ _) q
theorem cat_list (a b : List UInt8) : (⟨a.toArray⟩ : ByteArray) ++ ⟨b.toArray⟩ = ⟨(a ++ b).toArray⟩ := by
  apply ByteArray.ext
  simp
def sv (l : List UInt8) : Value := .string ⟨l.toArray⟩
theorem slice_form {w : World} {B : Nat} {e : TypeId} {size : Nat} {v : Value} {n : Nat} {xs : List Value} (h : w.ownsRow B e size v n xs) : ∃ a c, v = .slice a n c := by
  rcases h.2 with ⟨rfl, rfl⟩ | ⟨g, cap, cur, rfl, _⟩
  · exact ⟨none, 0, rfl⟩
  · exact ⟨_, cap, rfl⟩
section
variable {P : Program}
theorem conv_own (ts te tx : TypeId) (hts : P.underlying ts = some (.slice te)) (hte : P.underlying te = some (.int .u8)) (htx : P.underlying tx = some .string)
    (w : World) (base : Nat) (v : Value) (l : List UInt8) (h : w.ownsRow base te 1 v l.length (l.map bv)) :
    (convert ts tx v).run P w = .ok (.string ⟨l.toArray⟩) w := by
  rcases h.2 with ⟨hv, hn⟩ | ⟨g, cap, cur, hv, hg, hh, hn, hm, hs, ht⟩
  · have hl := List.eq_nil_of_length_eq_zero hn
    subst hv hl
    rw [run_convert_bytes_string w ts tx te none 0 0 hts hte htx]
    rfl
  · subst hv
    refine run_convert_bytes_back w ts tx te ⟨g, 0, none⟩ cap l hts hte htx ?_
    intro j hj
    have := h.cells (g := g) rfl j (bv l[j]) (by simp [hj])
    exact this
theorem app_bytes {ops : Array Oper} {rest : List Oper} {o : Oper} {a : Act} {Q : Exit → Act → World → Prop} {C : Array Value} (wr : World) (ts te : TypeId) (hts : P.underlying ts = some (.slice te))
    (hinfo : (P.info? te).map (fun i => (i.zero, i.size, i.bytes)) = some (some (.int .u8 0), 1, 1)) (w : World) (B : Nat) (hgd : o.guard = none) (s x : Operand)
    (ho : o.op = .call { callee := .builtin .append, args := #[s, x], argTypes := #[ts, ts] }) (v : Value) (l news : List UInt8) (hs : a.eval s = v)
    (hown : wr.ownsRow B te 1 v l.length (l.map bv)) (hx : a.eval x = .slice (some ⟨wr.heap.size, 0, none⟩) news.length news.length) (hC : C.toList = news.map bv)
    (hlen : l.length + news.length ≤ 70368744177664) (hbel : Below B w wr) (hbase : B ≤ wr.heap.size)
    (h : ∀ v' w', w'.ownsRow B te 1 v' (l ++ news).length ((l ++ news).map bv) → Below B w w' → wr.heap.size ≤ w'.heap.size → wpList P ops Q rest (a.put o.dst v') w') :
    wpList P ops Q (o :: rest) a (wr.alloc (.cells C te)) := by
  obtain ⟨i0, hi, hz0, hz1, hz2⟩ := info_parts hinfo
  have hsz : wr.heap.size ≤ (wr.alloc (.cells C te)).heap.size := by simp
  refine wpList_append_own _ hgd s x ts ho B te i0 (.int .u8 0) 1 1 hts hi hz0 hz1 hz2 rfl (by decide) v l.length (l.map bv) hs (hown.alloc _) ⟨wr.heap.size, 0, none⟩ news.length news.length (news.map bv) hx (by simp)
    (fun j u hj => cells_new wr C te j u (by rw [hC]; exact hj)) (bv_one news) (by unfold maxLen; omega) (by omega) (by omega) ?_
  intro v' w' hown' hgrow _
  have hlt := hown.lt
  have hb1 : Below B w (wr.alloc (.cells C te)) := hbel.alloc hbase _
  refine h v' w' ?_ (hb1.grown hgrow (by omega) (fun k hk => (hlt k hk).1)) (Nat.le_trans hsz hgrow.size)
  rw [List.length_append, List.map_append]
  exact hown'
end
end Go.Proofs.YtlcfblodflgleaaGreatDoor
namespace Go.Proofs.YtlcfblodflgleaaGreatDoor
namespace Wd
def bt (s : ByteArray) (p : Nat) : Nat := if h : p < s.size then (s[p]'h).toNat else 0
theorem bt_eq (s : ByteArray) (p : Nat) (h : p < s.size) : (s[p]'h).toNat = bt s p := by simp [bt, h]
theorem bt_lt (s : ByteArray) (p : Nat) : bt s p < 256 := by unfold bt; split; exact UInt8.toNat_lt _; omega
def varF : Nat → Nat → List UInt8
  | 0, _ => []
  | f + 1, n => if n < 128 then [UInt8.ofNat n] else UInt8.ofNat (n % 128 + 128) :: varF f (n / 128)
theorem varF_low (f n : Nat) (h : n < 128) : varF (f + 1) n = [UInt8.ofNat n] := by simp [varF, h]
theorem varF_high (f n : Nat) (h : ¬ n < 128) : varF (f + 1) n = UInt8.ofNat (n % 128 + 128) :: varF f (n / 128) := by simp [varF, h]
theorem div_lt_pow (f m : Nat) (h : m < 128 ^ (f + 1)) : m / 128 < 128 ^ f := by
  rw [Nat.pow_succ] at h; exact Nat.div_lt_of_lt_mul (by rw [Nat.mul_comm]; exact h)
def rvF (s : ByteArray) : Nat → Nat → Nat → Nat → Nat → Option (Nat × Nat)
  | 0, _, _, _, _ => none
  | f + 1, p, k, q, n =>
    if p < s.size then
      (if bt s p < 128 then (if n + bt s p % 128 * q ≤ 1000000000 ∧ (0 < bt s p ∨ k = 0) then some (n + bt s p % 128 * q, p + 1) else none)
       else rvF s f (p + 1) (k + 1) (q * 128) (n + bt s p % 128 * q))
    else none
theorem rvF_end (s : ByteArray) (f p k q n : Nat) (h : ¬ p < s.size) : rvF s f p k q n = none := by
  cases f <;> simp [rvF, h]
theorem rvF_more (s : ByteArray) (f p k q n : Nat) (h : p < s.size) (hb : ¬ bt s p < 128) : rvF s (f + 1) p k q n = rvF s f (p + 1) (k + 1) (q * 128) (n + bt s p % 128 * q) := by
  simp [rvF, h, hb]
theorem rvF_last (s : ByteArray) (f p k q n : Nat) (h : p < s.size) (hb : bt s p < 128) (hn : n + bt s p % 128 * q ≤ 1000000000) (hk : 0 < bt s p ∨ k = 0) : rvF s (f + 1) p k q n = some (n + bt s p % 128 * q, p + 1) := by
  simp only [rvF, if_pos h, if_pos hb, if_pos (And.intro hn hk)]
theorem rvF_not (s : ByteArray) (f p k q n : Nat) (hb : bt s p < 128) (hn : ¬ (n + bt s p % 128 * q ≤ 1000000000 ∧ (0 < bt s p ∨ k = 0))) : rvF s (f + 1) p k q n = none := by
  by_cases h : p < s.size
  · simp only [rvF, if_pos h, if_pos hb, if_neg hn]
  · exact rvF_end _ _ _ _ _ _ h
theorem rvF_moreB {s : ByteArray} {f p k q n b : Nat} (hB : bt s p = b) (h : p < s.size) (hb : ¬ b < 128) : rvF s (f + 1) p k q n = rvF s f (p + 1) (k + 1) (q * 128) (n + b % 128 * q) := by
  subst hB; exact rvF_more s f p k q n h hb
theorem rvF_lastB {s : ByteArray} {f p k q n b : Nat} (hB : bt s p = b) (h : p < s.size) (hb : b < 128) (hn : n + b % 128 * q ≤ 1000000000) (hk : 0 < b ∨ k = 0) : rvF s (f + 1) p k q n = some (n + b % 128 * q, p + 1) := by
  subst hB; exact rvF_last s f p k q n h hb hn hk
theorem rvF_notB {s : ByteArray} {f p k q n b : Nat} (hB : bt s p = b) (hb : b < 128) (hn : ¬ (n + b % 128 * q ≤ 1000000000 ∧ (0 < b ∨ k = 0))) : rvF s (f + 1) p k q n = none := by
  subst hB; exact rvF_not s f p k q n hb hn
def rv (s : ByteArray) (i : Nat) : Option (Nat × Nat) := rvF s 5 i 0 1 0
def valF (s : ByteArray) : Nat → Nat → Nat
  | _, 0 => 0
  | i, k + 1 => bt s i % 128 + 128 * valF s (i + 1) k
def subF (s : ByteArray) : Nat → Nat → List UInt8
  | _, 0 => []
  | i, k + 1 => UInt8.ofNat (bt s i) :: subF s (i + 1) k
theorem subF_length (s : ByteArray) : ∀ k i, (subF s i k).length = k
  | 0, _ => rfl
  | k + 1, i => by simp [subF, subF_length s k (i + 1)]
theorem valF_snoc (s : ByteArray) : ∀ k i, valF s i (k + 1) = valF s i k + bt s (i + k) % 128 * 128 ^ k
  | 0, i => by simp [valF]
  | k + 1, i => by
    rw [valF, valF_snoc s k (i + 1), valF, Nat.pow_succ, show i + 1 + k = i + (k + 1) from by omega, Nat.mul_add, ← Nat.mul_assoc, Nat.mul_comm 128 (bt s (i + (k + 1)) % 128), Nat.mul_assoc, Nat.mul_comm 128 (128 ^ k), Nat.add_assoc]
theorem valF_zero (s : ByteArray) (k i : Nat) (h : valF s i (k + 1) = 0) : bt s (i + k) % 128 = 0 := by
  rw [valF_snoc] at h
  have h1 : bt s (i + k) % 128 * 128 ^ k = 0 := by omega
  rcases Nat.mul_eq_zero.1 h1 with h2 | h2
  · exact h2
  · have := Nat.pow_pos (n := k) (show 0 < 128 by omega); omega
theorem canonF (s : ByteArray) : ∀ k i f, (∀ j, j < k → 128 ≤ bt s (i + j)) → bt s (i + k) < 128 → k < f → (varF f (valF s i (k + 1)) = subF s i (k + 1) ↔ (0 < bt s (i + k) ∨ k = 0))
  | 0, i, f, _, hb, hf => by
    obtain ⟨g, rfl⟩ : ∃ g, f = g + 1 := ⟨f - 1, by omega⟩
    have hb' : bt s i < 128 := hb
    have hv : valF s i (0 + 1) = bt s i := by simp [valF]; omega
    rw [hv, varF_low g _ hb']
    simp [subF]
  | k + 1, i, f, hj, hb, hf => by
    obtain ⟨g, rfl⟩ : ∃ g, f = g + 1 := ⟨f - 1, by omega⟩
    have hc : 128 ≤ bt s i := hj 0 (by omega)
    have hc2 := bt_lt s i
    have ih := canonF s k (i + 1) g (fun j hjk => by have := hj (j + 1) (by omega); rw [show i + 1 + j = i + (j + 1) from by omega]; exact this) (by rw [show i + 1 + k = i + (k + 1) from by omega]; exact hb) (by omega)
    rw [show i + 1 + k = i + (k + 1) from by omega] at ih
    have hv : valF s i (k + 1 + 1) = bt s i % 128 + 128 * valF s (i + 1) (k + 1) := rfl
    have hs : subF s i (k + 1 + 1) = UInt8.ofNat (bt s i) :: subF s (i + 1) (k + 1) := rfl
    rw [hv, hs]
    by_cases hV : valF s (i + 1) (k + 1) = 0
    · have hz := valF_zero s k (i + 1) hV
      rw [show i + 1 + k = i + (k + 1) from by omega] at hz
      rw [varF_low g _ (by omega)]
      constructor
      · intro h
        have := congrArg List.length h
        simp [subF_length] at this
      · intro h; omega
    · rw [varF_high g _ (by omega), show (bt s i % 128 + 128 * valF s (i + 1) (k + 1)) % 128 + 128 = bt s i from by omega, show (bt s i % 128 + 128 * valF s (i + 1) (k + 1)) / 128 = valF s (i + 1) (k + 1) from by omega]
      constructor
      · intro h
        have h2 := ih.1 (List.cons.inj h).2
        rcases h2 with h2 | h2
        · exact .inl h2
        · subst h2
          have e : valF s (i + 1) (0 + 1) = bt s (i + 1) % 128 := by simp [valF]
          rw [e] at hV
          left; show 0 < bt s (i + 1); omega
      · intro h
        rw [ih.2 (by omega)]
theorem subF_extract (s : ByteArray) (i k : Nat) (h : i + k ≤ s.size) : (s.extract i (i + k)).data.toList = subF s i k := by
  apply List.ext_getElem
  · simp [subF_length]
    have : s.data.size = s.size := rfl
    omega
  · intro n h1 h2
    rw [subF_length] at h2
    have key : ∀ k i n (hn : n < k) (hk : i + k ≤ s.size), (subF s i k)[n]'(by rw [subF_length]; exact hn) = s[i + n]'(by omega) := by
      intro k
      induction k with
      | zero => intro i n hn; omega
      | succ k ih =>
        intro i n hn hk
        cases n with
        | zero =>
          have := bt_eq s i (by omega)
          simp [subF, ← this]
        | succ n =>
          have := ih (i + 1) n (by omega) (by omega)
          simp only [subF, List.getElem_cons_succ, this]
          congr 1; omega
    rw [key k i n h2 h]
    simp
    rfl
def figI (x : Int) : Int := if x < 10 then 48 + x else 87 + x
theorem figI_low (x : Int) (h : x < 10) : figI x = 48 + x := by simp [figI, h]
theorem figI_high (x : Int) (h : ¬ x < 10) : figI x = 87 + x := by simp [figI, h]
theorem figI_bd (x : Int) (h0 : 0 ≤ x) (h1 : x < 16) : 48 ≤ figI x ∧ figI x ≤ 102 := by unfold figI; split <;> omega
def figB (x : Nat) : UInt8 := UInt8.ofNat (figI x).toNat
theorem figB_val (x : Nat) (h : x < 16) : ((figB x).toNat : Int) = figI x := by
  have := figI_bd x (by omega) (by omega)
  simp only [figB, UInt8.toNat_ofNat']
  omega
def decA : Nat → Nat → List UInt8 → List UInt8
  | 0, _, acc => acc
  | f + 1, n, acc => if n = 0 then acc else decA f (n / 10) (figB (n % 10) :: acc)
theorem decA_zero (f : Nat) (acc : List UInt8) : decA f 0 acc = acc := by cases f <;> simp [decA]
theorem decA_step (f n : Nat) (acc : List UInt8) (h : n ≠ 0) : decA (f + 1) n acc = decA f (n / 10) (figB (n % 10) :: acc) := by simp [decA, h]
def decS (n : Int) : List UInt8 := if n = 0 then [48] else if n < 0 then 45 :: decA 20 n.natAbs [] else decA 20 n.natAbs []
theorem decA_length : ∀ f n acc m, n < 10 ^ m → (decA f n acc).length ≤ acc.length + m
  | 0, n, acc, m, _ => by simp [decA]
  | f + 1, n, acc, m, h => by
    by_cases h0 : n = 0
    · subst h0; rw [decA_zero]; omega
    · rw [decA_step f n acc h0]
      cases m with
      | zero => simp at h; omega
      | succ m =>
        have := decA_length f (n / 10) (figB (n % 10) :: acc) m (Nat.div_lt_of_lt_mul (by rw [Nat.mul_comm, ← Nat.pow_succ]; exact h))
        simp at this
        omega
def numF (s : ByteArray) : Nat → Nat
  | 0 => 0
  | k + 1 => 10 * numF s k + (bt s k - 48)
def digs (s : ByteArray) (k : Nat) : Prop := ∀ p, p < k → 48 ≤ bt s p ∧ bt s p ≤ 57
theorem numF_lt (s : ByteArray) : ∀ k, digs s k → numF s k < 10 ^ k
  | 0, _ => by simp [numF]
  | k + 1, h => by
    have ih := numF_lt s k (fun p hp => h p (by omega))
    have := h k (by omega)
    rw [numF, Nat.pow_succ]
    omega
theorem numF_lead (s : ByteArray) (h0 : bt s 0 = 48) : ∀ k, digs s (k + 1) → numF s (k + 1) < 10 ^ k
  | 0, _ => by simp [numF, h0]
  | k + 1, h => by
    have ih := numF_lead s h0 k (fun p hp => h p (by omega))
    have := h (k + 1) (by omega)
    rw [numF, Nat.pow_succ]
    omega
theorem numF_pos (s : ByteArray) (h0 : bt s 0 ≠ 48) : ∀ k, digs s (k + 1) → 0 < numF s (k + 1)
  | 0, h => by have := h 0 (by omega); simp [numF]; omega
  | k + 1, h => by
    have ih := numF_pos s h0 k (fun p hp => h p (by omega))
    rw [numF]; omega
def tl (s : ByteArray) : Nat → Nat → List UInt8
  | _, 0 => []
  | k, n + 1 => UInt8.ofNat (bt s k) :: tl s (k + 1) n
theorem tl_length (s : ByteArray) : ∀ n k, (tl s k n).length = n
  | 0, _ => rfl
  | n + 1, k => by simp [tl, tl_length s n (k + 1)]
theorem figB_digit (s : ByteArray) (k : Nat) (h : 48 ≤ bt s k ∧ bt s k ≤ 57) : figB (bt s k - 48) = UInt8.ofNat (bt s k) := by
  unfold figB
  rw [figI_low _ (by omega)]
  congr 1
  omega
theorem decA_back (s : ByteArray) (L : Nat) (hd : digs s L) (h0 : bt s 0 ≠ 48) : ∀ k f, k ≤ L → k ≤ f → decA f (numF s k) (tl s k (L - k)) = tl s 0 L
  | 0, f, _, _ => by simp [numF, decA_zero]
  | k + 1, f, hk, hf => by
    obtain ⟨g, rfl⟩ : ∃ g, f = g + 1 := ⟨f - 1, by omega⟩
    have hp := numF_pos s h0 k (fun p hp => hd p (by omega))
    have hdk := hd k (by omega)
    rw [decA_step g _ _ (by omega)]
    have e1 : numF s (k + 1) / 10 = numF s k := by rw [numF]; omega
    have e2 : numF s (k + 1) % 10 = bt s k - 48 := by rw [numF]; omega
    rw [e1, e2, figB_digit s k hdk]
    have e3 : UInt8.ofNat (bt s k) :: tl s (k + 1) (L - (k + 1)) = tl s k (L - k) := by
      rw [show L - k = (L - (k + 1)) + 1 from by omega]; rfl
    rw [e3]
    exact decA_back s L hd h0 k g (by omega) (by omega)
theorem tl_all (s : ByteArray) : tl s 0 s.size = s.data.toList := by
  have key : ∀ n k p (hp : p < n) (hk : k + n ≤ s.size), (tl s k n)[p]'(by rw [tl_length]; exact hp) = s[k + p]'(by omega) := by
    intro n
    induction n with
    | zero => intro k p hp; omega
    | succ n ih =>
      intro k p hp hk
      cases p with
      | zero =>
        have := bt_eq s k (by omega)
        simp [tl, ← this]
      | succ p =>
        have := ih (k + 1) p (by omega) (by omega)
        simp only [tl, List.getElem_cons_succ, this]
        congr 1; omega
  apply List.ext_getElem
  · rw [tl_length]; rfl
  · intro p h1 h2
    rw [tl_length] at h1
    rw [key s.size 0 p h1 (by omega)]
    simp
    rfl
theorem dec_canon (s : ByteArray) (hd : digs s s.size) (h10 : s.size ≤ 10) : decS (numF s s.size) = s.data.toList ↔ (s.size ≠ 0 ∧ (s.size = 1 ∨ bt s 0 ≠ 48)) := by
  rw [← tl_all]
  generalize hL : s.size = L at *
  constructor
  · intro h
    have hlen := congrArg List.length h
    rw [tl_length] at hlen
    cases L with
    | zero => simp [numF, decS] at hlen
    | succ k =>
      refine ⟨by omega, ?_⟩
      by_cases h0 : bt s 0 = 48
      · left
        have hb := numF_lead s h0 k hd
        by_cases hz : numF s (k + 1) = 0
        · rw [hz] at hlen; simp [decS] at hlen; omega
        · have := decA_length 20 (numF s (k + 1)) [] k hb
          have e : decS (numF s (k + 1)) = decA 20 (numF s (k + 1)) [] := by
            unfold decS; rw [if_neg (by omega), if_neg (by omega), Int.natAbs_natCast]
          rw [e] at hlen
          simp at this
          omega
      · exact .inr h0
  · rintro ⟨h1, h2⟩
    by_cases h0 : bt s 0 = 48
    · have : L = 1 := by omega
      subst this
      simp [numF, h0, decS, tl]
    · obtain ⟨k, rfl⟩ : ∃ k, L = k + 1 := ⟨L - 1, by omega⟩
      have hp := numF_pos s h0 k hd
      have e : decS (numF s (k + 1)) = decA 20 (numF s (k + 1)) [] := by
        unfold decS; rw [if_neg (by omega), if_neg (by omega), Int.natAbs_natCast]
      rw [e]
      have := decA_back s (k + 1) hd h0 (k + 1) 20 (Nat.le_refl _) (by omega)
      simpa [tl] using this
end Wd
end Go.Proofs.YtlcfblodflgleaaGreatDoor
namespace Go.Proofs.YtlcfblodflgleaaGreatDoor
open Go.RowKit
theorem Tryz.info5 : (Tryz.prog.info? 5).map (fun i => (i.zero, i.size, i.bytes)) = some (some (.int .u8 0), 1, 1) := by kernel_rfl
theorem Tryz.cells5 : Tryz.prog.cellsOf 5 = 1 := by kernel_rfl
theorem l01In_any (x a b : Int) (w : World) : Calls Tryz.prog 64 #[.int .i64 x, .int .i64 a, .int .i64 b] w fun e w' => e = .returned (.bool (decide (a ≤ x) && decide (x ≤ b))) ∧ w' = w := by
  by_cases h : a ≤ x
  · have h' : decide (a ≤ x) = true := by simp; omega
    rw [h', Bool.true_and]
    go_enter Tryz.func64, Tryz.ntmps64
    go_wp2
    go_ret
    exact ⟨rfl, rfl⟩
  · have h' : decide (a ≤ x) = false := by simp; omega
    rw [h', Bool.false_and]
    go_enter Tryz.func64, Tryz.ntmps64
    go_wp2
    go_ret
    exact ⟨rfl, rfl⟩
theorem l01In_val (x a b : Int) (c : Bool) (w : World) (h : (decide (a ≤ x) && decide (x ≤ b)) = c) : Calls Tryz.prog 64 #[.int .i64 x, .int .i64 a, .int .i64 b] w fun e w' => e = .returned (.bool c) ∧ w' = w := h ▸ l01In_any x a b w
structure FileD where
  name : ByteArray
  text : ByteArray
  kept : Int
def FilesAt (w : World) (ao : Option Addr) (fs : List FileD) : Prop := ∀ j (h : j < fs.length), ∃ b off : Nat, ao = some ⟨b, off, none⟩ ∧ b < w.heap.size ∧
  w.cell? ⟨b, off + j * 3, none⟩ = some (.string fs[j].name) ∧ w.cell? ⟨b, off + j * 3 + 1, none⟩ = some (.string fs[j].text) ∧ w.cell? ⟨b, off + j * 3 + 2, none⟩ = some (.int .i64 fs[j].kept)
theorem filesAt_keep {w w' : World} {ao : Option Addr} {fs : List FileD} (h : FilesAt w ao fs) (hb : Below w.heap.size w w') : FilesAt w' ao fs := by
  intro j hj
  obtain ⟨b, off, h1, h2, h3, h4, h5⟩ := h j hj
  exact ⟨b, off, h1, Nat.lt_of_lt_of_le h2 hb.size, (hb.cell (p := ⟨b, off + j * 3, none⟩) h2).trans h3, (hb.cell (p := ⟨b, off + j * 3 + 1, none⟩) h2).trans h4, (hb.cell (p := ⟨b, off + j * 3 + 2, none⟩) h2).trans h5⟩
def szF (F : FileD) (n : Int) : Int := if n < F.name.size then -1 else if n < F.name.size + F.text.size then -1 else n - F.name.size - F.text.size
theorem szFile_any (F : FileD) (n : Int) (w : World) (h0 : 0 ≤ n) (h1 : n ≤ 1048576) (hN : F.name.size ≤ maxLen) (hX : F.text.size ≤ maxLen) :
    Calls Tryz.prog 89 #[.agg #[.string F.name, .string F.text, .int .i64 F.kept], .int .i64 n] w fun e w' => e = .returned (.int .i64 (szF F n)) ∧ Below w.heap.size w w' := by
  obtain ⟨a, b, k⟩ := F
  simp only [szF] at hN hX ⊢
  unfold maxLen at hN hX
  by_cases h2 : n < a.size
  · have h2' : decide (n - (a.size : Int) < 0) = true := by simp; omega
    rw [if_pos h2]
    go_enter Tryz.func89, Tryz.ntmps89
    go_wp2
    go_ret
    exact ⟨rfl, (Below.refl _ w).alloc (Nat.le_refl _) _⟩
  · have h2' : decide (n - (a.size : Int) < 0) = false := by simp; omega
    rw [if_neg h2]
    by_cases h3 : n < a.size + b.size
    · have h3' : decide (n - (a.size : Int) - (b.size : Int) < 0) = true := by simp; omega
      rw [if_pos h3]
      go_enter Tryz.func89, Tryz.ntmps89
      go_wp2
      go_ret
      exact ⟨rfl, (Below.refl _ w).alloc (Nat.le_refl _) _⟩
    · have h3' : decide (n - (a.size : Int) - (b.size : Int) < 0) = false := by simp; omega
      rw [if_neg h3]
      go_enter Tryz.func89, Tryz.ntmps89
      go_wp2
      go_ret
      exact ⟨rfl, (Below.refl _ w).alloc (Nat.le_refl _) _⟩
theorem eqFile_same (F : FileD) (w : World) :
    Calls Tryz.prog 121 #[.agg #[.string F.name, .string F.text, .int .i64 F.kept], .agg #[.string F.name, .string F.text, .int .i64 F.kept]] w fun e w' => e = .returned (.bool true) ∧ Below w.heap.size w w' := by
  obtain ⟨a, b, k⟩ := F
  have h1 : (a.toList == a.toList) = true := beq_self_eq_true _
  have h2 : (b.toList == b.toList) = true := beq_self_eq_true _
  have h3 : (k == k) = true := beq_self_eq_true _
  go_enter Tryz.func121, Tryz.ntmps121
  go_wp2
  go_ret
  exact ⟨rfl, ((Below.refl _ w).alloc (Nat.le_refl _) _).alloc (by simp) _⟩
theorem toFile_any (F : FileD) (w : World) :
    Calls Tryz.prog 103 #[.agg #[.string F.name, .string F.text, .int .i64 F.kept]] w fun e w' => e = .returned (.agg #[.string F.name, .string F.text, .int .i64 F.kept]) ∧ Below w.heap.size w w' := by
  obtain ⟨a, b, k⟩ := F
  go_enter Tryz.func103, Tryz.ntmps103
  go_wp2
  refine bodyPost_ret (v := .agg #[.string a, .string b, .int .i64 k]) (by simp [results, Tryz.results103, go_sem]) rfl ⟨rfl, ?_⟩
  exact (((Below.refl _ w).alloc (Nat.le_refl _) _).alloc (by simp) _).alloc (by simp; omega) _
def szFs : List FileD → Int → Int
  | [], n => n
  | F :: r, n => if szF F n < 0 then -1 else szFs r (szF F n)
theorem szF_le (F : FileD) (n : Int) (h : 0 ≤ n) : szF F n ≤ n := by
  unfold szF; split
  · omega
  · split <;> omega
theorem szFileS_any (fs : List FileD) (ao : Option Addr) (cap : Nat) (n : Int) (w : World) (h0 : 0 ≤ n) (h1 : n ≤ 1048576) (hl : fs.length ≤ maxLen) (hfs : FilesAt w ao fs) (hsz : ∀ F ∈ fs, F.name.size ≤ maxLen ∧ F.text.size ≤ maxLen) :
    Calls Tryz.prog 46 #[.slice ao fs.length cap, .int .i64 n] w fun e w' => e = .returned (.int .i64 (if n < fs.length then -1 else szFs fs (n - fs.length))) ∧ Below w.heap.size w w' := by
  have HF := hide hfs
  have HS := hide hsz
  clear hfs hsz
  unfold maxLen at hl
  by_cases hn : n < fs.length
  · have hn' : decide (n - (fs.length : Int) < 0) = true := by simp; omega
    rw [if_pos hn]
    go_enter Tryz.func46, Tryz.ntmps46
    go_wp2
    go_ret
    exact ⟨rfl, Below.refl _ _⟩
  · have hn' : decide (n - (fs.length : Int) < 0) = false := by simp; omega
    rw [if_neg hn]
    obtain ⟨R, HR⟩ : ∃ R, Hid (szFs fs (n - fs.length) = R) := ⟨_, rfl⟩
    rw [HR.out]
    go_enter Tryz.func46, Tryz.ntmps46
    go_wp2
    go_loopw [1, 5] (fun m ii wr => ∃ (k : Nat) (x : Int), ii = .int .i64 k ∧ m = .int .i64 x ∧ k ≤ fs.length ∧ 0 ≤ x ∧ x ≤ 1048576 ∧ Hid (szFs (fs.drop k) x = R) ∧ Hid (Below w.heap.size w wr)) (fun _ ii _ => fs.length - (intOf ii).toNat)
    case atStart => exact ⟨0, n - fs.length, rfl, rfl, Nat.zero_le _, by omega, by omega, HR.out, Below.refl _ _⟩
    case round =>
      obtain ⟨k, x, rfl, rfl, hk, hx0, hx1, HX, HB⟩ := hrel
      by_cases hlt : k < fs.length
      · have hlt' : decide ((k : Int) < (fs.length : Int)) = true := by simp; omega
        obtain ⟨b, off, rfl, hbw, hc0, hc1, hc2⟩ := filesAt_keep HF.out HB.out k hlt
        obtain ⟨hs1, hs2⟩ := HS.out fs[k] (List.getElem_mem hlt)
        have HD : Hid (szFs (fs.drop k) x = if szF fs[k] x < 0 then -1 else szFs (fs.drop (k + 1)) (szF fs[k] x)) := by show _ = _; rw [List.drop_eq_getElem_cons hlt]; rfl
        have hle := szF_le fs[k] x hx0
        generalize fs[k] = F at hc0 hc1 hc2 hs1 hs2 HD hle
        have hi0 : (0 : Int) ≤ (k : Int) := by omega
        have hi1 : (k : Int) < (fs.length : Int) := by omega
        go_wp2_with fail
        refine (szFile_any F x _ hx0 hx1 hs1 hs2).mono ?_
        rintro e w1 ⟨rfl, b1⟩
        have HB1 := hide (HB.out.trans (b1.mono HB.out.size))
        clear b1 hc0 hc1 hc2
        generalize szF F x = y at HD hle
        by_cases hneg : y < 0
        · have hneg' : decide (y < 0) = true := by simp; omega
          have hR : Hid (R = -1) := by show _ = _; rw [← HX.out, HD.out, if_pos hneg]
          go_wp2
          go_ret
          rw [hR.out]
          exact ⟨rfl, HB1.out⟩
        · have hneg' : decide (y < 0) = false := by simp; omega
          have hR : Hid (szFs (fs.drop (k + 1)) y = R) := by show _ = _; rw [← HX.out, HD.out, if_neg hneg]
          go_wp2
          go_roundw
          case rel => exact ⟨k + 1, y, by go_num, rfl, by omega, by omega, by omega, hR, HB1⟩
          case measure => simp [intOf]; omega
      · have hlt' : decide ((k : Int) < (fs.length : Int)) = false := by simp; omega
        have hR : Hid (x = R) := by show _ = _; rw [← HX.out, List.drop_eq_nil_of_le (by omega)]; rfl
        go_wp2
        go_ret
        rw [← hR.out]
        exact ⟨rfl, HB.out⟩
theorem szDisk_any (fs : List FileD) (ao : Option Addr) (cap : Nat) (n : Int) (w : World) (h0 : 0 ≤ n) (h1 : n ≤ 1048576) (hl : fs.length ≤ maxLen) (hfs : FilesAt w ao fs) (hsz : ∀ F ∈ fs, F.name.size ≤ maxLen ∧ F.text.size ≤ maxLen) :
    Calls Tryz.prog 22 #[.agg #[.slice ao fs.length cap], .int .i64 n] w fun e w' => (∃ r : Int, e = .returned (.int .i64 r) ∧ (0 ≤ r → r = szFs fs (n - fs.length) ∧ (fs.length : Int) ≤ n)) ∧ Below w.heap.size w w' := by
  have HF := hide hfs
  have HS := hide hsz
  clear hfs hsz
  go_enter Tryz.func22, Tryz.ntmps22
  go_wp2_with fail
  refine (szFileS_any fs ao cap n _ h0 h1 hl (filesAt_keep HF.out ((Below.refl _ w).alloc (Nat.le_refl _) _)) HS.out).mono ?_
  rintro e w1 ⟨rfl, b1⟩
  obtain ⟨R, HR⟩ : ∃ R : Int, Hid ((if n < fs.length then -1 else szFs fs (n - fs.length)) = R) := ⟨_, rfl⟩
  rw [HR.out]
  have B1 : Hid (Below w.heap.size w w1) := ((Below.refl _ w).alloc (Nat.le_refl _) _).trans (b1.mono (by simp))
  clear b1
  by_cases hneg : R < 0
  · have hneg' : decide (R < 0) = true := by simp; omega
    go_wp2
    go_ret
    exact ⟨⟨-1, rfl, fun h => absurd h (by decide)⟩, B1.out⟩
  · have hneg' : decide (R < 0) = false := by simp; omega
    go_wp2
    go_ret
    refine ⟨⟨R, rfl, fun _ => ?_⟩, B1.out⟩
    have := HR.out
    split at this
    · omega
    · exact ⟨this.symm, by omega⟩
end Go.Proofs.YtlcfblodflgleaaGreatDoor
