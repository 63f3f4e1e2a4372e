/- The parts of a line: the specification's own. -/
import Derived.Test.YtpkgnpckolhjgahDoorStrs
import Derived.Test.YtpkgnpckolhjgahDoorWords
namespace Go.Proofs.YtpkgnpckolhjgahDoor
open Go.RowKit

theorem Tryd.info9 : (Tryd.prog.info? 9).map (fun i => (i.zero, i.size, i.bytes)) = some (some (.string ⟨#[]⟩), 1, 16) := by kernel_rfl

/-- A slice of texts of the call's own, with one text put behind it. -/
theorem app_str {ops : Array Oper} {rest : List Oper} {o : Oper} {a : Act} {Q : Exit → Act → World → Prop} {x : ByteArray} (wr : World) (w : World) (B : Nat) (hgd : o.guard = none) (s y : Operand)
    (ho : o.op = .call { callee := .builtin .append, args := #[s, y], argTypes := #[24, 24] }) (v : Value) (l : List (List UInt8)) (hs : a.eval s = v)
    (hown : wr.ownsRow B 9 1 v l.length (l.map sv)) (hx : a.eval y = .slice (some ⟨wr.heap.size, 0, none⟩) 1 1)
    (hlen : l.length ≤ 1000000) (hbel : Below B w wr) (hbase : B ≤ wr.heap.size)
    (h : ∀ v' w', w'.ownsRow B 9 1 v' (l ++ [x.data.toList]).length ((l ++ [x.data.toList]).map sv) → Below B w w' → wr.heap.size ≤ w'.heap.size → wpList Tryd.prog ops Q rest (a.put o.dst v') w') :
    wpList Tryd.prog ops Q (o :: rest) a (wr.alloc (.cells #[.string x] 9)) := by
  obtain ⟨i0, hi, hz0, hz1, hz2⟩ := info_parts Tryd.info9
  have hsz : wr.heap.size ≤ (wr.alloc (.cells #[.string x] 9)).heap.size := by simp
  refine wpList_append_own _ hgd s y 24 ho B 9 i0 (.string ⟨#[]⟩) 1 16 Tryd.underlying24 hi hz0 hz1 hz2 rfl (by decide) v l.length (l.map sv) hs (hown.alloc _) ⟨wr.heap.size, 0, none⟩ 1 1 [.string x] hx rfl
    (fun j u hj => cells_new wr #[.string x] 9 j u hj) (by intro u hu; simp at hu; subst hu; rfl) (by unfold maxLen; omega) (by omega) (by omega) ?_
  intro v' w' hown' hgrow _
  have hlt := hown.lt
  have hb1 : Below B w (wr.alloc (.cells #[.string x] 9)) := hbel.alloc hbase _
  refine h v' w' ?_ (hb1.grown hgrow (by omega) (fun k hk => (hlt k hk).1)) (Nat.le_trans hsz hgrow.size)
  have e : (l ++ [x.data.toList]).map sv = l.map sv ++ [.string x] := by
    rw [List.map_append]
    cases x
    simp [sv]
  rw [e, List.length_append]
  exact hown'

/-- All bytes of the text are plain. -/
def Wd.plain (s : ByteArray) (k : Nat) : Prop := ∀ p, p < k → 32 ≤ Wd.bt s p ∧ Wd.bt s p ≤ 126

/-- The line is right. -/
def Wd.right (s : ByteArray) : Prop := s.size ≤ 600 ∧ Wd.plain s s.size ∧ (Wd.words s).length ≤ 10

/-- What the parts of a line are: its words, or none. -/
def PartsLeft (s : ByteArray) (w : World) (e : Ending) (w' : World) : Prop :=
  Below w.heap.size w w' ∧ ((Wd.right s ∧ ∃ v, e = .returned (.tuple #[v, .bool true]) ∧ w'.ownsRow w.heap.size 9 1 v (Wd.words s).length ((Wd.words s).map sv)) ∨
    (¬ Wd.right s ∧ ∃ v, e = .returned (.tuple #[v, .bool false]) ∧ w'.ownsRow w.heap.size 9 1 v 0 []))

theorem specParts_long (s : ByteArray) (w : World) (ws : s.size ≤ 1048576) (h : 600 < s.size) : Calls Tryd.prog 7 #[.string s] w (PartsLeft s w) := by
  have hno : Hid (¬ Wd.right s) := fun hr => by have := hr.1; omega
  go_enter Tryd.func7, Tryd.ntmps7
  go_wp2
  go_ret2
  exact ⟨(Below.refl _ _).alloc (Nat.le_refl _) _, .inr ⟨hno.out, _, rfl, World.ownsRow_lit w #[] 0 (Nat.le_refl _) (by unfold maxLen; omega) (by simp)⟩⟩

theorem drop_cons (s : ByteArray) (i : Nat) (h : i < s.size) : s.data.toList.drop i = UInt8.ofNat (Wd.bt s i) :: s.data.toList.drop (i + 1) := by
  rw [List.drop_eq_getElem_cons (by simpa using h)]
  congr 1
  have := Wd.bt_eq s i h
  rw [← this]
  simp
  rfl

/-- The bytes from b up to i. -/
def sub (s : ByteArray) (b i : Nat) : List UInt8 := (s.data.toList.drop b).take (i - b)
theorem sub_snoc (s : ByteArray) (b i : Nat) (hb : b ≤ i) (hi : i < s.size) : sub s b (i + 1) = sub s b i ++ [UInt8.ofNat (Wd.bt s i)] := by
  unfold sub
  rw [show i + 1 - b = (i - b) + 1 from by omega, List.take_succ_eq_append_getElem (by simp; omega)]
  congr 2
  have := Wd.bt_eq s i hi
  rw [← this]
  simp [show b + (i - b) = i from by omega]
  rfl
theorem sub_nil (s : ByteArray) (b : Nat) : sub s b b = [] := by unfold sub; simp
theorem sub_ne (s : ByteArray) (b i : Nat) (hb : b < i) (hi : i ≤ s.size) : sub s b i ≠ [] := by
  intro h
  have := congrArg List.length h
  unfold sub at this
  simp at this
  have hs : s.data.size = s.size := rfl
  omega
theorem sub_extract (s : ByteArray) (b i : Nat) : (s.extract b i).data.toList = sub s b i := Lib.extract_data s b i

theorem bt32 (s : ByteArray) (i b : Nat) (hb : Wd.bt s i = b) : (UInt8.ofNat (Wd.bt s i) = 32) ↔ b = 32 := by
  have := Wd.bt_lt s i
  rw [hb] at this ⊢
  constructor
  · intro h
    have := congrArg UInt8.toNat h
    simp only [UInt8.toNat_ofNat'] at this
    have e : (32 : UInt8).toNat = 32 := rfl
    omega
  · intro h; subst h; rfl
end Go.Proofs.YtpkgnpckolhjgahDoor
