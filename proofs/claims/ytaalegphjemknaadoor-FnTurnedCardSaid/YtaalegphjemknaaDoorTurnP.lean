/- Plain facts for the law on turned bytes. -/
import Derived.Test.YtaalegphjemknaaDoorSumI2
import Derived.Test.YtaalegphjemknaaDoorDraw6
namespace Go.Proofs.YtaalegphjemknaaDoor
open Go.RowKit

theorem ba_ext {a b : ByteArray} (h : a.data.toList = b.data.toList) : a = b := ByteArray.ext (Array.toList_inj.1 h)

theorem sealB_of (l : List UInt8) : sealB ⟨l.toArray⟩ = ⟨(sealL l).toArray⟩ := ba_ext (by rw [sealB_list])
theorem headB_of (L : List UInt8) : headB ⟨L.toArray⟩ = ⟨(L.take (L.length - 4)).toArray⟩ := by
  apply ba_ext
  simp [headB, ByteArray.data_extract, ByteArray.size]

theorem head_seal (l : List UInt8) : headB ⟨(sealL l).toArray⟩ = ⟨l.toArray⟩ := by
  rw [headB_of, seal_length, Nat.add_sub_cancel]
  congr 2
  simp [sealL]
theorem seal_back (l : List UInt8) : sealB (headB ⟨(sealL l).toArray⟩) = ⟨(sealL l).toArray⟩ := by rw [head_seal, sealB_of]

theorem turned_not (l : List UInt8) (i : Nat) (h : i < (sealL l).length) (c : UInt8) (hc : (sealL l)[i] ≠ c) : sealB (headB ⟨((sealL l).set i c).toArray⟩) ≠ ⟨((sealL l).set i c).toArray⟩ := by
  intro e
  rw [headB_of, sealB_of] at e
  have e2 := congrArg (fun x : ByteArray => x.data.toList) e
  simp only [List.length_set, seal_length, Nat.add_sub_cancel] at e2
  exact sealL_set l i h c hc e2

theorem sum_goes_on (s : ByteArray) : sumB (sumB 4294967295 s) ⟨#[120]⟩ = sumB 4294967295 (s ++ ⟨#[120]⟩) := by
  unfold sumB
  rw [show (s ++ ⟨#[120]⟩ : ByteArray).data.toList = s.data.toList ++ [120] by simp, sumL_app]

theorem code_keep {w0 w : World} {ao : Option Addr} {len : Nat} (h : Code w0 ao len) (hb : Below w0.heap.size w0 w) : Code w ao len := by
  intro j hj
  obtain ⟨b, off, z, h1, h2, h3, h4⟩ := h j hj
  exact ⟨b, off, z, h1, Nat.lt_of_lt_of_le h2 hb.size, (hb.cell (p := ⟨b, off + j, none⟩) h2).trans h3, h4⟩

theorem xor_ne {b k : Nat} (hk : 0 < k) : b ^^^ k ≠ b := by
  intro e
  have e2 := congrArg (b ^^^ ·) e
  simp [← Nat.xor_assoc] at e2
  omega

theorem big_any (w : World) (ao : Option Addr) (len cap : Nat) :
    Calls Tryd.prog 5 #[.slice ao len cap] w fun e w' => e = .returned (.bool (decide (1048576 < (len : Int)))) ∧ w' = w := by
  go_enter Tryd.func5, Tryd.ntmps5
  go_wp2
  go_ret
  exact ⟨rfl, rfl⟩
end Go.Proofs.YtaalegphjemknaaDoor
