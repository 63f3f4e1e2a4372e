/- The specification's BatchOk (written by tools/gen_batch.py). -/
import Derived.Test.YtbenmgokhklnjaaBatchP
namespace Go.Proofs.Ytbenmgokhklnjaa
open Go.RowKit

theorem list_nil_of_size {s : ByteArray} (h : s.size = 0) : s.toList = [] := List.eq_nil_of_length_eq_zero (by rw [ByteArray.toList_eq, Array.length_toList]; exact h)
theorem list_ne_of_size {s : ByteArray} (h : ¬ s.size = 0) : ¬ s.toList = [] := fun e => h (by have h0 := congrArg List.length e; rw [ByteArray.toList_eq, Array.length_toList] at h0; exact h0)
end Go.Proofs.Ytbenmgokhklnjaa
