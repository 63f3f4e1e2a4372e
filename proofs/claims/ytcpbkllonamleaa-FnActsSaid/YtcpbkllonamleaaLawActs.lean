/- The law FnActs: drawn acts are done as the document says, one by one too; what is added stands behind, what is dropped is gone; and cut acts. -/
import Derived.Test.YtcpbkllonamleaaActsM
import Derived.Test.YtcpbkllonamleaaDrawCu
import Derived.Test.YtcpbkllonamleaaCutSO
import Derived.Test.YtcpbkllonamleaaActI
import Derived.Test.YtcpbkllonamleaaFileAt
import Derived.Test.YtcpbkllonamleaaLefts
import Derived.BigQuiet
namespace Go.Proofs.Ytcpbkllonamleaa
open Go.RowKit

theorem fileAt_val (fs : List FileD) (ao : Option Addr) (cap : Nat) (nm : ByteArray) (w : World) (hl : fs.length ≤ 1048576) (hfs : FilesAt w ao fs) (hsz : ∀ F ∈ fs, F.name.size ≤ 1048576 ∧ F.text.size ≤ 1048576) :
    Calls Try.prog 18 #[.agg #[.slice ao fs.length cap], .string nm] w fun e w' => e = .returned (.tuple #[.string (textAt fs nm), .bool (fileD fs nm).isSome]) ∧ Below w.heap.size w w' := by
  refine (fileAt_any fs ao cap nm w hl hfs hsz).mono ?_
  rintro e w' ⟨h, hb⟩
  refine ⟨?_, hb⟩
  rcases h with ⟨h1, rfl⟩ | ⟨F, h1, _, rfl⟩
  · unfold textAt; rw [h1]; rfl
  · unfold textAt; rw [h1]; rfl

theorem own_cap {w : World} {B t s n m cp : Nat} {p : Addr} {ks : List Value} (h : w.ownsRow B t s (.slice (some p) n cp) m ks) : n ≤ cp := by
  obtain ⟨_, h⟩ := h
  rcases h with h | ⟨b, cp, C, e, _, _, _, _, _⟩
  · cases h.1
  · cases e; omega

theorem drawCutActs_o (w : World) (ao : Option Addr) (len cap : Nat) (hlen : len ≤ 1048576) (hcode : Code w ao len) :
    Calls Try.prog 14 #[.slice ao len cap] w fun e w' => ∃ (a : Option Addr) (c : Nat) (fs : List FileD) (gb og cq : Nat) (qs : List ActD) (wh : Int) (al : Option Addr) (cl : Nat) (zs : List Int),
      e = .returned (.tuple #[.agg #[.slice a fs.length c], .slice (some ⟨gb, og, none⟩) qs.length cq, .int .i64 wh, .slice al zs.length cl]) ∧ FilesAt w' a fs ∧ BF fs ∧ ActsAt w' (some ⟨gb, og, none⟩) qs ∧ qs.length ≤ cq ∧ qs.length ≤ 9 ∧ (∀ A ∈ qs, A.name.size ≤ 1048576 ∧ A.text.size ≤ 1048576 ∧ A.to.size ≤ 1048576) ∧ IntsAt w' al zs ∧ Below w.heap.size w w' := by
  refine (drawCutActs_any w ao len cap hlen hcode).mono ?_
  rintro e w1 ⟨a, c, fs, gb, cq, qs, wh, al, cl, zs, rfl, hrow, hbf, hown, hql, hqs, hint, hzl, hzs, b1⟩
  exact ⟨a, c, fs, gb, 0, cq, qs, wh, al, cl, zs, rfl, rowF_files hrow, hbf, actsAt_row hown rfl, own_cap hown, hql, fun A hA => by have := hqs A hA; omega, intsAt_row hint hzs, b1⟩

theorem textAt_small {fs : List FileD} {nm : ByteArray} (h : ∀ F ∈ fs, F.name.size ≤ 1048576 ∧ F.text.size ≤ 1048576) : (textAt fs nm).size ≤ 1048576 := by
  unfold textAt
  cases hf : fileD fs nm with
  | none => exact Nat.zero_le _
  | some F => exact (h F (List.mem_of_find?_eq_some hf)).2

/-- An act that may be done. -/
theorem act_yes (fs g : List FileD) (ao : Option Addr) (cap : Nat) (A : ActD) (w : World) (hl : fs.length ≤ 1048576) (hfs : FilesAt w ao fs) (hsz : ∀ F ∈ fs, F.name.size ≤ 1048576 ∧ F.text.size ≤ 1048576) (hA : A.name.size ≤ 1048576 ∧ A.text.size ≤ 1048576 ∧ A.to.size ≤ 1048576) (hg : actD fs A = some g) :
    Calls Try.prog 17 #[.agg #[.slice ao fs.length cap], .agg #[.int .i64 A.kind, .string A.name, .string A.text, .string A.to]] w fun e w' => ∃ v, e = .returned (.tuple #[.agg #[v], .bool true]) ∧ RowF w' w.heap.size v g ∧ Below w.heap.size w w' := by
  refine (act_any fs ao cap A w hl hfs hsz hA.1 hA.2.1 hA.2.2).mono ?_
  rintro e w' ⟨v, rfl, h1, h2⟩
  rw [hg] at h1 ⊢
  exact ⟨v, rfl, h1, h2⟩

set_option maxRecDepth 100000 in
set_option maxHeartbeats 8000000 in
theorem actsLaw_walk (w : World) (ao : Option Addr) (len cap : Nat) (hcode : len ≤ 1048576 → Code w ao len) :
    Calls Try.prog 4 #[.slice ao len cap] w fun e w' => e = .returned (.bool true) ∧ Below w.heap.size w w' := by
  by_cases hlen : len ≤ 1048576
  case neg =>
    have hbig : decide (1048576 < (len : Int)) = true := by simp; omega
    go_enter Try.func4, Try.ntmps4
    go_wp2_with fail
    refine (big_any _ ao len cap).mono ?_
    rintro e w0 ⟨rfl, rfl⟩
    go_wp2
    go_ret
    exact ⟨rfl, Below.refl _ _⟩
  have hbig : decide (1048576 < (len : Int)) = false := by simp; omega
  have HC := hide (hcode hlen)
  clear hcode
  go_enter Try.func4, Try.ntmps4
  go_wp2_with fail
  refine (big_any _ ao len cap).mono ?_
  rintro e w0 ⟨rfl, hw0⟩
  obtain rfl := hw0.symm
  go_wp2_with fail
  refine (drawCutActs_o _ ao len cap hlen HC.out).mono ?_
  rintro e w1 ⟨a, c, fs, gb, og, cq, qs, wh, al, cl, zs, rfl, hfs, hbf, has, hqc, hql, hqs, hint, b1⟩
  have HQS := hide hqs
  have HFS : Hid (∀ F ∈ fs, F.name.size ≤ 1048576 ∧ F.text.size ≤ 1048576) := fun F hF => by have := hbf.2 F hF; omega
  have hfl : fs.length ≤ 40 := hbf.1
  obtain ⟨wA, hwA⟩ : ∃ wA, wA = w1.alloc (.cells #[.slice a fs.length c] 26) := ⟨_, rfl⟩
  have bA : Below w1.heap.size w1 wA := by rw [hwA]; exact (Below.refl _ _).alloc (Nat.le_refl _) _
  have XA : Hid (wA.heap[w1.heap.size]? = some (.cells #[.slice a fs.length c] 26 (0, 0))) := by rw [hwA]; exact heap_alloc_new _ _
  have hsA : w1.heap.size < wA.heap.size := by rw [hwA]; simp
  have BA := hide (b1.trans (bA.mono b1.size))
  have KF : Hid (∀ X, Below wA.heap.size wA X → FilesAt X a fs) := fun X hX => filesAt_keep hfs (bA.trans (hX.mono bA.size))
  have KA : Hid (∀ X, Below wA.heap.size wA X → ActsAt X (some ⟨gb, og, none⟩) qs) := fun X hX => actsAt_keep has (bA.trans (hX.mono bA.size))
  have KI : Hid (∀ X, Below wA.heap.size wA X → IntsAt X al zs) := fun X hX => intsAt_keep hint (bA.trans (hX.mono bA.size))
  clear hfs has hint hqs HC hbf b1 bA
  obtain ⟨R, HR⟩ : ∃ R, Hid ((actsF fs qs).1 = R) := ⟨_, hide rfl⟩
  obtain ⟨n, HN⟩ : ∃ n, Hid ((actsF fs qs).2 = n) := ⟨_, hide rfl⟩
  have hRl : R.length ≤ 1048576 := by rw [← HR.out]; exact actsF_len qs fs (by omega)
  have hnl : n ≤ qs.length := by rw [← HN.out]; exact actsF_count qs fs
  go_wp2_with fail
  rw [← hwA]
  clear hwA
  refine (acts_any fs _ _ qs _ _ _ (by omega) (KF.out _ (Below.refl _ _)) HFS.out (by omega) (KA.out _ (Below.refl _ _)) HQS.out).mono ?_
  rintro e w2 ⟨v2, rfl, hrow2, b2⟩
  rw [HR.out] at hrow2
  rw [HN.out]
  obtain ⟨aN, cN, rfl, _⟩ := rowF_at hrow2
  obtain ⟨w3, hw3⟩ : ∃ w3, w3 = w2.alloc (.cells #[.slice aN R.length cN] 26) := ⟨_, rfl⟩
  have b3 : Below w2.heap.size w2 w3 := by rw [hw3]; exact (Below.refl _ _).alloc (Nat.le_refl _) _
  have XN3 : Hid (w3.heap[w2.heap.size]? = some (.cells #[.slice aN R.length cN] 26 (0, 0))) := by rw [hw3]; exact heap_alloc_new _ _
  have RN3 := hide (rowF_below hrow2 b3)
  have B3 : Hid (Below wA.heap.size wA w3) := b2.trans (b3.mono b2.size)
  have hs2 : wA.heap.size ≤ w2.heap.size := b2.size
  have hs3 : w2.heap.size < w3.heap.size := by rw [hw3]; simp
  clear hrow2 b2 b3
  have hc3 := box_of (blk_below XA.out B3.out)
  rw [hw3] at hc3
  go_wp2_with fail
  rw [← hw3]
  clear hw3 hc3
  refine (specActsO_any fs _ _ qs _ _ _ (by omega) (KF.out _ B3.out) HFS.out (by omega) (KA.out _ B3.out) HQS.out).mono ?_
  rintro e w4 ⟨v4, rfl, hrow4, b4⟩
  rw [HR.out] at hrow4
  rw [HN.out]
  obtain ⟨aW, cW, rfl, _⟩ := rowF_at hrow4
  obtain ⟨w5, hw5⟩ : ∃ w5, w5 = w4.alloc (.cells #[.slice aW R.length cW] 26) := ⟨_, rfl⟩
  have b5 : Below w4.heap.size w4 w5 := by rw [hw5]; exact (Below.refl _ _).alloc (Nat.le_refl _) _
  have XW5 : Hid (w5.heap[w4.heap.size]? = some (.cells #[.slice aW R.length cW] 26 (0, 0))) := by rw [hw5]; exact heap_alloc_new _ _
  have RW5 := hide (rowF_below hrow4 b5)
  have b35 := b4.trans (b5.mono b4.size)
  have B5 : Hid (Below wA.heap.size wA w5) := B3.out.trans (b35.mono B3.out.size)
  have XN5 := hide (blk_below XN3.out b35)
  have RN5 := hide (rowF_below RN3.out b35)
  have hs4 : w3.heap.size ≤ w4.heap.size := b4.size
  have hs5 : w4.heap.size < w5.heap.size := by rw [hw5]; simp
  clear hrow4 b4 b5 b35 XN3 RN3 B3
  have hnn : ((n : Int) != (n : Int)) = false := bne_self_eq_false _
  have hcN := box_of XN5.out
  have hcW := box_of XW5.out
  rw [hw5] at hcN hcW
  go_wp2_with fail
  rw [← hw5]
  clear hw5 hcN hcW
  refine (sameDisk_same R _ _ _ _ _ hRl (rowF_files RN5.out) (rowF_files RW5.out)).mono ?_
  rintro e w6 ⟨rfl, b6⟩
  have B6 : Hid (Below wA.heap.size wA w6) := B5.out.trans (b6.mono B5.out.size)
  have XN6 := hide (blk_below XN5.out b6)
  have RN6 := hide (rowF_below RN5.out b6)
  have hs6 : w5.heap.size ≤ w6.heap.size := b6.size
  clear b6 XN5 RN5 B5 XW5 RW5
  obtain ⟨w7, hw7⟩ : ∃ w7, w7 = w6.alloc (.cells #[.slice a fs.length c] 26) := ⟨_, rfl⟩
  have b7 : Hid (Below w6.heap.size w6 w7) := by rw [hw7]; exact (Below.refl _ _).alloc (Nat.le_refl _) _
  have XO7 : Hid (w7.heap[w6.heap.size]? = some (.cells #[.slice a fs.length c] 26 (0, 0))) := by rw [hw7]; exact heap_alloc_new _ _
  have hs7 : w6.heap.size < w7.heap.size := by rw [hw7]; simp
  have hcA := box_of (blk_below XA.out B6.out)
  go_wp2_with fail
  rw [← hw7]
  clear hw7 hcA
  go_loopg [12] n (fun gg ii wr => ∃ (k : Nat) (av : Option Addr) (cv : Nat) (G : List FileD), k + gg = n ∧ ii = .int .i64 k ∧ G.length ≤ 1048576 ∧ Hid (∀ F ∈ G, F.name.size ≤ 1048576 ∧ F.text.size ≤ 1048576) ∧ Hid (R = (actsF G (qs.drop k)).1) ∧ Hid (n = k + (actsF G (qs.drop k)).2) ∧ w6.heap.size < wr.heap.size ∧ Hid (Below w6.heap.size w6 wr) ∧ Hid (wr.heap[w6.heap.size]? = some (.cells #[.slice av G.length cv] 26 (0, 0))) ∧ Hid (FilesAt wr av G))
  case atStart => exact ⟨0, a, c, fs, by omega, rfl, by omega, HFS, by show _ = _; rw [List.drop_zero, HR.out], by show _ = _; rw [List.drop_zero, HN.out]; omega, hs7, b7, XO7, KF.out _ (B6.out.trans (b7.out.mono B6.out.size))⟩
  case round =>
    obtain ⟨k, av, cv, G, hkg, rfl, hGl, HGs, HK1, HK2, how, HB, HV, HF⟩ := hrel
    have hV0 : wr.cell? ⟨w6.heap.size, 0, none⟩ = some (.slice av G.length cv) := box_of HV.out
    by_cases hlt : k < n
    · have hlt' : decide ((k : Int) < (n : Int)) = true := by simp; omega
      obtain ⟨hkq, g, hact, hR', hn'⟩ := actsF_step HK1.out HK2.out hlt
      have HR' := hide hR'
      have HN' := hide hn'
      clear hR' hn'
      obtain ⟨b', off', e', hbw, hc0, hc1, hc2, hc3⟩ := KA.out _ (B6.out.trans (HB.out.mono B6.out.size)) k hkq
      cases e'
      have hsA := HQS.out qs[k] (List.getElem_mem hkq)
      obtain ⟨A, HAk⟩ : ∃ A, Hid (qs[k] = A) := ⟨qs[k], hide rfl⟩
      rw [HAk.out] at hc0 hc1 hc2 hc3 hsA hact
      have HSA := hide hsA
      have HACT := hide hact
      have hi0 : (0 : Int) ≤ (k : Int) := by omega
      have hi1 : (k : Int) < (qs.length : Int) := by omega
      have HBW := hide hbw
      clear hbw hsA hact
      have KS : Hid (∀ W, Below wr.heap.size wr W → (W.cell? ⟨w6.heap.size, 0, none⟩ = some (.slice av G.length cv) ∧ W.cell? ⟨gb, og + k * 4, none⟩ = some (.int .i64 A.kind) ∧ W.cell? ⟨gb, og + k * 4 + 1, none⟩ = some (.string A.name) ∧ W.cell? ⟨gb, og + k * 4 + 2, none⟩ = some (.string A.text) ∧ W.cell? ⟨gb, og + k * 4 + 3, none⟩ = some (.string A.to))) := fun W hW => ⟨(hW.cell (p := ⟨w6.heap.size, 0, none⟩) how).trans hV0, (hW.cell (p := ⟨gb, og + k * 4, none⟩) HBW.out).trans hc0, (hW.cell (p := ⟨gb, og + k * 4 + 1, none⟩) HBW.out).trans hc1, (hW.cell (p := ⟨gb, og + k * 4 + 2, none⟩) HBW.out).trans hc2, (hW.cell (p := ⟨gb, og + k * 4 + 3, none⟩) HBW.out).trans hc3⟩
      have KG : Hid (∀ W, Below wr.heap.size wr W → FilesAt W av G) := fun W hW => filesAt_keep HF.out hW
      go_upto_region 12 with fail
      go_cut [13, 14] from 99999 (fun s13 s14 wx => ∃ β a9 c9, s13 = .pointer (some ⟨β, 0, none⟩) ∧ s14 = .bool true ∧ GotF wr wx β (.slice a9 g.length c9) g)
      case first =>
        rename_i hJ9 hK9
        go_region_held3 (fun w' => w'.cell? ⟨w6.heap.size, 0, none⟩ = some (.slice av G.length cv) ∧ w'.cell? ⟨gb, og + k * 4, none⟩ = some (.int .i64 A.kind) ∧ w'.cell? ⟨gb, og + k * 4 + 1, none⟩ = some (.string A.name) ∧ w'.cell? ⟨gb, og + k * 4 + 2, none⟩ = some (.string A.text) ∧ w'.cell? ⟨gb, og + k * 4 + 3, none⟩ = some (.string A.to)) (first | (exact KS.out _ ((Below.refl _ _).drew)) | (exact KS.out _ (((Below.refl _ wr).alloc (Nat.le_refl _) _).drew)) | (exact KS.out _ e5) | (exact KS.out _ (e5.alloc e5.size _)) | (exact KS.out _ (e5.setCell (p := ⟨_, 0, none⟩) wb _)) | fail) ((first | (go_at_call 17; refine (act_yes G g _ _ A _ hGl (KG.out _ ((Below.refl _ _).drew)) HGs.out HSA.out HACT.out).mono ?_; rintro e w5 ⟨v5, rfl, hrow5, b5⟩; obtain ⟨a5, c5, rfl, _⟩ := rowF_at hrow5; have e5 : Below wr.heap.size wr w5 := ((Below.refl _ _).drew).trans b5) | (go_at_call 17; refine (act_yes G g _ _ A _ hGl (KG.out _ (((Below.refl _ wr).alloc (Nat.le_refl _) _).drew)) HGs.out HSA.out HACT.out).mono ?_; rintro e w5 ⟨v5, rfl, hrow5, b5⟩; obtain ⟨a5, c5, rfl, _⟩ := rowF_at hrow5; have e5 : Below wr.heap.size wr w5 := (((Below.refl _ wr).alloc (Nat.le_refl _) _).drew).trans (b5.mono (by simp)); have q5 : Hid (w5.heap[wr.heap.size]? = some (.cells #[.slice none 0 0] 26 (0, 0))) := (b5.block _ (by simp)).trans (heap_alloc_new wr _); have wb := Nat.le_refl wr.heap.size; have zb : wr.heap.size < (wr.alloc (.cells #[.slice none 0 0] 26)).drew.heap.size := (by simp); have hq4 := box_of q5.out; have hq5 := frozen_of_row w5 _ 0 _ _ q5.out) | fail))
        all_goals (refine hK9 _ _ (Met.intro (hJ9 _ _ ?_)); (repeat apply Exists.intro); refine ⟨?_, rfl⟩)
        all_goals first | (exact ⟨_, _, _, rfl, rfl, got_old hrow5 zb wb e5 q5.out⟩) | (exact ⟨_, _, _, rfl, rfl, got_new hrow5 (Nat.le_refl _) e5⟩)
      case rest =>
        obtain ⟨βW, aW, cW, rfl, rfl, hgot⟩ := hcut
        obtain ⟨wW, hwc⟩ : ∃ x, x = wc := ⟨_, rfl⟩
        subst hwc
        obtain ⟨hb0, hrow, hU, bW0, hβ1, hβ2⟩ := hgot
        have XB := hide hb0
        have RB := hide hrow
        have UB := hide hU
        have BW := hide bW0
        have hsW := bW0.size
        clear hb0 hrow hU bW0 hV0 hc0 hc1 hc2 hc3
        have hgo := disk_files (actD_ok HACT.out)
        have hgl : g.length ≤ 1048576 := by have := hgo.1; omega
        have HGG : Hid (∀ F ∈ g, F.name.size ≤ 1048576 ∧ F.text.size ≤ 1048576) := fun F hF => by have := hgo.2 F hF; omega
        clear hgo
        have KT : Hid (∀ w', Below wW.heap.size wW w' → (w'.cell? ⟨w6.heap.size, 0, none⟩ = some (.slice av G.length cv) ∧ w'.cell? ⟨gb, og + k * 4, none⟩ = some (.int .i64 A.kind) ∧ w'.cell? ⟨gb, og + k * 4 + 1, none⟩ = some (.string A.name) ∧ w'.cell? ⟨gb, og + k * 4 + 2, none⟩ = some (.string A.text) ∧ w'.cell? ⟨gb, og + k * 4 + 3, none⟩ = some (.string A.to) ∧ w'.cell? ⟨βW, 0, none⟩ = some (.slice aW g.length cW))) := fun W hW => by
          obtain ⟨h0, h1, h2, h3, h4⟩ := KS.out W (BW.out.trans (hW.mono BW.out.size))
          exact ⟨h0, h1, h2, h3, h4, (hW.cell (p := ⟨βW, 0, none⟩) hβ2).trans (box_of XB.out)⟩
        have KGT : Hid (∀ W, Below wW.heap.size wW W → FilesAt W av G) := fun W hW => KG.out W (BW.out.trans (hW.mono BW.out.size))
        have KGG : Hid (∀ W, Below wW.heap.size wW W → FilesAt W aW g) := fun W hW => filesAt_keep (rowF_files RB.out) hW
        go_upto_region 15 with fail
        go_cut [15] from 99999 (fun s15 wx => s15 = .string (textAt G A.name) ∧ Hid (Below wW.heap.size wW wx))
        case first =>
          rename_i hJ9 hK9
          go_region_held3 (fun w' => w'.cell? ⟨w6.heap.size, 0, none⟩ = some (.slice av G.length cv) ∧ w'.cell? ⟨gb, og + k * 4, none⟩ = some (.int .i64 A.kind) ∧ w'.cell? ⟨gb, og + k * 4 + 1, none⟩ = some (.string A.name) ∧ w'.cell? ⟨gb, og + k * 4 + 2, none⟩ = some (.string A.text) ∧ w'.cell? ⟨gb, og + k * 4 + 3, none⟩ = some (.string A.to) ∧ w'.cell? ⟨βW, 0, none⟩ = some (.slice aW g.length cW)) (first | (exact KT.out _ (Below.refl _ _)) | (exact KT.out _ ((Below.refl _ _).drew)) | (exact KT.out _ e5) | fail) ((first | (go_at_call 18; refine (fileAt_val G _ _ A.name _ hGl (KGT.out _ ((Below.refl _ _).drew)) HGs.out).mono ?_; rintro e w5 ⟨rfl, b5⟩; have e5 : Below wW.heap.size wW w5 := ((Below.refl _ _).drew).trans b5) | fail))
          all_goals (refine hK9 _ _ (Met.intro (hJ9 _ _ ?_)); (repeat apply Exists.intro); refine ⟨?_, rfl⟩)
          all_goals exact ⟨rfl, e5⟩
        case rest =>
          obtain ⟨rfl, bX⟩ := hcut
          obtain ⟨wX, hwc⟩ : ∃ x, x = wc := ⟨_, rfl⟩
          subst hwc
          go_upto_region 16 with fail
          go_cut [17, 18] from 99999 (fun s17 s18 wx => s17 = .string (textAt g A.name) ∧ s18 = .bool (fileD g A.name).isSome ∧ Hid (Below wW.heap.size wW wx))
          case first =>
            rename_i hJ9 hK9
            go_region_held3 (fun w' => w'.cell? ⟨w6.heap.size, 0, none⟩ = some (.slice av G.length cv) ∧ w'.cell? ⟨gb, og + k * 4, none⟩ = some (.int .i64 A.kind) ∧ w'.cell? ⟨gb, og + k * 4 + 1, none⟩ = some (.string A.name) ∧ w'.cell? ⟨gb, og + k * 4 + 2, none⟩ = some (.string A.text) ∧ w'.cell? ⟨gb, og + k * 4 + 3, none⟩ = some (.string A.to) ∧ w'.cell? ⟨βW, 0, none⟩ = some (.slice aW g.length cW)) (first | (exact KT.out _ bX.out) | (exact KT.out _ (bX.out.drew)) | (exact KT.out _ e5) | fail) ((first | (go_at_call 18; refine (fileAt_val g _ _ A.name _ hgl (KGG.out _ (bX.out.drew)) HGG.out).mono ?_; rintro e w5 ⟨rfl, b5⟩; have e5 : Below wW.heap.size wW w5 := (bX.out.drew).trans (b5.mono bX.out.size)) | fail))
            all_goals (refine hK9 _ _ (Met.intro (hJ9 _ _ ?_)); (repeat apply Exists.intro); refine ⟨?_, rfl⟩)
            all_goals exact ⟨rfl, rfl, e5⟩
          case rest =>
            obtain ⟨rfl, rfl, bY⟩ := hcut
            obtain ⟨wY, hwc⟩ : ∃ x, x = wc := ⟨_, rfl⟩
            subst hwc
            clear bX
            obtain ⟨x, HX⟩ : ∃ x, Hid (textAt G A.name = x) := ⟨_, hide rfl⟩
            obtain ⟨y, HY⟩ : ∃ y, Hid (textAt g A.name = y) := ⟨_, hide rfl⟩
            obtain ⟨hs, HH⟩ : ∃ hs, Hid ((fileD g A.name).isSome = hs) := ⟨_, hide rfl⟩
            rw [HX.out, HY.out, HH.out]
            obtain ⟨hV0, hc0, hc1, hc2, hc3, hV1⟩ := KT.out _ bY.out
            have BY : Hid (Below wr.heap.size wr wY) := BW.out.trans (bY.out.mono BW.out.size)
            have XOY := hide (blk_below HV.out BY.out)
            have RBY := hide (rowF_below RB.out bY.out)
            have hsY := BY.out.size
            have hfz := frozen_of_row wY w6.heap.size 0 _ _ XOY.out
            have hxs : x.size ≤ 1048576 := by rw [← HX.out]; exact textAt_small HGs.out
            have hcat : ¬ 9223372036854775807 < x.size + A.text.size := by have := HSA.out.2.1; omega
            by_cases hk1 : A.kind = 1
            · have hadd := law_add HACT.out hk1
              rw [HX.out, HY.out, HH.out] at hadd
              obtain ⟨rfl, rfl⟩ := hadd
              have hd1 : (A.kind == 1) = true := by rw [hk1]; rfl
              have hd4 : (A.kind == 4) = false := by rw [hk1]; rfl
              go_wp2_with fail
              go_roundg (gk - 1)
              case measure => omega
              case rel =>
                refine ⟨k + 1, aW, cW, g, by omega, by go_num, hgl, HGG, HR', HN', ?_, (HB.out.trans (BY.out.mono HB.out.size)).setCell (p := ⟨w6.heap.size, 0, none⟩) (Nat.le_refl _) _, (heap_setCell_same _ w6.heap.size _ _ _ _ XOY.out).trans rfl, rowF_files (rowF_grown RBY.out (grownBy_store (World.grownBy.refl _ _) 0 _) (fun g' hg' e => by have := UB.out g' hg'; cases e; omega))⟩
                simp [World.setCell]; omega
            have hd1 : (A.kind == 1) = false := beq_eq_false_iff_ne.2 hk1
            by_cases hk4 : A.kind = 4
            · have hdr := law_drop HACT.out hk4
              rw [HH.out] at hdr
              subst hdr
              have hd4 : (A.kind == 4) = true := by rw [hk4]; rfl
              go_wp2_with fail
              go_roundg (gk - 1)
              case measure => omega
              case rel =>
                refine ⟨k + 1, aW, cW, g, by omega, by go_num, hgl, HGG, HR', HN', ?_, (HB.out.trans (BY.out.mono HB.out.size)).setCell (p := ⟨w6.heap.size, 0, none⟩) (Nat.le_refl _) _, (heap_setCell_same _ w6.heap.size _ _ _ _ XOY.out).trans rfl, rowF_files (rowF_grown RBY.out (grownBy_store (World.grownBy.refl _ _) 0 _) (fun g' hg' e => by have := UB.out g' hg'; cases e; omega))⟩
                simp [World.setCell]; omega
            · have hd4 : (A.kind == 4) = false := beq_eq_false_iff_ne.2 hk4
              go_wp2_with fail
              go_roundg (gk - 1)
              case measure => omega
              case rel =>
                refine ⟨k + 1, aW, cW, g, by omega, by go_num, hgl, HGG, HR', HN', ?_, (HB.out.trans (BY.out.mono HB.out.size)).setCell (p := ⟨w6.heap.size, 0, none⟩) (Nat.le_refl _) _, (heap_setCell_same _ w6.heap.size _ _ _ _ XOY.out).trans rfl, rowF_files (rowF_grown RBY.out (grownBy_store (World.grownBy.refl _ _) 0 _) (fun g' hg' e => by have := UB.out g' hg'; cases e; omega))⟩
                simp [World.setCell]; omega
    · have hlt' : decide ((k : Int) < (n : Int)) = false := by simp; omega
      have hRG := actsF_last HK1.out HK2.out hlt
      subst hRG
      have BR : Hid (Below wA.heap.size wA wr) := B6.out.trans (HB.out.mono B6.out.size)
      have XNr := hide (blk_below XN6.out HB.out)
      have RNr := hide (rowF_below RN6.out HB.out)
      obtain ⟨ok, HOK⟩ : ∃ ok, Hid ((cutD fs qs wh zs).isSome = ok) := ⟨_, hide rfl⟩
      obtain ⟨C, HCC⟩ : ∃ C, Hid ((cutD fs qs wh zs).getD [] = C) := ⟨_, hide rfl⟩
      have hCl : C.length ≤ 1048576 := by rw [← HCC.out]; exact cutD_len fs qs wh zs (by omega)
      have hcA := box_of (blk_below XA.out BR.out)
      go_wp2_with fail
      clear hcA hV0
      refine (cut_any fs _ _ qs _ _ _ wh zs _ _ _ (by omega) (KF.out _ BR.out) HFS.out (by omega) (KA.out _ BR.out) HQS.out (KI.out _ BR.out) hqc).mono ?_
      rintro e w8 ⟨v8, rfl, hrow8, b8⟩
      rw [HCC.out] at hrow8
      rw [HOK.out]
      obtain ⟨aC, cC, rfl, _⟩ := rowF_at hrow8
      obtain ⟨w9, hw9⟩ : ∃ w9, w9 = w8.alloc (.cells #[.slice aC C.length cC] 26) := ⟨_, rfl⟩
      have b9 : Below w8.heap.size w8 w9 := by rw [hw9]; exact (Below.refl _ _).alloc (Nat.le_refl _) _
      have XC9 : Hid (w9.heap[w8.heap.size]? = some (.cells #[.slice aC C.length cC] 26 (0, 0))) := by rw [hw9]; exact heap_alloc_new _ _
      have RC9 := hide (rowF_below hrow8 b9)
      have B9 : Hid (Below wr.heap.size wr w9) := b8.trans (b9.mono b8.size)
      clear hrow8 b8 b9
      have hcA := box_of (blk_below XA.out (BR.out.trans (B9.out.mono BR.out.size)))
      rw [hw9] at hcA
      go_wp2_with fail
      rw [← hw9]
      clear hw9 hcA
      have B9A : Hid (Below wA.heap.size wA w9) := BR.out.trans (B9.out.mono BR.out.size)
      refine (specCutO_any fs _ _ qs _ _ _ wh zs _ _ _ (by omega) (KF.out _ B9A.out) HFS.out (by omega) (KA.out _ B9A.out) HQS.out (KI.out _ B9A.out) hqc).mono ?_
      rintro e w10 ⟨v10, rfl, hrow10, b10⟩
      rw [HCC.out] at hrow10
      rw [HOK.out]
      obtain ⟨aS, cS, rfl, _⟩ := rowF_at hrow10
      obtain ⟨w11, hw11⟩ : ∃ w11, w11 = w10.alloc (.cells #[.slice aS C.length cS] 26) := ⟨_, rfl⟩
      have b11 : Below w10.heap.size w10 w11 := by rw [hw11]; exact (Below.refl _ _).alloc (Nat.le_refl _) _
      have XS11 : Hid (w11.heap[w10.heap.size]? = some (.cells #[.slice aS C.length cS] 26 (0, 0))) := by rw [hw11]; exact heap_alloc_new _ _
      have RS11 := hide (rowF_below hrow10 b11)
      have b911 := b10.trans (b11.mono b10.size)
      have XC11 := hide (blk_below XC9.out b911)
      have RC11 := hide (rowF_below RC9.out b911)
      have B11 : Hid (Below wr.heap.size wr w11) := B9.out.trans (b911.mono B9.out.size)
      clear hrow10 b10 b11 b911 XC9 RC9 B9 B9A
      have hok : (ok == ok) = true := beq_self_eq_true _
      have hcC := box_of XC11.out
      have hcS := box_of XS11.out
      rw [hw11] at hcC hcS
      go_wp2_with fail
      rw [← hw11]
      clear hw11 hcC hcS
      refine (sameDisk_same C _ _ _ _ _ hCl (rowF_files RC11.out) (rowF_files RS11.out)).mono ?_
      rintro e w12 ⟨rfl, b12⟩
      have B12 : Hid (Below wr.heap.size wr w12) := B11.out.trans (b12.mono B11.out.size)
      have BZ : Hid (Below w.heap.size w w12) := (BA.out.trans (BR.out.mono BA.out.size)).trans (B12.out.mono (Nat.le_trans BA.out.size BR.out.size))
      clear b12 B11 XC11 RC11 XS11 RS11
      by_cases hn0 : n = 0
      · have hd0 : ((n : Int) == 0) = true := by rw [hn0]; rfl
        go_wp2_with fail
        go_ret
        exact ⟨rfl, BZ.out⟩
      · have hd0 : ((n : Int) == 0) = false := by rw [beq_eq_false_iff_ne]; omega
        have hcO := box_of (blk_below HV.out B12.out)
        have hcN := box_of (blk_below XNr.out B12.out)
        go_wp2_with fail
        clear hcO hcN
        refine (sameDisk_same R _ _ _ _ _ hRl (filesAt_keep HF.out B12.out) (rowF_files (rowF_below RNr.out B12.out))).mono ?_
        rintro e w13 ⟨rfl, b13⟩
        go_wp2_with fail
        go_ret
        exact ⟨rfl, BZ.out.trans (b13.mono BZ.out.size)⟩
end Go.Proofs.Ytcpbkllonamleaa
