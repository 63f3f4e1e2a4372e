import Derived.Sort.KeysCollected
import Derived.Test.YtepdckehokdjlaaGreatDoorMg29
import Derived.Test.YtepdckehokdjlaaGreatDoorMg31
import Derived.Test.YtepdckehokdjlaaGreatDoorMg24
import Derived.Test.YtepdckehokdjlaaGreatDoorMg0
import Derived.Test.YtepdckehokdjlaaGreatDoorMg27
import Derived.Test.YtepdckehokdjlaaGreatDoorMg10
set_option maxRecDepth 100000
set_option maxHeartbeats 8000000
namespace Go.Proofs.YtepdckehokdjlaaGreatDoor
open Go.RowKit Go.Maps
theorem name_of_file {gs:List FileD} {nm:ByteArray} {F:FileD} (hok:diskOkD gs=true) (h:fileD gs nm=some F):nameOkD nm=true:=by
 obtain ⟨hF,rfl⟩:=fileD_some h
 obtain ⟨h1,h2,_⟩:=ok_file (((disk_iff gs).1 hok).2.1 F hF)
 simp [nameOkD,h1,h2]
theorem act_add {gs:List FileD} {nm tx tt:ByteArray} (hok:diskOkD gs=true) (het:tt.toList.isEmpty=true):actD gs ⟨1,nm,tx,tt⟩=addD gs nm tx:=by
 cases hn:nameOkD nm
 ·
  rw [actD_no (by simp [actOk,hok,hn])]
  have hF:fileD gs nm=none:=by
   cases h:fileD gs nm with
   | none => rfl
   | some F => rw [name_of_file hok h] at hn;cases hn
  unfold addD
  rw [hF]
  simp only [Option.getD_none]
  rw [put_ok_new (F':=⟨nm,⟨#[]⟩ ++ tx,0⟩) hok (fileD_none hF),new_file nm _ tx rfl,hn]
  rfl
 ·
  have ha:actOk gs ⟨1,nm,tx,tt⟩=true:=by simp [actOk,hok,hn,het]
  have hr:rawD gs ⟨1,nm,tx,tt⟩=some (putD gs ⟨((fileD gs nm).getD ⟨nm,⟨#[]⟩,0⟩).name,((fileD gs nm).getD ⟨nm,⟨#[]⟩,0⟩).text ++ tx,((fileD gs nm).getD ⟨nm,⟨#[]⟩,0⟩).kept⟩):=by simp [rawD,actF]
  unfold addD
  cases hd:diskOkD (putD gs ⟨((fileD gs nm).getD ⟨nm,⟨#[]⟩,0⟩).name,((fileD gs nm).getD ⟨nm,⟨#[]⟩,0⟩).text ++ tx,((fileD gs nm).getD ⟨nm,⟨#[]⟩,0⟩).kept⟩)
  · rw [actD_bad ha hr hd];rfl
  · rw [actD_yes ha hr hd];rfl
theorem act_none {gs:List FileD} {A:ActD} (hk:A.kind ≠ 1) (hF:fileD gs A.name=none):actD gs A=none:=by
 cases h:actOk gs A
 · exact actD_no h
 ·
  refine actD_raw h ?_
  rw [rawD,if_neg hk,if_pos (by rw [hF];rfl)]
theorem without_ok {gs:List FileD} (nm:ByteArray) (h:diskOkD gs=true):diskOkD (withoutD gs nm)=true:=by
 obtain ⟨h1,h2,h3⟩:=(disk_iff gs).1 h
 exact (disk_iff _).2 ⟨Nat.le_trans (List.length_filter_le _ _) h1,fun G hG => h2 G (without_mem.1 hG).1,srt_without nm h3⟩
theorem act_keep {gs:List FileD} {F:FileD} {nm tx tt:ByteArray} (hok:diskOkD gs=true) (hF:fileD gs nm=some F) (het:tt.toList.isEmpty=true) (hex:tx.toList.isEmpty=true):actD gs ⟨2,nm,tx,tt⟩=some (putD gs ⟨F.name,F.text,(F.text.size:Int)⟩):=by
 have hm:=(fileD_some hF).1
 obtain ⟨n1,n2,n3,n4,n5⟩:=ok_file (((disk_iff gs).1 hok).2.1 F hm)
 refine actD_yes (by simp [actOk,hok,name_of_file hok hF,het,hex]) (by simp [rawD,actF,hF]) ?_
 rw [put_ok_old (F:=F) (F':=⟨F.name,F.text,(F.text.size:Int)⟩) hok hm rfl]
 have hn:nameOkD F.name=true:=by simp [nameOkD,n1,n2]
 simp only [fileOkD,hn]
 simp [n3]
theorem act_drop {gs:List FileD} {F:FileD} {nm tx tt:ByteArray} (hok:diskOkD gs=true) (hF:fileD gs nm=some F) (het:tt.toList.isEmpty=true) (hex:tx.toList.isEmpty=true):actD gs ⟨4,nm,tx,tt⟩=some (withoutD gs nm) :=
 actD_yes (by simp [actOk,hok,name_of_file hok hF,het,hex]) (by simp [rawD,hF]) (without_ok nm hok)
theorem act_move {gs:List FileD} {F:FileD} {nm tx tt:ByteArray} (hok:diskOkD gs=true) (hF:fileD gs nm=some F) (hex:tx.toList.isEmpty=true):actD gs ⟨3,nm,tx,tt⟩=moveD gs F tt:=by
 obtain ⟨hm,rfl⟩:=fileD_some hF
 obtain ⟨n1,n2,n3,n4,n5⟩:=ok_file (((disk_iff gs).1 hok).2.1 F hm)
 have ha:actOk gs ⟨3,F.name,tx,tt⟩=true:=by simp [actOk,hok,name_of_file hok hF,hex]
 have hsym:(tt.toList == F.name.toList)=(F.name.toList == tt.toList):=by
  cases h:(F.name.toList == tt.toList)
  · rw [beq_eq_false_iff_ne] at h ⊢;exact fun e => h e.symm
  · rw [beq_iff_eq] at h ⊢;exact h.symm
 cases hc:(decide (F.kept < (F.text.size:Int)) || (F.name.toList == tt.toList) || !nameOkD tt)
 ·
  have hr:rawD gs ⟨3,F.name,tx,tt⟩=some (putD (withoutD gs F.name) ⟨tt,F.text,F.kept⟩):=by
   rw [rawD]
   simp only [hF,actF,Option.getD_some,hsym,hc]
   simp
  have hn:nameOkD tt=true:=by
   simp only [Bool.or_eq_false_iff,Bool.not_eq_false'] at hc
   exact hc.2
  have hok':=without_ok F.name hok
  obtain ⟨h1,h2,h3⟩:=(disk_iff _).1 hok'
  have hd:diskOkD (putD (withoutD gs F.name) ⟨tt,F.text,F.kept⟩)=true:=by
   refine (disk_iff _).2 ⟨?_,fun G hG => ?_,srt_putD _ h3⟩
   ·
    have hl1:=len_putD_le (withoutD gs F.name) ⟨tt,F.text,F.kept⟩
    have hl2:=without_len ((disk_iff gs).1 hok).2.2 hm
    have hl3:=((disk_iff gs).1 hok).1
    omega
   ·
    rcases put_mem.1 hG with rfl | ⟨hG,_⟩
    ·
     simp only [fileOkD,hn]
     simp [n3,n4,n5]
    · exact h2 G hG
  rw [actD_yes ha hr hd,moveD,if_neg (by rw [hc];decide)]
 ·
  have hr:rawD gs ⟨3,F.name,tx,tt⟩=none:=by
   rw [rawD]
   simp only [hF,actF,Option.getD_some,hsym,hc]
   simp
  rw [actD_raw ha hr,moveD,if_pos hc]
theorem act_other {gs:List FileD} {kd:Int} {nm tx tt:ByteArray} (h1:kd ≠ 1) (h2:kd ≠ 2) (h3:kd ≠ 3) (h4:kd ≠ 4):actD gs ⟨kd,nm,tx,tt⟩=none:=by
 cases h:actOk gs ⟨kd,nm,tx,tt⟩
 · exact actD_no h
 ·
  refine actD_raw h ?_
  simp [rawD,h1,h2,h3,h4]
theorem do_any (gs:List FileD) (mb B:Nat) (A:ActD) (w:World) (hok:diskOkD gs=true) (h:ShelfAt w B mb gs) (hmb:B≤mb) (hBw:B≤w.heap.size) (hA1:A.name.size≤1048576) (hA2:A.text.size≤1048576) (hA3:A.toN.size≤1048576) :
  Calls Tryz.prog 65 #[.map (some mb),.agg #[.int .i64 A.kind,.string A.name,.string A.text,.string A.toN]] w fun e w' => e=.returned (.bool (actD gs A).isSome)∧ShelfAt w' B mb ((actD gs A).getD gs)∧Below B w w':=by
 obtain ⟨kd,nm,tx,tt⟩:=A
 simp only at hA1 hA2 hA3 ⊢
 obtain ⟨D,pt,hD⟩:=h
 have HD:=hide hD
 have hsz:size D=gs.length:=hD.2.1
 clear hD
 obtain ⟨wb,hwb⟩:∃ wb,wb=w.alloc (.cells #[.int .i64 kd,.string nm,.string tx,.string tt] 51):=⟨_,rfl⟩
 have bb:Below w.heap.size w wb:=by rw [hwb];exact (Below.refl _ _).alloc (Nat.le_refl _) _
 have hbs:w.heap.size≤wb.heap.size:=bb.size
 have HDb:=hide (shelfD_below HD.out bb)
 have HBb:Hid (Below B w wb):=bb.mono hBw
 clear bb
 have HK:=hide (Tryz.keyS nm (small_max hA1))
 have hd3:=((disk_iff gs).1 hok).2.2
 have hd1:=((disk_iff gs).1 hok).1
 by_cases k1:kd=1
 ·
  subst k1
  cases et:tt.toList.isEmpty
  ·
   skip
   have HE:Hid (actD gs ⟨1,nm,tx,tt⟩=none):=actD_no (by simp [actOk,et])
   go_enter Tryz.func65,Tryz.ntmps65
   go_wp2
   go_ret
   rw [HE.out,← hwb]
   exact ⟨rfl,⟨D,pt,HDb.out⟩,HBb.out⟩
  ·
   rw [act_add hok et]
   cases hF:fileD gs nm
   ·
    skip
    go_enter Tryz.func65,Tryz.ntmps65
    go_wp2_with fail
    rw [← hwb]
    refine (add_new gs mb B nm tx _ hok ⟨D,pt,HDb.out⟩ hmb (by omega) hA1 hA2 hF).mono ?_
    rintro e w1 ⟨rfl,hs1,b1⟩
    have HS1:=hide hs1
    have HB1:=hide b1
    clear hs1 b1
    go_wp2
    go_ret
    exact ⟨rfl,HS1.out,HBb.out.trans (HB1.out)⟩
   ·
    skip
    go_enter Tryz.func65,Tryz.ntmps65
    go_wp2_with fail
    rw [← hwb]
    refine (add_old gs mb B nm tx _ hok ⟨D,pt,HDb.out⟩ hmb (by omega) hA2 hF).mono ?_
    rintro e w1 ⟨rfl,hs1,b1⟩
    have HS1:=hide hs1
    have HB1:=hide b1
    clear hs1 b1
    go_wp2
    go_ret
    exact ⟨rfl,HS1.out,HBb.out.trans (HB1.out)⟩
 cases ex:tx.toList.isEmpty
 ·
  skip
  have HE:Hid (actD gs ⟨kd,nm,tx,tt⟩=none):=actD_no (by simp [actOk,ex,k1])
  go_enter Tryz.func65,Tryz.ntmps65
  go_wp2
  go_ret
  rw [HE.out,← hwb]
  exact ⟨rfl,⟨D,pt,HDb.out⟩,HBb.out⟩
 by_cases k3:kd=3
 ·
  subst k3
  cases hF:fileD gs nm
  ·
   skip
   have HE:Hid (actD gs ⟨3,nm,tx,tt⟩=none):=act_none (by simp) hF
   have hhas:has D (kl nm)=false:=by
    cases h:has D (kl nm) with
    | false => rfl
    | true =>
     obtain ⟨G,hG,e⟩:=(HD.out.2.2.1 nm).1 h
     exact absurd e (fileD_none hF G hG)
   have HAT:Hid (∀ z,D.atKey (kl nm) z=z):=fun z => atKey_of_not_has hhas z
   go_enter Tryz.func65,Tryz.ntmps65
   go_wp2_with (at_lookup;rw [← hwb];clear hwb;refine wpList_lookup_own_ok _ rfl _ _ 123 rfl 9 163 (string_keyed Tryz.underlying9) Tryz.underlying123 ptrElem (Tryz.zeroP _) .nil [] rfl mb (size D) D rfl HDb.out.1 _ _ rfl HK.out ?_;intro v ps hv;rw [HAT.out] at hv;obtain rfl:=ptrElem_nil hv;rw [hhas])
   go_ret
   rw [HE.out]
   exact ⟨rfl,⟨D,pt,HDb.out⟩,HBb.out⟩
  ·
   rename_i F
   obtain ⟨hFm,rfl⟩:=fileD_some hF
   obtain ⟨hat,hpB,hpm,hpb⟩:=HDb.out.2.2.2.1 F hFm
   have hhas:has D (kl F.name)=true:=(HD.out.2.2.1 F.name).2 ⟨F,hFm,rfl⟩
   have HAT:=hide hat
   have HPB:=hide hpb
   obtain ⟨p,hp⟩:∃ p,p=pt F.name:=⟨_,rfl⟩
   rw [← hp] at HAT HPB hpB hpm
   have HP:=hide hp
   clear hp hat hpb
   have hA:wb.heap[w.heap.size]? = some (.cells #[.int .i64 3,.string F.name,.string tx,.string tt] 51 (0,0)):=by rw [hwb];exact heap_alloc_new _ _
   obtain ⟨ca0,ca1,ca2,ca3⟩:=act_cell hA
   have HA:=hide hA
   clear hA
   rw [act_move hok hF ex]
   go_enter Tryz.func65,Tryz.ntmps65
   go_wp2_with (first | (at_lookup;rw [← hwb];clear hwb;refine wpList_lookup_own_ok _ rfl _ _ 123 rfl 9 163 (string_keyed Tryz.underlying9) Tryz.underlying123 ptrElem (Tryz.zeroP _) .nil [] rfl mb (size D) D rfl HDb.out.1 _ _ rfl HK.out ?_;intro v ps hv;rw [HAT.out] at hv;obtain rfl:=ptrElem_inv hv;rw [hhas]) | (go_at_call 101;rw [HP.out];refine (move_any gs mb B tt _ D pt F hok HDb.out hFm hmb (by omega) hA3).mono ?_;rintro e w1 ⟨rfl,hs1,b1⟩))
   go_ret
   exact ⟨rfl,hs1,HBb.out.trans b1⟩
 cases et:tt.toList.isEmpty
 ·
  skip
  have HE:Hid (actD gs ⟨kd,nm,tx,tt⟩=none):=actD_no (by simp [actOk,et,k3])
  go_enter Tryz.func65,Tryz.ntmps65
  go_wp2
  go_ret
  rw [HE.out,← hwb]
  exact ⟨rfl,⟨D,pt,HDb.out⟩,HBb.out⟩
 by_cases k2:kd=2
 ·
  subst k2
  cases hF:fileD gs nm
  ·
   skip
   have HE:Hid (actD gs ⟨2,nm,tx,tt⟩=none):=act_none (by simp) hF
   have hhas:has D (kl nm)=false:=by
    cases h:has D (kl nm) with
    | false => rfl
    | true =>
     obtain ⟨G,hG,e⟩:=(HD.out.2.2.1 nm).1 h
     exact absurd e (fileD_none hF G hG)
   have HAT:Hid (∀ z,D.atKey (kl nm) z=z):=fun z => atKey_of_not_has hhas z
   go_enter Tryz.func65,Tryz.ntmps65
   go_wp2_with (at_lookup;rw [← hwb];clear hwb;refine wpList_lookup_own_ok _ rfl _ _ 123 rfl 9 163 (string_keyed Tryz.underlying9) Tryz.underlying123 ptrElem (Tryz.zeroP _) .nil [] rfl mb (size D) D rfl HDb.out.1 _ _ rfl HK.out ?_;intro v ps hv;rw [HAT.out] at hv;obtain rfl:=ptrElem_nil hv;rw [hhas])
   go_ret
   rw [HE.out]
   exact ⟨rfl,⟨D,pt,HDb.out⟩,HBb.out⟩
  ·
   rename_i F
   obtain ⟨hFm,rfl⟩:=fileD_some hF
   obtain ⟨hat,hpB,hpm,hpb⟩:=HDb.out.2.2.2.1 F hFm
   have hhas:has D (kl F.name)=true:=(HD.out.2.2.1 F.name).2 ⟨F,hFm,rfl⟩
   have HAT:=hide hat
   have HPB:=hide hpb
   obtain ⟨p,hp⟩:∃ p,p=pt F.name:=⟨_,rfl⟩
   rw [← hp] at HAT HPB hpB hpm
   have HP:=hide hp
   clear hp hat hpb
   have hA:wb.heap[w.heap.size]? = some (.cells #[.int .i64 2,.string F.name,.string tx,.string tt] 51 (0,0)):=by rw [hwb];exact heap_alloc_new _ _
   obtain ⟨ca0,ca1,ca2,ca3⟩:=act_cell hA
   have HA:=hide hA
   clear hA
   obtain ⟨cf0,cf1,cf2⟩:=file_cell HPB.out
   have zf:=frozen_of_row wb p 2 _ _ HPB.out
   have HE:=hide (act_keep (nm:=F.name) hok hF et ex)
   go_enter Tryz.func65,Tryz.ntmps65
   go_wp2_with (at_lookup;rw [← hwb];clear hwb;refine wpList_lookup_own_ok _ rfl _ _ 123 rfl 9 163 (string_keyed Tryz.underlying9) Tryz.underlying123 ptrElem (Tryz.zeroP _) .nil [] rfl mb (size D) D rfl HDb.out.1 _ _ rfl HK.out ?_;intro v ps hv;rw [HAT.out] at hv;obtain rfl:=ptrElem_inv hv;rw [hhas])
   go_ret
   rw [HE.out]
   have hg1:wb.grownBy (wb.setCell ⟨p,2,none⟩ (.int .i64 (F.text.size:Int))) (some p):=grownBy_store (World.grownBy.refl _ _) 2 _
   refine ⟨rfl,⟨D,pt,shelf_write (F:=F) (F':=⟨F.name,F.text,(F.text.size:Int)⟩) HDb.out hFm rfl (by rw [← HP.out];exact hg1) (by rw [← HP.out];exact (heap_setCell_same _ _ _ _ _ _ HPB.out).trans rfl) (put_len_old hd3 hFm rfl)⟩,HBb.out.setCell (p:=⟨p,2,none⟩) hpB _⟩
 by_cases k4:kd=4
 ·
  subst k4
  cases hF:fileD gs nm
  ·
   skip
   have HE:Hid (actD gs ⟨4,nm,tx,tt⟩=none):=act_none (by simp) hF
   have hhas:has D (kl nm)=false:=by
    cases h:has D (kl nm) with
    | false => rfl
    | true =>
     obtain ⟨G,hG,e⟩:=(HD.out.2.2.1 nm).1 h
     exact absurd e (fileD_none hF G hG)
   have HAT:Hid (∀ z,D.atKey (kl nm) z=z):=fun z => atKey_of_not_has hhas z
   go_enter Tryz.func65,Tryz.ntmps65
   go_wp2_with (at_lookup;rw [← hwb];clear hwb;refine wpList_lookup_own_ok _ rfl _ _ 123 rfl 9 163 (string_keyed Tryz.underlying9) Tryz.underlying123 ptrElem (Tryz.zeroP _) .nil [] rfl mb (size D) D rfl HDb.out.1 _ _ rfl HK.out ?_;intro v ps hv;rw [HAT.out] at hv;obtain rfl:=ptrElem_nil hv;rw [hhas])
   go_ret
   rw [HE.out]
   exact ⟨rfl,⟨D,pt,HDb.out⟩,HBb.out⟩
  ·
   rename_i F
   obtain ⟨hFm,rfl⟩:=fileD_some hF
   obtain ⟨hat,hpB,hpm,hpb⟩:=HDb.out.2.2.2.1 F hFm
   have hhas:has D (kl F.name)=true:=(HD.out.2.2.1 F.name).2 ⟨F,hFm,rfl⟩
   have HAT:=hide hat
   have HPB:=hide hpb
   obtain ⟨p,hp⟩:∃ p,p=pt F.name:=⟨_,rfl⟩
   rw [← hp] at HAT HPB hpB hpm
   have HP:=hide hp
   clear hp hat hpb
   have hA:wb.heap[w.heap.size]? = some (.cells #[.int .i64 4,.string F.name,.string tx,.string tt] 51 (0,0)):=by rw [hwb];exact heap_alloc_new _ _
   obtain ⟨ca0,ca1,ca2,ca3⟩:=act_cell hA
   have HA:=hide hA
   clear hA
   have HE:=hide (act_drop (nm:=F.name) hok hF et ex)
   have HLEN:Hid ((withoutD gs F.name).length=size (D.del (kl F.name))):=by
    have h1:=size_del (k:=kl F.name) (HD.out.1.tidy (string_keyed Tryz.underlying9))
    rw [hhas,hsz] at h1
    have h2:=without_len hd3 hFm
    simp at h1
    show _=_
    omega
   go_enter Tryz.func65,Tryz.ntmps65
   go_wp2_with (first | (at_lookup;rw [← hwb];clear hwb;refine wpList_lookup_own_ok _ rfl _ _ 123 rfl 9 163 (string_keyed Tryz.underlying9) Tryz.underlying123 ptrElem (Tryz.zeroP _) .nil [] rfl mb (size D) D rfl HDb.out.1 _ _ rfl HK.out ?_;intro v ps hv;rw [HAT.out] at hv;obtain rfl:=ptrElem_inv hv;rw [hhas]) | (at_delete;refine wpList_delete_own _ rfl _ _ 123 9 rfl 163 (string_keyed Tryz.underlying9) Tryz.underlying123 ptrElem mb (size D) D rfl HDb.out.1 _ _ rfl HK.out ?_;intro w1 hown1 hturn1))
   go_ret
   rw [HE.out]
   exact ⟨rfl,⟨_,_,shelf_drop HDb.out hown1 hturn1.grown HLEN.out⟩,HBb.out.grown hturn1.grown (by omega) (fun k hk => by cases hk;exact hmb)⟩
 cases hF:fileD gs nm
 ·
  skip
  have HE:Hid (actD gs ⟨kd,nm,tx,tt⟩=none):=act_none (by exact k1) hF
  have hhas:has D (kl nm)=false:=by
   cases h:has D (kl nm) with
   | false => rfl
   | true =>
    obtain ⟨G,hG,e⟩:=(HD.out.2.2.1 nm).1 h
    exact absurd e (fileD_none hF G hG)
  have HAT:Hid (∀ z,D.atKey (kl nm) z=z):=fun z => atKey_of_not_has hhas z
  go_enter Tryz.func65,Tryz.ntmps65
  go_wp2_with (at_lookup;rw [← hwb];clear hwb;refine wpList_lookup_own_ok _ rfl _ _ 123 rfl 9 163 (string_keyed Tryz.underlying9) Tryz.underlying123 ptrElem (Tryz.zeroP _) .nil [] rfl mb (size D) D rfl HDb.out.1 _ _ rfl HK.out ?_;intro v ps hv;rw [HAT.out] at hv;obtain rfl:=ptrElem_nil hv;rw [hhas])
  go_ret
  rw [HE.out]
  exact ⟨rfl,⟨D,pt,HDb.out⟩,HBb.out⟩
 ·
  rename_i F
  obtain ⟨hFm,rfl⟩:=fileD_some hF
  obtain ⟨hat,hpB,hpm,hpb⟩:=HDb.out.2.2.2.1 F hFm
  have hhas:has D (kl F.name)=true:=(HD.out.2.2.1 F.name).2 ⟨F,hFm,rfl⟩
  have HAT:=hide hat
  have HPB:=hide hpb
  obtain ⟨p,hp⟩:∃ p,p=pt F.name:=⟨_,rfl⟩
  rw [← hp] at HAT HPB hpB hpm
  have HP:=hide hp
  clear hp hat hpb
  have hA:wb.heap[w.heap.size]? = some (.cells #[.int .i64 kd,.string F.name,.string tx,.string tt] 51 (0,0)):=by rw [hwb];exact heap_alloc_new _ _
  obtain ⟨ca0,ca1,ca2,ca3⟩:=act_cell hA
  have HA:=hide hA
  clear hA
  have HE:=hide (act_other (gs:=gs) (nm:=F.name) (tx:=tx) (tt:=tt) k1 k2 k3 k4)
  go_enter Tryz.func65,Tryz.ntmps65
  go_wp2_with (at_lookup;rw [← hwb];clear hwb;refine wpList_lookup_own_ok _ rfl _ _ 123 rfl 9 163 (string_keyed Tryz.underlying9) Tryz.underlying123 ptrElem (Tryz.zeroP _) .nil [] rfl mb (size D) D rfl HDb.out.1 _ _ rfl HK.out ?_;intro v ps hv;rw [HAT.out] at hv;obtain rfl:=ptrElem_inv hv;rw [hhas])
  go_ret
  rw [HE.out]
  exact ⟨rfl,⟨D,pt,HDb.out⟩,HBb.out⟩
end Go.Proofs.YtepdckehokdjlaaGreatDoor
namespace Go.Proofs.YtepdckehokdjlaaGreatDoor
open Go.RowKit
theorem ownFile_any (F:FileD) (w:World) (hs1:F.name.size≤1048576) (hs2:F.text.size≤1048576) :
  Calls Tryz.prog 104 #[.agg #[.string F.name,.string F.text,.int .i64 F.kept]] w fun e w' => e=.returned (.agg #[.string F.name,.string F.text,.int .i64 F.kept])∧Below w.heap.size w w':=by
 obtain ⟨wB,hwB⟩:∃ wB,wB=(w.alloc (.cells #[.string F.name,.string F.text,.int .i64 F.kept] 95)).alloc (.cells #[.string ⟨#[]⟩,.string ⟨#[]⟩,.int .i64 0] 95):=⟨_,rfl⟩
 have HB:Hid (Below w.heap.size w wB):=by rw [hwB];exact ((Below.refl _ w).alloc (Nat.le_refl _) _).alloc (by simp) _
 have hBs:wB.heap.size=w.heap.size+1+1:=by rw [hwB];simp
 have h0:wB.heap[w.heap.size]? = some (.cells #[.string F.name,.string F.text,.int .i64 F.kept] 95 (0,0)):=by rw [hwB,World.alloc,Array.getElem?_push_lt (by simp),← Array.getElem?_eq_getElem];exact heap_alloc_new w _
 have h1:wB.heap[w.heap.size+1]? = some (.cells #[.string ⟨#[]⟩,.string ⟨#[]⟩,.int .i64 0] 95 (0,0)):=by rw [hwB,show w.heap.size+1=(w.alloc (.cells #[.string F.name,.string F.text,.int .i64 F.kept] 95)).heap.size from by simp];exact heap_alloc_new _ _
 have hc0:wB.cell? ⟨w.heap.size,0,none⟩=some (.string F.name):=(cell_of_row wB w.heap.size 0 _ _ (0,0) h0).trans rfl
 have hc1:wB.cell? ⟨w.heap.size,1,none⟩=some (.string F.text):=(cell_of_row wB w.heap.size 1 _ _ (0,0) h0).trans rfl
 have hc2:wB.cell? ⟨w.heap.size,2,none⟩=some (.int .i64 F.kept):=(cell_of_row wB w.heap.size 2 _ _ (0,0) h0).trans rfl
 have H1:=hide h1
 clear h0 h1
 have HZ:Hid (w.heap.size+1 < wB.heap.size):=by show _ < _;omega
 go_enter Tryz.func104,Tryz.ntmps104
 go_wp2_with fail
 rw [← hwB]
 clear hwB
 go_region_held3 (fun w' => w'.cell? ⟨w.heap.size,0,none⟩=some (.string F.name)∧w'.cell? ⟨w.heap.size,1,none⟩=some (.string F.text)∧w'.cell? ⟨w.heap.size,2,none⟩=some (.int .i64 F.kept)) (first | go_keep | (exact ⟨(b3.cell (p:=⟨w.heap.size,0,none⟩) (by show w.heap.size < _;simp;omega)).trans hc0,(b3.cell (p:=⟨w.heap.size,1,none⟩) (by show w.heap.size < _;simp;omega)).trans hc1,(b3.cell (p:=⟨w.heap.size,2,none⟩) (by show w.heap.size < _;simp;omega)).trans hc2⟩) | (exact ⟨(b1.cell (p:=⟨w.heap.size,0,none⟩) (by show w.heap.size < _;simp;omega)).trans hc0,(b1.cell (p:=⟨w.heap.size,1,none⟩) (by show w.heap.size < _;simp;omega)).trans hc1,(b1.cell (p:=⟨w.heap.size,2,none⟩) (by show w.heap.size < _;simp;omega)).trans hc2⟩))
  ((first
   | (go_at_call 117;refine (ownText_any _ _ (by assumption)).mono ?_;rintro e w2 ⟨rfl,b2⟩;have b3:=b1.trans (b2.mono b1.size);have hr:=(b3.block _ HZ.out).trans H1.out;have hq0:=cell_of_row w2 (w.heap.size+1) 0 _ _ (0,0) hr;have hq1:=cell_of_row w2 (w.heap.size+1) 1 _ _ (0,0) hr;have hq2:=cell_of_row w2 (w.heap.size+1) 2 _ _ (0,0) hr;have hf0:=frozen_of_row w2 (w.heap.size+1) 0 _ _ hr;have hf1:=frozen_of_row w2 (w.heap.size+1) 1 _ _ hr;have hf2:=frozen_of_row w2 (w.heap.size+1) 2 _ _ hr;clear hr)
   | (go_at_call 117;refine (ownText_any _ _ (by assumption)).mono ?_;rintro e w1 ⟨rfl,b1⟩)))
 have HB3:Hid (Below w.heap.size w w2):=HB.out.trans (((Below.refl _ _).drew.trans b3).mono (by show w.heap.size≤wB.heap.size;omega))
 clear b1 b2 b3
 go_wp2_with fail
 refine bodyPost_ret (v:=.agg #[.string F.name,.string F.text,.int .i64 F.kept]) (by simp [results,Tryz.results104,go_sem,hq0,hq1,hq2]) rfl ⟨rfl,?_⟩
 exact ((HB3.out.setCell (p:=⟨w.heap.size+1,0,none⟩) (by simp) _).setCell (p:=⟨w.heap.size+1,1,none⟩) (by simp) _).setCell (p:=⟨w.heap.size+1,2,none⟩) (by simp) _
end Go.Proofs.YtepdckehokdjlaaGreatDoor
namespace Go.Proofs.YtepdckehokdjlaaGreatDoor
open Go.RowKit Go.Maps
theorem names_sorted {w:World} {B mb:Nat} {gs:List FileD} {D:DataW Unit} {pt:ByteArray→Nat} (hD:ShelfD w B mb gs D pt) (hs:srt gs) {ss:List (List UInt8)} (hp:ss.Perm (strKeys D)):ss.mergeSort (fun x y => decide (x≤y))=gs.map (fun F => F.name.data.toList):=by
 have hlt:(gs.map (fun F => F.name.data.toList)).Pairwise (fun a b => Op.bytesLess a b=true):=by
  refine List.pairwise_map.2 (hs.imp fun {a b} h => ?_)
  rw [Lib.toList_data,Lib.toList_data] at h
  exact h
 have hnd:(gs.map (fun F => F.name.data.toList)).Nodup:=hlt.imp fun {a b} h e => by rw [e,less_irrefl] at h;cases h
 have hm:∀ x,x ∈ gs.map (fun F => F.name.data.toList) ↔ has D (.string x)=true:=by
  intro x
  have h3:=hD.2.2.1 ⟨x.toArray⟩
  have e:kl ⟨x.toArray⟩=.string x:=by simp [kl]
  rw [e] at h3
  rw [h3,List.mem_map]
  constructor
  ·
   rintro ⟨F,hF,rfl⟩
   exact ⟨F,hF,by cases F.name;simp⟩
  ·
   rintro ⟨F,hF,e2⟩
   exact ⟨F,hF,by rw [e2]⟩
 have hc:Collected D (fun _ => false) (gs.map (fun F => F.name.data.toList)):=⟨hnd,fun x => by rw [hm x];simp⟩
 have hp2:=hc.perm hD.1 (string_keyed Tryz.underlying9) Tryz.underlying9 (fun _ => rfl)
 have h1:=mergeSort_of_perm (hp.trans hp2.symm)
 refine h1.trans ?_
 have tr:∀ a b c:List UInt8,leB a b=true→leB b c=true→leB a c=true:=fun a b c h1 h2 => by simp only [leB,decide_eq_true_eq] at *;exact List.le_trans h1 h2
 have tot:∀ a b:List UInt8,(leB a b || leB b a)=true:=fun a b => by simp only [leB,Bool.or_eq_true,decide_eq_true_eq];exact List.le_total a b
 refine List.Perm.eq_of_pairwise (le:=fun a b => leB a b=true) (fun a b _ _ h1 h2 => ?_) (List.pairwise_mergeSort tr tot _) ?_ (List.mergeSort_perm _ leB)
 ·
  simp only [leB,decide_eq_true_eq] at h1 h2
  exact List.le_antisymm h1 h2
 ·
  refine hlt.imp fun {a b} h => ?_
  rw [bytesLess_eq,decide_eq_true_eq] at h
  simp only [leB,decide_eq_true_eq]
  exact List.le_of_lt h
theorem keys_any (mb:Option Nat) (W:World):Calls Tryz.prog 103 #[.map mb] W fun e w' => e=.returned (.func (.func 141) #[] #[.pointer (some ⟨W.heap.size,0,none⟩)])∧w' = W.alloc (.cells #[.map mb] 123) :=
 (callsIn_wide (n:=5)).1 (Tryz.maps_Keys_103 mb W)
theorem sorted_any {B mb:Nat} {gs:List FileD} {D:DataW Unit} {pt:ByteArray→Nat} (w:World) (hD:ShelfD w B mb gs D pt) (hok:diskOkD gs=true) :
  Calls Tryz.prog 102 #[.func (.func 141) #[] #[.pointer (some ⟨w.heap.size,0,none⟩)]] (w.alloc (.cells #[.map (some mb)] 123)) fun e w' => ∃ v:Value,e=.returned v∧w'.ownsRow (w.heap.size+1) 9 1 v gs.length (gs.map (fun F => .string F.name))∧Below w.heap.size w w':=by
 have hl:=((disk_iff gs).1 hok).1
 have hsz:=hD.2.1
 refine ((callsIn_wide (n:=5)).1 (Tryz.slices_Sorted_keys_102_103 mb (size D) D ptrElem w hD.1 (by unfold maxLen;omega) (by omega))).mono ?_
 rintro e w' ⟨v,ss,rfl,hp,hrow,_,hb⟩
 refine ⟨v,rfl,?_,((Below.refl _ w).alloc (Nat.le_refl _) _).trans (hb.mono (by simp))⟩
 have hn:=names_sorted hD ((disk_iff gs).1 hok).2.2 hp
 rw [hn] at hrow
 have hle:ss.length=gs.length:=by
  have:=congrArg List.length hn
  rw [List.length_mergeSort,List.length_map] at this
  exact this
 rw [hle,List.map_map] at hrow
 have e1:(w.alloc (.cells #[.map (some mb)] 123)).heap.size=w.heap.size+1:=by simp
 rw [e1] at hrow
 have e2:(encStr ∘ fun F:FileD => F.name.data.toList)=fun F:FileD => Value.string F.name:=by
  funext F
  simp [encStr]
 rw [e2] at hrow
 exact hrow
theorem grownBy_step' {wb wr w3:World} {r:Option Nat} (hg:wb.grownBy wr r) (hb:Below wb.heap.size wr w3):wb.grownBy w3 r :=
 ⟨hb.os.trans hg.os,hb.tape.trans hg.tape,hb.output.trans hg.output,Nat.le_trans hg.size hb.size,fun i hi hr => (hb.block i hi).trans (hg.block i hi hr)⟩
theorem disk_any (gs:List FileD) (mb B:Nat) (w:World) (hok:diskOkD gs=true) (h:ShelfAt w B mb gs) :
  Calls Tryz.prog 67 #[.map (some mb)] w fun e w' => ∃ v,e=.returned (.agg #[v])∧RowF w' w.heap.size v gs∧Below w.heap.size w w':=by
 obtain ⟨D,pt,hD⟩:=h
 have hl:=((disk_iff gs).1 hok).1
 have HOK:=hide (disk_files hok).2
 have hmlt:=hD.1.lt
 have HPL:Hid (∀ F ∈ gs,pt F.name < w.heap.size):=fun F hF => (Array.getElem?_eq_some_iff.1 (hD.2.2.2.1 F hF).2.2.2).1
 obtain ⟨wb,hwb⟩:∃ wb,wb=(w.alloc (.cells #[.slice none 0 0] 31)).alloc (.cells #[.slice none 0 0] 31):=⟨_,rfl⟩
 have hbs:w.heap.size+1+1≤wb.heap.size:=by rw [hwb];simp
 have bb:Below w.heap.size w wb:=by rw [hwb];exact ((Below.refl _ w).alloc (Nat.le_refl _) _).alloc (by simp) _
 have R_wb:Hid (wb.heap[w.heap.size]? = some (.cells #[.slice none 0 0] 31 (0,0))):=by rw [hwb];exact blk_below (heap_alloc_new w _) ((Below.refl _ _).alloc (Nat.le_refl _) _)
 have O_wb:Hid (wb.heap[w.heap.size+1]? = some (.cells #[.slice none 0 0] 31 (0,0))):=by
  rw [hwb,show w.heap.size+1=(w.alloc (.cells #[.slice none 0 0] 31)).heap.size from by simp]
  exact heap_alloc_new _ _
 have HDb:=hide (shelfD_below hD bb)
 have HBb:=hide bb
 clear hD bb
 go_enter Tryz.func67,Tryz.ntmps67
 go_wp2_with fail
 rw [← hwb]
 clear hwb
 refine (keys_any (some mb) wb).mono ?_
 rintro e w' ⟨rfl,rfl⟩
 go_wp2_with fail
 refine (sorted_any wb HDb.out hok).mono ?_
 rintro e w1 ⟨vN,rfl,hrowN,b1⟩
 obtain ⟨aN,cN,rfl⟩:=slice_form hrowN
 have hs1:wb.heap.size≤w1.heap.size:=b1.size
 have HB1:Hid (Below w.heap.size w w1):=HBb.out.trans (b1.mono (by omega))
 have HD1:=hide (shelfD_below HDb.out b1)
 have R_w1:Hid (w1.heap[w.heap.size]? = some (.cells #[.slice none 0 0] 31 (0,0))):=blk_below R_wb.out b1
 have O_w1:Hid (w1.heap[w.heap.size+1]? = some (.cells #[.slice none 0 0] 31 (0,0))):=blk_below O_wb.out b1
 have HN:=hide hrowN
 obtain ⟨o,ho⟩:∃ o,o=w.heap.size+1:=⟨_,rfl⟩
 rw [← ho] at O_w1 ⊢
 have hno:w.heap.size < o:=by omega
 have how:o < w1.heap.size:=by omega
 have hob:o < wb.heap.size:=by omega
 clear ho hrowN b1 R_wb O_wb HBb
 go_wp2_with fail
 go_loopg [10] gs.length (fun gg ii wr => ∃ (k:Nat) (v:Value),k+gg=gs.length∧ii=.int .i64 k∧k≤gs.length∧Hid (w1.grownBy wr (some o))∧Hid (wr.heap[o]? = some (.cells #[v] 31 (0,0)))∧Hid (wr.ownsRow w1.heap.size 95 3 v k (cellsF (gs.take k))))
 case atStart => exact ⟨0,.slice none 0 0,by omega,rfl,Nat.zero_le _,World.grownBy.refl _ _,O_w1,⟨rfl,.inl ⟨rfl,rfl⟩⟩⟩
 case round =>
  obtain ⟨k,v,hkg,rfl,hk,HG,HV,HO⟩:=hrel
  have HB:Hid (Below w.heap.size w wr):=HB1.out.grown HG.out (by omega) (fun j hj => by cases hj;omega)
  have hws:w1.heap.size≤wr.heap.size:=HG.out.size
  have hout:wr.cell? ⟨o,0,none⟩=some v:=box_of HV.out
  have hfo:=frozen_of_row wr o 0 _ _ HV.out
  by_cases hlt:k < gs.length
  ·
   have hlt':decide ((k:Int) < (gs.length:Int))=true:=by simp;omega
   have hFm:=List.getElem_mem hlt
   have hNk:wr.ownsRow (wb.heap.size+1) 9 1 (.slice aN gs.length cN) gs.length (gs.map (fun F => .string F.name)):=HN.out.kept HG.out (by
    cases hv:(Value.slice aN gs.length cN).ownBlock with
    | none => exact .inl rfl
    | some g => exact .inr (fun e => by have:=(HN.out.lt g hv).1;cases e;omega))
   obtain ⟨gN,capN,hvN⟩:∃ gN capN,(Value.slice aN gs.length cN)=.slice (some ⟨gN,0,none⟩) gs.length capN:=by
    obtain ⟨g,c,e,_⟩:=hNk.form (by omega)
    exact ⟨g,c,e⟩
   cases hvN
   have hcn:wr.cell? ⟨gN,k,none⟩=some (.string gs[k].name):=by
    rw [hNk.cellAt k (by omega)]
    simp [hlt]
   have HDr:=hide (shelfD_keep HD1.out HG.out (fun j hj => by cases hj;exact ⟨by omega,fun F hF e => by have:=HPL.out F hF;omega⟩))
   obtain ⟨hat,_,hpm,hpb⟩:=HDr.out.2.2.2.1 gs[k] hFm
   obtain ⟨_,hn8,hx2,_,_⟩:=HOK.out gs[k] hFm
   have hT:=List.take_add_one (l:=gs) (i:=k)
   rw [List.getElem?_eq_getElem hlt] at hT
   obtain ⟨F,HFk⟩:∃ F,Hid (gs[k]=F):=⟨gs[k],hide rfl⟩
   rw [HFk.out] at hcn hat hpm hpb hn8 hx2 hT
   have HT:Hid (gs.take (k+1)=gs.take k ++ [F]):=hT
   have HL:Hid ((gs.take k).length=k):=by show _=_;rw [List.length_take];omega
   obtain ⟨p,hp⟩:∃ p,p=pt F.name:=⟨_,rfl⟩
   rw [← hp] at hat hpm hpb
   have hlk:(Instr.lookup 123 (.map (some mb)) (.string F.name) false).run Tryz.prog wr.drew=.ok (.pointer (some ⟨p,0,none⟩)) wr.drew:=by
    obtain ⟨v',ps,hrun,hv⟩:=World.ownsMap.lookup (w:=wr.drew) (t:=123) (e:=163) HDr.out.1 (string_keyed Tryz.underlying9) Tryz.underlying123 (Tryz.zeroP _) (zd:=.nil) (zp:=[]) rfl (Tryz.keyS F.name (by unfold maxLen;omega))
    rw [hat] at hv
    rw [ptrElem_inv hv] at hrun
    exact hrun
   obtain ⟨cf0,cf1,cf2⟩:=file_cell hpb
   have hi0:(0:Int)≤(k:Int):=by omega
   have hi1:(k:Int) < (gs.length:Int):=by omega
   have hF1:F.name.size≤1048576:=by omega
   have hF2:F.text.size≤1048576:=by omega
   clear hT hp hpb hat hNk hFm
   go_upto_region 5 with fail
   go_region_law ((first | (refine step_app_file _ w1.heap.size (by rfl) _ _ (by rfl) _ (gs.take k) F (by rfl) (by rw [HL.out];exact HO4.out.alloc _) w4.heap.size (by simp [Act.eval]) (heap_alloc_new w4 _) (by rw [HL.out];omega) (Nat.le_trans (Nat.le_trans hws hs4) (size_alloc_drew _ _)) ?_;rw [HL.out];intro g3 cap3 w3 hown3 hb3 hg3 hgl3;have hn0:w3.heap[o]? = some (.cells #[v] 31 (0,0)):=(hb3.block o how).trans ((((Below.refl _ w4).alloc (Nat.le_refl _) _).block o hof4).trans HV4.out);have hn1:w3.cell? ⟨o,0,none⟩=some v:=(cell_of_row w3 o 0 _ _ (0,0) hn0).trans rfl;have hn2:w3.frozen? ⟨o,0,none⟩=false:=frozen_of_row w3 o 0 _ _ hn0;have HN0:=hide hn0;clear hn0) | (go_simp;go_at_call 104;refine (ownFile_any F _ hF1 hF2).mono ?_;rintro e w4 ⟨rfl,b4⟩;have B4:Hid (Below wr.heap.size wr w4):=(Below.refl _ wr).drew.trans b4;have hs4:wr.heap.size≤w4.heap.size:=B4.out.size;have hof4:o < w4.heap.size:=Nat.lt_of_lt_of_le how (Nat.le_trans hws hs4);have HV4:Hid (w4.heap[o]? = some (.cells #[v] 31 (0,0))):=blk_below HV.out B4.out;have hall0:w4.cell? ⟨o,0,none⟩=some v:=box_of HV4.out;have hall:(w4.alloc (.cells #[.string F.name,.string F.text,.int .i64 F.kept] 95)).cell? ⟨o,0,none⟩=some v:=(((Below.refl _ w4).alloc (Nat.le_refl _) _).cell (p:=⟨o,0,none⟩) hof4).trans hall0;have HO4:Hid (w4.ownsRow w1.heap.size 95 3 v k (cellsF (gs.take k))):=ownsRow_below HO.out B4.out;clear b4)))
   all_goals
    go_wp2_with fail
    go_roundg (gk - 1)
    case measure => omega
    case rel =>
     have hbw:Below w1.heap.size wr w3:=((B4.out.mono hws).trans ((Below.refl _ w4).alloc (by omega) _)).trans hb3
     refine ⟨k+1,_,by omega,by go_num,by omega,grownBy_store (grownBy_step' HG.out hbw) 0 _,(heap_setCell_same _ o _ _ _ _ HN0.out).trans rfl,?_⟩
     have hle:(gs.take k ++ [F]).length=k+1:=by rw [List.length_append,HL.out];rfl
     rw [hle] at hown3
     show _
     rw [HT.out]
     exact hown3.kept (grownBy_store (World.grownBy.refl _ _) 0 _) (.inr (by simp [Value.ownBlock];omega))
  ·
   have hlt':decide ((k:Int) < (gs.length:Int))=false:=by simp;omega
   have hke:k=gs.length:=by omega
   have hR:wr.heap[w.heap.size]? = some (.cells #[.slice none 0 0] 31 (0,0)):=(HG.out.block w.heap.size (by omega) (by simp;omega)).trans R_w1.out
   have hr0:wr.cell? ⟨w.heap.size,0,none⟩=some (.slice none 0 0):=box_of hR
   have hr1:=frozen_of_row wr w.heap.size 0 _ _ hR
   have HKE:=hide hke
   clear hR hke
   obtain ⟨av,cv,rfl⟩:=slice_form HO.out
   go_wp2_with fail
   refine bodyPost_ret (v:=.agg #[.slice av k cv]) (by simp [results,Tryz.results67,go_sem,hr0]) rfl ⟨.slice av k cv,rfl,?_,HB.out.setCell (p:=⟨w.heap.size,0,none⟩) (Nat.le_refl _) _⟩
   have hrow:RowF wr w1.heap.size (.slice av k cv) gs:=by
    have h:=HO.out
    have e:gs.take k=gs:=List.take_of_length_le (by rw [HKE.out];exact Nat.le_refl _)
    rw [e] at h
    refine rowF_own ?_
    rw [← HKE.out]
    exact h
   exact rowF_le (rowF_grown hrow (grownBy_store (World.grownBy.refl _ _) 0 _) (fun g hg e => by have h1:=(rowF_lt hrow g hg).1;cases e;omega)) (by omega)
end Go.Proofs.YtepdckehokdjlaaGreatDoor
namespace Go.Proofs.YtepdckehokdjlaaGreatDoor
open Go.RowKit
theorem files_cells {w:World} {b off:Nat} {fs:List FileD} (h:FilesAt w (some ⟨b,off,none⟩) fs):∀ j u,(cellsF fs)[j]? = some u→w.cell? ((⟨b,off,none⟩:Addr).add j)=some u:=by
 intro j u hu
 have hjl:j < fs.length * 3:=by
  have:=(List.getElem?_eq_some_iff.1 hu).1
  rw [cellsF_length] at this
  exact this
 have ha:((⟨b,off,none⟩:Addr).add j)=⟨b,off+j,none⟩:=by cases j <;> simp [Addr.add]
 rw [ha]
 have hq:j / 3 < fs.length:=by omega
 obtain ⟨b',off',e,_,h0,h1,h2⟩:=h (j / 3) hq
 obtain ⟨g0,g1,g2⟩:=cellsF_get fs (j / 3) hq
 cases e
 rcases (by omega:j=j / 3 * 3 ∨ j=j / 3 * 3+1 ∨ j=j / 3 * 3+2) with e | e | e
 ·
  rw [← e] at h0 g0
  rw [h0,← hu,g0]
 ·
  rw [Nat.add_assoc,← e] at h1
  rw [← e] at g1
  rw [h1,← hu,g1]
 ·
  rw [Nat.add_assoc,← e] at h2
  rw [← e] at g2
  rw [h2,← hu,g2]
theorem app_files {ops:Array Oper} {rest:List Oper} {o:Oper} {a:Act} {Q:Exit→Act→World→Prop} (W:World) (B:Nat) (hgd:o.guard=none) (s x:Operand)
  (ho:o.op=.call { callee:=.builtin .append,args:=#[s,x],argTypes:=#[29,29] }) (v:Value) (fs:List FileD) (hs:a.eval s=v)
  (hown:W.ownsRow B 95 3 v 0 []) (b off cap:Nat) (hx:a.eval x=.slice (some ⟨b,off,none⟩) fs.length cap) (hfs:FilesAt W (some ⟨b,off,none⟩) fs)
  (hlen:fs.length≤1048576) (hbase:B≤W.heap.size)
  (h:∀ v' w',w'.ownsRow B 95 3 v' fs.length (cellsF fs)→Below B W w'→wpList Tryz.prog ops Q rest (a.put o.dst v') w') :
  wpList Tryz.prog ops Q (o :: rest) a W:=by
 obtain ⟨i0,hi,hz0,hz1,hz2⟩:=info_parts Tryz.infoFile
 refine wpList_append_own W hgd s x 29 ho B 95 i0 (.agg #[.string ⟨#[]⟩,.string ⟨#[]⟩,.int .i64 0]) 3 40 Tryz.underlying29 hi hz0 hz1 hz2 rfl (by decide) v 0 [] hs hown ⟨b,off,none⟩ fs.length cap (cellsF fs) hx (cellsF_length fs)
  (files_cells hfs) (cellsF_one fs) (by unfold maxLen;omega) (by omega) hbase ?_
 intro v' w' hown' hgrow _
 have hlt:=hown.lt
 rw [Nat.zero_add,List.nil_append] at hown'
 exact h v' w' hown' ((Below.refl B W).grown hgrow hbase (fun k hk => (hlt k hk).1))
end Go.Proofs.YtepdckehokdjlaaGreatDoor
