import Derived.Test.YtepdckehokdjlaaGreatDoorMg40
set_option maxRecDepth 100000
set_option maxHeartbeats 8000000
namespace Go.Proofs.YtepdckehokdjlaaGreatDoor
open Go.RowKit Go.Maps
theorem add_newO (gs:List FileD) (mb B:Nat) (nm tx:ByteArray) (w:World) (hok:diskOkD gs=true) (O:Nat→Prop) (h:ShelfW O w B mb gs) (hmb:O mb) (hBw:B≤w.heap.size) (hOw:∀ k,w.heap.size≤k→O k) (hnm:nm.size≤1048576) (htx:tx.size≤1048576) (hF:fileD gs nm=none) :
  Calls Tryz.prog 100 #[.map (some mb),.string nm,.string tx] w fun e w' => e=.returned (.bool (addD gs nm tx).isSome)∧ShelfW O w' B mb ((addD gs nm tx).getD gs)∧Stay O w w':=by
 obtain ⟨D,pt,hD,hO⟩:=h
 have HO:=hide hO
 clear hO
 have hno:=fileD_none hF
 obtain ⟨hd1,hd2,hd3⟩:=(disk_iff gs).1 hok
 have HD:=hide hD
 have hhas:has D (kl nm)=false:=by
  cases h:has D (kl nm) with
  | false => rfl
  | true =>
   obtain ⟨G,hG,e⟩:=(hD.2.2.1 nm).1 h
   exact absurd e (hno G hG)
 have HAT:Hid (∀ z,D.atKey (kl nm) z=z):=fun z => atKey_of_not_has hhas z
 have HK:=hide (Tryz.keyS nm (small_max hnm))
 have hsz:size D=gs.length:=hD.2.1
 have HNO:=hide hno
 obtain ⟨X,hX⟩:∃ X:ByteArray,X=⟨#[]⟩ ++ tx:=⟨_,rfl⟩
 have hadd:addD gs nm tx=if (nameOkD nm && decide (tx.size≤20000) && decide (gs.length+1≤30))=true then some (putD gs ⟨nm,X,0⟩) else none:=by
  unfold addD
  rw [hF]
  simp only [Option.getD_none]
  rw [← hX,put_ok_new (F':=⟨nm,X,0⟩) hok hno,new_file nm X tx hX]
 have HADD:=hide hadd
 have HX:=hide hX
 clear hD hadd hno hX
 have hln:=fun ty => HD.out.1.len Tryz.underlying123 ty
 rw [hsz] at hln
 cases h1:nameOkD nm
 ·
  have HE:Hid (addD gs nm tx=none):=by show _=_;rw [HADD.out,h1];rfl
  clear hln
  go_enter Tryz.func100,Tryz.ntmps100
  go_wp2_with (first | (at_lookup;refine wpList_lookup_own_ok _ rfl _ _ 123 rfl 9 163 (string_keyed Tryz.underlying9) Tryz.underlying123 ptrElem (Tryz.zeroP _) .nil [] rfl mb (size D) D rfl HD.out.1 _ _ rfl HK.out ?_;intro v ps hv;rw [HAT.out] at hv;obtain rfl:=ptrElem_nil hv;rw [hhas]) | (go_at_call 138;refine (nameOk_any nm _ (small_max hnm)).mono ?_;rintro e w' ⟨rfl,hw'⟩;rw [hw',h1];clear hw' w'))
  go_ret
  rw [HE.out]
  exact ⟨rfl,⟨D,pt,HD.out,HO.out⟩,Stay.refl _ _⟩
 ·
  by_cases h30:gs.length=30
  ·
   have HE:Hid (addD gs nm tx=none):=by show _=_;rw [HADD.out,if_neg (by simp;omega)]
   have h30':(((gs.length:Nat):Int) == 30)=true:=by simp;omega
   go_enter Tryz.func100,Tryz.ntmps100
   go_wp2_with (first | (at_lookup;refine wpList_lookup_own_ok _ rfl _ _ 123 rfl 9 163 (string_keyed Tryz.underlying9) Tryz.underlying123 ptrElem (Tryz.zeroP _) .nil [] rfl mb (size D) D rfl HD.out.1 _ _ rfl HK.out ?_;intro v ps hv;rw [HAT.out] at hv;obtain rfl:=ptrElem_nil hv;rw [hhas]) | (go_at_call 138;refine (nameOk_any nm _ (small_max hnm)).mono ?_;rintro e w' ⟨rfl,hw'⟩;rw [hw',h1];clear hw' w'))
   go_ret
   rw [HE.out]
   exact ⟨rfl,⟨D,pt,HD.out,HO.out⟩,Stay.refl _ _⟩
  ·
   have h30':(((gs.length:Nat):Int) == 30)=false:=by simp;omega
   have hHX:X.size=tx.size:=by rw [HX.out,ByteArray.size_append];show 0+tx.size=_;omega
   obtain ⟨wp,hwp⟩:∃ wp,wp=w.alloc (.cells #[.string nm,.string ⟨#[]⟩,.int .i64 0] 95):=⟨_,rfl⟩
   have bp:Below w.heap.size w wp:=by rw [hwp];exact (Below.refl _ _).alloc (Nat.le_refl _) _
   have hws:w.heap.size+1≤wp.heap.size:=by rw [hwp];simp
   have hpb:wp.heap[w.heap.size]? = some (.cells #[.string nm,.string ⟨#[]⟩,.int .i64 0] 95 (0,0)):=by rw [hwp];exact heap_alloc_new _ _
   have HDp:=hide (shelfD_below HD.out bp)
   have hmlt:=HD.out.1.lt
   by_cases hbig:tx.size≤20000
   ·
    have hb1:decide ((20000:Int) < (tx.size:Int))=false:=by simp;omega
    have hb2:decide ((20000:Int) < 0+(tx.size:Int))=false:=by simp;omega
    have HE:Hid (addD gs nm tx=some (putD gs ⟨nm,X,0⟩)):=by show _=_;rw [HADD.out,if_pos (by simp [h1];omega)]
    obtain ⟨wt,hwt⟩:∃ wt,wt=w.alloc (.cells #[.string nm,.string X,.int .i64 0] 95):=⟨_,rfl⟩
    have bt:Below w.heap.size w wt:=by rw [hwt];exact (Below.refl _ _).alloc (Nat.le_refl _) _
    have hpb1:wt.heap[w.heap.size]? = some (fileObj ⟨nm,X,0⟩):=by rw [hwt];exact heap_alloc_new _ _
    have HD1:=hide (shelfD_below HD.out bt)
    go_enter Tryz.func100,Tryz.ntmps100
    go_wp2_with (first | (at_lookup;refine wpList_lookup_own_ok _ rfl _ _ 123 rfl 9 163 (string_keyed Tryz.underlying9) Tryz.underlying123 ptrElem (Tryz.zeroP _) .nil [] rfl mb (size D) D rfl HD.out.1 _ _ rfl HK.out ?_;intro v ps hv;rw [HAT.out] at hv;obtain rfl:=ptrElem_nil hv;rw [hhas]) | (go_at_call 138;refine (nameOk_any nm _ (small_max hnm)).mono ?_;rintro e w' ⟨rfl,hw'⟩;rw [hw',h1];clear hw' w') | (at_mapUpdate;rw [← HX.out,← hwt];refine wpList_mapUpdate_own _ rfl _ _ _ 123 rfl 9 163 (string_keyed Tryz.underlying9) Tryz.underlying123 ptrElem mb (size D) D rfl HD1.out.1 (by unfold maxLen;omega) _ _ _ rfl rfl HK.out (.lit (.int .i64 (w.heap.size:Int))) [] rfl ?_;intro w1 hown1 hgrow1))
    go_ret
    rw [HE.out]
    refine ⟨rfl,?_,((stay_of bt hOw).grown hgrow1 (fun k hk => hOw k (Nat.le_trans bt.size hk)) (fun k hk => by cases hk;exact hmb))⟩
    have hlen:(putD gs ⟨nm,X,0⟩).length=size (D.put (kl nm) (.lit (.int .i64 (w.heap.size:Int)))):=by
     rw [put_len_new (F:=⟨nm,X,0⟩) HNO.out,size_put (HD.out.1.tidy (string_keyed Tryz.underlying9)),hhas,hsz]
     rfl
    have hap:∀ G ∈ gs,G.name ≠ nm→pt G.name ≠ w.heap.size:=fun G hG _ e => by
     have:=(Array.getElem?_eq_some_iff.1 (HD.out.2.2.2.1 G hG).2.2.2).1
     omega
    exact ⟨_,_,shelf_put (F:=⟨nm,X,0⟩) HD1.out hpb1 hBw (by omega) hap hown1 hgrow1 hlen,own_put (F:=⟨nm,X,0⟩) HO.out (hOw _ (Nat.le_refl _))⟩
   ·
    have hb1:decide ((20000:Int) < (tx.size:Int))=true:=by simp;omega
    have hb2:decide ((20000:Int) < 0+(tx.size:Int))=true:=by simp;omega
    have HE:Hid (addD gs nm tx=none):=by show _=_;rw [HADD.out,if_neg (by simp;omega)]
    go_enter Tryz.func100,Tryz.ntmps100
    go_wp2_with (first | (at_lookup;refine wpList_lookup_own_ok _ rfl _ _ 123 rfl 9 163 (string_keyed Tryz.underlying9) Tryz.underlying123 ptrElem (Tryz.zeroP _) .nil [] rfl mb (size D) D rfl HD.out.1 _ _ rfl HK.out ?_;intro v ps hv;rw [HAT.out] at hv;obtain rfl:=ptrElem_nil hv;rw [hhas]) | (go_at_call 138;refine (nameOk_any nm _ (small_max hnm)).mono ?_;rintro e w' ⟨rfl,hw'⟩;rw [hw',h1];clear hw' w'))
    go_ret
    rw [HE.out,← hwp]
    exact ⟨rfl,⟨D,pt,HDp.out,HO.out⟩,stay_of bp hOw⟩
theorem move_anyO (gs:List FileD) (mb B:Nat) (tto:ByteArray) (w:World) (D:DataW Unit) (pt:ByteArray→Nat) (F:FileD) (hok:diskOkD gs=true) (hD:ShelfD w B mb gs D pt) (hFm:F ∈ gs) (O:Nat→Prop) (hO:∀ F ∈ gs,O (pt F.name)) (hmb:O mb) (_hBw:B≤w.heap.size) (hOw:∀ k,w.heap.size≤k→O k) (hto:tto.size≤1048576) :
  Calls Tryz.prog 101 #[.map (some mb),.pointer (some ⟨pt F.name,0,none⟩),.string tto] w fun e w' => e=.returned (.bool (moveD gs F tto).isSome)∧ShelfW O w' B mb ((moveD gs F tto).getD gs)∧Stay O w w':=by
 obtain ⟨hd1,hd2,hd3⟩:=(disk_iff gs).1 hok
 obtain ⟨n1,n2,n3,n4,n5⟩:=ok_file (hd2 F hFm)
 have HD:=hide hD
 have HO:=hide hO
 have hpO0:O (pt F.name):=hO F hFm
 obtain ⟨_,hpB,hpm,hpb⟩:=hD.2.2.2.1 F hFm
 obtain ⟨p,hp⟩:∃ p,p=pt F.name:=⟨_,rfl⟩
 rw [← hp] at hpB hpm hpb hpO0 ⊢
 have HP:=hide hp
 have HPB:=hide hpb
 have hc0:w.cell? ⟨p,0,none⟩=some (.string F.name):=(cell_of_row w p 0 _ _ (0,0) hpb).trans rfl
 have hc1:w.cell? ⟨p,1,none⟩=some (.string F.text):=(cell_of_row w p 1 _ _ (0,0) hpb).trans rfl
 have hc2:w.cell? ⟨p,2,none⟩=some (.int .i64 F.kept):=(cell_of_row w p 2 _ _ (0,0) hpb).trans rfl
 have hsz:size D=gs.length:=hD.2.1
 have HK:=hide (Tryz.keyS F.name (by unfold maxLen;omega))
 have HK2:=hide (Tryz.keyS tto (small_max hto))
 clear hD hp hpb hO
 cases hk:decide (F.kept < (F.text.size:Int))
 ·
  cases he:(F.name.toList == tto.toList)
  ·
   cases hn:nameOkD tto
   ·
    have HE:Hid (moveD gs F tto=none):=by show _=_;rw [moveD,if_pos (by simp [hn])]
    go_enter Tryz.func101,Tryz.ntmps101
    go_wp2_with fail
    go_quiet ((go_at_call 138;exact Calls.quiet_of_same (nameOk_val _ _ _ (small_max hto) hn)))
    go_wp2
    go_ret
    rw [HE.out]
    exact ⟨rfl,⟨D,pt,shelfD_below HD.out (drewN_below _ _),HO.out⟩,stay_of (drewN_below w nq) hOw⟩
   ·
    have HE:Hid (moveD gs F tto=some (putD (withoutD gs F.name) ⟨tto,F.text,F.kept⟩)):=by show _=_;rw [moveD,if_neg (by rw [hk,he,hn];decide)]
    go_enter Tryz.func101,Tryz.ntmps101
    go_wp2_with fail
    go_quiet ((go_at_call 138;exact Calls.quiet_of_same (nameOk_val _ _ _ (small_max hto) hn)))
    obtain ⟨wq,hwq⟩:∃ wq,wq=w.drewN nq:=⟨_,rfl⟩
    rw [← hwq]
    have bq:Below w.heap.size w wq:=by rw [hwq];exact drewN_below w nq
    have hqs:wq.heap.size=w.heap.size:=by rw [hwq];rfl
    have HDq:=hide (shelfD_below HD.out bq)
    have HPq:Hid (wq.heap[p]? = some (fileObj F)):=blk_below HPB.out bq
    have hq0:wq.cell? ⟨p,0,none⟩=some (.string F.name):=by rw [hwq];exact hc0
    clear hwq hc0 hc1 hc2
    have hhas:has D (kl F.name)=true:=(HD.out.2.2.1 F.name).2 ⟨F,hFm,rfl⟩
    have hlenD:(withoutD gs F.name).length=size (D.del (kl F.name)):=by
     have h1:=size_del (k:=kl F.name) (HD.out.1.tidy (string_keyed Tryz.underlying9))
     rw [hhas,hsz] at h1
     have h2:=without_len hd3 hFm
     simp at h1
     omega
    have hsD:size (D.del (kl F.name))≤30:=by rw [← hlenD];have:=without_len hd3 hFm;omega
    have hfree:∀ G ∈ withoutD gs F.name,pt G.name ≠ p:=fun G hG e => by
     obtain ⟨hG1,hG2⟩:=without_mem.1 hG
     rw [HP.out] at e
     exact hG2 (HD.out.2.2.2.2 G hG1 F hFm e)
    have HFREE:=hide hfree
    have HLEN:=hide hlenD
    clear hfree hlenD
    go_wp2_with (first | (at_delete;refine wpList_delete_own _ rfl _ _ 123 9 rfl 163 (string_keyed Tryz.underlying9) Tryz.underlying123 ptrElem mb (size D) D rfl HDq.out.1 _ _ rfl HK.out ?_;intro w1 hown1 hturn1;have hg1:=hturn1.grown;have hp1:w1.heap[p]? = some (fileObj F):=blk_grown HPq.out hg1 (by simpa using hpm);have hr0:w1.cell? ⟨p,0,none⟩=some (.string F.name):=(cell_of_row w1 p 0 _ _ (0,0) hp1).trans rfl;have hr1:=frozen_of_row w1 p 0 _ _ hp1;have HP1:=hide hp1;have HD1:=hide (shelf_drop HDq.out hown1 hg1 HLEN.out);have HDt:Hid (ShelfD (w1.setCell ⟨p,0,none⟩ (.string tto)) B mb (withoutD gs F.name) (D.del (kl F.name)) pt):=shelfD_keep HD1.out (grownBy_store (World.grownBy.refl _ _) 0 _) (fun k hk => by cases hk;exact ⟨hpm,HFREE.out⟩);clear hp1) | (at_mapUpdate;refine wpList_mapUpdate_own _ rfl _ _ _ 123 rfl 9 163 (string_keyed Tryz.underlying9) Tryz.underlying123 ptrElem mb (size (D.del (kl F.name))) (D.del (kl F.name)) rfl HDt.out.1 (by unfold maxLen;omega) _ _ _ rfl rfl HK2.out (.lit (.int .i64 (p:Int))) [] rfl ?_;intro w2 hown2 hgrow2))
    go_ret
    rw [HE.out]
    have hpt:(w1.setCell ⟨p,0,none⟩ (.string tto)).heap[p]? = some (fileObj ⟨tto,F.text,F.kept⟩):=(heap_setCell_same _ _ _ _ _ _ HP1.out).trans rfl
    have hs':srt (withoutD gs F.name):=srt_without _ hd3
    have hlen:(putD (withoutD gs F.name) ⟨tto,F.text,F.kept⟩).length=size ((D.del (kl F.name)).put (kl tto) (.lit (.int .i64 (p:Int)))):=by
     rw [size_put (HDt.out.1.tidy (string_keyed Tryz.underlying9)),← HLEN.out]
     cases hh:has (D.del (kl F.name)) (kl tto) with
     | true =>
      obtain ⟨G,hG,e⟩:=(HDt.out.2.2.1 tto).1 hh
      rw [put_len_old (F:=G) (F':=⟨tto,F.text,F.kept⟩) hs' hG e.symm]
      rfl
     | false =>
      rw [put_len_new (F:=⟨tto,F.text,F.kept⟩) (fun G hG e => by
       have:=(HDt.out.2.2.1 tto).2 ⟨G,hG,e⟩
       rw [hh] at this
       cases this)]
      rfl
    have hb1:Stay O w w1:=(stay_of bq hOw).grown hg1 (fun k hk => hOw k (by omega)) (fun k hk => by cases hk;exact hmb)
    have hb2:Stay O w (w1.setCell ⟨p,0,none⟩ (.string tto)):=hb1.setCell (p:=⟨p,0,none⟩) hpO0 _
    refine ⟨rfl,⟨_,_,shelf_put (F:=⟨tto,F.text,F.kept⟩) HDt.out hpt hpB hpm (fun G hG _ => HFREE.out G hG) hown2 hgrow2 hlen,own_put (F:=⟨tto,F.text,F.kept⟩) (own_without HO.out F.name) hpO0⟩,hb2.grown hgrow2 (fun k hk => hOw k (Nat.le_trans hb2.size hk)) (fun k hk => by cases hk;exact hmb)⟩
  ·
   have HE:Hid (moveD gs F tto=none):=by show _=_;rw [moveD,if_pos (by simp [he])]
   go_enter Tryz.func101,Tryz.ntmps101
   go_wp2_with fail
   go_quiet (fail)
   go_wp2
   go_ret
   rw [HE.out]
   exact ⟨rfl,⟨D,pt,shelfD_below HD.out (drewN_below _ _),HO.out⟩,stay_of (drewN_below w nq) hOw⟩
 ·
  have HE:Hid (moveD gs F tto=none):=by show _=_;rw [moveD,if_pos (by simp only [hk];rfl)]
  go_enter Tryz.func101,Tryz.ntmps101
  go_wp2_with fail
  go_quiet (fail)
  go_wp2
  go_ret
  rw [HE.out]
  exact ⟨rfl,⟨D,pt,shelfD_below HD.out (drewN_below _ _),HO.out⟩,stay_of (drewN_below w nq) hOw⟩
theorem do_anyO (gs:List FileD) (mb B:Nat) (A:ActD) (w:World) (hok:diskOkD gs=true) (O:Nat→Prop) (h:ShelfW O w B mb gs) (hmb:O mb) (hBw:B≤w.heap.size) (hOw:∀ k,w.heap.size≤k→O k) (hA1:A.name.size≤1048576) (hA2:A.text.size≤1048576) (hA3:A.toN.size≤1048576) :
  Calls Tryz.prog 65 #[.map (some mb),.agg #[.int .i64 A.kind,.string A.name,.string A.text,.string A.toN]] w fun e w' => e=.returned (.bool (actD gs A).isSome)∧ShelfW O w' B mb ((actD gs A).getD gs)∧Stay O w w':=by
 obtain ⟨kd,nm,tx,tt⟩:=A
 simp only at hA1 hA2 hA3 ⊢
 obtain ⟨D,pt,hD,hO⟩:=h
 have HO:=hide hO
 clear hO
 have HD:=hide hD
 have hsz:size D=gs.length:=hD.2.1
 clear hD
 obtain ⟨wb,hwb⟩:∃ wb,wb=w.alloc (.cells #[.int .i64 kd,.string nm,.string tx,.string tt] 51):=⟨_,rfl⟩
 have bb:Below w.heap.size w wb:=by rw [hwb];exact (Below.refl _ _).alloc (Nat.le_refl _) _
 have hbs:w.heap.size≤wb.heap.size:=bb.size
 have HDb:=hide (shelfD_below HD.out bb)
 have HBb:Hid (Stay O w wb):=stay_of bb hOw
 have hOwb:∀ k,wb.heap.size≤k→O k:=fun k hk => hOw k (Nat.le_trans hbs hk)
 clear bb
 have HK:=hide (Tryz.keyS nm (small_max hA1))
 have hd3:=((disk_iff gs).1 hok).2.2
 have hd1:=((disk_iff gs).1 hok).1
 by_cases k1:kd=1
 ·
  subst k1
  cases et:tt.toList.isEmpty
  ·
   skip
   have HE:Hid (actD gs ⟨1,nm,tx,tt⟩=none):=actD_no (by simp [actOk,et])
   go_enter Tryz.func65,Tryz.ntmps65
   go_wp2
   go_ret
   rw [HE.out,← hwb]
   exact ⟨rfl,⟨D,pt,HDb.out,HO.out⟩,HBb.out⟩
  ·
   rw [act_add hok et]
   cases hF:fileD gs nm
   ·
    skip
    go_enter Tryz.func65,Tryz.ntmps65
    go_wp2_with fail
    rw [← hwb]
    refine (add_newO gs mb B nm tx _ hok O ⟨D,pt,HDb.out,HO.out⟩ hmb (by omega) hOwb hA1 hA2 hF).mono ?_
    rintro e w1 ⟨rfl,hs1,b1⟩
    have HS1:=hide hs1
    have HB1:=hide b1
    clear hs1 b1
    go_wp2
    go_ret
    exact ⟨rfl,HS1.out,HBb.out.trans (HB1.out)⟩
   ·
    skip
    go_enter Tryz.func65,Tryz.ntmps65
    go_wp2_with fail
    rw [← hwb]
    refine (add_oldO gs mb B nm tx _ hok O ⟨D,pt,HDb.out,HO.out⟩ hmb (by omega) hOwb hA2 hF).mono ?_
    rintro e w1 ⟨rfl,hs1,b1⟩
    have HS1:=hide hs1
    have HB1:=hide b1
    clear hs1 b1
    go_wp2
    go_ret
    exact ⟨rfl,HS1.out,HBb.out.trans (HB1.out)⟩
 cases ex:tx.toList.isEmpty
 ·
  skip
  have HE:Hid (actD gs ⟨kd,nm,tx,tt⟩=none):=actD_no (by simp [actOk,ex,k1])
  go_enter Tryz.func65,Tryz.ntmps65
  go_wp2
  go_ret
  rw [HE.out,← hwb]
  exact ⟨rfl,⟨D,pt,HDb.out,HO.out⟩,HBb.out⟩
 by_cases k3:kd=3
 ·
  subst k3
  cases hF:fileD gs nm
  ·
   skip
   have HE:Hid (actD gs ⟨3,nm,tx,tt⟩=none):=act_none (by simp) hF
   have hhas:has D (kl nm)=false:=by
    cases h:has D (kl nm) with
    | false => rfl
    | true =>
     obtain ⟨G,hG,e⟩:=(HD.out.2.2.1 nm).1 h
     exact absurd e (fileD_none hF G hG)
   have HAT:Hid (∀ z,D.atKey (kl nm) z=z):=fun z => atKey_of_not_has hhas z
   go_enter Tryz.func65,Tryz.ntmps65
   go_wp2_with (at_lookup;rw [← hwb];clear hwb;refine wpList_lookup_own_ok _ rfl _ _ 123 rfl 9 163 (string_keyed Tryz.underlying9) Tryz.underlying123 ptrElem (Tryz.zeroP _) .nil [] rfl mb (size D) D rfl HDb.out.1 _ _ rfl HK.out ?_;intro v ps hv;rw [HAT.out] at hv;obtain rfl:=ptrElem_nil hv;rw [hhas])
   go_ret
   rw [HE.out]
   exact ⟨rfl,⟨D,pt,HDb.out,HO.out⟩,HBb.out⟩
  ·
   rename_i F
   obtain ⟨hFm,rfl⟩:=fileD_some hF
   obtain ⟨hat,hpB,hpm,hpb⟩:=HDb.out.2.2.2.1 F hFm
   have hhas:has D (kl F.name)=true:=(HD.out.2.2.1 F.name).2 ⟨F,hFm,rfl⟩
   have HAT:=hide hat
   have HPB:=hide hpb
   obtain ⟨p,hp⟩:∃ p,p=pt F.name:=⟨_,rfl⟩
   rw [← hp] at HAT HPB hpB hpm
   have HP:=hide hp
   clear hp hat hpb
   have hA:wb.heap[w.heap.size]? = some (.cells #[.int .i64 3,.string F.name,.string tx,.string tt] 51 (0,0)):=by rw [hwb];exact heap_alloc_new _ _
   obtain ⟨ca0,ca1,ca2,ca3⟩:=act_cell hA
   have HA:=hide hA
   clear hA
   rw [act_move hok hF ex]
   go_enter Tryz.func65,Tryz.ntmps65
   go_wp2_with (first | (at_lookup;rw [← hwb];clear hwb;refine wpList_lookup_own_ok _ rfl _ _ 123 rfl 9 163 (string_keyed Tryz.underlying9) Tryz.underlying123 ptrElem (Tryz.zeroP _) .nil [] rfl mb (size D) D rfl HDb.out.1 _ _ rfl HK.out ?_;intro v ps hv;rw [HAT.out] at hv;obtain rfl:=ptrElem_inv hv;rw [hhas]) | (go_at_call 101;rw [HP.out];refine (move_anyO gs mb B tt _ D pt F hok HDb.out hFm O HO.out hmb (by omega) hOwb hA3).mono ?_;rintro e w1 ⟨rfl,hs1,b1⟩))
   go_ret
   exact ⟨rfl,hs1,HBb.out.trans b1⟩
 cases et:tt.toList.isEmpty
 ·
  skip
  have HE:Hid (actD gs ⟨kd,nm,tx,tt⟩=none):=actD_no (by simp [actOk,et,k3])
  go_enter Tryz.func65,Tryz.ntmps65
  go_wp2
  go_ret
  rw [HE.out,← hwb]
  exact ⟨rfl,⟨D,pt,HDb.out,HO.out⟩,HBb.out⟩
 by_cases k2:kd=2
 ·
  subst k2
  cases hF:fileD gs nm
  ·
   skip
   have HE:Hid (actD gs ⟨2,nm,tx,tt⟩=none):=act_none (by simp) hF
   have hhas:has D (kl nm)=false:=by
    cases h:has D (kl nm) with
    | false => rfl
    | true =>
     obtain ⟨G,hG,e⟩:=(HD.out.2.2.1 nm).1 h
     exact absurd e (fileD_none hF G hG)
   have HAT:Hid (∀ z,D.atKey (kl nm) z=z):=fun z => atKey_of_not_has hhas z
   go_enter Tryz.func65,Tryz.ntmps65
   go_wp2_with (at_lookup;rw [← hwb];clear hwb;refine wpList_lookup_own_ok _ rfl _ _ 123 rfl 9 163 (string_keyed Tryz.underlying9) Tryz.underlying123 ptrElem (Tryz.zeroP _) .nil [] rfl mb (size D) D rfl HDb.out.1 _ _ rfl HK.out ?_;intro v ps hv;rw [HAT.out] at hv;obtain rfl:=ptrElem_nil hv;rw [hhas])
   go_ret
   rw [HE.out]
   exact ⟨rfl,⟨D,pt,HDb.out,HO.out⟩,HBb.out⟩
  ·
   rename_i F
   obtain ⟨hFm,rfl⟩:=fileD_some hF
   obtain ⟨hat,hpB,hpm,hpb⟩:=HDb.out.2.2.2.1 F hFm
   have hhas:has D (kl F.name)=true:=(HD.out.2.2.1 F.name).2 ⟨F,hFm,rfl⟩
   have HAT:=hide hat
   have HPB:=hide hpb
   obtain ⟨p,hp⟩:∃ p,p=pt F.name:=⟨_,rfl⟩
   rw [← hp] at HAT HPB hpB hpm
   have HP:=hide hp
   clear hp hat hpb
   have hA:wb.heap[w.heap.size]? = some (.cells #[.int .i64 2,.string F.name,.string tx,.string tt] 51 (0,0)):=by rw [hwb];exact heap_alloc_new _ _
   obtain ⟨ca0,ca1,ca2,ca3⟩:=act_cell hA
   have HA:=hide hA
   clear hA
   obtain ⟨cf0,cf1,cf2⟩:=file_cell HPB.out
   have zf:=frozen_of_row wb p 2 _ _ HPB.out
   have HE:=hide (act_keep (nm:=F.name) hok hF et ex)
   go_enter Tryz.func65,Tryz.ntmps65
   go_wp2_with (at_lookup;rw [← hwb];clear hwb;refine wpList_lookup_own_ok _ rfl _ _ 123 rfl 9 163 (string_keyed Tryz.underlying9) Tryz.underlying123 ptrElem (Tryz.zeroP _) .nil [] rfl mb (size D) D rfl HDb.out.1 _ _ rfl HK.out ?_;intro v ps hv;rw [HAT.out] at hv;obtain rfl:=ptrElem_inv hv;rw [hhas])
   go_ret
   rw [HE.out]
   have hg1:wb.grownBy (wb.setCell ⟨p,2,none⟩ (.int .i64 (F.text.size:Int))) (some p):=grownBy_store (World.grownBy.refl _ _) 2 _
   refine ⟨rfl,⟨D,pt,shelf_write (F:=F) (F':=⟨F.name,F.text,(F.text.size:Int)⟩) HDb.out hFm rfl (by rw [← HP.out];exact hg1) (by rw [← HP.out];exact (heap_setCell_same _ _ _ _ _ _ HPB.out).trans rfl) (put_len_old hd3 hFm rfl),own_write HO.out hFm rfl⟩,HBb.out.setCell (p:=⟨p,2,none⟩) (by show O p;rw [HP.out];exact HO.out F hFm) _⟩
 by_cases k4:kd=4
 ·
  subst k4
  cases hF:fileD gs nm
  ·
   skip
   have HE:Hid (actD gs ⟨4,nm,tx,tt⟩=none):=act_none (by simp) hF
   have hhas:has D (kl nm)=false:=by
    cases h:has D (kl nm) with
    | false => rfl
    | true =>
     obtain ⟨G,hG,e⟩:=(HD.out.2.2.1 nm).1 h
     exact absurd e (fileD_none hF G hG)
   have HAT:Hid (∀ z,D.atKey (kl nm) z=z):=fun z => atKey_of_not_has hhas z
   go_enter Tryz.func65,Tryz.ntmps65
   go_wp2_with (at_lookup;rw [← hwb];clear hwb;refine wpList_lookup_own_ok _ rfl _ _ 123 rfl 9 163 (string_keyed Tryz.underlying9) Tryz.underlying123 ptrElem (Tryz.zeroP _) .nil [] rfl mb (size D) D rfl HDb.out.1 _ _ rfl HK.out ?_;intro v ps hv;rw [HAT.out] at hv;obtain rfl:=ptrElem_nil hv;rw [hhas])
   go_ret
   rw [HE.out]
   exact ⟨rfl,⟨D,pt,HDb.out,HO.out⟩,HBb.out⟩
  ·
   rename_i F
   obtain ⟨hFm,rfl⟩:=fileD_some hF
   obtain ⟨hat,hpB,hpm,hpb⟩:=HDb.out.2.2.2.1 F hFm
   have hhas:has D (kl F.name)=true:=(HD.out.2.2.1 F.name).2 ⟨F,hFm,rfl⟩
   have HAT:=hide hat
   have HPB:=hide hpb
   obtain ⟨p,hp⟩:∃ p,p=pt F.name:=⟨_,rfl⟩
   rw [← hp] at HAT HPB hpB hpm
   have HP:=hide hp
   clear hp hat hpb
   have hA:wb.heap[w.heap.size]? = some (.cells #[.int .i64 4,.string F.name,.string tx,.string tt] 51 (0,0)):=by rw [hwb];exact heap_alloc_new _ _
   obtain ⟨ca0,ca1,ca2,ca3⟩:=act_cell hA
   have HA:=hide hA
   clear hA
   have HE:=hide (act_drop (nm:=F.name) hok hF et ex)
   have HLEN:Hid ((withoutD gs F.name).length=size (D.del (kl F.name))):=by
    have h1:=size_del (k:=kl F.name) (HD.out.1.tidy (string_keyed Tryz.underlying9))
    rw [hhas,hsz] at h1
    have h2:=without_len hd3 hFm
    simp at h1
    show _=_
    omega
   go_enter Tryz.func65,Tryz.ntmps65
   go_wp2_with (first | (at_lookup;rw [← hwb];clear hwb;refine wpList_lookup_own_ok _ rfl _ _ 123 rfl 9 163 (string_keyed Tryz.underlying9) Tryz.underlying123 ptrElem (Tryz.zeroP _) .nil [] rfl mb (size D) D rfl HDb.out.1 _ _ rfl HK.out ?_;intro v ps hv;rw [HAT.out] at hv;obtain rfl:=ptrElem_inv hv;rw [hhas]) | (at_delete;refine wpList_delete_own _ rfl _ _ 123 9 rfl 163 (string_keyed Tryz.underlying9) Tryz.underlying123 ptrElem mb (size D) D rfl HDb.out.1 _ _ rfl HK.out ?_;intro w1 hown1 hturn1))
   go_ret
   rw [HE.out]
   exact ⟨rfl,⟨_,_,shelf_drop HDb.out hown1 hturn1.grown HLEN.out,own_without HO.out F.name⟩,HBb.out.grown hturn1.grown hOwb (fun k hk => by cases hk;exact hmb)⟩
 cases hF:fileD gs nm
 ·
  skip
  have HE:Hid (actD gs ⟨kd,nm,tx,tt⟩=none):=act_none (by exact k1) hF
  have hhas:has D (kl nm)=false:=by
   cases h:has D (kl nm) with
   | false => rfl
   | true =>
    obtain ⟨G,hG,e⟩:=(HD.out.2.2.1 nm).1 h
    exact absurd e (fileD_none hF G hG)
  have HAT:Hid (∀ z,D.atKey (kl nm) z=z):=fun z => atKey_of_not_has hhas z
  go_enter Tryz.func65,Tryz.ntmps65
  go_wp2_with (at_lookup;rw [← hwb];clear hwb;refine wpList_lookup_own_ok _ rfl _ _ 123 rfl 9 163 (string_keyed Tryz.underlying9) Tryz.underlying123 ptrElem (Tryz.zeroP _) .nil [] rfl mb (size D) D rfl HDb.out.1 _ _ rfl HK.out ?_;intro v ps hv;rw [HAT.out] at hv;obtain rfl:=ptrElem_nil hv;rw [hhas])
  go_ret
  rw [HE.out]
  exact ⟨rfl,⟨D,pt,HDb.out,HO.out⟩,HBb.out⟩
 ·
  rename_i F
  obtain ⟨hFm,rfl⟩:=fileD_some hF
  obtain ⟨hat,hpB,hpm,hpb⟩:=HDb.out.2.2.2.1 F hFm
  have hhas:has D (kl F.name)=true:=(HD.out.2.2.1 F.name).2 ⟨F,hFm,rfl⟩
  have HAT:=hide hat
  have HPB:=hide hpb
  obtain ⟨p,hp⟩:∃ p,p=pt F.name:=⟨_,rfl⟩
  rw [← hp] at HAT HPB hpB hpm
  have HP:=hide hp
  clear hp hat hpb
  have hA:wb.heap[w.heap.size]? = some (.cells #[.int .i64 kd,.string F.name,.string tx,.string tt] 51 (0,0)):=by rw [hwb];exact heap_alloc_new _ _
  obtain ⟨ca0,ca1,ca2,ca3⟩:=act_cell hA
  have HA:=hide hA
  clear hA
  have HE:=hide (act_other (gs:=gs) (nm:=F.name) (tx:=tx) (tt:=tt) k1 k2 k3 k4)
  go_enter Tryz.func65,Tryz.ntmps65
  go_wp2_with (at_lookup;rw [← hwb];clear hwb;refine wpList_lookup_own_ok _ rfl _ _ 123 rfl 9 163 (string_keyed Tryz.underlying9) Tryz.underlying123 ptrElem (Tryz.zeroP _) .nil [] rfl mb (size D) D rfl HDb.out.1 _ _ rfl HK.out ?_;intro v ps hv;rw [HAT.out] at hv;obtain rfl:=ptrElem_inv hv;rw [hhas])
  go_ret
  rw [HE.out]
  exact ⟨rfl,⟨D,pt,HDb.out,HO.out⟩,HBb.out⟩
end Go.Proofs.YtepdckehokdjlaaGreatDoor
