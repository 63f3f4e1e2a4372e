import Derived.Test.YtepdckehokdjlaaGreatDoorMg28
import Derived.Test.YtepdckehokdjlaaGreatDoorMg10
import Derived.Test.YtepdckehokdjlaaGreatDoorMg24
set_option maxRecDepth 100000
set_option maxHeartbeats 8000000
namespace Go.Proofs.YtepdckehokdjlaaGreatDoor
open Go.RowKit Go.Maps
theorem ptrElem_nil {v:Value} {ps:List MemPlace} (h:ptrElem v=some (.nil,ps)):v=.pointer none:=by
 unfold ptrElem at h
 split at h
 · simp at h
 · rfl
 · cases h
theorem new_file (nm X tx:ByteArray) (hX:X=⟨#[]⟩ ++ tx):fileOkD ⟨nm,X,0⟩=(nameOkD nm && decide (tx.size≤20000)):=by
 have hs:X.size=tx.size:=by rw [hX,ByteArray.size_append];show 0+tx.size=_;omega
 simp only [fileOkD,hs]
 have e1:decide ((0:Int)≤0)=true:=rfl
 have e2:decide ((0:Int)≤(tx.size:Int))=true:=decide_eq_true (by omega)
 rw [e1,e2]
 simp
theorem add_new (gs:List FileD) (mb B:Nat) (nm tx:ByteArray) (w:World) (hok:diskOkD gs=true) (h:ShelfAt w B mb gs) (hmb:B≤mb) (hBw:B≤w.heap.size) (hnm:nm.size≤1048576) (htx:tx.size≤1048576) (hF:fileD gs nm=none) :
  Calls Tryz.prog 100 #[.map (some mb),.string nm,.string tx] w fun e w' => e=.returned (.bool (addD gs nm tx).isSome)∧ShelfAt w' B mb ((addD gs nm tx).getD gs)∧Below B w w':=by
 obtain ⟨D,pt,hD⟩:=h
 have hno:=fileD_none hF
 obtain ⟨hd1,hd2,hd3⟩:=(disk_iff gs).1 hok
 have HD:=hide hD
 have hhas:has D (kl nm)=false:=by
  cases h:has D (kl nm) with
  | false => rfl
  | true =>
   obtain ⟨G,hG,e⟩:=(hD.2.2.1 nm).1 h
   exact absurd e (hno G hG)
 have HAT:Hid (∀ z,D.atKey (kl nm) z=z):=fun z => atKey_of_not_has hhas z
 have HK:=hide (Tryz.keyS nm (small_max hnm))
 have hsz:size D=gs.length:=hD.2.1
 have HNO:=hide hno
 obtain ⟨X,hX⟩:∃ X:ByteArray,X=⟨#[]⟩ ++ tx:=⟨_,rfl⟩
 have hadd:addD gs nm tx=if (nameOkD nm && decide (tx.size≤20000) && decide (gs.length+1≤30))=true then some (putD gs ⟨nm,X,0⟩) else none:=by
  unfold addD
  rw [hF]
  simp only [Option.getD_none]
  rw [← hX,put_ok_new (F':=⟨nm,X,0⟩) hok hno,new_file nm X tx hX]
 have HADD:=hide hadd
 have HX:=hide hX
 clear hD hadd hno hX
 have hln:=fun ty => HD.out.1.len Tryz.underlying123 ty
 rw [hsz] at hln
 cases h1:nameOkD nm
 ·
  have HE:Hid (addD gs nm tx=none):=by show _=_;rw [HADD.out,h1];rfl
  clear hln
  go_enter Tryz.func100,Tryz.ntmps100
  go_wp2_with (first | (at_lookup;refine wpList_lookup_own_ok _ rfl _ _ 123 rfl 9 163 (string_keyed Tryz.underlying9) Tryz.underlying123 ptrElem (Tryz.zeroP _) .nil [] rfl mb (size D) D rfl HD.out.1 _ _ rfl HK.out ?_;intro v ps hv;rw [HAT.out] at hv;obtain rfl:=ptrElem_nil hv;rw [hhas]) | (go_at_call 138;refine (nameOk_any nm _ (small_max hnm)).mono ?_;rintro e w' ⟨rfl,hw'⟩;rw [hw',h1];clear hw' w'))
  go_ret
  rw [HE.out]
  exact ⟨rfl,⟨D,pt,HD.out⟩,Below.refl _ _⟩
 ·
  by_cases h30:gs.length=30
  ·
   have HE:Hid (addD gs nm tx=none):=by show _=_;rw [HADD.out,if_neg (by simp;omega)]
   have h30':(((gs.length:Nat):Int) == 30)=true:=by simp;omega
   go_enter Tryz.func100,Tryz.ntmps100
   go_wp2_with (first | (at_lookup;refine wpList_lookup_own_ok _ rfl _ _ 123 rfl 9 163 (string_keyed Tryz.underlying9) Tryz.underlying123 ptrElem (Tryz.zeroP _) .nil [] rfl mb (size D) D rfl HD.out.1 _ _ rfl HK.out ?_;intro v ps hv;rw [HAT.out] at hv;obtain rfl:=ptrElem_nil hv;rw [hhas]) | (go_at_call 138;refine (nameOk_any nm _ (small_max hnm)).mono ?_;rintro e w' ⟨rfl,hw'⟩;rw [hw',h1];clear hw' w'))
   go_ret
   rw [HE.out]
   exact ⟨rfl,⟨D,pt,HD.out⟩,Below.refl _ _⟩
  ·
   have h30':(((gs.length:Nat):Int) == 30)=false:=by simp;omega
   have hHX:X.size=tx.size:=by rw [HX.out,ByteArray.size_append];show 0+tx.size=_;omega
   obtain ⟨wp,hwp⟩:∃ wp,wp=w.alloc (.cells #[.string nm,.string ⟨#[]⟩,.int .i64 0] 95):=⟨_,rfl⟩
   have bp:Below w.heap.size w wp:=by rw [hwp];exact (Below.refl _ _).alloc (Nat.le_refl _) _
   have hws:w.heap.size+1≤wp.heap.size:=by rw [hwp];simp
   have hpb:wp.heap[w.heap.size]? = some (.cells #[.string nm,.string ⟨#[]⟩,.int .i64 0] 95 (0,0)):=by rw [hwp];exact heap_alloc_new _ _
   have HDp:=hide (shelfD_below HD.out bp)
   have hmlt:=HD.out.1.lt
   by_cases hbig:tx.size≤20000
   ·
    have hb1:decide ((20000:Int) < (tx.size:Int))=false:=by simp;omega
    have hb2:decide ((20000:Int) < 0+(tx.size:Int))=false:=by simp;omega
    have HE:Hid (addD gs nm tx=some (putD gs ⟨nm,X,0⟩)):=by show _=_;rw [HADD.out,if_pos (by simp [h1];omega)]
    obtain ⟨wt,hwt⟩:∃ wt,wt=w.alloc (.cells #[.string nm,.string X,.int .i64 0] 95):=⟨_,rfl⟩
    have bt:Below w.heap.size w wt:=by rw [hwt];exact (Below.refl _ _).alloc (Nat.le_refl _) _
    have hpb1:wt.heap[w.heap.size]? = some (fileObj ⟨nm,X,0⟩):=by rw [hwt];exact heap_alloc_new _ _
    have HD1:=hide (shelfD_below HD.out bt)
    go_enter Tryz.func100,Tryz.ntmps100
    go_wp2_with (first | (at_lookup;refine wpList_lookup_own_ok _ rfl _ _ 123 rfl 9 163 (string_keyed Tryz.underlying9) Tryz.underlying123 ptrElem (Tryz.zeroP _) .nil [] rfl mb (size D) D rfl HD.out.1 _ _ rfl HK.out ?_;intro v ps hv;rw [HAT.out] at hv;obtain rfl:=ptrElem_nil hv;rw [hhas]) | (go_at_call 138;refine (nameOk_any nm _ (small_max hnm)).mono ?_;rintro e w' ⟨rfl,hw'⟩;rw [hw',h1];clear hw' w') | (at_mapUpdate;rw [← HX.out,← hwt];refine wpList_mapUpdate_own _ rfl _ _ _ 123 rfl 9 163 (string_keyed Tryz.underlying9) Tryz.underlying123 ptrElem mb (size D) D rfl HD1.out.1 (by unfold maxLen;omega) _ _ _ rfl rfl HK.out (.lit (.int .i64 (w.heap.size:Int))) [] rfl ?_;intro w1 hown1 hgrow1))
    go_ret
    rw [HE.out]
    refine ⟨rfl,?_,((bt.mono hBw).grown hgrow1 (by have:=bt.size;omega) (fun k hk => by cases hk;exact hmb))⟩
    have hlen:(putD gs ⟨nm,X,0⟩).length=size (D.put (kl nm) (.lit (.int .i64 (w.heap.size:Int)))):=by
     rw [put_len_new (F:=⟨nm,X,0⟩) HNO.out,size_put (HD.out.1.tidy (string_keyed Tryz.underlying9)),hhas,hsz]
     rfl
    have hap:∀ G ∈ gs,G.name ≠ nm→pt G.name ≠ w.heap.size:=fun G hG _ e => by
     have:=(Array.getElem?_eq_some_iff.1 (HD.out.2.2.2.1 G hG).2.2.2).1
     omega
    exact ⟨_,_,shelf_put (F:=⟨nm,X,0⟩) HD1.out hpb1 hBw (by omega) hap hown1 hgrow1 hlen⟩
   ·
    have hb1:decide ((20000:Int) < (tx.size:Int))=true:=by simp;omega
    have hb2:decide ((20000:Int) < 0+(tx.size:Int))=true:=by simp;omega
    have HE:Hid (addD gs nm tx=none):=by show _=_;rw [HADD.out,if_neg (by simp;omega)]
    go_enter Tryz.func100,Tryz.ntmps100
    go_wp2_with (first | (at_lookup;refine wpList_lookup_own_ok _ rfl _ _ 123 rfl 9 163 (string_keyed Tryz.underlying9) Tryz.underlying123 ptrElem (Tryz.zeroP _) .nil [] rfl mb (size D) D rfl HD.out.1 _ _ rfl HK.out ?_;intro v ps hv;rw [HAT.out] at hv;obtain rfl:=ptrElem_nil hv;rw [hhas]) | (go_at_call 138;refine (nameOk_any nm _ (small_max hnm)).mono ?_;rintro e w' ⟨rfl,hw'⟩;rw [hw',h1];clear hw' w'))
    go_ret
    rw [HE.out,← hwp]
    exact ⟨rfl,⟨D,pt,HDp.out⟩,bp.mono hBw⟩
def moveD (gs:List FileD) (F:FileD) (tto:ByteArray):Option (List FileD) :=
 if (decide (F.kept < (F.text.size:Int)) || (F.name.toList == tto.toList) || !nameOkD tto)=true then none else some (putD (withoutD gs F.name) ⟨tto,F.text,F.kept⟩)
theorem without_len {gs:List FileD} {F:FileD} (hs:srt gs) (hF:F ∈ gs):(withoutD gs F.name).length+1=gs.length:=by
 have key:∀ l:List FileD,srt l→(l.filter (otherF F.name)).length+(if (∃ X ∈ l,X.name=F.name) then 1 else 0)=l.length:=by
  intro l
  induction l with
  | nil => intro _;simp
  | cons G r ih =>
   intro h
   have hr:=ih (List.pairwise_cons.1 h).2
   have hlt:=(List.pairwise_cons.1 h).1
   simp only [List.filter_cons]
   by_cases e:G.name=F.name
   ·
    have h1:otherF F.name G=false:=by rw [otherF,e];simp
    have hno:¬ ∃ X ∈ r,X.name=F.name:=by
     rintro ⟨X,hX,e2⟩
     exact less_ne (hlt X hX) (e.trans e2.symm)
    rw [if_neg hno] at hr
    have e1:(if (∃ X ∈ G :: r,X.name=F.name) then 1 else 0)=1:=if_pos ⟨G,List.mem_cons_self,e⟩
    rw [h1,e1]
    simp only [Bool.false_eq_true,if_false,List.length_cons]
    omega
   ·
    have hiff:(∃ X ∈ G :: r,X.name=F.name) ↔ ∃ X ∈ r,X.name=F.name:=by
     constructor
     ·
      rintro ⟨X,hX,e2⟩
      rcases List.mem_cons.1 hX with rfl | hX
      · exact absurd e2 e
      · exact ⟨X,hX,e2⟩
     ·
      rintro ⟨X,hX,e2⟩
      exact ⟨X,List.mem_cons_of_mem _ hX,e2⟩
    have h1:otherF F.name G=true:=by rw [otherF,toList_ne.2 e];rfl
    rw [h1]
    simp only [hiff,if_true,List.length_cons]
    omega
 have:=key gs hs
 rw [if_pos ⟨F,hF,rfl⟩] at this
 simp only [withoutD]
 omega
theorem nameOk_val (s:ByteArray) (c:Bool) (w:World) (hs:s.size≤maxLen) (h:nameOkD s=c):Calls Tryz.prog 138 #[.string s] w fun e w' => e=.returned (.bool c)∧w' = w:=h ▸ nameOk_any s w hs
theorem move_any (gs:List FileD) (mb B:Nat) (tto:ByteArray) (w:World) (D:DataW Unit) (pt:ByteArray→Nat) (F:FileD) (hok:diskOkD gs=true) (hD:ShelfD w B mb gs D pt) (hFm:F ∈ gs) (hmb:B≤mb) (hBw:B≤w.heap.size) (hto:tto.size≤1048576) :
  Calls Tryz.prog 101 #[.map (some mb),.pointer (some ⟨pt F.name,0,none⟩),.string tto] w fun e w' => e=.returned (.bool (moveD gs F tto).isSome)∧ShelfAt w' B mb ((moveD gs F tto).getD gs)∧Below B w w':=by
 obtain ⟨hd1,hd2,hd3⟩:=(disk_iff gs).1 hok
 obtain ⟨n1,n2,n3,n4,n5⟩:=ok_file (hd2 F hFm)
 have HD:=hide hD
 obtain ⟨_,hpB,hpm,hpb⟩:=hD.2.2.2.1 F hFm
 obtain ⟨p,hp⟩:∃ p,p=pt F.name:=⟨_,rfl⟩
 rw [← hp] at hpB hpm hpb ⊢
 have HP:=hide hp
 have HPB:=hide hpb
 have hc0:w.cell? ⟨p,0,none⟩=some (.string F.name):=(cell_of_row w p 0 _ _ (0,0) hpb).trans rfl
 have hc1:w.cell? ⟨p,1,none⟩=some (.string F.text):=(cell_of_row w p 1 _ _ (0,0) hpb).trans rfl
 have hc2:w.cell? ⟨p,2,none⟩=some (.int .i64 F.kept):=(cell_of_row w p 2 _ _ (0,0) hpb).trans rfl
 have hsz:size D=gs.length:=hD.2.1
 have HK:=hide (Tryz.keyS F.name (by unfold maxLen;omega))
 have HK2:=hide (Tryz.keyS tto (small_max hto))
 clear hD hp hpb
 cases hk:decide (F.kept < (F.text.size:Int))
 ·
  cases he:(F.name.toList == tto.toList)
  ·
   cases hn:nameOkD tto
   ·
    have HE:Hid (moveD gs F tto=none):=by show _=_;rw [moveD,if_pos (by simp [hn])]
    go_enter Tryz.func101,Tryz.ntmps101
    go_wp2_with fail
    go_quiet ((go_at_call 138;exact Calls.quiet_of_same (nameOk_val _ _ _ (small_max hto) hn)))
    go_wp2
    go_ret
    rw [HE.out]
    exact ⟨rfl,⟨D,pt,shelfD_below HD.out (drewN_below _ _)⟩,(drewN_below w nq).mono hBw⟩
   ·
    have HE:Hid (moveD gs F tto=some (putD (withoutD gs F.name) ⟨tto,F.text,F.kept⟩)):=by show _=_;rw [moveD,if_neg (by rw [hk,he,hn];decide)]
    go_enter Tryz.func101,Tryz.ntmps101
    go_wp2_with fail
    go_quiet ((go_at_call 138;exact Calls.quiet_of_same (nameOk_val _ _ _ (small_max hto) hn)))
    obtain ⟨wq,hwq⟩:∃ wq,wq=w.drewN nq:=⟨_,rfl⟩
    rw [← hwq]
    have bq:Below w.heap.size w wq:=by rw [hwq];exact drewN_below w nq
    have hqs:wq.heap.size=w.heap.size:=by rw [hwq];rfl
    have HDq:=hide (shelfD_below HD.out bq)
    have HPq:Hid (wq.heap[p]? = some (fileObj F)):=blk_below HPB.out bq
    have hq0:wq.cell? ⟨p,0,none⟩=some (.string F.name):=by rw [hwq];exact hc0
    clear hwq hc0 hc1 hc2
    have hhas:has D (kl F.name)=true:=(HD.out.2.2.1 F.name).2 ⟨F,hFm,rfl⟩
    have hlenD:(withoutD gs F.name).length=size (D.del (kl F.name)):=by
     have h1:=size_del (k:=kl F.name) (HD.out.1.tidy (string_keyed Tryz.underlying9))
     rw [hhas,hsz] at h1
     have h2:=without_len hd3 hFm
     simp at h1
     omega
    have hsD:size (D.del (kl F.name))≤30:=by rw [← hlenD];have:=without_len hd3 hFm;omega
    have hfree:∀ G ∈ withoutD gs F.name,pt G.name ≠ p:=fun G hG e => by
     obtain ⟨hG1,hG2⟩:=without_mem.1 hG
     rw [HP.out] at e
     exact hG2 (HD.out.2.2.2.2 G hG1 F hFm e)
    have HFREE:=hide hfree
    have HLEN:=hide hlenD
    clear hfree hlenD
    go_wp2_with (first | (at_delete;refine wpList_delete_own _ rfl _ _ 123 9 rfl 163 (string_keyed Tryz.underlying9) Tryz.underlying123 ptrElem mb (size D) D rfl HDq.out.1 _ _ rfl HK.out ?_;intro w1 hown1 hturn1;have hg1:=hturn1.grown;have hp1:w1.heap[p]? = some (fileObj F):=blk_grown HPq.out hg1 (by simpa using hpm);have hr0:w1.cell? ⟨p,0,none⟩=some (.string F.name):=(cell_of_row w1 p 0 _ _ (0,0) hp1).trans rfl;have hr1:=frozen_of_row w1 p 0 _ _ hp1;have HP1:=hide hp1;have HD1:=hide (shelf_drop HDq.out hown1 hg1 HLEN.out);have HDt:Hid (ShelfD (w1.setCell ⟨p,0,none⟩ (.string tto)) B mb (withoutD gs F.name) (D.del (kl F.name)) pt):=shelfD_keep HD1.out (grownBy_store (World.grownBy.refl _ _) 0 _) (fun k hk => by cases hk;exact ⟨hpm,HFREE.out⟩);clear hp1) | (at_mapUpdate;refine wpList_mapUpdate_own _ rfl _ _ _ 123 rfl 9 163 (string_keyed Tryz.underlying9) Tryz.underlying123 ptrElem mb (size (D.del (kl F.name))) (D.del (kl F.name)) rfl HDt.out.1 (by unfold maxLen;omega) _ _ _ rfl rfl HK2.out (.lit (.int .i64 (p:Int))) [] rfl ?_;intro w2 hown2 hgrow2))
    go_ret
    rw [HE.out]
    have hpt:(w1.setCell ⟨p,0,none⟩ (.string tto)).heap[p]? = some (fileObj ⟨tto,F.text,F.kept⟩):=(heap_setCell_same _ _ _ _ _ _ HP1.out).trans rfl
    have hs':srt (withoutD gs F.name):=srt_without _ hd3
    have hlen:(putD (withoutD gs F.name) ⟨tto,F.text,F.kept⟩).length=size ((D.del (kl F.name)).put (kl tto) (.lit (.int .i64 (p:Int)))):=by
     rw [size_put (HDt.out.1.tidy (string_keyed Tryz.underlying9)),← HLEN.out]
     cases hh:has (D.del (kl F.name)) (kl tto) with
     | true =>
      obtain ⟨G,hG,e⟩:=(HDt.out.2.2.1 tto).1 hh
      rw [put_len_old (F:=G) (F':=⟨tto,F.text,F.kept⟩) hs' hG e.symm]
      rfl
     | false =>
      rw [put_len_new (F:=⟨tto,F.text,F.kept⟩) (fun G hG e => by
       have:=(HDt.out.2.2.1 tto).2 ⟨G,hG,e⟩
       rw [hh] at this
       cases this)]
      rfl
    have hb1:Below B w w1:=(bq.mono hBw).grown hg1 (by omega) (fun k hk => by cases hk;exact hmb)
    have hb2:Below B w (w1.setCell ⟨p,0,none⟩ (.string tto)):=hb1.setCell (p:=⟨p,0,none⟩) hpB _
    refine ⟨rfl,⟨_,_,shelf_put (F:=⟨tto,F.text,F.kept⟩) HDt.out hpt hpB hpm (fun G hG _ => HFREE.out G hG) hown2 hgrow2 hlen⟩,hb2.grown hgrow2 (Nat.le_trans hBw hb2.size) (fun k hk => by cases hk;exact hmb)⟩
  ·
   have HE:Hid (moveD gs F tto=none):=by show _=_;rw [moveD,if_pos (by simp [he])]
   go_enter Tryz.func101,Tryz.ntmps101
   go_wp2_with fail
   go_quiet (fail)
   go_wp2
   go_ret
   rw [HE.out]
   exact ⟨rfl,⟨D,pt,shelfD_below HD.out (drewN_below _ _)⟩,(drewN_below w nq).mono hBw⟩
 ·
  have HE:Hid (moveD gs F tto=none):=by show _=_;rw [moveD,if_pos (by simp only [hk];rfl)]
  go_enter Tryz.func101,Tryz.ntmps101
  go_wp2_with fail
  go_quiet (fail)
  go_wp2
  go_ret
  rw [HE.out]
  exact ⟨rfl,⟨D,pt,shelfD_below HD.out (drewN_below _ _)⟩,(drewN_below w nq).mono hBw⟩
end Go.Proofs.YtepdckehokdjlaaGreatDoor
namespace Go.Proofs.YtepdckehokdjlaaGreatDoor
open Go.RowKit
theorem l03Put_own (fs:List FileD) (ao:Option Addr) (cap:Nat) (F:FileD) (w:World) (hl:fs.length≤1000) (hfs:FilesAt w ao fs) :
  Calls Tryz.prog 48 #[.agg #[.slice ao fs.length cap],.agg #[.string F.name,.string F.text,.int .i64 F.kept]] w fun e w' => ∃ v,e=.returned (.agg #[v])∧w'.ownsRow w.heap.size 95 3 v (putD fs F).length (cellsF (putD fs F))∧Below w.heap.size w w':=by
 have HF:=hide hfs
 clear hfs
 obtain ⟨wa,hwa⟩:∃ wa,wa=((w.alloc (.cells #[.slice ao fs.length cap] 31)).alloc (.cells #[.string F.name,.string F.text,.int .i64 F.kept] 95)).alloc (.cells #[.slice none 0 0] 31):=⟨_,rfl⟩
 have hwas:wa.heap.size=w.heap.size+1+1+1:=by rw [hwa];simp
 have HBa:Hid (Below w.heap.size w wa):=by rw [hwa];exact (((Below.refl _ w).alloc (Nat.le_refl _) _).alloc (by simp) _).alloc (by simp;omega) _
 have HXa:Hid (wa.heap[w.heap.size]? = some (.cells #[.slice ao fs.length cap] 31 (0,0))):=by rw [hwa];exact blk_below (blk_below (heap_alloc_new w _) ((Below.refl _ _).alloc (Nat.le_refl _) _)) ((Below.refl _ _).alloc (Nat.le_refl _) _)
 have HFa:Hid (wa.heap[w.heap.size+1]? = some (.cells #[.string F.name,.string F.text,.int .i64 F.kept] 95 (0,0))):=by
  rw [hwa]
  refine blk_below ?_ ((Below.refl _ _).alloc (Nat.le_refl _) _)
  rw [show w.heap.size+1=(w.alloc (.cells #[.slice ao fs.length cap] 31)).heap.size from by simp]
  exact heap_alloc_new _ _
 have HRa:Hid (wa.heap[w.heap.size+1+1]? = some (.cells #[.slice none 0 0] 31 (0,0))):=by
  rw [hwa,show w.heap.size+1+1=((w.alloc (.cells #[.slice ao fs.length cap] 31)).alloc (.cells #[.string F.name,.string F.text,.int .i64 F.kept] 95)).heap.size from by simp]
  exact heap_alloc_new _ _
 obtain ⟨o,ho⟩:∃ o,o=wa.heap.size:=⟨_,rfl⟩
 obtain ⟨wb,hwb⟩:∃ wb,wb=wa.alloc (.cells #[.slice none 0 0] 31):=⟨_,rfl⟩
 have bab:Below wa.heap.size wa wb:=by rw [hwb];exact (Below.refl _ _).alloc (Nat.le_refl _) _
 have hbs:wb.heap.size=o+1:=by rw [hwb,ho];simp
 have HBb:Hid (Below w.heap.size w wb):=HBa.out.trans (bab.mono (by omega))
 have HXb:Hid (wb.cell? ⟨w.heap.size,0,none⟩=some (.slice ao fs.length cap)):=box_of (blk_below HXa.out bab)
 have HFb:Hid (wb.heap[w.heap.size+1]? = some (.cells #[.string F.name,.string F.text,.int .i64 F.kept] 95 (0,0))):=blk_below HFa.out bab
 have HRb:Hid (wb.heap[w.heap.size+1+1]? = some (.cells #[.slice none 0 0] 31 (0,0))):=blk_below HRa.out bab
 have HOb:Hid (wb.heap[o]? = some (.cells #[.slice none 0 0] 31 (0,0))):=by rw [hwb,ho];exact heap_alloc_new _ _
 have hso:w.heap.size+1+1 < o:=by omega
 have hov:o=w.heap.size+1+1+1:=by omega
 rw [hwa] at hwb
 clear bab hwa hwas ho HXa HFa HRa HBa
 go_enter Tryz.func48,Tryz.ntmps48
 go_wp2_with fail
 rw [← hwb,← hov]
 clear hwb hov
 go_loopg [6] fs.length (fun gg ii wr => ∃ (k:Nat) (v:Value),k+gg=fs.length∧ii=.int .i64 k∧k≤fs.length∧Hid (wb.grownBy wr (some o))∧Hid (wr.heap[o]? = some (.cells #[v] 31 (0,0)))∧Hid (wr.ownsRow (o+1) 95 3 v ((fs.take k).filter (lessF F.name)).length (cellsF ((fs.take k).filter (lessF F.name)))))
 case atStart => exact ⟨0,.slice none 0 0,by omega,rfl,Nat.zero_le _,World.grownBy.refl _ _,HOb,⟨rfl,.inl ⟨rfl,rfl⟩⟩⟩
 case round =>
  obtain ⟨k,v,hkg,rfl,hk,HG,HV,HO⟩:=hrel
  have HB:Hid (Below w.heap.size w wr):=HBb.out.grown HG.out (by omega) (fun j hj => by cases hj;omega)
  have hws:o < wr.heap.size:=by have:=HG.out.size;omega
  have hbox:wr.cell? ⟨w.heap.size,0,none⟩=some (.slice ao fs.length cap):=(HG.out.cell_far ⟨w.heap.size,0,none⟩ (by show w.heap.size < _;omega) (by simp;omega)).trans HXb.out
  have hout:wr.cell? ⟨o,0,none⟩=some v:=(cell_of_row wr o 0 _ _ (0,0) HV.out).trans rfl
  have hfo:=frozen_of_row wr o 0 _ _ HV.out
  have HLk:Hid (((fs.take k).filter (lessF F.name)).length≤1048576):=by show _≤_;have:=filter_le (fs:=fs) (lessF F.name) k;omega
  obtain ⟨LL,HLL⟩:∃ LL,Hid (((fs.take k).filter (lessF F.name))=LL):=⟨_,hide rfl⟩
  rw [HLL.out] at HO HLk
  by_cases hlt:k < fs.length
  ·
   have hlt':decide ((k:Int) < (fs.length:Int))=true:=by simp;omega
   obtain ⟨b,off,rfl,hbw,hc0,hc1,hc2⟩:=filesAt_keep HF.out HB.out k hlt
   obtain ⟨G,HGk⟩:∃ G,Hid (fs[k]=G):=⟨fs[k],hide rfl⟩
   rw [HGk.out] at hc0 hc1 hc2
   have hi0:(0:Int)≤(k:Int):=by omega
   have hi1:(k:Int) < (fs.length:Int):=by omega
   have HN:=hide (filter_next (lessF F.name) hlt)
   rw [HGk.out] at HN
   have HFB:Hid (wr.heap[w.heap.size+1]? = some (.cells #[.string F.name,.string F.text,.int .i64 F.kept] 95 (0,0))):=(HG.out.block (w.heap.size+1) (by omega) (by simp;omega)).trans HFb.out
   have hfn:wr.cell? ⟨w.heap.size+1,0,none⟩=some (.string F.name):=(cell_of_row wr (w.heap.size+1) 0 _ _ (0,0) HFB.out).trans rfl
   go_wp2_with fail
   go_quiet (fail)
   obtain ⟨wq,hwq⟩:∃ wq,wq=wr.drewN nq:=⟨_,rfl⟩
   rw [← hwq]
   have HBq:Hid (Below wr.heap.size wr wq):=by rw [hwq];exact drewN_below wr nq
   have hqs:wq.heap.size=wr.heap.size:=by rw [hwq];rfl
   have hq0:wq.cell? ⟨b,off+k * 3,none⟩=some (.string G.name):=by rw [hwq];exact hc0
   have hq1:wq.cell? ⟨b,off+k * 3+1,none⟩=some (.string G.text):=by rw [hwq];exact hc1
   have hq2:wq.cell? ⟨b,off+k * 3+2,none⟩=some (.int .i64 G.kept):=by rw [hwq];exact hc2
   have hqb:wq.cell? ⟨w.heap.size,0,none⟩=some (.slice (some ⟨b,off,none⟩) fs.length cap):=by rw [hwq];exact hbox
   have hqo:wq.cell? ⟨o,0,none⟩=some v:=by rw [hwq];exact hout
   have HVq:Hid (wq.heap[o]? = some (.cells #[v] 31 (0,0))):=by rw [hwq];exact HV.out
   have HOq:Hid (wq.ownsRow (o+1) 95 3 v LL.length (cellsF LL)):=by rw [hwq];exact HO.out
   have HGq:Hid (wb.grownBy wq (some o)):=grownBy_step HG.out (HBq.out.mono (by omega)) hbs
   clear hwq hc0 hc1 hc2 hbox hout hfo
   cases hp':Op.bytesLess G.name.toList F.name.toList
   ·
    have hp:lessF F.name G=false:=hp'
    have HT:Hid (((fs.take (k+1)).filter (lessF F.name))=LL):=by show _=_;rw [HN.out,hp,← HLL.out];simp
    go_wp2
    go_roundg (gk - 1)
    case measure => omega
    case rel => exact ⟨k+1,v,by omega,by go_num,by omega,HGq,HVq,by show _;rw [HT.out];exact HOq.out⟩
   ·
    have hp:lessF F.name G=true:=hp'
    have HT:Hid (((fs.take (k+1)).filter (lessF F.name))=LL ++ [G]):=by show _=_;rw [HN.out,hp,← HLL.out];simp
    have hof:o < wq.heap.size:=by omega
    have hall:(wq.alloc (.cells #[.string G.name,.string G.text,.int .i64 G.kept] 95)).cell? ⟨o,0,none⟩=some v:=(((Below.refl _ wq).alloc (Nat.le_refl _) _).cell (p:=⟨o,0,none⟩) hof).trans hqo
    have HQS:=hide hqs
    clear hqs
    go_upto_region 6 with fail
    go_region_law (refine step_app_file _ (o+1) (by rfl) _ _ (by rfl) _ LL G (by rfl) (HOq.out.alloc _) wq.heap.size (by simp [Act.eval]) (heap_alloc_new wq _) (by have:=HLk.out;omega) (by have:=HQS.out;simp;omega) ?_;intro g3 cap3 w3 hown3 hb3 hg3 hgl3;have hn0:w3.heap[o]? = some (.cells #[v] 31 (0,0)):=(hb3.block o (by omega)).trans ((((Below.refl _ wq).alloc (Nat.le_refl _) _).block o hof).trans HVq.out);have hn1:w3.cell? ⟨o,0,none⟩=some v:=(cell_of_row w3 o 0 _ _ (0,0) hn0).trans rfl;have hn2:w3.frozen? ⟨o,0,none⟩=false:=frozen_of_row w3 o 0 _ _ hn0;have HN0:=hide hn0;clear hn0)
    all_goals
     go_wp2_with fail
     go_roundg (gk - 1)
     case measure => omega
     case rel =>
      have hqs:=HQS.out
      have hbw:Below (o+1) wr w3:=((HBq.out.mono (by omega)).trans (((Below.refl _ wq).alloc (by omega) _).drew)).trans hb3
      refine ⟨k+1,_,by omega,by go_num,by omega,grownBy_store (grownBy_step HG.out hbw hbs) 0 _,(heap_setCell_same _ o _ _ _ _ HN0.out).trans rfl,?_⟩
      show _
      rw [HT.out]
      have hle:(LL ++ [G]).length=LL.length+1:=by simp only [List.length_append,List.length_singleton]
      have hfin:=hown3.kept (grownBy_store (World.grownBy.refl w3 (some o)) 0 (.slice (some ⟨g3,0,none⟩) (LL.length+1) cap3)) (.inr (by simp [Value.ownBlock];omega))
      rw [hle] at hfin ⊢
      exact hfin
  ·
   have hlt':decide ((k:Int) < (fs.length:Int))=false:=by simp;omega
   have hke:k=fs.length:=by omega
   have HE:Hid (((fs.take k).filter (lessF F.name))=fs.filter (lessF F.name)):=by show _=_;rw [hke,List.take_length]
   clear hke
   rw [← HLL.out,HE.out] at HO HLk
   have HFB:Hid (wr.heap[w.heap.size+1]? = some (.cells #[.string F.name,.string F.text,.int .i64 F.kept] 95 (0,0))):=(HG.out.block (w.heap.size+1) (by omega) (by simp;omega)).trans HFb.out
   have hfn:wr.cell? ⟨w.heap.size+1,0,none⟩=some (.string F.name):=(cell_of_row wr (w.heap.size+1) 0 _ _ (0,0) HFB.out).trans rfl
   have hft:wr.cell? ⟨w.heap.size+1,1,none⟩=some (.string F.text):=(cell_of_row wr (w.heap.size+1) 1 _ _ (0,0) HFB.out).trans rfl
   have hfk:wr.cell? ⟨w.heap.size+1,2,none⟩=some (.int .i64 F.kept):=(cell_of_row wr (w.heap.size+1) 2 _ _ (0,0) HFB.out).trans rfl
   go_wp2_with (at_builtin;refine app_file _ (o+1) (by rfl) _ _ (by rfl) _ (fs.filter (lessF F.name)) F (by rfl) (HO.out.alloc _) wr.heap.size (by simp [Act.eval]) (heap_alloc_new wr _) (by have:=List.length_filter_le (lessF F.name) fs;omega) (by simp;omega) ?_;intro g3 cap3 w3 hown3 hb3 hg3 hgl3;have hn0:w3.heap[o]? = some (.cells #[v] 31 (0,0)):=(hb3.block o (by omega)).trans ((((Below.refl _ wr).alloc (Nat.le_refl _) _).block o hws).trans HV.out);have hn1:w3.cell? ⟨o,0,none⟩=some v:=(cell_of_row w3 o 0 _ _ (0,0) hn0).trans rfl;have hn2:w3.frozen? ⟨o,0,none⟩=false:=frozen_of_row w3 o 0 _ _ hn0;have HN0:=hide hn0;clear hn0)
   obtain ⟨w5,hw5⟩:∃ w5,w5=w3.setCell ⟨o,0,none⟩ (.slice (some ⟨g3,0,none⟩) ((fs.filter (lessF F.name)).length+1) cap3):=⟨_,rfl⟩
   have HG5:Hid (wb.grownBy w5 (some o)):=by rw [hw5];exact grownBy_store (grownBy_step HG.out ((((Below.refl _ wr).alloc (by omega) _)).trans hb3) hbs) 0 _
   have HV5:Hid (w5.heap[o]? = some (.cells #[.slice (some ⟨g3,0,none⟩) ((fs.filter (lessF F.name)).length+1) cap3] 31 (0,0))):=by rw [hw5];exact (heap_setCell_same _ o _ _ _ _ HN0.out).trans rfl
   have HO5:Hid (w5.ownsRow (o+1) 95 3 (.slice (some ⟨g3,0,none⟩) ((fs.filter (lessF F.name)).length+1) cap3) (fs.filter (lessF F.name) ++ [F] ++ (fs.take 0).filter (moreF F.name)).length (cellsF (fs.filter (lessF F.name) ++ [F] ++ (fs.take 0).filter (moreF F.name)))):=by
    have e:(fs.filter (lessF F.name) ++ [F] ++ (fs.take 0).filter (moreF F.name))=fs.filter (lessF F.name) ++ [F]:=by simp
    rw [hw5,e]
    exact hown3.kept (grownBy_store (World.grownBy.refl w3 (some o)) 0 _) (.inr (by simp [Value.ownBlock];omega))
   rw [← hw5]
   clear hw5 hown3 hb3 hn1 hn2 HN0 HO HG HV HB hbox hout hfo hfn hft hfk HFB HLk HE
   go_loopg [7] fs.length (fun gg ii wr => ∃ (k:Nat) (v:Value),k+gg=fs.length∧ii=.int .i64 k∧k≤fs.length∧Hid (wb.grownBy wr (some o))∧Hid (wr.heap[o]? = some (.cells #[v] 31 (0,0)))∧Hid (wr.ownsRow (o+1) 95 3 v (fs.filter (lessF F.name) ++ [F] ++ (fs.take k).filter (moreF F.name)).length (cellsF (fs.filter (lessF F.name) ++ [F] ++ (fs.take k).filter (moreF F.name)))))
   case atStart => exact ⟨0,_,by omega,rfl,Nat.zero_le _,HG5,HV5,HO5⟩
   case round =>
    clear HG5 HV5 HO5
    obtain ⟨k,v,hkg,rfl,hk,HG,HV,HO⟩:=hrel
    have HB:Hid (Below w.heap.size w wr):=HBb.out.grown HG.out (by omega) (fun j hj => by cases hj;omega)
    have hws:o < wr.heap.size:=by have:=HG.out.size;omega
    have hbox:wr.cell? ⟨w.heap.size,0,none⟩=some (.slice ao fs.length cap):=(HG.out.cell_far ⟨w.heap.size,0,none⟩ (by show w.heap.size < _;omega) (by simp;omega)).trans HXb.out
    have hout:wr.cell? ⟨o,0,none⟩=some v:=(cell_of_row wr o 0 _ _ (0,0) HV.out).trans rfl
    have hfo:=frozen_of_row wr o 0 _ _ HV.out
    have HLk:Hid ((fs.filter (lessF F.name) ++ [F] ++ (fs.take k).filter (moreF F.name)).length≤1048576):=by show _≤_;have h1:=filter_le (fs:=fs) (moreF F.name) k;have h2:=List.length_filter_le (lessF F.name) fs;simp only [List.length_append,List.length_singleton];omega
    obtain ⟨LL,HLL⟩:∃ LL,Hid ((fs.filter (lessF F.name) ++ [F] ++ (fs.take k).filter (moreF F.name))=LL):=⟨_,hide rfl⟩
    rw [HLL.out] at HO HLk
    by_cases hlt:k < fs.length
    ·
     have hlt':decide ((k:Int) < (fs.length:Int))=true:=by simp;omega
     obtain ⟨b,off,rfl,hbw,hc0,hc1,hc2⟩:=filesAt_keep HF.out HB.out k hlt
     obtain ⟨G,HGk⟩:∃ G,Hid (fs[k]=G):=⟨fs[k],hide rfl⟩
     rw [HGk.out] at hc0 hc1 hc2
     have hi0:(0:Int)≤(k:Int):=by omega
     have hi1:(k:Int) < (fs.length:Int):=by omega
     have HN:=hide (filter_next (moreF F.name) hlt)
     rw [HGk.out] at HN
     have HFB:Hid (wr.heap[w.heap.size+1]? = some (.cells #[.string F.name,.string F.text,.int .i64 F.kept] 95 (0,0))):=(HG.out.block (w.heap.size+1) (by omega) (by simp;omega)).trans HFb.out
     have hfn:wr.cell? ⟨w.heap.size+1,0,none⟩=some (.string F.name):=(cell_of_row wr (w.heap.size+1) 0 _ _ (0,0) HFB.out).trans rfl
     go_wp2_with fail
     go_quiet (fail)
     obtain ⟨wq,hwq⟩:∃ wq,wq=wr.drewN nq:=⟨_,rfl⟩
     rw [← hwq]
     have HBq:Hid (Below wr.heap.size wr wq):=by rw [hwq];exact drewN_below wr nq
     have hqs:wq.heap.size=wr.heap.size:=by rw [hwq];rfl
     have hq0:wq.cell? ⟨b,off+k * 3,none⟩=some (.string G.name):=by rw [hwq];exact hc0
     have hq1:wq.cell? ⟨b,off+k * 3+1,none⟩=some (.string G.text):=by rw [hwq];exact hc1
     have hq2:wq.cell? ⟨b,off+k * 3+2,none⟩=some (.int .i64 G.kept):=by rw [hwq];exact hc2
     have hqb:wq.cell? ⟨w.heap.size,0,none⟩=some (.slice (some ⟨b,off,none⟩) fs.length cap):=by rw [hwq];exact hbox
     have hqo:wq.cell? ⟨o,0,none⟩=some v:=by rw [hwq];exact hout
     have HVq:Hid (wq.heap[o]? = some (.cells #[v] 31 (0,0))):=by rw [hwq];exact HV.out
     have HOq:Hid (wq.ownsRow (o+1) 95 3 v LL.length (cellsF LL)):=by rw [hwq];exact HO.out
     have HGq:Hid (wb.grownBy wq (some o)):=grownBy_step HG.out (HBq.out.mono (by omega)) hbs
     clear hwq hc0 hc1 hc2 hbox hout hfo
     obtain ⟨tb,htb⟩:∃ tb,tb=(!Op.bytesLess G.name.toList F.name.toList && !(G.name.toList == F.name.toList)):=⟨_,rfl⟩
     rw [← htb]
     cases tb
     ·
      have hp:moreF F.name G=false:=by rw [moreF,Bool.not_or];exact htb.symm
      clear htb
      have HT:Hid ((fs.filter (lessF F.name) ++ [F] ++ (fs.take (k+1)).filter (moreF F.name))=LL):=by show _=_;rw [HN.out,hp,← HLL.out];simp
      go_wp2
      go_roundg (gk - 1)
      case measure => omega
      case rel => exact ⟨k+1,v,by omega,by go_num,by omega,HGq,HVq,by show _;rw [HT.out];exact HOq.out⟩
     ·
      have hp:moreF F.name G=true:=by rw [moreF,Bool.not_or];exact htb.symm
      clear htb
      have HT:Hid ((fs.filter (lessF F.name) ++ [F] ++ (fs.take (k+1)).filter (moreF F.name))=LL ++ [G]):=by show _=_;rw [HN.out,hp,← HLL.out];simp
      have hof:o < wq.heap.size:=by omega
      have hall:(wq.alloc (.cells #[.string G.name,.string G.text,.int .i64 G.kept] 95)).cell? ⟨o,0,none⟩=some v:=(((Below.refl _ wq).alloc (Nat.le_refl _) _).cell (p:=⟨o,0,none⟩) hof).trans hqo
      have HQS:=hide hqs
      clear hqs
      go_upto_region 12 with fail
      go_region_law (refine step_app_file _ (o+1) (by rfl) _ _ (by rfl) _ LL G (by rfl) (HOq.out.alloc _) wq.heap.size (by simp [Act.eval]) (heap_alloc_new wq _) (by have:=HLk.out;omega) (by have:=HQS.out;simp;omega) ?_;intro g3 cap3 w3 hown3 hb3 hg3 hgl3;have hn0:w3.heap[o]? = some (.cells #[v] 31 (0,0)):=(hb3.block o (by omega)).trans ((((Below.refl _ wq).alloc (Nat.le_refl _) _).block o hof).trans HVq.out);have hn1:w3.cell? ⟨o,0,none⟩=some v:=(cell_of_row w3 o 0 _ _ (0,0) hn0).trans rfl;have hn2:w3.frozen? ⟨o,0,none⟩=false:=frozen_of_row w3 o 0 _ _ hn0;have HN0:=hide hn0;clear hn0)
      all_goals
       go_wp2_with fail
       go_roundg (gk - 1)
       case measure => omega
       case rel =>
        have hqs:=HQS.out
        have hbw:Below (o+1) wr w3:=((HBq.out.mono (by omega)).trans (((Below.refl _ wq).alloc (by omega) _).drew)).trans hb3
        refine ⟨k+1,_,by omega,by go_num,by omega,grownBy_store (grownBy_step HG.out hbw hbs) 0 _,(heap_setCell_same _ o _ _ _ _ HN0.out).trans rfl,?_⟩
        show _
        rw [HT.out]
        have hle:(LL ++ [G]).length=LL.length+1:=by simp only [List.length_append,List.length_singleton]
        have hfin:=hown3.kept (grownBy_store (World.grownBy.refl w3 (some o)) 0 (.slice (some ⟨g3,0,none⟩) (LL.length+1) cap3)) (.inr (by simp [Value.ownBlock];omega))
        rw [hle] at hfin ⊢
        exact hfin
    ·
     have hlt':decide ((k:Int) < (fs.length:Int))=false:=by simp;omega
     have hke:k=fs.length:=by omega
     have hR:wr.heap[w.heap.size+1+1]? = some (.cells #[.slice none 0 0] 31 (0,0)):=(HG.out.block (w.heap.size+1+1) (by omega) (by simp;omega)).trans HRb.out
     have hr0:wr.cell? ⟨w.heap.size+1+1,0,none⟩=some (.slice none 0 0):=(cell_of_row wr (w.heap.size+1+1) 0 _ _ (0,0) hR).trans rfl
     have hr1:=frozen_of_row wr (w.heap.size+1+1) 0 _ _ hR
     have HE:Hid ((fs.filter (lessF F.name) ++ [F] ++ (fs.take k).filter (moreF F.name))=putD fs F):=by show _=_;rw [hke,List.take_length];rfl
     clear hR hke
     rw [← HLL.out,HE.out] at HO HLk
     obtain ⟨av,cv,rfl⟩:=slice_form HO.out
     go_wp2_with fail
     refine bodyPost_ret (v:=.agg #[.slice av (putD fs F).length cv]) (by simp [results,Tryz.results48,go_sem,hr0]) rfl ⟨_,rfl,?_,HB.out.setCell (p:=⟨w.heap.size+1+1,0,none⟩) (by simp;omega) _⟩
     exact ownsRow_mono (HO.out.kept (grownBy_store (World.grownBy.refl _ (some (w.heap.size+1+1))) 0 _) (by cases e:(Value.slice av (putD fs F).length cv).ownBlock with | none => exact .inl rfl | some b => exact .inr (by have:=(HO.out.lt b e).1;simp;omega))) (by omega)
theorem l03Put_any (fs:List FileD) (ao:Option Addr) (cap:Nat) (F:FileD) (w:World) (hl:fs.length≤1000) (hfs:FilesAt w ao fs) :
  Calls Tryz.prog 48 #[.agg #[.slice ao fs.length cap],.agg #[.string F.name,.string F.text,.int .i64 F.kept]] w fun e w' => ∃ v,e=.returned (.agg #[v])∧RowF w' w.heap.size v (putD fs F)∧Below w.heap.size w w' :=
 (l03Put_own fs ao cap F w hl hfs).mono fun _ _ ⟨v,he,ho,hb⟩ => ⟨v,he,rowF_own ho,hb⟩
end Go.Proofs.YtepdckehokdjlaaGreatDoor
