import Derived.Deep.Upon
import Derived.Test.YtepdckehokdjlaaGreatDoorMg32
import Derived.Test.YtepdckehokdjlaaGreatDoorMg10
import Derived.Test.YtepdckehokdjlaaGreatDoorMg6
set_option maxRecDepth 100000
set_option maxHeartbeats 8000000
namespace Go.Proofs.YtepdckehokdjlaaGreatDoor
open Go.RowKit
theorem app_filesO {ops:Array Oper} {rest:List Oper} {o:Oper} {a:Act} {Q:Exit→Act→World→Prop} (W:World) (B:Nat) (hgd:o.guard=none) (s x:Operand)
  (ho:o.op=.call { callee:=.builtin .append,args:=#[s,x],argTypes:=#[29,29] }) (v:Value) (fs:List FileD) (hs:a.eval s=v)
  (hown:W.ownsRow B 95 3 v 0 []) (ao:Option Addr) (cap:Nat) (hx:a.eval x=.slice ao fs.length cap) (hfs:FilesAt W ao fs)
  (hlen:fs.length≤1048576) (hbase:B≤W.heap.size)
  (h:∀ v' w',w'.ownsRow B 95 3 v' fs.length (cellsF fs)→Below B W w'→wpList Tryz.prog ops Q rest (a.put o.dst v') w') :
  wpList Tryz.prog ops Q (o :: rest) a W:=by
 by_cases hz:fs.length=0
 ·
  obtain ⟨i0,hi,hz0,hz1,hz2⟩:=info_parts Tryz.infoFile
  have hnil:=List.eq_nil_of_length_eq_zero hz
  subst hnil
  obtain ⟨bs,cs,rfl⟩:=slice_form hown
  have hr:=run_append_nothing (P:=Tryz.prog) W 29 29 o.type 95 i0 Tryz.underlying29 hi bs 0 cs (Nat.zero_le _) (.slice ao 0 cap) (by cases ao with | none => exact Src.ofNil W Tryz.underlying29 cap | some p => exact Src.ofSlice W Tryz.underlying29 p 0 cap [] (by simp) (by simp) (by simp))
  refine wpList_plain hgd fun K hK => ?_
  unfold Oper.wp execOp
  simp only [ho,resolve,invoke,builtin,Sem.run_bind,Sem.run_pure,Result.andThen_ok,List.map_toArray,List.map_cons,List.map_nil,hs,hx,List.length_nil,hr]
  exact hK _ _ (h _ W hown (Below.refl _ _))
 ·
  obtain ⟨b,off,rfl,_⟩:=hfs 0 (by omega)
  exact app_files W B hgd s x ho v fs hs hown b off cap hx hfs hlen hbase h
theorem specActsO_any (fs:List FileD) (ao0:Option Addr) (cap:Nat) (qs:List ActD) (aa:Option Addr) (capa:Nat) (w:World) (hl:fs.length≤1048576) (hfs:FilesAt w ao0 fs) (hsz:∀ F ∈ fs,F.name.size≤1048576∧F.text.size≤1048576)
  (hla:qs.length≤1048576) (has:ActsAt w aa qs) (hsa:∀ A ∈ qs,A.name.size≤1048576∧A.text.size≤1048576∧A.toN.size≤1048576) :
  Calls Tryz.prog 54 #[.agg #[.slice ao0 fs.length cap],.slice aa qs.length capa] w fun e w' => ∃ v,e=.returned (.tuple #[.agg #[v],.int .i64 ((actsF fs qs).2:Int)])∧RowF w' w.heap.size v (actsF fs qs).1∧Below w.heap.size w w':=by
 have HF:=hide hfs
 have HS:=hide hsz
 have HA:=hide has
 have HSA:=hide hsa
 clear hfs hsz has hsa
 obtain ⟨wb,hwb⟩:∃ wb,wb=((w.alloc (.cells #[.slice ao0 fs.length cap] 31)).alloc (.cells #[.slice none 0 0] 31)).alloc (.cells #[] 95):=⟨_,rfl⟩
 have hbs:wb.heap.size=w.heap.size+1+1+1:=by rw [hwb];simp
 have HBb:Hid (Below w.heap.size w wb):=by rw [hwb];exact (((Below.refl _ w).alloc (Nat.le_refl _) _).alloc (by simp) _).alloc (by simp;omega) _
 have D_wb:Hid (wb.heap[w.heap.size]? = some (.cells #[.slice ao0 fs.length cap] 31 (0,0))):=by rw [hwb];exact blk_below (blk_below (heap_alloc_new w _) ((Below.refl _ _).alloc (Nat.le_refl _) _)) ((Below.refl _ _).alloc (Nat.le_refl _) _)
 have R_wb:Hid (wb.heap[w.heap.size+1]? = some (.cells #[.slice none 0 0] 31 (0,0))):=by
  rw [hwb]
  refine blk_below ?_ ((Below.refl _ _).alloc (Nat.le_refl _) _)
  rw [show w.heap.size+1=(w.alloc (.cells #[.slice ao0 fs.length cap] 31)).heap.size from by simp]
  exact heap_alloc_new _ _
 have HE:Hid (wb.ownsRow (w.heap.size+1+1) 95 3 (.slice (some ⟨w.heap.size+1+1,0,none⟩) 0 0) 0 []):=by
  refine ⟨rfl,.inr ⟨w.heap.size+1+1,0,#[],rfl,Nat.le_refl _,?_,Nat.le_refl _,Nat.zero_le _,rfl,rfl⟩⟩
  rw [hwb,show w.heap.size+1+1=((w.alloc (.cells #[.slice ao0 fs.length cap] 31)).alloc (.cells #[.slice none 0 0] 31)).heap.size from by simp]
  exact heap_alloc_new _ _
 have hcd:(((w.alloc (.cells #[.slice ao0 fs.length cap] 31)).alloc (.cells #[.slice none 0 0] 31)).alloc (.cells #[] 95)).cell? ⟨w.heap.size,0,none⟩=some (.slice ao0 fs.length cap):=by rw [← hwb];exact box_of D_wb.out
 go_enter Tryz.func54,Tryz.ntmps54
 go_wp2_with (at_builtin;refine app_filesO _ (w.heap.size+1+1) rfl _ _ rfl _ fs rfl (by rw [← hwb];exact HE.out) ao0 cap rfl (by rw [← hwb];exact filesAt_keep HF.out HBb.out) hl (by rw [← hwb];omega) ?_;intro v1 w1 hown1 hb1;obtain ⟨a1,c1,rfl⟩:=slice_form hown1)
 rw [← hwb] at hb1
 have hs1:wb.heap.size≤w1.heap.size:=hb1.size
 have HB1:Hid (Below w.heap.size w w1):=HBb.out.trans (hb1.mono (by omega))
 have R_w1:Hid (w1.heap[w.heap.size+1]? = some (.cells #[.slice none 0 0] 31 (0,0))):=(hb1.block _ (by omega)).trans R_wb.out
 have hrow1:RowF w1 (w.heap.size+1+1) (.slice a1 fs.length c1) fs:=rowF_own hown1
 have U1:Hid (∀ g,(Value.slice a1 fs.length c1).ownBlock=some g→g ≠ w1.heap.size):=fun g hg => by have:=(rowF_lt hrow1 g hg).2;omega
 obtain ⟨o,ho⟩:∃ o,o=w1.heap.size:=⟨_,rfl⟩
 obtain ⟨w2,hw2⟩:∃ w2,w2=w1.alloc (.cells #[.slice a1 fs.length c1] 31):=⟨_,rfl⟩
 have bb:Below w1.heap.size w1 w2:=by rw [hw2];exact (Below.refl _ _).alloc (Nat.le_refl _) _
 have hs2:w2.heap.size=o+1:=by rw [hw2,ho];simp
 have HB2:Hid (Below w.heap.size w w2):=HB1.out.trans (bb.mono (by omega))
 have R_w2:Hid (w2.heap[w.heap.size+1]? = some (.cells #[.slice none 0 0] 31 (0,0))):=blk_below R_w1.out bb
 have O_w2:Hid (w2.heap[o]? = some (.cells #[.slice a1 fs.length c1] 31 (0,0))):=by rw [hw2,ho];exact heap_alloc_new _ _
 have P_w2:Hid (RowF w2 (w.heap.size+1+1) (.slice a1 fs.length c1) fs):=rowF_below hrow1 bb
 rw [← hw2]
 rw [← ho] at U1 ⊢
 have hno:w.heap.size+1+1 < o:=by omega
 clear hw2 ho bb hrow1 hown1 hb1 hcd hwb HE D_wb R_wb HBb R_w1 HB1
 go_loopg [7] qs.length (fun gg ii wr => ∃ (k:Nat) (v:Value) (G:List FileD),k+gg=qs.length∧ii=.int .i64 k∧k≤qs.length∧G.length≤1048576∧Hid (∀ F ∈ G,F.name.size≤1048576∧F.text.size≤1048576)∧Hid (actsF fs qs=((actsF G (qs.drop k)).1,k+(actsF G (qs.drop k)).2))∧o < wr.heap.size∧Hid (Below w.heap.size w wr)∧Hid (wr.heap[w.heap.size+1]? = some (.cells #[.slice none 0 0] 31 (0,0)))∧Hid (wr.heap[o]? = some (.cells #[v] 31 (0,0)))∧Hid (RowF wr (w.heap.size+1+1) v G)∧Hid (∀ g,v.ownBlock=some g→g ≠ o))
 case atStart => exact ⟨0,_,fs,by omega,rfl,Nat.zero_le _,hl,HS,by show _=_;rw [List.drop_zero,Nat.zero_add],by omega,HB2,R_w2,O_w2,P_w2,U1⟩
 case round =>
  obtain ⟨k,v,G,hkg,rfl,hk,hGl,HGs,HK,how,HB,HR,HV,HP,HU⟩:=hrel
  obtain ⟨av,cv,rfl,_⟩:=rowF_at HP.out
  have hR0:wr.cell? ⟨w.heap.size+1,0,none⟩=some (.slice none 0 0):=box_of HR.out
  have hR1:=frozen_of_row wr (w.heap.size+1) 0 _ _ HR.out
  have hV0:wr.cell? ⟨o,0,none⟩=some (.slice av G.length cv):=box_of HV.out
  by_cases hlt:k < qs.length
  ·
   have hlt':decide ((k:Int) < (qs.length:Int))=true:=by simp;omega
   obtain ⟨b,off,rfl,hbw,hc0,hc1,hc2,hc3⟩:=actsAt_keep HA.out HB.out k hlt
   have hsA:=HSA.out qs[k] (List.getElem_mem hlt)
   obtain ⟨A,HAk⟩:∃ A,Hid (qs[k]=A):=⟨qs[k],hide rfl⟩
   rw [HAk.out] at hc0 hc1 hc2 hc3 hsA
   obtain ⟨hA1,hA2,hA3⟩:=hsA
   have hi0:(0:Int)≤(k:Int):=by omega
   have hi1:(k:Int) < (qs.length:Int):=by omega
   have HBW:=hide hbw
   clear hbw
   have KS:Hid (∀ W,Below wr.heap.size wr W→(W.cell? ⟨o,0,none⟩=some (.slice av G.length cv)∧W.cell? ⟨b,off+k * 4,none⟩=some (.int .i64 A.kind)∧W.cell? ⟨b,off+k * 4+1,none⟩=some (.string A.name)∧W.cell? ⟨b,off+k * 4+2,none⟩=some (.string A.text)∧W.cell? ⟨b,off+k * 4+3,none⟩=some (.string A.toN))):=fun W hW => ⟨(hW.cell (p:=⟨o,0,none⟩) how).trans hV0,(hW.cell (p:=⟨b,off+k * 4,none⟩) HBW.out).trans hc0,(hW.cell (p:=⟨b,off+k * 4+1,none⟩) HBW.out).trans hc1,(hW.cell (p:=⟨b,off+k * 4+2,none⟩) HBW.out).trans hc2,(hW.cell (p:=⟨b,off+k * 4+3,none⟩) HBW.out).trans hc3⟩
   have hFr:=rowF_files HP.out
   have HF1:Hid (FilesAt wr.drew av G):=hFr
   have HF2:Hid (FilesAt (wr.alloc (.cells #[.slice none 0 0] 31)).drew av G):=filesAt_keep hFr (((Below.refl _ wr).alloc (Nat.le_refl _) _).drew)
   clear hFr
   go_wp2_with fail
   go_region_held3 (fun w' => w'.cell? ⟨o,0,none⟩=some (.slice av G.length cv)∧w'.cell? ⟨b,off+k * 4,none⟩=some (.int .i64 A.kind)∧w'.cell? ⟨b,off+k * 4+1,none⟩=some (.string A.name)∧w'.cell? ⟨b,off+k * 4+2,none⟩=some (.string A.text)∧w'.cell? ⟨b,off+k * 4+3,none⟩=some (.string A.toN)) (first | (exact KS.out _ ((Below.refl _ _).drew)) | (exact KS.out _ (((Below.refl _ wr).alloc (Nat.le_refl _) _).drew)) | (exact KS.out _ bW) | (exact KS.out _ (bW.alloc bW.size _)) | (exact KS.out _ (bW.setCell (p:=⟨wr.heap.size,0,none⟩) (Nat.le_refl _) _))) ((first | (go_at_call 17;refine (specAct_any G _ _ A _ hGl HF1.out HGs.out hA1 hA2 hA3).mono ?_;rintro e w3 ⟨v3,rfl,hrow3,b3⟩;obtain ⟨a3,c3,rfl,_⟩:=rowF_at hrow3;have bW:Below wr.heap.size wr w3:=(Below.refl _ _).drew.trans b3) | (go_at_call 17;refine (specAct_any G _ _ A _ hGl HF2.out HGs.out hA1 hA2 hA3).mono ?_;rintro e w3 ⟨v3,rfl,hrow3,b3⟩;obtain ⟨a3,c3,rfl,_⟩:=rowF_at hrow3;have bW:Below wr.heap.size wr w3:=(((Below.refl _ wr).alloc (Nat.le_refl _) _).drew).trans (b3.mono (by simp));have hq3:w3.heap[wr.heap.size]? = some (.cells #[.slice none 0 0] 31 (0,0)):=(b3.block _ (by simp)).trans (heap_alloc_new wr _);have hq4:=box_of hq3;have hq5:=frozen_of_row w3 wr.heap.size 0 _ _ hq3)))
   ·
    have hb3:∀ g,(Value.slice a3 ((actD G A).getD []).length c3).ownBlock=some g→wr.heap.size≤g:=fun g hg => (rowF_lt hrow3 g hg).1
    obtain ⟨wN,hwN⟩:∃ wN,wN=w3.alloc (.cells #[.slice a3 ((actD G A).getD []).length c3] 31):=⟨_,rfl⟩
    have HBN:Hid (Below wr.heap.size wr wN):=by rw [hwN];exact bW.alloc bW.size _
    have NN:Hid (wN.heap[w3.heap.size]? = some (.cells #[.slice a3 ((actD G A).getD []).length c3] 31 (0,0))):=by rw [hwN];exact heap_alloc_new _ _
    have PN:Hid (RowF wN wr.heap.size (.slice a3 ((actD G A).getD []).length c3) ((actD G A).getD [])):=by rw [hwN];exact rowF_below hrow3 ((Below.refl _ _).alloc (Nat.le_refl _) _)
    have UN:=hide hb3
    have hs3:=bW.size
    rw [← hwN]
    clear hwN hrow3 b3 bW hb3 HF1 HF2
    have hR0N:wN.cell? ⟨w.heap.size+1,0,none⟩=some (.slice none 0 0):=box_of (blk_below HR.out HBN.out)
    have hR1N:=frozen_of_row wN (w.heap.size+1) 0 _ _ (blk_below HR.out HBN.out)
    have hV0N:wN.cell? ⟨o,0,none⟩=some (.slice av G.length cv):=box_of (blk_below HV.out HBN.out)
    have hV1N:=frozen_of_row wN o 0 _ _ (blk_below HV.out HBN.out)
    have hN0:wN.cell? ⟨w3.heap.size,0,none⟩=some (.slice a3 ((actD G A).getD []).length c3):=box_of NN.out
    have hsN:wr.heap.size≤wN.heap.size:=HBN.out.size
    have HBwN:Hid (Below w.heap.size w wN):=HB.out.trans (HBN.out.mono HB.out.size)
    clear hR0 hR1 hV0 hc0 hc1 hc2 hc3 KS
    cases hact:actD G A with
    | none =>
     have hE:Hid (actsF fs qs=(G,k)):=by show _=_;rw [HK.out,actsF_no hlt (by rw [HAk.out];exact hact)];rfl
     have hb:Option.isSome (none:Option (List FileD))=false:=rfl
     rw [hact] at hN0 PN NN UN
     go_wp2_with fail
     refine bodyPost_ret (v:=.tuple #[.agg #[.slice av G.length cv],.int .i64 (k:Int)]) (by simp [results,Tryz.results54,go_sem,hR0N]) rfl ⟨.slice av G.length cv,by rw [hE.out],?_,HBwN.out.setCell (p:=⟨w.heap.size+1,0,none⟩) (by show w.heap.size≤w.heap.size+1;omega) _⟩
     rw [hE.out]
     have hPN:=rowF_below HP.out HBN.out
     exact rowF_le (rowF_grown hPN (grownBy_store (World.grownBy.refl _ _) 0 _) (fun g hg e => by have h1:=(rowF_lt hPN g hg).1;cases e;omega)) (by omega)
    | some g =>
     have hE:Hid (actsF fs qs=((actsF g (qs.drop (k+1))).1,k+1+(actsF g (qs.drop (k+1))).2)):=by show _=_;rw [HK.out,actsF_yes hlt (by rw [HAk.out];exact hact)];simp only [Prod.mk.injEq,true_and];omega
     have hgo:=disk_files (actD_ok hact)
     rw [hact] at hN0 PN NN UN
     go_wp2_with fail
     go_roundg (gk - 1)
     case measure => omega
     case rel =>
      refine ⟨k+1,.slice a3 g.length c3,g,by omega,by go_num,by omega,by omega,fun F hF => by have:=hgo.2 F hF;omega,hE,?_,HBwN.out.setCell (p:=⟨o,0,none⟩) (by show w.heap.size≤o;omega) _,?_,(heap_setCell_same _ o _ _ _ _ (blk_below HV.out HBN.out)).trans rfl,?_,fun g' hg' => by have:=UN.out g' hg';omega⟩
      · simp [World.setCell];omega
      ·
       show _=_
       rw [Below.heap_setCell _ _ _ _ (by first | (show (w.heap.size+1:Nat) ≠ o;omega) | (show (o:Nat) ≠ w.heap.size+1;omega))]
       exact blk_below HR.out HBN.out
      · exact rowF_le (rowF_grown PN.out (grownBy_store (World.grownBy.refl _ _) 0 _) (fun g' hg' e => by have:=UN.out g' hg';cases e;omega)) (by omega)
   ·
    have hb3:∀ g,(Value.slice a3 ((actD G A).getD []).length c3).ownBlock=some g→wr.heap.size+1≤g:=fun g hg => by have h:=(rowF_lt hrow3 g hg).1;simp at h;omega
    obtain ⟨wN,hwN⟩:∃ wN,wN=w3.setCell ⟨wr.heap.size,0,none⟩ (.slice a3 ((actD G A).getD []).length c3):=⟨_,rfl⟩
    have HBN:Hid (Below wr.heap.size wr wN):=by rw [hwN];exact bW.setCell (p:=⟨wr.heap.size,0,none⟩) (Nat.le_refl _) _
    have NN:Hid (wN.heap[wr.heap.size]? = some (.cells #[.slice a3 ((actD G A).getD []).length c3] 31 (0,0))):=by rw [hwN];exact (heap_setCell_same _ _ _ _ _ _ hq3).trans rfl
    have PN:Hid (RowF wN wr.heap.size (.slice a3 ((actD G A).getD []).length c3) ((actD G A).getD [])):=by rw [hwN];exact rowF_le (rowF_grown hrow3 (grownBy_store (World.grownBy.refl _ _) 0 _) (fun g hg e => by have:=hb3 g hg;cases e;omega)) (by simp)
    have UN:Hid (∀ g,(Value.slice a3 ((actD G A).getD []).length c3).ownBlock=some g→wr.heap.size≤g):=fun g hg => by have:=hb3 g hg;omega
    rw [← hwN]
    clear hwN hrow3 b3 bW hb3 HF1 HF2 hq3 hq4 hq5
    have hR0N:wN.cell? ⟨w.heap.size+1,0,none⟩=some (.slice none 0 0):=box_of (blk_below HR.out HBN.out)
    have hR1N:=frozen_of_row wN (w.heap.size+1) 0 _ _ (blk_below HR.out HBN.out)
    have hV0N:wN.cell? ⟨o,0,none⟩=some (.slice av G.length cv):=box_of (blk_below HV.out HBN.out)
    have hV1N:=frozen_of_row wN o 0 _ _ (blk_below HV.out HBN.out)
    have hN0:wN.cell? ⟨wr.heap.size,0,none⟩=some (.slice a3 ((actD G A).getD []).length c3):=box_of NN.out
    have hsN:wr.heap.size≤wN.heap.size:=HBN.out.size
    have HBwN:Hid (Below w.heap.size w wN):=HB.out.trans (HBN.out.mono HB.out.size)
    clear hR0 hR1 hV0 hc0 hc1 hc2 hc3 KS
    cases hact:actD G A with
    | none =>
     have hE:Hid (actsF fs qs=(G,k)):=by show _=_;rw [HK.out,actsF_no hlt (by rw [HAk.out];exact hact)];rfl
     have hb:Option.isSome (none:Option (List FileD))=false:=rfl
     rw [hact] at hN0 PN NN UN
     go_wp2_with fail
     refine bodyPost_ret (v:=.tuple #[.agg #[.slice av G.length cv],.int .i64 (k:Int)]) (by simp [results,Tryz.results54,go_sem,hR0N]) rfl ⟨.slice av G.length cv,by rw [hE.out],?_,HBwN.out.setCell (p:=⟨w.heap.size+1,0,none⟩) (by show w.heap.size≤w.heap.size+1;omega) _⟩
     rw [hE.out]
     have hPN:=rowF_below HP.out HBN.out
     exact rowF_le (rowF_grown hPN (grownBy_store (World.grownBy.refl _ _) 0 _) (fun g hg e => by have h1:=(rowF_lt hPN g hg).1;cases e;omega)) (by omega)
    | some g =>
     have hE:Hid (actsF fs qs=((actsF g (qs.drop (k+1))).1,k+1+(actsF g (qs.drop (k+1))).2)):=by show _=_;rw [HK.out,actsF_yes hlt (by rw [HAk.out];exact hact)];simp only [Prod.mk.injEq,true_and];omega
     have hgo:=disk_files (actD_ok hact)
     rw [hact] at hN0 PN NN UN
     go_wp2_with fail
     go_roundg (gk - 1)
     case measure => omega
     case rel =>
      refine ⟨k+1,.slice a3 g.length c3,g,by omega,by go_num,by omega,by omega,fun F hF => by have:=hgo.2 F hF;omega,hE,?_,HBwN.out.setCell (p:=⟨o,0,none⟩) (by show w.heap.size≤o;omega) _,?_,(heap_setCell_same _ o _ _ _ _ (blk_below HV.out HBN.out)).trans rfl,?_,fun g' hg' => by have:=UN.out g' hg';omega⟩
      · simp [World.setCell];omega
      ·
       show _=_
       rw [Below.heap_setCell _ _ _ _ (by first | (show (w.heap.size+1:Nat) ≠ o;omega) | (show (o:Nat) ≠ w.heap.size+1;omega))]
       exact blk_below HR.out HBN.out
      · exact rowF_le (rowF_grown PN.out (grownBy_store (World.grownBy.refl _ _) 0 _) (fun g' hg' e => by have:=UN.out g' hg';cases e;omega)) (by omega)
  ·
   have hlt':decide ((k:Int) < (qs.length:Int))=false:=by simp;omega
   have hE:Hid (actsF fs qs=(G,k)):=by show _=_;rw [HK.out,actsF_end (by omega)];rfl
   have hkl:Hid (k=qs.length):=by show _=_;omega
   go_wp2_with fail
   refine bodyPost_ret (v:=.tuple #[.agg #[.slice av G.length cv],.int .i64 (qs.length:Int)]) (by simp [results,Tryz.results54,go_sem,hR0]) rfl ⟨.slice av G.length cv,by rw [hE.out,← hkl.out],?_,HB.out.setCell (p:=⟨w.heap.size+1,0,none⟩) (by show w.heap.size≤w.heap.size+1;omega) _⟩
   rw [hE.out]
   exact rowF_le (rowF_grown HP.out (grownBy_store (World.grownBy.refl _ _) 0 _) (fun g hg e => by have h1:=(rowF_lt HP.out g hg).1;cases e;omega)) (by omega)
theorem specAllKept_any (fs:List FileD) (ao:Option Addr) (cap:Nat) (w:World) (hl:fs.length≤1048576) (hfs:FilesAt w ao fs) (hsz:∀ F ∈ fs,F.name.size≤1048576∧F.text.size≤1048576) :
  Calls Tryz.prog 52 #[.agg #[.slice ao fs.length cap]] w fun e w' => e=.returned (.bool (allKeptD fs))∧Below w.heap.size w w':=by
 have HF:=hide hfs
 have HS:=hide hsz
 clear hfs hsz
 have b0:Below w.heap.size w (w.alloc (.cells #[.slice ao fs.length cap] 31)):=(Below.refl _ w).alloc (Nat.le_refl _) _
 have HB0:=hide b0
 clear b0
 cases hok:diskOkD fs
 ·
  go_enter Tryz.func52,Tryz.ntmps52
  go_wp2_with fail
  refine (specDiskOk_any fs ao cap _ hl (filesAt_keep HF.out HB0.out) (fun F h => ⟨small_max (HS.out F h).1,small_max (HS.out F h).2⟩)).mono ?_
  rintro e w1 ⟨rfl,b1⟩
  rw [hok]
  have HB1:=hide (HB0.out.trans (b1.mono HB0.out.size))
  clear b1
  go_wp2
  go_ret
  rw [allKeptD,hok]
  exact ⟨rfl,HB1.out⟩
 ·
  obtain ⟨R,HR⟩:∃ R,Hid (keptD (fs.drop 0)=R):=⟨_,hide rfl⟩
  have e:allKeptD fs=R:=by rw [allKeptD,hok,← HR.out];rfl
  rw [e]
  clear e
  go_enter Tryz.func52,Tryz.ntmps52
  go_wp2_with fail
  refine (specDiskOk_any fs ao cap _ hl (filesAt_keep HF.out HB0.out) (fun F h => ⟨small_max (HS.out F h).1,small_max (HS.out F h).2⟩)).mono ?_
  rintro e w1 ⟨rfl,b1⟩
  rw [hok]
  have hbox0:w1.cell? ⟨w.heap.size,0,none⟩=some (.slice ao fs.length cap):=(b1.cell (p:=⟨w.heap.size,0,none⟩) (by simp)).trans (by rw [cell_of_row _ _ _ _ _ (0,0) (heap_alloc_new w _)];rfl)
  have HB1:=hide (HB0.out.trans (b1.mono HB0.out.size))
  have HX0:=hide hbox0
  have HZ:Hid (w.heap.size < w1.heap.size):=by have:=b1.size;simp at this;exact this
  clear b1 hbox0
  go_wp2
  go_loopw [3] (fun ii wr => ∃ (k:Nat),ii=.int .i64 k∧k≤fs.length∧Hid (keptD (fs.drop k)=R)∧Hid (∃ q,wr=w1.drewN q)) (fun ii _ => fs.length - (intOf ii).toNat)
  case atStart => exact ⟨0,rfl,Nat.zero_le _,HR,⟨0,rfl⟩⟩
  case round =>
   obtain ⟨k,rfl,hk,HK,HQ⟩:=hrel
   obtain ⟨q,hq⟩:=HQ.out
   have HB:Hid (Below w.heap.size w wr):=by rw [hq];exact below_drewN HB1.out _
   have hbox:wr.cell? ⟨w.heap.size,0,none⟩=some (.slice ao fs.length cap):=by rw [hq];exact HX0.out
   clear hq
   by_cases hlt:k < fs.length
   ·
    have hlt':decide ((k:Int) < (fs.length:Int))=true:=by simp;omega
    obtain ⟨b,off,rfl,hbw,hc0,hc1,hc2⟩:=filesAt_keep HF.out HB.out k hlt
    have HX:=hide (HS.out fs[k] (List.getElem_mem hlt))
    obtain ⟨F,HFk⟩:∃ F,Hid (fs[k]=F):=⟨fs[k],hide rfl⟩
    rw [HFk.out] at hc0 hc1 hc2
    have hi0:(0:Int)≤(k:Int):=by omega
    have hi1:(k:Int) < (fs.length:Int):=by omega
    have hs2:F.text.size≤1048576:=by have:=HX.out.2;rw [HFk.out] at this;exact this
    go_wp2_with fail
    go_quiet (fail)
    have HQ2:Hid (∃ q,wr.drewN nq=w1.drewN q):=by
     obtain ⟨q,rfl⟩:=HQ.out
     exact ⟨q+nq,by simp⟩
    cases hq:decide (F.kept < (F.text.size:Int))
    ·
     have HK1:Hid (keptD (fs.drop (k+1))=R):=by show _=_;rw [← HK.out];exact (kept_more hlt (by rw [HFk.out];exact hq)).symm
     go_wp2
     go_roundw
     case rel => exact ⟨k+1,by go_num,by omega,HK1,HQ2⟩
     case measure => simp [intOf];omega
    ·
     have hR:Hid (R=false):=by show _=_;rw [← HK.out];exact kept_bad hlt (by rw [HFk.out];exact hq)
     go_wp2
     go_ret
     rw [hR.out]
     exact ⟨rfl,below_drewN HB.out _⟩
   ·
    have hlt':decide ((k:Int) < (fs.length:Int))=false:=by simp;omega
    have hR:Hid (R=true):=by show _=_;rw [← HK.out];exact kept_end (by omega)
    go_wp2
    go_ret
    rw [hR.out]
    exact ⟨rfl,HB.out⟩
end Go.Proofs.YtepdckehokdjlaaGreatDoor
