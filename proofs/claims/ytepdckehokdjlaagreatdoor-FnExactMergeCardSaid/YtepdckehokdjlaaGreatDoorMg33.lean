import Derived.Test.YtepdckehokdjlaaGreatDoorMg32
import Derived.Test.YtepdckehokdjlaaGreatDoorMg27
import Derived.Test.YtepdckehokdjlaaGreatDoorMg26
import Derived.Test.YtepdckehokdjlaaGreatDoorMg28
import Derived.Test.YtepdckehokdjlaaGreatDoorMg20
set_option maxRecDepth 100000
set_option maxHeartbeats 8000000
namespace Go.Proofs.YtepdckehokdjlaaGreatDoor
open Go.RowKit Go.Maps
theorem ownDisk_any (fs:List FileD) (ao:Option Addr) (cap:Nat) (w:World) (hl:fs.length≤1048576) (hfs:FilesAt w ao fs) (hsz:∀ F ∈ fs,F.name.size≤1048576∧F.text.size≤1048576) :
  Calls Tryz.prog 120 #[.agg #[.slice ao fs.length cap]] w fun e w' => ∃ v,e=.returned (.agg #[v])∧RowF w' w.heap.size v fs∧Below w.heap.size w w':=by
 have HF:=hide hfs
 have HS:=hide hsz
 clear hfs hsz
 obtain ⟨w1,hw1⟩:∃ w1,w1=((w.alloc (.cells #[.slice ao fs.length cap] 31)).alloc (.cells #[.slice none 0 0] 31)).alloc (.cells #[.slice none 0 0] 31):=⟨_,rfl⟩
 have hbs:w.heap.size+1+1+1≤w1.heap.size:=by rw [hw1];simp
 have HB1:Hid (Below w.heap.size w w1):=by rw [hw1];exact (((Below.refl _ w).alloc (Nat.le_refl _) _).alloc (by simp) _).alloc (by simp;omega) _
 have R_w1:Hid (w1.heap[w.heap.size+1]? = some (.cells #[.slice none 0 0] 31 (0,0))):=by
  rw [hw1]
  refine blk_below ?_ ((Below.refl _ _).alloc (Nat.le_refl _) _)
  rw [show w.heap.size+1=(w.alloc (.cells #[.slice ao fs.length cap] 31)).heap.size from by simp]
  exact heap_alloc_new _ _
 obtain ⟨o,ho⟩:∃ o,o=w.heap.size+1+1:=⟨_,rfl⟩
 have O_w1:Hid (w1.heap[o]? = some (.cells #[.slice none 0 0] 31 (0,0))):=by
  rw [hw1,ho,show w.heap.size+1+1=((w.alloc (.cells #[.slice ao fs.length cap] 31)).alloc (.cells #[.slice none 0 0] 31)).heap.size from by simp]
  exact heap_alloc_new _ _
 have hcd:(((w.alloc (.cells #[.slice ao fs.length cap] 31)).alloc (.cells #[.slice none 0 0] 31)).alloc (.cells #[.slice none 0 0] 31)).cell? ⟨w.heap.size,0,none⟩=some (.slice ao fs.length cap):=box_of (blk_below (blk_below (heap_alloc_new w _) ((Below.refl _ _).alloc (Nat.le_refl _) _)) ((Below.refl _ _).alloc (Nat.le_refl _) _))
 have hno:w.heap.size+1 < o:=by omega
 have how:o < w1.heap.size:=by omega
 go_enter Tryz.func120,Tryz.ntmps120
 go_wp2_with fail
 rw [← hw1,← ho]
 clear hw1 ho hcd
 go_loopg [9] fs.length (fun gg ii wr => ∃ (k:Nat) (v:Value),k+gg=fs.length∧ii=.int .i64 k∧k≤fs.length∧Hid (w1.grownBy wr (some o))∧Hid (wr.heap[o]? = some (.cells #[v] 31 (0,0)))∧Hid (wr.ownsRow w1.heap.size 95 3 v k (cellsF (fs.take k))))
 case atStart => exact ⟨0,.slice none 0 0,by omega,rfl,Nat.zero_le _,World.grownBy.refl _ _,O_w1,⟨rfl,.inl ⟨rfl,rfl⟩⟩⟩
 case round =>
  obtain ⟨k,v,hkg,rfl,hk,HG,HV,HO⟩:=hrel
  have HB:Hid (Below w.heap.size w wr):=HB1.out.grown HG.out (by omega) (fun j hj => by cases hj;omega)
  have hws:w1.heap.size≤wr.heap.size:=HG.out.size
  have hout:wr.cell? ⟨o,0,none⟩=some v:=box_of HV.out
  have hfo:=frozen_of_row wr o 0 _ _ HV.out
  by_cases hlt:k < fs.length
  ·
   have hlt':decide ((k:Int) < (fs.length:Int))=true:=by simp;omega
   obtain ⟨b,off,rfl,hbw,hc0,hc1,hc2⟩:=filesAt_keep HF.out HB.out k hlt
   obtain ⟨hF1,hF2⟩:=HS.out fs[k] (List.getElem_mem hlt)
   have hT:=List.take_add_one (l:=fs) (i:=k)
   rw [List.getElem?_eq_getElem hlt] at hT
   obtain ⟨F,HFk⟩:∃ F,Hid (fs[k]=F):=⟨fs[k],hide rfl⟩
   rw [HFk.out] at hc0 hc1 hc2 hF1 hF2 hT
   have HT:Hid (fs.take (k+1)=fs.take k ++ [F]):=hT
   have HL:Hid ((fs.take k).length=k):=by show _=_;rw [List.length_take];omega
   have hi0:(0:Int)≤(k:Int):=by omega
   have hi1:(k:Int) < (fs.length:Int):=by omega
   obtain ⟨wf,hwf⟩:∃ wf,wf=wr.alloc (.cells #[.string F.name,.string F.text,.int .i64 F.kept] 95):=⟨_,rfl⟩
   have Bf:Hid (Below wr.heap.size wr wf):=by rw [hwf];exact (Below.refl _ _).alloc (Nat.le_refl _) _
   have hfs0:wr.heap.size≤wf.heap.size:=Bf.out.size
   have hpf:wf.heap[wr.heap.size]? = some (.cells #[.string F.name,.string F.text,.int .i64 F.kept] 95 (0,0)):=by rw [hwf];exact heap_alloc_new _ _
   obtain ⟨cf0,cf1,cf2⟩:=file_cell hpf
   have HVf:Hid (wf.heap[o]? = some (.cells #[v] 31 (0,0))):=blk_below HV.out Bf.out
   have houtf:wf.cell? ⟨o,0,none⟩=some v:=box_of HVf.out
   have HOf:Hid (wf.ownsRow w1.heap.size 95 3 v k (cellsF (fs.take k))):=ownsRow_below HO.out Bf.out
   clear hT hpf
   go_upto_region 5 with fail
   rw [← hwf]
   clear hwf hc0 hc1 hc2 hout hfo
   go_region_law ((first | (refine step_app_file _ w1.heap.size (by rfl) _ _ (by rfl) _ (fs.take k) F (by rfl) (by rw [HL.out];exact HO4.out.alloc _) w4.heap.size (by simp [Act.eval]) (heap_alloc_new w4 _) (by rw [HL.out];omega) (Nat.le_trans (Nat.le_trans (Nat.le_trans hws hfs0) hs4) (size_alloc_drew _ _)) ?_;rw [HL.out];intro g3 cap3 w3 hown3 hb3 hg3 hgl3;have hn0:w3.heap[o]? = some (.cells #[v] 31 (0,0)):=(hb3.block o how).trans ((((Below.refl _ w4).alloc (Nat.le_refl _) _).block o hof4).trans HV4.out);have hn1:w3.cell? ⟨o,0,none⟩=some v:=(cell_of_row w3 o 0 _ _ (0,0) hn0).trans rfl;have hn2:w3.frozen? ⟨o,0,none⟩=false:=frozen_of_row w3 o 0 _ _ hn0;have HN0:=hide hn0;clear hn0) | (go_simp;go_at_call 104;refine (ownFile_any F _ hF1 hF2).mono ?_;rintro e w4 ⟨rfl,b4⟩;have B4:Hid (Below wf.heap.size wf w4):=(Below.refl _ wf).drew.trans b4;have hs4:wf.heap.size≤w4.heap.size:=B4.out.size;have hof4:o < w4.heap.size:=Nat.lt_of_lt_of_le how (Nat.le_trans (Nat.le_trans hws hfs0) hs4);have HV4:Hid (w4.heap[o]? = some (.cells #[v] 31 (0,0))):=blk_below HVf.out B4.out;have hall0:w4.cell? ⟨o,0,none⟩=some v:=box_of HV4.out;have hall:(w4.alloc (.cells #[.string F.name,.string F.text,.int .i64 F.kept] 95)).cell? ⟨o,0,none⟩=some v:=(((Below.refl _ w4).alloc (Nat.le_refl _) _).cell (p:=⟨o,0,none⟩) hof4).trans hall0;have HO4:Hid (w4.ownsRow w1.heap.size 95 3 v k (cellsF (fs.take k))):=ownsRow_below HOf.out B4.out;clear b4)))
   all_goals
    go_wp2_with fail
    go_roundg (gk - 1)
    case measure => omega
    case rel =>
     have hbw:Below w1.heap.size wr w3:=(((Bf.out.mono hws).trans (B4.out.mono (Nat.le_trans hws hfs0))).trans ((Below.refl _ w4).alloc (by omega) _)).trans hb3
     refine ⟨k+1,_,by omega,by go_num,by omega,grownBy_store (grownBy_step' HG.out hbw) 0 _,(heap_setCell_same _ o _ _ _ _ HN0.out).trans rfl,?_⟩
     have hle:(fs.take k ++ [F]).length=k+1:=by rw [List.length_append,HL.out];rfl
     rw [hle] at hown3
     show _
     rw [HT.out]
     exact hown3.kept (grownBy_store (World.grownBy.refl _ _) 0 _) (.inr (by simp [Value.ownBlock];omega))
  ·
   have hlt':decide ((k:Int) < (fs.length:Int))=false:=by simp;omega
   have hke:k=fs.length:=by omega
   have hR:wr.heap[w.heap.size+1]? = some (.cells #[.slice none 0 0] 31 (0,0)):=(HG.out.block (w.heap.size+1) (by omega) (by simp;omega)).trans R_w1.out
   have hr0:wr.cell? ⟨w.heap.size+1,0,none⟩=some (.slice none 0 0):=box_of hR
   have hr1:=frozen_of_row wr (w.heap.size+1) 0 _ _ hR
   have HKE:=hide hke
   clear hR hke
   obtain ⟨av,cv,rfl⟩:=slice_form HO.out
   go_wp2_with fail
   refine bodyPost_ret (v:=.agg #[.slice av k cv]) (by simp [results,Tryz.results120,go_sem,hr0]) rfl ⟨.slice av k cv,rfl,?_,HB.out.setCell (p:=⟨w.heap.size+1,0,none⟩) (by show w.heap.size≤w.heap.size+1;omega) _⟩
   have hrow:RowF wr w1.heap.size (.slice av k cv) fs:=by
    have h:=HO.out
    have e:fs.take k=fs:=List.take_of_length_le (by rw [HKE.out];exact Nat.le_refl _)
    rw [e] at h
    refine rowF_own ?_
    rw [← HKE.out]
    exact h
   exact rowF_le (rowF_grown hrow (grownBy_store (World.grownBy.refl _ _) 0 _) (fun g hg e => by have h1:=(rowF_lt hrow g hg).1;cases e;omega)) (by omega)
theorem acts_wrong {fs:List FileD} (h:diskOkD fs=false):∀ qs:List ActD,actsF fs qs=(fs,0)
 | [] => rfl
 | A :: r => by rw [actsF,actD_no (by simp [actOk,h])]
theorem blk_far {w w':World} {B b:Nat} {O:Obj} (h:w.heap[b]? = some O) (hb:Below B w w') (hlt:b < B):w'.heap[b]? = some O:=(hb.block b hlt).trans h
theorem acts_any (fs:List FileD) (ao:Option Addr) (cap:Nat) (qs:List ActD) (aa:Option Addr) (capa:Nat) (w:World) (hl:fs.length≤1048576) (hfs:FilesAt w ao fs) (hsz:∀ F ∈ fs,F.name.size≤1048576∧F.text.size≤1048576)
  (hla:qs.length≤1048576) (has:ActsAt w aa qs) (hsa:∀ A ∈ qs,A.name.size≤1048576∧A.text.size≤1048576∧A.toN.size≤1048576) :
  Calls Tryz.prog 89 #[.agg #[.slice ao fs.length cap],.slice aa qs.length capa] w fun e w' => ∃ v,e=.returned (.tuple #[.agg #[v],.int .i64 ((actsF fs qs).2:Int)])∧RowF w' w.heap.size v (actsF fs qs).1∧Below w.heap.size w w':=by
 have HF:=hide hfs
 have HS:=hide hsz
 have HA:=hide has
 have HSA:=hide hsa
 clear hfs hsz has hsa
 obtain ⟨wb,hwb⟩:∃ wb,wb=(w.alloc (.cells #[.slice ao fs.length cap] 31)).alloc (.cells #[.slice none 0 0] 31):=⟨_,rfl⟩
 have hbs:w.heap.size+1+1≤wb.heap.size:=by rw [hwb];simp
 have HBb:Hid (Below w.heap.size w wb):=by rw [hwb];exact ((Below.refl _ w).alloc (Nat.le_refl _) _).alloc (by simp) _
 have D_wb:Hid (wb.heap[w.heap.size]? = some (.cells #[.slice ao fs.length cap] 31 (0,0))):=by rw [hwb];exact blk_below (heap_alloc_new w _) ((Below.refl _ _).alloc (Nat.le_refl _) _)
 have R_wb:Hid (wb.heap[w.heap.size+1]? = some (.cells #[.slice none 0 0] 31 (0,0))):=by
  rw [hwb,show w.heap.size+1=(w.alloc (.cells #[.slice ao fs.length cap] 31)).heap.size from by simp]
  exact heap_alloc_new _ _
 go_enter Tryz.func89,Tryz.ntmps89
 go_wp2_with fail
 rw [← hwb]
 clear hwb
 refine (diskOk_any fs ao cap _ hl (filesAt_keep HF.out HBb.out) (fun F h => ⟨small_max (HS.out F h).1,small_max (HS.out F h).2⟩)).mono ?_
 rintro e w1 ⟨rfl,b1⟩
 have hs1:wb.heap.size≤w1.heap.size:=b1.size
 have HB1:Hid (Below w.heap.size w w1):=HBb.out.trans (b1.mono (by omega))
 have cD:w1.cell? ⟨w.heap.size,0,none⟩=some (.slice ao fs.length cap):=box_of (blk_below D_wb.out b1)
 have R_w1:Hid (w1.heap[w.heap.size+1]? = some (.cells #[.slice none 0 0] 31 (0,0))):=blk_below R_wb.out b1
 clear b1 HBb D_wb R_wb
 cases hok:diskOkD fs
 ·
  have HE:=hide (acts_wrong hok qs)
  go_wp2_with fail
  refine (ownDisk_any fs ao cap _ hl (filesAt_keep HF.out HB1.out) HS.out).mono ?_
  rintro e w2 ⟨v2,rfl,hrow,b2⟩
  obtain ⟨a2,c2,rfl,_⟩:=rowF_at hrow
  have hR:=blk_below R_w1.out b2
  have cR:=box_of hR
  have zR:=frozen_of_row w2 (w.heap.size+1) 0 _ _ hR
  have HROW:=hide hrow
  have HB2:Hid (Below w.heap.size w w2):=HB1.out.trans (b2.mono HB1.out.size)
  clear hrow b2 hR
  go_wp2_with fail
  refine bodyPost_ret (v:=.tuple #[.agg #[.slice a2 fs.length c2],.int .i64 0]) (by simp [results,Tryz.results89,go_sem,cR]) rfl ⟨.slice a2 fs.length c2,by rw [HE.out];rfl,?_,HB2.out.setCell (p:=⟨w.heap.size+1,0,none⟩) (by show w.heap.size≤w.heap.size+1;omega) _⟩
  rw [HE.out]
  exact rowF_le (rowF_grown HROW.out (grownBy_store (World.grownBy.refl _ _) 0 _) (fun g hg e => by have h1:=(rowF_lt HROW.out g hg).1;cases e;omega)) (by omega)
 ·
  go_wp2_with fail
  refine (shelfOf_any fs ao cap _ hok (filesAt_keep HF.out HB1.out)).mono ?_
  rintro e w2 ⟨mb,rfl,hmb,hsh,b2⟩
  have HSH:=hide hsh
  have hs2:w1.heap.size≤w2.heap.size:=b2.size
  have HB2:Hid (Below w.heap.size w w2):=HB1.out.trans (b2.mono HB1.out.size)
  have R_w2:Hid (w2.heap[w.heap.size+1]? = some (.cells #[.slice none 0 0] 31 (0,0))):=blk_below R_w1.out b2
  clear hsh b2 cD R_w1
  go_wp2_with fail
  go_loopg [7] qs.length (fun gg ii wr => ∃ (k:Nat) (G:List FileD),k+gg=qs.length∧ii=.int .i64 k∧k≤qs.length∧diskOkD G=true∧Hid (actsF fs qs=((actsF G (qs.drop k)).1,k+(actsF G (qs.drop k)).2))∧w1.heap.size≤wr.heap.size∧Hid (Below w.heap.size w wr)∧Hid (wr.heap[w.heap.size+1]? = some (.cells #[.slice none 0 0] 31 (0,0)))∧Hid (ShelfAt wr w1.heap.size mb G))
  case atStart => exact ⟨0,fs,by omega,rfl,Nat.zero_le _,hok,by show _=_;rw [List.drop_zero,Nat.zero_add],hs2,HB2,R_w2,HSH⟩
  case round =>
   obtain ⟨k,G,hkg,rfl,hk,hGo,HK,hwr,HB,HR,HP⟩:=hrel
   by_cases hlt:k < qs.length
   ·
    have hlt':decide ((k:Int) < (qs.length:Int))=true:=by simp;omega
    obtain ⟨b,off,rfl,hbw,hc0,hc1,hc2,hc3⟩:=actsAt_keep HA.out HB.out k hlt
    have hsA:=HSA.out qs[k] (List.getElem_mem hlt)
    obtain ⟨A,HAk⟩:∃ A,Hid (qs[k]=A):=⟨qs[k],hide rfl⟩
    rw [HAk.out] at hc0 hc1 hc2 hc3 hsA
    obtain ⟨hA1,hA2,hA3⟩:=hsA
    have hi0:(0:Int)≤(k:Int):=by omega
    have hi1:(k:Int) < (qs.length:Int):=by omega
    go_wp2_with fail
    refine (do_any G mb w1.heap.size A _ hGo HP.out hmb hwr hA1 hA2 hA3).mono ?_
    rintro e w3 ⟨rfl,hsh3,b3⟩
    have hs3:wr.heap.size≤w3.heap.size:=b3.size
    have HB3:Hid (Below w.heap.size w w3):=HB.out.trans (b3.mono (by omega))
    have R_w3:Hid (w3.heap[w.heap.size+1]? = some (.cells #[.slice none 0 0] 31 (0,0))):=blk_far HR.out b3 (by omega)
    have HS3:=hide hsh3
    clear hsh3 b3 hc0 hc1 hc2 hc3
    cases hact:actD G A with
    | none =>
     have hE:Hid (actsF fs qs=(G,k)):=by show _=_;rw [HK.out,actsF_no hlt (by rw [HAk.out];exact hact)];rfl
     rw [hact] at HS3
     have hb:Option.isSome (none:Option (List FileD))=false:=rfl
     go_wp2_with fail
     refine (disk_any G mb w1.heap.size _ hGo HS3.out).mono ?_
     rintro e w4 ⟨v4,rfl,hrow,b4⟩
     obtain ⟨a4,c4,rfl,_⟩:=rowF_at hrow
     have hR:=blk_below R_w3.out b4
     have cR:=box_of hR
     have zR:=frozen_of_row w4 (w.heap.size+1) 0 _ _ hR
     have HROW:=hide hrow
     have HB4:Hid (Below w.heap.size w w4):=HB3.out.trans (b4.mono HB3.out.size)
     clear hrow b4 hR
     go_wp2_with fail
     refine bodyPost_ret (v:=.tuple #[.agg #[.slice a4 G.length c4],.int .i64 (k:Int)]) (by simp [results,Tryz.results89,go_sem,cR]) rfl ⟨.slice a4 G.length c4,by rw [hE.out],?_,HB4.out.setCell (p:=⟨w.heap.size+1,0,none⟩) (by show w.heap.size≤w.heap.size+1;omega) _⟩
     rw [hE.out]
     exact rowF_le (rowF_grown HROW.out (grownBy_store (World.grownBy.refl _ _) 0 _) (fun g hg e => by have h1:=(rowF_lt HROW.out g hg).1;cases e;omega)) (by omega)
    | some g =>
     have hE:Hid (actsF fs qs=((actsF g (qs.drop (k+1))).1,k+1+(actsF g (qs.drop (k+1))).2)):=by show _=_;rw [HK.out,actsF_yes hlt (by rw [HAk.out];exact hact)];simp only [Prod.mk.injEq,true_and];omega
     rw [hact] at HS3
     have hb:Option.isSome (some g)=true:=rfl
     go_wp2_with fail
     go_roundg (gk - 1)
     case measure => omega
     case rel => exact ⟨k+1,g,by omega,by go_num,by omega,actD_ok hact,hE,by omega,HB3,R_w3,HS3⟩
   ·
    have hlt':decide ((k:Int) < (qs.length:Int))=false:=by simp;omega
    have hE:Hid (actsF fs qs=(G,k)):=by show _=_;rw [HK.out,actsF_end (by omega)];rfl
    go_wp2_with fail
    refine (disk_any G mb w1.heap.size _ hGo HP.out).mono ?_
    rintro e w4 ⟨v4,rfl,hrow,b4⟩
    obtain ⟨a4,c4,rfl,_⟩:=rowF_at hrow
    have hR:=blk_below HR.out b4
    have cR:=box_of hR
    have zR:=frozen_of_row w4 (w.heap.size+1) 0 _ _ hR
    have HROW:=hide hrow
    have HB4:Hid (Below w.heap.size w w4):=HB.out.trans (b4.mono HB.out.size)
    clear hrow b4 hR
    go_wp2_with fail
    refine bodyPost_ret (v:=.tuple #[.agg #[.slice a4 G.length c4],.int .i64 (k:Int)]) (by simp [results,Tryz.results89,go_sem,cR]) rfl ⟨.slice a4 G.length c4,by rw [hE.out],?_,HB4.out.setCell (p:=⟨w.heap.size+1,0,none⟩) (by show w.heap.size≤w.heap.size+1;omega) _⟩
    rw [hE.out]
    exact rowF_le (rowF_grown HROW.out (grownBy_store (World.grownBy.refl _ _) 0 _) (fun g hg e => by have h1:=(rowF_lt HROW.out g hg).1;cases e;omega)) (by omega)
end Go.Proofs.YtepdckehokdjlaaGreatDoor
namespace Go.Proofs.YtepdckehokdjlaaGreatDoor
open Go.RowKit Go.Shelf
theorem segNm_size (n:Int):(segNm n).size≤1048576:=by
 by_cases h:0≤n∧n≤99
 ·
  unfold segNm
  rw [if_pos h]
  have:(Wd.decS n).length≤20+1:=by
   unfold Wd.decS
   split
   · simp
   ·
    split
    · omega
    · exact Nat.le_trans (Wd.decA_length 20 n.natAbs [] 2 (by omega)) (by simp)
  simp only [ByteArray.size,List.size_toArray,List.length_cons]
  omega
 ·
  rw [segNm_out n (by omega)]
  decide
theorem size_nil:(⟨#[]⟩:ByteArray).size≤1048576:=by decide
theorem size_new:nmNew.size≤1048576:=by decide
theorem actsI_sizes {fs:List FileD} (hsz:∀ F ∈ fs,F.name.size≤1048576∧F.text.size≤1048576):∀ A ∈ actsI fs,A.name.size≤1048576∧A.text.size≤1048576∧A.toN.size≤1048576:=by
 intro A hA
 unfold actsI at hA
 rcases List.mem_append.1 hA with hA | hA
 ·
  unfold dropsI at hA
  obtain ⟨F,hF,rfl⟩:=List.mem_map.1 hA
  exact ⟨(hsz F (List.mem_filter.1 hF).1).1,size_nil,size_nil⟩
 ·
  unfold mendA at hA
  split at hA
  ·
   have hx:∀ nm:ByteArray,((((fileD fs nm).map FileD.text).getD ⟨#[]⟩).extract 0 (lastG fs).fin).size≤1048576:=by
    intro nm
    rw [ByteArray.size_extract]
    cases hf:fileD fs nm with
    | none =>
     have:(⟨#[]⟩:ByteArray).size=0:=rfl
     simp only [Option.map_none,Option.getD_none]
     omega
    | some F =>
     have:=(hsz F (List.mem_of_find?_eq_some hf)).2
     simp only [Option.map_some,Option.getD_some]
     omega
   unfold newA at hA
   simp only [List.mem_cons,List.not_mem_nil,or_false] at hA
   rcases hA with rfl | rfl | rfl
   · exact ⟨size_new,hx _,size_nil⟩
   · exact ⟨size_new,size_nil,size_nil⟩
   · exact ⟨size_new,size_nil,segNm_size _⟩
  · exact absurd hA List.not_mem_nil
theorem actsI_len (fs:List FileD):(actsI fs).length≤fs.length+3:=by
 unfold actsI
 rw [List.length_append]
 have:=dropsI_len (firstG fs) fs
 have:(mendA fs).length≤3:=by
  unfold mendA
  split
  · exact Nat.le_refl _
  · exact Nat.zero_le _
 omega
theorem actsF_le:∀ (qs:List ActD) (fs:List FileD),(actsF fs qs).2≤qs.length
 | [],_ => Nat.le_refl _
 | A :: r,fs => by
  unfold actsF
  split
  · exact Nat.zero_le _
  ·
   rename_i g _
   have:=actsF_le r g
   simp only [List.length_cons]
   omega
structure StoreAt (w:World) (B g:Nat) (fs:List FileD) (room:Int) (vd vr vs:Value):Prop where
 blk:w.heap[g]? = some (.cells #[.int .i32 0,.int .u32 0,vd,.int .i64 room,.int .i64 ((lastG fs).num:Int),.int .i64 (seqD (segsL fs)),vr,vs] 119 (0,0))
 le:B≤g
 disk:RowF w B vd (actsF fs (actsI fs)).1
 dir:RowSpot w B vr (dirD fs)
 segs:BuildG w B B vs (segsL fs)
def EngG (wM wx:World) (β:Nat) (vd:Value) (room act seq:Int) (vr:Value) (dir:List SpotD):Prop:=wx.heap[β]? = some (.cells #[vd,.int .i64 room,.int .i64 act,.int .i64 seq,vr] 34 (0,0))∧wM.heap.size≤β∧Below wM.heap.size wM wx∧RowSpot wx wM.heap.size vr dir
theorem five_cells {W:World} {g:Nat} {a b c d e:Value} {t:TypeId} (h:W.heap[g]? = some (.cells #[a,b,c,d,e] t (0,0))):W.cell? ⟨g,0,none⟩=some a∧W.cell? ⟨g,1,none⟩=some b∧W.cell? ⟨g,2,none⟩=some c∧W.cell? ⟨g,3,none⟩=some d∧W.cell? ⟨g,4,none⟩=some e∧W.frozen? ⟨g,0,none⟩=false∧W.frozen? ⟨g,1,none⟩=false∧W.frozen? ⟨g,2,none⟩=false∧W.frozen? ⟨g,3,none⟩=false∧W.frozen? ⟨g,4,none⟩=false :=
 ⟨(cell_of_row W g 0 _ _ (0,0) h).trans rfl,(cell_of_row W g 1 _ _ (0,0) h).trans rfl,(cell_of_row W g 2 _ _ (0,0) h).trans rfl,(cell_of_row W g 3 _ _ (0,0) h).trans rfl,(cell_of_row W g 4 _ _ (0,0) h).trans rfl,frozen_of_row W g 0 _ _ h,frozen_of_row W g 1 _ _ h,frozen_of_row W g 2 _ _ h,frozen_of_row W g 3 _ _ h,frozen_of_row W g 4 _ _ h⟩
theorem eng_new {wM w6:World} {vd vr:Value} {room act seq:Int} {dir:List SpotD} (hr:RowSpot w6 wM.heap.size vr dir) (e6:Below wM.heap.size wM w6):EngG wM (w6.alloc (.cells #[vd,.int .i64 room,.int .i64 act,.int .i64 seq,vr] 34)) w6.heap.size vd room act seq vr dir :=
 ⟨heap_alloc_new w6 _,e6.size,e6.alloc e6.size _,rowSpot_below hr ((Below.refl _ _).alloc (Nat.le_refl _) _)⟩
theorem eng_old {wM w6:World} {β:Nat} {vd vr a0 a1 a2 a3 a4:Value} {room act seq:Int} {dir:List SpotD} (hr:RowSpot w6 wM.heap.size vr dir) (e6:Below wM.heap.size wM w6) (hb:w6.heap[β]? = some (.cells #[a0,a1,a2,a3,a4] 34 (0,0))) (wb:wM.heap.size≤β) :
  EngG wM (((((w6.setCell ⟨β,0,none⟩ vd).setCell ⟨β,1,none⟩ (.int .i64 room)).setCell ⟨β,2,none⟩ (.int .i64 act)).setCell ⟨β,3,none⟩ (.int .i64 seq)).setCell ⟨β,4,none⟩ vr) β vd room act seq vr dir:=by
 have c0:=(heap_setCell_same w6 β 0 _ _ vd hb).trans rfl
 have c1:=(heap_setCell_same _ β 1 _ _ (.int .i64 room) c0).trans rfl
 have c2:=(heap_setCell_same _ β 2 _ _ (.int .i64 act) c1).trans rfl
 have c3:=(heap_setCell_same _ β 3 _ _ (.int .i64 seq) c2).trans rfl
 have c4:=(heap_setCell_same _ β 4 _ _ vr c3).trans rfl
 refine ⟨by rw [c4];rfl,wb,((((e6.setCell (p:=⟨β,0,none⟩) wb _).setCell (p:=⟨β,1,none⟩) wb _).setCell (p:=⟨β,2,none⟩) wb _).setCell (p:=⟨β,3,none⟩) wb _).setCell (p:=⟨β,4,none⟩) wb _,?_⟩
 refine rowSpot_keep hr (fun g hg => ?_)
 have hne:g ≠ β:=by
  rintro rfl
  rcases hr with ⟨rfl,-⟩ | ⟨g',cap,C,rfl,-,hC,-⟩
  · cases hg
  ·
   obtain rfl:g' = g:=by simpa [Value.ownBlock] using hg
   rw [hC] at hb
   simp at hb
 exact (Below.heap_setCell _ _ _ _ hne).trans ((Below.heap_setCell _ _ _ _ hne).trans ((Below.heap_setCell _ _ _ _ hne).trans ((Below.heap_setCell _ _ _ _ hne).trans (Below.heap_setCell _ _ _ _ hne))))
theorem openStore_any (fs:List FileD) (ao:Option Addr) (cap:Nat) (room:Int) (w:World) (hl:fs.length≤1048576) (hfs:FilesAt w ao fs) (hsz:∀ F ∈ fs,F.name.size≤1048576∧F.text.size≤1048576) (hT:SumTab w) :
  Calls Tryz.prog 59 #[.agg #[.slice ao fs.length cap],.int .i64 room] w fun e w' => Below w.heap.size w w' ∧
   ((openIB fs room=true∧∃ g vd vr vs va,e=.returned (.tuple #[.pointer (some ⟨g,0,none⟩),va,.nilIface])∧StoreAt w' w.heap.size g fs room vd vr vs∧w'.ownsRow w.heap.size 51 4 va (actsI fs).length (cellsAct (actsI fs))) ∨
    (openIB fs room=false∧∃ s,e=.returned (.tuple #[.pointer none,.slice none 0 0,.iface 121 (.agg #[.int .i64 1,.string s])]))):=by
 have HF:=hide hfs
 have HS:=hide hsz
 have HT:=hide hT
 have hll:=segsL_len fs
 have HSS:=hide (fun W hW hT => soundSegments_any fs ao cap W (by omega) hW hsz hT)
 obtain ⟨wb,hwb⟩:∃ wb,wb=w.alloc (.cells #[.slice ao fs.length cap] 31):=⟨_,rfl⟩
 have HB0:Hid (Below w.heap.size w wb):=by rw [hwb];exact (Below.refl _ w).alloc (Nat.le_refl _) _
 have hbs:w.heap.size < wb.heap.size:=by rw [hwb];simp
 have hbc:wb.cell? ⟨w.heap.size,0,none⟩=some (.slice ao fs.length cap):=by rw [hwb];exact (cell_of_row _ _ 0 _ _ (0,0) (heap_alloc_new w _)).trans rfl
 clear hfs hsz hT
 cases hr:roomB room with
 | false =>
  have HE:Hid (openIB fs room=false):=by show _=_;unfold openIB;rw [hr];rfl
  unfold roomB at hr
  rw [Bool.and_eq_false_iff,decide_eq_false_iff_not,decide_eq_false_iff_not] at hr
  by_cases h1:room < 100
  ·
   have h1':decide (room < 100)=true:=by simp;omega
   go_enter Tryz.func59,Tryz.ntmps59
   go_wp2
   refine bodyPost_ret (results_tmp3 rfl _ _ _) rfl ?_
   rw [← hwb]
   exact ⟨HB0.out,.inr ⟨HE.out,_,rfl⟩⟩
  ·
   have h1':decide (room < 100)=false:=by simp;omega
   have h2':decide (20000 < room)=true:=by simp;omega
   go_enter Tryz.func59,Tryz.ntmps59
   go_wp2
   refine bodyPost_ret (results_tmp3 rfl _ _ _) rfl ?_
   rw [← hwb]
   exact ⟨HB0.out,.inr ⟨HE.out,_,rfl⟩⟩
 | true =>
  have HR:=hide hr
  unfold roomB at hr
  rw [Bool.and_eq_true,decide_eq_true_eq,decide_eq_true_eq] at hr
  have h1':decide (room < 100)=false:=by simp;omega
  have h2':decide (20000 < room)=false:=by simp;omega
  have HMA:=hide (fun v B K W hW h0 hG => mendingActs_any fs ao cap v B K W (by omega) hW HS.out h0 hG)
  have HLS:=hide (fun v B K W h => lastSeq_any (segsL fs) v B K W hll segsL_bl h)
  have HLO:=hide (fun v B K W h0 h => lastOf_any (segsL fs) v B K W hll h0 h)
  have HST:=hide (segsL_tell fs)
  have HSP:=hide (fun v B K W h => spotsOf_of inOrder_any (segsL fs) v B K W hll HST.out.1 HST.out.2.1 HST.out.2.2.1 HST.out.2.2.2.1 HST.out.2.2.2.2 h)
  go_enter Tryz.func59,Tryz.ntmps59
  go_wp2_with fail
  rw [← hwb]
  clear hwb
  go_wp2_with fail
  refine (HSS.out _ (filesAt_keep HF.out HB0.out) (sumTab_later HB0.out HT.out)).mono ?_
  rintro e w1 ⟨b1,⟨hs,v1,rfl,g1⟩ | ⟨hs,s1,rfl⟩⟩
  ·
   obtain ⟨a1,c1,rfl⟩:=buildG_form g1
   have BB1:=hide b1
   have B1:=hide (HB0.out.trans (b1.mono HB0.out.size))
   have G1:=hide (buildG_mono g1 HB0.out.size HB0.out.size)
   have h0:=(soundB_segs hs).2.2.2.2.2
   have hl30:=(disk_files (soundB_segs hs).2.2.2.2.1).1
   have hbc1:w1.cell? ⟨w.heap.size,0,none⟩=some (.slice ao fs.length cap):=(b1.cell (p:=⟨w.heap.size,0,none⟩) hbs).trans hbc
   have HSD:=hide hs
   clear hs g1 b1
   go_wp2_with fail
   refine (HMA.out _ _ _ _ (filesAt_keep HF.out B1.out) h0 G1.out).mono ?_
   rintro e w2 ⟨⟨v2,rfl,o2⟩,b2⟩
   have hla:=actsI_len fs
   have HSA:=hide (actsI_sizes HS.out)
   have BB2:=hide (BB1.out.trans (b2.mono BB1.out.size))
   have B2:=hide (B1.out.trans (b2.mono B1.out.size))
   have G2:=hide (buildG_below G1.out b2)
   have O2:=hide (ownsRow_mono o2 B1.out.size)
   have hbc2:w2.cell? ⟨w.heap.size,0,none⟩=some (.slice ao fs.length cap):=(BB2.out.cell (p:=⟨w.heap.size,0,none⟩) hbs).trans hbc
   obtain ⟨a2,c2,hv2,ha2⟩:=rowAct_at (rowAct_own o2)
   subst hv2
   have HA2:=hide ha2
   clear b2 o2 ha2 G1
   go_wp2_with fail
   refine (acts_any fs ao cap (actsI fs) a2 c2 _ (by omega) (filesAt_keep HF.out B2.out) HS.out (by omega) HA2.out HSA.out).mono ?_
   rintro e w3 ⟨v3,rfl,r3,b3⟩
   have BB3:=hide (BB2.out.trans (b3.mono BB2.out.size))
   have B3:=hide (B2.out.trans (b3.mono B2.out.size))
   have G3:=hide (buildG_below G2.out b3)
   have O3:=hide (ownsRow_below O2.out b3)
   have R3:=hide (rowF_le r3 B2.out.size)
   clear b3 r3 G2 O2
   obtain ⟨a3,c3,hv3,-⟩:=rowF_at R3.out
   subst hv3
   obtain ⟨KA,HKA⟩:∃ n,Hid ((actsF fs (actsI fs)).2=n):=⟨_,hide rfl⟩
   obtain ⟨LA,HLA⟩:∃ n,Hid ((actsI fs).length=n):=⟨_,hide rfl⟩
   have hKL:KA≤LA:=by rw [← HKA.out,← HLA.out];exact actsF_le _ _
   have hLA:LA≤1000003:=by rw [← HLA.out];omega
   rw [HKA.out,HLA.out]
   have HOB:Hid (openIB fs room=decide (KA=LA)):=by show _=_;unfold openIB;rw [HR.out,HSD.out,HKA.out,HLA.out];rfl
   obtain ⟨D3,HD3⟩:∃ D,Hid ((actsF fs (actsI fs)).1=D):=⟨_,hide rfl⟩
   rw [HD3.out] at R3
   rw [HD3.out]
   by_cases hk:KA < LA
   ·
    have hk':decide ((KA:Int) < (LA:Int))=true:=by simp;omega
    have HE:Hid (openIB fs room=false):=by show _=_;rw [HOB.out,decide_eq_false_iff_not];omega
    go_wp2
    refine bodyPost_ret (results_tmp3 rfl _ _ _) rfl ?_
    exact ⟨(B3.out.alloc B3.out.size _),.inr ⟨HE.out,_,rfl⟩⟩
   ·
    have hk':decide ((KA:Int) < (LA:Int))=false:=by simp;omega
    have HE:Hid (openIB fs room=true):=by show _=_;rw [HOB.out,decide_eq_true_eq];omega
    obtain ⟨Z,HZ⟩:∃ Z,Hid ((segsL fs)[(segsL fs).length - 1]'(by omega)=Z):=⟨_,hide rfl⟩
    have HLG:Hid (lastG fs=Z):=by
     show _=_
     unfold lastG
     rw [List.getLast?_eq_getElem?,List.getElem?_eq_getElem (by omega),HZ.out]
     rfl
    have HLOz:=hide (fun v B K W h => HLO.out v B K W h0 h)
    rw [HZ.out] at HLOz
    obtain ⟨wM,hwM⟩:∃ x,x=w3.alloc (.cells #[.slice a3 D3.length c3] 31):=⟨_,rfl⟩
    have BM:Hid (Below w3.heap.size w3 wM):=by rw [hwM];exact (Below.refl _ w3).alloc (Nat.le_refl _) _
    have hM3:w3.heap.size < wM.heap.size:=by rw [hwM];simp
    have hMc:wM.cell? ⟨w3.heap.size,0,none⟩=some (.slice a3 D3.length c3):=by rw [hwM];exact (cell_of_row _ _ 0 _ _ (0,0) (heap_alloc_new w3 _)).trans rfl
    have BwM:Hid (Below w.heap.size w wM):=B3.out.trans (BM.out.mono B3.out.size)
    have KS:Hid (∀ X,Below wM.heap.size wM X→X.cell? ⟨w3.heap.size,0,none⟩=some (.slice a3 D3.length c3)):=fun X hX => (hX.cell (p:=⟨w3.heap.size,0,none⟩) hM3).trans hMc
    have KG:Hid (∀ X,Below wM.heap.size wM X→BuildG X w.heap.size w.heap.size (.slice a1 (segsL fs).length c1) (segsL fs)):=fun X hX => buildG_below (buildG_below G3.out BM.out) hX
    obtain ⟨DD,HDD⟩:∃ d,Hid (dirSegs [] (segsL fs)=d):=⟨_,hide rfl⟩
    have HDE:Hid (dirD fs=DD):=HDD
    obtain ⟨SQ,HSQ⟩:∃ d,Hid (seqD (segsL fs)=d):=⟨_,hide rfl⟩
    rw [HDD.out] at HSP
    rw [HSQ.out] at HLS
    have HLW:=hide (fun W (h:Below wM.heap.size wM W) => HLOz.out _ _ _ W (KG.out W h))
    have HLT:=hide (fun W (h:Below wM.heap.size wM W) => HLS.out _ _ _ W (KG.out W h))
    have HSQ':=hide (fun W (h:Below wM.heap.size wM W) => HSP.out _ _ _ W (KG.out W h))
    have hfd:∀ (qa qa':Option Addr) (qc qc':Nat) (W:World),(Instr.field 158 (.agg #[.int .i64 (Z.num:Int),.int .i64 (Z.frm:Int),.slice qa Z.bs.length qc,.slice qa' Z.pls.length qc',.int .i64 (Z.fin:Int),.bool Z.right,.bool Z.torn]) 0).run Tryz.prog W=.ok (.int .i64 (Z.num:Int)) W:=fun _ _ _ _ _ => by kernel_rfl
    go_upto_region 10 with fail
    rw [← hwM]
    clear hwM
    go_cut [12] from 44 (fun s12 wx => ∃ β a9 c9,s12=.pointer (some ⟨β,0,none⟩)∧EngG wM wx β (.slice a3 D3.length c3) room (Z.num:Int) SQ (.slice a9 DD.length c9) DD)
    case first =>
     rename_i hJ9 hK9
     clear HSS HMA HLO HST HF HS HT hbc hbc1 hbc2 HA2 HSA O3 R3 HR hr h1' h2' HSD BB1 BB2 BB3 B1 B2 G3 HOB HE HLG hl30 HZ HDD HDE HSQ HKA HLA HD3 hKL hLA hk hk' hla BwM BM B3 hbs hl HB0 HLOz HLS HSP KG
     generalize (segsL fs).length=NN at *
     go_region_held3 (fun w' => w'.cell? ⟨w3.heap.size,0,none⟩=some (.slice a3 D3.length c3)) ((refine KS.out _ ?_;first | (exact ((((e6.setCell (p:=⟨_,0,none⟩) wb _).setCell (p:=⟨_,1,none⟩) wb _).setCell (p:=⟨_,2,none⟩) wb _).setCell (p:=⟨_,3,none⟩) wb _).setCell (p:=⟨_,4,none⟩) wb _) | (exact e6) | (exact e6.alloc e6.size _) | (exact e5) | (exact e5.alloc e5.size _) | (exact e4) | (exact e4.alloc e4.size _) | (exact (Below.refl _ _).drew) | (exact ((Below.refl _ wM).alloc (Nat.le_refl _) _).drew) | fail)) ((first | (go_at_call 90;refine (HLW.out _ ?_).mono ?_;exact (Below.refl _ _).drew;rintro e w4 ⟨⟨qa,qc,qa',qc',rfl,-⟩,b4⟩;have e4:Below wM.heap.size wM w4:=((Below.refl _ _).drew).trans b4) | (go_at_call 90;refine (HLW.out _ ?_).mono ?_;exact ((Below.refl _ wM).alloc (Nat.le_refl _) _).drew;rintro e w4 ⟨⟨qa,qc,qa',qc',rfl,-⟩,b4⟩;have e4:Below wM.heap.size wM w4:=(((Below.refl _ wM).alloc (Nat.le_refl _) _).drew).trans (b4.mono (by simp));have q4:Hid (w4.heap[wM.heap.size]? = some (.cells #[.slice none 0 0,.int .i64 0,.int .i64 0,.int .i64 0,.slice none 0 0] 34 (0,0))):=(b4.block _ (by simp)).trans (heap_alloc_new wM _);have wb:=Nat.le_refl wM.heap.size) | (go_at_call 91;refine (HLT.out _ ?_).mono ?_;exact e4;rintro e w5 ⟨rfl,b5⟩;have f5:Below w4.heap.size w4 w5:=b5;have e5:=e4.trans (f5.mono e4.size);have q5:=hide (blk_below q4.out f5)) | (go_at_call 91;refine (HLT.out _ ?_).mono ?_;exact e4;rintro e w5 ⟨rfl,b5⟩;have f5:Below w4.heap.size w4 w5:=b5;have e5:=e4.trans (f5.mono e4.size)) | (go_at_call 91;refine (HLT.out _ ?_).mono ?_;exact e4.alloc e4.size _;rintro e w5 ⟨rfl,b5⟩;have f5:Below w4.heap.size w4 w5:=((Below.refl _ w4).alloc (Nat.le_refl _) _).trans (b5.mono (by simp));have e5:=e4.trans (f5.mono e4.size);have q5:Hid (w5.heap[w4.heap.size]? = some (.cells #[.slice none 0 0,.int .i64 0,.int .i64 0,.int .i64 0,.slice none 0 0] 34 (0,0))):=(b5.block _ (by simp)).trans (heap_alloc_new w4 _);have wb:=e4.size) | (go_at_call 92;refine (HSQ'.out _ ?_).mono ?_;exact e5;rintro e w6 ⟨⟨v6,rfl,r6⟩,b6⟩;obtain ⟨a6,c6,rfl,-⟩:=rowSpot_at r6;have f6:Below w5.heap.size w5 w6:=b6;have r6':=rowSpot_le r6 e5.size;have e6:=e5.trans (f6.mono e5.size);have q6:=hide (blk_below q5.out f6);obtain ⟨hz0,hz1,hz2,hz3,hz4,hy0,hy1,hy2,hy3,hy4⟩:=five_cells q6.out) | (go_at_call 92;refine (HSQ'.out _ ?_).mono ?_;exact e5;rintro e w6 ⟨⟨v6,rfl,r6⟩,b6⟩;obtain ⟨a6,c6,rfl,-⟩:=rowSpot_at r6;have f6:Below w5.heap.size w5 w6:=b6;have r6':=rowSpot_le r6 e5.size;have e6:=e5.trans (f6.mono e5.size)) | (go_at_call 92;refine (HSQ'.out _ ?_).mono ?_;exact e5.alloc e5.size _;rintro e w6 ⟨⟨v6,rfl,r6⟩,b6⟩;obtain ⟨a6,c6,rfl,-⟩:=rowSpot_at r6;have f6:Below w5.heap.size w5 w6:=((Below.refl _ w5).alloc (Nat.le_refl _) _).trans (b6.mono (by simp));have r6':=rowSpot_le (rowSpot_le r6 (by simp:w5.heap.size≤(w5.alloc _).heap.size)) e5.size;have e6:=e5.trans (f6.mono e5.size);have q6:Hid (w6.heap[w5.heap.size]? = some (.cells #[.slice none 0 0,.int .i64 0,.int .i64 0,.int .i64 0,.slice none 0 0] 34 (0,0))):=(b6.block _ (by simp)).trans (heap_alloc_new w5 _);have wb:=e5.size;obtain ⟨hz0,hz1,hz2,hz3,hz4,hy0,hy1,hy2,hy3,hy4⟩:=five_cells q6.out)))
     all_goals (refine hK9 _ _ (Met.intro (hJ9 _ _ ?_));(repeat apply Exists.intro);refine ⟨?_,rfl⟩)
     all_goals (refine ⟨_,a6,c6,rfl,?_⟩;first | (have qq:=q6.out;exact eng_old r6' e6 qq wb) | (exact eng_new r6' e6))
    case rest =>
     obtain ⟨β,a9,c9,rfl,hG1,hG2,hG3,hG4⟩:=hcut
     obtain ⟨hz0,hz1,hz2,hz3,hz4,-⟩:=five_cells hG1
     have R9:=hide hG4
     have B9:=hide hG3
     have hG9:=hide hG1
     clear hG1 hG3 hG4
     go_wp2
     refine bodyPost_ret (results_tmp3 rfl _ _ _) rfl ?_
     have b7:Below w3.heap.size w3 wc:=BM.out.trans (B9.out.mono BM.out.size)
     have b8:Below w3.heap.size w3 (wc.alloc (.cells #[.int .i32 0,.int .u32 0,.slice a3 D3.length c3,.int .i64 room,.int .i64 (Z.num:Int),.int .i64 SQ,.slice a9 DD.length c9,.slice a1 (segsL fs).length c1] 119)):=b7.alloc b7.size _
     have o8:=ownsRow_below O3.out b8
     rw [show (Value.slice a2 (actsI fs).length c2)=.slice a2 LA c2 from by rw [HLA.out]] at o8
     have hwc:w.heap.size≤wc.heap.size:=by have:=b7.size;have:=B3.out.size;omega
     refine ⟨B3.out.trans (b8.mono B3.out.size),.inl ⟨HE.out,wc.heap.size,.slice a3 D3.length c3,.slice a9 DD.length c9,.slice a1 (segsL fs).length c1,.slice a2 LA c2,rfl,⟨?_,hwc,?_,?_,?_⟩,o8⟩⟩
     ·
      rw [HLG.out,HSQ.out]
      exact heap_alloc_new wc _
     ·
      rw [HD3.out]
      exact rowF_below R3.out b8
     ·
      rw [HDE.out]
      exact rowSpot_below (rowSpot_le R9.out (by have:=BM.out.size;have:=B3.out.size;omega)) ((Below.refl _ wc).alloc (Nat.le_refl _) _)
     · exact buildG_below G3.out b8
  ·
   have HE:Hid (openIB fs room=false):=by show _=_;unfold openIB;rw [HR.out,hs];rfl
   go_wp2
   refine bodyPost_ret (results_tmp3 rfl _ _ _) rfl ?_
   exact ⟨HB0.out.trans (b1.mono HB0.out.size),.inr ⟨HE.out,_,rfl⟩⟩
end Go.Proofs.YtepdckehokdjlaaGreatDoor
