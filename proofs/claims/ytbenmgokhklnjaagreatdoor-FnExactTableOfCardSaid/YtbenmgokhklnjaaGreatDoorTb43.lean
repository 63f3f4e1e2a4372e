import Derived.Test.YtbenmgokhklnjaaGreatDoorTb35
import Derived.Test.YtbenmgokhklnjaaGreatDoorTb38
import Derived.Test.YtbenmgokhklnjaaGreatDoorTb41
import Derived.Test.YtbenmgokhklnjaaGreatDoorTb42
import Derived.Test.YtbenmgokhklnjaaGreatDoorTb33
import Derived.Test.YtbenmgokhklnjaaGreatDoorTb5
import Derived.Test.YtbenmgokhklnjaaGreatDoorTb17
import Derived.Test.YtbenmgokhklnjaaGreatDoorTb32
set_option maxRecDepth 100000
set_option maxHeartbeats 3200000
namespace Go.Proofs.YtbenmgokhklnjaaGreatDoor
open Go.RowKit
def entsD (L:List ChangeD):List EntD:=L.map (fun c => ⟨c.key,(rvRaw c.value).1⟩)
theorem entsD_len (L:List ChangeD):(entsD L).length=L.length:=by simp [entsD]
theorem entsD_take {L:List ChangeD} {k:Nat} (h:k < L.length):entsD (L.take (k+1))=entsD (L.take k) ++ [⟨L[k].key,(rvRaw L[k].value).1⟩]:=by
 unfold entsD
 rw [List.take_succ_eq_append_getElem h,List.map_append]
 rfl
def TabOk (ok:Bool) (L:List ChangeD):Prop:=ok=true∧(∀ c ∈ L,RvOk c.value)∧TabR (entsD L)
theorem valIn_mem {key:ByteArray}:∀ {cs:List ChangeD} {v:ByteArray},valIn key cs=some v→∃ A ∈ cs,A.value=v
 | [],v,h => by simp [valIn] at h
 | A :: r,v,h => by
  unfold valIn at h
  split at h
  · exact ⟨A,by simp,Option.some.inj h⟩
  ·
   obtain ⟨B,hB,e⟩:=valIn_mem h
   exact ⟨B,by simp [hB],e⟩
theorem batChs_le2000 (o:Option ByteArray):∀ A ∈ batChs o,A.value.size≤2000:=by
 intro A hA
 unfold batChs at hA
 cases o with
 | none => simp at hA
 | some t =>
  simp only [Option.map_some,Option.getD_some] at hA
  cases h:rdOk t with
  | false => unfold rdChanges at hA;rw [h] at hA;simp at hA
  | true => exact ((textOk_small (rd_text h).1).2.2 A hA).2
theorem contE_small (fs:List FileD) (room act seq:Int) (dir:List SpotD):∀ c ∈ contE fs room act seq dir,c.key.size≤20∧c.value.size≤2000:=by
 intro c hc
 unfold contE at hc
 cases h:engOkB fs room act seq dir with
 | false => rw [h] at hc;simp at hc
 | true =>
  rw [h] at hc
  have hb:=engOkB_iff.1 h
  obtain ⟨A,hA,rfl⟩:=List.mem_map.1 (show c ∈ contD fs dir from hc)
  rw [← hb.2.2.2.2.2] at hA
  refine ⟨dirD_keys fs A hA,?_⟩
  show (outTx (valD fs A)).size≤2000
  cases hv:valD fs A with
  | none => exact Nat.zero_le _
  | some t =>
   unfold valD at hv
   split at hv
   ·
    obtain ⟨B,hB,e⟩:=valIn_mem hv
    show t.size≤2000
    rw [← e]
    exact batChs_le2000 _ B hB
   · cases hv
theorem implTableOf_any (fs:List FileD) (ao ad:Option Addr) (cap cd:Nat) (room act seq:Int) (dir:List SpotD) (w:World) (R:Bool) (hR:R=true ↔ TabOk (engOkB fs room act seq dir) (contE fs room act seq dir)) (hl:fs.length≤1048576) (hfs:FilesAt w ao fs) (hsz:∀ F ∈ fs,F.name.size≤1048576∧F.text.size≤1048576) (hld:dir.length≤1048576) (hds:SpotsAt w ad dir) (hT:SumTab w) :
  Calls Tryz.prog 7 #[.agg #[.slice ao fs.length cap,.int .i64 room,.int .i64 act,.int .i64 seq,.slice ad dir.length cd]] w fun e w' => (∃ v,e=.returned (.tuple #[v,.bool R])∧RowEnt w' w.heap.size v (cond R (entsD (contE fs room act seq dir)) []))∧Below w.heap.size w w':=by
 obtain ⟨wb,hwb⟩:∃ wb,wb=w.alloc (.cells #[.slice ao fs.length cap,.int .i64 room,.int .i64 act,.int .i64 seq,.slice ad dir.length cd] 37):=⟨_,rfl⟩
 have BB:Hid (Below w.heap.size w wb):=by rw [hwb];exact (Below.refl _ w).alloc (Nat.le_refl _) _
 have PB:Hid (wb.heap[w.heap.size]? = some (.cells #[.slice ao fs.length cap,.int .i64 room,.int .i64 act,.int .i64 seq,.slice ad dir.length cd] 37 (0,0))):=by rw [hwb];exact heap_alloc_new w _
 have HCO:=hide (implContents_any fs ao ad cap cd room act seq dir wb hl (filesAt_keep hfs BB.out) hsz hld (spotsAt_keep hds BB.out) (sumTab_later BB.out hT))
 have HRI:=hide hR
 have hLl:(contE fs room act seq dir).length≤1000000:=contE_len fs room act seq dir
 have HSm:=hide (contE_small fs room act seq dir)
 clear hR hfs hds hsz
 generalize contE fs room act seq dir=L at HCO HRI hLl HSm ⊢
 generalize engOkB fs room act seq dir=ok at HCO HRI
 obtain ⟨Z,HZ⟩:∃ Z,Hid (cond R (entsD L) []=Z):=⟨_,rfl⟩
 rw [HZ.out]
 have HNO:Hid (R=false→∀ W,Below w.heap.size w W→∀ v,RowEnt W w.heap.size v []→(∃ v',Ending.returned (.tuple #[v,.bool false])=.returned (.tuple #[v',.bool R])∧RowEnt W w.heap.size v' Z)∧Below w.heap.size w W):=fun h W hW v hv => by
  rw [← HZ.out,h]
  exact ⟨⟨v,rfl,hv⟩,hW⟩
 obtain ⟨z0,z1,z2,z3,z4,-⟩:=five_cells PB.out
 go_enter Tryz.func7,Tryz.ntmps7
 go_upto_region 1 with fail
 rw [← hwb]
 clear hwb
 go_wp2_with fail
 refine HCO.out.mono ?_
 rintro e w1 ⟨⟨v1,rfl,r1⟩,b1⟩
 obtain ⟨a1,c1,rfl,h1⟩:=rowChange_at r1
 have HX:=hide h1
 have W1:=hide (BB.out.trans (b1.mono BB.out.size))
 clear r1 h1 b1 z0 z1 z2 z3 z4 HCO PB BB
 cases ok
 ·
  have hRf:Hid (R=false):=by
   show _=_
   cases R
   · rfl
   · have h:=(HRI.out.1 rfl).1;cases h
  go_wp2
  go_ret2
  exact HNO.out hRf.out _ W1.out _ (.inl ⟨rfl,rfl⟩)
 go_wp2_with fail
 go_loopw [6,20] (fun vv ii wr => ∃ (k:Nat),ii=.int .i64 (k:Int)∧k≤L.length∧Hid (∀ j (h:j < L.length),j < k→RvOk L[j].value)∧Hid (BuildE wr w1.heap.size vv (entsD (L.take k)))∧Hid (Below w1.heap.size w1 wr)) (fun _ ii _ => L.length - (intOf ii).toNat)
 case atStart => exact ⟨0,rfl,by omega,fun j _ hj => absurd hj (by omega),buildE_nil _ _,Below.refl _ _⟩
 case round =>
  obtain ⟨k,rfl,hk,HK,HO,HB⟩:=hrel
  have hws:w.heap.size≤wr.heap.size:=Nat.le_trans W1.out.size HB.out.size
  by_cases hlt:k < L.length
  ·
   have hlt':decide ((k:Int) < (L.length:Int))=true:=by simp;omega
   obtain ⟨b,off,rfl,hbw,hc0,hc1,hc2⟩:=changesAt_keep HX.out HB.out k hlt
   have hsA:=HSm.out L[k] (List.getElem_mem hlt)
   obtain ⟨r,Hr⟩:∃ r:Bool,Hid (r=true ↔ RvOk L[k].value):=by classical exact ⟨decide (RvOk L[k].value),by show _ ↔ _;simp⟩
   have HRV:=hide (fun W => implReadVal_any L[k].value W r Hr.out (by omega))
   have HTK:=hide (entsD_take hlt)
   have HNX:Hid (r=true→∀ j (h:j < L.length),j < k+1→RvOk L[j].value):=fun h j hj hjk => by
    by_cases e:j=k
    · subst e;exact Hr.out.1 h
    · exact HK.out j hj (by omega)
   have HRF:Hid (r=false→R=false):=fun h => by
    cases hRR:R
    · rfl
    · have:=Hr.out.2 ((HRI.out.1 hRR).2.1 L[k] (List.getElem_mem hlt));rw [h] at this;cases this
   generalize L[k]=F at hc0 hc1 hc2 HRV HTK Hr
   clear hsA
   obtain ⟨ky,vl,gn⟩:=F
   simp only at hc0 hc1 hc2 HRV HTK Hr
   have hi0:(0:Int)≤(k:Int):=by omega
   have hi1:(k:Int) < (L.length:Int):=by omega
   obtain ⟨M,HM⟩:∃ M,Hid (entsD (L.take k)=M):=⟨_,hide rfl⟩
   have hel:M.length≤1048576:=by rw [← HM.out,entsD_len,List.length_take];omega
   rw [HM.out] at HO HTK
   obtain ⟨aa,ca,rfl⟩:=buildE_form HO.out
   obtain ⟨wE,hwE⟩:∃ wE,wE=wr.alloc (.cells #[.string ky,.string vl,.bool gn] 55):=⟨_,rfl⟩
   have BE:Hid (Below wr.heap.size wr wE):=by rw [hwE];exact (Below.refl _ wr).alloc (Nat.le_refl _) _
   have PE:Hid (wE.heap[wr.heap.size]? = some (.cells #[.string ky,.string vl,.bool gn] 55 (0,0))):=by rw [hwE];exact heap_alloc_new _ _
   have HOE:=hide (buildE_below HO.out BE.out)
   have hBE:w1.heap.size≤wE.heap.size:=Nat.le_trans HB.out.size BE.out.size
   have x1:wE.cell? ⟨wr.heap.size,1,none⟩=some (.string vl):=(cell_of_row wE _ 1 _ _ (0,0) PE.out).trans rfl
   go_upto_region 8 with fail
   rw [← hwE]
   clear hwE
   go_wp2_with fail
   refine (HRV.out _).mono ?_
   rintro e w3 ⟨⟨a3,c3,rfl,r3⟩,b3⟩
   obtain ⟨V,HV⟩:∃ V,Hid (cond r (rvRaw vl).1 noVal=V):=⟨_,hide rfl⟩
   rw [HV.out] at r3
   have R3:=hide r3
   have E3:=hide b3
   have hBW:Hid (Below w1.heap.size w1 w3):=(HB.out.trans (BE.out.mono HB.out.size)).trans (b3.mono (Nat.le_trans HB.out.size BE.out.size))
   clear r3 b3 x1
   rw [HV.out]
   cases r
   ·
    have hRf:=hide (HRF.out rfl)
    go_wp2
    go_ret2
    exact HNO.out hRf.out _ ((W1.out.trans (hBW.out.mono W1.out.size)).alloc (Nat.le_trans W1.out.size hBW.out.size) _) _ (.inl ⟨rfl,rfl⟩)
   have HVV:Hid ((rvRaw vl).1=V):=HV.out
   rw [HVV.out] at HTK
   obtain ⟨kd,u,t,ts⟩:=V
   simp only at R3 HTK
   have HNK:=hide (HNX.out rfl)
   obtain ⟨w4,hw4⟩:∃ w4,w4=w3.alloc (.cells #[.int .i64 kd,.int .i64 u,.string t,.slice a3 ts.length c3] 51):=⟨_,rfl⟩
   have B34:Hid (Below w3.heap.size w3 w4):=by rw [hw4];exact (Below.refl _ w3).alloc (Nat.le_refl _) _
   have P4:Hid (w4.heap[w3.heap.size]? = some (.cells #[.int .i64 kd,.int .i64 u,.string t,.slice a3 ts.length c3] 51 (0,0))):=by rw [hw4];exact heap_alloc_new _ _
   have E4:=hide (E3.out.trans (B34.out.mono E3.out.size))
   have hBW4:=hide (hBW.out.trans (B34.out.mono hBW.out.size))
   have R4:=hide (rowText_below R3.out B34.out)
   have PE4:=hide ((E4.out.block _ (obj_lt PE.out)).trans PE.out)
   have x0:w4.cell? ⟨wr.heap.size,0,none⟩=some (.string ky):=(cell_of_row w4 _ 0 _ _ (0,0) PE4.out).trans rfl
   obtain ⟨y0,y1,y2,y3⟩:=val_cells P4.out
   go_upto_region 11 with fail
   rw [← hw4]
   clear hw4
   go_wp2_with (at_builtin;refine app_ent wE _ w1.heap.size (by rfl) _ _ (by rfl) _ (.slice a3 ts.length c3) M ⟨ky,kd,u,t,ts⟩ (by rfl) HOE.out hBE (E4.out.alloc E4.out.size _) (rowText_below R4.out ((Below.refl _ w4).alloc (Nat.le_refl _) _)) w4.heap.size (by simp [Act.eval]) (heap_alloc_new w4 _) hel ?_;intro g5 cap5 w5 ho5 hb5 hgr5;have HO5:=hide ho5;have HG5:=hide hgr5;have HB5:=hide hb5;clear ho5 hb5 hgr5)
   go_roundw
   case rel => exact ⟨k+1,by go_num,by omega,HNK,by show BuildE _ _ _ _;rw [HTK.out];exact HO5.out,((hBW4.out.alloc hBW4.out.size _).trans HB5.out)⟩
   case measure => simp [intOf];omega
  ·
   have hlt':decide ((k:Int) < (L.length:Int))=false:=by simp;omega
   have hke:k=L.length:=by omega
   subst hke
   have HO2:=HO.out
   rw [List.take_length] at HO2
   have HALL:Hid (∀ c ∈ L,RvOk c.value):=fun c hc => by
    obtain ⟨j,hj,rfl⟩:=List.getElem_of_mem hc
    exact HK.out j hj hj
   have HRT:Hid (R=true ↔ TabR (entsD L)):=by
    show _ ↔ _
    rw [HRI.out]
    exact ⟨fun h => h.2.2,fun h => ⟨rfl,HALL.out,h⟩⟩
   have HES:Hid (∀ e ∈ entsD L,EntS 1048576 e):=fun e he => by
    obtain ⟨c,hc,rfl⟩:=List.mem_map.1 he
    have h1:=HSm.out c hc
    obtain ⟨-,-,-,-,g1,g2,g3⟩:=valR_bounds (HALL.out c hc).2.2.1
    exact ⟨by show c.key.size≤_;omega,by show (rvRaw c.value).1.text.size≤_;omega,by show (rvRaw c.value).1.items.length≤_;omega,fun s hs => by have:=g3 s hs;omega⟩
   have hel:(entsD L).length≤1048576:=by rw [entsD_len];omega
   generalize entsD L=M at HO2 HRT HES HZ hel
   have HRW:=hide (buildE_row HO2)
   obtain ⟨aa,ca,rfl⟩:=buildE_form HO2
   clear HO2 HO
   have HTB:=hide (implTableOk_any M aa ca wr R HRT.out hel (rowEnt_rows HRW.out).2 HES.out)
   go_wp2_with fail
   refine HTB.out.mono ?_
   rintro e w6 ⟨rfl,b6⟩
   have W6:=hide ((W1.out.trans (HB.out.mono W1.out.size)).trans (b6.mono (Nat.le_trans W1.out.size HB.out.size)))
   have HR6:=hide (rowEnt_le (rowEnt_below HRW.out b6) W1.out.size)
   clear b6
   cases R
   ·
    go_wp2
    go_ret2
    exact HNO.out (by trivial) _ W6.out _ (.inl ⟨rfl,rfl⟩)
   ·
    have HZ2:Hid (M=Z):=HZ.out
    go_wp2
    go_ret2
    exact ⟨⟨_,rfl,by rw [← HZ2.out];exact HR6.out⟩,W6.out⟩
theorem specTableOf_any (fs:List FileD) (ao ad:Option Addr) (cap cd:Nat) (room act seq:Int) (dir:List SpotD) (w:World) (R:Bool) (hR:R=true ↔ TabOk (engOkB fs room act seq dir) (contE fs room act seq dir)) (hl:fs.length≤1048576) (hfs:FilesAt w ao fs) (hsz:∀ F ∈ fs,F.name.size≤1048576∧F.text.size≤1048576) (hld:dir.length≤1048576) (hds:SpotsAt w ad dir) :
  Calls Tryz.prog 5 #[.agg #[.slice ao fs.length cap,.int .i64 room,.int .i64 act,.int .i64 seq,.slice ad dir.length cd]] w fun e w' => (∃ v,e=.returned (.tuple #[v,.bool R])∧RowEnt w' w.heap.size v (cond R (entsD (contE fs room act seq dir)) []))∧Below w.heap.size w w':=by
 obtain ⟨wb,hwb⟩:∃ wb,wb=w.alloc (.cells #[.slice ao fs.length cap,.int .i64 room,.int .i64 act,.int .i64 seq,.slice ad dir.length cd] 37):=⟨_,rfl⟩
 have BB:Hid (Below w.heap.size w wb):=by rw [hwb];exact (Below.refl _ w).alloc (Nat.le_refl _) _
 have PB:Hid (wb.heap[w.heap.size]? = some (.cells #[.slice ao fs.length cap,.int .i64 room,.int .i64 act,.int .i64 seq,.slice ad dir.length cd] 37 (0,0))):=by rw [hwb];exact heap_alloc_new w _
 have HCO:=hide (specContents_any fs ao ad cap cd room act seq dir wb hl (filesAt_keep hfs BB.out) hsz hld (spotsAt_keep hds BB.out))
 have HRI:=hide hR
 have hLl:(contE fs room act seq dir).length≤1000000:=contE_len fs room act seq dir
 have HSm:=hide (contE_small fs room act seq dir)
 clear hR hfs hds hsz
 generalize contE fs room act seq dir=L at HCO HRI hLl HSm ⊢
 generalize engOkB fs room act seq dir=ok at HCO HRI
 obtain ⟨Z,HZ⟩:∃ Z,Hid (cond R (entsD L) []=Z):=⟨_,rfl⟩
 rw [HZ.out]
 have HNO:Hid (R=false→∀ W,Below w.heap.size w W→∀ v,RowEnt W w.heap.size v []→(∃ v',Ending.returned (.tuple #[v,.bool false])=.returned (.tuple #[v',.bool R])∧RowEnt W w.heap.size v' Z)∧Below w.heap.size w W):=fun h W hW v hv => by
  rw [← HZ.out,h]
  exact ⟨⟨v,rfl,hv⟩,hW⟩
 obtain ⟨z0,z1,z2,z3,z4,-⟩:=five_cells PB.out
 go_enter Tryz.func5,Tryz.ntmps5
 go_upto_region 1 with fail
 rw [← hwb]
 clear hwb
 go_wp2_with fail
 refine HCO.out.mono ?_
 rintro e w1 ⟨⟨v1,rfl,r1⟩,b1⟩
 obtain ⟨a1,c1,rfl,h1⟩:=rowChange_at r1
 have HX:=hide h1
 have W1:=hide (BB.out.trans (b1.mono BB.out.size))
 clear r1 h1 b1 z0 z1 z2 z3 z4 HCO PB BB
 have HRF0:Hid (ok=false→R=false):=fun h => by
  cases hRR:R
  · rfl
  · have:=(HRI.out.1 hRR).1;rw [h] at this;cases this
 go_wp2_with fail
 go_loopw [5,6,7] (fun oo vv ii wr => ∃ (k:Nat) (o:Bool) (M:List EntD),oo=.bool o∧ii=.int .i64 (k:Int)∧k≤L.length∧M.length≤1048576∧Hid (o=true→ok=true∧M=entsD (L.take k)∧∀ j (h:j < L.length),j < k→RvOk L[j].value)∧Hid (o=false→R=false)∧Hid (BuildE wr w1.heap.size vv M)∧Hid (Below w1.heap.size w1 wr)) (fun _ _ ii _ => L.length - (intOf ii).toNat)
 case atStart => exact ⟨0,ok,[],rfl,rfl,by omega,by simp,fun h => ⟨h,rfl,fun j _ hj => absurd hj (by omega)⟩,HRF0,buildE_lit _ _ (Nat.le_refl _) _ rfl,(Below.refl _ _).alloc (Nat.le_refl _) _⟩
 case round =>
  obtain ⟨k,o,M,rfl,rfl,hk,hML,HK,HF,HO,HB⟩:=hrel
  have hws:w.heap.size≤wr.heap.size:=Nat.le_trans W1.out.size HB.out.size
  obtain ⟨aa,ca,rfl⟩:=buildE_form HO.out
  by_cases hlt:k < L.length∧o=true
  ·
   obtain ⟨hlt,rfl⟩:=hlt
   have hlt':decide ((k:Int) < (L.length:Int))=true:=by simp;omega
   obtain ⟨hok,hM,hall⟩:=HK.out rfl
   have HOK:=hide hok
   have HM:=hide hM
   have HAL:=hide hall
   clear hok hM hall
   have KC:Hid (∀ X,Below wr.heap.size wr X→ChangesAt X a1 L):=fun X hX => changesAt_keep HX.out (HB.out.trans (hX.mono HB.out.size))
   obtain ⟨b,off,rfl,hbw,hc0,hc1,hc2⟩:=changesAt_keep HX.out HB.out k hlt
   have HC0:Hid (∀ X,Below wr.heap.size wr X→X.cell? ⟨b,off+k * 3,none⟩=some (.string L[k].key)):=fun X hX => (hX.cell (p:=⟨b,off+k * 3,none⟩) hbw).trans hc0
   clear KC
   have hsA:=HSm.out L[k] (List.getElem_mem hlt)
   obtain ⟨r,Hr⟩:∃ r:Bool,Hid (r=true ↔ RvOk L[k].value):=by classical exact ⟨decide (RvOk L[k].value),by show _ ↔ _;simp⟩
   have HRV:=hide (fun W => specReadVal_any L[k].value W r Hr.out (by omega))
   have HTK:=hide (entsD_take hlt)
   have HNX:Hid (r=true→∀ j (h:j < L.length),j < k+1→RvOk L[j].value):=fun h j hj hjk => by
    by_cases e:j=k
    · subst e;exact Hr.out.1 h
    · exact HAL.out j hj (by omega)
   have HRF:Hid (r=false→R=false):=fun h => by
    cases hRR:R
    · rfl
    · have:=Hr.out.2 ((HRI.out.1 hRR).2.1 L[k] (List.getElem_mem hlt));rw [h] at this;cases this
   generalize L[k]=F at hc0 hc1 hc2 HRV HTK Hr HC0
   clear hsA
   obtain ⟨ky,vl,gn⟩:=F
   simp only at hc0 hc1 hc2 HRV HTK Hr HC0
   have hi0:(0:Int)≤(k:Int):=by omega
   have hi1:(k:Int) < (L.length:Int):=by omega
   have hM0:M.length≤1000000:=by rw [HM.out,entsD_len,List.length_take];omega
   go_wp2_with fail
   refine (HRV.out _).mono ?_
   rintro e w3 ⟨⟨a3,c3,rfl,r3⟩,b3⟩
   obtain ⟨V,HV⟩:∃ V,Hid (cond r (rvRaw vl).1 noVal=V):=⟨_,hide rfl⟩
   rw [HV.out] at r3
   have R3:=hide r3
   have E3:=hide b3
   clear r3 b3
   rw [HV.out]
   obtain ⟨kd,u,t,ts⟩:=V
   simp only at R3
   obtain ⟨w4,hw4⟩:∃ w4,w4=w3.alloc (.cells #[.int .i64 kd,.int .i64 u,.string t,.slice a3 ts.length c3] 51):=⟨_,rfl⟩
   have B34:Hid (Below w3.heap.size w3 w4):=by rw [hw4];exact (Below.refl _ w3).alloc (Nat.le_refl _) _
   have P4:Hid (w4.heap[w3.heap.size]? = some (.cells #[.int .i64 kd,.int .i64 u,.string t,.slice a3 ts.length c3] 51 (0,0))):=by rw [hw4];exact heap_alloc_new _ _
   have E4:=hide (E3.out.trans (B34.out.mono E3.out.size))
   have hBW4:=hide (HB.out.trans (E4.out.mono HB.out.size))
   have R4:=hide (rowText_below R3.out B34.out)
   have x0:=HC0.out _ E4.out
   obtain ⟨y0,y1,y2,y3⟩:=val_cells P4.out
   go_upto_region 7 with fail
   rw [← hw4]
   clear hw4
   have x0d:=HC0.out _ E4.out.drew
   obtain ⟨v0,v1,v2,v3⟩:=val_cells (W:=w4.drew) P4.out
   go_upto_region 8 with fail
   go_region_law ((first | (refine step_app_ent wr _ w1.heap.size (by rfl) _ _ (by rfl) _ (.slice a3 ts.length c3) M ⟨ky,kd,u,t,ts⟩ (by rfl) HO.out HB.out.size (E4.out.drew.alloc E4.out.drew.size _) (rowText_below R4.out ((Below.refl _ w4).drew.alloc (Nat.le_refl _) _)) w4.heap.size (by simp [Act.eval]) (heap_alloc_new w4.drew _) hML ?_;intro g5 cap5 w5 ho5 hb5 hgr5;have HO5:=hide ho5;have HB5:=hide (((hBW4.out).trans (((Below.refl _ w4).drew.alloc (Nat.le_refl _) _).mono hBW4.out.size)).trans hb5);clear ho5 hb5 hgr5) | (refine step_app_ent wr _ w1.heap.size (by rfl) _ _ (by rfl) _ (.slice a3 ts.length c3) M ⟨ky,kd,u,t,ts⟩ (by rfl) HO.out HB.out.size ((E4.out.alloc E4.out.size _).drew) (rowText_below R4.out (((Below.refl _ w4).alloc (Nat.le_refl _) _).drew)) w4.heap.size (by simp [Act.eval]) (heap_alloc_new w4 _) hML ?_;intro g5 cap5 w5 ho5 hb5 hgr5;have HO5:=hide ho5;have HB5:=hide (((hBW4.out).trans ((((Below.refl _ w4).alloc (Nat.le_refl _) _).drew).mono hBW4.out.size)).trans hb5);clear ho5 hb5 hgr5)))
   all_goals
    go_wp2
    go_roundw
    case rel =>
     refine ⟨k+1,r,M ++ [(⟨ky,⟨kd,u,t,ts⟩⟩:EntD)],rfl,by go_num,by omega,by simp;omega,fun h => ⟨HOK.out,?_,HNX.out h⟩,HRF,HO5,HB5⟩
     rw [HTK.out,← HM.out]
     have hv:=HV.out
     rw [h] at hv
     have hv2:(rvRaw vl).1=⟨kd,u,t,ts⟩:=hv
     rw [hv2]
    case measure => simp [intOf];omega
  ·
   have HLIT:Hid (∀ W,Below w.heap.size w W→RowEnt (W.alloc (.cells #[] 57)) w.heap.size (.slice (some ⟨W.heap.size,0,none⟩) 0 0) []):=fun W hW => buildE_row (buildE_lit W _ hW.size _ rfl)
   cases o
   ·
    have hRf:=hide (HF.out rfl)
    have WR:=hide (W1.out.trans (HB.out.mono W1.out.size))
    by_cases hkl:k < L.length
    ·
     have hlt':decide ((k:Int) < (L.length:Int))=true:=by simp;omega
     go_wp2
     go_ret2
     exact HNO.out hRf.out _ (WR.out.alloc WR.out.size _) _ (HLIT.out _ WR.out)
    ·
     have hlt':decide ((k:Int) < (L.length:Int))=false:=by simp;omega
     go_wp2
     go_ret2
     exact HNO.out hRf.out _ (WR.out.alloc WR.out.size _) _ (HLIT.out _ WR.out)
   have hkl:¬ k < L.length:=fun h => hlt ⟨h,rfl⟩
   have hlt':decide ((k:Int) < (L.length:Int))=false:=by simp;omega
   have hke:k=L.length:=by omega
   subst hke
   obtain ⟨hok,hM,hall⟩:=HK.out rfl
   rw [List.take_length] at hM
   have HALL:Hid (∀ c ∈ L,RvOk c.value):=fun c hc => by
    obtain ⟨j,hj,rfl⟩:=List.getElem_of_mem hc
    exact hall j hj hj
   have HRT:Hid (R=true ↔ TabR (entsD L)):=by
    show _ ↔ _
    rw [HRI.out]
    exact ⟨fun h => h.2.2,fun h => ⟨hok,HALL.out,h⟩⟩
   have HES:Hid (∀ e ∈ entsD L,EntS 1048576 e):=fun e he => by
    obtain ⟨c,hc,rfl⟩:=List.mem_map.1 he
    have h1:=HSm.out c hc
    obtain ⟨-,-,-,-,g1,g2,g3⟩:=valR_bounds (HALL.out c hc).2.2.1
    exact ⟨by show c.key.size≤_;omega,by show (rvRaw c.value).1.text.size≤_;omega,by show (rvRaw c.value).1.items.length≤_;omega,fun s hs => by have:=g3 s hs;omega⟩
   rw [← hM] at HRT HES HZ
   clear hok hM hall
   have HRW:=hide (buildE_row HO.out)
   have HTB:=hide (specTableOk_any M aa ca wr R HRT.out hML (rowEnt_rows HRW.out).2 HES.out)
   go_wp2_with fail
   refine HTB.out.mono ?_
   rintro e w6 ⟨rfl,b6⟩
   have W6:=hide ((W1.out.trans (HB.out.mono W1.out.size)).trans (b6.mono (Nat.le_trans W1.out.size HB.out.size)))
   have HR6:=hide (rowEnt_le (rowEnt_below HRW.out b6) W1.out.size)
   clear b6
   cases R
   ·
    go_wp2
    go_ret2
    exact HNO.out (by trivial) _ (W6.out.alloc W6.out.size _) _ (HLIT.out _ W6.out)
   ·
    have HZ2:Hid (M=Z):=HZ.out
    go_wp2
    go_ret2
    exact ⟨⟨_,rfl,by rw [← HZ2.out];exact HR6.out⟩,W6.out⟩
theorem rowF_rowsE {w:World} {B n c:Nat} {a:Option Addr} {fs:List FileD} (h:RowF w B (.slice a n c) fs):FilesAt w a fs:=by
 obtain ⟨ao,cap,e,hf⟩:=rowF_at h
 cases e
 exact hf
theorem szFs_le3:∀ (fs:List FileD) (n:Int),0≤n→szFs fs n≤n
 | [],_,_ => Int.le_refl _
 | F :: r,n,h => by
  unfold szFs
  split
  · omega
  ·
   have:=szF_le F n h
   have:=szFs_le3 r (szF F n) (by omega)
   omega
theorem szEngine_any (fs:List FileD) (ao ad:Option Addr) (cap cd:Nat) (room act seq:Int) (dir:List SpotD) (w:World) (hl:fs.length≤maxLen) (hfs:FilesAt w ao fs) (hsz:∀ F ∈ fs,F.name.size≤maxLen∧F.text.size≤maxLen) (hld:dir.length≤maxLen) (hds:SpotsAt w ad dir) (hszd:∀ A ∈ dir,A.key.size≤maxLen) :
  Calls Tryz.prog 4 #[.agg #[.slice ao fs.length cap,.int .i64 room,.int .i64 act,.int .i64 seq,.slice ad dir.length cd],.int .i64 1048576] w fun e w' => (∃ r:Int,e=.returned (.int .i64 r)∧(0≤r→fs.length≤1048576∧dir.length≤1048576∧(∀ F ∈ fs,F.name.size≤1048576∧F.text.size≤1048576)))∧Below w.heap.size w w':=by
 have HF:=hide hfs
 have HD:=hide hds
 have HSD:=hide (fun W hW => szDisk_any fs ao cap 1048576 W (by decide) (by decide) hl hW hsz)
 clear hfs hds hsz
 obtain ⟨wb,hwb⟩:∃ wb,wb=w.alloc (.cells #[.slice ao fs.length cap,.int .i64 room,.int .i64 act,.int .i64 seq,.slice ad dir.length cd] 27):=⟨_,rfl⟩
 have HB0:Hid (Below w.heap.size w wb):=by rw [hwb];exact (Below.refl _ w).alloc (Nat.le_refl _) _
 have HBK:Hid (wb.heap[w.heap.size]? = some (.cells #[.slice ao fs.length cap,.int .i64 room,.int .i64 act,.int .i64 seq,.slice ad dir.length cd] 27 (0,0))):=by rw [hwb];exact heap_alloc_new w _
 obtain ⟨hz0,hz1,hz2,hz3,hz4,-⟩:=five_cells HBK.out
 go_enter Tryz.func4,Tryz.ntmps4
 go_wp2_with fail
 rw [← hwb]
 clear hwb
 go_wp2_with fail
 refine (HSD.out _ (filesAt_keep HF.out HB0.out)).mono ?_
 rintro e w1 ⟨⟨r,rfl,hr⟩,b1⟩
 have B1:=hide (HB0.out.trans (b1.mono HB0.out.size))
 obtain ⟨hy0,hy1,hy2,hy3,hy4,-⟩:=five_cells ((b1.block _ (heap_lt HBK.out)).trans HBK.out)
 have HR:=hide hr
 clear b1 hr
 by_cases hneg:r < 0
 ·
  have hneg':decide (r < 0)=true:=by simp;omega
  go_wp2
  go_ret
  exact ⟨⟨-1,rfl,fun h => absurd h (by omega)⟩,B1.out⟩
 ·
  have hneg':decide (r < 0)=false:=by simp;omega
  obtain ⟨hr1,hr2⟩:=HR.out (by omega)
  have HZ:=hide (szFs_small fs (1048576 - fs.length) (by omega) (by omega) (by omega))
  have hr3:r≤1048576:=by
   have:=szFs_le3 fs (1048576 - fs.length) (by omega)
   omega
  clear hr1 HR
  have HSS:=hide (fun W hW => szSpotS_any dir ad cd r W (by omega) hr3 hld hW hszd)
  go_wp2_with fail
  refine (HSS.out _ (spotsAt_keep HD.out B1.out)).mono ?_
  rintro e w2 ⟨rfl,b2⟩
  have B2:=hide (B1.out.trans (b2.mono B1.out.size))
  clear b2
  obtain ⟨q,HQ⟩:∃ q,Hid ((if r < dir.length then -1 else szSpotDs dir (r - dir.length))=q):=⟨_,hide rfl⟩
  rw [HQ.out]
  have HQ2:Hid (0≤q→dir.length≤1048576):=fun h => by
   have h1:=HQ.out
   split at h1 <;> omega
  by_cases hq:q < 0
  ·
   have hq':decide (q < 0)=true:=by simp;omega
   go_wp2
   go_ret
   exact ⟨⟨-1,rfl,fun h => absurd h (by omega)⟩,B2.out⟩
  ·
   have hq':decide (q < 0)=false:=by simp;omega
   go_wp2
   go_ret
   exact ⟨⟨q,rfl,fun h => ⟨by omega,HQ2.out h,HZ.out⟩⟩,B2.out⟩
theorem toEngine_row (fs:List FileD) (ao ad:Option Addr) (cap cd:Nat) (room act seq:Int) (dir:List SpotD) (w:World) (hl:fs.length≤1048576) (hfs:FilesAt w ao fs) (hld:dir.length≤1048576) (hds:SpotsAt w ad dir) :
  Calls Tryz.prog 6 #[.agg #[.slice ao fs.length cap,.int .i64 room,.int .i64 act,.int .i64 seq,.slice ad dir.length cd]] w fun e w' => (∃ a1 a2:Option Addr,e=.returned (.agg #[.slice a1 fs.length fs.length,.int .i64 room,.int .i64 act,.int .i64 seq,.slice a2 dir.length dir.length])∧RowF w' w.heap.size (.slice a1 fs.length fs.length) fs∧RowSpot w' w.heap.size (.slice a2 dir.length dir.length) dir)∧Below w.heap.size w w':=by
 have HF:=hide hfs
 have HD:=hide hds
 clear hfs hds
 obtain ⟨wb,hwb⟩:∃ wb,wb=((w.alloc (.cells #[.slice ao fs.length cap,.int .i64 room,.int .i64 act,.int .i64 seq,.slice ad dir.length cd] 27)).alloc (.cells #[.slice none 0 0,.int .i64 0,.int .i64 0,.int .i64 0,.slice none 0 0] 37)).alloc (.cells #[.slice none 0 0,.int .i64 0,.int .i64 0,.int .i64 0,.slice none 0 0] 37):=⟨_,rfl⟩
 have HB0:Hid (Below w.heap.size w wb):=by rw [hwb];exact (((Below.refl _ w).alloc (Nat.le_refl _) _).alloc (by simp) _).alloc (by simp;omega) _
 have hbs:wb.heap.size=w.heap.size+3:=by rw [hwb];simp
 have HBA:Hid (wb.heap[w.heap.size]? = some (.cells #[.slice ao fs.length cap,.int .i64 room,.int .i64 act,.int .i64 seq,.slice ad dir.length cd] 27 (0,0))):=by
  show _=_
  rw [hwb]
  exact (Below.heap_alloc _ _ _ (by simp;omega)).trans ((Below.heap_alloc _ _ _ (by simp)).trans (heap_alloc_new w _))
 have HB1:Hid (wb.heap[w.heap.size+1]? = some (.cells #[.slice none 0 0,.int .i64 0,.int .i64 0,.int .i64 0,.slice none 0 0] 37 (0,0))):=by
  show _=_
  rw [hwb]
  refine (Below.heap_alloc _ _ _ (by simp)).trans ?_
  have:=heap_alloc_new (w.alloc (.cells #[.slice ao fs.length cap,.int .i64 room,.int .i64 act,.int .i64 seq,.slice ad dir.length cd] 27)) (.cells #[.slice none 0 0,.int .i64 0,.int .i64 0,.int .i64 0,.slice none 0 0] 37)
  rwa [World.size_alloc] at this
 have HB2:Hid (wb.heap[w.heap.size+1+1]? = some (.cells #[.slice none 0 0,.int .i64 0,.int .i64 0,.int .i64 0,.slice none 0 0] 37 (0,0))):=by
  show _=_
  rw [hwb]
  have:=heap_alloc_new ((w.alloc (.cells #[.slice ao fs.length cap,.int .i64 room,.int .i64 act,.int .i64 seq,.slice ad dir.length cd] 27)).alloc (.cells #[.slice none 0 0,.int .i64 0,.int .i64 0,.int .i64 0,.slice none 0 0] 37)) (.cells #[.slice none 0 0,.int .i64 0,.int .i64 0,.int .i64 0,.slice none 0 0] 37)
  rwa [World.size_alloc,World.size_alloc] at this
 obtain ⟨ha0,ha1,ha2,ha3,ha4,-⟩:=five_cells HBA.out
 go_enter Tryz.func6,Tryz.ntmps6
 go_wp2_with fail
 rw [← hwb]
 clear hwb
 go_wp2_with fail
 refine (toDisk_any fs ao cap _ hl (filesAt_keep HF.out HB0.out)).mono ?_
 rintro e w1 ⟨⟨g1,C1,rfl,hg1,hC1,hCs1,hI1⟩,b1⟩
 have BB1:=hide b1
 have HF1:=hide (filesAt_own hC1 hI1)
 have hw1:wb.heap.size≤w1.heap.size:=b1.size
 have HA1:=hide ((b1.block _ (heap_lt HBA.out)).trans HBA.out)
 have H11:=hide ((b1.block _ (heap_lt HB1.out)).trans HB1.out)
 have H12:=hide ((b1.block _ (heap_lt HB2.out)).trans HB2.out)
 obtain ⟨hy0,hy1,hy2,hy3,hy4,-⟩:=five_cells HA1.out
 obtain ⟨hx0,hx1,hx2,hx3,hx4,hf0,hf1,hf2,hf3,hf4⟩:=five_cells H12.out
 have HC1:=hide hC1
 have HI1:=hide hI1
 clear b1 hC1 hI1 ha0 ha1 ha2 ha3 ha4
 obtain ⟨W4,hW4⟩:∃ W,W=(((w1.setCell ⟨w.heap.size+1+1,0,none⟩ (.slice (some ⟨g1,0,none⟩) fs.length fs.length)).setCell ⟨w.heap.size+1+1,1,none⟩ (.int .i64 room)).setCell ⟨w.heap.size+1+1,2,none⟩ (.int .i64 act)).setCell ⟨w.heap.size+1+1,3,none⟩ (.int .i64 seq):=⟨_,rfl⟩
 have G4:Hid (w1.grownBy W4 (some (w.heap.size+1+1))):=by rw [hW4];exact grownBy_store (grownBy_store (grownBy_store (grownBy_store (World.grownBy.refl w1 _) 0 _) 1 _) 2 _) 3 _
 have H42:Hid (W4.heap[w.heap.size+1+1]? = some (.cells #[.slice (some ⟨g1,0,none⟩) fs.length fs.length,.int .i64 room,.int .i64 act,.int .i64 seq,.slice none 0 0] 37 (0,0))):=by
  have c0:=(heap_setCell_same w1 (w.heap.size+1+1) 0 _ _ (.slice (some ⟨g1,0,none⟩) fs.length fs.length) H12.out).trans rfl
  have c1:=(heap_setCell_same _ (w.heap.size+1+1) 1 _ _ (.int .i64 room) c0).trans rfl
  have c2:=(heap_setCell_same _ (w.heap.size+1+1) 2 _ _ (.int .i64 act) c1).trans rfl
  have c3:=(heap_setCell_same _ (w.heap.size+1+1) 3 _ _ (.int .i64 seq) c2).trans rfl
  rw [hW4]
  show _=_
  rw [c3]
  rfl
 have H41:=hide ((G4.out.block _ (heap_lt H11.out) (by simp)).trans H11.out)
 have HC4:=hide ((G4.out.block _ (heap_lt HC1.out) (by simp;omega)).trans HC1.out)
 have B04:Hid (Below w.heap.size w W4):=(HB0.out.trans (BB1.out.mono HB0.out.size)).grown G4.out (by have:=HB0.out.size;omega) (fun k hk => by cases hk;omega)
 have hs4:w1.heap.size≤W4.heap.size:=G4.out.size
 go_wp2_with fail
 rw [← hW4]
 clear hW4 hy0 hy1 hy2 hy3 hy4 hx0 hx1 hx2 hx3 hx4 hf0 hf1 hf2 hf3 hf4
 refine (toSpotS_any dir ad cd _ hld (spotsAt_keep HD.out B04.out)).mono ?_
 rintro e w2 ⟨⟨C2,rfl,hC2,hCs2,hI2⟩,b2⟩
 have B02:=hide (B04.out.trans (b2.mono B04.out.size))
 have HS2:=hide hC2
 have HI2:=hide hI2
 have H22:=hide ((b2.block _ (heap_lt H42.out)).trans H42.out)
 have H21:=hide ((b2.block _ (heap_lt H41.out)).trans H41.out)
 have HC2':=hide ((b2.block _ (heap_lt HC4.out)).trans HC4.out)
 have hs2:=b2.size
 obtain ⟨hx0,hx1,hx2,hx3,hx4,hf0,hf1,hf2,hf3,hf4⟩:=five_cells H22.out
 clear b2 hC2 hI2
 obtain ⟨W5,hW5⟩:∃ W,W=w2.setCell ⟨w.heap.size+1+1,4,none⟩ (.slice (some ⟨W4.heap.size,0,none⟩) dir.length dir.length):=⟨_,rfl⟩
 have G5:Hid (w2.grownBy W5 (some (w.heap.size+1+1))):=by rw [hW5];exact grownBy_store (World.grownBy.refl w2 _) 4 _
 have H52:Hid (W5.heap[w.heap.size+1+1]? = some (.cells #[.slice (some ⟨g1,0,none⟩) fs.length fs.length,.int .i64 room,.int .i64 act,.int .i64 seq,.slice (some ⟨W4.heap.size,0,none⟩) dir.length dir.length] 37 (0,0))):=by
  have c0:=(heap_setCell_same w2 (w.heap.size+1+1) 4 _ _ (.slice (some ⟨W4.heap.size,0,none⟩) dir.length dir.length) H22.out).trans rfl
  rw [hW5]
  show _=_
  rw [c0]
  rfl
 have H51:=hide ((G5.out.block _ (heap_lt H21.out) (by simp)).trans H21.out)
 have HC5:=hide ((G5.out.block _ (heap_lt HC2'.out) (by simp;omega)).trans HC2'.out)
 have HS5:=hide ((G5.out.block _ (heap_lt HS2.out) (by simp;omega)).trans HS2.out)
 have B05:Hid (Below w.heap.size w W5):=B02.out.grown G5.out (by have:=B02.out.size;omega) (fun k hk => by cases hk;omega)
 obtain ⟨hv0,hv1,hv2,hv3,hv4,-⟩:=five_cells H52.out
 obtain ⟨hu0,hu1,hu2,hu3,hu4,hk0,hk1,hk2,hk3,hk4⟩:=five_cells H51.out
 subst hW5
 go_wp2
 obtain ⟨y0,y1,y2⟩:=box5 (.slice (some ⟨g1,0,none⟩) fs.length fs.length) (.int .i64 room) (.int .i64 act) (.int .i64 seq) (.slice (some ⟨W4.heap.size,0,none⟩) dir.length dir.length) H51.out B05.out (Nat.le_succ _) _ rfl
 obtain ⟨x0,x1,x2,x3,x4,-⟩:=five_cells y0
 refine bodyPost_ret (v:=.agg #[.slice (some ⟨g1,0,none⟩) fs.length fs.length,.int .i64 room,.int .i64 act,.int .i64 seq,.slice (some ⟨W4.heap.size,0,none⟩) dir.length dir.length]) ?_ rfl ?_
 · simp [results,Tryz.results6,go_sem,x0,x1,x2,x3,x4]
 · exact ⟨⟨_,_,rfl,.inr ⟨g1,fs.length,C1,rfl,by omega,(y2.block _ (heap_lt HC5.out) (by simp;omega)).trans HC5.out,by omega,HI1.out⟩,.inr ⟨W4.heap.size,dir.length,C2,rfl,by omega,(y2.block _ (heap_lt HS5.out) (by simp;omega)).trans HS5.out,by omega,HI2.out⟩⟩,y1⟩
theorem toEngine_any (fs:List FileD) (ao ad:Option Addr) (cap cd:Nat) (room act seq:Int) (dir:List SpotD) (w:World) (hl:fs.length≤1048576) (hfs:FilesAt w ao fs) (hld:dir.length≤1048576) (hds:SpotsAt w ad dir) :
  Calls Tryz.prog 6 #[.agg #[.slice ao fs.length cap,.int .i64 room,.int .i64 act,.int .i64 seq,.slice ad dir.length cd]] w fun e w' => (∃ a1 a2:Option Addr,e=.returned (.agg #[.slice a1 fs.length fs.length,.int .i64 room,.int .i64 act,.int .i64 seq,.slice a2 dir.length dir.length])∧FilesAt w' a1 fs∧SpotsAt w' a2 dir)∧Below w.heap.size w w':=by
 refine (toEngine_row fs ao ad cap cd room act seq dir w hl hfs hld hds).mono ?_
 rintro e w' ⟨⟨a1,a2,h1,h2,h3⟩,h4⟩
 refine ⟨⟨a1,a2,h1,?_,rowSpot_rows h3⟩,h4⟩
 obtain ⟨ao',cap',e',hf⟩:=rowF_at h2
 cases e'
 exact hf
theorem eqEngine_same (fs:List FileD) (a1 a2 d1 d2:Option Addr) (c1 c2 e1 e2:Nat) (room act seq:Int) (dir:List SpotD) (w:World) (hl:fs.length≤maxLen) (h1:FilesAt w a1 fs) (h2:FilesAt w a2 fs) (hld:dir.length≤maxLen) (h3:SpotsAt w d1 dir) (h4:SpotsAt w d2 dir) :
  Calls Tryz.prog 9 #[.agg #[.slice a1 fs.length c1,.int .i64 room,.int .i64 act,.int .i64 seq,.slice d1 dir.length e1],.agg #[.slice a2 fs.length c2,.int .i64 room,.int .i64 act,.int .i64 seq,.slice d2 dir.length e2]] w fun e w' => e=.returned (.bool true)∧Below w.heap.size w w':=by
 have H1:=hide h1
 have H2:=hide h2
 have H3:=hide h3
 have H4:=hide h4
 clear h1 h2 h3 h4
 obtain ⟨wb,hwb⟩:∃ wb,wb=(w.alloc (.cells #[.slice a1 fs.length c1,.int .i64 room,.int .i64 act,.int .i64 seq,.slice d1 dir.length e1] 37)).alloc (.cells #[.slice a2 fs.length c2,.int .i64 room,.int .i64 act,.int .i64 seq,.slice d2 dir.length e2] 37):=⟨_,rfl⟩
 have HB0:Hid (Below w.heap.size w wb):=by rw [hwb];exact ((Below.refl _ w).alloc (Nat.le_refl _) _).alloc (by simp) _
 have HBA:Hid (wb.heap[w.heap.size]? = some (.cells #[.slice a1 fs.length c1,.int .i64 room,.int .i64 act,.int .i64 seq,.slice d1 dir.length e1] 37 (0,0))):=by
  show _=_
  rw [hwb]
  exact (Below.heap_alloc _ _ _ (by simp)).trans (heap_alloc_new w _)
 have HBB:Hid (wb.heap[w.heap.size+1]? = some (.cells #[.slice a2 fs.length c2,.int .i64 room,.int .i64 act,.int .i64 seq,.slice d2 dir.length e2] 37 (0,0))):=by
  show _=_
  rw [hwb]
  have:=heap_alloc_new (w.alloc (.cells #[.slice a1 fs.length c1,.int .i64 room,.int .i64 act,.int .i64 seq,.slice d1 dir.length e1] 37)) (.cells #[.slice a2 fs.length c2,.int .i64 room,.int .i64 act,.int .i64 seq,.slice d2 dir.length e2] 37)
  rwa [World.size_alloc] at this
 go_enter Tryz.func9,Tryz.ntmps9
 go_wp2_with fail
 rw [← hwb]
 clear hwb
 refine (eqDisk_same fs a1 a2 c1 c2 _ hl (filesAt_keep H1.out HB0.out) (filesAt_keep H2.out HB0.out)).mono ?_
 rintro e w1 ⟨rfl,b1⟩
 have B1:=hide (HB0.out.trans (b1.mono HB0.out.size))
 obtain ⟨hy0,hy1,hy2,hy3,hy4,-⟩:=five_cells ((b1.block _ (heap_lt HBA.out)).trans HBA.out)
 obtain ⟨hx0,hx1,hx2,hx3,hx4,-⟩:=five_cells ((b1.block _ (heap_lt HBB.out)).trans HBB.out)
 have hn1:(room != room)=false:=by simp
 have hn2:(act != act)=false:=by simp
 have hn3:(seq != seq)=false:=by simp
 clear b1
 go_wp2_with fail
 refine (eqSpotS_same dir d1 d2 e1 e2 _ hld (spotsAt_keep H3.out B1.out) (spotsAt_keep H4.out B1.out)).mono ?_
 rintro e w2 ⟨rfl,b2⟩
 go_wp2
 go_ret
 exact ⟨rfl,B1.out.trans (b2.mono B1.out.size)⟩
end Go.Proofs.YtbenmgokhklnjaaGreatDoor
