import Derived.Lib.SmallJoins
import Derived.OpenShut
import Derived.Test.YtbenmgokhklnjaaGreatDoorTb32
import Derived.Test.YtbenmgokhklnjaaGreatDoorTb33
import Derived.Test.YtbenmgokhklnjaaGreatDoorTb34
import Derived.Test.YtbenmgokhklnjaaGreatDoorTb20
import Derived.Test.YtbenmgokhklnjaaGreatDoorTb2
import Derived.Test.YtbenmgokhklnjaaGreatDoorTb1
set_option maxRecDepth 100000
set_option maxHeartbeats 1600000
namespace Go.Proofs.YtbenmgokhklnjaaGreatDoor
open Go.RowKit
def contE (fs:List FileD) (room act seq:Int) (dir:List SpotD):List ChangeD:=bif engOkB fs room act seq dir then contD fs dir else []
theorem contE_yes {fs:List FileD} {room act seq:Int} {dir:List SpotD} (h:engOkB fs room act seq dir=true):contE fs room act seq dir=contD fs dir:=by
 unfold contE
 rw [h]
 rfl
theorem contE_no {fs:List FileD} {room act seq:Int} {dir:List SpotD} (h:engOkB fs room act seq dir=false):contE fs room act seq dir=[]:=by
 unfold contE
 rw [h]
 rfl
theorem contE_len (fs:List FileD) (room act seq:Int) (dir:List SpotD):(contE fs room act seq dir).length≤1000000:=by
 cases h:engOkB fs room act seq dir with
 | false => rw [contE_no h];exact Nat.zero_le _
 | true =>
  have:=(engOkB_iff.1 h).2.2.2.2.2
  rw [contE_yes h,contD_len,← this]
  have:=dirD_len fs
  omega
theorem implContents_any (fs:List FileD) (ao ad:Option Addr) (cap cd:Nat) (room act seq:Int) (dir:List SpotD) (w:World) (hl:fs.length≤1048576) (hfs:FilesAt w ao fs) (hsz:∀ F ∈ fs,F.name.size≤1048576∧F.text.size≤1048576) (_hld:dir.length≤1048576) (hds:SpotsAt w ad dir) (hT:SumTab w) :
  Calls Tryz.prog 20 #[.agg #[.slice ao fs.length cap,.int .i64 room,.int .i64 act,.int .i64 seq,.slice ad dir.length cd]] w fun e w' => (∃ v,e=.returned (.tuple #[v,.bool (engOkB fs room act seq dir)])∧RowChange w' w.heap.size v (contE fs room act seq dir))∧Below w.heap.size w w':=by
 have HSO:=hide (fun W h1 h2 hT => storeOf_any fs ao ad cap cd room act seq dir W hl h1 hsz h2 hT)
 have HUS:=hide (fun wB g vd vr vs W => contents_any fs room wB g vd vr vs W hl hsz)
 have HF:=hide hfs
 have HD:=hide hds
 have HT:=hide hT
 clear hfs hds hsz hT
 obtain ⟨wb,hwb⟩:∃ wb,wb=w.alloc (.cells #[.slice ao fs.length cap,.int .i64 room,.int .i64 act,.int .i64 seq,.slice ad dir.length cd] 37):=⟨_,rfl⟩
 have HB0:Hid (Below w.heap.size w wb):=by rw [hwb];exact (Below.refl _ w).alloc (Nat.le_refl _) _
 obtain ⟨R,HR⟩:∃ R,Hid (contE fs room act seq dir=R):=⟨_,hide rfl⟩
 obtain ⟨K,HK⟩:∃ K,Hid (engOkB fs room act seq dir=K):=⟨_,hide rfl⟩
 rw [HR.out,HK.out]
 go_enter Tryz.func20,Tryz.ntmps20
 go_wp2_with fail
 rw [← hwb]
 clear hwb
 refine (HSO.out _ (filesAt_keep HF.out HB0.out) (spotsAt_keep HD.out HB0.out) (sumTab_later HB0.out HT.out)).mono ?_
 rintro e w1 ⟨b1,⟨he,g,vd,vr,vs,rfl,hst⟩ | ⟨he,s,rfl⟩⟩
 ·
  have hR:Hid (contD fs (dirD fs)=R):=by show _=_;rw [← HR.out,contE_yes (engOkB_yes he),he.2.2.2.2.2]
  have hK:Hid (K=true):=HK.out.symm.trans (engOkB_yes he)
  have HST:=hide hst
  have HC:=hide he.2.2.1
  have HW1:=hide (HB0.out.trans (b1.mono HB0.out.size))
  have HB1:=hide b1
  have HTB:=hide (sumTab_later HB0.out HT.out)
  have HUV:=hide (HUS.out wb g vd vr vs _ HST.out HC.out HB1.out HTB.out)
  rw [hR.out] at HUV
  clear hst he b1
  go_wp2_with fail
  refine HUV.out.mono ?_
  rintro e w2 ⟨⟨v2,rfl,r2⟩,b2⟩
  have R2:=hide (rowChange_le r2 HB0.out.size)
  clear r2
  go_wp2
  refine bodyPost_ret (results_tmp2 rfl _ _ _) rfl ?_
  rw [hK.out]
  exact ⟨⟨_,rfl,R2.out⟩,HW1.out.trans (b2.mono HB0.out.size)⟩
 ·
  have hR:Hid (R=[]):=HR.out.symm.trans (contE_no (engOkB_no he))
  have hK:Hid (K=false):=HK.out.symm.trans (engOkB_no he)
  go_wp2
  refine bodyPost_ret (results_tmp2 rfl _ _ _) rfl ?_
  rw [hK.out,hR.out]
  exact ⟨⟨_,rfl,.inl ⟨rfl,rfl⟩⟩,HB0.out.trans (b1.mono HB0.out.size)⟩
theorem specContents_any (fs:List FileD) (ao ad:Option Addr) (cap cd:Nat) (room act seq:Int) (dir:List SpotD) (w:World) (hl:fs.length≤1048576) (hfs:FilesAt w ao fs) (hsz:∀ F ∈ fs,F.name.size≤1048576∧F.text.size≤1048576) (hld:dir.length≤1048576) (hds:SpotsAt w ad dir) :
  Calls Tryz.prog 15 #[.agg #[.slice ao fs.length cap,.int .i64 room,.int .i64 act,.int .i64 seq,.slice ad dir.length cd]] w fun e w' => (∃ v,e=.returned (.tuple #[v,.bool (engOkB fs room act seq dir)])∧RowChange w' w.heap.size v (contE fs room act seq dir))∧Below w.heap.size w w':=by
 have HEO:=hide (fun W h1 h2 => specEngineOk_any fs ao ad cap cd room act seq dir W hl h1 hsz hld h2)
 have HUS:=hide (fun s W h => specValueOf_any fs ao cap s W hl h hsz)
 have HF:=hide hfs
 have HD:=hide hds
 clear hfs hds hsz
 obtain ⟨wb,hwb⟩:∃ wb,wb=(w.alloc (.cells #[.slice ao fs.length cap,.int .i64 room,.int .i64 act,.int .i64 seq,.slice ad dir.length cd] 37)).alloc (.cells #[] 55):=⟨_,rfl⟩
 have HB0:Hid (Below w.heap.size w wb):=by rw [hwb];exact ((Below.refl _ w).alloc (Nat.le_refl _) _).alloc (by simp) _
 have hbs:wb.heap.size=w.heap.size+2:=by rw [hwb];simp
 have HBK:Hid (wb.heap[w.heap.size]? = some (.cells #[.slice ao fs.length cap,.int .i64 room,.int .i64 act,.int .i64 seq,.slice ad dir.length cd] 37 (0,0))):=by
  show _=_
  rw [hwb]
  exact (Below.heap_alloc _ _ _ (by simp)).trans (heap_alloc_new w _)
 have HO0:Hid (wb.ownsRow (w.heap.size+1) 55 3 (.slice (some ⟨w.heap.size+1,0,none⟩) 0 0) 0 []):=by
  rw [hwb]
  have:=World.ownsRow_lit (e:=55) (size:=3) (w.alloc (.cells #[.slice ao fs.length cap,.int .i64 room,.int .i64 act,.int .i64 seq,.slice ad dir.length cd] 37)) #[] 0 (Nat.le_refl _) (by unfold maxLen;omega) (by simp)
  show World.ownsRow _ _ _ _ _ _ _
  simpa using this
 obtain ⟨R,HR⟩:∃ R,Hid (contE fs room act seq dir=R):=⟨_,hide rfl⟩
 obtain ⟨K,HK⟩:∃ K,Hid (engOkB fs room act seq dir=K):=⟨_,hide rfl⟩
 rw [HK.out] at HEO
 rw [HR.out,HK.out]
 go_enter Tryz.func15,Tryz.ntmps15
 go_wp2_with fail
 rw [← hwb]
 obtain ⟨hz0,hz1,hz2,hz3,hz4,-⟩:=five_cells HBK.out
 clear hwb
 go_wp2_with fail
 refine (HEO.out _ (filesAt_keep HF.out HB0.out) (spotsAt_keep HD.out HB0.out)).mono ?_
 rintro e w1 ⟨rfl,b1⟩
 have HW1:=hide (HB0.out.trans (b1.mono HB0.out.size))
 have HBK1:=hide ((b1.block _ (heap_lt HBK.out)).trans HBK.out)
 have O1:=hide (ownsRow_below HO0.out b1)
 have hs1:wb.heap.size≤w1.heap.size:=b1.size
 clear hz0 hz1 hz2 hz3 hz4 b1
 obtain ⟨hy0,hy1,hy2,hy3,hy4,-⟩:=five_cells HBK1.out
 cases K with
 | true =>
  have hR:Hid (contD fs dir=R):=(contE_yes HK.out).symm.trans HR.out
  have hdl:dir.length≤1000000:=by
   have:=(engOkB_iff.1 HK.out).2.2.2.2.2
   rw [← this]
   have:=dirD_len fs
   omega
  go_wp2_with fail
  go_loopw [4,5] (fun vo ii wr => ∃ (k:Nat),ii=.int .i64 k∧k≤dir.length∧Hid (wr.ownsRow (w.heap.size+1) 55 3 vo (contD fs (dir.take k)).length (cellsChange (contD fs (dir.take k))))∧Hid (Below (w.heap.size+1) w1 wr)) (fun _ ii _ => dir.length - (intOf ii).toNat)
  case atStart => exact ⟨0,rfl,Nat.zero_le _,O1,Below.refl _ _⟩
  case round =>
   obtain ⟨k,rfl,hk,HO,HB⟩:=hrel
   have hws:=HB.out.size
   have HBK2:=hide ((HB.out.block _ (by omega)).trans HBK1.out)
   obtain ⟨hx0,hx1,hx2,hx3,hx4,-⟩:=five_cells HBK2.out
   have HWr:=hide (HW1.out.trans (HB.out.mono (Nat.le_succ _)))
   by_cases hlt:k < dir.length
   ·
    have hlt':decide ((k:Int) < (dir.length:Int))=true:=by simp;omega
    obtain ⟨b,off,rfl,hbw,hc0,hc1,hc2,hc3⟩:=spotsAt_keep HD.out HWr.out k hlt
    have htk:=hide (contD_take (fs:=fs) hlt)
    generalize dir[k]=A at hc0 hc1 hc2 hc3 htk
    obtain ⟨L,HL⟩:∃ L,Hid (contD fs (dir.take k)=L):=⟨_,hide rfl⟩
    have hLl:L.length≤1048576:=by
     rw [← HL.out,contD_len,List.length_take]
     omega
    rw [HL.out] at HO htk
    have hi0:(0:Int)≤(k:Int):=by omega
    have hi1:(k:Int) < (dir.length:Int):=by omega
    obtain ⟨V,HV⟩:∃ R,Hid (valD fs A=R):=⟨_,hide rfl⟩
    rw [HV.out] at htk
    have hbl:w.heap.size < wr.heap.size:=heap_lt HBK2.out
    have KS:Hid (∀ X,Below wr.heap.size wr X→(X.cell? ⟨w.heap.size,0,none⟩=some (.slice ao fs.length cap)∧X.cell? ⟨w.heap.size,4,none⟩=some (.slice (some ⟨b,off,none⟩) dir.length cd)∧X.cell? ⟨b,off+k * 4,none⟩=some (.string A.key)∧X.cell? ⟨b,off+k * 4+1,none⟩=some (.int .i64 A.seg)∧X.cell? ⟨b,off+k * 4+2,none⟩=some (.int .i64 A.pos)∧X.cell? ⟨b,off+k * 4+3,none⟩=some (.int .i64 A.seq))):=fun X hX => ⟨(hX.cell (p:=⟨w.heap.size,0,none⟩) hbl).trans hx0,(hX.cell (p:=⟨w.heap.size,4,none⟩) hbl).trans hx4,(hX.cell (p:=⟨b,off+k * 4,none⟩) hbw).trans hc0,(hX.cell (p:=⟨b,off+k * 4+1,none⟩) hbw).trans hc1,(hX.cell (p:=⟨b,off+k * 4+2,none⟩) hbw).trans hc2,(hX.cell (p:=⟨b,off+k * 4+3,none⟩) hbw).trans hc3⟩
    have HVA:Hid (∀ X,Below wr.heap.size wr X→Calls Tryz.prog 34 #[.agg #[.slice ao fs.length cap],.agg #[.string A.key,.int .i64 A.seg,.int .i64 A.pos,.int .i64 A.seq]] X fun e w' => e=.returned (.tuple #[.string (outTx V),.bool V.isSome])∧Below X.heap.size X w'):=fun X hX => by
     have h:=HUS.out A X (filesAt_keep HF.out (HWr.out.trans (hX.mono HWr.out.size)))
     rw [HV.out] at h
     exact h
    go_wp2_with fail
    go_region_held3 (fun w' => w'.cell? ⟨w.heap.size,0,none⟩=some (.slice ao fs.length cap)∧w'.cell? ⟨w.heap.size,4,none⟩=some (.slice (some ⟨b,off,none⟩) dir.length cd)∧w'.cell? ⟨b,off+k * 4,none⟩=some (.string A.key)∧w'.cell? ⟨b,off+k * 4+1,none⟩=some (.int .i64 A.seg)∧w'.cell? ⟨b,off+k * 4+2,none⟩=some (.int .i64 A.pos)∧w'.cell? ⟨b,off+k * 4+3,none⟩=some (.int .i64 A.seq)) ((refine KS.out _ ?_;first | (exact e2) | (exact (Below.refl _ _).drew) | fail)) ((go_at_call 34;refine (HVA.out _ ?_).mono ?_;exact (Below.refl _ _).drew;rintro e w2 ⟨rfl,b2⟩;have e2:Below wr.heap.size wr w2:=((Below.refl _ _).drew).trans b2))
    have E2:=hide e2
    have he2:=e2.size
    obtain ⟨hq0,hq1,hq2,-⟩:=KS.out _ e2
    clear e2 b2 KS HVA hx0 hx1 hx2 hx3 hx4 hc0 hc1 hc2 hc3
    go_wp2_with (at_builtin;refine app_change _ (w.heap.size+1) (by rfl) _ _ (by rfl) _ L ⟨A.key,outTx V,false⟩ (by rfl) ((ownsRow_below HO.out E2.out).alloc _) w2.heap.size (by rfl) (heap_alloc_new w2 _) hLl (by simp;omega) ?_;intro g5 cap5 w5 ho5 hb5 hg5 hgl5;have HO5:=hide ho5;have HB5:=hide hb5;clear ho5 hb5 hg5 hgl5)
    go_roundw
    case rel =>
     refine ⟨k+1,by go_num,by omega,?_,((HB.out.trans (E2.out.mono (by omega))).alloc (by omega) _).trans HB5.out⟩
     show World.ownsRow _ _ _ _ _ _ _
     rw [htk.out]
     exact HO5.out
    case measure => simp [intOf];omega
   ·
    have hlt':decide ((k:Int) < (dir.length:Int))=false:=by simp;omega
    have hke:k=dir.length:=by omega
    subst hke
    rw [List.take_length,hR.out] at HO
    go_wp2
    refine bodyPost_ret (results_tmp2 rfl _ _ _) rfl ?_
    exact ⟨⟨_,rfl,rowChange_own (ownsRow_mono HO.out (Nat.le_succ _))⟩,HWr.out⟩
 | false =>
  have hR:Hid (R=[]):=HR.out.symm.trans (contE_no HK.out)
  go_wp2
  refine bodyPost_ret (results_tmp2 rfl _ _ _) rfl ?_
  rw [hR.out]
  exact ⟨⟨_,rfl,rowChange_own (fs:=[]) (ownsRow_mono O1.out (Nat.le_succ _))⟩,HW1.out⟩
structure ValD where
 kind:Int
 til:Int
 text:ByteArray
 items:List ByteArray
def Asc (L:List ByteArray):Prop:=∀ j (h:j+1 < L.length),Op.bytesLess L[j].toList L[j+1].toList=true
def AscF (L:List ByteArray):Prop:=∀ j (h:j+2 < L.length),j % 2=0→Op.bytesLess L[j].toList L[j+2].toList=true
def Small (L:List ByteArray):Prop:=∀ s ∈ L,s.size≤60
def TextsR (L:List ByteArray):Prop:=1≤L.length∧L.length≤24∧Small L
def KindR (v:ValD):Prop:=(v.kind=1∧v.items.length=0∧v.text.size≤60) ∨
 (v.kind=2∧v.text.size=0∧TextsR v.items) ∨ (v.kind=3∧v.text.size=0∧TextsR v.items∧v.items.length % 2=0∧AscF v.items) ∨ (v.kind=4∧v.text.size=0∧TextsR v.items∧Asc v.items)
def ValR (v:ValD):Prop:=0≤v.til∧v.til≤100000∧KindR v
def evN (L:List ByteArray) (k:Nat):List ByteArray:=(List.range k).map (fun j => L.getD (2 * j) ⟨#[]⟩)
theorem evN_length (L:List ByteArray) (k:Nat):(evN L k).length=k:=by simp [evN]
theorem evN_get (L:List ByteArray) (k j:Nat) (h:j < (evN L k).length) (h2:2 * j < L.length):(evN L k)[j]=L[2 * j]:=by
 simp [evN,List.getD,List.getElem?_eq_getElem h2]
theorem evN_succ (L:List ByteArray) (k:Nat) (h:2 * k < L.length):evN L (k+1)=evN L k ++ [L[2 * k]]:=by
 simp [evN,List.range_succ,List.getD,List.getElem?_eq_getElem h]
theorem evN_asc (L:List ByteArray):Asc (evN L ((L.length+1) / 2)) ↔ AscF L:=by
 constructor
 ·
  intro h j hj h2
  have hl:=evN_length L ((L.length+1) / 2)
  have:=h (j / 2) (by omega)
  rw [evN_get L _ _ _ (by omega),evN_get L _ _ _ (by omega)] at this
  have e1:2 * (j / 2)=j:=by omega
  have e2:2 * (j / 2+1)=j+2:=by omega
  simp only [e1,e2] at this
  exact this
 ·
  intro h j hj
  have hl:=evN_length L ((L.length+1) / 2)
  rw [evN_get L _ _ _ (by omega),evN_get L _ _ _ (by omega)]
  exact h (2 * j) (by omega) (by omega)
def textsL:List ByteArray→List UInt8
 | [] => []
 | s :: r => (shortB s).data.toList ++ textsL r
theorem textsL_snoc:∀ (a:List ByteArray) (s:ByteArray),textsL (a ++ [s])=textsL a ++ (shortB s).data.toList
 | [],s => by simp [textsL]
 | A :: r,s => by simp [textsL,textsL_snoc r s]
theorem textsL_take {L:List ByteArray} {k:Nat} (h:k < L.length):textsL (L.take (k+1))=textsL (L.take k) ++ (shortB L[k]).data.toList:=by
 rw [List.take_succ_eq_append_getElem h,textsL_snoc]
theorem textsL_len:∀ (L:List ByteArray),(∀ s ∈ L,s.size≤60)→(textsL L).length≤65 * L.length
 | [],_ => by simp [textsL]
 | s :: r,h => by
  have h1:=h s (List.mem_cons_self ..)
  have h2:=textsL_len r (fun x hx => h x (List.mem_cons_of_mem _ hx))
  have h3:=shortB_size s
  have e:(shortB s).data.toList.length=(shortB s).size:=rfl
  rw [textsL,List.length_append,e,List.length_cons]
  omega
def headV (v:ValD):ByteArray:=⟨#[UInt8.ofNat v.kind.toNat]⟩ ++ ⟨(Wd.varF 5 v.til.toNat).toArray⟩ ++ shortB v.text ++ ⟨(Wd.varF 5 v.items.length).toArray⟩
def valT (v:ValD):ByteArray:=⟨((headV v).data.toList ++ textsL v.items).toArray⟩
theorem headV_size (v:ValD):(headV v).size≤v.text.size+16:=by
 have h1:=Wd.varF_length 5 v.til.toNat
 have h2:=Wd.varF_length 5 v.items.length
 have h3:=shortB_size v.text
 have e:(⟨#[UInt8.ofNat v.kind.toNat]⟩:ByteArray).size=1:=rfl
 rw [headV,ByteArray.size_append,ByteArray.size_append,ByteArray.size_append,e,size_of_list (Wd.varF 5 v.til.toNat),size_of_list (Wd.varF 5 v.items.length)]
 omega
theorem kindR_one {v:ValD} (h:KindR v):1≤v.kind∧v.kind≤4:=by
 rcases h with h | h | h | h
 all_goals (have:=h.1;omega)
theorem valR_bounds {v:ValD} (h:ValR v):1≤v.kind∧v.kind≤4∧0≤v.til∧v.til≤100000∧v.text.size≤60∧v.items.length≤24∧∀ s ∈ v.items,s.size≤60:=by
 obtain ⟨h1,h2,h3⟩:=h
 have h4:=kindR_one h3
 refine ⟨h4.1,h4.2,h1,h2,?_⟩
 rcases h3 with h | h | h | h
 ·
  refine ⟨h.2.2,by omega,fun s hs => ?_⟩
  rw [List.eq_nil_of_length_eq_zero h.2.1] at hs
  exact absurd hs List.not_mem_nil
 · exact ⟨by omega,h.2.2.2.1,h.2.2.2.2⟩
 · exact ⟨by omega,h.2.2.1.2.1,h.2.2.1.2.2⟩
 · exact ⟨by omega,h.2.2.1.2.1,h.2.2.1.2.2⟩
theorem kind_byte {k:Int} (h0:1≤k) (h1:k≤4):bv (UInt8.ofNat k.toNat)=.int .u8 k:=by
 unfold bv
 congr 1
 simp only [UInt8.toNat_ofNat']
 omega
theorem eqStringS_same (ts:List ByteArray) (ao ao2:Option Addr) (cap cap2:Nat) (w:World) (hl:ts.length≤maxLen) (h1:TextsAt w ao ts) (h2:TextsAt w ao2 ts) :
  Calls Tryz.prog 73 #[.slice ao ts.length cap,.slice ao2 ts.length cap2] w fun e w' => e=.returned (.bool true)∧Below w.heap.size w w':=by
 have H1:=hide h1
 have H2:=hide h2
 clear h1 h2
 unfold maxLen at hl
 have hne:(!((ts.length:Int) == (ts.length:Int)))=false:=by simp
 go_enter Tryz.func73,Tryz.ntmps73
 go_wp2
 go_loopw [5] (fun ii wr => ∃ (k q:Nat),ii=.int .i64 k∧k≤ts.length∧wr=w.drewN q) (fun ii _ => ts.length - (intOf ii).toNat)
 case atStart => exact ⟨0,0,rfl,Nat.zero_le _,rfl⟩
 case round =>
  obtain ⟨k,q,rfl,hk,rfl⟩:=hrel
  by_cases hlt:k < ts.length
  ·
   have hlt':decide ((k:Int) < (ts.length:Int))=true:=by simp;omega
   obtain ⟨b,off,rfl,hbw,hc0⟩:=H1.out k hlt
   obtain ⟨b',off',rfl,hbw',hd0⟩:=H2.out k hlt
   generalize ts[k]=F at hc0 hd0
   have hi0:(0:Int)≤(k:Int):=by omega
   have hi1:(k:Int) < (ts.length:Int):=by omega
   have hee:(F.toList == F.toList)=true:=beq_self_eq_true _
   go_wp2
   go_quiet (fail)
   go_wp2
   go_roundw
   case rel => exact ⟨k+1,q+nq,by go_num,by omega,rfl⟩
   case measure => simp [intOf];omega
  ·
   have hlt':decide ((k:Int) < (ts.length:Int))=false:=by simp;omega
   go_wp2
   go_ret
   exact ⟨rfl,drewN_below w q⟩
def markTs (k n:Nat):List ByteArray:=(List.range n).map (fun j => ⟨(mk (k+j)).toArray⟩)
theorem markTs_length (k n:Nat):(markTs k n).length=n:=by simp [markTs]
theorem markTs_get (k n j:Nat) (h:j < (markTs k n).length):(markTs k n)[j]=⟨(mk (k+j)).toArray⟩:=by simp [markTs]
theorem markStringS_row (v:Value) (ts:List ByteArray) (B k:Nat) (w:World) (hn:ts.length≤1048576) (hk0:0 < k) (hk:k≤10000000) (h:RowText w B v ts) :
  Calls Tryz.prog 29 #[v,.int .i64 (k:Int)] w fun e w' => e=.returned (.int .i64 ((k+ts.length:Nat):Int))∧RowText w' B v (markTs k ts.length)∧w.grownBy w' v.ownBlock:=by
 rcases h with ⟨rfl,rfl⟩ | ⟨g,cap,C0,rfl,hB,hC,hs,hI⟩
 ·
  go_enter Tryz.func29,Tryz.ntmps29
  go_wp2
  go_loop [1,5] (fun kk ii => kk=.int .i64 k∧ii=.int .i64 0) (fun _ _ => 0)
  case atStart => exact ⟨rfl,rfl⟩
  case round =>
   obtain ⟨rfl,rfl⟩:=hrel
   go_wp2
   go_ret
   exact ⟨rfl,.inl ⟨rfl,rfl⟩,World.grownBy.refl _ _⟩
 ·
  have HC0:=hide hC
  clear hC hI
  obtain ⟨n,HN⟩:∃ n,Hid (ts.length=n):=⟨_,hide rfl⟩
  rw [HN.out] at hn hs ⊢
  clear HN
  go_enter Tryz.func29,Tryz.ntmps29
  go_wp2
  go_loopw [1,5] (fun kk ii wr => ∃ (j:Nat) (C:Array Value),kk=.int .i64 ((k+j:Nat):Int)∧ii=.int .i64 j∧j≤n∧Hid (wr.heap[g]? = some (.cells C 9 (0,0)))∧C.size=C0.size∧Hid (TextsIn C (markTs k n) j)∧Hid (w.grownBy wr (some g))) (fun _ ii _ => n - (intOf ii).toNat)
  case atStart => exact ⟨0,C0,rfl,rfl,Nat.zero_le _,HC0,rfl,fun j _ hj => absurd hj (by omega),World.grownBy.refl _ _⟩
  case round =>
   obtain ⟨j,C,rfl,rfl,hj,HC,hCs,HI,HG⟩:=hrel
   by_cases hlt:j < n
   ·
    have hlt':decide ((j:Int) < (n:Int))=true:=by simp;omega
    have hi0:(0:Int)≤(j:Int):=by omega
    have hi1:(j:Int) < (n:Int):=by omega
    have hgw:g < wr.heap.size:=(Array.getElem?_eq_some_iff.1 HC.out).1
    obtain ⟨K,HK⟩:∃ K:Nat,Hid (K=k+j):=⟨_,hide rfl⟩
    have hKb:0 < K∧K≤15000000:=by have:=HK.out;omega
    rw [← HK.out]
    go_wp2_with fail
    refine (mark_any K _ hKb.1 (by omega)).mono ?_
    rintro e w1 ⟨rfl,b1⟩
    have HC1:Hid (w1.heap[g]? = some (.cells C 9 (0,0))):=(b1.block g hgw).trans HC.out
    have HG1:Hid (w.grownBy w1 (some g)):=grownBy_trans HG.out (grownBy_below _ b1)
    have hq0:=cell_of_row w1 g j _ _ (0,0) HC1.out
    have hf0:=frozen_of_row w1 g j _ _ HC1.out
    rw [Array.getElem?_eq_getElem (by omega)] at hq0
    clear b1
    go_wp2_with fail
    go_roundw
    case rel =>
     have hl:=markTs_length k n
     have HP:=textsIn_put HI.out (by omega) (by omega)
     rw [markTs_get,← HK.out] at HP
     refine ⟨j+1,C.setIfInBounds j (.string ⟨(mk K).toArray⟩),?_,by go_num,by omega,heap_setCell_same _ g _ _ _ _ HC1.out,by simpa using hCs,HP,grownBy_store HG1.out j _⟩
     have:=HK.out
     congr 1
     omega
    case measure => simp [intOf];omega
   ·
    have hlt':decide ((j:Int) < (n:Int))=false:=by simp;omega
    have hje:j=n:=by omega
    subst hje
    go_wp2
    go_ret
    have hl:=markTs_length k j
    exact ⟨rfl,.inr ⟨g,cap,C,by rw [hl],hB,HC.out,by omega,by rw [hl];exact HI.out⟩,HG.out⟩
theorem heldStringS_any (ao:Option Addr) (cap n k:Nat) (w:World) (hn:n≤1048576) (hk0:0 < k) (hk:k≤10000000) (h:TextsAt w ao (markTs k n)) :
  Calls Tryz.prog 30 #[.slice ao n cap,.int .i64 (k:Int)] w fun e w' => e=.returned (.int .i64 ((k+n:Nat):Int))∧Below w.heap.size w w':=by
 have HF:=hide h
 clear h
 go_enter Tryz.func30,Tryz.ntmps30
 go_wp2
 go_loopw [1,5] (fun kk ii wr => ∃ (j:Nat),kk=.int .i64 ((k+j:Nat):Int)∧ii=.int .i64 j∧j≤n∧Hid (Below w.heap.size w wr)) (fun _ ii _ => n - (intOf ii).toNat)
 case atStart => exact ⟨0,rfl,rfl,Nat.zero_le _,Below.refl _ _⟩
 case round =>
  obtain ⟨j,rfl,rfl,hj,HB⟩:=hrel
  by_cases hlt:j < n
  ·
   have hlt':decide ((j:Int) < (n:Int))=true:=by simp;omega
   have hi0:(0:Int)≤(j:Int):=by omega
   have hi1:(j:Int) < (n:Int):=by omega
   obtain ⟨b,off,rfl,hbw,hc0⟩:=textsAt_keep HF.out HB.out j (by rw [markTs_length];exact hlt)
   rw [markTs_get] at hc0
   obtain ⟨K,HK⟩:∃ K:Nat,Hid (K=k+j):=⟨_,hide rfl⟩
   have hKb:0 < K∧K≤15000000:=by have:=HK.out;omega
   rw [← HK.out] at hc0 ⊢
   obtain ⟨s0,hs0⟩:∃ s0:ByteArray,s0=⟨(mk K).toArray⟩:=⟨_,rfl⟩
   have hd0:wr.cell? ⟨b,off+j,none⟩=some (.string s0):=by rw [hs0];exact hc0
   have he0:(s0.toList == s0.toList)=true:=beq_self_eq_true _
   have HM0:Hid (∀ W,Calls Tryz.prog 28 #[.int .i64 ((K:Int))] W fun e w' => e=.returned (.string s0)∧Below W.heap.size W w'):=fun W => by rw [hs0];exact mark_any K W hKb.1 (by omega)
   clear hc0 hs0
   have HBW:=hide hbw
   clear hbw
   have B0:Hid (Below wr.heap.size wr wr):=Below.refl _ _
   go_wp2_with fail
   go_region_held3 (fun w' => w'.cell? ⟨b,off+j,none⟩=some (.string s0)) (first | go_keep | (exact (b1.cell (p:=⟨b,off+j,none⟩) HBW.out).trans hd0)) ((go_at_call 28;refine (HM0.out _).mono ?_;rintro e v1 ⟨rfl,b1⟩))
   have B1:Hid (Below wr.heap.size wr v1):=B0.out.trans (((Below.refl _ _).drew.trans b1).mono B0.out.size)
   clear b1
   go_wp2
   go_roundw
   case rel =>
    refine ⟨j+1,?_,by go_num,by omega,HB.out.trans (B1.out.mono HB.out.size)⟩
    have:=HK.out
    congr 1
    omega
   case measure => simp [intOf];omega
  ·
   have hlt':decide ((j:Int) < (n:Int))=false:=by simp;omega
   have hje:j=n:=by omega
   subst hje
   go_wp2
   go_ret
   exact ⟨rfl,HB.out⟩
theorem val_cells {W:World} {g:Nat} {a b c d:Value} {t:TypeId} (h:W.heap[g]? = some (.cells #[a,b,c,d] t (0,0))):W.cell? ⟨g,0,none⟩=some a∧W.cell? ⟨g,1,none⟩=some b∧W.cell? ⟨g,2,none⟩=some c∧W.cell? ⟨g,3,none⟩=some d :=
 ⟨(cell_of_row W g 0 _ _ (0,0) h).trans rfl,(cell_of_row W g 1 _ _ (0,0) h).trans rfl,(cell_of_row W g 2 _ _ (0,0) h).trans rfl,(cell_of_row W g 3 _ _ (0,0) h).trans rfl⟩
theorem val_frozen {W:World} {g:Nat} {a b c d:Value} {t:TypeId} (h:W.heap[g]? = some (.cells #[a,b,c,d] t (0,0))):W.frozen? ⟨g,0,none⟩=false∧W.frozen? ⟨g,1,none⟩=false∧W.frozen? ⟨g,2,none⟩=false∧W.frozen? ⟨g,3,none⟩=false :=
 ⟨frozen_of_row W g 0 _ _ h,frozen_of_row W g 1 _ _ h,frozen_of_row W g 2 _ _ h,frozen_of_row W g 3 _ _ h⟩
theorem obj_lt {w:World} {k:Nat} {x:Obj} (h:w.heap[k]? = some x):k < w.heap.size:=(Array.getElem?_eq_some_iff.1 h).1
theorem blk_newd {X w2:World} {C:Array Value} {t:TypeId} (b2:Below (X.alloc (.cells C t)).drew.heap.size (X.alloc (.cells C t)).drew w2):w2.heap[X.heap.size]? = some (.cells C t (0,0)):=(b2.block X.heap.size (by simp)).trans (heap_alloc_new X _)
theorem val_keep {w w':World} {g n:Nat} {o:Obj} (h:w.heap[g]? = some o) (hb:Below n w w') (hg:g < n):w'.heap[g]? = some o:=(hb.block g hg).trans h
theorem eqVal_same (v:ValD) (ao ao2:Option Addr) (cap cap2:Nat) (w:World) (hl:v.items.length≤maxLen) (h1:TextsAt w ao v.items) (h2:TextsAt w ao2 v.items) :
  Calls Tryz.prog 50 #[.agg #[.int .i64 v.kind,.int .i64 v.til,.string v.text,.slice ao v.items.length cap],.agg #[.int .i64 v.kind,.int .i64 v.til,.string v.text,.slice ao2 v.items.length cap2]] w fun e w' => e=.returned (.bool true)∧Below w.heap.size w w':=by
 obtain ⟨k,u,t,ts⟩:=v
 simp only at hl h1 h2 ⊢
 have H1:=hide h1
 have H2:=hide h2
 clear h1 h2
 have e0:(k == k)=true:=beq_self_eq_true _
 have e1:(u == u)=true:=beq_self_eq_true _
 have e2:(t.toList == t.toList)=true:=beq_self_eq_true _
 have H0:Hid (Below w.heap.size w ((w.alloc (.cells #[.int .i64 k,.int .i64 u,.string t,.slice ao ts.length cap] 51)).alloc (.cells #[.int .i64 k,.int .i64 u,.string t,.slice ao2 ts.length cap2] 51))):=((Below.refl _ w).alloc (Nat.le_refl _) _).alloc (by simp) _
 go_enter Tryz.func50,Tryz.ntmps50
 go_wp2_with fail
 refine (eqStringS_same ts ao ao2 cap cap2 _ hl (textsAt_keep H1.out H0.out) (textsAt_keep H2.out H0.out)).mono ?_
 rintro e w1 ⟨rfl,b1⟩
 have HB:Hid (Below w.heap.size w w1):=H0.out.trans (b1.mono H0.out.size)
 clear b1
 go_wp2
 go_ret
 exact ⟨rfl,HB.out⟩
structure EntD where
 key:ByteArray
 val:ValD
theorem Tryz.infoEntry:(Tryz.prog.info? 57).map (fun i => (i.zero,i.size,i.bytes))=some (some (.agg #[.string ⟨#[]⟩,.int .i64 0,.int .i64 0,.string ⟨#[]⟩,.slice none 0 0]),5,72):=by kernel_rfl
def EntriesAt (w:World) (ao:Option Addr) (es:List EntD):Prop:=∀ j (h:j < es.length),∃ b off:Nat,ao=some ⟨b,off,none⟩∧b < w.heap.size∧w.cell? ⟨b,off+j * 5,none⟩=some (.string es[j].key) ∧
 w.cell? ⟨b,off+j * 5+1,none⟩=some (.int .i64 es[j].val.kind)∧w.cell? ⟨b,off+j * 5+2,none⟩=some (.int .i64 es[j].val.til)∧w.cell? ⟨b,off+j * 5+3,none⟩=some (.string es[j].val.text) ∧
 ∃ a c,w.cell? ⟨b,off+j * 5+4,none⟩=some (.slice a es[j].val.items.length c)∧TextsAt w a es[j].val.items
theorem entriesAt_keep {w w':World} {ao:Option Addr} {es:List EntD} (h:EntriesAt w ao es) (hb:Below w.heap.size w w'):EntriesAt w' ao es:=by
 intro j hj
 obtain ⟨b,off,h1,h2,h3,h4,h5,h6,a,c,h7,h8⟩:=h j hj
 exact ⟨b,off,h1,Nat.lt_of_lt_of_le h2 hb.size,(hb.cell (p:=⟨b,off+j * 5,none⟩) h2).trans h3,(hb.cell (p:=⟨b,off+j * 5+1,none⟩) h2).trans h4,(hb.cell (p:=⟨b,off+j * 5+2,none⟩) h2).trans h5,(hb.cell (p:=⟨b,off+j * 5+3,none⟩) h2).trans h6,a,c,(hb.cell (p:=⟨b,off+j * 5+4,none⟩) h2).trans h7,textsAt_keep h8 hb⟩
def KidsE (w:World) (B g:Nat) (C:Array Value) (es:List EntD) (k:Nat):Prop :=
 (∀ j (h:j < es.length),j < k→C[j * 5]? = some (.string es[j].key)∧C[j * 5+1]? = some (.int .i64 es[j].val.kind)∧C[j * 5+2]? = some (.int .i64 es[j].val.til)∧C[j * 5+3]? = some (.string es[j].val.text)∧∃ x,C[j * 5+4]? = some x∧RowText w B x es[j].val.items∧x.ownBlock ≠ some g) ∧
 (∀ (i j:Nat) (x y:Value) (h:Nat),i ≠ j→i < k→j < k→C[i * 5+4]? = some x→C[j * 5+4]? = some y→x.ownBlock=some h→y.ownBlock ≠ some h)
def RowEnt (w:World) (B:Nat) (v:Value) (es:List EntD):Prop:=(v=.slice none 0 0∧es=[]) ∨
 ∃ (g cap:Nat) (C:Array Value),v=.slice (some ⟨g,0,none⟩) es.length cap∧B≤g∧w.heap[g]? = some (.cells C 57 (0,0))∧es.length * 5≤C.size∧KidsE w B g C es es.length
theorem kidsE_keep {w w':World} {B g k:Nat} {C:Array Value} {es:List EntD} (h:KidsE w B g C es k) (hk:∀ b,B≤b→b < w.heap.size→b ≠ g→w'.heap[b]? = w.heap[b]?):KidsE w' B g C es k:=by
 refine ⟨fun j hj hjk => ?_,h.2⟩
 obtain ⟨h1,h2,h3,h4,x,h5,h6,h7⟩:=h.1 j hj hjk
 exact ⟨h1,h2,h3,h4,x,h5,rowText_keep h6 (fun b hb => hk b (rowText_lt h6 b hb).1 (rowText_lt h6 b hb).2 (fun e => h7 (by rw [hb,e]))),h7⟩
theorem rowEnt_keep {w w':World} {B:Nat} {v:Value} {es:List EntD} (h:RowEnt w B v es) (hk:∀ b,B≤b→b < w.heap.size→w'.heap[b]? = w.heap[b]?):RowEnt w' B v es:=by
 rcases h with h | ⟨g,cap,C,rfl,hB,hC,hs,hI⟩
 · exact .inl h
 · exact .inr ⟨g,cap,C,rfl,hB,(hk g hB (obj_lt hC)).trans hC,hs,kidsE_keep hI (fun b h1 h2 _ => hk b h1 h2)⟩
theorem rowEnt_below {w w':World} {B:Nat} {v:Value} {es:List EntD} (h:RowEnt w B v es) (hb:Below w.heap.size w w'):RowEnt w' B v es :=
 rowEnt_keep h (fun k _ hk => hb.block k hk)
theorem rowEnt_at {w:World} {B:Nat} {v:Value} {es:List EntD} (h:RowEnt w B v es):∃ ao cap,v=.slice ao es.length cap∧EntriesAt w ao es:=by
 rcases h with ⟨rfl,rfl⟩ | ⟨g,cap,C,rfl,_,hC,_,hI⟩
 · exact ⟨none,0,rfl,fun j hj => absurd hj (by simp)⟩
 ·
  refine ⟨_,cap,rfl,fun j hj => ⟨g,0,rfl,obj_lt hC,?_⟩⟩
  obtain ⟨h1,h2,h3,h4,x,h5,h6,-⟩:=hI.1 j hj hj
  obtain ⟨a,c,rfl,h8⟩:=rowText_at h6
  rw [Nat.zero_add]
  exact ⟨(cell_of_row w g _ _ _ (0,0) hC).trans h1,(cell_of_row w g _ _ _ (0,0) hC).trans h2,(cell_of_row w g _ _ _ (0,0) hC).trans h3,(cell_of_row w g _ _ _ (0,0) hC).trans h4,a,c,(cell_of_row w g _ _ _ (0,0) hC).trans h5,h8⟩
theorem rowEnt_rows {w:World} {B n c:Nat} {a:Option Addr} {es:List EntD} (h:RowEnt w B (.slice a n c) es):n=es.length∧EntriesAt w a es:=by
 obtain ⟨ao,cap,e,hf⟩:=rowEnt_at h
 cases e
 exact ⟨rfl,hf⟩
theorem rowEnt_le {w:World} {B B':Nat} {v:Value} {es:List EntD} (h:RowEnt w B v es) (hB:B'≤B):RowEnt w B' v es:=by
 rcases h with h | ⟨g,cap,C,h1,h2,h3,h4,h5⟩
 · exact .inl h
 ·
  refine .inr ⟨g,cap,C,h1,by omega,h3,h4,fun j hj hjk => ?_,h5.2⟩
  obtain ⟨k1,k2,k3,k4,x,k5,k6,k7⟩:=h5.1 j hj hjk
  exact ⟨k1,k2,k3,k4,x,k5,rowText_le k6 hB,k7⟩
def EntS (n:Nat) (e:EntD):Prop:=e.key.size≤n∧e.val.text.size≤n∧e.val.items.length≤n∧∀ s ∈ e.val.items,s.size≤n
theorem eqEntry_same (F:EntD) (ao ao2:Option Addr) (cap cap2:Nat) (w:World) (hl:F.val.items.length≤maxLen) (h1:TextsAt w ao F.val.items) (h2:TextsAt w ao2 F.val.items) :
  Calls Tryz.prog 23 #[.agg #[.string F.key,.int .i64 F.val.kind,.int .i64 F.val.til,.string F.val.text,.slice ao F.val.items.length cap],.agg #[.string F.key,.int .i64 F.val.kind,.int .i64 F.val.til,.string F.val.text,.slice ao2 F.val.items.length cap2]] w fun e w' => e=.returned (.bool true)∧Below w.heap.size w w':=by
 have HQ:=hide (fun W (hW:Below w.heap.size w W) => eqVal_same F.val ao ao2 cap cap2 W hl (textsAt_keep h1 hW) (textsAt_keep h2 hW))
 clear h1 h2
 obtain ⟨key,k,u,t,ts⟩:=F
 simp only at HQ ⊢
 have e2:(key.toList == key.toList)=true:=beq_self_eq_true _
 have H0:Hid (Below w.heap.size w ((w.alloc (.cells #[.string key,.int .i64 k,.int .i64 u,.string t,.slice ao ts.length cap] 57)).alloc (.cells #[.string key,.int .i64 k,.int .i64 u,.string t,.slice ao2 ts.length cap2] 57))):=((Below.refl _ w).alloc (Nat.le_refl _) _).alloc (by simp) _
 go_enter Tryz.func23,Tryz.ntmps23
 go_wp2_with fail
 refine (HQ.out _ H0.out).mono ?_
 rintro e w1 ⟨rfl,b1⟩
 have HB:Hid (Below w.heap.size w w1):=H0.out.trans (b1.mono H0.out.size)
 clear b1
 go_wp2
 go_ret
 exact ⟨rfl,HB.out⟩
theorem eqEntryS_same (es:List EntD) (ao ao2:Option Addr) (cap cap2:Nat) (w:World) (hl:es.length≤1048576) (hk:∀ e ∈ es,e.val.items.length≤1048576) (h1:EntriesAt w ao es) (h2:EntriesAt w ao2 es) :
  Calls Tryz.prog 8 #[.slice ao es.length cap,.slice ao2 es.length cap2] w fun e w' => e=.returned (.bool true)∧Below w.heap.size w w':=by
 have H1:=hide h1
 have H2:=hide h2
 have HK:=hide hk
 clear h1 h2 hk
 have hne:(!((es.length:Int) == (es.length:Int)))=false:=by simp
 go_enter Tryz.func8,Tryz.ntmps8
 go_wp2
 go_loopw [5] (fun ii wr => ∃ (k:Nat),ii=.int .i64 k∧k≤es.length∧Hid (Below w.heap.size w wr)) (fun ii _ => es.length - (intOf ii).toNat)
 case atStart => exact ⟨0,rfl,Nat.zero_le _,Below.refl _ _⟩
 case round =>
  obtain ⟨k,rfl,hk,HB⟩:=hrel
  by_cases hlt:k < es.length
  ·
   have hlt':decide ((k:Int) < (es.length:Int))=true:=by simp;omega
   obtain ⟨b,off,rfl,hbw,hc0,hc1,hc2,hc3,a1,c1,hc4,ha1⟩:=entriesAt_keep H1.out HB.out k hlt
   obtain ⟨b',off',rfl,hbw',hd0,hd1,hd2,hd3,a2,c2,hd4,ha2⟩:=entriesAt_keep H2.out HB.out k hlt
   have hsm:=HK.out es[k] (List.getElem_mem hlt)
   generalize es[k]=F at hc0 hc1 hc2 hc3 hc4 hd0 hd1 hd2 hd3 hd4 ha1 ha2 hsm
   have hi0:(0:Int)≤(k:Int):=by omega
   have hi1:(k:Int) < (es.length:Int):=by omega
   have HQ:Hid (∀ W,Below wr.heap.size wr W→Calls Tryz.prog 23 #[.agg #[.string F.key,.int .i64 F.val.kind,.int .i64 F.val.til,.string F.val.text,.slice a1 F.val.items.length c1],.agg #[.string F.key,.int .i64 F.val.kind,.int .i64 F.val.til,.string F.val.text,.slice a2 F.val.items.length c2]] W fun e w' => e=.returned (.bool true)∧Below W.heap.size W w'):=fun W hW => eqEntry_same F a1 a2 c1 c2 W (by unfold maxLen;omega) (textsAt_keep ha1 hW) (textsAt_keep ha2 hW)
   obtain ⟨key,kd,u,t,ts⟩:=F
   simp only at hc0 hc1 hc2 hc3 hc4 hd0 hd1 hd2 hd3 hd4 HQ
   have KS:Hid (∀ X,Below wr.heap.size wr X→(X.cell? ⟨b,off+k * 5,none⟩=some (.string key)∧X.cell? ⟨b,off+k * 5+1,none⟩=some (.int .i64 kd)∧X.cell? ⟨b,off+k * 5+2,none⟩=some (.int .i64 u)∧X.cell? ⟨b,off+k * 5+3,none⟩=some (.string t)∧X.cell? ⟨b,off+k * 5+4,none⟩=some (.slice a1 ts.length c1))∧(X.cell? ⟨b',off'+k * 5,none⟩=some (.string key)∧X.cell? ⟨b',off'+k * 5+1,none⟩=some (.int .i64 kd)∧X.cell? ⟨b',off'+k * 5+2,none⟩=some (.int .i64 u)∧X.cell? ⟨b',off'+k * 5+3,none⟩=some (.string t)∧X.cell? ⟨b',off'+k * 5+4,none⟩=some (.slice a2 ts.length c2))) :=
    fun X hX => ⟨⟨(hX.cell (p:=⟨b,off+k * 5,none⟩) hbw).trans hc0,(hX.cell (p:=⟨b,off+k * 5+1,none⟩) hbw).trans hc1,(hX.cell (p:=⟨b,off+k * 5+2,none⟩) hbw).trans hc2,(hX.cell (p:=⟨b,off+k * 5+3,none⟩) hbw).trans hc3,(hX.cell (p:=⟨b,off+k * 5+4,none⟩) hbw).trans hc4⟩,(hX.cell (p:=⟨b',off'+k * 5,none⟩) hbw').trans hd0,(hX.cell (p:=⟨b',off'+k * 5+1,none⟩) hbw').trans hd1,(hX.cell (p:=⟨b',off'+k * 5+2,none⟩) hbw').trans hd2,(hX.cell (p:=⟨b',off'+k * 5+3,none⟩) hbw').trans hd3,(hX.cell (p:=⟨b',off'+k * 5+4,none⟩) hbw').trans hd4⟩
   clear hbw hbw' ha1 ha2
   go_wp2_with fail
   go_region_held3 (fun X => (X.cell? ⟨b,off+k * 5,none⟩=some (.string key)∧X.cell? ⟨b,off+k * 5+1,none⟩=some (.int .i64 kd)∧X.cell? ⟨b,off+k * 5+2,none⟩=some (.int .i64 u)∧X.cell? ⟨b,off+k * 5+3,none⟩=some (.string t)∧X.cell? ⟨b,off+k * 5+4,none⟩=some (.slice a1 ts.length c1))∧(X.cell? ⟨b',off'+k * 5,none⟩=some (.string key)∧X.cell? ⟨b',off'+k * 5+1,none⟩=some (.int .i64 kd)∧X.cell? ⟨b',off'+k * 5+2,none⟩=some (.int .i64 u)∧X.cell? ⟨b',off'+k * 5+3,none⟩=some (.string t)∧X.cell? ⟨b',off'+k * 5+4,none⟩=some (.slice a2 ts.length c2))) (first | (exact KS.out _ (Below.refl _ _)) | (exact KS.out _ (Below.refl _ _).drew) | (exact KS.out _ ((Below.refl _ _).drew.trans b1)) | fail) ((go_at_call 23;refine (HQ.out _ (by first | exact Below.refl _ _ | exact (Below.refl _ _).drew)).mono ?_;rintro e w1 ⟨rfl,b1⟩))
   go_wp2
   go_roundw
   case rel => exact ⟨k+1,by go_num,by omega,HB.out.trans (((Below.refl _ _).drew.trans b1).mono HB.out.size)⟩
   case measure => simp [intOf];omega
  ·
   have hlt':decide ((k:Int) < (es.length:Int))=false:=by simp;omega
   go_wp2
   go_ret
   exact ⟨rfl,HB.out⟩
def noVal:ValD:=⟨0,0,⟨#[]⟩,[]⟩
end Go.Proofs.YtbenmgokhklnjaaGreatDoor
