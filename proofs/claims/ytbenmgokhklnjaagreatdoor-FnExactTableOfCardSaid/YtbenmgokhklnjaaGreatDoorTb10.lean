import Derived.Deep.LoopGhost
import Derived.Test.YtbenmgokhklnjaaGreatDoorTb6
import Derived.Test.YtbenmgokhklnjaaGreatDoorTb9
import Derived.Test.YtbenmgokhklnjaaGreatDoorTb8
set_option maxRecDepth 100000
set_option maxHeartbeats 3200000
namespace Go.Proofs.YtbenmgokhklnjaaGreatDoor
open Go.RowKit
theorem l03At_none (fs:List FileD) (ao:Option Addr) (cap:Nat) (nm:ByteArray) (w:World) (hl:fs.length≤1048576) (hfs:FilesAt w ao fs) (h:fileD fs nm=none) :
  Calls Tryz.prog 100 #[.agg #[.slice ao fs.length cap],.string nm] w fun e w' => e=.returned (.int .i64 (-1))∧Below w.heap.size w w':=by
 refine (l03At_any fs ao cap nm w hl hfs).mono ?_
 rintro e w' ⟨rfl,hb⟩
 rcases at_cases nm fs 0 with ⟨h1,-⟩ | ⟨j,hj,-,-,h3⟩
 · rw [h1];exact ⟨rfl,hb⟩
 · unfold fileD at h;rw [h3] at h;cases h
theorem l03At_some (fs:List FileD) (ao:Option Addr) (cap:Nat) (nm:ByteArray) (F:FileD) (hl:fs.length≤1048576) (h:fileD fs nm=some F):∃ j,∃ hj:j < fs.length,fs[j]=F ∧
  ∀ w,FilesAt w ao fs→Calls Tryz.prog 100 #[.agg #[.slice ao fs.length cap],.string nm] w fun e w' => e=.returned (.int .i64 (j:Int))∧Below w.heap.size w w':=by
 rcases at_cases nm fs 0 with ⟨-,h2⟩ | ⟨j,hj,h1,-,h3⟩
 ·
  have:fileD fs nm=none:=List.find?_eq_none.2 (fun G hG => by rw [h2 G hG];decide)
  rw [this] at h;cases h
 ·
  unfold fileD at h
  rw [h3] at h
  refine ⟨j,hj,Option.some.inj h,fun w hfs => ?_⟩
  refine (l03At_any fs ao cap nm w hl hfs).mono ?_
  rintro e w' ⟨rfl,hb⟩
  rw [h1,Nat.zero_add]
  exact ⟨rfl,hb⟩
theorem specFileAt_some (fs:List FileD) (ao:Option Addr) (cap:Nat) (nm:ByteArray) (w:World) (F:FileD) (hl:fs.length≤1048576) (hfs:FilesAt w ao fs) (h:fileD fs nm=some F) :
  Calls Tryz.prog 83 #[.agg #[.slice ao fs.length cap],.string nm] w fun e w' => e=.returned (.tuple #[.string F.text,.bool true])∧Below w.heap.size w w':=by
 refine (specFileAt_any fs ao cap nm w hl hfs).mono ?_
 rintro e w' ⟨⟨hn,-⟩ | ⟨G,hG,-,rfl⟩,hb⟩
 · rw [h] at hn;cases hn
 · rw [h] at hG;cases hG;exact ⟨rfl,hb⟩
theorem counting_low {m:Nat} {l:List SegD} (h:∀ s ∈ l,s.num < m):counting m l=[]:=List.filter_eq_nil_iff.2 (fun s hs => by have:=h s hs;simp;omega)
theorem segsTo_more (fs:List FileD) (k:Nat):∀ d,∃ r,segsTo fs (k+d)=segsTo fs k ++ r
 | 0 => ⟨[],by simp⟩
 | d+1 => by
  obtain ⟨r,hr⟩:=segsTo_more fs k d
  exact ⟨r ++ (segD fs (k+d)).toList,by show segsTo fs (k+d) ++ (segD fs (k+d)).toList=_;rw [hr,List.append_assoc]⟩
theorem specSegments_any (fs:List FileD) (ao:Option Addr) (cap:Nat) (w:World) (hl:fs.length≤1048576) (hfs:FilesAt w ao fs) (hsz:∀ F ∈ fs,F.name.size≤1048576∧F.text.size≤1048576) :
  Calls Tryz.prog 77 #[.agg #[.slice ao fs.length cap]] w fun e w' => (∃ v,e=.returned (.tuple #[v,.bool (segsOk fs)])∧w'.ownsRow w.heap.size 3 1 v ((segsL fs).map SegD.num).length (((segsL fs).map SegD.num).map iv))∧Below w.heap.size w w':=by
 have HF:=hide hfs
 have HS:=hide hsz
 have HS2:Hid (∀ F ∈ fs,F.name.size≤maxLen∧F.text.size≤maxLen):=fun F hF => by have:=hsz F hF;unfold maxLen;omega
 clear hfs hsz
 obtain ⟨wb,hwb⟩:∃ wb,wb=(w.alloc (.cells #[.slice ao fs.length cap] 34)).alloc (.cells #[] 3):=⟨_,rfl⟩
 have HB0:Hid (Below w.heap.size w wb):=by rw [hwb];exact ((Below.refl _ w).alloc (Nat.le_refl _) _).alloc (by simp) _
 have hbs:w.heap.size+2≤wb.heap.size:=by rw [hwb];simp
 have HBC:Hid (wb.cell? ⟨w.heap.size,0,none⟩=some (.slice ao fs.length cap)):=by
  have h1:(w.alloc (.cells #[.slice ao fs.length cap] 34)).cell? ⟨w.heap.size,0,none⟩=some (.slice ao fs.length cap):=(cell_of_row _ _ 0 _ _ (0,0) (heap_alloc_new w _)).trans rfl
  rw [hwb]
  exact ((((Below.refl _ (w.alloc (.cells #[.slice ao fs.length cap] 34))).alloc (Nat.le_refl _) (.cells #[] 3)).cell (p:=⟨w.heap.size,0,none⟩) (by simp))).trans h1
 have HO0:Hid (wb.ownsRow (w.heap.size+1) 3 1 (.slice (some ⟨w.heap.size+1,0,none⟩) 0 0) 0 []):=by
  rw [hwb]
  have:=World.ownsRow_lit (e:=3) (size:=1) (w.alloc (.cells #[.slice ao fs.length cap] 34)) #[] 0 (Nat.le_refl _) (by unfold maxLen;omega) (by simp)
  show World.ownsRow _ _ _ _ _ _ _
  simpa using this
 cases hok:diskOkD fs with
 | false =>
  have HE:=hide (segsOk_disk hok)
  go_enter Tryz.func77,Tryz.ntmps77
  go_wp2_with fail
  rw [← hwb]
  refine (specDiskOk_any fs ao cap _ hl (filesAt_keep HF.out HB0.out) HS2.out).mono ?_
  rintro e w1 ⟨rfl,b1⟩
  rw [hok]
  have B1:=hide (HB0.out.trans (b1.mono HB0.out.size))
  have O1:=hide (ownsRow_below HO0.out b1)
  clear b1 hok hwb
  go_wp2
  go_ret2
  rw [HE.out.1,HE.out.2]
  exact ⟨⟨_,rfl,ownsRow_mono O1.out (by omega)⟩,B1.out⟩
 | true =>
  obtain ⟨M,HM⟩:∃ M,Hid (topFrom (segsTo fs 100)=M):=⟨_,rfl⟩
  have hMl:M≤99:=by rw [← HM.out];exact topFrom_le _ 99 (fun s hs => (segsTo_mem hs).2.1)
  have HC:Hid (segsC fs=counting M (segsTo fs 100)):=by show _=_;unfold segsC;rw [HM.out]
  have HD:=hide hok
  go_enter Tryz.func77,Tryz.ntmps77
  go_wp2_with fail
  rw [← hwb]
  clear hwb
  refine (specDiskOk_any fs ao cap _ hl (filesAt_keep HF.out HB0.out) HS2.out).mono ?_
  rintro e w1 ⟨rfl,b1⟩
  rw [hok]
  have B1:=hide b1
  have hb1:wb.heap.size≤w1.heap.size:=b1.size
  clear b1 hok
  go_wp2_with fail
  go_loopg [5,6] 100 (fun gg vf ii wr => ∃ (k f:Nat),k+gg=100∧vf=.int .i64 f∧ii=.int .i64 k∧k≤100∧f≤99∧Hid (f=topFrom (segsTo fs k))∧Hid (Below wb.heap.size wb wr))
  case atStart => exact ⟨0,0,rfl,rfl,rfl,Nat.zero_le _,Nat.zero_le _,rfl,B1⟩
  case round =>
   obtain ⟨k,f,hkg,rfl,rfl,hk,hf9,HT,HB⟩:=hrel
   have hws:wb.heap.size≤wr.heap.size:=HB.out.size
   have hlt0:w.heap.size < wr.heap.size:=by omega
   have HBw:Hid (Below w.heap.size w wr):=HB0.out.trans (HB.out.mono (by omega))
   have hc0:wr.cell? ⟨w.heap.size,0,none⟩=some (.slice ao fs.length cap):=(HB.out.cell (p:=⟨w.heap.size,0,none⟩) (by show w.heap.size < _;omega)).trans HBC.out
   cases gk with
   | succ g0 =>
    have hlt':decide ((k:Int)≤99)=true:=by simp;omega
    obtain ⟨NM,HNM⟩:∃ NM,Hid (segNm (k:Int)=NM):=⟨_,rfl⟩
    have HN:Hid (∀ W:World,Calls Tryz.prog 84 #[.int .i64 (k:Int)] W fun e w' => e=.returned (.string NM)∧Below W.heap.size W w'):=fun W => by rw [← HNM.out];exact specSegName_any (k:Int) W
    cases hfd:fileD fs (segNm k) with
    | none =>
     have HE:=hide (segsTo_none hfd)
     have HAT:Hid (∀ W,Below wr.heap.size wr W→Calls Tryz.prog 100 #[.agg #[.slice ao fs.length cap],.string NM] W fun e w' => e=.returned (.int .i64 (-1))∧Below W.heap.size W w'):=fun W hW => l03At_none fs ao cap NM W hl (filesAt_keep (filesAt_keep HF.out HBw.out) hW) (by rw [← HNM.out];exact hfd)
     clear hfd
     go_wp2_with fail
     go_region_held3 (fun w' => w'.cell? ⟨w.heap.size,0,none⟩=some (.slice ao fs.length cap)) (first | go_keep | (exact hc0) | (exact (b1.cell (p:=⟨w.heap.size,0,none⟩) hlt0).trans hc0) | (exact ((b1.trans (b2.mono b1.size)).cell (p:=⟨w.heap.size,0,none⟩) hlt0).trans hc0)) ((first | (go_at_call 84;refine (HN.out _).mono ?_;rintro e w1 ⟨rfl,b1⟩) | (go_at_call 100;refine (HAT.out _ (by first | exact b1 | exact (Below.refl _ _).drew.trans b1)).mono ?_;rintro e w2 ⟨rfl,b2⟩)))
     have B2:Hid (Below wr.heap.size wr w2):=(Below.refl _ _).drew.trans (b1.trans (b2.mono b1.size))
     clear b1 b2
     go_wp2_with fail
     go_roundg g0
     case rel => exact ⟨k+1,f,by omega,rfl,by go_num,by omega,hf9,by show _=_;rw [HE.out];exact HT.out,HB.out.trans (B2.out.mono hws)⟩
     case measure => omega
    | some F =>
     have HE:=hide (segsTo_some hfd)
     have hFm:=List.mem_of_find?_eq_some hfd
     have hFs:=(HS.out F hFm).2
     obtain ⟨j,hj,hjF,hat⟩:=l03At_some fs ao cap NM F hl (by rw [← HNM.out];exact hfd)
     have HJF:=hide hjF
     have HAT:Hid (∀ W,Below wr.heap.size wr W→Calls Tryz.prog 100 #[.agg #[.slice ao fs.length cap],.string NM] W fun e w' => e=.returned (.int .i64 (j:Int))∧Below W.heap.size W w'):=fun W hW => hat W (filesAt_keep (filesAt_keep HF.out HBw.out) hW)
     have hjn:decide ((j:Int) < 0)=false:=by simp
     clear hat hjF
     have HRS:=hide (fun W => specReadSegment_any (k:Int) F.text W hFs)
     unfold SegLeft at HRS
     have HSO:Hid ((segOfFile k F).frm=segFrom (k:Int) F.text∧(segOk (k:Int) F.text=false→segFrom (k:Int) F.text=0)∧segFrom (k:Int) F.text≤99):=⟨rfl,segFrom_not,segFrom_le k F.text⟩
     clear hfd hFm
     generalize segFrom (k:Int) F.text=f0 at HRS HSO
     generalize segBatches (k:Int) F.text=bs0 at HRS
     generalize segOk (k:Int) F.text=ok0 at HRS HSO
     have hf0:=HSO.out.2.2
     go_wp2_with fail
     go_region_held3 (fun w' => w'.cell? ⟨w.heap.size,0,none⟩=some (.slice ao fs.length cap)) (first | go_keep | (exact hc0) | (exact (b1.cell (p:=⟨w.heap.size,0,none⟩) hlt0).trans hc0) | (exact ((b1.trans (b2.mono b1.size)).cell (p:=⟨w.heap.size,0,none⟩) hlt0).trans hc0)) ((first | (go_at_call 84;refine (HN.out _).mono ?_;rintro e w1 ⟨rfl,b1⟩) | (go_at_call 100;refine (HAT.out _ (by first | exact b1 | exact (Below.refl _ _).drew.trans b1)).mono ?_;rintro e w2 ⟨rfl,b2⟩)))
     have B2:Hid (Below wr.heap.size wr w2):=(Below.refl _ _).drew.trans (b1.trans (b2.mono b1.size))
     clear b1 b2
     obtain ⟨fb,off,hao,hbw,-,hd1,-⟩:=filesAt_keep HF.out (HBw.out.trans (B2.out.mono HBw.out.size)) j hj
     have hd0:w2.cell? ⟨w.heap.size,0,none⟩=some (.slice ao fs.length cap):=(B2.out.cell (p:=⟨w.heap.size,0,none⟩) hlt0).trans hc0
     rw [HJF.out] at hd1
     subst hao
     have hji0:(0:Int)≤(j:Int):=by omega
     have hji1:(j:Int) < (fs.length:Int):=by omega
     go_wp2_with fail
     refine (HRS.out _).mono ?_
     rintro e w3 ⟨⟨v3,rfl,r3⟩,b3⟩
     have B3:=hide (B2.out.trans (b3.mono B2.out.size))
     clear r3 b3 hd0 hd1
     have HN1:Hid (topFrom (segsTo fs (k+1))=max f f0):=by show _=_;rw [HE.out,topFrom_snoc,HSO.out.1,← HT.out]
     cases ok0 with
     | false =>
      have h0:f0=0:=HSO.out.2.1 (by simp)
      go_wp2_with fail
      go_roundg g0
      case rel => exact ⟨k+1,f,by omega,rfl,by go_num,by omega,hf9,by show _=_;rw [HN1.out];omega,HB.out.trans (B3.out.mono hws)⟩
      case measure => omega
     | true =>
      by_cases hgt:f < f0
      ·
       have hgt':decide ((f:Int) < (f0:Int))=true:=by simp;omega
       go_wp2_with fail
       go_roundg g0
       case rel => exact ⟨k+1,f0,by omega,rfl,by go_num,by omega,hf0,by show _=_;rw [HN1.out];omega,HB.out.trans (B3.out.mono hws)⟩
       case measure => omega
      ·
       have hgt':decide ((f:Int) < (f0:Int))=false:=by simp;omega
       go_wp2_with fail
       go_roundg g0
       case rel => exact ⟨k+1,f,by omega,rfl,by go_num,by omega,hf9,by show _=_;rw [HN1.out];omega,HB.out.trans (B3.out.mono hws)⟩
       case measure => omega
   | zero =>
    have hlt':decide ((k:Int)≤99)=false:=by simp;omega
    have hke:k=100:=by omega
    subst hke
    have hfM:f=M:=by rw [HT.out,HM.out]
    subst hfM
    have HOc:=hide (ownsRow_below HO0.out HB.out)
    have HBc:Hid (Below (w.heap.size+1) wb wr):=HB.out.mono (by omega)
    obtain ⟨wc,rfl⟩:∃ wc,wc=wr:=⟨_,rfl⟩
    clear hc0 hlt0 hws HBw HT hlt' hk hkg
    go_wp2_with fail
    go_loopg [4,12] (100 - f) (fun gg vo ii wr => ∃ (k:Nat),k+gg=100∧ii=.int .i64 k∧k≤100∧f≤k∧Hid (wr.ownsRow (w.heap.size+1) 3 1 vo ((counting f (segsTo fs k)).map SegD.num).length (((counting f (segsTo fs k)).map SegD.num).map iv))∧Hid (allRight (counting f (segsTo fs k))=true)∧Hid (Below (w.heap.size+1) wb wr))
    case atStart =>
     have hz:counting f (segsTo fs f)=[]:=counting_low (fun s hs => (segsTo_mem hs).1)
     refine ⟨f,by omega,rfl,by omega,Nat.le_refl _,?_,?_,HBc⟩
     ·
      show World.ownsRow _ _ _ _ _ _ _
      rw [hz]
      exact HOc.out
     ·
      show _=_
      rw [hz]
      rfl
    case round =>
     obtain ⟨k,hkg,rfl,hk,hfk,HO,HAR,HB⟩:=hrel
     have hws:w.heap.size+2≤wr.heap.size:=by have:=HB.out.size;omega
     have hlt0:w.heap.size < wr.heap.size:=by omega
     have HBw:Hid (Below w.heap.size w wr):=HB0.out.trans (HB.out.mono (by omega))
     have hc0:wr.cell? ⟨w.heap.size,0,none⟩=some (.slice ao fs.length cap):=(HB.out.cell (p:=⟨w.heap.size,0,none⟩) (by show w.heap.size < _;omega)).trans HBC.out
     cases gk with
     | succ g2 =>
      have hlt':decide ((k:Int)≤99)=true:=by simp;omega
      obtain ⟨NM,HNM⟩:∃ NM,Hid (segNm (k:Int)=NM):=⟨_,rfl⟩
      have HN:Hid (∀ W:World,Calls Tryz.prog 84 #[.int .i64 (k:Int)] W fun e w' => e=.returned (.string NM)∧Below W.heap.size W w'):=fun W => by rw [← HNM.out];exact specSegName_any (k:Int) W
      cases hfd:fileD fs (segNm k) with
      | none =>
       have HE:=hide (segsTo_none hfd)
       have HAT:Hid (∀ W,Below wr.heap.size wr W→Calls Tryz.prog 100 #[.agg #[.slice ao fs.length cap],.string NM] W fun e w' => e=.returned (.int .i64 (-1))∧Below W.heap.size W w'):=fun W hW => l03At_none fs ao cap NM W hl (filesAt_keep (filesAt_keep HF.out HBw.out) hW) (by rw [← HNM.out];exact hfd)
       clear hfd
       go_wp2_with fail
       go_region_held3 (fun w' => w'.cell? ⟨w.heap.size,0,none⟩=some (.slice ao fs.length cap)) (first | go_keep | (exact hc0) | (exact (b1.cell (p:=⟨w.heap.size,0,none⟩) hlt0).trans hc0) | (exact ((b1.trans (b2.mono b1.size)).cell (p:=⟨w.heap.size,0,none⟩) hlt0).trans hc0)) ((first | (go_at_call 84;refine (HN.out _).mono ?_;rintro e w1 ⟨rfl,b1⟩) | (go_at_call 100;refine (HAT.out _ (by first | exact b1 | exact (Below.refl _ _).drew.trans b1)).mono ?_;rintro e w2 ⟨rfl,b2⟩)))
       have B2:Hid (Below wr.heap.size wr w2):=(Below.refl _ _).drew.trans (b1.trans (b2.mono b1.size))
       clear b1 b2
       go_wp2_with fail
       go_roundg g2
       case rel => exact ⟨k+1,by omega,by go_num,by omega,by omega,by show World.ownsRow _ _ _ _ _ _ _;rw [HE.out];exact ownsRow_below HO.out B2.out,by show _=_;rw [HE.out];exact HAR.out,HB.out.trans (B2.out.mono (by omega))⟩
       case measure => omega
      | some F =>
       have HE:=hide (segsTo_some hfd)
       have hFm:=List.mem_of_find?_eq_some hfd
       have hFs:=(HS.out F hFm).2
       obtain ⟨j,hj,hjF,hat⟩:=l03At_some fs ao cap NM F hl (by rw [← HNM.out];exact hfd)
       have HJF:=hide hjF
       have HAT:Hid (∀ W,Below wr.heap.size wr W→Calls Tryz.prog 100 #[.agg #[.slice ao fs.length cap],.string NM] W fun e w' => e=.returned (.int .i64 (j:Int))∧Below W.heap.size W w'):=fun W hW => hat W (filesAt_keep (filesAt_keep HF.out HBw.out) hW)
       have hjn:decide ((j:Int) < 0)=false:=by simp
       clear hat hjF
       have HRS:=hide (fun W => specReadSegment_any (k:Int) F.text W hFs)
       unfold SegLeft at HRS
       have HSO:Hid ((segOfFile k F).num=k∧(segOfFile k F).right=segOk (k:Int) F.text):=⟨rfl,rfl⟩
       clear hfd hFm
       generalize segFrom (k:Int) F.text=f0 at HRS
       generalize segBatches (k:Int) F.text=bs0 at HRS
       generalize segOk (k:Int) F.text=ok0 at HRS HSO
       have HCI:=hide (counting_snoc_in (m:=f) (l:=segsTo fs k) (s:=segOfFile k F) (by rw [HSO.out.1];exact hfk))
       rw [← HE.out] at HCI
       go_wp2_with fail
       go_region_held3 (fun w' => w'.cell? ⟨w.heap.size,0,none⟩=some (.slice ao fs.length cap)) (first | go_keep | (exact hc0) | (exact (b1.cell (p:=⟨w.heap.size,0,none⟩) hlt0).trans hc0) | (exact ((b1.trans (b2.mono b1.size)).cell (p:=⟨w.heap.size,0,none⟩) hlt0).trans hc0)) ((first | (go_at_call 84;refine (HN.out _).mono ?_;rintro e w1 ⟨rfl,b1⟩) | (go_at_call 100;refine (HAT.out _ (by first | exact b1 | exact (Below.refl _ _).drew.trans b1)).mono ?_;rintro e w2 ⟨rfl,b2⟩)))
       have B2:Hid (Below wr.heap.size wr w2):=(Below.refl _ _).drew.trans (b1.trans (b2.mono b1.size))
       clear b1 b2
       obtain ⟨fb,off,hao,hbw,-,hd1,-⟩:=filesAt_keep HF.out (HBw.out.trans (B2.out.mono HBw.out.size)) j hj
       have hd0:w2.cell? ⟨w.heap.size,0,none⟩=some (.slice ao fs.length cap):=(B2.out.cell (p:=⟨w.heap.size,0,none⟩) hlt0).trans hc0
       rw [HJF.out] at hd1
       subst hao
       have hji0:(0:Int)≤(j:Int):=by omega
       have hji1:(j:Int) < (fs.length:Int):=by omega
       go_wp2_with fail
       refine (HRS.out _).mono ?_
       rintro e w3 ⟨⟨v3,rfl,r3⟩,b3⟩
       obtain ⟨a3,c3,rfl,-⟩:=rowBatch_at r3
       have B3:=hide (B2.out.trans (b3.mono B2.out.size))
       have hw3:wr.heap.size≤w3.heap.size:=B3.out.size
       clear r3 b3 hd0 hd1
       cases ok0 with
       | false =>
        have hEE:allRight (segsC fs)=false:=by
         obtain ⟨r,hr⟩:=segsTo_more fs (k+1) (99 - k)
         rw [HC.out,show (100:Nat)=k+1+(99 - k) by omega,hr,counting_app,allRight_app,HCI.out,allRight_snoc,HSO.out.2]
         simp
        have HEE:=hide (segsOk_wrong hEE)
        clear hEE
        go_wp2
        go_ret2
        rw [HEE.out.1,HEE.out.2]
        refine ⟨⟨_,rfl,ownsRow_mono (World.ownsRow_lit w3 #[] 0 (Nat.le_refl _) (by unfold maxLen;omega) (by simp)) (by omega)⟩,(HBw.out.trans (B3.out.mono HBw.out.size)).alloc (by omega) _⟩
       | true =>
        have hol:((counting f (segsTo fs k)).map SegD.num).length≤1000000:=by rw [List.length_map];have h1:=counting_len f (segsTo fs k);have h2:=segsTo_len fs k;omega
        have HO3:=hide (ownsRow_below HO.out B3.out)
        have HB3:Hid (Below (w.heap.size+1) wb w3):=HB.out.trans (B3.out.mono (by omega))
        go_wp2_with (at_builtin;refine app_int (x:=k) w3 wb (w.heap.size+1) (by rfl) _ _ (by rfl) _ ((counting f (segsTo fs k)).map SegD.num) (by rfl) HO3.out (by rfl) hol HB3.out (by omega) ?_;intro v5 w5 ho5 hb5 hs5;have O5:=hide ho5;have B5:=hide hb5;clear ho5 hb5 hs5)
        go_roundg g2
        case rel =>
         refine ⟨k+1,by omega,by go_num,by omega,by omega,?_,?_,B5⟩
         ·
          show World.ownsRow _ _ _ _ _ _ _
          rw [HCI.out,List.map_append,List.map_singleton,HSO.out.1]
          exact O5.out
         ·
          show _=_
          rw [HCI.out,allRight_snoc,HAR.out,HSO.out.2]
          rfl
        case measure => omega
     | zero =>
      have hlt':decide ((k:Int)≤99)=false:=by simp;omega
      have hke:k=100:=by omega
      subst hke
      have HE:=hide (segsOk_rest HD.out (by rw [HC.out];exact HAR.out))
      rw [HC.out] at HE
      obtain ⟨NL,HNL⟩:∃ NL,Hid ((counting f (segsTo fs 100)).length=NL):=⟨_,rfl⟩
      have hnl:decide ((0:Int) < (NL:Int))=decide (0 < NL):=by apply decide_eq_decide.2;omega
      have HO2:=hide (ownsRow_mono HO.out (by omega:w.heap.size≤w.heap.size+1))
      have hlm:((counting f (segsTo fs 100)).map SegD.num).length=NL:=by rw [List.length_map,HNL.out]
      rw [HNL.out] at HE
      rw [hlm] at HO2
      clear hlm HO
      obtain ⟨ax,cx,hvo⟩:=slice_form HO2.out
      subst hvo
      go_wp2
      go_ret2
      rw [HE.out.1,HE.out.2,← hnl,HNL.out]
      refine ⟨⟨_,rfl,?_⟩,HBw.out⟩
      rw [← List.map_map]
      exact HO2.out
theorem l06Batches_any (fs:List FileD) (ao:Option Addr) (cap:Nat) (n:Nat) (F:FileD) (w:World) (hl:fs.length≤1048576) (hfs:FilesAt w ao fs) (hsz:∀ F ∈ fs,F.name.size≤1048576∧F.text.size≤1048576) (hF:fileD fs (segNm n)=some F) :
  Calls Tryz.prog 99 #[.agg #[.slice ao fs.length cap],.int .i64 n] w fun e w' => (∃ v,e=.returned v∧RowBatch w' w.heap.size v (segBatches n F.text))∧Below w.heap.size w w':=by
 have hFm:=List.mem_of_find?_eq_some hF
 have hFs:=(hsz F hFm).2
 have HF:=hide hfs
 obtain ⟨wb,hwb⟩:∃ wb,wb=w.alloc (.cells #[.slice ao fs.length cap] 34):=⟨_,rfl⟩
 have HB0:Hid (Below w.heap.size w wb):=by rw [hwb];exact (Below.refl _ w).alloc (Nat.le_refl _) _
 have hbs:w.heap.size < wb.heap.size:=by rw [hwb];simp
 have hc0:wb.cell? ⟨w.heap.size,0,none⟩=some (.slice ao fs.length cap):=by rw [hwb];exact (cell_of_row _ _ 0 _ _ (0,0) (heap_alloc_new w _)).trans rfl
 obtain ⟨NM,HNM⟩:∃ NM,Hid (segNm (n:Int)=NM):=⟨_,rfl⟩
 have HN:Hid (∀ W:World,Calls Tryz.prog 84 #[.int .i64 (n:Int)] W fun e w' => e=.returned (.string NM)∧Below W.heap.size W w'):=fun W => by rw [← HNM.out];exact specSegName_any (n:Int) W
 have HAT:Hid (∀ W,Below wb.heap.size wb W→Calls Tryz.prog 83 #[.agg #[.slice ao fs.length cap],.string NM] W fun e w' => e=.returned (.tuple #[.string F.text,.bool true])∧Below W.heap.size W w'):=fun W hW => specFileAt_some fs ao cap NM W F hl (filesAt_keep (filesAt_keep HF.out HB0.out) hW) (by rw [← HNM.out];exact hF)
 have HRS:=hide (fun W => specReadSegment_any (n:Int) F.text W hFs)
 unfold SegLeft at HRS
 clear hfs hsz hF hFm
 generalize segFrom (n:Int) F.text=f0 at HRS
 generalize segBatches (n:Int) F.text=bs0 at HRS
 generalize segOk (n:Int) F.text=ok0 at HRS
 go_enter Tryz.func99,Tryz.ntmps99
 go_wp2_with fail
 rw [← hwb]
 clear hwb
 go_region_held3 (fun w' => w'.cell? ⟨w.heap.size,0,none⟩=some (.slice ao fs.length cap)) (first | go_keep | (exact hc0) | (exact (b1.cell (p:=⟨w.heap.size,0,none⟩) hbs).trans hc0) | (exact ((b1.trans (b2.mono b1.size)).cell (p:=⟨w.heap.size,0,none⟩) hbs).trans hc0)) ((first | (go_at_call 84;refine (HN.out _).mono ?_;rintro e w1 ⟨rfl,b1⟩) | (go_at_call 83;refine (HAT.out _ (by first | exact b1 | exact (Below.refl _ _).drew.trans b1)).mono ?_;rintro e w2 ⟨rfl,b2⟩)))
 have B2:Hid (Below wb.heap.size wb w2):=(Below.refl _ _).drew.trans (b1.trans (b2.mono b1.size))
 clear b1 b2
 go_wp2_with fail
 refine (HRS.out _).mono ?_
 rintro e w3 ⟨⟨v3,rfl,r3⟩,b3⟩
 obtain ⟨a3,c3,rfl,-⟩:=rowBatch_at r3
 have B3:=hide (HB0.out.trans ((B2.out.trans (b3.mono B2.out.size)).mono HB0.out.size))
 have R3:=hide (rowBatch_le r3 (by have:=B2.out.size;omega:w.heap.size≤w2.heap.size))
 clear r3 b3
 go_wp2
 go_ret
 exact ⟨⟨_,rfl,R3.out⟩,B3.out⟩
theorem Tryz.infoSeg:(Tryz.prog.info? 162).map (fun i => (i.zero,i.size,i.bytes))=some (some (.agg #[.int .i64 0,.int .i64 0,.slice none 0 0,.slice none 0 0,.int .i64 0,.bool false,.bool false]),7,80):=by kernel_rfl
theorem rowBatch_far {w w':World} {B:Nat} {v:Value} {bs:List BatchD} {r:Option Nat} (h:RowBatch w B v bs) (hg:w.grownBy w' r) (hr:∀ g,r=some g→∃ C t,w.heap[g]? = some (.cells C t (0,0))∧t ≠ 109∧t ≠ 55):RowBatch w' B v bs:=by
 rcases h with h | ⟨g,cap,C,rfl,hB,hC,hs,hI⟩
 · exact .inl h
 ·
  refine .inr ⟨g,cap,C,rfl,hB,(hg.block g (Array.getElem?_eq_some_iff.1 hC).1 (fun e => ?_)).trans hC,hs,fun j hj => ?_,hI.2⟩
  ·
   obtain ⟨C',t,h1,h2,h3⟩:=hr g e.symm
   rw [hC] at h1
   cases h1
   exact h2 rfl
  ·
   obtain ⟨k1,x,k2,k3,k4⟩:=hI.1 j hj
   refine ⟨k1,x,k2,rowChange_grown k3 hg (fun k hk e => ?_),k4⟩
   obtain ⟨C1,h0⟩:=change_block k3 hk
   obtain ⟨C',t,h1,h2,h3⟩:=hr k e.symm
   rw [h0] at h1
   cases h1
   exact h3 rfl
def RowNat (w:World) (B:Nat) (v:Value) (l:List Nat):Prop:=w.ownsRow B 3 1 v l.length (l.map iv)
theorem rowNat_below {w w':World} {B:Nat} {v:Value} {l:List Nat} (h:RowNat w B v l) (hb:Below w.heap.size w w'):RowNat w' B v l:=ownsRow_below h hb
theorem rowNat_le {w:World} {B B':Nat} {v:Value} {l:List Nat} (h:RowNat w B v l) (hB:B'≤B):RowNat w B' v l:=ownsRow_mono h hB
theorem rowNat_nil (w:World) (B:Nat):RowNat w B (.slice none 0 0) []:=World.ownsRow_nil _ _ _ _
theorem rowNat_form {w:World} {B:Nat} {v:Value} {l:List Nat} (h:RowNat w B v l):∃ ao cap,v=.slice ao l.length cap:=slice_form h
theorem rowNat_far {w w':World} {B:Nat} {v:Value} {l:List Nat} {r:Option Nat} (h:RowNat w B v l) (hg:w.grownBy w' r) (hr:∀ g,r=some g→∃ C t,w.heap[g]? = some (.cells C t (0,0))∧t ≠ 3):RowNat w' B v l:=by
 refine World.ownsRow.kept h hg ?_
 cases hv:v.ownBlock with
 | none => exact .inl rfl
 | some g =>
  refine .inr (fun e => ?_)
  obtain ⟨C,hC⟩:=owns_block h hv
  obtain ⟨C',t,h1,h2⟩:=hr g e.symm
  rw [hC] at h1
  cases h1
  exact h2 rfl
theorem rowNat_at {w:World} {B n cap:Nat} {ao:Option Addr} {l:List Nat} (h:RowNat w B (.slice ao n cap) l) (j:Nat) (hj:j < l.length):∃ g,ao=some ⟨g,0,none⟩∧g < w.heap.size∧w.cell? ⟨g,j,none⟩=some (.int .i64 (l[j]:Int)):=by
 rcases h.2 with ⟨_,hn⟩ | ⟨g,cap',cur,hv,hB,hC,hle,_,hs,ht⟩
 · omega
 ·
  cases hv
  refine ⟨g,rfl,(Array.getElem?_eq_some_iff.1 hC).1,?_⟩
  exact (cell_of_row w g j _ _ (0,0) hC).trans (take_getChange ht (by omega) (by simp [iv,hj]))
def cellsSeg:List SegD→List Value→List Value→List Value
 | s :: r,x :: y,p :: q => .int .i64 (s.num:Int) :: .int .i64 (s.frm:Int) :: x :: p :: .int .i64 (s.fin:Int) :: .bool s.right :: .bool s.torn :: cellsSeg r y q
 | _,_,_ => []
theorem cellsSeg_append:∀ (a:List SegD) (y q:List Value) (s:SegD) (x p:Value),y.length=a.length→q.length=a.length→cellsSeg (a ++ [s]) (y ++ [x]) (q ++ [p])=cellsSeg a y q ++ [.int .i64 (s.num:Int),.int .i64 (s.frm:Int),x,p,.int .i64 (s.fin:Int),.bool s.right,.bool s.torn]
 | [],[],[],_,_,_,_,_ => rfl
 | [],_ :: _,_,_,_,_,h,_ => absurd h (by simp)
 | [],[],_ :: _,_,_,_,_,h => absurd h (by simp)
 | _ :: _,[],_,_,_,_,h,_ => absurd h (by simp)
 | _ :: _,_ :: _,[],_,_,_,_,h => absurd h (by simp)
 | A :: r,z :: y,u :: q,s,x,p,h,h' => by simp only [List.cons_append,cellsSeg];rw [cellsSeg_append r y q s x p (by simpa using h) (by simpa using h')]
theorem cellsSeg_get:∀ (a:List SegD) (y q:List Value) (j:Nat) (s:SegD) (x p:Value),a[j]? = some s→y[j]? = some x→q[j]? = some p→(cellsSeg a y q)[j * 7]? = some (.int .i64 (s.num:Int))∧(cellsSeg a y q)[j * 7+1]? = some (.int .i64 (s.frm:Int))∧(cellsSeg a y q)[j * 7+2]? = some x ∧
  (cellsSeg a y q)[j * 7+3]? = some p∧(cellsSeg a y q)[j * 7+4]? = some (.int .i64 (s.fin:Int))∧(cellsSeg a y q)[j * 7+5]? = some (.bool s.right)∧(cellsSeg a y q)[j * 7+6]? = some (.bool s.torn)
 | [],_,_,_,_,_,_,h,_,_ => absurd h (by simp)
 | _ :: _,[],_,_,_,_,_,_,h,_ => absurd h (by simp)
 | _ :: _,_ :: _,[],_,_,_,_,_,_,h => absurd h (by simp)
 | A :: r,z :: y,u :: q,0,s,x,p,h,h',h2 => by simp at h h' h2;subst h h' h2;simp [cellsSeg]
 | A :: r,z :: y,u :: q,j+1,s,x,p,h,h',h2 => by
  have:=cellsSeg_get r y q j s x p (by simpa using h) (by simpa using h') (by simpa using h2)
  have e:(j+1) * 7=j * 7+7:=by omega
  simp only [cellsSeg,e]
  simpa using this
def BuildG (w:World) (B K:Nat) (v:Value) (l:List SegD):Prop :=
 ∃ vs ps:List Value,vs.length=l.length∧ps.length=l.length∧w.ownsRow B 162 7 v l.length (cellsSeg l vs ps)∧(∀ (j:Nat) (x:Value) (s:SegD),vs[j]? = some x→l[j]? = some s→RowBatch w K x s.bs) ∧
  (∀ (j:Nat) (x:Value) (s:SegD),ps[j]? = some x→l[j]? = some s→RowNat w K x s.pls)
theorem buildG_nil (w:World) (B K:Nat):BuildG w B K (.slice none 0 0) []:=⟨[],[],rfl,rfl,World.ownsRow_nil _ _ _ _,fun j x b h => by simp at h,fun j x b h => by simp at h⟩
theorem buildG_below {w w':World} {B K:Nat} {v:Value} {l:List SegD} (h:BuildG w B K v l) (hb:Below w.heap.size w w'):BuildG w' B K v l:=by
 obtain ⟨vs,ps,h0,h1,h2,h3,h4⟩:=h
 exact ⟨vs,ps,h0,h1,ownsRow_below h2 hb,fun j x b hx hj => rowBatch_below (h3 j x b hx hj) hb,fun j x b hx hj => rowNat_below (h4 j x b hx hj) hb⟩
theorem buildG_mono {w:World} {B B' K K':Nat} {v:Value} {l:List SegD} (h:BuildG w B K v l) (hB:B'≤B) (hK:K'≤K):BuildG w B' K' v l:=by
 obtain ⟨vs,ps,h0,h1,h2,h3,h4⟩:=h
 exact ⟨vs,ps,h0,h1,ownsRow_mono h2 hB,fun j x b hx hj => rowBatch_le (h3 j x b hx hj) hK,fun j x b hx hj => rowNat_le (h4 j x b hx hj) hK⟩
theorem buildG_form {w:World} {B K:Nat} {v:Value} {l:List SegD} (h:BuildG w B K v l):∃ ao cap,v=.slice ao l.length cap:=by
 obtain ⟨vs,ps,-,-,h2,-⟩:=h
 exact slice_form h2
theorem buildG_at {w:World} {B K cap n:Nat} {ao:Option Addr} {l:List SegD} (h:BuildG w B K (.slice ao n cap) l) (j:Nat) (hj:j < l.length):∃ g,ao=some ⟨g,0,none⟩∧g < w.heap.size ∧
  w.cell? ⟨g,j * 7,none⟩=some (.int .i64 (l[j].num:Int))∧w.cell? ⟨g,j * 7+1,none⟩=some (.int .i64 (l[j].frm:Int))∧(∃ a c,w.cell? ⟨g,j * 7+2,none⟩=some (.slice a l[j].bs.length c)∧RowBatch w K (.slice a l[j].bs.length c) l[j].bs) ∧
  (∃ a c,w.cell? ⟨g,j * 7+3,none⟩=some (.slice a l[j].pls.length c)∧RowNat w K (.slice a l[j].pls.length c) l[j].pls)∧w.cell? ⟨g,j * 7+4,none⟩=some (.int .i64 (l[j].fin:Int))∧w.cell? ⟨g,j * 7+5,none⟩=some (.bool l[j].right)∧w.cell? ⟨g,j * 7+6,none⟩=some (.bool l[j].torn):=by
 obtain ⟨vs,ps,h0,h1,h2,h3,h4⟩:=h
 rcases h2.2 with ⟨_,hn⟩ | ⟨g,cap',cur,hv,hB,hC,hle,_,hs,ht⟩
 · omega
 ·
  cases hv
  obtain ⟨x,hx⟩:∃ x,vs[j]? = some x:=⟨vs[j]'(by omega),List.getElem?_eq_getElem (by omega)⟩
  obtain ⟨p,hp⟩:∃ x,ps[j]? = some x:=⟨ps[j]'(by omega),List.getElem?_eq_getElem (by omega)⟩
  obtain ⟨k1,k2,k3,k4,k5,k6,k7⟩:=cellsSeg_get l vs ps j l[j] x p (List.getElem?_eq_getElem hj) hx hp
  have hr:=h3 j x l[j] hx (List.getElem?_eq_getElem hj)
  have hq:=h4 j p l[j] hp (List.getElem?_eq_getElem hj)
  obtain ⟨a,c,rfl,-⟩:=rowBatch_at hr
  obtain ⟨a',c',rfl⟩:=rowNat_form hq
  refine ⟨g,rfl,(Array.getElem?_eq_some_iff.1 hC).1,?_,?_,⟨a,c,?_,hr⟩,⟨a',c',?_,hq⟩,?_,?_,?_⟩
  · exact (cell_of_row w g (j * 7) _ _ (0,0) hC).trans (take_getChange ht (by omega) k1)
  · exact (cell_of_row w g (j * 7+1) _ _ (0,0) hC).trans (take_getChange ht (by omega) k2)
  · exact (cell_of_row w g (j * 7+2) _ _ (0,0) hC).trans (take_getChange ht (by omega) k3)
  · exact (cell_of_row w g (j * 7+3) _ _ (0,0) hC).trans (take_getChange ht (by omega) k4)
  · exact (cell_of_row w g (j * 7+4) _ _ (0,0) hC).trans (take_getChange ht (by omega) k5)
  · exact (cell_of_row w g (j * 7+5) _ _ (0,0) hC).trans (take_getChange ht (by omega) k6)
  · exact (cell_of_row w g (j * 7+6) _ _ (0,0) hC).trans (take_getChange ht (by omega) k7)
theorem seg_one {w:World} {B:Nat} {x y:Value} {bs:List BatchD} {ps:List Nat} (h:RowBatch w B x bs) (h2:RowNat w B y ps) (p q r:Int) (b b':Bool):∀ u ∈ [.int .i64 p,.int .i64 q,x,y,.int .i64 r,.bool b,.bool b'],Value.oneCell' u=true:=by
 obtain ⟨a,c,rfl,-⟩:=rowBatch_at h
 obtain ⟨a,c,rfl⟩:=rowNat_form h2
 intro u hu
 simp only [List.mem_cons,List.not_mem_nil,or_false] at hu
 rcases hu with rfl | rfl | rfl | rfl | rfl | rfl | rfl <;> rfl
theorem app_seg {ops:Array Oper} {rest:List Oper} {o:Oper} {a:Act} {Q:Exit→Act→World→Prop} (W:World) (B K:Nat) (hgd:o.guard=none) (s y:Operand)
  (ho:o.op=.call { callee:=.builtin .append,args:=#[s,y],argTypes:=#[126,126] }) (v x p:Value) (l:List SegD) (b:SegD) (hs:a.eval s=v)
  (hbuild:BuildG W B K v l) (hB:B≤W.heap.size) (hx:RowBatch W K x b.bs) (hp:RowNat W K p b.pls) (k:Nat) (hy:a.eval y=.slice (some ⟨k,0,none⟩) 1 1) (hblk:W.heap[k]? = some (.cells #[.int .i64 (b.num:Int),.int .i64 (b.frm:Int),x,p,.int .i64 (b.fin:Int),.bool b.right,.bool b.torn] 162 (0,0)))
  (hlen:l.length≤1048576)
  (h:∀ g cap w',BuildG w' B K (.slice (some ⟨g,0,none⟩) (l.length+1) cap) (l ++ [b])→Below B W w'→W.grownBy w' v.ownBlock→wpList Tryz.prog ops Q rest (a.put o.dst (.slice (some ⟨g,0,none⟩) (l.length+1) cap)) w') :
  wpList Tryz.prog ops Q (o :: rest) a W:=by
 obtain ⟨i0,hi,hz0,hz1,hz2⟩:=info_parts Tryz.infoSeg
 obtain ⟨vs,ps,h0,h1,h2,h3,h4⟩:=hbuild
 refine wpList_append_lies W hgd s y 126 ho B 162 i0 (.agg #[.int .i64 0,.int .i64 0,.slice none 0 0,.slice none 0 0,.int .i64 0,.bool false,.bool false]) 7 80 Tryz.underlying126 hi hz0 hz1 hz2 rfl (by decide) v l.length (cellsSeg l vs ps) hs h2 ⟨k,0,none⟩ 1 1 [.int .i64 (b.num:Int),.int .i64 (b.frm:Int),x,p,.int .i64 (b.fin:Int),.bool b.right,.bool b.torn] hy rfl
  (fun j u hj => World.news_of_block hblk j u hj) (seg_one hx hp _ _ _ _ _) (by omega) (by unfold maxLen;omega) (by omega) hB W.heap.size rfl ?_
 intro g cap w' hown' hgrow hg hgl
 have far:∀ g,v.ownBlock=some g→∃ C t,W.heap[g]? = some (.cells C t (0,0))∧t ≠ 109∧t ≠ 55:=fun g hg => by
  obtain ⟨C,hC⟩:=owns_block h2 hg
  exact ⟨C,_,hC,by decide,by decide⟩
 have farN:∀ g,v.ownBlock=some g→∃ C t,W.heap[g]? = some (.cells C t (0,0))∧t ≠ 3:=fun g hg => by
  obtain ⟨C,hC⟩:=owns_block h2 hg
  exact ⟨C,_,hC,by decide⟩
 refine h g cap w' ⟨vs ++ [x],ps ++ [p],by simp [h0],by simp [h1],?_,?_,?_⟩ ((Below.refl B W).grown hgrow hB (fun k hk => (h2.lt k hk).1)) hgrow
 ·
  rw [cellsSeg_append l vs ps b x p h0 h1,List.length_append]
  exact hown'
 ·
  intro j z c hz hc
  by_cases hj:j < l.length
  ·
   rw [List.getElem?_append_left (by omega)] at hz
   rw [List.getElem?_append_left hj] at hc
   exact rowBatch_far (h3 j z c hz hc) hgrow far
  ·
   have hlt:j < (l ++ [b]).length:=(List.getElem?_eq_some_iff.1 hc).1
   have hje:j=l.length:=by simp at hlt;omega
   subst hje
   rw [List.getElem?_append_right (by omega)] at hz
   rw [List.getElem?_append_right (Nat.le_refl _)] at hc
   simp [h0] at hz hc
   subst hz hc
   exact rowBatch_far hx hgrow far
 ·
  intro j z c hz hc
  by_cases hj:j < l.length
  ·
   rw [List.getElem?_append_left (by omega)] at hz
   rw [List.getElem?_append_left hj] at hc
   exact rowNat_far (h4 j z c hz hc) hgrow farN
  ·
   have hlt:j < (l ++ [b]).length:=(List.getElem?_eq_some_iff.1 hc).1
   have hje:j=l.length:=by simp at hlt;omega
   subst hje
   rw [List.getElem?_append_right (by omega)] at hz
   rw [List.getElem?_append_right (Nat.le_refl _)] at hc
   simp [h1] at hz hc
   subst hz hc
   exact rowNat_far hp hgrow farN
end Go.Proofs.YtbenmgokhklnjaaGreatDoor
