import Derived.Deep.LoopGhost
import Derived.Test.YtepdckehokdjlaaGreatDoorMg11
import Derived.Test.YtepdckehokdjlaaGreatDoorMg18
import Derived.Test.YtepdckehokdjlaaGreatDoorMg6
set_option maxRecDepth 100000
set_option maxHeartbeats 1600000
namespace Go.Proofs.YtepdckehokdjlaaGreatDoor
open Go.RowKit Go.Shelf
theorem fileAt_none (fs:List FileD) (ao:Option Addr) (cap:Nat) (nm:ByteArray) (w:World) (hl:fs.length≤1048576) (hfs:FilesAt w ao fs) (hsz:∀ F ∈ fs,F.name.size≤1048576∧F.text.size≤1048576) (h:fileD fs nm=none) :
  Calls Tryz.prog 118 #[.agg #[.slice ao fs.length cap],.string nm] w fun e w' => e=.returned (.tuple #[.string ⟨#[]⟩,.bool false])∧Below w.heap.size w w':=by
 refine (fileAt_any fs ao cap nm w hl hfs hsz).mono ?_
 rintro e w' ⟨⟨-,rfl⟩ | ⟨F,hF,-⟩,hb⟩
 · exact ⟨rfl,hb⟩
 · rw [h] at hF;cases hF
theorem fileAt_some (fs:List FileD) (ao:Option Addr) (cap:Nat) (nm:ByteArray) (w:World) (F:FileD) (hl:fs.length≤1048576) (hfs:FilesAt w ao fs) (hsz:∀ F ∈ fs,F.name.size≤1048576∧F.text.size≤1048576) (h:fileD fs nm=some F) :
  Calls Tryz.prog 118 #[.agg #[.slice ao fs.length cap],.string nm] w fun e w' => e=.returned (.tuple #[.string F.text,.bool true])∧Below w.heap.size w w':=by
 refine (fileAt_any fs ao cap nm w hl hfs hsz).mono ?_
 rintro e w' ⟨⟨hn,-⟩ | ⟨G,hG,-,rfl⟩,hb⟩
 · rw [h] at hn;cases hn
 · rw [h] at hG;cases hG;exact ⟨rfl,hb⟩
theorem segmentFiles_any (fs:List FileD) (ao:Option Addr) (cap:Nat) (w:World) (hl:fs.length≤1048576) (hfs:FilesAt w ao fs) (hsz:∀ F ∈ fs,F.name.size≤1048576∧F.text.size≤1048576) (hT:SumTab w) :
  Calls Tryz.prog 142 #[.agg #[.slice ao fs.length cap],.func (.func 137) #[] #[]] w fun e w' => (∃ v,e=.returned v∧BuildG w' w.heap.size w.heap.size v (segsTo fs 100))∧Below w.heap.size w w':=by
 have HF:=hide hfs
 have HS:=hide hsz
 have HT:=hide hT
 clear hfs hsz hT
 obtain ⟨wb,hwb⟩:∃ wb,wb=w.alloc (.cells #[.slice ao fs.length cap] 31):=⟨_,rfl⟩
 have HB0:Hid (Below w.heap.size w wb):=by rw [hwb];exact (Below.refl _ w).alloc (Nat.le_refl _) _
 have hbs:w.heap.size+1≤wb.heap.size:=by rw [hwb];simp
 have HBC:Hid (wb.cell? ⟨w.heap.size,0,none⟩=some (.slice ao fs.length cap)):=by rw [hwb];exact (cell_of_row _ _ 0 _ _ (0,0) (heap_alloc_new w _)).trans rfl
 go_enter Tryz.func142,Tryz.ntmps142
 go_wp2_with fail
 rw [← hwb]
 clear hwb
 go_loopw [5,9] (fun vo ii wr => ∃ (k:Nat),ii=.int .i64 k∧k≤100∧Hid (BuildG wr (w.heap.size+1) (w.heap.size+1) vo (segsTo fs k))∧Hid (Below (w.heap.size+1) wb wr)) (fun _ ii _ => 100 - (intOf ii).toNat)
 case atStart => exact ⟨0,rfl,Nat.zero_le _,buildG_nil _ _ _,Below.refl _ _⟩
 case round =>
  obtain ⟨k,rfl,hk,HG,HB⟩:=hrel
  have hws:w.heap.size+1≤wr.heap.size:=by have:=HB.out.size;omega
  have hlt0:w.heap.size < wr.heap.size:=by omega
  have HBw:Hid (Below w.heap.size w wr):=HB0.out.trans (HB.out.mono (by omega))
  by_cases hlt:k < 100
  ·
   have hlt':decide ((k:Int) < 100)=true:=by simp;omega
   have hc0:wr.cell? ⟨w.heap.size,0,none⟩=some (.slice ao fs.length cap):=(HB.out.cell (p:=⟨w.heap.size,0,none⟩) (by show w.heap.size < _;omega)).trans HBC.out
   have hsl:=segsTo_len fs k
   obtain ⟨NM,HNM⟩:∃ NM,Hid (segNm (k:Int)=NM):=⟨_,rfl⟩
   have HN:Hid (∀ W:World,Calls Tryz.prog 137 #[.int .i64 (k:Int)] W fun e w' => e=.returned (.string NM)∧w' = W):=fun W => by rw [← HNM.out];exact name_any (k:Int) W
   cases hf:fileD fs (segNm k) with
   | none =>
    have HE:=hide (segsTo_none hf)
    have HFA:Hid (∀ W,Below wr.heap.size wr W→Calls Tryz.prog 118 #[.agg #[.slice ao fs.length cap],.string NM] W fun e w' => e=.returned (.tuple #[.string ⟨#[]⟩,.bool false])∧Below W.heap.size W w'):=fun W hW => fileAt_none fs ao cap NM W hl (filesAt_keep (filesAt_keep HF.out HBw.out) hW) HS.out (by rw [← HNM.out];exact hf)
    clear hf
    obtain ⟨ag,cg,hvo⟩:=buildG_form HG.out
    subst hvo
    go_wp2_with fail
    go_region_held3 (fun w' => w'.cell? ⟨w.heap.size,0,none⟩=some (.slice ao fs.length cap)) (first | go_keep | (exact hc0) | (exact (b1.cell (p:=⟨w.heap.size,0,none⟩) hlt0).trans hc0)) ((first | (go_at_call 137;refine (HN.out _).mono ?_;rintro e w' ⟨rfl,rfl⟩) | (go_at_call 118;refine (HFA.out _ (by first | exact Below.refl _ _ | exact (Below.refl _ _).drew)).mono ?_;rintro e w1 ⟨rfl,b1⟩)))
    have B1:Hid (Below wr.heap.size wr w1):=(Below.refl _ _).drew.trans b1
    clear b1
    go_wp2_with fail
    go_roundw
    case rel => exact ⟨k+1,by go_num,by omega,by show BuildG _ _ _ _ _;rw [HE.out];exact buildG_below HG.out B1.out,HB.out.trans (B1.out.mono hws)⟩
    case measure => simp [intOf];omega
   | some F =>
    have HE:=hide (segsTo_some hf)
    have hFm:=List.mem_of_find?_eq_some hf
    have hFs:=(HS.out F hFm).2
    have HFA:Hid (∀ W,Below wr.heap.size wr W→Calls Tryz.prog 118 #[.agg #[.slice ao fs.length cap],.string NM] W fun e w' => e=.returned (.tuple #[.string F.text,.bool true])∧Below W.heap.size W w'):=fun W hW => fileAt_some fs ao cap NM W F hl (filesAt_keep (filesAt_keep HF.out HBw.out) hW) HS.out (by rw [← HNM.out];exact hf)
    have HRS:=hide (fun W hW => segmentOf_any (k:Int) F.text W hFs hW)
    unfold SegAns at HRS
    have HSO:Hid (segOfFile k F=⟨k,segFrom (k:Int) F.text,segBatches (k:Int) F.text,segEnd (k:Int) F.text,segOk (k:Int) F.text,segTorn (k:Int) F.text⟩):=rfl
    have HPL:=hide (segOfFile_pls k F)
    rw [HSO.out] at HPL
    rw [← HPL.out] at HRS
    clear hf hFm HPL
    generalize segFrom (k:Int) F.text=f0 at HRS HSO
    generalize segBatches (k:Int) F.text=bs0 at HRS HSO
    generalize segEnd (k:Int) F.text=en0 at HRS HSO
    generalize segOk (k:Int) F.text=ok0 at HRS HSO
    generalize segTorn (k:Int) F.text=tn0 at HRS HSO
    rw [HSO.out] at HE
    obtain ⟨ag,cg,hvo⟩:=buildG_form HG.out
    subst hvo
    go_wp2_with fail
    go_region_held3 (fun w' => w'.cell? ⟨w.heap.size,0,none⟩=some (.slice ao fs.length cap)) (first | go_keep | (exact hc0) | (exact (b1.cell (p:=⟨w.heap.size,0,none⟩) hlt0).trans hc0)) ((first | (go_at_call 137;refine (HN.out _).mono ?_;rintro e w' ⟨rfl,rfl⟩) | (go_at_call 118;refine (HFA.out _ (by first | exact Below.refl _ _ | exact (Below.refl _ _).drew)).mono ?_;rintro e w1 ⟨rfl,b1⟩)))
    have B1:Hid (Below wr.heap.size wr w1):=(Below.refl _ _).drew.trans b1
    clear b1
    go_wp2_with fail
    refine (HRS.out _ (sumTab_later (HBw.out.trans (B1.out.mono HBw.out.size)) HT.out)).mono ?_
    rintro e w2 ⟨⟨v2,p2,rfl,r2,q2⟩,b2⟩
    obtain ⟨a2,c2,rfl,-⟩:=rowBatch_at r2
    obtain ⟨a3,c3,rfl⟩:=rowNat_form q2
    have R2:=hide r2
    have Q2:=hide q2
    have B2:=hide (B1.out.trans (b2.mono B1.out.size))
    clear r2 q2 b2
    have hw2:wr.heap.size≤w2.heap.size:=B2.out.size
    have hw1:wr.heap.size≤w1.heap.size:=B1.out.size
    go_wp2_with (at_builtin;refine app_seg _ (w.heap.size+1) (w.heap.size+1) (by rfl) _ _ (by rfl) (.slice ag (segsTo fs k).length cg) (.slice a2 bs0.length c2) (.slice a3 (SegD.pls ⟨k,f0,bs0,en0,ok0,tn0⟩).length c3) (segsTo fs k) ⟨k,f0,bs0,en0,ok0,tn0⟩ (by rfl) (buildG_below HG.out (B2.out.alloc hw2 _)) (by simp;omega) (rowBatch_below (rowBatch_le R2.out (by omega)) ((Below.refl _ _).alloc (Nat.le_refl _) _)) (rowNat_below (rowNat_le Q2.out (by omega)) ((Below.refl _ _).alloc (Nat.le_refl _) _)) w2.heap.size (by rfl) (heap_alloc_new w2 _) (by omega) ?_;intro g3 cap3 w3 hg3 hb3 hgr3;have G3:=hide hg3;have B3:=hide hb3;clear hg3 hb3 hgr3)
    go_roundw
    case rel =>
     refine ⟨k+1,by go_num,by omega,?_,(HB.out.trans ((B2.out.mono hws).alloc (by omega) _)).trans B3.out⟩
     show BuildG _ _ _ _ _
     rw [HE.out]
     exact G3.out
    case measure => simp [intOf];omega
  ·
   have hlt':decide ((k:Int) < 100)=false:=by simp;omega
   have hke:k=100:=by omega
   subst hke
   go_wp2
   go_ret
   exact ⟨⟨_,rfl,buildG_mono HG.out (by omega) (by omega)⟩,HBw.out⟩
theorem greatestFrom_any (l:List SegD) (v:Value) (B K:Nat) (w:World) (hl:l.length≤100) (hf:∀ s ∈ l,s.frm≤99) (h:BuildG w B K v l) :
  Calls Tryz.prog 143 #[v] w fun e w' => e=.returned (.int .i64 (topFrom l:Int))∧Below w.heap.size w w':=by
 obtain ⟨ao,cap,rfl⟩:=buildG_form h
 have HG:=hide h
 have HFR:=hide hf
 clear h hf
 go_enter Tryz.func143,Tryz.ntmps143
 go_wp2_with fail
 go_loopw [3,8] (fun vm ii wr => ∃ (k:Nat),vm=.int .i64 (topFrom (l.take k):Int)∧ii=.int .i64 k∧k≤l.length∧Hid (Below w.heap.size w wr)) (fun _ ii _ => l.length - (intOf ii).toNat)
 case atStart => exact ⟨0,rfl,rfl,Nat.zero_le _,Below.refl _ _⟩
 case round =>
  obtain ⟨k,rfl,rfl,hk,HB⟩:=hrel
  by_cases hlt:k < l.length
  ·
   have hlt':decide ((k:Int) < (l.length:Int))=true:=by simp;omega
   have hi0:(0:Int)≤(k:Int):=by omega
   have hi1:(k:Int) < (l.length:Int):=by omega
   obtain ⟨g,rfl,hgw,hc0,hc1,⟨a,c,hc2,-⟩,⟨a',c',hc3,-⟩,hc4,hc5,hc6⟩:=buildG_at (buildG_below HG.out HB.out) k hlt
   have hfr:=HFR.out l[k] (List.getElem_mem hlt)
   have htk:=hide (show topFrom (l.take (k+1))=max (topFrom (l.take k)) l[k].frm by rw [List.take_succ_eq_append_getElem hlt,topFrom_snoc])
   have htl:=topFrom_le (l.take k) 99 (fun s hs => HFR.out s (List.mem_of_mem_take hs))
   generalize topFrom (l.take k)=M at htk htl
   generalize l[k]=F at hc0 hc1 hc2 hc3 hc4 hc5 hc6 hfr htk
   have hx:=heap_alloc_new wr (.cells #[.int .i64 (F.num:Int),.int .i64 (F.frm:Int),.slice a F.bs.length c,.slice a' F.pls.length c',.int .i64 (F.fin:Int),.bool F.right,.bool F.torn] 158)
   have hx1:(wr.alloc (.cells #[.int .i64 (F.num:Int),.int .i64 (F.frm:Int),.slice a F.bs.length c,.slice a' F.pls.length c',.int .i64 (F.fin:Int),.bool F.right,.bool F.torn] 158)).cell? ⟨wr.heap.size,1,none⟩=some (.int .i64 (F.frm:Int)):=(cell_of_row _ _ 1 _ _ (0,0) hx).trans rfl
   clear hx
   go_wp2_with fail
   go_roundw
   case rel =>
    refine ⟨k+1,?_,by go_num,by omega,HB.out.alloc HB.out.size _⟩
    rw [htk.out]
    congr 1
    omega
   case measure => simp [intOf];omega
  ·
   have hlt':decide ((k:Int) < (l.length:Int))=false:=by simp;omega
   have hke:k=l.length:=by omega
   subst hke
   have hE:=hide (show topFrom (l.take l.length)=topFrom l by rw [List.take_length])
   rw [hE.out]
   go_wp2
   go_ret
   exact ⟨rfl,HB.out⟩
end Go.Proofs.YtepdckehokdjlaaGreatDoor
namespace Go.Proofs.YtepdckehokdjlaaGreatDoor
open Go.RowKit
theorem rdChanges_le (t:ByteArray):(rdChanges t).length≤40:=by
 cases h:rdOk t
 ·
  unfold rdChanges
  rw [h]
  exact Nat.zero_le _
 ·
  have h1:=(rd_text h).1
  unfold textOkD at h1
  simp only [Bool.and_eq_true] at h1
  exact (batchOkD_bounds h1.1).2.2.2
theorem ris_chs (s:ByteArray):∀ (l:List (Nat × Nat)) (last:Int) (e:Nat),∀ b ∈ (ris s l last e).1,b.chs.length≤40
 | [],_,_,_,h => absurd h List.not_mem_nil
 | x :: r,last,e,b,h => by
  by_cases hc:rdOk (s.extract x.1 x.2)=true∧last < rdSeq (s.extract x.1 x.2)
  ·
   rw [ris_more hc.1 hc.2] at h
   rcases List.mem_cons.1 h with rfl | h
   · exact rdChanges_le _
   · exact ris_chs s r _ _ b h
  ·
   rw [ris_no hc] at h
   exact absurd h List.not_mem_nil
theorem segBatches_bounds (n:Int) (s:ByteArray):(segBatches n s).length≤20001∧∀ b ∈ segBatches n s,b.chs.length≤40:=by
 cases hr:segRead n s with
 | none =>
  rw [(seg_none hr).2.1]
  exact ⟨Nat.zero_le _,fun b h => absurd h List.not_mem_nil⟩
 | some q =>
  obtain ⟨f,bs,e⟩:=q
  rw [(seg_some hr).2.1]
  cases hu:unf s with
  | nil => rw [segRead_nil hu] at hr;simp at hr
  | cons x r =>
   cases hh:hdFrom n (s.extract x.1 x.2) with
   | none => rw [segRead_head hu hh] at hr;simp at hr
   | some f' =>
    rw [segRead_some hu hh] at hr
    simp only [Option.some.injEq,Prod.mk.injEq] at hr
    have hb:bs=(ris s r (-1) x.2).1:=by rw [hr.2]
    rw [hb]
    have h1:=ris_len s r (-1) x.2
    have h2:=unf_len s
    rw [hu,List.length_cons] at h2
    exact ⟨by omega,ris_chs s r _ _⟩
end Go.Proofs.YtepdckehokdjlaaGreatDoor
namespace Go.Proofs.YtepdckehokdjlaaGreatDoor
open Go.RowKit Go.Shelf
theorem segmentsOf_any (fs:List FileD) (ao:Option Addr) (cap:Nat) (w:World) (hl:fs.length≤1048576) (hfs:FilesAt w ao fs) (hsz:∀ F ∈ fs,F.name.size≤1048576∧F.text.size≤1048576) (hT:SumTab w) :
  Calls Tryz.prog 113 #[.agg #[.slice ao fs.length cap]] w fun e w' => (∃ v,e=.returned (.tuple #[v,.bool (segsOk fs)])∧BuildG w' w.heap.size w.heap.size v (segsL fs))∧Below w.heap.size w w':=by
 have HF:=hide hfs
 have HS:=hide hsz
 have HT:=hide hT
 have HS2:Hid (∀ F ∈ fs,F.name.size≤maxLen∧F.text.size≤maxLen):=fun F hF => by have:=hsz F hF;unfold maxLen;omega
 clear hfs hsz hT
 obtain ⟨wb,hwb⟩:∃ wb,wb=w.alloc (.cells #[.slice ao fs.length cap] 31):=⟨_,rfl⟩
 have HB0:Hid (Below w.heap.size w wb):=by rw [hwb];exact (Below.refl _ w).alloc (Nat.le_refl _) _
 have hbs:w.heap.size+1≤wb.heap.size:=by rw [hwb];simp
 have HBC:Hid (wb.cell? ⟨w.heap.size,0,none⟩=some (.slice ao fs.length cap)):=by rw [hwb];exact (cell_of_row _ _ 0 _ _ (0,0) (heap_alloc_new w _)).trans rfl
 cases hok:diskOkD fs with
 | false =>
  obtain ⟨h1,h2⟩:=segsOk_disk hok
  rw [h1,h2]
  clear h1 h2
  go_enter Tryz.func113,Tryz.ntmps113
  go_wp2_with fail
  rw [← hwb]
  refine (diskOk_any fs ao cap _ hl (filesAt_keep HF.out HB0.out) HS2.out).mono ?_
  rintro e w1 ⟨rfl,b1⟩
  rw [hok]
  go_wp2
  go_ret2
  exact ⟨⟨_,rfl,buildG_nil _ _ _⟩,HB0.out.trans (b1.mono HB0.out.size)⟩
 | true =>
  obtain ⟨A,HA⟩:∃ A,Hid (segsTo fs 100=A):=⟨_,rfl⟩
  have hAl:A.length≤100:=by rw [← HA.out];exact segsTo_len fs 100
  have HAm:Hid (∀ s ∈ A,s.num < 100∧s.frm≤99):=by rw [← HA.out];exact fun s hs => ⟨(segsTo_mem hs).1,(segsTo_mem hs).2.1⟩
  obtain ⟨M,HM⟩:∃ M,Hid (topFrom A=M):=⟨_,rfl⟩
  have HC:Hid (segsC fs=counting M A):=by show _=_;unfold segsC;rw [HA.out,HM.out]
  have hMl:M≤99:=by rw [← HM.out];exact topFrom_le A 99 (fun s hs => (HAm.out s hs).2)
  have HSF:=hide (fun W hW hT => segmentFiles_any fs ao cap W hl hW HS.out hT)
  have HGF:=hide (fun v B K W h => greatestFrom_any A v B K W hAl (fun s hs => (HAm.out s hs).2) h)
  rw [HA.out] at HSF
  rw [HM.out] at HGF
  go_enter Tryz.func113,Tryz.ntmps113
  go_wp2_with fail
  rw [← hwb]
  clear hwb
  refine (diskOk_any fs ao cap _ hl (filesAt_keep HF.out HB0.out) HS2.out).mono ?_
  rintro e w1 ⟨rfl,b1⟩
  rw [hok]
  have B1:=hide (HB0.out.trans (b1.mono HB0.out.size))
  have hc1:w1.cell? ⟨w.heap.size,0,none⟩=some (.slice ao fs.length cap):=(b1.cell (p:=⟨w.heap.size,0,none⟩) (by show w.heap.size < _;omega)).trans HBC.out
  clear b1
  go_wp2_with fail
  refine (HSF.out _ (filesAt_keep HF.out B1.out) (sumTab_later B1.out HT.out)).mono ?_
  rintro e w2 ⟨⟨v2,rfl,g2⟩,b2⟩
  obtain ⟨a2,c2,rfl⟩:=buildG_form g2
  have G2:=hide (buildG_mono g2 B1.out.size B1.out.size)
  have B2:=hide (B1.out.trans (b2.mono B1.out.size))
  clear g2 b2 hc1
  go_wp2_with fail
  refine (HGF.out _ _ _ _ G2.out).mono ?_
  rintro e w3 ⟨rfl,b3⟩
  have G3:=hide (buildG_below G2.out b3)
  have B3:=hide (B2.out.trans (b3.mono B2.out.size))
  clear b3 G2 B2
  have hd:=hok
  clear hok
  go_wp2_with fail
  go_loopw [6,18] (fun vo ii wr => ∃ (k:Nat),ii=.int .i64 k∧k≤A.length∧Hid (BuildG wr w3.heap.size w.heap.size vo (counting M (A.take k)))∧Hid (allRight (counting M (A.take k))=true)∧Hid (Below w3.heap.size w3 wr)) (fun _ ii _ => A.length - (intOf ii).toNat)
  case atStart => exact ⟨0,rfl,Nat.zero_le _,buildG_nil _ _ _,rfl,Below.refl _ _⟩
  case round =>
   obtain ⟨k,rfl,hk,HG,HR,HB⟩:=hrel
   have hws:w3.heap.size≤wr.heap.size:=HB.out.size
   have hw3:w.heap.size≤w3.heap.size:=B3.out.size
   by_cases hlt:k < A.length
   ·
    have hlt':decide ((k:Int) < (A.length:Int))=true:=by simp;omega
    have hi0:(0:Int)≤(k:Int):=by omega
    have hi1:(k:Int) < (A.length:Int):=by omega
    obtain ⟨g,hg,hgw,hc0,hc1,⟨a,c,hc2,hrb⟩,⟨a',c',hc3,hrp⟩,hc4,hc5,hc6⟩:=buildG_at (buildG_below G3.out HB.out) k hlt
    obtain ⟨ag,cg,hvo⟩:=buildG_form HG.out
    subst hvo hg
    have HRB:=hide hrb
    have HRP:=hide hrp
    have htk:=hide (List.take_succ_eq_append_getElem hlt)
    have hdk:=hide (show A=A.take k ++ (A[k] :: A.drop (k+1)) by rw [← List.drop_eq_getElem_cons hlt,List.take_append_drop])
    clear hrb hrp
    have hcl:=counting_len M (A.take k)
    have htl:(A.take k).length≤100:=by rw [List.length_take];omega
    generalize A[k]=F at hc0 hc1 hc2 hc3 hc4 hc5 hc6 HRB HRP htk hdk
    have HXB:=heap_alloc_new wr (.cells #[.int .i64 (F.num:Int),.int .i64 (F.frm:Int),.slice a F.bs.length c,.slice a' F.pls.length c',.int .i64 (F.fin:Int),.bool F.right,.bool F.torn] 158)
    have BX:Hid (Below wr.heap.size wr (wr.alloc (.cells #[.int .i64 (F.num:Int),.int .i64 (F.frm:Int),.slice a F.bs.length c,.slice a' F.pls.length c',.int .i64 (F.fin:Int),.bool F.right,.bool F.torn] 158))):=(Below.refl _ wr).alloc (Nat.le_refl _) _
    have hx0:(wr.alloc (.cells #[.int .i64 (F.num:Int),.int .i64 (F.frm:Int),.slice a F.bs.length c,.slice a' F.pls.length c',.int .i64 (F.fin:Int),.bool F.right,.bool F.torn] 158)).cell? ⟨wr.heap.size,0,none⟩=some (.int .i64 (F.num:Int)):=(cell_of_row _ _ 0 _ _ (0,0) HXB).trans rfl
    have hx1:(wr.alloc (.cells #[.int .i64 (F.num:Int),.int .i64 (F.frm:Int),.slice a F.bs.length c,.slice a' F.pls.length c',.int .i64 (F.fin:Int),.bool F.right,.bool F.torn] 158)).cell? ⟨wr.heap.size,1,none⟩=some (.int .i64 (F.frm:Int)):=(cell_of_row _ _ 1 _ _ (0,0) HXB).trans rfl
    have hx2:(wr.alloc (.cells #[.int .i64 (F.num:Int),.int .i64 (F.frm:Int),.slice a F.bs.length c,.slice a' F.pls.length c',.int .i64 (F.fin:Int),.bool F.right,.bool F.torn] 158)).cell? ⟨wr.heap.size,2,none⟩=some (.slice a F.bs.length c):=(cell_of_row _ _ 2 _ _ (0,0) HXB).trans rfl
    have hx3:(wr.alloc (.cells #[.int .i64 (F.num:Int),.int .i64 (F.frm:Int),.slice a F.bs.length c,.slice a' F.pls.length c',.int .i64 (F.fin:Int),.bool F.right,.bool F.torn] 158)).cell? ⟨wr.heap.size,5,none⟩=some (.bool F.right):=(cell_of_row _ _ 5 _ _ (0,0) HXB).trans rfl
    have hx4:(wr.alloc (.cells #[.int .i64 (F.num:Int),.int .i64 (F.frm:Int),.slice a F.bs.length c,.slice a' F.pls.length c',.int .i64 (F.fin:Int),.bool F.right,.bool F.torn] 158)).cell? ⟨wr.heap.size,3,none⟩=some (.slice a' F.pls.length c'):=(cell_of_row _ _ 3 _ _ (0,0) HXB).trans rfl
    have hx5:(wr.alloc (.cells #[.int .i64 (F.num:Int),.int .i64 (F.frm:Int),.slice a F.bs.length c,.slice a' F.pls.length c',.int .i64 (F.fin:Int),.bool F.right,.bool F.torn] 158)).cell? ⟨wr.heap.size,4,none⟩=some (.int .i64 (F.fin:Int)):=(cell_of_row _ _ 4 _ _ (0,0) HXB).trans rfl
    have hx6:(wr.alloc (.cells #[.int .i64 (F.num:Int),.int .i64 (F.frm:Int),.slice a F.bs.length c,.slice a' F.pls.length c',.int .i64 (F.fin:Int),.bool F.right,.bool F.torn] 158)).cell? ⟨wr.heap.size,6,none⟩=some (.bool F.torn):=(cell_of_row _ _ 6 _ _ (0,0) HXB).trans rfl
    clear HXB
    by_cases hm:F.num < M
    ·
     have hm':decide ((F.num:Int) < (M:Int))=true:=by simp;omega
     go_wp2_with fail
     go_roundw
     case rel => exact ⟨k+1,by go_num,by omega,by show BuildG _ _ _ _ _;rw [htk.out,counting_snoc_out hm];exact buildG_below HG.out BX.out,by show _=_;rw [htk.out,counting_snoc_out hm];exact HR.out,HB.out.trans (BX.out.mono hws)⟩
     case measure => simp [intOf];omega
    ·
     have hm':decide ((F.num:Int) < (M:Int))=false:=by simp;omega
     cases hr:F.right with
     | false =>
      rw [hr] at hx3
      have hE:allRight (segsC fs)=false:=by
       rw [HC.out,hdk.out,counting_app]
       have:counting M (F :: A.drop (k+1))=F :: counting M (A.drop (k+1)):=List.filter_cons_of_pos (by simp;omega)
       rw [this,allRight_app]
       have:allRight (F :: counting M (A.drop (k+1)))=false:=by simp [allRight,hr]
       rw [this,Bool.and_false]
      have HE:=hide (segsOk_wrong hE)
      rw [hr] at BX hc5 hx0
      clear hE hr
      go_wp2
      go_ret2
      rw [HE.out.1,HE.out.2]
      exact ⟨⟨_,rfl,buildG_nil _ _ _⟩,(B3.out.trans (HB.out.mono hw3)).trans (BX.out.mono (by omega))⟩
     | true =>
      rw [hr] at hx3 hc5 BX hx0 hx1 hx2 hx4 hx5 hx6
      have HRT:=hide hr
      clear hr
      go_wp2_with (at_builtin;refine app_seg _ w3.heap.size w.heap.size (by rfl) _ _ (by rfl) (.slice ag (counting M (A.take k)).length cg) (.slice a F.bs.length c) (.slice a' F.pls.length c') (counting M (A.take k)) F (by rfl) (buildG_below (buildG_below HG.out BX.out) ((Below.refl _ _).alloc (Nat.le_refl _) _)) (by simp;omega) (rowBatch_below (rowBatch_below HRB.out BX.out) ((Below.refl _ _).alloc (Nat.le_refl _) _)) (rowNat_below (rowNat_below HRP.out BX.out) ((Below.refl _ _).alloc (Nat.le_refl _) _)) (wr.heap.size+1) (by rfl) (by have:=heap_alloc_new (wr.alloc (.cells #[.int .i64 (F.num:Int),.int .i64 (F.frm:Int),.slice a F.bs.length c,.slice a' F.pls.length c',.int .i64 (F.fin:Int),.bool true,.bool F.torn] 158)) (.cells #[.int .i64 (F.num:Int),.int .i64 (F.frm:Int),.slice a F.bs.length c,.slice a' F.pls.length c',.int .i64 (F.fin:Int),.bool true,.bool F.torn] 158);rw [HRT.out];simpa using this) (by omega) ?_;intro g3 cap3 w5 hg3 hb3 hgr3;have G5:=hide hg3;have B5:=hide hb3;clear hg3 hb3 hgr3)
      go_roundw
      case rel =>
       refine ⟨k+1,by go_num,by omega,?_,?_,(HB.out.trans ((BX.out.mono hws).alloc (by simp;omega) _)).trans B5.out⟩
       ·
        show BuildG _ _ _ _ _
        rw [htk.out,counting_snoc_in (by omega)]
        exact G5.out
       ·
        show _=_
        rw [htk.out,counting_snoc_in (by omega),allRight_snoc,HR.out,HRT.out]
        rfl
      case measure => simp [intOf];omega
   ·
    have hlt':decide ((k:Int) < (A.length:Int))=false:=by simp;omega
    have hke:k=A.length:=by omega
    subst hke
    rw [List.take_length] at HG HR
    have HE:=hide (segsOk_rest hd (by rw [HC.out];exact HR.out))
    rw [HC.out] at HE
    obtain ⟨ag,cg,hvo⟩:=buildG_form HG.out
    subst hvo
    obtain ⟨NL,HNL⟩:∃ NL,Hid ((counting M A).length=NL):=⟨_,rfl⟩
    have hnl:decide ((0:Int) < (NL:Int))=decide (0 < NL):=by apply decide_eq_decide.2;omega
    have HBf:=hide (B3.out.trans (HB.out.mono hw3))
    have HGf:=hide (buildG_mono HG.out hw3 (Nat.le_refl _))
    rw [HNL.out] at HGf HE
    rw [HNL.out]
    clear HG
    go_wp2
    go_ret2
    rw [HE.out.1,HE.out.2,← hnl]
    exact ⟨⟨_,rfl,HGf.out⟩,HBf.out⟩
theorem riseI_no {last q:Int} {r:List Int} (h:q≤last):riseI last (q :: r)=false:=by simp [riseI];omega
theorem riseI_yes {last q:Int} {r:List Int} (h:last < q):riseI last (q :: r)=riseI q r:=by simp [riseI,h]
theorem seqsRise_any (l:List SegD) (v:Value) (B K:Nat) (w:World) (hll:l.length≤100) (hb:∀ s ∈ l,s.bs.length≤20001) (h:BuildG w B K v l) :
  Calls Tryz.prog 114 #[v] w fun e w' => e=.returned (.bool (riseI (-1) (seqsOf l)))∧Below w.heap.size w w':=by
 obtain ⟨a1,c1,rfl⟩:=buildG_form h
 have HBL:=hide hb
 have G1:=hide h
 clear h hb
 obtain ⟨R,HR⟩:∃ R,Hid (riseI (-1) (seqsOf l)=R):=⟨_,rfl⟩
 rw [HR.out]
 go_enter Tryz.func114,Tryz.ntmps114
 go_wp2_with fail
 go_loopg [3,10] l.length (fun gg vl ii wr => ∃ (k:Nat) (q:Int),k+gg=l.length∧vl=.int .i64 q∧ii=.int .i64 k∧k≤l.length∧Hid (riseI q (seqsOf (l.drop k))=R)∧Hid (Below w.heap.size w wr))
 case atStart => exact ⟨0,-1,by omega,rfl,rfl,Nat.zero_le _,HR,Below.refl _ _⟩
 case round =>
  obtain ⟨k,q,hkg,rfl,rfl,hk,HQ,HB⟩:=hrel
  have hws:w.heap.size≤wr.heap.size:=HB.out.size
  cases gk with
  | zero =>
   have hlt':decide ((k:Int) < (l.length:Int))=false:=by simp;omega
   have hR:Hid (R=true):=by show _=_;rw [← HQ.out,List.drop_eq_nil_of_le (by omega)];rfl
   go_wp2
   go_ret
   rw [hR.out]
   exact ⟨rfl,HB.out⟩
  | succ g0 =>
   have hlt:k < l.length:=by omega
   have hlt':decide ((k:Int) < (l.length:Int))=true:=by simp;omega
   have hi0:(0:Int)≤(k:Int):=by omega
   have hi1:(k:Int) < (l.length:Int):=by omega
   obtain ⟨g,hg,hgw,hc0,hc1,⟨a,c,hc2,hrb⟩,⟨a',c',hc3,-⟩,hc4,hc5,hc6⟩:=buildG_at (buildG_below G1.out HB.out) k hlt
   subst hg
   have hbl:=HBL.out l[k] (List.getElem_mem hlt)
   have hdk:=hide (List.drop_eq_getElem_cons hlt)
   generalize l[k]=F at hc0 hc1 hc2 hc3 hc4 hc5 hc6 hdk hrb hbl
   rw [hdk.out,seqsOf_cons] at HQ
   have HRB:=hide (rowBatch_rows hrb).2
   clear hrb
   have HXB:=heap_alloc_new wr (.cells #[.int .i64 (F.num:Int),.int .i64 (F.frm:Int),.slice a F.bs.length c,.slice a' F.pls.length c',.int .i64 (F.fin:Int),.bool F.right,.bool F.torn] 158)
   have BX:Hid (Below wr.heap.size wr (wr.alloc (.cells #[.int .i64 (F.num:Int),.int .i64 (F.frm:Int),.slice a F.bs.length c,.slice a' F.pls.length c',.int .i64 (F.fin:Int),.bool F.right,.bool F.torn] 158))):=(Below.refl _ wr).alloc (Nat.le_refl _) _
   have hx2:(wr.alloc (.cells #[.int .i64 (F.num:Int),.int .i64 (F.frm:Int),.slice a F.bs.length c,.slice a' F.pls.length c',.int .i64 (F.fin:Int),.bool F.right,.bool F.torn] 158)).cell? ⟨wr.heap.size,2,none⟩=some (.slice a F.bs.length c):=(cell_of_row _ _ 2 _ _ (0,0) HXB).trans rfl
   clear HXB
   obtain ⟨wO,rfl⟩:∃ wO,wO=wr:=⟨_,rfl⟩
   go_wp2_with fail
   go_loopg [3,17] F.bs.length (fun g2 vl ii wy => ∃ (j:Nat) (p:Int),j+g2=F.bs.length∧vl=.int .i64 p∧ii=.int .i64 j∧j≤F.bs.length∧Hid (riseI p ((F.bs.drop j).map BatchD.seq ++ seqsOf (l.drop (k+1)))=R)∧Hid (Below wO.heap.size wO wy))
   case atStart => exact ⟨0,q,by omega,rfl,rfl,Nat.zero_le _,HQ,BX⟩
   case round =>
    obtain ⟨j,p,hjg,rfl,rfl,hj,HP,HY⟩:=hrel
    have hwy:wO.heap.size≤wr.heap.size:=HY.out.size
    clear hc0 hc1 hc2 hc3 hc4 hc5 hc6 hx2
    cases gk with
    | zero =>
     have hjt':decide ((j:Int) < (F.bs.length:Int))=false:=by simp;omega
     have HP2:Hid (riseI p (seqsOf (l.drop (k+1)))=R):=by
      show _=_
      have hdn:F.bs.drop j=[]:=List.drop_eq_nil_of_le (by omega)
      rw [← HP.out,hdn]
      rfl
     go_wp2
     go_roundg g0
     case measure => omega
     case rel => exact ⟨k+1,p,by omega,rfl,by go_num,by omega,HP2,HB.out.trans (HY.out.mono hws)⟩
    | succ g2 =>
     have hjt:j < F.bs.length:=by omega
     have hjt':decide ((j:Int) < (F.bs.length:Int))=true:=by simp;omega
     have hj0:(0:Int)≤(j:Int):=by omega
     have hj1:(j:Int) < (F.bs.length:Int):=by omega
     obtain ⟨b,off,hab,hbw,hd0,a2,c2,hd1,-⟩:=batchesAt_keep HRB.out HY.out j hjt
     have hdj:=hide (List.drop_eq_getElem_cons hjt)
     generalize F.bs[j]=D at hd0 hd1 hdj
     subst hab
     rw [hdj.out,List.map_cons,List.cons_append] at HP
     have HXB:=heap_alloc_new wr (.cells #[.int .i64 D.seq,.slice a2 D.chs.length c2] 87)
     have BY:Hid (Below wr.heap.size wr (wr.alloc (.cells #[.int .i64 D.seq,.slice a2 D.chs.length c2] 87))):=(Below.refl _ wr).alloc (Nat.le_refl _) _
     have hy0:(wr.alloc (.cells #[.int .i64 D.seq,.slice a2 D.chs.length c2] 87)).cell? ⟨wr.heap.size,0,none⟩=some (.int .i64 D.seq):=(cell_of_row _ _ 0 _ _ (0,0) HXB).trans rfl
     clear HXB
     by_cases hle:D.seq≤p
     ·
      have hle':decide (D.seq≤p)=true:=by simp;omega
      have hR:Hid (R=false):=by show _=_;rw [← HP.out];exact riseI_no hle
      go_wp2
      go_ret
      rw [hR.out]
      exact ⟨rfl,HB.out.trans ((HY.out.trans (BY.out.mono hwy)).mono hws)⟩
     ·
      have hle':decide (D.seq≤p)=false:=by simp;omega
      rw [riseI_yes (by omega)] at HP
      go_wp2
      go_roundg g2
      case measure => omega
      case rel => exact ⟨j+1,D.seq,by omega,rfl,by go_num,by omega,HP,HY.out.trans (BY.out.mono hwy)⟩
theorem segsL_bl {fs:List FileD}:∀ s ∈ segsL fs,s.bs.length≤20001:=fun s hs => by
 obtain ⟨-,-,F,-,hF,-⟩:=segsTo_mem (segsL_mem hs)
 rw [hF]
 exact (segBatches_bounds _ _).1
end Go.Proofs.YtepdckehokdjlaaGreatDoor
