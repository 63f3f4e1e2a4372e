import Derived.Laws.StructEq
import Derived.Test.YtepdckehokdjlaaGreatDoorMg7
import Derived.Test.YtepdckehokdjlaaGreatDoorMg10
import Derived.Test.YtepdckehokdjlaaGreatDoorMg33
set_option maxRecDepth 100000
set_option maxHeartbeats 3200000
namespace Go.Proofs.YtepdckehokdjlaaGreatDoor
open Go.RowKit
def spotEq (A B:SpotD):Bool:=(A.key.toList == B.key.toList) && (decide (A.seg=B.seg) && (decide (A.pos=B.pos) && decide (A.seq=B.seq)))
theorem spotEq_iff (A B:SpotD):spotEq A B=true ↔ A=B:=by
 unfold spotEq
 simp only [Bool.and_eq_true,decide_eq_true_eq,beq_iff_eq]
 constructor
 ·
  rintro ⟨h1,h2,h3,h4⟩
  cases A
  cases B
  simp only [ByteArray.toList_eq] at h1 h2 h3 h4
  simp only [SpotD.mk.injEq]
  exact ⟨ByteArray.ext (Array.toList_inj.1 h1),h2,h3,h4⟩
 ·
  rintro rfl
  exact ⟨rfl,rfl,rfl,rfl⟩
def spotsEq:List SpotD→List SpotD→Bool
 | [],[] => true
 | A :: r,B :: s => spotEq A B && spotsEq r s
 | _,_ => false
theorem spotsEq_iff:∀ a b:List SpotD,spotsEq a b=true ↔ a=b
 | [],[] => by simp [spotsEq]
 | [],_ :: _ => by simp [spotsEq]
 | _ :: _,[] => by simp [spotsEq]
 | A :: r,B :: s => by simp only [spotsEq,Bool.and_eq_true,spotEq_iff,spotsEq_iff r s,List.cons.injEq]
theorem spotsEq_len {a b:List SpotD} (h:a.length ≠ b.length):spotsEq a b=false:=by
 cases hb:spotsEq a b with
 | false => rfl
 | true => rw [(spotsEq_iff a b).1 hb] at h;exact absurd rfl h
theorem spotsEq_no {a b:List SpotD} {k:Nat} (h1:k < a.length) (h2:k < b.length) (h:spotEq a[k] b[k]=false):spotsEq a b=false:=by
 cases hb:spotsEq a b with
 | false => rfl
 | true =>
  have e:=(spotsEq_iff a b).1 hb
  subst e
  rw [(spotEq_iff _ _).2 rfl] at h
  cases h
theorem spotsEq_all {a b:List SpotD} (hl:a.length=b.length) (h:∀ j (h1:j < a.length) (h2:j < b.length),spotEq a[j] b[j]=true):spotsEq a b=true:=by
 rw [spotsEq_iff]
 exact List.ext_getElem hl (fun j h1 h2 => (spotEq_iff _ _).1 (h j h1 h2))
theorem neq_spot (A B:SpotD):∀ W:World,(binOp .neq 106 (.agg #[.string A.key,.int .i64 A.seg,.int .i64 A.pos,.int .i64 A.seq]) (.agg #[.string B.key,.int .i64 B.seg,.int .i64 B.pos,.int .i64 B.seq])).run Tryz.prog W=.ok (.bool (!spotEq A B)) W:=by
 intro W
 have hst:Tryz.prog.stoodInHeld 106=false:=by kernel_rfl
 have hfl:Tryz.prog.underlying 106=some (.struct (Tryz.prog.fieldsOf 106)):=by kernel_rfl
 rw [run_neq_struct,run_equalIn_struct W 9999 106 _ _ hfl hst]
 clear hfl hst
 unfold spotEq
 cases h1:(A.key.toList == B.key.toList) <;> by_cases h2:A.seg=B.seg <;> by_cases h3:A.pos=B.pos <;> by_cases h4:A.seq=B.seq <;> simp [go_sem,h1,h2,h3,h4]
theorem slicesEqual_any (a b:List SpotD) (a1 a2:Option Addr) (c1 c2:Nat) (w:World) (hl:a.length≤1048576) (h1:SpotsAt w a1 a) (h2:SpotsAt w a2 b) :
  Calls Tryz.prog 93 #[.slice a1 a.length c1,.slice a2 b.length c2] w fun e w' => e=.returned (.bool (spotsEq a b))∧Below w.heap.size w w':=by
 have H1:=hide h1
 have H2:=hide h2
 clear h1 h2
 by_cases hn:a.length=b.length
 ·
  have hn':(((a.length:Int)) != ((b.length:Int)))=false:=by rw [bne_eq_false_iff_eq];omega
  have HN:=hide hn
  obtain ⟨R,HR⟩:∃ R,Hid (spotsEq a b=R):=⟨_,hide rfl⟩
  rw [HR.out]
  clear hn
  go_enter Tryz.func93,Tryz.ntmps93
  go_wp2_with fail
  go_loopw [13] (fun ii wr => ∃ (k:Nat),ii=.int .i64 k∧k≤a.length∧Hid (∀ j (h1:j < a.length) (h2:j < b.length),j < k→spotEq a[j] b[j]=true)∧Hid (Below w.heap.size w wr)) (fun ii _ => a.length - (intOf ii).toNat)
  case atStart => exact ⟨0,rfl,Nat.zero_le _,fun j _ _ h => absurd h (by omega),Below.refl _ _⟩
  case round =>
   obtain ⟨k,rfl,hk,HK,HB⟩:=hrel
   by_cases hlt:k < a.length
   ·
    have hlt':decide ((k:Int) < (a.length:Int))=true:=by simp;omega
    have hi0:(0:Int)≤(k:Int):=by omega
    have hi1:(k:Int) < (a.length:Int):=by omega
    have hi2:(k:Int) < (b.length:Int):=by have:=HN.out;omega
    have hkb:k < b.length:=by omega
    obtain ⟨b1,o1,hab1,hw1,d0,d1,d2,d3⟩:=spotsAt_keep H1.out HB.out k hlt
    obtain ⟨b2,o2,hab2,hw2,e0,e1,e2,e3⟩:=spotsAt_keep H2.out HB.out k hkb
    have hnq:=neq_spot a[k] b[k]
    have HNO:=hide (fun h => spotsEq_no (a:=a) (b:=b) hlt hkb h)
    have HYS:Hid (spotEq a[k] b[k]=true→∀ j (h1:j < a.length) (h2:j < b.length),j < k+1→spotEq a[j] b[j]=true):=by
     intro h j h1 h2 hj
     by_cases hjk:j < k
     · exact HK.out j h1 h2 hjk
     ·
      obtain rfl:j=k:=by omega
      exact h
    generalize a[k]=A at d0 d1 d2 d3 hnq HNO HYS
    generalize b[k]=D at e0 e1 e2 e3 hnq HNO HYS
    subst hab1 hab2
    cases hq:spotEq A D with
    | true =>
     rw [hq] at hnq HYS
     go_wp2_with fail
     go_quiet (fail)
     go_wp2_with fail
     go_roundw
     case rel => exact ⟨k+1,by go_num,by omega,HYS.out (by first | rfl | trivial),below_drewN HB.out _⟩
     case measure => simp [intOf];omega
    | false =>
     rw [hq] at hnq HNO
     have hR:Hid (R=false):=by show _=_;rw [← HR.out];exact HNO.out rfl
     go_wp2_with fail
     go_quiet (fail)
     go_wp2
     go_ret
     rw [hR.out]
     exact ⟨rfl,below_drewN HB.out _⟩
   ·
    have hlt':decide ((k:Int) < (a.length:Int))=false:=by simp;omega
    have hR:Hid (R=true):=by show _=_;rw [← HR.out];exact spotsEq_all HN.out (fun j h1 h2 => HK.out j h1 h2 (by omega))
    go_wp2
    go_ret
    rw [hR.out]
    exact ⟨rfl,HB.out⟩
 ·
  have hn':(((a.length:Int)) != ((b.length:Int)))=true:=by rw [bne_iff_ne];omega
  have HE:=hide (spotsEq_len hn)
  have HN:=hide hn
  clear hn
  rw [HE.out]
  go_enter Tryz.func93,Tryz.ntmps93
  go_wp2
  go_ret
  exact ⟨rfl,Below.refl _ _⟩
end Go.Proofs.YtepdckehokdjlaaGreatDoor
namespace Go.Proofs.YtepdckehokdjlaaGreatDoor
open Go.RowKit Go.Shelf
def sameB (act seq:Int) (dir:List SpotD) (act2 seq2:Int) (dir2:List SpotD):Bool:=decide (act=act2) && (decide (seq=seq2) && spotsEq dir dir2)
theorem sameAs_any (vd vd2:Value) (r act seq r2 act2 seq2:Int) (dir dir2:List SpotD) (a1 a2:Option Addr) (c1 c2:Nat) (w:World) (b1:∃ a n c,vd=.slice a n c) (b2:∃ a n c,vd2=.slice a n c) (hl:dir.length≤1048576) (h1:SpotsAt w a1 dir) (h2:SpotsAt w a2 dir2) :
  Calls Tryz.prog 60 #[.agg #[vd,.int .i64 r,.int .i64 act,.int .i64 seq,.slice a1 dir.length c1],.agg #[vd2,.int .i64 r2,.int .i64 act2,.int .i64 seq2,.slice a2 dir2.length c2]] w fun e w' => e=.returned (.bool (sameB act seq dir act2 seq2 dir2))∧Below w.heap.size w w':=by
 obtain ⟨x1,x2,x3,rfl⟩:=b1
 obtain ⟨y1,y2,y3,rfl⟩:=b2
 have H1:=hide h1
 have H2:=hide h2
 clear h1 h2
 by_cases ha:act=act2
 ·
  subst ha
  by_cases hq:seq=seq2
  ·
   subst hq
   have HE:Hid (sameB act seq dir act seq dir2=spotsEq dir dir2):=by show _=_;unfold sameB;simp
   rw [HE.out]
   have HEQ:=hide (fun W h1 h2 => slicesEqual_any dir dir2 a1 a2 c1 c2 W hl h1 h2)
   generalize spotsEq dir dir2=R at HEQ
   obtain ⟨wb,hwb⟩:∃ wb,wb=(w.alloc (.cells #[.slice x1 x2 x3,.int .i64 r,.int .i64 act,.int .i64 seq,.slice a1 dir.length c1] 34)).alloc (.cells #[.slice y1 y2 y3,.int .i64 r2,.int .i64 act,.int .i64 seq,.slice a2 dir2.length c2] 34):=⟨_,rfl⟩
   have HB0:Hid (Below w.heap.size w wb):=by rw [hwb];exact ((Below.refl _ w).alloc (Nat.le_refl _) _).alloc (by simp) _
   go_enter Tryz.func60,Tryz.ntmps60
   go_wp2_with fail
   rw [← hwb]
   clear hwb
   refine (HEQ.out _ (spotsAt_keep H1.out HB0.out) (spotsAt_keep H2.out HB0.out)).mono ?_
   rintro e w1 ⟨rfl,b1⟩
   go_wp2
   go_ret
   exact ⟨rfl,HB0.out.trans (b1.mono HB0.out.size)⟩
  ·
   have HE:Hid (sameB act seq dir act seq2 dir2=false):=by show _=_;unfold sameB;rw [decide_eq_false hq];simp
   have hq':(seq == seq2)=false:=by rw [beq_eq_false_iff_ne];exact hq
   rw [HE.out]
   clear hq
   go_enter Tryz.func60,Tryz.ntmps60
   go_wp2
   go_ret
   exact ⟨rfl,((Below.refl _ w).alloc (Nat.le_refl _) _).alloc (by simp) _⟩
 ·
  have HE:Hid (sameB act seq dir act2 seq2 dir2=false):=by show _=_;unfold sameB;rw [decide_eq_false ha];rfl
  have ha':(act == act2)=false:=by rw [beq_eq_false_iff_ne];exact ha
  rw [HE.out]
  clear ha
  go_enter Tryz.func60,Tryz.ntmps60
  go_wp2
  go_ret
  exact ⟨rfl,((Below.refl _ w).alloc (Nat.le_refl _) _).alloc (by simp) _⟩
theorem calm_acts {fs:List FileD} (h:calmB fs=true):actsI fs=[]:=by
 unfold calmB at h
 simpa using h
theorem open_calm {fs:List FileD} {room:Int} (h:calmB fs=true):openIB fs room=(roomB room && soundB fs):=by
 unfold openIB
 rw [calm_acts h]
 simp [actsF]
theorem eng_not_open {fs:List FileD} {room act seq:Int} {dir:List SpotD} (h:openIB fs room=false):¬ engB fs room act seq dir:=fun he => by
 rw [open_calm he.2.2.1,he.1,he.2.1] at h
 cases h
theorem open_room {fs:List FileD} {room:Int} (h:openIB fs room=true):roomB room=true∧soundB fs=true:=by
 unfold openIB at h
 simp only [Bool.and_eq_true] at h
 exact ⟨h.1,h.2.1⟩
theorem same_iff {act seq act2 seq2:Int} {dir dir2:List SpotD}:sameB act seq dir act2 seq2 dir2=true ↔ act=act2∧seq=seq2∧dir=dir2:=by
 unfold sameB
 simp only [Bool.and_eq_true,decide_eq_true_eq,spotsEq_iff]
def engOkB (fs:List FileD) (room act seq:Int) (dir:List SpotD):Bool:=roomB room && (soundB fs && (calmB fs && sameB ((lastG fs).num:Int) (seqD (segsL fs)) (dirD fs) act seq dir))
theorem engOkB_iff {fs:List FileD} {room act seq:Int} {dir:List SpotD}:engOkB fs room act seq dir=true ↔ engB fs room act seq dir:=by
 unfold engOkB engB
 simp only [Bool.and_eq_true,same_iff]
theorem engOkB_yes {fs:List FileD} {room act seq:Int} {dir:List SpotD} (h:engB fs room act seq dir):engOkB fs room act seq dir=true:=engOkB_iff.2 h
theorem engOkB_no {fs:List FileD} {room act seq:Int} {dir:List SpotD} (h:¬ engB fs room act seq dir):engOkB fs room act seq dir=false:=by
 cases hb:engOkB fs room act seq dir with
 | false => rfl
 | true => exact absurd (engOkB_iff.1 hb) h
theorem StoreAt.below {w w':World} {B g:Nat} {fs:List FileD} {room:Int} {vd vr vs:Value} (h:StoreAt w B g fs room vd vr vs) (hb:Below w.heap.size w w'):StoreAt w' B g fs room vd vr vs :=
 ⟨(hb.block _ (heap_lt h.blk)).trans h.blk,h.le,rowF_below h.disk hb,rowSpot_below h.dir hb,buildG_below h.segs hb⟩
theorem StoreAt.mono {w:World} {B B' g:Nat} {fs:List FileD} {room:Int} {vd vr vs:Value} (h:StoreAt w B g fs room vd vr vs) (hB:B'≤B):StoreAt w B' g fs room vd vr vs :=
 ⟨h.blk,Nat.le_trans hB h.le,rowF_le h.disk hB,rowSpot_le h.dir hB,buildG_mono h.segs hB hB⟩
theorem eight_cells {W:World} {g:Nat} {a b c d e f f' f'':Value} {t:TypeId} (h:W.heap[g]? = some (.cells #[a,b,c,d,e,f,f',f''] t (0,0))):W.cell? ⟨g,0,none⟩=some a∧W.cell? ⟨g,1,none⟩=some b∧W.cell? ⟨g,2,none⟩=some c∧W.cell? ⟨g,3,none⟩=some d∧W.cell? ⟨g,4,none⟩=some e∧W.cell? ⟨g,5,none⟩=some f∧W.cell? ⟨g,6,none⟩=some f'∧W.cell? ⟨g,7,none⟩=some f''∧W.frozen? ⟨g,0,none⟩=false :=
 ⟨(cell_of_row W g 0 _ _ (0,0) h).trans rfl,(cell_of_row W g 1 _ _ (0,0) h).trans rfl,(cell_of_row W g 2 _ _ (0,0) h).trans rfl,(cell_of_row W g 3 _ _ (0,0) h).trans rfl,(cell_of_row W g 4 _ _ (0,0) h).trans rfl,(cell_of_row W g 5 _ _ (0,0) h).trans rfl,(cell_of_row W g 6 _ _ (0,0) h).trans rfl,(cell_of_row W g 7 _ _ (0,0) h).trans rfl,frozen_of_row W g 0 _ _ h⟩
theorem storeOf_any (fs:List FileD) (ao ad:Option Addr) (cap cd:Nat) (room act seq:Int) (dir:List SpotD) (w:World) (hl:fs.length≤1048576) (hfs:FilesAt w ao fs) (hsz:∀ F ∈ fs,F.name.size≤1048576∧F.text.size≤1048576) (hds:SpotsAt w ad dir) (hT:SumTab w) :
  Calls Tryz.prog 22 #[.agg #[.slice ao fs.length cap,.int .i64 room,.int .i64 act,.int .i64 seq,.slice ad dir.length cd]] w fun e w' => Below w.heap.size w w' ∧
   ((engB fs room act seq dir∧∃ g vd vr vs,e=.returned (.tuple #[.pointer (some ⟨g,0,none⟩),.nilIface])∧StoreAt w' w.heap.size g fs room vd vr vs) ∨
    (¬ engB fs room act seq dir∧∃ s,e=.returned (.tuple #[.pointer none,.iface 121 (.agg #[.int .i64 1,.string s])]))):=by
 have HF:=hide hfs
 have HD:=hide hds
 have HT:=hide hT
 have HOS:=hide (fun W hW hT => openStore_any fs ao cap room W hl hW hsz hT)
 clear hfs hds hsz hT
 obtain ⟨wb,hwb⟩:∃ wb,wb=w.alloc (.cells #[.slice ao fs.length cap,.int .i64 room,.int .i64 act,.int .i64 seq,.slice ad dir.length cd] 34):=⟨_,rfl⟩
 have HB0:Hid (Below w.heap.size w wb):=by rw [hwb];exact (Below.refl _ w).alloc (Nat.le_refl _) _
 have HBK:Hid (wb.heap[w.heap.size]? = some (.cells #[.slice ao fs.length cap,.int .i64 room,.int .i64 act,.int .i64 seq,.slice ad dir.length cd] 34 (0,0))):=by rw [hwb];exact heap_alloc_new w _
 obtain ⟨hz0,hz1,hz2,hz3,hz4,-⟩:=five_cells HBK.out
 go_enter Tryz.func22,Tryz.ntmps22
 go_wp2_with fail
 rw [← hwb]
 clear hwb
 go_wp2_with fail
 refine (HOS.out _ (filesAt_keep HF.out HB0.out) (sumTab_later HB0.out HT.out)).mono ?_
 rintro e w1 ⟨b1,⟨ho,g,vd,vr,vs,va,rfl,hst,hac⟩ | ⟨ho,s1,rfl⟩⟩
 ·
  obtain ⟨aa,ca,rfl⟩:=slice_form hac
  have B1:=hide (HB0.out.trans (b1.mono HB0.out.size))
  have HST:=hide hst
  have HBK1:=hide ((b1.block _ (heap_lt HBK.out)).trans HBK.out)
  obtain ⟨hy0,hy1,hy2,hy3,hy4,-⟩:=five_cells HBK1.out
  obtain ⟨ad3,cd3,hvd,hvd2⟩:=rowF_at hst.disk
  obtain ⟨ar3,cr3,hvr,hvr2⟩:=rowSpot_at hst.dir
  obtain ⟨as3,cs3,hvs⟩:=buildG_form hst.segs
  subst hvd hvr hvs
  obtain ⟨k0,k1,k2,k3,k4,k5,k6,k7,-⟩:=eight_cells hst.blk
  have HRM:=open_room ho
  cases hc:calmB fs with
  | true =>
   have hA:=calm_acts hc
   have HSM:=hide (fun W h1 h2 => sameAs_any (.slice ad3 (actsF fs (actsI fs)).1.length cd3) (.slice ao fs.length cap) room ((lastG fs).num:Int) (seqD (segsL fs)) room act seq (dirD fs) dir ar3 ad cr3 cd W ⟨_,_,_,rfl⟩ ⟨_,_,_,rfl⟩ (by have:=dirD_len fs;omega) h1 h2)
   obtain ⟨R,HR⟩:∃ R,Hid (sameB ((lastG fs).num:Int) (seqD (segsL fs)) (dirD fs) act seq dir=R):=⟨_,hide rfl⟩
   rw [HR.out] at HSM
   have HEB:Hid (engB fs room act seq dir ↔ R=true):=by
    show _ ↔ _
    rw [← HR.out,same_iff]
    exact ⟨fun h => h.2.2.2,fun h => ⟨HRM.1,HRM.2,hc,h⟩⟩
   have hlen:(actsI fs).length=0:=by rw [hA];rfl
   rw [hlen]
   have HVR:=hide hvr2
   have hgl:g < w1.heap.size:=heap_lt HST.out.blk
   have hwl:w.heap.size < w1.heap.size:=heap_lt HBK1.out
   have KS:Hid (∀ X,Below w1.heap.size w1 X→(X.cell? ⟨g,2,none⟩=some (.slice ad3 (actsF fs (actsI fs)).1.length cd3)∧X.cell? ⟨g,3,none⟩=some (.int .i64 room)∧X.cell? ⟨g,4,none⟩=some (.int .i64 ((lastG fs).num:Int))∧X.cell? ⟨g,5,none⟩=some (.int .i64 (seqD (segsL fs)))∧X.cell? ⟨g,6,none⟩=some (.slice ar3 (dirD fs).length cr3)∧X.cell? ⟨w.heap.size,0,none⟩=some (.slice ao fs.length cap)∧X.cell? ⟨w.heap.size,1,none⟩=some (.int .i64 room)∧X.cell? ⟨w.heap.size,2,none⟩=some (.int .i64 act)∧X.cell? ⟨w.heap.size,3,none⟩=some (.int .i64 seq)∧X.cell? ⟨w.heap.size,4,none⟩=some (.slice ad dir.length cd))):=fun X hX => ⟨(hX.cell (p:=⟨g,2,none⟩) hgl).trans k2,(hX.cell (p:=⟨g,3,none⟩) hgl).trans k3,(hX.cell (p:=⟨g,4,none⟩) hgl).trans k4,(hX.cell (p:=⟨g,5,none⟩) hgl).trans k5,(hX.cell (p:=⟨g,6,none⟩) hgl).trans k6,(hX.cell (p:=⟨w.heap.size,0,none⟩) hwl).trans hy0,(hX.cell (p:=⟨w.heap.size,1,none⟩) hwl).trans hy1,(hX.cell (p:=⟨w.heap.size,2,none⟩) hwl).trans hy2,(hX.cell (p:=⟨w.heap.size,3,none⟩) hwl).trans hy3,(hX.cell (p:=⟨w.heap.size,4,none⟩) hwl).trans hy4⟩
   have HSW:Hid (∀ X,Below w1.heap.size w1 X→Calls Tryz.prog 60 #[.agg #[.slice ad3 (actsF fs (actsI fs)).1.length cd3,.int .i64 room,.int .i64 ((lastG fs).num:Int),.int .i64 (seqD (segsL fs)),.slice ar3 (dirD fs).length cr3],.agg #[.slice ao fs.length cap,.int .i64 room,.int .i64 act,.int .i64 seq,.slice ad dir.length cd]] X fun e w' => e=.returned (.bool R)∧Below X.heap.size X w'):=fun X hX => HSM.out X (spotsAt_keep HVR.out hX) (spotsAt_keep HD.out (B1.out.trans (hX.mono B1.out.size)))
   clear hst hac hc hA hvr2 hvd2 b1 HRM HSM HVR k0 k1 k7 hz0 hz1 hz2 hz3 hz4
   go_wp2_with fail
   go_region_held3 (fun w' => w'.cell? ⟨g,2,none⟩=some (.slice ad3 (actsF fs (actsI fs)).1.length cd3)∧w'.cell? ⟨g,3,none⟩=some (.int .i64 room)∧w'.cell? ⟨g,4,none⟩=some (.int .i64 ((lastG fs).num:Int))∧w'.cell? ⟨g,5,none⟩=some (.int .i64 (seqD (segsL fs)))∧w'.cell? ⟨g,6,none⟩=some (.slice ar3 (dirD fs).length cr3)∧w'.cell? ⟨w.heap.size,0,none⟩=some (.slice ao fs.length cap)∧w'.cell? ⟨w.heap.size,1,none⟩=some (.int .i64 room)∧w'.cell? ⟨w.heap.size,2,none⟩=some (.int .i64 act)∧w'.cell? ⟨w.heap.size,3,none⟩=some (.int .i64 seq)∧w'.cell? ⟨w.heap.size,4,none⟩=some (.slice ad dir.length cd)) ((refine KS.out _ ?_;first | (exact e2) | (exact (Below.refl _ _).drew) | (exact Below.refl _ _) | fail)) ((go_at_call 60;refine (HSW.out _ ?_).mono ?_;exact (Below.refl _ _).drew;rintro e w2 ⟨rfl,b2⟩;have e2:Below w1.heap.size w1 w2:=((Below.refl _ _).drew).trans b2))
   have B2:=hide e2
   clear e2 b2
   cases hR:R with
   | true =>
    go_wp2
    refine bodyPost_ret (results_tmp2 rfl _ _ _) rfl ?_
    exact ⟨B1.out.trans (B2.out.mono B1.out.size),.inl ⟨HEB.out.2 hR,g,_,_,_,rfl,(HST.out.mono HB0.out.size).below B2.out⟩⟩
   | false =>
    go_wp2
    refine bodyPost_ret (results_tmp2 rfl _ _ _) rfl ?_
    have HNE:¬ engB fs room act seq dir:=fun h => absurd (HEB.out.1 h) (by rw [hR];exact Bool.false_ne_true)
    exact ⟨B1.out.trans (B2.out.mono B1.out.size),.inr ⟨HNE,_,rfl⟩⟩
  | false =>
   have hne:0 < (actsI fs).length:=by
    cases hA:actsI fs with
    | nil => unfold calmB at hc;rw [hA] at hc;cases hc
    | cons x r => simp
   have hne':decide ((0:Int) < ((actsI fs).length:Int))=true:=by rw [decide_eq_true_eq];omega
   have hnen:decide (0 < (actsI fs).length)=true:=by rw [decide_eq_true_eq];omega
   have HEB:Hid (¬ engB fs room act seq dir):=fun he => by rw [he.2.2.1] at hc;cases hc
   generalize (actsI fs).length=LA at hne hne' hnen
   clear hst hac hc hvr2 hvd2 b1 HRM
   go_wp2_with fail
   go_quiet (fail)
   go_wp2
   refine bodyPost_ret (results_tmp2 rfl _ _ _) rfl ?_
   exact ⟨below_drewN B1.out _,.inr ⟨HEB.out,_,rfl⟩⟩
 ·
  have HE:=hide (eng_not_open (act:=act) (seq:=seq) (dir:=dir) ho)
  go_wp2
  go_ret2
  exact ⟨HB0.out.trans (b1.mono HB0.out.size),.inr ⟨HE.out,_,rfl⟩⟩
end Go.Proofs.YtepdckehokdjlaaGreatDoor
