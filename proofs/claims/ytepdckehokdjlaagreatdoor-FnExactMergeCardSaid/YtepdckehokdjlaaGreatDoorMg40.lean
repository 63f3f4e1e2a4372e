import Derived.Test.YtepdckehokdjlaaGreatDoorProg
import Derived.Conc.RwLib
import Derived.Conc.MuData
import Derived.KernelRfl
import Derived.Conc.MuLone
import Derived.Laws.StructEq
import Derived.Maps.RangeWalk
import Derived.Test.YtepdckehokdjlaaGreatDoorMg10
import Derived.Test.YtepdckehokdjlaaGreatDoorMg5
import Derived.Test.YtepdckehokdjlaaGreatDoorMg6
import Derived.Test.YtepdckehokdjlaaGreatDoorMg39
import Derived.Test.YtepdckehokdjlaaGreatDoorMg34
import Derived.Test.YtepdckehokdjlaaGreatDoorMg18
import Derived.Test.YtepdckehokdjlaaGreatDoorMg21
import Derived.Test.YtepdckehokdjlaaGreatDoorMg7
import Derived.Test.YtepdckehokdjlaaGreatDoorMg19
import Derived.Test.YtepdckehokdjlaaGreatDoorMg0
import Derived.Test.YtepdckehokdjlaaGreatDoorMg2
import Derived.Test.YtepdckehokdjlaaGreatDoorMg28
import Derived.Test.YtepdckehokdjlaaGreatDoorMg32
set_option maxRecDepth 100000
set_option maxHeartbeats 4000000
namespace Go.Proofs.YtepdckehokdjlaaGreatDoor
open Go.RowKit
theorem disk_without {fs:List FileD} (nm:ByteArray) (h:diskOkD fs=true):diskOkD (withoutD fs nm)=true:=by
 rw [disk_iff] at h ⊢
 refine ⟨Nat.le_trans (List.length_filter_le _ _) h.1,fun F hF => h.2.1 F (List.mem_filter.1 hF).1,srt_without nm h.2.2⟩
theorem drop_one {fs:List FileD} {F:FileD} (h:diskOkD fs=true) (hF:F ∈ fs):actD fs (dropA F.name)=some (withoutD fs F.name):=by
 have hn:nameOkD F.name=true:=by
  have:=((disk_iff fs).1 h).2.1 F hF
  unfold fileOkD at this
  simp only [Bool.and_eq_true] at this
  exact this.1
 have hs:(fileD fs F.name).isSome=true:=by
  rw [fileD_some_iff,List.any_eq_true]
  exact ⟨F,hF,beq_self_eq_true _⟩
 refine actD_yes ?_ ?_ (disk_without F.name h)
 ·
  unfold actOk dropA
  simp only [h,hn,Bool.true_and]
  rw [show (⟨#[]⟩:ByteArray).toList=[] from by rw [ByteArray.toList_eq]]
  rfl
 ·
  unfold rawD
  have e1:(dropA F.name).kind=4:=rfl
  have e2:(dropA F.name).name=F.name:=rfl
  rw [e1,e2,hs]
  simp
theorem actsF_app:∀ (a b:List ActD) (fs:List FileD),(actsF fs a).2=a.length→actsF fs (a ++ b)=((actsF (actsF fs a).1 b).1,a.length+(actsF (actsF fs a).1 b).2)
 | [],b,fs,_ => by simp [actsF]
 | A :: r,b,fs,h => by
  cases hA:actD fs A with
  | none =>
   have h2:actsF fs (A :: r)=(fs,0):=by simp only [actsF,hA]
   rw [h2] at h
   simp at h
  | some g =>
   have h2:∀ q,actsF fs (A :: q)=((actsF g q).1,(actsF g q).2+1):=fun q => by simp only [actsF,hA]
   rw [h2] at h
   simp only [List.length_cons,Nat.add_right_cancel_iff] at h
   rw [List.cons_append,h2,h2,actsF_app r b g h,List.length_cons]
   simp only [Prod.mk.injEq,true_and]
   omega
def oneOf (ns:List ByteArray) (F:FileD):Bool:=ns.any fun n => F.name.toList == n.toList
theorem drops_all:∀ (ns:List ByteArray) (fs:List FileD),diskOkD fs=true→ns.Pairwise (fun a b => a.toList ≠ b.toList)→(∀ n ∈ ns,∃ F ∈ fs,F.name=n)→actsF fs (ns.map dropA)=(fs.filter (fun F => !oneOf ns F),ns.length)
 | [],fs,_,_,_ => by
  have h:fs.filter (fun F => !oneOf [] F)=fs:=List.filter_eq_self.2 (fun F _ => rfl)
  rw [h]
  rfl
 | n :: r,fs,h,hp,hm => by
  obtain ⟨F,hF,rfl⟩:=hm n List.mem_cons_self
  have h1:=drop_one h hF
  have hp2:=List.pairwise_cons.1 hp
  have ih:=drops_all r (withoutD fs F.name) (disk_without F.name h) hp2.2 (fun m hmr => by
   obtain ⟨G,hG,rfl⟩:=hm m (List.mem_cons_of_mem _ hmr)
   refine ⟨G,List.mem_filter.2 ⟨hG,?_⟩,rfl⟩
   unfold otherF
   have:=hp2.1 G.name hmr
   simp only [Bool.not_eq_true',beq_eq_false_iff_ne]
   exact fun e => this e.symm)
  rw [List.map_cons]
  unfold actsF
  rw [h1]
  simp only [ih,List.length_cons]
  congr 1
  unfold withoutD
  rw [List.filter_filter]
  congr 1
  funext G
  unfold oneOf otherF
  rw [List.any_cons,Bool.not_or,Bool.and_comm]
theorem names_apart {fs:List FileD} (h:srt fs):(fs.map FileD.name).Pairwise (fun a b => a.toList ≠ b.toList):=by
 rw [List.pairwise_map]
 refine List.Pairwise.imp ?_ h
 intro a b hab e
 rw [e,less_irrefl] at hab
 cases hab
theorem new_no_segment (m:Nat):isBelow m nmNew=false:=by
 unfold isBelow
 rw [List.any_eq_false]
 intro n _ e
 have h1:=eq_of_beq e
 rw [show nmNew.toList=[109,43] from by rw [ByteArray.toList_eq]] at h1
 by_cases h:0≤(n:Int)∧(n:Int)≤99
 ·
  unfold segNm at h1
  rw [if_pos h,ByteArray.toList_eq] at h1
  simp at h1
 ·
  rw [segNm_out _ (by omega),ByteArray.toList_eq] at h1
  simp at h1
theorem goes_name {m:Nat} {F G:FileD} (h:F.name.toList=G.name.toList):goesB m F=goesB m G:=by
 have e:F.name=G.name:=by
  have:(F.name.toList == G.name.toList)=true:=by rw [h];exact beq_self_eq_true _
  exact Decidable.byContradiction fun hne => by rw [(toList_ne).2 hne] at this;cases this
 unfold goesB
 rw [e]
theorem drops_I {fs:List FileD} (m:Nat) (h:diskOkD fs=true):actsF fs (dropsI m fs)=(fs.filter (fun F => !goesB m F),(dropsI m fs).length):=by
 have hs:=((disk_iff fs).1 h).2.2
 have e:dropsI m fs=((fs.filter (goesB m)).map FileD.name).map dropA:=by unfold dropsI;rw [List.map_map];rfl
 rw [e,drops_all _ fs h (names_apart (List.Pairwise.filter _ hs)) (fun n hn => by
  obtain ⟨F,hF,rfl⟩:=List.mem_map.1 hn
  exact ⟨F,(List.mem_filter.1 hF).1,rfl⟩)]
 congr 1
 ·
  refine List.filter_congr (fun F hF => ?_)
  congr 1
  unfold oneOf
  cases hg:goesB m F with
  | true =>
   rw [List.any_eq_true]
   exact ⟨F.name,List.mem_map.2 ⟨F,List.mem_filter.2 ⟨hF,hg⟩,rfl⟩,beq_self_eq_true _⟩
  | false =>
   rw [List.any_eq_false]
   intro n hn e
   obtain ⟨G,hG,rfl⟩:=List.mem_map.1 hn
   rw [goes_name (eq_of_beq e),(List.mem_filter.1 hG).2] at hg
   cases hg
 · simp
theorem dropsS_eq (m:Nat) (fs:List FileD):dropsS m fs=((if (fileD fs nmNew).isSome then [nmNew] else []) ++ (fs.filter fun F => isBelow m F.name).map FileD.name).map dropA:=by
 unfold dropsS
 rw [List.map_append,List.map_map]
 congr 1
 split <;> rfl
theorem name_eq {a b:ByteArray} (h:a.toList=b.toList):a=b :=
 Decidable.byContradiction fun hne => by
  have h1:=(toList_ne).2 hne
  rw [h,beq_self_eq_true] at h1
  cases h1
theorem drops_S {fs:List FileD} (m:Nat) (h:diskOkD fs=true):actsF fs (dropsS m fs)=(fs.filter (fun F => !goesB m F),(dropsS m fs).length):=by
 have hs:=((disk_iff fs).1 h).2.2
 rw [dropsS_eq,drops_all _ fs h ?_ ?_]
 ·
  congr 1
  ·
   refine List.filter_congr (fun F hF => ?_)
   congr 1
   unfold oneOf
   rw [List.any_append]
   unfold goesB
   congr 1
   ·
    unfold isNew
    cases hn:(F.name.toList == nmNew.toList) with
    | true =>
     have:(fileD fs nmNew).isSome=true:=by rw [fileD_some_iff,List.any_eq_true];exact ⟨F,hF,hn⟩
     rw [this,if_pos rfl,List.any_cons,hn]
     rfl
    | false =>
     split
     ·
      rw [List.any_cons,hn]
      rfl
     · rfl
   ·
    cases hb:isBelow m F.name with
    | true =>
     rw [List.any_eq_true]
     exact ⟨F.name,List.mem_map.2 ⟨F,List.mem_filter.2 ⟨hF,hb⟩,rfl⟩,beq_self_eq_true _⟩
    | false =>
     rw [List.any_eq_false]
     intro n hn e
     obtain ⟨G,hG,rfl⟩:=List.mem_map.1 hn
     have h1:=(List.mem_filter.1 hG).2
     rw [← name_eq (eq_of_beq e),hb] at h1
     cases h1
  · simp
 ·
  rw [List.pairwise_append]
  refine ⟨by split <;> simp,names_apart (List.Pairwise.filter _ hs),?_⟩
  intro a ha b hb e
  obtain ⟨G,hG,rfl⟩:=List.mem_map.1 hb
  have h1:=(List.mem_filter.1 hG).2
  split at ha
  ·
   rw [List.mem_singleton] at ha
   subst ha
   rw [← name_eq e,new_no_segment] at h1
   cases h1
  · exact absurd ha List.not_mem_nil
 ·
  intro n hn
  rcases List.mem_append.1 hn with hn | hn
  ·
   split at hn
   ·
    rename_i hsome
    rw [List.mem_singleton] at hn
    subst hn
    rw [fileD_some_iff,List.any_eq_true] at hsome
    obtain ⟨F,hF,e⟩:=hsome
    exact ⟨F,hF,name_eq (eq_of_beq e)⟩
   · exact absurd hn List.not_mem_nil
  ·
   obtain ⟨F,hF,rfl⟩:=List.mem_map.1 hn
   exact ⟨F,(List.mem_filter.1 hF).1,rfl⟩
theorem acts_same {fs:List FileD} (h:diskOkD fs=true):(actsF fs (actsI fs)).1=(actsF fs (actsS fs)).1∧((actsF fs (actsI fs)).2=(actsI fs).length ↔ (actsF fs (actsS fs)).2=(actsS fs).length):=by
 have hI:=drops_I (firstG fs) h
 have hS:=drops_S (firstG fs) h
 unfold actsI actsS
 rw [actsF_app _ _ fs (by rw [hI]),actsF_app _ _ fs (by rw [hS]),hI,hS,List.length_append,List.length_append]
 refine ⟨rfl,?_⟩
 simp only
 omega
theorem open_same (fs:List FileD) (room:Int):openIB fs room=openSB fs room:=by
 unfold openIB openSB
 cases hs:soundB fs with
 | false => simp
 | true =>
  have h:=(acts_same (soundB_segs hs).2.2.2.2.1).2
  congr 2
  exact decide_eq_decide.2 h
theorem open_disk {fs:List FileD} {room:Int} (h:openIB fs room=true):(actsF fs (actsI fs)).1=(actsF fs (actsS fs)).1:=by
 unfold openIB at h
 simp only [Bool.and_eq_true] at h
 exact (acts_same (soundB_segs h.2.1).2.2.2.2.1).1
def usedL:List FileD→Nat
 | [] => 0
 | F :: r => F.text.size+usedL r
theorem usedL_app (a b:List FileD):usedL (a ++ b)=usedL a+usedL b:=by
 induction a with
 | nil => simp [usedL]
 | cons x r ih => simp [usedL,ih];omega
theorem usedL_step {fs:List FileD} {k:Nat} (h:k < fs.length):usedL (fs.take (k+1))=usedL (fs.take k)+fs[k].text.size:=by
 rw [List.take_succ_eq_append_getElem h,usedL_app]
 simp [usedL]
theorem usedL_le:∀ {fs:List FileD},(∀ F ∈ fs,F.name.size≤1048576∧F.text.size≤1048576)→usedL fs≤fs.length * 1048576
 | [],_ => by simp [usedL]
 | F :: r,h => by
  have h1:=(h F (by simp)).2
  have h2:=usedL_le (fs:=r) (fun G hG => h G (by simp [hG]))
  simp only [usedL,List.length_cons]
  omega
theorem usedL_take_le {fs:List FileD} (hsz:∀ F ∈ fs,F.name.size≤1048576∧F.text.size≤1048576) (k:Nat) (hl:fs.length≤1048576):usedL (fs.take k)≤1048576 * 1048576:=by
 have h:=usedL_le (fs:=fs.take k) (fun F hF => hsz F (List.mem_of_mem_take hF))
 have h2:(fs.take k).length≤fs.length:=by simp;omega
 calc usedL (fs.take k)≤(fs.take k).length * 1048576:=h
  _≤1048576 * 1048576:=Nat.mul_le_mul_right _ (by omega)
theorem l08Used_any (fs:List FileD) (ao:Option Addr) (cap:Nat) (w:World) (hl:fs.length≤1048576) (hfs:FilesAt w ao fs) (hsz:∀ F ∈ fs,F.name.size≤1048576∧F.text.size≤1048576) :
  Calls Tryz.prog 18 #[.agg #[.slice ao fs.length cap]] w fun e w' => e=.returned (.int .i64 (usedL fs:Nat))∧Below w.heap.size w w':=by
 have HF:=hide hfs
 have HS:=hide hsz
 have HU:=hide (fun k => usedL_take_le hsz k hl)
 clear hfs hsz
 have HE:Hid (usedL (fs.take fs.length)=usedL fs):=by show _=_;rw [List.take_length]
 obtain ⟨R,HR⟩:∃ R,Hid (usedL fs=R):=⟨_,hide rfl⟩
 rw [HR.out]
 go_enter Tryz.func18,Tryz.ntmps18
 go_wp2
 go_loopw [3,4] (fun nn ii wr => ∃ (k:Nat),nn=.int .i64 (usedL (fs.take k):Nat)∧ii=.int .i64 k∧k≤fs.length∧Hid (Below (w.heap.size+1) (w.alloc (.cells #[.slice ao fs.length cap] 31)) wr)) (fun _ ii _ => fs.length - (intOf ii).toNat)
 case atStart => exact ⟨0,rfl,rfl,Nat.zero_le _,Below.refl _ _⟩
 case round =>
  obtain ⟨k,rfl,rfl,hk,HBx⟩:=hrel
  have HB:Hid (Below w.heap.size w wr):=((Below.refl _ w).alloc (Nat.le_refl _) _).trans (HBx.out.mono (by omega))
  have hbox:wr.cell? ⟨w.heap.size,0,none⟩=some (.slice ao fs.length cap):=(HBx.out.cell (p:=⟨w.heap.size,0,none⟩) (by simp)).trans (by rw [cell_of_row _ _ _ _ _ (0,0) (heap_alloc_new w _)];rfl)
  by_cases hlt:k < fs.length
  ·
   have hlt':decide ((k:Int) < (fs.length:Int))=true:=by simp;omega
   obtain ⟨b,off,rfl,hbw,hc0,hc1,hc2⟩:=filesAt_keep HF.out HB.out k hlt
   have HST:=hide (usedL_step hlt)
   have hs2:=(HS.out fs[k] (List.getElem_mem hlt)).2
   have hu:=HU.out k
   have hu1:=HU.out (k+1)
   have HSS:Hid (usedL (fs.take (k+1))=usedL (fs.take k)+fs[k].text.size):=HST.out
   obtain ⟨F,HFk⟩:∃ F,Hid (fs[k]=F):=⟨fs[k],hide rfl⟩
   rw [HFk.out] at hc0 hc1 hc2 hs2 HSS
   obtain ⟨U,hU⟩:∃ U,usedL (fs.take k)=U:=⟨_,rfl⟩
   have HV:Hid (usedL (fs.take (k+1))=U+F.text.size):=by show _=_;rw [HSS.out,hU]
   rw [hU] at hu ⊢
   clear HSS HST hu1
   have hi0:(0:Int)≤(k:Int):=by omega
   have hi1:(k:Int) < (fs.length:Int):=by omega
   have hw:IntKind.i64.wrap ((U:Int)+(F.text.size:Int))=((U+F.text.size:Nat):Int):=by rw [IntKind.wrap_i64];omega
   go_wp2
   go_roundw
   case rel => exact ⟨k+1,by rw [HV.out];first | rfl | go_num,by go_num,by omega,HBx.out⟩
   case measure => simp [intOf];omega
  ·
   have hlt':decide ((k:Int) < (fs.length:Int))=false:=by simp;omega
   have hR:Hid (usedL (fs.take k)=R):=by show _=_;rw [show k=fs.length from by omega,HE.out,HR.out]
   rw [hR.out]
   go_wp2
   go_ret
   exact ⟨rfl,HB.out⟩
theorem headT_szM (n f:Int):(headT n f).size≤50:=by
 unfold headT
 split
 ·
  have h1:(headL n.toNat f.toNat).length≤1+5+5:=by
   have h5:=Wd.varF_len 5 n.toNat
   have h6:=Wd.varF_len 5 f.toNat
   unfold headL
   simp only [List.length_append,List.length_cons,List.length_nil]
   omega
  have h2:=frameB_size ⟨(headL n.toNat f.toNat).toArray⟩
  have h3:=Wd.varF_len 5 (⟨(headL n.toNat f.toNat).toArray⟩:ByteArray).size
  have h4:(⟨(headL n.toNat f.toNat).toArray⟩:ByteArray).size=(headL n.toNat f.toNat).length:=rfl
  omega
 · exact Nat.zero_le _
theorem frmsTo_szM (D:List SpotD) (S:SegD):∀ k,∀ t ∈ frmsTo D S k,t.size≤9009
 | 0,t,h => absurd h List.not_mem_nil
 | k+1,t,h => by
  unfold frmsTo at h
  rcases List.mem_append.1 h with h | h
  · exact frmsTo_szM D S k t h
  ·
   split at h
   · exact absurd h List.not_mem_nil
   ·
    obtain rfl:=List.mem_singleton.1 h
    unfold frameO
    split
    · rename_i hh;exact frameB_le _ hh.2
    · exact Nat.zero_le _
theorem segNm_szM (n:Int):(segNm n).size≤1048576:=by
 unfold segNm
 split
 ·
  have:=decS_len n.toNat (by omega)
  rw [show ((n.toNat:Nat):Int)=n by omega] at this
  show (98 :: Wd.decS n).length≤1048576
  rw [List.length_cons]
  omega
 · exact Nat.zero_le _
theorem nmNew_szM:nmNew.size≤1048576:=by decide
theorem noB_szM:(⟨#[]⟩:ByteArray).size≤1048576:=by decide
theorem actsM_szM (D:List SpotD) (l:List SegD) (n:Nat):∀ A ∈ actsM D l n,A.name.size≤1048576∧A.text.size≤1048576∧A.toN.size≤1048576:=by
 intro A hA
 unfold actsM newsA dropsM at hA
 rcases List.mem_append.1 hA with hA | hA
 ·
  rcases List.mem_append.1 hA with hA | hA
  ·
   obtain ⟨t,ht,rfl⟩:=List.mem_map.1 hA
   refine ⟨nmNew_szM,?_,noB_szM⟩
   show t.size≤1048576
   rcases List.mem_cons.1 ht with rfl | ht
   · have:=headT_szM (n:Int) (n:Int);omega
   ·
    obtain ⟨S,hS,hF⟩:=List.mem_flatMap.1 ht
    have:=frmsTo_szM D S _ t hF
    omega
  ·
   simp only [List.mem_cons,List.not_mem_nil,or_false] at hA
   rcases hA with rfl | rfl
   · exact ⟨nmNew_szM,noB_szM,noB_szM⟩
   · exact ⟨nmNew_szM,noB_szM,segNm_szM _⟩
 ·
  obtain ⟨S,hS,rfl⟩:=List.mem_map.1 hA
  exact ⟨segNm_szM _,noB_szM,noB_szM⟩
theorem mergE_szM (fs:List FileD) (room act seq:Int) (dir:List SpotD):∀ A ∈ mergE fs room act seq dir,A.name.size≤1048576∧A.text.size≤1048576∧A.toN.size≤1048576:=by
 cases h:mergOk fs room act seq dir with
 | false => rw [mergE_no h];exact fun A hA => absurd hA List.not_mem_nil
 | true => rw [mergE_yes h];exact actsM_szM _ _ _
theorem actD_szM {fs g:List FileD} {A:ActD} (h:actD fs A=some g):diskOkD g=true∧g.length≤30∧∀ F ∈ g,F.name.size≤1048576∧F.text.size≤1048576:=by
 have h1:=disk_files (actD_ok h)
 exact ⟨actD_ok h,h1.1,fun F hF => by have:=h1.2 F hF;omega⟩
def stepsD (room:Int):List FileD→List ActD→Option (List FileD)
 | g,[] => some g
 | g,A :: r => match actD g A with | none => none | some h => if room < (usedL h:Int) then none else stepsD room h r
theorem stepsD_no {room:Int} {g:List FileD} {qs:List ActD} {k:Nat} (h:k < qs.length) (hA:actD g qs[k]=none):stepsD room g (qs.drop k)=none:=by
 rw [List.drop_eq_getElem_cons h,stepsD,hA]
theorem stepsD_full {room:Int} {g h:List FileD} {qs:List ActD} {k:Nat} (hk:k < qs.length) (hA:actD g qs[k]=some h) (hr:room < (usedL h:Int)):stepsD room g (qs.drop k)=none:=by
 rw [List.drop_eq_getElem_cons hk,stepsD,hA]
 simp only
 rw [if_pos hr]
theorem stepsD_yes {room:Int} {g h:List FileD} {qs:List ActD} {k:Nat} (hk:k < qs.length) (hA:actD g qs[k]=some h) (hr:¬ room < (usedL h:Int)):stepsD room g (qs.drop k)=stepsD room h (qs.drop (k+1)):=by
 rw [List.drop_eq_getElem_cons hk,stepsD,hA]
 simp only
 rw [if_neg hr]
theorem stepsD_end {room:Int} {g:List FileD} {qs:List ActD} {k:Nat} (h:qs.length≤k):stepsD room g (qs.drop k)=some g:=by
 rw [List.drop_eq_nil_of_le h,stepsD]
def mrgG (fs:List FileD) (room act seq:Int) (dir:List SpotD):Option (List FileD):=bif mergOk fs room act seq dir then stepsD room fs (mergE fs room act seq dir) else none
def mrgOk (fs:List FileD) (room act seq:Int) (dir:List SpotD):Bool:=match mrgG fs room act seq dir with
 | none => false
 | some g => openSB g room
def mrgH (fs:List FileD) (room act seq:Int) (dir:List SpotD):List FileD:=(mrgG fs room act seq dir).getD []
def mrgFs (fs:List FileD) (room act seq:Int) (dir:List SpotD):List FileD:=bif mrgOk fs room act seq dir then (actsF (mrgH fs room act seq dir) (actsS (mrgH fs room act seq dir))).1 else []
def mrgDir (fs:List FileD) (room act seq:Int) (dir:List SpotD):List SpotD:=bif mrgOk fs room act seq dir then dirD (mrgH fs room act seq dir) else []
def mrgRoom (fs:List FileD) (room act seq:Int) (dir:List SpotD):Int:=bif mrgOk fs room act seq dir then room else 0
def mrgAct (fs:List FileD) (room act seq:Int) (dir:List SpotD):Int:=bif mrgOk fs room act seq dir then ((lastG (mrgH fs room act seq dir)).num:Int) else 0
def mrgSeq (fs:List FileD) (room act seq:Int) (dir:List SpotD):Int:=bif mrgOk fs room act seq dir then seqD (segsL (mrgH fs room act seq dir)) else 0
def mrgQs (fs:List FileD) (room act seq:Int) (dir:List SpotD):List ActD:=bif mrgOk fs room act seq dir then mergE fs room act seq dir else []
def MrgPost (fs:List FileD) (room act seq:Int) (dir:List SpotD) (w:World) (e:Ending) (w':World):Prop :=
 (∃ vd vr va,e=.returned (.tuple #[.agg #[vd,.int .i64 (mrgRoom fs room act seq dir),.int .i64 (mrgAct fs room act seq dir),.int .i64 (mrgSeq fs room act seq dir),vr],va,.bool (mrgOk fs room act seq dir)])∧RowF w' w.heap.size vd (mrgFs fs room act seq dir)∧RowSpot w' w.heap.size vr (mrgDir fs room act seq dir)∧RowAct w' w.heap.size va (mrgQs fs room act seq dir))∧Below w.heap.size w w'
theorem mrg_no {fs:List FileD} {room act seq:Int} {dir:List SpotD} {w w':World} {va:Value} (h:mrgOk fs room act seq dir=false) (b:Below w.heap.size w w') (ha:RowAct w' w.heap.size va []):MrgPost fs room act seq dir w (.returned (.tuple #[.agg #[.slice none 0 0,.int .i64 0,.int .i64 0,.int .i64 0,.slice none 0 0],va,.bool false])) w':=by
 refine ⟨⟨.slice none 0 0,.slice none 0 0,va,?_,?_,?_,?_⟩,b⟩
 · unfold mrgRoom mrgAct mrgSeq;rw [h];rfl
 · unfold mrgFs;rw [h];exact .inl ⟨rfl,rfl⟩
 · unfold mrgDir;rw [h];exact .inl ⟨rfl,rfl⟩
 · unfold mrgQs;rw [h];exact ha
theorem mrg_yes {fs g:List FileD} {room act seq:Int} {dir:List SpotD} {w w':World} {vd vr va:Value} (hg:mrgG fs room act seq dir=some g) (h:openSB g room=true) (b:Below w.heap.size w w') (h1:RowF w' w.heap.size vd (actsF g (actsS g)).1) (h2:RowSpot w' w.heap.size vr (dirD g)) (h3:RowAct w' w.heap.size va (mergE fs room act seq dir)) :
  MrgPost fs room act seq dir w (.returned (.tuple #[.agg #[vd,.int .i64 room,.int .i64 ((lastG g).num:Int),.int .i64 (seqD (segsL g)),vr],va,.bool true])) w':=by
 have e1:mrgH fs room act seq dir=g:=by unfold mrgH;rw [hg];rfl
 have e2:mrgOk fs room act seq dir=true:=by unfold mrgOk;rw [hg];exact h
 refine ⟨⟨vd,vr,va,?_,?_,?_,?_⟩,b⟩
 · unfold mrgRoom mrgAct mrgSeq;rw [e1,e2];rfl
 · unfold mrgFs;rw [e1,e2];exact h1
 · unfold mrgDir;rw [e1,e2];exact h2
 · unfold mrgQs;rw [e2];exact h3
theorem mrgOk_none {fs:List FileD} {room act seq:Int} {dir:List SpotD} (h:mrgG fs room act seq dir=none):mrgOk fs room act seq dir=false:=by unfold mrgOk;rw [h]
theorem mrgG_no {fs:List FileD} {room act seq:Int} {dir:List SpotD} (h:mergOk fs room act seq dir=false):mrgG fs room act seq dir=none:=by unfold mrgG;rw [h];rfl
theorem mrgG_yes {fs:List FileD} {room act seq:Int} {dir:List SpotD} (h:mergOk fs room act seq dir=true):mrgG fs room act seq dir=stepsD room fs (mergE fs room act seq dir):=by unfold mrgG;rw [h];rfl
theorem mergOk_right {fs:List FileD} {room act seq:Int} {dir:List SpotD} (h:mergOk fs room act seq dir=true):roomB room=true∧diskOkD fs=true∧1 < (segsL fs).length:=by
 unfold mergOk at h
 simp only [Bool.and_eq_true,decide_eq_true_eq] at h
 have h1:=engOkB_iff.1 h.1
 exact ⟨h1.1,(soundB_segs h1.2.1).2.2.2.2.1,h.2⟩
end Go.Proofs.YtepdckehokdjlaaGreatDoor
namespace Go.Proofs
abbrev Tryz.muLink:Go.Conc.Locks.MuLink:={ lock:=61,unlock:=62,ilock:=94,iunlock:=95,lockSlow:=128,unlockSlow:=131,disable:=124,enable:=126,acquire:=127,relMerge:=129,cas32:=125,add32:=130,tMutex:=116,tIMutex:=114,tPMutex:=162,tPIMutex:=199,tPI32:=201,tUP:=203,tNoCopy:=111,tU32:=112 }
theorem Tryz.muLib:Go.Conc.Locks.MuLib Tryz.prog Tryz.muLink :=
 ⟨Tryz.func61,Tryz.func62,Tryz.func94,Tryz.func95,Tryz.func124,Tryz.func126,Tryz.func127,Tryz.func129,Tryz.func125,Tryz.func130,Tryz.underlying114,Tryz.runUnderlying114,Tryz.sizeOf114,Tryz.isAgg114,Tryz.zeroValue114,Tryz.underlying116,Tryz.runUnderlying116,Tryz.sizeOf116,Tryz.isAgg116,Tryz.zeroValue116,Tryz.underlying162,Tryz.runUnderlying162,Tryz.sizeOf162,Tryz.isAgg162,Tryz.zeroValue162,Tryz.underlying199,Tryz.runUnderlying199,Tryz.sizeOf199,Tryz.isAgg199,Tryz.zeroValue199,Tryz.underlying201,Tryz.runUnderlying201,Tryz.sizeOf201,Tryz.isAgg201,Tryz.zeroValue201,Tryz.underlying203,Tryz.runUnderlying203,Tryz.sizeOf203,Tryz.isAgg203,Tryz.zeroValue203,Tryz.underlying111,Tryz.runUnderlying111,Tryz.sizeOf111,Tryz.isAgg111,Tryz.zeroValue111,Tryz.underlying21,Tryz.runUnderlying21,Tryz.sizeOf21,Tryz.isAgg21,Tryz.zeroValue21,(by kernel_rfl)⟩
end Go.Proofs
namespace Go.Proofs.YtepdckehokdjlaaGreatDoor
open Go.RowKit
theorem storeAt_lock {w:World} {B g:Nat} {fs:List FileD} {room:Int} {vd vr vs:Value} (h:StoreAt w B g fs room vd vr vs) (z:Value) :
  (w.setCell ⟨g,0,none⟩ z).heap[g]? = some (.cells #[z,.int .u32 0,vd,.int .i64 room,.int .i64 ((lastG fs).num:Int),.int .i64 (seqD (segsL fs)),vr,vs] 119 (0,0)) :=
 (heap_setCell_same w g 0 _ _ z h.blk).trans rfl
theorem storeAt_disk {w:World} {B g:Nat} {fs:List FileD} {room:Int} {vd vr vs:Value} (h:StoreAt w B g fs room vd vr vs) (z:Value):RowF (w.setCell ⟨g,0,none⟩ z) B vd (actsF fs (actsI fs)).1:=by
 have hb:=h.blk
 refine rowF_keep h.disk (fun x hx => ?_)
 have hne:x ≠ g:=by
  rintro rfl
  rcases h.disk with ⟨rfl,-⟩ | ⟨g',cap,C,rfl,-,hC,-⟩
  · cases hx
  ·
   obtain rfl:g' = x:=by simpa [Value.ownBlock] using hx
   rw [hC] at hb
   simp at hb
 exact Below.heap_setCell _ _ _ _ hne
theorem storeAt_dirC {w:World} {B g:Nat} {fs:List FileD} {room:Int} {vd vr vs:Value} (h:StoreAt w B g fs room vd vr vs) (z:Value):RowSpot (w.setCell ⟨g,0,none⟩ z) B vr (dirD fs):=by
 have hb:=h.blk
 refine rowSpot_keep h.dir (fun x hx => ?_)
 have hne:x ≠ g:=by
  rintro rfl
  rcases h.dir with ⟨rfl,-⟩ | ⟨g',cap,C,rfl,-,hC,-⟩
  · cases hx
  ·
   obtain rfl:g' = x:=by simpa [Value.ownBlock] using hx
   rw [hC] at hb
   simp at hb
 exact Below.heap_setCell _ _ _ _ hne
end Go.Proofs.YtepdckehokdjlaaGreatDoor
namespace Go.Proofs.YtepdckehokdjlaaGreatDoor
open Go.RowKit Go.Maps
def leftSum (left:Lit→Bool):List FileD→Nat
 | [] => 0
 | F :: r => (if left (kl F.name) then 0 else F.text.size)+leftSum left r
theorem leftSum_all {left:Lit→Bool} (h:∀ k,left k=false):∀ gs,leftSum left gs=usedL gs
 | [] => rfl
 | F :: r => by simp only [leftSum,usedL,leftSum_all h r,h];simp
theorem leftSum_start {left:Lit→Bool}:∀ gs:List FileD,(∀ F ∈ gs,left (kl F.name)=true)→leftSum left gs=0
 | [],_ => rfl
 | F :: r,h => by
  simp only [leftSum,h F List.mem_cons_self,leftSum_start r (fun G hG => h G (List.mem_cons_of_mem _ hG))]
  simp
theorem same_kl (a b:ByteArray):(kl a).sameKey (kl b)=(a.toList == b.toList):=by
 unfold kl Lit.sameKey
 simp only
 rw [ByteArray.toList_eq,ByteArray.toList_eq]
theorem leftSum_far {left:Lit→Bool} {nm:ByteArray}:∀ gs:List FileD,(∀ G ∈ gs,G.name.toList ≠ nm.toList)→leftSum (fun z => left z && !z.sameKey (kl nm)) gs=leftSum left gs
 | [],_ => rfl
 | G :: r,h => by
  have h1:(kl G.name).sameKey (kl nm)=false:=by rw [same_kl,beq_eq_false_iff_ne];exact h G List.mem_cons_self
  simp only [leftSum,leftSum_far r (fun x hx => h x (List.mem_cons_of_mem _ hx)),h1,Bool.not_false,Bool.and_true]
theorem leftSum_strike {left:Lit→Bool} {F:FileD}:∀ gs:List FileD,(gs.map FileD.name).Pairwise (fun a b => a.toList ≠ b.toList)→F ∈ gs→left (kl F.name)=true→leftSum (fun z => left z && !z.sameKey (kl F.name)) gs=leftSum left gs+F.text.size
 | [],_,h,_ => absurd h List.not_mem_nil
 | G :: r,hp,h,hl => by
  rw [List.map_cons] at hp
  have hp2:=List.pairwise_cons.1 hp
  rcases List.mem_cons.1 h with rfl | hF
  ·
   have hf:=leftSum_far (left:=left) (nm:=F.name) r (fun x hx e => hp2.1 x.name (List.mem_map.2 ⟨x,hx,rfl⟩) e.symm)
   simp only [leftSum,hf,hl,same_kl,beq_self_eq_true,Bool.not_true,Bool.and_false,if_true]
   simp
   omega
  ·
   have ih:=leftSum_strike r hp2.2 hF hl
   have h1:(kl G.name).sameKey (kl F.name)=false:=by rw [same_kl,beq_eq_false_iff_ne];exact hp2.1 F.name (List.mem_map.2 ⟨F,hF,rfl⟩)
   simp only [leftSum,ih,h1,Bool.not_false,Bool.and_true]
   omega
theorem leftSum_le (left:Lit→Bool):∀ gs:List FileD,leftSum left gs≤usedL gs
 | [] => Nat.le_refl _
 | F :: r => by
  have:=leftSum_le left r
  simp only [leftSum,usedL]
  split <;> omega
def mkP:Option Nat→Value
 | none => .pointer none
 | some c => .pointer (some ⟨c,0,none⟩)
theorem ptr_shape (v:Value) (y:DataW Unit × List MemPlace) (h:ptrElem v=some y):∃ c,v=mkP c:=by
 unfold ptrElem at h
 split at h
 · exact ⟨some _,rfl⟩
 · exact ⟨none,rfl⟩
 · cases h
theorem usedL_disk {gs:List FileD} (hok:diskOkD gs=true):usedL gs≤30 * 1048576:=by
 have h:=disk_files hok
 have h1:=usedL_le (fs:=gs) (fun F hF => by have:=h.2 F hF;omega)
 exact Nat.le_trans h1 (Nat.mul_le_mul_right 1048576 h.1)
theorem srt_names {gs:List FileD} (h:srt gs):(gs.map FileD.name).Pairwise (fun a b => a.toList ≠ b.toList):=by
 rw [List.pairwise_map]
 refine List.Pairwise.imp ?_ h
 intro a b hab e
 refine less_ne hab ?_
 rw [ByteArray.toList_eq,ByteArray.toList_eq] at e
 exact ByteArray.ext (Array.toList_inj.1 e)
theorem shelfBytes_any (gs:List FileD) (B mb:Nat) (w:World) (hs:ShelfAt w B mb gs) (hok:diskOkD gs=true) :
  Calls Tryz.prog 66 #[.map (some mb)] w fun e w' => e=.returned (.int .i64 (usedL gs:Nat))∧Below w.heap.size w w':=by
 obtain ⟨D,pt,hD⟩:=hs
 have h1:=hD.1
 have HN:=hide (srt_names ((disk_iff gs).1 hok).2.2)
 have hU:=usedL_disk hok
 have HH:Hid (∀ s,has D (kl s)=true→∃ F ∈ gs,F.name=s):=fun s hs => (hD.2.2.1 s).1 hs
 have HP:Hid (∀ F ∈ gs,(∀ z,D.atKey (kl F.name) z=.lit (.int .i64 (pt F.name:Int)))∧w.heap[pt F.name]? = some (fileObj F)):=fun F hF => ⟨(hD.2.2.2.1 F hF).1,(hD.2.2.2.1 F hF).2.2.2⟩
 have HS0:Hid (leftSum (has D) gs=0):=leftSum_start gs (fun F hF => (hD.2.2.1 F.name).2 ⟨F,hF,rfl⟩)
 clear hD hok
 go_enter Tryz.func66,Tryz.ntmps66
 go_wp2_with (first | (at_range;refine wpList_range_own _ rfl _ 123 rfl 9 _ (string_keyed Tryz.underlying9) Tryz.underlying123 _ mb _ _ rfl h1 ?_;intro w0 hrg0 hg0 hs0) | go_in)
 go_frame
 go_loopw [3] (fun vc wr => ∃ (left:Lit→Bool) (cnt C:Nat),vc=.int .i64 (C:Int)∧C≤30 * 1048576∧Hid (leftSum left gs=C)∧Hid (∀ z,left z=true→has D z=true)∧wr.ranges Tryz.prog 9 ptrElem mb w.heap.size (size D) D left cnt∧Hid (Below w.heap.size w wr))
  (fun _ wr => wr.rangeLeft mb w.heap.size)
 case atStart => exact ⟨_,_,0,rfl,Nat.zero_le _,HS0,fun z hz => hz,hrg0,Below.grown (Below.refl _ w) hg0 (Nat.le_refl _) (fun k hk => by cases hk)⟩
 case round =>
  obtain ⟨left,cnt,C,rfl,hC,HC,HL,hrg,HB⟩:=hrel
  go_wp2_with (first | (at_next;refine wpList_next_ranges _ rfl _ rfl 9 (string_keyed Tryz.underlying9) ptrElem Value.string mkP (fun key kl0 hk => by obtain ⟨s,rfl,_,_⟩:=WideMaps.string_of_keyOf Tryz.underlying9 hk;exact ⟨s,rfl⟩) ptr_shape mb w.heap.size (size D) D left cnt rfl hrg ?_ ?_) | go_in)
  ·
   intro _ hl0
   have HE:=hide (leftSum_all hl0 gs)
   have hCe:C=usedL gs:=HC.out.symm.trans HE.out
   go_wp2
   go_ret
   rw [hCe]
   exact ⟨rfl,HB.out⟩
  ·
   intro x c kl0 yd ys w1 cnt1 hkey hlk hv hat hrg1 hlt hg1 hs1 hen
   obtain ⟨s,e1,rfl,hsz⟩:=WideMaps.string_of_keyOf Tryz.underlying9 hkey
   obtain rfl:x=s:=by simpa using e1
   obtain ⟨F,hF,hFn⟩:=HH.out x (HL.out _ hlk)
   subst hFn
   obtain ⟨p1,p2⟩:=HP.out F hF
   have hy:=(hat (.lit (.int .i64 0))).symm.trans (p1 _)
   have hcp:mkP c=.pointer (some ⟨pt F.name,0,none⟩):=by
    subst hy
    exact ptrElem_inv hv
   have HB1:=hide (HB.out.grown hg1 HB.out.size (fun k hk => by cases hk;exact Nat.le_refl _))
   have hblk:=(HB1.out.block _ (Array.getElem?_eq_some_iff.1 p2).1).trans p2
   have hc1:w1.cell? ⟨pt F.name,1,none⟩=some (.string F.text):=(cell_of_row w1 _ 1 _ _ (0,0) hblk).trans rfl
   have HST:=hide (leftSum_strike gs HN.out hF hlk)
   have hle:=leftSum_le (fun z => left z && !z.sameKey (kl F.name)) gs
   rw [HST.out,HC.out] at hle
   have HC2:Hid (leftSum (fun z => left z && !z.sameKey (kl F.name)) gs=C+F.text.size):=by show _=_;rw [HST.out,HC.out]
   have HL2:Hid (∀ z,(left z && !z.sameKey (kl F.name))=true→has D z=true):=fun z hz => HL.out z (by simp only [Bool.and_eq_true] at hz;exact hz.1)
   rw [hcp] at hen ⊢
   go_wp2_with fail
   go_roundw
   case rel => exact ⟨_,cnt1,C+F.text.size,by go_num,by omega,HC2,HL2,hrg1,HB1⟩
   case measure => rw [hrg1.left_eq,hrg.left_eq];exact hlt
structure Stay (O:Nat→Prop) (w w':World):Prop where
 os:w'.os=w.os
 tape:w'.tape=w.tape
 output:w'.output=w.output
 size:w.heap.size≤w'.heap.size
 block:∀ k,¬ O k→w'.heap[k]? = w.heap[k]?
theorem Stay.refl (O:Nat→Prop) (w:World):Stay O w w:=⟨rfl,rfl,rfl,Nat.le_refl _,fun _ _ => rfl⟩
theorem Stay.trans {O:Nat→Prop} {a b c:World} (h:Stay O a b) (k:Stay O b c):Stay O a c :=
 ⟨k.os.trans h.os,k.tape.trans h.tape,k.output.trans h.output,Nat.le_trans h.size k.size,fun i hi => (k.block i hi).trans (h.block i hi)⟩
theorem stay_of {O:Nat→Prop} {w w':World} (b:Below w.heap.size w w') (hO:∀ k,w.heap.size≤k→O k):Stay O w w' :=
 ⟨b.os,b.tape,b.output,b.size,fun k hk => b.block k (by rcases Nat.lt_or_ge k w.heap.size with h | h;exact h;exact absurd (hO k h) hk)⟩
theorem Stay.setCell {O:Nat→Prop} {a w:World} (h:Stay O a w) {p:Addr} (hp:O p.block) (u:Value):Stay O a (w.setCell p u) :=
 h.trans ⟨rfl,rfl,rfl,by simp [World.setCell],fun k hk => Below.heap_setCell _ _ _ _ (fun e => hk (e ▸ hp))⟩
theorem Stay.grown {O:Nat→Prop} {a w w':World} {row:Option Nat} (h:Stay O a w) (hg:w.grownBy w' row) (hO:∀ k,w.heap.size≤k→O k) (hr:∀ k,row=some k→O k):Stay O a w' :=
 h.trans ⟨hg.os,hg.tape,hg.output,hg.size,fun k hk => hg.block k (by rcases Nat.lt_or_ge k w.heap.size with h | h;exact h;exact absurd (hO k h) hk) (fun e => hk (hr k e.symm))⟩
def ShelfW (O:Nat→Prop) (w:World) (B mb:Nat) (gs:List FileD):Prop:=∃ D pt,ShelfD w B mb gs D pt∧∀ F ∈ gs,O (pt F.name)
theorem own_put {O:Nat→Prop} {gs:List FileD} {pt:ByteArray→Nat} {p:Nat} (hO:∀ F ∈ gs,O (pt F.name)) (hp:O p) (F:FileD):∀ G ∈ putD gs F,O ((fun s => if s=F.name then p else pt s) G.name):=by
 intro G hG
 by_cases e:G.name=F.name
 ·
  show O (if G.name=F.name then p else pt G.name)
  rw [if_pos e]
  exact hp
 ·
  show O (if G.name=F.name then p else pt G.name)
  rw [if_neg e]
  rcases put_mem.1 hG with rfl | ⟨h,_⟩
  · exact absurd rfl e
  · exact hO G h
theorem own_write {O:Nat→Prop} {gs:List FileD} {pt:ByteArray→Nat} {F F':FileD} (hO:∀ F ∈ gs,O (pt F.name)) (hF:F ∈ gs) (hn:F'.name=F.name):∀ G ∈ putD gs F',O (pt G.name):=by
 intro G hG
 rcases put_mem.1 hG with rfl | ⟨h,_⟩
 ·
  rw [hn]
  exact hO F hF
 · exact hO G h
theorem own_without {O:Nat→Prop} {gs:List FileD} {pt:ByteArray→Nat} (hO:∀ F ∈ gs,O (pt F.name)) (nm:ByteArray):∀ G ∈ withoutD gs nm,O (pt G.name):=fun G hG => hO G (without_mem.1 hG).1
def GapO (B T1 T2 k:Nat):Prop:=B≤k∧¬ (T1≤k∧k < T2)
theorem shelfW_of {w w':World} {B mb T1 T2:Nat} {gs:List FileD} (h:ShelfAt w B mb gs) (hT:w.heap.size≤T1) (hb:Below w.heap.size w w'):ShelfW (GapO B T1 T2) w' B mb gs:=by
 obtain ⟨D,pt,hD⟩:=h
 refine ⟨D,pt,shelfD_below hD hb,fun F hF => ?_⟩
 obtain ⟨_,hB,_,hp⟩:=hD.2.2.2.1 F hF
 have:=(Array.getElem?_eq_some_iff.1 hp).1
 exact ⟨hB,by omega⟩
theorem shelfW_at {O:Nat→Prop} {w:World} {B mb:Nat} {gs:List FileD} (h:ShelfW O w B mb gs):ShelfAt w B mb gs:=by
 obtain ⟨D,pt,hD,_⟩:=h
 exact ⟨D,pt,hD⟩
theorem shelfW_below {O:Nat→Prop} {w w':World} {B mb:Nat} {gs:List FileD} (h:ShelfW O w B mb gs) (hb:Below w.heap.size w w'):ShelfW O w' B mb gs:=by
 obtain ⟨D,pt,hD,hO⟩:=h
 exact ⟨D,pt,shelfD_below hD hb,hO⟩
theorem add_oldO (gs:List FileD) (mb B:Nat) (nm tx:ByteArray) (w:World) (hok:diskOkD gs=true) (O:Nat→Prop) (h:ShelfW O w B mb gs) (hmb:O mb) (_hBw:B≤w.heap.size) (hOw:∀ k,w.heap.size≤k→O k) (htx:tx.size≤1048576) {F:FileD} (hF:fileD gs nm=some F) :
  Calls Tryz.prog 100 #[.map (some mb),.string nm,.string tx] w fun e w' => e=.returned (.bool (addD gs nm tx).isSome)∧ShelfW O w' B mb ((addD gs nm tx).getD gs)∧Stay O w w':=by
 obtain ⟨D,pt,hD,hO⟩:=h
 have HO:=hide hO
 obtain ⟨hFm,rfl⟩:=fileD_some hF
 obtain ⟨hd1,hd2,hd3⟩:=(disk_iff gs).1 hok
 have hfo:=hd2 F hFm
 obtain ⟨n1,n2,n3,n4,n5⟩:=ok_file hfo
 have HD:=hide hD
 obtain ⟨hat,hpB,hpm,hpb⟩:=hD.2.2.2.1 F hFm
 have hhas:has D (kl F.name)=true:=(hD.2.2.1 F.name).2 ⟨F,hFm,rfl⟩
 obtain ⟨p,hp⟩:∃ p,p=pt F.name:=⟨_,rfl⟩
 rw [← hp] at hat hpB hpm hpb
 have HP:=hide hp
 have hpO:O p:=by rw [hp];exact hO F hFm
 have hc0:w.cell? ⟨p,0,none⟩=some (.string F.name):=(cell_of_row w p 0 _ _ (0,0) hpb).trans rfl
 have hc1:w.cell? ⟨p,1,none⟩=some (.string F.text):=(cell_of_row w p 1 _ _ (0,0) hpb).trans rfl
 have hc2:w.cell? ⟨p,2,none⟩=some (.int .i64 F.kept):=(cell_of_row w p 2 _ _ (0,0) hpb).trans rfl
 have hf1:=frozen_of_row w p 1 _ _ hpb
 have HPB:=hide hpb
 have HAT:=hide hat
 have HK:=hide (Tryz.keyS F.name (by unfold maxLen;omega))
 have hsz:size D≤30:=by rw [hD.2.1];exact hd1
 have hadd:addD gs F.name tx=if fileOkD ⟨F.name,F.text ++ tx,F.kept⟩=true then some (putD gs ⟨F.name,F.text ++ tx,F.kept⟩) else none:=by
  unfold addD
  rw [hF]
  simp only [Option.getD_some]
  rw [put_ok_old (F':=⟨F.name,F.text ++ tx,F.kept⟩) hok hFm rfl]
 rw [add_file hfo] at hadd
 have HADD:=hide hadd
 clear hD hp hpb hat hadd hO
 by_cases hbig:F.text.size+tx.size≤20000
 ·
  have hbig':decide ((20000:Int) < (F.text.size:Int)+(tx.size:Int))=false:=by simp;omega
  have HE:Hid (addD gs F.name tx=some (putD gs ⟨F.name,F.text ++ tx,F.kept⟩)):=by show _=_;rw [HADD.out,if_pos (by simp;exact hbig)]
  obtain ⟨X,HX⟩:∃ X:ByteArray,Hid (F.text ++ tx=X):=⟨_,hide rfl⟩
  rw [HX.out] at HE
  obtain ⟨wt,hwt⟩:∃ wt,wt=w.setCell ⟨p,1,none⟩ (.string X):=⟨_,rfl⟩
  have hg1:w.grownBy wt (some p):=by rw [hwt];exact grownBy_store (World.grownBy.refl _ _) 1 _
  have hpb1:wt.heap[p]? = some (fileObj ⟨F.name,X,F.kept⟩):=by rw [hwt];exact (heap_setCell_same _ _ _ _ _ _ HPB.out).trans rfl
  have HD1:Hid (ShelfD wt B mb (putD gs ⟨F.name,X,F.kept⟩) D pt):=shelf_write HD.out hFm rfl (by rw [← HP.out];exact hg1) (by rw [← HP.out];exact hpb1) (put_len_old hd3 hFm rfl)
  have HB1:Hid (Stay O w wt):=(Stay.refl O w).grown hg1 hOw (fun k hk => by cases hk;exact hpO)
  go_enter Tryz.func100,Tryz.ntmps100
  go_wp2_with (first | (at_lookup;refine wpList_lookup_own_ok _ rfl _ _ 123 rfl 9 163 (string_keyed Tryz.underlying9) Tryz.underlying123 ptrElem (Tryz.zeroP _) .nil [] rfl mb (size D) D rfl HD.out.1 _ _ rfl HK.out ?_;intro v ps hv;rw [HAT.out] at hv;obtain rfl:=ptrElem_inv hv;rw [hhas]) | (at_mapUpdate;rw [HX.out,← hwt];refine wpList_mapUpdate_own _ rfl _ _ _ 123 rfl 9 163 (string_keyed Tryz.underlying9) Tryz.underlying123 ptrElem mb (size D) D rfl HD1.out.1 (by unfold maxLen;omega) _ _ _ rfl rfl HK.out (.lit (.int .i64 (p:Int))) [] rfl ?_;intro w1 hown1 hgrow1))
  go_ret
  rw [HE.out]
  refine ⟨rfl,?_,HB1.out.grown hgrow1 (fun k hk => hOw k (Nat.le_trans HB1.out.size hk)) (fun k hk => by cases hk;exact hmb)⟩
  have hs':srt (putD gs ⟨F.name,X,F.kept⟩):=srt_putD _ hd3
  have hmem:(⟨F.name,X,F.kept⟩:FileD) ∈ putD gs ⟨F.name,X,F.kept⟩:=put_mem.2 (.inl rfl)
  have hl1:=put_len_old (F:=F) (F':=⟨F.name,X,F.kept⟩) hd3 hFm rfl
  have hl2:=put_len_old (F:=⟨F.name,X,F.kept⟩) (F':=⟨F.name,X,F.kept⟩) hs' hmem rfl
  have hszp:size (D.put (kl F.name) (.lit (.int .i64 (p:Int))))=size D:=by rw [size_put (HD.out.1.tidy (string_keyed Tryz.underlying9)),hhas];rfl
  have hap:∀ G ∈ putD gs ⟨F.name,X,F.kept⟩,G.name ≠ F.name→pt G.name ≠ p:=fun G hG hn e => by
   rw [HP.out] at e
   exact hn (HD1.out.2.2.2.2 G hG ⟨F.name,X,F.kept⟩ hmem e)
  have hsh:=shelf_put (F:=⟨F.name,X,F.kept⟩) HD1.out hpb1 hpB hpm hap hown1 hgrow1 (by rw [hl2,hl1,hszp,HD.out.2.1])
  exact ⟨_,_,shelfD_congr (fun G => put_put_mem) hl2 hsh,own_put (F:=⟨F.name,X,F.kept⟩) HO.out hpO⟩
 ·
  have hbig':decide ((20000:Int) < (F.text.size:Int)+(tx.size:Int))=true:=by simp;omega
  have HE:Hid (addD gs F.name tx=none):=by show _=_;rw [HADD.out,if_neg (by simp;omega)]
  go_enter Tryz.func100,Tryz.ntmps100
  go_wp2_with (at_lookup;refine wpList_lookup_own_ok _ rfl _ _ 123 rfl 9 163 (string_keyed Tryz.underlying9) Tryz.underlying123 ptrElem (Tryz.zeroP _) .nil [] rfl mb (size D) D rfl HD.out.1 _ _ rfl HK.out ?_;intro v ps hv;rw [HAT.out] at hv;obtain rfl:=ptrElem_inv hv;rw [hhas])
  go_ret
  rw [HE.out]
  exact ⟨rfl,⟨D,pt,HD.out,HO.out⟩,Stay.refl _ _⟩
end Go.Proofs.YtepdckehokdjlaaGreatDoor
