import Derived.Deep.RegionLaw
import Derived.BigQuiet
import Derived.RegionDies
import Derived.Deep.RegionHeld3
import Derived.Deep.CutRange
import Derived.Deep.LoopGhost
import Derived.Test.YtepdckehokdjlaaGreatDoorMg3
import Derived.Test.YtepdckehokdjlaaGreatDoorMg0
import Derived.Test.YtepdckehokdjlaaGreatDoorMg8
set_option maxRecDepth 100000
set_option maxHeartbeats 1600000
namespace Go.Proofs.YtepdckehokdjlaaGreatDoor
open Go.RowKit
theorem rvF_text (s:ByteArray) (i a b:Nat):∀ f p k q n,p=i+k→f+k=5→q=128 ^ k→n=Wd.valF s i k→(∀ j,j < k→128≤Wd.bt s (i+j))→Wd.rvF s f p k q n=some (a,b)→∃ m,b=i+(m+1)∧Wd.varF 5 a=Wd.subF s i (m+1)∧b≤s.size:=by
 intro f
 induction f with
 | zero => intro p k q n _ _ _ _ _ h;simp [Wd.rvF] at h
 | succ f ih =>
  intro p k q n hp hf hq hn hall h
  by_cases h1:p < s.size
  ·
   by_cases h2:Wd.bt s p < 128
   ·
    by_cases h3:n+Wd.bt s p % 128 * q≤1000000000∧(0 < Wd.bt s p ∨ k=0)
    ·
     rw [Wd.rvF_last s f p k q n h1 h2 h3.1 h3.2] at h
     simp only [Option.some.injEq,Prod.mk.injEq] at h
     obtain ⟨rfl,rfl⟩:=h
     subst hp hq hn
     rw [← Wd.valF_snoc]
     exact ⟨k,by omega,(Wd.canonF s k i 5 hall h2 (by omega)).2 h3.2,h1⟩
    · rw [Wd.rvF_not s f p k q n h2 h3] at h;simp at h
   ·
    rw [Wd.rvF_more s f p k q n h1 h2] at h
    refine ih (p+1) (k+1) (q * 128) _ (by omega) (by omega) (by rw [hq,Nat.pow_succ]) (by subst hp hq hn;rw [Wd.valF_snoc]) ?_ h
    intro j hj
    by_cases hjk:j < k
    · exact hall j hjk
    ·
     have:j=k:=by omega
     subst this
     rw [← hp]
     omega
  · rw [Wd.rvF_end s _ p k q n h1] at h;simp at h
theorem take_cut (t:ByteArray) (i k:Nat):t.data.toList.take (i+k)=t.data.toList.take i ++ (t.extract i (i+k)).data.toList:=by
 rw [ByteArray.data_extract,Array.toList_extract,List.extract_eq_take_drop,Nat.add_sub_cancel_left,List.take_add]
theorem rv_text {t:ByteArray} {i a b:Nat} (h:Wd.rv t i=some (a,b)):t.data.toList.take b=t.data.toList.take i ++ Wd.varF 5 a:=by
 obtain ⟨m,rfl,h2,h3⟩:=rvF_text t i a b 5 i 0 1 0 rfl rfl rfl rfl (fun j hj => absurd hj (by omega)) h
 rw [take_cut t i (m+1),Wd.subF_extract t i (m+1) h3,h2]
def shI (t:ByteArray) (i:Nat):Option (ByteArray × Nat) :=
 match Wd.rv t i with
 | none => none
 | some (n,p) => if n≤20000∧p+n≤t.size then some (t.extract p (p+n),p+n) else none
def chI (t:ByteArray) (i:Nat):Option (ChangeD × Nat) :=
 match shI t i with
 | none => none
 | some (s,p) =>
  if p < t.size∧Wd.bt t p < 2 then
   (match shI t (p+1) with
   | none => none
   | some (v,e) => some (⟨s,v,Wd.bt t p == 1⟩,e))
  else none
def chsI (t:ByteArray):Nat→Nat→List ChangeD→Option (List ChangeD × Nat)
 | 0,i,acc => some (acc,i)
 | n+1,i,acc =>
  match chI t i with
  | none => none
  | some (A,p) => chsI t n p (acc ++ [A])
def btI (t:ByteArray):Option (Nat × List ChangeD × Nat) :=
 if 0 < t.size∧Wd.bt t 0=66 then
  (match Wd.rv t 1 with
  | none => none
  | some (q,p) =>
   match Wd.rv t p with
   | none => none
   | some (n,p2) =>
    match chsI t n p2 [] with
    | none => none
    | some (cs,e) => some (q,cs,e))
 else none
def allI (t:ByteArray):Option (Nat × List ChangeD) :=
 match btI t with
 | none => none
 | some (q,cs,e) => if e=t.size∧batchOkD q cs=true then some (q,cs) else none
theorem shI_yes {t:ByteArray} {i n p:Nat} (h:Wd.rv t i=some (n,p)) (h1:n≤20000) (h2:p+n≤t.size):shI t i=some (t.extract p (p+n),p+n):=by
 unfold shI;rw [h];simp only;rw [if_pos ⟨h1,h2⟩]
theorem shI_no {t:ByteArray} {i n p:Nat} (h:Wd.rv t i=some (n,p)) (h1:20000 < n ∨ t.size < p+n):shI t i=none:=by
 unfold shI;rw [h];simp only;rw [if_neg (by omega)]
theorem shI_none {t:ByteArray} {i:Nat} (h:Wd.rv t i=none):shI t i=none:=by
 unfold shI;rw [h]
theorem shI_text {t:ByteArray} {i e:Nat} {s:ByteArray} (h:shI t i=some (s,e)):t.data.toList.take e=t.data.toList.take i ++ (shortB s).data.toList∧i < e∧e≤t.size∧s.size≤20000∧s.size≤t.size:=by
 cases hr:Wd.rv t i with
 | none => rw [shI_none hr] at h;cases h
 | some x =>
  obtain ⟨n,p⟩:=x
  have hb:=Wd.rv_bounds t i n p hr
  by_cases hc:n≤20000∧p+n≤t.size
  ·
   rw [shI_yes hr hc.1 hc.2] at h
   simp only [Option.some.injEq,Prod.mk.injEq] at h
   obtain ⟨rfl,rfl⟩:=h
   have hsz:(t.extract p (p+n)).size=n:=by rw [ByteArray.size_extract];omega
   refine ⟨?_,by omega,hc.2,by omega,by omega⟩
   rw [take_cut t p n,rv_text hr,shortB_list,hsz,List.append_assoc]
  · rw [shI_no hr (by omega)] at h;cases h
theorem flag_list (t:ByteArray) (p:Nat) (h:Wd.bt t p < 2):(flagB (Wd.bt t p == 1)).data.toList=[UInt8.ofNat (Wd.bt t p)]:=by
 have:Wd.bt t p=0 ∨ Wd.bt t p=1:=by omega
 rcases this with e | e <;> rw [e] <;> rfl
theorem take_one (t:ByteArray) (p:Nat) (h:p < t.size):t.data.toList.take (p+1)=t.data.toList.take p ++ [UInt8.ofNat (Wd.bt t p)]:=by
 rw [take_cut t p 1,Wd.subF_extract t p 1 h]
 rfl
theorem chI_text {t:ByteArray} {i e:Nat} {A:ChangeD} (h:chI t i=some (A,e)):t.data.toList.take e=t.data.toList.take i ++ (changeB A).data.toList∧i < e∧e≤t.size∧A.key.size≤20000∧A.value.size≤20000:=by
 unfold chI at h
 cases h1:shI t i with
 | none => rw [h1] at h;cases h
 | some x =>
  obtain ⟨s,p⟩:=x
  rw [h1] at h
  simp only at h
  by_cases hc:p < t.size∧Wd.bt t p < 2
  ·
   rw [if_pos hc] at h
   cases h2:shI t (p+1) with
   | none => rw [h2] at h;cases h
   | some y =>
    obtain ⟨v,e'⟩:=y
    rw [h2] at h
    simp only [Option.some.injEq,Prod.mk.injEq] at h
    obtain ⟨rfl,rfl⟩:=h
    obtain ⟨a1,a2,a3,a4,a5⟩:=shI_text h1
    obtain ⟨b1,b2,b3,b4,b5⟩:=shI_text h2
    refine ⟨?_,by omega,b3,a4,b4⟩
    rw [b1,take_one t p hc.1,a1,changeB_list,flag_list t p hc.2]
    simp only [List.append_assoc]
  · rw [if_neg hc] at h;cases h
theorem chsI_text {t:ByteArray}:∀ (n i:Nat) (acc:List ChangeD) (cs:List ChangeD) (e:Nat),chsI t n i acc=some (cs,e)→i≤t.size→∃ ns,cs=acc ++ ns∧ns.length=n∧t.data.toList.take e=t.data.toList.take i ++ changesL ns∧e≤t.size
 | 0,i,acc,cs,e,h,hi => by
  simp only [chsI,Option.some.injEq,Prod.mk.injEq] at h
  obtain ⟨rfl,rfl⟩:=h
  exact ⟨[],by simp,rfl,by simp [changesL],hi⟩
 | n+1,i,acc,cs,e,h,hi => by
  unfold chsI at h
  cases h1:chI t i with
  | none => rw [h1] at h;cases h
  | some x =>
   obtain ⟨A,p⟩:=x
   rw [h1] at h
   obtain ⟨a1,a2,a3,a4⟩:=chI_text h1
   obtain ⟨ns,rfl,c2,c3,c4⟩:=chsI_text n p (acc ++ [A]) cs e h a3
   exact ⟨A :: ns,by simp,by simp [c2],by rw [c3,a1,changesL,List.append_assoc],c4⟩
theorem headB_list (q n:Nat):(headB q n).data.toList=[66] ++ Wd.varF 5 q ++ Wd.varF 5 n:=by
 unfold headB
 rw [ByteArray.data_append,ByteArray.data_append,Array.toList_append,Array.toList_append]
theorem btI_text {t:ByteArray} {q e:Nat} {cs:List ChangeD} (h:btI t=some (q,cs,e)):t.data.toList.take e=batchL q cs∧e≤t.size:=by
 unfold btI at h
 by_cases hc:0 < t.size∧Wd.bt t 0=66
 ·
  rw [if_pos hc] at h
  cases h1:Wd.rv t 1 with
  | none => rw [h1] at h;cases h
  | some x =>
   obtain ⟨q',p⟩:=x
   rw [h1] at h
   simp only at h
   cases h2:Wd.rv t p with
   | none => rw [h2] at h;cases h
   | some y =>
    obtain ⟨n,p2⟩:=y
    rw [h2] at h
    simp only at h
    have hb:=Wd.rv_bounds t p n p2 h2
    cases h3:chsI t n p2 [] with
    | none => rw [h3] at h;cases h
    | some z =>
     obtain ⟨cs',e'⟩:=z
     rw [h3] at h
     simp only [Option.some.injEq,Prod.mk.injEq] at h
     obtain ⟨rfl,rfl,rfl⟩:=h
     obtain ⟨ns,c1,c2,c3,c4⟩:=chsI_text n p2 [] cs' e' h3 hb.2.2
     rw [List.nil_append] at c1
     subst c1
     refine ⟨?_,c4⟩
     have h0:=take_one t 0 hc.1
     rw [hc.2] at h0
     rw [c3,rv_text h2,rv_text h1,show (1:Nat)=0+1 from rfl,h0,List.take_zero,batchL,headB_list,c2]
     rfl
 · rw [if_neg hc] at h;cases h
theorem rv_at {t:ByteArray} (a b:List UInt8) (n:Nat) (hn:n≤1000000000) (ht:t=⟨(a ++ Wd.varF 5 n ++ b).toArray⟩):Wd.rv t a.length=some (n,a.length+(Wd.varF 5 n).length):=by
 have h:=rvI_at a b n hn (a.length:Int) rfl
 have hs:(⟨(a ++ Wd.varF 5 n ++ b).toArray⟩:ByteArray).size=a.length+(Wd.varF 5 n).length+b.length:=by
  show (a ++ Wd.varF 5 n ++ b).length=_
  rw [List.length_append,List.length_append]
 unfold Wd.rvI at h
 rw [if_neg (by rw [hs];omega),Int.toNat_natCast,← ht] at h
 exact h
theorem cut_list {t:ByteArray} (a b:List UInt8) (s:ByteArray) (ht:t=⟨(a ++ s.data.toList ++ b).toArray⟩):t.extract a.length (a.length+s.size)=s∧a.length+s.size≤t.size:=by
 have hl:s.data.toList.length=s.size:=rfl
 have hs:t.size=a.length+s.size+b.length:=by
  rw [ht]
  show (a ++ s.data.toList ++ b).length=_
  rw [List.length_append,List.length_append,hl]
 have h:=takeC_at a b s ht
 unfold takeC at h
 rw [if_neg (by simp;omega)] at h
 exact ⟨(Prod.mk.inj h).1,by omega⟩
theorem shI_at {t:ByteArray} (a b:List UInt8) (s:ByteArray) (hs:s.size≤20000) (ht:t=⟨(a ++ (shortB s).data.toList ++ b).toArray⟩):shI t a.length=some (s,a.length+(shortB s).size):=by
 rw [shortB_list] at ht
 have h1:=rv_at (t:=t) a (s.data.toList ++ b) s.size (by omega) (by rw [ht];simp only [List.append_assoc])
 obtain ⟨h2,h3⟩:=cut_list (t:=t) (a ++ Wd.varF 5 s.size) b s (by rw [ht];simp only [List.append_assoc])
 rw [List.length_append] at h2 h3
 rw [shI_yes h1 hs h3,h2,shortB_len,Nat.add_assoc]
theorem chI_at {t:ByteArray} (a b:List UInt8) (A:ChangeD) (hk:A.key.size≤20000) (hv:A.value.size≤20000) (ht:t=⟨(a ++ (changeB A).data.toList ++ b).toArray⟩):chI t a.length=some (A,a.length+(changeB A).size):=by
 rw [changeB_list] at ht
 have h1:=shI_at (t:=t) a ((flagB A.gone).data.toList ++ (shortB A.value).data.toList ++ b) A.key hk (by rw [ht];simp only [List.append_assoc])
 have h3:=shI_at (t:=t) (a ++ (shortB A.key).data.toList ++ (flagB A.gone).data.toList) b A.value hv (by rw [ht];simp only [List.append_assoc])
 have e1:(shortB A.key).data.toList.length=(shortB A.key).size:=rfl
 have e2:(flagB A.gone).data.toList.length=(flagB A.gone).size:=rfl
 rw [List.length_append,List.length_append,e1,e2,flagB_size] at h3
 have hz:(changeB A).size=(shortB A.key).size+1+(shortB A.value).size:=by
  unfold changeB
  rw [ByteArray.size_append,ByteArray.size_append,flagB_size]
 have hf:(flagB A.gone).data.toList=[if A.gone then 1 else 0]:=by cases A.gone <;> rfl
 have hp:(a ++ (shortB A.key).data.toList ++ (flagB A.gone).data.toList ++ (shortB A.value).data.toList ++ b)[a.length+(shortB A.key).size]? = some (if A.gone then 1 else 0):=by
  rw [hf]
  simp only [List.append_assoc]
  rw [List.getElem?_append_right (by omega),Nat.add_sub_cancel_left,← e1,List.getElem?_append_right (Nat.le_refl _),Nat.sub_self]
  rfl
 have hb:=bt_here _ _ _ hp
 have hlt:a.length+(shortB A.key).size < t.size:=by
  rw [ht]
  have:=(List.getElem?_eq_some_iff.1 hp).1
  show _ < (a ++ ((shortB A.key).data.toList ++ (flagB A.gone).data.toList ++ (shortB A.value).data.toList) ++ b).length
  simp only [List.append_assoc] at this ⊢
  exact this
 have hb':Wd.bt t (a.length+(shortB A.key).size)=if A.gone then 1 else 0:=by
  rw [ht]
  simp only [List.append_assoc] at hb ⊢
  rw [hb]
  cases A.gone <;> rfl
 unfold chI
 rw [h1]
 simp only
 rw [if_pos ⟨hlt,by rw [hb'];split <;> omega⟩,h3,hb',hz]
 simp only [Nat.add_assoc]
 have hg:((if A.gone=true then 1 else 0) == 1)=A.gone:=by cases A.gone <;> rfl
 rw [hg]
theorem chsI_at {t:ByteArray}:∀ (fs:List ChangeD) (a b:List UInt8) (acc:List ChangeD),(∀ A ∈ fs,A.key.size≤20000∧A.value.size≤20000)→t=⟨(a ++ changesL fs ++ b).toArray⟩→chsI t fs.length a.length acc=some (acc ++ fs,a.length+(changesL fs).length)
 | [],a,b,acc,_,_ => by simp [chsI,changesL]
 | A :: r,a,b,acc,hs,ht => by
  have hA:=hs A (List.mem_cons_self ..)
  have h1:=chI_at (t:=t) a (changesL r ++ b) A hA.1 hA.2 (by rw [ht];simp only [changesL,List.append_assoc])
  have h2:=chsI_at (t:=t) r (a ++ (changeB A).data.toList) b (acc ++ [A]) (fun B hB => hs B (List.mem_cons_of_mem _ hB)) (by rw [ht];simp only [changesL,List.append_assoc])
  have e1:(changeB A).data.toList.length=(changeB A).size:=rfl
  rw [List.length_append,e1] at h2
  rw [List.length_cons]
  simp only [chsI,h1]
  rw [h2]
  simp [changesL,e1,Nat.add_assoc]
theorem allI_rd {t:ByteArray} {q:Nat} {cs:List ChangeD} (ht:t.size≤9000) (h:allI t=some (q,cs)):rdOk t=true∧rdSeq t=(q:Int)∧rdChanges t=cs:=by
 unfold allI at h
 cases h1:btI t with
 | none => rw [h1] at h;cases h
 | some x =>
  obtain ⟨q',cs',e⟩:=x
  rw [h1] at h
  simp only at h
  by_cases hc:e=t.size∧batchOkD q' cs' = true
  ·
   rw [if_pos hc] at h
   simp only [Option.some.injEq,Prod.mk.injEq] at h
   obtain ⟨rfl,rfl⟩:=h
   obtain ⟨a1,-⟩:=btI_text h1
   rw [hc.1,List.take_of_length_le (show t.data.toList.length≤t.size from Nat.le_refl _)] at a1
   have hl:(batchL q' cs').length≤9000:=by rw [← a1];exact ht
   have hT:textOkD (q':Int) cs' = true:=by
    unfold textOkD
    rw [hc.2,Int.toNat_natCast]
    simp [hl]
   have hx:textD (q':Int) cs' = t:=by
    unfold textD
    rw [if_pos hT,Int.toNat_natCast,← a1]
   have:=rd_back hT
   rw [hx] at this
   exact this
  · rw [if_neg hc] at h;cases h
theorem rd_allI {t:ByteArray} (h:rdOk t=true):t.size≤9000∧allI t=some ((rdSeq t).toNat,rdChanges t):=by
 obtain ⟨h1,h2⟩:=rd_text h
 generalize rdSeq t=s at h1 h2
 generalize rdChanges t=fs at h1 h2
 have hb:batchOkD s fs=true:=by unfold textOkD at h1;simp only [Bool.and_eq_true] at h1;exact h1.1
 have hl:(batchL s.toNat fs).length≤9000:=by unfold textOkD at h1;simp only [Bool.and_eq_true,decide_eq_true_eq] at h1;exact h1.2
 obtain ⟨g0,g1,g2,g3⟩:=batchOkD_bounds hb
 have hok:okChg none fs=true:=by unfold batchOkD at hb;simp only [Bool.and_eq_true] at hb;exact hb.2.2
 have hsm:=okChg_small fs none hok
 obtain ⟨m,rfl⟩:=Int.eq_ofNat_of_zero_le g0
 rw [Int.toNat_natCast] at hl ⊢
 unfold textD at h2
 rw [if_pos h1,Int.toNat_natCast] at h2
 have ht:=h2.symm
 unfold batchL at ht
 rw [headB_list] at ht
 have hsz:t.size=(batchL m fs).length:=by rw [← h2];rfl
 have k2:=rv_at (t:=t) [66] (Wd.varF 5 fs.length ++ changesL fs) m (by omega) (by rw [ht];simp only [List.append_assoc])
 have k3:=rv_at (t:=t) ([66] ++ Wd.varF 5 m) (changesL fs) fs.length (by omega) (by rw [ht])
 have k4:=chsI_at (t:=t) fs ([66] ++ Wd.varF 5 m ++ Wd.varF 5 fs.length) [] [] (fun A hA => by have:=hsm A hA;omega) (by rw [ht,List.append_nil])
 have k1:Wd.bt t 0=66:=by rw [ht];exact bt_here _ 0 66 rfl
 have hpos:0 < t.size:=by rw [ht];show 0 < ([66] ++ Wd.varF 5 m ++ Wd.varF 5 fs.length ++ changesL fs).length;simp
 have hend:([66] ++ Wd.varF 5 m ++ Wd.varF 5 fs.length).length+(changesL fs).length=t.size:=by rw [hsz,batchL,headB_list];simp only [List.length_append]
 rw [hend] at k4
 simp only [List.length_append,List.length_cons,List.length_nil,Nat.zero_add,List.nil_append] at k2 k3 k4
 refine ⟨by omega,?_⟩
 unfold allI btI
 rw [if_pos ⟨hpos,k1⟩,k2]
 simp only
 rw [k3]
 simp only
 rw [k4]
 simp only [hb,and_self,if_true]
theorem allI_none {t:ByteArray} (h:allI t=none):rdOk t=false∧rdSeq t=0∧rdChanges t=[]:=by
 have:rdOk t=false:=by
  cases hr:rdOk t
  · rfl
  · rw [(rd_allI hr).2] at h;cases h
 exact ⟨this,by unfold rdSeq;rw [this];rfl,by unfold rdChanges;rw [this];rfl⟩
theorem big_none {t:ByteArray} (h:9000 < t.size):rdOk t=false∧rdSeq t=0∧rdChanges t=[]:=by
 have:rdOk t=false:=by
  cases hr:rdOk t
  · rfl
  · have:=(rd_allI hr).1;omega
 exact ⟨this,by unfold rdSeq;rw [this];rfl,by unfold rdChanges;rw [this];rfl⟩
theorem cut_len (s:ByteArray) (p n:Nat) (h:p+n≤s.size):∀ W:World,(Instr.slice 9 (.string s) (some (.int .i64 (p:Int))) (some (.int .i64 ((p:Int)+(n:Int)))) none).run Tryz.prog W=.ok (.string (s.extract p (p+n))) W:=by
 intro W
 have:=run_slice_string (P:=Tryz.prog) W 9 s .i64 .i64 (p:Int) ((p:Int)+(n:Int)) Tryz.underlying9 (by omega) (by omega) (by omega)
 rw [this,Int.toNat_natCast,show ((p:Int)+(n:Int)).toNat=p+n from by omega]
theorem implRShort_none (s:ByteArray) (i:Int) (w:World) (hs:s.size≤1048576) (h:Wd.rvI s i=none) :
  Calls Tryz.prog 225 #[.string s,.int .i64 i] w fun e w' => e=.returned (.tuple #[.string ⟨#[]⟩,.int .i64 0,.bool false])∧Below w.heap.size w w':=by
 have H:=hide h
 clear h
 go_enter Tryz.func225,Tryz.ntmps225
 go_wp2_with (go_at_call 205;refine (implRead_none s i _ hs H.out).mono ?_;rintro e w1 ⟨rfl,rfl⟩)
 go_ret3
 exact ⟨rfl,Below.refl _ _⟩
theorem implRShort_no (s:ByteArray) (i:Int) (w:World) (n p:Nat) (hs:s.size≤1048576) (h:Wd.rvI s i=some (n,p)) (hno:20000 < n ∨ s.size < p+n) :
  Calls Tryz.prog 225 #[.string s,.int .i64 i] w fun e w' => e=.returned (.tuple #[.string ⟨#[]⟩,.int .i64 0,.bool false])∧Below w.heap.size w w':=by
 have hbd:=Wd.rvI_bounds s i n p h
 have H:=hide h
 clear h
 by_cases hn:20000 < n
 ·
  have hn':decide (20000 < (n:Int))=true:=by simp;omega
  go_enter Tryz.func225,Tryz.ntmps225
  go_wp2_with (go_at_call 205;refine (implRead_some s i _ n p hs H.out).mono ?_;rintro e w1 ⟨rfl,rfl⟩)
  go_ret3
  exact ⟨rfl,Below.refl _ _⟩
 ·
  have hn':decide (20000 < (n:Int))=false:=by simp;omega
  have hn2:decide ((s.size:Int) - (p:Int) < (n:Int))=true:=by simp;omega
  go_enter Tryz.func225,Tryz.ntmps225
  go_wp2_with (go_at_call 205;refine (implRead_some s i _ n p hs H.out).mono ?_;rintro e w1 ⟨rfl,rfl⟩)
  go_ret3
  exact ⟨rfl,Below.refl _ _⟩
theorem implRShort_yes (s:ByteArray) (i:Int) (w:World) (n p:Nat) (hs:s.size≤1048576) (h:Wd.rvI s i=some (n,p)) (hn:n≤20000) (hp:p+n≤s.size) :
  Calls Tryz.prog 225 #[.string s,.int .i64 i] w fun e w' => e=.returned (.tuple #[.string (s.extract p (p+n)),.int .i64 ((p:Int)+(n:Int)),.bool true])∧Below w.heap.size w w':=by
 have hsl:=cut_len s p n hp
 have H:=hide h
 clear h
 have hn':decide (20000 < (n:Int))=false:=by simp;omega
 have hn2:decide ((s.size:Int) - (p:Int) < (n:Int))=false:=by simp;omega
 go_enter Tryz.func225,Tryz.ntmps225
 go_wp2_with (first | (go_at_call 205;refine (implRead_some s i _ n p hs H.out).mono ?_;rintro e w1 ⟨rfl,rfl⟩) | (go_at_call 117;refine (ownText_any _ _ (by simp only [ByteArray.size_extract];omega)).mono ?_;rintro e w2 ⟨rfl,hb2⟩))
 go_ret3
 exact ⟨rfl,hb2⟩
def CurI (w:World) (g:Nat) (t:ByteArray) (i:Nat):Prop:=w.heap[g]? = some (.cells #[.string t,.int .i64 (i:Int)] 262 (0,0))
def noB:List PanicEntry:=[{ v:=.iface 277 (.agg #[]),recovered:=false }]
theorem curI_cells {w:World} {g:Nat} {t:ByteArray} {i:Nat} (h:CurI w g t i):w.cell? ⟨g,0,none⟩=some (.string t)∧w.cell? ⟨g,1,none⟩=some (.int .i64 (i:Int))∧w.frozen? ⟨g,1,none⟩=false :=
 ⟨(cell_of_row w g 0 _ _ (0,0) h).trans rfl,(cell_of_row w g 1 _ _ (0,0) h).trans rfl,frozen_of_row w g 1 _ _ h⟩
theorem curI_lt {w:World} {g:Nat} {t:ByteArray} {i:Nat} (h:CurI w g t i):g < w.heap.size:=(Array.getElem?_eq_some_iff.1 h).1
theorem curI_below {w w':World} {g:Nat} {t:ByteArray} {i:Nat} (h:CurI w g t i) (hb:Below w.heap.size w w'):CurI w' g t i:=(hb.block g (curI_lt h)).trans h
theorem curI_set {w:World} {g:Nat} {t:ByteArray} {i:Nat} (h:CurI w g t i) (k:Nat):CurI (w.setCell ⟨g,1,none⟩ (.int .i64 (k:Int))) g t k:=(heap_setCell_same _ _ _ _ _ _ h).trans rfl
theorem must_yes (p:Value) (w:World):Calls Tryz.prog 209 #[p,.bool true] w fun e w' => e=.returned (.tuple #[])∧w' = w:=by
 go_enter Tryz.func209,Tryz.ntmps209
 go_wp2
 go_end0
 exact ⟨rfl,rfl⟩
theorem must_no (p:Value) (w:World):Calls Tryz.prog 209 #[p,.bool false] w fun e w' => e=.panicked noB∧w' = w:=by
 go_enter Tryz.func209,Tryz.ntmps209
 go_wp2
 exact ⟨rfl,rfl,rfl⟩
def RI (w W:World) (g:Nat) (t:ByteArray) (i:Nat):Prop:=CurI W g t i∧w.grownBy W (some g)
theorem ri_refl {w:World} {g:Nat} {t:ByteArray} {i:Nat} (h:CurI w g t i):RI w w g t i:=⟨h,World.grownBy.refl _ _⟩
theorem ri_below {w W W':World} {g:Nat} {t:ByteArray} {i:Nat} (h:RI w W g t i) (hb:Below W.heap.size W W'):RI w W' g t i:=⟨curI_below h.1 hb,grownBy_trans h.2 (grownBy_below _ hb)⟩
theorem ri_trans {w W W':World} {g:Nat} {t:ByteArray} {i j:Nat} (h:RI w W g t i) (k:RI W W' g t j):RI w W' g t j:=⟨k.1,grownBy_trans h.2 k.2⟩
theorem ri_set {w W:World} {g:Nat} {t:ByteArray} {i:Nat} (h:RI w W g t i) (k:Nat) (z:Int) (hz:z=(k:Int)):RI w (W.setCell ⟨g,1,none⟩ (.int .i64 z)) g t k:=by
 subst hz
 exact ⟨curI_set h.1 k,grownBy_store h.2 1 _⟩
theorem grownBy_far {a b:World} {r:Option Nat} (h:a.grownBy b r) {p:Nat} (hp:a.heap.size≤p) (j:Nat) (u:Value):a.grownBy (b.setCell ⟨p,j,none⟩ u) r :=
 ⟨h.os,h.tape,h.output,by have:=h.size;simpa [World.setCell] using this,fun k hk hne => (Below.heap_setCell _ _ _ _ (by intro e;simp only at e;omega)).trans (h.block k hk hne)⟩
theorem ri_far {w W:World} {g:Nat} {t:ByteArray} {i:Nat} (h:RI w W g t i) (hg:g < w.heap.size) {p:Nat} (hp:w.heap.size≤p) (j:Nat) (u:Value):RI w (W.setCell ⟨p,j,none⟩ u) g t i :=
 ⟨(Below.heap_setCell _ _ _ _ (by intro e;simp only at e;omega)).trans h.1,grownBy_far h.2 hp j u⟩
theorem ri_cells {w W:World} {g:Nat} {t:ByteArray} {i:Nat} (h:RI w W g t i):W.cell? ⟨g,0,none⟩=some (.string t)∧W.cell? ⟨g,1,none⟩=some (.int .i64 (i:Int))∧W.frozen? ⟨g,1,none⟩=false:=curI_cells h.1
theorem oneByte_yes (t:ByteArray) (g i:Nat) (w:World) (ht:t.size≤9000) (hi:i < t.size) (h:CurI w g t i) :
  Calls Tryz.prog 215 #[.pointer (some ⟨g,0,none⟩)] w fun e w' => e=.returned (.int .u8 (Wd.bt t i:Int))∧RI w w' g t (i+1):=by
 have HC:=hide h
 have hg:=curI_lt h
 obtain ⟨hc0,hc1,hf1⟩:=curI_cells h
 clear h
 have hlt:decide ((i:Int) < (t.size:Int))=true:=by simp;omega
 obtain ⟨b,hB,hbt⟩:∃ b:Nat,Hid (Wd.bt t i=b)∧(t[i]'hi).toNat=b:=⟨_,rfl,Wd.bt_eq t i hi⟩
 go_enter Tryz.func215,Tryz.ntmps215
 go_wp2_with fail
 go_quiet ((go_at_call 209;exact Calls.quiet_of_same (must_yes _ _)))
 go_wp2_with fail
 go_quiet (fail)
 go_wp2
 go_ret
 rw [hB.out]
 exact ⟨rfl,ri_set (ri_below (ri_refl HC.out) (drewN_below _ _)) (i+1) _ (by omega)⟩
theorem oneByte_no (t:ByteArray) (g i:Nat) (w:World) (hi:¬ i < t.size) (h:CurI w g t i) :
  Calls Tryz.prog 215 #[.pointer (some ⟨g,0,none⟩)] w fun e w' => e=.panicked noB∧w.grownBy w' (some g):=by
 obtain ⟨hc0,hc1,hf1⟩:=curI_cells h
 clear h
 have hlt:decide ((i:Int) < (t.size:Int))=false:=by simp;omega
 go_enter Tryz.func215,Tryz.ntmps215
 go_wp2_with fail
 go_region_dies
 all_goals
  refine (must_no _ _).mono ?_
  rintro e w1 ⟨rfl,rfl⟩
  exact ⟨rfl,rfl,grownBy_below _ (Below.refl _ _).drew⟩
theorem number_yes (t:ByteArray) (g i n p:Nat) (w:World) (ht:t.size≤9000) (hi:i≤t.size) (h:CurI w g t i) (hr:Wd.rv t i=some (n,p)) :
  Calls Tryz.prog 216 #[.pointer (some ⟨g,0,none⟩)] w fun e w' => e=.returned (.int .i64 (n:Int))∧RI w w' g t p:=by
 have HC:=hide h
 have hg:=curI_lt h
 obtain ⟨hc0,hc1,hf1⟩:=curI_cells h
 have hread:Hid (∀ W,Calls Tryz.prog 205 #[.string t,.int .i64 (i:Int)] W fun e w' => e=.returned (.tuple #[.int .i64 (n:Int),.int .i64 (p:Int),.bool true])∧w' = W):=fun W => by have:=implRead_in t i W (by unfold maxLen;omega) hi;rw [hr] at this;exact this
 clear h hr
 go_enter Tryz.func216,Tryz.ntmps216
 go_wp2_with fail
 go_quiet ((go_at_call 205;exact Calls.quiet_of_same (hread.out _)))
 go_wp2_with (first | (go_at_call 209;refine (must_yes _ _).mono ?_;rintro e w1 ⟨rfl,rfl⟩))
 go_ret
 exact ⟨rfl,ri_set (ri_below (ri_refl HC.out) (drewN_below _ _)) _ _ rfl⟩
theorem number_no (t:ByteArray) (g i:Nat) (w:World) (ht:t.size≤9000) (hi:i≤t.size) (h:CurI w g t i) (hr:Wd.rv t i=none) :
  Calls Tryz.prog 216 #[.pointer (some ⟨g,0,none⟩)] w fun e w' => e=.panicked noB∧w.grownBy w' (some g):=by
 obtain ⟨hc0,hc1,hf1⟩:=curI_cells h
 have hread:Hid (∀ W,Calls Tryz.prog 205 #[.string t,.int .i64 (i:Int)] W fun e w' => e=.returned (.tuple #[.int .i64 0,.int .i64 0,.bool false])∧w' = W):=fun W => by have:=implRead_in t i W (by unfold maxLen;omega) hi;rw [hr] at this;exact this
 clear h hr
 go_enter Tryz.func216,Tryz.ntmps216
 go_wp2_with fail
 go_quiet ((go_at_call 205;exact Calls.quiet_of_same (hread.out _)))
 go_wp2_with fail
 refine (must_no _ _).mono ?_
 rintro e w1 ⟨rfl,rfl⟩
 exact ⟨rfl,rfl,grownBy_below _ (drewN_below _ _)⟩
theorem readShort_some (t:ByteArray) (i:Nat) (s:ByteArray) (p:Nat) (w:World) (ht:t.size≤9000) (hi:i≤t.size) (h:shI t i=some (s,p)) :
  Calls Tryz.prog 225 #[.string t,.int .i64 (i:Int)] w fun e w' => e=.returned (.tuple #[.string s,.int .i64 (p:Int),.bool true])∧Below w.heap.size w w':=by
 have hI:Wd.rvI t (i:Int)=Wd.rv t i:=by unfold Wd.rvI;rw [if_neg (by omega),Int.toNat_natCast]
 cases hr:Wd.rv t i with
 | none => rw [shI_none hr] at h;cases h
 | some x =>
  obtain ⟨n,k⟩:=x
  by_cases hc:n≤20000∧k+n≤t.size
  ·
   rw [shI_yes hr hc.1 hc.2] at h
   simp only [Option.some.injEq,Prod.mk.injEq] at h
   obtain ⟨rfl,rfl⟩:=h
   have:=implRShort_yes t (i:Int) w n k (by omega) (by rw [hI];exact hr) hc.1 hc.2
   rw [show ((k+n:Nat):Int)=(k:Int)+(n:Int) from by omega]
   exact this
  · rw [shI_no hr (by omega)] at h;cases h
theorem readShort_none (t:ByteArray) (i:Nat) (w:World) (ht:t.size≤9000) (hi:i≤t.size) (h:shI t i=none) :
  Calls Tryz.prog 225 #[.string t,.int .i64 (i:Int)] w fun e w' => e=.returned (.tuple #[.string ⟨#[]⟩,.int .i64 0,.bool false])∧Below w.heap.size w w':=by
 have hI:Wd.rvI t (i:Int)=Wd.rv t i:=by unfold Wd.rvI;rw [if_neg (by omega),Int.toNat_natCast]
 cases hr:Wd.rv t i with
 | none => exact implRShort_none t (i:Int) w (by omega) (by rw [hI];exact hr)
 | some x =>
  obtain ⟨n,k⟩:=x
  by_cases hc:n≤20000∧k+n≤t.size
  · rw [shI_yes hr hc.1 hc.2] at h;cases h
  · exact implRShort_no t (i:Int) w n k (by omega) (by rw [hI];exact hr) (by omega)
theorem short_yes (t:ByteArray) (g i:Nat) (s:ByteArray) (p:Nat) (w:World) (ht:t.size≤9000) (hi:i≤t.size) (h:CurI w g t i) (hr:shI t i=some (s,p)) :
  Calls Tryz.prog 222 #[.pointer (some ⟨g,0,none⟩)] w fun e w' => e=.returned (.string s)∧RI w w' g t p:=by
 have HC:=hide h
 have hg:=curI_lt h
 obtain ⟨hc0,hc1,hf1⟩:=curI_cells h
 have HR:=hide (fun W => readShort_some t i s p W ht hi hr)
 clear h hr
 go_enter Tryz.func222,Tryz.ntmps222
 go_wp2_with fail
 go_region_held3 (fun w' => w'.cell? ⟨g,0,none⟩=some (.string t)∧w'.cell? ⟨g,1,none⟩=some (.int .i64 (i:Int))) (first | (go_keep;done) | (exact ⟨(B2.out.cell (p:=⟨g,0,none⟩) hg).trans hc0,(B2.out.cell (p:=⟨g,1,none⟩) hg).trans hc1⟩) | fail) ((first | (go_at_call 225;refine (HR.out _).mono ?_;rintro e w2 ⟨rfl,b2⟩;have B2:Hid (Below w.heap.size w w2):=(Below.refl _ _).drew.trans b2;clear b2) | fail))
 have R2:=hide (ri_below (ri_refl HC.out) B2.out)
 obtain ⟨_,hd1,hd2⟩:=ri_cells R2.out
 go_wp2_with (first | (go_at_call 209;refine (must_yes _ _).mono ?_;rintro e w1 ⟨rfl,rfl⟩))
 go_ret
 exact ⟨rfl,ri_set R2.out _ _ rfl⟩
theorem short_no (t:ByteArray) (g i:Nat) (w:World) (ht:t.size≤9000) (hi:i≤t.size) (h:CurI w g t i) (hr:shI t i=none) :
  Calls Tryz.prog 222 #[.pointer (some ⟨g,0,none⟩)] w fun e w' => e=.panicked noB∧w.grownBy w' (some g):=by
 have hg:=curI_lt h
 obtain ⟨hc0,hc1,hf1⟩:=curI_cells h
 have HR:=hide (fun W => readShort_none t i W ht hi hr)
 clear h hr
 go_enter Tryz.func222,Tryz.ntmps222
 go_wp2_with fail
 go_region_held3 (fun w' => w'.cell? ⟨g,0,none⟩=some (.string t)∧w'.cell? ⟨g,1,none⟩=some (.int .i64 (i:Int))) (first | (go_keep;done) | (exact ⟨(B2.out.cell (p:=⟨g,0,none⟩) hg).trans hc0,(B2.out.cell (p:=⟨g,1,none⟩) hg).trans hc1⟩) | fail) ((first | (go_at_call 225;refine (HR.out _).mono ?_;rintro e w2 ⟨rfl,b2⟩;have B2:Hid (Below w.heap.size w w2):=(Below.refl _ _).drew.trans b2;clear b2) | fail))
 go_wp2_with fail
 refine (must_no _ _).mono ?_
 rintro e w1 ⟨rfl,rfl⟩
 exact ⟨rfl,rfl,grownBy_below _ B2.out⟩
theorem chI_some {t:ByteArray} {i e:Nat} {A:ChangeD} (h:chI t i=some (A,e)):∃ p,shI t i=some (A.key,p)∧p < t.size∧Wd.bt t p < 2∧shI t (p+1)=some (A.value,e)∧A.gone=(Wd.bt t p == 1):=by
 unfold chI at h
 cases h1:shI t i with
 | none => rw [h1] at h;cases h
 | some x =>
  obtain ⟨s,p⟩:=x
  rw [h1] at h
  simp only at h
  by_cases hc:p < t.size∧Wd.bt t p < 2
  ·
   rw [if_pos hc] at h
   cases h2:shI t (p+1) with
   | none => rw [h2] at h;cases h
   | some y =>
    obtain ⟨v,e'⟩:=y
    rw [h2] at h
    simp only [Option.some.injEq,Prod.mk.injEq] at h
    obtain ⟨rfl,rfl⟩:=h
    exact ⟨p,rfl,hc.1,hc.2,h2,rfl⟩
  · rw [if_neg hc] at h;cases h
theorem chI_none {t:ByteArray} {i:Nat} (h:chI t i=none):shI t i=none ∨ ∃ s p,shI t i=some (s,p)∧(¬ p < t.size ∨ (p < t.size∧¬ Wd.bt t p < 2) ∨ (p < t.size∧Wd.bt t p < 2∧shI t (p+1)=none)):=by
 unfold chI at h
 cases h1:shI t i with
 | none => exact .inl rfl
 | some x =>
  obtain ⟨s,p⟩:=x
  rw [h1] at h
  simp only at h
  refine .inr ⟨s,p,rfl,?_⟩
  by_cases hp:p < t.size
  ·
   by_cases hb:Wd.bt t p < 2
   ·
    rw [if_pos ⟨hp,hb⟩] at h
    cases h2:shI t (p+1) with
    | none => exact .inr (.inr ⟨hp,hb,rfl⟩)
    | some y =>
     rw [h2] at h
     cases h
   · exact .inr (.inl ⟨hp,hb⟩)
  · exact .inl hp
theorem change_yes (t:ByteArray) (g i e:Nat) (A:ChangeD) (w:World) (ht:t.size≤9000) (hi:i≤t.size) (h:CurI w g t i) (hA:chI t i=some (A,e)) :
  Calls Tryz.prog 217 #[.pointer (some ⟨g,0,none⟩)] w fun r w' => r=.returned (.agg #[.string A.key,.string A.value,.bool A.gone])∧RI w w' g t e:=by
 obtain ⟨p,h1,h2,h3,h4,h5⟩:=chI_some hA
 obtain ⟨s,v,gn⟩:=A
 simp only at h1 h4 h5 ⊢
 have hp:=(shI_text h1).2.2.1
 have C1:=hide (fun W (hW:CurI W g t i) => short_yes t g i s p W ht hi hW h1)
 have C3:=hide (fun W (hW:CurI W g t (p+1)) => short_yes t g (p+1) v e W ht (by omega) hW h4)
 have hg:=curI_lt h
 have b0:RI w (w.alloc (.cells #[.string ⟨#[]⟩,.string ⟨#[]⟩,.bool false] 145)) g t i:=ri_below (ri_refl h) ((Below.refl _ w).alloc (Nat.le_refl _) _)
 have hbx0:=heap_alloc_new w (.cells #[.string ⟨#[]⟩,.string ⟨#[]⟩,.bool false] 145)
 have hb01:Wd.bt t p=0 ∨ Wd.bt t p=1:=by omega
 have C2:=hide (fun W (hW:CurI W g t p) => oneByte_yes t g p W ht h2 hW)
 clear h hA h1 h4 h3
 rcases hb01 with hb | hb
 all_goals
  rw [hb] at C2 h5
  have HG:=hide h5
  clear h5 hb
  go_enter Tryz.func217,Tryz.ntmps217
  go_wp2_with fail
  generalize w.alloc (.cells #[.string ⟨#[]⟩,.string ⟨#[]⟩,.bool false] 145)=wb at b0 hbx0
  refine (C1.out _ b0.1).mono ?_
  rintro e1 w1 ⟨rfl,r1⟩
  have R1:=hide (ri_trans b0 r1)
  have X1:=hide ((r1.2.block w.heap.size (heap_lt hbx0) (by simp;omega)).trans hbx0)
  clear r1 b0 hbx0
  go_wp2_with fail
  refine (C2.out _ R1.out.1).mono ?_
  rintro e1 w2 ⟨rfl,r2⟩
  have R2:=hide (ri_trans R1.out r2)
  have X2:=hide ((r2.2.block w.heap.size (heap_lt X1.out) (by simp;omega)).trans X1.out)
  clear r2 R1 X1
  go_wp2_with fail
  refine (must_yes _ _).mono ?_
  rintro e1 w3 ⟨rfl,rfl⟩
  go_wp2_with fail
  refine (C3.out _ R2.out.1).mono ?_
  rintro e1 w4 ⟨rfl,r4⟩
  have R4:=hide (ri_trans R2.out r4)
  have x4:=(r4.2.block w.heap.size (heap_lt X2.out) (by simp;omega)).trans X2.out
  clear r4 R2 X2
  have hd0:w4.cell? ⟨w.heap.size,0,none⟩=some (.string ⟨#[]⟩):=(cell_of_row w4 _ 0 _ _ (0,0) x4).trans rfl
  have hd1:w4.cell? ⟨w.heap.size,1,none⟩=some (.string ⟨#[]⟩):=(cell_of_row w4 _ 1 _ _ (0,0) x4).trans rfl
  have hd2:w4.cell? ⟨w.heap.size,2,none⟩=some (.bool false):=(cell_of_row w4 _ 2 _ _ (0,0) x4).trans rfl
  have hf0:=frozen_of_row w4 w.heap.size 0 _ _ x4
  have hf1:=frozen_of_row w4 w.heap.size 1 _ _ x4
  have hf2:=frozen_of_row w4 w.heap.size 2 _ _ x4
  clear x4
  go_wp2_with fail
  rw [HG.out]
  refine bodyPost_ret (v:=.agg #[.string s,.string v,.bool _]) (by simp [results,Tryz.results217,go_sem,hd0,hd1,hd2]) rfl ⟨rfl,ri_far (ri_far (ri_far R4.out hg (Nat.le_refl _) _ _) hg (Nat.le_refl _) _ _) hg (Nat.le_refl _) _ _⟩
theorem change_no (t:ByteArray) (g i:Nat) (w:World) (ht:t.size≤9000) (hi:i≤t.size) (h:CurI w g t i) (hA:chI t i=none) :
  Calls Tryz.prog 217 #[.pointer (some ⟨g,0,none⟩)] w fun r w' => r=.panicked noB∧w.grownBy w' (some g):=by
 have b0:RI w (w.alloc (.cells #[.string ⟨#[]⟩,.string ⟨#[]⟩,.bool false] 145)) g t i:=ri_below (ri_refl h) ((Below.refl _ w).alloc (Nat.le_refl _) _)
 clear h
 rcases chI_none hA with h1 | ⟨s,p,h1,h2⟩
 ·
  have C1:=hide (fun W (hW:CurI W g t i) => short_no t g i W ht hi hW h1)
  clear hA h1
  go_enter Tryz.func217,Tryz.ntmps217
  go_wp2_with fail
  refine (C1.out _ b0.1).mono ?_
  rintro e1 w1 ⟨rfl,r1⟩
  exact ⟨rfl,rfl,grownBy_trans b0.2 r1⟩
 ·
  have hp:=(shI_text h1).2.2.1
  have C1:=hide (fun W (hW:CurI W g t i) => short_yes t g i s p W ht hi hW h1)
  clear hA h1
  rcases h2 with h2 | ⟨h2,h3⟩ | ⟨h2,h3,h4⟩
  ·
   have C2:=hide (fun W (hW:CurI W g t p) => oneByte_no t g p W h2 hW)
   clear h2
   go_enter Tryz.func217,Tryz.ntmps217
   go_wp2_with fail
   refine (C1.out _ b0.1).mono ?_
   rintro e1 w1 ⟨rfl,r1⟩
   have R1:=hide (ri_trans b0 r1)
   clear r1 b0
   go_wp2_with fail
   refine (C2.out _ R1.out.1).mono ?_
   rintro e1 w2 ⟨rfl,r2⟩
   exact ⟨rfl,rfl,grownBy_trans R1.out.2 r2⟩
  ·
   have C2:=hide (fun W (hW:CurI W g t p) => oneByte_yes t g p W ht h2 hW)
   generalize Wd.bt t p=b at C2 h3
   have hb0:((b:Int) == 0)=false:=by simp;omega
   have hb1:((b:Int) == 1)=false:=by simp;omega
   clear h2 h3
   go_enter Tryz.func217,Tryz.ntmps217
   go_wp2_with fail
   refine (C1.out _ b0.1).mono ?_
   rintro e1 w1 ⟨rfl,r1⟩
   have R1:=hide (ri_trans b0 r1)
   clear r1 b0
   go_wp2_with fail
   refine (C2.out _ R1.out.1).mono ?_
   rintro e1 w2 ⟨rfl,r2⟩
   have R2:=hide (ri_trans R1.out r2)
   clear r2 R1
   go_wp2_with fail
   refine (must_no _ _).mono ?_
   rintro e1 w3 ⟨rfl,rfl⟩
   exact ⟨rfl,rfl,R2.out.2⟩
  ·
   have hb01:Wd.bt t p=0 ∨ Wd.bt t p=1:=by omega
   have C2:=hide (fun W (hW:CurI W g t p) => oneByte_yes t g p W ht h2 hW)
   have C3:=hide (fun W (hW:CurI W g t (p+1)) => short_no t g (p+1) W ht (by omega) hW h4)
   clear h3 h4
   rcases hb01 with hb | hb
   all_goals
    rw [hb] at C2
    clear hb
    go_enter Tryz.func217,Tryz.ntmps217
    go_wp2_with fail
    refine (C1.out _ b0.1).mono ?_
    rintro e1 w1 ⟨rfl,r1⟩
    have R1:=hide (ri_trans b0 r1)
    clear r1 b0
    go_wp2_with fail
    refine (C2.out _ R1.out.1).mono ?_
    rintro e1 w2 ⟨rfl,r2⟩
    have R2:=hide (ri_trans R1.out r2)
    clear r2 R1
    go_wp2_with fail
    refine (must_yes _ _).mono ?_
    rintro e1 w3 ⟨rfl,rfl⟩
    go_wp2_with fail
    refine (C3.out _ R2.out.1).mono ?_
    rintro e1 w4 ⟨rfl,r4⟩
    exact ⟨rfl,rfl,grownBy_trans R2.out.2 r4⟩
end Go.Proofs.YtepdckehokdjlaaGreatDoor
