import Derived.Test.YtbenmgokhklnjaaGreatDoorTb12
import Derived.Test.YtbenmgokhklnjaaGreatDoorTb35
namespace Go.Proofs.YtbenmgokhklnjaaGreatDoor
open Go.RowKit
def itsC (t:ByteArray):Nat→Nat→Bool→List ByteArray→List ByteArray × Bool
 | 0,_,bad,acc => (acc,bad)
 | _+1,_,true,acc => (acc,true)
 | f+1,i,false,acc => itsC t f (shortC t i false).2.1 (shortC t i false).2.2 (acc ++ [(shortC t i false).1])
theorem itsC_bad (t:ByteArray) (f i:Nat) (acc:List ByteArray):itsC t f i true acc=(acc,true):=by cases f <;> rfl
def rvRaw (t:ByteArray):ValD × Bool :=
 let b:=varC t 1 false
 let c:=shortC t b.2.1 b.2.2
 let d:=varC t c.2.1 c.2.2
 let r:=itsC t (min d.1 100) d.2.1 d.2.2 []
 (⟨(Wd.bt t 0:Nat),(b.1:Nat),c.1,r.1⟩,r.2)
def RvOk (t:ByteArray):Prop:=0 < t.size∧(rvRaw t).2=false∧ValR (rvRaw t).1∧valT (rvRaw t).1=t
def itI (t:ByteArray):Nat→Nat→List ByteArray→Option (List ByteArray × Nat)
 | 0,i,acc => some (acc,i)
 | n+1,i,acc =>
  match shI t i with
  | none => none
  | some (s,p) => itI t n p (acc ++ [s])
def itsI (t:ByteArray) (i:Nat):Option (List ByteArray × Nat) :=
 match Wd.rv t i with
 | none => none
 | some (n,p) => if n≤24 then itI t n p [] else none
def looI (t:ByteArray):Option ValD :=
 if 0 < t.size then
  (match Wd.rv t 1 with
  | none => none
  | some (u,p) =>
   match shI t p with
   | none => none
   | some (s,p2) =>
    match itsI t p2 with
    | none => none
    | some (ts,e) => if e=t.size then some ⟨(Wd.bt t 0:Nat),(u:Nat),s,ts⟩ else none)
 else none
theorem itI_text {t:ByteArray}:∀ (n i:Nat) (acc:List ByteArray) (cs:List ByteArray) (e:Nat),itI t n i acc=some (cs,e)→i≤t.size→∃ ns,cs=acc ++ ns∧ns.length=n∧t.data.toList.take e=t.data.toList.take i ++ textsL ns∧e≤t.size∧∀ s ∈ ns,s.size≤t.size
 | 0,i,acc,cs,e,h,hi => by
  simp only [itI,Option.some.injEq,Prod.mk.injEq] at h
  obtain ⟨rfl,rfl⟩:=h
  exact ⟨[],by simp,rfl,by simp [textsL],hi,fun s hs => absurd hs List.not_mem_nil⟩
 | n+1,i,acc,cs,e,h,hi => by
  unfold itI at h
  cases h1:shI t i with
  | none => rw [h1] at h;cases h
  | some x =>
   obtain ⟨A,p⟩:=x
   rw [h1] at h
   obtain ⟨a1,a2,a3,a4,a5⟩:=shI_text h1
   obtain ⟨ns,rfl,c2,c3,c4,c5⟩:=itI_text n p (acc ++ [A]) cs e h a3
   refine ⟨A :: ns,by simp,by simp [c2],by rw [c3,a1,textsL,List.append_assoc],c4,fun s hs => ?_⟩
   rcases List.mem_cons.1 hs with rfl | hs
   · exact a5
   · exact c5 s hs
theorem headV_list (v:ValD):(headV v).data.toList=[UInt8.ofNat v.kind.toNat] ++ Wd.varF 5 v.til.toNat ++ (shortB v.text).data.toList ++ Wd.varF 5 v.items.length:=by
 unfold headV
 rw [ByteArray.data_append,ByteArray.data_append,ByteArray.data_append,Array.toList_append,Array.toList_append,Array.toList_append]
theorem looI_text {t:ByteArray} {v:ValD} (h:looI t=some v):valT v=t∧0 < t.size∧v.text.size≤t.size∧v.items.length≤24∧∀ s ∈ v.items,s.size≤t.size:=by
 unfold looI at h
 by_cases hc:0 < t.size
 ·
  rw [if_pos hc] at h
  cases h1:Wd.rv t 1 with
  | none => rw [h1] at h;cases h
  | some x =>
   obtain ⟨u,p⟩:=x
   rw [h1] at h
   simp only at h
   cases h2:shI t p with
   | none => rw [h2] at h;cases h
   | some y =>
    obtain ⟨s,p2⟩:=y
    rw [h2] at h
    simp only at h
    obtain ⟨a1,a2,a3,a4,a5⟩:=shI_text h2
    cases h3:itsI t p2 with
    | none => rw [h3] at h;cases h
    | some z =>
     obtain ⟨ts,e⟩:=z
     rw [h3] at h
     simp only at h
     by_cases he:e=t.size
     ·
      rw [if_pos he] at h
      obtain rfl:=Option.some.inj h
      unfold itsI at h3
      cases h4:Wd.rv t p2 with
      | none => rw [h4] at h3;cases h3
      | some q =>
       obtain ⟨n,p3⟩:=q
       rw [h4] at h3
       simp only at h3
       by_cases hn:n≤24
       ·
        rw [if_pos hn] at h3
        have hb:=Wd.rv_bounds t p2 n p3 h4
        obtain ⟨ns,c1,c2,c3,c4,c5⟩:=itI_text n p3 [] ts e h3 hb.2.2
        rw [List.nil_append] at c1
        subst c1
        refine ⟨?_,hc,a5,by show ts.length≤24;omega,c5⟩
        have h0:=take_one t 0 hc
        rw [he,List.take_of_length_le (show t.data.toList.length≤t.size from Nat.le_refl _),rv_text h4,a1,rv_text h1,show (1:Nat)=0+1 from rfl,h0,List.take_zero] at c3
        apply ByteArray.ext
        unfold valT
        rw [headV_list]
        apply Array.toList_inj.1
        show _=t.data.toList
        rw [c3]
        simp only [Int.toNat_natCast,c2,List.nil_append,List.append_assoc]
       · rw [if_neg hn] at h3;cases h3
     · rw [if_neg he] at h;cases h
 · rw [if_neg hc] at h;cases h
theorem itI_at {t:ByteArray}:∀ (fs:List ByteArray) (a b:List UInt8) (acc:List ByteArray),(∀ s ∈ fs,s.size≤20000)→t=⟨(a ++ textsL fs ++ b).toArray⟩→itI t fs.length a.length acc=some (acc ++ fs,a.length+(textsL fs).length)
 | [],a,b,acc,_,_ => by simp [itI,textsL]
 | A :: r,a,b,acc,hs,ht => by
  have hA:=hs A (List.mem_cons_self ..)
  have h1:=shI_at (t:=t) a (textsL r ++ b) A hA (by rw [ht];simp only [textsL,List.append_assoc])
  have h2:=itI_at (t:=t) r (a ++ (shortB A).data.toList) b (acc ++ [A]) (fun B hB => hs B (List.mem_cons_of_mem _ hB)) (by rw [ht];simp only [textsL,List.append_assoc])
  have e1:(shortB A).data.toList.length=(shortB A).size:=rfl
  rw [List.length_append,e1] at h2
  rw [List.length_cons]
  simp only [itI,h1]
  rw [h2]
  simp [textsL,e1,Nat.add_assoc]
theorem itsC_at {t:ByteArray}:∀ (fs:List ByteArray) (a b:List UInt8) (acc:List ByteArray),(∀ s ∈ fs,s.size≤20000)→t=⟨(a ++ textsL fs ++ b).toArray⟩→itsC t fs.length a.length false acc=(acc ++ fs,false)
 | [],a,b,acc,_,_ => by simp [itsC]
 | A :: r,a,b,acc,hs,ht => by
  have hA:=hs A (List.mem_cons_self ..)
  have h1:=shortC_at (t:=t) a (textsL r ++ b) A (by omega) (by rw [ht];simp only [textsL,List.append_assoc])
  have h2:=itsC_at (t:=t) r (a ++ (shortB A).data.toList) b (acc ++ [A]) (fun B hB => hs B (List.mem_cons_of_mem _ hB)) (by rw [ht];simp only [textsL,List.append_assoc])
  have e1:(shortB A).data.toList.length=(shortB A).size:=rfl
  rw [List.length_append,e1] at h2
  rw [List.length_cons]
  simp only [itsC,h1]
  rw [h2]
  simp
theorem valT_read {v:ValD} (h:ValR v):looI (valT v)=some v∧rvRaw (valT v)=(v,false)∧0 < (valT v).size:=by
 obtain ⟨g0,g1,g2,g3,g4,g5,g6⟩:=valR_bounds h
 obtain ⟨kd,u,tx,ts⟩:=v
 simp only at g0 g1 g2 g3 g4 g5 g6
 obtain ⟨m,rfl⟩:=Int.eq_ofNat_of_zero_le g2
 obtain ⟨q,rfl⟩:=Int.eq_ofNat_of_zero_le (show 0≤kd by omega)
 obtain ⟨t,ht0⟩:∃ t,t=valT ⟨(q:Int),(m:Int),tx,ts⟩:=⟨_,rfl⟩
 rw [← ht0]
 have ht:=ht0
 unfold valT at ht
 rw [headV_list] at ht
 simp only [Int.toNat_natCast] at ht
 have k1:Wd.bt t 0=q:=by
  rw [ht]
  rw [bt_here _ 0 (UInt8.ofNat q) rfl]
  simp only [UInt8.toNat_ofNat']
  omega
 have hpos:0 < t.size:=by rw [ht];show 0 < ([UInt8.ofNat q] ++ Wd.varF 5 m ++ (shortB tx).data.toList ++ Wd.varF 5 ts.length ++ textsL ts).length;simp
 have hend:t.size=([UInt8.ofNat q] ++ Wd.varF 5 m ++ (shortB tx).data.toList ++ Wd.varF 5 ts.length).length+(textsL ts).length:=by
  rw [ht,← List.length_append];rfl
 have a2:=rv_at (t:=t) [UInt8.ofNat q] ((shortB tx).data.toList ++ Wd.varF 5 ts.length ++ textsL ts) m (by omega) (by rw [ht];simp only [List.append_assoc])
 have a3:=shI_at (t:=t) ([UInt8.ofNat q] ++ Wd.varF 5 m) (Wd.varF 5 ts.length ++ textsL ts) tx (by omega) (by rw [ht];simp only [List.append_assoc])
 have a4:=rv_at (t:=t) ([UInt8.ofNat q] ++ Wd.varF 5 m ++ (shortB tx).data.toList) (textsL ts) ts.length (by omega) (by rw [ht])
 have a5:=itI_at (t:=t) ts ([UInt8.ofNat q] ++ Wd.varF 5 m ++ (shortB tx).data.toList ++ Wd.varF 5 ts.length) [] [] (fun s hs => by have:=g6 s hs;omega) (by rw [ht,List.append_nil])
 have b2:=varC_at (t:=t) [UInt8.ofNat q] ((shortB tx).data.toList ++ Wd.varF 5 ts.length ++ textsL ts) m (by omega) (by rw [ht];simp only [List.append_assoc])
 have b3:=shortC_at (t:=t) ([UInt8.ofNat q] ++ Wd.varF 5 m) (Wd.varF 5 ts.length ++ textsL ts) tx (by omega) (by rw [ht];simp only [List.append_assoc])
 have b4:=varC_at (t:=t) ([UInt8.ofNat q] ++ Wd.varF 5 m ++ (shortB tx).data.toList) (textsL ts) ts.length (by omega) (by rw [ht])
 have b5:=itsC_at (t:=t) ts ([UInt8.ofNat q] ++ Wd.varF 5 m ++ (shortB tx).data.toList ++ Wd.varF 5 ts.length) [] [] (fun s hs => by have:=g6 s hs;omega) (by rw [ht,List.append_nil])
 rw [← hend] at a5
 have e1:(shortB tx).data.toList.length=(shortB tx).size:=rfl
 simp only [List.length_append,List.length_cons,List.length_nil,Nat.zero_add,List.nil_append,e1] at a2 a3 a4 a5 b2 b3 b4 b5
 refine ⟨?_,?_,hpos⟩
 ·
  unfold looI itsI
  rw [if_pos hpos,a2]
  simp only
  rw [a3]
  simp only
  rw [a4]
  simp only
  rw [if_pos g5,a5]
  simp only [k1,if_true]
 ·
  unfold rvRaw
  simp only [b2,b3,b4]
  rw [Nat.min_eq_left (by omega),b5,k1]
theorem rvOk_iff (t:ByteArray):RvOk t ↔ ∃ v,looI t=some v∧ValR v:=by
 constructor
 ·
  rintro ⟨-,-,h3,h4⟩
  have:=valT_read h3
  rw [h4] at this
  exact ⟨_,this.1,h3⟩
 ·
  rintro ⟨v,h1,h2⟩
  obtain ⟨h3,h4,-⟩:=looI_text h1
  have:=(valT_read h2).2.1
  rw [h3] at this
  unfold RvOk
  rw [this]
  exact ⟨h4,rfl,h2,h3⟩
theorem rvOk_val {t:ByteArray} {v:ValD} (h1:looI t=some v) (h2:ValR v):RvOk t∧(rvRaw t).1=v:=by
 refine ⟨(rvOk_iff t).2 ⟨v,h1,h2⟩,?_⟩
 obtain ⟨h3,-,-⟩:=looI_text h1
 have:=(valT_read h2).2.1
 rw [h3] at this
 rw [this]
theorem rvOk_not {t:ByteArray} {v:ValD} (h1:looI t=some v) (h2:¬ ValR v):¬ RvOk t:=by
 intro h
 obtain ⟨x,hx,hr⟩:=(rvOk_iff t).1 h
 rw [h1] at hx
 obtain rfl:=Option.some.inj hx
 exact h2 hr
theorem rvOk_none {t:ByteArray} (h1:looI t=none):¬ RvOk t:=by
 intro h
 obtain ⟨x,hx,hr⟩:=(rvOk_iff t).1 h
 rw [h1] at hx
 cases hx
end Go.Proofs.YtbenmgokhklnjaaGreatDoor
