import Derived.Maps.OwnSet
import Derived.Lib.Strings
import Derived.Sort.Walk0
import Derived.Test.YtepdckehokdjlaaGreatDoorMg8
import Derived.Test.YtepdckehokdjlaaGreatDoorMg6
import Derived.Test.YtepdckehokdjlaaGreatDoorMg9
import Derived.Test.YtepdckehokdjlaaGreatDoorMg5
import Derived.Test.YtepdckehokdjlaaGreatDoorMg0
set_option maxRecDepth 100000
set_option maxHeartbeats 800000
namespace Go.Proofs.YtepdckehokdjlaaGreatDoor
open Go.RowKit
def chsIn (seg pos q:Int) (dir:List SpotD):List ChangeD→List SpotD
 | [] => dir
 | A :: r => chsIn seg pos q (setD dir ⟨A.key,seg,pos,q⟩ A.gone) r
def batsIn (seg:Int) (dir:List SpotD) (pos:Nat):List BatchD→List SpotD
 | [] => dir
 | b :: r => batsIn seg (chsIn seg (pos:Int) b.seq dir b.chs) (pos+sizeD b.seq b.chs) r
theorem chsIn_len (seg pos q:Int):∀ (l:List ChangeD) (dir:List SpotD),(chsIn seg pos q dir l).length≤dir.length+l.length
 | [],dir => Nat.le_refl _
 | A :: r,dir => by
  have h1:=chsIn_len seg pos q r (setD dir ⟨A.key,seg,pos,q⟩ A.gone)
  have h2:=setD_le dir ⟨A.key,seg,pos,q⟩ A.gone
  simp only [chsIn,List.length_cons]
  omega
def chsN:List BatchD→Nat
 | [] => 0
 | b :: r => b.chs.length+chsN r
theorem batsIn_len (seg:Int):∀ (l:List BatchD) (dir:List SpotD) (pos:Nat),(batsIn seg dir pos l).length≤dir.length+chsN l
 | [],dir,_ => Nat.le_refl _
 | b :: r,dir,pos => by
  have h1:=batsIn_len seg r (chsIn seg (pos:Int) b.seq dir b.chs) (pos+sizeD b.seq b.chs)
  have h2:=chsIn_len seg (pos:Int) b.seq b.chs dir
  simp only [batsIn,chsN]
  omega
theorem varF_pos (n:Nat):1≤(Wd.varF 5 n).length:=by
 unfold Wd.varF
 split <;> simp
theorem changeB_three (A:ChangeD):3≤(changeB A).size:=by
 have h1:=shortB_len A.key
 have h2:=shortB_len A.value
 have h3:=varF_pos A.key.size
 have h4:=varF_pos A.value.size
 have h5:(flagB A.gone).size=1:=by cases A.gone <;> rfl
 unfold changeB
 rw [ByteArray.size_append,ByteArray.size_append]
 omega
theorem changesL_three:∀ l:List ChangeD,3 * l.length≤(changesL l).length
 | [] => Nat.le_refl _
 | A :: r => by
  have h1:=changesL_three r
  have h2:=changeB_three A
  have h3:(changeB A).data.toList.length=(changeB A).size:=rfl
  simp only [changesL,List.length_append,List.length_cons]
  omega
theorem rd_three (t:ByteArray):3 * (rdChanges t).length≤t.size:=by
 cases h:rdOk t with
 | false => simp [rdChanges,h]
 | true =>
  obtain ⟨h1,h2⟩:=rd_text h
  have h3:=changesL_three (rdChanges t)
  have h4:(textD (rdSeq t) (rdChanges t)).size=(batchL (rdSeq t).toNat (rdChanges t)).length:=by unfold textD;rw [if_pos h1];rfl
  rw [h2] at h4
  unfold batchL at h4
  rw [List.length_append] at h4
  omega
theorem ris_three (s:ByteArray):∀ (l:List (Nat × Nat)) (i:Nat) (last:Int) (e:Nat),i≤s.size→chained s i l→3 * chsN (ris s l last e).1+i≤s.size
 | [],i,_,_,hi,_ => by simp [ris,chsN];exact hi
 | x :: r,i,last,e,hi,hc => by
  obtain ⟨hf,hr⟩:=hc
  have hb:=frB_bounds s i x hf
  have ht:=rd_three (s.extract x.1 x.2)
  rw [ByteArray.size_extract] at ht
  by_cases h:rdOk (s.extract x.1 x.2)=true∧last < rdSeq (s.extract x.1 x.2)
  ·
   rw [ris_more h.1 h.2]
   have ih:=ris_three s r x.2 (rdSeq (s.extract x.1 x.2)) x.2 hb.2.2 hr
   simp only [chsN]
   omega
  ·
   rw [ris_no h]
   simp [chsN]
   exact hi
theorem segBatches_three (n:Int) (s:ByteArray):3 * chsN (segBatches n s)≤20000:=by
 by_cases hs:s.size≤20000
 ·
  unfold segBatches segRead
  have hc:=unf_chained s
  cases hu:unf s with
  | nil => exact Nat.zero_le _
  | cons x r =>
   rw [hu] at hc
   simp only []
   cases hh:hdFrom n (s.extract x.1 x.2) with
   | none => exact Nat.zero_le _
   | some f =>
    have:=ris_three s r x.2 (-1) x.2 (frB_bounds s 0 x hc.1).2.2 hc.2
    show 3 * chsN (ris s r (-1) x.2).1≤20000
    omega
 ·
  unfold segBatches segRead
  have hu:unf s=[]:=by unfold unf;rw [if_neg hs]
  rw [hu]
  exact Nat.zero_le _
theorem chsIn_snoc (seg pos q:Int):∀ (l:List ChangeD) (dir:List SpotD) (A:ChangeD),chsIn seg pos q dir (l ++ [A])=setD (chsIn seg pos q dir l) ⟨A.key,seg,pos,q⟩ A.gone
 | [],_,_ => rfl
 | B :: r,dir,A => chsIn_snoc seg pos q r (setD dir ⟨B.key,seg,pos,q⟩ B.gone) A
def totD:List BatchD→Nat
 | [] => 0
 | b :: r => sizeD b.seq b.chs+totD r
theorem batsIn_snoc (seg:Int):∀ (l:List BatchD) (b:BatchD) (dir:List SpotD) (e:Nat),batsIn seg dir e (l ++ [b])=chsIn seg ((e+totD l:Nat):Int) b.seq (batsIn seg dir e l) b.chs
 | [],_,_,_ => rfl
 | c :: r,b,dir,e => by
  have h:=batsIn_snoc seg r b (chsIn seg (e:Int) c.seq dir c.chs) (e+sizeD c.seq c.chs)
  simp only [List.cons_append,batsIn,totD]
  rw [h,Nat.add_assoc]
theorem totD_snoc:∀ (l:List BatchD) (b:BatchD),totD (l ++ [b])=totD l+sizeD b.seq b.chs
 | [],b => by simp [totD]
 | c :: r,b => by simp only [List.cons_append,totD];rw [totD_snoc r b];omega
theorem plsB_get:∀ (l:List BatchD) (e j:Nat) (h:j < (plsB e l).length),(plsB e l)[j]=e+totD (l.take j)
 | [],_,_,h => absurd h (by simp [plsB])
 | b :: r,e,0,_ => by simp [plsB,totD]
 | b :: r,e,j+1,h => by
  have h':j < (plsB (e+sizeD b.seq b.chs) r).length:=by simpa [plsB] using h
  have:=plsB_get r (e+sizeD b.seq b.chs) j h'
  simp only [plsB,List.getElem_cons_succ,List.take_succ_cons,totD]
  rw [this]
  omega
theorem chsN_snoc:∀ (l:List BatchD) (b:BatchD),chsN (l ++ [b])=chsN l+b.chs.length
 | [],b => by simp [chsN]
 | c :: r,b => by simp only [List.cons_append,chsN];rw [chsN_snoc r b];omega
theorem chsN_take_le (l:List BatchD) (j:Nat):chsN (l.take j)≤chsN l:=by
 have h:=List.take_append_drop j l
 have:∀ (a b:List BatchD),chsN (a ++ b)=chsN a+chsN b:=by
  intro a
  induction a with
  | nil => intro b;simp [chsN]
  | cons c r ih => intro b;simp only [List.cons_append,chsN];rw [ih];omega
 have h2:=this (l.take j) (l.drop j)
 rw [h] at h2
 omega
def SegD.hd (s:SegD):Nat:=(frameB ⟨(headL s.num s.frm).toArray⟩).size
def dirSegs:List SpotD→List SegD→List SpotD
 | dir,[] => dir
 | dir,s :: r => dirSegs (batsIn (s.num:Int) dir s.hd s.bs) r
theorem dirSegs_snoc:∀ (l:List SegD) (dir:List SpotD) (s:SegD),dirSegs dir (l ++ [s])=batsIn (s.num:Int) (dirSegs dir l) s.hd s.bs
 | [],_,_ => rfl
 | _ :: r,_,s => dirSegs_snoc r _ s
def segsN:List SegD→Nat
 | [] => 0
 | s :: r => chsN s.bs+segsN r
theorem segsN_snoc:∀ (l:List SegD) (s:SegD),segsN (l ++ [s])=segsN l+chsN s.bs
 | [],s => by simp [segsN]
 | c :: r,s => by simp only [List.cons_append,segsN];rw [segsN_snoc r s];omega
theorem segsN_le:∀ (l:List SegD),(∀ s ∈ l,3 * chsN s.bs≤20000)→3 * segsN l≤20000 * l.length
 | [],_ => by simp [segsN]
 | c :: r,h => by
  have h1:=segsN_le r (fun s hs => h s (List.mem_cons_of_mem _ hs))
  have h2:=h c (List.mem_cons_self ..)
  simp only [segsN,List.length_cons]
  omega
theorem dirSegs_len:∀ (l:List SegD) (dir:List SpotD),(dirSegs dir l).length≤dir.length+segsN l
 | [],dir => Nat.le_refl _
 | s :: r,dir => by
  have h1:=dirSegs_len r (batsIn (s.num:Int) dir s.hd s.bs)
  have h2:=batsIn_len (s.num:Int) s.bs dir s.hd
  simp only [dirSegs,segsN]
  omega
def dirD (fs:List FileD):List SpotD:=dirSegs [] (segsL fs)
theorem segsL_three {fs:List FileD} {s:SegD} (h:s ∈ segsL fs):3 * chsN s.bs≤20000:=by
 obtain ⟨-,-,F,-,hF,-⟩:=segsTo_mem (segsL_mem h)
 rw [hF]
 exact segBatches_three _ _
theorem segsL_N (fs:List FileD):segsN (segsL fs)≤666700:=by
 have h1:=segsN_le (segsL fs) (fun s hs => segsL_three hs)
 have h2:=segsL_len fs
 omega
theorem dirD_len (fs:List FileD):(dirD fs).length≤666700:=by
 have h1:=dirSegs_len (segsL fs) []
 have h2:=segsL_N fs
 unfold dirD
 simp at h1
 omega
theorem segsN_take_le:∀ (l:List SegD) (j:Nat),segsN (l.take j)≤segsN l
 | [],j => by simp [segsN]
 | _ :: _,0 => by simp [segsN]
 | c :: r,j+1 => by
  have:=segsN_take_le r j
  simp only [List.take_succ_cons,segsN]
  omega
theorem ris_ok (s:ByteArray):∀ (l:List (Nat × Nat)) (last:Int) (e:Nat),∀ b ∈ (ris s l last e).1,textOkD b.seq b.chs=true
 | [],_,_,_,h => absurd h (by simp [ris])
 | x :: r,last,e,b,h => by
  by_cases hc:rdOk (s.extract x.1 x.2)=true∧last < rdSeq (s.extract x.1 x.2)
  ·
   rw [ris_more hc.1 hc.2] at h
   rcases List.mem_cons.1 h with rfl | h
   · exact (rd_text hc.1).1
   · exact ris_ok s r _ _ b h
  ·
   rw [ris_no hc] at h
   exact absurd h List.not_mem_nil
theorem segBatches_ok {n:Int} {s:ByteArray} {b:BatchD} (h:b ∈ segBatches n s):textOkD b.seq b.chs=true:=by
 cases hr:segRead n s with
 | none => rw [(seg_none hr).2.1] at h;exact absurd h List.not_mem_nil
 | some q =>
  obtain ⟨f,bs,e⟩:=q
  rw [(seg_some hr).2.1] at h
  cases hu:unf s with
  | nil => rw [segRead_nil hu] at hr;simp at hr
  | cons x r =>
   cases hh:hdFrom n (s.extract x.1 x.2) with
   | none => rw [segRead_head hu hh] at hr;simp at hr
   | some f' =>
    rw [segRead_some hu hh] at hr
    simp only [Option.some.injEq,Prod.mk.injEq] at hr
    refine ris_ok s r (-1) x.2 b ?_
    rw [hr.2]
    exact h
theorem textOk_small {q:Int} {cs:List ChangeD} (h:textOkD q cs=true):cs.length≤40∧(0≤q∧q≤1000000000)∧∀ A ∈ cs,A.key.size≤20∧A.value.size≤2000:=by
 unfold textOkD at h
 simp only [Bool.and_eq_true] at h
 have h1:=batchOkD_bounds h.1
 refine ⟨h1.2.2.2,⟨h1.1,h1.2.1⟩,?_⟩
 have h2:=h.1
 unfold batchOkD at h2
 simp only [Bool.and_eq_true] at h2
 exact okChg_small cs none h2.2.2
theorem segsL_ok {fs:List FileD} {s:SegD} (h:s ∈ segsL fs):∀ b ∈ s.bs,textOkD b.seq b.chs=true:=by
 obtain ⟨-,-,F,-,hF,-⟩:=segsTo_mem (segsL_mem h)
 intro b hb
 rw [hF] at hb
 exact segBatches_ok hb
def keysUp (m:Nat) (dir:List SpotD):Prop:=∀ A ∈ dir,A.key.size≤m
theorem keysUp_set {m:Nat} {dir:List SpotD} {F:SpotD} {gone:Bool} (h:keysUp m dir) (hF:F.key.size≤m):keysUp m (setD dir F gone):=by
 intro A hA
 unfold setD at hA
 rcases List.mem_append.1 hA with hA | hA
 ·
  rcases List.mem_append.1 hA with hA | hA
  · exact h A (List.mem_filter.1 hA).1
  ·
   cases gone
   ·
    obtain rfl:A=F:=by simpa using hA
    exact hF
   · simp at hA
 · exact h A (List.mem_filter.1 hA).1
theorem keysUp_chs {m:Nat} (seg pos q:Int):∀ (l:List ChangeD) (dir:List SpotD),keysUp m dir→(∀ A ∈ l,A.key.size≤m)→keysUp m (chsIn seg pos q dir l)
 | [],_,h,_ => h
 | A :: r,_,h,hl => keysUp_chs seg pos q r _ (keysUp_set h (hl A (List.mem_cons_self ..))) (fun B hB => hl B (List.mem_cons_of_mem _ hB))
theorem keysUp_bats {m:Nat} (seg:Int):∀ (l:List BatchD) (dir:List SpotD) (e:Nat),keysUp m dir→(∀ b ∈ l,∀ A ∈ b.chs,A.key.size≤m)→keysUp m (batsIn seg dir e l)
 | [],_,_,h,_ => h
 | b :: r,_,_,h,hl => keysUp_bats seg r _ _ (keysUp_chs seg _ _ b.chs _ h (hl b (List.mem_cons_self ..))) (fun c hc => hl c (List.mem_cons_of_mem _ hc))
theorem keysUp_segs {m:Nat}:∀ (l:List SegD) (dir:List SpotD),keysUp m dir→(∀ s ∈ l,∀ b ∈ s.bs,∀ A ∈ b.chs,A.key.size≤m)→keysUp m (dirSegs dir l)
 | [],_,h,_ => h
 | s :: r,_,h,hl => keysUp_segs r _ (keysUp_bats _ s.bs _ _ h (hl s (List.mem_cons_self ..))) (fun c hc => hl c (List.mem_cons_of_mem _ hc))
theorem dirD_keys (fs:List FileD):keysUp 20 (dirD fs) :=
 keysUp_segs (segsL fs) [] (fun _ hA => absurd hA List.not_mem_nil) (fun _ hs b hb A hA => ((textOk_small (segsL_ok hs b hb)).2.2 A hA).1)
theorem okFrom_mem:∀ (fs:List FileD) (p:Option ByteArray),okFrom p fs=true→∀ F ∈ fs,fileOkD F=true
 | [],_,_,_,h => absurd h List.not_mem_nil
 | G :: r,none,h,F,hF => by
  simp only [okFrom,Bool.and_eq_true] at h
  rcases List.mem_cons.1 hF with rfl | hF
  · exact h.1
  · exact okFrom_mem r _ h.2 F hF
 | G :: r,some p,h,F,hF => by
  simp only [okFrom,Bool.and_eq_true] at h
  rcases List.mem_cons.1 hF with rfl | hF
  · exact h.1
  · exact okFrom_mem r _ h.2.2 F hF
theorem ok_file {F:FileD} (h:fileOkD F=true):1≤F.name.size∧F.name.size≤8∧F.text.size≤20000∧0≤F.kept∧F.kept≤F.text.size:=by
 simp only [fileOkD,nameOkD,Bool.and_eq_true,decide_eq_true_eq] at h
 omega
theorem disk_files {fs:List FileD} (h:diskOkD fs=true):fs.length≤30∧∀ F ∈ fs,1≤F.name.size∧F.name.size≤8∧F.text.size≤20000∧0≤F.kept∧F.kept≤F.text.size:=by
 simp only [diskOkD,Bool.and_eq_true,decide_eq_true_eq] at h
 exact ⟨h.1,fun F hF => ok_file (okFrom_mem fs none h.2 F hF)⟩
end Go.Proofs.YtepdckehokdjlaaGreatDoor
namespace Go.Proofs.YtepdckehokdjlaaGreatDoor
open Go.RowKit Go.Maps
def kl (s:ByteArray):Lit:=.string s.data.toList
theorem kl_inj {a b:ByteArray} (h:kl a=kl b):a=b:=by
 unfold kl at h
 cases a;cases b
 simp at h
 simp [h]
theorem kl_ne {a b:ByteArray} (h:a ≠ b):kl a ≠ kl b:=fun e => h (kl_inj e)
theorem kl_key (s:ByteArray):WideAt.IsKeyLit (kl s):=by
 unfold kl
 exact trivial
theorem toList_ne {a b:ByteArray}:(a.toList == b.toList)=false ↔ a ≠ b:=by
 rw [beq_eq_false_iff_ne]
 constructor
 · intro h e;exact h (by rw [e])
 · intro h e;exact h (by rw [Lib.toList_data,Lib.toList_data] at e;cases a;cases b;simp at e;simp [e])
theorem less_trans {a b c:List UInt8} (h1:Op.bytesLess a b=true) (h2:Op.bytesLess b c=true):Op.bytesLess a c=true:=by
 rw [Go.Proofs.bytesLess_eq,decide_eq_true_eq] at *
 exact List.lt_trans h1 h2
theorem less_irrefl (a:List UInt8):Op.bytesLess a a=false:=by
 rw [Go.Proofs.bytesLess_eq,decide_eq_false_iff_not]
 exact List.lt_irrefl a
theorem less_total {a b:List UInt8} (h1:Op.bytesLess a b=false) (h2:a ≠ b):Op.bytesLess b a=true:=by
 rw [Go.Proofs.bytesLess_eq] at *
 rw [decide_eq_true_eq]
 rw [decide_eq_false_iff_not] at h1
 exact Decidable.byContradiction fun h => h2 (List.le_antisymm (List.not_lt.1 h) (List.not_lt.1 h1))
end Go.Proofs.YtepdckehokdjlaaGreatDoor
namespace Go.Proofs.YtepdckehokdjlaaGreatDoor
open Go.RowKit
def lessF (nm:ByteArray) (F:FileD):Bool:=Op.bytesLess F.name.toList nm.toList
def moreF (nm:ByteArray) (F:FileD):Bool:=!(Op.bytesLess F.name.toList nm.toList || F.name.toList == nm.toList)
def otherF (nm:ByteArray) (F:FileD):Bool:=!(F.name.toList == nm.toList)
def putD (fs:List FileD) (F:FileD):List FileD:=fs.filter (lessF F.name) ++ [F] ++ fs.filter (moreF F.name)
def withoutD (fs:List FileD) (nm:ByteArray):List FileD:=fs.filter (otherF nm)
theorem filter_next {fs:List FileD} {k:Nat} (p:FileD→Bool) (h:k < fs.length):(fs.take (k+1)).filter p=(fs.take k).filter p ++ (if p fs[k]=true then [fs[k]] else []):=by
 rw [List.take_add_one,List.getElem?_eq_getElem h,List.filter_append]
 congr 1
 simp only [Option.toList,List.filter_cons,List.filter_nil]
theorem filter_le {fs:List FileD} (p:FileD→Bool) (k:Nat):((fs.take k).filter p).length≤fs.length :=
 Nat.le_trans (List.length_filter_le _ _) (by rw [List.length_take];omega)
def srt (fs:List FileD):Prop:=fs.Pairwise (fun a b => Op.bytesLess a.name.toList b.name.toList=true)
theorem okFrom_some:∀ (fs:List FileD) (p:ByteArray),okFrom (some p) fs=true ↔ ((∀ F ∈ fs,fileOkD F=true)∧(∀ F ∈ fs,Op.bytesLess p.toList F.name.toList=true)∧srt fs)
 | [],p => by simp [okFrom,srt]
 | F :: r,p => by
  simp only [okFrom,Bool.and_eq_true,okFrom_some r F.name,srt,List.pairwise_cons,List.mem_cons,forall_eq_or_imp]
  constructor
  ·
   rintro ⟨h1,h2,h3,h4,h5⟩
   exact ⟨⟨h1,h3⟩,⟨h2,fun G hG => less_trans h2 (h4 G hG)⟩,h4,h5⟩
  ·
   rintro ⟨⟨h1,h3⟩,⟨h2,_⟩,h4,h5⟩
   exact ⟨h1,h2,h3,h4,h5⟩
theorem okFrom_none (fs:List FileD):okFrom none fs=true ↔ ((∀ F ∈ fs,fileOkD F=true)∧srt fs):=by
 cases fs with
 | nil => simp [okFrom,srt]
 | cons F r =>
  simp only [okFrom,Bool.and_eq_true,okFrom_some r F.name,srt,List.pairwise_cons,List.mem_cons,forall_eq_or_imp]
  constructor
  ·
   rintro ⟨h1,h3,h4,h5⟩
   exact ⟨⟨h1,h3⟩,h4,h5⟩
  ·
   rintro ⟨⟨h1,h3⟩,h4,h5⟩
   exact ⟨h1,h3,h4,h5⟩
theorem disk_iff (fs:List FileD):diskOkD fs=true ↔ (fs.length≤30∧(∀ F ∈ fs,fileOkD F=true)∧srt fs):=by
 rw [diskOkD,Bool.and_eq_true,decide_eq_true_eq,okFrom_none]
theorem mem_putD {fs:List FileD} {F G:FileD}:G ∈ putD fs F ↔ (G ∈ fs∧lessF F.name G=true) ∨ G=F ∨ (G ∈ fs∧moreF F.name G=true):=by
 simp [putD]
theorem srt_putD {fs:List FileD} (F:FileD) (h:srt fs):srt (putD fs F):=by
 unfold putD srt
 rw [List.pairwise_append,List.pairwise_append]
 refine ⟨⟨List.Pairwise.filter _ h,by simp,?_⟩,List.Pairwise.filter _ h,?_⟩
 ·
  intro a ha b hb
  rw [List.mem_singleton] at hb
  subst hb
  exact (List.mem_filter.1 ha).2
 ·
  intro a ha b hb
  have hb2:=(List.mem_filter.1 hb).2
  simp only [moreF,Bool.not_eq_true',Bool.or_eq_false_iff,beq_eq_false_iff_ne] at hb2
  have hFb:Op.bytesLess F.name.toList b.name.toList=true:=less_total hb2.1 hb2.2
  rcases List.mem_append.1 ha with ha | ha
  · exact less_trans (List.mem_filter.1 ha).2 hFb
  ·
   rw [List.mem_singleton] at ha
   subst ha
   exact hFb
theorem srt_without {fs:List FileD} (nm:ByteArray) (h:srt fs):srt (withoutD fs nm):=List.Pairwise.filter _ h
theorem len_putD_le (fs:List FileD) (F:FileD):(putD fs F).length≤fs.length+1:=by
 have key:∀ l:List FileD,(l.filter (lessF F.name)).length+(l.filter (moreF F.name)).length≤l.length:=by
  intro l
  induction l with
  | nil => simp
  | cons G r ih =>
   simp only [List.filter_cons]
   by_cases h1:lessF F.name G=true
   ·
    have h2:moreF F.name G=false:=by simp only [lessF] at h1;simp [moreF,h1]
    simp [h1,h2];omega
   ·
    by_cases h2:moreF F.name G=true
    · simp [h1,h2];omega
    · simp [h1,h2];omega
 have:=key fs
 simp only [putD,List.length_append,List.length_singleton]
 omega
structure ActD where
 kind:Int
 name:ByteArray
 text:ByteArray
 toN:ByteArray
def actF (fs:List FileD) (A:ActD):FileD:=(fileD fs A.name).getD ⟨A.name,⟨#[]⟩,0⟩
def rawD (fs:List FileD) (A:ActD):Option (List FileD) :=
 if A.kind=1 then some (putD fs ⟨(actF fs A).name,(actF fs A).text ++ A.text,(actF fs A).kept⟩)
 else if (fileD fs A.name).isSome=false then none
 else if A.kind=2 then some (putD fs ⟨(actF fs A).name,(actF fs A).text,(actF fs A).text.size⟩)
 else if A.kind=3 then (if (decide ((actF fs A).kept < ((actF fs A).text.size:Int)) || (A.toN.toList == A.name.toList) || !nameOkD A.toN)=true then none else some (putD (withoutD fs A.name) ⟨A.toN,(actF fs A).text,(actF fs A).kept⟩))
 else if A.kind=4 then some (withoutD fs A.name)
 else none
def actOk (fs:List FileD) (A:ActD):Bool:=diskOkD fs && (nameOkD A.name && (!(!(A.kind == 3) && !A.toN.toList.isEmpty) && !(!(A.kind == 1) && !A.text.toList.isEmpty)))
def actD (fs:List FileD) (A:ActD):Option (List FileD):=if actOk fs A=true then (rawD fs A).bind (fun g => if diskOkD g=true then some g else none) else none
theorem actD_no {fs:List FileD} {A:ActD} (h:actOk fs A=false):actD fs A=none:=by rw [actD,if_neg (by rw [h];decide)]
theorem actD_raw {fs:List FileD} {A:ActD} (h:actOk fs A=true) (hr:rawD fs A=none):actD fs A=none:=by rw [actD,if_pos h,hr];rfl
theorem actD_bad {fs g:List FileD} {A:ActD} (h:actOk fs A=true) (hr:rawD fs A=some g) (hg:diskOkD g=false):actD fs A=none:=by
 rw [actD,if_pos h,hr]
 show (if diskOkD g=true then some g else none)=none
 rw [if_neg (by rw [hg];decide)]
theorem actD_yes {fs g:List FileD} {A:ActD} (h:actOk fs A=true) (hr:rawD fs A=some g) (hg:diskOkD g=true):actD fs A=some g:=by
 rw [actD,if_pos h,hr]
 show (if diskOkD g=true then some g else none)=some g
 rw [if_pos hg]
def actsF:List FileD→List ActD→List FileD × Nat
 | fs,[] => (fs,0)
 | fs,A :: r => match actD fs A with
  | none => (fs,0)
  | some g => ((actsF g r).1,(actsF g r).2+1)
theorem actsF_no {fs:List FileD} {qs:List ActD} {k:Nat} (h:k < qs.length) (hA:actD fs qs[k]=none):actsF fs (qs.drop k)=(fs,0):=by
 rw [List.drop_eq_getElem_cons h,actsF,hA]
theorem actsF_yes {fs g:List FileD} {qs:List ActD} {k:Nat} (h:k < qs.length) (hA:actD fs qs[k]=some g):actsF fs (qs.drop k)=((actsF g (qs.drop (k+1))).1,(actsF g (qs.drop (k+1))).2+1):=by
 rw [List.drop_eq_getElem_cons h,actsF,hA]
theorem actsF_end {fs:List FileD} {qs:List ActD} {k:Nat} (h:qs.length≤k):actsF fs (qs.drop k)=(fs,0):=by
 rw [List.drop_eq_nil_of_le h,actsF]
theorem actD_ok {fs g:List FileD} {A:ActD} (h:actD fs A=some g):diskOkD g=true:=by
 unfold actD at h
 split at h
 ·
  cases hr:rawD fs A with
  | none => rw [hr] at h;cases h
  | some x =>
   rw [hr] at h
   have h2:(if diskOkD x=true then some x else none)=some g:=h
   split at h2
   · cases h2;assumption
   · cases h2
 · cases h
def ActsAt (w:World) (ao:Option Addr) (qs:List ActD):Prop:=∀ j (h:j < qs.length),∃ b off:Nat,ao=some ⟨b,off,none⟩∧b < w.heap.size ∧
 w.cell? ⟨b,off+j * 4,none⟩=some (.int .i64 qs[j].kind)∧w.cell? ⟨b,off+j * 4+1,none⟩=some (.string qs[j].name)∧w.cell? ⟨b,off+j * 4+2,none⟩=some (.string qs[j].text)∧w.cell? ⟨b,off+j * 4+3,none⟩=some (.string qs[j].toN)
theorem actsAt_keep {w w':World} {ao:Option Addr} {qs:List ActD} (h:ActsAt w ao qs) (hb:Below w.heap.size w w'):ActsAt w' ao qs:=by
 intro j hj
 obtain ⟨b,off,h1,h2,h3,h4,h5,h6⟩:=h j hj
 exact ⟨b,off,h1,Nat.lt_of_lt_of_le h2 hb.size,(hb.cell (p:=⟨b,off+j * 4,none⟩) h2).trans h3,(hb.cell (p:=⟨b,off+j * 4+1,none⟩) h2).trans h4,(hb.cell (p:=⟨b,off+j * 4+2,none⟩) h2).trans h5,(hb.cell (p:=⟨b,off+j * 4+3,none⟩) h2).trans h6⟩
theorem allKept_any (fs:List FileD) (ao:Option Addr) (cap:Nat) (w:World) (hl:fs.length≤1048576) (hfs:FilesAt w ao fs) (hsz:∀ F ∈ fs,F.name.size≤1048576∧F.text.size≤1048576) :
  Calls Tryz.prog 115 #[.agg #[.slice ao fs.length cap]] w fun e w' => e=.returned (.bool (allKeptD fs))∧Below w.heap.size w w':=by
 have HF:=hide hfs
 have HS:=hide hsz
 clear hfs hsz
 have b0:Below w.heap.size w (w.alloc (.cells #[.slice ao fs.length cap] 31)):=(Below.refl _ w).alloc (Nat.le_refl _) _
 have HB0:=hide b0
 clear b0
 cases hok:diskOkD fs
 ·
  go_enter Tryz.func115,Tryz.ntmps115
  go_wp2_with fail
  refine (diskOk_any fs ao cap _ hl (filesAt_keep HF.out HB0.out) (fun F h => ⟨small_max (HS.out F h).1,small_max (HS.out F h).2⟩)).mono ?_
  rintro e w1 ⟨rfl,b1⟩
  rw [hok]
  have HB1:=hide (HB0.out.trans (b1.mono HB0.out.size))
  clear b1
  go_wp2
  go_ret
  rw [allKeptD,hok]
  exact ⟨rfl,HB1.out⟩
 ·
  obtain ⟨R,HR⟩:∃ R,Hid (keptD (fs.drop 0)=R):=⟨_,hide rfl⟩
  have e:allKeptD fs=R:=by rw [allKeptD,hok,← HR.out];rfl
  rw [e]
  clear e
  go_enter Tryz.func115,Tryz.ntmps115
  go_wp2_with fail
  refine (diskOk_any fs ao cap _ hl (filesAt_keep HF.out HB0.out) (fun F h => ⟨small_max (HS.out F h).1,small_max (HS.out F h).2⟩)).mono ?_
  rintro e w1 ⟨rfl,b1⟩
  rw [hok]
  have hbox:w1.cell? ⟨w.heap.size,0,none⟩=some (.slice ao fs.length cap):=(b1.cell (p:=⟨w.heap.size,0,none⟩) (by simp)).trans (by rw [cell_of_row _ _ _ _ _ (0,0) (heap_alloc_new w _)];rfl)
  have HB1:=hide (HB0.out.trans (b1.mono HB0.out.size))
  clear b1
  go_wp2
  go_loopw [11] (fun ii wr => ∃ (k:Nat),ii=.int .i64 k∧k≤fs.length∧Hid (keptD (fs.drop k)=R)∧Hid (Below w.heap.size w wr)) (fun ii _ => fs.length - (intOf ii).toNat)
  case atStart => exact ⟨0,rfl,Nat.zero_le _,HR,HB1⟩
  case round =>
   obtain ⟨k,rfl,hk,HK,HB⟩:=hrel
   by_cases hlt:k < fs.length
   ·
    have hlt':decide ((k:Int) < (fs.length:Int))=true:=by simp;omega
    obtain ⟨b,off,rfl,hbw,hc0,hc1,hc2⟩:=filesAt_keep HF.out HB.out k hlt
    have HX:=hide (HS.out fs[k] (List.getElem_mem hlt))
    obtain ⟨F,HFk⟩:∃ F,Hid (fs[k]=F):=⟨fs[k],hide rfl⟩
    rw [HFk.out] at hc0 hc1 hc2
    have hi0:(0:Int)≤(k:Int):=by omega
    have hi1:(k:Int) < (fs.length:Int):=by omega
    have hs2:F.text.size≤1048576:=by have:=HX.out.2;rw [HFk.out] at this;exact this
    cases hq:decide (F.kept < (F.text.size:Int))
    ·
     have HK1:Hid (keptD (fs.drop (k+1))=R):=by show _=_;rw [← HK.out];exact (kept_more hlt (by rw [HFk.out];exact hq)).symm
     go_wp2
     go_roundw
     case rel => exact ⟨k+1,by go_num,by omega,HK1,HB.out.alloc HB.out.size _⟩
     case measure => simp [intOf];omega
    ·
     have hR:Hid (R=false):=by show _=_;rw [← HK.out];exact kept_bad hlt (by rw [HFk.out];exact hq)
     go_wp2
     go_ret
     rw [hR.out]
     exact ⟨rfl,HB.out.alloc HB.out.size _⟩
   ·
    have hlt':decide ((k:Int) < (fs.length:Int))=false:=by simp;omega
    have hR:Hid (R=true):=by show _=_;rw [← HK.out];exact kept_end (by omega)
    go_wp2
    go_ret
    rw [hR.out]
    exact ⟨rfl,HB.out⟩
abbrev nmNew:ByteArray:=⟨#[109,43]⟩
def isBelow (m:Nat) (nm:ByteArray):Bool:=(List.range m).any fun n => (segNm (n:Int)).toList == nm.toList
theorem isBelow_succ (m:Nat) (nm:ByteArray):isBelow (m+1) nm=(isBelow m nm || ((segNm (m:Int)).toList == nm.toList)):=by
 unfold isBelow
 rw [List.range_succ,List.any_append]
 simp
theorem isBelow_at {m k:Nat} {nm:ByteArray} (hk:k < m) (h:((segNm (k:Int)).toList == nm.toList)=true):isBelow m nm=true:=by
 unfold isBelow
 rw [List.any_eq_true]
 exact ⟨k,List.mem_range.2 hk,h⟩
def lastB (q:Int) (bs:List BatchD):Int:=(bs.getLast?.map BatchD.seq).getD q
def seqD (l:List SegD):Int:=l.foldl (fun q s => lastB q s.bs) 0
theorem seqD_snoc (l:List SegD) (s:SegD):seqD (l ++ [s])=lastB (seqD l) s.bs:=by simp [seqD]
theorem lastB_last (q:Int) (bs:List BatchD) (h:0 < bs.length):lastB q bs=(bs[bs.length - 1]'(by omega)).seq:=by
 unfold lastB
 rw [List.getLast?_eq_getElem?,List.getElem?_eq_getElem (by omega)]
 rfl
theorem seqD_take_succ {l:List SegD} {k:Nat} (h:k < l.length):seqD (l.take (k+1))=lastB (seqD (l.take k)) l[k].bs:=by
 rw [List.take_succ_eq_append_getElem h,seqD_snoc]
def dropA (nm:ByteArray):ActD:=⟨4,nm,⟨#[]⟩,⟨#[]⟩⟩
def newA (nm text:ByteArray):List ActD:=[⟨1,nmNew,text,⟨#[]⟩⟩,⟨2,nmNew,⟨#[]⟩,⟨#[]⟩⟩,⟨3,nmNew,⟨#[]⟩,nm⟩]
def addA (t:ByteArray):ActD:=⟨1,nmNew,t,⟨#[]⟩⟩
def newsA (nm:ByteArray) (ts:List ByteArray):List ActD:=ts.map addA ++ [⟨2,nmNew,⟨#[]⟩,⟨#[]⟩⟩,⟨3,nmNew,⟨#[]⟩,nm⟩]
def isNew (nm:ByteArray):Bool:=nm.toList == nmNew.toList
def goesB (m:Nat) (F:FileD):Bool:=isNew F.name || isBelow m F.name
def dropsI (m:Nat) (fs:List FileD):List ActD:=(fs.filter (goesB m)).map fun F => dropA F.name
theorem dropsI_snoc_yes {m:Nat} {fs:List FileD} {F:FileD} (h:goesB m F=true):dropsI m (fs ++ [F])=dropsI m fs ++ [dropA F.name]:=by simp [dropsI,h]
theorem dropsI_snoc_no {m:Nat} {fs:List FileD} {F:FileD} (h:goesB m F=false):dropsI m (fs ++ [F])=dropsI m fs:=by simp [dropsI,h]
theorem dropsI_len (m:Nat) (fs:List FileD):(dropsI m fs).length≤fs.length:=by
 unfold dropsI
 rw [List.length_map]
 exact List.length_filter_le _ _
theorem dropsI_empty {m:Nat} {fs:List FileD}:dropsI m fs=[] ↔ ∀ F ∈ fs,goesB m F=false:=by
 unfold dropsI
 rw [List.map_eq_nil_iff,List.filter_eq_nil_iff]
 constructor
 ·
  intro h F hF
  simpa using h F hF
 ·
  intro h F hF
  simp [h F hF]
def dropsS (m:Nat) (fs:List FileD):List ActD:=(if (fileD fs nmNew).isSome then [dropA nmNew] else []) ++ (fs.filter fun F => isBelow m F.name).map fun F => dropA F.name
def firstG (fs:List FileD):Nat:=((segsL fs).head?.map SegD.num).getD 0
def lastG (fs:List FileD):SegD:=(segsL fs).getLast?.getD ⟨0,0,[],0,false,false⟩
def mendA (fs:List FileD):List ActD:=if (lastG fs).torn then newA (segNm ((lastG fs).num:Int)) ((((fileD fs (segNm ((lastG fs).num:Int))).map FileD.text).getD ⟨#[]⟩).extract 0 (lastG fs).fin) else []
def actsI (fs:List FileD):List ActD:=dropsI (firstG fs) fs ++ mendA fs
def actsS (fs:List FileD):List ActD:=dropsS (firstG fs) fs ++ mendA fs
def wholeB (fs:List FileD):Bool:=(segsL fs).dropLast.all fun s => !s.torn
def soundB (fs:List FileD):Bool:=seqsRise fs && (allKeptD fs && wholeB fs)
def roomB (room:Int):Bool:=decide (100≤room) && decide (room≤20000)
def openIB (fs:List FileD) (room:Int):Bool:=roomB room && (soundB fs && decide ((actsF fs (actsI fs)).2=(actsI fs).length))
def openSB (fs:List FileD) (room:Int):Bool:=roomB room && (soundB fs && decide ((actsF fs (actsS fs)).2=(actsS fs).length))
def calmB (fs:List FileD):Bool:=(actsI fs).isEmpty
def engB (fs:List FileD) (room act seq:Int) (dir:List SpotD):Prop:=roomB room=true∧soundB fs=true∧calmB fs=true∧((lastG fs).num:Int)=act∧seqD (segsL fs)=seq∧dirD fs=dir
theorem soundB_segs {fs:List FileD} (h:soundB fs=true):segsOk fs=true∧seqsRise fs=true∧allKeptD fs=true∧wholeB fs=true∧diskOkD fs=true∧0 < (segsL fs).length:=by
 unfold soundB at h
 simp only [Bool.and_eq_true] at h
 obtain ⟨h1,h2,h3⟩:=h
 have h4:segsOk fs=true:=by
  unfold seqsRise at h1
  simp only [Bool.and_eq_true] at h1
  exact h1.1
 have h5:=h4
 unfold segsOk at h5
 simp only [Bool.and_eq_true,decide_eq_true_eq] at h5
 refine ⟨h4,h1,h2,h3,h5.1,?_⟩
 unfold segsL
 rw [if_pos h4]
 exact h5.2.2
theorem fileD_some_iff {fs:List FileD} {nm:ByteArray}:(fileD fs nm).isSome=fs.any fun F => F.name.toList == nm.toList:=by
 unfold fileD
 rw [List.isSome_find?]
theorem actsS_empty (fs:List FileD):actsS fs=[] ↔ actsI fs=[]:=by
 unfold actsS actsI
 simp only [List.append_eq_nil_iff]
 refine and_congr_left fun _ => ?_
 rw [dropsI_empty]
 unfold dropsS
 rw [List.append_eq_nil_iff,List.map_eq_nil_iff,List.filter_eq_nil_iff,fileD_some_iff]
 constructor
 ·
  rintro ⟨h1,h2⟩ F hF
  unfold goesB isNew
  have h3:(fs.any fun F => F.name.toList == nmNew.toList)=false:=by
   cases hh:fs.any fun F => F.name.toList == nmNew.toList with
   | false => rfl
   | true => rw [hh] at h1;simp at h1
  rw [List.any_eq_false] at h3
  have h4:=h3 F hF
  have h5:=h2 F hF
  simp only [Bool.not_eq_true] at h4 h5
  rw [h4,h5]
  rfl
 ·
  intro h
  have h1:(fs.any fun F => F.name.toList == nmNew.toList)=false:=by
   rw [List.any_eq_false]
   intro F hF
   have:=h F hF
   unfold goesB isNew at this
   simp only [Bool.or_eq_false_iff] at this
   rw [this.1]
   simp
  refine ⟨by rw [h1];rfl,fun F hF => ?_⟩
  have:=h F hF
  unfold goesB at this
  simp only [Bool.or_eq_false_iff] at this
  rw [this.2]
  simp
end Go.Proofs.YtepdckehokdjlaaGreatDoor
namespace Go.Proofs.YtepdckehokdjlaaGreatDoor
open Go.RowKit Go.Maps
def srtS (fs:List SpotD):Prop:=fs.Pairwise (fun a b => Op.bytesLess a.key.toList b.key.toList=true)
theorem set_mem {gs:List SpotD} {F G:SpotD} {gone:Bool}:G ∈ setD gs F gone ↔ (gone=false∧G=F) ∨ (G ∈ gs∧G.key ≠ F.key):=by
 unfold setD
 rw [List.mem_append,List.mem_append,List.mem_filter,List.mem_filter]
 constructor
 ·
  rintro ((⟨h1,h2⟩ | h) | ⟨h1,h2⟩)
  ·
   refine .inr ⟨h1,fun e => ?_⟩
   rw [spLt,e,less_irrefl] at h2
   cases h2
  ·
   cases gone with
   | true => simp at h
   | false => exact .inl ⟨rfl,by simpa using h⟩
  ·
   refine .inr ⟨h1,fun e => ?_⟩
   rw [spGt,e] at h2
   simp at h2
 ·
  rintro (⟨rfl,rfl⟩ | ⟨h1,h2⟩)
  · exact .inl (.inr (by simp))
  ·
   cases hl:Op.bytesLess G.key.toList F.key.toList
   ·
    refine .inr ⟨h1,?_⟩
    rw [spGt,hl,toList_ne.2 h2]
    rfl
   · exact .inl (.inl ⟨h1,hl⟩)
theorem spGt_less {k:ByteArray} {A:SpotD} (h:spGt k A=true):Op.bytesLess k.toList A.key.toList=true:=by
 unfold spGt at h
 simp only [Bool.and_eq_true,Bool.not_eq_true',beq_eq_false_iff_ne] at h
 exact less_total h.1 h.2
theorem srtS_set {gs:List SpotD} (F:SpotD) (gone:Bool) (h:srtS gs):srtS (setD gs F gone):=by
 unfold setD srtS
 rw [List.pairwise_append,List.pairwise_append]
 refine ⟨⟨h.filter _,by cases gone <;> simp,fun a ha b hb => ?_⟩,h.filter _,fun a ha b hb => ?_⟩
 ·
  cases gone with
  | true => simp at hb
  | false =>
   obtain rfl:b=F:=by simpa using hb
   exact (List.mem_filter.1 ha).2
 ·
  have hb2:=spGt_less (List.mem_filter.1 hb).2
  rcases List.mem_append.1 ha with ha | ha
  · exact less_trans (List.mem_filter.1 ha).2 hb2
  ·
   cases gone with
   | true => simp at ha
   | false =>
    obtain rfl:a=F:=by simpa using ha
    exact hb2
theorem srtS_chs (seg pos q:Int):∀ (l:List ChangeD) (dir:List SpotD),srtS dir→srtS (chsIn seg pos q dir l)
 | [],_,h => h
 | _ :: r,_,h => srtS_chs seg pos q r _ (srtS_set _ _ h)
def spotDat (A:SpotD):DataW Unit:=.agg [.lit (.string A.key.data.toList),.lit (.int .i64 A.seg),.lit (.int .i64 A.pos),.lit (.int .i64 A.seq)]
def spotElem:Value→Option (DataW Unit × List MemPlace)
 | .agg cs => match cs.toList with
  | [.string k,.int .i64 a,.int .i64 b,.int .i64 c] => some (.agg [.lit (.string k.data.toList),.lit (.int .i64 a),.lit (.int .i64 b),.lit (.int .i64 c)],[])
  | _ => none
 | _ => none
theorem spotElem_mk (A:SpotD):spotElem (.agg #[.string A.key,.int .i64 A.seg,.int .i64 A.pos,.int .i64 A.seq])=some (spotDat A,[]):=rfl
theorem spotElem_inv {v:Value} {A:SpotD} {ps:List MemPlace} (h:spotElem v=some (spotDat A,ps)):v=.agg #[.string A.key,.int .i64 A.seg,.int .i64 A.pos,.int .i64 A.seq]:=by
 unfold spotElem at h
 split at h
 ·
  rename_i cs
  split at h
  ·
   rename_i k a b c e
   have hcs:cs = #[.string k,.int .i64 a,.int .i64 b,.int .i64 c]:=by
    apply Array.ext'
    exact e
   simp only [spotDat,Option.some.injEq,Prod.mk.injEq,DataW.agg.injEq,List.cons.injEq,DataW.lit.injEq,Lit.string.injEq,Lit.int.injEq,true_and,and_true] at h
   obtain ⟨⟨h1,h2,h3,h4⟩,_⟩:=h
   have hk:k=A.key:=by
    cases k with | mk d1 => cases hk2:A.key with | mk d2 =>
     rw [hk2] at h1
     simp at h1
     rw [h1]
   rw [hcs,hk,h2,h3,h4]
  · cases h
 · cases h
def DirM (w:World) (mb n:Nat) (gs:List SpotD):Prop :=
 ∃ D:DataW Unit,w.ownsMap Tryz.prog 9 spotElem mb n D∧(∀ s,has D (kl s)=true ↔ ∃ F ∈ gs,F.key=s)∧(∀ F ∈ gs,∀ z,D.atKey (kl F.key) z=spotDat F)∧srtS gs
theorem dirM_new (w:World):DirM (w.alloc (.map #[] 0)) w.heap.size 0 [] :=
 ⟨.map [],World.ownsMap_made w Tryz.prog 9 spotElem,fun s => by simp [has],fun F hF => absurd hF List.not_mem_nil,List.Pairwise.nil⟩
theorem dirM_keep {w w':World} {mb n:Nat} {gs:List SpotD} {r:Option Nat} (h:DirM w mb n gs) (hg:w.grownBy w' r) (hr:r ≠ some mb):DirM w' mb n gs:=by
 obtain ⟨D,h1,h2⟩:=h
 exact ⟨D,h1.kept hg (fun e => hr e.symm),h2⟩
theorem dirM_below {w w':World} {mb n:Nat} {gs:List SpotD} (h:DirM w mb n gs) (hb:Below w.heap.size w w'):DirM w' mb n gs:=dirM_keep h (grownBy_below none hb) (by simp)
theorem dirM_lt {w:World} {mb n:Nat} {gs:List SpotD} (h:DirM w mb n gs):mb < w.heap.size:=by
 obtain ⟨D,h1,-⟩:=h
 exact h1.lt
theorem dirM_mono {w:World} {mb n n':Nat} {gs:List SpotD} (h:DirM w mb n gs) (hn:n≤n'):DirM w mb n' gs:=by
 obtain ⟨D,h1,h2⟩:=h
 exact ⟨D,h1.mono hn,h2⟩
theorem dirM_put {w':World} {mb n:Nat} {gs:List SpotD} {D:DataW Unit} {F:SpotD} (hm:IsMap D) (h3:∀ s,has D (kl s)=true ↔ ∃ F ∈ gs,F.key=s) (h4:∀ F ∈ gs,∀ z,D.atKey (kl F.key) z=spotDat F) (h5:srtS gs)
  (hw:w'.ownsMap Tryz.prog 9 spotElem mb n (D.put (kl F.key) (spotDat F))):DirM w' mb n (setD gs F false):=by
 refine ⟨_,hw,fun s => ?_,fun G hG z => ?_,srtS_set _ _ h5⟩
 ·
  by_cases e:s=F.key
  ·
   subst e
   rw [has_put_same hm (kl_key _)]
   simp only [true_iff]
   exact ⟨F,set_mem.2 (.inl ⟨rfl,rfl⟩),rfl⟩
  ·
   rw [has_put_other (kl_ne e),h3 s]
   constructor
   ·
    rintro ⟨G,hG,rfl⟩
    exact ⟨G,set_mem.2 (.inr ⟨hG,e⟩),rfl⟩
   ·
    rintro ⟨G,hG,rfl⟩
    rcases set_mem.1 hG with ⟨-,rfl⟩ | ⟨hG,_⟩
    · exact absurd rfl e
    · exact ⟨G,hG,rfl⟩
 ·
  rcases set_mem.1 hG with ⟨-,rfl⟩ | ⟨hG,e⟩
  · rw [atKey_put_same hm (kl_key _)]
  ·
   rw [atKey_put_other (kl_ne e)]
   exact h4 G hG z
theorem dirM_del {w':World} {mb n:Nat} {gs:List SpotD} {D:DataW Unit} (F:SpotD) (h3:∀ s,has D (kl s)=true ↔ ∃ F ∈ gs,F.key=s) (h4:∀ F ∈ gs,∀ z,D.atKey (kl F.key) z=spotDat F) (h5:srtS gs)
  (hw:w'.ownsMap Tryz.prog 9 spotElem mb n (D.del (kl F.key))):DirM w' mb n (setD gs F true):=by
 refine ⟨_,hw,fun s => ?_,fun G hG z => ?_,srtS_set _ _ h5⟩
 ·
  by_cases e:s=F.key
  ·
   subst e
   rw [has_del_same]
   simp only [Bool.false_eq_true,false_iff]
   rintro ⟨G,hG,e⟩
   rcases set_mem.1 hG with ⟨h,-⟩ | ⟨-,h⟩
   · cases h
   · exact h e
  ·
   rw [has_del_other (kl_ne e),h3 s]
   constructor
   ·
    rintro ⟨G,hG,rfl⟩
    exact ⟨G,set_mem.2 (.inr ⟨hG,e⟩),rfl⟩
   ·
    rintro ⟨G,hG,rfl⟩
    rcases set_mem.1 hG with ⟨h,-⟩ | ⟨hG,_⟩
    · cases h
    · exact ⟨G,hG,rfl⟩
 ·
  rcases set_mem.1 hG with ⟨h,-⟩ | ⟨hG,e⟩
  · cases h
  ·
   rw [atKey_del_other (kl_ne e)]
   exact h4 G hG z
end Go.Proofs.YtepdckehokdjlaaGreatDoor
