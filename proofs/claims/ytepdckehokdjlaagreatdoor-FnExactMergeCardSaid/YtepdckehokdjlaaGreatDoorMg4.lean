import Derived.Test.YtepdckehokdjlaaGreatDoorMg1
import Derived.Test.YtepdckehokdjlaaGreatDoorMg3
import Derived.Test.YtepdckehokdjlaaGreatDoorMg0
set_option maxRecDepth 100000
set_option maxHeartbeats 1000000
namespace Go.Proofs.YtepdckehokdjlaaGreatDoor
open Go.RowKit
structure BatchD where
 seq:Int
 chs:List ChangeD
def headL (n f:Nat):List UInt8:=[72] ++ Wd.varF 5 n ++ Wd.varF 5 f
def hdRaw (t:ByteArray):Nat × Nat × Bool :=
 let a:=takeC t 1 0 false
 let b:=varC t a.2.1 a.2.2
 let c:=varC t b.2.1 b.2.2
 (b.1,c.1,c.2.2)
def hdOk (n:Int) (t:ByteArray):Bool:=!(hdRaw t).2.2 && (((hdRaw t).1:Int) == n && ((decide (0≤n) && decide (n≤99)) && (decide (((hdRaw t).2.1:Int)≤n) && decide ((⟨(headL (hdRaw t).1 (hdRaw t).2.1).toArray⟩:ByteArray)=t))))
def hdFrom (n:Int) (t:ByteArray):Option Nat:=if hdOk n t then some (hdRaw t).2.1 else none
theorem hdRaw_at (n f:Nat) (hn:n≤1000000000) (hf:f≤1000000000):hdRaw ⟨(headL n f).toArray⟩=(n,f,false):=by
 obtain ⟨t,ht⟩:∃ t:ByteArray,t=⟨(headL n f).toArray⟩:=⟨_,rfl⟩
 rw [← ht]
 unfold headL at ht
 have k1:=takeC_at (t:=t) [] (Wd.varF 5 n ++ Wd.varF 5 f) ⟨#[72]⟩ (by rw [ht];simp only [List.append_assoc,List.nil_append])
 have k2:=varC_at (t:=t) [72] (Wd.varF 5 f) n hn (by rw [ht])
 have k3:=varC_at (t:=t) ([72] ++ Wd.varF 5 n) [] f hf (by rw [ht,List.append_nil])
 have e1:(⟨#[72]⟩:ByteArray).size=1:=rfl
 rw [e1] at k1
 simp only [List.length_nil,Nat.zero_add] at k1
 simp only [List.length_append,List.length_cons,List.length_nil,Nat.zero_add] at k2 k3
 unfold hdRaw
 simp only [k1,k2,k3]
theorem hdFrom_iff (n:Int) (t:ByteArray) (f:Nat):hdFrom n t=some f ↔ 0≤n∧n≤99∧(f:Int)≤n∧t=⟨(headL n.toNat f).toArray⟩:=by
 constructor
 ·
  intro h
  unfold hdFrom at h
  split at h
  ·
   rename_i hk
   unfold hdOk at hk
   simp only [Bool.and_eq_true,decide_eq_true_eq,beq_iff_eq] at hk
   obtain ⟨-,h1,⟨h2,h3⟩,h4,h5⟩:=hk
   obtain rfl:=Option.some.inj h
   refine ⟨h2,h3,h4,?_⟩
   rw [← h1,Int.toNat_natCast]
   exact h5.symm
  · simp at h
 ·
  rintro ⟨h0,h1,h2,h3⟩
  obtain ⟨m,rfl⟩:=Int.eq_ofNat_of_zero_le h0
  rw [Int.toNat_natCast] at h3
  have hr:=hdRaw_at m f (by omega) (by omega)
  rw [← h3] at hr
  have hk:hdOk (m:Int) t=true:=by
   unfold hdOk
   rw [hr]
   simp only [Bool.and_eq_true,decide_eq_true_eq,beq_iff_eq]
   exact ⟨by simp,trivial,⟨h0,h1⟩,h2,h3.symm⟩
  unfold hdFrom
  rw [hk,hr]
  rfl
theorem hdFrom_le {n:Int} {t:ByteArray} {f:Nat} (h:hdFrom n t=some f):0≤n∧n≤99∧(f:Int)≤n:=by
 have:=(hdFrom_iff n t f).1 h
 exact ⟨this.1,this.2.1,this.2.2.1⟩
theorem headL_first (n f:Nat):Wd.rv ⟨(headL n f).toArray⟩ 1=some (n,1+(Wd.varF 5 n).length) ↔ n≤1000000000:=by
 constructor
 ·
  intro h
  exact (Wd.rv_bounds _ _ _ _ h).1
 ·
  intro hn
  have h:=rvI_at [72] (Wd.varF 5 f) n hn 1 rfl
  unfold Wd.rvI at h
  rw [if_neg (by
   have:(⟨([72] ++ Wd.varF 5 n ++ Wd.varF 5 f).toArray⟩:ByteArray).size=1+(Wd.varF 5 n).length+(Wd.varF 5 f).length:=by
    show ([72] ++ Wd.varF 5 n ++ Wd.varF 5 f).length=_
    rw [List.length_append,List.length_append];rfl
   rw [this];omega)] at h
  exact h
theorem headL_next (n f:Nat) (hf:f≤1000000000):Wd.rv ⟨(headL n f).toArray⟩ (1+(Wd.varF 5 n).length)=some (f,(headL n f).length):=by
 have e:(⟨(headL n f).toArray⟩:ByteArray)=⟨(([72] ++ Wd.varF 5 n) ++ Wd.varF 5 f ++ []).toArray⟩:=by unfold headL;rw [List.append_nil]
 have hl:([72] ++ Wd.varF 5 n).length=1+(Wd.varF 5 n).length:=by rw [List.length_append];rfl
 have h:=rvI_at ([72] ++ Wd.varF 5 n) [] f hf ((1+(Wd.varF 5 n).length:Nat):Int) (by rw [hl])
 unfold Wd.rvI at h
 rw [← e] at h
 have hz:(⟨(headL n f).toArray⟩:ByteArray).size=(headL n f).length:=rfl
 have hz2:(headL n f).length=1+(Wd.varF 5 n).length+(Wd.varF 5 f).length:=by unfold headL;rw [List.length_append,hl]
 rw [if_neg (by rw [hz,hz2];omega),Int.toNat_natCast,hl] at h
 rw [h,hz2]
theorem head_of_parts (t:ByteArray) (n p f:Nat) (h72:t.extract 0 1=⟨#[72]⟩) (h1:Wd.rv t 1=some (n,p)) (h2:Wd.rv t p=some (f,t.size)):t=⟨(headL n f).toArray⟩:=by
 obtain ⟨c1,b1,b1'⟩:=Wd.rv_canon t 1 n p h1
 obtain ⟨c2,b2,b2'⟩:=Wd.rv_canon t p f t.size h2
 have e:∀ a b c,a≤b→b≤c→(t.extract a c).data.toList=(t.extract a b).data.toList ++ (t.extract b c).data.toList:=by
  intro a b c hab hbc
  simp only [ByteArray.data_extract,Array.toList_extract,List.extract_eq_take_drop]
  rw [show c - a=(b - a)+(c - b) by omega,List.take_add,List.drop_drop,show a+(b - a)=b by omega]
 have hall:(t.extract 0 t.size).data.toList=t.data.toList:=by
  simp only [ByteArray.data_extract,Array.toList_extract,List.extract_eq_take_drop,List.drop_zero,Nat.sub_zero]
  exact List.take_of_length_le (by show t.data.toList.length≤t.size;exact Nat.le_refl _)
 apply ByteArray.ext
 apply Array.toList_inj.1
 rw [← hall,e 0 1 t.size (by omega) (by omega),e 1 p t.size (by omega) (by omega),h72,c1,c2]
 unfold headL
 simp only [List.append_assoc]
theorem headL_72 (n f:Nat):(⟨(headL n f).toArray⟩:ByteArray).extract 0 1=⟨#[72]⟩:=by
 apply ByteArray.ext
 apply Array.toList_inj.1
 simp [headL,List.extract_eq_take_drop]
theorem hd_none_72 {n:Int} {t:ByteArray} (h:t.extract 0 1 ≠ ⟨#[72]⟩):hdFrom n t=none:=by
 cases hf:hdFrom n t with
 | none => rfl
 | some f =>
  have:=((hdFrom_iff n t f).1 hf).2.2.2
  exact absurd (by rw [this];exact headL_72 _ _) h
theorem hd_none_num {n:Int} {t:ByteArray} (h:Wd.rv t 1=none):hdFrom n t=none:=by
 cases hf:hdFrom n t with
 | none => rfl
 | some f =>
  obtain ⟨h0,h1,h2,h3⟩:=(hdFrom_iff n t f).1 hf
  rw [h3,(headL_first n.toNat f).2 (by omega)] at h
  simp at h
theorem hd_none_other {n:Int} {t:ByteArray} {a p:Nat} (h:Wd.rv t 1=some (a,p)) (hne:(a:Int) ≠ n):hdFrom n t=none:=by
 cases hf:hdFrom n t with
 | none => rfl
 | some f =>
  obtain ⟨h0,h1,h2,h3⟩:=(hdFrom_iff n t f).1 hf
  rw [h3,(headL_first n.toNat f).2 (by omega)] at h
  simp only [Option.some.injEq,Prod.mk.injEq] at h
  omega
theorem hd_some {n:Int} {t:ByteArray} {a p f q:Nat} (h72:t.extract 0 1=⟨#[72]⟩) (h:Wd.rv t 1=some (a,p)) (hne:(a:Int)=n) (h2:Wd.rv t p=some (f,q)) (hq:q=t.size) (h0:0≤n) (h1:n≤99) (hf:(f:Int)≤n):hdFrom n t=some f:=by
 subst hq hne
 refine (hdFrom_iff _ _ _).2 ⟨h0,h1,hf,?_⟩
 rw [Int.toNat_natCast]
 exact head_of_parts t a p f h72 h h2
theorem hd_none_next {n:Int} {t:ByteArray} {a p:Nat} (h:Wd.rv t 1=some (a,p)) (h2:∀ f,Wd.rv t p=some (f,t.size)→¬ (0≤n∧n≤99∧(f:Int)≤n)):hdFrom n t=none:=by
 cases hf:hdFrom n t with
 | none => rfl
 | some f =>
  obtain ⟨h0,h1,h3,h4⟩:=(hdFrom_iff n t f).1 hf
  have e1:=(headL_first n.toNat f).2 (by omega)
  have e2:=headL_next n.toNat f (by omega)
  rw [← h4,h] at e1
  simp only [Option.some.injEq,Prod.mk.injEq] at e1
  have hz:t.size=(headL n.toNat f).length:=by rw [h4];rfl
  rw [← h4,← e1.2,← hz] at e2
  exact absurd ⟨h0,h1,h3⟩ (h2 f e2)
def ris (s:ByteArray):List (Nat × Nat)→Int→Nat→List BatchD × Nat
 | [],_,e => ([],e)
 | x :: r,last,e =>
  if rdOk (s.extract x.1 x.2)=true∧last < rdSeq (s.extract x.1 x.2) then
   (⟨rdSeq (s.extract x.1 x.2),rdChanges (s.extract x.1 x.2)⟩ :: (ris s r (rdSeq (s.extract x.1 x.2)) x.2).1,(ris s r (rdSeq (s.extract x.1 x.2)) x.2).2)
  else ([],e)
theorem ris_more {s:ByteArray} {x:Nat × Nat} {r:List (Nat × Nat)} {last:Int} {e:Nat} (h1:rdOk (s.extract x.1 x.2)=true) (h2:last < rdSeq (s.extract x.1 x.2)) :
  ris s (x :: r) last e=(⟨rdSeq (s.extract x.1 x.2),rdChanges (s.extract x.1 x.2)⟩ :: (ris s r (rdSeq (s.extract x.1 x.2)) x.2).1,(ris s r (rdSeq (s.extract x.1 x.2)) x.2).2):=by
 conv => lhs;unfold ris
 rw [if_pos ⟨h1,h2⟩]
theorem ris_no {s:ByteArray} {x:Nat × Nat} {r:List (Nat × Nat)} {last:Int} {e:Nat} (h:¬ (rdOk (s.extract x.1 x.2)=true∧last < rdSeq (s.extract x.1 x.2))):ris s (x :: r) last e=([],e):=by
 conv => lhs;unfold ris
 rw [if_neg h]
theorem ris_nil (s:ByteArray) (last:Int) (e:Nat):ris s [] last e=([],e):=rfl
theorem ris_len (s:ByteArray):∀ l last e,(ris s l last e).1.length≤l.length
 | [],_,_ => by simp [ris]
 | x :: r,last,e => by
  by_cases h:rdOk (s.extract x.1 x.2)=true∧last < rdSeq (s.extract x.1 x.2)
  · rw [ris_more h.1 h.2];simp;exact ris_len s r _ _
  · rw [ris_no h];simp
def segRead (n:Int) (s:ByteArray):Option (Nat × List BatchD × Nat) :=
 match unf s with
 | [] => none
 | x :: r => match hdFrom n (s.extract x.1 x.2) with
  | none => none
  | some f => some (f,ris s r (-1) x.2)
def segFrom (n:Int) (s:ByteArray):Nat:=((segRead n s).map (fun q => q.1)).getD 0
def segBatches (n:Int) (s:ByteArray):List BatchD:=((segRead n s).map (fun q => q.2.1)).getD []
def segEnd (n:Int) (s:ByteArray):Nat:=((segRead n s).map (fun q => q.2.2)).getD 0
def segOk (n:Int) (s:ByteArray):Bool:=(segRead n s).isSome
theorem seg_none {n:Int} {s:ByteArray} (h:segRead n s=none):segFrom n s=0∧segBatches n s=[]∧segEnd n s=0∧segOk n s=false:=by
 unfold segFrom segBatches segEnd segOk
 rw [h]
 exact ⟨rfl,rfl,rfl,rfl⟩
theorem seg_some {n:Int} {s:ByteArray} {f:Nat} {bs:List BatchD} {e:Nat} (h:segRead n s=some (f,bs,e)):segFrom n s=f∧segBatches n s=bs∧segEnd n s=e∧segOk n s=true:=by
 unfold segFrom segBatches segEnd segOk
 rw [h]
 exact ⟨rfl,rfl,rfl,rfl⟩
theorem segRead_nil {n:Int} {s:ByteArray} (h:unf s=[]):segRead n s=none:=by unfold segRead;rw [h]
theorem segRead_head {n:Int} {s:ByteArray} {x:Nat × Nat} {r:List (Nat × Nat)} (h:unf s=x :: r) (hh:hdFrom n (s.extract x.1 x.2)=none):segRead n s=none:=by unfold segRead;rw [h];simp only [hh]
theorem segRead_some {n:Int} {s:ByteArray} {x:Nat × Nat} {r:List (Nat × Nat)} {f:Nat} (h:unf s=x :: r) (hh:hdFrom n (s.extract x.1 x.2)=some f):segRead n s=some (f,ris s r (-1) x.2):=by unfold segRead;rw [h];simp only [hh]
theorem segRead_out {n:Int} {s:ByteArray} (h:¬ (0≤n∧n≤99)):segRead n s=none:=by
 cases hu:unf s with
 | nil => exact segRead_nil hu
 | cons x r =>
  refine segRead_head hu ?_
  cases hf:hdFrom n (s.extract x.1 x.2) with
  | none => rfl
  | some f => have:=hdFrom_le hf;omega
theorem bt_drop (s:ByteArray) (p i:Nat):Wd.bt (s.extract p s.size) i=Wd.bt s (p+i):=by
 have hz:(s.extract p s.size).size=s.size - p:=by rw [ByteArray.size_extract];omega
 unfold Wd.bt
 by_cases h:p+i < s.size
 · rw [dif_pos (by rw [hz];omega),dif_pos h,ByteArray.getElem_extract]
 · rw [dif_neg (by rw [hz];omega),dif_neg h]
theorem rvF_drop (s:ByteArray) (p:Nat):∀ f i k q n,Wd.rvF (s.extract p s.size) f i k q n=(Wd.rvF s f (p+i) k q n).map (fun x => (x.1,x.2 - p)):=by
 have hz:(s.extract p s.size).size=s.size - p:=by rw [ByteArray.size_extract];omega
 intro f
 induction f with
 | zero => intro i k q n;rfl
 | succ f ih =>
  intro i k q n
  have hb:=bt_drop s p i
  by_cases h1:p+i < s.size
  ·
   have h1':i < (s.extract p s.size).size:=by rw [hz];omega
   by_cases h2:Wd.bt s (p+i) < 128
   ·
    by_cases h3:n+Wd.bt s (p+i) % 128 * q≤1000000000∧(0 < Wd.bt s (p+i) ∨ k=0)
    ·
     rw [Wd.rvF_last s f (p+i) k q n h1 h2 h3.1 h3.2,Wd.rvF_lastB hb h1' h2 h3.1 h3.2]
     simp only [Option.map_some]
     rw [show p+i+1 - p=i+1 by omega]
    ·
     rw [Wd.rvF_not s f (p+i) k q n h2 h3,Wd.rvF_notB hb h2 h3]
     rfl
   · rw [Wd.rvF_more s f (p+i) k q n h1 h2,Wd.rvF_moreB hb h1' h2,ih,Nat.add_assoc]
  ·
   rw [Wd.rvF_end s _ (p+i) k q n h1,Wd.rvF_end _ _ i k q n (by rw [hz];omega)]
   rfl
theorem rv_drop (s:ByteArray) (p i:Nat):Wd.rv (s.extract p s.size) i=(Wd.rv s (p+i)).map (fun x => (x.1,x.2 - p)):=rvF_drop s p 5 i 0 1 0
theorem extract_drop (s:ByteArray) (p a b:Nat) (hb:p+b≤s.size):(s.extract p s.size).extract a b=s.extract (p+a) (p+b):=by
 apply ByteArray.ext
 apply Array.toList_inj.1
 simp only [ByteArray.data_extract,Array.toList_extract,List.extract_eq_take_drop]
 rw [List.drop_take,List.take_take,List.drop_drop]
 congr 1
 have:s.size - p - a=s.size - (p+a):=by omega
 omega
def shf (p:Nat) (x:Nat × Nat):Nat × Nat:=(x.1 - p,x.2 - p)
theorem frB_drop (s:ByteArray) (p i:Nat) (hp:p≤s.size):frB (s.extract p s.size) i=(frB s (p+i)).map (shf p):=by
 have hz:(s.extract p s.size).size=s.size - p:=by rw [ByteArray.size_extract];omega
 cases hr:Wd.rv s (p+i) with
 | none =>
  rw [frB_num s _ hr,frB_num _ _ (by rw [rv_drop,hr];rfl)]
  rfl
 | some y =>
  obtain ⟨n,q⟩:=y
  have hbd:=Wd.rv_bounds s _ n q hr
  have hr':Wd.rv (s.extract p s.size) i=some (n,q - p):=by rw [rv_drop,hr];rfl
  by_cases hle:q+4+n≤s.size
  ·
   have e1:=extract_drop s p (q - p) (q - p+4) (by omega)
   have e2:=extract_drop s p (q - p+4) (q - p+4+n) (by omega)
   rw [show p+(q - p)=q by omega,show p+(q - p+4)=q+4 by omega] at e1
   rw [show p+(q - p+4)=q+4 by omega,show p+(q - p+4+n)=q+4+n by omega] at e2
   by_cases hc:1≤n∧n≤9000∧q+4+n≤s.size∧s.extract q (q+4)=⟨(four (sumB 4294967295 (s.extract (q+4) (q+4+n)))).toArray⟩
   ·
    rw [frB_yes s _ n q hr hc,frB_yes _ _ n (q - p) hr' ⟨hc.1,hc.2.1,by rw [hz];omega,by rw [e1,e2];exact hc.2.2.2⟩]
    simp only [Option.map_some,shf]
    rw [show q+4 - p=q - p+4 by omega,show q+4+n - p=q - p+4+n by omega]
   ·
    rw [frB_no s _ n q hr hc,frB_no _ _ n (q - p) hr' (fun h => hc ⟨h.1,h.2.1,hle,by have:=h.2.2.2;rw [e1,e2] at this;exact this⟩)]
    rfl
  ·
   rw [frB_no s _ n q hr (fun h => hle h.2.2.1),frB_no _ _ n (q - p) hr' (fun h => by have:=h.2.2.1;rw [hz] at this;omega)]
   rfl
theorem frs_drop (s:ByteArray) (p:Nat) (hp:p≤s.size):∀ f i,frs (s.extract p s.size) f i=(frs s f (p+i)).map (shf p)
 | 0,_ => rfl
 | f+1,i => by
  have hd:=frB_drop s p i hp
  cases h:frB s (p+i) with
  | none => rw [frs_none s _ _ h,frs_none _ _ _ (by rw [hd,h];rfl)];rfl
  | some x =>
   have hb:=frB_bounds s _ x h
   rw [frs_some s f _ x h,frs_some _ f _ (shf p x) (by rw [hd,h];rfl),frs_drop s p hp f,List.map_cons]
   show shf p x :: (frs s f (p+(x.2 - p))).map (shf p)=_
   rw [show p+(x.2 - p)=x.2 by omega]
theorem frs_in (s:ByteArray):∀ f i,∀ x ∈ frs s f i,i < x.1∧x.1 < x.2∧x.2≤s.size
 | 0,_,x,h => by simp [frs] at h
 | f+1,i,x,h => by
  cases hf:frB s i with
  | none => rw [frs_none s _ _ hf] at h;simp at h
  | some y =>
   have hb:=frB_bounds s i y hf
   rw [frs_some s f i y hf] at h
   rcases List.mem_cons.1 h with rfl | h
   · omega
   · have:=frs_in s f y.2 x h;omega
theorem ris_drop (s:ByteArray) (p:Nat):∀ (l:List (Nat × Nat)) (last:Int) (e:Nat),(∀ x ∈ l,p≤x.1∧x.1≤x.2∧x.2≤s.size)→p≤e →
  (ris (s.extract p s.size) (l.map (shf p)) last (e - p)).1=(ris s l last e).1∧p+(ris (s.extract p s.size) (l.map (shf p)) last (e - p)).2=(ris s l last e).2
 | [],last,e,_,he => by simp [ris];omega
 | x :: r,last,e,hl,he => by
  have hx:=hl x (List.mem_cons_self ..)
  have ex:(s.extract p s.size).extract (shf p x).1 (shf p x).2=s.extract x.1 x.2:=by
   unfold shf
   simp only
   rw [extract_drop s p (x.1 - p) (x.2 - p) (by omega),show p+(x.1 - p)=x.1 by omega,show p+(x.2 - p)=x.2 by omega]
  rw [List.map_cons]
  by_cases h:rdOk (s.extract x.1 x.2)=true∧last < rdSeq (s.extract x.1 x.2)
  ·
   have ih:=ris_drop s p r (rdSeq (s.extract x.1 x.2)) x.2 (fun y hy => hl y (List.mem_cons_of_mem _ hy)) (by omega)
   rw [ris_more h.1 h.2,ris_more (by rw [ex];exact h.1) (by rw [ex];exact h.2),ex]
   show _ :: (ris (s.extract p s.size) (r.map (shf p)) _ (x.2 - p)).1=_∧_
   rw [ih.1]
   exact ⟨rfl,ih.2⟩
  ·
   rw [ris_no h,ris_no (by rw [ex];exact h)]
   exact ⟨rfl,by simp only;omega⟩
theorem seg_tail {s:ByteArray} {x:Nat × Nat} {r:List (Nat × Nat)} (h:unf s=x :: r) (last:Int) :
  frB s 0=some x∧(ris (s.extract x.2 s.size) (frs (s.extract x.2 s.size) ((s.extract x.2 s.size).size+1) 0) last 0).1=(ris s r last x.2).1 ∧
   x.2+(ris (s.extract x.2 s.size) (frs (s.extract x.2 s.size) ((s.extract x.2 s.size).size+1) 0) last 0).2=(ris s r last x.2).2:=by
 have hs:s.size≤20000:=by
  apply Decidable.byContradiction
  intro hn
  unfold unf at h
  rw [if_neg hn] at h
  simp at h
 have hu:frs s (s.size+1) 0=x :: r:=by unfold unf at h;rw [if_pos hs] at h;exact h
 cases hf:frB s 0 with
 | none => rw [frs_none s _ _ hf] at hu;simp at hu
 | some y =>
  have hb:=frB_bounds s 0 y hf
  rw [frs_some s _ _ y hf] at hu
  simp only [List.cons.injEq] at hu
  obtain ⟨rfl,hr⟩:=hu
  have hz:(s.extract y.2 s.size).size=s.size - y.2:=by rw [ByteArray.size_extract];omega
  have e:frs (s.extract y.2 s.size) ((s.extract y.2 s.size).size+1) 0=r.map (shf y.2):=by
   rw [frs_drop s y.2 (by omega),Nat.add_zero,← hr]
   congr 1
   exact frs_same s _ _ _ (by omega) (by omega)
  have hin:∀ z ∈ r,y.2≤z.1∧z.1≤z.2∧z.2≤s.size:=by
   intro z hz'
   rw [← hr] at hz'
   have:=frs_in s _ _ z hz'
   omega
  have:=ris_drop s y.2 r last y.2 hin (Nat.le_refl _)
  rw [Nat.sub_self,← e] at this
  exact ⟨rfl,this⟩
theorem frB_size {s:ByteArray} {i:Nat} {x:Nat × Nat} (h:frB s i=some x):i+(frameB (s.extract x.1 x.2)).size=x.2∧1≤(s.extract x.1 x.2).size∧(s.extract x.1 x.2).size≤9000:=by
 cases hr:Wd.rv s i with
 | none => rw [frB_num s i hr] at h;simp at h
 | some q =>
  obtain ⟨n,p⟩:=q
  have hb:=Wd.rv_bounds s i n p hr
  by_cases hc:1≤n∧n≤9000∧p+4+n≤s.size∧s.extract p (p+4)=⟨(four (sumB 4294967295 (s.extract (p+4) (p+4+n)))).toArray⟩
  ·
   rw [frB_yes s i n p hr hc] at h
   obtain rfl:=Option.some.inj h
   have ht:=(frame_test s i n p hr hc.2.2.1).2 hc.2.2.2
   have hz:(s.extract (p+4) (p+4+n)).size=n:=by rw [ByteArray.size_extract];have:=hc.2.2.1;omega
   refine ⟨?_,by rw [hz];exact hc.1,by rw [hz];exact hc.2.1⟩
   show i+(frameB (s.extract (p+4) (p+4+n))).size=p+4+n
   rw [ht,ByteArray.size_extract]
   have:=hc.2.2.1
   omega
  · rw [frB_no s i n p hr hc] at h;simp at h
def chained (s:ByteArray):Nat→List (Nat × Nat)→Prop
 | _,[] => True
 | i,x :: r => frB s i=some x∧chained s x.2 r
theorem frs_chained (s:ByteArray):∀ f i,chained s i (frs s f i)
 | 0,_ => trivial
 | f+1,i => by
  cases hf:frB s i with
  | none => rw [frs_none s _ _ hf];trivial
  | some x => rw [frs_some s f i x hf];exact ⟨hf,frs_chained s f x.2⟩
theorem unf_chained (s:ByteArray):chained s 0 (unf s):=by
 unfold unf
 split
 · exact frs_chained s _ _
 · trivial
def sizeD (q:Int) (fs:List ChangeD):Nat:=if 1≤(textD q fs).size then (frameB (textD q fs)).size else 0
theorem textD_small (q:Int) (fs:List ChangeD):(textD q fs).size≤9000:=by
 unfold textD
 split
 ·
  rename_i h
  unfold textOkD at h
  simp only [Bool.and_eq_true,decide_eq_true_eq] at h
  exact h.2
 · exact Nat.zero_le _
def batchesOf (s:ByteArray) (l:List (Nat × Nat)):List BatchD:=l.map fun x => ⟨rdSeq (s.extract x.1 x.2),rdChanges (s.extract x.1 x.2)⟩
theorem batchesOf_snoc (s:ByteArray) (l:List (Nat × Nat)) (x:Nat × Nat):batchesOf s (l ++ [x])=batchesOf s l ++ [⟨rdSeq (s.extract x.1 x.2),rdChanges (s.extract x.1 x.2)⟩]:=by simp [batchesOf]
theorem batchesOf_len (s:ByteArray) (l:List (Nat × Nat)):(batchesOf s l).length=l.length:=by simp [batchesOf]
def plsB:Nat→List BatchD→List Nat
 | _,[] => []
 | e,b :: r => e :: plsB (e+sizeD b.seq b.chs) r
theorem plsB_len:∀ (l:List BatchD) (e:Nat),(plsB e l).length=l.length
 | [],_ => rfl
 | b :: r,e => by simp [plsB,plsB_len r]
theorem plsB_shift (h:Nat):∀ (l:List BatchD) (e:Nat),plsB (h+e) l=(plsB e l).map (h+·)
 | [],_ => rfl
 | b :: r,e => by
  simp only [plsB,List.map_cons]
  rw [Nat.add_assoc,plsB_shift h r]
def plsOf:Nat→List (Nat × Nat)→List Nat
 | _,[] => []
 | e,x :: r => e :: plsOf x.2 r
theorem plsOf_len:∀ (l:List (Nat × Nat)) (e:Nat),(plsOf e l).length=l.length
 | [],_ => rfl
 | x :: r,e => by simp [plsOf,plsOf_len r]
theorem plsOf_snoc2 (y:Nat × Nat):∀ (l:List (Nat × Nat)) (x:Nat × Nat) (e:Nat),plsOf e (x :: l ++ [y])=plsOf e (x :: l) ++ [endOf (x :: l)]
 | [],x,e => rfl
 | z :: l,x,e => by
  have h:=plsOf_snoc2 y l z x.2
  have h2:endOf (x :: z :: l)=endOf (z :: l):=by simp [endOf,List.getLast?_cons]
  rw [h2]
  show e :: plsOf x.2 (z :: l ++ [y])=e :: (plsOf x.2 (z :: l) ++ [endOf (z :: l)])
  rw [h]
theorem plsOf_snoc (l:List (Nat × Nat)) (x:Nat × Nat):plsOf 0 (l ++ [x])=plsOf 0 l ++ [endOf l]:=by
 cases l with
 | nil => rfl
 | cons y r => exact plsOf_snoc2 x r y 0
theorem frame_sizeD {s:ByteArray} {i:Nat} {x:Nat × Nat} (h:frB s i=some x) (hr:rdOk (s.extract x.1 x.2)=true):i+sizeD (rdSeq (s.extract x.1 x.2)) (rdChanges (s.extract x.1 x.2))=x.2:=by
 obtain ⟨h1,h2,h3⟩:=frB_size h
 unfold sizeD
 rw [(rd_text hr).2,if_pos h2]
 exact h1
theorem plsOf_B (s:ByteArray):∀ (l:List (Nat × Nat)) (e:Nat),chained s e l→(∀ x ∈ l,rdOk (s.extract x.1 x.2)=true)→plsOf e l=plsB e (batchesOf s l)
 | [],_,_,_ => rfl
 | x :: r,e,hc,hr => by
  show e :: plsOf x.2 r=e :: plsB (e+sizeD (rdSeq (s.extract x.1 x.2)) (rdChanges (s.extract x.1 x.2))) (batchesOf s r)
  rw [frame_sizeD hc.1 (hr x (List.mem_cons_self ..)),plsOf_B s r x.2 hc.2 (fun y hy => hr y (List.mem_cons_of_mem _ hy))]
theorem chained_take {s:ByteArray}:∀ (l r:List (Nat × Nat)) (e:Nat),chained s e (l ++ r)→chained s e l
 | [],_,_,_ => trivial
 | x :: l,r,_,h => ⟨h.1,chained_take l r x.2 h.2⟩
def segPls (n:Int) (s:ByteArray):List Nat:=plsB (frameB ⟨(headL n.toNat (segFrom n s)).toArray⟩).size (segBatches n s)
theorem head_frame {n:Int} {s:ByteArray} {x:Nat × Nat} {f:Nat} (h:frB s 0=some x) (hf:hdFrom n (s.extract x.1 x.2)=some f):(frameB ⟨(headL n.toNat f).toArray⟩).size=x.2:=by
 rw [← ((hdFrom_iff _ _ _).1 hf).2.2.2]
 have:=(frB_size h).1
 omega
theorem segPls_none {n:Int} {s:ByteArray} (h:segRead n s=none):segPls n s=[]:=by
 unfold segPls
 rw [(seg_none h).2.1]
 rfl
theorem segPls_tail {n:Int} {s:ByteArray} {x:Nat × Nat} {r l:List (Nat × Nat)} {f:Nat} (hu:unf s=x :: r) (hf:hdFrom n (s.extract x.1 x.2)=some f) {T:ByteArray} (hT:s.extract x.2 s.size=T)
  (hl:(ris T (frs T (T.size+1) 0) (-1) 0).1=batchesOf T l) (hp:∃ rest,frs T (T.size+1) 0=l ++ rest) (hr:∀ y ∈ l,rdOk (T.extract y.1 y.2)=true):segPls n s=(plsOf 0 l).map (x.2+·):=by
 obtain ⟨rest,hp⟩:=hp
 obtain ⟨h1,h2,h3⟩:=seg_tail hu (-1)
 have hc:chained T 0 l:=chained_take l rest 0 (by rw [← hp];exact frs_chained T _ _)
 obtain ⟨k1,k2,k3,k4⟩:=seg_some (segRead_some hu hf)
 unfold segPls
 rw [k1,k2,head_frame h1 hf,← h2,hT,hl,plsOf_B T l 0 hc hr,← plsB_shift,Nat.add_zero]
theorem l01In_yes (x a b:Int) (w:World) (h1:a≤x) (h2:x≤b) :
  Calls Tryz.prog 50 #[.int .i64 x,.int .i64 a,.int .i64 b] w fun e w' => e=.returned (.bool true)∧w' = w:=by
 have h1':decide (a≤x)=true:=by simp;omega
 have h2':decide (x≤b)=true:=by simp;omega
 go_enter Tryz.func50,Tryz.ntmps50
 go_wp2
 go_ret
 exact ⟨rfl,rfl⟩
theorem l01In_no (x a b:Int) (w:World) (h:x < a ∨ b < x) :
  Calls Tryz.prog 50 #[.int .i64 x,.int .i64 a,.int .i64 b] w fun e w' => e=.returned (.bool false)∧w' = w:=by
 by_cases h1:a≤x
 ·
  have h1':decide (a≤x)=true:=by simp;omega
  have h2':decide (x≤b)=false:=by simp;omega
  go_enter Tryz.func50,Tryz.ntmps50
  go_wp2
  go_ret
  exact ⟨rfl,rfl⟩
 ·
  have h1':decide (a≤x)=false:=by simp;omega
  go_enter Tryz.func50,Tryz.ntmps50
  go_wp2
  go_ret
  exact ⟨rfl,rfl⟩
theorem figure_any (x:Int) (w:World) (h0:0≤x) (h1:x < 16) :
  Calls Tryz.prog 106 #[.int .i64 x] w fun e w' => e=.returned (.int .u8 (Wd.figI x))∧w' = w:=by
 by_cases h:x < 10
 ·
  rw [Wd.figI_low x h]
  go_enter Tryz.func106,Tryz.ntmps106
  go_wp2
  go_ret
  exact ⟨rfl,rfl⟩
 ·
  rw [Wd.figI_high x h]
  go_enter Tryz.func106,Tryz.ntmps106
  go_wp2
  go_ret
  refine ⟨?_,rfl⟩
  show Ending.returned (.int .u8 (97+x - 10))=_
  rw [show 97+x - 10=87+x from by omega]
theorem dec_zero (w:World):Calls Tryz.prog 74 #[.int .i64 0] w fun e w' => e=.returned (.string ⟨(Wd.decS 0).toArray⟩)∧w' = w:=by
 go_enter Tryz.func74,Tryz.ntmps74
 go_wp2
 go_ret
 exact ⟨rfl,rfl⟩
theorem conv_one (W:World) (d:Nat) (hd:d < 16) :
  (convert 133 9 (.slice (some ⟨W.heap.size,0,none⟩) 1 1)).run Tryz.prog (W.alloc (.cells #[.int .u8 (Wd.figI (d:Int))] 5))=.ok (.string ⟨#[Wd.figB d]⟩) (W.alloc (.cells #[.int .u8 (Wd.figI (d:Int))] 5)):=by
 refine run_convert_bytes_back (P:=Tryz.prog) (W.alloc (.cells #[.int .u8 (Wd.figI (d:Int))] 5)) 133 9 5 ⟨W.heap.size,0,none⟩ 1 [Wd.figB d] Tryz.underlying133 Tryz.underlying5 Tryz.underlying9 ?_
 intro j hj
 exact cells_new W #[.int .u8 (Wd.figI (d:Int))] 5 j _ (by
  have:j=0:=by simpa using hj
  subst this
  simp [Wd.figB_val d hd])
theorem dec_pos (n:Nat) (w:World) (h0:0 < n) (h1:n≤9223372036854775807) :
  Calls Tryz.prog 74 #[.int .i64 n] w fun e w' => e=.returned (.string ⟨(Wd.decA 20 n []).toArray⟩)∧Below w.heap.size w w':=by
 have hz:((n:Int) == 0)=false:=by simp;omega
 have hneg:decide ((n:Int) < 0)=false:=by simp
 go_enter Tryz.func74,Tryz.ntmps74
 go_wp2
 go_loopw [0,4] (fun t v wr => ∃ (f m:Nat) (acc:List UInt8),t=.int .i64 m∧v=.string ⟨acc.toArray⟩∧m < 10 ^ f∧m≤9223372036854775807∧acc.length+f=20∧Hid (Wd.decA f m acc=Wd.decA 20 n [])∧Below w.heap.size w wr) (fun t _ _ => (intOf t).toNat)
 case atStart => exact ⟨20,n,[],rfl,rfl,by omega,h1,rfl,rfl,Below.refl _ _⟩
 case round =>
  obtain ⟨f,m,acc,rfl,rfl,hm,hm2,hl,hacc,hb⟩:=hrel
  have hbs:=hb.size
  by_cases hlt:0 < m
  ·
   obtain ⟨f,rfl⟩:∃ g,f=g+1:=by
    cases f with
    | zero => simp at hm;omega
    | succ g => exact ⟨g,rfl⟩
   have hne:((m:Int) != 0)=true:=by simp;omega
   obtain ⟨d,hd,hd10,hdi⟩:∃ d:Nat,Hid (m % 10=d)∧d < 10∧(m:Int) % 10=(d:Int):=⟨_,rfl,by omega,by omega⟩
   have hfac:=hide (Wd.decA_step f m acc (by omega))
   have hdiv:m / 10 < 10 ^ f:=Nat.div_lt_of_lt_mul (by rw [Nat.mul_comm,← Nat.pow_succ];exact hm)
   have hcv:=conv_one wr d (by omega)
   go_wp2_with (go_at_call 106;refine (figure_any _ _ (by omega) (by omega)).mono ?_;rintro e w1 ⟨rfl,rfl⟩)
   go_roundw
   case rel =>
    refine ⟨f,m / 10,Wd.figB d :: acc,by go_num,congrArg Value.string (cat_list [Wd.figB d] acc),hdiv,by omega,by simp;omega,?_,hb.alloc hbs _⟩
    show _=_
    rw [← hacc.out,hfac.out,hd.out]
   case measure => simp [intOf];omega
  ·
   have hm0:m=0:=by omega
   subst hm0
   have hfin:=hide ((Wd.decA_zero f acc).symm.trans hacc.out)
   go_wp2
   go_ret
   rw [← hfin.out]
   exact ⟨rfl,hb⟩
theorem dec_neg (n:Nat) (w:World) (h0:0 < n) (h1:n≤9223372036854775808) :
  Calls Tryz.prog 74 #[.int .i64 (-(n:Int))] w fun e w' => e=.returned (.string ⟨(45 :: Wd.decA 20 n []).toArray⟩)∧Below w.heap.size w w':=by
 have hz:(-(n:Int) == 0)=false:=by simp;omega
 have hneg:decide (-(n:Int) < 0)=true:=by simp;omega
 have H1:=hide h1
 clear h1
 go_enter Tryz.func74,Tryz.ntmps74
 go_wp2
 go_loopw [0,4] (fun t v wr => ∃ (f m:Nat) (acc:List UInt8),t=.int .i64 (-(m:Int))∧v=.string ⟨acc.toArray⟩∧m < 10 ^ f∧Hid (m≤9223372036854775808)∧acc.length+f=20∧Hid (Wd.decA f m acc=Wd.decA 20 n [])∧Below w.heap.size w wr) (fun t _ _ => (- intOf t).toNat)
 case atStart => exact ⟨20,n,[],rfl,rfl,by have:=H1.out;omega,H1,rfl,rfl,Below.refl _ _⟩
 case round =>
  obtain ⟨f,m,acc,rfl,rfl,hm,HM2,hl,hacc,hb⟩:=hrel
  have hbs:=hb.size
  by_cases hlt:0 < m
  ·
   obtain ⟨f,rfl⟩:∃ g,f=g+1:=by
    cases f with
    | zero => simp at hm;omega
    | succ g => exact ⟨g,rfl⟩
   have hne:(-(m:Int) != 0)=true:=by simp;omega
   obtain ⟨d,hd,hd10,hdi⟩:∃ d:Nat,Hid (m % 10=d)∧d < 10∧(-(m:Int)).tmod 10 = -(d:Int):=⟨_,rfl,by omega,by rw [Int.neg_tmod,Int.tmod_eq_emod_of_nonneg (by omega)];omega⟩
   obtain ⟨q,hq,hqi⟩:∃ q:Nat,Hid (m / 10=q)∧(-(m:Int)).tdiv 10 = -(q:Int):=⟨_,rfl,by rw [Int.neg_tdiv,Int.tdiv_eq_ediv_of_nonneg (by omega)];omega⟩
   have hq2:q≤922337203685477580:=by have:=HM2.out;have:=hq.out;omega
   have hqm:q < m:=by have:=hq.out;omega
   have hfac:=hide (Wd.decA_step f m acc (by omega))
   have hdiv:q < 10 ^ f:=by rw [← hq.out];exact Nat.div_lt_of_lt_mul (by rw [Nat.mul_comm,← Nat.pow_succ];exact hm)
   have hcv:=conv_one wr d (by omega)
   by_cases hd0:0 < d
   ·
    have hdn:decide (-(d:Int) < 0)=true:=by simp;omega
    go_wp2_with (go_at_call 106;refine (figure_any _ _ (by omega) (by omega)).mono ?_;rintro e w1 ⟨rfl,rfl⟩)
    go_roundw
    case rel =>
     refine ⟨f,q,Wd.figB d :: acc,by go_num,congrArg Value.string (cat_list [Wd.figB d] acc),hdiv,by show q≤9223372036854775808;omega,by simp;omega,?_,hb.alloc hbs _⟩
     show _=_
     rw [← hacc.out,hfac.out,hd.out,hq.out]
    case measure => simp [intOf];omega
   ·
    have hd1:d=0:=by omega
    subst hd1
    rw [show ((0:Nat):Int)=0 from rfl] at hcv hdi
    go_wp2_with (go_at_call 106;refine (figure_any _ _ (by omega) (by omega)).mono ?_;rintro e w1 ⟨rfl,rfl⟩)
    go_roundw
    case rel =>
     refine ⟨f,q,Wd.figB 0 :: acc,by go_num,congrArg Value.string (cat_list [Wd.figB 0] acc),hdiv,by show q≤9223372036854775808;omega,by simp;omega,?_,hb.alloc hbs _⟩
     show _=_
     rw [← hacc.out,hfac.out,hd.out,hq.out]
    case measure => simp [intOf];omega
  ·
   have hm0:m=0:=by omega
   subst hm0
   have hfin:=hide ((Wd.decA_zero f acc).symm.trans hacc.out)
   go_wp2
   go_ret
   rw [← hfin.out]
   exact ⟨congrArg (fun x => Ending.returned (Value.string x)) (cat_list [45] acc),hb⟩
theorem decimal_any (n:Int) (w:World) (h0:-9223372036854775808≤n) (h1:n≤9223372036854775807) :
  Calls Tryz.prog 74 #[.int .i64 n] w fun e w' => e=.returned (.string ⟨(Wd.decS n).toArray⟩)∧Below w.heap.size w w':=by
 by_cases hz:n=0
 ·
  subst hz
  exact (dec_zero w).mono fun e w' ⟨he,hw⟩ => ⟨he,hw ▸ Below.refl _ _⟩
 ·
  by_cases hn:n < 0
  ·
   obtain ⟨m,hm⟩:=Int.eq_ofNat_of_zero_le (show 0≤-n by omega)
   have e:n = -(m:Int):=by omega
   subst e
   have es:Wd.decS (-(m:Int))=45 :: Wd.decA 20 m []:=by unfold Wd.decS;rw [if_neg hz,if_pos hn,Int.natAbs_neg,Int.natAbs_natCast]
   rw [es]
   exact dec_neg m w (by omega) (by omega)
  ·
   obtain ⟨m,rfl⟩:=Int.eq_ofNat_of_zero_le (show 0≤n by omega)
   have es:Wd.decS (m:Int)=Wd.decA 20 m []:=by unfold Wd.decS;rw [if_neg hz,if_neg hn,Int.natAbs_natCast]
   rw [es]
   exact dec_pos m w (by omega) (by omega)
end Go.Proofs.YtepdckehokdjlaaGreatDoor
