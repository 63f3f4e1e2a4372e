import Derived.Deep.RegionHeld3
import Derived.Test.YtbenmgokhklnjaaGreatDoorTb4
import Derived.Test.YtbenmgokhklnjaaGreatDoorTb5
import Derived.Test.YtbenmgokhklnjaaGreatDoorTb6
import Derived.Test.YtbenmgokhklnjaaGreatDoorTb0
import Derived.Test.YtbenmgokhklnjaaGreatDoorTb1
import Derived.Test.YtbenmgokhklnjaaGreatDoorTb2
set_option maxRecDepth 100000
set_option maxHeartbeats 800000
namespace Go.Proofs.YtbenmgokhklnjaaGreatDoor
open Go.RowKit
theorem headOk_any (n f:Int) (b:Bool) (w:World) (h:decide (0≤n∧n≤99∧0≤f∧f≤n)=b):Calls Tryz.prog 209 #[.int .i64 n,.int .i64 f] w fun e w' => e=.returned (.bool b)∧w' = w:=by
 by_cases h0:0≤n∧n≤99
 ·
  have hb:(decide (0≤n) && decide (n≤99))=true:=by simp;omega
  by_cases h1:0≤f
  ·
   have h1':decide (0≤f)=true:=by simp;omega
   have hr:decide (f≤n)=b:=by rw [← h];apply decide_eq_decide.2;omega
   go_enter Tryz.func209,Tryz.ntmps209
   go_wp2_with (first | (go_at_call 170;refine (right_any _ _ _ hb).mono ?_;rintro e w' ⟨rfl,rfl⟩))
   go_ret
   exact ⟨rfl,rfl⟩
  ·
   have h1':decide (0≤f)=false:=by simp;omega
   have hr:b=false:=by rw [← h];simp;omega
   subst hr
   go_enter Tryz.func209,Tryz.ntmps209
   go_wp2_with (first | (go_at_call 170;refine (right_any _ _ _ hb).mono ?_;rintro e w' ⟨rfl,rfl⟩))
   go_ret
   exact ⟨rfl,rfl⟩
 ·
  have hb:(decide (0≤n) && decide (n≤99))=false:=by simp;omega
  have hr:b=false:=by rw [← h];simp;omega
  subst hr
  go_enter Tryz.func209,Tryz.ntmps209
  go_wp2_with (first | (go_at_call 170;refine (right_any _ _ _ hb).mono ?_;rintro e w' ⟨rfl,rfl⟩))
  go_ret
  exact ⟨rfl,rfl⟩
def headT (n f:Int):ByteArray:=if 0≤n∧n≤99∧0≤f∧f≤n then frameB ⟨(headL n.toNat f.toNat).toArray⟩ else ⟨#[]⟩
theorem headT_in (n f:Nat) (h:n≤99) (h':f≤n):headT n f=frameB ⟨(headL n f).toArray⟩:=by
 unfold headT
 rw [if_pos (by omega),Int.toNat_natCast,Int.toNat_natCast]
theorem headT_out (n f:Int) (h:¬ (0≤n∧n≤99∧0≤f∧f≤n)):headT n f=⟨#[]⟩:=by unfold headT;rw [if_neg h]
theorem headL_size (n f:Nat):(⟨(headL n f).toArray⟩:ByteArray).size=1+(Wd.varF 5 n).length+(Wd.varF 5 f).length:=by
 show (headL n f).length=_
 unfold headL
 rw [List.length_append,List.length_append]
 rfl
theorem headL_cat (n f:Nat):(⟨#[72]⟩:ByteArray) ++ ⟨(Wd.varF 5 n).toArray⟩ ++ ⟨(Wd.varF 5 f).toArray⟩=⟨(headL n f).toArray⟩:=by
 apply ByteArray.ext
 apply Array.toList_inj.1
 simp [headL]
theorem hasPrefix_any (s:ByteArray) (b:Bool) (w:World) (h:decide (s.extract 0 1=⟨#[72]⟩)=b):Calls Tryz.prog 208 #[.string s,.string ⟨#[72]⟩] w fun e w' => e=.returned (.bool b)∧w' = w:=by
 have S:∀ W:World,Calls Tryz.prog 217 #[.string s,.string ⟨#[72]⟩] W fun e w' => e=.returned (.bool b)∧w' = W:=by
  intro W
  by_cases hs:1≤s.size
  ·
   have hs':decide ((1:Int)≤(s.size:Int))=true:=by simp;omega
   obtain ⟨R,hR⟩:∃ R,s.extract 0 1=R:=⟨_,rfl⟩
   rw [hR] at h
   have hcut:∀ W:World,(Instr.slice 9 (.string s) none (some (.int .i64 1)) none).run Tryz.prog W=.ok (.string R) W:=by
    intro W
    subst hR
    rw [run_slice_string_to_if W 9 s .i64 1 Tryz.underlying9,if_pos (by omega)]
    rfl
   have heq:(R.toList == (⟨#[72]⟩:ByteArray).toList)=b:=by
    rw [← h]
    by_cases e:R=⟨#[72]⟩
    · rw [txt_eq e,decide_eq_true e]
    · rw [txt_ne e,decide_eq_false e]
   have heq':(R.toList == [72])=b:=by rw [← heq,ByteArray.toList_eq (⟨#[72]⟩:ByteArray)]
   clear hR heq
   go_enter Tryz.func217,Tryz.ntmps217
   go_wp2
   go_ret
   exact ⟨rfl,rfl⟩
  ·
   have hs':decide ((1:Int)≤(s.size:Int))=false:=by simp;omega
   have hb:b=false:=by
    rw [← h]
    apply decide_eq_false
    intro e
    have:=congrArg ByteArray.size e
    rw [ByteArray.size_extract] at this
    have e2:(⟨#[72]⟩:ByteArray).size=1:=rfl
    omega
   subst hb
   go_enter Tryz.func217,Tryz.ntmps217
   go_wp2
   go_ret
   exact ⟨rfl,rfl⟩
 go_enter Tryz.func208,Tryz.ntmps208
 go_wp2_with (go_at_call 217;refine (S _).mono ?_;rintro e w' ⟨rfl,rfl⟩)
 go_ret
 exact ⟨rfl,rfl⟩
def hdAns (o:Option Nat):Value:=.tuple #[.int .i64 ((o.getD 0:Nat):Int),.bool o.isSome]
theorem headFrom_any (n:Int) (t:ByteArray) (w:World) (ht:t.size≤1048576):Calls Tryz.prog 193 #[.int .i64 n,.string t] w fun e w' => e=.returned (hdAns (hdFrom n t))∧w' = w:=by
 by_cases h72:t.extract 0 1=⟨#[72]⟩
 ·
  have hp:=decide_eq_true h72
  have hz1:1≤t.size:=by
   have:=congrArg ByteArray.size h72
   rw [ByteArray.size_extract] at this
   have e2:(⟨#[72]⟩:ByteArray).size=1:=rfl
   omega
  cases hr:Wd.rv t 1 with
  | none =>
   have hE:=hide (hd_none_num (n:=n) hr)
   have hread:=hide (fun W => implRead_none t 1 W (by omega) (by unfold Wd.rvI;rw [if_neg (by omega)];exact hr))
   clear hr
   rw [hE.out]
   go_enter Tryz.func193,Tryz.ntmps193
   go_wp2_with (first | (go_at_call 208;refine (hasPrefix_any t _ _ hp).mono ?_;rintro e w' ⟨rfl,rfl⟩) | (go_at_call 67;refine (hread.out _).mono ?_;rintro e w' ⟨rfl,rfl⟩))
   go_ret2
   exact ⟨rfl,rfl⟩
  | some q =>
   obtain ⟨a,p⟩:=q
   have hb:=Wd.rv_bounds t 1 a p hr
   have hread:=hide (fun W => implRead_some t 1 W a p (by omega) (by unfold Wd.rvI;rw [if_neg (by omega)];exact hr))
   by_cases hne:(a:Int)=n
   ·
    have hne':((a:Int) != n)=false:=by rw [bne_eq_false_iff_eq];exact hne
    cases hr2:Wd.rv t p with
    | none =>
     have hE:=hide (hd_none_next (n:=n) hr (fun f hf => by rw [hr2] at hf;simp at hf))
     have hread2:=hide (fun W => implRead_none t (p:Int) W (by omega) (by unfold Wd.rvI;rw [if_neg (by omega),Int.toNat_natCast];exact hr2))
     clear hr hr2
     rw [hE.out]
     go_enter Tryz.func193,Tryz.ntmps193
     go_wp2_with fail
     refine (hasPrefix_any t _ _ hp).mono ?_
     rintro e w' ⟨rfl,rfl⟩
     go_wp2_with fail
     refine (hread.out _).mono ?_
     rintro e w' ⟨rfl,rfl⟩
     go_wp2_with fail
     refine (hread2.out _).mono ?_
     rintro e w' ⟨rfl,rfl⟩
     go_wp2
     go_ret2
     exact ⟨rfl,rfl⟩
    | some q =>
     obtain ⟨f,q⟩:=q
     have hb2:=Wd.rv_bounds t p f q hr2
     have hread2:=hide (fun W => implRead_some t (p:Int) W f q (by omega) (by unfold Wd.rvI;rw [if_neg (by omega),Int.toNat_natCast];exact hr2))
     by_cases hq:q=t.size
     ·
      have hq':((q:Int) != (t.size:Int))=false:=by rw [bne_eq_false_iff_eq];omega
      by_cases hh:0≤n∧n≤99∧0≤(f:Int)∧(f:Int)≤n
      ·
       have hd:=decide_eq_true hh
       have hE:=hide (hd_some h72 hr hne hr2 hq hh.1 hh.2.1 hh.2.2.2)
       clear hr hr2 hne hq
       rw [hE.out]
       go_enter Tryz.func193,Tryz.ntmps193
       go_wp2_with fail
       refine (hasPrefix_any t _ _ hp).mono ?_
       rintro e w' ⟨rfl,rfl⟩
       go_wp2_with fail
       refine (hread.out _).mono ?_
       rintro e w' ⟨rfl,rfl⟩
       go_wp2_with fail
       refine (hread2.out _).mono ?_
       rintro e w' ⟨rfl,rfl⟩
       go_wp2_with fail
       refine (headOk_any _ _ _ _ hd).mono ?_
       rintro e w0 ⟨rfl,rfl⟩
       go_wp2
       go_ret2
       exact ⟨rfl,rfl⟩
      ·
       have hd:=decide_eq_false hh
       have hE:=hide (hd_none_next (n:=n) hr (fun g hg => by rw [hr2] at hg;simp only [Option.some.injEq,Prod.mk.injEq] at hg;omega))
       clear hr hr2 hne hq
       rw [hE.out]
       go_enter Tryz.func193,Tryz.ntmps193
       go_wp2_with fail
       refine (hasPrefix_any t _ _ hp).mono ?_
       rintro e w' ⟨rfl,rfl⟩
       go_wp2_with fail
       refine (hread.out _).mono ?_
       rintro e w' ⟨rfl,rfl⟩
       go_wp2_with fail
       refine (hread2.out _).mono ?_
       rintro e w' ⟨rfl,rfl⟩
       go_wp2_with fail
       refine (headOk_any _ _ _ _ hd).mono ?_
       rintro e w0 ⟨rfl,rfl⟩
       go_wp2
       go_ret2
       exact ⟨rfl,rfl⟩
     ·
      have hq':((q:Int) != (t.size:Int))=true:=by rw [bne_iff_ne];omega
      have hE:=hide (hd_none_next (n:=n) hr (fun g hg => by rw [hr2] at hg;simp only [Option.some.injEq,Prod.mk.injEq] at hg;omega))
      clear hr hr2 hne hq
      rw [hE.out]
      go_enter Tryz.func193,Tryz.ntmps193
      go_wp2_with fail
      refine (hasPrefix_any t _ _ hp).mono ?_
      rintro e w' ⟨rfl,rfl⟩
      go_wp2_with fail
      refine (hread.out _).mono ?_
      rintro e w' ⟨rfl,rfl⟩
      go_wp2_with fail
      refine (hread2.out _).mono ?_
      rintro e w' ⟨rfl,rfl⟩
      go_wp2
      go_ret2
      exact ⟨rfl,rfl⟩
   ·
    have hne':((a:Int) != n)=true:=by rw [bne_iff_ne];exact hne
    have hE:=hide (hd_none_other hr hne)
    clear hr hne
    rw [hE.out]
    go_enter Tryz.func193,Tryz.ntmps193
    go_wp2_with (first | (go_at_call 208;refine (hasPrefix_any t _ _ hp).mono ?_;rintro e w' ⟨rfl,rfl⟩) | (go_at_call 67;refine (hread.out _).mono ?_;rintro e w' ⟨rfl,rfl⟩))
    go_ret2
    exact ⟨rfl,rfl⟩
 ·
  have hp:=decide_eq_false h72
  have hE:=hide (hd_none_72 (n:=n) h72)
  rw [hE.out]
  go_enter Tryz.func193,Tryz.ntmps193
  go_wp2_with (first | (go_at_call 208;refine (hasPrefix_any t _ _ hp).mono ?_;rintro e w' ⟨rfl,rfl⟩))
  go_ret2
  exact ⟨rfl,rfl⟩
theorem headFrom_none {n:Int} {t:ByteArray} (h:hdFrom n t=none) (w:World) (ht:t.size≤1048576):Calls Tryz.prog 193 #[.int .i64 n,.string t] w fun e w' => e=.returned (.tuple #[.int .i64 0,.bool false])∧w' = w:=by
 have:=headFrom_any n t w ht
 rw [h] at this
 exact this
theorem headFrom_some {n:Int} {t:ByteArray} {f:Nat} (h:hdFrom n t=some f) (w:World) (ht:t.size≤1048576):Calls Tryz.prog 193 #[.int .i64 n,.string t] w fun e w' => e=.returned (.tuple #[.int .i64 (f:Int),.bool true])∧w' = w:=by
 have:=headFrom_any n t w ht
 rw [h] at this
 exact this
def hdOf (n:Int) (s:ByteArray):Option (Nat × Nat) :=
 match unf s with
 | [] => none
 | x :: _ => (hdFrom n (s.extract x.1 x.2)).map (fun f => (f,x.2))
def hdOfAns:Option (Nat × Nat)→Value
 | none => .tuple #[.int .i64 0,.int .i64 0,.bool false]
 | some (f,p) => .tuple #[.int .i64 (f:Int),.int .i64 (p:Int),.bool true]
theorem readHead_any (n:Int) (s:ByteArray) (w:World) (hs:s.size≤1048576) (hT:SumTab w):Calls Tryz.prog 182 #[.int .i64 n,.string s] w fun e w' => e=.returned (hdOfAns (hdOf n s))∧Below w.heap.size w w':=by
 have HT:=hide hT
 clear hT
 by_cases hl:s.size≤20000
 ·
  have hl':decide ((20000:Int) < (s.size:Int))=false:=by simp;omega
  cases hf:frB s 0 with
  | none =>
   have hE:Hid (hdOf n s=none):=by
    show _=_
    unfold hdOf unf
    rw [if_pos hl,frs_none s _ 0 hf]
   have hcall:=hide (fun W hW => frameAt_none s 0 W hl (Nat.zero_le _) hf hW)
   clear hf
   rw [hE.out]
   go_enter Tryz.func182,Tryz.ntmps182
   go_wp2_with (first | (go_at_call 133;refine (hcall.out _ HT.out).mono ?_;rintro e w1 ⟨rfl,b1⟩))
   go_ret3
   exact ⟨rfl,b1⟩
  | some x =>
   have hb:=frB_bounds s 0 x hf
   have hcall:=hide (fun W hW => frameAt_some s 0 x W hl (Nat.zero_le _) hf hW)
   obtain ⟨R,hR⟩:∃ R,s.extract x.1 x.2=R:=⟨_,rfl⟩
   have hRz:R.size≤1048576:=by rw [← hR,ByteArray.size_extract];omega
   have hE:Hid (hdOf n s=(hdFrom n R).map (fun f => (f,x.2))):=by
    show _=_
    unfold hdOf unf
    rw [if_pos hl,frs_some s _ 0 x hf,← hR]
   rw [hR] at hcall
   clear hf hR
   cases hd:hdFrom n R with
   | none =>
    have hH:=hide (fun W => headFrom_none hd W hRz)
    rw [hd] at hE
    rw [hE.out]
    clear hd
    go_enter Tryz.func182,Tryz.ntmps182
    go_wp2_with (first | (go_at_call 133;refine (hcall.out _ HT.out).mono ?_;rintro e w1 ⟨rfl,b1⟩) | (go_at_call 193;refine (hH.out _).mono ?_;rintro e w2 ⟨rfl,rfl⟩))
    go_ret3
    exact ⟨rfl,b1⟩
   | some f =>
    have hH:=hide (fun W => headFrom_some hd W hRz)
    rw [hd] at hE
    rw [hE.out]
    clear hd
    go_enter Tryz.func182,Tryz.ntmps182
    go_wp2_with (first | (go_at_call 133;refine (hcall.out _ HT.out).mono ?_;rintro e w1 ⟨rfl,b1⟩) | (go_at_call 193;refine (hH.out _).mono ?_;rintro e w2 ⟨rfl,rfl⟩))
    go_ret3
    exact ⟨rfl,b1⟩
 ·
  have hl':decide ((20000:Int) < (s.size:Int))=true:=by simp;omega
  have hE:Hid (hdOf n s=none):=by
   show _=_
   unfold hdOf unf
   rw [if_neg hl]
  rw [hE.out]
  go_enter Tryz.func182,Tryz.ntmps182
  go_wp2
  go_ret3
  exact ⟨rfl,Below.refl _ _⟩
theorem specMore_any (q0:Nat) (s:ByteArray) (w:World) (hq0:q0 < 4294967296) (hl:s.size≤2097152) :
  Calls Tryz.prog 168 #[.int .u32 q0,.string s] w fun e w' => e=.returned (.int .u32 (sumB q0 s:Nat))∧w' = w:=by
 go_enter Tryz.func168,Tryz.ntmps168
 go_wp2
 go_loop [0,5] (fun t u => ∃ (k q:Nat),t=.int .u32 q∧u=.int .i64 k∧k≤s.size∧q < 4294967296∧Hid (sumFrom q s k=sumB q0 s)) (fun _ u => s.size - (intOf u).toNat)
 case atStart => exact ⟨0,q0,rfl,rfl,by omega,hq0,rfl⟩
 case round =>
  obtain ⟨k,q,rfl,rfl,hk,hq,hrest⟩:=hrel
  by_cases hlt:k < s.size
  ·
   have hlt':decide ((k:Int) < (s.size:Int))=true:=by simp;omega
   have HS:=hide (sumFrom_step q s k hlt)
   obtain ⟨b,hbt,hb256⟩:∃ b:Nat,(s[k]'hlt).toNat=b∧b < 256:=⟨_,rfl,byte_lt _⟩
   rw [hbt] at HS
   have hx0:=u32_xor_nat q b hq (by omega)
   have hx1:=xor_lt32 hq (show b < 4294967296 by omega)
   have HX:Hid (sb q b=hvN 8 (q ^^^ b)):=rfl
   have hq':=sb_lt hq hb256
   generalize q ^^^ b=x at hx0 hx1 HX
   go_wp2
   go_loop [0,6] (fun t u => ∃ (j y:Nat),t=.int .u32 y∧u=.int .i64 j∧j≤8∧y < 4294967296∧Hid (hvN (8 - j) y=hvN 8 x)) (fun _ u => 8 - (intOf u).toNat)
   case atStart => exact ⟨0,x,rfl,rfl,by omega,hx1,rfl⟩
   case round =>
    obtain ⟨j,y,rfl,rfl,hj,hy,HY⟩:=hrel
    by_cases hj8:j < 8
    ·
     have hj8':decide ((j:Int) < 8)=true:=by simp;omega
     have HN:Hid (hvN (8 - (j+1)) (hv y)=hvN 8 x):=by
      show _=_
      rw [← HY.out,show 8 - j=(8 - (j+1))+1 by omega];rfl
     have hy':=hv_lt hy
     by_cases hodd:y % 2=1
     ·
      have ho:decide ((y:Int) % 2=1)=true:=by simp;omega
      have ho2:((y:Int) % 2 == 1)=true:=by simp;omega
      have hz:=u32_xor_nat (y / 2) 3558460437 (by omega) (by decide)
      have hv1:y / 2 ^^^ 3558460437=hv y:=by unfold hv;rw [if_pos hodd]
      rw [hv1,show ((y / 2:Nat):Int)=(y:Int) / 2 by omega] at hz
      have hz:bits .xor .u32 ((y:Int) / 2) 3558460437=(hv y:Int):=hz
      clear hv1
      generalize hv y=z at HN hy' hz
      go_wp2
      go_round
      case rel => exact ⟨j+1,z,rfl,by go_num,by omega,hy',HN⟩
      case measure => simp [intOf];omega
     ·
      have ho:decide ((y:Int) % 2=1)=false:=by simp;omega
      have ho2:((y:Int) % 2 == 1)=false:=by simp;omega
      have hv1:hv y=y / 2:=by unfold hv;rw [if_neg hodd]
      rw [hv1] at HN hy'
      clear hv1
      go_wp2
      go_round
      case rel => exact ⟨j+1,y / 2,by go_num,by go_num,by omega,hy',HN⟩
      case measure => simp [intOf];omega
    ·
     have hj8':decide ((j:Int) < 8)=false:=by simp;omega
     have HN:Hid (y=sb q b):=by
      show _=_
      rw [HX.out,← HY.out,show 8 - j=0 by omega];rfl
     go_wp2
     go_round
     case rel =>
      refine ⟨k+1,sb q b,by rw [HN.out],by go_num,by omega,hq',?_⟩
      show _=_
      rw [← hrest.out,HS.out]
     case measure => simp [intOf];omega
  ·
   have hlt':decide ((k:Int) < (s.size:Int))=false:=by simp;omega
   have HF:Hid (sumB q0 s=q):=by show _=_;rw [← hrest.out,sumFrom_end _ _ _ (by omega)]
   go_wp2
   go_ret
   rw [HF.out]
   exact ⟨rfl,rfl⟩
theorem specFour_any (s:Nat) (w:World) (hs:s < 4294967296) :
  Calls Tryz.prog 141 #[.int .u32 s] w fun e w' => e=.returned (.string ⟨(four s).toArray⟩)∧Below w.heap.size w w':=by
 obtain ⟨b3,h3,e3⟩:=byte_of_div s 16777216
 obtain ⟨b2,h2,e2⟩:=byte_of_div s 65536
 obtain ⟨b1,h1,e1⟩:=byte_of_div s 256
 obtain ⟨b0,h0,e0⟩:=byte_of_div s 1
 have H4:Hid (four s=[b3,b2,b1,b0]):=by show _=_;rw [← h3,← h2,← h1,← h0,Nat.div_one];rfl
 have e3:(s:Int) / 16777216=(b3.toNat:Int):=by have:=e3;omega
 have e2:(s:Int) / 65536 % 256=(b2.toNat:Int):=e2
 have e1:(s:Int) / 256 % 256=(b1.toNat:Int):=e1
 have e0:(s:Int) % 256=(b0.toNat:Int):=by have:=e0;omega
 clear h3 h2 h1 h0
 have hcv:=conv_own (P:=Tryz.prog) 100 5 9 Tryz.underlying100 Tryz.underlying5 Tryz.underlying9 _ _ _ [b3,b2,b1,b0] (four_cells w b3 b2 b1 b0 5)
 go_enter Tryz.func141,Tryz.ntmps141
 go_wp2
 go_ret
 rw [H4.out]
 exact ⟨rfl,(Below.refl _ w).alloc (Nat.le_refl _) _⟩
theorem specOf_any (s:ByteArray) (w:World) (hl:s.size≤2097152) :
  Calls Tryz.prog 142 #[.string s] w fun e w' => e=.returned (.int .u32 (sumB 4294967295 s:Nat))∧w' = w:=by
 go_enter Tryz.func142,Tryz.ntmps142
 go_wp2_with (go_at_call 168;refine (specMore_any 4294967295 s _ (by decide) hl).mono ?_;rintro e w' ⟨rfl,rfl⟩)
 go_ret
 exact ⟨rfl,rfl⟩
theorem specFrame_yes (t:ByteArray) (w:World) (h1:1≤t.size) (h2:t.size≤9000) :
  Calls Tryz.prog 108 #[.string t] w fun e w' => e=.returned (.tuple #[.string (frameB t),.bool true])∧Below w.heap.size w w':=by
 have HE:Hid (frameB t=⟨(Wd.varF 5 t.size).toArray⟩ ++ ⟨(four (sumB 4294967295 t)).toArray⟩ ++ t):=rfl
 have hlt:=sumB_lt t
 have h4:(four (sumB 4294967295 t)).length=4:=rfl
 have hv:=Wd.varF_len 5 t.size
 go_enter Tryz.func108,Tryz.ntmps108
 go_wp2_with (first | (go_at_call 39;refine (l01In_yes _ _ _ _ (by omega) (by omega)).mono ?_;rintro e w0 ⟨rfl,rfl⟩) | (go_at_call 59;refine (l01Var_any t.size _ (by omega)).mono ?_;rintro e w1 ⟨rfl,b1⟩) | (go_at_call 142;refine (specOf_any t _ (by omega)).mono ?_;rintro e w2 ⟨rfl,rfl⟩) | (go_at_call 141;refine (specFour_any _ _ hlt).mono ?_;rintro e w3 ⟨rfl,b3⟩))
 go_ret2
 rw [HE.out]
 exact ⟨rfl,b1.trans (b3.mono b1.size)⟩
theorem specFrame_no (t:ByteArray) (w:World) (h:t.size < 1 ∨ 9000 < t.size) :
  Calls Tryz.prog 108 #[.string t] w fun e w' => e=.returned (.tuple #[.string ⟨#[]⟩,.bool false])∧w' = w:=by
 go_enter Tryz.func108,Tryz.ntmps108
 go_wp2_with (first | (go_at_call 39;refine (l01In_no _ _ _ _ (by omega)).mono ?_;rintro e w0 ⟨rfl,rfl⟩))
 go_ret2
 exact ⟨rfl,rfl⟩
theorem specHeadText_any (n f:Int) (w:World):Calls Tryz.prog 104 #[.int .i64 n,.int .i64 f] w fun e w' => e=.returned (.tuple #[.string (headT n f),.bool (decide (0≤n∧n≤99∧0≤f∧f≤n))])∧Below w.heap.size w w':=by
 by_cases h:0≤n∧n≤99∧0≤f∧f≤n
 ·
  have hd:decide (0≤n∧n≤99∧0≤f∧f≤n)=true:=decide_eq_true h
  rw [hd]
  obtain ⟨n,rfl⟩:=Int.eq_ofNat_of_zero_le h.1
  obtain ⟨f,rfl⟩:=Int.eq_ofNat_of_zero_le h.2.2.1
  have hE:=hide (headT_in n f (by omega) (by omega))
  have hC:=hide (headL_cat n f)
  have v1:=Wd.varF_len 5 n
  have v2:=Wd.varF_len 5 f
  have hz:=headL_size n f
  have hF:=hide (fun W => specFrame_yes ⟨(headL n f).toArray⟩ W (by omega) (by omega))
  clear hz
  go_enter Tryz.func104,Tryz.ntmps104
  go_wp2_with fail
  refine (l01In_yes _ _ _ _ (by omega) (by omega)).mono ?_
  rintro e w0 ⟨rfl,rfl⟩
  go_wp2_with fail
  refine (l01In_yes _ _ _ _ (by omega) (by omega)).mono ?_
  rintro e w0 ⟨rfl,rfl⟩
  go_wp2_with fail
  refine (l01Var_any n _ (by omega)).mono ?_
  rintro e w1 ⟨rfl,b1⟩
  go_wp2_with fail
  refine (l01Var_any f _ (by omega)).mono ?_
  rintro e w2 ⟨rfl,b2⟩
  go_wp2_with fail
  rw [hC.out]
  refine (hF.out _).mono ?_
  rintro e w3 ⟨rfl,b3⟩
  go_wp2
  go_ret2
  rw [hE.out]
  have b12:=b1.trans (b2.mono b1.size)
  exact ⟨rfl,b12.trans (b3.mono b12.size)⟩
 ·
  have hd:decide (0≤n∧n≤99∧0≤f∧f≤n)=false:=decide_eq_false h
  rw [hd]
  have hE:=hide (headT_out n f h)
  by_cases hn:0≤n∧n≤99
  ·
   go_enter Tryz.func104,Tryz.ntmps104
   go_wp2_with fail
   refine (l01In_yes _ _ _ _ (by omega) (by omega)).mono ?_
   rintro e w0 ⟨rfl,rfl⟩
   go_wp2_with fail
   refine (l01In_no _ _ _ _ (by omega)).mono ?_
   rintro e w0 ⟨rfl,rfl⟩
   go_wp2
   go_ret2
   rw [hE.out]
   exact ⟨rfl,Below.refl _ _⟩
  ·
   go_enter Tryz.func104,Tryz.ntmps104
   go_wp2_with fail
   refine (l01In_no _ _ _ _ (by omega)).mono ?_
   rintro e w0 ⟨rfl,rfl⟩
   go_wp2
   go_ret2
   rw [hE.out]
   exact ⟨rfl,Below.refl _ _⟩
theorem l06Head_any (n:Nat) (t:ByteArray) (w:World) (hn:n≤99) (ht:t.size≤1048576):Calls Tryz.prog 136 #[.int .i64 n,.string t] w fun e w' => e=.returned (.tuple #[.int .i64 (((hdFrom n t).getD 0:Nat):Int),.bool (hdFrom n t).isSome])∧Below w.heap.size w w':=by
 have hl0:=takeC_le (t:=t) (n:=1) (i:=0) false (Nat.zero_le _)
 obtain ⟨x0,X0⟩:∃ x,Hid (takeC t 1 0 false=x):=⟨_,rfl⟩
 have C0:=hide (fun W (hW:CurB W w.heap.size t 0 false) => l05Take_any t w.heap.size 1 0 false W ht (Nat.zero_le _) (by omega) hW)
 rw [X0.out] at C0 hl0
 obtain ⟨s0,i0,b0⟩:=x0
 have hl1:=varC_le b0 hl0.1
 obtain ⟨x1,X1⟩:∃ x,Hid (varC t i0 b0=x):=⟨_,rfl⟩
 have C1:=hide (fun W (hW:CurB W w.heap.size t i0 b0) => l05Var_any t w.heap.size i0 b0 W ht hl0.1 hW)
 rw [X1.out] at C1 hl1
 obtain ⟨a,i1,b1⟩:=x1
 have hl2:=varC_le b1 hl1.1
 obtain ⟨x2,X2⟩:∃ x,Hid (varC t i1 b1=x):=⟨_,rfl⟩
 have C2:=hide (fun W (hW:CurB W w.heap.size t i1 b1) => l05Var_any t w.heap.size i1 b1 W ht hl1.1 hW)
 rw [X2.out] at C2 hl2
 obtain ⟨f,i2,bad⟩:=x2
 simp only at hl0 hl1 hl2
 have HRW:Hid (hdRaw t=(a,f,bad)):=by show _=_;simp only [hdRaw,X0.out,X1.out,X2.out]
 have HY:Hid (bad=false∧a=n∧f≤n∧(⟨(headL n f).toArray⟩:ByteArray)=t→hdFrom n t=some f):=by
  rintro ⟨rfl,rfl,h3,h4⟩
  exact (hdFrom_iff _ _ _).2 ⟨by omega,by omega,by omega,by rw [Int.toNat_natCast];exact h4.symm⟩
 have HN:Hid (¬ (bad=false∧a=n∧f≤n∧(⟨(headL n f).toArray⟩:ByteArray)=t)→hdFrom n t=none):=by
  intro h
  unfold hdFrom
  rw [if_neg]
  unfold hdOk
  rw [HRW.out]
  simp only [Bool.and_eq_true,decide_eq_true_eq,beq_iff_eq]
  rintro ⟨h1,h2,-,h4,h5⟩
  have e2:a=n:=by omega
  subst e2
  exact h ⟨by simpa using h1,rfl,by omega,h5⟩
 have ST:Hid (CurB (w.alloc (.cells #[.string t,.int .i64 0,.bool false] 78)) w.heap.size t 0 false):=heap_alloc_new w _
 have BT:Hid (Below w.heap.size w (w.alloc (.cells #[.string t,.int .i64 0,.bool false] 78))):=(Below.refl _ w).alloc (Nat.le_refl _) _
 go_enter Tryz.func136,Tryz.ntmps136
 go_wp2_with fail
 generalize (w.alloc (.cells #[.string t,.int .i64 0,.bool false] 78))=w0 at ST BT
 refine (C0.out _ ST.out).mono ?_
 rintro e w1 ⟨rfl,c1,g1⟩
 have S1:=hide c1
 have B1:=hide (BT.out.grown g1 BT.out.size (fun k hk => by cases hk;exact Nat.le_refl _))
 clear c1 g1 ST BT
 go_wp2_with fail
 refine (C1.out _ S1.out).mono ?_
 rintro e w2 ⟨rfl,c2,g2⟩
 have S2:=hide c2
 have B2:=hide (B1.out.grown g2 B1.out.size (fun k hk => by cases hk;exact Nat.le_refl _))
 clear c2 g2 S1 B1
 go_wp2_with fail
 refine (C2.out _ S2.out).mono ?_
 rintro e w3 ⟨rfl,c3,g3⟩
 have S3:=hide c3
 have B3:=hide (B2.out.grown g3 B2.out.size (fun k hk => by cases hk;exact Nat.le_refl _))
 clear c3 g3 S2 B2
 clear C0 C1 C2 X0 X1 X2 HRW
 have hcb:=(curB_cells S3.out).2.2
 cases bad with
 | true =>
  have HE:=hide (HN.out (by simp))
  go_wp2_with fail
  go_ret2
  rw [HE.out]
  exact ⟨rfl,B3.out⟩
 | false =>
  by_cases ha:a=n
  ·
   have ha':((a:Int) != (n:Int))=false:=by rw [bne_eq_false_iff_eq];omega
   by_cases hf:f≤n
   ·
    have hC:=hide (headL_cat n f)
    have v1:=Wd.varF_len 5 n
    have v2:=Wd.varF_len 5 f
    go_wp2_with fail
    refine (l01In_yes _ _ _ _ (by omega) (by omega)).mono ?_
    rintro e w4 ⟨rfl,rfl⟩
    go_wp2_with fail
    refine (l01Var_any n _ (by omega)).mono ?_
    rintro e w5 ⟨rfl,b5⟩
    go_wp2_with fail
    refine (l01Var_any f _ (by omega)).mono ?_
    rintro e w6 ⟨rfl,b6⟩
    have B6:=hide ((B3.out.trans (b5.mono B3.out.size)).trans (b6.mono (Nat.le_trans B3.out.size b5.size)))
    clear b5 b6 B3 S3 hcb
    by_cases ht':(⟨(headL n f).toArray⟩:ByteArray)=t
    ·
     have HE:=hide (HY.out ⟨by simp,ha,hf,ht'⟩)
     have heq:=txt_eq ((hC.out).trans ht')
     have heq2:=txt_eq ht'
     clear ht' HN HY
     go_wp2_with fail
     go_ret2
     rw [HE.out]
     exact ⟨rfl,B6.out⟩
    ·
     have HE:=hide (HN.out (fun h => ht' h.2.2.2))
     have heq:=txt_ne (fun e => ht' ((hC.out).symm.trans e))
     have heq2:=txt_ne ht'
     clear ht' HN HY
     go_wp2_with fail
     go_ret2
     rw [HE.out]
     exact ⟨rfl,B6.out⟩
   ·
    have HE:=hide (HN.out (fun h => hf h.2.2.1))
    go_wp2_with fail
    refine (l01In_no _ _ _ _ (by omega)).mono ?_
    rintro e w4 ⟨rfl,rfl⟩
    go_wp2_with fail
    go_ret2
    rw [HE.out]
    exact ⟨rfl,B3.out⟩
  ·
   have ha':((a:Int) != (n:Int))=true:=by rw [bne_iff_ne];omega
   have HE:=hide (HN.out (fun h => ha h.2.1))
   go_wp2_with fail
   go_ret2
   rw [HE.out]
   exact ⟨rfl,B3.out⟩
theorem Tryz.infoBatch:(Tryz.prog.info? 109).map (fun i => (i.zero,i.size,i.bytes))=some (some (.agg #[.int .i64 0,.slice none 0 0]),2,32):=by kernel_rfl
def BatchesAt (w:World) (ao:Option Addr) (bs:List BatchD):Prop:=∀ j (h:j < bs.length),∃ b off:Nat,ao=some ⟨b,off,none⟩∧b < w.heap.size∧w.cell? ⟨b,off+j * 2,none⟩=some (.int .i64 bs[j].seq) ∧
 ∃ a c,w.cell? ⟨b,off+j * 2+1,none⟩=some (.slice a bs[j].chs.length c)∧ChangesAt w a bs[j].chs
theorem batchesAt_keep {w w':World} {ao:Option Addr} {bs:List BatchD} (h:BatchesAt w ao bs) (hb:Below w.heap.size w w'):BatchesAt w' ao bs:=by
 intro j hj
 obtain ⟨b,off,h1,h2,h3,a,c,h4,h5⟩:=h j hj
 exact ⟨b,off,h1,Nat.lt_of_lt_of_le h2 hb.size,(hb.cell (p:=⟨b,off+j * 2,none⟩) h2).trans h3,a,c,(hb.cell (p:=⟨b,off+j * 2+1,none⟩) h2).trans h4,changesAt_keep h5 hb⟩
def KidsIn (w:World) (B g:Nat) (C:Array Value) (bs:List BatchD):Prop :=
 (∀ j (h:j < bs.length),C[j * 2]? = some (.int .i64 bs[j].seq)∧∃ x,C[j * 2+1]? = some x∧RowChange w B x bs[j].chs∧x.ownBlock ≠ some g) ∧
 (∀ (i j:Nat) (x y:Value) (h:Nat),i ≠ j→i < bs.length→j < bs.length→C[i * 2+1]? = some x→C[j * 2+1]? = some y→x.ownBlock=some h→y.ownBlock ≠ some h)
def RowBatch (w:World) (B:Nat) (v:Value) (bs:List BatchD):Prop:=(v=.slice none 0 0∧bs=[]) ∨
 ∃ (g cap:Nat) (C:Array Value),v=.slice (some ⟨g,0,none⟩) bs.length cap∧B≤g∧w.heap[g]? = some (.cells C 109 (0,0))∧bs.length * 2≤C.size∧KidsIn w B g C bs
theorem kidsIn_keep {w w':World} {B g:Nat} {C:Array Value} {bs:List BatchD} (h:KidsIn w B g C bs) (hk:∀ k,B≤k→k < w.heap.size→w'.heap[k]? = w.heap[k]?):KidsIn w' B g C bs:=by
 refine ⟨fun j hj => ?_,h.2⟩
 obtain ⟨h1,x,h2,h3,h4⟩:=h.1 j hj
 exact ⟨h1,x,h2,rowChange_keep h3 (fun k hk' => hk k (rowChange_lt h3 k hk').1 (rowChange_lt h3 k hk').2),h4⟩
theorem rowBatch_keep {w w':World} {B:Nat} {v:Value} {bs:List BatchD} (h:RowBatch w B v bs) (hk:∀ k,B≤k→k < w.heap.size→w'.heap[k]? = w.heap[k]?):RowBatch w' B v bs:=by
 rcases h with h | ⟨g,cap,C,rfl,hB,hC,hs,hI⟩
 · exact .inl h
 · exact .inr ⟨g,cap,C,rfl,hB,(hk g hB (Array.getElem?_eq_some_iff.1 hC).1).trans hC,hs,kidsIn_keep hI hk⟩
theorem rowBatch_below {w w':World} {B:Nat} {v:Value} {bs:List BatchD} (h:RowBatch w B v bs) (hb:Below w.heap.size w w'):RowBatch w' B v bs :=
 rowBatch_keep h (fun k _ hk => hb.block k hk)
theorem rowBatch_at {w:World} {B:Nat} {v:Value} {bs:List BatchD} (h:RowBatch w B v bs):∃ ao cap,v=.slice ao bs.length cap∧BatchesAt w ao bs:=by
 rcases h with ⟨rfl,rfl⟩ | ⟨g,cap,C,rfl,_,hC,_,hI⟩
 · exact ⟨none,0,rfl,fun j hj => absurd hj (by simp)⟩
 ·
  refine ⟨_,cap,rfl,fun j hj => ⟨g,0,rfl,(Array.getElem?_eq_some_iff.1 hC).1,?_,?_⟩⟩
  ·
   rw [Nat.zero_add]
   exact (cell_of_row w g (j * 2) _ _ (0,0) hC).trans (hI.1 j hj).1
  ·
   obtain ⟨-,x,h2,h3,-⟩:=hI.1 j hj
   obtain ⟨a,c,rfl,h5⟩:=rowChange_at h3
   refine ⟨a,c,?_,h5⟩
   rw [Nat.zero_add]
   exact (cell_of_row w g (j * 2+1) _ _ (0,0) hC).trans h2
theorem rowBatch_rows {w:World} {B n c:Nat} {a:Option Addr} {bs:List BatchD} (h:RowBatch w B (.slice a n c) bs):n=bs.length∧BatchesAt w a bs:=by
 obtain ⟨ao,cap,e,hf⟩:=rowBatch_at h
 cases e
 exact ⟨rfl,hf⟩
theorem rowBatch_le {w:World} {B B':Nat} {v:Value} {bs:List BatchD} (h:RowBatch w B v bs) (hB:B'≤B):RowBatch w B' v bs:=by
 rcases h with h | ⟨g,cap,C,h1,h2,h3,h4,h5⟩
 · exact .inl h
 ·
  refine .inr ⟨g,cap,C,h1,by omega,h3,h4,fun j hj => ?_,h5.2⟩
  obtain ⟨k1,x,k2,k3,k4⟩:=h5.1 j hj
  exact ⟨k1,x,k2,rowChange_le k3 hB,k4⟩
def cellsBatch:List BatchD→List Value→List Value
 | b :: r,x :: s => .int .i64 b.seq :: x :: cellsBatch r s
 | _,_ => []
theorem cellsBatch_append:∀ (a:List BatchD) (s:List Value) (b:BatchD) (x:Value),s.length=a.length→cellsBatch (a ++ [b]) (s ++ [x])=cellsBatch a s ++ [.int .i64 b.seq,x]
 | [],[],_,_,_ => rfl
 | [],_ :: _,_,_,h => absurd h (by simp)
 | _ :: _,[],_,_,h => absurd h (by simp)
 | A :: r,y :: s,b,x,h => by simp only [List.cons_append,cellsBatch];rw [cellsBatch_append r s b x (by simpa using h)]
theorem cellsBatch_get:∀ (a:List BatchD) (s:List Value) (j:Nat) (b:BatchD) (x:Value),a[j]? = some b→s[j]? = some x→(cellsBatch a s)[j * 2]? = some (.int .i64 b.seq)∧(cellsBatch a s)[j * 2+1]? = some x
 | [],_,_,_,_,h,_ => absurd h (by simp)
 | _ :: _,[],_,_,_,_,h => absurd h (by simp)
 | A :: r,y :: s,0,b,x,h,h' => by simp at h h';subst h h';simp [cellsBatch]
 | A :: r,y :: s,j+1,b,x,h,h' => by
  have:=cellsBatch_get r s j b x (by simpa using h) (by simpa using h')
  have e:(j+1) * 2=j * 2+2:=by omega
  simp only [cellsBatch,e]
  simpa using this
def BuildB (w:World) (B:Nat) (v:Value) (bs:List BatchD):Prop :=
 ∃ vs:List Value,vs.length=bs.length∧w.ownsRow B 109 2 v bs.length (cellsBatch bs vs)∧(∀ (j:Nat) (x:Value) (b:BatchD),vs[j]? = some x→bs[j]? = some b→RowChange w B x b.chs) ∧
  (∀ (i j:Nat) (x y:Value) (h:Nat),i ≠ j→vs[i]? = some x→vs[j]? = some y→x.ownBlock=some h→y.ownBlock ≠ some h)
theorem buildB_nil (w:World) (B:Nat):BuildB w B (.slice none 0 0) []:=⟨[],rfl,World.ownsRow_nil _ _ _ _,fun j x b h => by simp at h,fun i j x y h _ hx => by simp at hx⟩
theorem buildB_lit (w:World) (B:Nat) (hB:B≤w.heap.size) (t:TypeId) (ht:t=109):BuildB (w.alloc (.cells #[] t)) B (.slice (some ⟨w.heap.size,0,none⟩) 0 0) []:=by
 subst ht
 exact ⟨[],rfl,ownsRow_mono (World.ownsRow_lit w #[] 0 (Nat.le_refl _) (by unfold maxLen;omega) (by simp)) hB,fun j x b h => by simp at h,fun i j x y h _ hx => by simp at hx⟩
theorem owns_block {w:World} {B:Nat} {e:TypeId} {s:Nat} {v:Value} {n:Nat} {xs:List Value} (h:w.ownsRow B e s v n xs) {g:Nat} (hg:v.ownBlock=some g):∃ C,w.heap[g]? = some (.cells C e (0,0)):=by
 rcases h.2 with ⟨rfl,_⟩ | ⟨g',cap,cur,rfl,_,hC,_⟩
 · cases hg
 ·
  obtain rfl:g' = g:=by simpa [Value.ownBlock] using hg
  exact ⟨cur,hC⟩
theorem change_block {w:World} {B:Nat} {x:Value} {fs:List ChangeD} (h:RowChange w B x fs) {g:Nat} (hg:x.ownBlock=some g):∃ C,w.heap[g]? = some (.cells C 55 (0,0)):=by
 rcases h with ⟨rfl,rfl⟩ | ⟨g',cap,C,rfl,_,hC,_⟩
 · cases hg
 ·
  obtain rfl:g' = g:=by simpa [Value.ownBlock] using hg
  exact ⟨C,hC⟩
theorem kid_apart {w:World} {B B':Nat} {v x:Value} {n s:Nat} {xs:List Value} {fs:List ChangeD} (h:w.ownsRow B 109 s v n xs) (hx:RowChange w B' x fs) {g:Nat} (hg:x.ownBlock=some g):v.ownBlock ≠ some g:=by
 intro e
 obtain ⟨C,h1⟩:=owns_block h e
 obtain ⟨C',h2⟩:=change_block hx hg
 rw [h1] at h2
 simp at h2
theorem buildB_below {w w':World} {B:Nat} {v:Value} {bs:List BatchD} (h:BuildB w B v bs) (hb:Below w.heap.size w w'):BuildB w' B v bs:=by
 obtain ⟨vs,h1,h2,h3,h4⟩:=h
 exact ⟨vs,h1,ownsRow_below h2 hb,fun j x b hx hj => rowChange_below (h3 j x b hx hj) hb,h4⟩
theorem buildB_row {w:World} {B:Nat} {v:Value} {bs:List BatchD} (h:BuildB w B v bs):RowBatch w B v bs:=by
 obtain ⟨vs,h1,h2,h3,h4⟩:=h
 rcases h2.2 with ⟨rfl,hn⟩ | ⟨g,cap,cur,rfl,hB,hC,hle,_,hs,ht⟩
 · exact .inl ⟨rfl,List.eq_nil_of_length_eq_zero hn⟩
 ·
  have hget:∀ j (hj:j < bs.length),∃ x,vs[j]? = some x∧cur[j * 2]? = some (.int .i64 bs[j].seq)∧cur[j * 2+1]? = some x:=by
   intro j hj
   obtain ⟨x,hx⟩:∃ x,vs[j]? = some x:=⟨vs[j]'(by omega),List.getElem?_eq_getElem (by omega)⟩
   obtain ⟨k1,k2⟩:=cellsBatch_get bs vs j bs[j] x (List.getElem?_eq_getElem hj) hx
   exact ⟨x,hx,take_getChange ht (by omega) k1,take_getChange ht (by omega) k2⟩
  refine .inr ⟨g,cap,cur,rfl,hB,hC,by omega,fun j hj => ?_,?_⟩
  ·
   obtain ⟨x,hx,k1,k2⟩:=hget j hj
   refine ⟨k1,x,k2,h3 j x _ hx (List.getElem?_eq_getElem hj),fun e => ?_⟩
   exact kid_apart h2 (h3 j x _ hx (List.getElem?_eq_getElem hj)) e rfl
  ·
   intro i j x y h hij hi hj hx hy e
   obtain ⟨x',hx',-,k2⟩:=hget i hi
   obtain ⟨y',hy',-,k2'⟩:=hget j hj
   rw [k2] at hx
   rw [k2'] at hy
   obtain rfl:=Option.some.inj hx
   obtain rfl:=Option.some.inj hy
   exact h4 i j x' y' h hij hx' hy' e
theorem buildB_put {W w':World} {B:Nat} {v v' x:Value} {bs:List BatchD} {b:BatchD} (hx:RowChange W B x b.chs)
  (vs:List Value) (h1:vs.length=bs.length) (h3:∀ (j:Nat) (y:Value) (c:BatchD),vs[j]? = some y→bs[j]? = some c→RowChange W B y c.chs) (h4:∀ (i j:Nat) (y z:Value) (h:Nat),i ≠ j→vs[i]? = some y→vs[j]? = some z→y.ownBlock=some h→z.ownBlock ≠ some h)
  (hnew:∀ g,x.ownBlock=some g→∀ y ∈ vs,y.ownBlock ≠ some g)
  (hown':w'.ownsRow B 109 2 v' (bs ++ [b]).length (cellsBatch bs vs ++ [.int .i64 b.seq,x])) (hkeep:∀ k,v.ownBlock ≠ some k→k < W.heap.size→w'.heap[k]? = W.heap[k]?)
  (hown:W.ownsRow B 109 2 v bs.length (cellsBatch bs vs)):BuildB w' B v' (bs ++ [b]):=by
 have keep:∀ y (fs:List ChangeD),RowChange W B y fs→RowChange w' B y fs:=fun y fs hy => rowChange_keep hy (fun g hg => hkeep g (kid_apart hown hy hg) (rowChange_lt hy g hg).2)
 refine ⟨vs ++ [x],by simp [h1],by rw [cellsBatch_append bs vs b x h1];exact hown',?_,?_⟩
 ·
  intro j y c hy hc
  by_cases hj:j < bs.length
  ·
   rw [List.getElem?_append_left (by omega)] at hy
   rw [List.getElem?_append_left hj] at hc
   exact keep _ _ (h3 j y c hy hc)
  ·
   have hlt:j < (bs ++ [b]).length:=(List.getElem?_eq_some_iff.1 hc).1
   have hje:j=bs.length:=by simp at hlt;omega
   subst hje
   rw [List.getElem?_append_right (by omega)] at hy
   rw [List.getElem?_append_right (Nat.le_refl _)] at hc
   simp [h1] at hy hc
   subst hy hc
   exact keep _ _ hx
 ·
  intro i j y z g hij hy hz hg e
  by_cases hi:i < vs.length
  ·
   rw [List.getElem?_append_left hi] at hy
   by_cases hj:j < vs.length
   ·
    rw [List.getElem?_append_left hj] at hz
    exact h4 i j y z g hij hy hz hg e
   ·
    rw [List.getElem?_append_right (by omega)] at hz
    have hz':=List.mem_of_getElem? hz
    obtain rfl:z=x:=by simpa using hz'
    exact hnew g e y (List.mem_of_getElem? hy) hg
  ·
   rw [List.getElem?_append_right (by omega)] at hy
   have hy':=List.mem_of_getElem? hy
   obtain rfl:y=x:=by simpa using hy'
   by_cases hj:j < vs.length
   ·
    rw [List.getElem?_append_left hj] at hz
    exact hnew g hg z (List.mem_of_getElem? hz) e
   ·
    have hi1:i < (vs ++ [y]).length:=by
     rcases Nat.lt_or_ge i (vs ++ [y]).length with h' | h'
     · exact h'
     · rw [List.getElem?_eq_none (by simp at h' ⊢;omega)] at hy;simp at hy
    have hj1:j < (vs ++ [y]).length:=by
     rcases Nat.lt_or_ge j (vs ++ [y]).length with h' | h'
     · exact h'
     · rw [List.getElem?_eq_none (by simpa using h')] at hz;simp at hz
    simp at hi1 hj1
    omega
end Go.Proofs.YtbenmgokhklnjaaGreatDoor
