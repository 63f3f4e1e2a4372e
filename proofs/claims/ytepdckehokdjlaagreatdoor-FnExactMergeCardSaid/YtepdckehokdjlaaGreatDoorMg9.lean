import Derived.Test.YtepdckehokdjlaaGreatDoorMg1
import Derived.Test.YtepdckehokdjlaaGreatDoorMg8
import Derived.Test.YtepdckehokdjlaaGreatDoorMg4
import Derived.Test.YtepdckehokdjlaaGreatDoorMg5
set_option maxRecDepth 100000
set_option maxHeartbeats 1600000
namespace Go.Proofs.YtepdckehokdjlaaGreatDoor
open Go.RowKit
theorem lenOk_yes (n:Nat) (w:World) (h1:1≤n) (h2:n≤9000) :
  Calls Tryz.prog 156 #[.int .i64 n] w fun e w' => e=.returned (.bool true)∧w' = w:=by
 have h1':decide ((1:Int)≤(n:Int))=true:=by simp;omega
 have h2':decide ((n:Int)≤9000)=true:=by simp;omega
 go_enter Tryz.func156,Tryz.ntmps156
 go_wp2
 go_ret
 exact ⟨rfl,rfl⟩
theorem lenOk_no (n:Nat) (w:World) (h:n < 1 ∨ 9000 < n) :
  Calls Tryz.prog 156 #[.int .i64 n] w fun e w' => e=.returned (.bool false)∧w' = w:=by
 rcases h with h | h
 ·
  have h1':decide ((1:Int)≤(n:Int))=false:=by simp;omega
  go_enter Tryz.func156,Tryz.ntmps156
  go_wp2
  go_ret
  exact ⟨rfl,rfl⟩
 ·
  have h1':decide ((1:Int)≤(n:Int))=true:=by simp;omega
  have h2':decide ((n:Int)≤9000)=false:=by simp;omega
  go_enter Tryz.func156,Tryz.ntmps156
  go_wp2
  go_ret
  exact ⟨rfl,rfl⟩
theorem frame_yes (t:ByteArray) (w:World) (h1:1≤t.size) (h2:t.size≤9000) (hT:SumTab w) :
  Calls Tryz.prog 134 #[.string t] w fun e w' => e=.returned (.tuple #[.string (frameB t),.bool true])∧Below w.heap.size w w':=by
 have HT:=hide hT
 have HE:Hid (frameB t=⟨(Wd.varF 5 t.size).toArray⟩ ++ ⟨(four (sumB 4294967295 t)).toArray⟩ ++ t):=rfl
 have hlt:=sumB_lt t
 have h4:(four (sumB 4294967295 t)).length=4:=rfl
 have hv:=Wd.varF_len 5 t.size
 clear hT
 go_enter Tryz.func134,Tryz.ntmps134
 go_wp2_with (first | (go_at_call 156;refine (lenOk_yes t.size _ h1 h2).mono ?_;rintro e w0 ⟨rfl,rfl⟩) | (go_at_call 133;refine (implVar_yes t.size _ (by omega)).mono ?_;rintro e w1 ⟨rfl,b1⟩) | (go_at_call 157;refine (sumOf_any t _ (by omega) (sumTab_later b1 HT.out)).mono ?_;rintro e w2 ⟨rfl,rfl⟩) | (go_at_call 158;refine (inBytes_any _ _ hlt).mono ?_;rintro e w3 ⟨rfl,b3⟩))
 go_ret2
 rw [HE.out]
 exact ⟨rfl,b1.trans (b3.mono b1.size)⟩
theorem frame_no (t:ByteArray) (w:World) (h:t.size < 1 ∨ 9000 < t.size) :
  Calls Tryz.prog 134 #[.string t] w fun e w' => e=.returned (.tuple #[.string ⟨#[]⟩,.bool false])∧w' = w:=by
 go_enter Tryz.func134,Tryz.ntmps134
 go_wp2_with (first | (go_at_call 156;refine (lenOk_no t.size _ h).mono ?_;rintro e w0 ⟨rfl,rfl⟩))
 go_ret2
 exact ⟨rfl,rfl⟩
theorem rvI_nat (s:ByteArray) (i:Nat) (h:i≤s.size):Wd.rvI s (i:Int)=Wd.rv s i:=by
 unfold Wd.rvI
 rw [if_neg (by omega),Int.toNat_natCast]
theorem frameAt_some (s:ByteArray) (i:Nat) (x:Nat × Nat) (w:World) (hs:s.size≤20000) (hi:i≤s.size) (h:frB s i=some x) (hT:SumTab w) :
  Calls Tryz.prog 199 #[.string s,.int .i64 i] w fun e w' => e=.returned (.tuple #[.string (s.extract x.1 x.2),.int .i64 (x.2:Int),.bool true])∧Below w.heap.size w w':=by
 have HT:=hide hT
 cases hr:Wd.rv s i with
 | none => rw [frB_num s i hr] at h;simp at h
 | some q =>
  obtain ⟨n,p⟩:=q
  have hb:=Wd.rv_bounds s i n p hr
  by_cases hc:1≤n∧n≤9000∧p+4+n≤s.size∧s.extract p (p+4)=⟨(four (sumB 4294967295 (s.extract (p+4) (p+4+n)))).toArray⟩
  ·
   rw [frB_yes s i n p hr hc] at h
   simp only [Option.some.injEq] at h
   subst h
   obtain ⟨c1,c2,c3,c4⟩:=hc
   obtain ⟨R,hR⟩:∃ R,s.extract (p+4) (p+4+n)=R:=⟨_,rfl⟩
   obtain ⟨T,hTx⟩:∃ T,s.extract p (p+4)=T:=⟨_,rfl⟩
   have hRz:R.size≤20000:=by rw [← hR,ByteArray.size_extract];omega
   rw [hTx,hR] at c4
   have hcut1:=cut_at s (p+4) (p+4+n) ((p:Int)+4) ((p:Int)+4+n) R (by omega) (by omega) (by omega) c3 hR
   have hcut2:=cut_at s p (p+4) (p:Int) ((p:Int)+4) T rfl (by omega) (by omega) (by omega) hTx
   have hlt:=sumB_lt R
   have heq:(four (sumB 4294967295 R) == T.toList)=true:=by rw [c4,ByteArray.toList_eq];exact beq_self_eq_true _
   have hread:=hide (fun W => implRead_some s (i:Int) W n p (by omega) (by rw [rvI_nat s i hi];exact hr))
   have HR:=hide hR
   clear hT hr c4 hTx hR
   have hle:decide ((s.size:Int) - (p:Int) - 4 < (n:Int))=false:=by simp;omega
   go_enter Tryz.func199,Tryz.ntmps199
   go_wp2_with (first | (go_at_call 205;refine (hread.out _).mono ?_;rintro e w0 ⟨rfl,rfl⟩) | (go_at_call 156;refine (lenOk_yes n _ c1 c2).mono ?_;rintro e w1 ⟨rfl,rfl⟩))
   go_region_held3 (fun _ => True) (trivial) ((first | (go_at_call 157;refine (sumOf_any R _ (by omega) (by first | exact HT.out | exact sumTab_later ((Below.refl _ _).drew) HT.out)).mono ?_;rintro e w' ⟨rfl,rfl⟩) | (go_at_call 158;refine (inBytes_any _ _ hlt).mono ?_;rintro e w' ⟨rfl,b3⟩)))
   go_wp2
   go_ret3
   rw [HR.out]
   exact ⟨by simp,(Below.refl _ _).drew.trans b3⟩
  · rw [frB_no s i n p hr hc] at h;simp at h
theorem frameAt_none (s:ByteArray) (i:Nat) (w:World) (hs:s.size≤20000) (hi:i≤s.size) (h:frB s i=none) (hT:SumTab w) :
  Calls Tryz.prog 199 #[.string s,.int .i64 i] w fun e w' => e=.returned (.tuple #[.string ⟨#[]⟩,.int .i64 0,.bool false])∧Below w.heap.size w w':=by
 have HT:=hide hT
 clear hT
 cases hr:Wd.rv s i with
 | none =>
  have hread:=hide (fun W => implRead_none s (i:Int) W (by omega) (by rw [rvI_nat s i hi];exact hr))
  clear hr h
  go_enter Tryz.func199,Tryz.ntmps199
  go_wp2_with (first | (go_at_call 205;refine (hread.out _).mono ?_;rintro e w0 ⟨rfl,rfl⟩))
  go_ret3
  exact ⟨rfl,Below.refl _ _⟩
 | some q =>
  obtain ⟨n,p⟩:=q
  have hb:=Wd.rv_bounds s i n p hr
  have hread:=hide (fun W => implRead_some s (i:Int) W n p (by omega) (by rw [rvI_nat s i hi];exact hr))
  by_cases c12:1≤n∧n≤9000
  ·
   by_cases c3:p+4+n≤s.size
   ·
    have c4:¬ s.extract p (p+4)=⟨(four (sumB 4294967295 (s.extract (p+4) (p+4+n)))).toArray⟩:=fun c4 => by
     rw [frB_yes s i n p hr ⟨c12.1,c12.2,c3,c4⟩] at h;simp at h
    obtain ⟨c1,c2⟩:=c12
    obtain ⟨R,hR⟩:∃ R,s.extract (p+4) (p+4+n)=R:=⟨_,rfl⟩
    obtain ⟨T,hTx⟩:∃ T,s.extract p (p+4)=T:=⟨_,rfl⟩
    have hRz:R.size≤20000:=by rw [← hR,ByteArray.size_extract];omega
    rw [hTx,hR] at c4
    have hcut1:=cut_at s (p+4) (p+4+n) ((p:Int)+4) ((p:Int)+4+n) R (by omega) (by omega) (by omega) c3 hR
    have hcut2:=cut_at s p (p+4) (p:Int) ((p:Int)+4) T rfl (by omega) (by omega) (by omega) hTx
    have hlt:=sumB_lt R
    have heq:(four (sumB 4294967295 R) == T.toList)=false:=by
     rw [beq_eq_false_iff_ne,ByteArray.toList_eq]
     intro e
     exact c4 (ByteArray.ext (Array.toList_inj.1 e.symm))
    clear hr c4 hTx hR h
    have hle:decide ((s.size:Int) - (p:Int) - 4 < (n:Int))=false:=by simp;omega
    go_enter Tryz.func199,Tryz.ntmps199
    go_wp2_with (first | (go_at_call 205;refine (hread.out _).mono ?_;rintro e w0 ⟨rfl,rfl⟩) | (go_at_call 156;refine (lenOk_yes n _ c1 c2).mono ?_;rintro e w1 ⟨rfl,rfl⟩))
    go_region_held3 (fun _ => True) (trivial) ((first | (go_at_call 157;refine (sumOf_any R _ (by omega) (by first | exact HT.out | exact sumTab_later ((Below.refl _ _).drew) HT.out)).mono ?_;rintro e w' ⟨rfl,rfl⟩) | (go_at_call 158;refine (inBytes_any _ _ hlt).mono ?_;rintro e w' ⟨rfl,b3⟩)))
    go_wp2
    go_ret3
    exact ⟨rfl,(Below.refl _ _).drew.trans b3⟩
   ·
    obtain ⟨c1,c2⟩:=c12
    have hle:decide ((s.size:Int) - (p:Int) - 4 < (n:Int))=true:=by simp;omega
    clear hr h
    go_enter Tryz.func199,Tryz.ntmps199
    go_wp2_with (first | (go_at_call 205;refine (hread.out _).mono ?_;rintro e w0 ⟨rfl,rfl⟩) | (go_at_call 156;refine (lenOk_yes n _ c1 c2).mono ?_;rintro e w1 ⟨rfl,rfl⟩))
    go_ret3
    exact ⟨rfl,Below.refl _ _⟩
  ·
   have hno:n < 1 ∨ 9000 < n:=by omega
   clear hr h
   go_enter Tryz.func199,Tryz.ntmps199
   go_wp2_with (first | (go_at_call 205;refine (hread.out _).mono ?_;rintro e w0 ⟨rfl,rfl⟩) | (go_at_call 156;refine (lenOk_no n _ hno).mono ?_;rintro e w1 ⟨rfl,rfl⟩))
   go_ret3
   exact ⟨rfl,Below.refl _ _⟩
theorem headOk_any (n f:Int) (b:Bool) (w:World) (h:decide (0≤n∧n≤99∧0≤f∧f≤n)=b):Calls Tryz.prog 132 #[.int .i64 n,.int .i64 f] w fun e w' => e=.returned (.bool b)∧w' = w:=by
 by_cases h0:0≤n∧n≤99
 ·
  have hb:(decide (0≤n) && decide (n≤99))=true:=by simp;omega
  by_cases h1:0≤f
  ·
   have h1':decide (0≤f)=true:=by simp;omega
   have hr:decide (f≤n)=b:=by rw [← h];apply decide_eq_decide.2;omega
   go_enter Tryz.func132,Tryz.ntmps132
   go_wp2_with (first | (go_at_call 155;refine (right_any _ _ _ hb).mono ?_;rintro e w' ⟨rfl,rfl⟩))
   go_ret
   exact ⟨rfl,rfl⟩
  ·
   have h1':decide (0≤f)=false:=by simp;omega
   have hr:b=false:=by rw [← h];simp;omega
   subst hr
   go_enter Tryz.func132,Tryz.ntmps132
   go_wp2_with (first | (go_at_call 155;refine (right_any _ _ _ hb).mono ?_;rintro e w' ⟨rfl,rfl⟩))
   go_ret
   exact ⟨rfl,rfl⟩
 ·
  have hb:(decide (0≤n) && decide (n≤99))=false:=by simp;omega
  have hr:b=false:=by rw [← h];simp;omega
  subst hr
  go_enter Tryz.func132,Tryz.ntmps132
  go_wp2_with (first | (go_at_call 155;refine (right_any _ _ _ hb).mono ?_;rintro e w' ⟨rfl,rfl⟩))
  go_ret
  exact ⟨rfl,rfl⟩
def headT (n f:Int):ByteArray:=if 0≤n∧n≤99∧0≤f∧f≤n then frameB ⟨(headL n.toNat f.toNat).toArray⟩ else ⟨#[]⟩
theorem headT_in (n f:Nat) (h:n≤99) (h':f≤n):headT n f=frameB ⟨(headL n f).toArray⟩:=by
 unfold headT
 rw [if_pos (by omega),Int.toNat_natCast,Int.toNat_natCast]
theorem headT_out (n f:Int) (h:¬ (0≤n∧n≤99∧0≤f∧f≤n)):headT n f=⟨#[]⟩:=by unfold headT;rw [if_neg h]
theorem headL_size (n f:Nat):(⟨(headL n f).toArray⟩:ByteArray).size=1+(Wd.varF 5 n).length+(Wd.varF 5 f).length:=by
 show (headL n f).length=_
 unfold headL
 rw [List.length_append,List.length_append]
 rfl
theorem headL_cat (n f:Nat):(⟨#[72]⟩:ByteArray) ++ ⟨(Wd.varF 5 n).toArray⟩ ++ ⟨(Wd.varF 5 f).toArray⟩=⟨(headL n f).toArray⟩:=by
 apply ByteArray.ext
 apply Array.toList_inj.1
 simp [headL]
theorem implHeadText_any (n f:Int) (w:World) (hT:SumTab w):Calls Tryz.prog 96 #[.int .i64 n,.int .i64 f] w fun e w' => e=.returned (.tuple #[.string (headT n f),.bool (decide (0≤n∧n≤99∧0≤f∧f≤n))])∧Below w.heap.size w w':=by
 have HT:=hide hT
 clear hT
 by_cases h:0≤n∧n≤99∧0≤f∧f≤n
 ·
  have hd:decide (0≤n∧n≤99∧0≤f∧f≤n)=true:=decide_eq_true h
  rw [hd]
  obtain ⟨n,rfl⟩:=Int.eq_ofNat_of_zero_le h.1
  obtain ⟨f,rfl⟩:=Int.eq_ofNat_of_zero_le h.2.2.1
  have hE:=hide (headT_in n f (by omega) (by omega))
  have hC:=hide (headL_cat n f)
  have v1:=Wd.varF_len 5 n
  have v2:=Wd.varF_len 5 f
  have hz:=headL_size n f
  have hF:=hide (fun W hW => frame_yes ⟨(headL n f).toArray⟩ W (by omega) (by omega) hW)
  clear hz
  go_enter Tryz.func96,Tryz.ntmps96
  go_wp2_with fail
  refine (headOk_any _ _ _ _ hd).mono ?_
  rintro e w0 ⟨rfl,rfl⟩
  go_wp2_with fail
  refine (implVar_yes n _ (by omega)).mono ?_
  rintro e w1 ⟨rfl,b1⟩
  go_wp2_with fail
  refine (implVar_yes f _ (by omega)).mono ?_
  rintro e w2 ⟨rfl,b2⟩
  go_wp2_with fail
  rw [hC.out]
  refine (hF.out _ (sumTab_later b2 (sumTab_later b1 HT.out))).mono ?_
  rintro e w3 ⟨rfl,b3⟩
  go_wp2
  go_ret2
  rw [hE.out]
  have b12:=b1.trans (b2.mono b1.size)
  exact ⟨rfl,b12.trans (b3.mono b12.size)⟩
 ·
  have hd:decide (0≤n∧n≤99∧0≤f∧f≤n)=false:=decide_eq_false h
  rw [hd]
  have hE:=hide (headT_out n f h)
  go_enter Tryz.func96,Tryz.ntmps96
  go_wp2_with (first | (go_at_call 132;refine (headOk_any _ _ _ _ hd).mono ?_;rintro e w0 ⟨rfl,rfl⟩))
  go_ret2
  rw [hE.out]
  exact ⟨rfl,Below.refl _ _⟩
theorem hasPrefix_any (s:ByteArray) (b:Bool) (w:World) (h:decide (s.extract 0 1=⟨#[72]⟩)=b):Calls Tryz.prog 206 #[.string s,.string ⟨#[72]⟩] w fun e w' => e=.returned (.bool b)∧w' = w:=by
 have S:∀ W:World,Calls Tryz.prog 214 #[.string s,.string ⟨#[72]⟩] W fun e w' => e=.returned (.bool b)∧w' = W:=by
  intro W
  by_cases hs:1≤s.size
  ·
   have hs':decide ((1:Int)≤(s.size:Int))=true:=by simp;omega
   obtain ⟨R,hR⟩:∃ R,s.extract 0 1=R:=⟨_,rfl⟩
   rw [hR] at h
   have hcut:∀ W:World,(Instr.slice 9 (.string s) none (some (.int .i64 1)) none).run Tryz.prog W=.ok (.string R) W:=by
    intro W
    subst hR
    rw [run_slice_string_to_if W 9 s .i64 1 Tryz.underlying9,if_pos (by omega)]
    rfl
   have heq:(R.toList == (⟨#[72]⟩:ByteArray).toList)=b:=by
    rw [← h]
    by_cases e:R=⟨#[72]⟩
    · rw [txt_eq e,decide_eq_true e]
    · rw [txt_ne e,decide_eq_false e]
   have heq':(R.toList == [72])=b:=by rw [← heq,ByteArray.toList_eq (⟨#[72]⟩:ByteArray)]
   clear hR heq
   go_enter Tryz.func214,Tryz.ntmps214
   go_wp2
   go_ret
   exact ⟨rfl,rfl⟩
  ·
   have hs':decide ((1:Int)≤(s.size:Int))=false:=by simp;omega
   have hb:b=false:=by
    rw [← h]
    apply decide_eq_false
    intro e
    have:=congrArg ByteArray.size e
    rw [ByteArray.size_extract] at this
    have e2:(⟨#[72]⟩:ByteArray).size=1:=rfl
    omega
   subst hb
   go_enter Tryz.func214,Tryz.ntmps214
   go_wp2
   go_ret
   exact ⟨rfl,rfl⟩
 go_enter Tryz.func206,Tryz.ntmps206
 go_wp2_with (go_at_call 214;refine (S _).mono ?_;rintro e w' ⟨rfl,rfl⟩)
 go_ret
 exact ⟨rfl,rfl⟩
def hdAns (o:Option Nat):Value:=.tuple #[.int .i64 ((o.getD 0:Nat):Int),.bool o.isSome]
theorem headFrom_any (n:Int) (t:ByteArray) (w:World) (ht:t.size≤1048576):Calls Tryz.prog 200 #[.int .i64 n,.string t] w fun e w' => e=.returned (hdAns (hdFrom n t))∧w' = w:=by
 by_cases h72:t.extract 0 1=⟨#[72]⟩
 ·
  have hp:=decide_eq_true h72
  have hz1:1≤t.size:=by
   have:=congrArg ByteArray.size h72
   rw [ByteArray.size_extract] at this
   have e2:(⟨#[72]⟩:ByteArray).size=1:=rfl
   omega
  cases hr:Wd.rv t 1 with
  | none =>
   have hE:=hide (hd_none_num (n:=n) hr)
   have hread:=hide (fun W => implRead_none t 1 W (by omega) (by unfold Wd.rvI;rw [if_neg (by omega)];exact hr))
   clear hr
   rw [hE.out]
   go_enter Tryz.func200,Tryz.ntmps200
   go_wp2_with (first | (go_at_call 206;refine (hasPrefix_any t _ _ hp).mono ?_;rintro e w' ⟨rfl,rfl⟩) | (go_at_call 205;refine (hread.out _).mono ?_;rintro e w' ⟨rfl,rfl⟩))
   go_ret2
   exact ⟨rfl,rfl⟩
  | some q =>
   obtain ⟨a,p⟩:=q
   have hb:=Wd.rv_bounds t 1 a p hr
   have hread:=hide (fun W => implRead_some t 1 W a p (by omega) (by unfold Wd.rvI;rw [if_neg (by omega)];exact hr))
   by_cases hne:(a:Int)=n
   ·
    have hne':((a:Int) != n)=false:=by rw [bne_eq_false_iff_eq];exact hne
    cases hr2:Wd.rv t p with
    | none =>
     have hE:=hide (hd_none_next (n:=n) hr (fun f hf => by rw [hr2] at hf;simp at hf))
     have hread2:=hide (fun W => implRead_none t (p:Int) W (by omega) (by unfold Wd.rvI;rw [if_neg (by omega),Int.toNat_natCast];exact hr2))
     clear hr hr2
     rw [hE.out]
     go_enter Tryz.func200,Tryz.ntmps200
     go_wp2_with fail
     refine (hasPrefix_any t _ _ hp).mono ?_
     rintro e w' ⟨rfl,rfl⟩
     go_wp2_with fail
     refine (hread.out _).mono ?_
     rintro e w' ⟨rfl,rfl⟩
     go_wp2_with fail
     refine (hread2.out _).mono ?_
     rintro e w' ⟨rfl,rfl⟩
     go_wp2
     go_ret2
     exact ⟨rfl,rfl⟩
    | some q =>
     obtain ⟨f,q⟩:=q
     have hb2:=Wd.rv_bounds t p f q hr2
     have hread2:=hide (fun W => implRead_some t (p:Int) W f q (by omega) (by unfold Wd.rvI;rw [if_neg (by omega),Int.toNat_natCast];exact hr2))
     by_cases hq:q=t.size
     ·
      have hq':((q:Int) != (t.size:Int))=false:=by rw [bne_eq_false_iff_eq];omega
      by_cases hh:0≤n∧n≤99∧0≤(f:Int)∧(f:Int)≤n
      ·
       have hd:=decide_eq_true hh
       have hE:=hide (hd_some h72 hr hne hr2 hq hh.1 hh.2.1 hh.2.2.2)
       clear hr hr2 hne hq
       rw [hE.out]
       go_enter Tryz.func200,Tryz.ntmps200
       go_wp2_with fail
       refine (hasPrefix_any t _ _ hp).mono ?_
       rintro e w' ⟨rfl,rfl⟩
       go_wp2_with fail
       refine (hread.out _).mono ?_
       rintro e w' ⟨rfl,rfl⟩
       go_wp2_with fail
       refine (hread2.out _).mono ?_
       rintro e w' ⟨rfl,rfl⟩
       go_wp2_with fail
       refine (headOk_any _ _ _ _ hd).mono ?_
       rintro e w0 ⟨rfl,rfl⟩
       go_wp2
       go_ret2
       exact ⟨rfl,rfl⟩
      ·
       have hd:=decide_eq_false hh
       have hE:=hide (hd_none_next (n:=n) hr (fun g hg => by rw [hr2] at hg;simp only [Option.some.injEq,Prod.mk.injEq] at hg;omega))
       clear hr hr2 hne hq
       rw [hE.out]
       go_enter Tryz.func200,Tryz.ntmps200
       go_wp2_with fail
       refine (hasPrefix_any t _ _ hp).mono ?_
       rintro e w' ⟨rfl,rfl⟩
       go_wp2_with fail
       refine (hread.out _).mono ?_
       rintro e w' ⟨rfl,rfl⟩
       go_wp2_with fail
       refine (hread2.out _).mono ?_
       rintro e w' ⟨rfl,rfl⟩
       go_wp2_with fail
       refine (headOk_any _ _ _ _ hd).mono ?_
       rintro e w0 ⟨rfl,rfl⟩
       go_wp2
       go_ret2
       exact ⟨rfl,rfl⟩
     ·
      have hq':((q:Int) != (t.size:Int))=true:=by rw [bne_iff_ne];omega
      have hE:=hide (hd_none_next (n:=n) hr (fun g hg => by rw [hr2] at hg;simp only [Option.some.injEq,Prod.mk.injEq] at hg;omega))
      clear hr hr2 hne hq
      rw [hE.out]
      go_enter Tryz.func200,Tryz.ntmps200
      go_wp2_with fail
      refine (hasPrefix_any t _ _ hp).mono ?_
      rintro e w' ⟨rfl,rfl⟩
      go_wp2_with fail
      refine (hread.out _).mono ?_
      rintro e w' ⟨rfl,rfl⟩
      go_wp2_with fail
      refine (hread2.out _).mono ?_
      rintro e w' ⟨rfl,rfl⟩
      go_wp2
      go_ret2
      exact ⟨rfl,rfl⟩
   ·
    have hne':((a:Int) != n)=true:=by rw [bne_iff_ne];exact hne
    have hE:=hide (hd_none_other hr hne)
    clear hr hne
    rw [hE.out]
    go_enter Tryz.func200,Tryz.ntmps200
    go_wp2_with (first | (go_at_call 206;refine (hasPrefix_any t _ _ hp).mono ?_;rintro e w' ⟨rfl,rfl⟩) | (go_at_call 205;refine (hread.out _).mono ?_;rintro e w' ⟨rfl,rfl⟩))
    go_ret2
    exact ⟨rfl,rfl⟩
 ·
  have hp:=decide_eq_false h72
  have hE:=hide (hd_none_72 (n:=n) h72)
  rw [hE.out]
  go_enter Tryz.func200,Tryz.ntmps200
  go_wp2_with (first | (go_at_call 206;refine (hasPrefix_any t _ _ hp).mono ?_;rintro e w' ⟨rfl,rfl⟩))
  go_ret2
  exact ⟨rfl,rfl⟩
theorem headFrom_none {n:Int} {t:ByteArray} (h:hdFrom n t=none) (w:World) (ht:t.size≤1048576):Calls Tryz.prog 200 #[.int .i64 n,.string t] w fun e w' => e=.returned (.tuple #[.int .i64 0,.bool false])∧w' = w:=by
 have:=headFrom_any n t w ht
 rw [h] at this
 exact this
theorem headFrom_some {n:Int} {t:ByteArray} {f:Nat} (h:hdFrom n t=some f) (w:World) (ht:t.size≤1048576):Calls Tryz.prog 200 #[.int .i64 n,.string t] w fun e w' => e=.returned (.tuple #[.int .i64 (f:Int),.bool true])∧w' = w:=by
 have:=headFrom_any n t w ht
 rw [h] at this
 exact this
def hdOf (n:Int) (s:ByteArray):Option (Nat × Nat) :=
 match unf s with
 | [] => none
 | x :: _ => (hdFrom n (s.extract x.1 x.2)).map (fun f => (f,x.2))
def hdOfAns:Option (Nat × Nat)→Value
 | none => .tuple #[.int .i64 0,.int .i64 0,.bool false]
 | some (f,p) => .tuple #[.int .i64 (f:Int),.int .i64 (p:Int),.bool true]
theorem readHead_any (n:Int) (s:ByteArray) (w:World) (hs:s.size≤1048576) (hT:SumTab w):Calls Tryz.prog 187 #[.int .i64 n,.string s] w fun e w' => e=.returned (hdOfAns (hdOf n s))∧Below w.heap.size w w':=by
 have HT:=hide hT
 clear hT
 by_cases hl:s.size≤20000
 ·
  have hl':decide ((20000:Int) < (s.size:Int))=false:=by simp;omega
  cases hf:frB s 0 with
  | none =>
   have hE:Hid (hdOf n s=none):=by
    show _=_
    unfold hdOf unf
    rw [if_pos hl,frs_none s _ 0 hf]
   have hcall:=hide (fun W hW => frameAt_none s 0 W hl (Nat.zero_le _) hf hW)
   clear hf
   rw [hE.out]
   go_enter Tryz.func187,Tryz.ntmps187
   go_wp2_with (first | (go_at_call 199;refine (hcall.out _ HT.out).mono ?_;rintro e w1 ⟨rfl,b1⟩))
   go_ret3
   exact ⟨rfl,b1⟩
  | some x =>
   have hb:=frB_bounds s 0 x hf
   have hcall:=hide (fun W hW => frameAt_some s 0 x W hl (Nat.zero_le _) hf hW)
   obtain ⟨R,hR⟩:∃ R,s.extract x.1 x.2=R:=⟨_,rfl⟩
   have hRz:R.size≤1048576:=by rw [← hR,ByteArray.size_extract];omega
   have hE:Hid (hdOf n s=(hdFrom n R).map (fun f => (f,x.2))):=by
    show _=_
    unfold hdOf unf
    rw [if_pos hl,frs_some s _ 0 x hf,← hR]
   rw [hR] at hcall
   clear hf hR
   cases hd:hdFrom n R with
   | none =>
    have hH:=hide (fun W => headFrom_none hd W hRz)
    rw [hd] at hE
    rw [hE.out]
    clear hd
    go_enter Tryz.func187,Tryz.ntmps187
    go_wp2_with (first | (go_at_call 199;refine (hcall.out _ HT.out).mono ?_;rintro e w1 ⟨rfl,b1⟩) | (go_at_call 200;refine (hH.out _).mono ?_;rintro e w2 ⟨rfl,rfl⟩))
    go_ret3
    exact ⟨rfl,b1⟩
   | some f =>
    have hH:=hide (fun W => headFrom_some hd W hRz)
    rw [hd] at hE
    rw [hE.out]
    clear hd
    go_enter Tryz.func187,Tryz.ntmps187
    go_wp2_with (first | (go_at_call 199;refine (hcall.out _ HT.out).mono ?_;rintro e w1 ⟨rfl,b1⟩) | (go_at_call 200;refine (hH.out _).mono ?_;rintro e w2 ⟨rfl,rfl⟩))
    go_ret3
    exact ⟨rfl,b1⟩
 ·
  have hl':decide ((20000:Int) < (s.size:Int))=true:=by simp;omega
  have hE:Hid (hdOf n s=none):=by
   show _=_
   unfold hdOf unf
   rw [if_neg hl]
  rw [hE.out]
  go_enter Tryz.func187,Tryz.ntmps187
  go_wp2
  go_ret3
  exact ⟨rfl,Below.refl _ _⟩
theorem specHeadText_any (n f:Int) (w:World):Calls Tryz.prog 36 #[.int .i64 n,.int .i64 f] w fun e w' => e=.returned (.tuple #[.string (headT n f),.bool (decide (0≤n∧n≤99∧0≤f∧f≤n))])∧Below w.heap.size w w':=by
 by_cases h:0≤n∧n≤99∧0≤f∧f≤n
 ·
  have hd:decide (0≤n∧n≤99∧0≤f∧f≤n)=true:=decide_eq_true h
  rw [hd]
  obtain ⟨n,rfl⟩:=Int.eq_ofNat_of_zero_le h.1
  obtain ⟨f,rfl⟩:=Int.eq_ofNat_of_zero_le h.2.2.1
  have hE:=hide (headT_in n f (by omega) (by omega))
  have hC:=hide (headL_cat n f)
  have v1:=Wd.varF_len 5 n
  have v2:=Wd.varF_len 5 f
  have hz:=headL_size n f
  have hF:=hide (fun W => specFrame_yes ⟨(headL n f).toArray⟩ W (by omega) (by omega))
  clear hz
  go_enter Tryz.func36,Tryz.ntmps36
  go_wp2_with fail
  refine (l01In_yes _ _ _ _ (by omega) (by omega)).mono ?_
  rintro e w0 ⟨rfl,rfl⟩
  go_wp2_with fail
  refine (l01In_yes _ _ _ _ (by omega) (by omega)).mono ?_
  rintro e w0 ⟨rfl,rfl⟩
  go_wp2_with fail
  refine (l01Var_any n _ (by omega)).mono ?_
  rintro e w1 ⟨rfl,b1⟩
  go_wp2_with fail
  refine (l01Var_any f _ (by omega)).mono ?_
  rintro e w2 ⟨rfl,b2⟩
  go_wp2_with fail
  rw [hC.out]
  refine (hF.out _).mono ?_
  rintro e w3 ⟨rfl,b3⟩
  go_wp2
  go_ret2
  rw [hE.out]
  have b12:=b1.trans (b2.mono b1.size)
  exact ⟨rfl,b12.trans (b3.mono b12.size)⟩
 ·
  have hd:decide (0≤n∧n≤99∧0≤f∧f≤n)=false:=decide_eq_false h
  rw [hd]
  have hE:=hide (headT_out n f h)
  by_cases hn:0≤n∧n≤99
  ·
   go_enter Tryz.func36,Tryz.ntmps36
   go_wp2_with fail
   refine (l01In_yes _ _ _ _ (by omega) (by omega)).mono ?_
   rintro e w0 ⟨rfl,rfl⟩
   go_wp2_with fail
   refine (l01In_no _ _ _ _ (by omega)).mono ?_
   rintro e w0 ⟨rfl,rfl⟩
   go_wp2
   go_ret2
   rw [hE.out]
   exact ⟨rfl,Below.refl _ _⟩
  ·
   go_enter Tryz.func36,Tryz.ntmps36
   go_wp2_with fail
   refine (l01In_no _ _ _ _ (by omega)).mono ?_
   rintro e w0 ⟨rfl,rfl⟩
   go_wp2
   go_ret2
   rw [hE.out]
   exact ⟨rfl,Below.refl _ _⟩
theorem l06Head_any (n:Nat) (t:ByteArray) (w:World) (hn:n≤99) (ht:t.size≤1048576):Calls Tryz.prog 76 #[.int .i64 n,.string t] w fun e w' => e=.returned (.tuple #[.int .i64 (((hdFrom n t).getD 0:Nat):Int),.bool (hdFrom n t).isSome])∧Below w.heap.size w w':=by
 have hl0:=takeC_le (t:=t) (n:=1) (i:=0) false (Nat.zero_le _)
 obtain ⟨x0,X0⟩:∃ x,Hid (takeC t 1 0 false=x):=⟨_,rfl⟩
 have C0:=hide (fun W (hW:CurB W w.heap.size t 0 false) => l05Take_any t w.heap.size 1 0 false W ht (Nat.zero_le _) (by omega) hW)
 rw [X0.out] at C0 hl0
 obtain ⟨s0,i0,b0⟩:=x0
 have hl1:=varC_le b0 hl0.1
 obtain ⟨x1,X1⟩:∃ x,Hid (varC t i0 b0=x):=⟨_,rfl⟩
 have C1:=hide (fun W (hW:CurB W w.heap.size t i0 b0) => l05Var_any t w.heap.size i0 b0 W ht hl0.1 hW)
 rw [X1.out] at C1 hl1
 obtain ⟨a,i1,b1⟩:=x1
 have hl2:=varC_le b1 hl1.1
 obtain ⟨x2,X2⟩:∃ x,Hid (varC t i1 b1=x):=⟨_,rfl⟩
 have C2:=hide (fun W (hW:CurB W w.heap.size t i1 b1) => l05Var_any t w.heap.size i1 b1 W ht hl1.1 hW)
 rw [X2.out] at C2 hl2
 obtain ⟨f,i2,bad⟩:=x2
 simp only at hl0 hl1 hl2
 have HRW:Hid (hdRaw t=(a,f,bad)):=by show _=_;simp only [hdRaw,X0.out,X1.out,X2.out]
 have HY:Hid (bad=false∧a=n∧f≤n∧(⟨(headL n f).toArray⟩:ByteArray)=t→hdFrom n t=some f):=by
  rintro ⟨rfl,rfl,h3,h4⟩
  exact (hdFrom_iff _ _ _).2 ⟨by omega,by omega,by omega,by rw [Int.toNat_natCast];exact h4.symm⟩
 have HN:Hid (¬ (bad=false∧a=n∧f≤n∧(⟨(headL n f).toArray⟩:ByteArray)=t)→hdFrom n t=none):=by
  intro h
  unfold hdFrom
  rw [if_neg]
  unfold hdOk
  rw [HRW.out]
  simp only [Bool.and_eq_true,decide_eq_true_eq,beq_iff_eq]
  rintro ⟨h1,h2,-,h4,h5⟩
  have e2:a=n:=by omega
  subst e2
  exact h ⟨by simpa using h1,rfl,by omega,h5⟩
 have ST:Hid (CurB (w.alloc (.cells #[.string t,.int .i64 0,.bool false] 180)) w.heap.size t 0 false):=heap_alloc_new w _
 have BT:Hid (Below w.heap.size w (w.alloc (.cells #[.string t,.int .i64 0,.bool false] 180))):=(Below.refl _ w).alloc (Nat.le_refl _) _
 go_enter Tryz.func76,Tryz.ntmps76
 go_wp2_with fail
 generalize (w.alloc (.cells #[.string t,.int .i64 0,.bool false] 180))=w0 at ST BT
 refine (C0.out _ ST.out).mono ?_
 rintro e w1 ⟨rfl,c1,g1⟩
 have S1:=hide c1
 have B1:=hide (BT.out.grown g1 BT.out.size (fun k hk => by cases hk;exact Nat.le_refl _))
 clear c1 g1 ST BT
 go_wp2_with fail
 refine (C1.out _ S1.out).mono ?_
 rintro e w2 ⟨rfl,c2,g2⟩
 have S2:=hide c2
 have B2:=hide (B1.out.grown g2 B1.out.size (fun k hk => by cases hk;exact Nat.le_refl _))
 clear c2 g2 S1 B1
 go_wp2_with fail
 refine (C2.out _ S2.out).mono ?_
 rintro e w3 ⟨rfl,c3,g3⟩
 have S3:=hide c3
 have B3:=hide (B2.out.grown g3 B2.out.size (fun k hk => by cases hk;exact Nat.le_refl _))
 clear c3 g3 S2 B2
 clear C0 C1 C2 X0 X1 X2 HRW
 have hcb:=(curB_cells S3.out).2.2
 cases bad with
 | true =>
  have HE:=hide (HN.out (by simp))
  go_wp2_with fail
  go_ret2
  rw [HE.out]
  exact ⟨rfl,B3.out⟩
 | false =>
  by_cases ha:a=n
  ·
   have ha':((a:Int) != (n:Int))=false:=by rw [bne_eq_false_iff_eq];omega
   by_cases hf:f≤n
   ·
    have hC:=hide (headL_cat n f)
    have v1:=Wd.varF_len 5 n
    have v2:=Wd.varF_len 5 f
    go_wp2_with fail
    refine (l01In_yes _ _ _ _ (by omega) (by omega)).mono ?_
    rintro e w4 ⟨rfl,rfl⟩
    go_wp2_with fail
    refine (l01Var_any n _ (by omega)).mono ?_
    rintro e w5 ⟨rfl,b5⟩
    go_wp2_with fail
    refine (l01Var_any f _ (by omega)).mono ?_
    rintro e w6 ⟨rfl,b6⟩
    have B6:=hide ((B3.out.trans (b5.mono B3.out.size)).trans (b6.mono (Nat.le_trans B3.out.size b5.size)))
    clear b5 b6 B3 S3 hcb
    by_cases ht':(⟨(headL n f).toArray⟩:ByteArray)=t
    ·
     have HE:=hide (HY.out ⟨by simp,ha,hf,ht'⟩)
     have heq:=txt_eq ((hC.out).trans ht')
     have heq2:=txt_eq ht'
     clear ht' HN HY
     go_wp2_with fail
     go_ret2
     rw [HE.out]
     exact ⟨rfl,B6.out⟩
    ·
     have HE:=hide (HN.out (fun h => ht' h.2.2.2))
     have heq:=txt_ne (fun e => ht' ((hC.out).symm.trans e))
     have heq2:=txt_ne ht'
     clear ht' HN HY
     go_wp2_with fail
     go_ret2
     rw [HE.out]
     exact ⟨rfl,B6.out⟩
   ·
    have HE:=hide (HN.out (fun h => hf h.2.2.1))
    go_wp2_with fail
    refine (l01In_no _ _ _ _ (by omega)).mono ?_
    rintro e w4 ⟨rfl,rfl⟩
    go_wp2_with fail
    go_ret2
    rw [HE.out]
    exact ⟨rfl,B3.out⟩
  ·
   have ha':((a:Int) != (n:Int))=true:=by rw [bne_iff_ne];omega
   have HE:=hide (HN.out (fun h => ha h.2.1))
   go_wp2_with fail
   go_ret2
   rw [HE.out]
   exact ⟨rfl,B3.out⟩
end Go.Proofs.YtepdckehokdjlaaGreatDoor
