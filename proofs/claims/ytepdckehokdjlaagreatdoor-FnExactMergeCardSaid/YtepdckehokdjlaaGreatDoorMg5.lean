import Derived.Laws.MakeOwn
import Derived.Test.YtepdckehokdjlaaGreatDoorMg1
import Derived.Test.YtepdckehokdjlaaGreatDoorMg4
import Derived.Test.YtepdckehokdjlaaGreatDoorMg0
set_option maxRecDepth 100000
set_option maxHeartbeats 800000
namespace Go.Proofs.YtepdckehokdjlaaGreatDoor
open Go.RowKit
theorem smalls_lows:((List.range 10).all fun n => (((⟨#[48,49,50,51,52,53,54,55,56,57,97,98,99,100,101,102,103,104,105,106,107,108,109,110,111,112,113,114,115,116,117,118,119,120,121,122]⟩:ByteArray).extract n (n+1)).data.toList == Wd.decS (n:Int)))=true:=by kernel_rfl
theorem smalls_low (n:Nat) (h:n < 10):(⟨#[48,49,50,51,52,53,54,55,56,57,97,98,99,100,101,102,103,104,105,106,107,108,109,110,111,112,113,114,115,116,117,118,119,120,121,122]⟩:ByteArray).extract n (n+1)=⟨(Wd.decS (n:Int)).toArray⟩:=by
 have:=(List.all_eq_true.1 smalls_lows) n (List.mem_range.2 h)
 apply ByteArray.ext
 apply Array.toList_inj.1
 exact eq_of_beq this
theorem smalls_all:((List.range 100).all fun n => decide (n < 10) || (((⟨#[48,48,48,49,48,50,48,51,48,52,48,53,48,54,48,55,48,56,48,57,49,48,49,49,49,50,49,51,49,52,49,53,49,54,49,55,49,56,49,57,50,48,50,49,50,50,50,51,50,52,50,53,50,54,50,55,50,56,50,57,51,48,51,49,51,50,51,51,51,52,51,53,51,54,51,55,51,56,51,57,52,48,52,49,52,50,52,51,52,52,52,53,52,54,52,55,52,56,52,57,53,48,53,49,53,50,53,51,53,52,53,53,53,54,53,55,53,56,53,57,54,48,54,49,54,50,54,51,54,52,54,53,54,54,54,55,54,56,54,57,55,48,55,49,55,50,55,51,55,52,55,53,55,54,55,55,55,56,55,57,56,48,56,49,56,50,56,51,56,52,56,53,56,54,56,55,56,56,56,57,57,48,57,49,57,50,57,51,57,52,57,53,57,54,57,55,57,56,57,57]⟩:ByteArray).extract (n * 2) (n * 2+2)).data.toList == Wd.decS (n:Int)))=true:=by kernel_rfl
theorem smalls_high (n:Nat) (h0:10≤n) (h:n < 100):(⟨#[48,48,48,49,48,50,48,51,48,52,48,53,48,54,48,55,48,56,48,57,49,48,49,49,49,50,49,51,49,52,49,53,49,54,49,55,49,56,49,57,50,48,50,49,50,50,50,51,50,52,50,53,50,54,50,55,50,56,50,57,51,48,51,49,51,50,51,51,51,52,51,53,51,54,51,55,51,56,51,57,52,48,52,49,52,50,52,51,52,52,52,53,52,54,52,55,52,56,52,57,53,48,53,49,53,50,53,51,53,52,53,53,53,54,53,55,53,56,53,57,54,48,54,49,54,50,54,51,54,52,54,53,54,54,54,55,54,56,54,57,55,48,55,49,55,50,55,51,55,52,55,53,55,54,55,55,55,56,55,57,56,48,56,49,56,50,56,51,56,52,56,53,56,54,56,55,56,56,56,57,57,48,57,49,57,50,57,51,57,52,57,53,57,54,57,55,57,56,57,57]⟩:ByteArray).extract (n * 2) (n * 2+2)=⟨(Wd.decS (n:Int)).toArray⟩:=by
 have:=(List.all_eq_true.1 smalls_all) n (List.mem_range.2 h)
 simp only [Bool.or_eq_true,decide_eq_true_eq] at this
 rcases this with h' | h'
 · omega
 ·
  apply ByteArray.ext
  apply Array.toList_inj.1
  exact eq_of_beq h'
theorem small_any (n:Nat) (w:World) (h:n < 100) :
  Calls Tryz.prog 210 #[.int .i64 n] w fun e w' => e=.returned (.string ⟨(Wd.decS (n:Int)).toArray⟩)∧w' = w:=by
 by_cases hn:n < 10
 ·
  have hn':decide ((n:Int) < 10)=true:=by simp;omega
  obtain ⟨R,hR⟩:∃ R:ByteArray,(⟨(Wd.decS (n:Int)).toArray⟩:ByteArray)=R:=⟨_,rfl⟩
  have hcut:=cut_at ⟨#[48,49,50,51,52,53,54,55,56,57,97,98,99,100,101,102,103,104,105,106,107,108,109,110,111,112,113,114,115,116,117,118,119,120,121,122]⟩ n (n+1) (n:Int) ((n:Int)+1) R rfl (by omega) (by omega) (by show n+1≤36;omega) ((smalls_low n hn).trans hR)
  rw [hR]
  clear hR
  go_enter Tryz.func210,Tryz.ntmps210
  go_wp2
  go_ret
  exact ⟨rfl,rfl⟩
 ·
  have hn':decide ((n:Int) < 10)=false:=by simp;omega
  obtain ⟨R,hR⟩:∃ R:ByteArray,(⟨(Wd.decS (n:Int)).toArray⟩:ByteArray)=R:=⟨_,rfl⟩
  have hcut:=cut_at ⟨#[48,48,48,49,48,50,48,51,48,52,48,53,48,54,48,55,48,56,48,57,49,48,49,49,49,50,49,51,49,52,49,53,49,54,49,55,49,56,49,57,50,48,50,49,50,50,50,51,50,52,50,53,50,54,50,55,50,56,50,57,51,48,51,49,51,50,51,51,51,52,51,53,51,54,51,55,51,56,51,57,52,48,52,49,52,50,52,51,52,52,52,53,52,54,52,55,52,56,52,57,53,48,53,49,53,50,53,51,53,52,53,53,53,54,53,55,53,56,53,57,54,48,54,49,54,50,54,51,54,52,54,53,54,54,54,55,54,56,54,57,55,48,55,49,55,50,55,51,55,52,55,53,55,54,55,55,55,56,55,57,56,48,56,49,56,50,56,51,56,52,56,53,56,54,56,55,56,56,56,57,57,48,57,49,57,50,57,51,57,52,57,53,57,54,57,55,57,56,57,57]⟩ (n * 2) (n * 2+2) ((n:Int) * 2) ((n:Int) * 2+2) R (by omega) (by omega) (by omega) (by show n * 2+2≤200;omega) ((smalls_high n (by omega) h).trans hR)
  rw [hR]
  clear hR
  go_enter Tryz.func210,Tryz.ntmps210
  go_wp2
  go_ret
  exact ⟨rfl,rfl⟩
theorem implDec_small (n:Nat) (w:World) (h:n < 100) :
  Calls Tryz.prog 162 #[.int .i64 n] w fun e w' => e=.returned (.string ⟨(Wd.decS (n:Int)).toArray⟩)∧w' = w:=by
 have h1:decide ((0:Int)≤(n:Int))=true:=by simp
 have h2:decide ((n:Int) < 100)=true:=by simp;omega
 have F:∀ W:World,Calls Tryz.prog 203 #[.int .i64 n,.int .i64 10] W fun e w' => e=.returned (.string ⟨(Wd.decS (n:Int)).toArray⟩)∧w' = W:=by
  intro W
  go_enter Tryz.func203,Tryz.ntmps203
  go_wp2_with (go_at_call 210;refine (small_any n _ h).mono ?_;rintro e w' ⟨rfl,rfl⟩)
  go_ret
  exact ⟨rfl,rfl⟩
 have I:∀ W:World,Calls Tryz.prog 193 #[.int .i64 n] W fun e w' => e=.returned (.string ⟨(Wd.decS (n:Int)).toArray⟩)∧w' = W:=by
  intro W
  go_enter Tryz.func193,Tryz.ntmps193
  go_wp2_with (go_at_call 203;refine (F _).mono ?_;rintro e w' ⟨rfl,rfl⟩)
  go_ret
  exact ⟨rfl,rfl⟩
 have S:∀ W:World,Calls Tryz.prog 175 #[.int .i64 n] W fun e w' => e=.returned (.string ⟨(Wd.decS (n:Int)).toArray⟩)∧w' = W:=by
  intro W
  go_enter Tryz.func175,Tryz.ntmps175
  go_wp2_with (go_at_call 193;refine (I _).mono ?_;rintro e w' ⟨rfl,rfl⟩)
  go_ret
  exact ⟨rfl,rfl⟩
 go_enter Tryz.func162,Tryz.ntmps162
 go_wp2_with (go_at_call 175;refine (S _).mono ?_;rintro e w' ⟨rfl,rfl⟩)
 go_ret
 exact ⟨rfl,rfl⟩
def segNm (n:Int):ByteArray:=if 0≤n∧n≤99 then ⟨(98 :: Wd.decS n).toArray⟩ else ⟨#[]⟩
theorem segNm_in (n:Nat) (h:n≤99):segNm n=(⟨#[98]⟩:ByteArray) ++ ⟨(Wd.decS (n:Int)).toArray⟩:=by
 unfold segNm
 rw [if_pos (by omega)]
 apply ByteArray.ext
 apply Array.toList_inj.1
 simp
theorem segNm_out (n:Int) (h:n < 0 ∨ 99 < n):segNm n=⟨#[]⟩:=by unfold segNm;rw [if_neg (by omega)]
theorem decS_len:∀ n:Nat,n≤99→(Wd.decS (n:Int)).length≤2:=by
 have:((List.range 100).all fun n => decide ((Wd.decS (n:Int)).length≤2))=true:=by kernel_rfl
 intro n hn
 have:=(List.all_eq_true.1 this) n (List.mem_range.2 (by omega))
 simpa using this
theorem right_any (n:Int) (b:Bool) (w:World) (h:(decide (0≤n) && decide (n≤99))=b):Calls Tryz.prog 155 #[.int .i64 n] w fun e w' => e=.returned (.bool b)∧w' = w:=by
 by_cases h0:0≤n
 ·
  have h0':decide (0≤n)=true:=by simp;omega
  rw [h0',Bool.true_and] at h
  subst h
  go_enter Tryz.func155,Tryz.ntmps155
  go_wp2
  go_ret
  exact ⟨rfl,rfl⟩
 ·
  have h0':decide (0≤n)=false:=by simp;omega
  rw [h0',Bool.false_and] at h
  subst h
  go_enter Tryz.func155,Tryz.ntmps155
  go_wp2
  go_ret
  exact ⟨rfl,rfl⟩
theorem name_any (n:Int) (w:World):Calls Tryz.prog 137 #[.int .i64 n] w fun e w' => e=.returned (.string (segNm n))∧w' = w:=by
 by_cases h:0≤n∧n≤99
 ·
  obtain ⟨m,rfl⟩:=Int.eq_ofNat_of_zero_le h.1
  have hE:=hide (segNm_in m (by omega))
  have hl:=decS_len m (by omega)
  have hb:(decide ((0:Int)≤(m:Int)) && decide ((m:Int)≤99))=true:=by simp;omega
  go_enter Tryz.func137,Tryz.ntmps137
  go_wp2_with (first | (go_at_call 155;refine (right_any _ _ _ hb).mono ?_;rintro e w' ⟨rfl,rfl⟩) | (go_at_call 162;refine (implDec_small m _ (by omega)).mono ?_;rintro e w' ⟨rfl,rfl⟩))
  go_ret
  rw [hE.out]
  exact ⟨rfl,rfl⟩
 ·
  have hE:=hide (segNm_out n (by omega))
  have hb:(decide ((0:Int)≤n) && decide (n≤99))=false:=by simp;omega
  go_enter Tryz.func137,Tryz.ntmps137
  go_wp2_with (first | (go_at_call 155;refine (right_any _ _ _ hb).mono ?_;rintro e w' ⟨rfl,rfl⟩))
  go_ret
  rw [hE.out]
  exact ⟨rfl,rfl⟩
theorem implSegName_any (n:Int) (w:World):Calls Tryz.prog 99 #[.int .i64 n] w fun e w' => e=.returned (.string (segNm n))∧w' = w:=by
 go_enter Tryz.func99,Tryz.ntmps99
 go_wp2_with (first | (go_at_call 137;refine (name_any _ _).mono ?_;rintro e w' ⟨rfl,rfl⟩))
 go_ret
 exact ⟨rfl,rfl⟩
theorem specSegName_any (n:Int) (w:World):Calls Tryz.prog 38 #[.int .i64 n] w fun e w' => e=.returned (.string (segNm n))∧Below w.heap.size w w':=by
 by_cases h:0≤n∧n≤99
 ·
  obtain ⟨m,rfl⟩:=Int.eq_ofNat_of_zero_le h.1
  have hE:=hide (segNm_in m (by omega))
  have hl:=decS_len m (by omega)
  go_enter Tryz.func38,Tryz.ntmps38
  go_wp2_with (first | (go_at_call 50;refine (l01In_yes _ _ _ _ (by omega) (by omega)).mono ?_;rintro e w' ⟨rfl,rfl⟩) | (go_at_call 74;refine (decimal_any m _ (by omega) (by omega)).mono ?_;rintro e w1 ⟨rfl,b1⟩))
  go_ret
  rw [hE.out]
  exact ⟨rfl,b1⟩
 ·
  have hE:=hide (segNm_out n (by omega))
  go_enter Tryz.func38,Tryz.ntmps38
  go_wp2_with (first | (go_at_call 50;refine (l01In_no _ _ _ _ (by omega)).mono ?_;rintro e w' ⟨rfl,rfl⟩))
  go_ret
  rw [hE.out]
  exact ⟨rfl,Below.refl _ _⟩
structure FileD where
 name:ByteArray
 text:ByteArray
 kept:Int
def FilesAt (w:World) (ao:Option Addr) (fs:List FileD):Prop:=∀ j (h:j < fs.length),∃ b off:Nat,ao=some ⟨b,off,none⟩∧b < w.heap.size ∧
 w.cell? ⟨b,off+j * 3,none⟩=some (.string fs[j].name)∧w.cell? ⟨b,off+j * 3+1,none⟩=some (.string fs[j].text)∧w.cell? ⟨b,off+j * 3+2,none⟩=some (.int .i64 fs[j].kept)
theorem filesAt_keep {w w':World} {ao:Option Addr} {fs:List FileD} (h:FilesAt w ao fs) (hb:Below w.heap.size w w'):FilesAt w' ao fs:=by
 intro j hj
 obtain ⟨b,off,h1,h2,h3,h4,h5⟩:=h j hj
 exact ⟨b,off,h1,Nat.lt_of_lt_of_le h2 hb.size,(hb.cell (p:=⟨b,off+j * 3,none⟩) h2).trans h3,(hb.cell (p:=⟨b,off+j * 3+1,none⟩) h2).trans h4,(hb.cell (p:=⟨b,off+j * 3+2,none⟩) h2).trans h5⟩
def szF (F:FileD) (n:Int):Int:=if n < F.name.size then -1 else if n < F.name.size+F.text.size then -1 else n - F.name.size - F.text.size
theorem szFile_any (F:FileD) (n:Int) (w:World) (h0:0≤n) (h1:n≤1048576) (hN:F.name.size≤maxLen) (hX:F.text.size≤maxLen) :
  Calls Tryz.prog 72 #[.agg #[.string F.name,.string F.text,.int .i64 F.kept],.int .i64 n] w fun e w' => e=.returned (.int .i64 (szF F n))∧Below w.heap.size w w':=by
 obtain ⟨a,b,k⟩:=F
 simp only [szF] at hN hX ⊢
 unfold maxLen at hN hX
 by_cases h2:n < a.size
 ·
  have h2':decide (n - (a.size:Int) < 0)=true:=by simp;omega
  rw [if_pos h2]
  go_enter Tryz.func72,Tryz.ntmps72
  go_wp2
  go_ret
  exact ⟨rfl,(Below.refl _ w).alloc (Nat.le_refl _) _⟩
 ·
  have h2':decide (n - (a.size:Int) < 0)=false:=by simp;omega
  rw [if_neg h2]
  by_cases h3:n < a.size+b.size
  ·
   have h3':decide (n - (a.size:Int) - (b.size:Int) < 0)=true:=by simp;omega
   rw [if_pos h3]
   go_enter Tryz.func72,Tryz.ntmps72
   go_wp2
   go_ret
   exact ⟨rfl,(Below.refl _ w).alloc (Nat.le_refl _) _⟩
  ·
   have h3':decide (n - (a.size:Int) - (b.size:Int) < 0)=false:=by simp;omega
   rw [if_neg h3]
   go_enter Tryz.func72,Tryz.ntmps72
   go_wp2
   go_ret
   exact ⟨rfl,(Below.refl _ w).alloc (Nat.le_refl _) _⟩
theorem eqFile_same (F:FileD) (w:World) :
  Calls Tryz.prog 105 #[.agg #[.string F.name,.string F.text,.int .i64 F.kept],.agg #[.string F.name,.string F.text,.int .i64 F.kept]] w fun e w' => e=.returned (.bool true)∧Below w.heap.size w w':=by
 obtain ⟨a,b,k⟩:=F
 have h1:(a.toList == a.toList)=true:=beq_self_eq_true _
 have h2:(b.toList == b.toList)=true:=beq_self_eq_true _
 have h3:(k == k)=true:=beq_self_eq_true _
 go_enter Tryz.func105,Tryz.ntmps105
 go_wp2
 go_ret
 exact ⟨rfl,((Below.refl _ w).alloc (Nat.le_refl _) _).alloc (by simp) _⟩
theorem toFile_any (F:FileD) (w:World) :
  Calls Tryz.prog 86 #[.agg #[.string F.name,.string F.text,.int .i64 F.kept]] w fun e w' => e=.returned (.agg #[.string F.name,.string F.text,.int .i64 F.kept])∧Below w.heap.size w w':=by
 obtain ⟨a,b,k⟩:=F
 go_enter Tryz.func86,Tryz.ntmps86
 go_wp2
 refine bodyPost_ret (v:=.agg #[.string a,.string b,.int .i64 k]) (by simp [results,Tryz.results86,go_sem]) rfl ⟨rfl,?_⟩
 exact (((Below.refl _ w).alloc (Nat.le_refl _) _).alloc (by simp) _).alloc (by simp;omega) _
def szFs:List FileD→Int→Int
 | [],n => n
 | F :: r,n => if szF F n < 0 then -1 else szFs r (szF F n)
theorem szF_le (F:FileD) (n:Int) (h:0≤n):szF F n≤n:=by
 unfold szF;split
 · omega
 · split <;> omega
theorem szFileS_any (fs:List FileD) (ao:Option Addr) (cap:Nat) (n:Int) (w:World) (h0:0≤n) (h1:n≤1048576) (hl:fs.length≤maxLen) (hfs:FilesAt w ao fs) (hsz:∀ F ∈ fs,F.name.size≤maxLen∧F.text.size≤maxLen) :
  Calls Tryz.prog 32 #[.slice ao fs.length cap,.int .i64 n] w fun e w' => e=.returned (.int .i64 (if n < fs.length then -1 else szFs fs (n - fs.length)))∧Below w.heap.size w w':=by
 have HF:=hide hfs
 have HS:=hide hsz
 clear hfs hsz
 unfold maxLen at hl
 by_cases hn:n < fs.length
 ·
  have hn':decide (n - (fs.length:Int) < 0)=true:=by simp;omega
  rw [if_pos hn]
  go_enter Tryz.func32,Tryz.ntmps32
  go_wp2
  go_ret
  exact ⟨rfl,Below.refl _ _⟩
 ·
  have hn':decide (n - (fs.length:Int) < 0)=false:=by simp;omega
  rw [if_neg hn]
  obtain ⟨R,HR⟩:∃ R,Hid (szFs fs (n - fs.length)=R):=⟨_,rfl⟩
  rw [HR.out]
  go_enter Tryz.func32,Tryz.ntmps32
  go_wp2
  go_loopw [1,5] (fun m ii wr => ∃ (k:Nat) (x:Int),ii=.int .i64 k∧m=.int .i64 x∧k≤fs.length∧0≤x∧x≤1048576∧Hid (szFs (fs.drop k) x=R)∧Hid (Below w.heap.size w wr)) (fun _ ii _ => fs.length - (intOf ii).toNat)
  case atStart => exact ⟨0,n - fs.length,rfl,rfl,Nat.zero_le _,by omega,by omega,HR.out,Below.refl _ _⟩
  case round =>
   obtain ⟨k,x,rfl,rfl,hk,hx0,hx1,HX,HB⟩:=hrel
   by_cases hlt:k < fs.length
   ·
    have hlt':decide ((k:Int) < (fs.length:Int))=true:=by simp;omega
    obtain ⟨b,off,rfl,hbw,hc0,hc1,hc2⟩:=filesAt_keep HF.out HB.out k hlt
    obtain ⟨hs1,hs2⟩:=HS.out fs[k] (List.getElem_mem hlt)
    have HD:Hid (szFs (fs.drop k) x=if szF fs[k] x < 0 then -1 else szFs (fs.drop (k+1)) (szF fs[k] x)):=by show _=_;rw [List.drop_eq_getElem_cons hlt];rfl
    have hle:=szF_le fs[k] x hx0
    generalize fs[k]=F at hc0 hc1 hc2 hs1 hs2 HD hle
    have hi0:(0:Int)≤(k:Int):=by omega
    have hi1:(k:Int) < (fs.length:Int):=by omega
    go_wp2_with fail
    refine (szFile_any F x _ hx0 hx1 hs1 hs2).mono ?_
    rintro e w1 ⟨rfl,b1⟩
    have HB1:=hide (HB.out.trans (b1.mono HB.out.size))
    clear b1 hc0 hc1 hc2
    generalize szF F x=y at HD hle
    by_cases hneg:y < 0
    ·
     have hneg':decide (y < 0)=true:=by simp;omega
     have hR:Hid (R = -1):=by show _=_;rw [← HX.out,HD.out,if_pos hneg]
     go_wp2
     go_ret
     rw [hR.out]
     exact ⟨rfl,HB1.out⟩
    ·
     have hneg':decide (y < 0)=false:=by simp;omega
     have hR:Hid (szFs (fs.drop (k+1)) y=R):=by show _=_;rw [← HX.out,HD.out,if_neg hneg]
     go_wp2
     go_roundw
     case rel => exact ⟨k+1,y,by go_num,rfl,by omega,by omega,by omega,hR,HB1⟩
     case measure => simp [intOf];omega
   ·
    have hlt':decide ((k:Int) < (fs.length:Int))=false:=by simp;omega
    have hR:Hid (x=R):=by show _=_;rw [← HX.out,List.drop_eq_nil_of_le (by omega)];rfl
    go_wp2
    go_ret
    rw [← hR.out]
    exact ⟨rfl,HB.out⟩
theorem szDisk_any (fs:List FileD) (ao:Option Addr) (cap:Nat) (n:Int) (w:World) (h0:0≤n) (h1:n≤1048576) (hl:fs.length≤maxLen) (hfs:FilesAt w ao fs) (hsz:∀ F ∈ fs,F.name.size≤maxLen∧F.text.size≤maxLen) :
  Calls Tryz.prog 14 #[.agg #[.slice ao fs.length cap],.int .i64 n] w fun e w' => (∃ r:Int,e=.returned (.int .i64 r)∧(0≤r→r=szFs fs (n - fs.length)∧(fs.length:Int)≤n))∧Below w.heap.size w w':=by
 have HF:=hide hfs
 have HS:=hide hsz
 clear hfs hsz
 go_enter Tryz.func14,Tryz.ntmps14
 go_wp2_with fail
 refine (szFileS_any fs ao cap n _ h0 h1 hl (filesAt_keep HF.out ((Below.refl _ w).alloc (Nat.le_refl _) _)) HS.out).mono ?_
 rintro e w1 ⟨rfl,b1⟩
 obtain ⟨R,HR⟩:∃ R:Int,Hid ((if n < fs.length then -1 else szFs fs (n - fs.length))=R):=⟨_,rfl⟩
 rw [HR.out]
 have B1:Hid (Below w.heap.size w w1):=((Below.refl _ w).alloc (Nat.le_refl _) _).trans (b1.mono (by simp))
 clear b1
 by_cases hneg:R < 0
 ·
  have hneg':decide (R < 0)=true:=by simp;omega
  go_wp2
  go_ret
  exact ⟨⟨-1,rfl,fun h => absurd h (by decide)⟩,B1.out⟩
 ·
  have hneg':decide (R < 0)=false:=by simp;omega
  go_wp2
  go_ret
  refine ⟨⟨R,rfl,fun _ => ?_⟩,B1.out⟩
  have:=HR.out
  split at this
  · omega
  · exact ⟨this.symm,by omega⟩
def FilesIn (C:Array Value) (fs:List FileD) (k:Nat):Prop:=∀ j (h:j < fs.length),j < k→C[j * 3]? = some (.string fs[j].name)∧C[j * 3+1]? = some (.string fs[j].text)∧C[j * 3+2]? = some (.int .i64 fs[j].kept)
theorem Tryz.infoFile:(Tryz.prog.info? 95).map (fun i => (i.zero,i.size,i.bytes))=some (some (.agg #[.string ⟨#[]⟩,.string ⟨#[]⟩,.int .i64 0]),3,40):=by kernel_rfl
def putFile (C:Array Value) (k:Nat) (F:FileD):Array Value:=((C.setIfInBounds (k * 3) (.string F.name)).setIfInBounds (k * 3+1) (.string F.text)).setIfInBounds (k * 3+2) (.int .i64 F.kept)
theorem putFile_size (C:Array Value) (k:Nat) (F:FileD):(putFile C k F).size=C.size:=by simp [putFile]
theorem filesIn_put {C:Array Value} {fs:List FileD} {k:Nat} (h:FilesIn C fs k) (hk:k < fs.length) (hs:C.size=fs.length * 3):FilesIn (putFile C k fs[k]) fs (k+1):=by
 intro j hj hjk
 unfold putFile
 by_cases e:j=k
 ·
  subst e
  refine ⟨?_,?_,?_⟩ <;> simp [Array.getElem?_setIfInBounds] <;> omega
 ·
  obtain ⟨h1,h2,h3⟩:=h j hj (by omega)
  refine ⟨?_,?_,?_⟩
  · rw [Array.getElem?_setIfInBounds_ne (by omega),Array.getElem?_setIfInBounds_ne (by omega),Array.getElem?_setIfInBounds_ne (by omega)];exact h1
  · rw [Array.getElem?_setIfInBounds_ne (by omega),Array.getElem?_setIfInBounds_ne (by omega),Array.getElem?_setIfInBounds_ne (by omega)];exact h2
  · rw [Array.getElem?_setIfInBounds_ne (by omega),Array.getElem?_setIfInBounds_ne (by omega),Array.getElem?_setIfInBounds_ne (by omega)];exact h3
theorem file_stored {w:World} {g k:Nat} {C:Array Value} {t:TypeId} (F:FileD) (h:w.heap[g]? = some (.cells C t (0,0))) :
  (((w.setCell ⟨g,k * 3,none⟩ (.string F.name)).setCell ⟨g,k * 3+1,none⟩ (.string F.text)).setCell ⟨g,k * 3+2,none⟩ (.int .i64 F.kept)).heap[g]? = some (.cells (putFile C k F) t (0,0)) :=
 heap_setCell_same _ g _ _ t _ (heap_setCell_same _ g _ _ t _ (heap_setCell_same w g _ C t _ h))
theorem toFileS_any (fs:List FileD) (ao:Option Addr) (cap:Nat) (w:World) (hl:fs.length≤1048576) (hfs:FilesAt w ao fs) :
  Calls Tryz.prog 57 #[.slice ao fs.length cap] w fun e w' => (∃ C:Array Value,e=.returned (.slice (some ⟨w.heap.size,0,none⟩) fs.length fs.length)∧w'.heap[w.heap.size]? = some (.cells C 95 (0,0))∧C.size=fs.length * 3∧FilesIn C fs fs.length)∧Below w.heap.size w w':=by
 have HF:=hide hfs
 clear hfs
 obtain ⟨i0,hi,hz0,hz1,hz2⟩:=info_parts Tryz.infoFile
 obtain ⟨M,hM⟩:∃ M,M=madeCells (Value.agg #[.string ⟨#[]⟩,.string ⟨#[]⟩,.int .i64 0]).cells (((fs.length:Nat):Int).toNat * i0.size):=⟨_,rfl⟩
 have hmk:∀ W:World,(Instr.makeSlice 29 (.int .i64 (fs.length:Int)) (.int .i64 (fs.length:Int))).run Tryz.prog W=.ok (.slice (some ⟨W.heap.size,0,none⟩) fs.length fs.length) (W.alloc (.cells M 95)):=fun W => by
  have h:=run_make (P:=Tryz.prog) W 29 95 i0 (.agg #[.string ⟨#[]⟩,.string ⟨#[]⟩,.int .i64 0]) Tryz.underlying29 hi hz0 .i64 .i64 (fs.length:Int) (fs.length:Int) (by omega) (by omega) (by rw [hz2];omega) (by omega)
  rw [← hM] at h
  simpa using h
 have hMs:M.size=fs.length * 3:=by rw [hM,size_madeCells,hz1];simp
 clear hM
 go_enter Tryz.func57,Tryz.ntmps57
 go_wp2
 go_loopw [4] (fun ii wr => ∃ (k:Nat) (C:Array Value),ii=.int .i64 k∧k≤fs.length∧Hid (wr.heap[w.heap.size]? = some (.cells C 95 (0,0)))∧C.size=fs.length * 3∧Hid (FilesIn C fs k)∧Hid (Below w.heap.size w wr)) (fun ii _ => fs.length - (intOf ii).toNat)
 case atStart => exact ⟨0,M,rfl,Nat.zero_le _,heap_alloc_new w _,hMs,fun j _ hj => absurd hj (by omega),(Below.refl _ w).alloc (Nat.le_refl _) _⟩
 case round =>
  obtain ⟨k,C,rfl,hk,HC,hCs,HI,HB⟩:=hrel
  by_cases hlt:k < fs.length
  ·
   have hlt':decide ((k:Int) < (fs.length:Int))=true:=by simp;omega
   obtain ⟨b,off,rfl,hbw,hc0,hc1,hc2⟩:=filesAt_keep HF.out HB.out k hlt
   obtain ⟨F,HFk⟩:∃ F,Hid (fs[k]=F):=⟨fs[k],hide rfl⟩
   rw [HFk.out] at hc0 hc1 hc2
   have hi0:(0:Int)≤(k:Int):=by omega
   have hi1:(k:Int) < (fs.length:Int):=by omega
   go_wp2_with fail
   refine (toFile_any F _).mono ?_
   rintro e w1 ⟨rfl,b1⟩
   have HB1:=hide (HB.out.trans (b1.mono HB.out.size))
   have hlt1:w.heap.size < wr.heap.size:=by
    rcases Nat.lt_or_ge w.heap.size wr.heap.size with h | h
    · exact h
    · have:=HC.out;rw [Array.getElem?_eq_none h] at this;cases this
   have hC1:w1.heap[w.heap.size]? = some (.cells C 95 (0,0)):=(b1.block _ hlt1).trans HC.out
   clear b1 hc0 hc1 hc2
   have hq0:=cell_of_row w1 w.heap.size (k * 3) C 95 (0,0) hC1
   have hq1:=cell_of_row w1 w.heap.size (k * 3+1) C 95 (0,0) hC1
   have hq2:=cell_of_row w1 w.heap.size (k * 3+2) C 95 (0,0) hC1
   have hf0:=frozen_of_row w1 w.heap.size (k * 3) C 95 hC1
   have hf1:=frozen_of_row w1 w.heap.size (k * 3+1) C 95 hC1
   have hf2:=frozen_of_row w1 w.heap.size (k * 3+2) C 95 hC1
   rw [Array.getElem?_eq_getElem (by omega)] at hq0 hq1 hq2
   have HC1:=hide hC1
   clear hC1
   have HN:Hid (FilesIn (putFile C k F) fs (k+1)):=by have:=filesIn_put HI.out hlt hCs;rw [HFk.out] at this;exact this
   have HC2:=hide (file_stored (k:=k) F HC1.out)
   have HB2:=hide (((HB1.out.setCell (p:=⟨w.heap.size,k * 3,none⟩) (Nat.le_refl _) (.string F.name)).setCell (p:=⟨w.heap.size,k * 3+1,none⟩) (Nat.le_refl _) (.string F.text)).setCell (p:=⟨w.heap.size,k * 3+2,none⟩) (Nat.le_refl _) (.int .i64 F.kept))
   go_wp2_with fail
   go_roundw
   case rel => exact ⟨k+1,putFile C k F,by go_num,by omega,HC2,by rw [putFile_size];exact hCs,HN,HB2⟩
   case measure => simp [intOf];omega
  ·
   have hlt':decide ((k:Int) < (fs.length:Int))=false:=by simp;omega
   have hke:k=fs.length:=by omega
   subst hke
   go_wp2
   go_ret
   exact ⟨⟨C,rfl,HC.out,hCs,HI.out⟩,HB.out⟩
theorem filesAt_own {w:World} {g:Nat} {C:Array Value} {t:TypeId} {fs:List FileD} (h:w.heap[g]? = some (.cells C t (0,0))) (hC:FilesIn C fs fs.length):FilesAt w (some ⟨g,0,none⟩) fs:=by
 intro j hj
 obtain ⟨h1,h2,h3⟩:=hC j hj hj
 have hg:g < w.heap.size:=(Array.getElem?_eq_some_iff.1 h).1
 refine ⟨g,0,rfl,hg,?_,?_,?_⟩
 · rw [Nat.zero_add,cell_of_row w g _ C t (0,0) h,h1]
 · rw [Nat.zero_add,cell_of_row w g _ C t (0,0) h,h2]
 · rw [Nat.zero_add,cell_of_row w g _ C t (0,0) h,h3]
theorem toDisk_any (fs:List FileD) (ao:Option Addr) (cap:Nat) (w:World) (hl:fs.length≤1048576) (hfs:FilesAt w ao fs) :
  Calls Tryz.prog 20 #[.agg #[.slice ao fs.length cap]] w fun e w' => (∃ (g:Nat) (C:Array Value),e=.returned (.agg #[.slice (some ⟨g,0,none⟩) fs.length fs.length])∧w.heap.size≤g∧w'.heap[g]? = some (.cells C 95 (0,0))∧C.size=fs.length * 3∧FilesIn C fs fs.length)∧Below w.heap.size w w':=by
 have HF:=hide hfs
 clear hfs
 go_enter Tryz.func20,Tryz.ntmps20
 go_wp2_with fail
 refine (toFileS_any fs ao cap _ hl (filesAt_keep HF.out ((((Below.refl _ w).alloc (Nat.le_refl _) _).alloc (by simp) _).alloc (by simp;omega) _))).mono ?_
 rintro e w1 ⟨⟨C,rfl,hC,hCs,hI⟩,b1⟩
 have hs1:w.heap.size+1+1+1≤w1.heap.size:=by have:=b1.size;simpa using this
 have hq:w1.heap[w.heap.size+1+1]? = some (.cells #[.slice none 0 0] 31 (0,0)):=(b1.block _ (by simp)).trans (by rw [show w.heap.size+1+1=((w.alloc (.cells #[.slice ao fs.length cap] 24)).alloc (.cells #[.slice none 0 0] 31)).heap.size from by simp];exact heap_alloc_new _ _)
 have hr:w1.heap[w.heap.size+1]? = some (.cells #[.slice none 0 0] 31 (0,0)):=(b1.block _ (by simp)).trans (by rw [World.alloc,Array.getElem?_push_lt (by simp),← Array.getElem?_eq_getElem,show w.heap.size+1=(w.alloc (.cells #[.slice ao fs.length cap] 24)).heap.size from by simp];exact heap_alloc_new _ _)
 obtain ⟨G,hG⟩:∃ G,G=(((w.alloc (.cells #[.slice ao fs.length cap] 24)).alloc (.cells #[.slice none 0 0] 31)).alloc (.cells #[.slice none 0 0] 31)).heap.size:=⟨_,rfl⟩
 have hGn:G=w.heap.size+1+1+1:=by rw [hG];simp
 rw [← hG] at hC b1 ⊢
 have HBB:Hid (Below w.heap.size w w1):=(((((Below.refl _ w).alloc (Nat.le_refl _) _).alloc (by simp) _).alloc (by simp;omega) _)).trans (b1.mono (by omega))
 clear b1 hG
 have hq0:=cell_of_row w1 (w.heap.size+1+1) 0 _ _ (0,0) hq
 have hf0:=frozen_of_row w1 (w.heap.size+1+1) 0 _ _ hq
 have hr0:=cell_of_row w1 (w.heap.size+1) 0 _ _ (0,0) hr
 have hg0:=frozen_of_row w1 (w.heap.size+1) 0 _ _ hr
 have HC:=hide hC
 have HI:=hide hI
 have HGn:=hide hGn
 clear hC hI hGn hq hr
 go_wp2_with fail
 have hne:(w.heap.size+1+1) ≠ (w.heap.size+1):=by omega
 refine bodyPost_ret (v:=.agg #[.slice (some ⟨G,0,none⟩) fs.length fs.length]) (by simp [results,Tryz.results20,go_sem,hr0]) rfl ⟨⟨G,C,rfl,by have:=HGn.out;omega,?_,hCs,HI.out⟩,?_⟩
 · rw [Below.heap_setCell _ _ _ _ (by have:=HGn.out;simp;omega),Below.heap_setCell _ _ _ _ (by have:=HGn.out;simp;omega)];exact HC.out
 · exact (HBB.out.setCell (p:=⟨w.heap.size+1+1,0,none⟩) (by simp;omega) _).setCell (p:=⟨w.heap.size+1,0,none⟩) (by simp) _
theorem eqFileS_same (fs:List FileD) (ao ao2:Option Addr) (cap cap2:Nat) (w:World) (hl:fs.length≤maxLen) (h1:FilesAt w ao fs) (h2:FilesAt w ao2 fs) :
  Calls Tryz.prog 68 #[.slice ao fs.length cap,.slice ao2 fs.length cap2] w fun e w' => e=.returned (.bool true)∧Below w.heap.size w w':=by
 have H1:=hide h1
 have H2:=hide h2
 clear h1 h2
 unfold maxLen at hl
 have hne:(!((fs.length:Int) == (fs.length:Int)))=false:=by simp
 go_enter Tryz.func68,Tryz.ntmps68
 go_wp2
 go_loopw [5] (fun ii wr => ∃ (k:Nat),ii=.int .i64 k∧k≤fs.length∧Hid (Below w.heap.size w wr)) (fun ii _ => fs.length - (intOf ii).toNat)
 case atStart => exact ⟨0,rfl,Nat.zero_le _,Below.refl _ _⟩
 case round =>
  obtain ⟨k,rfl,hk,HB⟩:=hrel
  by_cases hlt:k < fs.length
  ·
   have hlt':decide ((k:Int) < (fs.length:Int))=true:=by simp;omega
   obtain ⟨b,off,rfl,hbw,hc0,hc1,hc2⟩:=filesAt_keep H1.out HB.out k hlt
   obtain ⟨b',off',rfl,hbw',hd0,hd1,hd2⟩:=filesAt_keep H2.out HB.out k hlt
   generalize fs[k]=F at hc0 hc1 hc2 hd0 hd1 hd2
   have hi0:(0:Int)≤(k:Int):=by omega
   have hi1:(k:Int) < (fs.length:Int):=by omega
   have hi2:decide ((k:Int) < (fs.length:Int))=true:=by simp;omega
   have HBw:=hide hbw
   have HBw':=hide hbw'
   clear hbw hbw'
   go_wp2_with fail
   go_region_held3 (fun w' => w'.cell? ⟨b,off+k * 3,none⟩=some (.string F.name)∧w'.cell? ⟨b,off+k * 3+1,none⟩=some (.string F.text)∧w'.cell? ⟨b,off+k * 3+2,none⟩=some (.int .i64 F.kept)∧w'.cell? ⟨b',off'+k * 3,none⟩=some (.string F.name)∧w'.cell? ⟨b',off'+k * 3+1,none⟩=some (.string F.text)∧w'.cell? ⟨b',off'+k * 3+2,none⟩=some (.int .i64 F.kept)) (first | go_keep | (exact ⟨(b1.cell (p:=⟨b,off+k * 3,none⟩) HBw.out).trans hc0,(b1.cell (p:=⟨b,off+k * 3+1,none⟩) HBw.out).trans hc1,(b1.cell (p:=⟨b,off+k * 3+2,none⟩) HBw.out).trans hc2,(b1.cell (p:=⟨b',off'+k * 3,none⟩) HBw'.out).trans hd0,(b1.cell (p:=⟨b',off'+k * 3+1,none⟩) HBw'.out).trans hd1,(b1.cell (p:=⟨b',off'+k * 3+2,none⟩) HBw'.out).trans hd2⟩)) ((go_at_call 105;refine (eqFile_same F _).mono ?_;rintro e w1 ⟨rfl,b1⟩))
   go_wp2
   go_roundw
   case rel => exact ⟨k+1,by go_num,by omega,HB.out.trans (((Below.refl _ _).drew.trans b1).mono HB.out.size)⟩
   case measure => simp [intOf];omega
  ·
   have hlt':decide ((k:Int) < (fs.length:Int))=false:=by simp;omega
   go_wp2
   go_ret
   exact ⟨rfl,HB.out⟩
theorem eqDisk_same (fs:List FileD) (ao ao2:Option Addr) (cap cap2:Nat) (w:World) (hl:fs.length≤maxLen) (h1:FilesAt w ao fs) (h2:FilesAt w ao2 fs) :
  Calls Tryz.prog 24 #[.agg #[.slice ao fs.length cap],.agg #[.slice ao2 fs.length cap2]] w fun e w' => e=.returned (.bool true)∧Below w.heap.size w w':=by
 have H1:=hide h1
 have H2:=hide h2
 clear h1 h2
 go_enter Tryz.func24,Tryz.ntmps24
 go_wp2_with fail
 have b0:=((Below.refl _ w).alloc (Nat.le_refl _) (.cells #[.slice ao fs.length cap] 31)).alloc (by simp) (.cells #[.slice ao2 fs.length cap2] 31)
 refine (eqFileS_same fs ao ao2 cap cap2 _ hl (filesAt_keep H1.out b0) (filesAt_keep H2.out b0)).mono ?_
 rintro e w1 ⟨rfl,b1⟩
 have HB:=hide (b0.trans (b1.mono b0.size))
 clear b0 b1
 go_wp2
 go_ret
 exact ⟨rfl,HB.out⟩
def nameOkD (s:ByteArray):Bool:=decide (1≤s.size) && decide (s.size≤8)
def fileOkD (F:FileD):Bool:=nameOkD F.name && (decide (F.text.size≤20000) && (decide (0≤F.kept) && decide (F.kept≤F.text.size)))
def okFrom:Option ByteArray→List FileD→Bool
 | _,[] => true
 | none,F :: r => fileOkD F && okFrom (some F.name) r
 | some p,F :: r => fileOkD F && (Op.bytesLess p.toList F.name.toList && okFrom (some F.name) r)
def diskOkD (fs:List FileD):Bool:=decide (fs.length≤30) && okFrom none fs
def prevOf (fs:List FileD):Nat→Option ByteArray
 | 0 => none
 | k+1 => fs[k]?.map FileD.name
theorem okFrom_bad {fs:List FileD} {k:Nat} (h:k < fs.length) (hF:fileOkD fs[k]=false):okFrom (prevOf fs k) (fs.drop k)=false:=by
 rw [List.drop_eq_getElem_cons h]
 cases prevOf fs k <;> simp [okFrom,hF]
theorem okFrom_first {fs:List FileD} (h:0 < fs.length) (hF:fileOkD fs[0]=true):okFrom (prevOf fs 0) (fs.drop 0)=okFrom (prevOf fs 1) (fs.drop 1):=by
 rw [List.drop_eq_getElem_cons h]
 simp [okFrom,prevOf,hF,h]
theorem okFrom_more {fs:List FileD} {k:Nat} (h:k < fs.length) (hk:0 < k) (hF:fileOkD fs[k]=true):okFrom (prevOf fs k) (fs.drop k)=(Op.bytesLess fs[k - 1].name.toList fs[k].name.toList && okFrom (prevOf fs (k+1)) (fs.drop (k+1))):=by
 obtain ⟨j,rfl⟩:∃ j,k=j+1:=⟨k - 1,by omega⟩
 rw [List.drop_eq_getElem_cons h]
 have e1:prevOf fs (j+1)=some fs[j].name:=by simp [prevOf,show j < fs.length from by omega]
 have e2:prevOf fs (j+1+1)=some fs[j+1].name:=by simp [prevOf,h]
 rw [e1,e2]
 simp [okFrom,hF]
theorem okFrom_end {fs:List FileD} {k:Nat} (h:fs.length≤k):okFrom (prevOf fs k) (fs.drop k)=true:=by
 rw [List.drop_eq_nil_of_le h]
 cases prevOf fs k <;> simp [okFrom]
theorem l03Name_any (s:ByteArray) (w:World) (hs:s.size≤maxLen):Calls Tryz.prog 46 #[.string s] w fun e w' => e=.returned (.bool (nameOkD s))∧w' = w:=by
 unfold maxLen at hs
 have e:nameOkD s=(decide ((1:Int)≤(s.size:Int)) && decide ((s.size:Int)≤8)):=by
  unfold nameOkD
  congr 1
  · rw [decide_eq_decide];omega
  · rw [decide_eq_decide];omega
 rw [e]
 go_enter Tryz.func46,Tryz.ntmps46
 go_wp2_with fail
 refine (l01In_any _ _ _ _).mono ?_
 rintro e w' ⟨rfl,rfl⟩
 go_wp2
 go_ret
 exact ⟨rfl,rfl⟩
theorem nameOk_any (s:ByteArray) (w:World) (hs:s.size≤maxLen):Calls Tryz.prog 138 #[.string s] w fun e w' => e=.returned (.bool (nameOkD s))∧w' = w:=by
 unfold maxLen at hs
 have e:nameOkD s=(decide ((1:Int)≤(s.size:Int)) && decide ((s.size:Int)≤8)):=by
  unfold nameOkD
  congr 1
  · rw [decide_eq_decide];omega
  · rw [decide_eq_decide];omega
 rw [e]
 by_cases h:(1:Int)≤(s.size:Int)
 ·
  have h':decide ((1:Int)≤(s.size:Int))=true:=by simp;omega
  rw [h',Bool.true_and]
  go_enter Tryz.func138,Tryz.ntmps138
  go_wp2
  go_ret
  exact ⟨rfl,rfl⟩
 ·
  have h':decide ((1:Int)≤(s.size:Int))=false:=by simp;omega
  rw [h',Bool.false_and]
  go_enter Tryz.func138,Tryz.ntmps138
  go_wp2
  go_ret
  exact ⟨rfl,rfl⟩
theorem fileOk_any (F:FileD) (w:World) (hs:F.name.size≤maxLen) (ht:F.text.size≤maxLen):Calls Tryz.prog 145 #[.agg #[.string F.name,.string F.text,.int .i64 F.kept]] w fun e w' => e=.returned (.bool (fileOkD F))∧Below w.heap.size w w':=by
 obtain ⟨a,b,k⟩:=F
 simp only [fileOkD] at *
 unfold maxLen at ht
 have et:decide (b.size≤20000)=decide ((b.size:Int)≤20000):=by rw [decide_eq_decide];omega
 rw [et]
 cases h1:nameOkD a
 ·
  rw [Bool.false_and]
  go_enter Tryz.func145,Tryz.ntmps145
  go_wp2_with fail
  refine (nameOk_any _ _ hs).mono ?_
  rintro e w' ⟨rfl,rfl⟩
  rw [h1]
  go_wp2
  go_ret
  exact ⟨rfl,(Below.refl _ w).alloc (Nat.le_refl _) _⟩
 ·
  rw [Bool.true_and]
  cases h2:decide ((b.size:Int)≤20000)
  ·
   rw [Bool.false_and]
   go_enter Tryz.func145,Tryz.ntmps145
   go_wp2_with fail
   refine (nameOk_any _ _ hs).mono ?_
   rintro e w' ⟨rfl,rfl⟩
   rw [h1]
   go_wp2
   go_ret
   exact ⟨rfl,(Below.refl _ w).alloc (Nat.le_refl _) _⟩
  ·
   rw [Bool.true_and]
   cases h3:decide (0≤k)
   ·
    rw [Bool.false_and]
    go_enter Tryz.func145,Tryz.ntmps145
    go_wp2_with fail
    refine (nameOk_any _ _ hs).mono ?_
    rintro e w' ⟨rfl,rfl⟩
    rw [h1]
    go_wp2
    go_ret
    exact ⟨rfl,(Below.refl _ w).alloc (Nat.le_refl _) _⟩
   ·
    rw [Bool.true_and]
    go_enter Tryz.func145,Tryz.ntmps145
    go_wp2_with fail
    refine (nameOk_any _ _ hs).mono ?_
    rintro e w' ⟨rfl,rfl⟩
    rw [h1]
    go_wp2
    go_ret
    exact ⟨rfl,(Below.refl _ w).alloc (Nat.le_refl _) _⟩
end Go.Proofs.YtepdckehokdjlaaGreatDoor
