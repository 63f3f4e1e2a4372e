import Derived.Test.YtepdckehokdjlaaGreatDoorMg21
import Derived.Test.YtepdckehokdjlaaGreatDoorMg1
set_option maxRecDepth 100000
set_option maxHeartbeats 1600000
namespace Go.Proofs.YtepdckehokdjlaaGreatDoor
open Go.RowKit
theorem heldActS_any (ao:Option Addr) (cap n k:Nat) (w:World) (hn:n≤1048576) (hk0:0 < k) (hk:k≤10000000) (h:ActsAt w ao (markActDs k n)) :
  Calls Tryz.prog 13 #[.slice ao n cap,.int .i64 (k:Int)] w fun e w' => e=.returned (.int .i64 ((k+4 * n:Nat):Int))∧Below w.heap.size w w':=by
 have HF:=hide h
 clear h
 go_enter Tryz.func13,Tryz.ntmps13
 go_wp2
 go_loopw [1,5] (fun kk ii wr => ∃ (j:Nat),kk=.int .i64 ((k+4 * j:Nat):Int)∧ii=.int .i64 j∧j≤n∧Hid (Below w.heap.size w wr)) (fun _ ii _ => n - (intOf ii).toNat)
 case atStart => exact ⟨0,rfl,rfl,Nat.zero_le _,Below.refl _ _⟩
 case round =>
  obtain ⟨j,rfl,rfl,hj,HB⟩:=hrel
  by_cases hlt:j < n
  ·
   have hlt':decide ((j:Int) < (n:Int))=true:=by simp;omega
   have hi0:(0:Int)≤(j:Int):=by omega
   have hi1:(j:Int) < (n:Int):=by omega
   obtain ⟨b,off,rfl,hbw,hc0,hc1,hc2,hc3⟩:=actsAt_keep HF.out HB.out j (by rw [markActDs_length];exact hlt)
   rw [markActDs_get] at hc0 hc1 hc2 hc3
   obtain ⟨K,HK⟩:∃ K:Nat,Hid (K=k+4 * j):=⟨_,hide rfl⟩
   have hKb:0 < K∧K≤15000000:=by have:=HK.out;omega
   rw [← HK.out] at hc0 hc1 hc2 hc3 ⊢
   have hd0:wr.cell? ⟨b,off+j * 4,none⟩=some (.int .i64 ((K:Int))):=hc0.trans (by simp only [markActD])
   have he0:(((K:Int)) == ((K:Int)))=true:=beq_self_eq_true _
   obtain ⟨s1,hs1⟩:∃ s1:ByteArray,s1=⟨(mk (K+1)).toArray⟩:=⟨_,rfl⟩
   have hd1:wr.cell? ⟨b,off+j * 4+1,none⟩=some (.string s1):=by rw [hs1];exact hc1
   have he1:(s1.toList == s1.toList)=true:=beq_self_eq_true _
   have HM1:Hid (∀ W,Calls Tryz.prog 29 #[.int .i64 ((K:Int)+1)] W fun e w' => e=.returned (.string s1)∧Below W.heap.size W w'):=fun W => by rw [hs1];exact markAct_1 K W (by omega)
   obtain ⟨s2,hs2⟩:∃ s2:ByteArray,s2=⟨(mk (K+2)).toArray⟩:=⟨_,rfl⟩
   have hd2:wr.cell? ⟨b,off+j * 4+2,none⟩=some (.string s2):=by rw [hs2];exact hc2
   have he2:(s2.toList == s2.toList)=true:=beq_self_eq_true _
   have HM2:Hid (∀ W,Calls Tryz.prog 29 #[.int .i64 ((K:Int)+1+1)] W fun e w' => e=.returned (.string s2)∧Below W.heap.size W w'):=fun W => by rw [hs2];exact markAct_2 K W (by omega)
   obtain ⟨s3,hs3⟩:∃ s3:ByteArray,s3=⟨(mk (K+3)).toArray⟩:=⟨_,rfl⟩
   have hd3:wr.cell? ⟨b,off+j * 4+3,none⟩=some (.string s3):=by rw [hs3];exact hc3
   have he3:(s3.toList == s3.toList)=true:=beq_self_eq_true _
   have HM3:Hid (∀ W,Calls Tryz.prog 29 #[.int .i64 ((K:Int)+1+1+1)] W fun e w' => e=.returned (.string s3)∧Below W.heap.size W w'):=fun W => by rw [hs3];exact markAct_3 K W (by omega)
   clear hc0 hc1 hc2 hc3 hs1 hs2 hs3
   have HBW:=hide hbw
   clear hbw
   have B0:Hid (Below wr.heap.size wr wr):=Below.refl _ _
   go_wp2_with fail
   go_region_held3 (fun w' => w'.cell? ⟨b,off+j * 4+1,none⟩=some (.string s1)) (first | go_keep | (exact (b1.cell (p:=⟨b,off+j * 4+1,none⟩) HBW.out).trans hd1)) ((go_at_call 29;refine (HM1.out _).mono ?_;rintro e v1 ⟨rfl,b1⟩))
   have B1:Hid (Below wr.heap.size wr v1):=B0.out.trans (((Below.refl _ _).drew.trans b1).mono B0.out.size)
   clear b1
   have hx1_2:=(B1.out.cell (p:=⟨b,off+j * 4+2,none⟩) HBW.out).trans hd2
   have hx1_3:=(B1.out.cell (p:=⟨b,off+j * 4+3,none⟩) HBW.out).trans hd3
   have hw2:b < v1.heap.size:=Nat.lt_of_lt_of_le HBW.out B1.out.size
   go_wp2_with fail
   go_region_held3 (fun w' => w'.cell? ⟨b,off+j * 4+2,none⟩=some (.string s2)) (first | go_keep | (exact (b2.cell (p:=⟨b,off+j * 4+2,none⟩) hw2).trans hx1_2)) ((go_at_call 29;refine (HM2.out _).mono ?_;rintro e v2 ⟨rfl,b2⟩))
   have B2:Hid (Below wr.heap.size wr v2):=B1.out.trans (((Below.refl _ _).drew.trans b2).mono B1.out.size)
   clear b2
   have hx2_3:=(B2.out.cell (p:=⟨b,off+j * 4+3,none⟩) HBW.out).trans hd3
   have hw3:b < v2.heap.size:=Nat.lt_of_lt_of_le HBW.out B2.out.size
   go_wp2_with fail
   go_region_held3 (fun w' => w'.cell? ⟨b,off+j * 4+3,none⟩=some (.string s3)) (first | go_keep | (exact (b3.cell (p:=⟨b,off+j * 4+3,none⟩) hw3).trans hx2_3)) ((go_at_call 29;refine (HM3.out _).mono ?_;rintro e v3 ⟨rfl,b3⟩))
   have B3:Hid (Below wr.heap.size wr v3):=B2.out.trans (((Below.refl _ _).drew.trans b3).mono B2.out.size)
   clear b3
   go_wp2
   go_roundw
   case rel =>
    refine ⟨j+1,?_,by go_num,by omega,HB.out.trans (B3.out.mono HB.out.size)⟩
    have:=HK.out
    congr 1
    omega
   case measure => simp [intOf];omega
  ·
   have hlt':decide ((j:Int) < (n:Int))=false:=by simp;omega
   have hje:j=n:=by omega
   subst hje
   go_wp2
   go_ret
   exact ⟨rfl,HB.out⟩
theorem markActS_nil (k:Int) (w:World):Calls Tryz.prog 11 #[.slice none 0 0,.int .i64 k] w fun e w' => e=.returned (.int .i64 k)∧w' = w:=by
 go_enter Tryz.func11,Tryz.ntmps11
 go_wp2
 go_loop [1,5] (fun kk ii => kk=.int .i64 k∧ii=.int .i64 0) (fun _ _ => 0)
 case atStart => exact ⟨rfl,rfl⟩
 case round =>
  obtain ⟨rfl,rfl⟩:=hrel
  go_wp2
  go_ret
  exact ⟨rfl,rfl⟩
theorem markActS_own (v:Value) (fs:List ActD) (B k:Nat) (w:World) (hn:fs.length≤1048576) (hk0:0 < k) (hk:k≤10000000) (h:RowAct w B v fs) :
  Calls Tryz.prog 11 #[v,.int .i64 (k:Int)] w fun e w' => e=.returned (.int .i64 ((k+4 * fs.length:Nat):Int))∧RowAct w' B v (markActDs k fs.length)∧w.grownBy w' v.ownBlock:=by
 rcases h with ⟨rfl,rfl⟩ | ⟨g,cap,C,rfl,hB,hC,hs,hI⟩
 ·
  refine (markActS_nil _ _).mono ?_
  rintro e w1 ⟨rfl,rfl⟩
  exact ⟨rfl,.inl ⟨rfl,rfl⟩,World.grownBy.refl _ _⟩
 ·
  refine (markActS_row g cap fs.length C k w hn hk0 hk hC hs).mono ?_
  rintro e w1 ⟨rfl,⟨C1,hC1,hs1,hI1⟩,hg⟩
  refine ⟨rfl,.inr ⟨g,cap,C1,by rw [markActDs_length],hB,hC1,by rw [markActDs_length];omega,by rw [markActDs_length];exact hI1⟩,hg⟩
end Go.Proofs.YtepdckehokdjlaaGreatDoor
