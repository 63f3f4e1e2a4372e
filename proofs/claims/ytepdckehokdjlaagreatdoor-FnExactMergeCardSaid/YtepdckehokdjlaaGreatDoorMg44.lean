import Derived.Test.YtepdckehokdjlaaGreatDoorMg21
import Derived.Test.YtepdckehokdjlaaGreatDoorMg5
import Derived.Test.YtepdckehokdjlaaGreatDoorMg7
import Derived.Test.YtepdckehokdjlaaGreatDoorMg37
import Derived.Test.YtepdckehokdjlaaGreatDoorMg32
import Derived.Test.YtepdckehokdjlaaGreatDoorMg33
import Derived.Test.YtepdckehokdjlaaGreatDoorMg43
import Derived.Test.YtepdckehokdjlaaGreatDoorMg24
import Derived.Test.YtepdckehokdjlaaGreatDoorMg6
import Derived.Test.YtepdckehokdjlaaGreatDoorMg28
import Derived.Test.YtepdckehokdjlaaGreatDoorMg40
import Derived.Test.YtepdckehokdjlaaGreatDoorMg1
import Derived.Test.YtepdckehokdjlaaGreatDoorMg0
set_option maxRecDepth 100000
set_option maxHeartbeats 1600000
namespace Go.Proofs.YtepdckehokdjlaaGreatDoor
open Go.RowKit
theorem rowF_rowsE {w:World} {B n c:Nat} {a:Option Addr} {fs:List FileD} (h:RowF w B (.slice a n c) fs):FilesAt w a fs:=by
 obtain ⟨ao,cap,e,hf⟩:=rowF_at h
 cases e
 exact hf
theorem szFs_le3:∀ (fs:List FileD) (n:Int),0≤n→szFs fs n≤n
 | [],_,_ => Int.le_refl _
 | F :: r,n,h => by
  unfold szFs
  split
  · omega
  ·
   have:=szF_le F n h
   have:=szFs_le3 r (szF F n) (by omega)
   omega
theorem toEngine_row (fs:List FileD) (ao ad:Option Addr) (cap cd:Nat) (room act seq:Int) (dir:List SpotD) (w:World) (hl:fs.length≤1048576) (hfs:FilesAt w ao fs) (hld:dir.length≤1048576) (hds:SpotsAt w ad dir) :
  Calls Tryz.prog 6 #[.agg #[.slice ao fs.length cap,.int .i64 room,.int .i64 act,.int .i64 seq,.slice ad dir.length cd]] w fun e w' => (∃ a1 a2:Option Addr,e=.returned (.agg #[.slice a1 fs.length fs.length,.int .i64 room,.int .i64 act,.int .i64 seq,.slice a2 dir.length dir.length])∧RowF w' w.heap.size (.slice a1 fs.length fs.length) fs∧RowSpot w' w.heap.size (.slice a2 dir.length dir.length) dir)∧Below w.heap.size w w':=by
 have HF:=hide hfs
 have HD:=hide hds
 clear hfs hds
 obtain ⟨wb,hwb⟩:∃ wb,wb=((w.alloc (.cells #[.slice ao fs.length cap,.int .i64 room,.int .i64 act,.int .i64 seq,.slice ad dir.length cd] 27)).alloc (.cells #[.slice none 0 0,.int .i64 0,.int .i64 0,.int .i64 0,.slice none 0 0] 34)).alloc (.cells #[.slice none 0 0,.int .i64 0,.int .i64 0,.int .i64 0,.slice none 0 0] 34):=⟨_,rfl⟩
 have HB0:Hid (Below w.heap.size w wb):=by rw [hwb];exact (((Below.refl _ w).alloc (Nat.le_refl _) _).alloc (by simp) _).alloc (by simp;omega) _
 have hbs:wb.heap.size=w.heap.size+3:=by rw [hwb];simp
 have HBA:Hid (wb.heap[w.heap.size]? = some (.cells #[.slice ao fs.length cap,.int .i64 room,.int .i64 act,.int .i64 seq,.slice ad dir.length cd] 27 (0,0))):=by
  show _=_
  rw [hwb]
  exact (Below.heap_alloc _ _ _ (by simp;omega)).trans ((Below.heap_alloc _ _ _ (by simp)).trans (heap_alloc_new w _))
 have HB1:Hid (wb.heap[w.heap.size+1]? = some (.cells #[.slice none 0 0,.int .i64 0,.int .i64 0,.int .i64 0,.slice none 0 0] 34 (0,0))):=by
  show _=_
  rw [hwb]
  refine (Below.heap_alloc _ _ _ (by simp)).trans ?_
  have:=heap_alloc_new (w.alloc (.cells #[.slice ao fs.length cap,.int .i64 room,.int .i64 act,.int .i64 seq,.slice ad dir.length cd] 27)) (.cells #[.slice none 0 0,.int .i64 0,.int .i64 0,.int .i64 0,.slice none 0 0] 34)
  rwa [World.size_alloc] at this
 have HB2:Hid (wb.heap[w.heap.size+1+1]? = some (.cells #[.slice none 0 0,.int .i64 0,.int .i64 0,.int .i64 0,.slice none 0 0] 34 (0,0))):=by
  show _=_
  rw [hwb]
  have:=heap_alloc_new ((w.alloc (.cells #[.slice ao fs.length cap,.int .i64 room,.int .i64 act,.int .i64 seq,.slice ad dir.length cd] 27)).alloc (.cells #[.slice none 0 0,.int .i64 0,.int .i64 0,.int .i64 0,.slice none 0 0] 34)) (.cells #[.slice none 0 0,.int .i64 0,.int .i64 0,.int .i64 0,.slice none 0 0] 34)
  rwa [World.size_alloc,World.size_alloc] at this
 obtain ⟨ha0,ha1,ha2,ha3,ha4,-⟩:=five_cells HBA.out
 go_enter Tryz.func6,Tryz.ntmps6
 go_wp2_with fail
 rw [← hwb]
 clear hwb
 go_wp2_with fail
 refine (toDisk_any fs ao cap _ hl (filesAt_keep HF.out HB0.out)).mono ?_
 rintro e w1 ⟨⟨g1,C1,rfl,hg1,hC1,hCs1,hI1⟩,b1⟩
 have BB1:=hide b1
 have HF1:=hide (filesAt_own hC1 hI1)
 have hw1:wb.heap.size≤w1.heap.size:=b1.size
 have HA1:=hide ((b1.block _ (heap_lt HBA.out)).trans HBA.out)
 have H11:=hide ((b1.block _ (heap_lt HB1.out)).trans HB1.out)
 have H12:=hide ((b1.block _ (heap_lt HB2.out)).trans HB2.out)
 obtain ⟨hy0,hy1,hy2,hy3,hy4,-⟩:=five_cells HA1.out
 obtain ⟨hx0,hx1,hx2,hx3,hx4,hf0,hf1,hf2,hf3,hf4⟩:=five_cells H12.out
 have HC1:=hide hC1
 have HI1:=hide hI1
 clear b1 hC1 hI1 ha0 ha1 ha2 ha3 ha4
 obtain ⟨W4,hW4⟩:∃ W,W=(((w1.setCell ⟨w.heap.size+1+1,0,none⟩ (.slice (some ⟨g1,0,none⟩) fs.length fs.length)).setCell ⟨w.heap.size+1+1,1,none⟩ (.int .i64 room)).setCell ⟨w.heap.size+1+1,2,none⟩ (.int .i64 act)).setCell ⟨w.heap.size+1+1,3,none⟩ (.int .i64 seq):=⟨_,rfl⟩
 have G4:Hid (w1.grownBy W4 (some (w.heap.size+1+1))):=by rw [hW4];exact grownBy_store (grownBy_store (grownBy_store (grownBy_store (World.grownBy.refl w1 _) 0 _) 1 _) 2 _) 3 _
 have H42:Hid (W4.heap[w.heap.size+1+1]? = some (.cells #[.slice (some ⟨g1,0,none⟩) fs.length fs.length,.int .i64 room,.int .i64 act,.int .i64 seq,.slice none 0 0] 34 (0,0))):=by
  have c0:=(heap_setCell_same w1 (w.heap.size+1+1) 0 _ _ (.slice (some ⟨g1,0,none⟩) fs.length fs.length) H12.out).trans rfl
  have c1:=(heap_setCell_same _ (w.heap.size+1+1) 1 _ _ (.int .i64 room) c0).trans rfl
  have c2:=(heap_setCell_same _ (w.heap.size+1+1) 2 _ _ (.int .i64 act) c1).trans rfl
  have c3:=(heap_setCell_same _ (w.heap.size+1+1) 3 _ _ (.int .i64 seq) c2).trans rfl
  rw [hW4]
  show _=_
  rw [c3]
  rfl
 have H41:=hide ((G4.out.block _ (heap_lt H11.out) (by simp)).trans H11.out)
 have HC4:=hide ((G4.out.block _ (heap_lt HC1.out) (by simp;omega)).trans HC1.out)
 have B04:Hid (Below w.heap.size w W4):=(HB0.out.trans (BB1.out.mono HB0.out.size)).grown G4.out (by have:=HB0.out.size;omega) (fun k hk => by cases hk;omega)
 have hs4:w1.heap.size≤W4.heap.size:=G4.out.size
 go_wp2_with fail
 rw [← hW4]
 clear hW4 hy0 hy1 hy2 hy3 hy4 hx0 hx1 hx2 hx3 hx4 hf0 hf1 hf2 hf3 hf4
 refine (toSpotS_any dir ad cd _ hld (spotsAt_keep HD.out B04.out)).mono ?_
 rintro e w2 ⟨⟨C2,rfl,hC2,hCs2,hI2⟩,b2⟩
 have B02:=hide (B04.out.trans (b2.mono B04.out.size))
 have HS2:=hide hC2
 have HI2:=hide hI2
 have H22:=hide ((b2.block _ (heap_lt H42.out)).trans H42.out)
 have H21:=hide ((b2.block _ (heap_lt H41.out)).trans H41.out)
 have HC2':=hide ((b2.block _ (heap_lt HC4.out)).trans HC4.out)
 have hs2:=b2.size
 obtain ⟨hx0,hx1,hx2,hx3,hx4,hf0,hf1,hf2,hf3,hf4⟩:=five_cells H22.out
 clear b2 hC2 hI2
 obtain ⟨W5,hW5⟩:∃ W,W=w2.setCell ⟨w.heap.size+1+1,4,none⟩ (.slice (some ⟨W4.heap.size,0,none⟩) dir.length dir.length):=⟨_,rfl⟩
 have G5:Hid (w2.grownBy W5 (some (w.heap.size+1+1))):=by rw [hW5];exact grownBy_store (World.grownBy.refl w2 _) 4 _
 have H52:Hid (W5.heap[w.heap.size+1+1]? = some (.cells #[.slice (some ⟨g1,0,none⟩) fs.length fs.length,.int .i64 room,.int .i64 act,.int .i64 seq,.slice (some ⟨W4.heap.size,0,none⟩) dir.length dir.length] 34 (0,0))):=by
  have c0:=(heap_setCell_same w2 (w.heap.size+1+1) 4 _ _ (.slice (some ⟨W4.heap.size,0,none⟩) dir.length dir.length) H22.out).trans rfl
  rw [hW5]
  show _=_
  rw [c0]
  rfl
 have H51:=hide ((G5.out.block _ (heap_lt H21.out) (by simp)).trans H21.out)
 have HC5:=hide ((G5.out.block _ (heap_lt HC2'.out) (by simp;omega)).trans HC2'.out)
 have HS5:=hide ((G5.out.block _ (heap_lt HS2.out) (by simp;omega)).trans HS2.out)
 have B05:Hid (Below w.heap.size w W5):=B02.out.grown G5.out (by have:=B02.out.size;omega) (fun k hk => by cases hk;omega)
 obtain ⟨hv0,hv1,hv2,hv3,hv4,-⟩:=five_cells H52.out
 obtain ⟨hu0,hu1,hu2,hu3,hu4,hk0,hk1,hk2,hk3,hk4⟩:=five_cells H51.out
 subst hW5
 go_wp2
 obtain ⟨y0,y1,y2⟩:=box5 (.slice (some ⟨g1,0,none⟩) fs.length fs.length) (.int .i64 room) (.int .i64 act) (.int .i64 seq) (.slice (some ⟨W4.heap.size,0,none⟩) dir.length dir.length) H51.out B05.out (Nat.le_succ _) _ rfl
 obtain ⟨x0,x1,x2,x3,x4,-⟩:=five_cells y0
 refine bodyPost_ret (v:=.agg #[.slice (some ⟨g1,0,none⟩) fs.length fs.length,.int .i64 room,.int .i64 act,.int .i64 seq,.slice (some ⟨W4.heap.size,0,none⟩) dir.length dir.length]) ?_ rfl ?_
 · simp [results,Tryz.results6,go_sem,x0,x1,x2,x3,x4]
 · exact ⟨⟨_,_,rfl,.inr ⟨g1,fs.length,C1,rfl,by omega,(y2.block _ (heap_lt HC5.out) (by simp;omega)).trans HC5.out,by omega,HI1.out⟩,.inr ⟨W4.heap.size,dir.length,C2,rfl,by omega,(y2.block _ (heap_lt HS5.out) (by simp;omega)).trans HS5.out,by omega,HI2.out⟩⟩,y1⟩
theorem toEngine_any (fs:List FileD) (ao ad:Option Addr) (cap cd:Nat) (room act seq:Int) (dir:List SpotD) (w:World) (hl:fs.length≤1048576) (hfs:FilesAt w ao fs) (hld:dir.length≤1048576) (hds:SpotsAt w ad dir) :
  Calls Tryz.prog 6 #[.agg #[.slice ao fs.length cap,.int .i64 room,.int .i64 act,.int .i64 seq,.slice ad dir.length cd]] w fun e w' => (∃ a1 a2:Option Addr,e=.returned (.agg #[.slice a1 fs.length fs.length,.int .i64 room,.int .i64 act,.int .i64 seq,.slice a2 dir.length dir.length])∧FilesAt w' a1 fs∧SpotsAt w' a2 dir)∧Below w.heap.size w w':=by
 refine (toEngine_row fs ao ad cap cd room act seq dir w hl hfs hld hds).mono ?_
 rintro e w' ⟨⟨a1,a2,h1,h2,h3⟩,h4⟩
 refine ⟨⟨a1,a2,h1,?_,rowSpot_rows h3⟩,h4⟩
 obtain ⟨ao',cap',e',hf⟩:=rowF_at h2
 cases e'
 exact hf
theorem eqEngine_same (fs:List FileD) (a1 a2 d1 d2:Option Addr) (c1 c2 e1 e2:Nat) (room act seq:Int) (dir:List SpotD) (w:World) (hl:fs.length≤maxLen) (h1:FilesAt w a1 fs) (h2:FilesAt w a2 fs) (hld:dir.length≤maxLen) (h3:SpotsAt w d1 dir) (h4:SpotsAt w d2 dir) :
  Calls Tryz.prog 8 #[.agg #[.slice a1 fs.length c1,.int .i64 room,.int .i64 act,.int .i64 seq,.slice d1 dir.length e1],.agg #[.slice a2 fs.length c2,.int .i64 room,.int .i64 act,.int .i64 seq,.slice d2 dir.length e2]] w fun e w' => e=.returned (.bool true)∧Below w.heap.size w w':=by
 have H1:=hide h1
 have H2:=hide h2
 have H3:=hide h3
 have H4:=hide h4
 clear h1 h2 h3 h4
 obtain ⟨wb,hwb⟩:∃ wb,wb=(w.alloc (.cells #[.slice a1 fs.length c1,.int .i64 room,.int .i64 act,.int .i64 seq,.slice d1 dir.length e1] 34)).alloc (.cells #[.slice a2 fs.length c2,.int .i64 room,.int .i64 act,.int .i64 seq,.slice d2 dir.length e2] 34):=⟨_,rfl⟩
 have HB0:Hid (Below w.heap.size w wb):=by rw [hwb];exact ((Below.refl _ w).alloc (Nat.le_refl _) _).alloc (by simp) _
 have HBA:Hid (wb.heap[w.heap.size]? = some (.cells #[.slice a1 fs.length c1,.int .i64 room,.int .i64 act,.int .i64 seq,.slice d1 dir.length e1] 34 (0,0))):=by
  show _=_
  rw [hwb]
  exact (Below.heap_alloc _ _ _ (by simp)).trans (heap_alloc_new w _)
 have HBB:Hid (wb.heap[w.heap.size+1]? = some (.cells #[.slice a2 fs.length c2,.int .i64 room,.int .i64 act,.int .i64 seq,.slice d2 dir.length e2] 34 (0,0))):=by
  show _=_
  rw [hwb]
  have:=heap_alloc_new (w.alloc (.cells #[.slice a1 fs.length c1,.int .i64 room,.int .i64 act,.int .i64 seq,.slice d1 dir.length e1] 34)) (.cells #[.slice a2 fs.length c2,.int .i64 room,.int .i64 act,.int .i64 seq,.slice d2 dir.length e2] 34)
  rwa [World.size_alloc] at this
 go_enter Tryz.func8,Tryz.ntmps8
 go_wp2_with fail
 rw [← hwb]
 clear hwb
 refine (eqDisk_same fs a1 a2 c1 c2 _ hl (filesAt_keep H1.out HB0.out) (filesAt_keep H2.out HB0.out)).mono ?_
 rintro e w1 ⟨rfl,b1⟩
 have B1:=hide (HB0.out.trans (b1.mono HB0.out.size))
 obtain ⟨hy0,hy1,hy2,hy3,hy4,-⟩:=five_cells ((b1.block _ (heap_lt HBA.out)).trans HBA.out)
 obtain ⟨hx0,hx1,hx2,hx3,hx4,-⟩:=five_cells ((b1.block _ (heap_lt HBB.out)).trans HBB.out)
 have hn1:(room != room)=false:=by simp
 have hn2:(act != act)=false:=by simp
 have hn3:(seq != seq)=false:=by simp
 clear b1
 go_wp2_with fail
 refine (eqSpotS_same dir d1 d2 e1 e2 _ hld (spotsAt_keep H3.out B1.out) (spotsAt_keep H4.out B1.out)).mono ?_
 rintro e w2 ⟨rfl,b2⟩
 go_wp2
 go_ret
 exact ⟨rfl,B1.out.trans (b2.mono B1.out.size)⟩
theorem szEngine_le (fs:List FileD) (ao ad:Option Addr) (cap cd:Nat) (room act seq:Int) (dir:List SpotD) (w:World) (hl:fs.length≤maxLen) (hfs:FilesAt w ao fs) (hsz:∀ F ∈ fs,F.name.size≤maxLen∧F.text.size≤maxLen) (hld:dir.length≤maxLen) (hds:SpotsAt w ad dir) (hszd:∀ A ∈ dir,A.key.size≤maxLen) :
  Calls Tryz.prog 4 #[.agg #[.slice ao fs.length cap,.int .i64 room,.int .i64 act,.int .i64 seq,.slice ad dir.length cd],.int .i64 1048576] w fun e w' => (∃ r:Int,e=.returned (.int .i64 r)∧(0≤r→fs.length≤1048576∧dir.length≤1048576∧(∀ F ∈ fs,F.name.size≤1048576∧F.text.size≤1048576))∧r≤1048576∧(0≤r→r+fs.length+dir.length≤1048576))∧Below w.heap.size w w':=by
 have HF:=hide hfs
 have HD:=hide hds
 have HSD:=hide (fun W hW => szDisk_any fs ao cap 1048576 W (by decide) (by decide) hl hW hsz)
 clear hfs hds hsz
 obtain ⟨wb,hwb⟩:∃ wb,wb=w.alloc (.cells #[.slice ao fs.length cap,.int .i64 room,.int .i64 act,.int .i64 seq,.slice ad dir.length cd] 27):=⟨_,rfl⟩
 have HB0:Hid (Below w.heap.size w wb):=by rw [hwb];exact (Below.refl _ w).alloc (Nat.le_refl _) _
 have HBK:Hid (wb.heap[w.heap.size]? = some (.cells #[.slice ao fs.length cap,.int .i64 room,.int .i64 act,.int .i64 seq,.slice ad dir.length cd] 27 (0,0))):=by rw [hwb];exact heap_alloc_new w _
 obtain ⟨hz0,hz1,hz2,hz3,hz4,-⟩:=five_cells HBK.out
 go_enter Tryz.func4,Tryz.ntmps4
 go_wp2_with fail
 rw [← hwb]
 clear hwb
 go_wp2_with fail
 refine (HSD.out _ (filesAt_keep HF.out HB0.out)).mono ?_
 rintro e w1 ⟨⟨r,rfl,hr⟩,b1⟩
 have B1:=hide (HB0.out.trans (b1.mono HB0.out.size))
 obtain ⟨hy0,hy1,hy2,hy3,hy4,-⟩:=five_cells ((b1.block _ (heap_lt HBK.out)).trans HBK.out)
 have HR:=hide hr
 clear b1 hr
 by_cases hneg:r < 0
 ·
  have hneg':decide (r < 0)=true:=by simp;omega
  go_wp2
  go_ret
  exact ⟨⟨-1,rfl,fun h => absurd h (by omega),by omega,fun h => absurd h (by omega)⟩,B1.out⟩
 ·
  have hneg':decide (r < 0)=false:=by simp;omega
  obtain ⟨hr1,hr2⟩:=HR.out (by omega)
  have HZ:=hide (szFs_small fs (1048576 - fs.length) (by omega) (by omega) (by omega))
  have hr4:r≤1048576 - fs.length:=by
   have:=szFs_le3 fs (1048576 - fs.length) (by omega)
   omega
  have hr3:r≤1048576:=by omega
  clear hr1 HR
  have HSS:=hide (fun W hW => szSpotS_any dir ad cd r W (by omega) hr3 hld hW hszd)
  go_wp2_with fail
  refine (HSS.out _ (spotsAt_keep HD.out B1.out)).mono ?_
  rintro e w2 ⟨rfl,b2⟩
  have B2:=hide (B1.out.trans (b2.mono B1.out.size))
  clear b2
  obtain ⟨q,HQ⟩:∃ q,Hid ((if r < dir.length then -1 else szSpotDs dir (r - dir.length))=q):=⟨_,hide rfl⟩
  rw [HQ.out]
  have HQ2:Hid (0≤q→dir.length≤1048576):=fun h => by
   have h1:=HQ.out
   split at h1 <;> omega
  by_cases hq:q < 0
  ·
   have hq':decide (q < 0)=true:=by simp;omega
   go_wp2
   go_ret
   exact ⟨⟨-1,rfl,fun h => absurd h (by omega),by omega,fun h => absurd h (by omega)⟩,B2.out⟩
  ·
   have hq':decide (q < 0)=false:=by simp;omega
   go_wp2
   go_ret
   exact ⟨⟨q,rfl,fun h => ⟨by omega,HQ2.out h,HZ.out⟩,by
    have h1:=HQ.out
    split at h1
    · omega
    ·
     have:=szSpotDs_le dir (r - dir.length) (by omega)
     omega,fun h => by
    have h1:=HQ.out
    split at h1
    · omega
    ·
     have:=szSpotDs_le dir (r - dir.length) (by omega)
     omega⟩,B2.out⟩
def markF (k:Nat):FileD:=⟨⟨(mk k).toArray⟩,⟨(mk (k+1)).toArray⟩,((k+2:Nat):Int)⟩
def marksF (k n:Nat):List FileD:=(List.range n).map (fun j => markF (k+3 * j))
theorem marksF_length (k n:Nat):(marksF k n).length=n:=by simp [marksF]
theorem marksF_get (k n j:Nat) (h:j < (marksF k n).length):(marksF k n)[j]=markF (k+3 * j):=by simp [marksF]
theorem filesIn_put' {C:Array Value} {fs:List FileD} {k:Nat} (h:FilesIn C fs k) (hk:k < fs.length) (hs:fs.length * 3≤C.size):FilesIn (putFile C k fs[k]) fs (k+1):=by
 intro j hj hjk
 unfold putFile
 by_cases e:j=k
 ·
  subst e
  refine ⟨?_,?_,?_⟩ <;> simp [Array.getElem?_setIfInBounds] <;> omega
 ·
  obtain ⟨h1,h2,h3⟩:=h j hj (by omega)
  refine ⟨?_,?_,?_⟩
  · rw [Array.getElem?_setIfInBounds_ne (by omega),Array.getElem?_setIfInBounds_ne (by omega),Array.getElem?_setIfInBounds_ne (by omega)];exact h1
  · rw [Array.getElem?_setIfInBounds_ne (by omega),Array.getElem?_setIfInBounds_ne (by omega),Array.getElem?_setIfInBounds_ne (by omega)];exact h2
  · rw [Array.getElem?_setIfInBounds_ne (by omega),Array.getElem?_setIfInBounds_ne (by omega),Array.getElem?_setIfInBounds_ne (by omega)];exact h3
theorem mark_next (K:Nat) (w:World) (h:K≤20000000):Calls Tryz.prog 29 #[.int .i64 ((K:Int)+1)] w fun e w' => e=.returned (.string ⟨(mk (K+1)).toArray⟩)∧Below w.heap.size w w':=by
 have h:=mark_any (K+1) w (by omega) (by omega)
 rw [show (((K+1:Nat)):Int)=(K:Int)+1 from by omega] at h
 exact h
theorem markFileS_row (g cap n:Nat) (C0:Array Value) (k:Nat) (w:World) (hn:n≤1048576) (hk0:0 < k) (hk:k≤10000000) (hC:w.heap[g]? = some (.cells C0 95 (0,0))) (hs:n * 3≤C0.size) :
  Calls Tryz.prog 70 #[.slice (some ⟨g,0,none⟩) n cap,.int .i64 (k:Int)] w fun e w' => e=.returned (.int .i64 ((k+3 * n:Nat):Int))∧(∃ C:Array Value,w'.heap[g]? = some (.cells C 95 (0,0))∧C.size=C0.size∧FilesIn C (marksF k n) n)∧w.grownBy w' (some g):=by
 have HC0:=hide hC
 clear hC
 go_enter Tryz.func70,Tryz.ntmps70
 go_wp2
 go_loopw [1,5] (fun kk ii wr => ∃ (j:Nat) (C:Array Value),kk=.int .i64 ((k+3 * j:Nat):Int)∧ii=.int .i64 j∧j≤n∧Hid (wr.heap[g]? = some (.cells C 95 (0,0)))∧C.size=C0.size∧Hid (FilesIn C (marksF k n) j)∧Hid (w.grownBy wr (some g))) (fun _ ii _ => n - (intOf ii).toNat)
 case atStart => exact ⟨0,C0,rfl,rfl,Nat.zero_le _,HC0,rfl,fun j _ hj => absurd hj (by omega),World.grownBy.refl _ _⟩
 case round =>
  obtain ⟨j,C,rfl,rfl,hj,HC,hCs,HI,HG⟩:=hrel
  by_cases hlt:j < n
  ·
   have hlt':decide ((j:Int) < (n:Int))=true:=by simp;omega
   have hi0:(0:Int)≤(j:Int):=by omega
   have hi1:(j:Int) < (n:Int):=by omega
   have hgw:g < wr.heap.size:=(Array.getElem?_eq_some_iff.1 HC.out).1
   obtain ⟨K,HK⟩:∃ K:Nat,Hid (K=k+3 * j):=⟨_,hide rfl⟩
   have hKb:0 < K∧K≤14000000:=by have:=HK.out;omega
   rw [← HK.out]
   go_wp2_with fail
   refine (mark_any K _ (by omega) (by omega)).mono ?_
   rintro e w1 ⟨rfl,b1⟩
   have hC1:w1.heap[g]? = some (.cells C 95 (0,0)):=(b1.block g hgw).trans HC.out
   have hq0:=cell_of_row w1 g (j * 3) C _ (0,0) hC1
   have hf0:=frozen_of_row w1 g (j * 3) C _ hC1
   rw [Array.getElem?_eq_getElem (by omega)] at hq0
   have HB1:=hide b1
   have HC1:=hide hC1
   clear b1 hC1
   go_wp2_with fail
   refine (mark_next K _ (by omega)).mono ?_
   rintro e w2 ⟨rfl,b2⟩
   have hC2:w2.heap[g]? = some (.cells (C.setIfInBounds (j * 3) (.string ⟨(mk K).toArray⟩)) 95 (0,0)):=(b2.block g (by have:=HB1.out.size;simpa [World.setCell] using Nat.lt_of_lt_of_le hgw this)).trans (heap_setCell_same w1 g (j * 3) C _ _ HC1.out)
   have hr1:=cell_of_row w2 g (j * 3+1) _ _ (0,0) hC2
   have hr2:=cell_of_row w2 g (j * 3+2) _ _ (0,0) hC2
   have he1:=frozen_of_row w2 g (j * 3+1) _ _ hC2
   have he2:=frozen_of_row w2 g (j * 3+2) _ _ hC2
   rw [Array.getElem?_eq_getElem (by simp;omega)] at hr1 hr2
   have HC2:=hide hC2
   have HB2:=hide b2
   clear hC2 b2 hq0 hf0
   go_wp2_with fail
   go_roundw
   case rel =>
    have hl:=marksF_length k n
    have HP:=filesIn_put' HI.out (by omega) (by omega)
    rw [marksF_get,← HK.out] at HP
    have hg2:w.grownBy w2 (some g):=grownBy_trans (grownBy_store (grownBy_trans HG.out (grownBy_below _ HB1.out)) (j * 3) (.string ⟨(mk K).toArray⟩)) (grownBy_below _ HB2.out)
    refine ⟨j+1,putFile C j (markF K),?_,by go_num,by omega,heap_setCell_same _ g _ _ _ _ (heap_setCell_same _ g _ _ _ _ HC2.out),by rw [putFile_size];exact hCs,HP,grownBy_store (grownBy_store hg2 (j * 3+1) _) (j * 3+2) _⟩
    have:=HK.out
    congr 1
    omega
   case measure => simp [intOf];omega
  ·
   have hlt':decide ((j:Int) < (n:Int))=false:=by simp;omega
   have hje:j=n:=by omega
   subst hje
   go_wp2
   go_ret
   exact ⟨rfl,⟨C,HC.out,hCs,HI.out⟩,HG.out⟩
theorem markFileS_nil (k:Int) (w:World) :
  Calls Tryz.prog 70 #[.slice none 0 0,.int .i64 k] w fun e w' => e=.returned (.int .i64 k)∧w' = w:=by
 go_enter Tryz.func70,Tryz.ntmps70
 go_wp2
 go_loop [1,5] (fun kk ii => kk=.int .i64 k∧ii=.int .i64 0) (fun _ _ => 0)
 case atStart => exact ⟨rfl,rfl⟩
 case round =>
  obtain ⟨rfl,rfl⟩:=hrel
  go_wp2
  go_ret
  exact ⟨rfl,rfl⟩
theorem markDisk_row (v:Value) (fs:List FileD) (B k:Nat) (w:World) (hn:fs.length≤1048576) (hk0:0 < k) (hk:k≤10000000) (h:RowF w B v fs) :
  Calls Tryz.prog 27 #[.agg #[v],.int .i64 (k:Int)] w fun e w' => e=.returned (.int .i64 ((k+3 * fs.length:Nat):Int))∧RowF w' B v (marksF k fs.length)∧w.grownBy w' v.ownBlock:=by
 rcases h with ⟨rfl,rfl⟩ | ⟨g,cap,C,rfl,hB,hC,hs,hI⟩
 ·
  go_enter Tryz.func27,Tryz.ntmps27
  go_wp2_with fail
  refine (markFileS_nil _ _).mono ?_
  rintro e w1 ⟨rfl,rfl⟩
  go_wp2
  go_ret
  exact ⟨rfl,.inl ⟨rfl,rfl⟩,grownBy_below _ ((Below.refl _ w).alloc (Nat.le_refl _) _)⟩
 ·
  have hgw:g < w.heap.size:=(Array.getElem?_eq_some_iff.1 hC).1
  have HC:=hide hC
  clear hC hI
  obtain ⟨n,hN⟩:∃ n,n=fs.length:=⟨_,rfl⟩
  rw [← hN] at hn hs ⊢
  clear hN
  have b0:Below w.heap.size w (w.alloc (.cells #[.slice (some ⟨g,0,none⟩) n cap] 31)):=(Below.refl _ w).alloc (Nat.le_refl _) _
  have HB0:=hide b0
  clear b0
  go_enter Tryz.func27,Tryz.ntmps27
  go_wp2_with fail
  refine (markFileS_row g cap n C k _ hn hk0 hk ((HB0.out.block g hgw).trans HC.out) hs).mono ?_
  rintro e w1 ⟨rfl,⟨C1,hC1,hCs,hI1⟩,hg1⟩
  have H1:=hide hC1
  have H2:=hide hI1
  have H3:=hide hg1
  clear hC1 hI1 hg1
  go_wp2
  go_ret
  have hl:=marksF_length k n
  refine ⟨rfl,.inr ⟨g,cap,C1,by rw [hl],hB,H1.out,by omega,by rw [hl];exact H2.out⟩,grownBy_trans (grownBy_below _ HB0.out) H3.out⟩
theorem heldFileS_any (ao:Option Addr) (cap n k:Nat) (w:World) (hn:n≤1048576) (hk0:0 < k) (hk:k≤10000000) (h:FilesAt w ao (marksF k n)) :
  Calls Tryz.prog 71 #[.slice ao n cap,.int .i64 (k:Int)] w fun e w' => e=.returned (.int .i64 ((k+3 * n:Nat):Int))∧Below w.heap.size w w':=by
 have HF:=hide h
 clear h
 go_enter Tryz.func71,Tryz.ntmps71
 go_wp2
 go_loopw [1,5] (fun kk ii wr => ∃ (j:Nat),kk=.int .i64 ((k+3 * j:Nat):Int)∧ii=.int .i64 j∧j≤n∧Hid (Below w.heap.size w wr)) (fun _ ii _ => n - (intOf ii).toNat)
 case atStart => exact ⟨0,rfl,rfl,Nat.zero_le _,Below.refl _ _⟩
 case round =>
  obtain ⟨j,rfl,rfl,hj,HB⟩:=hrel
  by_cases hlt:j < n
  ·
   have hlt':decide ((j:Int) < (n:Int))=true:=by simp;omega
   have hi0:(0:Int)≤(j:Int):=by omega
   have hi1:(j:Int) < (n:Int):=by omega
   obtain ⟨b,off,rfl,hbw,hc0,hc1,hc2⟩:=filesAt_keep HF.out HB.out j (by rw [marksF_length];exact hlt)
   rw [marksF_get] at hc0 hc1 hc2
   obtain ⟨K,HK⟩:∃ K:Nat,Hid (K=k+3 * j):=⟨_,hide rfl⟩
   have hKb:0 < K∧K≤14000000:=by have:=HK.out;omega
   rw [← HK.out] at hc0 hc1 hc2 ⊢
   have hd0:wr.cell? ⟨b,off+j * 3,none⟩=some (.string ⟨(mk K).toArray⟩):=hc0
   have hd1:wr.cell? ⟨b,off+j * 3+1,none⟩=some (.string ⟨(mk (K+1)).toArray⟩):=hc1
   have hd2:wr.cell? ⟨b,off+j * 3+2,none⟩=some (.int .i64 ((K:Int)+1+1)):=hc2.trans (by simp only [markF];congr 2)
   clear hc0 hc1 hc2
   have he0:((⟨(mk K).toArray⟩:ByteArray).toList == (⟨(mk K).toArray⟩:ByteArray).toList)=true:=beq_self_eq_true _
   have he1:((⟨(mk (K+1)).toArray⟩:ByteArray).toList == (⟨(mk (K+1)).toArray⟩:ByteArray).toList)=true:=beq_self_eq_true _
   obtain ⟨s0,hs0⟩:∃ s0:ByteArray,s0=⟨(mk K).toArray⟩:=⟨_,rfl⟩
   obtain ⟨s1,hs1⟩:∃ s1:ByteArray,s1=⟨(mk (K+1)).toArray⟩:=⟨_,rfl⟩
   have hm0:∀ W,Calls Tryz.prog 29 #[.int .i64 (K:Int)] W fun e w' => e=.returned (.string s0)∧Below W.heap.size W w':=fun W => by rw [hs0];exact mark_any K W (by omega) (by omega)
   have hm1:∀ W,Calls Tryz.prog 29 #[.int .i64 ((K:Int)+1)] W fun e w' => e=.returned (.string s1)∧Below W.heap.size W w':=fun W => by rw [hs1];exact mark_next K W (by omega)
   rw [← hs0] at hd0 he0
   rw [← hs1] at hd1 he1
   have HM0:=hide hm0
   have HM1:=hide hm1
   clear hs0 hs1 hm0 hm1
   have HBW:=hide hbw
   clear hbw
   go_wp2_with fail
   go_region_held3 (fun w' => w'.cell? ⟨b,off+j * 3,none⟩=some (.string s0)) (first | go_keep | (exact (b1.cell (p:=⟨b,off+j * 3,none⟩) HBW.out).trans hd0)) ((go_at_call 29;refine (HM0.out _).mono ?_;rintro e w1 ⟨rfl,b1⟩))
   have B1:Hid (Below wr.heap.size wr w1):=(Below.refl _ _).drew.trans b1
   have hg1:w1.cell? ⟨b,off+j * 3+1,none⟩=some (.string s1):=(B1.out.cell (p:=⟨b,off+j * 3+1,none⟩) HBW.out).trans hd1
   have hbw1:b < w1.heap.size:=Nat.lt_of_lt_of_le HBW.out B1.out.size
   clear b1
   go_wp2_with fail
   go_region_held3 (fun w' => w'.cell? ⟨b,off+j * 3+1,none⟩=some (.string s1)) (first | go_keep | (exact (b2.cell (p:=⟨b,off+j * 3+1,none⟩) hbw1).trans hg1)) ((go_at_call 29;refine (HM1.out _).mono ?_;rintro e w2 ⟨rfl,b2⟩))
   have B2:Hid (Below wr.heap.size wr w2):=B1.out.trans (((Below.refl _ _).drew.trans b2).mono B1.out.size)
   have hg2:w2.cell? ⟨b,off+j * 3+2,none⟩=some (.int .i64 ((K:Int)+1+1)):=(B2.out.cell (p:=⟨b,off+j * 3+2,none⟩) HBW.out).trans hd2
   clear b2
   have he2:(((K:Int)+1+1) == ((K:Int)+1+1))=true:=beq_self_eq_true _
   go_wp2
   go_roundw
   case rel =>
    refine ⟨j+1,?_,by go_num,by omega,HB.out.trans (B2.out.mono HB.out.size)⟩
    have:=HK.out
    congr 1
    omega
   case measure => simp [intOf];omega
  ·
   have hlt':decide ((j:Int) < (n:Int))=false:=by simp;omega
   have hje:j=n:=by omega
   subst hje
   go_wp2
   go_ret
   exact ⟨rfl,HB.out⟩
theorem heldDisk_row (v:Value) (n B k:Nat) (w:World) (hn:n≤1048576) (hk0:0 < k) (hk:k≤10000000) (h:RowF w B v (marksF k n)) :
  Calls Tryz.prog 30 #[.agg #[v],.int .i64 (k:Int)] w fun e w' => e=.returned (.int .i64 ((k+3 * n:Nat):Int))∧Below w.heap.size w w':=by
 obtain ⟨ao,cap,rfl,h1⟩:=rowF_at h
 clear h
 rw [marksF_length]
 have H1:=hide h1
 clear h1
 have HB0:Hid (Below w.heap.size w (w.alloc (.cells #[.slice ao n cap] 31))):=(Below.refl _ w).alloc (Nat.le_refl _) _
 obtain ⟨R,HR⟩:∃ R:Int,Hid (((k+3 * n:Nat):Int)=R):=⟨_,hide rfl⟩
 have hneg:decide (R < 0)=false:=by have:=HR.out;simp;omega
 rw [HR.out]
 go_enter Tryz.func30,Tryz.ntmps30
 go_wp2_with fail
 refine (heldFileS_any ao cap n k _ hn hk0 hk (filesAt_keep H1.out HB0.out)).mono ?_
 rintro e w1 ⟨rfl,b1⟩
 rw [HR.out]
 have HB1:=hide (HB0.out.trans (b1.mono HB0.out.size))
 clear b1
 go_wp2
 go_ret
 exact ⟨rfl,HB1.out⟩
theorem markSpotS_nil (k:Int) (w:World) :
  Calls Tryz.prog 28 #[.slice none 0 0,.int .i64 k] w fun e w' => e=.returned (.int .i64 k)∧w' = w:=by
 go_enter Tryz.func28,Tryz.ntmps28
 go_wp2
 go_loop [1,5] (fun kk ii => kk=.int .i64 k∧ii=.int .i64 0) (fun _ _ => 0)
 case atStart => exact ⟨rfl,rfl⟩
 case round =>
  obtain ⟨rfl,rfl⟩:=hrel
  go_wp2
  go_ret
  exact ⟨rfl,rfl⟩
theorem markSpotS_own (v:Value) (fs:List SpotD) (B k:Nat) (w:World) (hn:fs.length≤1048576) (hk0:0 < k) (hk:k≤10000000) (h:RowSpot w B v fs) :
  Calls Tryz.prog 28 #[v,.int .i64 (k:Int)] w fun e w' => e=.returned (.int .i64 ((k+4 * fs.length:Nat):Int))∧RowSpot w' B v (markSpotDs k fs.length)∧w.grownBy w' v.ownBlock:=by
 rcases h with ⟨rfl,rfl⟩ | ⟨g,cap,C,rfl,hB,hC,hs,hI⟩
 ·
  refine (markSpotS_nil _ _).mono ?_
  rintro e w1 ⟨rfl,rfl⟩
  exact ⟨rfl,.inl ⟨rfl,rfl⟩,World.grownBy.refl _ _⟩
 ·
  refine (markSpotS_row g cap fs.length C k w hn hk0 hk hC hs).mono ?_
  rintro e w1 ⟨rfl,⟨C1,hC1,hs1,hI1⟩,hg⟩
  refine ⟨rfl,.inr ⟨g,cap,C1,by rw [markSpotDs_length],hB,hC1,by rw [markSpotDs_length];omega,by rw [markSpotDs_length];exact hI1⟩,hg⟩
theorem files_spots_ne {w:World} {B B' g:Nat} {vd vr:Value} {fs:List FileD} {dir:List SpotD} (h1:RowF w B vd fs) (h2:RowSpot w B' vr dir) (e1:vd.ownBlock=some g) (e2:vr.ownBlock=some g):False:=by
 rcases h1 with ⟨rfl,-⟩ | ⟨g1,c1,C1,rfl,-,hC1,-⟩
 · cases e1
 ·
  rcases h2 with ⟨rfl,-⟩ | ⟨g2,c2,C2,rfl,-,hC2,-⟩
  · cases e2
  ·
   obtain rfl:g1=g:=by simpa [Value.ownBlock] using e1
   obtain rfl:g2=g1:=by simpa [Value.ownBlock] using e2
   rw [hC1] at hC2
   simp at hC2
theorem markEngine_own (vd vr:Value) (fs:List FileD) (dir:List SpotD) (room act seq:Int) (B k:Nat) (w:World) (hn:fs.length≤1048576) (hm:dir.length≤1048576) (hk0:0 < k) (hk:k≤1000000) (hB:B≤w.heap.size) (h1:RowF w B vd fs) (h2:RowSpot w B vr dir) :
  Calls Tryz.prog 10 #[.agg #[vd,.int .i64 room,.int .i64 act,.int .i64 seq,vr],.int .i64 (k:Int)] w fun e w' => e=.returned (.int .i64 ((k+3 * fs.length+4 * dir.length:Nat):Int))∧RowF w' B vd (marksF k fs.length)∧RowSpot w' B vr (markSpotDs (k+3 * fs.length) dir.length)∧Below B w w'∧(∀ x,x < w.heap.size→vd.ownBlock ≠ some x→vr.ownBlock ≠ some x→w'.heap[x]? = w.heap[x]?):=by
 obtain ⟨ad,cd,hvd,-⟩:=rowF_at h1
 obtain ⟨ar,cr,hvr,-⟩:=rowSpot_at h2
 subst hvd hvr
 have HRF:=hide h1
 have HRS:=hide h2
 clear h1 h2
 obtain ⟨wb,hwb⟩:∃ wb,wb=w.alloc (.cells #[.slice ad fs.length cd,.int .i64 room,.int .i64 act,.int .i64 seq,.slice ar dir.length cr] 34):=⟨_,rfl⟩
 have HB0:Hid (Below w.heap.size w wb):=by rw [hwb];exact (Below.refl _ w).alloc (Nat.le_refl _) _
 have HBE:Hid (wb.heap[w.heap.size]? = some (.cells #[.slice ad fs.length cd,.int .i64 room,.int .i64 act,.int .i64 seq,.slice ar dir.length cr] 34 (0,0))):=by rw [hwb];exact heap_alloc_new _ _
 have HMD:=hide (markDisk_row (.slice ad fs.length cd) fs B k wb hn hk0 (by omega) (rowF_below HRF.out HB0.out))
 obtain ⟨z0,z1,z2,z3,z4,-⟩:=five_cells HBE.out
 go_enter Tryz.func10,Tryz.ntmps10
 go_wp2_with fail
 rw [← hwb]
 clear hwb
 go_wp2_with fail
 refine HMD.out.mono ?_
 rintro e w1 ⟨rfl,rf1,g1⟩
 have RS1:=hide (rowSpot_grown (rowSpot_below HRS.out HB0.out) g1 (fun g hg e => files_spots_ne (rowF_below HRF.out HB0.out) (rowSpot_below HRS.out HB0.out) e.symm hg))
 have RF1:=hide rf1
 have B1:Hid (Below B w w1):=(HB0.out.mono hB).grown g1 (Nat.le_trans hB HB0.out.size) (fun g hg => (rowF_lt HRF.out g hg).1)
 have HE1:Hid (w1.heap[w.heap.size]? = some (.cells #[.slice ad fs.length cd,.int .i64 room,.int .i64 act,.int .i64 seq,.slice ar dir.length cr] 34 (0,0))):=by
  show _=_
  rw [g1.block _ (heap_lt HBE.out) (fun e => by have:=(rowF_lt HRF.out _ e.symm).2;omega)]
  exact HBE.out
 have hw1:w.heap.size < w1.heap.size:=heap_lt HE1.out
 have X1:Hid (∀ x,x < w.heap.size→(Value.slice ad fs.length cd).ownBlock ≠ some x→w1.heap[x]? = w.heap[x]?):=fun x hx h => (g1.block x (by have:=HB0.out.size;omega) (fun e => h e.symm)).trans (HB0.out.block x hx)
 clear rf1 g1 HMD z0 z1 z2 z3 z4 HBE
 have HMS:=hide (markSpotS_own (.slice ar dir.length cr) dir B (k+3 * fs.length) w1 hm (by omega) (by omega) RS1.out)
 obtain ⟨z0,z1,z2,z3,z4,-⟩:=five_cells HE1.out
 go_wp2_with fail
 refine HMS.out.mono ?_
 rintro e w2 ⟨rfl,rs2,g2⟩
 have RF2:=hide (rowF_grown RF1.out g2 (fun g hg e => files_spots_ne RF1.out RS1.out hg e.symm))
 have RS2:=hide rs2
 have B2:Hid (Below B w w2):=B1.out.grown g2 (by omega) (fun g hg => (rowSpot_lt RS1.out g hg).1)
 have X2:Hid (∀ x,x < w.heap.size→(Value.slice ad fs.length cd).ownBlock ≠ some x→(Value.slice ar dir.length cr).ownBlock ≠ some x→w2.heap[x]? = w.heap[x]?):=fun x hx h h' => (g2.block x (by omega) (fun e => h' e.symm)).trans (X1.out x hx h)
 clear rs2 g2 HMS z0 z1 z2 z3 z4
 go_wp2
 go_ret
 exact ⟨rfl,RF2.out,RS2.out,B2.out,X2.out⟩
theorem heldEngine_own (vd vr:Value) (n m:Nat) (room act seq:Int) (B k:Nat) (w:World) (hn:n≤1048576) (hm:m≤1048576) (hk0:0 < k) (hk:k≤1000000) (h1:RowF w B vd (marksF k n)) (h2:RowSpot w B vr (markSpotDs (k+3 * n) m)) :
  Calls Tryz.prog 12 #[.agg #[vd,.int .i64 room,.int .i64 act,.int .i64 seq,vr],.int .i64 (k:Int)] w fun e w' => e=.returned (.int .i64 ((k+3 * n+4 * m:Nat):Int))∧Below w.heap.size w w':=by
 obtain ⟨ad,cd,hvd,-⟩:=rowF_at h1
 obtain ⟨ar,cr,hvr,h3⟩:=rowSpot_at h2
 rw [marksF_length] at hvd
 rw [markSpotDs_length] at hvr
 subst hvd hvr
 have HRF:=hide h1
 have HRS:=hide h3
 clear h1 h2 h3
 obtain ⟨wb,hwb⟩:∃ wb,wb=w.alloc (.cells #[.slice ad n cd,.int .i64 room,.int .i64 act,.int .i64 seq,.slice ar m cr] 34):=⟨_,rfl⟩
 have HB0:Hid (Below w.heap.size w wb):=by rw [hwb];exact (Below.refl _ w).alloc (Nat.le_refl _) _
 have HBE:Hid (wb.heap[w.heap.size]? = some (.cells #[.slice ad n cd,.int .i64 room,.int .i64 act,.int .i64 seq,.slice ar m cr] 34 (0,0))):=by rw [hwb];exact heap_alloc_new _ _
 have HMD:=hide (heldDisk_row (.slice ad n cd) n B k wb hn hk0 (by omega) (rowF_below HRF.out HB0.out))
 have hk1:decide (((k+3 * n:Nat):Int) < 0)=false:=by simp;omega
 have hk2:decide (((k+3 * n+4 * m:Nat):Int) < 0)=false:=by simp;omega
 obtain ⟨z0,z1,z2,z3,z4,-⟩:=five_cells HBE.out
 obtain ⟨X,HX⟩:∃ X:Nat,Hid (k+3 * n=X):=⟨_,hide rfl⟩
 obtain ⟨Y,HY⟩:∃ Y:Nat,Hid (X+4 * m=Y):=⟨_,hide rfl⟩
 rw [HX.out] at HMD HRS hk1 hk2 ⊢
 rw [HY.out] at hk2 ⊢
 have hX0:0 < X∧X≤10000000:=by have:=HX.out;omega
 go_enter Tryz.func12,Tryz.ntmps12
 go_wp2_with fail
 rw [← hwb]
 clear hwb
 go_wp2_with fail
 refine HMD.out.mono ?_
 rintro e w1 ⟨rfl,b1⟩
 have B1:=hide (HB0.out.trans (b1.mono HB0.out.size))
 have HE1:=hide ((b1.block _ (heap_lt HBE.out)).trans HBE.out)
 clear b1 z0 z1 z2 z3 z4
 obtain ⟨z0,z1,z2,z3,z4,-⟩:=five_cells HE1.out
 have HMS:=hide (heldSpotS_any ar cr m X w1 hm hX0.1 hX0.2 (spotsAt_keep HRS.out B1.out))
 rw [HY.out] at HMS
 go_wp2_with fail
 refine HMS.out.mono ?_
 rintro e w2 ⟨rfl,b2⟩
 have B2:=hide (B1.out.trans (b2.mono B1.out.size))
 clear b2 z0 z1 z2 z3 z4
 go_wp2
 go_ret
 exact ⟨rfl,B2.out⟩
end Go.Proofs.YtepdckehokdjlaaGreatDoor
