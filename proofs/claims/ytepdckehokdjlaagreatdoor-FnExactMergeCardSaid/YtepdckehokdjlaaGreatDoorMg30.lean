import Derived.Test.YtepdckehokdjlaaGreatDoorMg10
import Derived.Test.YtepdckehokdjlaaGreatDoorMg24
import Derived.Test.YtepdckehokdjlaaGreatDoorMg28
set_option maxRecDepth 100000
set_option maxHeartbeats 8000000
namespace Go.Proofs.YtepdckehokdjlaaGreatDoor
open Go.RowKit
theorem l03Without_any (fs:List FileD) (ao:Option Addr) (cap:Nat) (nm:ByteArray) (w:World) (hl:fs.length≤1000) (hfs:FilesAt w ao fs) :
  Calls Tryz.prog 49 #[.agg #[.slice ao fs.length cap],.string nm] w fun e w' => ∃ v,e=.returned (.agg #[v])∧RowF w' w.heap.size v (withoutD fs nm)∧Below w.heap.size w w':=by
 have HF:=hide hfs
 clear hfs
 obtain ⟨wa,hwa⟩:∃ wa,wa=(w.alloc (.cells #[.slice ao fs.length cap] 31)).alloc (.cells #[.slice none 0 0] 31):=⟨_,rfl⟩
 have hwas:wa.heap.size=w.heap.size+1+1:=by rw [hwa];simp
 have HBa:Hid (Below w.heap.size w wa):=by rw [hwa];exact ((Below.refl _ w).alloc (Nat.le_refl _) _).alloc (by simp) _
 have HXa:Hid (wa.heap[w.heap.size]? = some (.cells #[.slice ao fs.length cap] 31 (0,0))):=by rw [hwa];exact blk_below (heap_alloc_new w _) ((Below.refl _ _).alloc (Nat.le_refl _) _)
 have HRa:Hid (wa.heap[w.heap.size+1]? = some (.cells #[.slice none 0 0] 31 (0,0))):=by
  rw [hwa,show w.heap.size+1=(w.alloc (.cells #[.slice ao fs.length cap] 31)).heap.size from by simp]
  exact heap_alloc_new _ _
 obtain ⟨o,ho⟩:∃ o,o=wa.heap.size:=⟨_,rfl⟩
 obtain ⟨wb,hwb⟩:∃ wb,wb=wa.alloc (.cells #[.slice none 0 0] 31):=⟨_,rfl⟩
 have bab:Below wa.heap.size wa wb:=by rw [hwb];exact (Below.refl _ _).alloc (Nat.le_refl _) _
 have hbs:wb.heap.size=o+1:=by rw [hwb,ho];simp
 have HBb:Hid (Below w.heap.size w wb):=HBa.out.trans (bab.mono (by omega))
 have HXb:Hid (wb.cell? ⟨w.heap.size,0,none⟩=some (.slice ao fs.length cap)):=box_of (blk_below HXa.out bab)
 have HRb:Hid (wb.heap[w.heap.size+1]? = some (.cells #[.slice none 0 0] 31 (0,0))):=blk_below HRa.out bab
 have HOb:Hid (wb.heap[o]? = some (.cells #[.slice none 0 0] 31 (0,0))):=by rw [hwb,ho];exact heap_alloc_new _ _
 have hso:w.heap.size+1 < o:=by omega
 have hov:o=w.heap.size+1+1:=by omega
 rw [hwa] at hwb
 clear bab hwa hwas ho HXa HRa HBa
 go_enter Tryz.func49,Tryz.ntmps49
 go_wp2_with fail
 rw [← hwb,← hov]
 clear hwb hov
 go_loopg [6] fs.length (fun gg ii wr => ∃ (k:Nat) (v:Value),k+gg=fs.length∧ii=.int .i64 k∧k≤fs.length∧Hid (wb.grownBy wr (some o))∧Hid (wr.heap[o]? = some (.cells #[v] 31 (0,0)))∧Hid (wr.ownsRow (o+1) 95 3 v ((fs.take k).filter (otherF nm)).length (cellsF ((fs.take k).filter (otherF nm)))))
 case atStart => exact ⟨0,.slice none 0 0,by omega,rfl,Nat.zero_le _,World.grownBy.refl _ _,HOb,⟨rfl,.inl ⟨rfl,rfl⟩⟩⟩
 case round =>
  obtain ⟨k,v,hkg,rfl,hk,HG,HV,HO⟩:=hrel
  have HB:Hid (Below w.heap.size w wr):=HBb.out.grown HG.out (by omega) (fun j hj => by cases hj;omega)
  have hws:o < wr.heap.size:=by have:=HG.out.size;omega
  have hbox:wr.cell? ⟨w.heap.size,0,none⟩=some (.slice ao fs.length cap):=(HG.out.cell_far ⟨w.heap.size,0,none⟩ (by show w.heap.size < _;omega) (by simp;omega)).trans HXb.out
  have hout:wr.cell? ⟨o,0,none⟩=some v:=(cell_of_row wr o 0 _ _ (0,0) HV.out).trans rfl
  have hfo:=frozen_of_row wr o 0 _ _ HV.out
  have HLk:Hid (((fs.take k).filter (otherF nm)).length≤1048576):=by show _≤_;have:=filter_le (fs:=fs) (otherF nm) k;omega
  obtain ⟨LL,HLL⟩:∃ LL,Hid (((fs.take k).filter (otherF nm))=LL):=⟨_,hide rfl⟩
  rw [HLL.out] at HO HLk
  by_cases hlt:k < fs.length
  ·
   have hlt':decide ((k:Int) < (fs.length:Int))=true:=by simp;omega
   obtain ⟨b,off,rfl,hbw,hc0,hc1,hc2⟩:=filesAt_keep HF.out HB.out k hlt
   obtain ⟨G,HGk⟩:∃ G,Hid (fs[k]=G):=⟨fs[k],hide rfl⟩
   rw [HGk.out] at hc0 hc1 hc2
   have hi0:(0:Int)≤(k:Int):=by omega
   have hi1:(k:Int) < (fs.length:Int):=by omega
   have HN:=hide (filter_next (otherF nm) hlt)
   rw [HGk.out] at HN
   obtain ⟨wq,hwq⟩:∃ wq,wq=wr:=⟨_,rfl⟩
   have HBq:Hid (Below wr.heap.size wr wq):=by rw [hwq];exact Below.refl _ _
   have hqs:wq.heap.size=wr.heap.size:=by rw [hwq]
   have hq0:wq.cell? ⟨b,off+k * 3,none⟩=some (.string G.name):=by rw [hwq];exact hc0
   have hq1:wq.cell? ⟨b,off+k * 3+1,none⟩=some (.string G.text):=by rw [hwq];exact hc1
   have hq2:wq.cell? ⟨b,off+k * 3+2,none⟩=some (.int .i64 G.kept):=by rw [hwq];exact hc2
   have hqb:wq.cell? ⟨w.heap.size,0,none⟩=some (.slice (some ⟨b,off,none⟩) fs.length cap):=by rw [hwq];exact hbox
   have hqo:wq.cell? ⟨o,0,none⟩=some v:=by rw [hwq];exact hout
   have HVq:Hid (wq.heap[o]? = some (.cells #[v] 31 (0,0))):=by rw [hwq];exact HV.out
   have HOq:Hid (wq.ownsRow (o+1) 95 3 v LL.length (cellsF LL)):=by rw [hwq];exact HO.out
   have HGq:Hid (wb.grownBy wq (some o)):=grownBy_step HG.out (HBq.out.mono (by omega)) hbs
   subst hwq
   clear hc0 hc1 hc2 hout hfo
   cases hp':(G.name.toList == nm.toList)
   ·
    have hp:otherF nm G=true:=by simp [otherF,hp']
    have HT:Hid (((fs.take (k+1)).filter (otherF nm))=LL ++ [G]):=by show _=_;rw [HN.out,hp,← HLL.out];simp
    have hof:o < wq.heap.size:=by omega
    have hall:(wq.alloc (.cells #[.string G.name,.string G.text,.int .i64 G.kept] 95)).cell? ⟨o,0,none⟩=some v:=(((Below.refl _ wq).alloc (Nat.le_refl _) _).cell (p:=⟨o,0,none⟩) hof).trans hqo
    have HQS:=hide hqs
    clear hqs
    go_upto_region 6 with fail
    go_region_law (refine step_app_file _ (o+1) (by rfl) _ _ (by rfl) _ LL G (by rfl) (HOq.out.alloc _) wq.heap.size (by simp [Act.eval]) (heap_alloc_new wq _) (by have:=HLk.out;omega) (by have:=HQS.out;simp;omega) ?_;intro g3 cap3 w3 hown3 hb3 hg3 hgl3;have hn0:w3.heap[o]? = some (.cells #[v] 31 (0,0)):=(hb3.block o (by omega)).trans ((((Below.refl _ wq).alloc (Nat.le_refl _) _).block o hof).trans HVq.out);have hn1:w3.cell? ⟨o,0,none⟩=some v:=(cell_of_row w3 o 0 _ _ (0,0) hn0).trans rfl;have hn2:w3.frozen? ⟨o,0,none⟩=false:=frozen_of_row w3 o 0 _ _ hn0;have HN0:=hide hn0;clear hn0)
    all_goals
     go_wp2_with fail
     go_roundg (gk - 1)
     case measure => omega
     case rel =>
      have hqs:=HQS.out
      have hbw:Below (o+1) wq w3:=((HBq.out.mono (by omega)).trans (((Below.refl _ wq).alloc (by omega) _).drew)).trans hb3
      refine ⟨k+1,_,by omega,by go_num,by omega,grownBy_store (grownBy_step HG.out hbw hbs) 0 _,(heap_setCell_same _ o _ _ _ _ HN0.out).trans rfl,?_⟩
      show _
      rw [HT.out]
      have hle:(LL ++ [G]).length=LL.length+1:=by simp only [List.length_append,List.length_singleton]
      have hfin:=hown3.kept (grownBy_store (World.grownBy.refl w3 (some o)) 0 (.slice (some ⟨g3,0,none⟩) (LL.length+1) cap3)) (.inr (by simp [Value.ownBlock];omega))
      rw [hle] at hfin ⊢
      exact hfin
   ·
    have hp:otherF nm G=false:=by simp [otherF,hp']
    have HT:Hid (((fs.take (k+1)).filter (otherF nm))=LL):=by show _=_;rw [HN.out,hp,← HLL.out];simp
    go_wp2
    go_roundg (gk - 1)
    case measure => omega
    case rel => exact ⟨k+1,v,by omega,by go_num,by omega,HGq,HVq,by show _;rw [HT.out];exact HOq.out⟩
  ·
   have hlt':decide ((k:Int) < (fs.length:Int))=false:=by simp;omega
   have hke:k=fs.length:=by omega
   have hR:wr.heap[w.heap.size+1]? = some (.cells #[.slice none 0 0] 31 (0,0)):=(HG.out.block (w.heap.size+1) (by omega) (by simp;omega)).trans HRb.out
   have hr0:wr.cell? ⟨w.heap.size+1,0,none⟩=some (.slice none 0 0):=(cell_of_row wr (w.heap.size+1) 0 _ _ (0,0) hR).trans rfl
   have hr1:=frozen_of_row wr (w.heap.size+1) 0 _ _ hR
   have HE:Hid (((fs.take k).filter (otherF nm))=withoutD fs nm):=by show _=_;rw [hke,List.take_length];rfl
   clear hR hke
   rw [← HLL.out,HE.out] at HO HLk
   obtain ⟨av,cv,rfl⟩:=slice_form HO.out
   go_wp2_with fail
   refine bodyPost_ret (v:=.agg #[.slice av (withoutD fs nm).length cv]) (by simp [results,Tryz.results49,go_sem,hr0]) rfl ⟨_,rfl,?_,HB.out.setCell (p:=⟨w.heap.size+1,0,none⟩) (by simp) _⟩
   have hrow:=rowF_own HO.out
   exact rowF_le (rowF_grown hrow (grownBy_store (World.grownBy.refl _ _) 0 _) (fun g hg => by have:=(rowF_lt hrow g hg).1;simp;omega)) (by omega)
end Go.Proofs.YtepdckehokdjlaaGreatDoor
