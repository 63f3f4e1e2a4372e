import Derived.Defers
import Derived.Recover
import Derived.Test.YtepdckehokdjlaaGreatDoorMg16
set_option maxRecDepth 100000
set_option maxHeartbeats 3200000
namespace Go.Proofs.YtepdckehokdjlaaGreatDoor
open Go.RowKit
def noBc:List PanicEntry:=[{ v:=.iface 277 (.agg #[]),recovered:=true }]
theorem catch_panicking (p q:Nat) (x0 x1 y:Value) (w:World) (hpq:p ≠ q) (hc0:w.cell? ⟨p,0,none⟩=some x0) (hc1:w.cell? ⟨p,1,none⟩=some x1) (hc2:w.cell? ⟨q,0,none⟩=some y)
  (hf0:w.frozen? ⟨p,0,none⟩=false) (hf1:w.frozen? ⟨p,1,none⟩=false) (hf2:w.frozen? ⟨q,0,none⟩=false) :
  CallsD Tryz.prog 207 #[.pointer (some ⟨p,0,none⟩),.pointer (some ⟨q,0,none⟩)] (.panicking noB) w fun e u' w' =>
   e=.returned (.tuple #[])∧u' = .panicking noBc∧w' = ((w.setCell ⟨p,0,none⟩ (.int .i64 0)).setCell ⟨p,1,none⟩ (.slice none 0 0)).setCell ⟨q,0,none⟩ (.bool false):=by
 refine callsD_of_wpS Tryz.func207 rfl fun c₀ cs hu => ?_
 apply wpS_seq
 apply wpS_region
 simp [wpOpsS,go_sem,recoverD,hu,noB,Tryz.ntmps207,Exit.thenS]
 refine wpS_cond (t:=true) (by simp [Act.eval,Array.replicate]) ?_
 simp only [if_true]
 apply wpS_region
 simp [wpOpsS,go_sem,hc0,hc1,hc2,hf0,hf1,hf2,bodyPostS,results,Tryz.results207,noBc]
theorem catch_idle (p q:Addr) (w:World) :
  CallsD Tryz.prog 207 #[.pointer (some p),.pointer (some q)] .returning w fun e u' w' => e=.returned (.tuple #[])∧u' = .returning∧w' = w:=by
 refine callsD_of_wpS Tryz.func207 rfl fun c₀ cs hu => ?_
 apply wpS_seq
 apply wpS_region
 simp [wpOpsS,go_sem,recoverD,hu,Tryz.ntmps207,Exit.thenS]
 refine wpS_cond (t:=false) (by simp [Act.eval,Array.replicate]) ?_
 simp only [Bool.false_eq_true,if_false]
 refine wpS_of_wp (wp_skip ?_)
 cases c₀
 simp_all [bodyPostS,results,Tryz.results207]
def AnsW (t:ByteArray) (g:Nat) (w:World) (e:Ending) (w':World):Prop :=
 w.grownBy w' (some g)∧((allI t=none∧e=.returned (.tuple #[.agg #[.int .i64 0,.slice none 0 0],.bool false])) ∨
 (∃ (q:Nat) (cs:List ChangeD) (ao:Option Addr) (cap:Nat),allI t=some (q,cs)∧e=.returned (.tuple #[.agg #[.int .i64 (q:Int),.slice ao cs.length cap],.bool true])∧RowChange w' w.heap.size (.slice ao cs.length cap) cs))
theorem whole_cells {W:World} {b:Nat} {x0 x1 y:Value} (hX:W.heap[b]? = some (.cells #[x0,x1] 87 (0,0))) (hY:W.heap[b+1]? = some (.cells #[y] 4 (0,0))) :
  (W.cell? ⟨b,0,none⟩=some x0∧W.cell? ⟨b,1,none⟩=some x1∧W.cell? ⟨b+1,0,none⟩=some y)∧(W.frozen? ⟨b,0,none⟩=false∧W.frozen? ⟨b,1,none⟩=false∧W.frozen? ⟨b+1,0,none⟩=false) :=
 ⟨⟨(cell_of_row W _ 0 _ _ (0,0) hX).trans rfl,(cell_of_row W _ 1 _ _ (0,0) hX).trans rfl,(cell_of_row W _ 0 _ _ (0,0) hY).trans rfl⟩,frozen_of_row W _ 0 _ _ hX,frozen_of_row W _ 1 _ _ hX,frozen_of_row W _ 0 _ _ hY⟩
theorem allI_bad {t:ByteArray} (h:btI t=none):allI t=none:=by unfold allI;rw [h]
theorem allI_of {t:ByteArray} {q p:Nat} {cs:List ChangeD} (h:btI t=some (q,cs,p)):allI t=if p=t.size∧batchOkD q cs=true then some (q,cs) else none:=by unfold allI;rw [h]
def PanW (w:World) (g:Nat) (W:World):Prop:=w.grownBy W (some g)∧∃ x0 x1 y,W.heap[w.heap.size]? = some (.cells #[x0,x1] 87 (0,0))∧W.heap[w.heap.size+1]? = some (.cells #[y] 4 (0,0))
theorem panW_below {w W W':World} {g:Nat} (h:PanW w g W) (hb:Below W.heap.size W W'):PanW w g W':=by
 obtain ⟨h1,x0,x1,y,h2,h3⟩:=h
 exact ⟨grownBy_trans h1 (grownBy_below _ hb),x0,x1,y,(hb.block _ (heap_lt h2)).trans h2,(hb.block _ (heap_lt h3)).trans h3⟩
def PanQ (w:World) (g:Nat):Exit→Act→World→Prop
 | .panic c,a,W => c=noB∧a.defers=[{ target:=.fn (.func 207) #[.pointer (some ⟨w.heap.size,0,none⟩),.pointer (some ⟨w.heap.size+1,0,none⟩)],args:=#[] }] ∧
  a.tmps[2]? = some (.pointer (some ⟨w.heap.size,0,none⟩))∧a.tmps[3]? = some (.pointer (some ⟨w.heap.size+1,0,none⟩))∧PanW w g W
 | _,_,_ => False
theorem panQ_put {w:World} {g d:Nat} {v:Value} (h2:d ≠ 2) (h3:d ≠ 3):∀ (c:List PanicEntry) (a:Act) (W:World),PanQ w g (.panic c) (a.put (some d) v) W→PanQ w g (.panic c) a W:=by
 intro c a W h
 obtain ⟨k1,k2,k3,k4,k5⟩:=h
 refine ⟨k1,k2,?_,?_,k5⟩
 ·
  rw [← k3]
  simp [Act.put,h2]
 ·
  rw [← k4]
  simp [Act.put,h3]
theorem panQ_door {t:ByteArray} {w:World} {g:Nat} {K:Act→World→Prop} (HN:allI t=none):∀ e a W,PanQ w g e a W→Exit.then K (bodyPostD Tryz.prog Tryz.f202 (AnsW t g w)) e a W:=by
 intro e a W h
 cases e
 case panic c =>
  obtain ⟨rfl,hd,h2,h3,hp⟩:=h
  show Leaves Tryz.prog Tryz.f202 a.tmps (AnsW t g w) a.defers (.panicking noB) W
  rw [hd]
  obtain ⟨GR,x0,x1,y,hX,hY⟩:=hp
  obtain ⟨⟨hc0,hc1,hc2⟩,hf0,hf1,hf2⟩:=whole_cells hX hY
  refine leaves_cons (f:=207) (args:=#[.pointer (some ⟨w.heap.size,0,none⟩),.pointer (some ⟨w.heap.size+1,0,none⟩)]) (by simp) (by simp [go_sem]) ?_
  refine (catch_panicking w.heap.size (w.heap.size+1) _ _ _ _ (by omega) hc0 hc1 hc2 hf0 hf1 hf2).mono ?_
  rintro e u' w'' ⟨rfl,rfl,rfl⟩
  exact ⟨.tuple #[.agg #[.int .i64 0,.slice none 0 0],.bool false],by simp [results,Tryz.results202,go_sem,h2,h3,hc0,hc1,hc2],grownBy_far (grownBy_far (grownBy_far GR (Nat.le_refl _) _ _) (Nat.le_refl _) _ _) (by omega) _ _,.inl ⟨HN,rfl⟩⟩
 all_goals exact (h:False).elim
theorem panQ_out {t:ByteArray} {w W:World} {g:Nat} {c:List PanicEntry} {a:Act} (HN:allI t=none) (h:PanQ w g (.panic c) a W):bodyPostD Tryz.prog Tryz.f202 (AnsW t g w) (.panic c) a W :=
 panQ_door (K:=fun _ _ => True) HN (.panic c) a W h
theorem whole_any (t:ByteArray) (g:Nat) (w:World) (ht:t.size≤9000) (h:CurI w g t 0) :
  Calls Tryz.prog 202 #[.pointer (some ⟨g,0,none⟩)] w (AnsW t g w):=by
 have hmf:∀ (fn:Fn) (first cap:Array Value) (w:World),(Instr.makeFunc fn first cap).run Tryz.prog w=.ok (.func fn first cap) w:=fun _ _ _ _ => rfl
 have hg:=curI_lt h
 obtain ⟨wA,hwA⟩:∃ wA,wA=(w.alloc (.cells #[.int .i64 0,.slice none 0 0] 87)).alloc (.cells #[.bool false] 4):=⟨_,rfl⟩
 have hb1:Below w.heap.size w (w.alloc (.cells #[.int .i64 0,.slice none 0 0] 87)):=(Below.refl _ w).alloc (Nat.le_refl _) _
 have hs1:(w.alloc (.cells #[.int .i64 0,.slice none 0 0] 87)).heap.size=w.heap.size+1:=by simp
 have hb2:Below (w.heap.size+1) (w.alloc (.cells #[.int .i64 0,.slice none 0 0] 87)) wA:=by rw [hwA];exact (Below.refl _ _).alloc (by rw [hs1];exact Nat.le_refl _) _
 have R0:Hid (RI w wA g t 0):=ri_below (ri_refl h) (hb1.trans (hb2.mono (by omega)))
 have X0:Hid (wA.heap[w.heap.size]? = some (.cells #[.int .i64 0,.slice none 0 0] 87 (0,0))):=(hb2.block _ (by omega)).trans (heap_alloc_new w _)
 have Y0:Hid (wA.heap[w.heap.size+1]? = some (.cells #[.bool false] 4 (0,0))):=by have e:=heap_alloc_new (w.alloc (.cells #[.int .i64 0,.slice none 0 0] 87)) (.cells #[.bool false] 4);rw [hs1] at e;rw [hwA];exact e
 have hsA:Hid (w.heap.size+2≤wA.heap.size):=heap_lt Y0.out
 clear h hb1 hs1 hb2
 go_enter_defers Tryz.func202,Tryz.ntmps202
 go_wp2_with fail
 rw [← hwA]
 clear hwA
 refine (batch_any t g _ ht R0.out.1).mono ?_
 rintro e1 w1 (⟨hn,rfl,r1⟩ | ⟨q,cs,p,ao,cap,hs,rfl,r1,hrow,hl,hp,hsz⟩)
 ·
  show bodyPostD _ _ _ (Exit.panic noB) _ w1
  refine panQ_out (allI_bad hn) ?_
  exact ⟨rfl,rfl,rfl,rfl,grownBy_trans R0.out.2 r1,_,_,_,(r1.block _ (heap_lt X0.out) (by simp;omega)).trans X0.out,(r1.block _ (heap_lt Y0.out) (by simp;omega)).trans Y0.out⟩
 ·
  have X1:=(r1.2.block _ (heap_lt X0.out) (by simp;omega)).trans X0.out
  have Y1:=hide ((r1.2.block _ (heap_lt Y0.out) (by simp;omega)).trans Y0.out)
  have R1:=hide (ri_trans R0.out r1)
  have HROW:=hide (rowChange_le hrow hsA.out)
  obtain ⟨⟨hc0,hc1,hc2⟩,hf0,hf1,hf2⟩:=whole_cells X1 Y1.out
  have HALL:=hide (allI_of hs)
  have X2:Hid (((w1.setCell ⟨w.heap.size,0,none⟩ (.int .i64 (q:Int))).setCell ⟨w.heap.size,1,none⟩ (.slice ao cs.length cap)).heap[w.heap.size]? = some (.cells #[.int .i64 (q:Int),.slice ao cs.length cap] 87 (0,0))):=(heap_setCell_same _ _ _ _ _ _ ((heap_setCell_same _ _ _ _ _ _ X1).trans rfl)).trans rfl
  have KK:Hid (∀ k,k ≠ w.heap.size→((w1.setCell ⟨w.heap.size,0,none⟩ (.int .i64 (q:Int))).setCell ⟨w.heap.size,1,none⟩ (.slice ao cs.length cap)).heap[k]? = w1.heap[k]?):=fun k hk => (Below.heap_setCell _ _ _ _ (by intro e;simp only at e;omega)).trans (Below.heap_setCell _ _ _ _ (by intro e;simp only at e;omega))
  have R2:=hide (ri_far (ri_far R1.out hg (Nat.le_refl _) 0 (.int .i64 (q:Int))) hg (Nat.le_refl _) 1 (.slice ao cs.length cap))
  clear r1 hs hrow X1
  go_wp2_with fail
  generalize (w1.setCell ⟨w.heap.size,0,none⟩ (.int .i64 (q:Int))).setCell ⟨w.heap.size,1,none⟩ (.slice ao cs.length cap)=w2 at X2 KK R2
  clear hc0 hc1 hc2 hf0 hf1 hf2
  have Y2:=hide ((KK.out _ (by omega)).trans Y1.out)
  have ROW2:Hid (RowChange w2 (w.heap.size+2) (.slice ao cs.length cap) cs):=rowChange_keep HROW.out (fun b hb => KK.out b (by have:=(rowChange_lt HROW.out b hb).1;omega))
  clear KK Y1 R1 HROW X0 Y0 R0 hsA
  have hw2:w.heap.size+1 < w2.heap.size:=heap_lt Y2.out
  obtain ⟨⟨hc0,hc1,hc2⟩,hf0,hf1,hf2⟩:=whole_cells X2.out Y2.out
  obtain ⟨hg0,hg1,hgf⟩:=ri_cells R2.out
  have BO:Hid (Calls Tryz.prog 160 #[.agg #[.int .i64 (q:Int),.slice ao cs.length cap]] w2.drew fun e w' => e=.returned (.bool (batchOkD q cs))∧Below w2.heap.size w2 w'):=(implBatchOk_any (q:Int) cs ao cap w2.drew (by omega) (changesAt_keep (rowChange_rows ROW2.out) (Below.refl _ _).drew) (fun A hA => by have:=hsz A hA;omega)).mono (fun e w' he => ⟨he.1,(Below.refl _ w2).drew.trans he.2⟩)
  have PW:Hid (PanW w g w2):=⟨R2.out.2,_,_,_,X2.out,Y2.out⟩
  clear hl hsz
  by_cases hat:p=t.size
  ·
   have hat':((p:Int) == (t.size:Int))=true:=by simp;omega
   cases hok:batchOkD q cs
   ·
    have HN:Hid (allI t=none):=by show _=_;rw [HALL.out,if_neg (by rw [hok];simp)]
    rw [hok] at BO
    clear HALL ROW2 hok
    refine Code.wp_mono (panQ_door HN.out) ?_
    refine wp_region_any (by kernel_rfl) ?_
    change wpAny _ _ _ _ _ _ _ (World.drew _)
    refine wpAny_take (i:=0) (v:=?_) rfl (by kernel_rfl) (by kernel_rfl) (by kernel_rfl) (panQ_put (d:=7) (by decide) (by decide)) (Or.inl ⟨by rfl,?hy0⟩) ?_
    case hy0 => intro w;go_simp;(try with_reducible rfl)
    refine wpAny_take (i:=1) (v:=?_) rfl (by kernel_rfl) (by kernel_rfl) (by kernel_rfl) (panQ_put (d:=8) (by decide) (by decide)) (Or.inl ⟨by rfl,?hy1⟩) ?_
    case hy1 => intro w;go_simp;(try with_reducible rfl)
    refine wpAny_take (i:=2) (v:=?_) rfl (by kernel_rfl) (by kernel_rfl) (by kernel_rfl) (panQ_put (d:=9) (by decide) (by decide)) (Or.inl ⟨by rfl,?hy2⟩) ?_
    case hy2 => intro w;go_simp;(try with_reducible rfl)
    refine wpAny_take (i:=3) (v:=?_) rfl (by kernel_rfl) (by kernel_rfl) (by kernel_rfl) (panQ_put (d:=10) (by decide) (by decide)) (Or.inl ⟨by rfl,?hy3⟩) ?_
    case hy3 => intro w;go_simp;(try with_reducible rfl)
    refine wpAny_take (i:=5) (v:=?_) rfl (by kernel_rfl) (by kernel_rfl) (by kernel_rfl) (panQ_put (d:=12) (by decide) (by decide)) (Or.inl ⟨by rfl,?hy5⟩) ?_
    case hy5 => intro w;go_simp;(try with_reducible rfl)
    refine wpAny_take (i:=6) (v:=?_) rfl (by kernel_rfl) (by kernel_rfl) (by kernel_rfl) (panQ_put (d:=13) (by decide) (by decide)) (Or.inl ⟨by rfl,?hy6⟩) ?_
    case hy6 => intro w;go_simp;(try with_reducible rfl)
    refine wpAny_take (i:=7) (v:=?_) rfl (by kernel_rfl) (by kernel_rfl) (by kernel_rfl) (panQ_put (d:=14) (by decide) (by decide)) (Or.inl ⟨by rfl,?hy7⟩) ?_
    case hy7 => intro w;go_simp;(try with_reducible rfl)
    refine wpAny_ready (rs:=[4,8]) (by kernel_rfl) (by simp) ?_
    refine AllReady.cons rfl (fun K hK => ?_) ?_
    ·
     go_simp
     refine hK _ _ ?_
     clear hK K
     refine wpAny_ready (rs:=[8]) (by kernel_rfl) (by simp) ?_
     refine AllReady.cons rfl (fun K hK => ?_) AllReady.nil
     go_simp
     refine hK _ _ ?_
     clear hK K
     refine wpAny_take (i:=9) (v:=?_) rfl (by kernel_rfl) (by kernel_rfl) (by kernel_rfl) (panQ_put (d:=16) (by decide) (by decide)) (Or.inl ⟨by rfl,?hy9⟩) ?_
     case hy9 => intro w;go_simp;(try with_reducible rfl)
     refine wpAny_take (i:=10) (v:=?_) rfl (by kernel_rfl) (by kernel_rfl) (by kernel_rfl) (panQ_put (d:=17) (by decide) (by decide)) (Or.inl ⟨by rfl,?hy10⟩) ?_
     case hy10 => intro w;go_simp;(try with_reducible rfl)
     refine wpAny_take (i:=11) (v:=?_) rfl (by kernel_rfl) (by kernel_rfl) (by kernel_rfl) (panQ_put (d:=18) (by decide) (by decide)) (Or.inl ⟨by rfl,?hy11⟩) ?_
     case hy11 => intro w;go_simp;(try with_reducible rfl)
     refine wpAny_ready (rs:=[12]) (by kernel_rfl) (by simp) ?_
     refine AllReady.cons rfl (fun K hK => ?_) AllReady.nil
     go_simp
     refine hK _ _ ?_
     clear hK K
     refine wpAny_ready (rs:=[13]) (by kernel_rfl) (by simp) ?_
     refine AllReady.cons rfl (fun K hK => ?_) AllReady.nil
     go_simp
     refine BO.out.mono ?_
     rintro e1 w5 ⟨rfl,b5⟩
     refine hK _ _ ?_
     clear hK K
     refine wpAny_ready (rs:=[14]) (by kernel_rfl) (by simp) ?_
     refine AllReady.cons rfl (fun K hK => ?_) AllReady.nil
     go_simp
     refine hK _ _ ?_
     clear hK K
     refine wpAny_ready (rs:=[15]) (by kernel_rfl) (by simp) ?_
     refine AllReady.cons rfl (fun K hK => ?_) AllReady.nil
     go_simp
     refine (must_no _ _).mono ?_
     rintro e1 w6 ⟨rfl,rfl⟩
     exact ⟨rfl,rfl,rfl,rfl,panW_below PW.out b5⟩
    refine AllReady.cons rfl (fun K hK => ?_) AllReady.nil
    go_simp
    refine hK _ _ ?_
    clear hK K
    refine wpAny_take (i:=9) (v:=?_) rfl (by kernel_rfl) (by kernel_rfl) (by kernel_rfl) (panQ_put (d:=16) (by decide) (by decide)) (Or.inl ⟨by rfl,?hy9⟩) ?_
    case hy9 => intro w;go_simp;(try with_reducible rfl)
    refine wpAny_ready (rs:=[4]) (by kernel_rfl) (by simp) ?_
    refine AllReady.cons rfl (fun K hK => ?_) AllReady.nil
    go_simp
    refine hK _ _ ?_
    clear hK K
    refine wpAny_take (i:=10) (v:=?_) rfl (by kernel_rfl) (by kernel_rfl) (by kernel_rfl) (panQ_put (d:=17) (by decide) (by decide)) (Or.inl ⟨by rfl,?hy10⟩) ?_
    case hy10 => intro w;go_simp;(try with_reducible rfl)
    refine wpAny_take (i:=11) (v:=?_) rfl (by kernel_rfl) (by kernel_rfl) (by kernel_rfl) (panQ_put (d:=18) (by decide) (by decide)) (Or.inl ⟨by rfl,?hy11⟩) ?_
    case hy11 => intro w;go_simp;(try with_reducible rfl)
    refine wpAny_ready (rs:=[12]) (by kernel_rfl) (by simp) ?_
    refine AllReady.cons rfl (fun K hK => ?_) AllReady.nil
    go_simp
    refine hK _ _ ?_
    clear hK K
    refine wpAny_ready (rs:=[13]) (by kernel_rfl) (by simp) ?_
    refine AllReady.cons rfl (fun K hK => ?_) AllReady.nil
    go_simp
    refine BO.out.mono ?_
    rintro e1 w5 ⟨rfl,b5⟩
    refine hK _ _ ?_
    clear hK K
    refine wpAny_ready (rs:=[14]) (by kernel_rfl) (by simp) ?_
    refine AllReady.cons rfl (fun K hK => ?_) AllReady.nil
    go_simp
    refine hK _ _ ?_
    clear hK K
    refine wpAny_ready (rs:=[15]) (by kernel_rfl) (by simp) ?_
    refine AllReady.cons rfl (fun K hK => ?_) AllReady.nil
    go_simp
    refine (must_no _ _).mono ?_
    rintro e1 w6 ⟨rfl,rfl⟩
    exact ⟨rfl,rfl,rfl,rfl,panW_below PW.out b5⟩
   ·
    have HN:Hid (allI t=some (q,cs)):=by show _=_;rw [HALL.out,if_pos ⟨hat,hok⟩]
    rw [hok] at BO
    clear hok HALL PW
    have HCS:Hid (∀ X,Below w2.heap.size w2 X→(X.cell? ⟨w.heap.size,0,none⟩=some (.int .i64 (q:Int))∧X.cell? ⟨w.heap.size,1,none⟩=some (.slice ao cs.length cap))∧X.cell? ⟨g,0,none⟩=some (.string t)∧X.cell? ⟨g,1,none⟩=some (.int .i64 (p:Int))):=fun X hX => ⟨⟨(hX.cell (p:=⟨w.heap.size,0,none⟩) (by show w.heap.size < _;omega)).trans hc0,(hX.cell (p:=⟨w.heap.size,1,none⟩) (by show w.heap.size < _;omega)).trans hc1⟩,(hX.cell (p:=⟨g,0,none⟩) (by show g < _;omega)).trans hg0,(hX.cell (p:=⟨g,1,none⟩) (by show g < _;omega)).trans hg1⟩
    go_region_held3 (fun w' => (w'.cell? ⟨w.heap.size,0,none⟩=some (.int .i64 (q:Int))∧w'.cell? ⟨w.heap.size,1,none⟩=some (.slice ao cs.length cap))∧w'.cell? ⟨g,0,none⟩=some (.string t)∧w'.cell? ⟨g,1,none⟩=some (.int .i64 (p:Int))) (first | (go_keep;done) | (exact HCS.out _ B5.out) | fail) ((first | (go_at_call 160;refine BO.out.mono ?_;rintro e1 w5 ⟨rfl,b5⟩;have B5:=hide b5;clear b5) | (go_at_call 209;refine (must_yes _ _).mono ?_;rintro e1 w6 ⟨rfl,rfl⟩) | fail))
    all_goals
     have GR:=grownBy_trans R2.out.2 (grownBy_below (some g) B5.out)
     clear hc0 hc1 hc2 hf0 hf1 hf2
     obtain ⟨⟨hc0,hc1,hc2⟩,hf0,hf1,hf2⟩:=whole_cells ((B5.out.block _ (heap_lt X2.out)).trans X2.out) ((B5.out.block _ (heap_lt Y2.out)).trans Y2.out)
     have ROW5:=hide (rowChange_below ROW2.out B5.out)
     go_wp2_with fail
     refine leaves_cons (f:=207) (args:=#[.pointer (some ⟨w.heap.size,0,none⟩),.pointer (some ⟨w.heap.size+1,0,none⟩)]) (by simp) (by simp [go_sem]) ?_
     refine (catch_idle _ _ _).mono ?_
     rintro e u' w'' ⟨rfl,rfl,rfl⟩
     refine ⟨.tuple #[.agg #[.int .i64 (q:Int),.slice ao cs.length cap],.bool true],by simp [results,Tryz.results202,go_sem,hc0,hc1,hc2],grownBy_far (grownBy_far (grownBy_far GR (Nat.le_refl _) _ _) (Nat.le_refl _) _ _) (by omega) _ _,.inr ⟨q,cs,ao,cap,HN.out,rfl,?_⟩⟩
     refine rowChange_le (rowChange_keep ROW5.out (fun b hb => ?_)) (by omega)
     have:=(rowChange_lt ROW5.out b hb).1
     exact (Below.heap_setCell _ _ _ _ (by intro e;simp only at e;omega)).trans ((Below.heap_setCell _ _ _ _ (by intro e;simp only at e;omega)).trans (Below.heap_setCell _ _ _ _ (by intro e;simp only at e;omega)))
  ·
   have hat':((p:Int) == (t.size:Int))=false:=by simp;omega
   have HN:Hid (allI t=none):=by show _=_;rw [HALL.out,if_neg (fun h => hat h.1)]
   clear HALL BO ROW2
   refine Code.wp_mono (panQ_door HN.out) ?_
   refine wp_region_any (by kernel_rfl) ?_
   change wpAny _ _ _ _ _ _ _ (World.drew _)
   refine wpAny_take (i:=0) (v:=?_) rfl (by kernel_rfl) (by kernel_rfl) (by kernel_rfl) (panQ_put (d:=7) (by decide) (by decide)) (Or.inl ⟨by rfl,?hy0⟩) ?_
   case hy0 => intro w;go_simp;(try with_reducible rfl)
   refine wpAny_take (i:=1) (v:=?_) rfl (by kernel_rfl) (by kernel_rfl) (by kernel_rfl) (panQ_put (d:=8) (by decide) (by decide)) (Or.inl ⟨by rfl,?hy1⟩) ?_
   case hy1 => intro w;go_simp;(try with_reducible rfl)
   refine wpAny_take (i:=2) (v:=?_) rfl (by kernel_rfl) (by kernel_rfl) (by kernel_rfl) (panQ_put (d:=9) (by decide) (by decide)) (Or.inl ⟨by rfl,?hy2⟩) ?_
   case hy2 => intro w;go_simp;(try with_reducible rfl)
   refine wpAny_take (i:=3) (v:=?_) rfl (by kernel_rfl) (by kernel_rfl) (by kernel_rfl) (panQ_put (d:=10) (by decide) (by decide)) (Or.inl ⟨by rfl,?hy3⟩) ?_
   case hy3 => intro w;go_simp;(try with_reducible rfl)
   refine wpAny_take (i:=5) (v:=?_) rfl (by kernel_rfl) (by kernel_rfl) (by kernel_rfl) (panQ_put (d:=12) (by decide) (by decide)) (Or.inl ⟨by rfl,?hy5⟩) ?_
   case hy5 => intro w;go_simp;(try with_reducible rfl)
   refine wpAny_take (i:=6) (v:=?_) rfl (by kernel_rfl) (by kernel_rfl) (by kernel_rfl) (panQ_put (d:=13) (by decide) (by decide)) (Or.inl ⟨by rfl,?hy6⟩) ?_
   case hy6 => intro w;go_simp;(try with_reducible rfl)
   refine wpAny_take (i:=7) (v:=?_) rfl (by kernel_rfl) (by kernel_rfl) (by kernel_rfl) (panQ_put (d:=14) (by decide) (by decide)) (Or.inl ⟨by rfl,?hy7⟩) ?_
   case hy7 => intro w;go_simp;(try with_reducible rfl)
   refine wpAny_ready (rs:=[4,8]) (by kernel_rfl) (by simp) ?_
   refine AllReady.cons rfl (fun K hK => ?_) ?_
   ·
    go_simp
    refine hK _ _ ?_
    clear hK K
    refine wpAny_ready (rs:=[8]) (by kernel_rfl) (by simp) ?_
    refine AllReady.cons rfl (fun K hK => ?_) AllReady.nil
    go_simp
    refine hK _ _ ?_
    clear hK K
    refine wpAny_take (i:=9) (v:=?_) rfl (by kernel_rfl) (by kernel_rfl) (by kernel_rfl) (panQ_put (d:=16) (by decide) (by decide)) (Or.inl ⟨by rfl,?hy9⟩) ?_
    case hy9 => intro w;go_simp;(try with_reducible rfl)
    refine wpAny_take (i:=10) (v:=?_) rfl (by kernel_rfl) (by kernel_rfl) (by kernel_rfl) (panQ_put (d:=17) (by decide) (by decide)) (Or.inl ⟨by rfl,?hy10⟩) ?_
    case hy10 => intro w;go_simp;(try with_reducible rfl)
    refine wpAny_take (i:=11) (v:=?_) rfl (by kernel_rfl) (by kernel_rfl) (by kernel_rfl) (panQ_put (d:=18) (by decide) (by decide)) (Or.inl ⟨by rfl,?hy11⟩) ?_
    case hy11 => intro w;go_simp;(try with_reducible rfl)
    refine wpAny_ready (rs:=[12]) (by kernel_rfl) (by simp) ?_
    refine AllReady.cons rfl (fun K hK => ?_) AllReady.nil
    go_simp
    refine hK _ _ ?_
    clear hK K
    refine wpAny_ready (rs:=[13]) (by kernel_rfl) (by simp) ?_
    refine AllReady.cons rfl (fun K hK => ?_) AllReady.nil
    go_simp
    refine hK _ _ ?_
    clear hK K
    refine wpAny_ready (rs:=[14]) (by kernel_rfl) (by simp) ?_
    refine AllReady.cons rfl (fun K hK => ?_) AllReady.nil
    go_simp
    refine hK _ _ ?_
    clear hK K
    refine wpAny_ready (rs:=[15]) (by kernel_rfl) (by simp) ?_
    refine AllReady.cons rfl (fun K hK => ?_) AllReady.nil
    go_simp
    refine (must_no _ _).mono ?_
    rintro e1 w6 ⟨rfl,rfl⟩
    exact ⟨rfl,rfl,rfl,rfl,panW_below PW.out (Below.refl _ _).drew⟩
   refine AllReady.cons rfl (fun K hK => ?_) AllReady.nil
   go_simp
   refine hK _ _ ?_
   clear hK K
   refine wpAny_take (i:=9) (v:=?_) rfl (by kernel_rfl) (by kernel_rfl) (by kernel_rfl) (panQ_put (d:=16) (by decide) (by decide)) (Or.inl ⟨by rfl,?hy9⟩) ?_
   case hy9 => intro w;go_simp;(try with_reducible rfl)
   refine wpAny_ready (rs:=[4]) (by kernel_rfl) (by simp) ?_
   refine AllReady.cons rfl (fun K hK => ?_) AllReady.nil
   go_simp
   refine hK _ _ ?_
   clear hK K
   refine wpAny_take (i:=10) (v:=?_) rfl (by kernel_rfl) (by kernel_rfl) (by kernel_rfl) (panQ_put (d:=17) (by decide) (by decide)) (Or.inl ⟨by rfl,?hy10⟩) ?_
   case hy10 => intro w;go_simp;(try with_reducible rfl)
   refine wpAny_take (i:=11) (v:=?_) rfl (by kernel_rfl) (by kernel_rfl) (by kernel_rfl) (panQ_put (d:=18) (by decide) (by decide)) (Or.inl ⟨by rfl,?hy11⟩) ?_
   case hy11 => intro w;go_simp;(try with_reducible rfl)
   refine wpAny_ready (rs:=[12]) (by kernel_rfl) (by simp) ?_
   refine AllReady.cons rfl (fun K hK => ?_) AllReady.nil
   go_simp
   refine hK _ _ ?_
   clear hK K
   refine wpAny_ready (rs:=[13]) (by kernel_rfl) (by simp) ?_
   refine AllReady.cons rfl (fun K hK => ?_) AllReady.nil
   go_simp
   refine hK _ _ ?_
   clear hK K
   refine wpAny_ready (rs:=[14]) (by kernel_rfl) (by simp) ?_
   refine AllReady.cons rfl (fun K hK => ?_) AllReady.nil
   go_simp
   refine hK _ _ ?_
   clear hK K
   refine wpAny_ready (rs:=[15]) (by kernel_rfl) (by simp) ?_
   refine AllReady.cons rfl (fun K hK => ?_) AllReady.nil
   go_simp
   refine (must_no _ _).mono ?_
   rintro e1 w6 ⟨rfl,rfl⟩
   exact ⟨rfl,rfl,rfl,rfl,panW_below PW.out (Below.refl _ _).drew⟩
theorem implReadBatch_any (t:ByteArray) (w:World) (ht:t.size≤1048576) :
  Calls Tryz.prog 189 #[.string t] w fun e w' => (∃ v,e=.returned (.tuple #[.agg #[.int .i64 (rdSeq t),v],.bool (rdOk t)])∧RowChange w' w.heap.size v (rdChanges t))∧Below w.heap.size w w':=by
 by_cases hbig:9000 < t.size
 ·
  have hbig':decide ((9000:Int) < (t.size:Int))=true:=by simp;omega
  obtain ⟨h1,h2,h3⟩:=big_none hbig
  rw [h1,h2,h3]
  clear h1 h2 h3
  go_enter Tryz.func189,Tryz.ntmps189
  go_wp2_with fail
  exact bodyPost_ret (v:=.tuple #[.agg #[.int .i64 0,.slice none 0 0],.bool false]) (by simp [results,Tryz.results189,go_sem]) rfl ⟨⟨_,rfl,.inl ⟨rfl,rfl⟩⟩,(Below.refl _ _).alloc (Nat.le_refl _) _⟩
 ·
  have hbig':decide ((9000:Int) < (t.size:Int))=false:=by simp;omega
  obtain ⟨wA,hwA⟩:∃ wA,wA=(w.alloc (.cells #[.int .i64 0,.slice none 0 0] 87)).alloc (.cells #[.string t,.int .i64 0] 262):=⟨_,rfl⟩
  have hb1:Below w.heap.size w (w.alloc (.cells #[.int .i64 0,.slice none 0 0] 87)):=(Below.refl _ w).alloc (Nat.le_refl _) _
  have hs1:(w.alloc (.cells #[.int .i64 0,.slice none 0 0] 87)).heap.size=w.heap.size+1:=by simp
  have hb2:Below (w.heap.size+1) (w.alloc (.cells #[.int .i64 0,.slice none 0 0] 87)) wA:=by rw [hwA];exact (Below.refl _ _).alloc (by rw [hs1];exact Nat.le_refl _) _
  have B0:Hid (Below w.heap.size w wA):=hb1.trans (hb2.mono (by omega))
  have X0:Hid (wA.heap[w.heap.size]? = some (.cells #[.int .i64 0,.slice none 0 0] 87 (0,0))):=(hb2.block _ (by omega)).trans (heap_alloc_new w _)
  have Y0:Hid (CurI wA (w.heap.size+1) t 0):=by have e:=heap_alloc_new (w.alloc (.cells #[.int .i64 0,.slice none 0 0] 87)) (.cells #[.string t,.int .i64 0] 262);rw [hs1] at e;rw [hwA];exact e
  have hsA:w.heap.size+1 < wA.heap.size:=heap_lt Y0.out
  clear hb1 hs1 hb2
  go_enter Tryz.func189,Tryz.ntmps189
  go_wp2_with fail
  rw [← hwA]
  clear hwA
  refine (whole_any t (w.heap.size+1) _ (by omega) Y0.out).mono ?_
  rintro e1 w1 ⟨r1,⟨hn,rfl⟩ | ⟨q,cs,ao,cap,hs,rfl,hrow⟩⟩
  ·
   have HE:=hide (allI_none hn)
   have x1:=(r1.block _ (heap_lt X0.out) (by simp)).trans X0.out
   have hc0:w1.cell? ⟨w.heap.size,0,none⟩=some (.int .i64 0):=(cell_of_row w1 _ 0 _ _ (0,0) x1).trans rfl
   have hc1:w1.cell? ⟨w.heap.size,1,none⟩=some (.slice none 0 0):=(cell_of_row w1 _ 1 _ _ (0,0) x1).trans rfl
   have hf0:=frozen_of_row w1 w.heap.size 0 _ _ x1
   have hf1:=frozen_of_row w1 w.heap.size 1 _ _ x1
   have B1:Hid (Below w.heap.size w w1):=B0.out.grown r1 (by omega) (fun k hk => by cases hk;omega)
   clear x1 r1 hn
   go_wp2_with fail
   rw [HE.out.1,HE.out.2.1,HE.out.2.2]
   exact bodyPost_ret (v:=.tuple #[.agg #[.int .i64 0,.slice none 0 0],.bool false]) (by simp [results,Tryz.results189,go_sem,hc0,hc1]) rfl ⟨⟨_,rfl,.inl ⟨rfl,rfl⟩⟩,(B1.out.setCell (p:=⟨w.heap.size,0,none⟩) (Nat.le_refl _) _).setCell (p:=⟨w.heap.size,1,none⟩) (Nat.le_refl _) _⟩
  ·
   have HE:=hide (allI_rd (by omega) hs)
   have x1:=(r1.block _ (heap_lt X0.out) (by simp)).trans X0.out
   have hc0:w1.cell? ⟨w.heap.size,0,none⟩=some (.int .i64 0):=(cell_of_row w1 _ 0 _ _ (0,0) x1).trans rfl
   have hc1:w1.cell? ⟨w.heap.size,1,none⟩=some (.slice none 0 0):=(cell_of_row w1 _ 1 _ _ (0,0) x1).trans rfl
   have hf0:=frozen_of_row w1 w.heap.size 0 _ _ x1
   have hf1:=frozen_of_row w1 w.heap.size 1 _ _ x1
   have B1:Hid (Below w.heap.size w w1):=B0.out.grown r1 (by omega) (fun k hk => by cases hk;omega)
   have HROW:=hide hrow
   clear x1 r1 hs hrow
   go_wp2_with fail
   rw [HE.out.1,HE.out.2.1,HE.out.2.2]
   refine bodyPost_ret (v:=.tuple #[.agg #[.int .i64 (q:Int),.slice ao cs.length cap],.bool true]) (by simp [results,Tryz.results189,go_sem,hc0,hc1]) rfl ⟨⟨_,rfl,?_⟩,(B1.out.setCell (p:=⟨w.heap.size,0,none⟩) (Nat.le_refl _) _).setCell (p:=⟨w.heap.size,1,none⟩) (Nat.le_refl _) _⟩
   refine rowChange_le (rowChange_keep HROW.out (fun b hb => ?_)) (Nat.le_of_lt (by omega:w.heap.size < wA.heap.size))
   have:=(rowChange_lt HROW.out b hb).1
   exact (Below.heap_setCell _ _ _ _ (by intro e;simp only at e;omega)).trans (Below.heap_setCell _ _ _ _ (by intro e;simp only at e;omega))
end Go.Proofs.YtepdckehokdjlaaGreatDoor
