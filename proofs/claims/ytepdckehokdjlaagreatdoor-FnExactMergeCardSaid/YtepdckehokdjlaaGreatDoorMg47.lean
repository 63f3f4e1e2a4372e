import Derived.Lib.SmallJoins
import Derived.OpenShut
import Derived.Test.YtepdckehokdjlaaGreatDoorMg5
import Derived.Test.YtepdckehokdjlaaGreatDoorMg7
set_option maxRecDepth 100000
namespace Go.Proofs.YtepdckehokdjlaaGreatDoor
open Go.RowKit Go.ChangeShapes Go.WideShapes Go.Deep
theorem file_of {H:Type} {enc:TypeId × Value→H} {w:World} {fuel:Nat} {cs:List Value} {x:DataW H × List MemPlace} (h:DataW.trod enc Tryz.prog w 0 (fun _ => true) true fuel 135 cs=some x) :
  ∃ F:FileD,cs=[.string F.name,.string F.text,.int .i64 F.kept]∧F.name.size≤maxLen∧F.text.size≤maxLen:=by
 obtain ⟨y0,y1,y2,n,hx,hl,h0,h1,h2⟩:=trod_struct3 Tryz.underlying135 h
 have hc:Tryz.prog.cellsOf 135=3:=by kernel_rfl
 have k0:Tryz.prog.cellsOf 9=1:=by kernel_rfl
 have k1:Tryz.prog.cellsOf 3=1:=by kernel_rfl
 rw [hc] at hl
 match cs,hl with
 | [v0,v1,v2],_ =>
  simp only [k0,k1] at h0 h1 h2
  obtain ⟨s0,e0,_,z0⟩:=DataW.trod_string Tryz.underlying9 h0
  obtain ⟨s1,e1,_,z1⟩:=DataW.trod_string Tryz.underlying9 h1
  obtain ⟨x2,e2,_,_⟩:=DataW.trod_int Tryz.underlying3 h2
  simp at e0 e1 e2
  subst e0 e1 e2
  exact ⟨⟨s0,s1,x2⟩,rfl,z0,z1⟩
end Go.Proofs.YtepdckehokdjlaaGreatDoor
namespace Go.Proofs.YtepdckehokdjlaaGreatDoor
open Go.RowKit Go.ChangeShapes Go.WideShapes Go.Deep Go.Joins
theorem files_in {H:Type} {enc:TypeId × Value→H} {w:World} {n:Nat} {c0:Value} {y0:DataW H × List MemPlace} (h0':DataW.trod enc Tryz.prog w 0 (fun _ => true) true n 22 [c0]=some y0) :
  ∃ (ao:Option Addr) (fs:List FileD) (cap:Nat),c0=.slice ao fs.length cap∧fs.length≤maxLen∧FilesAt w ao fs∧∀ F ∈ fs,F.name.size≤maxLen∧F.text.size≤maxLen:=by
 have hc:Tryz.prog.cellsOf 135=3:=by kernel_rfl
 rcases open_slice Tryz.underlying22 h0' with ⟨e,_⟩ | ⟨a,len,cap,m,n',D,Pl,e,_,hle,hmx,hm,_,hel⟩
 ·
  simp at e
  subst e
  exact ⟨none,[],0,rfl,by unfold maxLen;simp,fun j hj => absurd hj (by simp),fun F hF => absurd hF List.not_mem_nil⟩
 ·
  simp at e
  subst e
  rw [hc] at hel
  have hm':len≤m:=by rw [hm];simpa using hle
  have hch:∀ i,i < len→∃ F:FileD,w.cells? 0 (a.add (i * 3)) 3=some [.string F.name,.string F.text,.int .i64 F.kept]∧F.name.size≤maxLen∧F.text.size≤maxLen:=by
   intro i hi
   obtain ⟨cs',g1,g2⟩:=hel i (by omega)
   obtain ⟨F,rfl,z0,z1⟩:=file_of g2
   exact ⟨F,g1,z0,z1⟩
  haveI:Inhabited FileD:=⟨⟨⟨#[]⟩,⟨#[]⟩,0⟩⟩
  obtain ⟨G,hG⟩:=choose_lt hch
  refine ⟨some a,(List.range len).map G,cap,by simp,by simp;omega,?_,?_⟩
  ·
   intro j hj
   have hj':j < len:=by simpa using hj
   obtain ⟨g1,_,_⟩:=hG j hj'
   obtain ⟨_,_,hcell⟩:=World.cells?_some g1
   have q0:=hcell 0 (by omega)
   have q1:=hcell 1 (by omega)
   have q2:=hcell 2 (by omega)
   obtain ⟨b,off,spot⟩:=a
   have hspot:spot=none:=by
    obtain ⟨_,_,hcell0⟩:=World.cells?_some (hG 0 (by omega)).1
    have q:=hcell0 0 (by omega)
    simpa [Addr.add] using World.cell?_spot q
   subst hspot
   have ha:∀ o i,((⟨b,o,none⟩:Addr).add i)=⟨b,o+i,none⟩:=by intro o i;cases i <;> simp [Addr.add]
   simp only [ha] at q0 q1 q2
   refine ⟨b,off,rfl,?_,?_,?_,?_⟩
   ·
    rcases Nat.lt_or_ge b w.heap.size with h | h
    · exact h
    ·
     unfold World.cell? at q0
     rw [show w.heap[(⟨b,off+j * 3+0,none⟩:Addr).block]? = none from Array.getElem?_eq_none h] at q0
     cases q0
   · simpa using q0
   · simpa using q1
   · simpa using q2
  ·
   intro F hF
   obtain ⟨i,hi,rfl⟩:=List.mem_map.1 hF
   exact (hG i (by simpa using hi)).2
theorem spots_in {H:Type} {enc:TypeId × Value→H} {w:World} {fuel:Nat} {c0:Value} {y0:DataW H × List MemPlace} (h0':DataW.trod enc Tryz.prog w 0 (fun _ => true) true fuel 25 [c0]=some y0) :
  ∃ (ao:Option Addr) (fs:List SpotD) (cap:Nat),c0=.slice ao fs.length cap∧fs.length≤maxLen∧SpotsAt w ao fs∧∀ A ∈ fs,A.key.size≤maxLen:=by
 have hc:Tryz.prog.cellsOf 72=4:=by kernel_rfl
 rcases open_slice Tryz.underlying25 h0' with ⟨e,_⟩ | ⟨a,len,cap,m,n',D,Pl,e,_,hle,hmx,hm,_,hel⟩
 ·
  simp at e
  subst e
  exact ⟨none,[],0,rfl,by unfold maxLen;simp,fun j hj => absurd hj (by simp),fun F hF => absurd hF List.not_mem_nil⟩
 ·
  simp at e
  subst e
  rw [hc] at hel
  have hm':len≤m:=by rw [hm];simpa using hle
  have hch:∀ i,i < len→∃ A:SpotD,w.cells? 0 (a.add (i * 4)) 4=some [.string A.key,.int .i64 A.seg,.int .i64 A.pos,.int .i64 A.seq]∧A.key.size≤maxLen:=by
   intro i hi
   obtain ⟨cs',g1,g2⟩:=hel i (by omega)
   obtain ⟨A,rfl,z0⟩:=spot_in g2
   exact ⟨A,g1,z0⟩
  haveI:Inhabited SpotD:=⟨⟨⟨#[]⟩,0,0,0⟩⟩
  obtain ⟨G,hG⟩:=choose_lt hch
  refine ⟨some a,(List.range len).map G,cap,by simp,by simp;omega,?_,?_⟩
  ·
   intro j hj
   have hj':j < len:=by simpa using hj
   have g1:=(hG j hj').1
   obtain ⟨_,_,hcell⟩:=World.cells?_some g1
   have q0:=hcell 0 (by omega)
   have q1:=hcell 1 (by omega)
   have q2:=hcell 2 (by omega)
   have q3:=hcell 3 (by omega)
   obtain ⟨b,off,spot⟩:=a
   have hspot:spot=none:=by
    obtain ⟨_,_,hcell0⟩:=World.cells?_some (hG 0 (by omega)).1
    have q:=hcell0 0 (by omega)
    simpa [Addr.add] using World.cell?_spot q
   subst hspot
   have ha:∀ o i,((⟨b,o,none⟩:Addr).add i)=⟨b,o+i,none⟩:=by intro o i;cases i <;> simp [Addr.add]
   simp only [ha] at q0 q1 q2 q3
   refine ⟨b,off,rfl,?_,?_,?_,?_,?_⟩
   ·
    rcases Nat.lt_or_ge b w.heap.size with h | h
    · exact h
    ·
     unfold World.cell? at q0
     rw [show w.heap[(⟨b,off+j * 4+0,none⟩:Addr).block]? = none from Array.getElem?_eq_none h] at q0
     cases q0
   · simpa using q0
   · simpa using q1
   · simpa using q2
   · simpa using q3
  ·
   intro A hA
   obtain ⟨i,hi,rfl⟩:=List.mem_map.1 hA
   exact (hG i (by simpa using hi)).2
theorem engine_of {H:Type} {enc:TypeId × Value→H} {w:World} {base:Nat} {v:Value} {d:DataW H} {p:List MemPlace} (hv:Value.okWide Tryz.prog w .any base 27 v)
  (h:DataW.Trod enc Tryz.prog w 0 (fun _ => true) true 27 v d p) :
  ∃ (ao:Option Addr) (fs:List FileD) (cap:Nat) (room act seq:Int) (ad:Option Addr) (dir:List SpotD) (cd:Nat),v=.agg #[.slice ao fs.length cap,.int .i64 room,.int .i64 act,.int .i64 seq,.slice ad dir.length cd] ∧
   fs.length≤maxLen∧FilesAt w ao fs∧(∀ F ∈ fs,F.name.size≤maxLen∧F.text.size≤maxLen)∧dir.length≤maxLen∧SpotsAt w ad dir∧∀ A ∈ dir,A.key.size≤maxLen:=by
 have hd:Tryz.prog.cellsOf 27=5:=by kernel_rfl
 have hk:Tryz.prog.cellsOf 24=1:=by kernel_rfl
 have hi:Tryz.prog.cellsOf 3=1:=by kernel_rfl
 have hs:Tryz.prog.cellsOf 25=1:=by kernel_rfl
 have hf:Tryz.prog.cellsOf 22=1:=by kernel_rfl
 obtain ⟨cs,rfl,hsz⟩:=okWide_struct Tryz.underlying27 hv
 rw [hd] at hsz
 obtain ⟨l⟩:=cs
 match l,hsz with
 | [c0,c1,c2,c3,c4],_ =>
  obtain ⟨fuel,hh⟩:=h
  obtain ⟨xs,n,_,_,_,hlen,hfl⟩:=DataW.trod_struct Tryz.underlying27 hh
  match xs,hlen with
  | [y0,y1,y2,y3,y4],_ =>
   have t0:DataW.trod enc Tryz.prog w 0 (fun _ => true) true n 24 [c0]=some y0:=by
    have q:=hfl 0 _ rfl
    simpa [hk,Value.cells] using q
   have t1:DataW.trod enc Tryz.prog w 0 (fun _ => true) true n 3 [c1]=some y1:=by
    have q:=hfl 1 _ rfl
    simpa [hi,Value.cells] using q
   have t2:DataW.trod enc Tryz.prog w 0 (fun _ => true) true n 3 [c2]=some y2:=by
    have q:=hfl 2 _ rfl
    simpa [hi,Value.cells] using q
   have t3:DataW.trod enc Tryz.prog w 0 (fun _ => true) true n 3 [c3]=some y3:=by
    have q:=hfl 3 _ rfl
    simpa [hi,Value.cells] using q
   have t4:DataW.trod enc Tryz.prog w 0 (fun _ => true) true n 25 [c4]=some y4:=by
    have q:=hfl 4 _ rfl
    simpa [hs,Value.cells] using q
   obtain ⟨z0,n0,_,_,u0⟩:=trod_struct1 Tryz.underlying24 t0
   simp only [hf] at u0
   obtain ⟨ao,fs,cap,e0,l0,f0,s0⟩:=files_in (c0:=c0) u0
   obtain ⟨x1,e1,_,_⟩:=DataW.trod_int Tryz.underlying3 t1
   obtain ⟨x2,e2,_,_⟩:=DataW.trod_int Tryz.underlying3 t2
   obtain ⟨x3,e3,_,_⟩:=DataW.trod_int Tryz.underlying3 t3
   obtain ⟨ad,dir,cd,e4,l4,f4,s4⟩:=spots_in (c0:=c4) t4
   simp at e1 e2 e3
   subst e0 e1 e2 e3 e4
   exact ⟨ao,fs,cap,x1,x2,x3,ad,dir,cd,rfl,l0,f0,s0,l4,f4,s4⟩
end Go.Proofs.YtepdckehokdjlaaGreatDoor
