/- Arrays of replies, on both sides. -/
import Derived.Test.YtpibnhodlojajaaDoorRepS
namespace Go.Proofs.YtpibnhodlojajaaDoor
open Go.RowKit

/-- 'append(out, b...)', both rows of bytes that a conversion made, in a plain region. -/
theorem app_madeB {P : Program} {ops : Array Oper} {rest : List Oper} {o : Oper} {a : Act} {Q : Exit → Act → World → Prop} (w : World) (t e : TypeId) (ht : P.underlying t = some (.slice e)) (hinfo : (P.info? e).map (fun i => (i.zero, i.size, i.bytes)) = some (some (.int .u8 0), 1, 1))
    (B : Nat) (hgd : o.guard = none) (sl x : Operand) (ho : o.op = .call { callee := .builtin .append, args := #[sl, x], argTypes := #[t, t] }) (v : Value) (l news : List UInt8) (hs : a.eval sl = v) (hown : OwnsB w B e v l)
    (ad : Addr) (c : Nat) (hx : a.eval x = .slice (some ad) news.length c) (hnews : ∀ j u, (news.map bv)[j]? = some u → w.cell? (ad.add j) = some u) (hlen : l.length + news.length ≤ 70368744177664) (hbase : B ≤ w.heap.size)
    (h : ∀ v' w', OwnsB w' B e v' (l ++ news) → w.grownBy w' v.ownBlock → wpList P ops Q rest (a.put o.dst v') w') : wpList P ops Q (o :: rest) a w := by
  refine wpList_plain hgd fun K hK => ?_
  obtain ⟨v', w', hr, h2, h3⟩ := append_made (P := P) w B t o.type e ht hinfo v l news hown ad c hnews hlen hbase
  unfold Oper.wp execOp
  simp only [ho, resolve, invoke, builtin, Sem.run_bind, Sem.run_pure, Result.andThen_ok, List.map_toArray, List.map_cons, List.map_nil, hs, hx, hr]
  exact hK _ _ (h v' w' h2 h3)

/-- An array of replies. -/
def arrB (ts : List ByteArray) : ByteArray := catB (hdB ⟨#[42]⟩ ts.length) ts

end Go.Proofs.YtpibnhodlojajaaDoor
