/-
  append of a list that a call owns, none or some, onto one, at a step of a region that draws.
-/
import Derived.Test.YtlodenfdcckemaaDoorH26
import Derived.Laws.OwnMore
import Derived.Deep.AppendLies
namespace Go.Proofs.YtlodenfdcckemaaDoor
open Go.RowKit

theorem step_append_any {P : Program} {w : World} {ops : Array Oper} {o : Oper} {a : Act} {K : Act → World → Prop} {Q : Exit → Act → World → Prop} {E : Prop} (hgd : o.guard = none) (s x : Operand) (t : TypeId)
    (ho : o.op = .call { callee := .builtin .append, args := #[s, x], argTypes := #[t, t] })
    (base : Nat) (e : TypeId) (i : TypeInfo) (z : Value) (bytes : Nat) (ht : P.underlying t = some (.slice e)) (hi : P.info? e = some i) (hz : i.zero = some z) (hsize : i.size = 1) (hby : i.bytes = bytes) (hzs : z.cells.size = 1)
    (v : Value) (n : Nat) (xs : List Value) (hs : a.eval s = v) (hown : w.ownsRow base e 1 v n xs) (b2 : Nat) (u : Value) (m : Nat) (news : List Value) (hx : a.eval x = u) (hu : Own w b2 e u news) (hm : news.length = m) (h1 : ∀ u ∈ news, u.oneCell' = true)
    (h63 : n + m ≤ maxLen) (hbytes : (n + m) * bytes ≤ 140737488355328) (hbase : base ≤ w.heap.size)
    (h : ∀ v' w', w'.ownsRow base e 1 v' (n + m) (xs ++ news) → w.grownBy w' v.ownBlock → K (a.put o.dst v') w') :
    if Region.wanted o (yielded ops a.tmps) = true then Oper.wp P o a w K Q else E := by
  have hw : Region.wanted o (yielded ops a.tmps) = true := by simp [Region.wanted, hgd]
  rw [if_pos hw]
  subst hm
  rcases hu with ⟨hu, hn⟩ | ⟨g, cap, hu, _, _, hr⟩
  · subst hn
    have hrun := run_append_owned_none (P := P) (w := w) base t o.type e i 1 ht hi v n xs hown
    unfold Oper.wp
    simp only [execOp, ho, resolve, invoke, builtin, Sem.run_bind, Sem.run_pure, Result.andThen_ok, List.map_toArray, List.map_cons, List.map_nil, hs, hx, hu, hrun]
    exact h v w (by simpa using hown) ⟨rfl, rfl, rfl, Nat.le_refl _, fun _ _ _ => rfl⟩
  · have hnews : ∀ j y, news[j]? = some y → w.cell? ((⟨g, 0, none⟩ : Addr).add j) = some y := fun j y hj => by
      have hadd : (⟨g, 0, none⟩ : Addr).add j = ⟨g, j, none⟩ := by unfold Addr.add; split <;> simp_all
      obtain ⟨hlt, hy⟩ := List.getElem?_eq_some_iff.1 hj
      rw [hadd, hr.cell hlt undef, getD_lt _ _ _ hlt, hy]
    obtain ⟨v', w', hrun, h2, h3, _, _⟩ := run_append_own_at (P := P) w base t o.type e i z 1 bytes ht hi hz hsize hby hzs (by decide) v n xs hown ⟨g, 0, none⟩ news.length cap news (by omega) hnews h1 h63 hbytes hbase
    unfold Oper.wp
    simp only [execOp, ho, resolve, invoke, builtin, Sem.run_bind, Sem.run_pure, Result.andThen_ok, List.map_toArray, List.map_cons, List.map_nil, hs, hx, hu, hrun]
    exact h v' w' h2 h3

theorem own_any {w : World} {base n : Nat} {t : TypeId} {v : Value} {xs : List Value} (h : w.ownsRow base t 1 v n xs) : Own w base t v xs := by
  have h' := h
  obtain ⟨hl, ⟨rfl, h0⟩ | ⟨g, cap, cur, rfl, _⟩⟩ := h'
  · exact Or.inl ⟨rfl, List.eq_nil_of_length_eq_zero (by rw [hl, h0])⟩
  · exact own_of h

theorem grown_new {u w' : World} {o : Obj} {v : Value} (hv : v.ownBlock = some u.heap.size) (h : (u.alloc o).drew.grownBy w' v.ownBlock) : Below u.heap.size u w' := by
  have hb := alloc_below u o
  have hs : (u.alloc o).drew.heap.size = u.heap.size + 1 := alloc_size u o
  have h2 := h.size
  refine ⟨h.os, h.tape, h.output, by omega, fun q hq => (h.block q (by omega) (fun e => ?_)).trans (hb.block q hq)⟩
  rw [hv] at e
  cases e
  omega

theorem grown_more {u w w' : World} {o : Obj} {v : Value} (hv : ∀ q, v.ownBlock = some q → u.heap.size ≤ q) (hb : Below u.heap.size u w) (h : (w.alloc o).grownBy w' v.ownBlock) : Below u.heap.size u w' := by
  have hs : (w.alloc o).heap.size = w.heap.size + 1 := alloc_size w o
  have hb2 := hb.size
  have h2 := h.size
  refine hb.trans ⟨h.os, h.tape, h.output, by omega, fun q hq => (h.block q (by omega) (fun e => ?_)).trans ((alloc_below w o).block q (by omega))⟩
  have := hv q e.symm
  omega
end Go.Proofs.YtlodenfdcckemaaDoor
