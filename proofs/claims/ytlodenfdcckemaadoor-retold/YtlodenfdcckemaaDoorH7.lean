/-
  Rows of one-cell elements that a call has made, with spare room; append as laws on them.
-/
import Derived.Test.YtlodenfdcckemaaDoorH6
import Derived.Deep.AppendLies
namespace Go.Proofs.YtlodenfdcckemaaDoor
open Go.RowKit

/-- Block g has room for cap elements of one cell each; the first are xs. -/
def Row1 (w : World) (g : Nat) (t : TypeId) (cap : Nat) (xs : List Value) : Prop := ∃ rest, Blk w g t (xs ++ rest) ∧ (xs ++ rest).length = cap

namespace Row1
variable {w w' : World} {g : Nat} {t : TypeId} {cap : Nat} {xs : List Value}

theorem lt (h : Row1 w g t cap xs) : g < w.heap.size := h.elim fun _ hr => hr.1.lt
theorem le (h : Row1 w g t cap xs) : xs.length ≤ cap := by obtain ⟨r, _, hl⟩ := h; simp at hl; omega
theorem of_block (h : Row1 w g t cap xs) (e : w'.heap[g]? = w.heap[g]?) : Row1 w' g t cap xs := h.elim fun r hr => ⟨r, hr.1.of_block e, hr.2⟩
theorem below' (h : Row1 w g t cap xs) (hb : Below w.heap.size w w') : Row1 w' g t cap xs := h.elim fun r hr => ⟨r, hr.1.below' hb, hr.2⟩
theorem below {B : Nat} (h : Row1 w g t cap xs) (hb : Below B w w') (hB : g < B) : Row1 w' g t cap xs := h.elim fun r hr => ⟨r, hr.1.below hb hB, hr.2⟩
theorem grown (h : Row1 w g t cap xs) {row : Option Nat} (hg : w.grownBy w' row) (hne : row ≠ some g) : Row1 w' g t cap xs := h.elim fun r hr => ⟨r, hr.1.grown hg hne, hr.2⟩
theorem alloc (h : Row1 w g t cap xs) (o : Obj) : Row1 (w.alloc o) g t cap xs := h.elim fun r hr => ⟨r, hr.1.alloc o, hr.2⟩
theorem setOther (h : Row1 w g t cap xs) {a : Addr} (ha : g ≠ a.block) (v : Value) : Row1 (w.setCell a v) g t cap xs := h.elim fun r hr => ⟨r, hr.1.setOther ha v, hr.2⟩
theorem cell (h : Row1 w g t cap xs) {i : Nat} (hi : i < xs.length) (d : Value) : w.cell? ⟨g, i, none⟩ = some (xs.getD i d) := by
  obtain ⟨r, hr, _⟩ := h
  rw [hr.cell (i := i) (by simp; omega) d]
  simp [List.getElem?_append, hi]
theorem frozen (h : Row1 w g t cap xs) (i : Nat) : w.frozen? ⟨g, i, none⟩ = false := h.elim fun _ hr => hr.1.frozen i
theorem set (h : Row1 w g t cap xs) {i : Nat} (hi : i < xs.length) (v : Value) : Row1 (w.setCell ⟨g, i, none⟩ v) g t cap (xs.set i v) := by
  obtain ⟨r, hr, hl⟩ := h
  refine ⟨r, ?_, by simpa using hl⟩
  have := hr.set i v
  rwa [List.set_append_left _ _ hi] at this

theorem own {base : Nat} (h : Row1 w g t cap xs) (hb : base ≤ g) (h63 : cap ≤ maxLen) : w.ownsRow base t 1 (.slice (some ⟨g, 0, none⟩) xs.length cap) xs.length xs := by
  have hle := h.le
  obtain ⟨r, hr, hl⟩ := h
  refine ⟨by simp, Or.inr ⟨g, cap, _, rfl, hb, hr, hle, h63, by simpa using hl, by simp⟩⟩

end Row1

theorem row1_of {w : World} {base g cap n : Nat} {t : TypeId} {xs : List Value} (h : w.ownsRow base t 1 (.slice (some ⟨g, 0, none⟩) n cap) n xs) : Row1 w g t cap xs ∧ base ≤ g ∧ cap ≤ maxLen ∧ xs.length = n := by
  obtain ⟨hl, h | ⟨g', cap', cur, he, hb, hg, hle, h63, hcs, htk⟩⟩ := h
  · obtain ⟨h, _⟩ := h; simp at h
  · simp only [Value.slice.injEq, Option.some.injEq, Addr.mk.injEq, and_true, true_and] at he
    obtain ⟨rfl, rfl⟩ := he
    refine ⟨⟨cur.toList.drop (n * 1), ?_, ?_⟩, hb, h63, by omega⟩
    · rw [← htk, List.take_append_drop]; exact hg
    · rw [← htk, List.take_append_drop]; simpa using hcs

/-- 'append(s, x)' within the capacity, the element laid in a block of its own. -/
theorem wpList_append_one {P : Program} {w : World} {ops : Array Oper} {rest : List Oper} {a : Act} {Q : Exit → Act → World → Prop} {dst : Option Tmp} {type : TypeId} {pos : String} {after : Array Edge} (s x : Operand) (t e : TypeId)
    (hu : P.underlying t = some (.slice e)) (hsz : (P.info? e).map (·.size) = some 1) (g cap N : Nat) (xs : List Value) (u : Value) (n : Nat) (hn : n = xs.length)
    (hs : a.eval s = .slice (some ⟨g, 0, none⟩) n cap) (hx : a.eval x = .slice (some ⟨N, 0, none⟩) 1 1) (he : Row1 w g e cap xs) (h63 : cap ≤ maxLen) (hN : w.cell? ⟨N, 0, none⟩ = some u) (h1 : u.oneCell' = true) (hroom : n + 1 ≤ cap)
    (hK : ∀ w', Row1 w' g e cap (xs ++ [u]) → w.grownBy w' (some g) → wpList P ops Q rest (a.put dst (.slice (some ⟨g, 0, none⟩) (n + 1) cap)) w') :
    wpList P ops Q (⟨dst, .call { callee := .builtin .append, args := #[s, x], argTypes := #[t, t] }, type, pos, after, none⟩ :: rest) a w := by
  obtain ⟨i, hi, hz⟩ := Option.map_eq_some_iff.1 hsz
  subst hn
  refine wpList_append_fits w rfl s x t rfl 0 e i 1 hu hi hz g xs.length cap xs hs (he.own (Nat.zero_le _) h63) ⟨N, 0, none⟩ 1 1 [u] hx rfl ?_ ?_ hroom ?_
  · intro j v hj
    match j, hj with
    | 0, hj => simp at hj; subst hj; simpa [Addr.add] using hN
  · intro v hv; simp at hv; rw [hv]; exact h1
  · intro w' ho hg
    exact hK w' (row1_of ho).1 hg

/-- The value v is a slice that the call owns, from block base on; it holds xs. -/
def Own (w : World) (base : Nat) (t : TypeId) (v : Value) (xs : List Value) : Prop :=
  (v = .slice none 0 0 ∧ xs = []) ∨ ∃ g cap, v = .slice (some ⟨g, 0, none⟩) xs.length cap ∧ base ≤ g ∧ cap ≤ maxLen ∧ Row1 w g t cap xs

namespace Own
variable {w w' : World} {base : Nat} {t : TypeId} {v : Value} {xs : List Value}

theorem nil (w : World) (base : Nat) (t : TypeId) : Own w base t (.slice none 0 0) [] := Or.inl ⟨rfl, rfl⟩
theorem own (h : Own w base t v xs) : w.ownsRow base t 1 v xs.length xs := by
  rcases h with ⟨rfl, rfl⟩ | ⟨g, cap, rfl, hb, h63, hr⟩
  · exact World.ownsRow_nil _ _ _ _
  · exact hr.own hb h63
theorem shape (h : Own w base t v xs) : ∃ ao cap, v = .slice ao xs.length cap := by
  rcases h with ⟨rfl, rfl⟩ | ⟨g, cap, rfl, hb, h63, hr⟩
  · exact ⟨none, 0, rfl⟩
  · exact ⟨_, cap, rfl⟩
theorem lt (h : Own w base t v xs) {g : Nat} (e : v.ownBlock = some g) : base ≤ g ∧ g < w.heap.size := by
  rcases h with ⟨rfl, rfl⟩ | ⟨g', cap, rfl, hb, h63, hr⟩
  · simp [Value.ownBlock] at e
  · simp [Value.ownBlock] at e; subst e; exact ⟨hb, hr.lt⟩
theorem below' (h : Own w base t v xs) (hb : Below w.heap.size w w') : Own w' base t v xs := by
  rcases h with h | ⟨g, cap, rfl, h1, h2, hr⟩
  · exact Or.inl h
  · exact Or.inr ⟨g, cap, rfl, h1, h2, hr.below' hb⟩
theorem grown (h : Own w base t v xs) {row : Option Nat} (hg : w.grownBy w' row) (hne : v.ownBlock = none ∨ v.ownBlock ≠ row) : Own w' base t v xs := by
  rcases h with h | ⟨g, cap, rfl, h1, h2, hr⟩
  · exact Or.inl h
  · refine Or.inr ⟨g, cap, rfl, h1, h2, hr.grown hg ?_⟩
    rcases hne with h | h
    · simp [Value.ownBlock] at h
    · exact fun e => h (by rw [e]; rfl)
theorem alloc (h : Own w base t v xs) (o : Obj) : Own (w.alloc o) base t v xs := by
  rcases h with h | ⟨g, cap, rfl, h1, h2, hr⟩
  · exact Or.inl h
  · exact Or.inr ⟨g, cap, rfl, h1, h2, hr.alloc o⟩
theorem ints {B : Nat} {zs : List Int} (h : Own w base t v (zs.map (Value.int .i64))) (hB : w.heap.size ≤ B) : ∃ ao cap, v = .slice ao zs.length cap ∧ IntsAt w B ao zs := by
  rcases h with ⟨rfl, h⟩ | ⟨g, cap, rfl, hb, h63, hr⟩
  · have : zs = [] := by simpa using h
    subst this
    exact ⟨none, 0, rfl, fun h => absurd rfl h⟩
  · refine ⟨_, cap, by simp, fun _ => ⟨g, 0, rfl, Nat.lt_of_lt_of_le hr.lt hB, fun i hi => ?_⟩⟩
    rw [Nat.zero_add, hr.cell (i := i) (by simpa using hi) (.int .i64 0)]
    simp [hi]
end Own

/-- 'append(s, x, ..)' that may grow, the elements laid in a block of their own. -/
theorem wpList_append_new {P : Program} {w : World} {ops : Array Oper} {rest : List Oper} {a : Act} {Q : Exit → Act → World → Prop} {dst : Option Tmp} {type : TypeId} {pos : String} {after : Array Edge} (s x : Operand) (t e : TypeId) (z : Value) (bytes : Nat)
    (hu : P.underlying t = some (.slice e)) (hinfo : (P.info? e).map (fun i => (i.zero, i.size, i.bytes)) = some (some z, 1, bytes)) (hz1 : z.cells.size = 1) (base N : Nat) (v : Value) (xs news : List Value) (m n : Nat) (hn : xs.length = n) (hm : news.length = m) (hm0 : 0 < m)
    (hs : a.eval s = v) (hx : a.eval x = .slice (some ⟨N, 0, none⟩) m m) (ho : Own w base e v xs) (hN : Blk w N e news) (h1 : ∀ u ∈ news, u.oneCell' = true) (h63 : n + m ≤ maxLen) (hby : (n + m) * bytes ≤ 140737488355328) (hbase : base ≤ w.heap.size)
    (hK : ∀ g cap w', Own w' base e (.slice (some ⟨g, 0, none⟩) (n + m) cap) (xs ++ news) → w.grownBy w' v.ownBlock → (v.ownBlock = some g ∨ g = w.heap.size) → g < w'.heap.size → wpList P ops Q rest (a.put dst (.slice (some ⟨g, 0, none⟩) (n + m) cap)) w') :
    wpList P ops Q (⟨dst, .call { callee := .builtin .append, args := #[s, x], argTypes := #[t, t] }, type, pos, after, none⟩ :: rest) a w := by
  subst hn
  obtain ⟨i, hi, hzz⟩ := Option.map_eq_some_iff.1 hinfo
  simp only [Prod.mk.injEq] at hzz
  obtain ⟨hz, hsz, hb⟩ := hzz
  refine wpList_append_lies w rfl s x t rfl base e i z 1 bytes hu hi hz hsz hb hz1 (by decide) v xs.length xs hs ho.own ⟨N, 0, none⟩ m m news hx (by omega) ?_ h1 hm0 h63 hby hbase _ rfl ?_
  · intro j u hj
    exact World.news_of_block hN j u (by simpa using hj)
  · intro g cap w' hw hg hat hlt
    obtain ⟨hr, hb', h63', _⟩ := row1_of hw
    exact hK g cap w' (Or.inr ⟨g, cap, by simp [hm], hb', h63', hr⟩) hg hat hlt

end Go.Proofs.YtlodenfdcckemaaDoor
