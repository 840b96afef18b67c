/-
  The books: lists that came out, written over with marks; they may have spare room.
-/
import Derived.Test.YtlodenfdcckemaaDoorH9
import Derived.Deep.QuietTactic
import Derived.BigQuiet
import Derived.ArgAppend
namespace Go.Proofs.YtlodenfdcckemaaDoor
open Go.RowKit

/-- A list of lists, made, where it lies. -/
theorem Own.at {w : World} {base : Nat} {t : TypeId} {v : Value} {xs : List Value} (h : Own w base t v xs) (h0 : 0 < xs.length) : ∃ g cap, v = .slice (some ⟨g, 0, none⟩) xs.length cap ∧ g < w.heap.size ∧ ∀ i, i < xs.length → w.cell? ⟨g, i, none⟩ = some (xs.getD i undef) := by
  rcases h with ⟨_, h⟩ | ⟨g, cap, h1, _, _, hr⟩
  · rw [h] at h0; simp at h0
  · exact ⟨g, cap, h1, hr.lt, fun i hi => hr.cell hi undef⟩

/-- n times the same value. -/
abbrev rep (n : Nat) (u : Value) : List Value := List.replicate n u

theorem rep_one (n : Nat) (u : Value) (h : u.oneCell' = true) : ∀ x ∈ rep n u, x.oneCell' = true := by
  intro x hx
  rw [(List.mem_replicate.1 hx).2]
  exact h
theorem rep_get (n : Nat) (u : Value) (i : Nat) (h : i < n) : (rep n u).getD i undef = u := by simp [h]
theorem rep_append (n k : Nat) (u : Value) : rep n u ++ rep k u = rep (n + k) u := by simp

/-- Less of a row of the same value. -/
theorem Row1.less {w : World} {g : Nat} {t : TypeId} {cap n j : Nat} {u : Value} (h : Row1 w g t cap (rep n u)) (hj : j ≤ n) : Row1 w g t cap (rep j u) := by
  obtain ⟨r, hr, hl⟩ := h
  have e : rep n u ++ r = rep j u ++ (rep (n - j) u ++ r) := by
    rw [← List.append_assoc, rep_append, show j + (n - j) = n by omega]
  rw [e] at hr hl
  exact ⟨_, hr, hl⟩

/-- 'append(s, u, ..)' onto a list of u's, with or without spare room: every list of not more u's stays one. -/
theorem wpList_append_mk {P : Program} {w : World} {ops : Array Oper} {rest : List Oper} {a : Act} {Q : Exit → Act → World → Prop} {dst : Option Tmp} {type : TypeId} {pos : String} {after : Array Edge} (s x : Operand) (t e : TypeId) (z u : Value) (bytes : Nat)
    (hu : P.underlying t = some (.slice e)) (hinfo : (P.info? e).map (fun i => (i.zero, i.size, i.bytes)) = some (some z, 1, bytes)) (hz1 : z.cells.size = 1) (v : Value) (n m N : Nat) (hm0 : 0 < m)
    (hs : a.eval s = v) (hx : a.eval x = .slice (some ⟨N, 0, none⟩) m m) (ho : Own w 0 e v (rep n u)) (hN : Blk w N e (rep m u)) (h1 : u.oneCell' = true) (h63 : n + m ≤ maxLen) (hby : (n + m) * bytes ≤ 140737488355328)
    (hK : ∀ g cap w', Own w' 0 e (.slice (some ⟨g, 0, none⟩) (n + m) cap) (rep (n + m) u) → Chg (fun k => v.ownBlock = some k) w w' → (v.ownBlock = some g ∨ w.heap.size ≤ g) →
      (∀ y j, j ≤ n + m → Own w 0 e y (rep j u) → Own w' 0 e y (rep j u)) → wpList P ops Q rest (a.put dst (.slice (some ⟨g, 0, none⟩) (n + m) cap)) w') :
    wpList P ops Q (⟨dst, .call { callee := .builtin .append, args := #[s, x], argTypes := #[t, t] }, type, pos, after, none⟩ :: rest) a w := by
  obtain ⟨i, hi, hzz⟩ := Option.map_eq_some_iff.1 hinfo
  simp only [Prod.mk.injEq] at hzz
  obtain ⟨hz, hsz, hb⟩ := hzz
  have hnews : ∀ (j : Nat) (q : Value), (rep m u)[j]? = some q → w.cell? ((⟨N, 0, none⟩ : Addr).add j) = some q := by
    intro j q hj
    exact World.news_of_block hN j q (by simpa using hj)
  have grows : ∀ (ao : Option Addr) (c : Nat), v = .slice ao n c → (ao = none → n = 0 ∧ c = 0) → c < n + m → (∀ b, ao = some b → ∀ j q, (rep n u)[j]? = some q → w.cell? (b.add j) = some q) →
      wpList P ops Q (⟨dst, .call { callee := .builtin .append, args := #[s, x], argTypes := #[t, t] }, type, pos, after, none⟩ :: rest) a w := by
    intro ao c hv hnone hc hold
    refine wpList_append_grows w rfl s x t rfl e i z 1 bytes hu hi hz hsz hb hz1 (by decide) ao n c (rep n u) (by rw [hs, hv]) hnone (by simp) hold ⟨N, 0, none⟩ m m (rep m u) hx (by simp) hnews (rep_one _ _ h1) hc h63 hby ?_
    intro v' w' ho' hg
    obtain ⟨g, cap, rfl, _, _⟩ := ho'.form (by omega)
    obtain ⟨hr, hb', h63', _⟩ := row1_of ho'
    rw [rep_append] at hr
    have hB : Below w.heap.size w w' := ⟨hg.os, hg.tape, hg.output, hg.size, fun k hk => hg.block k hk (by simp)⟩
    exact hK g cap w' (Or.inr ⟨g, cap, by simp, Nat.zero_le _, h63', hr⟩) (Chg.of_below hB) (Or.inr hb') (fun y j _ hy => hy.below' hB)
  rcases ho with ⟨hv, hnil⟩ | ⟨g, cap, hv, _, hc63, hr⟩
  · have hn0 : n = 0 := by simpa using hnil
    exact grows none 0 (by rw [hv, hn0]) (fun _ => ⟨hn0, rfl⟩) (by omega) (fun b hb => by cases hb)
  · rw [List.length_replicate] at hv
    by_cases hroom : n + m ≤ cap
    · have hown := hr.own (base := 0) (Nat.zero_le _) hc63
      rw [List.length_replicate] at hown
      refine wpList_append_fits w rfl s x t rfl 0 e i 1 hu hi hsz g n cap (rep n u) (by rw [hs, hv]) hown ⟨N, 0, none⟩ m m (rep m u) hx (by simp) hnews (rep_one _ _ h1) hroom ?_
      intro w' ho' hg
      obtain ⟨hr', hb', h63', _⟩ := row1_of ho'
      rw [rep_append] at hr'
      have hvb : v.ownBlock = some g := by rw [hv]; rfl
      have hC : Chg (fun k => v.ownBlock = some k) w w' := Chg.of_grown hg (fun k e => by rw [hvb, e]) (fun k e o ho => by
        cases e
        obtain ⟨r, hr, _⟩ := hr
        unfold Blk at hr
        rw [hr] at ho
        cases ho
        rfl)
      refine hK g cap w' (Or.inr ⟨g, cap, by simp, Nat.zero_le _, h63', hr'⟩) hC (Or.inl hvb) (fun y j hj hy => ?_)
      by_cases hyb : y.ownBlock = some g
      · rcases hy with h | ⟨g', cap', hy, _, h63'', hr''⟩
        · exact Or.inl h
        · have : g' = g := by rw [hy] at hyb; simpa [Value.ownBlock] using hyb
          subst this
          have hcc : cap' = cap := by
            obtain ⟨r1, q1, q2⟩ := hr''
            obtain ⟨r2, q3, q4⟩ := hr
            unfold Blk at q1 q3
            rw [q1] at q3
            simp at q3
            rw [← q2, ← q4, q3]
          subst hcc
          exact Or.inr ⟨g', cap', hy, Nat.zero_le _, h63'', hr'.less hj⟩
      · exact hy.chg hC (fun k e h => hyb (by rw [e]; rw [hvb] at h; exact h.symm))
    · refine grows (some ⟨g, 0, none⟩) cap hv (fun h => by cases h) (by omega) ?_
      intro b hb j q hj
      cases hb
      have hjn : j < n := by
        have := (List.getElem?_eq_some_iff.1 hj).1
        simpa using this
      rw [add_at, Nat.zero_add, hr.cell (i := j) (by simp [hjn]) undef, rep_get _ _ _ hjn]
      obtain ⟨_, hx⟩ := List.getElem?_eq_some_iff.1 hj
      rw [← hx]
      simp

abbrev mk (m : Int) : Value := .int .i64 m
abbrev nilV : Value := .slice none 0 0

/-- The books, in memory: the lists with their marks, the lists of lists. -/
structure Bk (w : World) (O : Nat) (vl vm vo : Value) (E : List (Value × Int)) (D : List Value) : Prop where
  head : Blk w O 27 [vl, vm, vo]
  ol : Own w 0 24 vl (E.map (·.1))
  om : Own w 0 3 vm (E.map fun e => .int .i64 e.2)
  oo : Own w 0 23 vo D
  ents : ∀ e ∈ E, ∃ n, n ≤ 1000 ∧ Own w 0 3 e.1 (rep n (mk e.2))
  outs : ∀ d ∈ D, ∃ n, n ≤ 5000000000 ∧ Own w 0 24 d (rep n nilV)
  dl : ∀ d ∈ D, ∀ k, vl.ownBlock = some k → d.ownBlock ≠ some k
  dm : ∀ e ∈ E, ∀ k, vm.ownBlock = some k → e.1.ownBlock ≠ some k

/-- All blocks of the books. -/
def Foot (O : Nat) (vl vm vo : Value) (E : List (Value × Int)) (D : List Value) (k : Nat) : Prop :=
  k = O ∨ vl.ownBlock = some k ∨ vm.ownBlock = some k ∨ vo.ownBlock = some k ∨ (∃ e ∈ E, e.1.ownBlock = some k) ∨ ∃ d ∈ D, d.ownBlock = some k

namespace Bk
variable {w w' : World} {O : Nat} {vl vm vo : Value} {E : List (Value × Int)} {D : List Value}

theorem chg {S : Nat → Prop} (h : Bk w O vl vm vo E D) (hc : Chg S w w') (hn : ∀ k, Foot O vl vm vo E D k → ¬ S k) : Bk w' O vl vm vo E D := by
  refine ⟨h.head.chg hc (hn O (Or.inl rfl)), h.ol.chg hc (fun k e => hn k (Or.inr (Or.inl e))), h.om.chg hc (fun k e => hn k (Or.inr (Or.inr (Or.inl e)))), h.oo.chg hc (fun k e => hn k (Or.inr (Or.inr (Or.inr (Or.inl e))))), ?_, ?_, h.dl, h.dm⟩
  · intro e he
    obtain ⟨n, h1, h2⟩ := h.ents e he
    exact ⟨n, h1, h2.chg hc (fun k q => hn k (Or.inr (Or.inr (Or.inr (Or.inr (Or.inl ⟨e, he, q⟩))))))⟩
  · intro d hd
    obtain ⟨n, h1, h2⟩ := h.outs d hd
    exact ⟨n, h1, h2.chg hc (fun k q => hn k (Or.inr (Or.inr (Or.inr (Or.inr (Or.inr ⟨d, hd, q⟩))))))⟩

theorem below' (h : Bk w O vl vm vo E D) (hb : Below w.heap.size w w') : Bk w' O vl vm vo E D := h.chg (S := fun _ => False) (Chg.of_below hb) (fun _ _ e => e)
theorem drewN (h : Bk w O vl vm vo E D) (n : Nat) : Bk (w.drewN n) O vl vm vo E D := h.chg (S := fun _ => False) ((Chg.refl _ _).drewN n) (fun _ _ e => e)

theorem foot_lt (h : Bk w O vl vm vo E D) {k : Nat} (hk : Foot O vl vm vo E D k) : k < w.heap.size := by
  rcases hk with rfl | hk | hk | hk | ⟨e, he, hk⟩ | ⟨d, hd, hk⟩
  · exact h.head.lt
  · exact (h.ol.lt hk).2
  · exact (h.om.lt hk).2
  · exact (h.oo.lt hk).2
  · obtain ⟨n, _, h2⟩ := h.ents e he
    exact (h2.lt hk).2
  · obtain ⟨n, _, h2⟩ := h.outs d hd
    exact (h2.lt hk).2

/-- The first books. -/
theorem start (h : Blk w O 27 [nilV, nilV, nilV]) : Bk w O nilV nilV nilV [] [] :=
  ⟨h, Own.nil _ _ _, Own.nil _ _ _, Own.nil _ _ _, fun _ h => absurd h (by simp), fun _ h => absurd h (by simp), fun _ h => absurd h (by simp), fun _ h => absurd h (by simp)⟩

end Bk

/-- The elements as they are written over, one by one. -/
def over (vs : List Value) (u : Value) (k : Nat) : List Value := rep k u ++ vs.drop k
theorem over_zero (vs : List Value) (u : Value) : over vs u 0 = vs := by simp [over]
theorem over_end (vs : List Value) (u : Value) : over vs u vs.length = rep vs.length u := by simp [over]
theorem over_length (vs : List Value) (u : Value) (k : Nat) (h : k ≤ vs.length) : (over vs u k).length = vs.length := by simp [over]; omega
theorem over_set (vs : List Value) (u : Value) (k : Nat) (h : k < vs.length) : (over vs u k).set k u = over vs u (k + 1) := by
  unfold over
  rw [List.set_append_right _ _ (by simp), List.drop_eq_getElem_cons h]
  simp only [List.length_replicate, Nat.sub_self, List.set_cons_zero, List.replicate_succ', List.append_assoc, List.cons_append, List.nil_append]

/-- A cell of an owned row is written. -/
theorem Own.put {w : World} {base : Nat} {t : TypeId} {g cap n i : Nat} {xs : List Value} (h : Own w base t (.slice (some ⟨g, 0, none⟩) n cap) xs) (hi : i < xs.length) (u : Value) : Own (w.setCell ⟨g, i, none⟩ u) base t (.slice (some ⟨g, 0, none⟩) n cap) (xs.set i u) := by
  rcases h with ⟨h, _⟩ | ⟨g', cap', hv, hb, h63, hr⟩
  · simp at h
  · simp only [Value.slice.injEq, Option.some.injEq, Addr.mk.injEq, and_true] at hv
    obtain ⟨rfl, rfl, rfl⟩ := hv
    exact Or.inr ⟨g, cap, by simp, hb, h63, hr.set hi u⟩

theorem slices_one (vs : List Value) (h : ∀ v ∈ vs, ∃ a n c, v = .slice a n c) : ∀ u ∈ vs, u.oneCell' = true := by
  intro u hu
  obtain ⟨a, n, c, rfl⟩ := h u hu
  rfl
end Go.Proofs.YtlodenfdcckemaaDoor
