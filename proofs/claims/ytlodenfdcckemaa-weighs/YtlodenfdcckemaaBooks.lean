/-
  The walks of the books: lists that came out, written over with marks.
-/
import Derived.Test.YtlodenfdcckemaaRows1
import Derived.Deep.QuietTactic
import Derived.BigQuiet
import Derived.ArgAppend
namespace Go.Proofs.Ytlodenfdcckemaa
open Go.RowKit

/-- Of the blocks that were there only those in S have turned. -/
structure Chg (S : Nat → Prop) (w w' : World) : Prop where
  os : w'.os = w.os
  tape : w'.tape = w.tape
  output : w'.output = w.output
  size : w.heap.size ≤ w'.heap.size
  block : ∀ k, k < w.heap.size → ¬ S k → w'.heap[k]? = w.heap[k]?

theorem Chg.refl (S : Nat → Prop) (w : World) : Chg S w w := ⟨rfl, rfl, rfl, Nat.le_refl _, fun _ _ _ => rfl⟩
theorem Chg.trans {S : Nat → Prop} {a b c : World} (h : Chg S a b) (k : Chg S b c) : Chg S a c :=
  ⟨k.os.trans h.os, k.tape.trans h.tape, k.output.trans h.output, Nat.le_trans h.size k.size, fun i hi hn => (k.block i (Nat.lt_of_lt_of_le hi h.size) hn).trans (h.block i hi hn)⟩
theorem Chg.mono {S T : Nat → Prop} {a b : World} (h : Chg S a b) (hs : ∀ k, k < a.heap.size → S k → T k) : Chg T a b :=
  ⟨h.os, h.tape, h.output, h.size, fun i hi hn => h.block i hi (fun e => hn (hs i hi e))⟩
theorem Chg.of_below {S : Nat → Prop} {a b : World} (h : Below a.heap.size a b) : Chg S a b := ⟨h.os, h.tape, h.output, h.size, fun i hi _ => h.block i hi⟩
theorem Chg.of_grown {S : Nat → Prop} {a b : World} {r : Option Nat} (h : a.grownBy b r) (hr : ∀ k, r = some k → S k) : Chg S a b := ⟨h.os, h.tape, h.output, h.size, fun i hi hn => h.block i hi (fun e => hn (hr i e.symm))⟩
theorem Chg.set {S : Nat → Prop} {a b : World} (h : Chg S a b) {p : Addr} (hp : S p.block) (v : Value) : Chg S a (b.setCell p v) :=
  ⟨h.os, h.tape, h.output, by simpa [World.setCell] using h.size, fun i hi hn => (Below.heap_setCell b p v i (fun e => hn (by rw [e]; exact hp))).trans (h.block i hi hn)⟩
theorem Chg.below {S : Nat → Prop} {B : Nat} {a b : World} (h : Chg S a b) (hB : B ≤ a.heap.size) (hs : ∀ k, S k → B ≤ k) : Below B a b :=
  ⟨h.os, h.tape, h.output, h.size, fun i hi => h.block i (by omega) (fun e => by have := hs i e; omega)⟩

/-- A list that came out, without spare room. -/
def Lst (w : World) (ao : Option Addr) (zs : List Int) : Prop := zs ≠ [] → ∃ g, ao = some ⟨g, 0, none⟩ ∧ Blk w g 3 (zs.map (Value.int .i64))

/-- The block of such a list. -/
def Of (ao : Option Addr) (k : Nat) : Prop := ao = some ⟨k, 0, none⟩

/-- A list of marks, in blocks of G. -/
def Mk (w : World) (G : Nat → Prop) (v : Value) (m : Int) : Prop := ∃ ao n cap, v = .slice ao n cap ∧ n ≤ 1000 ∧ (0 < n → ∃ g, ao = some ⟨g, 0, none⟩ ∧ G g ∧ ∀ i, i < n → w.cell? ⟨g, i, none⟩ = some (.int .i64 m))

structure BooksAt (w : World) (O : Nat) (vl vm : Value) (G : Nat → Prop) (E : List (Value × Int)) : Prop where
  head : Blk w O 33 [vl, vm, .slice none 0 0]
  ol : Own w 0 30 vl (E.map (·.1))
  om : Own w 0 3 vm (E.map fun e => .int .i64 e.2)
  ents : ∀ e ∈ E, Mk w G e.1 e.2
  dl : vl.ownBlock ≠ some O
  dm : vm.ownBlock ≠ some O
  dlm : ∀ k, vl.ownBlock = some k → vm.ownBlock ≠ some k
  dG : ∀ k, G k → k ≠ O ∧ vl.ownBlock ≠ some k ∧ vm.ownBlock ≠ some k
  lt : ∀ k, G k → k < w.heap.size

/-- All blocks of the books. -/
def Foot (O : Nat) (vl vm : Value) (G : Nat → Prop) (k : Nat) : Prop := k = O ∨ vl.ownBlock = some k ∨ vm.ownBlock = some k ∨ G k

theorem Mk.of_blocks {w w' : World} {G G' : Nat → Prop} {v : Value} {m : Int} (h : Mk w G v m) (hk : ∀ k, G k → w'.heap[k]? = w.heap[k]?) (hG : ∀ k, G k → G' k) : Mk w' G' v m := by
  obtain ⟨ao, n, cap, h1, h2, h3⟩ := h
  refine ⟨ao, n, cap, h1, h2, fun h0 => ?_⟩
  obtain ⟨g, e1, e2, e3⟩ := h3 h0
  exact ⟨g, e1, hG g e2, fun i hi => (World.cell?_of_block (w := w) (hk g e2)).trans (e3 i hi)⟩

theorem Own.chg {w w' : World} {base : Nat} {t : TypeId} {v : Value} {xs : List Value} {S : Nat → Prop} (h : Own w base t v xs) (hc : Chg S w w') (hn : ∀ k, v.ownBlock = some k → ¬ S k) : Own w' base t v xs := by
  rcases h with h | ⟨g, cap, rfl, h1, h2, hr⟩
  · exact Or.inl h
  · exact Or.inr ⟨g, cap, rfl, h1, h2, hr.of_block (hc.block g hr.lt (hn g rfl))⟩

theorem BooksAt.chg {w w' : World} {O : Nat} {vl vm : Value} {G S : Nat → Prop} {E : List (Value × Int)} (h : BooksAt w O vl vm G E) (hc : Chg S w w') (hn : ∀ k, Foot O vl vm G k → ¬ S k) : BooksAt w' O vl vm G E :=
  ⟨h.head.of_block (hc.block O h.head.lt (hn O (Or.inl rfl))), h.ol.chg hc (fun k e => hn k (Or.inr (Or.inl e))), h.om.chg hc (fun k e => hn k (Or.inr (Or.inr (Or.inl e)))),
    fun e he => (h.ents e he).of_blocks (fun k hk => hc.block k (h.lt k hk) (hn k (Or.inr (Or.inr (Or.inr hk))))) (fun _ hk => hk), h.dl, h.dm, h.dlm, h.dG, fun k hk => Nat.lt_of_lt_of_le (h.lt k hk) hc.size⟩

theorem BooksAt.below' {w w' : World} {O : Nat} {vl vm : Value} {G : Nat → Prop} {E : List (Value × Int)} (h : BooksAt w O vl vm G E) (hb : Below w.heap.size w w') : BooksAt w' O vl vm G E :=
  h.chg (S := fun _ => False) (Chg.of_below hb) (fun _ _ e => e)

theorem BooksAt.foot_lt {w : World} {O : Nat} {vl vm : Value} {G : Nat → Prop} {E : List (Value × Int)} (h : BooksAt w O vl vm G E) {k : Nat} (hk : Foot O vl vm G k) : k < w.heap.size := by
  rcases hk with rfl | hk | hk | hk
  · exact h.head.lt
  · exact (h.ol.lt hk).2
  · exact (h.om.lt hk).2
  · exact h.lt k hk

/-- 'append(s, x, ..)' onto a list without spare room: a new block. -/
theorem wpList_append_full {P : Program} {w : World} {ops : Array Oper} {rest : List Oper} {a : Act} {Q : Exit → Act → World → Prop} {dst : Option Tmp} {type : TypeId} {pos : String} {after : Array Edge} (s x : Operand) (t e : TypeId) (z : Value) (bytes : Nat)
    (hu : P.underlying t = some (.slice e)) (hinfo : (P.info? e).map (fun i => (i.zero, i.size, i.bytes)) = some (some z, 1, bytes)) (hz1 : z.cells.size = 1) (N : Nat) (ao : Option Addr) (n : Nat) (olds news : List Value) (m : Nat) (hn : olds.length = n) (hm : news.length = m) (hm0 : 0 < m)
    (hs : a.eval s = .slice ao n n) (hx : a.eval x = .slice (some ⟨N, 0, none⟩) m m) (hnone : ao = none → n = 0) (hold : ∀ b, ao = some b → ∀ j u, olds[j]? = some u → w.cell? (b.add j) = some u) (hN : Blk w N e news) (h1 : ∀ u ∈ news, u.oneCell' = true) (h63 : n + m ≤ maxLen) (hby : (n + m) * bytes ≤ 140737488355328)
    (hK : ∀ g cap w', Row1 w' g e cap (olds ++ news) → w.heap.size ≤ g → cap ≤ maxLen → Below w.heap.size w w' → wpList P ops Q rest (a.put dst (.slice (some ⟨g, 0, none⟩) (n + m) cap)) w') :
    wpList P ops Q (⟨dst, .call { callee := .builtin .append, args := #[s, x], argTypes := #[t, t] }, type, pos, after, none⟩ :: rest) a w := by
  obtain ⟨i, hi, hzz⟩ := Option.map_eq_some_iff.1 hinfo
  simp only [Prod.mk.injEq] at hzz
  obtain ⟨hz, hsz, hb⟩ := hzz
  refine wpList_append_grows w rfl s x t rfl e i z 1 bytes hu hi hz hsz hb hz1 (by decide) ao n n olds hs (fun h => ⟨hnone h, hnone h⟩) (by omega) hold ⟨N, 0, none⟩ m m news hx (by omega) ?_ h1 (by omega) h63 hby ?_
  · intro j u hj
    exact World.news_of_block hN j u (by simpa using hj)
  · intro v' w' ho hg
    obtain ⟨g, cap, rfl, _, _⟩ := ho.form (by omega)
    obtain ⟨hr, hb', h63', _⟩ := row1_of ho
    exact hK g cap w' hr hb' h63' ⟨hg.os, hg.tape, hg.output, hg.size, fun k hk => hg.block k hk (by simp)⟩

set_option maxHeartbeats 400000 in
theorem same_any (ao bo : Option Addr) (ca cb : Nat) (zs : List Int) (w : World) (ha : IntsAt w w.heap.size ao zs) (hb : IntsAt w w.heap.size bo zs) (hl : zs.length ≤ 1000) :
    Calls Try.prog 14 #[.slice ao zs.length ca, .slice bo zs.length cb] w fun e w' => e = .returned (.bool true) ∧ Below w.heap.size w w' := by
  have hne : ((zs.length : Int) != (zs.length : Int)) = false := by simp
  go_enter Try.func14, Try.ntmps14
  go_wp2
  go_loopw [5] (fun i wr => ∃ (k : Nat), k ≤ zs.length ∧ i = .int .i64 k ∧ Below w.heap.size w wr) (fun i _ => zs.length - (intOf i).toNat)
  case atStart => exact ⟨0, by omega, rfl, Below.refl _ _⟩
  case round =>
    obtain ⟨k, hk, rfl, hbw⟩ := hrel
    by_cases hlt : k < zs.length
    · obtain ⟨b, o, rfl, hbl, hca⟩ := ha (by intro h; rw [h] at hlt; simp at hlt)
      obtain ⟨b', o', rfl, hbl', hcb⟩ := hb (by intro h; rw [h] at hlt; simp at hlt)
      have h1 := (hbw.cell (p := ⟨b, o + k, none⟩) hbl).trans (hca k hlt)
      have h2 := (hbw.cell (p := ⟨b', o' + k, none⟩) hbl').trans (hcb k hlt)
      generalize zs.getD k 0 = x at *
      have hnx : (x != x) = false := by simp
      clear hca hcb
      go_wp2
      go_quiet (fail)
      go_wp2
      go_roundw
      case rel => exact ⟨k + 1, by omega, by go_num, below_drewN hbw _⟩
      case measure => simp [intOf]; omega
    · go_wp2
      go_ret
      exact ⟨rfl, hbw⟩
end Go.Proofs.Ytlodenfdcckemaa
