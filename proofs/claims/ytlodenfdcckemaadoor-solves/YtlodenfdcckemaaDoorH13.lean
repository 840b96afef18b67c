/-
  The picks in memory; the walks of push, pop and down.
-/
import Derived.Test.YtlodenfdcckemaaDoorH10
import Derived.Test.YtlodenfdcckemaaDoorH3
import Derived.Deep.AppendLies
import Derived.Deep.DrawnRows
import Derived.BigRegion
namespace Go.Proofs.YtlodenfdcckemaaDoor
open Go.RowKit

theorem Tryd.info140 : (Tryd.prog.info? 140).map (fun i => (i.zero, i.size, i.bytes)) = some (some (.agg #[.int .u64 0, .int .u64 0, .int .i64 0]), 3, 24) := by kernel_rfl

/-- A pick's cells. -/
def pkc (p : Pk) : List Value := [sv p.lit, sv p.cl, .int .i64 p.lev]
/-- A pick as a value. -/
def pkv (p : Pk) : Value := .agg #[sv p.lit, sv p.cl, .int .i64 p.lev]
def flat3 (l : List Pk) : List Value := l.flatMap pkc

theorem flat3_cons (a : Pk) (l : List Pk) : flat3 (a :: l) = sv a.lit :: sv a.cl :: .int .i64 a.lev :: flat3 l := rfl
theorem flat3_append (l m : List Pk) : flat3 (l ++ m) = flat3 l ++ flat3 m := by simp [flat3]
theorem flat3_length (l : List Pk) : (flat3 l).length = l.length * 3 := by
  induction l with
  | nil => rfl
  | cons a l ih => rw [flat3_cons]; simp [ih]; omega

def pk0 : Pk := ⟨0, 0, 0⟩

theorem flat3_at : ∀ (l : List Pk) (rest : List Value) (i : Nat), i < l.length →
    (flat3 l ++ rest).getD (i * 3) undef = sv (l.getD i pk0).lit ∧ (flat3 l ++ rest).getD (i * 3 + 1) undef = sv (l.getD i pk0).cl ∧ (flat3 l ++ rest).getD (i * 3 + 2) undef = .int .i64 (l.getD i pk0).lev
  | a :: l, rest, 0, _ => ⟨rfl, rfl, rfl⟩
  | a :: l, rest, i + 1, h => by
    rw [flat3_cons, show (i + 1) * 3 = i * 3 + 1 + 1 + 1 by omega]
    exact flat3_at l rest i (by simpa using h)
  | [], _, _, h => by simp at h

/-- The value v is the slice of the picks, the oldest first. -/
def Row3 (w : World) (v : Value) (P : List Pk) : Prop :=
  (v = .slice none 0 0 ∧ P = []) ∨ ∃ g cap, v = .slice (some ⟨g, 0, none⟩) P.length cap ∧ cap ≤ maxLen ∧ P.length ≤ cap ∧ ∃ rest, Blk w g 140 (flat3 P.reverse ++ rest) ∧ (flat3 P.reverse ++ rest).length = cap * 3

namespace Row3
variable {w w' : World} {v : Value} {P : List Pk}

theorem shape (h : Row3 w v P) : ∃ ao cap, v = .slice ao P.length cap := by
  rcases h with ⟨rfl, rfl⟩ | ⟨g, cap, rfl, _⟩
  · exact ⟨none, 0, rfl⟩
  · exact ⟨_, _, rfl⟩
theorem own (h : Row3 w v P) : w.ownsRow 0 140 3 v P.length (flat3 P.reverse) := by
  refine ⟨by rw [flat3_length]; simp, ?_⟩
  rcases h with ⟨h1, h2⟩ | ⟨g, cap, h1, h63, hle, rest, hr, hl⟩
  · exact Or.inl ⟨h1, by rw [h2]; rfl⟩
  · refine Or.inr ⟨g, cap, _, h1, Nat.zero_le _, hr, hle, h63, by simpa using hl, ?_⟩
    have : (flat3 P.reverse).length = P.length * 3 := by rw [flat3_length]; simp
    rw [← this]
    simp
theorem lt (h : Row3 w v P) {k : Nat} (e : v.ownBlock = some k) : k < w.heap.size := by
  rcases h with ⟨rfl, _⟩ | ⟨g, cap, rfl, _, _, rest, hr, _⟩
  · simp [Value.ownBlock] at e
  · simp [Value.ownBlock] at e; subst e; exact hr.lt
theorem of_block (h : Row3 w v P) (hb : ∀ k, v.ownBlock = some k → w'.heap[k]? = w.heap[k]?) : Row3 w' v P := by
  rcases h with h | ⟨g, cap, rfl, h1, h2, rest, hr, hl⟩
  · exact Or.inl h
  · exact Or.inr ⟨g, cap, rfl, h1, h2, rest, hr.of_block (hb g rfl), hl⟩
theorem below' (h : Row3 w v P) (hb : Below w.heap.size w w') : Row3 w' v P := h.of_block fun _ e => hb.block _ (h.lt e)
theorem below {B : Nat} (h : Row3 w v P) (hb : Below B w w') (hB : ∀ k, v.ownBlock = some k → k < B) : Row3 w' v P := h.of_block fun k e => hb.block k (hB k e)
theorem chg {S : Nat → Prop} (h : Row3 w v P) (hc : Chg S w w') (hn : ∀ k, v.ownBlock = some k → ¬ S k) : Row3 w' v P := h.of_block fun k e => hc.block k (h.lt e) (hn k e)
theorem ne_blk {B : Nat} {t : TypeId} {L : List Value} (h : Row3 w v P) (hB : Blk w B t L) (ht : t ≠ 140) : v.ownBlock ≠ some B := by
  intro e
  rcases h with ⟨rfl, _⟩ | ⟨g, cap, rfl, _, _, rest, hr, _⟩
  · simp [Value.ownBlock] at e
  · simp [Value.ownBlock] at e
    subst e
    unfold Blk at hr hB
    rw [hr] at hB
    simp at hB
    exact ht hB.2.symm
theorem cellsB (h : Row3 w v P) {k : Nat} (e : v.ownBlock = some k) (o : Obj) (ho : w.heap[k]? = some o) : o.isCells = true := by
  rcases h with ⟨rfl, _⟩ | ⟨g, cap, rfl, _, _, rest, hr, _⟩
  · simp [Value.ownBlock] at e
  · simp [Value.ownBlock] at e
    subst e
    unfold Blk at hr
    rw [hr] at ho
    cases ho
    rfl
end Row3

theorem row3_of {w : World} {g cap n : Nat} {P : List Pk} (hn : P.length = n) (h : w.ownsRow 0 140 3 (.slice (some ⟨g, 0, none⟩) n cap) n (flat3 P.reverse)) : Row3 w (.slice (some ⟨g, 0, none⟩) n cap) P := by
  obtain ⟨_, h | ⟨g', cap', cur, he, hb, hg, hle, h63, hcs, htk⟩⟩ := h
  · obtain ⟨h, _⟩ := h; simp at h
  · simp only [Value.slice.injEq, Option.some.injEq, Addr.mk.injEq, and_true, true_and] at he
    obtain ⟨rfl, rfl⟩ := he
    refine Or.inr ⟨g, cap, by rw [hn], h63, by omega, cur.toList.drop (n * 3), ?_, ?_⟩
    · rw [← htk, List.take_append_drop]; exact hg
    · rw [← htk, List.take_append_drop]; simpa using hcs

theorem spush_end {w W w1 : World} {O : Obj} {X g cap : Nat} {a0 a1 v a3 a4 : Value} {P : List Pk} {p : Pk} (hsz : W.heap.size = w.heap.size + 1) (hbW : Below w.heap.size w W) (hXW : Blk W X 115 [a0, a1, v, a3, a4]) (hX : X < w.heap.size) (hR : Row3 w v P)
    (hown1 : w1.ownsRow 0 140 3 (.slice (some ⟨g, 0, none⟩) (P.length + 1) cap) (P.length + 1) (flat3 P.reverse ++ pkc p)) (hgrow : (W.alloc O).drew.grownBy w1 v.ownBlock) (hat : v.ownBlock = some g ∨ g = W.heap.size + 1) (hneX : v.ownBlock ≠ some X) :
    ∃ v', Row3 (w1.setCell ⟨X, 2, none⟩ (.slice (some ⟨g, 0, none⟩) (P.length + 1) cap)) v' (p :: P) ∧ Blk (w1.setCell ⟨X, 2, none⟩ (.slice (some ⟨g, 0, none⟩) (P.length + 1) cap)) X 115 [a0, a1, v', a3, a4] ∧ Chg (fun b => b = X ∨ v.ownBlock = some b) w (w1.setCell ⟨X, 2, none⟩ (.slice (some ⟨g, 0, none⟩) (P.length + 1) cap)) ∧ (∀ b, v'.ownBlock = some b → v.ownBlock = some b ∨ w.heap.size ≤ b) := by
  have hB1 : Blk w1 X 115 [a0, a1, v, a3, a4] := Blk.grown (hXW.alloc _).drew hgrow hneX
  have hgX : g ≠ X := by
    intro e
    rcases hat with h | h
    · exact hneX (by rw [h, e])
    · have := hXW.lt; omega
  have hrow : Row3 w1 (.slice (some ⟨g, 0, none⟩) (P.length + 1) cap) (p :: P) := by
    refine row3_of (by simp) ?_
    have e : flat3 (p :: P).reverse = flat3 P.reverse ++ pkc p := by rw [List.reverse_cons, flat3_append]; simp [flat3]
    rw [e]
    exact hown1
  have hfr : ∀ k, k < w.heap.size → v.ownBlock ≠ some k → w1.heap[k]? = w.heap[k]? := fun k hk hkv => by
    rw [hgrow.block k (by simp [World.drew]; omega) (fun e => hkv e.symm)]
    rw [show ((W.alloc O).drew).heap[k]? = (W.alloc O).heap[k]? from rfl, Below.heap_alloc _ _ _ (by omega), hbW.block k hk]
  have hc1 : Chg (fun b => b = X ∨ v.ownBlock = some b) w w1 := by
    refine ⟨hgrow.os.trans hbW.os, hgrow.tape.trans hbW.tape, hgrow.output.trans hbW.output, ?_, fun k hk hn => hfr k hk (fun e => hn (Or.inr e)), fun k o ho hno => ?_⟩
    · have h1 := hgrow.size
      have h2 : W.heap.size ≤ (W.alloc O).drew.heap.size := by simp [World.drew]
      have h3 := hbW.size
      omega
    · have hk := (Array.getElem?_eq_some_iff.1 ho).1
      refine (hfr k hk (fun e => ?_)).trans ho
      have := hR.cellsB e o ho
      rw [hno] at this; cases this
  refine ⟨.slice (some ⟨g, 0, none⟩) (P.length + 1) cap, hrow.of_block (fun k e => ?_), hB1.set 2 _, hc1.setB X 2 (Or.inl rfl) _, fun b e => ?_⟩
  · simp [Value.ownBlock] at e
    subst e
    exact Below.heap_setCell _ _ _ _ hgX
  · simp [Value.ownBlock] at e
    subst e
    rcases hat with h | h
    · exact Or.inl h
    · right; omega

set_option maxHeartbeats 1000000 in
theorem spush_any (X : Nat) (a0 a1 v a3 a4 : Value) (P : List Pk) (p : Pk) (w : World) (hB : Blk w X 115 [a0, a1, v, a3, a4]) (hR : Row3 w v P) (hn : P.length < 64) :
    Calls Tryd.prog 115 #[.pointer (some ⟨X, 2, none⟩), pkv p] w fun e w' => e = .returned (.tuple #[]) ∧
      ∃ v', Row3 w' v' (p :: P) ∧ Blk w' X 115 [a0, a1, v', a3, a4] ∧ Chg (fun b => b = X ∨ v.ownBlock = some b) w w' ∧ (∀ b, v'.ownBlock = some b → v.ownBlock = some b ∨ w.heap.size ≤ b) := by
  have hown := hR.own
  have hXl := hB.lt
  have hit : w.cell? ⟨X, 2, none⟩ = some v := hB.cell (i := 2) (by simp) undef
  obtain ⟨ao, cap0, hv⟩ := hR.shape
  obtain ⟨i0, hi, hz0, hz1, hz2⟩ := info_parts Tryd.info140
  have hone : ∀ u ∈ pkc p, u.oneCell' = true := by intro u hu; simp [pkc] at hu; rcases hu with rfl | rfl | rfl <;> rfl
  unfold pkv
  go_enter Tryd.func115, Tryd.ntmps115
  go_wp2
  generalize hW : w.alloc (Obj.cells #[sv p.lit, sv p.cl, .int .i64 p.lev] 140) = W
  have hsz : W.heap.size = w.heap.size + 1 := by rw [← hW]; simp
  have c0 : W.cell? ⟨w.heap.size, 0, none⟩ = some (sv p.lit) := by rw [← hW]; simp
  have c1 : W.cell? ⟨w.heap.size, 1, none⟩ = some (sv p.cl) := by rw [← hW]; simp
  have c2 : W.cell? ⟨w.heap.size, 2, none⟩ = some (.int .i64 p.lev) := by rw [← hW]; simp
  have hbW : Below w.heap.size w W := by rw [← hW]; exact (Below.refl _ _).alloc (Nat.le_refl _) _
  have hownW : W.ownsRow 0 140 3 v P.length (flat3 P.reverse) := by rw [← hW]; exact hown.alloc _
  have hitW : W.cell? ⟨X, 2, none⟩ = some v := (hbW.cell (p := ⟨X, 2, none⟩) hXl).trans hit
  have hXW := hB.below' hbW
  clear hW hown hit
  have hXW' : X < W.heap.size := hXW.lt
  have hNW : w.heap.size < W.heap.size := by omega
  have HV : Hid (v = .slice ao P.length cap0) := hv
  have HSZ : Hid (W.heap.size = w.heap.size + 1) := hsz
  clear hv hsz
  have hn2 : P.length + 1 ≤ 64 := hn
  have hneX : v.ownBlock ≠ some X := hR.ne_blk hB (by decide)
  have hfrX : W.frozen? ⟨X, 2, none⟩ = false := hXW.frozen 2
  go_region_law ((refine step_append_lies _ (by rfl) (.tmp 8) (.tmp 10) 111 (by rfl) 0 140 i0 (.agg #[.int .u64 0, .int .u64 0, .int .i64 0]) 3 24 Tryd.underlying111 hi hz0 hz1 hz2 (by rfl) (by decide) v P.length (flat3 P.reverse) (by rfl) (by exact hownW.alloc _) ⟨W.heap.size, 0, none⟩ 1 1 (pkc p) (by rfl) (by rfl) (by exact World.news_of_block (heap_alloc_new W _)) hone (by decide) (by unfold maxLen; omega) (by omega) (by simp) (W.heap.size + 1) (by simp) ?_; intro g cap w1 hown1 hgrow hat hlt; have B1 := Blk.grown (hXW.alloc _).drew hgrow hneX; have d1 : w1.cell? ⟨X, 2, none⟩ = some v := B1.cell (i := 2) (by simp) undef; have d2 : w1.frozen? ⟨X, 2, none⟩ = false := B1.frozen 2))
  all_goals
    have hr := spush_end HSZ.out hbW hXW hXl hR hown1 hgrow hat hneX
    have HR : Hid _ := hr
    clear hr
    go_end0
    exact ⟨rfl, HR.out⟩
end Go.Proofs.YtlodenfdcckemaaDoor
