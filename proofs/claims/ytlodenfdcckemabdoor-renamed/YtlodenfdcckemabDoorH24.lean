/-
  Several texts, one behind the other.
-/
import Derived.RangeFuncNested
import Derived.RangeFuncBound
import Derived.RangeFuncCalls
import Derived.RangeFuncLeaves
import Derived.Shelf.Abstract
import Derived.Shelf.RegionOpen
import Derived.OwnWalkIn
import Derived.TacticsInMore
import Derived.LoopNIn
import Derived.LoopIn
import Derived.Test.YtlodenfdcckemabDoorH23
import Derived.Test.YtlodenfdcckemabDoorH11
import Derived.Test.YtlodenfdcckemabDoorH3
/-
  The walks of pop and down.
-/

namespace Go.Proofs.YtlodenfdcckemabDoor
open Go.RowKit Go.Shelf

attribute [local go_sem] Oper.semAt_some

/-- The newest pick is the last of the row. -/
theorem Row3.top {w : World} {v : Value} {p : Pk} {P : List Pk} (h : Row3 w v (p :: P)) : ∃ g cap, v = .slice (some ⟨g, 0, none⟩) (P.length + 1) cap ∧ P.length + 1 ≤ cap ∧ cap ≤ maxLen ∧
    w.cell? ⟨g, P.length * 3, none⟩ = some (sv p.lit) ∧ w.cell? ⟨g, P.length * 3 + 1, none⟩ = some (sv p.cl) ∧ w.cell? ⟨g, P.length * 3 + 2, none⟩ = some (.int .i64 p.lev) ∧ (∀ i, w.frozen? ⟨g, i, none⟩ = false) ∧ g < w.heap.size ∧
    ∃ rest, Blk w g 95 (flat3 P.reverse ++ (pkc p ++ rest)) ∧ (flat3 P.reverse ++ (pkc p ++ rest)).length = cap * 3 := by
  rcases h with ⟨_, h⟩ | ⟨g, cap, rfl, h63, hle, rest, hr, hl⟩
  · cases h
  · have e : flat3 (p :: P).reverse ++ rest = flat3 P.reverse ++ (pkc p ++ rest) := by rw [List.reverse_cons, flat3_append]; simp [flat3]
    have hat := flat3_at (p :: P).reverse rest P.length (by simp)
    have hg : (p :: P).reverse.getD P.length pk0 = p := by simp
    rw [hg] at hat
    have hlen : ((p :: P).reverse).length * 3 ≤ (flat3 (p :: P).reverse ++ rest).length := by rw [List.length_append, flat3_length]; omega
    simp only [List.length_reverse, List.length_cons] at hlen
    refine ⟨g, cap, by simp, by simpa using hle, h63, ?_, ?_, ?_, fun i => hr.frozen i, hr.lt, rest, by rw [← e]; exact hr, by rw [← e]; exact hl⟩
    · rw [hr.cell (i := P.length * 3) (by omega) undef, hat.1]
    · rw [hr.cell (i := P.length * 3 + 1) (by omega) undef, hat.2.1]
    · rw [hr.cell (i := P.length * 3 + 2) (by omega) undef, hat.2.2]

theorem list_set3 (A : List Value) (x y z x' y' z' : Value) (r : List Value) (n : Nat) (hn : n = A.length) : (((A ++ (x :: y :: z :: r)).set n x').set (n + 1) y').set (n + 2) z' = A ++ (x' :: y' :: z' :: r) := by
  subst hn
  rw [List.set_append_right _ _ (Nat.le_refl _), List.set_append_right _ _ (by omega), List.set_append_right _ _ (by omega)]
  simp

set_option maxHeartbeats 2000000 in
theorem spop_any (X : Nat) (a0 a1 v a3 a4 : Value) (P : List Pk) (p : Pk) (w : World) (hB : Blk w X 80 [a0, a1, v, a3, a4]) (hR : Row3 w v (p :: P)) (hn : P.length < 64) :
    Calls Tryd.prog 57 #[.pointer (some ⟨X, 2, none⟩)] w fun e w' => e = .returned (.tuple #[pkv p, .bool true]) ∧
      ∃ v', Row3 w' v' P ∧ Blk w' X 80 [a0, a1, v', a3, a4] ∧ v'.ownBlock = v.ownBlock ∧ Chg (fun b => b = X ∨ v.ownBlock = some b) w w' := by
  have hneX : v.ownBlock ≠ some X := hR.ne_blk hB (by decide)
  obtain ⟨g, cap, rfl, hle, h63, t0, t1, t2, hfz, hgl, rest, hrow, hrl⟩ := hR.top
  have hXl := hB.lt
  have hgX : g ≠ X := fun e => hneX (by rw [← e]; rfl)
  have hit : w.cell? ⟨X, 2, none⟩ = some (.slice (some ⟨g, 0, none⟩) (P.length + 1) cap) := hB.cell (i := 2) (by simp) undef
  obtain ⟨m, HM⟩ : ∃ m, Hid (m = P.length) := ⟨_, rfl⟩
  rw [← HM.out] at hit t0 t1 t2 hle hn
  have hle0 : (((m + 1 : Nat) : Int) == 0) = false := by simp; omega
  unfold pkv
  go_enter Tryd.func57, Tryd.ntmps57
  go_wp2
  generalize hW : ((w.alloc (Obj.cells #[Value.int IntKind.u64 0, Value.int IntKind.u64 0, Value.int IntKind.i64 0] 95)).alloc (Obj.cells #[Value.int IntKind.u64 0, Value.int IntKind.u64 0, Value.int IntKind.i64 0] 95)).alloc (Obj.cells #[Value.int IntKind.u64 p.lit, Value.int IntKind.u64 p.cl, Value.int IntKind.i64 p.lev] 95) = W
  have hsz : W.heap.size = w.heap.size + 3 := by rw [← hW]; simp
  have hbW : Below w.heap.size w W := by rw [← hW]; exact (((Below.refl _ _).alloc (Nat.le_refl _) _).alloc (by simp) _).alloc (by simp; omega) _
  have BR : Blk W w.heap.size 95 [.int .u64 0, .int .u64 0, .int .i64 0] := by
    rw [← hW]
    exact ((blk_new w [.int .u64 0, .int .u64 0, .int .i64 0] 95).alloc _).alloc _
  have BZ : Blk W (w.heap.size + 1) 95 [.int .u64 0, .int .u64 0, .int .i64 0] := by
    rw [← hW]
    have := blk_new (w.alloc (Obj.cells #[Value.int IntKind.u64 0, Value.int IntKind.u64 0, Value.int IntKind.i64 0] 95)) [.int .u64 0, .int .u64 0, .int .i64 0] 95
    rw [World.size_alloc] at this
    exact this.alloc _
  have BF : Blk W (w.heap.size + 1 + 1) 95 [.int .u64 p.lit, .int .u64 p.cl, .int .i64 p.lev] := by
    rw [← hW]
    have := blk_new ((w.alloc (Obj.cells #[Value.int IntKind.u64 0, Value.int IntKind.u64 0, Value.int IntKind.i64 0] 95)).alloc (Obj.cells #[Value.int IntKind.u64 0, Value.int IntKind.u64 0, Value.int IntKind.i64 0] 95)) [.int .u64 p.lit, .int .u64 p.cl, .int .i64 p.lev] 95
    simpa using this
  have BX := hB.below' hbW
  have BG := hrow.below' hbW
  rw [← HM.out] at BX
  have HBW : Hid (Below w.heap.size w W) := hbW
  have HSZ : Hid (W.heap.size = w.heap.size + 3) := hsz
  clear hW t0 t1 t2 hit hfz hB hrow hbW
  have hitW : W.cell? ⟨X, 2, none⟩ = some (.slice (some ⟨g, 0, none⟩) (m + 1) cap) := BX.cell (i := 2) (by simp) undef
  have hlen : m * 3 + 3 ≤ (flat3 P.reverse ++ (pkc p ++ rest)).length := by rw [List.length_append, flat3_length]; simp [pkc]; rw [← HM.out]; omega
  have e0 : (flat3 P.reverse).length = m * 3 := by rw [flat3_length, List.length_reverse, ← HM.out]
  have g0 := BG.cell (i := m * 3) (by omega) undef
  have g1 := BG.cell (i := m * 3 + 1) (by omega) undef
  have g2 := BG.cell (i := m * 3 + 2) (by omega) undef
  have f0 := BG.frozen (m * 3)
  have f1 := BG.frozen (m * 3 + 1)
  have f2 := BG.frozen (m * 3 + 2)
  have z0 : W.cell? ⟨w.heap.size + 1, 0, none⟩ = some (.int .u64 0) := BZ.cell (i := 0) (by simp) undef
  have z1 : W.cell? ⟨w.heap.size + 1, 1, none⟩ = some (.int .u64 0) := BZ.cell (i := 1) (by simp) undef
  have z2 : W.cell? ⟨w.heap.size + 1, 2, none⟩ = some (.int .i64 0) := BZ.cell (i := 2) (by simp) undef
  have i0 : (0 : Int) ≤ (m : Int) := by omega
  have i1 : (m : Int) < ((m : Int) + 1) := by omega
  have HLen : Hid _ := hlen
  have HE0 : Hid _ := e0
  have HRL : Hid _ := hrl
  generalize (flat3 P.reverse ++ (pkc p ++ rest)).getD (m * 3) undef = q0 at g0
  generalize (flat3 P.reverse ++ (pkc p ++ rest)).getD (m * 3 + 1) undef = q1 at g1
  generalize (flat3 P.reverse ++ (pkc p ++ rest)).getD (m * 3 + 2) undef = q2 at g2
  have hgX' : ¬ X = g := fun e => hgX e.symm
  clear hsz hlen e0 hrl hR hneX
  go_region
  have BG5 := ((BG.set (m * 3) (.int .u64 0)).set (m * 3 + 1) (.int .u64 0)).set (m * 3 + 2) (.int .i64 0)
  rw [show flat3 P.reverse ++ (pkc p ++ rest) = flat3 P.reverse ++ (sv p.lit :: sv p.cl :: .int .i64 p.lev :: rest) from rfl, list_set3 _ _ _ _ _ _ _ _ _ HE0.out.symm] at BG5
  have hC5 : Chg (fun b => b = g) W (((W.setCell ⟨g, m * 3, none⟩ (.int .u64 0)).setCell ⟨g, m * 3 + 1, none⟩ (.int .u64 0)).setCell ⟨g, m * 3 + 2, none⟩ (.int .i64 0)).drew := ((((Chg.refl (fun b => b = g) W).setB g _ rfl _).setB g _ rfl _).setB g _ rfl _).drew
  replace BG5 := BG5.drew
  generalize (((W.setCell ⟨g, m * 3, none⟩ (.int .u64 0)).setCell ⟨g, m * 3 + 1, none⟩ (.int .u64 0)).setCell ⟨g, m * 3 + 2, none⟩ (.int .i64 0)).drew = W5 at *
  have hzW := HSZ.out
  have BX5 := BX.chg hC5 (fun e => hgX e.symm)
  have BR5 := BR.chg hC5 (by omega)
  have BF5 := BF.chg hC5 (by omega)
  have x5 : W5.cell? ⟨X, 2, none⟩ = some (.slice (some ⟨g, 0, none⟩) (m + 1) cap) := BX5.cell (i := 2) (by simp) undef
  have x5f := BX5.frozen 2
  have p0 : W5.cell? ⟨w.heap.size + 1 + 1, 0, none⟩ = some (.int .u64 p.lit) := BF5.cell (i := 0) (by simp) undef
  have p1 : W5.cell? ⟨w.heap.size + 1 + 1, 1, none⟩ = some (.int .u64 p.cl) := BF5.cell (i := 1) (by simp) undef
  have p2 : W5.cell? ⟨w.heap.size + 1 + 1, 2, none⟩ = some (.int .i64 p.lev) := BF5.cell (i := 2) (by simp) undef
  have r0 : W5.cell? ⟨w.heap.size, 0, none⟩ = some (.int .u64 0) := BR5.cell (i := 0) (by simp) undef
  have r1 : W5.cell? ⟨w.heap.size, 1, none⟩ = some (.int .u64 0) := BR5.cell (i := 1) (by simp) undef
  have r2 : W5.cell? ⟨w.heap.size, 2, none⟩ = some (.int .i64 0) := BR5.cell (i := 2) (by simp) undef
  have rf0 := BR5.frozen 0
  have rf1 := BR5.frozen 1
  have rf2 := BR5.frozen 2
  have n1 : ¬ X = w.heap.size + 1 + 1 := by omega
  have n2 : ¬ X = w.heap.size := by omega
  have n3 : ¬ w.heap.size = X := by omega
  have HC5 : Hid _ := hC5
  have HBG5 : Hid _ := BG5
  have HBX5 : Hid _ := BX5
  clear hC5 BG5 BX5 BR5 BF5 BR BZ BF BX BG hitW g0 g1 g2 f0 f1 f2 z0 z1 z2
  go_wp2
  have hfin : ∃ v', Row3 ((((W5.setCell ⟨X, 2, none⟩ (.slice (some ⟨g, 0, none⟩) m cap)).setCell ⟨w.heap.size, 0, none⟩ (.int .u64 p.lit)).setCell ⟨w.heap.size, 1, none⟩ (.int .u64 p.cl)).setCell ⟨w.heap.size, 2, none⟩ (.int .i64 p.lev)) v' P ∧ Blk ((((W5.setCell ⟨X, 2, none⟩ (.slice (some ⟨g, 0, none⟩) m cap)).setCell ⟨w.heap.size, 0, none⟩ (.int .u64 p.lit)).setCell ⟨w.heap.size, 1, none⟩ (.int .u64 p.cl)).setCell ⟨w.heap.size, 2, none⟩ (.int .i64 p.lev)) X 80 [a0, a1, v', a3, a4] ∧ v'.ownBlock = (Value.slice (some ⟨g, 0, none⟩) (P.length + 1) cap).ownBlock ∧ Chg (fun b => b = X ∨ (Value.slice (some ⟨g, 0, none⟩) (P.length + 1) cap).ownBlock = some b) w ((((W5.setCell ⟨X, 2, none⟩ (.slice (some ⟨g, 0, none⟩) m cap)).setCell ⟨w.heap.size, 0, none⟩ (.int .u64 p.lit)).setCell ⟨w.heap.size, 1, none⟩ (.int .u64 p.cl)).setCell ⟨w.heap.size, 2, none⟩ (.int .i64 p.lev)) := by
    refine ⟨.slice (some ⟨g, 0, none⟩) m cap, Or.inr ⟨g, cap, by rw [HM.out], h63, by rw [← HM.out]; omega, (.int .u64 0 :: .int .u64 0 :: .int .i64 0 :: rest), ?_, ?_⟩, ?_, rfl, ?_⟩
    · exact ((((show Blk W5 g _ _ from HBG5.out).setOther (a := ⟨X, 2, none⟩) hgX _).setOther (a := ⟨w.heap.size, 0, none⟩) (by simp; omega) _).setOther (a := ⟨w.heap.size, 1, none⟩) (by simp; omega) _).setOther (a := ⟨w.heap.size, 2, none⟩) (by simp; omega) _
    · have h1 := HRL.out
      rw [List.length_append] at h1 ⊢
      simpa [pkc] using h1
    · exact ((((show Blk W5 X _ _ from HBX5.out).set 2 _).setOther (a := ⟨w.heap.size, 0, none⟩) (by simp; omega) _).setOther (a := ⟨w.heap.size, 1, none⟩) (by simp; omega) _).setOther (a := ⟨w.heap.size, 2, none⟩) (by simp; omega) _
    · have hT : Chg (fun b => b = X ∨ b = g ∨ w.heap.size ≤ b) W5 ((((W5.setCell ⟨X, 2, none⟩ (.slice (some ⟨g, 0, none⟩) m cap)).setCell ⟨w.heap.size, 0, none⟩ (.int .u64 p.lit)).setCell ⟨w.heap.size, 1, none⟩ (.int .u64 p.cl)).setCell ⟨w.heap.size, 2, none⟩ (.int .i64 p.lev)) :=
        ((((Chg.refl _ W5).setB X 2 (Or.inl rfl) _).setB w.heap.size 0 (Or.inr (Or.inr (Nat.le_refl _))) _).setB w.heap.size 1 (Or.inr (Or.inr (Nat.le_refl _))) _).setB w.heap.size 2 (Or.inr (Or.inr (Nat.le_refl _))) _
      refine Chg.trans2 (Chg.of_below HBW.out) (Chg.trans2 (S := fun b => b = X ∨ b = g ∨ w.heap.size ≤ b) (HC5.out.mono fun k _ e => Or.inr (Or.inl e)) hT fun i _ e => e) fun i hi e => ?_
      rcases e with e | e | e
      · exact Or.inl e
      · right; rw [e]; rfl
      · omega
  have HF : Hid _ := hfin
  clear hfin
  refine bodyPost_ret (v := .tuple #[.agg #[.int .u64 p.lit, .int .u64 p.cl, .int .i64 p.lev], .bool true]) (by simp [results, Tryd.results57, go_sem, r0, r1, r2]) rfl ⟨rfl, HF.out⟩
end Go.Proofs.YtlodenfdcckemabDoor

/-
  Down: the picks one after the other, the newest first: its contract.
-/

namespace Go.Proofs.YtlodenfdcckemabDoor
open Go.RowKit Go.Shelf

attribute [local go_sem] Oper.semAt_some

/-- Picks as the program can hold them. -/
abbrev Pks : Type := { p : Pk // p.lit < 18446744073709551616 ∧ p.cl < 18446744073709551616 ∧ p.lev ≤ 64 }

def vals (xs : List Pks) : List Pk := xs.map (·.1)

theorem pks_of : ∀ (P : List Pk), (∀ p ∈ P, p.lit < 18446744073709551616 ∧ p.cl < 18446744073709551616 ∧ p.lev ≤ 64) → ∃ xs : List Pks, vals xs = P
  | [], _ => ⟨[], rfl⟩
  | p :: P, h => by
    obtain ⟨xs, e⟩ := pks_of P (fun q hq => h q (List.mem_cons_of_mem _ hq))
    exact ⟨⟨p, h p List.mem_cons_self⟩ :: xs, by simp [vals] at e ⊢; exact e⟩

/-- What a round keeps. -/
def KpD (n₀ Bn : Nat) (W W' : World) : Prop := Below n₀ W W' ∧ W'.heap[Bn]? = W.heap[Bn]?

theorem kpD_t {n₀ Bn : Nat} {A B C : World} (h : KpD n₀ Bn A B) (k : KpD n₀ Bn B C) : KpD n₀ Bn A C := ⟨h.1.trans k.1, k.2.trans h.2⟩
theorem kpD_b {n₀ Bn : Nat} {w : World} (hn : n₀ ≤ w.heap.size) (hB : Bn < w.heap.size) (W : World) (l : Nat) (o o' : Obj) (hl : w.heap.size ≤ l) (h : W.heap[l]? = some o) (h1 : o.isCells = false) (h2 : o.isWalk = false) : KpD n₀ Bn W (W.putObj l o') :=
  ⟨belowK_b (w := w) hn W l o o' hl h h1 h2, World.putObj_heap_other (by omega)⟩

set_option maxHeartbeats 400000 in
theorem down_any (X : Nat) (w : World) : Calls Tryd.prog 56 #[.pointer (some ⟨X, 2, none⟩)] w fun e w' => e = .returned (.func (.func 71) #[] #[.pointer (some ⟨w.heap.size, 0, none⟩)]) ∧ w' = w.alloc (.cells #[.pointer (some ⟨X, 2, none⟩)] 112) := by
  go_enter Tryd.func56, Tryd.ntmps56
  go_wp2
  go_ret
  exact ⟨rfl, rfl⟩

/-- What Down reads, in memory. -/
structure DownAt (W : World) (Bn X : Nat) (v : Value) (P : List Pk) : Prop where
  box : Blk W Bn 112 [.pointer (some ⟨X, 2, none⟩)]
  it : W.cell? ⟨X, 2, none⟩ = some v
  row : Row3 W v P

theorem DownAt.kept {W W' : World} {n₀ Bn X : Nat} {v : Value} {P : List Pk} (h : DownAt W Bn X v P) (hk : KpD n₀ Bn W W') (hX : X < n₀) (hv : ∀ k, v.ownBlock = some k → k < n₀) : DownAt W' Bn X v P :=
  ⟨h.box.of_block hk.2, (hk.1.cell (p := ⟨X, 2, none⟩) hX).trans h.it, h.row.below hk.1 hv⟩

/-- The k-th pick from the top. -/
theorem Row3.at {w : World} {v : Value} {P : List Pk} (h : Row3 w v P) {j k : Nat} (hj : j + 1 + k = P.length) : ∃ g cap, v = .slice (some ⟨g, 0, none⟩) P.length cap ∧
    w.cell? ⟨g, j * 3, none⟩ = some (sv (P.getD k pk0).lit) ∧ w.cell? ⟨g, j * 3 + 1, none⟩ = some (sv (P.getD k pk0).cl) ∧ w.cell? ⟨g, j * 3 + 2, none⟩ = some (.int .i64 (P.getD k pk0).lev) ∧ g < w.heap.size := by
  rcases h with ⟨_, h⟩ | ⟨g, cap, rfl, h63, hle, rest, hr, hl⟩
  · rw [h] at hj; simp at hj
  · have hat := flat3_at P.reverse rest j (by simp; omega)
    have hg : P.reverse.getD j pk0 = P.getD k pk0 := by
      rw [List.getD_eq_getElem?_getD, List.getD_eq_getElem?_getD, List.getElem?_reverse (by omega)]
      congr 2
      omega
    rw [hg] at hat
    have hlen : P.length * 3 ≤ (flat3 P.reverse ++ rest).length := by rw [List.length_append, flat3_length, List.length_reverse]; omega
    refine ⟨g, cap, rfl, ?_, ?_, ?_, hr.lt⟩
    · rw [hr.cell (i := j * 3) (by omega) undef, hat.1]
    · rw [hr.cell (i := j * 3 + 1) (by omega) undef, hat.2.1]
    · rw [hr.cell (i := j * 3 + 2) (by omega) undef, hat.2.2]

theorem vals_getD {xs : List Pks} {k : Nat} (hk : k < xs.length) : (vals xs).getD k pk0 = (xs[k]).1 := by
  unfold vals
  rw [List.getD_eq_getElem?_getD, List.getElem?_map, List.getElem?_eq_getElem hk]
  rfl

set_option maxRecDepth 100000 in
set_option maxHeartbeats 4000000 in
theorem down_stops (n : Nat) (hn : 1 ≤ n) (Bn X n₀ : Nat) (v : Value) (xs : List Pks) (w : World) (hn₀ : n₀ ≤ w.heap.size) (hX : X < n₀) (hv : ∀ k, v.ownBlock = some k → k < n₀) (hD : DownAt w Bn X v (vals xs)) (h64 : xs.length ≤ 64) :
    SeqStopsK Fence.wide n Tryd.prog 71 #[.pointer (some ⟨Bn, 0, none⟩)] (fun x : Pks => #[pkv x.1]) (KpD n₀ Bn) (fun ys => ys = xs) (fun pre => pre <+: xs) xs.length w := by
  intro l J Jx W hb hJ hJx hY h0
  have hDW : DownAt W Bn X v (vals xs) := hD.kept (n₀ := n₀) ⟨hb.mono hn₀, hb.block Bn hD.box.lt⟩ hX hv
  have hlen : (vals xs).length = xs.length := by simp [vals]
  obtain ⟨ao, cap, hsh⟩ := hD.row.shape
  rw [hlen] at hsh
  have c1 := hDW.box.cell (i := 0) (by simp) undef
  have c2 := hDW.it
  rw [hsh] at c2
  simp only [List.getD_cons_zero] at c1
  refine callsIn_of_wp Tryd.func71 rfl trivial ?_ rfl
  simp only [Tryd.ntmps71, List.size_toArray, List.length_cons, List.length_nil, Nat.reduceAdd, Nat.reduceSub, Array.replicate_succ, Array.replicate_zero, List.push_toArray, List.append_toArray, List.nil_append, List.cons_append]
  gi_wp2
  gi_loopw [3] (fun a wr => ∃ (m k : Nat), Hid (m + k = xs.length) ∧ a = .int .i64 ((m : Int) - 1) ∧ Hid (DownAt wr Bn X v (vals xs)) ∧ J (xs.take k) wr) (fun a _ => (intOf a + 1).toNat)
  case atStart => exact ⟨xs.length, 0, rfl, by go_num, hDW, h0⟩
  case round =>
    obtain ⟨m, k, hmk, rfl, HD, hJk⟩ := hrel
    cases m with
    | zero =>
      have hk : Hid (xs.take k = xs) := by unfold Hid; rw [List.take_of_length_le]; have := hmk.out; omega
      gi_wp2
      go_end0
      exact ⟨⟨_, rfl⟩, .inl ⟨_, hk.out, hJk⟩⟩
    | succ j =>
      have hj0 := hmk.out
      have hkl : k < xs.length := by omega
      obtain ⟨g, cap', hsh', t0, t1, t2, hgl⟩ := HD.out.row.at (j := j) (k := k) (by rw [hlen]; omega)
      rw [vals_getD hkl] at t0 t1 t2
      rw [hlen, hsh] at hsh'
      simp only [Value.slice.injEq, true_and] at hsh'
      obtain ⟨rfl, rfl⟩ := hsh'
      have d1 : wr.cell? ⟨Bn, 0, none⟩ = some (.pointer (some ⟨X, 2, none⟩)) := HD.out.box.cell (i := 0) (by simp) undef
      have d2 := HD.out.it
      rw [hsh] at d2
      have htk : Hid (xs.take k ++ [xs[k]] = xs.take (k + 1)) := by unfold Hid; rw [List.take_succ_eq_append_getElem hkl]
      obtain ⟨x, hx⟩ : ∃ x, x = xs[k] := ⟨_, rfl⟩
      rw [← hx] at t0 t1 t2 htk
      obtain ⟨fn, tmps, assign, body, hy, hRy⟩ := hY (xs.take k) x wr hJk (by rw [List.length_take]; omega)
      simp only [pkv] at hy
      have e1 : ((j + 1 : Nat) : Int) - 1 = (j : Int) := by omega
      rw [e1]
      have i0 : (0 : Int) ≤ (j : Int) := by omega
      have i1 : (j : Int) < (xs.length : Int) := by omega
      have hj64 : j ≤ 64 := by omega
      clear hj0 hkl hx
      gi_wp2
      refine hRy.mono ?_
      rintro e W' (⟨rfl, hJ', hk⟩ | ⟨rfl, hJx'⟩)
      · gi_wp2
        go_roundw
        case rel => exact ⟨j, k + 1, by have := hmk.out; unfold Hid; omega, by go_num, HD.out.kept hk hX hv, by rw [← htk.out]; exact hJ'⟩
        case measure => simp [intOf]
      · gi_wp2
        refine bodyPost_ret (results_none rfl _ _ _) rfl ?_
        exact ⟨⟨_, rfl⟩, .inr ⟨_, by rw [htk.out]; exact List.take_prefix _ _, hJx'⟩⟩
end Go.Proofs.YtlodenfdcckemabDoor

/-
  The walk of what follows at once, told step by step: for a search.
-/

namespace Go.Proofs.YtlodenfdcckemabDoor
open Go.RowKit

/-- How it ends, in memory. -/
def FromEnd (I : List Pk → World → Prop) (E : List Pk → Nat → World → Prop) (P : List Pk) (w : World) : Option Nat → Prop
  | some k => E P k w
  | none => I P w

theorem Goes.at {K : List Nat} {i : Nat} (hi : i < K.length) : K.drop i = K.getD i 0 :: K.drop (i + 1) := by
  rw [List.drop_eq_getElem_cons hi, getD_lt _ _ _ hi]

set_option maxRecDepth 100000 in
set_option maxHeartbeats 4000000 in
theorem from_run (gu gc : Nat) (a : Value) (cc : Array Value) (eu : ∀ args w, (callFunc gu args).run Tryd.prog w = .ok (.enter gu args) w) (ec : ∀ args w, (callFunc gc args).run Tryd.prog w = .ok (.enter gc args) w)
    (H : Nat) (v : Value) (K : List Nat) (V : Nat) (hV : V ≤ 20) (hKs : ∀ k ∈ K, k < 2 ^ (2 * V)) (hlen : K.length ≤ 4611686018427387904) (P0 : List Pk) (hm : truthOf P0 < 2 ^ (2 * V)) (hcl : clash (truthOf P0) = 0)
    (I : List Pk → World → Prop) (E : List Pk → Nat → World → Prop) (hI : ∀ P w, I P w → Cls w H v K)
    (hu : ∀ P k w, I P w → k ∈ K → openOf k (truthOf P) ≠ 0 → single (openOf k (truthOf P)) = true → within (openOf k (truthOf P)) (truthOf P) = false → Calls Tryd.prog gu #[a, sv (openOf k (truthOf P)), sv k] w fun e w' => e = .returned (.tuple #[]) ∧ I (⟨openOf k (truthOf P), k, lv P⟩ :: P) w')
    (hc : ∀ P k w, I P w → k ∈ K → openOf k (truthOf P) = 0 → Calls Tryd.prog gc (#[sv k] ++ cc) w fun e w' => e = .returned (.tuple #[]) ∧ E P k w')
    (w : World) (hw : I P0 w) :
    Calls Tryd.prog 32 #[.pointer (some ⟨H, 0, none⟩), sv (truthOf P0), .func (.func gu) #[a] #[], .func (.func gc) #[] cc] w fun e w' => e = .returned (.tuple #[]) ∧ ∃ P o, Goes K [] true P0 (P, o) ∧ FromEnd I E P w' o := by
  have hm64 := lt64 hV hm
  have hcl64 := clash_lt _ hm64
  have HS0 : Hid (truthOf P0 < 2 ^ (2 * V)) := hm
  have hcl' : (((clash (truthOf P0) : Nat) : Int) != 0) = false := by simp [hcl]
  have hcall := clash_any (truthOf P0) hm64
  generalize hS0 : truthOf P0 = S0 at *
  have HS0' : Hid (truthOf P0 = S0) := hS0
  clear hcl hS0
  go_enter Tryd.func32, Tryd.ntmps32
  go_wp2_with (go_at_call 47; refine (hcall _).mono ?_; rintro e w' ⟨rfl, rfl⟩)
  go_loopw [9, 10] (fun f gr wr => ∃ (P : List Pk) (b : Bool), f = sv (truthOf P) ∧ gr = .bool b ∧ Hid (truthOf P < 2 ^ (2 * V)) ∧ I P wr ∧ Hid (∀ R, Goes K [] b P R → Goes K [] true P0 R)) (fun f gr _ => 2 * free (intOf f).toNat + bn gr)
  case atStart => exact ⟨P0, true, by rw [HS0'.out], rfl, by rw [HS0'.out]; exact HS0, hw, fun R h => h⟩
  case round =>
    obtain ⟨P, b, rfl, rfl, HS, hIw, HB⟩ := hrel
    cases b with
    | false =>
      go_wp2
      go_end0
      exact ⟨rfl, P, none, HB.out _ .done, hIw⟩
    | true =>
      have hcls := hI P wr hIw
      have hhead := hcls.head.cell (i := 0) (by simp) undef
      obtain ⟨ao, cap, hv, -⟩ := hcls.own.cellsAt
      simp only [List.getD_cons_zero] at hhead
      simp only [List.length_map] at hv
      rw [hv] at hhead
      have hHlt := hcls.head.lt
      clear hcls
      obtain ⟨S, HSe⟩ : ∃ S, Hid (S = truthOf P) := ⟨_, rfl⟩
      rw [← HSe.out]
      go_wp2
      go_loopw [9, 10, 28] (fun f gr x wq => ∃ (Q : List Pk) (b : Bool) (i : Nat), f = sv (truthOf Q) ∧ gr = .bool b ∧ x = .int .i64 i ∧ i ≤ K.length ∧ Hid (truthOf Q < 2 ^ (2 * V)) ∧ I Q wq ∧ Hid (b = true → free (truthOf Q) < free S) ∧ Hid (b = false → truthOf Q = S) ∧ Hid (∀ R, Goes K (K.drop i) b Q R → Goes K [] true P0 R)) (fun _ _ x _ => K.length - (intOf x).toNat)
      case atStart => exact ⟨P, false, 0, by rw [HSe.out], rfl, rfl, Nat.zero_le _, HS, hIw, (fun h => by cases h), (fun _ => HSe.out.symm), fun R h => HB.out R (.again h)⟩
      case round =>
        obtain ⟨Q, b, i, rfl, rfl, rfl, hi, HT, hIT, HG, HN, HR⟩ := hrel
        by_cases hlt : i < K.length
        · have hcls := hI Q _ hIT
          obtain ⟨ao', cap', hv', hat⟩ := hcls.own.cellsAt
          simp only [List.length_map] at hv' hat
          rw [hv] at hv'
          simp only [Value.slice.injEq, true_and] at hv'
          obtain ⟨rfl, rfl⟩ := hv'
          obtain ⟨gg, rfl, hgg, hcells, -⟩ := hat (by omega)
          have hck := hcells i hlt
          rw [svs_get hlt] at hck
          have hkm : K.getD i 0 ∈ K := mem_getD hlt
          have hk40 := hKs _ hkm
          have HD : Hid (K.drop i = K.getD i 0 :: K.drop (i + 1)) := Goes.at hlt
          obtain ⟨k, HK⟩ : ∃ k, Hid (k = K.getD i 0) := ⟨_, rfl⟩
          have HKM : Hid (k ∈ K) := by unfold Hid; rw [HK.out]; exact hkm
          have HD : Hid (K.drop i = k :: K.drop (i + 1)) := by unfold Hid; rw [HK.out]; exact HD.out
          rw [← HK.out] at hck hk40
          have hk64 := lt64 hV hk40
          have hT40 := HT.out
          obtain ⟨T, HTe⟩ : ∃ T, Hid (T = truthOf Q) := ⟨_, rfl⟩
          rw [← HTe.out] at hT40
          have hT64 := lt64 hV hT40
          have ho64 := opp_lt64 T
          have hdif := dif_spell k (opp T) hk64 ho64
          obtain ⟨o, HO⟩ : ∃ o, Hid (o = openOf k T) := ⟨_, rfl⟩
          have ho40 : o < 2 ^ (2 * V) := by rw [HO.out]; exact dif_lt hk40
          have hol := lt64 hV ho40
          have hdif : bits BinOp.andNot IntKind.u64 (k : Int) ((opp T : Nat) : Int) = (o : Int) := by rw [hdif, HO.out]; rfl
          have hor := or_spell T o hT64 hol
          have c1 := opposites_any T hT64
          have c2 := single_any o hol
          have c3 := within_any o T hol hT64
          have c4 := hc Q k
          have c5 := hu Q k
          rw [← HTe.out, ← HO.out] at c4 c5
          generalize opp T = oT at hdif ho64 c1
          have H40 : Hid (T < 2 ^ (2 * V) ∧ o < 2 ^ (2 * V)) := ⟨hT40, ho40⟩
          have HOQ : Hid (openOf k (truthOf Q) = o) := by unfold Hid; rw [HO.out, HTe.out]
          rw [← HTe.out]
          clear hcls hcells hkm hat hT40 ho40 hk40
          by_cases h0 : o = 0
          · have h0' : ((o : Int) == 0) = true := by simp [h0]
            have HE : Hid (o = 0) := h0
            clear h0
            go_wp2_with (first | (go_at_call 39; refine (c1 _).mono ?_; rintro e w' ⟨rfl, rfl⟩) | (go_at_fn gc; refine (c4 _ hIT HKM.out HE.out).mono ?_; rintro e w' ⟨rfl, hE⟩))
            (try simp only [Exit.inBlock, Exit.then])
            refine bodyPost_ret (results_none rfl _ _ _) rfl ?_
            refine ⟨rfl, Q, some k, HR.out _ ?_, hE⟩
            rw [HD.out]
            exact .conf (by rw [HOQ.out]; exact HE.out)
          · have h0' : ((o : Int) == 0) = false := by simp [h0]
            have HZ : Hid (openOf k (truthOf Q) ≠ 0) := by unfold Hid; rw [HOQ.out]; exact h0
            have HZ' : Hid (o ≠ 0) := h0
            clear h0
            cases hs : single o with
            | false =>
              rw [hs] at c2
              have HCalm : Hid (single (openOf k (truthOf Q)) = true → within (openOf k (truthOf Q)) (truthOf Q) = true) := fun h => by rw [HOQ.out, hs] at h; cases h
              clear hs
              go_wp2_with (first | (go_at_call 39; refine (c1 _).mono ?_; rintro e w' ⟨rfl, rfl⟩) | (go_at_call 48; refine (c2 _).mono ?_; rintro e w' ⟨rfl, rfl⟩))
              go_roundw
              case rel =>
                refine ⟨Q, b, i + 1, by rw [HTe.out], rfl, by go_num, by omega, HT, hIT, HG, HN, fun R hR => HR.out R ?_⟩
                rw [HD.out]
                exact .skip HZ.out HCalm.out hR
              case measure => simp [intOf]; omega
            | true =>
              rw [hs] at c2
              cases hwi : within o T with
              | true =>
                rw [hwi] at c3
                have HCalm : Hid (single (openOf k (truthOf Q)) = true → within (openOf k (truthOf Q)) (truthOf Q) = true) := fun _ => by rw [HOQ.out, ← HTe.out]; exact hwi
                clear hs hwi
                go_wp2_with (first | (go_at_call 39; refine (c1 _).mono ?_; rintro e w' ⟨rfl, rfl⟩) | (go_at_call 48; refine (c2 _).mono ?_; rintro e w' ⟨rfl, rfl⟩) | (go_at_call 38; refine (c3 _).mono ?_; rintro e w' ⟨rfl, rfl⟩))
                go_roundw
                case rel =>
                  refine ⟨Q, b, i + 1, by rw [HTe.out], rfl, by go_num, by omega, HT, hIT, HG, HN, fun R hR => HR.out R ?_⟩
                  rw [HD.out]
                  exact .skip HZ.out HCalm.out hR
                case measure => simp [intOf]; omega
              | false =>
                rw [hwi] at c3
                have HF : Hid (free (T ||| o) < free S) := by
                  have h1 := free_open hV H40.out.2 H40.out.1 hs hwi
                  cases b with
                  | true => exact Nat.lt_trans h1 (by rw [HTe.out]; exact HG.out rfl)
                  | false => rw [HTe.out, HN.out rfl] at h1 ⊢; exact h1
                have HSi : Hid (single o = true) := hs
                have HWi : Hid (within o T = false) := hwi
                clear hs hwi
                go_wp2_with (first | (go_at_call 39; refine (c1 _).mono ?_; rintro e w' ⟨rfl, rfl⟩) | (go_at_call 48; refine (c2 _).mono ?_; rintro e w' ⟨rfl, rfl⟩) | (go_at_call 38; refine (c3 _).mono ?_; rintro e w' ⟨rfl, rfl⟩) | (go_at_fn gu; refine (c5 _ hIT HKM.out HZ'.out HSi.out HWi.out).mono ?_; rintro e w' ⟨rfl, hIT2⟩))
                go_roundw
                case rel =>
                  have HT2 : truthOf (⟨o, k, lv Q⟩ :: Q) = T ||| o := by rw [truthOf, HTe.out]
                  refine ⟨⟨o, k, lv Q⟩ :: Q, true, i + 1, by rw [HT2], rfl, by go_num, by omega, by unfold Hid; rw [HT2]; exact Nat.or_lt_two_pow H40.out.1 H40.out.2, hIT2, (fun _ => by rw [HT2]; exact HF.out), (fun hb => by cases hb), fun R hR => HR.out R ?_⟩
                  rw [HD.out]
                  refine .unit HZ.out (by rw [HOQ.out]; exact HSi.out) (by rw [HOQ.out, ← HTe.out]; exact HWi.out) ?_
                  rw [HOQ.out]
                  exact hR
                case measure => simp [intOf]; omega
        · obtain rfl : i = K.length := by omega
          go_wp2
          go_roundw
          case rel =>
            refine ⟨Q, b, rfl, rfl, HT, hIT, ?_⟩
            have h := HR.out
            rw [List.drop_length] at h
            exact h
          case measure =>
            cases b with
            | true => have := HG.out rfl; simp [intOf, bn]; omega
            | false => have := HN.out rfl; rw [← this]; simp [intOf, bn]
end Go.Proofs.YtlodenfdcckemabDoor

/-
  The walk of falseAt.
-/

namespace Go.Proofs.YtlodenfdcckemabDoor
open Go.RowKit Go.Shelf

attribute [local go_sem] Oper.semAt_some

theorem blk_own {β : Type} (B g : Nat) (t : TypeId) (f : β → List Value) : OwnFrom B (fun s W => Blk W g t (f s)) := fun s W W' row hs hg hr =>
  hs.grown hg (fun e => by
    obtain ⟨_, o, ho, hc⟩ := hr g e
    unfold Blk at hs
    rw [hs] at ho
    cases ho
    cases hc)

theorem falseAt_snoc (L : Nat) (x : Pk) : ∀ (P : List Pk) (a : Nat), falseAt L (P ++ [x]) a = if x.lev = L then falseAt L P a ||| opp x.lit else falseAt L P a
  | [], a => rfl
  | p :: P, a => by rw [List.cons_append, falseAt, falseAt, falseAt_snoc L x P]

theorem falseAt_lt (L : Nat) : ∀ (P : List Pk) (a : Nat), a < 18446744073709551616 → falseAt L P a < 18446744073709551616
  | [], a, h => h
  | p :: P, a, h => by
    rw [falseAt]
    refine falseAt_lt L P _ ?_
    split
    · exact Nat.or_lt_two_pow (n := 64) h (opp_lt64 p.lit)
    · exact h

set_option maxRecDepth 100000 in
set_option maxHeartbeats 4000000 in
theorem falseAt_any (X : Nat) (L : Nat) (a0 a1 v a3 a4 : Value) (xs : List Pks) (w : World) (hB : Blk w X 80 [a0, a1, v, a3, a4]) (hR : Row3 w v (vals xs)) (h64 : xs.length ≤ 64) :
    Calls Tryd.prog 70 #[.pointer (some ⟨X, 0, none⟩), .int .i64 L] w fun e w' => e = .returned (sv (falseAt L (vals xs) 0)) ∧ Below w.heap.size w w' := by
  have hXl := hB.lt
  have hit : w.cell? ⟨X, 2, none⟩ = some v := hB.cell (i := 2) (by simp) undef
  refine (callsIn_wide (n := 9)).1 ?_
  refine callsIn_of_wp_marks Tryd.func70 rfl trivial ?_ rfl
  simp only [Tryd.ntmps70, List.size_toArray, List.length_cons, List.length_nil, Nat.reduceAdd, Nat.reduceSub, Array.replicate_succ, Array.replicate_zero, List.push_toArray, List.append_toArray, List.nil_append, List.cons_append]
  gi_wp2_with (refine ⟨trivial, ?_⟩; gi_at_call 56; refine (callsIn_wide.2 (down_any X _)).mono ?_; rintro e w' ⟨rfl, rfl⟩)
  have hb0 : Below w.heap.size w (((w.alloc (.cells #[.int .i64 L] 3)).alloc (.cells #[.int .u64 0] 53)).alloc (.cells #[.pointer (some ⟨X, 2, none⟩)] 112)) := (((Below.refl _ _).alloc (Nat.le_refl _) _).alloc (by simp) _).alloc (by simp; omega) _
  have B1 := ((blk_new w [.int .i64 L] 3).alloc (.cells #[.int .u64 0] 53)).alloc (.cells #[.pointer (some ⟨X, 2, none⟩)] 112)
  have B2 := (blk_new (w.alloc (.cells #[.int .i64 L] 3)) [.int .u64 0] 53).alloc (.cells #[.pointer (some ⟨X, 2, none⟩)] 112)
  have B3 := blk_new ((w.alloc (.cells #[.int .i64 L] 3)).alloc (.cells #[.int .u64 0] 53)) [.pointer (some ⟨X, 2, none⟩)] 112
  have hsz : (((w.alloc (.cells #[.int .i64 L] 3)).alloc (.cells #[.int .u64 0] 53)).alloc (.cells #[.pointer (some ⟨X, 2, none⟩)] 112)).heap.size = w.heap.size + 1 + 1 + 1 := by simp
  rw [World.size_alloc] at B2
  rw [World.size_alloc, World.size_alloc] at B3
  dsimp only [List.toArray] at B1 B2 B3
  generalize ((w.alloc (.cells #[.int .i64 L] 3)).alloc (.cells #[.int .u64 0] 53)).alloc (.cells #[.pointer (some ⟨X, 2, none⟩)] 112) = W0 at *
  have hD0 : DownAt W0 (w.heap.size + 1 + 1) X v (vals xs) := ⟨B3, (hb0.cell (p := ⟨X, 2, none⟩) hXl).trans hit, hR.below' hb0⟩
  refine wpIn_rangeFunc_ownH rfl (by omega) (gf := 71) (lb := #[.pointer (some ⟨w.heap.size + 1 + 1, 0, none⟩)]) rfl trivial (enters_of Tryd.func71 (by kernel_rfl) rfl)
    (down_stops 8 (by omega) (w.heap.size + 1 + 1) X w.heap.size v xs W0 (by omega) hXl (fun k e => hR.lt e) hD0 h64) (fun h k => kpD_t h k) (kpD_b (by omega) (by omega)) (Below.refl _ _) (fun _ => rfl)
    (fun pre W => Below w.heap.size w W ∧ Blk W w.heap.size 3 [.int .i64 L] ∧ Blk W (w.heap.size + 1) 53 [sv (falseAt L (vals pre) 0)] ∧ Blk W (w.heap.size + 1 + 1) 112 [.pointer (some ⟨X, 2, none⟩)]) (fun _ _ _ => False)
    (OwnFrom.and (ownFrom_below (Nat.le_refl _) (by omega)) (OwnFrom.and (blk_own _ _ _ (fun _ => _)) (OwnFrom.and (blk_own _ _ _ (fun pre => [sv (falseAt L (vals pre) 0)])) (blk_own _ _ _ (fun _ => _))))) (fun _ _ _ _ _ hs _ _ => hs)
    ⟨hb0, B1, B2, B3⟩
    (fun x a' W => ∃ Bx, w.heap.size + 1 + 1 + 1 ≤ Bx ∧ Blk W Bx 95 (pkc x.1) ∧ a' = { tmps := #[.pointer (some ⟨X, 0, none⟩), .int .i64 L, undef, .pointer (some ⟨w.heap.size, 0, none⟩), .int .u64 0, .pointer (some ⟨w.heap.size + 1, 0, none⟩), .pointer (some ⟨Bx, 0, none⟩), .pointer (some ⟨X, 0, none⟩), .pointer (some ⟨X, 0, none⟩), .pointer (some ⟨X, 2, none⟩), .func (.func 71) #[] #[.pointer (some ⟨w.heap.size + 1 + 1, 0, none⟩)], pkv x.1, undef, undef, undef, undef, undef, undef, undef, undef, undef, undef], defers := [] })
    (fun x a' s W W' row hs hg hr => by obtain ⟨Bx, h1, h2, h3⟩ := hs; exact ⟨Bx, h1, blk_own (β := Unit) _ Bx _ (fun _ => pkc x.1) () W W' row h2 hg hr, h3⟩) ?assign ?body ?done ?stop
  case assign =>
    rintro l pre x W K ⟨h1, h2, h3, h4⟩ hK
    have hsW := h1.size
    have hlW := h4.lt
    unfold pkv
    gi_wp2
    exact hK _ _ ((KeepsOthers.alloc _ _).from _) ⟨(Below.refl _ W).alloc h1.size _, Below.heap_alloc _ _ _ hlW⟩ ⟨h1.alloc h1.size _, h2.alloc _, h3.alloc _, h4.alloc _⟩ ⟨W.heap.size, hlW, blk_new W (pkc x.1) 95, rfl⟩
  case body =>
    rintro l pre x a' W hl ⟨r, hr⟩ ⟨h1, h2, h3, h4⟩ ⟨Bx, hBx, bX, rfl⟩ hlt
    have p0 : W.cell? ⟨Bx, 0, none⟩ = some (sv x.1.lit) := bX.cell (i := 0) (by simp [pkc]) undef
    have p2 : W.cell? ⟨Bx, 2, none⟩ = some (.int .i64 x.1.lev) := bX.cell (i := 2) (by simp [pkc]) undef
    have l0 : W.cell? ⟨w.heap.size, 0, none⟩ = some (.int .i64 L) := h2.cell (i := 0) (by simp) undef
    have c0 : W.cell? ⟨w.heap.size + 1, 0, none⟩ = some (sv (falseAt L (vals pre) 0)) := h3.cell (i := 0) (by simp) undef
    have f0 := h3.frozen 0
    have HE : Hid (falseAt L (vals (pre ++ [x])) 0 = if x.1.lev = L then falseAt L (vals pre) 0 ||| opp x.1.lit else falseAt L (vals pre) 0) := by unfold Hid; rw [show vals (pre ++ [x]) = vals pre ++ [x.1] by simp [vals]]; exact falseAt_snoc L x.1 (vals pre) 0
    have hA64 := falseAt_lt L (vals pre) 0 (by decide)
    have hx := x.2
    obtain ⟨A, hA⟩ : ∃ A, falseAt L (vals pre) 0 = A := ⟨_, rfl⟩
    rw [hA] at c0 HE hA64 h3
    have hor := or_spell A (opp x.1.lit) hA64 (opp_lt64 _)
    have c1 := opposites_any x.1.lit hx.1
    generalize opp x.1.lit = O at *
    by_cases hc : x.1.lev = L
    · have hc' : ((x.1.lev : Int) == (L : Int)) = true := by simp [hc]
      rw [if_pos hc] at HE
      clear hc hA
      gi_wp2
      have hd : 1 ≤ 9 - 1 - 1 := by omega
      have hmx : Tryd.prog.follows .mixedOrders = true := by kernel_rfl
      gi_region_with_o (refine ⟨trivial, ?_⟩; gi_at_call 39; refine (CallsIn.inRound l (callsIn_wide.2 (c1 _))).mono ?_; rintro e w' ⟨rfl, hw'⟩; obtain rfl := hw'.symm)
      all_goals gi_wp2
      all_goals
        exact ⟨((KeepsOthers.setCell _ _ _).trans (KeepsOthers.drew _)).from _, ⟨((Below.refl w.heap.size W).setCell (p := ⟨w.heap.size + 1, 0, none⟩) (Nat.le_succ _) _).drew, Below.heap_setCell W ⟨w.heap.size + 1, 0, none⟩ _ _ (by simp)⟩,
          (h1.setCell (p := ⟨w.heap.size + 1, 0, none⟩) (Nat.le_succ _) _).drew, (h2.setOther (a := ⟨w.heap.size + 1, 0, none⟩) (by simp) _).drew, by rw [HE.out]; exact (h3.set 0 _).drew, (h4.setOther (a := ⟨w.heap.size + 1, 0, none⟩) (by simp) _).drew⟩
    · have hc' : ((x.1.lev : Int) == (L : Int)) = false := by simp; omega
      rw [if_neg hc] at HE
      clear hc hA
      gi_wp2
      exact ⟨KeepsFrom.refl _ _, ⟨Below.refl _ _, rfl⟩, h1, h2, by rw [HE.out]; exact h3, h4⟩
  case done =>
    rintro D ys W hD rfl ⟨h1, h2, h3, -⟩ hK
    have c0 : W.cell? ⟨w.heap.size + 1, 0, none⟩ = some (sv (falseAt L (vals ys) 0)) := h3.cell (i := 0) (by simp) undef
    gi_wp2
    refine ⟨by simp, .inl ⟨_, _, rfl, run_takeDeferred hK, ?_⟩⟩
    exact ⟨_, results_tmp rfl _ _ _, rfl, h1.trans (belowK_b (w := w) (Nat.le_refl _) W D _ _ (by omega) hK rfl rfl)⟩
  case stop =>
    rintro D c pre W _ _ h _
    exact h.elim
end Go.Proofs.YtlodenfdcckemabDoor
