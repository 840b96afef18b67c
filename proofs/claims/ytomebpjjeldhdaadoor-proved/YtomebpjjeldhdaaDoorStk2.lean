/-
  The walks of pop and down.
-/
import Derived.RangeFuncNested
import Derived.RangeFuncBound
import Derived.RangeFuncCalls
import Derived.RangeFuncLeaves
import Derived.Shelf.Abstract
import Derived.Shelf.RegionOpen
import Derived.OwnWalkIn
import Derived.TacticsInMore
import Derived.LoopNIn
import Derived.LoopIn
import Derived.Test.YtomebpjjeldhdaaDoorStk
namespace Go.Proofs.YtomebpjjeldhdaaDoor
open Go.RowKit Go.Shelf

attribute [local go_sem] Oper.semAt_some

/-- The newest pick is the last of the row. -/
theorem Row3.top {w : World} {v : Value} {p : Pk} {P : List Pk} (h : Row3 w v (p :: P)) : ∃ g cap, v = .slice (some ⟨g, 0, none⟩) (P.length + 1) cap ∧ P.length + 1 ≤ cap ∧ cap ≤ maxLen ∧
    w.cell? ⟨g, P.length * 3, none⟩ = some (sv p.lit) ∧ w.cell? ⟨g, P.length * 3 + 1, none⟩ = some (sv p.cl) ∧ w.cell? ⟨g, P.length * 3 + 2, none⟩ = some (.int .i64 p.lev) ∧ (∀ i, w.frozen? ⟨g, i, none⟩ = false) ∧ g < w.heap.size ∧
    ∃ rest, Blk w g 162 (flat3 P.reverse ++ (pkc p ++ rest)) ∧ (flat3 P.reverse ++ (pkc p ++ rest)).length = cap * 3 := by
  rcases h with ⟨_, h⟩ | ⟨g, cap, rfl, h63, hle, rest, hr, hl⟩
  · cases h
  · have e : flat3 (p :: P).reverse ++ rest = flat3 P.reverse ++ (pkc p ++ rest) := by rw [List.reverse_cons, flat3_append]; simp [flat3]
    have hat := flat3_at (p :: P).reverse rest P.length (by simp)
    have hg : (p :: P).reverse.getD P.length pk0 = p := by simp
    rw [hg] at hat
    have hlen : ((p :: P).reverse).length * 3 ≤ (flat3 (p :: P).reverse ++ rest).length := by rw [List.length_append, flat3_length]; omega
    simp only [List.length_reverse, List.length_cons] at hlen
    refine ⟨g, cap, by simp, by simpa using hle, h63, ?_, ?_, ?_, fun i => hr.frozen i, hr.lt, rest, by rw [← e]; exact hr, by rw [← e]; exact hl⟩
    · rw [hr.cell (i := P.length * 3) (by omega) undef, hat.1]
    · rw [hr.cell (i := P.length * 3 + 1) (by omega) undef, hat.2.1]
    · rw [hr.cell (i := P.length * 3 + 2) (by omega) undef, hat.2.2]

theorem list_set3 (A : List Value) (x y z x' y' z' : Value) (r : List Value) (n : Nat) (hn : n = A.length) : (((A ++ (x :: y :: z :: r)).set n x').set (n + 1) y').set (n + 2) z' = A ++ (x' :: y' :: z' :: r) := by
  subst hn
  rw [List.set_append_right _ _ (Nat.le_refl _), List.set_append_right _ _ (by omega), List.set_append_right _ _ (by omega)]
  simp

set_option maxHeartbeats 2000000 in
theorem spop_any (X : Nat) (a0 a1 v a3 a4 : Value) (P : List Pk) (p : Pk) (w : World) (hB : Blk w X 134 [a0, a1, v, a3, a4]) (hR : Row3 w v (p :: P)) (hn : P.length < 64) :
    Calls Tryd.prog 115 #[.pointer (some ⟨X, 2, none⟩)] w fun e w' => e = .returned (.tuple #[pkv p, .bool true]) ∧
      ∃ v', Row3 w' v' P ∧ Blk w' X 134 [a0, a1, v', a3, a4] ∧ v'.ownBlock = v.ownBlock ∧ Chg (fun b => b = X ∨ v.ownBlock = some b) w w' := by
  have hneX : v.ownBlock ≠ some X := hR.ne_blk hB (by decide)
  obtain ⟨g, cap, rfl, hle, h63, t0, t1, t2, hfz, hgl, rest, hrow, hrl⟩ := hR.top
  have hXl := hB.lt
  have hgX : g ≠ X := fun e => hneX (by rw [← e]; rfl)
  have hit : w.cell? ⟨X, 2, none⟩ = some (.slice (some ⟨g, 0, none⟩) (P.length + 1) cap) := hB.cell (i := 2) (by simp) undef
  obtain ⟨m, HM⟩ : ∃ m, Hid (m = P.length) := ⟨_, rfl⟩
  rw [← HM.out] at hit t0 t1 t2 hle hn
  have hle0 : (((m + 1 : Nat) : Int) == 0) = false := by simp; omega
  unfold pkv
  go_enter Tryd.func115, Tryd.ntmps115
  go_wp2
  generalize hW : ((w.alloc (Obj.cells #[Value.int IntKind.u64 0, Value.int IntKind.u64 0, Value.int IntKind.i64 0] 162)).alloc (Obj.cells #[Value.int IntKind.u64 0, Value.int IntKind.u64 0, Value.int IntKind.i64 0] 162)).alloc (Obj.cells #[Value.int IntKind.u64 p.lit, Value.int IntKind.u64 p.cl, Value.int IntKind.i64 p.lev] 162) = W
  have hsz : W.heap.size = w.heap.size + 3 := by rw [← hW]; simp
  have hbW : Below w.heap.size w W := by rw [← hW]; exact (((Below.refl _ _).alloc (Nat.le_refl _) _).alloc (by simp) _).alloc (by simp; omega) _
  have BR : Blk W w.heap.size 162 [.int .u64 0, .int .u64 0, .int .i64 0] := by
    rw [← hW]
    exact ((blk_new w [.int .u64 0, .int .u64 0, .int .i64 0] 162).alloc _).alloc _
  have BZ : Blk W (w.heap.size + 1) 162 [.int .u64 0, .int .u64 0, .int .i64 0] := by
    rw [← hW]
    have := blk_new (w.alloc (Obj.cells #[Value.int IntKind.u64 0, Value.int IntKind.u64 0, Value.int IntKind.i64 0] 162)) [.int .u64 0, .int .u64 0, .int .i64 0] 162
    rw [World.size_alloc] at this
    exact this.alloc _
  have BF : Blk W (w.heap.size + 1 + 1) 162 [.int .u64 p.lit, .int .u64 p.cl, .int .i64 p.lev] := by
    rw [← hW]
    have := blk_new ((w.alloc (Obj.cells #[Value.int IntKind.u64 0, Value.int IntKind.u64 0, Value.int IntKind.i64 0] 162)).alloc (Obj.cells #[Value.int IntKind.u64 0, Value.int IntKind.u64 0, Value.int IntKind.i64 0] 162)) [.int .u64 p.lit, .int .u64 p.cl, .int .i64 p.lev] 162
    simpa using this
  have BX := hB.below' hbW
  have BG := hrow.below' hbW
  rw [← HM.out] at BX
  have HBW : Hid (Below w.heap.size w W) := hbW
  have HSZ : Hid (W.heap.size = w.heap.size + 3) := hsz
  clear hW t0 t1 t2 hit hfz hB hrow hbW
  have hitW : W.cell? ⟨X, 2, none⟩ = some (.slice (some ⟨g, 0, none⟩) (m + 1) cap) := BX.cell (i := 2) (by simp) undef
  have hlen : m * 3 + 3 ≤ (flat3 P.reverse ++ (pkc p ++ rest)).length := by rw [List.length_append, flat3_length]; simp [pkc]; rw [← HM.out]; omega
  have e0 : (flat3 P.reverse).length = m * 3 := by rw [flat3_length, List.length_reverse, ← HM.out]
  have g0 := BG.cell (i := m * 3) (by omega) undef
  have g1 := BG.cell (i := m * 3 + 1) (by omega) undef
  have g2 := BG.cell (i := m * 3 + 2) (by omega) undef
  have f0 := BG.frozen (m * 3)
  have f1 := BG.frozen (m * 3 + 1)
  have f2 := BG.frozen (m * 3 + 2)
  have z0 : W.cell? ⟨w.heap.size + 1, 0, none⟩ = some (.int .u64 0) := BZ.cell (i := 0) (by simp) undef
  have z1 : W.cell? ⟨w.heap.size + 1, 1, none⟩ = some (.int .u64 0) := BZ.cell (i := 1) (by simp) undef
  have z2 : W.cell? ⟨w.heap.size + 1, 2, none⟩ = some (.int .i64 0) := BZ.cell (i := 2) (by simp) undef
  have i0 : (0 : Int) ≤ (m : Int) := by omega
  have i1 : (m : Int) < ((m : Int) + 1) := by omega
  have HLen : Hid _ := hlen
  have HE0 : Hid _ := e0
  have HRL : Hid _ := hrl
  generalize (flat3 P.reverse ++ (pkc p ++ rest)).getD (m * 3) undef = q0 at g0
  generalize (flat3 P.reverse ++ (pkc p ++ rest)).getD (m * 3 + 1) undef = q1 at g1
  generalize (flat3 P.reverse ++ (pkc p ++ rest)).getD (m * 3 + 2) undef = q2 at g2
  have hgX' : ¬ X = g := fun e => hgX e.symm
  clear hsz hlen e0 hrl hR hneX
  go_region
  have BG5 := ((BG.set (m * 3) (.int .u64 0)).set (m * 3 + 1) (.int .u64 0)).set (m * 3 + 2) (.int .i64 0)
  rw [show flat3 P.reverse ++ (pkc p ++ rest) = flat3 P.reverse ++ (sv p.lit :: sv p.cl :: .int .i64 p.lev :: rest) from rfl, list_set3 _ _ _ _ _ _ _ _ _ HE0.out.symm] at BG5
  have hC5 : Chg (fun b => b = g) W (((W.setCell ⟨g, m * 3, none⟩ (.int .u64 0)).setCell ⟨g, m * 3 + 1, none⟩ (.int .u64 0)).setCell ⟨g, m * 3 + 2, none⟩ (.int .i64 0)).drew := ((((Chg.refl (fun b => b = g) W).setB g _ rfl _).setB g _ rfl _).setB g _ rfl _).drew
  replace BG5 := BG5.drew
  generalize (((W.setCell ⟨g, m * 3, none⟩ (.int .u64 0)).setCell ⟨g, m * 3 + 1, none⟩ (.int .u64 0)).setCell ⟨g, m * 3 + 2, none⟩ (.int .i64 0)).drew = W5 at *
  have hzW := HSZ.out
  have BX5 := BX.chg hC5 (fun e => hgX e.symm)
  have BR5 := BR.chg hC5 (by omega)
  have BF5 := BF.chg hC5 (by omega)
  have x5 : W5.cell? ⟨X, 2, none⟩ = some (.slice (some ⟨g, 0, none⟩) (m + 1) cap) := BX5.cell (i := 2) (by simp) undef
  have x5f := BX5.frozen 2
  have p0 : W5.cell? ⟨w.heap.size + 1 + 1, 0, none⟩ = some (.int .u64 p.lit) := BF5.cell (i := 0) (by simp) undef
  have p1 : W5.cell? ⟨w.heap.size + 1 + 1, 1, none⟩ = some (.int .u64 p.cl) := BF5.cell (i := 1) (by simp) undef
  have p2 : W5.cell? ⟨w.heap.size + 1 + 1, 2, none⟩ = some (.int .i64 p.lev) := BF5.cell (i := 2) (by simp) undef
  have r0 : W5.cell? ⟨w.heap.size, 0, none⟩ = some (.int .u64 0) := BR5.cell (i := 0) (by simp) undef
  have r1 : W5.cell? ⟨w.heap.size, 1, none⟩ = some (.int .u64 0) := BR5.cell (i := 1) (by simp) undef
  have r2 : W5.cell? ⟨w.heap.size, 2, none⟩ = some (.int .i64 0) := BR5.cell (i := 2) (by simp) undef
  have rf0 := BR5.frozen 0
  have rf1 := BR5.frozen 1
  have rf2 := BR5.frozen 2
  have n1 : ¬ X = w.heap.size + 1 + 1 := by omega
  have n2 : ¬ X = w.heap.size := by omega
  have n3 : ¬ w.heap.size = X := by omega
  have HC5 : Hid _ := hC5
  have HBG5 : Hid _ := BG5
  have HBX5 : Hid _ := BX5
  clear hC5 BG5 BX5 BR5 BF5 BR BZ BF BX BG hitW g0 g1 g2 f0 f1 f2 z0 z1 z2
  go_wp2
  have hfin : ∃ v', Row3 ((((W5.setCell ⟨X, 2, none⟩ (.slice (some ⟨g, 0, none⟩) m cap)).setCell ⟨w.heap.size, 0, none⟩ (.int .u64 p.lit)).setCell ⟨w.heap.size, 1, none⟩ (.int .u64 p.cl)).setCell ⟨w.heap.size, 2, none⟩ (.int .i64 p.lev)) v' P ∧ Blk ((((W5.setCell ⟨X, 2, none⟩ (.slice (some ⟨g, 0, none⟩) m cap)).setCell ⟨w.heap.size, 0, none⟩ (.int .u64 p.lit)).setCell ⟨w.heap.size, 1, none⟩ (.int .u64 p.cl)).setCell ⟨w.heap.size, 2, none⟩ (.int .i64 p.lev)) X 134 [a0, a1, v', a3, a4] ∧ v'.ownBlock = (Value.slice (some ⟨g, 0, none⟩) (P.length + 1) cap).ownBlock ∧ Chg (fun b => b = X ∨ (Value.slice (some ⟨g, 0, none⟩) (P.length + 1) cap).ownBlock = some b) w ((((W5.setCell ⟨X, 2, none⟩ (.slice (some ⟨g, 0, none⟩) m cap)).setCell ⟨w.heap.size, 0, none⟩ (.int .u64 p.lit)).setCell ⟨w.heap.size, 1, none⟩ (.int .u64 p.cl)).setCell ⟨w.heap.size, 2, none⟩ (.int .i64 p.lev)) := by
    refine ⟨.slice (some ⟨g, 0, none⟩) m cap, Or.inr ⟨g, cap, by rw [HM.out], h63, by rw [← HM.out]; omega, (.int .u64 0 :: .int .u64 0 :: .int .i64 0 :: rest), ?_, ?_⟩, ?_, rfl, ?_⟩
    · exact ((((show Blk W5 g _ _ from HBG5.out).setOther (a := ⟨X, 2, none⟩) hgX _).setOther (a := ⟨w.heap.size, 0, none⟩) (by simp; omega) _).setOther (a := ⟨w.heap.size, 1, none⟩) (by simp; omega) _).setOther (a := ⟨w.heap.size, 2, none⟩) (by simp; omega) _
    · have h1 := HRL.out
      rw [List.length_append] at h1 ⊢
      simpa [pkc] using h1
    · exact ((((show Blk W5 X _ _ from HBX5.out).set 2 _).setOther (a := ⟨w.heap.size, 0, none⟩) (by simp; omega) _).setOther (a := ⟨w.heap.size, 1, none⟩) (by simp; omega) _).setOther (a := ⟨w.heap.size, 2, none⟩) (by simp; omega) _
    · have hT : Chg (fun b => b = X ∨ b = g ∨ w.heap.size ≤ b) W5 ((((W5.setCell ⟨X, 2, none⟩ (.slice (some ⟨g, 0, none⟩) m cap)).setCell ⟨w.heap.size, 0, none⟩ (.int .u64 p.lit)).setCell ⟨w.heap.size, 1, none⟩ (.int .u64 p.cl)).setCell ⟨w.heap.size, 2, none⟩ (.int .i64 p.lev)) :=
        ((((Chg.refl _ W5).setB X 2 (Or.inl rfl) _).setB w.heap.size 0 (Or.inr (Or.inr (Nat.le_refl _))) _).setB w.heap.size 1 (Or.inr (Or.inr (Nat.le_refl _))) _).setB w.heap.size 2 (Or.inr (Or.inr (Nat.le_refl _))) _
      refine Chg.trans2 (Chg.of_below HBW.out) (Chg.trans2 (S := fun b => b = X ∨ b = g ∨ w.heap.size ≤ b) (HC5.out.mono fun k _ e => Or.inr (Or.inl e)) hT fun i _ e => e) fun i hi e => ?_
      rcases e with e | e | e
      · exact Or.inl e
      · right; rw [e]; rfl
      · omega
  have HF : Hid _ := hfin
  clear hfin
  refine bodyPost_ret (v := .tuple #[.agg #[.int .u64 p.lit, .int .u64 p.cl, .int .i64 p.lev], .bool true]) (by simp [results, Tryd.results115, go_sem, r0, r1, r2]) rfl ⟨rfl, HF.out⟩
end Go.Proofs.YtomebpjjeldhdaaDoor
