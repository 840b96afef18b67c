/-
  Down: the picks one after the other, the newest first: its contract.
-/
import Derived.Test.YtomebpjjeldhdaaDoorStk2
namespace Go.Proofs.YtomebpjjeldhdaaDoor
open Go.RowKit Go.Shelf

attribute [local go_sem] Oper.semAt_some

/-- Picks as the program can hold them. -/
abbrev Pks : Type := { p : Pk // p.lit < 18446744073709551616 ∧ p.cl < 18446744073709551616 ∧ p.lev ≤ 64 }

def vals (xs : List Pks) : List Pk := xs.map (·.1)

theorem pks_of : ∀ (P : List Pk), (∀ p ∈ P, p.lit < 18446744073709551616 ∧ p.cl < 18446744073709551616 ∧ p.lev ≤ 64) → ∃ xs : List Pks, vals xs = P
  | [], _ => ⟨[], rfl⟩
  | p :: P, h => by
    obtain ⟨xs, e⟩ := pks_of P (fun q hq => h q (List.mem_cons_of_mem _ hq))
    exact ⟨⟨p, h p List.mem_cons_self⟩ :: xs, by simp [vals] at e ⊢; exact e⟩

/-- What a round keeps. -/
def KpD (n₀ Bn : Nat) (W W' : World) : Prop := Below n₀ W W' ∧ W'.heap[Bn]? = W.heap[Bn]?

theorem kpD_t {n₀ Bn : Nat} {A B C : World} (h : KpD n₀ Bn A B) (k : KpD n₀ Bn B C) : KpD n₀ Bn A C := ⟨h.1.trans k.1, k.2.trans h.2⟩
theorem kpD_b {n₀ Bn : Nat} {w : World} (hn : n₀ ≤ w.heap.size) (hB : Bn < w.heap.size) (W : World) (l : Nat) (o o' : Obj) (hl : w.heap.size ≤ l) (h : W.heap[l]? = some o) (h1 : o.isCells = false) (h2 : o.isWalk = false) : KpD n₀ Bn W (W.putObj l o') :=
  ⟨belowK_b (w := w) hn W l o o' hl h h1 h2, World.putObj_heap_other (by omega)⟩

set_option maxHeartbeats 400000 in
theorem down_any (X : Nat) (w : World) : Calls Tryd.prog 114 #[.pointer (some ⟨X, 2, none⟩)] w fun e w' => e = .returned (.func (.func 131) #[] #[.pointer (some ⟨w.heap.size, 0, none⟩)]) ∧ w' = w.alloc (.cells #[.pointer (some ⟨X, 2, none⟩)] 182) := by
  go_enter Tryd.func114, Tryd.ntmps114
  go_wp2
  go_ret
  exact ⟨rfl, rfl⟩

/-- What Down reads, in memory. -/
structure DownAt (W : World) (Bn X : Nat) (v : Value) (P : List Pk) : Prop where
  box : Blk W Bn 182 [.pointer (some ⟨X, 2, none⟩)]
  it : W.cell? ⟨X, 2, none⟩ = some v
  row : Row3 W v P

theorem DownAt.kept {W W' : World} {n₀ Bn X : Nat} {v : Value} {P : List Pk} (h : DownAt W Bn X v P) (hk : KpD n₀ Bn W W') (hX : X < n₀) (hv : ∀ k, v.ownBlock = some k → k < n₀) : DownAt W' Bn X v P :=
  ⟨h.box.of_block hk.2, (hk.1.cell (p := ⟨X, 2, none⟩) hX).trans h.it, h.row.below hk.1 hv⟩

/-- The k-th pick from the top. -/
theorem Row3.at {w : World} {v : Value} {P : List Pk} (h : Row3 w v P) {j k : Nat} (hj : j + 1 + k = P.length) : ∃ g cap, v = .slice (some ⟨g, 0, none⟩) P.length cap ∧
    w.cell? ⟨g, j * 3, none⟩ = some (sv (P.getD k pk0).lit) ∧ w.cell? ⟨g, j * 3 + 1, none⟩ = some (sv (P.getD k pk0).cl) ∧ w.cell? ⟨g, j * 3 + 2, none⟩ = some (.int .i64 (P.getD k pk0).lev) ∧ g < w.heap.size := by
  rcases h with ⟨_, h⟩ | ⟨g, cap, rfl, h63, hle, rest, hr, hl⟩
  · rw [h] at hj; simp at hj
  · have hat := flat3_at P.reverse rest j (by simp; omega)
    have hg : P.reverse.getD j pk0 = P.getD k pk0 := by
      rw [List.getD_eq_getElem?_getD, List.getD_eq_getElem?_getD, List.getElem?_reverse (by omega)]
      congr 2
      omega
    rw [hg] at hat
    have hlen : P.length * 3 ≤ (flat3 P.reverse ++ rest).length := by rw [List.length_append, flat3_length, List.length_reverse]; omega
    refine ⟨g, cap, rfl, ?_, ?_, ?_, hr.lt⟩
    · rw [hr.cell (i := j * 3) (by omega) undef, hat.1]
    · rw [hr.cell (i := j * 3 + 1) (by omega) undef, hat.2.1]
    · rw [hr.cell (i := j * 3 + 2) (by omega) undef, hat.2.2]

theorem vals_getD {xs : List Pks} {k : Nat} (hk : k < xs.length) : (vals xs).getD k pk0 = (xs[k]).1 := by
  unfold vals
  rw [List.getD_eq_getElem?_getD, List.getElem?_map, List.getElem?_eq_getElem hk]
  rfl

set_option maxRecDepth 100000 in
set_option maxHeartbeats 4000000 in
theorem down_stops (n : Nat) (hn : 1 ≤ n) (Bn X n₀ : Nat) (v : Value) (xs : List Pks) (w : World) (hn₀ : n₀ ≤ w.heap.size) (hX : X < n₀) (hv : ∀ k, v.ownBlock = some k → k < n₀) (hD : DownAt w Bn X v (vals xs)) (h64 : xs.length ≤ 64) :
    SeqStopsK Fence.wide n Tryd.prog 131 #[.pointer (some ⟨Bn, 0, none⟩)] (fun x : Pks => #[pkv x.1]) (KpD n₀ Bn) (fun ys => ys = xs) (fun pre => pre <+: xs) xs.length w := by
  intro l J Jx W hb hJ hJx hY h0
  have hDW : DownAt W Bn X v (vals xs) := hD.kept (n₀ := n₀) ⟨hb.mono hn₀, hb.block Bn hD.box.lt⟩ hX hv
  have hlen : (vals xs).length = xs.length := by simp [vals]
  obtain ⟨ao, cap, hsh⟩ := hD.row.shape
  rw [hlen] at hsh
  have c1 := hDW.box.cell (i := 0) (by simp) undef
  have c2 := hDW.it
  rw [hsh] at c2
  simp only [List.getD_cons_zero] at c1
  refine callsIn_of_wp Tryd.func131 rfl trivial ?_ rfl
  simp only [Tryd.ntmps131, List.size_toArray, List.length_cons, List.length_nil, Nat.reduceAdd, Nat.reduceSub, Array.replicate_succ, Array.replicate_zero, List.push_toArray, List.append_toArray, List.nil_append, List.cons_append]
  gi_wp2
  gi_loopw [3] (fun a wr => ∃ (m k : Nat), Hid (m + k = xs.length) ∧ a = .int .i64 ((m : Int) - 1) ∧ Hid (DownAt wr Bn X v (vals xs)) ∧ J (xs.take k) wr) (fun a _ => (intOf a + 1).toNat)
  case atStart => exact ⟨xs.length, 0, rfl, by go_num, hDW, h0⟩
  case round =>
    obtain ⟨m, k, hmk, rfl, HD, hJk⟩ := hrel
    cases m with
    | zero =>
      have hk : Hid (xs.take k = xs) := by unfold Hid; rw [List.take_of_length_le]; have := hmk.out; omega
      gi_wp2
      go_end0
      exact ⟨⟨_, rfl⟩, .inl ⟨_, hk.out, hJk⟩⟩
    | succ j =>
      have hj0 := hmk.out
      have hkl : k < xs.length := by omega
      obtain ⟨g, cap', hsh', t0, t1, t2, hgl⟩ := HD.out.row.at (j := j) (k := k) (by rw [hlen]; omega)
      rw [vals_getD hkl] at t0 t1 t2
      rw [hlen, hsh] at hsh'
      simp only [Value.slice.injEq, true_and] at hsh'
      obtain ⟨rfl, rfl⟩ := hsh'
      have d1 : wr.cell? ⟨Bn, 0, none⟩ = some (.pointer (some ⟨X, 2, none⟩)) := HD.out.box.cell (i := 0) (by simp) undef
      have d2 := HD.out.it
      rw [hsh] at d2
      have htk : Hid (xs.take k ++ [xs[k]] = xs.take (k + 1)) := by unfold Hid; rw [List.take_succ_eq_append_getElem hkl]
      obtain ⟨x, hx⟩ : ∃ x, x = xs[k] := ⟨_, rfl⟩
      rw [← hx] at t0 t1 t2 htk
      obtain ⟨fn, tmps, assign, body, hy, hRy⟩ := hY (xs.take k) x wr hJk (by rw [List.length_take]; omega)
      simp only [pkv] at hy
      have e1 : ((j + 1 : Nat) : Int) - 1 = (j : Int) := by omega
      rw [e1]
      have i0 : (0 : Int) ≤ (j : Int) := by omega
      have i1 : (j : Int) < (xs.length : Int) := by omega
      have hj64 : j ≤ 64 := by omega
      clear hj0 hkl hx
      gi_wp2
      refine hRy.mono ?_
      rintro e W' (⟨rfl, hJ', hk⟩ | ⟨rfl, hJx'⟩)
      · gi_wp2
        go_roundw
        case rel => exact ⟨j, k + 1, by have := hmk.out; unfold Hid; omega, by go_num, HD.out.kept hk hX hv, by rw [← htk.out]; exact hJ'⟩
        case measure => simp [intOf]
      · gi_wp2
        refine bodyPost_ret (results_none rfl _ _ _) rfl ?_
        exact ⟨⟨_, rfl⟩, .inr ⟨_, by rw [htk.out]; exact List.take_prefix _ _, hJx'⟩⟩
end Go.Proofs.YtomebpjjeldhdaaDoor
