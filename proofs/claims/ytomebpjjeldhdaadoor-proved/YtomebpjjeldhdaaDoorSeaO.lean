/-
  The literals to choose: the walk of choices.
-/
import Derived.Test.YtomebpjjeldhdaaDoorSort
import Derived.Test.YtomebpjjeldhdaaDoorSets
import Derived.Test.YtomebpjjeldhdaaDoorSeaR
import Derived.Deep.QuietTactic
namespace Go.Proofs.YtomebpjjeldhdaaDoor
open Go.RowKit

attribute [local go_sem] run_store_float

/-- Of a variable the literal that weighs more. -/
def pickLit (cs : List (List Int)) (v : Int) : Int := if partsOf cs v < partsOf cs (-v) then -v else v

def chOf (n : Nat) (cs : List (List Int)) : List Nat := (drain n (built (weight cs) n)).map fun v => 2 ^ pl (pickLit cs v)

theorem drain_perm (wt : Nat → Nat) (n : Nat) : (drain n (built wt n)).Perm ((List.range n).map fun (j : Nat) => (j : Int) + 1) := by
  obtain ⟨h1, h2⟩ := built_heap wt n
  have h3 := (drainI_sorted n (built wt n) (built_length wt n) h1).2
  rw [drain_fst]
  have h4 := (h3.trans h2).map Prod.fst
  rw [List.map_map] at h4
  exact h4

theorem drain_mem {wt : Nat → Nat} {n : Nat} {v : Int} : v ∈ drain n (built wt n) ↔ 1 ≤ v ∧ v ≤ n := by
  rw [(drain_perm wt n).mem_iff, List.mem_map]
  constructor
  · rintro ⟨j, hj, rfl⟩
    have := List.mem_range.1 hj
    omega
  · rintro ⟨h1, h2⟩
    exact ⟨(v - 1).toNat, List.mem_range.2 (by omega), by omega⟩

theorem drain_len (wt : Nat → Nat) (n : Nat) : (drain n (built wt n)).length = n := by
  rw [(drain_perm wt n).length_eq]; simp

theorem pickLit_lit {n : Nat} {cs : List (List Int)} {v : Int} (h1 : 1 ≤ v) (h2 : v ≤ n) : IsLit n (pickLit cs v) := by
  unfold pickLit IsLit
  split <;> omega

theorem chOf_ok (n : Nat) (cs : List (List Int)) : Chs n (chOf n cs) := by
  refine ⟨fun l hl => ?_, fun v hv => ?_⟩
  · unfold chOf at hl
    obtain ⟨x, hx, rfl⟩ := List.mem_map.1 hl
    obtain ⟨h1, h2⟩ := drain_mem.1 hx
    exact ⟨_, pl_lt (pickLit_lit h1 h2), rfl⟩
  · refine ⟨2 ^ pl (pickLit cs ((v : Int) + 1)), List.mem_map.2 ⟨(v : Int) + 1, drain_mem.2 (by omega), rfl⟩, ?_⟩
    unfold pickLit
    split
    · right; congr 1; unfold pl; rw [if_pos (by omega)]; omega
    · left; congr 1; unfold pl; rw [if_neg (by omega)]; omega

theorem chOf_len (n : Nat) (cs : List (List Int)) : (chOf n cs).length = n := by unfold chOf; rw [List.length_map, drain_len]

theorem mask_one (x : Int) : maskOf [x] = 2 ^ pl x := by simp [maskOf]

theorem chOf_take (n : Nat) (cs : List (List Int)) (i : Nat) (hi : i < n) : (chOf n cs).take (i + 1) = (chOf n cs).take i ++ [2 ^ pl (pickLit cs ((drain n (built (weight cs) n)).getD i 0))] := by
  have h2 : i < (drain n (built (weight cs) n)).length := by rw [drain_len]; exact hi
  unfold chOf
  rw [← List.map_take, ← List.map_take, List.take_succ_eq_append_getElem h2, List.map_append, getD_lt _ _ _ h2]
  rfl

set_option maxRecDepth 100000 in
set_option maxHeartbeats 2000000 in
theorem choices_any (n : Nat) (ao : Option Addr) (cap : Nat) (cs : List (List Int)) (w : World) (hc : ListsAt w w.heap.size ao cs) (hg : Good n cs) :
    Calls Tryd.prog 92 #[.agg #[.int .i64 n, .slice ao cs.length cap]] w fun e w' => ∃ v, e = .returned v ∧ Own w' w.heap.size 84 v (svs (chOf n cs)) ∧ Below w.heap.size w w' := by
  have hn := hg.vars
  have hw1 : Below w.heap.size w (w.alloc (.cells #[.int .i64 n, .slice ao cs.length cap] 31)) := (Below.refl _ _).alloc (Nat.le_refl _) _
  have B0 := blk_new w [.int .i64 n, .slice ao cs.length cap] 31
  have hS0 := alloc_size w (.cells #[.int .i64 n, .slice ao cs.length cap] 31)
  dsimp only [List.toArray] at B0
  go_enter Tryd.func92, Tryd.ntmps92
  go_wp2_with fail
  generalize w.alloc (.cells #[.int .i64 n, .slice ao cs.length cap] 31) = W0 at *
  have hc0 := (hc.below hw1 (Nat.le_refl _)).mono hw1.size
  refine (ofLiterals_any n ao cap cs W0 hc0 hg).mono ?_
  rintro e w1 ⟨g1, rfl, hg1, hB1, hb1⟩
  have B01 := B0.below' hb1
  have n0 : w1.cell? ⟨w.heap.size, 0, none⟩ = some (.int .i64 n) := B01.cell (i := 0) (by simp) undef
  have n1 : w1.cell? ⟨w.heap.size, 1, none⟩ = some (.slice ao cs.length cap) := B01.cell (i := 1) (by simp) undef
  have hbw1 : Below w.heap.size w w1 := hw1.trans (hb1.mono hw1.size)
  have hc1 := (hc.below hbw1 (Nat.le_refl _)).mono hbw1.size
  go_wp2_with (at_make; refine wpList_make_blk2 _ rfl (.const (.int .i64 0)) (.tmp 10) 121 rfl 84 (.int .u64 0) 8 Tryd.underlying121 Tryd.infoSet rfl .i64 .i64 0 n _ _ rfl rfl rfl rfl (Nat.zero_le _) (by omega) (by omega) ?_; intro w2 hB2 hb2 hs2; have n02 : w2.cell? ⟨w.heap.size, 0, none⟩ = some (.int .i64 n) := (B01.below' hb2).cell (i := 0) (by simp) undef; have n12 : w2.cell? ⟨w.heap.size, 1, none⟩ = some (.slice ao cs.length cap) := (B01.below' hb2).cell (i := 1) (by simp) undef)
  have hbw2 : Below w.heap.size w w2 := hbw1.trans (hb2.mono hbw1.size)
  have hc2 := (hc.below hbw2 (Nat.le_refl _)).mono hbw2.size
  have HO2 : Hid (Own w2 w.heap.size 84 (.slice (some ⟨w1.heap.size, 0, none⟩) 0 n) (svs [])) := Or.inr ⟨w1.heap.size, n, rfl, hbw1.size, by unfold maxLen; omega, ⟨_, hB2, by simp⟩⟩
  have hB12 := hB1.below' hb2
  refine (order_any n ao cap cs w2 hc2 hg).mono ?_
  rintro e w3 ⟨g3, rfl, hg3, hB3, hb3⟩
  have HB1 : Hid (Blk w3 g1 111 (litCells n cs cs.length [] 0)) := hB12.below' hb3
  have HB3 : Hid (Blk w3 g3 3 ((drain n (built (weight cs) n)).map (Value.int .i64))) := hB3
  have HO3 : Hid (Own w3 w.heap.size 84 (.slice (some ⟨w1.heap.size, 0, none⟩) 0 n) (svs [])) := HO2.out.below' hb3
  have HBe : Hid (Below w.heap.size w w3) := hbw2.trans (hb3.mono hbw2.size)
  clear B0 B01 hB1 hB12 hB2 hB3 n0 n1 n02 n12 hc0 hc1 hc2 hb1 hb2 hb3 hbw1 hbw2 hs2 HO2 hw1
  go_wp2
  go_loopw [4, 15] (fun l x wr => ∃ (i : Nat), i ≤ n ∧ x = .int .i64 i ∧ Hid (Own wr w.heap.size 84 l (svs ((chOf n cs).take i))) ∧ Hid (Blk wr g1 111 (litCells n cs cs.length [] 0)) ∧ Hid (Blk wr g3 3 ((drain n (built (weight cs) n)).map (Value.int .i64))) ∧ Hid (Below w.heap.size w wr)) (fun _ x _ => n - (intOf x).toNat)
  case atStart => exact ⟨0, Nat.zero_le _, rfl, HO3, HB1, HB3, HBe⟩
  case round =>
    obtain ⟨i, hi, rfl, HO, HF, HR, HB⟩ := hrel
    by_cases hlt : i < n
    · have hd : i < (drain n (built (weight cs) n)).length := by rw [drain_len]; exact hlt
      have hmem : (drain n (built (weight cs) n)).getD i 0 ∈ drain n (built (weight cs) n) := by rw [getD_lt _ _ _ hd]; exact List.getElem_mem hd
      obtain ⟨hv1, hv2⟩ := drain_mem.1 hmem
      have hck : wr.cell? ⟨g3, i, none⟩ = some (.int .i64 ((drain n (built (weight cs) n)).getD i 0)) := by
        have := HR.out.cell (i := i) (by simpa using hd) (.int .i64 0)
        rw [this]
        simp [hd]
      have HTk : Hid ((chOf n cs).take (i + 1) = (chOf n cs).take i ++ [2 ^ pl (pickLit cs ((drain n (built (weight cs) n)).getD i 0))]) := chOf_take n cs i hlt
      generalize (drain n (built (weight cs) n)).getD i 0 = v at *
      have p1 := placeOf_lt (n := n) (x := v) (by omega)
      have p2 := placeOf_lt (n := n) (x := -v) (by omega)
      have s1 : wr.cell? ⟨g1, placeOf v, none⟩ = some (.float .f64 (Fl.W (partsOf cs v))) := (HF.out.cell (i := placeOf v) (by simp [litCells]; omega) undef).trans (by rw [litCells_get _ _ _ p1, litAt_placeOf (by omega)])
      have s2 : wr.cell? ⟨g1, placeOf (-v), none⟩ = some (.float .f64 (Fl.W (partsOf cs (-v)))) := (HF.out.cell (i := placeOf (-v)) (by simp [litCells]; omega) undef).trans (by rw [litCells_get _ _ _ p2, litAt_placeOf (by omega)])
      have b1 : partsOf cs v < 9007199254740992 := by have := hg.parts_le v; omega
      have b2 : partsOf cs (-v) < 9007199254740992 := by have := hg.parts_le (-v); omega
      have HPk : Hid (pickLit cs v = if partsOf cs v < partsOf cs (-v) then -v else v) := rfl
      have hlen : ((chOf n cs).take i).length = i := by rw [List.length_take, chOf_len]; omega
      have hsz := HB.out.size
      generalize partsOf cs v = r1 at *
      generalize partsOf cs (-v) = r2 at *
      have i1 : (placeOf v : Int) < 2 * (n : Int) := by omega
      have i2 : (placeOf (-v) : Int) < 2 * (n : Int) := by omega
      have hv20 : v ≤ 20 := by omega
      -- behind the comparison
      have HEnd : Hid (∀ (nq : Nat) (x : Int) (l' : Value) (g5 cap5 : Nat) (w5 : World) (o o' : Obj), x = pickLit cs v → Own w5 w.heap.size 84 (.slice (some ⟨g5, 0, none⟩) (i + 1) cap5) (svs ((chOf n cs).take i) ++ [sv (maskOf [x])]) → (((wr.drewN nq).alloc o).alloc o').grownBy w5 l'.ownBlock → Own wr w.heap.size 84 l' (svs ((chOf n cs).take i)) →
          Hid (Own w5 w.heap.size 84 (.slice (some ⟨g5, 0, none⟩) (i + 1) cap5) (svs ((chOf n cs).take (i + 1)))) ∧ Hid (Blk w5 g1 111 (litCells n cs cs.length [] 0)) ∧ Hid (Blk w5 g3 3 ((drain n (built (weight cs) n)).map (Value.int .i64))) ∧ Hid (Below w.heap.size w w5)) := by
        intro nq x l' g5 cap5 w5 o o' hx hO5 hgr hOl
        have e1 : svs ((chOf n cs).take (i + 1)) = svs ((chOf n cs).take i) ++ [sv (maskOf [x])] := by rw [HTk.out, mask_one, hx]; simp
        have hA : Below wr.heap.size wr (((wr.drewN nq).alloc o).alloc o') := ((⟨rfl, rfl, rfl, Nat.le_refl _, fun _ _ => rfl⟩ : Below wr.heap.size wr (wr.drewN nq)).alloc (Nat.le_refl _) o).alloc (by simp [World.drewN]) o'
        have F2 := HF.out.below' hA
        have R2 := HR.out.below' hA
        have O2 := hOl.below' hA
        refine ⟨by unfold Hid; rw [e1]; exact hO5, F2.grown hgr (own_blk O2 F2 (by decide)), R2.grown hgr (own_blk O2 R2 (by decide)), ?_⟩
        have hb1 : Below w.heap.size w (((wr.drewN nq).alloc o).alloc o') := HB.out.trans (hA.mono hsz)
        exact hb1.trans ⟨hgr.os, hgr.tape, hgr.output, hgr.size, fun k hk => hgr.block k (by have := hb1.size; omega) (fun e => by have := (O2.lt e.symm).1; omega)⟩
      rcases Nat.lt_trichotomy r1 r2 with hr | hr | hr
      · have ho := order_gt b2 b1 hr

        have HX : Hid (-v = pickLit cs v) := by unfold Hid; rw [HPk.out]; rw [if_pos hr]
        have cL : ∀ nq, Calls Tryd.prog 54 #[.slice (some ⟨wr.heap.size, 0, none⟩) 1 1] ((wr.drewN nq).alloc (.cells #[.int .i64 (-v)] 3)) fun e w' => e = .returned (sv (maskOf [-v])) ∧ w' = (wr.drewN nq).alloc (.cells #[.int .i64 (-v)] 3) := fun nq => litsOf_any n hn (some ⟨wr.heap.size, 0, none⟩) 1 [-v] _ (wr.heap.size + 1) (fun _ => ⟨wr.heap.size, 0, rfl, Nat.lt_succ_self _, fun j hj => by
          have hj0 : j = 0 := by simp at hj; omega
          subst hj0
          exact (blk_new (wr.drewN nq) [.int .i64 (-v)] 3).cell (i := 0) (by simp) undef⟩) (fun l hl => by rw [List.mem_singleton] at hl; rw [hl]; unfold IsLit; omega) (by simp)
        have OA : ∀ nq, Own (((wr.drewN nq).alloc (.cells #[.int .i64 (-v)] 3)).alloc (.cells #[sv (maskOf [-v])] 84)) w.heap.size 84 _ (svs ((chOf n cs).take i)) := fun nq => (Own.alloc (w := (wr.drewN nq).alloc (.cells #[.int .i64 (-v)] 3)) (Own.alloc (w := wr.drewN nq) (HO.out.chg (S := fun _ => False) ((Chg.refl _ _).drewN nq) (fun _ _ e => e)) _) _)
        have NA : ∀ nq, Blk (((wr.drewN nq).alloc (.cells #[.int .i64 (-v)] 3)).alloc (.cells #[sv (maskOf [-v])] 84)) (wr.heap.size + 1) 84 [sv (maskOf [-v])] := fun nq => by
          have := blk_new ((wr.drewN nq).alloc (.cells #[.int .i64 (-v)] 3)) [sv (maskOf [-v])] 84
          rw [World.size_alloc] at this
          exact this
        have hn2 : i + 1 ≤ 20 := by omega
        go_wp2
        go_quiet ((go_at_call 76; exact Calls.quiet_of_same (place_any _ _ (by omega))))
        go_wp2_with (first
          | (go_at_call 54; refine (cL _).mono ?_; rintro e w' ⟨rfl, hw'⟩; obtain rfl := hw'.symm)
          | (at_builtin; refine wpList_append_new (.tmp 33) (.tmp 37) 121 84 (.int .u64 0) 8 Tryd.underlying121 Tryd.infoSet rfl w.heap.size (wr.heap.size + 1) _ _ [sv (maskOf [-v])] 1 i (by rw [List.length_map]; exact hlen) rfl (by decide) (by rfl) (by rfl) (OA _) (NA _) (by intro u hu; simp at hu; rw [hu]; rfl) (by unfold maxLen; omega) (by omega) (by simp [World.drewN]; omega) ?_; intro g5 cap5 w5 hO5 hgr5 hat5 hlt5))
        obtain ⟨e1, e2, e3, e4⟩ := HEnd.out _ _ _ g5 cap5 w5 _ _ HX.out hO5 hgr5 HO.out
        exact ⟨⟨i + 1, by omega, by go_num, e1, e2, e3, e4⟩, by simp [intOf]; omega⟩
      · subst hr
        have ho := order_eq b2

        have HX : Hid (v = pickLit cs v) := by unfold Hid; rw [HPk.out]; rw [if_neg (by omega)]
        have cL : ∀ nq, Calls Tryd.prog 54 #[.slice (some ⟨wr.heap.size, 0, none⟩) 1 1] ((wr.drewN nq).alloc (.cells #[.int .i64 (v)] 3)) fun e w' => e = .returned (sv (maskOf [v])) ∧ w' = (wr.drewN nq).alloc (.cells #[.int .i64 (v)] 3) := fun nq => litsOf_any n hn (some ⟨wr.heap.size, 0, none⟩) 1 [v] _ (wr.heap.size + 1) (fun _ => ⟨wr.heap.size, 0, rfl, Nat.lt_succ_self _, fun j hj => by
          have hj0 : j = 0 := by simp at hj; omega
          subst hj0
          exact (blk_new (wr.drewN nq) [.int .i64 (v)] 3).cell (i := 0) (by simp) undef⟩) (fun l hl => by rw [List.mem_singleton] at hl; rw [hl]; unfold IsLit; omega) (by simp)
        have OA : ∀ nq, Own (((wr.drewN nq).alloc (.cells #[.int .i64 (v)] 3)).alloc (.cells #[sv (maskOf [v])] 84)) w.heap.size 84 _ (svs ((chOf n cs).take i)) := fun nq => (Own.alloc (w := (wr.drewN nq).alloc (.cells #[.int .i64 (v)] 3)) (Own.alloc (w := wr.drewN nq) (HO.out.chg (S := fun _ => False) ((Chg.refl _ _).drewN nq) (fun _ _ e => e)) _) _)
        have NA : ∀ nq, Blk (((wr.drewN nq).alloc (.cells #[.int .i64 (v)] 3)).alloc (.cells #[sv (maskOf [v])] 84)) (wr.heap.size + 1) 84 [sv (maskOf [v])] := fun nq => by
          have := blk_new ((wr.drewN nq).alloc (.cells #[.int .i64 (v)] 3)) [sv (maskOf [v])] 84
          rw [World.size_alloc] at this
          exact this
        have hn2 : i + 1 ≤ 20 := by omega
        go_wp2
        go_quiet ((go_at_call 76; exact Calls.quiet_of_same (place_any _ _ (by omega))))
        go_wp2_with (first
          | (go_at_call 54; refine (cL _).mono ?_; rintro e w' ⟨rfl, hw'⟩; obtain rfl := hw'.symm)
          | (at_builtin; refine wpList_append_new (.tmp 33) (.tmp 37) 121 84 (.int .u64 0) 8 Tryd.underlying121 Tryd.infoSet rfl w.heap.size (wr.heap.size + 1) _ _ [sv (maskOf [v])] 1 i (by rw [List.length_map]; exact hlen) rfl (by decide) (by rfl) (by rfl) (OA _) (NA _) (by intro u hu; simp at hu; rw [hu]; rfl) (by unfold maxLen; omega) (by omega) (by simp [World.drewN]; omega) ?_; intro g5 cap5 w5 hO5 hgr5 hat5 hlt5))
        obtain ⟨e1, e2, e3, e4⟩ := HEnd.out _ _ _ g5 cap5 w5 _ _ HX.out hO5 hgr5 HO.out
        exact ⟨⟨i + 1, by omega, by go_num, e1, e2, e3, e4⟩, by simp [intOf]; omega⟩
      · have ho := order_lt b2 b1 hr

        have HX : Hid (v = pickLit cs v) := by unfold Hid; rw [HPk.out]; rw [if_neg (by omega)]
        have cL : ∀ nq, Calls Tryd.prog 54 #[.slice (some ⟨wr.heap.size, 0, none⟩) 1 1] ((wr.drewN nq).alloc (.cells #[.int .i64 (v)] 3)) fun e w' => e = .returned (sv (maskOf [v])) ∧ w' = (wr.drewN nq).alloc (.cells #[.int .i64 (v)] 3) := fun nq => litsOf_any n hn (some ⟨wr.heap.size, 0, none⟩) 1 [v] _ (wr.heap.size + 1) (fun _ => ⟨wr.heap.size, 0, rfl, Nat.lt_succ_self _, fun j hj => by
          have hj0 : j = 0 := by simp at hj; omega
          subst hj0
          exact (blk_new (wr.drewN nq) [.int .i64 (v)] 3).cell (i := 0) (by simp) undef⟩) (fun l hl => by rw [List.mem_singleton] at hl; rw [hl]; unfold IsLit; omega) (by simp)
        have OA : ∀ nq, Own (((wr.drewN nq).alloc (.cells #[.int .i64 (v)] 3)).alloc (.cells #[sv (maskOf [v])] 84)) w.heap.size 84 _ (svs ((chOf n cs).take i)) := fun nq => (Own.alloc (w := (wr.drewN nq).alloc (.cells #[.int .i64 (v)] 3)) (Own.alloc (w := wr.drewN nq) (HO.out.chg (S := fun _ => False) ((Chg.refl _ _).drewN nq) (fun _ _ e => e)) _) _)
        have NA : ∀ nq, Blk (((wr.drewN nq).alloc (.cells #[.int .i64 (v)] 3)).alloc (.cells #[sv (maskOf [v])] 84)) (wr.heap.size + 1) 84 [sv (maskOf [v])] := fun nq => by
          have := blk_new ((wr.drewN nq).alloc (.cells #[.int .i64 (v)] 3)) [sv (maskOf [v])] 84
          rw [World.size_alloc] at this
          exact this
        have hn2 : i + 1 ≤ 20 := by omega
        go_wp2
        go_quiet ((go_at_call 76; exact Calls.quiet_of_same (place_any _ _ (by omega))))
        go_wp2_with (first
          | (go_at_call 54; refine (cL _).mono ?_; rintro e w' ⟨rfl, hw'⟩; obtain rfl := hw'.symm)
          | (at_builtin; refine wpList_append_new (.tmp 33) (.tmp 37) 121 84 (.int .u64 0) 8 Tryd.underlying121 Tryd.infoSet rfl w.heap.size (wr.heap.size + 1) _ _ [sv (maskOf [v])] 1 i (by rw [List.length_map]; exact hlen) rfl (by decide) (by rfl) (by rfl) (OA _) (NA _) (by intro u hu; simp at hu; rw [hu]; rfl) (by unfold maxLen; omega) (by omega) (by simp [World.drewN]; omega) ?_; intro g5 cap5 w5 hO5 hgr5 hat5 hlt5))
        obtain ⟨e1, e2, e3, e4⟩ := HEnd.out _ _ _ g5 cap5 w5 _ _ HX.out hO5 hgr5 HO.out
        exact ⟨⟨i + 1, by omega, by go_num, e1, e2, e3, e4⟩, by simp [intOf]; omega⟩
    · obtain rfl : i = n := by omega
      have HE : Hid ((chOf i cs).take i = chOf i cs) := by unfold Hid; rw [List.take_of_length_le (by rw [chOf_len]; omega)]
      go_wp2
      go_ret
      exact ⟨_, rfl, by rw [← HE.out]; exact HO.out, HB.out⟩
end Go.Proofs.YtomebpjjeldhdaaDoor
