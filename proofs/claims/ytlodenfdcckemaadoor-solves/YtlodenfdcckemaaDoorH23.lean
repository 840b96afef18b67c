/-
  Several texts, one behind the other.
-/
import Derived.Test.YtlodenfdcckemaaDoorH22
import Derived.Test.YtlodenfdcckemaaDoorH10
import Derived.Test.YtlodenfdcckemaaDoorH3
import Derived.Deep.QuietTactic
import Derived.Test.YtlodenfdcckemaaDoorH9
/-
  The literals to choose: the walk of choices.
-/

namespace Go.Proofs.YtlodenfdcckemaaDoor
open Go.RowKit

attribute [local go_sem] run_store_float

/-- Of a variable the literal that weighs more. -/
def pickLit (cs : List (List Int)) (v : Int) : Int := if partsOf cs v < partsOf cs (-v) then -v else v

def chOf (n : Nat) (cs : List (List Int)) : List Nat := (drain n (built (weight cs) n)).map fun v => 2 ^ pl (pickLit cs v)

theorem pickLit_lit {n : Nat} {cs : List (List Int)} {v : Int} (h1 : 1 ≤ v) (h2 : v ≤ n) : IsLit n (pickLit cs v) := by
  unfold pickLit IsLit
  split <;> omega

theorem chOf_ok (n : Nat) (cs : List (List Int)) : Chs n (chOf n cs) := by
  refine ⟨fun l hl => ?_, fun v hv => ?_⟩
  · unfold chOf at hl
    obtain ⟨x, hx, rfl⟩ := List.mem_map.1 hl
    obtain ⟨h1, h2⟩ := drain_mem.1 hx
    exact ⟨_, pl_lt (pickLit_lit h1 h2), rfl⟩
  · refine ⟨2 ^ pl (pickLit cs ((v : Int) + 1)), List.mem_map.2 ⟨(v : Int) + 1, drain_mem.2 (by omega), rfl⟩, ?_⟩
    unfold pickLit
    split
    · right; congr 1; unfold pl; rw [if_pos (by omega)]; omega
    · left; congr 1; unfold pl; rw [if_neg (by omega)]; omega

theorem chOf_len (n : Nat) (cs : List (List Int)) : (chOf n cs).length = n := by unfold chOf; rw [List.length_map, drain_len]

theorem mask_one (x : Int) : maskOf [x] = 2 ^ pl x := by simp [maskOf]

theorem chOf_take (n : Nat) (cs : List (List Int)) (i : Nat) (hi : i < n) : (chOf n cs).take (i + 1) = (chOf n cs).take i ++ [2 ^ pl (pickLit cs ((drain n (built (weight cs) n)).getD i 0))] := by
  have h2 : i < (drain n (built (weight cs) n)).length := by rw [drain_len]; exact hi
  unfold chOf
  rw [← List.map_take, ← List.map_take, List.take_succ_eq_append_getElem h2, List.map_append, getD_lt _ _ _ h2]
  rfl

set_option maxRecDepth 100000 in
set_option maxHeartbeats 2000000 in
theorem choices_any (n : Nat) (ao : Option Addr) (cap : Nat) (cs : List (List Int)) (w : World) (hc : ListsAt w w.heap.size ao cs) (hg : Good n cs) :
    Calls Tryd.prog 95 #[.agg #[.int .i64 n, .slice ao cs.length cap]] w fun e w' => ∃ v, e = .returned v ∧ Own w' w.heap.size 71 v (svs (chOf n cs)) ∧ Below w.heap.size w w' := by
  have hn := hg.vars
  have hw1 : Below w.heap.size w (w.alloc (.cells #[.int .i64 n, .slice ao cs.length cap] 31)) := (Below.refl _ _).alloc (Nat.le_refl _) _
  have B0 := blk_new w [.int .i64 n, .slice ao cs.length cap] 31
  have hS0 := alloc_size w (.cells #[.int .i64 n, .slice ao cs.length cap] 31)
  dsimp only [List.toArray] at B0
  go_enter Tryd.func95, Tryd.ntmps95
  go_wp2_with fail
  generalize w.alloc (.cells #[.int .i64 n, .slice ao cs.length cap] 31) = W0 at *
  have hc0 := (hc.below hw1 (Nat.le_refl _)).mono hw1.size
  refine (ofLiterals_any n ao cap cs W0 hc0 hg).mono ?_
  rintro e w1 ⟨g1, rfl, hg1, hB1, hb1⟩
  have B01 := B0.below' hb1
  have n0 : w1.cell? ⟨w.heap.size, 0, none⟩ = some (.int .i64 n) := B01.cell (i := 0) (by simp) undef
  have n1 : w1.cell? ⟨w.heap.size, 1, none⟩ = some (.slice ao cs.length cap) := B01.cell (i := 1) (by simp) undef
  have hbw1 : Below w.heap.size w w1 := hw1.trans (hb1.mono hw1.size)
  have hc1 := (hc.below hbw1 (Nat.le_refl _)).mono hbw1.size
  go_wp2_with (at_make; refine wpList_make_blk2 _ rfl (.const (.int .i64 0)) (.tmp 10) 100 rfl 71 (.int .u64 0) 8 Tryd.underlying100 Tryd.infoSet rfl .i64 .i64 0 n _ _ rfl rfl rfl rfl (Nat.zero_le _) (by omega) (by omega) ?_; intro w2 hB2 hb2 hs2; have n02 : w2.cell? ⟨w.heap.size, 0, none⟩ = some (.int .i64 n) := (B01.below' hb2).cell (i := 0) (by simp) undef; have n12 : w2.cell? ⟨w.heap.size, 1, none⟩ = some (.slice ao cs.length cap) := (B01.below' hb2).cell (i := 1) (by simp) undef)
  have hbw2 : Below w.heap.size w w2 := hbw1.trans (hb2.mono hbw1.size)
  have hc2 := (hc.below hbw2 (Nat.le_refl _)).mono hbw2.size
  have HO2 : Hid (Own w2 w.heap.size 71 (.slice (some ⟨w1.heap.size, 0, none⟩) 0 n) (svs [])) := Or.inr ⟨w1.heap.size, n, rfl, hbw1.size, by unfold maxLen; omega, ⟨_, hB2, by simp⟩⟩
  have hB12 := hB1.below' hb2
  refine (order_any n ao cap cs w2 hc2 hg).mono ?_
  rintro e w3 ⟨g3, rfl, hg3, hB3, hb3⟩
  have HB1 : Hid (Blk w3 g1 159 (litCells n cs cs.length [] 0)) := hB12.below' hb3
  have HB3 : Hid (Blk w3 g3 3 ((drain n (built (weight cs) n)).map (Value.int .i64))) := hB3
  have HO3 : Hid (Own w3 w.heap.size 71 (.slice (some ⟨w1.heap.size, 0, none⟩) 0 n) (svs [])) := HO2.out.below' hb3
  have HBe : Hid (Below w.heap.size w w3) := hbw2.trans (hb3.mono hbw2.size)
  clear B0 B01 hB1 hB12 hB2 hB3 n0 n1 n02 n12 hc0 hc1 hc2 hb1 hb2 hb3 hbw1 hbw2 hs2 HO2 hw1
  go_wp2
  go_loopw [4, 15] (fun l x wr => ∃ (i : Nat), i ≤ n ∧ x = .int .i64 i ∧ Hid (Own wr w.heap.size 71 l (svs ((chOf n cs).take i))) ∧ Hid (Blk wr g1 159 (litCells n cs cs.length [] 0)) ∧ Hid (Blk wr g3 3 ((drain n (built (weight cs) n)).map (Value.int .i64))) ∧ Hid (Below w.heap.size w wr)) (fun _ x _ => n - (intOf x).toNat)
  case atStart => exact ⟨0, Nat.zero_le _, rfl, HO3, HB1, HB3, HBe⟩
  case round =>
    obtain ⟨i, hi, rfl, HO, HF, HR, HB⟩ := hrel
    by_cases hlt : i < n
    · have hd : i < (drain n (built (weight cs) n)).length := by rw [drain_len]; exact hlt
      have hmem : (drain n (built (weight cs) n)).getD i 0 ∈ drain n (built (weight cs) n) := by rw [getD_lt _ _ _ hd]; exact List.getElem_mem hd
      obtain ⟨hv1, hv2⟩ := drain_mem.1 hmem
      have hck : wr.cell? ⟨g3, i, none⟩ = some (.int .i64 ((drain n (built (weight cs) n)).getD i 0)) := by
        have := HR.out.cell (i := i) (by simpa using hd) (.int .i64 0)
        rw [this]
        simp [hd]
      have HTk : Hid ((chOf n cs).take (i + 1) = (chOf n cs).take i ++ [2 ^ pl (pickLit cs ((drain n (built (weight cs) n)).getD i 0))]) := chOf_take n cs i hlt
      generalize (drain n (built (weight cs) n)).getD i 0 = v at *
      have p1 := placeOf_lt (n := n) (x := v) (by omega)
      have p2 := placeOf_lt (n := n) (x := -v) (by omega)
      have s1 : wr.cell? ⟨g1, placeOf v, none⟩ = some (.float .f64 (Fl.W (partsOf cs v))) := (HF.out.cell (i := placeOf v) (by simp [litCells]; omega) undef).trans (by rw [litCells_get _ _ _ p1, litAt_placeOf (by omega)])
      have s2 : wr.cell? ⟨g1, placeOf (-v), none⟩ = some (.float .f64 (Fl.W (partsOf cs (-v)))) := (HF.out.cell (i := placeOf (-v)) (by simp [litCells]; omega) undef).trans (by rw [litCells_get _ _ _ p2, litAt_placeOf (by omega)])
      have b1 : partsOf cs v < 9007199254740992 := by have := hg.parts_le v; omega
      have b2 : partsOf cs (-v) < 9007199254740992 := by have := hg.parts_le (-v); omega
      have HPk : Hid (pickLit cs v = if partsOf cs v < partsOf cs (-v) then -v else v) := rfl
      have hlen : ((chOf n cs).take i).length = i := by rw [List.length_take, chOf_len]; omega
      have hsz := HB.out.size
      generalize partsOf cs v = r1 at *
      generalize partsOf cs (-v) = r2 at *
      have i1 : (placeOf v : Int) < 2 * (n : Int) := by omega
      have i2 : (placeOf (-v) : Int) < 2 * (n : Int) := by omega
      have hv20 : v ≤ 20 := by omega
      -- behind the comparison
      have HEnd : Hid (∀ (nq : Nat) (x : Int) (l' : Value) (g5 cap5 : Nat) (w5 : World) (o o' : Obj), x = pickLit cs v → Own w5 w.heap.size 71 (.slice (some ⟨g5, 0, none⟩) (i + 1) cap5) (svs ((chOf n cs).take i) ++ [sv (maskOf [x])]) → (((wr.drewN nq).alloc o).alloc o').grownBy w5 l'.ownBlock → Own wr w.heap.size 71 l' (svs ((chOf n cs).take i)) →
          Hid (Own w5 w.heap.size 71 (.slice (some ⟨g5, 0, none⟩) (i + 1) cap5) (svs ((chOf n cs).take (i + 1)))) ∧ Hid (Blk w5 g1 159 (litCells n cs cs.length [] 0)) ∧ Hid (Blk w5 g3 3 ((drain n (built (weight cs) n)).map (Value.int .i64))) ∧ Hid (Below w.heap.size w w5)) := by
        intro nq x l' g5 cap5 w5 o o' hx hO5 hgr hOl
        have e1 : svs ((chOf n cs).take (i + 1)) = svs ((chOf n cs).take i) ++ [sv (maskOf [x])] := by rw [HTk.out, mask_one, hx]; simp
        have hA : Below wr.heap.size wr (((wr.drewN nq).alloc o).alloc o') := ((⟨rfl, rfl, rfl, Nat.le_refl _, fun _ _ => rfl⟩ : Below wr.heap.size wr (wr.drewN nq)).alloc (Nat.le_refl _) o).alloc (by simp [World.drewN]) o'
        have F2 := HF.out.below' hA
        have R2 := HR.out.below' hA
        have O2 := hOl.below' hA
        refine ⟨by unfold Hid; rw [e1]; exact hO5, F2.grown hgr (own_blk O2 F2 (by decide)), R2.grown hgr (own_blk O2 R2 (by decide)), ?_⟩
        have hb1 : Below w.heap.size w (((wr.drewN nq).alloc o).alloc o') := HB.out.trans (hA.mono hsz)
        exact hb1.trans ⟨hgr.os, hgr.tape, hgr.output, hgr.size, fun k hk => hgr.block k (by have := hb1.size; omega) (fun e => by have := (O2.lt e.symm).1; omega)⟩
      rcases Nat.lt_trichotomy r1 r2 with hr | hr | hr
      · have ho := order_gt b2 b1 hr

        have HX : Hid (-v = pickLit cs v) := by unfold Hid; rw [HPk.out]; rw [if_pos hr]
        have cL : ∀ nq, Calls Tryd.prog 44 #[.slice (some ⟨wr.heap.size, 0, none⟩) 1 1] ((wr.drewN nq).alloc (.cells #[.int .i64 (-v)] 3)) fun e w' => e = .returned (sv (maskOf [-v])) ∧ w' = (wr.drewN nq).alloc (.cells #[.int .i64 (-v)] 3) := fun nq => litsOf_any n hn (some ⟨wr.heap.size, 0, none⟩) 1 [-v] _ (wr.heap.size + 1) (fun _ => ⟨wr.heap.size, 0, rfl, Nat.lt_succ_self _, fun j hj => by
          have hj0 : j = 0 := by simp at hj; omega
          subst hj0
          exact (blk_new (wr.drewN nq) [.int .i64 (-v)] 3).cell (i := 0) (by simp) undef⟩) (fun l hl => by rw [List.mem_singleton] at hl; rw [hl]; unfold IsLit; omega) (by simp)
        have OA : ∀ nq, Own (((wr.drewN nq).alloc (.cells #[.int .i64 (-v)] 3)).alloc (.cells #[sv (maskOf [-v])] 71)) w.heap.size 71 _ (svs ((chOf n cs).take i)) := fun nq => (Own.alloc (w := (wr.drewN nq).alloc (.cells #[.int .i64 (-v)] 3)) (Own.alloc (w := wr.drewN nq) (HO.out.chg (S := fun _ => False) ((Chg.refl _ _).drewN nq) (fun _ _ e => e)) _) _)
        have NA : ∀ nq, Blk (((wr.drewN nq).alloc (.cells #[.int .i64 (-v)] 3)).alloc (.cells #[sv (maskOf [-v])] 71)) (wr.heap.size + 1) 71 [sv (maskOf [-v])] := fun nq => by
          have := blk_new ((wr.drewN nq).alloc (.cells #[.int .i64 (-v)] 3)) [sv (maskOf [-v])] 71
          rw [World.size_alloc] at this
          exact this
        have hn2 : i + 1 ≤ 20 := by omega
        go_wp2
        go_quiet ((go_at_call 67; exact Calls.quiet_of_same (place_any _ _ (by omega))))
        go_wp2_with (first
          | (go_at_call 44; refine (cL _).mono ?_; rintro e w' ⟨rfl, hw'⟩; obtain rfl := hw'.symm)
          | (at_builtin; refine wpList_append_new (.tmp 33) (.tmp 37) 100 71 (.int .u64 0) 8 Tryd.underlying100 Tryd.infoSet rfl w.heap.size (wr.heap.size + 1) _ _ [sv (maskOf [-v])] 1 i (by rw [List.length_map]; exact hlen) rfl (by decide) (by rfl) (by rfl) (OA _) (NA _) (by intro u hu; simp at hu; rw [hu]; rfl) (by unfold maxLen; omega) (by omega) (by simp [World.drewN]; omega) ?_; intro g5 cap5 w5 hO5 hgr5 hat5 hlt5))
        obtain ⟨e1, e2, e3, e4⟩ := HEnd.out _ _ _ g5 cap5 w5 _ _ HX.out hO5 hgr5 HO.out
        exact ⟨⟨i + 1, by omega, by go_num, e1, e2, e3, e4⟩, by simp [intOf]; omega⟩
      · subst hr
        have ho := order_eq b2

        have HX : Hid (v = pickLit cs v) := by unfold Hid; rw [HPk.out]; rw [if_neg (by omega)]
        have cL : ∀ nq, Calls Tryd.prog 44 #[.slice (some ⟨wr.heap.size, 0, none⟩) 1 1] ((wr.drewN nq).alloc (.cells #[.int .i64 (v)] 3)) fun e w' => e = .returned (sv (maskOf [v])) ∧ w' = (wr.drewN nq).alloc (.cells #[.int .i64 (v)] 3) := fun nq => litsOf_any n hn (some ⟨wr.heap.size, 0, none⟩) 1 [v] _ (wr.heap.size + 1) (fun _ => ⟨wr.heap.size, 0, rfl, Nat.lt_succ_self _, fun j hj => by
          have hj0 : j = 0 := by simp at hj; omega
          subst hj0
          exact (blk_new (wr.drewN nq) [.int .i64 (v)] 3).cell (i := 0) (by simp) undef⟩) (fun l hl => by rw [List.mem_singleton] at hl; rw [hl]; unfold IsLit; omega) (by simp)
        have OA : ∀ nq, Own (((wr.drewN nq).alloc (.cells #[.int .i64 (v)] 3)).alloc (.cells #[sv (maskOf [v])] 71)) w.heap.size 71 _ (svs ((chOf n cs).take i)) := fun nq => (Own.alloc (w := (wr.drewN nq).alloc (.cells #[.int .i64 (v)] 3)) (Own.alloc (w := wr.drewN nq) (HO.out.chg (S := fun _ => False) ((Chg.refl _ _).drewN nq) (fun _ _ e => e)) _) _)
        have NA : ∀ nq, Blk (((wr.drewN nq).alloc (.cells #[.int .i64 (v)] 3)).alloc (.cells #[sv (maskOf [v])] 71)) (wr.heap.size + 1) 71 [sv (maskOf [v])] := fun nq => by
          have := blk_new ((wr.drewN nq).alloc (.cells #[.int .i64 (v)] 3)) [sv (maskOf [v])] 71
          rw [World.size_alloc] at this
          exact this
        have hn2 : i + 1 ≤ 20 := by omega
        go_wp2
        go_quiet ((go_at_call 67; exact Calls.quiet_of_same (place_any _ _ (by omega))))
        go_wp2_with (first
          | (go_at_call 44; refine (cL _).mono ?_; rintro e w' ⟨rfl, hw'⟩; obtain rfl := hw'.symm)
          | (at_builtin; refine wpList_append_new (.tmp 33) (.tmp 37) 100 71 (.int .u64 0) 8 Tryd.underlying100 Tryd.infoSet rfl w.heap.size (wr.heap.size + 1) _ _ [sv (maskOf [v])] 1 i (by rw [List.length_map]; exact hlen) rfl (by decide) (by rfl) (by rfl) (OA _) (NA _) (by intro u hu; simp at hu; rw [hu]; rfl) (by unfold maxLen; omega) (by omega) (by simp [World.drewN]; omega) ?_; intro g5 cap5 w5 hO5 hgr5 hat5 hlt5))
        obtain ⟨e1, e2, e3, e4⟩ := HEnd.out _ _ _ g5 cap5 w5 _ _ HX.out hO5 hgr5 HO.out
        exact ⟨⟨i + 1, by omega, by go_num, e1, e2, e3, e4⟩, by simp [intOf]; omega⟩
      · have ho := order_lt b2 b1 hr

        have HX : Hid (v = pickLit cs v) := by unfold Hid; rw [HPk.out]; rw [if_neg (by omega)]
        have cL : ∀ nq, Calls Tryd.prog 44 #[.slice (some ⟨wr.heap.size, 0, none⟩) 1 1] ((wr.drewN nq).alloc (.cells #[.int .i64 (v)] 3)) fun e w' => e = .returned (sv (maskOf [v])) ∧ w' = (wr.drewN nq).alloc (.cells #[.int .i64 (v)] 3) := fun nq => litsOf_any n hn (some ⟨wr.heap.size, 0, none⟩) 1 [v] _ (wr.heap.size + 1) (fun _ => ⟨wr.heap.size, 0, rfl, Nat.lt_succ_self _, fun j hj => by
          have hj0 : j = 0 := by simp at hj; omega
          subst hj0
          exact (blk_new (wr.drewN nq) [.int .i64 (v)] 3).cell (i := 0) (by simp) undef⟩) (fun l hl => by rw [List.mem_singleton] at hl; rw [hl]; unfold IsLit; omega) (by simp)
        have OA : ∀ nq, Own (((wr.drewN nq).alloc (.cells #[.int .i64 (v)] 3)).alloc (.cells #[sv (maskOf [v])] 71)) w.heap.size 71 _ (svs ((chOf n cs).take i)) := fun nq => (Own.alloc (w := (wr.drewN nq).alloc (.cells #[.int .i64 (v)] 3)) (Own.alloc (w := wr.drewN nq) (HO.out.chg (S := fun _ => False) ((Chg.refl _ _).drewN nq) (fun _ _ e => e)) _) _)
        have NA : ∀ nq, Blk (((wr.drewN nq).alloc (.cells #[.int .i64 (v)] 3)).alloc (.cells #[sv (maskOf [v])] 71)) (wr.heap.size + 1) 71 [sv (maskOf [v])] := fun nq => by
          have := blk_new ((wr.drewN nq).alloc (.cells #[.int .i64 (v)] 3)) [sv (maskOf [v])] 71
          rw [World.size_alloc] at this
          exact this
        have hn2 : i + 1 ≤ 20 := by omega
        go_wp2
        go_quiet ((go_at_call 67; exact Calls.quiet_of_same (place_any _ _ (by omega))))
        go_wp2_with (first
          | (go_at_call 44; refine (cL _).mono ?_; rintro e w' ⟨rfl, hw'⟩; obtain rfl := hw'.symm)
          | (at_builtin; refine wpList_append_new (.tmp 33) (.tmp 37) 100 71 (.int .u64 0) 8 Tryd.underlying100 Tryd.infoSet rfl w.heap.size (wr.heap.size + 1) _ _ [sv (maskOf [v])] 1 i (by rw [List.length_map]; exact hlen) rfl (by decide) (by rfl) (by rfl) (OA _) (NA _) (by intro u hu; simp at hu; rw [hu]; rfl) (by unfold maxLen; omega) (by omega) (by simp [World.drewN]; omega) ?_; intro g5 cap5 w5 hO5 hgr5 hat5 hlt5))
        obtain ⟨e1, e2, e3, e4⟩ := HEnd.out _ _ _ g5 cap5 w5 _ _ HX.out hO5 hgr5 HO.out
        exact ⟨⟨i + 1, by omega, by go_num, e1, e2, e3, e4⟩, by simp [intOf]; omega⟩
    · obtain rfl : i = n := by omega
      have HE : Hid ((chOf i cs).take i = chOf i cs) := by unfold Hid; rw [List.take_of_length_le (by rw [chOf_len]; omega)]
      go_wp2
      go_ret
      exact ⟨_, rfl, by rw [← HE.out]; exact HO.out, HB.out⟩
end Go.Proofs.YtlodenfdcckemaaDoor

/-
  Lists that a call has made; changes of blocks of some types alone.
-/

namespace Go.Proofs.YtlodenfdcckemaaDoor
open Go.RowKit

/-- Only blocks of some types have turned. -/
def TChg (Ts : TypeId → Prop) (w w' : World) : Prop := ∃ S, Chg S w w' ∧ ∀ b, S b → b < w.heap.size → ∃ t L, Blk w b t L ∧ Ts t

namespace TChg
variable {Ts : TypeId → Prop} {w w' : World}
theorem of_below (h : Below w.heap.size w w') : TChg Ts w w' := ⟨fun _ => False, Chg.of_below h, fun _ e => e.elim⟩
theorem size (h : TChg Ts w w') : w.heap.size ≤ w'.heap.size := h.elim fun _ hs => hs.1.size
theorem blk (h : TChg Ts w w') {g : Nat} {t : TypeId} {L : List Value} (hB : Blk w g t L) (ht : ¬ Ts t) : Blk w' g t L := by
  obtain ⟨S, hc, hS⟩ := h
  refine hB.chg hc fun e => ?_
  obtain ⟨t', L', hB', h'⟩ := hS g e hB.lt
  unfold Blk at hB hB'
  rw [hB] at hB'
  simp at hB'
  exact ht (hB'.2 ▸ h')
theorem own (h : TChg Ts w w') {b : Nat} {t : TypeId} {v : Value} {xs : List Value} (hO : Own w b t v xs) (ht : ¬ Ts t) : Own w' b t v xs := by
  rcases hO with h0 | ⟨g, cap, rfl, h1, h2, r, hr, hl⟩
  · exact Or.inl h0
  · exact Or.inr ⟨g, cap, rfl, h1, h2, r, h.blk hr ht, hl⟩
theorem mono {Us : TypeId → Prop} (h : TChg Ts w w') (hs : ∀ t, Ts t → Us t) : TChg Us w w' := by
  obtain ⟨S, hc, hS⟩ := h
  exact ⟨S, hc, fun b hb hl => by obtain ⟨t, L, h1, h2⟩ := hS b hb hl; exact ⟨t, L, h1, hs t h2⟩⟩
end TChg

theorem Own.blkOf {w : World} {b : Nat} {t : TypeId} {v : Value} {xs : List Value} (h : Own w b t v xs) {k : Nat} (e : v.ownBlock = some k) : ∃ L, Blk w k t L := by
  rcases h with ⟨rfl, _⟩ | ⟨g, cap, rfl, _, _, r, hr, _⟩
  · simp [Value.ownBlock] at e
  · simp [Value.ownBlock] at e; subst e; exact ⟨_, hr⟩
theorem Own.lower {w : World} {b b' : Nat} {t : TypeId} {v : Value} {xs : List Value} (h : Own w b t v xs) (hb : b' ≤ b) : Own w b' t v xs := by
  rcases h with h0 | ⟨g, cap, rfl, h1, h2, hr⟩
  · exact Or.inl h0
  · exact Or.inr ⟨g, cap, rfl, Nat.le_trans hb h1, h2, hr⟩

theorem Tryd.infoInts : (Tryd.prog.info? 24).map (fun i => (i.zero, i.size, i.bytes)) = some (some (.slice none 0 0), 1, 24) := by kernel_rfl

/-- Lists that a call has made: each its own block, all from base on, no two in one. -/
structure MadeS (w : World) (base : Nat) (v : Value) (vs : List Value) (cs : List (List Int)) : Prop where
  oe : Own w base 24 v vs
  len : vs.length = cs.length
  ls : ∀ i, i < vs.length → Own w base 3 (vs.getD i undef) (ints (cs.getD i []))
  nd : (vs.filterMap Value.ownBlock).Nodup

theorem MadeS.start (w : World) (base : Nat) : MadeS w base (.slice none 0 0) [] [] := ⟨Own.nil _ _ _, rfl, fun i hi => absurd hi (by simp), List.nodup_nil⟩
theorem MadeS.tchg {w w' : World} {base : Nat} {v : Value} {vs : List Value} {cs : List (List Int)} {Ts : TypeId → Prop} (h : MadeS w base v vs cs) (ht : TChg Ts w w') (h1 : ¬ Ts 24) (h2 : ¬ Ts 3) : MadeS w' base v vs cs := ⟨ht.own h.oe h1, h.len, fun i hi => ht.own (h.ls i hi) h2, h.nd⟩
theorem MadeS.below' {w w' : World} {base : Nat} {v : Value} {vs : List Value} {cs : List (List Int)} (h : MadeS w base v vs cs) (hb : Below w.heap.size w w') : MadeS w' base v vs cs := ⟨h.oe.below' hb, h.len, fun i hi => (h.ls i hi).below' hb, h.nd⟩
theorem MadeS.lower {w : World} {b b' : Nat} {v : Value} {vs : List Value} {cs : List (List Int)} (h : MadeS w b v vs cs) (hb : b' ≤ b) : MadeS w b' v vs cs := ⟨h.oe.lower hb, h.len, fun i hi => (h.ls i hi).lower hb, h.nd⟩

/-- The blocks of lists that lie below some place. -/
theorem MadeS.lt {w : World} {base : Nat} {v : Value} {vs : List Value} {cs : List (List Int)} (h : MadeS w base v vs cs) {k : Nat} (hk : k ∈ vs.filterMap Value.ownBlock) : base ≤ k ∧ k < w.heap.size := by
  obtain ⟨y, hy, e⟩ := List.mem_filterMap.1 hk
  obtain ⟨i, hi, rfl⟩ := List.getElem_of_mem hy
  have := h.ls i hi
  rw [getD_lt _ _ _ hi] at this
  exact this.lt e

theorem MadeS.more {w w1 w' : World} {base g cap n : Nat} {v x : Value} {vs : List Value} {cs : List (List Int)} {c : List Int} (h : MadeS w base v vs cs) (hb : Below w.heap.size w w1) (hx : Own w1 w.heap.size 3 x (ints c)) (hbase : base ≤ w.heap.size) (hown : Own w' base 24 (.slice (some ⟨g, 0, none⟩) n cap) (vs ++ [x])) (hC : Chg (fun k => v.ownBlock = some k) w1 w') : MadeS w' base (.slice (some ⟨g, 0, none⟩) n cap) (vs ++ [x]) (cs ++ [c]) := by
  have hl := h.len
  have h1 := h.below' hb
  refine ⟨hown, by simp [hl], fun i hi => ?_, ?_⟩
  · by_cases hlt : i < vs.length
    · have := (h1.ls i hlt).chg hC (fun k e e' => own_ne h1.oe (h1.ls i hlt) (by decide) e' e)
      rw [getD_lt _ _ _ hi, List.getElem_append_left hlt, getD_lt _ _ _ (by simp; omega), List.getElem_append_left (by omega)]
      rw [getD_lt _ _ _ hlt, getD_lt _ _ _ (by omega)] at this
      exact this
    · have hi' : i = vs.length := by simp at hi; omega
      subst hi'
      have := (hx.lower hbase).chg hC (fun k e e' => own_ne h1.oe hx (by decide) e' e)
      rw [getD_lt _ _ _ hi, getD_lt _ _ _ (by simp; omega)]
      simpa [hl] using this
  · rw [List.filterMap_append, List.nodup_append]
    refine ⟨h.nd, ?_, fun a ha b hb' => ?_⟩
    · cases e : x.ownBlock with
      | none => simp [e]
      | some k => simp [e]
    · have h2 := (h.lt ha).2
      obtain ⟨y, hy, e⟩ := List.mem_filterMap.1 hb'
      rw [List.mem_singleton] at hy
      subst hy
      have h3 := (hx.lt e).1
      omega

end Go.Proofs.YtlodenfdcckemaaDoor
